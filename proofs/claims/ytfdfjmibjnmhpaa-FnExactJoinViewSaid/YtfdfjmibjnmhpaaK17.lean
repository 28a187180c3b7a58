/-
  TellOf of the program: contracts. Which view a state joins, as mathematics. slices.Backward over what was heard: the iterator's contract, for loop bodies that keep cells and write maps. No statement is proved here.
-/
import Derived.Test.YtfdfjmibjnmhpaaK16
import Derived.Test.YtfdfjmibjnmhpaaK07
import Derived.RangeFuncNested
import Derived.RangeFuncBound
import Derived.RangeFuncCalls
import Derived.RangeFuncLeaves
import Derived.Shelf.Abstract
import Derived.Shelf.RegionOpen
import Derived.WalkKit
import Derived.OwnWalkIn
import Derived.TacticsInMore
import Derived.LoopNIn
import Derived.LoopIn
import Derived.Test.YtfdfjmibjnmhpaaChecked
import Derived.Test.YtfdfjmibjnmhpaaK02
set_option linter.unusedVariables false
set_option maxRecDepth 100000
namespace Go.Proofs.Ytfdfjmibjnmhpaa.V
open Go.RowKit Go.Proofs.Ytfdfjmibjnmhpaa.B
set_option maxHeartbeats 3200000 in
theorem implTell_no (q : Rq) (k v x a b : Int) (A : Option Addr) (c : Nat) (vs : List (Int × Int)) (w : World) (hr : RdQ w w.heap.size q) (hf : FewQ q) (hm : Rd w w.heap.size A vs) (hn : vs.length ≤ 1048576) (h : (repQ q.dat && msgOkB k v x a b vs) = false) :
    Calls Try.prog 27 #[q.agg, .agg #[.int .i64 k, .int .i64 v, .int .i64 x, .int .i64 a, .int .i64 b, .slice A vs.length c]] w fun e w' => e = .returned (.bool false) ∧ Below w.heap.size w w' := by
  obtain ⟨g, hg⟩ : ∃ g, repQ q.dat = g := ⟨_, rfl⟩
  obtain ⟨m, hm2⟩ : ∃ m, msgOkB k v x a b vs = m := ⟨_, rfl⟩
  have HC := Lib.hid (fun (W : World) (h : Below w.heap.size w W) => implRepOk_is g q hg W ((hr.below h).more h.size) hf)
  have HM := Lib.hid (fun (W : World) (h : Below w.heap.size w W) => implMsgOk_is m k v x a b A c vs hm2 W ((hm.below h).more h.size) hn)
  have hgm : g = true → m = false := fun e => by rw [← hg] at e; rw [e, Bool.true_and] at h; rw [← hm2]; exact h
  clear hg hm2 h
  obtain ⟨n, id, own, view, left, voted, lv, lx, dn, pr, vo, re, ds, hs, Av, Ap, Ao, Ar, Ad, Ah, cv, cp, co, cr, cd, ch⟩ := q
  obtain ⟨rv, rp, ro, rr, rd, rh⟩ := hr
  obtain ⟨fv, fp, fo, fr, fd, fh⟩ := hf
  simp only [Rq.agg, Rq.cells] at *
  obtain ⟨lv0, elv0⟩ : ∃ m, voted.length = m := ⟨_, rfl⟩
  obtain ⟨lp0, elp0⟩ : ∃ m, pr.length = m := ⟨_, rfl⟩
  obtain ⟨lo0, elo0⟩ : ∃ m, vo.length = m := ⟨_, rfl⟩
  obtain ⟨lr0, elr0⟩ : ∃ m, re.length = m := ⟨_, rfl⟩
  obtain ⟨ld0, eld0⟩ : ∃ m, ds.length = m := ⟨_, rfl⟩
  obtain ⟨lh0, elh0⟩ : ∃ m, hs.length = m := ⟨_, rfl⟩
  obtain ⟨l, el⟩ : ∃ m, vs.length = m := ⟨_, rfl⟩
  simp only [elv0, elp0, elo0, elr0, eld0, elh0, el] at HC HM ⊢
  clear elv0 elp0 elo0 elr0 eld0 elh0 el rv rp ro rr rd rh fv fp fo fr fd fh hm hn
  have HGM := Lib.hid hgm; clear hgm
  have ka := (Blk.new w 40 #[.int .i64 n, .int .i64 id, .int .i64 own, .int .i64 view, .int .i64 left, .slice Av lv0 cv, .int .i64 lv, .int .i64 lx, .int .i64 dn, .slice Ap lp0 cp, .slice Ao lo0 co, .slice Ar lr0 cr, .slice Ad ld0 cd, .slice Ah lh0 ch]).alloc (.cells #[.int .i64 k, .int .i64 v, .int .i64 x, .int .i64 a, .int .i64 b, .slice A l c] 45)
  have km := Blk.new (w.alloc (.cells #[.int .i64 n, .int .i64 id, .int .i64 own, .int .i64 view, .int .i64 left, .slice Av lv0 cv, .int .i64 lv, .int .i64 lx, .int .i64 dn, .slice Ap lp0 cp, .slice Ao lo0 co, .slice Ar lr0 cr, .slice Ad ld0 cd, .slice Ah lh0 ch] 40)) 45 #[.int .i64 k, .int .i64 v, .int .i64 x, .int .i64 a, .int .i64 b, .slice A l c]
  simp only [World.size_alloc] at km
  have hB := up_ (up_ (Below.refl w.heap.size w) (.cells #[.int .i64 n, .int .i64 id, .int .i64 own, .int .i64 view, .int .i64 left, .slice Av lv0 cv, .int .i64 lv, .int .i64 lx, .int .i64 dn, .slice Ap lp0 cp, .slice Ao lo0 co, .slice Ar lr0 cr, .slice Ad ld0 cd, .slice Ah lh0 ch] 40)) (.cells #[.int .i64 k, .int .i64 v, .int .i64 x, .int .i64 a, .int .i64 b, .slice A l c] 45)
  have ra := ka.rule; have rm := km.rule
  go_enter Try.func27, Try.ntmps27
  go_wp2_with fail
  refine (HC.out _ hB).mono ?_
  rintro e w1 ⟨rfl, hb⟩
  have ka' := ka.on hb; have km' := km.on hb; have hB' := on_ hB hb; clear ka km hB ra rm hb; have ka := ka'; have km := km'; have hB := hB'; clear ka' km' hB'; have ra := ka.rule; have rm := km.rule
  rcases g with _ | _
  · go_wp2
    go_ret
    exact ⟨rfl, hB⟩
  · obtain rfl := HGM.out rfl
    go_wp2_with fail
    refine (HM.out _ hB).mono ?_
    rintro e w2 ⟨rfl, hb⟩
    have ka' := ka.on hb; have km' := km.on hb; have hB' := on_ hB hb; clear ka km hB ra rm hb; have ka := ka'; have km := km'; have hB := hB'; clear ka' km' hB'; have ra := ka.rule; have rm := km.rule
    go_wp2
    go_ret
    exact ⟨rfl, hB⟩
set_option maxHeartbeats 6400000 in
theorem implTell_rep (q : Rq) (v x a b : Int) (A : Option Addr) (c : Nat) (vs : List (Int × Int)) (w : World) (hr : RdQ w w.heap.size q) (hf : FewQ q) (hm : Rd w w.heap.size A vs) (hn : vs.length ≤ 1048576) (hg : repQ q.dat = true) (hm2 : msgOkB 3 v x a b vs = true) :
    Calls Try.prog 27 #[q.agg, .agg #[.int .i64 3, .int .i64 v, .int .i64 x, .int .i64 a, .int .i64 b, .slice A vs.length c]] w fun e w' => e = .returned (.bool (hasI (hFrom q.dat.hs v) q.dat.id)) ∧ Below w.heap.size w w' := by
  have HC := Lib.hid (fun (W : World) (h : Below w.heap.size w W) => implRepOk_is true q hg W ((hr.below h).more h.size) hf)
  have HM := Lib.hid (fun (W : World) (h : Below w.heap.size w W) => implMsgOk_is true 3 v x a b A c vs hm2 W ((hm.below h).more h.size) hn)
  have hh0 := fun (W : World) (h : Below w.heap.size w W) => implHear_is q v W ((hr.below h).more h.size) hf
  have hsm := hfr_small q v hf
  have e9 : hfrC q.dat v = hFrom q.dat.hs v := by unfold hfrC; rw [if_pos hg]
  rw [e9] at hh0 hsm
  obtain ⟨xs, hxs⟩ : ∃ xs, hFrom q.dat.hs v = xs := ⟨_, rfl⟩
  rw [hxs] at hh0 hsm ⊢
  have HH := Lib.hid hh0
  clear hg hm2 e9 hxs hh0
  obtain ⟨n, id, own, view, left, voted, lv, lx, dn, pr, vo, re, ds, hs, Av, Ap, Ao, Ar, Ad, Ah, cv, cp, co, cr, cd, ch⟩ := q
  obtain ⟨rv, rp, ro, rr, rd, rh⟩ := hr
  obtain ⟨fv, fp, fo, fr, fd, fh⟩ := hf
  simp only [Rq.agg, Rq.cells, Rq.dat] at *
  obtain ⟨lv0, elv0⟩ : ∃ m, voted.length = m := ⟨_, rfl⟩
  obtain ⟨lp0, elp0⟩ : ∃ m, pr.length = m := ⟨_, rfl⟩
  obtain ⟨lo0, elo0⟩ : ∃ m, vo.length = m := ⟨_, rfl⟩
  obtain ⟨lr0, elr0⟩ : ∃ m, re.length = m := ⟨_, rfl⟩
  obtain ⟨ld0, eld0⟩ : ∃ m, ds.length = m := ⟨_, rfl⟩
  obtain ⟨lh0, elh0⟩ : ∃ m, hs.length = m := ⟨_, rfl⟩
  obtain ⟨l, el⟩ : ∃ m, vs.length = m := ⟨_, rfl⟩
  simp only [elv0, elp0, elo0, elr0, eld0, elh0, el] at HC HM HH ⊢
  clear elv0 elp0 elo0 elr0 eld0 elh0 el rv rp ro rr rd rh fv fp fo fr fd fh hm hn
  have ka := (Blk.new w 40 #[.int .i64 n, .int .i64 id, .int .i64 own, .int .i64 view, .int .i64 left, .slice Av lv0 cv, .int .i64 lv, .int .i64 lx, .int .i64 dn, .slice Ap lp0 cp, .slice Ao lo0 co, .slice Ar lr0 cr, .slice Ad ld0 cd, .slice Ah lh0 ch]).alloc (.cells #[.int .i64 3, .int .i64 v, .int .i64 x, .int .i64 a, .int .i64 b, .slice A l c] 45)
  have km := Blk.new (w.alloc (.cells #[.int .i64 n, .int .i64 id, .int .i64 own, .int .i64 view, .int .i64 left, .slice Av lv0 cv, .int .i64 lv, .int .i64 lx, .int .i64 dn, .slice Ap lp0 cp, .slice Ao lo0 co, .slice Ar lr0 cr, .slice Ad ld0 cd, .slice Ah lh0 ch] 40)) 45 #[.int .i64 3, .int .i64 v, .int .i64 x, .int .i64 a, .int .i64 b, .slice A l c]
  simp only [World.size_alloc] at km
  have hB := up_ (up_ (Below.refl w.heap.size w) (.cells #[.int .i64 n, .int .i64 id, .int .i64 own, .int .i64 view, .int .i64 left, .slice Av lv0 cv, .int .i64 lv, .int .i64 lx, .int .i64 dn, .slice Ap lp0 cp, .slice Ao lo0 co, .slice Ar lr0 cr, .slice Ad ld0 cd, .slice Ah lh0 ch] 40)) (.cells #[.int .i64 3, .int .i64 v, .int .i64 x, .int .i64 a, .int .i64 b, .slice A l c] 45)
  have ra := ka.rule; have rm := km.rule
  go_enter Try.func27, Try.ntmps27
  go_wp2_with fail
  refine (HC.out _ hB).mono ?_
  rintro e w1 ⟨rfl, hb⟩
  have ka' := ka.on hb; have km' := km.on hb; have hB' := on_ hB hb; clear ka km hB ra rm hb; have ka := ka'; have km := km'; have hB := hB'; clear ka' km' hB'; have ra := ka.rule; have rm := km.rule
  go_wp2_with fail
  refine (HM.out _ hB).mono ?_
  rintro e w2 ⟨rfl, hb⟩
  have ka' := ka.on hb; have km' := km.on hb; have hB' := on_ hB hb; clear ka km hB ra rm hb; have ka := ka'; have km := km'; have hB := hB'; clear ka' km' hB'; have ra := ka.rule; have rm := km.rule
  go_wp2_with fail
  have KA := Lib.hid ka; have KM := Lib.hid km; have HB := Lib.hid hB
  generalize w2 = w5 at *
  clear ka km ra rm hB HC HM
  refine wp_region_grow ?_ ?_ (RV w.heap.size w.heap.size (w.heap.size + 1) n id own view left lv lx dn Av Ap Ao Ar Ad Ah lv0 lp0 lo0 lr0 ld0 lh0 cv cp co cr cd ch v xs) (by kernel_rfl) (by kernel_rfl) (by kernel_rfl) RV.keep ?_ ?_
  rotate_left
  · intro us; simp only [putL]; go_simp; exact rfl
  · refine (Each.cons ?_ (Each.cons ?_ (Each.cons ?_ (Each.cons ?_ (Each.cons ?_ (Each.cons ?_ (Each.cons ?_ (Each.cons ?_ Each.nil))))))))
    · intro us wx hW hD Q K hK
      have rp := (KA.out.on hW).rule
      go_simp
      exact hK _ _ (.agg #[.int .i64 n, .int .i64 id, .int .i64 own, .int .i64 view, .int .i64 left, .slice Av lv0 cv, .int .i64 lv, .int .i64 lx, .int .i64 dn, .slice Ap lp0 cp, .slice Ao lo0 co, .slice Ar lr0 cr, .slice Ad ld0 cd, .slice Ah lh0 ch]) (by go_simp) (Below.refl _ _) rfl
    · intro us wx hW hD Q K hK
      go_simp
      exact hK _ _ (.pointer (some ⟨w.heap.size + 1, 1, none⟩)) (by go_simp) (Below.refl _ _) rfl
    · intro us wx hW hD Q K hK
      have e1 : us 1 = _ := hD 1 (by decide)
      have rm := (KM.out.on hW).rule
      go_simp
      exact hK _ _ (.int .i64 v) (by go_simp) (Below.refl _ _) rfl
    · intro us wx hW hD Q K hK
      have e0 : us 0 = _ := hD 0 (by decide)
      have e2 : us 2 = _ := hD 2 (by decide)
      go_simp
      go_at_call 20
      refine (HH.out wx (on_ HB.out hW)).mono ?_
      rintro e w6 ⟨u, rfl, ho, hb⟩
      obtain ⟨B, d, rfl⟩ := form8 ho
      exact hK _ _ (.slice B xs.length d) (by go_simp) hb ⟨B, d, rfl, (OI.of_own (own_more3 ho (show w.heap.size ≤ wx.heap.size from (on_ HB.out hW).size))).2⟩
    · intro us wx hW hD Q K hK
      go_simp
      exact hK _ _ (.pointer (some ⟨w.heap.size, 1, none⟩)) (by go_simp) (Below.refl _ _) rfl
    · intro us wx hW hD Q K hK
      have e4 : us 4 = _ := hD 4 (by decide)
      have rp := (KA.out.on hW).rule
      go_simp
      exact hK _ _ (.int .i64 id) (by go_simp) (Below.refl _ _) rfl
    · intro us wx hW hD Q K hK
      have e5 : us 5 = _ := hD 5 (by decide)
      obtain ⟨B, d, e3, ho⟩ := hD 3 (by decide)
      go_simp
      go_at_call 61
      refine (contains_any B d xs id wx ho.rd hsm).mono ?_
      rintro e w6 ⟨rfl, rfl⟩
      exact hK _ _ (.bool (hasI xs id)) (by go_simp) (Below.refl _ _) rfl
    · intro us wx hW hD Q K hK
      have e6 : us 6 = _ := hD 6 (by decide)
      go_simp
      exact hK _ _ (.bool (hasI xs id)) (by go_simp) (Below.refl _ _) rfl
  intro us' w6 hD hb6
  have e7 : us' 7 = _ := hD 7 (by decide)
  generalize us' 0 = z0 at *
  generalize us' 1 = z1 at *
  generalize us' 2 = z2 at *
  generalize us' 3 = z3 at *
  generalize us' 4 = z4 at *
  generalize us' 5 = z5 at *
  generalize us' 6 = z6 at *
  generalize us' 7 = z7 at *
  clear us' hD
  subst e7
  have hB6 := on_ HB.out hb6
  go_wp2
  go_ret
  exact ⟨rfl, hB6⟩
def BV (p pm : Nat) (n id own view left lv lx dn : Int) (Av Ap Ao Ar Ad Ah : Option Addr) (lv0 lp0 lo0 lr0 ld0 lh0 cv cp co cr cd ch : Nat) (k v fv : Int) (fq : Bool) (pr vo re ds : List B3) : Nat → Value → World → Prop
  | 0, u, _ => u = .agg #[.int .i64 n, .int .i64 id, .int .i64 own, .int .i64 view, .int .i64 left, .slice Av lv0 cv, .int .i64 lv, .int .i64 lx, .int .i64 dn, .slice Ap lp0 cp, .slice Ao lo0 co, .slice Ar lr0 cr, .slice Ad ld0 cd, .slice Ah lh0 ch]
  | 1, u, w => ∃ x b1 b2 b3 b4 Bv dv Bh dh lq, u = .pointer (some ⟨x, 0, none⟩) ∧ Blk w x 143 #[.int .i64 n, .int .i64 id, .int .i64 own, .int .i64 view, .int .i64 left, .slice Bv lv0 dv, .int .i64 lv, .int .i64 lx, .int .i64 dn, .slice none 0 0, .slice none 0 0, .slice none 0 0, .slice none 0 0, .slice Bh lq dh, .map (some b1), .map (some b2), .map (some b3), .map (some b4), .slice none 0 0] ∧ Bals w (.map (some b1)) pr ∧ Bals w (.map (some b2)) vo ∧ Bals w (.map (some b3)) re ∧ Bals w (.map (some b4)) ds
  | 2, u, _ => u = .pointer (some ⟨pm, 0, none⟩)
  | 3, u, _ => u = .int .i64 k
  | 4, u, w => ∃ b, u = .agg #[.map (some b)] ∧ Bals w (.map (some b)) (selT k pr vo re ds)
  | 5, u, _ => u = .pointer (some ⟨pm, 1, none⟩)
  | 6, u, _ => u = .int .i64 v
  | 7, u, _ => u = .pointer (some ⟨p, 1, none⟩)
  | 8, u, _ => u = .int .i64 id
  | 9, u, _ => u = .tuple #[.int .i64 fv, .bool fq]
  | 10, u, _ => u = .tuple #[.int .i64 fv, .bool fq]
  | 11, u, _ => u = .int .i64 fv
  | 12, u, _ => u = .bool fq
  | 13, u, _ => u = .int .i64 fv
  | 14, u, _ => u = .bool fq
  | _, _, _ => True
theorem BV.keep {p pm : Nat} {n id own view left lv lx dn : Int} {Av Ap Ao Ar Ad Ah : Option Addr} {lv0 lp0 lo0 lr0 ld0 lh0 cv cp co cr cd ch : Nat} {k v fv : Int} {fq : Bool} {pr vo re ds : List B3} : ∀ j u w1 w2, BV p pm n id own view left lv lx dn Av Ap Ao Ar Ad Ah lv0 lp0 lo0 lr0 ld0 lh0 cv cp co cr cd ch k v fv fq pr vo re ds j u w1 → Below w1.heap.size w1 w2 → BV p pm n id own view left lv lx dn Av Ap Ao Ar Ad Ah lv0 lp0 lo0 lr0 ld0 lh0 cv cp co cr cd ch k v fv fq pr vo re ds j u w2 := by
  intro j u w1 w2 h hb
  match j, h with
  | 1, h => obtain ⟨x, b1, b2, b3, b4, Bv, dv, Bh, dh, lq, e, h1, h2, h3, h4, h5⟩ := h; exact ⟨x, b1, b2, b3, b4, Bv, dv, Bh, dh, lq, e, h1.on hb, h2.on hb, h3.on hb, h4.on hb, h5.on hb⟩
  | 4, h => obtain ⟨b, e, h1⟩ := h; exact ⟨b, e, h1.on hb⟩
  | 0, h => exact h
  | 2, h => exact h
  | 3, h => exact h
  | 5, h => exact h
  | 6, h => exact h
  | 7, h => exact h
  | 8, h => exact h
  | 9, h => exact h
  | 10, h => exact h
  | 11, h => exact h
  | 12, h => exact h
  | 13, h => exact h
  | 14, h => exact h
  | _ + 15, _ => trivial
theorem bals_sel {w : World} {k : Int} {b1 b2 b3 b4 : Nat} {pr vo re ds : List B3} (h1 : Bals w (.map (some b1)) pr) (h2 : Bals w (.map (some b2)) vo) (h3 : Bals w (.map (some b3)) re) (h4 : Bals w (.map (some b4)) ds) :
    ∃ b, selT k (some b1) (some b2) (some b3) (some b4) = some b ∧ Bals w (.map (some b)) (selT k pr vo re ds) := by
  unfold selT
  split
  · exact ⟨b1, rfl, h1⟩
  · split
    · exact ⟨b3, rfl, h3⟩
    · split
      · exact ⟨b4, rfl, h4⟩
      · exact ⟨b2, rfl, h2⟩
set_option maxHeartbeats 6400000 in
theorem implTell_bal (q : Rq) (k v x a b : Int) (A : Option Addr) (c : Nat) (vs : List (Int × Int)) (w : World) (hr : RdQ w w.heap.size q) (hf : FewQ q) (hm : Rd w w.heap.size A vs) (hn : vs.length ≤ 1048576) (hg : repQ q.dat = true) (hm2 : msgOkB k v x a b vs = true) (hk : k = 0 ∨ k = 1 ∨ k = 2 ∨ k = 4) :
    Calls Try.prog 27 #[q.agg, .agg #[.int .i64 k, .int .i64 v, .int .i64 x, .int .i64 a, .int .i64 b, .slice A vs.length c]] w fun e w' => e = .returned (.bool (foundQ (selT k q.pr q.vo q.re q.ds) v q.id && decide (foundV (selT k q.pr q.vo q.re q.ds) v q.id = x))) ∧ Below w.heap.size w w' := by
  have HC := Lib.hid (fun (W : World) (h : Below w.heap.size w W) => implRepOk_is true q hg W ((hr.below h).more h.size) hf)
  have HM := Lib.hid (fun (W : World) (h : Below w.heap.size w W) => implMsgOk_is true k v x a b A c vs hm2 W ((hm.below h).more h.size) hn)
  have HN := Lib.hid (fun (W : World) (h : Below w.heap.size w W) => nodeOf_any q hg W ((hr.below h).more h.size) hf)
  have hkd := kind_of hm2
  have hwv : wfI v := by have := hkd.2; exact WalkArith.wf_i64 (by omega)
  have hwi : wfI q.id := by have h9 : 0 ≤ q.id ∧ q.id < 7 := id_of hg; exact WalkArith.wf_i64 (by omega)
  have hk3 : (k == 3) = false := by rcases hk with rfl | rfl | rfl | rfl <;> rfl
  clear hg hm2 hkd
  obtain ⟨fq, efq⟩ : ∃ z, foundQ (selT k q.pr q.vo q.re q.ds) v q.id = z := ⟨_, rfl⟩
  obtain ⟨fv_, efv⟩ : ∃ z, foundV (selT k q.pr q.vo q.re q.ds) v q.id = z := ⟨_, rfl⟩
  rw [efq, efv]
  have EFQ := Lib.hid efq; have EFV := Lib.hid efv
  clear efq efv
  obtain ⟨y, ey⟩ : ∃ z, decide (fv_ = x) = z := ⟨_, rfl⟩
  rw [ey]
  have ey2 : (fv_ == x) = y := by rw [← ey]; rfl
  clear ey
  obtain ⟨n, id, own, view, left, voted, lv, lx, dn, pr, vo, re, ds, hs, Av, Ap, Ao, Ar, Ad, Ah, cv, cp, co, cr, cd, ch⟩ := q
  obtain ⟨rv, rp, ro, rr, rd, rh⟩ := hr
  obtain ⟨fv, fp, fo, fr, fd, fh⟩ := hf
  simp only [Rq.agg, Rq.cells] at *
  obtain ⟨lv0, elv0⟩ : ∃ m, voted.length = m := ⟨_, rfl⟩
  obtain ⟨lp0, elp0⟩ : ∃ m, pr.length = m := ⟨_, rfl⟩
  obtain ⟨lo0, elo0⟩ : ∃ m, vo.length = m := ⟨_, rfl⟩
  obtain ⟨lr0, elr0⟩ : ∃ m, re.length = m := ⟨_, rfl⟩
  obtain ⟨ld0, eld0⟩ : ∃ m, ds.length = m := ⟨_, rfl⟩
  obtain ⟨lh0, elh0⟩ : ∃ m, hs.length = m := ⟨_, rfl⟩
  obtain ⟨l, el⟩ : ∃ m, vs.length = m := ⟨_, rfl⟩
  simp only [elv0, elp0, elo0, elr0, eld0, elh0, el] at HC HM HN ⊢
  clear elv0 elp0 elo0 elr0 eld0 elh0 el rv rp ro rr rd rh fv fp fo fr fd fh hm hn
  have ka := (Blk.new w 40 #[.int .i64 n, .int .i64 id, .int .i64 own, .int .i64 view, .int .i64 left, .slice Av lv0 cv, .int .i64 lv, .int .i64 lx, .int .i64 dn, .slice Ap lp0 cp, .slice Ao lo0 co, .slice Ar lr0 cr, .slice Ad ld0 cd, .slice Ah lh0 ch]).alloc (.cells #[.int .i64 k, .int .i64 v, .int .i64 x, .int .i64 a, .int .i64 b, .slice A l c] 45)
  have km := Blk.new (w.alloc (.cells #[.int .i64 n, .int .i64 id, .int .i64 own, .int .i64 view, .int .i64 left, .slice Av lv0 cv, .int .i64 lv, .int .i64 lx, .int .i64 dn, .slice Ap lp0 cp, .slice Ao lo0 co, .slice Ar lr0 cr, .slice Ad ld0 cd, .slice Ah lh0 ch] 40)) 45 #[.int .i64 k, .int .i64 v, .int .i64 x, .int .i64 a, .int .i64 b, .slice A l c]
  simp only [World.size_alloc] at km
  have hB := up_ (up_ (Below.refl w.heap.size w) (.cells #[.int .i64 n, .int .i64 id, .int .i64 own, .int .i64 view, .int .i64 left, .slice Av lv0 cv, .int .i64 lv, .int .i64 lx, .int .i64 dn, .slice Ap lp0 cp, .slice Ao lo0 co, .slice Ar lr0 cr, .slice Ad ld0 cd, .slice Ah lh0 ch] 40)) (.cells #[.int .i64 k, .int .i64 v, .int .i64 x, .int .i64 a, .int .i64 b, .slice A l c] 45)
  have ra := ka.rule; have rm := km.rule
  go_enter Try.func27, Try.ntmps27
  go_wp2_with fail
  refine (HC.out _ hB).mono ?_
  rintro e w1 ⟨rfl, hb⟩
  have ka' := ka.on hb; have km' := km.on hb; have hB' := on_ hB hb; clear ka km hB ra rm hb; have ka := ka'; have km := km'; have hB := hB'; clear ka' km' hB'; have ra := ka.rule; have rm := km.rule
  go_wp2_with fail
  refine (HM.out _ hB).mono ?_
  rintro e w2 ⟨rfl, hb⟩
  have ka' := ka.on hb; have km' := km.on hb; have hB' := on_ hB hb; clear ka km hB ra rm hb; have ka := ka'; have km := km'; have hB := hB'; clear ka' km' hB'; have ra := ka.rule; have rm := km.rule
  go_wp2_with fail
  have KA := Lib.hid ka; have KM := Lib.hid km; have HB := Lib.hid hB
  clear ka km ra rm hB HC HM
  refine wp_region_grow ?_ ?_ (BV w.heap.size (w.heap.size + 1) n id own view left lv lx dn Av Ap Ao Ar Ad Ah lv0 lp0 lo0 lr0 ld0 lh0 cv cp co cr cd ch k v fv_ fq pr vo re ds) (by kernel_rfl) (by kernel_rfl) (by kernel_rfl) BV.keep ?_ ?_
  rotate_left
  · intro us; simp only [putL]; go_simp; exact rfl
  · refine (Each.cons ?_ (Each.cons ?_ (Each.cons ?_ (Each.cons ?_ (Each.cons ?_ (Each.cons ?_ (Each.cons ?_ (Each.cons ?_ (Each.cons ?_ (Each.cons ?_ (Each.cons ?_ (Each.cons ?_ (Each.cons ?_ (Each.cons ?_ (Each.cons ?_ Each.nil)))))))))))))))
    · intro us wx hW hD Q K hK
      have rp := (KA.out.on hW).rule
      go_simp
      exact hK _ _ (.agg #[.int .i64 n, .int .i64 id, .int .i64 own, .int .i64 view, .int .i64 left, .slice Av lv0 cv, .int .i64 lv, .int .i64 lx, .int .i64 dn, .slice Ap lp0 cp, .slice Ao lo0 co, .slice Ar lr0 cr, .slice Ad ld0 cd, .slice Ah lh0 ch]) (by go_simp) (Below.refl _ _) rfl
    · intro us wx hW hD Q K hK
      have e0 : us 0 = _ := hD 0 (by decide)
      go_simp
      go_at_call 62
      refine (HN.out wx (on_ HB.out hW)).mono ?_
      rintro e w6 ⟨x, b1, b2, b3, b4, Bv, dv, Bh, dh, qs, rfl, _, _, _, _, _, kx, h1, h2, h3, h4, _, _, _, _, hb⟩
      exact hK _ _ (.pointer (some ⟨x, 0, none⟩)) (by go_simp) hb ⟨x, b1, b2, b3, b4, Bv, dv, Bh, dh, _, rfl, kx, h1, h2, h3, h4⟩
    · intro us wx hW hD Q K hK
      go_simp
      exact hK _ _ (.pointer (some ⟨w.heap.size + 1, 0, none⟩)) (by go_simp) (Below.refl _ _) rfl
    · intro us wx hW hD Q K hK
      have e2 : us 2 = _ := hD 2 (by decide)
      have rm := (KM.out.on hW).rule
      go_simp
      exact hK _ _ (.int .i64 k) (by go_simp) (Below.refl _ _) rfl
    · intro us wx hW hD Q K hK
      have e3 : us 3 = _ := hD 3 (by decide)
      obtain ⟨x, b1, b2, b3, b4, Bv, dv, Bh, dh, lq, e1, kx, h1, h2, h3, h4⟩ := hD 1 (by decide)
      obtain ⟨b, eb, hbal⟩ := bals_sel (k := k) h1 h2 h3 h4
      go_simp
      go_at_call 63
      refine (box_any x _ _ _ _ _ _ _ _ _ _ _ _ _ _ _ _ _ _ _ k hk wx kx).mono ?_
      rintro e w6 ⟨rfl, hb⟩
      rw [eb]
      exact hK _ _ (.agg #[.map (some b)]) (by go_simp) hb ⟨b, rfl, hbal.on hb⟩
    · intro us wx hW hD Q K hK
      go_simp
      exact hK _ _ (.pointer (some ⟨w.heap.size + 1, 1, none⟩)) (by go_simp) (Below.refl _ _) rfl
    · intro us wx hW hD Q K hK
      have e5 : us 5 = _ := hD 5 (by decide)
      have rm := (KM.out.on hW).rule
      go_simp
      exact hK _ _ (.int .i64 v) (by go_simp) (Below.refl _ _) rfl
    · intro us wx hW hD Q K hK
      go_simp
      exact hK _ _ (.pointer (some ⟨w.heap.size, 1, none⟩)) (by go_simp) (Below.refl _ _) rfl
    · intro us wx hW hD Q K hK
      have e7 : us 7 = _ := hD 7 (by decide)
      have rp := (KA.out.on hW).rule
      go_simp
      exact hK _ _ (.int .i64 id) (by go_simp) (Below.refl _ _) rfl
    · intro us wx hW hD Q K hK
      have e6 : us 6 = _ := hD 6 (by decide)
      have e8 : us 8 = _ := hD 8 (by decide)
      obtain ⟨b, e4, hbal⟩ := hD 4 (by decide)
      go_simp
      go_at_call 64
      refine (told_any b _ v id hwv hwi wx hbal).mono ?_
      rintro e w6 ⟨rfl, hb⟩
      rw [EFQ.out, EFV.out]
      exact hK _ _ (.tuple #[.int .i64 fv_, .bool fq]) (by go_simp) hb rfl
    · intro us wx hW hD Q K hK
      have e9 : us 9 = _ := hD 9 (by decide)
      go_simp
      exact hK _ _ (.tuple #[.int .i64 fv_, .bool fq]) (by go_simp) (Below.refl _ _) rfl
    · intro us wx hW hD Q K hK
      have e10 : us 10 = _ := hD 10 (by decide)
      go_simp
      exact hK _ _ (.int .i64 fv_) (by go_simp) (Below.refl _ _) rfl
    · intro us wx hW hD Q K hK
      have e10 : us 10 = _ := hD 10 (by decide)
      go_simp
      exact hK _ _ (.bool fq) (by go_simp) (Below.refl _ _) rfl
    · intro us wx hW hD Q K hK
      have e11 : us 11 = _ := hD 11 (by decide)
      go_simp
      exact hK _ _ (.int .i64 fv_) (by go_simp) (Below.refl _ _) rfl
    · intro us wx hW hD Q K hK
      have e12 : us 12 = _ := hD 12 (by decide)
      go_simp
      exact hK _ _ (.bool fq) (by go_simp) (Below.refl _ _) rfl
  intro us' w6 hD hb6
  have e13 : us' 13 = _ := hD 13 (by decide)
  have e14 : us' 14 = _ := hD 14 (by decide)
  generalize us' 0 = z0 at *
  generalize us' 1 = z1 at *
  generalize us' 2 = z2 at *
  generalize us' 3 = z3 at *
  generalize us' 4 = z4 at *
  generalize us' 5 = z5 at *
  generalize us' 6 = z6 at *
  generalize us' 7 = z7 at *
  generalize us' 8 = z8 at *
  generalize us' 9 = z9 at *
  generalize us' 10 = z10 at *
  generalize us' 11 = z11 at *
  generalize us' 12 = z12 at *
  generalize us' 13 = z13 at *
  generalize us' 14 = z14 at *
  clear us' hD
  subst e13 e14
  have hB6 := on_ HB.out hb6
  have rm := (KM.out.on hb6).rule
  rcases fq with _ | _
  · go_wp2
    go_ret
    exact ⟨rfl, hB6⟩
  · go_wp2
    go_ret
    exact ⟨rfl, hB6⟩
theorem specTell_is (q : Rq) (k v x a b : Int) (A : Option Addr) (c : Nat) (vs : List (Int × Int)) (w : World) (hr : RdQ w w.heap.size q) (hf : FewQ q) (hm : Rd w w.heap.size A vs) (hn : vs.length ≤ 1048576) :
    Calls Try.prog 25 #[q.agg, .agg #[.int .i64 k, .int .i64 v, .int .i64 x, .int .i64 a, .int .i64 b, .slice A vs.length c]] w fun e w' => e = .returned (.bool (tellQ q.dat k v x a b vs)) ∧ Below w.heap.size w w' := by
  unfold tellQ
  rcases h : repQ q.dat && msgOkB k v x a b vs with _ | _
  · exact specTell_no q k v x a b A c vs w hr hf hm hn h
  · simp only [Bool.and_eq_true] at h
    obtain ⟨h1, h2⟩ := h
    rw [Bool.true_and]
    by_cases hk : k = 3
    · subst hk
      rw [if_pos rfl]
      exact specTell_rep q v x a b A c vs w hr hf hm hn h1 h2
    · rw [if_neg hk]
      rcases (kind_of h2).1 with rfl | rfl | rfl | rfl | rfl
      · exact specTell_0 q v x a b A c vs w hr hf hm hn h1 h2
      · exact specTell_1 q v x a b A c vs w hr hf hm hn h1 h2
      · exact specTell_2 q v x a b A c vs w hr hf hm hn h1 h2
      · exact specTell_4 q v x a b A c vs w hr hf hm hn h1 h2
      · exact absurd rfl hk
theorem implTell_is (q : Rq) (k v x a b : Int) (A : Option Addr) (c : Nat) (vs : List (Int × Int)) (w : World) (hr : RdQ w w.heap.size q) (hf : FewQ q) (hm : Rd w w.heap.size A vs) (hn : vs.length ≤ 1048576) :
    Calls Try.prog 27 #[q.agg, .agg #[.int .i64 k, .int .i64 v, .int .i64 x, .int .i64 a, .int .i64 b, .slice A vs.length c]] w fun e w' => e = .returned (.bool (tellQ q.dat k v x a b vs)) ∧ Below w.heap.size w w' := by
  unfold tellQ
  rcases h : repQ q.dat && msgOkB k v x a b vs with _ | _
  · exact implTell_no q k v x a b A c vs w hr hf hm hn h
  · simp only [Bool.and_eq_true] at h
    obtain ⟨h1, h2⟩ := h
    rw [Bool.true_and]
    by_cases hk : k = 3
    · subst hk
      rw [if_pos rfl]
      exact implTell_rep q v x a b A c vs w hr hf hm hn h1 h2
    · rw [if_neg hk]
      have hk4 := (kind_of h2).1
      exact implTell_bal q k v x a b A c vs w hr hf hm hn h1 h2 (by omega)
end Go.Proofs.Ytfdfjmibjnmhpaa.V

namespace Go.Proofs.Ytfdfjmibjnmhpaa.V
open Go.RowKit Go.Proofs.Ytfdfjmibjnmhpaa.B
def ins9 (acc : List Int) (x : Int) : List Int := if x ∈ acc then acc else acc ++ [x]
def dd (xs : List Int) : List Int := xs.foldl ins9 []
/-- How many different ones. -/
def nd (xs : List Int) : Nat := (dd xs).length
theorem foldl_ins : ∀ (xs acc : List Int), (∀ y, y ∈ xs.foldl ins9 acc ↔ y ∈ acc ∨ y ∈ xs) ∧ (acc.Nodup → (xs.foldl ins9 acc).Nodup)
  | [], acc => ⟨fun y => by simp, fun h => h⟩
  | x :: xs, acc => by
    obtain ⟨h1, h2⟩ := foldl_ins xs (ins9 acc x)
    have hm : ∀ y, y ∈ ins9 acc x ↔ y ∈ acc ∨ y = x := fun y => by
      unfold ins9
      split
      · rename_i h
        exact ⟨.inl, fun h' => h'.elim id fun e => e ▸ h⟩
      · simp
    refine ⟨fun y => ?_, fun hn => ?_⟩
    · rw [List.foldl_cons, h1, hm, List.mem_cons, or_assoc]
    · rw [List.foldl_cons]
      refine h2 ?_
      unfold ins9
      split
      · exact hn
      · rename_i h
        rw [List.nodup_append]
        exact ⟨hn, by simp, fun a ha b hb e => h (by simp at hb; subst hb; exact e ▸ ha)⟩
theorem mem_dd {xs : List Int} {y : Int} : y ∈ dd xs ↔ y ∈ xs := by rw [dd, (foldl_ins xs []).1]; simp
theorem nodup_dd (xs : List Int) : (dd xs).Nodup := (foldl_ins xs []).2 List.nodup_nil
theorem dd_snoc (xs : List Int) (x : Int) : dd (xs ++ [x]) = ins9 (dd xs) x := by simp [dd, List.foldl_append]
theorem nd_nil : nd [] = 0 := rfl
theorem nd_old {xs : List Int} {x : Int} (h : x ∈ xs) : nd (xs ++ [x]) = nd xs := by
  unfold nd; rw [dd_snoc]; unfold ins9; rw [if_pos (mem_dd.2 h)]
theorem nd_new {xs : List Int} {x : Int} (h : ¬ x ∈ xs) : nd (xs ++ [x]) = nd xs + 1 := by
  unfold nd; rw [dd_snoc]; unfold ins9; rw [if_neg (fun h' => h (mem_dd.1 h'))]; simp
theorem nd_ext {xs ys : List Int} (h : ∀ x, x ∈ xs ↔ x ∈ ys) : nd xs = nd ys :=
  ((List.perm_ext_iff_of_nodup (nodup_dd xs) (nodup_dd ys)).2 fun x => by rw [mem_dd, mem_dd]; exact h x).length_eq
theorem nd_le (xs : List Int) : nd xs ≤ xs.length := by
  have : ∀ (xs acc : List Int), (xs.foldl ins9 acc).length ≤ acc.length + xs.length := fun xs => by
    induction xs with
    | nil => intro acc; simp
    | cons x xs ih =>
      intro acc
      rw [List.foldl_cons]
      refine Nat.le_trans (ih _) ?_
      unfold ins9
      split <;> simp <;> omega
  simpa [nd, dd] using this xs []
/-- No more of them than there are names below n. -/
theorem nodup_lt : ∀ (n : Nat) (l : List Int), l.Nodup → (∀ x ∈ l, 0 ≤ x ∧ x < (n : Int)) → l.length ≤ n
  | 0, l, _, h => by
    cases l with
    | nil => simp
    | cons a l => have := h a (by simp); omega
  | n + 1, l, hn, h => by
    have ih := nodup_lt n (l.erase (n : Int)) (hn.erase _) (fun x hx => by
      have h1 := (hn.mem_erase_iff).1 hx
      have h2 := h x h1.2
      have h3 := h1.1
      omega)
    rw [List.length_erase] at ih
    split at ih <;> omega
theorem nd_lt {xs : List Int} {n : Nat} (h : ∀ x ∈ xs, 0 ≤ x ∧ x < (n : Int)) : nd xs ≤ n := nodup_lt n (dd xs) (nodup_dd xs) fun x hx => h x (mem_dd.1 hx)
def frH (h : Int × List Rp) : List Int := h.2.map Rp.f
/-- All who told of view w or of a later one. -/
def frS (hs : List (Int × List Rp)) (w : Int) : List Int := (hs.filter fun h => decide (w ≤ h.1)).flatMap frH
theorem mem_frS {hs : List (Int × List Rp)} {w x : Int} : x ∈ frS hs w ↔ ∃ h ∈ hs, w ≤ h.1 ∧ x ∈ frH h := by
  simp only [frS, List.mem_flatMap, List.mem_filter, decide_eq_true_eq, and_assoc]
theorem frS_nil (w : Int) : frS [] w = [] := rfl
theorem frS_take (hs : List (Int × List Rp)) (w : Int) (i : Nat) (hi : i < hs.length) : frS (hs.take (i + 1)) w = frS (hs.take i) w ++ (if w ≤ (hs.getD i (0, [])).1 then frH (hs.getD i (0, [])) else []) := by
  have e : hs.take (i + 1) = hs.take i ++ [hs.getD i (0, [])] := by
    rw [List.take_add_one, List.getD_eq_getElem?_getD, List.getElem?_eq_getElem hi]; rfl
  rw [e, frS, List.filter_append, List.flatMap_append]
  congr 1
  by_cases h : w ≤ (hs.getD i (0, [])).1
  · rw [if_pos h, List.filter_cons, if_pos (decide_eq_true h)]; simp
  · rw [if_neg h, List.filter_cons, if_neg (by simpa using h)]; simp
/-- v is the view that the state joins. -/
structure JoinIs (d : Rd4) (v : Int) : Prop where
  at_ : v = d.view ∨ (d.view < v ∧ v ≤ 9 ∧ weakR d.n ≤ (nd (frS d.hs v) : Int))
  above : ∀ u, v < u → u ≤ 9 → (nd (frS d.hs u) : Int) < weakR d.n
theorem JoinIs.unique {d : Rd4} {u v : Int} (h : JoinIs d u) (k : JoinIs d v) : u = v := by
  rcases Int.lt_trichotomy u v with h1 | h1 | h1
  · exfalso
    rcases k.at_ with e | ⟨a, b, c⟩
    · rcases h.at_ with e2 | ⟨a2, _, _⟩ <;> omega
    · have := h.above v h1 b; omega
  · exact h1
  · exfalso
    rcases h.at_ with e | ⟨a, b, c⟩
    · rcases k.at_ with e2 | ⟨a2, _, _⟩ <;> omega
    · have := k.above u h1 b; omega
open Classical in
noncomputable def joinQ (d : Rd4) : Int := if h : ∃ v, JoinIs d v then Classical.choose h else d.view
theorem joinQ_eq {d : Rd4} {v : Int} (h : JoinIs d v) : joinQ d = v := by
  unfold joinQ
  rw [dif_pos ⟨v, h⟩]
  exact (Classical.choose_spec (⟨v, h⟩ : ∃ v, JoinIs d v)).unique h
/-- Ascending views. -/
def Asc (hs : List (Int × List Rp)) : Prop := ∀ i j, i < j → j < hs.length → (hs.getD i (0, [])).1 < (hs.getD j (0, [])).1
theorem asc_of {n : Int} {hs : List (Int × List Rp)} (h : heardB n hs = true) : Asc hs := by
  have hg : ∀ j, j < hs.length → goodH n hs j = true := fun j hj => by
    unfold heardB at h
    rw [List.all_eq_true] at h
    exact h j (List.mem_range.2 hj)
  intro i j hij
  induction j with
  | zero => omega
  | succ j ih =>
    intro hj
    have h1 := hg (j + 1) hj
    unfold goodH at h1
    simp only [Bool.and_eq_true, Bool.or_eq_true, decide_eq_true_eq] at h1
    have h2 : (hs.getD j (0, [])).1 < (hs.getD (j + 1) (0, [])).1 := by
      rcases h1.2 with h2 | h2
      · omega
      · simpa using h2
    by_cases e : i = j
    · rw [e]; exact h2
    · have := ih (by omega) (by omega); omega
theorem join_above {hs : List (Int × List Rp)} (ha : Asc hs) {W : Int} (hW : 0 < W) {m : Nat} {u : Int} (hm : ∀ j, m ≤ j → j < hs.length → (nd (frS hs (hs.getD j (0, [])).1) : Int) < W) (hu : ∀ j, j < m → j < hs.length → (hs.getD j (0, [])).1 < u) :
    (nd (frS hs u) : Int) < W := by
  by_cases hx : ∃ j, j < hs.length ∧ u ≤ (hs.getD j (0, [])).1
  · have hall : ∀ k, k < hs.length → u ≤ (hs.getD k (0, [])).1 → ∃ m', m' < hs.length ∧ u ≤ (hs.getD m' (0, [])).1 ∧ ∀ j, j < m' → ¬ u ≤ (hs.getD j (0, [])).1 := fun k => by
      induction k using Nat.strongRecOn with
      | ind k ih =>
        intro hk e
        by_cases hj : ∃ j, j < k ∧ u ≤ (hs.getD j (0, [])).1
        · obtain ⟨j, h1, h2⟩ := hj
          exact ih j h1 (by omega) h2
        · exact ⟨k, hk, e, fun j h1 h2 => hj ⟨j, h1, h2⟩⟩
    obtain ⟨j, h1, h2⟩ := hx
    obtain ⟨j0, h3, h4, h5⟩ := hall j h1 h2
    have hmj : m ≤ j0 := by
      apply Classical.byContradiction
      intro hlt
      have := hu j0 (by omega) h3
      omega
    rw [nd_ext (ys := frS hs (hs.getD j0 (0, [])).1)]
    · exact hm j0 hmj h3
    · intro x
      rw [mem_frS, mem_frS]
      constructor
      · rintro ⟨h, hh, h6, h7⟩
        obtain ⟨i, hi, rfl⟩ := List.getElem_of_mem hh
        have e : hs.getD i (0, []) = hs[i] := by rw [List.getD_eq_getElem?_getD, List.getElem?_eq_getElem hi]; rfl
        refine ⟨hs[i], hh, ?_, h7⟩
        rcases Nat.lt_trichotomy i j0 with h8 | h8 | h8
        · exact absurd (by rw [e]; exact h6) (h5 i h8)
        · subst h8; rw [e]; exact Int.le_refl _
        · have := ha j0 i h8 hi; rw [e] at this; omega
      · rintro ⟨h, hh, h6, h7⟩
        exact ⟨h, hh, by omega, h7⟩
  · rw [nd_ext (ys := [])]
    · rw [nd_nil]; exact hW
    · intro x
      rw [mem_frS]
      constructor
      · rintro ⟨h, hh, h6, h7⟩
        exfalso
        obtain ⟨i, hi, rfl⟩ := List.getElem_of_mem hh
        exact hx ⟨i, hi, by rw [List.getD_eq_getElem?_getD, List.getElem?_eq_getElem hi]; exact h6⟩
      · intro h; simp at h
end Go.Proofs.Ytfdfjmibjnmhpaa.V

namespace Go.Proofs.Ytfdfjmibjnmhpaa.V
open Go.RowKit Go.Shelf Go.Proofs.Ytfdfjmibjnmhpaa.B
attribute [local go_sem] Oper.semAt_some
/-- What lay below n₀ in cells reads as it read. -/
def KpC (n₀ : Nat) (W W' : World) : Prop := ∀ (p : Addr) (v : Value), p.block < n₀ → W.cell? p = some v → W'.cell? p = some v
theorem KpC.refl (n₀ : Nat) (W : World) : KpC n₀ W W := fun _ _ _ h => h
theorem KpC.tr {n₀ : Nat} {A B C : World} (h : KpC n₀ A B) (k : KpC n₀ B C) : KpC n₀ A C := fun p v hp hv => k p v hp (h p v hp hv)
theorem cell_cells {W : World} {p : Addr} {v : Value} (h : W.cell? p = some v) : ∃ o, W.heap[p.block]? = some o ∧ o.isCells = true := by
  unfold World.cell? at h
  rcases e : W.heap[p.block]? with _ | o
  · rw [e] at h; simp at h
  · refine ⟨o, rfl, ?_⟩
    rw [e] at h
    cases o <;> first | rfl | (simp at h)
theorem kpC_b {n₀ : Nat} {w : World} (W : World) (l : Nat) (o o' : Obj) (_ : w.heap.size ≤ l) (hl : W.heap[l]? = some o) (ho : o.isCells = false) (_ : o.isWalk = false) : KpC n₀ W (W.putObj l o') := fun p v hp hv => by
  obtain ⟨o2, h2, h3⟩ := cell_cells hv
  have hne : p.block ≠ l := fun e => by
    rw [e, hl] at h2
    injection h2 with h2
    rw [h2, h3] at ho
    cases ho
  unfold World.cell? at hv ⊢
  rw [World.putObj_heap_other hne]
  exact hv
theorem KpC.below {n₀ : Nat} {A B : World} (h : Below n₀ A B) : KpC n₀ A B := fun p v hp hv => (h.cell (p := p) hp).trans hv
theorem KpC.grown {n₀ g : Nat} {A B : World} (h : A.grownBy B (some g)) (hg : ∀ o, A.heap[g]? = some o → o.isCells = false) : KpC n₀ A B := fun p v hp hv => by
  obtain ⟨o2, h2, h3⟩ := cell_cells hv
  have hne : p.block ≠ g := fun e => by
    rw [e] at h2
    rw [hg o2 h2] at h3
    cases h3
  have hlt : p.block < A.heap.size := (Array.getElem?_eq_some_iff.1 h2).1
  unfold World.cell? at hv ⊢
  rw [h.block p.block hlt (fun e => hne (by injection e))]
  exact hv
abbrev HIx (hs : List Hp) := { k : Nat // k < hs.length }
def encH (hs : List Hp) (x : HIx hs) : Array Value := #[.int .i64 ((x.1 : Nat) : Int), .agg #[.int .i64 (hs.getD x.1 zH).v, .slice (hs.getD x.1 zH).A (hs.getD x.1 zH).ps.length (hs.getD x.1 zH).c]]
/-- The first k rounds. -/
def dnH (hs : List Hp) : Nat → List (HIx hs)
  | 0 => []
  | k + 1 => if h : k < hs.length then dnH hs k ++ [⟨hs.length - 1 - k, by omega⟩] else dnH hs k
theorem dnH_length (hs : List Hp) : ∀ k, k ≤ hs.length → (dnH hs k).length = k
  | 0, _ => rfl
  | k + 1, h => by
    rw [dnH, dif_pos (by omega), List.length_append, dnH_length hs k (by omega)]
    rfl
theorem dnH_succ (hs : List Hp) (k j : Nat) (hj : j < hs.length) (e : j + k + 1 = hs.length) : dnH hs (k + 1) = dnH hs k ++ [⟨j, hj⟩] := by
  rw [dnH, dif_pos (by omega)]
  congr 2
  exact Subtype.ext (by show hs.length - 1 - k = j; omega)
set_option maxHeartbeats 2000000 in
theorem backward1_in (F : Fence) (n : Nat) (hF : F.fn 113) (hro : F.round = none) (hn : 1 ≤ n) (l Bs n₀ : Nat) (A : Option Addr) (len cap : Nat) (hs : List Hp) (hlen : hs.length = len) (hmax : len ≤ 1048576) (hBn : Bs < n₀) (J Jx : List (HIx hs) → World → Prop)
    (hY : ∀ pre x W, J pre W → pre.length < hs.length → YieldAt F (n - 1) Try.prog l (encH hs x) W fun e W' =>
      (e = .returned (.bool true) ∧ J (pre ++ [x]) W' ∧ KpC n₀ W W') ∨ (e = .returned (.bool false) ∧ Jx (pre ++ [x]) W'))
    (W : World) (hBs : W.cell? ⟨Bs, 0, none⟩ = some (.slice A len cap)) (hr : RdH W n₀ A hs) (h0 : J [] W) :
    CallsIn F n Try.prog 113 #[.func (.yield l) #[] #[], .pointer (some ⟨Bs, 0, none⟩)] W fun e W' => (∃ v, e = .returned v) ∧
      ((∃ ys, ys = dnH hs hs.length ∧ J ys W') ∨ (∃ pre, (∃ k, k ≤ hs.length ∧ pre = dnH hs k) ∧ Jx pre W')) := by
  refine callsIn_of_wp Try.func113 rfl hF ?_ hro
  simp only [Try.ntmps113, List.size_toArray, List.length_cons, List.length_nil, Nat.reduceAdd, Nat.reduceSub, Array.replicate_succ, Array.replicate_zero, List.push_toArray, List.append_toArray, List.nil_append, List.cons_append]
  gi_wp2
  gi_loopw [3] (fun i wr => ∃ (k : Nat) (z : Int), k ≤ len ∧ i = .int .i64 z ∧ z = (len : Int) - 1 - k ∧ J (dnH hs k) wr ∧ KpC n₀ W wr)
    (fun i _ => (intOf i + 1).toNat)
  case atStart => exact ⟨0, _, Nat.zero_le _, rfl, by simp, h0, KpC.refl _ _⟩
  case round =>
    obtain ⟨k, z, hk, rfl, hz, hJs, hnx⟩ := hrel
    have hcb := hnx ⟨Bs, 0, none⟩ _ hBn hBs
    by_cases hlt : k < len
    · obtain ⟨j, rfl⟩ : ∃ j : Nat, z = (j : Int) := ⟨z.toNat, by omega⟩
      have hjk : j + k + 1 = hs.length := by omega
      have hjl : j < hs.length := by omega
      have hjn : j < len := by omega
      obtain ⟨b, off, rfl, hb, hc0, hc1, hrr⟩ := RdH.at_ hr (k := j) hjl
      have hd0 := hnx ⟨b, off + j * 2, none⟩ _ hb hc0
      have hd1 := hnx ⟨b, off + j * 2 + 1, none⟩ _ hb hc1
      obtain ⟨fn, tmps, assign, body, hy, hR⟩ := hY _ ⟨j, hjl⟩ wr hJs (by rw [dnH_length hs k (by omega)]; omega)
      have hsuc := dnH_succ hs k j hjl hjk
      unfold encH at hy
      dsimp only at hy
      obtain ⟨⟨hv, ps, hA, hc⟩, hu⟩ : ∃ u, hs.getD j zH = u := ⟨_, rfl⟩
      rw [hu] at hd0 hd1 hy
      dsimp only at hd0 hd1 hy
      clear hc0 hc1 hrr hu hY hr
      have hge : (0 : Int) ≤ (j : Int) := by omega
      have hge2 : ¬ (j : Int) < 0 := by omega
      have HZ := Lib.hid hz; clear hz hjk
      gi_wp2
      refine hR.mono ?_
      rintro e W3 (⟨rfl, hJ3, hk3⟩ | ⟨rfl, hJx3⟩)
      · gi_wp2
        go_roundw
        case rel => exact ⟨k + 1, _, by omega, rfl, by have := HZ.out; omega, by rw [hsuc]; exact hJ3, hnx.tr hk3⟩
        case measure => have := HZ.out; simp [intOf]
      · gi_wp2
        refine bodyPost_ret (results_none rfl _ _ _) rfl ?_
        exact ⟨⟨_, rfl⟩, .inr ⟨_, ⟨k + 1, by omega, hsuc.symm⟩, hJx3⟩⟩
    · obtain rfl : k = len := by omega
      have hz1 : z = -1 := by omega
      subst hz1
      gi_wp2
      go_end0
      exact ⟨⟨_, rfl⟩, .inl ⟨_, rfl, by rw [hlen]; exact hJs⟩⟩
theorem backward_stops (F : Fence) (n : Nat) (hF : F.fn 113) (hro : F.round = none) (hn : 1 ≤ n) (Bs n₀ : Nat) (A : Option Addr) (len cap : Nat) (hs : List Hp) (hlen : hs.length = len) (hmax : len ≤ 1048576) (w : World) (hBn : Bs < n₀) (hn₀ : n₀ ≤ w.heap.size)
    (hc : w.cell? ⟨Bs, 0, none⟩ = some (.slice A len cap)) (hr : RdH w n₀ A hs) :
    SeqStopsK F n Try.prog 113 #[.pointer (some ⟨Bs, 0, none⟩)] (encH hs) (KpC n₀) (fun ys => ys = dnH hs hs.length) (fun pre => ∃ k, k ≤ hs.length ∧ pre = dnH hs k) hs.length w := fun l J Jx W hW _ _ hY h0 =>
  backward1_in F n hF hro hn l Bs n₀ A len cap hs hlen hmax hBn J Jx hY W ((hW.cell (p := ⟨Bs, 0, none⟩) (by show Bs < _; omega)).trans hc) (hr.below (hW.mono hn₀)) h0
set_option maxHeartbeats 1000000 in
theorem backward_in (F : Fence) (n : Nat) (h6 : F.fn 88) (hro : F.round = none) (a : Option Addr) (len cap : Nat) (w : World) :
    CallsIn F n Try.prog 88 #[.slice a len cap] w fun e w' => e = .returned (.func (.func 113) #[] #[.pointer (some ⟨w.heap.size, 0, none⟩)]) ∧ w' = w.alloc (.cells #[.slice a len cap] 38) := by
  refine callsIn_of_wp Try.func88 rfl h6 ?_ hro
  simp only [Try.ntmps88, List.size_toArray, List.length_cons, List.length_nil, Nat.reduceAdd, Nat.reduceSub, Array.replicate_succ, Array.replicate_zero, List.push_toArray, List.append_toArray, List.nil_append, List.cons_append]
  gi_wp2
  go_ret
  exact ⟨rfl, rfl⟩
end Go.Proofs.Ytfdfjmibjnmhpaa.V
