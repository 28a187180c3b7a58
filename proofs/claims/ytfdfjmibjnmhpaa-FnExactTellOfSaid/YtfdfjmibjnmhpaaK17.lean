/-
  TellOf of the program: contracts. No statement is proved here.
-/
import Derived.Test.YtfdfjmibjnmhpaaK16
set_option linter.unusedVariables false
set_option maxRecDepth 100000
namespace Go.Proofs.Ytfdfjmibjnmhpaa.V
open Go.RowKit Go.Proofs.Ytfdfjmibjnmhpaa.B
set_option maxHeartbeats 3200000 in
theorem implTell_no (q : Rq) (k v x a b : Int) (A : Option Addr) (c : Nat) (vs : List (Int × Int)) (w : World) (hr : RdQ w w.heap.size q) (hf : FewQ q) (hm : Rd w w.heap.size A vs) (hn : vs.length ≤ 1048576) (h : (repQ q.dat && msgOkB k v x a b vs) = false) :
    Calls Try.prog 27 #[q.agg, .agg #[.int .i64 k, .int .i64 v, .int .i64 x, .int .i64 a, .int .i64 b, .slice A vs.length c]] w fun e w' => e = .returned (.bool false) ∧ Below w.heap.size w w' := by
  obtain ⟨g, hg⟩ : ∃ g, repQ q.dat = g := ⟨_, rfl⟩
  obtain ⟨m, hm2⟩ : ∃ m, msgOkB k v x a b vs = m := ⟨_, rfl⟩
  have HC := Lib.hid (fun (W : World) (h : Below w.heap.size w W) => implRepOk_is g q hg W ((hr.below h).more h.size) hf)
  have HM := Lib.hid (fun (W : World) (h : Below w.heap.size w W) => implMsgOk_is m k v x a b A c vs hm2 W ((hm.below h).more h.size) hn)
  have hgm : g = true → m = false := fun e => by rw [← hg] at e; rw [e, Bool.true_and] at h; rw [← hm2]; exact h
  clear hg hm2 h
  obtain ⟨n, id, own, view, left, voted, lv, lx, dn, pr, vo, re, ds, hs, Av, Ap, Ao, Ar, Ad, Ah, cv, cp, co, cr, cd, ch⟩ := q
  obtain ⟨rv, rp, ro, rr, rd, rh⟩ := hr
  obtain ⟨fv, fp, fo, fr, fd, fh⟩ := hf
  simp only [Rq.agg, Rq.cells] at *
  obtain ⟨lv0, elv0⟩ : ∃ m, voted.length = m := ⟨_, rfl⟩
  obtain ⟨lp0, elp0⟩ : ∃ m, pr.length = m := ⟨_, rfl⟩
  obtain ⟨lo0, elo0⟩ : ∃ m, vo.length = m := ⟨_, rfl⟩
  obtain ⟨lr0, elr0⟩ : ∃ m, re.length = m := ⟨_, rfl⟩
  obtain ⟨ld0, eld0⟩ : ∃ m, ds.length = m := ⟨_, rfl⟩
  obtain ⟨lh0, elh0⟩ : ∃ m, hs.length = m := ⟨_, rfl⟩
  obtain ⟨l, el⟩ : ∃ m, vs.length = m := ⟨_, rfl⟩
  simp only [elv0, elp0, elo0, elr0, eld0, elh0, el] at HC HM ⊢
  clear elv0 elp0 elo0 elr0 eld0 elh0 el rv rp ro rr rd rh fv fp fo fr fd fh hm hn
  have HGM := Lib.hid hgm; clear hgm
  have ka := (Blk.new w 40 #[.int .i64 n, .int .i64 id, .int .i64 own, .int .i64 view, .int .i64 left, .slice Av lv0 cv, .int .i64 lv, .int .i64 lx, .int .i64 dn, .slice Ap lp0 cp, .slice Ao lo0 co, .slice Ar lr0 cr, .slice Ad ld0 cd, .slice Ah lh0 ch]).alloc (.cells #[.int .i64 k, .int .i64 v, .int .i64 x, .int .i64 a, .int .i64 b, .slice A l c] 45)
  have km := Blk.new (w.alloc (.cells #[.int .i64 n, .int .i64 id, .int .i64 own, .int .i64 view, .int .i64 left, .slice Av lv0 cv, .int .i64 lv, .int .i64 lx, .int .i64 dn, .slice Ap lp0 cp, .slice Ao lo0 co, .slice Ar lr0 cr, .slice Ad ld0 cd, .slice Ah lh0 ch] 40)) 45 #[.int .i64 k, .int .i64 v, .int .i64 x, .int .i64 a, .int .i64 b, .slice A l c]
  simp only [World.size_alloc] at km
  have hB := up_ (up_ (Below.refl w.heap.size w) (.cells #[.int .i64 n, .int .i64 id, .int .i64 own, .int .i64 view, .int .i64 left, .slice Av lv0 cv, .int .i64 lv, .int .i64 lx, .int .i64 dn, .slice Ap lp0 cp, .slice Ao lo0 co, .slice Ar lr0 cr, .slice Ad ld0 cd, .slice Ah lh0 ch] 40)) (.cells #[.int .i64 k, .int .i64 v, .int .i64 x, .int .i64 a, .int .i64 b, .slice A l c] 45)
  have ra := ka.rule; have rm := km.rule
  go_enter Try.func27, Try.ntmps27
  go_wp2_with fail
  refine (HC.out _ hB).mono ?_
  rintro e w1 ⟨rfl, hb⟩
  have ka' := ka.on hb; have km' := km.on hb; have hB' := on_ hB hb; clear ka km hB ra rm hb; have ka := ka'; have km := km'; have hB := hB'; clear ka' km' hB'; have ra := ka.rule; have rm := km.rule
  rcases g with _ | _
  · go_wp2
    go_ret
    exact ⟨rfl, hB⟩
  · obtain rfl := HGM.out rfl
    go_wp2_with fail
    refine (HM.out _ hB).mono ?_
    rintro e w2 ⟨rfl, hb⟩
    have ka' := ka.on hb; have km' := km.on hb; have hB' := on_ hB hb; clear ka km hB ra rm hb; have ka := ka'; have km := km'; have hB := hB'; clear ka' km' hB'; have ra := ka.rule; have rm := km.rule
    go_wp2
    go_ret
    exact ⟨rfl, hB⟩
set_option maxHeartbeats 6400000 in
theorem implTell_rep (q : Rq) (v x a b : Int) (A : Option Addr) (c : Nat) (vs : List (Int × Int)) (w : World) (hr : RdQ w w.heap.size q) (hf : FewQ q) (hm : Rd w w.heap.size A vs) (hn : vs.length ≤ 1048576) (hg : repQ q.dat = true) (hm2 : msgOkB 3 v x a b vs = true) :
    Calls Try.prog 27 #[q.agg, .agg #[.int .i64 3, .int .i64 v, .int .i64 x, .int .i64 a, .int .i64 b, .slice A vs.length c]] w fun e w' => e = .returned (.bool (hasI (hFrom q.dat.hs v) q.dat.id)) ∧ Below w.heap.size w w' := by
  have HC := Lib.hid (fun (W : World) (h : Below w.heap.size w W) => implRepOk_is true q hg W ((hr.below h).more h.size) hf)
  have HM := Lib.hid (fun (W : World) (h : Below w.heap.size w W) => implMsgOk_is true 3 v x a b A c vs hm2 W ((hm.below h).more h.size) hn)
  have hh0 := fun (W : World) (h : Below w.heap.size w W) => implHear_is q v W ((hr.below h).more h.size) hf
  have hsm := hfr_small q v hf
  have e9 : hfrC q.dat v = hFrom q.dat.hs v := by unfold hfrC; rw [if_pos hg]
  rw [e9] at hh0 hsm
  obtain ⟨xs, hxs⟩ : ∃ xs, hFrom q.dat.hs v = xs := ⟨_, rfl⟩
  rw [hxs] at hh0 hsm ⊢
  have HH := Lib.hid hh0
  clear hg hm2 e9 hxs hh0
  obtain ⟨n, id, own, view, left, voted, lv, lx, dn, pr, vo, re, ds, hs, Av, Ap, Ao, Ar, Ad, Ah, cv, cp, co, cr, cd, ch⟩ := q
  obtain ⟨rv, rp, ro, rr, rd, rh⟩ := hr
  obtain ⟨fv, fp, fo, fr, fd, fh⟩ := hf
  simp only [Rq.agg, Rq.cells, Rq.dat] at *
  obtain ⟨lv0, elv0⟩ : ∃ m, voted.length = m := ⟨_, rfl⟩
  obtain ⟨lp0, elp0⟩ : ∃ m, pr.length = m := ⟨_, rfl⟩
  obtain ⟨lo0, elo0⟩ : ∃ m, vo.length = m := ⟨_, rfl⟩
  obtain ⟨lr0, elr0⟩ : ∃ m, re.length = m := ⟨_, rfl⟩
  obtain ⟨ld0, eld0⟩ : ∃ m, ds.length = m := ⟨_, rfl⟩
  obtain ⟨lh0, elh0⟩ : ∃ m, hs.length = m := ⟨_, rfl⟩
  obtain ⟨l, el⟩ : ∃ m, vs.length = m := ⟨_, rfl⟩
  simp only [elv0, elp0, elo0, elr0, eld0, elh0, el] at HC HM HH ⊢
  clear elv0 elp0 elo0 elr0 eld0 elh0 el rv rp ro rr rd rh fv fp fo fr fd fh hm hn
  have ka := (Blk.new w 40 #[.int .i64 n, .int .i64 id, .int .i64 own, .int .i64 view, .int .i64 left, .slice Av lv0 cv, .int .i64 lv, .int .i64 lx, .int .i64 dn, .slice Ap lp0 cp, .slice Ao lo0 co, .slice Ar lr0 cr, .slice Ad ld0 cd, .slice Ah lh0 ch]).alloc (.cells #[.int .i64 3, .int .i64 v, .int .i64 x, .int .i64 a, .int .i64 b, .slice A l c] 45)
  have km := Blk.new (w.alloc (.cells #[.int .i64 n, .int .i64 id, .int .i64 own, .int .i64 view, .int .i64 left, .slice Av lv0 cv, .int .i64 lv, .int .i64 lx, .int .i64 dn, .slice Ap lp0 cp, .slice Ao lo0 co, .slice Ar lr0 cr, .slice Ad ld0 cd, .slice Ah lh0 ch] 40)) 45 #[.int .i64 3, .int .i64 v, .int .i64 x, .int .i64 a, .int .i64 b, .slice A l c]
  simp only [World.size_alloc] at km
  have hB := up_ (up_ (Below.refl w.heap.size w) (.cells #[.int .i64 n, .int .i64 id, .int .i64 own, .int .i64 view, .int .i64 left, .slice Av lv0 cv, .int .i64 lv, .int .i64 lx, .int .i64 dn, .slice Ap lp0 cp, .slice Ao lo0 co, .slice Ar lr0 cr, .slice Ad ld0 cd, .slice Ah lh0 ch] 40)) (.cells #[.int .i64 3, .int .i64 v, .int .i64 x, .int .i64 a, .int .i64 b, .slice A l c] 45)
  have ra := ka.rule; have rm := km.rule
  go_enter Try.func27, Try.ntmps27
  go_wp2_with fail
  refine (HC.out _ hB).mono ?_
  rintro e w1 ⟨rfl, hb⟩
  have ka' := ka.on hb; have km' := km.on hb; have hB' := on_ hB hb; clear ka km hB ra rm hb; have ka := ka'; have km := km'; have hB := hB'; clear ka' km' hB'; have ra := ka.rule; have rm := km.rule
  go_wp2_with fail
  refine (HM.out _ hB).mono ?_
  rintro e w2 ⟨rfl, hb⟩
  have ka' := ka.on hb; have km' := km.on hb; have hB' := on_ hB hb; clear ka km hB ra rm hb; have ka := ka'; have km := km'; have hB := hB'; clear ka' km' hB'; have ra := ka.rule; have rm := km.rule
  go_wp2_with fail
  have KA := Lib.hid ka; have KM := Lib.hid km; have HB := Lib.hid hB
  generalize w2 = w5 at *
  clear ka km ra rm hB HC HM
  refine wp_region_grow ?_ ?_ (RV w.heap.size w.heap.size (w.heap.size + 1) n id own view left lv lx dn Av Ap Ao Ar Ad Ah lv0 lp0 lo0 lr0 ld0 lh0 cv cp co cr cd ch v xs) (by kernel_rfl) (by kernel_rfl) (by kernel_rfl) RV.keep ?_ ?_
  rotate_left
  · intro us; simp only [putL]; go_simp; exact rfl
  · refine (Each.cons ?_ (Each.cons ?_ (Each.cons ?_ (Each.cons ?_ (Each.cons ?_ (Each.cons ?_ (Each.cons ?_ (Each.cons ?_ Each.nil))))))))
    · intro us wx hW hD Q K hK
      have rp := (KA.out.on hW).rule
      go_simp
      exact hK _ _ (.agg #[.int .i64 n, .int .i64 id, .int .i64 own, .int .i64 view, .int .i64 left, .slice Av lv0 cv, .int .i64 lv, .int .i64 lx, .int .i64 dn, .slice Ap lp0 cp, .slice Ao lo0 co, .slice Ar lr0 cr, .slice Ad ld0 cd, .slice Ah lh0 ch]) (by go_simp) (Below.refl _ _) rfl
    · intro us wx hW hD Q K hK
      go_simp
      exact hK _ _ (.pointer (some ⟨w.heap.size + 1, 1, none⟩)) (by go_simp) (Below.refl _ _) rfl
    · intro us wx hW hD Q K hK
      have e1 : us 1 = _ := hD 1 (by decide)
      have rm := (KM.out.on hW).rule
      go_simp
      exact hK _ _ (.int .i64 v) (by go_simp) (Below.refl _ _) rfl
    · intro us wx hW hD Q K hK
      have e0 : us 0 = _ := hD 0 (by decide)
      have e2 : us 2 = _ := hD 2 (by decide)
      go_simp
      go_at_call 20
      refine (HH.out wx (on_ HB.out hW)).mono ?_
      rintro e w6 ⟨u, rfl, ho, hb⟩
      obtain ⟨B, d, rfl⟩ := form8 ho
      exact hK _ _ (.slice B xs.length d) (by go_simp) hb ⟨B, d, rfl, (OI.of_own (own_more3 ho (show w.heap.size ≤ wx.heap.size from (on_ HB.out hW).size))).2⟩
    · intro us wx hW hD Q K hK
      go_simp
      exact hK _ _ (.pointer (some ⟨w.heap.size, 1, none⟩)) (by go_simp) (Below.refl _ _) rfl
    · intro us wx hW hD Q K hK
      have e4 : us 4 = _ := hD 4 (by decide)
      have rp := (KA.out.on hW).rule
      go_simp
      exact hK _ _ (.int .i64 id) (by go_simp) (Below.refl _ _) rfl
    · intro us wx hW hD Q K hK
      have e5 : us 5 = _ := hD 5 (by decide)
      obtain ⟨B, d, e3, ho⟩ := hD 3 (by decide)
      go_simp
      go_at_call 61
      refine (contains_any B d xs id wx ho.rd hsm).mono ?_
      rintro e w6 ⟨rfl, rfl⟩
      exact hK _ _ (.bool (hasI xs id)) (by go_simp) (Below.refl _ _) rfl
    · intro us wx hW hD Q K hK
      have e6 : us 6 = _ := hD 6 (by decide)
      go_simp
      exact hK _ _ (.bool (hasI xs id)) (by go_simp) (Below.refl _ _) rfl
  intro us' w6 hD hb6
  have e7 : us' 7 = _ := hD 7 (by decide)
  generalize us' 0 = z0 at *
  generalize us' 1 = z1 at *
  generalize us' 2 = z2 at *
  generalize us' 3 = z3 at *
  generalize us' 4 = z4 at *
  generalize us' 5 = z5 at *
  generalize us' 6 = z6 at *
  generalize us' 7 = z7 at *
  clear us' hD
  subst e7
  have hB6 := on_ HB.out hb6
  go_wp2
  go_ret
  exact ⟨rfl, hB6⟩
def BV (p pm : Nat) (n id own view left lv lx dn : Int) (Av Ap Ao Ar Ad Ah : Option Addr) (lv0 lp0 lo0 lr0 ld0 lh0 cv cp co cr cd ch : Nat) (k v fv : Int) (fq : Bool) (pr vo re ds : List B3) : Nat → Value → World → Prop
  | 0, u, _ => u = .agg #[.int .i64 n, .int .i64 id, .int .i64 own, .int .i64 view, .int .i64 left, .slice Av lv0 cv, .int .i64 lv, .int .i64 lx, .int .i64 dn, .slice Ap lp0 cp, .slice Ao lo0 co, .slice Ar lr0 cr, .slice Ad ld0 cd, .slice Ah lh0 ch]
  | 1, u, w => ∃ x b1 b2 b3 b4 Bv dv Bh dh lq, u = .pointer (some ⟨x, 0, none⟩) ∧ Blk w x 143 #[.int .i64 n, .int .i64 id, .int .i64 own, .int .i64 view, .int .i64 left, .slice Bv lv0 dv, .int .i64 lv, .int .i64 lx, .int .i64 dn, .slice none 0 0, .slice none 0 0, .slice none 0 0, .slice none 0 0, .slice Bh lq dh, .map (some b1), .map (some b2), .map (some b3), .map (some b4), .slice none 0 0] ∧ Bals w (.map (some b1)) pr ∧ Bals w (.map (some b2)) vo ∧ Bals w (.map (some b3)) re ∧ Bals w (.map (some b4)) ds
  | 2, u, _ => u = .pointer (some ⟨pm, 0, none⟩)
  | 3, u, _ => u = .int .i64 k
  | 4, u, w => ∃ b, u = .agg #[.map (some b)] ∧ Bals w (.map (some b)) (selT k pr vo re ds)
  | 5, u, _ => u = .pointer (some ⟨pm, 1, none⟩)
  | 6, u, _ => u = .int .i64 v
  | 7, u, _ => u = .pointer (some ⟨p, 1, none⟩)
  | 8, u, _ => u = .int .i64 id
  | 9, u, _ => u = .tuple #[.int .i64 fv, .bool fq]
  | 10, u, _ => u = .tuple #[.int .i64 fv, .bool fq]
  | 11, u, _ => u = .int .i64 fv
  | 12, u, _ => u = .bool fq
  | 13, u, _ => u = .int .i64 fv
  | 14, u, _ => u = .bool fq
  | _, _, _ => True
theorem BV.keep {p pm : Nat} {n id own view left lv lx dn : Int} {Av Ap Ao Ar Ad Ah : Option Addr} {lv0 lp0 lo0 lr0 ld0 lh0 cv cp co cr cd ch : Nat} {k v fv : Int} {fq : Bool} {pr vo re ds : List B3} : ∀ j u w1 w2, BV p pm n id own view left lv lx dn Av Ap Ao Ar Ad Ah lv0 lp0 lo0 lr0 ld0 lh0 cv cp co cr cd ch k v fv fq pr vo re ds j u w1 → Below w1.heap.size w1 w2 → BV p pm n id own view left lv lx dn Av Ap Ao Ar Ad Ah lv0 lp0 lo0 lr0 ld0 lh0 cv cp co cr cd ch k v fv fq pr vo re ds j u w2 := by
  intro j u w1 w2 h hb
  match j, h with
  | 1, h => obtain ⟨x, b1, b2, b3, b4, Bv, dv, Bh, dh, lq, e, h1, h2, h3, h4, h5⟩ := h; exact ⟨x, b1, b2, b3, b4, Bv, dv, Bh, dh, lq, e, h1.on hb, h2.on hb, h3.on hb, h4.on hb, h5.on hb⟩
  | 4, h => obtain ⟨b, e, h1⟩ := h; exact ⟨b, e, h1.on hb⟩
  | 0, h => exact h
  | 2, h => exact h
  | 3, h => exact h
  | 5, h => exact h
  | 6, h => exact h
  | 7, h => exact h
  | 8, h => exact h
  | 9, h => exact h
  | 10, h => exact h
  | 11, h => exact h
  | 12, h => exact h
  | 13, h => exact h
  | 14, h => exact h
  | _ + 15, _ => trivial
theorem bals_sel {w : World} {k : Int} {b1 b2 b3 b4 : Nat} {pr vo re ds : List B3} (h1 : Bals w (.map (some b1)) pr) (h2 : Bals w (.map (some b2)) vo) (h3 : Bals w (.map (some b3)) re) (h4 : Bals w (.map (some b4)) ds) :
    ∃ b, selT k (some b1) (some b2) (some b3) (some b4) = some b ∧ Bals w (.map (some b)) (selT k pr vo re ds) := by
  unfold selT
  split
  · exact ⟨b1, rfl, h1⟩
  · split
    · exact ⟨b3, rfl, h3⟩
    · split
      · exact ⟨b4, rfl, h4⟩
      · exact ⟨b2, rfl, h2⟩
set_option maxHeartbeats 6400000 in
theorem implTell_bal (q : Rq) (k v x a b : Int) (A : Option Addr) (c : Nat) (vs : List (Int × Int)) (w : World) (hr : RdQ w w.heap.size q) (hf : FewQ q) (hm : Rd w w.heap.size A vs) (hn : vs.length ≤ 1048576) (hg : repQ q.dat = true) (hm2 : msgOkB k v x a b vs = true) (hk : k = 0 ∨ k = 1 ∨ k = 2 ∨ k = 4) :
    Calls Try.prog 27 #[q.agg, .agg #[.int .i64 k, .int .i64 v, .int .i64 x, .int .i64 a, .int .i64 b, .slice A vs.length c]] w fun e w' => e = .returned (.bool (foundQ (selT k q.pr q.vo q.re q.ds) v q.id && decide (foundV (selT k q.pr q.vo q.re q.ds) v q.id = x))) ∧ Below w.heap.size w w' := by
  have HC := Lib.hid (fun (W : World) (h : Below w.heap.size w W) => implRepOk_is true q hg W ((hr.below h).more h.size) hf)
  have HM := Lib.hid (fun (W : World) (h : Below w.heap.size w W) => implMsgOk_is true k v x a b A c vs hm2 W ((hm.below h).more h.size) hn)
  have HN := Lib.hid (fun (W : World) (h : Below w.heap.size w W) => nodeOf_any q hg W ((hr.below h).more h.size) hf)
  have hkd := kind_of hm2
  have hwv : wfI v := by have := hkd.2; exact WalkArith.wf_i64 (by omega)
  have hwi : wfI q.id := by have h9 : 0 ≤ q.id ∧ q.id < 7 := id_of hg; exact WalkArith.wf_i64 (by omega)
  have hk3 : (k == 3) = false := by rcases hk with rfl | rfl | rfl | rfl <;> rfl
  clear hg hm2 hkd
  obtain ⟨fq, efq⟩ : ∃ z, foundQ (selT k q.pr q.vo q.re q.ds) v q.id = z := ⟨_, rfl⟩
  obtain ⟨fv_, efv⟩ : ∃ z, foundV (selT k q.pr q.vo q.re q.ds) v q.id = z := ⟨_, rfl⟩
  rw [efq, efv]
  have EFQ := Lib.hid efq; have EFV := Lib.hid efv
  clear efq efv
  obtain ⟨y, ey⟩ : ∃ z, decide (fv_ = x) = z := ⟨_, rfl⟩
  rw [ey]
  have ey2 : (fv_ == x) = y := by rw [← ey]; rfl
  clear ey
  obtain ⟨n, id, own, view, left, voted, lv, lx, dn, pr, vo, re, ds, hs, Av, Ap, Ao, Ar, Ad, Ah, cv, cp, co, cr, cd, ch⟩ := q
  obtain ⟨rv, rp, ro, rr, rd, rh⟩ := hr
  obtain ⟨fv, fp, fo, fr, fd, fh⟩ := hf
  simp only [Rq.agg, Rq.cells] at *
  obtain ⟨lv0, elv0⟩ : ∃ m, voted.length = m := ⟨_, rfl⟩
  obtain ⟨lp0, elp0⟩ : ∃ m, pr.length = m := ⟨_, rfl⟩
  obtain ⟨lo0, elo0⟩ : ∃ m, vo.length = m := ⟨_, rfl⟩
  obtain ⟨lr0, elr0⟩ : ∃ m, re.length = m := ⟨_, rfl⟩
  obtain ⟨ld0, eld0⟩ : ∃ m, ds.length = m := ⟨_, rfl⟩
  obtain ⟨lh0, elh0⟩ : ∃ m, hs.length = m := ⟨_, rfl⟩
  obtain ⟨l, el⟩ : ∃ m, vs.length = m := ⟨_, rfl⟩
  simp only [elv0, elp0, elo0, elr0, eld0, elh0, el] at HC HM HN ⊢
  clear elv0 elp0 elo0 elr0 eld0 elh0 el rv rp ro rr rd rh fv fp fo fr fd fh hm hn
  have ka := (Blk.new w 40 #[.int .i64 n, .int .i64 id, .int .i64 own, .int .i64 view, .int .i64 left, .slice Av lv0 cv, .int .i64 lv, .int .i64 lx, .int .i64 dn, .slice Ap lp0 cp, .slice Ao lo0 co, .slice Ar lr0 cr, .slice Ad ld0 cd, .slice Ah lh0 ch]).alloc (.cells #[.int .i64 k, .int .i64 v, .int .i64 x, .int .i64 a, .int .i64 b, .slice A l c] 45)
  have km := Blk.new (w.alloc (.cells #[.int .i64 n, .int .i64 id, .int .i64 own, .int .i64 view, .int .i64 left, .slice Av lv0 cv, .int .i64 lv, .int .i64 lx, .int .i64 dn, .slice Ap lp0 cp, .slice Ao lo0 co, .slice Ar lr0 cr, .slice Ad ld0 cd, .slice Ah lh0 ch] 40)) 45 #[.int .i64 k, .int .i64 v, .int .i64 x, .int .i64 a, .int .i64 b, .slice A l c]
  simp only [World.size_alloc] at km
  have hB := up_ (up_ (Below.refl w.heap.size w) (.cells #[.int .i64 n, .int .i64 id, .int .i64 own, .int .i64 view, .int .i64 left, .slice Av lv0 cv, .int .i64 lv, .int .i64 lx, .int .i64 dn, .slice Ap lp0 cp, .slice Ao lo0 co, .slice Ar lr0 cr, .slice Ad ld0 cd, .slice Ah lh0 ch] 40)) (.cells #[.int .i64 k, .int .i64 v, .int .i64 x, .int .i64 a, .int .i64 b, .slice A l c] 45)
  have ra := ka.rule; have rm := km.rule
  go_enter Try.func27, Try.ntmps27
  go_wp2_with fail
  refine (HC.out _ hB).mono ?_
  rintro e w1 ⟨rfl, hb⟩
  have ka' := ka.on hb; have km' := km.on hb; have hB' := on_ hB hb; clear ka km hB ra rm hb; have ka := ka'; have km := km'; have hB := hB'; clear ka' km' hB'; have ra := ka.rule; have rm := km.rule
  go_wp2_with fail
  refine (HM.out _ hB).mono ?_
  rintro e w2 ⟨rfl, hb⟩
  have ka' := ka.on hb; have km' := km.on hb; have hB' := on_ hB hb; clear ka km hB ra rm hb; have ka := ka'; have km := km'; have hB := hB'; clear ka' km' hB'; have ra := ka.rule; have rm := km.rule
  go_wp2_with fail
  have KA := Lib.hid ka; have KM := Lib.hid km; have HB := Lib.hid hB
  clear ka km ra rm hB HC HM
  refine wp_region_grow ?_ ?_ (BV w.heap.size (w.heap.size + 1) n id own view left lv lx dn Av Ap Ao Ar Ad Ah lv0 lp0 lo0 lr0 ld0 lh0 cv cp co cr cd ch k v fv_ fq pr vo re ds) (by kernel_rfl) (by kernel_rfl) (by kernel_rfl) BV.keep ?_ ?_
  rotate_left
  · intro us; simp only [putL]; go_simp; exact rfl
  · refine (Each.cons ?_ (Each.cons ?_ (Each.cons ?_ (Each.cons ?_ (Each.cons ?_ (Each.cons ?_ (Each.cons ?_ (Each.cons ?_ (Each.cons ?_ (Each.cons ?_ (Each.cons ?_ (Each.cons ?_ (Each.cons ?_ (Each.cons ?_ (Each.cons ?_ Each.nil)))))))))))))))
    · intro us wx hW hD Q K hK
      have rp := (KA.out.on hW).rule
      go_simp
      exact hK _ _ (.agg #[.int .i64 n, .int .i64 id, .int .i64 own, .int .i64 view, .int .i64 left, .slice Av lv0 cv, .int .i64 lv, .int .i64 lx, .int .i64 dn, .slice Ap lp0 cp, .slice Ao lo0 co, .slice Ar lr0 cr, .slice Ad ld0 cd, .slice Ah lh0 ch]) (by go_simp) (Below.refl _ _) rfl
    · intro us wx hW hD Q K hK
      have e0 : us 0 = _ := hD 0 (by decide)
      go_simp
      go_at_call 62
      refine (HN.out wx (on_ HB.out hW)).mono ?_
      rintro e w6 ⟨x, b1, b2, b3, b4, Bv, dv, Bh, dh, qs, rfl, _, _, _, _, _, kx, h1, h2, h3, h4, _, _, _, _, hb⟩
      exact hK _ _ (.pointer (some ⟨x, 0, none⟩)) (by go_simp) hb ⟨x, b1, b2, b3, b4, Bv, dv, Bh, dh, _, rfl, kx, h1, h2, h3, h4⟩
    · intro us wx hW hD Q K hK
      go_simp
      exact hK _ _ (.pointer (some ⟨w.heap.size + 1, 0, none⟩)) (by go_simp) (Below.refl _ _) rfl
    · intro us wx hW hD Q K hK
      have e2 : us 2 = _ := hD 2 (by decide)
      have rm := (KM.out.on hW).rule
      go_simp
      exact hK _ _ (.int .i64 k) (by go_simp) (Below.refl _ _) rfl
    · intro us wx hW hD Q K hK
      have e3 : us 3 = _ := hD 3 (by decide)
      obtain ⟨x, b1, b2, b3, b4, Bv, dv, Bh, dh, lq, e1, kx, h1, h2, h3, h4⟩ := hD 1 (by decide)
      obtain ⟨b, eb, hbal⟩ := bals_sel (k := k) h1 h2 h3 h4
      go_simp
      go_at_call 63
      refine (box_any x _ _ _ _ _ _ _ _ _ _ _ _ _ _ _ _ _ _ _ k hk wx kx).mono ?_
      rintro e w6 ⟨rfl, hb⟩
      rw [eb]
      exact hK _ _ (.agg #[.map (some b)]) (by go_simp) hb ⟨b, rfl, hbal.on hb⟩
    · intro us wx hW hD Q K hK
      go_simp
      exact hK _ _ (.pointer (some ⟨w.heap.size + 1, 1, none⟩)) (by go_simp) (Below.refl _ _) rfl
    · intro us wx hW hD Q K hK
      have e5 : us 5 = _ := hD 5 (by decide)
      have rm := (KM.out.on hW).rule
      go_simp
      exact hK _ _ (.int .i64 v) (by go_simp) (Below.refl _ _) rfl
    · intro us wx hW hD Q K hK
      go_simp
      exact hK _ _ (.pointer (some ⟨w.heap.size, 1, none⟩)) (by go_simp) (Below.refl _ _) rfl
    · intro us wx hW hD Q K hK
      have e7 : us 7 = _ := hD 7 (by decide)
      have rp := (KA.out.on hW).rule
      go_simp
      exact hK _ _ (.int .i64 id) (by go_simp) (Below.refl _ _) rfl
    · intro us wx hW hD Q K hK
      have e6 : us 6 = _ := hD 6 (by decide)
      have e8 : us 8 = _ := hD 8 (by decide)
      obtain ⟨b, e4, hbal⟩ := hD 4 (by decide)
      go_simp
      go_at_call 64
      refine (told_any b _ v id hwv hwi wx hbal).mono ?_
      rintro e w6 ⟨rfl, hb⟩
      rw [EFQ.out, EFV.out]
      exact hK _ _ (.tuple #[.int .i64 fv_, .bool fq]) (by go_simp) hb rfl
    · intro us wx hW hD Q K hK
      have e9 : us 9 = _ := hD 9 (by decide)
      go_simp
      exact hK _ _ (.tuple #[.int .i64 fv_, .bool fq]) (by go_simp) (Below.refl _ _) rfl
    · intro us wx hW hD Q K hK
      have e10 : us 10 = _ := hD 10 (by decide)
      go_simp
      exact hK _ _ (.int .i64 fv_) (by go_simp) (Below.refl _ _) rfl
    · intro us wx hW hD Q K hK
      have e10 : us 10 = _ := hD 10 (by decide)
      go_simp
      exact hK _ _ (.bool fq) (by go_simp) (Below.refl _ _) rfl
    · intro us wx hW hD Q K hK
      have e11 : us 11 = _ := hD 11 (by decide)
      go_simp
      exact hK _ _ (.int .i64 fv_) (by go_simp) (Below.refl _ _) rfl
    · intro us wx hW hD Q K hK
      have e12 : us 12 = _ := hD 12 (by decide)
      go_simp
      exact hK _ _ (.bool fq) (by go_simp) (Below.refl _ _) rfl
  intro us' w6 hD hb6
  have e13 : us' 13 = _ := hD 13 (by decide)
  have e14 : us' 14 = _ := hD 14 (by decide)
  generalize us' 0 = z0 at *
  generalize us' 1 = z1 at *
  generalize us' 2 = z2 at *
  generalize us' 3 = z3 at *
  generalize us' 4 = z4 at *
  generalize us' 5 = z5 at *
  generalize us' 6 = z6 at *
  generalize us' 7 = z7 at *
  generalize us' 8 = z8 at *
  generalize us' 9 = z9 at *
  generalize us' 10 = z10 at *
  generalize us' 11 = z11 at *
  generalize us' 12 = z12 at *
  generalize us' 13 = z13 at *
  generalize us' 14 = z14 at *
  clear us' hD
  subst e13 e14
  have hB6 := on_ HB.out hb6
  have rm := (KM.out.on hb6).rule
  rcases fq with _ | _
  · go_wp2
    go_ret
    exact ⟨rfl, hB6⟩
  · go_wp2
    go_ret
    exact ⟨rfl, hB6⟩
theorem specTell_is (q : Rq) (k v x a b : Int) (A : Option Addr) (c : Nat) (vs : List (Int × Int)) (w : World) (hr : RdQ w w.heap.size q) (hf : FewQ q) (hm : Rd w w.heap.size A vs) (hn : vs.length ≤ 1048576) :
    Calls Try.prog 25 #[q.agg, .agg #[.int .i64 k, .int .i64 v, .int .i64 x, .int .i64 a, .int .i64 b, .slice A vs.length c]] w fun e w' => e = .returned (.bool (tellQ q.dat k v x a b vs)) ∧ Below w.heap.size w w' := by
  unfold tellQ
  rcases h : repQ q.dat && msgOkB k v x a b vs with _ | _
  · exact specTell_no q k v x a b A c vs w hr hf hm hn h
  · simp only [Bool.and_eq_true] at h
    obtain ⟨h1, h2⟩ := h
    rw [Bool.true_and]
    by_cases hk : k = 3
    · subst hk
      rw [if_pos rfl]
      exact specTell_rep q v x a b A c vs w hr hf hm hn h1 h2
    · rw [if_neg hk]
      rcases (kind_of h2).1 with rfl | rfl | rfl | rfl | rfl
      · exact specTell_0 q v x a b A c vs w hr hf hm hn h1 h2
      · exact specTell_1 q v x a b A c vs w hr hf hm hn h1 h2
      · exact specTell_2 q v x a b A c vs w hr hf hm hn h1 h2
      · exact specTell_4 q v x a b A c vs w hr hf hm hn h1 h2
      · exact absurd rfl hk
theorem implTell_is (q : Rq) (k v x a b : Int) (A : Option Addr) (c : Nat) (vs : List (Int × Int)) (w : World) (hr : RdQ w w.heap.size q) (hf : FewQ q) (hm : Rd w w.heap.size A vs) (hn : vs.length ≤ 1048576) :
    Calls Try.prog 27 #[q.agg, .agg #[.int .i64 k, .int .i64 v, .int .i64 x, .int .i64 a, .int .i64 b, .slice A vs.length c]] w fun e w' => e = .returned (.bool (tellQ q.dat k v x a b vs)) ∧ Below w.heap.size w w' := by
  unfold tellQ
  rcases h : repQ q.dat && msgOkB k v x a b vs with _ | _
  · exact implTell_no q k v x a b A c vs w hr hf hm hn h
  · simp only [Bool.and_eq_true] at h
    obtain ⟨h1, h2⟩ := h
    rw [Bool.true_and]
    by_cases hk : k = 3
    · subst hk
      rw [if_pos rfl]
      exact implTell_rep q v x a b A c vs w hr hf hm hn h1 h2
    · rw [if_neg hk]
      have hk4 := (kind_of h2).1
      exact implTell_bal q k v x a b A c vs w hr hf hm hn h1 h2 (by omega)
end Go.Proofs.Ytfdfjmibjnmhpaa.V
