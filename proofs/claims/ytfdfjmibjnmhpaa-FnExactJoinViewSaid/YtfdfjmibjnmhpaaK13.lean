/-
  What a state would report, of the model and of the program: contracts. The kinds of rows in a cluster: flags, messages, links, replicas. No statement is proved here.
-/
import Derived.Test.YtfdfjmibjnmhpaaK11
import Derived.Test.YtfdfjmibjnmhpaaK12
import Derived.Test.YtfdfjmibjnmhpaaK04
import Derived.Test.YtfdfjmibjnmhpaaK03
set_option linter.unusedVariables false
set_option maxRecDepth 100000
namespace Go.Proofs.Ytfdfjmibjnmhpaa.V
open Go.RowKit Go.Proofs.Ytfdfjmibjnmhpaa.B
theorem infoVt : (Try.prog.info? 34).map (fun i => (i.zero, i.size, i.bytes)) = some (some (.agg #[.int .i64 0, .int .i64 0]), 2, 16) := by kernel_rfl
theorem Blk.own9 {w w' : World} {g : Nat} {t : TypeId} {cs : Array Value} {row : Option Nat} (h : Blk w g t cs) (hgr : w.grownBy w' row) (hne : row ≠ some g) : Blk w' g t cs := (hgr.block g h.lt (fun e => hne e.symm)).trans h
theorem form8 {w : World} {base e size n : Nat} {v : Value} {xs : List Value} (h : w.ownsRow base e size v n xs) : ∃ A c, v = .slice A n c := by
  obtain ⟨_, ⟨rfl, rfl⟩ | ⟨g, cap, cur, rfl, _⟩⟩ := h
  · exact ⟨_, _, rfl⟩
  · exact ⟨_, _, rfl⟩
/-- Votes, in memory of the call's own. -/
def VR (us : List (Int × Int)) (w : World) (e : Ending) (w' : World) : Prop := ∃ A d, e = .returned (.slice A us.length d) ∧ OV w' 34 w.heap.size A us ∧ Below w.heap.size w w'
theorem vr_of {us : List (Int × Int)} {w w' : World} {v : Value} {n : Nat} {xs : List Value} (h : w'.ownsRow w.heap.size 34 2 v n xs) (hn : n = us.length) (hx : xs = vcells us) (hB : Below w.heap.size w w') : VR us w (.returned v) w' := by
  subst hn hx
  obtain ⟨A, d, rfl⟩ := form8 h
  exact ⟨A, d, rfl, OV.of_own h, hB⟩
set_option maxHeartbeats 1600000 in
theorem copiedVotes_any (A : Option Addr) (c : Nat) (vs : List (Int × Int)) (w : World) (hr : Rd w w.heap.size A vs) (hn : vs.length ≤ 1048576) :
    Calls Try.prog 92 #[.slice A vs.length c] w (VR vs w) := by
  obtain ⟨i0, hi0, hz0, hz1, hz2⟩ := info_parts infoVt
  have HR := Lib.hid hr.reads; have H1 := Lib.hid (vcells_one vs)
  obtain ⟨n, en⟩ : ∃ n, vs.length = n := ⟨_, rfl⟩
  rw [en] at hn HR ⊢
  have EN := Lib.hid en; clear en hr
  go_enter Try.func92, Try.ntmps92
  go_wp2_with (at_builtin; refine wpList_append_any _ rfl (.const (.slice none 0 0)) (.tmp 3) 33 rfl w.heap.size 34 i0 _ 2 16 Try.underlying33 hi0 hz0 hz1 hz2 rfl (by omega) (.slice none 0 0) 0 [] rfl (World.ownsRow_nil _ _ _ _) w.heap.size A n c (vcells vs) rfl HR.out H1.out (by simp only [maxLen]; omega) (by omega) (by omega) ?_; intro v1 w1 hown1 hgr1 hat1)
  go_ret
  exact vr_of hown1 (by rw [EN.out]; omega) rfl ((Below.refl _ _).grown hgr1 (Nat.le_refl _) (fun j hj => by first | (injection hj) | simp at hj))
def MR (k v x a b : Int) (us : List (Int × Int)) (w : World) (e : Ending) (w' : World) : Prop := ∃ A d, e = .returned (.agg #[.int .i64 k, .int .i64 v, .int .i64 x, .int .i64 a, .int .i64 b, .slice A us.length d]) ∧ OV w' 34 w.heap.size A us ∧ Below w.heap.size w w'
def TV (base p : Nat) (vw lv lx : Int) (A : Option Addr) (n c : Nat) (us : List (Int × Int)) : Nat → Value → World → Prop
  | 0, u, _ => u = .int .i64 vw
  | 1, u, _ => u = .pointer (some ⟨p, 6, none⟩)
  | 2, u, _ => u = .agg #[.int .i64 lv, .int .i64 lx]
  | 3, u, _ => u = .pointer (some ⟨p, 5, none⟩)
  | 4, u, _ => u = .slice A n c
  | 5, u, w => ∃ B d, u = .slice B n d ∧ OV w 34 base B us
  | 6, u, w => ∃ B d, u = .agg #[.int .i64 3, .int .i64 vw, .int .i64 0, .int .i64 lv, .int .i64 lx, .slice B n d] ∧ OV w 34 base B us
  | _, _, _ => True
theorem TV.keep {base p : Nat} {vw lv lx : Int} {A : Option Addr} {n c : Nat} {us : List (Int × Int)} : ∀ j u w1 w2, TV base p vw lv lx A n c us j u w1 → Below w1.heap.size w1 w2 → TV base p vw lv lx A n c us j u w2 := by
  intro j u w1 w2 h hb
  match j, h with
  | 0, h => exact h
  | 1, h => exact h
  | 2, h => exact h
  | 3, h => exact h
  | 4, h => exact h
  | 5, h => obtain ⟨B, d, e, ho⟩ := h; exact ⟨B, d, e, ho.on hb⟩
  | 6, h => obtain ⟨B, d, e, ho⟩ := h; exact ⟨B, d, e, ho.on hb⟩
  | _ + 7, _ => trivial
def TR (base o : Nat) (w0 : World) (vw lv lx : Int) (n : Nat) (us : List (Int × Int)) (_ : Nat → Value) (w' : World) : Prop :=
  ∃ B d, Blk w' o 45 #[.int .i64 3, .int .i64 vw, .int .i64 0, .int .i64 lv, .int .i64 lx, .slice B n d] ∧ OV w' 34 base B us ∧ Below base w0 w'
theorem OV.set6 {wx : World} {base o t : Nat} {B : Option Addr} {us : List (Int × Int)} {cs : Array Value} {v0 v1 v2 v3 v4 v5 : Value} (h : OV wx 34 base B us) (hk : Blk wx o t cs) (ht : t ≠ 34) :
    OV ((((((wx.setCell ⟨o, 0, none⟩ v0).setCell ⟨o, 1, none⟩ v1).setCell ⟨o, 2, none⟩ v2).setCell ⟨o, 3, none⟩ v3).setCell ⟨o, 4, none⟩ v4).setCell ⟨o, 5, none⟩ v5) 34 base B us := by
  rcases h with h | ⟨g, cur, rfl, hg, hb, hp⟩
  · exact .inl h
  · have hne : g ≠ o := fun e => by
      subst e
      have h1 := hb.symm.trans hk
      injection h1 with h1
      injection h1 with _ h1
      exact ht h1.symm
    exact .inr ⟨g, cur, rfl, hg, (((((hb.far hne _).far hne _).far hne _).far hne _).far hne _).far hne _, hp⟩
theorem OV.set_ {w : World} {t base : Nat} {A : Option Addr} {us : List (Int × Int)} {p : Addr} (h : OV w t base A us) (hp : p.block < base) (v : Value) : OV (w.setCell p v) t base A us := by
  rcases h with h | ⟨g, cur, rfl, hg, hb, hq⟩
  · exact .inl h
  · exact .inr ⟨g, cur, rfl, hg, hb.far (by omega) _, hq⟩
set_option maxHeartbeats 3200000 in
theorem reportOf_any (q : Rq) (vw : Int) (w : World) (hr : RdQ w w.heap.size q) (hf : FewQ q) :
    Calls Try.prog 50 #[q.agg, .int .i64 vw] w (MR 3 vw 0 q.lv q.lx q.voted w) := by
  obtain ⟨n, id, own, view, left, voted, lv, lx, dn, pr, vo, re, ds, hs, Av, Ap, Ao, Ar, Ad, Ah, cv, cp, co, cr, cd, ch⟩ := q
  obtain ⟨rv, rp, ro, rr, rd, rh⟩ := hr
  obtain ⟨fv, fp, fo, fr, fd, fh⟩ := hf
  simp only [Rq.agg, Rq.cells] at *
  have HV := Lib.hid (fun (W : World) (h : Below w.heap.size w W) => copiedVotes_any Av cv voted W ((rv.below h).more h.size) fv)
  obtain ⟨lv0, elv0⟩ : ∃ m, voted.length = m := ⟨_, rfl⟩
  obtain ⟨lp0, elp0⟩ : ∃ m, pr.length = m := ⟨_, rfl⟩
  obtain ⟨lo0, elo0⟩ : ∃ m, vo.length = m := ⟨_, rfl⟩
  obtain ⟨lr0, elr0⟩ : ∃ m, re.length = m := ⟨_, rfl⟩
  obtain ⟨ld0, eld0⟩ : ∃ m, ds.length = m := ⟨_, rfl⟩
  obtain ⟨lh0, elh0⟩ : ∃ m, hs.length = m := ⟨_, rfl⟩
  simp only [elv0, elp0, elo0, elr0, eld0, elh0] at HV ⊢
  have ELV := Lib.hid elv0
  clear elv0 elp0 elo0 elr0 eld0 elh0 rv rp ro rr rd rh fv fp fo fr fd fh
  have ka := (Blk.new w 40 #[.int .i64 n, .int .i64 id, .int .i64 own, .int .i64 view, .int .i64 left, .slice Av lv0 cv, .int .i64 lv, .int .i64 lx, .int .i64 dn, .slice Ap lp0 cp, .slice Ao lo0 co, .slice Ar lr0 cr, .slice Ad ld0 cd, .slice Ah lh0 ch]).alloc (.cells #[.int .i64 0, .int .i64 0, .int .i64 0, .int .i64 0, .int .i64 0, .slice none 0 0] 45)
  have km := Blk.new (w.alloc (.cells #[.int .i64 n, .int .i64 id, .int .i64 own, .int .i64 view, .int .i64 left, .slice Av lv0 cv, .int .i64 lv, .int .i64 lx, .int .i64 dn, .slice Ap lp0 cp, .slice Ao lo0 co, .slice Ar lr0 cr, .slice Ad ld0 cd, .slice Ah lh0 ch] 40)) 45 #[.int .i64 0, .int .i64 0, .int .i64 0, .int .i64 0, .int .i64 0, .slice none 0 0]
  simp only [World.size_alloc] at km
  have hB := up_ (up_ (Below.refl w.heap.size w) (.cells #[.int .i64 n, .int .i64 id, .int .i64 own, .int .i64 view, .int .i64 left, .slice Av lv0 cv, .int .i64 lv, .int .i64 lx, .int .i64 dn, .slice Ap lp0 cp, .slice Ao lo0 co, .slice Ar lr0 cr, .slice Ad ld0 cd, .slice Ah lh0 ch] 40)) (.cells #[.int .i64 0, .int .i64 0, .int .i64 0, .int .i64 0, .int .i64 0, .slice none 0 0] 45)
  have ra := ka.rule
  go_enter Try.func50, Try.ntmps50
  go_wp2_with fail
  generalize (w.alloc (.cells #[.int .i64 n, .int .i64 id, .int .i64 own, .int .i64 view, .int .i64 left, .slice Av lv0 cv, .int .i64 lv, .int .i64 lx, .int .i64 dn, .slice Ap lp0 cp, .slice Ao lo0 co, .slice Ar lr0 cr, .slice Ad ld0 cd, .slice Ah lh0 ch] 40)).alloc (.cells #[.int .i64 0, .int .i64 0, .int .i64 0, .int .i64 0, .int .i64 0, .slice none 0 0] 45) = w1 at *
  have KP := Lib.hid ka; have KM := Lib.hid km; have HB := Lib.hid hB
  clear ra ka km hB
  refine wp_region_fin ?_ ?_ (TV w.heap.size w.heap.size vw lv lx Av lv0 cv voted) (TR w.heap.size (w.heap.size + 1) w vw lv lx lv0 voted) 7 (by kernel_rfl) (by kernel_rfl) (by kernel_rfl) (by kernel_rfl) (by kernel_rfl) TV.keep ?_ ?_
  rotate_left
  · intro us; simp only [putL]; go_simp; exact rfl
  · refine Each.cons ?_ (Each.cons ?_ (Each.cons ?_ (Each.cons ?_ (Each.cons ?_ (Each.cons ?_ (Each.cons ?_ (Each.cons ?_ (Each.nil))))))))
    · refine ⟨fun _ => ?_, fun h => absurd h (by decide)⟩
      intro us wx hW hD Q K hK
      go_simp
      exact hK _ _ (.int .i64 vw) (by go_simp) (Below.refl _ _) rfl
    · refine ⟨fun _ => ?_, fun h => absurd h (by decide)⟩
      intro us wx hW hD Q K hK
      go_simp
      exact hK _ _ (.pointer (some ⟨w.heap.size, 6, none⟩)) (by go_simp) (Below.refl _ _) rfl
    · refine ⟨fun _ => ?_, fun h => absurd h (by decide)⟩
      intro us wx hW hD Q K hK
      have e1 : us 1 = _ := hD 1 (by decide)
      have rp := (KP.out.below hW KP.out.lt).rule
      go_simp
      exact hK _ _ (.agg #[.int .i64 lv, .int .i64 lx]) (by go_simp) (Below.refl _ _) rfl
    · refine ⟨fun _ => ?_, fun h => absurd h (by decide)⟩
      intro us wx hW hD Q K hK
      go_simp
      exact hK _ _ (.pointer (some ⟨w.heap.size, 5, none⟩)) (by go_simp) (Below.refl _ _) rfl
    · refine ⟨fun _ => ?_, fun h => absurd h (by decide)⟩
      intro us wx hW hD Q K hK
      have e3 : us 3 = _ := hD 3 (by decide)
      have rp := (KP.out.below hW KP.out.lt).rule
      go_simp
      exact hK _ _ (.slice Av lv0 cv) (by go_simp) (Below.refl _ _) rfl
    · refine ⟨fun _ => ?_, fun h => absurd h (by decide)⟩
      intro us wx hW hD Q K hK
      have e4 : us 4 = _ := hD 4 (by decide)
      go_simp
      go_at_call 92
      refine (HV.out wx (on_ HB.out hW)).mono ?_
      rintro e w5 ⟨B, d, rfl, ho, hb⟩
      rw [ELV.out]
      exact hK _ _ (.slice B lv0 d) (by go_simp) hb ⟨B, d, rfl, ho.more (by have := hW.size; have := HB.out.size; omega)⟩
    · refine ⟨fun _ => ?_, fun h => absurd h (by decide)⟩
      intro us wx hW hD Q K hK
      have e0 : us 0 = _ := hD 0 (by decide)
      have e2 : us 2 = _ := hD 2 (by decide)
      obtain ⟨B, d, e5, ho⟩ := hD 5 (by decide)
      go_simp
      exact hK _ _ (.agg #[.int .i64 3, .int .i64 vw, .int .i64 0, .int .i64 lv, .int .i64 lx, .slice B lv0 d]) (by go_simp) (Below.refl _ _) ⟨B, d, rfl, ho⟩
    · refine ⟨fun h => absurd rfl h, fun _ => ?_⟩
      intro us wx hW hD Q K hK
      obtain ⟨B, d, e6, ho⟩ := hD 6 (by decide)
      have km := KM.out.below hW KM.out.lt
      have ro := km.rule
      have fo := fun i => km.frozen i
      go_simp
      have hb := on_ HB.out hW
      have hl : w.heap.size ≤ w.heap.size + 1 := by omega
      exact hK _ _ undef (by go_simp) ⟨B, d, (((((km.set_ 0 _).set_ 1 _).set_ 2 _).set_ 3 _).set_ 4 _).set_ 5 _, OV.set6 ho km (by decide), Below.setCell (Below.setCell (Below.setCell (Below.setCell (Below.setCell (Below.setCell hb hl _) hl _) hl _) hl _) hl _) hl _⟩
  intro us' w3 hR
  obtain ⟨B, d, km, ho, hb3⟩ := hR
  generalize us' 0 = z0; generalize us' 1 = z1; generalize us' 2 = z2; generalize us' 3 = z3; generalize us' 4 = z4; generalize us' 5 = z5; generalize us' 6 = z6
  clear us'
  have rm := km.rule
  go_wp2
  refine bodyPost_ret (v := .agg #[.int .i64 3, .int .i64 vw, .int .i64 0, .int .i64 lv, .int .i64 lx, .slice B lv0 d]) (by simp [results, Try.results50, go_sem, rm]) rfl ⟨B, d, by rw [ELV.out], ho, hb3⟩
theorem votes_below {vs : List (Int × Int)} {b : Int} (h : votesOkB vs b = true) : ∀ j, j < vs.length → (vs.getD j (0, 0)).1 < b := fun j hj => by
  unfold votesOkB at h
  rw [List.all_eq_true] at h
  have h2 := h j (List.mem_range.2 hj)
  unfold goodAt at h2
  simp only [Bool.and_eq_true, decide_eq_true_eq] at h2
  exact h2.1.2
def rofQ (d : Rd4) (vw : Int) : Bool := (repQ d && decide (d.view < vw)) && decide (vw ≤ 9)
def TRes (q : Bool) (vw lv lx : Int) (us : List (Int × Int)) (w : World) (e : Ending) (w' : World) : Prop := ∃ A d, e = .returned (.tuple #[.agg #[.int .i64 (if q then 3 else 0), .int .i64 (if q then vw else 0), .int .i64 0, .int .i64 (if q then lv else 0), .int .i64 (if q then lx else 0), .slice A (if q then us else []).length d], .bool q]) ∧ OV w' 34 w.heap.size A (if q then us else []) ∧ Below w.heap.size w w'
theorem rof_all {q : Rq} {vw : Int} (h : rofQ q.dat vw = true) : ∀ j, j < q.voted.length → (q.voted.getD j (0, 0)).1 < vw := fun j hj => by
  unfold rofQ at h
  simp only [Bool.and_eq_true, decide_eq_true_eq] at h
  have h1 := h.1.1
  have h2 : q.view < vw := h.1.2
  unfold repQ at h1
  simp only [Bool.and_eq_true] at h1
  have h3 : votesOkB q.voted (q.view + 1) = true := h1.2.1
  have := votes_below h3 j hj
  omega
set_option maxHeartbeats 1600000 in
theorem l1ownMsg_any (k v x a b : Int) (A : Option Addr) (c : Nat) (us : List (Int × Int)) (w : World) (hr : Rd w w.heap.size A us) (hn : us.length ≤ 1048576) :
    Calls Try.prog 48 #[.agg #[.int .i64 k, .int .i64 v, .int .i64 x, .int .i64 a, .int .i64 b, .slice A us.length c]] w (MR k v x a b us w) := by
  obtain ⟨i0, hi0, hz0, hz1, hz2⟩ := info_parts infoVt
  have H1 := Lib.hid (vcells_one us)
  obtain ⟨n, en⟩ : ∃ n, us.length = n := ⟨_, rfl⟩
  have hR := (((hr.up (.cells #[.int .i64 k, .int .i64 v, .int .i64 x, .int .i64 a, .int .i64 b, .slice A us.length c] 45)).up (.cells #[.int .i64 0, .int .i64 0, .int .i64 0, .int .i64 0, .int .i64 0, .slice none 0 0] 45)).up (.cells #[] 34)).reads
  rw [en] at hn hR ⊢
  have HR := Lib.hid hR
  have EN := Lib.hid en; clear en hr hR
  have ka := (Blk.new w 45 #[.int .i64 k, .int .i64 v, .int .i64 x, .int .i64 a, .int .i64 b, .slice A n c]).alloc (.cells #[.int .i64 0, .int .i64 0, .int .i64 0, .int .i64 0, .int .i64 0, .slice none 0 0] 45)
  have hO1 := World.ownsRow_lit (e := 34) (base := w.heap.size + 2) (size := 2) ((w.alloc (.cells #[.int .i64 k, .int .i64 v, .int .i64 x, .int .i64 a, .int .i64 b, .slice A n c] 45)).alloc (.cells #[.int .i64 0, .int .i64 0, .int .i64 0, .int .i64 0, .int .i64 0, .slice none 0 0] 45)) #[] 0 (by simp) (by simp [maxLen]) rfl
  have HO1 := Lib.hid hO1; clear hO1
  have hB0 := up_ (up_ (Below.refl w.heap.size w) (.cells #[.int .i64 k, .int .i64 v, .int .i64 x, .int .i64 a, .int .i64 b, .slice A n c] 45)) (.cells #[.int .i64 0, .int .i64 0, .int .i64 0, .int .i64 0, .int .i64 0, .slice none 0 0] 45)
  have ka1 := ka.alloc (.cells #[] 34)
  have km := Blk.new (w.alloc (.cells #[.int .i64 k, .int .i64 v, .int .i64 x, .int .i64 a, .int .i64 b, .slice A n c] 45)) 45 #[.int .i64 0, .int .i64 0, .int .i64 0, .int .i64 0, .int .i64 0, .slice none 0 0]
  simp only [World.size_alloc] at km
  have km1 := km.alloc (.cells #[] 34)
  have hB1 := up_ hB0 (.cells #[] 34)
  have HB1 := Lib.hid hB1; have HK1 := Lib.hid ka1; have HM1 := Lib.hid km1
  have HPOST := Lib.hid (fun (v1 : Value) (w1 : World) (hown1 : w1.ownsRow (w.heap.size + 2) 34 2 v1 (0 + n) ([] ++ vcells us)) (hgr1 : (((w.alloc (.cells #[.int .i64 k, .int .i64 v, .int .i64 x, .int .i64 a, .int .i64 b, .slice A n c] 45)).alloc (.cells #[.int .i64 0, .int .i64 0, .int .i64 0, .int .i64 0, .int .i64 0, .slice none 0 0] 45)).alloc (.cells #[] 34)).grownBy w1 (some (w.heap.size + 2))) =>
    (show ∃ B d, v1 = .slice B n d ∧ Hid (OV w1 34 (w.heap.size + 2) B us) ∧ Hid (Below w.heap.size w w1) ∧ Blk w1 w.heap.size 45 #[.int .i64 k, .int .i64 v, .int .i64 x, .int .i64 a, .int .i64 b, .slice A n c] ∧ Blk w1 (w.heap.size + 1) 45 #[.int .i64 0, .int .i64 0, .int .i64 0, .int .i64 0, .int .i64 0, .slice none 0 0] from by
      have hown2 : w1.ownsRow (w.heap.size + 2) 34 2 v1 us.length (vcells us) := by
        have h := hown1
        rw [List.nil_append, Nat.zero_add] at h
        rw [EN.out]
        exact h
      obtain ⟨B, d, rfl⟩ := form8 hown2
      exact ⟨B, d, by rw [EN.out], OV.of_own hown2, HB1.out.grown hgr1 (by simp; omega) (fun j hj => by injection hj with hj; omega), Blk.own9 HK1.out hgr1 (by intro e; injection e with e; omega), Blk.own9 HM1.out hgr1 (by intro e; injection e with e; omega)⟩))
  clear hB0 hB1 ka1 km1 km HB1 HK1 HM1
  have ra := ka.rule
  go_enter Try.func48, Try.ntmps48
  go_wp2_with (at_builtin; refine wpList_append_any _ rfl (.tmp 3) (.tmp 5) 33 rfl (w.heap.size + 2) 34 i0 _ 2 16 Try.underlying33 hi0 hz0 hz1 hz2 rfl (by omega) (.slice (some ⟨w.heap.size + 2, 0, none⟩) 0 0) 0 [] rfl (by simpa using HO1.out) _ A n c (vcells us) rfl HR.out H1.out (by simp only [maxLen]; omega) (by omega) (by simp) ?_; intro v1 w1 hown1 hgr1 hat1; obtain ⟨B, d, rfl, hov, HB2, ka2, km2⟩ := HPOST.out v1 w1 hown1 hgr1; have ra2 := ka2.rule; have fa2 := fun i => ka2.frozen i; have rm2 := km2.rule; have fm2 := fun i => km2.frozen i)
  go_wp2
  have km3 : Blk _ _ 45 #[.int .i64 k, .int .i64 v, .int .i64 x, .int .i64 a, .int .i64 b, .slice B n d] := (((((((km2.far (show w.heap.size + 1 ≠ w.heap.size by omega) _ : Blk (w1.setCell ⟨w.heap.size, 5, none⟩ (.slice B n d)) _ _ _)).set_ 0 (.int .i64 k)).set_ 1 (.int .i64 v)).set_ 2 (.int .i64 x)).set_ 3 (.int .i64 a)).set_ 4 (.int .i64 b)).set_ 5 (.slice B n d)
  have rm3 := km3.rule
  have hl : w.heap.size ≤ w.heap.size + 1 := by omega
  have hv3 := OV.more (OV.set_ (p := ⟨w.heap.size + 1, 5, none⟩) (OV.set_ (p := ⟨w.heap.size + 1, 4, none⟩) (OV.set_ (p := ⟨w.heap.size + 1, 3, none⟩) (OV.set_ (p := ⟨w.heap.size + 1, 2, none⟩) (OV.set_ (p := ⟨w.heap.size + 1, 1, none⟩) (OV.set_ (p := ⟨w.heap.size + 1, 0, none⟩) (OV.set_ (p := ⟨w.heap.size, 5, none⟩) hov.out (show w.heap.size < w.heap.size + 2 by omega) (.slice B n d)) (show w.heap.size + 1 < w.heap.size + 2 by omega) (.int .i64 k)) (show w.heap.size + 1 < w.heap.size + 2 by omega) (.int .i64 v)) (show w.heap.size + 1 < w.heap.size + 2 by omega) (.int .i64 x)) (show w.heap.size + 1 < w.heap.size + 2 by omega) (.int .i64 a)) (show w.heap.size + 1 < w.heap.size + 2 by omega) (.int .i64 b)) (show w.heap.size + 1 < w.heap.size + 2 by omega) (.slice B n d)) (show w.heap.size ≤ w.heap.size + 2 by omega)
  refine bodyPost_ret (v := .agg #[.int .i64 k, .int .i64 v, .int .i64 x, .int .i64 a, .int .i64 b, .slice B n d]) (by simp [results, Try.results48, go_sem, rm3]) rfl ⟨B, d, by rw [EN.out], hv3, Below.setCell (Below.setCell (Below.setCell (Below.setCell (Below.setCell (Below.setCell (Below.setCell HB2.out (Nat.le_refl _) _) hl _) hl _) hl _) hl _) hl _) hl _⟩
theorem reads2 (u : World) (xa xb : Int) : Reads (u.alloc (.cells #[.int .i64 xa, .int .i64 xb] 34)) (u.heap.size + 1) 2 (some ⟨u.heap.size, 0, none⟩) 1 [.int .i64 xa, .int .i64 xb] := ⟨rfl, fun _ => ⟨_, rfl, by simp, World.news_of_block (cs := #[.int .i64 xa, .int .i64 xb]) (heap_alloc_new u _)⟩⟩
theorem vtake (vs : List (Int × Int)) (k : Nat) (h : k < vs.length) : vcells (vs.take (k + 1)) = vcells (vs.take k) ++ [.int .i64 (vs.getD k (0, 0)).1, .int .i64 (vs.getD k (0, 0)).2] := by
  rw [take_getD vs (0, 0) k h, vcells_append]
  rfl
set_option maxHeartbeats 3200000 in
theorem l4report_any (q : Rq) (vw : Int) (hall : ∀ j, j < q.voted.length → (q.voted.getD j (0, 0)).1 < vw) (w : World) (hr : RdQ w w.heap.size q) (hf : FewQ q) :
    Calls Try.prog 49 #[q.agg, .int .i64 vw] w (MR 3 vw 0 q.lv q.lx q.voted w) := by
  obtain ⟨i0, hi0, hz0, hz1, hz2⟩ := info_parts infoVt
  obtain ⟨n, id, own, view, left, voted, lv, lx, dn, pr, vo, re, ds, hs, Av, Ap, Ao, Ar, Ad, Ah, cv, cp, co, cr, cd, ch⟩ := q
  obtain ⟨rv, rp, ro, rr, rd, rh⟩ := hr
  obtain ⟨fv, fp, fo, fr, fd, fh⟩ := hf
  simp only [Rq.agg, Rq.cells] at *
  obtain ⟨lv0, elv0⟩ : ∃ m, voted.length = m := ⟨_, rfl⟩
  obtain ⟨lp0, elp0⟩ : ∃ m, pr.length = m := ⟨_, rfl⟩
  obtain ⟨lo0, elo0⟩ : ∃ m, vo.length = m := ⟨_, rfl⟩
  obtain ⟨lr0, elr0⟩ : ∃ m, re.length = m := ⟨_, rfl⟩
  obtain ⟨ld0, eld0⟩ : ∃ m, ds.length = m := ⟨_, rfl⟩
  obtain ⟨lh0, elh0⟩ : ∃ m, hs.length = m := ⟨_, rfl⟩
  simp only [elv0, elp0, elo0, elr0, eld0, elh0] at hall ⊢
  have RV := Lib.hid rv; have ELV := Lib.hid elv0; have HALL := Lib.hid hall
  have blv : lv0 ≤ 1048576 := by rw [← elv0]; exact fv
  clear elv0 elp0 elo0 elr0 eld0 elh0 rv rp ro rr rd rh fv fp fo fr fd fh hall
  have ka := (Blk.new w 40 #[.int .i64 n, .int .i64 id, .int .i64 own, .int .i64 view, .int .i64 left, .slice Av lv0 cv, .int .i64 lv, .int .i64 lx, .int .i64 dn, .slice Ap lp0 cp, .slice Ao lo0 co, .slice Ar lr0 cr, .slice Ad ld0 cd, .slice Ah lh0 ch]).alloc (.cells #[.int .i64 0, .int .i64 0, .int .i64 0, .int .i64 0, .int .i64 0, .slice none 0 0] 45)
  have km := Blk.new (w.alloc (.cells #[.int .i64 n, .int .i64 id, .int .i64 own, .int .i64 view, .int .i64 left, .slice Av lv0 cv, .int .i64 lv, .int .i64 lx, .int .i64 dn, .slice Ap lp0 cp, .slice Ao lo0 co, .slice Ar lr0 cr, .slice Ad ld0 cd, .slice Ah lh0 ch] 40)) 45 #[.int .i64 0, .int .i64 0, .int .i64 0, .int .i64 0, .int .i64 0, .slice none 0 0]
  simp only [World.size_alloc] at km
  have HBX : Hid (∀ wr, Below (w.heap.size + 2) ((w.alloc (.cells #[.int .i64 n, .int .i64 id, .int .i64 own, .int .i64 view, .int .i64 left, .slice Av lv0 cv, .int .i64 lv, .int .i64 lx, .int .i64 dn, .slice Ap lp0 cp, .slice Ao lo0 co, .slice Ar lr0 cr, .slice Ad ld0 cd, .slice Ah lh0 ch] 40)).alloc (.cells #[.int .i64 0, .int .i64 0, .int .i64 0, .int .i64 0, .int .i64 0, .slice none 0 0] 45)) wr → Blk wr w.heap.size 40 #[.int .i64 n, .int .i64 id, .int .i64 own, .int .i64 view, .int .i64 left, .slice Av lv0 cv, .int .i64 lv, .int .i64 lx, .int .i64 dn, .slice Ap lp0 cp, .slice Ao lo0 co, .slice Ar lr0 cr, .slice Ad ld0 cd, .slice Ah lh0 ch] ∧ Blk wr (w.heap.size + 1) 45 #[.int .i64 0, .int .i64 0, .int .i64 0, .int .i64 0, .int .i64 0, .slice none 0 0] ∧ Below w.heap.size w wr ∧ w.heap.size + 2 ≤ wr.heap.size) := fun wr h => ⟨ka.below h (by omega), km.below h (by omega), Below.trans (up_ (up_ (Below.refl w.heap.size w) (.cells #[.int .i64 n, .int .i64 id, .int .i64 own, .int .i64 view, .int .i64 left, .slice Av lv0 cv, .int .i64 lv, .int .i64 lx, .int .i64 dn, .slice Ap lp0 cp, .slice Ao lo0 co, .slice Ar lr0 cr, .slice Ad ld0 cd, .slice Ah lh0 ch] 40)) (.cells #[.int .i64 0, .int .i64 0, .int .i64 0, .int .i64 0, .int .i64 0, .slice none 0 0] 45)) (h.mono (by omega)), by have := h.size; simpa using this⟩
  have HB0 : Hid (Below (w.heap.size + 2) ((w.alloc (.cells #[.int .i64 n, .int .i64 id, .int .i64 own, .int .i64 view, .int .i64 left, .slice Av lv0 cv, .int .i64 lv, .int .i64 lx, .int .i64 dn, .slice Ap lp0 cp, .slice Ao lo0 co, .slice Ar lr0 cr, .slice Ad ld0 cd, .slice Ah lh0 ch] 40)).alloc (.cells #[.int .i64 0, .int .i64 0, .int .i64 0, .int .i64 0, .int .i64 0, .slice none 0 0] 45)) ((w.alloc (.cells #[.int .i64 n, .int .i64 id, .int .i64 own, .int .i64 view, .int .i64 left, .slice Av lv0 cv, .int .i64 lv, .int .i64 lx, .int .i64 dn, .slice Ap lp0 cp, .slice Ao lo0 co, .slice Ar lr0 cr, .slice Ad ld0 cd, .slice Ah lh0 ch] 40)).alloc (.cells #[.int .i64 0, .int .i64 0, .int .i64 0, .int .i64 0, .int .i64 0, .slice none 0 0] 45))) := Below.refl _ _
  have ra := ka.rule
  clear km
  go_enter Try.func49, Try.ntmps49
  clear ka
  go_wp2
  go_loopw [5, 6] (fun out i wr => ∃ (k : Nat), k ≤ lv0 ∧ i = .int .i64 k ∧ wr.ownsRow (w.heap.size + 2) 34 2 out k (vcells (voted.take k)) ∧ Hid (Below (w.heap.size + 2) ((w.alloc (.cells #[.int .i64 n, .int .i64 id, .int .i64 own, .int .i64 view, .int .i64 left, .slice Av lv0 cv, .int .i64 lv, .int .i64 lx, .int .i64 dn, .slice Ap lp0 cp, .slice Ao lo0 co, .slice Ar lr0 cr, .slice Ad ld0 cd, .slice Ah lh0 ch] 40)).alloc (.cells #[.int .i64 0, .int .i64 0, .int .i64 0, .int .i64 0, .int .i64 0, .slice none 0 0] 45)) wr)) (fun _ i _ => lv0 - (intOf i).toNat)
  case atStart => exact ⟨0, Nat.zero_le _, rfl, World.ownsRow_nil _ _ _ _, HB0.out⟩
  case round =>
    clear ra HB0
    obtain ⟨k, hk, rfl, hown, hbel⟩ := hrel
    obtain ⟨ka, km, hB, hsz⟩ := HBX.out wr hbel.out
    have ra := ka.rule
    have HM := Lib.hid km; clear km
    by_cases hlt : k < lv0
    · obtain ⟨b_, off, rfl, hb, hc0, hc1⟩ := Rd.at_ (RV.out.below hB) (k := k) (by rw [ELV.out]; exact hlt)
      have hx := HALL.out k hlt
      have htk := Lib.hid (vtake voted k (by rw [ELV.out]; exact hlt))
      obtain ⟨⟨xa, xb⟩, hu⟩ : ∃ u, voted.getD k (0, 0) = u := ⟨_, rfl⟩
      rw [hu] at hc0 hc1 hx htk
      simp only at hc0 hc1 hx htk
      clear hu
      have hd : decide (xa < vw) = true := decide_eq_true hx
      go_wp2_with (at_builtin; refine wpList_append_any _ rfl (.tmp 22) (.tmp 28) 33 rfl (w.heap.size + 2) 34 i0 _ 2 16 Try.underlying33 hi0 hz0 hz1 hz2 rfl (by omega) u5 k (vcells (voted.take k)) rfl (hown.alloc _) _ _ 1 1 [.int .i64 xa, .int .i64 xb] rfl (reads2 _ _ _) (by simp [Value.oneCell']) (by simp only [maxLen]; omega) (by omega) (by simp; omega) ?_; intro v2 w2 hown2 hgr2 hat2; have hbel2 := Lib.hid ((hbel.out.alloc hsz _).grown hgr2 (by simp; omega) (fun j hj => (hown.lt j hj).1)))
      go_roundw
      case rel => exact ⟨k + 1, by omega, by go_num, by rw [htk.out]; exact hown2, hbel2⟩
      case measure => simp [intOf]; omega
    · obtain rfl : k = lv0 := by omega
      rw [List.take_of_length_le (by rw [ELV.out]; exact Nat.le_refl _)] at hown
      rw [← ELV.out] at hown
      obtain ⟨B, d, rfl⟩ := form8 hown
      have hov := OV.of_own hown
      rw [ELV.out]
      have km := HM.out
      have rm := km.rule
      have fm := fun i => km.frozen i
      go_wp2
      have km3 : Blk _ _ 45 #[.int .i64 3, .int .i64 vw, .int .i64 0, .int .i64 lv, .int .i64 lx, .slice B k d] := ((((((km.set_ 0 (.int .i64 3)).set_ 1 (.int .i64 vw)).set_ 2 (.int .i64 0)).set_ 3 (.int .i64 lv)).set_ 4 (.int .i64 lx)).set_ 5 (.slice B k d))
      have rm3 := km3.rule
      have hl : w.heap.size ≤ w.heap.size + 1 := by omega
      have hv3 := OV.more (OV.set6 (v0 := .int .i64 3) (v1 := .int .i64 vw) (v2 := .int .i64 0) (v3 := .int .i64 lv) (v4 := .int .i64 lx) (v5 := .slice B k d) hov km (by decide)) (show w.heap.size ≤ w.heap.size + 2 by omega)
      refine bodyPost_ret (v := .agg #[.int .i64 3, .int .i64 vw, .int .i64 0, .int .i64 lv, .int .i64 lx, .slice B k d]) (by simp [results, Try.results49, go_sem, rm3]) rfl ⟨B, d, by rw [ELV.out], hv3, (Below.setCell (Below.setCell (Below.setCell (Below.setCell (Below.setCell (Below.setCell hB hl _) hl _) hl _) hl _) hl _) hl _)⟩
set_option maxHeartbeats 3200000 in
theorem implReportOf_is (q : Rq) (vw : Int) (w : World) (hr : RdQ w w.heap.size q) (hf : FewQ q) :
    Calls Try.prog 14 #[q.agg, .int .i64 vw] w (TRes (rofQ q.dat vw) vw q.lv q.lx q.voted w) := by
  obtain ⟨g, hg⟩ : ∃ g, repQ q.dat = g := ⟨_, rfl⟩
  have hz : rofQ q.dat vw = ((g && decide (q.view < vw)) && decide (vw ≤ 9)) := by rw [← hg]; rfl
  have HC := Lib.hid (fun (W : World) (h : Below w.heap.size w W) => implRepOk_is g q hg W ((hr.below h).more h.size) hf)
  have HALL := Lib.hid (fun h : rofQ q.dat vw = true => rof_all h)
  have HS := Lib.hid (fun (h : rofQ q.dat vw = true) (W : World) (hw : Below w.heap.size w W) => reportOf_any q vw W ((hr.below hw).more hw.size) hf)
  rw [hz] at HALL HS ⊢
  clear hz hg
  obtain ⟨n, id, own, view, left, voted, lv, lx, dn, pr, vo, re, ds, hs, Av, Ap, Ao, Ar, Ad, Ah, cv, cp, co, cr, cd, ch⟩ := q
  obtain ⟨rv, rp, ro, rr, rd, rh⟩ := hr
  obtain ⟨fv, fp, fo, fr, fd, fh⟩ := hf
  simp only [Rq.agg, Rq.cells] at *
  obtain ⟨lv0, elv0⟩ : ∃ m, voted.length = m := ⟨_, rfl⟩
  obtain ⟨lp0, elp0⟩ : ∃ m, pr.length = m := ⟨_, rfl⟩
  obtain ⟨lo0, elo0⟩ : ∃ m, vo.length = m := ⟨_, rfl⟩
  obtain ⟨lr0, elr0⟩ : ∃ m, re.length = m := ⟨_, rfl⟩
  obtain ⟨ld0, eld0⟩ : ∃ m, ds.length = m := ⟨_, rfl⟩
  obtain ⟨lh0, elh0⟩ : ∃ m, hs.length = m := ⟨_, rfl⟩
  simp only [elv0, elp0, elo0, elr0, eld0, elh0] at HC HS ⊢
  have FV := Lib.hid (elv0 ▸ fv : lv0 ≤ 1048576)
  have ELV := Lib.hid elv0
  clear elv0 elp0 elo0 elr0 eld0 elh0 rv rp ro rr rd rh fv fp fo fr fd fh HALL
  have ka := (Blk.new w 40 #[.int .i64 n, .int .i64 id, .int .i64 own, .int .i64 view, .int .i64 left, .slice Av lv0 cv, .int .i64 lv, .int .i64 lx, .int .i64 dn, .slice Ap lp0 cp, .slice Ao lo0 co, .slice Ar lr0 cr, .slice Ad ld0 cd, .slice Ah lh0 ch]).alloc (.cells #[.int .i64 0, .int .i64 0, .int .i64 0, .int .i64 0, .int .i64 0, .slice none 0 0] 45)
  have km := Blk.new (w.alloc (.cells #[.int .i64 n, .int .i64 id, .int .i64 own, .int .i64 view, .int .i64 left, .slice Av lv0 cv, .int .i64 lv, .int .i64 lx, .int .i64 dn, .slice Ap lp0 cp, .slice Ao lo0 co, .slice Ar lr0 cr, .slice Ad ld0 cd, .slice Ah lh0 ch] 40)) 45 #[.int .i64 0, .int .i64 0, .int .i64 0, .int .i64 0, .int .i64 0, .slice none 0 0]
  simp only [World.size_alloc] at km
  have hB := up_ (up_ (Below.refl w.heap.size w) (.cells #[.int .i64 n, .int .i64 id, .int .i64 own, .int .i64 view, .int .i64 left, .slice Av lv0 cv, .int .i64 lv, .int .i64 lx, .int .i64 dn, .slice Ap lp0 cp, .slice Ao lo0 co, .slice Ar lr0 cr, .slice Ad ld0 cd, .slice Ah lh0 ch] 40)) (.cells #[.int .i64 0, .int .i64 0, .int .i64 0, .int .i64 0, .int .i64 0, .slice none 0 0] 45)
  have hl : w.heap.size ≤ w.heap.size + 1 := by omega
  have ra := ka.rule
  go_enter Try.func14, Try.ntmps14
  go_wp2_with fail
  refine (HC.out _ hB).mono ?_
  rintro e w1 ⟨rfl, hb⟩
  have ka1 := ka.on hb; have km1 := km.on hb; have hB1 := on_ hB hb; clear ra ka km hB hb; have ra := ka1.rule; have rm := km1.rule; have fm := fun i => km1.frozen i
  rcases g with _ | _
  · go_wp2
    have km3 : Blk _ _ 45 #[.int .i64 0, .int .i64 0, .int .i64 0, .int .i64 0, .int .i64 0, .slice none 0 0] := ((((((km1.set_ 0 (.int .i64 0)).set_ 1 (.int .i64 0)).set_ 2 (.int .i64 0)).set_ 3 (.int .i64 0)).set_ 4 (.int .i64 0)).set_ 5 (.slice none 0 0))
    have rm3 := km3.rule
    refine bodyPost_ret (v := .tuple #[.agg #[.int .i64 0, .int .i64 0, .int .i64 0, .int .i64 0, .int .i64 0, .slice none 0 0], .bool false]) (by simp [results, Try.results14, go_sem, rm3]) rfl (by exact ⟨none, 0, rfl, OV.nil_, (Below.setCell (Below.setCell (Below.setCell (Below.setCell (Below.setCell (Below.setCell hB1 hl _) hl _) hl _) hl _) hl _) hl _)⟩)
  · by_cases h1 : view < vw
    · by_cases h2 : vw ≤ 9
      · have e1 : decide (vw ≤ view) = false := decide_eq_false (by omega)
        have e2 : decide (9 < vw) = false := decide_eq_false (by omega)
        have hq : ((true && decide (view < vw)) && decide (vw ≤ 9)) = true := by rw [decide_eq_true h1, decide_eq_true h2]; rfl
        rw [hq]
        have H9 := Lib.hid (HS.out hq)
        clear HS HC
        clear rm fm
        go_wp2_with fail
        refine (H9.out _ hB1).mono ?_
        rintro e w2 ⟨B, d, rfl, ho, hb⟩
        have hBB := on_ hB1 hb
        have hoB := ho.more hB1.size
        have km9 := km1.on hb
        rw [ELV.out]
        clear ra ka1 km1 hb ho H9
        have km2 : Blk _ (w.heap.size + 1) 45 #[.int .i64 0, .int .i64 0, .int .i64 0, .int .i64 0, .int .i64 0, .slice none 0 0] := km9
        have rm := km2.rule; have fm := fun i => km2.frozen i
        go_wp2
        have km3 : Blk _ _ 45 #[.int .i64 3, .int .i64 vw, .int .i64 0, .int .i64 lv, .int .i64 lx, .slice B lv0 d] := ((((((km2.set_ 0 (.int .i64 3)).set_ 1 (.int .i64 vw)).set_ 2 (.int .i64 0)).set_ 3 (.int .i64 lv)).set_ 4 (.int .i64 lx)).set_ 5 (.slice B lv0 d))
        have rm3 := km3.rule
        refine bodyPost_ret (v := .tuple #[.agg #[.int .i64 3, .int .i64 vw, .int .i64 0, .int .i64 lv, .int .i64 lx, .slice B lv0 d], .bool true]) (by simp [results, Try.results14, go_sem, rm3]) rfl (by rw [hq]; exact ⟨B, d, by rw [if_pos rfl, if_pos rfl, if_pos rfl, if_pos rfl, if_pos rfl, ELV.out], OV.set6 hoB km2 (by decide), (Below.setCell (Below.setCell (Below.setCell (Below.setCell (Below.setCell (Below.setCell hBB hl _) hl _) hl _) hl _) hl _) hl _)⟩)
      · have hq : ((true && decide (view < vw)) && decide (vw ≤ 9)) = false := by rw [decide_eq_false h2, Bool.and_false]
        rw [hq]
        have e1 : decide (vw ≤ view) = false := decide_eq_false (by omega)
        have e2 : decide (9 < vw) = true := decide_eq_true (by omega)
        go_wp2
        have km3 : Blk _ _ 45 #[.int .i64 0, .int .i64 0, .int .i64 0, .int .i64 0, .int .i64 0, .slice none 0 0] := ((((((km1.set_ 0 (.int .i64 0)).set_ 1 (.int .i64 0)).set_ 2 (.int .i64 0)).set_ 3 (.int .i64 0)).set_ 4 (.int .i64 0)).set_ 5 (.slice none 0 0))
        have rm3 := km3.rule
        refine bodyPost_ret (v := .tuple #[.agg #[.int .i64 0, .int .i64 0, .int .i64 0, .int .i64 0, .int .i64 0, .slice none 0 0], .bool false]) (by simp [results, Try.results14, go_sem, rm3]) rfl (by rw [hq]; exact ⟨none, 0, rfl, OV.nil_, (Below.setCell (Below.setCell (Below.setCell (Below.setCell (Below.setCell (Below.setCell hB1 hl _) hl _) hl _) hl _) hl _) hl _)⟩)
    · have hq : ((true && decide (view < vw)) && decide (vw ≤ 9)) = false := by rw [decide_eq_false h1, Bool.and_false, Bool.false_and]
      rw [hq]
      have e1 : decide (vw ≤ view) = true := decide_eq_true (by omega)
      go_wp2
      have km3 : Blk _ _ 45 #[.int .i64 0, .int .i64 0, .int .i64 0, .int .i64 0, .int .i64 0, .slice none 0 0] := ((((((km1.set_ 0 (.int .i64 0)).set_ 1 (.int .i64 0)).set_ 2 (.int .i64 0)).set_ 3 (.int .i64 0)).set_ 4 (.int .i64 0)).set_ 5 (.slice none 0 0))
      have rm3 := km3.rule
      refine bodyPost_ret (v := .tuple #[.agg #[.int .i64 0, .int .i64 0, .int .i64 0, .int .i64 0, .int .i64 0, .slice none 0 0], .bool false]) (by simp [results, Try.results14, go_sem, rm3]) rfl (by rw [hq]; exact ⟨none, 0, rfl, OV.nil_, (Below.setCell (Below.setCell (Below.setCell (Below.setCell (Below.setCell (Below.setCell hB1 hl _) hl _) hl _) hl _) hl _) hl _)⟩)
set_option maxHeartbeats 3200000 in
theorem specReportOf_is (q : Rq) (vw : Int) (w : World) (hr : RdQ w w.heap.size q) (hf : FewQ q) :
    Calls Try.prog 13 #[q.agg, .int .i64 vw] w (TRes (rofQ q.dat vw) vw q.lv q.lx q.voted w) := by
  obtain ⟨g, hg⟩ : ∃ g, repQ q.dat = g := ⟨_, rfl⟩
  have hz : rofQ q.dat vw = ((g && decide (q.view < vw)) && decide (vw ≤ 9)) := by rw [← hg]; rfl
  have HC := Lib.hid (fun (W : World) (h : Below w.heap.size w W) => specRepOk_is g q hg W ((hr.below h).more h.size) hf)
  have HALL := Lib.hid (fun h : rofQ q.dat vw = true => rof_all h)
  have HS := Lib.hid (fun (h : rofQ q.dat vw = true) (W : World) (hw : Below w.heap.size w W) => l4report_any q vw (rof_all h) W ((hr.below hw).more hw.size) hf)
  rw [hz] at HALL HS ⊢
  clear hz hg
  obtain ⟨n, id, own, view, left, voted, lv, lx, dn, pr, vo, re, ds, hs, Av, Ap, Ao, Ar, Ad, Ah, cv, cp, co, cr, cd, ch⟩ := q
  obtain ⟨rv, rp, ro, rr, rd, rh⟩ := hr
  obtain ⟨fv, fp, fo, fr, fd, fh⟩ := hf
  simp only [Rq.agg, Rq.cells] at *
  obtain ⟨lv0, elv0⟩ : ∃ m, voted.length = m := ⟨_, rfl⟩
  obtain ⟨lp0, elp0⟩ : ∃ m, pr.length = m := ⟨_, rfl⟩
  obtain ⟨lo0, elo0⟩ : ∃ m, vo.length = m := ⟨_, rfl⟩
  obtain ⟨lr0, elr0⟩ : ∃ m, re.length = m := ⟨_, rfl⟩
  obtain ⟨ld0, eld0⟩ : ∃ m, ds.length = m := ⟨_, rfl⟩
  obtain ⟨lh0, elh0⟩ : ∃ m, hs.length = m := ⟨_, rfl⟩
  simp only [elv0, elp0, elo0, elr0, eld0, elh0] at HC HS ⊢
  have FV := Lib.hid (elv0 ▸ fv : lv0 ≤ 1048576)
  have ELV := Lib.hid elv0
  clear elv0 elp0 elo0 elr0 eld0 elh0 rv rp ro rr rd rh fv fp fo fr fd fh HALL
  have ka := (Blk.new w 40 #[.int .i64 n, .int .i64 id, .int .i64 own, .int .i64 view, .int .i64 left, .slice Av lv0 cv, .int .i64 lv, .int .i64 lx, .int .i64 dn, .slice Ap lp0 cp, .slice Ao lo0 co, .slice Ar lr0 cr, .slice Ad ld0 cd, .slice Ah lh0 ch]).alloc (.cells #[.int .i64 0, .int .i64 0, .int .i64 0, .int .i64 0, .int .i64 0, .slice none 0 0] 45)
  have km := Blk.new (w.alloc (.cells #[.int .i64 n, .int .i64 id, .int .i64 own, .int .i64 view, .int .i64 left, .slice Av lv0 cv, .int .i64 lv, .int .i64 lx, .int .i64 dn, .slice Ap lp0 cp, .slice Ao lo0 co, .slice Ar lr0 cr, .slice Ad ld0 cd, .slice Ah lh0 ch] 40)) 45 #[.int .i64 0, .int .i64 0, .int .i64 0, .int .i64 0, .int .i64 0, .slice none 0 0]
  simp only [World.size_alloc] at km
  have hB := up_ (up_ (Below.refl w.heap.size w) (.cells #[.int .i64 n, .int .i64 id, .int .i64 own, .int .i64 view, .int .i64 left, .slice Av lv0 cv, .int .i64 lv, .int .i64 lx, .int .i64 dn, .slice Ap lp0 cp, .slice Ao lo0 co, .slice Ar lr0 cr, .slice Ad ld0 cd, .slice Ah lh0 ch] 40)) (.cells #[.int .i64 0, .int .i64 0, .int .i64 0, .int .i64 0, .int .i64 0, .slice none 0 0] 45)
  have hl : w.heap.size ≤ w.heap.size + 1 := by omega
  have ra := ka.rule
  go_enter Try.func13, Try.ntmps13
  go_wp2_with fail
  refine (HC.out _ hB).mono ?_
  rintro e w1 ⟨rfl, hb⟩
  have ka1 := ka.on hb; have km1 := km.on hb; have hB1 := on_ hB hb; clear ra ka km hB hb; have ra := ka1.rule; have rm := km1.rule; have fm := fun i => km1.frozen i
  rcases g with _ | _
  · go_wp2
    have km3 : Blk _ _ 45 #[.int .i64 0, .int .i64 0, .int .i64 0, .int .i64 0, .int .i64 0, .slice none 0 0] := ((((((km1.set_ 0 (.int .i64 0)).set_ 1 (.int .i64 0)).set_ 2 (.int .i64 0)).set_ 3 (.int .i64 0)).set_ 4 (.int .i64 0)).set_ 5 (.slice none 0 0))
    have rm3 := km3.rule
    refine bodyPost_ret (v := .tuple #[.agg #[.int .i64 0, .int .i64 0, .int .i64 0, .int .i64 0, .int .i64 0, .slice none 0 0], .bool false]) (by simp [results, Try.results13, go_sem, rm3]) rfl (by exact ⟨none, 0, rfl, OV.nil_, (Below.setCell (Below.setCell (Below.setCell (Below.setCell (Below.setCell (Below.setCell hB1 hl _) hl _) hl _) hl _) hl _) hl _)⟩)
  · by_cases h1 : view < vw
    · by_cases h2 : vw ≤ 9
      · have e1 : decide (vw ≤ view) = false := decide_eq_false (by omega)
        have e2 : decide (9 < vw) = false := decide_eq_false (by omega)
        have hq : ((true && decide (view < vw)) && decide (vw ≤ 9)) = true := by rw [decide_eq_true h1, decide_eq_true h2]; rfl
        rw [hq]
        have H9 := Lib.hid (HS.out hq)
        clear HS HC
        clear rm fm
        go_wp2_with fail
        refine (H9.out _ hB1).mono ?_
        rintro e w2 ⟨B2, d2, rfl, ho2, hb2⟩
        have hB2 := on_ hB1 hb2
        have km2 := km1.on hb2
        go_wp2_with fail
        refine (l1ownMsg_any 3 vw 0 lv lx B2 d2 voted w2 ho2.rd (by rw [ELV.out]; exact FV.out)).mono ?_
        rintro e w3 ⟨B, d, rfl, ho, hb⟩
        have hBB := on_ hB2 hb
        have hoB := ho.more hB2.size
        have km9 := km2.on hb
        rw [ELV.out]
        clear ra ka1 km1 km2 hb ho H9 hb2 ho2
        have km2 : Blk _ (w.heap.size + 1) 45 #[.int .i64 0, .int .i64 0, .int .i64 0, .int .i64 0, .int .i64 0, .slice none 0 0] := km9
        have rm := km2.rule; have fm := fun i => km2.frozen i
        go_wp2
        have km3 : Blk _ _ 45 #[.int .i64 3, .int .i64 vw, .int .i64 0, .int .i64 lv, .int .i64 lx, .slice B lv0 d] := ((((((km2.set_ 0 (.int .i64 3)).set_ 1 (.int .i64 vw)).set_ 2 (.int .i64 0)).set_ 3 (.int .i64 lv)).set_ 4 (.int .i64 lx)).set_ 5 (.slice B lv0 d))
        have rm3 := km3.rule
        refine bodyPost_ret (v := .tuple #[.agg #[.int .i64 3, .int .i64 vw, .int .i64 0, .int .i64 lv, .int .i64 lx, .slice B lv0 d], .bool true]) (by simp [results, Try.results13, go_sem, rm3]) rfl (by rw [hq]; exact ⟨B, d, by rw [if_pos rfl, if_pos rfl, if_pos rfl, if_pos rfl, if_pos rfl, ELV.out], OV.set6 hoB km2 (by decide), (Below.setCell (Below.setCell (Below.setCell (Below.setCell (Below.setCell (Below.setCell hBB hl _) hl _) hl _) hl _) hl _) hl _)⟩)
      · have hq : ((true && decide (view < vw)) && decide (vw ≤ 9)) = false := by rw [decide_eq_false h2, Bool.and_false]
        rw [hq]
        have e1 : decide (vw ≤ view) = false := decide_eq_false (by omega)
        have e2 : decide (9 < vw) = true := decide_eq_true (by omega)
        go_wp2
        have km3 : Blk _ _ 45 #[.int .i64 0, .int .i64 0, .int .i64 0, .int .i64 0, .int .i64 0, .slice none 0 0] := ((((((km1.set_ 0 (.int .i64 0)).set_ 1 (.int .i64 0)).set_ 2 (.int .i64 0)).set_ 3 (.int .i64 0)).set_ 4 (.int .i64 0)).set_ 5 (.slice none 0 0))
        have rm3 := km3.rule
        refine bodyPost_ret (v := .tuple #[.agg #[.int .i64 0, .int .i64 0, .int .i64 0, .int .i64 0, .int .i64 0, .slice none 0 0], .bool false]) (by simp [results, Try.results13, go_sem, rm3]) rfl (by rw [hq]; exact ⟨none, 0, rfl, OV.nil_, (Below.setCell (Below.setCell (Below.setCell (Below.setCell (Below.setCell (Below.setCell hB1 hl _) hl _) hl _) hl _) hl _) hl _)⟩)
    · have hq : ((true && decide (view < vw)) && decide (vw ≤ 9)) = false := by rw [decide_eq_false h1, Bool.and_false, Bool.false_and]
      rw [hq]
      have e1 : decide (vw ≤ view) = true := decide_eq_true (by omega)
      go_wp2
      have km3 : Blk _ _ 45 #[.int .i64 0, .int .i64 0, .int .i64 0, .int .i64 0, .int .i64 0, .slice none 0 0] := ((((((km1.set_ 0 (.int .i64 0)).set_ 1 (.int .i64 0)).set_ 2 (.int .i64 0)).set_ 3 (.int .i64 0)).set_ 4 (.int .i64 0)).set_ 5 (.slice none 0 0))
      have rm3 := km3.rule
      refine bodyPost_ret (v := .tuple #[.agg #[.int .i64 0, .int .i64 0, .int .i64 0, .int .i64 0, .int .i64 0, .slice none 0 0], .bool false]) (by simp [results, Try.results13, go_sem, rm3]) rfl (by rw [hq]; exact ⟨none, 0, rfl, OV.nil_, (Below.setCell (Below.setCell (Below.setCell (Below.setCell (Below.setCell (Below.setCell hB1 hl _) hl _) hl _) hl _) hl _) hl _)⟩)
end Go.Proofs.Ytfdfjmibjnmhpaa.V

namespace Go.Proofs.Ytfdfjmibjnmhpaa.B
open Go.RowKit

/-- A message, and where its votes lie. -/
structure Mp where
  k : Int
  v : Int
  x : Int
  a : Int
  b : Int
  vs : List (Int × Int)
  A : Option Addr
  c : Nat
/-- The data alone. -/
structure Md where
  k : Int
  v : Int
  x : Int
  a : Int
  b : Int
  vs : List (Int × Int)
def Mp.dat (m : Mp) : Md := ⟨m.k, m.v, m.x, m.a, m.b, m.vs⟩
def Mp.cells (m : Mp) : Array Value := #[.int .i64 m.k, .int .i64 m.v, .int .i64 m.x, .int .i64 m.a, .int .i64 m.b, .slice m.A m.vs.length m.c]
def zM : Mp := ⟨0, 0, 0, 0, 0, [], none, 0⟩
def KM : Knd Mp := ⟨6, Mp.cells, fun w Bd m => Rd w Bd m.A m.vs, zM, by decide, fun _ => rfl, fun h hk => Rd.keep h hk, fun h hB => Rd.more h hB, fun w lo m => OwnL 2 w lo m.A m.vs.length, fun h hk => OwnL.keep h hk, fun h hl => OwnL.low h hl⟩
/-- A link, and where its messages lie. -/
structure Lp where
  ms : List Mp
  A : Option Addr
  c : Nat
def Lp.dat (l : Lp) : List Md := l.ms.map Mp.dat
def zL : Lp := ⟨[], none, 0⟩
def KL : Knd Lp := ⟨1, fun l => #[.slice l.A l.ms.length l.c], fun w Bd l => RdK KM w Bd l.A l.ms, zL, by decide, fun _ => rfl, fun h hk => RdK.keep h hk, fun h hB => RdK.more h hB, fun w lo l => OwnX KM w lo l.A l.ms, fun h hk => OwnX.keep h hk, fun h hl => OwnX.low h hl⟩
def KB : Knd Bool := ⟨1, fun b => #[.bool b], fun _ _ _ => True, false, by decide, fun _ => rfl, fun h _ => h, fun h _ => h, fun _ _ _ => True, fun h _ => h, fun h _ => h⟩
def zQ : Rq := ⟨0, 0, 0, 0, 0, [], 0, 0, 0, [], [], [], [], [], none, none, none, none, none, none, 0, 0, 0, 0, 0, 0⟩
def KQ : Knd Rq := ⟨14, Rq.cells, fun w Bd q => RdQ w Bd q, zQ, by decide, fun _ => rfl, fun h hk => RdQ.keep h hk, fun h hB => RdQ.more h hB, fun w lo q => OwnQ w lo q, fun h hk => OwnQ.keep h hk, fun h hl => OwnQ.low h hl⟩
/-- A cluster, and where its parts lie. -/
structure Cq where
  n : Int
  bad : List Bool
  rs : List Rq
  nt : List Lp
  Ab : Option Addr
  Ar : Option Addr
  An : Option Addr
  cb : Nat
  cr : Nat
  cn : Nat
structure Cd where
  n : Int
  bad : List Bool
  rs : List Rd4
  nt : List (List Md)
def Cq.dat (q : Cq) : Cd := ⟨q.n, q.bad, q.rs.map Rq.dat, q.nt.map Lp.dat⟩
def Cq.cells (q : Cq) : Array Value := #[.int .i64 q.n, .slice q.Ab q.bad.length q.cb, .slice q.Ar q.rs.length q.cr, .slice q.An q.nt.length q.cn]
def Cq.agg (q : Cq) : Value := .agg q.cells
structure RdC4 (w : World) (Bd : Nat) (q : Cq) : Prop where
  b : RdK KB w Bd q.Ab q.bad
  r : RdK KQ w Bd q.Ar q.rs
  n : RdK KL w Bd q.An q.nt
section
variable {w w' : World} {Bd Bd' : Nat} {q : Cq}
theorem RdC4.keep (h : RdC4 w Bd q) (hk : ∀ b o, b < Bd → w'.cell? ⟨b, o, none⟩ = w.cell? ⟨b, o, none⟩) : RdC4 w' Bd q := ⟨h.b.keep hk, h.r.keep hk, h.n.keep hk⟩
theorem RdC4.more (h : RdC4 w Bd q) (hB : Bd ≤ Bd') : RdC4 w Bd' q := ⟨h.b.more hB, h.r.more hB, h.n.more hB⟩
theorem RdC4.below (h : RdC4 w Bd q) (hb : Below Bd w w') : RdC4 w' Bd q := h.keep fun _ _ hp => hb.cell hp
theorem RdC4.alloc (h : RdC4 w Bd q) (hB : Bd ≤ w.heap.size) (o : Obj) : RdC4 (w.alloc o) Bd q := h.keep fun b o' hp => World.cell?_alloc_lt w o ⟨b, o', none⟩ (by simpa using (show b < w.heap.size by omega))
theorem RdC4.on (h : RdC4 w w.heap.size q) (hb : Below w.heap.size w w') : RdC4 w' w'.heap.size q := (h.below hb).more hb.size
theorem RdC4.up (h : RdC4 w w.heap.size q) (O : Obj) : RdC4 (w.alloc O) (w.alloc O).heap.size q := (h.alloc (Nat.le_refl _) O).more (by simp)
theorem RdC4.dr (h : RdC4 w w.heap.size q) : RdC4 w.drew w.drew.heap.size q := h.keep fun _ _ _ => rfl
end
end Go.Proofs.Ytfdfjmibjnmhpaa.B
namespace Go.Proofs.Ytfdfjmibjnmhpaa.V
open Go.RowKit Go.Proofs.Ytfdfjmibjnmhpaa.B
def fM (m : Mp) : Nat := m.vs.length
def fL (l : Lp) : Nat := l.ms.length + tkS fM zM l.ms l.ms.length
def totC (q : Cq) : Nat := q.bad.length + (q.rs.length + tkS tot zQ q.rs q.rs.length) + (q.nt.length + tkS fL zL q.nt q.nt.length)
def LensM (m : Mp) : Prop := m.vs.length ≤ maxLen
def LensL (l : Lp) : Prop := l.ms.length ≤ maxLen ∧ ∀ i, i < l.ms.length → LensM (l.ms.getD i zM)
structure LensC (q : Cq) : Prop where
  b : q.bad.length ≤ maxLen
  r : q.rs.length ≤ maxLen ∧ ∀ i, i < q.rs.length → LensQ (q.rs.getD i zQ)
  n : q.nt.length ≤ maxLen ∧ ∀ i, i < q.nt.length → LensL (q.nt.getD i zL)
def FewM (m : Mp) : Prop := m.vs.length ≤ 1048576
def FewL (l : Lp) : Prop := l.ms.length ≤ 1048576 ∧ ∀ i, i < l.ms.length → FewM (l.ms.getD i zM)
structure FewC (q : Cq) : Prop where
  b : q.bad.length ≤ 1048576
  r : q.rs.length ≤ 1048576 ∧ ∀ i, i < q.rs.length → FewQ (q.rs.getD i zQ)
  n : q.nt.length ≤ 1048576 ∧ ∀ i, i < q.nt.length → FewL (q.nt.getD i zL)
theorem fewL_of {l : Lp} (h : fL l ≤ 1048576) : FewL l := by
  unfold fL at h
  exact ⟨by omega, fun i hi => by have h1 : fM (l.ms.getD i zM) ≤ _ := tkS_one fM zM l.ms hi; unfold FewM; unfold fM at *; omega⟩
theorem fewC_of {q : Cq} (h : totC q ≤ 1048576) : FewC q := by
  unfold totC at h
  exact ⟨by omega, ⟨by omega, fun i hi => fewQ_of (by have := tkS_one tot zQ q.rs hi; omega)⟩, ⟨by omega, fun i hi => fewL_of (by have := tkS_one fL zL q.nt hi; omega)⟩⟩
theorem FewM.same {m m' : Mp} (h : FewM m) (e : m'.dat = m.dat) : FewM m' := by
  have : m'.vs = m.vs := congrArg Md.vs e
  unfold FewM at *; rw [this]; exact h
theorem FewL.same {l l' : Lp} (h : FewL l) (e : l'.dat = l.dat) : FewL l' := by
  have hl : l'.ms.length = l.ms.length := same_len (dat := Mp.dat) e
  exact ⟨by rw [hl]; exact h.1, fun i hi => (h.2 i (by omega)).same (same_at (dat := Mp.dat) (z := zM) e i)⟩
theorem FewC.same {q p : Cq} (h : FewC q) (e : p.dat = q.dat) : FewC p := by
  have e1 : p.bad = q.bad := congrArg Cd.bad e
  have e2 : p.rs.map Rq.dat = q.rs.map Rq.dat := congrArg Cd.rs e
  have e3 : p.nt.map Lp.dat = q.nt.map Lp.dat := congrArg Cd.nt e
  have l2 := same_len e2
  have l3 := same_len e3
  exact ⟨by rw [e1]; exact h.b, ⟨by rw [l2]; exact h.r.1, fun i hi => (h.r.2 i (by omega)).same (same_at e2 i)⟩, ⟨by rw [l3]; exact h.n.1, fun i hi => (h.n.2 i (by omega)).same (same_at e3 i)⟩⟩
end Go.Proofs.Ytfdfjmibjnmhpaa.V
