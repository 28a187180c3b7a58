/-
  What WithVote of the program answers: its contract. No statement is proved here.
-/
import Derived.Test.YtaegcdbgnjlbdaaOwnV
import Derived.Test.YtaegcdbgnjlbdaaImplMsgOk
set_option linter.unusedVariables false
set_option maxRecDepth 100000
namespace Go.Proofs.Ytaegcdbgnjlbdaa.V
open Go.RowKit Go.Proofs.Ytaegcdbgnjlbdaa.B

def atN (vs : List (Int × Int)) (a : Int) : Nat := (vs.takeWhile fun p => decide (p.1 < a)).length
def insR (vs : List (Int × Int)) (a b : Int) : List (Int × Int) := vs.take (atN vs a) ++ (a, b) :: vs.drop (atN vs a)
theorem at_atN (vs : List (Int × Int)) (a : Int) : At vs a (atN vs a) := by
  induction vs with
  | nil => exact ⟨by simp [atN], fun j hj => by simp [atN] at hj, fun h => by simp at h⟩
  | cons p vs ih =>
    obtain ⟨i1, i2, i3⟩ := ih
    by_cases hp : p.1 < a
    · have e : atN (p :: vs) a = atN vs a + 1 := by simp [atN, hp]
      rw [e]
      refine ⟨by simpa using i1, fun j hj => ?_, fun h => ?_⟩
      · cases j with
        | zero => simpa using hp
        | succ j => simpa using i2 j (by omega)
      · simpa using i3 (by simpa using h)
    · have e : atN (p :: vs) a = 0 := by simp [atN, hp]
      rw [e]
      exact ⟨Nat.zero_le _, fun j hj => absurd hj (by omega), fun _ => by simpa using hp⟩
theorem insR_len (vs : List (Int × Int)) (a b : Int) : (insR vs a b).length = vs.length + 1 := by
  have := (at_atN vs a).1
  simp [insR]; omega

/-- A message of the call's own, and whether there is one: what WithVote hands back. -/
def WRes (q : Bool) (v x a b : Int) (us : List (Int × Int)) (w : World) (e : Ending) (w' : World) : Prop :=
  ∃ B d, e = .returned (.tuple #[.agg #[.int .i64 (if q then 3 else 0), .int .i64 (if q then v else 0), .int .i64 (if q then x else 0), .int .i64 (if q then a else 0), .int .i64 (if q then b else 0), .slice B (if q then us else []).length d], .bool q]) ∧
    OV w' 24 w.heap.size B (if q then us else []) ∧ Below w.heap.size w w'

theorem OV.set_ {w : World} {t base : Nat} {A : Option Addr} {us : List (Int × Int)} (h : OV w t base A us) {p : Addr} (hp : p.block < base) (u : Value) : OV (w.setCell p u) t base A us := by
  rcases h with ⟨rfl, rfl⟩ | ⟨g', cur, rfl, hb', hk, hh⟩
  · exact OV.nil_
  · exact .inr ⟨g', cur, rfl, hb', hk.far (by omega) u, hh⟩

set_option maxHeartbeats 1600000 in
theorem implWith_no (k v x a b va vb : Int) (g n : Nat) (us : List (Int × Int)) (hk : k ≠ 3) (w : World) :
    Calls Try.prog 10 #[.agg #[.int .i64 k, .int .i64 v, .int .i64 x, .int .i64 a, .int .i64 b, .slice (some ⟨g, 0, none⟩) n n], .agg #[.int .i64 va, .int .i64 vb]] w (WRes false v x a b us w) := by
  have hk0 : (k != 3) = true := by rw [bne_iff_ne]; exact hk
  clear hk
  go_enter Try.func10, Try.ntmps10
  go_wp2
  refine bodyPost_ret (v := .tuple #[.agg #[.int .i64 0, .int .i64 0, .int .i64 0, .int .i64 0, .int .i64 0, .slice none 0 0], .bool false]) (by simp [results, Try.results10, go_sem]) rfl ?_
  exact ⟨none, 0, rfl, OV.nil_, by repeat (first | exact Below.refl _ _ | refine Below.setCell ?_ (by simp <;> omega) _ | refine Below.alloc ?_ (by simp <;> omega) _)⟩

set_option maxHeartbeats 1600000 in
theorem implWith_is (q q2 : Bool) (v x a b va vb : Int) (g n : Nat) (vs : List (Int × Int)) (hvn : vs.length = n) (hq : msgOkB 3 v x a b vs = q) (hq2 : msgOkB 3 v x a b (insR vs va vb) = q2) (w : World) (hr : Rd w w.heap.size (some ⟨g, 0, none⟩) vs) (hn : n < 1048576) :
    Calls Try.prog 10 #[.agg #[.int .i64 3, .int .i64 v, .int .i64 x, .int .i64 a, .int .i64 b, .slice (some ⟨g, 0, none⟩) n n], .agg #[.int .i64 va, .int .i64 vb]] w (WRes (q && q2) v x a b (insR vs va vb) w) := by
  have hk0 := ((Blk.new w 27 #[.int .i64 3, .int .i64 v, .int .i64 x, .int .i64 a, .int .i64 b, .slice (some ⟨g, 0, none⟩) n n]).alloc (.cells #[.int .i64 va, .int .i64 vb] 24)).alloc (.cells #[.int .i64 0, .int .i64 0, .int .i64 0, .int .i64 0, .int .i64 0, .slice none 0 0] 27)
  have hv0 := (Blk.new (w.alloc (.cells #[.int .i64 3, .int .i64 v, .int .i64 x, .int .i64 a, .int .i64 b, .slice (some ⟨g, 0, none⟩) n n] 27)) 24 #[.int .i64 va, .int .i64 vb]).alloc (.cells #[.int .i64 0, .int .i64 0, .int .i64 0, .int .i64 0, .int .i64 0, .slice none 0 0] 27)
  have hz0 := Blk.new ((w.alloc (.cells #[.int .i64 3, .int .i64 v, .int .i64 x, .int .i64 a, .int .i64 b, .slice (some ⟨g, 0, none⟩) n n] 27)).alloc (.cells #[.int .i64 va, .int .i64 vb] 24)) 27 #[.int .i64 0, .int .i64 0, .int .i64 0, .int .i64 0, .int .i64 0, .slice none 0 0]
  simp only [World.size_alloc] at hv0 hz0
  have hr0 := fun O O' O'' => ((hr.up O).up O').up O''
  have HR := Lib.hid hr0; clear hr0 hr
  have hcon := fun W h => implMsgOk_is q 3 v x a b (some ⟨g, 0, none⟩) n vs hq W h (by omega)
  have hins := fun W h => insert_any g n vs va vb _ hvn (at_atN vs va) W h (by omega)
  have hlen : (insR vs va vb).length ≤ 1048576 := by rw [insR_len]; omega
  have hcon2 := fun A c W h => implMsgOk_is q2 3 v x a b A c (insR vs va vb) hq2 W h hlen
  change ∀ W, _ → Calls _ _ _ W (VRes (insR vs va vb) W) at hins
  generalize insR vs va vb = us at *
  rw [hvn] at hcon
  have HCON := Lib.hid hcon; clear hcon
  have HINS := Lib.hid hins; clear hins
  have HCON2 := Lib.hid hcon2; clear hcon2 hq hq2 hvn
  cases q
  · go_enter Try.func10, Try.ntmps10
    go_wp2_with fail
    refine (HCON.out _ (HR.out _ _ _)).mono ?_
    rintro e w1 ⟨rfl, hb1⟩
    have hz1 := hz0.on hb1
    have rz1 := hz1.rule
    have fz1 := fun i => hz1.frozen i
    have hB1 := on_ (up_ (up_ (up_ (Below.refl w.heap.size w) _) _) _) hb1
    have hs1 := hz1.lt
    clear hk0 hv0 hz0 hb1
    go_wp2
    refine bodyPost_ret (v := .tuple #[.agg #[.int .i64 0, .int .i64 0, .int .i64 0, .int .i64 0, .int .i64 0, .slice none 0 0], .bool false]) (by simp [results, Try.results10, go_sem, rz1]) rfl ?_
    refine ⟨none, 0, rfl, OV.nil_, ?_⟩
    iterate 6 refine Below.setCell ?_ (by simp <;> omega) _
    exact hB1
  · go_enter Try.func10, Try.ntmps10
    go_wp2_with fail
    refine (HCON.out _ (HR.out _ _ _)).mono ?_
    rintro e w1 ⟨rfl, hb1⟩
    have hz1 := hz0.on hb1
    have hk1 := hk0.on hb1
    have hv1 := hv0.on hb1
    have rk1 := hk1.rule
    have rv1 := hv1.rule
    have hB1 := on_ (up_ (up_ (up_ (Below.refl w.heap.size w) _) _) _) hb1
    have hs1 := hz1.lt
    have hr1 := (HR.out _ _ _).on hb1
    clear hk0 hv0 hz0 hb1
    go_wp2_with fail
    refine (HINS.out _ hr1).mono ?_
    rintro e w2 ⟨g2, c2, rfl, ho2, hb2⟩
    have hz2 := hz1.on hb2
    have hk2 := hk1.on hb2
    have rk2 := hk2.rule
    have fk2 := fun i => hk2.frozen i
    have hB2 := on_ hB1 hb2
    have ho2 := OV.of_own ho2
    have hs2 := hz2.lt
    have hkm := hk2.set_ 5 (.slice (some ⟨g2, 0, none⟩) us.length c2)
    have hzm := hz2.far (p := ⟨w.heap.size, 5, none⟩) (by simp; omega) (.slice (some ⟨g2, 0, none⟩) us.length c2)
    have hom := OV.set_ ho2 (p := ⟨w.heap.size, 5, none⟩) (by simp; omega) (.slice (some ⟨g2, 0, none⟩) us.length c2)
    have hBm := hB2.setCell (p := ⟨w.heap.size, 5, none⟩) (Nat.le_refl _) (.slice (some ⟨g2, 0, none⟩) us.length c2)
    clear hk1 hv1 rk1 rv1 hB1 hb2 hr1 hz1 hz2 ho2 hB2
    go_wp2_with fail
    refine (HCON2.out _ _ _ hom.rd).mono ?_
    rintro e w3 ⟨rfl, hb3⟩
    have hz3 := hzm.on hb3
    have hk3 := hkm.on hb3
    have rz3 := hz3.rule
    have rk3 := hk3.rule
    have fz3 := fun i => hz3.frozen i
    have hB3 := on_ hBm hb3
    have ho3 := hom.on hb3
    have hs3 := hz3.lt
    clear hk2 rk2 fk2 hzm hom hBm hb3 hkm
    cases q2
    · go_wp2
      refine bodyPost_ret (v := .tuple #[.agg #[.int .i64 0, .int .i64 0, .int .i64 0, .int .i64 0, .int .i64 0, .slice none 0 0], .bool false]) (by simp [results, Try.results10, go_sem, rz3]) rfl ?_
      refine ⟨none, 0, rfl, OV.nil_, ?_⟩
      iterate 6 refine Below.setCell ?_ (by simp <;> omega) _
      exact hB3
    · go_wp2
      refine bodyPost_ret (v := .tuple #[.agg #[.int .i64 3, .int .i64 v, .int .i64 x, .int .i64 a, .int .i64 b, .slice (some ⟨g2, 0, none⟩) us.length c2], .bool true]) (by simp [results, Try.results10, go_sem, rz3]) rfl ?_
      refine ⟨some ⟨g2, 0, none⟩, c2, rfl, ?_, ?_⟩
      · refine OV.more (b := w1.heap.size) ?_ (by omega)
        iterate 6 refine OV.set_ ?_ (by simp; omega) _
        exact ho3
      · iterate 6 refine Below.setCell ?_ (by simp <;> omega) _
        exact hB3
end Go.Proofs.Ytaegcdbgnjlbdaa.V
