/-
  Rows of bytes: comparison, marks, one digit; the model's words of a command. No statement is proved here.
-/
import Derived.Test.YtbogagddjkghhaaDoorStM
import Derived.Test.YtbogagddjkghhaaDoorCellRow
import Derived.Deep.RegionLaw
import Derived.IntWalk
set_option linter.unusedVariables false
set_option maxRecDepth 100000
namespace Go.Proofs.YtbogagddjkghhaaDoor.V
open Go.RowKit Go.Proofs.YtbogagddjkghhaaDoor.B
theorem infoB8 : (Tryd.prog.info? 5).map (fun i => (i.zero, i.size, i.bytes)) = some (some (.int .u8 0), 1, 1) := by kernel_rfl
/-- Bytes as cells. -/
def u8s (bs : List Int) : List Value := bs.map (Value.int .u8)
theorem u8s_len (bs : List Int) : (u8s bs).length = bs.length := by simp [u8s]
theorem u8s_at {bs : List Int} {j : Nat} (h : j < bs.length) : (u8s bs)[j]? = some (.int .u8 (bs.getD j 0)) := by
  unfold u8s
  rw [List.getElem?_map, List.getElem?_eq_getElem h, List.getD_eq_getElem?_getD, List.getElem?_eq_getElem h]
  rfl
theorem u8s_app (a b : List Int) : u8s a ++ u8s b = u8s (a ++ b) := by simp [u8s]
/-- A row read, by its cells. -/
def Rd8 (w : World) (A : Option Addr) (bs : List Int) : Prop := 0 < bs.length → ∃ g, A = some ⟨g, 0, none⟩ ∧ g < w.heap.size ∧ ∀ j, j < bs.length → w.cell? ⟨g, j, none⟩ = some (.int .u8 (bs.getD j 0))
theorem Rd8.on {w w' : World} {A : Option Addr} {bs : List Int} (h : Rd8 w A bs) (hb : Below w.heap.size w w') : Rd8 w' A bs := fun h0 => by
  obtain ⟨g, e, hg, hc⟩ := h h0
  exact ⟨g, e, by have := hb.size; omega, fun j hj => (hb.cell (p := ⟨g, j, none⟩) hg).trans (hc j hj)⟩
theorem Rd8.of {w : World} {g cap : Nat} {bs : List Int} (h : CRow w g cap bs.length (u8s bs)) : Rd8 w (some ⟨g, 0, none⟩) bs := fun _ => ⟨g, rfl, h.lt, fun j hj => (h.cell j hj).trans (u8s_at hj)⟩
theorem eqByteS_same (A C : Option Addr) (c d : Nat) (bs : List Int) (w : World) (hr : Rd8 w A bs) (hs : Rd8 w C bs) (hn : bs.length ≤ 100) :
    Calls Tryd.prog 29 #[.slice A bs.length c, .slice C bs.length d] w fun e w' => e = .returned (.bool true) ∧ Below w.heap.size w w' := by
  obtain ⟨n, hvn⟩ : ∃ n, bs.length = n := ⟨_, rfl⟩
  have HR := Lib.hid hr; have HS := Lib.hid hs
  rw [hvn] at hn ⊢
  have HV := Lib.hid hvn; clear hvn hr hs
  go_enter Tryd.func29, Tryd.ntmps29
  go_wp2
  go_loopw [5] (fun i wr => ∃ (k : Nat), k ≤ n ∧ i = .int .i64 k ∧ Below w.heap.size w wr) (fun i _ => n - (intOf i).toNat)
  case atStart => exact ⟨0, Nat.zero_le _, rfl, Below.refl _ _⟩
  case round =>
    obtain ⟨k, hk, rfl, hbel⟩ := hrel
    by_cases hlt : k < n
    · obtain ⟨b, rfl, hb, hc0⟩ := (HR.out.on hbel) (by rw [HV.out]; omega)
      obtain ⟨b', rfl, hb', hc1⟩ := (HS.out.on hbel) (by rw [HV.out]; omega)
      have hc0 := hc0 k (by rw [HV.out]; omega)
      have hc1 := hc1 k (by rw [HV.out]; omega)
      generalize bs.getD k 0 = y at *
      have C0 := fun x : Lat wr => x.cell hc0
      have C1 := fun x : Lat wr => x.cell hc1
      have hne : (y != y) = false := by simp
      go_wp2
      refine wp_region_lat (by kernel_rfl) (by kernel_rfl) ?_
      repeat (go_big_quiet_step (fail))
      refine wpQuiet_nil ?_
      rintro _ ⟨⟨w3, hb3⟩, rfl⟩
      clear C0 C1
      go_wp2
      go_roundw
      case rel => exact ⟨k + 1, by omega, by go_num, hbel.trans (hb3.mono hbel.size)⟩
      case measure => simp [intOf]; omega
    · go_wp2
      go_ret
      exact ⟨rfl, hbel⟩
theorem CRow.set {w : World} {g cap n : Nat} {cs : List Value} (h : CRow w g cap n cs) {j : Nat} (hj : j < n) (v : Value) : CRow (w.setCell ⟨g, j, none⟩ v) g cap n (cs.set j v) := by
  have hsz : (w.setCell ⟨g, j, none⟩ v).heap.size = w.heap.size := by simp [World.setCell]
  refine ⟨by rw [hsz]; exact h.lt, by rw [List.length_set]; exact h.len, h.le, h.max, fun i hi => ?_, fun i hi => ⟨?_, ?_⟩⟩
  · by_cases e : i = j
    · subst e
      rw [World.cell?_setCell_same' w _ v ((h.there i (by have := h.le; omega)).1), List.getElem?_set_self (by rw [h.len]; exact hj)]
    · rw [World.cell?_setCell_other w _ ⟨g, i, none⟩ v (fun e2 => e (by injection e2 with _ e2; exact e2.symm)), h.cell i hi, List.getElem?_set_ne (Ne.symm e)]
  · by_cases e : i = j
    · subst e
      rw [World.cell?_setCell_same' w _ v ((h.there i hi).1)]; rfl
    · rw [World.cell?_setCell_other w _ ⟨g, i, none⟩ v (fun e2 => e (by injection e2 with _ e2; exact e2.symm))]
      exact (h.there i hi).1
  · rw [World.frozen?_setCell]; exact (h.there i hi).2
/-- The first j are marked. -/
def MKj (bs : List Int) (k : Int) (j : Nat) : List Int := (List.range j).map (fun i : Nat => k + (i : Int)) ++ bs.drop j
theorem MKj_len (bs : List Int) (k : Int) (j : Nat) (h : j ≤ bs.length) : (MKj bs k j).length = bs.length := by simp [MKj]; omega
theorem MKj_set (bs : List Int) (k : Int) (j : Nat) (h : j < bs.length) : (u8s (MKj bs k j)).set j (.int .u8 (k + (j : Int))) = u8s (MKj bs k (j + 1)) := by
  have e : (MKj bs k j).set j (k + (j : Int)) = MKj bs k (j + 1) := by
    apply List.ext_getElem?
    intro i
    unfold MKj
    by_cases hi : i = j
    · subst hi
      rw [List.getElem?_set_self (by simp; omega), List.range_succ, List.map_append, List.getElem?_append_left (by simp), List.getElem?_append_right (by simp)]
      simp
    · rw [List.getElem?_set_ne (Ne.symm hi)]
      by_cases hlt : i < j
      · rw [List.getElem?_append_left (by simp; omega), List.getElem?_append_left (by simp; omega)]
        simp [hlt, Nat.lt_succ_of_lt hlt]
      · rw [List.getElem?_append_right (by simp; omega), List.getElem?_append_right (by simp; omega)]
        simp only [List.length_map, List.length_range, List.getElem?_drop]
        congr 1
        omega
  rw [← e]
  unfold u8s
  rw [List.map_set]
theorem markByteS_any (g cap : Nat) (bs : List Int) (k : Int) (w : World) (h : CRow w g cap bs.length (u8s bs)) (h0 : 0 ≤ k) (h1 : k + bs.length ≤ 200) :
    Calls Tryd.prog 32 #[.slice (some ⟨g, 0, none⟩) bs.length cap, .int .i64 k] w fun e w' => e = .returned (.int .i64 (k + bs.length)) ∧ CRow w' g cap bs.length (u8s (MKj bs k bs.length)) ∧ w.grownBy w' (some g) := by
  obtain ⟨n, hvn⟩ : ∃ n, bs.length = n := ⟨_, rfl⟩
  have H0 : CRow w g cap n (u8s (MKj bs k 0)) := by rw [← hvn]; simpa [MKj] using h
  rw [hvn] at h1 ⊢
  have HV := Lib.hid hvn; clear hvn h
  go_enter Tryd.func32, Tryd.ntmps32
  go_wp2
  go_loopw [1, 5] (fun kk i wr => ∃ (j : Nat), j ≤ n ∧ i = .int .i64 j ∧ kk = .int .i64 (k + j) ∧ Hid (CRow wr g cap n (u8s (MKj bs k j))) ∧ w.grownBy wr (some g)) (fun _ i _ => n - (intOf i).toNat)
  case atStart => exact ⟨0, Nat.zero_le _, rfl, by simp, H0, World.grownBy.refl w _⟩
  case round =>
    clear H0
    obtain ⟨j, hj, rfl, rfl, hc, hg⟩ := hrel
    by_cases hlt : j < n
    · have hthere := hc.out.there j (by have := hc.out.le; omega)
      have hcell := (hc.out.cell j hlt).trans (u8s_at (by rw [MKj_len _ _ _ (by rw [HV.out]; omega), HV.out]; exact hlt))
      have hfro := hthere.2
      have hset := Lib.hid (CRow.set hc.out hlt (.int .u8 (k + (j : Int))))
      have hstep := MKj_set bs k j (by rw [HV.out]; exact hlt)
      have hw1 : IntKind.u8.wrap (k + (j : Int)) = k + (j : Int) := IntWalk.u8_in _ (by omega)
      have hg2 : w.grownBy (wr.setCell ⟨g, j, none⟩ (.int .u8 (k + (j : Int)))) (some g) := ⟨hg.os, hg.tape, hg.output, by simpa [World.setCell] using hg.size, fun i hi hne => (Below.heap_setCell _ _ _ i (fun e => hne (by rw [e]))).trans (hg.block i hi hne)⟩
      have HST := Lib.hid hstep; have HG2 := Lib.hid hg2
      clear hthere hstep hg hg2
      go_wp2
      go_roundw
      case rel => exact ⟨j + 1, by omega, by go_num, by congr 1; simp; omega, by show CRow _ _ _ _ _; rw [← HST.out]; exact hset.out, HG2.out⟩
      case measure => simp [intOf]; omega
    · obtain rfl : j = n := by omega
      go_wp2
      go_ret
      exact ⟨rfl, hc.out, hg⟩
theorem heldByteS_any (g cap : Nat) (bs : List Int) (k : Int) (w : World) (h : CRow w g cap bs.length (u8s (MKj bs k bs.length))) (h0 : 0 ≤ k) (h1 : k + bs.length ≤ 200) :
    Calls Tryd.prog 33 #[.slice (some ⟨g, 0, none⟩) bs.length cap, .int .i64 k] w fun e w' => e = .returned (.int .i64 (k + bs.length)) ∧ Below w.heap.size w w' := by
  obtain ⟨n, hvn⟩ : ∃ n, bs.length = n := ⟨_, rfl⟩
  have hcell : ∀ j, j < n → w.cell? ⟨g, j, none⟩ = some (.int .u8 (k + (j : Int))) := fun j hj => by
    rw [h.cell j (by omega), u8s_at (by rw [MKj_len _ _ _ (Nat.le_refl _)]; omega)]
    congr 2
    unfold MKj
    rw [List.getD_eq_getElem?_getD, List.getElem?_append_left (by simp; omega)]
    simp [show j < bs.length by omega]
  have hlt0 := h.lt
  rw [hvn] at h1 ⊢
  have HC := Lib.hid hcell; clear hvn h hcell
  go_enter Tryd.func33, Tryd.ntmps33
  go_wp2
  go_loopw [1, 5] (fun kk i wr => ∃ (j : Nat), j ≤ n ∧ i = .int .i64 j ∧ kk = .int .i64 (k + j) ∧ Below w.heap.size w wr) (fun _ i _ => n - (intOf i).toNat)
  case atStart => exact ⟨0, Nat.zero_le _, rfl, by simp, Below.refl _ _⟩
  case round =>
    obtain ⟨j, hj, rfl, rfl, hbel⟩ := hrel
    by_cases hlt : j < n
    · have hc0 := (hbel.cell (p := ⟨g, j, none⟩) hlt0).trans (HC.out j hlt)
      have hw1 : IntKind.u8.wrap (k + (j : Int)) = k + (j : Int) := IntWalk.u8_in _ (by omega)
      have hne : (k + (j : Int) != k + (j : Int)) = false := by simp
      go_wp2
      go_roundw
      case rel => exact ⟨j + 1, by omega, by go_num, by congr 1; simp; omega, hbel⟩
      case measure => simp [intOf]; omega
    · obtain rfl : j = n := by omega
      go_wp2
      go_ret
      exact ⟨rfl, hbel⟩
theorem digit_any (n : Nat) (hn : n < 10) (w : World) : Calls Tryd.prog 78 #[.int .i64 n] w fun e w' => e = .returned (.slice (some ⟨w.heap.size, 0, none⟩) 1 1) ∧ w' = w.alloc (.cells #[.int .u8 (48 + (n : Int))] 5) := by
  have h0 : (n : Int) < 10 := by omega
  have hw1 : IntKind.u8.wrap (48 + (n : Int)) = 48 + (n : Int) := IntWalk.u8_in _ (by omega)
  go_enter Tryd.func78, Tryd.ntmps78
  go_wp2
  go_ret
  exact ⟨rfl, rfl⟩
/-- What '[]byte(s)' gives, as the walk wants it. -/
theorem conv_text (w : World) (s : ByteArray) :
    (convert 9 22 (.string s)).run Tryd.prog w = .ok (.slice (some ⟨w.heap.size, 0, none⟩) s.size (grownCap w s.size 0 5))
      (w.drew.alloc (.cells (bytesRow s (grownCap w s.size 0 5)) 5 ((bytesRow s (grownCap w s.size 0 5)).size, (bytesRow s (grownCap w s.size 0 5)).size + 1))) :=
  run_bytes_of_string w _ _ _ s (by kernel_rfl) (by kernel_rfl) (by kernel_rfl)
section
variable {P : Program} {w : World}
theorem wpList_append_row {ops : Array Oper} {rest : List Oper} {o : Oper} {a : Act} {Q : Exit → Act → World → Prop} (hgd : o.guard = none) (s x : Operand) (t e : TypeId) (i0 : TypeInfo) (z : Value) (ht : P.underlying t = some (.slice e)) (hi0 : P.info? e = some i0) (hz0 : i0.zero = some z) (hz1 : i0.size = 1) (hz2 : i0.bytes = 1) (hzs : z.cells.size = 1) 
    (ho : o.op = .call { callee := .builtin .append, args := #[s, x], argTypes := #[t, t] })
    {g cap n : Nat} {cs : List Value} (h : CRow w g cap n cs) (hs : a.eval s = .slice (some ⟨g, 0, none⟩) n cap) {B : Nat} {A : Option Addr} {m c : Nat} {news : List Value} (hx : a.eval x = .slice A m c) (hr : Reads w B 1 A m news) (h1 : ∀ u ∈ news, u.oneCell' = true) (h63 : n + m ≤ 281474976)
    (hK : ∀ g' cap' w', CRow w' g' cap' (n + m) (cs ++ news) → w.grownBy w' (some g) → (g' = g ∨ g' = w.heap.size) → wpList P ops Q rest (a.put o.dst (.slice (some ⟨g', 0, none⟩) (n + m) cap')) w') : wpList P ops Q (o :: rest) a w := by
  obtain ⟨g', cap', w', hrun, r1, r2, r3⟩ := run_append_row (P := P) w t o.type e i0 z ht hi0 hz0 hz1 hz2 hzs h hr h1 h63
  refine wpList_plain hgd fun K hK' => ?_
  unfold Oper.wp execOp
  simp only [ho, resolve, invoke, builtin, Sem.run_bind, Sem.run_pure, Result.andThen_ok, List.map_toArray, List.map_cons, List.map_nil, hs, hx]
  erw [hrun]
  exact hK' _ _ (hK g' cap' w' r1 r2 r3)
theorem step_append_row {ops : Array Oper} {o : Oper} {a : Act} {K : Act → World → Prop} {Q : Exit → Act → World → Prop} {E : Prop} (hgd : o.guard = none) (s x : Operand) (t e : TypeId) (i0 : TypeInfo) (z : Value) (ht : P.underlying t = some (.slice e)) (hi0 : P.info? e = some i0) (hz0 : i0.zero = some z) (hz1 : i0.size = 1) (hz2 : i0.bytes = 1) (hzs : z.cells.size = 1) 
    (ho : o.op = .call { callee := .builtin .append, args := #[s, x], argTypes := #[t, t] })
    {g cap n : Nat} {cs : List Value} (h : CRow w g cap n cs) (hs : a.eval s = .slice (some ⟨g, 0, none⟩) n cap) {B : Nat} {A : Option Addr} {m c : Nat} {news : List Value} (hx : a.eval x = .slice A m c) (hr : Reads w B 1 A m news) (h1 : ∀ u ∈ news, u.oneCell' = true) (h63 : n + m ≤ 281474976)
    (hK : ∀ g' cap' w', CRow w' g' cap' (n + m) (cs ++ news) → w.grownBy w' (some g) → (g' = g ∨ g' = w.heap.size) → K (a.put o.dst (.slice (some ⟨g', 0, none⟩) (n + m) cap')) w') :
    if Region.wanted o (yielded ops a.tmps) = true then Oper.wp P o a w K Q else E := by
  obtain ⟨g', cap', w', hrun, r1, r2, r3⟩ := run_append_row (P := P) w t o.type e i0 z ht hi0 hz0 hz1 hz2 hzs h hr h1 h63
  have hw : Region.wanted o (yielded ops a.tmps) = true := by simp [Region.wanted, hgd]
  rw [if_pos hw]
  unfold Oper.wp execOp
  simp only [ho, resolve, invoke, builtin, Sem.run_bind, Sem.run_pure, Result.andThen_ok, List.map_toArray, List.map_cons, List.map_nil, hs, hx]
  erw [hrun]
  exact hK g' cap' w' r1 r2 r3
end
end Go.Proofs.YtbogagddjkghhaaDoor.V
