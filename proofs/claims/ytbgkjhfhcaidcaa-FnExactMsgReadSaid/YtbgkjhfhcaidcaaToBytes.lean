/-
  An argument that is a slice of bytes, opened; and 'toByteS' copies it. No statement is proved here.
-/
import Derived.Test.YtbgkjhfhcaidcaaLiftMsg
import Derived.Test.YtbgkjhfhcaidcaaRead5
import Derived.Deep.Slices
set_option linter.unusedVariables false
namespace Go.Proofs.Ytbgkjhfhcaidcaa.V
open Go.RowKit Go.ChangeShapes Go.WideShapes Go.Deep Go.Proofs.Ytbgkjhfhcaidcaa.B

theorem u8_range {n : Int} (h : (Lit.int .u8 n).wf = true) : 0 ≤ n ∧ n < 256 := by
  have h' : IntKind.u8.min ≤ n ∧ n ≤ IntKind.u8.max := by simpa [Lit.wf] using h
  have h1 : IntKind.u8.min = 0 := by decide
  have h2 : IntKind.u8.max = 255 := by decide
  omega

theorem open_bytes {H : Type} {enc : TypeId × Value → H} {w : World} {fuel : Nat} {cs : List Value} {x : DataW H × List MemPlace} (h : DataW.trod enc Try.prog w 0 (fun _ => true) true fuel 42 cs = some x) :
    ∃ (A : Option Addr) (c : Nat) (xs : List Int), cs = [.slice A xs.length c] ∧ xs.length ≤ maxLen ∧ By xs ∧ RdB w w.heap.size A xs := by
  rcases open_slice1 Try.underlying42 (by kernel_rfl) h with ⟨rfl, _⟩ | ⟨a, len, cap, m, n, V, D, Pl, rfl, _, hl, hm, hmm, _, hx⟩
  · exact ⟨none, 0, [], rfl, by simp [maxLen], fun _ hz => by simp at hz, RdB.nil_⟩
  · have hlm : len ≤ m := by rw [hmm]; simpa using hl
    refine ⟨some a, cap, (List.range len).map fun i => intOf (V i), by simp, by simp; omega, ?_, fun hp => ?_⟩
    · intro z hz
      simp only [List.mem_map, List.mem_range] at hz
      obtain ⟨i, hi, rfl⟩ := hz
      obtain ⟨_, t0⟩ := hx i (by omega)
      obtain ⟨n0, e0, _, hwf⟩ := DataW.trod_int Try.underlying5 t0
      simp only [List.cons.injEq, and_true] at e0
      rw [e0]
      exact u8_range hwf
    · have hp' : 0 < len := by simpa using hp
      have hz0 := (hx 0 (by omega)).1
      rw [show a.add 0 = a from rfl] at hz0
      obtain ⟨b, off, rfl⟩ := addr_none hz0
      refine ⟨b, off, rfl, World.block_lt_of_cell? w ⟨b, off, none⟩ hz0, fun i hi => ?_⟩
      have hi' : i < len := by simpa using hi
      obtain ⟨h0, t0⟩ := hx i (by omega)
      obtain ⟨n0, e0, _, _⟩ := DataW.trod_int Try.underlying5 t0
      simp only [List.cons.injEq, and_true] at e0
      rw [add_plain] at h0
      have hg : ((List.range len).map fun i => intOf (V i)).getD i 0 = n0 := by
        simp [List.getD, hi', e0, intOf]
      rw [hg, h0, e0]

theorem infoB2 : (Try.prog.info? 5).map (fun i => (i.zero, i.size, i.bytes)) = some (some (.int .u8 0), 1, 1) := by kernel_rfl
set_option maxHeartbeats 1600000 in
theorem toByteS_any (A : Option Addr) (c : Nat) (xs : List Int) (w : World) (hr : RdB w w.heap.size A xs) (hn : xs.length ≤ 1048576) :
    Calls Try.prog 32 #[.slice A xs.length c] w fun e w' => ∃ g cs, e = .returned (.slice (some ⟨g, 0, none⟩) xs.length xs.length) ∧ w.heap.size ≤ g ∧ Blk w' g 5 cs ∧ PB cs xs xs.length ∧ Below w.heap.size w w' := by
  obtain ⟨i0, hi, hz0, hz1, hz2⟩ := info_parts infoB2
  have hmk : ∀ u : World, (Instr.makeSlice 42 (.int .i64 (xs.length : Int)) (.int .i64 (xs.length : Int))).run Try.prog u =
      .ok (.slice (some ⟨u.heap.size, 0, none⟩) xs.length xs.length) (u.alloc (.cells (madeCells #[.int .u8 0] xs.length) 5)) := fun u => by
    have h := run_make_rowN (P := Try.prog) 42 5 i0 (.int .u8 0) Try.underlying42 hi hz0 .i64 .i64 xs.length xs.length (Nat.le_refl _) (by rw [hz2]; omega) (by omega) u
    rw [h, hz1, Nat.mul_one]; rfl
  clear hz2 hz1 hz0 hi
  obtain ⟨n, hvn⟩ : ∃ n, xs.length = n := ⟨_, rfl⟩
  rw [hvn] at hn hmk ⊢
  go_enter Try.func32, Try.ntmps32
  go_wp2
  have HV := Lib.hid hvn; clear hvn
  go_loopw [4] (fun i wr => ∃ (k : Nat) (cs : Array Value), k ≤ n ∧ i = .int .i64 k ∧ Blk wr w.heap.size 5 cs ∧ Hid (PB cs xs k) ∧ Below w.heap.size w wr) (fun i _ => n - (intOf i).toNat)
  case atStart => exact ⟨0, _, Nat.zero_le _, rfl, Blk.new _ _ _, PB.zero (by rw [HV.out]; simp [madeCells]), (Below.refl _ _).alloc (Nat.le_refl _) _⟩
  case round =>
    obtain ⟨k, cs, hk, rfl, hblk, hpc, hbel⟩ := hrel
    by_cases hlt : k < n
    · obtain ⟨b, off, rfl, hb, hc⟩ := hr (by rw [HV.out]; omega)
      have hc0 := hc k (by rw [HV.out]; omega)
      rw [← hbel.cell (p := ⟨b, off + k, none⟩) hb] at hc0
      clear hc hr
      have hsz : k < cs.size := by have := hpc.out.1; have := HV.out; omega
      obtain ⟨x0, hx0⟩ : ∃ x, cs[k]? = some x := ⟨_, Array.getElem?_eq_getElem hsz⟩
      have hy0 := (hblk.cell k).trans hx0
      have hf0 := hblk.frozen k
      have HP : Hid (PB (cs.setIfInBounds k (.int .u8 (xs.getD k 0))) xs (k + 1)) := PB.step hpc.out (by rw [HV.out]; omega)
      clear hsz hx0 hpc
      generalize xs.getD k 0 = v at *
      go_wp2
      go_roundw
      case rel =>
        refine ⟨k + 1, _, by omega, by go_num, hblk.set_ _ _, HP, hbel.setCell (Nat.le_refl _) _⟩
      case measure => simp [intOf]; omega
    · obtain rfl : k = n := by omega
      go_wp2
      go_ret
      exact ⟨w.heap.size, cs, rfl, Nat.le_refl _, hblk, by rw [← HV.out]; have := hpc.out; rw [← HV.out] at this; exact this, hbel⟩
theorem RdB.dr {w : World} {A : Option Addr} {xs : List Int} (h : RdB w w.heap.size A xs) : RdB w.drew w.drew.heap.size A xs := h

/-- MsgRead of the model and of the program answer the same, whatever slice the bytes stand in. -/
theorem reads_both (xs : List Int) (hx : By xs) (hl : xs.length ≤ 1048576) : ∃ k2 v2 x2 a2 b2 q us, us.length ≤ 1048576 ∧
    (∀ (A : Option Addr) (W : World), RdB W W.heap.size A xs → Calls Try.prog 31 #[.slice A xs.length xs.length] W (GRes k2 v2 x2 a2 b2 q us W)) ∧
    (∀ (A : Option Addr) (W : World), RdB W W.heap.size A xs → Calls Try.prog 33 #[.slice A xs.length xs.length] W (GRes k2 v2 x2 a2 b2 q us W)) := by
  obtain ⟨k2, v2, x2, a2, b2, q, us, hul, hs⟩ := reads_same xs hx hl
  exact ⟨k2, v2, x2, a2, b2, q, us, hul, fun A W h => (specRead_is A _ _ xs hx hl rfl W h).mono (hs W), fun A W h => (implRead_is A _ _ xs hx hl rfl (Nat.le_refl _) W h).mono (hs W)⟩
end Go.Proofs.Ytbgkjhfhcaidcaa.V
