/-
  Two slices of bytes compared: what bytes.Compare answers, and a slice of bytes turned into a string. No statement is proved here.
-/
import Derived.Test.YtbgkjhfhcaidcaaMsgBytes2
import Derived.Lib.BytesEntry
import Derived.Lib.Bytealg
import Derived.Laws.Externs
import Derived.Laws.BytesArg
set_option linter.unusedVariables false
namespace Go.Proofs.Ytbgkjhfhcaidcaa.V
open Go.RowKit Go.Proofs.Ytbgkjhfhcaidcaa.B

theorem run_bytesOfSlice {P : Program} (w : World) (A : Option Addr) (c : Nat) (xs : List Int) (h : RdB w w.heap.size A xs) :
    (Extern.Bytes.bytesOf (.slice A xs.length c)).run P w = .ok ⟨(Lib.bytesOf xs).toArray⟩ w := by
  rcases A with _ | ⟨b, off, sp⟩
  · have hz : xs = [] := by
      rcases Nat.eq_zero_or_pos xs.length with h0 | h0
      · exact List.eq_nil_of_length_eq_zero h0
      · obtain ⟨_, _, e, _⟩ := h h0
        cases e
    subst hz
    rfl
  · rcases Nat.eq_zero_or_pos xs.length with h0 | h0
    · have hz := List.eq_nil_of_length_eq_zero h0
      subst hz
      rfl
    · obtain ⟨b', off', e, hb, hc⟩ := h h0
      injection e with e
      injection e with e1 e2 e3
      subst e1 e2 e3
      have hl := Lib.run_loadBytesX (P := P) w xs ⟨b, off, none⟩ .empty (fun j x hj => by
        have hjl : j < xs.length := (List.getElem?_eq_some_iff.1 hj).1
        have e : (⟨b, off, none⟩ : Addr).add j = ⟨b, off + j, none⟩ := by unfold Addr.add; split <;> simp_all
        rw [e, hc j (by omega), List.getD_eq_getElem?_getD, hj]
        rfl)
      have he : (⟨ByteArray.empty.data ++ (Lib.bytesOf xs).toArray⟩ : ByteArray) = ⟨(Lib.bytesOf xs).toArray⟩ := by
        apply ByteArray.ext
        show (#[] : Array UInt8) ++ (Lib.bytesOf xs).toArray = (Lib.bytesOf xs).toArray
        simp
      rw [he] at hl
      exact hl

theorem run_compareSlices {P : Program} (w : World) (A B : Option Addr) (c d : Nat) (xs ys : List Int) (h : RdB w w.heap.size A xs) (h' : RdB w w.heap.size B ys) :
    (Extern.BytealgCompare.compare #[.slice A xs.length c, .slice B ys.length d]).run P w = .ok (.int .i64 (Lib.compareBytes (Lib.bytesOf xs) (Lib.bytesOf ys))) w := by
  change Sem.run P (do pure (goInt (Extern.BytealgCompare.cmp (← Extern.Bytes.bytesOf (.slice A xs.length c)) (← Extern.Bytes.bytesOf (.slice B ys.length d))))) w = _
  simp only [Sem.run_bind, Sem.run_pure, run_bytesOfSlice w A c xs h, run_bytesOfSlice w B d ys h', Result.andThen]
  rw [Lib.cmp_eq]
  rfl

theorem bytesCompare_any (A B : Option Addr) (c d : Nat) (xs ys : List Int) (w : World) (h : RdB w w.heap.size A xs) (h' : RdB w w.heap.size B ys) :
    Calls Try.prog 55 #[.slice A xs.length c, .slice B ys.length d] w fun e w' => e = .returned (.int .i64 (Lib.compareBytes (Lib.bytesOf xs) (Lib.bytesOf ys))) ∧ w = w' := by
  have hx : (callFunc 64 #[.slice A xs.length c, .slice B ys.length d]).run Try.prog w = .ok (.value (.int .i64 (Lib.compareBytes (Lib.bytesOf xs) (Lib.bytesOf ys)))) w := by
    rw [run_callFunc_extern Try.func64 (by kernel_rfl) (by kernel_rfl) (by kernel_rfl) (e := Extern.BytealgCompare.compare) (by kernel_rfl), run_compareSlices w A B c d xs ys h h']
    rfl
  generalize Lib.compareBytes (Lib.bytesOf xs) (Lib.bytesOf ys) = r at *
  clear h h'
  go_enter Try.func55, Try.ntmps55
  go_wp2
  go_ret
  exact ⟨rfl, rfl⟩

theorem compare_less (x y : List UInt8) : Lib.compareBytes x y = if Op.bytesLess x y then -1 else if Op.bytesLess y x then 1 else 0 := by
  induction x generalizing y with
  | nil => cases y <;> simp [Lib.compareBytes, Op.bytesLess]
  | cons a x ih =>
    cases y with
    | nil => simp [Lib.compareBytes, Op.bytesLess]
    | cons b y =>
      simp only [Lib.compareBytes, Op.bytesLess, ih y]
      by_cases h1 : a < b
      · simp [h1]
      · by_cases h2 : b < a
        · have hne : ¬ a = b := by rintro rfl; exact h1 h2
          simp [h1, h2, hne]
        · have e : a = b := by
            have := UInt8.le_antisymm (UInt8.not_lt.1 h2) (UInt8.not_lt.1 h1)
            exact this
          subst e
          simp [h1]

theorem run_toString (w : World) (A : Option Addr) (c : Nat) (xs : List Int) (h : RdB w w.heap.size A xs) :
    (convert 42 9 (.slice A xs.length c)).run Try.prog w = .ok (.string (strOfNums xs)) w := by
  rcases Nat.eq_zero_or_pos xs.length with h0 | h0
  · have hz := List.eq_nil_of_length_eq_zero h0
    subst hz
    rcases A with _ | ⟨b, off, sp⟩
    · exact run_convert_bytes_nil w 42 5 Try.underlying42 Try.underlying5 0 c 9 Try.underlying9
    · simp only [List.length_nil]
      rw [run_convert_bytes_string w 42 9 5 _ 0 c Try.underlying42 Try.underlying5 Try.underlying9]
      rfl
  · obtain ⟨b, off, rfl, _, hc⟩ := h h0
    exact run_convert_bytes_arg w 42 5 Try.underlying42 Try.underlying5 b off xs.length c xs rfl hc 9 Try.underlying9
end Go.Proofs.Ytbgkjhfhcaidcaa.V
