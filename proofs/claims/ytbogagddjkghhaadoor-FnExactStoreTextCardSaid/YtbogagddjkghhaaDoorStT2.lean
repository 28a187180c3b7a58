/-
  How long a store's text is. No statement is proved here.
-/
import Derived.Test.YtbogagddjkghhaaDoorStTp
set_option linter.unusedVariables false
namespace Go.Proofs.YtbogagddjkghhaaDoor.V
open Go.RowKit Go.Proofs.YtbogagddjkghhaaDoor.B
theorem digs_len10 (k : Nat) : ∀ n : Nat, n < 10 ^ (k + 1) → (digs n).length ≤ k + 1 := by
  induction k with
  | zero => intro n hn; rw [digs_low (by omega)]; simp
  | succ k ih =>
    intro n hn
    by_cases h : n < 10
    · rw [digs_low h]; simp
    · rw [digs_high h, List.length_append]
      have := ih (n / 10) (by rw [Nat.pow_succ] at hn; omega)
      simp
      omega
theorem stT_len4 (xs : List Int) (m : Nat) (h4 : xs.length = 4) (hm : m ≤ 1000) (hx : ∀ j, j < 4 → xs.getD j 0 ≤ 1000) : (stT xs m 4).length ≤ 24 := by
  match xs, h4, hx with
  | [a, b, c, d], _, hx =>
    have h0 := hx 0 (by omega); have h1 := hx 1 (by omega); have h2 := hx 2 (by omega); have h3 := hx 3 (by omega)
    simp at h0 h1 h2 h3
    have l0 := digs_len10 3 m (by omega); have l1 := digs_len10 3 a.toNat (by omega); have l2 := digs_len10 3 b.toNat (by omega); have l3 := digs_len10 3 c.toNat (by omega); have l4 := digs_len10 3 d.toNat (by omega)
    simp [stT, List.flatMap]
    omega
end Go.Proofs.YtbogagddjkghhaaDoor.V
