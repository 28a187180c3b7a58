/-
  Marks on a row of numbers, and what else stays. No statement is proved here.
-/
import Derived.Test.YtfebeafonifpdaaStL
set_option linter.unusedVariables false
set_option maxRecDepth 100000
namespace Go.Proofs.Ytfebeafonifpdaa.V
open Go.RowKit Go.Proofs.Ytfebeafonifpdaa.B
theorem MI.keep {w w' : World} {t base n : Nat} {A : Option Addr} {k : Int} {row : Option Nat} (h : MI w t base A n k) (hgr : w.grownBy w' row) (hne : ∀ g', A = some ⟨g', 0, none⟩ → row ≠ some g') : MI w' t base A n k := by
  rcases h with h | ⟨g, cur, rfl, hg, hk, hp⟩
  · exact .inl h
  · exact .inr ⟨g, cur, rfl, hg, (hgr.block g hk.lt (fun e => hne g rfl e.symm)).trans hk, hp⟩
theorem MI.lt7 {w : World} {t base n : Nat} {A : Option Addr} {k : Int} (h : MI w t base A n k) : True := trivial
theorem markI_grow (m : Int) (A : Option Addr) (c t base : Nat) (us : List Int) (w : World) (h : OI w t base A us) (hn : us.length ≤ 1048576) (h0 : 0 ≤ m) (h1 : m ≤ 16777216) :
    Calls Try.prog 50 #[.slice A us.length c, .int .i64 m] w fun e w' =>
      e = .returned (.int .i64 (m + us.length)) ∧ MI w' t base A us.length m ∧ ∃ row, (∀ g, row = some g → A = some ⟨g, 0, none⟩) ∧ w.grownBy w' row := by
  rcases h with ⟨rfl, rfl⟩ | ⟨g, cur, rfl, hg, hb, hp⟩
  · refine (markI_nil none c m w).mono ?_
    rintro e w' ⟨rfl, rfl⟩
    exact ⟨by simp, .inl rfl, none, by simp, World.grownBy.refl w _⟩
  · refine (markI_any g us.length c t cur m w hb hp.1 (by omega) h0 h1).mono ?_
    rintro e w' ⟨rfl, ds, hd, _, hm, hgr⟩
    exact ⟨rfl, .inr ⟨g, ds, rfl, hg, hd, hm⟩, some g, by simp, hgr⟩
end Go.Proofs.Ytfebeafonifpdaa.V
