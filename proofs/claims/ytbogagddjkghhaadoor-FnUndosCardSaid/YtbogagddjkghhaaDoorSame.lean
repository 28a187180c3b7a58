/-
  'same' of the laws, for two rows of bytes that read alike. No statement is proved here.
-/
import Derived.Test.YtbogagddjkghhaaDoorTxK
import Derived.Laws.BytesArg
set_option linter.unusedVariables false
set_option maxRecDepth 100000
namespace Go.Proofs.YtbogagddjkghhaaDoor.V
open Go.RowKit Go.Proofs.YtbogagddjkghhaaDoor.B
theorem conv_row (w : World) (g cap : Nat) (bs : List Int) (h : CRow w g cap bs.length (u8s bs)) : (convert 22 9 (.slice (some ⟨g, 0, none⟩) bs.length cap)).run Tryd.prog w = .ok (.string (strOfNums bs)) w :=
  run_convert_bytes_arg w 22 5 (by kernel_rfl) (by kernel_rfl) g 0 bs.length cap bs rfl (fun i hi => by rw [Nat.zero_add]; exact (h.cell i hi).trans (u8s_at hi)) 9 (by kernel_rfl)
theorem same_any (g h cap cup : Nat) (bs : List Int) (w : World) (h1 : CRow w g cap bs.length (u8s bs)) (h2 : CRow w h cup bs.length (u8s bs)) :
    Calls Tryd.prog 18 #[.slice (some ⟨g, 0, none⟩) bs.length cap, .slice (some ⟨h, 0, none⟩) bs.length cup] w fun e w' => e = .returned (.bool true) ∧ Below w.heap.size w w' := by
  have k1 := conv_row w g cap bs h1
  have k2 := conv_row w h cup bs h2
  generalize strOfNums bs = s at *
  go_enter Tryd.func18, Tryd.ntmps18
  go_wp2
  go_ret
  exact ⟨by simp, Below.refl _ _⟩
end Go.Proofs.YtbogagddjkghhaaDoor.V
