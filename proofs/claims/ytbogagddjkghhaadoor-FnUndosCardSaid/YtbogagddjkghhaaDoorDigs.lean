/-
  The model's decimal digits of any number up to 9999, as a row of the call's own. No statement is proved here.
-/
import Derived.Test.YtbogagddjkghhaaDoorCmdT
import Derived.Lib.ItoaNum
set_option linter.unusedVariables false
set_option maxRecDepth 100000
namespace Go.Proofs.YtbogagddjkghhaaDoor.V
open Go.RowKit Go.Proofs.YtbogagddjkghhaaDoor.B
def digs (n : Nat) : List Int := (Lib.decDigits n).map fun b => (b.toNat : Int)
theorem digs_low {n : Nat} (h : n < 10) : digs n = [48 + (n : Int)] := by
  unfold digs
  rw [Lib.decDigits, dif_pos h]
  simp
  omega
theorem digs_high {n : Nat} (h : ¬ n < 10) : digs n = digs (n / 10) ++ [48 + ((n % 10 : Nat) : Int)] := by
  unfold digs
  rw [Lib.decDigits, dif_neg h]
  simp
  omega
theorem digs_len (n : Nat) : 0 < (digs n).length ∧ (digs n).length ≤ n + 1 := by
  induction n using Nat.strongRecOn with
  | _ n ih =>
    by_cases h : n < 10
    · rw [digs_low h]; simp
    · rw [digs_high h, List.length_append]
      have := ih (n / 10) (by omega)
      simp
      omega
set_option maxHeartbeats 1600000 in
theorem digs_any (n : Nat) : n ≤ 9999 → ∀ w : World, Calls Tryd.prog 78 #[.int .i64 n] w (TX (digs n) w) := by
  induction n using Nat.strongRecOn with
  | _ n ih =>
    intro hn w
    by_cases h : n < 10
    · refine (digit_any n h w).mono ?_
      rintro e w1 ⟨rfl, rfl⟩
      rw [digs_low h]
      refine ⟨w.heap.size, 1, rfl, Nat.le_refl _, ?_, up_ (Below.refl _ _) _⟩
      exact CRow.new w #[.int .u8 (48 + (n : Int))] 5 0 0 (.inl (Nat.le_refl _)) rfl rfl (Nat.le_refl _) (by decide) (fun j hj => by match j, hj with | 0, _ => rfl)
    · have h0 : ¬ (n : Int) < 10 := by omega
      have hd := fun W => ih (n / 10) (by omega) (by omega) W
      have hc : ((n / 10 : Nat) : Int) = (n : Int) / 10 := by omega
      rw [hc] at hd
      have HD := Lib.hid hd; clear hd ih
      obtain ⟨bs, hbs⟩ : ∃ bs, digs (n / 10) = bs := ⟨_, rfl⟩
      have hlen := digs_len (n / 10)
      rw [hbs] at HD hlen
      have HH := Lib.hid (digs_high h)
      obtain ⟨r, hr⟩ : ∃ r : Nat, n % 10 = r := ⟨_, rfl⟩
      have hr2 : (n : Int) % 10 = (r : Int) := by omega
      rw [hr, hbs] at HH
      obtain ⟨i0, hi0, hz0, hz1, hz2⟩ := info_parts infoB8
      have hr9 : r < 10 := by omega
      have hw1 : IntKind.u8.wrap (48 + (r : Int)) = 48 + (r : Int) := IntWalk.u8_in _ (by omega)
      have hq : Int.tdiv (n : Int) 10 = (n : Int) / 10 := Int.tdiv_eq_ediv_of_nonneg (by omega)
      have hm : Int.tmod (n : Int) 10 = (r : Int) := by rw [Int.tmod_eq_emod_of_nonneg (by omega)]; exact hr2
      clear hbs hr hc
      go_enter Tryd.func78, Tryd.ntmps78
      go_wp2_with fail
      refine (HD.out _).mono ?_
      rintro e w1 ⟨g, cap, rfl, hg, hc, hb1⟩
      have hc2 := Lib.hid (hc.on ((Below.refl _ _).alloc (Nat.le_refl _) (.cells #[.int .u8 (48 + (r : Int))] 5)))
      have hl2 := Lib.hid (read1 w1 (.int .u8 (48 + (r : Int))) w1.heap.size rfl)
      have hB2 := up_ hb1 (.cells #[.int .u8 (48 + (r : Int))] 5)
      have hz9 := hB2.size
      clear hc hb1
      go_wp2_with (at_builtin; refine wpList_append_row rfl (.tmp 11) (.tmp 16) 22 5 i0 _ Tryd.underlying22 hi0 hz0 hz1 hz2 rfl rfl (by exact hc2.out) rfl rfl (by exact hl2.out) (by simp [Value.oneCell']) (by omega) ?_; intro g3 cap3 w3 hc3 hg3 hw3)
      go_ret
      refine ⟨g3, cap3, by rw [HH.out, List.length_append]; rfl, hw3.elim (fun e => by omega) (fun e => by rw [e]; exact hz9), ?_, growB hg3 hB2 hg⟩
      rw [HH.out, ← u8s_app, List.length_append]
      exact hc3
end Go.Proofs.YtbogagddjkghhaaDoor.V
