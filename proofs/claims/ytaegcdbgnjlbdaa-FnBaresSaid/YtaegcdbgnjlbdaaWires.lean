/-
  The helper 'wires' of the laws: its contract. No statement is proved here.
-/
import Derived.Test.YtaegcdbgnjlbdaaDrawVotes
import Derived.Test.YtaegcdbgnjlbdaaRead4
import Derived.Test.YtaegcdbgnjlbdaaMsgBytes2
set_option linter.unusedVariables false
set_option maxRecDepth 100000
namespace Go.Proofs.Ytaegcdbgnjlbdaa.V
open Go.RowKit Go.Proofs.Ytaegcdbgnjlbdaa.B
/-- The bytes of a message, of the call's own, and its room. -/
def BResC (xs : List Int) (w : World) (e : Ending) (w' : World) : Prop :=
  ∃ B d, e = .returned (.tuple #[.slice B xs.length d, .bool true]) ∧ xs.length ≤ d ∧ OB w' 5 w.heap.size B xs ∧ Below w.heap.size w w'
set_option maxHeartbeats 1600000 in
theorem implMsgBytes_cap (k v x a b : Int) (A : Option Addr) (c : Nat) (vs : List (Int × Int)) (hq : msgOkB k v x a b vs = true) (w : World) (hr : Rd w w.heap.size A vs) (hn : vs.length ≤ 1048576) :
    Calls Try.prog 41 #[.agg #[.int .i64 k, .int .i64 v, .int .i64 x, .int .i64 a, .int .i64 b, .slice A vs.length c]] w (BResC (bytesR true k v x a b vs) w) := by
  have HQ := Lib.hid hq; clear hq
  have hr0 := fun O => hr.up O
  have HR := Lib.hid hr0; clear hr0
  have hkm0 := Blk.new w 27 #[.int .i64 k, .int .i64 v, .int .i64 x, .int .i64 a, .int .i64 b, .slice A vs.length c]
  obtain ⟨i0, hi0, hz0, hz1, hz2⟩ := info_parts infoB
  have hh := fun u => head_own1 u k v x a b vs
  have hcon := fun W h => implMsgOk_is true k v x a b A c vs HQ.out W h hn
  obtain ⟨n, hvn⟩ : ∃ n, vs.length = n := ⟨_, rfl⟩
  have hlast : bytesR true k v x a b vs = msgBytesL k v x a b vs n := by rw [← hvn]; rfl
  rw [hlast]; clear hlast
  have hlen : ∀ j, j ≤ n → (msgBytesL k v x a b vs j).length = 6 + 2 * j := fun j hj => msgBytesL_len k v x a b vs j (by omega)
  have HN := Lib.hid hlen; clear hlen
  have hst : ∀ j, j < n → msgBytesL k v x a b vs (j + 1) = msgBytesL k v x a b vs j ++ [(vs.getD j (0, 0)).1 % 256, (vs.getD j (0, 0)).2 % 256] := fun j hj => msgBytesL_step k v x a b vs j (by omega)
  have HST := Lib.hid hst; clear hst
  rw [hvn] at hn hh hkm0 hcon ⊢
  have HH := Lib.hid hh; clear hh
  have HCON := Lib.hid hcon; clear hcon
  have HV := Lib.hid hvn; clear hvn
  go_enter Try.func41, Try.ntmps41
  go_wp2_with fail
  refine (HCON.out _ (HR.out _)).mono ?_
  rintro e w1 ⟨rfl, hb1⟩
  have hB1 := on_ (up_ (Below.refl w.heap.size w) _) hb1
  have hk1 := hkm0.on hb1
  have hm1 := hk1.rule
  have hz1' := hk1.lt
  have hr1 := (HR.out _).on hb1
  clear hb1 hkm0 hr
  go_wp2
  go_loopw [4, 35] (fun out i wr => ∃ (j nn : Nat) (ys : List Value), j ≤ n ∧ i = .int .i64 j ∧ Hid (nn = 6 + 2 * j) ∧ Hid (ys = (msgBytesL k v x a b vs j).map (Value.int .u8)) ∧ wr.ownsRow w1.heap.size 5 1 out nn ys ∧ Below w1.heap.size w1 wr) (fun _ i _ => n - (intOf i).toNat)
  case atStart => exact ⟨0, 6, _, Nat.zero_le _, rfl, rfl, rfl, HH.out _, (Below.refl _ _).alloc (Nat.le_refl _) _⟩
  case round =>
    obtain ⟨j, nn, ys, hj, rfl, hnn, hys, hown, hbel⟩ := hrel
    have hzr : w1.heap.size ≤ wr.heap.size := hbel.size
    by_cases hlt : j < n
    · obtain ⟨bl, off, rfl, hb, hc0, hc1⟩ := Rd.at_ (hr1.below hbel) (k := j) (by rw [HV.out]; omega)
      clear hr1 hm1
      have hgt := HST.out j hlt
      obtain ⟨⟨va, vb⟩, hv⟩ : ∃ u, vs.getD j (0, 0) = u := ⟨_, rfl⟩
      rw [hv] at hc0 hc1 hgt
      clear hv
      have HGT := Lib.hid hgt; clear hgt
      have HNN : Hid (nn + 2 = 6 + 2 * (j + 1)) := by have := hnn.out; show _ = _; omega
      have HYS : Hid (ys ++ [.int .u8 (va % 256), .int .u8 (vb % 256)] = (msgBytesL k v x a b vs (j + 1)).map (Value.int .u8)) := by
        show _ = _
        rw [HGT.out, List.map_append, ← hys.out]; rfl
      go_wp2_with (at_builtin; refine wpList_append_own _ rfl _ _ 22 rfl w1.heap.size 5 i0 (.int .u8 0) 1 1 Try.underlying22 hi0 hz0 hz1 hz2 rfl (by omega) u4 nn ys rfl ((hown.alloc _).alloc _) ⟨wr.heap.size + 1, 0, none⟩ 2 2 [.int .u8 (va % 256), .int .u8 (vb % 256)] rfl rfl ?c1 ?c2 ?c3 ?c4 ?c5 ?_)
      case c2 => simp [Value.oneCell']
      case c3 => have := hnn.out; simp only [maxLen]; omega
      case c4 => have := hnn.out; omega
      case c5 => first | omega | (simp; omega)
      intro v' w2 hown1 hgrow _
      go_wp2
      go_roundw
      case rel =>
        refine ⟨j + 1, nn + 2, _, by omega, by go_num, HNN, HYS, hown1, ?_⟩
        exact ((hbel.alloc hzr _).alloc (by simp; omega) _).grown hgrow (by simp; omega) (fun k hk => (hown.lt k hk).1)
      case measure => simp [intOf]; omega
    · go_wp2
      go_ret2
      have hjn : j = n := by omega
      subst hjn
      obtain ⟨B, d, h1, h2, h3⟩ := bres_of (w := w) hown (by have := hB1.size; omega) hys.out (by have := hnn.out; omega) (on_ hB1 hbel)
      obtain ⟨A3, c3, h4, h5⟩ := form2 hown
      have h6 := h4.symm.trans h1
      injection h6 with _ h6 h7
      exact ⟨B, d, by rw [← h1]; rfl, by rw [← h6, ← h7]; exact h5, h2, h3⟩

theorem size4 (w : World) : Calls Try.prog 47 #[.int .i64 4] w fun e w' => e = .returned (.bool true) ∧ w' = w := by
  go_enter Try.func47, Try.ntmps47
  go_wp2
  go_ret
  exact ⟨rfl, rfl⟩
theorem faults4 (w : World) : Calls Try.prog 67 #[.int .i64 4] w fun e w' => e = .returned (.int .i64 1) ∧ w' = w := by
  go_enter Try.func67, Try.ntmps67
  go_wp2_with (go_at_call 47; refine (size4 _).mono ?_; rintro e w0 ⟨rfl, rfl⟩)
  go_ret
  exact ⟨rfl, rfl⟩
theorem weak4 (w : World) : Calls Try.prog 43 #[.int .i64 4] w fun e w' => e = .returned (.int .i64 2) ∧ w' = w := by
  have hW : IntKind.i64.wrap 2 = 2 := IntWalk.i64_in _ (by omega)
  go_enter Try.func43, Try.ntmps43
  go_wp2_with (first | (go_at_call 47; refine (size4 _).mono ?_; rintro e w0 ⟨rfl, rfl⟩) | (go_at_call 67; refine (faults4 _).mono ?_; rintro e w0 ⟨rfl, rfl⟩))
  go_ret
  exact ⟨by simp, rfl⟩
theorem wires_any (w : World) : Calls Try.prog 11 #[] w fun e w' => e = .returned (.bool true) ∧ Below w.heap.size w w' := by
  have hxs : bytesR true 1 1 3 0 0 [] = [1, 1, 3, 0, 0, 0] := by decide
  have hgood : Go.Proofs.Ytaegcdbgnjlbdaa.V.Good [1, 1, 3, 0, 0, 0] := ⟨1, 1, 3, 0, 0, [], by decide, by decide⟩
  have henc : ∀ k v x a b us, ([1, 1, 3, 0, 0, 0] : List Int) = enc k v x a b us → x = 3 := fun k v x a b us h => by
    simp only [enc, List.cons.injEq] at h
    exact h.2.2.1.symm
  go_enter Try.func11, Try.ntmps11
  go_wp2_with fail
  refine (implMsgBytes_cap 1 1 3 0 0 none 0 [] (by decide) w Rd.nil_ (by simp)).mono ?_
  rintro e w1 ⟨B, d, rfl, hcap, hob, hb1⟩
  rw [hxs] at hcap hob ⊢
  go_wp2_with fail
  refine (implRead_is B 6 d [1, 1, 3, 0, 0, 0] (by intro x hx; simp at hx; omega) (by decide) (by decide) hcap w1 hob.rd).mono ?_
  rintro e w2 (⟨k, v, x, a, b, us, he, hq, B2, d2, rfl, hov, hb2⟩ | ⟨hng, _⟩)
  · have hx := henc k v x a b us he
    subst hx
    clear he hq hgood henc hxs
    go_wp2_with (go_at_call 43; refine (weak4 _).mono ?_; rintro e w0 ⟨rfl, rfl⟩)
    go_ret
    exact ⟨rfl, up_ (on_ hb1 hb2) _⟩
  · exact absurd hgood hng

end Go.Proofs.Ytaegcdbgnjlbdaa.V
