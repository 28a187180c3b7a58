/-
  What MsgBytes answers, of the model and of the program: contracts. No statement is proved here.
-/
import Derived.Test.YtaegcdbgnjlbdaaMsgBytes
set_option linter.unusedVariables false
set_option maxRecDepth 100000
namespace Go.Proofs.Ytaegcdbgnjlbdaa.V
open Go.RowKit Go.Proofs.Ytaegcdbgnjlbdaa.B

def bytesR (q : Bool) (k v x a b : Int) (vs : List (Int × Int)) : List Int := if q then msgBytesL k v x a b vs vs.length else []

theorem ob_more {w : World} {t b b' : Nat} {A : Option Addr} {xs : List Int} (h : OB w t b A xs) (hb : b' ≤ b) : OB w t b' A xs := by
  rcases h with h | ⟨g, cur, h1, h2, h3⟩
  · exact .inl h
  · exact .inr ⟨g, cur, h1, by omega, h3⟩

theorem head_own1 (w : World) (k v x a b : Int) (vs : List (Int × Int)) :
    (w.alloc (.cells #[.int .u8 (k % 256), .int .u8 (v % 256), .int .u8 (x % 256), .int .u8 (a % 256), .int .u8 (b % 256), .int .u8 ((vs.length : Int) % 256)] 5)).ownsRow w.heap.size 5 1 (.slice (some ⟨w.heap.size, 0, none⟩) 6 6) 6 ((msgBytesL k v x a b vs 0).map (Value.int .u8)) := by
  have h := World.ownsRow_lit (e := 5) (base := w.heap.size) (size := 1) w #[.int .u8 (k % 256), .int .u8 (v % 256), .int .u8 (x % 256), .int .u8 (a % 256), .int .u8 (b % 256), .int .u8 ((vs.length : Int) % 256)] 6 (by simp) (by simp [maxLen]) rfl
  simpa [msgBytesL, headBytes, voteBytes] using h

set_option maxHeartbeats 1600000 in
theorem implMsgBytes_is (q : Bool) (k v x a b : Int) (A : Option Addr) (c : Nat) (vs : List (Int × Int)) (hq : msgOkB k v x a b vs = q) (w : World) (hr : Rd w w.heap.size A vs) (hn : vs.length ≤ 1048576) :
    Calls Try.prog 41 #[.agg #[.int .i64 k, .int .i64 v, .int .i64 x, .int .i64 a, .int .i64 b, .slice A vs.length c]] w (BRes (bytesR q k v x a b vs) q w) := by
  have HQ := Lib.hid hq; clear hq
  have hr0 := fun O => hr.up O
  have HR := Lib.hid hr0; clear hr0
  have hkm0 := Blk.new w 27 #[.int .i64 k, .int .i64 v, .int .i64 x, .int .i64 a, .int .i64 b, .slice A vs.length c]
  cases q
  · go_enter Try.func41, Try.ntmps41
    go_wp2_with fail
    refine (implMsgOk_is false k v x a b A c vs HQ.out _ (HR.out _) hn).mono ?_
    rintro e w1 ⟨rfl, hb1⟩
    have hB1 := on_ (up_ (Below.refl w.heap.size w) _) hb1
    go_wp2
    go_ret2
    exact ⟨none, 0, rfl, OB.nil_, hB1⟩
  obtain ⟨i0, hi0, hz0, hz1, hz2⟩ := info_parts infoB
  have hh := fun u => head_own1 u k v x a b vs
  have hcon := fun W h => implMsgOk_is true k v x a b A c vs HQ.out W h hn
  obtain ⟨n, hvn⟩ : ∃ n, vs.length = n := ⟨_, rfl⟩
  have hlast : bytesR true k v x a b vs = msgBytesL k v x a b vs n := by rw [← hvn]; rfl
  rw [hlast]; clear hlast
  have hlen : ∀ j, j ≤ n → (msgBytesL k v x a b vs j).length = 6 + 2 * j := fun j hj => msgBytesL_len k v x a b vs j (by omega)
  have HN := Lib.hid hlen; clear hlen
  have hst : ∀ j, j < n → msgBytesL k v x a b vs (j + 1) = msgBytesL k v x a b vs j ++ [(vs.getD j (0, 0)).1 % 256, (vs.getD j (0, 0)).2 % 256] := fun j hj => msgBytesL_step k v x a b vs j (by omega)
  have HST := Lib.hid hst; clear hst
  rw [hvn] at hn hh hkm0 hcon ⊢
  have HH := Lib.hid hh; clear hh
  have HCON := Lib.hid hcon; clear hcon
  have HV := Lib.hid hvn; clear hvn
  go_enter Try.func41, Try.ntmps41
  go_wp2_with fail
  refine (HCON.out _ (HR.out _)).mono ?_
  rintro e w1 ⟨rfl, hb1⟩
  have hB1 := on_ (up_ (Below.refl w.heap.size w) _) hb1
  have hk1 := hkm0.on hb1
  have hm1 := hk1.rule
  have hz1' := hk1.lt
  have hr1 := (HR.out _).on hb1
  clear hb1 hkm0 hr
  go_wp2
  go_loopw [4, 35] (fun out i wr => ∃ (j nn : Nat) (ys : List Value), j ≤ n ∧ i = .int .i64 j ∧ Hid (nn = 6 + 2 * j) ∧ Hid (ys = (msgBytesL k v x a b vs j).map (Value.int .u8)) ∧ wr.ownsRow w1.heap.size 5 1 out nn ys ∧ Below w1.heap.size w1 wr) (fun _ i _ => n - (intOf i).toNat)
  case atStart => exact ⟨0, 6, _, Nat.zero_le _, rfl, rfl, rfl, HH.out _, (Below.refl _ _).alloc (Nat.le_refl _) _⟩
  case round =>
    obtain ⟨j, nn, ys, hj, rfl, hnn, hys, hown, hbel⟩ := hrel
    have hzr : w1.heap.size ≤ wr.heap.size := hbel.size
    by_cases hlt : j < n
    · obtain ⟨bl, off, rfl, hb, hc0, hc1⟩ := Rd.at_ (hr1.below hbel) (k := j) (by rw [HV.out]; omega)
      clear hr1 hm1
      have hgt := HST.out j hlt
      obtain ⟨⟨va, vb⟩, hv⟩ : ∃ u, vs.getD j (0, 0) = u := ⟨_, rfl⟩
      rw [hv] at hc0 hc1 hgt
      clear hv
      have HGT := Lib.hid hgt; clear hgt
      have HNN : Hid (nn + 2 = 6 + 2 * (j + 1)) := by have := hnn.out; show _ = _; omega
      have HYS : Hid (ys ++ [.int .u8 (va % 256), .int .u8 (vb % 256)] = (msgBytesL k v x a b vs (j + 1)).map (Value.int .u8)) := by
        show _ = _
        rw [HGT.out, List.map_append, ← hys.out]; rfl
      go_wp2_with (at_builtin; refine wpList_append_own _ rfl _ _ 22 rfl w1.heap.size 5 i0 (.int .u8 0) 1 1 Try.underlying22 hi0 hz0 hz1 hz2 rfl (by omega) u4 nn ys rfl ((hown.alloc _).alloc _) ⟨wr.heap.size + 1, 0, none⟩ 2 2 [.int .u8 (va % 256), .int .u8 (vb % 256)] rfl rfl ?c1 ?c2 ?c3 ?c4 ?c5 ?_)
      case c2 => simp [Value.oneCell']
      case c3 => have := hnn.out; simp only [maxLen]; omega
      case c4 => have := hnn.out; omega
      case c5 => first | omega | (simp; omega)
      intro v' w2 hown1 hgrow _
      go_wp2
      go_roundw
      case rel =>
        refine ⟨j + 1, nn + 2, _, by omega, by go_num, HNN, HYS, hown1, ?_⟩
        exact ((hbel.alloc hzr _).alloc (by simp; omega) _).grown hgrow (by simp; omega) (fun k hk => (hown.lt k hk).1)
      case measure => simp [intOf]; omega
    · go_wp2
      go_ret2
      have hjn : j = n := by omega
      subst hjn
      obtain ⟨B, d, h1, h2, h3⟩ := bres_of (w := w) hown (by have := hB1.size; omega) hys.out (by have := hnn.out; omega) (on_ hB1 hbel)
      exact ⟨B, d, by rw [← h1]; rfl, h2, h3⟩
end Go.Proofs.Ytaegcdbgnjlbdaa.V
