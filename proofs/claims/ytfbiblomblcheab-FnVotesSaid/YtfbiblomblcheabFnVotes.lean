/-
  Proved here: for whatever bytes of a draw, the law FnVotes of votes answers true. No condition.
-/
import Derived.Test.YtfbiblomblcheabRows
import Derived.Test.YtfbiblomblcheabDrawVotes
import Derived.Test.YtfbiblomblcheabRead4
import Derived.Test.YtfbiblomblcheabMsgBytes2
import Derived.Test.YtfbiblomblcheabLift
set_option linter.unusedVariables false
set_option maxRecDepth 100000
namespace Go.Proofs.Ytfbiblomblcheab.fnVotes
open Go.RowKit Go.ChangeShapes Go.WideShapes Go.Proofs.Ytfbiblomblcheab.B Go.Proofs.Ytfbiblomblcheab.V
/-- The bytes of a message, of the call's own, and its room. -/
def BResC (xs : List Int) (w : World) (e : Ending) (w' : World) : Prop :=
  ∃ B d, e = .returned (.tuple #[.slice B xs.length d, .bool true]) ∧ xs.length ≤ d ∧ OB w' 5 w.heap.size B xs ∧ Below w.heap.size w w'
set_option maxHeartbeats 1600000 in
theorem implMsgBytes_cap (k v x a b : Int) (A : Option Addr) (c : Nat) (vs : List (Int × Int)) (hq : msgOkB k v x a b vs = true) (w : World) (hr : Rd w w.heap.size A vs) (hn : vs.length ≤ 1048576) :
    Calls Try.prog 29 #[.agg #[.int .i64 k, .int .i64 v, .int .i64 x, .int .i64 a, .int .i64 b, .slice A vs.length c]] w (BResC (bytesR true k v x a b vs) w) := by
  have HQ := Lib.hid hq; clear hq
  have hr0 := fun O => hr.up O
  have HR := Lib.hid hr0; clear hr0
  have hkm0 := Blk.new w 43 #[.int .i64 k, .int .i64 v, .int .i64 x, .int .i64 a, .int .i64 b, .slice A vs.length c]
  obtain ⟨i0, hi0, hz0, hz1, hz2⟩ := info_parts infoB
  have hh := fun u => head_own1 u k v x a b vs
  have hcon := fun W h => implMsgOk_is true k v x a b A c vs HQ.out W h hn
  obtain ⟨n, hvn⟩ : ∃ n, vs.length = n := ⟨_, rfl⟩
  have hlast : bytesR true k v x a b vs = msgBytesL k v x a b vs n := by rw [← hvn]; rfl
  rw [hlast]; clear hlast
  have hlen : ∀ j, j ≤ n → (msgBytesL k v x a b vs j).length = 6 + 2 * j := fun j hj => msgBytesL_len k v x a b vs j (by omega)
  have HN := Lib.hid hlen; clear hlen
  have hst : ∀ j, j < n → msgBytesL k v x a b vs (j + 1) = msgBytesL k v x a b vs j ++ [(vs.getD j (0, 0)).1 % 256, (vs.getD j (0, 0)).2 % 256] := fun j hj => msgBytesL_step k v x a b vs j (by omega)
  have HST := Lib.hid hst; clear hst
  rw [hvn] at hn hh hkm0 hcon ⊢
  have HH := Lib.hid hh; clear hh
  have HCON := Lib.hid hcon; clear hcon
  have HV := Lib.hid hvn; clear hvn
  go_enter Try.func29, Try.ntmps29
  go_wp2_with fail
  refine (HCON.out _ (HR.out _)).mono ?_
  rintro e w1 ⟨rfl, hb1⟩
  have hB1 := on_ (up_ (Below.refl w.heap.size w) _) hb1
  have hk1 := hkm0.on hb1
  have hm1 := hk1.rule
  have hz1' := hk1.lt
  have hr1 := (HR.out _).on hb1
  clear hb1 hkm0 hr
  go_wp2
  go_loopw [4, 35] (fun out i wr => ∃ (j nn : Nat) (ys : List Value), j ≤ n ∧ i = .int .i64 j ∧ Hid (nn = 6 + 2 * j) ∧ Hid (ys = (msgBytesL k v x a b vs j).map (Value.int .u8)) ∧ wr.ownsRow w1.heap.size 5 1 out nn ys ∧ Below w1.heap.size w1 wr) (fun _ i _ => n - (intOf i).toNat)
  case atStart => exact ⟨0, 6, _, Nat.zero_le _, rfl, rfl, rfl, HH.out _, (Below.refl _ _).alloc (Nat.le_refl _) _⟩
  case round =>
    obtain ⟨j, nn, ys, hj, rfl, hnn, hys, hown, hbel⟩ := hrel
    have hzr : w1.heap.size ≤ wr.heap.size := hbel.size
    by_cases hlt : j < n
    · obtain ⟨bl, off, rfl, hb, hc0, hc1⟩ := Rd.at_ (hr1.below hbel) (k := j) (by rw [HV.out]; omega)
      clear hr1 hm1
      have hgt := HST.out j hlt
      obtain ⟨⟨va, vb⟩, hv⟩ : ∃ u, vs.getD j (0, 0) = u := ⟨_, rfl⟩
      rw [hv] at hc0 hc1 hgt
      clear hv
      have HGT := Lib.hid hgt; clear hgt
      have HNN : Hid (nn + 2 = 6 + 2 * (j + 1)) := by have := hnn.out; show _ = _; omega
      have HYS : Hid (ys ++ [.int .u8 (va % 256), .int .u8 (vb % 256)] = (msgBytesL k v x a b vs (j + 1)).map (Value.int .u8)) := by
        show _ = _
        rw [HGT.out, List.map_append, ← hys.out]; rfl
      go_wp2_with (at_builtin; refine wpList_append_own _ rfl _ _ 22 rfl w1.heap.size 5 i0 (.int .u8 0) 1 1 Try.underlying22 hi0 hz0 hz1 hz2 rfl (by omega) u4 nn ys rfl ((hown.alloc _).alloc _) ⟨wr.heap.size + 1, 0, none⟩ 2 2 [.int .u8 (va % 256), .int .u8 (vb % 256)] rfl rfl ?c1 ?c2 ?c3 ?c4 ?c5 ?_)
      case c2 => simp [Value.oneCell']
      case c3 => have := hnn.out; simp only [maxLen]; omega
      case c4 => have := hnn.out; omega
      case c5 => first | omega | (simp; omega)
      intro v' w2 hown1 hgrow _
      go_wp2
      go_roundw
      case rel =>
        refine ⟨j + 1, nn + 2, _, by omega, by go_num, HNN, HYS, hown1, ?_⟩
        exact ((hbel.alloc hzr _).alloc (by simp; omega) _).grown hgrow (by simp; omega) (fun k hk => (hown.lt k hk).1)
      case measure => simp [intOf]; omega
    · go_wp2
      go_ret2
      have hjn : j = n := by omega
      subst hjn
      obtain ⟨B, d, h1, h2, h3⟩ := bres_of (w := w) hown (by have := hB1.size; omega) hys.out (by have := hnn.out; omega) (on_ hB1 hbel)
      obtain ⟨A3, c3, h4, h5⟩ := form2 hown
      have h6 := h4.symm.trans h1
      injection h6 with _ h6 h7
      exact ⟨B, d, by rw [← h1]; rfl, by rw [← h6, ← h7]; exact h5, h2, h3⟩

theorem size4 (w : World) : Calls Try.prog 67 #[.int .i64 4] w fun e w' => e = .returned (.bool true) ∧ w' = w := by
  go_enter Try.func67, Try.ntmps67
  go_wp2
  go_ret
  exact ⟨rfl, rfl⟩
theorem faults4 (w : World) : Calls Try.prog 68 #[.int .i64 4] w fun e w' => e = .returned (.int .i64 1) ∧ w' = w := by
  go_enter Try.func68, Try.ntmps68
  go_wp2_with (go_at_call 67; refine (size4 _).mono ?_; rintro e w0 ⟨rfl, rfl⟩)
  go_ret
  exact ⟨rfl, rfl⟩
theorem weak4 (w : World) : Calls Try.prog 55 #[.int .i64 4] w fun e w' => e = .returned (.int .i64 2) ∧ w' = w := by
  have hW : IntKind.i64.wrap 2 = 2 := IntWalk.i64_in _ (by omega)
  go_enter Try.func55, Try.ntmps55
  go_wp2_with (first | (go_at_call 67; refine (size4 _).mono ?_; rintro e w0 ⟨rfl, rfl⟩) | (go_at_call 68; refine (faults4 _).mono ?_; rintro e w0 ⟨rfl, rfl⟩))
  go_ret
  exact ⟨by simp, rfl⟩
theorem wires_any (w : World) : Calls Try.prog 16 #[] w fun e w' => e = .returned (.bool true) ∧ Below w.heap.size w w' := by
  have hxs : bytesR true 1 1 3 0 0 [] = [1, 1, 3, 0, 0, 0] := by decide
  have hgood : Go.Proofs.Ytfbiblomblcheab.V.Good [1, 1, 3, 0, 0, 0] := ⟨1, 1, 3, 0, 0, [], by decide, by decide⟩
  have henc : ∀ k v x a b us, ([1, 1, 3, 0, 0, 0] : List Int) = enc k v x a b us → x = 3 := fun k v x a b us h => by
    simp only [enc, List.cons.injEq] at h
    exact h.2.2.1.symm
  go_enter Try.func16, Try.ntmps16
  go_wp2_with fail
  refine (implMsgBytes_cap 1 1 3 0 0 none 0 [] (by decide) w Rd.nil_ (by simp)).mono ?_
  rintro e w1 ⟨B, d, rfl, hcap, hob, hb1⟩
  rw [hxs] at hcap hob ⊢
  go_wp2_with fail
  refine (implRead_is B 6 d [1, 1, 3, 0, 0, 0] (by intro x hx; simp at hx; omega) (by decide) (by decide) hcap w1 hob.rd).mono ?_
  rintro e w2 (⟨k, v, x, a, b, us, he, hq, B2, d2, rfl, hov, hb2⟩ | ⟨hng, _⟩)
  · have hx := henc k v x a b us he
    subst hx
    clear he hq hgood henc hxs
    go_wp2_with (go_at_call 55; refine (weak4 _).mono ?_; rintro e w0 ⟨rfl, rfl⟩)
    go_ret
    exact ⟨rfl, up_ (on_ hb1 hb2) _⟩
  · exact absurd hgood hng

theorem take_ok {us : List (Int × Int)} {n : Int} (h : votesOkB us n = true) (i : Nat) (hi : i ≤ us.length) : votesOkB (us.take i) n = true := by
  refine votesOk_yes fun j hj => ?_
  rw [List.length_take] at hj
  have hg := List.all_eq_true.1 h j (List.mem_range.2 (by omega))
  have e : ∀ k, k < i → (us.take i).getD k (0, 0) = us.getD k (0, 0) := fun k hk => by
    simp only [List.getD]
    rw [List.getElem?_take_of_lt hk]
  unfold goodAt at hg ⊢
  rw [e j (by omega)]
  by_cases h0 : j = 0
  · subst h0; simpa using hg
  · rw [e (j - 1) (by omega)]; exact hg
theorem vote_at {us : List (Int × Int)} {n : Int} (h : votesOkB us n = true) (i : Nat) (hi : i < us.length) : valOkB (us.getD i (0, 0)).2 = true ∧ (us.getD i (0, 0)).1 < n ∧ (0 < i → (us.getD (i - 1) (0, 0)).1 < (us.getD i (0, 0)).1) := by
  have hg := List.all_eq_true.1 h i (List.mem_range.2 hi)
  unfold goodAt at hg
  simp only [Bool.and_eq_true, Bool.or_eq_true, decide_eq_true_eq] at hg
  obtain ⟨⟨⟨_, h2⟩, h3⟩, h4⟩ := hg
  exact ⟨h2, h3, fun h0 => by
    rcases h4 with h4 | h4
    · omega
    · exact h4⟩
set_option maxHeartbeats 3200000 in
theorem walk (A : Option Addr) (n c : Nat) (hm : n ≤ maxLen) (w : World) (hr : RdC w w.heap.size A n) :
    Calls Try.prog 3 #[.slice A n c] w fun e w' => e = .returned (.bool true) ∧ Below w.heap.size w w' := by
  go_enter Try.func3, Try.ntmps3
  go_wp2_with fail
  refine (drawVotes_any A n c hm w hr).mono ?_
  rintro e w1 ⟨B, d, us, m, rfl, hcap, hul, hm5, hrd, hb1⟩
  have hok := fun W (h : Rd W W.heap.size B us) => implVotesOk_any B d us (m : Int) W h (by omega)
  rcases hq : votesOkB us (m : Int) with _ | _
  · rw [hq] at hok
    go_wp2_with fail
    refine (hok w1 hrd).mono ?_
    rintro e w2 ⟨rfl, hb2⟩
    go_wp2_with (first | (go_at_call 16; refine (wires_any _).mono ?_; rintro e w3 ⟨rfl, hb3⟩) | (go_at_call 17; refine (implVal_is 0 false (by decide) _).mono ?_; rintro e w4 ⟨rfl, rfl⟩))
    go_ret
    exact ⟨rfl, on_ (on_ hb1 hb2) hb3⟩
  · rw [hq] at hok
    have htk := take_ok hq
    have hva := vote_at hq
    obtain ⟨len, hlen⟩ : ∃ len, us.length = len := ⟨_, rfl⟩
    rw [hlen] at hok htk hva hcap hul ⊢
    have HTK := Lib.hid htk; clear htk
    have HVA := Lib.hid hva; clear hva hq
    have HOK := Lib.hid hok; clear hok
    have HLEN := Lib.hid hlen; clear hlen
    go_wp2_with fail
    refine (HOK.out w1 hrd).mono ?_
    rintro e w2 ⟨rfl, hb2⟩
    have hB2 := on_ hb1 hb2
    have hr2 := hrd.on hb2
    clear hb1 hb2 hrd
    go_wp2
    go_loopw [6] (fun i wr => ∃ (k : Nat), k ≤ len ∧ i = .int .i64 k ∧ Below w2.heap.size w2 wr) (fun i _ => len - (intOf i).toNat)
    case atStart => exact ⟨0, Nat.zero_le _, rfl, Below.refl _ _⟩
    case round =>
      obtain ⟨k, hk, rfl, hbel⟩ := hrel
      by_cases hlt : k < len
      · have hrr := hr2.on hbel
        have htk := Rd.take_ hrr k (by rw [HLEN.out]; omega)
        obtain ⟨b, off, rfl, hb, hc0, hc1⟩ := Rd.at_ hrr (k := k) (by rw [HLEN.out]; omega)
        have hcp : 0 < k → wr.cell? ⟨b, off + (k - 1) * 2, none⟩ = some (.int .i64 (us.getD (k - 1) (0, 0)).1) := fun h0 => Rd.prev (n := 0) (c := 0) hrr (by rw [HLEN.out]; omega) h0
        obtain ⟨v1, v2, v3⟩ := HVA.out k hlt
        have hcall := fun W (h : Rd W W.heap.size (some ⟨b, off, none⟩) (us.take k)) => implVotesOk_any (some ⟨b, off, none⟩) d (us.take k) (m : Int) W h (by rw [List.length_take, HLEN.out]; omega)
        have htl : (us.take k).length = k := by rw [List.length_take, HLEN.out]; omega
        rw [htl, HTK.out k (by omega)] at hcall
        have HCALL := Lib.hid (hcall); clear hcall htl
        have HT := Lib.hid htk; clear htk hrr
        obtain ⟨⟨va, vb⟩, hv⟩ : ∃ v, us.getD k (0, 0) = v := ⟨_, rfl⟩
        obtain ⟨⟨pa, pb⟩, hp⟩ : ∃ v, us.getD (k - 1) (0, 0) = v := ⟨_, rfl⟩
        rw [hv] at hc0 hc1 v1 v2 v3
        rw [hp] at hcp v3
        clear hv hp
        simp only at hc0 hc1 hcp v1 v2 v3
        have a1 : (0 : Int) ≤ (k : Int) := by omega
        have a2 : (k : Int) < (len : Int) := by omega
        have a3 : (k : Int) ≤ (d : Int) := by omega
        have a4 : k ≤ d := by omega
        have hd1 : decide ((m : Int) ≤ va) = false := by simp; omega
        have V1 := Lib.hid v1; clear v1
        by_cases h0 : 0 < k
        · have hcq := hcp h0
          have v3' := v3 h0
          obtain ⟨k1, hk1⟩ : ∃ k1, k = k1 + 1 := ⟨k - 1, by omega⟩
          have hE : (k : Int) - 1 = (k1 : Int) := by omega
          have hW : IntKind.i64.wrap (k1 : Int) = (k1 : Int) := IntWalk.i64_in _ (by omega)
          rw [show k - 1 = k1 by omega] at hcq
          have a5 : (0 : Int) ≤ (k1 : Int) := by omega
          have a6 : (k1 : Int) < (len : Int) := by omega
          have a7 : k1 < len := by omega
          have hd2 : decide (va ≤ pa) = false := by simp; omega
          have hd3 : (0 : Int) < (k : Int) := by omega
          clear v3 v3' hcp
          have HK1 := Lib.hid hk1; clear hk1
          go_wp2
          have C0 := fun x : Lat wr => x.cell hc0
          have C1 := fun x : Lat wr => x.cell hc1
          have C2 := fun x : Lat wr => x.cell hcq
          refine wp_region_lat (by kernel_rfl) (by kernel_rfl) ?_
          repeat (go_big_quiet_step ((first | (go_at_call 15; exact lat_call _ (HCALL.out _ ((HT.out.below (Lat.below _)).more (Lat.below _).size))) | (go_at_call 17; exact lat_same _ (implVal_is _ true V1.out _)))))
          refine wpQuiet_nil ?_
          rintro w3 ⟨⟨_, hb3⟩, rfl⟩
          clear C0 C1 C2
          go_wp2
          go_roundw
          case rel => exact ⟨k + 1, by omega, by go_num, on_ hbel hb3⟩
          case measure => simp [intOf]; omega
        · have hd3 : decide ((0 : Int) < (k : Int)) = false := by simp; omega
          clear hcp v3
          go_wp2
          have C0 := fun x : Lat wr => x.cell hc0
          have C1 := fun x : Lat wr => x.cell hc1
          refine wp_region_lat (by kernel_rfl) (by kernel_rfl) ?_
          repeat (go_big_quiet_step ((first | (go_at_call 15; exact lat_call _ (HCALL.out _ ((HT.out.below (Lat.below _)).more (Lat.below _).size))) | (go_at_call 17; exact lat_same _ (implVal_is _ true V1.out _)))))
          refine wpQuiet_nil ?_
          rintro w3 ⟨⟨_, hb3⟩, rfl⟩
          clear C0 C1
          go_wp2
          go_roundw
          case rel => exact ⟨k + 1, by omega, by go_num, on_ hbel hb3⟩
          case measure => simp [intOf]; omega
      · have hf : decide ((k : Int) < (len : Int)) = false := by simp; omega
        go_wp2_with fail
        refine (wires_any _).mono ?_
        rintro e w3 ⟨rfl, hb3⟩
        go_wp2
        go_ret
        exact ⟨rfl, on_ (on_ hB2 hbel) hb3⟩

theorem own : ownKnob Try.prog.godebug = none := by kernel_rfl
theorem laidOut : laidOutB Try.prog = true := by kernel_rfl

set_option maxRecDepth 100000 in
theorem lifted (os : Os) (started : os.Started) (H : Type) (enc : TypeId × Value → H) :
    ReturnsInHanded {} Try.checked os 3 .any (Rows.fnVotesSpec.pre6 enc Try.prog Try.f3 Rows.fnVotesRow.domain false) (Rows.fnVotesSpec.post enc Try.prog Try.f3 false true false false) := by
  refine returnsInHanded_of_change (C := Try.checked) own started (by kernel_rfl) Try.func3
    (ChangeSpec.witness6 (enc := enc) (C := Try.checked) false ⟨#[], #[.slice none 0 0], []⟩ 8 (by kernel_rfl) (by kernel_rfl) (by kernel_rfl) (by kernel_rfl)) ?_
  intro W base args ds gs before hval0 hW hcnd _
  have hval : ∀ (j : Nat) t v, Try.f3.params[j]? = some t → args[j]? = some v → Value.okWide Try.prog W .any base t v := hval0
  have hW' := hW
  obtain ⟨p, q, hA0, hV, rfl, hfz, hnd⟩ := hW
  have hA : DataW.TrodAll enc Try.prog W 0 (fun _ => true) true Try.f3.params.toList args.toList ds p := hA0
  rw [Try.params3] at hA hval
  obtain ⟨v0, d0, rfl, rfl, h0⟩ := trodAll_one hA
  obtain ⟨a0, len0, cap0, rfl⟩ := okWide_slice Try.underlying22 (hval 0 22 v0 rfl rfl)
  obtain ⟨fuel0, hf0⟩ := h0
  obtain ⟨Ab, nb, cb, hcs0, hmb, hrb⟩ := open_code hf0
  have hv0 : (Value.slice a0 len0 cap0) = .slice Ab nb cb := by simpa [Value.cells] using hcs0
  rw [hv0] at hW' ⊢
  refine (walk Ab nb cb hmb W hrb).mono fun e W' ⟨he, hb⟩ => ⟨_, he, law_post laidOut hW' hb rfl (by kernel_rfl) Try.underlying4 (by kernel_rfl) rfl⟩

theorem over : Rows.fnVotesRow.holds Try.pinned (OpenSpec.ofChange Rows.fnVotesSpec) :=
  OpenClaim.holds_of_wide 3 Try.f3 rfl rfl rfl rfl rfl rfl rfl ⟨rfl, rfl, rfl, rfl, rfl⟩ rfl rfl rfl rfl rfl (by kernel_rfl) Try.func3 (by kernel_rfl)
    (of_decide_eq_true (by kernel_rfl)) (by unfold Func.isWrapper; first | (rw [if_pos (by decide +kernel)]; kernel_rfl) | (rw [if_neg (by decide +kernel)]; exact ⟨rfl, rfl⟩))
    (fun os started H enc _ => lifted os started H enc)

theorem proved : Rows.FnVotesSaid :=
  over
end Go.Proofs.Ytfbiblomblcheab.fnVotes
