/-
  The methods of the program's set of reports that count: contracts. No statement is proved here.
-/
import Derived.Test.YtcfjmhebhhekbaaImplOf
set_option linter.unusedVariables false
set_option maxRecDepth 100000
namespace Go.Proofs.Ytcfjmhebhhekbaa.V
open Go.RowKit Go.Proofs.Ytcfjmhebhhekbaa.B

theorem SetAt.hd {w : World} {b : Nat} {n view : Int} {s : Nat → Option Pp} (h : SetAt w b n view s) : w.cell? ⟨b, 0, none⟩ = some (.int .i64 n) ∧ w.cell? ⟨b, 1, none⟩ = some (.int .i64 view) := by
  obtain ⟨⟨cs, hk, _, h0, h1, _⟩, _⟩ := h
  exact ⟨(hk.cell 0).trans h0, (hk.cell 1).trans h1⟩
theorem SetAt.lt {w : World} {b : Nat} {n view : Int} {s : Nat → Option Pp} (h : SetAt w b n view s) : b < w.heap.size := by
  obtain ⟨⟨cs, hk, _⟩, _⟩ := h
  exact hk.lt
theorem SetAt.lat {w : World} {b : Nat} {n view : Int} {s : Nat → Option Pp} (h : SetAt w b n view s) (x : Lat w) : SetAt x.w b n view s := h.on x.below
theorem weakI_is (n q : Int) (h : weakR n = q) (w : World) : Calls Try.prog 80 #[.int .i64 n] w fun e w' => e = .returned (.int .i64 q) ∧ w' = w := by
  rw [← h]; exact implWeak_any n w
theorem strongI_is (n q : Int) (h : strongR n = q) (w : World) : Calls Try.prog 76 #[.int .i64 n] w fun e w' => e = .returned (.int .i64 q) ∧ w' = w := by
  rw [← h]; exact implStrong_any n w

def witS (s : Nat → Option Pp) (val from_ : Int) : Nat := cntS s (hasV val from_) 7
def grS (n : Int) (s : Nat → Option Pp) (val u : Int) : Bool := decide (weakR n ≤ (witS s val u : Int))
def groundsS (n view : Int) (s : Nat → Option Pp) (val : Int) : Int := last (grS n s val) view.toNat
def unbS (s : Nat → Option Pp) : Nat := cntS s unbL 7
def freeS (n : Int) (s : Nat → Option Pp) : Bool := decide (strongR n ≤ (unbS s : Int))
def supS (n view : Int) (s : Nat → Option Pp) (val : Int) : Nat := if groundsS n view s val = -1 then unbS s else cntS s (supQ (groundsS n view s val) val) 7
def safeS (n view : Int) (s : Nat → Option Pp) (val : Int) : Bool := valOkB val && (freeS n s || (!decide (groundsS n view s val = -1) && decide (strongR n ≤ (supS n view s val : Int))))

theorem witnesses_is (val from_ : Int) (b : Nat) (n view : Int) (s : Nat → Option Pp) (y : Nat) (hy : witS s val from_ = y) (w : World) (hs : SetAt w b n view s) :
    Calls Try.prog 79 #[.pointer (some ⟨b, 0, none⟩), .int .i64 val, .int .i64 from_] w fun e w' => e = .returned (.int .i64 y) ∧ Below w.heap.size w w' := by
  have hb0 : Below w.heap.size w ((w.alloc (.cells #[.int .i64 val] 3)).alloc (.cells #[.int .i64 from_] 3)) := up_ (up_ (Below.refl _ _) _) _
  have hcp : Caps ((w.alloc (.cells #[.int .i64 val] 3)).alloc (.cells #[.int .i64 from_] 3)) w.heap.size (w.heap.size + 1) val from_ := by
    refine ⟨?_, ?_⟩
    · exact ((Blk.new w 3 #[.int .i64 val]).alloc _).cell 0
    · have := (Blk.new (w.alloc (.cells #[.int .i64 val] 3)) 3 #[.int .i64 from_]).cell 0
      rw [World.size_alloc] at this
      exact this
  have hc := count_wit val from_ w.heap.size (w.heap.size + 1) b n view s _ (hs.on hb0) hcp
  rw [show cntS s (hasV val from_) 7 = y from hy] at hc
  have HC := Lib.hid hc
  have HB := Lib.hid hb0
  clear hc hb0 hcp hs hy
  go_enter Try.func79, Try.ntmps79
  go_wp2_with fail
  refine HC.out.mono ?_
  rintro e w1 ⟨rfl, hb1⟩
  go_wp2
  go_ret
  exact ⟨rfl, on_ HB.out hb1⟩

theorem unbound_is (b : Nat) (n view : Int) (s : Nat → Option Pp) (y : Nat) (hy : unbS s = y) (w : World) (hs : SetAt w b n view s) :
    Calls Try.prog 78 #[.pointer (some ⟨b, 0, none⟩)] w fun e w' => e = .returned (.int .i64 y) ∧ Below w.heap.size w w' := by
  have hc := count_unb b n view s _ hs
  rw [show cntS s unbL 7 = y from hy] at hc
  have HC := Lib.hid hc
  clear hc hs hy
  go_enter Try.func78, Try.ntmps78
  go_wp2_with fail
  refine HC.out.mono ?_
  rintro e w1 ⟨rfl, hb1⟩
  go_wp2
  go_ret
  exact ⟨rfl, hb1⟩

set_option maxHeartbeats 1600000 in
theorem grounds_is (val : Int) (b : Nat) (n view : Int) (s : Nat → Option Pp) (z : Int) (hz : groundsS n view s val = z) (hsz : sizeB n = true) (hw : viewR view = true) (w : World) (hs : SetAt w b n view s) :
    Calls Try.prog 54 #[.pointer (some ⟨b, 0, none⟩), .int .i64 val] w fun e w' => e = .returned (.int .i64 z) ∧ Below w.heap.size w w' := by
  obtain ⟨t, rfl⟩ : ∃ t : Nat, view = t := ⟨view.toNat, by unfold viewR at hw; simp at hw; omega⟩
  have ht : 1 ≤ t ∧ t ≤ 9 := by unfold viewR at hw; simp at hw; omega
  obtain ⟨ht1, ht9⟩ := ht
  have HZ : Hid (last (grS n s val) t = z) := by show _ = _; rw [← hz]; unfold groundsS; simp
  obtain ⟨q, hq⟩ : ∃ q, weakR n = q := ⟨_, rfl⟩
  have hq7 := weak_pos hsz
  rw [hq] at hq7
  have HQ := Lib.hid hq
  have HG : Hid (∀ u : Nat, grS n s val u = decide (q ≤ (witS s val u : Int))) := by
    show ∀ u : Nat, _
    intro u
    unfold grS
    rw [hq]
  have HL : Hid (∀ u, witS s val u ≤ 7) := fun u => cntS_le _ _ _
  have hcv := hs.hd.2
  have HS := Lib.hid hs
  clear hz hsz hw hq hs
  go_enter Try.func54, Try.ntmps54
  go_wp2
  clear hcv
  go_loopw [5] (fun i wr => ∃ (k : Nat), k ≤ t ∧ i = .int .i64 ((k : Int) - 1) ∧ Hid (∀ u : Nat, k ≤ u → u < t → grS n s val u = false) ∧ Below w.heap.size w wr) (fun i _ => ((intOf i) + 1).toNat)
  case atStart => exact ⟨t, Nat.le_refl _, rfl, fun u h1 h2 => absurd h2 (by omega), Below.refl _ _⟩
  case round =>
    obtain ⟨k, hk, rfl, hall, hbel⟩ := hrel
    rcases k with _ | k
    · go_wp2
      go_ret
      refine ⟨ret_int2 ?_, hbel⟩
      rw [← HZ.out, last_no _ 0 t (by omega) (fun i h1 h2 => hall.out i h1 h2)]
      rfl
    · have e1 : ((k + 1 : Nat) : Int) - 1 = (k : Int) := by omega
      rw [e1]
      have hle := HL.out (k : Int)
      have hg := HG.out k
      have hsr := HS.out.on hbel
      have C0 := fun x : Lat wr => (hsr.lat x).hd.1
      have HSR := Lib.hid hsr; clear hsr
      obtain ⟨y, hy⟩ : ∃ y, witS s val (k : Int) = y := ⟨_, rfl⟩
      rw [hy] at hle hg
      have HY := Lib.hid hy; clear hy
      by_cases hqy : q ≤ (y : Int)
      · have HGK : Hid (grS n s val (k : Int) = true) := by show _ = _; rw [hg]; simpa using hqy
        clear hg
        go_wp2
        refine wp_region_lat (by kernel_rfl) (by kernel_rfl) ?_
        repeat (go_big_quiet_step ((first | (go_at_call 79; exact lat_call _ (witnesses_is val _ b n _ s y HY.out _ (HSR.out.lat _))) | (go_at_call 80; exact lat_same _ (weakI_is n q HQ.out _)))))
        refine wpQuiet_nil ?_
        rintro w3 ⟨⟨_, hb3⟩, rfl⟩
        clear C0
        go_wp2
        go_ret
        refine ⟨ret_int2 ?_, hbel.trans (hb3.mono hbel.size)⟩
        rw [← HZ.out, last_no _ (k + 1) t (by omega) (fun i h1 h2 => hall.out i h1 h2)]
        show (k : Int) = (if grS n s val k then (k : Int) else last _ k)
        rw [HGK.out]; rfl
      · have HGK : Hid (grS n s val (k : Int) = false) := by show _ = _; rw [hg]; simpa using hqy
        clear hg
        go_wp2
        refine wp_region_lat (by kernel_rfl) (by kernel_rfl) ?_
        repeat (go_big_quiet_step ((first | (go_at_call 79; exact lat_call _ (witnesses_is val _ b n _ s y HY.out _ (HSR.out.lat _))) | (go_at_call 80; exact lat_same _ (weakI_is n q HQ.out _)))))
        refine wpQuiet_nil ?_
        rintro w3 ⟨⟨_, hb3⟩, rfl⟩
        clear C0
        go_wp2
        go_roundw
        case rel =>
          refine ⟨k, by omega, rfl, fun u h1 h2 => ?_, hbel.trans (hb3.mono hbel.size)⟩
          by_cases e : u = k
          · subst e; exact HGK.out
          · exact hall.out u (by omega) h2
        case measure => simp [intOf]

theorem free_is (b : Nat) (n view : Int) (s : Nat → Option Pp) (z : Bool) (hz : freeS n s = z) (w : World) (hs : SetAt w b n view s) :
    Calls Try.prog 53 #[.pointer (some ⟨b, 0, none⟩)] w fun e w' => e = .returned (.bool z) ∧ Below w.heap.size w w' := by
  obtain ⟨q, hq⟩ : ∃ q, strongR n = q := ⟨_, rfl⟩
  obtain ⟨y, hy⟩ : ∃ y, unbS s = y := ⟨_, rfl⟩
  have hzz : z = decide (q ≤ (y : Int)) := by rw [← hz]; unfold freeS; rw [hq, hy]
  have HQ := Lib.hid hq
  have HY := Lib.hid hy
  have HZ := Lib.hid hzz
  have C0 := fun x : Lat w => (hs.lat x).hd.1
  have HS := Lib.hid hs
  clear hz hq hy hzz hs
  go_enter Try.func53, Try.ntmps53
  go_wp2
  refine wp_region_lat (by kernel_rfl) (by kernel_rfl) ?_
  repeat (go_big_quiet_step ((first | (go_at_call 78; exact lat_call _ (unbound_is b n view s y HY.out _ (HS.out.lat _))) | (go_at_call 76; exact lat_same _ (strongI_is n q HQ.out _)))))
  refine wpQuiet_nil ?_
  rintro w3 ⟨⟨_, hb3⟩, rfl⟩
  clear C0
  go_wp2
  go_ret
  exact ⟨ret_bool HZ.out.symm, hb3⟩

set_option maxHeartbeats 1600000 in
theorem supports_is (val : Int) (b : Nat) (n view : Int) (s : Nat → Option Pp) (y : Nat) (hy : supS n view s val = y) (hsz : sizeB n = true) (hw : viewR view = true) (w : World) (hs : SetAt w b n view s) :
    Calls Try.prog 75 #[.pointer (some ⟨b, 0, none⟩), .int .i64 val] w fun e w' => e = .returned (.int .i64 y) ∧ Below w.heap.size w w' := by
  obtain ⟨u, hu⟩ : ∃ u, groundsS n view s val = u := ⟨_, rfl⟩
  unfold supS at hy
  rw [hu] at hy
  have hg1 : -1 ≤ u := by rw [← hu]; exact (last_lo _ _).1
  have kv0 := Blk.new w 3 #[.int .i64 val]
  have hb0 : Below w.heap.size w (w.alloc (.cells #[.int .i64 val] 3)) := up_ (Below.refl _ _) _
  have HG := Lib.hid (grounds_is val b n view s u hu hsz hw _ (hs.on hb0))
  have HB0 := Lib.hid hb0
  have HKV := Lib.hid kv0
  have HS0 := Lib.hid (hs.on hb0)
  clear hu hsz hw hs hb0 kv0
  have rv0 := HKV.out.rule
  have rv1 := rv0 0
  clear rv0
  by_cases hu1 : u = -1
  · subst hu1
    simp only [if_true] at hy
    have HY := Lib.hid hy; clear hy
    go_enter Try.func75, Try.ntmps75
    go_wp2_with fail
    refine HG.out.mono ?_
    rintro e w1 ⟨rfl, hb1⟩
    have hb2 := Lib.hid (up_ (on_ HB0.out hb1) (.cells #[.int .i64 (-1)] 3))
    have hs2 := Lib.hid ((HS0.out.on hb1).on (up_ (Below.refl _ _) (.cells #[.int .i64 (-1)] 3)))
    go_wp2_with fail
    refine (unbound_is b n view s y HY.out _ hs2.out).mono ?_
    rintro e w2 ⟨rfl, hb3⟩
    go_wp2
    go_ret
    exact ⟨rfl, on_ hb2.out hb3⟩
  · rw [if_neg hu1] at hy
    have HY := Lib.hid hy; clear hy
    have hu2 : (u == -1) = false := by simpa using hu1
    have HU := Lib.hid hu1; clear hu1
    go_enter Try.func75, Try.ntmps75
    go_wp2_with fail
    refine HG.out.mono ?_
    rintro e w1 ⟨rfl, hb1⟩
    have hb2 := Lib.hid (up_ (on_ HB0.out hb1) (.cells #[.int .i64 u] 3))
    have hs2 := Lib.hid ((HS0.out.on hb1).on (up_ (Below.refl _ _) (.cells #[.int .i64 u] 3)))
    have hcp : Hid (Caps (w1.alloc (.cells #[.int .i64 u] 3)) w.heap.size w1.heap.size val u) := ⟨((HKV.out.on hb1).alloc _).cell 0, (Blk.new w1 3 #[.int .i64 u]).cell 0⟩
    have hcall := count_sup val u w.heap.size w1.heap.size b n view s _ hs2.out hcp.out
    rw [HY.out] at hcall
    have HCL := Lib.hid hcall
    clear hcall
    go_wp2_with fail
    refine HCL.out.mono ?_
    rintro e w2 ⟨rfl, hb3⟩
    go_wp2
    go_ret
    exact ⟨rfl, on_ hb2.out hb3⟩

set_option maxHeartbeats 1600000 in
theorem safe_is (val : Int) (b : Nat) (n view : Int) (s : Nat → Option Pp) (z : Bool) (hz : safeS n view s val = z) (hsz : sizeB n = true) (hw : viewR view = true) (w : World) (hs : SetAt w b n view s) :
    Calls Try.prog 50 #[.pointer (some ⟨b, 0, none⟩), .int .i64 val] w fun e w' => e = .returned (.bool z) ∧ Below w.heap.size w w' := by
  unfold safeS at hz
  rcases hv : valOkB val with _ | _
  · rw [hv] at hz
    simp only [Bool.false_and] at hz
    subst hz
    have HV := Lib.hid hv; clear hv hsz hw hs
    go_enter Try.func50, Try.ntmps50
    go_wp2_with fail
    refine (implVal_is val false HV.out _).mono ?_
    rintro e w1 ⟨rfl, rfl⟩
    go_wp2
    go_ret
    exact ⟨rfl, Below.refl _ _⟩
  · rw [hv] at hz
    simp only [Bool.true_and] at hz
    obtain ⟨fr, hfr⟩ : ∃ q, freeS n s = q := ⟨_, rfl⟩
    obtain ⟨u, hu⟩ : ∃ u, groundsS n view s val = u := ⟨_, rfl⟩
    obtain ⟨y, hy⟩ : ∃ y, supS n view s val = y := ⟨_, rfl⟩
    obtain ⟨q, hq⟩ : ∃ q, strongR n = q := ⟨_, rfl⟩
    rw [hfr, hu, hy, hq] at hz
    have HV := Lib.hid hv
    have HF := Lib.hid hfr
    have HQ := Lib.hid hq
    have HG := Lib.hid (fun (W : World) (h : SetAt W b n view s) => grounds_is val b n view s u hu hsz hw W h)
    have HSP := Lib.hid (fun (W : World) (h : SetAt W b n view s) => supports_is val b n view s y hy hsz hw W h)
    have C0 := fun x : Lat w => (hs.lat x).hd.1
    have HS := Lib.hid hs
    have HZ := Lib.hid hz
    clear hv hfr hu hy hq hs hsz hw hz
    cases fr
    · by_cases hu1 : u = -1
      · subst hu1
        go_enter Try.func50, Try.ntmps50
        go_wp2_with fail
        refine (implVal_is val true HV.out _).mono ?_
        rintro e w1 ⟨rfl, h1⟩
        obtain rfl := h1.symm
        go_wp2
        refine wp_region_lat (by kernel_rfl) (by kernel_rfl) ?_
        repeat (go_big_quiet_step ((first | (go_at_call 53; exact lat_call _ (free_is b n view s false HF.out _ (HS.out.lat _))) | (go_at_call 54; exact lat_call _ (HG.out _ (HS.out.lat _))))))
        refine wpQuiet_nil ?_
        rintro w3 ⟨⟨_, hb3⟩, rfl⟩
        clear C0
        go_wp2
        go_ret
        exact ⟨ret_bool (by rw [← HZ.out]; rfl), hb3⟩
      · have hu2 : (u != -1) = true := by rw [bne_iff_ne]; exact hu1
        have HU := Lib.hid hu1; clear hu1
        go_enter Try.func50, Try.ntmps50
        go_wp2_with fail
        refine (implVal_is val true HV.out _).mono ?_
        rintro e w1 ⟨rfl, h1⟩
        obtain rfl := h1.symm
        go_wp2
        refine wp_region_lat (by kernel_rfl) (by kernel_rfl) ?_
        repeat (go_big_quiet_step ((first | (go_at_call 53; exact lat_call _ (free_is b n view s false HF.out _ (HS.out.lat _))) | (go_at_call 54; exact lat_call _ (HG.out _ (HS.out.lat _))) | (go_at_call 75; exact lat_call _ (HSP.out _ (HS.out.lat _))) | (go_at_call 76; exact lat_same _ (strongI_is n q HQ.out _)))))
        refine wpQuiet_nil ?_
        rintro w3 ⟨⟨_, hb3⟩, rfl⟩
        clear C0
        go_wp2
        go_ret
        exact ⟨ret_bool (by rw [← HZ.out]; simp [HU.out]), hb3⟩
    · go_enter Try.func50, Try.ntmps50
      go_wp2_with fail
      refine (implVal_is val true HV.out _).mono ?_
      rintro e w1 ⟨rfl, h1⟩
      obtain rfl := h1.symm
      go_wp2
      refine wp_region_lat (by kernel_rfl) (by kernel_rfl) ?_
      repeat (go_big_quiet_step ((first | (go_at_call 53; exact lat_call _ (free_is b n view s true HF.out _ (HS.out.lat _))))))
      refine wpQuiet_nil ?_
      rintro w3 ⟨⟨_, hb3⟩, rfl⟩
      clear C0
      go_wp2
      go_ret
      exact ⟨ret_bool (by rw [← HZ.out]; rfl), hb3⟩
end Go.Proofs.Ytcfjmhebhhekbaa.V
