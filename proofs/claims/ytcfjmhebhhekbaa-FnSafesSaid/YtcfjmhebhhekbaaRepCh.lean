/-
  The values that are safe, and the chosen one: the rest of the contracts. No statement is proved here.
-/
import Derived.Test.YtcfjmhebhhekbaaImplTop
import Derived.Test.YtcfjmhebhhekbaaNums
set_option linter.unusedVariables false
set_option maxRecDepth 100000
namespace Go.Proofs.Ytcfjmhebhhekbaa.V
open Go.RowKit Go.Proofs.Ytcfjmhebhhekbaa.B

theorem ret_ib {a : Int} {b c : Bool} (h : b = c) : Ending.returned (.tuple #[.int .i64 a, .bool b]) = .returned (.tuple #[.int .i64 a, .bool c]) := by rw [h]
/-- The values among 1 .. k at which ok holds. -/
def svK (ok : Int → Bool) : Nat → List Int
  | 0 => []
  | k + 1 => svK ok k ++ (if ok ((k + 1 : Nat) : Int) then [((k + 1 : Nat) : Int)] else [])
theorem svK_le (ok : Int → Bool) : ∀ k, (svK ok k).length ≤ k
  | 0 => Nat.le_refl _
  | k + 1 => by
    have := svK_le ok k
    unfold svK
    rw [List.length_append]
    split <;> simp <;> omega
theorem svK_step (ok : Int → Bool) (k : Nat) : svK ok (k + 1) = svK ok k ++ (if ok ((k + 1 : Nat) : Int) then [((k + 1 : Nat) : Int)] else []) := rfl
theorem svK_congr {f g : Int → Bool} : ∀ k, (∀ i : Nat, 1 ≤ i → i ≤ k → f i = g i) → svK f k = svK g k
  | 0, _ => rfl
  | k + 1, h => by
    rw [svK_step, svK_step, svK_congr k (fun i h1 h2 => h i h1 (by omega)), h (k + 1) (by omega) (Nat.le_refl _)]
def chStep (g : Int → Int) (a : Int × Int) (v : Int) : Int × Int := if a.2 < g v then (v, g v) else a
def chF (g : Int → Int) (xs : List Int) : Int × Int := xs.foldl (chStep g) (0, -1)
theorem chF_step (g : Int → Int) (xs : List Int) (k : Nat) (h : k < xs.length) : chF g (xs.take (k + 1)) = chStep g (chF g (xs.take k)) (xs.getD k 0) := by
  rw [take_getD xs 0 k h]
  unfold chF
  rw [List.foldl_append]
  rfl
theorem chF_best (g : Int → Int) (ok : Int → Bool) : ∀ k, chF g (svK ok k) = best g ok k
  | 0 => rfl
  | k + 1 => by
    rw [svK_step, best_step]
    unfold chF
    rw [List.foldl_append]
    have ih := chF_best g ok k
    unfold chF at ih
    rw [ih]
    rcases h : ok ((k + 1 : Nat) : Int) with _ | _
    · simp
    · simp only [if_true, List.foldl_cons, List.foldl_nil, chStep, Bool.and_true, decide_eq_true_eq]
theorem best_pos (g : Int → Int) (ok : Int → Bool) (hg : ∀ v, -1 ≤ g v) : ∀ k, ((best g ok k).1 = 0 ∧ (best g ok k).2 = -1) ∨ (1 ≤ (best g ok k).1 ∧ 0 ≤ (best g ok k).2)
  | 0 => .inl ⟨rfl, rfl⟩
  | k + 1 => by
    have ih := best_pos g ok hg k
    have := hg ((k + 1 : Nat) : Int)
    rw [best_step]
    split
    · rename_i h
      simp only [Bool.and_eq_true, decide_eq_true_eq] at h
      right
      simp only
      omega
    · exact ih
theorem best_bd (g : Int → Int) (ok : Int → Bool) (hg : ∀ v, -1 ≤ g v ∧ g v ≤ 9) : ∀ k, -1 ≤ (best g ok k).2 ∧ (best g ok k).2 ≤ 9
  | 0 => by simp [best]
  | k + 1 => by
    have ih := best_bd g ok hg k
    have := hg ((k + 1 : Nat) : Int)
    rw [best_step]
    split
    · exact this
    · exact ih
theorem best_bool (g : Int → Int) (ok : Int → Bool) (hg : ∀ v, -1 ≤ g v) (k : Nat) : ((best g ok k).2 != -1) = decide (0 < (best g ok k).1) := by
  have := best_pos g ok hg k
  rw [Bool.eq_iff_iff]
  simp
  omega

set_option maxHeartbeats 1600000 in
theorem safeVals_is (b : Nat) (n view : Int) (s : Nat → Option Pp) (ok : Int → Bool) (hok : ∀ v, safeS n view s v = ok v) (hsz : sizeB n = true) (hw : viewR view = true) (w : World) (hs : SetAt w b n view s) :
    Calls Try.prog 57 #[.pointer (some ⟨b, 0, none⟩)] w (NRes (svK ok 60) w) := by
  obtain ⟨i0, hi0, hz0, hz1, hz2⟩ := info_parts infoI
  have HC := Lib.hid (fun (v : Int) (W : World) (h : SetAt W b n view s) => safe_is v b n view s (ok v) (hok v) hsz hw W h)
  have HS := Lib.hid hs
  have HK := Lib.hid (fun k => svK_step ok k)
  have HLE := Lib.hid (fun k => svK_le ok k)
  clear hok hsz hw hs
  go_enter Try.func57, Try.ntmps57
  go_wp2
  go_loopw [3, 4] (fun out i wr => ∃ (k : Nat) (xs : List Int), k ≤ 60 ∧ i = .int .i64 ((k + 1 : Nat) : Int) ∧ Hid (svK ok k = xs) ∧ xs.length ≤ k ∧ wr.ownsRow w.heap.size 3 1 out xs.length (ic xs) ∧ Below w.heap.size w wr) (fun _ i _ => 61 - (intOf i).toNat)
  case atStart => exact ⟨0, [], by omega, rfl, rfl, Nat.le_refl _, World.ownsRow_nil _ _ _ _, Below.refl _ _⟩
  case round =>
    obtain ⟨k, xs, hk, rfl, hxs, hxl, hown, hbel⟩ := hrel
    by_cases hlt : k < 60
    · have hle : (((k + 1 : Nat) : Int) ≤ 60) := by omega
      have hst := HK.out k
      rw [hxs.out] at hst
      have hcl := HC.out ((k + 1 : Nat) : Int) wr (HS.out.on hbel)
      obtain ⟨z, hz⟩ : ∃ z, ok ((k + 1 : Nat) : Int) = z := ⟨_, rfl⟩
      rw [hz] at hst hcl
      have HST := Lib.hid hst
      have HCL := Lib.hid hcl
      clear hst hcl hz hxs
      cases z
      · have HN : Hid (svK ok (k + 1) = xs) := by show _ = _; rw [HST.out]; simp
        go_wp2_with fail
        refine HCL.out.mono ?_
        rintro e w2 ⟨rfl, hb1⟩
        have hown1 := own_onB hown hb1
        go_wp2
        go_roundw
        case rel => exact ⟨k + 1, xs, by omega, by go_num, HN, by omega, hown1, hbel.trans (hb1.mono hbel.size)⟩
        case measure => simp [intOf]; omega
      · have HN : Hid (svK ok (k + 1) = xs ++ [((k + 1 : Nat) : Int)]) := by show _ = _; rw [HST.out]; simp
        go_wp2_with fail
        refine HCL.out.mono ?_
        rintro e w2 ⟨rfl, hb1⟩
        have hown1 := own_onB hown hb1
        have hbel1 := hbel.trans (hb1.mono hbel.size)
        have hsz1 := hbel1.size
        clear hown hb1
        go_wp2_with (at_builtin; refine wpList_append_any _ rfl (.tmp 12) (.tmp 14) 46 rfl w.heap.size 3 i0 _ 1 8 Try.underlying46 hi0 hz0 hz1 hz2 rfl (by omega) u3 xs.length (ic xs) rfl (hown1.alloc _) _ _ 1 1 [.int .i64 ((k + 1 : Nat) : Int)] rfl (lit_int w2 _) (by simp [Value.oneCell']) (by simp only [maxLen]; omega) (by omega) (by simp; omega) ?_; intro v2 w3 hown2 hgr2 hat2; have hbel2 := (hbel1.alloc hbel1.size _).grown hgr2 (by simp; omega) (fun j hj => (hown1.lt j hj).1))
        go_roundw
        case rel => exact ⟨k + 1, xs ++ [((k + 1 : Nat) : Int)], by omega, by go_num, HN, by simp; omega, own_app1 hown2, hbel2⟩
        case measure => simp [intOf]; omega
    · obtain rfl : k = 60 := by omega
      go_wp2
      go_ret
      refine ⟨_, rfl, ?_, hbel⟩
      rw [hxs.out]
      exact hown

theorem best_congr (g : Int → Int) {f h : Int → Bool} : ∀ k, (∀ i : Nat, 1 ≤ i → i ≤ k → f i = h i) → best g f k = best g h k
  | 0, _ => rfl
  | k + 1, e => by rw [best_step, best_step, best_congr g k (fun i h1 h2 => e i h1 (by omega)), e (k + 1) (by omega) (Nat.le_refl _)]

set_option maxHeartbeats 1600000 in
theorem choose_no (own : Int) (b : Nat) (n view : Int) (s : Nat → Option Pp) (ok : Int → Bool) (g : Int → Int) (hok : ∀ v, safeS n view s v = ok v) (hg : ∀ v, groundsS n view s v = g v) (hsz : sizeB n = true) (hw : viewR view = true) (hfr : freeS n s = false) (w : World) (hs : SetAt w b n view s) :
    Calls Try.prog 59 #[.pointer (some ⟨b, 0, none⟩), .int .i64 own] w fun e w' => e = .returned (.tuple #[.int .i64 (best g ok 60).1, .bool (decide (0 < (best g ok 60).1))]) ∧ Below w.heap.size w w' := by
  have hg1 : ∀ v, -1 ≤ g v ∧ g v ≤ 9 := fun v => by
    have := last_lo (grS n s v) view.toNat
    rw [← hg v]
    unfold viewR at hw; simp at hw
    unfold groundsS
    omega
  have HB2 := Lib.hid (fun k => best_bd g ok hg1 k)
  have HBB := Lib.hid (best_bool g ok (fun v => (hg1 v).1) 60)
  have HFR := Lib.hid (free_is b n view s false hfr w hs)
  have HSV := Lib.hid (fun (W : World) (h : SetAt W b n view s) => (safeVals_is b n view s ok hok hsz hw W h).mono fun _ _ => nres_of)
  have HGR := Lib.hid (fun (v : Int) (W : World) (h : SetAt W b n view s) => grounds_is v b n view s (g v) (hg v) hsz hw W h)
  have HCB := Lib.hid (chF_best g ok 60)
  have HG1 := Lib.hid hg1
  have HS := Lib.hid hs
  have hl60 := svK_le ok 60
  obtain ⟨xs, hxs⟩ : ∃ xs, svK ok 60 = xs := ⟨_, rfl⟩
  rw [hxs] at HSV HCB hl60
  have HST := Lib.hid (fun k h => chF_step g xs k h)
  obtain ⟨⟨bx, by_⟩, hbb⟩ : ∃ p, best g ok 60 = p := ⟨_, rfl⟩
  rw [hbb] at HBB HCB ⊢
  simp only at HBB ⊢
  clear hg hg1 hfr hok hsz hw hs hxs hbb HB2
  obtain ⟨m, hm⟩ : ∃ m, xs.length = m := ⟨_, rfl⟩
  rw [hm] at hl60
  have HM := Lib.hid hm
  have HSV2 : Hid (∀ (W : World), SetAt W b n view s → Calls Try.prog 57 #[.pointer (some ⟨b, 0, none⟩)] W fun e w' => ∃ A d, e = .returned (.slice A m d) ∧ OI w' 3 W.heap.size A xs ∧ Below W.heap.size W w') := by
    show ∀ (W : World), _
    intro W h
    refine (HSV.out W h).mono ?_
    rintro e w' ⟨A, d, h1, h2, h3⟩
    exact ⟨A, d, by rw [← hm]; exact h1, h2, h3⟩
  clear HSV hm
  go_enter Try.func59, Try.ntmps59
  go_wp2_with fail
  refine HFR.out.mono ?_
  rintro e w1 ⟨rfl, hb1⟩
  have hs1 := Lib.hid (HS.out.on hb1)
  have HB1 := Lib.hid hb1
  clear hb1 HFR HS
  go_wp2_with fail
  refine (HSV2.out _ hs1.out).mono ?_
  rintro e w2 ⟨A, d, rfl, ho2, hb2⟩
  have hs2 := Lib.hid (hs1.out.on hb2)
  have HB2 := Lib.hid (on_ HB1.out hb2)
  have HO := Lib.hid ho2.rd
  clear hb2 ho2 hs1 HB1
  go_wp2
  go_loopw [6, 7, 17] (fun a c i wr => ∃ (k : Nat) (x y : Int), k ≤ m ∧ i = .int .i64 k ∧ a = .int .i64 x ∧ c = .int .i64 y ∧ Hid (chF g (xs.take k) = (x, y)) ∧ Below w2.heap.size w2 wr) (fun _ _ i _ => m - (intOf i).toNat)
  case atStart => exact ⟨0, 0, -1, Nat.zero_le _, rfl, rfl, rfl, by show _ = _; simp [chF], Below.refl _ _⟩
  case round =>
    obtain ⟨k, x, y, hk, rfl, rfl, rfl, hxy, hbel⟩ := hrel
    by_cases hlt : k < m
    · obtain ⟨b', off, rfl, hb', hc0⟩ := (HO.out.below hbel).at_ (k := k) (by rw [HM.out]; exact hlt)
      have hst := HST.out k (by rw [HM.out]; exact hlt)
      rw [hxy.out] at hst
      obtain ⟨v, hv⟩ : ∃ v, xs.getD k 0 = v := ⟨_, rfl⟩
      rw [hv] at hc0 hst
      have hcl := HGR.out v wr (hs2.out.on hbel)
      unfold chStep at hst
      simp only at hst
      obtain ⟨u, hu⟩ : ∃ u, g v = u := ⟨_, rfl⟩
      rw [hu] at hst hcl
      have HCL := Lib.hid hcl
      have HSTT := Lib.hid hst
      clear hst hcl hv hu hxy
      by_cases hyu : y < u
      · have HX : Hid (chF g (xs.take (k + 1)) = (v, u)) := by show _ = _; rw [HSTT.out, if_pos hyu]
        go_wp2_with fail
        refine HCL.out.mono ?_
        rintro e w3 ⟨rfl, hb3⟩
        go_wp2
        go_roundw
        case rel => exact ⟨k + 1, v, u, by omega, by go_num, rfl, rfl, HX, hbel.trans (hb3.mono hbel.size)⟩
        case measure => simp [intOf]; omega
      · have HX : Hid (chF g (xs.take (k + 1)) = (x, y)) := by show _ = _; rw [HSTT.out, if_neg hyu]
        go_wp2_with fail
        refine HCL.out.mono ?_
        rintro e w3 ⟨rfl, hb3⟩
        go_wp2
        go_roundw
        case rel => exact ⟨k + 1, x, y, by omega, by go_num, rfl, rfl, HX, hbel.trans (hb3.mono hbel.size)⟩
        case measure => simp [intOf]; omega
    · have hkm : k = m := by omega
      subst hkm
      have hxx := hxy.out
      rw [List.take_of_length_le (by rw [HM.out]; omega), HCB.out] at hxx
      simp only [Prod.mk.injEq] at hxx
      obtain ⟨rfl, rfl⟩ := hxx
      obtain ⟨q, hq⟩ : ∃ q, (by_ != -1) = q := ⟨_, rfl⟩
      have HBQ : Hid (decide (0 < bx) = q) := by show _ = _; rw [← HBB.out, hq]
      go_wp2
      go_ret2
      exact ⟨ret_ib HBQ.out.symm, on_ HB2.out hbel⟩
theorem choose_yes (own : Int) (b : Nat) (n view : Int) (s : Nat → Option Pp) (hfr : freeS n s = true) (w : World) (hs : SetAt w b n view s) :
    Calls Try.prog 59 #[.pointer (some ⟨b, 0, none⟩), .int .i64 own] w fun e w' => e = .returned (.tuple #[.int .i64 own, .bool true]) ∧ Below w.heap.size w w' := by
  have HFR := Lib.hid (free_is b n view s true hfr w hs)
  clear hfr hs
  go_enter Try.func59, Try.ntmps59
  go_wp2_with fail
  refine HFR.out.mono ?_
  rintro e w1 ⟨rfl, hb1⟩
  go_wp2
  go_ret2
  exact ⟨rfl, hb1⟩
theorem choose_is (own : Int) (b : Nat) (n view : Int) (ps : List Pp) (hq : repsOkB n view (rl ps) = true) (w : World) (hs : SetAt w b n view (sl ps)) :
    Calls Try.prog 59 #[.pointer (some ⟨b, 0, none⟩), .int .i64 own] w fun e w' => e = .returned (.tuple #[.int .i64 (chooseR n view (rl ps) own).1, .bool (chooseR n view (rl ps) own).2]) ∧ Below w.heap.size w w' := by
  obtain ⟨hsz, hw⟩ := reps_size hq
  unfold chooseR
  rcases hfr : freeR n (rl ps) with _ | _
  · have h := choose_no own b n view (sl ps) _ _ (safeS_eq hq) (groundsS_eq hq) hsz hw (by rw [freeS_eq hq, hfr]) w hs
    have e := best_congr (groundsR n view (rl ps)) (f := fun v => valOkB v && safeR n view (rl ps) v) (h := safeR n view (rl ps)) 60 (fun i h1 h2 => by
      have : valOkB (i : Int) = true := by unfold valOkB; simp; omega
      simp [this])
    rw [e] at h
    exact h
  · exact choose_yes own b n view (sl ps) (by rw [freeS_eq hq, hfr]) w hs
theorem implChoose_any (n view own : Int) (A : Option Addr) (c : Nat) (ps : List Pp) (rs : List Rp) (e0 : rl ps = rs) (w : World) (hr : RdR w w.heap.size A ps) (hf : Few ps) :
    Calls Try.prog 23 #[.int .i64 n, .int .i64 view, .slice A ps.length c, .int .i64 own] w fun e w' => e = .returned (.tuple #[.int .i64 (chooseT n view rs own).1, .bool (chooseT n view rs own).2]) ∧ Below w.heap.size w w' := by
  subst e0
  obtain ⟨⟨za, zb⟩, hz⟩ : ∃ z, chooseT n view (rl ps) own = z := ⟨_, rfl⟩
  rw [hz]
  unfold chooseT at hz
  rcases hq : repsOkB n view (rl ps) with _ | _
  · rw [hq] at hz
    simp at hz
    obtain ⟨rfl, rfl⟩ := hz
    have HO := Lib.hid (reportsOf_no n view A c ps hq w hr hf)
    clear hq hr hf
    go_enter Try.func23, Try.ntmps23
    go_wp2_with fail
    refine HO.out.mono ?_
    rintro e w1 ⟨rfl, hb1⟩
    go_wp2
    go_ret2
    exact ⟨rfl, hb1⟩
  · have HO := Lib.hid (reportsOf_yes n view A c ps hq w hr hf)
    rcases hv : valOkB own with _ | _
    · rw [hq, hv] at hz
      simp at hz
      obtain ⟨rfl, rfl⟩ := hz
      have HV := Lib.hid hv
      clear hq hr hf hv
      go_enter Try.func23, Try.ntmps23
      go_wp2_with fail
      refine HO.out.mono ?_
      rintro e w1 ⟨b, rfl, hlt, hs1, hb1⟩
      go_wp2_with fail
      refine (implVal_is own false HV.out _).mono ?_
      rintro e w2 ⟨rfl, rfl⟩
      go_wp2
      go_ret2
      exact ⟨rfl, hb1⟩
    · rw [hq, hv] at hz
      simp only [Bool.and_self, if_true] at hz
      have HC : Hid (∀ (b : Nat) (W : World), SetAt W b n view (sl ps) → Calls Try.prog 59 #[.pointer (some ⟨b, 0, none⟩), .int .i64 own] W fun e w' => e = .returned (.tuple #[.int .i64 za, .bool zb]) ∧ Below W.heap.size W w') := by
        show ∀ (b : Nat), _
        intro b W h
        have := choose_is own b n view ps hq W h
        rwa [hz] at this
      have HV := Lib.hid hv
      clear hq hr hf hv hz
      go_enter Try.func23, Try.ntmps23
      go_wp2_with fail
      refine HO.out.mono ?_
      rintro e w1 ⟨b, rfl, hlt, hs1, hb1⟩
      have HS1 := Lib.hid hs1
      clear hs1
      go_wp2_with fail
      refine (implVal_is own true HV.out _).mono ?_
      rintro e w2 ⟨rfl, h2⟩
      obtain rfl := h2.symm
      go_wp2_with fail
      refine (HC.out _ _ HS1.out).mono ?_
      rintro e w2 ⟨rfl, hb2⟩
      go_wp2
      go_ret2
      exact ⟨rfl, on_ hb1 hb2⟩

def safeVT (n view : Int) (rs : List Rp) : List Int := if repsOkB n view rs then svK (safeR n view rs) 60 else []
theorem safeVT_le (n view : Int) (rs : List Rp) : (safeVT n view rs).length ≤ 60 := by
  unfold safeVT
  split
  · exact svK_le _ _
  · simp

theorem implSafeVals_any (n view : Int) (A : Option Addr) (c : Nat) (ps : List Pp) (rs : List Rp) (e0 : rl ps = rs) (w : World) (hr : RdR w w.heap.size A ps) (hf : Few ps) :
    Calls Try.prog 22 #[.int .i64 n, .int .i64 view, .slice A ps.length c] w (NRes (safeVT n view rs) w) := by
  subst e0
  unfold safeVT
  rcases hq : repsOkB n view (rl ps) with _ | _
  · have HO := Lib.hid (reportsOf_no n view A c ps hq w hr hf)
    clear hq hr hf
    simp only [Bool.false_eq_true, if_false]
    go_enter Try.func22, Try.ntmps22
    go_wp2_with fail
    refine HO.out.mono ?_
    rintro e w1 ⟨rfl, hb1⟩
    go_wp2
    go_ret
    exact no_ints _ _ hb1
  · have HO := Lib.hid (reportsOf_yes n view A c ps hq w hr hf)
    simp only [if_true]
    obtain ⟨hsz, hw⟩ := reps_size hq
    have e := svK_congr (f := fun v => valOkB v && safeR n view (rl ps) v) (g := safeR n view (rl ps)) 60 (fun i h1 h2 => by
      have : valOkB (i : Int) = true := by unfold valOkB; simp; omega
      simp [this])
    have HC : Hid (∀ (b : Nat) (W : World), SetAt W b n view (sl ps) → Calls Try.prog 57 #[.pointer (some ⟨b, 0, none⟩)] W (NRes (svK (safeR n view (rl ps)) 60) W)) := by
      show ∀ (b : Nat), _
      intro b W h
      rw [← e]
      exact safeVals_is b n view (sl ps) _ (safeS_eq hq) hsz hw W h
    generalize svK (safeR n view (rl ps)) 60 = xs at *
    clear hq hr hf hsz hw e
    go_enter Try.func22, Try.ntmps22
    go_wp2_with fail
    refine HO.out.mono ?_
    rintro e w1 ⟨b, rfl, hlt, hs1, hb1⟩
    have HS1 := Lib.hid hs1
    clear hs1
    go_wp2_with fail
    refine (HC.out _ _ HS1.out).mono ?_
    rintro e w2 ⟨v, rfl, ho, hb2⟩
    go_wp2
    go_ret
    exact ⟨v, rfl, own_more3 ho hb1.size, on_ hb1 hb2⟩
end Go.Proofs.Ytcfjmhebhhekbaa.V
