/-
  Proved here: for whatever bytes of a draw, the law FnStores of a store and one command answers true. No condition.
-/
import Derived.Test.YtfebeafonifpdaaRows
import Derived.Test.YtfebeafonifpdaaDoor
import Derived.Test.YtfebeafonifpdaaDraw8
import Derived.Test.YtfebeafonifpdaaLift
set_option linter.unusedVariables false
set_option maxRecDepth 100000
namespace Go.Proofs.Ytfebeafonifpdaa.fnStores
open Go.RowKit Go.ChangeShapes Go.WideShapes Go.Proofs.Ytfebeafonifpdaa.B Go.Proofs.Ytfebeafonifpdaa.V

theorem dox_at {xs : List Int} {k n : Int} {y j : Nat} (hy : y < xs.length) (hj : j < xs.length) : (doX xs k y n).getD j 0 = if j = y then doN k n (xs.getD y 0) else xs.getD j 0 := by
  unfold doX
  by_cases e : j = y
  · subst e
    rw [if_pos rfl, List.getD_eq_getElem?_getD, List.getElem?_set_self hy]; rfl
  · rw [if_neg e, List.getD_eq_getElem?_getD, List.getElem?_set_ne (Ne.symm e), List.getD_eq_getElem?_getD]
theorem stB_of {xs : List Int} {m : Int} (h : inR xs) (h0 : 0 ≤ m) (h1 : m ≤ 1000) : stB xs m = true := by
  unfold stB
  rw [all_at (fun j hj => by unfold inB; exact decide_eq_true (h.2 j (by rw [← h.1]; exact hj))), Bool.and_true]
  exact decide_eq_true ⟨h.1, h0, h1⟩
theorem do_at (A : Option Addr) (c : Nat) (vs us : List Int) (m k y n m2 r : Int) (h1 : doU vs m k y n = us) (h2 : doM vs m k y n = m2) (h3 : doR vs m k y n = r) (w : World) (hr : RdI w w.heap.size A vs) (hn : vs.length ≤ 1048576) :
    Calls Try.prog 26 #[.agg #[.slice A vs.length c, .int .i64 m], .agg #[.int .i64 k, .int .i64 y, .int .i64 n]] w (SG us m2 (.int .i64 r) w) := by rw [← h1, ← h2, ← h3]; exact implStoreDo_any A c vs m k y n w hr hn
set_option maxHeartbeats 6400000 in
theorem walk (A : Option Addr) (n c : Nat) (hm : n ≤ maxLen) (w : World) (hr : RdC w w.heap.size A n) :
    Calls Try.prog 4 #[.slice A n c] w fun e w' => e = .returned (.bool true) ∧ Below w.heap.size w w' := by
  go_enter Try.func4, Try.ntmps4
  go_wp2_with fail
  refine (drawStoreDo_any A n c hm w hr).mono ?_
  rintro e w1 ⟨B, d, xs, m, k, y, z, rfl, hxl, hrd, hb1⟩
  have ks2 := (Blk.new w1 36 #[.slice B xs.length d, .int .i64 m]).alloc (.cells #[.int .i64 k, .int .i64 y, .int .i64 z] 24)
  have kc2 := Blk.new (w1.alloc (.cells #[.slice B xs.length d, .int .i64 m] 36)) 24 #[.int .i64 k, .int .i64 y, .int .i64 z]
  simp only [World.size_alloc] at kc2
  have hB2 := up_ (up_ hb1 (.cells #[.slice B xs.length d, .int .i64 m] 36)) (.cells #[.int .i64 k, .int .i64 y, .int .i64 z] 24)
  have HR2 := Lib.hid ((hrd.up (.cells #[.slice B xs.length d, .int .i64 m] 36)).up (.cells #[.int .i64 k, .int .i64 y, .int .i64 z] 24))
  clear hb1 hr hrd
  have hxl' : xs.length ≤ 1048576 := by omega
  obtain ⟨q, hq⟩ : ∃ q, doQ xs m k y z = q := ⟨_, rfl⟩
  cases q
  · obtain ⟨e1, e2, e3⟩ := do_no hq
    have H1 := Lib.hid e1; have H2 := Lib.hid e2; have H3 := Lib.hid e3
    clear e1 e2 e3
    go_wp2_with fail
    generalize (w1.alloc (.cells #[.slice B xs.length d, .int .i64 m] 36)).alloc (.cells #[.int .i64 k, .int .i64 y, .int .i64 z] 24) = w2 at *
    refine (do_at B d xs [] m k y z (0) (-1) H1.out H2.out H3.out w2 HR2.out hxl').mono ?_
    rintro e w3 ⟨C, e3, rfl, ho3, hb3⟩
    have ks4 := (ks2.on hb3).alloc (.cells #[.slice C 0 e3, .int .i64 (0)] 36)
    have kc4 := (kc2.on hb3).alloc (.cells #[.slice C 0 e3, .int .i64 (0)] 36)
    have kx4 := Blk.new w3 36 #[.slice C 0 e3, .int .i64 (0)]
    have hB4 := up_ (on_ hB2 hb3) (.cells #[.slice C 0 e3, .int .i64 (0)] 36)
    have HR4 := Lib.hid ((HR2.out.on hb3).up (.cells #[.slice C 0 e3, .int .i64 (0)] 36))
    have HO4 := Lib.hid ((ho3.rd).up (.cells #[.slice C 0 e3, .int .i64 (0)] 36))
    clear ks2 kc2 hB2 HR2 ho3 hb3
    have rs4 := ks4.rule
    have rc4 := kc4.rule
    have rx4 := kx4.rule
    rcases hs : stB xs m with _ | _
    · have HS := Lib.hid hs; clear hs hq
      go_wp2_with fail
      refine (specStoreOk_is false B d xs m HS.out _ HR4.out hxl').mono ?_
      rintro e w5 ⟨rfl, hb5⟩
      have ks5 := ks4.on hb5
      have kc5 := kc4.on hb5
      have kx5 := kx4.on hb5
      have hB5 := on_ hB4 hb5
      have HR5 := Lib.hid (HR4.out.on hb5)
      have HO5 := Lib.hid (HO4.out.on hb5)
      clear ks4 kc4 kx4 hB4 HR4 HO4 hb5 rs4 rc4 rx4
      have rs5 := ks5.rule
      have rc5 := kc5.rule
      have rx5 := kx5.rule
      go_wp2_with fail
      refine (stores_any _).mono ?_
      rintro e wa ⟨rfl, hba⟩
      have hBa := on_ hB5 hba
      clear hba
      go_wp2_with fail
      refine (implNew_any _).mono ?_
      rintro e wb ⟨A5, d5, rfl, _, ho5, hb5⟩
      have hBb := on_ hBa hb5
      have HNB : Hid (stB [0, 0, 0, 0] 0 = true) := by show _ = _; decide
      go_wp2_with fail
      refine (implStoreOk_is true A5 d5 [0, 0, 0, 0] 0 HNB.out _ ho5.rd (by simp)).mono ?_
      rintro e wd ⟨rfl, hbd⟩
      have hBd := on_ hBb hbd
      clear hBa hBb hb5 hbd ho5
      go_wp2
      go_ret
      exact ⟨rfl, hBd⟩
    rcases hp : cmdB k y z with _ | _
    · have HS := Lib.hid hs; have HP := Lib.hid hp; clear hs hp hq
      go_wp2_with fail
      refine (specStoreOk_is true B d xs m HS.out _ HR4.out hxl').mono ?_
      rintro e w5 ⟨rfl, hb5⟩
      have ks5 := ks4.on hb5
      have kc5 := kc4.on hb5
      have kx5 := kx4.on hb5
      have hB5 := on_ hB4 hb5
      have HR5 := Lib.hid (HR4.out.on hb5)
      have HO5 := Lib.hid (HO4.out.on hb5)
      clear ks4 kc4 kx4 hB4 HR4 HO4 hb5 rs4 rc4 rx4
      have rs5 := ks5.rule
      have rc5 := kc5.rule
      have rx5 := kx5.rule
      go_wp2_with fail
      refine (specCmdOk_is false k y z HP.out _).mono ?_
      rintro e w6 ⟨rfl, hb6⟩
      have ks6 := ks5.on hb6
      have kc6 := kc5.on hb6
      have kx6 := kx5.on hb6
      have hB6 := on_ hB5 hb6
      have HR6 := Lib.hid (HR5.out.on hb6)
      have HO6 := Lib.hid (HO5.out.on hb6)
      clear ks5 kc5 kx5 hB5 HR5 HO5 hb6 rs5 rc5 rx5
      have rs6 := ks6.rule
      have rc6 := kc6.rule
      have rx6 := kx6.rule
      go_wp2_with fail
      refine (stores_any _).mono ?_
      rintro e wa ⟨rfl, hba⟩
      have hBa := on_ hB6 hba
      clear hba
      go_wp2_with fail
      refine (implNew_any _).mono ?_
      rintro e wb ⟨A5, d5, rfl, _, ho5, hb5⟩
      have hBb := on_ hBa hb5
      have HNB : Hid (stB [0, 0, 0, 0] 0 = true) := by show _ = _; decide
      go_wp2_with fail
      refine (implStoreOk_is true A5 d5 [0, 0, 0, 0] 0 HNB.out _ ho5.rd (by simp)).mono ?_
      rintro e wd ⟨rfl, hbd⟩
      have hBd := on_ hBb hbd
      clear hBa hBb hb5 hbd ho5
      go_wp2
      go_ret
      exact ⟨rfl, hBd⟩
    have hm1 : 1000 ≤ m := by simp [doQ, hs, hp] at hq; omega
    have HS := Lib.hid hs; have HP := Lib.hid hp; clear hs hp hq
    go_wp2_with fail
    refine (specStoreOk_is true B d xs m HS.out _ HR4.out hxl').mono ?_
    rintro e w5 ⟨rfl, hb5⟩
    have ks5 := ks4.on hb5
    have kc5 := kc4.on hb5
    have kx5 := kx4.on hb5
    have hB5 := on_ hB4 hb5
    have HR5 := Lib.hid (HR4.out.on hb5)
    have HO5 := Lib.hid (HO4.out.on hb5)
    clear ks4 kc4 kx4 hB4 HR4 HO4 hb5 rs4 rc4 rx4
    have rs5 := ks5.rule
    have rc5 := kc5.rule
    have rx5 := kx5.rule
    go_wp2_with fail
    refine (specCmdOk_is true k y z HP.out _).mono ?_
    rintro e w6 ⟨rfl, hb6⟩
    have ks6 := ks5.on hb6
    have kc6 := kc5.on hb6
    have kx6 := kx5.on hb6
    have hB6 := on_ hB5 hb6
    have HR6 := Lib.hid (HR5.out.on hb6)
    have HO6 := Lib.hid (HO5.out.on hb6)
    clear ks5 kc5 kx5 hB5 HR5 HO5 hb6 rs5 rc5 rx5
    have rs6 := ks6.rule
    have rc6 := kc6.rule
    have rx6 := kx6.rule
    go_wp2_with fail
    refine (stores_any _).mono ?_
    rintro e wa ⟨rfl, hba⟩
    have hBa := on_ hB6 hba
    clear hba
    go_wp2_with fail
    refine (implNew_any _).mono ?_
    rintro e wb ⟨A5, d5, rfl, _, ho5, hb5⟩
    have hBb := on_ hBa hb5
    have HNB : Hid (stB [0, 0, 0, 0] 0 = true) := by show _ = _; decide
    go_wp2_with fail
    refine (implStoreOk_is true A5 d5 [0, 0, 0, 0] 0 HNB.out _ ho5.rd (by simp)).mono ?_
    rintro e wd ⟨rfl, hbd⟩
    have hBd := on_ hBb hbd
    clear hBa hBb hb5 hbd ho5
    go_wp2
    go_ret
    exact ⟨rfl, hBd⟩
  · have hq' := hq
    unfold doQ at hq'
    simp only [Bool.and_eq_true, decide_eq_true_eq] at hq'
    obtain ⟨⟨hs, hp⟩, hm9⟩ := hq'
    obtain ⟨l4, hm0, _, hall⟩ := stB_yes hs
    obtain ⟨hk0, hk1, hy0, hy1, hz0, hz1, _⟩ := cmdB_yes hp
    obtain ⟨y, rfl⟩ : ∃ z : Nat, y = z := ⟨y.toNat, by omega⟩
    obtain ⟨e1, e2, e3⟩ := do_yes hq
    have hin := inR_of hs
    have hin2 : inR (doX xs k y z) := doX_in hin hz0 (by omega) (by omega)
    have hok2 := stB_of hin2 (m := m + 1) (by omega) (by omega)
    have hat := fun j (hj : j < 4) => dox_at (k := k) (n := z) (y := y) (j := j) (by omega : y < xs.length) (by omega)
    obtain ⟨r, hre⟩ : ∃ r, xs.getD y 0 = r := ⟨_, rfl⟩
    rw [hre] at e3 hat
    obtain ⟨us, hus⟩ : ∃ us, doX xs k y z = us := ⟨_, rfl⟩
    rw [hus] at e1 hok2 hat hin2
    have hr01 := hin.2 y (by omega)
    rw [hre] at hr01
    obtain ⟨hr0, hr1⟩ := hr01
    have hu4 := hin2.1
    have H1 := Lib.hid e1; have H2 := Lib.hid e2; have H3 := Lib.hid e3; have HS := Lib.hid hs; have HP := Lib.hid hp; have HOK := Lib.hid hok2; have HAT := Lib.hid hat; have HL := Lib.hid l4; have HU := Lib.hid hu4; have HRE := Lib.hid hre
    clear e1 e2 e3 hs hp hok2 hat l4 hu4 hall hin hin2 hq hus hre
    have hW1 : IntKind.i64.wrap (m + 1) = m + 1 := IntWalk.i64_in _ (by omega)
    go_wp2_with fail
    generalize (w1.alloc (.cells #[.slice B xs.length d, .int .i64 m] 36)).alloc (.cells #[.int .i64 k, .int .i64 y, .int .i64 z] 24) = w2 at *
    refine (do_at B d xs us m k y z (m + 1) (r) H1.out H2.out H3.out w2 HR2.out hxl').mono ?_
    rintro e w3 ⟨C, e3, rfl, ho3, hb3⟩
    have ks4 := (ks2.on hb3).alloc (.cells #[.slice C us.length e3, .int .i64 (m + 1)] 36)
    have kc4 := (kc2.on hb3).alloc (.cells #[.slice C us.length e3, .int .i64 (m + 1)] 36)
    have kx4 := Blk.new w3 36 #[.slice C us.length e3, .int .i64 (m + 1)]
    have hB4 := up_ (on_ hB2 hb3) (.cells #[.slice C us.length e3, .int .i64 (m + 1)] 36)
    have HR4 := Lib.hid ((HR2.out.on hb3).up (.cells #[.slice C us.length e3, .int .i64 (m + 1)] 36))
    have HO4 := Lib.hid ((ho3.rd).up (.cells #[.slice C us.length e3, .int .i64 (m + 1)] 36))
    clear ks2 kc2 hB2 HR2 ho3 hb3
    have rs4 := ks4.rule
    have rc4 := kc4.rule
    have rx4 := kx4.rule
    go_wp2_with fail
    refine (specStoreOk_is true B d xs m HS.out _ HR4.out hxl').mono ?_
    rintro e w5 ⟨rfl, hb5⟩
    have ks5 := ks4.on hb5
    have kc5 := kc4.on hb5
    have kx5 := kx4.on hb5
    have hB5 := on_ hB4 hb5
    have HR5 := Lib.hid (HR4.out.on hb5)
    have HO5 := Lib.hid (HO4.out.on hb5)
    clear ks4 kc4 kx4 hB4 HR4 HO4 hb5 rs4 rc4 rx4
    have rs5 := ks5.rule
    have rc5 := kc5.rule
    have rx5 := kx5.rule
    go_wp2_with fail
    refine (specCmdOk_is true k y z HP.out _).mono ?_
    rintro e w6 ⟨rfl, hb6⟩
    have ks6 := ks5.on hb6
    have kc6 := kc5.on hb6
    have kx6 := kx5.on hb6
    have hB6 := on_ hB5 hb6
    have HR6 := Lib.hid (HR5.out.on hb6)
    have HO6 := Lib.hid (HO5.out.on hb6)
    clear ks5 kc5 kx5 hB5 HR5 HO5 hb6 rs5 rc5 rx5
    have rs6 := ks6.rule
    have rc6 := kc6.rule
    have rx6 := kx6.rule
    obtain ⟨b0, o0, rfl, hb0, hc0⟩ := HR6.out (by rw [HL.out]; omega)
    have hcy := hc0 y (by rw [HL.out]; omega)
    rw [HRE.out] at hcy
    rw [HL.out] at ks6 rs6
    rw [HU.out] at kx6 rx6
    rw [HL.out, HU.out]
    obtain ⟨bC, oC, rfl, hbC, hcC⟩ := HO6.out (by rw [HU.out]; omega)
    have HC0 := Lib.hid hc0; have HCC := Lib.hid hcC
    have hnr : (r != r) = false := by simp
    have hnm : (m + 1 != m + 1) = false := by simp
    have HSO : Hid (∀ W : World, RdI W W.heap.size (some ⟨bC, oC, none⟩) us → Calls Try.prog 28 #[.agg #[.slice (some ⟨bC, oC, none⟩) 4 e3, .int .i64 (m + 1)]] W fun e w' => e = .returned (.bool true) ∧ Below W.heap.size W w') := fun W h => by
      have := implStoreOk_is true (some ⟨bC, oC, none⟩) e3 us (m + 1) HOK.out W h (by rw [HU.out]; omega)
      rwa [HU.out] at this
    clear hc0 hcC
    go_wp2_with fail
    refine (HSO.out _ HO6.out).mono ?_
    rintro e w7 ⟨rfl, hb7⟩
    have ks7 := ks6.on hb7
    have kc7 := kc6.on hb7
    have kx7 := kx6.on hb7
    have hB7 := on_ hB6 hb7
    have HR7 := Lib.hid (HR6.out.on hb7)
    have HO7 := Lib.hid (HO6.out.on hb7)
    have HD0 : Hid (∀ i, i < xs.length → w7.cell? ⟨b0, o0 + i, none⟩ = some (.int .i64 (xs.getD i 0))) := fun i hi => (hb7.cell (p := ⟨b0, o0 + i, none⟩) hb0).trans (HC0.out i hi)
    have HDC : Hid (∀ i, i < us.length → w7.cell? ⟨bC, oC + i, none⟩ = some (.int .i64 (us.getD i 0))) := fun i hi => (hb7.cell (p := ⟨bC, oC + i, none⟩) hbC).trans (HCC.out i hi)
    clear hcy
    clear ks6 kc6 kx6 hB6 HR6 HO6 hb7 rs6 rc6 rx6
    have rs7 := ks7.rule
    have rc7 := kc7.rule
    have rx7 := kx7.rule
    go_wp2
    go_loop [7] (fun i => ∃ j : Nat, j ≤ 4 ∧ i = .int .i64 j) (fun i => 4 - (intOf i).toNat)
    case atStart => exact ⟨0, by omega, rfl⟩
    case round =>
      obtain ⟨j, hj, rfl⟩ := hrel
      by_cases hlj : j < 4
      · have hca := HD0.out j (by rw [HL.out]; exact hlj)
        have hcb := HDC.out j (by rw [HU.out]; exact hlj)
        have hju := HAT.out j hlj
        have j0 : (0 : Int) ≤ (j : Int) := by omega
        have j1 : (j : Int) < 4 := by omega
        by_cases e : j = y
        · rw [if_pos e] at hju
          subst e
          rw [HRE.out] at hca
          rw [hju] at hcb
          clear hju
          have hjj : ((j : Int) == (j : Int)) = true := by simp
          rcases (show k = 0 ∨ k = 1 ∨ k = 2 by omega) with rfl | rfl | rfl
          · have hd : doN 0 z r = r := by unfold doN; rw [if_neg (by decide), if_neg (by decide)]
            rw [hd] at hcb
            clear hd
            go_wp2
            go_round
            case rel => exact ⟨j + 1, by omega, by go_num⟩
            case measure => simp [intOf]; omega
          · have hd : doN 1 z r = z := by unfold doN; rw [if_pos rfl]
            rw [hd] at hcb
            clear hd
            have hzz : (z != z) = false := by simp
            go_wp2
            go_round
            case rel => exact ⟨j + 1, by omega, by go_num⟩
            case measure => simp [intOf]; omega
          · by_cases hsum : r + z ≤ 1000
            · have hd : doN 2 z r = r + z := by unfold doN growN; rw [if_neg (by decide), if_pos rfl, if_pos hsum]
              rw [hd] at hcb
              clear hd
              have hzz : (r + z != r + z) = false := by simp
              go_wp2
              go_round
              case rel => exact ⟨j + 1, by omega, by go_num⟩
              case measure => simp [intOf]; omega
            · have hsum' : 1000 < r + z := by omega
              have hd : doN 2 z r = r := by unfold doN growN; rw [if_neg (by decide), if_pos rfl, if_neg hsum]
              rw [hd] at hcb
              clear hd hsum
              go_wp2
              go_round
              case rel => exact ⟨j + 1, by omega, by go_num⟩
              case measure => simp [intOf]; omega
        · rw [if_neg e] at hju
          rw [hju] at hcb
          clear hju
          have hjj : ((j : Int) == (y : Int)) = false := by simp; omega
          clear e
          generalize xs.getD j 0 = a at *
          have haa : (a != a) = false := by simp
          go_wp2
          go_round
          case rel => exact ⟨j + 1, by omega, by go_num⟩
          case measure => simp [intOf]; omega
      · go_wp2_with fail
        refine (stores_any _).mono ?_
        rintro e wa ⟨rfl, hba⟩
        go_wp2
        go_ret
        exact ⟨rfl, on_ hB7 hba⟩

theorem closed : joinedFacts Try.prog 4 Try.f4 Rows.fnStoresSpec Rows.fnStoresRow = true := by
  unfold joinedFacts
  rw [D.make_is, D.enter_is, D.final_is]
  kernel_rfl

set_option maxRecDepth 100000 in
theorem lifted (os : Os) (started : os.Started) (H : Type) (enc : TypeId × Value → H) :
    ReturnsInHanded {} Try.checked os 4 .any (Rows.fnStoresSpec.pre6 enc Try.prog Try.f4 Rows.fnStoresRow.domain false) (Rows.fnStoresSpec.post enc Try.prog Try.f4 false true false false) := by
  refine returnsInHanded_of_change (C := Try.checked) D.own started (by kernel_rfl) Try.func4
    (ChangeSpec.witness6 (enc := enc) (C := Try.checked) false ⟨#[], #[.slice none 0 0], []⟩ 8 (by kernel_rfl) (by kernel_rfl) (by kernel_rfl) (by kernel_rfl)) ?_
  intro W base args ds gs before hval0 hW hcnd _
  have hval : ∀ (j : Nat) t v, Try.f4.params[j]? = some t → args[j]? = some v → Value.okWide Try.prog W .any base t v := hval0
  have hW' := hW
  obtain ⟨p, q, hA0, hV, rfl, hfz, hnd⟩ := hW
  have hA : DataW.TrodAll enc Try.prog W 0 (fun _ => true) true Try.f4.params.toList args.toList ds p := hA0
  rw [Try.params4] at hA hval
  obtain ⟨v0, d0, rfl, rfl, h0⟩ := trodAll_one hA
  obtain ⟨a0, len0, cap0, rfl⟩ := okWide_slice Try.underlying22 (hval 0 22 v0 rfl rfl)
  obtain ⟨fuel0, hf0⟩ := h0
  obtain ⟨Ab, nb, cb, hcs0, hmb, hrb⟩ := open_code hf0
  have hv0 : (Value.slice a0 len0 cap0) = .slice Ab nb cb := by simpa [Value.cells] using hcs0
  rw [hv0] at hW' ⊢
  refine (walk Ab nb cb hmb W hrb).mono fun e W' ⟨he, hb⟩ => ⟨_, he, law_post D.laidOut hW' hb rfl (by kernel_rfl) Try.underlying4 (by kernel_rfl) rfl⟩

theorem over : Rows.fnStoresRow.holds Try.pinned (OpenSpec.ofChange Rows.fnStoresSpec) :=
  OpenClaim.holds_of_wide 4 Try.f4 rfl rfl rfl rfl rfl rfl rfl ⟨rfl, rfl, rfl, rfl, rfl⟩ rfl rfl rfl rfl rfl (by kernel_rfl) Try.func4 closed
    (of_decide_eq_true (by kernel_rfl)) (by unfold Func.isWrapper; first | (rw [if_pos (by decide +kernel)]; kernel_rfl) | (rw [if_neg (by decide +kernel)]; exact ⟨rfl, rfl⟩))
    (fun os started H enc _ => lifted os started H enc)

theorem proved : Rows.FnStoresSaid :=
  over
end Go.Proofs.Ytfebeafonifpdaa.fnStores
