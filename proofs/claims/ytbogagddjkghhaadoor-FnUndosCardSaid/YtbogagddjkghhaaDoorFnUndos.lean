/-
  Proved here: for whatever bytes of a draw, the law FnUndos of a store and one command answers true. No condition.
-/
import Derived.Test.YtbogagddjkghhaaDoorRows
import Derived.Test.YtbogagddjkghhaaDoorCards
import Derived.Test.YtbogagddjkghhaaDoorTie
import Derived.Test.YtbogagddjkghhaaDoorDoor
import Derived.Test.YtbogagddjkghhaaDoorDraw8
import Derived.Test.YtbogagddjkghhaaDoorStUn
import Derived.Test.YtbogagddjkghhaaDoorStS
import Derived.Test.YtbogagddjkghhaaDoorStTp
import Derived.Test.YtbogagddjkghhaaDoorSame
import Derived.Test.YtbogagddjkghhaaDoorLift
import Derived.Deep.RegionHeld3
import Derived.SevenTiedAt
import Derived.OpenShut
import Derived.LaidMore
import Derived.Lay
import Derived.Stop.Joined
set_option linter.unusedVariables false
set_option maxRecDepth 100000
namespace Go.Proofs.YtbogagddjkghhaaDoor.fnUndos
open Go.RowKit Go.ChangeShapes Go.WideShapes Go.Proofs.YtbogagddjkghhaaDoor.B Go.Proofs.YtbogagddjkghhaaDoor.V
theorem tabU_at {W : World} (h : laidMetH Tryd.prog Rows.fnUndosRow.laid W) : Lib.TabIs Tryd.prog W "internal/strconv.uint64pow10" .u64 Lib.pow10Tab := by
  rw [MakeChecks.laidMetH_plain _ _ _ (by kernel_rfl)] at h
  obtain ⟨ps, ⟨_, _, _, _, _, q1, _, _, _, _, h2, _⟩, _⟩ := h
  obtain ⟨_, _, _, _, _, q2, _, _, _, _, h3, _⟩ := h2
  obtain ⟨g, t, cs, fuel, p, q, hg, ht, hv, hd, _, _⟩ := h3
  obtain rfl := Option.some.inj ((show Tryd.prog.globalNamed "internal/strconv.uint64pow10" = some 1 by kernel_rfl).symm.trans hg)
  obtain rfl := Option.some.inj ((show (Tryd.prog.globals[1]?).map (·.type) = some 156 by kernel_rfl).symm.trans ht)
  have e : (Rows.laid_internal_strconv_uint64pow10 : DataW Unit) = Lib.tabData .u64 Lib.pow10Tab := rfl
  rw [e] at hd
  unfold Lib.TabIs
  rw [hv, ← Lib.cells_of_tab Tryd.underlying156 Tryd.underlying150 (by kernel_rfl) (by kernel_rfl) hd]
theorem dox_at {xs : List Int} {k n : Int} {y j : Nat} (hy : y < xs.length) (hj : j < xs.length) : (doX xs k y n).getD j 0 = if j = y then doN k n (xs.getD y 0) else xs.getD j 0 := by
  unfold doX
  by_cases e : j = y
  · subst e
    rw [if_pos rfl, List.getD_eq_getElem?_getD, List.getElem?_set_self hy]; rfl
  · rw [if_neg e, List.getD_eq_getElem?_getD, List.getElem?_set_ne (Ne.symm e), List.getD_eq_getElem?_getD]
theorem stB_of {xs : List Int} {m : Int} (h : inR xs) (h0 : 0 ≤ m) (h1 : m ≤ 1000) : stB xs m = true := by
  unfold stB
  rw [all_at (fun j hj => by unfold inB; exact decide_eq_true (h.2 j (by rw [← h.1]; exact hj))), Bool.and_true]
  exact decide_eq_true ⟨h.1, h0, h1⟩
theorem do_at (A : Option Addr) (c : Nat) (vs us : List Int) (m k y n m2 r : Int) (h1 : doU vs m k y n = us) (h2 : doM vs m k y n = m2) (h3 : doR vs m k y n = r) (w : World) (hr : RdI w w.heap.size A vs) (hn : vs.length ≤ 1048576) :
    Calls Tryd.prog 20 #[.agg #[.slice A vs.length c, .int .i64 m], .agg #[.int .i64 k, .int .i64 y, .int .i64 n]] w (SG us m2 (.int .i64 r) w) := by rw [← h1, ← h2, ← h3]; exact implStoreDo_any A c vs m k y n w hr hn
theorem un_at (A : Option Addr) (c : Nat) (us xs : List Int) (m m2 k y n r : Int) (h1 : unU us m k y n r = xs) (h2 : unM us m k y n r = m2) (h3 : unQ us m k y n r = true) (w : World) (hr : RdI w w.heap.size A us) (hn : us.length ≤ 1048576) :
    Calls Tryd.prog 22 #[.agg #[.slice A us.length c, .int .i64 m], .agg #[.int .i64 k, .int .i64 y, .int .i64 n], .int .i64 r] w (SG xs m2 (.bool true) w) := by have h := implUndo_any A c us m k y n r w hr hn; rw [h1, h2, h3] at h; exact h
theorem same_at (A B : Option Addr) (c d : Nat) (xs : List Int) (m : Int) (h : stB xs m = true) (w : World) (hr : RdI w w.heap.size A xs) (hs : RdI w w.heap.size B xs) (hn : xs.length ≤ 1048576) :
    Calls Tryd.prog 23 #[.agg #[.slice A xs.length c, .int .i64 m], .agg #[.slice B xs.length d, .int .i64 m]] w fun e w' => e = .returned (.bool true) ∧ Below w.heap.size w w' := by
  have e : sameB xs m xs m = true := by unfold sameB; rw [h]; simp
  have := implSame_any A B c d xs xs m m w hr hs hn hn
  rwa [e] at this
theorem text_at (k y z : Int) (h : cmdB k y z = true) (w : World) : Calls Tryd.prog 25 #[.agg #[.int .i64 k, .int .i64 y, .int .i64 z]] w fun e w' => ∃ g n cap : Nat, e = .returned (.slice (some ⟨g, 0, none⟩) (n + 1) cap) ∧ Below w.heap.size w w' := by
  obtain ⟨h1, h2, h3, h4, h5, h6, h7⟩ := cmdB_yes h
  obtain ⟨b, rfl⟩ : ∃ b : Nat, y = b := ⟨y.toNat, by omega⟩
  obtain ⟨c, rfl⟩ : ∃ c : Nat, z = c := ⟨z.toNat, by omega⟩
  rcases (by omega : k = 0 ∨ k = 1 ∨ k = 2) with rfl | rfl | rfl
  · obtain rfl : c = 0 := by have := h7 rfl; omega
    refine (implCT0 b (by omega) w).mono ?_
    rintro e w' ⟨g, cap, rfl, _, _, hb⟩
    exact ⟨g, _, cap, rfl, hb⟩
  · refine (implCT1 b c (by omega) (by omega) w).mono ?_
    rintro e w' ⟨g, cap, rfl, _, _, hb⟩
    exact ⟨g, _, cap, rfl, hb⟩
  · refine (implCT2 b c (by omega) (by omega) w).mono ?_
    rintro e w' ⟨g, cap, rfl, _, _, hb⟩
    exact ⟨g, _, cap, rfl, hb⟩
/-- What the operations of the law's last row yield. -/
def UV (ay az : Nat) (D B : Option Addr) (f5 d : Nat) (xs bs : List Int) (M : Nat) (k y z : Int) (j : Nat) (u : Value) (w' : World) : Prop :=
  match j with
  | 0 => u = .bool true
  | 1 => u = .bool true
  | 2 => u = .agg #[.slice D xs.length f5, .int .i64 (M : Int)]
  | 3 => u = .agg #[.slice B xs.length d, .int .i64 (M : Int)]
  | 4 => u = .bool true
  | 5 => u = .bool true
  | 6 => u = .bool true
  | 7 => u = .pointer (some ⟨ay, 1, none⟩)
  | 8 => u = .int .i64 (M : Int)
  | 9 => u = .pointer (some ⟨az, 1, none⟩)
  | 10 => u = .int .i64 (M : Int)
  | 11 => u = .bool true
  | 12 => u = .bool true
  | 13 => u = .bool true
  | 14 => u = .agg #[.slice D xs.length f5, .int .i64 (M : Int)]
  | 15 => ∃ g cap, u = .slice (some ⟨g, 0, none⟩) bs.length cap ∧ CRow w' g cap bs.length (u8s bs)
  | 16 => u = .agg #[.slice B xs.length d, .int .i64 (M : Int)]
  | 17 => ∃ g cap, u = .slice (some ⟨g, 0, none⟩) bs.length cap ∧ CRow w' g cap bs.length (u8s bs)
  | 18 => u = .bool true
  | 19 => u = .bool true
  | 20 => u = .bool true
  | 21 => u = .agg #[.int .i64 k, .int .i64 y, .int .i64 z]
  | 22 => ∃ g n cap : Nat, u = .slice (some ⟨g, 0, none⟩) (n + 1) cap
  | 23 => ∃ n : Nat, u = .int .i64 ((n : Int) + 1)
  | 24 => u = .bool true
  | 25 => u = .bool true
  | 26 => u = .bool true
  | 27 => u = .bool true
  | 28 => u = .bool true
  | 29 => u = .bool true
  | _ => True
theorem UV.keep {ay az : Nat} {D B : Option Addr} {f5 d : Nat} {xs bs : List Int} {M : Nat} {k y z : Int} : ∀ j u w1 w2, UV ay az D B f5 d xs bs M k y z j u w1 → Below w1.heap.size w1 w2 → UV ay az D B f5 d xs bs M k y z j u w2 := by
  intro j u w1 w2 h hb
  match j, h with
  | 0, h => exact h
  | 1, h => exact h
  | 2, h => exact h
  | 3, h => exact h
  | 4, h => exact h
  | 5, h => exact h
  | 6, h => exact h
  | 7, h => exact h
  | 8, h => exact h
  | 9, h => exact h
  | 10, h => exact h
  | 11, h => exact h
  | 12, h => exact h
  | 13, h => exact h
  | 14, h => exact h
  | 15, h => obtain ⟨g, cap, e, hc⟩ := h; exact ⟨g, cap, e, hc.on hb⟩
  | 16, h => exact h
  | 17, h => obtain ⟨g, cap, e, hc⟩ := h; exact ⟨g, cap, e, hc.on hb⟩
  | 18, h => exact h
  | 19, h => exact h
  | 20, h => exact h
  | 21, h => exact h
  | 22, h => exact h
  | 23, h => exact h
  | 24, h => exact h
  | 25, h => exact h
  | 26, h => exact h
  | 27, h => exact h
  | 28, h => exact h
  | 29, h => exact h
  | _ + 30, _ => trivial
set_option maxHeartbeats 6400000 in
theorem walk (A : Option Addr) (n c : Nat) (hm : n ≤ maxLen) (w : World) (hr : RdC w w.heap.size A n) (htab : TabAt w) :
    Calls Tryd.prog 4 #[.slice A n c] w fun e w' => e = .returned (.bool true) ∧ Below w.heap.size w w' := by
  have HTAB := Lib.hid htab; clear htab
  go_enter Tryd.func4, Tryd.ntmps4
  go_wp2_with fail
  refine (drawStoreDo_any A n c hm w hr).mono ?_
  rintro e w1 ⟨B, d, xs, m, k, y, z, rfl, hxl, hrd, hb1⟩
  have ks2 := (Blk.new w1 46 #[.slice B xs.length d, .int .i64 m]).alloc (.cells #[.int .i64 k, .int .i64 y, .int .i64 z] 48)
  have kc2 := Blk.new (w1.alloc (.cells #[.slice B xs.length d, .int .i64 m] 46)) 48 #[.int .i64 k, .int .i64 y, .int .i64 z]
  simp only [World.size_alloc] at kc2
  have hB2 := up_ (up_ hb1 (.cells #[.slice B xs.length d, .int .i64 m] 46)) (.cells #[.int .i64 k, .int .i64 y, .int .i64 z] 48)
  have HR2 := Lib.hid ((hrd.up (.cells #[.slice B xs.length d, .int .i64 m] 46)).up (.cells #[.int .i64 k, .int .i64 y, .int .i64 z] 48))
  clear hb1 hr hrd
  have hxl' : xs.length ≤ 1048576 := by omega
  obtain ⟨q, hq⟩ : ∃ q, doQ xs m k y z = q := ⟨_, rfl⟩
  cases q
  · obtain ⟨e1, e2, e3⟩ := do_no hq
    have H1 := Lib.hid e1; have H2 := Lib.hid e2; have H3 := Lib.hid e3
    clear e1 e2 e3
    go_wp2_with fail
    generalize (w1.alloc (.cells #[.slice B xs.length d, .int .i64 m] 46)).alloc (.cells #[.int .i64 k, .int .i64 y, .int .i64 z] 48) = w2 at *
    refine (do_at B d xs [] m k y z (0) (-1) H1.out H2.out H3.out w2 HR2.out hxl').mono ?_
    rintro e w3 ⟨C, e3, rfl, ho3, hb3⟩
    have ks4 := (ks2.on hb3).alloc (.cells #[.slice C 0 e3, .int .i64 (0)] 46)
    have kc4 := (kc2.on hb3).alloc (.cells #[.slice C 0 e3, .int .i64 (0)] 46)
    have kx4 := Blk.new w3 46 #[.slice C 0 e3, .int .i64 (0)]
    have hB4 := up_ (on_ hB2 hb3) (.cells #[.slice C 0 e3, .int .i64 (0)] 46)
    have HR4 := Lib.hid ((HR2.out.on hb3).up (.cells #[.slice C 0 e3, .int .i64 (0)] 46))
    have HO4 := Lib.hid ((ho3.rd).up (.cells #[.slice C 0 e3, .int .i64 (0)] 46))
    clear ks2 kc2 hB2 HR2 ho3 hb3
    have rs4 := ks4.rule
    have rc4 := kc4.rule
    have rx4 := kx4.rule
    go_wp2_with fail
    refine (stores_any _).mono ?_
    rintro e wa ⟨rfl, hba⟩
    go_wp2
    go_ret
    exact ⟨rfl, on_ hB4 hba⟩
  · have hq' := hq
    unfold doQ at hq'
    simp only [Bool.and_eq_true, decide_eq_true_eq] at hq'
    obtain ⟨⟨hs, hp⟩, hm9⟩ := hq'
    obtain ⟨l4, hm0, _, hall⟩ := stB_yes hs
    obtain ⟨hk0, hk1, hy0, hy1, hz0, hz1, _⟩ := cmdB_yes hp
    obtain ⟨y, rfl⟩ : ∃ z : Nat, y = z := ⟨y.toNat, by omega⟩
    obtain ⟨e1, e2, e3⟩ := do_yes hq
    have hin := inR_of hs
    have hin2 : inR (doX xs k y z) := doX_in hin hz0 (by omega) (by omega)
    have hok2 := stB_of hin2 (m := m + 1) (by omega) (by omega)
    have hat := fun j (hj : j < 4) => dox_at (k := k) (n := z) (y := y) (j := j) (by omega : y < xs.length) (by omega)
    obtain ⟨r, hre⟩ : ∃ r, xs.getD y 0 = r := ⟨_, rfl⟩
    rw [hre] at e3 hat
    obtain ⟨us, hus⟩ : ∃ us, doX xs k y z = us := ⟨_, rfl⟩
    rw [hus] at e1 hok2 hat hin2
    have hr01 := hin.2 y (by omega)
    rw [hre] at hr01
    obtain ⟨hr0, hr1⟩ := hr01
    have hu4 := hin2.1
    have hus2 : us.set y r = xs := by rw [← hus, ← hre]; unfold doX; rw [List.set_set]; exact set_same xs y
    have huq : unQ us (m + 1) k y z r = true := by
      unfold unQ
      rw [hok2, hp]
      simp [inB, hr0, hr1]
      omega
    obtain ⟨u1, u2, u3⟩ := un_yes huq
    rw [hus2] at u1
    rw [show m + 1 - 1 = m by omega] at u2
    have U1 := Lib.hid u1; have U2 := Lib.hid u2; have U3 := Lib.hid u3
    clear u1 u2 u3 hus2 huq
    have H1 := Lib.hid e1; have H2 := Lib.hid e2; have H3 := Lib.hid e3; have HS := Lib.hid hs; have HP := Lib.hid hp; have HOK := Lib.hid hok2; have HAT := Lib.hid hat; have HL := Lib.hid l4; have HU := Lib.hid hu4; have HRE := Lib.hid hre
    clear e1 e2 e3 hs hp hok2 hat l4 hu4 hall hin hin2 hq hus hre
    have hW1 : IntKind.i64.wrap (m + 1) = m + 1 := IntWalk.i64_in _ (by omega)
    go_wp2_with fail
    generalize (w1.alloc (.cells #[.slice B xs.length d, .int .i64 m] 46)).alloc (.cells #[.int .i64 k, .int .i64 y, .int .i64 z] 48) = w2 at *
    refine (do_at B d xs us m k y z (m + 1) (r) H1.out H2.out H3.out w2 HR2.out hxl').mono ?_
    rintro e w3 ⟨C, e3, rfl, ho3, hb3⟩
    have ks4 := (ks2.on hb3).alloc (.cells #[.slice C us.length e3, .int .i64 (m + 1)] 46)
    have kc4 := (kc2.on hb3).alloc (.cells #[.slice C us.length e3, .int .i64 (m + 1)] 46)
    have kx4 := Blk.new w3 46 #[.slice C us.length e3, .int .i64 (m + 1)]
    have hB4 := up_ (on_ hB2 hb3) (.cells #[.slice C us.length e3, .int .i64 (m + 1)] 46)
    have HR4 := Lib.hid ((HR2.out.on hb3).up (.cells #[.slice C us.length e3, .int .i64 (m + 1)] 46))
    have HO4 := Lib.hid ((ho3.rd).up (.cells #[.slice C us.length e3, .int .i64 (m + 1)] 46))
    clear ks2 kc2 hB2 HR2 ho3 hb3
    have rs4 := ks4.rule
    have rc4 := kc4.rule
    have rx4 := kx4.rule
    go_wp2_with fail
    refine (un_at C e3 us xs (m + 1) m k y z r U1.out U2.out U3.out _ HO4.out (by rw [HU.out]; omega)).mono ?_
    rintro e w5 ⟨D, f5, rfl, ho5, hb5⟩
    have ks5 := ks4.on hb5
    have kc5 := kc4.on hb5
    have or5 := HR4.out.on hb5
    have oo5 := ho5.rd
    have hB5 := on_ hB4 hb5
    clear ks4 kc4 kx4 HR4 HO4 hB4 ho5 hb5 rs4 rc4 rx4
    have rs5 := ks5.rule
    have zs5 := ks5.lt
    have rc5 := kc5.rule
    have zc5 := kc5.lt
    have hmm : (m == m) = true := by simp
    obtain ⟨M, rfl⟩ : ∃ M : Nat, m = M := ⟨m.toNat, by omega⟩
    have ky6 := Blk.new w5 46 #[.slice D xs.length f5, .int .i64 (M : Int)]
    have ks6 := Blk.alloc ks5 (.cells #[.slice D xs.length f5, .int .i64 (M : Int)] 46)
    have kc6 := Blk.alloc kc5 (.cells #[.slice D xs.length f5, .int .i64 (M : Int)] 46)
    have or6 := RdI.up or5 (.cells #[.slice D xs.length f5, .int .i64 (M : Int)] 46)
    have oo6 := RdI.up oo5 (.cells #[.slice D xs.length f5, .int .i64 (M : Int)] 46)
    have hB6 := up_ hB5 (.cells #[.slice D xs.length f5, .int .i64 (M : Int)] 46)
    have hsz6 : (w5.alloc (.cells #[.slice D xs.length f5, .int .i64 (M : Int)] 46)).heap.size = w5.heap.size + 1 := World.size_alloc _ _
    clear ks5 kc5 or5 oo5 hB5
    clear rs5 zs5 rc5 zc5
    have rrs := ks6.rule
    have rrc := kc6.rule
    go_wp2_with fail
    generalize w5.alloc (.cells #[.slice D xs.length f5, .int .i64 (M : Int)] 46) = w6 at *
    clear rrs rrc
    have rs6 := ks6.rule
    have zs6 := ks6.lt
    have rc6 := kc6.rule
    have zc6 := kc6.lt
    have ry6 := ky6.rule
    have zy6 := ky6.lt
    obtain ⟨bs, hbs⟩ : ∃ bs, stT xs M 4 = bs := ⟨_, rfl⟩
    have HTX := Lib.hid (fun A c W ht h => implST A c xs M W ht h HS.out)
    rw [hbs] at HTX
    clear hbs
    have KY := Lib.hid ky6; have KS := Lib.hid ks6; have KC := Lib.hid kc6; have OO := Lib.hid oo6; have OR := Lib.hid or6; have HB := Lib.hid hB6
    clear ky6 ks6 kc6 oo6 or6 hB6
    refine wp_region_grow ?_ ?_ (UV w5.heap.size w1.heap.size D B f5 d xs bs M k y z) (by kernel_rfl) (by kernel_rfl) (by kernel_rfl) UV.keep ?_ ?_
    rotate_left
    · intro us; simp only [putL]; go_simp; exact rfl
    · refine Each.cons ?_ (Each.cons ?_ (Each.cons ?_ (Each.cons ?_ (Each.cons ?_ (Each.cons ?_ (Each.cons ?_ (Each.cons ?_ (Each.cons ?_ (Each.cons ?_ (Each.cons ?_ (Each.cons ?_ (Each.cons ?_ (Each.cons ?_ (Each.cons ?_ (Each.cons ?_ (Each.cons ?_ (Each.cons ?_ (Each.cons ?_ (Each.cons ?_ (Each.cons ?_ (Each.cons ?_ (Each.cons ?_ (Each.cons ?_ (Each.cons ?_ (Each.cons ?_ (Each.cons ?_ (Each.cons ?_ (Each.cons ?_ (Each.cons ?_ (Each.nil))))))))))))))))))))))))))))))
      · intro us wx hW hD Q K hK
        go_simp
        exact hK _ _ (.bool true) (by go_simp) (Below.refl _ _) rfl
      · intro us wx hW hD Q K hK
        have e0 : us 0 = .bool true := hD 0 (by decide)
        go_simp
        exact hK _ _ (.bool true) (by go_simp) (Below.refl _ _) rfl
      · intro us wx hW hD Q K hK
        have e1 : us 1 = .bool true := hD 1 (by decide)
        have rk := (KY.out.below hW KY.out.lt).rule
        go_simp
        exact hK _ _ (.agg #[.slice D xs.length f5, .int .i64 (M : Int)]) (by go_simp) (Below.refl _ _) rfl
      · intro us wx hW hD Q K hK
        have e1 : us 1 = .bool true := hD 1 (by decide)
        have rk := (KS.out.below hW KS.out.lt).rule
        go_simp
        exact hK _ _ (.agg #[.slice B xs.length d, .int .i64 (M : Int)]) (by go_simp) (Below.refl _ _) rfl
      · intro us wx hW hD Q K hK
        have e1 : us 1 = .bool true := hD 1 (by decide)
        have e2 : us 2 = .agg #[.slice D xs.length f5, .int .i64 (M : Int)] := hD 2 (by decide)
        have e3 : us 3 = .agg #[.slice B xs.length d, .int .i64 (M : Int)] := hD 3 (by decide)
        go_simp
        go_at_call 23
        refine (same_at _ _ _ _ xs M HS.out wx (OO.out.on hW) (OR.out.on hW) hxl').mono ?_
        rintro e w2 ⟨rfl, hb⟩
        exact hK _ _ (.bool true) (by go_simp) hb rfl
      · intro us wx hW hD Q K hK
        have e1 : us 1 = .bool true := hD 1 (by decide)
        have e4 : us 4 = .bool true := hD 4 (by decide)
        go_simp
        exact hK _ _ (.bool true) (by go_simp) (Below.refl _ _) rfl
      · intro us wx hW hD Q K hK
        have e5 : us 5 = .bool true := hD 5 (by decide)
        go_simp
        exact hK _ _ (.bool true) (by go_simp) (Below.refl _ _) rfl
      · intro us wx hW hD Q K hK
        have e6 : us 6 = .bool true := hD 6 (by decide)
        go_simp
        exact hK _ _ (.pointer (some ⟨w5.heap.size, 1, none⟩)) (by go_simp) (Below.refl _ _) rfl
      · intro us wx hW hD Q K hK
        have e6 : us 6 = .bool true := hD 6 (by decide)
        have e7 : us 7 = .pointer (some ⟨w5.heap.size, 1, none⟩) := hD 7 (by decide)
        have rk := (KY.out.below hW KY.out.lt).rule
        go_simp
        exact hK _ _ (.int .i64 (M : Int)) (by go_simp) (Below.refl _ _) rfl
      · intro us wx hW hD Q K hK
        have e6 : us 6 = .bool true := hD 6 (by decide)
        go_simp
        exact hK _ _ (.pointer (some ⟨w1.heap.size, 1, none⟩)) (by go_simp) (Below.refl _ _) rfl
      · intro us wx hW hD Q K hK
        have e6 : us 6 = .bool true := hD 6 (by decide)
        have e9 : us 9 = .pointer (some ⟨w1.heap.size, 1, none⟩) := hD 9 (by decide)
        have rk := (KS.out.below hW KS.out.lt).rule
        go_simp
        exact hK _ _ (.int .i64 (M : Int)) (by go_simp) (Below.refl _ _) rfl
      · intro us wx hW hD Q K hK
        have e6 : us 6 = .bool true := hD 6 (by decide)
        have e8 : us 8 = .int .i64 (M : Int) := hD 8 (by decide)
        have e10 : us 10 = .int .i64 (M : Int) := hD 10 (by decide)
        go_simp
        exact hK _ _ (.bool true) (by go_simp) (Below.refl _ _) rfl
      · intro us wx hW hD Q K hK
        have e6 : us 6 = .bool true := hD 6 (by decide)
        have e11 : us 11 = .bool true := hD 11 (by decide)
        go_simp
        exact hK _ _ (.bool true) (by go_simp) (Below.refl _ _) rfl
      · intro us wx hW hD Q K hK
        have e12 : us 12 = .bool true := hD 12 (by decide)
        go_simp
        exact hK _ _ (.bool true) (by go_simp) (Below.refl _ _) rfl
      · intro us wx hW hD Q K hK
        have e13 : us 13 = .bool true := hD 13 (by decide)
        have rk := (KY.out.below hW KY.out.lt).rule
        go_simp
        exact hK _ _ (.agg #[.slice D xs.length f5, .int .i64 (M : Int)]) (by go_simp) (Below.refl _ _) rfl
      · intro us wx hW hD Q K hK
        have e13 : us 13 = .bool true := hD 13 (by decide)
        have e14 : us 14 = .agg #[.slice D xs.length f5, .int .i64 (M : Int)] := hD 14 (by decide)
        go_simp
        go_at_call 24
        refine (HTX.out _ _ wx (tab_on HTAB.out (on_ HB.out hW)) (OO.out.on hW)).mono ?_
        rintro e w2 ⟨g, cap, rfl, hg, hc, hb⟩
        exact hK _ _ (.slice (some ⟨g, 0, none⟩) bs.length cap) (by go_simp) hb ⟨g, cap, rfl, hc⟩
      · intro us wx hW hD Q K hK
        have e13 : us 13 = .bool true := hD 13 (by decide)
        have rk := (KS.out.below hW KS.out.lt).rule
        go_simp
        exact hK _ _ (.agg #[.slice B xs.length d, .int .i64 (M : Int)]) (by go_simp) (Below.refl _ _) rfl
      · intro us wx hW hD Q K hK
        have e13 : us 13 = .bool true := hD 13 (by decide)
        have e16 : us 16 = .agg #[.slice B xs.length d, .int .i64 (M : Int)] := hD 16 (by decide)
        go_simp
        go_at_call 24
        refine (HTX.out _ _ wx (tab_on HTAB.out (on_ HB.out hW)) (OR.out.on hW)).mono ?_
        rintro e w2 ⟨g, cap, rfl, hg, hc, hb⟩
        exact hK _ _ (.slice (some ⟨g, 0, none⟩) bs.length cap) (by go_simp) hb ⟨g, cap, rfl, hc⟩
      · intro us wx hW hD Q K hK
        have e13 : us 13 = .bool true := hD 13 (by decide)
        obtain ⟨g15, c15, e15, r15⟩ := hD 15 (by decide)
        obtain ⟨g17, c17, e17, r17⟩ := hD 17 (by decide)
        go_simp
        go_at_call 18
        refine (same_any g15 g17 c15 c17 bs wx r15 r17).mono ?_
        rintro e w2 ⟨rfl, hb⟩
        exact hK _ _ (.bool true) (by go_simp) hb rfl
      · intro us wx hW hD Q K hK
        have e13 : us 13 = .bool true := hD 13 (by decide)
        have e18 : us 18 = .bool true := hD 18 (by decide)
        go_simp
        exact hK _ _ (.bool true) (by go_simp) (Below.refl _ _) rfl
      · intro us wx hW hD Q K hK
        have e19 : us 19 = .bool true := hD 19 (by decide)
        go_simp
        exact hK _ _ (.bool true) (by go_simp) (Below.refl _ _) rfl
      · intro us wx hW hD Q K hK
        have e20 : us 20 = .bool true := hD 20 (by decide)
        have rk := (KC.out.below hW KC.out.lt).rule
        go_simp
        exact hK _ _ (.agg #[.int .i64 k, .int .i64 y, .int .i64 z]) (by go_simp) (Below.refl _ _) rfl
      · intro us wx hW hD Q K hK
        have e20 : us 20 = .bool true := hD 20 (by decide)
        have e21 : us 21 = .agg #[.int .i64 k, .int .i64 y, .int .i64 z] := hD 21 (by decide)
        go_simp
        go_at_call 25
        refine (text_at k y z HP.out wx).mono ?_
        rintro e w2 ⟨g, n, cap, rfl, hb⟩
        exact hK _ _ (.slice (some ⟨g, 0, none⟩) (n + 1) cap) (by go_simp) hb ⟨g, n, cap, rfl⟩
      · intro us wx hW hD Q K hK
        have e20 : us 20 = .bool true := hD 20 (by decide)
        obtain ⟨g22, n22, c22, e22⟩ := hD 22 (by decide)
        go_simp
        exact hK _ _ (.int .i64 ((n22 : Int) + 1)) (by go_simp) (Below.refl _ _) ⟨n22, rfl⟩
      · intro us wx hW hD Q K hK
        have e20 : us 20 = .bool true := hD 20 (by decide)
        obtain ⟨n23, e23⟩ := hD 23 (by decide)
        have hpos : decide ((0 : Int) < (n23 : Int) + 1) = true := decide_eq_true (by omega)
        go_simp
        exact hK _ _ (.bool true) (by go_simp) (Below.refl _ _) rfl
      · intro us wx hW hD Q K hK
        have e20 : us 20 = .bool true := hD 20 (by decide)
        have e24 : us 24 = .bool true := hD 24 (by decide)
        go_simp
        exact hK _ _ (.bool true) (by go_simp) (Below.refl _ _) rfl
      · intro us wx hW hD Q K hK
        have e25 : us 25 = .bool true := hD 25 (by decide)
        go_simp
        exact hK _ _ (.bool true) (by go_simp) (Below.refl _ _) rfl
      · intro us wx hW hD Q K hK
        have e26 : us 26 = .bool true := hD 26 (by decide)
        go_simp
        go_at_call 21
        refine (stores_any wx).mono ?_
        rintro e w2 ⟨rfl, hb⟩
        exact hK _ _ (.bool true) (by go_simp) hb rfl
      · intro us wx hW hD Q K hK
        have e26 : us 26 = .bool true := hD 26 (by decide)
        have e27 : us 27 = .bool true := hD 27 (by decide)
        go_simp
        exact hK _ _ (.bool true) (by go_simp) (Below.refl _ _) rfl
      · intro us wx hW hD Q K hK
        have e28 : us 28 = .bool true := hD 28 (by decide)
        go_simp
        exact hK _ _ (.bool true) (by go_simp) (Below.refl _ _) rfl
    intro us w7 hall hb7
    have e29 : us 29 = .bool true := hall 29 (by decide)
    simp only [e29]
    clear e29 hall
    generalize us 0 = q0; generalize us 1 = q1; generalize us 2 = q2; generalize us 3 = q3; generalize us 4 = q4; generalize us 5 = q5; generalize us 6 = q6; generalize us 7 = q7; generalize us 8 = q8; generalize us 9 = q9; generalize us 10 = q10; generalize us 11 = q11; generalize us 12 = q12; generalize us 13 = q13; generalize us 14 = q14; generalize us 15 = q15; generalize us 16 = q16; generalize us 17 = q17; generalize us 18 = q18; generalize us 19 = q19; generalize us 20 = q20; generalize us 21 = q21; generalize us 22 = q22; generalize us 23 = q23; generalize us 24 = q24; generalize us 25 = q25; generalize us 26 = q26; generalize us 27 = q27; generalize us 28 = q28
    clear us
    go_wp2
    go_ret
    exact ⟨rfl, on_ HB.out hb7⟩

theorem closed : joinedFacts Tryd.prog 4 Tryd.f4 Rows.fnUndosSpec Rows.fnUndosRow = true := by
  unfold joinedFacts
  rw [D.make_is, D.enter_is, D.final_is]
  kernel_rfl

set_option maxRecDepth 100000 in
theorem lifted (os : Os) (started : os.Started) (H : Type) (enc : TypeId × Value → H) :
    ReturnsInHanded {} Tryd.checked os 4 .any (fun w args => (Rows.fnUndosSpec.pre enc Tryd.prog Tryd.f4 Rows.fnUndosRow.domain false w args ∧ laidMetH Tryd.prog Rows.fnUndosRow.laid w) ∧ sizedMet enc Tryd.prog Tryd.f4 (OpenSpec.ofChange Rows.fnUndosSpec) false w args)
      (Rows.fnUndosSpec.post enc Tryd.prog Tryd.f4 false true false false) := by
  refine returnsInHanded_of_change_and (C := Tryd.checked) (X := fun w _ => laidMetH Tryd.prog Rows.fnUndosRow.laid w) (fun _ _ _ hh h => h.of_heap hh) D.own started (by kernel_rfl) Tryd.func4
    (ChangeSpec.witness_shaped (enc := enc) (C := Tryd.checked) (os := os) (X := fun w _ => laidMetH Tryd.prog Rows.fnUndosRow.laid w) false (World.laidAll Tryd.prog os Rows.fnUndosRow.laid) #[.slice none 0 0] 8 (World.laidAll_os _ _ _)
      (World.shaped_of_ZipB (by kernel_rfl) (by kernel_rfl)) (by kernel_rfl) (by kernel_rfl) (by kernel_rfl)
      (by rw [MakeChecks.laidMetH_plain _ _ _ (by kernel_rfl)]; exact laidMet_laidAll _ (by kernel_rfl) (by kernel_rfl))) ?_
  intro W base args ds gs before hval0 hW hcnd _ hL _
  have hval : ∀ (j : Nat) t v, Tryd.f4.params[j]? = some t → args[j]? = some v → Value.okWide Tryd.prog W .any base t v := hval0
  have hW' := hW
  obtain ⟨p, q, hA0, hV, rfl, hfz, hnd⟩ := hW
  have hA : DataW.TrodAll enc Tryd.prog W 0 (fun _ => true) true Tryd.f4.params.toList args.toList ds p := hA0
  rw [Tryd.params4] at hA hval
  obtain ⟨v0, d0, rfl, rfl, h0⟩ := trodAll_one hA
  obtain ⟨a0, len0, cap0, rfl⟩ := okWide_slice Tryd.underlying22 (hval 0 22 v0 rfl rfl)
  obtain ⟨fuel0, hf0⟩ := h0
  obtain ⟨Ab, nb, cb, hcs0, hmb, hrb⟩ := open_code hf0
  have hv0 : (Value.slice a0 len0 cap0) = .slice Ab nb cb := by simpa [Value.cells] using hcs0
  rw [hv0] at hW' ⊢
  refine (walk Ab nb cb hmb W hrb (tabU_at hL)).mono fun e W' ⟨he, hb⟩ => ⟨_, he, law_post D.laidOut hW' hb rfl (by kernel_rfl) Tryd.underlying4 (by kernel_rfl) rfl⟩

theorem over : Rows.fnUndosRow.holds Tryd.pinned (OpenSpec.ofChange Rows.fnUndosSpec) :=
  OpenClaim.holds_of_wide 4 Tryd.f4 rfl rfl rfl rfl rfl rfl rfl ⟨rfl, rfl, rfl, rfl, rfl⟩ rfl rfl rfl rfl rfl (by kernel_rfl) Tryd.func4 closed
    (of_decide_eq_true (by kernel_rfl)) (by unfold Func.isWrapper; first | (rw [if_pos (by decide +kernel)]; kernel_rfl) | (rw [if_neg (by decide +kernel)]; exact ⟨rfl, rfl⟩))
    (fun os started H enc _ => lifted os started H enc)

theorem proved : Rows.FnUndosCardSaid :=
  Claim7.holds_tied_plain_at .later [] [.data, .data, .data] true Rows.fnUndosCard.stood.harness Rows.fnUndosCard.stood.looks over (fun _ h => by cases h) (by kernel_rfl) (fun _ h => by cases h) fnUndos_row_tie rfl ⟨rfl, rfl⟩ (by kernel_rfl) rfl
    (fun f fn hf hfn => by
      obtain rfl : f = 4 := Option.some.inj ((show Tryd.prog.funcNamed "loop.example/g00567/laws.FnUndos" = some 4 by kernel_rfl).symm.trans hf) |>.symm
      obtain rfl : fn = Tryd.f4 := (Option.some.inj (Tryd.func4.symm.trans hfn)).symm
      exact ⟨by kernel_rfl, fun j t ht => by
        rw [Tryd.params4] at ht
        have hall : (∀ u ∈ Tryd.f4.params.toList, Tryd.prog.wantsStandIn u = false) := by rw [Tryd.params4]; simp only [List.mem_cons, List.not_mem_nil, or_false]; rintro u rfl; kernel_rfl
        rw [Tryd.params4] at hall
        exact hall t (by simpa using Array.mem_of_getElem? ht)⟩)
    (by kernel_rfl)
end Go.Proofs.YtbogagddjkghhaaDoor.fnUndos
