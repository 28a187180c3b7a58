/-
  Proved here: for whatever bytes of a draw, the law FnStoreRuns of a run of commands in two halves answers true. No condition.
-/
import Derived.Test.YtfebeafonifpdaaRows
import Derived.Test.YtfebeafonifpdaaDoor
import Derived.Test.YtfebeafonifpdaaRunM
import Derived.Test.YtfebeafonifpdaaLift
set_option linter.unusedVariables false
set_option maxRecDepth 100000
namespace Go.Proofs.Ytfebeafonifpdaa.fnStoreRuns
open Go.RowKit Go.ChangeShapes Go.WideShapes Go.Proofs.Ytfebeafonifpdaa.B Go.Proofs.Ytfebeafonifpdaa.V

set_option maxHeartbeats 6400000 in
theorem walk (A : Option Addr) (n c : Nat) (hm : n ≤ maxLen) (w : World) (hr : RdC w w.heap.size A n) :
    Calls Try.prog 5 #[.slice A n c] w fun e w' => e = .returned (.bool true) ∧ Below w.heap.size w w' := by
  obtain ⟨i0, hi0, hz0, hz1, hz2⟩ := info_parts infoI7
  go_enter Try.func5, Try.ntmps5
  go_wp2_with fail
  refine (drawRun_any A n c hm w hr).mono ?_
  rintro e w1 ⟨B, C, d, d2, xs, ls, m, rfl, hxl, hll, hrB, hrC, hcap, hform, hb1⟩
  have ks2 := Blk.new w1 36 #[.slice B xs.length d, .int .i64 m]
  have hB2 := up_ hb1 (.cells #[.slice B xs.length d, .int .i64 m] 36)
  have HB2 := Lib.hid (hrB.up (.cells #[.slice B xs.length d, .int .i64 m] 36))
  have HC2 := Lib.hid (hrC.up (.cells #[.slice B xs.length d, .int .i64 m] 36))
  have HCAP := Lib.hid hcap; have HFORM := Lib.hid hform
  have hxl' : xs.length ≤ 1048576 := by omega
  have hll' : ls.length ≤ 1048576 := by omega
  clear hb1 hr hrB hrC hcap hform hm
  obtain ⟨q, hq⟩ : ∃ q, srQ xs m ls = q := ⟨_, rfl⟩
  have rs2 := ks2.rule
  cases q
  · obtain ⟨e1, e2, e3⟩ := sr_no hq
    have HRUN := Lib.hid (fun (W : World) h h' => run_at B C d d2 xs ls [] [] m 0 false hq e1 e2 e3 hxl' hll' W h h')
    clear e1 e2 e3 hq HFORM HCAP
    go_wp2_with fail
    generalize w1.alloc (.cells #[.slice B xs.length d, .int .i64 m] 36) = w2 at *
    refine (HRUN.out w2 HB2.out HC2.out).mono ?_
    rintro e w3 ⟨A3, d3, D3, f3, rfl, _, _, _, hb3⟩
    have kx4 := Blk.new w3 36 #[.slice A3 ([] : List Int).length d3, .int .i64 0]
    have hB4 := up_ (on_ hB2 hb3) (.cells #[.slice A3 ([] : List Int).length d3, .int .i64 0] 36)
    have rx4 := kx4.rule
    clear hb3 hB2 HB2 HC2 ks2 rs2 HRUN
    go_wp2_with fail
    refine (stores_any _).mono ?_
    rintro e wa ⟨rfl, hba⟩
    go_wp2
    go_ret
    exact ⟨rfl, on_ hB4 hba⟩
  · obtain ⟨L, hL⟩ : ∃ L, ls.length = L := ⟨_, rfl⟩
    obtain ⟨k, us, ts, us1, ts1, ts2, a, b, mm, m1, hk, e1, e2, e3, q1, f1, f2, f3, q2, g1, g2, g3, x3, ha, hb, hTL, hlu, hl1, hn1, hn2, hla, hlb⟩ := run_split hq hL
    have hla' : a.length ≤ 1048576 := by omega
    have hlb' : b.length ≤ 1048576 := by omega
    have HRUN := Lib.hid (fun (W : World) h h' => run_at B C d d2 xs ls us ts m mm true hq e1 e2 e3 hxl' hll' W h h')
    have HR1 := Lib.hid (fun (C1 : Option Addr) (d3 : Nat) (W : World) h h' => run_at B C1 d d3 xs a us1 ts1 m m1 true q1 f1 f2 f3 hxl' hla' W h h')
    have HR2 := Lib.hid (fun (B1 : Option Addr) (b1 : Nat) (C1 : Option Addr) (d3 : Nat) (W : World) h h' => run_at B1 C1 b1 d3 us1 b us ts2 m1 mm true q2 g1 g2 g3 (by omega) hlb' W h h')
    rw [hl1] at HR2
    have HTA : Hid (∀ g, C = some ⟨g, 0, none⟩ → ∀ W : World, RdI W W.heap.size C ls → RdI W W.heap.size (some ⟨g, 0, none⟩) a) := fun g e W h => by rw [← ha]; subst e; exact rd_take h
    have HTB : Hid (∀ g, C = some ⟨g, 0, none⟩ → ∀ W : World, RdI W W.heap.size C ls → RdI W W.heap.size (some ⟨g, k, none⟩) b) := fun g e W h => by rw [← hb]; subst e; exact rd_drop h
    have HNA : Hid (ls = [] → a = [] ∧ b = []) := fun e => by rw [← ha, ← hb, e]; simp
    have HX3 := Lib.hid x3; have HLA := Lib.hid hla; have HLB := Lib.hid hlb; have HL := Lib.hid hL; have HLU := Lib.hid hlu; have HL1 := Lib.hid hl1; have HTL := Lib.hid hTL
    have HN1 := Lib.hid hn1; have HN2 := Lib.hid hn2
    rw [hL] at HRUN HCAP HFORM
    rw [hL]
    have HKL := Lib.hid hk
    have hkl : k ≤ L := by omega
    have hL8 : L ≤ 8 := by omega
    clear e1 e2 e3 f1 f2 f3 g1 g2 g3 q1 q2 hq x3 ha hb hla hlb hla' hlb' hL hlu hl1 hTL hn1 hn2
    have HSU : Hid (∀ (A C : Option Addr) (c d : Nat) (W : World), RdI W W.heap.size A us → RdI W W.heap.size C us → Calls Try.prog 32 #[.slice A 4 c, .slice C 4 d] W fun e w' => e = .returned (.bool true) ∧ Below W.heap.size W w') := fun A C c d W h h' => by
      have := sameInts_same A C c d us W h h' (by rw [HLU.out]; omega)
      rwa [HLU.out] at this
    have HST : Hid (∀ (A C : Option Addr) (c d : Nat) (W : World), RdI W W.heap.size A ts → RdI W W.heap.size C ts → Calls Try.prog 32 #[.slice A L c, .slice C L d] W fun e w' => e = .returned (.bool true) ∧ Below W.heap.size W w') := fun A C c d W h h' => by
      have := sameInts_same A C c d ts W h h' (by rw [HTL.out]; omega)
      rwa [HTL.out] at this
    go_wp2_with fail
    generalize w1.alloc (.cells #[.slice B xs.length d, .int .i64 m] 36) = w2 at *
    refine (HRUN.out w2 HB2.out HC2.out).mono ?_
    rintro e w3 ⟨AX, dX, DT, dT, rfl, hAX, hDT, _, hb3⟩
    rw [HTL.out, HLU.out]
    have ks4 := (ks2.on hb3).alloc (.cells #[.slice AX 4 dX, .int .i64 mm] 36)
    have kx4 := Blk.new w3 36 #[.slice AX 4 dX, .int .i64 mm]
    have hB4 := up_ (on_ hB2 hb3) (.cells #[.slice AX 4 dX, .int .i64 mm] 36)
    have HB4 := Lib.hid ((HB2.out.on hb3).up (.cells #[.slice AX 4 dX, .int .i64 mm] 36))
    have HC4 := Lib.hid ((HC2.out.on hb3).up (.cells #[.slice AX 4 dX, .int .i64 mm] 36))
    have HX4 := Lib.hid ((hAX.rd).up (.cells #[.slice AX 4 dX, .int .i64 mm] 36))
    have HT4 := Lib.hid ((hDT.rd).up (.cells #[.slice AX 4 dX, .int .i64 mm] 36))
    clear hb3 hB2 HB2 HC2 ks2 rs2 HRUN hAX hDT
    have rs4 := ks4.rule
    have rx4 := kx4.rule
    have hdiv : Int.tdiv (L : Int) 2 = (k : Int) := by rw [Int.tdiv_eq_ediv_of_nonneg (by omega)]; have := HKL.out; omega
    go_wp2
    generalize w3.alloc (.cells #[.slice AX 4 dX, .int .i64 mm] 36) = w4 at *
    have KB := Lib.hid ks4
    have k0 : (0 : Int) ≤ (k : Int) := by omega
    have k1 : (k : Int) ≤ (d2 : Int) := by have := HCAP.out; omega
    refine wp_region_mix ?_ ?_ (MV w4 (.agg #[.slice B xs.length d, .int .i64 m]) (.slice C L d2) (.int .i64 k) a us1 ts1 m1) (MR w4 us1 ts1 m1) (MS ts1) MP [0, 1, 2, 3, 4, 5, 6, 9] 10 5 (by kernel_rfl) (by kernel_rfl) (by kernel_rfl) (by kernel_rfl) (by kernel_rfl) (by kernel_rfl) (by kernel_rfl) (by kernel_rfl) MV.keep MV.shape MR.shape MR.cong ?_ ?_ (by decide)
    rotate_left
    · intro us; simp only [putL]; go_simp; exact rfl
    · refine Each.cons ?_ (Each.cons ?_ (Each.cons ?_ (Each.cons ?_ (Each.cons ?_ (Each.cons ?_ (Each.cons ?_ (Each.cons ?_ (Each.cons ?_ (Each.cons ?_ (Each.cons ?_ (Each.cons ?_ (Each.cons ?_ (Each.nil)))))))))))))
      · refine ⟨fun _ => ?_, fun h => absurd h (by decide), fun h => absurd h (by decide)⟩
        intro vs wx hW hD Q K hK
        have rb := (KB.out.below hW KB.out.lt).rule
        go_simp
        exact hK _ _ (.agg #[.slice B xs.length d, .int .i64 m]) (by go_simp) (Below.refl _ _) rfl
      · refine ⟨fun _ => ?_, fun h => absurd h (by decide), fun h => absurd h (by decide)⟩
        intro vs wx hW hD Q K hK
        go_simp
        exact hK _ _ (.slice C L d2) (by go_simp) (Below.refl _ _) rfl
      · refine ⟨fun _ => ?_, fun h => absurd h (by decide), fun h => absurd h (by decide)⟩
        intro vs wx hW hD Q K hK
        go_simp
        exact hK _ _ (.int .i64 k) (by go_simp) (Below.refl _ _) rfl
      · refine ⟨fun _ => ?_, fun h => absurd h (by decide), fun h => absurd h (by decide)⟩
        intro vs wx hW hD Q K hK
        have e1 : vs 1 = .slice C L d2 := hD 1 (by decide)
        have e2 : vs 2 = .int .i64 k := hD 2 (by decide)
        have hrC := HC4.out.on hW
        rcases HFORM.out with ⟨e7, rfl, rfl⟩ | ⟨h0, g, rfl⟩
        · obtain ⟨ea, eb⟩ := HNA.out e7
          obtain rfl : k = 0 := by have := HLA.out; rw [ea] at this; simpa using this.symm
          go_simp
          exact hK _ _ (.slice none 0 0) (by go_simp) (Below.refl _ _) ⟨none, 0, by rw [ea]; rfl, by rw [ea]; exact RdI.nil_⟩
        · go_simp
          exact hK _ _ (.slice (some ⟨g, 0, none⟩) k d2) (by go_simp) (Below.refl _ _) ⟨_, _, by rw [HLA.out], HTA.out g rfl wx hrC⟩
      · refine ⟨fun _ => ?_, fun h => absurd h (by decide), fun h => absurd h (by decide)⟩
        intro vs wx hW hD Q K hK
        have e0 : vs 0 = .agg #[.slice B xs.length d, .int .i64 m] := hD 0 (by decide)
        obtain ⟨C1, d3, e3, hr3⟩ := hD 3 (by decide)
        skip
        go_simp
        go_at_call 31
        refine (HR1.out C1 d3 wx ((HB4.out.on hW)) hr3).mono ?_
        rintro e w5 ⟨A5, d5, D5, f5, rfl, hA5, hD5, _, hb5⟩
        exact hK _ _ (.tuple #[.agg #[.slice A5 us1.length d5, .int .i64 m1], .slice D5 ts1.length f5, .bool true]) (by go_simp) hb5 ⟨A5, d5, D5, f5, rfl, OI.more hA5 hW.size, OI.more hD5 hW.size⟩
      · refine ⟨fun _ => ?_, fun h => absurd h (by decide), fun h => absurd h (by decide)⟩
        intro vs wx hW hD Q K hK
        obtain ⟨A5, d5, D5, f5, e4, h1, h2⟩ := hD 4 (by decide)
        go_simp
        exact hK _ _ (.tuple #[.agg #[.slice A5 us1.length d5, .int .i64 m1], .slice D5 ts1.length f5, .bool true]) (by go_simp) (Below.refl _ _) ⟨A5, d5, D5, f5, rfl, h1, h2⟩
      · refine ⟨fun _ => ?_, fun h => absurd h (by decide), fun h => absurd h (by decide)⟩
        intro vs wx hW hD Q K hK
        obtain ⟨A5, d5, D5, f5, e5, h1, h2⟩ := hD 5 (by decide)
        go_simp
        exact hK _ _ (.agg #[.slice A5 us1.length d5, .int .i64 m1]) (by go_simp) (Below.refl _ _) ⟨A5, d5, rfl, h1⟩
      · refine ⟨fun h => absurd h (by decide), fun h => absurd h (by decide), fun _ => ?_⟩
        intro vs wx hS hD Q K hK
        obtain ⟨x, D5, f5, e5⟩ := hS
        have e7 : MP 7 (vs 5) = .slice D5 ts1.length f5 := by rw [e5]; rfl
        rw [e7] at hK
        go_simp
        exact hK _ (by go_simp)
      · refine ⟨fun h => absurd h (by decide), fun h => absurd h (by decide), fun _ => ?_⟩
        intro vs wx hS hD Q K hK
        obtain ⟨x, D5, f5, e5⟩ := hS
        have e8 : MP 8 (vs 5) = .bool true := by rw [e5]; rfl
        rw [e8] at hK
        go_simp
        exact hK _ (by go_simp)
      · refine ⟨fun _ => ?_, fun h => absurd h (by decide), fun h => absurd h (by decide)⟩
        intro vs wx hW hD Q K hK
        go_simp
        exact hK _ _ (.pointer (some ⟨wx.heap.size, 0, none⟩)) (by go_simp) ((Below.refl _ _).alloc (Nat.le_refl _) _) ⟨_, rfl, hW.size, Blk.new _ _ _⟩
      · refine ⟨fun h => absurd h (by decide), fun _ => ?_, fun h => absurd h (by decide)⟩
        intro vs wx hW hD Q K hK
        obtain ⟨A6, d6, e6, hA6⟩ := hD 6 (by decide)
        obtain ⟨o, e9, hlo, hko⟩ := hD 9 (by decide)
        have h5 := hD 5 (by decide)
        have ro := hko.rule
        have fo := fun i => hko.frozen i
        have ro1 : ∀ i, (wx.setCell ⟨o, 0, none⟩ (.slice A6 us1.length d6)).cell? ⟨o, i, none⟩ = _ := (hko.set_ 0 (.slice A6 us1.length d6)).rule
        have fo1 := fun i => (hko.set_ 0 (.slice A6 us1.length d6)).frozen i
        go_simp
        exact hK _ _ undef (by go_simp) (MR.mk e9 h5 hlo hko hA6 hW)
      · refine ⟨fun h => absurd h (by decide), fun h => absurd h (by decide), fun _ => ?_⟩
        intro vs wx hS hD Q K hK
        obtain ⟨x, D5, f5, e5⟩ := hS
        have e7 : vs 7 = .slice D5 ts1.length f5 := by rw [hD 7 (by decide) (by decide), e5]; rfl
        have e11 : MP 11 (vs 5) = .slice D5 ts1.length f5 := by rw [e5]; rfl
        rw [e11] at hK
        go_simp
        exact hK _ (by go_simp)
      · refine ⟨fun h => absurd h (by decide), fun h => absurd h (by decide), fun _ => ?_⟩
        intro vs wx hS hD Q K hK
        obtain ⟨x, D5, f5, e5⟩ := hS
        have e8 : vs 8 = .bool true := by rw [hD 8 (by decide) (by decide), e5]; rfl
        have e12 : MP 12 (vs 5) = .bool true := by rw [e5]; rfl
        rw [e12] at hK
        go_simp
        exact hK _ (by go_simp)
    intro vs w5 hR hP
    obtain ⟨o1, A1, d1, D1, f1, x1, e9, e5, ho1, ko1, hA1, hD1, hb5⟩ := hR
    have e11 : vs 11 = .slice D1 ts1.length f1 := by rw [hP 11 (by decide) (by decide), e5]; rfl
    have e12 : vs 12 = .bool true := by rw [hP 12 (by decide) (by decide), e5]; rfl
    simp only [e9, e11, e12]
    clear e9 e11 e12 e5 hP
    generalize vs 0 = z0; generalize vs 1 = z1; generalize vs 2 = z2; generalize vs 3 = z3; generalize vs 4 = z4; generalize vs 5 = z5; generalize vs 6 = z6; generalize vs 7 = z7; generalize vs 8 = z8
    clear vs
    rw [HN1.out]
    rw [HL1.out] at ko1
    have ks5 := ks4.on hb5
    have kx5 := kx4.on hb5
    have HB5 := Lib.hid (HB4.out.on hb5)
    have HC5 := Lib.hid (HC4.out.on hb5)
    have HX5 := Lib.hid (HX4.out.on hb5)
    have HT5 := Lib.hid (HT4.out.on hb5)
    have HA5 := Lib.hid hA1.rd
    have HD5 := Lib.hid hD1.rd
    have hB5 := on_ hB4 hb5
    clear ks4 kx4 HB4 HC4 HX4 HT4 hB4 hb5 hA1 hD1 KB ho1 HR1 rs4 rx4
    have ro1 := ko1.rule
    go_wp2
    have KB := Lib.hid ko1
    have k2 : (k : Int) ≤ (L : Int) := by omega
    refine wp_region_mix ?_ ?_ (MV w5 (.agg #[.slice A1 4 d1, .int .i64 m1]) (.slice C L d2) (.int .i64 k) b us ts2 mm) (MR w5 us ts2 mm) (MS ts2) MP [0, 1, 2, 3, 4, 5, 6, 9] 10 5 (by kernel_rfl) (by kernel_rfl) (by kernel_rfl) (by kernel_rfl) (by kernel_rfl) (by kernel_rfl) (by kernel_rfl) (by kernel_rfl) MV.keep MV.shape MR.shape MR.cong ?_ ?_ (by decide)
    rotate_left
    · intro us; simp only [putL]; go_simp; exact rfl
    · refine Each.cons ?_ (Each.cons ?_ (Each.cons ?_ (Each.cons ?_ (Each.cons ?_ (Each.cons ?_ (Each.cons ?_ (Each.cons ?_ (Each.cons ?_ (Each.cons ?_ (Each.cons ?_ (Each.cons ?_ (Each.cons ?_ (Each.nil)))))))))))))
      · refine ⟨fun _ => ?_, fun h => absurd h (by decide), fun h => absurd h (by decide)⟩
        intro vs wx hW hD Q K hK
        have rb := (KB.out.below hW KB.out.lt).rule
        go_simp
        exact hK _ _ (.agg #[.slice A1 4 d1, .int .i64 m1]) (by go_simp) (Below.refl _ _) rfl
      · refine ⟨fun _ => ?_, fun h => absurd h (by decide), fun h => absurd h (by decide)⟩
        intro vs wx hW hD Q K hK
        go_simp
        exact hK _ _ (.slice C L d2) (by go_simp) (Below.refl _ _) rfl
      · refine ⟨fun _ => ?_, fun h => absurd h (by decide), fun h => absurd h (by decide)⟩
        intro vs wx hW hD Q K hK
        go_simp
        exact hK _ _ (.int .i64 k) (by go_simp) (Below.refl _ _) rfl
      · refine ⟨fun _ => ?_, fun h => absurd h (by decide), fun h => absurd h (by decide)⟩
        intro vs wx hW hD Q K hK
        have e1 : vs 1 = .slice C L d2 := hD 1 (by decide)
        have e2 : vs 2 = .int .i64 k := hD 2 (by decide)
        have hrC := HC5.out.on hW
        rcases HFORM.out with ⟨e7, rfl, rfl⟩ | ⟨h0, g, rfl⟩
        · obtain ⟨ea, eb⟩ := HNA.out e7
          obtain rfl : k = 0 := by have := HLA.out; rw [ea] at this; simpa using this.symm
          obtain rfl : L = 0 := by have := HL.out; rw [e7] at this; simpa using this.symm
          go_simp
          exact hK _ _ (.slice none 0 0) (by go_simp) (Below.refl _ _) ⟨none, 0, by rw [eb]; rfl, by rw [eb]; exact RdI.nil_⟩
        · have hne : ¬ d2 = k := by have := HCAP.out; have := HKL.out; omega
          go_simp
          exact hK _ _ (.slice (some ⟨g, k, none⟩) (L - k) (d2 - k)) (by go_simp) (Below.refl _ _) ⟨_, _, by rw [HLB.out], HTB.out g rfl wx hrC⟩
      · refine ⟨fun _ => ?_, fun h => absurd h (by decide), fun h => absurd h (by decide)⟩
        intro vs wx hW hD Q K hK
        have e0 : vs 0 = .agg #[.slice A1 4 d1, .int .i64 m1] := hD 0 (by decide)
        obtain ⟨C1, d3, e3, hr3⟩ := hD 3 (by decide)
        skip
        go_simp
        go_at_call 31
        refine (HR2.out A1 d1 C1 d3 wx (HA5.out.on hW) hr3).mono ?_
        rintro e w5 ⟨A5, d5, D5, f5, rfl, hA5, hD5, _, hb5⟩
        exact hK _ _ (.tuple #[.agg #[.slice A5 us.length d5, .int .i64 mm], .slice D5 ts2.length f5, .bool true]) (by go_simp) hb5 ⟨A5, d5, D5, f5, rfl, OI.more hA5 hW.size, OI.more hD5 hW.size⟩
      · refine ⟨fun _ => ?_, fun h => absurd h (by decide), fun h => absurd h (by decide)⟩
        intro vs wx hW hD Q K hK
        obtain ⟨A5, d5, D5, f5, e4, h1, h2⟩ := hD 4 (by decide)
        go_simp
        exact hK _ _ (.tuple #[.agg #[.slice A5 us.length d5, .int .i64 mm], .slice D5 ts2.length f5, .bool true]) (by go_simp) (Below.refl _ _) ⟨A5, d5, D5, f5, rfl, h1, h2⟩
      · refine ⟨fun _ => ?_, fun h => absurd h (by decide), fun h => absurd h (by decide)⟩
        intro vs wx hW hD Q K hK
        obtain ⟨A5, d5, D5, f5, e5, h1, h2⟩ := hD 5 (by decide)
        go_simp
        exact hK _ _ (.agg #[.slice A5 us.length d5, .int .i64 mm]) (by go_simp) (Below.refl _ _) ⟨A5, d5, rfl, h1⟩
      · refine ⟨fun h => absurd h (by decide), fun h => absurd h (by decide), fun _ => ?_⟩
        intro vs wx hS hD Q K hK
        obtain ⟨x, D5, f5, e5⟩ := hS
        have e7 : MP 7 (vs 5) = .slice D5 ts2.length f5 := by rw [e5]; rfl
        rw [e7] at hK
        go_simp
        exact hK _ (by go_simp)
      · refine ⟨fun h => absurd h (by decide), fun h => absurd h (by decide), fun _ => ?_⟩
        intro vs wx hS hD Q K hK
        obtain ⟨x, D5, f5, e5⟩ := hS
        have e8 : MP 8 (vs 5) = .bool true := by rw [e5]; rfl
        rw [e8] at hK
        go_simp
        exact hK _ (by go_simp)
      · refine ⟨fun _ => ?_, fun h => absurd h (by decide), fun h => absurd h (by decide)⟩
        intro vs wx hW hD Q K hK
        go_simp
        exact hK _ _ (.pointer (some ⟨wx.heap.size, 0, none⟩)) (by go_simp) ((Below.refl _ _).alloc (Nat.le_refl _) _) ⟨_, rfl, hW.size, Blk.new _ _ _⟩
      · refine ⟨fun h => absurd h (by decide), fun _ => ?_, fun h => absurd h (by decide)⟩
        intro vs wx hW hD Q K hK
        obtain ⟨A6, d6, e6, hA6⟩ := hD 6 (by decide)
        obtain ⟨o, e9, hlo, hko⟩ := hD 9 (by decide)
        have h5 := hD 5 (by decide)
        have ro := hko.rule
        have fo := fun i => hko.frozen i
        have ro1 : ∀ i, (wx.setCell ⟨o, 0, none⟩ (.slice A6 us.length d6)).cell? ⟨o, i, none⟩ = _ := (hko.set_ 0 (.slice A6 us.length d6)).rule
        have fo1 := fun i => (hko.set_ 0 (.slice A6 us.length d6)).frozen i
        go_simp
        exact hK _ _ undef (by go_simp) (MR.mk e9 h5 hlo hko hA6 hW)
      · refine ⟨fun h => absurd h (by decide), fun h => absurd h (by decide), fun _ => ?_⟩
        intro vs wx hS hD Q K hK
        obtain ⟨x, D5, f5, e5⟩ := hS
        have e7 : vs 7 = .slice D5 ts2.length f5 := by rw [hD 7 (by decide) (by decide), e5]; rfl
        have e11 : MP 11 (vs 5) = .slice D5 ts2.length f5 := by rw [e5]; rfl
        rw [e11] at hK
        go_simp
        exact hK _ (by go_simp)
      · refine ⟨fun h => absurd h (by decide), fun h => absurd h (by decide), fun _ => ?_⟩
        intro vs wx hS hD Q K hK
        obtain ⟨x, D5, f5, e5⟩ := hS
        have e8 : vs 8 = .bool true := by rw [hD 8 (by decide) (by decide), e5]; rfl
        have e12 : MP 12 (vs 5) = .bool true := by rw [e5]; rfl
        rw [e12] at hK
        go_simp
        exact hK _ (by go_simp)
    intro vs w6 hR hP
    obtain ⟨o2, A2, d9, D2, f2, x2, e9, e5, ho2, ko2, hA2, hD2, hb6⟩ := hR
    have e11 : vs 11 = .slice D2 ts2.length f2 := by rw [hP 11 (by decide) (by decide), e5]; rfl
    have e12 : vs 12 = .bool true := by rw [hP 12 (by decide) (by decide), e5]; rfl
    simp only [e9, e11, e12]
    clear e9 e11 e12 e5 hP
    generalize vs 0 = y0; generalize vs 1 = y1; generalize vs 2 = y2; generalize vs 3 = y3; generalize vs 4 = y4; generalize vs 5 = y5; generalize vs 6 = y6; generalize vs 7 = y7; generalize vs 8 = y8
    clear vs
    rw [HN2.out]
    rw [HLU.out] at ko2
    have kx6 := kx5.on hb6
    have HX6 := Lib.hid (HX5.out.on hb6)
    have HT6 := Lib.hid (HT5.out.on hb6)
    have HD6 := Lib.hid (HD5.out.on hb6)
    have HA6 := Lib.hid hA2.rd
    have HE6 := Lib.hid hD2.rd
    have hB6 := on_ hB5 hb6
    clear kx5 HX5 HT5 HD5 HA5 hB5 hb6 hA2 hD2 KB ho2 HR2 ro1 ko1 ks5 HB5 HC5
    have rx6 := kx6.rule
    have ro6 := ko2.rule
    have hmm : (mm == mm) = true := by simp
    have hLL : ((L : Int) == (L : Int)) = true := by simp
    go_wp2_with fail
    refine (HSU.out AX A2 dX d9 w6 HX6.out HA6.out).mono ?_
    rintro e w7 ⟨rfl, hb7⟩
    have kx7 := kx6.on hb7
    have ko7 := ko2.on hb7
    have HT7 := Lib.hid (HT6.out.on hb7)
    have HD7 := Lib.hid ((HD6.out.on hb7).up (.cells #[] 3))
    have HE6' := Lib.hid (HE6.out.on hb7)
    have HE7 := Lib.hid ((HE6.out.on hb7).up (.cells #[] 3))
    have hB7 := on_ hB6 hb7
    clear kx6 ko2 HX6 HT6 HD6 HE6 HA6 hB6 hb7 HSU rx6 ro6
    have rx7 := kx7.rule
    have ro7 := ko7.rule
    have HRD := Lib.hid HD7.out.reads
    rw [HN1.out] at HRD
    have HOW := Lib.hid (lit0_own w7)
    have HZ8 : Hid ((w7.alloc (.cells #[] 3)).heap.size = w7.heap.size + 1) := World.size_alloc _ _
    have HE0 := Lib.hid (HE6'.out)
    have HBB : Hid (∀ W : World, (w7.alloc (.cells #[] 3)).grownBy W (some w7.heap.size) → Below w7.heap.size w7 W) := fun W h => ((Below.refl w7.heap.size w7).alloc (Nat.le_refl _) _).trans (keepL h (fun g e => by injection e with e; omega) (by rw [HZ8.out]; omega))
    have HREF : Hid (∀ W : World, Below w7.heap.size w7 W → Reads W w7.heap.size 1 D2 (L - k) (ic ts2)) := fun W h => by
      have := (HE0.out.below h).reads
      rwa [HN2.out] at this
    have hkk : k + (L - k) = L := by omega
    have HKK := Lib.hid hkk; clear hkk
    clear HE0 HE7 HD7
    go_wp2_with (first | (at_builtin; refine wpList_append_want rfl (.tmp 82) (.tmp 83) 34 rfl w7.heap.size 3 i0 _ 1 8 Try.underlying34 hi0 hz0 hz1 hz2 rfl (by omega) (.slice (some ⟨w7.heap.size, 0, none⟩) 0 0) 0 [] rfl HOW.out _ D1 k f1 (ic ts1) rfl HRD.out (one7 ts1) (by simp only [maxLen]; omega) (by omega) (by rw [HZ8.out]; omega) ?_; intro v9 w9 hown9 hgr9 hat9; obtain ⟨A9, c9, rfl⟩ := form7 hown9; rw [Nat.zero_add] at hown9 ⊢; have hb9 := Lib.hid (HBB.out w9 hgr9); have HRE := Lib.hid (HREF.out w9 hb9.out)) | (at_builtin; refine wpList_append_want rfl (.tmp 84) (.tmp 85) 34 rfl w7.heap.size 3 i0 _ 1 8 Try.underlying34 hi0 hz0 hz1 hz2 rfl (by omega) (.slice A9 k c9) k ([] ++ ic ts1) rfl hown9 _ D2 (L - k) f2 (ic ts2) rfl HRE.out (one7 ts2) (by simp only [maxLen]; omega) (by omega) hb9.out.size ?_; intro v10 w10 hown10 hgr10 hat10; obtain ⟨A10, c10, rfl⟩ := form7 hown10; rw [HKK.out] at hown10 ⊢; rw [List.nil_append] at hown10))
    rw [ic_app9, ← HX3.out] at hown10
    have hb10 : Below w7.heap.size w7 w10 := hb9.out.trans (keepL hgr10 (fun g e => (hown9.lt g e).1) hb9.out.size)
    have HT10 := Lib.hid ((HT7.out.below hb10).more hb10.size)
    have HO10 := Lib.hid ((OI.of_own (xs := ts) hown10).2.rd)
    have hB10 := hB7.trans (hb10.mono hB7.size)
    clear hb10 hgr10 hown10 hown9 hgr9 hat9 hat10 HT7 hB7 HBB HREF HRE HRD HOW hb9 kx7 ko7 rx7 ro7
    refine (HST.out DT A10 dT c10 w10 HT10.out HO10.out).mono ?_
    rintro e w11 ⟨rfl, hb11⟩
    have hB11 := on_ hB10 hb11
    clear hB10 hb11 HT10 HO10
    go_wp2_with fail
    refine (stores_any _).mono ?_
    rintro e wa ⟨rfl, hba⟩
    go_wp2
    go_ret
    exact ⟨rfl, on_ hB11 hba⟩

theorem closed : joinedFacts Try.prog 5 Try.f5 Rows.fnStoreRunsSpec Rows.fnStoreRunsRow = true := by
  unfold joinedFacts
  rw [D.make_is, D.enter_is, D.final_is]
  kernel_rfl

set_option maxRecDepth 100000 in
theorem lifted (os : Os) (started : os.Started) (H : Type) (enc : TypeId × Value → H) :
    ReturnsInHanded {} Try.checked os 5 .any (Rows.fnStoreRunsSpec.pre6 enc Try.prog Try.f5 Rows.fnStoreRunsRow.domain false) (Rows.fnStoreRunsSpec.post enc Try.prog Try.f5 false true false false) := by
  refine returnsInHanded_of_change (C := Try.checked) D.own started (by kernel_rfl) Try.func5
    (ChangeSpec.witness6 (enc := enc) (C := Try.checked) false ⟨#[], #[.slice none 0 0], []⟩ 8 (by kernel_rfl) (by kernel_rfl) (by kernel_rfl) (by kernel_rfl)) ?_
  intro W base args ds gs before hval0 hW hcnd _
  have hval : ∀ (j : Nat) t v, Try.f5.params[j]? = some t → args[j]? = some v → Value.okWide Try.prog W .any base t v := hval0
  have hW' := hW
  obtain ⟨p, q, hA0, hV, rfl, hfz, hnd⟩ := hW
  have hA : DataW.TrodAll enc Try.prog W 0 (fun _ => true) true Try.f5.params.toList args.toList ds p := hA0
  rw [Try.params5] at hA hval
  obtain ⟨v0, d0, rfl, rfl, h0⟩ := trodAll_one hA
  obtain ⟨a0, len0, cap0, rfl⟩ := okWide_slice Try.underlying22 (hval 0 22 v0 rfl rfl)
  obtain ⟨fuel0, hf0⟩ := h0
  obtain ⟨Ab, nb, cb, hcs0, hmb, hrb⟩ := open_code hf0
  have hv0 : (Value.slice a0 len0 cap0) = .slice Ab nb cb := by simpa [Value.cells] using hcs0
  rw [hv0] at hW' ⊢
  refine (walk Ab nb cb hmb W hrb).mono fun e W' ⟨he, hb⟩ => ⟨_, he, law_post D.laidOut hW' hb rfl (by kernel_rfl) Try.underlying4 (by kernel_rfl) rfl⟩

theorem over : Rows.fnStoreRunsRow.holds Try.pinned (OpenSpec.ofChange Rows.fnStoreRunsSpec) :=
  OpenClaim.holds_of_wide 5 Try.f5 rfl rfl rfl rfl rfl rfl rfl ⟨rfl, rfl, rfl, rfl, rfl⟩ rfl rfl rfl rfl rfl (by kernel_rfl) Try.func5 closed
    (of_decide_eq_true (by kernel_rfl)) (by unfold Func.isWrapper; first | (rw [if_pos (by decide +kernel)]; kernel_rfl) | (rw [if_neg (by decide +kernel)]; exact ⟨rfl, rfl⟩))
    (fun os started H enc _ => lifted os started H enc)

theorem proved : Rows.FnStoreRunsSaid :=
  over
end Go.Proofs.Ytfebeafonifpdaa.fnStoreRuns
