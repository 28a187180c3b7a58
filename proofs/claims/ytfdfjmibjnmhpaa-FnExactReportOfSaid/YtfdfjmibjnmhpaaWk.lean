/-
  The marks upon a copy that is its own: contracts. No statement is proved here.
-/
import Derived.Test.YtfdfjmibjnmhpaaWk0
set_option linter.unusedVariables false
set_option maxRecDepth 100000
namespace Go.Proofs.Ytfdfjmibjnmhpaa.V
open Go.RowKit Go.Proofs.Ytfdfjmibjnmhpaa.B
set_option maxHeartbeats 1600000 in
theorem wVoteS0 (lo hi : Nat) (A : Option Addr) (n c : Nat) (k : Int) (w : World) (h : Leaf 2 lo hi w A n) (hn : n ≤ 1048576) (h0 : 0 ≤ k) (h1 : k ≤ 16777216) :
    Calls Try.prog 51 #[.slice A n c, .int .i64 k] w (WM lo hi k (2 * n) w) := by
  have HL := Lib.hid h; clear h
  go_enter Try.func51, Try.ntmps51
  go_wp2
  go_loopw [1, 5] (fun kk i wr => ∃ (j : Nat) (r : Int), j ≤ n ∧ i = .int .i64 j ∧ kk = .int .i64 r ∧ k ≤ r ∧ r ≤ k + 2 * j ∧ Hid (Sh lo hi w wr)) (fun _ i _ => n - (intOf i).toNat)
  case atStart => exact ⟨0, k, Nat.zero_le _, rfl, rfl, by omega, by omega, Sh.refl _ _ _⟩
  case round =>
    obtain ⟨j, r, hj, rfl, rfl, hr0, hr1, hs⟩ := hrel
    by_cases hlt : j < n
    · obtain ⟨t, g, cs, rfl, hg1, hg2, hb, hz, hns⟩ := (HL.out.sh hs.out) (by omega)
      clear HL
      have hr2 : 0 ≤ r := by omega
      have hr3 : r ≤ 100000000 := by omega
      obtain ⟨y0, hy0⟩ : ∃ y, cs[j * 2]? = some y := ⟨_, Array.getElem?_eq_getElem (by omega)⟩
      have hc0 := (hb.cell (j * 2)).trans hy0
      have hf0 := hb.frozen (j * 2)
      have n0 := hns (j * 2) (by omega)
      obtain ⟨y1, hy1⟩ : ∃ y, cs[j * 2 + 1]? = some y := ⟨_, Array.getElem?_eq_getElem (by omega)⟩
      have hc1 := (hb.cell (j * 2 + 1)).trans hy1
      have hf1 := hb.frozen (j * 2 + 1)
      have n1 := hns (j * 2 + 1) (by omega)
      have HB := Lib.hid hb; clear hb hns hy0 hy1
      have N0 := Lib.hid n0; clear n0
      have N1 := Lib.hid n1; clear n1
      go_wp2
      go_roundw
      case rel => exact ⟨j + 1, r + 2, by omega, by go_num, by congr 1 <;> omega, by omega, by omega, hs.out.trans (((Sh.refl lo hi wr).put hg1 hg2 HB.out N0.out _ rfl).put hg1 hg2 HB.out N1.out _ rfl)⟩
      case measure => simp [intOf]; omega
    · have hjn : j = n := by omega
      subst hjn
      go_wp2
      go_ret
      exact ⟨r, rfl, hr0, by omega, hs.out⟩
theorem wVoteS {lo hi : Nat} {a : World} (A : Option Addr) (n c : Nat) (k : Int) (w : World) (hS : Sh lo hi a w) (h : Leaf 2 lo hi a A n) (hn : n ≤ 1048576) (h0 : 0 ≤ k) (h1 : k ≤ 16777216) :
    Calls Try.prog 51 #[.slice A n c, .int .i64 k] w (WM lo hi k (2 * n) a) :=
  ((wVoteS0 lo hi A n c k w (h.sh hS) hn h0 h1)).mono fun e w' ⟨r, h1, h2, h3, h4⟩ => ⟨r, h1, h2, h3, hS.trans h4⟩
set_option maxHeartbeats 1600000 in
theorem wBallotS0 (lo hi : Nat) (A : Option Addr) (n c : Nat) (k : Int) (w : World) (h : Leaf 3 lo hi w A n) (hn : n ≤ 1048576) (h0 : 0 ≤ k) (h1 : k ≤ 16777216) :
    Calls Try.prog 93 #[.slice A n c, .int .i64 k] w (WM lo hi k (3 * n) w) := by
  have HL := Lib.hid h; clear h
  go_enter Try.func93, Try.ntmps93
  go_wp2
  go_loopw [1, 5] (fun kk i wr => ∃ (j : Nat) (r : Int), j ≤ n ∧ i = .int .i64 j ∧ kk = .int .i64 r ∧ k ≤ r ∧ r ≤ k + 3 * j ∧ Hid (Sh lo hi w wr)) (fun _ i _ => n - (intOf i).toNat)
  case atStart => exact ⟨0, k, Nat.zero_le _, rfl, rfl, by omega, by omega, Sh.refl _ _ _⟩
  case round =>
    obtain ⟨j, r, hj, rfl, rfl, hr0, hr1, hs⟩ := hrel
    by_cases hlt : j < n
    · obtain ⟨t, g, cs, rfl, hg1, hg2, hb, hz, hns⟩ := (HL.out.sh hs.out) (by omega)
      clear HL
      have hr2 : 0 ≤ r := by omega
      have hr3 : r ≤ 100000000 := by omega
      obtain ⟨y0, hy0⟩ : ∃ y, cs[j * 3]? = some y := ⟨_, Array.getElem?_eq_getElem (by omega)⟩
      have hc0 := (hb.cell (j * 3)).trans hy0
      have hf0 := hb.frozen (j * 3)
      have n0 := hns (j * 3) (by omega)
      obtain ⟨y1, hy1⟩ : ∃ y, cs[j * 3 + 1]? = some y := ⟨_, Array.getElem?_eq_getElem (by omega)⟩
      have hc1 := (hb.cell (j * 3 + 1)).trans hy1
      have hf1 := hb.frozen (j * 3 + 1)
      have n1 := hns (j * 3 + 1) (by omega)
      obtain ⟨y2, hy2⟩ : ∃ y, cs[j * 3 + 2]? = some y := ⟨_, Array.getElem?_eq_getElem (by omega)⟩
      have hc2 := (hb.cell (j * 3 + 2)).trans hy2
      have hf2 := hb.frozen (j * 3 + 2)
      have n2 := hns (j * 3 + 2) (by omega)
      have HB := Lib.hid hb; clear hb hns hy0 hy1 hy2
      have N0 := Lib.hid n0; clear n0
      have N1 := Lib.hid n1; clear n1
      have N2 := Lib.hid n2; clear n2
      go_wp2
      go_roundw
      case rel => exact ⟨j + 1, r + 3, by omega, by go_num, by congr 1 <;> omega, by omega, by omega, hs.out.trans ((((Sh.refl lo hi wr).put hg1 hg2 HB.out N0.out _ rfl).put hg1 hg2 HB.out N1.out _ rfl).put hg1 hg2 HB.out N2.out _ rfl)⟩
      case measure => simp [intOf]; omega
    · have hjn : j = n := by omega
      subst hjn
      go_wp2
      go_ret
      exact ⟨r, rfl, hr0, by omega, hs.out⟩
theorem wBallotS {lo hi : Nat} {a : World} (A : Option Addr) (n c : Nat) (k : Int) (w : World) (hS : Sh lo hi a w) (h : Leaf 3 lo hi a A n) (hn : n ≤ 1048576) (h0 : 0 ≤ k) (h1 : k ≤ 16777216) :
    Calls Try.prog 93 #[.slice A n c, .int .i64 k] w (WM lo hi k (3 * n) a) :=
  ((wBallotS0 lo hi A n c k w (h.sh hS) hn h0 h1)).mono fun e w' ⟨r, h1, h2, h3, h4⟩ => ⟨r, h1, h2, h3, hS.trans h4⟩
set_option maxHeartbeats 6400000 in
theorem wReportS0 (lo hi : Nat) (A : Option Addr) (n c : Nat) (f : Nat → Nat) (k : Int) (w : World) (h : RowE 4 (EReport lo hi) lo hi w A n f) (hn : n ≤ 1048576) (h0 : 0 ≤ k) (h1 : k + (3 * n + 2 * sm f n : Nat) ≤ 16777216) :
    Calls Try.prog 94 #[.slice A n c, .int .i64 k] w (WM lo hi k (3 * n + 2 * sm f n) w) := by
  have HL := Lib.hid h; clear h
  have HM := Lib.hid (fun j => @sm_step f j n)
  have HT := Lib.hid (show ∀ j, sm f (j + 1) = sm f j + f j from fun _ => rfl)
  obtain ⟨T, hT⟩ : ∃ T, sm f n = T := ⟨_, rfl⟩
  rw [hT] at h1 HM ⊢
  have HN := Lib.hid hT; clear hT
  go_enter Try.func94, Try.ntmps94
  go_wp2
  go_loopw [1, 5] (fun kk i wr => ∃ (j : Nat) (r : Int), j ≤ n ∧ i = .int .i64 j ∧ kk = .int .i64 r ∧ k ≤ r ∧ r ≤ k + (3 * j + 2 * sm f j : Nat) ∧ Hid (Sh lo hi w wr)) (fun _ i _ => n - (intOf i).toNat)
  case atStart => exact ⟨0, k, Nat.zero_le _, rfl, rfl, by omega, by simp [sm], Sh.refl _ _ _⟩
  case round =>
    obtain ⟨j, r0, hj, rfl, rfl, hr0, hr1, hs⟩ := hrel
    by_cases hlt : j < n
    · obtain ⟨t, g, cs, rfl, hg1, hg2, hb0, hz0, hE⟩ := (HL.out.sh EReport.stab hs.out) (Nat.lt_of_le_of_lt (Nat.zero_le _) hlt)
      have he := hE j hlt
      clear HL hE
      have hms := HM.out j hlt
      have hmt := HT.out j
      obtain ⟨sj, hsj⟩ : ∃ s, sm f j = s := ⟨_, rfl⟩
      obtain ⟨fj, hfj⟩ : ∃ s, f j = s := ⟨_, rfl⟩
      rw [hsj] at hr1 hms hmt
      rw [hfj] at hms hmt he
      have HSJ := Lib.hid hsj; have HMT := Lib.hid hmt; clear hsj hfj hmt
      have hq0 : 0 ≤ r0 := by omega
      have hq1 : r0 ≤ 16777216 := by omega
      have hsz : n * 4 ≤ cs.size := hz0
      obtain ⟨hbare, hsl⟩ := he
      have NS0 := Lib.hid (show sl cs[j * 4]? = none from hbare 0 (by omega))
      have NS1 := Lib.hid (show sl cs[j * 4 + 1]? = none from hbare 1 (by omega))
      have NS2 := Lib.hid (show sl cs[j * 4 + 2]? = none from hbare 2 (by omega))
      obtain ⟨B3, k3, c3, e3, kk3, p3, hm3⟩ := hsl
      have E3 := Lib.hid e3; have K3 := Lib.hid kk3; have P3 := Lib.hid p3; clear e3 kk3 p3
      have TW0 := Lib.hid (Sh.refl lo hi wr)
      obtain ⟨y0, hy0⟩ : ∃ y, cs[j * 4]? = some y := ⟨_, Array.getElem?_eq_getElem (by omega)⟩
      have hc0 := (hb0.cell (j * 4)).trans hy0
      have hf0 := hb0.frozen (j * 4)
      obtain ⟨y1, hy1⟩ : ∃ y, cs[j * 4 + 1]? = some y := ⟨_, Array.getElem?_eq_getElem (by omega)⟩
      have hc1 := (hb0.cell (j * 4 + 1)).trans hy1
      have hf1 := hb0.frozen (j * 4 + 1)
      obtain ⟨y2, hy2⟩ : ∃ y, cs[j * 4 + 2]? = some y := ⟨_, Array.getElem?_eq_getElem (by omega)⟩
      have hc2 := (hb0.cell (j * 4 + 2)).trans hy2
      have hf2 := hb0.frozen (j * 4 + 2)
      have hs3_ : cs[j * 4 + 3]? = some (.slice B3 k3 c3) := sl_of (by rw [E3.out]; rfl)
      have hl3 := (hb0.cell (j * 4 + 3)).trans hs3_
      have N0 := Lib.hid (show sl cs[j * 4]? = none by exact NS0.out)
      have N1 := Lib.hid (show sl cs[j * 4 + 1]? = none by exact NS1.out)
      have N2 := Lib.hid (show sl cs[j * 4 + 2]? = none by exact NS2.out)
      have HB0 := Lib.hid hb0; clear hb0 hs3_ hy0 hy1 hy2
      go_wp2_with fail
      refine (wVoteS (lo := lo) (hi := hi) (a := wr) B3 k3 c3 _ _ ((((Sh.refl lo hi wr).put hg1 hg2 HB0.out N0.out _ rfl).put hg1 hg2 HB0.out N1.out _ rfl).put hg1 hg2 HB0.out N2.out _ rfl) (P3.out.sh TW0.out) K3.out (by omega) (by omega)).mono ?_
      rintro e w1 ⟨r1, rfl, hra1, hrb1, hS1⟩
      obtain ⟨cs1, hb1, hz1, hsl1⟩ := hS1.row g t cs hg1 hg2 HB0.out
      have HS1 := Lib.hid (show ∀ i : Nat, sl cs1[i]? = sl cs[i]? from fun i => hsl1 i)
      have TW1 := Lib.hid (TW0.out.trans hS1)
      clear hS1 hsl1 HB0  TW0 hl3 hc0 hf0 N0 hc1 hf1 N1 hc2 hf2 N2
      have HB1 := Lib.hid hb1; clear hb1 
      go_wp2
      go_roundw
      case rel => exact ⟨j + 1, r1, by omega, by go_num, by congr 1 <;> omega, by omega, by rw [HMT.out]; omega, hs.out.trans (TW1.out.trans (Sh.refl lo hi w1))⟩
      case measure => simp [intOf]; omega
    · have hjn : j = n := by omega
      subst hjn
      rw [HN.out] at hr1
      go_wp2
      go_ret
      exact ⟨r0, rfl, hr0, hr1, hs.out⟩
theorem wReportS {lo hi : Nat} {a : World} (A : Option Addr) (n c : Nat) (f : Nat → Nat) (k : Int) (w : World) (hS : Sh lo hi a w) (h : RowE 4 (EReport lo hi) lo hi a A n f) (hn : n ≤ 1048576) (h0 : 0 ≤ k) (h1 : k + (3 * n + 2 * sm f n : Nat) ≤ 16777216) :
    Calls Try.prog 94 #[.slice A n c, .int .i64 k] w (WM lo hi k (3 * n + 2 * sm f n) a) :=
  ((wReportS0 lo hi A n c f k w (h.sh EReport.stab hS) hn h0 h1)).mono fun e w' ⟨r, h1, h2, h3, h4⟩ => ⟨r, h1, h2, h3, hS.trans h4⟩
set_option maxHeartbeats 6400000 in
theorem wHeardS0 (lo hi : Nat) (A : Option Addr) (n c : Nat) (f : Nat → Nat) (k : Int) (w : World) (h : RowE 2 (EHeard lo hi) lo hi w A n f) (hn : n ≤ 1048576) (h0 : 0 ≤ k) (h1 : k + (1 * n + 3 * sm f n : Nat) ≤ 16777216) :
    Calls Try.prog 53 #[.slice A n c, .int .i64 k] w (WM lo hi k (1 * n + 3 * sm f n) w) := by
  have HL := Lib.hid h; clear h
  have HM := Lib.hid (fun j => @sm_step f j n)
  have HT := Lib.hid (show ∀ j, sm f (j + 1) = sm f j + f j from fun _ => rfl)
  obtain ⟨T, hT⟩ : ∃ T, sm f n = T := ⟨_, rfl⟩
  rw [hT] at h1 HM ⊢
  have HN := Lib.hid hT; clear hT
  go_enter Try.func53, Try.ntmps53
  go_wp2
  go_loopw [1, 5] (fun kk i wr => ∃ (j : Nat) (r : Int), j ≤ n ∧ i = .int .i64 j ∧ kk = .int .i64 r ∧ k ≤ r ∧ r ≤ k + (1 * j + 3 * sm f j : Nat) ∧ Hid (Sh lo hi w wr)) (fun _ i _ => n - (intOf i).toNat)
  case atStart => exact ⟨0, k, Nat.zero_le _, rfl, rfl, by omega, by simp [sm], Sh.refl _ _ _⟩
  case round =>
    obtain ⟨j, r0, hj, rfl, rfl, hr0, hr1, hs⟩ := hrel
    by_cases hlt : j < n
    · obtain ⟨t, g, cs, rfl, hg1, hg2, hb0, hz0, hE⟩ := (HL.out.sh EHeard.stab hs.out) (Nat.lt_of_le_of_lt (Nat.zero_le _) hlt)
      have he := hE j hlt
      clear HL hE
      have hms := HM.out j hlt
      have hmt := HT.out j
      obtain ⟨sj, hsj⟩ : ∃ s, sm f j = s := ⟨_, rfl⟩
      obtain ⟨fj, hfj⟩ : ∃ s, f j = s := ⟨_, rfl⟩
      rw [hsj] at hr1 hms hmt
      rw [hfj] at hms hmt he
      have HSJ := Lib.hid hsj; have HMT := Lib.hid hmt; clear hsj hfj hmt
      have hq0 : 0 ≤ r0 := by omega
      have hq1 : r0 ≤ 16777216 := by omega
      have hsz : n * 2 ≤ cs.size := hz0
      obtain ⟨hbare, hsl⟩ := he
      have NS0 := Lib.hid (show sl cs[j * 2]? = none from hbare 0 (by omega))
      obtain ⟨B1, k1, c1, e1, kk1, f1, p1, hm1⟩ := hsl
      have E1 := Lib.hid e1; have K1 := Lib.hid kk1; have P1 := Lib.hid p1; clear e1 kk1 p1
      have TW0 := Lib.hid (Sh.refl lo hi wr)
      obtain ⟨y0, hy0⟩ : ∃ y, cs[j * 2]? = some y := ⟨_, Array.getElem?_eq_getElem (by omega)⟩
      have hc0 := (hb0.cell (j * 2)).trans hy0
      have hf0 := hb0.frozen (j * 2)
      have hs1_ : cs[j * 2 + 1]? = some (.slice B1 k1 c1) := sl_of (by rw [E1.out]; rfl)
      have hl1 := (hb0.cell (j * 2 + 1)).trans hs1_
      have N0 := Lib.hid (show sl cs[j * 2]? = none by exact NS0.out)
      have HB0 := Lib.hid hb0; clear hb0 hs1_ hy0
      go_wp2_with fail
      refine (wReportS (lo := lo) (hi := hi) (a := wr) B1 k1 c1 f1 _ _ ((Sh.refl lo hi wr).put hg1 hg2 HB0.out N0.out _ rfl) (P1.out.sh EReport.stab TW0.out) K1.out (by omega) (by omega)).mono ?_
      rintro e w1 ⟨r1, rfl, hra1, hrb1, hS1⟩
      obtain ⟨cs1, hb1, hz1, hsl1⟩ := hS1.row g t cs hg1 hg2 HB0.out
      have HS1 := Lib.hid (show ∀ i : Nat, sl cs1[i]? = sl cs[i]? from fun i => hsl1 i)
      have TW1 := Lib.hid (TW0.out.trans hS1)
      clear hS1 hsl1 HB0  TW0 hl1 hc0 hf0 N0
      have HB1 := Lib.hid hb1; clear hb1 
      go_wp2
      go_roundw
      case rel => exact ⟨j + 1, r1, by omega, by go_num, by congr 1 <;> omega, by omega, by rw [HMT.out]; omega, hs.out.trans (TW1.out.trans (Sh.refl lo hi w1))⟩
      case measure => simp [intOf]; omega
    · have hjn : j = n := by omega
      subst hjn
      rw [HN.out] at hr1
      go_wp2
      go_ret
      exact ⟨r0, rfl, hr0, hr1, hs.out⟩
theorem wHeardS {lo hi : Nat} {a : World} (A : Option Addr) (n c : Nat) (f : Nat → Nat) (k : Int) (w : World) (hS : Sh lo hi a w) (h : RowE 2 (EHeard lo hi) lo hi a A n f) (hn : n ≤ 1048576) (h0 : 0 ≤ k) (h1 : k + (1 * n + 3 * sm f n : Nat) ≤ 16777216) :
    Calls Try.prog 53 #[.slice A n c, .int .i64 k] w (WM lo hi k (1 * n + 3 * sm f n) a) :=
  ((wHeardS0 lo hi A n c f k w (h.sh EHeard.stab hS) hn h0 h1)).mono fun e w' ⟨r, h1, h2, h3, h4⟩ => ⟨r, h1, h2, h3, hS.trans h4⟩
end Go.Proofs.Ytfdfjmibjnmhpaa.V
