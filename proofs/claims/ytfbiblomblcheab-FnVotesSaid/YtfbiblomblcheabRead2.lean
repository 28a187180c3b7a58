/-
  MsgRead of the model: what it answers, for whatever bytes.
-/
import Derived.Test.YtfbiblomblcheabRead1
import Derived.Test.YtfbiblomblcheabSpecWith
import Derived.Deep.AppendLies
import Derived.Deep.RegionHeld3
import Derived.Deep.CutRange
set_option linter.unusedVariables false
set_option maxRecDepth 100000
namespace Go.Proofs.Ytfbiblomblcheab.V
open Go.RowKit Go.ChangeShapes Go.WideShapes Go.Proofs.Ytfbiblomblcheab.B

/-- A message of the call's own, and whether there is one. -/
def GRes (k v x a b : Int) (q : Bool) (us : List (Int × Int)) (w : World) (e : Ending) (w' : World) : Prop :=
  ∃ B d, e = .returned (.tuple #[.agg #[.int .i64 k, .int .i64 v, .int .i64 x, .int .i64 a, .int .i64 b, .slice B us.length d], .bool q]) ∧ OV w' 30 w.heap.size B us ∧ Below w.heap.size w w'

theorem specRead_short (A : Option Addr) (n c : Nat) (w : World) (hn : n < 6) :
    Calls Try.prog 34 #[.slice A n c] w (GRes 0 0 0 0 0 false [] w) := by
  have h6 : decide ((n : Int) < 6) = true := by simp; omega
  go_enter Try.func34, Try.ntmps34
  go_wp2
  refine bodyPost_ret (v := .tuple #[.agg #[.int .i64 0, .int .i64 0, .int .i64 0, .int .i64 0, .int .i64 0, .slice none 0 0], .bool false]) (by simp [results, Try.results34, go_sem]) rfl ?_
  exact ⟨none, 0, rfl, OV.nil_, (Below.refl _ _).alloc (Nat.le_refl _) _⟩
theorem specRead_odd (b off n c : Nat) (m : Int) (w : World) (hn : 6 ≤ n) (hm : w.cell? ⟨b, off + 5, none⟩ = some (.int .u8 m)) (h0 : 0 ≤ m) (h1 : m < 256) (hne : (n : Int) ≠ 6 + 2 * m) :
    Calls Try.prog 34 #[.slice (some ⟨b, off, none⟩) n c] w (GRes 0 0 0 0 0 false [] w) := by
  have h6 : decide ((n : Int) < 6) = false := by simp; omega
  have hm' : (w.alloc (.cells #[.int .i64 0, .int .i64 0, .int .i64 0, .int .i64 0, .int .i64 0, .slice none 0 0] 43)).cell? ⟨b, off + 5, none⟩ = some (.int .u8 m) := (World.cell?_alloc_lt w _ ⟨b, off + 5, none⟩ (World.block_lt_of_cell? w _ hm)).trans hm
  have hne2 : decide ((n : Int) = 6 + 2 * m) = false := by simpa using hne
  have h5 : 5 < n := by omega
  go_enter Try.func34, Try.ntmps34
  go_wp2
  refine bodyPost_ret (v := .tuple #[.agg #[.int .i64 0, .int .i64 0, .int .i64 0, .int .i64 0, .int .i64 0, .slice none 0 0], .bool false]) (by simp [results, Try.results34, go_sem]) rfl ?_
  exact ⟨none, 0, rfl, OV.nil_, (Below.refl _ _).alloc (Nat.le_refl _) _⟩

def C6 (k v x a b : Int) (ov : Value) : Array Value := #[.int .i64 k, .int .i64 v, .int .i64 x, .int .i64 a, .int .i64 b, ov]
/-- The message that is being made: its box at block g, its row of votes, and what was there as it was. -/
structure Mk (w1 W : World) (g : Nat) (k v x a b : Int) (ov : Value) (m : Nat) (ys : List Value) : Prop where
  box : Blk W g 43 (C6 k v x a b ov)
  own : W.ownsRow (g + 1) 30 2 ov m ys
  bel : Below g w1 W
theorem Mk.on {w1 W W' : World} {g : Nat} {k v x a b : Int} {ov : Value} {m : Nat} {ys : List Value} (h : Mk w1 W g k v x a b ov m ys) (hb : Below W.heap.size W W') : Mk w1 W' g k v x a b ov m ys :=
  ⟨h.box.on hb, own_on h.own hb, h.bel.trans (hb.mono (Nat.le_of_lt h.box.lt))⟩
theorem Mk.other {w1 W W4 : World} {g : Nat} {k v x a b : Int} {ov : Value} {m : Nat} {ys : List Value} {O : Obj} (h : Mk w1 W g k v x a b ov m ys) (hgr : (W.alloc O).grownBy W4 ov.ownBlock) : Blk W4 g 43 (C6 k v x a b ov) :=
  (hgr.block _ (by have := h.box.lt; simp; omega) (fun e => by have := (h.own.lt _ e.symm).1; omega)).trans (h.box.alloc O)
theorem Mk.step {w1 W W4 : World} {g : Nat} {k v x a b : Int} {ov v1 : Value} {m j : Nat} {ys zs : List Value} {O : Obj} (h : Mk w1 W g k v x a b ov m ys) (hgr : (W.alloc O).grownBy W4 ov.ownBlock) (hown : W4.ownsRow (g + 1) 30 2 v1 j zs) :
    Mk w1 (W4.setCell ⟨g, 5, none⟩ v1) g k v x a b v1 j zs :=
  ⟨by have := (h.other hgr).set_ 5 v1; exact this, ownsRow_setCell_below hown (by simp) v1, ((h.bel.alloc (Nat.le_of_lt h.box.lt) O).grown hgr (by have := h.box.lt; simp; omega) (fun j hj => by have := (h.own.lt j hj).1; omega)).setCell (Nat.le_refl _) v1⟩

theorem form_of {w : World} {base e size n : Nat} {v : Value} {xs : List Value} (h : w.ownsRow base e size v n xs) : ∃ A c, v = .slice A n c := by
  obtain ⟨_, ⟨rfl, rfl⟩ | ⟨g, cap, cur, rfl, _⟩⟩ := h
  · exact ⟨_, _, rfl⟩
  · exact ⟨_, _, rfl⟩

set_option maxRecDepth 20000 in
set_option maxHeartbeats 3200000 in
theorem specRead_go (q : Bool) (k v x a b : Int) (us : List (Int × Int)) (bl off n m c : Nat) (w : World) (hn : n = 6 + 2 * m) (hm : m < 256) (hus : us.length = m) (hb : bl < w.heap.size) (hq : msgOkB k v x a b us = q)
    (hk : 0 ≤ k ∧ k < 256) (hv : 0 ≤ v ∧ v < 256) (hx : 0 ≤ x ∧ x < 256) (ha : 0 ≤ a ∧ a < 256) (hbb : 0 ≤ b ∧ b < 256)
    (h0 : w.cell? ⟨bl, off, none⟩ = some (.int .u8 k)) (h1 : w.cell? ⟨bl, off + 1, none⟩ = some (.int .u8 v)) (h2 : w.cell? ⟨bl, off + 2, none⟩ = some (.int .u8 x)) (h3 : w.cell? ⟨bl, off + 3, none⟩ = some (.int .u8 a)) (h4 : w.cell? ⟨bl, off + 4, none⟩ = some (.int .u8 b)) (h5 : w.cell? ⟨bl, off + 5, none⟩ = some (.int .u8 m))
    (hvs : ∀ j, j < m → w.cell? ⟨bl, off + (6 + 2 * j), none⟩ = some (.int .u8 (us.getD j (0, 0)).1) ∧ w.cell? ⟨bl, off + (6 + 2 * j + 1), none⟩ = some (.int .u8 (us.getD j (0, 0)).2) ∧ (0 ≤ (us.getD j (0, 0)).1 ∧ (us.getD j (0, 0)).1 < 256) ∧ (0 ≤ (us.getD j (0, 0)).2 ∧ (us.getD j (0, 0)).2 < 256)) :
    Calls Try.prog 34 #[.slice (some ⟨bl, off, none⟩) n c] w (GRes (if q then k else 0) (if q then v else 0) (if q then x else 0) (if q then a else 0) (if q then b else 0) q (if q then us else []) w) := by
  obtain ⟨i0, hi0, hz0, hz1, hz2⟩ := info_parts infoV2
  have hcon := fun A c W h => specMsgOk_is q k v x a b A c us hq W h (by omega)
  have HCON := Lib.hid hcon; clear hcon
  obtain ⟨k2, hk2⟩ : ∃ z, (if q then k else 0) = z := ⟨_, rfl⟩
  obtain ⟨v2, hv2⟩ : ∃ z, (if q then v else 0) = z := ⟨_, rfl⟩
  obtain ⟨x2, hx2⟩ : ∃ z, (if q then x else 0) = z := ⟨_, rfl⟩
  obtain ⟨a2, ha2⟩ : ∃ z, (if q then a else 0) = z := ⟨_, rfl⟩
  obtain ⟨b2, hb2⟩ : ∃ z, (if q then b else 0) = z := ⟨_, rfl⟩
  obtain ⟨us2, hus2⟩ : ∃ z, (if q then us else []) = z := ⟨_, rfl⟩
  rw [hk2, hv2, hx2, ha2, hb2, hus2]
  have HK2 := Lib.hid hk2; clear hk2
  have HV2 := Lib.hid hv2; clear hv2
  have HX2 := Lib.hid hx2; clear hx2
  have HA2 := Lib.hid ha2; clear ha2
  have HB2 := Lib.hid hb2; clear hb2
  have HUS2 := Lib.hid hus2; clear hus2
  have h6 : decide ((n : Int) < 6) = false := by simp; omega
  have hne2 : ((n : Int) != 6 + 2 * (m : Int)) = false := by simp; omega
  have hl5 : 5 < n := by omega
  have hcells := (fun (W : World) (hw : Below w.heap.size w W) => (⟨(hw.cell hb).trans h0, (hw.cell hb).trans h1, (hw.cell hb).trans h2, (hw.cell hb).trans h3, (hw.cell hb).trans h4, (hw.cell hb).trans h5⟩ : W.cell? ⟨bl, off, none⟩ = some (.int .u8 k) ∧ W.cell? ⟨bl, off + 1, none⟩ = some (.int .u8 v) ∧ W.cell? ⟨bl, off + 2, none⟩ = some (.int .u8 x) ∧ W.cell? ⟨bl, off + 3, none⟩ = some (.int .u8 a) ∧ W.cell? ⟨bl, off + 4, none⟩ = some (.int .u8 b) ∧ W.cell? ⟨bl, off + 5, none⟩ = some (.int .u8 m)))
  have HC := Lib.hid hcells
  have hw1 := hcells _ ((Below.refl w.heap.size w).alloc (Nat.le_refl _) (.cells #[.int .i64 0, .int .i64 0, .int .i64 0, .int .i64 0, .int .i64 0, .slice none 0 0] 43))
  have kz := (Blk.new w 43 #[.int .i64 0, .int .i64 0, .int .i64 0, .int .i64 0, .int .i64 0, .slice none 0 0])
  have HKZ : Hid (∀ wr, Below (w.heap.size + 1) (w.alloc (.cells #[.int .i64 0, .int .i64 0, .int .i64 0, .int .i64 0, .int .i64 0, .slice none 0 0] 43)) wr → Blk wr w.heap.size 43 #[.int .i64 0, .int .i64 0, .int .i64 0, .int .i64 0, .int .i64 0, .slice none 0 0]) := fun wr h => kz.below h (by omega)
  clear hcells h0 h1 h2 h3 h4 h5 kz
  obtain ⟨h0, h1, h2, h3, h4, h5⟩ := hw1
  have HVS := Lib.hid hvs; clear hvs
  have HN := Lib.hid hn; clear hn
  have HUS := Lib.hid hus; clear hus hq
  have hm0 : 0 ≤ (m : Int) := by omega
  have hm1 : (m : Int) < 256 := by omega
  go_enter Try.func34, Try.ntmps34
  go_wp2_with fail
  have e0 : 0 < n := by omega
  have e1 : 1 < n := by omega
  have e2 : 2 < n := by omega
  have e3 : 3 < n := by omega
  have e4 : 4 < n := by omega
  have j0 : (0 : Int) < (n : Int) := by omega
  have j1 : (1 : Int) < (n : Int) := by omega
  have j2 : (2 : Int) < (n : Int) := by omega
  have j3 : (3 : Int) < (n : Int) := by omega
  have j4 : (4 : Int) < (n : Int) := by omega
  obtain ⟨hk0, hk1⟩ := hk
  obtain ⟨hv0, hv1⟩ := hv
  obtain ⟨hx0, hx1⟩ := hx
  obtain ⟨ha0, ha1⟩ := ha
  obtain ⟨hb0, hb1⟩ := hbb
  have hwk : IntKind.i64.wrap k = k := IntWalk.i64_in _ (by omega)
  have hwv : IntKind.i64.wrap v = v := IntWalk.i64_in _ (by omega)
  have hwx : IntKind.i64.wrap x = x := IntWalk.i64_in _ (by omega)
  have hwa : IntKind.i64.wrap a = a := IntWalk.i64_in _ (by omega)
  have hwb : IntKind.i64.wrap b = b := IntWalk.i64_in _ (by omega)
  go_region_held3 (fun w' => w'.cell? ⟨bl, off, none⟩ = some (.int .u8 k) ∧ w'.cell? ⟨bl, off + 1, none⟩ = some (.int .u8 v) ∧ w'.cell? ⟨bl, off + 2, none⟩ = some (.int .u8 x) ∧ w'.cell? ⟨bl, off + 3, none⟩ = some (.int .u8 a) ∧ w'.cell? ⟨bl, off + 4, none⟩ = some (.int .u8 b) ∧ w'.cell? ⟨bl, off + 5, none⟩ = some (.int .u8 m))
    (first | exact HC.out _ (by repeat (first | exact Below.refl _ _ | refine Below.drew ?_ | refine Below.alloc ?_ (by simp <;> omega) _ | refine Below.setCell ?_ (by simp <;> omega) _)))
    (first | fail)
  go_wp2
  have HNUM := Lib.hid (And.intro hk0 (And.intro hv0 (And.intro hx0 (And.intro ha0 hb0))))
  clear h0 h1 h2 h3 h4 h5 hwk hwv hwx hwa hwb e0 e1 e2 e3 e4 j0 j1 j2 j3 j4 hk0 hk1 hv0 hv1 hx0 hx1 ha0 ha1 hb0 hb1 HNUM
  go_loopw [5] (fun i wr => ∃ (j p : Nat) (ov : Value) (ys : List Value), j ≤ m ∧ i = .int .i64 (p : Int) ∧ Hid (p = 6 + 2 * j) ∧ Hid (ys = vcells (us.take j)) ∧ Mk (w.alloc (.cells #[.int .i64 0, .int .i64 0, .int .i64 0, .int .i64 0, .int .i64 0, .slice none 0 0] 43)) wr (w.heap.size + 1) k v x a b ov j ys) (fun i _ => n - (intOf i).toNat)
  case atStart =>
    refine ⟨0, 6, .slice none 0 0, [], Nat.zero_le _, rfl, rfl, by show _ = _; simp [vcells], ⟨?_, ?_, ?_⟩⟩
    · exact (World.size_alloc w (.cells #[.int .i64 0, .int .i64 0, .int .i64 0, .int .i64 0, .int .i64 0, .slice none 0 0] 43)) ▸ Blk.new (w.alloc (.cells #[.int .i64 0, .int .i64 0, .int .i64 0, .int .i64 0, .int .i64 0, .slice none 0 0] 43)) _ _
    · exact World.ownsRow_nil _ _ _ _
    · exact ((Below.refl _ _).alloc (by simp) _).drew
  case round =>
    obtain ⟨j, p, ov, ys, hj, rfl, hp, hys, hst⟩ := hrel
    have hzr : w.heap.size + 1 < wr.heap.size := hst.box.lt
    have hBw : Below w.heap.size w wr := Below.trans ((Below.refl _ _).alloc (Nat.le_refl _) _) (hst.bel.mono (by omega))
    by_cases hlt : j < m
    · obtain ⟨hc0, hc1, ⟨hu0, hu1⟩, ⟨hv0, hv1⟩⟩ := HVS.out j hlt
      have hpe : p = 6 + 2 * j := hp.out
      have hpn : p < n := by have := HN.out; omega
      have hpn1 : p + 1 < n := by have := HN.out; omega
      have HYS : Hid (ys ++ vcells [us.getD j (0, 0)] = vcells (us.take (j + 1))) := by
        show _ = _
        have h2 : us[j]? = some (us.getD j (0, 0)) := by
          rw [List.getD_eq_getElem?_getD]
          have : j < us.length := by rw [HUS.out]; exact hlt
          simp [List.getElem?_eq_getElem this]
        rw [hys.out, take_one h2]; rfl
      rw [← hpe] at hc0 hc1
      clear hpe
      obtain ⟨⟨ua, ub⟩, hu⟩ : ∃ u, us.getD j (0, 0) = u := ⟨_, rfl⟩
      rw [hu] at hc0 hc1 hu0 hu1 hv0 hv1 HYS
      clear hu
      simp only at hu0 hu1 hv0 hv1 hc0 hc1
      have d0 := (hBw.cell (p := ⟨bl, off + p, none⟩) hb).trans hc0
      have d1 := (hBw.cell (p := ⟨bl, off + (p + 1), none⟩) hb).trans hc1
      have rb : wr.cell? ⟨w.heap.size + 1, 5, none⟩ = some ov := hst.box.cell 5
      clear hc0 hc1
      have hwa : IntKind.i64.wrap ua = ua := IntWalk.i64_in _ (by omega)
      have hwb : IntKind.i64.wrap ub = ub := IntWalk.i64_in _ (by omega)
      have hi0' : (0 : Int) ≤ (p : Int) := by omega
      have hi1' : (p : Int) < (n : Int) := by omega
      obtain ⟨p1, hp1⟩ : ∃ p1, p + 1 = p1 := ⟨_, rfl⟩
      have hE : (p : Int) + 1 = (p1 : Int) := by omega
      have hW : IntKind.i64.wrap (p1 : Int) = (p1 : Int) := IntWalk.i64_in _ (by have := HN.out; omega)
      obtain ⟨p2, hp2⟩ : ∃ p2, p + 2 = p2 := ⟨_, rfl⟩
      have hE2 : (p : Int) + 2 = (p2 : Int) := by omega
      have hW2 : IntKind.i64.wrap (p2 : Int) = (p2 : Int) := IntWalk.i64_in _ (by have := HN.out; omega)
      have HP2 := Lib.hid hp2; clear hp2
      have hi2' : (0 : Int) ≤ (p1 : Int) := by omega
      have hi3' : (p1 : Int) < (n : Int) := by omega
      rw [hp1] at d1 hpn1
      clear hp1
      have D0 := Lib.hid (fun O => (World.cell?_alloc_lt wr O ⟨bl, off + p, none⟩ (World.block_lt_of_cell? wr _ d0)).trans d0)
      have D1 := Lib.hid (fun O => (World.cell?_alloc_lt wr O ⟨bl, off + p1, none⟩ (World.block_lt_of_cell? wr _ d1)).trans d1)
      have hlt' := hst.own.lt
      have ag : ov.ownBlock ≠ some (w.heap.size + 1) := fun h => by have := (hlt' _ h).1; omega
      have av : ov.ownBlock ≠ some bl := fun h => by have := (hlt' _ h).1; omega
      have HAG := Lib.hid ag; clear ag
      have HAV := Lib.hid av; clear av hlt'
      go_wp2_with fail
      have rbO := fun O => (World.cell?_alloc_lt wr O ⟨w.heap.size + 1, 5, none⟩ hzr).trans rb
      go_region_law ((refine step_append_lies _ (by rfl) (.tmp 50) (.tmp 63) 23 (by rfl) (w.heap.size + 1 + 1) 30 i0 _ 2 16 Try.underlying23 hi0 hz0 hz1 hz2 rfl (by omega) ov j ys (by rfl) ((hst.own.alloc _).drew) ⟨wr.heap.size, 0, none⟩ 1 1 [.int .i64 ua, .int .i64 ub] (by rfl) (by rfl) (World.news_of_block (cs := #[.int .i64 ua, .int .i64 ub]) (t := 30) (fr := (0, 0)) (heap_alloc_new wr _)) (by simp [Value.oneCell']) (by omega) (by simp only [maxLen]; omega) (by omega) (by simp; omega) (wr.heap.size + 1) (by simp) ?_; intro gg cap w1 hown1 hgrow hat hlt2; have hob4 := hst.other (grown_undrew hgrow); have rob4 : w1.cell? ⟨w.heap.size + 1, 5, none⟩ = some ov := hob4.cell 5; have fob4 := hob4.frozen 5))
      all_goals go_wp2
      all_goals go_roundw
      all_goals first
        | (refine ⟨j + 1, p2, _, _, by omega, by go_num, by show _ = _; have := hp.out; have := HP2.out; omega, HYS, hst.step (grown_undrew hgrow) hown1⟩)
        | (have := HP2.out; simp [intOf]; omega)
    · obtain rfl : j = m := by omega
      have hpn : p = n := by have := hp.out; have := HN.out; omega
      subst hpn
      have hye : ys = vcells us := by rw [hys.out, List.take_of_length_le (by rw [HUS.out]; omega)]
      subst hye
      obtain ⟨A6, c6, rfl⟩ := form_of hst.own
      have ho : wr.ownsRow (w.heap.size + 1 + 1) 30 2 (.slice A6 us.length c6) us.length (vcells us) := by rw [HUS.out]; exact hst.own
      have ho6 := OV.of_own ho
      have hk6 := hst.box
      have rk6 : ∀ i, wr.cell? ⟨w.heap.size + 1, i, none⟩ = (#[.int .i64 k, .int .i64 v, .int .i64 x, .int .i64 a, .int .i64 b, .slice A6 j c6] : Array Value)[i]? := hk6.rule
      have hB6 := hBw
      have kz6 := HKZ.out _ hst.bel
      go_wp2_with fail
      rw [← HUS.out]
      refine (HCON.out _ _ _ ho6.rd).mono ?_
      rintro e w7 ⟨rfl, hb7⟩
      have rk7 : ∀ i, w7.cell? ⟨w.heap.size + 1, i, none⟩ = (#[.int .i64 k, .int .i64 v, .int .i64 x, .int .i64 a, .int .i64 b, .slice A6 us.length c6] : Array Value)[i]? := by rw [HUS.out]; exact (hk6.on hb7).rule
      have hB7 := on_ hB6 hb7
      have ho7 := ho6.on hb7
      have kz7 := kz6.on hb7
      have rz7 := kz7.rule
      have fz7 := fun i => kz7.frozen i
      have hz7 := kz7.lt
      clear hb7 ho6 hk6 rk6 hB6 kz6
      cases q
      · go_wp2
        refine bodyPost_ret (v := .tuple #[.agg #[.int .i64 0, .int .i64 0, .int .i64 0, .int .i64 0, .int .i64 0, .slice none 0 0], .bool false]) (by simp [results, Try.results34, go_sem, rz7]) rfl ?_
        rw [← HK2.out, ← HV2.out, ← HX2.out, ← HA2.out, ← HB2.out, ← HUS2.out]
        refine ⟨none, 0, rfl, OV.nil_, ?_⟩
        iterate 6 refine Below.setCell ?_ (by simp <;> omega) _
        exact hB7
      · go_wp2
        refine bodyPost_ret (v := .tuple #[.agg #[.int .i64 k, .int .i64 v, .int .i64 x, .int .i64 a, .int .i64 b, .slice A6 us.length c6], .bool true]) (by simp [results, Try.results34, go_sem, rz7]) rfl ?_
        rw [← HK2.out, ← HV2.out, ← HX2.out, ← HA2.out, ← HB2.out, ← HUS2.out]
        refine ⟨A6, c6, rfl, ?_, ?_⟩
        · refine OV.more (b := w.heap.size + 1 + 1) ?_ (by omega)
          iterate 6 refine OV.set_ ?_ (by simp; omega) _
          exact ho7
        · iterate 6 refine Below.setCell ?_ (by simp <;> omega) _
          exact hB7
end Go.Proofs.Ytfbiblomblcheab.V
