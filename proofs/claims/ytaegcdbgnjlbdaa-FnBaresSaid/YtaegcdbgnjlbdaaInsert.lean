/-
  What insertVote answers: its contract. No statement is proved here.
-/
import Derived.Test.YtaegcdbgnjlbdaaReads
import Derived.Test.YtaegcdbgnjlbdaaSteps
import Derived.Test.YtaegcdbgnjlbdaaOwns
import Derived.IntWalk
set_option linter.unusedVariables false
set_option maxRecDepth 100000
namespace Go.Proofs.Ytaegcdbgnjlbdaa.V
open Go.RowKit Go.Proofs.Ytaegcdbgnjlbdaa.B

def VRes (us : List (Int × Int)) (w : World) (e : Ending) (w' : World) : Prop :=
  ∃ g c, e = .returned (.slice (some ⟨g, 0, none⟩) us.length c) ∧ w'.ownsRow w.heap.size 24 2 (.slice (some ⟨g, 0, none⟩) us.length c) us.length (vcells us) ∧ Below w.heap.size w w'

theorem infoV2 : (Try.prog.info? 24).map (fun i => (i.zero, i.size, i.bytes)) = some (some (.agg #[.int .i64 0, .int .i64 0]), 2, 16) := by kernel_rfl

/-- What stands behind the loop: the place k is found. -/
def At (vs : List (Int × Int)) (a : Int) (k : Nat) : Prop := k ≤ vs.length ∧ (∀ j, j < k → (vs.getD j (0, 0)).1 < a) ∧ (k < vs.length → ¬ (vs.getD k (0, 0)).1 < a)

theorem Rd.take_ {w : World} {Bd : Nat} {A : Option Addr} {vs : List (Int × Int)} (h : Rd w Bd A vs) (k : Nat) (hk : k ≤ vs.length) : Rd w Bd A (vs.take k) := fun hn => by
  rw [List.length_take] at hn
  obtain ⟨b, off, rfl, hb, hc⟩ := h (by omega)
  refine ⟨b, off, rfl, hb, fun i hi => ?_⟩
  rw [List.length_take] at hi
  have e : (vs.take k).getD i (0, 0) = vs.getD i (0, 0) := by
    simp only [List.getD]
    rw [List.getElem?_take_of_lt (by omega)]
  rw [e]
  exact hc i (by omega)
theorem Rd.drop_ {w : World} {Bd b off : Nat} {vs : List (Int × Int)} (h : Rd w Bd (some ⟨b, off, none⟩) vs) (k : Nat) : Rd w Bd (some ⟨b, off + k * 2, none⟩) (vs.drop k) := fun hn => by
  rw [List.length_drop] at hn
  obtain ⟨b', off', e, hb, hc⟩ := h (by omega)
  injection e with e
  injection e with e1 e2
  subst e1 e2
  refine ⟨b, off + k * 2, rfl, hb, fun i hi => ?_⟩
  rw [List.length_drop] at hi
  have e : (vs.drop k).getD i (0, 0) = vs.getD (k + i) (0, 0) := by
    simp only [List.getD]
    rw [List.getElem?_drop]
  have := hc (k + i) (by omega)
  rw [e, show off + k * 2 + i * 2 = off + (k + i) * 2 by omega]
  exact this
/-- What the three appends come to. -/
theorem vres_of {w w' : World} {ov : Value} {nn : Nat} {ys : List Value} {us : List (Int × Int)} (hown : w'.ownsRow w.heap.size 24 2 ov nn ys) (hn : nn = us.length) (hy : ys = vcells us) (hp : 0 < nn) (hB : Below w.heap.size w w') : VRes us w (.returned ov) w' := by
  subst hy hn
  obtain ⟨g, cap, rfl, _, _⟩ := hown.form hp
  exact ⟨g, cap, rfl, hown, hB⟩

set_option maxHeartbeats 1600000 in
theorem insert_any (g n : Nat) (vs : List (Int × Int)) (a b : Int) (k0 : Nat) (hvn : vs.length = n) (hat : At vs a k0) (w : World) (hr : Rd w w.heap.size (some ⟨g, 0, none⟩) vs) (hn : n ≤ 1048576) :
    Calls Try.prog 40 #[.slice (some ⟨g, 0, none⟩) n n, .agg #[.int .i64 a, .int .i64 b]] w (VRes (vs.take k0 ++ (a, b) :: vs.drop k0) w) := by
  obtain ⟨i0, hi0, hz0, hz1, hz2⟩ := info_parts infoV2
  have hk0 : k0 ≤ n := hvn ▸ hat.1
  have HAT := Lib.hid hat; clear hat
  have HV := Lib.hid hvn; clear hvn
  have hkb := Blk.new w 24 #[.int .i64 a, .int .i64 b]
  go_enter Try.func40, Try.ntmps40
  go_wp2
  go_loopw [5] (fun i wr => ∃ (k : Nat), k ≤ k0 ∧ i = .int .i64 k ∧ Below (w.heap.size + 1) (w.alloc (.cells #[.int .i64 a, .int .i64 b] 24)) wr) (fun i _ => n - (intOf i).toNat)
  case atStart => exact ⟨0, Nat.zero_le _, rfl, Below.refl _ _⟩
  case round =>
    obtain ⟨k, hk, rfl, hbel⟩ := hrel
    have hbb := hkb.below hbel (by omega)
    have hc0 := hbb.cell 0
    have hc1 := hbb.cell 1
    have hrr : Rd wr w.heap.size (some ⟨g, 0, none⟩) vs := hr.keep fun b o hb => (hbel.cell (p := ⟨b, o, none⟩) (by simp; omega)).trans (World.cell?_alloc_lt w _ ⟨b, o, none⟩ hb)
    by_cases hlt : k < k0
    · obtain ⟨bl, off, hA, hb, hd0, hd1⟩ := Rd.at_ hrr (k := k) (by rw [HV.out]; omega)
      injection hA with hA
      injection hA with hA1 hA2
      subst hA1 hA2
      have hva := HAT.out.2.1 k hlt
      clear hrr
      generalize vs.getD k (0, 0) = u at *
      obtain ⟨ua, ub⟩ := u
      simp only [Nat.zero_add] at hd0 hd1
      have D0 := fun x : Lat wr => x.cell hd0
      have C0 := fun x : Lat wr => x.cell hc0
      have hkn : k < n := by omega
      have hbt : decide (ua < a) = true := by simpa using hva
      have hi1 : (k : Int) < (n : Int) := by omega
      go_wp2
      refine wp_region_lat (by kernel_rfl) (by kernel_rfl) ?_
      repeat (go_big_quiet_step (fail))
      refine wpQuiet_nil ?_
      rintro w3 ⟨⟨_, hb3⟩, rfl⟩
      clear C0 D0
      go_wp2
      go_roundw
      case rel => exact ⟨k + 1, by omega, by go_num, hbel.trans (hb3.mono (by have := hbel.size; simp at this; omega))⟩
      case measure => simp [intOf]; omega
    · have hkk : k = k0 := by omega
      subst hkk
      by_cases hkn : k < n
      · obtain ⟨bl, off, hA, hb, hd0, hd1⟩ := Rd.at_ hrr (k := k) (by rw [HV.out]; omega)
        injection hA with hA
        injection hA with hA1 hA2
        subst hA1 hA2
        have hva := HAT.out.2.2 (by rw [HV.out]; omega)
        generalize hu : vs.getD k (0, 0) = u at *
        have HU := Lib.hid hu; clear hu
        obtain ⟨ua, ub⟩ := u
        simp only [Nat.zero_add] at hd0 hd1
        have D0 := fun x : Lat wr => x.cell hd0
        have C0 := fun x : Lat wr => x.cell hc0
        have hbt : decide (ua < a) = false := by simpa using hva
        have hi1 : (k : Int) < (n : Int) := by omega
        go_wp2
        refine wp_region_lat (by kernel_rfl) (by kernel_rfl) ?_
        repeat (go_big_quiet_step (fail))
        refine wpQuiet_nil ?_
        rintro w3 ⟨⟨_, hb3⟩, rfl⟩
        clear C0 D0
        have hbW : Below w.heap.size w w3 := Below.trans ((Below.refl _ _).alloc (Nat.le_refl _) _) ((hbel.mono (by omega)).trans (hb3.mono (by have := hbel.size; simp at this; omega)))
        have hz3 : w.heap.size ≤ w3.heap.size := hbW.size
        have hrw : Rd (w3.alloc (.cells #[] 24)) w3.heap.size (some ⟨g, 0, none⟩) vs := ((hr.below hbW).more hz3).alloc (Nat.le_refl _) _
        have hR1 := (Rd.take_ hrw k (by rw [HV.out]; omega)).reads
        rw [List.length_take, show min k vs.length = k by rw [HV.out]; omega] at hR1
        have hO1 := World.ownsRow_lit (e := 24) (base := w.heap.size) (size := 2) w3 #[] 0 hz3 (by simp [maxLen]) rfl
        have HR1 := Lib.hid hR1; clear hR1
        have HO1 := Lib.hid hO1; clear hO1 hrw hrr hbb hc0 hc1 hd0 hd1
        have hb3w : w.heap.size < w3.heap.size := by have h1 := hbel.size; have h2 := hb3.size; simp at h1; omega
        have hkb3 : Blk (w3.alloc (.cells #[] 24)) w.heap.size 24 #[.int .i64 a, .int .i64 b] := ((hkb.below hbel (by omega)).on hb3).alloc _
        have HKB := Lib.hid hkb3; clear hkb3 hkb
        have hn2 : ∀ u : World, Reads (u.alloc (.cells #[.int .i64 a, .int .i64 b] 24)) (u.heap.size + 1) 2 (some ⟨u.heap.size, 0, none⟩) 1 [.int .i64 a, .int .i64 b] := fun u => ⟨rfl, fun _ => ⟨_, rfl, by simp, World.news_of_block (cs := #[.int .i64 a, .int .i64 b]) (heap_alloc_new u _)⟩⟩
        have HN2 := Lib.hid hn2; clear hn2
        have hsrc : ∀ u : World, Below w.heap.size w u → Reads u w.heap.size 2 (some ⟨g, k * 2, none⟩) (n - k) (vcells (vs.drop k)) := fun u hu => by
          have h := (Rd.drop_ (hr.below hu) k).reads
          rw [List.length_drop, HV.out, Nat.zero_add] at h
          exact h
        have HSRC := Lib.hid hsrc; clear hsrc hr
        go_wp2_with (first
          | (at_builtin; refine wpList_append_any _ rfl (.tmp 23) (.tmp 26) 25 rfl w.heap.size 24 i0 _ 2 16 Try.underlying25 hi0 hz0 hz1 hz2 rfl (by omega) (.slice (some ⟨w3.heap.size, 0, none⟩) 0 0) 0 [] rfl HO1.out w3.heap.size (some ⟨g, 0, none⟩) k n (vcells (vs.take k)) rfl HR1.out (vcells_one _) (by simp only [maxLen]; omega) (by omega) (by simp; omega) ?_; intro v1 w4 hown1 hgr1 hat1; have hB4 : Below w.heap.size w w4 := (hbW.alloc hz3 _).grown hgr1 (by simp; omega) (fun j hj => (HO1.out.lt j hj).1); have kb4 := Blk.farm (g := w3.heap.size) HKB.out hgr1 (by omega); have rb4 := kb4.rule; have zb4 : w.heap.size < w4.heap.size := kb4.lt)
          | (at_builtin; refine wpList_append_any _ rfl (.tmp 28) (.tmp 30) 25 rfl w.heap.size 24 i0 _ 2 16 Try.underlying25 hi0 hz0 hz1 hz2 rfl (by omega) v1 (0 + k) ([] ++ vcells (vs.take k)) rfl (hown1.alloc _) (w4.heap.size + 1) (some ⟨w4.heap.size, 0, none⟩) 1 1 [.int .i64 a, .int .i64 b] rfl (HN2.out w4) (by simp [Value.oneCell']) (by simp only [maxLen]; omega) (by omega) (by simp; omega) ?_; intro v2 w5 hown2 hgr2 hat2; have hB5 : Below w.heap.size w w5 := (hB4.alloc hB4.size _).grown hgr2 (by simp; omega) (fun j hj => (hown1.lt j hj).1))
          | (at_builtin; refine wpList_append_any _ rfl (.tmp 32) (.tmp 35) 25 rfl w.heap.size 24 i0 _ 2 16 Try.underlying25 hi0 hz0 hz1 hz2 rfl (by omega) v2 (0 + k + 1) ([] ++ vcells (vs.take k) ++ [.int .i64 a, .int .i64 b]) rfl hown2 w.heap.size (some ⟨g, k * 2, none⟩) (n - k) (n - k) (vcells (vs.drop k)) rfl (HSRC.out w5 hB5) (vcells_one _) (by simp only [maxLen]; omega) (by omega) hB5.size ?_; intro v3 w6 hown3 hgr3 hat3; have hB6 : Below w.heap.size w w6 := hB5.grown hgr3 hB5.size (fun j hj => (hown2.lt j hj).1)))
        go_ret
        exact vres_of hown3 (by simp only [List.length_append, List.length_take, List.length_cons, List.length_drop, HV.out]; omega) (by simp [vcells]) (by omega) hB6
      · obtain rfl : n = k := by omega
        go_wp2
        refine wp_region_lat (by kernel_rfl) (by kernel_rfl) ?_
        repeat (go_big_quiet_step (fail))
        refine wpQuiet_nil ?_
        rintro w3 ⟨⟨_, hb3⟩, rfl⟩
        have hbW : Below w.heap.size w w3 := Below.trans ((Below.refl _ _).alloc (Nat.le_refl _) _) ((hbel.mono (by omega)).trans (hb3.mono (by have := hbel.size; simp at this; omega)))
        have hz3 : w.heap.size ≤ w3.heap.size := hbW.size
        have hrw : Rd (w3.alloc (.cells #[] 24)) w3.heap.size (some ⟨g, 0, none⟩) vs := ((hr.below hbW).more hz3).alloc (Nat.le_refl _) _
        have hR1 := (Rd.take_ hrw n (by rw [HV.out]; omega)).reads
        rw [List.length_take, show min n vs.length = n by rw [HV.out]; omega] at hR1
        have hO1 := World.ownsRow_lit (e := 24) (base := w.heap.size) (size := 2) w3 #[] 0 hz3 (by simp [maxLen]) rfl
        have HR1 := Lib.hid hR1; clear hR1
        have HO1 := Lib.hid hO1; clear hO1 hrw hrr hbb hc0 hc1
        have hb3w : w.heap.size < w3.heap.size := by have h1 := hbel.size; have h2 := hb3.size; simp at h1; omega
        have hkb3 : Blk (w3.alloc (.cells #[] 24)) w.heap.size 24 #[.int .i64 a, .int .i64 b] := ((hkb.below hbel (by omega)).on hb3).alloc _
        have HKB := Lib.hid hkb3; clear hkb3 hkb
        have hn2 : ∀ u : World, Reads (u.alloc (.cells #[.int .i64 a, .int .i64 b] 24)) (u.heap.size + 1) 2 (some ⟨u.heap.size, 0, none⟩) 1 [.int .i64 a, .int .i64 b] := fun u => ⟨rfl, fun _ => ⟨_, rfl, by simp, World.news_of_block (cs := #[.int .i64 a, .int .i64 b]) (heap_alloc_new u _)⟩⟩
        have HN2 := Lib.hid hn2; clear hn2
        have hsrc : ∀ u : World, Below w.heap.size w u → Reads u w.heap.size 2 (some ⟨g, 0, none⟩) 0 [] := fun u hu => by
          exact ⟨rfl, fun h => absurd h (by omega)⟩
        have HSRC := Lib.hid hsrc; clear hsrc hr
        go_wp2_with (first
          | (at_builtin; refine wpList_append_any _ rfl (.tmp 23) (.tmp 26) 25 rfl w.heap.size 24 i0 _ 2 16 Try.underlying25 hi0 hz0 hz1 hz2 rfl (by omega) (.slice (some ⟨w3.heap.size, 0, none⟩) 0 0) 0 [] rfl HO1.out w3.heap.size (some ⟨g, 0, none⟩) n n (vcells (vs.take n)) rfl HR1.out (vcells_one _) (by simp only [maxLen]; omega) (by omega) (by simp; omega) ?_; intro v1 w4 hown1 hgr1 hat1; have hB4 : Below w.heap.size w w4 := (hbW.alloc hz3 _).grown hgr1 (by simp; omega) (fun j hj => (HO1.out.lt j hj).1); have kb4 := Blk.farm (g := w3.heap.size) HKB.out hgr1 (by omega); have rb4 := kb4.rule; have zb4 : w.heap.size < w4.heap.size := kb4.lt)
          | (at_builtin; refine wpList_append_any _ rfl (.tmp 28) (.tmp 30) 25 rfl w.heap.size 24 i0 _ 2 16 Try.underlying25 hi0 hz0 hz1 hz2 rfl (by omega) v1 (0 + n) ([] ++ vcells (vs.take n)) rfl (hown1.alloc _) (w4.heap.size + 1) (some ⟨w4.heap.size, 0, none⟩) 1 1 [.int .i64 a, .int .i64 b] rfl (HN2.out w4) (by simp [Value.oneCell']) (by simp only [maxLen]; omega) (by omega) (by simp; omega) ?_; intro v2 w5 hown2 hgr2 hat2; have hB5 : Below w.heap.size w w5 := (hB4.alloc hB4.size _).grown hgr2 (by simp; omega) (fun j hj => (hown1.lt j hj).1))
          | (at_builtin; refine wpList_append_any _ rfl (.tmp 32) (.tmp 35) 25 rfl w.heap.size 24 i0 _ 2 16 Try.underlying25 hi0 hz0 hz1 hz2 rfl (by omega) v2 (0 + n + 1) ([] ++ vcells (vs.take n) ++ [.int .i64 a, .int .i64 b]) rfl hown2 w.heap.size (some ⟨g, 0, none⟩) 0 0 [] rfl (HSRC.out w5 hB5) (by simp) (by simp only [maxLen]; omega) (by omega) hB5.size ?_; intro v3 w6 hown3 hgr3 hat3; have hB6 : Below w.heap.size w w6 := hB5.grown hgr3 hB5.size (fun j hj => (hown2.lt j hj).1)))
        go_ret
        have hd : vs.drop n = [] := List.drop_eq_nil_of_le (by rw [HV.out]; omega)
        rw [hd]
        exact vres_of hown3 (by simp only [List.length_append, List.length_take, List.length_cons, List.length_nil, HV.out]; omega) (by simp [vcells]) (by omega) hB6
end Go.Proofs.Ytaegcdbgnjlbdaa.V
