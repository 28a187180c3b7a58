/-
  A store of numbers, a command: how they read, how they are opened, and what the helpers of the laws do with them. No statement is proved here.
-/
import Derived.Test.YtbogagddjkghhaaDoorOwnI
import Derived.Test.YtbogagddjkghhaaDoorLift
import Derived.Deep.Slices
set_option linter.unusedVariables false
set_option maxRecDepth 100000
namespace Go.Proofs.YtbogagddjkghhaaDoor.B
open Go.RowKit Go.ChangeShapes Go.WideShapes Go.Deep
theorem OI.more {w : World} {t b b' : Nat} {A : Option Addr} {xs : List Int} (h : OI w t b A xs) (hb : b' ≤ b) : OI w t b' A xs := by
  rcases h with h | ⟨g, cur, h1, h2, h3⟩
  · exact .inl h
  · exact .inr ⟨g, cur, h1, by omega, h3⟩
theorem OI.set_ {w : World} {t base : Nat} {A : Option Addr} {xs : List Int} (h : OI w t base A xs) {p : Addr} (hp : p.block < base) (u : Value) : OI (w.setCell p u) t base A xs := by
  rcases h with ⟨rfl, rfl⟩ | ⟨g', cur, rfl, hb', hk, hh⟩
  · exact OI.nil_
  · exact .inr ⟨g', cur, rfl, hb', hk.far (by omega) u, hh⟩
theorem RdI.dr {w : World} {A : Option Addr} {xs : List Int} (h : RdI w w.heap.size A xs) : RdI w.drew w.drew.heap.size A xs := h

section
variable {H : Type} {enc : TypeId × Value → H} {w : World}
theorem open_nums {fuel : Nat} {cs : List Value} {x : DataW H × List MemPlace} (h : DataW.trod enc Tryd.prog w 0 (fun _ => true) true fuel 44 cs = some x) :
    ∃ (A : Option Addr) (c : Nat) (xs : List Int), cs = [.slice A xs.length c] ∧ xs.length ≤ maxLen ∧ RdI w w.heap.size A xs := by
  rcases open_slice1 Tryd.underlying44 (by kernel_rfl) h with ⟨rfl, _⟩ | ⟨a, len, cap, m, n, V, D, Pl, rfl, _, hl, hm, hmm, _, hx⟩
  · exact ⟨none, 0, [], rfl, by simp [maxLen], RdI.nil_⟩
  · have hlm : len ≤ m := by rw [hmm]; simpa using hl
    refine ⟨some a, cap, (List.range len).map fun i => intOf (V i), by simp, by simp; omega, fun hp => ?_⟩
    have hp' : 0 < len := by simpa using hp
    have hz0 := (hx 0 (by omega)).1
    rw [show a.add 0 = a from rfl] at hz0
    obtain ⟨b, off, rfl⟩ := addr_none hz0
    refine ⟨b, off, rfl, World.block_lt_of_cell? w ⟨b, off, none⟩ hz0, fun i hi => ?_⟩
    have hi' : i < len := by simpa using hi
    obtain ⟨h0, t0⟩ := hx i (by omega)
    obtain ⟨n0, e0, _, _⟩ := DataW.trod_int Tryd.underlying3 t0
    simp only [List.cons.injEq, and_true] at e0
    rw [add_plain] at h0
    have hg : ((List.range len).map fun i => intOf (V i)).getD i 0 = n0 := by
      simp [List.getD, hi', e0, intOf]
    rw [hg, h0, e0]
theorem open_store {fuel : Nat} {cs : List Value} {x : DataW H × List MemPlace} (h : DataW.trod enc Tryd.prog w 0 (fun _ => true) true fuel 68 cs = some x) :
    ∃ (A : Option Addr) (c : Nat) (xs : List Int) (n : Int), cs = [.slice A xs.length c, .int .i64 n] ∧ xs.length ≤ maxLen ∧ RdI w w.heap.size A xs := by
  obtain ⟨ys, k, hk, hxy, hlen, hxl, hf⟩ := DataW.trod_struct Tryd.underlying68 h
  rw [show Tryd.prog.cellsOf 68 = 2 by kernel_rfl] at hlen
  match ys, hxl, cs, hlen with
  | [y0, y1], _, [v0, v1], _ =>
    have g0 := hf 0 _ rfl
    have g1 := hf 1 _ rfl
    have e4 : Tryd.prog.cellsOf 44 = 1 := by kernel_rfl
    have e5 : Tryd.prog.cellsOf 3 = 1 := by kernel_rfl
    have g0 : DataW.trod enc Tryd.prog w 0 (fun _ => true) true k 44 (([v0, v1].drop 0).take (Tryd.prog.cellsOf 44)) = some y0 := g0
    have g1 : DataW.trod enc Tryd.prog w 0 (fun _ => true) true k 3 (([v0, v1].drop 1).take (Tryd.prog.cellsOf 3)) = some y1 := g1
    rw [e4] at g0
    rw [e5] at g1
    obtain ⟨A, c, xs, hcs, hm, hr⟩ := open_nums g0
    obtain ⟨n, e1, _, _⟩ := DataW.trod_int Tryd.underlying3 g1
    simp at hcs e1
    exact ⟨A, c, xs, n, by rw [hcs, e1], hm, hr⟩
end
end Go.Proofs.YtbogagddjkghhaaDoor.B

namespace Go.Proofs.YtbogagddjkghhaaDoor.V
open Go.RowKit Go.Proofs.YtbogagddjkghhaaDoor.B
theorem infoI7 : (Tryd.prog.info? 3).map (fun i => (i.zero, i.size, i.bytes)) = some (some (.int .i64 0), 1, 8) := by kernel_rfl
set_option maxHeartbeats 1600000 in
theorem toIntS_any (A : Option Addr) (c : Nat) (xs : List Int) (w : World) (hr : RdI w w.heap.size A xs) (hn : xs.length ≤ 1048576) :
    Calls Tryd.prog 79 #[.slice A xs.length c] w fun e w' => ∃ g cs, e = .returned (.slice (some ⟨g, 0, none⟩) xs.length xs.length) ∧ w.heap.size ≤ g ∧ Blk w' g 3 cs ∧ PI cs xs xs.length ∧ Below w.heap.size w w' := by
  obtain ⟨i0, hi, hz0, hz1, hz2⟩ := info_parts infoI7
  have hmk : ∀ u : World, (Instr.makeSlice 44 (.int .i64 (xs.length : Int)) (.int .i64 (xs.length : Int))).run Tryd.prog u =
      .ok (.slice (some ⟨u.heap.size, 0, none⟩) xs.length xs.length) (u.alloc (.cells (madeCells #[.int .i64 0] xs.length) 3)) := fun u => by
    have h := run_make_rowN (P := Tryd.prog) 44 3 i0 (.int .i64 0) Tryd.underlying44 hi hz0 .i64 .i64 xs.length xs.length (Nat.le_refl _) (by rw [hz2]; omega) (by omega) u
    rw [h, hz1, Nat.mul_one]; rfl
  clear hz2 hz1 hz0 hi
  obtain ⟨n, hvn⟩ : ∃ n, xs.length = n := ⟨_, rfl⟩
  rw [hvn] at hn hmk ⊢
  go_enter Tryd.func79, Tryd.ntmps79
  go_wp2
  have HV := Lib.hid hvn; clear hvn
  go_loopw [4] (fun i wr => ∃ (k : Nat) (cs : Array Value), k ≤ n ∧ i = .int .i64 k ∧ Blk wr w.heap.size 3 cs ∧ Hid (PI cs xs k) ∧ Below w.heap.size w wr) (fun i _ => n - (intOf i).toNat)
  case atStart => exact ⟨0, _, Nat.zero_le _, rfl, Blk.new _ _ _, PI.zero (by rw [HV.out]; simp [madeCells]), (Below.refl _ _).alloc (Nat.le_refl _) _⟩
  case round =>
    obtain ⟨k, cs, hk, rfl, hblk, hpc, hbel⟩ := hrel
    by_cases hlt : k < n
    · obtain ⟨b, off, rfl, hb, hc0⟩ := (hr.below hbel).at_ (k := k) (by rw [HV.out]; omega)
      clear hr
      have hsz : k < cs.size := by have := hpc.out.1; have := HV.out; omega
      obtain ⟨x0, hx0⟩ : ∃ x, cs[k]? = some x := ⟨_, Array.getElem?_eq_getElem hsz⟩
      have hy0 := (hblk.cell k).trans hx0
      have hf0 := hblk.frozen k
      have HP : Hid (PI (cs.setIfInBounds k (.int .i64 (xs.getD k 0))) xs (k + 1)) := PI.step hpc.out (by rw [HV.out]; omega)
      clear hsz hx0 hpc
      generalize xs.getD k 0 = v at *
      go_wp2
      go_roundw
      case rel =>
        refine ⟨k + 1, _, by omega, by go_num, hblk.set_ _ _, HP, hbel.setCell (Nat.le_refl _) _⟩
      case measure => simp [intOf]; omega
    · obtain rfl : k = n := by omega
      go_wp2
      go_ret
      exact ⟨w.heap.size, cs, rfl, Nat.le_refl _, hblk, by rw [← HV.out]; have := hpc.out; rw [← HV.out] at this; exact this, hbel⟩

theorem szI_any (A : Option Addr) (n c : Nat) (left : Int) (w : World) (hn : n ≤ maxLen) (h0 : 0 ≤ left) (h1 : left ≤ 1048576) :
    Calls Tryd.prog 76 #[.slice A n c, .int .i64 left] w fun e w' => e = .returned (.int .i64 (if left < n then -1 else left - n)) ∧ w = w' := by
  unfold maxLen at hn
  by_cases h : left < n
  · rw [if_pos h]
    go_enter Tryd.func76, Tryd.ntmps76
    go_wp2
    go_ret
    exact ⟨rfl, rfl⟩
  · rw [if_neg h]
    go_enter Tryd.func76, Tryd.ntmps76
    go_wp2
    go_ret
    exact ⟨rfl, rfl⟩
theorem szStore_big (A : Option Addr) (n c : Nat) (k left : Int) (w : World) (hn : n ≤ maxLen) (h0 : 0 ≤ left) (h1 : left ≤ 1048576) (h : left < n) :
    Calls Tryd.prog 34 #[.agg #[.slice A n c, .int .i64 k], .int .i64 left] w fun e w' => e = .returned (.int .i64 (-1)) ∧ Below w.heap.size w w' := by
  have hc : ∀ W, Calls Tryd.prog 76 #[.slice A n c, .int .i64 left] W fun e w' => e = .returned (.int .i64 (-1)) ∧ W = w' := fun W => by
    have := szI_any A n c left W hn h0 h1
    rwa [if_pos h] at this
  have HC := Lib.hid hc; clear hc
  go_enter Tryd.func34, Tryd.ntmps34
  go_wp2_with (go_at_call 76; refine (HC.out _).mono ?_; rintro e w1 ⟨rfl, rfl⟩)
  go_ret
  exact ⟨rfl, (Below.refl _ _).alloc (Nat.le_refl _) _⟩
theorem szStore_small (A : Option Addr) (n c : Nat) (k left : Int) (w : World) (hn : n ≤ maxLen) (h0 : 0 ≤ left) (h1 : left ≤ 1048576) (h : (n : Int) ≤ left) :
    Calls Tryd.prog 34 #[.agg #[.slice A n c, .int .i64 k], .int .i64 left] w fun e w' => e = .returned (.int .i64 (left - n)) ∧ Below w.heap.size w w' := by
  have hc : ∀ W, Calls Tryd.prog 76 #[.slice A n c, .int .i64 left] W fun e w' => e = .returned (.int .i64 (left - n)) ∧ W = w' := fun W => by
    have := szI_any A n c left W hn h0 h1
    rwa [if_neg (by omega)] at this
  have HC := Lib.hid hc; clear hc
  go_enter Tryd.func34, Tryd.ntmps34
  go_wp2_with (go_at_call 76; refine (HC.out _).mono ?_; rintro e w1 ⟨rfl, rfl⟩)
  go_ret
  exact ⟨rfl, (Below.refl _ _).alloc (Nat.le_refl _) _⟩

set_option maxHeartbeats 1600000 in
theorem toStore_any (A : Option Addr) (c : Nat) (xs : List Int) (k : Int) (w : World) (hr : RdI w w.heap.size A xs) (hn : xs.length ≤ 1048576) :
    Calls Tryd.prog 36 #[.agg #[.slice A xs.length c, .int .i64 k]] w fun e w' => ∃ g cs, e = .returned (.agg #[.slice (some ⟨g, 0, none⟩) xs.length xs.length, .int .i64 k]) ∧ w.heap.size ≤ g ∧ Blk w' g 3 cs ∧ PI cs xs xs.length ∧ Below w.heap.size w w' := by
  have ka := ((Blk.new w 68 #[.slice A xs.length c, .int .i64 k]).alloc (.cells #[.slice none 0 0, .int .i64 0] 46)).alloc (.cells #[.slice none 0 0, .int .i64 0] 46)
  have kr := (Blk.new (w.alloc (.cells #[.slice A xs.length c, .int .i64 k] 68)) 46 #[.slice none 0 0, .int .i64 0]).alloc (.cells #[.slice none 0 0, .int .i64 0] 46)
  have ko := Blk.new ((w.alloc (.cells #[.slice A xs.length c, .int .i64 k] 68)).alloc (.cells #[.slice none 0 0, .int .i64 0] 46)) 46 #[.slice none 0 0, .int .i64 0]
  simp only [World.size_alloc] at ko kr
  have hr1 := ((hr.up (.cells #[.slice A xs.length c, .int .i64 k] 68)).up (.cells #[.slice none 0 0, .int .i64 0] 46)).up (.cells #[.slice none 0 0, .int .i64 0] 46)
  have HR := Lib.hid hr1; clear hr1 hr
  go_enter Tryd.func36, Tryd.ntmps36
  go_wp2_with fail
  refine (toIntS_any A c xs _ HR.out hn).mono ?_
  rintro e w1 ⟨g, cs, rfl, hg, hk, hp, hb⟩
  have ka1 := ka.on hb
  have ko1 := ko.on hb
  have kr1 := kr.on hb
  have hB := on_ (up_ (up_ (up_ (Below.refl w.heap.size w) _) _) _) hb
  have hs1 := hb.size
  simp only [World.size_alloc] at hg hs1
  have HP := Lib.hid hp
  clear ka ko kr hb hp
  have ro1 := ko1.rule
  have fo1 := fun i => ko1.frozen i
  have ra1 := ka1.rule
  have ko2 : Blk (w1.setCell ⟨w.heap.size + 1 + 1, 0, none⟩ (.slice (some ⟨g, 0, none⟩) xs.length xs.length)) (w.heap.size + 1 + 1) 46 #[.slice (some ⟨g, 0, none⟩) xs.length xs.length, .int .i64 0] := ko1.set_ 0 _
  have ko3 : Blk ((w1.setCell ⟨w.heap.size + 1 + 1, 0, none⟩ (.slice (some ⟨g, 0, none⟩) xs.length xs.length)).setCell ⟨w.heap.size + 1 + 1, 1, none⟩ (.int .i64 k)) (w.heap.size + 1 + 1) 46 #[.slice (some ⟨g, 0, none⟩) xs.length xs.length, .int .i64 k] := ko2.set_ 1 _
  have kr3 := (kr1.far (p := ⟨w.heap.size + 1 + 1, 0, none⟩) (by simp) (.slice (some ⟨g, 0, none⟩) xs.length xs.length)).far (p := ⟨w.heap.size + 1 + 1, 1, none⟩) (by simp) (.int .i64 k)
  have ka2 := ka1.far (p := ⟨w.heap.size + 1 + 1, 0, none⟩) (by show w.heap.size ≠ w.heap.size + 1 + 1; omega) (.slice (some ⟨g, 0, none⟩) xs.length xs.length)
  have ra2 := ka2.rule
  have ro2 := ko2.rule
  have fo2 := fun i => ko2.frozen i
  have ro3 := ko3.rule
  have rr3 := kr3.rule
  have fr3 := fun i => kr3.frozen i
  have kr4 : Blk (((w1.setCell ⟨w.heap.size + 1 + 1, 0, none⟩ (.slice (some ⟨g, 0, none⟩) xs.length xs.length)).setCell ⟨w.heap.size + 1 + 1, 1, none⟩ (.int .i64 k)).setCell ⟨w.heap.size + 1, 0, none⟩ (.slice (some ⟨g, 0, none⟩) xs.length xs.length)) (w.heap.size + 1) 46 #[.slice (some ⟨g, 0, none⟩) xs.length xs.length, .int .i64 0] := kr3.set_ 0 _
  have kr5 : Blk ((((w1.setCell ⟨w.heap.size + 1 + 1, 0, none⟩ (.slice (some ⟨g, 0, none⟩) xs.length xs.length)).setCell ⟨w.heap.size + 1 + 1, 1, none⟩ (.int .i64 k)).setCell ⟨w.heap.size + 1, 0, none⟩ (.slice (some ⟨g, 0, none⟩) xs.length xs.length)).setCell ⟨w.heap.size + 1, 1, none⟩ (.int .i64 k)) (w.heap.size + 1) 46 #[.slice (some ⟨g, 0, none⟩) xs.length xs.length, .int .i64 k] := kr4.set_ 1 _
  have rr4 := kr4.rule
  have fr4 := fun i => kr4.frozen i
  have rr5 := kr5.rule
  go_wp2
  refine bodyPost_ret (v := .agg #[.slice (some ⟨g, 0, none⟩) xs.length xs.length, .int .i64 k]) (by simp [results, Tryd.results36, go_sem, rr5]) rfl ⟨g, cs, rfl, by omega, ?_, HP.out, ?_⟩
  · iterate 4 refine Blk.far ?_ (by simp; omega) _
    exact hk
  · iterate 4 refine Below.setCell ?_ (by simp <;> omega) _
    exact hB

set_option maxHeartbeats 800000 in
theorem eqStore_same (A C : Option Addr) (c d : Nat) (xs : List Int) (k : Int) (w : World) (hr : RdI w w.heap.size A xs) (hs : RdI w w.heap.size C xs) (hn : xs.length ≤ 1048576) :
    Calls Tryd.prog 37 #[.agg #[.slice A xs.length c, .int .i64 k], .agg #[.slice C xs.length d, .int .i64 k]] w fun e w' => e = .returned (.bool true) ∧ Below w.heap.size w w' := by
  have hne : (k != k) = false := by simp
  have ka := (Blk.new w 46 #[.slice A xs.length c, .int .i64 k]).alloc (.cells #[.slice C xs.length d, .int .i64 k] 46)
  have ko := Blk.new (w.alloc (.cells #[.slice A xs.length c, .int .i64 k] 46)) 46 #[.slice C xs.length d, .int .i64 k]
  simp only [World.size_alloc] at ko
  have hr1 := (hr.up (.cells #[.slice A xs.length c, .int .i64 k] 46)).up (.cells #[.slice C xs.length d, .int .i64 k] 46)
  have hs1 := (hs.up (.cells #[.slice A xs.length c, .int .i64 k] 46)).up (.cells #[.slice C xs.length d, .int .i64 k] 46)
  go_enter Tryd.func37, Tryd.ntmps37
  go_wp2_with fail
  refine (eqIntS_same A C c d xs _ hr1 hs1 (by omega)).mono ?_
  rintro e w1 ⟨rfl, hb⟩
  have ra1 := (ka.on hb).rule
  have ro1 := (ko.on hb).rule
  have hB := on_ (up_ (up_ (Below.refl w.heap.size w) _) _) hb
  clear ka ko hr1 hs1 hb
  go_wp2
  go_ret
  exact ⟨rfl, hB⟩

theorem markStore_any (m : Int) (g n c : Nat) (t : TypeId) (cs : Array Value) (k : Int) (w : World) (hb : Blk w g t cs) (hs : n ≤ cs.size) (hn : n ≤ 1048576) (h0 : 0 ≤ m) (h1 : m ≤ 16777216) :
    Calls Tryd.prog 38 #[.agg #[.slice (some ⟨g, 0, none⟩) n c, .int .i64 k], .int .i64 m] w fun e w' =>
      e = .returned (.int .i64 (m + n)) ∧ ∃ cs', Blk w' g t cs' ∧ cs'.size = cs.size ∧ MKI cs' m n ∧ w.grownBy w' (some g) := by
  have hm0 := fun O => markI_any g n c t cs m (w.alloc O) (hb.alloc O) hs (by omega) h0 h1
  have HM := Lib.hid hm0; clear hm0 hs
  go_enter Tryd.func38, Tryd.ntmps38
  go_wp2_with (go_at_call 81; refine (HM.out _).mono ?_; rintro e w1 ⟨rfl, ds, hd, hsz, hmk, hgr⟩; have HZ := Lib.hid hsz; clear hsz; have HK := Lib.hid hmk; clear hmk)
  go_ret
  exact ⟨rfl, ds, hd, HZ.out, HK.out, grown_alloc3 hgr⟩
theorem markStore_grow (m : Int) (A : Option Addr) (c t base : Nat) (us : List Int) (k : Int) (w : World) (h : OI w t base A us) (hn : us.length ≤ 1048576) (h0 : 0 ≤ m) (h1 : m ≤ 16777216) :
    Calls Tryd.prog 38 #[.agg #[.slice A us.length c, .int .i64 k], .int .i64 m] w fun e w' =>
      e = .returned (.int .i64 (m + us.length)) ∧ MI w' t base A us.length m ∧ ∃ row, (∀ g, row = some g → A = some ⟨g, 0, none⟩) ∧ w.grownBy w' row := by
  rcases h with ⟨rfl, rfl⟩ | ⟨g, cur, rfl, hg, hb, hp⟩
  · go_enter Tryd.func38, Tryd.ntmps38
    go_wp2_with (go_at_call 81; refine (markI_nil none c m _).mono ?_; rintro e w1 ⟨rfl, rfl⟩)
    go_ret
    have hb : Below w.heap.size w (w.alloc (.cells #[.slice none 0 c, .int .i64 k] 46)) := (Below.refl _ _).alloc (Nat.le_refl _) _
    exact ⟨by simp, .inl rfl, none, by simp, hb.os, hb.tape, hb.output, hb.size, fun i hi _ => hb.block i hi⟩
  · refine (markStore_any m g us.length c t cur k w hb hp.1 hn h0 h1).mono ?_
    rintro e w' ⟨rfl, ds, hd, _, hm, hgr⟩
    exact ⟨rfl, .inr ⟨g, ds, rfl, hg, hd, hm⟩, some g, by simp, hgr⟩
end Go.Proofs.YtbogagddjkghhaaDoor.V
