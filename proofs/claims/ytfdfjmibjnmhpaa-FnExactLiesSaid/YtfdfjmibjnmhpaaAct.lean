/-
  Acts in memory, and rows of them: what the helpers of the laws count, copy and compare. No statement is proved here.
-/
import Derived.Test.YtfdfjmibjnmhpaaRow
import Derived.Test.YtfdfjmibjnmhpaaLiftQ
import Derived.Deep.Slices
import Derived.Deep.AppendLies
import Derived.StillTailTactics
set_option linter.unusedVariables false
set_option maxRecDepth 100000
namespace Go.Proofs.Ytfdfjmibjnmhpaa.B
open Go.RowKit
/-- A slice value at address A reads, below block Bd, as the bytes xs. -/
def RdB (w : World) (Bd : Nat) (A : Option Addr) (xs : List Int) : Prop :=
  0 < xs.length → ∃ b off, A = some ⟨b, off, none⟩ ∧ b < Bd ∧ ∀ i, i < xs.length → w.cell? ⟨b, off + i, none⟩ = some (.int .u8 (xs.getD i 0))
section
variable {w w' : World} {Bd Bd' : Nat} {A : Option Addr} {xs : List Int}
theorem RdB.keep (h : RdB w Bd A xs) (hk : ∀ b o, b < Bd → w'.cell? ⟨b, o, none⟩ = w.cell? ⟨b, o, none⟩) : RdB w' Bd A xs := fun hn => by
  obtain ⟨b, off, e, hb, hc⟩ := h hn
  exact ⟨b, off, e, hb, fun i hi => (hk _ _ hb).trans (hc i hi)⟩
theorem RdB.more (h : RdB w Bd A xs) (hB : Bd ≤ Bd') : RdB w Bd' A xs := fun hn => by
  obtain ⟨b, off, e, hb, hc⟩ := h hn
  exact ⟨b, off, e, by omega, hc⟩
theorem RdB.below (h : RdB w Bd A xs) (hb : Below Bd w w') : RdB w' Bd A xs := h.keep fun _ _ hp => hb.cell hp
theorem RdB.alloc (h : RdB w Bd A xs) (hB : Bd ≤ w.heap.size) (o : Obj) : RdB (w.alloc o) Bd A xs := h.keep fun b o' hp => World.cell?_alloc_lt w o ⟨b, o', none⟩ (by simpa using (show b < w.heap.size by omega))
theorem RdB.on (h : RdB w w.heap.size A xs) (hb : Below w.heap.size w w') : RdB w' w'.heap.size A xs := (h.below hb).more hb.size
theorem RdB.up (h : RdB w w.heap.size A xs) (O : Obj) : RdB (w.alloc O) (w.alloc O).heap.size A xs := (h.alloc (Nat.le_refl _) O).more (by simp)
theorem RdB.nil_ : RdB w Bd A [] := fun h => absurd h (by simp)
theorem RdB.at_ (h : RdB w Bd A xs) {k : Nat} (hk : k < xs.length) : ∃ b off, A = some ⟨b, off, none⟩ ∧ b < Bd ∧ w.cell? ⟨b, off + k, none⟩ = some (.int .u8 (xs.getD k 0)) := by
  obtain ⟨b, off, rfl, hb, hc⟩ := h (by omega)
  exact ⟨b, off, rfl, hb, hc k hk⟩
end

/-- The first k bytes of xs stand in the cells cs. -/
def PB (cs : Array Value) (xs : List Int) (k : Nat) : Prop := xs.length ≤ cs.size ∧ ∀ i, i < k → cs[i]? = some (.int .u8 (xs.getD i 0))
theorem PB.zero {cs : Array Value} {xs : List Int} (h : xs.length ≤ cs.size) : PB cs xs 0 := ⟨h, fun i hi => absurd hi (by omega)⟩
theorem PB.step {cs : Array Value} {xs : List Int} {k : Nat} (h : PB cs xs k) (hk : k < xs.length) : PB (cs.setIfInBounds k (.int .u8 (xs.getD k 0))) xs (k + 1) := by
  refine ⟨by simpa using h.1, fun i hi => ?_⟩
  have hs := h.1
  by_cases e : i = k
  · subst e
    rw [Array.getElem?_setIfInBounds_self_of_lt (by omega)]
  · rw [Array.getElem?_setIfInBounds_ne (by omega)]
    exact h.2 i (by omega)
theorem PB.rd {w : World} {g t Bd : Nat} {cs : Array Value} {xs : List Int} (h : PB cs xs xs.length) (hb : Blk w g t cs) (hg : g < Bd) : RdB w Bd (some ⟨g, 0, none⟩) xs :=
  fun _ => ⟨g, 0, rfl, hg, fun i hi => by rw [Nat.zero_add, hb.cell]; exact h.2 i hi⟩

/-- An act, and where its bytes lie. -/
structure Ap where
  k : Int
  f : Int
  t : Int
  bs : List Int
  A : Option Addr
  c : Nat
structure Ad where
  k : Int
  f : Int
  t : Int
  bs : List Int
def Ap.dat (m : Ap) : Ad := ⟨m.k, m.f, m.t, m.bs⟩
def Ap.cells (m : Ap) : Array Value := #[.int .i64 m.k, .int .i64 m.f, .int .i64 m.t, .slice m.A m.bs.length m.c]
def zA : Ap := ⟨0, 0, 0, [], none, 0⟩
def KA : Knd Ap := ⟨4, Ap.cells, fun w Bd m => RdB w Bd m.A m.bs, zA, by decide, fun _ => rfl, fun h hk => RdB.keep h hk, fun h hB => RdB.more h hB, fun _ _ _ => True, fun h _ => h, fun h _ => h⟩
theorem RdB.hiAt {w w' : World} {g Bd lo : Nat} {vs : List Int} (h : RdB w Bd (some ⟨g, 0, none⟩) vs) (hl : lo ≤ g) (hk : ∀ b o, lo ≤ b → b < Bd → w'.cell? ⟨b, o, none⟩ = w.cell? ⟨b, o, none⟩) : RdB w' Bd (some ⟨g, 0, none⟩) vs := fun h0 => by
  obtain ⟨b, off, e, hb, hc⟩ := h h0
  injection e with e
  injection e with e1 e2
  subst e1 e2
  exact ⟨_, _, rfl, hb, fun i hi => (hk _ _ hl hb).trans (hc i hi)⟩
end Go.Proofs.Ytfdfjmibjnmhpaa.B
namespace Go.Proofs.Ytfdfjmibjnmhpaa.V
open Go.RowKit Go.ChangeShapes Go.WideShapes Go.Deep Go.Proofs.Ytfdfjmibjnmhpaa.B
theorem u8_range {n : Int} (h : (Lit.int .u8 n).wf = true) : 0 ≤ n ∧ n < 256 := by
  have h' : IntKind.u8.min ≤ n ∧ n ≤ IntKind.u8.max := by simpa [Lit.wf] using h
  have h1 : IntKind.u8.min = 0 := by decide
  have h2 : IntKind.u8.max = 255 := by decide
  omega

theorem open_bytes {H : Type} {enc : TypeId × Value → H} {w : World} {fuel : Nat} {cs : List Value} {x : DataW H × List MemPlace} (h : DataW.trod enc Try.prog w 0 (fun _ => true) true fuel 103 cs = some x) :
    ∃ (A : Option Addr) (c : Nat) (xs : List Int), cs = [.slice A xs.length c] ∧ xs.length ≤ maxLen ∧ RdB w w.heap.size A xs := by
  rcases open_slice1 Try.underlying103 (by kernel_rfl) h with ⟨rfl, _⟩ | ⟨a, len, cap, m, n, V, D, Pl, rfl, _, hl, hm, hmm, _, hx⟩
  · exact ⟨none, 0, [], rfl, by simp [maxLen], RdB.nil_⟩
  · have hlm : len ≤ m := by rw [hmm]; simpa using hl
    refine ⟨some a, cap, (List.range len).map fun i => intOf (V i), by simp, by simp; omega, fun hp => ?_⟩
    have hp' : 0 < len := by simpa using hp
    have hz0 := (hx 0 (by omega)).1
    rw [show a.add 0 = a from rfl] at hz0
    obtain ⟨b, off, rfl⟩ := addr_none hz0
    refine ⟨b, off, rfl, World.block_lt_of_cell? w ⟨b, off, none⟩ hz0, fun i hi => ?_⟩
    have hi' : i < len := by simpa using hi
    obtain ⟨h0, t0⟩ := hx i (by omega)
    obtain ⟨n0, e0, _, _⟩ := DataW.trod_int Try.underlying5 t0
    simp only [List.cons.injEq, and_true] at e0
    rw [add_plain] at h0
    have hg : ((List.range len).map fun i => intOf (V i)).getD i 0 = n0 := by
      simp [List.getD, hi', e0, intOf]
    rw [hg, h0, e0]

end Go.Proofs.Ytfdfjmibjnmhpaa.V
namespace Go.Proofs.Ytfdfjmibjnmhpaa.V
open Go.RowKit Go.Proofs.Ytfdfjmibjnmhpaa.B
def fA (m : Ap) : Nat := m.bs.length
def LensA (m : Ap) : Prop := m.bs.length ≤ maxLen
def FewA (m : Ap) : Prop := m.bs.length ≤ 1048576
theorem FewA.same {m m' : Ap} (h : FewA m) (e : m'.dat = m.dat) : FewA m' := by
  have : m'.bs = m.bs := congrArg Ad.bs e
  unfold FewA at *; rw [this]; exact h
set_option maxHeartbeats 400000 in
theorem eqByteS_same (A C : Option Addr) (c d : Nat) (xs : List Int) (w : World) (hr : RdB w w.heap.size A xs) (hs : RdB w w.heap.size C xs) (hn : xs.length ≤ 16777216) :
    Calls Try.prog 101 #[.slice A xs.length c, .slice C xs.length d] w fun e w' => e = .returned (.bool true) ∧ Below w.heap.size w w' := by
  obtain ⟨n, hvn⟩ : ∃ n, xs.length = n := ⟨_, rfl⟩
  rw [hvn] at hn ⊢
  have HV := Lib.hid hvn; clear hvn
  go_enter Try.func101, Try.ntmps101
  go_wp2
  go_loopw [5] (fun i wr => ∃ (k : Nat), k ≤ n ∧ i = .int .i64 k ∧ Below w.heap.size w wr) (fun i _ => n - (intOf i).toNat)
  case atStart => exact ⟨0, Nat.zero_le _, rfl, Below.refl _ _⟩
  case round =>
    obtain ⟨k, hk, rfl, hbel⟩ := hrel
    by_cases hlt : k < n
    · obtain ⟨b, off, rfl, hb, hc0⟩ := (hr.below hbel).at_ (k := k) (by rw [HV.out]; omega)
      obtain ⟨b', off', rfl, hb', hc1⟩ := (hs.below hbel).at_ (k := k) (by rw [HV.out]; omega)
      clear hr hs
      generalize xs.getD k 0 = y at *
      have C0 := fun x : Lat wr => x.cell hc0
      have C1 := fun x : Lat wr => x.cell hc1
      have hne : (y != y) = false := by simp
      go_wp2
      refine wp_region_lat (by kernel_rfl) (by kernel_rfl) ?_
      repeat (go_big_quiet_step (fail))
      refine wpQuiet_nil ?_
      rintro _ ⟨⟨w3, hb3⟩, rfl⟩
      clear C0 C1
      go_wp2
      go_roundw
      case rel => exact ⟨k + 1, by omega, by go_num, hbel.trans (hb3.mono hbel.size)⟩
      case measure => simp [intOf]; omega
    · go_wp2
      go_ret
      exact ⟨rfl, hbel⟩

theorem infoB2 : (Try.prog.info? 5).map (fun i => (i.zero, i.size, i.bytes)) = some (some (.int .u8 0), 1, 1) := by kernel_rfl
set_option maxHeartbeats 1600000 in
theorem toByteS_any (A : Option Addr) (c : Nat) (xs : List Int) (w : World) (hr : RdB w w.heap.size A xs) (hn : xs.length ≤ 1048576) :
    Calls Try.prog 100 #[.slice A xs.length c] w fun e w' => ∃ g cs, e = .returned (.slice (some ⟨g, 0, none⟩) xs.length xs.length) ∧ w.heap.size ≤ g ∧ Blk w' g 5 cs ∧ PB cs xs xs.length ∧ Below w.heap.size w w' := by
  obtain ⟨i0, hi, hz0, hz1, hz2⟩ := info_parts infoB2
  have hmk : ∀ u : World, (Instr.makeSlice 103 (.int .i64 (xs.length : Int)) (.int .i64 (xs.length : Int))).run Try.prog u =
      .ok (.slice (some ⟨u.heap.size, 0, none⟩) xs.length xs.length) (u.alloc (.cells (madeCells #[.int .u8 0] xs.length) 5)) := fun u => by
    have h := run_make_rowN (P := Try.prog) 103 5 i0 (.int .u8 0) Try.underlying103 hi hz0 .i64 .i64 xs.length xs.length (Nat.le_refl _) (by rw [hz2]; omega) (by omega) u
    rw [h, hz1, Nat.mul_one]; rfl
  clear hz2 hz1 hz0 hi
  obtain ⟨n, hvn⟩ : ∃ n, xs.length = n := ⟨_, rfl⟩
  rw [hvn] at hn hmk ⊢
  go_enter Try.func100, Try.ntmps100
  go_wp2
  have HV := Lib.hid hvn; clear hvn
  go_loopw [4] (fun i wr => ∃ (k : Nat) (cs : Array Value), k ≤ n ∧ i = .int .i64 k ∧ Blk wr w.heap.size 5 cs ∧ Hid (PB cs xs k) ∧ Below w.heap.size w wr) (fun i _ => n - (intOf i).toNat)
  case atStart => exact ⟨0, _, Nat.zero_le _, rfl, Blk.new _ _ _, PB.zero (by rw [HV.out]; simp [madeCells]), (Below.refl _ _).alloc (Nat.le_refl _) _⟩
  case round =>
    obtain ⟨k, cs, hk, rfl, hblk, hpc, hbel⟩ := hrel
    by_cases hlt : k < n
    · obtain ⟨b, off, rfl, hb, hc⟩ := hr (by rw [HV.out]; omega)
      have hc0 := hc k (by rw [HV.out]; omega)
      rw [← hbel.cell (p := ⟨b, off + k, none⟩) hb] at hc0
      clear hc hr
      have hsz : k < cs.size := by have := hpc.out.1; have := HV.out; omega
      obtain ⟨x0, hx0⟩ : ∃ x, cs[k]? = some x := ⟨_, Array.getElem?_eq_getElem hsz⟩
      have hy0 := (hblk.cell k).trans hx0
      have hf0 := hblk.frozen k
      have HP : Hid (PB (cs.setIfInBounds k (.int .u8 (xs.getD k 0))) xs (k + 1)) := PB.step hpc.out (by rw [HV.out]; omega)
      clear hsz hx0 hpc
      generalize xs.getD k 0 = v at *
      go_wp2
      go_roundw
      case rel =>
        refine ⟨k + 1, _, by omega, by go_num, hblk.set_ _ _, HP, hbel.setCell (Nat.le_refl _) _⟩
      case measure => simp [intOf]; omega
    · obtain rfl : k = n := by omega
      go_wp2
      go_ret
      exact ⟨w.heap.size, cs, rfl, Nat.le_refl _, hblk, by rw [← HV.out]; have := hpc.out; rw [← HV.out] at this; exact this, hbel⟩
theorem szBy_any (A : Option Addr) (n c : Nat) (left : Int) (w : World) (hn : n ≤ maxLen) (h0 : 0 ≤ left) (h1 : left ≤ 1048576) :
    Calls Try.prog 99 #[.slice A n c, .int .i64 left] w fun e w' => e = .returned (.int .i64 (if left < n then -1 else left - n)) ∧ w = w' := by
  unfold maxLen at hn
  by_cases h : left < n
  · rw [if_pos h]
    go_enter Try.func99, Try.ntmps99
    go_wp2
    go_ret
    exact ⟨rfl, rfl⟩
  · rw [if_neg h]
    go_enter Try.func99, Try.ntmps99
    go_wp2
    go_ret
    exact ⟨rfl, rfl⟩
theorem szAct_any (k f t : Int) (A : Option Addr) (n c : Nat) (left : Int) (w : World) (hn : n ≤ maxLen) (h0 : 0 ≤ left) (h1 : left ≤ 1048576) :
    Calls Try.prog 65 #[.agg #[.int .i64 k, .int .i64 f, .int .i64 t, .slice A n c], .int .i64 left] w fun e w' => e = .returned (.int .i64 (if left < n then -1 else left - n)) ∧ Below w.heap.size w w' := by
  by_cases h : left < n
  · have hc : ∀ W, Calls Try.prog 99 #[.slice A n c, .int .i64 left] W fun e w' => e = .returned (.int .i64 (-1)) ∧ W = w' := fun W => by
      have := szBy_any A n c left W hn h0 h1
      rwa [if_pos h] at this
    have HC := Lib.hid hc; clear hc
    rw [if_pos h]
    go_enter Try.func65, Try.ntmps65
    go_wp2_with (go_at_call 99; refine (HC.out _).mono ?_; rintro e w1 ⟨rfl, rfl⟩)
    go_ret
    exact ⟨rfl, (Below.refl _ _).alloc (Nat.le_refl _) _⟩
  · have hc : ∀ W, Calls Try.prog 99 #[.slice A n c, .int .i64 left] W fun e w' => e = .returned (.int .i64 (left - n)) ∧ W = w' := fun W => by
      have := szBy_any A n c left W hn h0 h1
      rwa [if_neg h] at this
    have HC := Lib.hid hc; clear hc
    rw [if_neg h]
    go_enter Try.func65, Try.ntmps65
    go_wp2_with (go_at_call 99; refine (HC.out _).mono ?_; rintro e w1 ⟨rfl, rfl⟩)
    go_ret
    exact ⟨rfl, (Below.refl _ _).alloc (Nat.le_refl _) _⟩
set_option maxHeartbeats 800000 in
theorem toAct1 (q : Ap) (w : World) (hr : KA.rd w w.heap.size q) (hf : FewA q) :
    Calls Try.prog 66 #[.agg q.cells] w fun e w' => ∃ u : Ap, e = .returned (.agg u.cells) ∧ u.dat = q.dat ∧ HiK KA w' w.heap.size u ∧ Below w.heap.size w w' := by
  obtain ⟨k, f, t, bs, A, c⟩ := q
  have hr : RdB w w.heap.size A bs := hr
  have hn : bs.length ≤ 1048576 := hf
  simp only [Ap.cells]
  have HT0 := fun (W : World) (h : Below w.heap.size w W) => toByteS_any A c bs W ((hr.below h).more h.size) hn
  obtain ⟨m, hm⟩ : ∃ m, bs.length = m := ⟨_, rfl⟩
  rw [hm] at HT0 ⊢
  have HT := Lib.hid HT0; have HM := Lib.hid hm; clear HT0 hm hr hf hn
  have ko := Blk.new ((w.alloc (.cells #[.int .i64 k, .int .i64 f, .int .i64 t, .slice A m c] 105)).alloc (.cells #[.int .i64 0, .int .i64 0, .int .i64 0, .slice none 0 0] 106)) 106 #[.int .i64 k, .int .i64 f, .int .i64 t, .slice none 0 0]
  have kr := (Blk.new (w.alloc (.cells #[.int .i64 k, .int .i64 f, .int .i64 t, .slice A m c] 105)) 106 #[.int .i64 0, .int .i64 0, .int .i64 0, .slice none 0 0]).alloc (.cells #[.int .i64 k, .int .i64 f, .int .i64 t, .slice none 0 0] 106)
  have ka := ((Blk.new w 105 #[.int .i64 k, .int .i64 f, .int .i64 t, .slice A m c]).alloc (.cells #[.int .i64 0, .int .i64 0, .int .i64 0, .slice none 0 0] 106)).alloc (.cells #[.int .i64 k, .int .i64 f, .int .i64 t, .slice none 0 0] 106)
  simp only [World.size_alloc] at ko kr
  have hB := up_ (up_ (up_ (Below.refl w.heap.size w) (.cells #[.int .i64 k, .int .i64 f, .int .i64 t, .slice A m c] 105)) (.cells #[.int .i64 0, .int .i64 0, .int .i64 0, .slice none 0 0] 106)) (.cells #[.int .i64 k, .int .i64 f, .int .i64 t, .slice none 0 0] 106)
  have ra := ka.rule
  go_enter Try.func66, Try.ntmps66
  go_wp2_with fail
  refine (HT.out _ hB).mono ?_
  rintro e w1 ⟨g, cs, rfl, hg, hk, hp, hb1⟩
  have ko1 := ko.on hb1
  have kr1 := kr.on hb1
  have hB1 := on_ hB hb1
  have hs1 := hb1.size
  simp only [World.size_alloc] at hs1 hg
  have HP := Lib.hid hp; have HK := Lib.hid hk
  clear hp hk hb1 ko kr ka ra HT hB
  have ro1 := ko1.rule
  have fo1 := fun i => ko1.frozen i
  have ko2 : Blk (w1.setCell ⟨w.heap.size + 1 + 1, 3, none⟩ (.slice (some ⟨g, 0, none⟩) m m)) (w.heap.size + 1 + 1) 106 #[.int .i64 k, .int .i64 f, .int .i64 t, .slice (some ⟨g, 0, none⟩) m m] := ko1.set_ 3 _
  have kr2 := kr1.far (p := ⟨w.heap.size + 1 + 1, 3, none⟩) (by simp) (.slice (some ⟨g, 0, none⟩) m m)
  have ro2 := ko2.rule
  have rr2 := kr2.rule
  have fr2 := fun i => kr2.frozen i
  have kr3 : Blk ((w1.setCell ⟨w.heap.size + 1 + 1, 3, none⟩ (.slice (some ⟨g, 0, none⟩) m m)).setCell ⟨w.heap.size + 1, 0, none⟩ (.int .i64 k)) (w.heap.size + 1) 106 #[.int .i64 k, .int .i64 0, .int .i64 0, .slice none 0 0] := kr2.set_ 0 _
  have rr3 := kr3.rule
  have fr3 := fun i => kr3.frozen i
  have kr4 : Blk (((w1.setCell ⟨w.heap.size + 1 + 1, 3, none⟩ (.slice (some ⟨g, 0, none⟩) m m)).setCell ⟨w.heap.size + 1, 0, none⟩ (.int .i64 k)).setCell ⟨w.heap.size + 1, 1, none⟩ (.int .i64 f)) (w.heap.size + 1) 106 #[.int .i64 k, .int .i64 f, .int .i64 0, .slice none 0 0] := kr3.set_ 1 _
  have rr4 := kr4.rule
  have fr4 := fun i => kr4.frozen i
  have kr5 : Blk ((((w1.setCell ⟨w.heap.size + 1 + 1, 3, none⟩ (.slice (some ⟨g, 0, none⟩) m m)).setCell ⟨w.heap.size + 1, 0, none⟩ (.int .i64 k)).setCell ⟨w.heap.size + 1, 1, none⟩ (.int .i64 f)).setCell ⟨w.heap.size + 1, 2, none⟩ (.int .i64 t)) (w.heap.size + 1) 106 #[.int .i64 k, .int .i64 f, .int .i64 t, .slice none 0 0] := kr4.set_ 2 _
  have rr5 := kr5.rule
  have fr5 := fun i => kr5.frozen i
  have kr6 : Blk (((((w1.setCell ⟨w.heap.size + 1 + 1, 3, none⟩ (.slice (some ⟨g, 0, none⟩) m m)).setCell ⟨w.heap.size + 1, 0, none⟩ (.int .i64 k)).setCell ⟨w.heap.size + 1, 1, none⟩ (.int .i64 f)).setCell ⟨w.heap.size + 1, 2, none⟩ (.int .i64 t)).setCell ⟨w.heap.size + 1, 3, none⟩ (.slice (some ⟨g, 0, none⟩) m m)) (w.heap.size + 1) 106 #[.int .i64 k, .int .i64 f, .int .i64 t, .slice (some ⟨g, 0, none⟩) m m] := kr5.set_ 3 _
  have rr6 := kr6.rule
  have fr6 := fun i => kr6.frozen i
  go_wp2
  refine bodyPost_ret (v := .agg #[.int .i64 k, .int .i64 f, .int .i64 t, .slice (some ⟨g, 0, none⟩) m m]) (by simp [results, Try.results66, go_sem, rr6]) rfl ⟨⟨k, f, t, bs, some ⟨g, 0, none⟩, m⟩, by simp only [HM.out], rfl, ⟨?_, trivial⟩, ?_⟩
  · have hk5 : Blk (((((w1.setCell ⟨w.heap.size + 1 + 1, 3, none⟩ (.slice (some ⟨g, 0, none⟩) m m)).setCell ⟨w.heap.size + 1, 0, none⟩ (.int .i64 k)).setCell ⟨w.heap.size + 1, 1, none⟩ (.int .i64 f)).setCell ⟨w.heap.size + 1, 2, none⟩ (.int .i64 t)).setCell ⟨w.heap.size + 1, 3, none⟩ (.slice (some ⟨g, 0, none⟩) m m)) g 5 cs := by
      iterate 5 refine Blk.far ?_ (by simp; omega) _
      exact HK.out
    have hp2 : PB cs bs bs.length := by rw [HM.out]; exact HP.out
    exact fun w2 hk2 => RdB.hiAt (hp2.rd hk5 hk5.lt) (by omega) hk2
  · iterate 5 refine Below.setCell ?_ (by simp <;> omega) _
    exact hB1
set_option maxHeartbeats 400000 in
theorem eqAct_same (k f t : Int) (A C : Option Addr) (c d : Nat) (bs : List Int) (w : World) (hr : RdB w w.heap.size A bs) (hs : RdB w w.heap.size C bs) (hn : bs.length ≤ 1048576) :
    Calls Try.prog 67 #[.agg #[.int .i64 k, .int .i64 f, .int .i64 t, .slice A bs.length c], .agg #[.int .i64 k, .int .i64 f, .int .i64 t, .slice C bs.length d]] w fun e w' => e = .returned (.bool true) ∧ Below w.heap.size w w' := by
  have hr2 := (hr.up (.cells #[.int .i64 k, .int .i64 f, .int .i64 t, .slice A bs.length c] 106)).up (.cells #[.int .i64 k, .int .i64 f, .int .i64 t, .slice C bs.length d] 106)
  have hs2 := (hs.up (.cells #[.int .i64 k, .int .i64 f, .int .i64 t, .slice A bs.length c] 106)).up (.cells #[.int .i64 k, .int .i64 f, .int .i64 t, .slice C bs.length d] 106)
  have HE := Lib.hid (eqByteS_same A C c d bs _ hr2 hs2 (by omega))
  clear hr2 hs2 hr hs
  have hne : ∀ i : Int, (i != i) = false := fun i => by simp
  go_enter Try.func67, Try.ntmps67
  go_wp2_with fail
  refine HE.out.mono ?_
  rintro e w1 ⟨rfl, hb1⟩
  have hB1 := on_ (up_ (up_ (Below.refl w.heap.size w) _) _) hb1
  clear hb1
  go_wp2
  go_ret
  exact ⟨rfl, hB1⟩
set_option maxHeartbeats 1600000 in
theorem szActS_any (A : Option Addr) (c : Nat) (xs : List Ap) (left : Int) (w : World) (hr : RdK KA w w.heap.size A xs) (hL : xs.length ≤ maxLen ∧ ∀ i, i < xs.length → LensA (xs.getD i zA)) (h0 : 0 ≤ left) (h1 : left ≤ 1048576) :
    Calls Try.prog 28 #[.slice A xs.length c, .int .i64 left] w fun e w' => e = .returned (.int .i64 (if left < ((xs.length + tkS fA zA xs xs.length : Nat) : Int) then -1 else left - ((xs.length + tkS fA zA xs xs.length : Nat) : Int))) ∧ Below w.heap.size w w' := by
  obtain ⟨hn, hv⟩ := hL
  have hm := fun i => @tkS_mono _ fA zA xs i xs.length
  obtain ⟨n, hvn⟩ : ∃ n, xs.length = n := ⟨_, rfl⟩
  rw [hvn] at hn hv hm ⊢
  unfold maxLen at hn
  have HM := Lib.hid hm; clear hm
  have HVL := Lib.hid hv; clear hv
  have HV := Lib.hid hvn; clear hvn
  obtain ⟨z, hz⟩ : ∃ z : Int, (if left < ((n + tkS fA zA xs n : Nat) : Int) then -1 else left - ((n + tkS fA zA xs n : Nat) : Int)) = z := ⟨_, rfl⟩
  rw [hz]
  have HZ := Lib.hid hz; clear hz
  by_cases hneg : left < n
  · have hz : z = -1 := by rw [← HZ.out, if_pos (by omega)]
    subst hz
    go_enter Try.func28, Try.ntmps28
    go_wp2
    go_ret
    exact ⟨rfl, Below.refl _ _⟩
  · have hnn : ¬ (left - n < 0) := by omega
    go_enter Try.func28, Try.ntmps28
    go_wp2
    go_loopw [1, 5] (fun l i wr => ∃ (k : Nat) (y : Int), k ≤ n ∧ i = .int .i64 k ∧ l = .int .i64 y ∧ 0 ≤ y ∧ y ≤ 1048576 ∧ Hid (y = left - n - tkS fA zA xs k) ∧ Below w.heap.size w wr) (fun _ i _ => n - (intOf i).toNat)
    case atStart => exact ⟨0, left - n, Nat.zero_le _, rfl, rfl, by omega, by omega, by show _ = _; simp [tkS], Below.refl _ _⟩
    case round =>
      obtain ⟨k, y, hk, rfl, rfl, hy0, hy1, hy, hbel⟩ := hrel
      by_cases hlt : k < n
      · obtain ⟨b_, off, rfl, hb, hcs, hrv⟩ := RdK.at_ (hr.below hbel) (k := k) (by rw [HV.out]; omega)
        clear hr
        have hvl := HVL.out k hlt
        have hst : tkS fA zA xs (k + 1) = tkS fA zA xs k + fA (xs.getD k zA) := rfl
        have hmm := HM.out (k + 1) (by omega)
        change ∀ j, j < 4 → wr.cell? ⟨b_, off + k * 4 + j, none⟩ = (KA.cells (xs.getD k zA))[j]? at hcs
        change KA.rd wr w.heap.size (xs.getD k zA) at hrv
        obtain ⟨⟨mk, mv, mx, vs, A', c'⟩, hu⟩ : ∃ u, xs.getD k zA = u := ⟨_, rfl⟩
        rw [hu] at hcs hvl hst hrv
        have hc0 : wr.cell? ⟨b_, off + k * 4, none⟩ = some (.int .i64 mk) := hcs 0 (by decide)
        have hc1 : wr.cell? ⟨b_, off + k * 4 + 1, none⟩ = some (.int .i64 mv) := hcs 1 (by decide)
        have hc2 : wr.cell? ⟨b_, off + k * 4 + 2, none⟩ = some (.int .i64 mx) := hcs 2 (by decide)
        have hc3 : wr.cell? ⟨b_, off + k * 4 + 3, none⟩ = some (.slice A' vs.length c') := hcs 3 (by decide)
        clear hu hcs
        have hcl := szAct_any mk mv mx A' vs.length c' y wr hvl hy0 hy1
        obtain ⟨m, hm⟩ : ∃ m, vs.length = m := ⟨_, rfl⟩
        have hst2 : tkS fA zA xs (k + 1) = tkS fA zA xs k + m := by rw [← hm]; exact hst
        have hvl2 : m ≤ maxLen := by rw [← hm]; exact hvl
        rw [hm] at hcl hc3
        clear hst hvl hrv hm
        have HS : Hid (tkS fA zA xs (k + 1) = tkS fA zA xs k + m ∧ tkS fA zA xs (k + 1) ≤ tkS fA zA xs n) := ⟨hst2, hmm⟩
        clear hst2 hmm
        by_cases hsm : y < (m : Int)
        · rw [if_pos hsm] at hcl
          have HC := Lib.hid hcl; clear hcl
          go_wp2_with fail
          refine HC.out.mono ?_
          rintro e w1 ⟨rfl, hb1⟩
          go_wp2
          go_ret
          obtain ⟨h2, h3⟩ := HS.out
          have h4 := hy.out
          exact ⟨ret_int2 (by rw [← HZ.out, if_pos (by omega)]), hbel.trans (hb1.mono hbel.size)⟩
        · rw [if_neg hsm] at hcl
          obtain ⟨z2, hz2⟩ : ∃ z : Int, y - m = z := ⟨_, rfl⟩
          rw [hz2] at hcl
          have HC := Lib.hid hcl; clear hcl
          have hz20 : 0 ≤ z2 := by omega
          have hz21 : z2 ≤ 1048576 := by omega
          have hnn2 : ¬ (z2 < 0) := by omega
          have HZ2 := Lib.hid hz2; clear hz2
          go_wp2_with fail
          refine HC.out.mono ?_
          rintro e w1 ⟨rfl, hb1⟩
          go_wp2
          go_roundw
          case rel =>
            refine ⟨k + 1, _, by omega, by go_num, rfl, hz20, hz21, ?_, hbel.trans (hb1.mono hbel.size)⟩
            have h2 := HS.out
            have h4 := hy.out
            have h5 := HZ2.out
            show _ = _
            omega
          case measure => simp [intOf]; omega
      · go_wp2
        go_ret
        have hkn : k = n := by omega
        subst hkn
        have h4 := hy.out
        exact ⟨ret_int2 (by rw [← HZ.out, if_neg (by omega), h4]; omega), hbel⟩

theorem info_Act : (Try.prog.info? 106).map (fun i => (i.zero, i.size, i.bytes)) = some (some (.agg #[.int .i64 0, .int .i64 0, .int .i64 0, .slice none 0 0]), 4, 48) := by kernel_rfl
set_option maxHeartbeats 3200000 in
theorem toActS_any (A : Option Addr) (c : Nat) (xs : List Ap) (w : World) (hr : RdK KA w w.heap.size A xs) (hf : xs.length ≤ 1048576 ∧ ∀ i, i < xs.length → FewA (xs.getD i zA)) :
    Calls Try.prog 30 #[.slice A xs.length c] w fun e w' => ∃ g cs qs, e = .returned (.slice (some ⟨g, 0, none⟩) xs.length xs.length) ∧ w.heap.size ≤ g ∧ Blk w' g 106 cs ∧ CpK KA Ap.dat w' g xs.length cs xs qs xs.length ∧ Below w.heap.size w w' := by
  obtain ⟨i0, hi, hz0, hz1, hz2⟩ := info_parts info_Act
  obtain ⟨hn, hv⟩ := hf
  have hmk : ∀ u : World, (Instr.makeSlice 65 (.int .i64 (xs.length : Int)) (.int .i64 (xs.length : Int))).run Try.prog u =
      .ok (.slice (some ⟨u.heap.size, 0, none⟩) xs.length xs.length) (u.alloc (.cells (madeCells #[.int .i64 0, .int .i64 0, .int .i64 0, .slice none 0 0] (xs.length * 4)) 106)) := fun u => by
    have h := run_make_rowN (P := Try.prog) 65 106 i0 (.agg #[.int .i64 0, .int .i64 0, .int .i64 0, .slice none 0 0]) Try.underlying65 hi hz0 .i64 .i64 xs.length xs.length (Nat.le_refl _) (by rw [hz2]; omega) (by omega) u
    rw [h, hz1]; rfl
  clear hz2 hz1 hz0 hi
  obtain ⟨n, hvn⟩ : ∃ n, xs.length = n := ⟨_, rfl⟩
  rw [hvn] at hn hmk hv ⊢
  have HVL := Lib.hid hv; clear hv
  go_enter Try.func30, Try.ntmps30
  go_wp2
  have HV := Lib.hid hvn; clear hvn
  go_loopw [4] (fun i wr => ∃ (k : Nat) (cs : Array Value) (qs : List Ap), k ≤ n ∧ i = .int .i64 k ∧ Blk wr w.heap.size 106 cs ∧ Hid (CpK KA Ap.dat wr w.heap.size n cs xs qs k) ∧ Below w.heap.size w wr) (fun i _ => n - (intOf i).toNat)
  case atStart => exact ⟨0, _, [], Nat.zero_le _, rfl, Blk.new _ _ _, CpK.zero (by simp [madeCells, KA]), (Below.refl _ _).alloc (Nat.le_refl _) _⟩
  case round =>
    obtain ⟨k, cs, qs, hk, rfl, hblk, hpc, hbel⟩ := hrel
    by_cases hlt : k < n
    · obtain ⟨b_, off, rfl, hb, hcs, hrv⟩ := RdK.at_ (hr.below hbel) (k := k) (by rw [HV.out]; omega)
      clear hr
      have hvl := HVL.out k hlt
      have hsz : cs.size = n * 4 := hpc.out.2.2.1
      obtain ⟨x0_, hx0⟩ : ∃ x, cs[k * 4]? = some x := ⟨_, Array.getElem?_eq_getElem (by omega)⟩
      have HX0 := Lib.hid hx0
      obtain ⟨x1_, hx1⟩ : ∃ x, cs[k * 4 + 1]? = some x := ⟨_, Array.getElem?_eq_getElem (by omega)⟩
      have HX1 := Lib.hid hx1
      obtain ⟨x2_, hx2⟩ : ∃ x, cs[k * 4 + 2]? = some x := ⟨_, Array.getElem?_eq_getElem (by omega)⟩
      have HX2 := Lib.hid hx2
      obtain ⟨x3_, hx3⟩ : ∃ x, cs[k * 4 + 3]? = some x := ⟨_, Array.getElem?_eq_getElem (by omega)⟩
      have HX3 := Lib.hid hx3
      clear hsz hx0 hx1 hx2 hx3
      change ∀ j, j < 4 → wr.cell? ⟨b_, off + k * 4 + j, none⟩ = (KA.cells (xs.getD k zA))[j]? at hcs
      change KA.rd wr w.heap.size (xs.getD k zA) at hrv
      obtain ⟨⟨mk, mv, mx, vs, A', c'⟩, hu⟩ : ∃ u, xs.getD k zA = u := ⟨_, rfl⟩
      rw [hu] at hcs hvl hrv
      have hc0 : wr.cell? ⟨b_, off + k * 4, none⟩ = some (.int .i64 mk) := hcs 0 (by decide)
      have hc1 : wr.cell? ⟨b_, off + k * 4 + 1, none⟩ = some (.int .i64 mv) := hcs 1 (by decide)
      have hc2 : wr.cell? ⟨b_, off + k * 4 + 2, none⟩ = some (.int .i64 mx) := hcs 2 (by decide)
      have hc3 : wr.cell? ⟨b_, off + k * 4 + 3, none⟩ = some (.slice A' vs.length c') := hcs 3 (by decide)
      clear hcs
      have HU := Lib.hid hu; clear hu
      have HRV := Lib.hid (KA.more hrv hbel.size); clear hrv
      have HVV := Lib.hid hvl; clear hvl
      have hgl : w.heap.size < wr.heap.size := hblk.lt
      have HCL := Lib.hid (toAct1 ⟨mk, mv, mx, vs, A', c'⟩ wr HRV.out HVV.out)
      simp only [Ap.cells] at HCL
      go_wp2_with fail
      refine HCL.out.mono ?_
      rintro e w1 ⟨⟨k1, v1, x1, vs1, A1, c1⟩, rfl, he1, hh1, hb1⟩
      have hblk1 := hblk.on hb1
      have hf0 := hblk1.frozen (k * 4)
      have hy0 := (hblk1.cell (k * 4)).trans HX0.out
      have hf1 := hblk1.frozen (k * 4 + 1)
      have hy1 := (hblk1.cell (k * 4 + 1)).trans HX1.out
      have hf2 := hblk1.frozen (k * 4 + 2)
      have hy2 := (hblk1.cell (k * 4 + 2)).trans HX2.out
      have hf3 := hblk1.frozen (k * 4 + 3)
      have hy3 := (hblk1.cell (k * 4 + 3)).trans HX3.out
      have hC := CpK.step hpc.out hlt HV.out ⟨k1, v1, x1, vs1, A1, c1⟩ (by show _ = Ap.dat (xs.getD k zA); rw [HU.out]; exact he1) hb1 (HiK.low hh1 (by omega))
      have hB1 := hbel.trans (hb1.mono hbel.size)
      have hblk2 := Blk.putW (k * KA.s) (KA.cells ⟨k1, v1, x1, vs1, A1, c1⟩).toList hblk1
      have hB2 := Below.putW (g := w.heap.size) (k * KA.s) (KA.cells ⟨k1, v1, x1, vs1, A1, c1⟩).toList hB1 (Nat.le_refl _)
      rw [show (KA.cells ⟨k1, v1, x1, vs1, A1, c1⟩).toList = [.int .i64 k1, .int .i64 v1, .int .i64 x1, .slice A1 vs1.length c1] from rfl, show KA.s = 4 from rfl] at hC hblk2 hB2
      simp only [putW, putA, Nat.add_assoc, Nat.reduceAdd] at hC hblk2 hB2
      have HC := Lib.hid hC; have HK2 := Lib.hid hblk2; have HB2 := Lib.hid hB2
      clear hh1 hb1 he1 hpc hB1 hC hblk2 hB2
      dsimp only
      go_wp2
      go_roundw
      case rel =>
        exact ⟨k + 1, _, _, by omega, by go_num, HK2.out, HC, HB2.out⟩
      case measure => simp [intOf]; omega
    · go_wp2
      go_ret
      have hkn : k = n := by omega
      subst hkn
      exact ⟨_, cs, qs, rfl, Nat.le_refl _, hblk, hpc.out, hbel⟩

set_option maxHeartbeats 3200000 in
theorem eqActS_same (A C : Option Addr) (c d : Nat) (xs ys : List Ap) (hxy : ys.map Ap.dat = xs.map Ap.dat) (w : World) (hr : RdK KA w w.heap.size A xs) (hq : RdK KA w w.heap.size C ys) (hf : xs.length ≤ 1048576 ∧ ∀ i, i < xs.length → FewA (xs.getD i zA)) :
    Calls Try.prog 32 #[.slice A xs.length c, .slice C xs.length d] w fun e w' => e = .returned (.bool true) ∧ Below w.heap.size w w' := by
  have hlen := same_len hxy
  have hel : ∀ k, Ap.dat (ys.getD k zA) = Ap.dat (xs.getD k zA) := fun k => same_at hxy k
  obtain ⟨hn, hv⟩ := hf
  obtain ⟨n, hvn⟩ : ∃ n, xs.length = n := ⟨_, rfl⟩
  rw [hvn] at hn hv hlen ⊢
  have HVL := Lib.hid hv; clear hv
  have HV := Lib.hid hvn; clear hvn
  have HQ := Lib.hid hlen; clear hlen
  have HE := Lib.hid hel; clear hel hxy
  go_enter Try.func32, Try.ntmps32
  have hne : ∀ i : Int, (i != i) = false := fun i => by simp
  go_wp2
  go_loopw [5] (fun i wr => ∃ (k : Nat), k ≤ n ∧ i = .int .i64 k ∧ Below w.heap.size w wr) (fun i _ => n - (intOf i).toNat)
  case atStart => exact ⟨0, Nat.zero_le _, rfl, Below.refl _ _⟩
  case round =>
    obtain ⟨k, hk, rfl, hbel⟩ := hrel
    by_cases hlt : k < n
    · obtain ⟨b_, off, rfl, hb, hcs, hrv⟩ := RdK.at_ (hr.below hbel) (k := k) (by rw [HV.out]; omega)
      obtain ⟨b2_, off2, rfl, hb2, hcs2, hrv2⟩ := RdK.at_ (hq.below hbel) (k := k) (by rw [HQ.out]; omega)
      clear hr hq
      have hvl := HVL.out k hlt
      have he := HE.out k
      change ∀ j, j < 4 → wr.cell? ⟨b_, off + k * 4 + j, none⟩ = (KA.cells (xs.getD k zA))[j]? at hcs
      change ∀ j, j < 4 → wr.cell? ⟨b2_, off2 + k * 4 + j, none⟩ = (KA.cells (ys.getD k zA))[j]? at hcs2
      change KA.rd wr w.heap.size (xs.getD k zA) at hrv
      change KA.rd wr w.heap.size (ys.getD k zA) at hrv2
      obtain ⟨⟨mk, mv, mx, vs, A', c'⟩, hu⟩ : ∃ u, xs.getD k zA = u := ⟨_, rfl⟩
      obtain ⟨⟨mk2, mv2, mx2, vs2, A2, c2⟩, hu2⟩ : ∃ u, ys.getD k zA = u := ⟨_, rfl⟩
      rw [hu] at hcs hvl hrv he
      rw [hu2] at hcs2 hrv2 he
      clear hu hu2
      have hc0 : wr.cell? ⟨b_, off + k * 4, none⟩ = some (.int .i64 mk) := hcs 0 (by decide)
      have hc1 : wr.cell? ⟨b_, off + k * 4 + 1, none⟩ = some (.int .i64 mv) := hcs 1 (by decide)
      have hc2 : wr.cell? ⟨b_, off + k * 4 + 2, none⟩ = some (.int .i64 mx) := hcs 2 (by decide)
      have hc3 : wr.cell? ⟨b_, off + k * 4 + 3, none⟩ = some (.slice A' vs.length c') := hcs 3 (by decide)
      have hd0 : wr.cell? ⟨b2_, off2 + k * 4, none⟩ = some (.int .i64 mk2) := hcs2 0 (by decide)
      have hd1 : wr.cell? ⟨b2_, off2 + k * 4 + 1, none⟩ = some (.int .i64 mv2) := hcs2 1 (by decide)
      have hd2 : wr.cell? ⟨b2_, off2 + k * 4 + 2, none⟩ = some (.int .i64 mx2) := hcs2 2 (by decide)
      have hd3 : wr.cell? ⟨b2_, off2 + k * 4 + 3, none⟩ = some (.slice A2 vs2.length c2) := hcs2 3 (by decide)
      clear hcs hcs2
      have HR1 := Lib.hid (KA.more hrv hbel.size); clear hrv
      have HR2 := Lib.hid (KA.more hrv2 hbel.size); clear hrv2
      have HVV := Lib.hid hvl; clear hvl
      simp only [Ap.dat, Ad.mk.injEq] at he
      obtain ⟨rfl, rfl, rfl, rfl⟩ := he
      have HCL := Lib.hid (fun (W : World) (h : Below w.heap.size w W) (g1 : RdB W W.heap.size A' vs2) (g2 : RdB W W.heap.size A2 vs2) => eqAct_same mk2 mv2 mx2 A' A2 c' c2 vs2 W g1 g2 HVV.out)
      go_wp2
      go_still_tail 8, (by kernel_rfl)
      have hbd : Below w.heap.size w wr.drew := hbel.drew
      have hd1 := Lib.hid (KA.keep (w' := wr.drew) HR1.out fun _ _ _ => rfl)
      have hd2 := Lib.hid (KA.keep (w' := wr.drew) HR2.out fun _ _ _ => rfl)
      change wpList _ _ _ _ _ wr.drew
      go_wp2_with fail
      refine (HCL.out wr.drew hbd hd1.out hd2.out).mono ?_
      rintro e w1 ⟨rfl, hb1⟩
      go_wp2
      go_roundw
      case rel => exact ⟨k + 1, by omega, by go_num, hbd.trans (hb1.mono hbd.size)⟩
      case measure => simp [intOf]; omega
    · go_wp2
      go_ret
      exact ⟨rfl, hbel⟩

end Go.Proofs.Ytfdfjmibjnmhpaa.V
namespace Go.Proofs.Ytfdfjmibjnmhpaa.V
open Go.RowKit Go.ChangeShapes Go.WideShapes Go.Deep Go.Proofs.Ytfdfjmibjnmhpaa.B
section
variable {H : Type} {enc : TypeId × Value → H} {w : World}
/-- A row whose elements open. -/
theorem open_row {α : Type} (K : Knd α) (good : α → Prop) {t e : TypeId} {fuel : Nat} {cs : List Value} {x : DataW H × List MemPlace} (ht : Try.prog.underlying t = some (.slice e)) (ce : Try.prog.cellsOf e = K.s)
    (hel : ∀ {fuel : Nat} {cs : List Value} {x : DataW H × List MemPlace}, DataW.trod enc Try.prog w 0 (fun _ => true) true fuel e cs = some x → ∃ q : α, cs = (K.cells q).toList ∧ good q ∧ K.rd w w.heap.size q)
    (h : DataW.trod enc Try.prog w 0 (fun _ => true) true fuel t cs = some x) :
    ∃ (A : Option Addr) (c : Nat) (xs : List α), cs = [.slice A xs.length c] ∧ (xs.length ≤ maxLen ∧ ∀ i, i < xs.length → good (xs.getD i K.z)) ∧ RdK K w w.heap.size A xs := by
  rcases open_slice ht h with ⟨rfl, _⟩ | ⟨a, len, cap, m, n, D, Pl, rfl, _, hl, hm, hmm, _, hx⟩
  · exact ⟨none, 0, [], rfl, ⟨by simp [maxLen], fun i hi => absurd hi (by simp)⟩, RdK.nil_⟩
  · have hlm : len ≤ m := by rw [hmm]; simpa using hl
    have each : ∀ i, i < len → ∃ q : α, (∀ j, j < K.s → w.cell? (a.add (i * K.s + j)) = (K.cells q)[j]?) ∧ good q ∧ K.rd w w.heap.size q := by
      intro i hi
      obtain ⟨cs', h1, h2⟩ := hx i (by omega)
      rw [ce] at h1
      obtain ⟨_, hlen, hcell⟩ := World.cells?_some h1
      obtain ⟨q, rfl, hg, hr⟩ := hel h2
      refine ⟨q, fun j hj => ?_, hg, hr⟩
      have e0 := hcell j (by simpa using hj)
      rw [add_add] at e0
      rw [e0]
      simp
    haveI : Inhabited α := ⟨K.z⟩
    obtain ⟨q, hq⟩ := choose_lt each
    have hg : ∀ i, i < len → ((List.range len).map q).getD i K.z = q i := fun i hi => by simp [List.getD, hi]
    refine ⟨some a, cap, (List.range len).map q, by simp, ⟨by simp; omega, fun i hi => ?_⟩, fun hp => ?_⟩
    · have hi' : i < len := by simpa using hi
      rw [hg i hi']; exact (hq i hi').2.1
    · have hp' : 0 < len := by simpa using hp
      have hz0 := (hq 0 hp').1 0 K.pos
      simp only [Nat.zero_mul, Nat.add_zero] at hz0
      rw [show a.add 0 = a from rfl] at hz0
      have hsz : 0 < (K.cells (q 0)).size := by rw [K.size]; exact K.pos
      rw [Array.getElem?_eq_getElem hsz] at hz0
      obtain ⟨b, off, rfl⟩ := addr_none hz0
      refine ⟨b, off, rfl, World.block_lt_of_cell? w ⟨b, off, none⟩ hz0, fun i hi => ?_⟩
      have hi' : i < len := by simpa using hi
      rw [hg i hi']
      obtain ⟨h0, h1, h2⟩ := hq i hi'
      refine ⟨fun j hj => ?_, h2⟩
      have := h0 j hj
      rw [add_plain] at this
      rw [Nat.add_assoc]
      exact this

theorem open_act1 {fuel : Nat} {cs : List Value} {x : DataW H × List MemPlace} (h : DataW.trod enc Try.prog w 0 (fun _ => true) true fuel 105 cs = some x) : ∃ q : Ap, cs = (KA.cells q).toList ∧ LensA q ∧ KA.rd w w.heap.size q := by
  obtain ⟨xs, n, _, _, hlen, _, _⟩ := DataW.trod_struct Try.underlying105 h
  rw [show Try.prog.cellsOf 105 = 4 by kernel_rfl] at hlen
  obtain ⟨k0, e0⟩ := int_field Try.underlying105 h 0 _ rfl Try.underlying3 (by kernel_rfl)
  obtain ⟨k1, e1⟩ := int_field Try.underlying105 h 1 _ rfl Try.underlying3 (by kernel_rfl)
  obtain ⟨k2, e2⟩ := int_field Try.underlying105 h 2 _ rfl Try.underlying3 (by kernel_rfl)
  obtain ⟨n3, y3, h3⟩ := field_of Try.underlying105 h 3 _ rfl
  have h3 : DataW.trod enc Try.prog w 0 (fun _ => true) true n3 103 ((cs.drop 3).take (Try.prog.cellsOf 103)) = some y3 := h3
  have e3 : Try.prog.cellsOf 103 = 1 := by kernel_rfl
  rw [e3] at h3
  obtain ⟨A, c, bs, hab, hm, hr⟩ := open_bytes h3
  match cs, hlen with
  | [c0, c1, c2, c3], _ =>
    simp at e0 e1 e2 hab
    exact ⟨⟨k0, k1, k2, bs, A, c⟩, by simp [KA, Ap.cells, e0, e1, e2, hab], hm, hr⟩
theorem open_acts {fuel : Nat} {cs : List Value} {x : DataW H × List MemPlace} (h : DataW.trod enc Try.prog w 0 (fun _ => true) true fuel 62 cs = some x) : ∃ (A : Option Addr) (c : Nat) (xs : List Ap), cs = [.slice A xs.length c] ∧ (xs.length ≤ maxLen ∧ ∀ i, i < xs.length → LensA (xs.getD i zA)) ∧ RdK KA w w.heap.size A xs :=
  open_row KA LensA Try.underlying62 (by kernel_rfl) open_act1 h
end
end Go.Proofs.Ytfdfjmibjnmhpaa.V
