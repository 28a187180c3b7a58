/-
  The heap of values that the program draws its winner from: its methods. No statement is proved here.
-/
import Derived.Test.YtfebeafonifpdaaImplCounts
import Derived.Great.Walk
set_option linter.unusedVariables false
set_option maxRecDepth 100000
namespace Go.Proofs.Ytfebeafonifpdaa.V
open Go.RowKit Go.Proofs.Ytfebeafonifpdaa.B

/-- But for block p, and rows of numbers from base on, all that was there is as it was. -/
structure HG (base p : Nat) (w w' : World) : Prop where
  os : w'.os = w.os
  tape : w'.tape = w.tape
  output : w'.output = w.output
  size : w.heap.size ≤ w'.heap.size
  block : ∀ k, k < w.heap.size → k ≠ p → (k < base ∨ ∀ cur, w.heap[k]? ≠ some (.cells cur 3 (0, 0))) → w'.heap[k]? = w.heap[k]?
theorem HG.refl (base p : Nat) (w : World) : HG base p w w := ⟨rfl, rfl, rfl, Nat.le_refl _, fun _ _ _ _ => rfl⟩
theorem HG.trans {base p : Nat} {a b c : World} (h : HG base p a b) (k : HG base p b c) : HG base p a c :=
  ⟨k.os.trans h.os, k.tape.trans h.tape, k.output.trans h.output, Nat.le_trans h.size k.size, fun i hi hne hc => by
    have e := h.block i hi hne hc
    exact (k.block i (Nat.lt_of_lt_of_le hi h.size) hne (hc.imp id fun h2 cur => by rw [e]; exact h2 cur)).trans e⟩
theorem HG.of_below {base p : Nat} {w w' : World} (h : Below w.heap.size w w') : HG base p w w' := ⟨h.os, h.tape, h.output, h.size, fun k hk _ _ => h.block k hk⟩
theorem HG.of_row {base p : Nat} {w w' : World} {v : Value} {n : Nat} {xs : List Value} (h : w.ownsRow base 3 1 v n xs) (hg : w.grownBy w' v.ownBlock) : HG base p w w' :=
  ⟨hg.os, hg.tape, hg.output, hg.size, fun k hk _ hc => hg.block k hk fun e => by
    rcases h.2 with ⟨rfl, _⟩ | ⟨g, cap, cur, rfl, hb, hgg, _⟩
    · simp [Value.ownBlock] at e
    · simp only [Value.ownBlock, Option.some.injEq] at e
      subst e
      rcases hc with hc | hc
      · omega
      · exact hc cur hgg⟩
theorem HG.of_box {base p i : Nat} {w : World} {u : Value} : HG base p w (w.setCell ⟨p, i, none⟩ u) :=
  ⟨rfl, rfl, rfl, by simp, fun k _ hne _ => Below.heap_setCell w _ u k hne⟩
/-- Block p is a heap's box: its row holds xs. -/
def HP (base : Nat) (w : World) (p : Nat) (v : Value) (xs : List Int) : Prop := Blk w p 114 #[v] ∧ w.ownsRow base 3 1 v xs.length (ic xs) ∧ v.ownBlock ≠ some p
theorem HP.on {base p : Nat} {w w' : World} {v : Value} {xs : List Int} (h : HP base w p v xs) (hb : Below w.heap.size w w') : HP base w' p v xs := ⟨h.1.on hb, own_onB h.2.1 hb, h.2.2⟩
theorem HP.drew {base p : Nat} {w : World} {v : Value} {xs : List Int} (h : HP base w p v xs) : HP base w.drew p v xs := h
theorem hp_cell {base p : Nat} {w : World} {v : Value} {xs : List Int} (h : HP base w p v xs) (i : Nat) (hi : i < xs.length) : ∃ g c, v = .slice (some ⟨g, 0, none⟩) xs.length c ∧ w.cell? ⟨g, i, none⟩ = some (.int .i64 (xs.getD i 0)) := by
  rcases h.2.1.2 with ⟨_, h0⟩ | ⟨g, cap, cur, rfl, hb, hgg, h1, h2, h3, h4⟩
  · omega
  · refine ⟨g, cap, rfl, ?_⟩
    rw [cell_of_row w g i cur 3 (0, 0) hgg]
    have e : (ic xs)[i]? = some (.int .i64 (xs.getD i 0)) := by simp [ic, List.getD_eq_getElem?_getD, List.getElem?_eq_getElem hi]
    rw [← h4, List.getElem?_take_of_lt (by omega)] at e
    simpa using e
def swapL (xs : List Int) (i j : Nat) : List Int := (xs.set i (xs.getD j 0)).set j (xs.getD i 0)
theorem swapL_len (xs : List Int) (i j : Nat) : (swapL xs i j).length = xs.length := by simp [swapL]
theorem own_put {base g n c i : Nat} {w : World} {xs : List Int} {y : Int} (h : w.ownsRow base 3 1 (.slice (some ⟨g, 0, none⟩) n c) n (ic xs)) (hi : i < n) : (w.setCell ⟨g, i, none⟩ (.int .i64 y)).ownsRow base 3 1 (.slice (some ⟨g, 0, none⟩) n c) n (ic (xs.set i y)) := by
  refine ⟨by simpa [ic] using h.1, ?_⟩
  rcases h.2 with ⟨h0, _⟩ | ⟨g', cap, cur, e, hb, hgg, h1, h2, h3, h4⟩
  · cases h0
  · injection e with e1 e2 e3
    injection e1 with e1
    injection e1 with e1
    subst e1 e3
    have hB : Blk w g 3 cur := hgg
    refine .inr ⟨g, c, cur.setIfInBounds i (.int .i64 y), rfl, hb, hB.set_ i _, h1, h2, by simpa using h3, ?_⟩
    rw [Array.toList_setIfInBounds, List.take_set, h4]
    simp [ic, List.map_set]
theorem own_frozen {base g n c : Nat} {w : World} {xs : List Value} (h : w.ownsRow base 3 1 (.slice (some ⟨g, 0, none⟩) n c) n xs) (i : Nat) : w.frozen? ⟨g, i, none⟩ = false := by
  rcases h.2 with ⟨h0, _⟩ | ⟨g', cap, cur, e, hb, hgg, _⟩
  · cases h0
  · injection e with e1 e2 e3
    injection e1 with e1
    injection e1 with e1
    subst e1
    exact Blk.frozen (show Blk w g 3 cur from hgg) i
theorem own_cell {base g n c : Nat} {w : World} {xs : List Int} (h : w.ownsRow base 3 1 (.slice (some ⟨g, 0, none⟩) n c) n (ic xs)) (hn : xs.length = n) (i : Nat) (hi : i < n) : w.cell? ⟨g, i, none⟩ = some (.int .i64 (xs.getD i 0)) := by
  rcases h.2 with ⟨h0, _⟩ | ⟨g', cap, cur, e, hb, hgg, h1, h2, h3, h4⟩
  · cases h0
  · injection e with e1 e2 e3
    injection e1 with e1
    injection e1 with e1
    subst e1
    rw [cell_of_row w g i cur 3 (0, 0) hgg]
    have e : (ic xs)[i]? = some (.int .i64 (xs.getD i 0)) := by simp [ic, List.getD_eq_getElem?_getD, List.getElem?_eq_getElem (show i < xs.length by omega)]
    rw [← h4, List.getElem?_take_of_lt (by omega)] at e
    simpa using e

theorem len_any (A : Option Addr) (n c : Nat) (w : World) : Calls Try.prog 125 #[.slice A n c] w fun e w' => e = .returned (.int .i64 n) ∧ w' = w := by
  go_enter Try.func125, Try.ntmps125
  go_wp2
  go_ret
  exact ⟨rfl, rfl⟩
theorem less_any (g n c : Nat) (i j : Nat) (x y : Int) (hi : i < n) (hj : j < n) (w : World) (h1 : w.cell? ⟨g, i, none⟩ = some (.int .i64 x)) (h2 : w.cell? ⟨g, j, none⟩ = some (.int .i64 y)) :
    Calls Try.prog 126 #[.slice (some ⟨g, 0, none⟩) n c, .int .i64 i, .int .i64 j] w fun e w' => e = .returned (.bool (decide (x < y))) ∧ Below w.heap.size w w' := by
  have a1 : (0 : Int) ≤ (i : Int) := by omega
  have a2 : (i : Int) < (n : Int) := by omega
  have a3 : (0 : Int) ≤ (j : Int) := by omega
  have a4 : (j : Int) < (n : Int) := by omega
  go_enter Try.func126, Try.ntmps126
  go_wp2
  go_quiet (fail)
  go_wp2
  go_ret
  exact ⟨rfl, ⟨rfl, rfl, rfl, Nat.le_refl _, fun _ _ => rfl⟩⟩
theorem swap_any (base g n c : Nat) (i j : Nat) (xs : List Int) (hn : xs.length = n) (hi : i < n) (hj : j < n) (w : World) (h : w.ownsRow base 3 1 (.slice (some ⟨g, 0, none⟩) n c) n (ic xs)) :
    Calls Try.prog 129 #[.slice (some ⟨g, 0, none⟩) n c, .int .i64 i, .int .i64 j] w fun e w' => e = .returned (.tuple #[]) ∧ w'.ownsRow base 3 1 (.slice (some ⟨g, 0, none⟩) n c) n (ic (swapL xs i j)) ∧ w.grownBy w' (some g) := by
  have a1 : (0 : Int) ≤ (i : Int) := by omega
  have a2 : (i : Int) < (n : Int) := by omega
  have a3 : (0 : Int) ≤ (j : Int) := by omega
  have a4 : (j : Int) < (n : Int) := by omega
  have hW := own_put (i := j) (y := xs.getD i 0) (own_put (i := i) (y := xs.getD j 0) h hi) hj
  have r1 := own_cell h hn i hi
  have r2 := own_cell h hn j hj
  have f1 := own_frozen h i
  have f2 := own_frozen h j
  have r5 := own_cell (own_put (i := i) (y := xs.getD j 0) h hi) (by simpa using hn) j hj
  have HW := Lib.hid hW; clear hW
  generalize (xs.set i (xs.getD j 0)).getD j 0 = z at *
  have HG0 := fun W : World => (fun h => h : World.grownBy w W (some g) → World.grownBy w W (some g))
  generalize hx : xs.getD i 0 = x at *
  generalize hy : xs.getD j 0 = y at *
  go_enter Try.func129, Try.ntmps129
  go_wp2
  go_region
  all_goals refine bodyPost_end (results_none rfl _ _ _) rfl ⟨rfl, ?_, ?_⟩
  all_goals first
    | (rw [swapL, hx, hy]; exact HW.out)
    | exact ⟨rfl, rfl, rfl, by simp, fun k hk hne => (Below.heap_setCell _ _ _ _ (fun e => hne (by rw [e]))).trans (Below.heap_setCell _ _ _ _ (fun e => hne (by rw [e])))⟩
theorem meth_at (nm : String) (f : FuncId) (hq : (Try.prog.info? 113).map (fun i => (i.methods.find? (·.name == nm)).map fun m => (m.path, m.func)) = some (some (#[], some (f, false))))
    (p : Nat) (v : Value) (w : World) (kb : Blk w p 114 #[v]) : (method 248 113 (.pointer (some ⟨p, 0, none⟩)) nm).run Try.prog w = .ok (f, v) w := by
  obtain ⟨ti, hti, hq⟩ := Option.map_eq_some_iff.1 hq
  obtain ⟨m, hm, hq⟩ := Option.map_eq_some_iff.1 hq
  injection hq with hp hf
  have rb := kb.cell 0
  show (method (247 + 1) _ _ _).run _ _ = _
  unfold method
  have hisA : (isAgg 114).run Try.prog w = .ok false w := by kernel_rfl
  have hwr : ∀ s1 s2 : ByteArray, Builtin.ssaWrapNilChk_ #[113] 113 #[.pointer (some ⟨p, 0, none⟩), .string s1, .string s2] = pure (.pointer (some ⟨p, 0, none⟩)) := fun _ _ => rfl
  simp [Sem.run_bind, typeInfo, hti, hm, hp, hf, follow, receiverAt, Place.get, run_underlying Try.underlying113, hwr, asAddr, loadVar, hisA, load, Result.andThen, strVal]
  have hl : Sem.run Try.prog (Sem.load Mode.plain ⟨p, 0, none⟩ Sem.pure) w = .ok v w := by
    simp [Sem.run, rb]
  rw [hl]
theorem push_any (base p : Nat) (v : Value) (xs : List Int) (x : Int) (hl : xs.length ≤ 2000000) (w : World) (hb : base ≤ w.heap.size) (h : HP base w p v xs) :
    Calls Try.prog 128 #[.pointer (some ⟨p, 0, none⟩), .iface 3 (.int .i64 x)] w fun e w' => e = .returned (.tuple #[]) ∧ (∃ v', HP base w' p v' (xs ++ [x])) ∧ HG base p w w' := by
  obtain ⟨i0, hi0, hz0, hz1, hz2⟩ := info_parts infoI
  obtain ⟨kb, hown, hne⟩ := h
  have rb := kb.rule
  have hlt := kb.lt
  have kbd : Blk w.drew p 114 #[v] := kb
  have hownd : w.drew.ownsRow base 3 1 v xs.length (ic xs) := hown
  have hbb : base ≤ (w.drew.alloc (.cells #[.int .i64 x] 3)).heap.size := by show base ≤ (w.alloc (.cells #[.int .i64 x] 3)).heap.size; simp; omega
  have hss : (w.drew.alloc (.cells #[.int .i64 x] 3)).heap.size = w.heap.size + 1 := by show (w.alloc (.cells #[.int .i64 x] 3)).heap.size = _; simp
  have rba := fun O : Obj => (kb.alloc O).cell 0
  have hta : ∀ W : World, (Instr.typeAssert (.iface 3 (.int .i64 x)) 20 3 false).run Try.prog W = .ok (.int .i64 x) W := fun _ => by kernel_rfl
  go_enter Try.func128, Try.ntmps128
  go_wp2
  go_region_law (refine step_append_lies _ (by rfl) (.tmp 7) (.tmp 10) 114 (by rfl) base 3 i0 _ 1 8 Try.underlying114 hi0 hz0 hz1 hz2 rfl (by omega) v xs.length (ic xs) (by rfl) (hownd.alloc _) ⟨w.heap.size, 0, none⟩ 1 1 [.int .i64 x] (by rfl) (by rfl) (World.news_of_block (cs := #[.int .i64 x]) (t := 3) (fr := (0, 0)) (heap_alloc_new w.drew _)) (by simp [Value.oneCell']) (by omega) (by simp only [maxLen]; omega) (by omega) hbb (w.heap.size + 1) hss ?_; intro gg cap w2 hown2 hgrow hat hlt2; have kb2 := keepK (kbd.alloc _) hgrow hne; have rb2 := kb2.rule; have fb2 := (fun i => kb2.frozen i))
  all_goals
    refine bodyPost_end (results_none rfl _ _ _) rfl ⟨rfl, ⟨_, kb2.set_ 0 _, own_far (by rw [ic_app, List.length_append]; exact hown2) ?_, ?_⟩, ?_⟩
  all_goals first
    | exact HG.trans (HG.trans (HG.of_below (w' := (w.alloc (.cells #[.int .i64 x] 3)).drew) ((Below.refl _ _).alloc (Nat.le_refl _) _).drew) (HG.of_row (own_drew (hown.alloc _)) hgrow)) HG.of_box
    | (intro e
       simp only [Value.ownBlock, Option.some.injEq] at e
       subst e
       rcases hat with h1 | h1
       · exact hne h1
       · omega)

/-! The order of a heap. -/
def IsHeap (xs : List Int) : Prop := ∀ i, 0 < i → i < xs.length → xs.getD ((i - 1) / 2) 0 ≤ xs.getD i 0
def UpInv (xs : List Int) (j : Nat) : Prop :=
  (∀ i, 0 < i → i < xs.length → i ≠ j → xs.getD ((i - 1) / 2) 0 ≤ xs.getD i 0) ∧ (∀ i, 0 < i → i < xs.length → (i - 1) / 2 = j → 0 < j → xs.getD ((j - 1) / 2) 0 ≤ xs.getD i 0)
theorem swapL_get (xs : List Int) {i j : Nat} (hi : i < xs.length) (hj : j < xs.length) (k : Nat) : (swapL xs i j).getD k 0 = if k = j then xs.getD i 0 else if k = i then xs.getD j 0 else xs.getD k 0 := by
  unfold swapL
  simp only [List.getD_eq_getElem?_getD, List.getElem?_set, List.length_set]
  by_cases e1 : k = j
  · subst e1
    simp [hj]
  · rw [if_neg (fun e => e1 e.symm), if_neg e1]
    by_cases e2 : k = i
    · subst e2; simp [hi]
    · rw [if_neg (fun e => e2 e.symm), if_neg e2]
theorem mem_getD {l : List Int} {x : Int} : x ∈ l ↔ ∃ k, k < l.length ∧ l.getD k 0 = x := by
  rw [List.mem_iff_getElem]
  constructor
  · rintro ⟨k, h, e⟩
    exact ⟨k, h, by simp [List.getD_eq_getElem?_getD, List.getElem?_eq_getElem h, e]⟩
  · rintro ⟨k, h, e⟩
    exact ⟨k, h, by simpa [List.getD_eq_getElem?_getD, List.getElem?_eq_getElem h] using e⟩
theorem swapL_mem (xs : List Int) {i j : Nat} (hi : i < xs.length) (hj : j < xs.length) (x : Int) : x ∈ swapL xs i j ↔ x ∈ xs := by
  rw [mem_getD, mem_getD, swapL_len]
  constructor
  · rintro ⟨k, h, e⟩
    rw [swapL_get xs hi hj] at e
    split at e
    · exact ⟨i, hi, e⟩
    · split at e
      · exact ⟨j, hj, e⟩
      · exact ⟨k, h, e⟩
  · rintro ⟨k, h, e⟩
    by_cases e1 : k = i
    · exact ⟨j, hj, by rw [swapL_get xs hi hj, if_pos rfl, ← e1]; exact e⟩
    · by_cases e2 : k = j
      · exact ⟨i, hi, by
          rw [swapL_get xs hi hj]
          split
          · rename_i h2; rw [h2, ← e2]; exact e
          · rw [if_pos rfl, ← e2]; exact e⟩
      · exact ⟨k, h, by rw [swapL_get xs hi hj, if_neg e2, if_neg e1]; exact e⟩
theorem up_step {xs : List Int} {j q : Nat} (h : UpInv xs j) (h0 : 0 < j) (hj : j < xs.length) (hq : (j - 1) / 2 = q) (hlt : xs.getD j 0 < xs.getD q 0) : UpInv (swapL xs q j) q := by
  have hqj : q < j := by omega
  have hql : q < xs.length := by omega
  obtain ⟨h1, h2⟩ := h
  refine ⟨fun i hi hil hne => ?_, fun i hi hil hpar hq0 => ?_⟩
  · rw [swapL_len] at hil
    rw [swapL_get xs hql hj, swapL_get xs hql hj]
    by_cases e1 : i = j
    · subst e1
      rw [hq, if_neg (by omega), if_pos rfl, if_pos rfl]; omega
    · rw [if_neg e1, if_neg hne]
      by_cases e2 : (i - 1) / 2 = q
      · rw [e2, if_neg (by omega), if_pos rfl]
        have := h1 i hi hil e1
        rw [e2] at this
        omega
      · by_cases e3 : (i - 1) / 2 = j
        · rw [e3, if_pos rfl]
          have := h2 i hi hil e3 h0
          rw [hq] at this
          exact this
        · rw [if_neg e3, if_neg e2]
          exact h1 i hi hil e1
  · rw [swapL_len] at hil
    rw [swapL_get xs hql hj, swapL_get xs hql hj, if_neg (by omega), if_neg (by omega)]
    have hqq := h1 q hq0 hql (by omega)
    by_cases e1 : i = j
    · subst e1
      rw [if_pos rfl]; exact hqq
    · rw [if_neg e1]
      by_cases e2 : i = q
      · subst e2; omega
      · rw [if_neg e2]
        have := h1 i hi hil e1
        rw [hpar] at this
        omega
theorem up_done {xs : List Int} {j : Nat} (h : UpInv xs j) (hd : j = 0 ∨ xs.getD ((j - 1) / 2) 0 ≤ xs.getD j 0) : IsHeap xs := fun i hi hil => by
  by_cases e : i = j
  · subst e
    rcases hd with hd | hd
    · omega
    · exact hd
  · exact h.1 i hi hil e
theorem up_start {xs : List Int} (h : IsHeap xs) (x : Int) : UpInv (xs ++ [x]) xs.length := by
  refine ⟨fun i hi hil hne => ?_, fun i hi hil hpar h0 => ?_⟩
  · simp only [List.length_append, List.length_cons, List.length_nil] at hil
    have := h i hi (by omega)
    simp only [List.getD_eq_getElem?_getD] at this ⊢
    rw [List.getElem?_append_left (by omega), List.getElem?_append_left (by omega)]
    exact this
  · simp only [List.length_append, List.length_cons, List.length_nil] at hil
    omega
theorem root_least {xs : List Int} (h : IsHeap xs) : ∀ i, i < xs.length → xs.getD 0 0 ≤ xs.getD i 0 := by
  intro i
  induction i using Nat.strongRecOn with
  | _ i ih =>
    intro hi
    by_cases e : i = 0
    · subst e; exact Int.le_refl _
    · exact Int.le_trans (ih ((i - 1) / 2) (by omega) (by omega)) (h i (by omega) hi)

theorem hp_meth (nm : String) (f : FuncId) (hq : (Try.prog.info? 113).map (fun i => (i.methods.find? (·.name == nm)).map fun m => (m.path, m.func)) = some (some (#[], some (f, false))))
    {base p : Nat} {v : Value} {xs : List Int} {w : World} (h : HP base w p v xs) : (method 248 113 (.pointer (some ⟨p, 0, none⟩)) nm).run Try.prog w = .ok (f, v) w := meth_at nm f hq p v w h.1
theorem hp_less {base p g n c : Nat} {xs : List Int} {w : World} (h : HP base w p (.slice (some ⟨g, 0, none⟩) n c) xs) (hn : xs.length = n) {i j : Nat} (hi : i < n) (hj : j < n) {q : Bool} (hq : decide (xs.getD i 0 < xs.getD j 0) = q) :
    Calls Try.prog 126 #[.slice (some ⟨g, 0, none⟩) n c, .int .i64 i, .int .i64 j] w fun e w' => e = .returned (.bool q) ∧ HP base w' p (.slice (some ⟨g, 0, none⟩) n c) xs ∧ HG base p w w' := by
  have ho : w.ownsRow base 3 1 (.slice (some ⟨g, 0, none⟩) n c) n (ic xs) := by have := h.2.1; rwa [hn] at this
  refine (less_any g n c i j _ _ hi hj w (own_cell ho hn i hi) (own_cell ho hn j hj)).mono ?_
  rintro e w' ⟨rfl, hb⟩
  exact ⟨by rw [hq], h.on hb, HG.of_below hb⟩
theorem hp_swap {base p g n c : Nat} {xs : List Int} {w : World} (h : HP base w p (.slice (some ⟨g, 0, none⟩) n c) xs) (hn : xs.length = n) {i j : Nat} (hi : i < n) (hj : j < n) :
    Calls Try.prog 129 #[.slice (some ⟨g, 0, none⟩) n c, .int .i64 i, .int .i64 j] w fun e w' => e = .returned (.tuple #[]) ∧ HP base w' p (.slice (some ⟨g, 0, none⟩) n c) (swapL xs i j) ∧ HG base p w w' := by
  have ho : w.ownsRow base 3 1 (.slice (some ⟨g, 0, none⟩) n c) n (ic xs) := by have := h.2.1; rwa [hn] at this
  refine (swap_any base g n c i j xs hn hi hj w ho).mono ?_
  rintro e w' ⟨rfl, ho2, hg⟩
  have hne := h.2.2
  refine ⟨rfl, ⟨keepK h.1 hg hne, ?_, hne⟩, HG.of_row h.2.1 hg⟩
  rw [swapL_len, hn]; exact ho2

set_option maxHeartbeats 3200000 in
theorem up_any (base p g n c : Nat) (xs : List Int) (hn : xs.length = n) (j : Nat) (hj : j < n) (hn2 : n ≤ 2000001) (w : World) (h : HP base w p (.slice (some ⟨g, 0, none⟩) n c) xs) (hu : UpInv xs j) :
    Calls Try.prog 106 #[.iface 113 (.pointer (some ⟨p, 0, none⟩)), .int .i64 j] w fun e w' => e = .returned (.tuple #[]) ∧ (∃ ys, ys.length = n ∧ (∀ x, x ∈ ys ↔ x ∈ xs) ∧ IsHeap ys ∧ HP base w' p (.slice (some ⟨g, 0, none⟩) n c) ys) ∧ HG base p w w' := by
  have HU := Lib.hid hu; clear hu
  have HN := Lib.hid hn; clear hn
  go_enter Try.func106, Try.ntmps106
  go_wp2
  go_loopw [1] (fun jv wr => ∃ (j : Nat) (ys : List Int), jv = .int .i64 j ∧ j < n ∧ Hid (ys.length = n) ∧ Hid (∀ x, x ∈ ys ↔ x ∈ xs) ∧ Hid (UpInv ys j) ∧ HP base wr p (.slice (some ⟨g, 0, none⟩) n c) ys ∧ HG base p w wr) (fun jv _ => (intOf jv).toNat)
  case atStart => exact ⟨j, xs, rfl, hj, HN, fun _ => Iff.rfl, HU, h, HG.refl _ _ _⟩
  case round =>
    clear h HU hj j
    obtain ⟨j, ys, rfl, hj, hyn, hmem, hu, hst, hG⟩ := hrel
    have m1 := hp_meth "Less" 126 (by kernel_rfl) hst
    by_cases h0 : j = 0
    · subst h0
      have hw1 : IntKind.i64.wrap (-1) = -1 := by decide
      go_wp2
      refine bodyPost_end (results_none rfl _ _ _) rfl ⟨rfl, ⟨ys, hyn.out, hmem.out, up_done hu.out (.inl rfl), hst⟩, hG⟩
    · obtain ⟨j1, hj1⟩ : ∃ j1, j = j1 + 1 := ⟨j - 1, by omega⟩
      have hE : (j : Int) - 1 = (j1 : Int) := by omega
      have hW : IntKind.i64.wrap (j1 : Int) = (j1 : Int) := IntWalk.i64_in _ (by omega)
      obtain ⟨q, hq⟩ : ∃ q, (j - 1) / 2 = q := ⟨_, rfl⟩
      have hQ : (j1 : Int).tdiv 2 = (q : Int) := by rw [Int.tdiv_eq_ediv_of_nonneg (by omega)]; omega
      have hWq : IntKind.i64.wrap (q : Int) = (q : Int) := IntWalk.i64_in _ (by omega)
      have hqj : q < j := by omega
      have hf : ((q : Int) == (j : Int)) = false := by simp; omega
      have HJ1 := Lib.hid hj1; clear hj1
      have HQ := Lib.hid hq; clear hq
      rcases hlt : decide (ys.getD j 0 < ys.getD q 0) with _ | _
      · have HD : Hid (ys.getD ((j - 1) / 2) 0 ≤ ys.getD j 0) := by show _ ≤ _; rw [HQ.out]; simp only [decide_eq_false_iff_not] at hlt; omega
        have HL := Lib.hid hlt; clear hlt
        go_wp2_with (go_at_call 126; refine (hp_less hst hyn.out hj (by omega) HL.out).mono ?_; rintro e w1 ⟨rfl, hst1, hG1⟩)
        refine bodyPost_end (results_none rfl _ _ _) rfl ⟨rfl, ⟨ys, hyn.out, hmem.out, up_done hu.out (.inr HD.out), hst1⟩, hG.trans hG1⟩
      · have HL := Lib.hid hlt; clear hlt
        go_wp2_with (first
          | (go_at_call 126; refine (hp_less hst hyn.out hj (by omega) HL.out).mono ?_; rintro e w1 ⟨rfl, hst1, hG1⟩; have m2 := hp_meth "Swap" 129 (by kernel_rfl) hst1)
          | (go_at_call 129; refine (hp_swap hst1 hyn.out (by omega) hj).mono ?_; rintro e w2 ⟨rfl, hst2, hG2⟩))
        go_roundw
        case rel =>
          exact ⟨q, swapL ys q j, rfl, by omega, by show _ = _; rw [swapL_len]; exact hyn.out, fun x => (swapL_mem ys (by rw [hyn.out]; omega) (by rw [hyn.out]; exact hj) x).trans (hmem.out x),
            up_step hu.out (by omega) (by rw [hyn.out]; exact hj) HQ.out (by simpa using HL.out), hst2, (hG.trans hG1).trans hG2⟩
        case measure => simp [intOf]; omega
end Go.Proofs.Ytfebeafonifpdaa.V
