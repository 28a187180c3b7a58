/-
  A row of bytes told by its cells, whatever mark its block bears (so what '[]byte(s)' lays too): append onto it. No statement is proved here.
-/
import Derived.Test.YtbogagddjkghhaaDoorReads
import Derived.Deep.AppendSrc
import Derived.Deep.Upon
import Derived.Laws.IdiomStrings
set_option linter.unusedVariables false
namespace Go.Proofs.YtbogagddjkghhaaDoor.B
open Go.RowKit
/-- Block g holds n cells, and room up to cap, none of it frozen. -/
structure CRow (w : World) (g cap n : Nat) (cs : List Value) : Prop where
  lt : g < w.heap.size
  len : cs.length = n
  le : n ≤ cap
  max : cap ≤ maxLen
  cell : ∀ j, j < n → w.cell? ⟨g, j, none⟩ = cs[j]?
  there : ∀ j, j < cap → (w.cell? ⟨g, j, none⟩).isSome = true ∧ w.frozen? ⟨g, j, none⟩ = false
section
variable {w w' : World} {g cap n : Nat} {cs : List Value}
theorem CRow.keep (h : CRow w g cap n cs) (hs : w.heap.size ≤ w'.heap.size) (hk : w'.heap[g]? = w.heap[g]?) : CRow w' g cap n cs :=
  ⟨by have := h.lt; omega, h.len, h.le, h.max, fun j hj => (World.cell?_of_block (a := ⟨g, j, none⟩) hk).trans (h.cell j hj), fun j hj => by
    rw [World.cell?_of_block (a := ⟨g, j, none⟩) hk, World.frozen?_of_block (a := ⟨g, j, none⟩) hk]; exact h.there j hj⟩
theorem CRow.on (h : CRow w g cap n cs) (hb : Below w.heap.size w w') : CRow w' g cap n cs := h.keep hb.size (hb.block g h.lt)
theorem CRow.grown (h : CRow w g cap n cs) {row : Option Nat} (hg : w.grownBy w' row) (hne : row ≠ some g) : CRow w' g cap n cs := h.keep hg.size (hg.block g h.lt (fun e => hne e.symm))
theorem CRow.reads (h : CRow w g cap n cs) : Reads w w.heap.size 1 (some ⟨g, 0, none⟩) n cs := by
  refine ⟨by rw [h.len]; omega, fun _ => ⟨_, rfl, h.lt, fun j u hu => ?_⟩⟩
  have hj : j < n := by have := (List.getElem?_eq_some_iff.1 hu).1; rw [h.len] at this; exact this
  have hadd : (⟨g, 0, none⟩ : Addr).add j = ⟨g, j, none⟩ := by unfold Addr.add; split <;> simp_all
  rw [hadd, h.cell j hj, hu]
/-- A row laid anew, whatever its mark, so it begins behind its cells or is none. -/
theorem CRow.new (w : World) (C : Array Value) (e : TypeId) (lo hi : Nat) (hm : hi ≤ lo ∨ C.size ≤ lo) (hc : C.size = cap) (hl : cs.length = n) (hle : n ≤ cap) (hmax : cap ≤ maxLen) (hcs : ∀ j, j < n → C[j]? = cs[j]?) :
    CRow (w.alloc (.cells C e (lo, hi))) w.heap.size cap n cs :=
  ⟨by simp, hl, hle, hmax, fun j hj => (World.cell?_alloc_mark w C e (lo, hi) j).trans (hcs j hj), fun j hj => by
    rw [World.cell?_alloc_mark, World.frozen?_alloc_mark]
    refine ⟨by rw [Array.getElem?_eq_getElem (by omega)]; rfl, ?_⟩
    rw [Bool.and_eq_false_iff, decide_eq_false_iff_not, decide_eq_false_iff_not]
    omega⟩
theorem size_bytesRow (s : ByteArray) (cap : Nat) (h : s.size ≤ cap) : (bytesRow s cap).size = cap := by
  have e : s.data.size = s.size := rfl
  simp [bytesRow, e]
  omega
/-- '[]byte(s)'. -/
theorem CRow.of_text (w : World) (s : ByteArray) (e : TypeId) (hs : s.size ≤ maxLen) :
    CRow (w.drew.alloc (.cells (bytesRow s (grownCap w s.size 0 e)) e ((bytesRow s (grownCap w s.size 0 e)).size, (bytesRow s (grownCap w s.size 0 e)).size + 1))) w.heap.size (grownCap w s.size 0 e) s.size (byteCells s) := by
  have hge := grownCap_ge w s.size 0 e
  refine CRow.new w.drew _ e _ _ (.inr (Nat.le_refl _)) (size_bytesRow s _ hge) (byteCells_length s) hge (grownCap_le_maxLen w s.size 0 e hs) fun j hj => ?_
  have hj' : j < s.data.size := hj
  rw [bytesRow_at s _ j hj']
  unfold byteCells
  rw [List.getElem?_map, Array.getElem?_toList, Array.getElem?_eq_getElem hj']
  rfl
theorem CRow.of_own {base : Nat} {e : TypeId} (h : w.ownsRow base e 1 (.slice (some ⟨g, 0, none⟩) n cap) n cs) : CRow w g cap n cs := by
  obtain ⟨hl, ⟨h1, _⟩ | ⟨g', cap', cur, hv, hb, hg, hle, hmax, hsz, htake⟩⟩ := h
  · cases h1
  · injection hv with h1 _ h2
    injection h1 with h1
    injection h1 with h1
    subst h1 h2
    have hsz' : cur.size = cap := by omega
    have hc : ∀ j, w.cell? ⟨g, j, none⟩ = cur[j]? := fun j => cell_of_row w g j cur e (0, 0) hg
    refine ⟨(Array.getElem?_eq_some_iff.1 hg).1, by omega, hle, hmax, fun j hj => ?_, fun j hj => ⟨?_, ?_⟩⟩
    · rw [hc, ← htake, List.getElem?_take_of_lt (by omega), Array.getElem?_toList]
    · rw [hc, Array.getElem?_eq_getElem (by omega)]; rfl
    · unfold World.frozen?
      rw [hg]
      simp
theorem zc_size (z : Value) (hz : z.cells.size = 1) (k : Nat) : (Builtin.zeroCells z.cells k).size = k := by rw [size_zeroCells, hz]; omega
/-- append onto such a row. -/
theorem run_append_row {P : Program} (w : World) (t ty e : TypeId) (i : TypeInfo) (z : Value) (ht : P.underlying t = some (.slice e)) (hi : P.info? e = some i) (hz : i.zero = some z)
    (hsize : i.size = 1) (hby : i.bytes = 1) (hzs : z.cells.size = 1) (h : CRow w g cap n cs) {B : Nat} {A : Option Addr} {m c : Nat} {news : List Value} (hr : Reads w B 1 A m news) (h1 : ∀ u ∈ news, u.oneCell' = true) (h63 : n + m ≤ 281474976) :
    ∃ g' cap' w', (Builtin.append_ #[t, t] ty #[.slice (some ⟨g, 0, none⟩) n cap, .slice A m c]).run P w = .ok (.slice (some ⟨g', 0, none⟩) (n + m) cap') w' ∧ CRow w' g' cap' (n + m) (cs ++ news) ∧ w.grownBy w' (some g) ∧ (g' = g ∨ g' = w.heap.size) := by
  have hml : news.length = m := by have := hr.1; omega
  have hsrc : Src P i.size t (.slice A m c) m news w := by
    rw [hsize]
    rcases Nat.eq_zero_or_pos m with h0 | h0
    · subst h0
      have hn : news = [] := List.eq_nil_of_length_eq_zero hml
      subst hn
      rcases A with _ | ad
      · exact Src.ofNil w ht c
      · exact Src.ofSlice w ht ad 0 c [] rfl (fun j u hu => by simp at hu) (fun u hu => by simp at hu)
    · obtain ⟨ad, rfl, _, hc⟩ := hr.2 h0
      exact Src.ofSlice w ht ad m c news (by omega) hc h1
  by_cases hroom : n + m ≤ cap
  · have hrun := run_append_room_src (P := P) w t t ty e i ht hi g 0 n cap _ m news hsrc hroom (fun j hj => by rw [hsize]; have := (h.there (0 + n * 1 + j) (by omega)).1; exact this) (fun j hj => by rw [hsize]; exact (h.there (0 + n * 1 + j) (by omega)).2)
    rw [hsize] at hrun
    have e0 : 0 + n * 1 = n := by omega
    rw [e0] at hrun
    have hsz : (w.setCells g n news).heap.size = w.heap.size := by
      have : ∀ (vs : List Value) (o : Nat) (w : World), (w.setCells g o vs).heap.size = w.heap.size := by
        intro vs
        induction vs with
        | nil => intro o w; rfl
        | cons v r ih => intro o w; rw [World.setCells, ih]; simp [World.setCell]
      exact this _ _ _
    have htape : (w.setCells g n news).tape = w.tape := by
      have : ∀ (vs : List Value) (o : Nat) (w : World), (w.setCells g o vs).tape = w.tape := by
        intro vs
        induction vs with
        | nil => intro o w; rfl
        | cons v r ih => intro o w; rw [World.setCells, ih]; rfl
      exact this _ _ _
    refine ⟨g, cap, _, hrun, ⟨by rw [hsz]; exact h.lt, by rw [List.length_append, h.len, hml], hroom, h.max, fun j hj => ?_, fun j hj => ⟨?_, ?_⟩⟩, ⟨World.os_setCells _ _ _ _, htape, World.output_setCells _ _ _ _, by rw [hsz]; exact Nat.le_refl _, fun k hk hne => World.heap_setCells_other w g n news hk (fun e => hne (by rw [e]))⟩, .inl rfl⟩
    · by_cases hjn : j < n
      · rw [World.cell?_setCells_out g news n w ⟨g, j, none⟩ (fun _ _ => .inl hjn), h.cell j hjn, List.getElem?_append_left (by rw [h.len]; exact hjn)]
      · obtain ⟨k, rfl⟩ : ∃ k, j = n + k := ⟨j - n, by omega⟩
        rw [World.cell?_setCells_in g news n w (fun i hi => (h.there (n + i) (by omega)).1) k (by omega), List.getElem?_append_right (by rw [h.len]; omega), h.len, Nat.add_sub_cancel_left, List.getElem?_eq_getElem (by omega)]
    · by_cases hin : n ≤ j ∧ j < n + m
      · obtain ⟨k, rfl⟩ : ∃ k, j = n + k := ⟨j - n, by omega⟩
        rw [World.cell?_setCells_in g news n w (fun i hi => (h.there (n + i) (by omega)).1) k (by omega)]; rfl
      · rw [World.cell?_setCells_out g news n w ⟨g, j, none⟩ (fun _ _ => by show j < n ∨ n + news.length ≤ j; omega)]
        exact (h.there j hj).1
    · rw [World.frozen?_setCells]; exact (h.there j hj).2
  · have hold : (Builtin.firstCells i.size n (.slice (some ⟨g, 0, none⟩) n cap)).run P w.drew = .ok cs.toArray w.drew := by
      rw [hsize]
      refine run_firstCells_some w.drew 1 n ⟨g, 0, none⟩ n cap cs (by rw [h.len]; omega) fun j u hu => ?_
      have hj : j < n := by have := (List.getElem?_eq_some_iff.1 hu).1; rw [h.len] at this; exact this
      have hadd : (⟨g, 0, none⟩ : Addr).add j = ⟨g, j, none⟩ := by unfold Addr.add; split <;> simp_all
      rw [hadd]
      exact (h.cell j hj).trans hu
    have hfit : Builtin.nextslicecap (n + m) cap * i.bytes ≤ 281474976710656 := by
      rw [hby]
      have := nextslicecap_le (need := n + m) (old := cap) (by omega)
      omega
    have hrun := run_append_grow_src (P := P) w t t ty e i z ht hi hz (some ⟨g, 0, none⟩) n cap cs hold _ m news hsrc (by omega) (by omega) hfit
    have hge := grownCap_ge w (n + m) cap e
    have hb : ∀ O : Obj, w.grownBy (w.drew.alloc O) (some g) := fun O => by
      have hb : Below w.heap.size w (w.drew.alloc O) := ((Below.refl w.heap.size w).drew).alloc (Nat.le_refl _) O
      exact ⟨hb.os, hb.tape, hb.output, hb.size, fun k hk _ => hb.block k hk⟩
    refine ⟨w.heap.size, grownCap w (n + m) cap e, _, hrun, CRow.new w.drew _ e 0 0 (.inl (Nat.le_refl _)) ?_ (by rw [List.length_append, h.len, hml]) hge (grownCap_le_maxLen w (n + m) cap e (by unfold maxLen; omega)) (fun j hj => ?_), hb _, .inr rfl⟩
    · rw [Array.size_append, zc_size z hzs]
      simp [h.len, hml]
      omega
    · rw [Array.getElem?_append_left (by simp [h.len, hml]; omega)]
      simp
end
end Go.Proofs.YtbogagddjkghhaaDoor.B
