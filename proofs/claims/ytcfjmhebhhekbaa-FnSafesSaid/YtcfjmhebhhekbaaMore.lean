/-
  The law's helper that puts two bytes ahead: its contract. No statement is proved here.
-/
import Derived.Test.YtcfjmhebhhekbaaCode
import Derived.Test.YtcfjmhebhhekbaaReads
set_option linter.unusedVariables false
set_option maxRecDepth 100000
namespace Go.Proofs.Ytcfjmhebhhekbaa.V
open Go.RowKit Go.ChangeShapes Go.WideShapes Go.Deep Go.Proofs.Ytcfjmhebhhekbaa.B

theorem infoU8 : (Try.prog.info? 5).map (fun i => (i.zero, i.size, i.bytes)) = some (some (.int .u8 0), 1, 1) := by kernel_rfl
theorem code_reads {w : World} {Bd n : Nat} {A : Option Addr} (h : RdC w Bd A n) : ∃ xs : List Int, xs.length = n ∧ (∀ x ∈ xs, 0 ≤ x ∧ x ≤ 255) ∧ Reads w Bd 1 A n (xs.map (Value.int .u8)) := by
  by_cases h0 : n = 0
  · subst h0
    exact ⟨[], rfl, by simp, by simpa using Reads.none_⟩
  · obtain ⟨b, off, rfl, hb, hc⟩ := h (by omega)
    obtain ⟨f, hf⟩ := choose_lt hc
    refine ⟨(List.range n).map f, by simp, fun x hx => ?_, by simp, fun _ => ⟨_, rfl, hb, fun j u hj => ?_⟩⟩
    · obtain ⟨i, hi, rfl⟩ := List.mem_map.1 hx
      have := hf i (List.mem_range.1 hi)
      exact ⟨this.1, this.2.1⟩
    · have hjn : j < n := by
        have := (List.getElem?_eq_some_iff.1 hj).1
        simpa using this
      simp [hjn] at hj
      rw [← hj, add_plain]
      exact (hf j hjn).2.2
theorem code_own {w : World} {base n c : Nat} {A : Option Addr} {xs : List Int} (h : w.ownsRow base 5 1 (.slice A n c) n (xs.map (Value.int .u8))) (hx : ∀ x ∈ xs, 0 ≤ x ∧ x ≤ 255) : RdC w w.heap.size A n := fun h0 => by
  obtain ⟨hl, h⟩ := h
  rcases h with ⟨h1, h2⟩ | ⟨g, cap, cur, h1, h2, h3, h4, h5, h6, h7⟩
  · omega
  · injection h1 with h1
    have hk : Blk w g 5 cur := h3
    refine ⟨g, 0, h1, hk.lt, fun j hj => ?_⟩
    have hxl : xs.length = n := by simpa using hl
    refine ⟨xs.getD j 0, (hx _ ?_).1, (hx _ ?_).2, ?_⟩
    · rw [List.getD_eq_getElem?_getD, List.getElem?_eq_getElem (by omega)]; exact List.getElem_mem _
    · rw [List.getD_eq_getElem?_getD, List.getElem?_eq_getElem (by omega)]; exact List.getElem_mem _
    · rw [Nat.zero_add, hk.cell]
      have : (cur.toList.take (n * 1))[j]? = cur[j]? := by rw [List.getElem?_take_of_lt (by omega)]; simp
      rw [← this, h7, List.getElem?_map, List.getD_eq_getElem?_getD, List.getElem?_eq_getElem (by omega)]
      rfl
theorem lit2 (w : World) (a b : Int) : (w.alloc (.cells #[.int .u8 a, .int .u8 b] 5)).ownsRow w.heap.size 5 1 (.slice (some ⟨w.heap.size, 0, none⟩) 2 2) 2 [.int .u8 a, .int .u8 b] :=
  ⟨by simp, .inr ⟨w.heap.size, 2, #[.int .u8 a, .int .u8 b], rfl, Nat.le_refl _, heap_alloc_new w _, Nat.le_refl _, by decide, by simp, by simp⟩⟩
set_option maxHeartbeats 800000 in
theorem more_any (A : Option Addr) (n c : Nat) (hm : n + 2 ≤ 140737488355328) (w : World) (hr : RdC w w.heap.size A n) :
    Calls Try.prog 19 #[.slice A n c, .int .i64 1] w fun e w' => ∃ B d, e = .returned (.slice B (n + 2) d) ∧ RdC w' w'.heap.size B (n + 2) ∧ Below w.heap.size w w' := by
  obtain ⟨i0, hi0, hz0, hz1, hz2⟩ := info_parts infoU8
  obtain ⟨xs, hxl, hx, hrd⟩ := code_reads hr
  have hB1 : Below w.heap.size w (w.alloc (.cells #[.int .u8 1, .int .u8 7] 5)) := (Below.refl _ _).alloc (Nat.le_refl _) _
  have HL := Lib.hid (lit2 w 1 7)
  have HRD := Lib.hid (hrd.alloc (Nat.le_refl _) (.cells #[.int .u8 1, .int .u8 7] 5))
  have hone : ∀ u ∈ xs.map (Value.int .u8), u.oneCell' = true := fun u hu => by
    obtain ⟨x, _, rfl⟩ := List.mem_map.1 hu
    rfl
  have HON := Lib.hid hone
  clear hr hrd hone
  go_enter Try.func19, Try.ntmps19
  go_wp2_with (at_builtin; go_loud (refine wpList_append_any _ rfl (.tmp 10) (.tmp 11) 22 rfl w.heap.size 5 i0 _ 1 1 Try.underlying22 hi0 hz0 hz1 hz2 rfl (by omega) (.slice (some ⟨w.heap.size, 0, none⟩) 2 2) 2 [.int .u8 1, .int .u8 7] rfl HL.out w.heap.size A n c (xs.map (Value.int .u8)) rfl HRD.out HON.out (by simp only [maxLen]; omega) (by omega) (by simp) ?_); intro v3 w3 hown3 hgr3 hat3)
  obtain ⟨hl3, hsh⟩ := id hown3
  obtain ⟨B, d, rfl⟩ : ∃ B d, v3 = .slice B (2 + n) d := by
    rcases hsh with ⟨h1, h2⟩ | ⟨g, cap, cur, h1, _⟩
    · omega
    · exact ⟨_, _, h1⟩
  have hB3 : Below w.heap.size w w3 := hB1.grown hgr3 (by simp) (fun j hj => by simp [Value.ownBlock] at hj; omega)
  have hrc : RdC w3 w3.heap.size B (2 + n) := code_own (xs := [1, 7] ++ xs) (by simpa using hown3) (fun x hx' => by
    rcases List.mem_append.1 hx' with h | h
    · simp at h; rcases h with rfl | rfl <;> omega
    · exact hx x h)
  refine bodyPost_ret (v := .slice B (2 + n) d) (by simp [results, Try.results19, go_sem]) rfl ?_
  rw [Nat.add_comm] at hrc
  exact ⟨B, d, by rw [Nat.add_comm], hrc, hB3⟩
end Go.Proofs.Ytcfjmhebhhekbaa.V
