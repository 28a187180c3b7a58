/-
  The draw of reports and one report more. No statement is proved here.
-/
import Derived.Test.YtcfjmhebhhekbaaDraws3
import Derived.Test.YtcfjmhebhhekbaaL3Own
set_option linter.unusedVariables false
set_option maxRecDepth 100000
namespace Go.Proofs.Ytcfjmhebhhekbaa.V
open Go.RowKit Go.Proofs.Ytcfjmhebhhekbaa.B

theorem VoM.set4 {w : World} {p : Pp} {o i : Nat} {u : Value} {cs : Array Value} (h : VoM w p) (hk : Blk w o 28 cs) : VoM (w.setCell ⟨o, i, none⟩ u) p :=
  h.grown (only_setI (World.grownBy.refl w (some o)) i u) (fun g e => by injection e with e; subst e; exact ⟨_, hk⟩) (by decide)
theorem VoM.dr {w : World} {p : Pp} (h : VoM w p) : VoM w.drew p := h
theorem own_dr {w : World} {b e s n : Nat} {v : Value} {xs : List Value} (h : w.ownsRow b e s v n xs) : w.drew.ownsRow b e s v n xs := h
/-- What is drawn: two numbers, reports, and one report more. -/
def ARes (w : World) (e : Ending) (w' : World) : Prop :=
  ∃ (n view : Int) (B : Option Addr) (d : Nat) (ps : List Pp) (f : Int) (A2 : Option Addr) (c2 : Nat) (vs : List (Int × Int)), e = .returned (.tuple #[.int .i64 n, .int .i64 view, .slice B ps.length d, .agg #[.int .i64 f, .int .i64 0, .int .i64 0, .slice A2 vs.length c2]]) ∧ Ok3 n view ps ∧ -1 ≤ f ∧ f ≤ 6 ∧ vs.length ≤ 10 ∧ RdR w' w'.heap.size B ps ∧ Rd w' w'.heap.size A2 vs ∧ Below w.heap.size w w'
/-- The end: the report is handed on through the box b. -/
theorem adds_end {w wr : World} {b lo : Nat} {B : Option Addr} {d : Nat} {qs : List Pp} {f : Int} {A2 : Option Addr} {c2 : Nat} {vs : List (Int × Int)} (hb : Below w.heap.size w wr) (hbw : w.heap.size ≤ b) (kz : Blk wr b 28 #[.int .i64 0, .int .i64 0, .int .i64 0, .slice none 0 0]) (hown : wr.ownsRow lo 28 4 (.slice B qs.length d) qs.length (pcells qs)) (hlo : b < lo) (hv : ∀ q ∈ qs, VoM wr q) (hm : VoM wr ⟨⟨f, 0, 0, vs⟩, A2, c2⟩) :
    RdR (((((wr.setCell ⟨b, 0, none⟩ (.int .i64 f)).setCell ⟨b, 1, none⟩ (.int .i64 0)).setCell ⟨b, 2, none⟩ (.int .i64 0)).setCell ⟨b, 3, none⟩ (.slice A2 vs.length c2)).drew) (((((wr.setCell ⟨b, 0, none⟩ (.int .i64 f)).setCell ⟨b, 1, none⟩ (.int .i64 0)).setCell ⟨b, 2, none⟩ (.int .i64 0)).setCell ⟨b, 3, none⟩ (.slice A2 vs.length c2)).drew).heap.size B qs ∧
    Rd (((((wr.setCell ⟨b, 0, none⟩ (.int .i64 f)).setCell ⟨b, 1, none⟩ (.int .i64 0)).setCell ⟨b, 2, none⟩ (.int .i64 0)).setCell ⟨b, 3, none⟩ (.slice A2 vs.length c2)).drew) (((((wr.setCell ⟨b, 0, none⟩ (.int .i64 f)).setCell ⟨b, 1, none⟩ (.int .i64 0)).setCell ⟨b, 2, none⟩ (.int .i64 0)).setCell ⟨b, 3, none⟩ (.slice A2 vs.length c2)).drew).heap.size A2 vs ∧
    Below w.heap.size w ((((wr.setCell ⟨b, 0, none⟩ (.int .i64 f)).setCell ⟨b, 1, none⟩ (.int .i64 0)).setCell ⟨b, 2, none⟩ (.int .i64 0)).setCell ⟨b, 3, none⟩ (.slice A2 vs.length c2)).drew := by
  have hne : (Value.slice B qs.length d).ownBlock ≠ some b := ne_lowN hown hlo
  have k1 := kz.set_ 0 (.int .i64 f)
  have k2 := k1.set_ 1 (.int .i64 0)
  have k3 := k2.set_ 2 (.int .i64 0)
  have ho := own_farN (i := 3) (u := .slice A2 vs.length c2) (own_farN (i := 2) (u := .int .i64 0) (own_farN (i := 1) (u := .int .i64 0) (own_farN (i := 0) (u := .int .i64 f) hown hne) hne) hne) hne
  have hvv : ∀ q, VoM wr q → VoM (((((wr.setCell ⟨b, 0, none⟩ (.int .i64 f)).setCell ⟨b, 1, none⟩ (.int .i64 0)).setCell ⟨b, 2, none⟩ (.int .i64 0)).setCell ⟨b, 3, none⟩ (.slice A2 vs.length c2))) q := fun q h => (((h.set4 kz).set4 k1).set4 k2).set4 k3
  refine ⟨(RdT.of_own (own_dr ho) (fun q hq => (hvv q (hv q hq)).dr)).rd, (hvv _ hm).dr.rd, ?_⟩
  exact ((((hb.setCell hbw _).setCell hbw _).setCell hbw _).setCell hbw _).drew
set_option maxHeartbeats 1600000 in
theorem drawAdd_any (A : Option Addr) (n c : Nat) (hm : n ≤ maxLen) (w : World) (hr : RdC w w.heap.size A n) :
    Calls Try.prog 8 #[.slice A n c] w (ARes w) := by
  have kz0 := Blk.new w 28 #[.int .i64 0, .int .i64 0, .int .i64 0, .slice none 0 0]
  have hb0 : Below w.heap.size w (w.alloc (.cells #[.int .i64 0, .int .i64 0, .int .i64 0, .slice none 0 0] 28)) := up_ (Below.refl _ _) _
  have hr0 : RdC (w.alloc (.cells #[.int .i64 0, .int .i64 0, .int .i64 0, .slice none 0 0] 28)) (w.alloc (.cells #[.int .i64 0, .int .i64 0, .int .i64 0, .slice none 0 0] 28)).heap.size A n := (hr.below hb0).more hb0.size
  clear hr
  go_enter Try.func8, Try.ntmps8
  go_wp2_with fail
  refine (new_any A n c hm _ hr0).mono ?_
  rintro e w1 ⟨p, rfl, hc1, hb1⟩
  have hp1 := cur_lt hc1
  have hz1 := hb1.size
  have kz1 := kz0.on hb1
  have hB1 := on_ hb0 hb1
  have hw1 : w.heap.size < w1.heap.size := kz1.lt
  have hwp : w.heap.size < p := by have := hp1.2; simp at this; omega
  clear hr0 kz0 hb0 hb1
  go_wp2_with fail
  refine (l3bent_any _ p w1 hz1 hc1).mono ?_
  rintro e w2 ⟨m, view, B, d, qs, rfl, hm1, hm2, hv1, hv2, hS2⟩
  go_wp2_with fail
  refine (below_i _ p 8 (by omega) (by omega) _ hS2.cu).mono ?_
  rintro e w3 ⟨x, hx, rfl, hc3, hg3⟩
  have hS3 := hS2.cur hc3 hg3
  clear hS2 hg3 hc3
  obtain ⟨f, hf⟩ : ∃ f : Int, (x : Int) - 1 = f := ⟨_, rfl⟩
  have hW : IntKind.i64.wrap ((x : Int) - 1) = f := by rw [← hf]; exact IntWalk.i64_in _ (by omega)
  have hf1 : -1 ≤ f := by omega
  have hf2 : f ≤ 6 := by omega
  have hS4 := hS3.al (.cells #[.int .i64 f, .int .i64 0, .int .i64 0, .slice none 0 0] 28)
  have kb4 := Blk.new w3 28 #[.int .i64 f, .int .i64 0, .int .i64 0, .slice none 0 0]
  have hno : (Value.slice B qs.length d).ownBlock ≠ some w3.heap.size := fun e => by have := (hS3.own.lt _ e).2; omega
  have kz3 : Blk w3 w.heap.size 28 #[.int .i64 0, .int .i64 0, .int .i64 0, .slice none 0 0] := keepK kz1 hS3.gr (fun e => by injection e with e; omega)
  have kz4 := kz3.alloc (.cells #[.int .i64 f, .int .i64 0, .int .i64 0, .slice none 0 0] 28)
  have hpw3 : p < w3.heap.size := (cur_lt hS3.cu).1
  have hz3 : w.heap.size < w3.heap.size := kz3.lt
  clear hS3 kz3 hf
  have r4 := kb4.rule
  have z4 := kz4.rule
  have fz4 := fun i => kz4.frozen i
  by_cases hvw : 1 ≤ view ∧ view ≤ 9
  · obtain ⟨hva, hvb⟩ := hvw
    obtain ⟨vn, rfl⟩ : ∃ vn : Nat, view = vn := ⟨view.toNat, by omega⟩
    have d1 : decide ((1 : Int) ≤ (vn : Int)) = true := decide_eq_true hva
    have d2 : decide ((vn : Int) ≤ 9) = true := decide_eq_true hvb
    go_wp2_with fail
    refine (votes_any _ p vn (by omega) _ (by have := hS4.bd; have := hS4.gr.size; omega) hS4.cu).mono ?_
    rintro e w5 ⟨v5, vs, rfl, hown5, hvl, hc5, hg5⟩
    have hS5 := hS4.cur hc5 hg5
    obtain ⟨A2, c2, rfl, hcap2⟩ := formA hown5
    have kb5 := keepK kb4 hg5 (fun e => by injection e with e; omega)
    have kz5 := keepK kz4 hg5 (fun e => by injection e with e; omega)
    have hvm5 : VoM w5 ⟨⟨f, 0, 0, vs⟩, A2, c2⟩ := (own_votes hown5).imp id fun ⟨g, cs, h1, _, h2, h3, _⟩ => ⟨g, cs, h1, h2, h3⟩
    have r5 := kb5.rule
    have f5 := fun i => kb5.frozen i
    clear r4 z4 fz4
    go_wp2_with fail
    have kb6 : Blk (w5.setCell ⟨w3.heap.size, 3, none⟩ (.slice A2 vs.length c2)) w3.heap.size 28 #[.int .i64 f, .int .i64 0, .int .i64 0, .slice A2 vs.length c2] := kb5.set_ 3 _
    have kz6 : Blk (w5.setCell ⟨w3.heap.size, 3, none⟩ (.slice A2 vs.length c2)) w.heap.size 28 #[.int .i64 0, .int .i64 0, .int .i64 0, .slice none 0 0] := kz5.far (by show w.heap.size ≠ w3.heap.size; omega) _
    have hown6 := own_farN (i := 3) (u := .slice A2 vs.length c2) hS5.own hno
    have hvm6 : ∀ q ∈ qs, VoM (w5.setCell ⟨w3.heap.size, 3, none⟩ (.slice A2 vs.length c2)) q := fun q hq => (hS5.vm q hq).set4 kb5
    have hvr6 := hvm5.set4 (i := 3) (u := .slice A2 vs.length c2) kb5
    have hB6 : Below w.heap.size w (w5.setCell ⟨w3.heap.size, 3, none⟩ (.slice A2 vs.length c2)) := (hS5.end_ hB1 (by omega)).2.setCell (by show w.heap.size ≤ w3.heap.size; omega) _
    have hok : Ok3 m (vn : Int) qs := ⟨hm1, hm2, hv1, hv2, hS5.len, hS5.sm⟩
    have hlo : w.heap.size < w1.heap.size := hw1
    clear hS4 hS5 kb4 kb5 kz4 kz5 hvm5 r5 f5 hown5 hc5 hg5 hcap2 kz1 hB1
    generalize w5.setCell ⟨w3.heap.size, 3, none⟩ (.slice A2 vs.length c2) = w6 at *
    have r6 := kb6.rule
    have e0 := r6 0; have e1 := r6 1; have e2 := r6 2; have e3 := r6 3
    have z6 := kz6.rule
    have g6 := fun i => kz6.frozen i
    have rz9 := ((((kz6.set_ 0 (.int .i64 f)).set_ 1 (.int .i64 0)).set_ 2 (.int .i64 0)).set_ 3 (.slice A2 vs.length c2)).dr.rule
    have HEND := Lib.hid (adds_end hB6 (Nat.le_refl _) kz6 hown6 hlo hvm6 hvr6)
    clear hB6 hown6 hvm6 hvr6 kz6 kb6
    go_region
    all_goals
      go_wp2
      refine bodyPost_ret (v := .tuple #[.int .i64 m, .int .i64 vn, .slice B qs.length d, .agg #[.int .i64 f, .int .i64 0, .int .i64 0, .slice A2 vs.length c2]]) (by simp [results, Try.results8, go_sem, rz9]) rfl ?_
      exact ⟨m, vn, B, d, qs, f, A2, c2, vs, rfl, hok, hf1, hf2, by omega, HEND.out.1, HEND.out.2.1, HEND.out.2.2⟩
  · have hvm5 : VoM (w3.alloc (.cells #[.int .i64 f, .int .i64 0, .int .i64 0, .slice none 0 0] 28)) ⟨⟨f, 0, 0, []⟩, none, 0⟩ := .inl rfl
    have hB6 := (hS4.end_ hB1 (by omega)).2
    have hok : Ok3 m view qs := ⟨hm1, hm2, hv1, hv2, hS4.len, hS4.sm⟩
    have hown6 := hS4.own
    have hvm6 := hS4.vm
    have hlo : w.heap.size < w1.heap.size := hw1
    clear hS4 kz1 hB1 fz4 r4 z4
    have dd : decide ((1 : Int) ≤ view) = false ∨ (decide ((1 : Int) ≤ view) = true ∧ decide (view ≤ 9) = false) := by
      by_cases h1 : 1 ≤ view
      · exact .inr ⟨decide_eq_true h1, decide_eq_false (by omega)⟩
      · exact .inl (decide_eq_false h1)
    clear hvw
    obtain ⟨w6, hw6⟩ : ∃ w6, w3.alloc (.cells #[.int .i64 f, .int .i64 0, .int .i64 0, .slice none 0 0] 28) = w6 := ⟨_, rfl⟩
    rw [hw6] at kb4 kz4 hvm5 hB6 hown6 hvm6
    have HW6 := Lib.hid hw6
    clear hw6
    have r6 := kb4.rule
    have e0 := r6 0; have e1 := r6 1; have e2 := r6 2; have e3 := r6 3
    have z6 := kz4.rule
    have g6 := fun i => kz4.frozen i
    have rz9 := ((((kz4.set_ 0 (.int .i64 f)).set_ 1 (.int .i64 0)).set_ 2 (.int .i64 0)).set_ 3 (.slice none 0 0)).dr.rule
    have HEND := Lib.hid (adds_end hB6 (Nat.le_refl _) kz4 hown6 hlo hvm6 hvm5)
    clear hB6 hown6 hvm6 hvm5 kz4 kb4
    rcases dd with d1 | ⟨d1, d2⟩
    all_goals
      go_wp2_with fail
      rw [HW6.out]
      go_region
      all_goals
        go_wp2
        refine bodyPost_ret (v := .tuple #[.int .i64 m, .int .i64 view, .slice B qs.length d, .agg #[.int .i64 f, .int .i64 0, .int .i64 0, .slice none 0 0]]) (by simp [results, Try.results8, go_sem, rz9]) rfl ?_
        exact ⟨m, view, B, d, qs, f, none, 0, [], rfl, hok, hf1, hf2, by simp, HEND.out.1, HEND.out.2.1, HEND.out.2.2⟩
end Go.Proofs.Ytcfjmhebhhekbaa.V
