/-
  An argument that is a replica's state, opened. No statement is proved here.
-/
import Derived.Test.YtfdfjmibjnmhpaaRq
import Derived.Test.YtfdfjmibjnmhpaaLiftR
import Derived.Test.YtfdfjmibjnmhpaaLift3
set_option linter.unusedVariables false
set_option maxRecDepth 100000
namespace Go.Proofs.Ytfdfjmibjnmhpaa.V
open Go.RowKit Go.ChangeShapes Go.WideShapes Go.Deep Go.Proofs.Ytfdfjmibjnmhpaa.B

section
variable {H : Type} {enc : TypeId × Value → H} {w : World}
theorem open_heard {fuel : Nat} {cs : List Value} {x : DataW H × List MemPlace} (h : DataW.trod enc Try.prog w 0 (fun _ => true) true fuel 113 cs = some x) :
    ∃ (v : Int) (A : Option Addr) (c : Nat) (ps : List Pp), cs = [.int .i64 v, .slice A ps.length c] ∧ ps.length ≤ maxLen ∧ (∀ i, i < ps.length → (ps.getD i zP).r.vs.length ≤ maxLen) ∧ RdR w w.heap.size A ps := by
  obtain ⟨xs, n, _, _, hlen, _, _⟩ := DataW.trod_struct Try.underlying113 h
  rw [show Try.prog.cellsOf 113 = 2 by kernel_rfl] at hlen
  obtain ⟨k, hk⟩ := int_field Try.underlying113 h 0 _ rfl Try.underlying3 (by kernel_rfl)
  obtain ⟨n3, y3, h3⟩ := field_of Try.underlying113 h 1 _ rfl
  have h3 : DataW.trod enc Try.prog w 0 (fun _ => true) true n3 111 ((cs.drop 1).take (Try.prog.cellsOf 111)) = some y3 := h3
  have e3 : Try.prog.cellsOf 111 = 1 := by kernel_rfl
  rw [e3] at h3
  obtain ⟨A, c, ps, hcs, hm, hv, hr⟩ := open_reports h3
  match cs, hlen with
  | [c0, c1], _ =>
    simp at hk hcs
    exact ⟨k, A, c, ps, by rw [hk, hcs], hm, hv, hr⟩

theorem open_heards {fuel : Nat} {cs : List Value} {x : DataW H × List MemPlace} (h : DataW.trod enc Try.prog w 0 (fun _ => true) true fuel 28 cs = some x) :
    ∃ (A : Option Addr) (c : Nat) (hs : List Hp), cs = [.slice A hs.length c] ∧ Lens hs ∧ RdH w w.heap.size A hs := by
  rcases open_slice Try.underlying28 h with ⟨rfl, _⟩ | ⟨a, len, cap, m, n, D, Pl, rfl, _, hl, hm, hmm, _, hx⟩
  · exact ⟨none, 0, [], rfl, ⟨by simp [maxLen], fun i hi => absurd hi (by simp)⟩, RdH.nil_⟩
  · have hlm : len ≤ m := by rw [hmm]; simpa using hl
    have ce : Try.prog.cellsOf 113 = 2 := by kernel_rfl
    have each : ∀ i, i < len → ∃ q : Hp, (w.cell? (a.add (i * 2)) = some (.int .i64 q.v) ∧ w.cell? (a.add (i * 2 + 1)) = some (.slice q.A q.ps.length q.c)) ∧ (q.ps.length ≤ maxLen ∧ ∀ j, j < q.ps.length → (q.ps.getD j zP).r.vs.length ≤ maxLen) ∧ RdR w w.heap.size q.A q.ps := by
      intro i hi
      obtain ⟨cs', h1, h2⟩ := hx i (by omega)
      rw [ce] at h1
      obtain ⟨_, hlen, hcell⟩ := World.cells?_some h1
      obtain ⟨v, A', c', ps, rfl, hm', hv', hr'⟩ := open_heard h2
      have e0 := hcell 0 (by omega)
      have e1 := hcell 1 (by omega)
      rw [add_add] at e0 e1
      exact ⟨⟨v, ps, A', c'⟩, ⟨by simpa using e0, by simpa using e1⟩, ⟨hm', hv'⟩, hr'⟩
    obtain ⟨q, hq⟩ := choose_lt each
    have hg : ∀ i, i < len → ((List.range len).map q).getD i zH = q i := fun i hi => by simp [List.getD, hi]
    refine ⟨some a, cap, (List.range len).map q, by simp, ⟨by simp; omega, fun i hi => ?_⟩, fun hp => ?_⟩
    · have hi' : i < len := by simpa using hi
      rw [hg i hi']; exact (hq i hi').2.1
    · have hp' : 0 < len := by simpa using hp
      have hz0 := (hq 0 hp').1.1
      simp only [Nat.zero_mul] at hz0
      rw [show a.add 0 = a from rfl] at hz0
      obtain ⟨b, off, rfl⟩ := addr_none hz0
      refine ⟨b, off, rfl, World.block_lt_of_cell? w ⟨b, off, none⟩ hz0, fun i hi => ?_⟩
      have hi' : i < len := by simpa using hi
      rw [hg i hi']
      obtain ⟨⟨h0, h1⟩, h2, h3⟩ := hq i hi'
      rw [add_plain] at h0
      rw [add_plain] at h1
      exact ⟨⟨h0, by rw [Nat.add_assoc]; exact h1⟩, h3⟩

set_option maxHeartbeats 800000 in
theorem open_rep {fuel : Nat} {cs : List Value} {x : DataW H × List MemPlace} (h : DataW.trod enc Try.prog w 0 (fun _ => true) true fuel 30 cs = some x) :
    ∃ q : Rq, cs = q.cells.toList ∧ LensQ q ∧ RdQ w w.heap.size q := by
  obtain ⟨xs, n, _, _, hlen, _, _⟩ := DataW.trod_struct Try.underlying30 h
  rw [show Try.prog.cellsOf 30 = 14 by kernel_rfl] at hlen
  obtain ⟨k0, e0⟩ := int_field Try.underlying30 h 0 _ rfl Try.underlying3 (by kernel_rfl)
  obtain ⟨k1, e1⟩ := int_field Try.underlying30 h 1 _ rfl Try.underlying3 (by kernel_rfl)
  obtain ⟨k2, e2⟩ := int_field Try.underlying30 h 2 _ rfl Try.underlying3 (by kernel_rfl)
  obtain ⟨k3, e3⟩ := int_field Try.underlying30 h 3 _ rfl Try.underlying3 (by kernel_rfl)
  obtain ⟨k4, e4⟩ := int_field Try.underlying30 h 4 _ rfl Try.underlying3 (by kernel_rfl)
  obtain ⟨k7, e7⟩ := int_field Try.underlying30 h 7 _ rfl Try.underlying3 (by kernel_rfl)
  have t1 : Try.prog.cellsOf 22 = 1 := by kernel_rfl
  have t2 : Try.prog.cellsOf 24 = 2 := by kernel_rfl
  have t3 : Try.prog.cellsOf 27 = 1 := by kernel_rfl
  have t4 : Try.prog.cellsOf 28 = 1 := by kernel_rfl
  obtain ⟨n5, y5, h5⟩ := field_of Try.underlying30 h 5 _ rfl
  obtain ⟨n6, y6, h6⟩ := field_of Try.underlying30 h 6 _ rfl
  obtain ⟨n8, y8, h8⟩ := field_of Try.underlying30 h 8 _ rfl
  obtain ⟨n9, y9, h9⟩ := field_of Try.underlying30 h 9 _ rfl
  obtain ⟨n10, y10, h10⟩ := field_of Try.underlying30 h 10 _ rfl
  obtain ⟨n11, y11, h11⟩ := field_of Try.underlying30 h 11 _ rfl
  obtain ⟨n12, y12, h12⟩ := field_of Try.underlying30 h 12 _ rfl
  have h5 : DataW.trod enc Try.prog w 0 (fun _ => true) true n5 22 ((cs.drop 5).take (Try.prog.cellsOf 22)) = some y5 := h5
  have h6 : DataW.trod enc Try.prog w 0 (fun _ => true) true n6 24 ((cs.drop 6).take (Try.prog.cellsOf 24)) = some y6 := h6
  have h8 : DataW.trod enc Try.prog w 0 (fun _ => true) true n8 27 ((cs.drop 9).take (Try.prog.cellsOf 27)) = some y8 := h8
  have h9 : DataW.trod enc Try.prog w 0 (fun _ => true) true n9 27 ((cs.drop 10).take (Try.prog.cellsOf 27)) = some y9 := h9
  have h10 : DataW.trod enc Try.prog w 0 (fun _ => true) true n10 27 ((cs.drop 11).take (Try.prog.cellsOf 27)) = some y10 := h10
  have h11 : DataW.trod enc Try.prog w 0 (fun _ => true) true n11 27 ((cs.drop 12).take (Try.prog.cellsOf 27)) = some y11 := h11
  have h12 : DataW.trod enc Try.prog w 0 (fun _ => true) true n12 28 ((cs.drop 13).take (Try.prog.cellsOf 28)) = some y12 := h12
  rw [t1] at h5
  rw [t2] at h6
  rw [t3] at h8 h9 h10 h11
  rw [t4] at h12
  obtain ⟨Av, cv, vs, e5, m5, r5⟩ := open_pairs Try.underlying22 Try.underlying24 (by kernel_rfl) rfl rfl (by kernel_rfl) (by kernel_rfl) Try.underlying3 Try.underlying3 h5
  obtain ⟨a, b, e6⟩ := open_vote h6
  obtain ⟨Ap, cp, pr, e8, m8, r8⟩ := open_tally h8
  obtain ⟨Ao, co, vo, e9, m9, r9⟩ := open_tally h9
  obtain ⟨Ar, cr, re, e10, m10, r10⟩ := open_tally h10
  obtain ⟨Ad, cd, ds, e11, m11, r11⟩ := open_tally h11
  obtain ⟨Ah, ch, hs, e12, m12, r12⟩ := open_heards h12
  clear h h5 h6 h8 h9 h10 h11 h12 t1 t2 t3 t4
  match cs, hlen with
  | [c0, c1, c2, c3, c4, c5, c6, c7, c8, c9, c10, c11, c12, c13], _ =>
    simp at e0 e1 e2 e3 e4 e7 e5 e6 e8 e9 e10 e11 e12
    refine ⟨⟨k0, k1, k2, k3, k4, vs, a, b, k7, pr, vo, re, ds, hs, Av, Ap, Ao, Ar, Ad, Ah, cv, cp, co, cr, cd, ch⟩, ?_, ⟨m5, m8, m9, m10, m11, m12⟩, ⟨r5, r8, r9, r10, r11, r12⟩⟩
    simp [Rq.cells, e0, e1, e2, e3, e4, e7, e5, e6.1, e6.2, e8, e9, e10, e11, e12]
end
end Go.Proofs.Ytfdfjmibjnmhpaa.V
