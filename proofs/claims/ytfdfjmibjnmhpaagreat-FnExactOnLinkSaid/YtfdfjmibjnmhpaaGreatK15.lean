/-
  From a walk of a law ('it returns true, and what was there is as it was') to the statement's own form: the arguments' reading behind the call, the frame, the result. Generic; no statement is proved here. An argument that is a report, or a slice of reports, opened. An argument that is a tally, or a ballot, opened. An argument that is a replica's state, opened. No statement is proved here.
-/
import Derived.Test.YtfdfjmibjnmhpaaGreatK08
import Derived.Test.YtfdfjmibjnmhpaaGreatK01
import Derived.Carry
import Derived.ChangeSame
import Derived.Deep.SlicePairs
import Derived.Test.YtfdfjmibjnmhpaaGreatChecked
import Derived.Deep.Slices
import Derived.Test.YtfdfjmibjnmhpaaGreatK03
set_option linter.unusedVariables false
set_option maxRecDepth 100000
namespace Go.Proofs.YtfdfjmibjnmhpaaGreat.B
open Go.RowKit Go.ChangeShapes Go.WideShapes Go.Deep

section
variable {H : Type} {enc : TypeId × Value → H} {P : Program}

end

section
variable {H : Type} {enc : TypeId × Value → H} {P : Program} {w : World}

end
end Go.Proofs.YtfdfjmibjnmhpaaGreat.B

namespace Go.Proofs.YtfdfjmibjnmhpaaGreat.B
open Go.RowKit Go.ChangeShapes Go.WideShapes Go.Deep

section
variable {H : Type} {enc : TypeId × Value → H} {P : Program} {w : World} {base : Nat} {spare : Nat → Bool} {held : Bool}
end

section
variable {H : Type} {enc : TypeId × Value → H} {P : Program} {w : World} {base : Nat} {spare : Nat → Bool} {held : Bool}
theorem trodAll_five {t t' t'' t3 t4 : TypeId} {args : Array Value} {ds : List (DataW H)} {ps : List MemPlace} (h : DataW.TrodAll enc P w base spare held [t, t', t'', t3, t4] args.toList ds ps) :
    ∃ v v' v'' v3 v4 d d' d'' d3 d4 p p' p'' p3 p4, args = #[v, v', v'', v3, v4] ∧ ds = [d, d', d'', d3, d4] ∧ ps = p ++ p' ++ p'' ++ p3 ++ p4 ∧ DataW.Trod enc P w base spare held t v d p ∧ DataW.Trod enc P w base spare held t' v' d' p' ∧ DataW.Trod enc P w base spare held t'' v'' d'' p'' ∧ DataW.Trod enc P w base spare held t3 v3 d3 p3 ∧ DataW.Trod enc P w base spare held t4 v4 d4 p4 := by
  obtain ⟨v, vs, d, ds', p, q, hargs, rfl, rfl, hd, hrest⟩ := trodAll_cons h
  obtain ⟨v', vs', d', ds'', p', q', rfl, rfl, rfl, hd', hrest'⟩ := trodAll_cons hrest
  obtain ⟨v'', vs'', d'', ds''', p'', q'', rfl, rfl, rfl, hd'', hrest''⟩ := trodAll_cons hrest'
  obtain ⟨v3, vs3, d3, ds3, p3, q3, rfl, rfl, rfl, hd3, hrest3⟩ := trodAll_cons hrest''
  obtain ⟨v4, vs4, d4, ds4, p4, q4, rfl, rfl, rfl, hd4, hrest4⟩ := trodAll_cons hrest3
  obtain ⟨rfl, rfl, rfl⟩ := trodAll_nil hrest4
  exact ⟨v, v', v'', v3, v4, d, d', d'', d3, d4, p, p', p'', p3, p4, by cases args; simp_all, rfl, by simp, hd, hd', hd'', hd3, hd4⟩
end

section
variable {H : Type} {enc : TypeId × Value → H} {w : World}
theorem open_report {fuel : Nat} {cs : List Value} {x : DataW H × List MemPlace} (h : DataW.trod enc Tryz.prog w 0 (fun _ => true) true fuel 164 cs = some x) :
    ∃ (f a b : Int) (A : Option Addr) (c : Nat) (vs : List (Int × Int)), cs = [.int .i64 f, .int .i64 a, .int .i64 b, .slice A vs.length c] ∧ vs.length ≤ maxLen ∧ Rd w w.heap.size A vs := by
  obtain ⟨xs, n, _, _, hlen, _, _⟩ := DataW.trod_struct Tryz.underlying164 h
  rw [show Tryz.prog.cellsOf 164 = 4 by kernel_rfl] at hlen
  obtain ⟨k, hk⟩ := int_field Tryz.underlying164 h 0 _ rfl Tryz.underlying3 (by kernel_rfl)
  obtain ⟨n3, y3, h3⟩ := field_of Tryz.underlying164 h 1 _ rfl
  obtain ⟨n4, y4, h4⟩ := field_of Tryz.underlying164 h 2 _ rfl
  have h3 : DataW.trod enc Tryz.prog w 0 (fun _ => true) true n3 78 ((cs.drop 1).take (Tryz.prog.cellsOf 78)) = some y3 := h3
  have h4 : DataW.trod enc Tryz.prog w 0 (fun _ => true) true n4 77 ((cs.drop 3).take (Tryz.prog.cellsOf 77)) = some y4 := h4
  have e3 : Tryz.prog.cellsOf 78 = 2 := by kernel_rfl
  have e4 : Tryz.prog.cellsOf 77 = 1 := by kernel_rfl
  rw [e3] at h3
  rw [e4] at h4
  obtain ⟨a, b, hab⟩ := open_vote h3
  obtain ⟨A, c, vs, hcs, hm, hr⟩ := open_pairs Tryz.underlying77 Tryz.underlying78 (by kernel_rfl) rfl rfl (by kernel_rfl) (by kernel_rfl) Tryz.underlying3 Tryz.underlying3 h4
  match cs, hlen with
  | [c0, c1, c2, c3], _ =>
    simp at hk hab hcs
    exact ⟨k, a, b, A, c, vs, by rw [hk, hab.1, hab.2, hcs], hm, hr⟩

theorem open_reports {fuel : Nat} {cs : List Value} {x : DataW H × List MemPlace} (h : DataW.trod enc Tryz.prog w 0 (fun _ => true) true fuel 128 cs = some x) :
    ∃ (A : Option Addr) (c : Nat) (ps : List Pp), cs = [.slice A ps.length c] ∧ ps.length ≤ maxLen ∧ (∀ i, i < ps.length → (ps.getD i zP).r.vs.length ≤ maxLen) ∧ RdR w w.heap.size A ps := by
  rcases open_slice Tryz.underlying128 h with ⟨rfl, _⟩ | ⟨a, len, cap, m, n, D, Pl, rfl, _, hl, hm, hmm, _, hx⟩
  · exact ⟨none, 0, [], rfl, by simp [maxLen], fun i hi => absurd hi (by simp), RdR.nil_⟩
  · have hlm : len ≤ m := by rw [hmm]; simpa using hl
    have ce : Tryz.prog.cellsOf 164 = 4 := by kernel_rfl
    have each : ∀ i, i < len → ∃ q : Pp, four (fun j => w.cell? (a.add (i * 4 + j))) q ∧ q.r.vs.length ≤ maxLen ∧ Rd w w.heap.size q.A q.r.vs := by
      intro i hi
      obtain ⟨cs', h1, h2⟩ := hx i (by omega)
      rw [ce] at h1
      obtain ⟨_, hlen, hcell⟩ := World.cells?_some h1
      obtain ⟨f, va, vb, A', c', vs', rfl, hm', hr'⟩ := open_report h2
      have e0 := hcell 0 (by omega)
      have e1 := hcell 1 (by omega)
      have e2 := hcell 2 (by omega)
      have e3 := hcell 3 (by omega)
      rw [add_add] at e0 e1 e2 e3
      exact ⟨⟨⟨f, va, vb, vs'⟩, A', c'⟩, ⟨by simpa using e0, by simpa using e1, by simpa using e2, by simpa using e3⟩, hm', hr'⟩
    obtain ⟨q, hq⟩ := choose_lt each
    have hg : ∀ i, i < len → ((List.range len).map q).getD i zP = q i := fun i hi => by simp [List.getD, hi]
    refine ⟨some a, cap, (List.range len).map q, by simp, by simp; omega, fun i hi => ?_, fun hp => ?_⟩
    · have hi' : i < len := by simpa using hi
      rw [hg i hi']; exact (hq i hi').2.1
    · have hp' : 0 < len := by simpa using hp
      have hz0 := (hq 0 hp').1.1
      simp only [Nat.zero_mul, Nat.add_zero] at hz0
      rw [show a.add 0 = a from rfl] at hz0
      obtain ⟨b, off, rfl⟩ := addr_none hz0
      refine ⟨b, off, rfl, World.block_lt_of_cell? w ⟨b, off, none⟩ hz0, fun i hi => ?_⟩
      have hi' : i < len := by simpa using hi
      rw [hg i hi']
      obtain ⟨h0, h1, h2⟩ := hq i hi'
      refine ⟨?_, h2⟩
      unfold four at *
      simp only [add_plain] at h0
      simp only [Nat.add_assoc]
      exact h0
end
end Go.Proofs.YtfdfjmibjnmhpaaGreat.B

namespace Go.Proofs.YtfdfjmibjnmhpaaGreat.B
open Go.RowKit Go.ChangeShapes Go.WideShapes Go.Deep

section
variable {H : Type} {enc : TypeId × Value → H} {P : Program} {w : World}
theorem three_ints {e : TypeId} {f0 f1 f2 : Field} {fuel : Nat} {cs : List Value} {x : DataW H × List MemPlace} (he : P.underlying e = some (.struct #[f0, f1, f2])) (hl : cs.length = 3)
    (o0 : f0.offset = 0) (o1 : f1.offset = 1) (o2 : f2.offset = 2) (c0 : P.cellsOf f0.type = 1) (c1 : P.cellsOf f1.type = 1) (c2 : P.cellsOf f2.type = 1) (k0 : P.underlying f0.type = some (.int .i64)) (k1 : P.underlying f1.type = some (.int .i64)) (k2 : P.underlying f2.type = some (.int .i64))
    (h : DataW.trod enc P w 0 (fun _ => true) true fuel e cs = some x) : ∃ a b c : Int, cs = [.int .i64 a, .int .i64 b, .int .i64 c] := by
  obtain ⟨xs, k, hk, hxy, _, hxl, hf⟩ := DataW.trod_struct he h
  match xs, hxl, cs, hl with
  | [y0, y1, y2], _, [v0, v1, v2], _ =>
    have g0 := hf 0 f0 rfl
    have g1 := hf 1 f1 rfl
    have g2 := hf 2 f2 rfl
    simp [o0, o1, o2, c0, c1, c2] at g0 g1 g2
    obtain ⟨n0, e0, _, _⟩ := DataW.trod_int k0 g0
    obtain ⟨n1, e1, _, _⟩ := DataW.trod_int k1 g1
    obtain ⟨n2, e2, _, _⟩ := DataW.trod_int k2 g2
    simp only [List.cons.injEq, and_true] at e0 e1 e2
    exact ⟨n0, n1, n2, by rw [e0, e1, e2]⟩

theorem open_triples {t e : TypeId} {f0 f1 f2 : Field} {fuel : Nat} {cs : List Value} {x : DataW H × List MemPlace} (ht : P.underlying t = some (.slice e)) (he : P.underlying e = some (.struct #[f0, f1, f2]))
    (ce : P.cellsOf e = 3) (o0 : f0.offset = 0) (o1 : f1.offset = 1) (o2 : f2.offset = 2) (c0 : P.cellsOf f0.type = 1) (c1 : P.cellsOf f1.type = 1) (c2 : P.cellsOf f2.type = 1) (k0 : P.underlying f0.type = some (.int .i64)) (k1 : P.underlying f1.type = some (.int .i64)) (k2 : P.underlying f2.type = some (.int .i64))
    (h : DataW.trod enc P w 0 (fun _ => true) true fuel t cs = some x) :
    ∃ (A : Option Addr) (c : Nat) (vs : List B3), cs = [.slice A vs.length c] ∧ vs.length ≤ maxLen ∧ Rd3 w w.heap.size A vs := by
  rcases open_slice ht h with ⟨rfl, _⟩ | ⟨a, len, cap, m, n, D, Pl, rfl, _, hl, hm, hmm, _, hx⟩
  · exact ⟨none, 0, [], rfl, by simp [maxLen], Rd3.nil_⟩
  · have hlm : len ≤ m := by rw [hmm]; simpa using hl
    have each : ∀ i, i < len → ∃ q : B3, w.cell? (a.add (i * 3)) = some (.int .i64 q.1) ∧ w.cell? (a.add (i * 3 + 1)) = some (.int .i64 q.2.1) ∧ w.cell? (a.add (i * 3 + 2)) = some (.int .i64 q.2.2) := by
      intro i hi
      obtain ⟨cs', h1, h2⟩ := hx i (by omega)
      rw [ce] at h1
      obtain ⟨_, hlen, hcell⟩ := World.cells?_some h1
      obtain ⟨n0, n1, n2, rfl⟩ := three_ints he hlen o0 o1 o2 c0 c1 c2 k0 k1 k2 h2
      have e0 := hcell 0 (by omega)
      have e1 := hcell 1 (by omega)
      have e2 := hcell 2 (by omega)
      rw [add_add] at e0 e1 e2
      exact ⟨(n0, n1, n2), by simpa using e0, by simpa using e1, by simpa using e2⟩
    obtain ⟨q, hq⟩ := choose_lt each
    refine ⟨some a, cap, (List.range len).map q, by simp, by simp; omega, fun hp => ?_⟩
    have hp' : 0 < len := by simpa using hp
    have hz0 := (hq 0 hp').1
    rw [Nat.zero_mul, show a.add 0 = a from rfl] at hz0
    obtain ⟨b, off, rfl⟩ := addr_none hz0
    refine ⟨b, off, rfl, World.block_lt_of_cell? w ⟨b, off, none⟩ hz0, fun i hi => ?_⟩
    have hi' : i < len := by simpa using hi
    have hg : ((List.range len).map q).getD i z3 = q i := by simp [List.getD, hi']
    rw [hg]
    obtain ⟨h0, h1, h2⟩ := hq i hi'
    rw [add_plain] at h0 h1 h2
    exact ⟨h0, by rw [Nat.add_assoc]; exact h1, by rw [Nat.add_assoc]; exact h2⟩

theorem open_tally {fuel : Nat} {cs : List Value} {x : DataW H × List MemPlace} (h : DataW.trod enc Tryz.prog w 0 (fun _ => true) true fuel 81 cs = some x) :
    ∃ (A : Option Addr) (c : Nat) (vs : List B3), cs = [.slice A vs.length c] ∧ vs.length ≤ maxLen ∧ Rd3 w w.heap.size A vs := by
  obtain ⟨xs, k, hk, hxy, hlen, hxl, hf⟩ := DataW.trod_struct Tryz.underlying81 h
  rw [show Tryz.prog.cellsOf 81 = 1 by kernel_rfl] at hlen
  match xs, hxl, cs, hlen with
  | [y0], _, [v0], _ =>
    have g0 := hf 0 _ rfl
    have e4 : Tryz.prog.cellsOf 79 = 1 := by kernel_rfl
    have g0 : DataW.trod enc Tryz.prog w 0 (fun _ => true) true k 79 (([v0].drop 0).take (Tryz.prog.cellsOf 79)) = some y0 := g0
    rw [e4] at g0
    obtain ⟨A, c, vs, hcs, hm, hr⟩ := open_triples Tryz.underlying79 Tryz.underlying149 (by kernel_rfl) rfl rfl rfl (by kernel_rfl) (by kernel_rfl) (by kernel_rfl) Tryz.underlying3 Tryz.underlying3 Tryz.underlying3 g0
    exact ⟨A, c, vs, by simpa using hcs, hm, hr⟩
theorem open_ballot {fuel : Nat} {cs : List Value} {x : DataW H × List MemPlace} (h : DataW.trod enc Tryz.prog w 0 (fun _ => true) true fuel 149 cs = some x) : ∃ a b c : Int, cs = [.int .i64 a, .int .i64 b, .int .i64 c] := by
  obtain ⟨xs, k, hk, hxy, hlen, hxl, hf⟩ := DataW.trod_struct Tryz.underlying149 h
  exact three_ints Tryz.underlying149 (by rw [hlen]; kernel_rfl) rfl rfl rfl (by kernel_rfl) (by kernel_rfl) (by kernel_rfl) Tryz.underlying3 Tryz.underlying3 Tryz.underlying3 h
end
end Go.Proofs.YtfdfjmibjnmhpaaGreat.B

namespace Go.Proofs.YtfdfjmibjnmhpaaGreat.V
open Go.RowKit Go.ChangeShapes Go.WideShapes Go.Deep Go.Proofs.YtfdfjmibjnmhpaaGreat.B

section
variable {H : Type} {enc : TypeId × Value → H} {w : World}
theorem open_heard {fuel : Nat} {cs : List Value} {x : DataW H × List MemPlace} (h : DataW.trod enc Tryz.prog w 0 (fun _ => true) true fuel 130 cs = some x) :
    ∃ (v : Int) (A : Option Addr) (c : Nat) (ps : List Pp), cs = [.int .i64 v, .slice A ps.length c] ∧ ps.length ≤ maxLen ∧ (∀ i, i < ps.length → (ps.getD i zP).r.vs.length ≤ maxLen) ∧ RdR w w.heap.size A ps := by
  obtain ⟨xs, n, _, _, hlen, _, _⟩ := DataW.trod_struct Tryz.underlying130 h
  rw [show Tryz.prog.cellsOf 130 = 2 by kernel_rfl] at hlen
  obtain ⟨k, hk⟩ := int_field Tryz.underlying130 h 0 _ rfl Tryz.underlying3 (by kernel_rfl)
  obtain ⟨n3, y3, h3⟩ := field_of Tryz.underlying130 h 1 _ rfl
  have h3 : DataW.trod enc Tryz.prog w 0 (fun _ => true) true n3 128 ((cs.drop 1).take (Tryz.prog.cellsOf 128)) = some y3 := h3
  have e3 : Tryz.prog.cellsOf 128 = 1 := by kernel_rfl
  rw [e3] at h3
  obtain ⟨A, c, ps, hcs, hm, hv, hr⟩ := open_reports h3
  match cs, hlen with
  | [c0, c1], _ =>
    simp at hk hcs
    exact ⟨k, A, c, ps, by rw [hk, hcs], hm, hv, hr⟩

theorem open_heards {fuel : Nat} {cs : List Value} {x : DataW H × List MemPlace} (h : DataW.trod enc Tryz.prog w 0 (fun _ => true) true fuel 82 cs = some x) :
    ∃ (A : Option Addr) (c : Nat) (hs : List Hp), cs = [.slice A hs.length c] ∧ Lens hs ∧ RdH w w.heap.size A hs := by
  rcases open_slice Tryz.underlying82 h with ⟨rfl, _⟩ | ⟨a, len, cap, m, n, D, Pl, rfl, _, hl, hm, hmm, _, hx⟩
  · exact ⟨none, 0, [], rfl, ⟨by simp [maxLen], fun i hi => absurd hi (by simp)⟩, RdH.nil_⟩
  · have hlm : len ≤ m := by rw [hmm]; simpa using hl
    have ce : Tryz.prog.cellsOf 130 = 2 := by kernel_rfl
    have each : ∀ i, i < len → ∃ q : Hp, (w.cell? (a.add (i * 2)) = some (.int .i64 q.v) ∧ w.cell? (a.add (i * 2 + 1)) = some (.slice q.A q.ps.length q.c)) ∧ (q.ps.length ≤ maxLen ∧ ∀ j, j < q.ps.length → (q.ps.getD j zP).r.vs.length ≤ maxLen) ∧ RdR w w.heap.size q.A q.ps := by
      intro i hi
      obtain ⟨cs', h1, h2⟩ := hx i (by omega)
      rw [ce] at h1
      obtain ⟨_, hlen, hcell⟩ := World.cells?_some h1
      obtain ⟨v, A', c', ps, rfl, hm', hv', hr'⟩ := open_heard h2
      have e0 := hcell 0 (by omega)
      have e1 := hcell 1 (by omega)
      rw [add_add] at e0 e1
      exact ⟨⟨v, ps, A', c'⟩, ⟨by simpa using e0, by simpa using e1⟩, ⟨hm', hv'⟩, hr'⟩
    obtain ⟨q, hq⟩ := choose_lt each
    have hg : ∀ i, i < len → ((List.range len).map q).getD i zH = q i := fun i hi => by simp [List.getD, hi]
    refine ⟨some a, cap, (List.range len).map q, by simp, ⟨by simp; omega, fun i hi => ?_⟩, fun hp => ?_⟩
    · have hi' : i < len := by simpa using hi
      rw [hg i hi']; exact (hq i hi').2.1
    · have hp' : 0 < len := by simpa using hp
      have hz0 := (hq 0 hp').1.1
      simp only [Nat.zero_mul] at hz0
      rw [show a.add 0 = a from rfl] at hz0
      obtain ⟨b, off, rfl⟩ := addr_none hz0
      refine ⟨b, off, rfl, World.block_lt_of_cell? w ⟨b, off, none⟩ hz0, fun i hi => ?_⟩
      have hi' : i < len := by simpa using hi
      rw [hg i hi']
      obtain ⟨⟨h0, h1⟩, h2, h3⟩ := hq i hi'
      rw [add_plain] at h0
      rw [add_plain] at h1
      exact ⟨⟨h0, by rw [Nat.add_assoc]; exact h1⟩, h3⟩

set_option maxHeartbeats 800000 in
theorem open_rep {fuel : Nat} {cs : List Value} {x : DataW H × List MemPlace} (h : DataW.trod enc Tryz.prog w 0 (fun _ => true) true fuel 84 cs = some x) :
    ∃ q : Rq, cs = q.cells.toList ∧ LensQ q ∧ RdQ w w.heap.size q := by
  obtain ⟨xs, n, _, _, hlen, _, _⟩ := DataW.trod_struct Tryz.underlying84 h
  rw [show Tryz.prog.cellsOf 84 = 14 by kernel_rfl] at hlen
  obtain ⟨k0, e0⟩ := int_field Tryz.underlying84 h 0 _ rfl Tryz.underlying3 (by kernel_rfl)
  obtain ⟨k1, e1⟩ := int_field Tryz.underlying84 h 1 _ rfl Tryz.underlying3 (by kernel_rfl)
  obtain ⟨k2, e2⟩ := int_field Tryz.underlying84 h 2 _ rfl Tryz.underlying3 (by kernel_rfl)
  obtain ⟨k3, e3⟩ := int_field Tryz.underlying84 h 3 _ rfl Tryz.underlying3 (by kernel_rfl)
  obtain ⟨k4, e4⟩ := int_field Tryz.underlying84 h 4 _ rfl Tryz.underlying3 (by kernel_rfl)
  obtain ⟨k7, e7⟩ := int_field Tryz.underlying84 h 7 _ rfl Tryz.underlying3 (by kernel_rfl)
  have t1 : Tryz.prog.cellsOf 77 = 1 := by kernel_rfl
  have t2 : Tryz.prog.cellsOf 78 = 2 := by kernel_rfl
  have t3 : Tryz.prog.cellsOf 81 = 1 := by kernel_rfl
  have t4 : Tryz.prog.cellsOf 82 = 1 := by kernel_rfl
  obtain ⟨n5, y5, h5⟩ := field_of Tryz.underlying84 h 5 _ rfl
  obtain ⟨n6, y6, h6⟩ := field_of Tryz.underlying84 h 6 _ rfl
  obtain ⟨n8, y8, h8⟩ := field_of Tryz.underlying84 h 8 _ rfl
  obtain ⟨n9, y9, h9⟩ := field_of Tryz.underlying84 h 9 _ rfl
  obtain ⟨n10, y10, h10⟩ := field_of Tryz.underlying84 h 10 _ rfl
  obtain ⟨n11, y11, h11⟩ := field_of Tryz.underlying84 h 11 _ rfl
  obtain ⟨n12, y12, h12⟩ := field_of Tryz.underlying84 h 12 _ rfl
  have h5 : DataW.trod enc Tryz.prog w 0 (fun _ => true) true n5 77 ((cs.drop 5).take (Tryz.prog.cellsOf 77)) = some y5 := h5
  have h6 : DataW.trod enc Tryz.prog w 0 (fun _ => true) true n6 78 ((cs.drop 6).take (Tryz.prog.cellsOf 78)) = some y6 := h6
  have h8 : DataW.trod enc Tryz.prog w 0 (fun _ => true) true n8 81 ((cs.drop 9).take (Tryz.prog.cellsOf 81)) = some y8 := h8
  have h9 : DataW.trod enc Tryz.prog w 0 (fun _ => true) true n9 81 ((cs.drop 10).take (Tryz.prog.cellsOf 81)) = some y9 := h9
  have h10 : DataW.trod enc Tryz.prog w 0 (fun _ => true) true n10 81 ((cs.drop 11).take (Tryz.prog.cellsOf 81)) = some y10 := h10
  have h11 : DataW.trod enc Tryz.prog w 0 (fun _ => true) true n11 81 ((cs.drop 12).take (Tryz.prog.cellsOf 81)) = some y11 := h11
  have h12 : DataW.trod enc Tryz.prog w 0 (fun _ => true) true n12 82 ((cs.drop 13).take (Tryz.prog.cellsOf 82)) = some y12 := h12
  rw [t1] at h5
  rw [t2] at h6
  rw [t3] at h8 h9 h10 h11
  rw [t4] at h12
  obtain ⟨Av, cv, vs, e5, m5, r5⟩ := open_pairs Tryz.underlying77 Tryz.underlying78 (by kernel_rfl) rfl rfl (by kernel_rfl) (by kernel_rfl) Tryz.underlying3 Tryz.underlying3 h5
  obtain ⟨a, b, e6⟩ := open_vote h6
  obtain ⟨Ap, cp, pr, e8, m8, r8⟩ := open_tally h8
  obtain ⟨Ao, co, vo, e9, m9, r9⟩ := open_tally h9
  obtain ⟨Ar, cr, re, e10, m10, r10⟩ := open_tally h10
  obtain ⟨Ad, cd, ds, e11, m11, r11⟩ := open_tally h11
  obtain ⟨Ah, ch, hs, e12, m12, r12⟩ := open_heards h12
  clear h h5 h6 h8 h9 h10 h11 h12 t1 t2 t3 t4
  match cs, hlen with
  | [c0, c1, c2, c3, c4, c5, c6, c7, c8, c9, c10, c11, c12, c13], _ =>
    simp at e0 e1 e2 e3 e4 e7 e5 e6 e8 e9 e10 e11 e12
    refine ⟨⟨k0, k1, k2, k3, k4, vs, a, b, k7, pr, vo, re, ds, hs, Av, Ap, Ao, Ar, Ad, Ah, cv, cp, co, cr, cd, ch⟩, ?_, ⟨m5, m8, m9, m10, m11, m12⟩, ⟨r5, r8, r9, r10, r11, r12⟩⟩
    simp [Rq.cells, e0, e1, e2, e3, e4, e7, e5, e6.1, e6.2, e8, e9, e10, e11, e12]
end
end Go.Proofs.YtfdfjmibjnmhpaaGreat.V
