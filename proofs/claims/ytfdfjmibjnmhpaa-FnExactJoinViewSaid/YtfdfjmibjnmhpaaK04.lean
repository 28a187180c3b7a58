/-
  An argument that is a report, or a slice of reports, opened. An argument that is a tally, or a ballot, opened. An argument that is a replica's state, opened. An argument that is a message, opened: its five numbers, and its votes as a list. Rows of elements of one size, each with parts that lie elsewhere: how they read, how they are copied one by one, how much they hold. Generic; no statement is proved here. No statement is proved here.
-/
import Derived.Test.YtfdfjmibjnmhpaaChecked
import Derived.Test.YtfdfjmibjnmhpaaK03
import Derived.Test.YtfdfjmibjnmhpaaK01
import Derived.Deep.Slices
set_option linter.unusedVariables false
set_option maxRecDepth 100000
namespace Go.Proofs.Ytfdfjmibjnmhpaa.B
open Go.RowKit Go.ChangeShapes Go.WideShapes Go.Deep

section
variable {H : Type} {enc : TypeId × Value → H} {P : Program} {w : World} {base : Nat} {spare : Nat → Bool} {held : Bool}
theorem field_of {t : TypeId} {fs : Array Field} {fuel : Nat} {cs : List Value} {x : DataW H × List MemPlace} (ht : P.underlying t = some (.struct fs)) (h : DataW.trod enc P w base spare held fuel t cs = some x)
    (i : Nat) (f : Field) (hf : fs[i]? = some f) : ∃ n y, DataW.trod enc P w base spare held n f.type ((cs.drop f.offset).take (P.cellsOf f.type)) = some y := by
  obtain ⟨xs, n, _, _, _, hl, hg⟩ := DataW.trod_struct ht h
  have hi : i < fs.size := (Array.getElem?_eq_some_iff.1 hf).1
  exact ⟨n, _, (hg i f hf).trans (List.getElem?_eq_getElem (by omega))⟩
theorem int_field {t : TypeId} {fs : Array Field} {fuel : Nat} {cs : List Value} {x : DataW H × List MemPlace} (ht : P.underlying t = some (.struct fs)) (h : DataW.trod enc P w base spare held fuel t cs = some x)
    (i : Nat) (f : Field) (hf : fs[i]? = some f) (hk : P.underlying f.type = some (.int .i64)) (hc : P.cellsOf f.type = 1) : ∃ k, (cs.drop f.offset).take 1 = [.int .i64 k] := by
  obtain ⟨n, y, h1⟩ := field_of ht h i f hf
  rw [hc] at h1
  obtain ⟨k, e, _, _⟩ := DataW.trod_int hk h1
  exact ⟨k, e⟩
end

section
variable {H : Type} {enc : TypeId × Value → H} {P : Program} {w : World} {base : Nat} {spare : Nat → Bool} {held : Bool}
theorem trodAll_five {t t' t'' t3 t4 : TypeId} {args : Array Value} {ds : List (DataW H)} {ps : List MemPlace} (h : DataW.TrodAll enc P w base spare held [t, t', t'', t3, t4] args.toList ds ps) :
    ∃ v v' v'' v3 v4 d d' d'' d3 d4 p p' p'' p3 p4, args = #[v, v', v'', v3, v4] ∧ ds = [d, d', d'', d3, d4] ∧ ps = p ++ p' ++ p'' ++ p3 ++ p4 ∧ DataW.Trod enc P w base spare held t v d p ∧ DataW.Trod enc P w base spare held t' v' d' p' ∧ DataW.Trod enc P w base spare held t'' v'' d'' p'' ∧ DataW.Trod enc P w base spare held t3 v3 d3 p3 ∧ DataW.Trod enc P w base spare held t4 v4 d4 p4 := by
  obtain ⟨v, vs, d, ds', p, q, hargs, rfl, rfl, hd, hrest⟩ := trodAll_cons h
  obtain ⟨v', vs', d', ds'', p', q', rfl, rfl, rfl, hd', hrest'⟩ := trodAll_cons hrest
  obtain ⟨v'', vs'', d'', ds''', p'', q'', rfl, rfl, rfl, hd'', hrest''⟩ := trodAll_cons hrest'
  obtain ⟨v3, vs3, d3, ds3, p3, q3, rfl, rfl, rfl, hd3, hrest3⟩ := trodAll_cons hrest''
  obtain ⟨v4, vs4, d4, ds4, p4, q4, rfl, rfl, rfl, hd4, hrest4⟩ := trodAll_cons hrest3
  obtain ⟨rfl, rfl, rfl⟩ := trodAll_nil hrest4
  exact ⟨v, v', v'', v3, v4, d, d', d'', d3, d4, p, p', p'', p3, p4, by cases args; simp_all, rfl, by simp, hd, hd', hd'', hd3, hd4⟩
end

section
variable {H : Type} {enc : TypeId × Value → H} {w : World}
theorem open_vote {fuel : Nat} {cs : List Value} {x : DataW H × List MemPlace} (h : DataW.trod enc Try.prog w 0 (fun _ => true) true fuel 24 cs = some x) :
    ∃ a b : Int, cs = [.int .i64 a, .int .i64 b] := by
  obtain ⟨xs, n, _, _, hlen, _, _⟩ := DataW.trod_struct Try.underlying24 h
  rw [show Try.prog.cellsOf 24 = 2 by kernel_rfl] at hlen
  obtain ⟨a, ha⟩ := int_field Try.underlying24 h 0 _ rfl Try.underlying3 (by kernel_rfl)
  obtain ⟨b, hb⟩ := int_field Try.underlying24 h 1 _ rfl Try.underlying3 (by kernel_rfl)
  match cs, hlen with
  | [c0, c1], _ =>
    simp at ha hb
    exact ⟨a, b, by rw [ha, hb]⟩

theorem open_report {fuel : Nat} {cs : List Value} {x : DataW H × List MemPlace} (h : DataW.trod enc Try.prog w 0 (fun _ => true) true fuel 174 cs = some x) :
    ∃ (f a b : Int) (A : Option Addr) (c : Nat) (vs : List (Int × Int)), cs = [.int .i64 f, .int .i64 a, .int .i64 b, .slice A vs.length c] ∧ vs.length ≤ maxLen ∧ Rd w w.heap.size A vs := by
  obtain ⟨xs, n, _, _, hlen, _, _⟩ := DataW.trod_struct Try.underlying174 h
  rw [show Try.prog.cellsOf 174 = 4 by kernel_rfl] at hlen
  obtain ⟨k, hk⟩ := int_field Try.underlying174 h 0 _ rfl Try.underlying3 (by kernel_rfl)
  obtain ⟨n3, y3, h3⟩ := field_of Try.underlying174 h 1 _ rfl
  obtain ⟨n4, y4, h4⟩ := field_of Try.underlying174 h 2 _ rfl
  have h3 : DataW.trod enc Try.prog w 0 (fun _ => true) true n3 24 ((cs.drop 1).take (Try.prog.cellsOf 24)) = some y3 := h3
  have h4 : DataW.trod enc Try.prog w 0 (fun _ => true) true n4 22 ((cs.drop 3).take (Try.prog.cellsOf 22)) = some y4 := h4
  have e3 : Try.prog.cellsOf 24 = 2 := by kernel_rfl
  have e4 : Try.prog.cellsOf 22 = 1 := by kernel_rfl
  rw [e3] at h3
  rw [e4] at h4
  obtain ⟨a, b, hab⟩ := open_vote h3
  obtain ⟨A, c, vs, hcs, hm, hr⟩ := open_pairs Try.underlying22 Try.underlying24 (by kernel_rfl) rfl rfl (by kernel_rfl) (by kernel_rfl) Try.underlying3 Try.underlying3 h4
  match cs, hlen with
  | [c0, c1, c2, c3], _ =>
    simp at hk hab hcs
    exact ⟨k, a, b, A, c, vs, by rw [hk, hab.1, hab.2, hcs], hm, hr⟩

theorem open_reports {fuel : Nat} {cs : List Value} {x : DataW H × List MemPlace} (h : DataW.trod enc Try.prog w 0 (fun _ => true) true fuel 111 cs = some x) :
    ∃ (A : Option Addr) (c : Nat) (ps : List Pp), cs = [.slice A ps.length c] ∧ ps.length ≤ maxLen ∧ (∀ i, i < ps.length → (ps.getD i zP).r.vs.length ≤ maxLen) ∧ RdR w w.heap.size A ps := by
  rcases open_slice Try.underlying111 h with ⟨rfl, _⟩ | ⟨a, len, cap, m, n, D, Pl, rfl, _, hl, hm, hmm, _, hx⟩
  · exact ⟨none, 0, [], rfl, by simp [maxLen], fun i hi => absurd hi (by simp), RdR.nil_⟩
  · have hlm : len ≤ m := by rw [hmm]; simpa using hl
    have ce : Try.prog.cellsOf 174 = 4 := by kernel_rfl
    have each : ∀ i, i < len → ∃ q : Pp, four (fun j => w.cell? (a.add (i * 4 + j))) q ∧ q.r.vs.length ≤ maxLen ∧ Rd w w.heap.size q.A q.r.vs := by
      intro i hi
      obtain ⟨cs', h1, h2⟩ := hx i (by omega)
      rw [ce] at h1
      obtain ⟨_, hlen, hcell⟩ := World.cells?_some h1
      obtain ⟨f, va, vb, A', c', vs', rfl, hm', hr'⟩ := open_report h2
      have e0 := hcell 0 (by omega)
      have e1 := hcell 1 (by omega)
      have e2 := hcell 2 (by omega)
      have e3 := hcell 3 (by omega)
      rw [add_add] at e0 e1 e2 e3
      exact ⟨⟨⟨f, va, vb, vs'⟩, A', c'⟩, ⟨by simpa using e0, by simpa using e1, by simpa using e2, by simpa using e3⟩, hm', hr'⟩
    obtain ⟨q, hq⟩ := choose_lt each
    have hg : ∀ i, i < len → ((List.range len).map q).getD i zP = q i := fun i hi => by simp [List.getD, hi]
    refine ⟨some a, cap, (List.range len).map q, by simp, by simp; omega, fun i hi => ?_, fun hp => ?_⟩
    · have hi' : i < len := by simpa using hi
      rw [hg i hi']; exact (hq i hi').2.1
    · have hp' : 0 < len := by simpa using hp
      have hz0 := (hq 0 hp').1.1
      simp only [Nat.zero_mul, Nat.add_zero] at hz0
      rw [show a.add 0 = a from rfl] at hz0
      obtain ⟨b, off, rfl⟩ := addr_none hz0
      refine ⟨b, off, rfl, World.block_lt_of_cell? w ⟨b, off, none⟩ hz0, fun i hi => ?_⟩
      have hi' : i < len := by simpa using hi
      rw [hg i hi']
      obtain ⟨h0, h1, h2⟩ := hq i hi'
      refine ⟨?_, h2⟩
      unfold four at *
      simp only [add_plain] at h0
      simp only [Nat.add_assoc]
      exact h0
end
end Go.Proofs.Ytfdfjmibjnmhpaa.B

namespace Go.Proofs.Ytfdfjmibjnmhpaa.B
open Go.RowKit Go.ChangeShapes Go.WideShapes Go.Deep

section
variable {H : Type} {enc : TypeId × Value → H} {P : Program} {w : World}
theorem three_ints {e : TypeId} {f0 f1 f2 : Field} {fuel : Nat} {cs : List Value} {x : DataW H × List MemPlace} (he : P.underlying e = some (.struct #[f0, f1, f2])) (hl : cs.length = 3)
    (o0 : f0.offset = 0) (o1 : f1.offset = 1) (o2 : f2.offset = 2) (c0 : P.cellsOf f0.type = 1) (c1 : P.cellsOf f1.type = 1) (c2 : P.cellsOf f2.type = 1) (k0 : P.underlying f0.type = some (.int .i64)) (k1 : P.underlying f1.type = some (.int .i64)) (k2 : P.underlying f2.type = some (.int .i64))
    (h : DataW.trod enc P w 0 (fun _ => true) true fuel e cs = some x) : ∃ a b c : Int, cs = [.int .i64 a, .int .i64 b, .int .i64 c] := by
  obtain ⟨xs, k, hk, hxy, _, hxl, hf⟩ := DataW.trod_struct he h
  match xs, hxl, cs, hl with
  | [y0, y1, y2], _, [v0, v1, v2], _ =>
    have g0 := hf 0 f0 rfl
    have g1 := hf 1 f1 rfl
    have g2 := hf 2 f2 rfl
    simp [o0, o1, o2, c0, c1, c2] at g0 g1 g2
    obtain ⟨n0, e0, _, _⟩ := DataW.trod_int k0 g0
    obtain ⟨n1, e1, _, _⟩ := DataW.trod_int k1 g1
    obtain ⟨n2, e2, _, _⟩ := DataW.trod_int k2 g2
    simp only [List.cons.injEq, and_true] at e0 e1 e2
    exact ⟨n0, n1, n2, by rw [e0, e1, e2]⟩

theorem open_triples {t e : TypeId} {f0 f1 f2 : Field} {fuel : Nat} {cs : List Value} {x : DataW H × List MemPlace} (ht : P.underlying t = some (.slice e)) (he : P.underlying e = some (.struct #[f0, f1, f2]))
    (ce : P.cellsOf e = 3) (o0 : f0.offset = 0) (o1 : f1.offset = 1) (o2 : f2.offset = 2) (c0 : P.cellsOf f0.type = 1) (c1 : P.cellsOf f1.type = 1) (c2 : P.cellsOf f2.type = 1) (k0 : P.underlying f0.type = some (.int .i64)) (k1 : P.underlying f1.type = some (.int .i64)) (k2 : P.underlying f2.type = some (.int .i64))
    (h : DataW.trod enc P w 0 (fun _ => true) true fuel t cs = some x) :
    ∃ (A : Option Addr) (c : Nat) (vs : List B3), cs = [.slice A vs.length c] ∧ vs.length ≤ maxLen ∧ Rd3 w w.heap.size A vs := by
  rcases open_slice ht h with ⟨rfl, _⟩ | ⟨a, len, cap, m, n, D, Pl, rfl, _, hl, hm, hmm, _, hx⟩
  · exact ⟨none, 0, [], rfl, by simp [maxLen], Rd3.nil_⟩
  · have hlm : len ≤ m := by rw [hmm]; simpa using hl
    have each : ∀ i, i < len → ∃ q : B3, w.cell? (a.add (i * 3)) = some (.int .i64 q.1) ∧ w.cell? (a.add (i * 3 + 1)) = some (.int .i64 q.2.1) ∧ w.cell? (a.add (i * 3 + 2)) = some (.int .i64 q.2.2) := by
      intro i hi
      obtain ⟨cs', h1, h2⟩ := hx i (by omega)
      rw [ce] at h1
      obtain ⟨_, hlen, hcell⟩ := World.cells?_some h1
      obtain ⟨n0, n1, n2, rfl⟩ := three_ints he hlen o0 o1 o2 c0 c1 c2 k0 k1 k2 h2
      have e0 := hcell 0 (by omega)
      have e1 := hcell 1 (by omega)
      have e2 := hcell 2 (by omega)
      rw [add_add] at e0 e1 e2
      exact ⟨(n0, n1, n2), by simpa using e0, by simpa using e1, by simpa using e2⟩
    obtain ⟨q, hq⟩ := choose_lt each
    refine ⟨some a, cap, (List.range len).map q, by simp, by simp; omega, fun hp => ?_⟩
    have hp' : 0 < len := by simpa using hp
    have hz0 := (hq 0 hp').1
    rw [Nat.zero_mul, show a.add 0 = a from rfl] at hz0
    obtain ⟨b, off, rfl⟩ := addr_none hz0
    refine ⟨b, off, rfl, World.block_lt_of_cell? w ⟨b, off, none⟩ hz0, fun i hi => ?_⟩
    have hi' : i < len := by simpa using hi
    have hg : ((List.range len).map q).getD i z3 = q i := by simp [List.getD, hi']
    rw [hg]
    obtain ⟨h0, h1, h2⟩ := hq i hi'
    rw [add_plain] at h0 h1 h2
    exact ⟨h0, by rw [Nat.add_assoc]; exact h1, by rw [Nat.add_assoc]; exact h2⟩

theorem open_tally {fuel : Nat} {cs : List Value} {x : DataW H × List MemPlace} (h : DataW.trod enc Try.prog w 0 (fun _ => true) true fuel 27 cs = some x) :
    ∃ (A : Option Addr) (c : Nat) (vs : List B3), cs = [.slice A vs.length c] ∧ vs.length ≤ maxLen ∧ Rd3 w w.heap.size A vs := by
  obtain ⟨xs, k, hk, hxy, hlen, hxl, hf⟩ := DataW.trod_struct Try.underlying27 h
  rw [show Try.prog.cellsOf 27 = 1 by kernel_rfl] at hlen
  match xs, hxl, cs, hlen with
  | [y0], _, [v0], _ =>
    have g0 := hf 0 _ rfl
    have e4 : Try.prog.cellsOf 25 = 1 := by kernel_rfl
    have g0 : DataW.trod enc Try.prog w 0 (fun _ => true) true k 25 (([v0].drop 0).take (Try.prog.cellsOf 25)) = some y0 := g0
    rw [e4] at g0
    obtain ⟨A, c, vs, hcs, hm, hr⟩ := open_triples Try.underlying25 Try.underlying154 (by kernel_rfl) rfl rfl rfl (by kernel_rfl) (by kernel_rfl) (by kernel_rfl) Try.underlying3 Try.underlying3 Try.underlying3 g0
    exact ⟨A, c, vs, by simpa using hcs, hm, hr⟩
theorem open_ballot {fuel : Nat} {cs : List Value} {x : DataW H × List MemPlace} (h : DataW.trod enc Try.prog w 0 (fun _ => true) true fuel 154 cs = some x) : ∃ a b c : Int, cs = [.int .i64 a, .int .i64 b, .int .i64 c] := by
  obtain ⟨xs, k, hk, hxy, hlen, hxl, hf⟩ := DataW.trod_struct Try.underlying154 h
  exact three_ints Try.underlying154 (by rw [hlen]; kernel_rfl) rfl rfl rfl (by kernel_rfl) (by kernel_rfl) (by kernel_rfl) Try.underlying3 Try.underlying3 Try.underlying3 h
end
end Go.Proofs.Ytfdfjmibjnmhpaa.B

namespace Go.Proofs.Ytfdfjmibjnmhpaa.V
open Go.RowKit Go.ChangeShapes Go.WideShapes Go.Deep Go.Proofs.Ytfdfjmibjnmhpaa.B

section
variable {H : Type} {enc : TypeId × Value → H} {w : World}
theorem open_heard {fuel : Nat} {cs : List Value} {x : DataW H × List MemPlace} (h : DataW.trod enc Try.prog w 0 (fun _ => true) true fuel 113 cs = some x) :
    ∃ (v : Int) (A : Option Addr) (c : Nat) (ps : List Pp), cs = [.int .i64 v, .slice A ps.length c] ∧ ps.length ≤ maxLen ∧ (∀ i, i < ps.length → (ps.getD i zP).r.vs.length ≤ maxLen) ∧ RdR w w.heap.size A ps := by
  obtain ⟨xs, n, _, _, hlen, _, _⟩ := DataW.trod_struct Try.underlying113 h
  rw [show Try.prog.cellsOf 113 = 2 by kernel_rfl] at hlen
  obtain ⟨k, hk⟩ := int_field Try.underlying113 h 0 _ rfl Try.underlying3 (by kernel_rfl)
  obtain ⟨n3, y3, h3⟩ := field_of Try.underlying113 h 1 _ rfl
  have h3 : DataW.trod enc Try.prog w 0 (fun _ => true) true n3 111 ((cs.drop 1).take (Try.prog.cellsOf 111)) = some y3 := h3
  have e3 : Try.prog.cellsOf 111 = 1 := by kernel_rfl
  rw [e3] at h3
  obtain ⟨A, c, ps, hcs, hm, hv, hr⟩ := open_reports h3
  match cs, hlen with
  | [c0, c1], _ =>
    simp at hk hcs
    exact ⟨k, A, c, ps, by rw [hk, hcs], hm, hv, hr⟩

theorem open_heards {fuel : Nat} {cs : List Value} {x : DataW H × List MemPlace} (h : DataW.trod enc Try.prog w 0 (fun _ => true) true fuel 28 cs = some x) :
    ∃ (A : Option Addr) (c : Nat) (hs : List Hp), cs = [.slice A hs.length c] ∧ Lens hs ∧ RdH w w.heap.size A hs := by
  rcases open_slice Try.underlying28 h with ⟨rfl, _⟩ | ⟨a, len, cap, m, n, D, Pl, rfl, _, hl, hm, hmm, _, hx⟩
  · exact ⟨none, 0, [], rfl, ⟨by simp [maxLen], fun i hi => absurd hi (by simp)⟩, RdH.nil_⟩
  · have hlm : len ≤ m := by rw [hmm]; simpa using hl
    have ce : Try.prog.cellsOf 113 = 2 := by kernel_rfl
    have each : ∀ i, i < len → ∃ q : Hp, (w.cell? (a.add (i * 2)) = some (.int .i64 q.v) ∧ w.cell? (a.add (i * 2 + 1)) = some (.slice q.A q.ps.length q.c)) ∧ (q.ps.length ≤ maxLen ∧ ∀ j, j < q.ps.length → (q.ps.getD j zP).r.vs.length ≤ maxLen) ∧ RdR w w.heap.size q.A q.ps := by
      intro i hi
      obtain ⟨cs', h1, h2⟩ := hx i (by omega)
      rw [ce] at h1
      obtain ⟨_, hlen, hcell⟩ := World.cells?_some h1
      obtain ⟨v, A', c', ps, rfl, hm', hv', hr'⟩ := open_heard h2
      have e0 := hcell 0 (by omega)
      have e1 := hcell 1 (by omega)
      rw [add_add] at e0 e1
      exact ⟨⟨v, ps, A', c'⟩, ⟨by simpa using e0, by simpa using e1⟩, ⟨hm', hv'⟩, hr'⟩
    obtain ⟨q, hq⟩ := choose_lt each
    have hg : ∀ i, i < len → ((List.range len).map q).getD i zH = q i := fun i hi => by simp [List.getD, hi]
    refine ⟨some a, cap, (List.range len).map q, by simp, ⟨by simp; omega, fun i hi => ?_⟩, fun hp => ?_⟩
    · have hi' : i < len := by simpa using hi
      rw [hg i hi']; exact (hq i hi').2.1
    · have hp' : 0 < len := by simpa using hp
      have hz0 := (hq 0 hp').1.1
      simp only [Nat.zero_mul] at hz0
      rw [show a.add 0 = a from rfl] at hz0
      obtain ⟨b, off, rfl⟩ := addr_none hz0
      refine ⟨b, off, rfl, World.block_lt_of_cell? w ⟨b, off, none⟩ hz0, fun i hi => ?_⟩
      have hi' : i < len := by simpa using hi
      rw [hg i hi']
      obtain ⟨⟨h0, h1⟩, h2, h3⟩ := hq i hi'
      rw [add_plain] at h0
      rw [add_plain] at h1
      exact ⟨⟨h0, by rw [Nat.add_assoc]; exact h1⟩, h3⟩

set_option maxHeartbeats 800000 in
theorem open_rep {fuel : Nat} {cs : List Value} {x : DataW H × List MemPlace} (h : DataW.trod enc Try.prog w 0 (fun _ => true) true fuel 30 cs = some x) :
    ∃ q : Rq, cs = q.cells.toList ∧ LensQ q ∧ RdQ w w.heap.size q := by
  obtain ⟨xs, n, _, _, hlen, _, _⟩ := DataW.trod_struct Try.underlying30 h
  rw [show Try.prog.cellsOf 30 = 14 by kernel_rfl] at hlen
  obtain ⟨k0, e0⟩ := int_field Try.underlying30 h 0 _ rfl Try.underlying3 (by kernel_rfl)
  obtain ⟨k1, e1⟩ := int_field Try.underlying30 h 1 _ rfl Try.underlying3 (by kernel_rfl)
  obtain ⟨k2, e2⟩ := int_field Try.underlying30 h 2 _ rfl Try.underlying3 (by kernel_rfl)
  obtain ⟨k3, e3⟩ := int_field Try.underlying30 h 3 _ rfl Try.underlying3 (by kernel_rfl)
  obtain ⟨k4, e4⟩ := int_field Try.underlying30 h 4 _ rfl Try.underlying3 (by kernel_rfl)
  obtain ⟨k7, e7⟩ := int_field Try.underlying30 h 7 _ rfl Try.underlying3 (by kernel_rfl)
  have t1 : Try.prog.cellsOf 22 = 1 := by kernel_rfl
  have t2 : Try.prog.cellsOf 24 = 2 := by kernel_rfl
  have t3 : Try.prog.cellsOf 27 = 1 := by kernel_rfl
  have t4 : Try.prog.cellsOf 28 = 1 := by kernel_rfl
  obtain ⟨n5, y5, h5⟩ := field_of Try.underlying30 h 5 _ rfl
  obtain ⟨n6, y6, h6⟩ := field_of Try.underlying30 h 6 _ rfl
  obtain ⟨n8, y8, h8⟩ := field_of Try.underlying30 h 8 _ rfl
  obtain ⟨n9, y9, h9⟩ := field_of Try.underlying30 h 9 _ rfl
  obtain ⟨n10, y10, h10⟩ := field_of Try.underlying30 h 10 _ rfl
  obtain ⟨n11, y11, h11⟩ := field_of Try.underlying30 h 11 _ rfl
  obtain ⟨n12, y12, h12⟩ := field_of Try.underlying30 h 12 _ rfl
  have h5 : DataW.trod enc Try.prog w 0 (fun _ => true) true n5 22 ((cs.drop 5).take (Try.prog.cellsOf 22)) = some y5 := h5
  have h6 : DataW.trod enc Try.prog w 0 (fun _ => true) true n6 24 ((cs.drop 6).take (Try.prog.cellsOf 24)) = some y6 := h6
  have h8 : DataW.trod enc Try.prog w 0 (fun _ => true) true n8 27 ((cs.drop 9).take (Try.prog.cellsOf 27)) = some y8 := h8
  have h9 : DataW.trod enc Try.prog w 0 (fun _ => true) true n9 27 ((cs.drop 10).take (Try.prog.cellsOf 27)) = some y9 := h9
  have h10 : DataW.trod enc Try.prog w 0 (fun _ => true) true n10 27 ((cs.drop 11).take (Try.prog.cellsOf 27)) = some y10 := h10
  have h11 : DataW.trod enc Try.prog w 0 (fun _ => true) true n11 27 ((cs.drop 12).take (Try.prog.cellsOf 27)) = some y11 := h11
  have h12 : DataW.trod enc Try.prog w 0 (fun _ => true) true n12 28 ((cs.drop 13).take (Try.prog.cellsOf 28)) = some y12 := h12
  rw [t1] at h5
  rw [t2] at h6
  rw [t3] at h8 h9 h10 h11
  rw [t4] at h12
  obtain ⟨Av, cv, vs, e5, m5, r5⟩ := open_pairs Try.underlying22 Try.underlying24 (by kernel_rfl) rfl rfl (by kernel_rfl) (by kernel_rfl) Try.underlying3 Try.underlying3 h5
  obtain ⟨a, b, e6⟩ := open_vote h6
  obtain ⟨Ap, cp, pr, e8, m8, r8⟩ := open_tally h8
  obtain ⟨Ao, co, vo, e9, m9, r9⟩ := open_tally h9
  obtain ⟨Ar, cr, re, e10, m10, r10⟩ := open_tally h10
  obtain ⟨Ad, cd, ds, e11, m11, r11⟩ := open_tally h11
  obtain ⟨Ah, ch, hs, e12, m12, r12⟩ := open_heards h12
  clear h h5 h6 h8 h9 h10 h11 h12 t1 t2 t3 t4
  match cs, hlen with
  | [c0, c1, c2, c3, c4, c5, c6, c7, c8, c9, c10, c11, c12, c13], _ =>
    simp at e0 e1 e2 e3 e4 e7 e5 e6 e8 e9 e10 e11 e12
    refine ⟨⟨k0, k1, k2, k3, k4, vs, a, b, k7, pr, vo, re, ds, hs, Av, Ap, Ao, Ar, Ad, Ah, cv, cp, co, cr, cd, ch⟩, ?_, ⟨m5, m8, m9, m10, m11, m12⟩, ⟨r5, r8, r9, r10, r11, r12⟩⟩
    simp [Rq.cells, e0, e1, e2, e3, e4, e7, e5, e6.1, e6.2, e8, e9, e10, e11, e12]
end
end Go.Proofs.Ytfdfjmibjnmhpaa.V

namespace Go.Proofs.Ytfdfjmibjnmhpaa.B
open Go.RowKit Go.ChangeShapes Go.WideShapes Go.Deep

section
variable {H : Type} {enc : TypeId × Value → H} {P : Program} {w : World} {base : Nat} {spare : Nat → Bool} {held : Bool}
end

section
variable {H : Type} {enc : TypeId × Value → H} {w : World}
theorem open_msg {fuel : Nat} {cs : List Value} {x : DataW H × List MemPlace} (h : DataW.trod enc Try.prog w 0 (fun _ => true) true fuel 57 cs = some x) :
    ∃ (k v x a b : Int) (A : Option Addr) (c : Nat) (vs : List (Int × Int)), cs = [.int .i64 k, .int .i64 v, .int .i64 x, .int .i64 a, .int .i64 b, .slice A vs.length c] ∧ vs.length ≤ maxLen ∧ Rd w w.heap.size A vs := by
  obtain ⟨xs, n, _, _, hlen, _, _⟩ := DataW.trod_struct Try.underlying57 h
  rw [show Try.prog.cellsOf 57 = 6 by kernel_rfl] at hlen
  obtain ⟨k, hk⟩ := int_field Try.underlying57 h 0 _ rfl Try.underlying3 (by kernel_rfl)
  obtain ⟨v, hv⟩ := int_field Try.underlying57 h 1 _ rfl Try.underlying3 (by kernel_rfl)
  obtain ⟨x, hx⟩ := int_field Try.underlying57 h 2 _ rfl Try.underlying3 (by kernel_rfl)
  obtain ⟨n3, y3, h3⟩ := field_of Try.underlying57 h 3 _ rfl
  obtain ⟨n4, y4, h4⟩ := field_of Try.underlying57 h 4 _ rfl
  have h3 : DataW.trod enc Try.prog w 0 (fun _ => true) true n3 24 ((cs.drop 3).take (Try.prog.cellsOf 24)) = some y3 := h3
  have h4 : DataW.trod enc Try.prog w 0 (fun _ => true) true n4 22 ((cs.drop 5).take (Try.prog.cellsOf 22)) = some y4 := h4
  have e3 : Try.prog.cellsOf 24 = 2 := by kernel_rfl
  have e4 : Try.prog.cellsOf 22 = 1 := by kernel_rfl
  rw [e3] at h3
  rw [e4] at h4
  obtain ⟨a, b, hab⟩ := open_vote h3
  obtain ⟨A, c, vs, hcs, hm, hr⟩ := open_pairs Try.underlying22 Try.underlying24 (by kernel_rfl) rfl rfl (by kernel_rfl) (by kernel_rfl) Try.underlying3 Try.underlying3 h4
  match cs, hlen with
  | [c0, c1, c2, c3, c4, c5], _ =>
    simp at hk hv hx hab hcs
    exact ⟨k, v, x, a, b, A, c, vs, by rw [hk, hv, hx, hab.1, hab.2, hcs], hm, hr⟩
end
end Go.Proofs.Ytfdfjmibjnmhpaa.B

namespace Go.Proofs.Ytfdfjmibjnmhpaa.B
open Go.RowKit

/-- How an element of a kind lies in memory: its cells, and how its parts read. -/
structure Knd (α : Type) where
  s : Nat
  cells : α → Array Value
  rd : World → Nat → α → Prop
  z : α
  pos : 0 < s
  size : ∀ p, (cells p).size = s
  keep : ∀ {w w' : World} {Bd : Nat} {p : α}, rd w Bd p → (∀ b o, b < Bd → w'.cell? ⟨b, o, none⟩ = w.cell? ⟨b, o, none⟩) → rd w' Bd p
  more : ∀ {w : World} {Bd Bd' : Nat} {p : α}, rd w Bd p → Bd ≤ Bd' → rd w Bd' p
  own : World → Nat → α → Prop
  okeep : ∀ {w w' : World} {lo : Nat} {p : α}, own w lo p → (∀ g, lo ≤ g → g < w.heap.size → w'.heap[g]? = w.heap[g]?) → own w' lo p
  olow : ∀ {w : World} {lo lo' : Nat} {p : α}, own w lo p → lo' ≤ lo → own w lo' p

section
variable {α : Type} {K : Knd α} {w w' w1 : World} {Bd Bd' lo lo' n : Nat} {A : Option Addr} {xs : List α} {p : α}
/-- A slice value at address A reads, below block Bd, as xs. -/
def RdK (K : Knd α) (w : World) (Bd : Nat) (A : Option Addr) (xs : List α) : Prop :=
  0 < xs.length → ∃ b off, A = some ⟨b, off, none⟩ ∧ b < Bd ∧ ∀ i, i < xs.length → (∀ j, j < K.s → w.cell? ⟨b, off + i * K.s + j, none⟩ = (K.cells (xs.getD i K.z))[j]?) ∧ K.rd w Bd (xs.getD i K.z)
theorem RdK.keep (h : RdK K w Bd A xs) (hk : ∀ b o, b < Bd → w'.cell? ⟨b, o, none⟩ = w.cell? ⟨b, o, none⟩) : RdK K w' Bd A xs := fun hn => by
  obtain ⟨b, off, e, hb, hc⟩ := h hn
  exact ⟨b, off, e, hb, fun i hi => ⟨fun j hj => (hk _ _ hb).trans ((hc i hi).1 j hj), K.keep (hc i hi).2 hk⟩⟩
theorem RdK.more (h : RdK K w Bd A xs) (hB : Bd ≤ Bd') : RdK K w Bd' A xs := fun hn => by
  obtain ⟨b, off, e, hb, hc⟩ := h hn
  exact ⟨b, off, e, by omega, fun i hi => ⟨(hc i hi).1, K.more (hc i hi).2 hB⟩⟩
theorem RdK.below (h : RdK K w Bd A xs) (hb : Below Bd w w') : RdK K w' Bd A xs := h.keep fun _ _ hp => hb.cell hp
theorem RdK.alloc (h : RdK K w Bd A xs) (hB : Bd ≤ w.heap.size) (o : Obj) : RdK K (w.alloc o) Bd A xs := h.keep fun b o' hp => World.cell?_alloc_lt w o ⟨b, o', none⟩ (by simpa using (show b < w.heap.size by omega))
theorem RdK.on (h : RdK K w w.heap.size A xs) (hb : Below w.heap.size w w') : RdK K w' w'.heap.size A xs := (h.below hb).more hb.size
theorem RdK.up (h : RdK K w w.heap.size A xs) (O : Obj) : RdK K (w.alloc O) (w.alloc O).heap.size A xs := (h.alloc (Nat.le_refl _) O).more (by simp)
theorem RdK.dr (h : RdK K w w.heap.size A xs) : RdK K w.drew w.drew.heap.size A xs := h.keep fun _ _ _ => rfl
theorem RdK.nil_ : RdK K w Bd A [] := fun h => absurd h (by simp)
theorem RdK.at_ (h : RdK K w Bd A xs) {k : Nat} (hk : k < xs.length) : ∃ b off, A = some ⟨b, off, none⟩ ∧ b < Bd ∧ (∀ j, j < K.s → w.cell? ⟨b, off + k * K.s + j, none⟩ = (K.cells (xs.getD k K.z))[j]?) ∧ K.rd w Bd (xs.getD k K.z) := by
  obtain ⟨b, off, rfl, hb, hc⟩ := h (by omega)
  exact ⟨b, off, rfl, hb, (hc k hk).1, (hc k hk).2⟩

/-- A reading that turns on no block below lo. -/
def Hi (R : World → Nat → Prop) (w : World) (lo : Nat) : Prop := ∀ w' : World, (∀ b o, lo ≤ b → b < w.heap.size → w'.cell? ⟨b, o, none⟩ = w.cell? ⟨b, o, none⟩) → R w' w.heap.size
theorem Hi.rd {R : World → Nat → Prop} (h : Hi R w lo) : R w w.heap.size := h w fun _ _ _ _ => rfl
theorem Hi.keep {R : World → Nat → Prop} (hm : ∀ {w : World} {Bd Bd' : Nat}, R w Bd → Bd ≤ Bd' → R w Bd') (h : Hi R w lo) (hs : w.heap.size ≤ w1.heap.size) (hk : ∀ b o, lo ≤ b → b < w.heap.size → w1.cell? ⟨b, o, none⟩ = w.cell? ⟨b, o, none⟩) : Hi R w1 lo := fun w' h' =>
  hm (h w' fun b o h1 h2 => (h' b o h1 (by omega)).trans (hk b o h1 h2)) hs
theorem Hi.low {R : World → Nat → Prop} (h : Hi R w lo) (hl : lo' ≤ lo) : Hi R w lo' := fun w' h' => h w' fun b o h1 h2 => h' b o (by omega) h2
/-- A row in a block of its own from lo on, and what its elements own. -/
def OwnX (K : Knd α) (w : World) (lo : Nat) (A : Option Addr) (xs : List α) : Prop :=
  0 < xs.length → ∃ (t : TypeId) (g : Nat) (cs : Array Value), A = some ⟨g, 0, none⟩ ∧ lo ≤ g ∧ Blk w g t cs ∧ xs.length * K.s ≤ cs.size ∧ ∀ i, i < xs.length → (∀ j, j < K.s → cs[i * K.s + j]? = (K.cells (xs.getD i K.z))[j]?) ∧ K.own w lo (xs.getD i K.z)
theorem OwnX.keep (h : OwnX K w lo A xs) (hk : ∀ g, lo ≤ g → g < w.heap.size → w'.heap[g]? = w.heap[g]?) : OwnX K w' lo A xs := fun h0 => by
  obtain ⟨t, g, cs, e, hg, hb, hz, hc⟩ := h h0
  exact ⟨t, g, cs, e, hg, (hk g hg hb.lt).trans hb, hz, fun i hi => ⟨(hc i hi).1, K.okeep (hc i hi).2 hk⟩⟩
theorem OwnX.low (h : OwnX K w lo A xs) (hl : lo' ≤ lo) : OwnX K w lo' A xs := fun h0 => by
  obtain ⟨t, g, cs, e, hg, hb, hz, hc⟩ := h h0
  exact ⟨t, g, cs, e, by omega, hb, hz, fun i hi => ⟨(hc i hi).1, K.olow (hc i hi).2 hl⟩⟩
/-- The parts of an element, in blocks of their own from lo on. -/
def HiK (K : Knd α) (w : World) (lo : Nat) (p : α) : Prop := Hi (fun w Bd => K.rd w Bd p) w lo ∧ K.own w lo p
theorem HiK.on (h : HiK K w lo p) (hb : Below w.heap.size w w1) : HiK K w1 lo p := ⟨Hi.keep (fun h => K.more h) h.1 hb.size fun b o _ h2 => hb.cell (p := ⟨b, o, none⟩) h2, K.okeep h.2 fun g _ h2 => hb.block g h2⟩
theorem HiK.set_ (h : HiK K w lo p) {q : Addr} (hp : q.block < lo) (u : Value) : HiK K (w.setCell q u) lo p :=
  ⟨Hi.keep (fun h => K.more h) h.1 (by simp [World.setCell]) fun b o h1 _ => World.cell?_setCell_other w q ⟨b, o, none⟩ u (fun e => by subst e; simp at hp; omega), K.okeep h.2 fun g h1 _ => Below.heap_setCell w q u g (by omega)⟩
theorem HiK.low (h : HiK K w lo p) (hl : lo' ≤ lo) : HiK K w lo' p := ⟨Hi.low h.1 hl, K.olow h.2 hl⟩
theorem HiK.rd (h : HiK K w lo p) : K.rd w w.heap.size p := Hi.rd h.1

/-- Values stored one behind the other. -/
def putA (cs : Array Value) : Nat → List Value → Array Value
  | _, [] => cs
  | k, v :: vs => putA (cs.setIfInBounds k v) (k + 1) vs
def putW (w : World) (g : Nat) : Nat → List Value → World
  | _, [] => w
  | k, v :: vs => putW (w.setCell ⟨g, k, none⟩ v) g (k + 1) vs
theorem putA_size : ∀ (cs : Array Value) (k : Nat) (vs : List Value), (putA cs k vs).size = cs.size
  | _, _, [] => rfl
  | cs, k, v :: vs => by rw [putA, putA_size, Array.size_setIfInBounds]
theorem putA_far : ∀ (cs : Array Value) (k : Nat) (vs : List Value) (m : Nat), m < k → (putA cs k vs)[m]? = cs[m]?
  | _, _, [], _, _ => rfl
  | cs, k, v :: vs, m, h => by rw [putA, putA_far _ _ _ _ (by omega), Array.getElem?_setIfInBounds_ne (by omega)]
theorem putA_past : ∀ (cs : Array Value) (k : Nat) (vs : List Value) (m : Nat), k + vs.length ≤ m → (putA cs k vs)[m]? = cs[m]?
  | _, _, [], _, _ => rfl
  | cs, k, v :: vs, m, h => by
    simp only [List.length_cons] at h
    rw [putA, putA_past _ _ _ _ (by omega), Array.getElem?_setIfInBounds_ne (by omega)]
theorem putA_at : ∀ (cs : Array Value) (k : Nat) (vs : List Value) (j : Nat), k + vs.length ≤ cs.size → j < vs.length → (putA cs k vs)[k + j]? = vs[j]?
  | _, _, [], _, _, h => absurd h (by simp)
  | cs, k, v :: vs, 0, h, _ => by
    simp only [List.length_cons] at h
    rw [putA, putA_far _ _ _ _ (by omega)]
    simp only [Nat.add_zero]
    rw [Array.getElem?_setIfInBounds_self_of_lt (by omega)]
    rfl
  | cs, k, v :: vs, j + 1, h, hj => by
    simp only [List.length_cons] at h hj
    rw [putA, show k + (j + 1) = k + 1 + j by omega, putA_at _ _ _ _ (by simp; omega) (by omega)]
    rfl
theorem Blk.putW : ∀ {w : World} {g : Nat} {t : TypeId} {cs : Array Value} (k : Nat) (vs : List Value), Blk w g t cs → Blk (B.putW w g k vs) g t (putA cs k vs)
  | _, _, _, _, _, [], h => h
  | _, _, _, _, k, v :: vs, h => Blk.putW (k + 1) vs (h.set_ k v)
theorem HiK.putW : ∀ {w : World} {g lo : Nat} {p : α} (k : Nat) (vs : List Value), HiK K w lo p → g < lo → HiK K (B.putW w g k vs) lo p
  | _, _, _, _, _, [], h, _ => h
  | _, _, _, _, k, v :: vs, h, hg => HiK.putW (k + 1) vs (h.set_ hg v) hg
theorem Below.putW : ∀ {Bd : Nat} {a w : World} {g : Nat} (k : Nat) (vs : List Value), Below Bd a w → Bd ≤ g → Below Bd a (B.putW w g k vs)
  | _, _, _, _, _, [], h, _ => h
  | _, _, _, _, k, v :: vs, h, hg => Below.putW (k + 1) vs (h.setCell hg v) hg
theorem size_putW : ∀ {w : World} {g : Nat} (k : Nat) (vs : List Value), (B.putW w g k vs).heap.size = w.heap.size
  | _, _, _, [] => rfl
  | w, g, k, v :: vs => by rw [B.putW, size_putW]; simp [World.setCell]

/-- The first k of n, copied to the block g. -/
def CpK {β : Type} (K : Knd α) (dat : α → β) (w : World) (g n : Nat) (cs : Array Value) (xs qs : List α) (k : Nat) : Prop :=
  qs.length = k ∧ qs.map dat = (xs.map dat).take k ∧ cs.size = n * K.s ∧ ∀ i, i < k → (∀ j, j < K.s → cs[i * K.s + j]? = (K.cells (qs.getD i K.z))[j]?) ∧ HiK K w (g + 1) (qs.getD i K.z)
section
variable {β : Type} {dat : α → β} {g : Nat} {cs : Array Value} {qs : List α} {k : Nat}
theorem CpK.zero (h : cs.size = n * K.s) : CpK K dat w g n cs xs [] 0 := ⟨rfl, by simp, h, fun i hi => absurd hi (by omega)⟩
theorem CpK.step (h : CpK K dat w g n cs xs qs k) (hk : k < n) (hn : xs.length = n) (u : α) (hu : dat u = dat (xs.getD k K.z)) (hb : Below w.heap.size w w1) (hg : HiK K w1 (g + 1) u) :
    CpK K dat (putW w1 g (k * K.s) (K.cells u).toList) g n (putA cs (k * K.s) (K.cells u).toList) xs (qs ++ [u]) (k + 1) := by
  obtain ⟨h1, h2, h3, h4⟩ := h
  have hl : (K.cells u).toList.length = K.s := by simpa using K.size u
  have hm : k * K.s + K.s ≤ cs.size := by
    rw [h3, show k * K.s + K.s = (k + 1) * K.s by rw [Nat.succ_mul]]
    exact Nat.mul_le_mul_right _ (by omega)
  refine ⟨by simp [h1], ?_, by rw [putA_size]; exact h3, fun i hi => ?_⟩
  · have hk' : k < (xs.map dat).length := by simp; omega
    rw [List.take_succ_eq_append_getElem hk', ← h2, List.map_append, List.map_cons, List.map_nil, hu]
    congr 2
    simp [List.getD_eq_getElem?_getD, List.getElem?_eq_getElem (show k < xs.length by omega)]
  · by_cases e : i = k
    · subst e
      rw [getD_app_end h1]
      refine ⟨fun j hj => ?_, hg.putW _ _ (by omega)⟩
      rw [putA_at _ _ _ _ (by omega) (by omega)]
      simp
    · rw [getD_app_lt (by omega)]
      refine ⟨fun j hj => ?_, ((h4 i (by omega)).2.on hb).putW _ _ (by omega)⟩
      rw [putA_far _ _ _ _ ?_]
      · exact (h4 i (by omega)).1 j hj
      · have : (i + 1) * K.s ≤ k * K.s := Nat.mul_le_mul_right _ (by omega)
        rw [Nat.succ_mul] at this
        omega
theorem CpK.rd {t : TypeId} (h : CpK K dat w g n cs xs qs n) (hb : Blk w g t cs) : RdK K w w.heap.size (some ⟨g, 0, none⟩) qs := fun _ =>
  ⟨g, 0, rfl, hb.lt, fun i hi => ⟨fun j hj => by
    rw [Nat.zero_add, hb.cell]
    exact (h.2.2.2 i (by rw [h.1] at hi; exact hi)).1 j hj, (h.2.2.2 i (by rw [h.1] at hi; exact hi)).2.rd⟩⟩
theorem CpK.hi {t : TypeId} (h : CpK K dat w g n cs xs qs n) (hb : Blk w g t cs) (hl : lo ≤ g) : Hi (fun w Bd => RdK K w Bd (some ⟨g, 0, none⟩) qs) w lo := fun w' hk _ =>
  ⟨g, 0, rfl, hb.lt, fun i hi => ⟨fun j hj => by
    rw [Nat.zero_add, hk g _ hl hb.lt, hb.cell]
    exact (h.2.2.2 i (by rw [h.1] at hi; exact hi)).1 j hj, (h.2.2.2 i (by rw [h.1] at hi; exact hi)).2.1 w' fun b o h1 h2 => hk b o (by omega) h2⟩⟩
theorem CpK.own {t : TypeId} (h : CpK K dat w g n cs xs qs n) (hb : Blk w g t cs) (hl : lo ≤ g) : OwnX K w lo (some ⟨g, 0, none⟩) qs := fun _ =>
  ⟨t, g, cs, rfl, hl, hb, by rw [h.1, h.2.2.1]; exact Nat.le_refl _, fun i hi => ⟨(h.2.2.2 i (by rw [h.1] at hi; exact hi)).1, K.olow (h.2.2.2 i (by rw [h.1] at hi; exact hi)).2.2 (by omega)⟩⟩
theorem CpK.same (h : CpK K dat w g n cs xs qs n) (hn : xs.length = n) : qs.map dat = xs.map dat := by
  rw [h.2.1, List.take_of_length_le (by simp; omega)]
theorem same_len {xs ys : List α} (h : ys.map dat = xs.map dat) : ys.length = xs.length := by simpa using congrArg List.length h
theorem same_at {xs ys : List α} {z : α} (h : ys.map dat = xs.map dat) (k : Nat) : dat (ys.getD k z) = dat (xs.getD k z) := by
  have hm : ∀ l : List α, (l.map dat).getD k (dat z) = dat (l.getD k z) := fun l => by
    simp only [List.getD_eq_getElem?_getD, List.getElem?_map]
    cases l[k]? <;> rfl
  rw [← hm, h, hm]
end

/-- How much the first k hold. -/
def tkS (f : α → Nat) (z : α) (xs : List α) : Nat → Nat
  | 0 => 0
  | k + 1 => tkS f z xs k + f (xs.getD k z)
theorem tkS_mono (f : α → Nat) (z : α) (xs : List α) {i j : Nat} (h : i ≤ j) : tkS f z xs i ≤ tkS f z xs j := by
  induction j with
  | zero => obtain rfl : i = 0 := by omega
            exact Nat.le_refl _
  | succ j ih =>
    by_cases e : i = j + 1
    · subst e; exact Nat.le_refl _
    · have := ih (by omega)
      simp only [tkS]; omega
theorem tkS_one (f : α → Nat) (z : α) (xs : List α) {i j : Nat} (h : i < j) : f (xs.getD i z) ≤ tkS f z xs j := by
  have := tkS_mono f z xs (show i + 1 ≤ j by omega)
  simp only [tkS] at this
  omega
end
end Go.Proofs.Ytfdfjmibjnmhpaa.B
