/-
  An argument that is a report, or a slice of reports, opened. No statement is proved here.
-/
import Derived.Test.YtfdfjmibjnmhpaaChecked
import Derived.Test.YtfdfjmibjnmhpaaLift
import Derived.Test.YtfdfjmibjnmhpaaRp
import Derived.Deep.Slices
set_option linter.unusedVariables false
set_option maxRecDepth 100000
namespace Go.Proofs.Ytfdfjmibjnmhpaa.B
open Go.RowKit Go.ChangeShapes Go.WideShapes Go.Deep

section
variable {H : Type} {enc : TypeId × Value → H} {P : Program} {w : World} {base : Nat} {spare : Nat → Bool} {held : Bool}
theorem field_of {t : TypeId} {fs : Array Field} {fuel : Nat} {cs : List Value} {x : DataW H × List MemPlace} (ht : P.underlying t = some (.struct fs)) (h : DataW.trod enc P w base spare held fuel t cs = some x)
    (i : Nat) (f : Field) (hf : fs[i]? = some f) : ∃ n y, DataW.trod enc P w base spare held n f.type ((cs.drop f.offset).take (P.cellsOf f.type)) = some y := by
  obtain ⟨xs, n, _, _, _, hl, hg⟩ := DataW.trod_struct ht h
  have hi : i < fs.size := (Array.getElem?_eq_some_iff.1 hf).1
  exact ⟨n, _, (hg i f hf).trans (List.getElem?_eq_getElem (by omega))⟩
theorem int_field {t : TypeId} {fs : Array Field} {fuel : Nat} {cs : List Value} {x : DataW H × List MemPlace} (ht : P.underlying t = some (.struct fs)) (h : DataW.trod enc P w base spare held fuel t cs = some x)
    (i : Nat) (f : Field) (hf : fs[i]? = some f) (hk : P.underlying f.type = some (.int .i64)) (hc : P.cellsOf f.type = 1) : ∃ k, (cs.drop f.offset).take 1 = [.int .i64 k] := by
  obtain ⟨n, y, h1⟩ := field_of ht h i f hf
  rw [hc] at h1
  obtain ⟨k, e, _, _⟩ := DataW.trod_int hk h1
  exact ⟨k, e⟩
end

section
variable {H : Type} {enc : TypeId × Value → H} {P : Program} {w : World} {base : Nat} {spare : Nat → Bool} {held : Bool}
theorem trodAll_five {t t' t'' t3 t4 : TypeId} {args : Array Value} {ds : List (DataW H)} {ps : List MemPlace} (h : DataW.TrodAll enc P w base spare held [t, t', t'', t3, t4] args.toList ds ps) :
    ∃ v v' v'' v3 v4 d d' d'' d3 d4 p p' p'' p3 p4, args = #[v, v', v'', v3, v4] ∧ ds = [d, d', d'', d3, d4] ∧ ps = p ++ p' ++ p'' ++ p3 ++ p4 ∧ DataW.Trod enc P w base spare held t v d p ∧ DataW.Trod enc P w base spare held t' v' d' p' ∧ DataW.Trod enc P w base spare held t'' v'' d'' p'' ∧ DataW.Trod enc P w base spare held t3 v3 d3 p3 ∧ DataW.Trod enc P w base spare held t4 v4 d4 p4 := by
  obtain ⟨v, vs, d, ds', p, q, hargs, rfl, rfl, hd, hrest⟩ := trodAll_cons h
  obtain ⟨v', vs', d', ds'', p', q', rfl, rfl, rfl, hd', hrest'⟩ := trodAll_cons hrest
  obtain ⟨v'', vs'', d'', ds''', p'', q'', rfl, rfl, rfl, hd'', hrest''⟩ := trodAll_cons hrest'
  obtain ⟨v3, vs3, d3, ds3, p3, q3, rfl, rfl, rfl, hd3, hrest3⟩ := trodAll_cons hrest''
  obtain ⟨v4, vs4, d4, ds4, p4, q4, rfl, rfl, rfl, hd4, hrest4⟩ := trodAll_cons hrest3
  obtain ⟨rfl, rfl, rfl⟩ := trodAll_nil hrest4
  exact ⟨v, v', v'', v3, v4, d, d', d'', d3, d4, p, p', p'', p3, p4, by cases args; simp_all, rfl, by simp, hd, hd', hd'', hd3, hd4⟩
end

section
variable {H : Type} {enc : TypeId × Value → H} {w : World}
theorem open_vote {fuel : Nat} {cs : List Value} {x : DataW H × List MemPlace} (h : DataW.trod enc Try.prog w 0 (fun _ => true) true fuel 24 cs = some x) :
    ∃ a b : Int, cs = [.int .i64 a, .int .i64 b] := by
  obtain ⟨xs, n, _, _, hlen, _, _⟩ := DataW.trod_struct Try.underlying24 h
  rw [show Try.prog.cellsOf 24 = 2 by kernel_rfl] at hlen
  obtain ⟨a, ha⟩ := int_field Try.underlying24 h 0 _ rfl Try.underlying3 (by kernel_rfl)
  obtain ⟨b, hb⟩ := int_field Try.underlying24 h 1 _ rfl Try.underlying3 (by kernel_rfl)
  match cs, hlen with
  | [c0, c1], _ =>
    simp at ha hb
    exact ⟨a, b, by rw [ha, hb]⟩

theorem open_report {fuel : Nat} {cs : List Value} {x : DataW H × List MemPlace} (h : DataW.trod enc Try.prog w 0 (fun _ => true) true fuel 174 cs = some x) :
    ∃ (f a b : Int) (A : Option Addr) (c : Nat) (vs : List (Int × Int)), cs = [.int .i64 f, .int .i64 a, .int .i64 b, .slice A vs.length c] ∧ vs.length ≤ maxLen ∧ Rd w w.heap.size A vs := by
  obtain ⟨xs, n, _, _, hlen, _, _⟩ := DataW.trod_struct Try.underlying174 h
  rw [show Try.prog.cellsOf 174 = 4 by kernel_rfl] at hlen
  obtain ⟨k, hk⟩ := int_field Try.underlying174 h 0 _ rfl Try.underlying3 (by kernel_rfl)
  obtain ⟨n3, y3, h3⟩ := field_of Try.underlying174 h 1 _ rfl
  obtain ⟨n4, y4, h4⟩ := field_of Try.underlying174 h 2 _ rfl
  have h3 : DataW.trod enc Try.prog w 0 (fun _ => true) true n3 24 ((cs.drop 1).take (Try.prog.cellsOf 24)) = some y3 := h3
  have h4 : DataW.trod enc Try.prog w 0 (fun _ => true) true n4 22 ((cs.drop 3).take (Try.prog.cellsOf 22)) = some y4 := h4
  have e3 : Try.prog.cellsOf 24 = 2 := by kernel_rfl
  have e4 : Try.prog.cellsOf 22 = 1 := by kernel_rfl
  rw [e3] at h3
  rw [e4] at h4
  obtain ⟨a, b, hab⟩ := open_vote h3
  obtain ⟨A, c, vs, hcs, hm, hr⟩ := open_pairs Try.underlying22 Try.underlying24 (by kernel_rfl) rfl rfl (by kernel_rfl) (by kernel_rfl) Try.underlying3 Try.underlying3 h4
  match cs, hlen with
  | [c0, c1, c2, c3], _ =>
    simp at hk hab hcs
    exact ⟨k, a, b, A, c, vs, by rw [hk, hab.1, hab.2, hcs], hm, hr⟩

theorem open_reports {fuel : Nat} {cs : List Value} {x : DataW H × List MemPlace} (h : DataW.trod enc Try.prog w 0 (fun _ => true) true fuel 111 cs = some x) :
    ∃ (A : Option Addr) (c : Nat) (ps : List Pp), cs = [.slice A ps.length c] ∧ ps.length ≤ maxLen ∧ (∀ i, i < ps.length → (ps.getD i zP).r.vs.length ≤ maxLen) ∧ RdR w w.heap.size A ps := by
  rcases open_slice Try.underlying111 h with ⟨rfl, _⟩ | ⟨a, len, cap, m, n, D, Pl, rfl, _, hl, hm, hmm, _, hx⟩
  · exact ⟨none, 0, [], rfl, by simp [maxLen], fun i hi => absurd hi (by simp), RdR.nil_⟩
  · have hlm : len ≤ m := by rw [hmm]; simpa using hl
    have ce : Try.prog.cellsOf 174 = 4 := by kernel_rfl
    have each : ∀ i, i < len → ∃ q : Pp, four (fun j => w.cell? (a.add (i * 4 + j))) q ∧ q.r.vs.length ≤ maxLen ∧ Rd w w.heap.size q.A q.r.vs := by
      intro i hi
      obtain ⟨cs', h1, h2⟩ := hx i (by omega)
      rw [ce] at h1
      obtain ⟨_, hlen, hcell⟩ := World.cells?_some h1
      obtain ⟨f, va, vb, A', c', vs', rfl, hm', hr'⟩ := open_report h2
      have e0 := hcell 0 (by omega)
      have e1 := hcell 1 (by omega)
      have e2 := hcell 2 (by omega)
      have e3 := hcell 3 (by omega)
      rw [add_add] at e0 e1 e2 e3
      exact ⟨⟨⟨f, va, vb, vs'⟩, A', c'⟩, ⟨by simpa using e0, by simpa using e1, by simpa using e2, by simpa using e3⟩, hm', hr'⟩
    obtain ⟨q, hq⟩ := choose_lt each
    have hg : ∀ i, i < len → ((List.range len).map q).getD i zP = q i := fun i hi => by simp [List.getD, hi]
    refine ⟨some a, cap, (List.range len).map q, by simp, by simp; omega, fun i hi => ?_, fun hp => ?_⟩
    · have hi' : i < len := by simpa using hi
      rw [hg i hi']; exact (hq i hi').2.1
    · have hp' : 0 < len := by simpa using hp
      have hz0 := (hq 0 hp').1.1
      simp only [Nat.zero_mul, Nat.add_zero] at hz0
      rw [show a.add 0 = a from rfl] at hz0
      obtain ⟨b, off, rfl⟩ := addr_none hz0
      refine ⟨b, off, rfl, World.block_lt_of_cell? w ⟨b, off, none⟩ hz0, fun i hi => ?_⟩
      have hi' : i < len := by simpa using hi
      rw [hg i hi']
      obtain ⟨h0, h1, h2⟩ := hq i hi'
      refine ⟨?_, h2⟩
      unfold four at *
      simp only [add_plain] at h0
      simp only [Nat.add_assoc]
      exact h0
end
end Go.Proofs.Ytfdfjmibjnmhpaa.B
