/-
  An argument that is a message, opened: its five numbers, and its votes as a list. No statement is proved here.
-/
import Derived.Test.YtfbiblomblcheabChecked
import Derived.Test.YtfbiblomblcheabLift
set_option linter.unusedVariables false
set_option maxRecDepth 100000
namespace Go.Proofs.Ytfbiblomblcheab.B
open Go.RowKit Go.ChangeShapes Go.WideShapes Go.Deep

section
variable {H : Type} {enc : TypeId × Value → H} {P : Program} {w : World} {base : Nat} {spare : Nat → Bool} {held : Bool}
theorem field_of {t : TypeId} {fs : Array Field} {fuel : Nat} {cs : List Value} {x : DataW H × List MemPlace} (ht : P.underlying t = some (.struct fs)) (h : DataW.trod enc P w base spare held fuel t cs = some x)
    (i : Nat) (f : Field) (hf : fs[i]? = some f) : ∃ n y, DataW.trod enc P w base spare held n f.type ((cs.drop f.offset).take (P.cellsOf f.type)) = some y := by
  obtain ⟨xs, n, _, _, _, hl, hg⟩ := DataW.trod_struct ht h
  have hi : i < fs.size := (Array.getElem?_eq_some_iff.1 hf).1
  exact ⟨n, _, (hg i f hf).trans (List.getElem?_eq_getElem (by omega))⟩
theorem int_field {t : TypeId} {fs : Array Field} {fuel : Nat} {cs : List Value} {x : DataW H × List MemPlace} (ht : P.underlying t = some (.struct fs)) (h : DataW.trod enc P w base spare held fuel t cs = some x)
    (i : Nat) (f : Field) (hf : fs[i]? = some f) (hk : P.underlying f.type = some (.int .i64)) (hc : P.cellsOf f.type = 1) : ∃ k, (cs.drop f.offset).take 1 = [.int .i64 k] := by
  obtain ⟨n, y, h1⟩ := field_of ht h i f hf
  rw [hc] at h1
  obtain ⟨k, e, _, _⟩ := DataW.trod_int hk h1
  exact ⟨k, e⟩
end

section
variable {H : Type} {enc : TypeId × Value → H} {w : World}
theorem open_vote {fuel : Nat} {cs : List Value} {x : DataW H × List MemPlace} (h : DataW.trod enc Try.prog w 0 (fun _ => true) true fuel 37 cs = some x) :
    ∃ a b : Int, cs = [.int .i64 a, .int .i64 b] := by
  obtain ⟨xs, n, _, _, hlen, _, _⟩ := DataW.trod_struct Try.underlying37 h
  rw [show Try.prog.cellsOf 37 = 2 by kernel_rfl] at hlen
  obtain ⟨a, ha⟩ := int_field Try.underlying37 h 0 _ rfl Try.underlying3 (by kernel_rfl)
  obtain ⟨b, hb⟩ := int_field Try.underlying37 h 1 _ rfl Try.underlying3 (by kernel_rfl)
  match cs, hlen with
  | [c0, c1], _ =>
    simp at ha hb
    exact ⟨a, b, by rw [ha, hb]⟩

theorem open_msg {fuel : Nat} {cs : List Value} {x : DataW H × List MemPlace} (h : DataW.trod enc Try.prog w 0 (fun _ => true) true fuel 39 cs = some x) :
    ∃ (k v x a b : Int) (A : Option Addr) (c : Nat) (vs : List (Int × Int)), cs = [.int .i64 k, .int .i64 v, .int .i64 x, .int .i64 a, .int .i64 b, .slice A vs.length c] ∧ vs.length ≤ maxLen ∧ Rd w w.heap.size A vs := by
  obtain ⟨xs, n, _, _, hlen, _, _⟩ := DataW.trod_struct Try.underlying39 h
  rw [show Try.prog.cellsOf 39 = 6 by kernel_rfl] at hlen
  obtain ⟨k, hk⟩ := int_field Try.underlying39 h 0 _ rfl Try.underlying3 (by kernel_rfl)
  obtain ⟨v, hv⟩ := int_field Try.underlying39 h 1 _ rfl Try.underlying3 (by kernel_rfl)
  obtain ⟨x, hx⟩ := int_field Try.underlying39 h 2 _ rfl Try.underlying3 (by kernel_rfl)
  obtain ⟨n3, y3, h3⟩ := field_of Try.underlying39 h 3 _ rfl
  obtain ⟨n4, y4, h4⟩ := field_of Try.underlying39 h 4 _ rfl
  have h3 : DataW.trod enc Try.prog w 0 (fun _ => true) true n3 37 ((cs.drop 3).take (Try.prog.cellsOf 37)) = some y3 := h3
  have h4 : DataW.trod enc Try.prog w 0 (fun _ => true) true n4 32 ((cs.drop 5).take (Try.prog.cellsOf 32)) = some y4 := h4
  have e3 : Try.prog.cellsOf 37 = 2 := by kernel_rfl
  have e4 : Try.prog.cellsOf 32 = 1 := by kernel_rfl
  rw [e3] at h3
  rw [e4] at h4
  obtain ⟨a, b, hab⟩ := open_vote h3
  obtain ⟨A, c, vs, hcs, hm, hr⟩ := open_pairs Try.underlying32 Try.underlying37 (by kernel_rfl) rfl rfl (by kernel_rfl) (by kernel_rfl) Try.underlying3 Try.underlying3 h4
  match cs, hlen with
  | [c0, c1, c2, c3, c4, c5], _ =>
    simp at hk hv hx hab hcs
    exact ⟨k, v, x, a, b, A, c, vs, by rw [hk, hv, hx, hab.1, hab.2, hcs], hm, hr⟩
end
end Go.Proofs.Ytfbiblomblcheab.B
