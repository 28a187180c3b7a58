/-
  RepOk of the model and of the program answer alike: contracts. From a walk of a law ('it returns true, and what was there is as it was') to the statement's own form: the arguments' reading behind the call, the frame, the result. Generic; no statement is proved here. An argument that is a message, opened: its five numbers, and its votes as a list. What the helpers of the laws do with messages: contracts of szMsg, toMsg and eqMsg. Small steps for the walks of laws: a box and a list kept over a call. Lists of bytes in memory, and what eqByteS, markByteS, heldByteS and toByteS do: contracts. What the helpers markVoteS, heldVoteS, markMsg and heldMsg do: contracts. Rows of bytes and blocks kept behind a mark that is laid on another block. What insertVote answers: its contract. Rows of votes of the call's own, and the marks laid on them. A region that draws its order, walked by what holds between any two of its operations: each operation is walked once, whatever the order. No statement is proved here.
-/
import Derived.Test.YtfdfjmibjnmhpaaGreatK06
import Derived.Test.YtfdfjmibjnmhpaaGreatK07
import Derived.Test.YtfdfjmibjnmhpaaGreatK01
import Derived.Carry
import Derived.ChangeSame
import Derived.Deep.SlicePairs
import Derived.Test.YtfdfjmibjnmhpaaGreatChecked
import Derived.StillTailTactics
import Derived.Deep.AppendLies
import Derived.OwnWalk
import Derived.IntWalk
import Derived.Orders
import Derived.RegionTactic
set_option linter.unusedVariables false
set_option maxRecDepth 100000
namespace Go.Proofs.YtfdfjmibjnmhpaaGreat.V
open Go.RowKit Go.Proofs.YtfdfjmibjnmhpaaGreat.B

theorem done_no0 {x : Int} (h : decide (0 ≤ x) = false) : doneQ x = false := by
  unfold doneQ valOkB; simp at h ⊢; omega
theorem done_no60 {x : Int} (h : decide (x ≤ 60) = false) : doneQ x = false := by
  unfold doneQ valOkB; simp at h ⊢; omega
theorem done_yes {x : Int} (h : decide (0 ≤ x) = true) (h2 : decide (x ≤ 60) = true) : doneQ x = true := by
  unfold doneQ valOkB; simp at h h2 ⊢; omega
theorem specRepOk_is (z : Bool) (q : Rq) (hz : repQ q.dat = z) (w : World) (hr : RdQ w w.heap.size q) (hf : FewQ q) :
    Calls Tryz.prog 51 #[q.agg] w fun e w' => e = .returned (.bool z) ∧ Below w.heap.size w w' := by
  have hz' : ((sizeB q.n && (decide (0 ≤ q.id) && (decide (q.id < q.n) && (valOkB q.own && (viewOkB q.view && (decide (1 ≤ q.left) && decide (q.left ≤ 3 + q.view))))))) && (votesOkB q.voted (q.view + 1) && (doneQ q.dn && (lockOkB q.lv q.lx (q.view + 1) && (talsQ q.dat && heardB q.n (hl q.hs)))))) = z := hz
  clear hz
  rcases hs_ : sizeB q.n with _ | _
  · obtain rfl : z = false := by rw [← hz']; simp [hs_]
    exact specRepOk_f0 q w hr hf hs_
  rcases h1 : decide (0 ≤ q.id) with _ | _
  · obtain rfl : z = false := by rw [← hz']; simp [h1]
    exact specRepOk_f1 q w hr hf hs_ h1
  rcases h2 : decide (q.id < q.n) with _ | _
  · obtain rfl : z = false := by rw [← hz']; simp [h2]
    exact specRepOk_f2 q w hr hf hs_ h1 h2
  rcases h3 : valOkB q.own with _ | _
  · obtain rfl : z = false := by rw [← hz']; simp [h3]
    exact specRepOk_f3 q w hr hf hs_ h1 h2 h3
  rcases h4 : viewOkB q.view with _ | _
  · obtain rfl : z = false := by rw [← hz']; simp [h4]
    exact specRepOk_f4 q w hr hf hs_ h1 h2 h3 h4
  rcases h5 : decide (1 ≤ q.left) with _ | _
  · obtain rfl : z = false := by rw [← hz']; simp [h5]
    exact specRepOk_f5 q w hr hf hs_ h1 h2 h3 h4 h5
  rcases h6 : decide (q.left ≤ 3 + q.view) with _ | _
  · obtain rfl : z = false := by rw [← hz']; simp [h6]
    exact specRepOk_f6 q w hr hf hs_ h1 h2 h3 h4 h5 h6
  rcases h7 : votesOkB q.voted (q.view + 1) with _ | _
  · obtain rfl : z = false := by rw [← hz']; simp [h7]
    exact specRepOk_f7 q w hr hf hs_ h1 h2 h3 h4 h5 h6 h7
  rcases h8 : decide (0 ≤ q.dn) with _ | _
  · obtain rfl : z = false := by rw [← hz']; simp [done_no0 h8]
    exact specRepOk_f8 q w hr hf hs_ h1 h2 h3 h4 h5 h6 h7 h8
  rcases h9 : decide (q.dn ≤ 60) with _ | _
  · obtain rfl : z = false := by rw [← hz']; simp [done_no60 h9]
    exact specRepOk_f9 q w hr hf hs_ h1 h2 h3 h4 h5 h6 h7 h8 h9
  exact specRepOk_rest z q w hr hf hs_ h1 h2 h3 h4 h5 h6 h7 h8 h9 (by rw [← hz']; rw [hs_, h1, h2, h3, h4, h5, h6, h7, done_yes h8 h9]; rfl)

theorem implRepOk_is (z : Bool) (q : Rq) (hz : repQ q.dat = z) (w : World) (hr : RdQ w w.heap.size q) (hf : FewQ q) :
    Calls Tryz.prog 81 #[q.agg] w fun e w' => e = .returned (.bool z) ∧ Below w.heap.size w w' := by
  have hz' : ((sizeB q.n && (decide (0 ≤ q.id) && (decide (q.id < q.n) && (valOkB q.own && (viewOkB q.view && (decide (1 ≤ q.left) && decide (q.left ≤ 3 + q.view))))))) && (votesOkB q.voted (q.view + 1) && (doneQ q.dn && (lockOkB q.lv q.lx (q.view + 1) && (talsQ q.dat && heardB q.n (hl q.hs)))))) = z := hz
  clear hz
  rcases hs_ : sizeB q.n with _ | _
  · obtain rfl : z = false := by rw [← hz']; simp [hs_]
    exact implRepOk_f0 q w hr hf hs_
  rcases h1 : decide (0 ≤ q.id) with _ | _
  · obtain rfl : z = false := by rw [← hz']; simp [h1]
    exact implRepOk_f1 q w hr hf hs_ h1
  rcases h2 : decide (q.id < q.n) with _ | _
  · obtain rfl : z = false := by rw [← hz']; simp [h2]
    exact implRepOk_f2 q w hr hf hs_ h1 h2
  rcases h3 : valOkB q.own with _ | _
  · obtain rfl : z = false := by rw [← hz']; simp [h3]
    exact implRepOk_f3 q w hr hf hs_ h1 h2 h3
  rcases h4 : viewOkB q.view with _ | _
  · obtain rfl : z = false := by rw [← hz']; simp [h4]
    exact implRepOk_f4 q w hr hf hs_ h1 h2 h3 h4
  rcases h5 : decide (1 ≤ q.left) with _ | _
  · obtain rfl : z = false := by rw [← hz']; simp [h5]
    exact implRepOk_f5 q w hr hf hs_ h1 h2 h3 h4 h5
  rcases h6 : decide (q.left ≤ 3 + q.view) with _ | _
  · obtain rfl : z = false := by rw [← hz']; simp [h6]
    exact implRepOk_f6 q w hr hf hs_ h1 h2 h3 h4 h5 h6
  rcases h7 : votesOkB q.voted (q.view + 1) with _ | _
  · obtain rfl : z = false := by rw [← hz']; simp [h7]
    exact implRepOk_f7 q w hr hf hs_ h1 h2 h3 h4 h5 h6 h7
  rcases h8 : lockOkB q.lv q.lx (q.view + 1) with _ | _
  · obtain rfl : z = false := by rw [← hz']; simp [h8]
    exact implRepOk_f8 q w hr hf hs_ h1 h2 h3 h4 h5 h6 h7 h8
  exact implRepOk_rest z q w hr hf hs_ h1 h2 h3 h4 h5 h6 h7 h8 (by rw [← hz']; rw [hs_, h1, h2, h3, h4, h5, h6, h7, h8]; simp)

end Go.Proofs.YtfdfjmibjnmhpaaGreat.V

namespace Go.Proofs.YtfdfjmibjnmhpaaGreat.B
open Go.RowKit Go.ChangeShapes Go.WideShapes Go.Deep

section
variable {H : Type} {enc : TypeId × Value → H} {P : Program}

def typesRowed (P : Program) (ts : List TypeId) : Bool := ts.all fun t => P.readableRec t && decide (t < P.types.size)

theorem trodAll_below (hl : laidOutB P = true) {W W' : World} (hb : Below W.heap.size W W') : ∀ {ts : List TypeId} {vs : List Value} {ds : List (DataW H)} {ps : List MemPlace}, typesRowed P ts = true →
    DataW.TrodAll enc P W 0 (fun _ => true) true ts vs ds ps → (∀ x ∈ ps, x.block < W.heap.size) → DataW.TrodAll enc P W' 0 (fun b => decide (b < W.heap.size)) true ts vs ds ps
  | [], [], [], _, _, h, _ => h
  | t :: ts, v :: vs, d :: ds, ps, hr, ⟨p, q, h, hs, e⟩, hlt => by
    simp only [typesRowed, List.all_cons, Bool.and_eq_true, decide_eq_true_eq] at hr
    refine ⟨p, q, Below.trod hl hr.1.1 hr.1.2 h hb (fun x hx => hlt x (by rw [e]; simp [hx])), trodAll_below hl hb (by simpa [typesRowed] using hr.2) hs (fun x hx => hlt x (by rw [e]; simp [hx])), e⟩

/-- What a law's statement asks behind the call. -/
theorem law_post {f : Func} {s : ChangeSpec} {W W' : World} {args : Array Value} {ds gs : List (DataW H)} {before : List MemPlace} {tb : TypeId} (hl : laidOutB P = true)
    (hW : DataW.Whole enc P f.params.toList s.vars false W args.toList ds gs before) (hb : Below W.heap.size W W') (hv : s.vars = []) (htb : f.resultTypes = #[tb]) (hub : P.underlying tb = some .bool)
    (hty : typesRowed P f.params.toList = true) (hf : s.fn H ds = { results := [.lit (.bool true)], args := ds }) : s.post enc P f false true false false W args (.bool true) W' := by
  have hlt := hW.lt
  obtain ⟨p, q, hA, hV, rfl, _, _⟩ := id hW
  rw [hv] at hV
  obtain ⟨rfl, rfl⟩ := trodVars_none hV
  refine ⟨ds, [], p ++ [], [], p, [], hW, ?_, ?_, ?_, Below.frame hb _, fun h => by cases h⟩
  · rw [htb, List.append_nil, hf]
    exact trodAll_mk1 (shut_bool hub true)
  · rw [List.append_nil, hf]
    exact trodAll_below hl hb hty hA (fun x hx => by simpa using hlt x (by simp [hx]))
  · rw [hv, List.append_nil, hf]
    rfl
end

section
variable {H : Type} {enc : TypeId × Value → H} {P : Program} {w : World}

theorem addr_none {a : Addr} {v : Value} (h : w.cell? a = some v) : ∃ b off, a = ⟨b, off, none⟩ := by
  obtain ⟨b, off, spot⟩ := a
  have := World.cell?_spot h
  simp only at this
  subst this
  exact ⟨b, off, rfl⟩

/-- An argument that is a slice of structs of two ints, opened as 'Rd'. -/
theorem open_pairs {t e : TypeId} {f0 f1 : Field} {fuel : Nat} {cs : List Value} {x : DataW H × List MemPlace} (ht : P.underlying t = some (.slice e)) (he : P.underlying e = some (.struct #[f0, f1]))
    (ce : P.cellsOf e = 2) (o0 : f0.offset = 0) (o1 : f1.offset = 1) (c0 : P.cellsOf f0.type = 1) (c1 : P.cellsOf f1.type = 1) (k0 : P.underlying f0.type = some (.int .i64)) (k1 : P.underlying f1.type = some (.int .i64))
    (h : DataW.trod enc P w 0 (fun _ => true) true fuel t cs = some x) :
    ∃ (A : Option Addr) (c : Nat) (vs : List (Int × Int)), cs = [.slice A vs.length c] ∧ vs.length ≤ maxLen ∧ Rd w w.heap.size A vs := by
  rcases open_slice_pairs ht he ce o0 o1 c0 c1 h with ⟨rfl, _⟩ | ⟨a, len, cap, m, n, V0, V1, D0, D1, P0, P1, rfl, _, hl, hm, hmm, _, hx⟩
  · exact ⟨none, 0, [], rfl, by simp [maxLen], Rd.nil_⟩
  · have hlm : len ≤ m := by rw [hmm]; simpa using hl
    refine ⟨some a, cap, (List.range len).map fun i => (intOf (V0 i), intOf (V1 i)), by simp, by simp; omega, fun hp => ?_⟩
    have hp' : 0 < len := by simpa using hp
    have hz0 := (hx 0 (by omega)).1
    rw [Nat.zero_mul, show a.add 0 = a from rfl] at hz0
    obtain ⟨b, off, rfl⟩ := addr_none hz0
    refine ⟨b, off, rfl, World.block_lt_of_cell? w ⟨b, off, none⟩ hz0, fun i hi => ?_⟩
    have hi' : i < len := by simpa using hi
    obtain ⟨h0, h1, t0, t1⟩ := hx i (by omega)
    obtain ⟨n0, e0, _, _⟩ := DataW.trod_int k0 t0
    obtain ⟨n1, e1, _, _⟩ := DataW.trod_int k1 t1
    simp only [List.cons.injEq, and_true] at e0 e1
    rw [add_plain] at h0
    rw [add_plain] at h1
    have hg : ((List.range len).map fun i => (intOf (V0 i), intOf (V1 i))).getD i (0, 0) = (n0, n1) := by
      simp [List.getD, hi', e0, e1, intOf]
    rw [hg]
    exact ⟨by rw [h0, e0], by rw [Nat.add_assoc, h1, e1]⟩
end
end Go.Proofs.YtfdfjmibjnmhpaaGreat.B

namespace Go.Proofs.YtfdfjmibjnmhpaaGreat.B
open Go.RowKit Go.ChangeShapes Go.WideShapes Go.Deep

section
variable {H : Type} {enc : TypeId × Value → H} {P : Program} {w : World} {base : Nat} {spare : Nat → Bool} {held : Bool}
theorem field_of {t : TypeId} {fs : Array Field} {fuel : Nat} {cs : List Value} {x : DataW H × List MemPlace} (ht : P.underlying t = some (.struct fs)) (h : DataW.trod enc P w base spare held fuel t cs = some x)
    (i : Nat) (f : Field) (hf : fs[i]? = some f) : ∃ n y, DataW.trod enc P w base spare held n f.type ((cs.drop f.offset).take (P.cellsOf f.type)) = some y := by
  obtain ⟨xs, n, _, _, _, hl, hg⟩ := DataW.trod_struct ht h
  have hi : i < fs.size := (Array.getElem?_eq_some_iff.1 hf).1
  exact ⟨n, _, (hg i f hf).trans (List.getElem?_eq_getElem (by omega))⟩
theorem int_field {t : TypeId} {fs : Array Field} {fuel : Nat} {cs : List Value} {x : DataW H × List MemPlace} (ht : P.underlying t = some (.struct fs)) (h : DataW.trod enc P w base spare held fuel t cs = some x)
    (i : Nat) (f : Field) (hf : fs[i]? = some f) (hk : P.underlying f.type = some (.int .i64)) (hc : P.cellsOf f.type = 1) : ∃ k, (cs.drop f.offset).take 1 = [.int .i64 k] := by
  obtain ⟨n, y, h1⟩ := field_of ht h i f hf
  rw [hc] at h1
  obtain ⟨k, e, _, _⟩ := DataW.trod_int hk h1
  exact ⟨k, e⟩
end

section
variable {H : Type} {enc : TypeId × Value → H} {w : World}
theorem open_vote {fuel : Nat} {cs : List Value} {x : DataW H × List MemPlace} (h : DataW.trod enc Tryz.prog w 0 (fun _ => true) true fuel 78 cs = some x) :
    ∃ a b : Int, cs = [.int .i64 a, .int .i64 b] := by
  obtain ⟨xs, n, _, _, hlen, _, _⟩ := DataW.trod_struct Tryz.underlying78 h
  rw [show Tryz.prog.cellsOf 78 = 2 by kernel_rfl] at hlen
  obtain ⟨a, ha⟩ := int_field Tryz.underlying78 h 0 _ rfl Tryz.underlying3 (by kernel_rfl)
  obtain ⟨b, hb⟩ := int_field Tryz.underlying78 h 1 _ rfl Tryz.underlying3 (by kernel_rfl)
  match cs, hlen with
  | [c0, c1], _ =>
    simp at ha hb
    exact ⟨a, b, by rw [ha, hb]⟩

theorem open_msg {fuel : Nat} {cs : List Value} {x : DataW H × List MemPlace} (h : DataW.trod enc Tryz.prog w 0 (fun _ => true) true fuel 106 cs = some x) :
    ∃ (k v x a b : Int) (A : Option Addr) (c : Nat) (vs : List (Int × Int)), cs = [.int .i64 k, .int .i64 v, .int .i64 x, .int .i64 a, .int .i64 b, .slice A vs.length c] ∧ vs.length ≤ maxLen ∧ Rd w w.heap.size A vs := by
  obtain ⟨xs, n, _, _, hlen, _, _⟩ := DataW.trod_struct Tryz.underlying106 h
  rw [show Tryz.prog.cellsOf 106 = 6 by kernel_rfl] at hlen
  obtain ⟨k, hk⟩ := int_field Tryz.underlying106 h 0 _ rfl Tryz.underlying3 (by kernel_rfl)
  obtain ⟨v, hv⟩ := int_field Tryz.underlying106 h 1 _ rfl Tryz.underlying3 (by kernel_rfl)
  obtain ⟨x, hx⟩ := int_field Tryz.underlying106 h 2 _ rfl Tryz.underlying3 (by kernel_rfl)
  obtain ⟨n3, y3, h3⟩ := field_of Tryz.underlying106 h 3 _ rfl
  obtain ⟨n4, y4, h4⟩ := field_of Tryz.underlying106 h 4 _ rfl
  have h3 : DataW.trod enc Tryz.prog w 0 (fun _ => true) true n3 78 ((cs.drop 3).take (Tryz.prog.cellsOf 78)) = some y3 := h3
  have h4 : DataW.trod enc Tryz.prog w 0 (fun _ => true) true n4 77 ((cs.drop 5).take (Tryz.prog.cellsOf 77)) = some y4 := h4
  have e3 : Tryz.prog.cellsOf 78 = 2 := by kernel_rfl
  have e4 : Tryz.prog.cellsOf 77 = 1 := by kernel_rfl
  rw [e3] at h3
  rw [e4] at h4
  obtain ⟨a, b, hab⟩ := open_vote h3
  obtain ⟨A, c, vs, hcs, hm, hr⟩ := open_pairs Tryz.underlying77 Tryz.underlying78 (by kernel_rfl) rfl rfl (by kernel_rfl) (by kernel_rfl) Tryz.underlying3 Tryz.underlying3 h4
  match cs, hlen with
  | [c0, c1, c2, c3, c4, c5], _ =>
    simp at hk hv hx hab hcs
    exact ⟨k, v, x, a, b, A, c, vs, by rw [hk, hv, hx, hab.1, hab.2, hcs], hm, hr⟩
end
end Go.Proofs.YtfdfjmibjnmhpaaGreat.B

namespace Go.Proofs.YtfdfjmibjnmhpaaGreat.V
open Go.RowKit Go.Proofs.YtfdfjmibjnmhpaaGreat.B

theorem szMsg_any (k v x a b : Int) (A : Option Addr) (n c : Nat) (left : Int) (w : World) (hn : n ≤ maxLen) (h0 : 0 ≤ left) (h1 : left ≤ 1048576) :
    Calls Tryz.prog 68 #[.agg #[.int .i64 k, .int .i64 v, .int .i64 x, .int .i64 a, .int .i64 b, .slice A n c], .int .i64 left] w fun e w' => e = .returned (.int .i64 (if left < n then -1 else left - n)) ∧ Below w.heap.size w w' := by
  by_cases h : left < n
  · have hc : ∀ W, Calls Tryz.prog 65 #[.slice A n c, .int .i64 left] W fun e w' => e = .returned (.int .i64 (-1)) ∧ W = w' := fun W => by
      have := sz_any A n c left W hn h0 h1
      rwa [if_pos h] at this
    have HC := Lib.hid hc; clear hc
    rw [if_pos h]
    go_enter Tryz.func68, Tryz.ntmps68
    go_wp2_with (go_at_call 65; refine (HC.out _).mono ?_; rintro e w1 ⟨rfl, rfl⟩)
    go_ret
    exact ⟨rfl, (Below.refl _ _).alloc (Nat.le_refl _) _⟩
  · have hc : ∀ W, Calls Tryz.prog 65 #[.slice A n c, .int .i64 left] W fun e w' => e = .returned (.int .i64 (left - n)) ∧ W = w' := fun W => by
      have := sz_any A n c left W hn h0 h1
      rwa [if_neg h] at this
    have HC := Lib.hid hc; clear hc
    rw [if_neg h]
    go_enter Tryz.func68, Tryz.ntmps68
    go_wp2_with (go_at_call 65; refine (HC.out _).mono ?_; rintro e w1 ⟨rfl, rfl⟩)
    go_ret
    exact ⟨rfl, (Below.refl _ _).alloc (Nat.le_refl _) _⟩

set_option maxHeartbeats 400000 in
theorem toMsg_any (k v x a b : Int) (A : Option Addr) (c : Nat) (vs : List (Int × Int)) (w : World) (hr : Rd w w.heap.size A vs) (hn : vs.length ≤ 1048576) :
    Calls Tryz.prog 79 #[.agg #[.int .i64 k, .int .i64 v, .int .i64 x, .int .i64 a, .int .i64 b, .slice A vs.length c]] w fun e w' =>
      ∃ g cs, e = .returned (.agg #[.int .i64 k, .int .i64 v, .int .i64 x, .int .i64 a, .int .i64 b, .slice (some ⟨g, 0, none⟩) vs.length vs.length]) ∧ w.heap.size ≤ g ∧ Blk w' g 61 cs ∧ PC cs vs vs.length ∧ Below w.heap.size w w' := by
  go_enter Tryz.func79, Tryz.ntmps79
  go_wp2_with fail
  refine (toVote_any a b _).mono ?_
  rintro e w1 ⟨rfl, hb1⟩
  obtain ⟨hc1, hf1⟩ := bcell hb1
  have hz1 : w.heap.size + 2 < w1.heap.size := by have := hb1.size; simp at this; omega
  have hz1a : w.heap.size + 1 < w1.heap.size := by omega
  have hz1b : w.heap.size < w1.heap.size := by omega
  have hB1 : Below w.heap.size w w1 := Below.trans (by repeat (first | exact Below.refl _ _ | refine Below.alloc ?_ (by simp <;> omega) _ | refine Below.setCell ?_ (by simp <;> omega) _)) (hb1.mono (by simp; omega))
  have hr1 : Rd w1 w1.heap.size A vs := (hr.below hB1).more hB1.size
  clear hb1
  go_wp2_with fail
  refine (toVoteS_any A c vs _ ?_ hn).mono ?_
  · exact (hr.below (by repeat (first | exact hB1 | refine Below.setCell ?_ (by simp <;> omega) _))).more (by simp [World.setCell]; omega)
  rintro e w2 ⟨g, cs, rfl, hg, hk, hp, hb2⟩
  obtain ⟨hc2, hf2⟩ := bcell hb2
  have hz2 : w1.heap.size ≤ w2.heap.size := by have := hb2.size; simpa [World.setCell] using this
  have hz3 : w.heap.size + 2 < w2.heap.size := by omega
  have hz3a : w.heap.size + 1 < w2.heap.size := by omega
  have hz3b : w.heap.size < w2.heap.size := by omega
  have hg3 : w1.heap.size ≤ g := by simpa [World.setCell] using hg
  have hB2 : Below w.heap.size w w2 := Below.trans (by repeat (first | exact hB1 | refine Below.setCell ?_ (by simp <;> omega) _)) (hb2.mono (by simp [World.setCell]; omega))
  clear hb2 hr1 hB1 hg
  go_wp2
  refine bodyPost_ret (v := .agg #[.int .i64 k, .int .i64 v, .int .i64 x, .int .i64 a, .int .i64 b, .slice (some ⟨g, 0, none⟩) vs.length vs.length]) (by simp [results, Tryz.results79, go_sem, hc1, hc2, hz1a]) rfl ⟨g, cs, rfl, by omega, ?_, hp, ?_⟩
  · iterate 7 refine Blk.far ?_ (by simp; omega) _
    exact hk
  · iterate 7 refine Below.setCell ?_ (by simp <;> omega) _
    exact hB2

set_option maxHeartbeats 400000 in
theorem eqMsg_same (k v x a b : Int) (A C : Option Addr) (c d : Nat) (vs : List (Int × Int)) (w : World) (hr : Rd w w.heap.size A vs) (hs : Rd w w.heap.size C vs) (hn : vs.length ≤ 1048576) :
    Calls Tryz.prog 43 #[.agg #[.int .i64 k, .int .i64 v, .int .i64 x, .int .i64 a, .int .i64 b, .slice A vs.length c], .agg #[.int .i64 k, .int .i64 v, .int .i64 x, .int .i64 a, .int .i64 b, .slice C vs.length d]] w fun e w' => e = .returned (.bool true) ∧ Below w.heap.size w w' := by
  have hne : ∀ i : Int, (i != i) = false := fun i => by simp
  go_enter Tryz.func43, Tryz.ntmps43
  go_wp2_with fail
  refine (eqVote_is true a b a b (by simp) _).mono ?_
  rintro e w1 ⟨rfl, hb1⟩
  obtain ⟨hc1, hf1⟩ := bcell hb1
  have hz1a : w.heap.size + 1 < w1.heap.size := by have := hb1.size; simp at this; omega
  have hz1b : w.heap.size < w1.heap.size := by omega
  have hB1 : Below w.heap.size w w1 := Below.trans (((Below.refl _ _).alloc (Nat.le_refl _) _).alloc (by simp) _) (hb1.mono (by simp; omega))
  have hr1 : Rd w1 w1.heap.size A vs := (hr.below hB1).more hB1.size
  have hs1 : Rd w1 w1.heap.size C vs := (hs.below hB1).more hB1.size
  clear hb1 hr hs
  go_wp2_with fail
  refine (eqVoteS_same A C c d vs _ hr1 hs1 hn).mono ?_
  rintro e w2 ⟨rfl, hb2⟩
  have hB2 : Below w.heap.size w w2 := hB1.trans (hb2.mono hB1.size)
  go_wp2
  go_ret
  exact ⟨rfl, hB2⟩
end Go.Proofs.YtfdfjmibjnmhpaaGreat.V

namespace Go.Proofs.YtfdfjmibjnmhpaaGreat.B
open Go.RowKit

theorem Rd.dr {w : World} {A : Option Addr} {vs : List (Int × Int)} (h : Rd w w.heap.size A vs) : Rd w.drew w.drew.heap.size A vs := h
end Go.Proofs.YtfdfjmibjnmhpaaGreat.B
namespace Go.Proofs.YtfdfjmibjnmhpaaGreat.V
open Go.RowKit Go.Proofs.YtfdfjmibjnmhpaaGreat.B
theorem szMsg_big (k v x a b : Int) (A : Option Addr) (c : Nat) (vs : List (Int × Int)) (w : World) (hm : vs.length ≤ maxLen) (hn : (1048576 : Int) < vs.length) :
    Calls Tryz.prog 68 #[.agg #[.int .i64 k, .int .i64 v, .int .i64 x, .int .i64 a, .int .i64 b, .slice A vs.length c], .int .i64 1048576] w fun e w' => e = .returned (.int .i64 (-1)) ∧ Below w.heap.size w w' := by
  have := szMsg_any k v x a b A vs.length c 1048576 w hm (by omega) (by omega)
  rwa [if_pos (by omega)] at this
theorem szMsg_small (k v x a b : Int) (A : Option Addr) (c : Nat) (vs : List (Int × Int)) (w : World) (hn : vs.length ≤ 1048576) :
    Calls Tryz.prog 68 #[.agg #[.int .i64 k, .int .i64 v, .int .i64 x, .int .i64 a, .int .i64 b, .slice A vs.length c], .int .i64 1048576] w fun e w' => e = .returned (.int .i64 (1048576 - vs.length)) ∧ Below w.heap.size w w' := by
  have := szMsg_any k v x a b A vs.length c 1048576 w (by unfold maxLen; omega) (by omega) (by omega)
  rwa [if_neg (by omega)] at this
end Go.Proofs.YtfdfjmibjnmhpaaGreat.V

namespace Go.Proofs.YtfdfjmibjnmhpaaGreat.B
open Go.RowKit

/-- A slice value at address A reads, below block Bd, as the bytes xs. -/
def RdB (w : World) (Bd : Nat) (A : Option Addr) (xs : List Int) : Prop :=
  0 < xs.length → ∃ b off, A = some ⟨b, off, none⟩ ∧ b < Bd ∧ ∀ i, i < xs.length → w.cell? ⟨b, off + i, none⟩ = some (.int .u8 (xs.getD i 0))
section
variable {w w' : World} {Bd Bd' : Nat} {A : Option Addr} {xs : List Int}
theorem RdB.keep (h : RdB w Bd A xs) (hk : ∀ b o, b < Bd → w'.cell? ⟨b, o, none⟩ = w.cell? ⟨b, o, none⟩) : RdB w' Bd A xs := fun hn => by
  obtain ⟨b, off, e, hb, hc⟩ := h hn
  exact ⟨b, off, e, hb, fun i hi => (hk _ _ hb).trans (hc i hi)⟩
theorem RdB.more (h : RdB w Bd A xs) (hB : Bd ≤ Bd') : RdB w Bd' A xs := fun hn => by
  obtain ⟨b, off, e, hb, hc⟩ := h hn
  exact ⟨b, off, e, by omega, hc⟩
theorem RdB.below (h : RdB w Bd A xs) (hb : Below Bd w w') : RdB w' Bd A xs := h.keep fun _ _ hp => hb.cell hp
theorem RdB.alloc (h : RdB w Bd A xs) (hB : Bd ≤ w.heap.size) (o : Obj) : RdB (w.alloc o) Bd A xs := h.keep fun b o' hp => World.cell?_alloc_lt w o ⟨b, o', none⟩ (by simpa using (show b < w.heap.size by omega))
theorem RdB.on (h : RdB w w.heap.size A xs) (hb : Below w.heap.size w w') : RdB w' w'.heap.size A xs := (h.below hb).more hb.size
theorem RdB.up (h : RdB w w.heap.size A xs) (O : Obj) : RdB (w.alloc O) (w.alloc O).heap.size A xs := (h.alloc (Nat.le_refl _) O).more (by simp)
theorem RdB.nil_ : RdB w Bd A [] := fun h => absurd h (by simp)
theorem RdB.at_ (h : RdB w Bd A xs) {k : Nat} (hk : k < xs.length) : ∃ b off, A = some ⟨b, off, none⟩ ∧ b < Bd ∧ w.cell? ⟨b, off + k, none⟩ = some (.int .u8 (xs.getD k 0)) := by
  obtain ⟨b, off, rfl, hb, hc⟩ := h (by omega)
  exact ⟨b, off, rfl, hb, hc k hk⟩
end

/-- The first k bytes of xs stand in the cells cs. -/
def PB (cs : Array Value) (xs : List Int) (k : Nat) : Prop := xs.length ≤ cs.size ∧ ∀ i, i < k → cs[i]? = some (.int .u8 (xs.getD i 0))
theorem PB.zero {cs : Array Value} {xs : List Int} (h : xs.length ≤ cs.size) : PB cs xs 0 := ⟨h, fun i hi => absurd hi (by omega)⟩
theorem PB.step {cs : Array Value} {xs : List Int} {k : Nat} (h : PB cs xs k) (hk : k < xs.length) : PB (cs.setIfInBounds k (.int .u8 (xs.getD k 0))) xs (k + 1) := by
  refine ⟨by simpa using h.1, fun i hi => ?_⟩
  have hs := h.1
  by_cases e : i = k
  · subst e
    rw [Array.getElem?_setIfInBounds_self_of_lt (by omega)]
  · rw [Array.getElem?_setIfInBounds_ne (by omega)]
    exact h.2 i (by omega)
theorem PB.rd {w : World} {g t Bd : Nat} {cs : Array Value} {xs : List Int} (h : PB cs xs xs.length) (hb : Blk w g t cs) (hg : g < Bd) : RdB w Bd (some ⟨g, 0, none⟩) xs :=
  fun _ => ⟨g, 0, rfl, hg, fun i hi => by rw [Nat.zero_add, hb.cell]; exact h.2 i hi⟩

/-- A slice of bytes of the call's own: nil, or a row of its own whose first cells are xs. -/
def OB (w : World) (t base : Nat) (A : Option Addr) (xs : List Int) : Prop := (A = none ∧ xs = []) ∨ ∃ g cur, A = some ⟨g, 0, none⟩ ∧ base ≤ g ∧ Blk w g t cur ∧ PB cur xs xs.length
theorem OB.nil_ {w : World} {t base : Nat} : OB w t base none [] := .inl ⟨rfl, rfl⟩
theorem OB.of_own {w : World} {base t n c : Nat} {A : Option Addr} {xs : List Int} (h : w.ownsRow base t 1 (.slice A n c) n (xs.map (Value.int .u8))) : n = xs.length ∧ OB w t base A xs := by
  obtain ⟨hl, h⟩ := h
  have hn : n = xs.length := by simpa using hl.symm
  refine ⟨hn, ?_⟩
  rcases h with ⟨h1, h2⟩ | ⟨g, cap, cur, h1, h2, h3, h4, h5, h6, h7⟩
  · injection h1 with h1
    exact .inl ⟨h1, List.eq_nil_of_length_eq_zero (by omega)⟩
  · injection h1 with h1
    refine .inr ⟨g, cur, h1, h2, h3, by omega, fun i hi => ?_⟩
    have hi' : i < n := by omega
    have : (cur.toList.take (n * 1))[i]? = some (.int .u8 (xs.getD i 0)) := by
      rw [h7]
      simp [List.getD, List.getElem?_eq_getElem hi]
    rw [List.getElem?_take_of_lt (by omega)] at this
    simpa using this
theorem OB.rd {w : World} {t base : Nat} {A : Option Addr} {xs : List Int} (h : OB w t base A xs) : RdB w w.heap.size A xs := by
  rcases h with ⟨rfl, rfl⟩ | ⟨g, cur, rfl, _, hb, hp⟩
  · exact RdB.nil_
  · exact hp.rd hb hb.lt
theorem OB.on {w w' : World} {t base : Nat} {A : Option Addr} {xs : List Int} (h : OB w t base A xs) (hb : Below w.heap.size w w') : OB w' t base A xs := by
  rcases h with ⟨rfl, rfl⟩ | ⟨g, cur, rfl, hg, hk, hp⟩
  · exact OB.nil_
  · exact .inr ⟨g, cur, rfl, hg, hk.on hb, hp⟩
end Go.Proofs.YtfdfjmibjnmhpaaGreat.B

namespace Go.Proofs.YtfdfjmibjnmhpaaGreat.V
open Go.RowKit Go.Proofs.YtfdfjmibjnmhpaaGreat.B

/-- The cells cs bear the marks k, k+1, .. as bytes in the n first places. -/
def MKB (cs : Array Value) (k : Int) (n : Nat) : Prop := ∀ i, i < n → cs[i]? = some (.int .u8 ((k + i) % 256))

theorem MKB.step {cs : Array Value} {k : Int} {j : Nat} (h : MKB cs k j) (hs : j < cs.size) : MKB (cs.setIfInBounds j (.int .u8 ((k + j) % 256))) k (j + 1) := by
  intro i hi
  by_cases e : i = j
  · subst e
    rw [Array.getElem?_setIfInBounds_self_of_lt hs]
  · rw [Array.getElem?_setIfInBounds_ne (by omega)]
    exact h i (by omega)
theorem only_setB {a w : World} {g : Nat} (h : a.grownBy w (some g)) (i : Nat) (u : Value) : a.grownBy (w.setCell ⟨g, i, none⟩ u) (some g) :=
  ⟨h.os, h.tape, h.output, by simpa [World.setCell] using h.size, fun j hj hne => (Below.heap_setCell w ⟨g, i, none⟩ u j (by
    rintro rfl
    exact hne rfl)).trans (h.block j hj hne)⟩

/-- Whatever row of the call's own it is: the marks are laid, and found again as long as the row is as it was. -/
def MB (w : World) (t base : Nat) (A : Option Addr) (n : Nat) (k : Int) : Prop := n = 0 ∨ ∃ g cur, A = some ⟨g, 0, none⟩ ∧ base ≤ g ∧ Blk w g t cur ∧ MKB cur k n
theorem MB.on {w w' : World} {t base n : Nat} {A : Option Addr} {k : Int} (h : MB w t base A n k) (hb : Below w.heap.size w w') : MB w' t base A n k := by
  rcases h with h | ⟨g, cur, rfl, hg, hk, hp⟩
  · exact .inl h
  · exact .inr ⟨g, cur, rfl, hg, hk.on hb, hp⟩
end Go.Proofs.YtfdfjmibjnmhpaaGreat.V

namespace Go.Proofs.YtfdfjmibjnmhpaaGreat.V
open Go.RowKit Go.Proofs.YtfdfjmibjnmhpaaGreat.B

/-- The cells cs bear the marks k, k+1, .. in the 2n first places. -/
def MK (cs : Array Value) (k : Int) (n : Nat) : Prop :=
  ∀ i, i < n → cs[i * 2]? = some (.int .i64 (k + 2 * i)) ∧ cs[i * 2 + 1]? = some (.int .i64 (k + 2 * i + 1))

theorem MK.step {cs : Array Value} {k : Int} {j : Nat} (h : MK cs k j) (hs : j * 2 + 1 < cs.size) :
    MK ((cs.setIfInBounds (j * 2) (.int .i64 (k + 2 * j))).setIfInBounds (j * 2 + 1) (.int .i64 (k + 2 * j + 1))) k (j + 1) := by
  intro i hi
  by_cases e : i = j
  · subst e
    constructor
    · rw [Array.getElem?_setIfInBounds_ne (by omega), Array.getElem?_setIfInBounds_self_of_lt (by omega)]
    · rw [Array.getElem?_setIfInBounds_self_of_lt (by simp; omega)]
  · have := h i (by omega)
    constructor
    · rw [Array.getElem?_setIfInBounds_ne (by omega), Array.getElem?_setIfInBounds_ne (by omega)]; exact this.1
    · rw [Array.getElem?_setIfInBounds_ne (by omega), Array.getElem?_setIfInBounds_ne (by omega)]; exact this.2

/-- Only block g, and what is new, may have turned. -/
theorem only_set {a w : World} {g : Nat} (h : a.grownBy w (some g)) (i : Nat) (u : Value) : a.grownBy (w.setCell ⟨g, i, none⟩ u) (some g) :=
  ⟨h.os, h.tape, h.output, by simpa [World.setCell] using h.size, fun j hj hne => (Below.heap_setCell w ⟨g, i, none⟩ u j (by
    rintro rfl
    exact hne rfl)).trans (h.block j hj hne)⟩

theorem markNil (A : Option Addr) (c : Nat) (k : Int) (w : World) :
    Calls Tryz.prog 44 #[.slice A 0 c, .int .i64 k] w fun e w' => e = .returned (.int .i64 k) ∧ w = w' := by
  go_enter Tryz.func44, Tryz.ntmps44
  go_wp2
  refine wp_loop_rounds 1 ?_
  rw [rounds_succ]
  go_wp2
  go_ret
  exact ⟨rfl, rfl⟩

theorem heldNil (A : Option Addr) (c : Nat) (k : Int) (w : World) :
    Calls Tryz.prog 45 #[.slice A 0 c, .int .i64 k] w fun e w' => e = .returned (.int .i64 k) ∧ w = w' := by
  go_enter Tryz.func45, Tryz.ntmps45
  go_wp2
  refine wp_loop_rounds 1 ?_
  rw [rounds_succ]
  go_wp2
  go_ret
  exact ⟨rfl, rfl⟩

set_option maxHeartbeats 400000 in
theorem mark_any (g n c : Nat) (t : TypeId) (cs : Array Value) (k : Int) (w : World) (hb : Blk w g t cs) (hs : n * 2 ≤ cs.size) (hn : n ≤ 1048576) (h0 : 0 ≤ k) (h1 : k ≤ 16777216) :
    Calls Tryz.prog 44 #[.slice (some ⟨g, 0, none⟩) n c, .int .i64 k] w fun e w' =>
      e = .returned (.int .i64 (k + 2 * n)) ∧ ∃ cs', Blk w' g t cs' ∧ cs'.size = cs.size ∧ MK cs' k n ∧ w.grownBy w' (some g) := by
  have HS := Lib.hid hs; clear hs
  go_enter Tryz.func44, Tryz.ntmps44
  go_wp2
  go_loopw [1, 5] (fun kk i wr => ∃ (j : Nat) (ds : Array Value), j ≤ n ∧ i = .int .i64 j ∧ kk = .int .i64 (k + 2 * j) ∧ Blk wr g t ds ∧ Hid (ds.size = cs.size) ∧ Hid (MK ds k j) ∧ w.grownBy wr (some g)) (fun _ i _ => n - (intOf i).toNat)
  case atStart => exact ⟨0, cs, Nat.zero_le _, rfl, by simp, hb, rfl, fun i hi => absurd hi (by omega), World.grownBy.refl w _⟩
  case round =>
    obtain ⟨j, ds, hj, rfl, rfl, hblk, hsz, hmk, hgr⟩ := hrel
    by_cases hlt : j < n
    · have hx0 : ∃ y, ds[j * 2]? = some y := ⟨_, Array.getElem?_eq_getElem (by have := hsz.out; have := HS.out; omega)⟩
      have hx1 : ∃ y, ds[j * 2 + 1]? = some y := ⟨_, Array.getElem?_eq_getElem (by have := hsz.out; have := HS.out; omega)⟩
      obtain ⟨y0, hx0⟩ := hx0
      obtain ⟨y1, hx1⟩ := hx1
      have hc0 := (hblk.cell (j * 2)).trans hx0
      have hc1 := (hblk.cell (j * 2 + 1)).trans hx1
      have hf0 := hblk.frozen (j * 2)
      have hf1 := hblk.frozen (j * 2 + 1)
      have HM : Hid (MK ((ds.setIfInBounds (j * 2) (.int .i64 (k + 2 * j))).setIfInBounds (j * 2 + 1) (.int .i64 (k + 2 * j + 1))) k (j + 1)) := MK.step hmk.out (by have := hsz.out; have := HS.out; omega)
      have HZ : Hid (((ds.setIfInBounds (j * 2) (.int .i64 (k + 2 * j))).setIfInBounds (j * 2 + 1) (.int .i64 (k + 2 * j + 1))).size = cs.size) := by rw [Array.size_setIfInBounds, Array.size_setIfInBounds]; exact hsz.out
      clear hx0 hx1 hmk hsz
      go_wp2
      go_roundw
      case rel => exact ⟨j + 1, _, by omega, by go_num, by congr 1; simp; omega, (hblk.set_ _ _).set_ _ _, HZ, HM, only_set (only_set hgr _ _) _ _⟩
      case measure => simp [intOf]; omega
    · have hjn : j = n := by omega
      subst hjn
      go_wp2
      go_ret
      exact ⟨rfl, ds, hblk, hsz.out, hmk.out, hgr⟩
set_option maxHeartbeats 400000 in
theorem held_any (g n c : Nat) (t : TypeId) (cs : Array Value) (k : Int) (w : World) (hb : Blk w g t cs) (hm : MK cs k n) (hn : n ≤ 1048576) (h0 : 0 ≤ k) (h1 : k ≤ 16777216) :
    Calls Tryz.prog 45 #[.slice (some ⟨g, 0, none⟩) n c, .int .i64 k] w fun e w' => e = .returned (.int .i64 (k + 2 * n)) ∧ w = w' := by
  have HM := Lib.hid hm; clear hm
  go_enter Tryz.func45, Tryz.ntmps45
  go_wp2
  go_loop [1, 5] (fun kk i => ∃ (j : Nat), j ≤ n ∧ i = .int .i64 j ∧ kk = .int .i64 (k + 2 * j)) (fun _ i => n - (intOf i).toNat)
  case atStart => exact ⟨0, Nat.zero_le _, rfl, by simp⟩
  case round =>
    obtain ⟨j, hj, rfl, rfl⟩ := hrel
    by_cases hlt : j < n
    · have hc0 := (hb.cell (j * 2)).trans (HM.out j hlt).1
      have hc1 := (hb.cell (j * 2 + 1)).trans (HM.out j hlt).2
      have hne : ∀ i : Int, (i != i) = false := fun i => by simp
      go_wp2
      go_round
      case rel => exact ⟨j + 1, by omega, by go_num, by congr 1; simp; omega⟩
      case measure => simp [intOf]; omega
    · have hjn : j = n := by omega
      subst hjn
      go_wp2
      go_ret
      exact ⟨rfl, rfl⟩
theorem grown_alloc {w w' : World} {o : Obj} {row : Option Nat} (h : (w.alloc o).grownBy w' row) : w.grownBy w' row :=
  ⟨h.os, h.tape, h.output, Nat.le_trans (by simp) h.size, fun i hi hne => (h.block i (by simp; omega) hne).trans (Below.heap_alloc w o i hi)⟩

end Go.Proofs.YtfdfjmibjnmhpaaGreat.V

namespace Go.Proofs.YtfdfjmibjnmhpaaGreat.B
open Go.RowKit

theorem OB.up {w : World} {t base : Nat} {A : Option Addr} {xs : List Int} (h : OB w t base A xs) (O : Obj) : OB (w.alloc O) t base A xs := h.on ((Below.refl _ _).alloc (Nat.le_refl _) O)
theorem OB.lt {w : World} {t base : Nat} {A : Option Addr} {xs : List Int} (h : OB w t base A xs) : ∀ g, A = some ⟨g, 0, none⟩ → g < w.heap.size := by
  intro g hA
  rcases h with ⟨rfl, _⟩ | ⟨g', cur, rfl, _, hk, _⟩
  · cases hA
  · injection hA with hA
    injection hA with hA
    subst hA
    exact hk.lt
theorem OB.ge {w : World} {t base : Nat} {A : Option Addr} {xs : List Int} (h : OB w t base A xs) : ∀ g, A = some ⟨g, 0, none⟩ → base ≤ g := by
  intro g hA
  rcases h with ⟨rfl, _⟩ | ⟨g', cur, rfl, hb, hk, _⟩
  · cases hA
  · injection hA with hA
    injection hA with hA
    subst hA
    exact hb
theorem OB.far {w w' : World} {t base g : Nat} {A : Option Addr} {xs : List Int} (h : OB w t base A xs) (hgr : w.grownBy w' (some g)) (hne : ∀ g', A = some ⟨g', 0, none⟩ → g' ≠ g) : OB w' t base A xs := by
  rcases h with ⟨rfl, rfl⟩ | ⟨g', cur, rfl, hb, hk, hp⟩
  · exact OB.nil_
  · refine .inr ⟨g', cur, rfl, hb, ?_, hp⟩
    exact (hgr.block g' hk.lt (by have := hne g' rfl; simpa using this)).trans hk
theorem OB.low {w w' : World} {t base Bd : Nat} {A : Option Addr} {xs : List Int} (h : OB w t base A xs) (hb : Below Bd w w') (hl : ∀ g', A = some ⟨g', 0, none⟩ → g' < Bd) : OB w' t base A xs := by
  rcases h with ⟨rfl, rfl⟩ | ⟨g', cur, rfl, hb', hk, hp⟩
  · exact OB.nil_
  · exact .inr ⟨g', cur, rfl, hb', (hb.block g' (hl g' rfl)).trans hk, hp⟩
theorem Blk.farm {w w' : World} {g g' : Nat} {t : TypeId} {cs : Array Value} (h : Blk w g' t cs) (hgr : w.grownBy w' (some g)) (hne : g' ≠ g) : Blk w' g' t cs := (hgr.block g' h.lt (by simpa using hne)).trans h
theorem below_grown {w w' : World} {g base : Nat} (h : w.grownBy w' (some g)) (hg : base ≤ g) (hw : base ≤ w.heap.size) : Below base w w' :=
  ⟨h.os, h.tape, h.output, h.size, fun i hi => h.block i (by omega) (by simp; omega)⟩
end Go.Proofs.YtfdfjmibjnmhpaaGreat.B

namespace Go.Proofs.YtfdfjmibjnmhpaaGreat.V
open Go.RowKit Go.Proofs.YtfdfjmibjnmhpaaGreat.B

def VRes (us : List (Int × Int)) (w : World) (e : Ending) (w' : World) : Prop :=
  ∃ g c, e = .returned (.slice (some ⟨g, 0, none⟩) us.length c) ∧ w'.ownsRow w.heap.size 61 2 (.slice (some ⟨g, 0, none⟩) us.length c) us.length (vcells us) ∧ Below w.heap.size w w'

theorem infoV2 : (Tryz.prog.info? 61).map (fun i => (i.zero, i.size, i.bytes)) = some (some (.agg #[.int .i64 0, .int .i64 0]), 2, 16) := by kernel_rfl

/-- What stands behind the loop: the place k is found. -/
def At (vs : List (Int × Int)) (a : Int) (k : Nat) : Prop := k ≤ vs.length ∧ (∀ j, j < k → (vs.getD j (0, 0)).1 < a) ∧ (k < vs.length → ¬ (vs.getD k (0, 0)).1 < a)

theorem Rd.take_ {w : World} {Bd : Nat} {A : Option Addr} {vs : List (Int × Int)} (h : Rd w Bd A vs) (k : Nat) (hk : k ≤ vs.length) : Rd w Bd A (vs.take k) := fun hn => by
  rw [List.length_take] at hn
  obtain ⟨b, off, rfl, hb, hc⟩ := h (by omega)
  refine ⟨b, off, rfl, hb, fun i hi => ?_⟩
  rw [List.length_take] at hi
  have e : (vs.take k).getD i (0, 0) = vs.getD i (0, 0) := by
    simp only [List.getD]
    rw [List.getElem?_take_of_lt (by omega)]
  rw [e]
  exact hc i (by omega)
theorem Rd.drop_ {w : World} {Bd b off : Nat} {vs : List (Int × Int)} (h : Rd w Bd (some ⟨b, off, none⟩) vs) (k : Nat) : Rd w Bd (some ⟨b, off + k * 2, none⟩) (vs.drop k) := fun hn => by
  rw [List.length_drop] at hn
  obtain ⟨b', off', e, hb, hc⟩ := h (by omega)
  injection e with e
  injection e with e1 e2
  subst e1 e2
  refine ⟨b, off + k * 2, rfl, hb, fun i hi => ?_⟩
  rw [List.length_drop] at hi
  have e : (vs.drop k).getD i (0, 0) = vs.getD (k + i) (0, 0) := by
    simp only [List.getD]
    rw [List.getElem?_drop]
  have := hc (k + i) (by omega)
  rw [e, show off + k * 2 + i * 2 = off + (k + i) * 2 by omega]
  exact this
/-- What the three appends come to. -/
theorem vres_of {w w' : World} {ov : Value} {nn : Nat} {ys : List Value} {us : List (Int × Int)} (hown : w'.ownsRow w.heap.size 61 2 ov nn ys) (hn : nn = us.length) (hy : ys = vcells us) (hp : 0 < nn) (hB : Below w.heap.size w w') : VRes us w (.returned ov) w' := by
  subst hy hn
  obtain ⟨g, cap, rfl, _, _⟩ := hown.form hp
  exact ⟨g, cap, rfl, hown, hB⟩

end Go.Proofs.YtfdfjmibjnmhpaaGreat.V

namespace Go.Proofs.YtfdfjmibjnmhpaaGreat.B
open Go.RowKit

def OV (w : World) (t base : Nat) (A : Option Addr) (us : List (Int × Int)) : Prop := (A = none ∧ us = []) ∨ ∃ g cur, A = some ⟨g, 0, none⟩ ∧ base ≤ g ∧ Blk w g t cur ∧ us.length * 2 ≤ cur.size ∧
  ∀ i, i < us.length → cur[i * 2]? = some (.int .i64 (us.getD i (0, 0)).1) ∧ cur[i * 2 + 1]? = some (.int .i64 (us.getD i (0, 0)).2)
theorem OV.nil_ {w : World} {t base : Nat} : OV w t base none [] := .inl ⟨rfl, rfl⟩
theorem OV.of_own {w : World} {base t c : Nat} {A : Option Addr} {us : List (Int × Int)} (h : w.ownsRow base t 2 (.slice A us.length c) us.length (vcells us)) : OV w t base A us := by
  obtain ⟨hl, h⟩ := h
  rcases h with ⟨h1, h2⟩ | ⟨g, cap, cur, h1, h2, h3, h4, h5, h6, h7⟩
  · injection h1 with h1
    exact .inl ⟨h1, List.eq_nil_of_length_eq_zero h2⟩
  · injection h1 with h1
    refine .inr ⟨g, cur, h1, h2, h3, by omega, fun i hi => ?_⟩
    have hv := vcells_at us i hi
    rw [← h7] at hv
    rw [List.getElem?_take_of_lt (by omega), List.getElem?_take_of_lt (by omega)] at hv
    simpa using hv
theorem OV.rd {w : World} {t base : Nat} {A : Option Addr} {us : List (Int × Int)} (h : OV w t base A us) : Rd w w.heap.size A us := by
  rcases h with ⟨rfl, rfl⟩ | ⟨g, cur, rfl, _, hb, _, hp⟩
  · exact Rd.nil_
  · exact fun _ => ⟨g, 0, rfl, hb.lt, fun i hi => by
      constructor
      · rw [Nat.zero_add, hb.cell]; exact (hp i hi).1
      · rw [Nat.zero_add, hb.cell]; exact (hp i hi).2⟩
theorem OV.on {w w' : World} {t base : Nat} {A : Option Addr} {us : List (Int × Int)} (h : OV w t base A us) (hb : Below w.heap.size w w') : OV w' t base A us := by
  rcases h with ⟨rfl, rfl⟩ | ⟨g, cur, rfl, hg, hk, hp⟩
  · exact OV.nil_
  · exact .inr ⟨g, cur, rfl, hg, hk.on hb, hp⟩
theorem OV.up {w : World} {t base : Nat} {A : Option Addr} {us : List (Int × Int)} (h : OV w t base A us) (O : Obj) : OV (w.alloc O) t base A us := h.on ((Below.refl _ _).alloc (Nat.le_refl _) O)
theorem OV.more {w : World} {t b b' : Nat} {A : Option Addr} {us : List (Int × Int)} (h : OV w t b A us) (hb : b' ≤ b) : OV w t b' A us := by
  rcases h with h | ⟨g, cur, h1, h2, h3⟩
  · exact .inl h
  · exact .inr ⟨g, cur, h1, by omega, h3⟩
theorem OV.lt {w : World} {t base : Nat} {A : Option Addr} {us : List (Int × Int)} (h : OV w t base A us) : ∀ g, A = some ⟨g, 0, none⟩ → g < w.heap.size := by
  intro g hA
  rcases h with ⟨rfl, _⟩ | ⟨g', cur, rfl, _, hk, _⟩
  · cases hA
  · injection hA with hA
    injection hA with hA
    subst hA
    exact hk.lt
theorem OV.ge {w : World} {t base : Nat} {A : Option Addr} {us : List (Int × Int)} (h : OV w t base A us) : ∀ g, A = some ⟨g, 0, none⟩ → base ≤ g := by
  intro g hA
  rcases h with ⟨rfl, _⟩ | ⟨g', cur, rfl, hb, hk, _⟩
  · cases hA
  · injection hA with hA
    injection hA with hA
    subst hA
    exact hb
theorem OV.far {w w' : World} {t base g : Nat} {A : Option Addr} {us : List (Int × Int)} (h : OV w t base A us) (hgr : w.grownBy w' (some g)) (hne : ∀ g', A = some ⟨g', 0, none⟩ → g' ≠ g) : OV w' t base A us := by
  rcases h with ⟨rfl, rfl⟩ | ⟨g', cur, rfl, hb, hk, hp⟩
  · exact OV.nil_
  · exact .inr ⟨g', cur, rfl, hb, hk.farm hgr (hne g' rfl), hp⟩
theorem OV.low {w w' : World} {t base Bd : Nat} {A : Option Addr} {us : List (Int × Int)} (h : OV w t base A us) (hb : Below Bd w w') (hl : ∀ g', A = some ⟨g', 0, none⟩ → g' < Bd) : OV w' t base A us := by
  rcases h with ⟨rfl, rfl⟩ | ⟨g', cur, rfl, hb', hk, hp⟩
  · exact OV.nil_
  · exact .inr ⟨g', cur, rfl, hb', (hb.block g' (hl g' rfl)).trans hk, hp⟩
end Go.Proofs.YtfdfjmibjnmhpaaGreat.B
namespace Go.Proofs.YtfdfjmibjnmhpaaGreat.V
open Go.RowKit Go.Proofs.YtfdfjmibjnmhpaaGreat.B

/-- The marks stand in a row of the call's own. -/
def MV (w : World) (t base : Nat) (A : Option Addr) (n : Nat) (k : Int) : Prop := n = 0 ∨ ∃ g cur, A = some ⟨g, 0, none⟩ ∧ base ≤ g ∧ Blk w g t cur ∧ MK cur k n
theorem MV.on {w w' : World} {t base n : Nat} {A : Option Addr} {k : Int} (h : MV w t base A n k) (hb : Below w.heap.size w w') : MV w' t base A n k := by
  rcases h with h | ⟨g, cur, rfl, hg, hk, hp⟩
  · exact .inl h
  · exact .inr ⟨g, cur, rfl, hg, hk.on hb, hp⟩
end Go.Proofs.YtfdfjmibjnmhpaaGreat.V

namespace Go.Proofs.YtfdfjmibjnmhpaaGreat.B
open Go.RowKit
section
variable {P : Program} {Q : Exit → Act → World → Prop}
def upd (us : Nat → Value) (i : Nat) (v : Value) : Nat → Value := fun j => if j = i then v else us j
theorem upd_same (us : Nat → Value) (i : Nat) (v : Value) : upd us i v i = v := by simp [upd]
theorem upd_ne {us : Nat → Value} {i j : Nat} {v : Value} (h : j ≠ i) : upd us i v j = us j := by simp [upd, h]
/-- How many have not come up yet. -/
def unl (l : List Bool) : Nat := (l.filter (!·)).length
theorem unl_set : ∀ (l : List Bool) (i : Nat), l[i]? = some false → unl (l.set i true) + 1 = unl l
  | [], i, h => by simp at h
  | b :: l, 0, h => by simp at h; subst h; simp [unl]
  | b :: l, i + 1, h => by
    have := unl_set l i (by simpa using h)
    cases b <;> simp [unl] at this ⊢ <;> omega
theorem unl_zero {l : List Bool} (h : unl l = 0) (i : Nat) : l[i]? ≠ some false := fun e => by
  have := unl_set l i e
  omega
theorem got_false {l : Array Bool} {i : Nat} (h : l.getD i true = false) : l.toList[i]? = some false := by
  rw [Array.getD_eq_getD_getElem?] at h
  rw [Array.getElem?_toList]
  rcases e : l[i]? with _ | b
  · rw [e] at h; simp at h
  · rw [e] at h; simp at h; rw [h]
theorem wpAny_hold {ops : Array Oper} {md : Region.Mode} (I : Array Bool → Act → World → Prop)
    (hstep : ∀ listed a w i, i ∈ Region.ready md ops listed → I listed a w → wpOp P ops Q i (I (listed.setIfInBounds i true)) a w)
    (hend : ∀ listed a w, Region.ready md ops listed = [] → I listed a w → Q .normal a w) :
    ∀ (fuel : Nat) (listed : Array Bool) (a : Act) (w : World), unl listed.toList ≤ fuel → I listed a w → wpAny P md ops Q fuel listed a w
  | 0, listed, a, w, hc, h => by
    have hr : Region.ready md ops listed = [] := by
      rw [List.eq_nil_iff_forall_not_mem]
      intro i hi
      exact unl_zero (by omega) i (got_false (mem_ready.1 hi).1)
    exact ⟨hr, hend listed a w hr h⟩
  | fuel + 1, listed, a, w, hc, h => by
    refine ⟨fun hr => hend listed a w hr h, fun i hi => wpOp_mono (fun a' w' h' => ?_) (hstep listed a w i hi h)⟩
    refine wpAny_hold I hstep hend fuel _ a' w' ?_ h'
    have := unl_set listed.toList i (got_false (mem_ready.1 hi).1)
    rw [Array.toList_setIfInBounds]
    omega
/-- What an operation waits for. -/
def deps (o : Oper) : List Nat := (o.after.toList.filter (Region.binds .any)).map (·.on)
def lowB : Nat → List Oper → Bool
  | _, [] => true
  | k, o :: l => (deps o).all (fun j => decide (j < k)) && lowB (k + 1) l
theorem lowB_at : ∀ {l : List Oper} {k i : Nat} {o : Oper}, lowB k l = true → l[i]? = some o → ∀ j ∈ deps o, j < k + i
  | [], _, _, _, _, h => by simp at h
  | o' :: l, k, 0, o, hB, h => by
    simp only [lowB, Bool.and_eq_true] at hB
    simp at h; subst h
    intro j hj
    have := List.all_eq_true.1 hB.1 j hj
    simpa using this
  | o' :: l, k, i + 1, o, hB, h => by
    simp only [lowB, Bool.and_eq_true] at hB
    intro j hj
    have := lowB_at hB.2 (by simpa using h) j hj
    omega
/-- Operation k waits, in n steps at most, for operation j. -/
def waitsB (ops : List Oper) : Nat → Nat → Nat → Bool
  | 0, k, j => j == k
  | n + 1, k, j => j == k || (match ops[k]? with | some o => (deps o).any fun d => waitsB ops n d j | none => false)
/-- L holds of what an operation waits for. -/
def Shut (ops : List Oper) (L : Nat → Prop) : Prop := ∀ k o, ops[k]? = some o → L k → ∀ j ∈ deps o, L j
theorem Shut.far {ops : List Oper} {L : Nat → Prop} (h : Shut ops L) : ∀ (n k j : Nat), waitsB ops n k j = true → L k → L j
  | 0, k, j, hB, hk => by simp [waitsB] at hB; rw [hB]; exact hk
  | n + 1, k, j, hB, hk => by
    simp only [waitsB, Bool.or_eq_true, beq_iff_eq] at hB
    rcases hB with rfl | hB
    · exact hk
    · rcases e : ops[k]? with _ | o
      · rw [e] at hB; simp at hB
      · rw [e] at hB
        obtain ⟨d, hd, hB⟩ := List.any_eq_true.1 hB
        exact h.far n d j hB (h k o e hk d hd)
/-- One operation: from what holds, whatever has come up, to what holds behind it. -/
def StepOk (P : Program) (Q : Exit → Act → World → Prop) (ops : List Oper) (F : (Nat → Value) → Act) (I : (Nat → Prop) → (Nat → Value) → World → Prop) (i : Nat) (o : Oper) : Prop :=
  ∀ (L : Nat → Prop) (us : Nat → Value) (w : World), ¬ L i → (∀ j ∈ deps o, L j) → Shut ops L → I L us w → ∀ K : Act → World → Prop,
    (∀ a' w' v, a' = (F us).put o.dst v → I (fun j => j = i ∨ L j) (upd us i v) w' → K a' w') →
      if Region.wanted o (yielded ops.toArray (F us).tmps) = true then Oper.wp P o (F us) w K Q else K ((F us).put o.dst undef) w
def Each (S : Nat → Oper → Prop) : Nat → List Oper → Prop
  | _, [] => True
  | k, o :: l => S k o ∧ Each S (k + 1) l
theorem Each.nil {S : Nat → Oper → Prop} {k : Nat} : Each S k [] := trivial
theorem Each.cons {S : Nat → Oper → Prop} {k : Nat} {o : Oper} {l : List Oper} (h : S k o) (h2 : Each S (k + 1) l) : Each S k (o :: l) := ⟨h, h2⟩
theorem Each.at_ {S : Nat → Oper → Prop} : ∀ {l : List Oper} {k i : Nat} {o : Oper}, Each S k l → l[i]? = some o → S (k + i) o
  | [], _, _, _, _, h => by simp at h
  | o' :: l, k, 0, o, hE, h => by simp at h; subst h; exact hE.1
  | o' :: l, k, i + 1, o, hE, h => by
    have := Each.at_ hE.2 (show l[i]? = some o by simpa using h)
    rwa [show k + 1 + i = k + (i + 1) by omega] at this
/-- **A region that draws its order, each operation walked once.** F: the frame, by what the operations have yielded; I: what holds once those of L have come up. -/
theorem wp_region_hold {id : Nat} {a : Act} {w : World} {l : List Oper} (F : (Nat → Value) → Act) (I : (Nat → Prop) → (Nat → Value) → World → Prop) (us0 : Nat → Value)
    (hm : P.follows .mixedOrders = true) (hlow : lowB 0 l = true) (ha : a = F us0)
    (hput : Each (fun i o => ∀ us v, (F us).put o.dst v = F (upd us i v)) 0 l)
    (h0 : I (fun _ => False) us0 w.drew)
    (hop : Each (StepOk P Q l F I) 0 l)
    (hend : ∀ (L : Nat → Prop) us w', (∀ i, i < l.length → L i) → I L us w' → Q .normal (F us) w') : (Code.region id l.toArray true).wp P Q a w := by
  refine wp_region_any hm ?_
  let J : Array Bool → Act → World → Prop := fun listed a' w' => listed.size = l.length ∧ Shut l (fun j => listed.getD j false = true) ∧ ∃ us, a' = F us ∧ I (fun j => listed.getD j false = true) us w'
  have hsz : l.toArray.size = l.length := by simp
  refine wpAny_hold J ?_ ?_ _ _ a { w with drawn := w.drawn + 1 } ?_ ?_
  · rintro listed a' w' i hi ⟨hs, hsh, us, rfl, hI⟩
    obtain ⟨hun, o, ho, hall⟩ := mem_ready.1 hi
    have hol : l[i]? = some o := by simpa using ho
    have hil : i < l.length := by
      rcases Nat.lt_or_ge i l.length with h | h
      · exact h
      · rw [List.getElem?_eq_none h] at hol; cases hol
    have hnL : ¬ listed.getD i false = true := by
      rw [Array.getD_eq_getD_getElem?] at hun ⊢
      rw [Array.getElem?_eq_getElem (by omega)] at hun ⊢
      simp at hun ⊢
      exact hun
    have hdep : ∀ j ∈ deps o, listed.getD j false = true := fun j hj => by
      obtain ⟨e, he, rfl⟩ := List.mem_map.1 hj
      obtain ⟨he1, he2⟩ := List.mem_filter.1 he
      exact hall e (by simpa using he1) he2
    have hset : ∀ j, (listed.setIfInBounds i true).getD j false = true ↔ (j = i ∨ listed.getD j false = true) := fun j => by
      rw [Array.getD_eq_getD_getElem?, Array.getD_eq_getD_getElem?]
      by_cases e : j = i
      · subst e
        rw [Array.getElem?_setIfInBounds_self_of_lt (by omega)]
        simp
      · rw [Array.getElem?_setIfInBounds_ne (Ne.symm e)]
        simp [e]
    have hfun : (fun j => (listed.setIfInBounds i true).getD j false = true) = fun j => j = i ∨ listed.getD j false = true := funext fun j => propext (hset j)
    have h1 := Each.at_ hop hol
    rw [Nat.zero_add] at h1
    have hp := Each.at_ hput hol
    rw [Nat.zero_add] at hp
    refine wpOp_step ho fun K hK => h1 _ us w' hnL hdep hsh hI K fun a'' w'' v ha'' hI' => hK _ _ ⟨by simpa using hs, ?_, upd us i v, ?_, ?_⟩
    · intro k ok hk hLk j hj
      rw [hset] at hLk ⊢
      rcases hLk with rfl | hLk
      · rw [hol] at hk; injection hk with hk; subst hk
        exact .inr (hdep j hj)
      · exact .inr (hsh k ok hk hLk j hj)
    · rw [ha'', hp]
    · rw [hfun]; exact hI'
  · rintro listed a' w' hr ⟨hs, hsh, us, rfl, hI⟩
    refine hend _ us w' (fun i => ?_) hI
    induction i using Nat.strongRecOn with
    | _ i ih =>
      intro hi
      rcases hg : listed.getD i false with _ | _
      · exfalso
        have ho : l[i]? = some l[i] := List.getElem?_eq_getElem hi
        have hun : listed.getD i true = false := by
          rw [Array.getD_eq_getD_getElem?] at hg ⊢
          rw [Array.getElem?_eq_getElem (by omega)] at hg ⊢
          simp at hg ⊢
          exact hg
        have : i ∈ Region.ready .any l.toArray listed := mem_ready.2 ⟨hun, l[i], by simp, fun e he hb => by
          have hd : e.on ∈ deps l[i] := List.mem_map.2 ⟨e, List.mem_filter.2 ⟨by simpa using he, hb⟩, rfl⟩
          have hlt := lowB_at hlow ho e.on hd
          exact ih e.on (by omega) (by omega)⟩
        rw [hr] at this
        simp at this
      · rfl
  · have : ∀ n, unl (List.replicate n false) = n := fun n => by
      induction n with
      | zero => rfl
      | succ n ih => simp [unl, List.replicate_succ] at ih ⊢
    rw [Array.toList_replicate, this]
    exact Nat.le_refl _
  · refine ⟨by simp, fun k o hk hL => ?_, us0, ha, ?_⟩
    · replace hL : (Array.replicate l.toArray.size false).getD k false = true := hL
      rw [Array.getD_eq_getD_getElem?] at hL
      rcases e : (Array.replicate l.toArray.size false)[k]? with _ | b
      · rw [e] at hL; simp at hL
      · rw [e] at hL; simp at hL; subst hL
        rw [Array.getElem?_replicate] at e
        split at e <;> simp at e
    · have : (fun j => (Array.replicate l.toArray.size false).getD j false = true) = fun _ => False := funext fun j => propext ⟨fun h => by
        rw [Array.getD_eq_getD_getElem?, Array.getElem?_replicate] at h
        split at h <;> simp at h, False.elim⟩
      rw [this]; exact h0
end
end Go.Proofs.YtfdfjmibjnmhpaaGreat.B
