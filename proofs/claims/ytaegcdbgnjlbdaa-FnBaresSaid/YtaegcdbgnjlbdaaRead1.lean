/-
  Steps of the program's decoder: 'demand', 'number', 'vote': each answers, or panics with a value that is not nil.
-/
import Derived.Test.YtaegcdbgnjlbdaaOwns
import Derived.Test.YtaegcdbgnjlbdaaOwnV
import Derived.WalkSmall
set_option linter.unusedVariables false
set_option maxRecDepth 100000
namespace Go.Proofs.Ytaegcdbgnjlbdaa.V
open Go.RowKit Go.ChangeShapes Go.WideShapes Go.Proofs.Ytaegcdbgnjlbdaa.B

/-- A panic that nobody has recovered. -/
def Pan (e : Ending) : Prop := ∃ u pv, e = .panicked [{ v := .iface u pv, recovered := false }]

theorem demand_yes (w : World) : Calls Try.prog 82 #[.bool true] w fun e w' => e = .returned (.tuple #[]) ∧ w' = w := by
  go_enter Try.func82, Try.ntmps82
  go_wp2
  go_end0
  exact ⟨rfl, rfl⟩
theorem demand_no (w : World) : Calls Try.prog 82 #[.bool false] w fun e w' => Pan e ∧ w' = w := by
  go_enter Try.func82, Try.ntmps82
  go_wp2
  exact ⟨rfl, ⟨_, _, rfl⟩, rfl⟩

theorem RdB.tail {w : World} {Bd b off : Nat} {x : Int} {xs : List Int} (h : RdB w Bd (some ⟨b, off, none⟩) (x :: xs)) : RdB w Bd (some ⟨b, off + 1, none⟩) xs := fun hn => by
  obtain ⟨b', off', he, hb, hc⟩ := h (by simp)
  injection he with he
  injection he with h1 h2
  subst h1 h2
  refine ⟨_, _, rfl, hb, fun i hi => ?_⟩
  have := hc (i + 1) (by simp; omega)
  simpa [Nat.add_assoc, Nat.add_comm 1 i] using this
theorem RdB.set_ {w : World} {Bd : Nat} {A : Option Addr} {xs : List Int} (h : RdB w Bd A xs) {p : Addr} (hp : Bd ≤ p.block) (u : Value) : RdB (w.setCell p u) Bd A xs :=
  h.keep fun b o hb => World.cell?_setCell_other w p ⟨b, o, none⟩ u (fun e => by subst e; simp at hp; omega)

theorem number_no (p c : Nat) (A : Option Addr) (t : TypeId) (w : World) (hp : Blk w p t #[.slice A 0 c]) :
    Calls Try.prog 80 #[.pointer (some ⟨p, 0, none⟩)] w fun e w' => Pan e ∧ w' = w := by
  have rp := hp.rule
  go_enter Try.func80, Try.ntmps80
  go_wp2_with fail
  refine (demand_no _).mono ?_
  rintro e w1 ⟨⟨u, pv, rfl⟩, rfl⟩
  exact ⟨rfl, ⟨_, _, rfl⟩, rfl⟩

theorem number_yes (p c n : Nat) (A : Option Addr) (t : TypeId) (x : Int) (xs : List Int) (hn : (x :: xs).length = n) (hc : n ≤ c) (hx : 0 ≤ x) (hx' : x < 256) (w : World) (hp : Blk w p t #[.slice A n c]) (hr : RdB w p A (x :: xs)) :
    Calls Try.prog 80 #[.pointer (some ⟨p, 0, none⟩)] w fun e w' => e = .returned (.int .i64 x) ∧
      ∃ A' c', xs.length ≤ c' ∧ Blk w' p t #[.slice A' xs.length c'] ∧ RdB w' p A' xs ∧ w.grownBy w' (some p) := by
  have rp := hp.rule
  have fp := fun i => hp.frozen i
  obtain ⟨b, off, rfl, hb, hcell⟩ := hr.at_ (k := 0) (by simp)
  have hcell : w.cell? ⟨b, off, none⟩ = some (.int .u8 x) := by simpa using hcell
  have h0 : 0 < n := by simp at hn; omega
  go_enter Try.func80, Try.ntmps80
  go_wp2_with fail
  skip
  refine (demand_yes _).mono ?_
  rintro e w1 ⟨rfl, rfl⟩
  have hn1 : n - 1 = xs.length := by simp at hn; omega
  go_wp2
  all_goals first
    | (exfalso; omega)
    | (go_ret
       refine ⟨rfl, _, _, ?_, hp.set_ 0 _, ?_, only_setB (World.grownBy.refl _ _) _ _⟩
       · omega
       · first
         | exact RdB.set_ (RdB.tail hr) (Nat.le_refl _) _
         | (obtain rfl : xs = [] := List.eq_nil_of_length_eq_zero (by omega)
            exact RdB.nil_))

/-- The decoder at block p has the bytes xs before it. -/
def Dec (w : World) (p : Nat) (xs : List Int) : Prop := ∃ A c, xs.length ≤ c ∧ Blk w p 105 #[.slice A xs.length c] ∧ RdB w p A xs
theorem Dec.kept {w w' : World} {p : Nat} {xs : List Int} {row : Option Nat} (h : Dec w p xs) (hg : w.grownBy w' row) (hr : ∀ g, row = some g → p < g) : Dec w' p xs := by
  obtain ⟨A, c, hc, hb, hx⟩ := h
  exact ⟨A, c, hc, (hg.block p hb.lt (fun e => by have := hr p e.symm; omega)).trans hb, hx.keep fun b o hlt => hg.cell_far ⟨b, o, none⟩ (by have := hb.lt; show b < _; omega) (fun e => by have := hr b e.symm; omega)⟩
theorem Dec.lt {w : World} {p : Nat} {xs : List Int} (h : Dec w p xs) : p < w.heap.size := by
  obtain ⟨A, c, hc, hb, hx⟩ := h
  exact hb.lt
theorem Dec.up {w : World} {p : Nat} {xs : List Int} (h : Dec w p xs) (O : Obj) : Dec (w.alloc O) p xs := h.kept (World.grownBy_alloc w O none) (by simp)
theorem Dec.set_ {w : World} {p : Nat} {xs : List Int} (h : Dec w p xs) {g i : Nat} (hg : p < g) (v : Value) : Dec (w.setCell ⟨g, i, none⟩ v) p xs :=
  h.kept (only_setB (World.grownBy.refl _ _) i v) (fun g' e => by cases e; exact hg)
theorem Dec.set2 {w : World} {p : Nat} {xs : List Int} (h : Dec w p xs) {g i j : Nat} (hg : p < g) (_ : True) (u v : Value) : Dec ((w.setCell ⟨g, i, none⟩ u).setCell ⟨g, j, none⟩ v) p xs := (h.set_ hg u).set_ hg v
/-- Memory made later may be set. -/
theorem grown_set {w w' : World} {p g i : Nat} (h : w.grownBy w' (some p)) (hg : w.heap.size ≤ g) (v : Value) : w.grownBy (w'.setCell ⟨g, i, none⟩ v) (some p) :=
  let k := only_setB (World.grownBy.refl w' (some g)) i v
  ⟨k.os.trans h.os, k.tape.trans h.tape, k.output.trans h.output, Nat.le_trans h.size k.size, fun j hj hne => (k.block j (by have := h.size; omega) (fun e => by injection e with e; omega)).trans (h.block j hj hne)⟩
theorem grown_set2 {w w' : World} {p g i j : Nat} (h : w.grownBy w' (some p)) (hg : w.heap.size ≤ g) (u v : Value) : w.grownBy ((w'.setCell ⟨g, i, none⟩ u).setCell ⟨g, j, none⟩ v) (some p) := grown_set (grown_set h hg u) hg v
/-- Every byte is one. -/
def By (xs : List Int) : Prop := ∀ x ∈ xs, 0 ≤ x ∧ x < 256

theorem num_no (p : Nat) (w : World) (h : Dec w p []) :
    Calls Try.prog 80 #[.pointer (some ⟨p, 0, none⟩)] w fun e w' => Pan e ∧ w.grownBy w' (some p) := by
  obtain ⟨A, c, hc, hb, hx⟩ := h
  refine (number_no p c A _ w hb).mono ?_
  rintro e w' ⟨h, rfl⟩
  exact ⟨h, World.grownBy.refl _ _⟩
theorem num_yes (p : Nat) (x : Int) (xs : List Int) (hx : By (x :: xs)) (w : World) (h : Dec w p (x :: xs)) :
    Calls Try.prog 80 #[.pointer (some ⟨p, 0, none⟩)] w fun e w' => e = .returned (.int .i64 x) ∧ Dec w' p xs ∧ w.grownBy w' (some p) := by
  obtain ⟨A, c, hc, hb, hr⟩ := h
  have h1 := hx x (by simp)
  refine (number_yes p c _ A _ x xs rfl hc h1.1 h1.2 w hb hr).mono ?_
  rintro e w' ⟨h, A', c', h1, h2, h3, h4⟩
  exact ⟨h, ⟨A', c', h1, h2, h3⟩, h4⟩

theorem vote_yes (p : Nat) (x y : Int) (xs : List Int) (hx : By (x :: y :: xs)) (w : World) (h : Dec w p (x :: y :: xs)) :
    Calls Try.prog 81 #[.pointer (some ⟨p, 0, none⟩)] w fun e w' => e = .returned (.agg #[.int .i64 x, .int .i64 y]) ∧ Dec w' p xs ∧ w.grownBy w' (some p) := by
  have hy : By (y :: xs) := fun z hz => hx z (List.mem_cons_of_mem _ hz)
  go_enter Try.func81, Try.ntmps81
  go_wp2_with fail
  refine (num_yes p x _ hx _ (h.up _)).mono ?_
  rintro e w1 ⟨rfl, hd1, hg1⟩
  have hp := h.lt
  have kz1 : Blk w1 w.heap.size 24 #[.int .i64 0, .int .i64 0] := (hg1.block _ (by simp) (fun e => by injection e with e; omega)).trans (Blk.new w _ _)
  have hs1 := hg1.size
  simp only [World.size_alloc] at hs1
  have hg1' := hg1
  go_wp2_with fail
  refine (num_yes p y _ hy _ hd1).mono ?_
  rintro e w2 ⟨rfl, hd2, hg2⟩
  have kz2 : Blk w2 w.heap.size 24 #[.int .i64 0, .int .i64 0] := (hg2.block _ (by omega) (fun e => by injection e with e; omega)).trans kz1
  have hs2 := hg2.size
  have rz2 := kz2.rule
  have fz2 := fun i => kz2.frozen i
  go_wp2
  have ka : Blk (w2.setCell ⟨w.heap.size, 0, none⟩ (.int .i64 x)) w.heap.size 24 #[.int .i64 x, .int .i64 0] := kz2.set_ 0 _
  have kb : Blk ((w2.setCell ⟨w.heap.size, 0, none⟩ (.int .i64 x)).setCell ⟨w.heap.size, 1, none⟩ (.int .i64 y)) w.heap.size 24 #[.int .i64 x, .int .i64 y] := ka.set_ 1 _
  have rb := kb.rule
  refine bodyPost_ret (v := .agg #[.int .i64 x, .int .i64 y]) (by simp [results, Try.results81, go_sem, rb]) rfl ?_
  refine ⟨rfl, hd2.set2 (by omega) trivial _ _, ?_⟩
  refine grown_set2 ((grown_alloc hg1').trans hg2) (Nat.le_refl _) _ _
theorem vote_no (p : Nat) (xs : List Int) (hx : By xs) (hl : xs.length < 2) (w : World) (h : Dec w p xs) :
    Calls Try.prog 81 #[.pointer (some ⟨p, 0, none⟩)] w fun e w' => Pan e ∧ w.grownBy w' (some p) := by
  match xs, hl with
  | [], _ =>
    go_enter Try.func81, Try.ntmps81
    go_wp2_with fail
    refine (num_no p _ (h.up _)).mono ?_
    rintro e w1 ⟨⟨u, pv, rfl⟩, hg1⟩
    exact ⟨rfl, ⟨_, _, rfl⟩, grown_alloc hg1⟩
  | [x], _ =>
    go_enter Try.func81, Try.ntmps81
    go_wp2_with fail
    refine (num_yes p x _ hx _ (h.up _)).mono ?_
    rintro e w1 ⟨rfl, hd1, hg1⟩
    go_wp2_with fail
    refine (num_no p _ hd1).mono ?_
    rintro e w2 ⟨⟨u, pv, rfl⟩, hg2⟩
    exact ⟨rfl, ⟨_, _, rfl⟩, (grown_alloc hg1).trans hg2⟩
  | x :: y :: r, hl => simp at hl; omega
end Go.Proofs.Ytaegcdbgnjlbdaa.V
