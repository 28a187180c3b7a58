/-
  MsgRead of the program: its deferred closure, and what it answers for whatever bytes.
-/
import Derived.Test.YtaegcdbgnjlbdaaRead3
import Derived.Defers
import Derived.Recover
set_option linter.unusedVariables false
set_option maxRecDepth 100000
namespace Go.Proofs.Ytaegcdbgnjlbdaa.V
open Go.RowKit Go.ChangeShapes Go.WideShapes Go.Proofs.Ytaegcdbgnjlbdaa.B

theorem catch_idle (p q : Addr) (w : World) :
    CallsD Try.prog 65 #[.pointer (some p), .pointer (some q)] .returning w fun e u' w' => e = .returned (.tuple #[]) ∧ u' = .returning ∧ w' = w := by
  refine callsD_of_wpS Try.func65 rfl fun c₀ cs hu => ?_
  apply wpS_seq
  apply wpS_region
  simp [wpOpsS, go_sem, recoverD, hu, Try.ntmps65, Exit.thenS]
  refine wpS_cond (t := false) (by simp [Act.eval, Array.replicate]) ?_
  simp only [Bool.false_eq_true, if_false]
  refine wpS_of_wp (wp_skip ?_)
  cases c₀
  simp_all [bodyPostS, results, Try.results65]

theorem catch_panics (p q : Nat) (u : TypeId) (pv : Value) (older : List PanicEntry) (w : World) (hc : Blk w p 27 #[.int .i64 0, .int .i64 0, .int .i64 0, .int .i64 0, .int .i64 0, .slice none 0 0]) (hq : Blk w q 4 #[.bool false]) (hne : p ≠ q) :
    CallsD Try.prog 65 #[.pointer (some ⟨p, 0, none⟩), .pointer (some ⟨q, 0, none⟩)] (.panicking ({ v := .iface u pv, recovered := false } :: older)) w fun e u' w' =>
      e = .returned (.tuple #[]) ∧ u' = .panicking ({ v := .iface u pv, recovered := true } :: older) ∧ Blk w' p 27 #[.int .i64 0, .int .i64 0, .int .i64 0, .int .i64 0, .int .i64 0, .slice none 0 0] ∧ Blk w' q 4 #[.bool false] ∧
      w' = (((((((w.setCell ⟨p, 0, none⟩ (.int .i64 0)).setCell ⟨p, 1, none⟩ (.int .i64 0)).setCell ⟨p, 2, none⟩ (.int .i64 0)).setCell ⟨p, 3, none⟩ (.int .i64 0)).setCell ⟨p, 4, none⟩ (.int .i64 0)).setCell ⟨p, 5, none⟩ (.slice none 0 0)).setCell ⟨q, 0, none⟩ (.bool false)) := by
  have hc6 : Blk ((((((w.setCell ⟨p, 0, none⟩ (.int .i64 0)).setCell ⟨p, 1, none⟩ (.int .i64 0)).setCell ⟨p, 2, none⟩ (.int .i64 0)).setCell ⟨p, 3, none⟩ (.int .i64 0)).setCell ⟨p, 4, none⟩ (.int .i64 0)).setCell ⟨p, 5, none⟩ (.slice none 0 0)) p 27 #[.int .i64 0, .int .i64 0, .int .i64 0, .int .i64 0, .int .i64 0, .slice none 0 0] :=
    (((((hc.set_ 0 (.int .i64 0)).set_ 1 (.int .i64 0)).set_ 2 (.int .i64 0)).set_ 3 (.int .i64 0)).set_ 4 (.int .i64 0)).set_ 5 (.slice none 0 0)
  have hq6 : Blk ((((((w.setCell ⟨p, 0, none⟩ (.int .i64 0)).setCell ⟨p, 1, none⟩ (.int .i64 0)).setCell ⟨p, 2, none⟩ (.int .i64 0)).setCell ⟨p, 3, none⟩ (.int .i64 0)).setCell ⟨p, 4, none⟩ (.int .i64 0)).setCell ⟨p, 5, none⟩ (.slice none 0 0)) q 4 #[.bool false] := by
    iterate 6 refine Blk.far ?_ (by exact fun e => hne e.symm) _
    exact hq
  have hc7 := hc6.far (p := ⟨q, 0, none⟩) hne (.bool false)
  have hq7 : Blk _ q 4 #[.bool false] := hq6.set_ 0 (.bool false)
  have rc := hc.rule
  have fc := fun i => hc.frozen i
  have rq := hq6.rule
  have fq := fun i => hq6.frozen i
  refine callsD_of_wpS Try.func65 rfl fun c₀ cs hu => ?_
  apply wpS_seq
  apply wpS_region
  simp [wpOpsS, go_sem, recoverD, hu, Try.ntmps65, Exit.thenS]
  refine wpS_cond (t := true) (by simp [Act.eval, Array.replicate]) ?_
  simp only [if_true]
  refine wpS_of_wp ?_
  simp only [Array.replicate, List.replicate, List.setIfInBounds_toArray, List.set_cons_zero, List.set_cons_succ, List.append_toArray, List.cons_append, List.nil_append]
  go_wp2
  exact ⟨rfl, _, rfl, .tuple #[], by simp [results, Try.results65], rfl, rfl, hc7, hq7, rfl⟩

/-- What MsgRead of the program answers. -/
def IRes (xs : List Int) (w : World) (e : Ending) (w' : World) : Prop :=
  (∃ k v x a b us, xs = enc k v x a b us ∧ msgOkB k v x a b us = true ∧ GRes k v x a b true us w e w') ∨ (¬ Good xs ∧ GRes 0 0 0 0 0 false [] w e w')

set_option maxHeartbeats 1600000 in
theorem implRead_is (A : Option Addr) (n c : Nat) (xs : List Int) (hx : By xs) (hl : xs.length ≤ 1048576) (hn : xs.length = n) (hc : n ≤ c) (w : World) (hr : RdB w w.heap.size A xs) :
    Calls Try.prog 42 #[.slice A n c] w (IRes xs w) := by
  have hmf : ∀ (fn : Fn) (first cap : Array Value) (w : World), (Instr.makeFunc fn first cap).run Try.prog w = .ok (.func fn first cap) w := fun _ _ _ _ => rfl
  have hkm := ((Blk.new w 27 #[.int .i64 0, .int .i64 0, .int .i64 0, .int .i64 0, .int .i64 0, .slice none 0 0]).alloc (.cells #[.bool false] 4)).alloc (.cells #[.slice A n c] 105)
  have hkb := (Blk.new (w.alloc (.cells #[.int .i64 0, .int .i64 0, .int .i64 0, .int .i64 0, .int .i64 0, .slice none 0 0] 27)) 4 #[.bool false]).alloc (.cells #[.slice A n c] 105)
  have hkd := Blk.new ((w.alloc (.cells #[.int .i64 0, .int .i64 0, .int .i64 0, .int .i64 0, .int .i64 0, .slice none 0 0] 27)).alloc (.cells #[.bool false] 4)) 105 #[.slice A n c]
  simp only [World.size_alloc] at hkb hkd
  have hrd := ((hr.up (.cells #[.int .i64 0, .int .i64 0, .int .i64 0, .int .i64 0, .int .i64 0, .slice none 0 0] 27)).up (.cells #[.bool false] 4)).alloc (Nat.le_refl _) (.cells #[.slice A n c] 105)
  simp only [World.size_alloc] at hrd
  have hdec : Dec (((w.alloc (.cells #[.int .i64 0, .int .i64 0, .int .i64 0, .int .i64 0, .int .i64 0, .slice none 0 0] 27)).alloc (.cells #[.bool false] 4)).alloc (.cells #[.slice A n c] 105)) (w.heap.size + 1 + 1) xs := ⟨A, c, by omega, by rw [hn]; exact hkd, hrd⟩
  have hB3 : Below w.heap.size w (((w.alloc (.cells #[.int .i64 0, .int .i64 0, .int .i64 0, .int .i64 0, .int .i64 0, .slice none 0 0] 27)).alloc (.cells #[.bool false] 4)).alloc (.cells #[.slice A n c] 105)) := up_ (up_ (up_ (Below.refl _ _) _) _) _
  have hsz3 : (((w.alloc (.cells #[.int .i64 0, .int .i64 0, .int .i64 0, .int .i64 0, .int .i64 0, .slice none 0 0] 27)).alloc (.cells #[.bool false] 4)).alloc (.cells #[.slice A n c] 105)).heap.size = w.heap.size + 1 + 1 + 1 := by simp
  clear hkd hrd hr
  go_enter_defers Try.func42, Try.ntmps42
  go_wp2_with fail
  generalize ((w.alloc (.cells #[.int .i64 0, .int .i64 0, .int .i64 0, .int .i64 0, .int .i64 0, .slice none 0 0] 27)).alloc (.cells #[.bool false] 4)).alloc (.cells #[.slice A n c] 105) = w3 at *
  refine (msg_is (w.heap.size + 1 + 1) xs hx _ hdec hl).mono ?_
  rintro e w1 (⟨k, v, x, a, b, us, B, d, he, hq, rfl, ho, hg⟩ | ⟨⟨u, pv, rfl⟩, hng, hg⟩)
  · have km : Blk w1 w.heap.size 27 #[.int .i64 0, .int .i64 0, .int .i64 0, .int .i64 0, .int .i64 0, .slice none 0 0] := (hg.block _ hkm.lt (fun e => by injection e with e; omega)).trans hkm
    have kb : Blk w1 (w.heap.size + 1) 4 #[.bool false] := (hg.block _ hkb.lt (fun e => by injection e with e; omega)).trans hkb
    have hB1 : Below w.heap.size w w1 := hB3.grown hg (by omega) (fun g e => by injection e with e; omega)
    have hs1 := hg.size
    have HE := Lib.hid he
    have HQ := Lib.hid hq
    clear hdec hg hkm hkb hB3 he hq hx
    have rm := km.rule
    have fm := fun i => km.frozen i
    have km6 : Blk ((((((w1.setCell ⟨w.heap.size, 0, none⟩ (.int .i64 k)).setCell ⟨w.heap.size, 1, none⟩ (.int .i64 v)).setCell ⟨w.heap.size, 2, none⟩ (.int .i64 x)).setCell ⟨w.heap.size, 3, none⟩ (.int .i64 a)).setCell ⟨w.heap.size, 4, none⟩ (.int .i64 b)).setCell ⟨w.heap.size, 5, none⟩ (.slice B us.length d)) w.heap.size 27 #[.int .i64 k, .int .i64 v, .int .i64 x, .int .i64 a, .int .i64 b, .slice B us.length d] :=
      (((((km.set_ 0 _).set_ 1 _).set_ 2 _).set_ 3 _).set_ 4 _).set_ 5 _
    have kb6 : Blk ((((((w1.setCell ⟨w.heap.size, 0, none⟩ (.int .i64 k)).setCell ⟨w.heap.size, 1, none⟩ (.int .i64 v)).setCell ⟨w.heap.size, 2, none⟩ (.int .i64 x)).setCell ⟨w.heap.size, 3, none⟩ (.int .i64 a)).setCell ⟨w.heap.size, 4, none⟩ (.int .i64 b)).setCell ⟨w.heap.size, 5, none⟩ (.slice B us.length d)) (w.heap.size + 1) 4 #[.bool false] := by
      iterate 6 refine Blk.far ?_ (by simp) _
      exact kb
    have km7 := (km6.far (p := ⟨w.heap.size + 1, 0, none⟩) (by simp) (.bool true)).rule
    have kb7 : Blk _ (w.heap.size + 1) 4 #[.bool true] := kb6.set_ 0 (.bool true)
    have rb7 := kb7.rule
    have rb6 := kb6.rule
    have fb6 := fun i => kb6.frozen i
    go_wp2
    refine leaves_cons (f := 65) (args := #[.pointer (some ⟨w.heap.size, 0, none⟩), .pointer (some ⟨w.heap.size + 1, 0, none⟩)]) (by simp) (by simp [go_sem]) ?_
    refine (catch_idle ⟨w.heap.size, 0, none⟩ ⟨w.heap.size + 1, 0, none⟩ _).mono ?_
    rintro e u' w'' ⟨rfl, rfl, rfl⟩
    refine ⟨.tuple #[.agg #[.int .i64 k, .int .i64 v, .int .i64 x, .int .i64 a, .int .i64 b, .slice B us.length d], .bool true], by simp [results, Try.results42, go_sem, km7, rb7], ?_⟩
    refine .inl ⟨k, v, x, a, b, us, HE.out, HQ.out, B, d, rfl, ?_, ?_⟩
    · refine OV.more (b := w3.heap.size) ?_ (by omega)
      iterate 7 refine OV.set_ ?_ (by simp; omega) _
      exact ho
    · iterate 7 refine Below.setCell ?_ (by simp) _
      exact hB1
  · have km : Blk w1 w.heap.size 27 #[.int .i64 0, .int .i64 0, .int .i64 0, .int .i64 0, .int .i64 0, .slice none 0 0] := (hg.block _ hkm.lt (fun e => by injection e with e; omega)).trans hkm
    have kb : Blk w1 (w.heap.size + 1) 4 #[.bool false] := (hg.block _ hkb.lt (fun e => by injection e with e; omega)).trans hkb
    have hB1 : Below w.heap.size w w1 := hB3.grown hg (by omega) (fun g e => by injection e with e; omega)
    refine leaves_cons (f := 65) (args := #[.pointer (some ⟨w.heap.size, 0, none⟩), .pointer (some ⟨w.heap.size + 1, 0, none⟩)]) (by simp) (by simp [go_sem]) ?_
    refine (catch_panics w.heap.size (w.heap.size + 1) u pv [] w1 km kb (by omega)).mono ?_
    rintro e u' w2 ⟨rfl, rfl, km2, kb2, hw2⟩
    have rm2 := km2.rule
    have rb2 := kb2.rule
    refine ⟨.tuple #[.agg #[.int .i64 0, .int .i64 0, .int .i64 0, .int .i64 0, .int .i64 0, .slice none 0 0], .bool false], by simp [results, Try.results42, go_sem, rm2, rb2], ?_⟩
    refine .inr ⟨hng, none, 0, rfl, OV.nil_, ?_⟩
    subst hw2
    iterate 7 refine Below.setCell ?_ (by simp) _
    exact hB1
end Go.Proofs.Ytaegcdbgnjlbdaa.V
