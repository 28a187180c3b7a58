/-
  TallyAdd and Joined of the model: contracts. No statement is proved here.
-/
import Derived.Test.YtaegcdbgnjlbdaaOwnT
import Derived.Deep.AppendLies
set_option linter.unusedVariables false
set_option maxRecDepth 100000
namespace Go.Proofs.Ytaegcdbgnjlbdaa.V
open Go.RowKit Go.Proofs.Ytaegcdbgnjlbdaa.B

theorem infoB4 : (Try.prog.info? 61).map (fun i => (i.zero, i.size, i.bytes)) = some (some (.agg #[.int .i64 0, .int .i64 0, .int .i64 0]), 3, 24) := by kernel_rfl
/-- A tally of the call's own. -/
def TRes (us : List B3) (w : World) (e : Ending) (w' : World) : Prop :=
  ∃ B d, e = .returned (.agg #[.slice B us.length d]) ∧ OT w' 61 w.heap.size B us ∧ Below w.heap.size w w' ∧ us.length ≤ d
theorem form3 {w : World} {base e size n : Nat} {v : Value} {xs : List Value} (h : w.ownsRow base e size v n xs) : ∃ A c, v = .slice A n c := by
  obtain ⟨_, ⟨rfl, rfl⟩ | ⟨g, cap, cur, rfl, _⟩⟩ := h
  · exact ⟨_, _, rfl⟩
  · exact ⟨_, _, rfl⟩
theorem cap_of {w : World} {b e size n d : Nat} {A : Option Addr} {xs : List Value} (h : w.ownsRow b e size (.slice A n d) n xs) : n ≤ d := by
  obtain ⟨_, ⟨h1, h2⟩ | ⟨g, cap, cur, h1, _, _, h4, _⟩⟩ := h
  · omega
  · injection h1 with _ _ h1
    omega
theorem own_empty (w : World) (t : TypeId) : (w.alloc (.cells #[] t)).ownsRow w.heap.size t 3 (.slice (some ⟨w.heap.size, 0, none⟩) 0 0) 0 [] :=
  ⟨rfl, .inr ⟨w.heap.size, 0, #[], rfl, Nat.le_refl _, heap_alloc_new w _, Nat.le_refl _, by decide, rfl, rfl⟩⟩

set_option maxHeartbeats 1600000 in
theorem l2own_any (A : Option Addr) (c : Nat) (vs : List B3) (w : World) (hr : Rd3 w w.heap.size A vs) (hn : vs.length ≤ 2097152) :
    Calls Try.prog 86 #[.agg #[.slice A vs.length c]] w (TRes vs w) := by
  obtain ⟨i0, hi0, hz0, hz1, hz2⟩ := info_parts infoB4
  obtain ⟨n, hvn⟩ : ∃ n, vs.length = n := ⟨_, rfl⟩
  have hrr := hr.reads
  rw [hvn] at hn hrr ⊢
  have HV := Lib.hid hvn; clear hvn
  have ho := own_empty ((w.alloc (.cells #[.slice A n c] 44)).alloc (.cells #[.slice none 0 0] 44)) 61
  have kr := (Blk.new (w.alloc (.cells #[.slice A n c] 44)) 44 #[.slice none 0 0]).alloc (.cells #[] 61)
  have hr3 := ((hrr.alloc (Nat.le_refl _) (.cells #[.slice A n c] 44)).alloc (by simp) (.cells #[.slice none 0 0] 44)).alloc (by simp; omega) (.cells #[] 61)
  have hB3 : Below w.heap.size w (((w.alloc (.cells #[.slice A n c] 44)).alloc (.cells #[.slice none 0 0] 44)).alloc (.cells #[] 61)) := up_ (up_ (up_ (Below.refl _ _) _) _) _
  simp only [World.size_alloc] at ho kr
  have HO := Lib.hid ho; clear ho
  have HR3 := Lib.hid hr3; clear hr3 hrr hr
  have hlb := bcells_one vs
  have HLB := Lib.hid hlb; clear hlb
  go_enter Try.func86, Try.ntmps86
  go_wp2_with (at_builtin; refine wpList_append_any _ rfl (.tmp 3) (.tmp 5) 42 rfl (w.heap.size + 1 + 1) 61 i0 _ 3 24 Try.underlying42 hi0 hz0 hz1 hz2 rfl (by omega) (.slice (some ⟨w.heap.size + 1 + 1, 0, none⟩) 0 0) 0 [] rfl HO.out w.heap.size A n c (bcells vs) rfl HR3.out HLB.out (by simp only [maxLen]; omega) (by omega) (by simp) ?_; intro v2 w2 hown2 hgr2 hat2; obtain ⟨B2, d2, rfl⟩ := form3 hown2; have kr2 := keepK kr hgr2 (by simp [Value.ownBlock]); have rr2 := kr2.rule; have fr2 := (fun i => kr2.frozen i); have kr3 : Blk (w2.setCell ⟨w.heap.size + 1, 0, none⟩ (.slice B2 (0 + n) d2)) (w.heap.size + 1) 44 #[.slice B2 (0 + n) d2] := kr2.set_ 0 _; have rr3 := kr3.rule)
  simp only [Nat.zero_add, List.nil_append] at hown2 rr3
  have hB2 : Below w.heap.size w w2 := hB3.grown hgr2 (by simp; omega) (fun j hj => by simp only [Value.ownBlock] at hj; injection hj with hj; omega)
  refine bodyPost_ret (v := .agg #[.slice B2 n d2]) (by simp [results, Try.results86, go_sem, rr3]) rfl ⟨B2, d2, by rw [HV.out], ?_, Below.setCell hB2 (by simp) _, by rw [HV.out]; exact cap_of hown2⟩
  have o := OT.of_own (us := vs) (A := B2) (c := d2) (by rw [HV.out]; exact hown2)
  exact OT.more (OT.set_ o (by simp) _) (by omega)

def insT (vs : List B3) (k : Nat) (u : B3) : List B3 := vs.take k ++ u :: vs.drop k
/-- The place of a ballot: all before it are less. -/
def Pl (vs : List B3) (u : B3) (k : Nat) : Prop := k ≤ vs.length ∧ (∀ j, j < k → cmp3 (vs.getD j z3) u < 0) ∧ (k < vs.length → ¬ cmp3 (vs.getD k z3) u < 0)
/-- The ballot is there already. -/
def hasB (vs : List B3) (u : B3) (k : Nat) : Bool := decide (k < vs.length) && decide (cmp3 (vs.getD k z3) u = 0)
/-- What is added to: a tally that reads. -/
def ARes (us : List B3) (q : Bool) (w : World) (e : Ending) (w' : World) : Prop :=
  ∃ B d, e = .returned (.tuple #[.agg #[.slice B us.length d], .bool q]) ∧ us.length ≤ d ∧ Rd3 w' w'.heap.size B us ∧ Below w.heap.size w w'

end Go.Proofs.Ytaegcdbgnjlbdaa.V
