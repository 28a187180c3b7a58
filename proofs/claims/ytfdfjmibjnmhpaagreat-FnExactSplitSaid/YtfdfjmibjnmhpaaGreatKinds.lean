/-
  The kinds of rows in a cluster: flags, messages, links, replicas. No statement is proved here.
-/
import Derived.Test.YtfdfjmibjnmhpaaGreatRow
import Derived.Test.YtfdfjmibjnmhpaaGreatRq
set_option linter.unusedVariables false
set_option maxRecDepth 100000
namespace Go.Proofs.YtfdfjmibjnmhpaaGreat.B
open Go.RowKit

/-- A message, and where its votes lie. -/
structure Mp where
  k : Int
  v : Int
  x : Int
  a : Int
  b : Int
  vs : List (Int × Int)
  A : Option Addr
  c : Nat
/-- The data alone. -/
structure Md where
  k : Int
  v : Int
  x : Int
  a : Int
  b : Int
  vs : List (Int × Int)
def Mp.dat (m : Mp) : Md := ⟨m.k, m.v, m.x, m.a, m.b, m.vs⟩
def Mp.cells (m : Mp) : Array Value := #[.int .i64 m.k, .int .i64 m.v, .int .i64 m.x, .int .i64 m.a, .int .i64 m.b, .slice m.A m.vs.length m.c]
def zM : Mp := ⟨0, 0, 0, 0, 0, [], none, 0⟩
def KM : Knd Mp := ⟨6, Mp.cells, fun w Bd m => Rd w Bd m.A m.vs, zM, by decide, fun _ => rfl, fun h hk => Rd.keep h hk, fun h hB => Rd.more h hB, fun w lo m => OwnL 2 w lo m.A m.vs.length, fun h hk => OwnL.keep h hk, fun h hl => OwnL.low h hl⟩
/-- A link, and where its messages lie. -/
structure Lp where
  ms : List Mp
  A : Option Addr
  c : Nat
def Lp.dat (l : Lp) : List Md := l.ms.map Mp.dat
def zL : Lp := ⟨[], none, 0⟩
def KL : Knd Lp := ⟨1, fun l => #[.slice l.A l.ms.length l.c], fun w Bd l => RdK KM w Bd l.A l.ms, zL, by decide, fun _ => rfl, fun h hk => RdK.keep h hk, fun h hB => RdK.more h hB, fun w lo l => OwnX KM w lo l.A l.ms, fun h hk => OwnX.keep h hk, fun h hl => OwnX.low h hl⟩
def KB : Knd Bool := ⟨1, fun b => #[.bool b], fun _ _ _ => True, false, by decide, fun _ => rfl, fun h _ => h, fun h _ => h, fun _ _ _ => True, fun h _ => h, fun h _ => h⟩
def zQ : Rq := ⟨0, 0, 0, 0, 0, [], 0, 0, 0, [], [], [], [], [], none, none, none, none, none, none, 0, 0, 0, 0, 0, 0⟩
def KQ : Knd Rq := ⟨14, Rq.cells, fun w Bd q => RdQ w Bd q, zQ, by decide, fun _ => rfl, fun h hk => RdQ.keep h hk, fun h hB => RdQ.more h hB, fun w lo q => OwnQ w lo q, fun h hk => OwnQ.keep h hk, fun h hl => OwnQ.low h hl⟩
/-- A cluster, and where its parts lie. -/
structure Cq where
  n : Int
  bad : List Bool
  rs : List Rq
  nt : List Lp
  Ab : Option Addr
  Ar : Option Addr
  An : Option Addr
  cb : Nat
  cr : Nat
  cn : Nat
structure Cd where
  n : Int
  bad : List Bool
  rs : List Rd4
  nt : List (List Md)
def Cq.dat (q : Cq) : Cd := ⟨q.n, q.bad, q.rs.map Rq.dat, q.nt.map Lp.dat⟩
def Cq.cells (q : Cq) : Array Value := #[.int .i64 q.n, .slice q.Ab q.bad.length q.cb, .slice q.Ar q.rs.length q.cr, .slice q.An q.nt.length q.cn]
def Cq.agg (q : Cq) : Value := .agg q.cells
structure RdC4 (w : World) (Bd : Nat) (q : Cq) : Prop where
  b : RdK KB w Bd q.Ab q.bad
  r : RdK KQ w Bd q.Ar q.rs
  n : RdK KL w Bd q.An q.nt
section
variable {w w' : World} {Bd Bd' : Nat} {q : Cq}
theorem RdC4.keep (h : RdC4 w Bd q) (hk : ∀ b o, b < Bd → w'.cell? ⟨b, o, none⟩ = w.cell? ⟨b, o, none⟩) : RdC4 w' Bd q := ⟨h.b.keep hk, h.r.keep hk, h.n.keep hk⟩
theorem RdC4.more (h : RdC4 w Bd q) (hB : Bd ≤ Bd') : RdC4 w Bd' q := ⟨h.b.more hB, h.r.more hB, h.n.more hB⟩
theorem RdC4.below (h : RdC4 w Bd q) (hb : Below Bd w w') : RdC4 w' Bd q := h.keep fun _ _ hp => hb.cell hp
theorem RdC4.alloc (h : RdC4 w Bd q) (hB : Bd ≤ w.heap.size) (o : Obj) : RdC4 (w.alloc o) Bd q := h.keep fun b o' hp => World.cell?_alloc_lt w o ⟨b, o', none⟩ (by simpa using (show b < w.heap.size by omega))
theorem RdC4.on (h : RdC4 w w.heap.size q) (hb : Below w.heap.size w w') : RdC4 w' w'.heap.size q := (h.below hb).more hb.size
theorem RdC4.up (h : RdC4 w w.heap.size q) (O : Obj) : RdC4 (w.alloc O) (w.alloc O).heap.size q := (h.alloc (Nat.le_refl _) O).more (by simp)
theorem RdC4.dr (h : RdC4 w w.heap.size q) : RdC4 w.drew w.drew.heap.size q := h.keep fun _ _ _ => rfl
end
end Go.Proofs.YtfdfjmibjnmhpaaGreat.B
namespace Go.Proofs.YtfdfjmibjnmhpaaGreat.V
open Go.RowKit Go.Proofs.YtfdfjmibjnmhpaaGreat.B
def fM (m : Mp) : Nat := m.vs.length
def fL (l : Lp) : Nat := l.ms.length + tkS fM zM l.ms l.ms.length
def totC (q : Cq) : Nat := q.bad.length + (q.rs.length + tkS tot zQ q.rs q.rs.length) + (q.nt.length + tkS fL zL q.nt q.nt.length)
def LensM (m : Mp) : Prop := m.vs.length ≤ maxLen
def LensL (l : Lp) : Prop := l.ms.length ≤ maxLen ∧ ∀ i, i < l.ms.length → LensM (l.ms.getD i zM)
structure LensC (q : Cq) : Prop where
  b : q.bad.length ≤ maxLen
  r : q.rs.length ≤ maxLen ∧ ∀ i, i < q.rs.length → LensQ (q.rs.getD i zQ)
  n : q.nt.length ≤ maxLen ∧ ∀ i, i < q.nt.length → LensL (q.nt.getD i zL)
def FewM (m : Mp) : Prop := m.vs.length ≤ 1048576
def FewL (l : Lp) : Prop := l.ms.length ≤ 1048576 ∧ ∀ i, i < l.ms.length → FewM (l.ms.getD i zM)
structure FewC (q : Cq) : Prop where
  b : q.bad.length ≤ 1048576
  r : q.rs.length ≤ 1048576 ∧ ∀ i, i < q.rs.length → FewQ (q.rs.getD i zQ)
  n : q.nt.length ≤ 1048576 ∧ ∀ i, i < q.nt.length → FewL (q.nt.getD i zL)
theorem fewL_of {l : Lp} (h : fL l ≤ 1048576) : FewL l := by
  unfold fL at h
  exact ⟨by omega, fun i hi => by have h1 : fM (l.ms.getD i zM) ≤ _ := tkS_one fM zM l.ms hi; unfold FewM; unfold fM at *; omega⟩
theorem fewC_of {q : Cq} (h : totC q ≤ 1048576) : FewC q := by
  unfold totC at h
  exact ⟨by omega, ⟨by omega, fun i hi => fewQ_of (by have := tkS_one tot zQ q.rs hi; omega)⟩, ⟨by omega, fun i hi => fewL_of (by have := tkS_one fL zL q.nt hi; omega)⟩⟩
theorem FewM.same {m m' : Mp} (h : FewM m) (e : m'.dat = m.dat) : FewM m' := by
  have : m'.vs = m.vs := congrArg Md.vs e
  unfold FewM at *; rw [this]; exact h
theorem FewL.same {l l' : Lp} (h : FewL l) (e : l'.dat = l.dat) : FewL l' := by
  have hl : l'.ms.length = l.ms.length := same_len (dat := Mp.dat) e
  exact ⟨by rw [hl]; exact h.1, fun i hi => (h.2 i (by omega)).same (same_at (dat := Mp.dat) (z := zM) e i)⟩
theorem FewC.same {q p : Cq} (h : FewC q) (e : p.dat = q.dat) : FewC p := by
  have e1 : p.bad = q.bad := congrArg Cd.bad e
  have e2 : p.rs.map Rq.dat = q.rs.map Rq.dat := congrArg Cd.rs e
  have e3 : p.nt.map Lp.dat = q.nt.map Lp.dat := congrArg Cd.nt e
  have l2 := same_len e2
  have l3 := same_len e3
  exact ⟨by rw [e1]; exact h.b, ⟨by rw [l2]; exact h.r.1, fun i hi => (h.r.2 i (by omega)).same (same_at e2 i)⟩, ⟨by rw [l3]; exact h.n.1, fun i hi => (h.n.2 i (by omega)).same (same_at e3 i)⟩⟩
end Go.Proofs.YtfdfjmibjnmhpaaGreat.V
