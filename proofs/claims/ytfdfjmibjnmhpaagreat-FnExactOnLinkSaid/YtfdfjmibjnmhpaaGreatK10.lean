/-
  The kinds of rows in a cluster: flags, messages, links, replicas. Marks laid on rows of messages: contracts of markMsgS and heldMsgS. Rows of messages of the call's own, their votes in rows of their own, and how they bear marks. Which clusters are valid, as mathematics. No statement is proved here.
-/
import Derived.Test.YtfdfjmibjnmhpaaGreatK09
import Derived.Test.YtfdfjmibjnmhpaaGreatK03
import Derived.Test.YtfdfjmibjnmhpaaGreatK08
import Derived.Test.YtfdfjmibjnmhpaaGreatK05
set_option linter.unusedVariables false
set_option maxRecDepth 100000
namespace Go.Proofs.YtfdfjmibjnmhpaaGreat.B
open Go.RowKit

/-- A message, and where its votes lie. -/
structure Mp where
  k : Int
  v : Int
  x : Int
  a : Int
  b : Int
  vs : List (Int × Int)
  A : Option Addr
  c : Nat
/-- The data alone. -/
structure Md where
  k : Int
  v : Int
  x : Int
  a : Int
  b : Int
  vs : List (Int × Int)
def Mp.dat (m : Mp) : Md := ⟨m.k, m.v, m.x, m.a, m.b, m.vs⟩
def Mp.cells (m : Mp) : Array Value := #[.int .i64 m.k, .int .i64 m.v, .int .i64 m.x, .int .i64 m.a, .int .i64 m.b, .slice m.A m.vs.length m.c]
def zM : Mp := ⟨0, 0, 0, 0, 0, [], none, 0⟩
def KM : Knd Mp := ⟨6, Mp.cells, fun w Bd m => Rd w Bd m.A m.vs, zM, by decide, fun _ => rfl, fun h hk => Rd.keep h hk, fun h hB => Rd.more h hB, fun w lo m => OwnL 2 w lo m.A m.vs.length, fun h hk => OwnL.keep h hk, fun h hl => OwnL.low h hl⟩
/-- A link, and where its messages lie. -/
structure Lp where
  ms : List Mp
  A : Option Addr
  c : Nat
def Lp.dat (l : Lp) : List Md := l.ms.map Mp.dat
def zL : Lp := ⟨[], none, 0⟩
def KL : Knd Lp := ⟨1, fun l => #[.slice l.A l.ms.length l.c], fun w Bd l => RdK KM w Bd l.A l.ms, zL, by decide, fun _ => rfl, fun h hk => RdK.keep h hk, fun h hB => RdK.more h hB, fun w lo l => OwnX KM w lo l.A l.ms, fun h hk => OwnX.keep h hk, fun h hl => OwnX.low h hl⟩
def KB : Knd Bool := ⟨1, fun b => #[.bool b], fun _ _ _ => True, false, by decide, fun _ => rfl, fun h _ => h, fun h _ => h, fun _ _ _ => True, fun h _ => h, fun h _ => h⟩
def zQ : Rq := ⟨0, 0, 0, 0, 0, [], 0, 0, 0, [], [], [], [], [], none, none, none, none, none, none, 0, 0, 0, 0, 0, 0⟩
def KQ : Knd Rq := ⟨14, Rq.cells, fun w Bd q => RdQ w Bd q, zQ, by decide, fun _ => rfl, fun h hk => RdQ.keep h hk, fun h hB => RdQ.more h hB, fun w lo q => OwnQ w lo q, fun h hk => OwnQ.keep h hk, fun h hl => OwnQ.low h hl⟩
/-- A cluster, and where its parts lie. -/
structure Cq where
  n : Int
  bad : List Bool
  rs : List Rq
  nt : List Lp
  Ab : Option Addr
  Ar : Option Addr
  An : Option Addr
  cb : Nat
  cr : Nat
  cn : Nat
structure Cd where
  n : Int
  bad : List Bool
  rs : List Rd4
  nt : List (List Md)
def Cq.dat (q : Cq) : Cd := ⟨q.n, q.bad, q.rs.map Rq.dat, q.nt.map Lp.dat⟩
def Cq.cells (q : Cq) : Array Value := #[.int .i64 q.n, .slice q.Ab q.bad.length q.cb, .slice q.Ar q.rs.length q.cr, .slice q.An q.nt.length q.cn]
def Cq.agg (q : Cq) : Value := .agg q.cells
structure RdC4 (w : World) (Bd : Nat) (q : Cq) : Prop where
  b : RdK KB w Bd q.Ab q.bad
  r : RdK KQ w Bd q.Ar q.rs
  n : RdK KL w Bd q.An q.nt
section
variable {w w' : World} {Bd Bd' : Nat} {q : Cq}
theorem RdC4.keep (h : RdC4 w Bd q) (hk : ∀ b o, b < Bd → w'.cell? ⟨b, o, none⟩ = w.cell? ⟨b, o, none⟩) : RdC4 w' Bd q := ⟨h.b.keep hk, h.r.keep hk, h.n.keep hk⟩
theorem RdC4.more (h : RdC4 w Bd q) (hB : Bd ≤ Bd') : RdC4 w Bd' q := ⟨h.b.more hB, h.r.more hB, h.n.more hB⟩
theorem RdC4.below (h : RdC4 w Bd q) (hb : Below Bd w w') : RdC4 w' Bd q := h.keep fun _ _ hp => hb.cell hp
theorem RdC4.alloc (h : RdC4 w Bd q) (hB : Bd ≤ w.heap.size) (o : Obj) : RdC4 (w.alloc o) Bd q := h.keep fun b o' hp => World.cell?_alloc_lt w o ⟨b, o', none⟩ (by simpa using (show b < w.heap.size by omega))
theorem RdC4.on (h : RdC4 w w.heap.size q) (hb : Below w.heap.size w w') : RdC4 w' w'.heap.size q := (h.below hb).more hb.size
theorem RdC4.up (h : RdC4 w w.heap.size q) (O : Obj) : RdC4 (w.alloc O) (w.alloc O).heap.size q := (h.alloc (Nat.le_refl _) O).more (by simp)
theorem RdC4.dr (h : RdC4 w w.heap.size q) : RdC4 w.drew w.drew.heap.size q := h.keep fun _ _ _ => rfl
end
end Go.Proofs.YtfdfjmibjnmhpaaGreat.B
namespace Go.Proofs.YtfdfjmibjnmhpaaGreat.V
open Go.RowKit Go.Proofs.YtfdfjmibjnmhpaaGreat.B
def fM (m : Mp) : Nat := m.vs.length
def fL (l : Lp) : Nat := l.ms.length + tkS fM zM l.ms l.ms.length
def totC (q : Cq) : Nat := q.bad.length + (q.rs.length + tkS tot zQ q.rs q.rs.length) + (q.nt.length + tkS fL zL q.nt q.nt.length)
def LensM (m : Mp) : Prop := m.vs.length ≤ maxLen
def LensL (l : Lp) : Prop := l.ms.length ≤ maxLen ∧ ∀ i, i < l.ms.length → LensM (l.ms.getD i zM)
structure LensC (q : Cq) : Prop where
  b : q.bad.length ≤ maxLen
  r : q.rs.length ≤ maxLen ∧ ∀ i, i < q.rs.length → LensQ (q.rs.getD i zQ)
  n : q.nt.length ≤ maxLen ∧ ∀ i, i < q.nt.length → LensL (q.nt.getD i zL)
def FewM (m : Mp) : Prop := m.vs.length ≤ 1048576
def FewL (l : Lp) : Prop := l.ms.length ≤ 1048576 ∧ ∀ i, i < l.ms.length → FewM (l.ms.getD i zM)
structure FewC (q : Cq) : Prop where
  b : q.bad.length ≤ 1048576
  r : q.rs.length ≤ 1048576 ∧ ∀ i, i < q.rs.length → FewQ (q.rs.getD i zQ)
  n : q.nt.length ≤ 1048576 ∧ ∀ i, i < q.nt.length → FewL (q.nt.getD i zL)
theorem fewL_of {l : Lp} (h : fL l ≤ 1048576) : FewL l := by
  unfold fL at h
  exact ⟨by omega, fun i hi => by have h1 : fM (l.ms.getD i zM) ≤ _ := tkS_one fM zM l.ms hi; unfold FewM; unfold fM at *; omega⟩
theorem fewC_of {q : Cq} (h : totC q ≤ 1048576) : FewC q := by
  unfold totC at h
  exact ⟨by omega, ⟨by omega, fun i hi => fewQ_of (by have := tkS_one tot zQ q.rs hi; omega)⟩, ⟨by omega, fun i hi => fewL_of (by have := tkS_one fL zL q.nt hi; omega)⟩⟩
theorem FewM.same {m m' : Mp} (h : FewM m) (e : m'.dat = m.dat) : FewM m' := by
  have : m'.vs = m.vs := congrArg Md.vs e
  unfold FewM at *; rw [this]; exact h
theorem FewL.same {l l' : Lp} (h : FewL l) (e : l'.dat = l.dat) : FewL l' := by
  have hl : l'.ms.length = l.ms.length := same_len (dat := Mp.dat) e
  exact ⟨by rw [hl]; exact h.1, fun i hi => (h.2 i (by omega)).same (same_at (dat := Mp.dat) (z := zM) e i)⟩
theorem FewC.same {q p : Cq} (h : FewC q) (e : p.dat = q.dat) : FewC p := by
  have e1 : p.bad = q.bad := congrArg Cd.bad e
  have e2 : p.rs.map Rq.dat = q.rs.map Rq.dat := congrArg Cd.rs e
  have e3 : p.nt.map Lp.dat = q.nt.map Lp.dat := congrArg Cd.nt e
  have l2 := same_len e2
  have l3 := same_len e3
  exact ⟨by rw [e1]; exact h.b, ⟨by rw [l2]; exact h.r.1, fun i hi => (h.r.2 i (by omega)).same (same_at e2 i)⟩, ⟨by rw [l3]; exact h.n.1, fun i hi => (h.n.2 i (by omega)).same (same_at e3 i)⟩⟩
end Go.Proofs.YtfdfjmibjnmhpaaGreat.V

namespace Go.Proofs.YtfdfjmibjnmhpaaGreat.V
open Go.RowKit Go.Proofs.YtfdfjmibjnmhpaaGreat.B

def tvM (ps : List Mp) : Nat → Nat
  | 0 => 0
  | k + 1 => tvM ps k + (ps.getD k zM).vs.length
theorem tvM_mono (ps : List Mp) {i j : Nat} (h : i ≤ j) : tvM ps i ≤ tvM ps j := by
  induction j with
  | zero => obtain rfl : i = 0 := by omega
            exact Nat.le_refl _
  | succ j ih =>
    by_cases e : i = j + 1
    · rw [e]; exact Nat.le_refl _
    · exact Nat.le_trans (ih (by omega)) (Nat.le_add_right _ _)
/-- The mark with which message i begins. -/
def kM (qs : List Mp) (k : Int) (i : Nat) : Int := k + 5 * i + 2 * tvM qs i
theorem kM_zero (qs : List Mp) (k : Int) : kM qs k 0 = k := by simp [kM, tvM]
theorem kM_succ (qs : List Mp) (k : Int) (i : Nat) : kM qs k (i + 1) = kM qs k i + 5 + 2 * (qs.getD i zM).vs.length := by simp only [kM, tvM]; omega
theorem kM_ge (qs : List Mp) (k : Int) (i : Nat) : k ≤ kM qs k i := by simp only [kM]; omega
theorem kM_le (qs : List Mp) (k : Int) {i j : Nat} (h : i ≤ j) : kM qs k i ≤ kM qs k j := by
  have := tvM_mono qs h
  simp only [kM]; omega

/-- Only the blocks from lo on and below hi, and what is new, may have turned. -/
structure Mid (lo hi : Nat) (w w' : World) : Prop where
  os : w'.os = w.os
  tape : w'.tape = w.tape
  output : w'.output = w.output
  size : w.heap.size ≤ w'.heap.size
  block : ∀ k, k < w.heap.size → (k < lo ∨ hi ≤ k) → w'.heap[k]? = w.heap[k]?
theorem Mid.refl (lo hi : Nat) (w : World) : Mid lo hi w w := ⟨rfl, rfl, rfl, Nat.le_refl _, fun _ _ _ => rfl⟩
theorem Mid.trans {lo hi : Nat} {a b c : World} (h : Mid lo hi a b) (k : Mid lo hi b c) : Mid lo hi a c :=
  ⟨k.os.trans h.os, k.tape.trans h.tape, k.output.trans h.output, Nat.le_trans h.size k.size, fun i hi ho => (k.block i (Nat.lt_of_lt_of_le hi h.size) ho).trans (h.block i hi ho)⟩
theorem Mid.set_ {lo hi : Nat} {a w : World} (h : Mid lo hi a w) {g : Nat} (h1 : lo ≤ g) (h2 : g < hi) (i : Nat) (u : Value) : Mid lo hi a (w.setCell ⟨g, i, none⟩ u) :=
  ⟨h.os, h.tape, h.output, by simpa [World.setCell] using h.size, fun j hj ho => (Below.heap_setCell w ⟨g, i, none⟩ u j (by
    rintro rfl
    rcases ho with ho | ho
    · exact absurd h1 (by show ¬ lo ≤ j; omega)
    · exact absurd h2 (by show ¬ j < hi; omega))).trans (h.block j hj ho)⟩
theorem Mid.grown {lo hi : Nat} {a w w' : World} (h : Mid lo hi a w) {g : Nat} (hg : w.grownBy w' (some g)) (h1 : lo ≤ g) (h2 : g < hi) : Mid lo hi a w' :=
  ⟨hg.os.trans h.os, hg.tape.trans h.tape, hg.output.trans h.output, Nat.le_trans h.size hg.size, fun j hj ho => (hg.block j (Nat.lt_of_lt_of_le hj h.size) (fun e => by injection e with e; omega)).trans (h.block j hj ho)⟩
theorem Mid.below {lo hi : Nat} {w w' : World} (h : Mid lo hi w w') (hl : lo ≤ w.heap.size) : Below lo w w' := ⟨h.os, h.tape, h.output, h.size, fun k hk => h.block k (by omega) (.inl hk)⟩

/-- The messages qs in block g, their votes in blocks gs of their own; the first j of them bear the marks from k on. -/
structure MkM (w : World) (g : Nat) (gs : Nat → Nat) (cur : Array Value) (qs : List Mp) (k : Int) (j : Nat) : Prop where
  blk : Blk w g 64 cur
  size : qs.length * 6 ≤ cur.size
  votes : ∀ i, i < qs.length → cur[i * 6 + 5]? = some (.slice (qs.getD i zM).A (qs.getD i zM).vs.length (qs.getD i zM).c)
  own : ∀ i, i < qs.length → 0 < (qs.getD i zM).vs.length → (qs.getD i zM).A = some ⟨gs i, 0, none⟩ ∧ ∃ cs, Blk w (gs i) 61 cs ∧ (qs.getD i zM).vs.length * 2 ≤ cs.size ∧ (i < j → MK cs (kM qs k i + 5) (qs.getD i zM).vs.length)
  head : ∀ i, i < j → cur[i * 6]? = some (.int .i64 (kM qs k i)) ∧ cur[i * 6 + 1]? = some (.int .i64 (kM qs k i + 1)) ∧ cur[i * 6 + 2]? = some (.int .i64 (kM qs k i + 2)) ∧ cur[i * 6 + 3]? = some (.int .i64 (kM qs k i + 3)) ∧ cur[i * 6 + 4]? = some (.int .i64 (kM qs k i + 4))
  apart : ∀ i i', i < i' → i' < qs.length → 0 < (qs.getD i zM).vs.length → 0 < (qs.getD i' zM).vs.length → gs i ≠ gs i'
theorem two_typesM {w : World} {g g' : Nat} {cs cs' : Array Value} (h : Blk w g 64 cs) (h' : Blk w g' 61 cs') : g' ≠ g := by
  rintro rfl
  unfold Blk at h h'
  rw [h] at h'
  injection h' with h'
  injection h' with _ h' _
  exact absurd h' (by decide)
/-- Where the blocks lie. -/
def InM (lo hi g : Nat) (gs : Nat → Nat) (qs : List Mp) : Prop := lo ≤ g ∧ g < hi ∧ ∀ i, i < qs.length → 0 < (qs.getD i zM).vs.length → lo ≤ gs i ∧ gs i < hi
section
variable {w w' : World} {g lo hi : Nat} {gs : Nat → Nat} {cur : Array Value} {qs : List Mp} {k : Int} {j : Nat}
theorem MkM.ne (h : MkM w g gs cur qs k j) {i : Nat} (hi : i < qs.length) (h0 : 0 < (qs.getD i zM).vs.length) : gs i ≠ g := by
  obtain ⟨_, cs, hb, _⟩ := h.own i hi h0
  exact two_typesM h.blk hb
theorem MkM.move (h : MkM w g gs cur qs k j) (hq : InM lo hi g gs qs) (hk : ∀ b, lo ≤ b → b < hi → b < w.heap.size → w'.heap[b]? = w.heap[b]?) : MkM w' g gs cur qs k j :=
  ⟨(hk g hq.1 hq.2.1 h.blk.lt).trans h.blk, h.size, h.votes, fun i hi h0 => by
    obtain ⟨e, cs, hb, hs, hm⟩ := h.own i hi h0
    exact ⟨e, cs, (hk _ (hq.2.2 i hi h0).1 (hq.2.2 i hi h0).2 hb.lt).trans hb, hs, hm⟩, h.head, h.apart⟩
theorem MkM.on (h : MkM w g gs cur qs k j) (hb : Below w.heap.size w w') : MkM w' g gs cur qs k j :=
  ⟨h.blk.on hb, h.size, h.votes, fun i hi h0 => by
    obtain ⟨e, cs, hb', hs, hm⟩ := h.own i hi h0
    exact ⟨e, cs, hb'.on hb, hs, hm⟩, h.head, h.apart⟩
theorem MkM.set_ (h : MkM w g gs cur qs k j) (i : Nat) (u : Value) (hge : j * 6 ≤ i) (h3 : i % 6 ≠ 5) : MkM (w.setCell ⟨g, i, none⟩ u) g gs (cur.setIfInBounds i u) qs k j :=
  ⟨h.blk.set_ i u, by simpa using h.size, fun i' hi' => by rw [Array.getElem?_setIfInBounds_ne (by omega)]; exact h.votes i' hi', fun i' hi' h0 => by
    obtain ⟨e, cs, hb', hs, hm⟩ := h.own i' hi' h0
    exact ⟨e, cs, hb'.far (h.ne hi' h0) u, hs, hm⟩, fun i' hi' => by
    rw [Array.getElem?_setIfInBounds_ne (by omega), Array.getElem?_setIfInBounds_ne (by omega), Array.getElem?_setIfInBounds_ne (by omega), Array.getElem?_setIfInBounds_ne (by omega), Array.getElem?_setIfInBounds_ne (by omega)]; exact h.head i' hi', h.apart⟩
/-- Message j marked, its votes not yet. -/
def hd5 (cur : Array Value) (j : Nat) (x : Int) : Array Value := (((((cur.setIfInBounds (j * 6) (.int .i64 (x))).setIfInBounds (j * 6 + 1) (.int .i64 (x + 1))).setIfInBounds (j * 6 + 1 + 1) (.int .i64 (x + 1 + 1))).setIfInBounds (j * 6 + 1 + 1 + 1) (.int .i64 (x + 1 + 1 + 1))).setIfInBounds (j * 6 + 1 + 1 + 1 + 1) (.int .i64 (x + 1 + 1 + 1 + 1)))
def wd5 (w : World) (g j : Nat) (x : Int) : World := (((((w.setCell ⟨g, j * 6, none⟩ (.int .i64 (x))).setCell ⟨g, j * 6 + 1, none⟩ (.int .i64 (x + 1))).setCell ⟨g, j * 6 + 1 + 1, none⟩ (.int .i64 (x + 1 + 1))).setCell ⟨g, j * 6 + 1 + 1 + 1, none⟩ (.int .i64 (x + 1 + 1 + 1))).setCell ⟨g, j * 6 + 1 + 1 + 1 + 1, none⟩ (.int .i64 (x + 1 + 1 + 1 + 1)))
theorem MkM.hd (h : MkM w g gs cur qs k j) (x : Int) : MkM (wd5 w g j x) g gs (hd5 cur j x) qs k j :=
  (((((h.set_ (j * 6) _ (by omega) (by omega)).set_ (j * 6 + 1) _ (by omega) (by omega)).set_ (j * 6 + 1 + 1) _ (by omega) (by omega)).set_ (j * 6 + 1 + 1 + 1) _ (by omega) (by omega)).set_ (j * 6 + 1 + 1 + 1 + 1) _ (by omega) (by omega))
theorem hd5_at {x : Int} (hs : j * 6 + 4 < cur.size) : (hd5 cur j x)[j * 6]? = some (.int .i64 (x)) ∧ (hd5 cur j x)[j * 6 + 1]? = some (.int .i64 (x + 1)) ∧ (hd5 cur j x)[j * 6 + 2]? = some (.int .i64 (x + 2)) ∧ (hd5 cur j x)[j * 6 + 3]? = some (.int .i64 (x + 3)) ∧ (hd5 cur j x)[j * 6 + 4]? = some (.int .i64 (x + 4)) := by
  unfold hd5
  rw [show x + 1 + 1 + 1 + 1 = x + 4 by omega, show x + 1 + 1 + 1 = x + 3 by omega, show x + 1 + 1 = x + 2 by omega, show j * 6 + 1 + 1 + 1 + 1 = j * 6 + 4 from rfl, show j * 6 + 1 + 1 + 1 = j * 6 + 3 from rfl, show j * 6 + 1 + 1 = j * 6 + 2 from rfl]
  refine ⟨?_, ?_, ?_, ?_, ?_⟩
  · rw [Array.getElem?_setIfInBounds_ne (by omega), Array.getElem?_setIfInBounds_ne (by omega), Array.getElem?_setIfInBounds_ne (by omega), Array.getElem?_setIfInBounds_ne (by omega), Array.getElem?_setIfInBounds_self_of_lt (by first | omega | (simp; omega))]
  · rw [Array.getElem?_setIfInBounds_ne (by omega), Array.getElem?_setIfInBounds_ne (by omega), Array.getElem?_setIfInBounds_ne (by omega), Array.getElem?_setIfInBounds_self_of_lt (by first | omega | (simp; omega))]
  · rw [Array.getElem?_setIfInBounds_ne (by omega), Array.getElem?_setIfInBounds_ne (by omega), Array.getElem?_setIfInBounds_self_of_lt (by first | omega | (simp; omega))]
  · rw [Array.getElem?_setIfInBounds_ne (by omega), Array.getElem?_setIfInBounds_self_of_lt (by first | omega | (simp; omega))]
  · rw [Array.getElem?_setIfInBounds_self_of_lt (by first | omega | (simp; omega))]
theorem MkM.step (h : MkM w g gs cur qs k j) (hj : j < qs.length) (hat : cur[j * 6]? = some (.int .i64 (kM qs k j)) ∧ cur[j * 6 + 1]? = some (.int .i64 (kM qs k j + 1)) ∧ cur[j * 6 + 2]? = some (.int .i64 (kM qs k j + 2)) ∧ cur[j * 6 + 3]? = some (.int .i64 (kM qs k j + 3)) ∧ cur[j * 6 + 4]? = some (.int .i64 (kM qs k j + 4)))
    (hv : 0 < (qs.getD j zM).vs.length → ∃ cs, Blk w' (gs j) 61 cs ∧ (qs.getD j zM).vs.length * 2 ≤ cs.size ∧ MK cs (kM qs k j + 5) (qs.getD j zM).vs.length) (hg : w.grownBy w' (some (gs j))) (h0 : (qs.getD j zM).vs.length = 0 → w = w') :
    MkM w' g gs cur qs k (j + 1) := by
  have hgn : ∀ b, b < w.heap.size → (0 < (qs.getD j zM).vs.length → b ≠ gs j) → w'.heap[b]? = w.heap[b]? := fun b hb hne => by
    by_cases e : (qs.getD j zM).vs.length = 0
    · rw [h0 e]
    · exact hg.block b hb (fun e2 => by injection e2 with e2; exact hne (by omega) e2)
  refine ⟨(hgn g h.blk.lt (fun hp e => h.ne hj hp e.symm)).trans h.blk, h.size, h.votes, fun i hi h1 => ?_, fun i hi => ?_, h.apart⟩
  · by_cases e : i = j
    · subst e
      obtain ⟨cs, hb, hs, hm⟩ := hv h1
      exact ⟨(h.own i hi h1).1, cs, hb, hs, fun _ => hm⟩
    · obtain ⟨e1, cs, hb, hs, hm⟩ := h.own i hi h1
      refine ⟨e1, cs, (hgn _ hb.lt (fun hp e2 => ?_)).trans hb, hs, fun hi2 => hm (by omega)⟩
      rcases Nat.lt_or_gt_of_ne e with hlt | hgt
      · exact h.apart i j hlt hj h1 hp e2
      · exact h.apart j i hgt hi hp h1 e2.symm
  · by_cases e : i = j
    · subst e; exact hat
    · exact h.head i (by omega)
end
set_option maxHeartbeats 1600000 in
theorem markMsgS_any (lo hi g c : Nat) (gs : Nat → Nat) (cur : Array Value) (qs : List Mp) (k : Int) (w : World) (h : MkM w g gs cur qs k 0) (hq : InM lo hi g gs qs) (hn : qs.length ≤ 1048576) (hv : ∀ i, i < qs.length → (qs.getD i zM).vs.length ≤ 1048576) (h0 : 0 ≤ k) (h1 : kM qs k qs.length ≤ 16777216) :
    Calls Tryz.prog 19 #[.slice (some ⟨g, 0, none⟩) qs.length c, .int .i64 k] w fun e w' => e = .returned (.int .i64 (kM qs k qs.length)) ∧ (∃ cur', MkM w' g gs cur' qs k qs.length) ∧ Mid lo hi w w' := by
  have HLE := Lib.hid (fun i => @kM_le qs k i qs.length)
  have HGE := Lib.hid (kM_ge qs k)
  have HSU := Lib.hid (kM_succ qs k)
  obtain ⟨n, hvn⟩ : ∃ n, qs.length = n := ⟨_, rfl⟩
  rw [hvn] at hn hv h1 HLE ⊢
  have HVL := Lib.hid hv; clear hv
  have HV := Lib.hid hvn; clear hvn
  have HQ := Lib.hid hq; clear hq
  have HN := Lib.hid h1; clear h1
  have H0 := Lib.hid h; clear h
  have HZ := Lib.hid (kM_zero qs k)
  go_enter Tryz.func19, Tryz.ntmps19
  go_wp2
  go_loopw [1, 5] (fun kk i wr => ∃ (j : Nat) (cu : Array Value), j ≤ n ∧ i = .int .i64 j ∧ kk = .int .i64 (kM qs k j) ∧ Hid (MkM wr g gs cu qs k j) ∧ Mid lo hi w wr) (fun _ i _ => n - (intOf i).toNat)
  case atStart => exact ⟨0, cur, Nat.zero_le _, rfl, by rw [HZ.out], H0.out, Mid.refl _ _ _⟩
  case round =>
    clear H0
    obtain ⟨j, cu, hj, rfl, rfl, hmk, hmid⟩ := hrel
    by_cases hlt : j < n
    · have hjl : j < qs.length := by rw [HV.out]; exact hlt
      obtain ⟨x, hx⟩ : ∃ x, kM qs k j = x := ⟨_, rfl⟩
      have hx0 : 0 ≤ x := by have := HGE.out j; omega
      have hx1 : x + 5 ≤ 16777216 := by have h1 := HLE.out (j + 1) (by omega); have h2 := HN.out; have h3 := HSU.out j; omega
      have hblk := hmk.out.blk
      have hsz := hmk.out.size
      rw [HV.out] at hsz
      obtain ⟨⟨f, vv, xx, aa, bb, vs, A', c'⟩, hu⟩ : ∃ u, qs.getD j zM = u := ⟨_, rfl⟩
      have hvl := HVL.out j hlt
      rw [hu] at hvl
      have hvo := hmk.out.votes j hjl
      rw [hu] at hvo
      have hc5 := (hblk.cell (j * 6 + 5)).trans hvo
      have hw3 := MkM.hd hmk.out x
      have HW3 := Lib.hid hw3
      have hown := hw3.own j hjl
      rw [hu] at hown
      have HCALL := Lib.hid (markV_any A' vs.length c' (gs j) 61 (x + 1 + 1 + 1 + 1 + 1) (wd5 wr g j x) (fun hp => ⟨(hown hp).1, (hown hp).2.imp fun cs h => ⟨h.1, h.2.1⟩⟩) hvl (by omega) (by omega))
      obtain ⟨y0, hy0⟩ : ∃ y, cu[j * 6]? = some y := ⟨_, Array.getElem?_eq_getElem (by omega)⟩
      obtain ⟨y1, hy1⟩ : ∃ y, cu[j * 6 + 1]? = some y := ⟨_, Array.getElem?_eq_getElem (by omega)⟩
      obtain ⟨y2, hy2⟩ : ∃ y, cu[j * 6 + 2]? = some y := ⟨_, Array.getElem?_eq_getElem (by omega)⟩
      obtain ⟨y3, hy3⟩ : ∃ y, cu[j * 6 + 3]? = some y := ⟨_, Array.getElem?_eq_getElem (by omega)⟩
      obtain ⟨y4, hy4⟩ : ∃ y, cu[j * 6 + 4]? = some y := ⟨_, Array.getElem?_eq_getElem (by omega)⟩
      have hc0 := (hblk.cell (j * 6)).trans hy0
      have hc1 := (hblk.cell (j * 6 + 1)).trans hy1
      have hc2 := (hblk.cell (j * 6 + 2)).trans hy2
      have hc3 := (hblk.cell (j * 6 + 3)).trans hy3
      have hc4 := (hblk.cell (j * 6 + 4)).trans hy4
      have hf0 := hblk.frozen (j * 6)
      have hf1 := hblk.frozen (j * 6 + 1)
      have hf2 := hblk.frozen (j * 6 + 2)
      have hf3 := hblk.frozen (j * 6 + 3)
      have hf4 := hblk.frozen (j * 6 + 4)
      have HAT := Lib.hid (hd5_at (x := x) (show j * 6 + 4 < cu.size by omega))
      have hin := HQ.out
      have hm3 := Lib.hid ((((((hmid.set_ hin.1 hin.2.1 (j * 6) (.int .i64 (x))).set_ hin.1 hin.2.1 (j * 6 + 1) (.int .i64 (x + 1))).set_ hin.1 hin.2.1 (j * 6 + 1 + 1) (.int .i64 (x + 1 + 1))).set_ hin.1 hin.2.1 (j * 6 + 1 + 1 + 1) (.int .i64 (x + 1 + 1 + 1))).set_ hin.1 hin.2.1 (j * 6 + 1 + 1 + 1 + 1) (.int .i64 (x + 1 + 1 + 1 + 1))))
      have HX := Lib.hid hx
      have HU := Lib.hid hu
      have hsu := HSU.out j
      rw [hx, hu] at hsu
      have HSJ := Lib.hid hsu
      rw [hx]
      clear hx hu hvo hown hy0 hy1 hy2 hy3 hy4 hin hw3 hmk hsu hblk
      go_wp2_with (go_at_call 44; go_loud (refine (HCALL.out).mono ?_); rintro e w2 ⟨rfl, hv2, hg2, hn2⟩)
      rw [show x + 1 + 1 + 1 + 1 + 1 = x + 5 by omega] at hv2
      have hst := HW3.out.step (w' := w2) hjl (by rw [HX.out]; exact HAT.out) (by rw [HU.out, HX.out]; exact hv2) hg2 (by rw [HU.out]; exact hn2)
      have HST := Lib.hid hst
      have hm4 : Mid lo hi w w2 := by
        by_cases e0 : vs.length = 0
        · rw [← hn2 e0]; exact hm3.out
        · have h5 := HQ.out.2.2 j hjl (by rw [HU.out]; show 0 < vs.length; omega)
          exact hm3.out.grown hg2 h5.1 h5.2
      clear hst hv2 hg2 hn2
      go_roundw
      case rel => exact ⟨j + 1, _, by omega, by go_num, by rw [HSJ.out]; congr 1; omega, HST.out, hm4⟩
      case measure => simp [intOf]; omega
    · have hjn : j = n := by omega
      subst hjn
      go_wp2
      go_ret
      exact ⟨rfl, ⟨cu, hmk.out⟩, hmid⟩
set_option maxHeartbeats 1600000 in
theorem heldMsgS_any (g c : Nat) (gs : Nat → Nat) (cur : Array Value) (qs : List Mp) (k : Int) (w : World) (h : MkM w g gs cur qs k qs.length) (hn : qs.length ≤ 1048576) (hv : ∀ i, i < qs.length → (qs.getD i zM).vs.length ≤ 1048576) (h0 : 0 ≤ k) (h1 : kM qs k qs.length ≤ 16777216) :
    Calls Tryz.prog 20 #[.slice (some ⟨g, 0, none⟩) qs.length c, .int .i64 k] w fun e w' => e = .returned (.int .i64 (kM qs k qs.length)) ∧ w = w' := by
  have HLE := Lib.hid (fun i => @kM_le qs k i qs.length)
  have HGE := Lib.hid (kM_ge qs k)
  have HSU := Lib.hid (kM_succ qs k)
  obtain ⟨n, hvn⟩ : ∃ n, qs.length = n := ⟨_, rfl⟩
  have HL := Lib.hid (fun i (hi : i < n) => show i < qs.length by omega)
  rw [hvn] at hn hv h1 HLE h ⊢
  have HVL := Lib.hid hv; clear hv
  have HV := Lib.hid hvn; clear hvn
  have HN := Lib.hid h1; clear h1
  have H0 := Lib.hid h; clear h
  have HZ := Lib.hid (kM_zero qs k)
  have hne : ∀ i : Int, (i != i) = false := fun i => by simp
  go_enter Tryz.func20, Tryz.ntmps20
  go_wp2
  go_loop [1, 5] (fun kk i => ∃ (j : Nat), j ≤ n ∧ i = .int .i64 j ∧ kk = .int .i64 (kM qs k j)) (fun _ i => n - (intOf i).toNat)
  case atStart => exact ⟨0, Nat.zero_le _, rfl, by rw [HZ.out]⟩
  case round =>
    obtain ⟨j, hj, rfl, rfl⟩ := hrel
    by_cases hlt : j < n
    · have hjl := HL.out j hlt
      obtain ⟨x, hx⟩ : ∃ x, kM qs k j = x := ⟨_, rfl⟩
      have hx0 : 0 ≤ x := by have := HGE.out j; omega
      have hx1 : x + 5 ≤ 16777216 := by have h1 := HLE.out (j + 1) (by omega); have h2 := HN.out; have h3 := HSU.out j; omega
      have hblk := H0.out.blk
      have hhd := H0.out.head j hlt
      obtain ⟨⟨f, vv, xx, aa, bb, vs, A', c'⟩, hu⟩ : ∃ u, qs.getD j zM = u := ⟨_, rfl⟩
      have hvl := HVL.out j hlt
      rw [hu] at hvl
      have hvo := H0.out.votes j hjl
      rw [hu] at hvo
      rw [hx, show x + 4 = x + 1 + 1 + 1 + 1 by omega, show x + 3 = x + 1 + 1 + 1 by omega, show x + 2 = x + 1 + 1 by omega] at hhd
      have hc5 := (hblk.cell (j * 6 + 5)).trans hvo
      obtain ⟨hh0, hh1, hh2, hh3, hh4⟩ := hhd
      have hc0 := (hblk.cell (j * 6)).trans hh0
      have hc1 := (hblk.cell (j * 6 + 1)).trans hh1
      have hc2 := (hblk.cell (j * 6 + 2)).trans hh2
      have hc3 := (hblk.cell (j * 6 + 3)).trans hh3
      have hc4 := (hblk.cell (j * 6 + 4)).trans hh4
      have hown := H0.out.own j hjl
      rw [hu, hx, show x + 5 = x + 1 + 1 + 1 + 1 + 1 by omega] at hown
      have HCALL := Lib.hid (heldV_any A' vs.length c' (gs j) 61 (x + 1 + 1 + 1 + 1 + 1) w (fun hp => ⟨(hown hp).1, (hown hp).2.imp fun cs h => ⟨h.1, h.2.2 hlt⟩⟩) hvl (by omega) (by omega))
      have hsu := HSU.out j
      rw [hx, hu] at hsu
      have HSJ := Lib.hid hsu
      have hend : decide (x + 1 + 1 + 1 + 1 + 1 + 2 * (vs.length : Int) < 0) = false := by simp; omega
      rw [hx]
      clear hx hu hvo hown hsu hblk hh0 hh1 hh2 hh3 hh4
      go_wp2_with (go_at_call 45; go_loud (refine (HCALL.out).mono ?_); rintro e w2 ⟨rfl, rfl⟩)
      go_round
      case rel => exact ⟨j + 1, by omega, by go_num, by rw [HSJ.out]; congr 1; omega⟩
      case measure => simp [intOf]; omega
    · have hjn : j = n := by omega
      subst hjn
      go_wp2
      go_ret
      exact ⟨rfl, rfl⟩
end Go.Proofs.YtfdfjmibjnmhpaaGreat.V

namespace Go.Proofs.YtfdfjmibjnmhpaaGreat.V
open Go.RowKit Go.Proofs.YtfdfjmibjnmhpaaGreat.B
def mcells (us : List Mp) : List Value := us.flatMap fun u => u.cells.toList
theorem mcells_snoc (us : List Mp) (u : Mp) : mcells (us ++ [u]) = mcells us ++ u.cells.toList := by simp [mcells]
theorem mcells_len (us : List Mp) : (mcells us).length = us.length * 6 := by
  induction us with
  | nil => rfl
  | cons u us ih => simp only [mcells, List.flatMap_cons, List.length_append, List.length_cons] at ih ⊢; rw [ih]; simp [Mp.cells]; omega
theorem mcells_at (us : List Mp) : ∀ (i j : Nat), i < us.length → j < 6 → (mcells us)[i * 6 + j]? = (us.getD i zM).cells[j]? := by
  induction us with
  | nil => intro i j h; simp at h
  | cons u us ih =>
    intro i j hi hj
    have hl : u.cells.toList.length = 6 := rfl
    simp only [mcells, List.flatMap_cons]
    cases i with
    | zero =>
      rw [List.getElem?_append_left (by rw [hl]; omega)]
      simp
    | succ i =>
      rw [List.getElem?_append_right (by rw [hl]; omega), hl, show (i + 1) * 6 + j - 6 = i * 6 + j by omega]
      have h := ih i j (by simpa using hi) hj
      simp only [mcells] at h
      rw [h]
      simp
/-- The votes of each message lie in a row of their own, no two in one. -/
def OM (w : World) (base : Nat) (us : List Mp) : Prop :=
  (∀ i, i < us.length → OV w 61 base (us.getD i zM).A (us.getD i zM).vs) ∧
  ∀ i j, i < j → j < us.length → ∀ g, (us.getD i zM).A = some ⟨g, 0, none⟩ → (us.getD j zM).A ≠ some ⟨g, 0, none⟩
theorem OM.nil_ {w : World} {base : Nat} : OM w base [] := ⟨fun i h => absurd h (by simp), fun i j _ h => absurd h (by simp)⟩
theorem OM.on {w w' : World} {base : Nat} {us : List Mp} (h : OM w base us) (hb : Below w.heap.size w w') : OM w' base us := ⟨fun i hi => (h.1 i hi).on hb, h.2⟩
theorem OV.far9 {w w' : World} {t base : Nat} {A : Option Addr} {us : List (Int × Int)} {row : Option Nat} (h : OV w t base A us) (hgr : w.grownBy w' row) (hne : ∀ g', A = some ⟨g', 0, none⟩ → row ≠ some g') : OV w' t base A us := by
  rcases h with ⟨rfl, rfl⟩ | ⟨g', cur, rfl, hb, hk, hp⟩
  · exact OV.nil_
  · exact .inr ⟨g', cur, rfl, hb, (hgr.block g' hk.lt (fun e => hne g' rfl e.symm)).trans hk, hp⟩
theorem OV.apart {w : World} {t t2 base g g' : Nat} {A : Option Addr} {us : List (Int × Int)} {cs : Array Value} (h : OV w t base A us) (hk : Blk w g t2 cs) (ht : t2 ≠ t) (hA : A = some ⟨g', 0, none⟩) : g ≠ g' := by
  rcases h with ⟨rfl, _⟩ | ⟨g2, cur, rfl, hb, hk2, hp⟩
  · cases hA
  · injection hA with hA
    injection hA with hA
    subst hA
    rintro rfl
    have h1 := hk2.symm.trans hk
    injection h1 with h1
    injection h1 with _ h1
    exact ht h1.symm
/-- The row of the messages grows: their votes lie elsewhere, for they are of another type. -/
theorem OM.grown {w w' : World} {base : Nat} {us : List Mp} {row : Option Nat} (h : OM w base us) (hgr : w.grownBy w' row) (hrow : ∀ g, row = some g → ∃ cs, Blk w g 64 cs) : OM w' base us :=
  ⟨fun i hi => OV.far9 (h.1 i hi) hgr fun g' hA e => by
    obtain ⟨cs, hk⟩ := hrow g' e
    exact OV.apart (h.1 i hi) hk (by decide) hA rfl, h.2⟩
theorem OM.push {w w' : World} {base : Nat} {us : List Mp} {u : Mp} (h : OM w base us) (hbw : base ≤ w.heap.size) (hb : Below w.heap.size w w') (hu : OV w' 61 w.heap.size u.A u.vs) : OM w' base (us ++ [u]) := by
  have hl : ∀ i, i < us.length → (us ++ [u]).getD i zM = us.getD i zM := fun i hi => by
    rw [List.getD_eq_getElem?_getD, List.getD_eq_getElem?_getD, List.getElem?_append_left hi]
  have hr : (us ++ [u]).getD us.length zM = u := by
    rw [List.getD_eq_getElem?_getD, List.getElem?_append_right (Nat.le_refl _)]
    simp
  refine ⟨fun i hi => ?_, fun i j hij hj g hA => ?_⟩
  · rcases Nat.lt_or_ge i us.length with h1 | h1
    · rw [hl i h1]; exact (h.1 i h1).on hb
    · obtain rfl : i = us.length := by simp at hi; omega
      rw [hr]; exact hu.more hbw
  · rcases Nat.lt_or_ge j us.length with h1 | h1
    · rw [hl i (by omega)] at hA
      rw [hl j h1]
      exact h.2 i j hij h1 g hA
    · obtain rfl : j = us.length := by simp at hj; omega
      rw [hl i hij] at hA
      rw [hr]
      intro e
      have a1 := (h.1 i hij).lt g hA
      have a2 := hu.ge g e
      omega
/-- Such a row bears marks. -/
theorem OM.marks {w : World} {base c : Nat} {A : Option Addr} {us : List Mp} (h : w.ownsRow base 64 6 (.slice A us.length c) us.length (mcells us)) (ho : OM w base us) (k : Int) (hn : 0 < us.length) :
    ∃ g gs cur, A = some ⟨g, 0, none⟩ ∧ base ≤ g ∧ MkM w g gs cur us k 0 ∧ InM base w.heap.size g gs us := by
  obtain ⟨hl, h⟩ := h
  rcases h with ⟨h1, h2⟩ | ⟨g, cap, cur, h1, h2, h3, h4, h5, h6, h7⟩
  · omega
  · injection h1 with h1
    have hcs : us.length * 6 ≤ cur.size := by omega
    refine ⟨g, fun i => match (us.getD i zM).A with | some a => a.block | none => 0, cur, h1, h2, ⟨h3, hcs, fun i hi => ?_, fun i hi h0 => ?_, fun i hi => absurd hi (by omega), fun i j hij hj h0 h0' => ?_⟩, h2, Blk.lt h3, fun i hi h0 => ?_⟩
    · have hv := mcells_at us i 5 hi (by decide)
      rw [← h7] at hv
      rw [List.getElem?_take_of_lt (by omega)] at hv
      simpa [Mp.cells] using hv
    · rcases ho.1 i hi with ⟨e1, e2⟩ | ⟨g', cs, e, _, hk, hs, _⟩
      · rw [e2] at h0; simp at h0
      · simp only [e]
        exact ⟨trivial, cs, hk, hs, fun hh => absurd hh (by omega)⟩
    · rcases ho.1 i (by omega) with ⟨e1, e2⟩ | ⟨g', cs, e, _, hk, hs, _⟩
      · rw [e2] at h0; simp at h0
      · rcases ho.1 j hj with ⟨e3, e4⟩ | ⟨g2, cs2, e', _, hk2, hs2, _⟩
        · rw [e4] at h0'; simp at h0'
        · simp only [e, e']
          rintro rfl
          exact ho.2 i j hij hj g' e e'
    · rcases ho.1 i hi with ⟨e1, e2⟩ | ⟨g', cs, e, hb, hk, hs, _⟩
      · rw [e2] at h0; simp at h0
      · simp only [e]
        exact ⟨hb, hk.lt⟩
end Go.Proofs.YtfdfjmibjnmhpaaGreat.V

namespace Go.Proofs.YtfdfjmibjnmhpaaGreat.V
open Go.RowKit Go.Proofs.YtfdfjmibjnmhpaaGreat.B

def liesN (l : List Bool) : Nat := l.countP id
def flagsB (n : Int) (l : List Bool) : Bool := decide ((l.length : Int) = n) && decide ((liesN l : Int) ≤ n / 3)
def zD : Rd4 := ⟨0, 0, 0, 0, 0, [], 0, 0, 0, [], [], [], [], []⟩
theorem zQ_dat : zQ.dat = zD := rfl
def goodP (n : Int) (rs : List Rd4) (i : Nat) : Bool := repQ (rs.getD i zD) && (decide ((rs.getD i zD).n = n) && decide ((rs.getD i zD).id = (i : Int)))
def repsB (n : Int) (rs : List Rd4) : Bool := (List.range rs.length).all (goodP n rs)
def msgD (m : Md) : Bool := msgOkB m.k m.v m.x m.a m.b m.vs
def linkB (n : Int) (i : Nat) (l : List Md) : Bool := decide (l.length ≤ 80) && (!(decide ((i : Int) / n = (i : Int) % n) && decide (0 < l.length)) && l.all msgD)
def netB (n : Int) (nt : List (List Md)) : Bool := (List.range nt.length).all fun i => linkB n i (nt.getD i [])
def lensC (d : Cd) : Bool := decide ((d.rs.length : Int) = d.n) && decide ((d.nt.length : Int) = d.n * d.n)
def cluB (d : Cd) : Bool := sizeB d.n && (flagsB d.n d.bad && (lensC d && (repsB d.n d.rs && netB d.n d.nt)))
theorem range_yes {f : Nat → Bool} {n : Nat} (h : ∀ j, j < n → f j = true) : (List.range n).all f = true := by
  rw [List.all_eq_true]
  intro j hj
  exact h j (List.mem_range.1 hj)
theorem range_no {f : Nat → Bool} {n k : Nat} (hk : k < n) (h : f k = false) : (List.range n).all f = false := by
  rw [List.all_eq_false]
  exact ⟨k, List.mem_range.2 hk, by simp [h]⟩
theorem lies_step (l : List Bool) (k : Nat) (h : k < l.length) : liesN (l.take (k + 1)) = liesN (l.take k) + (if l.getD k false then 1 else 0) := by
  unfold liesN
  rw [take_getD l false k h, List.countP_append]
  cases l.getD k false <;> rfl
theorem lies_le (l : List Bool) : liesN l ≤ l.length := List.countP_le_length
theorem dat_at (rs : List Rq) (i : Nat) : (rs.map Rq.dat).getD i zD = (rs.getD i zQ).dat := by
  simp only [List.getD_eq_getElem?_getD, List.getElem?_map]
  cases rs[i]? <;> rfl
theorem ldat_at (nt : List Lp) (i : Nat) : (nt.map Lp.dat).getD i [] = (nt.getD i zL).dat := by
  simp only [List.getD_eq_getElem?_getD, List.getElem?_map]
  cases nt[i]? <;> rfl
end Go.Proofs.YtfdfjmibjnmhpaaGreat.V
