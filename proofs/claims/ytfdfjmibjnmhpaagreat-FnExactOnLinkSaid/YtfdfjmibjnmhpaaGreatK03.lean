/-
  What the helpers of the laws do with tallies: copies, comparison, marks. A replica's state as data and in memory, and what the helpers of the laws count of it, copy and compare. What the two functions VotesOk, of the program and of its model, answer: contracts. What VotesOk of the model answers: its contract. What VotesOk of the program answers: its contract. No statement is proved here.
-/
import Derived.Test.YtfdfjmibjnmhpaaGreatK01
import Derived.Test.YtfdfjmibjnmhpaaGreatK02
import Derived.IntWalk
set_option linter.unusedVariables false
set_option maxRecDepth 100000
namespace Go.Proofs.YtfdfjmibjnmhpaaGreat.B
open Go.RowKit
end Go.Proofs.YtfdfjmibjnmhpaaGreat.B

namespace Go.Proofs.YtfdfjmibjnmhpaaGreat.V
open Go.RowKit Go.Proofs.YtfdfjmibjnmhpaaGreat.B

set_option maxRecDepth 100000 in
set_option maxHeartbeats 800000 in
theorem eqBallotS_same (A C : Option Addr) (c d : Nat) (vs : List B3) (w : World) (hr : Rd3 w w.heap.size A vs) (hs : Rd3 w w.heap.size C vs) (hn : vs.length ≤ 1048576) :
    Calls Tryz.prog 104 #[.slice A vs.length c, .slice C vs.length d] w fun e w' => e = .returned (.bool true) ∧ Below w.heap.size w w' := by
  obtain ⟨n, hvn⟩ : ∃ n, vs.length = n := ⟨_, rfl⟩
  rw [hvn] at hn ⊢
  have HV := Lib.hid hvn; clear hvn
  have hne : ∀ i : Int, (i != i) = false := fun i => by simp
  go_enter Tryz.func104, Tryz.ntmps104
  go_wp2
  go_loopw [5] (fun i wr => ∃ (k : Nat), k ≤ n ∧ i = .int .i64 k ∧ Below w.heap.size w wr) (fun i _ => n - (intOf i).toNat)
  case atStart => exact ⟨0, Nat.zero_le _, rfl, Below.refl _ _⟩
  case round =>
    obtain ⟨k, hk, rfl, hbel⟩ := hrel
    by_cases hlt : k < n
    · obtain ⟨b, off, rfl, hb, hc0, hc1, hc2⟩ := Rd3.at_ (hr.below hbel) (k := k) (by rw [HV.out]; omega)
      obtain ⟨b', off', rfl, hb', hc0', hc1', hc2'⟩ := Rd3.at_ (hs.below hbel) (k := k) (by rw [HV.out]; omega)
      clear hr hs
      obtain ⟨⟨va, vb, vc⟩, hu⟩ : ∃ u, vs.getD k z3 = u := ⟨_, rfl⟩
      rw [hu] at hc0 hc1 hc2 hc0' hc1' hc2'
      clear hu
      go_wp2
      go_still_tail 8, (by kernel_rfl)
      have hbd : Below w.heap.size w wr.drew := hbel.drew
      change wpList _ _ _ _ _ wr.drew
      generalize wr.drew = w2 at *
      go_wp2_with (go_at_call 120; refine (eqBallot_same _ _ _ _).mono ?_; rintro e w1 ⟨rfl, hb1⟩)
      go_roundw
      case rel => exact ⟨k + 1, by omega, by go_num, hbd.trans (hb1.mono hbd.size)⟩
      case measure => simp [intOf]; omega
    · go_wp2
      go_ret
      exact ⟨rfl, hbel⟩

theorem toTally_any (A : Option Addr) (c : Nat) (vs : List B3) (w : World) (hr : Rd3 w w.heap.size A vs) (hn : vs.length ≤ 1048576) :
    Calls Tryz.prog 77 #[.agg #[.slice A vs.length c]] w fun e w' => ∃ g cs, e = .returned (.agg #[.slice (some ⟨g, 0, none⟩) vs.length vs.length]) ∧ w.heap.size ≤ g ∧ Blk w' g 111 cs ∧ PC3 cs vs vs.length ∧ Below w.heap.size w w' := by
  have hr3 := ((hr.up (.cells #[.slice A vs.length c] 81)).up (.cells #[.slice none 0 0] 72)).up (.cells #[.slice none 0 0] 72)
  have ko := Blk.new ((w.alloc (.cells #[.slice A vs.length c] 81)).alloc (.cells #[.slice none 0 0] 72)) 72 #[.slice none 0 0]
  have kr := (Blk.new (w.alloc (.cells #[.slice A vs.length c] 81)) 72 #[.slice none 0 0]).alloc (.cells #[.slice none 0 0] 72)
  simp only [World.size_alloc] at ko kr
  have HR := Lib.hid hr3; clear hr3 hr
  go_enter Tryz.func77, Tryz.ntmps77
  go_wp2_with fail
  refine (toBallotS_any A c vs _ HR.out hn).mono ?_
  rintro e w1 ⟨g, cs, rfl, hg, hk, hp, hb1⟩
  have ko1 := ko.on hb1
  have kr1 := kr.on hb1
  have hB1 := on_ (up_ (up_ (up_ (Below.refl w.heap.size w) _) _) _) hb1
  have hs1 := hb1.size
  simp only [World.size_alloc] at hs1 hg
  have HP := Lib.hid hp
  clear hb1 ko kr hp
  have ro1 := ko1.rule
  have fo1 := fun i => ko1.frozen i
  have ko2 : Blk (w1.setCell ⟨w.heap.size + 1 + 1, 0, none⟩ (.slice (some ⟨g, 0, none⟩) vs.length vs.length)) (w.heap.size + 1 + 1) 72 #[.slice (some ⟨g, 0, none⟩) vs.length vs.length] := ko1.set_ 0 _
  have kr2 := kr1.far (p := ⟨w.heap.size + 1 + 1, 0, none⟩) (by simp) (.slice (some ⟨g, 0, none⟩) vs.length vs.length)
  have ro2 := ko2.rule
  have rr2 := kr2.rule
  have fr2 := fun i => kr2.frozen i
  have kr3 : Blk ((w1.setCell ⟨w.heap.size + 1 + 1, 0, none⟩ (.slice (some ⟨g, 0, none⟩) vs.length vs.length)).setCell ⟨w.heap.size + 1, 0, none⟩ (.slice (some ⟨g, 0, none⟩) vs.length vs.length)) (w.heap.size + 1) 72 #[.slice (some ⟨g, 0, none⟩) vs.length vs.length] := kr2.set_ 0 _
  have rr3 := kr3.rule
  go_wp2
  refine bodyPost_ret (v := .agg #[.slice (some ⟨g, 0, none⟩) vs.length vs.length]) (by simp [results, Tryz.results77, go_sem, rr3]) rfl ⟨g, cs, rfl, by omega, ?_, HP.out, ?_⟩
  · iterate 2 refine Blk.far ?_ (by simp; omega) _
    exact hk
  · iterate 2 refine Below.setCell ?_ (by simp <;> omega) _
    exact hB1

theorem eqTally_same (A C : Option Addr) (c d : Nat) (vs : List B3) (w : World) (hr : Rd3 w w.heap.size A vs) (hs : Rd3 w w.heap.size C vs) (hn : vs.length ≤ 1048576) :
    Calls Tryz.prog 85 #[.agg #[.slice A vs.length c], .agg #[.slice C vs.length d]] w fun e w' => e = .returned (.bool true) ∧ Below w.heap.size w w' := by
  have hr2 := (hr.up (.cells #[.slice A vs.length c] 72)).up (.cells #[.slice C vs.length d] 72)
  have hs2 := (hs.up (.cells #[.slice A vs.length c] 72)).up (.cells #[.slice C vs.length d] 72)
  have HR := Lib.hid hr2
  have HS := Lib.hid hs2
  clear hr2 hs2 hr hs
  go_enter Tryz.func85, Tryz.ntmps85
  go_wp2_with fail
  refine (eqBallotS_same A C c d vs _ HR.out HS.out hn).mono ?_
  rintro e w1 ⟨rfl, hb1⟩
  have hB1 := on_ (up_ (up_ (Below.refl w.heap.size w) _) _) hb1
  clear hb1
  go_wp2
  go_ret
  exact ⟨rfl, hB1⟩

/-- Only block g, and what is new, may have turned. -/
theorem only_set3 {a w : World} {g : Nat} (h : a.grownBy w (some g)) (i : Nat) (u : Value) : a.grownBy (w.setCell ⟨g, i, none⟩ u) (some g) :=
  ⟨h.os, h.tape, h.output, by simpa [World.setCell] using h.size, fun j hj hne => (Below.heap_setCell w ⟨g, i, none⟩ u j (by
    rintro rfl
    exact hne rfl)).trans (h.block j hj hne)⟩
theorem grown_alloc3 {w w' : World} {o : Obj} {row : Option Nat} (h : (w.alloc o).grownBy w' row) : w.grownBy w' row :=
  ⟨h.os, h.tape, h.output, Nat.le_trans (by simp) h.size, fun i hi hne => (h.block i (by simp; omega) hne).trans (Below.heap_alloc w o i hi)⟩

set_option maxHeartbeats 800000 in
theorem markB3_any (g n c : Nat) (t : TypeId) (cs : Array Value) (k : Int) (w : World) (hb : Blk w g t cs) (hs : n * 3 ≤ cs.size) (hn : n ≤ 1048576) (h0 : 0 ≤ k) (h1 : k ≤ 16777216) :
    Calls Tryz.prog 60 #[.slice (some ⟨g, 0, none⟩) n c, .int .i64 k] w fun e w' =>
      e = .returned (.int .i64 (k + 3 * n)) ∧ ∃ cs', Blk w' g t cs' ∧ cs'.size = cs.size ∧ MK3 cs' k n ∧ w.grownBy w' (some g) := by
  have HS := Lib.hid hs; clear hs
  go_enter Tryz.func60, Tryz.ntmps60
  go_wp2
  go_loopw [1, 5] (fun kk i wr => ∃ (j : Nat) (ds : Array Value), j ≤ n ∧ i = .int .i64 j ∧ kk = .int .i64 (k + 3 * j) ∧ Blk wr g t ds ∧ Hid (ds.size = cs.size) ∧ Hid (MK3 ds k j) ∧ w.grownBy wr (some g)) (fun _ i _ => n - (intOf i).toNat)
  case atStart => exact ⟨0, cs, Nat.zero_le _, rfl, by simp, hb, rfl, fun i hi => absurd hi (by omega), World.grownBy.refl w _⟩
  case round =>
    obtain ⟨j, ds, hj, rfl, rfl, hblk, hsz, hmk, hgr⟩ := hrel
    by_cases hlt : j < n
    · have hlen : j * 3 + 2 < ds.size := by have := hsz.out; have := HS.out; omega
      obtain ⟨y0, hx0⟩ : ∃ y, ds[j * 3]? = some y := ⟨_, Array.getElem?_eq_getElem (by omega)⟩
      obtain ⟨y1, hx1⟩ : ∃ y, ds[j * 3 + 1]? = some y := ⟨_, Array.getElem?_eq_getElem (by omega)⟩
      obtain ⟨y2, hx2⟩ : ∃ y, ds[j * 3 + 2]? = some y := ⟨_, Array.getElem?_eq_getElem (by omega)⟩
      have hc0 := (hblk.cell (j * 3)).trans hx0
      have hc1 := (hblk.cell (j * 3 + 1)).trans hx1
      have hc2 := (hblk.cell (j * 3 + 2)).trans hx2
      have hf0 := hblk.frozen (j * 3)
      have hf1 := hblk.frozen (j * 3 + 1)
      have hf2 := hblk.frozen (j * 3 + 2)
      have HM : Hid (MK3 (((ds.setIfInBounds (j * 3) (.int .i64 (k + 3 * j))).setIfInBounds (j * 3 + 1) (.int .i64 (k + 3 * j + 1))).setIfInBounds (j * 3 + 2) (.int .i64 (k + 3 * j + 1 + 1))) k (j + 1)) := MK3.step hmk.out hlen
      have HZ : Hid ((((ds.setIfInBounds (j * 3) (.int .i64 (k + 3 * j))).setIfInBounds (j * 3 + 1) (.int .i64 (k + 3 * j + 1))).setIfInBounds (j * 3 + 2) (.int .i64 (k + 3 * j + 1 + 1))).size = cs.size) := by rw [Array.size_setIfInBounds, Array.size_setIfInBounds, Array.size_setIfInBounds]; exact hsz.out
      clear hx0 hx1 hx2 hmk hsz hlen
      go_wp2
      go_roundw
      case rel => exact ⟨j + 1, _, by omega, by go_num, by congr 1; simp; omega, ((hblk.set_ _ _).set_ _ _).set_ _ _, HZ, HM, only_set3 (only_set3 (only_set3 hgr _ _) _ _) _ _⟩
      case measure => simp [intOf]; omega
    · have hjn : j = n := by omega
      subst hjn
      go_wp2
      go_ret
      exact ⟨rfl, ds, hblk, hsz.out, hmk.out, hgr⟩
end Go.Proofs.YtfdfjmibjnmhpaaGreat.V

namespace Go.Proofs.YtfdfjmibjnmhpaaGreat.B
open Go.RowKit

/-- A replica's state, and where its parts lie. -/
structure Rq where
  n : Int
  id : Int
  own : Int
  view : Int
  left : Int
  voted : List (Int × Int)
  lv : Int
  lx : Int
  dn : Int
  pr : List B3
  vo : List B3
  re : List B3
  ds : List B3
  hs : List Hp
  Av : Option Addr
  Ap : Option Addr
  Ao : Option Addr
  Ar : Option Addr
  Ad : Option Addr
  Ah : Option Addr
  cv : Nat
  cp : Nat
  co : Nat
  cr : Nat
  cd : Nat
  ch : Nat
/-- The data alone. -/
structure Rd4 where
  n : Int
  id : Int
  own : Int
  view : Int
  left : Int
  voted : List (Int × Int)
  lv : Int
  lx : Int
  dn : Int
  pr : List B3
  vo : List B3
  re : List B3
  ds : List B3
  hs : List (Int × List Rp)
def Rq.dat (q : Rq) : Rd4 := ⟨q.n, q.id, q.own, q.view, q.left, q.voted, q.lv, q.lx, q.dn, q.pr, q.vo, q.re, q.ds, hl q.hs⟩
def Rq.cells (q : Rq) : Array Value := #[.int .i64 q.n, .int .i64 q.id, .int .i64 q.own, .int .i64 q.view, .int .i64 q.left, .slice q.Av q.voted.length q.cv, .int .i64 q.lv, .int .i64 q.lx, .int .i64 q.dn, .slice q.Ap q.pr.length q.cp, .slice q.Ao q.vo.length q.co, .slice q.Ar q.re.length q.cr, .slice q.Ad q.ds.length q.cd, .slice q.Ah q.hs.length q.ch]
def Rq.agg (q : Rq) : Value := .agg q.cells
/-- The parts read, below block Bd. -/
structure RdQ (w : World) (Bd : Nat) (q : Rq) : Prop where
  v : Rd w Bd q.Av q.voted
  p : Rd3 w Bd q.Ap q.pr
  o : Rd3 w Bd q.Ao q.vo
  r : Rd3 w Bd q.Ar q.re
  d : Rd3 w Bd q.Ad q.ds
  h : RdH w Bd q.Ah q.hs
section
variable {w w' : World} {Bd Bd' : Nat} {q : Rq}
theorem RdQ.keep (h : RdQ w Bd q) (hk : ∀ b o, b < Bd → w'.cell? ⟨b, o, none⟩ = w.cell? ⟨b, o, none⟩) : RdQ w' Bd q := ⟨h.v.keep hk, h.p.keep hk, h.o.keep hk, h.r.keep hk, h.d.keep hk, h.h.keep hk⟩
theorem RdQ.more (h : RdQ w Bd q) (hB : Bd ≤ Bd') : RdQ w Bd' q := ⟨h.v.more hB, h.p.more hB, h.o.more hB, h.r.more hB, h.d.more hB, h.h.more hB⟩
theorem RdQ.below (h : RdQ w Bd q) (hb : Below Bd w w') : RdQ w' Bd q := h.keep fun _ _ hp => hb.cell hp
theorem RdQ.alloc (h : RdQ w Bd q) (hB : Bd ≤ w.heap.size) (o : Obj) : RdQ (w.alloc o) Bd q := h.keep fun b o' hp => World.cell?_alloc_lt w o ⟨b, o', none⟩ (by simpa using (show b < w.heap.size by omega))
theorem RdQ.on (h : RdQ w w.heap.size q) (hb : Below w.heap.size w w') : RdQ w' w'.heap.size q := (h.below hb).more hb.size
theorem RdQ.up (h : RdQ w w.heap.size q) (O : Obj) : RdQ (w.alloc O) (w.alloc O).heap.size q := (h.alloc (Nat.le_refl _) O).more (by simp)
end
theorem PC3.own {w : World} {t : TypeId} {g lo : Nat} {cs : Array Value} {vs : List B3} (h : PC3 cs vs vs.length) (hb : Blk w g t cs) (hl : lo ≤ g) : OwnL 3 w lo (some ⟨g, 0, none⟩) vs.length := fun _ =>
  ⟨t, g, cs, rfl, hl, hb, by rw [h.1]; omega, fun i hi => by
    have := h.2 (i / 3) (by omega)
    rcases (by omega : i = i / 3 * 3 ∨ i = i / 3 * 3 + 1 ∨ i = i / 3 * 3 + 2) with e | e | e <;> rw [e]
    · exact ⟨_, this.1⟩
    · exact ⟨_, this.2.1⟩
    · exact ⟨_, this.2.2⟩⟩
/-- A state's rows are its own, from lo on. -/
structure OwnQ (w : World) (lo : Nat) (q : Rq) : Prop where
  v : OwnL 2 w lo q.Av q.voted.length
  p : OwnL 3 w lo q.Ap q.pr.length
  o : OwnL 3 w lo q.Ao q.vo.length
  r : OwnL 3 w lo q.Ar q.re.length
  d : OwnL 3 w lo q.Ad q.ds.length
  h : OwnH w lo q.Ah q.hs
theorem OwnQ.keep {w w' : World} {lo : Nat} {q : Rq} (h : OwnQ w lo q) (hk : ∀ g, lo ≤ g → g < w.heap.size → w'.heap[g]? = w.heap[g]?) : OwnQ w' lo q := ⟨h.v.keep hk, h.p.keep hk, h.o.keep hk, h.r.keep hk, h.d.keep hk, h.h.keep hk⟩
theorem OwnQ.low {w : World} {lo lo' : Nat} {q : Rq} (h : OwnQ w lo q) (hl : lo' ≤ lo) : OwnQ w lo' q := ⟨h.v.low hl, h.p.low hl, h.o.low hl, h.r.low hl, h.d.low hl, h.h.low hl⟩
end Go.Proofs.YtfdfjmibjnmhpaaGreat.B

namespace Go.Proofs.YtfdfjmibjnmhpaaGreat.V
open Go.RowKit Go.Proofs.YtfdfjmibjnmhpaaGreat.B
/-- How much it holds. -/
def tot (q : Rq) : Nat := q.voted.length + q.pr.length + q.vo.length + q.re.length + q.ds.length + (q.hs.length + th q.hs q.hs.length)
structure LensQ (q : Rq) : Prop where
  v : q.voted.length ≤ maxLen
  p : q.pr.length ≤ maxLen
  o : q.vo.length ≤ maxLen
  r : q.re.length ≤ maxLen
  d : q.ds.length ≤ maxLen
  h : Lens q.hs
structure FewQ (q : Rq) : Prop where
  v : q.voted.length ≤ 1048576
  p : q.pr.length ≤ 1048576
  o : q.vo.length ≤ 1048576
  r : q.re.length ≤ 1048576
  d : q.ds.length ≤ 1048576
  h : FewH q.hs
theorem fewQ_of {q : Rq} (h : tot q ≤ 1048576) : FewQ q := by
  unfold tot at h
  exact ⟨by omega, by omega, by omega, by omega, by omega, fewH_of (by omega)⟩
theorem FewQ.same {q p : Rq} (h : FewQ q) (e : p.dat = q.dat) : FewQ p := by
  simp only [Rq.dat, Rd4.mk.injEq] at e
  obtain ⟨-, -, -, -, -, e1, -, -, -, e2, e3, e4, e5, e6⟩ := e
  exact ⟨by rw [e1]; exact h.v, by rw [e2]; exact h.p, by rw [e3]; exact h.o, by rw [e4]; exact h.r, by rw [e5]; exact h.d, (h.h.same e6).1⟩

set_option maxHeartbeats 1600000 in
theorem szRep_any (q : Rq) (left : Int) (w : World) (hr : RdH w w.heap.size q.Ah q.hs) (hL : LensQ q) (h0 : 0 ≤ left) (h1 : left ≤ 1048576) :
    Calls Tryz.prog 47 #[q.agg, .int .i64 left] w fun e w' => e = .returned (.int .i64 (if left < (tot q : Int) then -1 else left - tot q)) ∧ Below w.heap.size w w' := by
  obtain ⟨T, hT⟩ : ∃ T, tot q = T := ⟨_, rfl⟩
  rw [hT]
  obtain ⟨z, hz⟩ : ∃ z : Int, (if left < (T : Int) then -1 else left - T) = z := ⟨_, rfl⟩
  rw [hz]
  have HZ := Lib.hid hz; clear hz
  obtain ⟨n, id, own, view, left_, voted, lv, lx, dn, pr, vo, re, ds, hs, Av, Ap, Ao, Ar, Ad, Ah, cv, cp, co, cr, cd, ch⟩ := q
  obtain ⟨lv0, lp0, lo0, lr0, ld0, lh0⟩ := hL
  simp only [Rq.agg, Rq.cells, tot] at *
  have H5 := Lib.hid (fun (W : World) (y : Int) (g : RdH W W.heap.size Ah hs) (g0 : 0 ≤ y) (g1 : y ≤ 1048576) => szHeardS_any Ah ch hs y W g lh0 g0 g1)
  obtain ⟨la, hla⟩ : ∃ m, voted.length = m := ⟨_, rfl⟩
  rw [hla] at lv0 hT ⊢
  clear hla
  obtain ⟨lb, hlb⟩ : ∃ m, pr.length = m := ⟨_, rfl⟩
  rw [hlb] at lp0 hT ⊢
  clear hlb
  obtain ⟨lc, hlc⟩ : ∃ m, vo.length = m := ⟨_, rfl⟩
  rw [hlc] at lo0 hT ⊢
  clear hlc
  obtain ⟨ld, hld⟩ : ∃ m, re.length = m := ⟨_, rfl⟩
  rw [hld] at lr0 hT ⊢
  clear hld
  obtain ⟨le, hle⟩ : ∃ m, ds.length = m := ⟨_, rfl⟩
  rw [hle] at ld0 hT ⊢
  clear hle
  obtain ⟨lf, hlf⟩ : ∃ m, hs.length = m := ⟨_, rfl⟩
  rw [hlf] at H5 hT ⊢
  obtain ⟨lg, hlg⟩ : ∃ m, th hs lf = m := ⟨_, rfl⟩
  rw [hlg] at H5 hT
  clear hlf hlg lh0
  have HT := Lib.hid hT; clear hT
  have HR := Lib.hid hr; clear hr
  obtain ⟨y1, hy1⟩ : ∃ z : Int, left - la = z := ⟨_, rfl⟩
  obtain ⟨y2, hy2⟩ : ∃ z : Int, y1 - lb = z := ⟨_, rfl⟩
  obtain ⟨y3, hy3⟩ : ∃ z : Int, y2 - lc = z := ⟨_, rfl⟩
  obtain ⟨y4, hy4⟩ : ∃ z : Int, y3 - ld = z := ⟨_, rfl⟩
  obtain ⟨y5, hy5⟩ : ∃ z : Int, y4 - le = z := ⟨_, rfl⟩
  unfold maxLen at lv0 lp0 lo0 lr0 ld0
  by_cases k0 : left < (la : Int)
  · have hc0 := fun W => sz_any Av la cv left W (by unfold maxLen; omega) h0 h1
    simp only [if_pos k0] at hc0
    have C0 := Lib.hid hc0; clear hc0
    go_enter Tryz.func47, Tryz.ntmps47
    have ka := Blk.new w 84 #[.int .i64 n, .int .i64 id, .int .i64 own, .int .i64 view, .int .i64 left_, .slice Av la cv, .int .i64 lv, .int .i64 lx, .int .i64 dn, .slice Ap lb cp, .slice Ao lc co, .slice Ar ld cr, .slice Ad le cd, .slice Ah lf ch]
    have hB := up_ (Below.refl w.heap.size w) (.cells #[.int .i64 n, .int .i64 id, .int .i64 own, .int .i64 view, .int .i64 left_, .slice Av la cv, .int .i64 lv, .int .i64 lx, .int .i64 dn, .slice Ap lb cp, .slice Ao lc co, .slice Ar ld cr, .slice Ad le cd, .slice Ah lf ch] 84)
    have hr := HR.out.up (.cells #[.int .i64 n, .int .i64 id, .int .i64 own, .int .i64 view, .int .i64 left_, .slice Av la cv, .int .i64 lv, .int .i64 lx, .int .i64 dn, .slice Ap lb cp, .slice Ao lc co, .slice Ar ld cr, .slice Ad le cd, .slice Ah lf ch] 84)
    have HB := Lib.hid hB; have HH := Lib.hid hr; clear hB hr HR
    have ra := ka.rule
    go_wp2_with fail
    refine (C0.out _).mono ?_
    rintro e v0 ⟨rfl, rfl⟩
    go_wp2
    go_ret
    exact ⟨ret_int2 (by rw [← HZ.out, if_pos (by have := HT.out; omega)]), HB.out⟩
  · skip
    by_cases k1 : y1 < (lb : Int)
    · have hc0 := fun W => sz_any Av la cv left W (by unfold maxLen; omega) h0 h1
      simp only [if_neg (show ¬ left < (la : Int) by omega), hy1] at hc0
      have C0 := Lib.hid hc0; clear hc0
      have hc1 := fun W => szTally_big Ap lb cp y1 W (by unfold maxLen; omega) (by omega) (by omega) k1
      have C1 := Lib.hid hc1; clear hc1
      have n1 : ¬ y1 < 0 := by omega
      go_enter Tryz.func47, Tryz.ntmps47
      have ka := Blk.new w 84 #[.int .i64 n, .int .i64 id, .int .i64 own, .int .i64 view, .int .i64 left_, .slice Av la cv, .int .i64 lv, .int .i64 lx, .int .i64 dn, .slice Ap lb cp, .slice Ao lc co, .slice Ar ld cr, .slice Ad le cd, .slice Ah lf ch]
      have hB := up_ (Below.refl w.heap.size w) (.cells #[.int .i64 n, .int .i64 id, .int .i64 own, .int .i64 view, .int .i64 left_, .slice Av la cv, .int .i64 lv, .int .i64 lx, .int .i64 dn, .slice Ap lb cp, .slice Ao lc co, .slice Ar ld cr, .slice Ad le cd, .slice Ah lf ch] 84)
      have hr := HR.out.up (.cells #[.int .i64 n, .int .i64 id, .int .i64 own, .int .i64 view, .int .i64 left_, .slice Av la cv, .int .i64 lv, .int .i64 lx, .int .i64 dn, .slice Ap lb cp, .slice Ao lc co, .slice Ar ld cr, .slice Ad le cd, .slice Ah lf ch] 84)
      have HB := Lib.hid hB; have HH := Lib.hid hr; clear hB hr HR
      have ra := ka.rule
      go_wp2_with fail
      refine (C0.out _).mono ?_
      rintro e v0 ⟨rfl, rfl⟩
      go_wp2_with fail
      refine (C1.out _).mono ?_
      rintro e v1 ⟨rfl, hb⟩
      have kb := ka.on hb; have HB2 := Lib.hid (on_ HB.out hb); have HH2 := Lib.hid (HH.out.on hb); clear hb HB HH ra ka
      have ka := kb; have HB := HB2; have HH := HH2; clear kb HB2 HH2; have ra := ka.rule
      go_wp2
      go_ret
      exact ⟨ret_int2 (by rw [← HZ.out, if_pos (by have := HT.out; omega)]), HB.out⟩
    · skip
      by_cases k2 : y2 < (lc : Int)
      · have hc0 := fun W => sz_any Av la cv left W (by unfold maxLen; omega) h0 h1
        simp only [if_neg (show ¬ left < (la : Int) by omega), hy1] at hc0
        have C0 := Lib.hid hc0; clear hc0
        have hc1 := fun W => szTally_small Ap lb cp y1 W (by unfold maxLen; omega) (by omega) (by omega) (by omega)
        simp only [hy2] at hc1
        have C1 := Lib.hid hc1; clear hc1
        have hc2 := fun W => szTally_big Ao lc co y2 W (by unfold maxLen; omega) (by omega) (by omega) k2
        have C2 := Lib.hid hc2; clear hc2
        have n1 : ¬ y1 < 0 := by omega
        have n2 : ¬ y2 < 0 := by omega
        go_enter Tryz.func47, Tryz.ntmps47
        have ka := Blk.new w 84 #[.int .i64 n, .int .i64 id, .int .i64 own, .int .i64 view, .int .i64 left_, .slice Av la cv, .int .i64 lv, .int .i64 lx, .int .i64 dn, .slice Ap lb cp, .slice Ao lc co, .slice Ar ld cr, .slice Ad le cd, .slice Ah lf ch]
        have hB := up_ (Below.refl w.heap.size w) (.cells #[.int .i64 n, .int .i64 id, .int .i64 own, .int .i64 view, .int .i64 left_, .slice Av la cv, .int .i64 lv, .int .i64 lx, .int .i64 dn, .slice Ap lb cp, .slice Ao lc co, .slice Ar ld cr, .slice Ad le cd, .slice Ah lf ch] 84)
        have hr := HR.out.up (.cells #[.int .i64 n, .int .i64 id, .int .i64 own, .int .i64 view, .int .i64 left_, .slice Av la cv, .int .i64 lv, .int .i64 lx, .int .i64 dn, .slice Ap lb cp, .slice Ao lc co, .slice Ar ld cr, .slice Ad le cd, .slice Ah lf ch] 84)
        have HB := Lib.hid hB; have HH := Lib.hid hr; clear hB hr HR
        have ra := ka.rule
        go_wp2_with fail
        refine (C0.out _).mono ?_
        rintro e v0 ⟨rfl, rfl⟩
        go_wp2_with fail
        refine (C1.out _).mono ?_
        rintro e v1 ⟨rfl, hb⟩
        have kb := ka.on hb; have HB2 := Lib.hid (on_ HB.out hb); have HH2 := Lib.hid (HH.out.on hb); clear hb HB HH ra ka
        have ka := kb; have HB := HB2; have HH := HH2; clear kb HB2 HH2; have ra := ka.rule
        go_wp2_with fail
        refine (C2.out _).mono ?_
        rintro e v2 ⟨rfl, hb⟩
        have kb := ka.on hb; have HB2 := Lib.hid (on_ HB.out hb); have HH2 := Lib.hid (HH.out.on hb); clear hb HB HH ra ka
        have ka := kb; have HB := HB2; have HH := HH2; clear kb HB2 HH2; have ra := ka.rule
        go_wp2
        go_ret
        exact ⟨ret_int2 (by rw [← HZ.out, if_pos (by have := HT.out; omega)]), HB.out⟩
      · skip
        by_cases k3 : y3 < (ld : Int)
        · have hc0 := fun W => sz_any Av la cv left W (by unfold maxLen; omega) h0 h1
          simp only [if_neg (show ¬ left < (la : Int) by omega), hy1] at hc0
          have C0 := Lib.hid hc0; clear hc0
          have hc1 := fun W => szTally_small Ap lb cp y1 W (by unfold maxLen; omega) (by omega) (by omega) (by omega)
          simp only [hy2] at hc1
          have C1 := Lib.hid hc1; clear hc1
          have hc2 := fun W => szTally_small Ao lc co y2 W (by unfold maxLen; omega) (by omega) (by omega) (by omega)
          simp only [hy3] at hc2
          have C2 := Lib.hid hc2; clear hc2
          have hc3 := fun W => szTally_big Ar ld cr y3 W (by unfold maxLen; omega) (by omega) (by omega) k3
          have C3 := Lib.hid hc3; clear hc3
          have n1 : ¬ y1 < 0 := by omega
          have n2 : ¬ y2 < 0 := by omega
          have n3 : ¬ y3 < 0 := by omega
          go_enter Tryz.func47, Tryz.ntmps47
          have ka := Blk.new w 84 #[.int .i64 n, .int .i64 id, .int .i64 own, .int .i64 view, .int .i64 left_, .slice Av la cv, .int .i64 lv, .int .i64 lx, .int .i64 dn, .slice Ap lb cp, .slice Ao lc co, .slice Ar ld cr, .slice Ad le cd, .slice Ah lf ch]
          have hB := up_ (Below.refl w.heap.size w) (.cells #[.int .i64 n, .int .i64 id, .int .i64 own, .int .i64 view, .int .i64 left_, .slice Av la cv, .int .i64 lv, .int .i64 lx, .int .i64 dn, .slice Ap lb cp, .slice Ao lc co, .slice Ar ld cr, .slice Ad le cd, .slice Ah lf ch] 84)
          have hr := HR.out.up (.cells #[.int .i64 n, .int .i64 id, .int .i64 own, .int .i64 view, .int .i64 left_, .slice Av la cv, .int .i64 lv, .int .i64 lx, .int .i64 dn, .slice Ap lb cp, .slice Ao lc co, .slice Ar ld cr, .slice Ad le cd, .slice Ah lf ch] 84)
          have HB := Lib.hid hB; have HH := Lib.hid hr; clear hB hr HR
          have ra := ka.rule
          go_wp2_with fail
          refine (C0.out _).mono ?_
          rintro e v0 ⟨rfl, rfl⟩
          go_wp2_with fail
          refine (C1.out _).mono ?_
          rintro e v1 ⟨rfl, hb⟩
          have kb := ka.on hb; have HB2 := Lib.hid (on_ HB.out hb); have HH2 := Lib.hid (HH.out.on hb); clear hb HB HH ra ka
          have ka := kb; have HB := HB2; have HH := HH2; clear kb HB2 HH2; have ra := ka.rule
          go_wp2_with fail
          refine (C2.out _).mono ?_
          rintro e v2 ⟨rfl, hb⟩
          have kb := ka.on hb; have HB2 := Lib.hid (on_ HB.out hb); have HH2 := Lib.hid (HH.out.on hb); clear hb HB HH ra ka
          have ka := kb; have HB := HB2; have HH := HH2; clear kb HB2 HH2; have ra := ka.rule
          go_wp2_with fail
          refine (C3.out _).mono ?_
          rintro e v3 ⟨rfl, hb⟩
          have kb := ka.on hb; have HB2 := Lib.hid (on_ HB.out hb); have HH2 := Lib.hid (HH.out.on hb); clear hb HB HH ra ka
          have ka := kb; have HB := HB2; have HH := HH2; clear kb HB2 HH2; have ra := ka.rule
          go_wp2
          go_ret
          exact ⟨ret_int2 (by rw [← HZ.out, if_pos (by have := HT.out; omega)]), HB.out⟩
        · skip
          by_cases k4 : y4 < (le : Int)
          · have hc0 := fun W => sz_any Av la cv left W (by unfold maxLen; omega) h0 h1
            simp only [if_neg (show ¬ left < (la : Int) by omega), hy1] at hc0
            have C0 := Lib.hid hc0; clear hc0
            have hc1 := fun W => szTally_small Ap lb cp y1 W (by unfold maxLen; omega) (by omega) (by omega) (by omega)
            simp only [hy2] at hc1
            have C1 := Lib.hid hc1; clear hc1
            have hc2 := fun W => szTally_small Ao lc co y2 W (by unfold maxLen; omega) (by omega) (by omega) (by omega)
            simp only [hy3] at hc2
            have C2 := Lib.hid hc2; clear hc2
            have hc3 := fun W => szTally_small Ar ld cr y3 W (by unfold maxLen; omega) (by omega) (by omega) (by omega)
            simp only [hy4] at hc3
            have C3 := Lib.hid hc3; clear hc3
            have hc4 := fun W => szTally_big Ad le cd y4 W (by unfold maxLen; omega) (by omega) (by omega) k4
            have C4 := Lib.hid hc4; clear hc4
            have n1 : ¬ y1 < 0 := by omega
            have n2 : ¬ y2 < 0 := by omega
            have n3 : ¬ y3 < 0 := by omega
            have n4 : ¬ y4 < 0 := by omega
            go_enter Tryz.func47, Tryz.ntmps47
            have ka := Blk.new w 84 #[.int .i64 n, .int .i64 id, .int .i64 own, .int .i64 view, .int .i64 left_, .slice Av la cv, .int .i64 lv, .int .i64 lx, .int .i64 dn, .slice Ap lb cp, .slice Ao lc co, .slice Ar ld cr, .slice Ad le cd, .slice Ah lf ch]
            have hB := up_ (Below.refl w.heap.size w) (.cells #[.int .i64 n, .int .i64 id, .int .i64 own, .int .i64 view, .int .i64 left_, .slice Av la cv, .int .i64 lv, .int .i64 lx, .int .i64 dn, .slice Ap lb cp, .slice Ao lc co, .slice Ar ld cr, .slice Ad le cd, .slice Ah lf ch] 84)
            have hr := HR.out.up (.cells #[.int .i64 n, .int .i64 id, .int .i64 own, .int .i64 view, .int .i64 left_, .slice Av la cv, .int .i64 lv, .int .i64 lx, .int .i64 dn, .slice Ap lb cp, .slice Ao lc co, .slice Ar ld cr, .slice Ad le cd, .slice Ah lf ch] 84)
            have HB := Lib.hid hB; have HH := Lib.hid hr; clear hB hr HR
            have ra := ka.rule
            go_wp2_with fail
            refine (C0.out _).mono ?_
            rintro e v0 ⟨rfl, rfl⟩
            go_wp2_with fail
            refine (C1.out _).mono ?_
            rintro e v1 ⟨rfl, hb⟩
            have kb := ka.on hb; have HB2 := Lib.hid (on_ HB.out hb); have HH2 := Lib.hid (HH.out.on hb); clear hb HB HH ra ka
            have ka := kb; have HB := HB2; have HH := HH2; clear kb HB2 HH2; have ra := ka.rule
            go_wp2_with fail
            refine (C2.out _).mono ?_
            rintro e v2 ⟨rfl, hb⟩
            have kb := ka.on hb; have HB2 := Lib.hid (on_ HB.out hb); have HH2 := Lib.hid (HH.out.on hb); clear hb HB HH ra ka
            have ka := kb; have HB := HB2; have HH := HH2; clear kb HB2 HH2; have ra := ka.rule
            go_wp2_with fail
            refine (C3.out _).mono ?_
            rintro e v3 ⟨rfl, hb⟩
            have kb := ka.on hb; have HB2 := Lib.hid (on_ HB.out hb); have HH2 := Lib.hid (HH.out.on hb); clear hb HB HH ra ka
            have ka := kb; have HB := HB2; have HH := HH2; clear kb HB2 HH2; have ra := ka.rule
            go_wp2_with fail
            refine (C4.out _).mono ?_
            rintro e v4 ⟨rfl, hb⟩
            have kb := ka.on hb; have HB2 := Lib.hid (on_ HB.out hb); have HH2 := Lib.hid (HH.out.on hb); clear hb HB HH ra ka
            have ka := kb; have HB := HB2; have HH := HH2; clear kb HB2 HH2; have ra := ka.rule
            go_wp2
            go_ret
            exact ⟨ret_int2 (by rw [← HZ.out, if_pos (by have := HT.out; omega)]), HB.out⟩
          · skip
            by_cases k5 : y5 < (lf : Int) + (lg : Int)
            · have hc0 := fun W => sz_any Av la cv left W (by unfold maxLen; omega) h0 h1
              simp only [if_neg (show ¬ left < (la : Int) by omega), hy1] at hc0
              have C0 := Lib.hid hc0; clear hc0
              have hc1 := fun W => szTally_small Ap lb cp y1 W (by unfold maxLen; omega) (by omega) (by omega) (by omega)
              simp only [hy2] at hc1
              have C1 := Lib.hid hc1; clear hc1
              have hc2 := fun W => szTally_small Ao lc co y2 W (by unfold maxLen; omega) (by omega) (by omega) (by omega)
              simp only [hy3] at hc2
              have C2 := Lib.hid hc2; clear hc2
              have hc3 := fun W => szTally_small Ar ld cr y3 W (by unfold maxLen; omega) (by omega) (by omega) (by omega)
              simp only [hy4] at hc3
              have C3 := Lib.hid hc3; clear hc3
              have hc4 := fun W => szTally_small Ad le cd y4 W (by unfold maxLen; omega) (by omega) (by omega) (by omega)
              simp only [hy5] at hc4
              have C4 := Lib.hid hc4; clear hc4
              have hc5 := fun (W : World) (g : RdH W W.heap.size Ah hs) => H5.out W y5 g (by omega) (by omega)
              simp only [if_pos k5] at hc5
              have C5 := Lib.hid hc5; clear hc5
              have n1 : ¬ y1 < 0 := by omega
              have n2 : ¬ y2 < 0 := by omega
              have n3 : ¬ y3 < 0 := by omega
              have n4 : ¬ y4 < 0 := by omega
              have n5 : ¬ y5 < 0 := by omega
              go_enter Tryz.func47, Tryz.ntmps47
              have ka := Blk.new w 84 #[.int .i64 n, .int .i64 id, .int .i64 own, .int .i64 view, .int .i64 left_, .slice Av la cv, .int .i64 lv, .int .i64 lx, .int .i64 dn, .slice Ap lb cp, .slice Ao lc co, .slice Ar ld cr, .slice Ad le cd, .slice Ah lf ch]
              have hB := up_ (Below.refl w.heap.size w) (.cells #[.int .i64 n, .int .i64 id, .int .i64 own, .int .i64 view, .int .i64 left_, .slice Av la cv, .int .i64 lv, .int .i64 lx, .int .i64 dn, .slice Ap lb cp, .slice Ao lc co, .slice Ar ld cr, .slice Ad le cd, .slice Ah lf ch] 84)
              have hr := HR.out.up (.cells #[.int .i64 n, .int .i64 id, .int .i64 own, .int .i64 view, .int .i64 left_, .slice Av la cv, .int .i64 lv, .int .i64 lx, .int .i64 dn, .slice Ap lb cp, .slice Ao lc co, .slice Ar ld cr, .slice Ad le cd, .slice Ah lf ch] 84)
              have HB := Lib.hid hB; have HH := Lib.hid hr; clear hB hr HR
              have ra := ka.rule
              go_wp2_with fail
              refine (C0.out _).mono ?_
              rintro e v0 ⟨rfl, rfl⟩
              go_wp2_with fail
              refine (C1.out _).mono ?_
              rintro e v1 ⟨rfl, hb⟩
              have kb := ka.on hb; have HB2 := Lib.hid (on_ HB.out hb); have HH2 := Lib.hid (HH.out.on hb); clear hb HB HH ra ka
              have ka := kb; have HB := HB2; have HH := HH2; clear kb HB2 HH2; have ra := ka.rule
              go_wp2_with fail
              refine (C2.out _).mono ?_
              rintro e v2 ⟨rfl, hb⟩
              have kb := ka.on hb; have HB2 := Lib.hid (on_ HB.out hb); have HH2 := Lib.hid (HH.out.on hb); clear hb HB HH ra ka
              have ka := kb; have HB := HB2; have HH := HH2; clear kb HB2 HH2; have ra := ka.rule
              go_wp2_with fail
              refine (C3.out _).mono ?_
              rintro e v3 ⟨rfl, hb⟩
              have kb := ka.on hb; have HB2 := Lib.hid (on_ HB.out hb); have HH2 := Lib.hid (HH.out.on hb); clear hb HB HH ra ka
              have ka := kb; have HB := HB2; have HH := HH2; clear kb HB2 HH2; have ra := ka.rule
              go_wp2_with fail
              refine (C4.out _).mono ?_
              rintro e v4 ⟨rfl, hb⟩
              have kb := ka.on hb; have HB2 := Lib.hid (on_ HB.out hb); have HH2 := Lib.hid (HH.out.on hb); clear hb HB HH ra ka
              have ka := kb; have HB := HB2; have HH := HH2; clear kb HB2 HH2; have ra := ka.rule
              go_wp2_with fail
              refine (C5.out _ HH.out).mono ?_
              rintro e v5 ⟨rfl, hb⟩
              have kb := ka.on hb; have HB2 := Lib.hid (on_ HB.out hb); have HH2 := Lib.hid (HH.out.on hb); clear hb HB HH ra ka
              have ka := kb; have HB := HB2; have HH := HH2; clear kb HB2 HH2; have ra := ka.rule
              go_wp2
              go_ret
              exact ⟨ret_int2 (by rw [← HZ.out, if_pos (by have := HT.out; omega)]), HB.out⟩
            · skip
              have hc0 := fun W => sz_any Av la cv left W (by unfold maxLen; omega) h0 h1
              simp only [if_neg (show ¬ left < (la : Int) by omega), hy1] at hc0
              have C0 := Lib.hid hc0; clear hc0
              have hc1 := fun W => szTally_small Ap lb cp y1 W (by unfold maxLen; omega) (by omega) (by omega) (by omega)
              simp only [hy2] at hc1
              have C1 := Lib.hid hc1; clear hc1
              have hc2 := fun W => szTally_small Ao lc co y2 W (by unfold maxLen; omega) (by omega) (by omega) (by omega)
              simp only [hy3] at hc2
              have C2 := Lib.hid hc2; clear hc2
              have hc3 := fun W => szTally_small Ar ld cr y3 W (by unfold maxLen; omega) (by omega) (by omega) (by omega)
              simp only [hy4] at hc3
              have C3 := Lib.hid hc3; clear hc3
              have hc4 := fun W => szTally_small Ad le cd y4 W (by unfold maxLen; omega) (by omega) (by omega) (by omega)
              simp only [hy5] at hc4
              have C4 := Lib.hid hc4; clear hc4
              have hc5 := fun (W : World) (g : RdH W W.heap.size Ah hs) => H5.out W y5 g (by omega) (by omega)
              simp only [if_neg k5] at hc5
              obtain ⟨y6, hy6⟩ : ∃ z : Int, y5 - lf - lg = z := ⟨_, rfl⟩
              simp only [hy6] at hc5
              have ny6 : ¬ y6 < 0 := by omega
              have my6 : 0 ≤ y6 := by omega
              have C5 := Lib.hid hc5; clear hc5
              have n1 : ¬ y1 < 0 := by omega
              have n2 : ¬ y2 < 0 := by omega
              have n3 : ¬ y3 < 0 := by omega
              have n4 : ¬ y4 < 0 := by omega
              have n5 : ¬ y5 < 0 := by omega
              have HY : Hid (left - T = y6) := by show _ = _; have := HT.out; omega
              go_enter Tryz.func47, Tryz.ntmps47
              have ka := Blk.new w 84 #[.int .i64 n, .int .i64 id, .int .i64 own, .int .i64 view, .int .i64 left_, .slice Av la cv, .int .i64 lv, .int .i64 lx, .int .i64 dn, .slice Ap lb cp, .slice Ao lc co, .slice Ar ld cr, .slice Ad le cd, .slice Ah lf ch]
              have hB := up_ (Below.refl w.heap.size w) (.cells #[.int .i64 n, .int .i64 id, .int .i64 own, .int .i64 view, .int .i64 left_, .slice Av la cv, .int .i64 lv, .int .i64 lx, .int .i64 dn, .slice Ap lb cp, .slice Ao lc co, .slice Ar ld cr, .slice Ad le cd, .slice Ah lf ch] 84)
              have hr := HR.out.up (.cells #[.int .i64 n, .int .i64 id, .int .i64 own, .int .i64 view, .int .i64 left_, .slice Av la cv, .int .i64 lv, .int .i64 lx, .int .i64 dn, .slice Ap lb cp, .slice Ao lc co, .slice Ar ld cr, .slice Ad le cd, .slice Ah lf ch] 84)
              have HB := Lib.hid hB; have HH := Lib.hid hr; clear hB hr HR
              have ra := ka.rule
              go_wp2_with fail
              refine (C0.out _).mono ?_
              rintro e v0 ⟨rfl, rfl⟩
              go_wp2_with fail
              refine (C1.out _).mono ?_
              rintro e v1 ⟨rfl, hb⟩
              have kb := ka.on hb; have HB2 := Lib.hid (on_ HB.out hb); have HH2 := Lib.hid (HH.out.on hb); clear hb HB HH ra ka
              have ka := kb; have HB := HB2; have HH := HH2; clear kb HB2 HH2; have ra := ka.rule
              go_wp2_with fail
              refine (C2.out _).mono ?_
              rintro e v2 ⟨rfl, hb⟩
              have kb := ka.on hb; have HB2 := Lib.hid (on_ HB.out hb); have HH2 := Lib.hid (HH.out.on hb); clear hb HB HH ra ka
              have ka := kb; have HB := HB2; have HH := HH2; clear kb HB2 HH2; have ra := ka.rule
              go_wp2_with fail
              refine (C3.out _).mono ?_
              rintro e v3 ⟨rfl, hb⟩
              have kb := ka.on hb; have HB2 := Lib.hid (on_ HB.out hb); have HH2 := Lib.hid (HH.out.on hb); clear hb HB HH ra ka
              have ka := kb; have HB := HB2; have HH := HH2; clear kb HB2 HH2; have ra := ka.rule
              go_wp2_with fail
              refine (C4.out _).mono ?_
              rintro e v4 ⟨rfl, hb⟩
              have kb := ka.on hb; have HB2 := Lib.hid (on_ HB.out hb); have HH2 := Lib.hid (HH.out.on hb); clear hb HB HH ra ka
              have ka := kb; have HB := HB2; have HH := HH2; clear kb HB2 HH2; have ra := ka.rule
              go_wp2_with fail
              refine (C5.out _ HH.out).mono ?_
              rintro e v5 ⟨rfl, hb⟩
              have kb := ka.on hb; have HB2 := Lib.hid (on_ HB.out hb); have HH2 := Lib.hid (HH.out.on hb); clear hb HB HH ra ka
              have ka := kb; have HB := HB2; have HH := HH2; clear kb HB2 HH2; have ra := ka.rule
              go_wp2
              go_ret
              exact ⟨ret_int2 (by rw [← HZ.out, ← HY.out, if_neg (by have := HT.out; omega)]), HB.out⟩
end Go.Proofs.YtfdfjmibjnmhpaaGreat.V

namespace Go.Proofs.YtfdfjmibjnmhpaaGreat.V
open Go.RowKit Go.Proofs.YtfdfjmibjnmhpaaGreat.B

def viewOkB (n : Int) : Bool := decide (0 ≤ n ∧ n ≤ 9)
def valOkB (n : Int) : Bool := decide (1 ≤ n ∧ n ≤ 60)
def goodAt (vs : List (Int × Int)) (below : Int) (i : Nat) : Bool :=
  viewOkB (vs.getD i (0, 0)).1 && valOkB (vs.getD i (0, 0)).2 && decide ((vs.getD i (0, 0)).1 < below) && (decide (i = 0) || decide ((vs.getD (i - 1) (0, 0)).1 < (vs.getD i (0, 0)).1))
def votesOkB (vs : List (Int × Int)) (below : Int) : Bool := (List.range vs.length).all (goodAt vs below)

theorem votesOk_yes {vs : List (Int × Int)} {below : Int} (h : ∀ j, j < vs.length → goodAt vs below j = true) : votesOkB vs below = true := by
  unfold votesOkB
  rw [List.all_eq_true]
  intro j hj
  exact h j (List.mem_range.1 hj)
theorem votesOk_no {vs : List (Int × Int)} {below : Int} {k : Nat} (hk : k < vs.length) (h : goodAt vs below k = false) : votesOkB vs below = false := by
  unfold votesOkB
  rw [List.all_eq_false]
  exact ⟨k, List.mem_range.2 hk, by simp [h]⟩

theorem specView_is (n : Int) (q : Bool) (h : viewOkB n = q) (w : World) : Calls Tryz.prog 70 #[.int .i64 n] w fun e w' => e = .returned (.bool q) ∧ w' = w := by
  subst h
  unfold viewOkB
  by_cases h1 : 0 ≤ n
  · by_cases h2 : n ≤ 9
    all_goals
      go_enter Tryz.func70, Tryz.ntmps70
      go_wp2
      go_ret
      exact ⟨ret_bool (by simp; try omega), rfl⟩
  · go_enter Tryz.func70, Tryz.ntmps70
    go_wp2
    go_ret
    exact ⟨ret_bool (by simp; try omega), rfl⟩
theorem specVal_is (n : Int) (q : Bool) (h : valOkB n = q) (w : World) : Calls Tryz.prog 69 #[.int .i64 n] w fun e w' => e = .returned (.bool q) ∧ w' = w := by
  subst h
  unfold valOkB
  by_cases h1 : 1 ≤ n
  · by_cases h2 : n ≤ 60
    all_goals
      go_enter Tryz.func69, Tryz.ntmps69
      go_wp2
      go_ret
      exact ⟨ret_bool (by simp; try omega), rfl⟩
  · go_enter Tryz.func69, Tryz.ntmps69
    go_wp2
    go_ret
    exact ⟨ret_bool (by simp; try omega), rfl⟩
theorem implView_is (n : Int) (q : Bool) (h : viewOkB n = q) (w : World) : Calls Tryz.prog 96 #[.int .i64 n] w fun e w' => e = .returned (.bool q) ∧ w' = w := by
  subst h
  unfold viewOkB
  by_cases h1 : 0 ≤ n
  · by_cases h2 : n ≤ 9
    all_goals
      go_enter Tryz.func96, Tryz.ntmps96
      go_wp2
      go_ret
      exact ⟨ret_bool (by simp; try omega), rfl⟩
  · go_enter Tryz.func96, Tryz.ntmps96
    go_wp2
    go_ret
    exact ⟨ret_bool (by simp; try omega), rfl⟩
theorem implVal_is (n : Int) (q : Bool) (h : valOkB n = q) (w : World) : Calls Tryz.prog 95 #[.int .i64 n] w fun e w' => e = .returned (.bool q) ∧ w' = w := by
  subst h
  unfold valOkB
  by_cases h1 : 1 ≤ n
  · by_cases h2 : n ≤ 60
    all_goals
      go_enter Tryz.func95, Tryz.ntmps95
      go_wp2
      go_ret
      exact ⟨ret_bool (by simp; try omega), rfl⟩
  · go_enter Tryz.func95, Tryz.ntmps95
    go_wp2
    go_ret
    exact ⟨ret_bool (by simp; try omega), rfl⟩

def voteOkB (a b below : Int) : Bool := viewOkB a && decide (a < below) && valOkB b
theorem voteOk_is (a b below : Int) (q : Bool) (h : voteOkB a b below = q) (w : World) :
    Calls Tryz.prog 111 #[.agg #[.int .i64 a, .int .i64 b], .int .i64 below] w fun e w' => e = .returned (.bool q) ∧ Below w.heap.size w w' := by
  subst h
  unfold voteOkB
  rcases h1 : viewOkB a with _ | _
  · have H1 := Lib.hid h1; clear h1
    go_enter Tryz.func111, Tryz.ntmps111
    go_wp2_with (go_at_call 96; refine (implView_is a false H1.out _).mono ?_; rintro e w1 ⟨rfl, rfl⟩)
    go_ret
    exact ⟨ret_bool (by simp), (Below.refl _ _).alloc (Nat.le_refl _) _⟩
  · have H1 := Lib.hid h1; clear h1
    by_cases h2 : a < below
    · rcases h3 : valOkB b with _ | _
      · have H3 := Lib.hid h3; clear h3
        go_enter Tryz.func111, Tryz.ntmps111
        go_wp2_with (first | (go_at_call 96; refine (implView_is a true H1.out _).mono ?_; rintro e w1 ⟨rfl, rfl⟩) | (go_at_call 95; refine (implVal_is b false H3.out _).mono ?_; rintro e w1 ⟨rfl, rfl⟩))
        go_ret
        exact ⟨ret_bool (by simp), (Below.refl _ _).alloc (Nat.le_refl _) _⟩
      · have H3 := Lib.hid h3; clear h3
        go_enter Tryz.func111, Tryz.ntmps111
        go_wp2_with (first | (go_at_call 96; refine (implView_is a true H1.out _).mono ?_; rintro e w1 ⟨rfl, rfl⟩) | (go_at_call 95; refine (implVal_is b true H3.out _).mono ?_; rintro e w1 ⟨rfl, rfl⟩))
        go_ret
        exact ⟨ret_bool (by simp [h2]), (Below.refl _ _).alloc (Nat.le_refl _) _⟩
    · go_enter Tryz.func111, Tryz.ntmps111
      go_wp2_with (go_at_call 96; refine (implView_is a true H1.out _).mono ?_; rintro e w1 ⟨rfl, rfl⟩)
      go_ret
      exact ⟨ret_bool (by simp; omega), (Below.refl _ _).alloc (Nat.le_refl _) _⟩

theorem Below.drewN_ {Bd : Nat} (w : World) (n : Nat) : Below Bd w (w.drewN n) := ⟨rfl, rfl, rfl, Nat.le_refl _, fun _ _ => rfl⟩

theorem Rd.prev {w : World} {Bd b off n : Nat} {c : Nat} {vs : List (Int × Int)} (h : Rd w Bd (some ⟨b, off, none⟩) vs) {k : Nat} (hk : k < vs.length) (h0 : 0 < k) :
    w.cell? ⟨b, off + (k - 1) * 2, none⟩ = some (.int .i64 (vs.getD (k - 1) (0, 0)).1) := by
  obtain ⟨b', off', e, hb, hc⟩ := h (by omega)
  injection e with e
  injection e with e1 e2
  subst e1 e2
  exact (hc (k - 1) (by omega)).1

end Go.Proofs.YtfdfjmibjnmhpaaGreat.V

namespace Go.Proofs.YtfdfjmibjnmhpaaGreat.V
open Go.RowKit Go.Proofs.YtfdfjmibjnmhpaaGreat.B

set_option maxHeartbeats 1000000 in
theorem specVotesOk_any (A : Option Addr) (c : Nat) (vs : List (Int × Int)) (below : Int) (w : World) (hr : Rd w w.heap.size A vs) (hn : vs.length ≤ 1048576) :
    Calls Tryz.prog 72 #[.slice A vs.length c, .int .i64 below] w fun e w' => e = .returned (.bool (votesOkB vs below)) ∧ Below w.heap.size w w' := by
  obtain ⟨n, hvn⟩ : ∃ n, vs.length = n := ⟨_, rfl⟩
  rw [hvn] at hn ⊢
  have HV := Lib.hid hvn; clear hvn
  go_enter Tryz.func72, Tryz.ntmps72
  go_wp2
  go_loopw [5] (fun i wr => ∃ (k : Nat), k ≤ n ∧ i = .int .i64 k ∧ Hid (∀ j, j < k → goodAt vs below j = true) ∧ Below w.heap.size w wr) (fun i _ => n - (intOf i).toNat)
  case atStart => exact ⟨0, Nat.zero_le _, rfl, fun j hj => absurd hj (by omega), Below.refl _ _⟩
  case round =>
    obtain ⟨k, hk, rfl, hall, hbel⟩ := hrel
    by_cases hlt : k < n
    · obtain ⟨b, off, rfl, hb, hc0, hc1⟩ := Rd.at_ (hr.below hbel) (k := k) (by rw [HV.out]; omega)
      have hcp : 0 < k → wr.cell? ⟨b, off + (k - 1) * 2, none⟩ = some (.int .i64 (vs.getD (k - 1) (0, 0)).1) := fun h0 => Rd.prev (n := 0) (c := 0) (hr.below hbel) (by rw [HV.out]; omega) h0
      clear hr
      obtain ⟨⟨va, vb⟩, hv⟩ : ∃ v, vs.getD k (0, 0) = v := ⟨_, rfl⟩
      obtain ⟨⟨pa, pb⟩, hp⟩ : ∃ v, vs.getD (k - 1) (0, 0) = v := ⟨_, rfl⟩
      have hg : goodAt vs below k = (viewOkB va && valOkB vb && decide (va < below) && (decide (k = 0) || decide (pa < va))) := by unfold goodAt; rw [hv, hp]
      have hgood := Lib.hid hg; clear hg
      rw [hv] at hc0 hc1
      rw [hp] at hcp
      clear hv hp
      have C0 := fun x : Lat wr => x.cell hc0
      have C1 := fun x : Lat wr => x.cell hc1
      rcases h1 : viewOkB va with _ | _
      · have H1 := Lib.hid h1; clear h1
        go_wp2
        refine wp_region_lat (by kernel_rfl) (by kernel_rfl) ?_
        repeat (go_big_quiet_step ((go_at_call 70; exact lat_same _ (specView_is va false H1.out _))))
        refine wpQuiet_nil ?_
        rintro _ ⟨⟨w3, hb3⟩, rfl⟩
        clear C0 C1
        go_wp2
        go_ret
        refine ⟨ret_bool ?_, hbel.trans (hb3.mono hbel.size)⟩
        symm
        exact votesOk_no (k := k) (by rw [HV.out]; omega) (by rw [hgood.out]; simp [H1.out])
      have H1 := Lib.hid h1; clear h1
      rcases h2 : valOkB vb with _ | _
      · have H2 := Lib.hid h2; clear h2
        go_wp2
        refine wp_region_lat (by kernel_rfl) (by kernel_rfl) ?_
        repeat (go_big_quiet_step ((first | (go_at_call 70; exact lat_same _ (specView_is va true H1.out _)) | (go_at_call 69; exact lat_same _ (specVal_is vb false H2.out _)))))
        refine wpQuiet_nil ?_
        rintro _ ⟨⟨w3, hb3⟩, rfl⟩
        clear C0 C1
        go_wp2
        go_ret
        refine ⟨ret_bool ?_, hbel.trans (hb3.mono hbel.size)⟩
        symm
        exact votesOk_no (k := k) (by rw [HV.out]; omega) (by rw [hgood.out]; simp [H2.out])
      have H2 := Lib.hid h2; clear h2
      by_cases h3 : va < below
      · have hd3 : decide (below ≤ va) = false := by simp; omega
        by_cases h4 : 0 < k
        · have hcp := hcp h4
          obtain ⟨p, hkp⟩ : ∃ p, k = p + 1 := ⟨k - 1, by omega⟩
          have hE : (k : Int) - 1 = (p : Int) := by omega
          have hW : IntKind.i64.wrap (p : Int) = (p : Int) := IntWalk.i64_in _ (by omega)
          have hcp : wr.cell? ⟨b, off + p * 2, none⟩ = some (.int .i64 pa) := by rw [show p = k - 1 by omega]; exact hcp
          have CP := fun x : Lat wr => x.cell hcp
          have hw4 : (p : Int) < (n : Int) := by omega
          have hw5 : p < n := by omega
          have HKP := Lib.hid hkp; clear hkp
          by_cases h5 : pa < va
          · have hd5 : decide (va ≤ pa) = false := by simp; omega
            go_wp2
            refine wp_region_lat (by kernel_rfl) (by kernel_rfl) ?_
            repeat (go_big_quiet_step ((first | (go_at_call 70; exact lat_same _ (specView_is va true H1.out _)) | (go_at_call 69; exact lat_same _ (specVal_is vb true H2.out _)))))
            refine wpQuiet_nil ?_
            rintro _ ⟨⟨w3, hb3⟩, rfl⟩
            clear C0 C1
            go_wp2
            go_roundw
            case rel =>
              refine ⟨k + 1, by omega, by go_num, fun j hj => ?_, hbel.trans (hb3.mono hbel.size)⟩
              by_cases e : j = k
              · rw [e, hgood.out]; simp [H1.out, H2.out, h3, h5]
              · exact hall.out j (by omega)
            case measure => simp [intOf]; omega
          · have hd5 : decide (va ≤ pa) = true := by simp; omega
            go_wp2
            refine wp_region_lat (by kernel_rfl) (by kernel_rfl) ?_
            repeat (go_big_quiet_step ((first | (go_at_call 70; exact lat_same _ (specView_is va true H1.out _)) | (go_at_call 69; exact lat_same _ (specVal_is vb true H2.out _)))))
            refine wpQuiet_nil ?_
            rintro _ ⟨⟨w3, hb3⟩, rfl⟩
            clear C0 C1
            go_wp2
            go_ret
            refine ⟨ret_bool ?_, hbel.trans (hb3.mono hbel.size)⟩
            symm
            exact votesOk_no (k := k) (by rw [HV.out]; omega) (by rw [hgood.out]; simp [h5]; omega)
        · clear hcp
          have hd : decide ((0 : Int) < (k : Int)) = false := by simp; omega
          go_wp2
          refine wp_region_lat (by kernel_rfl) (by kernel_rfl) ?_
          repeat (go_big_quiet_step ((first | (go_at_call 70; exact lat_same _ (specView_is va true H1.out _)) | (go_at_call 69; exact lat_same _ (specVal_is vb true H2.out _)))))
          refine wpQuiet_nil ?_
          rintro _ ⟨⟨w3, hb3⟩, rfl⟩
          clear C0 C1
          go_wp2
          go_roundw
          case rel =>
            refine ⟨k + 1, by omega, by go_num, fun j hj => ?_, hbel.trans (hb3.mono hbel.size)⟩
            by_cases e : j = k
            · rw [e, hgood.out]; simp [H1.out, H2.out, h3]; omega
            · exact hall.out j (by omega)
          case measure => simp [intOf]; omega
      · have hd3 : decide (below ≤ va) = true := by simp; omega
        go_wp2
        refine wp_region_lat (by kernel_rfl) (by kernel_rfl) ?_
        repeat (go_big_quiet_step ((first | (go_at_call 70; exact lat_same _ (specView_is va true H1.out _)) | (go_at_call 69; exact lat_same _ (specVal_is vb true H2.out _)))))
        refine wpQuiet_nil ?_
        rintro _ ⟨⟨w3, hb3⟩, rfl⟩
        clear C0 C1
        go_wp2
        go_ret
        refine ⟨ret_bool ?_, hbel.trans (hb3.mono hbel.size)⟩
        symm
        exact votesOk_no (k := k) (by rw [HV.out]; omega) (by rw [hgood.out]; simp; omega)
    · go_wp2
      go_ret
      refine ⟨ret_bool ?_, hbel⟩
      symm
      exact votesOk_yes fun j hj => hall.out j (by have := HV.out; omega)
end Go.Proofs.YtfdfjmibjnmhpaaGreat.V

namespace Go.Proofs.YtfdfjmibjnmhpaaGreat.V
open Go.RowKit Go.Proofs.YtfdfjmibjnmhpaaGreat.B

theorem goodAt_vote {vs : List (Int × Int)} {below : Int} {k : Nat} {va vb pa pb : Int} (hv : vs.getD k (0, 0) = (va, vb)) (hp : vs.getD (k - 1) (0, 0) = (pa, pb)) :
    goodAt vs below k = (voteOkB va vb below && (decide (k = 0) || decide (pa < va))) := by
  unfold goodAt voteOkB
  rw [hv, hp]
  cases viewOkB va <;> cases valOkB vb <;> simp

set_option maxHeartbeats 400000 in
theorem implVotesOk_any (A : Option Addr) (c : Nat) (vs : List (Int × Int)) (below : Int) (w : World) (hr : Rd w w.heap.size A vs) (hn : vs.length ≤ 1048576) :
    Calls Tryz.prog 98 #[.slice A vs.length c, .int .i64 below] w fun e w' => e = .returned (.bool (votesOkB vs below)) ∧ Below w.heap.size w w' := by
  obtain ⟨n, hvn⟩ : ∃ n, vs.length = n := ⟨_, rfl⟩
  rw [hvn] at hn ⊢
  have HV := Lib.hid hvn; clear hvn
  go_enter Tryz.func98, Tryz.ntmps98
  go_wp2
  go_loopw [9] (fun i wr => ∃ (k : Nat), k ≤ n ∧ i = .int .i64 k ∧ Hid (∀ j, j < k → goodAt vs below j = true) ∧ Below w.heap.size w wr) (fun i _ => n - (intOf i).toNat)
  case atStart => exact ⟨0, Nat.zero_le _, rfl, fun j hj => absurd hj (by omega), Below.refl _ _⟩
  case round =>
    obtain ⟨k, hk, rfl, hall, hbel⟩ := hrel
    by_cases hlt : k < n
    · obtain ⟨b, off, rfl, hb, hc0, hc1⟩ := Rd.at_ (hr.below hbel) (k := k) (by rw [HV.out]; omega)
      have hcp : 0 < k → wr.cell? ⟨b, off + (k - 1) * 2, none⟩ = some (.int .i64 (vs.getD (k - 1) (0, 0)).1) := fun h0 => Rd.prev (n := 0) (c := 0) (hr.below hbel) (by rw [HV.out]; omega) h0
      clear hr
      obtain ⟨⟨va, vb⟩, hv⟩ : ∃ v, vs.getD k (0, 0) = v := ⟨_, rfl⟩
      obtain ⟨⟨pa, pb⟩, hp⟩ : ∃ v, vs.getD (k - 1) (0, 0) = v := ⟨_, rfl⟩
      have hgood := Lib.hid (goodAt_vote (below := below) hv hp)
      rw [hv] at hc0 hc1
      rw [hp] at hcp
      clear hv hp
      rcases h1 : voteOkB va vb below with _ | _
      · have H1 := Lib.hid h1; clear h1
        go_wp2_with fail
        have hbW := hbel.alloc hbel.size (.cells #[.int .i64 va, .int .i64 vb] 61)
        have c0 : (wr.alloc (.cells #[.int .i64 va, .int .i64 vb] 61)).cell? ⟨wr.heap.size, 0, none⟩ = some (.int .i64 va) := (Blk.new wr 61 #[.int .i64 va, .int .i64 vb]).cell 0
        have c1 : (wr.alloc (.cells #[.int .i64 va, .int .i64 vb] 61)).cell? ⟨wr.heap.size, 1, none⟩ = some (.int .i64 vb) := (Blk.new wr 61 #[.int .i64 va, .int .i64 vb]).cell 1
        clear hc0 hc1 hcp
        generalize wr.alloc (.cells #[.int .i64 va, .int .i64 vb] 61) = W0 at *
        have C0 := fun x : Lat W0 => x.cell c0
        have C1 := fun x : Lat W0 => x.cell c1
        refine wp_region_lat (by kernel_rfl) (by kernel_rfl) ?_
        repeat (go_big_quiet_step ((go_at_call 111; exact lat_call _ (voteOk_is va vb below false H1.out _))))
        refine wpQuiet_nil ?_
        rintro _ ⟨⟨w3, hb3⟩, rfl⟩
        clear C0 C1 c0 c1
        go_wp2
        go_ret
        refine ⟨ret_bool ?_, hbW.trans (hb3.mono hbW.size)⟩
        symm
        exact votesOk_no (k := k) (by rw [HV.out]; omega) (by rw [hgood.out]; simp [H1.out])
      have H1 := Lib.hid h1; clear h1
      by_cases h4 : 0 < k
      · have hcq := hcp h4
        clear hcp
        obtain ⟨p, hkp⟩ : ∃ p, k = p + 1 := ⟨k - 1, by omega⟩
        have hE : (k : Int) - 1 = (p : Int) := by omega
        have hW : IntKind.i64.wrap (p : Int) = (p : Int) := IntWalk.i64_in _ (by omega)
        rw [show k - 1 = p by omega] at hcq
        have hw4 : (p : Int) < (n : Int) := by omega
        have hw5 : p < n := by omega
        have hw6 : (0 : Int) < (k : Int) := by omega
        have HKP := Lib.hid hkp; clear hkp
        have cp : (wr.alloc (.cells #[.int .i64 va, .int .i64 vb] 61)).cell? ⟨b, off + p * 2, none⟩ = some (.int .i64 pa) := (World.cell?_alloc_lt wr _ _ (World.block_lt_of_cell? wr _ hcq)).trans hcq
        go_wp2_with fail
        have hbW := hbel.alloc hbel.size (.cells #[.int .i64 va, .int .i64 vb] 61)
        have c0 : (wr.alloc (.cells #[.int .i64 va, .int .i64 vb] 61)).cell? ⟨wr.heap.size, 0, none⟩ = some (.int .i64 va) := (Blk.new wr 61 #[.int .i64 va, .int .i64 vb]).cell 0
        have c1 : (wr.alloc (.cells #[.int .i64 va, .int .i64 vb] 61)).cell? ⟨wr.heap.size, 1, none⟩ = some (.int .i64 vb) := (Blk.new wr 61 #[.int .i64 va, .int .i64 vb]).cell 1
        clear hc0 hc1 hcq
        generalize wr.alloc (.cells #[.int .i64 va, .int .i64 vb] 61) = W0 at *
        have C0 := fun x : Lat W0 => x.cell c0
        have C1 := fun x : Lat W0 => x.cell c1
        have CP := fun x : Lat W0 => x.cell cp
        by_cases h5 : pa < va
        · refine wp_region_lat (by kernel_rfl) (by kernel_rfl) ?_
          repeat (go_big_quiet_step ((go_at_call 111; exact lat_call _ (voteOk_is va vb below true H1.out _))))
          refine wpQuiet_nil ?_
          rintro _ ⟨⟨w3, hb3⟩, rfl⟩
          clear C0 C1 c0 c1 CP cp
          go_wp2
          go_roundw
          case rel =>
            refine ⟨k + 1, by omega, by go_num, fun j hj => ?_, hbW.trans (hb3.mono hbW.size)⟩
            by_cases e : j = k
            · rw [e, hgood.out]; simp [H1.out, h5]
            · exact hall.out j (by omega)
          case measure => simp [intOf]; omega
        · have h6 : va ≤ pa := by omega
          refine wp_region_lat (by kernel_rfl) (by kernel_rfl) ?_
          repeat (go_big_quiet_step ((go_at_call 111; exact lat_call _ (voteOk_is va vb below true H1.out _))))
          refine wpQuiet_nil ?_
          rintro _ ⟨⟨w3, hb3⟩, rfl⟩
          clear C0 C1 c0 c1 CP cp
          go_wp2
          go_ret
          refine ⟨ret_bool ?_, hbW.trans (hb3.mono hbW.size)⟩
          symm
          exact votesOk_no (k := k) (by rw [HV.out]; omega) (by rw [hgood.out]; simp [H1.out, h5]; omega)
      · have hd : decide ((0 : Int) < (k : Int)) = false := by simp; omega
        go_wp2_with fail
        have hbW := hbel.alloc hbel.size (.cells #[.int .i64 va, .int .i64 vb] 61)
        have c0 : (wr.alloc (.cells #[.int .i64 va, .int .i64 vb] 61)).cell? ⟨wr.heap.size, 0, none⟩ = some (.int .i64 va) := (Blk.new wr 61 #[.int .i64 va, .int .i64 vb]).cell 0
        have c1 : (wr.alloc (.cells #[.int .i64 va, .int .i64 vb] 61)).cell? ⟨wr.heap.size, 1, none⟩ = some (.int .i64 vb) := (Blk.new wr 61 #[.int .i64 va, .int .i64 vb]).cell 1
        clear hc0 hc1 hcp
        generalize wr.alloc (.cells #[.int .i64 va, .int .i64 vb] 61) = W0 at *
        have C0 := fun x : Lat W0 => x.cell c0
        have C1 := fun x : Lat W0 => x.cell c1
        refine wp_region_lat (by kernel_rfl) (by kernel_rfl) ?_
        repeat (go_big_quiet_step ((go_at_call 111; exact lat_call _ (voteOk_is va vb below true H1.out _))))
        refine wpQuiet_nil ?_
        rintro _ ⟨⟨w3, hb3⟩, rfl⟩
        clear C0 C1 c0 c1
        go_wp2
        go_roundw
        case rel =>
          refine ⟨k + 1, by omega, by go_num, fun j hj => ?_, hbW.trans (hb3.mono hbW.size)⟩
          by_cases e : j = k
          · rw [e, hgood.out]; simp [H1.out]; omega
          · exact hall.out j (by omega)
        case measure => simp [intOf]; omega
    · go_wp2
      go_ret
      refine ⟨ret_bool ?_, hbel⟩
      symm
      exact votesOk_yes fun j hj => hall.out j (by have := HV.out; omega)
end Go.Proofs.YtfdfjmibjnmhpaaGreat.V
