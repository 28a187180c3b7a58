/-
  A replica's state as data and in memory, and what the helpers of the laws count of it, copy and compare. No statement is proved here.
-/
import Derived.Test.YtfdfjmibjnmhpaaHd2
import Derived.Test.YtfdfjmibjnmhpaaBal2
set_option linter.unusedVariables false
set_option maxRecDepth 100000
namespace Go.Proofs.Ytfdfjmibjnmhpaa.B
open Go.RowKit

/-- A replica's state, and where its parts lie. -/
structure Rq where
  n : Int
  id : Int
  own : Int
  view : Int
  left : Int
  voted : List (Int × Int)
  lv : Int
  lx : Int
  dn : Int
  pr : List B3
  vo : List B3
  re : List B3
  ds : List B3
  hs : List Hp
  Av : Option Addr
  Ap : Option Addr
  Ao : Option Addr
  Ar : Option Addr
  Ad : Option Addr
  Ah : Option Addr
  cv : Nat
  cp : Nat
  co : Nat
  cr : Nat
  cd : Nat
  ch : Nat
/-- The data alone. -/
structure Rd4 where
  n : Int
  id : Int
  own : Int
  view : Int
  left : Int
  voted : List (Int × Int)
  lv : Int
  lx : Int
  dn : Int
  pr : List B3
  vo : List B3
  re : List B3
  ds : List B3
  hs : List (Int × List Rp)
def Rq.dat (q : Rq) : Rd4 := ⟨q.n, q.id, q.own, q.view, q.left, q.voted, q.lv, q.lx, q.dn, q.pr, q.vo, q.re, q.ds, hl q.hs⟩
def Rq.cells (q : Rq) : Array Value := #[.int .i64 q.n, .int .i64 q.id, .int .i64 q.own, .int .i64 q.view, .int .i64 q.left, .slice q.Av q.voted.length q.cv, .int .i64 q.lv, .int .i64 q.lx, .int .i64 q.dn, .slice q.Ap q.pr.length q.cp, .slice q.Ao q.vo.length q.co, .slice q.Ar q.re.length q.cr, .slice q.Ad q.ds.length q.cd, .slice q.Ah q.hs.length q.ch]
def Rq.agg (q : Rq) : Value := .agg q.cells
/-- The parts read, below block Bd. -/
structure RdQ (w : World) (Bd : Nat) (q : Rq) : Prop where
  v : Rd w Bd q.Av q.voted
  p : Rd3 w Bd q.Ap q.pr
  o : Rd3 w Bd q.Ao q.vo
  r : Rd3 w Bd q.Ar q.re
  d : Rd3 w Bd q.Ad q.ds
  h : RdH w Bd q.Ah q.hs
section
variable {w w' : World} {Bd Bd' : Nat} {q : Rq}
theorem RdQ.keep (h : RdQ w Bd q) (hk : ∀ b o, b < Bd → w'.cell? ⟨b, o, none⟩ = w.cell? ⟨b, o, none⟩) : RdQ w' Bd q := ⟨h.v.keep hk, h.p.keep hk, h.o.keep hk, h.r.keep hk, h.d.keep hk, h.h.keep hk⟩
theorem RdQ.more (h : RdQ w Bd q) (hB : Bd ≤ Bd') : RdQ w Bd' q := ⟨h.v.more hB, h.p.more hB, h.o.more hB, h.r.more hB, h.d.more hB, h.h.more hB⟩
theorem RdQ.below (h : RdQ w Bd q) (hb : Below Bd w w') : RdQ w' Bd q := h.keep fun _ _ hp => hb.cell hp
theorem RdQ.alloc (h : RdQ w Bd q) (hB : Bd ≤ w.heap.size) (o : Obj) : RdQ (w.alloc o) Bd q := h.keep fun b o' hp => World.cell?_alloc_lt w o ⟨b, o', none⟩ (by simpa using (show b < w.heap.size by omega))
theorem RdQ.on (h : RdQ w w.heap.size q) (hb : Below w.heap.size w w') : RdQ w' w'.heap.size q := (h.below hb).more hb.size
theorem RdQ.up (h : RdQ w w.heap.size q) (O : Obj) : RdQ (w.alloc O) (w.alloc O).heap.size q := (h.alloc (Nat.le_refl _) O).more (by simp)
end
theorem PC3.own {w : World} {t : TypeId} {g lo : Nat} {cs : Array Value} {vs : List B3} (h : PC3 cs vs vs.length) (hb : Blk w g t cs) (hl : lo ≤ g) : OwnL 3 w lo (some ⟨g, 0, none⟩) vs.length := fun _ =>
  ⟨t, g, cs, rfl, hl, hb, by rw [h.1]; omega, fun i hi => by
    have := h.2 (i / 3) (by omega)
    rcases (by omega : i = i / 3 * 3 ∨ i = i / 3 * 3 + 1 ∨ i = i / 3 * 3 + 2) with e | e | e <;> rw [e]
    · exact ⟨_, this.1⟩
    · exact ⟨_, this.2.1⟩
    · exact ⟨_, this.2.2⟩⟩
/-- A state's rows are its own, from lo on. -/
structure OwnQ (w : World) (lo : Nat) (q : Rq) : Prop where
  v : OwnL 2 w lo q.Av q.voted.length
  p : OwnL 3 w lo q.Ap q.pr.length
  o : OwnL 3 w lo q.Ao q.vo.length
  r : OwnL 3 w lo q.Ar q.re.length
  d : OwnL 3 w lo q.Ad q.ds.length
  h : OwnH w lo q.Ah q.hs
theorem OwnQ.keep {w w' : World} {lo : Nat} {q : Rq} (h : OwnQ w lo q) (hk : ∀ g, lo ≤ g → g < w.heap.size → w'.heap[g]? = w.heap[g]?) : OwnQ w' lo q := ⟨h.v.keep hk, h.p.keep hk, h.o.keep hk, h.r.keep hk, h.d.keep hk, h.h.keep hk⟩
theorem OwnQ.low {w : World} {lo lo' : Nat} {q : Rq} (h : OwnQ w lo q) (hl : lo' ≤ lo) : OwnQ w lo' q := ⟨h.v.low hl, h.p.low hl, h.o.low hl, h.r.low hl, h.d.low hl, h.h.low hl⟩
end Go.Proofs.Ytfdfjmibjnmhpaa.B

namespace Go.Proofs.Ytfdfjmibjnmhpaa.V
open Go.RowKit Go.Proofs.Ytfdfjmibjnmhpaa.B
/-- How much it holds. -/
def tot (q : Rq) : Nat := q.voted.length + q.pr.length + q.vo.length + q.re.length + q.ds.length + (q.hs.length + th q.hs q.hs.length)
structure LensQ (q : Rq) : Prop where
  v : q.voted.length ≤ maxLen
  p : q.pr.length ≤ maxLen
  o : q.vo.length ≤ maxLen
  r : q.re.length ≤ maxLen
  d : q.ds.length ≤ maxLen
  h : Lens q.hs
structure FewQ (q : Rq) : Prop where
  v : q.voted.length ≤ 1048576
  p : q.pr.length ≤ 1048576
  o : q.vo.length ≤ 1048576
  r : q.re.length ≤ 1048576
  d : q.ds.length ≤ 1048576
  h : FewH q.hs
theorem fewQ_of {q : Rq} (h : tot q ≤ 1048576) : FewQ q := by
  unfold tot at h
  exact ⟨by omega, by omega, by omega, by omega, by omega, fewH_of (by omega)⟩
theorem FewQ.same {q p : Rq} (h : FewQ q) (e : p.dat = q.dat) : FewQ p := by
  simp only [Rq.dat, Rd4.mk.injEq] at e
  obtain ⟨-, -, -, -, -, e1, -, -, -, e2, e3, e4, e5, e6⟩ := e
  exact ⟨by rw [e1]; exact h.v, by rw [e2]; exact h.p, by rw [e3]; exact h.o, by rw [e4]; exact h.r, by rw [e5]; exact h.d, (h.h.same e6).1⟩

set_option maxHeartbeats 1600000 in
theorem szRep_any (q : Rq) (left : Int) (w : World) (hr : RdH w w.heap.size q.Ah q.hs) (hL : LensQ q) (h0 : 0 ≤ left) (h1 : left ≤ 1048576) :
    Calls Try.prog 8 #[q.agg, .int .i64 left] w fun e w' => e = .returned (.int .i64 (if left < (tot q : Int) then -1 else left - tot q)) ∧ Below w.heap.size w w' := by
  obtain ⟨T, hT⟩ : ∃ T, tot q = T := ⟨_, rfl⟩
  rw [hT]
  obtain ⟨z, hz⟩ : ∃ z : Int, (if left < (T : Int) then -1 else left - T) = z := ⟨_, rfl⟩
  rw [hz]
  have HZ := Lib.hid hz; clear hz
  obtain ⟨n, id, own, view, left_, voted, lv, lx, dn, pr, vo, re, ds, hs, Av, Ap, Ao, Ar, Ad, Ah, cv, cp, co, cr, cd, ch⟩ := q
  obtain ⟨lv0, lp0, lo0, lr0, ld0, lh0⟩ := hL
  simp only [Rq.agg, Rq.cells, tot] at *
  have H5 := Lib.hid (fun (W : World) (y : Int) (g : RdH W W.heap.size Ah hs) (g0 : 0 ≤ y) (g1 : y ≤ 1048576) => szHeardS_any Ah ch hs y W g lh0 g0 g1)
  obtain ⟨la, hla⟩ : ∃ m, voted.length = m := ⟨_, rfl⟩
  rw [hla] at lv0 hT ⊢
  clear hla
  obtain ⟨lb, hlb⟩ : ∃ m, pr.length = m := ⟨_, rfl⟩
  rw [hlb] at lp0 hT ⊢
  clear hlb
  obtain ⟨lc, hlc⟩ : ∃ m, vo.length = m := ⟨_, rfl⟩
  rw [hlc] at lo0 hT ⊢
  clear hlc
  obtain ⟨ld, hld⟩ : ∃ m, re.length = m := ⟨_, rfl⟩
  rw [hld] at lr0 hT ⊢
  clear hld
  obtain ⟨le, hle⟩ : ∃ m, ds.length = m := ⟨_, rfl⟩
  rw [hle] at ld0 hT ⊢
  clear hle
  obtain ⟨lf, hlf⟩ : ∃ m, hs.length = m := ⟨_, rfl⟩
  rw [hlf] at H5 hT ⊢
  obtain ⟨lg, hlg⟩ : ∃ m, th hs lf = m := ⟨_, rfl⟩
  rw [hlg] at H5 hT
  clear hlf hlg lh0
  have HT := Lib.hid hT; clear hT
  have HR := Lib.hid hr; clear hr
  obtain ⟨y1, hy1⟩ : ∃ z : Int, left - la = z := ⟨_, rfl⟩
  obtain ⟨y2, hy2⟩ : ∃ z : Int, y1 - lb = z := ⟨_, rfl⟩
  obtain ⟨y3, hy3⟩ : ∃ z : Int, y2 - lc = z := ⟨_, rfl⟩
  obtain ⟨y4, hy4⟩ : ∃ z : Int, y3 - ld = z := ⟨_, rfl⟩
  obtain ⟨y5, hy5⟩ : ∃ z : Int, y4 - le = z := ⟨_, rfl⟩
  unfold maxLen at lv0 lp0 lo0 lr0 ld0
  by_cases k0 : left < (la : Int)
  · have hc0 := fun W => sz_any Av la cv left W (by unfold maxLen; omega) h0 h1
    simp only [if_pos k0] at hc0
    have C0 := Lib.hid hc0; clear hc0
    go_enter Try.func8, Try.ntmps8
    have ka := Blk.new w 30 #[.int .i64 n, .int .i64 id, .int .i64 own, .int .i64 view, .int .i64 left_, .slice Av la cv, .int .i64 lv, .int .i64 lx, .int .i64 dn, .slice Ap lb cp, .slice Ao lc co, .slice Ar ld cr, .slice Ad le cd, .slice Ah lf ch]
    have hB := up_ (Below.refl w.heap.size w) (.cells #[.int .i64 n, .int .i64 id, .int .i64 own, .int .i64 view, .int .i64 left_, .slice Av la cv, .int .i64 lv, .int .i64 lx, .int .i64 dn, .slice Ap lb cp, .slice Ao lc co, .slice Ar ld cr, .slice Ad le cd, .slice Ah lf ch] 30)
    have hr := HR.out.up (.cells #[.int .i64 n, .int .i64 id, .int .i64 own, .int .i64 view, .int .i64 left_, .slice Av la cv, .int .i64 lv, .int .i64 lx, .int .i64 dn, .slice Ap lb cp, .slice Ao lc co, .slice Ar ld cr, .slice Ad le cd, .slice Ah lf ch] 30)
    have HB := Lib.hid hB; have HH := Lib.hid hr; clear hB hr HR
    have ra := ka.rule
    go_wp2_with fail
    refine (C0.out _).mono ?_
    rintro e v0 ⟨rfl, rfl⟩
    go_wp2
    go_ret
    exact ⟨ret_int2 (by rw [← HZ.out, if_pos (by have := HT.out; omega)]), HB.out⟩
  · skip
    by_cases k1 : y1 < (lb : Int)
    · have hc0 := fun W => sz_any Av la cv left W (by unfold maxLen; omega) h0 h1
      simp only [if_neg (show ¬ left < (la : Int) by omega), hy1] at hc0
      have C0 := Lib.hid hc0; clear hc0
      have hc1 := fun W => szTally_big Ap lb cp y1 W (by unfold maxLen; omega) (by omega) (by omega) k1
      have C1 := Lib.hid hc1; clear hc1
      have n1 : ¬ y1 < 0 := by omega
      go_enter Try.func8, Try.ntmps8
      have ka := Blk.new w 30 #[.int .i64 n, .int .i64 id, .int .i64 own, .int .i64 view, .int .i64 left_, .slice Av la cv, .int .i64 lv, .int .i64 lx, .int .i64 dn, .slice Ap lb cp, .slice Ao lc co, .slice Ar ld cr, .slice Ad le cd, .slice Ah lf ch]
      have hB := up_ (Below.refl w.heap.size w) (.cells #[.int .i64 n, .int .i64 id, .int .i64 own, .int .i64 view, .int .i64 left_, .slice Av la cv, .int .i64 lv, .int .i64 lx, .int .i64 dn, .slice Ap lb cp, .slice Ao lc co, .slice Ar ld cr, .slice Ad le cd, .slice Ah lf ch] 30)
      have hr := HR.out.up (.cells #[.int .i64 n, .int .i64 id, .int .i64 own, .int .i64 view, .int .i64 left_, .slice Av la cv, .int .i64 lv, .int .i64 lx, .int .i64 dn, .slice Ap lb cp, .slice Ao lc co, .slice Ar ld cr, .slice Ad le cd, .slice Ah lf ch] 30)
      have HB := Lib.hid hB; have HH := Lib.hid hr; clear hB hr HR
      have ra := ka.rule
      go_wp2_with fail
      refine (C0.out _).mono ?_
      rintro e v0 ⟨rfl, rfl⟩
      go_wp2_with fail
      refine (C1.out _).mono ?_
      rintro e v1 ⟨rfl, hb⟩
      have kb := ka.on hb; have HB2 := Lib.hid (on_ HB.out hb); have HH2 := Lib.hid (HH.out.on hb); clear hb HB HH ra ka
      have ka := kb; have HB := HB2; have HH := HH2; clear kb HB2 HH2; have ra := ka.rule
      go_wp2
      go_ret
      exact ⟨ret_int2 (by rw [← HZ.out, if_pos (by have := HT.out; omega)]), HB.out⟩
    · skip
      by_cases k2 : y2 < (lc : Int)
      · have hc0 := fun W => sz_any Av la cv left W (by unfold maxLen; omega) h0 h1
        simp only [if_neg (show ¬ left < (la : Int) by omega), hy1] at hc0
        have C0 := Lib.hid hc0; clear hc0
        have hc1 := fun W => szTally_small Ap lb cp y1 W (by unfold maxLen; omega) (by omega) (by omega) (by omega)
        simp only [hy2] at hc1
        have C1 := Lib.hid hc1; clear hc1
        have hc2 := fun W => szTally_big Ao lc co y2 W (by unfold maxLen; omega) (by omega) (by omega) k2
        have C2 := Lib.hid hc2; clear hc2
        have n1 : ¬ y1 < 0 := by omega
        have n2 : ¬ y2 < 0 := by omega
        go_enter Try.func8, Try.ntmps8
        have ka := Blk.new w 30 #[.int .i64 n, .int .i64 id, .int .i64 own, .int .i64 view, .int .i64 left_, .slice Av la cv, .int .i64 lv, .int .i64 lx, .int .i64 dn, .slice Ap lb cp, .slice Ao lc co, .slice Ar ld cr, .slice Ad le cd, .slice Ah lf ch]
        have hB := up_ (Below.refl w.heap.size w) (.cells #[.int .i64 n, .int .i64 id, .int .i64 own, .int .i64 view, .int .i64 left_, .slice Av la cv, .int .i64 lv, .int .i64 lx, .int .i64 dn, .slice Ap lb cp, .slice Ao lc co, .slice Ar ld cr, .slice Ad le cd, .slice Ah lf ch] 30)
        have hr := HR.out.up (.cells #[.int .i64 n, .int .i64 id, .int .i64 own, .int .i64 view, .int .i64 left_, .slice Av la cv, .int .i64 lv, .int .i64 lx, .int .i64 dn, .slice Ap lb cp, .slice Ao lc co, .slice Ar ld cr, .slice Ad le cd, .slice Ah lf ch] 30)
        have HB := Lib.hid hB; have HH := Lib.hid hr; clear hB hr HR
        have ra := ka.rule
        go_wp2_with fail
        refine (C0.out _).mono ?_
        rintro e v0 ⟨rfl, rfl⟩
        go_wp2_with fail
        refine (C1.out _).mono ?_
        rintro e v1 ⟨rfl, hb⟩
        have kb := ka.on hb; have HB2 := Lib.hid (on_ HB.out hb); have HH2 := Lib.hid (HH.out.on hb); clear hb HB HH ra ka
        have ka := kb; have HB := HB2; have HH := HH2; clear kb HB2 HH2; have ra := ka.rule
        go_wp2_with fail
        refine (C2.out _).mono ?_
        rintro e v2 ⟨rfl, hb⟩
        have kb := ka.on hb; have HB2 := Lib.hid (on_ HB.out hb); have HH2 := Lib.hid (HH.out.on hb); clear hb HB HH ra ka
        have ka := kb; have HB := HB2; have HH := HH2; clear kb HB2 HH2; have ra := ka.rule
        go_wp2
        go_ret
        exact ⟨ret_int2 (by rw [← HZ.out, if_pos (by have := HT.out; omega)]), HB.out⟩
      · skip
        by_cases k3 : y3 < (ld : Int)
        · have hc0 := fun W => sz_any Av la cv left W (by unfold maxLen; omega) h0 h1
          simp only [if_neg (show ¬ left < (la : Int) by omega), hy1] at hc0
          have C0 := Lib.hid hc0; clear hc0
          have hc1 := fun W => szTally_small Ap lb cp y1 W (by unfold maxLen; omega) (by omega) (by omega) (by omega)
          simp only [hy2] at hc1
          have C1 := Lib.hid hc1; clear hc1
          have hc2 := fun W => szTally_small Ao lc co y2 W (by unfold maxLen; omega) (by omega) (by omega) (by omega)
          simp only [hy3] at hc2
          have C2 := Lib.hid hc2; clear hc2
          have hc3 := fun W => szTally_big Ar ld cr y3 W (by unfold maxLen; omega) (by omega) (by omega) k3
          have C3 := Lib.hid hc3; clear hc3
          have n1 : ¬ y1 < 0 := by omega
          have n2 : ¬ y2 < 0 := by omega
          have n3 : ¬ y3 < 0 := by omega
          go_enter Try.func8, Try.ntmps8
          have ka := Blk.new w 30 #[.int .i64 n, .int .i64 id, .int .i64 own, .int .i64 view, .int .i64 left_, .slice Av la cv, .int .i64 lv, .int .i64 lx, .int .i64 dn, .slice Ap lb cp, .slice Ao lc co, .slice Ar ld cr, .slice Ad le cd, .slice Ah lf ch]
          have hB := up_ (Below.refl w.heap.size w) (.cells #[.int .i64 n, .int .i64 id, .int .i64 own, .int .i64 view, .int .i64 left_, .slice Av la cv, .int .i64 lv, .int .i64 lx, .int .i64 dn, .slice Ap lb cp, .slice Ao lc co, .slice Ar ld cr, .slice Ad le cd, .slice Ah lf ch] 30)
          have hr := HR.out.up (.cells #[.int .i64 n, .int .i64 id, .int .i64 own, .int .i64 view, .int .i64 left_, .slice Av la cv, .int .i64 lv, .int .i64 lx, .int .i64 dn, .slice Ap lb cp, .slice Ao lc co, .slice Ar ld cr, .slice Ad le cd, .slice Ah lf ch] 30)
          have HB := Lib.hid hB; have HH := Lib.hid hr; clear hB hr HR
          have ra := ka.rule
          go_wp2_with fail
          refine (C0.out _).mono ?_
          rintro e v0 ⟨rfl, rfl⟩
          go_wp2_with fail
          refine (C1.out _).mono ?_
          rintro e v1 ⟨rfl, hb⟩
          have kb := ka.on hb; have HB2 := Lib.hid (on_ HB.out hb); have HH2 := Lib.hid (HH.out.on hb); clear hb HB HH ra ka
          have ka := kb; have HB := HB2; have HH := HH2; clear kb HB2 HH2; have ra := ka.rule
          go_wp2_with fail
          refine (C2.out _).mono ?_
          rintro e v2 ⟨rfl, hb⟩
          have kb := ka.on hb; have HB2 := Lib.hid (on_ HB.out hb); have HH2 := Lib.hid (HH.out.on hb); clear hb HB HH ra ka
          have ka := kb; have HB := HB2; have HH := HH2; clear kb HB2 HH2; have ra := ka.rule
          go_wp2_with fail
          refine (C3.out _).mono ?_
          rintro e v3 ⟨rfl, hb⟩
          have kb := ka.on hb; have HB2 := Lib.hid (on_ HB.out hb); have HH2 := Lib.hid (HH.out.on hb); clear hb HB HH ra ka
          have ka := kb; have HB := HB2; have HH := HH2; clear kb HB2 HH2; have ra := ka.rule
          go_wp2
          go_ret
          exact ⟨ret_int2 (by rw [← HZ.out, if_pos (by have := HT.out; omega)]), HB.out⟩
        · skip
          by_cases k4 : y4 < (le : Int)
          · have hc0 := fun W => sz_any Av la cv left W (by unfold maxLen; omega) h0 h1
            simp only [if_neg (show ¬ left < (la : Int) by omega), hy1] at hc0
            have C0 := Lib.hid hc0; clear hc0
            have hc1 := fun W => szTally_small Ap lb cp y1 W (by unfold maxLen; omega) (by omega) (by omega) (by omega)
            simp only [hy2] at hc1
            have C1 := Lib.hid hc1; clear hc1
            have hc2 := fun W => szTally_small Ao lc co y2 W (by unfold maxLen; omega) (by omega) (by omega) (by omega)
            simp only [hy3] at hc2
            have C2 := Lib.hid hc2; clear hc2
            have hc3 := fun W => szTally_small Ar ld cr y3 W (by unfold maxLen; omega) (by omega) (by omega) (by omega)
            simp only [hy4] at hc3
            have C3 := Lib.hid hc3; clear hc3
            have hc4 := fun W => szTally_big Ad le cd y4 W (by unfold maxLen; omega) (by omega) (by omega) k4
            have C4 := Lib.hid hc4; clear hc4
            have n1 : ¬ y1 < 0 := by omega
            have n2 : ¬ y2 < 0 := by omega
            have n3 : ¬ y3 < 0 := by omega
            have n4 : ¬ y4 < 0 := by omega
            go_enter Try.func8, Try.ntmps8
            have ka := Blk.new w 30 #[.int .i64 n, .int .i64 id, .int .i64 own, .int .i64 view, .int .i64 left_, .slice Av la cv, .int .i64 lv, .int .i64 lx, .int .i64 dn, .slice Ap lb cp, .slice Ao lc co, .slice Ar ld cr, .slice Ad le cd, .slice Ah lf ch]
            have hB := up_ (Below.refl w.heap.size w) (.cells #[.int .i64 n, .int .i64 id, .int .i64 own, .int .i64 view, .int .i64 left_, .slice Av la cv, .int .i64 lv, .int .i64 lx, .int .i64 dn, .slice Ap lb cp, .slice Ao lc co, .slice Ar ld cr, .slice Ad le cd, .slice Ah lf ch] 30)
            have hr := HR.out.up (.cells #[.int .i64 n, .int .i64 id, .int .i64 own, .int .i64 view, .int .i64 left_, .slice Av la cv, .int .i64 lv, .int .i64 lx, .int .i64 dn, .slice Ap lb cp, .slice Ao lc co, .slice Ar ld cr, .slice Ad le cd, .slice Ah lf ch] 30)
            have HB := Lib.hid hB; have HH := Lib.hid hr; clear hB hr HR
            have ra := ka.rule
            go_wp2_with fail
            refine (C0.out _).mono ?_
            rintro e v0 ⟨rfl, rfl⟩
            go_wp2_with fail
            refine (C1.out _).mono ?_
            rintro e v1 ⟨rfl, hb⟩
            have kb := ka.on hb; have HB2 := Lib.hid (on_ HB.out hb); have HH2 := Lib.hid (HH.out.on hb); clear hb HB HH ra ka
            have ka := kb; have HB := HB2; have HH := HH2; clear kb HB2 HH2; have ra := ka.rule
            go_wp2_with fail
            refine (C2.out _).mono ?_
            rintro e v2 ⟨rfl, hb⟩
            have kb := ka.on hb; have HB2 := Lib.hid (on_ HB.out hb); have HH2 := Lib.hid (HH.out.on hb); clear hb HB HH ra ka
            have ka := kb; have HB := HB2; have HH := HH2; clear kb HB2 HH2; have ra := ka.rule
            go_wp2_with fail
            refine (C3.out _).mono ?_
            rintro e v3 ⟨rfl, hb⟩
            have kb := ka.on hb; have HB2 := Lib.hid (on_ HB.out hb); have HH2 := Lib.hid (HH.out.on hb); clear hb HB HH ra ka
            have ka := kb; have HB := HB2; have HH := HH2; clear kb HB2 HH2; have ra := ka.rule
            go_wp2_with fail
            refine (C4.out _).mono ?_
            rintro e v4 ⟨rfl, hb⟩
            have kb := ka.on hb; have HB2 := Lib.hid (on_ HB.out hb); have HH2 := Lib.hid (HH.out.on hb); clear hb HB HH ra ka
            have ka := kb; have HB := HB2; have HH := HH2; clear kb HB2 HH2; have ra := ka.rule
            go_wp2
            go_ret
            exact ⟨ret_int2 (by rw [← HZ.out, if_pos (by have := HT.out; omega)]), HB.out⟩
          · skip
            by_cases k5 : y5 < (lf : Int) + (lg : Int)
            · have hc0 := fun W => sz_any Av la cv left W (by unfold maxLen; omega) h0 h1
              simp only [if_neg (show ¬ left < (la : Int) by omega), hy1] at hc0
              have C0 := Lib.hid hc0; clear hc0
              have hc1 := fun W => szTally_small Ap lb cp y1 W (by unfold maxLen; omega) (by omega) (by omega) (by omega)
              simp only [hy2] at hc1
              have C1 := Lib.hid hc1; clear hc1
              have hc2 := fun W => szTally_small Ao lc co y2 W (by unfold maxLen; omega) (by omega) (by omega) (by omega)
              simp only [hy3] at hc2
              have C2 := Lib.hid hc2; clear hc2
              have hc3 := fun W => szTally_small Ar ld cr y3 W (by unfold maxLen; omega) (by omega) (by omega) (by omega)
              simp only [hy4] at hc3
              have C3 := Lib.hid hc3; clear hc3
              have hc4 := fun W => szTally_small Ad le cd y4 W (by unfold maxLen; omega) (by omega) (by omega) (by omega)
              simp only [hy5] at hc4
              have C4 := Lib.hid hc4; clear hc4
              have hc5 := fun (W : World) (g : RdH W W.heap.size Ah hs) => H5.out W y5 g (by omega) (by omega)
              simp only [if_pos k5] at hc5
              have C5 := Lib.hid hc5; clear hc5
              have n1 : ¬ y1 < 0 := by omega
              have n2 : ¬ y2 < 0 := by omega
              have n3 : ¬ y3 < 0 := by omega
              have n4 : ¬ y4 < 0 := by omega
              have n5 : ¬ y5 < 0 := by omega
              go_enter Try.func8, Try.ntmps8
              have ka := Blk.new w 30 #[.int .i64 n, .int .i64 id, .int .i64 own, .int .i64 view, .int .i64 left_, .slice Av la cv, .int .i64 lv, .int .i64 lx, .int .i64 dn, .slice Ap lb cp, .slice Ao lc co, .slice Ar ld cr, .slice Ad le cd, .slice Ah lf ch]
              have hB := up_ (Below.refl w.heap.size w) (.cells #[.int .i64 n, .int .i64 id, .int .i64 own, .int .i64 view, .int .i64 left_, .slice Av la cv, .int .i64 lv, .int .i64 lx, .int .i64 dn, .slice Ap lb cp, .slice Ao lc co, .slice Ar ld cr, .slice Ad le cd, .slice Ah lf ch] 30)
              have hr := HR.out.up (.cells #[.int .i64 n, .int .i64 id, .int .i64 own, .int .i64 view, .int .i64 left_, .slice Av la cv, .int .i64 lv, .int .i64 lx, .int .i64 dn, .slice Ap lb cp, .slice Ao lc co, .slice Ar ld cr, .slice Ad le cd, .slice Ah lf ch] 30)
              have HB := Lib.hid hB; have HH := Lib.hid hr; clear hB hr HR
              have ra := ka.rule
              go_wp2_with fail
              refine (C0.out _).mono ?_
              rintro e v0 ⟨rfl, rfl⟩
              go_wp2_with fail
              refine (C1.out _).mono ?_
              rintro e v1 ⟨rfl, hb⟩
              have kb := ka.on hb; have HB2 := Lib.hid (on_ HB.out hb); have HH2 := Lib.hid (HH.out.on hb); clear hb HB HH ra ka
              have ka := kb; have HB := HB2; have HH := HH2; clear kb HB2 HH2; have ra := ka.rule
              go_wp2_with fail
              refine (C2.out _).mono ?_
              rintro e v2 ⟨rfl, hb⟩
              have kb := ka.on hb; have HB2 := Lib.hid (on_ HB.out hb); have HH2 := Lib.hid (HH.out.on hb); clear hb HB HH ra ka
              have ka := kb; have HB := HB2; have HH := HH2; clear kb HB2 HH2; have ra := ka.rule
              go_wp2_with fail
              refine (C3.out _).mono ?_
              rintro e v3 ⟨rfl, hb⟩
              have kb := ka.on hb; have HB2 := Lib.hid (on_ HB.out hb); have HH2 := Lib.hid (HH.out.on hb); clear hb HB HH ra ka
              have ka := kb; have HB := HB2; have HH := HH2; clear kb HB2 HH2; have ra := ka.rule
              go_wp2_with fail
              refine (C4.out _).mono ?_
              rintro e v4 ⟨rfl, hb⟩
              have kb := ka.on hb; have HB2 := Lib.hid (on_ HB.out hb); have HH2 := Lib.hid (HH.out.on hb); clear hb HB HH ra ka
              have ka := kb; have HB := HB2; have HH := HH2; clear kb HB2 HH2; have ra := ka.rule
              go_wp2_with fail
              refine (C5.out _ HH.out).mono ?_
              rintro e v5 ⟨rfl, hb⟩
              have kb := ka.on hb; have HB2 := Lib.hid (on_ HB.out hb); have HH2 := Lib.hid (HH.out.on hb); clear hb HB HH ra ka
              have ka := kb; have HB := HB2; have HH := HH2; clear kb HB2 HH2; have ra := ka.rule
              go_wp2
              go_ret
              exact ⟨ret_int2 (by rw [← HZ.out, if_pos (by have := HT.out; omega)]), HB.out⟩
            · skip
              have hc0 := fun W => sz_any Av la cv left W (by unfold maxLen; omega) h0 h1
              simp only [if_neg (show ¬ left < (la : Int) by omega), hy1] at hc0
              have C0 := Lib.hid hc0; clear hc0
              have hc1 := fun W => szTally_small Ap lb cp y1 W (by unfold maxLen; omega) (by omega) (by omega) (by omega)
              simp only [hy2] at hc1
              have C1 := Lib.hid hc1; clear hc1
              have hc2 := fun W => szTally_small Ao lc co y2 W (by unfold maxLen; omega) (by omega) (by omega) (by omega)
              simp only [hy3] at hc2
              have C2 := Lib.hid hc2; clear hc2
              have hc3 := fun W => szTally_small Ar ld cr y3 W (by unfold maxLen; omega) (by omega) (by omega) (by omega)
              simp only [hy4] at hc3
              have C3 := Lib.hid hc3; clear hc3
              have hc4 := fun W => szTally_small Ad le cd y4 W (by unfold maxLen; omega) (by omega) (by omega) (by omega)
              simp only [hy5] at hc4
              have C4 := Lib.hid hc4; clear hc4
              have hc5 := fun (W : World) (g : RdH W W.heap.size Ah hs) => H5.out W y5 g (by omega) (by omega)
              simp only [if_neg k5] at hc5
              obtain ⟨y6, hy6⟩ : ∃ z : Int, y5 - lf - lg = z := ⟨_, rfl⟩
              simp only [hy6] at hc5
              have ny6 : ¬ y6 < 0 := by omega
              have my6 : 0 ≤ y6 := by omega
              have C5 := Lib.hid hc5; clear hc5
              have n1 : ¬ y1 < 0 := by omega
              have n2 : ¬ y2 < 0 := by omega
              have n3 : ¬ y3 < 0 := by omega
              have n4 : ¬ y4 < 0 := by omega
              have n5 : ¬ y5 < 0 := by omega
              have HY : Hid (left - T = y6) := by show _ = _; have := HT.out; omega
              go_enter Try.func8, Try.ntmps8
              have ka := Blk.new w 30 #[.int .i64 n, .int .i64 id, .int .i64 own, .int .i64 view, .int .i64 left_, .slice Av la cv, .int .i64 lv, .int .i64 lx, .int .i64 dn, .slice Ap lb cp, .slice Ao lc co, .slice Ar ld cr, .slice Ad le cd, .slice Ah lf ch]
              have hB := up_ (Below.refl w.heap.size w) (.cells #[.int .i64 n, .int .i64 id, .int .i64 own, .int .i64 view, .int .i64 left_, .slice Av la cv, .int .i64 lv, .int .i64 lx, .int .i64 dn, .slice Ap lb cp, .slice Ao lc co, .slice Ar ld cr, .slice Ad le cd, .slice Ah lf ch] 30)
              have hr := HR.out.up (.cells #[.int .i64 n, .int .i64 id, .int .i64 own, .int .i64 view, .int .i64 left_, .slice Av la cv, .int .i64 lv, .int .i64 lx, .int .i64 dn, .slice Ap lb cp, .slice Ao lc co, .slice Ar ld cr, .slice Ad le cd, .slice Ah lf ch] 30)
              have HB := Lib.hid hB; have HH := Lib.hid hr; clear hB hr HR
              have ra := ka.rule
              go_wp2_with fail
              refine (C0.out _).mono ?_
              rintro e v0 ⟨rfl, rfl⟩
              go_wp2_with fail
              refine (C1.out _).mono ?_
              rintro e v1 ⟨rfl, hb⟩
              have kb := ka.on hb; have HB2 := Lib.hid (on_ HB.out hb); have HH2 := Lib.hid (HH.out.on hb); clear hb HB HH ra ka
              have ka := kb; have HB := HB2; have HH := HH2; clear kb HB2 HH2; have ra := ka.rule
              go_wp2_with fail
              refine (C2.out _).mono ?_
              rintro e v2 ⟨rfl, hb⟩
              have kb := ka.on hb; have HB2 := Lib.hid (on_ HB.out hb); have HH2 := Lib.hid (HH.out.on hb); clear hb HB HH ra ka
              have ka := kb; have HB := HB2; have HH := HH2; clear kb HB2 HH2; have ra := ka.rule
              go_wp2_with fail
              refine (C3.out _).mono ?_
              rintro e v3 ⟨rfl, hb⟩
              have kb := ka.on hb; have HB2 := Lib.hid (on_ HB.out hb); have HH2 := Lib.hid (HH.out.on hb); clear hb HB HH ra ka
              have ka := kb; have HB := HB2; have HH := HH2; clear kb HB2 HH2; have ra := ka.rule
              go_wp2_with fail
              refine (C4.out _).mono ?_
              rintro e v4 ⟨rfl, hb⟩
              have kb := ka.on hb; have HB2 := Lib.hid (on_ HB.out hb); have HH2 := Lib.hid (HH.out.on hb); clear hb HB HH ra ka
              have ka := kb; have HB := HB2; have HH := HH2; clear kb HB2 HH2; have ra := ka.rule
              go_wp2_with fail
              refine (C5.out _ HH.out).mono ?_
              rintro e v5 ⟨rfl, hb⟩
              have kb := ka.on hb; have HB2 := Lib.hid (on_ HB.out hb); have HH2 := Lib.hid (HH.out.on hb); clear hb HB HH ra ka
              have ka := kb; have HB := HB2; have HH := HH2; clear kb HB2 HH2; have ra := ka.rule
              go_wp2
              go_ret
              exact ⟨ret_int2 (by rw [← HZ.out, ← HY.out, if_neg (by have := HT.out; omega)]), HB.out⟩
end Go.Proofs.Ytfdfjmibjnmhpaa.V
