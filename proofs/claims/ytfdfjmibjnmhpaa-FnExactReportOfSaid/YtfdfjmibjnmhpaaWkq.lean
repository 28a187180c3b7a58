/-
  Rows that are a copy's own, as marks need them; marks upon a replica's state. No statement is proved here.
-/
import Derived.Test.YtfdfjmibjnmhpaaWk
import Derived.Test.YtfdfjmibjnmhpaaRq2
import Derived.Test.YtfdfjmibjnmhpaaOwnI
set_option linter.unusedVariables false
set_option maxRecDepth 100000
namespace Go.Proofs.Ytfdfjmibjnmhpaa.B
open Go.RowKit
theorem OwnL.leaf {s : Nat} {w : World} {lo n : Nat} {A : Option Addr} (h : OwnL s w lo A n) : Leaf s lo w.heap.size w A n := fun h0 => by
  obtain ⟨t, g, cs, e, hg, hb, hz, hc⟩ := h h0
  exact ⟨t, g, cs, e, hg, hb.lt, hb, hz, fun i hi => by obtain ⟨x, hx⟩ := hc i hi; rw [hx]; rfl⟩
theorem OwnR.row {w : World} {lo : Nat} {A : Option Addr} {ps : List Pp} (h : OwnR w lo A ps) (hf : ∀ i, i < ps.length → (ps.getD i zP).r.vs.length ≤ 1048576) : RowE 4 (EReport lo w.heap.size) lo w.heap.size w A ps.length (fun i => (ps.getD i zP).r.vs.length) := fun h0 => by
  obtain ⟨t, tv, g, cs, e, hg, hb, hc, gs, h1, _⟩ := h h0
  refine ⟨t, g, cs, e, hg, hb.lt, hb, by rw [hc.1]; omega, fun i hi => ?_⟩
  obtain ⟨c0, c1, c2, c3⟩ := hc.2 i hi
  obtain ⟨a1, a2, a3, cv, a4, a5⟩ := h1 i hi
  have hl : Leaf 2 lo w.heap.size w (ps.getD i zP).A (ps.getD i zP).r.vs.length := by rw [a2]; exact (PC.own a5 a4 (by omega)).leaf
  refine ⟨fun j hj => ?_, _, _, _, c3, hf i hi, hl, Nat.le_refl _⟩
  match j, hj with
  | 0, _ => exact (congrArg sl c0).trans rfl
  | 1, _ => exact (congrArg sl c1).trans rfl
  | 2, _ => exact (congrArg sl c2).trans rfl
theorem OI.sh {lo hi : Nat} {w w' : World} {t base : Nat} {A : Option Addr} {xs : List Int} (h : OI w t base A xs) (hs : Sh lo hi w w') (ho : ∀ g', A = some ⟨g', 0, none⟩ → g' < lo ∨ hi ≤ g') : OI w' t base A xs := by
  rcases h with h | ⟨g, cur, rfl, hg, hb, hp⟩
  · exact .inl h
  · exact .inr ⟨g, cur, rfl, hg, hb.sh hs (ho g rfl), hp⟩
theorem Below.sh {lo hi Bd : Nat} {a w w' : World} (hb : Below Bd a w) (hs : Sh lo hi w w') (hl : Bd ≤ lo) (hBd : Bd ≤ a.heap.size) : Below Bd a w' := hb.trans (hs.below hl (Nat.le_trans (by exact hBd) hb.size))
end Go.Proofs.Ytfdfjmibjnmhpaa.B
namespace Go.Proofs.Ytfdfjmibjnmhpaa.V
open Go.RowKit Go.Proofs.Ytfdfjmibjnmhpaa.B
theorem tv_sm (ps : List Pp) (k : Nat) : sm (fun i => (ps.getD i zP).r.vs.length) k = tv ps k := by
  induction k with
  | zero => rfl
  | succ k ih => simp only [sm, tv]; rw [ih]
theorem th_sm (hs : List Hp) (k : Nat) : sm (fun i => (hs.getD i zH).ps.length + tv (hs.getD i zH).ps (hs.getD i zH).ps.length) k = th hs k := by
  induction k with
  | zero => rfl
  | succ k ih => simp only [sm, th]; rw [ih]
theorem ownH_row {w : World} {lo : Nat} {A : Option Addr} {hs : List Hp} (h : OwnH w lo A hs) (hf : FewH hs) : RowE 2 (EHeard lo w.heap.size) lo w.heap.size w A hs.length (fun i => (hs.getD i zH).ps.length + tv (hs.getD i zH).ps (hs.getD i zH).ps.length) := fun h0 => by
  obtain ⟨t, g, cs, e, hg, hb, hz, hc⟩ := h h0
  refine ⟨t, g, cs, e, hg, hb.lt, hb, by rw [hz]; omega, fun i hi => ?_⟩
  obtain ⟨⟨c0, c1⟩, hr⟩ := hc i hi
  have hw := hf.2 i hi
  refine ⟨fun j hj => ?_, _, _, _, c1, hw.1, _, hr.row hw.2, by rw [tv_sm]; exact Nat.le_refl _⟩
  obtain rfl : j = 0 := by omega
  exact (congrArg sl c0).trans rfl
theorem tv_same {ps qs : List Pp} (e : rl qs = rl ps) (k : Nat) : tv qs k = tv ps k := by
  induction k with
  | zero => rfl
  | succ k ih => simp only [tv]; rw [ih, ← rl_at, ← rl_at, e]
theorem th_same {hs us : List Hp} (e : hl us = hl hs) (k : Nat) : th us k = th hs k := by
  induction k with
  | zero => rfl
  | succ k ih =>
    have h : hd1 (us.getD k zH) = hd1 (hs.getD k zH) := by rw [← hl_at, ← hl_at, e]
    have h2 : rl (us.getD k zH).ps = rl (hs.getD k zH).ps := congrArg Prod.snd h
    have h3 : (us.getD k zH).ps.length = (hs.getD k zH).ps.length := by rw [← rl_len, ← rl_len, h2]
    simp only [th]; rw [ih, h3, tv_same h2]
theorem tot_same {p q : Rq} (e : p.dat = q.dat) : tot p = tot q := by
  simp only [Rq.dat, Rd4.mk.injEq] at e
  obtain ⟨-, -, -, -, -, e1, -, -, -, e2, e3, e4, e5, e6⟩ := e
  have l6 : p.hs.length = q.hs.length := by rw [← hl_len, ← hl_len, e6]
  unfold tot
  rw [e1, e2, e3, e4, e5, l6, th_same e6]
theorem mI_grow (m : Int) (A : Option Addr) (c t base : Nat) (us : List Int) (w : World) (h : OI w t base A us) (hn : us.length ≤ 1048576) (h0 : 0 ≤ m) (h1 : m ≤ 16777216) :
    Calls Try.prog 22 #[.slice A us.length c, .int .i64 m] w fun e w' =>
      e = .returned (.int .i64 (m + us.length)) ∧ MI w' t base A us.length m ∧ ∃ row, (∀ g, row = some g → A = some ⟨g, 0, none⟩) ∧ w.grownBy w' row := by
  rcases h with ⟨rfl, rfl⟩ | ⟨g, cur, rfl, hg, hb, hp⟩
  · refine (markI_nil none c m w).mono ?_
    rintro e w' ⟨rfl, rfl⟩
    exact ⟨by simp, .inl rfl, none, by simp, World.grownBy.refl w _⟩
  · refine (markI_any g us.length c t cur m w hb hp.1 (by omega) h0 h1).mono ?_
    rintro e w' ⟨rfl, ds, hd, _, hm, hgr⟩
    exact ⟨rfl, .inr ⟨g, ds, rfl, hg, hd, hm⟩, some g, by simp, hgr⟩
theorem Below.own {w0 w w' : World} {base : Nat} {row : Option Nat} (hB : Below base w0 w) (hgr : w.grownBy w' row) (hg : ∀ g, row = some g → base ≤ g) (hz : base ≤ w0.heap.size) : Below base w0 w' :=
  hB.trans ⟨hgr.os, hgr.tape, hgr.output, hgr.size, fun i hi => hgr.block i (by have := hB.size; omega) (fun e => by have := hg i e.symm; omega)⟩
theorem Blk.own {w w' : World} {g : Nat} {t : TypeId} {cs : Array Value} {row : Option Nat} (h : Blk w g t cs) (hgr : w.grownBy w' row) (hne : row ≠ some g) : Blk w' g t cs := (hgr.block g h.lt (fun e => hne e.symm)).trans h
/-- A state's rows, as marks need them. -/
structure QSh (lo hi : Nat) (w : World) (q : Rq) : Prop where
  v : Leaf 2 lo hi w q.Av q.voted.length
  p : Leaf 3 lo hi w q.Ap q.pr.length
  o : Leaf 3 lo hi w q.Ao q.vo.length
  r : Leaf 3 lo hi w q.Ar q.re.length
  d : Leaf 3 lo hi w q.Ad q.ds.length
  h : RowE 2 (EHeard lo hi) lo hi w q.Ah q.hs.length (fun i => (q.hs.getD i zH).ps.length + tv (q.hs.getD i zH).ps (q.hs.getD i zH).ps.length)
theorem QSh.sh {lo hi : Nat} {w w' : World} {q : Rq} (h : QSh lo hi w q) (hs : Sh lo hi w w') : QSh lo hi w' q := ⟨h.v.sh hs, h.p.sh hs, h.o.sh hs, h.r.sh hs, h.d.sh hs, h.h.sh EHeard.stab hs⟩
theorem QSh.of_own {w : World} {lo : Nat} {q : Rq} (h : OwnQ w lo q) (hf : FewQ q) : QSh lo w.heap.size w q := ⟨h.v.leaf, h.p.leaf, h.o.leaf, h.r.leaf, h.d.leaf, ownH_row h.h hf.h⟩
theorem toRep_own (q : Rq) (w : World) (hr : RdQ w w.heap.size q) (hf : FewQ q) :
    Calls Try.prog 10 #[q.agg] w fun e w' => ∃ p : Rq, e = .returned p.agg ∧ p.dat = q.dat ∧ (RdQ w' w'.heap.size p ∧ QSh w.heap.size w'.heap.size w' p) ∧ Below w.heap.size w w' :=
  (toRep_hi q w hr hf).mono fun e w' ⟨p, h1, h2, h3, h4⟩ => ⟨p, h1, h2, ⟨h3.1.rd, QSh.of_own h3.2 (hf.same h2)⟩, h4⟩
theorem wTally {lo hi : Nat} {a : World} (A : Option Addr) (n c : Nat) (k : Int) (w : World) (hS : Sh lo hi a w) (hh : hi ≤ a.heap.size) (h : Leaf 3 lo hi a A n) (hn : n ≤ 1048576) (h0 : 0 ≤ k) (h1 : k ≤ 16777216) :
    Calls Try.prog 52 #[.agg #[.slice A n c], .int .i64 k] w (WM lo hi k (3 * n) a) := by
  have hS1 := hS.on ((Below.refl w.heap.size w).alloc (Nat.le_refl _) (.cells #[.slice A n c] 37)) hh
  go_enter Try.func52, Try.ntmps52
  go_wp2_with fail
  refine (wBallotS A n c k _ (by exact hS1) h hn h0 h1).mono ?_
  rintro e w1 ⟨r, rfl, hr0, hr1, hs⟩
  go_wp2
  go_ret
  exact ⟨r, rfl, hr0, hr1, hs⟩
set_option maxHeartbeats 3200000 in
theorem wRep {lo hi : Nat} {a : World} (q : Rq) (k : Int) (w : World) (hS : Sh lo hi a w) (hh : hi ≤ a.heap.size) (hQ : QSh lo hi a q) (hf : FewQ q) (ht : tot q ≤ 1048576) (h0 : 0 ≤ k) (h1 : k ≤ 1000) :
    Calls Try.prog 16 #[q.agg, .int .i64 k] w (WM lo hi k (3 * tot q) a) := by
  obtain ⟨T, hT⟩ : ∃ T, tot q = T := ⟨_, rfl⟩
  rw [hT] at ht ⊢
  obtain ⟨n, id, own, view, left, voted, lv, lx, dn, pr, vo, re, ds, hs, Av, Ap, Ao, Ar, Ad, Ah, cv, cp, co, cr, cd, ch⟩ := q
  obtain ⟨hv, hp, ho, hr, hd, hx⟩ := hQ
  obtain ⟨fv, fp, fo, fr, fd, fh⟩ := hf
  have hsm := th_sm hs hs.length
  have fh1 := fh.1
  simp only [Rq.agg, Rq.cells, tot] at *
  obtain ⟨F, hF⟩ : ∃ F : Nat → Nat, (fun i => (hs.getD i zH).ps.length + tv (hs.getD i zH).ps (hs.getD i zH).ps.length) = F := ⟨_, rfl⟩
  rw [hF] at hx hsm
  obtain ⟨lv0, elv0⟩ : ∃ m, voted.length = m := ⟨_, rfl⟩
  obtain ⟨lp0, elp0⟩ : ∃ m, pr.length = m := ⟨_, rfl⟩
  obtain ⟨lo0, elo0⟩ : ∃ m, vo.length = m := ⟨_, rfl⟩
  obtain ⟨lr0, elr0⟩ : ∃ m, re.length = m := ⟨_, rfl⟩
  obtain ⟨ld0, eld0⟩ : ∃ m, ds.length = m := ⟨_, rfl⟩
  obtain ⟨lh0, elh0⟩ : ∃ m, hs.length = m := ⟨_, rfl⟩
  simp only [elv0, elp0, elo0, elr0, eld0, elh0] at *
  obtain ⟨Z, hZ⟩ : ∃ Z, sm F lh0 = Z := ⟨_, rfl⟩
  have hZ2 := hsm.symm.trans hZ
  rw [hZ2] at hT
  have HX := Lib.hid (fun (a2 : World) (h : RowE 2 (EHeard lo hi) lo hi a2 Ah lh0 F) (k2 : Int) (W : World) (hS2 : Sh lo hi a2 W) (g0 : 0 ≤ k2) (g1 : k2 + (1 * lh0 + 3 * sm F lh0 : Nat) ≤ 16777216) => wHeardS Ah lh0 ch F k2 W hS2 h fh1 g0 g1)
  rw [hZ] at HX
  have HV := Lib.hid hv; have HP := Lib.hid hp; have HO := Lib.hid ho; have HR := Lib.hid hr; have HD := Lib.hid hd; have HH := Lib.hid hx
  clear hv hp ho hr hd hx hF hZ hZ2 hsm elv0 elp0 elo0 elr0 eld0 elh0 fh
  have ka := Blk.new w 40 #[.int .i64 n, .int .i64 id, .int .i64 own, .int .i64 view, .int .i64 left, .slice Av lv0 cv, .int .i64 lv, .int .i64 lx, .int .i64 dn, .slice Ap lp0 cp, .slice Ao lo0 co, .slice Ar lr0 cr, .slice Ad ld0 cd, .slice Ah lh0 ch]
  have HS0 := Lib.hid (hS.on ((Below.refl w.heap.size w).alloc (Nat.le_refl _) (.cells #[.int .i64 n, .int .i64 id, .int .i64 own, .int .i64 view, .int .i64 left, .slice Av lv0 cv, .int .i64 lv, .int .i64 lx, .int .i64 dn, .slice Ap lp0 cp, .slice Ao lo0 co, .slice Ar lr0 cr, .slice Ad ld0 cd, .slice Ah lh0 ch] 40)) hh)
  have HZ0 := Lib.hid (HS0.out.size)
  have hw := hS.size
  have hhw : hi ≤ w.heap.size := Nat.le_trans hh hw
  have ka0 := ka; clear ka
  have rk0 := ka0.rule
  go_enter Try.func16, Try.ntmps16
  go_wp2_with fail
  refine (wVoteS (lo := lo) (hi := hi) Av lv0 cv _ _ (Sh.refl lo hi _) (HV.out.sh (by exact HS0.out)) fv (by omega) (by omega)).mono ?_
  rintro e w1 ⟨r1, rfl, ra1, rb1, hs1⟩
  have ka1 := ka0.sh hs1 (.inr hhw)
  have HS1 := Lib.hid (HS0.out.trans hs1)
  have HZ1 := Lib.hid HS1.out.size
  clear ka0 rk0 hs1
  have rk1 := ka1.rule
  go_wp2_with fail
  refine (wTally (lo := lo) (hi := hi) Ap lp0 cp _ _ (Sh.refl lo hi _) (Nat.le_trans hh HZ1.out) (HP.out.sh (by exact HS1.out)) fp (by omega) (by omega)).mono ?_
  rintro e w2 ⟨r2, rfl, ra2, rb2, hs2⟩
  have ka2 := ka1.sh hs2 (.inr hhw)
  have HS2 := Lib.hid (HS1.out.trans hs2)
  have HZ2 := Lib.hid HS2.out.size
  clear ka1 rk1 hs2
  have rk2 := ka2.rule
  go_wp2_with fail
  refine (wTally (lo := lo) (hi := hi) Ao lo0 co _ _ (Sh.refl lo hi _) (Nat.le_trans hh HZ2.out) (HO.out.sh (by exact HS2.out)) fo (by omega) (by omega)).mono ?_
  rintro e w3 ⟨r3, rfl, ra3, rb3, hs3⟩
  have ka3 := ka2.sh hs3 (.inr hhw)
  have HS3 := Lib.hid (HS2.out.trans hs3)
  have HZ3 := Lib.hid HS3.out.size
  clear ka2 rk2 hs3
  have rk3 := ka3.rule
  go_wp2_with fail
  refine (wTally (lo := lo) (hi := hi) Ar lr0 cr _ _ (Sh.refl lo hi _) (Nat.le_trans hh HZ3.out) (HR.out.sh (by exact HS3.out)) fr (by omega) (by omega)).mono ?_
  rintro e w4 ⟨r4, rfl, ra4, rb4, hs4⟩
  have ka4 := ka3.sh hs4 (.inr hhw)
  have HS4 := Lib.hid (HS3.out.trans hs4)
  have HZ4 := Lib.hid HS4.out.size
  clear ka3 rk3 hs4
  have rk4 := ka4.rule
  go_wp2_with fail
  refine (wTally (lo := lo) (hi := hi) Ad ld0 cd _ _ (Sh.refl lo hi _) (Nat.le_trans hh HZ4.out) (HD.out.sh (by exact HS4.out)) fd (by omega) (by omega)).mono ?_
  rintro e w5 ⟨r5, rfl, ra5, rb5, hs5⟩
  have ka5 := ka4.sh hs5 (.inr hhw)
  have HS5 := Lib.hid (HS4.out.trans hs5)
  have HZ5 := Lib.hid HS5.out.size
  clear ka4 rk4 hs5
  have rk5 := ka5.rule
  go_wp2_with fail
  refine (HX.out _ (HH.out.sh EHeard.stab (by exact HS5.out)) _ _ (Sh.refl lo hi _) (by omega) (by omega)).mono ?_
  rintro e w6 ⟨r6, rfl, ra6, rb6, hs6⟩
  have HS6 := Lib.hid (HS5.out.trans hs6)
  go_wp2
  go_ret
  exact ⟨r6, rfl, by omega, by omega, HS6.out⟩
end Go.Proofs.Ytfdfjmibjnmhpaa.V
