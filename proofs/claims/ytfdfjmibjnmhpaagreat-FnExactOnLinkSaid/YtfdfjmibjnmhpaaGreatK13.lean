/-
  Rows of numbers: how they read, comparison, marks, and rows of the call's own. Honest of the program: contract. Latest of the model and of the program: contracts. Latest of the program: contract. What honest replicas decided: decisions and Decided, contracts. Agreed of the model and of the program: contracts. Verdict of the model and of the program: contracts. No statement is proved here.
-/
import Derived.Test.YtfdfjmibjnmhpaaGreatK09
import Derived.Test.YtfdfjmibjnmhpaaGreatK02
import Derived.Deep.AppendLies
import Derived.Deep.RegionHeld3
import Derived.Test.YtfdfjmibjnmhpaaGreatK11
import Derived.Test.YtfdfjmibjnmhpaaGreatK05
import Derived.Test.YtfdfjmibjnmhpaaGreatK12
set_option linter.unusedVariables false
set_option maxRecDepth 100000
namespace Go.Proofs.YtfdfjmibjnmhpaaGreat.V
open Go.RowKit Go.Proofs.YtfdfjmibjnmhpaaGreat.B
end Go.Proofs.YtfdfjmibjnmhpaaGreat.V
namespace Go.Proofs.YtfdfjmibjnmhpaaGreat.B
open Go.RowKit
section
variable {w w' : World} {Bd Bd' : Nat} {A : Option Addr} {xs : List Int}
end

end Go.Proofs.YtfdfjmibjnmhpaaGreat.B

namespace Go.Proofs.YtfdfjmibjnmhpaaGreat.V
open Go.RowKit Go.Proofs.YtfdfjmibjnmhpaaGreat.B

end Go.Proofs.YtfdfjmibjnmhpaaGreat.V

namespace Go.Proofs.YtfdfjmibjnmhpaaGreat.B
open Go.RowKit
end Go.Proofs.YtfdfjmibjnmhpaaGreat.B
namespace Go.Proofs.YtfdfjmibjnmhpaaGreat.V
open Go.RowKit Go.Proofs.YtfdfjmibjnmhpaaGreat.B
end Go.Proofs.YtfdfjmibjnmhpaaGreat.V

namespace Go.Proofs.YtfdfjmibjnmhpaaGreat.V
open Go.RowKit Go.Proofs.YtfdfjmibjnmhpaaGreat.B

/-- Who of the first k does not lie. -/
def honK (bad : List Bool) (k : Nat) : List Int := ((List.range k).filter fun i => !(bad.getD i false)).map fun (i : Nat) => (i : Int)
def honC (d : Cd) : List Int := if cluB d then honK d.bad d.bad.length else []
theorem honK_step (bad : List Bool) (k : Nat) : honK bad (k + 1) = honK bad k ++ (if bad.getD k false then [] else [(k : Int)]) := by
  unfold honK
  rw [List.range_succ, List.filter_append, List.map_append, List.filter_cons, List.filter_nil]
  cases bad.getD k false <;> rfl
theorem honK_len (bad : List Bool) (k : Nat) : (honK bad k).length ≤ k := by
  unfold honK
  rw [List.length_map]
  exact Nat.le_trans (List.length_filter_le _ _) (by simp)
theorem clu_bad {d : Cd} (h : cluB d = true) : (d.bad.length : Int) = d.n ∧ (d.rs.length : Int) = d.n ∧ (d.n = 4 ∨ d.n = 7) := by
  unfold cluB lensC flagsB at h
  simp only [Bool.and_eq_true, decide_eq_true_eq] at h
  exact ⟨h.2.1.1, h.2.2.1.1, size_two h.1⟩

set_option maxHeartbeats 3200000 in
theorem implHonest_is (q : Cq) (w : World) (hr : RdC4 w w.heap.size q) (hf : FewC q) :
    Calls Tryz.prog 10 #[q.agg] w (NRes (honC q.dat) w) := by
  obtain ⟨i0, hi0, hz0, hz1, hz2⟩ := info_parts infoI
  obtain ⟨g, hg⟩ : ∃ g, cluB q.dat = g := ⟨_, rfl⟩
  have HC := Lib.hid (fun (W : World) (h : Below w.heap.size w W) => implClusterOk_is g q hg W ((hr.below h).more h.size) hf)
  have hz' : honC q.dat = (if g then honK q.bad q.bad.length else []) := by rw [← hg]; rfl
  have hl : g = true → q.bad.length ≤ 7 := fun e => by
    obtain ⟨h1, h2, h3⟩ := clu_bad (hg.trans e)
    have h1 : (q.bad.length : Int) = q.n := h1
    have h3 : q.n = 4 ∨ q.n = 7 := h3
    omega
  rw [hz']
  obtain ⟨n, bad, rs, nt, Ab, Ar, An, cb, cr, cn⟩ := q
  obtain ⟨rb, rr, rn⟩ := hr
  simp only [Cq.agg, Cq.cells] at *
  obtain ⟨lb, elb⟩ : ∃ m, bad.length = m := ⟨_, rfl⟩
  obtain ⟨lr, elr⟩ : ∃ m, rs.length = m := ⟨_, rfl⟩
  obtain ⟨ln, eln⟩ : ∃ m, nt.length = m := ⟨_, rfl⟩
  simp only [elb, elr, eln] at HC hl ⊢
  obtain ⟨L, hL⟩ : ∃ L : List Int, (if g then honK bad lb else []) = L := ⟨_, rfl⟩
  rw [hL]
  have HLL := Lib.hid hL; clear hL
  have HL := Lib.hid hl; have ELB := Lib.hid elb; have RB := Lib.hid rb
  clear hz' hl elb elr eln rb rr rn hg hf
  have ka := Blk.new w 33 #[.int .i64 n, .slice Ab lb cb, .slice Ar lr cr, .slice An ln cn]
  have hB := up_ (Below.refl w.heap.size w) (.cells #[.int .i64 n, .slice Ab lb cb, .slice Ar lr cr, .slice An ln cn] 33)
  have ra := ka.rule
  have HBX : Hid (∀ wr, Below (w.heap.size + 1) (w.alloc (.cells #[.int .i64 n, .slice Ab lb cb, .slice Ar lr cr, .slice An ln cn] 33)) wr → Blk wr w.heap.size 33 #[.int .i64 n, .slice Ab lb cb, .slice Ar lr cr, .slice An ln cn] ∧ Below w.heap.size w wr ∧ w.heap.size + 1 ≤ wr.heap.size) := fun wr h => ⟨ka.below h (by omega), Below.trans ((Below.refl _ _).alloc (Nat.le_refl _) _) (h.mono (by omega)), by have := h.size; simpa using this⟩
  go_enter Tryz.func10, Tryz.ntmps10
  go_wp2_with fail
  refine (HC.out _ hB).mono ?_
  rintro e w1 ⟨rfl, hb⟩
  have hb1 : Below (w.heap.size + 1) (w.alloc (.cells #[.int .i64 n, .slice Ab lb cb, .slice Ar lr cr, .slice An ln cn] 33)) w1 := by simpa using hb
  have ka' := ka.on hb; have hB' := on_ hB hb; clear ka hB ra hb; have ka := ka'; have hB := hB'; clear ka' hB'; have ra := ka.rule
  rcases g with _ | _
  · go_wp2
    go_ret
    have e0 : L = [] := HLL.out.symm
    rw [e0]
    exact ⟨.slice none 0 0, rfl, World.ownsRow_nil _ _ _ _, hB⟩
  · have hlb := HL.out rfl
    clear ka hB HL HC
    go_wp2
    go_loopw [3, 12] (fun out i wr => ∃ (k : Nat) (xs : List Int), k ≤ lb ∧ i = .int .i64 k ∧ Hid (honK bad k = xs) ∧ xs.length ≤ k ∧ wr.ownsRow (w.heap.size + 1) 3 1 out xs.length (ic xs) ∧ Below (w.heap.size + 1) (w.alloc (.cells #[.int .i64 n, .slice Ab lb cb, .slice Ar lr cr, .slice An ln cn] 33)) wr) (fun _ i _ => lb - (intOf i).toNat)
    case atStart => exact ⟨0, [], Nat.zero_le _, rfl, rfl, Nat.le_refl _, World.ownsRow_nil _ _ _ _, hb1⟩
    case round =>
      clear ra hb1
      obtain ⟨k, xs, hk, rfl, hxs, hxl, hown, hbel⟩ := hrel
      obtain ⟨ka, hB, hsz⟩ := HBX.out wr hbel
      have ra := ka.rule
      by_cases hlt : k < lb
      · obtain ⟨b_, off, rfl, hb, hcs, hrv⟩ := RdK.at_ (RB.out.below hB) (k := k) (by rw [ELB.out]; omega)
        clear hrv
        change ∀ j, j < 1 → wr.cell? ⟨b_, off + k * 1 + j, none⟩ = (KB.cells (bad.getD k false))[j]? at hcs
        have hst := honK_step bad k
        rw [hxs.out] at hst
        obtain ⟨u, hu⟩ : ∃ u, bad.getD k false = u := ⟨_, rfl⟩
        rw [hu] at hcs hst
        have hc0 : wr.cell? ⟨b_, off + k, none⟩ = some (.bool u) := by have := hcs 0 (by decide); simpa [KB] using this
        have HST := Lib.hid hst
        clear hcs hu hst
        rcases u with _ | _
        · have HN : Hid (honK bad (k + 1) = xs ++ [(k : Int)]) := by show _ = _; rw [HST.out]; rfl
          go_wp2_with (at_builtin; refine wpList_append_any _ rfl (.tmp 19) (.tmp 21) 28 rfl (w.heap.size + 1) 3 i0 _ 1 8 Tryz.underlying28 hi0 hz0 hz1 hz2 rfl (by omega) u3 xs.length (ic xs) rfl (hown.alloc _) _ _ 1 1 [.int .i64 (k : Int)] rfl (lit_int wr _) (by simp [Value.oneCell']) (by simp only [maxLen]; omega) (by omega) (by simp; omega) ?_; intro v2 w2 hown2 hgr2 hat2; have hbel2 := (hbel.alloc hsz _).grown hgr2 (by simp; omega) (fun j hj => (hown.lt j hj).1))
          go_roundw
          case rel => exact ⟨k + 1, xs ++ [(k : Int)], by omega, by go_num, HN, by simp; omega, own_app1 hown2, hbel2⟩
          case measure => simp [intOf]; omega
        · have HN : Hid (honK bad (k + 1) = xs) := by show _ = _; rw [HST.out]; simp
          go_wp2
          go_roundw
          case rel => exact ⟨k + 1, xs, by omega, by go_num, HN, by omega, hown, hbel⟩
          case measure => simp [intOf]; omega
      · obtain rfl : k = lb := by omega
        go_wp2
        go_ret
        refine ⟨_, rfl, ?_, hB⟩
        have e0 : L = xs := by rw [← HLL.out]; exact hxs.out
        rw [e0]
        exact own_more3 hown (by omega)
end Go.Proofs.YtfdfjmibjnmhpaaGreat.V

namespace Go.Proofs.YtfdfjmibjnmhpaaGreat.V
open Go.RowKit Go.Proofs.YtfdfjmibjnmhpaaGreat.B

theorem form_row {w : World} {base e size n : Nat} {v : Value} {xs : List Value} (h : w.ownsRow base e size v n xs) : ∃ A c, v = .slice A n c := by
  rcases h.2 with ⟨rfl, rfl⟩ | ⟨g, cap, cur, rfl, _⟩
  · exact ⟨none, 0, rfl⟩
  · exact ⟨_, _, rfl⟩
/-- The greatest view of the first k that do not lie. -/
def latK (bad : List Bool) (rs : List Rd4) : Nat → Int
  | 0 => -1
  | k + 1 => if bad.getD k false then latK bad rs k else max (latK bad rs k) (rs.getD k zD).view
def latC (d : Cd) : Int := if cluB d then latK d.bad d.rs d.bad.length else -1
def stepL (rs : List Rd4) (a : Int) (i : Int) : Int := max a (rs.getD i.toNat zD).view
theorem lat_fold (bad : List Bool) (rs : List Rd4) : ∀ k, latK bad rs k = (honK bad k).foldl (stepL rs) (-1)
  | 0 => rfl
  | k + 1 => by
    rw [honK_step, List.foldl_append, ← lat_fold bad rs k, latK]
    cases bad.getD k false <;> rfl
theorem hon_mem (bad : List Bool) (k j : Nat) (h : j < (honK bad k).length) : ∃ i : Nat, (honK bad k).getD j 0 = (i : Int) ∧ i < k := by
  have hm : (honK bad k).getD j 0 ∈ honK bad k := by
    rw [List.getD_eq_getElem?_getD, List.getElem?_eq_getElem h]
    exact List.getElem_mem h
  unfold honK at hm
  rw [List.mem_map] at hm
  obtain ⟨i, hi, e⟩ := hm
  rw [List.mem_filter] at hi
  exact ⟨i, by unfold honK; exact e.symm, List.mem_range.1 hi.1⟩
theorem view_ok {r : Rd4} (h : repQ r = true) : 0 ≤ r.view ∧ r.view ≤ 9 := by
  unfold repQ headQ at h
  simp only [Bool.and_eq_true, decide_eq_true_eq] at h
  have := h.1.2.2.2.2.1
  unfold viewOkB at this
  simpa using this
theorem clu_rep {d : Cd} (h : cluB d = true) : ∀ i, i < d.rs.length → repQ (d.rs.getD i zD) = true := fun i hi => by
  unfold cluB repsB at h
  simp only [Bool.and_eq_true] at h
  have h4 := h.2.2.2.1
  rw [List.all_eq_true] at h4
  have := h4 i (List.mem_range.2 hi)
  unfold goodP at this
  simp only [Bool.and_eq_true] at this
  exact this.1
/-- What is known of a valid cluster in memory. -/
theorem clu_mem {q : Cq} (h : cluB q.dat = true) : q.bad.length = q.rs.length ∧ q.rs.length ≤ 7 ∧ (q.n = (q.rs.length : Int)) ∧ ∀ i, i < q.rs.length → 0 ≤ (q.rs.getD i zQ).view ∧ (q.rs.getD i zQ).view ≤ 9 := by
  obtain ⟨h1, h2, h3⟩ := clu_bad h
  have h1 : (q.bad.length : Int) = q.n := h1
  have h2 : ((q.rs.map Rq.dat).length : Int) = q.n := h2
  have h3 : q.n = 4 ∨ q.n = 7 := h3
  rw [List.length_map] at h2
  refine ⟨by omega, by omega, h2.symm, fun i hi => ?_⟩
  have := view_ok (clu_rep h i (by show i < (q.rs.map Rq.dat).length; rw [List.length_map]; exact hi))
  rw [show q.dat.rs.getD i zD = (q.rs.getD i zQ).dat from dat_at q.rs i] at this
  exact this
theorem lat_bounds (bad : List Bool) (rs : List Rd4) (h : ∀ i, i < rs.length → 0 ≤ (rs.getD i zD).view ∧ (rs.getD i zD).view ≤ 9) : ∀ k, k ≤ rs.length → -1 ≤ latK bad rs k ∧ latK bad rs k ≤ 9
  | 0, _ => ⟨by simp [latK], by simp [latK]⟩
  | k + 1, hk => by
    have h1 := lat_bounds bad rs h k (by omega)
    have h2 := h k (by omega)
    rw [latK]
    cases bad.getD k false
    · simp only [Bool.false_eq_true, if_false]
      omega
    · simpa using h1

end Go.Proofs.YtfdfjmibjnmhpaaGreat.V

namespace Go.Proofs.YtfdfjmibjnmhpaaGreat.V
open Go.RowKit Go.Proofs.YtfdfjmibjnmhpaaGreat.B

theorem fold_take (rs : List Rd4) (xs : List Int) (k : Nat) (h : k < xs.length) : (xs.take (k + 1)).foldl (stepL rs) (-1) = stepL rs ((xs.take k).foldl (stepL rs) (-1)) (xs.getD k 0) := by
  rw [take_getD xs 0 k h, List.foldl_append]
  rfl
end Go.Proofs.YtfdfjmibjnmhpaaGreat.V

namespace Go.Proofs.YtfdfjmibjnmhpaaGreat.V
open Go.RowKit Go.Proofs.YtfdfjmibjnmhpaaGreat.B

def dnAt (rs : List Rd4) (i : Int) : Int := (rs.getD i.toNat zD).dn
/-- What those of xs have decided, in order. -/
def decF (rs : List Rd4) (xs : List Int) : List Int := (xs.map (dnAt rs)).filter fun v => decide (v ≠ 0)
def decC (d : Cd) : List Int := decF d.rs (honC d)
theorem decF_app (rs : List Rd4) (xs : List Int) (i : Int) : decF rs (xs ++ [i]) = decF rs xs ++ (if dnAt rs i = 0 then [] else [dnAt rs i]) := by
  unfold decF
  rw [List.map_append, List.filter_append]
  by_cases h : dnAt rs i = 0 <;> simp [h]
theorem decF_len (rs : List Rd4) (xs : List Int) : (decF rs xs).length ≤ xs.length := by
  unfold decF
  exact Nat.le_trans (List.length_filter_le _ _) (by simp)
theorem decF_step (bad : List Bool) (rs : List Rd4) (k : Nat) : decF rs (honK bad (k + 1)) = decF rs (honK bad k) ++ (if bad.getD k false then [] else if (rs.getD k zD).dn = 0 then [] else [(rs.getD k zD).dn]) := by
  rw [honK_step]
  cases bad.getD k false
  · simp only [Bool.false_eq_true, if_false]
    rw [decF_app]
    rfl
  · simp
theorem done_ok {r : Rd4} (h : repQ r = true) : 0 ≤ r.dn ∧ r.dn ≤ 60 := by
  unfold repQ at h
  simp only [Bool.and_eq_true] at h
  have := h.2.2.1
  unfold doneQ valOkB at this
  simp at this
  omega
theorem clu_done {q : Cq} (h : cluB q.dat = true) : ∀ i, i < q.rs.length → 0 ≤ (q.rs.getD i zQ).dn ∧ (q.rs.getD i zQ).dn ≤ 60 := fun i hi => by
  have := done_ok (clu_rep h i (by show i < (q.rs.map Rq.dat).length; rw [List.length_map]; exact hi))
  rw [show q.dat.rs.getD i zD = (q.rs.getD i zQ).dat from dat_at q.rs i] at this
  exact this

end Go.Proofs.YtfdfjmibjnmhpaaGreat.V

namespace Go.Proofs.YtfdfjmibjnmhpaaGreat.V
open Go.RowKit Go.Proofs.YtfdfjmibjnmhpaaGreat.B

def allEq (L : List Int) : Bool := L.all fun x => decide (x = L.getD 0 0)
def agrC (d : Cd) : Bool := cluB d && allEq (decC d)
def neB (y x : Int) : Bool := !(decide (x = y))
theorem any_ne (L : List Int) : L.any (neB (L.getD 0 0)) = !(allEq L) := any_not _ L
theorem OI.far {w : World} {t base : Nat} {A : Option Addr} {xs : List Int} (h : OI w t base A xs) {p : Addr} (hp : p.block < base) (u : Value) : OI (w.setCell p u) t base A xs :=
  h.imp id fun ⟨g, cur, e, hg, hb, hq⟩ => ⟨g, cur, e, hg, hb.far (by omega) u, hq⟩

theorem take_anyI (p : Int → Bool) (l : List Int) (j : Nat) (h : j < l.length) : (l.take (j + 1)).any p = ((l.take j).any p || p (l.getD j 0)) := by
  rw [take_getD l 0 j h, List.any_append]
  simp
/-- The list so far is how the whole begins. -/
theorem dec_more (bad : List Bool) (rs : List Rd4) (k n : Nat) (h : k ≤ n) : ∃ zs, decF rs (honK bad n) = decF rs (honK bad k) ++ zs := by
  induction n with
  | zero => obtain rfl : k = 0 := by omega
            exact ⟨[], by simp⟩
  | succ n ih =>
    by_cases e : k = n + 1
    · subst e; exact ⟨[], by simp⟩
    · obtain ⟨zs, hz⟩ := ih (by omega)
      exact ⟨zs ++ (if bad.getD n false then [] else if (rs.getD n zD).dn = 0 then [] else [(rs.getD n zD).dn]), by rw [decF_step, hz, List.append_assoc]⟩
theorem allEq_no {ys zs : List Int} {v d : Int} (h0 : ys ≠ []) (hv : ys.getD 0 0 = v) (hd : d ≠ v) : allEq (ys ++ [d] ++ zs) = false := by
  cases ys with
  | nil => exact absurd rfl h0
  | cons a l =>
    have ha : a = v := by simpa using hv
    unfold allEq
    rw [List.all_eq_false]
    refine ⟨d, by simp, ?_⟩
    simp [ha, hd]
theorem allEq_app {ys : List Int} {d : Int} (h : allEq ys = true) (hd : ys = [] ∨ ys.getD 0 0 = d) : allEq (ys ++ [d]) = true := by
  cases ys with
  | nil => simp [allEq]
  | cons a l =>
    have ha : a = d := by simpa using hd
    unfold allEq at *
    subst ha
    simp only [List.cons_append, List.all_cons, List.all_append, List.getD_cons_zero] at *
    simp at *
    exact h

end Go.Proofs.YtfdfjmibjnmhpaaGreat.V

namespace Go.Proofs.YtfdfjmibjnmhpaaGreat.V
open Go.RowKit Go.Proofs.YtfdfjmibjnmhpaaGreat.B

def verL : List Int → Int × Bool
  | [] => (0, false)
  | a :: l => (a, allEq (a :: l))
def okV (p : Int × Bool) : Int × Bool := if p.2 then (p.1, true) else (0, false)
def verC (d : Cd) : Int × Bool := if cluB d then okV (verL (decC d)) else (0, false)

end Go.Proofs.YtfdfjmibjnmhpaaGreat.V
