/-
  What TallyOk of the model answers: its contract. Which states of a replica are valid, as mathematics. Count, Told and Winner of the model: contracts. Told of the model, and the two loops that look for a ballot: contracts. Winner of the model: its contract. Voters, ViewsIn and Silent of the model: contracts. ViewsIn of the model: its contract. SizeOk and Silent of the model: contracts. Faults, Strong, Weak and Open of the model: contracts. TallyOk of the program: contracts. The tests that the program's talliesOk makes of ballots, each a closure: contracts. talliesOk of the program: contract. No statement is proved here.
-/
import Derived.Test.YtfdfjmibjnmhpaaGreatK04
import Derived.Test.YtfdfjmibjnmhpaaGreatK03
import Derived.IntWalk
import Derived.Deep.AppendLies
import Derived.Deep.RegionHeld3
set_option linter.unusedVariables false
set_option maxRecDepth 100000
namespace Go.Proofs.YtfdfjmibjnmhpaaGreat.V
open Go.RowKit Go.Proofs.YtfdfjmibjnmhpaaGreat.B

def viewB (n : Int) : Bool := decide (0 ≤ n ∧ n ≤ 9)
def valB (n : Int) : Bool := decide (1 ≤ n ∧ n ≤ 60)
def cmp3 (p u : B3) : Int := if p.2.1 ≠ u.2.1 then (if p.2.1 < u.2.1 then -1 else 1) else if p.1 < u.1 then -1 else if u.1 < p.1 then 1 else 0
def b3Ok (u : B3) : Bool := decide (0 ≤ u.1 ∧ u.1 < 7) && viewB u.2.1 && valB u.2.2
def goodB (vs : List B3) (i : Nat) : Bool := b3Ok (vs.getD i z3) && (decide (i = 0) || decide (cmp3 (vs.getD (i - 1) z3) (vs.getD i z3) < 0))
def tallyOkB (vs : List B3) : Bool := (List.range vs.length).all (goodB vs)
theorem tallyOk_yes {vs : List B3} (h : ∀ j, j < vs.length → goodB vs j = true) : tallyOkB vs = true := by
  unfold tallyOkB
  rw [List.all_eq_true]
  intro j hj
  exact h j (List.mem_range.1 hj)
theorem tallyOk_no {vs : List B3} {k : Nat} (hk : k < vs.length) (h : goodB vs k = false) : tallyOkB vs = false := by
  unfold tallyOkB
  rw [List.all_eq_false]
  exact ⟨k, List.mem_range.2 hk, by simp [h]⟩

theorem specView3_is (n : Int) (q : Bool) (h : viewB n = q) (w : World) : Calls Tryz.prog 70 #[.int .i64 n] w fun e w' => e = .returned (.bool q) ∧ w' = w := by
  subst h
  unfold viewB
  by_cases h1 : 0 ≤ n
  · by_cases h2 : n ≤ 9
    all_goals
      go_enter Tryz.func70, Tryz.ntmps70
      go_wp2
      go_ret
      exact ⟨ret_boolB (by simp; try omega), rfl⟩
  · go_enter Tryz.func70, Tryz.ntmps70
    go_wp2
    go_ret
    exact ⟨ret_boolB (by simp; try omega), rfl⟩
theorem specVal3_is (n : Int) (q : Bool) (h : valB n = q) (w : World) : Calls Tryz.prog 69 #[.int .i64 n] w fun e w' => e = .returned (.bool q) ∧ w' = w := by
  subst h
  unfold valB
  by_cases h1 : 1 ≤ n
  · by_cases h2 : n ≤ 60
    all_goals
      go_enter Tryz.func69, Tryz.ntmps69
      go_wp2
      go_ret
      exact ⟨ret_boolB (by simp; try omega), rfl⟩
  · go_enter Tryz.func69, Tryz.ntmps69
    go_wp2
    go_ret
    exact ⟨ret_boolB (by simp; try omega), rfl⟩

theorem ballot_any (a b c : Int) (w : World) : Calls Tryz.prog 107 #[.agg #[.int .i64 a, .int .i64 b, .int .i64 c]] w fun e w' => e = .returned (.bool (b3Ok (a, b, c))) ∧ Below w.heap.size w w' := by
  unfold b3Ok
  by_cases h1 : 0 ≤ a
  · by_cases h2 : a < 7
    · rcases h3 : viewB b with _ | _
      · go_enter Tryz.func107, Tryz.ntmps107
        go_wp2_with (go_at_call 70; refine (specView3_is b false h3 _).mono ?_; rintro e w1 ⟨rfl, rfl⟩)
        go_ret
        exact ⟨ret_boolB (by simp), (Below.refl _ _).alloc (Nat.le_refl _) _⟩
      · rcases h4 : valB c with _ | _
        all_goals
          go_enter Tryz.func107, Tryz.ntmps107
          go_wp2_with (first | (go_at_call 70; refine (specView3_is b true h3 _).mono ?_; rintro e w1 ⟨rfl, rfl⟩) | (go_at_call 69; refine (specVal3_is c _ h4 _).mono ?_; rintro e w1 ⟨rfl, rfl⟩))
          go_ret
          exact ⟨ret_boolB (by simp [h1, h2]), (Below.refl _ _).alloc (Nat.le_refl _) _⟩
    · go_enter Tryz.func107, Tryz.ntmps107
      go_wp2
      go_ret
      exact ⟨ret_boolB (by simp; intro h; omega), (Below.refl _ _).alloc (Nat.le_refl _) _⟩
  · go_enter Tryz.func107, Tryz.ntmps107
    go_wp2
    go_ret
    exact ⟨ret_boolB (by simp; intro h; omega), (Below.refl _ _).alloc (Nat.le_refl _) _⟩
theorem ballot_is (q : Bool) (a b c : Int) (hq : b3Ok (a, b, c) = q) (w : World) : Calls Tryz.prog 107 #[.agg #[.int .i64 a, .int .i64 b, .int .i64 c]] w fun e w' => e = .returned (.bool q) ∧ Below w.heap.size w w' := by
  rw [← hq]; exact ballot_any a b c w

theorem cmp_any (a b c d e f : Int) (w : World) : Calls Tryz.prog 108 #[.agg #[.int .i64 a, .int .i64 b, .int .i64 c], .agg #[.int .i64 d, .int .i64 e, .int .i64 f]] w fun x w' => x = .returned (.int .i64 (cmp3 (a, b, c) (d, e, f))) ∧ Below w.heap.size w w' := by
  unfold cmp3
  go_enter Tryz.func108, Tryz.ntmps108
  go_wp2
  all_goals go_ret
  all_goals refine ⟨ret_int ?_, by repeat (first | exact Below.refl _ _ | refine Below.alloc ?_ (by simp) _)⟩
  all_goals (simp_all; try omega)
theorem cmp_is (q : Int) (a b c d e f : Int) (hq : cmp3 (a, b, c) (d, e, f) = q) (w : World) : Calls Tryz.prog 108 #[.agg #[.int .i64 a, .int .i64 b, .int .i64 c], .agg #[.int .i64 d, .int .i64 e, .int .i64 f]] w fun x w' => x = .returned (.int .i64 q) ∧ Below w.heap.size w w' := by
  rw [← hq]; exact cmp_any a b c d e f w

set_option maxHeartbeats 1600000 in
theorem specTallyOk_any (A : Option Addr) (c : Nat) (vs : List B3) (w : World) (hr : Rd3 w w.heap.size A vs) (hn : vs.length ≤ 1048576) :
    Calls Tryz.prog 91 #[.agg #[.slice A vs.length c]] w fun e w' => e = .returned (.bool (tallyOkB vs)) ∧ Below w.heap.size w w' := by
  obtain ⟨n, hvn⟩ : ∃ n, vs.length = n := ⟨_, rfl⟩
  rw [hvn] at hn ⊢
  have HV := Lib.hid hvn; clear hvn
  have kb := Blk.new w 72 #[.slice A n c]
  have HB : Hid (∀ wr, Below (w.heap.size + 1) (w.alloc (.cells #[.slice A n c] 72)) wr → Blk wr w.heap.size 72 #[.slice A n c] ∧ Below w.heap.size w wr) := fun wr h => ⟨kb.below h (by omega), Below.trans ((Below.refl _ _).alloc (Nat.le_refl _) _) (h.mono (by omega))⟩
  clear kb
  go_enter Tryz.func91, Tryz.ntmps91
  go_wp2
  go_loopw [3] (fun i wr => ∃ (k : Nat), k ≤ n ∧ i = .int .i64 k ∧ Hid (∀ j, j < k → goodB vs j = true) ∧ Below (w.heap.size + 1) (w.alloc (.cells #[.slice A n c] 72)) wr) (fun i _ => n - (intOf i).toNat)
  case atStart => exact ⟨0, Nat.zero_le _, rfl, fun j hj => absurd hj (by omega), Below.refl _ _⟩
  case round =>
    obtain ⟨k, hk, rfl, hall, hbel⟩ := hrel
    obtain ⟨kb, hbw⟩ := HB.out wr hbel
    have hsz := hbel.size
    simp only [World.size_alloc] at hsz
    have rb : wr.cell? ⟨w.heap.size, 0, none⟩ = some (.slice A n c) := kb.cell 0
    by_cases hlt : k < n
    · obtain ⟨b, off, rfl, hb, hc0, hc1, hc2⟩ := Rd3.at_ (hr.below hbw) (k := k) (by rw [HV.out]; omega)
      have hpv : 0 < k → wr.cell? ⟨b, off + (k - 1) * 3, none⟩ = some (.int .i64 (vs.getD (k - 1) z3).1) ∧ wr.cell? ⟨b, off + (k - 1) * 3 + 1, none⟩ = some (.int .i64 (vs.getD (k - 1) z3).2.1) ∧ wr.cell? ⟨b, off + (k - 1) * 3 + 2, none⟩ = some (.int .i64 (vs.getD (k - 1) z3).2.2) := fun h0 => by
        obtain ⟨b', off', he, _, h1, h2, h3⟩ := Rd3.at_ (hr.below hbw) (k := k - 1) (by rw [HV.out]; omega)
        injection he with he
        injection he with he1 he2
        subst he1 he2
        exact ⟨h1, h2, h3⟩
      clear hr
      obtain ⟨⟨ua, ub, uc⟩, hu⟩ : ∃ v, vs.getD k z3 = v := ⟨_, rfl⟩
      obtain ⟨⟨pa, pb, pc⟩, hp⟩ : ∃ v, vs.getD (k - 1) z3 = v := ⟨_, rfl⟩
      have HG : Hid (goodB vs k = (b3Ok (ua, ub, uc) && (decide (k = 0) || decide (cmp3 (pa, pb, pc) (ua, ub, uc) < 0)))) := by show _ = _; unfold goodB; rw [hu, hp]
      rw [hu] at hc0 hc1 hc2
      rw [hp] at hpv
      clear hu hp
      have T0 := fun x : Lat wr => x.cell rb
      have C0 := fun x : Lat wr => x.cell hc0
      have C1 := fun x : Lat wr => x.cell hc1
      have C2 := fun x : Lat wr => x.cell hc2
      rcases hq : b3Ok (ua, ub, uc) with _ | _
      · have HQ := Lib.hid hq; clear hq hpv
        go_wp2
        refine wp_region_lat (by kernel_rfl) (by kernel_rfl) ?_
        repeat (go_big_quiet_step ((first | (go_at_call 107; exact lat_call _ (ballot_is false _ _ _ HQ.out _)))))
        refine wpQuiet_nil ?_
        rintro w3 ⟨⟨_, hb3⟩, rfl⟩
        clear T0 C0 C1 C2
        go_wp2
        go_ret
        refine ⟨ret_boolB ?_, (HB.out _ (hbel.trans (hb3.mono hsz))).2⟩
        symm
        exact tallyOk_no (k := k) (by rw [HV.out]; omega) (by rw [HG.out]; simp [HQ.out])
      have HQ := Lib.hid hq; clear hq
      by_cases h4 : 0 < k
      · obtain ⟨hp0, hp1, hp2⟩ := hpv h4
        clear hpv
        obtain ⟨p, hkp⟩ : ∃ p, k = p + 1 := ⟨k - 1, by omega⟩
        have hE : (k : Int) - 1 = (p : Int) := by omega
        have hW : IntKind.i64.wrap (p : Int) = (p : Int) := IntWalk.i64_in _ (by omega)
        rw [show k - 1 = p by omega] at hp0 hp1 hp2
        have P0 := fun x : Lat wr => x.cell hp0
        have P1 := fun x : Lat wr => x.cell hp1
        have P2 := fun x : Lat wr => x.cell hp2
        have hw4 : (p : Int) < (n : Int) := by omega
        have hw5 : p < n := by omega
        have HKP := Lib.hid hkp; clear hkp
        obtain ⟨z, hz⟩ : ∃ z, cmp3 (pa, pb, pc) (ua, ub, uc) = z := ⟨_, rfl⟩
        have HC := Lib.hid hz; clear hz
        by_cases h5 : z < 0
        · have hd5 : decide (0 ≤ z) = false := by simp; omega
          go_wp2
          refine wp_region_lat (by kernel_rfl) (by kernel_rfl) ?_
          repeat (go_big_quiet_step ((first | (go_at_call 107; exact lat_call _ (ballot_is true _ _ _ HQ.out _)) | (go_at_call 108; exact lat_call _ (cmp_is z _ _ _ _ _ _ HC.out _)))))
          refine wpQuiet_nil ?_
          rintro w3 ⟨⟨_, hb3⟩, rfl⟩
          clear T0 C0 C1 C2 P0 P1 P2
          go_wp2
          go_roundw
          case rel =>
            refine ⟨k + 1, by omega, by go_num, fun j hj => ?_, hbel.trans (hb3.mono hsz)⟩
            by_cases e : j = k
            · rw [e, HG.out]; simp [HQ.out, HC.out, h5]
            · exact hall.out j (by omega)
          case measure => simp [intOf]; omega
        · have hd5 : decide (0 ≤ z) = true := by simp; omega
          go_wp2
          refine wp_region_lat (by kernel_rfl) (by kernel_rfl) ?_
          repeat (go_big_quiet_step ((first | (go_at_call 107; exact lat_call _ (ballot_is true _ _ _ HQ.out _)) | (go_at_call 108; exact lat_call _ (cmp_is z _ _ _ _ _ _ HC.out _)))))
          refine wpQuiet_nil ?_
          rintro w3 ⟨⟨_, hb3⟩, rfl⟩
          clear T0 C0 C1 C2 P0 P1 P2
          go_wp2
          go_ret
          refine ⟨ret_boolB ?_, (HB.out _ (hbel.trans (hb3.mono hsz))).2⟩
          symm
          exact tallyOk_no (k := k) (by rw [HV.out]; omega) (by rw [HG.out]; simp [HC.out, h5]; intro _; omega)
      · clear hpv
        have hd : decide ((0 : Int) < (k : Int)) = false := by simp; omega
        have HK0 : Hid (k = 0) := by show _ = _; omega
        go_wp2
        refine wp_region_lat (by kernel_rfl) (by kernel_rfl) ?_
        repeat (go_big_quiet_step ((first | (go_at_call 107; exact lat_call _ (ballot_is true _ _ _ HQ.out _)))))
        refine wpQuiet_nil ?_
        rintro w3 ⟨⟨_, hb3⟩, rfl⟩
        clear T0 C0 C1 C2
        go_wp2
        go_roundw
        case rel =>
          refine ⟨k + 1, by omega, by go_num, fun j hj => ?_, hbel.trans (hb3.mono hsz)⟩
          by_cases e : j = k
          · rw [e, HG.out]; simp [HQ.out, HK0.out]
          · exact hall.out j (by omega)
        case measure => simp [intOf]; omega
    · go_wp2
      go_ret
      refine ⟨ret_boolB ?_, hbw⟩
      symm
      exact tallyOk_yes fun j hj => hall.out j (by rw [HV.out] at hj; omega)
end Go.Proofs.YtfdfjmibjnmhpaaGreat.V

namespace Go.Proofs.YtfdfjmibjnmhpaaGreat.V
open Go.RowKit Go.Proofs.YtfdfjmibjnmhpaaGreat.B

def below4 (n : Int) (u : B3) : Bool := decide (u.1 < n)
def talB (n : Int) (vs : List B3) : Bool := vs.all (below4 n) && tallyOkB vs
def zero4 (u : B3) : Bool := decide (u.2.1 = 0)
def goodH (n : Int) (l : List (Int × List Rp)) (i : Nat) : Bool := repsOkB n (l.getD i (0, [])).1 (l.getD i (0, [])).2 && (decide (i = 0) || decide ((l.getD (i - 1) (0, [])).1 < (l.getD i (0, [])).1))
def heardB (n : Int) (l : List (Int × List Rp)) : Bool := (List.range l.length).all (goodH n l)
theorem heard_yes {n : Int} {l : List (Int × List Rp)} (h : ∀ j, j < l.length → goodH n l j = true) : heardB n l = true := by
  unfold heardB
  rw [List.all_eq_true]
  intro j hj
  exact h j (List.mem_range.1 hj)
theorem heard_no {n : Int} {l : List (Int × List Rp)} {k : Nat} (hk : k < l.length) (h : goodH n l k = false) : heardB n l = false := by
  unfold heardB
  rw [List.all_eq_false]
  exact ⟨k, List.mem_range.2 hk, by simp [h]⟩
/-- The numbers, then the votes and the lock. -/
def headQ (r : Rd4) : Bool := sizeB r.n && (decide (0 ≤ r.id) && (decide (r.id < r.n) && (valOkB r.own && (viewOkB r.view && (decide (1 ≤ r.left) && decide (r.left ≤ 3 + r.view))))))
def doneQ (x : Int) : Bool := decide (x = 0) || valOkB x
def talsQ (r : Rd4) : Bool := talB r.n r.pr && (talB r.n r.vo && (talB r.n r.re && talB r.n r.ds)) && r.ds.all zero4
def repQ (r : Rd4) : Bool := headQ r && (votesOkB r.voted (r.view + 1) && (doneQ r.dn && (lockOkB r.lv r.lx (r.view + 1) && (talsQ r && heardB r.n r.hs))))
theorem all_take_no {α : Type} (p : α → Bool) (l : List α) (z : α) (k : Nat) (h : k < l.length) (hp : p (l.getD k z) = false) : l.all p = false := by
  rw [List.all_eq_false]
  refine ⟨l.getD k z, ?_, by rw [hp]; exact Bool.false_ne_true⟩
  rw [List.getD_eq_getElem?_getD, List.getElem?_eq_getElem h]
  exact List.getElem_mem h
theorem all_of {α : Type} (p : α → Bool) (l : List α) (z : α) (h : ∀ k, k < l.length → p (l.getD k z) = true) : l.all p = true := by
  rw [List.all_eq_true]
  intro x hx
  obtain ⟨i, hi, rfl⟩ := List.getElem_of_mem hx
  have := h i hi
  rwa [List.getD_eq_getElem?_getD, List.getElem?_eq_getElem hi] at this
end Go.Proofs.YtfdfjmibjnmhpaaGreat.V

namespace Go.Proofs.YtfdfjmibjnmhpaaGreat.V
open Go.RowKit Go.Proofs.YtfdfjmibjnmhpaaGreat.B

def isAt (view val : Int) (u : B3) : Bool := decide (u.2.1 = view ∧ u.2.2 = val)
def cntK (vs : List B3) (view val : Int) (k : Nat) : Nat := ((vs.take k).filter (isAt view val)).length
def cntB (vs : List B3) (view val : Int) : Nat := (vs.filter (isAt view val)).length
theorem cntK_all (vs : List B3) (view val : Int) : cntK vs view val vs.length = cntB vs view val := by simp [cntK, cntB]
theorem take_get {α : Type} (vs : List α) (d : α) (k : Nat) (h : k < vs.length) : vs.take (k + 1) = vs.take k ++ [vs.getD k d] := by
  rw [List.take_add_one, List.getElem?_eq_getElem h]
  simp [List.getD_eq_getElem?_getD, List.getElem?_eq_getElem h]
theorem cntK_step (vs : List B3) (view val : Int) (k : Nat) (h : k < vs.length) : cntK vs view val (k + 1) = cntK vs view val k + (if isAt view val (vs.getD k z3) then 1 else 0) := by
  unfold cntK
  rw [take_get vs z3 k h, List.filter_append, List.length_append]
  congr 1
  rcases h1 : isAt view val (vs.getD k z3) with _ | _ <;> simp only [List.filter, h1] <;> rfl
theorem cntK_le (vs : List B3) (view val : Int) (k : Nat) : cntK vs view val k ≤ k := by
  unfold cntK
  exact Nat.le_trans (List.length_filter_le _ _) (by simp; omega)

/-- The box of a tally that came in, and what was there. -/
theorem tally_box (w : World) (A : Option Addr) (n c : Nat) : ∀ wr, Below (w.heap.size + 1) (w.alloc (.cells #[.slice A n c] 72)) wr → Blk wr w.heap.size 72 #[.slice A n c] ∧ Below w.heap.size w wr :=
  fun wr h => ⟨(Blk.new w 72 #[.slice A n c]).below h (by omega), Below.trans ((Below.refl _ _).alloc (Nat.le_refl _) _) (h.mono (by omega))⟩

theorem specTallyOk_is (q : Bool) (A : Option Addr) (c : Nat) (vs : List B3) (hq : tallyOkB vs = q) (w : World) (hr : Rd3 w w.heap.size A vs) (hn : vs.length ≤ 1048576) :
    Calls Tryz.prog 91 #[.agg #[.slice A vs.length c]] w fun e w' => e = .returned (.bool q) ∧ Below w.heap.size w w' := by
  rw [← hq]; exact specTallyOk_any A c vs w hr hn

def countR (vs : List B3) (view val : Int) : Int := if tallyOkB vs then (cntB vs view val : Int) else 0
/-- What somebody told in a view: the first that fits. -/
def isOf (view who : Int) (u : B3) : Bool := decide (u.2.1 = view ∧ u.1 = who)
def toldR (vs : List B3) (view who : Int) : Int := if tallyOkB vs then ((vs.find? (isOf view who)).map (·.2.2)).getD 0 else 0
def toldQ (vs : List B3) (view who : Int) : Bool := tallyOkB vs && (vs.find? (isOf view who)).isSome
theorem find_no {vs : List B3} {p : B3 → Bool} (h : ∀ j, j < vs.length → p (vs.getD j z3) = false) : vs.find? p = none := by
  rw [List.find?_eq_none]
  intro x hx
  obtain ⟨j, hj, rfl⟩ := List.getElem_of_mem hx
  have := h j hj
  rw [List.getD_eq_getElem?_getD, List.getElem?_eq_getElem hj] at this
  simpa using this
theorem find_at : ∀ {vs : List B3} {p : B3 → Bool} {k : Nat}, k < vs.length → (∀ j, j < k → p (vs.getD j z3) = false) → p (vs.getD k z3) = true → vs.find? p = some (vs.getD k z3)
  | [], _, _, hk, _, _ => by simp at hk
  | u :: us, p, 0, _, _, h => by
    have h : p u = true := by simpa using h
    simp [List.find?, h]
  | u :: us, p, k + 1, hk, hn, h => by
    have h0 : p u = false := by simpa using hn 0 (by omega)
    have := find_at (vs := us) (p := p) (k := k) (by simpa using hk) (fun j hj => by simpa using hn (j + 1) (by omega)) (by simpa using h)
    simp only [List.find?, h0]
    simpa using this
end Go.Proofs.YtfdfjmibjnmhpaaGreat.V

namespace Go.Proofs.YtfdfjmibjnmhpaaGreat.V
open Go.RowKit Go.Proofs.YtfdfjmibjnmhpaaGreat.B

def foundV (vs : List B3) (view who : Int) : Int := ((vs.find? (isOf view who)).map (·.2.2)).getD 0
def foundQ (vs : List B3) (view who : Int) : Bool := (vs.find? (isOf view who)).isSome
theorem ret_two {a b : Int} {p q : Bool} (h : a = b) (h2 : p = q) : Ending.returned (.tuple #[.int .i64 a, .bool p]) = .returned (.tuple #[.int .i64 b, .bool q]) := by rw [h, h2]

end Go.Proofs.YtfdfjmibjnmhpaaGreat.V

namespace Go.Proofs.YtfdfjmibjnmhpaaGreat.V
open Go.RowKit Go.Proofs.YtfdfjmibjnmhpaaGreat.B

/-- The first from k on, of m, at which f holds. -/
def winN (f : Nat → Bool) : Nat → Nat → Option Nat
  | _, 0 => none
  | k, m + 1 => if f k then some k else winN f (k + 1) m
theorem winN_none {f : Nat → Bool} : ∀ {m k : Nat}, (∀ j, k ≤ j → j < k + m → f j = false) → winN f k m = none
  | 0, _, _ => rfl
  | m + 1, k, h => by
    rw [winN, h k (Nat.le_refl _) (by omega)]
    exact winN_none fun j h1 h2 => h j (by omega) (by omega)
theorem winN_some {f : Nat → Bool} : ∀ {m k i : Nat}, k ≤ i → i < k + m → (∀ j, k ≤ j → j < i → f j = false) → f i = true → winN f k m = some i
  | 0, _, _, h1, h2, _, _ => by omega
  | m + 1, k, i, h1, h2, h, hi => by
    by_cases e : k = i
    · subst e
      rw [winN, hi]; rfl
    · rw [winN, h k (Nat.le_refl _) (by omega)]
      exact winN_some (by omega) (by omega) (fun j h3 h4 => h j (by omega) h4) hi
def enough (vs : List B3) (view need : Int) (k : Nat) : Bool := decide (need ≤ (cntB vs view (k : Int) : Int))
def winK (vs : List B3) (view need : Int) : Option Nat := winN (enough vs view need) 1 60
def winV (o : Option Nat) : Int := (o.map fun k => (k : Int)).getD 0

def winnerK (vs : List B3) (view need : Int) : Option Nat := if tallyOkB vs = true ∧ 1 ≤ need then winK vs view need else none
end Go.Proofs.YtfdfjmibjnmhpaaGreat.V

namespace Go.Proofs.YtfdfjmibjnmhpaaGreat.V
open Go.RowKit Go.Proofs.YtfdfjmibjnmhpaaGreat.B

theorem infoI : (Tryz.prog.info? 3).map (fun i => (i.zero, i.size, i.bytes)) = some (some (.int .i64 0), 1, 8) := by kernel_rfl
def ic (xs : List Int) : List Value := xs.map (Value.int .i64)
theorem ic_len (xs : List Int) : (ic xs).length = xs.length := by simp [ic]
theorem ic_app (xs ys : List Int) : ic (xs ++ ys) = ic xs ++ ic ys := by simp [ic]
/-- The numbers of the call's own. -/
def NRes (xs : List Int) (w : World) (e : Ending) (w' : World) : Prop :=
  ∃ v, e = .returned v ∧ w'.ownsRow w.heap.size 3 1 v xs.length (ic xs) ∧ Below w.heap.size w w'
def votersL (vs : List B3) (view val : Int) : List Int := (vs.filter (isAt view val)).map (·.1)
def votersK (vs : List B3) (view val : Int) (k : Nat) : List Int := ((vs.take k).filter (isAt view val)).map (·.1)
theorem votersK_all (vs : List B3) (view val : Int) : votersK vs view val vs.length = votersL vs view val := by simp [votersK, votersL]
theorem votersK_step (vs : List B3) (view val : Int) (k : Nat) (h : k < vs.length) : votersK vs view val (k + 1) = votersK vs view val k ++ (if isAt view val (vs.getD k z3) then [(vs.getD k z3).1] else []) := by
  unfold votersK
  rw [take_get vs z3 k h, List.filter_append, List.map_append]
  congr 1
  rcases h1 : isAt view val (vs.getD k z3) with _ | _ <;> simp only [List.filter, h1] <;> rfl
theorem votersK_le (vs : List B3) (view val : Int) (k : Nat) : (votersK vs view val k).length ≤ k := by
  simp only [votersK, List.length_map]
  exact Nat.le_trans (List.length_filter_le _ _) (by simp; omega)
theorem own_app1 {w : World} {b e : Nat} {v : Value} {xs : List Int} {y : Int} (h : w.ownsRow b e 1 v (xs.length + 1) (ic xs ++ [.int .i64 y])) : w.ownsRow b e 1 v (xs ++ [y]).length (ic (xs ++ [y])) := by
  rw [ic_app, List.length_append]; exact h
theorem own_drew {w : World} {b e size n : Nat} {v : Value} {xs : List Value} (h : w.ownsRow b e size v n xs) : w.drew.ownsRow b e size v n xs := h
theorem reads_drew {w : World} {B size n : Nat} {A : Option Addr} {xs : List Value} (h : Reads w B size A n xs) : Reads w.drew B size A n xs := h
theorem own_lit (w : World) (u : Value) : (w.alloc (.cells #[u] 3)).ownsRow w.heap.size 3 1 (.slice (some ⟨w.heap.size, 0, none⟩) 1 1) 1 [u] :=
  ⟨rfl, .inr ⟨w.heap.size, 1, #[u], rfl, Nat.le_refl _, heap_alloc_new w _, Nat.le_refl _, by decide, rfl, rfl⟩⟩
theorem lit_int (w : World) (u : Value) : Reads (w.alloc (.cells #[u] 3)) (w.heap.size + 1) 1 (some ⟨w.heap.size, 0, none⟩) 1 [u] := by
  have h := Reads.of_own (own_lit w u)
  simpa using h
theorem own_more3 {w : World} {b b' e size n : Nat} {v : Value} {xs : List Value} (h : w.ownsRow b e size v n xs) (hb : b' ≤ b) : w.ownsRow b' e size v n xs := by
  obtain ⟨hl, h⟩ := h
  refine ⟨hl, ?_⟩
  rcases h with h1 | ⟨g, cap, cur, h1, h2, h3⟩
  · exact .inl h1
  · exact .inr ⟨g, cap, cur, h1, by omega, h3⟩

theorem no_ints (w w' : World) (hB : Below w.heap.size w w') : NRes [] w (.returned (.slice none 0 0)) w' := ⟨_, rfl, World.ownsRow_nil _ _ _ _, hB⟩
def votersR (vs : List B3) (view val : Int) : List Int := if tallyOkB vs then votersL vs view val else []
end Go.Proofs.YtfdfjmibjnmhpaaGreat.V

namespace Go.Proofs.YtfdfjmibjnmhpaaGreat.V
open Go.RowKit Go.Proofs.YtfdfjmibjnmhpaaGreat.B

def newAt (vs : List B3) (i : Nat) : Bool := decide (i = 0) || decide ((vs.getD (i - 1) z3).2.1 ≠ (vs.getD i z3).2.1)
def viewsK (vs : List B3) (k : Nat) : List Int := ((List.range k).filter (newAt vs)).map fun i => (vs.getD i z3).2.1
theorem viewsK_step (vs : List B3) (k : Nat) : viewsK vs (k + 1) = viewsK vs k ++ (if newAt vs k then [(vs.getD k z3).2.1] else []) := by
  unfold viewsK
  rw [List.range_succ, List.filter_append, List.map_append]
  congr 1
  rcases h1 : newAt vs k with _ | _ <;> simp [List.filter, h1]
theorem viewsK_le (vs : List B3) (k : Nat) : (viewsK vs k).length ≤ k := by
  simp only [viewsK, List.length_map]
  exact Nat.le_trans (List.length_filter_le _ _) (by simp)

theorem own_onB {w w' : World} {b e size n : Nat} {v : Value} {xs : List Value} (h : w.ownsRow b e size v n xs) (hb : Below w.heap.size w w') : w'.ownsRow b e size v n xs := by
  obtain ⟨hl, h⟩ := h
  refine ⟨hl, ?_⟩
  rcases h with h1 | ⟨g, cap, cur, h1, h2, h3, h4⟩
  · exact .inl h1
  · exact .inr ⟨g, cap, cur, h1, h2, (hb.block g (Array.getElem?_eq_some_iff.1 h3).1).trans h3, h4⟩
def viewsR (vs : List B3) : List Int := if tallyOkB vs then viewsK vs vs.length else []
end Go.Proofs.YtfdfjmibjnmhpaaGreat.V

namespace Go.Proofs.YtfdfjmibjnmhpaaGreat.V
open Go.RowKit Go.Proofs.YtfdfjmibjnmhpaaGreat.B

def silentK (vs : List B3) (view : Int) (k : Nat) : List Int := ((List.range k).filter (fun (i : Nat) => !(foundQ vs view (i : Int)))).map (fun (i : Nat) => (i : Int))
theorem silentK_step (vs : List B3) (view : Int) (k : Nat) : silentK vs view (k + 1) = silentK vs view k ++ (if foundQ vs view (k : Int) then [] else [(k : Int)]) := by
  unfold silentK
  rw [List.range_succ, List.filter_append, List.map_append]
  congr 1
  rcases h1 : foundQ vs view (k : Int) with _ | _ <;> simp [List.filter, h1]
theorem silentK_le (vs : List B3) (view : Int) (k : Nat) : (silentK vs view k).length ≤ k := by
  simp only [silentK, List.length_map]
  exact Nat.le_trans (List.length_filter_le _ _) (by simp)

def silentR (n : Int) (vs : List B3) (view : Int) : List Int := if sizeB n && tallyOkB vs then silentK vs view n.toNat else []
theorem silentR_le (n : Int) (vs : List B3) (view : Int) : (silentR n vs view).length ≤ 7 := by
  unfold silentR
  split
  · rename_i h
    simp only [sizeB, Bool.and_eq_true, Bool.or_eq_true, decide_eq_true_eq] at h
    exact Nat.le_trans (silentK_le _ _ _) (by omega)
  · simp
end Go.Proofs.YtfdfjmibjnmhpaaGreat.V

namespace Go.Proofs.YtfdfjmibjnmhpaaGreat.V
open Go.RowKit Go.Proofs.YtfdfjmibjnmhpaaGreat.B

def openF (n : Int) (vs : List B3) (view : Int) (k : Nat) : Bool := decide (strongR n ≤ (cntB vs view (k : Int) : Int) + ((silentR n vs view).length : Int))
def openR (n : Int) (vs : List B3) (view : Int) : Bool := sizeB n && (tallyOkB vs && (winN (openF n vs view) 1 60).isSome)
theorem cntB_le (vs : List B3) (view val : Int) : cntB vs view val ≤ vs.length := List.length_filter_le _ _

end Go.Proofs.YtfdfjmibjnmhpaaGreat.V

namespace Go.Proofs.YtfdfjmibjnmhpaaGreat.V
open Go.RowKit Go.Proofs.YtfdfjmibjnmhpaaGreat.B

theorem implView3_is (n : Int) (q : Bool) (h : viewB n = q) (w : World) : Calls Tryz.prog 96 #[.int .i64 n] w fun e w' => e = .returned (.bool q) ∧ w' = w := by
  subst h
  unfold viewB
  by_cases h1 : 0 ≤ n
  · by_cases h2 : n ≤ 9
    all_goals
      go_enter Tryz.func96, Tryz.ntmps96
      go_wp2
      go_ret
      exact ⟨ret_boolB (by simp; try omega), rfl⟩
  · go_enter Tryz.func96, Tryz.ntmps96
    go_wp2
    go_ret
    exact ⟨ret_boolB (by simp; try omega), rfl⟩
theorem implVal3_is (n : Int) (q : Bool) (h : valB n = q) (w : World) : Calls Tryz.prog 95 #[.int .i64 n] w fun e w' => e = .returned (.bool q) ∧ w' = w := by
  subst h
  unfold valB
  by_cases h1 : 1 ≤ n
  · by_cases h2 : n ≤ 60
    all_goals
      go_enter Tryz.func95, Tryz.ntmps95
      go_wp2
      go_ret
      exact ⟨ret_boolB (by simp; try omega), rfl⟩
  · go_enter Tryz.func95, Tryz.ntmps95
    go_wp2
    go_ret
    exact ⟨ret_boolB (by simp; try omega), rfl⟩

theorem implBallot_any (a b c : Int) (w : World) : Calls Tryz.prog 124 #[.agg #[.int .i64 a, .int .i64 b, .int .i64 c]] w fun e w' => e = .returned (.bool (b3Ok (a, b, c))) ∧ Below w.heap.size w w' := by
  unfold b3Ok
  by_cases h1 : 0 ≤ a
  · by_cases h2 : a < 7
    · rcases h3 : viewB b with _ | _
      · go_enter Tryz.func124, Tryz.ntmps124
        go_wp2_with (go_at_call 96; refine (implView3_is b false h3 _).mono ?_; rintro e w1 ⟨rfl, rfl⟩)
        go_ret
        exact ⟨ret_boolB (by simp), (Below.refl _ _).alloc (Nat.le_refl _) _⟩
      · rcases h4 : valB c with _ | _
        all_goals
          go_enter Tryz.func124, Tryz.ntmps124
          go_wp2_with (first | (go_at_call 96; refine (implView3_is b true h3 _).mono ?_; rintro e w1 ⟨rfl, rfl⟩) | (go_at_call 95; refine (implVal3_is c _ h4 _).mono ?_; rintro e w1 ⟨rfl, rfl⟩))
          go_ret
          exact ⟨ret_boolB (by simp [h1, h2]), (Below.refl _ _).alloc (Nat.le_refl _) _⟩
    · go_enter Tryz.func124, Tryz.ntmps124
      go_wp2
      go_ret
      exact ⟨ret_boolB (by simp; intro h; omega), (Below.refl _ _).alloc (Nat.le_refl _) _⟩
  · go_enter Tryz.func124, Tryz.ntmps124
    go_wp2
    go_ret
    exact ⟨ret_boolB (by simp; intro h; omega), (Below.refl _ _).alloc (Nat.le_refl _) _⟩
theorem implBallot_is (q : Bool) (a b c : Int) (hq : b3Ok (a, b, c) = q) (w : World) : Calls Tryz.prog 124 #[.agg #[.int .i64 a, .int .i64 b, .int .i64 c]] w fun e w' => e = .returned (.bool q) ∧ Below w.heap.size w w' := by
  rw [← hq]; exact implBallot_any a b c w

def lessB (p u : B3) : Bool := decide (cmp3 p u < 0)
theorem before_any (a b c d e f : Int) (w : World) : Calls Tryz.prog 125 #[.agg #[.int .i64 a, .int .i64 b, .int .i64 c], .agg #[.int .i64 d, .int .i64 e, .int .i64 f]] w fun x w' => x = .returned (.bool (lessB (a, b, c) (d, e, f))) ∧ Below w.heap.size w w' := by
  unfold lessB cmp3
  go_enter Tryz.func125, Tryz.ntmps125
  go_wp2
  all_goals go_ret
  all_goals refine ⟨ret_boolB ?_, by repeat (first | exact Below.refl _ _ | refine Below.alloc ?_ (by simp) _)⟩
  all_goals (simp_all; try omega)
theorem before_is (q : Bool) (a b c d e f : Int) (hq : lessB (a, b, c) (d, e, f) = q) (w : World) : Calls Tryz.prog 125 #[.agg #[.int .i64 a, .int .i64 b, .int .i64 c], .agg #[.int .i64 d, .int .i64 e, .int .i64 f]] w fun x w' => x = .returned (.bool q) ∧ Below w.heap.size w w' := by
  rw [← hq]; exact before_any a b c d e f w

set_option maxHeartbeats 1600000 in
theorem implTallyOk_any (A : Option Addr) (c : Nat) (vs : List B3) (w : World) (hr : Rd3 w w.heap.size A vs) (hn : vs.length ≤ 1048576) :
    Calls Tryz.prog 112 #[.agg #[.slice A vs.length c]] w fun e w' => e = .returned (.bool (tallyOkB vs)) ∧ Below w.heap.size w w' := by
  obtain ⟨n, hvn⟩ : ∃ n, vs.length = n := ⟨_, rfl⟩
  rw [hvn] at hn ⊢
  have HV := Lib.hid hvn; clear hvn
  have kb := Blk.new w 72 #[.slice A n c]
  have HB : Hid (∀ wr, Below (w.heap.size + 1) (w.alloc (.cells #[.slice A n c] 72)) wr → Blk wr w.heap.size 72 #[.slice A n c] ∧ Below w.heap.size w wr) := fun wr h => ⟨kb.below h (by omega), Below.trans ((Below.refl _ _).alloc (Nat.le_refl _) _) (h.mono (by omega))⟩
  clear kb
  go_enter Tryz.func112, Tryz.ntmps112
  go_wp2
  go_loopw [8] (fun i wr => ∃ (k : Nat), k ≤ n ∧ i = .int .i64 k ∧ Hid (∀ j, j < k → goodB vs j = true) ∧ Below (w.heap.size + 1) (w.alloc (.cells #[.slice A n c] 72)) wr) (fun i _ => n - (intOf i).toNat)
  case atStart => exact ⟨0, Nat.zero_le _, rfl, fun j hj => absurd hj (by omega), Below.refl _ _⟩
  case round =>
    obtain ⟨k, hk, rfl, hall, hbel⟩ := hrel
    obtain ⟨kb, hbw⟩ := HB.out wr hbel
    have hsz := hbel.size
    simp only [World.size_alloc] at hsz
    have rb : wr.cell? ⟨w.heap.size, 0, none⟩ = some (.slice A n c) := kb.cell 0
    by_cases hlt : k < n
    · obtain ⟨b, off, rfl, hb, hc0, hc1, hc2⟩ := Rd3.at_ (hr.below hbw) (k := k) (by rw [HV.out]; omega)
      obtain ⟨⟨ua, ub, uc⟩, hu⟩ : ∃ v, vs.getD k z3 = v := ⟨_, rfl⟩
      rw [hu] at hc0 hc1 hc2
      have kx : Blk (wr.alloc (.cells #[.int .i64 ua, .int .i64 ub, .int .i64 uc] 111)) wr.heap.size 111 #[.int .i64 ua, .int .i64 ub, .int .i64 uc] := Blk.new wr _ _
      have rbx := (kb.alloc (.cells #[.int .i64 ua, .int .i64 ub, .int .i64 uc] 111)).cell 0
      have hbx : Below (w.heap.size + 1) (w.alloc (.cells #[.slice (some ⟨b, off, none⟩) n c] 72)) (wr.alloc (.cells #[.int .i64 ua, .int .i64 ub, .int .i64 uc] 111)) := hbel.alloc hsz _
      have hpv : 0 < k → (wr.alloc (.cells #[.int .i64 ua, .int .i64 ub, .int .i64 uc] 111)).cell? ⟨b, off + (k - 1) * 3, none⟩ = some (.int .i64 (vs.getD (k - 1) z3).1) ∧ (wr.alloc (.cells #[.int .i64 ua, .int .i64 ub, .int .i64 uc] 111)).cell? ⟨b, off + (k - 1) * 3 + 1, none⟩ = some (.int .i64 (vs.getD (k - 1) z3).2.1) ∧ (wr.alloc (.cells #[.int .i64 ua, .int .i64 ub, .int .i64 uc] 111)).cell? ⟨b, off + (k - 1) * 3 + 2, none⟩ = some (.int .i64 (vs.getD (k - 1) z3).2.2) := fun h0 => by
        obtain ⟨b', off', he, _, h1, h2, h3⟩ := Rd3.at_ ((hr.below hbw).alloc (by omega) (.cells #[.int .i64 ua, .int .i64 ub, .int .i64 uc] 111)) (k := k - 1) (by rw [HV.out]; omega)
        injection he with he
        injection he with he1 he2
        subst he1 he2
        exact ⟨h1, h2, h3⟩
      clear hr
      obtain ⟨⟨pa, pb, pc⟩, hp⟩ : ∃ v, vs.getD (k - 1) z3 = v := ⟨_, rfl⟩
      have HG : Hid (goodB vs k = (b3Ok (ua, ub, uc) && (decide (k = 0) || decide (cmp3 (pa, pb, pc) (ua, ub, uc) < 0)))) := by show _ = _; unfold goodB; rw [hu, hp]
      rw [hp] at hpv
      clear hu hp
      rcases hq : b3Ok (ua, ub, uc) with _ | _
      · have HQ := Lib.hid hq; clear hq hpv
        go_wp2
        have T0 := fun x : Lat (wr.alloc (.cells #[.int .i64 ua, .int .i64 ub, .int .i64 uc] 111)) => x.cell rbx
        have C0 := fun x : Lat (wr.alloc (.cells #[.int .i64 ua, .int .i64 ub, .int .i64 uc] 111)) => x.cell (kx.cell 0)
        have C1 := fun x : Lat (wr.alloc (.cells #[.int .i64 ua, .int .i64 ub, .int .i64 uc] 111)) => x.cell (kx.cell 1)
        have C2 := fun x : Lat (wr.alloc (.cells #[.int .i64 ua, .int .i64 ub, .int .i64 uc] 111)) => x.cell (kx.cell 2)
        refine wp_region_lat (by kernel_rfl) (by kernel_rfl) ?_
        repeat (go_big_quiet_step ((first | (go_at_call 124; exact lat_call _ (implBallot_is false _ _ _ HQ.out _)))))
        refine wpQuiet_nil ?_
        rintro w3 ⟨⟨_, hb3⟩, rfl⟩
        clear T0 C0 C1 C2
        go_wp2
        go_ret
        refine ⟨ret_boolB ?_, (HB.out _ (hbx.trans (hb3.mono (by simp; omega)))).2⟩
        symm
        exact tallyOk_no (k := k) (by rw [HV.out]; omega) (by rw [HG.out]; simp [HQ.out])
      have HQ := Lib.hid hq; clear hq
      by_cases h4 : 0 < k
      · obtain ⟨hp0, hp1, hp2⟩ := hpv h4
        clear hpv
        obtain ⟨p, hkp⟩ : ∃ p, k = p + 1 := ⟨k - 1, by omega⟩
        have hE : (k : Int) - 1 = (p : Int) := by omega
        have hW : IntKind.i64.wrap (p : Int) = (p : Int) := IntWalk.i64_in _ (by omega)
        rw [show k - 1 = p by omega] at hp0 hp1 hp2
        have hw4 : (p : Int) < (n : Int) := by omega
        have hw5 : p < n := by omega
        have HKP := Lib.hid hkp; clear hkp
        obtain ⟨z, hz⟩ : ∃ z, lessB (pa, pb, pc) (ua, ub, uc) = z := ⟨_, rfl⟩
        have HC := Lib.hid hz; clear hz
        rcases z with _ | _
        · go_wp2
          have T0 := fun x : Lat (wr.alloc (.cells #[.int .i64 ua, .int .i64 ub, .int .i64 uc] 111)) => x.cell rbx
          have C0 := fun x : Lat (wr.alloc (.cells #[.int .i64 ua, .int .i64 ub, .int .i64 uc] 111)) => x.cell (kx.cell 0)
          have C1 := fun x : Lat (wr.alloc (.cells #[.int .i64 ua, .int .i64 ub, .int .i64 uc] 111)) => x.cell (kx.cell 1)
          have C2 := fun x : Lat (wr.alloc (.cells #[.int .i64 ua, .int .i64 ub, .int .i64 uc] 111)) => x.cell (kx.cell 2)
          have P0 := fun x : Lat (wr.alloc (.cells #[.int .i64 ua, .int .i64 ub, .int .i64 uc] 111)) => x.cell hp0
          have P1 := fun x : Lat (wr.alloc (.cells #[.int .i64 ua, .int .i64 ub, .int .i64 uc] 111)) => x.cell hp1
          have P2 := fun x : Lat (wr.alloc (.cells #[.int .i64 ua, .int .i64 ub, .int .i64 uc] 111)) => x.cell hp2
          refine wp_region_lat (by kernel_rfl) (by kernel_rfl) ?_
          repeat (go_big_quiet_step ((first | (go_at_call 124; exact lat_call _ (implBallot_is true _ _ _ HQ.out _)) | (go_at_call 125; exact lat_call _ (before_is false _ _ _ _ _ _ HC.out _)))))
          refine wpQuiet_nil ?_
          rintro w3 ⟨⟨_, hb3⟩, rfl⟩
          clear T0 C0 C1 C2 P0 P1 P2
          go_wp2
          go_ret
          refine ⟨ret_boolB ?_, (HB.out _ (hbx.trans (hb3.mono (by simp; omega)))).2⟩
          symm
          exact tallyOk_no (k := k) (by rw [HV.out]; omega) (by
            have h5 := HC.out
            unfold lessB at h5
            rw [HG.out, h5]; simp; intro _; omega)
        · go_wp2
          have T0 := fun x : Lat (wr.alloc (.cells #[.int .i64 ua, .int .i64 ub, .int .i64 uc] 111)) => x.cell rbx
          have C0 := fun x : Lat (wr.alloc (.cells #[.int .i64 ua, .int .i64 ub, .int .i64 uc] 111)) => x.cell (kx.cell 0)
          have C1 := fun x : Lat (wr.alloc (.cells #[.int .i64 ua, .int .i64 ub, .int .i64 uc] 111)) => x.cell (kx.cell 1)
          have C2 := fun x : Lat (wr.alloc (.cells #[.int .i64 ua, .int .i64 ub, .int .i64 uc] 111)) => x.cell (kx.cell 2)
          have P0 := fun x : Lat (wr.alloc (.cells #[.int .i64 ua, .int .i64 ub, .int .i64 uc] 111)) => x.cell hp0
          have P1 := fun x : Lat (wr.alloc (.cells #[.int .i64 ua, .int .i64 ub, .int .i64 uc] 111)) => x.cell hp1
          have P2 := fun x : Lat (wr.alloc (.cells #[.int .i64 ua, .int .i64 ub, .int .i64 uc] 111)) => x.cell hp2
          refine wp_region_lat (by kernel_rfl) (by kernel_rfl) ?_
          repeat (go_big_quiet_step ((first | (go_at_call 124; exact lat_call _ (implBallot_is true _ _ _ HQ.out _)) | (go_at_call 125; exact lat_call _ (before_is true _ _ _ _ _ _ HC.out _)))))
          refine wpQuiet_nil ?_
          rintro w3 ⟨⟨_, hb3⟩, rfl⟩
          clear T0 C0 C1 C2 P0 P1 P2
          go_wp2
          go_roundw
          case rel =>
            refine ⟨k + 1, by omega, by go_num, fun j hj => ?_, hbx.trans (hb3.mono (by simp; omega))⟩
            by_cases e : j = k
            · have h5 := HC.out
              unfold lessB at h5
              rw [e, HG.out, h5]; simp [HQ.out]
            · exact hall.out j (by omega)
          case measure => simp [intOf]; omega
      · clear hpv
        have hd : decide ((0 : Int) < (k : Int)) = false := by simp; omega
        have HK0 : Hid (k = 0) := by show _ = _; omega
        go_wp2
        have T0 := fun x : Lat (wr.alloc (.cells #[.int .i64 ua, .int .i64 ub, .int .i64 uc] 111)) => x.cell rbx
        have C0 := fun x : Lat (wr.alloc (.cells #[.int .i64 ua, .int .i64 ub, .int .i64 uc] 111)) => x.cell (kx.cell 0)
        have C1 := fun x : Lat (wr.alloc (.cells #[.int .i64 ua, .int .i64 ub, .int .i64 uc] 111)) => x.cell (kx.cell 1)
        have C2 := fun x : Lat (wr.alloc (.cells #[.int .i64 ua, .int .i64 ub, .int .i64 uc] 111)) => x.cell (kx.cell 2)
        refine wp_region_lat (by kernel_rfl) (by kernel_rfl) ?_
        repeat (go_big_quiet_step ((first | (go_at_call 124; exact lat_call _ (implBallot_is true _ _ _ HQ.out _)))))
        refine wpQuiet_nil ?_
        rintro w3 ⟨⟨_, hb3⟩, rfl⟩
        clear T0 C0 C1 C2
        go_wp2
        go_roundw
        case rel =>
          refine ⟨k + 1, by omega, by go_num, fun j hj => ?_, hbx.trans (hb3.mono (by simp; omega))⟩
          by_cases e : j = k
          · rw [e, HG.out]; simp [HQ.out, HK0.out]
          · exact hall.out j (by omega)
        case measure => simp [intOf]; omega
    · go_wp2
      go_ret
      refine ⟨ret_boolB ?_, hbw⟩
      symm
      exact tallyOk_yes fun j hj => hall.out j (by rw [HV.out] at hj; omega)
theorem implTallyOk_is (q : Bool) (A : Option Addr) (c : Nat) (vs : List B3) (hq : tallyOkB vs = q) (w : World) (hr : Rd3 w w.heap.size A vs) (hn : vs.length ≤ 1048576) :
    Calls Tryz.prog 112 #[.agg #[.slice A vs.length c]] w fun e w' => e = .returned (.bool q) ∧ Below w.heap.size w w' := by
  rw [← hq]; exact implTallyOk_any A c vs w hr hn
end Go.Proofs.YtfdfjmibjnmhpaaGreat.V

namespace Go.Proofs.YtfdfjmibjnmhpaaGreat.V
open Go.RowKit Go.Proofs.YtfdfjmibjnmhpaaGreat.B

def geB (n : Int) (u : B3) : Bool := !(below4 n u)
def nzB (u : B3) : Bool := !(zero4 u)
theorem any_not {α : Type} (p : α → Bool) (l : List α) : l.any (fun x => !(p x)) = !(l.all p) := by
  induction l with
  | nil => rfl
  | cons a l ih => simp only [List.any_cons, List.all_cons, ih]; cases p a <;> simp
theorem any_ge (n : Int) (l : List B3) : l.any (geB n) = !(l.all (below4 n)) := any_not _ l
theorem any_nz (l : List B3) : l.any nzB = !(l.all zero4) := any_not _ l
theorem take_any3 (p : B3 → Bool) (vs : List B3) (j : Nat) (h : j < vs.length) : (vs.take (j + 1)).any p = ((vs.take j).any p || p (vs.getD j z3)) := by
  rw [show vs.take (j + 1) = vs.take j ++ [vs.getD j z3] from take_getD vs z3 j h, List.any_append]
  simp
def Idx4 (z : Bool) (w : World) (e : Ending) (w' : World) : Prop := (∃ y : Int, -1 ≤ y ∧ y ≤ 1048576 ∧ decide (0 ≤ y) = z ∧ e = Ending.returned (.int .i64 y)) ∧ Below w.heap.size w w'
/-- The box of a replica's state, of which the number of replicas is read. -/
def CapN (w : World) (pr : Nat) (n : Int) : Prop := w.cell? ⟨pr, 0, none⟩ = some (.int .i64 n)
theorem CapN.on {w w' : World} {pr : Nat} {n : Int} (h : CapN w pr n) (hb : Below w.heap.size w w') : CapN w' pr n := (hb.cell (p := ⟨pr, 0, none⟩) (World.block_lt_of_cell? w _ h)).trans h

theorem clo_ge (ua ub uc n : Int) (pr : Nat) (w : World) (hc : CapN w pr n) :
    Calls Tryz.prog 114 #[.agg #[.int .i64 ua, .int .i64 ub, .int .i64 uc], .pointer (some ⟨pr, 0, none⟩)] w fun e w' => e = .returned (.bool (geB n (ua, ub, uc))) ∧ Below w.heap.size w w' := by
  have kv := World.block_lt_of_cell? w _ hc
  simp only at kv
  have hv0 : (w.alloc (.cells #[.int .i64 ua, .int .i64 ub, .int .i64 uc] 111)).cell? ⟨pr, 0, none⟩ = some (.int .i64 n) := (World.cell?_alloc_lt w _ ⟨pr, 0, none⟩ kv).trans hc
  unfold geB below4
  by_cases h1 : ua < n
  all_goals
    go_enter Tryz.func114, Tryz.ntmps114
    go_wp2
    go_ret
    exact ⟨ret_bool (by simp [h1] <;> omega), (Below.refl _ _).alloc (Nat.le_refl _) _⟩
theorem clo_nz (ua ub uc : Int) (w : World) :
    Calls Tryz.prog 115 #[.agg #[.int .i64 ua, .int .i64 ub, .int .i64 uc]] w fun e w' => e = .returned (.bool (nzB (ua, ub, uc))) ∧ Below w.heap.size w w' := by
  unfold nzB zero4
  by_cases h1 : ub = 0
  · subst h1
    go_enter Tryz.func115, Tryz.ntmps115
    go_wp2
    go_ret
    exact ⟨ret_bool (by simp), (Below.refl _ _).alloc (Nat.le_refl _) _⟩
  · have h1' : (ub == 0) = false := by simpa using h1
    have h1'' : (ub != 0) = true := by simpa using h1
    have H1 := Lib.hid h1; clear h1
    go_enter Tryz.func115, Tryz.ntmps115
    go_wp2
    go_ret
    exact ⟨ret_bool (by simp [H1.out]), (Below.refl _ _).alloc (Nat.le_refl _) _⟩

set_option maxHeartbeats 800000 in
theorem index_ge (n : Int) (pr : Nat) (A : Option Addr) (c : Nat) (vs : List B3) (w : World) (hr : Rd3 w w.heap.size A vs) (hn : vs.length ≤ 1048576) (hc : CapN w pr n) :
    Calls Tryz.prog 126 #[.slice A vs.length c, .func (.func 114) #[] #[.pointer (some ⟨pr, 0, none⟩)]] w (Idx4 (vs.any (geB n)) w) := by
  obtain ⟨z, hz⟩ : ∃ z, vs.any (geB n) = z := ⟨_, rfl⟩
  rw [hz]
  have HZ := Lib.hid hz; clear hz
  obtain ⟨l, hl⟩ : ∃ l, vs.length = l := ⟨_, rfl⟩
  rw [hl] at hn ⊢
  have HL := Lib.hid hl; clear hl
  have HRV := Lib.hid hr; clear hr
  have HC := Lib.hid hc; clear hc
  have HA := Lib.hid (fun j h => take_any3 (geB n) vs j h)
  go_enter Tryz.func126, Tryz.ntmps126
  go_wp2
  go_loopw [8] (fun i wr => ∃ (j : Nat), j ≤ l ∧ i = .int .i64 j ∧ Hid ((vs.take j).any (geB n) = false) ∧ Below w.heap.size w wr) (fun i _ => l - (intOf i).toNat)
  case atStart => exact ⟨0, Nat.zero_le _, rfl, by show _ = _; simp, Below.refl _ _⟩
  case round =>
    obtain ⟨j, hj, rfl, hy, hbel⟩ := hrel
    by_cases hlj : j < l
    · obtain ⟨b', off', rfl, hb', hd0, hd1, hd2⟩ := Rd3.at_ (HRV.out.below hbel) (k := j) (by rw [HL.out]; omega)
      have hsa := HA.out j (by rw [HL.out]; exact hlj)
      rw [hy.out] at hsa
      obtain ⟨⟨ua, ub, uc⟩, hu⟩ : ∃ u, vs.getD j z3 = u := ⟨_, rfl⟩
      rw [hu] at hd0 hd1 hd2 hsa
      simp only at hd0 hd1 hd2
      clear hu
      have hcall := clo_ge ua ub uc n pr wr (HC.out.on hbel)
      obtain ⟨q, hq⟩ : ∃ q, geB n (ua, ub, uc) = q := ⟨_, rfl⟩
      rw [hq] at hcall hsa
      simp only [Bool.false_or] at hsa
      have HSA := Lib.hid hsa
      have HCL := Lib.hid hcall
      clear hsa hcall hq hy
      cases q
      · go_wp2_with fail
        refine HCL.out.mono ?_
        rintro e w1 ⟨rfl, hb1⟩
        go_wp2
        go_roundw
        case rel => exact ⟨j + 1, by omega, by go_num, HSA, hbel.trans (hb1.mono hbel.size)⟩
        case measure => simp [intOf]; omega
      · have HT : Hid (z = true) := by
          show _ = _
          rw [← HZ.out, List.any_eq_true]
          have := HSA.out
          rw [List.any_eq_true] at this
          obtain ⟨x, hx, hp⟩ := this
          exact ⟨x, List.mem_of_mem_take hx, hp⟩
        go_wp2_with fail
        refine HCL.out.mono ?_
        rintro e w1 ⟨rfl, hb1⟩
        go_wp2
        go_ret
        exact ⟨⟨_, by omega, by omega, by rw [HT.out]; simp, rfl⟩, hbel.trans (hb1.mono hbel.size)⟩
    · have hjl : j = l := by omega
      subst hjl
      have HT : Hid (z = false) := by
        show _ = _
        rw [← HZ.out, ← hy.out, List.take_of_length_le (by rw [HL.out]; omega)]
      go_wp2
      go_ret
      exact ⟨⟨-1, by omega, by omega, by rw [HT.out]; rfl, rfl⟩, hbel⟩
theorem contains_ge (z : Bool) (n : Int) (pr : Nat) (A : Option Addr) (c : Nat) (vs : List B3) (hz : vs.any (geB n) = z) (w : World) (hr : Rd3 w w.heap.size A vs) (hn : vs.length ≤ 1048576) (hc : CapN w pr n) :
    Calls Tryz.prog 113 #[.slice A vs.length c, .func (.func 114) #[] #[.pointer (some ⟨pr, 0, none⟩)]] w fun e w' => e = .returned (.bool z) ∧ Below w.heap.size w w' := by
  have HI := Lib.hid (index_ge n pr A c vs w hr hn hc)
  rw [hz] at HI
  clear hr hc hz
  go_enter Tryz.func113, Tryz.ntmps113
  go_wp2_with fail
  refine HI.out.mono ?_
  rintro e w1 ⟨⟨y, hy1, hy2, hyz, rfl⟩, hb1⟩
  have HYZ := Lib.hid hyz; clear hyz
  go_wp2
  go_ret
  exact ⟨ret_bool HYZ.out, hb1⟩

set_option maxHeartbeats 800000 in
theorem index_nz (A : Option Addr) (c : Nat) (vs : List B3) (w : World) (hr : Rd3 w w.heap.size A vs) (hn : vs.length ≤ 1048576) :
    Calls Tryz.prog 126 #[.slice A vs.length c, .func (.func 115) #[] #[]] w (Idx4 (vs.any (nzB)) w) := by
  obtain ⟨z, hz⟩ : ∃ z, vs.any (nzB) = z := ⟨_, rfl⟩
  rw [hz]
  have HZ := Lib.hid hz; clear hz
  obtain ⟨l, hl⟩ : ∃ l, vs.length = l := ⟨_, rfl⟩
  rw [hl] at hn ⊢
  have HL := Lib.hid hl; clear hl
  have HRV := Lib.hid hr; clear hr
  have HA := Lib.hid (fun j h => take_any3 (nzB) vs j h)
  go_enter Tryz.func126, Tryz.ntmps126
  go_wp2
  go_loopw [8] (fun i wr => ∃ (j : Nat), j ≤ l ∧ i = .int .i64 j ∧ Hid ((vs.take j).any (nzB) = false) ∧ Below w.heap.size w wr) (fun i _ => l - (intOf i).toNat)
  case atStart => exact ⟨0, Nat.zero_le _, rfl, by show _ = _; simp, Below.refl _ _⟩
  case round =>
    obtain ⟨j, hj, rfl, hy, hbel⟩ := hrel
    by_cases hlj : j < l
    · obtain ⟨b', off', rfl, hb', hd0, hd1, hd2⟩ := Rd3.at_ (HRV.out.below hbel) (k := j) (by rw [HL.out]; omega)
      have hsa := HA.out j (by rw [HL.out]; exact hlj)
      rw [hy.out] at hsa
      obtain ⟨⟨ua, ub, uc⟩, hu⟩ : ∃ u, vs.getD j z3 = u := ⟨_, rfl⟩
      rw [hu] at hd0 hd1 hd2 hsa
      simp only at hd0 hd1 hd2
      clear hu
      have hcall := clo_nz ua ub uc wr
      obtain ⟨q, hq⟩ : ∃ q, nzB (ua, ub, uc) = q := ⟨_, rfl⟩
      rw [hq] at hcall hsa
      simp only [Bool.false_or] at hsa
      have HSA := Lib.hid hsa
      have HCL := Lib.hid hcall
      clear hsa hcall hq hy
      cases q
      · go_wp2_with fail
        refine HCL.out.mono ?_
        rintro e w1 ⟨rfl, hb1⟩
        go_wp2
        go_roundw
        case rel => exact ⟨j + 1, by omega, by go_num, HSA, hbel.trans (hb1.mono hbel.size)⟩
        case measure => simp [intOf]; omega
      · have HT : Hid (z = true) := by
          show _ = _
          rw [← HZ.out, List.any_eq_true]
          have := HSA.out
          rw [List.any_eq_true] at this
          obtain ⟨x, hx, hp⟩ := this
          exact ⟨x, List.mem_of_mem_take hx, hp⟩
        go_wp2_with fail
        refine HCL.out.mono ?_
        rintro e w1 ⟨rfl, hb1⟩
        go_wp2
        go_ret
        exact ⟨⟨_, by omega, by omega, by rw [HT.out]; simp, rfl⟩, hbel.trans (hb1.mono hbel.size)⟩
    · have hjl : j = l := by omega
      subst hjl
      have HT : Hid (z = false) := by
        show _ = _
        rw [← HZ.out, ← hy.out, List.take_of_length_le (by rw [HL.out]; omega)]
      go_wp2
      go_ret
      exact ⟨⟨-1, by omega, by omega, by rw [HT.out]; rfl, rfl⟩, hbel⟩
theorem contains_nz (z : Bool) (A : Option Addr) (c : Nat) (vs : List B3) (hz : vs.any (nzB) = z) (w : World) (hr : Rd3 w w.heap.size A vs) (hn : vs.length ≤ 1048576) :
    Calls Tryz.prog 113 #[.slice A vs.length c, .func (.func 115) #[] #[]] w fun e w' => e = .returned (.bool z) ∧ Below w.heap.size w w' := by
  have HI := Lib.hid (index_nz A c vs w hr hn)
  rw [hz] at HI
  clear hr hz
  go_enter Tryz.func113, Tryz.ntmps113
  go_wp2_with fail
  refine HI.out.mono ?_
  rintro e w1 ⟨⟨y, hy1, hy2, hyz, rfl⟩, hb1⟩
  have HYZ := Lib.hid hyz; clear hyz
  go_wp2
  go_ret
  exact ⟨ret_bool HYZ.out, hb1⟩

end Go.Proofs.YtfdfjmibjnmhpaaGreat.V

namespace Go.Proofs.YtfdfjmibjnmhpaaGreat.V
open Go.RowKit Go.Proofs.YtfdfjmibjnmhpaaGreat.B

/-- The tallies in their order. -/
def tk (pr vo re ds : List B3) (k : Nat) : List B3 := if k = 0 then pr else if k = 1 then vo else if k = 2 then re else ds
theorem tals_no {n : Int} {pr vo re ds : List B3} {k : Nat} (h : talB n (tk pr vo re ds k) = false) : (talB n pr && (talB n vo && (talB n re && talB n ds)) && ds.all zero4) = false := by
  unfold tk at h
  by_cases h0 : k = 0
  · rw [if_pos h0] at h; simp [h]
  rw [if_neg h0] at h
  by_cases h1 : k = 1
  · rw [if_pos h1] at h; simp [h]
  rw [if_neg h1] at h
  by_cases h2 : k = 2
  · rw [if_pos h2] at h; simp [h]
  rw [if_neg h2] at h
  simp [h]
theorem tals_yes {n : Int} {pr vo re ds : List B3} (h : ∀ j, j < 4 → talB n (tk pr vo re ds j) = true) : (talB n pr && (talB n vo && (talB n re && talB n ds)) && ds.all zero4) = ds.all zero4 := by
  have h0 : talB n pr = true := h 0 (by omega)
  have h1 : talB n vo = true := h 1 (by omega)
  have h2 : talB n re = true := h 2 (by omega)
  have h3 : talB n ds = true := h 3 (by omega)
  simp [h0, h1, h2, h3]

set_option maxHeartbeats 3200000 in
theorem implTallies_is (z : Bool) (q : Rq) (hz : talsQ q.dat = z) (w : World) (hr : RdQ w w.heap.size q) (hf : FewQ q) :
    Calls Tryz.prog 100 #[q.agg] w fun e w' => e = .returned (.bool z) ∧ Below w.heap.size w w' := by
  obtain ⟨n, id, own, view, left, voted, lv, lx, dn, pr, vo, re, ds, hs, Av, Ap, Ao, Ar, Ad, Ah, cv, cp, co, cr, cd, ch⟩ := q
  obtain ⟨rv, rp, ro, rr, rd, rh⟩ := hr
  obtain ⟨fv, fp, fo, fr, fd, fh⟩ := hf
  simp only [Rq.agg, Rq.cells] at *
  have HZ : Hid ((talB n pr && (talB n vo && (talB n re && talB n ds)) && ds.all zero4) = z) := hz
  clear hz
  have hK : ∀ k, k < 4 → ∃ A c, #[Value.slice Ap pr.length cp, .slice Ao vo.length co, .slice Ar re.length cr, .slice Ad ds.length cd][k]? = some (.slice A (tk pr vo re ds k).length c) ∧ Rd3 w w.heap.size A (tk pr vo re ds k) ∧ (tk pr vo re ds k).length ≤ 1048576 := by
    intro k hk
    rcases (by omega : k = 0 ∨ k = 1 ∨ k = 2 ∨ k = 3) with rfl | rfl | rfl | rfl
    · exact ⟨Ap, cp, rfl, rp, fp⟩
    · exact ⟨Ao, co, rfl, ro, fo⟩
    · exact ⟨Ar, cr, rfl, rr, fr⟩
    · exact ⟨Ad, cd, rfl, rd, fd⟩
  have HK := Lib.hid hK; clear hK
  have HD := Lib.hid (fun (x : Bool) (hx : ds.any nzB = x) (W : World) (h : Below w.heap.size w W) => contains_nz x Ad cd ds hx W ((rd.below h).more h.size) fd)
  clear rv rp ro rr rd rh fv fp fo fr fd fh
  obtain ⟨lv0, elv0⟩ : ∃ m, voted.length = m := ⟨_, rfl⟩
  obtain ⟨lp0, elp0⟩ : ∃ m, pr.length = m := ⟨_, rfl⟩
  obtain ⟨lo0, elo0⟩ : ∃ m, vo.length = m := ⟨_, rfl⟩
  obtain ⟨lr0, elr0⟩ : ∃ m, re.length = m := ⟨_, rfl⟩
  obtain ⟨ld0, eld0⟩ : ∃ m, ds.length = m := ⟨_, rfl⟩
  obtain ⟨lh0, elh0⟩ : ∃ m, hs.length = m := ⟨_, rfl⟩
  simp only [elv0, elp0, elo0, elr0, eld0, elh0] at HK HD ⊢
  clear elv0 elp0 elo0 elr0 eld0 elh0
  have ka := (Blk.new w 75 #[.int .i64 n, .int .i64 id, .int .i64 own, .int .i64 view, .int .i64 left, .slice Av lv0 cv, .int .i64 lv, .int .i64 lx, .int .i64 dn, .slice Ap lp0 cp, .slice Ao lo0 co, .slice Ar lr0 cr, .slice Ad ld0 cd, .slice Ah lh0 ch]).alloc (.cells #[.slice Ap lp0 cp, .slice Ao lo0 co, .slice Ar lr0 cr, .slice Ad ld0 cd] 72)
  have kt := Blk.new (w.alloc (.cells #[.int .i64 n, .int .i64 id, .int .i64 own, .int .i64 view, .int .i64 left, .slice Av lv0 cv, .int .i64 lv, .int .i64 lx, .int .i64 dn, .slice Ap lp0 cp, .slice Ao lo0 co, .slice Ar lr0 cr, .slice Ad ld0 cd, .slice Ah lh0 ch] 75)) 72 #[.slice Ap lp0 cp, .slice Ao lo0 co, .slice Ar lr0 cr, .slice Ad ld0 cd]
  simp only [World.size_alloc] at kt
  have hB := up_ (up_ (Below.refl w.heap.size w) (.cells #[.int .i64 n, .int .i64 id, .int .i64 own, .int .i64 view, .int .i64 left, .slice Av lv0 cv, .int .i64 lv, .int .i64 lx, .int .i64 dn, .slice Ap lp0 cp, .slice Ao lo0 co, .slice Ar lr0 cr, .slice Ad ld0 cd, .slice Ah lh0 ch] 75)) (.cells #[.slice Ap lp0 cp, .slice Ao lo0 co, .slice Ar lr0 cr, .slice Ad ld0 cd] 72)
  have HKA := Lib.hid ka; have HKT := Lib.hid kt; have HB := Lib.hid hB; clear ka kt hB
  go_enter Tryz.func100, Tryz.ntmps100
  go_wp2
  go_loopw [15] (fun i wr => ∃ (k : Nat), k ≤ 4 ∧ i = .int .i64 k ∧ Hid (∀ j, j < k → talB n (tk pr vo re ds j) = true) ∧ Blk wr w.heap.size 75 #[.int .i64 n, .int .i64 id, .int .i64 own, .int .i64 view, .int .i64 left, .slice Av lv0 cv, .int .i64 lv, .int .i64 lx, .int .i64 dn, .slice Ap lp0 cp, .slice Ao lo0 co, .slice Ar lr0 cr, .slice Ad ld0 cd, .slice Ah lh0 ch] ∧ Blk wr (w.heap.size + 1) 72 #[.slice Ap lp0 cp, .slice Ao lo0 co, .slice Ar lr0 cr, .slice Ad ld0 cd] ∧ Below w.heap.size w wr) (fun i _ => 4 - (intOf i).toNat)
  case atStart => exact ⟨0, Nat.zero_le _, rfl, fun j hj => absurd hj (by omega), HKA.out, HKT.out, HB.out⟩
  case round =>
    obtain ⟨k, hk, rfl, hall, ka, kt, hB⟩ := hrel
    clear HKA HKT HB
    have ra := ka.rule
    by_cases hlt : k < 4
    · obtain ⟨A, c, hx, hrd, hfw⟩ := HK.out k hlt
      have hc0 := (kt.cell k).trans hx
      have HRD := Lib.hid hrd; clear hrd hx
      have HTB : Hid (talB n (tk pr vo re ds k) = ((tk pr vo re ds k).all (below4 n) && tallyOkB (tk pr vo re ds k))) := rfl
      obtain ⟨vs, hvs⟩ : ∃ v, tk pr vo re ds k = v := ⟨_, rfl⟩
      rw [hvs] at hc0 HRD hfw HTB
      have HVS := Lib.hid hvs; clear hvs
      obtain ⟨b1, hb1⟩ : ∃ b, tallyOkB vs = b := ⟨_, rfl⟩
      obtain ⟨b2, hb2⟩ : ∃ b, vs.any (geB n) = b := ⟨_, rfl⟩
      have hb3 : vs.all (below4 n) = !b2 := by rw [← hb2, any_ge, Bool.not_not]
      rw [hb1, hb3] at HTB
      clear hb3
      have H1 := Lib.hid (fun (W : World) (h : Below w.heap.size w W) => implTallyOk_is b1 A c vs hb1 W ((HRD.out.below h).more h.size) hfw)
      have H2 := Lib.hid (fun (W : World) (h : Below w.heap.size w W) (g : CapN W w.heap.size n) => contains_ge b2 n w.heap.size A c vs hb2 W ((HRD.out.below h).more h.size) hfw g)
      obtain ⟨m, hm⟩ : ∃ m, vs.length = m := ⟨_, rfl⟩
      rw [hm] at hc0 H1 H2 hfw
      clear hm hb1 hb2 HRD
      have kx := Blk.new wr 72 #[.slice A m c]
      have ka1 := ka.alloc (.cells #[.slice A m c] 72)
      have kt1 := kt.alloc (.cells #[.slice A m c] 72)
      have hB1 : Below w.heap.size w (wr.alloc (.cells #[.slice A m c] 72)) := hB.alloc hB.size _
      go_wp2_with fail
      refine (H1.out _ hB1).mono ?_
      rintro e w1 ⟨rfl, hb1⟩
      have ka2 := ka1.on hb1
      have kt2 := kt1.on hb1
      have kx2 := kx.on hb1
      have hB2 := on_ hB1 hb1
      clear ra hc0 ka kt hB kx ka1 kt1 hB1 hb1
      have ra2 := ka2.rule
      have rx2 := kx2.rule
      rcases b1 with _ | _
      · go_wp2
        go_ret
        exact ⟨ret_bool (by rw [← HZ.out, tals_no (k := k) (by rw [HVS.out, HTB.out]; simp)]), hB2⟩
      · go_wp2_with fail
        refine (H2.out _ hB2 (ra2 0)).mono ?_
        rintro e w3 ⟨rfl, hb3⟩
        have ka4 := ka2.on hb3
        have kt4 := kt2.on hb3
        have hB4 := on_ hB2 hb3
        clear ra2 rx2 ka2 kt2 kx2 hB2 hb3
        have ra4 := ka4.rule
        rcases b2 with _ | _
        · go_wp2
          go_roundw
          case rel =>
            refine ⟨k + 1, by omega, by go_num, fun j hj => ?_, ka4, kt4, hB4⟩
            by_cases e : j = k
            · rw [e, HVS.out, HTB.out]; rfl
            · exact hall.out j (by omega)
          case measure => simp [intOf]; omega
        · go_wp2
          go_ret
          exact ⟨ret_bool (by rw [← HZ.out, tals_no (k := k) (by rw [HVS.out, HTB.out]; rfl)]), hB4⟩
    · obtain ⟨y, hy⟩ : ∃ y, ds.any nzB = y := ⟨_, rfl⟩
      have HY : Hid (z = !y) := by
        show _ = _
        rw [← HZ.out, tals_yes fun j hj => hall.out j (by omega), ← hy, any_nz, Bool.not_not]
      have H1 := Lib.hid (HD.out y hy); clear hy
      go_wp2_with fail
      refine (H1.out _ hB).mono ?_
      rintro e w1 ⟨rfl, hb1⟩
      have hB1 := on_ hB hb1
      clear hb1
      go_wp2
      go_ret
      exact ⟨ret_bool (by rw [HY.out]), hB1⟩
end Go.Proofs.YtfdfjmibjnmhpaaGreat.V
