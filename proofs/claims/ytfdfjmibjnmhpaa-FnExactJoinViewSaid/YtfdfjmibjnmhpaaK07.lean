/-
  Quorum sizes, of the model and of the program: contracts. What the functions on reports answer, as plain functions on lists. Which lists of reports are valid, for the model and for the program: contracts. What TallyOk of the model answers: its contract. Which states of a replica are valid, as mathematics. Count, Told and Winner of the model: contracts. Told of the model, and the two loops that look for a ballot: contracts. Winner of the model: its contract. Voters, ViewsIn and Silent of the model: contracts. ViewsIn of the model: its contract. SizeOk and Silent of the model: contracts. Faults, Strong, Weak and Open of the model: contracts. No statement is proved here.
-/
import Derived.Test.YtfdfjmibjnmhpaaK06
import Derived.Test.YtfdfjmibjnmhpaaK02
import Derived.Deep.RegionWith
import Derived.Test.YtfdfjmibjnmhpaaK03
import Derived.IntWalk
import Derived.Deep.AppendLies
import Derived.Deep.RegionHeld3
set_option linter.unusedVariables false
set_option maxRecDepth 100000
namespace Go.Proofs.Ytfdfjmibjnmhpaa.V
open Go.RowKit Go.Proofs.Ytfdfjmibjnmhpaa.B

theorem ret_int {a b : Int} (h : a = b) : Ending.returned (.int .i64 a) = .returned (.int .i64 b) := by rw [h]
def sizeB (n : Int) : Bool := decide (n = 4) || decide (n = 7)
theorem specSize_any (n : Int) (w : World) : Calls Try.prog 70 #[.int .i64 n] w fun e w' => e = .returned (.bool (sizeB n)) ∧ w' = w := by
  unfold sizeB
  by_cases h1 : n = 4
  · subst h1
    go_enter Try.func70, Try.ntmps70
    go_wp2
    go_ret
    exact ⟨rfl, rfl⟩
  · have hf : (n == 4) = false := by simpa using h1
    by_cases h2 : n = 7
    · subst h2
      go_enter Try.func70, Try.ntmps70
      go_wp2
      go_ret
      exact ⟨rfl, rfl⟩
    · have hf2 : (n == 7) = false := by simpa using h2
      go_enter Try.func70, Try.ntmps70
      go_wp2
      go_ret
      exact ⟨ret_bool (by simp [h1, h2]), rfl⟩
theorem specSize_is (n : Int) (q : Bool) (h : sizeB n = q) (w : World) : Calls Try.prog 70 #[.int .i64 n] w fun e w' => e = .returned (.bool q) ∧ w' = w := by
  rw [← h]; exact specSize_any n w

def faultsR (n : Int) : Int := if sizeB n then n.tdiv 3 else -1
def strongR (n : Int) : Int := if sizeB n then n - n.tdiv 3 else -1
def weakR (n : Int) : Int := if sizeB n then n.tdiv 3 + 1 else -1
theorem size_two {n : Int} (h : sizeB n = true) : n = 4 ∨ n = 7 := by simpa [sizeB] using h

theorem implSize_any (n : Int) (w : World) : Calls Try.prog 80 #[.int .i64 n] w fun e w' => e = .returned (.bool (sizeB n)) ∧ w' = w := by
  unfold sizeB
  by_cases h1 : n = 4
  · subst h1
    go_enter Try.func80, Try.ntmps80
    go_wp2
    go_ret
    exact ⟨rfl, rfl⟩
  · have hf : (n == 4) = false := by simpa using h1
    by_cases h2 : n = 7
    · subst h2
      go_enter Try.func80, Try.ntmps80
      go_wp2
      go_ret
      exact ⟨rfl, rfl⟩
    · have hf2 : (n == 7) = false := by simpa using h2
      go_enter Try.func80, Try.ntmps80
      go_wp2
      go_ret
      exact ⟨ret_bool (by simp [h1, h2]), rfl⟩
theorem implSize_is (n : Int) (q : Bool) (h : sizeB n = q) (w : World) : Calls Try.prog 80 #[.int .i64 n] w fun e w' => e = .returned (.bool q) ∧ w' = w := by
  rw [← h]; exact implSize_any n w
theorem implFaults_any (n : Int) (w : World) : Calls Try.prog 114 #[.int .i64 n] w fun e w' => e = .returned (.int .i64 (faultsR n)) ∧ w' = w := by
  rcases hs : sizeB n with _ | _
  · go_enter Try.func114, Try.ntmps114
    go_wp2_with (go_at_call 80; refine (implSize_is n false hs _).mono ?_; rintro e w0 ⟨rfl, rfl⟩)
    go_ret
    exact ⟨ret_int (by simp [faultsR, hs] <;> (unfold wrap64; omega)), rfl⟩
  · rcases size_two hs with rfl | rfl
    all_goals
      go_enter Try.func114, Try.ntmps114
      go_wp2_with (go_at_call 80; refine (implSize_is _ true hs _).mono ?_; rintro e w0 ⟨rfl, rfl⟩)
      go_ret
      exact ⟨ret_int (by simp [faultsR, hs] <;> (unfold wrap64; omega)), rfl⟩
theorem implWeak_any (n : Int) (w : World) : Calls Try.prog 89 #[.int .i64 n] w fun e w' => e = .returned (.int .i64 (weakR n)) ∧ w' = w := by
  rcases hs : sizeB n with _ | _
  · go_enter Try.func89, Try.ntmps89
    go_wp2_with (go_at_call 80; refine (implSize_is n false hs _).mono ?_; rintro e w0 ⟨rfl, rfl⟩)
    go_ret
    exact ⟨ret_int (by simp [weakR, hs]), rfl⟩
  · rcases size_two hs with rfl | rfl
    all_goals
      go_enter Try.func89, Try.ntmps89
      go_wp2_with (first | (go_at_call 80; refine (implSize_is _ true hs _).mono ?_; rintro e w0 ⟨rfl, rfl⟩) | (go_at_call 114; refine (implFaults_any _ _).mono ?_; rintro e w0 ⟨rfl, rfl⟩) | go_in)
      go_ret
      exact ⟨ret_int (by simp [weakR, faultsR, hs] <;> (unfold wrap64; omega)), rfl⟩
theorem weak_is (n z : Int) (hz : weakR n = z) (hs : sizeB n = true) (w : World) : Calls Try.prog 77 #[.int .i64 n] w fun e w' => e = .returned (.int .i64 z) ∧ w' = w := by
  subst hz
  rcases size_two hs with rfl | rfl
  all_goals
    go_enter Try.func77, Try.ntmps77
    go_wp2
    go_ret
    exact ⟨ret_int (by simp [weakR, hs]), rfl⟩
end Go.Proofs.Ytfdfjmibjnmhpaa.V

namespace Go.Proofs.Ytfdfjmibjnmhpaa.V
open Go.RowKit Go.Proofs.Ytfdfjmibjnmhpaa.B

def inB (n f : Int) : Bool := decide (0 ≤ f) && decide (f < n)
def repB (n view : Int) (r : Rp) : Bool := inB n r.f && msgOkB 3 view 0 r.v r.x r.vs
def goodR (n view : Int) (rs : List Rp) (i : Nat) : Bool := repB n view (rs.getD i zR) && (decide (i = 0) || decide ((rs.getD (i - 1) zR).f < (rs.getD i zR).f))
def allR (n view : Int) (rs : List Rp) : Bool := (List.range rs.length).all (goodR n view rs)
def viewR (view : Int) : Bool := decide (1 ≤ view ∧ view ≤ 9)
def repsOkB (n view : Int) (rs : List Rp) : Bool := allR n view rs && (sizeB n && viewR view)
theorem allR_yes {n view : Int} {rs : List Rp} (h : ∀ j, j < rs.length → goodR n view rs j = true) : allR n view rs = true := by
  unfold allR
  rw [List.all_eq_true]
  intro j hj
  exact h j (List.mem_range.1 hj)
theorem allR_no {n view : Int} {rs : List Rp} {k : Nat} (hk : k < rs.length) (h : goodR n view rs k = false) : allR n view rs = false := by
  unfold allR
  rw [List.all_eq_false]
  exact ⟨k, List.mem_range.2 hk, by simp [h]⟩

def hasV (val from_ : Int) (r : Rp) : Bool := r.vs.any fun p => decide (p.2 = val) && decide (from_ ≤ p.1)
def wit (rs : List Rp) (val from_ : Int) : Nat := rs.countP (hasV val from_)
/-- The greatest number below k at which ok holds, or -1. -/
def last (ok : Int → Bool) : Nat → Int
  | 0 => -1
  | k + 1 => if ok k then (k : Int) else last ok k
def groundR (n : Int) (rs : List Rp) (val : Int) (u : Int) : Bool := decide (weakR n ≤ (wit rs val u : Int))
def groundsR (n view : Int) (rs : List Rp) (val : Int) : Int := last (groundR n rs val) view.toNat
def freeL (r : Rp) : Bool := decide (r.x = 0)
def unbR (rs : List Rp) : Nat := rs.countP freeL
def freeR (n : Int) (rs : List Rp) : Bool := decide (strongR n ≤ (unbR rs : Int))
def supL (u val : Int) (r : Rp) : Bool := decide (r.x = 0) || (decide (0 ≤ u) && (decide (r.v < u) || decide (r.x = val)))
def supR (u val : Int) (rs : List Rp) : Nat := rs.countP (supL u val)
def safeR (n view : Int) (rs : List Rp) (val : Int) : Bool := freeR n rs || (decide (0 ≤ groundsR n view rs val) && decide (strongR n ≤ (supR (groundsR n view rs val) val rs : Int)))
/-- The best of the values 1 .. k and its grounds. -/
def best (g : Int → Int) (ok : Int → Bool) : Nat → Int × Int
  | 0 => (0, -1)
  | k + 1 => if (best g ok k).2 < g (k + 1 : Nat) && ok (k + 1 : Nat) then (((k + 1 : Nat) : Int), g (k + 1 : Nat)) else best g ok k
def chooseR (n view : Int) (rs : List Rp) (own : Int) : Int × Bool :=
  if freeR n rs then (own, true) else ((best (groundsR n view rs) (safeR n view rs) 60).1, decide (0 < (best (groundsR n view rs) (safeR n view rs) 60).1))

theorem last_lo (ok : Int → Bool) : ∀ k : Nat, -1 ≤ last ok k ∧ last ok k < k
  | 0 => by simp [last]
  | k + 1 => by
    have := last_lo ok k
    unfold last
    split <;> omega
theorem take_cnt {α : Type} (p : α → Bool) (l : List α) (z : α) (k : Nat) (h : k < l.length) : (l.take (k + 1)).countP p = (l.take k).countP p + (if p (l.getD k z) then 1 else 0) := by
  rw [take_getD l z k h, List.countP_append, List.countP_singleton]
theorem cnt_le {α : Type} (p : α → Bool) (l : List α) (k : Nat) : (l.take k).countP p ≤ k := Nat.le_trans List.countP_le_length (by rw [List.length_take]; omega)
theorem take_any {α : Type} (p : α → Bool) (l : List α) (z : α) (k : Nat) (h : k < l.length) : (l.take (k + 1)).any p = ((l.take k).any p || p (l.getD k z)) := by
  rw [take_getD l z k h, List.any_append]
  simp
end Go.Proofs.Ytfdfjmibjnmhpaa.V

namespace Go.Proofs.Ytfdfjmibjnmhpaa.V
open Go.RowKit Go.Proofs.Ytfdfjmibjnmhpaa.B

theorem l3report_is (q : Bool) (n view f a b : Int) (A : Option Addr) (c : Nat) (vs : List (Int × Int)) (hq : repB n view ⟨f, a, b, vs⟩ = q) (w : World) (hr : Rd w w.heap.size A vs) (hn : vs.length ≤ 1048576) :
    Calls Try.prog 104 #[.int .i64 n, .int .i64 view, .agg #[.int .i64 f, .int .i64 a, .int .i64 b, .slice A vs.length c]] w fun e w' => e = .returned (.bool q) ∧ Below w.heap.size w w' := by
  subst hq
  unfold repB inB
  have hr0 := fun O => (hr.alloc (Nat.le_refl _) O).more (Bd' := (w.alloc O).heap.size) (by simp)
  have HR := Lib.hid hr0; clear hr0 hr
  obtain ⟨q, hq⟩ : ∃ q, msgOkB 3 view 0 a b vs = q := ⟨_, rfl⟩
  simp only [hq]
  have HQ := Lib.hid hq; clear hq
  by_cases h1 : 0 ≤ f
  · by_cases h2 : f < n
    · go_enter Try.func104, Try.ntmps104
      go_wp2_with (go_at_call 57; refine (specMsgOk_is q 3 view 0 a b A c vs HQ.out _ (HR.out _) hn).mono ?_; rintro e w1 ⟨rfl, hb1⟩)
      go_ret
      exact ⟨ret_bool (by simp [h1, h2]), Below.trans ((Below.refl _ _).alloc (Nat.le_refl _) _) (hb1.mono (by simp))⟩
    · go_enter Try.func104, Try.ntmps104
      go_wp2
      go_ret
      exact ⟨ret_bool (by simp; intros; omega), (Below.refl _ _).alloc (Nat.le_refl _) _⟩
  · go_enter Try.func104, Try.ntmps104
    go_wp2
    go_ret
    exact ⟨ret_bool (by simp; intros; omega), (Below.refl _ _).alloc (Nat.le_refl _) _⟩

theorem reportOk_is (q : Bool) (n view f a b : Int) (A : Option Addr) (c : Nat) (vs : List (Int × Int)) (hq : repB n view ⟨f, a, b, vs⟩ = q) (w : World) (hr : Rd w w.heap.size A vs) (hn : vs.length ≤ 1048576) :
    Calls Try.prog 129 #[.int .i64 n, .int .i64 view, .agg #[.int .i64 f, .int .i64 a, .int .i64 b, .slice A vs.length c]] w fun e w' => e = .returned (.bool q) ∧ Below w.heap.size w w' := by
  subst hq
  unfold repB inB
  have hr0 := fun O => (hr.alloc (Nat.le_refl _) O).more (Bd' := (w.alloc O).heap.size) (by simp)
  have HR := Lib.hid hr0; clear hr0 hr
  obtain ⟨q, hq⟩ : ∃ q, msgOkB 3 view 0 a b vs = q := ⟨_, rfl⟩
  simp only [hq]
  have HQ := Lib.hid hq; clear hq
  by_cases h1 : 0 ≤ f
  · by_cases h2 : f < n
    · go_enter Try.func129, Try.ntmps129
      go_wp2_with (go_at_call 60; refine (implMsgOk_is q 3 view 0 a b A c vs HQ.out _ (HR.out _) hn).mono ?_; rintro e w1 ⟨rfl, hb1⟩)
      go_ret
      exact ⟨ret_bool (by simp [h1, h2]), Below.trans ((Below.refl _ _).alloc (Nat.le_refl _) _) (hb1.mono (by simp))⟩
    · go_enter Try.func129, Try.ntmps129
      go_wp2
      go_ret
      exact ⟨ret_bool (by simp; intros; omega), (Below.refl _ _).alloc (Nat.le_refl _) _⟩
  · go_enter Try.func129, Try.ntmps129
    go_wp2
    go_ret
    exact ⟨ret_bool (by simp; intros; omega), (Below.refl _ _).alloc (Nat.le_refl _) _⟩


set_option maxHeartbeats 1600000 in
theorem specReportsOk_any (n view : Int) (A : Option Addr) (c : Nat) (ps : List Pp) (w : World) (hr : RdR w w.heap.size A ps) (hf : Few ps) :
    Calls Try.prog 76 #[.int .i64 n, .int .i64 view, .slice A ps.length c] w fun e w' => e = .returned (.bool (repsOkB n view (rl ps))) ∧ Below w.heap.size w w' := by
  obtain ⟨hn, hv⟩ := hf
  obtain ⟨m, hvn⟩ : ∃ m, ps.length = m := ⟨_, rfl⟩
  rw [hvn] at hn hv ⊢
  have HVL := Lib.hid hv; clear hv
  have HV := Lib.hid hvn; clear hvn
  obtain ⟨z, hz⟩ : ∃ z, repsOkB n view (rl ps) = z := ⟨_, rfl⟩
  rw [hz]
  have HZ := Lib.hid hz; clear hz
  obtain ⟨qs, hqs⟩ : ∃ q, sizeB n = q := ⟨_, rfl⟩
  have HS := Lib.hid hqs; clear hqs
  go_enter Try.func76, Try.ntmps76
  go_wp2
  go_loopw [7] (fun i wr => ∃ (k : Nat), k ≤ m ∧ i = .int .i64 k ∧ Hid (∀ j, j < k → goodR n view (rl ps) j = true) ∧ Below w.heap.size w wr) (fun i _ => m - (intOf i).toNat)
  case atStart => exact ⟨0, Nat.zero_le _, rfl, fun j hj => absurd hj (by omega), Below.refl _ _⟩
  case round =>
    obtain ⟨k, hk, rfl, hall, hbel⟩ := hrel
    by_cases hlt : k < m
    · obtain ⟨b, off, rfl, hb, hc0, hc1, hc2, hc3, hrv⟩ := RdR.at_ (hr.below hbel) (k := k) (by rw [HV.out]; omega)
      have hpv : 0 < k → wr.cell? ⟨b, off + (k - 1) * 4, none⟩ = some (.int .i64 (ps.getD (k - 1) zP).r.f) := fun h0 => by
        obtain ⟨b', off', he, _, h1, _⟩ := RdR.at_ (hr.below hbel) (k := k - 1) (by rw [HV.out]; omega)
        injection he with he
        injection he with he1 he2
        subst he1 he2
        exact h1
      clear hr
      have hvl := HVL.out k hlt
      have HG : Hid (goodR n view (rl ps) k = (repB n view (ps.getD k zP).r && (decide (k = 0) || decide ((ps.getD (k - 1) zP).r.f < (ps.getD k zP).r.f)))) := by show _ = _; unfold goodR; rw [rl_at, rl_at]
      obtain ⟨⟨⟨uf, uv, ux, us⟩, A', c'⟩, hu⟩ : ∃ v, ps.getD k zP = v := ⟨_, rfl⟩
      obtain ⟨pf, hp⟩ : ∃ v, (ps.getD (k - 1) zP).r.f = v := ⟨_, rfl⟩
      rw [hu] at hc0 hc1 hc2 hc3 hrv hvl HG
      rw [hp] at hpv HG
      simp only at hc0 hc1 hc2 hc3 hrv hvl HG
      clear hu hp
      have HRV := Lib.hid ((fun x : Lat wr => (hrv.below (x.below.mono hbel.size)).more (Nat.le_trans hbel.size x.below.size) : ∀ x : Lat wr, Rd x.w x.w.heap.size A' us)); clear hrv
      have C0 := fun x : Lat wr => x.cell hc0
      have C1 := fun x : Lat wr => x.cell hc1
      have C2 := fun x : Lat wr => x.cell hc2
      have C3 := fun x : Lat wr => x.cell hc3
      rcases hq : repB n view ⟨uf, uv, ux, us⟩ with _ | _
      · have HQ := Lib.hid hq; clear hq hpv
        go_wp2
        refine wp_region_lat (by kernel_rfl) (by kernel_rfl) ?_
        repeat (go_big_quiet_step ((first | (go_at_call 104; exact lat_call _ (l3report_is false _ _ _ _ _ _ _ _ HQ.out _ (HRV.out _) hvl)))))
        refine wpQuiet_nil ?_
        rintro w3 ⟨⟨_, hb3⟩, rfl⟩
        clear C0 C1 C2 C3
        go_wp2
        go_ret
        refine ⟨ret_bool ?_, hbel.trans (hb3.mono hbel.size)⟩
        rw [← HZ.out]
        unfold repsOkB
        rw [allR_no (k := k) (by rw [rl_len, HV.out]; omega) (by rw [HG.out]; simp [HQ.out])]
        rfl
      have HQ := Lib.hid hq; clear hq
      by_cases h4 : 0 < k
      · have hp0 := hpv h4
        clear hpv
        obtain ⟨p, hkp⟩ : ∃ p, k = p + 1 := ⟨k - 1, by omega⟩
        have hE : (k : Int) - 1 = (p : Int) := by omega
        have hW : IntKind.i64.wrap (p : Int) = (p : Int) := IntWalk.i64_in _ (by omega)
        rw [show k - 1 = p by omega] at hp0
        have P0 := fun x : Lat wr => x.cell hp0
        have hw4 : (p : Int) < (m : Int) := by omega
        have hw5 : p < m := by omega
        have HKP := Lib.hid hkp; clear hkp
        by_cases h5 : pf < uf
        · have hd5 : decide (uf ≤ pf) = false := by simp; omega
          go_wp2
          refine wp_region_lat (by kernel_rfl) (by kernel_rfl) ?_
          repeat (go_big_quiet_step ((first | (go_at_call 104; exact lat_call _ (l3report_is true _ _ _ _ _ _ _ _ HQ.out _ (HRV.out _) hvl)))))
          refine wpQuiet_nil ?_
          rintro w3 ⟨⟨_, hb3⟩, rfl⟩
          clear C0 C1 C2 C3 P0
          go_wp2
          go_roundw
          case rel =>
            refine ⟨k + 1, by omega, by go_num, fun j hj => ?_, hbel.trans (hb3.mono hbel.size)⟩
            by_cases e : j = k
            · rw [e, HG.out]; simp [HQ.out, h5]
            · exact hall.out j (by omega)
          case measure => simp [intOf]; omega
        · have hd5 : decide (uf ≤ pf) = true := by simp; omega
          go_wp2
          refine wp_region_lat (by kernel_rfl) (by kernel_rfl) ?_
          repeat (go_big_quiet_step ((first | (go_at_call 104; exact lat_call _ (l3report_is true _ _ _ _ _ _ _ _ HQ.out _ (HRV.out _) hvl)))))
          refine wpQuiet_nil ?_
          rintro w3 ⟨⟨_, hb3⟩, rfl⟩
          clear C0 C1 C2 C3 P0
          go_wp2
          go_ret
          refine ⟨ret_bool ?_, hbel.trans (hb3.mono hbel.size)⟩
          rw [← HZ.out]
          unfold repsOkB
          rw [allR_no (k := k) (by rw [rl_len, HV.out]; omega) (by rw [HG.out]; simp [h5]; intro _; omega)]
          rfl
      · clear hpv
        have hd : decide ((0 : Int) < (k : Int)) = false := by simp; omega
        have HK0 : Hid (k = 0) := by show _ = _; omega
        go_wp2
        refine wp_region_lat (by kernel_rfl) (by kernel_rfl) ?_
        repeat (go_big_quiet_step ((first | (go_at_call 104; exact lat_call _ (l3report_is true _ _ _ _ _ _ _ _ HQ.out _ (HRV.out _) hvl)))))
        refine wpQuiet_nil ?_
        rintro w3 ⟨⟨_, hb3⟩, rfl⟩
        clear C0 C1 C2 C3
        go_wp2
        go_roundw
        case rel =>
          refine ⟨k + 1, by omega, by go_num, fun j hj => ?_, hbel.trans (hb3.mono hbel.size)⟩
          by_cases e : j = k
          · rw [e, HG.out]; simp [HQ.out, HK0.out]
          · exact hall.out j (by omega)
        case measure => simp [intOf]; omega
    · have HA : Hid (z = (qs && viewR view)) := by
        show _ = _
        rw [← HZ.out]
        unfold repsOkB
        rw [allR_yes fun j hj => hall.out j (by rw [rl_len, HV.out] at hj; omega), HS.out]
        rfl
      cases qs
      · go_wp2_with (go_at_call 70; refine (specSize_is n false HS.out _).mono ?_; rintro e w1 ⟨rfl, rfl⟩)
        go_ret
        exact ⟨ret_bool (by rw [HA.out]; rfl), hbel⟩
      · by_cases h1 : 1 ≤ view
        · by_cases h2 : view ≤ 9
          all_goals
            go_wp2_with (go_at_call 70; refine (specSize_is n true HS.out _).mono ?_; rintro e w1 ⟨rfl, rfl⟩)
            go_ret
            exact ⟨ret_bool (by rw [HA.out]; simp [viewR]; try omega), hbel⟩
        · go_wp2_with (go_at_call 70; refine (specSize_is n true HS.out _).mono ?_; rintro e w1 ⟨rfl, rfl⟩)
          go_ret
          exact ⟨ret_bool (by rw [HA.out]; simp [viewR]; try omega), hbel⟩
set_option maxHeartbeats 1600000 in
theorem implReportsOk_yes (n view : Int) (A : Option Addr) (c : Nat) (ps : List Pp) (w : World) (hr : RdR w w.heap.size A ps) (hf : Few ps) (hsz : sizeB n = true) (hvw : viewR view = true) :
    Calls Try.prog 112 #[.int .i64 n, .int .i64 view, .slice A ps.length c] w fun e w' => e = .returned (.bool (repsOkB n view (rl ps))) ∧ Below w.heap.size w w' := by
  obtain ⟨hn, hv⟩ := hf
  obtain ⟨m, hvn⟩ : ∃ m, ps.length = m := ⟨_, rfl⟩
  rw [hvn] at hn hv ⊢
  have HVL := Lib.hid hv; clear hv
  have HV := Lib.hid hvn; clear hvn
  obtain ⟨z, hz⟩ : ∃ z, repsOkB n view (rl ps) = z := ⟨_, rfl⟩
  rw [hz]
  have HZ : Hid (allR n view (rl ps) = z) := by show _ = _; rw [← hz]; unfold repsOkB; rw [hsz, hvw]; simp
  clear hz
  have HS := Lib.hid hsz; clear hsz
  have hvo : viewOkB view = true := by unfold viewR at hvw; unfold viewOkB; simp at hvw ⊢; omega
  have hv0 : (view == 0) = false := by unfold viewR at hvw; simp at hvw ⊢; omega
  have HVO := Lib.hid hvo; clear hvo hvw
  go_enter Try.func112, Try.ntmps112
  go_wp2_with (first | (go_at_call 80; refine (implSize_is n true HS.out _).mono ?_; rintro e w1 ⟨rfl, h1⟩; obtain rfl := h1.symm) | (go_at_call 82; refine (implView_is view true HVO.out _).mono ?_; rintro e w1 ⟨rfl, h1⟩; obtain rfl := h1.symm))
  go_loopw [23] (fun i wr => ∃ (k : Nat), k ≤ m ∧ i = .int .i64 k ∧ Hid (∀ j, j < k → goodR n view (rl ps) j = true) ∧ Below w.heap.size w wr) (fun i _ => m - (intOf i).toNat)
  case atStart => exact ⟨0, Nat.zero_le _, rfl, fun j hj => absurd hj (by omega), Below.refl _ _⟩
  case round =>
    obtain ⟨k, hk, rfl, hall, hbel⟩ := hrel
    by_cases hlt : k < m
    · obtain ⟨b, off, rfl, hb, hc0, hc1, hc2, hc3, hrv⟩ := RdR.at_ (hr.below hbel) (k := k) (by rw [HV.out]; omega)
      have hpv : 0 < k → wr.cell? ⟨b, off + (k - 1) * 4, none⟩ = some (.int .i64 (ps.getD (k - 1) zP).r.f) := fun h0 => by
        obtain ⟨b', off', he, _, h1, _⟩ := RdR.at_ (hr.below hbel) (k := k - 1) (by rw [HV.out]; omega)
        injection he with he
        injection he with he1 he2
        subst he1 he2
        exact h1
      clear hr
      have hvl := HVL.out k hlt
      have HG : Hid (goodR n view (rl ps) k = (repB n view (ps.getD k zP).r && (decide (k = 0) || decide ((ps.getD (k - 1) zP).r.f < (ps.getD k zP).r.f)))) := by show _ = _; unfold goodR; rw [rl_at, rl_at]
      obtain ⟨⟨⟨uf, uv, ux, us⟩, A', c'⟩, hu⟩ : ∃ v, ps.getD k zP = v := ⟨_, rfl⟩
      obtain ⟨pf, hp⟩ : ∃ v, (ps.getD (k - 1) zP).r.f = v := ⟨_, rfl⟩
      rw [hu] at hc0 hc1 hc2 hc3 hrv hvl HG
      rw [hp] at hpv HG
      simp only at hc0 hc1 hc2 hc3 hrv hvl HG
      clear hu hp
      have hbw : Below wr.heap.size wr (wr.alloc (.cells #[.int .i64 uf, .int .i64 uv, .int .i64 ux, .slice A' us.length c'] 89)) := (Below.refl _ _).alloc (Nat.le_refl _) _
      have hbx := hbel.trans (hbw.mono hbel.size)
      have kx := Blk.new wr 89 #[.int .i64 uf, .int .i64 uv, .int .i64 ux, .slice A' us.length c']
      have hup : ∀ (o : Nat) (v : Value), wr.cell? ⟨b, o, none⟩ = some v → (wr.alloc (.cells #[.int .i64 uf, .int .i64 uv, .int .i64 ux, .slice A' us.length c'] 89)).cell? ⟨b, o, none⟩ = some v := fun o v h => (hbw.cell (p := ⟨b, o, none⟩) (by have := hbel.size; simp; omega)).trans h
      have HUP := Lib.hid hup; clear hup
      have hsx : (wr.alloc (.cells #[.int .i64 uf, .int .i64 uv, .int .i64 ux, .slice A' us.length c'] 89)).heap.size = wr.heap.size + 1 := by simp
      have HRV := Lib.hid ((fun x : Lat (wr.alloc (.cells #[.int .i64 uf, .int .i64 uv, .int .i64 ux, .slice A' us.length c'] 89)) => ((hrv.below (hbw.mono hbel.size)).below (x.below.mono hbx.size)).more (Nat.le_trans hbx.size x.below.size) : ∀ x : Lat _, Rd x.w x.w.heap.size A' us)); clear hrv
      have C0 := fun (x : Lat (wr.alloc (.cells #[.int .i64 uf, .int .i64 uv, .int .i64 ux, .slice A' us.length c'] 89))) (i : Nat) => lat_blk kx x i
      have HBX := Lib.hid hbx; have HSX := Lib.hid hsx; clear hbx hsx hbw kx
      rcases hq : repB n view ⟨uf, uv, ux, us⟩ with _ | _
      · have HQ := Lib.hid hq; clear hq hpv
        go_wp2
        refine wp_region_lat (by kernel_rfl) (by kernel_rfl) ?_
        repeat (go_big_quiet_step ((first | (go_at_call 129; exact lat_call _ (reportOk_is false _ _ _ _ _ _ _ _ HQ.out _ (HRV.out _) hvl)))))
        refine wpQuiet_nil ?_
        rintro w3 ⟨⟨_, hb3⟩, rfl⟩
        clear C0
        go_wp2
        go_ret
        refine ⟨ret_bool ?_, HBX.out.trans (hb3.mono HBX.out.size)⟩
        rw [← HZ.out]
        rw [allR_no (k := k) (by rw [rl_len, HV.out]; omega) (by rw [HG.out]; simp [HQ.out])]
      have HQ := Lib.hid hq; clear hq
      by_cases h4 : 0 < k
      · have hp0 := hpv h4
        clear hpv
        obtain ⟨p, hkp⟩ : ∃ p, k = p + 1 := ⟨k - 1, by omega⟩
        have hE : (k : Int) - 1 = (p : Int) := by omega
        have hW : IntKind.i64.wrap (p : Int) = (p : Int) := IntWalk.i64_in _ (by omega)
        rw [show k - 1 = p by omega] at hp0
        have P0 := fun x : Lat (wr.alloc (.cells #[.int .i64 uf, .int .i64 uv, .int .i64 ux, .slice A' us.length c'] 89)) => x.cell (HUP.out _ _ hp0)
        have hw4 : (p : Int) < (m : Int) := by omega
        have hw5 : p < m := by omega
        have HKP := Lib.hid hkp; clear hkp
        by_cases h5 : pf < uf
        · have hd5 : decide (uf ≤ pf) = false := by simp; omega
          go_wp2
          refine wp_region_lat (by kernel_rfl) (by kernel_rfl) ?_
          repeat (go_big_quiet_step ((first | (go_at_call 129; exact lat_call _ (reportOk_is true _ _ _ _ _ _ _ _ HQ.out _ (HRV.out _) hvl)))))
          refine wpQuiet_nil ?_
          rintro w3 ⟨⟨_, hb3⟩, rfl⟩
          clear C0 P0
          go_wp2
          go_roundw
          case rel =>
            refine ⟨k + 1, by omega, by go_num, fun j hj => ?_, HBX.out.trans (hb3.mono HBX.out.size)⟩
            by_cases e : j = k
            · rw [e, HG.out]; simp [HQ.out, h5]
            · exact hall.out j (by omega)
          case measure => simp [intOf]; omega
        · have hd5 : decide (uf ≤ pf) = true := by simp; omega
          go_wp2
          refine wp_region_lat (by kernel_rfl) (by kernel_rfl) ?_
          repeat (go_big_quiet_step ((first | (go_at_call 129; exact lat_call _ (reportOk_is true _ _ _ _ _ _ _ _ HQ.out _ (HRV.out _) hvl)))))
          refine wpQuiet_nil ?_
          rintro w3 ⟨⟨_, hb3⟩, rfl⟩
          clear C0 P0
          go_wp2
          go_ret
          refine ⟨ret_bool ?_, HBX.out.trans (hb3.mono HBX.out.size)⟩
          rw [← HZ.out]
          rw [allR_no (k := k) (by rw [rl_len, HV.out]; omega) (by rw [HG.out]; simp [h5]; intro _; omega)]
      · clear hpv
        have hd : decide ((0 : Int) < (k : Int)) = false := by simp; omega
        have HK0 : Hid (k = 0) := by show _ = _; omega
        go_wp2
        refine wp_region_lat (by kernel_rfl) (by kernel_rfl) ?_
        repeat (go_big_quiet_step ((first | (go_at_call 129; exact lat_call _ (reportOk_is true _ _ _ _ _ _ _ _ HQ.out _ (HRV.out _) hvl)))))
        refine wpQuiet_nil ?_
        rintro w3 ⟨⟨_, hb3⟩, rfl⟩
        clear C0
        go_wp2
        go_roundw
        case rel =>
          refine ⟨k + 1, by omega, by go_num, fun j hj => ?_, HBX.out.trans (hb3.mono HBX.out.size)⟩
          by_cases e : j = k
          · rw [e, HG.out]; simp [HQ.out, HK0.out]
          · exact hall.out j (by omega)
        case measure => simp [intOf]; omega
    · go_wp2
      go_ret
      refine ⟨ret_bool ?_, hbel⟩
      rw [← HZ.out, allR_yes fun j hj => hall.out j (by rw [rl_len, HV.out] at hj; omega)]

theorem implReportsOk_is (q : Bool) (n view : Int) (A : Option Addr) (c : Nat) (ps : List Pp) (hq : repsOkB n view (rl ps) = q) (w : World) (hr : RdR w w.heap.size A ps) (hf : Few ps) :
    Calls Try.prog 112 #[.int .i64 n, .int .i64 view, .slice A ps.length c] w fun e w' => e = .returned (.bool q) ∧ Below w.heap.size w w' := by
  rcases hs : sizeB n with _ | _
  · have e : q = false := by rw [← hq]; simp [repsOkB, hs]
    subst e
    have HS := Lib.hid hs; clear hs hq hr
    go_enter Try.func112, Try.ntmps112
    go_wp2_with (go_at_call 80; refine (implSize_is n false HS.out _).mono ?_; rintro e w1 ⟨rfl, rfl⟩)
    go_ret
    exact ⟨rfl, Below.refl _ _⟩
  · rcases hv : viewR view with _ | _
    · have e : q = false := by rw [← hq]; simp [repsOkB, hv]
      subst e
      have HS := Lib.hid hs; clear hs hq hr
      rcases ho : viewOkB view with _ | _
      · have HO := Lib.hid ho; clear ho hv
        go_enter Try.func112, Try.ntmps112
        go_wp2_with (first | (go_at_call 80; refine (implSize_is n true HS.out _).mono ?_; rintro e w1 ⟨rfl, rfl⟩) | (go_at_call 82; refine (implView_is view false HO.out _).mono ?_; rintro e w1 ⟨rfl, rfl⟩))
        go_ret
        exact ⟨rfl, Below.refl _ _⟩
      · obtain rfl : view = 0 := by unfold viewR at hv; unfold viewOkB at ho; simp at hv ho; omega
        have HO := Lib.hid ho; clear ho hv
        go_enter Try.func112, Try.ntmps112
        go_wp2_with (first | (go_at_call 80; refine (implSize_is n true HS.out _).mono ?_; rintro e w1 ⟨rfl, rfl⟩) | (go_at_call 82; refine (implView_is 0 true HO.out _).mono ?_; rintro e w1 ⟨rfl, rfl⟩))
        go_ret
        exact ⟨rfl, Below.refl _ _⟩
    · rw [← hq]; exact implReportsOk_yes n view A c ps w hr hf hs hv
theorem specReportsOk_is (q : Bool) (n view : Int) (A : Option Addr) (c : Nat) (ps : List Pp) (hq : repsOkB n view (rl ps) = q) (w : World) (hr : RdR w w.heap.size A ps) (hf : Few ps) :
    Calls Try.prog 76 #[.int .i64 n, .int .i64 view, .slice A ps.length c] w fun e w' => e = .returned (.bool q) ∧ Below w.heap.size w w' := by
  rw [← hq]; exact specReportsOk_any n view A c ps w hr hf
end Go.Proofs.Ytfdfjmibjnmhpaa.V

namespace Go.Proofs.Ytfdfjmibjnmhpaa.V
open Go.RowKit Go.Proofs.Ytfdfjmibjnmhpaa.B

def viewB (n : Int) : Bool := decide (0 ≤ n ∧ n ≤ 9)
def valB (n : Int) : Bool := decide (1 ≤ n ∧ n ≤ 60)
def cmp3 (p u : B3) : Int := if p.2.1 ≠ u.2.1 then (if p.2.1 < u.2.1 then -1 else 1) else if p.1 < u.1 then -1 else if u.1 < p.1 then 1 else 0
def b3Ok (u : B3) : Bool := decide (0 ≤ u.1 ∧ u.1 < 7) && viewB u.2.1 && valB u.2.2
def goodB (vs : List B3) (i : Nat) : Bool := b3Ok (vs.getD i z3) && (decide (i = 0) || decide (cmp3 (vs.getD (i - 1) z3) (vs.getD i z3) < 0))
def tallyOkB (vs : List B3) : Bool := (List.range vs.length).all (goodB vs)
theorem tallyOk_yes {vs : List B3} (h : ∀ j, j < vs.length → goodB vs j = true) : tallyOkB vs = true := by
  unfold tallyOkB
  rw [List.all_eq_true]
  intro j hj
  exact h j (List.mem_range.1 hj)
theorem tallyOk_no {vs : List B3} {k : Nat} (hk : k < vs.length) (h : goodB vs k = false) : tallyOkB vs = false := by
  unfold tallyOkB
  rw [List.all_eq_false]
  exact ⟨k, List.mem_range.2 hk, by simp [h]⟩

theorem specView3_is (n : Int) (q : Bool) (h : viewB n = q) (w : World) : Calls Try.prog 72 #[.int .i64 n] w fun e w' => e = .returned (.bool q) ∧ w' = w := by
  subst h
  unfold viewB
  by_cases h1 : 0 ≤ n
  · by_cases h2 : n ≤ 9
    all_goals
      go_enter Try.func72, Try.ntmps72
      go_wp2
      go_ret
      exact ⟨ret_boolB (by simp; try omega), rfl⟩
  · go_enter Try.func72, Try.ntmps72
    go_wp2
    go_ret
    exact ⟨ret_boolB (by simp; try omega), rfl⟩
theorem specVal3_is (n : Int) (q : Bool) (h : valB n = q) (w : World) : Calls Try.prog 71 #[.int .i64 n] w fun e w' => e = .returned (.bool q) ∧ w' = w := by
  subst h
  unfold valB
  by_cases h1 : 1 ≤ n
  · by_cases h2 : n ≤ 60
    all_goals
      go_enter Try.func71, Try.ntmps71
      go_wp2
      go_ret
      exact ⟨ret_boolB (by simp; try omega), rfl⟩
  · go_enter Try.func71, Try.ntmps71
    go_wp2
    go_ret
    exact ⟨ret_boolB (by simp; try omega), rfl⟩

theorem ballot_any (a b c : Int) (w : World) : Calls Try.prog 123 #[.agg #[.int .i64 a, .int .i64 b, .int .i64 c]] w fun e w' => e = .returned (.bool (b3Ok (a, b, c))) ∧ Below w.heap.size w w' := by
  unfold b3Ok
  by_cases h1 : 0 ≤ a
  · by_cases h2 : a < 7
    · rcases h3 : viewB b with _ | _
      · go_enter Try.func123, Try.ntmps123
        go_wp2_with (go_at_call 72; refine (specView3_is b false h3 _).mono ?_; rintro e w1 ⟨rfl, rfl⟩)
        go_ret
        exact ⟨ret_boolB (by simp), (Below.refl _ _).alloc (Nat.le_refl _) _⟩
      · rcases h4 : valB c with _ | _
        all_goals
          go_enter Try.func123, Try.ntmps123
          go_wp2_with (first | (go_at_call 72; refine (specView3_is b true h3 _).mono ?_; rintro e w1 ⟨rfl, rfl⟩) | (go_at_call 71; refine (specVal3_is c _ h4 _).mono ?_; rintro e w1 ⟨rfl, rfl⟩))
          go_ret
          exact ⟨ret_boolB (by simp [h1, h2]), (Below.refl _ _).alloc (Nat.le_refl _) _⟩
    · go_enter Try.func123, Try.ntmps123
      go_wp2
      go_ret
      exact ⟨ret_boolB (by simp; intro h; omega), (Below.refl _ _).alloc (Nat.le_refl _) _⟩
  · go_enter Try.func123, Try.ntmps123
    go_wp2
    go_ret
    exact ⟨ret_boolB (by simp; intro h; omega), (Below.refl _ _).alloc (Nat.le_refl _) _⟩
theorem ballot_is (q : Bool) (a b c : Int) (hq : b3Ok (a, b, c) = q) (w : World) : Calls Try.prog 123 #[.agg #[.int .i64 a, .int .i64 b, .int .i64 c]] w fun e w' => e = .returned (.bool q) ∧ Below w.heap.size w w' := by
  rw [← hq]; exact ballot_any a b c w

theorem cmp_any (a b c d e f : Int) (w : World) : Calls Try.prog 124 #[.agg #[.int .i64 a, .int .i64 b, .int .i64 c], .agg #[.int .i64 d, .int .i64 e, .int .i64 f]] w fun x w' => x = .returned (.int .i64 (cmp3 (a, b, c) (d, e, f))) ∧ Below w.heap.size w w' := by
  unfold cmp3
  go_enter Try.func124, Try.ntmps124
  go_wp2
  all_goals go_ret
  all_goals refine ⟨ret_int ?_, by repeat (first | exact Below.refl _ _ | refine Below.alloc ?_ (by simp) _)⟩
  all_goals (simp_all; try omega)
theorem cmp_is (q : Int) (a b c d e f : Int) (hq : cmp3 (a, b, c) (d, e, f) = q) (w : World) : Calls Try.prog 124 #[.agg #[.int .i64 a, .int .i64 b, .int .i64 c], .agg #[.int .i64 d, .int .i64 e, .int .i64 f]] w fun x w' => x = .returned (.int .i64 q) ∧ Below w.heap.size w w' := by
  rw [← hq]; exact cmp_any a b c d e f w

set_option maxHeartbeats 1600000 in
theorem specTallyOk_any (A : Option Addr) (c : Nat) (vs : List B3) (w : World) (hr : Rd3 w w.heap.size A vs) (hn : vs.length ≤ 1048576) :
    Calls Try.prog 103 #[.agg #[.slice A vs.length c]] w fun e w' => e = .returned (.bool (tallyOkB vs)) ∧ Below w.heap.size w w' := by
  obtain ⟨n, hvn⟩ : ∃ n, vs.length = n := ⟨_, rfl⟩
  rw [hvn] at hn ⊢
  have HV := Lib.hid hvn; clear hvn
  have kb := Blk.new w 37 #[.slice A n c]
  have HB : Hid (∀ wr, Below (w.heap.size + 1) (w.alloc (.cells #[.slice A n c] 37)) wr → Blk wr w.heap.size 37 #[.slice A n c] ∧ Below w.heap.size w wr) := fun wr h => ⟨kb.below h (by omega), Below.trans ((Below.refl _ _).alloc (Nat.le_refl _) _) (h.mono (by omega))⟩
  clear kb
  go_enter Try.func103, Try.ntmps103
  go_wp2
  go_loopw [3] (fun i wr => ∃ (k : Nat), k ≤ n ∧ i = .int .i64 k ∧ Hid (∀ j, j < k → goodB vs j = true) ∧ Below (w.heap.size + 1) (w.alloc (.cells #[.slice A n c] 37)) wr) (fun i _ => n - (intOf i).toNat)
  case atStart => exact ⟨0, Nat.zero_le _, rfl, fun j hj => absurd hj (by omega), Below.refl _ _⟩
  case round =>
    obtain ⟨k, hk, rfl, hall, hbel⟩ := hrel
    obtain ⟨kb, hbw⟩ := HB.out wr hbel
    have hsz := hbel.size
    simp only [World.size_alloc] at hsz
    have rb : wr.cell? ⟨w.heap.size, 0, none⟩ = some (.slice A n c) := kb.cell 0
    by_cases hlt : k < n
    · obtain ⟨b, off, rfl, hb, hc0, hc1, hc2⟩ := Rd3.at_ (hr.below hbw) (k := k) (by rw [HV.out]; omega)
      have hpv : 0 < k → wr.cell? ⟨b, off + (k - 1) * 3, none⟩ = some (.int .i64 (vs.getD (k - 1) z3).1) ∧ wr.cell? ⟨b, off + (k - 1) * 3 + 1, none⟩ = some (.int .i64 (vs.getD (k - 1) z3).2.1) ∧ wr.cell? ⟨b, off + (k - 1) * 3 + 2, none⟩ = some (.int .i64 (vs.getD (k - 1) z3).2.2) := fun h0 => by
        obtain ⟨b', off', he, _, h1, h2, h3⟩ := Rd3.at_ (hr.below hbw) (k := k - 1) (by rw [HV.out]; omega)
        injection he with he
        injection he with he1 he2
        subst he1 he2
        exact ⟨h1, h2, h3⟩
      clear hr
      obtain ⟨⟨ua, ub, uc⟩, hu⟩ : ∃ v, vs.getD k z3 = v := ⟨_, rfl⟩
      obtain ⟨⟨pa, pb, pc⟩, hp⟩ : ∃ v, vs.getD (k - 1) z3 = v := ⟨_, rfl⟩
      have HG : Hid (goodB vs k = (b3Ok (ua, ub, uc) && (decide (k = 0) || decide (cmp3 (pa, pb, pc) (ua, ub, uc) < 0)))) := by show _ = _; unfold goodB; rw [hu, hp]
      rw [hu] at hc0 hc1 hc2
      rw [hp] at hpv
      clear hu hp
      have T0 := fun x : Lat wr => x.cell rb
      have C0 := fun x : Lat wr => x.cell hc0
      have C1 := fun x : Lat wr => x.cell hc1
      have C2 := fun x : Lat wr => x.cell hc2
      rcases hq : b3Ok (ua, ub, uc) with _ | _
      · have HQ := Lib.hid hq; clear hq hpv
        go_wp2
        refine wp_region_lat (by kernel_rfl) (by kernel_rfl) ?_
        repeat (go_big_quiet_step ((first | (go_at_call 123; exact lat_call _ (ballot_is false _ _ _ HQ.out _)))))
        refine wpQuiet_nil ?_
        rintro w3 ⟨⟨_, hb3⟩, rfl⟩
        clear T0 C0 C1 C2
        go_wp2
        go_ret
        refine ⟨ret_boolB ?_, (HB.out _ (hbel.trans (hb3.mono hsz))).2⟩
        symm
        exact tallyOk_no (k := k) (by rw [HV.out]; omega) (by rw [HG.out]; simp [HQ.out])
      have HQ := Lib.hid hq; clear hq
      by_cases h4 : 0 < k
      · obtain ⟨hp0, hp1, hp2⟩ := hpv h4
        clear hpv
        obtain ⟨p, hkp⟩ : ∃ p, k = p + 1 := ⟨k - 1, by omega⟩
        have hE : (k : Int) - 1 = (p : Int) := by omega
        have hW : IntKind.i64.wrap (p : Int) = (p : Int) := IntWalk.i64_in _ (by omega)
        rw [show k - 1 = p by omega] at hp0 hp1 hp2
        have P0 := fun x : Lat wr => x.cell hp0
        have P1 := fun x : Lat wr => x.cell hp1
        have P2 := fun x : Lat wr => x.cell hp2
        have hw4 : (p : Int) < (n : Int) := by omega
        have hw5 : p < n := by omega
        have HKP := Lib.hid hkp; clear hkp
        obtain ⟨z, hz⟩ : ∃ z, cmp3 (pa, pb, pc) (ua, ub, uc) = z := ⟨_, rfl⟩
        have HC := Lib.hid hz; clear hz
        by_cases h5 : z < 0
        · have hd5 : decide (0 ≤ z) = false := by simp; omega
          go_wp2
          refine wp_region_lat (by kernel_rfl) (by kernel_rfl) ?_
          repeat (go_big_quiet_step ((first | (go_at_call 123; exact lat_call _ (ballot_is true _ _ _ HQ.out _)) | (go_at_call 124; exact lat_call _ (cmp_is z _ _ _ _ _ _ HC.out _)))))
          refine wpQuiet_nil ?_
          rintro w3 ⟨⟨_, hb3⟩, rfl⟩
          clear T0 C0 C1 C2 P0 P1 P2
          go_wp2
          go_roundw
          case rel =>
            refine ⟨k + 1, by omega, by go_num, fun j hj => ?_, hbel.trans (hb3.mono hsz)⟩
            by_cases e : j = k
            · rw [e, HG.out]; simp [HQ.out, HC.out, h5]
            · exact hall.out j (by omega)
          case measure => simp [intOf]; omega
        · have hd5 : decide (0 ≤ z) = true := by simp; omega
          go_wp2
          refine wp_region_lat (by kernel_rfl) (by kernel_rfl) ?_
          repeat (go_big_quiet_step ((first | (go_at_call 123; exact lat_call _ (ballot_is true _ _ _ HQ.out _)) | (go_at_call 124; exact lat_call _ (cmp_is z _ _ _ _ _ _ HC.out _)))))
          refine wpQuiet_nil ?_
          rintro w3 ⟨⟨_, hb3⟩, rfl⟩
          clear T0 C0 C1 C2 P0 P1 P2
          go_wp2
          go_ret
          refine ⟨ret_boolB ?_, (HB.out _ (hbel.trans (hb3.mono hsz))).2⟩
          symm
          exact tallyOk_no (k := k) (by rw [HV.out]; omega) (by rw [HG.out]; simp [HC.out, h5]; intro _; omega)
      · clear hpv
        have hd : decide ((0 : Int) < (k : Int)) = false := by simp; omega
        have HK0 : Hid (k = 0) := by show _ = _; omega
        go_wp2
        refine wp_region_lat (by kernel_rfl) (by kernel_rfl) ?_
        repeat (go_big_quiet_step ((first | (go_at_call 123; exact lat_call _ (ballot_is true _ _ _ HQ.out _)))))
        refine wpQuiet_nil ?_
        rintro w3 ⟨⟨_, hb3⟩, rfl⟩
        clear T0 C0 C1 C2
        go_wp2
        go_roundw
        case rel =>
          refine ⟨k + 1, by omega, by go_num, fun j hj => ?_, hbel.trans (hb3.mono hsz)⟩
          by_cases e : j = k
          · rw [e, HG.out]; simp [HQ.out, HK0.out]
          · exact hall.out j (by omega)
        case measure => simp [intOf]; omega
    · go_wp2
      go_ret
      refine ⟨ret_boolB ?_, hbw⟩
      symm
      exact tallyOk_yes fun j hj => hall.out j (by rw [HV.out] at hj; omega)
end Go.Proofs.Ytfdfjmibjnmhpaa.V

namespace Go.Proofs.Ytfdfjmibjnmhpaa.V
open Go.RowKit Go.Proofs.Ytfdfjmibjnmhpaa.B

def below4 (n : Int) (u : B3) : Bool := decide (u.1 < n)
def talB (n : Int) (vs : List B3) : Bool := vs.all (below4 n) && tallyOkB vs
def zero4 (u : B3) : Bool := decide (u.2.1 = 0)
def goodH (n : Int) (l : List (Int × List Rp)) (i : Nat) : Bool := repsOkB n (l.getD i (0, [])).1 (l.getD i (0, [])).2 && (decide (i = 0) || decide ((l.getD (i - 1) (0, [])).1 < (l.getD i (0, [])).1))
def heardB (n : Int) (l : List (Int × List Rp)) : Bool := (List.range l.length).all (goodH n l)
theorem heard_yes {n : Int} {l : List (Int × List Rp)} (h : ∀ j, j < l.length → goodH n l j = true) : heardB n l = true := by
  unfold heardB
  rw [List.all_eq_true]
  intro j hj
  exact h j (List.mem_range.1 hj)
theorem heard_no {n : Int} {l : List (Int × List Rp)} {k : Nat} (hk : k < l.length) (h : goodH n l k = false) : heardB n l = false := by
  unfold heardB
  rw [List.all_eq_false]
  exact ⟨k, List.mem_range.2 hk, by simp [h]⟩
/-- The numbers, then the votes and the lock. -/
def headQ (r : Rd4) : Bool := sizeB r.n && (decide (0 ≤ r.id) && (decide (r.id < r.n) && (valOkB r.own && (viewOkB r.view && (decide (1 ≤ r.left) && decide (r.left ≤ 3 + r.view))))))
def doneQ (x : Int) : Bool := decide (x = 0) || valOkB x
def talsQ (r : Rd4) : Bool := talB r.n r.pr && (talB r.n r.vo && (talB r.n r.re && talB r.n r.ds)) && r.ds.all zero4
def repQ (r : Rd4) : Bool := headQ r && (votesOkB r.voted (r.view + 1) && (doneQ r.dn && (lockOkB r.lv r.lx (r.view + 1) && (talsQ r && heardB r.n r.hs))))
theorem all_take_no {α : Type} (p : α → Bool) (l : List α) (z : α) (k : Nat) (h : k < l.length) (hp : p (l.getD k z) = false) : l.all p = false := by
  rw [List.all_eq_false]
  refine ⟨l.getD k z, ?_, by rw [hp]; exact Bool.false_ne_true⟩
  rw [List.getD_eq_getElem?_getD, List.getElem?_eq_getElem h]
  exact List.getElem_mem h
theorem all_of {α : Type} (p : α → Bool) (l : List α) (z : α) (h : ∀ k, k < l.length → p (l.getD k z) = true) : l.all p = true := by
  rw [List.all_eq_true]
  intro x hx
  obtain ⟨i, hi, rfl⟩ := List.getElem_of_mem hx
  have := h i hi
  rwa [List.getD_eq_getElem?_getD, List.getElem?_eq_getElem hi] at this
end Go.Proofs.Ytfdfjmibjnmhpaa.V

namespace Go.Proofs.Ytfdfjmibjnmhpaa.V
open Go.RowKit Go.Proofs.Ytfdfjmibjnmhpaa.B

def isAt (view val : Int) (u : B3) : Bool := decide (u.2.1 = view ∧ u.2.2 = val)
def cntK (vs : List B3) (view val : Int) (k : Nat) : Nat := ((vs.take k).filter (isAt view val)).length
def cntB (vs : List B3) (view val : Int) : Nat := (vs.filter (isAt view val)).length
theorem cntK_all (vs : List B3) (view val : Int) : cntK vs view val vs.length = cntB vs view val := by simp [cntK, cntB]
theorem take_get {α : Type} (vs : List α) (d : α) (k : Nat) (h : k < vs.length) : vs.take (k + 1) = vs.take k ++ [vs.getD k d] := by
  rw [List.take_add_one, List.getElem?_eq_getElem h]
  simp [List.getD_eq_getElem?_getD, List.getElem?_eq_getElem h]
theorem cntK_step (vs : List B3) (view val : Int) (k : Nat) (h : k < vs.length) : cntK vs view val (k + 1) = cntK vs view val k + (if isAt view val (vs.getD k z3) then 1 else 0) := by
  unfold cntK
  rw [take_get vs z3 k h, List.filter_append, List.length_append]
  congr 1
  rcases h1 : isAt view val (vs.getD k z3) with _ | _ <;> simp only [List.filter, h1] <;> rfl
theorem cntK_le (vs : List B3) (view val : Int) (k : Nat) : cntK vs view val k ≤ k := by
  unfold cntK
  exact Nat.le_trans (List.length_filter_le _ _) (by simp; omega)

/-- The box of a tally that came in, and what was there. -/
theorem tally_box (w : World) (A : Option Addr) (n c : Nat) : ∀ wr, Below (w.heap.size + 1) (w.alloc (.cells #[.slice A n c] 37)) wr → Blk wr w.heap.size 37 #[.slice A n c] ∧ Below w.heap.size w wr :=
  fun wr h => ⟨(Blk.new w 37 #[.slice A n c]).below h (by omega), Below.trans ((Below.refl _ _).alloc (Nat.le_refl _) _) (h.mono (by omega))⟩

theorem specTallyOk_is (q : Bool) (A : Option Addr) (c : Nat) (vs : List B3) (hq : tallyOkB vs = q) (w : World) (hr : Rd3 w w.heap.size A vs) (hn : vs.length ≤ 1048576) :
    Calls Try.prog 103 #[.agg #[.slice A vs.length c]] w fun e w' => e = .returned (.bool q) ∧ Below w.heap.size w w' := by
  rw [← hq]; exact specTallyOk_any A c vs w hr hn

def countR (vs : List B3) (view val : Int) : Int := if tallyOkB vs then (cntB vs view val : Int) else 0
/-- What somebody told in a view: the first that fits. -/
def isOf (view who : Int) (u : B3) : Bool := decide (u.2.1 = view ∧ u.1 = who)
def toldR (vs : List B3) (view who : Int) : Int := if tallyOkB vs then ((vs.find? (isOf view who)).map (·.2.2)).getD 0 else 0
def toldQ (vs : List B3) (view who : Int) : Bool := tallyOkB vs && (vs.find? (isOf view who)).isSome
theorem find_no {vs : List B3} {p : B3 → Bool} (h : ∀ j, j < vs.length → p (vs.getD j z3) = false) : vs.find? p = none := by
  rw [List.find?_eq_none]
  intro x hx
  obtain ⟨j, hj, rfl⟩ := List.getElem_of_mem hx
  have := h j hj
  rw [List.getD_eq_getElem?_getD, List.getElem?_eq_getElem hj] at this
  simpa using this
theorem find_at : ∀ {vs : List B3} {p : B3 → Bool} {k : Nat}, k < vs.length → (∀ j, j < k → p (vs.getD j z3) = false) → p (vs.getD k z3) = true → vs.find? p = some (vs.getD k z3)
  | [], _, _, hk, _, _ => by simp at hk
  | u :: us, p, 0, _, _, h => by
    have h : p u = true := by simpa using h
    simp [List.find?, h]
  | u :: us, p, k + 1, hk, hn, h => by
    have h0 : p u = false := by simpa using hn 0 (by omega)
    have := find_at (vs := us) (p := p) (k := k) (by simpa using hk) (fun j hj => by simpa using hn (j + 1) (by omega)) (by simpa using h)
    simp only [List.find?, h0]
    simpa using this
end Go.Proofs.Ytfdfjmibjnmhpaa.V

namespace Go.Proofs.Ytfdfjmibjnmhpaa.V
open Go.RowKit Go.Proofs.Ytfdfjmibjnmhpaa.B

def foundV (vs : List B3) (view who : Int) : Int := ((vs.find? (isOf view who)).map (·.2.2)).getD 0
def foundQ (vs : List B3) (view who : Int) : Bool := (vs.find? (isOf view who)).isSome
theorem ret_two {a b : Int} {p q : Bool} (h : a = b) (h2 : p = q) : Ending.returned (.tuple #[.int .i64 a, .bool p]) = .returned (.tuple #[.int .i64 b, .bool q]) := by rw [h, h2]

end Go.Proofs.Ytfdfjmibjnmhpaa.V

namespace Go.Proofs.Ytfdfjmibjnmhpaa.V
open Go.RowKit Go.Proofs.Ytfdfjmibjnmhpaa.B

/-- The first from k on, of m, at which f holds. -/
def winN (f : Nat → Bool) : Nat → Nat → Option Nat
  | _, 0 => none
  | k, m + 1 => if f k then some k else winN f (k + 1) m
theorem winN_none {f : Nat → Bool} : ∀ {m k : Nat}, (∀ j, k ≤ j → j < k + m → f j = false) → winN f k m = none
  | 0, _, _ => rfl
  | m + 1, k, h => by
    rw [winN, h k (Nat.le_refl _) (by omega)]
    exact winN_none fun j h1 h2 => h j (by omega) (by omega)
theorem winN_some {f : Nat → Bool} : ∀ {m k i : Nat}, k ≤ i → i < k + m → (∀ j, k ≤ j → j < i → f j = false) → f i = true → winN f k m = some i
  | 0, _, _, h1, h2, _, _ => by omega
  | m + 1, k, i, h1, h2, h, hi => by
    by_cases e : k = i
    · subst e
      rw [winN, hi]; rfl
    · rw [winN, h k (Nat.le_refl _) (by omega)]
      exact winN_some (by omega) (by omega) (fun j h3 h4 => h j (by omega) h4) hi
def enough (vs : List B3) (view need : Int) (k : Nat) : Bool := decide (need ≤ (cntB vs view (k : Int) : Int))
def winK (vs : List B3) (view need : Int) : Option Nat := winN (enough vs view need) 1 60
def winV (o : Option Nat) : Int := (o.map fun k => (k : Int)).getD 0

def winnerK (vs : List B3) (view need : Int) : Option Nat := if tallyOkB vs = true ∧ 1 ≤ need then winK vs view need else none
end Go.Proofs.Ytfdfjmibjnmhpaa.V

namespace Go.Proofs.Ytfdfjmibjnmhpaa.V
open Go.RowKit Go.Proofs.Ytfdfjmibjnmhpaa.B

theorem infoI : (Try.prog.info? 3).map (fun i => (i.zero, i.size, i.bytes)) = some (some (.int .i64 0), 1, 8) := by kernel_rfl
def ic (xs : List Int) : List Value := xs.map (Value.int .i64)
theorem ic_len (xs : List Int) : (ic xs).length = xs.length := by simp [ic]
theorem ic_app (xs ys : List Int) : ic (xs ++ ys) = ic xs ++ ic ys := by simp [ic]
/-- The numbers of the call's own. -/
def NRes (xs : List Int) (w : World) (e : Ending) (w' : World) : Prop :=
  ∃ v, e = .returned v ∧ w'.ownsRow w.heap.size 3 1 v xs.length (ic xs) ∧ Below w.heap.size w w'
def votersL (vs : List B3) (view val : Int) : List Int := (vs.filter (isAt view val)).map (·.1)
def votersK (vs : List B3) (view val : Int) (k : Nat) : List Int := ((vs.take k).filter (isAt view val)).map (·.1)
theorem votersK_all (vs : List B3) (view val : Int) : votersK vs view val vs.length = votersL vs view val := by simp [votersK, votersL]
theorem votersK_step (vs : List B3) (view val : Int) (k : Nat) (h : k < vs.length) : votersK vs view val (k + 1) = votersK vs view val k ++ (if isAt view val (vs.getD k z3) then [(vs.getD k z3).1] else []) := by
  unfold votersK
  rw [take_get vs z3 k h, List.filter_append, List.map_append]
  congr 1
  rcases h1 : isAt view val (vs.getD k z3) with _ | _ <;> simp only [List.filter, h1] <;> rfl
theorem votersK_le (vs : List B3) (view val : Int) (k : Nat) : (votersK vs view val k).length ≤ k := by
  simp only [votersK, List.length_map]
  exact Nat.le_trans (List.length_filter_le _ _) (by simp; omega)
theorem own_app1 {w : World} {b e : Nat} {v : Value} {xs : List Int} {y : Int} (h : w.ownsRow b e 1 v (xs.length + 1) (ic xs ++ [.int .i64 y])) : w.ownsRow b e 1 v (xs ++ [y]).length (ic (xs ++ [y])) := by
  rw [ic_app, List.length_append]; exact h
theorem own_drew {w : World} {b e size n : Nat} {v : Value} {xs : List Value} (h : w.ownsRow b e size v n xs) : w.drew.ownsRow b e size v n xs := h
theorem reads_drew {w : World} {B size n : Nat} {A : Option Addr} {xs : List Value} (h : Reads w B size A n xs) : Reads w.drew B size A n xs := h
theorem own_lit (w : World) (u : Value) : (w.alloc (.cells #[u] 3)).ownsRow w.heap.size 3 1 (.slice (some ⟨w.heap.size, 0, none⟩) 1 1) 1 [u] :=
  ⟨rfl, .inr ⟨w.heap.size, 1, #[u], rfl, Nat.le_refl _, heap_alloc_new w _, Nat.le_refl _, by decide, rfl, rfl⟩⟩
theorem lit_int (w : World) (u : Value) : Reads (w.alloc (.cells #[u] 3)) (w.heap.size + 1) 1 (some ⟨w.heap.size, 0, none⟩) 1 [u] := by
  have h := Reads.of_own (own_lit w u)
  simpa using h
theorem own_more3 {w : World} {b b' e size n : Nat} {v : Value} {xs : List Value} (h : w.ownsRow b e size v n xs) (hb : b' ≤ b) : w.ownsRow b' e size v n xs := by
  obtain ⟨hl, h⟩ := h
  refine ⟨hl, ?_⟩
  rcases h with h1 | ⟨g, cap, cur, h1, h2, h3⟩
  · exact .inl h1
  · exact .inr ⟨g, cap, cur, h1, by omega, h3⟩

theorem no_ints (w w' : World) (hB : Below w.heap.size w w') : NRes [] w (.returned (.slice none 0 0)) w' := ⟨_, rfl, World.ownsRow_nil _ _ _ _, hB⟩
def votersR (vs : List B3) (view val : Int) : List Int := if tallyOkB vs then votersL vs view val else []
end Go.Proofs.Ytfdfjmibjnmhpaa.V

namespace Go.Proofs.Ytfdfjmibjnmhpaa.V
open Go.RowKit Go.Proofs.Ytfdfjmibjnmhpaa.B

def newAt (vs : List B3) (i : Nat) : Bool := decide (i = 0) || decide ((vs.getD (i - 1) z3).2.1 ≠ (vs.getD i z3).2.1)
def viewsK (vs : List B3) (k : Nat) : List Int := ((List.range k).filter (newAt vs)).map fun i => (vs.getD i z3).2.1
theorem viewsK_step (vs : List B3) (k : Nat) : viewsK vs (k + 1) = viewsK vs k ++ (if newAt vs k then [(vs.getD k z3).2.1] else []) := by
  unfold viewsK
  rw [List.range_succ, List.filter_append, List.map_append]
  congr 1
  rcases h1 : newAt vs k with _ | _ <;> simp [List.filter, h1]
theorem viewsK_le (vs : List B3) (k : Nat) : (viewsK vs k).length ≤ k := by
  simp only [viewsK, List.length_map]
  exact Nat.le_trans (List.length_filter_le _ _) (by simp)

theorem own_onB {w w' : World} {b e size n : Nat} {v : Value} {xs : List Value} (h : w.ownsRow b e size v n xs) (hb : Below w.heap.size w w') : w'.ownsRow b e size v n xs := by
  obtain ⟨hl, h⟩ := h
  refine ⟨hl, ?_⟩
  rcases h with h1 | ⟨g, cap, cur, h1, h2, h3, h4⟩
  · exact .inl h1
  · exact .inr ⟨g, cap, cur, h1, h2, (hb.block g (Array.getElem?_eq_some_iff.1 h3).1).trans h3, h4⟩
def viewsR (vs : List B3) : List Int := if tallyOkB vs then viewsK vs vs.length else []
end Go.Proofs.Ytfdfjmibjnmhpaa.V

namespace Go.Proofs.Ytfdfjmibjnmhpaa.V
open Go.RowKit Go.Proofs.Ytfdfjmibjnmhpaa.B

def silentK (vs : List B3) (view : Int) (k : Nat) : List Int := ((List.range k).filter (fun (i : Nat) => !(foundQ vs view (i : Int)))).map (fun (i : Nat) => (i : Int))
theorem silentK_step (vs : List B3) (view : Int) (k : Nat) : silentK vs view (k + 1) = silentK vs view k ++ (if foundQ vs view (k : Int) then [] else [(k : Int)]) := by
  unfold silentK
  rw [List.range_succ, List.filter_append, List.map_append]
  congr 1
  rcases h1 : foundQ vs view (k : Int) with _ | _ <;> simp [List.filter, h1]
theorem silentK_le (vs : List B3) (view : Int) (k : Nat) : (silentK vs view k).length ≤ k := by
  simp only [silentK, List.length_map]
  exact Nat.le_trans (List.length_filter_le _ _) (by simp)

def silentR (n : Int) (vs : List B3) (view : Int) : List Int := if sizeB n && tallyOkB vs then silentK vs view n.toNat else []
theorem silentR_le (n : Int) (vs : List B3) (view : Int) : (silentR n vs view).length ≤ 7 := by
  unfold silentR
  split
  · rename_i h
    simp only [sizeB, Bool.and_eq_true, Bool.or_eq_true, decide_eq_true_eq] at h
    exact Nat.le_trans (silentK_le _ _ _) (by omega)
  · simp
end Go.Proofs.Ytfdfjmibjnmhpaa.V

namespace Go.Proofs.Ytfdfjmibjnmhpaa.V
open Go.RowKit Go.Proofs.Ytfdfjmibjnmhpaa.B

def openF (n : Int) (vs : List B3) (view : Int) (k : Nat) : Bool := decide (strongR n ≤ (cntB vs view (k : Int) : Int) + ((silentR n vs view).length : Int))
def openR (n : Int) (vs : List B3) (view : Int) : Bool := sizeB n && (tallyOkB vs && (winN (openF n vs view) 1 60).isSome)
theorem cntB_le (vs : List B3) (view val : Int) : cntB vs view val ≤ vs.length := List.length_filter_le _ _

end Go.Proofs.Ytfdfjmibjnmhpaa.V
