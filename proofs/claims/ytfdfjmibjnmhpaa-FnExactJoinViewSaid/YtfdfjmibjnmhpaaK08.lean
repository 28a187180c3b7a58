/-
  TallyOk of the program: contracts. The tests that the program's talliesOk makes of ballots, each a closure: contracts. talliesOk of the program: contract. heardOk of the program: contract. No statement is proved here.
-/
import Derived.Test.YtfdfjmibjnmhpaaK07
import Derived.Deep.RegionWith
set_option linter.unusedVariables false
set_option maxRecDepth 100000
namespace Go.Proofs.Ytfdfjmibjnmhpaa.V
open Go.RowKit Go.Proofs.Ytfdfjmibjnmhpaa.B

theorem implView3_is (n : Int) (q : Bool) (h : viewB n = q) (w : World) : Calls Try.prog 82 #[.int .i64 n] w fun e w' => e = .returned (.bool q) ∧ w' = w := by
  subst h
  unfold viewB
  by_cases h1 : 0 ≤ n
  · by_cases h2 : n ≤ 9
    all_goals
      go_enter Try.func82, Try.ntmps82
      go_wp2
      go_ret
      exact ⟨ret_boolB (by simp; try omega), rfl⟩
  · go_enter Try.func82, Try.ntmps82
    go_wp2
    go_ret
    exact ⟨ret_boolB (by simp; try omega), rfl⟩
theorem implVal3_is (n : Int) (q : Bool) (h : valB n = q) (w : World) : Calls Try.prog 81 #[.int .i64 n] w fun e w' => e = .returned (.bool q) ∧ w' = w := by
  subst h
  unfold valB
  by_cases h1 : 1 ≤ n
  · by_cases h2 : n ≤ 60
    all_goals
      go_enter Try.func81, Try.ntmps81
      go_wp2
      go_ret
      exact ⟨ret_boolB (by simp; try omega), rfl⟩
  · go_enter Try.func81, Try.ntmps81
    go_wp2
    go_ret
    exact ⟨ret_boolB (by simp; try omega), rfl⟩

theorem implBallot_any (a b c : Int) (w : World) : Calls Try.prog 126 #[.agg #[.int .i64 a, .int .i64 b, .int .i64 c]] w fun e w' => e = .returned (.bool (b3Ok (a, b, c))) ∧ Below w.heap.size w w' := by
  unfold b3Ok
  by_cases h1 : 0 ≤ a
  · by_cases h2 : a < 7
    · rcases h3 : viewB b with _ | _
      · go_enter Try.func126, Try.ntmps126
        go_wp2_with (go_at_call 82; refine (implView3_is b false h3 _).mono ?_; rintro e w1 ⟨rfl, rfl⟩)
        go_ret
        exact ⟨ret_boolB (by simp), (Below.refl _ _).alloc (Nat.le_refl _) _⟩
      · rcases h4 : valB c with _ | _
        all_goals
          go_enter Try.func126, Try.ntmps126
          go_wp2_with (first | (go_at_call 82; refine (implView3_is b true h3 _).mono ?_; rintro e w1 ⟨rfl, rfl⟩) | (go_at_call 81; refine (implVal3_is c _ h4 _).mono ?_; rintro e w1 ⟨rfl, rfl⟩))
          go_ret
          exact ⟨ret_boolB (by simp [h1, h2]), (Below.refl _ _).alloc (Nat.le_refl _) _⟩
    · go_enter Try.func126, Try.ntmps126
      go_wp2
      go_ret
      exact ⟨ret_boolB (by simp; intro h; omega), (Below.refl _ _).alloc (Nat.le_refl _) _⟩
  · go_enter Try.func126, Try.ntmps126
    go_wp2
    go_ret
    exact ⟨ret_boolB (by simp; intro h; omega), (Below.refl _ _).alloc (Nat.le_refl _) _⟩
theorem implBallot_is (q : Bool) (a b c : Int) (hq : b3Ok (a, b, c) = q) (w : World) : Calls Try.prog 126 #[.agg #[.int .i64 a, .int .i64 b, .int .i64 c]] w fun e w' => e = .returned (.bool q) ∧ Below w.heap.size w w' := by
  rw [← hq]; exact implBallot_any a b c w

def lessB (p u : B3) : Bool := decide (cmp3 p u < 0)
theorem before_any (a b c d e f : Int) (w : World) : Calls Try.prog 127 #[.agg #[.int .i64 a, .int .i64 b, .int .i64 c], .agg #[.int .i64 d, .int .i64 e, .int .i64 f]] w fun x w' => x = .returned (.bool (lessB (a, b, c) (d, e, f))) ∧ Below w.heap.size w w' := by
  unfold lessB cmp3
  go_enter Try.func127, Try.ntmps127
  go_wp2
  all_goals go_ret
  all_goals refine ⟨ret_boolB ?_, by repeat (first | exact Below.refl _ _ | refine Below.alloc ?_ (by simp) _)⟩
  all_goals (simp_all; try omega)
theorem before_is (q : Bool) (a b c d e f : Int) (hq : lessB (a, b, c) (d, e, f) = q) (w : World) : Calls Try.prog 127 #[.agg #[.int .i64 a, .int .i64 b, .int .i64 c], .agg #[.int .i64 d, .int .i64 e, .int .i64 f]] w fun x w' => x = .returned (.bool q) ∧ Below w.heap.size w w' := by
  rw [← hq]; exact before_any a b c d e f w

set_option maxHeartbeats 1600000 in
theorem implTallyOk_any (A : Option Addr) (c : Nat) (vs : List B3) (w : World) (hr : Rd3 w w.heap.size A vs) (hn : vs.length ≤ 1048576) :
    Calls Try.prog 108 #[.agg #[.slice A vs.length c]] w fun e w' => e = .returned (.bool (tallyOkB vs)) ∧ Below w.heap.size w w' := by
  obtain ⟨n, hvn⟩ : ∃ n, vs.length = n := ⟨_, rfl⟩
  rw [hvn] at hn ⊢
  have HV := Lib.hid hvn; clear hvn
  have kb := Blk.new w 37 #[.slice A n c]
  have HB : Hid (∀ wr, Below (w.heap.size + 1) (w.alloc (.cells #[.slice A n c] 37)) wr → Blk wr w.heap.size 37 #[.slice A n c] ∧ Below w.heap.size w wr) := fun wr h => ⟨kb.below h (by omega), Below.trans ((Below.refl _ _).alloc (Nat.le_refl _) _) (h.mono (by omega))⟩
  clear kb
  go_enter Try.func108, Try.ntmps108
  go_wp2
  go_loopw [8] (fun i wr => ∃ (k : Nat), k ≤ n ∧ i = .int .i64 k ∧ Hid (∀ j, j < k → goodB vs j = true) ∧ Below (w.heap.size + 1) (w.alloc (.cells #[.slice A n c] 37)) wr) (fun i _ => n - (intOf i).toNat)
  case atStart => exact ⟨0, Nat.zero_le _, rfl, fun j hj => absurd hj (by omega), Below.refl _ _⟩
  case round =>
    obtain ⟨k, hk, rfl, hall, hbel⟩ := hrel
    obtain ⟨kb, hbw⟩ := HB.out wr hbel
    have hsz := hbel.size
    simp only [World.size_alloc] at hsz
    have rb : wr.cell? ⟨w.heap.size, 0, none⟩ = some (.slice A n c) := kb.cell 0
    by_cases hlt : k < n
    · obtain ⟨b, off, rfl, hb, hc0, hc1, hc2⟩ := Rd3.at_ (hr.below hbw) (k := k) (by rw [HV.out]; omega)
      obtain ⟨⟨ua, ub, uc⟩, hu⟩ : ∃ v, vs.getD k z3 = v := ⟨_, rfl⟩
      rw [hu] at hc0 hc1 hc2
      have kx : Blk (wr.alloc (.cells #[.int .i64 ua, .int .i64 ub, .int .i64 uc] 119)) wr.heap.size 119 #[.int .i64 ua, .int .i64 ub, .int .i64 uc] := Blk.new wr _ _
      have rbx := (kb.alloc (.cells #[.int .i64 ua, .int .i64 ub, .int .i64 uc] 119)).cell 0
      have hbx : Below (w.heap.size + 1) (w.alloc (.cells #[.slice (some ⟨b, off, none⟩) n c] 37)) (wr.alloc (.cells #[.int .i64 ua, .int .i64 ub, .int .i64 uc] 119)) := hbel.alloc hsz _
      have hpv : 0 < k → (wr.alloc (.cells #[.int .i64 ua, .int .i64 ub, .int .i64 uc] 119)).cell? ⟨b, off + (k - 1) * 3, none⟩ = some (.int .i64 (vs.getD (k - 1) z3).1) ∧ (wr.alloc (.cells #[.int .i64 ua, .int .i64 ub, .int .i64 uc] 119)).cell? ⟨b, off + (k - 1) * 3 + 1, none⟩ = some (.int .i64 (vs.getD (k - 1) z3).2.1) ∧ (wr.alloc (.cells #[.int .i64 ua, .int .i64 ub, .int .i64 uc] 119)).cell? ⟨b, off + (k - 1) * 3 + 2, none⟩ = some (.int .i64 (vs.getD (k - 1) z3).2.2) := fun h0 => by
        obtain ⟨b', off', he, _, h1, h2, h3⟩ := Rd3.at_ ((hr.below hbw).alloc (by omega) (.cells #[.int .i64 ua, .int .i64 ub, .int .i64 uc] 119)) (k := k - 1) (by rw [HV.out]; omega)
        injection he with he
        injection he with he1 he2
        subst he1 he2
        exact ⟨h1, h2, h3⟩
      clear hr
      obtain ⟨⟨pa, pb, pc⟩, hp⟩ : ∃ v, vs.getD (k - 1) z3 = v := ⟨_, rfl⟩
      have HG : Hid (goodB vs k = (b3Ok (ua, ub, uc) && (decide (k = 0) || decide (cmp3 (pa, pb, pc) (ua, ub, uc) < 0)))) := by show _ = _; unfold goodB; rw [hu, hp]
      rw [hp] at hpv
      clear hu hp
      rcases hq : b3Ok (ua, ub, uc) with _ | _
      · have HQ := Lib.hid hq; clear hq hpv
        go_wp2
        have T0 := fun x : Lat (wr.alloc (.cells #[.int .i64 ua, .int .i64 ub, .int .i64 uc] 119)) => x.cell rbx
        have C0 := fun x : Lat (wr.alloc (.cells #[.int .i64 ua, .int .i64 ub, .int .i64 uc] 119)) => x.cell (kx.cell 0)
        have C1 := fun x : Lat (wr.alloc (.cells #[.int .i64 ua, .int .i64 ub, .int .i64 uc] 119)) => x.cell (kx.cell 1)
        have C2 := fun x : Lat (wr.alloc (.cells #[.int .i64 ua, .int .i64 ub, .int .i64 uc] 119)) => x.cell (kx.cell 2)
        refine wp_region_lat (by kernel_rfl) (by kernel_rfl) ?_
        repeat (go_big_quiet_step ((first | (go_at_call 126; exact lat_call _ (implBallot_is false _ _ _ HQ.out _)))))
        refine wpQuiet_nil ?_
        rintro w3 ⟨⟨_, hb3⟩, rfl⟩
        clear T0 C0 C1 C2
        go_wp2
        go_ret
        refine ⟨ret_boolB ?_, (HB.out _ (hbx.trans (hb3.mono (by simp; omega)))).2⟩
        symm
        exact tallyOk_no (k := k) (by rw [HV.out]; omega) (by rw [HG.out]; simp [HQ.out])
      have HQ := Lib.hid hq; clear hq
      by_cases h4 : 0 < k
      · obtain ⟨hp0, hp1, hp2⟩ := hpv h4
        clear hpv
        obtain ⟨p, hkp⟩ : ∃ p, k = p + 1 := ⟨k - 1, by omega⟩
        have hE : (k : Int) - 1 = (p : Int) := by omega
        have hW : IntKind.i64.wrap (p : Int) = (p : Int) := IntWalk.i64_in _ (by omega)
        rw [show k - 1 = p by omega] at hp0 hp1 hp2
        have hw4 : (p : Int) < (n : Int) := by omega
        have hw5 : p < n := by omega
        have HKP := Lib.hid hkp; clear hkp
        obtain ⟨z, hz⟩ : ∃ z, lessB (pa, pb, pc) (ua, ub, uc) = z := ⟨_, rfl⟩
        have HC := Lib.hid hz; clear hz
        rcases z with _ | _
        · go_wp2
          have T0 := fun x : Lat (wr.alloc (.cells #[.int .i64 ua, .int .i64 ub, .int .i64 uc] 119)) => x.cell rbx
          have C0 := fun x : Lat (wr.alloc (.cells #[.int .i64 ua, .int .i64 ub, .int .i64 uc] 119)) => x.cell (kx.cell 0)
          have C1 := fun x : Lat (wr.alloc (.cells #[.int .i64 ua, .int .i64 ub, .int .i64 uc] 119)) => x.cell (kx.cell 1)
          have C2 := fun x : Lat (wr.alloc (.cells #[.int .i64 ua, .int .i64 ub, .int .i64 uc] 119)) => x.cell (kx.cell 2)
          have P0 := fun x : Lat (wr.alloc (.cells #[.int .i64 ua, .int .i64 ub, .int .i64 uc] 119)) => x.cell hp0
          have P1 := fun x : Lat (wr.alloc (.cells #[.int .i64 ua, .int .i64 ub, .int .i64 uc] 119)) => x.cell hp1
          have P2 := fun x : Lat (wr.alloc (.cells #[.int .i64 ua, .int .i64 ub, .int .i64 uc] 119)) => x.cell hp2
          refine wp_region_lat (by kernel_rfl) (by kernel_rfl) ?_
          repeat (go_big_quiet_step ((first | (go_at_call 126; exact lat_call _ (implBallot_is true _ _ _ HQ.out _)) | (go_at_call 127; exact lat_call _ (before_is false _ _ _ _ _ _ HC.out _)))))
          refine wpQuiet_nil ?_
          rintro w3 ⟨⟨_, hb3⟩, rfl⟩
          clear T0 C0 C1 C2 P0 P1 P2
          go_wp2
          go_ret
          refine ⟨ret_boolB ?_, (HB.out _ (hbx.trans (hb3.mono (by simp; omega)))).2⟩
          symm
          exact tallyOk_no (k := k) (by rw [HV.out]; omega) (by
            have h5 := HC.out
            unfold lessB at h5
            rw [HG.out, h5]; simp; intro _; omega)
        · go_wp2
          have T0 := fun x : Lat (wr.alloc (.cells #[.int .i64 ua, .int .i64 ub, .int .i64 uc] 119)) => x.cell rbx
          have C0 := fun x : Lat (wr.alloc (.cells #[.int .i64 ua, .int .i64 ub, .int .i64 uc] 119)) => x.cell (kx.cell 0)
          have C1 := fun x : Lat (wr.alloc (.cells #[.int .i64 ua, .int .i64 ub, .int .i64 uc] 119)) => x.cell (kx.cell 1)
          have C2 := fun x : Lat (wr.alloc (.cells #[.int .i64 ua, .int .i64 ub, .int .i64 uc] 119)) => x.cell (kx.cell 2)
          have P0 := fun x : Lat (wr.alloc (.cells #[.int .i64 ua, .int .i64 ub, .int .i64 uc] 119)) => x.cell hp0
          have P1 := fun x : Lat (wr.alloc (.cells #[.int .i64 ua, .int .i64 ub, .int .i64 uc] 119)) => x.cell hp1
          have P2 := fun x : Lat (wr.alloc (.cells #[.int .i64 ua, .int .i64 ub, .int .i64 uc] 119)) => x.cell hp2
          refine wp_region_lat (by kernel_rfl) (by kernel_rfl) ?_
          repeat (go_big_quiet_step ((first | (go_at_call 126; exact lat_call _ (implBallot_is true _ _ _ HQ.out _)) | (go_at_call 127; exact lat_call _ (before_is true _ _ _ _ _ _ HC.out _)))))
          refine wpQuiet_nil ?_
          rintro w3 ⟨⟨_, hb3⟩, rfl⟩
          clear T0 C0 C1 C2 P0 P1 P2
          go_wp2
          go_roundw
          case rel =>
            refine ⟨k + 1, by omega, by go_num, fun j hj => ?_, hbx.trans (hb3.mono (by simp; omega))⟩
            by_cases e : j = k
            · have h5 := HC.out
              unfold lessB at h5
              rw [e, HG.out, h5]; simp [HQ.out]
            · exact hall.out j (by omega)
          case measure => simp [intOf]; omega
      · clear hpv
        have hd : decide ((0 : Int) < (k : Int)) = false := by simp; omega
        have HK0 : Hid (k = 0) := by show _ = _; omega
        go_wp2
        have T0 := fun x : Lat (wr.alloc (.cells #[.int .i64 ua, .int .i64 ub, .int .i64 uc] 119)) => x.cell rbx
        have C0 := fun x : Lat (wr.alloc (.cells #[.int .i64 ua, .int .i64 ub, .int .i64 uc] 119)) => x.cell (kx.cell 0)
        have C1 := fun x : Lat (wr.alloc (.cells #[.int .i64 ua, .int .i64 ub, .int .i64 uc] 119)) => x.cell (kx.cell 1)
        have C2 := fun x : Lat (wr.alloc (.cells #[.int .i64 ua, .int .i64 ub, .int .i64 uc] 119)) => x.cell (kx.cell 2)
        refine wp_region_lat (by kernel_rfl) (by kernel_rfl) ?_
        repeat (go_big_quiet_step ((first | (go_at_call 126; exact lat_call _ (implBallot_is true _ _ _ HQ.out _)))))
        refine wpQuiet_nil ?_
        rintro w3 ⟨⟨_, hb3⟩, rfl⟩
        clear T0 C0 C1 C2
        go_wp2
        go_roundw
        case rel =>
          refine ⟨k + 1, by omega, by go_num, fun j hj => ?_, hbx.trans (hb3.mono (by simp; omega))⟩
          by_cases e : j = k
          · rw [e, HG.out]; simp [HQ.out, HK0.out]
          · exact hall.out j (by omega)
        case measure => simp [intOf]; omega
    · go_wp2
      go_ret
      refine ⟨ret_boolB ?_, hbw⟩
      symm
      exact tallyOk_yes fun j hj => hall.out j (by rw [HV.out] at hj; omega)
theorem implTallyOk_is (q : Bool) (A : Option Addr) (c : Nat) (vs : List B3) (hq : tallyOkB vs = q) (w : World) (hr : Rd3 w w.heap.size A vs) (hn : vs.length ≤ 1048576) :
    Calls Try.prog 108 #[.agg #[.slice A vs.length c]] w fun e w' => e = .returned (.bool q) ∧ Below w.heap.size w w' := by
  rw [← hq]; exact implTallyOk_any A c vs w hr hn
end Go.Proofs.Ytfdfjmibjnmhpaa.V

namespace Go.Proofs.Ytfdfjmibjnmhpaa.V
open Go.RowKit Go.Proofs.Ytfdfjmibjnmhpaa.B

def geB (n : Int) (u : B3) : Bool := !(below4 n u)
def nzB (u : B3) : Bool := !(zero4 u)
theorem any_not {α : Type} (p : α → Bool) (l : List α) : l.any (fun x => !(p x)) = !(l.all p) := by
  induction l with
  | nil => rfl
  | cons a l ih => simp only [List.any_cons, List.all_cons, ih]; cases p a <;> simp
theorem any_ge (n : Int) (l : List B3) : l.any (geB n) = !(l.all (below4 n)) := any_not _ l
theorem any_nz (l : List B3) : l.any nzB = !(l.all zero4) := any_not _ l
theorem take_any3 (p : B3 → Bool) (vs : List B3) (j : Nat) (h : j < vs.length) : (vs.take (j + 1)).any p = ((vs.take j).any p || p (vs.getD j z3)) := by
  rw [show vs.take (j + 1) = vs.take j ++ [vs.getD j z3] from take_getD vs z3 j h, List.any_append]
  simp
def Idx4 (z : Bool) (w : World) (e : Ending) (w' : World) : Prop := (∃ y : Int, -1 ≤ y ∧ y ≤ 1048576 ∧ decide (0 ≤ y) = z ∧ e = Ending.returned (.int .i64 y)) ∧ Below w.heap.size w w'
/-- The box of a replica's state, of which the number of replicas is read. -/
def CapN (w : World) (pr : Nat) (n : Int) : Prop := w.cell? ⟨pr, 0, none⟩ = some (.int .i64 n)
theorem CapN.on {w w' : World} {pr : Nat} {n : Int} (h : CapN w pr n) (hb : Below w.heap.size w w') : CapN w' pr n := (hb.cell (p := ⟨pr, 0, none⟩) (World.block_lt_of_cell? w _ h)).trans h

theorem clo_ge (ua ub uc n : Int) (pr : Nat) (w : World) (hc : CapN w pr n) :
    Calls Try.prog 110 #[.agg #[.int .i64 ua, .int .i64 ub, .int .i64 uc], .pointer (some ⟨pr, 0, none⟩)] w fun e w' => e = .returned (.bool (geB n (ua, ub, uc))) ∧ Below w.heap.size w w' := by
  have kv := World.block_lt_of_cell? w _ hc
  simp only at kv
  have hv0 : (w.alloc (.cells #[.int .i64 ua, .int .i64 ub, .int .i64 uc] 119)).cell? ⟨pr, 0, none⟩ = some (.int .i64 n) := (World.cell?_alloc_lt w _ ⟨pr, 0, none⟩ kv).trans hc
  unfold geB below4
  by_cases h1 : ua < n
  all_goals
    go_enter Try.func110, Try.ntmps110
    go_wp2
    go_ret
    exact ⟨ret_bool (by simp [h1] <;> omega), (Below.refl _ _).alloc (Nat.le_refl _) _⟩
theorem clo_nz (ua ub uc : Int) (w : World) :
    Calls Try.prog 111 #[.agg #[.int .i64 ua, .int .i64 ub, .int .i64 uc]] w fun e w' => e = .returned (.bool (nzB (ua, ub, uc))) ∧ Below w.heap.size w w' := by
  unfold nzB zero4
  by_cases h1 : ub = 0
  · subst h1
    go_enter Try.func111, Try.ntmps111
    go_wp2
    go_ret
    exact ⟨ret_bool (by simp), (Below.refl _ _).alloc (Nat.le_refl _) _⟩
  · have h1' : (ub == 0) = false := by simpa using h1
    have h1'' : (ub != 0) = true := by simpa using h1
    have H1 := Lib.hid h1; clear h1
    go_enter Try.func111, Try.ntmps111
    go_wp2
    go_ret
    exact ⟨ret_bool (by simp [H1.out]), (Below.refl _ _).alloc (Nat.le_refl _) _⟩

set_option maxHeartbeats 800000 in
theorem index_ge (n : Int) (pr : Nat) (A : Option Addr) (c : Nat) (vs : List B3) (w : World) (hr : Rd3 w w.heap.size A vs) (hn : vs.length ≤ 1048576) (hc : CapN w pr n) :
    Calls Try.prog 128 #[.slice A vs.length c, .func (.func 110) #[] #[.pointer (some ⟨pr, 0, none⟩)]] w (Idx4 (vs.any (geB n)) w) := by
  obtain ⟨z, hz⟩ : ∃ z, vs.any (geB n) = z := ⟨_, rfl⟩
  rw [hz]
  have HZ := Lib.hid hz; clear hz
  obtain ⟨l, hl⟩ : ∃ l, vs.length = l := ⟨_, rfl⟩
  rw [hl] at hn ⊢
  have HL := Lib.hid hl; clear hl
  have HRV := Lib.hid hr; clear hr
  have HC := Lib.hid hc; clear hc
  have HA := Lib.hid (fun j h => take_any3 (geB n) vs j h)
  go_enter Try.func128, Try.ntmps128
  go_wp2
  go_loopw [8] (fun i wr => ∃ (j : Nat), j ≤ l ∧ i = .int .i64 j ∧ Hid ((vs.take j).any (geB n) = false) ∧ Below w.heap.size w wr) (fun i _ => l - (intOf i).toNat)
  case atStart => exact ⟨0, Nat.zero_le _, rfl, by show _ = _; simp, Below.refl _ _⟩
  case round =>
    obtain ⟨j, hj, rfl, hy, hbel⟩ := hrel
    by_cases hlj : j < l
    · obtain ⟨b', off', rfl, hb', hd0, hd1, hd2⟩ := Rd3.at_ (HRV.out.below hbel) (k := j) (by rw [HL.out]; omega)
      have hsa := HA.out j (by rw [HL.out]; exact hlj)
      rw [hy.out] at hsa
      obtain ⟨⟨ua, ub, uc⟩, hu⟩ : ∃ u, vs.getD j z3 = u := ⟨_, rfl⟩
      rw [hu] at hd0 hd1 hd2 hsa
      simp only at hd0 hd1 hd2
      clear hu
      have hcall := clo_ge ua ub uc n pr wr (HC.out.on hbel)
      obtain ⟨q, hq⟩ : ∃ q, geB n (ua, ub, uc) = q := ⟨_, rfl⟩
      rw [hq] at hcall hsa
      simp only [Bool.false_or] at hsa
      have HSA := Lib.hid hsa
      have HCL := Lib.hid hcall
      clear hsa hcall hq hy
      cases q
      · go_wp2_with fail
        refine HCL.out.mono ?_
        rintro e w1 ⟨rfl, hb1⟩
        go_wp2
        go_roundw
        case rel => exact ⟨j + 1, by omega, by go_num, HSA, hbel.trans (hb1.mono hbel.size)⟩
        case measure => simp [intOf]; omega
      · have HT : Hid (z = true) := by
          show _ = _
          rw [← HZ.out, List.any_eq_true]
          have := HSA.out
          rw [List.any_eq_true] at this
          obtain ⟨x, hx, hp⟩ := this
          exact ⟨x, List.mem_of_mem_take hx, hp⟩
        go_wp2_with fail
        refine HCL.out.mono ?_
        rintro e w1 ⟨rfl, hb1⟩
        go_wp2
        go_ret
        exact ⟨⟨_, by omega, by omega, by rw [HT.out]; simp, rfl⟩, hbel.trans (hb1.mono hbel.size)⟩
    · have hjl : j = l := by omega
      subst hjl
      have HT : Hid (z = false) := by
        show _ = _
        rw [← HZ.out, ← hy.out, List.take_of_length_le (by rw [HL.out]; omega)]
      go_wp2
      go_ret
      exact ⟨⟨-1, by omega, by omega, by rw [HT.out]; rfl, rfl⟩, hbel⟩
theorem contains_ge (z : Bool) (n : Int) (pr : Nat) (A : Option Addr) (c : Nat) (vs : List B3) (hz : vs.any (geB n) = z) (w : World) (hr : Rd3 w w.heap.size A vs) (hn : vs.length ≤ 1048576) (hc : CapN w pr n) :
    Calls Try.prog 109 #[.slice A vs.length c, .func (.func 110) #[] #[.pointer (some ⟨pr, 0, none⟩)]] w fun e w' => e = .returned (.bool z) ∧ Below w.heap.size w w' := by
  have HI := Lib.hid (index_ge n pr A c vs w hr hn hc)
  rw [hz] at HI
  clear hr hc hz
  go_enter Try.func109, Try.ntmps109
  go_wp2_with fail
  refine HI.out.mono ?_
  rintro e w1 ⟨⟨y, hy1, hy2, hyz, rfl⟩, hb1⟩
  have HYZ := Lib.hid hyz; clear hyz
  go_wp2
  go_ret
  exact ⟨ret_bool HYZ.out, hb1⟩

set_option maxHeartbeats 800000 in
theorem index_nz (A : Option Addr) (c : Nat) (vs : List B3) (w : World) (hr : Rd3 w w.heap.size A vs) (hn : vs.length ≤ 1048576) :
    Calls Try.prog 128 #[.slice A vs.length c, .func (.func 111) #[] #[]] w (Idx4 (vs.any (nzB)) w) := by
  obtain ⟨z, hz⟩ : ∃ z, vs.any (nzB) = z := ⟨_, rfl⟩
  rw [hz]
  have HZ := Lib.hid hz; clear hz
  obtain ⟨l, hl⟩ : ∃ l, vs.length = l := ⟨_, rfl⟩
  rw [hl] at hn ⊢
  have HL := Lib.hid hl; clear hl
  have HRV := Lib.hid hr; clear hr
  have HA := Lib.hid (fun j h => take_any3 (nzB) vs j h)
  go_enter Try.func128, Try.ntmps128
  go_wp2
  go_loopw [8] (fun i wr => ∃ (j : Nat), j ≤ l ∧ i = .int .i64 j ∧ Hid ((vs.take j).any (nzB) = false) ∧ Below w.heap.size w wr) (fun i _ => l - (intOf i).toNat)
  case atStart => exact ⟨0, Nat.zero_le _, rfl, by show _ = _; simp, Below.refl _ _⟩
  case round =>
    obtain ⟨j, hj, rfl, hy, hbel⟩ := hrel
    by_cases hlj : j < l
    · obtain ⟨b', off', rfl, hb', hd0, hd1, hd2⟩ := Rd3.at_ (HRV.out.below hbel) (k := j) (by rw [HL.out]; omega)
      have hsa := HA.out j (by rw [HL.out]; exact hlj)
      rw [hy.out] at hsa
      obtain ⟨⟨ua, ub, uc⟩, hu⟩ : ∃ u, vs.getD j z3 = u := ⟨_, rfl⟩
      rw [hu] at hd0 hd1 hd2 hsa
      simp only at hd0 hd1 hd2
      clear hu
      have hcall := clo_nz ua ub uc wr
      obtain ⟨q, hq⟩ : ∃ q, nzB (ua, ub, uc) = q := ⟨_, rfl⟩
      rw [hq] at hcall hsa
      simp only [Bool.false_or] at hsa
      have HSA := Lib.hid hsa
      have HCL := Lib.hid hcall
      clear hsa hcall hq hy
      cases q
      · go_wp2_with fail
        refine HCL.out.mono ?_
        rintro e w1 ⟨rfl, hb1⟩
        go_wp2
        go_roundw
        case rel => exact ⟨j + 1, by omega, by go_num, HSA, hbel.trans (hb1.mono hbel.size)⟩
        case measure => simp [intOf]; omega
      · have HT : Hid (z = true) := by
          show _ = _
          rw [← HZ.out, List.any_eq_true]
          have := HSA.out
          rw [List.any_eq_true] at this
          obtain ⟨x, hx, hp⟩ := this
          exact ⟨x, List.mem_of_mem_take hx, hp⟩
        go_wp2_with fail
        refine HCL.out.mono ?_
        rintro e w1 ⟨rfl, hb1⟩
        go_wp2
        go_ret
        exact ⟨⟨_, by omega, by omega, by rw [HT.out]; simp, rfl⟩, hbel.trans (hb1.mono hbel.size)⟩
    · have hjl : j = l := by omega
      subst hjl
      have HT : Hid (z = false) := by
        show _ = _
        rw [← HZ.out, ← hy.out, List.take_of_length_le (by rw [HL.out]; omega)]
      go_wp2
      go_ret
      exact ⟨⟨-1, by omega, by omega, by rw [HT.out]; rfl, rfl⟩, hbel⟩
theorem contains_nz (z : Bool) (A : Option Addr) (c : Nat) (vs : List B3) (hz : vs.any (nzB) = z) (w : World) (hr : Rd3 w w.heap.size A vs) (hn : vs.length ≤ 1048576) :
    Calls Try.prog 109 #[.slice A vs.length c, .func (.func 111) #[] #[]] w fun e w' => e = .returned (.bool z) ∧ Below w.heap.size w w' := by
  have HI := Lib.hid (index_nz A c vs w hr hn)
  rw [hz] at HI
  clear hr hz
  go_enter Try.func109, Try.ntmps109
  go_wp2_with fail
  refine HI.out.mono ?_
  rintro e w1 ⟨⟨y, hy1, hy2, hyz, rfl⟩, hb1⟩
  have HYZ := Lib.hid hyz; clear hyz
  go_wp2
  go_ret
  exact ⟨ret_bool HYZ.out, hb1⟩

end Go.Proofs.Ytfdfjmibjnmhpaa.V

namespace Go.Proofs.Ytfdfjmibjnmhpaa.V
open Go.RowKit Go.Proofs.Ytfdfjmibjnmhpaa.B

/-- The tallies in their order. -/
def tk (pr vo re ds : List B3) (k : Nat) : List B3 := if k = 0 then pr else if k = 1 then vo else if k = 2 then re else ds
theorem tals_no {n : Int} {pr vo re ds : List B3} {k : Nat} (h : talB n (tk pr vo re ds k) = false) : (talB n pr && (talB n vo && (talB n re && talB n ds)) && ds.all zero4) = false := by
  unfold tk at h
  by_cases h0 : k = 0
  · rw [if_pos h0] at h; simp [h]
  rw [if_neg h0] at h
  by_cases h1 : k = 1
  · rw [if_pos h1] at h; simp [h]
  rw [if_neg h1] at h
  by_cases h2 : k = 2
  · rw [if_pos h2] at h; simp [h]
  rw [if_neg h2] at h
  simp [h]
theorem tals_yes {n : Int} {pr vo re ds : List B3} (h : ∀ j, j < 4 → talB n (tk pr vo re ds j) = true) : (talB n pr && (talB n vo && (talB n re && talB n ds)) && ds.all zero4) = ds.all zero4 := by
  have h0 : talB n pr = true := h 0 (by omega)
  have h1 : talB n vo = true := h 1 (by omega)
  have h2 : talB n re = true := h 2 (by omega)
  have h3 : talB n ds = true := h 3 (by omega)
  simp [h0, h1, h2, h3]

set_option maxHeartbeats 3200000 in
theorem implTallies_is (z : Bool) (q : Rq) (hz : talsQ q.dat = z) (w : World) (hr : RdQ w w.heap.size q) (hf : FewQ q) :
    Calls Try.prog 86 #[q.agg] w fun e w' => e = .returned (.bool z) ∧ Below w.heap.size w w' := by
  obtain ⟨n, id, own, view, left, voted, lv, lx, dn, pr, vo, re, ds, hs, Av, Ap, Ao, Ar, Ad, Ah, cv, cp, co, cr, cd, ch⟩ := q
  obtain ⟨rv, rp, ro, rr, rd, rh⟩ := hr
  obtain ⟨fv, fp, fo, fr, fd, fh⟩ := hf
  simp only [Rq.agg, Rq.cells] at *
  have HZ : Hid ((talB n pr && (talB n vo && (talB n re && talB n ds)) && ds.all zero4) = z) := hz
  clear hz
  have hK : ∀ k, k < 4 → ∃ A c, #[Value.slice Ap pr.length cp, .slice Ao vo.length co, .slice Ar re.length cr, .slice Ad ds.length cd][k]? = some (.slice A (tk pr vo re ds k).length c) ∧ Rd3 w w.heap.size A (tk pr vo re ds k) ∧ (tk pr vo re ds k).length ≤ 1048576 := by
    intro k hk
    rcases (by omega : k = 0 ∨ k = 1 ∨ k = 2 ∨ k = 3) with rfl | rfl | rfl | rfl
    · exact ⟨Ap, cp, rfl, rp, fp⟩
    · exact ⟨Ao, co, rfl, ro, fo⟩
    · exact ⟨Ar, cr, rfl, rr, fr⟩
    · exact ⟨Ad, cd, rfl, rd, fd⟩
  have HK := Lib.hid hK; clear hK
  have HD := Lib.hid (fun (x : Bool) (hx : ds.any nzB = x) (W : World) (h : Below w.heap.size w W) => contains_nz x Ad cd ds hx W ((rd.below h).more h.size) fd)
  clear rv rp ro rr rd rh fv fp fo fr fd fh
  obtain ⟨lv0, elv0⟩ : ∃ m, voted.length = m := ⟨_, rfl⟩
  obtain ⟨lp0, elp0⟩ : ∃ m, pr.length = m := ⟨_, rfl⟩
  obtain ⟨lo0, elo0⟩ : ∃ m, vo.length = m := ⟨_, rfl⟩
  obtain ⟨lr0, elr0⟩ : ∃ m, re.length = m := ⟨_, rfl⟩
  obtain ⟨ld0, eld0⟩ : ∃ m, ds.length = m := ⟨_, rfl⟩
  obtain ⟨lh0, elh0⟩ : ∃ m, hs.length = m := ⟨_, rfl⟩
  simp only [elv0, elp0, elo0, elr0, eld0, elh0] at HK HD ⊢
  clear elv0 elp0 elo0 elr0 eld0 elh0
  have ka := (Blk.new w 40 #[.int .i64 n, .int .i64 id, .int .i64 own, .int .i64 view, .int .i64 left, .slice Av lv0 cv, .int .i64 lv, .int .i64 lx, .int .i64 dn, .slice Ap lp0 cp, .slice Ao lo0 co, .slice Ar lr0 cr, .slice Ad ld0 cd, .slice Ah lh0 ch]).alloc (.cells #[.slice Ap lp0 cp, .slice Ao lo0 co, .slice Ar lr0 cr, .slice Ad ld0 cd] 37)
  have kt := Blk.new (w.alloc (.cells #[.int .i64 n, .int .i64 id, .int .i64 own, .int .i64 view, .int .i64 left, .slice Av lv0 cv, .int .i64 lv, .int .i64 lx, .int .i64 dn, .slice Ap lp0 cp, .slice Ao lo0 co, .slice Ar lr0 cr, .slice Ad ld0 cd, .slice Ah lh0 ch] 40)) 37 #[.slice Ap lp0 cp, .slice Ao lo0 co, .slice Ar lr0 cr, .slice Ad ld0 cd]
  simp only [World.size_alloc] at kt
  have hB := up_ (up_ (Below.refl w.heap.size w) (.cells #[.int .i64 n, .int .i64 id, .int .i64 own, .int .i64 view, .int .i64 left, .slice Av lv0 cv, .int .i64 lv, .int .i64 lx, .int .i64 dn, .slice Ap lp0 cp, .slice Ao lo0 co, .slice Ar lr0 cr, .slice Ad ld0 cd, .slice Ah lh0 ch] 40)) (.cells #[.slice Ap lp0 cp, .slice Ao lo0 co, .slice Ar lr0 cr, .slice Ad ld0 cd] 37)
  have HKA := Lib.hid ka; have HKT := Lib.hid kt; have HB := Lib.hid hB; clear ka kt hB
  go_enter Try.func86, Try.ntmps86
  go_wp2
  go_loopw [15] (fun i wr => ∃ (k : Nat), k ≤ 4 ∧ i = .int .i64 k ∧ Hid (∀ j, j < k → talB n (tk pr vo re ds j) = true) ∧ Blk wr w.heap.size 40 #[.int .i64 n, .int .i64 id, .int .i64 own, .int .i64 view, .int .i64 left, .slice Av lv0 cv, .int .i64 lv, .int .i64 lx, .int .i64 dn, .slice Ap lp0 cp, .slice Ao lo0 co, .slice Ar lr0 cr, .slice Ad ld0 cd, .slice Ah lh0 ch] ∧ Blk wr (w.heap.size + 1) 37 #[.slice Ap lp0 cp, .slice Ao lo0 co, .slice Ar lr0 cr, .slice Ad ld0 cd] ∧ Below w.heap.size w wr) (fun i _ => 4 - (intOf i).toNat)
  case atStart => exact ⟨0, Nat.zero_le _, rfl, fun j hj => absurd hj (by omega), HKA.out, HKT.out, HB.out⟩
  case round =>
    obtain ⟨k, hk, rfl, hall, ka, kt, hB⟩ := hrel
    clear HKA HKT HB
    have ra := ka.rule
    by_cases hlt : k < 4
    · obtain ⟨A, c, hx, hrd, hfw⟩ := HK.out k hlt
      have hc0 := (kt.cell k).trans hx
      have HRD := Lib.hid hrd; clear hrd hx
      have HTB : Hid (talB n (tk pr vo re ds k) = ((tk pr vo re ds k).all (below4 n) && tallyOkB (tk pr vo re ds k))) := rfl
      obtain ⟨vs, hvs⟩ : ∃ v, tk pr vo re ds k = v := ⟨_, rfl⟩
      rw [hvs] at hc0 HRD hfw HTB
      have HVS := Lib.hid hvs; clear hvs
      obtain ⟨b1, hb1⟩ : ∃ b, tallyOkB vs = b := ⟨_, rfl⟩
      obtain ⟨b2, hb2⟩ : ∃ b, vs.any (geB n) = b := ⟨_, rfl⟩
      have hb3 : vs.all (below4 n) = !b2 := by rw [← hb2, any_ge, Bool.not_not]
      rw [hb1, hb3] at HTB
      clear hb3
      have H1 := Lib.hid (fun (W : World) (h : Below w.heap.size w W) => implTallyOk_is b1 A c vs hb1 W ((HRD.out.below h).more h.size) hfw)
      have H2 := Lib.hid (fun (W : World) (h : Below w.heap.size w W) (g : CapN W w.heap.size n) => contains_ge b2 n w.heap.size A c vs hb2 W ((HRD.out.below h).more h.size) hfw g)
      obtain ⟨m, hm⟩ : ∃ m, vs.length = m := ⟨_, rfl⟩
      rw [hm] at hc0 H1 H2 hfw
      clear hm hb1 hb2 HRD
      have kx := Blk.new wr 37 #[.slice A m c]
      have ka1 := ka.alloc (.cells #[.slice A m c] 37)
      have kt1 := kt.alloc (.cells #[.slice A m c] 37)
      have hB1 : Below w.heap.size w (wr.alloc (.cells #[.slice A m c] 37)) := hB.alloc hB.size _
      go_wp2_with fail
      refine (H1.out _ hB1).mono ?_
      rintro e w1 ⟨rfl, hb1⟩
      have ka2 := ka1.on hb1
      have kt2 := kt1.on hb1
      have kx2 := kx.on hb1
      have hB2 := on_ hB1 hb1
      clear ra hc0 ka kt hB kx ka1 kt1 hB1 hb1
      have ra2 := ka2.rule
      have rx2 := kx2.rule
      rcases b1 with _ | _
      · go_wp2
        go_ret
        exact ⟨ret_bool (by rw [← HZ.out, tals_no (k := k) (by rw [HVS.out, HTB.out]; simp)]), hB2⟩
      · go_wp2_with fail
        refine (H2.out _ hB2 (ra2 0)).mono ?_
        rintro e w3 ⟨rfl, hb3⟩
        have ka4 := ka2.on hb3
        have kt4 := kt2.on hb3
        have hB4 := on_ hB2 hb3
        clear ra2 rx2 ka2 kt2 kx2 hB2 hb3
        have ra4 := ka4.rule
        rcases b2 with _ | _
        · go_wp2
          go_roundw
          case rel =>
            refine ⟨k + 1, by omega, by go_num, fun j hj => ?_, ka4, kt4, hB4⟩
            by_cases e : j = k
            · rw [e, HVS.out, HTB.out]; rfl
            · exact hall.out j (by omega)
          case measure => simp [intOf]; omega
        · go_wp2
          go_ret
          exact ⟨ret_bool (by rw [← HZ.out, tals_no (k := k) (by rw [HVS.out, HTB.out]; rfl)]), hB4⟩
    · obtain ⟨y, hy⟩ : ∃ y, ds.any nzB = y := ⟨_, rfl⟩
      have HY : Hid (z = !y) := by
        show _ = _
        rw [← HZ.out, tals_yes fun j hj => hall.out j (by omega), ← hy, any_nz, Bool.not_not]
      have H1 := Lib.hid (HD.out y hy); clear hy
      go_wp2_with fail
      refine (H1.out _ hB).mono ?_
      rintro e w1 ⟨rfl, hb1⟩
      have hB1 := on_ hB hb1
      clear hb1
      go_wp2
      go_ret
      exact ⟨ret_bool (by rw [HY.out]), hB1⟩
end Go.Proofs.Ytfdfjmibjnmhpaa.V

namespace Go.Proofs.Ytfdfjmibjnmhpaa.V
open Go.RowKit Go.Proofs.Ytfdfjmibjnmhpaa.B

set_option maxHeartbeats 3200000 in
theorem implHeard_is (z : Bool) (q : Rq) (hz : heardB q.n (hl q.hs) = z) (w : World) (hr : RdQ w w.heap.size q) (hf : FewQ q) :
    Calls Try.prog 87 #[q.agg] w fun e w' => e = .returned (.bool z) ∧ Below w.heap.size w w' := by
  obtain ⟨n, id, own, view, left, voted, lv, lx, dn, pr, vo, re, ds, hs, Av, Ap, Ao, Ar, Ad, Ah, cv, cp, co, cr, cd, ch⟩ := q
  obtain ⟨rv, rp, ro, rr, rd, rh⟩ := hr
  obtain ⟨fv, fp, fo, fr, fd, fh⟩ := hf
  simp only [Rq.agg, Rq.cells] at *
  have HZ := Lib.hid hz; have RHH := Lib.hid rh; have FHH := Lib.hid fh
  clear hz rv rp ro rr rd rh fv fp fo fr fd
  obtain ⟨lv0, elv0⟩ : ∃ m, voted.length = m := ⟨_, rfl⟩
  obtain ⟨lp0, elp0⟩ : ∃ m, pr.length = m := ⟨_, rfl⟩
  obtain ⟨lo0, elo0⟩ : ∃ m, vo.length = m := ⟨_, rfl⟩
  obtain ⟨lr0, elr0⟩ : ∃ m, re.length = m := ⟨_, rfl⟩
  obtain ⟨ld0, eld0⟩ : ∃ m, ds.length = m := ⟨_, rfl⟩
  obtain ⟨lh0, elh0⟩ : ∃ m, hs.length = m := ⟨_, rfl⟩
  simp only [elv0, elp0, elo0, elr0, eld0, elh0]
  have ELH := Lib.hid elh0
  have blh : lh0 ≤ 1048576 := by rw [← elh0]; exact fh.1
  clear elv0 elp0 elo0 elr0 eld0 elh0 fh
  have ka := Blk.new w 40 #[.int .i64 n, .int .i64 id, .int .i64 own, .int .i64 view, .int .i64 left, .slice Av lv0 cv, .int .i64 lv, .int .i64 lx, .int .i64 dn, .slice Ap lp0 cp, .slice Ao lo0 co, .slice Ar lr0 cr, .slice Ad ld0 cd, .slice Ah lh0 ch]
  have hB := up_ (Below.refl w.heap.size w) (.cells #[.int .i64 n, .int .i64 id, .int .i64 own, .int .i64 view, .int .i64 left, .slice Av lv0 cv, .int .i64 lv, .int .i64 lx, .int .i64 dn, .slice Ap lp0 cp, .slice Ao lo0 co, .slice Ar lr0 cr, .slice Ad ld0 cd, .slice Ah lh0 ch] 40)
  have HKA := Lib.hid ka; have HB := Lib.hid hB; clear ka hB
  go_enter Try.func87, Try.ntmps87
  go_wp2
  go_loopw [8] (fun i wr => ∃ (k : Nat), k ≤ lh0 ∧ i = .int .i64 k ∧ Hid (∀ j, j < k → goodH n (hl hs) j = true) ∧ Blk wr w.heap.size 40 #[.int .i64 n, .int .i64 id, .int .i64 own, .int .i64 view, .int .i64 left, .slice Av lv0 cv, .int .i64 lv, .int .i64 lx, .int .i64 dn, .slice Ap lp0 cp, .slice Ao lo0 co, .slice Ar lr0 cr, .slice Ad ld0 cd, .slice Ah lh0 ch] ∧ Below w.heap.size w wr) (fun i _ => lh0 - (intOf i).toNat)
  case atStart => exact ⟨0, Nat.zero_le _, rfl, fun j hj => absurd hj (by omega), HKA.out, HB.out⟩
  case round =>
    obtain ⟨k, hk, rfl, hall, ka, hB⟩ := hrel
    clear HKA HB
    have ra := ka.rule
    by_cases hlt : k < lh0
    · obtain ⟨b, off, rfl, hb, hc0, hc1, hrv⟩ := RdH.at_ (RHH.out.below hB) (k := k) (by rw [ELH.out]; omega)
      have hpv : 0 < k → wr.cell? ⟨b, off + (k - 1) * 2, none⟩ = some (.int .i64 (hs.getD (k - 1) zH).v) := fun h0 => by
        obtain ⟨b', off', he, _, h1, _⟩ := RdH.at_ (RHH.out.below hB) (k := k - 1) (by rw [ELH.out]; omega)
        injection he with he
        injection he with he1 he2
        subst he1 he2
        exact h1
      have hfw := FHH.out.2 k (by rw [ELH.out]; omega)
      have HG : Hid (goodH n (hl hs) k = (repsOkB n (hs.getD k zH).v (rl (hs.getD k zH).ps) && (decide (k = 0) || decide ((hs.getD (k - 1) zH).v < (hs.getD k zH).v)))) := by show _ = _; unfold goodH; rw [hl_at, hl_at]; rfl
      obtain ⟨⟨uv, ups, A', c'⟩, hu⟩ : ∃ v, hs.getD k zH = v := ⟨_, rfl⟩
      obtain ⟨pf, hp⟩ : ∃ v, (hs.getD (k - 1) zH).v = v := ⟨_, rfl⟩
      rw [hu] at hc0 hc1 hrv hfw HG
      rw [hp] at hpv HG
      simp only at hc0 hc1 hrv hfw HG
      clear hu hp
      obtain ⟨ul, hul⟩ : ∃ m, ups.length = m := ⟨_, rfl⟩
      have kx := Blk.new wr 122 #[.int .i64 uv, .slice A' ul c']
      have ka1 := ka.alloc (.cells #[.int .i64 uv, .slice A' ul c'] 122)
      have hB1 : Below w.heap.size w (wr.alloc (.cells #[.int .i64 uv, .slice A' ul c'] 122)) := hB.alloc hB.size _
      have hwx : Below wr.heap.size wr (wr.alloc (.cells #[.int .i64 uv, .slice A' ul c'] 122)) := (Below.refl _ _).alloc (Nat.le_refl _) _
      have hpv1 : 0 < k → (wr.alloc (.cells #[.int .i64 uv, .slice A' ul c'] 122)).cell? ⟨b, off + (k - 1) * 2, none⟩ = some (.int .i64 pf) := fun h0 => (hwx.cell (p := ⟨b, off + (k - 1) * 2, none⟩) (by have := hB.size; simp; omega)).trans (hpv h0)
      have HRV := Lib.hid ((fun x : Lat (wr.alloc (.cells #[.int .i64 uv, .slice A' ul c'] 122)) => ((hrv.below (hwx.mono hB.size)).below (x.below.mono hB1.size)).more (Nat.le_trans hB1.size x.below.size) : ∀ x : Lat (wr.alloc (.cells #[.int .i64 uv, .slice A' ul c'] 122)), RdR x.w x.w.heap.size A' ups)); clear hrv
      have CA := fun x => lat_blk ka1 x
      have CX := fun x => lat_blk kx x
      have HRO := Lib.hid (fun (q : Bool) (hq : repsOkB n uv (rl ups) = q) (x : Lat (wr.alloc (.cells #[.int .i64 uv, .slice A' ul c'] 122))) => implReportsOk_is q n uv A' c' ups hq x.w (HRV.out x) hfw)
      rw [hul] at HRO hc1
      clear hul HRV hfw hpv
      have HKX := Lib.hid ka1; have HBX := Lib.hid hB1; clear ka hB ka1 hB1 kx hwx
      rcases hq : repsOkB n uv (rl ups) with _ | _
      · have HQ := Lib.hid hq; clear hq hpv1
        go_wp2
        refine wp_region_lat (by kernel_rfl) (by kernel_rfl) ?_
        repeat (go_big_quiet_step ((first | (go_at_call 112; exact lat_call _ (HRO.out false HQ.out _)))))
        refine wpQuiet_nil ?_
        rintro w3 ⟨⟨_, hb3⟩, rfl⟩
        have hB3 := on_ HBX.out hb3; have kb3 := HKX.out.on hb3
        clear CA CX ra
        go_wp2
        go_ret
        refine ⟨ret_bool ?_, hB3⟩
        rw [← HZ.out, heard_no (k := k) (by rw [hl_len, ELH.out]; omega) (by rw [HG.out]; simp [HQ.out])]
      have HQ := Lib.hid hq; clear hq
      by_cases h4 : 0 < k
      · have hp0 := hpv1 h4
        clear hpv1
        obtain ⟨p, hkp⟩ : ∃ p, k = p + 1 := ⟨k - 1, by omega⟩
        have hE : (k : Int) - 1 = (p : Int) := by omega
        have hW : IntKind.i64.wrap (p : Int) = (p : Int) := IntWalk.i64_in _ (by omega)
        rw [show k - 1 = p by omega] at hp0
        have P0 := fun x : Lat (wr.alloc (.cells #[.int .i64 uv, .slice A' ul c'] 122)) => x.cell hp0
        have hw4 : (p : Int) < (lh0 : Int) := by omega
        have hw5 : p < lh0 := by omega
        have HKP := Lib.hid hkp; clear hkp hp0
        by_cases h5 : pf < uv
        · have hd5 : decide (uv ≤ pf) = false := by simp; omega
          go_wp2
          refine wp_region_lat (by kernel_rfl) (by kernel_rfl) ?_
          repeat (go_big_quiet_step ((first | (go_at_call 112; exact lat_call _ (HRO.out true HQ.out _)))))
          refine wpQuiet_nil ?_
          rintro w3 ⟨⟨_, hb3⟩, rfl⟩
          have hB3 := on_ HBX.out hb3; have kb3 := HKX.out.on hb3
          clear CA CX P0 ra
          go_wp2
          go_roundw
          case rel =>
            refine ⟨k + 1, by omega, by go_num, fun j hj => ?_, kb3, hB3⟩
            by_cases e : j = k
            · rw [e, HG.out]; simp [HQ.out, h5]
            · exact hall.out j (by omega)
          case measure => simp [intOf]; omega
        · have hd5 : decide (uv ≤ pf) = true := by simp; omega
          go_wp2
          refine wp_region_lat (by kernel_rfl) (by kernel_rfl) ?_
          repeat (go_big_quiet_step ((first | (go_at_call 112; exact lat_call _ (HRO.out true HQ.out _)))))
          refine wpQuiet_nil ?_
          rintro w3 ⟨⟨_, hb3⟩, rfl⟩
          have hB3 := on_ HBX.out hb3; have kb3 := HKX.out.on hb3
          clear CA CX P0 ra
          go_wp2
          go_ret
          refine ⟨ret_bool ?_, hB3⟩
          rw [← HZ.out, heard_no (k := k) (by rw [hl_len, ELH.out]; omega) (by rw [HG.out]; simp [h5]; intro _; omega)]
      · clear hpv1
        have hd : decide ((0 : Int) < (k : Int)) = false := by simp; omega
        have HK0 : Hid (k = 0) := by show _ = _; omega
        go_wp2
        refine wp_region_lat (by kernel_rfl) (by kernel_rfl) ?_
        repeat (go_big_quiet_step ((first | (go_at_call 112; exact lat_call _ (HRO.out true HQ.out _)))))
        refine wpQuiet_nil ?_
        rintro w3 ⟨⟨_, hb3⟩, rfl⟩
        have hB3 := on_ HBX.out hb3; have kb3 := HKX.out.on hb3
        clear CA CX ra
        go_wp2
        go_roundw
        case rel =>
          refine ⟨k + 1, by omega, by go_num, fun j hj => ?_, kb3, hB3⟩
          by_cases e : j = k
          · rw [e, HG.out]; simp [HQ.out, HK0.out]
          · exact hall.out j (by omega)
        case measure => simp [intOf]; omega
    · go_wp2
      go_ret
      exact ⟨ret_bool (by rw [← HZ.out, heard_yes fun j hj => hall.out j (by rw [hl_len, ELH.out] at hj; omega)]), hB⟩
end Go.Proofs.Ytfdfjmibjnmhpaa.V
