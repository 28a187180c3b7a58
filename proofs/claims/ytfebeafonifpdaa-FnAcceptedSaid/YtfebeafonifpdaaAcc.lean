/-
  Accepted of the model: contract. No statement is proved here.
-/
import Derived.Test.YtfebeafonifpdaaJoined
import Derived.Test.YtfebeafonifpdaaImplAdd
import Derived.Test.YtfebeafonifpdaaTalMath
set_option linter.unusedVariables false
set_option maxRecDepth 100000
namespace Go.Proofs.Ytfebeafonifpdaa.V
open Go.RowKit Go.Proofs.Ytfebeafonifpdaa.B
def accB (n : Int) (u : B3) : Bool := b3Ok u && decide (u.1 < n)
def accQ (n : Int) (rs : List B3) (seq : Int) : Bool := sizeB n && viewB seq && rs.all (accB n)
def accW (n : Int) (rs : List B3) (seq : Int) : Option Nat := if accQ n rs seq then winK (rs.foldl addT []) seq (weakR n) else none
theorem acc_no {n : Int} {rs : List B3} {seq : Int} (h : accQ n rs seq = false) : accW n rs seq = none := by simp [accW, h]
theorem acc_bad {n : Int} {rs : List B3} {seq : Int} {k : Nat} (hk : k < rs.length) (h : accB n (rs.getD k z3) = false) : accQ n rs seq = false := by
  unfold accQ
  have : rs.all (accB n) = false := by
    rw [List.all_eq_false]
    exact ⟨rs.getD k z3, by rw [List.getD_eq_getElem?_getD, List.getElem?_eq_getElem hk]; exact List.getElem_mem hk, by rw [h]; decide⟩
  rw [this, Bool.and_false]
theorem acc_all {n : Int} {rs : List B3} {seq : Int} (h1 : sizeB n = true) (h2 : viewB seq = true) (h : ∀ j, j < rs.length → accB n (rs.getD j z3) = true) : accQ n rs seq = true := by
  unfold accQ
  have : rs.all (accB n) = true := by
    rw [List.all_eq_true]
    intro x hx
    obtain ⟨i, hi, rfl⟩ := List.getElem_of_mem hx
    have := h i hi
    rwa [List.getD_eq_getElem?_getD, List.getElem?_eq_getElem hi] at this
  rw [h1, h2, this]; rfl
theorem accB_ok {n : Int} {u : B3} (h : accB n u = true) : b3Ok u = true := by unfold accB at h; rw [Bool.and_eq_true] at h; exact h.1
theorem acc_alike {n : Int} {rs : List B3} : ∀ i, i ≤ rs.length → (∀ j, j < i → accB n (rs.getD j z3) = true) → Alike (putK [] rs i) (joinK [] rs i) ∧ Val3 (joinK [] rs i)
  | 0, _, _ => by simpa [putK, joinK] using ⟨Alike.refl [], (⟨List.Pairwise.nil, fun u hu => by simp at hu⟩ : Val3 [])⟩
  | i + 1, h, ha => by
    obtain ⟨a, b⟩ := acc_alike i (by omega) (fun j hj => ha j (by omega))
    rw [putK_step [] rs i (by omega), joinK_step [] rs i (by omega)]
    have ho := accB_ok (ha i (by omega))
    exact ⟨put_alike a b ho, addT_val b ho⟩
theorem l2weak_any (n : Int) (h : sizeB n = true) (w : World) : Calls Try.prog 84 #[.int .i64 n] w fun e w' => e = .returned (.int .i64 (weakR n)) ∧ w' = w := by
  rcases size_two h with rfl | rfl
  all_goals
    go_enter Try.func84, Try.ntmps84
    go_wp2_with (go_in)
    go_ret
    exact ⟨ret_int (by simp [weakR, sizeB]), rfl⟩

set_option maxHeartbeats 3200000 in
theorem specAcc_any (n : Int) (A : Option Addr) (c : Nat) (rs : List B3) (seq : Int) (w : World) (hr : Rd3 w w.heap.size A rs) (hn : rs.length ≤ 1048576) :
    Calls Try.prog 53 #[.int .i64 n, .slice A rs.length c, .int .i64 seq] w fun e w' => e = .returned (.tuple #[.int .i64 (winV (accW n rs seq)), .bool (accW n rs seq).isSome]) ∧ Below w.heap.size w w' := by
  have kz := Blk.new w 96 #[.slice none 0 0]
  have hB := up_ (Below.refl w.heap.size w) (.cells #[.slice none 0 0] 96)
  have hr1 := hr.up (.cells #[.slice none 0 0] 96)
  have HR := Lib.hid hr1
  clear hr1 hr
  rcases hs : sizeB n with _ | _
  · have e : accW n rs seq = none := acc_no (by simp [accQ, hs])
    rw [e]
    have HS := Lib.hid hs; clear hs e
    go_enter Try.func53, Try.ntmps53
    go_wp2_with fail
    refine (specSize_is n false HS.out _).mono ?_
    rintro e w1 ⟨rfl, h9⟩; obtain rfl := h9.symm
    go_wp2
    go_ret2
    exact ⟨rfl, hB⟩
  rcases hv : viewB seq with _ | _
  · have e : accW n rs seq = none := acc_no (by simp [accQ, hv])
    rw [e]
    have HS := Lib.hid hs; have HV := Lib.hid hv; clear hs hv e
    go_enter Try.func53, Try.ntmps53
    go_wp2_with fail
    refine (specSize_is n true HS.out _).mono ?_
    rintro e w1 ⟨rfl, h9⟩; obtain rfl := h9.symm
    go_wp2_with fail
    refine (specView3_is seq false HV.out _).mono ?_
    rintro e w1 ⟨rfl, h9⟩; obtain rfl := h9.symm
    go_wp2
    go_ret2
    exact ⟨rfl, hB⟩
  obtain ⟨o, ho⟩ : ∃ o, accW n rs seq = o := ⟨_, rfl⟩
  rw [ho]
  have HO := Lib.hid ho
  have HS := Lib.hid hs; have HV := Lib.hid hv; clear hs hv ho
  have hlen := joinK_len [] rs
  have hstep := joinK_step [] rs
  obtain ⟨m, hmu⟩ : ∃ m, rs.length = m := ⟨_, rfl⟩
  rw [hmu] at hlen hstep hn ⊢
  have HMU := Lib.hid hmu; have HLEN := Lib.hid hlen; have HSTEP := Lib.hid hstep
  clear hmu hlen hstep
  have HBAD : Hid (∀ j, j < m → accB n (rs.getD j z3) = false → o = none) := fun j hj hb => by rw [← HO.out]; exact acc_no (acc_bad (by rw [HMU.out]; exact hj) hb)
  have HFIN : Hid ((∀ j, j < m → accB n (rs.getD j z3) = true) → winK (joinK [] rs m) seq (weakR n) = o) := fun h => by
    rw [← HO.out]
    have h2 := acc_all (seq := seq) HS.out HV.out (by rw [HMU.out]; exact h)
    unfold accW
    rw [if_pos h2, ← joinK_all, HMU.out]
  go_enter Try.func53, Try.ntmps53
  go_wp2_with fail
  refine (specSize_is n true HS.out _).mono ?_
  rintro e w1 ⟨rfl, h9⟩; obtain rfl := h9.symm
  go_wp2_with fail
  refine (specView3_is seq true HV.out _).mono ?_
  rintro e w1 ⟨rfl, h9⟩; obtain rfl := h9.symm
  go_wp2
  generalize hw1 : w.alloc (.cells #[.slice none 0 0] 96) = w1 at *
  have hz1 : w.heap.size < w1.heap.size := kz.lt
  clear hw1
  go_loopw [9] (fun i wr => ∃ (k : Nat) (Ak : Option Addr) (ck : Nat), k ≤ m ∧ i = .int .i64 k ∧ Hid (∀ j, j < k → accB n (rs.getD j z3) = true) ∧ Blk wr w.heap.size 96 #[.slice Ak (joinK [] rs k).length ck] ∧ (joinK [] rs k).length ≤ ck ∧ Rd3 wr wr.heap.size Ak (joinK [] rs k) ∧ Below w.heap.size w wr ∧ Rd3 wr wr.heap.size A rs) (fun i _ => m - (intOf i).toNat)
  case atStart => exact ⟨0, none, 0, Nat.zero_le _, rfl, fun j hj => absurd hj (by omega), by simpa [joinK] using kz, by simp [joinK], by simpa [joinK] using Rd3.nil_, hB, HR.out⟩
  case round =>
    clear kz hB HR
    obtain ⟨k, Ak, ck, hk, rfl, hall, ko, hck, hrk, hbel, hrr⟩ := hrel
    have ro := ko.rule
    have hwz := hbel.size
    by_cases hlt : k < m
    · obtain ⟨bl, off, hA, hb, hc0, hc1, hc2⟩ := Rd3.at_ hrr (k := k) (by rw [HMU.out]; exact hlt)
      subst hA
      obtain ⟨⟨ua, ub, uc⟩, hu⟩ : ∃ v, rs.getD k z3 = v := ⟨_, rfl⟩
      rw [hu] at hc0 hc1 hc2
      have hi1 : (k : Int) < (m : Int) := by omega
      have HRR := Lib.hid hrr
      clear hrr
      rcases hbo : b3Ok (ua, ub, uc) with _ | _
      · have HN := Lib.hid (HBAD.out k hlt (by rw [hu]; simp [accB, hbo]))
        have HBO := Lib.hid hbo; clear hu hbo
        go_wp2_with fail
        refine (ballot_is false ua ub uc HBO.out _).mono ?_
        rintro e w4 ⟨rfl, hb4⟩
        go_wp2
        go_ret2
        exact ⟨by rw [HN.out]; rfl, hbel.trans (hb4.mono hwz)⟩
      · by_cases hfr : n ≤ ua
        · have HN := Lib.hid (HBAD.out k hlt (by rw [hu]; simp [accB]; omega))
          have HBO := Lib.hid hbo; clear hu hbo
          have K0 := fun (w' : World) (h : Below wr.heap.size wr w') => h.cell (p := ⟨bl, off + k * 3, none⟩) hb
          go_wp2_with fail
          refine (ballot_is true ua ub uc HBO.out _).mono ?_
          rintro e w4 ⟨rfl, hb4⟩
          have hc0' := (K0 w4 hb4).trans hc0
          clear K0
          go_wp2
          go_ret2
          exact ⟨by rw [HN.out]; rfl, hbel.trans (hb4.mono hwz)⟩
        · have hfr' : ua < n := by omega
          have HALL : Hid (∀ j, j < k + 1 → accB n (rs.getD j z3) = true) := fun j hj => by
            rcases Nat.lt_succ_iff_lt_or_eq.1 hj with h | h
            · exact hall.out j h
            · rw [h, hu]; unfold accB; rw [hbo, Bool.true_and]; exact decide_eq_true hfr'
          have HBO := Lib.hid hbo
          have hst := HSTEP.out k hlt
          rw [hu] at hst
          have HST := Lib.hid hst
          clear hu hbo hst hfr
          obtain ⟨q, hq⟩ : ∃ q, (!hasB (joinK [] rs k) (ua, ub, uc) (place (joinK [] rs k) (ua, ub, uc))) = q := ⟨_, rfl⟩
          have hlk := HLEN.out k (by omega)
          simp only [List.length_nil, Nat.zero_add] at hlk
          have hgo : ∀ W, Rd3 W W.heap.size Ak (joinK [] rs k) → Calls Try.prog 89 #[.agg #[.slice Ak (joinK [] rs k).length ck], .agg #[.int .i64 ua, .int .i64 ub, .int .i64 uc]] W (ARes (joinK [] rs (k + 1)) q W) := fun W h => by
            have := l2add_go ua ub uc Ak ck _ (joinK [] rs k) (place_pl _ _) W h (by omega) hck
            rw [hq] at this
            rw [HST.out]
            exact this
          have HGO := Lib.hid hgo; clear hgo hq
          obtain ⟨n1, hn1⟩ : ∃ n1, (joinK [] rs k).length = n1 := ⟨_, rfl⟩
          rw [hn1] at ko hck hlk HGO ro
          have HN1 := Lib.hid hn1; clear hn1
          have K0 := fun (i : Nat) (w' : World) (h : Below wr.heap.size wr w') => h.cell (p := ⟨bl, off + k * 3 + i, none⟩) hb
          have HK0 := Lib.hid K0; clear K0
          go_wp2_with fail
          refine (ballot_is true ua ub uc HBO.out _).mono ?_
          rintro e w4 ⟨rfl, hb4⟩
          have hd0 : w4.cell? ⟨bl, off + k * 3, none⟩ = some (.int .i64 ua) := (HK0.out 0 w4 hb4).trans hc0
          have hd1 : w4.cell? ⟨bl, off + k * 3 + 1, none⟩ = some (.int .i64 ub) := (HK0.out 1 w4 hb4).trans hc1
          have hd2 : w4.cell? ⟨bl, off + k * 3 + 2, none⟩ = some (.int .i64 uc) := (HK0.out 2 w4 hb4).trans hc2
          have ko4 := ko.on hb4
          have hrk4 := hrk.on hb4
          have hbel4 := hbel.trans (hb4.mono hwz)
          have HRR4 := Lib.hid (HRR.out.on hb4)
          have hwz4 := hbel4.size
          have ro4 := ko4.rule
          clear hc0 hc1 hc2 ko hrk hbel ro hb4 HRR hb
          have i0 : (0 : Int) ≤ (k : Int) := by omega
          go_wp2
          go_region_law (first | (go_simp; go_at_call 89; refine (HGO.out _ (Rd3.dr hrk4)).mono ?_; rintro e w5 ⟨B5, d5, rfl, hud, hr5, hb5⟩; have ko5 := Blk.on (w := w4.drew) ko4 hb5; have ro5 := ko5.rule; have fo5 := (fun i => ko5.frozen i); have hrr5 := Lib.hid (Rd3.on (w := w4.drew) HRR4.out hb5)))
          all_goals go_wp2
          all_goals go_roundw
          all_goals first
            | (exact ⟨k + 1, B5, d5, by omega, by go_num, HALL, ko5.set_ 0 _, hud, (rd_box hr5 ko5 _).more (by simp [World.setCell]), Below.setCell (hbel4.drew.trans (hb5.mono hwz4)) (by show w.heap.size ≤ w.heap.size; omega) _, (rd_box hrr5.out ko5 _).more (by simp [World.setCell])⟩)
            | (simp [intOf]; omega)
    · obtain rfl : k = m := by omega
      have hfin := HFIN.out hall.out
      have hll := HLEN.out k (Nat.le_refl _)
      simp only [List.length_nil, Nat.zero_add] at hll
      have HLW := Lib.hid (fun (x : Lat wr) => (by rw [← hfin]; exact l2winner_any seq (weakR n) Ak ck (joinK [] rs k) x.w ((hrk.below x.below).more x.below.size) (by omega) : Calls Try.prog 90 #[.agg #[.slice Ak (joinK [] rs k).length ck], .int .i64 seq, .int .i64 (weakR n)] x.w fun e w' => e = .returned (.tuple #[.int .i64 (winV o), .bool o.isSome]) ∧ Below x.w.heap.size x.w w'))
      have C0 := lat_blk ko
      clear hfin hrr hrk ro
      obtain ⟨wk, hwk⟩ : ∃ wk, weakR n = wk := ⟨_, rfl⟩
      rw [hwk] at HLW
      have HL2 : Hid (∀ W : World, Calls Try.prog 84 #[.int .i64 n] W fun e w' => e = .returned (.int .i64 wk) ∧ w' = W) := fun W => by rw [← hwk]; exact l2weak_any n HS.out W
      clear hwk
      go_wp2
      refine wp_region_lat (by kernel_rfl) (by kernel_rfl) ?_
      repeat (go_big_quiet_step ((first | (go_at_call 84; exact lat_same _ (HL2.out _)) | (go_at_call 90; exact lat_call _ (HLW.out _)))))
      refine wpQuiet_nil ?_
      rintro w5 ⟨⟨_, hb5⟩, rfl⟩
      clear C0
      go_wp2
      go_ret2
      exact ⟨rfl, hbel.trans (hb5.mono hwz)⟩
end Go.Proofs.Ytfebeafonifpdaa.V
