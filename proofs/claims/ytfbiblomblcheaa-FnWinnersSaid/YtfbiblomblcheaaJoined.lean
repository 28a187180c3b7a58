/-
  Joined of the model: its contract. No statement is proved here.
-/
import Derived.Test.YtfbiblomblcheaaTallyAdd3
set_option linter.unusedVariables false
set_option maxRecDepth 100000
namespace Go.Proofs.Ytfbiblomblcheaa.V
open Go.RowKit Go.Proofs.Ytfbiblomblcheaa.B

/-- A ballot added to a tally, if it is not there already. -/
def addT (vs : List B3) (u : B3) : List B3 := if hasB vs u (place vs u) then vs else insT vs (place vs u) u
def joinK (vs us : List B3) (i : Nat) : List B3 := (us.take i).foldl addT vs
theorem addT_len (vs : List B3) (u : B3) : (addT vs u).length ≤ vs.length + 1 := by
  unfold addT
  split
  · omega
  · have := (place_pl vs u).1
    rw [insT_len _ _ _ this]; omega
theorem joinK_step (vs us : List B3) (i : Nat) (h : i < us.length) : joinK vs us (i + 1) = addT (joinK vs us i) (us.getD i z3) := by
  unfold joinK
  rw [take_get us z3 i h, List.foldl_append]; rfl
theorem joinK_len (vs us : List B3) : ∀ i, i ≤ us.length → (joinK vs us i).length ≤ vs.length + i
  | 0, _ => by simp [joinK]
  | i + 1, h => by
    rw [joinK_step vs us i (by omega)]
    have h1 := addT_len (joinK vs us i) (us.getD i z3)
    have h2 := joinK_len vs us i (by omega)
    omega
theorem joinK_all (vs us : List B3) : joinK vs us us.length = us.foldl addT vs := by simp [joinK]
def joinQ (vs us : List B3) : Bool := tallyOkB vs && tallyOkB us
def joinU (vs us : List B3) : List B3 := if joinQ vs us then us.foldl addT vs else []
theorem joinU_small (vs us : List B3) : (joinU vs us).length ≤ 140 := by
  unfold joinU joinQ
  rcases h1 : tallyOkB vs with _ | _
  · simp
  · rcases h2 : tallyOkB us with _ | _
    · simp
    · have e1 := tally_len h1
      have e2 := tally_len h2
      have e3 := joinK_len vs us us.length (Nat.le_refl _)
      rw [joinK_all] at e3
      simp only [Bool.and_self, if_true]
      omega

set_option maxHeartbeats 1600000 in
theorem specJoined_any (A B : Option Addr) (c d : Nat) (vs us : List B3) (w : World) (hr : Rd3 w w.heap.size A vs) (hs : Rd3 w w.heap.size B us) (hn : vs.length ≤ 1048576) (hm : us.length ≤ 1048576) :
    Calls Try.prog 58 #[.agg #[.slice A vs.length c], .agg #[.slice B us.length d]] w (TG (joinU vs us) (joinQ vs us) w) := by
  have kb := (Blk.new (w.alloc (.cells #[.slice A vs.length c] 29)) 29 #[.slice B us.length d]).alloc (.cells #[.slice none 0 0] 29)
  have kt := ((Blk.new w 29 #[.slice A vs.length c]).alloc (.cells #[.slice B us.length d] 29)).alloc (.cells #[.slice none 0 0] 29)
  have kz := Blk.new ((w.alloc (.cells #[.slice A vs.length c] 29)).alloc (.cells #[.slice B us.length d] 29)) 29 #[.slice none 0 0]
  simp only [World.size_alloc] at kb kz
  have hr0 := ((hr.up (.cells #[.slice A vs.length c] 29)).up (.cells #[.slice B us.length d] 29)).up (.cells #[.slice none 0 0] 29)
  have hs0 := ((hs.up (.cells #[.slice A vs.length c] 29)).up (.cells #[.slice B us.length d] 29)).up (.cells #[.slice none 0 0] 29)
  have HR := Lib.hid hr0; clear hr0 hr
  have HS := Lib.hid hs0; clear hs0 hs
  rcases hq : tallyOkB vs with _ | _
  · have e1 : joinQ vs us = false := by simp [joinQ, hq]
    have e2 : joinU vs us = [] := by simp [joinU, e1]
    rw [e1, e2]
    have HQ := Lib.hid hq; clear hq e1 e2 kt kb
    go_enter Try.func58, Try.ntmps58
    go_wp2_with fail
    refine (specTallyOk_is false A c vs HQ.out _ HR.out hn).mono ?_
    rintro e w1 ⟨rfl, hb1⟩
    have hB1 := on_ (up_ (up_ (up_ (Below.refl w.heap.size w) _) _) _) hb1
    have kz1 := kz.on hb1
    clear hb1 kz
    have rz1 := kz1.rule
    have fz1 := fun i => kz1.frozen i
    go_wp2
    refine bodyPost_ret (v := .tuple #[.agg #[.slice none 0 0], .bool false]) (by simp [results, Try.results58, go_sem, rz1]) rfl ⟨none, 0, rfl, OT.nil_, Below.setCell hB1 (by simp <;> omega) _⟩
  · rcases hb : tallyOkB us with _ | _
    · have e1 : joinQ vs us = false := by simp [joinQ, hb]
      have e2 : joinU vs us = [] := by simp [joinU, e1]
      rw [e1, e2]
      have HQ := Lib.hid hq; clear hq e1 e2
      have HBQ := Lib.hid hb; clear hb
      go_enter Try.func58, Try.ntmps58
      go_wp2_with fail
      refine (specTallyOk_is true A c vs HQ.out _ HR.out hn).mono ?_
      rintro e w1 ⟨rfl, hb1⟩
      have hB1 := on_ (up_ (up_ (up_ (Below.refl w.heap.size w) _) _) _) hb1
      have kz1 := kz.on hb1
      have kb1 := kb.on hb1
      have hs1 := HS.out.on hb1
      clear hb1 kz kt kb
      have rb1 := kb1.rule
      go_wp2_with fail
      refine (specTallyOk_is false B d us HBQ.out _ hs1 hm).mono ?_
      rintro e w2 ⟨rfl, hb2⟩
      have hB2 := on_ hB1 hb2
      have kz2 := kz1.on hb2
      clear hb2 kz1 kb1 hB1 rb1 hs1
      have rz2 := kz2.rule
      have fz2 := fun i => kz2.frozen i
      go_wp2
      refine bodyPost_ret (v := .tuple #[.agg #[.slice none 0 0], .bool false]) (by simp [results, Try.results58, go_sem, rz2]) rfl ⟨none, 0, rfl, OT.nil_, Below.setCell hB2 (by simp <;> omega) _⟩
    · have e1 : joinQ vs us = true := by simp [joinQ, hb, hq]
      have e2 : joinU vs us = us.foldl addT vs := by simp [joinU, e1]
      rw [e1, e2]
      have h70 := tally_len hq
      have h71 := tally_len hb
      have HQ := Lib.hid hq; clear hq e1 e2
      have HBQ := Lib.hid hb; clear hb
      obtain ⟨m, hmu⟩ : ∃ m, us.length = m := ⟨_, rfl⟩
      have hlen : ∀ i, i ≤ m → (joinK vs us i).length ≤ 70 + i := fun i h => by have := joinK_len vs us i (by omega); omega
      have hstep : ∀ i, i < m → joinK vs us (i + 1) = addT (joinK vs us i) (us.getD i z3) := fun i h => joinK_step vs us i (by omega)
      have hall := joinK_all vs us
      rw [hmu] at hall
      rw [hmu] at hm h71 kt kb ⊢
      have HSs := fun W (h : Rd3 W W.heap.size B us) => specTallyOk_is true B d us HBQ.out W h (by omega)
      rw [hmu] at HSs HS HR kz
      have HSS := Lib.hid HSs; clear HSs
      have HMU := Lib.hid hmu; clear hmu
      have HSTEP := Lib.hid hstep; clear hstep
      have HALL := Lib.hid hall; clear hall
      have HLEN := Lib.hid hlen; clear hlen
      go_enter Try.func58, Try.ntmps58
      go_wp2_with fail
      refine (specTallyOk_is true A c vs HQ.out _ HR.out hn).mono ?_
      rintro e w1 ⟨rfl, hb1⟩
      have hB1 := on_ (up_ (up_ (up_ (Below.refl w.heap.size w) _) _) _) hb1
      have kz1 := kz.on hb1
      have kb1 := kb.on hb1
      have kt1 := kt.on hb1
      have hr1 := HR.out.on hb1
      have hs1 := HS.out.on hb1
      clear hb1 kz kt kb
      have rb1 := kb1.rule
      go_wp2_with fail
      refine (HSS.out _ hs1).mono ?_
      rintro e w2 ⟨rfl, hb2⟩
      have hB2 := on_ hB1 hb2
      have kz2 := kz1.on hb2
      have kb2 := kb1.on hb2
      have kt2 := kt1.on hb2
      have hr2 := hr1.on hb2
      have hs2 := hs1.on hb2
      clear hb2 kz1 kb1 kt1 hB1 hr1 rb1 hs1
      have rb2 := kb2.rule
      have rt2 := kt2.rule
      have hz2 := kz2.lt
      go_wp2_with fail
      refine (l2own_any A c vs _ hr2 (by omega)).mono ?_
      rintro e w3 ⟨A3, c3, rfl, ho3, hb3, hc3⟩
      have hB3 := on_ hB2 hb3
      have kz3 := kz2.on hb3
      have kb3 := kb2.on hb3
      have hr3 := ho3.rd
      have hs3 := hs2.on hb3
      clear hb3 kz2 kb2 kt2 hB2 hr2 rb2 rt2 hs2
      have hz3 := kz3.lt
      have hB3' : ∀ wr, Below w3.heap.size w3 wr → Blk wr (w.heap.size + 1) 29 #[.slice B m d] ∧ Blk wr (w.heap.size + 1 + 1) 29 #[.slice none 0 0] ∧ Rd3 wr w3.heap.size B us ∧ Below w.heap.size w wr ∧ w3.heap.size ≤ wr.heap.size := fun wr h => ⟨kb3.below h (by omega), kz3.below h hz3, hs3.below h, hB3.trans (h.mono hB3.size), h.size⟩
      have HK := Lib.hid hB3'; clear hB3' kb3 kz3 hs3 hB3
      go_wp2
      go_loopw [7] (fun i wr => ∃ (k : Nat) (Ak : Option Addr) (ck : Nat), k ≤ m ∧ i = .int .i64 k ∧ Blk wr w3.heap.size 29 #[.slice Ak (joinK vs us k).length ck] ∧ (joinK vs us k).length ≤ ck ∧ Rd3 wr wr.heap.size Ak (joinK vs us k) ∧ Below w3.heap.size w3 wr) (fun i _ => m - (intOf i).toNat)
      case atStart => exact ⟨0, A3, c3, Nat.zero_le _, rfl, by simpa [joinK] using Blk.new w3 29 #[.slice A3 vs.length c3], by simpa [joinK] using hc3, by simpa [joinK] using hr3.up (.cells #[.slice A3 vs.length c3] 29), up_ (Below.refl _ _) _⟩
      case round =>
        obtain ⟨k, Ak, ck, hk, rfl, ko, hck, hrk, hbel⟩ := hrel
        obtain ⟨kb, kz, hs, hBw, hsz⟩ := HK.out wr hbel
        have rb := kb.rule
        have ro := ko.rule
        have hso := ko.lt
        by_cases hlt : k < m
        · obtain ⟨bl, off, hA, hb, hc0, hc1, hc2⟩ := Rd3.at_ hs (k := k) (by rw [HMU.out]; exact hlt)
          subst hA
          obtain ⟨⟨ua, ub, uc⟩, hu⟩ : ∃ v, us.getD k z3 = v := ⟨_, rfl⟩
          rw [hu] at hc0 hc1 hc2
          have hst := HSTEP.out k hlt
          rw [hu] at hst
          have HST := Lib.hid hst; clear hst hu
          have hi1 : (k : Int) < (m : Int) := by omega
          obtain ⟨q, hq⟩ : ∃ q, (!hasB (joinK vs us k) (ua, ub, uc) (place (joinK vs us k) (ua, ub, uc))) = q := ⟨_, rfl⟩
          have hlk := HLEN.out k (by omega)
          have hgo : ∀ W, Rd3 W W.heap.size Ak (joinK vs us k) → Calls Try.prog 82 #[.agg #[.slice Ak (joinK vs us k).length ck], .agg #[.int .i64 ua, .int .i64 ub, .int .i64 uc]] W (ARes (joinK vs us (k + 1)) q W) := fun W h => by
            have := l2add_go ua ub uc Ak ck _ (joinK vs us k) (place_pl _ _) W h (by omega) hck
            rw [hq] at this
            rw [HST.out]
            exact this
          have HGO := Lib.hid hgo; clear hgo hq
          obtain ⟨n1, hn1⟩ : ∃ n1, (joinK vs us k).length = n1 := ⟨_, rfl⟩
          rw [hn1] at ko hck hlk HGO ro
          have HN1 := Lib.hid hn1; clear hn1
          have T0 := fun y : Lat wr => y.cell (ko.cell 0)
          have B0 := fun y : Lat wr => y.cell (kb.cell 0)
          clear T0 B0 hBw hs
          go_wp2_with fail
          go_region_law (first | (go_simp; go_at_call 82; refine (HGO.out _ (Rd3.dr hrk)).mono ?_; rintro e w5 ⟨B5, d5, rfl, hud, hr5, hb5⟩; have ko5 := Blk.on (w := wr.drew) ko hb5; have ro5 := ko5.rule; have fo5 := (fun i => ko5.frozen i)))
          all_goals go_wp2
          all_goals go_roundw
          all_goals first
            | (exact ⟨k + 1, B5, d5, by omega, by go_num, ko5.set_ 0 _, hud, (rd_box hr5 ko5 _).more (by simp [World.setCell]), Below.setCell (hbel.drew.trans (hb5.mono hsz)) (by show w3.heap.size ≤ w3.heap.size; omega) _⟩)
            | (simp [intOf]; omega)
        · obtain rfl : k = m := by omega
          rw [HALL.out] at ko hck hrk ro
          have hll := HLEN.out k (Nat.le_refl _)
          rw [HALL.out] at hll
          generalize us.foldl addT vs = ws at *
          have hzr := kz.lt
          go_wp2_with fail
          refine (l2own_any Ak ck ws _ hrk (by omega)).mono ?_
          rintro e w5 ⟨B5, d5, rfl, ho5, hb5, _⟩
          have kz5 := kz.on hb5
          have hB5 := on_ hBw hb5
          have rz5 := kz5.rule
          have fz5 := fun i => kz5.frozen i
          go_wp2
          refine bodyPost_ret (v := .tuple #[.agg #[.slice B5 ws.length d5], .bool true]) (by simp [results, Try.results58, go_sem, rz5]) rfl ⟨B5, d5, rfl, OT.more (OT.set_ ho5 (by show w.heap.size + 1 + 1 < _; exact hzr) _) (by omega), Below.setCell hB5 (by show w.heap.size ≤ w.heap.size + 1 + 1; omega) _⟩
end Go.Proofs.Ytfbiblomblcheaa.V
