/-
  StoreSame and StoreNew of the model and of the program: contracts. No statement is proved here.
-/
import Derived.Test.YtbogagddjkghhaaDoorStO
set_option linter.unusedVariables false
set_option maxRecDepth 100000
namespace Go.Proofs.YtbogagddjkghhaaDoor.V
open Go.RowKit Go.Proofs.YtbogagddjkghhaaDoor.B

theorem belowN {Bd : Nat} {w w' : World} (h : Below Bd w w') (k : Nat) : Below Bd w (w'.drewN k) := ⟨h.os, h.tape, h.output, h.size, h.block⟩
def sameB (vs : List Int) (k : Int) (xs : List Int) (j : Int) : Bool := stB vs k && stB xs j && decide (vs = xs)
theorem eq_of_getD {xs ys : List Int} (hl : xs.length = ys.length) (h : ∀ q, q < xs.length → xs.getD q 0 = ys.getD q 0) : xs = ys := by
  apply List.ext_getElem hl
  intro i h1 h2
  have := h i h1
  rw [List.getD_eq_getElem?_getD, List.getD_eq_getElem?_getD, List.getElem?_eq_getElem h1, List.getElem?_eq_getElem h2] at this
  exact this

set_option maxHeartbeats 1600000 in
theorem equal7 (z : Bool) (A B : Option Addr) (c d n : Nat) (vs xs : List Int) (hl : vs.length = n) (hm : xs.length = n) (hz : decide (vs = xs) = z) (w : World) (hr : RdI w w.heap.size A vs) (hs : RdI w w.heap.size B xs) (hn : n ≤ 1048576) :
    Calls Tryd.prog 65 #[.slice A n c, .slice B n d] w fun e w' => e = .returned (.bool z) ∧ Below w.heap.size w w' := by
  have HL := Lib.hid hl; have HM := Lib.hid hm; have HZ := Lib.hid hz; have HRR := Lib.hid hr; have HSS := Lib.hid hs
  clear hl hm hz hr hs
  have hnn : ((n : Int) != (n : Int)) = false := by simp
  go_enter Tryd.func65, Tryd.ntmps65
  go_wp2
  go_loopw [13] (fun i wr => ∃ (q : Nat), q ≤ n ∧ i = .int .i64 q ∧ Hid (∀ r, r < q → vs.getD r 0 = xs.getD r 0) ∧ Below w.heap.size w wr) (fun i _ => n - (intOf i).toNat)
  case atStart => exact ⟨0, by omega, rfl, fun r hr => absurd hr (by omega), Below.refl _ _⟩
  case round =>
    obtain ⟨q, hq, rfl, hall, hB⟩ := hrel
    by_cases hlq : q < n
    · obtain ⟨b0, o0, rfl, hb0, hc0⟩ := RdI.at_ (HRR.out.below hB) (k := q) (by rw [HL.out]; omega)
      obtain ⟨b1, o1, rfl, hb1, hc1⟩ := RdI.at_ (HSS.out.below hB) (k := q) (by rw [HM.out]; omega)
      obtain ⟨x, hx⟩ : ∃ x, vs.getD q 0 = x := ⟨_, rfl⟩
      obtain ⟨y, hy⟩ : ∃ y, xs.getD q 0 = y := ⟨_, rfl⟩
      rw [hx] at hc0
      rw [hy] at hc1
      have g1 : (q : Int) < (n : Int) := by omega
      have g0 : (0 : Int) ≤ (q : Int) := by omega
      by_cases he : x = y
      · have HA : Hid (∀ r, r < q + 1 → vs.getD r 0 = xs.getD r 0) := fun r hr => by
          rcases Nat.lt_succ_iff_lt_or_eq.1 hr with h | h
          · exact hall.out r h
          · rw [h, hx, hy, he]
        clear hx hy
        subst he
        have hf : (x != x) = false := by simp
        go_wp2
        go_quiet (fail)
        go_wp2
        go_roundw
        case rel => exact ⟨q + 1, by omega, by go_num, HA, (belowN hB _)⟩
        case measure => simp [intOf]; omega
      · have HN : Hid (z = false) := by
          show _ = _
          rw [← HZ.out]
          exact decide_eq_false (fun h => he (by rw [← hx, ← hy, h]))
        have hf : (x != y) = true := by simpa using he
        clear hx hy he
        go_wp2
        go_quiet (fail)
        go_wp2
        go_ret
        exact ⟨ret_boolB (by rw [HN.out]), (belowN hB _)⟩
    · have hq4 : q = n := by omega
      subst hq4
      have HN : Hid (z = true) := by
        show _ = _
        rw [← HZ.out]
        exact decide_eq_true (eq_of_getD (by rw [HL.out, HM.out]) (by rw [HL.out]; exact hall.out))
      go_wp2
      go_ret
      exact ⟨ret_boolB (by rw [HN.out]), hB⟩

set_option maxHeartbeats 1600000 in
theorem implSame_any (A B : Option Addr) (c d : Nat) (vs xs : List Int) (k j : Int) (w : World) (hr : RdI w w.heap.size A vs) (hs : RdI w w.heap.size B xs) (hn : vs.length ≤ 1048576) (hx : xs.length ≤ 1048576) :
    Calls Tryd.prog 23 #[.agg #[.slice A vs.length c, .int .i64 k], .agg #[.slice B xs.length d, .int .i64 j]] w fun e w' => e = .returned (.bool (sameB vs k xs j)) ∧ Below w.heap.size w w' := by
  have ka := (Blk.new w 46 #[.slice A vs.length c, .int .i64 k]).alloc (.cells #[.slice B xs.length d, .int .i64 j] 46)
  have kb := Blk.new (w.alloc (.cells #[.slice A vs.length c, .int .i64 k] 46)) 46 #[.slice B xs.length d, .int .i64 j]
  simp only [World.size_alloc] at kb
  have hr1 := (hr.up (.cells #[.slice A vs.length c, .int .i64 k] 46)).up (.cells #[.slice B xs.length d, .int .i64 j] 46)
  have hs1 := (hs.up (.cells #[.slice A vs.length c, .int .i64 k] 46)).up (.cells #[.slice B xs.length d, .int .i64 j] 46)
  have HR := Lib.hid hr1; have HS := Lib.hid hs1
  clear hr1 hs1 hr hs
  rcases hq : stB vs k with _ | _
  · have e : sameB vs k xs j = false := by simp [sameB, hq]
    rw [e]
    have HQ := Lib.hid hq; clear hq e
    go_enter Tryd.func23, Tryd.ntmps23
    go_wp2_with fail
    refine (implStoreOk_is false A c vs k HQ.out _ HR.out hn).mono ?_
    rintro e w1 ⟨rfl, hb⟩
    have hB := on_ (up_ (up_ (Below.refl w.heap.size w) _) _) hb
    clear hb ka kb
    go_wp2
    go_ret
    exact ⟨rfl, hB⟩
  · rcases hp : stB xs j with _ | _
    · have e : sameB vs k xs j = false := by simp [sameB, hp]
      rw [e]
      have HQ := Lib.hid hq; have HP := Lib.hid hp; clear hq hp e
      go_enter Tryd.func23, Tryd.ntmps23
      go_wp2_with fail
      refine (implStoreOk_is true A c vs k HQ.out _ HR.out hn).mono ?_
      rintro e w1 ⟨rfl, hb⟩
      have hB := on_ (up_ (up_ (Below.refl w.heap.size w) _) _) hb
      have rb := (kb.on hb).rule
      have hs1 := Lib.hid (HS.out.on hb)
      clear hb ka kb
      go_wp2_with fail
      refine (implStoreOk_is false B d xs j HP.out _ hs1.out hx).mono ?_
      rintro e w2 ⟨rfl, hb⟩
      have hB2 := on_ hB hb
      clear hb hB rb
      go_wp2
      go_ret
      exact ⟨rfl, hB2⟩
    · have e : sameB vs k xs j = decide (vs = xs) := by simp [sameB, hp, hq]
      rw [e]
      have l4 := (stB_yes hq).1
      have m4 := (stB_yes hp).1
      have HQ := Lib.hid hq; have HP := Lib.hid hp; clear hq hp e
      have HL := Lib.hid l4; have HM := Lib.hid m4
      obtain ⟨z, hz⟩ : ∃ z, decide (vs = xs) = z := ⟨_, rfl⟩
      rw [hz]
      have HZ := Lib.hid hz; clear hz
      have hok1 := fun W h => implStoreOk_is true A c vs k HQ.out W h hn
      have hok2 := fun W h => implStoreOk_is true B d xs j HP.out W h hx
      rw [l4] at hok1 ka kb ⊢
      rw [m4] at hok2 ka kb ⊢
      have HO1 := Lib.hid hok1; have HO2 := Lib.hid hok2
      have HR1 := HR; have HS1 := HS
      rw [l4, m4] at HR1 HS1
      clear l4 m4 hok1 hok2
      go_enter Tryd.func23, Tryd.ntmps23
      go_wp2_with fail
      refine (HO1.out _ HR1.out).mono ?_
      rintro e w1 ⟨rfl, hb⟩
      have hB := on_ (up_ (up_ (Below.refl w.heap.size w) _) _) hb
      have kb1 := kb.on hb
      have ka1 := ka.on hb
      have rb := kb1.rule
      have ra := ka1.rule
      have hr1 := Lib.hid (HR1.out.on hb)
      have hs1 := Lib.hid (HS1.out.on hb)
      clear hb ka kb
      go_wp2_with fail
      refine (HO2.out _ hs1.out).mono ?_
      rintro e w2 ⟨rfl, hb⟩
      have hB2 := on_ hB hb
      have kb2 := kb1.on hb
      have ka2 := ka1.on hb
      have hr2 := Lib.hid (hr1.out.on hb)
      have hs2 := Lib.hid (hs1.out.on hb)
      clear hb hB rb ra ka1 kb1 hs1 hr1
      have rb := kb2.rule
      have ra := ka2.rule
      go_wp2_with fail
      refine (equal7 z A B c d 4 vs xs HL.out HM.out HZ.out _ hr2.out hs2.out (by omega)).mono ?_
      rintro e w3 ⟨rfl, hb⟩
      have hB3 := on_ hB2 hb
      clear hb hB2 rb ra ka2 kb2 hs2 hr2
      go_wp2
      go_ret
      exact ⟨rfl, hB3⟩

end Go.Proofs.YtbogagddjkghhaaDoor.V
