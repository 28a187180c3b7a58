/-
  What the program's set of reports hands out: contracts. No statement is proved here.
-/
import Derived.Test.YtcfjmhebhhekbaaImplTop
import Derived.Test.YtcfjmhebhhekbaaL3Own
import Derived.BigRegion
set_option linter.unusedVariables false
set_option maxRecDepth 100000
namespace Go.Proofs.Ytcfjmhebhhekbaa.V
open Go.RowKit Go.Proofs.Ytcfjmhebhhekbaa.B

set_option maxHeartbeats 800000 in
theorem copied_any (f v x : Int) (A : Option Addr) (c : Nat) (vs : List (Int × Int)) (w : World) (hr : Rd w w.heap.size A vs) (hn : vs.length ≤ 1048576) :
    Calls Try.prog 46 #[.agg #[.int .i64 f, .int .i64 v, .int .i64 x, .slice A vs.length c]] w fun e w' => ∃ A2 c2, e = .returned (.agg #[.int .i64 f, .int .i64 v, .int .i64 x, .slice A2 vs.length c2]) ∧ w'.ownsRow w.heap.size 25 2 (.slice A2 vs.length c2) vs.length (vcells vs) ∧ Below w.heap.size w w' := by
  obtain ⟨iV, hiV, hzV0, hzV1, hzV2⟩ := info_parts infoVv
  have HRV := Lib.hid (((hr.reads).alloc (Nat.le_refl _) (.cells #[.int .i64 f, .int .i64 v, .int .i64 x, .slice A vs.length c] 28)).alloc (sz_a _ _) (.cells #[.int .i64 0, .int .i64 0, .int .i64 0, .slice none 0 0] 28))
  have HON := Lib.hid (vcells_one vs)
  have kb2 := (Blk.new w 28 #[.int .i64 f, .int .i64 v, .int .i64 x, .slice A vs.length c]).alloc (.cells #[.int .i64 0, .int .i64 0, .int .i64 0, .slice none 0 0] 28)
  have kz2 := blk_new1 w (.cells #[.int .i64 f, .int .i64 v, .int .i64 x, .slice A vs.length c] 28) 28 #[.int .i64 0, .int .i64 0, .int .i64 0, .slice none 0 0]
  have hB2 : Below w.heap.size w ((w.alloc (.cells #[.int .i64 f, .int .i64 v, .int .i64 x, .slice A vs.length c] 28)).alloc (.cells #[.int .i64 0, .int .i64 0, .int .i64 0, .slice none 0 0] 28)) := up_ (up_ (Below.refl _ _) _) _
  clear hr
  go_enter Try.func46, Try.ntmps46
  go_wp2_with (at_builtin; go_loud (refine wpList_append_any _ rfl (.const (.slice none 0 0)) (.tmp 4) 26 rfl (w.heap.size + 1 + 1) 25 iV _ 2 16 Try.underlying26 hiV hzV0 hzV1 hzV2 rfl (by omega) (.slice none 0 0) 0 [] rfl (World.ownsRow_nil _ _ _ _) w.heap.size A vs.length c (vcells vs) rfl HRV.out HON.out (by simp only [maxLen]; omega) (by omega) (by simp) ?_); intro v3 w3 hown3 hgr3 hat3; simp only [Nat.zero_add, List.nil_append] at hown3; obtain ⟨A3, c3, rfl, hcap3⟩ := formA hown3; have kb3 := keepK kb2 hgr3 (by simp [Value.ownBlock]); have rb3 := kb3.rule; have fb3 := (fun i => kb3.frozen i); have kb4 : Blk (w3.setCell ⟨w.heap.size, 3, none⟩ (.slice A3 vs.length c3)) w.heap.size 28 #[.int .i64 f, .int .i64 v, .int .i64 x, .slice A3 vs.length c3] := kb3.set_ 3 _; have rb4 := kb4.rule; have kz3 := keepK kz2 hgr3 (by simp [Value.ownBlock]); have kz4 : Blk (w3.setCell ⟨w.heap.size, 3, none⟩ (.slice A3 vs.length c3)) (w.heap.size + 1) 28 #[.int .i64 0, .int .i64 0, .int .i64 0, .slice none 0 0] := kz3.far (by show w.heap.size + 1 ≠ w.heap.size; omega) _; have rz4 := kz4.rule; have fz4 := (fun i => kz4.frozen i); have kz8 := (((kz4.set_ 0 (.int .i64 f)).set_ 1 (.int .i64 v)).set_ 2 (.int .i64 x)).set_ 3 (.slice A3 vs.length c3); have rz8 := kz8.rule)
  have hB3 : Below w.heap.size w w3 := hB2.grown hgr3 (by simp; omega) (fun j hj => by simp [Value.ownBlock] at hj)
  refine bodyPost_ret (v := .agg #[.int .i64 f, .int .i64 v, .int .i64 x, .slice A3 vs.length c3]) (by simp [results, Try.results46, go_sem, rz8]) rfl ⟨A3, c3, rfl, ?_, ?_⟩
  · have hne1 : (Value.slice A3 vs.length c3).ownBlock ≠ some (w.heap.size + 1) := ne_lowN hown3 (by omega)
    have hne0 : (Value.slice A3 vs.length c3).ownBlock ≠ some w.heap.size := ne_lowN hown3 (by omega)
    exact own_more3 (own_farN (own_farN (own_farN (own_farN (own_farN hown3 hne0) hne1) hne1) hne1) hne1) (by omega)
  · exact ((((hB3.setCell (by simp) _).setCell (by simp) _).setCell (by simp) _).setCell (by simp) _).setCell (by simp) _
set_option maxHeartbeats 1600000 in
theorem get_in (b j : Nat) (n view : Int) (s : Nat → Option Pp) (w : World) (hs : SetAt w b n view s) (hj : j < 7) (f v x : Int) (vs : List (Int × Int)) (A : Option Addr) (c : Nat) (q : Bool) (hp : (s j).getD zP = ⟨⟨f, v, x, vs⟩, A, c⟩) (hq : (s j).isSome = q) :
    Calls Try.prog 60 #[.pointer (some ⟨b, 2, none⟩), .int .i64 j] w fun e w' => e = .returned (.tuple #[.agg #[.int .i64 f, .int .i64 v, .int .i64 x, .slice A vs.length c], .bool q]) ∧ Below w.heap.size w w' := by
  obtain ⟨⟨cs, hk, h37, hc0, hc1, hcb, hci⟩, hv⟩ := hs
  have hb := hcb j hj
  obtain ⟨i0, i1, i2, i3⟩ := hci j hj
  rw [hq] at hb
  rw [hp] at i0 i1 i2 i3
  simp only [Nat.add_zero] at i0 i1 i2 i3
  obtain ⟨l, hl⟩ : ∃ l, vs.length = l := ⟨_, rfl⟩
  rw [hl] at i3 ⊢
  have hlt := hk.lt
  have kb0 := hk.alloc (.cells #[.int .i64 0, .int .i64 0, .int .i64 0, .slice none 0 0] 28)
  have kz0 := Blk.new w 28 #[.int .i64 0, .int .i64 0, .int .i64 0, .slice none 0 0]
  have hB0 : Below w.heap.size w (w.alloc (.cells #[.int .i64 0, .int .i64 0, .int .i64 0, .slice none 0 0] 28)) := up_ (Below.refl _ _) _
  have hne : w.heap.size ≠ b := by omega
  have a1 : (0 : Int) ≤ (j : Int) := by omega
  have a2 : (j : Int) < 7 := by omega
  have d1 : decide ((j : Int) < 0) = false := decide_eq_false (by omega)
  have d2 : decide ((7 : Int) ≤ (j : Int)) = false := decide_eq_false (by omega)
  clear hk hc0 hc1 hcb hci hv hl hp hq h37
  obtain ⟨w0, hw0⟩ : ∃ w0, w.alloc (.cells #[.int .i64 0, .int .i64 0, .int .i64 0, .slice none 0 0] 28) = w0 := ⟨_, rfl⟩
  rw [hw0] at kb0 kz0 hB0
  have c1 := (kb0.cell (2 + j)).trans hb
  have c2 := (kb0.cell (9 + j * 4)).trans i0
  have c3 := (kb0.cell (9 + j * 4 + 1)).trans i1
  have c4 := (kb0.cell (9 + j * 4 + 2)).trans i2
  have c5 := (kb0.cell (9 + j * 4 + 3)).trans i3
  have rz := kz0.rule
  have fz := fun i => kz0.frozen i
  have kz8 := ((((kz0.set_ 0 (.int .i64 f)).set_ 1 (.int .i64 v)).set_ 2 (.int .i64 x)).set_ 3 (.slice A l c)).dr
  have rz8 := kz8.rule
  have HB0 := Lib.hid hB0
  clear kb0 hb i0 i1 i2 i3 hB0 kz8 kz0
  go_enter Try.func60, Try.ntmps60
  go_wp2_with fail
  clear hw0
  go_region
  all_goals
    go_wp2
    refine bodyPost_ret (v := .tuple #[.agg #[.int .i64 f, .int .i64 v, .int .i64 x, .slice A l c], .bool q]) (by simp [results, Try.results60, go_sem, rz8]) rfl ⟨rfl, ?_⟩
    exact ((((HB0.out.setCell (p := ⟨w.heap.size, 0, none⟩) (Nat.le_refl _) _).setCell (p := ⟨w.heap.size, 1, none⟩) (Nat.le_refl _) _).setCell (p := ⟨w.heap.size, 2, none⟩) (Nat.le_refl _) _).setCell (p := ⟨w.heap.size, 3, none⟩) (Nat.le_refl _) _).drew
theorem get_out (b : Nat) (from_ : Int) (w : World) (h : from_ < 0 ∨ 7 ≤ from_) :
    Calls Try.prog 60 #[.pointer (some ⟨b, 2, none⟩), .int .i64 from_] w fun e w' => e = .returned (.tuple #[.agg #[.int .i64 0, .int .i64 0, .int .i64 0, .slice none 0 0], .bool false]) ∧ Below w.heap.size w w' := by
  by_cases h1 : from_ < 0
  · have d1 : decide (from_ < 0) = true := decide_eq_true h1
    clear h
    go_enter Try.func60, Try.ntmps60
    go_wp2
    refine bodyPost_ret (v := .tuple #[.agg #[.int .i64 0, .int .i64 0, .int .i64 0, .slice none 0 0], .bool false]) (by simp [results, Try.results60, go_sem]) rfl ⟨rfl, ?_⟩
    repeat (first | exact Below.refl _ _ | refine Below.alloc ?_ (by simp) _ | refine Below.setCell ?_ (by simp) _)
  · have d1 : decide (from_ < 0) = false := decide_eq_false h1
    have d2 : decide (7 ≤ from_) = true := decide_eq_true (by omega)
    clear h
    go_enter Try.func60, Try.ntmps60
    go_wp2
    refine bodyPost_ret (v := .tuple #[.agg #[.int .i64 0, .int .i64 0, .int .i64 0, .slice none 0 0], .bool false]) (by simp [results, Try.results60, go_sem]) rfl ⟨rfl, ?_⟩
    repeat (first | exact Below.refl _ _ | refine Below.alloc ?_ (by simp) _ | refine Below.setCell ?_ (by simp) _)
theorem add_old (b j : Nat) (n view f v x : Int) (A : Option Addr) (c l : Nat) (s : Nat → Option Pp) (w : World) (hs : SetAt w b n view s) (hj : j < 7) (hn : (s j).isSome = true) :
    Calls Try.prog 44 #[.pointer (some ⟨b, 2, none⟩), .int .i64 j, .agg #[.int .i64 f, .int .i64 v, .int .i64 x, .slice A l c]] w fun e w' => e = .returned (.bool false) ∧ Below w.heap.size w w' := by
  obtain ⟨⟨cs, hk, h37, hc0, hc1, hcb, hci⟩, hv⟩ := hs
  have hb := hcb j hj
  rw [hn] at hb
  have c1 := ((hk.alloc (.cells #[.int .i64 f, .int .i64 v, .int .i64 x, .slice A l c] 28)).cell (2 + j)).trans hb
  have a1 : (0 : Int) ≤ (j : Int) := by omega
  have a2 : (j : Int) < 7 := by omega
  clear hk hc0 hc1 hcb hci hv h37 hb hn
  go_enter Try.func44, Try.ntmps44
  go_wp2
  go_ret
  exact ⟨rfl, (Below.refl _ _).alloc (Nat.le_refl _) _⟩
/-- The reports of the set in order. -/
def lstS (s : Nat → Option Pp) : Nat → List Pp
  | 0 => []
  | k + 1 => match s k with | some p => lstS s k ++ [p] | none => lstS s k
theorem lstS_le (s : Nat → Option Pp) : ∀ k, (lstS s k).length ≤ k
  | 0 => Nat.le_refl _
  | k + 1 => by
    have := lstS_le s k
    unfold lstS
    split
    · simp; omega
    · omega
set_option maxHeartbeats 1600000 in
theorem list_any (b : Nat) (n view : Int) (s : Nat → Option Pp) (w : World) (hs : SetAt w b n view s) :
    Calls Try.prog 45 #[.pointer (some ⟨b, 2, none⟩)] w fun e w' => ∃ v, e = .returned v ∧ w'.ownsRow w.heap.size 28 4 v (lstS s 7).length (pcells (lstS s 7)) ∧ Below w.heap.size w w' := by
  obtain ⟨i0, hi0, hz0, hz1, hz2⟩ := info_parts infoR
  obtain ⟨⟨cs, hk, hcs⟩, hv⟩ := id hs
  have HS := Lib.hid hs; clear hs
  obtain ⟨h37, hc0, hc1, hcb, hci⟩ := hcs
  obtain ⟨g, hg⟩ : ∃ g : Nat → Bool, (fun j => (s j).isSome) = g := ⟨_, rfl⟩
  have hg' : ∀ j, (s j).isSome = g j := fun j => congrFun hg j
  have b0 := hcb 0 (by omega); have b1 := hcb 1 (by omega); have b2 := hcb 2 (by omega); have b3 := hcb 3 (by omega); have b4 := hcb 4 (by omega); have b5 := hcb 5 (by omega); have b6 := hcb 6 (by omega)
  simp only [hg', Nat.reduceAdd] at b0 b1 b2 b3 b4 b5 b6
  have rb := hk.rule
  have c2 := (rb 2).trans b0; have c3 := (rb 3).trans b1; have c4 := (rb 4).trans b2; have c5 := (rb 5).trans b3; have c6 := (rb 6).trans b4; have c7 := (rb 7).trans b5; have c8 := (rb 8).trans b6
  have HK := Lib.hid hk
  have HCI := Lib.hid hci
  have HG := Lib.hid hg'
  clear hg hg' hcb hci hc0 hc1 h37 b0 b1 b2 b3 b4 b5 b6 rb hk hv
  have HLE := Lib.hid (lstS_le s)
  have HIX := Lib.hid (fun (k : Nat) (h : k < 7) (W : World) => idx7 g k h W)
  go_enter Try.func45, Try.ntmps45
  go_wp2
  clear c2 c3 c4 c5 c6 c7 c8
  go_loopw [3, 10] (fun a i wr => ∃ (k y : Nat), k ≤ 7 ∧ y ≤ k ∧ i = .int .i64 k ∧ Hid ((lstS s k).length = y) ∧ wr.ownsRow w.heap.size 28 4 a y (pcells (lstS s k)) ∧ Below w.heap.size w wr) (fun _ i _ => 7 - (intOf i).toNat)
  case atStart => exact ⟨0, 0, Nat.zero_le _, Nat.le_refl _, rfl, rfl, World.ownsRow_nil _ _ _ _, Below.refl _ _⟩
  case round =>
    obtain ⟨k, y, hk, hyk, rfl, hy, hown, hbel⟩ := hrel
    by_cases hlt : k < 7
    · have hix := HIX.out k hlt
      have hst : lstS s (k + 1) = (match s k with | some p => lstS s k ++ [p] | none => lstS s k) := rfl
      have hgk := HG.out k
      have h4 := HCI.out k hlt
      have rb := (HK.out.on hbel).rule
      rcases hsk : s k with _ | p
      · rw [hsk] at hgk hst h4
        simp only [Option.isSome_none] at hgk
        rw [← hgk] at hix
        have HST := Lib.hid hst
        have HOW := Lib.hid hown
        clear hst hgk h4 rb hsk hown
        go_wp2
        go_roundw
        case rel => exact ⟨k + 1, y, by omega, by omega, by go_num, by show _ = _; rw [HST.out]; exact hy.out, by rw [HST.out]; exact HOW.out, hbel⟩
        case measure => simp [intOf]; omega
      · rw [hsk] at hgk hst h4
        simp only [Option.isSome_some] at hgk
        rw [← hgk] at hix
        obtain ⟨⟨f, v, x, vs⟩, A, c⟩ := p
        obtain ⟨i0', i1', i2', i3'⟩ := h4
        simp only [Option.getD_some, Nat.add_zero] at i0' i1' i2' i3' hst
        have j0 := (rb _).trans i0'
        have j1 := (rb _).trans i1'
        have j2 := (rb _).trans i2'
        have j3 := (rb _).trans i3'
        have HST := Lib.hid hst
        have hbs := hbel.size
        have HOW := Lib.hid (hown.alloc (.cells #[.int .i64 f, .int .i64 v, .int .i64 x, .slice A vs.length c] 28))
        have HGE := Lib.hid (fun j hj => (hown.lt j hj).1)
        clear hst hgk rb hsk i0' i1' i2' i3' hown
        go_wp2_with (at_builtin; go_loud (refine wpList_append_any _ rfl (.tmp 15) (.tmp 22) 23 rfl w.heap.size 28 i0 _ 4 48 Try.underlying23 hi0 hz0 hz1 hz2 rfl (by omega) u3 y (pcells (lstS s k)) rfl HOW.out _ _ 1 1 (pc1 (⟨⟨f, v, x, vs⟩, A, c⟩ : Pp)) rfl (lit_rep wr 28 (⟨⟨f, v, x, vs⟩, A, c⟩ : Pp)) (pc1_one _) (by simp only [maxLen]; omega) (by omega) (by simp; omega) ?_); intro v5 w5 hown5 hgr5 hat5)
        have hb5 := Lib.hid (Below.grown (up_ hbel (.cells #[.int .i64 f, .int .i64 v, .int .i64 x, .slice A vs.length c] 28)) hgr5 (by simp; omega) HGE.out)
        have HO5 := Lib.hid (own_app4 (p := (⟨⟨f, v, x, vs⟩, A, c⟩ : Pp)) hy.out.symm hown5)
        clear hown5 HOW hgr5
        go_roundw
        case rel => exact ⟨k + 1, y + 1, by omega, by omega, by go_num, by show _ = _; rw [HST.out]; simp [hy.out], by rw [HST.out]; exact HO5.out, hb5.out⟩
        case measure => simp [intOf]; omega
    · have hk7 : k = 7 := by omega
      subst hk7
      have hyy := hy.out
      go_wp2
      go_ret
      exact ⟨_, rfl, by rw [hyy]; exact hown, hbel⟩
end Go.Proofs.Ytcfjmhebhhekbaa.V
