/-
  Copies of messages, of the model and of the program: contracts. Messages in rows of the call's own, told by their blocks, and the marks laid on them. Closed facts on the seat's program that every statement's own form asks, found without spelling the program's head sign by sign in the kernel. No statement is proved here.
-/
import Derived.Test.YtfdfjmibjnmhpaaGreatK09
import Derived.Test.YtfdfjmibjnmhpaaGreatK10
import Derived.Test.YtfdfjmibjnmhpaaGreatK13
import Derived.Test.YtfdfjmibjnmhpaaGreatK18
import Derived.Test.YtfdfjmibjnmhpaaGreatRows
import Derived.ProofKit
import Derived.JoinedOf
import Derived.WalkKit
set_option linter.unusedVariables false
set_option maxRecDepth 100000
namespace Go.Proofs.YtfdfjmibjnmhpaaGreat.V
open Go.RowKit Go.Proofs.YtfdfjmibjnmhpaaGreat.B
set_option maxHeartbeats 1600000 in
theorem copiedMsg_any (k v x a b : Int) (A : Option Addr) (c : Nat) (us : List (Int × Int)) (w : World) (hr : Rd w w.heap.size A us) (hn : us.length ≤ 1048576) :
    Calls Tryz.prog 62 #[.agg #[.int .i64 k, .int .i64 v, .int .i64 x, .int .i64 a, .int .i64 b, .slice A us.length c]] w (MR k v x a b us w) := by
  have HV0 := fun (W : World) (h : Below w.heap.size w W) => copiedVotes_any A c us W ((hr.below h).more h.size) hn
  obtain ⟨n, en⟩ : ∃ n, us.length = n := ⟨_, rfl⟩
  rw [en] at HV0 ⊢
  have HV := Lib.hid HV0
  have EN := Lib.hid en; clear en hr hn HV0
  have ka := (Blk.new w 64 #[.int .i64 k, .int .i64 v, .int .i64 x, .int .i64 a, .int .i64 b, .slice A n c]).alloc (.cells #[.int .i64 0, .int .i64 0, .int .i64 0, .int .i64 0, .int .i64 0, .slice none 0 0] 64)
  have km := Blk.new (w.alloc (.cells #[.int .i64 k, .int .i64 v, .int .i64 x, .int .i64 a, .int .i64 b, .slice A n c] 64)) 64 #[.int .i64 0, .int .i64 0, .int .i64 0, .int .i64 0, .int .i64 0, .slice none 0 0]
  simp only [World.size_alloc] at km
  have hB := up_ (up_ (Below.refl w.heap.size w) (.cells #[.int .i64 k, .int .i64 v, .int .i64 x, .int .i64 a, .int .i64 b, .slice A n c] 64)) (.cells #[.int .i64 0, .int .i64 0, .int .i64 0, .int .i64 0, .int .i64 0, .slice none 0 0] 64)
  have hl : w.heap.size ≤ w.heap.size + 1 := by omega
  have ra := ka.rule
  go_enter Tryz.func62, Tryz.ntmps62
  go_wp2_with fail
  refine (HV.out _ hB).mono ?_
  rintro e w1 ⟨B, d, rfl, ho, hb⟩
  rw [EN.out]
  have ka1 := ka.on hb; have km1 := km.on hb; have hB1 := on_ hB hb
  have hov : OV w1 61 (w.heap.size + 2) B us := OV.more ho (by simp)
  clear ra ka km hB hb ho HV
  have ra1 := ka1.rule; have fa1 := fun i => ka1.frozen i
  have rm1 := km1.rule; have fm1 := fun i => km1.frozen i
  go_wp2
  have km3 : Blk _ _ 64 #[.int .i64 k, .int .i64 v, .int .i64 x, .int .i64 a, .int .i64 b, .slice B n d] := (((((((km1.far (show w.heap.size + 1 ≠ w.heap.size by omega) _ : Blk (w1.setCell ⟨w.heap.size, 5, none⟩ (.slice B n d)) _ _ _).set_ 0 (.int .i64 k)).set_ 1 (.int .i64 v)).set_ 2 (.int .i64 x)).set_ 3 (.int .i64 a)).set_ 4 (.int .i64 b)).set_ 5 (.slice B n d))
  have rm3 := km3.rule
  have hv3 := OV.more (OV.set_ (p := ⟨w.heap.size + 1, 5, none⟩) (OV.set_ (p := ⟨w.heap.size + 1, 4, none⟩) (OV.set_ (p := ⟨w.heap.size + 1, 3, none⟩) (OV.set_ (p := ⟨w.heap.size + 1, 2, none⟩) (OV.set_ (p := ⟨w.heap.size + 1, 1, none⟩) (OV.set_ (p := ⟨w.heap.size + 1, 0, none⟩) (OV.set_ (p := ⟨w.heap.size, 5, none⟩) hov (show w.heap.size < w.heap.size + 2 by omega) (.slice B n d)) (show w.heap.size + 1 < w.heap.size + 2 by omega) (.int .i64 k)) (show w.heap.size + 1 < w.heap.size + 2 by omega) (.int .i64 v)) (show w.heap.size + 1 < w.heap.size + 2 by omega) (.int .i64 x)) (show w.heap.size + 1 < w.heap.size + 2 by omega) (.int .i64 a)) (show w.heap.size + 1 < w.heap.size + 2 by omega) (.int .i64 b)) (show w.heap.size + 1 < w.heap.size + 2 by omega) (.slice B n d)) (show w.heap.size ≤ w.heap.size + 2 by omega)
  refine bodyPost_ret (v := .agg #[.int .i64 k, .int .i64 v, .int .i64 x, .int .i64 a, .int .i64 b, .slice B n d]) (by simp [results, Tryz.results62, go_sem, rm3]) rfl ⟨B, d, by rw [EN.out], hv3, (Below.setCell (Below.setCell (Below.setCell (Below.setCell (Below.setCell (Below.setCell (Below.setCell hB1 (Nat.le_refl _) _) hl _) hl _) hl _) hl _) hl _) hl _)⟩
theorem info_M9 : (Tryz.prog.info? 64).map (fun i => (i.zero, i.size, i.bytes)) = some (some (.agg #[.int .i64 0, .int .i64 0, .int .i64 0, .int .i64 0, .int .i64 0, .slice none 0 0]), 6, 64) := by kernel_rfl
theorem OM.rd {w : World} {base c : Nat} {A : Option Addr} {us : List Mp} (h : w.ownsRow base 64 6 (.slice A us.length c) us.length (mcells us)) (ho : OM w base us) : RdK KM w w.heap.size A us := by
  intro hn
  obtain ⟨hl, h⟩ := h
  rcases h with ⟨h1, h2⟩ | ⟨g, cap, cur, h1, h2, h3, h4, h5, h6, h7⟩
  · omega
  · injection h1 with h1
    refine ⟨g, 0, h1, Blk.lt h3, fun k hk => ⟨fun j hj => ?_, OV.rd (ho.1 k hk)⟩⟩
    have hj6 : j < 6 := hj
    have hv := mcells_at us k j hk hj6
    rw [← h7, List.getElem?_take_of_lt (by omega)] at hv
    show w.cell? ⟨g, 0 + k * 6 + j, none⟩ = (us.getD k zM).cells[j]?
    rw [Nat.zero_add, Blk.cell h3]
    simpa using hv
theorem reads6 (u : World) (a0 a1 a2 a3 a4 : Int) (v5 : Value) (h5 : v5.oneCell' = true) : Reads (u.alloc (.cells #[.int .i64 a0, .int .i64 a1, .int .i64 a2, .int .i64 a3, .int .i64 a4, v5] 64)) (u.heap.size + 1) 6 (some ⟨u.heap.size, 0, none⟩) 1 [.int .i64 a0, .int .i64 a1, .int .i64 a2, .int .i64 a3, .int .i64 a4, v5] := ⟨rfl, fun _ => ⟨_, rfl, by simp, World.news_of_block (cs := #[.int .i64 a0, .int .i64 a1, .int .i64 a2, .int .i64 a3, .int .i64 a4, v5]) (heap_alloc_new u _)⟩⟩
theorem own_row9 {w : World} {base n : Nat} {v : Value} {xs : List Value} (h : w.ownsRow base 64 6 v n xs) : ∀ g, v.ownBlock = some g → ∃ cs, Blk w g 64 cs := by
  intro g hg
  obtain ⟨_, ⟨rfl, rfl⟩ | ⟨g2, cap, cur, rfl, h2, h3, _⟩⟩ := h
  · simp [Value.ownBlock] at hg
  · simp only [Value.ownBlock, Option.some.injEq] at hg
    subst hg
    exact ⟨cur, h3⟩
/-- Copies of messages, in memory of the call's own. -/
def MS (xs : List Mp) (w : World) (e : Ending) (w' : World) : Prop := ∃ A d vs, e = .returned (.slice A vs.length d) ∧ vs.map Mp.dat = xs.map Mp.dat ∧ w'.ownsRow w.heap.size 64 6 (.slice A vs.length d) vs.length (mcells vs) ∧ OM w' w.heap.size vs ∧ Below w.heap.size w w'
set_option maxHeartbeats 3200000 in
theorem copiedMsgs_any (A : Option Addr) (c : Nat) (xs : List Mp) (w : World) (hr : RdK KM w w.heap.size A xs) (hf : xs.length ≤ 1048576 ∧ ∀ i, i < xs.length → FewM (xs.getD i zM)) :
    Calls Tryz.prog 42 #[.slice A xs.length c] w (MS xs w) := by
  obtain ⟨i0, hi0, hz0, hz1, hz2⟩ := info_parts info_M9
  obtain ⟨hn, hv⟩ := hf
  obtain ⟨n, hvn⟩ : ∃ n, xs.length = n := ⟨_, rfl⟩
  rw [hvn] at hn hv ⊢
  have HVL := Lib.hid hv; clear hv
  have HV := Lib.hid hvn; clear hvn
  go_enter Tryz.func42, Tryz.ntmps42
  go_wp2
  go_loopw [3, 8] (fun out i wr => ∃ (k : Nat) (vs : List Mp), k ≤ n ∧ i = .int .i64 k ∧ Hid (vs.length = k) ∧ Hid (vs.map Mp.dat = (xs.take k).map Mp.dat) ∧ wr.ownsRow w.heap.size 64 6 out k (mcells vs) ∧ Hid (OM wr w.heap.size vs) ∧ Below w.heap.size w wr) (fun _ i _ => n - (intOf i).toNat)
  case atStart => exact ⟨0, [], Nat.zero_le _, rfl, rfl, rfl, World.ownsRow_nil _ _ _ _, OM.nil_, Below.refl _ _⟩
  case round =>
    obtain ⟨k, vs, hk, rfl, hvl, hvd, hown, hom, hbel⟩ := hrel
    by_cases hlt : k < n
    · obtain ⟨b_, off, rfl, hb, hcs, hrv⟩ := RdK.at_ (hr.below hbel) (k := k) (by rw [HV.out]; omega)
      clear hr
      have hfv := HVL.out k hlt
      have htk := take_getD xs zM k (by rw [HV.out]; exact hlt)
      change ∀ j, j < 6 → wr.cell? ⟨b_, off + k * 6 + j, none⟩ = (KM.cells (xs.getD k zM))[j]? at hcs
      change Rd wr w.heap.size (xs.getD k zM).A (xs.getD k zM).vs at hrv
      obtain ⟨⟨mk, mv, mx, ma, mb, us, A', c'⟩, hu⟩ : ∃ u, xs.getD k zM = u := ⟨_, rfl⟩
      rw [hu] at hcs hfv hrv htk
      have hc0 : wr.cell? ⟨b_, off + k * 6, none⟩ = some (.int .i64 mk) := hcs 0 (by decide)
      have hc1 : wr.cell? ⟨b_, off + k * 6 + 1, none⟩ = some (.int .i64 mv) := hcs 1 (by decide)
      have hc2 : wr.cell? ⟨b_, off + k * 6 + 2, none⟩ = some (.int .i64 mx) := hcs 2 (by decide)
      have hc3 : wr.cell? ⟨b_, off + k * 6 + 3, none⟩ = some (.int .i64 ma) := hcs 3 (by decide)
      have hc4 : wr.cell? ⟨b_, off + k * 6 + 4, none⟩ = some (.int .i64 mb) := hcs 4 (by decide)
      have hc5 : wr.cell? ⟨b_, off + k * 6 + 5, none⟩ = some (.slice A' us.length c') := hcs 5 (by decide)
      have HTK := Lib.hid htk
      clear hcs hu htk
      have kb := Blk.new wr 64 #[.int .i64 mk, .int .i64 mv, .int .i64 mx, .int .i64 ma, .int .i64 mb, .slice A' us.length c']
      have rb := kb.rule
      have hbel1 := hbel.alloc hbel.size (.cells #[.int .i64 mk, .int .i64 mv, .int .i64 mx, .int .i64 ma, .int .i64 mb, .slice A' us.length c'] 64)
      have HOWN1 := Lib.hid (hown.alloc (.cells #[.int .i64 mk, .int .i64 mv, .int .i64 mx, .int .i64 ma, .int .i64 mb, .slice A' us.length c'] 64))
      have HOM1 := Lib.hid (OM.on hom.out ((Below.refl _ _).alloc (Nat.le_refl _) (.cells #[.int .i64 mk, .int .i64 mv, .int .i64 mx, .int .i64 ma, .int .i64 mb, .slice A' us.length c'] 64)))
      have HCL := Lib.hid (copiedMsg_any mk mv mx ma mb A' c' us (wr.alloc (.cells #[.int .i64 mk, .int .i64 mv, .int .i64 mx, .int .i64 ma, .int .i64 mb, .slice A' us.length c'] 64)) ((hrv.more hbel.size).up _) hfv)
      clear hrv hown hom hfv
      go_wp2_with fail
      refine HCL.out.mono ?_
      rintro e w1 ⟨B, d, rfl, ho, hb1⟩
      have hown2 := (own_onB HOWN1.out hb1).alloc (.cells #[.int .i64 mk, .int .i64 mv, .int .i64 mx, .int .i64 ma, .int .i64 mb, .slice B us.length d] 64)
      have hbel2 := (on_ hbel1 hb1).alloc (on_ hbel1 hb1).size (.cells #[.int .i64 mk, .int .i64 mv, .int .i64 mx, .int .i64 ma, .int .i64 mb, .slice B us.length d] 64)
      have hom2 := OM.on (OM.push (u := ⟨mk, mv, mx, ma, mb, us, B, d⟩) HOM1.out (by have := hbel.size; simp; omega) hb1 ho) ((Below.refl _ _).alloc (Nat.le_refl _) (.cells #[.int .i64 mk, .int .i64 mv, .int .i64 mx, .int .i64 ma, .int .i64 mb, .slice B us.length d] 64))
      have hsz2 : w.heap.size ≤ w1.heap.size := (on_ hbel1 hb1).size
      have HOWN2 := Lib.hid hown2; have HBEL2 := Lib.hid hbel2; have HOM2 := Lib.hid hom2
      clear hown2 hbel2 hom2 HOWN1 HOM1 HCL ho hb1 rb kb hbel1
      go_wp2_with (at_builtin; refine wpList_append_any _ rfl (.tmp 12) (.tmp 15) 40 rfl w.heap.size 64 i0 _ 6 64 Tryz.underlying40 hi0 hz0 hz1 hz2 rfl (by omega) u3 k (mcells vs) rfl HOWN2.out _ _ 1 1 [.int .i64 mk, .int .i64 mv, .int .i64 mx, .int .i64 ma, .int .i64 mb, .slice B us.length d] rfl (reads6 _ _ _ _ _ _ _ rfl) (by simp [Value.oneCell']) (by simp only [maxLen]; omega) (by omega) (by simp; omega) ?_; intro v2 w2 hown3 hgr3 hat3; have HOWN3 := Lib.hid hown3; have hbel3 := HBEL2.out.grown hgr3 (by simp; omega) (fun j hj => (HOWN2.out.lt j hj).1); have HOM3 := Lib.hid (OM.grown HOM2.out hgr3 (own_row9 HOWN2.out)); clear hown3 hgr3 hat3)
      go_roundw
      case rel => exact ⟨k + 1, vs ++ [⟨mk, mv, mx, ma, mb, us, B, d⟩], by omega, by go_num, by show _ = _; rw [List.length_append, hvl.out]; rfl, by show _ = _; rw [HTK.out, List.map_append, List.map_append, hvd.out]; rfl, by rw [mcells_snoc]; exact HOWN3.out, HOM3, hbel3⟩
      case measure => simp [intOf]; omega
    · obtain rfl : k = n := by omega
      rw [← hvl.out] at hown
      obtain ⟨B, d, rfl⟩ := form8 hown
      go_wp2
      go_ret
      exact ⟨B, d, vs, rfl, by rw [hvd.out, List.take_of_length_le (by rw [HV.out]; exact Nat.le_refl _)], hown, hom.out, hbel⟩
def lnk (n a b : Int) : Bool := ((decide (0 ≤ a) && decide (a < n)) && (decide (0 ≤ b) && decide (b < n))) && (a != b)
set_option maxHeartbeats 1600000 in
theorem isLink_any (q : Cq) (a b : Int) (w : World) : Calls Tryz.prog 41 #[q.agg, .int .i64 a, .int .i64 b] w fun e w' => e = .returned (.bool (lnk q.n a b)) ∧ Below w.heap.size w w' := by
  have HX := Lib.hid (fun (W : World) => isRep_any q a W)
  have HY := Lib.hid (fun (W : World) => isRep_any q b W)
  unfold lnk
  obtain ⟨x, hx⟩ : ∃ x, (decide (0 ≤ a) && decide (a < q.n)) = x := ⟨_, rfl⟩
  obtain ⟨y, hy⟩ : ∃ y, (decide (0 ≤ b) && decide (b < q.n)) = y := ⟨_, rfl⟩
  obtain ⟨z, hz⟩ : ∃ z, (a != b) = z := ⟨_, rfl⟩
  rw [hx] at HX ⊢
  rw [hy] at HY ⊢
  rw [hz]
  clear hx hy
  obtain ⟨n, bad, rs, nt, Ab, Ar, An, cb, cr, cn⟩ := q
  simp only [Cq.agg, Cq.cells] at *
  have ka := Blk.new w 33 #[.int .i64 n, .slice Ab bad.length cb, .slice Ar rs.length cr, .slice An nt.length cn]
  have hB := up_ (Below.refl w.heap.size w) (.cells #[.int .i64 n, .slice Ab bad.length cb, .slice Ar rs.length cr, .slice An nt.length cn] 33)
  have ra := ka.rule
  go_enter Tryz.func41, Tryz.ntmps41
  go_wp2_with fail
  refine (HX.out _).mono ?_
  rintro e w1 ⟨rfl, hb0⟩
  have ka1 := ka.on hb0; have hb1 := on_ hB hb0
  clear ka hB ra hb0
  have ra := ka1.rule
  rcases x with _ | _
  · go_wp2
    go_ret
    exact ⟨rfl, hb1⟩
  · go_wp2_with fail
    refine (HY.out _).mono ?_
    rintro e w2 ⟨rfl, hb2⟩
    have hB2 := on_ hb1 hb2
    clear hb1 hb2
    rcases y with _ | _
    · go_wp2
      go_ret
      exact ⟨rfl, hB2⟩
    · go_wp2
      go_ret
      exact ⟨rfl, hB2⟩
set_option maxHeartbeats 3200000 in
theorem implOnLink4 (q : Cq) (a b : Nat) (ha : a < 4) (hb : b < 4) (hab : a ≠ b) (hg : cluB q.dat = true) (hn : q.n = 4) (w : World) (hr : RdC4 w w.heap.size q) (hf : FewC q) :
    Calls Tryz.prog 17 #[q.agg, .int .i64 (a : Int), .int .i64 (b : Int)] w (MS (q.nt.getD (a * 4 + b) zL).ms w) := by
  have HC := Lib.hid (fun (W : World) (h : Below w.heap.size w W) => implClusterOk_is true q hg W ((hr.below h).more h.size) hf)
  have HI := Lib.hid (fun (W : World) => isLink_any q (a : Int) (b : Int) W)
  have hlk : lnk q.n (a : Int) (b : Int) = true := by
    unfold lnk
    rw [hn, decide_eq_true (show (0 : Int) ≤ (a : Int) by omega), decide_eq_true (show (a : Int) < 4 by omega), decide_eq_true (show (0 : Int) ≤ (b : Int) by omega), decide_eq_true (show (b : Int) < 4 by omega)]
    simp; omega
  rw [hlk] at HI
  have hnl := clu_net hg
  have hnl : ((q.nt.map Lp.dat).length : Int) = q.n * q.n := hnl
  rw [List.length_map, hn] at hnl
  have hfn := hf.n
  obtain ⟨n, bad, rs, nt, Ab, Ar, An, cb, cr, cn⟩ := q
  obtain ⟨rb, rr, rn⟩ := hr
  simp only [Cq.agg, Cq.cells] at *
  subst hn
  obtain ⟨lb, elb⟩ : ∃ m, bad.length = m := ⟨_, rfl⟩
  obtain ⟨lr, elr⟩ : ∃ m, rs.length = m := ⟨_, rfl⟩
  obtain ⟨ln, eln⟩ : ∃ m, nt.length = m := ⟨_, rfl⟩
  simp only [elb, elr, eln] at HC HI hnl hfn ⊢
  have hln : ln = 16 := by omega
  subst hln
  have ELN := Lib.hid eln; have RN := Lib.hid rn
  have hki : a * 4 + b < 16 := by omega
  have hfl := hfn.2 (a * 4 + b) hki
  obtain ⟨⟨ms, mA, mc⟩, hu⟩ : ∃ u, nt.getD (a * 4 + b) zL = u := ⟨_, rfl⟩
  rw [hu] at hfl ⊢
  have HFN := Lib.hid hfl; have HU := Lib.hid hu
  clear hfl hu
  clear elb elr eln rb rr rn hg hf hnl hfn hlk
  have ka := Blk.new w 33 #[.int .i64 4, .slice Ab lb cb, .slice Ar lr cr, .slice An 16 cn]
  have hB := up_ (Below.refl w.heap.size w) (.cells #[.int .i64 4, .slice Ab lb cb, .slice Ar lr cr, .slice An 16 cn] 33)
  have ra := ka.rule
  have a0 : (0 : Int) ≤ (a : Int) := by omega
  have a1 : (a : Int) < 4 := by omega
  have b0 : (0 : Int) ≤ (b : Int) := by omega
  have b1 : (b : Int) < 4 := by omega
  go_enter Tryz.func17, Tryz.ntmps17
  go_wp2_with fail
  refine (HC.out _ hB).mono ?_
  rintro e w1 ⟨rfl, hb1⟩
  have ka' := ka.on hb1; have hB' := on_ hB hb1; clear ka hB ra hb1; have ka := ka'; have hB := hB'; clear ka' hB'; have ra := ka.rule
  go_wp2_with fail
  refine (HI.out _).mono ?_
  rintro e w2 ⟨rfl, hb1⟩
  have ka' := ka.on hb1; have hB' := on_ hB hb1; clear ka hB ra hb1; have ka := ka'; have hB := hB'; clear ka' hB'; have ra := ka.rule
  obtain ⟨b_, off, rfl, hbb, hcs, hrv⟩ := RdK.at_ (RN.out.below hB) (k := a * 4 + b) (by rw [ELN.out]; exact hki)
  change ∀ j, j < 1 → w2.cell? ⟨b_, off + (a * 4 + b) * 1 + j, none⟩ = (KL.cells (nt.getD (a * 4 + b) zL))[j]? at hcs
  change RdK KM w2 w.heap.size (nt.getD (a * 4 + b) zL).A (nt.getD (a * 4 + b) zL).ms at hrv
  rw [HU.out] at hcs hrv
  have hc0 : w2.cell? ⟨b_, off + (a * 4 + b), none⟩ = some (.slice mA ms.length mc) := by have := hcs 0 (by decide); simpa [KL] using this
  have HM := Lib.hid (copiedMsgs_any mA mc ms w2 (hrv.more hB.size) HFN.out)
  have i0 : (0 : Int) ≤ (a : Int) * 4 + (b : Int) := by omega
  have i1 : (a : Int) * 4 + (b : Int) < 16 := by omega
  have i2 : ((a : Int) * 4 + (b : Int)).toNat = a * 4 + b := by omega
  clear hcs hrv
  go_wp2_with fail
  refine HM.out.mono ?_
  rintro e w3 ⟨A9, d9, vs, rfl, hd9, ho9, hm9, hb9⟩
  go_wp2
  go_ret
  exact ⟨A9, d9, vs, rfl, hd9, own_more3 ho9 hB.size, ⟨fun i hi => (hm9.1 i hi).more hB.size, hm9.2⟩, on_ hB hb9⟩
set_option maxHeartbeats 3200000 in
theorem implOnLink7 (q : Cq) (a b : Nat) (ha : a < 7) (hb : b < 7) (hab : a ≠ b) (hg : cluB q.dat = true) (hn : q.n = 7) (w : World) (hr : RdC4 w w.heap.size q) (hf : FewC q) :
    Calls Tryz.prog 17 #[q.agg, .int .i64 (a : Int), .int .i64 (b : Int)] w (MS (q.nt.getD (a * 7 + b) zL).ms w) := by
  have HC := Lib.hid (fun (W : World) (h : Below w.heap.size w W) => implClusterOk_is true q hg W ((hr.below h).more h.size) hf)
  have HI := Lib.hid (fun (W : World) => isLink_any q (a : Int) (b : Int) W)
  have hlk : lnk q.n (a : Int) (b : Int) = true := by
    unfold lnk
    rw [hn, decide_eq_true (show (0 : Int) ≤ (a : Int) by omega), decide_eq_true (show (a : Int) < 7 by omega), decide_eq_true (show (0 : Int) ≤ (b : Int) by omega), decide_eq_true (show (b : Int) < 7 by omega)]
    simp; omega
  rw [hlk] at HI
  have hnl := clu_net hg
  have hnl : ((q.nt.map Lp.dat).length : Int) = q.n * q.n := hnl
  rw [List.length_map, hn] at hnl
  have hfn := hf.n
  obtain ⟨n, bad, rs, nt, Ab, Ar, An, cb, cr, cn⟩ := q
  obtain ⟨rb, rr, rn⟩ := hr
  simp only [Cq.agg, Cq.cells] at *
  subst hn
  obtain ⟨lb, elb⟩ : ∃ m, bad.length = m := ⟨_, rfl⟩
  obtain ⟨lr, elr⟩ : ∃ m, rs.length = m := ⟨_, rfl⟩
  obtain ⟨ln, eln⟩ : ∃ m, nt.length = m := ⟨_, rfl⟩
  simp only [elb, elr, eln] at HC HI hnl hfn ⊢
  have hln : ln = 49 := by omega
  subst hln
  have ELN := Lib.hid eln; have RN := Lib.hid rn
  have hki : a * 7 + b < 49 := by omega
  have hfl := hfn.2 (a * 7 + b) hki
  obtain ⟨⟨ms, mA, mc⟩, hu⟩ : ∃ u, nt.getD (a * 7 + b) zL = u := ⟨_, rfl⟩
  rw [hu] at hfl ⊢
  have HFN := Lib.hid hfl; have HU := Lib.hid hu
  clear hfl hu
  clear elb elr eln rb rr rn hg hf hnl hfn hlk
  have ka := Blk.new w 33 #[.int .i64 7, .slice Ab lb cb, .slice Ar lr cr, .slice An 49 cn]
  have hB := up_ (Below.refl w.heap.size w) (.cells #[.int .i64 7, .slice Ab lb cb, .slice Ar lr cr, .slice An 49 cn] 33)
  have ra := ka.rule
  have a0 : (0 : Int) ≤ (a : Int) := by omega
  have a1 : (a : Int) < 7 := by omega
  have b0 : (0 : Int) ≤ (b : Int) := by omega
  have b1 : (b : Int) < 7 := by omega
  go_enter Tryz.func17, Tryz.ntmps17
  go_wp2_with fail
  refine (HC.out _ hB).mono ?_
  rintro e w1 ⟨rfl, hb1⟩
  have ka' := ka.on hb1; have hB' := on_ hB hb1; clear ka hB ra hb1; have ka := ka'; have hB := hB'; clear ka' hB'; have ra := ka.rule
  go_wp2_with fail
  refine (HI.out _).mono ?_
  rintro e w2 ⟨rfl, hb1⟩
  have ka' := ka.on hb1; have hB' := on_ hB hb1; clear ka hB ra hb1; have ka := ka'; have hB := hB'; clear ka' hB'; have ra := ka.rule
  obtain ⟨b_, off, rfl, hbb, hcs, hrv⟩ := RdK.at_ (RN.out.below hB) (k := a * 7 + b) (by rw [ELN.out]; exact hki)
  change ∀ j, j < 1 → w2.cell? ⟨b_, off + (a * 7 + b) * 1 + j, none⟩ = (KL.cells (nt.getD (a * 7 + b) zL))[j]? at hcs
  change RdK KM w2 w.heap.size (nt.getD (a * 7 + b) zL).A (nt.getD (a * 7 + b) zL).ms at hrv
  rw [HU.out] at hcs hrv
  have hc0 : w2.cell? ⟨b_, off + (a * 7 + b), none⟩ = some (.slice mA ms.length mc) := by have := hcs 0 (by decide); simpa [KL] using this
  have HM := Lib.hid (copiedMsgs_any mA mc ms w2 (hrv.more hB.size) HFN.out)
  have i0 : (0 : Int) ≤ (a : Int) * 7 + (b : Int) := by omega
  have i1 : (a : Int) * 7 + (b : Int) < 49 := by omega
  have i2 : ((a : Int) * 7 + (b : Int)).toNat = a * 7 + b := by omega
  clear hcs hrv
  go_wp2_with fail
  refine HM.out.mono ?_
  rintro e w3 ⟨A9, d9, vs, rfl, hd9, ho9, hm9, hb9⟩
  go_wp2
  go_ret
  exact ⟨A9, d9, vs, rfl, hd9, own_more3 ho9 hB.size, ⟨fun i hi => (hm9.1 i hi).more hB.size, hm9.2⟩, on_ hB hb9⟩
def onlQ (d : Cd) (a b : Int) : Bool := cluB d && lnk d.n a b
set_option maxHeartbeats 1600000 in
theorem implOnLink_no (q : Cq) (a b : Int) (h : onlQ q.dat a b = false) (w : World) (hr : RdC4 w w.heap.size q) (hf : FewC q) :
    Calls Tryz.prog 17 #[q.agg, .int .i64 a, .int .i64 b] w (MS [] w) := by
  obtain ⟨g, hg⟩ : ∃ g, cluB q.dat = g := ⟨_, rfl⟩
  have HC := Lib.hid (fun (W : World) (h : Below w.heap.size w W) => implClusterOk_is g q hg W ((hr.below h).more h.size) hf)
  have hcond : g = true → lnk q.n a b = false := fun e => by
    unfold onlQ at h
    rw [hg, e, Bool.true_and] at h
    exact h
  have HI := Lib.hid (fun (W : World) => isLink_any q a b W)
  obtain ⟨n, bad, rs, nt, Ab, Ar, An, cb, cr, cn⟩ := q
  obtain ⟨rb, rr, rn⟩ := hr
  simp only [Cq.agg, Cq.cells] at *
  obtain ⟨lb, elb⟩ : ∃ m, bad.length = m := ⟨_, rfl⟩
  obtain ⟨lr, elr⟩ : ∃ m, rs.length = m := ⟨_, rfl⟩
  obtain ⟨ln, eln⟩ : ∃ m, nt.length = m := ⟨_, rfl⟩
  simp only [elb, elr, eln] at HC HI ⊢
  clear elb elr eln rb rr rn hg hf h
  have HCD := Lib.hid hcond; clear hcond
  have ka := Blk.new w 33 #[.int .i64 n, .slice Ab lb cb, .slice Ar lr cr, .slice An ln cn]
  have hB := up_ (Below.refl w.heap.size w) (.cells #[.int .i64 n, .slice Ab lb cb, .slice Ar lr cr, .slice An ln cn] 33)
  have ra := ka.rule
  go_enter Tryz.func17, Tryz.ntmps17
  go_wp2_with fail
  refine (HC.out _ hB).mono ?_
  rintro e w1 ⟨rfl, hb1⟩
  have ka' := ka.on hb1; have hB' := on_ hB hb1; clear ka hB ra hb1; have ka := ka'; have hB := hB'; clear ka' hB'; have ra := ka.rule
  rcases g with _ | _
  · go_wp2
    go_ret
    exact ⟨none, 0, [], rfl, rfl, World.ownsRow_nil _ _ _ _, OM.nil_, hB⟩
  · have hl0 := HCD.out rfl
    rw [hl0] at HI
    clear HCD hl0 HC
    go_wp2_with fail
    refine (HI.out _).mono ?_
    rintro e w2 ⟨rfl, hb1⟩
    have hB' := on_ hB hb1; clear ka hB ra hb1
    go_wp2
    go_ret
    exact ⟨none, 0, [], rfl, rfl, World.ownsRow_nil _ _ _ _, OM.nil_, hB'⟩
set_option maxHeartbeats 1600000 in
theorem l5link_any (q : Cq) (a b : Int) (w : World) (hr : RdC4 w w.heap.size q) (hf : FewC q) : Calls Tryz.prog 39 #[q.agg, .int .i64 a, .int .i64 b] w fun e w' => e = .returned (.bool (onlQ q.dat a b)) ∧ Below w.heap.size w w' := by
  obtain ⟨g, hg⟩ : ∃ g, cluB q.dat = g := ⟨_, rfl⟩
  have HC := Lib.hid (fun (W : World) (h : Below w.heap.size w W) => specClusterOk_is g q hg W ((hr.below h).more h.size) hf)
  have ho : onlQ q.dat a b = (g && lnk q.n a b) := by unfold onlQ; rw [hg]; rfl
  rw [ho]
  unfold lnk
  obtain ⟨n, bad, rs, nt, Ab, Ar, An, cb, cr, cn⟩ := q
  obtain ⟨rb, rr, rn⟩ := hr
  simp only [Cq.agg, Cq.cells] at *
  obtain ⟨lb, elb⟩ : ∃ m, bad.length = m := ⟨_, rfl⟩
  obtain ⟨lr, elr⟩ : ∃ m, rs.length = m := ⟨_, rfl⟩
  obtain ⟨ln, eln⟩ : ∃ m, nt.length = m := ⟨_, rfl⟩
  simp only [elb, elr, eln] at HC ⊢
  clear elb elr eln rb rr rn hg hf ho
  obtain ⟨z, hz⟩ : ∃ z, (a != b) = z := ⟨_, rfl⟩
  obtain ⟨x0, hx0⟩ : ∃ z, decide (0 ≤ a) = z := ⟨_, rfl⟩
  obtain ⟨x1, hx1⟩ : ∃ z, decide (a < n) = z := ⟨_, rfl⟩
  obtain ⟨y0, hy0⟩ : ∃ z, decide (0 ≤ b) = z := ⟨_, rfl⟩
  obtain ⟨y1, hy1⟩ : ∃ z, decide (b < n) = z := ⟨_, rfl⟩
  rw [hx0, hx1, hy0, hy1, hz]
  have ka := Blk.new w 33 #[.int .i64 n, .slice Ab lb cb, .slice Ar lr cr, .slice An ln cn]
  have hB := up_ (Below.refl w.heap.size w) (.cells #[.int .i64 n, .slice Ab lb cb, .slice Ar lr cr, .slice An ln cn] 33)
  have ra := ka.rule
  go_enter Tryz.func39, Tryz.ntmps39
  go_wp2_with fail
  refine (HC.out _ hB).mono ?_
  rintro e w1 ⟨rfl, hb1⟩
  have ka' := ka.on hb1; have hB' := on_ hB hb1; clear ka hB ra hb1; have ka := ka'; have hB := hB'; clear ka' hB'; have ra := ka.rule
  rcases g with _ | _
  · go_wp2
    go_ret
    exact ⟨rfl, hB⟩
  · rcases x0 with _ | _
    · go_wp2
      go_ret
      exact ⟨rfl, hB⟩
    · rcases x1 with _ | _
      · go_wp2
        go_ret
        exact ⟨rfl, hB⟩
      · rcases y0 with _ | _
        · go_wp2
          go_ret
          exact ⟨rfl, hB⟩
        · rcases y1 with _ | _
          · go_wp2
            go_ret
            exact ⟨rfl, hB⟩
          · go_wp2
            go_ret
            exact ⟨rfl, hB⟩
def onlM (q : Cq) (a b : Int) : List Mp := if onlQ q.dat a b then (q.nt.getD (a.toNat * q.n.toNat + b.toNat) zL).ms else []
theorem onl_ok {q : Cq} {a b : Int} (h : onlQ q.dat a b = true) : cluB q.dat = true ∧ (q.n = 4 ∨ q.n = 7) ∧ ∃ x y : Nat, a = x ∧ b = y ∧ (x : Int) < q.n ∧ (y : Int) < q.n ∧ x ≠ y := by
  unfold onlQ lnk at h
  simp only [Bool.and_eq_true, decide_eq_true_eq, bne_iff_ne] at h
  obtain ⟨h1, ⟨⟨h2, h3⟩, h4, h5⟩, h6⟩ := h
  obtain ⟨_, _, h7⟩ := clu_bad h1
  have e : q.dat.n = q.n := rfl
  rw [e] at h3 h5
  exact ⟨h1, h7, a.toNat, b.toNat, by omega, by omega, by omega, by omega, by omega⟩
theorem implOnLink_is (q : Cq) (a b : Int) (w : World) (hr : RdC4 w w.heap.size q) (hf : FewC q) :
    Calls Tryz.prog 17 #[q.agg, .int .i64 a, .int .i64 b] w (MS (onlM q a b) w) := by
  unfold onlM
  rcases h : onlQ q.dat a b with _ | _
  · exact implOnLink_no q a b h w hr hf
  · obtain ⟨h1, h2, x, y, rfl, rfl, hx, hy, hxy⟩ := onl_ok h
    rw [if_pos rfl]
    rcases h2 with h2 | h2
    · have e : q.n.toNat = 4 := by omega
      rw [e, Int.toNat_natCast, Int.toNat_natCast]
      exact implOnLink4 q x y (by omega) (by omega) hxy h1 h2 w hr hf
    · have e : q.n.toNat = 7 := by omega
      rw [e, Int.toNat_natCast, Int.toNat_natCast]
      exact implOnLink7 q x y (by omega) (by omega) hxy h1 h2 w hr hf
set_option maxHeartbeats 3200000 in
theorem specOnLink4 (q : Cq) (a b : Nat) (ha : a < 4) (hb : b < 4) (hab : a ≠ b) (hg : cluB q.dat = true) (hn : q.n = 4) (w : World) (hr : RdC4 w w.heap.size q) (hf : FewC q) :
    Calls Tryz.prog 16 #[q.agg, .int .i64 (a : Int), .int .i64 (b : Int)] w (MS (q.nt.getD (a * 4 + b) zL).ms w) := by
  have HL0 := fun (W : World) (h : Below w.heap.size w W) => l5link_any q (a : Int) (b : Int) W ((hr.below h).more h.size) hf
  have hlk : lnk q.n (a : Int) (b : Int) = true := by
    unfold lnk
    rw [hn, decide_eq_true (show (0 : Int) ≤ (a : Int) by omega), decide_eq_true (show (a : Int) < 4 by omega), decide_eq_true (show (0 : Int) ≤ (b : Int) by omega), decide_eq_true (show (b : Int) < 4 by omega)]
    simp; omega
  have hoq : onlQ q.dat (a : Int) (b : Int) = true := by unfold onlQ; rw [hg]; exact hlk
  rw [hoq] at HL0
  have HC := Lib.hid HL0
  clear HL0 hoq
  obtain ⟨i9, hi9, hz0, hz1, hz2⟩ := info_parts info_M9
  have hnl := clu_net hg
  have hnl : ((q.nt.map Lp.dat).length : Int) = q.n * q.n := hnl
  rw [List.length_map, hn] at hnl
  have hfn := hf.n
  obtain ⟨n, bad, rs, nt, Ab, Ar, An, cb, cr, cn⟩ := q
  obtain ⟨rb, rr, rn⟩ := hr
  simp only [Cq.agg, Cq.cells] at *
  subst hn
  obtain ⟨lb, elb⟩ : ∃ m, bad.length = m := ⟨_, rfl⟩
  obtain ⟨lr, elr⟩ : ∃ m, rs.length = m := ⟨_, rfl⟩
  obtain ⟨ln, eln⟩ : ∃ m, nt.length = m := ⟨_, rfl⟩
  simp only [elb, elr, eln] at HC hnl hfn ⊢
  have hln : ln = 16 := by omega
  subst hln
  have ELN := Lib.hid eln; have RN := Lib.hid rn
  have hki : a * 4 + b < 16 := by omega
  have hfl := hfn.2 (a * 4 + b) hki
  obtain ⟨⟨ms, mA, mc⟩, hu⟩ : ∃ u, nt.getD (a * 4 + b) zL = u := ⟨_, rfl⟩
  rw [hu] at hfl ⊢
  have HFN := Lib.hid hfl; have HU := Lib.hid hu
  clear hfl hu
  clear elb elr eln rb rr rn hg hf hnl hfn hlk
  have ka := Blk.new w 33 #[.int .i64 4, .slice Ab lb cb, .slice Ar lr cr, .slice An 16 cn]
  have hB := up_ (Below.refl w.heap.size w) (.cells #[.int .i64 4, .slice Ab lb cb, .slice Ar lr cr, .slice An 16 cn] 33)
  have ra := ka.rule
  have a0 : (0 : Int) ≤ (a : Int) := by omega
  have a1 : (a : Int) < 4 := by omega
  have b0 : (0 : Int) ≤ (b : Int) := by omega
  have b1 : (b : Int) < 4 := by omega
  go_enter Tryz.func16, Tryz.ntmps16
  go_wp2_with fail
  refine (HC.out _ hB).mono ?_
  rintro e w1 ⟨rfl, hb1⟩
  have ka' := ka.on hb1; have hB' := on_ hB hb1; clear ka hB ra hb1; have ka := ka'; have hB := hB'; clear ka' hB'; have ra := ka.rule
  obtain ⟨b_, off, rfl, hbb, hcs, hrv⟩ := RdK.at_ (RN.out.below hB) (k := a * 4 + b) (by rw [ELN.out]; exact hki)
  change ∀ j, j < 1 → w1.cell? ⟨b_, off + (a * 4 + b) * 1 + j, none⟩ = (KL.cells (nt.getD (a * 4 + b) zL))[j]? at hcs
  change RdK KM w1 w.heap.size (nt.getD (a * 4 + b) zL).A (nt.getD (a * 4 + b) zL).ms at hrv
  rw [HU.out] at hcs hrv
  have hc0 : w1.cell? ⟨b_, off + (a * 4 + b), none⟩ = some (.slice mA ms.length mc) := by have := hcs 0 (by decide); simpa [KL] using this
  have i0 : (0 : Int) ≤ (a : Int) * 4 + (b : Int) := by omega
  have i1 : (a : Int) * 4 + (b : Int) < 16 := by omega
  have i2 : ((a : Int) * 4 + (b : Int)).toNat = a * 4 + b := by omega
  have hrx : RdK KM w1 w1.heap.size mA ms := hrv.more hB.size
  clear hcs hrv
  have hvv := HFN.out
  obtain ⟨hn9, hv9⟩ := hvv
  change ms.length ≤ 1048576 at hn9
  change ∀ i, i < ms.length → FewM (ms.getD i zM) at hv9
  obtain ⟨m, hvn⟩ : ∃ m, ms.length = m := ⟨_, rfl⟩
  rw [hvn] at hn9 hv9 hc0
  have HVL := Lib.hid hv9; have HV := Lib.hid hvn; have HB := Lib.hid hB
  clear hv9 hvn HFN HC HU ELN RN ka hB
  go_wp2
  clear hc0 ra
  go_loopw [7, 9] (fun out i wr => ∃ (k : Nat) (vs : List Mp), k ≤ m ∧ i = .int .i64 k ∧ Hid (vs.length = k) ∧ Hid (vs.map Mp.dat = (ms.take k).map Mp.dat) ∧ wr.ownsRow w1.heap.size 64 6 out k (mcells vs) ∧ Hid (OM wr w1.heap.size vs) ∧ Below w1.heap.size w1 wr) (fun _ i _ => m - (intOf i).toNat)
  case atStart => exact ⟨0, [], Nat.zero_le _, rfl, rfl, rfl, World.ownsRow_nil _ _ _ _, OM.nil_, Below.refl _ _⟩
  case round =>
    obtain ⟨k, vs, hk, rfl, hvl, hvd, hown, hom, hbel⟩ := hrel
    by_cases hlt : k < m
    · obtain ⟨c_, of2, rfl, hbc, hcs, hrv⟩ := RdK.at_ (hrx.below hbel) (k := k) (by rw [HV.out]; omega)
      clear hrx
      have hfv := HVL.out k hlt
      have htk := take_getD ms zM k (by rw [HV.out]; exact hlt)
      change ∀ j, j < 6 → wr.cell? ⟨c_, of2 + k * 6 + j, none⟩ = (KM.cells (ms.getD k zM))[j]? at hcs
      change Rd wr w1.heap.size (ms.getD k zM).A (ms.getD k zM).vs at hrv
      obtain ⟨⟨mk, mv, mx, ma, mb, us, A', c'⟩, hu⟩ : ∃ u, ms.getD k zM = u := ⟨_, rfl⟩
      rw [hu] at hcs hfv hrv htk
      have hc0 : wr.cell? ⟨c_, of2 + k * 6, none⟩ = some (.int .i64 mk) := hcs 0 (by decide)
      have hc1 : wr.cell? ⟨c_, of2 + k * 6 + 1, none⟩ = some (.int .i64 mv) := hcs 1 (by decide)
      have hc2 : wr.cell? ⟨c_, of2 + k * 6 + 2, none⟩ = some (.int .i64 mx) := hcs 2 (by decide)
      have hc3 : wr.cell? ⟨c_, of2 + k * 6 + 3, none⟩ = some (.int .i64 ma) := hcs 3 (by decide)
      have hc4 : wr.cell? ⟨c_, of2 + k * 6 + 4, none⟩ = some (.int .i64 mb) := hcs 4 (by decide)
      have hc5 : wr.cell? ⟨c_, of2 + k * 6 + 5, none⟩ = some (.slice A' us.length c') := hcs 5 (by decide)
      have HTK := Lib.hid htk
      clear hcs hu htk
      have HOWN1 := Lib.hid hown
      have HCL := Lib.hid (l1ownMsg_any mk mv mx ma mb A' c' us wr (hrv.more hbel.size) hfv)
      clear hrv hown hfv
      go_wp2_with fail
      refine HCL.out.mono ?_
      rintro e w4 ⟨B, d, rfl, ho, hb1⟩
      have hown2 := (own_onB HOWN1.out hb1).alloc (.cells #[.int .i64 mk, .int .i64 mv, .int .i64 mx, .int .i64 ma, .int .i64 mb, .slice B us.length d] 64)
      have hbel2 := (on_ hbel hb1).alloc (on_ hbel hb1).size (.cells #[.int .i64 mk, .int .i64 mv, .int .i64 mx, .int .i64 ma, .int .i64 mb, .slice B us.length d] 64)
      have hom2 := OM.on (OM.push (u := ⟨mk, mv, mx, ma, mb, us, B, d⟩) hom.out hbel.size hb1 ho) ((Below.refl _ _).alloc (Nat.le_refl _) (.cells #[.int .i64 mk, .int .i64 mv, .int .i64 mx, .int .i64 ma, .int .i64 mb, .slice B us.length d] 64))
      have hsz2 : w1.heap.size ≤ w4.heap.size := (on_ hbel hb1).size
      have HOWN2 := Lib.hid hown2; have HBEL2 := Lib.hid hbel2; have HOM2 := Lib.hid hom2
      clear hown2 hbel2 hom2 HOWN1 HCL ho hb1 hom hbel
      go_wp2_with (at_builtin; refine wpList_append_any _ rfl (.tmp 31) (.tmp 37) 40 rfl w1.heap.size 64 i9 _ 6 64 Tryz.underlying40 hi9 hz0 hz1 hz2 rfl (by omega) u7 k (mcells vs) rfl HOWN2.out _ _ 1 1 [.int .i64 mk, .int .i64 mv, .int .i64 mx, .int .i64 ma, .int .i64 mb, .slice B us.length d] rfl (reads6 _ _ _ _ _ _ _ rfl) (by simp [Value.oneCell']) (by simp only [maxLen]; omega) (by omega) (by simp; omega) ?_; intro v2 w2 hown3 hgr3 hat3; have HOWN3 := Lib.hid hown3; have hbel3 := HBEL2.out.grown hgr3 (by simp; omega) (fun j hj => (HOWN2.out.lt j hj).1); have HOM3 := Lib.hid (OM.grown HOM2.out hgr3 (own_row9 HOWN2.out)); clear hown3 hgr3 hat3)
      go_roundw
      case rel => exact ⟨k + 1, vs ++ [⟨mk, mv, mx, ma, mb, us, B, d⟩], by omega, by go_num, by show _ = _; rw [List.length_append, hvl.out]; rfl, by show _ = _; rw [HTK.out, List.map_append, List.map_append, hvd.out]; rfl, by rw [mcells_snoc]; exact HOWN3.out, HOM3, hbel3⟩
      case measure => simp [intOf]; omega
    · obtain rfl : k = m := by omega
      rw [← hvl.out] at hown
      obtain ⟨B, d, rfl⟩ := form8 hown
      have hB := HB.out
      go_wp2
      go_ret
      exact ⟨B, d, vs, rfl, by rw [hvd.out, List.take_of_length_le (by rw [HV.out]; exact Nat.le_refl _)], own_more3 hown hB.size, ⟨fun i hi => (hom.out.1 i hi).more hB.size, hom.out.2⟩, on_ hB hbel⟩
set_option maxHeartbeats 3200000 in
theorem specOnLink7 (q : Cq) (a b : Nat) (ha : a < 7) (hb : b < 7) (hab : a ≠ b) (hg : cluB q.dat = true) (hn : q.n = 7) (w : World) (hr : RdC4 w w.heap.size q) (hf : FewC q) :
    Calls Tryz.prog 16 #[q.agg, .int .i64 (a : Int), .int .i64 (b : Int)] w (MS (q.nt.getD (a * 7 + b) zL).ms w) := by
  have HL0 := fun (W : World) (h : Below w.heap.size w W) => l5link_any q (a : Int) (b : Int) W ((hr.below h).more h.size) hf
  have hlk : lnk q.n (a : Int) (b : Int) = true := by
    unfold lnk
    rw [hn, decide_eq_true (show (0 : Int) ≤ (a : Int) by omega), decide_eq_true (show (a : Int) < 7 by omega), decide_eq_true (show (0 : Int) ≤ (b : Int) by omega), decide_eq_true (show (b : Int) < 7 by omega)]
    simp; omega
  have hoq : onlQ q.dat (a : Int) (b : Int) = true := by unfold onlQ; rw [hg]; exact hlk
  rw [hoq] at HL0
  have HC := Lib.hid HL0
  clear HL0 hoq
  obtain ⟨i9, hi9, hz0, hz1, hz2⟩ := info_parts info_M9
  have hnl := clu_net hg
  have hnl : ((q.nt.map Lp.dat).length : Int) = q.n * q.n := hnl
  rw [List.length_map, hn] at hnl
  have hfn := hf.n
  obtain ⟨n, bad, rs, nt, Ab, Ar, An, cb, cr, cn⟩ := q
  obtain ⟨rb, rr, rn⟩ := hr
  simp only [Cq.agg, Cq.cells] at *
  subst hn
  obtain ⟨lb, elb⟩ : ∃ m, bad.length = m := ⟨_, rfl⟩
  obtain ⟨lr, elr⟩ : ∃ m, rs.length = m := ⟨_, rfl⟩
  obtain ⟨ln, eln⟩ : ∃ m, nt.length = m := ⟨_, rfl⟩
  simp only [elb, elr, eln] at HC hnl hfn ⊢
  have hln : ln = 49 := by omega
  subst hln
  have ELN := Lib.hid eln; have RN := Lib.hid rn
  have hki : a * 7 + b < 49 := by omega
  have hfl := hfn.2 (a * 7 + b) hki
  obtain ⟨⟨ms, mA, mc⟩, hu⟩ : ∃ u, nt.getD (a * 7 + b) zL = u := ⟨_, rfl⟩
  rw [hu] at hfl ⊢
  have HFN := Lib.hid hfl; have HU := Lib.hid hu
  clear hfl hu
  clear elb elr eln rb rr rn hg hf hnl hfn hlk
  have ka := Blk.new w 33 #[.int .i64 7, .slice Ab lb cb, .slice Ar lr cr, .slice An 49 cn]
  have hB := up_ (Below.refl w.heap.size w) (.cells #[.int .i64 7, .slice Ab lb cb, .slice Ar lr cr, .slice An 49 cn] 33)
  have ra := ka.rule
  have a0 : (0 : Int) ≤ (a : Int) := by omega
  have a1 : (a : Int) < 7 := by omega
  have b0 : (0 : Int) ≤ (b : Int) := by omega
  have b1 : (b : Int) < 7 := by omega
  go_enter Tryz.func16, Tryz.ntmps16
  go_wp2_with fail
  refine (HC.out _ hB).mono ?_
  rintro e w1 ⟨rfl, hb1⟩
  have ka' := ka.on hb1; have hB' := on_ hB hb1; clear ka hB ra hb1; have ka := ka'; have hB := hB'; clear ka' hB'; have ra := ka.rule
  obtain ⟨b_, off, rfl, hbb, hcs, hrv⟩ := RdK.at_ (RN.out.below hB) (k := a * 7 + b) (by rw [ELN.out]; exact hki)
  change ∀ j, j < 1 → w1.cell? ⟨b_, off + (a * 7 + b) * 1 + j, none⟩ = (KL.cells (nt.getD (a * 7 + b) zL))[j]? at hcs
  change RdK KM w1 w.heap.size (nt.getD (a * 7 + b) zL).A (nt.getD (a * 7 + b) zL).ms at hrv
  rw [HU.out] at hcs hrv
  have hc0 : w1.cell? ⟨b_, off + (a * 7 + b), none⟩ = some (.slice mA ms.length mc) := by have := hcs 0 (by decide); simpa [KL] using this
  have i0 : (0 : Int) ≤ (a : Int) * 7 + (b : Int) := by omega
  have i1 : (a : Int) * 7 + (b : Int) < 49 := by omega
  have i2 : ((a : Int) * 7 + (b : Int)).toNat = a * 7 + b := by omega
  have hrx : RdK KM w1 w1.heap.size mA ms := hrv.more hB.size
  clear hcs hrv
  have hvv := HFN.out
  obtain ⟨hn9, hv9⟩ := hvv
  change ms.length ≤ 1048576 at hn9
  change ∀ i, i < ms.length → FewM (ms.getD i zM) at hv9
  obtain ⟨m, hvn⟩ : ∃ m, ms.length = m := ⟨_, rfl⟩
  rw [hvn] at hn9 hv9 hc0
  have HVL := Lib.hid hv9; have HV := Lib.hid hvn; have HB := Lib.hid hB
  clear hv9 hvn HFN HC HU ELN RN ka hB
  go_wp2
  clear hc0 ra
  go_loopw [7, 9] (fun out i wr => ∃ (k : Nat) (vs : List Mp), k ≤ m ∧ i = .int .i64 k ∧ Hid (vs.length = k) ∧ Hid (vs.map Mp.dat = (ms.take k).map Mp.dat) ∧ wr.ownsRow w1.heap.size 64 6 out k (mcells vs) ∧ Hid (OM wr w1.heap.size vs) ∧ Below w1.heap.size w1 wr) (fun _ i _ => m - (intOf i).toNat)
  case atStart => exact ⟨0, [], Nat.zero_le _, rfl, rfl, rfl, World.ownsRow_nil _ _ _ _, OM.nil_, Below.refl _ _⟩
  case round =>
    obtain ⟨k, vs, hk, rfl, hvl, hvd, hown, hom, hbel⟩ := hrel
    by_cases hlt : k < m
    · obtain ⟨c_, of2, rfl, hbc, hcs, hrv⟩ := RdK.at_ (hrx.below hbel) (k := k) (by rw [HV.out]; omega)
      clear hrx
      have hfv := HVL.out k hlt
      have htk := take_getD ms zM k (by rw [HV.out]; exact hlt)
      change ∀ j, j < 6 → wr.cell? ⟨c_, of2 + k * 6 + j, none⟩ = (KM.cells (ms.getD k zM))[j]? at hcs
      change Rd wr w1.heap.size (ms.getD k zM).A (ms.getD k zM).vs at hrv
      obtain ⟨⟨mk, mv, mx, ma, mb, us, A', c'⟩, hu⟩ : ∃ u, ms.getD k zM = u := ⟨_, rfl⟩
      rw [hu] at hcs hfv hrv htk
      have hc0 : wr.cell? ⟨c_, of2 + k * 6, none⟩ = some (.int .i64 mk) := hcs 0 (by decide)
      have hc1 : wr.cell? ⟨c_, of2 + k * 6 + 1, none⟩ = some (.int .i64 mv) := hcs 1 (by decide)
      have hc2 : wr.cell? ⟨c_, of2 + k * 6 + 2, none⟩ = some (.int .i64 mx) := hcs 2 (by decide)
      have hc3 : wr.cell? ⟨c_, of2 + k * 6 + 3, none⟩ = some (.int .i64 ma) := hcs 3 (by decide)
      have hc4 : wr.cell? ⟨c_, of2 + k * 6 + 4, none⟩ = some (.int .i64 mb) := hcs 4 (by decide)
      have hc5 : wr.cell? ⟨c_, of2 + k * 6 + 5, none⟩ = some (.slice A' us.length c') := hcs 5 (by decide)
      have HTK := Lib.hid htk
      clear hcs hu htk
      have HOWN1 := Lib.hid hown
      have HCL := Lib.hid (l1ownMsg_any mk mv mx ma mb A' c' us wr (hrv.more hbel.size) hfv)
      clear hrv hown hfv
      go_wp2_with fail
      refine HCL.out.mono ?_
      rintro e w4 ⟨B, d, rfl, ho, hb1⟩
      have hown2 := (own_onB HOWN1.out hb1).alloc (.cells #[.int .i64 mk, .int .i64 mv, .int .i64 mx, .int .i64 ma, .int .i64 mb, .slice B us.length d] 64)
      have hbel2 := (on_ hbel hb1).alloc (on_ hbel hb1).size (.cells #[.int .i64 mk, .int .i64 mv, .int .i64 mx, .int .i64 ma, .int .i64 mb, .slice B us.length d] 64)
      have hom2 := OM.on (OM.push (u := ⟨mk, mv, mx, ma, mb, us, B, d⟩) hom.out hbel.size hb1 ho) ((Below.refl _ _).alloc (Nat.le_refl _) (.cells #[.int .i64 mk, .int .i64 mv, .int .i64 mx, .int .i64 ma, .int .i64 mb, .slice B us.length d] 64))
      have hsz2 : w1.heap.size ≤ w4.heap.size := (on_ hbel hb1).size
      have HOWN2 := Lib.hid hown2; have HBEL2 := Lib.hid hbel2; have HOM2 := Lib.hid hom2
      clear hown2 hbel2 hom2 HOWN1 HCL ho hb1 hom hbel
      go_wp2_with (at_builtin; refine wpList_append_any _ rfl (.tmp 31) (.tmp 37) 40 rfl w1.heap.size 64 i9 _ 6 64 Tryz.underlying40 hi9 hz0 hz1 hz2 rfl (by omega) u7 k (mcells vs) rfl HOWN2.out _ _ 1 1 [.int .i64 mk, .int .i64 mv, .int .i64 mx, .int .i64 ma, .int .i64 mb, .slice B us.length d] rfl (reads6 _ _ _ _ _ _ _ rfl) (by simp [Value.oneCell']) (by simp only [maxLen]; omega) (by omega) (by simp; omega) ?_; intro v2 w2 hown3 hgr3 hat3; have HOWN3 := Lib.hid hown3; have hbel3 := HBEL2.out.grown hgr3 (by simp; omega) (fun j hj => (HOWN2.out.lt j hj).1); have HOM3 := Lib.hid (OM.grown HOM2.out hgr3 (own_row9 HOWN2.out)); clear hown3 hgr3 hat3)
      go_roundw
      case rel => exact ⟨k + 1, vs ++ [⟨mk, mv, mx, ma, mb, us, B, d⟩], by omega, by go_num, by show _ = _; rw [List.length_append, hvl.out]; rfl, by show _ = _; rw [HTK.out, List.map_append, List.map_append, hvd.out]; rfl, by rw [mcells_snoc]; exact HOWN3.out, HOM3, hbel3⟩
      case measure => simp [intOf]; omega
    · obtain rfl : k = m := by omega
      rw [← hvl.out] at hown
      obtain ⟨B, d, rfl⟩ := form8 hown
      have hB := HB.out
      go_wp2
      go_ret
      exact ⟨B, d, vs, rfl, by rw [hvd.out, List.take_of_length_le (by rw [HV.out]; exact Nat.le_refl _)], own_more3 hown hB.size, ⟨fun i hi => (hom.out.1 i hi).more hB.size, hom.out.2⟩, on_ hB hbel⟩
set_option maxHeartbeats 1600000 in
theorem specOnLink_no (q : Cq) (a b : Int) (h : onlQ q.dat a b = false) (w : World) (hr : RdC4 w w.heap.size q) (hf : FewC q) :
    Calls Tryz.prog 16 #[q.agg, .int .i64 a, .int .i64 b] w (MS [] w) := by
  have HL0 := fun (W : World) (h : Below w.heap.size w W) => l5link_any q a b W ((hr.below h).more h.size) hf
  rw [h] at HL0
  have HC := Lib.hid HL0
  clear HL0 h
  obtain ⟨n, bad, rs, nt, Ab, Ar, An, cb, cr, cn⟩ := q
  obtain ⟨rb, rr, rn⟩ := hr
  simp only [Cq.agg, Cq.cells] at *
  obtain ⟨lb, elb⟩ : ∃ m, bad.length = m := ⟨_, rfl⟩
  obtain ⟨lr, elr⟩ : ∃ m, rs.length = m := ⟨_, rfl⟩
  obtain ⟨ln, eln⟩ : ∃ m, nt.length = m := ⟨_, rfl⟩
  simp only [elb, elr, eln] at HC ⊢
  clear elb elr eln rb rr rn hf
  have ka := Blk.new w 33 #[.int .i64 n, .slice Ab lb cb, .slice Ar lr cr, .slice An ln cn]
  have hB := up_ (Below.refl w.heap.size w) (.cells #[.int .i64 n, .slice Ab lb cb, .slice Ar lr cr, .slice An ln cn] 33)
  have ra := ka.rule
  go_enter Tryz.func16, Tryz.ntmps16
  go_wp2_with fail
  refine (HC.out _ hB).mono ?_
  rintro e w1 ⟨rfl, hb1⟩
  have ka' := ka.on hb1; have hB' := on_ hB hb1; clear ka hB ra hb1; have ka := ka'; have hB := hB'; clear ka' hB'; have ra := ka.rule
  go_wp2
  go_ret
  exact ⟨none, 0, [], rfl, rfl, World.ownsRow_nil _ _ _ _, OM.nil_, hB⟩
theorem specOnLink_is (q : Cq) (a b : Int) (w : World) (hr : RdC4 w w.heap.size q) (hf : FewC q) :
    Calls Tryz.prog 16 #[q.agg, .int .i64 a, .int .i64 b] w (MS (onlM q a b) w) := by
  unfold onlM
  rcases h : onlQ q.dat a b with _ | _
  · exact specOnLink_no q a b h w hr hf
  · obtain ⟨h1, h2, x, y, rfl, rfl, hx, hy, hxy⟩ := onl_ok h
    rw [if_pos rfl]
    rcases h2 with h2 | h2
    · have e : q.n.toNat = 4 := by omega
      rw [e, Int.toNat_natCast, Int.toNat_natCast]
      exact specOnLink4 q x y (by omega) (by omega) hxy h1 h2 w hr hf
    · have e : q.n.toNat = 7 := by omega
      rw [e, Int.toNat_natCast, Int.toNat_natCast]
      exact specOnLink7 q x y (by omega) (by omega) hxy h1 h2 w hr hf
end Go.Proofs.YtfdfjmibjnmhpaaGreat.V

namespace Go.Proofs.YtfdfjmibjnmhpaaGreat.V
open Go.RowKit Go.Proofs.YtfdfjmibjnmhpaaGreat.B
def OG (w : World) (base : Nat) (A : Option Addr) (us : List Mp) : Prop :=
  us = [] ∨ ∃ g cur, A = some ⟨g, 0, none⟩ ∧ base ≤ g ∧ Blk w g 64 cur ∧ us.length * 6 ≤ cur.size ∧ cur.toList.take (us.length * 6) = mcells us ∧ OM w base us
theorem OG.of_own {w : World} {base c : Nat} {A : Option Addr} {us : List Mp} (h : w.ownsRow base 64 6 (.slice A us.length c) us.length (mcells us)) (ho : OM w base us) : OG w base A us := by
  obtain ⟨hl, h⟩ := h
  rcases h with ⟨h1, h2⟩ | ⟨g, cap, cur, h1, h2, h3, h4, h5, h6, h7⟩
  · exact .inl (List.eq_nil_of_length_eq_zero h2)
  · injection h1 with h1
    exact .inr ⟨g, cur, h1, h2, h3, by omega, h7, ho⟩
theorem OV.keepb {w w' : World} {t base : Nat} {A : Option Addr} {us : List (Int × Int)} (h : OV w t base A us) (hk : ∀ k, base ≤ k → k < w.heap.size → w'.heap[k]? = w.heap[k]?) : OV w' t base A us := by
  rcases h with h | ⟨g, cur, rfl, hg, hb, hp⟩
  · exact .inl h
  · exact .inr ⟨g, cur, rfl, hg, (hk g hg hb.lt).trans hb, hp⟩
theorem OG.keepb {w w' : World} {base : Nat} {A : Option Addr} {us : List Mp} (h : OG w base A us) (hk : ∀ k, base ≤ k → k < w.heap.size → w'.heap[k]? = w.heap[k]?) : OG w' base A us := by
  rcases h with h | ⟨g, cur, rfl, hg, hb, hs, ht, hv⟩
  · exact .inl h
  · exact .inr ⟨g, cur, rfl, hg, (hk g hg hb.lt).trans hb, hs, ht, fun i hi => OV.keepb (hv.1 i hi) hk, hv.2⟩
theorem OG.on {w w' : World} {base : Nat} {A : Option Addr} {us : List Mp} (h : OG w base A us) (hb : Below w.heap.size w w') : OG w' base A us := h.keepb fun k _ h2 => hb.block k h2
theorem OG.sh {lo hi : Nat} {w w' : World} {base : Nat} {A : Option Addr} {us : List Mp} (h : OG w base A us) (hs : Sh lo hi w w') (hl : hi ≤ base) : OG w' base A us := h.keepb fun k h1 h2 => hs.block k h2 (.inr (by omega))
theorem OG.rd {w : World} {base : Nat} {A : Option Addr} {us : List Mp} (h : OG w base A us) : RdK KM w w.heap.size A us := by
  intro hn
  rcases h with rfl | ⟨g, cur, rfl, hg, hb, hs, h7, ho⟩
  · simp at hn
  · refine ⟨g, 0, rfl, Blk.lt hb, fun k hk => ⟨fun j hj => ?_, OV.rd (ho.1 k hk)⟩⟩
    have hj6 : j < 6 := hj
    have hv := mcells_at us k j hk hj6
    rw [← h7, List.getElem?_take_of_lt (by omega)] at hv
    show w.cell? ⟨g, 0 + k * 6 + j, none⟩ = (us.getD k zM).cells[j]?
    rw [Nat.zero_add, Blk.cell hb]
    simpa using hv
/-- The marks stand. -/
def MG (w : World) (A : Option Addr) (us : List Mp) : Prop := us = [] ∨ ∃ g gs cur, A = some ⟨g, 0, none⟩ ∧ MkM w g gs cur us 1 us.length
theorem MG.on {w w' : World} {A : Option Addr} {us : List Mp} (h : MG w A us) (hb : Below w.heap.size w w') : MG w' A us := by
  rcases h with h | ⟨g, gs, cur, e, h⟩
  · exact .inl h
  · exact .inr ⟨g, gs, cur, e, h.on hb⟩
set_option maxHeartbeats 1600000 in
theorem markMsgS_nil (A : Option Addr) (c : Nat) (k : Int) (w : World) :
    Calls Tryz.prog 19 #[.slice A 0 c, .int .i64 k] w fun e w' => e = .returned (.int .i64 k) ∧ w = w' := by
  go_enter Tryz.func19, Tryz.ntmps19
  go_wp2
  go_loop [1, 5] (fun kk i => i = .int .i64 0 ∧ kk = .int .i64 k) (fun _ i => 0 - (intOf i).toNat)
  case atStart => exact ⟨rfl, rfl⟩
  case round =>
    obtain ⟨rfl, rfl⟩ := hrel
    go_wp2
    go_ret
    exact ⟨rfl, rfl⟩
set_option maxHeartbeats 1600000 in
theorem heldMsgS_nil (A : Option Addr) (c : Nat) (k : Int) (w : World) :
    Calls Tryz.prog 20 #[.slice A 0 c, .int .i64 k] w fun e w' => e = .returned (.int .i64 k) ∧ w = w' := by
  go_enter Tryz.func20, Tryz.ntmps20
  go_wp2
  go_loop [1, 5] (fun kk i => i = .int .i64 0 ∧ kk = .int .i64 k) (fun _ i => 0 - (intOf i).toNat)
  case atStart => exact ⟨rfl, rfl⟩
  case round =>
    obtain ⟨rfl, rfl⟩ := hrel
    go_wp2
    go_ret
    exact ⟨rfl, rfl⟩
theorem kM_top {us : List Mp} (ht : us.length + tvM us us.length ≤ 1048576) : kM us 1 us.length ≤ 16777216 := by simp only [kM]; omega
theorem tv_few {us : List Mp} (ht : us.length + tvM us us.length ≤ 1048576) : us.length ≤ 1048576 ∧ ∀ i, i < us.length → (us.getD i zM).vs.length ≤ 1048576 :=
  ⟨by omega, fun i hi => by have := tvM_mono us (show i + 1 ≤ us.length by omega); simp only [tvM] at this; omega⟩
theorem OG.marks {w : World} {base : Nat} {A : Option Addr} {us : List Mp} (h : OG w base A us) (k : Int) (hn : 0 < us.length) :
    ∃ g gs cur, A = some ⟨g, 0, none⟩ ∧ base ≤ g ∧ MkM w g gs cur us k 0 ∧ InM base w.heap.size g gs us := by
  rcases h with rfl | ⟨g, cur, h1, h2, h3, hcs, h7, ho⟩
  · simp at hn
  · refine ⟨g, fun i => match (us.getD i zM).A with | some a => a.block | none => 0, cur, h1, h2, ⟨h3, hcs, fun i hi => ?_, fun i hi h0 => ?_, fun i hi => absurd hi (by omega), fun i j hij hj h0 h0' => ?_⟩, h2, Blk.lt h3, fun i hi h0 => ?_⟩
    · have hv := mcells_at us i 5 hi (by decide)
      rw [← h7] at hv
      rw [List.getElem?_take_of_lt (by omega)] at hv
      simpa [Mp.cells] using hv
    · rcases ho.1 i hi with ⟨e1, e2⟩ | ⟨g', cs, e, _, hk, hs, _⟩
      · rw [e2] at h0; simp at h0
      · simp only [e]
        exact ⟨trivial, cs, hk, hs, fun hh => absurd hh (by omega)⟩
    · rcases ho.1 i (by omega) with ⟨e1, e2⟩ | ⟨g', cs, e, _, hk, hs, _⟩
      · rw [e2] at h0; simp at h0
      · rcases ho.1 j hj with ⟨e3, e4⟩ | ⟨g2, cs2, e', _, hk2, hs2, _⟩
        · rw [e4] at h0'; simp at h0'
        · simp only [e, e']
          rintro rfl
          exact ho.2 i j hij hj g' e e'
    · rcases ho.1 i hi with ⟨e1, e2⟩ | ⟨g', cs, e, hb, hk, hs, _⟩
      · rw [e2] at h0; simp at h0
      · simp only [e]
        exact ⟨hb, hk.lt⟩
theorem mMS_grow (M : Int) (A : Option Addr) (c base : Nat) (us : List Mp) (w : World) (h : OG w base A us) (ht : us.length + tvM us us.length ≤ 1048576) (hM : kM us 1 us.length = M) :
    Calls Tryz.prog 19 #[.slice A us.length c, .int .i64 1] w fun e w' => e = .returned (.int .i64 M) ∧ MG w' A us ∧ Mid base w.heap.size w w' := by
  subst hM
  obtain ⟨h1, h2⟩ := tv_few ht
  by_cases hn : us.length = 0
  · obtain rfl := List.eq_nil_of_length_eq_zero hn
    refine (markMsgS_nil A c 1 w).mono ?_
    rintro e w' ⟨rfl, rfl⟩
    exact ⟨by rw [List.length_nil, kM_zero], .inl rfl, Mid.refl _ _ _⟩
  · obtain ⟨g, gs, cur, rfl, h5, h6, h7⟩ := h.marks 1 (by omega)
    refine (markMsgS_any base w.heap.size g c gs cur us 1 w h6 h7 h1 h2 (by omega) (kM_top ht)).mono ?_
    rintro e w' ⟨rfl, ⟨cur', hm⟩, hmid⟩
    exact ⟨rfl, .inr ⟨g, gs, cur', rfl, hm⟩, hmid⟩
theorem heldMS_own (M : Int) (A : Option Addr) (c : Nat) (us : List Mp) (w : World) (h : MG w A us) (ht : us.length + tvM us us.length ≤ 1048576) (hM : kM us 1 us.length = M) :
    Calls Tryz.prog 20 #[.slice A us.length c, .int .i64 1] w fun e w' => e = .returned (.int .i64 M) ∧ w = w' := by
  subst hM
  obtain ⟨h1, h2⟩ := tv_few ht
  rcases h with rfl | ⟨g, gs, cur, rfl, h⟩
  · refine (heldMsgS_nil A c 1 w).mono ?_
    rintro e w' ⟨rfl, rfl⟩
    exact ⟨by rw [List.length_nil, kM_zero], rfl⟩
  · exact heldMsgS_any g c gs cur us 1 w h h1 h2 (by omega) (kM_top ht)
/-- Own messages, out of the contract of the copies. -/
def MR2 (xs : List Mp) (w : World) (e : Ending) (w' : World) : Prop := ∃ A d vs, e = .returned (.slice A vs.length d) ∧ vs.map Mp.dat = xs.map Mp.dat ∧ OG w' w.heap.size A vs ∧ Below w.heap.size w w'
theorem mr_of {xs : List Mp} {w : World} {e : Ending} {w' : World} (h : MS xs w e w') : MR2 xs w e w' := by
  obtain ⟨A, d, vs, e1, e2, ho, hm, hb⟩ := h
  exact ⟨A, d, vs, e1, e2, OG.of_own ho hm, hb⟩
theorem same_len9 {us vs : List Mp} (h : us.map Mp.dat = vs.map Mp.dat) : us.length = vs.length := by simpa using congrArg List.length h
theorem tvM_same {us vs : List Mp} (h : us.map Mp.dat = vs.map Mp.dat) : ∀ n, tvM us n = tvM vs n
  | 0 => rfl
  | n + 1 => by
    have e : (us.getD n zM).vs = (vs.getD n zM).vs := congrArg Md.vs (same_at (dat := Mp.dat) (z := zM) h n)
    simp only [tvM, tvM_same h n, e]
theorem kM_same {us vs : List Mp} (h : us.map Mp.dat = vs.map Mp.dat) (k : Int) (n : Nat) : kM us k n = kM vs k n := by simp only [kM, tvM_same h]
theorem tv_same9 {us vs : List Mp} (h : us.map Mp.dat = vs.map Mp.dat) : us.length + tvM us us.length = vs.length + tvM vs vs.length := by rw [tvM_same h, same_len9 h]
theorem tvM_tkS (us : List Mp) : ∀ n, tvM us n = tkS fM zM us n
  | 0 => rfl
  | n + 1 => by simp only [tvM, tkS, tvM_tkS us n, fM]
theorem onlM_few (q : Cq) (a b : Int) (ht : totC q ≤ 1048576) : (onlM q a b).length + tvM (onlM q a b) (onlM q a b).length ≤ 1048576 := by
  unfold onlM
  split
  · rename_i h
    obtain ⟨h1, h2, x, y, rfl, rfl, hx, hy, hxy⟩ := onl_ok h
    have hnl : ((q.nt.map Lp.dat).length : Int) = q.n * q.n := clu_net h1
    rw [List.length_map] at hnl
    have hi : x * q.n.toNat + y < q.nt.length := by
      rcases h2 with h2 | h2 <;> (rw [h2] at hnl hx hy ⊢; simp at hnl ⊢; omega)
    have h4 := tkS_one fL zL q.nt hi
    rw [Int.toNat_natCast, Int.toNat_natCast, tvM_tkS]
    unfold totC at ht
    unfold fL at h4 ht
    omega
  · simp [tvM]
theorem mr_dat {xs ys : List Mp} (h : xs.map Mp.dat = ys.map Mp.dat) {w : World} {e : Ending} {w' : World} (k : MR2 xs w e w') : MR2 ys w e w' := by
  obtain ⟨A, d, vs, e1, e2, ho, hb⟩ := k
  exact ⟨A, d, vs, e1, e2.trans h, ho, hb⟩
theorem onlM_dat {p q : Cq} (e : p.dat = q.dat) (a b : Int) : (onlM p a b).map Mp.dat = (onlM q a b).map Mp.dat := by
  have e1 : p.n = q.n := congrArg Cd.n e
  have e3 : p.nt.map Lp.dat = q.nt.map Lp.dat := congrArg Cd.nt e
  unfold onlM
  rw [e, e1]
  split
  · exact same_at (dat := Lp.dat) (z := zL) e3 _
  · rfl
end Go.Proofs.YtfdfjmibjnmhpaaGreat.V

namespace Go.Proofs.YtfdfjmibjnmhpaaGreat.D
open Go.RowKit Go.ChangeShapes Go.WideShapes
theorem toList_of {s : String} {l : List Char} (h : s = String.ofList l) : s.toList = l := by rw [h, String.toList_ofList]
def Door (P : Program) : Prop := ∃ c r, behindMainWord (wordsSigns P.initOrder.toList) = c :: r ∧ (c == "cut".toList) = true ∧ (c == "gc".toList || c == "spec".toList) = false ∧ (c == "carried".toList) = false ∧
    (stripLifts liftWords (c :: r)).1 = [] ∧ ((stripLifts liftWords (c :: r)).2.head? == some "cut".toList) = true
theorem door : Door Tryz.prog := by
  unfold Door
  rw [toList_of (s := Tryz.prog.initOrder) rfl]
  refine ⟨_, _, rfl, ?_, ?_, ?_, ?_, ?_⟩ <;> kernel_rfl
theorem make_of {P : Program} (h : Door P) : P.make = some .cut := by
  obtain ⟨c, r, h1, h2, h3, h4, h5, h6⟩ := h
  unfold Program.make
  rw [h1]
  dsimp only
  rw [if_neg (by rw [h3]; exact Bool.false_ne_true), if_pos (by rw [h2]; rfl)]
theorem enter_of {P : Program} (h : Door P) (l1 : P.laysLater = false) (l2 : P.bearsReflect = false) (l3 : P.doorFits [] = true) : P.mayEnter = true := by
  obtain ⟨c, r, h1, h2, h3, h4, h5, h6⟩ := h
  unfold Program.mayEnter
  rw [h1]
  dsimp only
  rw [h3, h4, h5, h6, l1, l2, l3]
  rfl
theorem lifts_of {P : Program} (h : Door P) : P.headLifts = [] := by
  obtain ⟨c, r, h1, h2, h3, h4, h5, h6⟩ := h
  unfold Program.headLifts
  rw [h1]
  simp [h5]
theorem final_of {P : Program} (h : Door P) : P.liftsFinal = false := by
  have hl := lifts_of h
  obtain ⟨c, r, h1, h2, h3, h4, h5, h6⟩ := h
  unfold Program.liftsFinal
  rw [h1, hl]
  simp at h4
  simp [h4]
theorem make_is : Tryz.prog.make = some .cut := make_of door
theorem enter_is : Tryz.prog.mayEnter = true := enter_of door (by kernel_rfl) (by kernel_rfl) (by kernel_rfl)
theorem final_is : Tryz.prog.liftsFinal = false := final_of door
theorem own : ownKnob Tryz.prog.godebug = none := by kernel_rfl
theorem laidOut : laidOutB Tryz.prog = true := by kernel_rfl
end Go.Proofs.YtfdfjmibjnmhpaaGreat.D
