/-
  Proved here: for whatever numbers, list of reports and report, AddReport of the program answers as AddReport of the model, the list and the report read afterwards as before, and each answer owns its memory. No condition.
-/
import Derived.Test.YtcfjmhebhhekbaaRows
import Derived.Test.YtcfjmhebhhekbaaDoor
import Derived.Test.YtcfjmhebhhekbaaLiftR
import Derived.Test.YtcfjmhebhhekbaaRLaw
import Derived.Test.YtcfjmhebhhekbaaRSpec
import Derived.Test.YtcfjmhebhhekbaaGrow
set_option linter.unusedVariables false
set_option maxRecDepth 100000
namespace Go.Proofs.Ytcfjmhebhhekbaa.fnExactAddReport
open Go.RowKit Go.ChangeShapes Go.WideShapes Go.Proofs.Ytcfjmhebhhekbaa.B Go.Proofs.Ytcfjmhebhhekbaa.V

theorem tv_same {ps qs : List Pp} (h : rl qs = rl ps) : ∀ k, tv qs k = tv ps k
  | 0 => rfl
  | k + 1 => by
    have e : (qs.getD k zP).r = (ps.getD k zP).r := by rw [← rl_at, h, rl_at]
    simp only [tv, tv_same h k, e]
def AV (n view : Int) (A : Option Addr) (c m nv rc : Nat) (f v x : Int) (RA : Option Addr) (ps : List Pp) (vs : List (Int × Int)) (RS : List Rp) (q : Bool) : Nat → Value → World → Prop
  | 0, u, _ => u = .int .i64 n
  | 1, u, _ => u = .int .i64 view
  | 2, u, _ => u = .slice A m c
  | 3, u, w => ∃ g qs, u = .slice (some ⟨g, 0, none⟩) m m ∧ qs.length = m ∧ rl qs = rl ps ∧ RdR w w.heap.size (some ⟨g, 0, none⟩) qs
  | 4, u, _ => u = .agg #[.int .i64 f, .int .i64 v, .int .i64 x, .slice RA nv rc]
  | 5, u, w => ∃ g, u = .agg #[.int .i64 f, .int .i64 v, .int .i64 x, .slice (some ⟨g, 0, none⟩) nv nv] ∧ Rd w w.heap.size (some ⟨g, 0, none⟩) vs
  | 6, u, w => ∃ B d us, u = .tuple #[.slice B us.length d, .bool q] ∧ rl us = RS ∧ RdR w w.heap.size B us
  | 7, u, w => ∃ B d us, u = .tuple #[.slice B us.length d, .bool q] ∧ rl us = RS ∧ RdR w w.heap.size B us
  | 8, u, w => ∃ B d us, u = .slice B us.length d ∧ rl us = RS ∧ RdR w w.heap.size B us
  | 9, u, _ => u = .bool q
  | 10, u, w => ∃ B d us, u = .slice B us.length d ∧ rl us = RS ∧ RdR w w.heap.size B us
  | 11, u, _ => u = .bool q
  | _, _, _ => True
theorem AV.keep {n view : Int} {A : Option Addr} {c m nv rc : Nat} {f v x : Int} {RA : Option Addr} {ps : List Pp} {vs : List (Int × Int)} {RS : List Rp} {q : Bool} (j : Nat) (u : Value) (w1 w2 : World) (h : AV n view A c m nv rc f v x RA ps vs RS q j u w1) (hb : Below w1.heap.size w1 w2) : AV n view A c m nv rc f v x RA ps vs RS q j u w2 := by
  unfold AV at *
  split at h
  all_goals first | exact h | skip
  · obtain ⟨g, qs, h1, h2, h3, h4⟩ := h; exact ⟨g, qs, h1, h2, h3, h4.on hb⟩
  · obtain ⟨g, h1, h2⟩ := h; exact ⟨g, h1, h2.on hb⟩
  all_goals (obtain ⟨B, d, us, h1, h2, h3⟩ := h; exact ⟨B, d, us, h1, h2, h3.on hb⟩)
/-- What the operations of the region yield that compares the report with itself. -/
def EV (nv rc : Nat) (f v x : Int) (RA : Option Addr) (g5 : Nat) (vs : List (Int × Int)) : Nat → Value → World → Prop
  | 0, u, _ => u = .agg #[.int .i64 f, .int .i64 v, .int .i64 x, .slice (some ⟨g5, 0, none⟩) nv nv]
  | 1, u, _ => u = .agg #[.int .i64 f, .int .i64 v, .int .i64 x, .slice RA nv rc]
  | 2, u, w => ∃ g, u = .agg #[.int .i64 f, .int .i64 v, .int .i64 x, .slice (some ⟨g, 0, none⟩) nv nv] ∧ Rd w w.heap.size (some ⟨g, 0, none⟩) vs
  | 3, u, _ => u = .bool true
  | 4, u, _ => u = .bool false
  | _, _, _ => True
theorem EV.keep {nv rc : Nat} {f v x : Int} {RA : Option Addr} {g5 : Nat} {vs : List (Int × Int)} (j : Nat) (u : Value) (w1 w2 : World) (h : EV nv rc f v x RA g5 vs j u w1) (hb : Below w1.heap.size w1 w2) : EV nv rc f v x RA g5 vs j u w2 := by
  unfold EV at *
  split at h
  all_goals first | exact h | skip
  obtain ⟨g, h1, h2⟩ := h; exact ⟨g, h1, h2.on hb⟩
set_option maxHeartbeats 6400000 in
theorem walk0 (n view : Int) (A : Option Addr) (c : Nat) (ps : List Pp) (f v x : Int) (RA : Option Addr) (rc : Nat) (vs : List (Int × Int)) (RS : List Rp) (q : Bool) (w : World) (hm : ps.length ≤ maxLen) (hv : ∀ i, i < ps.length → (ps.getD i zP).r.vs.length ≤ maxLen) (hr : RdR w w.heap.size A ps) (hmr : vs.length ≤ maxLen) (hrv : Rd w w.heap.size RA vs)
    (hRS : ps.length + tv ps ps.length ≤ 1048576 → vs.length ≤ 1048576 → RS.length ≤ 1048576 ∧ (∀ us, rl us = RS → Few us) ∧ ∀ us, rl us = RS → kR us 1 us.length ≤ 16777216)
    (hsp : Few ps → vs.length ≤ 1048576 → ∀ (A : Option Addr) (qs : List Pp) (W : World) (g : Nat), rl qs = rl ps → Few qs → RdR W W.heap.size A qs → Rd W W.heap.size (some ⟨g, 0, none⟩) vs → Calls Try.prog 28 #[.int .i64 n, .int .i64 view, .slice A qs.length qs.length, .agg #[.int .i64 f, .int .i64 v, .int .i64 x, .slice (some ⟨g, 0, none⟩) vs.length vs.length]] W fun e w' => ∃ B d us, e = .returned (.tuple #[.slice B us.length d, .bool q]) ∧ rl us = RS ∧ RdR w' w'.heap.size B us ∧ Below W.heap.size W w')
    (him : Few ps → vs.length ≤ 1048576 → ∀ (A : Option Addr) (qs : List Pp) (W : World) (g : Nat), rl qs = rl ps → Few qs → RdR W W.heap.size A qs → Rd W W.heap.size (some ⟨g, 0, none⟩) vs → Calls Try.prog 9 #[.int .i64 n, .int .i64 view, .slice A qs.length qs.length, .agg #[.int .i64 f, .int .i64 v, .int .i64 x, .slice (some ⟨g, 0, none⟩) vs.length vs.length]] W fun e w' => ∃ B d us, e = .returned (.tuple #[.slice B us.length d, .bool q]) ∧ rl us = RS ∧ (∃ gs, OwnG RS W w' B d us gs) ∧ Below W.heap.size W w') :
    Calls Try.prog 6 #[.int .i64 n, .int .i64 view, .slice A ps.length c, .agg #[.int .i64 f, .int .i64 v, .int .i64 x, .slice RA vs.length rc]] w fun e w' => e = .returned (.bool true) ∧ Below w.heap.size w w' := by
  have kR0 := Blk.new w 56 #[.int .i64 f, .int .i64 v, .int .i64 x, .slice RA vs.length rc]
  have hb0 : Below w.heap.size w (w.alloc (.cells #[.int .i64 f, .int .i64 v, .int .i64 x, .slice RA vs.length rc] 56)) := up_ (Below.refl _ _) _
  have hr0 := hr.on hb0
  by_cases hn : (1048576 : Int) < (ps.length : Int) + (tv ps ps.length : Int)
  · have H1 := Lib.hid (szR_big A c ps _ hr0 hm hv hn)
    clear hsp him hRS
    go_enter Try.func6, Try.ntmps6
    go_wp2_with fail
    refine H1.out.mono ?_
    rintro e w1 ⟨rfl, hb1⟩
    go_wp2
    go_ret
    exact ⟨rfl, on_ hb0 hb1⟩
  have hfew : Few ps := few_of (by omega)
  have H1 := Lib.hid (szR_small A c ps _ hr0 (by omega))
  by_cases hn2 : (1048576 - (ps.length : Int) - (tv ps ps.length : Int)) < (vs.length : Int)
  · have H2 : Hid (∀ y : Int, y = 1048576 - (ps.length : Int) - (tv ps ps.length : Int) → ∀ W, Calls Try.prog 27 #[.agg #[.int .i64 f, .int .i64 v, .int .i64 x, .slice RA vs.length rc], .int .i64 y] W fun e w' => e = .returned (.int .i64 (-1)) ∧ Below W.heap.size W w') := fun y hy W => by
      have := szReport_any f v x RA vs.length rc y W hmr (by omega) (by omega)
      rwa [if_pos (by omega)] at this
    clear hsp him hRS
    go_enter Try.func6, Try.ntmps6
    go_wp2_with fail
    refine H1.out.mono ?_
    rintro e w1 ⟨⟨y, hy0, hy1, hye, rfl⟩, hb1⟩
    have H2 := Lib.hid (H2.out y hye)
    clear hye
    have rR := (kR0.on hb1).rule
    go_wp2_with fail
    refine (H2.out w1).mono ?_
    rintro e w2 ⟨rfl, hb2⟩
    go_wp2
    go_ret
    exact ⟨rfl, on_ (on_ hb0 hb1) hb2⟩
  · have hvl : vs.length ≤ 1048576 := by omega
    have H2 : Hid (∀ y : Int, y = 1048576 - (ps.length : Int) - (tv ps ps.length : Int) → ∃ y2 : Int, 0 ≤ y2 ∧ ∀ W, Calls Try.prog 27 #[.agg #[.int .i64 f, .int .i64 v, .int .i64 x, .slice RA vs.length rc], .int .i64 y] W fun e w' => e = .returned (.int .i64 y2) ∧ Below W.heap.size W w') := fun y hy => ⟨y - vs.length, by omega, fun W => by
      have := szReport_any f v x RA vs.length rc y W hmr (by omega) (by omega)
      rwa [if_neg (by omega)] at this⟩
    obtain ⟨hRl, hRf, hRk⟩ := hRS (by omega) hvl
    have HRF := Lib.hid hRf
    have HRK := Lib.hid hRk
    have HSP := Lib.hid (hsp hfew hvl); clear hsp
    have HIM := Lib.hid (him hfew hvl); clear him
    have HF := Lib.hid hfew
    have hnq : (q != q) = false := by simp
    obtain ⟨m, hvm⟩ : ∃ m, ps.length = m := ⟨_, rfl⟩
    have HT := Lib.hid (fun (A : Option Addr) (c : Nat) (W : World) (h : RdR W W.heap.size A ps) => toReportS_any A c ps W h hfew.1 hfew.2)
    have HTR := Lib.hid (fun (W : World) (h : Rd W W.heap.size RA vs) => toReport_any f v x RA rc vs W h hvl)
    have HE := Lib.hid (fun (A C : Option Addr) (c d : Nat) (us qs : List Pp) (h1 : rl us = rl ps) (h2 : rl qs = rl ps) (W : World) (h3 : RdR W W.heap.size A us) (h4 : RdR W W.heap.size C qs) => eqReportS_same A C c d us qs (h2.trans h1.symm) W h3 h4 (HF.out.same h1).1.1 (HF.out.same h1).1.2)
    have HEQ := Lib.hid (fun (A C : Option Addr) (c d : Nat) (us qs : List Pp) (h1 : rl us = RS) (h2 : rl qs = RS) (W : World) (h3 : RdR W W.heap.size A us) (h4 : RdR W W.heap.size C qs) => (show Calls Try.prog 31 #[.slice A RS.length c, .slice C RS.length d] W _ from by
      have e : RS.length = us.length := by rw [← h1, rl_len]
      rw [e]; exact eqReportS_same A C c d us qs (h2.trans h1.symm) W h3 h4 (hRf us h1).1 (hRf us h1).2))
    have HER := Lib.hid (fun (A C : Option Addr) (W : World) (h3 : Rd W W.heap.size A vs) (h4 : Rd W W.heap.size C vs) => eqReport_same f v x A C vs.length vs.length vs W h3 h4 hvl)
    have HFS := Lib.hid (fun (us : List Pp) (h1 : rl us = rl ps) => HF.out.same h1)
    have HTV : Hid (∀ us : List Pp, rl us = rl ps → kR us 1 m ≤ 4194304) := fun us h1 => by
      have := tv_same h1 m
      simp only [kR]; rw [hvm] at hn; omega
    obtain ⟨nv, hnv⟩ : ∃ nv, vs.length = nv := ⟨_, rfl⟩
    rw [hvm, hnv] at H2
    rw [hvm] at H1 HT HFS hn hm hn2 ⊢
    rw [hnv] at HTR HER HSP HIM kR0 hb0 hvl hn2 H1 hr0 ⊢
    have hV0 := hrv.on hb0
    have HV := Lib.hid hvm
    have HNV := Lib.hid hnv
    have HR0 := Lib.hid hr0
    have hV0 := Lib.hid hV0
    clear hfew HF hn hm hv hr hvm hr0 hrv hmr hRS hRf hRk hnv hn2
    go_enter Try.func6, Try.ntmps6
    go_wp2_with fail
    refine H1.out.mono ?_
    rintro e w1 ⟨⟨y, hy0, hy1, hye, rfl⟩, hb1⟩
    obtain ⟨y2, hy20, H2⟩ := H2.out y hye
    have H2 := Lib.hid H2
    clear hye
    have kR1 := Lib.hid (kR0.on hb1)
    have HR1 := Lib.hid (HR0.out.on hb1)
    have hV1 := Lib.hid (hV0.out.on hb1)
    have hBW := Lib.hid (on_ hb0 hb1)
    clear hb1 H1 HR0 hV0 kR0 hb0
    have rR := kR1.out.rule
    go_wp2_with fail
    refine (H2.out w1).mono ?_
    rintro e w2 ⟨rfl, hb2⟩
    have hB2 := Lib.hid hb2
    have Z2 := Lib.hid hb2.size
    clear hb2 H2 rR
    go_wp2_with fail
    have hRX := Lib.hid (fun W (h : Below w2.heap.size w2 W) => ((kR1.out.on hB2.out).on h).rule)
    have hAX := Lib.hid (fun W (h : Below w2.heap.size w2 W) => (HR1.out.on hB2.out).on h)
    have hVX := Lib.hid (fun W (h : Below w2.heap.size w2 W) => (hV1.out.on hB2.out).on h)
    refine wp_region_grow ?_ ?_ (AV n view A c m nv rc f v x RA ps vs RS q) (by kernel_rfl) (by kernel_rfl) (by kernel_rfl) AV.keep ?_ ?_
    rotate_left
    · intro us; simp only [putL]; go_simp; exact rfl
    · refine Each.cons ?_ (Each.cons ?_ (Each.cons ?_ (Each.cons ?_ (Each.cons ?_ (Each.cons ?_ (Each.cons ?_ (Each.cons ?_ (Each.cons ?_ (Each.cons ?_ (Each.cons ?_ (Each.cons ?_ (Each.nil))))))))))))
      · intro us wx hW hD Q K hK
        go_simp
        exact hK _ _ (.int .i64 n) (by go_simp) (Below.refl _ _) (rfl)
      · intro us wx hW hD Q K hK
        go_simp
        exact hK _ _ (.int .i64 view) (by go_simp) (Below.refl _ _) (rfl)
      · intro us wx hW hD Q K hK
        go_simp
        exact hK _ _ (.slice A m c) (by go_simp) (Below.refl _ _) (rfl)
      · intro us wx hW hD Q K hK
        have d2 := hD 2 (by decide)
        have e2 : us 2 = .slice A m c := d2
        go_simp
        go_at_call 29
        refine (HT.out A c wx (hAX.out wx hW)).mono ?_
        rintro e w2 ⟨g, cs, qs, rfl, hz, hk, hq, hb⟩
        exact hK _ _ (.slice (some ⟨g, 0, none⟩) m m) (by go_simp) hb ⟨g, qs, rfl, (HFS.out qs (hq.same HV.out)).2, hq.same HV.out, hq.rd hk⟩
      · intro us wx hW hD Q K hK
        have rR := hRX.out wx hW
        go_simp
        exact hK _ _ (.agg #[.int .i64 f, .int .i64 v, .int .i64 x, .slice RA nv rc]) (by go_simp) (Below.refl _ _) rfl
      · intro us wx hW hD Q K hK
        have d4 := hD 4 (by decide)
        have e4 : us 4 = .agg #[.int .i64 f, .int .i64 v, .int .i64 x, .slice RA nv rc] := d4
        go_simp
        go_at_call 30
        refine (HTR.out wx (hVX.out wx hW)).mono ?_
        rintro e w2 ⟨g, cs, rfl, hz, hk, hp, hb⟩
        exact hK _ _ (.agg #[.int .i64 f, .int .i64 v, .int .i64 x, .slice (some ⟨g, 0, none⟩) nv nv]) (by go_simp) hb ⟨g, rfl, by have h := hp; rw [← HNV.out] at h; exact h.rd hk hk.lt⟩
      · intro us wx hW hD Q K hK
        have d0 := hD 0 (by decide)
        have d1 := hD 1 (by decide)
        have d3 := hD 3 (by decide)
        have d5 := hD 5 (by decide)
        have e0 : us 0 = .int .i64 n := d0
        have e1 : us 1 = .int .i64 view := d1
        obtain ⟨g3, q3, e3, hl3, hr3, hs3⟩ := d3
        obtain ⟨g5, e5, hs5⟩ := d5
        go_simp
        go_at_call 28
        refine (show Calls _ _ #[.int .i64 n, .int .i64 view, .slice (some ⟨g3, 0, none⟩) m m, .agg #[.int .i64 f, .int .i64 v, .int .i64 x, .slice (some ⟨g5, 0, none⟩) nv nv]] _ _ from by rw [← hl3]; exact HSP.out (some ⟨g3, 0, none⟩) q3 wx g5 hr3 (HFS.out q3 hr3).1 hs3 hs5).mono ?_
        rintro e w2 ⟨B, d, us2, rfl, hu, hown, hb⟩
        exact hK _ _ (.tuple #[.slice B us2.length d, .bool q]) (by go_simp) hb ⟨B, d, us2, rfl, hu, hown⟩
      · intro us wx hW hD Q K hK
        have d6 := hD 6 (by decide)
        obtain ⟨B, d, us2, e6, hu, hown⟩ := d6
        go_simp
        exact hK _ _ (.tuple #[.slice B us2.length d, .bool q]) (by go_simp) (Below.refl _ _) ⟨B, d, us2, rfl, hu, hown⟩
      · intro us wx hW hD Q K hK
        have d7 := hD 7 (by decide)
        obtain ⟨B, d, us2, e7, hu, hown⟩ := d7
        go_simp
        exact hK _ _ (.slice B us2.length d) (by go_simp) (Below.refl _ _) ⟨B, d, us2, rfl, hu, hown⟩
      · intro us wx hW hD Q K hK
        have d7 := hD 7 (by decide)
        obtain ⟨B, d, us2, e7, hu, hown⟩ := d7
        go_simp
        exact hK _ _ (.bool q) (by go_simp) (Below.refl _ _) rfl
      · intro us wx hW hD Q K hK
        have d8 := hD 8 (by decide)
        obtain ⟨B, d, us2, e8, hu, hown⟩ := d8
        go_simp
        exact hK _ _ (.slice B us2.length d) (by go_simp) (Below.refl _ _) ⟨B, d, us2, rfl, hu, hown⟩
      · intro us wx hW hD Q K hK
        have d9 := hD 9 (by decide)
        have e9 : us 9 = .bool q := d9
        go_simp
        exact hK _ _ (.bool q) (by go_simp) (Below.refl _ _) rfl
    intro us w3 hall hb3
    obtain ⟨B3, d3, us3, e10, hu3, hr3⟩ := hall 10 (by decide)
    have e11 : us 11 = .bool q := hall 11 (by decide)
    have hu3 := Lib.hid hu3
    have hr3 := Lib.hid hr3
    have hul3 : us3.length = RS.length := by rw [← hu3.out, rl_len]
    clear hall hRX hAX hVX
    simp only [e10, e11]
    clear e10 e11
    generalize us 0 = z0; generalize us 1 = z1; generalize us 2 = z2; generalize us 3 = z3; generalize us 4 = z4; generalize us 5 = z5; generalize us 6 = z6; generalize us 7 = z7; generalize us 8 = z8; generalize us 9 = z9
    clear us
    have hB3 := Lib.hid (on_ hB2.out hb3)
    have Z3 := Lib.hid hb3.size
    clear hb3 hB2
    have hE3 := Lib.hid (Below.refl w3.heap.size w3)
    go_wp2_with fail
    refine (HT.out A c w3 (HR1.out.on hB3.out)).mono ?_
    rintro e w4 ⟨g4, cs4, q4, rfl, hz4, hk4, hq4, hb4⟩
    have he4 := Lib.hid (hq4.same HV.out)
    have hs4 := Lib.hid (hq4.rd hk4)
    have hl4 : q4.length = m := (HFS.out q4 he4.out).2
    have mk4 := Lib.hid (hq4.own0 hk4 hz4 1)
    clear hk4 hq4 hz4
    have hB4 := Lib.hid (on_ hB3.out hb4)
    have hE4 := Lib.hid (on_ hE3.out hb4)
    have Z4 := Lib.hid hb4.size
    clear hb4 hB3 hE3
    have hX4 := Lib.hid (Below.refl w4.heap.size w4)
    have rR := (kR1.out.on hB4.out).rule
    go_wp2_with fail
    refine (HTR.out w4 (hV1.out.on hB4.out)).mono ?_
    rintro e w5 ⟨g5, cs5, rfl, hz5, hk5, hp5, hb5⟩
    have hr5 := Lib.hid (show RdIn w5 w4.heap.size w5.heap.size (some ⟨g5, 0, none⟩) vs from fun h0 => ⟨g5, cs5, rfl, hz5, hk5.lt, hk5, by have h := hp5.2; rw [← HNV.out] at h; exact h⟩)
    have own5 := Lib.hid (OwnVt.of_blk (n := nv) hk5 hz5 (by have := hp5.1; rw [HNV.out] at this; omega) 1)
    clear hz5 hk5 hp5 rR
    have hB5 := Lib.hid (on_ hB4.out hb5)
    have hE5 := Lib.hid (on_ hE4.out hb5)
    have hX5 := Lib.hid (on_ hX4.out hb5)
    have Z5 := Lib.hid hb5.size
    clear hb5 hB4 hE4 hX4
    have kX6 := Lib.hid (Blk.new w5 28 #[.int .i64 f, .int .i64 v, .int .i64 x, .slice (some ⟨g5, 0, none⟩) nv nv])
    have hb6 := Lib.hid (up_ (Below.refl w5.heap.size w5) (.cells #[.int .i64 f, .int .i64 v, .int .i64 x, .slice (some ⟨g5, 0, none⟩) nv nv] 28))
    go_wp2_with fail
    have kX6 := kX6.out
    have hb6 := hb6.out
    generalize w5.alloc (.cells #[.int .i64 f, .int .i64 v, .int .i64 x, .slice (some ⟨g5, 0, none⟩) nv nv] 28) = w6 at *
    have zlt6 := Lib.hid kX6.lt
    have hr6 := Lib.hid (hr5.out.on hb6)
    have own6 := Lib.hid (own5.out.on hb6)
    have kX6 := Lib.hid kX6
    clear hr5 own5
    have hB6 := Lib.hid (on_ hB5.out hb6)
    have hE6 := Lib.hid (on_ hE5.out hb6)
    have hX6 := Lib.hid (on_ hX5.out hb6)
    have Z6 := Lib.hid hb6.size
    clear hb6 hB5 hE5 hX5
    have hY6 := Lib.hid (Mid.refl w3.heap.size w4.heap.size w6)
    refine (show Calls _ _ #[.int .i64 n, .int .i64 view, .slice (some ⟨g4, 0, none⟩) m m, .agg #[.int .i64 f, .int .i64 v, .int .i64 x, .slice (some ⟨g5, 0, none⟩) nv nv]] _ _ from by rw [← hl4]; exact HIM.out (some ⟨g4, 0, none⟩) q4 w6 g5 he4.out (HFS.out q4 he4.out).1 (hs4.out.on hX6.out) hr6.out.rd).mono ?_
    rintro e w7 ⟨B7, d7, us7, rfl, hu7, ⟨gs7, hog7⟩, hb7⟩
    have hu7 := Lib.hid hu7
    have hr7 := Lib.hid hog7.rin
    have own7 := Lib.hid (hog7.own0 1)
    have hul7 : us7.length = RS.length := by rw [← hu7.out, rl_len]
    clear hog7
    have hB7 := Lib.hid (on_ hB6.out hb7)
    have hE7 := Lib.hid (on_ hE6.out hb7)
    have hX7 := Lib.hid (on_ hX6.out hb7)
    have hY7 := Lib.hid (hY6.out.trans (Mid.of_below hb7))
    have Z7 := Lib.hid hb7.size
    clear hb7 hB6 hE6 hX6 hY6
    have hG7 := Lib.hid (Mid.refl w3.heap.size w5.heap.size w7)
    go_wp2_with fail
    refine (HEQ.out B7 B3 d7 d3 us7 us3 hu7.out hu3.out w7 (hr7.out.mid hG7.out (.inr (by have := Z2.out; have := Z3.out; have := Z4.out; have := Z5.out; have := Z6.out; have := Z7.out; omega))).rd (hr3.out.on hE7.out)).mono ?_
    rintro e w8 ⟨rfl, hb8⟩
    have hB8 := Lib.hid (on_ hB7.out hb8)
    have hE8 := Lib.hid (on_ hE7.out hb8)
    have hX8 := Lib.hid (on_ hX7.out hb8)
    have hY8 := Lib.hid (hY7.out.trans (Mid.of_below hb8))
    have hG8 := Lib.hid (hG7.out.trans (Mid.of_below hb8))
    have Z8 := Lib.hid hb8.size
    clear hb8 hB7 hE7 hX7 hY7 hG7
    go_wp2_with fail
    refine (HT.out A c w8 (HR1.out.on hB8.out)).mono ?_
    rintro e w9 ⟨g9, cs9, q9, rfl, hz9, hk9, hq9, hb9⟩
    have he9 := Lib.hid (hq9.same HV.out)
    have hs9 := Lib.hid (hq9.rd hk9)
    have hl9 : q9.length = m := (HFS.out q9 he9.out).2
    clear hk9 hq9 hz9
    have hB9 := Lib.hid (on_ hB8.out hb9)
    have hE9 := Lib.hid (on_ hE8.out hb9)
    have hX9 := Lib.hid (on_ hX8.out hb9)
    have hY9 := Lib.hid (hY8.out.trans (Mid.of_below hb9))
    have hG9 := Lib.hid (hG8.out.trans (Mid.of_below hb9))
    have Z9 := Lib.hid hb9.size
    clear hb9 hB8 hE8 hX8 hY8 hG8
    have hs49 := Lib.hid (hs4.out.on hX9.out)
    go_wp2_with fail
    refine (show Calls _ _ #[.slice (some ⟨g4, 0, none⟩) m m, .slice (some ⟨g9, 0, none⟩) m m] _ _ from by
      have := HE.out (some ⟨g4, 0, none⟩) (some ⟨g9, 0, none⟩) m m q4 q9 he4.out he9.out w9 hs49.out hs9.out
      rwa [hl4] at this).mono ?_
    rintro e w10 ⟨rfl, hb10⟩
    clear hs49 hs9 he9 hl9
    have hB10 := Lib.hid (on_ hB9.out hb10)
    have hE10 := Lib.hid (on_ hE9.out hb10)
    have hX10 := Lib.hid (on_ hX9.out hb10)
    have hY10 := Lib.hid (hY9.out.trans (Mid.of_below hb10))
    have hG10 := Lib.hid (hG9.out.trans (Mid.of_below hb10))
    have Z10 := Lib.hid hb10.size
    clear hb10 hB9 hE9 hX9 hY9 hG9
    go_wp2_with fail
    have hRX := Lib.hid (fun W (h : Below w10.heap.size w10 W) => ((kR1.out.on hB10.out).on h).rule)
    have hXX := Lib.hid (fun W (h : Below w10.heap.size w10 W) => ((hY10.out.blk kX6.out (.inr (by have := Z2.out; have := Z3.out; have := Z4.out; have := Z5.out; have := Z6.out; have := Z7.out; have := Z8.out; have := Z9.out; have := Z10.out; omega))).on h).rule)
    have hVX := Lib.hid (fun W (h : Below w10.heap.size w10 W) => (hV1.out.on hB10.out).on h)
    have hUX := Lib.hid (fun W (h : Below w10.heap.size w10 W) => ((hr6.out.mid hY10.out (.inr (Nat.le_refl _))).on h).rd)
    refine wp_region_grow ?_ ?_ (EV nv rc f v x RA g5 vs) (by kernel_rfl) (by kernel_rfl) (by kernel_rfl) EV.keep ?_ ?_
    rotate_left
    · intro us; simp only [putL]; go_simp; exact rfl
    · refine Each.cons ?_ (Each.cons ?_ (Each.cons ?_ (Each.cons ?_ (Each.cons ?_ (Each.nil)))))
      · intro us wx hW hD Q K hK
        have rX := hXX.out wx hW
        go_simp
        exact hK _ _ (.agg #[.int .i64 f, .int .i64 v, .int .i64 x, .slice (some ⟨g5, 0, none⟩) nv nv]) (by go_simp) (Below.refl _ _) rfl
      · intro us wx hW hD Q K hK
        have rR := hRX.out wx hW
        go_simp
        exact hK _ _ (.agg #[.int .i64 f, .int .i64 v, .int .i64 x, .slice RA nv rc]) (by go_simp) (Below.refl _ _) rfl
      · intro us wx hW hD Q K hK
        have d1 := hD 1 (by decide)
        have e1 : us 1 = .agg #[.int .i64 f, .int .i64 v, .int .i64 x, .slice RA nv rc] := d1
        go_simp
        go_at_call 30
        refine (HTR.out wx (hVX.out wx hW)).mono ?_
        rintro e w2 ⟨g, cs, rfl, hz, hk, hp, hb⟩
        exact hK _ _ (.agg #[.int .i64 f, .int .i64 v, .int .i64 x, .slice (some ⟨g, 0, none⟩) nv nv]) (by go_simp) hb ⟨g, rfl, by have h := hp; rw [← HNV.out] at h; exact h.rd hk hk.lt⟩
      · intro us wx hW hD Q K hK
        have d0 := hD 0 (by decide)
        have d2 := hD 2 (by decide)
        have e0 : us 0 = .agg #[.int .i64 f, .int .i64 v, .int .i64 x, .slice (some ⟨g5, 0, none⟩) nv nv] := d0
        obtain ⟨g2, e2, hs2⟩ := d2
        go_simp
        go_at_call 32
        refine (HER.out (some ⟨g5, 0, none⟩) (some ⟨g2, 0, none⟩) wx (hUX.out wx hW) hs2).mono ?_
        rintro e w2 ⟨rfl, hb⟩
        exact hK _ _ (.bool true) (by go_simp) hb rfl
      · intro us wx hW hD Q K hK
        have d3 := hD 3 (by decide)
        have e3 : us 3 = .bool true := d3
        go_simp
        exact hK _ _ (.bool false) (by go_simp) (Below.refl _ _) rfl
    intro us w11 hall hb11
    have e4 : us 4 = .bool false := hall 4 (by decide)
    clear hall hRX hXX hVX hUX
    simp only [e4]
    clear e4
    generalize us 0 = z0'; generalize us 1 = z1'; generalize us 2 = z2'; generalize us 3 = z3'
    clear us
    have hB11 := Lib.hid (on_ hB10.out hb11)
    have hE11 := Lib.hid (on_ hE10.out hb11)
    have hX11 := Lib.hid (on_ hX10.out hb11)
    have hY11 := Lib.hid (hY10.out.trans (Mid.of_below hb11))
    have hG11 := Lib.hid (hG10.out.trans (Mid.of_below hb11))
    have Z11 := Lib.hid hb11.size
    clear hb11 hB10 hE10 hX10 hY10 hG10
    have mk11 := Lib.hid (mk4.out.on hX11.out)
    have HMK : Hid (Calls Try.prog 33 #[.slice (some ⟨g4, 0, none⟩) m m, .int .i64 1] w11 fun e w' => e = .returned (.int .i64 (kR q4 1 m)) ∧ Mid w3.heap.size w4.heap.size w11 w') := by
      have := Own0.mark m mk11.out (HFS.out q4 he4.out).1 (by omega) (by rw [hl4]; have := HTV.out q4 he4.out; omega)
      rw [hl4] at this
      exact this.mono fun e w' h => ⟨h.1, h.2.2⟩
    have hky2 := HTV.out q4 he4.out
    obtain ⟨ky, hky⟩ : ∃ ky, kR q4 1 m = ky := ⟨_, rfl⟩
    have hk0 : 1 ≤ ky := by rw [← hky]; exact kR_ge q4 1 m
    rw [hky] at HMK hky2
    clear mk11 mk4 hky
    go_wp2_with fail
    refine HMK.out.mono ?_
    rintro e w12 ⟨rfl, hm12⟩
    clear HMK
    have hB12 := Lib.hid (hB11.out.trans (hm12.low (by have := Z2.out; have := Z3.out; have := Z4.out; have := Z5.out; have := Z6.out; have := Z7.out; have := Z8.out; have := Z9.out; have := Z10.out; have := Z11.out; omega) (by have := Z2.out; have := Z3.out; have := Z4.out; have := Z5.out; have := Z6.out; have := Z7.out; have := Z8.out; have := Z9.out; have := Z10.out; have := Z11.out; omega)))
    have hE12 := Lib.hid (hE11.out.trans (hm12.low (by have := Z2.out; have := Z3.out; have := Z4.out; have := Z5.out; have := Z6.out; have := Z7.out; have := Z8.out; have := Z9.out; have := Z10.out; have := Z11.out; omega) (by have := Z2.out; have := Z3.out; have := Z4.out; have := Z5.out; have := Z6.out; have := Z7.out; have := Z8.out; have := Z9.out; have := Z10.out; have := Z11.out; omega)))
    have hY12 := Lib.hid (hY11.out.trans (hm12.wide (by have := Z2.out; have := Z3.out; have := Z4.out; have := Z5.out; have := Z6.out; have := Z7.out; have := Z8.out; have := Z9.out; have := Z10.out; have := Z11.out; omega) (by have := Z2.out; have := Z3.out; have := Z4.out; have := Z5.out; have := Z6.out; have := Z7.out; have := Z8.out; have := Z9.out; have := Z10.out; have := Z11.out; omega)))
    have hG12 := Lib.hid (hG11.out.trans (hm12.wide (by have := Z2.out; have := Z3.out; have := Z4.out; have := Z5.out; have := Z6.out; have := Z7.out; have := Z8.out; have := Z9.out; have := Z10.out; have := Z11.out; omega) (by have := Z2.out; have := Z3.out; have := Z4.out; have := Z5.out; have := Z6.out; have := Z7.out; have := Z8.out; have := Z9.out; have := Z10.out; have := Z11.out; omega)))
    have Z12 := Lib.hid hm12.size
    clear hm12 hB11 hE11 hX11 hY11 hG11
    have rX := (hY12.out.blk kX6.out (.inr (by have := Z2.out; have := Z3.out; have := Z4.out; have := Z5.out; have := Z6.out; have := Z7.out; have := Z8.out; have := Z9.out; have := Z10.out; have := Z11.out; have := Z12.out; omega))).rule
    have HMX : Hid (Calls Try.prog 34 #[.agg #[.int .i64 f, .int .i64 v, .int .i64 x, .slice (some ⟨g5, 0, none⟩) nv nv], .int .i64 ky] w12 fun e w' => e = .returned (.int .i64 (ky + 2 * (nv : Int))) ∧ OwnVt w' w4.heap.size w5.heap.size (some ⟨g5, 0, none⟩) nv ky true ∧ Mid w4.heap.size w5.heap.size w12 w') :=
      OwnVt.mark f v x ky nv (own6.out.mid hY12.out (.inr (Nat.le_refl _))) (by have := Z2.out; have := Z3.out; have := Z4.out; have := Z5.out; have := Z6.out; have := Z7.out; have := Z8.out; have := Z9.out; have := Z10.out; have := Z11.out; have := Z12.out; omega) hvl (by omega) (by omega)
    go_wp2_with fail
    refine HMX.out.mono ?_
    rintro e w13 ⟨rfl, -, hm13⟩
    clear HMX rX
    have hnk : decide (ky + 2 * (nv : Int) < 0) = false := decide_eq_false (by omega)
    have hB13 := Lib.hid (hB12.out.trans (hm13.low (by have := Z2.out; have := Z3.out; have := Z4.out; have := Z5.out; have := Z6.out; have := Z7.out; have := Z8.out; have := Z9.out; have := Z10.out; have := Z11.out; have := Z12.out; omega) (by have := Z2.out; have := Z3.out; have := Z4.out; have := Z5.out; have := Z6.out; have := Z7.out; have := Z8.out; have := Z9.out; have := Z10.out; have := Z11.out; have := Z12.out; omega)))
    have hE13 := Lib.hid (hE12.out.trans (hm13.low (by have := Z2.out; have := Z3.out; have := Z4.out; have := Z5.out; have := Z6.out; have := Z7.out; have := Z8.out; have := Z9.out; have := Z10.out; have := Z11.out; have := Z12.out; omega) (by have := Z2.out; have := Z3.out; have := Z4.out; have := Z5.out; have := Z6.out; have := Z7.out; have := Z8.out; have := Z9.out; have := Z10.out; have := Z11.out; have := Z12.out; omega)))
    have hG13 := Lib.hid (hG12.out.trans (hm13.wide (by have := Z2.out; have := Z3.out; have := Z4.out; have := Z5.out; have := Z6.out; have := Z7.out; have := Z8.out; have := Z9.out; have := Z10.out; have := Z11.out; have := Z12.out; omega) (by have := Z2.out; have := Z3.out; have := Z4.out; have := Z5.out; have := Z6.out; have := Z7.out; have := Z8.out; have := Z9.out; have := Z10.out; have := Z11.out; have := Z12.out; omega)))
    have Z13 := Lib.hid hm13.size
    clear hm13 hB12 hE12 hY12 hG12
    go_wp2_with fail
    refine (HEQ.out B7 B3 d7 d3 us7 us3 hu7.out hu3.out w13 (hr7.out.mid hG13.out (.inr (by have := Z2.out; have := Z3.out; have := Z4.out; have := Z5.out; have := Z6.out; have := Z7.out; have := Z8.out; have := Z9.out; have := Z10.out; have := Z11.out; have := Z12.out; have := Z13.out; omega))).rd (hr3.out.on hE13.out)).mono ?_
    rintro e w14 ⟨rfl, hb14⟩
    have hB14 := Lib.hid (on_ hB13.out hb14)
    have hE14 := Lib.hid (on_ hE13.out hb14)
    have hG14 := Lib.hid (hG13.out.trans (Mid.of_below hb14))
    have Z14 := Lib.hid hb14.size
    clear hb14 hB13 hE13 hG13
    have HMG : Hid (Calls Try.prog 33 #[.slice B7 RS.length d7, .int .i64 1] w14 fun e w' => e = .returned (.int .i64 (kR us7 1 RS.length)) ∧ Own0 w' w6.heap.size w7.heap.size B7 us7 1 us7.length ∧ Mid w6.heap.size w7.heap.size w14 w') := by
      have := Own0.mark d7 (own7.out.mid hG14.out (.inr (by have := Z2.out; have := Z3.out; have := Z4.out; have := Z5.out; have := Z6.out; have := Z7.out; have := Z8.out; have := Z9.out; have := Z10.out; have := Z11.out; have := Z12.out; have := Z13.out; have := Z14.out; omega))) (HRF.out us7 hu7.out) (by omega) (HRK.out us7 hu7.out)
      rwa [hul7] at this ⊢
    have hkk : kR us7 1 RS.length ≤ 16777216 := by have := HRK.out us7 hu7.out; rwa [hul7] at this
    obtain ⟨kz, hkz⟩ : ∃ kz, kR us7 1 RS.length = kz := ⟨_, rfl⟩
    have hkz0 : 1 ≤ kz := by rw [← hkz]; exact kR_ge us7 1 RS.length
    have HKZ := Lib.hid hkz
    rw [hkz] at HMG hkk
    have hnz : (kz != kz) = false := by simp
    clear hkz
    go_wp2_with fail
    refine HMG.out.mono ?_
    rintro e w15 ⟨rfl, own15, hm15⟩
    have own15 := Lib.hid own15
    clear HMG
    have hB15 := Lib.hid (hB14.out.trans (hm15.low (by have := Z2.out; have := Z3.out; have := Z4.out; have := Z5.out; have := Z6.out; have := Z7.out; have := Z8.out; have := Z9.out; have := Z10.out; have := Z11.out; have := Z12.out; have := Z13.out; have := Z14.out; omega) (by have := Z2.out; have := Z3.out; have := Z4.out; have := Z5.out; have := Z6.out; have := Z7.out; have := Z8.out; have := Z9.out; have := Z10.out; have := Z11.out; have := Z12.out; have := Z13.out; have := Z14.out; omega)))
    have hE15 := Lib.hid (hE14.out.trans (hm15.low (by have := Z2.out; have := Z3.out; have := Z4.out; have := Z5.out; have := Z6.out; have := Z7.out; have := Z8.out; have := Z9.out; have := Z10.out; have := Z11.out; have := Z12.out; have := Z13.out; have := Z14.out; omega) (by have := Z2.out; have := Z3.out; have := Z4.out; have := Z5.out; have := Z6.out; have := Z7.out; have := Z8.out; have := Z9.out; have := Z10.out; have := Z11.out; have := Z12.out; have := Z13.out; have := Z14.out; omega)))
    have Z15 := Lib.hid hm15.size
    clear hm15 hB14 hE14 hG14
    have hK15 := Lib.hid (Below.refl w15.heap.size w15)
    have HH : Hid (Calls Try.prog 35 #[.slice B7 RS.length d7, .int .i64 1] w15 fun e w' => e = .returned (.int .i64 kz) ∧ w15 = w') := by
      have := Own0.held d7 (own15.out.on hK15.out) (HRF.out us7 hu7.out) (by omega) (HRK.out us7 hu7.out)
      rwa [hul7, HKZ.out] at this
    go_wp2_with fail
    refine HH.out.mono ?_
    rintro e w' ⟨rfl, rfl⟩
    clear HH
    go_wp2_with fail
    have hRX := Lib.hid (fun W (h : Below w15.heap.size w15 W) => ((kR1.out.on hB15.out).on h).rule)
    have hAX := Lib.hid (fun W (h : Below w15.heap.size w15 W) => (HR1.out.on hB15.out).on h)
    have hVX := Lib.hid (fun W (h : Below w15.heap.size w15 W) => (hV1.out.on hB15.out).on h)
    refine wp_region_grow ?_ ?_ (AV n view A c m nv rc f v x RA ps vs RS q) (by kernel_rfl) (by kernel_rfl) (by kernel_rfl) AV.keep ?_ ?_
    rotate_left
    · intro us; simp only [putL]; go_simp; exact rfl
    · refine Each.cons ?_ (Each.cons ?_ (Each.cons ?_ (Each.cons ?_ (Each.cons ?_ (Each.cons ?_ (Each.cons ?_ (Each.cons ?_ (Each.cons ?_ (Each.cons ?_ (Each.cons ?_ (Each.cons ?_ (Each.nil))))))))))))
      · intro us wx hW hD Q K hK
        go_simp
        exact hK _ _ (.int .i64 n) (by go_simp) (Below.refl _ _) (rfl)
      · intro us wx hW hD Q K hK
        go_simp
        exact hK _ _ (.int .i64 view) (by go_simp) (Below.refl _ _) (rfl)
      · intro us wx hW hD Q K hK
        go_simp
        exact hK _ _ (.slice A m c) (by go_simp) (Below.refl _ _) (rfl)
      · intro us wx hW hD Q K hK
        have d2 := hD 2 (by decide)
        have e2 : us 2 = .slice A m c := d2
        go_simp
        go_at_call 29
        refine (HT.out A c wx (hAX.out wx hW)).mono ?_
        rintro e w2 ⟨g, cs, qs, rfl, hz, hk, hq, hb⟩
        exact hK _ _ (.slice (some ⟨g, 0, none⟩) m m) (by go_simp) hb ⟨g, qs, rfl, (HFS.out qs (hq.same HV.out)).2, hq.same HV.out, hq.rd hk⟩
      · intro us wx hW hD Q K hK
        have rR := hRX.out wx hW
        go_simp
        exact hK _ _ (.agg #[.int .i64 f, .int .i64 v, .int .i64 x, .slice RA nv rc]) (by go_simp) (Below.refl _ _) rfl
      · intro us wx hW hD Q K hK
        have d4 := hD 4 (by decide)
        have e4 : us 4 = .agg #[.int .i64 f, .int .i64 v, .int .i64 x, .slice RA nv rc] := d4
        go_simp
        go_at_call 30
        refine (HTR.out wx (hVX.out wx hW)).mono ?_
        rintro e w2 ⟨g, cs, rfl, hz, hk, hp, hb⟩
        exact hK _ _ (.agg #[.int .i64 f, .int .i64 v, .int .i64 x, .slice (some ⟨g, 0, none⟩) nv nv]) (by go_simp) hb ⟨g, rfl, by have h := hp; rw [← HNV.out] at h; exact h.rd hk hk.lt⟩
      · intro us wx hW hD Q K hK
        have d0 := hD 0 (by decide)
        have d1 := hD 1 (by decide)
        have d3 := hD 3 (by decide)
        have d5 := hD 5 (by decide)
        have e0 : us 0 = .int .i64 n := d0
        have e1 : us 1 = .int .i64 view := d1
        obtain ⟨g3, q3, e3, hl3, hr3, hs3⟩ := d3
        obtain ⟨g5, e5, hs5⟩ := d5
        go_simp
        go_at_call 9
        refine (show Calls _ _ #[.int .i64 n, .int .i64 view, .slice (some ⟨g3, 0, none⟩) m m, .agg #[.int .i64 f, .int .i64 v, .int .i64 x, .slice (some ⟨g5, 0, none⟩) nv nv]] _ _ from by rw [← hl3]; exact HIM.out (some ⟨g3, 0, none⟩) q3 wx g5 hr3 (HFS.out q3 hr3).1 hs3 hs5).mono ?_
        rintro e w2 ⟨B, d, us2, rfl, hu, hown, hb⟩
        exact hK _ _ (.tuple #[.slice B us2.length d, .bool q]) (by go_simp) hb ⟨B, d, us2, rfl, hu, hown.choose_spec.rd⟩
      · intro us wx hW hD Q K hK
        have d6 := hD 6 (by decide)
        obtain ⟨B, d, us2, e6, hu, hown⟩ := d6
        go_simp
        exact hK _ _ (.tuple #[.slice B us2.length d, .bool q]) (by go_simp) (Below.refl _ _) ⟨B, d, us2, rfl, hu, hown⟩
      · intro us wx hW hD Q K hK
        have d7 := hD 7 (by decide)
        obtain ⟨B, d, us2, e7, hu, hown⟩ := d7
        go_simp
        exact hK _ _ (.slice B us2.length d) (by go_simp) (Below.refl _ _) ⟨B, d, us2, rfl, hu, hown⟩
      · intro us wx hW hD Q K hK
        have d7 := hD 7 (by decide)
        obtain ⟨B, d, us2, e7, hu, hown⟩ := d7
        go_simp
        exact hK _ _ (.bool q) (by go_simp) (Below.refl _ _) rfl
      · intro us wx hW hD Q K hK
        have d8 := hD 8 (by decide)
        obtain ⟨B, d, us2, e8, hu, hown⟩ := d8
        go_simp
        exact hK _ _ (.slice B us2.length d) (by go_simp) (Below.refl _ _) ⟨B, d, us2, rfl, hu, hown⟩
      · intro us wx hW hD Q K hK
        have d9 := hD 9 (by decide)
        have e9 : us 9 = .bool q := d9
        go_simp
        exact hK _ _ (.bool q) (by go_simp) (Below.refl _ _) rfl
    intro us w16 hall hb16
    obtain ⟨B16, d16, us16, e10, hu16, hr16⟩ := hall 10 (by decide)
    have e11 : us 11 = .bool q := hall 11 (by decide)
    have hu16 := Lib.hid hu16
    have hr16 := Lib.hid hr16
    have hul16 : us16.length = RS.length := by rw [← hu16.out, rl_len]
    clear hall hRX hAX hVX
    simp only [e10, e11]
    clear e10 e11
    generalize us 0 = z0; generalize us 1 = z1; generalize us 2 = z2; generalize us 3 = z3; generalize us 4 = z4; generalize us 5 = z5; generalize us 6 = z6; generalize us 7 = z7; generalize us 8 = z8; generalize us 9 = z9
    clear us
    have hB16 := Lib.hid (on_ hB15.out hb16)
    have hE16 := Lib.hid (on_ hE15.out hb16)
    have hK16 := Lib.hid (on_ hK15.out hb16)
    have Z16 := Lib.hid hb16.size
    clear hb16 hB15 hE15 hK15
    go_wp2_with fail
    refine (HEQ.out B16 B3 d16 d3 us16 us3 hu16.out hu3.out w16 hr16.out (hr3.out.on hE16.out)).mono ?_
    rintro e w17 ⟨rfl, hb17⟩
    have hB17 := Lib.hid (on_ hB16.out hb17)
    have hE17 := Lib.hid (on_ hE16.out hb17)
    have hK17 := Lib.hid (on_ hK16.out hb17)
    have Z17 := Lib.hid hb17.size
    clear hb17 hB16 hE16 hK16
    have HH : Hid (Calls Try.prog 35 #[.slice B7 RS.length d7, .int .i64 1] w17 fun e w' => e = .returned (.int .i64 kz) ∧ w17 = w') := by
      have := Own0.held d7 (own15.out.on hK17.out) (HRF.out us7 hu7.out) (by omega) (HRK.out us7 hu7.out)
      rwa [hul7, HKZ.out] at this
    go_wp2_with fail
    refine HH.out.mono ?_
    rintro e w' ⟨rfl, rfl⟩
    clear HH
    go_wp2
    go_ret
    exact ⟨rfl, hBW.out.trans (hB17.out.mono (by have := hBW.out.size; omega))⟩
theorem tv_sum : ∀ (us : List Pp) (k : Nat), k ≤ us.length → tv us k = (((rl us).take k).map fun r => r.vs.length).sum
  | us, 0, _ => by simp [tv]
  | us, k + 1, h => by
    rw [take_getD (rl us) zR k (by rw [rl_len]; omega), List.map_append, List.sum_append, ← tv_sum us k (by omega), rl_at]
    simp [tv]
theorem add_bd (n view : Int) (ps : List Pp) (r : Rp) (h : ps.length + tv ps ps.length ≤ 1048576) (hv : r.vs.length ≤ 1048576) :
    (addT n view (rl ps) r).1.length ≤ 8 ∧ ((addT n view (rl ps) r).1.map fun r => r.vs.length).sum ≤ 2097152 ∧ ∀ y ∈ (addT n view (rl ps) r).1, y.vs.length ≤ 1048576 := by
  have hs : ((rl ps).map fun r => r.vs.length).sum ≤ 1048576 := by
    have := tv_sum ps ps.length (Nat.le_refl _)
    rw [List.take_of_length_le (by rw [rl_len]; exact Nat.le_refl _)] at this
    omega
  have he : ∀ y ∈ rl ps, y.vs.length ≤ 1048576 := fun y hy => by
    obtain ⟨i, hi, rfl⟩ := mem_getDR hy
    rw [rl_at]
    rw [rl_len] at hi
    have := tv_one ps hi
    omega
  unfold addT
  split
  · rename_i hq
    simp only [Bool.and_eq_true] at hq
    have hall : allR n view (rl ps) = true := by have h := hq.1; unfold repsOkB at h; simp only [Bool.and_eq_true] at h; exact h.1
    have hn7 : n ≤ 7 := by rcases size_two (reps_size hq.1).1 with rfl | rfl <;> omega
    have hb7 : ∀ p ∈ ps, 0 ≤ p.r.f ∧ p.r.f < 7 := fun p hp => by
      obtain ⟨i, hi, rfl⟩ := mem_getD hp
      have := in_at hall i (by rw [rl_len]; exact hi)
      rw [rl_at] at this
      omega
    have hl7 : (rl ps).length ≤ 7 := by
      have h1 := lst_all (asc_of hall) hb7
      have h2 := lstS_le (sl ps) 7
      rw [h1] at h2
      rw [rl_len]; exact h2
    split
    · exact ⟨by show (rl ps).length ≤ 8; omega, by show ((rl ps).map fun r => r.vs.length).sum ≤ 2097152; omega, he⟩
    · generalize placeX (rl ps) r.f = k
      refine ⟨?_, ?_, fun y hy => ?_⟩
      · simp [insX]; omega
      · have h3 : (((rl ps).take k).map fun r => r.vs.length).sum + (((rl ps).drop k).map fun r => r.vs.length).sum = ((rl ps).map fun r => r.vs.length).sum := by
          rw [← List.sum_append, ← List.map_append, List.take_append_drop]
        simp only [insX, List.map_append, List.map_cons, List.sum_append, List.sum_cons]
        omega
      · simp only [insX, List.mem_append, List.mem_cons] at hy
        rcases hy with hy | rfl | hy
        · exact he y (List.mem_of_mem_take hy)
        · exact hv
        · exact he y (List.mem_of_mem_drop hy)
  · simp
theorem walk (n view : Int) (A : Option Addr) (c : Nat) (ps : List Pp) (f v x : Int) (RA : Option Addr) (rc : Nat) (vs : List (Int × Int)) (w : World) (hm : ps.length ≤ maxLen) (hv : ∀ i, i < ps.length → (ps.getD i zP).r.vs.length ≤ maxLen) (hr : RdR w w.heap.size A ps) (hmr : vs.length ≤ maxLen) (hrv : Rd w w.heap.size RA vs) :
    Calls Try.prog 6 #[.int .i64 n, .int .i64 view, .slice A ps.length c, .agg #[.int .i64 f, .int .i64 v, .int .i64 x, .slice RA vs.length rc]] w fun e w' => e = .returned (.bool true) ∧ Below w.heap.size w w' :=
  walk0 n view A c ps f v x RA rc vs (addT n view (rl ps) ⟨f, v, x, vs⟩).1 (addT n view (rl ps) ⟨f, v, x, vs⟩).2 w hm hv hr hmr hrv
    (fun h h2 => by
      obtain ⟨b1, b2, b3⟩ := add_bd n view ps ⟨f, v, x, vs⟩ h h2
      refine ⟨by omega, fun us e => ⟨by rw [← rl_len, e]; omega, fun i hi => ?_⟩, fun us e => ?_⟩
      · rw [← rl_at, e]
        have : (addT n view (rl ps) ⟨f, v, x, vs⟩).1.getD i zR ∈ (addT n view (rl ps) ⟨f, v, x, vs⟩).1 := by
          rw [List.getD_eq_getElem?_getD, List.getElem?_eq_getElem (by rw [← e, rl_len]; exact hi)]
          exact List.getElem_mem _
        exact b3 _ this
      · have h3 := tv_sum us us.length (Nat.le_refl _)
        rw [List.take_of_length_le (by rw [rl_len]; exact Nat.le_refl _), e] at h3
        have h4 : us.length ≤ 8 := by rw [← rl_len, e]; exact b1
        simp only [kR]; omega)
    (fun _ h2 A qs W g e hf h3 h4 => (specAdd_any n view A qs.length qs _ e f v x _ _ vs W h3 hf (Nat.le_refl _) h4 h2).mono fun _ _ h => by obtain ⟨B, d, us, a1, a2, a3, a4⟩ := h; exact ⟨B, d, us, a1, a2, a3, a4⟩)
    (fun _ h2 A qs W g e hf h3 h4 => (implAdd_any n view A qs.length qs _ e f v x _ _ vs W h3 hf h4 h2).mono fun _ _ h => by obtain ⟨B, d, us, gs, a1, a2, _, a4⟩ := h; exact ⟨B, d, us, a1, a2.1, ⟨gs, a2⟩, a4⟩)

theorem closed : joinedFacts Try.prog 6 Try.f6 Rows.fnExactAddReportSpec Rows.fnExactAddReportRow = true := by
  unfold joinedFacts
  rw [D.make_is, D.enter_is, D.final_is]
  kernel_rfl

set_option maxRecDepth 100000 in
theorem lifted (os : Os) (started : os.Started) (H : Type) (enc : TypeId × Value → H) :
    ReturnsInHanded {} Try.checked os 6 .any (Rows.fnExactAddReportSpec.pre6 enc Try.prog Try.f6 Rows.fnExactAddReportRow.domain false) (Rows.fnExactAddReportSpec.post enc Try.prog Try.f6 false true false false) := by
  refine returnsInHanded_of_change (C := Try.checked) D.own started (by kernel_rfl) Try.func6
    (ChangeSpec.witness6 (enc := enc) (C := Try.checked) false ⟨#[], #[.int .i64 0, .int .i64 0, .slice none 0 0, .agg #[.int .i64 0, .int .i64 0, .int .i64 0, .slice none 0 0]], []⟩ 8 (by kernel_rfl) (by kernel_rfl) (by kernel_rfl) (by kernel_rfl)) ?_
  intro W base args ds gs before hval0 hW hcnd _
  have hval : ∀ (j : Nat) t v, Try.f6.params[j]? = some t → args[j]? = some v → Value.okWide Try.prog W .any base t v := hval0
  have hW' := hW
  obtain ⟨p, q, hA0, hV, rfl, hfz, hnd⟩ := hW
  have hA : DataW.TrodAll enc Try.prog W 0 (fun _ => true) true Try.f6.params.toList args.toList ds p := hA0
  rw [Try.params6] at hA hval
  obtain ⟨v0, v1, v2, v3, d0, d1, d2, d3, p0, p1, p2, p3, rfl, rfl, rfl, h0, h1, h2, h3⟩ := trodAll_four hA
  obtain ⟨n, rfl, rfl, rfl, wn⟩ := open_int Try.underlying3 (hval 0 3 v0 rfl rfl) h0
  obtain ⟨view, rfl, rfl, rfl, wview⟩ := open_int Try.underlying3 (hval 1 3 v1 rfl rfl) h1
  obtain ⟨a2, len2, cap2, rfl⟩ := okWide_slice Try.underlying52 (hval 2 52 v2 rfl rfl)
  obtain ⟨fuel2, hf2⟩ := h2
  obtain ⟨Aps, cps, ps, hcs2, hmps, hvps, hrps⟩ := open_reports hf2
  have hv2 : (Value.slice a2 len2 cap2) = .slice Aps ps.length cps := by simpa [Value.cells] using hcs2
  rw [hv2] at hW' ⊢
  obtain ⟨cs3, rfl, hsz3⟩ := okWide_struct Try.underlying56 (hval 3 56 v3 rfl rfl)
  obtain ⟨fuel3, hf3⟩ := h3
  obtain ⟨fr, vr, xr, Ar, cr, sr, hcs3, hmr, hrr⟩ := open_report hf3
  obtain rfl : cs3 = #[.int .i64 fr, .int .i64 vr, .int .i64 xr, .slice Ar sr.length cr] := by
    obtain ⟨l⟩ := cs3
    simpa [Value.cells] using hcs3
  refine (walk n view Aps cps ps fr vr xr Ar cr sr W hmps hvps hrps hmr hrr).mono fun e W' ⟨he, hb⟩ => ⟨_, he, law_post D.laidOut hW' hb rfl (by kernel_rfl) Try.underlying4 (by kernel_rfl) rfl⟩

theorem over : Rows.fnExactAddReportRow.holds Try.pinned (OpenSpec.ofChange Rows.fnExactAddReportSpec) :=
  OpenClaim.holds_of_wide 6 Try.f6 rfl rfl rfl rfl rfl rfl rfl ⟨rfl, rfl, rfl, rfl, rfl⟩ rfl rfl rfl rfl rfl (by kernel_rfl) Try.func6 closed
    (of_decide_eq_true (by kernel_rfl)) (by unfold Func.isWrapper; first | (rw [if_pos (by decide +kernel)]; kernel_rfl) | (rw [if_neg (by decide +kernel)]; exact ⟨rfl, rfl⟩))
    (fun os started H enc _ => lifted os started H enc)

theorem proved : Rows.FnExactAddReportSaid :=
  over
end Go.Proofs.Ytcfjmhebhhekbaa.fnExactAddReport
