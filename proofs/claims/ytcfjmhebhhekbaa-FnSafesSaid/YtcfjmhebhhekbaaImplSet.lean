/-
  The set of reports that the program keeps, in memory, and its counts: contracts. No statement is proved here.
-/
import Derived.Test.YtcfjmhebhhekbaaImplClo
set_option linter.unusedVariables false
set_option maxRecDepth 100000
namespace Go.Proofs.Ytcfjmhebhhekbaa.V
open Go.RowKit Go.Proofs.Ytcfjmhebhhekbaa.B

def bndL (r : Rp) : Bool := !(decide (r.v = 0) && decide (r.x = 0))
def unbL (r : Rp) : Bool := !(bndL r)
def supQ (u val : Int) (r : Rp) : Bool := !(bndL r) || decide (r.x = val) || decide (r.v < u)

theorem bound_is (q : Bool) (f v x : Int) (A : Option Addr) (c : Nat) (vs : List (Int × Int)) (hq : bndL ⟨f, v, x, vs⟩ = q) (w : World) :
    Calls Try.prog 84 #[.agg #[.int .i64 f, .int .i64 v, .int .i64 x, .slice A vs.length c]] w fun e w' => e = .returned (.bool q) ∧ Below w.heap.size w w' := by
  subst hq
  unfold bndL
  simp only
  generalize vs.length = l
  by_cases h1 : v = 0
  · subst h1
    by_cases h2 : x = 0
    · subst h2
      go_enter Try.func84, Try.ntmps84
      go_wp2
      go_ret
      exact ⟨rfl, (Below.refl _ _).alloc (Nat.le_refl _) _⟩
    · have H2 := Lib.hid h2
      go_enter Try.func84, Try.ntmps84
      go_wp2
      go_ret
      exact ⟨ret_bool (by simp [H2.out]), (Below.refl _ _).alloc (Nat.le_refl _) _⟩
  · have H1 := Lib.hid h1
    go_enter Try.func84, Try.ntmps84
    go_wp2
    go_ret
    exact ⟨ret_bool (by simp [H1.out]), (Below.refl _ _).alloc (Nat.le_refl _) _⟩

theorem clo_unb (f v x : Int) (A : Option Addr) (c : Nat) (vs : List (Int × Int)) (w : World) :
    Calls Try.prog 88 #[.agg #[.int .i64 f, .int .i64 v, .int .i64 x, .slice A vs.length c]] w fun e w' => e = .returned (.bool (unbL ⟨f, v, x, vs⟩)) ∧ Below w.heap.size w w' := by
  obtain ⟨q, hq⟩ : ∃ q, bndL ⟨f, v, x, vs⟩ = q := ⟨_, rfl⟩
  unfold unbL
  rw [hq]
  have HB := Lib.hid (fun W => bound_is q f v x A c vs hq W)
  clear hq
  generalize vs.length = l at *
  go_enter Try.func88, Try.ntmps88
  go_wp2_with fail
  refine (HB.out _).mono ?_
  rintro e w1 ⟨rfl, hb1⟩
  go_wp2
  go_ret
  exact ⟨rfl, on_ (up_ (Below.refl _ _) _) hb1⟩

set_option maxHeartbeats 800000 in
theorem clo_sup (val u f v x : Int) (pv pf : Nat) (A : Option Addr) (c : Nat) (vs : List (Int × Int)) (w : World) (hc : Caps w pv pf val u) :
    Calls Try.prog 83 #[.agg #[.int .i64 f, .int .i64 v, .int .i64 x, .slice A vs.length c], .pointer (some ⟨pv, 0, none⟩), .pointer (some ⟨pf, 0, none⟩)] w fun e w' => e = .returned (.bool (supQ u val ⟨f, v, x, vs⟩)) ∧ Below w.heap.size w w' := by
  obtain ⟨q, hq⟩ : ∃ q, bndL ⟨f, v, x, vs⟩ = q := ⟨_, rfl⟩
  have HZ : Hid (supQ u val ⟨f, v, x, vs⟩ = (!q || decide (x = val) || decide (v < u))) := by show _ = _; unfold supQ; rw [hq]
  rw [HZ.out]
  clear HZ
  have HB := Lib.hid (fun W => bound_is q f v x A c vs hq W)
  clear hq
  have hbx : Below w.heap.size w (w.alloc (.cells #[.int .i64 f, .int .i64 v, .int .i64 x, .slice A vs.length c] 28)) := (Below.refl _ _).alloc (Nat.le_refl _) _
  have kx := Blk.new w 28 #[.int .i64 f, .int .i64 v, .int .i64 x, .slice A vs.length c]
  have HC := Lib.hid (hc.on hbx)
  have HBX := Lib.hid hbx
  clear hc hbx
  generalize vs.length = l at *
  cases q
  · go_enter Try.func83, Try.ntmps83
    go_wp2_with fail
    refine (HB.out _).mono ?_
    rintro e w1 ⟨rfl, hb1⟩
    go_wp2
    go_ret
    exact ⟨rfl, on_ HBX.out hb1⟩
  · by_cases h1 : x = val
    · subst h1
      go_enter Try.func83, Try.ntmps83
      go_wp2_with fail
      refine (HB.out _).mono ?_
      rintro e w1 ⟨rfl, hb1⟩
      have hc1 := HC.out.on hb1
      have hcv := hc1.1
      have hcf := hc1.2
      have kx1 := (kx.on hb1).rule
      go_wp2
      go_ret
      exact ⟨ret_bool (by simp), on_ HBX.out hb1⟩
    · have h1' : (x == val) = false := by simpa using h1
      have H1 := Lib.hid h1; clear h1
      by_cases h2 : v < u
      all_goals
        go_enter Try.func83, Try.ntmps83
        go_wp2_with fail
        refine (HB.out _).mono ?_
        rintro e w1 ⟨rfl, hb1⟩
        have hc1 := HC.out.on hb1
        have hcv := hc1.1
        have hcf := hc1.2
        have kx1 := (kx.on hb1).rule
        go_wp2
        go_ret
        exact ⟨ret_bool (by simp [H1.out, h2]), on_ HBX.out hb1⟩

/-- Block b is a set of reports: s tells the one of each sender. -/
def SetC (cs : Array Value) (n view : Int) (s : Nat → Option Pp) : Prop :=
  cs.size = 37 ∧ cs[0]? = some (.int .i64 n) ∧ cs[1]? = some (.int .i64 view) ∧ (∀ j, j < 7 → cs[2 + j]? = some (.bool (s j).isSome)) ∧ (∀ j, j < 7 → four (fun d => cs[9 + j * 4 + d]?) ((s j).getD zP))
def SetAt (w : World) (b : Nat) (n view : Int) (s : Nat → Option Pp) : Prop :=
  (∃ cs, Blk w b 81 cs ∧ SetC cs n view s) ∧ ∀ j p, s j = some p → Rd w w.heap.size p.A p.r.vs ∧ p.r.vs.length ≤ 1048576
theorem SetAt.on {w w' : World} {b : Nat} {n view : Int} {s : Nat → Option Pp} (h : SetAt w b n view s) (hb : Below w.heap.size w w') : SetAt w' b n view s := by
  obtain ⟨⟨cs, h1, h2⟩, h3⟩ := h
  exact ⟨⟨cs, h1.on hb, h2⟩, fun j p hp => ⟨(h3 j p hp).1.on hb, (h3 j p hp).2⟩⟩
def cntS (s : Nat → Option Pp) (P : Rp → Bool) : Nat → Nat
  | 0 => 0
  | k + 1 => cntS s P k + (match s k with | some p => if P p.r then 1 else 0 | none => 0)
theorem cntS_le (s : Nat → Option Pp) (P : Rp → Bool) : ∀ k, cntS s P k ≤ k
  | 0 => Nat.le_refl _
  | k + 1 => by
    have := cntS_le s P k
    unfold cntS
    split
    · split <;> omega
    · omega
theorem idx7 (g : Nat → Bool) (k : Nat) (hk : k < 7) (w : World) :
    (Instr.index 76 (.agg #[.bool (g 0), .bool (g 1), .bool (g 2), .bool (g 3), .bool (g 4), .bool (g 5), .bool (g 6)]) (.int .i64 (k : Int))).run Try.prog w = .ok (.bool (g k)) w := by
  rcases (by omega : k = 0 ∨ k = 1 ∨ k = 2 ∨ k = 3 ∨ k = 4 ∨ k = 5 ∨ k = 6) with rfl | rfl | rfl | rfl | rfl | rfl | rfl
  all_goals kernel_rfl

set_option maxHeartbeats 1600000 in
theorem count_wit (val from_ : Int) (pv pf : Nat) (b : Nat) (n view : Int) (s : Nat → Option Pp) (w : World) (hs : SetAt w b n view s) (hc : Caps w pv pf val from_) :
    Calls Try.prog 82 #[.pointer (some ⟨b, 2, none⟩), .func (.func 89) #[] #[.pointer (some ⟨pv, 0, none⟩), .pointer (some ⟨pf, 0, none⟩)]] w fun e w' => e = .returned (.int .i64 (cntS s (hasV val from_) 7)) ∧ Below w.heap.size w w' := by
  obtain ⟨P, hP⟩ : ∃ P, (hasV val from_) = P := ⟨_, rfl⟩
  rw [hP]
  have HCALL : Hid (∀ (W : World), Below w.heap.size w W → ∀ f v x A c vs, Rd W W.heap.size A vs → vs.length ≤ 1048576 → Calls Try.prog 89 #[.agg #[.int .i64 f, .int .i64 v, .int .i64 x, .slice A vs.length c], .pointer (some ⟨pv, 0, none⟩), .pointer (some ⟨pf, 0, none⟩)] W fun e w' => e = .returned (.bool (P ⟨f, v, x, vs⟩)) ∧ Below W.heap.size W w') := by
    show ∀ (W : World), _
    intro W hW f v x A c vs hr hl
    rw [← hP]
    exact clo_wit val from_ f v x pv pf A c vs W hr hl (hc.on hW)
  clear hP hc
  obtain ⟨⟨cs, hk, hcs⟩, hv⟩ := id hs
  have HS := Lib.hid hs; clear hs
  obtain ⟨h37, hc0, hc1, hcb, hci⟩ := hcs
  obtain ⟨g, hg⟩ : ∃ g : Nat → Bool, (fun j => (s j).isSome) = g := ⟨_, rfl⟩
  have hg' : ∀ j, (s j).isSome = g j := fun j => congrFun hg j
  have b0 := hcb 0 (by omega); have b1 := hcb 1 (by omega); have b2 := hcb 2 (by omega); have b3 := hcb 3 (by omega); have b4 := hcb 4 (by omega); have b5 := hcb 5 (by omega); have b6 := hcb 6 (by omega)
  simp only [hg', Nat.reduceAdd] at b0 b1 b2 b3 b4 b5 b6
  have rb := hk.rule
  have c2 := (rb 2).trans b0; have c3 := (rb 3).trans b1; have c4 := (rb 4).trans b2; have c5 := (rb 5).trans b3; have c6 := (rb 6).trans b4; have c7 := (rb 7).trans b5; have c8 := (rb 8).trans b6
  have HK := Lib.hid hk
  have HCI := Lib.hid hci
  have HG := Lib.hid hg'
  clear hg hg' hcb hci hc0 hc1 h37 b0 b1 b2 b3 b4 b5 b6 rb hk hv
  have HLE := Lib.hid (cntS_le s P)
  have HIX := Lib.hid (fun (k : Nat) (h : k < 7) (W : World) => idx7 g k h W)
  go_enter Try.func82, Try.ntmps82
  go_wp2
  clear c2 c3 c4 c5 c6 c7 c8
  go_loopw [5, 12] (fun a i wr => ∃ (k y : Nat), k ≤ 7 ∧ y ≤ k ∧ i = .int .i64 k ∧ a = .int .i64 y ∧ Hid (cntS s P k = y) ∧ Below w.heap.size w wr) (fun _ i _ => 7 - (intOf i).toNat)
  case atStart => exact ⟨0, 0, Nat.zero_le _, Nat.le_refl _, rfl, rfl, by show _ = _; simp [cntS], Below.refl _ _⟩
  case round =>
    obtain ⟨k, y, hk, hyk, rfl, rfl, hy, hbel⟩ := hrel
    by_cases hlt : k < 7
    · have hix := HIX.out k hlt
      have hst : cntS s P (k + 1) = y + (match s k with | some p => if P p.r then 1 else 0 | none => 0) := by rw [← hy.out]; rfl
      have hgk := HG.out k
      have h4 := HCI.out k hlt
      obtain ⟨⟨cs', hk', _⟩, hv'⟩ := HS.out.on hbel
      have rb := (HK.out.on hbel).rule
      rcases hsk : s k with _ | p
      · rw [hsk] at hgk hst h4
        simp only [Option.isSome_none] at hgk
        rw [← hgk] at hix
        have HST := Lib.hid hst
        clear hst hgk h4 rb hk' hv' hsk
        go_wp2
        go_roundw
        case rel => exact ⟨k + 1, y, by omega, by omega, by go_num, rfl, HST.out, hbel⟩
        case measure => simp [intOf]; omega
      · obtain ⟨hrv, hvl⟩ := hv' k p hsk
        rw [hsk] at hgk hst h4
        simp only [Option.isSome_some] at hgk
        rw [← hgk] at hix
        obtain ⟨⟨f, v, x, vs⟩, A, c⟩ := p
        obtain ⟨i0, i1, i2, i3⟩ := h4
        simp only [Option.getD_some, Nat.add_zero] at i0 i1 i2 i3 hrv hvl hst
        have j0 := (rb _).trans i0
        have j1 := (rb _).trans i1
        have j2 := (rb _).trans i2
        have j3 := (rb _).trans i3
        have hcl := HCALL.out wr hbel f v x A c vs hrv hvl
        obtain ⟨q, hq⟩ : ∃ q, P ⟨f, v, x, vs⟩ = q := ⟨_, rfl⟩
        rw [hq] at hcl hst
        have HCL := Lib.hid hcl
        have HST := Lib.hid hst
        clear hst hgk rb hk' hv' hsk hcl i0 i1 i2 i3 hq hrv hvl
        generalize vs.length = l at *
        cases q
        · go_wp2_with fail
          refine HCL.out.mono ?_
          rintro e w1 ⟨rfl, hb1⟩
          go_wp2
          go_roundw
          case rel => exact ⟨k + 1, y, by omega, by omega, by go_num, rfl, HST.out, hbel.trans (hb1.mono hbel.size)⟩
          case measure => simp [intOf]; omega
        · go_wp2_with fail
          refine HCL.out.mono ?_
          rintro e w1 ⟨rfl, hb1⟩
          go_wp2
          go_roundw
          case rel => exact ⟨k + 1, y + 1, by omega, by omega, by go_num, by go_num, HST.out, hbel.trans (hb1.mono hbel.size)⟩
          case measure => simp [intOf]; omega
    · have hk7 : k = 7 := by omega
      subst hk7
      have hyy := hy.out
      go_wp2
      go_ret
      first | exact ⟨rfl, hbel⟩ | exact ⟨ret_int2 (by rw [hyy]), hbel⟩

set_option maxHeartbeats 1600000 in
theorem count_sup (val u : Int) (pv pf : Nat) (b : Nat) (n view : Int) (s : Nat → Option Pp) (w : World) (hs : SetAt w b n view s) (hc : Caps w pv pf val u) :
    Calls Try.prog 82 #[.pointer (some ⟨b, 2, none⟩), .func (.func 83) #[] #[.pointer (some ⟨pv, 0, none⟩), .pointer (some ⟨pf, 0, none⟩)]] w fun e w' => e = .returned (.int .i64 (cntS s (supQ u val) 7)) ∧ Below w.heap.size w w' := by
  obtain ⟨P, hP⟩ : ∃ P, (supQ u val) = P := ⟨_, rfl⟩
  rw [hP]
  have HCALL : Hid (∀ (W : World), Below w.heap.size w W → ∀ f v x A c vs, Rd W W.heap.size A vs → vs.length ≤ 1048576 → Calls Try.prog 83 #[.agg #[.int .i64 f, .int .i64 v, .int .i64 x, .slice A vs.length c], .pointer (some ⟨pv, 0, none⟩), .pointer (some ⟨pf, 0, none⟩)] W fun e w' => e = .returned (.bool (P ⟨f, v, x, vs⟩)) ∧ Below W.heap.size W w') := by
    show ∀ (W : World), _
    intro W hW f v x A c vs hr hl
    rw [← hP]
    exact clo_sup val u f v x pv pf A c vs W (hc.on hW)
  clear hP hc
  obtain ⟨⟨cs, hk, hcs⟩, hv⟩ := id hs
  have HS := Lib.hid hs; clear hs
  obtain ⟨h37, hc0, hc1, hcb, hci⟩ := hcs
  obtain ⟨g, hg⟩ : ∃ g : Nat → Bool, (fun j => (s j).isSome) = g := ⟨_, rfl⟩
  have hg' : ∀ j, (s j).isSome = g j := fun j => congrFun hg j
  have b0 := hcb 0 (by omega); have b1 := hcb 1 (by omega); have b2 := hcb 2 (by omega); have b3 := hcb 3 (by omega); have b4 := hcb 4 (by omega); have b5 := hcb 5 (by omega); have b6 := hcb 6 (by omega)
  simp only [hg', Nat.reduceAdd] at b0 b1 b2 b3 b4 b5 b6
  have rb := hk.rule
  have c2 := (rb 2).trans b0; have c3 := (rb 3).trans b1; have c4 := (rb 4).trans b2; have c5 := (rb 5).trans b3; have c6 := (rb 6).trans b4; have c7 := (rb 7).trans b5; have c8 := (rb 8).trans b6
  have HK := Lib.hid hk
  have HCI := Lib.hid hci
  have HG := Lib.hid hg'
  clear hg hg' hcb hci hc0 hc1 h37 b0 b1 b2 b3 b4 b5 b6 rb hk hv
  have HLE := Lib.hid (cntS_le s P)
  have HIX := Lib.hid (fun (k : Nat) (h : k < 7) (W : World) => idx7 g k h W)
  go_enter Try.func82, Try.ntmps82
  go_wp2
  clear c2 c3 c4 c5 c6 c7 c8
  go_loopw [5, 12] (fun a i wr => ∃ (k y : Nat), k ≤ 7 ∧ y ≤ k ∧ i = .int .i64 k ∧ a = .int .i64 y ∧ Hid (cntS s P k = y) ∧ Below w.heap.size w wr) (fun _ i _ => 7 - (intOf i).toNat)
  case atStart => exact ⟨0, 0, Nat.zero_le _, Nat.le_refl _, rfl, rfl, by show _ = _; simp [cntS], Below.refl _ _⟩
  case round =>
    obtain ⟨k, y, hk, hyk, rfl, rfl, hy, hbel⟩ := hrel
    by_cases hlt : k < 7
    · have hix := HIX.out k hlt
      have hst : cntS s P (k + 1) = y + (match s k with | some p => if P p.r then 1 else 0 | none => 0) := by rw [← hy.out]; rfl
      have hgk := HG.out k
      have h4 := HCI.out k hlt
      obtain ⟨⟨cs', hk', _⟩, hv'⟩ := HS.out.on hbel
      have rb := (HK.out.on hbel).rule
      rcases hsk : s k with _ | p
      · rw [hsk] at hgk hst h4
        simp only [Option.isSome_none] at hgk
        rw [← hgk] at hix
        have HST := Lib.hid hst
        clear hst hgk h4 rb hk' hv' hsk
        go_wp2
        go_roundw
        case rel => exact ⟨k + 1, y, by omega, by omega, by go_num, rfl, HST.out, hbel⟩
        case measure => simp [intOf]; omega
      · obtain ⟨hrv, hvl⟩ := hv' k p hsk
        rw [hsk] at hgk hst h4
        simp only [Option.isSome_some] at hgk
        rw [← hgk] at hix
        obtain ⟨⟨f, v, x, vs⟩, A, c⟩ := p
        obtain ⟨i0, i1, i2, i3⟩ := h4
        simp only [Option.getD_some, Nat.add_zero] at i0 i1 i2 i3 hrv hvl hst
        have j0 := (rb _).trans i0
        have j1 := (rb _).trans i1
        have j2 := (rb _).trans i2
        have j3 := (rb _).trans i3
        have hcl := HCALL.out wr hbel f v x A c vs hrv hvl
        obtain ⟨q, hq⟩ : ∃ q, P ⟨f, v, x, vs⟩ = q := ⟨_, rfl⟩
        rw [hq] at hcl hst
        have HCL := Lib.hid hcl
        have HST := Lib.hid hst
        clear hst hgk rb hk' hv' hsk hcl i0 i1 i2 i3 hq hrv hvl
        generalize vs.length = l at *
        cases q
        · go_wp2_with fail
          refine HCL.out.mono ?_
          rintro e w1 ⟨rfl, hb1⟩
          go_wp2
          go_roundw
          case rel => exact ⟨k + 1, y, by omega, by omega, by go_num, rfl, HST.out, hbel.trans (hb1.mono hbel.size)⟩
          case measure => simp [intOf]; omega
        · go_wp2_with fail
          refine HCL.out.mono ?_
          rintro e w1 ⟨rfl, hb1⟩
          go_wp2
          go_roundw
          case rel => exact ⟨k + 1, y + 1, by omega, by omega, by go_num, by go_num, HST.out, hbel.trans (hb1.mono hbel.size)⟩
          case measure => simp [intOf]; omega
    · have hk7 : k = 7 := by omega
      subst hk7
      have hyy := hy.out
      go_wp2
      go_ret
      first | exact ⟨rfl, hbel⟩ | exact ⟨ret_int2 (by rw [hyy]), hbel⟩

set_option maxHeartbeats 1600000 in
theorem count_unb  (b : Nat) (n view : Int) (s : Nat → Option Pp) (w : World) (hs : SetAt w b n view s) :
    Calls Try.prog 82 #[.pointer (some ⟨b, 2, none⟩), .func (.func 88) #[] #[]] w fun e w' => e = .returned (.int .i64 (cntS s unbL 7)) ∧ Below w.heap.size w w' := by
  obtain ⟨P, hP⟩ : ∃ P, unbL = P := ⟨_, rfl⟩
  rw [hP]
  have HCALL : Hid (∀ (W : World), Below w.heap.size w W → ∀ f v x A c vs, Rd W W.heap.size A vs → vs.length ≤ 1048576 → Calls Try.prog 88 #[.agg #[.int .i64 f, .int .i64 v, .int .i64 x, .slice A vs.length c]] W fun e w' => e = .returned (.bool (P ⟨f, v, x, vs⟩)) ∧ Below W.heap.size W w') := by
    show ∀ (W : World), _
    intro W hW f v x A c vs hr hl
    rw [← hP]
    exact clo_unb f v x A c vs W
  clear hP
  obtain ⟨⟨cs, hk, hcs⟩, hv⟩ := id hs
  have HS := Lib.hid hs; clear hs
  obtain ⟨h37, hc0, hc1, hcb, hci⟩ := hcs
  obtain ⟨g, hg⟩ : ∃ g : Nat → Bool, (fun j => (s j).isSome) = g := ⟨_, rfl⟩
  have hg' : ∀ j, (s j).isSome = g j := fun j => congrFun hg j
  have b0 := hcb 0 (by omega); have b1 := hcb 1 (by omega); have b2 := hcb 2 (by omega); have b3 := hcb 3 (by omega); have b4 := hcb 4 (by omega); have b5 := hcb 5 (by omega); have b6 := hcb 6 (by omega)
  simp only [hg', Nat.reduceAdd] at b0 b1 b2 b3 b4 b5 b6
  have rb := hk.rule
  have c2 := (rb 2).trans b0; have c3 := (rb 3).trans b1; have c4 := (rb 4).trans b2; have c5 := (rb 5).trans b3; have c6 := (rb 6).trans b4; have c7 := (rb 7).trans b5; have c8 := (rb 8).trans b6
  have HK := Lib.hid hk
  have HCI := Lib.hid hci
  have HG := Lib.hid hg'
  clear hg hg' hcb hci hc0 hc1 h37 b0 b1 b2 b3 b4 b5 b6 rb hk hv
  have HLE := Lib.hid (cntS_le s P)
  have HIX := Lib.hid (fun (k : Nat) (h : k < 7) (W : World) => idx7 g k h W)
  go_enter Try.func82, Try.ntmps82
  go_wp2
  clear c2 c3 c4 c5 c6 c7 c8
  go_loopw [5, 12] (fun a i wr => ∃ (k y : Nat), k ≤ 7 ∧ y ≤ k ∧ i = .int .i64 k ∧ a = .int .i64 y ∧ Hid (cntS s P k = y) ∧ Below w.heap.size w wr) (fun _ i _ => 7 - (intOf i).toNat)
  case atStart => exact ⟨0, 0, Nat.zero_le _, Nat.le_refl _, rfl, rfl, by show _ = _; simp [cntS], Below.refl _ _⟩
  case round =>
    obtain ⟨k, y, hk, hyk, rfl, rfl, hy, hbel⟩ := hrel
    by_cases hlt : k < 7
    · have hix := HIX.out k hlt
      have hst : cntS s P (k + 1) = y + (match s k with | some p => if P p.r then 1 else 0 | none => 0) := by rw [← hy.out]; rfl
      have hgk := HG.out k
      have h4 := HCI.out k hlt
      obtain ⟨⟨cs', hk', _⟩, hv'⟩ := HS.out.on hbel
      have rb := (HK.out.on hbel).rule
      rcases hsk : s k with _ | p
      · rw [hsk] at hgk hst h4
        simp only [Option.isSome_none] at hgk
        rw [← hgk] at hix
        have HST := Lib.hid hst
        clear hst hgk h4 rb hk' hv' hsk
        go_wp2
        go_roundw
        case rel => exact ⟨k + 1, y, by omega, by omega, by go_num, rfl, HST.out, hbel⟩
        case measure => simp [intOf]; omega
      · obtain ⟨hrv, hvl⟩ := hv' k p hsk
        rw [hsk] at hgk hst h4
        simp only [Option.isSome_some] at hgk
        rw [← hgk] at hix
        obtain ⟨⟨f, v, x, vs⟩, A, c⟩ := p
        obtain ⟨i0, i1, i2, i3⟩ := h4
        simp only [Option.getD_some, Nat.add_zero] at i0 i1 i2 i3 hrv hvl hst
        have j0 := (rb _).trans i0
        have j1 := (rb _).trans i1
        have j2 := (rb _).trans i2
        have j3 := (rb _).trans i3
        have hcl := HCALL.out wr hbel f v x A c vs hrv hvl
        obtain ⟨q, hq⟩ : ∃ q, P ⟨f, v, x, vs⟩ = q := ⟨_, rfl⟩
        rw [hq] at hcl hst
        have HCL := Lib.hid hcl
        have HST := Lib.hid hst
        clear hst hgk rb hk' hv' hsk hcl i0 i1 i2 i3 hq hrv hvl
        generalize vs.length = l at *
        cases q
        · go_wp2_with fail
          refine HCL.out.mono ?_
          rintro e w1 ⟨rfl, hb1⟩
          go_wp2
          go_roundw
          case rel => exact ⟨k + 1, y, by omega, by omega, by go_num, rfl, HST.out, hbel.trans (hb1.mono hbel.size)⟩
          case measure => simp [intOf]; omega
        · go_wp2_with fail
          refine HCL.out.mono ?_
          rintro e w1 ⟨rfl, hb1⟩
          go_wp2
          go_roundw
          case rel => exact ⟨k + 1, y + 1, by omega, by omega, by go_num, by go_num, HST.out, hbel.trans (hb1.mono hbel.size)⟩
          case measure => simp [intOf]; omega
    · have hk7 : k = 7 := by omega
      subst hk7
      have hyy := hy.out
      go_wp2
      go_ret
      first | exact ⟨rfl, hbel⟩ | exact ⟨ret_int2 (by rw [hyy]), hbel⟩
end Go.Proofs.Ytcfjmhebhhekbaa.V
