/-
  l3draw of the model: some reports. No statement is proved here.
-/
import Derived.Test.YtcfjmhebhhekbaaL3Add
import Derived.Test.YtcfjmhebhhekbaaL3Own
import Derived.Test.YtcfjmhebhhekbaaPick
import Derived.Test.YtcfjmhebhhekbaaDrawV1
set_option linter.unusedVariables false
set_option maxRecDepth 100000
namespace Go.Proofs.Ytcfjmhebhhekbaa.V
open Go.RowKit Go.Proofs.Ytcfjmhebhhekbaa.B

theorem grownN {w w' : World} (h : Below w.heap.size w w') (row : Option Nat) : w.grownBy w' row := ⟨h.os, h.tape, h.output, h.size, fun k hk _ => h.block k hk⟩
/-- The votes of p lie in a block of votes. -/
def VoM (w : World) (p : Pp) : Prop := p.r.vs = [] ∨ ∃ g cs, p.A = some ⟨g, 0, none⟩ ∧ Blk w g 25 cs ∧ PV cs p.r.vs
theorem VoM.rd {w : World} {p : Pp} (h : VoM w p) : Rd w w.heap.size p.A p.r.vs := by
  rcases h with h1 | ⟨g, cs, h1, h2, h3⟩
  · rw [h1]; exact Rd.nil_
  · rw [h1]; exact h3.rd h2 h2.lt
theorem VoM.on {w w' : World} {p : Pp} (h : VoM w p) (hb : Below w.heap.size w w') : VoM w' p := h.imp id fun ⟨g, cs, h1, h2, h3⟩ => ⟨g, cs, h1, h2.on hb, h3⟩
theorem VoM.grown {w w' : World} {tr : TypeId} {p : Pp} {row : Option Nat} (h : VoM w p) (hg : w.grownBy w' row) (hr : ∀ g, row = some g → ∃ cur, w.heap[g]? = some (.cells cur tr (0, 0))) (hne : 25 ≠ tr) : VoM w' p :=
  h.imp id fun ⟨g, cs, h1, h2, h3⟩ => ⟨g, cs, h1, (hg.block g h2.lt (fun e => by
    obtain ⟨cur, h4⟩ := hr g e.symm
    have h5 : w.heap[g]? = some (.cells cs 25 (0, 0)) := h2
    rw [h5] at h4
    injection h4 with h4
    injection h4 with _ h4 _
    exact hne h4)).trans h2, h3⟩
theorem VoS.mem {w : World} {qs : List Pp} (h : VoS w 25 qs) : ∀ q ∈ qs, VoM w q := fun q hq => by
  obtain ⟨i, hi, rfl⟩ := mem_getD hq
  exact h i hi
theorem VoS.of_mem {w : World} {qs : List Pp} (h : ∀ q ∈ qs, VoM w q) : VoS w 25 qs := fun i hi => h _ (getD_mem hi)
/-- Reports in a block of reports, their votes in blocks of votes. -/
def RdT (w : World) (A : Option Addr) (us : List Pp) : Prop :=
  (us.length = 0 ∨ ∃ g cs, A = some ⟨g, 0, none⟩ ∧ Blk w g 28 cs ∧ ∀ i, i < us.length → four (fun j => cs[i * 4 + j]?) (us.getD i zP)) ∧ ∀ q ∈ us, VoM w q
theorem RdT.rd {w : World} {A : Option Addr} {us : List Pp} (h : RdT w A us) : RdR w w.heap.size A us := fun h0 => by
  rcases h.1 with h1 | ⟨g, cs, rfl, h2, h3⟩
  · omega
  · refine ⟨g, 0, rfl, h2.lt, fun i hi => ⟨?_, (h.2 _ (getD_mem hi)).rd⟩⟩
    have := h3 i hi
    simp only [Nat.zero_add, h2.cell]
    exact this
theorem RdT.on {w w' : World} {A : Option Addr} {us : List Pp} (h : RdT w A us) (hb : Below w.heap.size w w') : RdT w' A us :=
  ⟨h.1.imp id fun ⟨g, cs, h1, h2, h3⟩ => ⟨g, cs, h1, h2.on hb, h3⟩, fun q hq => (h.2 q hq).on hb⟩
theorem RdT.grown {w w' : World} {tr : TypeId} {A : Option Addr} {us : List Pp} {row : Option Nat} (h : RdT w A us) (hg : w.grownBy w' row) (hr : ∀ g, row = some g → ∃ cur, w.heap[g]? = some (.cells cur tr (0, 0))) (hne : 25 ≠ tr) (hne2 : 28 ≠ tr) : RdT w' A us :=
  ⟨h.1.imp id fun ⟨g, cs, h1, h2, h3⟩ => ⟨g, cs, h1, (hg.block g h2.lt (fun e => by
    obtain ⟨cur, h4⟩ := hr g e.symm
    have h5 : w.heap[g]? = some (.cells cs 28 (0, 0)) := h2
    rw [h5] at h4
    injection h4 with h4
    injection h4 with _ h4 _
    exact hne2 h4)).trans h2, h3⟩, fun q hq => (h.2 q hq).grown hg hr hne⟩
theorem RdT.of_own {w : World} {base n c : Nat} {A : Option Addr} {us : List Pp} (h : w.ownsRow base 28 4 (.slice A n c) n (pcells us)) (hv : ∀ q ∈ us, VoM w q) : RdT w A us := by
  refine ⟨?_, hv⟩
  obtain ⟨hl, h⟩ := h
  have hn : n = us.length := by rw [pcells_len] at hl; omega
  rcases h with ⟨h1, h2⟩ | ⟨g, cap, cur, h1, h2, h3, h4, h5, h6, h7⟩
  · exact .inl (by omega)
  · injection h1 with h1
    refine .inr ⟨g, cur, h1, h3, fun i hi => four_of hi fun j hj => ?_⟩
    have hlt : i * 4 + j < n * 4 := by omega
    rw [← h7, List.getElem?_take_of_lt hlt]
    simp
theorem RdT.nil_ {w : World} {A : Option Addr} : RdT w A [] := ⟨.inl rfl, fun q hq => by simp at hq⟩
theorem cur_type {Bd p : Nat} {w : World} (h : Cur Bd w p) : ∀ g, some p = some g → ∃ cur, w.heap[g]? = some (.cells cur 97 (0, 0)) := fun g e => by
  injection e with e
  subst e
  obtain ⟨A, n, c, i, h, kb, _⟩ := h
  exact ⟨_, kb⟩
/-- On the way through l3draw. -/
structure DS (Bd p : Nat) (w wr : World) (m : Nat) (B : Option Addr) (d : Nat) (us : List Pp) : Prop where
  cu : Cur Bd wr p
  rd : RdT wr B us
  len : us.length ≤ m
  cap : us.length ≤ d
  sm : ∀ q ∈ us, q.r.vs.length ≤ 10
  gr : w.grownBy wr (some p)
section
variable {Bd p m d : Nat} {w wr w' : World} {B : Option Addr} {us : List Pp}
theorem DS.cur (h : DS Bd p w wr m B d us) (hc : Cur Bd w' p) (hg : wr.grownBy w' (some p)) : DS Bd p w w' m B d us :=
  ⟨hc, h.rd.grown hg (cur_type h.cu) (by decide) (by decide), h.len, h.cap, h.sm, h.gr.andThen hg (fun j hj => .inr hj)⟩
theorem DS.on (h : DS Bd p w wr m B d us) (hb : Below wr.heap.size wr w') : DS Bd p w w' m B d us :=
  ⟨cur_next h.cu hb, h.rd.on hb, h.len, h.cap, h.sm, h.gr.andThen (grownN hb none) (fun j hj => by cases hj)⟩
theorem DS.add (h : DS Bd p w wr m B d us) {r : Pp} (hv : VoM wr r) (hl : r.r.vs.length ≤ 10) {k : Nat} {q : Bool} {B9 : Option Addr} {d9 : Nat}
    (hc : (if q then us else insR us k r).length ≤ d9) (ho : (B9 = B ∧ (if q then us else insR us k r) = us) ∨ w'.ownsRow wr.heap.size 28 4 (.slice B9 (if q then us else insR us k r).length d9) (if q then us else insR us k r).length (pcells (if q then us else insR us k r))) (hk : k ≤ us.length) (hb : Below wr.heap.size wr w') :
    DS Bd p w w' (m + 1) B9 d9 (if q then us else insR us k r) := by
  have hmem : ∀ y ∈ (if q then us else insR us k r), y = r ∨ y ∈ us := fun y hy => by
    cases q
    · exact insR_mem hy
    · exact .inr hy
  have hvm : ∀ y ∈ (if q then us else insR us k r), VoM w' y := fun y hy => (hmem y hy).elim (fun e => by rw [e]; exact hv.on hb) (fun e => (h.rd.2 y e).on hb)
  refine ⟨cur_next h.cu hb, ?_, ?_, hc, fun y hy => (hmem y hy).elim (fun e => by rw [e]; exact hl) (fun e => h.sm y e), h.gr.andThen (grownN hb none) (fun j hj => by cases hj)⟩
  · rcases ho with ⟨rfl, e⟩ | ho
    · rw [e]; exact h.rd.on hb
    · exact RdT.of_own ho hvm
  · have := h.len
    cases q
    · simp only [Bool.false_eq_true, if_false]; rw [insR_len _ _ _ hk]; omega
    · simp; omega
end
/-- Some reports of the call's own, the cursor moved on. -/
def DRes3 (Bd p : Nat) (w : World) (e : Ending) (w' : World) : Prop :=
  ∃ B d qs, e = .returned (.slice B qs.length d) ∧ qs.length ≤ 10 ∧ w'.ownsRow w.heap.size 28 4 (.slice B qs.length d) qs.length (pcells qs) ∧ (∀ q ∈ qs, VoM w' q) ∧ (∀ q ∈ qs, q.r.vs.length ≤ 10) ∧ Cur Bd w' p ∧ w.grownBy w' (some p)
theorem set_new {w w' : World} {p g i : Nat} {u : Value} (h : w.grownBy w' (some p)) (hg : w.heap.size ≤ g) : w.grownBy (w'.setCell ⟨g, i, none⟩ u) (some p) :=
  ⟨h.os, h.tape, h.output, by simpa [World.setCell] using h.size, fun j hj hne => (Below.heap_setCell w' ⟨g, i, none⟩ u j (by show j ≠ g; omega)).trans (h.block j hj hne)⟩
theorem lock_set {Bd p o g : Nat} {w3 wd w6 : World} {f : Int} {vs : List (Int × Int)} {c2 : Nat} {cs : Array Value} {x : Nat} (hx : x < vs.length) (kb : Blk wd o 28 #[.int .i64 f, .int .i64 0, .int .i64 0, .slice (some ⟨g, 0, none⟩) vs.length c2]) (kv : Blk wd g 25 cs) (hpv : PV cs vs) (hgw : w3.grownBy wd (some p)) (ho : w3.heap.size ≤ o) (hpo : p < o) (hpg : p ≠ g) (hBo : Bd ≤ o) (hc6 : Cur Bd w6 p) (hg6 : wd.grownBy w6 (some p)) :
    ∃ a b : Int, w6.cell? ⟨g, x * 2, none⟩ = some (.int .i64 a) ∧ w6.cell? ⟨g, x * 2 + 1, none⟩ = some (.int .i64 b) ∧ (∀ i, w6.cell? ⟨o, i, none⟩ = (#[.int .i64 f, .int .i64 0, .int .i64 0, .slice (some ⟨g, 0, none⟩) vs.length c2] : Array Value)[i]?) ∧ (∀ i, w6.frozen? ⟨o, i, none⟩ = false) ∧
      (∀ i, ((w6.setCell ⟨o, 1, none⟩ (.int .i64 a)).setCell ⟨o, 2, none⟩ (.int .i64 b)).cell? ⟨o, i, none⟩ = (#[.int .i64 f, .int .i64 a, .int .i64 b, .slice (some ⟨g, 0, none⟩) vs.length c2] : Array Value)[i]?) ∧ w3.grownBy ((w6.setCell ⟨o, 1, none⟩ (.int .i64 a)).setCell ⟨o, 2, none⟩ (.int .i64 b)) (some p) ∧ Cur Bd ((w6.setCell ⟨o, 1, none⟩ (.int .i64 a)).setCell ⟨o, 2, none⟩ (.int .i64 b)) p := by
  have hvx := hpv x hx
  have kv6 := keepK kv hg6 (ne_some hpg)
  have kb6 := keepK kb hg6 (ne_some (by omega))
  refine ⟨(vs.getD x (0, 0)).1, (vs.getD x (0, 0)).2, (kv6.cell (x * 2)).trans hvx.1, (kv6.cell (x * 2 + 1)).trans hvx.2, kb6.rule, fun i => kb6.frozen i, ((kb6.set_ 1 _).set_ 2 _).rule, set_new (set_new (hgw.andThen hg6 (fun j hj => .inr hj)) ho) ho, cur_keep hc6 (only_setI (only_setI (World.grownBy.refl w6 (some o)) 1 _) 2 _) (ne_some (by omega)) (by intro j hj; injection hj with hj; omega)⟩
theorem same_small {us qs : List Pp} {m : Nat} (h : rl qs = rl us) (hs : ∀ q ∈ us, q.r.vs.length ≤ m) : ∀ q ∈ qs, q.r.vs.length ≤ m := fun q hq => by
  have h1 : q.r ∈ rl qs := List.mem_map.2 ⟨q, hq, rfl⟩
  rw [h] at h1
  obtain ⟨u, hu, e⟩ := List.mem_map.1 h1
  rw [← e]
  exact hs u hu
set_option maxHeartbeats 1600000 in
theorem l3draw_any (Bd p n view : Nat) (hn0 : 0 < n) (hn : n ≤ 7) (hv : view ≤ 10) (w : World) (hB : Bd ≤ w.heap.size) (hc : Cur Bd w p) :
    Calls Try.prog 71 #[.pointer (some ⟨p, 0, none⟩), .int .i64 n, .int .i64 view] w (DRes3 Bd p w) := by
  have hpw := (cur_lt hc).1
  go_enter Try.func71, Try.ntmps71
  go_wp2_with fail
  refine (below_i Bd p ((n : Int) + 1) (by omega) (by omega) _ hc).mono ?_
  rintro e w1 ⟨kk, hkk, rfl, hc1, hg1⟩
  go_wp2
  go_loopw [7, 9] (fun l i wr => ∃ (k : Nat) (B : Option Addr) (d : Nat) (us : List Pp), k ≤ kk + 2 ∧ i = .int .i64 k ∧ l = .slice B us.length d ∧ DS Bd p w wr k B d us) (fun _ i _ => kk + 2 - (intOf i).toNat)
  case atStart => exact ⟨0, none, 0, [], Nat.zero_le _, rfl, rfl, hc1, RdT.nil_, Nat.le_refl _, Nat.le_refl _, fun q hq => by simp at hq, hg1⟩
  case round =>
    clear hc1 hg1 hc
    obtain ⟨k, B, d, us, hk, rfl, rfl, hst⟩ := hrel
    by_cases hlt : k < kk + 2
    · have hlt' : (k : Int) < (kk : Int) + 2 := by omega
      go_wp2_with fail
      refine (below_i Bd p (n : Int) (by omega) (by omega) _ hst.cu).mono ?_
      rintro e w2 ⟨f', hf, rfl, hc2, hg2⟩
      have hS2 := hst.cur hc2 hg2
      have hz2 := Nat.le_trans hst.gr.size hg2.size
      clear hst hg2
      go_wp2_with fail
      refine (votes_any Bd p view (by omega) w2 (by omega) hc2).mono ?_
      rintro e w3 ⟨v3, vs, rfl, hown3, hvl, hc3, hg3⟩
      have hS3 := hS2.cur hc3 hg3
      obtain ⟨A2, c2, rfl, hcap2⟩ := formA hown3
      have hz3 := hg3.size
      have hvl : vs.length ≤ 10 := by omega
      obtain ⟨f, hf'⟩ : ∃ f : Int, (f' : Int) = f := ⟨_, rfl⟩
      rw [hf'] at *
      have HVM : Hid (∀ v x : Int, VoM w3 ⟨⟨f, v, x, vs⟩, A2, c2⟩) := fun v x => (own_votes hown3).imp id fun ⟨g, cs, h1, _, h2, h3, _⟩ => ⟨g, cs, h1, h2, h3⟩
      have HOV := Lib.hid (own_votes hown3)
      have kb4 := Blk.new w3 28 #[.int .i64 f, .int .i64 0, .int .i64 0, .slice A2 vs.length c2]
      have rb4 := kb4.rule
      have hc4 : Cur Bd (w3.alloc (.cells #[.int .i64 f, .int .i64 0, .int .i64 0, .slice A2 vs.length c2] 28)) p := cur_next hc3 (up_ (Below.refl _ _) _)
      have hg4 : w3.grownBy (w3.alloc (.cells #[.int .i64 f, .int .i64 0, .int .i64 0, .slice A2 vs.length c2] 28)) (some p) := grownN (up_ (Below.refl _ _) _) _
      have hpo : some p ≠ some w3.heap.size := ne_some (by omega)
      clear hS2 hown3 hc2 hg3 hc3 hcap2
      by_cases hm0 : vs.length = 0
      · obtain rfl : vs = [] := List.eq_nil_of_length_eq_zero hm0
        clear hm0
        have hd0 : decide ((0 : Int) < ((0 : Nat) : Int)) = false := by decide
        simp only [List.length_nil] at *
        go_wp2_with fail
        have hcW := hc4
        have hgW := hg4
        have hSW := hS3.cur hcW hgW
        have hvm := (HVM.out 0 0).grown hgW (cur_type hS3.cu) (by decide)
        have hrr := hSW.rd.rd
        have hrv := hvm.rd
        have hul := hSW.len
        have hcp := hSW.cap
        clear hcW hgW
        go_wp2_with fail
        refine (l3add_go f 0 0 A2 c2 [] B d (placeR us f) us (placeR_pl us f) _ hrr hrv (by omega) hcp).mono ?_
        rintro e w9 ⟨B9, d9, rfl, hcap9, hown9, hrd9, hb9⟩
        have hS9 := Lib.hid (hSW.add (r := ⟨⟨f, 0, 0, []⟩, A2, c2⟩) hvm hvl hcap9 hown9 (placeR_pl us f).1 hb9)
        clear hSW hrr hvm hrd9 hown9 hb9 hrv
        go_wp2
        go_roundw
        case rel => exact ⟨k + 1, B9, d9, _, by omega, by go_num, rfl, hS9.out⟩
        case measure => simp [intOf]; omega
      · have hd0 : decide ((0 : Int) < (vs.length : Int)) = true := decide_eq_true (by omega)
        have hm1 : 0 < vs.length := by omega
        go_wp2_with fail
        refine (once_any Bd p 2 (by omega) (by omega) _ hc4).mono ?_
        rintro e w5 ⟨q, rfl, hc5, hg5⟩
        have kb5 := keepK kb4 hg5 hpo
        have rb5 := kb5.rule
        have hgw5 := hg4.andThen hg5 (fun j hj => .inr hj)
        clear kb4 rb4 hc4 hg4 hg5
        rcases q with _ | _
        · have hcW := hc5
          have hgW := hgw5
          have hSW := hS3.cur hcW hgW
          have hvm := (HVM.out 0 0).grown hgW (cur_type hS3.cu) (by decide)
          have hrr := hSW.rd.rd
          have hrv := hvm.rd
          have hul := hSW.len
          have hcp := hSW.cap
          clear hcW hgW
          go_wp2_with fail
          refine (l3add_go f 0 0 A2 c2 vs B d (placeR us f) us (placeR_pl us f) _ hrr hrv (by omega) hcp).mono ?_
          rintro e w9 ⟨B9, d9, rfl, hcap9, hown9, hrd9, hb9⟩
          have hS9 := Lib.hid (hSW.add (r := ⟨⟨f, 0, 0, vs⟩, A2, c2⟩) hvm hvl hcap9 hown9 (placeR_pl us f).1 hb9)
          clear hSW hrr hvm hrd9 hown9 hb9 hrv
          go_wp2
          go_roundw
          case rel => exact ⟨k + 1, B9, d9, _, by omega, by go_num, rfl, hS9.out⟩
          case measure => simp [intOf]; omega
        · rcases HOV.out with h0 | ⟨g, cs, rfl, hgb, hkv, hpv, hsv⟩
          · rw [h0] at hm1; simp at hm1
          · have hgp : some p ≠ some g := ne_some (by omega)
            have hgl := hkv.lt
            have kv5 : Blk w5.drew g 25 cs := (keepK hkv hgw5 hgp).dr
            have kb5d : Blk w5.drew w3.heap.size 28 #[.int .i64 f, .int .i64 0, .int .i64 0, .slice (some ⟨g, 0, none⟩) vs.length c2] := kb5
            have rb5d := kb5d.rule
            have hc5d : Cur Bd w5.drew p := cur_keep hc5 (cgrown_drewN (cgrown_same w5 none) 1) (by simp) (by simp)
            have hgw5d : w3.grownBy w5.drew (some p) := cgrown_drewN hgw5 1
            have hne5 : w3.heap.size ≠ g := by omega
            have HPV := Lib.hid hpv
            have hpo' : p < w3.heap.size := by omega
            have hgp' : p ≠ g := by omega
            have hBo : Bd ≤ w3.heap.size := by omega
            have HV5 := Lib.hid kv5
            clear kv5 kb5 rb5 hkv hpv hsv HOV hc5 hgw5
            go_wp2_with fail
            go_region_law (first
              | (go_simp; go_at_call 40; go_loud (with_reducible refine (below_any Bd p vs.length hm1 (by omega) _ hc5d).mono ?_; rintro e w6 ⟨x, hx, rfl, hc6, hg6⟩; obtain ⟨a, b, C0, C1, rb6, fb6, rb7, hgw7, hc7⟩ := lock_set hx kb5d HV5.out HPV.out hgw5d (Nat.le_refl _) hpo' hgp' hBo hc6 hg6; have hx1 : (x : Int) < (vs.length : Int) := (by omega))))
            all_goals
              have hcW := hc7
              have hgW := hgw7
              clear kb5d rb5d rb6 C0 C1 HPV HV5
              have hSW := hS3.cur hcW hgW
              have hvm := (HVM.out a b).grown hgW (cur_type hS3.cu) (by decide)
              have hrr := hSW.rd.rd
              have hrv := hvm.rd
              have hul := hSW.len
              have hcp := hSW.cap
              clear hcW hgW
              go_wp2_with fail
              refine (l3add_go f a b (some ⟨g, 0, none⟩) c2 vs B d (placeR us f) us (placeR_pl us f) _ hrr hrv (by omega) hcp).mono ?_
              rintro e w9 ⟨B9, d9, rfl, hcap9, hown9, hrd9, hb9⟩
              have hS9 := Lib.hid (hSW.add (r := ⟨⟨f, a, b, vs⟩, (some ⟨g, 0, none⟩), c2⟩) hvm hvl hcap9 hown9 (placeR_pl us f).1 hb9)
              clear hSW hrr hvm hrd9 hown9 hb9 hrv
              go_wp2
              go_roundw
              case rel => exact ⟨k + 1, B9, d9, _, by omega, by go_num, rfl, hS9.out⟩
              case measure => simp [intOf]; omega
    · obtain rfl : k = kk + 2 := by omega
      have hf : decide (((kk + 2 : Nat) : Int) < (kk : Int) + 2) = false := by simp
      have hsm := hst.sm
      go_wp2_with fail
      refine (l3ownAll_any B d us wr hst.rd.rd (by have := hst.len; omega) (fun i hi => by have := hsm _ (getD_mem hi); omega)).mono ?_
      rintro e w4 ⟨v, qs, rfl, hrl, hown, hvs, hb4⟩
      have hql : qs.length = us.length := by rw [← rl_len, hrl, rl_len]
      obtain ⟨B4, d4, rfl, hcap4⟩ := formA hown
      have hS4 := hst.on hb4
      have hlen := hst.len
      have hgz := hst.gr.size
      clear hst
      go_wp2
      go_ret
      exact ⟨B4, d4, qs, by rw [hql]; rfl, by omega, own_more3 hown hgz, VoS.mem hvs, same_small hrl hsm, hS4.cu, hS4.gr⟩
end Go.Proofs.Ytcfjmhebhhekbaa.V
