/-
  What a command does to a store; copiedStore, grown and execute of the program: contracts. No statement is proved here.
-/
import Derived.Test.YtbogagddjkghhaaDoorStN
import Derived.Test.YtbogagddjkghhaaDoorStO
import Derived.Deep.AppendLies
set_option linter.unusedVariables false
set_option maxRecDepth 100000
namespace Go.Proofs.YtbogagddjkghhaaDoor.B
open Go.RowKit
theorem RdI.reads {w : World} {Bd : Nat} {A : Option Addr} {xs : List Int} (h : RdI w Bd A xs) : Reads w Bd 1 A xs.length (xs.map (Value.int .i64)) := by
  refine ⟨by simp, fun hn => ?_⟩
  obtain ⟨b, off, rfl, hb, hc⟩ := h hn
  refine ⟨_, rfl, hb, fun j u hu => ?_⟩
  have hj : j < xs.length := by have := (List.getElem?_eq_some_iff.1 hu).1; simpa using this
  have hadd : (⟨b, off, none⟩ : Addr).add j = ⟨b, off + j, none⟩ := by unfold Addr.add; split <;> simp_all
  rw [hadd, hc j hj]
  rw [List.getElem?_map, List.getElem?_eq_getElem hj] at hu
  simp at hu
  rw [← hu, List.getD_eq_getElem?_getD, List.getElem?_eq_getElem hj]
  rfl
theorem one7 (xs : List Int) : ∀ u ∈ xs.map (Value.int .i64), u.oneCell' = true := by
  intro u hu
  simp only [List.mem_map] at hu
  obtain ⟨p, _, rfl⟩ := hu
  rfl
theorem OI.set7 {w : World} {t base : Nat} {g : Nat} {xs : List Int} {y : Nat} {v : Int} (h : OI w t base (some ⟨g, 0, none⟩) xs) (hy : y < xs.length) : OI (w.setCell ⟨g, y, none⟩ (.int .i64 v)) t base (some ⟨g, 0, none⟩) (xs.set y v) := by
  rcases h with ⟨h, _⟩ | ⟨g', cur, e, hb, hk, hp⟩
  · cases h
  · injection e with e
    injection e with e
    subst e
    refine .inr ⟨g, _, rfl, hb, hk.set_ y _, by simpa using hp.1, fun i hi => ?_⟩
    have hs := hp.1
    rw [List.length_set] at hi
    by_cases e : i = y
    · subst e
      rw [Array.getElem?_setIfInBounds_self_of_lt (by omega)]
      simp [List.getD_eq_getElem?_getD, hi]
    · rw [Array.getElem?_setIfInBounds_ne (by omega), hp.2 i hi]
      simp [List.getD_eq_getElem?_getD, List.getElem?_set_ne (Ne.symm e)]
theorem OI.row7 {w : World} {t base : Nat} {A : Option Addr} {xs : List Int} (h : OI w t base A xs) (hn : 0 < xs.length) : ∃ g cs, A = some ⟨g, 0, none⟩ ∧ base ≤ g ∧ Blk w g t cs ∧ PI cs xs xs.length := by
  rcases h with ⟨_, rfl⟩ | ⟨g, cur, e, hb, hk, hp⟩
  · simp at hn
  · exact ⟨g, cur, e, hb, hk, hp⟩
end Go.Proofs.YtbogagddjkghhaaDoor.B
namespace Go.Proofs.YtbogagddjkghhaaDoor.V
open Go.RowKit Go.Proofs.YtbogagddjkghhaaDoor.B

theorem form7 {w : World} {base e size n : Nat} {v : Value} {xs : List Value} (h : w.ownsRow base e size v n xs) : ∃ A c, v = .slice A n c := by
  obtain ⟨_, ⟨rfl, rfl⟩ | ⟨g, cap, cur, rfl, _⟩⟩ := h
  · exact ⟨_, _, rfl⟩
  · exact ⟨_, _, rfl⟩
theorem cap7 {w : World} {b e size n d : Nat} {A : Option Addr} {xs : List Value} (h : w.ownsRow b e size (.slice A n d) n xs) : n ≤ d := by
  obtain ⟨_, ⟨h1, h2⟩ | ⟨g, cap, cur, h1, _, _, h4, _⟩⟩ := h
  · omega
  · injection h1 with _ _ h1
    omega
def growN (was n : Int) : Int := if was + n ≤ 1000 then was + n else was
def doN (k n was : Int) : Int := if k = 1 then n else if k = 2 then growN was n else was
def doX (xs : List Int) (k : Int) (y : Nat) (n : Int) : List Int := xs.set y (doN k n (xs.getD y 0))
theorem doX_len (xs : List Int) (k : Int) (y : Nat) (n : Int) : (doX xs k y n).length = xs.length := by simp [doX]
theorem set_same (xs : List Int) (y : Nat) : xs.set y (xs.getD y 0) = xs := by
  apply List.ext_getElem?
  intro i
  rw [List.getElem?_set]
  by_cases e : y = i
  · subst e
    rw [if_pos rfl]
    by_cases h : y < xs.length
    · rw [if_pos h, List.getD_eq_getElem?_getD, List.getElem?_eq_getElem h]; rfl
    · rw [if_neg h, List.getElem?_eq_none (by omega)]
  · rw [if_neg e]

set_option maxHeartbeats 1600000 in
theorem copied_any (A : Option Addr) (c : Nat) (xs : List Int) (m : Int) (w : World) (hr : RdI w w.heap.size A xs) (hn : xs.length ≤ 1048576) :
    Calls Tryd.prog 61 #[.agg #[.slice A xs.length c, .int .i64 m]] w (SG0 xs m w) := by
  obtain ⟨i0, hi0, hz0, hz1, hz2⟩ := info_parts infoI7
  have hrd := hr.reads
  have H1 := Lib.hid (one7 xs)
  obtain ⟨l, hl⟩ : ∃ l, xs.length = l := ⟨_, rfl⟩
  rw [hl] at hn hrd ⊢
  have HL := Lib.hid hl; clear hl hr
  have ka := (Blk.new w 46 #[.slice A l c, .int .i64 m]).alloc (.cells #[.slice none 0 0, .int .i64 0] 46)
  have kr := Blk.new (w.alloc (.cells #[.slice A l c, .int .i64 m] 46)) 46 #[.slice none 0 0, .int .i64 0]
  simp only [World.size_alloc] at kr
  have hr2 := (hrd.alloc (Nat.le_refl _) (.cells #[.slice A l c, .int .i64 m] 46)).alloc (by simp) (.cells #[.slice none 0 0, .int .i64 0] 46)
  have HR := Lib.hid hr2; clear hr2 hrd
  have ra := ka.rule
  have hB := up_ (up_ (Below.refl w.heap.size w) (.cells #[.slice A l c, .int .i64 m] 46)) (.cells #[.slice none 0 0, .int .i64 0] 46)
  go_enter Tryd.func61, Tryd.ntmps61
  go_wp2_with (at_builtin; refine wpList_append_any _ rfl (.const (.slice none 0 0)) (.tmp 4) 44 rfl (w.heap.size + 1 + 1) 3 i0 _ 1 8 Tryd.underlying44 hi0 hz0 hz1 hz2 rfl (by omega) (.slice none 0 0) 0 [] rfl (World.ownsRow_nil _ _ _ _) w.heap.size A l c (xs.map (Value.int .i64)) rfl HR.out H1.out (by simp only [maxLen]; omega) (by omega) (by simp) ?_; intro v2 w2 hown2 hgr2 hat2; obtain ⟨B2, d2, rfl⟩ := form7 hown2; have ka2 := keepK ka hgr2 (by simp [Value.ownBlock]); have kr2 := keepK kr hgr2 (by simp [Value.ownBlock]); have ra2_0 := ka2.rule; have fa2_0 := fun i => ka2.frozen i; have rr2_0 := kr2.rule; have fr2_0 := fun i => kr2.frozen i; have ka2_1 : Blk (w2.setCell ⟨w.heap.size, 0, none⟩ (.slice B2 (0 + l) d2)) (w.heap.size) 46 #[.slice B2 (0 + l) d2, .int .i64 m] := ka2.set_ 0 _; have kr2_1 := kr2.far (p := ⟨w.heap.size, 0, none⟩) (by simp <;> omega) (.slice B2 (0 + l) d2); have ra2_1 := ka2_1.rule; have fa2_1 := fun i => ka2_1.frozen i; have rr2_1 := kr2_1.rule; have fr2_1 := fun i => kr2_1.frozen i; have ka2_2 := ka2_1.far (p := ⟨w.heap.size + 1, 0, none⟩) (by simp <;> omega) (.slice B2 (0 + l) d2); have kr2_2 : Blk ((w2.setCell ⟨w.heap.size, 0, none⟩ (.slice B2 (0 + l) d2)).setCell ⟨w.heap.size + 1, 0, none⟩ (.slice B2 (0 + l) d2)) (w.heap.size + 1) 46 #[.slice B2 (0 + l) d2, .int .i64 0] := kr2_1.set_ 0 _; have ra2_2 := ka2_2.rule; have fa2_2 := fun i => ka2_2.frozen i; have rr2_2 := kr2_2.rule; have fr2_2 := fun i => kr2_2.frozen i; have ka2_3 := ka2_2.far (p := ⟨w.heap.size + 1, 1, none⟩) (by simp <;> omega) (.int .i64 m); have kr2_3 : Blk (((w2.setCell ⟨w.heap.size, 0, none⟩ (.slice B2 (0 + l) d2)).setCell ⟨w.heap.size + 1, 0, none⟩ (.slice B2 (0 + l) d2)).setCell ⟨w.heap.size + 1, 1, none⟩ (.int .i64 m)) (w.heap.size + 1) 46 #[.slice B2 (0 + l) d2, .int .i64 m] := kr2_2.set_ 1 _; have ra2_3 := ka2_3.rule; have fa2_3 := fun i => ka2_3.frozen i; have rr2_3 := kr2_3.rule; have fr2_3 := fun i => kr2_3.frozen i)
  simp only [Nat.zero_add, List.nil_append] at hown2 rr2_3
  have hB2 : Below w.heap.size w w2 := hB.grown hgr2 (by simp; omega) (fun j hj => by simp [Value.ownBlock] at hj)
  have hs2 : w.heap.size + 2 ≤ w2.heap.size := by have := hgr2.size; simp at this; omega
  refine bodyPost_ret (v := .agg #[.slice B2 l d2, .int .i64 m]) (by simp [results, Tryd.results61, go_sem, rr2_3]) rfl ⟨B2, d2, by rw [HL.out], by rw [HL.out]; exact cap7 hown2, ?_, ?_⟩
  · have o := (OI.of_own (xs := xs) (by exact hown2)).2
    exact OI.more (OI.set_ (OI.set_ (OI.set_ o (by simp <;> omega) _) (by simp <;> omega) _) (by simp <;> omega) _) (by omega)
  · iterate 3 refine Below.setCell ?_ (by simp) _
    exact hB2
theorem stored_any (v : Int) (w : World) : Calls Tryd.prog 64 #[.int .i64 v] w fun e w' => e = .returned (.bool (inB v)) ∧ w' = w := by
  unfold inB
  by_cases h1 : 0 ≤ v
  · by_cases h2 : v ≤ 1000
    all_goals
      go_enter Tryd.func64, Tryd.ntmps64
      go_wp2
      go_ret
      exact ⟨ret_boolB (by simp; try omega), rfl⟩
  · go_enter Tryd.func64, Tryd.ntmps64
    go_wp2
    go_ret
    exact ⟨ret_boolB (by simp; try omega), rfl⟩
theorem stored_is (q : Bool) (v : Int) (h : inB v = q) (w : World) : Calls Tryd.prog 64 #[.int .i64 v] w fun e w' => e = .returned (.bool q) ∧ w' = w := by
  rw [← h]; exact stored_any v w
theorem grown_any (v n : Int) (h0 : 0 ≤ v) (h1 : v ≤ 1000) (h2 : 0 ≤ n) (h3 : n ≤ 4) (w : World) : Calls Tryd.prog 106 #[.int .i64 v, .int .i64 n] w fun e w' => e = .returned (.int .i64 (growN v n)) ∧ w' = w := by
  unfold growN
  by_cases h : v + n ≤ 1000
  · rw [if_pos h]
    have H : Hid (inB (v + n) = true) := by show _ = _; unfold inB; exact decide_eq_true (by omega)
    go_enter Tryd.func106, Tryd.ntmps106
    go_wp2_with fail
    refine (stored_is true _ H.out _).mono ?_
    rintro e w1 ⟨rfl, rfl⟩
    go_wp2
    go_ret
    exact ⟨rfl, rfl⟩
  · rw [if_neg h]
    have H : Hid (inB (v + n) = false) := by show _ = _; unfold inB; exact decide_eq_false (by omega)
    go_enter Tryd.func106, Tryd.ntmps106
    go_wp2_with fail
    refine (stored_is false _ H.out _).mono ?_
    rintro e w1 ⟨rfl, rfl⟩
    go_wp2
    go_ret
    exact ⟨rfl, rfl⟩

/-- What the program's execute leaves: the store's box and row, and all else as it was. -/
def XG (Bd p g d : Nat) (m : Int) (xs us : List Int) (x : Int) (w : World) (e : Ending) (w' : World) : Prop :=
  e = .returned (.int .i64 x) ∧ Blk w' p 46 #[.slice (some ⟨g, 0, none⟩) 4 d, .int .i64 (m + 1)] ∧ OI w' 3 Bd (some ⟨g, 0, none⟩) us ∧ Below Bd w w'
set_option maxHeartbeats 1600000 in
theorem exec0 (Bd p g d : Nat) (m n : Int) (y : Nat) (xs : List Int) (w : World) (hl : xs.length = 4) (hy : y < 4) (h0 : 0 ≤ n) (h1 : n ≤ 4) (hm0 : 0 ≤ m) (hm1 : m ≤ 999) (hx : 0 ≤ xs.getD y 0 ∧ xs.getD y 0 ≤ 1000)
    (hp : Blk w p 46 #[.slice (some ⟨g, 0, none⟩) 4 d, .int .i64 m]) (ho : OI w 3 Bd (some ⟨g, 0, none⟩) xs) (hne : p ≠ g) (hB : Bd ≤ p) :
    Calls Tryd.prog 62 #[.pointer (some ⟨p, 0, none⟩), .agg #[.int .i64 0, .int .i64 (y : Int), .int .i64 n]] w (XG Bd p g d m xs (doX xs 0 y n) (xs.getD y 0) w) := by
  obtain ⟨g', cs, e, hgb, hk, hpi⟩ := ho.row7 (by omega)
  injection e with e
  injection e with e
  subst e
  obtain ⟨x, hxe⟩ : ∃ x, xs.getD y 0 = x := ⟨_, rfl⟩
  have hc := hpi.2 y (by omega)
  rw [hxe] at hc hx ⊢
  obtain ⟨hx0, hx1⟩ := hx
  have HX := Lib.hid hxe; have HL := Lib.hid hl; clear hxe hl hpi
  have hp1 := hp.alloc (.cells #[.int .i64 0, .int .i64 (y : Int), .int .i64 n] 48)
  have hk1 := hk.alloc (.cells #[.int .i64 0, .int .i64 (y : Int), .int .i64 n] 48)
  have ho1 := Lib.hid (ho.up (.cells #[.int .i64 0, .int .i64 (y : Int), .int .i64 n] 48))
  have kc1 := Blk.new w 48 #[.int .i64 0, .int .i64 (y : Int), .int .i64 n]
  have hBw : Bd ≤ w.heap.size := by have := hp.lt; omega
  have hB1 : Below Bd w (w.alloc (.cells #[.int .i64 0, .int .i64 (y : Int), .int .i64 n] 48)) := (Below.refl _ _).alloc hBw _
  have hz1 : Bd ≤ (w.alloc (.cells #[.int .i64 0, .int .i64 (y : Int), .int .i64 n] 48)).heap.size := by simp; omega
  have hpl := hp.lt
  have hgl := hk.lt
  have g0 : (0 : Int) ≤ (y : Int) := by omega
  have g1 : (y : Int) < 4 := by omega
  clear hp hk ho
  go_enter Tryd.func62, Tryd.ntmps62
  go_wp2
  generalize w.alloc (.cells #[.int .i64 0, .int .i64 (y : Int), .int .i64 n] 48) = w1 at *
  have C0 := lat_blk kc1
  have C1 := lat_blk hp1
  have C2 := fun x : Lat w1 => x.cell ((hk1.cell y).trans hc)
  refine wp_region_lat (by kernel_rfl) (by kernel_rfl) ?_
  repeat (go_big_quiet_step (fail))
  refine wpQuiet_nil ?_
  rintro w3 ⟨⟨_, hb3⟩, rfl⟩
  clear C0 C1 C2
  have hp3 := hp1.on hb3
  have hk3 := hk1.on hb3
  have ho3 := Lib.hid (ho1.out.on hb3)
  have kc3 := kc1.on hb3
  have hB3 : Below Bd w w3 := hB1.trans (hb3.mono hz1)
  have hw3 : w.heap.size < w3.heap.size := kc3.lt
  clear hp1 hk1 ho1 kc1 hB1 hz1 hb3
  have rp := hp3.rule
  have fp := fun i => hp3.frozen i
  have rc := kc3.rule
  go_wp2
  go_ret
  refine ⟨rfl, hp3.set_ 1 _, ?_, Below.setCell hB3 hB _⟩
  have e : doX xs 0 y n = xs := by unfold doX doN; rw [if_neg (by decide), if_neg (by decide), set_same]
  rw [e]
  rcases ho3.out with ⟨h, _⟩ | ⟨g2, cur, e2, hb2, hk2, hq2⟩
  · cases h
  · refine .inr ⟨g2, cur, e2, hb2, hk2.far ?_ _, hq2⟩
    injection e2 with e2
    injection e2 with e2
    subst e2
    exact fun h => hne h.symm
set_option maxHeartbeats 1600000 in
theorem exec1 (Bd p g d : Nat) (m n : Int) (y : Nat) (xs : List Int) (w : World) (hl : xs.length = 4) (hy : y < 4) (h0 : 0 ≤ n) (h1 : n ≤ 4) (hm0 : 0 ≤ m) (hm1 : m ≤ 999) (hx : 0 ≤ xs.getD y 0 ∧ xs.getD y 0 ≤ 1000)
    (hp : Blk w p 46 #[.slice (some ⟨g, 0, none⟩) 4 d, .int .i64 m]) (ho : OI w 3 Bd (some ⟨g, 0, none⟩) xs) (hne : p ≠ g) (hB : Bd ≤ p) :
    Calls Tryd.prog 62 #[.pointer (some ⟨p, 0, none⟩), .agg #[.int .i64 1, .int .i64 (y : Int), .int .i64 n]] w (XG Bd p g d m xs (doX xs 1 y n) (xs.getD y 0) w) := by
  obtain ⟨g', cs, e, hgb, hk, hpi⟩ := ho.row7 (by omega)
  injection e with e
  injection e with e
  subst e
  obtain ⟨x, hxe⟩ : ∃ x, xs.getD y 0 = x := ⟨_, rfl⟩
  have hc := hpi.2 y (by omega)
  rw [hxe] at hc hx ⊢
  obtain ⟨hx0, hx1⟩ := hx
  have HX := Lib.hid hxe; have HL := Lib.hid hl; clear hxe hl hpi
  have hp1 := hp.alloc (.cells #[.int .i64 1, .int .i64 (y : Int), .int .i64 n] 48)
  have hk1 := hk.alloc (.cells #[.int .i64 1, .int .i64 (y : Int), .int .i64 n] 48)
  have ho1 := Lib.hid (ho.up (.cells #[.int .i64 1, .int .i64 (y : Int), .int .i64 n] 48))
  have kc1 := Blk.new w 48 #[.int .i64 1, .int .i64 (y : Int), .int .i64 n]
  have hBw : Bd ≤ w.heap.size := by have := hp.lt; omega
  have hB1 : Below Bd w (w.alloc (.cells #[.int .i64 1, .int .i64 (y : Int), .int .i64 n] 48)) := (Below.refl _ _).alloc hBw _
  have hz1 : Bd ≤ (w.alloc (.cells #[.int .i64 1, .int .i64 (y : Int), .int .i64 n] 48)).heap.size := by simp; omega
  have hpl := hp.lt
  have hgl := hk.lt
  have g0 : (0 : Int) ≤ (y : Int) := by omega
  have g1 : (y : Int) < 4 := by omega
  clear hp hk ho
  go_enter Tryd.func62, Tryd.ntmps62
  go_wp2
  generalize w.alloc (.cells #[.int .i64 1, .int .i64 (y : Int), .int .i64 n] 48) = w1 at *
  have C0 := lat_blk kc1
  have C1 := lat_blk hp1
  have C2 := fun x : Lat w1 => x.cell ((hk1.cell y).trans hc)
  refine wp_region_lat (by kernel_rfl) (by kernel_rfl) ?_
  repeat (go_big_quiet_step (fail))
  refine wpQuiet_nil ?_
  rintro w3 ⟨⟨_, hb3⟩, rfl⟩
  clear C0 C1 C2
  have hp3 := hp1.on hb3
  have hk3 := hk1.on hb3
  have ho3 := Lib.hid (ho1.out.on hb3)
  have kc3 := kc1.on hb3
  have hB3 : Below Bd w w3 := hB1.trans (hb3.mono hz1)
  have hw3 : w.heap.size < w3.heap.size := kc3.lt
  clear hp1 hk1 ho1 kc1 hB1 hz1 hb3
  have rp := hp3.rule
  have fp := fun i => hp3.frozen i
  have rc := kc3.rule
  go_wp2
  have hp4 : Blk w3.drew p _ _ := hp3.dr
  have hk4 : Blk w3.drew g _ _ := hk3.dr
  have ho4 : Hid (OI w3.drew 3 Bd (some ⟨g, 0, none⟩) xs) := Lib.hid (ho3.out)
  have kc4 : Blk w3.drew _ _ _ := kc3.dr
  have hB4 : Below Bd w w3.drew := hB3.drew
  have ry3 := (hk3.cell y).trans hc
  clear hp3 hk3 ho3 kc3 hB3
  go_still_tail 8, (by kernel_rfl)
  change wpList _ _ _ _ _ w3.drew
  clear rp fp rc ry3
  generalize w3.drew = w4 at *
  have rp := hp4.rule
  have rc := kc4.rule
  have ry := (hk4.cell y).trans hc
  have fy := hk4.frozen y
  have hp5 := hp4.far (p := ⟨g, y, none⟩) hne (.int .i64 (n))
  have rp5 := hp5.rule
  have fp5 := fun i => hp5.frozen i
  have ho5 := Lib.hid (OI.set7 (v := n) ho4.out (by rw [HL.out]; exact hy))
  go_wp2
  go_ret
  refine ⟨rfl, hp5.set_ 1 _, ?_, Below.setCell (Below.setCell hB4 hgb _) hB _⟩
  have e : doX xs 1 y n = xs.set y (n) := by unfold doX doN; rw [if_pos rfl]
  rw [e]
  rcases ho5.out with ⟨h, _⟩ | ⟨g2, cur, e2, hb2, hk2, hq2⟩
  · cases h
  · refine .inr ⟨g2, cur, e2, hb2, hk2.far ?_ _, hq2⟩
    injection e2 with e2
    injection e2 with e2
    subst e2
    exact fun h => hne h.symm
set_option maxHeartbeats 1600000 in
theorem exec2 (Bd p g d : Nat) (m n : Int) (y : Nat) (xs : List Int) (w : World) (hl : xs.length = 4) (hy : y < 4) (h0 : 0 ≤ n) (h1 : n ≤ 4) (hm0 : 0 ≤ m) (hm1 : m ≤ 999) (hx : 0 ≤ xs.getD y 0 ∧ xs.getD y 0 ≤ 1000)
    (hp : Blk w p 46 #[.slice (some ⟨g, 0, none⟩) 4 d, .int .i64 m]) (ho : OI w 3 Bd (some ⟨g, 0, none⟩) xs) (hne : p ≠ g) (hB : Bd ≤ p) :
    Calls Tryd.prog 62 #[.pointer (some ⟨p, 0, none⟩), .agg #[.int .i64 2, .int .i64 (y : Int), .int .i64 n]] w (XG Bd p g d m xs (doX xs 2 y n) (xs.getD y 0) w) := by
  obtain ⟨g', cs, e, hgb, hk, hpi⟩ := ho.row7 (by omega)
  injection e with e
  injection e with e
  subst e
  obtain ⟨x, hxe⟩ : ∃ x, xs.getD y 0 = x := ⟨_, rfl⟩
  have hc := hpi.2 y (by omega)
  rw [hxe] at hc hx ⊢
  obtain ⟨hx0, hx1⟩ := hx
  have HX := Lib.hid hxe; have HL := Lib.hid hl; clear hxe hl hpi
  have hp1 := hp.alloc (.cells #[.int .i64 2, .int .i64 (y : Int), .int .i64 n] 48)
  have hk1 := hk.alloc (.cells #[.int .i64 2, .int .i64 (y : Int), .int .i64 n] 48)
  have ho1 := Lib.hid (ho.up (.cells #[.int .i64 2, .int .i64 (y : Int), .int .i64 n] 48))
  have kc1 := Blk.new w 48 #[.int .i64 2, .int .i64 (y : Int), .int .i64 n]
  have hBw : Bd ≤ w.heap.size := by have := hp.lt; omega
  have hB1 : Below Bd w (w.alloc (.cells #[.int .i64 2, .int .i64 (y : Int), .int .i64 n] 48)) := (Below.refl _ _).alloc hBw _
  have hz1 : Bd ≤ (w.alloc (.cells #[.int .i64 2, .int .i64 (y : Int), .int .i64 n] 48)).heap.size := by simp; omega
  have hpl := hp.lt
  have hgl := hk.lt
  have g0 : (0 : Int) ≤ (y : Int) := by omega
  have g1 : (y : Int) < 4 := by omega
  clear hp hk ho
  go_enter Tryd.func62, Tryd.ntmps62
  go_wp2
  generalize w.alloc (.cells #[.int .i64 2, .int .i64 (y : Int), .int .i64 n] 48) = w1 at *
  have C0 := lat_blk kc1
  have C1 := lat_blk hp1
  have C2 := fun x : Lat w1 => x.cell ((hk1.cell y).trans hc)
  refine wp_region_lat (by kernel_rfl) (by kernel_rfl) ?_
  repeat (go_big_quiet_step (fail))
  refine wpQuiet_nil ?_
  rintro w3 ⟨⟨_, hb3⟩, rfl⟩
  clear C0 C1 C2
  have hp3 := hp1.on hb3
  have hk3 := hk1.on hb3
  have ho3 := Lib.hid (ho1.out.on hb3)
  have kc3 := kc1.on hb3
  have hB3 : Below Bd w w3 := hB1.trans (hb3.mono hz1)
  have hw3 : w.heap.size < w3.heap.size := kc3.lt
  clear hp1 hk1 ho1 kc1 hB1 hz1 hb3
  have rp := hp3.rule
  have fp := fun i => hp3.frozen i
  have rc := kc3.rule
  go_wp2_with (go_at_call 106; refine (grown_any x n hx0 hx1 h0 h1 _).mono ?_; rintro e w9 ⟨rfl, h9⟩; obtain rfl := h9.symm)
  have hp4 : Blk w3.drew p _ _ := hp3.dr
  have hk4 : Blk w3.drew g _ _ := hk3.dr
  have ho4 : Hid (OI w3.drew 3 Bd (some ⟨g, 0, none⟩) xs) := Lib.hid (ho3.out)
  have kc4 : Blk w3.drew _ _ _ := kc3.dr
  have hB4 : Below Bd w w3.drew := hB3.drew
  have ry3 := (hk3.cell y).trans hc
  clear hp3 hk3 ho3 kc3 hB3
  go_still_tail 8, (by kernel_rfl)
  change wpList _ _ _ _ _ w3.drew
  clear rp fp rc ry3
  generalize w3.drew = w4 at *
  have rp := hp4.rule
  have rc := kc4.rule
  have ry := (hk4.cell y).trans hc
  have fy := hk4.frozen y
  have hp5 := hp4.far (p := ⟨g, y, none⟩) hne (.int .i64 (growN x n))
  have rp5 := hp5.rule
  have fp5 := fun i => hp5.frozen i
  have ho5 := Lib.hid (OI.set7 (v := growN x n) ho4.out (by rw [HL.out]; exact hy))
  go_wp2
  go_ret
  refine ⟨rfl, hp5.set_ 1 _, ?_, Below.setCell (Below.setCell hB4 hgb _) hB _⟩
  have e : doX xs 2 y n = xs.set y (growN x n) := by unfold doX doN; rw [if_neg (by decide), if_pos rfl, HX.out]
  rw [e]
  rcases ho5.out with ⟨h, _⟩ | ⟨g2, cur, e2, hb2, hk2, hq2⟩
  · cases h
  · refine .inr ⟨g2, cur, e2, hb2, hk2.far ?_ _, hq2⟩
    injection e2 with e2
    injection e2 with e2
    subst e2
    exact fun h => hne h.symm
theorem exec_any (Bd p g d : Nat) (m k n : Int) (y : Nat) (xs : List Int) (w : World) (hl : xs.length = 4) (hy : y < 4) (hk0 : 0 ≤ k) (hk1 : k ≤ 2) (h0 : 0 ≤ n) (h1 : n ≤ 4) (hm0 : 0 ≤ m) (hm1 : m ≤ 999) (hx : 0 ≤ xs.getD y 0 ∧ xs.getD y 0 ≤ 1000)
    (hp : Blk w p 46 #[.slice (some ⟨g, 0, none⟩) 4 d, .int .i64 m]) (ho : OI w 3 Bd (some ⟨g, 0, none⟩) xs) (hne : p ≠ g) (hB : Bd ≤ p) :
    Calls Tryd.prog 62 #[.pointer (some ⟨p, 0, none⟩), .agg #[.int .i64 k, .int .i64 (y : Int), .int .i64 n]] w (XG Bd p g d m xs (doX xs k y n) (xs.getD y 0) w) := by
  rcases (show k = 0 ∨ k = 1 ∨ k = 2 by omega) with rfl | rfl | rfl
  · exact exec0 Bd p g d m n y xs w hl hy h0 h1 hm0 hm1 hx hp ho hne hB
  · exact exec1 Bd p g d m n y xs w hl hy h0 h1 hm0 hm1 hx hp ho hne hB
  · exact exec2 Bd p g d m n y xs w hl hy h0 h1 hm0 hm1 hx hp ho hne hB
end Go.Proofs.YtbogagddjkghhaaDoor.V
