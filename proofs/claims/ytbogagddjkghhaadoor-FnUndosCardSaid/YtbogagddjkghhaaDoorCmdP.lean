/-
  The program's words of a command: contract. No statement is proved here.
-/
import Derived.Test.YtbogagddjkghhaaDoorCmdT
import Derived.Test.YtbogagddjkghhaaDoorGrow
import Derived.Test.YtbogagddjkghhaaDoorShelf
set_option linter.unusedVariables false
set_option maxRecDepth 100000
namespace Go.Proofs.YtbogagddjkghhaaDoor.V
open Go.RowKit Go.Proofs.YtbogagddjkghhaaDoor.B
theorem infoSt : (Tryd.prog.info? 9).map (fun i => (i.zero, i.size, i.bytes)) = some (some (.string ⟨#[]⟩), 1, 16) := by kernel_rfl
def dig (y : Nat) : ByteArray := ⟨(Lib.decDigits y).toArray⟩
theorem dec1 (y : Nat) (h : y < 10) : Lib.decDigits y = [UInt8.ofNat (48 + y)] := by rw [Lib.decDigits, dif_pos h]
def joined (xs : List ByteArray) : ByteArray := ⟨(Lib.join (xs.map (·.data.toList)) (⟨#[32]⟩ : ByteArray).data.toList).toArray⟩
/-- What the operations of the list of words yield. -/
def CV (w0 : World) (o : Nat) (k y : Int) (B D : ByteArray) (j : Nat) (u : Value) (w' : World) : Prop :=
  match j with
  | 0 => u = .int .i64 k
  | 1 => u = .string B
  | 2 => u = .pointer (some ⟨o, 1, none⟩)
  | 3 => u = .int .i64 y
  | 4 => u = .string D
  | 5 => ∃ g, u = .slice (some ⟨g, 0, none⟩) 2 2 ∧ w0.heap.size ≤ g ∧ Blk w' g 9 #[.string B, .string D]
  | 6 => ∃ g, u = .slice (some ⟨g, 0, none⟩) 2 2 ∧ w0.heap.size ≤ g ∧ Blk w' g 9 #[.string B, .string D]
  | _ => True
theorem CV.keep {w0 : World} {o : Nat} {k y : Int} {B D : ByteArray} : ∀ j u w1 w2, CV w0 o k y B D j u w1 → Below w1.heap.size w1 w2 → CV w0 o k y B D j u w2 := by
  intro j u w1 w2 h hb
  match j, h with
  | 0, h => exact h
  | 1, h => exact h
  | 2, h => exact h
  | 3, h => exact h
  | 4, h => exact h
  | 5, h => obtain ⟨g, e, h1, h2⟩ := h; exact ⟨g, e, h1, h2.on hb⟩
  | 6, h => obtain ⟨g, e, h1, h2⟩ := h; exact ⟨g, e, h1, h2.on hb⟩
  | _ + 7, _ => trivial
theorem reads1 (W : World) (u : Value) (g : Nat) (hg : W.heap.size = g) : Reads (W.alloc (.cells #[u] 9)) (g + 1) 1 (some ⟨g, 0, none⟩) 1 [u] := by
  subst hg
  have hb := Blk.new W 9 #[u]
  refine ⟨rfl, fun _ => ⟨_, rfl, Nat.lt_succ_self _, fun j v hv => ?_⟩⟩
  match j, hv with
  | 0, hv =>
    have hadd : (⟨W.heap.size, 0, none⟩ : Addr).add 0 = ⟨W.heap.size, 0, none⟩ := rfl
    rw [hadd, hb.cell]
    exact hv
theorem own_strs {w : World} {base e n : Nat} {v : Value} {cs : List Value} (h : w.ownsRow base e 1 v (n + 1) cs) : ∃ g cap, v = .slice (some ⟨g, 0, none⟩) (n + 1) cap ∧ n + 1 ≤ cap ∧ base ≤ g ∧ g < w.heap.size ∧ ∀ j, j < n + 1 → w.cell? ⟨g, j, none⟩ = cs[j]? := by
  obtain ⟨hl, ⟨_, h1⟩ | ⟨g, cap, cur, rfl, hb, hg, hle, hmax, hsz, htake⟩⟩ := h
  · omega
  · refine ⟨g, cap, rfl, hle, hb, (Array.getElem?_eq_some_iff.1 hg).1, fun j hj => ?_⟩
    rw [cell_of_row w g j cur e (0, 0) hg, ← htake, List.getElem?_take_of_lt (by omega), Array.getElem?_toList]
theorem join_any (xs : List ByteArray) (s : ByteArray) (hs : joined xs = s) (hz : s.size ≤ 1000) (bk c : Nat) (W : World) (hc : ∀ j, j < xs.length → W.cell? ⟨bk, j, none⟩ = (xs[j]?).map Value.string) (hb : bk < W.heap.size) (hn : xs.length ≤ c) (hn2 : xs.length ≤ 10) :
    Calls Tryd.prog 45 #[.slice (some ⟨bk, 0, none⟩) xs.length c, .string ⟨#[32]⟩] W fun e w' => e = .returned (.string s) ∧ Below W.heap.size W w' := by
  have hl : (Lib.join (xs.map (·.data.toList)) (⟨#[32]⟩ : ByteArray).data.toList).length = s.size := by rw [← hs]; simp [joined, ByteArray.size]
  have := Tryd.strings_Join bk 0 c xs ⟨#[32]⟩ W (fun j x hx => by
    have hj : j < xs.length := (List.getElem?_eq_some_iff.1 hx).1
    rw [Nat.zero_add, hc j hj, hx]; rfl) hb (by omega) hn (by omega)
  rw [← hs]
  exact this
theorem word0 (W : World) : Calls Tryd.prog 67 #[.int .i64 0] W fun e w' => e = .returned (.string ⟨#[103, 101, 116]⟩) ∧ w' = W := by
  go_enter Tryd.func67, Tryd.ntmps67
  go_wp2
  go_ret
  exact ⟨rfl, rfl⟩
theorem numb0 (W : World) : Calls Tryd.prog 68 #[.int .i64 0] W fun e w' => e = .returned (.bool false) ∧ w' = W := by
  go_enter Tryd.func68, Tryd.ntmps68
  go_wp2
  go_ret
  exact ⟨rfl, rfl⟩
theorem text0 (y : Nat) (hy : y < 4) : byteCells (joined [⟨#[103, 101, 116]⟩, dig y]) = u8s (cmdT 0 y 0) ∧ (joined [⟨#[103, 101, 116]⟩, dig y]).size = 5 := by
  unfold dig
  rw [dec1 y (by omega)]
  rcases (by omega : y = 0 ∨ y = 1 ∨ y = 2 ∨ y = 3) with rfl | rfl | rfl | rfl <;> exact ⟨rfl, rfl⟩
set_option maxHeartbeats 3200000 in
theorem implCT0 (y : Nat) (hy : y < 4) (w : World) : Calls Tryd.prog 25 #[.agg #[.int .i64 0, .int .i64 (y : Int), .int .i64 (0 : Int)]] w (TX (cmdT 0 y (0 : Int)) w) := by
  have hq : cmdB 0 y (0 : Int) = true := by unfold cmdB; exact decide_eq_true (by omega)
  have HQ := Lib.hid hq; clear hq
  obtain ⟨s, hs⟩ : ∃ s, joined [⟨#[103, 101, 116]⟩, dig y] = s := ⟨_, rfl⟩
  obtain ⟨hT, hz⟩ := text0 y hy
  rw [hs] at hT hz
  have HJ := Lib.hid (fun bk c W => join_any [⟨#[103, 101, 116]⟩, dig y] s hs (by omega) bk c W)
  have HT := Lib.hid hT; have HZ := Lib.hid hz
  clear hs hT hz
  have HI := Lib.hid (fun (i : Nat) (h : i < 100) W => Tryd.strconv_Itoa_small i h W)
  have kc := fun (w : World) => conv_text w s
  have ka := Blk.new w 48 #[.int .i64 0, .int .i64 (y : Int), .int .i64 (0 : Int)]
  have hB := up_ (Below.refl w.heap.size w) (.cells #[.int .i64 0, .int .i64 (y : Int), .int .i64 (0 : Int)] 48)
  go_enter Tryd.func25, Tryd.ntmps25
  go_wp2_with fail
  refine (implCmdOk_is true 0 y (0 : Int) HQ.out _).mono ?_
  rintro e w1 ⟨rfl, hb1⟩
  have ka1 := ka.on hb1
  have hB1 := on_ hB hb1
  clear ka hB hb1
  have ra1 := ka1.rule
  have KA := Lib.hid ka1
  go_wp2_with fail
  refine wp_region_grow ?_ ?_ (CV w1 w.heap.size 0 y ⟨#[103, 101, 116]⟩ (dig y)) (by kernel_rfl) (by kernel_rfl) (by kernel_rfl) CV.keep ?_ ?_
  rotate_left
  · intro us; simp only [putL]; go_simp; exact rfl
  · refine Each.cons ?_ (Each.cons ?_ (Each.cons ?_ (Each.cons ?_ (Each.cons ?_ (Each.cons ?_ (Each.cons ?_ (Each.nil)))))))
    · intro us wx hW hD Q K hK
      go_simp
      exact hK _ _ (.int .i64 0) (by go_simp) (Below.refl _ _) rfl
    · intro us wx hW hD Q K hK
      have d0 := hD 0 (by decide)
      have e0 : us 0 = .int .i64 0 := d0
      go_simp
      go_at_call 67
      refine (word0 wx).mono ?_
      rintro e w2 ⟨rfl, h9⟩; obtain rfl := h9.symm
      exact hK _ _ (.string ⟨#[103, 101, 116]⟩) (by go_simp) (Below.refl _ _) rfl
    · intro us wx hW hD Q K hK
      go_simp
      exact hK _ _ (.pointer (some ⟨w.heap.size, 1, none⟩)) (by go_simp) (Below.refl _ _) rfl
    · intro us wx hW hD Q K hK
      have d2 := hD 2 (by decide)
      have e2 : us 2 = _ := d2
      have rp := (KA.out.below hW KA.out.lt).rule
      go_simp
      exact hK _ _ (.int .i64 (y : Int)) (by go_simp) (Below.refl _ _) rfl
    · intro us wx hW hD Q K hK
      have d3 := hD 3 (by decide)
      have e3 : us 3 = .int .i64 (y : Int) := d3
      go_simp
      go_at_call 66
      refine (HI.out y (by omega) wx).mono ?_
      rintro e w2 ⟨rfl, h9⟩; obtain rfl := h9.symm
      exact hK _ _ (.string (dig y)) (by go_simp; rfl) (Below.refl _ _) rfl
    · intro us wx hW hD Q K hK
      have d1 := hD 1 (by decide)
      have d4 := hD 4 (by decide)
      have e1 : us 1 = .string ⟨#[103, 101, 116]⟩ := d1
      have e4 : us 4 = .string (dig y) := d4
      go_simp
      exact hK _ _ (.slice (some ⟨wx.heap.size, 0, none⟩) 2 2) (by go_simp) ((Below.refl _ _).alloc (Nat.le_refl _) _) ⟨_, rfl, hW.size, Blk.new _ _ _⟩
    · intro us wx hW hD Q K hK
      have d5 := hD 5 (by decide)
      obtain ⟨g, e5, h1, h2⟩ := d5
      go_simp
      exact hK _ _ (.slice (some ⟨g, 0, none⟩) 2 2) (by go_simp) (Below.refl _ _) ⟨g, rfl, h1, h2⟩
  intro us w3 hall hb3
  obtain ⟨g, e6, hg, hkg⟩ := hall 6 (by decide)
  simp only [e6]
  clear e6 hall
  generalize us 0 = z0; generalize us 1 = z1; generalize us 2 = z2; generalize us 3 = z3; generalize us 4 = z4; generalize us 5 = z5
  clear us
  have ka3 := KA.out.on hb3
  have hB3 := on_ hB1 hb3
  have hgB := hB1
  clear ka1 ra1 KA hb3 hB1
  have ra3 := ka3.rule
  go_wp2_with fail
  refine (numb0 w3).mono ?_
  rintro e w4 ⟨rfl, h9⟩; obtain rfl := h9.symm
  go_wp2_with fail
  refine (HJ.out g 2 w3 (fun j hj => by match j, hj with | 0, _ => exact hkg.cell 0 | 1, _ => exact hkg.cell 1) hkg.lt (by simp) (by simp)).mono ?_
  rintro e w5 ⟨rfl, hb5⟩
  have hB5 := on_ hB3 hb5
  have hc := CRow.of_text w5 s 5 (by rw [HZ.out]; decide)
  go_wp2
  go_ret
  refine ⟨w5.heap.size, grownCap w5 s.size 0 5, (by rw [show (cmdT 0 (y : Int) 0).length = s.size by rw [HZ.out]; rfl]; rfl), by have := hB5.size; omega, ?_, hB5.trans (((show Below w5.heap.size w5 w5.drew from (Below.refl _ _).drew).alloc (Nat.le_refl _) _).mono hB5.size)⟩
  rw [show (cmdT 0 (y : Int) 0).length = s.size by rw [HZ.out]; rfl, ← HT.out]
  exact hc
theorem word1 (W : World) : Calls Tryd.prog 67 #[.int .i64 1] W fun e w' => e = .returned (.string ⟨#[112, 117, 116]⟩) ∧ w' = W := by
  go_enter Tryd.func67, Tryd.ntmps67
  go_wp2
  go_ret
  exact ⟨rfl, rfl⟩
theorem numb1 (W : World) : Calls Tryd.prog 68 #[.int .i64 1] W fun e w' => e = .returned (.bool true) ∧ w' = W := by
  go_enter Tryd.func68, Tryd.ntmps68
  go_wp2
  go_ret
  exact ⟨rfl, rfl⟩
theorem text1 (y n : Nat) (hy : y < 4) (hn : n < 5) : byteCells (joined [⟨#[112, 117, 116]⟩, dig y, dig n]) = u8s (cmdT 1 y n) ∧ (joined [⟨#[112, 117, 116]⟩, dig y, dig n]).size = 7 := by
  unfold dig
  rw [dec1 y (by omega), dec1 n (by omega)]
  rcases (by omega : y = 0 ∨ y = 1 ∨ y = 2 ∨ y = 3) with rfl | rfl | rfl | rfl <;> rcases (by omega : n = 0 ∨ n = 1 ∨ n = 2 ∨ n = 3 ∨ n = 4) with rfl | rfl | rfl | rfl | rfl <;> exact ⟨rfl, rfl⟩
set_option maxHeartbeats 3200000 in
theorem implCT1 (y n : Nat) (hy : y < 4) (hn : n < 5) (w : World) : Calls Tryd.prog 25 #[.agg #[.int .i64 1, .int .i64 (y : Int), .int .i64 (n : Int)]] w (TX (cmdT 1 y (n : Int)) w) := by
  have hq : cmdB 1 y (n : Int) = true := by unfold cmdB; exact decide_eq_true (by omega)
  have HQ := Lib.hid hq; clear hq
  obtain ⟨s, hs⟩ : ∃ s, joined [⟨#[112, 117, 116]⟩, dig y, dig n] = s := ⟨_, rfl⟩
  obtain ⟨hT, hz⟩ := text1 y n hy hn
  rw [hs] at hT hz
  have HJ := Lib.hid (fun bk c W => join_any [⟨#[112, 117, 116]⟩, dig y, dig n] s hs (by omega) bk c W)
  have HT := Lib.hid hT; have HZ := Lib.hid hz
  clear hs hT hz
  have HI := Lib.hid (fun (i : Nat) (h : i < 100) W => Tryd.strconv_Itoa_small i h W)
  have kc := fun (w : World) => conv_text w s
  have ka := Blk.new w 48 #[.int .i64 1, .int .i64 (y : Int), .int .i64 (n : Int)]
  have hB := up_ (Below.refl w.heap.size w) (.cells #[.int .i64 1, .int .i64 (y : Int), .int .i64 (n : Int)] 48)
  go_enter Tryd.func25, Tryd.ntmps25
  go_wp2_with fail
  refine (implCmdOk_is true 1 y (n : Int) HQ.out _).mono ?_
  rintro e w1 ⟨rfl, hb1⟩
  have ka1 := ka.on hb1
  have hB1 := on_ hB hb1
  clear ka hB hb1
  have ra1 := ka1.rule
  have KA := Lib.hid ka1
  go_wp2_with fail
  refine wp_region_grow ?_ ?_ (CV w1 w.heap.size 1 y ⟨#[112, 117, 116]⟩ (dig y)) (by kernel_rfl) (by kernel_rfl) (by kernel_rfl) CV.keep ?_ ?_
  rotate_left
  · intro us; simp only [putL]; go_simp; exact rfl
  · refine Each.cons ?_ (Each.cons ?_ (Each.cons ?_ (Each.cons ?_ (Each.cons ?_ (Each.cons ?_ (Each.cons ?_ (Each.nil)))))))
    · intro us wx hW hD Q K hK
      go_simp
      exact hK _ _ (.int .i64 1) (by go_simp) (Below.refl _ _) rfl
    · intro us wx hW hD Q K hK
      have d0 := hD 0 (by decide)
      have e0 : us 0 = .int .i64 1 := d0
      go_simp
      go_at_call 67
      refine (word1 wx).mono ?_
      rintro e w2 ⟨rfl, h9⟩; obtain rfl := h9.symm
      exact hK _ _ (.string ⟨#[112, 117, 116]⟩) (by go_simp) (Below.refl _ _) rfl
    · intro us wx hW hD Q K hK
      go_simp
      exact hK _ _ (.pointer (some ⟨w.heap.size, 1, none⟩)) (by go_simp) (Below.refl _ _) rfl
    · intro us wx hW hD Q K hK
      have d2 := hD 2 (by decide)
      have e2 : us 2 = _ := d2
      have rp := (KA.out.below hW KA.out.lt).rule
      go_simp
      exact hK _ _ (.int .i64 (y : Int)) (by go_simp) (Below.refl _ _) rfl
    · intro us wx hW hD Q K hK
      have d3 := hD 3 (by decide)
      have e3 : us 3 = .int .i64 (y : Int) := d3
      go_simp
      go_at_call 66
      refine (HI.out y (by omega) wx).mono ?_
      rintro e w2 ⟨rfl, h9⟩; obtain rfl := h9.symm
      exact hK _ _ (.string (dig y)) (by go_simp; rfl) (Below.refl _ _) rfl
    · intro us wx hW hD Q K hK
      have d1 := hD 1 (by decide)
      have d4 := hD 4 (by decide)
      have e1 : us 1 = .string ⟨#[112, 117, 116]⟩ := d1
      have e4 : us 4 = .string (dig y) := d4
      go_simp
      exact hK _ _ (.slice (some ⟨wx.heap.size, 0, none⟩) 2 2) (by go_simp) ((Below.refl _ _).alloc (Nat.le_refl _) _) ⟨_, rfl, hW.size, Blk.new _ _ _⟩
    · intro us wx hW hD Q K hK
      have d5 := hD 5 (by decide)
      obtain ⟨g, e5, h1, h2⟩ := d5
      go_simp
      exact hK _ _ (.slice (some ⟨g, 0, none⟩) 2 2) (by go_simp) (Below.refl _ _) ⟨g, rfl, h1, h2⟩
  intro us w3 hall hb3
  obtain ⟨g, e6, hg, hkg⟩ := hall 6 (by decide)
  simp only [e6]
  clear e6 hall
  generalize us 0 = z0; generalize us 1 = z1; generalize us 2 = z2; generalize us 3 = z3; generalize us 4 = z4; generalize us 5 = z5
  clear us
  have ka3 := KA.out.on hb3
  have hB3 := on_ hB1 hb3
  have hgB := hB1
  clear ka1 ra1 KA hb3 hB1
  have ra3 := ka3.rule
  go_wp2_with fail
  refine (numb1 w3).mono ?_
  rintro e w4 ⟨rfl, h9⟩; obtain rfl := h9.symm
  go_wp2_with fail
  refine (HI.out n (by omega) w3).mono ?_
  rintro e w4 ⟨rfl, h9⟩; obtain rfl := h9.symm
  obtain ⟨i0, hi0, hz0, hz1, hz2⟩ := info_parts infoSt
  have hown : w3.ownsRow w.heap.size 9 1 (.slice (some ⟨g, 0, none⟩) 2 2) 2 [.string ⟨#[112, 117, 116]⟩, .string (dig y)] := ⟨rfl, .inr ⟨g, 2, _, rfl, by have := hB3.size; have := hgB.size; omega, hkg, Nat.le_refl _, by decide, rfl, rfl⟩⟩
  have hB4 := up_ hB3 (.cells #[.string (dig n)] 9)
  have HOW := Lib.hid (hown.alloc (.cells #[.string (dig n)] 9))
  have HLT := Lib.hid (reads1 w3 (.string (dig n)) w3.heap.size rfl)
  have hz4 : w.heap.size ≤ (w3.alloc (.cells #[.string (dig n)] 9)).heap.size := hB4.size
  clear hown
  go_wp2_with (at_builtin; refine wpList_append_any _ rfl (.tmp 18) (.tmp 22) 83 rfl w.heap.size 9 i0 _ 1 16 Tryd.underlying83 hi0 hz0 hz1 hz2 rfl (by omega) (.slice (some ⟨g, 0, none⟩) 2 2) 2 _ rfl HOW.out _ _ 1 1 [.string (dig n)] rfl HLT.out (by simp [Value.oneCell']) (by simp only [maxLen]; omega) (by omega) (by exact hz4) ?_; intro v6 w6 hown6 hgr6 hat6; obtain ⟨g6, cap6, rfl, hcap6, hge6, hlt6, hcell6⟩ := own_strs hown6; clear hown6 hat6)
  have hB6 := growB hgr6 hB4 (by show w.heap.size ≤ g; have := hB3.size; have := hgB.size; omega)
  refine (HJ.out g6 cap6 w6 (fun j hj => by rw [hcell6 j hj]; match j, hj with | 0, _ => rfl | 1, _ => rfl | 2, _ => rfl) hlt6 (by simpa using hcap6) (by simp)).mono ?_
  rintro e w5 ⟨rfl, hb5⟩
  have hB5 := on_ hB6 hb5
  have hc := CRow.of_text w5 s 5 (by rw [HZ.out]; decide)
  go_wp2
  go_ret
  refine ⟨w5.heap.size, grownCap w5 s.size 0 5, (by rw [show (cmdT 1 (y : Int) (n : Int)).length = s.size by rw [HZ.out]; rfl]; rfl), by have := hB5.size; omega, ?_, hB5.trans (((show Below w5.heap.size w5 w5.drew from (Below.refl _ _).drew).alloc (Nat.le_refl _) _).mono hB5.size)⟩
  rw [show (cmdT 1 (y : Int) (n : Int)).length = s.size by rw [HZ.out]; rfl, ← HT.out]
  exact hc
theorem word2 (W : World) : Calls Tryd.prog 67 #[.int .i64 2] W fun e w' => e = .returned (.string ⟨#[97, 100, 100]⟩) ∧ w' = W := by
  go_enter Tryd.func67, Tryd.ntmps67
  go_wp2
  go_ret
  exact ⟨rfl, rfl⟩
theorem numb2 (W : World) : Calls Tryd.prog 68 #[.int .i64 2] W fun e w' => e = .returned (.bool true) ∧ w' = W := by
  go_enter Tryd.func68, Tryd.ntmps68
  go_wp2
  go_ret
  exact ⟨rfl, rfl⟩
theorem text2 (y n : Nat) (hy : y < 4) (hn : n < 5) : byteCells (joined [⟨#[97, 100, 100]⟩, dig y, dig n]) = u8s (cmdT 2 y n) ∧ (joined [⟨#[97, 100, 100]⟩, dig y, dig n]).size = 7 := by
  unfold dig
  rw [dec1 y (by omega), dec1 n (by omega)]
  rcases (by omega : y = 0 ∨ y = 1 ∨ y = 2 ∨ y = 3) with rfl | rfl | rfl | rfl <;> rcases (by omega : n = 0 ∨ n = 1 ∨ n = 2 ∨ n = 3 ∨ n = 4) with rfl | rfl | rfl | rfl | rfl <;> exact ⟨rfl, rfl⟩
set_option maxHeartbeats 3200000 in
theorem implCT2 (y n : Nat) (hy : y < 4) (hn : n < 5) (w : World) : Calls Tryd.prog 25 #[.agg #[.int .i64 2, .int .i64 (y : Int), .int .i64 (n : Int)]] w (TX (cmdT 2 y (n : Int)) w) := by
  have hq : cmdB 2 y (n : Int) = true := by unfold cmdB; exact decide_eq_true (by omega)
  have HQ := Lib.hid hq; clear hq
  obtain ⟨s, hs⟩ : ∃ s, joined [⟨#[97, 100, 100]⟩, dig y, dig n] = s := ⟨_, rfl⟩
  obtain ⟨hT, hz⟩ := text2 y n hy hn
  rw [hs] at hT hz
  have HJ := Lib.hid (fun bk c W => join_any [⟨#[97, 100, 100]⟩, dig y, dig n] s hs (by omega) bk c W)
  have HT := Lib.hid hT; have HZ := Lib.hid hz
  clear hs hT hz
  have HI := Lib.hid (fun (i : Nat) (h : i < 100) W => Tryd.strconv_Itoa_small i h W)
  have kc := fun (w : World) => conv_text w s
  have ka := Blk.new w 48 #[.int .i64 2, .int .i64 (y : Int), .int .i64 (n : Int)]
  have hB := up_ (Below.refl w.heap.size w) (.cells #[.int .i64 2, .int .i64 (y : Int), .int .i64 (n : Int)] 48)
  go_enter Tryd.func25, Tryd.ntmps25
  go_wp2_with fail
  refine (implCmdOk_is true 2 y (n : Int) HQ.out _).mono ?_
  rintro e w1 ⟨rfl, hb1⟩
  have ka1 := ka.on hb1
  have hB1 := on_ hB hb1
  clear ka hB hb1
  have ra1 := ka1.rule
  have KA := Lib.hid ka1
  go_wp2_with fail
  refine wp_region_grow ?_ ?_ (CV w1 w.heap.size 2 y ⟨#[97, 100, 100]⟩ (dig y)) (by kernel_rfl) (by kernel_rfl) (by kernel_rfl) CV.keep ?_ ?_
  rotate_left
  · intro us; simp only [putL]; go_simp; exact rfl
  · refine Each.cons ?_ (Each.cons ?_ (Each.cons ?_ (Each.cons ?_ (Each.cons ?_ (Each.cons ?_ (Each.cons ?_ (Each.nil)))))))
    · intro us wx hW hD Q K hK
      go_simp
      exact hK _ _ (.int .i64 2) (by go_simp) (Below.refl _ _) rfl
    · intro us wx hW hD Q K hK
      have d0 := hD 0 (by decide)
      have e0 : us 0 = .int .i64 2 := d0
      go_simp
      go_at_call 67
      refine (word2 wx).mono ?_
      rintro e w2 ⟨rfl, h9⟩; obtain rfl := h9.symm
      exact hK _ _ (.string ⟨#[97, 100, 100]⟩) (by go_simp) (Below.refl _ _) rfl
    · intro us wx hW hD Q K hK
      go_simp
      exact hK _ _ (.pointer (some ⟨w.heap.size, 1, none⟩)) (by go_simp) (Below.refl _ _) rfl
    · intro us wx hW hD Q K hK
      have d2 := hD 2 (by decide)
      have e2 : us 2 = _ := d2
      have rp := (KA.out.below hW KA.out.lt).rule
      go_simp
      exact hK _ _ (.int .i64 (y : Int)) (by go_simp) (Below.refl _ _) rfl
    · intro us wx hW hD Q K hK
      have d3 := hD 3 (by decide)
      have e3 : us 3 = .int .i64 (y : Int) := d3
      go_simp
      go_at_call 66
      refine (HI.out y (by omega) wx).mono ?_
      rintro e w2 ⟨rfl, h9⟩; obtain rfl := h9.symm
      exact hK _ _ (.string (dig y)) (by go_simp; rfl) (Below.refl _ _) rfl
    · intro us wx hW hD Q K hK
      have d1 := hD 1 (by decide)
      have d4 := hD 4 (by decide)
      have e1 : us 1 = .string ⟨#[97, 100, 100]⟩ := d1
      have e4 : us 4 = .string (dig y) := d4
      go_simp
      exact hK _ _ (.slice (some ⟨wx.heap.size, 0, none⟩) 2 2) (by go_simp) ((Below.refl _ _).alloc (Nat.le_refl _) _) ⟨_, rfl, hW.size, Blk.new _ _ _⟩
    · intro us wx hW hD Q K hK
      have d5 := hD 5 (by decide)
      obtain ⟨g, e5, h1, h2⟩ := d5
      go_simp
      exact hK _ _ (.slice (some ⟨g, 0, none⟩) 2 2) (by go_simp) (Below.refl _ _) ⟨g, rfl, h1, h2⟩
  intro us w3 hall hb3
  obtain ⟨g, e6, hg, hkg⟩ := hall 6 (by decide)
  simp only [e6]
  clear e6 hall
  generalize us 0 = z0; generalize us 1 = z1; generalize us 2 = z2; generalize us 3 = z3; generalize us 4 = z4; generalize us 5 = z5
  clear us
  have ka3 := KA.out.on hb3
  have hB3 := on_ hB1 hb3
  have hgB := hB1
  clear ka1 ra1 KA hb3 hB1
  have ra3 := ka3.rule
  go_wp2_with fail
  refine (numb2 w3).mono ?_
  rintro e w4 ⟨rfl, h9⟩; obtain rfl := h9.symm
  go_wp2_with fail
  refine (HI.out n (by omega) w3).mono ?_
  rintro e w4 ⟨rfl, h9⟩; obtain rfl := h9.symm
  obtain ⟨i0, hi0, hz0, hz1, hz2⟩ := info_parts infoSt
  have hown : w3.ownsRow w.heap.size 9 1 (.slice (some ⟨g, 0, none⟩) 2 2) 2 [.string ⟨#[97, 100, 100]⟩, .string (dig y)] := ⟨rfl, .inr ⟨g, 2, _, rfl, by have := hB3.size; have := hgB.size; omega, hkg, Nat.le_refl _, by decide, rfl, rfl⟩⟩
  have hB4 := up_ hB3 (.cells #[.string (dig n)] 9)
  have HOW := Lib.hid (hown.alloc (.cells #[.string (dig n)] 9))
  have HLT := Lib.hid (reads1 w3 (.string (dig n)) w3.heap.size rfl)
  have hz4 : w.heap.size ≤ (w3.alloc (.cells #[.string (dig n)] 9)).heap.size := hB4.size
  clear hown
  go_wp2_with (at_builtin; refine wpList_append_any _ rfl (.tmp 18) (.tmp 22) 83 rfl w.heap.size 9 i0 _ 1 16 Tryd.underlying83 hi0 hz0 hz1 hz2 rfl (by omega) (.slice (some ⟨g, 0, none⟩) 2 2) 2 _ rfl HOW.out _ _ 1 1 [.string (dig n)] rfl HLT.out (by simp [Value.oneCell']) (by simp only [maxLen]; omega) (by omega) (by exact hz4) ?_; intro v6 w6 hown6 hgr6 hat6; obtain ⟨g6, cap6, rfl, hcap6, hge6, hlt6, hcell6⟩ := own_strs hown6; clear hown6 hat6)
  have hB6 := growB hgr6 hB4 (by show w.heap.size ≤ g; have := hB3.size; have := hgB.size; omega)
  refine (HJ.out g6 cap6 w6 (fun j hj => by rw [hcell6 j hj]; match j, hj with | 0, _ => rfl | 1, _ => rfl | 2, _ => rfl) hlt6 (by simpa using hcap6) (by simp)).mono ?_
  rintro e w5 ⟨rfl, hb5⟩
  have hB5 := on_ hB6 hb5
  have hc := CRow.of_text w5 s 5 (by rw [HZ.out]; decide)
  go_wp2
  go_ret
  refine ⟨w5.heap.size, grownCap w5 s.size 0 5, (by rw [show (cmdT 2 (y : Int) (n : Int)).length = s.size by rw [HZ.out]; rfl]; rfl), by have := hB5.size; omega, ?_, hB5.trans (((show Below w5.heap.size w5 w5.drew from (Below.refl _ _).drew).alloc (Nat.le_refl _) _).mono hB5.size)⟩
  rw [show (cmdT 2 (y : Int) (n : Int)).length = s.size by rw [HZ.out]; rfl, ← HT.out]
  exact hc
end Go.Proofs.YtbogagddjkghhaaDoor.V
