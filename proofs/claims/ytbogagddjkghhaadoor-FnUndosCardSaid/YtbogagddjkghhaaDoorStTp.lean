/-
  The program's words of a store: contract. No statement is proved here.
-/
import Derived.Test.YtbogagddjkghhaaDoorStT
import Derived.Test.YtbogagddjkghhaaDoorTab
import Derived.Test.YtbogagddjkghhaaDoorCmdP
import Derived.Test.YtbogagddjkghhaaDoorShelf2
import Derived.Lib.AppendIntMem
set_option linter.unusedVariables false
set_option maxRecDepth 100000
namespace Go.Proofs.YtbogagddjkghhaaDoor.V
open Go.RowKit Go.Proofs.YtbogagddjkghhaaDoor.B
abbrev TabAt (w : World) : Prop := Lib.TabIs Tryd.prog w "internal/strconv.uint64pow10" .u64 Lib.pow10Tab
theorem itoa_any (n : Nat) (hn : n ≤ 100000) (w : World) (h : TabAt w) : Calls Tryd.prog 66 #[.int .i64 n] w fun e w' => e = .returned (.string (dig n)) ∧ Below w.heap.size w w' := by
  refine (Tryd.strconv_Itoa n (by omega) (by omega) w h).mono ?_
  rintro e w' ⟨rfl, k, os, rfl⟩
  refine ⟨?_, Lib.below_grow _ w (Nat.le_refl _) k os⟩
  have : Lib.itoa (n : Int) = Lib.decDigits n := by unfold Lib.itoa; rw [if_neg (by omega)]; simp
  rw [this]; rfl
def strs (xs : List Int) (m : Nat) (j : Nat) : List ByteArray := dig m :: (xs.take j).map fun x => dig x.toNat
theorem strs_step (xs : List Int) (m j x : Nat) (h : j < xs.length) (hx : xs.getD j 0 = (x : Int)) : strs xs m (j + 1) = strs xs m j ++ [dig x] := by
  unfold strs
  have e : xs.take (j + 1) = xs.take j ++ [xs.getD j 0] := by
    rw [List.take_add_one, List.getD_eq_getElem?_getD, List.getElem?_eq_getElem h]
    rfl
  rw [e, List.map_append, hx]
  simp
theorem textS (xs : List Int) (m : Nat) (h4 : xs.length = 4) : byteCells (joined (strs xs m 4)) = u8s (stT xs m 4) ∧ (strs xs m 4).length = 5 := by
  match xs, h4 with
  | [a, b, c, d], _ =>
    refine ⟨?_, rfl⟩
    simp [joined, strs, stT, dig, digs, u8s, byteCells, Lib.join, List.intercalate, List.intersperse, List.flatMap]
    rfl
theorem join_big (xs : List ByteArray) (s : ByteArray) (hs : joined xs = s) (hz : s.size ≤ 100000) (bk c : Nat) (W : World) (hc : ∀ j, j < xs.length → W.cell? ⟨bk, j, none⟩ = (xs[j]?).map Value.string) (hb : bk < W.heap.size) (hn : xs.length ≤ c) (hn2 : xs.length ≤ 10) :
    Calls Tryd.prog 45 #[.slice (some ⟨bk, 0, none⟩) xs.length c, .string ⟨#[32]⟩] W fun e w' => e = .returned (.string s) ∧ Below W.heap.size W w' := by
  have hl : (Lib.join (xs.map (·.data.toList)) (⟨#[32]⟩ : ByteArray).data.toList).length = s.size := by rw [← hs]; simp [joined, ByteArray.size]
  have := Tryd.strings_Join bk 0 c xs ⟨#[32]⟩ W (fun j x hx => by
    have hj : j < xs.length := (List.getElem?_eq_some_iff.1 hx).1
    rw [Nat.zero_add, hc j hj, hx]; rfl) hb (by omega) hn (by omega)
  rw [← hs]
  exact this
theorem own_on9 {w w' : World} {b e size n : Nat} {v : Value} {xs : List Value} (h : w.ownsRow b e size v n xs) (hb : Below w.heap.size w w') : w'.ownsRow b e size v n xs := by
  obtain ⟨hl, h⟩ := h
  refine ⟨hl, ?_⟩
  rcases h with h1 | ⟨g, cap, cur, h1, h2, h3, h4⟩
  · exact .inl h1
  · exact .inr ⟨g, cap, cur, h1, h2, (hb.block g (Array.getElem?_eq_some_iff.1 h3).1).trans h3, h4⟩
theorem stT_len (xs : List Int) (m : Nat) (h4 : xs.length = 4) (hm : m ≤ 1000) (hx : ∀ j, j < 4 → xs.getD j 0 ≤ 1000) : (stT xs m 4).length ≤ 5009 := by
  match xs, h4, hx with
  | [a, b, c, d], _, hx =>
    have h0 := hx 0 (by omega); have h1 := hx 1 (by omega); have h2 := hx 2 (by omega); have h3 := hx 3 (by omega)
    simp at h0 h1 h2 h3
    have l0 := (digs_len m).2; have l1 := (digs_len a.toNat).2; have l2 := (digs_len b.toNat).2; have l3 := (digs_len c.toNat).2; have l4 := (digs_len d.toNat).2
    simp [stT, List.flatMap]
    omega
set_option maxHeartbeats 6400000 in
theorem implST (A : Option Addr) (c : Nat) (xs : List Int) (m : Nat) (w : World) (htab : TabAt w) (hr : RdI w w.heap.size A xs) (hq : stB xs m = true) :
    Calls Tryd.prog 24 #[.agg #[.slice A xs.length c, .int .i64 (m : Int)]] w (TX (stT xs m 4) w) := by
  obtain ⟨l4, _, hm1, hall⟩ := stB_yes hq
  have HOK := Lib.hid (fun (W : World) h => implStoreOk_is true A c xs m hq W h (by omega))
  obtain ⟨s, hs⟩ : ∃ s, joined (strs xs m 4) = s := ⟨_, rfl⟩
  obtain ⟨hT, hsl⟩ := textS xs m l4
  have hlen := stT_len xs m l4 (by omega) (fun j hj => (hall j (by omega)).2)
  rw [hs] at hT
  have hz : s.size = (stT xs m 4).length := by rw [← byteCells_length, hT, u8s_len]
  have HJ := Lib.hid (fun bk c W => join_big (strs xs m 4) s hs (by omega) bk c W)
  rw [hsl] at HJ
  rw [l4] at HOK ⊢
  obtain ⟨b, off, rfl, hb, hcx⟩ := hr (by omega)
  have HCX := Lib.hid hcx; have HALL := Lib.hid hall; have H4 := Lib.hid l4; have HT := Lib.hid hT; have HZ := Lib.hid hz; have HL := Lib.hid hlen; have HTAB := Lib.hid htab
  have HR := Lib.hid hr
  have hs5 := Lib.hid hsl
  clear hcx hall l4 hq hr hT hz hs hsl hlen htab
  obtain ⟨i0, hi0, hz0, hz1, hz2⟩ := info_parts infoSt
  have kc := fun (w : World) => conv_text w s
  have ka := Blk.new w 46 #[.slice (some ⟨b, off, none⟩) 4 c, .int .i64 (m : Int)]
  have hB := up_ (Below.refl w.heap.size w) (.cells #[.slice (some ⟨b, off, none⟩) 4 c, .int .i64 (m : Int)] 46)
  have hR1 := Lib.hid (HR.out.up (.cells #[.slice (some ⟨b, off, none⟩) 4 c, .int .i64 (m : Int)] 46))
  go_enter Tryd.func24, Tryd.ntmps24
  go_wp2_with fail
  refine (HOK.out _ hR1.out).mono ?_
  rintro e w1 ⟨rfl, hb1⟩
  have ka1 := ka.on hb1
  have hB1 := on_ hB hb1
  clear ka hB hb1 hR1 HOK
  have ra1 := ka1.rule
  have hz1' := ka1.lt
  go_wp2_with fail
  refine (itoa_any m (by omega) w1 (tab_on HTAB.out hB1)).mono ?_
  rintro e w2 ⟨rfl, hb2⟩
  have ka3 := (ka1.on hb2).alloc (.cells #[.string (dig m)] 9)
  have hB3 := Lib.hid (up_ (on_ hB1 hb2) (.cells #[.string (dig m)] 9))
  have hz2' := hb2.size
  have hown : Hid ((w2.alloc (.cells #[.string (dig m)] 9)).ownsRow w.heap.size 9 1 (.slice (some ⟨w2.heap.size, 0, none⟩) 1 1) 1 ((strs xs m 0).map Value.string)) := ⟨rfl, .inr ⟨w2.heap.size, 1, _, rfl, by omega, Blk.new w2 9 #[.string (dig m)], Nat.le_refl _, by decide, rfl, rfl⟩⟩
  clear ka1 hB1 hb2 ra1
  have ra3 := ka3.rule
  go_wp2
  go_loopw [3, 5, 16] (fun v val i wr => ∃ (j : Nat), j ≤ 4 ∧ i = .int .i64 j ∧ Hid (wr.ownsRow w.heap.size 9 1 v (j + 1) ((strs xs m j).map Value.string)) ∧ Hid (Below w.heap.size w wr)) (fun _ _ i _ => 4 - (intOf i).toNat)
  case atStart => exact ⟨0, by omega, rfl, hown, hB3⟩
  case round =>
    clear hown hB3 ra3 ka3
    obtain ⟨j, hj, rfl, hs, hB⟩ := hrel
    by_cases hlj : j < 4
    · obtain ⟨hx0, hx1⟩ := HALL.out j (by rw [H4.out]; exact hlj)
      obtain ⟨x, hx⟩ : ∃ x : Nat, xs.getD j 0 = (x : Int) := ⟨(xs.getD j 0).toNat, by omega⟩
      have hcj := HCX.out j (by rw [H4.out]; exact hlj)
      have HST := Lib.hid (strs_step xs m j x (by rw [H4.out]; exact hlj) hx)
      rw [hx] at hcj hx0 hx1
      clear hx
      have hcw := (hB.out.cell (p := ⟨b, off + j, none⟩) hb).trans hcj
      have j0 : (0 : Int) ≤ (j : Int) := by omega
      have j1 : (j : Int) < 4 := by omega
      go_wp2_with fail
      refine (itoa_any x (by omega) wr (tab_on HTAB.out hB.out)).mono ?_
      rintro e w5 ⟨rfl, hb5⟩
      have hs6 := Lib.hid ((own_on9 hs.out hb5).alloc (.cells #[.string (dig x)] 9))
      have hB6 := Lib.hid (up_ (on_ hB.out hb5) (.cells #[.string (dig x)] 9))
      have HLT := Lib.hid (reads1 w5 (.string (dig x)) w5.heap.size rfl)
      have hz6 := hB6.out.size
      clear hb5
      go_wp2_with (at_builtin; refine wpList_append_any _ rfl (.tmp 20) (.tmp 23) 83 rfl w.heap.size 9 i0 _ 1 16 Tryd.underlying83 hi0 hz0 hz1 hz2 rfl (by omega) u3 (j + 1) _ rfl hs6.out _ _ 1 1 [.string (dig x)] rfl HLT.out (by simp [Value.oneCell']) (by simp only [maxLen]; omega) (by omega) (by exact hz6) ?_; intro v2 w9 hown2 hgr2 hat2)
      go_roundw
      case rel => exact ⟨j + 1, by omega, by go_num, (by show World.ownsRow _ _ _ _ _ _ _; rw [HST.out, List.map_append]; exact hown2), hB6.out.trans (keepL hgr2 (fun g e => (hs6.out.lt g e).1) hz6)⟩
      case measure => simp [intOf]; omega
    · obtain rfl : j = 4 := by omega
      obtain ⟨g, cap, rfl, hcap, hge, hlt, hcell⟩ := own_strs hs.out
      go_wp2_with fail
      refine (HJ.out g cap wr (fun j hj => by rw [hcell j (by omega), List.getElem?_map]) hlt (by omega) (by omega)).mono ?_
      rintro e w5 ⟨rfl, hb5⟩
      have hB5 := on_ hB.out hb5
      have hc := CRow.of_text w5 s 5 (by rw [HZ.out]; have := HL.out; unfold maxLen; omega)
      go_wp2
      go_ret
      refine ⟨w5.heap.size, grownCap w5 s.size 0 5, (by rw [← HZ.out]; rfl), hB5.size, ?_, hB5.trans (((show Below w5.heap.size w5 w5.drew from (Below.refl _ _).drew).alloc (Nat.le_refl _) _).mono hB5.size)⟩
      rw [← HZ.out, ← HT.out]
      exact hc
end Go.Proofs.YtbogagddjkghhaaDoor.V
