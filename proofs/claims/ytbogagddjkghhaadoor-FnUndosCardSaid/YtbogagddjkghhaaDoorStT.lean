/-
  The model's words of a store: contract. No statement is proved here.
-/
import Derived.Test.YtbogagddjkghhaaDoorDigs
import Derived.Test.YtbogagddjkghhaaDoorStO
set_option linter.unusedVariables false
set_option maxRecDepth 100000
namespace Go.Proofs.YtbogagddjkghhaaDoor.V
open Go.RowKit Go.Proofs.YtbogagddjkghhaaDoor.B
def stT (xs : List Int) (m : Nat) (j : Nat) : List Int := digs m ++ (xs.take j).flatMap fun x => 32 :: digs x.toNat
theorem stT_step (xs : List Int) (m j x : Nat) (h : j < xs.length) (hx : xs.getD j 0 = (x : Int)) : stT xs m (j + 1) = stT xs m j ++ [32] ++ digs x := by
  unfold stT
  have e : xs.take (j + 1) = xs.take j ++ [xs.getD j 0] := by
    rw [List.take_add_one, List.getD_eq_getElem?_getD, List.getElem?_eq_getElem h]
    rfl
  rw [e, List.flatMap_append, hx]
  simp
set_option maxHeartbeats 6400000 in
theorem specST (A : Option Addr) (c : Nat) (xs : List Int) (m : Nat) (w : World) (hr : RdI w w.heap.size A xs) (hq : stB xs m = true) :
    Calls Tryd.prog 35 #[.agg #[.slice A xs.length c, .int .i64 (m : Int)]] w (TX (stT xs m 4) w) := by
  obtain ⟨l4, _, hm1, hall⟩ := stB_yes hq
  have HOK := Lib.hid (fun (W : World) h => specStoreOk_is true A c xs m hq W h (by omega))
  rw [l4] at HOK ⊢
  obtain ⟨b, off, rfl, hb, hcx⟩ := hr (by omega)
  have HCX := Lib.hid hcx; have HALL := Lib.hid hall; have H4 := Lib.hid l4
  have HR := Lib.hid hr
  clear hcx hall l4 hq hr
  obtain ⟨i0, hi0, hz0, hz1, hz2⟩ := info_parts infoB8
  have ka := Blk.new w 46 #[.slice (some ⟨b, off, none⟩) 4 c, .int .i64 (m : Int)]
  have hB := up_ (Below.refl w.heap.size w) (.cells #[.slice (some ⟨b, off, none⟩) 4 c, .int .i64 (m : Int)] 46)
  have hR1 := Lib.hid (HR.out.up (.cells #[.slice (some ⟨b, off, none⟩) 4 c, .int .i64 (m : Int)] 46))
  go_enter Tryd.func35, Tryd.ntmps35
  go_wp2_with fail
  refine (HOK.out _ hR1.out).mono ?_
  rintro e w1 ⟨rfl, hb1⟩
  have ka1 := ka.on hb1
  have hB1 := on_ hB hb1
  clear ka hB hb1 hR1 HOK
  have ra1 := ka1.rule
  have hz1' := ka1.lt
  go_wp2_with fail
  refine (digs_any m (by omega) w1).mono ?_
  rintro e w2 ⟨g0, cap0, rfl, hg0, hc0, hb2⟩
  have ka2 := Lib.hid (ka1.on hb2)
  have hB2 := Lib.hid (on_ hB1 hb2)
  have hl0 := (digs_len m).2
  have hc0 := Lib.hid hc0
  have hg0' : w.heap.size + 1 ≤ g0 := by omega
  clear ka1 hB1 hb2 ra1
  go_wp2
  go_loopw [3, 4] (fun v i wr => ∃ (j g cap : Nat) (bs : List Int), j ≤ 4 ∧ i = .int .i64 j ∧ v = .slice (some ⟨g, 0, none⟩) bs.length cap ∧ bs.length ≤ 1001 + 1002 * j ∧ w.heap.size + 1 ≤ g ∧ Hid (stT xs m j = bs) ∧ Hid (CRow wr g cap bs.length (u8s bs)) ∧ Hid (Below w.heap.size w wr) ∧ Hid (Blk wr w.heap.size 46 #[.slice (some ⟨b, off, none⟩) 4 c, .int .i64 (m : Int)])) (fun _ i _ => 4 - (intOf i).toNat)
  case atStart => exact ⟨0, g0, cap0, digs m, by omega, rfl, rfl, by omega, hg0', by show _ = _; simp [stT], hc0, hB2, ka2⟩
  case round =>
    clear hc0 hB2 ka2 hg0' hl0
    obtain ⟨j, g, cap, bs, hj, rfl, rfl, hlb, hg, hbs, hc, hB, ka⟩ := hrel
    have ra := ka.out.rule
    by_cases hlj : j < 4
    · obtain ⟨hx0, hx1⟩ := HALL.out j (by rw [H4.out]; exact hlj)
      obtain ⟨x, hx⟩ : ∃ x : Nat, xs.getD j 0 = (x : Int) := ⟨(xs.getD j 0).toNat, by omega⟩
      have hcj := HCX.out j (by rw [H4.out]; exact hlj)
      have HST := Lib.hid (stT_step xs m j x (by rw [H4.out]; exact hlj) hx)
      rw [hx] at hcj hx0 hx1
      clear hx
      have hdl := (digs_len x).2
      have hcw := (hB.out.cell (p := ⟨b, off + j, none⟩) hb).trans hcj
      have hwz := hB.out.size
      have hcw1 : (wr.alloc (.cells #[.int .u8 32] 5)).cell? ⟨b, off + j, none⟩ = some (.int .i64 (x : Int)) := (World.cell?_alloc_lt wr _ ⟨b, off + j, none⟩ (show b < wr.heap.size by omega)).trans hcw
      have ra1 := (ka.out.alloc (.cells #[.int .u8 32] 5)).rule
      have KA1 := Lib.hid (ka.out.alloc (.cells #[.int .u8 32] 5))
      have HC1 := Lib.hid hcw1
      have X1 := Lib.hid (crow_dr (hc.out.on ((Below.refl _ _).alloc (Nat.le_refl _) (.cells #[.int .u8 32] 5))))
      have B1 := Lib.hid (up_ hB.out (.cells #[.int .u8 32] 5)).drew
      have L1 := Lib.hid (read1 wr (.int .u8 32) wr.heap.size rfl).drew
      have j0 : (0 : Int) ≤ (j : Int) := by omega
      have j1 : (j : Int) < 4 := by omega
      go_wp2
      go_region_law (first
        | (refine step_append_row rfl (.tmp 18) (.tmp 19) 22 5 i0 _ Tryd.underlying22 hi0 hz0 hz1 hz2 rfl rfl (by exact X1.out) rfl rfl (by exact L1.out) (by simp [Value.oneCell']) (by omega) ?_; intro g8 cap8 w8 hc8 hg8 hw8; have hc8 := Lib.hid hc8; have hB8 := Lib.hid (growB hg8 (by exact B1.out) (by omega)); have hge8 : w.heap.size + 1 ≤ g8 := hw8.elim (fun e => by omega) (fun e => by rw [e]; show w.heap.size + 1 ≤ (wr.alloc (.cells #[.int .u8 32] 5)).heap.size; rw [World.size_alloc]; omega); have kr8 := Lib.hid (by exact keepK KA1.out.dr hg8 (fun e => by injection e with e; omega) : Blk w8 w.heap.size 46 #[.slice (some ⟨b, off, none⟩) 4 c, .int .i64 (m : Int)]); have rr8 := kr8.out.rule; have cc8 : w8.cell? ⟨b, off + j, none⟩ = some (.int .i64 (x : Int)) := (World.cell?_of_block (a := ⟨b, off + j, none⟩) (hg8.block b (show b < (wr.alloc (.cells #[.int .u8 32] 5)).heap.size by rw [World.size_alloc]; omega) (fun e => by injection e with e; omega))).trans HC1.out)
        | (go_simp; go_at_call 78; refine (digs_any x (by omega) _).mono ?_; rintro e wd ⟨gd, cd, rfl, hgd, hcd, hbd⟩; have hcd := Lib.hid hcd; have hcE := Lib.hid (hc8.out.on hbd); have hBd := Lib.hid (on_ hB8.out hbd); have krd := Lib.hid (kr8.out.on hbd))
        | (refine step_append_row rfl (.tmp 20) (.tmp 26) 22 5 i0 _ Tryd.underlying22 hi0 hz0 hz1 hz2 rfl rfl (by exact hcE.out) rfl rfl (by exact hcd.out.reads) (by intro u hu; simp [u8s] at hu; obtain ⟨q, _, rfl⟩ := hu; rfl) (by omega) ?_; intro g9 cap9 w9 hc9 hg9 hw9; have hc9 := Lib.hid hc9; have hB9 := Lib.hid (growB hg9 hBd.out (by omega)); have hge9 : w.heap.size + 1 ≤ g9 := hw9.elim (fun e => by omega) (fun e => by rw [e]; have := krd.out.lt; omega); have kr9 := Lib.hid (keepK krd.out hg9 (fun e => by injection e with e; omega))))
      all_goals go_wp2
      all_goals go_roundw
      all_goals first
        | (simp [intOf]; omega; done)
        | (refine ⟨j + 1, g9, cap9, bs ++ [32] ++ digs x, by omega, by go_num, ?_, ?_, hge9, ?_, ?_, hB9, kr9⟩; (congr 1; rw [List.length_append, List.length_append]; rfl); (rw [List.length_append, List.length_append]; simp only [List.length_cons, List.length_nil]; have := hdl; have := hx1; have := hlb; omega); (show _ = _; rw [HST.out, hbs.out]); (show CRow _ _ _ _ _; rw [← u8s_app, ← u8s_app, List.length_append, List.length_append]; exact hc9.out))
    · obtain rfl : j = 4 := by omega
      go_wp2
      go_ret
      refine ⟨g, cap, (by rw [hbs.out]; rfl), by omega, ?_, hB.out⟩
      rw [hbs.out]
      exact hc.out
end Go.Proofs.YtbogagddjkghhaaDoor.V
