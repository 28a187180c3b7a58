/-
  l3ownAll of the model: its contract. No statement is proved here.
-/
import Derived.Test.YtcfjmhebhhekbaaL3Base
import Derived.Deep.RegionHeld3
set_option linter.unusedVariables false
set_option maxRecDepth 100000
namespace Go.Proofs.Ytcfjmhebhhekbaa.V
open Go.RowKit Go.Proofs.Ytcfjmhebhhekbaa.B

theorem infoVv : (Try.prog.info? 25).map (fun i => (i.zero, i.size, i.bytes)) = some (some (.agg #[.int .i64 0, .int .i64 0]), 2, 16) := by kernel_rfl
theorem own_farN {w : World} {b e size n o i : Nat} {v u : Value} {xs : List Value} (h : w.ownsRow b e size v n xs) (hne : v.ownBlock ≠ some o) : (w.setCell ⟨o, i, none⟩ u).ownsRow b e size v n xs :=
  h.kept (only_setI (World.grownBy.refl w (some o)) i u) (.inr hne)
theorem own_votes {w : World} {b t c : Nat} {A : Option Addr} {vs : List (Int × Int)} (h : w.ownsRow b t 2 (.slice A vs.length c) vs.length (vcells vs)) : vs = [] ∨ ∃ g cs, A = some ⟨g, 0, none⟩ ∧ b ≤ g ∧ Blk w g t cs ∧ PV cs vs ∧ vs.length * 2 ≤ cs.size := by
  obtain ⟨hl, h⟩ := h
  rcases h with ⟨h1, h2⟩ | ⟨g, cap, cur, h1, h2, h3, h4, h5, h6, h7⟩
  · exact .inl (List.eq_nil_of_length_eq_zero h2)
  · injection h1 with h1
    refine .inr ⟨g, cur, h1, h2, h3, fun i hi => ?_, by omega⟩
    have hv := vcells_at vs i hi
    rw [← h7] at hv
    rw [List.getElem?_take_of_lt (by omega), List.getElem?_take_of_lt (by omega)] at hv
    simpa using hv
theorem lit_rep_on (w : World) (t : TypeId) (p : Pp) (g : Nat) (hg : w.heap.size = g) : Reads (w.alloc (.cells #[.int .i64 p.r.f, .int .i64 p.r.v, .int .i64 p.r.x, .slice p.A p.r.vs.length p.c] t)) (g + 1) 4 (some ⟨g, 0, none⟩) 1 (pc1 p) := by
  subst hg; exact lit_rep w t p
/-- Reports of the call's own. -/
def OwnRs (rs : List Rp) (w : World) (e : Ending) (w' : World) : Prop :=
  ∃ v qs, e = .returned v ∧ rl qs = rs ∧ w'.ownsRow w.heap.size 28 4 v qs.length (pcells qs) ∧ VoS w' 25 qs ∧ Below w.heap.size w w'

set_option maxHeartbeats 1600000 in
theorem l3ownAll_any (A : Option Addr) (c : Nat) (ps : List Pp) (w : World) (hr : RdR w w.heap.size A ps) (hn : ps.length ≤ 1048577) (hv : ∀ i, i < ps.length → (ps.getD i zP).r.vs.length ≤ 1048577) :
    Calls Try.prog 63 #[.slice A ps.length c] w (OwnRs (rl ps) w) := by
  obtain ⟨i0, hi0, hz0, hz1, hz2⟩ := info_parts infoR
  obtain ⟨iV, hiV, hzV0, hzV1, hzV2⟩ := info_parts infoVv
  obtain ⟨n, hvn⟩ : ∃ n, ps.length = n := ⟨_, rfl⟩
  rw [hvn] at hn hv ⊢
  have HVL := Lib.hid hv; clear hv
  have HV := Lib.hid hvn; clear hvn
  have HR := Lib.hid hr; clear hr
  go_enter Try.func63, Try.ntmps63
  go_wp2
  go_loopw [3, 4] (fun l i wr => ∃ (k : Nat) (qs : List Pp), k ≤ n ∧ i = .int .i64 k ∧ Hid (qs.length = k) ∧ Hid (rl qs = (rl ps).take k) ∧ wr.ownsRow w.heap.size 28 4 l k (pcells qs) ∧ Hid (VoS wr 25 qs) ∧ Below w.heap.size w wr) (fun _ i _ => n - (intOf i).toNat)
  case atStart => exact ⟨0, [], Nat.zero_le _, rfl, rfl, by show _ = _; simp [rl], World.ownsRow_nil _ _ _ _, VoS.nil_, Below.refl _ _⟩
  case round =>
    obtain ⟨k, qs, hk, rfl, hql, hqr, hown, hvs, hbel⟩ := hrel
    by_cases hlt : k < n
    · obtain ⟨b, off, rfl, hb, hc0, hc1, hc2, hc3, hrv⟩ := RdR.at_ (HR.out.below hbel) (k := k) (by rw [HV.out]; exact hlt)
      have hvl := HVL.out k hlt
      obtain ⟨⟨⟨f, v, x, vs⟩, A', c'⟩, hu⟩ : ∃ u, ps.getD k zP = u := ⟨_, rfl⟩
      rw [hu] at hc0 hc1 hc2 hc3 hrv hvl
      have hvl : vs.length ≤ 1048577 := hvl
      have HST : Hid ((rl ps).take (k + 1) = rl qs ++ [⟨f, v, x, vs⟩]) := by
        show _ = _
        rw [take_getD (rl ps) zR k (by rw [rl_len, HV.out]; exact hlt), rl_at, hu, hqr.out]
      clear hu hqr
      have hs0 := hbel.size
      have hown2 : ((wr.alloc (.cells #[.int .i64 f, .int .i64 v, .int .i64 x, .slice A' vs.length c'] 28)).alloc (.cells #[] 25)).ownsRow w.heap.size 28 4 u3 k (pcells qs) := (hown.alloc _).alloc _
      have hno1 : u3.ownBlock ≠ some (wr.heap.size + 1) := fun e => by have := (hown.lt _ e).2; omega
      have hno0 : u3.ownBlock ≠ some wr.heap.size := fun e => by have := (hown.lt _ e).2; omega
      have HE2 := Lib.hid (own_emptyN2 wr 25 2 (by omega) (.cells #[.int .i64 f, .int .i64 v, .int .i64 x, .slice A' vs.length c'] 28))
      have HRV := Lib.hid (((hrv.reads).alloc hs0 (.cells #[.int .i64 f, .int .i64 v, .int .i64 x, .slice A' vs.length c'] 28)).alloc (Nat.le_trans hs0 (sz_a _ _)) (.cells #[] 25))
      have kb2 := (Blk.new wr 28 #[.int .i64 f, .int .i64 v, .int .i64 x, .slice A' vs.length c']).alloc (.cells #[] 25)
      have hB2 := Lib.hid (((up_ (up_ (Below.refl _ _) _) _ : Below wr.heap.size wr ((wr.alloc (.cells #[.int .i64 f, .int .i64 v, .int .i64 x, .slice A' vs.length c'] 28)).alloc (.cells #[] 25)))))
      have HVS := Lib.hid hvs.out
      have HBW := Lib.hid hbel
      have HON := Lib.hid (vcells_one vs)
      have HO2 := Lib.hid hown2
      have HTY := Lib.hid (own_type hown)
      have HGE := Lib.hid (fun j hj => (hown.lt j hj).1)
      clear hown2 hown hvs hrv
      go_wp2_with (first
        | (at_builtin; go_loud (refine wpList_append_any _ rfl (.tmp 16) (.tmp 18) 26 rfl (wr.heap.size + 1) 25 iV _ 2 16 Try.underlying26 hiV hzV0 hzV1 hzV2 rfl (by omega) (.slice (some ⟨wr.heap.size + 1, 0, none⟩) 0 0) 0 [] rfl HE2.out w.heap.size A' vs.length c' (vcells vs) rfl HRV.out HON.out (by simp only [maxLen]; omega) (by omega) (by simp) ?_); intro v3 w3 hown3 hgr3 hat3; simp only [Nat.zero_add, List.nil_append] at hown3; obtain ⟨A3, c3, rfl, hcap3⟩ := formA hown3; have hgr3 : (((wr.alloc (.cells #[.int .i64 f, .int .i64 v, .int .i64 x, .slice A' vs.length c'] 28)).alloc (.cells #[] 25)).grownBy w3 (some (wr.heap.size + 1))) := hgr3; have kb3 := keepK kb2 hgr3 (by simp); have rb3 := kb3.rule; have fb3 := (fun i => kb3.frozen i); have kb4 : Blk (w3.setCell ⟨wr.heap.size, 3, none⟩ (.slice A3 vs.length c3)) wr.heap.size 28 #[.int .i64 f, .int .i64 v, .int .i64 x, .slice A3 vs.length c3] := kb3.set_ 3 _; have rb4 := kb4.rule; have HO4 := Lib.hid (((own_farN (i := 3) (u := .slice A3 vs.length c3) (HO2.out.kept hgr3 (.inr hno1)) hno0)).alloc (.cells #[.int .i64 f, .int .i64 v, .int .i64 x, .slice A3 vs.length c3] 28)); have hs3 : wr.heap.size + 1 + 1 ≤ w3.heap.size := (by have := hgr3.size; simpa using this); have HN3 := Lib.hid hown3; clear hown3)
        | (at_builtin; refine wpList_append_any _ rfl (.tmp 21) (.tmp 23) 23 rfl w.heap.size 28 i0 _ 4 48 Try.underlying23 hi0 hz0 hz1 hz2 rfl (by omega) u3 k (pcells qs) rfl HO4.out _ _ 1 1 (pc1 (⟨⟨f, v, x, vs⟩, A3, c3⟩ : Pp)) rfl (lit_rep_on (w3.setCell ⟨wr.heap.size, 3, none⟩ (.slice A3 vs.length c3)) 28 (⟨⟨f, v, x, vs⟩, A3, c3⟩ : Pp) w3.heap.size (by simp [World.setCell])) (pc1_one _) (by simp only [maxLen]; omega) (by omega) (by simp [World.setCell]; omega) ?_; intro v5 w5 hown5 hgr5 hat5))
      have hB3 : Below wr.heap.size wr w3 := hB2.out.grown hgr3 (by simp; omega) (fun j hj => by injection hj with hj; omega)
      have hB4 : Below wr.heap.size wr ((w3.setCell ⟨wr.heap.size, 3, none⟩ (.slice A3 vs.length c3)).alloc (.cells #[.int .i64 f, .int .i64 v, .int .i64 x, .slice A3 vs.length c3] 28)) := up_ (hB3.setCell (by simp) _) _
      have hV4 : VoS ((w3.setCell ⟨wr.heap.size, 3, none⟩ (.slice A3 vs.length c3)).alloc (.cells #[.int .i64 f, .int .i64 v, .int .i64 x, .slice A3 vs.length c3] 28)) 25 (qs ++ [(⟨⟨f, v, x, vs⟩, A3, c3⟩ : Pp)]) := VoS.push (HVS.out.on hB4) (by
        rcases own_votes HN3.out with h | ⟨g, cs, h1, h2, h3, h4, _⟩
        · exact .inl h
        · exact .inr ⟨g, cs, h1, (h3.far (p := ⟨wr.heap.size, 3, none⟩) (by show g ≠ wr.heap.size; omega) _).alloc _, h4⟩)
      have hv5 := Lib.hid (hV4.grown hgr5 (own_type HO4.out) (by decide))
      have hb5 := Below.grown (HBW.out.trans (hB4.mono hs0)) hgr5 (by simp [World.setCell]; omega) HGE.out
      have HEQ : Hid (rl (qs ++ [(⟨⟨f, v, x, vs⟩, A3, c3⟩ : Pp)]) = (rl ps).take (k + 1)) := by show _ = _; rw [HST.out]; simp [rl]
      have HO5 := Lib.hid (own_app4 (p := (⟨⟨f, v, x, vs⟩, A3, c3⟩ : Pp)) hql.out.symm hown5)
      clear hB3 hB4 hV4 hown5 HO4 HO2 HE2 HRV hB2 HN3
      go_roundw
      case rel => exact ⟨k + 1, qs ++ [(⟨⟨f, v, x, vs⟩, A3, c3⟩ : Pp)], by omega, by go_num, by show _ = _; simp [hql.out], HEQ, HO5.out, hv5, hb5⟩
      case measure => simp [intOf]; omega
    · obtain rfl : k = n := by omega
      have hf : decide ((k : Int) < (k : Int)) = false := by simp
      go_wp2
      go_ret
      exact ⟨_, qs, rfl, by rw [hqr.out, List.take_of_length_le (by rw [rl_len, HV.out]; omega)], by rw [hql.out]; exact hown, hvs.out, hbel⟩
end Go.Proofs.Ytcfjmhebhhekbaa.V
