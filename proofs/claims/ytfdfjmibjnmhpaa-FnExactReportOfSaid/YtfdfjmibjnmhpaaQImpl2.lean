/-
  heardOk of the program: contract. No statement is proved here.
-/
import Derived.Test.YtfdfjmibjnmhpaaQImpl1
import Derived.Test.YtfdfjmibjnmhpaaRepOk
import Derived.Deep.RegionWith
set_option linter.unusedVariables false
set_option maxRecDepth 100000
namespace Go.Proofs.Ytfdfjmibjnmhpaa.V
open Go.RowKit Go.Proofs.Ytfdfjmibjnmhpaa.B

set_option maxHeartbeats 3200000 in
theorem implHeard_is (z : Bool) (q : Rq) (hz : heardB q.n (hl q.hs) = z) (w : World) (hr : RdQ w w.heap.size q) (hf : FewQ q) :
    Calls Try.prog 87 #[q.agg] w fun e w' => e = .returned (.bool z) ∧ Below w.heap.size w w' := by
  obtain ⟨n, id, own, view, left, voted, lv, lx, dn, pr, vo, re, ds, hs, Av, Ap, Ao, Ar, Ad, Ah, cv, cp, co, cr, cd, ch⟩ := q
  obtain ⟨rv, rp, ro, rr, rd, rh⟩ := hr
  obtain ⟨fv, fp, fo, fr, fd, fh⟩ := hf
  simp only [Rq.agg, Rq.cells] at *
  have HZ := Lib.hid hz; have RHH := Lib.hid rh; have FHH := Lib.hid fh
  clear hz rv rp ro rr rd rh fv fp fo fr fd
  obtain ⟨lv0, elv0⟩ : ∃ m, voted.length = m := ⟨_, rfl⟩
  obtain ⟨lp0, elp0⟩ : ∃ m, pr.length = m := ⟨_, rfl⟩
  obtain ⟨lo0, elo0⟩ : ∃ m, vo.length = m := ⟨_, rfl⟩
  obtain ⟨lr0, elr0⟩ : ∃ m, re.length = m := ⟨_, rfl⟩
  obtain ⟨ld0, eld0⟩ : ∃ m, ds.length = m := ⟨_, rfl⟩
  obtain ⟨lh0, elh0⟩ : ∃ m, hs.length = m := ⟨_, rfl⟩
  simp only [elv0, elp0, elo0, elr0, eld0, elh0]
  have ELH := Lib.hid elh0
  have blh : lh0 ≤ 1048576 := by rw [← elh0]; exact fh.1
  clear elv0 elp0 elo0 elr0 eld0 elh0 fh
  have ka := Blk.new w 40 #[.int .i64 n, .int .i64 id, .int .i64 own, .int .i64 view, .int .i64 left, .slice Av lv0 cv, .int .i64 lv, .int .i64 lx, .int .i64 dn, .slice Ap lp0 cp, .slice Ao lo0 co, .slice Ar lr0 cr, .slice Ad ld0 cd, .slice Ah lh0 ch]
  have hB := up_ (Below.refl w.heap.size w) (.cells #[.int .i64 n, .int .i64 id, .int .i64 own, .int .i64 view, .int .i64 left, .slice Av lv0 cv, .int .i64 lv, .int .i64 lx, .int .i64 dn, .slice Ap lp0 cp, .slice Ao lo0 co, .slice Ar lr0 cr, .slice Ad ld0 cd, .slice Ah lh0 ch] 40)
  have HKA := Lib.hid ka; have HB := Lib.hid hB; clear ka hB
  go_enter Try.func87, Try.ntmps87
  go_wp2
  go_loopw [8] (fun i wr => ∃ (k : Nat), k ≤ lh0 ∧ i = .int .i64 k ∧ Hid (∀ j, j < k → goodH n (hl hs) j = true) ∧ Blk wr w.heap.size 40 #[.int .i64 n, .int .i64 id, .int .i64 own, .int .i64 view, .int .i64 left, .slice Av lv0 cv, .int .i64 lv, .int .i64 lx, .int .i64 dn, .slice Ap lp0 cp, .slice Ao lo0 co, .slice Ar lr0 cr, .slice Ad ld0 cd, .slice Ah lh0 ch] ∧ Below w.heap.size w wr) (fun i _ => lh0 - (intOf i).toNat)
  case atStart => exact ⟨0, Nat.zero_le _, rfl, fun j hj => absurd hj (by omega), HKA.out, HB.out⟩
  case round =>
    obtain ⟨k, hk, rfl, hall, ka, hB⟩ := hrel
    clear HKA HB
    have ra := ka.rule
    by_cases hlt : k < lh0
    · obtain ⟨b, off, rfl, hb, hc0, hc1, hrv⟩ := RdH.at_ (RHH.out.below hB) (k := k) (by rw [ELH.out]; omega)
      have hpv : 0 < k → wr.cell? ⟨b, off + (k - 1) * 2, none⟩ = some (.int .i64 (hs.getD (k - 1) zH).v) := fun h0 => by
        obtain ⟨b', off', he, _, h1, _⟩ := RdH.at_ (RHH.out.below hB) (k := k - 1) (by rw [ELH.out]; omega)
        injection he with he
        injection he with he1 he2
        subst he1 he2
        exact h1
      have hfw := FHH.out.2 k (by rw [ELH.out]; omega)
      have HG : Hid (goodH n (hl hs) k = (repsOkB n (hs.getD k zH).v (rl (hs.getD k zH).ps) && (decide (k = 0) || decide ((hs.getD (k - 1) zH).v < (hs.getD k zH).v)))) := by show _ = _; unfold goodH; rw [hl_at, hl_at]; rfl
      obtain ⟨⟨uv, ups, A', c'⟩, hu⟩ : ∃ v, hs.getD k zH = v := ⟨_, rfl⟩
      obtain ⟨pf, hp⟩ : ∃ v, (hs.getD (k - 1) zH).v = v := ⟨_, rfl⟩
      rw [hu] at hc0 hc1 hrv hfw HG
      rw [hp] at hpv HG
      simp only at hc0 hc1 hrv hfw HG
      clear hu hp
      obtain ⟨ul, hul⟩ : ∃ m, ups.length = m := ⟨_, rfl⟩
      have kx := Blk.new wr 122 #[.int .i64 uv, .slice A' ul c']
      have ka1 := ka.alloc (.cells #[.int .i64 uv, .slice A' ul c'] 122)
      have hB1 : Below w.heap.size w (wr.alloc (.cells #[.int .i64 uv, .slice A' ul c'] 122)) := hB.alloc hB.size _
      have hwx : Below wr.heap.size wr (wr.alloc (.cells #[.int .i64 uv, .slice A' ul c'] 122)) := (Below.refl _ _).alloc (Nat.le_refl _) _
      have hpv1 : 0 < k → (wr.alloc (.cells #[.int .i64 uv, .slice A' ul c'] 122)).cell? ⟨b, off + (k - 1) * 2, none⟩ = some (.int .i64 pf) := fun h0 => (hwx.cell (p := ⟨b, off + (k - 1) * 2, none⟩) (by have := hB.size; simp; omega)).trans (hpv h0)
      have HRV := Lib.hid ((fun x : Lat (wr.alloc (.cells #[.int .i64 uv, .slice A' ul c'] 122)) => ((hrv.below (hwx.mono hB.size)).below (x.below.mono hB1.size)).more (Nat.le_trans hB1.size x.below.size) : ∀ x : Lat (wr.alloc (.cells #[.int .i64 uv, .slice A' ul c'] 122)), RdR x.w x.w.heap.size A' ups)); clear hrv
      have CA := fun x => lat_blk ka1 x
      have CX := fun x => lat_blk kx x
      have HRO := Lib.hid (fun (q : Bool) (hq : repsOkB n uv (rl ups) = q) (x : Lat (wr.alloc (.cells #[.int .i64 uv, .slice A' ul c'] 122))) => implReportsOk_is q n uv A' c' ups hq x.w (HRV.out x) hfw)
      rw [hul] at HRO hc1
      clear hul HRV hfw hpv
      have HKX := Lib.hid ka1; have HBX := Lib.hid hB1; clear ka hB ka1 hB1 kx hwx
      rcases hq : repsOkB n uv (rl ups) with _ | _
      · have HQ := Lib.hid hq; clear hq hpv1
        go_wp2
        refine wp_region_lat (by kernel_rfl) (by kernel_rfl) ?_
        repeat (go_big_quiet_step ((first | (go_at_call 112; exact lat_call _ (HRO.out false HQ.out _)))))
        refine wpQuiet_nil ?_
        rintro w3 ⟨⟨_, hb3⟩, rfl⟩
        have hB3 := on_ HBX.out hb3; have kb3 := HKX.out.on hb3
        clear CA CX ra
        go_wp2
        go_ret
        refine ⟨ret_bool ?_, hB3⟩
        rw [← HZ.out, heard_no (k := k) (by rw [hl_len, ELH.out]; omega) (by rw [HG.out]; simp [HQ.out])]
      have HQ := Lib.hid hq; clear hq
      by_cases h4 : 0 < k
      · have hp0 := hpv1 h4
        clear hpv1
        obtain ⟨p, hkp⟩ : ∃ p, k = p + 1 := ⟨k - 1, by omega⟩
        have hE : (k : Int) - 1 = (p : Int) := by omega
        have hW : IntKind.i64.wrap (p : Int) = (p : Int) := IntWalk.i64_in _ (by omega)
        rw [show k - 1 = p by omega] at hp0
        have P0 := fun x : Lat (wr.alloc (.cells #[.int .i64 uv, .slice A' ul c'] 122)) => x.cell hp0
        have hw4 : (p : Int) < (lh0 : Int) := by omega
        have hw5 : p < lh0 := by omega
        have HKP := Lib.hid hkp; clear hkp hp0
        by_cases h5 : pf < uv
        · have hd5 : decide (uv ≤ pf) = false := by simp; omega
          go_wp2
          refine wp_region_lat (by kernel_rfl) (by kernel_rfl) ?_
          repeat (go_big_quiet_step ((first | (go_at_call 112; exact lat_call _ (HRO.out true HQ.out _)))))
          refine wpQuiet_nil ?_
          rintro w3 ⟨⟨_, hb3⟩, rfl⟩
          have hB3 := on_ HBX.out hb3; have kb3 := HKX.out.on hb3
          clear CA CX P0 ra
          go_wp2
          go_roundw
          case rel =>
            refine ⟨k + 1, by omega, by go_num, fun j hj => ?_, kb3, hB3⟩
            by_cases e : j = k
            · rw [e, HG.out]; simp [HQ.out, h5]
            · exact hall.out j (by omega)
          case measure => simp [intOf]; omega
        · have hd5 : decide (uv ≤ pf) = true := by simp; omega
          go_wp2
          refine wp_region_lat (by kernel_rfl) (by kernel_rfl) ?_
          repeat (go_big_quiet_step ((first | (go_at_call 112; exact lat_call _ (HRO.out true HQ.out _)))))
          refine wpQuiet_nil ?_
          rintro w3 ⟨⟨_, hb3⟩, rfl⟩
          have hB3 := on_ HBX.out hb3; have kb3 := HKX.out.on hb3
          clear CA CX P0 ra
          go_wp2
          go_ret
          refine ⟨ret_bool ?_, hB3⟩
          rw [← HZ.out, heard_no (k := k) (by rw [hl_len, ELH.out]; omega) (by rw [HG.out]; simp [h5]; intro _; omega)]
      · clear hpv1
        have hd : decide ((0 : Int) < (k : Int)) = false := by simp; omega
        have HK0 : Hid (k = 0) := by show _ = _; omega
        go_wp2
        refine wp_region_lat (by kernel_rfl) (by kernel_rfl) ?_
        repeat (go_big_quiet_step ((first | (go_at_call 112; exact lat_call _ (HRO.out true HQ.out _)))))
        refine wpQuiet_nil ?_
        rintro w3 ⟨⟨_, hb3⟩, rfl⟩
        have hB3 := on_ HBX.out hb3; have kb3 := HKX.out.on hb3
        clear CA CX ra
        go_wp2
        go_roundw
        case rel =>
          refine ⟨k + 1, by omega, by go_num, fun j hj => ?_, kb3, hB3⟩
          by_cases e : j = k
          · rw [e, HG.out]; simp [HQ.out, HK0.out]
          · exact hall.out j (by omega)
        case measure => simp [intOf]; omega
    · go_wp2
      go_ret
      exact ⟨ret_bool (by rw [← HZ.out, heard_yes fun j hj => hall.out j (by rw [hl_len, ELH.out] at hj; omega)]), hB⟩
end Go.Proofs.Ytfdfjmibjnmhpaa.V
