/-
  A state at work: nodeOf of the program: a contract. No statement is proved here.
-/
import Derived.Test.YtfdfjmibjnmhpaaK14
set_option linter.unusedVariables false
set_option maxRecDepth 100000
namespace Go.Proofs.Ytfdfjmibjnmhpaa.V
open Go.RowKit Go.Proofs.Ytfdfjmibjnmhpaa.B
theorem tals_of {d : Rd4} (h : repQ d = true) : tallyOkB d.pr = true ∧ tallyOkB d.vo = true ∧ tallyOkB d.re = true ∧ tallyOkB d.ds = true := by
  unfold repQ talsQ talB at h
  simp only [Bool.and_eq_true] at h
  obtain ⟨_, _, _, _, ⟨⟨⟨_, a⟩, ⟨_, b⟩, ⟨_, c⟩, _, e⟩, _⟩, _⟩ := h
  exact ⟨a, b, c, e⟩
set_option maxHeartbeats 1600000 in
theorem copiedVotes_own (A : Option Addr) (c : Nat) (vs : List (Int × Int)) (w : World) (hr : Rd w w.heap.size A vs) (hn : vs.length ≤ 1048576) :
    Calls Try.prog 92 #[.slice A vs.length c] w fun e w' => ∃ B d, e = .returned (.slice B vs.length d) ∧ OwnS eV w' w.heap.size (.slice B vs.length d) vs ∧ Below w.heap.size w w' := by
  obtain ⟨i0, hi0, hz0, hz1, hz2⟩ := info_parts infoVt
  have HR := Lib.hid hr.reads; have H1 := Lib.hid (vcells_one vs)
  obtain ⟨n, en⟩ : ∃ n, vs.length = n := ⟨_, rfl⟩
  rw [en] at hn HR ⊢
  have EN := Lib.hid en; clear en hr
  go_enter Try.func92, Try.ntmps92
  go_wp2_with (at_builtin; refine wpList_append_any _ rfl (.const (.slice none 0 0)) (.tmp 3) 33 rfl w.heap.size 34 i0 _ 2 16 Try.underlying33 hi0 hz0 hz1 hz2 rfl (by omega) (.slice none 0 0) 0 [] rfl (World.ownsRow_nil _ _ _ _) w.heap.size A n c (vcells vs) rfl HR.out H1.out (by simp only [maxLen]; omega) (by omega) (by omega) ?_; intro v1 w1 hown1 hgr1 hat1)
  go_ret
  obtain ⟨B, d, rfl, _⟩ := formA hown1
  rw [Nat.zero_add] at hown1 ⊢
  refine ⟨B, d, rfl, ?_, (Below.refl _ _).grown hgr1 (Nat.le_refl _) (fun j hj => by first | (injection hj) | simp at hj)⟩
  rw [← EN.out] at hown1 ⊢
  exact ownS_flat hown1
set_option maxHeartbeats 1600000 in
theorem boxOf_any (A : Option Addr) (c : Nat) (vs : List B3) (hq : tallyOkB vs = true) (w : World) (hr : Rd3 w w.heap.size A vs) (hn : vs.length ≤ 1048576) :
    Calls Try.prog 97 #[.agg #[.slice A vs.length c]] w fun e w' => ∃ b, e = .returned (.agg #[.map (some b)]) ∧ w.heap.size ≤ b ∧ Bals w' (.map (some b)) vs ∧ Below w.heap.size w w' := by
  have HB0 := Lib.hid (fun (W : World) (h : Below w.heap.size w W) => ballotsOf_yes A c vs hq W ((hr.below h).more h.size) hn)
  obtain ⟨n, hvn⟩ : ∃ n, vs.length = n := ⟨_, rfl⟩
  rw [hvn] at HB0 ⊢
  clear hr hn hq hvn
  have ka := (Blk.new w 37 #[.slice A n c]).alloc (.cells #[.map none] 97)
  have kb := Blk.new (w.alloc (.cells #[.slice A n c] 37)) 97 #[.map none]
  simp only [World.size_alloc] at kb
  have hB := up_ (up_ (Below.refl w.heap.size w) (.cells #[.slice A n c] 37)) (.cells #[.map none] 97)
  have hz : ((w.alloc (.cells #[.slice A n c] 37)).alloc (.cells #[.map none] 97)).heap.size = w.heap.size + 1 + 1 := by simp
  have ra := ka.rule
  go_enter Try.func97, Try.ntmps97
  go_wp2_with fail
  refine (HB0.out _ hB).mono ?_
  rintro e w1 ⟨b, rfl, hb0, hbal, hb1⟩
  rw [hz] at hb0
  have ka1 := ka.on hb1; have kb1 := kb.on hb1; have hB1 := on_ hB hb1
  clear ra ka kb hB hb1 hz HB0
  have rb1 := kb1.rule; have fb1 := fun i => kb1.frozen i
  go_wp2
  have kb2 : Blk _ _ 97 #[.map (some b)] := kb1.set_ 0 (.map (some b))
  have rb2 := kb2.rule
  refine bodyPost_ret (v := .agg #[.map (some b)]) (by simp [results, Try.results97, go_sem, rb2]) rfl ⟨b, rfl, by omega, ?_, hB1.setCell (by simp) _⟩
  exact hbal.kept (only_setI (World.grownBy.refl w1 (some (w.heap.size + 1))) 0 (.map (some b))) (fun b' e => by injection e with e; injection e with e; subst e; intro e2; injection e2 with e2; omega)
theorem Bals.set_ {w : World} {b x : Nat} {L : List B3} (h : Bals w (.map (some b)) L) (hne : b ≠ x) (i : Nat) (u : Value) : Bals (w.setCell ⟨x, i, none⟩ u) (.map (some b)) L :=
  h.kept (only_setI (World.grownBy.refl w (some x)) i u) (fun b' e => by injection e with e; injection e with e; subst e; intro e2; injection e2 with e2; exact hne e2)
def NV (base p : Nat) (n id own view left lv lx dn : Int) (Av Ap Ao Ar Ad Ah : Option Addr) (lv0 lp0 lo0 lr0 ld0 lh0 cv cp co cr cd ch : Nat) (pr vo re ds : List B3) (us : Nat → Value) : Nat → Value → World → Prop
  | 0, u, _ => u = .agg #[.int .i64 n, .int .i64 id, .int .i64 own, .int .i64 view, .int .i64 left, .slice Av lv0 cv, .int .i64 lv, .int .i64 lx, .int .i64 dn, .slice Ap lp0 cp, .slice Ao lo0 co, .slice Ar lr0 cr, .slice Ad ld0 cd, .slice Ah lh0 ch]
  | 1, u, _ => u = .pointer (some ⟨p, 9, none⟩)
  | 2, u, _ => u = .agg #[.slice Ap lp0 cp]
  | 3, u, w => ∃ b, u = .agg #[.map (some b)] ∧ base ≤ b ∧ Bals w (.map (some b)) pr
  | 4, u, _ => u = .pointer (some ⟨p, 10, none⟩)
  | 5, u, _ => u = .agg #[.slice Ao lo0 co]
  | 6, u, w => ∃ b, u = .agg #[.map (some b)] ∧ base ≤ b ∧ Bals w (.map (some b)) vo ∧ ∀ b', us 3 = .agg #[.map (some b')] → b' < b
  | 7, u, _ => u = .pointer (some ⟨p, 11, none⟩)
  | 8, u, _ => u = .agg #[.slice Ar lr0 cr]
  | 9, u, w => ∃ b, u = .agg #[.map (some b)] ∧ base ≤ b ∧ Bals w (.map (some b)) re ∧ ∀ b', us 6 = .agg #[.map (some b')] → b' < b
  | 10, u, _ => u = .pointer (some ⟨p, 12, none⟩)
  | 11, u, _ => u = .agg #[.slice Ad ld0 cd]
  | 12, u, w => ∃ b, u = .agg #[.map (some b)] ∧ base ≤ b ∧ Bals w (.map (some b)) ds ∧ ∀ b', us 9 = .agg #[.map (some b')] → b' < b
  | 13, u, _ => ∃ b1 b2 b3 b4, us 3 = .agg #[.map (some b1)] ∧ us 6 = .agg #[.map (some b2)] ∧ us 9 = .agg #[.map (some b3)] ∧ us 12 = .agg #[.map (some b4)] ∧ u = .agg #[.int .i64 n, .int .i64 id, .int .i64 own, .int .i64 view, .int .i64 left, .slice Av lv0 cv, .int .i64 lv, .int .i64 lx, .int .i64 dn, .slice Ap lp0 cp, .slice Ao lo0 co, .slice Ar lr0 cr, .slice Ad ld0 cd, .slice Ah lh0 ch, .map (some b1), .map (some b2), .map (some b3), .map (some b4), .slice none 0 0]
  | 14, u, w => ∃ b1 b2 b3 b4 x, us 3 = .agg #[.map (some b1)] ∧ us 6 = .agg #[.map (some b2)] ∧ us 9 = .agg #[.map (some b3)] ∧ us 12 = .agg #[.map (some b4)] ∧ u = .pointer (some ⟨x, 0, none⟩) ∧ base ≤ x ∧ (b1 < x ∧ b2 < x ∧ b3 < x ∧ b4 < x) ∧ Blk w x 143 #[.int .i64 n, .int .i64 id, .int .i64 own, .int .i64 view, .int .i64 left, .slice Av lv0 cv, .int .i64 lv, .int .i64 lx, .int .i64 dn, .slice Ap lp0 cp, .slice Ao lo0 co, .slice Ar lr0 cr, .slice Ad ld0 cd, .slice Ah lh0 ch, .map (some b1), .map (some b2), .map (some b3), .map (some b4), .slice none 0 0]
  | 15, u, _ => u = us 14
  | _, _, _ => True
section
variable {base p : Nat} {n id own view left lv lx dn : Int} {Av Ap Ao Ar Ad Ah : Option Addr} {lv0 lp0 lo0 lr0 ld0 lh0 cv cp co cr cd ch : Nat} {pr vo re ds : List B3}
theorem NV.keep : ∀ us j u w1 w2, NV base p n id own view left lv lx dn Av Ap Ao Ar Ad Ah lv0 lp0 lo0 lr0 ld0 lh0 cv cp co cr cd ch pr vo re ds us j u w1 → Below w1.heap.size w1 w2 → NV base p n id own view left lv lx dn Av Ap Ao Ar Ad Ah lv0 lp0 lo0 lr0 ld0 lh0 cv cp co cr cd ch pr vo re ds us j u w2 := by
  intro us j u w1 w2 h hb
  match j, h with
  | 0, h => exact h
  | 1, h => exact h
  | 2, h => exact h
  | 3, h => obtain ⟨b, e, h1, h2⟩ := h; exact ⟨b, e, h1, h2.on hb⟩
  | 4, h => exact h
  | 5, h => exact h
  | 6, h => obtain ⟨b, e, h1, h2, h3⟩ := h; exact ⟨b, e, h1, h2.on hb, h3⟩
  | 7, h => exact h
  | 8, h => exact h
  | 9, h => obtain ⟨b, e, h1, h2, h3⟩ := h; exact ⟨b, e, h1, h2.on hb, h3⟩
  | 10, h => exact h
  | 11, h => exact h
  | 12, h => obtain ⟨b, e, h1, h2, h3⟩ := h; exact ⟨b, e, h1, h2.on hb, h3⟩
  | 13, h => exact h
  | 14, h => obtain ⟨b1, b2, b3, b4, x, e1, e2, e3, e4, e5, h1, h2, h3⟩ := h; exact ⟨b1, b2, b3, b4, x, e1, e2, e3, e4, e5, h1, h2, h3.on hb⟩
  | 15, h => exact h
  | _ + 16, _ => trivial
theorem NV.loc {l : List Oper} {N : Nat} (hw : waitsB l N 6 3 = true ∧ waitsB l N 9 6 = true ∧ waitsB l N 12 9 = true ∧ waitsB l N 13 3 = true ∧ waitsB l N 13 6 = true ∧ waitsB l N 13 9 = true ∧ waitsB l N 13 12 = true ∧ waitsB l N 14 3 = true ∧ waitsB l N 14 6 = true ∧ waitsB l N 14 9 = true ∧ waitsB l N 14 12 = true ∧ waitsB l N 15 14 = true) : ∀ us us' j u wx, (∀ k, (k == j) = false → waitsB l N j k = true → us k = us' k) → NV base p n id own view left lv lx dn Av Ap Ao Ar Ad Ah lv0 lp0 lo0 lr0 ld0 lh0 cv cp co cr cd ch pr vo re ds us j u wx → NV base p n id own view left lv lx dn Av Ap Ao Ar Ad Ah lv0 lp0 lo0 lr0 ld0 lh0 cv cp co cr cd ch pr vo re ds us' j u wx := by
  intro us us' j u wx hu h
  obtain ⟨d6_3, d9_6, d12_9, d13_3, d13_6, d13_9, d13_12, d14_3, d14_6, d14_9, d14_12, d15_14⟩ := hw
  match j, h with
  | 0, h => exact h
  | 1, h => exact h
  | 2, h => exact h
  | 3, h => exact h
  | 4, h => exact h
  | 5, h => exact h
  | 6, h =>
    have e3 := hu 3 rfl d6_3
    simp only [NV] at h ⊢
    rw [← e3]
    exact h
  | 7, h => exact h
  | 8, h => exact h
  | 9, h =>
    have e6 := hu 6 rfl d9_6
    simp only [NV] at h ⊢
    rw [← e6]
    exact h
  | 10, h => exact h
  | 11, h => exact h
  | 12, h =>
    have e9 := hu 9 rfl d12_9
    simp only [NV] at h ⊢
    rw [← e9]
    exact h
  | 13, h =>
    have e3 := hu 3 rfl d13_3
    have e6 := hu 6 rfl d13_6
    have e9 := hu 9 rfl d13_9
    have e12 := hu 12 rfl d13_12
    simp only [NV] at h ⊢
    rw [← e3, ← e6, ← e9, ← e12]
    exact h
  | 14, h =>
    have e3 := hu 3 rfl d14_3
    have e6 := hu 6 rfl d14_6
    have e9 := hu 9 rfl d14_9
    have e12 := hu 12 rfl d14_12
    simp only [NV] at h ⊢
    rw [← e3, ← e6, ← e9, ← e12]
    exact h
  | 15, h =>
    have e14 := hu 14 rfl d15_14
    simp only [NV] at h ⊢
    rw [← e14]
    exact h
  | _ + 16, _ => trivial
end
set_option maxHeartbeats 6400000 in
theorem nodeOf_any (q : Rq) (hg : repQ q.dat = true) (w : World) (hr : RdQ w w.heap.size q) (hf : FewQ q) :
    Calls Try.prog 62 #[q.agg] w fun e w' => ∃ x b1 b2 b3 b4 Bv dv Bh dh qs, e = .returned (.pointer (some ⟨x, 0, none⟩)) ∧ w.heap.size ≤ b1 ∧ b1 < b2 ∧ b2 < b3 ∧ b3 < b4 ∧ b4 < x ∧
      Blk w' x 143 #[.int .i64 q.n, .int .i64 q.id, .int .i64 q.own, .int .i64 q.view, .int .i64 q.left, .slice Bv q.voted.length dv, .int .i64 q.lv, .int .i64 q.lx, .int .i64 q.dn, .slice none 0 0, .slice none 0 0, .slice none 0 0, .slice none 0 0, .slice Bh qs.length dh, .map (some b1), .map (some b2), .map (some b3), .map (some b4), .slice none 0 0] ∧
      Bals w' (.map (some b1)) q.pr ∧ Bals w' (.map (some b2)) q.vo ∧ Bals w' (.map (some b3)) q.re ∧ Bals w' (.map (some b4)) q.ds ∧
      hl qs = hl q.hs ∧ OwnS eV w' (x + 1) (.slice Bv q.voted.length dv) q.voted ∧ OwnS eH w' (x + 1) (.slice Bh qs.length dh) qs ∧ (∀ g ∈ fpX eH (.slice Bh qs.length dh) qs, g ∉ fpX eV (.slice Bv q.voted.length dv) q.voted) ∧ Below w.heap.size w w' := by
  obtain ⟨n, id, own, view, left, voted, lv, lx, dn, pr, vo, re, ds, hs, Av, Ap, Ao, Ar, Ad, Ah, cv, cp, co, cr, cd, ch⟩ := q
  obtain ⟨rv, rp, ro, rr, rd, rh⟩ := hr
  obtain ⟨fv, fp, fo, fr, fd, fh⟩ := hf
  have hts := tals_of hg
  simp only [Rq.agg, Rq.cells, Rq.dat] at *
  obtain ⟨tp, to, tr, td⟩ := hts
  have HP := Lib.hid (fun (W : World) (h : Below w.heap.size w W) => boxOf_any Ap cp pr tp W ((rp.below h).more h.size) fp)
  have HO := Lib.hid (fun (W : World) (h : Below w.heap.size w W) => boxOf_any Ao co vo to W ((ro.below h).more h.size) fo)
  have HR := Lib.hid (fun (W : World) (h : Below w.heap.size w W) => boxOf_any Ar cr re tr W ((rr.below h).more h.size) fr)
  have HD := Lib.hid (fun (W : World) (h : Below w.heap.size w W) => boxOf_any Ad cd ds td W ((rd.below h).more h.size) fd)
  have HV := Lib.hid (fun (W : World) (h : Below w.heap.size w W) => copiedVotes_own Av cv voted W ((rv.below h).more h.size) fv)
  have HH := Lib.hid (fun (W : World) (h : Below w.heap.size w W) => copiedHeard_any Ah ch hs W ((rh.below h).more h.size) fh)
  obtain ⟨lv0, elv0⟩ : ∃ m, voted.length = m := ⟨_, rfl⟩
  obtain ⟨lp0, elp0⟩ : ∃ m, pr.length = m := ⟨_, rfl⟩
  obtain ⟨lo0, elo0⟩ : ∃ m, vo.length = m := ⟨_, rfl⟩
  obtain ⟨lr0, elr0⟩ : ∃ m, re.length = m := ⟨_, rfl⟩
  obtain ⟨ld0, eld0⟩ : ∃ m, ds.length = m := ⟨_, rfl⟩
  obtain ⟨lh0, elh0⟩ : ∃ m, hs.length = m := ⟨_, rfl⟩
  simp only [elv0, elp0, elo0, elr0, eld0, elh0] at HP HO HR HD HV HH ⊢
  clear elv0 elp0 elo0 elr0 eld0 elh0 rv rp ro rr rd rh fv fp fo fr fd fh tp to tr td hg
  have ka := Blk.new w 40 #[.int .i64 n, .int .i64 id, .int .i64 own, .int .i64 view, .int .i64 left, .slice Av lv0 cv, .int .i64 lv, .int .i64 lx, .int .i64 dn, .slice Ap lp0 cp, .slice Ao lo0 co, .slice Ar lr0 cr, .slice Ad ld0 cd, .slice Ah lh0 ch]
  have hB := up_ (Below.refl w.heap.size w) (.cells #[.int .i64 n, .int .i64 id, .int .i64 own, .int .i64 view, .int .i64 left, .slice Av lv0 cv, .int .i64 lv, .int .i64 lx, .int .i64 dn, .slice Ap lp0 cp, .slice Ao lo0 co, .slice Ar lr0 cr, .slice Ad ld0 cd, .slice Ah lh0 ch] 40)
  have hz1 : (w.alloc (.cells #[.int .i64 n, .int .i64 id, .int .i64 own, .int .i64 view, .int .i64 left, .slice Av lv0 cv, .int .i64 lv, .int .i64 lx, .int .i64 dn, .slice Ap lp0 cp, .slice Ao lo0 co, .slice Ar lr0 cr, .slice Ad ld0 cd, .slice Ah lh0 ch] 40)).heap.size = w.heap.size + 1 := World.size_alloc _ _
  have ra := ka.rule
  go_enter Try.func62, Try.ntmps62
  go_wp2_with fail
  generalize (w.alloc (.cells #[.int .i64 n, .int .i64 id, .int .i64 own, .int .i64 view, .int .i64 left, .slice Av lv0 cv, .int .i64 lv, .int .i64 lx, .int .i64 dn, .slice Ap lp0 cp, .slice Ao lo0 co, .slice Ar lr0 cr, .slice Ad ld0 cd, .slice Ah lh0 ch] 40)) = w1 at *
  have KA := Lib.hid ka; have HB := Lib.hid hB
  clear ra ka hB
  refine wp_region_grow2 16 ?_ ?_ (NV (w.heap.size + 1) w.heap.size n id own view left lv lx dn Av Ap Ao Ar Ad Ah lv0 lp0 lo0 lr0 ld0 lh0 cv cp co cr cd ch pr vo re ds) (by kernel_rfl) (by kernel_rfl) (by kernel_rfl) NV.keep (NV.loc (by and_intros <;> kernel_rfl)) ?_ ?_
  rotate_left
  · intro us; simp only [putL]; go_simp; exact rfl
  · refine (Each.cons ?_ (Each.cons ?_ (Each.cons ?_ (Each.cons ?_ (Each.cons ?_ (Each.cons ?_ (Each.cons ?_ (Each.cons ?_ (Each.cons ?_ (Each.cons ?_ (Each.cons ?_ (Each.cons ?_ (Each.cons ?_ (Each.cons ?_ (Each.cons ?_ (Each.cons ?_ Each.nil))))))))))))))))
    · intro us wx hW hD Q K hK
      have rp := (KA.out.below hW KA.out.lt).rule
      go_simp
      exact hK _ _ (.agg #[.int .i64 n, .int .i64 id, .int .i64 own, .int .i64 view, .int .i64 left, .slice Av lv0 cv, .int .i64 lv, .int .i64 lx, .int .i64 dn, .slice Ap lp0 cp, .slice Ao lo0 co, .slice Ar lr0 cr, .slice Ad ld0 cd, .slice Ah lh0 ch]) (by go_simp) (Below.refl _ _) rfl
    · intro us wx hW hD Q K hK
      go_simp
      exact hK _ _ (.pointer (some ⟨w.heap.size, 9, none⟩)) (by go_simp) (Below.refl _ _) rfl
    · intro us wx hW hD Q K hK
      have e1 : us 1 = _ := hD 1 (by kernel_rfl) (by kernel_rfl)
      have rp := (KA.out.below hW KA.out.lt).rule
      go_simp
      exact hK _ _ (.agg #[.slice Ap lp0 cp]) (by go_simp) (Below.refl _ _) rfl
    · intro us wx hW hD Q K hK
      have e1 : us 2 = _ := hD 2 (by kernel_rfl) (by kernel_rfl)
      go_simp
      go_at_call 97
      refine (HP.out wx (on_ HB.out hW)).mono ?_
      rintro e w5 ⟨b, rfl, hb1, hbal, hb⟩
      have hw := hW.size
      exact hK _ _ (.agg #[.map (some b)]) (by go_simp) hb ⟨b, rfl, by omega, hbal⟩
    · intro us wx hW hD Q K hK
      go_simp
      exact hK _ _ (.pointer (some ⟨w.heap.size, 10, none⟩)) (by go_simp) (Below.refl _ _) rfl
    · intro us wx hW hD Q K hK
      have e1 : us 4 = _ := hD 4 (by kernel_rfl) (by kernel_rfl)
      have rp := (KA.out.below hW KA.out.lt).rule
      go_simp
      exact hK _ _ (.agg #[.slice Ao lo0 co]) (by go_simp) (Below.refl _ _) rfl
    · intro us wx hW hD Q K hK
      have e1 : us 5 = _ := hD 5 (by kernel_rfl) (by kernel_rfl)
      obtain ⟨b9, e9, h91, h92⟩ := hD 3 (by kernel_rfl) (by kernel_rfl)
      go_simp
      go_at_call 97
      refine (HO.out wx (on_ HB.out hW)).mono ?_
      rintro e w5 ⟨b, rfl, hb1, hbal, hb⟩
      have hw := hW.size
      exact hK _ _ (.agg #[.map (some b)]) (by go_simp) hb ⟨b, rfl, by omega, hbal, fun b' e => by
        have e2 := e9.symm.trans e
        simp only [Value.agg.injEq, Array.mk.injEq, List.cons.injEq, Value.map.injEq, Option.some.injEq, and_true] at e2
        have := h92.lt b9 rfl
        omega⟩
    · intro us wx hW hD Q K hK
      go_simp
      exact hK _ _ (.pointer (some ⟨w.heap.size, 11, none⟩)) (by go_simp) (Below.refl _ _) rfl
    · intro us wx hW hD Q K hK
      have e1 : us 7 = _ := hD 7 (by kernel_rfl) (by kernel_rfl)
      have rp := (KA.out.below hW KA.out.lt).rule
      go_simp
      exact hK _ _ (.agg #[.slice Ar lr0 cr]) (by go_simp) (Below.refl _ _) rfl
    · intro us wx hW hD Q K hK
      have e1 : us 8 = _ := hD 8 (by kernel_rfl) (by kernel_rfl)
      obtain ⟨b9, e9, h91, h92⟩ := hD 6 (by kernel_rfl) (by kernel_rfl)
      go_simp
      go_at_call 97
      refine (HR.out wx (on_ HB.out hW)).mono ?_
      rintro e w5 ⟨b, rfl, hb1, hbal, hb⟩
      have hw := hW.size
      exact hK _ _ (.agg #[.map (some b)]) (by go_simp) hb ⟨b, rfl, by omega, hbal, fun b' e => by
        have e2 := e9.symm.trans e
        simp only [Value.agg.injEq, Array.mk.injEq, List.cons.injEq, Value.map.injEq, Option.some.injEq, and_true] at e2
        have := h92.1.lt b9 rfl
        omega⟩
    · intro us wx hW hD Q K hK
      go_simp
      exact hK _ _ (.pointer (some ⟨w.heap.size, 12, none⟩)) (by go_simp) (Below.refl _ _) rfl
    · intro us wx hW hD Q K hK
      have e1 : us 10 = _ := hD 10 (by kernel_rfl) (by kernel_rfl)
      have rp := (KA.out.below hW KA.out.lt).rule
      go_simp
      exact hK _ _ (.agg #[.slice Ad ld0 cd]) (by go_simp) (Below.refl _ _) rfl
    · intro us wx hW hD Q K hK
      have e1 : us 11 = _ := hD 11 (by kernel_rfl) (by kernel_rfl)
      obtain ⟨b9, e9, h91, h92⟩ := hD 9 (by kernel_rfl) (by kernel_rfl)
      go_simp
      go_at_call 97
      refine (HD.out wx (on_ HB.out hW)).mono ?_
      rintro e w5 ⟨b, rfl, hb1, hbal, hb⟩
      have hw := hW.size
      exact hK _ _ (.agg #[.map (some b)]) (by go_simp) hb ⟨b, rfl, by omega, hbal, fun b' e => by
        have e2 := e9.symm.trans e
        simp only [Value.agg.injEq, Array.mk.injEq, List.cons.injEq, Value.map.injEq, Option.some.injEq, and_true] at e2
        have := h92.1.lt b9 rfl
        omega⟩
    · intro us wx hW hD Q K hK
      have e0 : us 0 = _ := hD 0 (by kernel_rfl) (by kernel_rfl)
      obtain ⟨b1, e3, g3, k3⟩ := hD 3 (by kernel_rfl) (by kernel_rfl)
      obtain ⟨b2, e6, g6, k6⟩ := hD 6 (by kernel_rfl) (by kernel_rfl)
      obtain ⟨b3, e9, g9, k9⟩ := hD 9 (by kernel_rfl) (by kernel_rfl)
      obtain ⟨b4, e12, g12, k12⟩ := hD 12 (by kernel_rfl) (by kernel_rfl)
      go_simp
      exact hK _ _ (.agg #[.int .i64 n, .int .i64 id, .int .i64 own, .int .i64 view, .int .i64 left, .slice Av lv0 cv, .int .i64 lv, .int .i64 lx, .int .i64 dn, .slice Ap lp0 cp, .slice Ao lo0 co, .slice Ar lr0 cr, .slice Ad ld0 cd, .slice Ah lh0 ch, .map (some b1), .map (some b2), .map (some b3), .map (some b4), .slice none 0 0]) (by go_simp) (Below.refl _ _) ⟨b1, b2, b3, b4, e3, e6, e9, e12, rfl⟩
    · intro us wx hW hD Q K hK
      obtain ⟨b1, b2, b3, b4, e3, e6, e9, e12, e13⟩ := hD 13 (by kernel_rfl) (by kernel_rfl)
      obtain ⟨b3', f3, g3, k3⟩ := hD 3 (by kernel_rfl) (by kernel_rfl)
      obtain ⟨b6', f6, g6, k6⟩ := hD 6 (by kernel_rfl) (by kernel_rfl)
      obtain ⟨b9', f9, g9, k9⟩ := hD 9 (by kernel_rfl) (by kernel_rfl)
      obtain ⟨b12', f12, g12, k12⟩ := hD 12 (by kernel_rfl) (by kernel_rfl)
      obtain rfl : b3' = b1 := by
        have e2 := f3.symm.trans e3
        simpa only [Value.agg.injEq, Array.mk.injEq, List.cons.injEq, Value.map.injEq, Option.some.injEq, and_true] using e2
      obtain rfl : b6' = b2 := by
        have e2 := f6.symm.trans e6
        simpa only [Value.agg.injEq, Array.mk.injEq, List.cons.injEq, Value.map.injEq, Option.some.injEq, and_true] using e2
      obtain rfl : b9' = b3 := by
        have e2 := f9.symm.trans e9
        simpa only [Value.agg.injEq, Array.mk.injEq, List.cons.injEq, Value.map.injEq, Option.some.injEq, and_true] using e2
      obtain rfl : b12' = b4 := by
        have e2 := f12.symm.trans e12
        simpa only [Value.agg.injEq, Array.mk.injEq, List.cons.injEq, Value.map.injEq, Option.some.injEq, and_true] using e2
      have hw := hW.size
      have l3 := k3.lt _ rfl; have l6 := k6.1.lt _ rfl; have l9 := k9.1.lt _ rfl; have l12 := k12.1.lt _ rfl
      go_simp
      exact hK _ _ (.pointer (some ⟨wx.heap.size, 0, none⟩)) (by go_simp) (up_ (Below.refl _ _) _) ⟨b3', b6', b9', b12', wx.heap.size, e3, e6, e9, e12, rfl, by omega, ⟨l3, l6, l9, l12⟩, Blk.new wx 143 _⟩
    · intro us wx hW hD Q K hK
      obtain ⟨b1, b2, b3, b4, x, e3, e6, e9, e12, e14, r⟩ := hD 14 (by kernel_rfl) (by kernel_rfl)
      go_simp
      exact hK _ _ (.pointer (some ⟨x, 0, none⟩)) (by go_simp) (Below.refl _ _) e14.symm
  intro us' w3 hD hb3
  obtain ⟨b1, b2, b3, b4, x, e3, e6, e9, e12, e14, hx, ⟨x1, x2, x3, x4⟩, kx⟩ := hD 14 (by decide)
  have e15 : us' 15 = us' 14 := hD 15 (by decide)
  rw [e14] at e15
  obtain ⟨b3', f3, g3, k3⟩ := hD 3 (by decide)
  obtain ⟨b6', f6, g6, k6⟩ := hD 6 (by decide)
  obtain ⟨b9', f9, g9, k9⟩ := hD 9 (by decide)
  obtain ⟨b12', f12, g12, k12⟩ := hD 12 (by decide)
  obtain rfl : b1 = b3' := by
    have e2 := e3.symm.trans f3
    simpa only [Value.agg.injEq, Array.mk.injEq, List.cons.injEq, Value.map.injEq, Option.some.injEq, and_true] using e2
  obtain rfl : b2 = b6' := by
    have e2 := e6.symm.trans f6
    simpa only [Value.agg.injEq, Array.mk.injEq, List.cons.injEq, Value.map.injEq, Option.some.injEq, and_true] using e2
  obtain rfl : b3 = b9' := by
    have e2 := e9.symm.trans f9
    simpa only [Value.agg.injEq, Array.mk.injEq, List.cons.injEq, Value.map.injEq, Option.some.injEq, and_true] using e2
  obtain rfl : b4 = b12' := by
    have e2 := e12.symm.trans f12
    simpa only [Value.agg.injEq, Array.mk.injEq, List.cons.injEq, Value.map.injEq, Option.some.injEq, and_true] using e2
  have o6 := k6.2 _ f3; have o9 := k9.2 _ f6; have o12 := k12.2 _ f9
  have K3 := Lib.hid k3; have K6 := Lib.hid k6.1; have K9 := Lib.hid k9.1; have K12 := Lib.hid k12.1
  have HB3 := Lib.hid (on_ HB.out hb3)
  have KA3 := Lib.hid (KA.out.below hb3 KA.out.lt)
  have hlx := kx.lt
  have hxa : x ≠ w.heap.size := by omega
  clear k3 k6 k9 k12 hb3 KA HB HP HO HR HD hD f3 f6 f9 f12 e3 e6 e9 e12 e14
  have hxw : w.heap.size ≤ x := by omega
  generalize us' 0 = z0 at *
  generalize us' 1 = z1 at *
  generalize us' 2 = z2 at *
  generalize us' 3 = z3 at *
  generalize us' 4 = z4 at *
  generalize us' 5 = z5 at *
  generalize us' 6 = z6 at *
  generalize us' 7 = z7 at *
  generalize us' 8 = z8 at *
  generalize us' 9 = z9 at *
  generalize us' 10 = z10 at *
  generalize us' 11 = z11 at *
  generalize us' 12 = z12 at *
  generalize us' 13 = z13 at *
  generalize us' 14 = z14 at *
  generalize us' 15 = z15 at *
  clear us'
  subst e15
  have ra := KA3.out.rule
  have rx := kx.rule; have fx := fun i => kx.frozen i
  go_wp2_with fail
  have kx4 : Blk _ x 143 #[.int .i64 n, .int .i64 id, .int .i64 own, .int .i64 view, .int .i64 left, .slice Av lv0 cv, .int .i64 lv, .int .i64 lx, .int .i64 dn, .slice none 0 0, .slice none 0 0, .slice none 0 0, .slice none 0 0, .slice Ah lh0 ch, .map (some b1), .map (some b2), .map (some b3), .map (some b4), .slice none 0 0] := (((kx.set_ 9 (.slice none 0 0)).set_ 10 (.slice none 0 0)).set_ 11 (.slice none 0 0)).set_ 12 (.slice none 0 0)
  have HB4 := Lib.hid ((((HB3.out.setCell (p := ⟨x, 9, none⟩) hxw (.slice none 0 0)).setCell (p := ⟨x, 10, none⟩) hxw (.slice none 0 0)).setCell (p := ⟨x, 11, none⟩) hxw (.slice none 0 0)).setCell (p := ⟨x, 12, none⟩) hxw (.slice none 0 0))
  have KA4 := Lib.hid ((((KA3.out.far (p := ⟨x, 9, none⟩) hxa.symm (.slice none 0 0)).far (p := ⟨x, 10, none⟩) hxa.symm (.slice none 0 0)).far (p := ⟨x, 11, none⟩) hxa.symm (.slice none 0 0)).far (p := ⟨x, 12, none⟩) hxa.symm (.slice none 0 0))
  have L3 := Lib.hid ((((K3.out.set_ (x := x) (by omega) 9 (.slice none 0 0)).set_ (x := x) (by omega) 10 (.slice none 0 0)).set_ (x := x) (by omega) 11 (.slice none 0 0)).set_ (x := x) (by omega) 12 (.slice none 0 0))
  have L6 := Lib.hid ((((K6.out.set_ (x := x) (by omega) 9 (.slice none 0 0)).set_ (x := x) (by omega) 10 (.slice none 0 0)).set_ (x := x) (by omega) 11 (.slice none 0 0)).set_ (x := x) (by omega) 12 (.slice none 0 0))
  have L9 := Lib.hid ((((K9.out.set_ (x := x) (by omega) 9 (.slice none 0 0)).set_ (x := x) (by omega) 10 (.slice none 0 0)).set_ (x := x) (by omega) 11 (.slice none 0 0)).set_ (x := x) (by omega) 12 (.slice none 0 0))
  have L12 := Lib.hid ((((K12.out.set_ (x := x) (by omega) 9 (.slice none 0 0)).set_ (x := x) (by omega) 10 (.slice none 0 0)).set_ (x := x) (by omega) 11 (.slice none 0 0)).set_ (x := x) (by omega) 12 (.slice none 0 0))
  clear kx rx fx ra HB3 KA3 K3 K6 K9 K12
  generalize ((((w3.setCell ⟨x, 9, none⟩ (.slice none 0 0)).setCell ⟨x, 10, none⟩ (.slice none 0 0)).setCell ⟨x, 11, none⟩ (.slice none 0 0)).setCell ⟨x, 12, none⟩ (.slice none 0 0)) = w4 at *
  refine (HV.out w4 HB4.out).mono ?_
  rintro e w5 ⟨Bv, dv, rfl, hov, hb⟩
  have hx4 : x + 1 ≤ w4.heap.size := kx4.lt
  have hov1 := hov.low hx4
  have HOV := Lib.hid (hov1.set_ (p := ⟨x, 5, none⟩) (fun h => by have := (hov1.lt x h).1; omega) (.slice Bv lv0 dv))
  have kx5 := kx4.on hb
  have kx6 : Blk _ x 143 #[.int .i64 n, .int .i64 id, .int .i64 own, .int .i64 view, .int .i64 left, .slice Bv lv0 dv, .int .i64 lv, .int .i64 lx, .int .i64 dn, .slice none 0 0, .slice none 0 0, .slice none 0 0, .slice none 0 0, .slice Ah lh0 ch, .map (some b1), .map (some b2), .map (some b3), .map (some b4), .slice none 0 0] := kx5.set_ 5 (.slice Bv lv0 dv)
  have HB6 := Lib.hid ((on_ HB4.out hb).setCell (p := ⟨x, 5, none⟩) hxw (.slice Bv lv0 dv))
  have KA6 := Lib.hid ((KA4.out.on hb).far (p := ⟨x, 5, none⟩) hxa.symm (.slice Bv lv0 dv))
  have M3 := Lib.hid ((L3.out.on hb).set_ (x := x) (by omega) 5 (.slice Bv lv0 dv))
  have M6 := Lib.hid ((L6.out.on hb).set_ (x := x) (by omega) 5 (.slice Bv lv0 dv))
  have M9 := Lib.hid ((L9.out.on hb).set_ (x := x) (by omega) 5 (.slice Bv lv0 dv))
  have M12 := Lib.hid ((L12.out.on hb).set_ (x := x) (by omega) 5 (.slice Bv lv0 dv))
  have r5 := kx5.rule; have f5 := fun i => kx5.frozen i; have ra := KA6.out.rule
  clear hov hov1 HB4 KA4 L3 L6 L9 L12 hb kx4 HV
  dsimp only
  go_wp2_with fail
  clear r5 f5 ra
  have hz6 : (w5.setCell ⟨x, 5, none⟩ (.slice Bv lv0 dv)).heap.size = w5.heap.size := by simp [World.setCell]
  generalize (w5.setCell ⟨x, 5, none⟩ (.slice Bv lv0 dv)) = w6 at *
  refine (HH.out w6 HB6.out).mono ?_
  rintro e w7 ⟨Bh, dh, qs, rfl, hqs, hoh, hb⟩
  have hx6 : x + 1 ≤ w6.heap.size := kx6.lt
  have hdis : ∀ g ∈ fpX eH (.slice Bh qs.length dh) qs, g ∉ fpX eV (.slice Bv lv0 dv) voted := fun g h1 h2 => by
    have a1 := (hoh.lt g h1).1
    have a2 := (HOV.out.lt g h2).2
    omega
  have hoh1 := hoh.low hx6
  have HOH := Lib.hid (hoh1.set_ (p := ⟨x, 13, none⟩) (fun h => by have := (hoh1.lt x h).1; omega) (.slice Bh qs.length dh))
  have hov2 := HOV.out.on hb
  have HOV2 := Lib.hid (hov2.set_ (p := ⟨x, 13, none⟩) (fun h => by have := (hov2.lt x h).1; omega) (.slice Bh qs.length dh))
  have kx7 := kx6.on hb
  have kx8 : Blk _ x 143 #[.int .i64 n, .int .i64 id, .int .i64 own, .int .i64 view, .int .i64 left, .slice Bv lv0 dv, .int .i64 lv, .int .i64 lx, .int .i64 dn, .slice none 0 0, .slice none 0 0, .slice none 0 0, .slice none 0 0, .slice Bh qs.length dh, .map (some b1), .map (some b2), .map (some b3), .map (some b4), .slice none 0 0] := kx7.set_ 13 (.slice Bh qs.length dh)
  have HB8 := Lib.hid ((on_ HB6.out hb).setCell (p := ⟨x, 13, none⟩) hxw (.slice Bh qs.length dh))
  have P3 := Lib.hid ((M3.out.on hb).set_ (x := x) (by omega) 13 (.slice Bh qs.length dh))
  have P6 := Lib.hid ((M6.out.on hb).set_ (x := x) (by omega) 13 (.slice Bh qs.length dh))
  have P9 := Lib.hid ((M9.out.on hb).set_ (x := x) (by omega) 13 (.slice Bh qs.length dh))
  have P12 := Lib.hid ((M12.out.on hb).set_ (x := x) (by omega) 13 (.slice Bh qs.length dh))
  have r7 := kx7.rule; have f7 := fun i => kx7.frozen i
  have HQS := Lib.hid hqs
  clear hoh hoh1 hov2 HOV HB6 KA6 M3 M6 M9 M12 hb kx6 HH hqs
  go_wp2
  go_ret
  exact ⟨x, _, _, _, _, Bv, dv, Bh, dh, qs, rfl, by omega, o6, o9, o12, by omega, kx8, P3.out, P6.out, P9.out, P12.out, HQS.out, HOV2.out, HOH.out, hdis, HB8.out⟩
end Go.Proofs.Ytfdfjmibjnmhpaa.V
