/-
  TellOf of the model and of the program: contracts. No statement is proved here.
-/
import Derived.Test.YtfdfjmibjnmhpaaK15
import Derived.Test.YtfdfjmibjnmhpaaK07
import Derived.Test.YtfdfjmibjnmhpaaK06
set_option linter.unusedVariables false
set_option maxRecDepth 100000
namespace Go.Proofs.Ytfdfjmibjnmhpaa.V
open Go.RowKit Go.Proofs.Ytfdfjmibjnmhpaa.B
theorem l4told_any (view who : Int) (A : Option Addr) (c : Nat) (vs : List B3) (w : World) (hr : Rd3 w w.heap.size A vs) (hn : vs.length ≤ 1048576) :
    Calls Try.prog 59 #[.agg #[.slice A vs.length c], .int .i64 view, .int .i64 who] w fun e w' => e = .returned (.tuple #[.int .i64 (foundV vs view who), .bool (foundQ vs view who)]) ∧ Below w.heap.size w w' := by
  obtain ⟨n, hvn⟩ : ∃ n, vs.length = n := ⟨_, rfl⟩
  rw [hvn] at hn ⊢
  have HV := Lib.hid hvn; clear hvn
  go_enter Try.func59, Try.ntmps59
  go_wp2
  have hr1 := (hr.up (.cells #[.slice A n c] 37))
  have kb := Blk.new w 37 #[.slice A n c]
  have rb := kb.cell 0
  have hfin : Below w.heap.size w (w.alloc (.cells #[.slice A n c] 37)) := (Below.refl _ _).alloc (Nat.le_refl _) _
  clear kb hr
  generalize w.alloc (.cells #[.slice A n c] 37) = w1 at *
  go_loop [8] (fun i => ∃ (k : Nat), k ≤ n ∧ i = .int .i64 k ∧ Hid (∀ j, j < k → isOf view who (vs.getD j z3) = false)) (fun i => n - (intOf i).toNat)
  case atStart => exact ⟨0, Nat.zero_le _, rfl, fun j hj => absurd hj (by omega)⟩
  case round =>
    obtain ⟨k, hk, rfl, hall⟩ := hrel
    by_cases hlt : k < n
    · obtain ⟨b, off, rfl, hb, hc0, hc1, hc2⟩ := Rd3.at_ hr1 (k := k) (by rw [HV.out]; omega)
      obtain ⟨⟨ua, ub, uc⟩, hu⟩ : ∃ v, vs.getD k z3 = v := ⟨_, rfl⟩
      rw [hu] at hc0 hc1 hc2
      have HU := Lib.hid hu
      clear hu hr1
      by_cases h1 : ub = view
      · by_cases h2 : ua = who
        · have HF : Hid (vs.find? (isOf view who) = some (ua, ub, uc)) := by
            show _ = _
            have := find_at (vs := vs) (p := isOf view who) (k := k) (by rw [HV.out]; exact hlt) hall.out (by rw [HU.out]; simp [isOf, h1, h2])
            rw [this, HU.out]
          subst h1 h2
          go_wp2
          refine bodyPost_ret (v := .tuple #[.int .i64 uc, .bool true]) (by simp [results, Try.results59, go_sem]) rfl ?_
          exact ⟨ret_two (by simp [foundV, HF.out]) (by simp [foundQ, HF.out]), hfin⟩
        · have hf : (ua == who) = false := by simpa using h2
          have HN : Hid (isOf view who (vs.getD k z3) = false) := by show _ = _; rw [HU.out]; simp [isOf, h2]
          subst h1
          go_wp2
          go_round
          case rel => exact ⟨k + 1, by omega, by go_num, fun j hj => by
            by_cases e : j = k
            · subst e; exact HN.out
            · exact hall.out j (by omega)⟩
          case measure => simp [intOf]; omega
      · have hf : (ub == view) = false := by simpa using h1
        have HN : Hid (isOf view who (vs.getD k z3) = false) := by show _ = _; rw [HU.out]; simp [isOf, h1]
        go_wp2
        go_round
        case rel => exact ⟨k + 1, by omega, by go_num, fun j hj => by
          by_cases e : j = k
          · subst e; exact HN.out
          · exact hall.out j (by omega)⟩
        case measure => simp [intOf]; omega
    · obtain rfl : k = n := by omega
      have HF : Hid (vs.find? (isOf view who) = none) := find_no fun j hj => hall.out j (by rw [HV.out] at hj; exact hj)
      go_wp2
      refine bodyPost_ret (v := .tuple #[.int .i64 0, .bool false]) (by simp [results, Try.results59, go_sem]) rfl ?_
      exact ⟨ret_two (by simp [foundV, HF.out]) (by simp [foundQ, HF.out]), hfin⟩


def hasI (xs : List Int) (y : Int) : Bool := xs.any fun z => decide (z = y)
theorem has_yes {xs : List Int} {y : Int} {k : Nat} (hk : k < xs.length) (e : xs.getD k 0 = y) : hasI xs y = true := by
  unfold hasI
  rw [List.any_eq_true]
  rw [List.getD_eq_getElem?_getD, List.getElem?_eq_getElem hk] at e
  exact ⟨_, List.getElem_mem hk, by simpa using e⟩
theorem has_no {xs : List Int} {y : Int} (h : ∀ k, k < xs.length → xs.getD k 0 ≠ y) : hasI xs y = false := by
  unfold hasI
  rw [List.any_eq_false]
  intro z hz
  obtain ⟨i, hi, rfl⟩ := List.getElem_of_mem hz
  have := h i hi
  rw [List.getD_eq_getElem?_getD, List.getElem?_eq_getElem hi] at this
  simpa using this
set_option maxHeartbeats 1600000 in
theorem l2has_any (A : Option Addr) (c : Nat) (xs : List Int) (y : Int) (w : World) (hr : RdI w w.heap.size A xs) (hn : xs.length ≤ 1048576) :
    Calls Try.prog 58 #[.slice A xs.length c, .int .i64 y] w fun e w' => e = .returned (.bool (hasI xs y)) ∧ w' = w := by
  have HY := Lib.hid (fun k => @has_yes xs y k)
  have HN := Lib.hid (@has_no xs y)
  obtain ⟨r, er⟩ : ∃ r, hasI xs y = r := ⟨_, rfl⟩
  obtain ⟨n, hvn⟩ : ∃ n, xs.length = n := ⟨_, rfl⟩
  rw [er, hvn]
  rw [er] at HY HN
  rw [hvn] at hn HY HN
  have HV := Lib.hid hvn; clear hvn er
  go_enter Try.func58, Try.ntmps58
  go_wp2
  go_loop [5] (fun i => ∃ (k : Nat), k ≤ n ∧ i = .int .i64 k ∧ Hid (∀ j, j < k → xs.getD j 0 ≠ y)) (fun i => n - (intOf i).toNat)
  case atStart => exact ⟨0, Nat.zero_le _, rfl, fun j hj => absurd hj (by omega)⟩
  case round =>
    obtain ⟨k, hk, rfl, hall⟩ := hrel
    by_cases hlt : k < n
    · obtain ⟨b_, off, rfl, hb, hc0⟩ := hr.at_ (k := k) (by rw [HV.out]; exact hlt)
      obtain ⟨z, hz⟩ : ∃ z, xs.getD k 0 = z := ⟨_, rfl⟩
      rw [hz] at hc0
      have HZ := Lib.hid hz
      clear hz hr
      by_cases e : z = y
      · subst e
        obtain rfl := HY.out k hlt HZ.out
        go_wp2
        go_ret
        exact ⟨rfl, rfl⟩
      · have hf : (z == y) = false := by simpa using e
        have HE := Lib.hid e; clear e HY HN
        go_wp2
        go_round
        case rel => exact ⟨k + 1, by omega, by go_num, fun j hj => by
          by_cases e : j = k
          · subst e; rw [HZ.out]; exact HE.out
          · exact hall.out j (by omega)⟩
        case measure => simp [intOf]; omega
    · obtain rfl : k = n := by omega
      obtain rfl := HN.out hall.out
      go_wp2
      go_ret
      exact ⟨rfl, rfl⟩
set_option maxHeartbeats 1600000 in
theorem index_any (A : Option Addr) (c : Nat) (xs : List Int) (y : Int) (w : World) (hr : RdI w w.heap.size A xs) (hn : xs.length ≤ 1048576) :
    Calls Try.prog 96 #[.slice A xs.length c, .int .i64 y] w fun e w' => ∃ j : Int, e = .returned (.int .i64 j) ∧ decide (0 ≤ j) = hasI xs y ∧ w' = w := by
  have HY := Lib.hid (fun k => @has_yes xs y k)
  have HN := Lib.hid (@has_no xs y)
  obtain ⟨r, er⟩ : ∃ r, hasI xs y = r := ⟨_, rfl⟩
  obtain ⟨n, hvn⟩ : ∃ n, xs.length = n := ⟨_, rfl⟩
  rw [er, hvn]
  rw [er] at HY HN
  rw [hvn] at hn HY HN
  have HV := Lib.hid hvn; clear hvn er
  go_enter Try.func96, Try.ntmps96
  go_wp2
  go_loop [8] (fun i => ∃ (k : Nat), k ≤ n ∧ i = .int .i64 k ∧ Hid (∀ j, j < k → xs.getD j 0 ≠ y)) (fun i => n - (intOf i).toNat)
  case atStart => exact ⟨0, Nat.zero_le _, rfl, fun j hj => absurd hj (by omega)⟩
  case round =>
    obtain ⟨k, hk, rfl, hall⟩ := hrel
    by_cases hlt : k < n
    · obtain ⟨b_, off, rfl, hb, hc0⟩ := hr.at_ (k := k) (by rw [HV.out]; exact hlt)
      obtain ⟨z, hz⟩ : ∃ z, xs.getD k 0 = z := ⟨_, rfl⟩
      rw [hz] at hc0
      have HZ := Lib.hid hz
      clear hz hr
      by_cases e : z = y
      · subst e
        obtain rfl := HY.out k hlt HZ.out
        have hzz : (z == z) = true := by simp
        go_wp2
        go_ret
        exact ⟨(k : Int), rfl, by simp, rfl⟩
      · have hf : (y == z) = false := by simpa using fun h : y = z => e h.symm
        have HE := Lib.hid e; clear e HY HN
        go_wp2
        go_round
        case rel => exact ⟨k + 1, by omega, by go_num, fun j hj => by
          by_cases e : j = k
          · subst e; rw [HZ.out]; exact HE.out
          · exact hall.out j (by omega)⟩
        case measure => simp [intOf]; omega
    · obtain rfl : k = n := by omega
      obtain rfl := HN.out hall.out
      go_wp2
      go_ret
      exact ⟨-1, rfl, by simp, rfl⟩
set_option maxHeartbeats 1600000 in
theorem contains_any (A : Option Addr) (c : Nat) (xs : List Int) (y : Int) (w : World) (hr : RdI w w.heap.size A xs) (hn : xs.length ≤ 1048576) :
    Calls Try.prog 61 #[.slice A xs.length c, .int .i64 y] w fun e w' => e = .returned (.bool (hasI xs y)) ∧ w' = w := by
  have HI := Lib.hid (index_any A c xs y w hr hn)
  go_enter Try.func61, Try.ntmps61
  go_wp2_with fail
  refine HI.out.mono ?_
  rintro e w' ⟨j, rfl, hj, rfl⟩
  go_wp2
  go_ret
  exact ⟨by rw [← hj]; rfl, rfl⟩
set_option maxHeartbeats 1600000 in
theorem box_0 (x : Nat) (c0 c1 c2 c3 c4 c5 c6 c7 c8 c9 c10 c11 c12 c13 s : Value) (m1 m2 m3 m4 : Option Nat) (w : World) (kx : Blk w x 143 #[c0, c1, c2, c3, c4, c5, c6, c7, c8, c9, c10, c11, c12, c13, .map m1, .map m2, .map m3, .map m4, s]) :
    Calls Try.prog 63 #[.pointer (some ⟨x, 0, none⟩), .int .i64 0] w fun e w' => e = .returned (.agg #[.map m1]) ∧ Below w.heap.size w w' := by
  have kx1 := kx.alloc (.cells #[.map none] 97)
  have kb := Blk.new w 97 #[.map none]
  have rx := kx1.rule
  have rb := kb.rule; have fb := fun i => kb.frozen i
  go_enter Try.func63, Try.ntmps63
  go_wp2
  refine bodyPost_ret (v := .agg #[.map m1]) (by simp [results, Try.results63, go_sem]) rfl ⟨rfl, up_ (Below.refl w.heap.size w) _⟩
set_option maxHeartbeats 1600000 in
theorem box_1 (x : Nat) (c0 c1 c2 c3 c4 c5 c6 c7 c8 c9 c10 c11 c12 c13 s : Value) (m1 m2 m3 m4 : Option Nat) (w : World) (kx : Blk w x 143 #[c0, c1, c2, c3, c4, c5, c6, c7, c8, c9, c10, c11, c12, c13, .map m1, .map m2, .map m3, .map m4, s]) :
    Calls Try.prog 63 #[.pointer (some ⟨x, 0, none⟩), .int .i64 1] w fun e w' => e = .returned (.agg #[.map m2]) ∧ Below w.heap.size w w' := by
  have kx1 := kx.alloc (.cells #[.map none] 97)
  have kb := Blk.new w 97 #[.map none]
  have rx := kx1.rule
  have rb := kb.rule; have fb := fun i => kb.frozen i
  go_enter Try.func63, Try.ntmps63
  go_wp2
  refine bodyPost_ret (v := .agg #[.map m2]) (by simp [results, Try.results63, go_sem]) rfl ⟨rfl, up_ (Below.refl w.heap.size w) _⟩
set_option maxHeartbeats 1600000 in
theorem box_2 (x : Nat) (c0 c1 c2 c3 c4 c5 c6 c7 c8 c9 c10 c11 c12 c13 s : Value) (m1 m2 m3 m4 : Option Nat) (w : World) (kx : Blk w x 143 #[c0, c1, c2, c3, c4, c5, c6, c7, c8, c9, c10, c11, c12, c13, .map m1, .map m2, .map m3, .map m4, s]) :
    Calls Try.prog 63 #[.pointer (some ⟨x, 0, none⟩), .int .i64 2] w fun e w' => e = .returned (.agg #[.map m3]) ∧ Below w.heap.size w w' := by
  have kx1 := kx.alloc (.cells #[.map none] 97)
  have kb := Blk.new w 97 #[.map none]
  have rx := kx1.rule
  have rb := kb.rule; have fb := fun i => kb.frozen i
  go_enter Try.func63, Try.ntmps63
  go_wp2
  refine bodyPost_ret (v := .agg #[.map m3]) (by simp [results, Try.results63, go_sem]) rfl ⟨rfl, up_ (Below.refl w.heap.size w) _⟩
set_option maxHeartbeats 1600000 in
theorem box_4 (x : Nat) (c0 c1 c2 c3 c4 c5 c6 c7 c8 c9 c10 c11 c12 c13 s : Value) (m1 m2 m3 m4 : Option Nat) (w : World) (kx : Blk w x 143 #[c0, c1, c2, c3, c4, c5, c6, c7, c8, c9, c10, c11, c12, c13, .map m1, .map m2, .map m3, .map m4, s]) :
    Calls Try.prog 63 #[.pointer (some ⟨x, 0, none⟩), .int .i64 4] w fun e w' => e = .returned (.agg #[.map m4]) ∧ Below w.heap.size w w' := by
  have kx1 := kx.alloc (.cells #[.map none] 97)
  have kb := Blk.new w 97 #[.map none]
  have rx := kx1.rule
  have rb := kb.rule; have fb := fun i => kb.frozen i
  go_enter Try.func63, Try.ntmps63
  go_wp2
  refine bodyPost_ret (v := .agg #[.map m4]) (by simp [results, Try.results63, go_sem]) rfl ⟨rfl, up_ (Below.refl w.heap.size w) _⟩
def selT {α : Type} (k : Int) (pr vo re ds : α) : α := if k = 0 then pr else if k = 2 then re else if k = 4 then ds else vo
theorem box_any (x : Nat) (c0 c1 c2 c3 c4 c5 c6 c7 c8 c9 c10 c11 c12 c13 s : Value) (m1 m2 m3 m4 : Option Nat) (k : Int) (hk : k = 0 ∨ k = 1 ∨ k = 2 ∨ k = 4) (w : World) (kx : Blk w x 143 #[c0, c1, c2, c3, c4, c5, c6, c7, c8, c9, c10, c11, c12, c13, .map m1, .map m2, .map m3, .map m4, s]) :
    Calls Try.prog 63 #[.pointer (some ⟨x, 0, none⟩), .int .i64 k] w fun e w' => e = .returned (.agg #[.map (selT k m1 m2 m3 m4)]) ∧ Below w.heap.size w w' := by
  rcases hk with rfl | rfl | rfl | rfl
  · exact box_0 x c0 c1 c2 c3 c4 c5 c6 c7 c8 c9 c10 c11 c12 c13 s m1 m2 m3 m4 w kx
  · exact box_1 x c0 c1 c2 c3 c4 c5 c6 c7 c8 c9 c10 c11 c12 c13 s m1 m2 m3 m4 w kx
  · exact box_2 x c0 c1 c2 c3 c4 c5 c6 c7 c8 c9 c10 c11 c12 c13 s m1 m2 m3 m4 w kx
  · exact box_4 x c0 c1 c2 c3 c4 c5 c6 c7 c8 c9 c10 c11 c12 c13 s m1 m2 m3 m4 w kx
set_option maxHeartbeats 1600000 in
theorem told_any (b : Nat) (L : List B3) (p q : Int) (hp : wfI p) (hq : wfI q) (w : World) (hb : Bals w (.map (some b)) L) :
    Calls Try.prog 64 #[.agg #[.map (some b)], .int .i64 p, .int .i64 q] w fun e w' => e = .returned (.tuple #[.int .i64 (foundV L p q), .bool (foundQ L p q)]) ∧ Below w.heap.size w w' := by
  have kb := Blk.new w 97 #[.map (some b)]
  have rb := kb.rule
  have hB := up_ (Below.refl w.heap.size w) (.cells #[.map (some b)] 97)
  have HBL := Lib.hid (hb.alloc (.cells #[.map (some b)] 97))
  clear hb
  go_enter Try.func64, Try.ntmps64
  go_wp2_with (at_lookup; refine wpList_look_bals _ rfl _ _ rfl _ L rfl HBL.out p q rfl hp hq ?_)
  refine bodyPost_ret (v := .tuple #[.int .i64 (foundV L p q), .bool (foundQ L p q)]) (by simp [results, Try.results64, go_sem]) rfl ⟨rfl, hB⟩
def tellQ (d : Rd4) (k v x a b : Int) (vs : List (Int × Int)) : Bool :=
  (repQ d && msgOkB k v x a b vs) && (if k = 3 then hasI (hFrom d.hs v) d.id else foundQ (selT k d.pr d.vo d.re d.ds) v d.id && decide (foundV (selT k d.pr d.vo d.re d.ds) v d.id = x))
theorem kind_of {k v x a b : Int} {vs : List (Int × Int)} (h : msgOkB k v x a b vs = true) : (k = 0 ∨ k = 1 ∨ k = 2 ∨ k = 4 ∨ k = 3) ∧ 0 ≤ v ∧ v ≤ 9 := by
  unfold msgOkB viewOkB at h
  simp only [Bool.and_eq_true, decide_eq_true_eq] at h
  obtain ⟨⟨⟨h1, h2⟩, h3⟩, _⟩ := h
  omega
theorem id_of {d : Rd4} (h : repQ d = true) : 0 ≤ d.id ∧ d.id < 7 := by
  unfold repQ headQ sizeB at h
  simp only [Bool.and_eq_true, Bool.or_eq_true, decide_eq_true_eq] at h
  omega
def RV (base p pm : Nat) (n id own view left lv lx dn : Int) (Av Ap Ao Ar Ad Ah : Option Addr) (lv0 lp0 lo0 lr0 ld0 lh0 cv cp co cr cd ch : Nat) (v : Int) (xs : List Int) : Nat → Value → World → Prop
  | 0, u, _ => u = .agg #[.int .i64 n, .int .i64 id, .int .i64 own, .int .i64 view, .int .i64 left, .slice Av lv0 cv, .int .i64 lv, .int .i64 lx, .int .i64 dn, .slice Ap lp0 cp, .slice Ao lo0 co, .slice Ar lr0 cr, .slice Ad ld0 cd, .slice Ah lh0 ch]
  | 1, u, _ => u = .pointer (some ⟨pm, 1, none⟩)
  | 2, u, _ => u = .int .i64 v
  | 3, u, w => ∃ B d, u = .slice B xs.length d ∧ OI w 3 base B xs
  | 4, u, _ => u = .pointer (some ⟨p, 1, none⟩)
  | 5, u, _ => u = .int .i64 id
  | 6, u, _ => u = .bool (hasI xs id)
  | 7, u, _ => u = .bool (hasI xs id)
  | _, _, _ => True
theorem RV.keep {base p pm : Nat} {n id own view left lv lx dn : Int} {Av Ap Ao Ar Ad Ah : Option Addr} {lv0 lp0 lo0 lr0 ld0 lh0 cv cp co cr cd ch : Nat} {v : Int} {xs : List Int} : ∀ j u w1 w2, RV base p pm n id own view left lv lx dn Av Ap Ao Ar Ad Ah lv0 lp0 lo0 lr0 ld0 lh0 cv cp co cr cd ch v xs j u w1 → Below w1.heap.size w1 w2 → RV base p pm n id own view left lv lx dn Av Ap Ao Ar Ad Ah lv0 lp0 lo0 lr0 ld0 lh0 cv cp co cr cd ch v xs j u w2 := by
  intro j u w1 w2 h hb
  match j, h with
  | 0, h => exact h
  | 1, h => exact h
  | 2, h => exact h
  | 3, h => obtain ⟨B, d, e, ho⟩ := h; exact ⟨B, d, e, ho.on hb⟩
  | 4, h => exact h
  | 5, h => exact h
  | 6, h => exact h
  | 7, h => exact h
  | _ + 8, _ => trivial
set_option maxHeartbeats 3200000 in
theorem specTell_no (q : Rq) (k v x a b : Int) (A : Option Addr) (c : Nat) (vs : List (Int × Int)) (w : World) (hr : RdQ w w.heap.size q) (hf : FewQ q) (hm : Rd w w.heap.size A vs) (hn : vs.length ≤ 1048576) (h : (repQ q.dat && msgOkB k v x a b vs) = false) :
    Calls Try.prog 25 #[q.agg, .agg #[.int .i64 k, .int .i64 v, .int .i64 x, .int .i64 a, .int .i64 b, .slice A vs.length c]] w fun e w' => e = .returned (.bool false) ∧ Below w.heap.size w w' := by
  obtain ⟨g, hg⟩ : ∃ g, repQ q.dat = g := ⟨_, rfl⟩
  obtain ⟨m, hm2⟩ : ∃ m, msgOkB k v x a b vs = m := ⟨_, rfl⟩
  have HC := Lib.hid (fun (W : World) (h : Below w.heap.size w W) => specRepOk_is g q hg W ((hr.below h).more h.size) hf)
  have HM := Lib.hid (fun (W : World) (h : Below w.heap.size w W) => specMsgOk_is m k v x a b A c vs hm2 W ((hm.below h).more h.size) hn)
  have hgm : g = true → m = false := fun e => by rw [← hg] at e; rw [e, Bool.true_and] at h; rw [← hm2]; exact h
  clear hg hm2 h
  obtain ⟨n, id, own, view, left, voted, lv, lx, dn, pr, vo, re, ds, hs, Av, Ap, Ao, Ar, Ad, Ah, cv, cp, co, cr, cd, ch⟩ := q
  obtain ⟨rv, rp, ro, rr, rd, rh⟩ := hr
  obtain ⟨fv, fp, fo, fr, fd, fh⟩ := hf
  simp only [Rq.agg, Rq.cells] at *
  obtain ⟨lv0, elv0⟩ : ∃ m, voted.length = m := ⟨_, rfl⟩
  obtain ⟨lp0, elp0⟩ : ∃ m, pr.length = m := ⟨_, rfl⟩
  obtain ⟨lo0, elo0⟩ : ∃ m, vo.length = m := ⟨_, rfl⟩
  obtain ⟨lr0, elr0⟩ : ∃ m, re.length = m := ⟨_, rfl⟩
  obtain ⟨ld0, eld0⟩ : ∃ m, ds.length = m := ⟨_, rfl⟩
  obtain ⟨lh0, elh0⟩ : ∃ m, hs.length = m := ⟨_, rfl⟩
  obtain ⟨l, el⟩ : ∃ m, vs.length = m := ⟨_, rfl⟩
  simp only [elv0, elp0, elo0, elr0, eld0, elh0, el] at HC HM ⊢
  clear elv0 elp0 elo0 elr0 eld0 elh0 el rv rp ro rr rd rh fv fp fo fr fd fh hm hn
  have HGM := Lib.hid hgm; clear hgm
  have ka := (Blk.new w 40 #[.int .i64 n, .int .i64 id, .int .i64 own, .int .i64 view, .int .i64 left, .slice Av lv0 cv, .int .i64 lv, .int .i64 lx, .int .i64 dn, .slice Ap lp0 cp, .slice Ao lo0 co, .slice Ar lr0 cr, .slice Ad ld0 cd, .slice Ah lh0 ch]).alloc (.cells #[.int .i64 k, .int .i64 v, .int .i64 x, .int .i64 a, .int .i64 b, .slice A l c] 45)
  have km := Blk.new (w.alloc (.cells #[.int .i64 n, .int .i64 id, .int .i64 own, .int .i64 view, .int .i64 left, .slice Av lv0 cv, .int .i64 lv, .int .i64 lx, .int .i64 dn, .slice Ap lp0 cp, .slice Ao lo0 co, .slice Ar lr0 cr, .slice Ad ld0 cd, .slice Ah lh0 ch] 40)) 45 #[.int .i64 k, .int .i64 v, .int .i64 x, .int .i64 a, .int .i64 b, .slice A l c]
  simp only [World.size_alloc] at km
  have hB := up_ (up_ (Below.refl w.heap.size w) (.cells #[.int .i64 n, .int .i64 id, .int .i64 own, .int .i64 view, .int .i64 left, .slice Av lv0 cv, .int .i64 lv, .int .i64 lx, .int .i64 dn, .slice Ap lp0 cp, .slice Ao lo0 co, .slice Ar lr0 cr, .slice Ad ld0 cd, .slice Ah lh0 ch] 40)) (.cells #[.int .i64 k, .int .i64 v, .int .i64 x, .int .i64 a, .int .i64 b, .slice A l c] 45)
  have ra := ka.rule; have rm := km.rule
  go_enter Try.func25, Try.ntmps25
  go_wp2_with fail
  refine (HC.out _ hB).mono ?_
  rintro e w1 ⟨rfl, hb⟩
  have ka' := ka.on hb; have km' := km.on hb; have hB' := on_ hB hb; clear ka km hB ra rm hb; have ka := ka'; have km := km'; have hB := hB'; clear ka' km' hB'; have ra := ka.rule; have rm := km.rule
  rcases g with _ | _
  · go_wp2
    go_ret
    exact ⟨rfl, hB⟩
  · obtain rfl := HGM.out rfl
    go_wp2_with fail
    refine (HM.out _ hB).mono ?_
    rintro e w2 ⟨rfl, hb⟩
    have ka' := ka.on hb; have km' := km.on hb; have hB' := on_ hB hb; clear ka km hB ra rm hb; have ka := ka'; have km := km'; have hB := hB'; clear ka' km' hB'; have ra := ka.rule; have rm := km.rule
    go_wp2
    go_ret
    exact ⟨rfl, hB⟩
set_option maxHeartbeats 6400000 in
theorem specTell_rep (q : Rq) (v x a b : Int) (A : Option Addr) (c : Nat) (vs : List (Int × Int)) (w : World) (hr : RdQ w w.heap.size q) (hf : FewQ q) (hm : Rd w w.heap.size A vs) (hn : vs.length ≤ 1048576) (hg : repQ q.dat = true) (hm2 : msgOkB 3 v x a b vs = true) :
    Calls Try.prog 25 #[q.agg, .agg #[.int .i64 3, .int .i64 v, .int .i64 x, .int .i64 a, .int .i64 b, .slice A vs.length c]] w fun e w' => e = .returned (.bool (hasI (hFrom q.dat.hs v) q.dat.id)) ∧ Below w.heap.size w w' := by
  have HC := Lib.hid (fun (W : World) (h : Below w.heap.size w W) => specRepOk_is true q hg W ((hr.below h).more h.size) hf)
  have HM := Lib.hid (fun (W : World) (h : Below w.heap.size w W) => specMsgOk_is true 3 v x a b A c vs hm2 W ((hm.below h).more h.size) hn)
  have hh0 := fun (W : World) (h : Below w.heap.size w W) => specHear_is q v W ((hr.below h).more h.size) hf
  have hsm := hfr_small q v hf
  have e9 : hfrC q.dat v = hFrom q.dat.hs v := by unfold hfrC; rw [if_pos hg]
  rw [e9] at hh0 hsm
  obtain ⟨xs, hxs⟩ : ∃ xs, hFrom q.dat.hs v = xs := ⟨_, rfl⟩
  rw [hxs] at hh0 hsm ⊢
  have HH := Lib.hid hh0
  clear hg hm2 e9 hxs hh0
  obtain ⟨n, id, own, view, left, voted, lv, lx, dn, pr, vo, re, ds, hs, Av, Ap, Ao, Ar, Ad, Ah, cv, cp, co, cr, cd, ch⟩ := q
  obtain ⟨rv, rp, ro, rr, rd, rh⟩ := hr
  obtain ⟨fv, fp, fo, fr, fd, fh⟩ := hf
  simp only [Rq.agg, Rq.cells, Rq.dat] at *
  obtain ⟨lv0, elv0⟩ : ∃ m, voted.length = m := ⟨_, rfl⟩
  obtain ⟨lp0, elp0⟩ : ∃ m, pr.length = m := ⟨_, rfl⟩
  obtain ⟨lo0, elo0⟩ : ∃ m, vo.length = m := ⟨_, rfl⟩
  obtain ⟨lr0, elr0⟩ : ∃ m, re.length = m := ⟨_, rfl⟩
  obtain ⟨ld0, eld0⟩ : ∃ m, ds.length = m := ⟨_, rfl⟩
  obtain ⟨lh0, elh0⟩ : ∃ m, hs.length = m := ⟨_, rfl⟩
  obtain ⟨l, el⟩ : ∃ m, vs.length = m := ⟨_, rfl⟩
  simp only [elv0, elp0, elo0, elr0, eld0, elh0, el] at HC HM HH ⊢
  clear elv0 elp0 elo0 elr0 eld0 elh0 el rv rp ro rr rd rh fv fp fo fr fd fh hm hn
  have ka := (Blk.new w 40 #[.int .i64 n, .int .i64 id, .int .i64 own, .int .i64 view, .int .i64 left, .slice Av lv0 cv, .int .i64 lv, .int .i64 lx, .int .i64 dn, .slice Ap lp0 cp, .slice Ao lo0 co, .slice Ar lr0 cr, .slice Ad ld0 cd, .slice Ah lh0 ch]).alloc (.cells #[.int .i64 3, .int .i64 v, .int .i64 x, .int .i64 a, .int .i64 b, .slice A l c] 45)
  have km := Blk.new (w.alloc (.cells #[.int .i64 n, .int .i64 id, .int .i64 own, .int .i64 view, .int .i64 left, .slice Av lv0 cv, .int .i64 lv, .int .i64 lx, .int .i64 dn, .slice Ap lp0 cp, .slice Ao lo0 co, .slice Ar lr0 cr, .slice Ad ld0 cd, .slice Ah lh0 ch] 40)) 45 #[.int .i64 3, .int .i64 v, .int .i64 x, .int .i64 a, .int .i64 b, .slice A l c]
  simp only [World.size_alloc] at km
  have hB := up_ (up_ (Below.refl w.heap.size w) (.cells #[.int .i64 n, .int .i64 id, .int .i64 own, .int .i64 view, .int .i64 left, .slice Av lv0 cv, .int .i64 lv, .int .i64 lx, .int .i64 dn, .slice Ap lp0 cp, .slice Ao lo0 co, .slice Ar lr0 cr, .slice Ad ld0 cd, .slice Ah lh0 ch] 40)) (.cells #[.int .i64 3, .int .i64 v, .int .i64 x, .int .i64 a, .int .i64 b, .slice A l c] 45)
  have ra := ka.rule; have rm := km.rule
  go_enter Try.func25, Try.ntmps25
  go_wp2_with fail
  refine (HC.out _ hB).mono ?_
  rintro e w1 ⟨rfl, hb⟩
  have ka' := ka.on hb; have km' := km.on hb; have hB' := on_ hB hb; clear ka km hB ra rm hb; have ka := ka'; have km := km'; have hB := hB'; clear ka' km' hB'; have ra := ka.rule; have rm := km.rule
  go_wp2_with fail
  refine (HM.out _ hB).mono ?_
  rintro e w2 ⟨rfl, hb⟩
  have ka' := ka.on hb; have km' := km.on hb; have hB' := on_ hB hb; clear ka km hB ra rm hb; have ka := ka'; have km := km'; have hB := hB'; clear ka' km' hB'; have ra := ka.rule; have rm := km.rule
  have kt := Blk.new w2 37 #[.slice Ao lo0 co]
  have ka' := ka.alloc (.cells #[.slice Ao lo0 co] 37); have km' := km.alloc (.cells #[.slice Ao lo0 co] 37); have hB' := hB.alloc hB.size (.cells #[.slice Ao lo0 co] 37)
  have ra' := ka'.rule; have rm' := km'.rule
  go_wp2_with fail
  have KA := Lib.hid ka'; have KM := Lib.hid km'; have HB := Lib.hid hB'
  generalize (w2.alloc (.cells #[.slice Ao lo0 co] 37)) = w5 at *
  clear ka km ra rm hB ka' km' ra' rm' hB' HC HM
  refine wp_region_grow ?_ ?_ (RV w.heap.size w.heap.size (w.heap.size + 1) n id own view left lv lx dn Av Ap Ao Ar Ad Ah lv0 lp0 lo0 lr0 ld0 lh0 cv cp co cr cd ch v xs) (by kernel_rfl) (by kernel_rfl) (by kernel_rfl) RV.keep ?_ ?_
  rotate_left
  · intro us; simp only [putL]; go_simp; exact rfl
  · refine (Each.cons ?_ (Each.cons ?_ (Each.cons ?_ (Each.cons ?_ (Each.cons ?_ (Each.cons ?_ (Each.cons ?_ (Each.cons ?_ Each.nil))))))))
    · intro us wx hW hD Q K hK
      have rp := (KA.out.on hW).rule
      go_simp
      exact hK _ _ (.agg #[.int .i64 n, .int .i64 id, .int .i64 own, .int .i64 view, .int .i64 left, .slice Av lv0 cv, .int .i64 lv, .int .i64 lx, .int .i64 dn, .slice Ap lp0 cp, .slice Ao lo0 co, .slice Ar lr0 cr, .slice Ad ld0 cd, .slice Ah lh0 ch]) (by go_simp) (Below.refl _ _) rfl
    · intro us wx hW hD Q K hK
      go_simp
      exact hK _ _ (.pointer (some ⟨w.heap.size + 1, 1, none⟩)) (by go_simp) (Below.refl _ _) rfl
    · intro us wx hW hD Q K hK
      have e1 : us 1 = _ := hD 1 (by decide)
      have rm := (KM.out.on hW).rule
      go_simp
      exact hK _ _ (.int .i64 v) (by go_simp) (Below.refl _ _) rfl
    · intro us wx hW hD Q K hK
      have e0 : us 0 = _ := hD 0 (by decide)
      have e2 : us 2 = _ := hD 2 (by decide)
      go_simp
      go_at_call 19
      refine (HH.out wx (on_ HB.out hW)).mono ?_
      rintro e w6 ⟨u, rfl, ho, hb⟩
      obtain ⟨B, d, rfl⟩ := form8 ho
      exact hK _ _ (.slice B xs.length d) (by go_simp) hb ⟨B, d, rfl, (OI.of_own (own_more3 ho (show w.heap.size ≤ wx.heap.size from (on_ HB.out hW).size))).2⟩
    · intro us wx hW hD Q K hK
      go_simp
      exact hK _ _ (.pointer (some ⟨w.heap.size, 1, none⟩)) (by go_simp) (Below.refl _ _) rfl
    · intro us wx hW hD Q K hK
      have e4 : us 4 = _ := hD 4 (by decide)
      have rp := (KA.out.on hW).rule
      go_simp
      exact hK _ _ (.int .i64 id) (by go_simp) (Below.refl _ _) rfl
    · intro us wx hW hD Q K hK
      have e5 : us 5 = _ := hD 5 (by decide)
      obtain ⟨B, d, e3, ho⟩ := hD 3 (by decide)
      go_simp
      go_at_call 58
      refine (l2has_any B d xs id wx ho.rd hsm).mono ?_
      rintro e w6 ⟨rfl, rfl⟩
      exact hK _ _ (.bool (hasI xs id)) (by go_simp) (Below.refl _ _) rfl
    · intro us wx hW hD Q K hK
      have e6 : us 6 = _ := hD 6 (by decide)
      go_simp
      exact hK _ _ (.bool (hasI xs id)) (by go_simp) (Below.refl _ _) rfl
  intro us' w6 hD hb6
  have e7 : us' 7 = _ := hD 7 (by decide)
  generalize us' 0 = z0 at *
  generalize us' 1 = z1 at *
  generalize us' 2 = z2 at *
  generalize us' 3 = z3 at *
  generalize us' 4 = z4 at *
  generalize us' 5 = z5 at *
  generalize us' 6 = z6 at *
  generalize us' 7 = z7 at *
  clear us' hD
  subst e7
  have hB6 := on_ HB.out hb6
  go_wp2
  go_ret
  exact ⟨rfl, hB6⟩
set_option maxHeartbeats 6400000 in
theorem specTell_0 (q : Rq) (v x a b : Int) (A : Option Addr) (c : Nat) (vs : List (Int × Int)) (w : World) (hr : RdQ w w.heap.size q) (hf : FewQ q) (hm : Rd w w.heap.size A vs) (hn : vs.length ≤ 1048576) (hg : repQ q.dat = true) (hm2 : msgOkB 0 v x a b vs = true) :
    Calls Try.prog 25 #[q.agg, .agg #[.int .i64 0, .int .i64 v, .int .i64 x, .int .i64 a, .int .i64 b, .slice A vs.length c]] w fun e w' => e = .returned (.bool (foundQ q.pr v q.id && decide (foundV q.pr v q.id = x))) ∧ Below w.heap.size w w' := by
  have HC := Lib.hid (fun (W : World) (h : Below w.heap.size w W) => specRepOk_is true q hg W ((hr.below h).more h.size) hf)
  have HM := Lib.hid (fun (W : World) (h : Below w.heap.size w W) => specMsgOk_is true 0 v x a b A c vs hm2 W ((hm.below h).more h.size) hn)
  have HT := Lib.hid (fun (W : World) (h : Below w.heap.size w W) => l4told_any v q.id q.Ap q.cp q.pr W ((hr.p.below h).more h.size) hf.p)
  clear hg hm2
  obtain ⟨fq, efq⟩ : ∃ z, foundQ q.pr v q.id = z := ⟨_, rfl⟩
  obtain ⟨fv_, efv⟩ : ∃ z, foundV q.pr v q.id = z := ⟨_, rfl⟩
  rw [efq, efv] at HT ⊢
  clear efq efv
  obtain ⟨y, ey⟩ : ∃ z, decide (fv_ = x) = z := ⟨_, rfl⟩
  rw [ey]
  have ey2 : (fv_ == x) = y := by rw [← ey]; rfl
  clear ey
  obtain ⟨n, id, own, view, left, voted, lv, lx, dn, pr, vo, re, ds, hs, Av, Ap, Ao, Ar, Ad, Ah, cv, cp, co, cr, cd, ch⟩ := q
  obtain ⟨rv, rp, ro, rr, rd, rh⟩ := hr
  obtain ⟨fv, fp, fo, fr, fd, fh⟩ := hf
  simp only [Rq.agg, Rq.cells] at *
  obtain ⟨lv0, elv0⟩ : ∃ m, voted.length = m := ⟨_, rfl⟩
  obtain ⟨lp0, elp0⟩ : ∃ m, pr.length = m := ⟨_, rfl⟩
  obtain ⟨lo0, elo0⟩ : ∃ m, vo.length = m := ⟨_, rfl⟩
  obtain ⟨lr0, elr0⟩ : ∃ m, re.length = m := ⟨_, rfl⟩
  obtain ⟨ld0, eld0⟩ : ∃ m, ds.length = m := ⟨_, rfl⟩
  obtain ⟨lh0, elh0⟩ : ∃ m, hs.length = m := ⟨_, rfl⟩
  obtain ⟨l, el⟩ : ∃ m, vs.length = m := ⟨_, rfl⟩
  simp only [elv0, elp0, elo0, elr0, eld0, elh0, el] at HC HM HT ⊢
  clear elv0 elp0 elo0 elr0 eld0 elh0 el rv rp ro rr rd rh fv fp fo fr fd fh hm hn
  have ka := (Blk.new w 40 #[.int .i64 n, .int .i64 id, .int .i64 own, .int .i64 view, .int .i64 left, .slice Av lv0 cv, .int .i64 lv, .int .i64 lx, .int .i64 dn, .slice Ap lp0 cp, .slice Ao lo0 co, .slice Ar lr0 cr, .slice Ad ld0 cd, .slice Ah lh0 ch]).alloc (.cells #[.int .i64 0, .int .i64 v, .int .i64 x, .int .i64 a, .int .i64 b, .slice A l c] 45)
  have km := Blk.new (w.alloc (.cells #[.int .i64 n, .int .i64 id, .int .i64 own, .int .i64 view, .int .i64 left, .slice Av lv0 cv, .int .i64 lv, .int .i64 lx, .int .i64 dn, .slice Ap lp0 cp, .slice Ao lo0 co, .slice Ar lr0 cr, .slice Ad ld0 cd, .slice Ah lh0 ch] 40)) 45 #[.int .i64 0, .int .i64 v, .int .i64 x, .int .i64 a, .int .i64 b, .slice A l c]
  simp only [World.size_alloc] at km
  have hB := up_ (up_ (Below.refl w.heap.size w) (.cells #[.int .i64 n, .int .i64 id, .int .i64 own, .int .i64 view, .int .i64 left, .slice Av lv0 cv, .int .i64 lv, .int .i64 lx, .int .i64 dn, .slice Ap lp0 cp, .slice Ao lo0 co, .slice Ar lr0 cr, .slice Ad ld0 cd, .slice Ah lh0 ch] 40)) (.cells #[.int .i64 0, .int .i64 v, .int .i64 x, .int .i64 a, .int .i64 b, .slice A l c] 45)
  have ra := ka.rule; have rm := km.rule
  go_enter Try.func25, Try.ntmps25
  go_wp2_with fail
  refine (HC.out _ hB).mono ?_
  rintro e w1 ⟨rfl, hb⟩
  have ka' := ka.on hb; have km' := km.on hb; have hB' := on_ hB hb; clear ka km hB ra rm hb; have ka := ka'; have km := km'; have hB := hB'; clear ka' km' hB'; have ra := ka.rule; have rm := km.rule
  go_wp2_with fail
  refine (HM.out _ hB).mono ?_
  rintro e w2 ⟨rfl, hb⟩
  have ka' := ka.on hb; have km' := km.on hb; have hB' := on_ hB hb; clear ka km hB ra rm hb; have ka := ka'; have km := km'; have hB := hB'; clear ka' km' hB'; have ra := ka.rule; have rm := km.rule
  have kt := Blk.new w2 37 #[.slice Ao lo0 co]
  have ka' := ka.alloc (.cells #[.slice Ao lo0 co] 37); have km' := km.alloc (.cells #[.slice Ao lo0 co] 37); have hB' := hB.alloc hB.size (.cells #[.slice Ao lo0 co] 37)
  have ra' := ka'.rule; have rm' := km'.rule; have rt := kt.rule; have ft := fun i => kt.frozen i
  have kt2 := Blk.new w2 37 #[.slice Ap lp0 cp]
  have ka2 := ka.alloc (.cells #[.slice Ap lp0 cp] 37); have km2 := km.alloc (.cells #[.slice Ap lp0 cp] 37); have hB2 := hB.alloc hB.size (.cells #[.slice Ap lp0 cp] 37)
  have ra2 := ka2.rule; have rm2 := km2.rule; have rt2 := kt2.rule
  go_wp2_with fail
  refine (HT.out _ hB2).mono ?_
  rintro e w3 ⟨rfl, hb⟩
  have km3 := km2.on hb; have rm3 := km3.rule; have hB3 := on_ hB2 hb
  rcases fq with _ | _
  · go_wp2
    go_ret
    exact ⟨rfl, hB3⟩
  · go_wp2
    go_ret
    exact ⟨rfl, hB3⟩
set_option maxHeartbeats 6400000 in
theorem specTell_1 (q : Rq) (v x a b : Int) (A : Option Addr) (c : Nat) (vs : List (Int × Int)) (w : World) (hr : RdQ w w.heap.size q) (hf : FewQ q) (hm : Rd w w.heap.size A vs) (hn : vs.length ≤ 1048576) (hg : repQ q.dat = true) (hm2 : msgOkB 1 v x a b vs = true) :
    Calls Try.prog 25 #[q.agg, .agg #[.int .i64 1, .int .i64 v, .int .i64 x, .int .i64 a, .int .i64 b, .slice A vs.length c]] w fun e w' => e = .returned (.bool (foundQ q.vo v q.id && decide (foundV q.vo v q.id = x))) ∧ Below w.heap.size w w' := by
  have HC := Lib.hid (fun (W : World) (h : Below w.heap.size w W) => specRepOk_is true q hg W ((hr.below h).more h.size) hf)
  have HM := Lib.hid (fun (W : World) (h : Below w.heap.size w W) => specMsgOk_is true 1 v x a b A c vs hm2 W ((hm.below h).more h.size) hn)
  have HT := Lib.hid (fun (W : World) (h : Below w.heap.size w W) => l4told_any v q.id q.Ao q.co q.vo W ((hr.o.below h).more h.size) hf.o)
  clear hg hm2
  obtain ⟨fq, efq⟩ : ∃ z, foundQ q.vo v q.id = z := ⟨_, rfl⟩
  obtain ⟨fv_, efv⟩ : ∃ z, foundV q.vo v q.id = z := ⟨_, rfl⟩
  rw [efq, efv] at HT ⊢
  clear efq efv
  obtain ⟨y, ey⟩ : ∃ z, decide (fv_ = x) = z := ⟨_, rfl⟩
  rw [ey]
  have ey2 : (fv_ == x) = y := by rw [← ey]; rfl
  clear ey
  obtain ⟨n, id, own, view, left, voted, lv, lx, dn, pr, vo, re, ds, hs, Av, Ap, Ao, Ar, Ad, Ah, cv, cp, co, cr, cd, ch⟩ := q
  obtain ⟨rv, rp, ro, rr, rd, rh⟩ := hr
  obtain ⟨fv, fp, fo, fr, fd, fh⟩ := hf
  simp only [Rq.agg, Rq.cells] at *
  obtain ⟨lv0, elv0⟩ : ∃ m, voted.length = m := ⟨_, rfl⟩
  obtain ⟨lp0, elp0⟩ : ∃ m, pr.length = m := ⟨_, rfl⟩
  obtain ⟨lo0, elo0⟩ : ∃ m, vo.length = m := ⟨_, rfl⟩
  obtain ⟨lr0, elr0⟩ : ∃ m, re.length = m := ⟨_, rfl⟩
  obtain ⟨ld0, eld0⟩ : ∃ m, ds.length = m := ⟨_, rfl⟩
  obtain ⟨lh0, elh0⟩ : ∃ m, hs.length = m := ⟨_, rfl⟩
  obtain ⟨l, el⟩ : ∃ m, vs.length = m := ⟨_, rfl⟩
  simp only [elv0, elp0, elo0, elr0, eld0, elh0, el] at HC HM HT ⊢
  clear elv0 elp0 elo0 elr0 eld0 elh0 el rv rp ro rr rd rh fv fp fo fr fd fh hm hn
  have ka := (Blk.new w 40 #[.int .i64 n, .int .i64 id, .int .i64 own, .int .i64 view, .int .i64 left, .slice Av lv0 cv, .int .i64 lv, .int .i64 lx, .int .i64 dn, .slice Ap lp0 cp, .slice Ao lo0 co, .slice Ar lr0 cr, .slice Ad ld0 cd, .slice Ah lh0 ch]).alloc (.cells #[.int .i64 1, .int .i64 v, .int .i64 x, .int .i64 a, .int .i64 b, .slice A l c] 45)
  have km := Blk.new (w.alloc (.cells #[.int .i64 n, .int .i64 id, .int .i64 own, .int .i64 view, .int .i64 left, .slice Av lv0 cv, .int .i64 lv, .int .i64 lx, .int .i64 dn, .slice Ap lp0 cp, .slice Ao lo0 co, .slice Ar lr0 cr, .slice Ad ld0 cd, .slice Ah lh0 ch] 40)) 45 #[.int .i64 1, .int .i64 v, .int .i64 x, .int .i64 a, .int .i64 b, .slice A l c]
  simp only [World.size_alloc] at km
  have hB := up_ (up_ (Below.refl w.heap.size w) (.cells #[.int .i64 n, .int .i64 id, .int .i64 own, .int .i64 view, .int .i64 left, .slice Av lv0 cv, .int .i64 lv, .int .i64 lx, .int .i64 dn, .slice Ap lp0 cp, .slice Ao lo0 co, .slice Ar lr0 cr, .slice Ad ld0 cd, .slice Ah lh0 ch] 40)) (.cells #[.int .i64 1, .int .i64 v, .int .i64 x, .int .i64 a, .int .i64 b, .slice A l c] 45)
  have ra := ka.rule; have rm := km.rule
  go_enter Try.func25, Try.ntmps25
  go_wp2_with fail
  refine (HC.out _ hB).mono ?_
  rintro e w1 ⟨rfl, hb⟩
  have ka' := ka.on hb; have km' := km.on hb; have hB' := on_ hB hb; clear ka km hB ra rm hb; have ka := ka'; have km := km'; have hB := hB'; clear ka' km' hB'; have ra := ka.rule; have rm := km.rule
  go_wp2_with fail
  refine (HM.out _ hB).mono ?_
  rintro e w2 ⟨rfl, hb⟩
  have ka' := ka.on hb; have km' := km.on hb; have hB' := on_ hB hb; clear ka km hB ra rm hb; have ka := ka'; have km := km'; have hB := hB'; clear ka' km' hB'; have ra := ka.rule; have rm := km.rule
  have kt := Blk.new w2 37 #[.slice Ao lo0 co]
  have ka' := ka.alloc (.cells #[.slice Ao lo0 co] 37); have km' := km.alloc (.cells #[.slice Ao lo0 co] 37); have hB' := hB.alloc hB.size (.cells #[.slice Ao lo0 co] 37)
  have ra' := ka'.rule; have rm' := km'.rule; have rt := kt.rule; have ft := fun i => kt.frozen i
  go_wp2_with fail
  refine (HT.out _ hB').mono ?_
  rintro e w3 ⟨rfl, hb⟩
  have km3 := km'.on hb; have rm3 := km3.rule; have hB3 := on_ hB' hb
  rcases fq with _ | _
  · go_wp2
    go_ret
    exact ⟨rfl, hB3⟩
  · go_wp2
    go_ret
    exact ⟨rfl, hB3⟩
set_option maxHeartbeats 6400000 in
theorem specTell_2 (q : Rq) (v x a b : Int) (A : Option Addr) (c : Nat) (vs : List (Int × Int)) (w : World) (hr : RdQ w w.heap.size q) (hf : FewQ q) (hm : Rd w w.heap.size A vs) (hn : vs.length ≤ 1048576) (hg : repQ q.dat = true) (hm2 : msgOkB 2 v x a b vs = true) :
    Calls Try.prog 25 #[q.agg, .agg #[.int .i64 2, .int .i64 v, .int .i64 x, .int .i64 a, .int .i64 b, .slice A vs.length c]] w fun e w' => e = .returned (.bool (foundQ q.re v q.id && decide (foundV q.re v q.id = x))) ∧ Below w.heap.size w w' := by
  have HC := Lib.hid (fun (W : World) (h : Below w.heap.size w W) => specRepOk_is true q hg W ((hr.below h).more h.size) hf)
  have HM := Lib.hid (fun (W : World) (h : Below w.heap.size w W) => specMsgOk_is true 2 v x a b A c vs hm2 W ((hm.below h).more h.size) hn)
  have HT := Lib.hid (fun (W : World) (h : Below w.heap.size w W) => l4told_any v q.id q.Ar q.cr q.re W ((hr.r.below h).more h.size) hf.r)
  clear hg hm2
  obtain ⟨fq, efq⟩ : ∃ z, foundQ q.re v q.id = z := ⟨_, rfl⟩
  obtain ⟨fv_, efv⟩ : ∃ z, foundV q.re v q.id = z := ⟨_, rfl⟩
  rw [efq, efv] at HT ⊢
  clear efq efv
  obtain ⟨y, ey⟩ : ∃ z, decide (fv_ = x) = z := ⟨_, rfl⟩
  rw [ey]
  have ey2 : (fv_ == x) = y := by rw [← ey]; rfl
  clear ey
  obtain ⟨n, id, own, view, left, voted, lv, lx, dn, pr, vo, re, ds, hs, Av, Ap, Ao, Ar, Ad, Ah, cv, cp, co, cr, cd, ch⟩ := q
  obtain ⟨rv, rp, ro, rr, rd, rh⟩ := hr
  obtain ⟨fv, fp, fo, fr, fd, fh⟩ := hf
  simp only [Rq.agg, Rq.cells] at *
  obtain ⟨lv0, elv0⟩ : ∃ m, voted.length = m := ⟨_, rfl⟩
  obtain ⟨lp0, elp0⟩ : ∃ m, pr.length = m := ⟨_, rfl⟩
  obtain ⟨lo0, elo0⟩ : ∃ m, vo.length = m := ⟨_, rfl⟩
  obtain ⟨lr0, elr0⟩ : ∃ m, re.length = m := ⟨_, rfl⟩
  obtain ⟨ld0, eld0⟩ : ∃ m, ds.length = m := ⟨_, rfl⟩
  obtain ⟨lh0, elh0⟩ : ∃ m, hs.length = m := ⟨_, rfl⟩
  obtain ⟨l, el⟩ : ∃ m, vs.length = m := ⟨_, rfl⟩
  simp only [elv0, elp0, elo0, elr0, eld0, elh0, el] at HC HM HT ⊢
  clear elv0 elp0 elo0 elr0 eld0 elh0 el rv rp ro rr rd rh fv fp fo fr fd fh hm hn
  have ka := (Blk.new w 40 #[.int .i64 n, .int .i64 id, .int .i64 own, .int .i64 view, .int .i64 left, .slice Av lv0 cv, .int .i64 lv, .int .i64 lx, .int .i64 dn, .slice Ap lp0 cp, .slice Ao lo0 co, .slice Ar lr0 cr, .slice Ad ld0 cd, .slice Ah lh0 ch]).alloc (.cells #[.int .i64 2, .int .i64 v, .int .i64 x, .int .i64 a, .int .i64 b, .slice A l c] 45)
  have km := Blk.new (w.alloc (.cells #[.int .i64 n, .int .i64 id, .int .i64 own, .int .i64 view, .int .i64 left, .slice Av lv0 cv, .int .i64 lv, .int .i64 lx, .int .i64 dn, .slice Ap lp0 cp, .slice Ao lo0 co, .slice Ar lr0 cr, .slice Ad ld0 cd, .slice Ah lh0 ch] 40)) 45 #[.int .i64 2, .int .i64 v, .int .i64 x, .int .i64 a, .int .i64 b, .slice A l c]
  simp only [World.size_alloc] at km
  have hB := up_ (up_ (Below.refl w.heap.size w) (.cells #[.int .i64 n, .int .i64 id, .int .i64 own, .int .i64 view, .int .i64 left, .slice Av lv0 cv, .int .i64 lv, .int .i64 lx, .int .i64 dn, .slice Ap lp0 cp, .slice Ao lo0 co, .slice Ar lr0 cr, .slice Ad ld0 cd, .slice Ah lh0 ch] 40)) (.cells #[.int .i64 2, .int .i64 v, .int .i64 x, .int .i64 a, .int .i64 b, .slice A l c] 45)
  have ra := ka.rule; have rm := km.rule
  go_enter Try.func25, Try.ntmps25
  go_wp2_with fail
  refine (HC.out _ hB).mono ?_
  rintro e w1 ⟨rfl, hb⟩
  have ka' := ka.on hb; have km' := km.on hb; have hB' := on_ hB hb; clear ka km hB ra rm hb; have ka := ka'; have km := km'; have hB := hB'; clear ka' km' hB'; have ra := ka.rule; have rm := km.rule
  go_wp2_with fail
  refine (HM.out _ hB).mono ?_
  rintro e w2 ⟨rfl, hb⟩
  have ka' := ka.on hb; have km' := km.on hb; have hB' := on_ hB hb; clear ka km hB ra rm hb; have ka := ka'; have km := km'; have hB := hB'; clear ka' km' hB'; have ra := ka.rule; have rm := km.rule
  have kt := Blk.new w2 37 #[.slice Ao lo0 co]
  have ka' := ka.alloc (.cells #[.slice Ao lo0 co] 37); have km' := km.alloc (.cells #[.slice Ao lo0 co] 37); have hB' := hB.alloc hB.size (.cells #[.slice Ao lo0 co] 37)
  have ra' := ka'.rule; have rm' := km'.rule; have rt := kt.rule; have ft := fun i => kt.frozen i
  have kt2 := Blk.new w2 37 #[.slice Ar lr0 cr]
  have ka2 := ka.alloc (.cells #[.slice Ar lr0 cr] 37); have km2 := km.alloc (.cells #[.slice Ar lr0 cr] 37); have hB2 := hB.alloc hB.size (.cells #[.slice Ar lr0 cr] 37)
  have ra2 := ka2.rule; have rm2 := km2.rule; have rt2 := kt2.rule
  go_wp2_with fail
  refine (HT.out _ hB2).mono ?_
  rintro e w3 ⟨rfl, hb⟩
  have km3 := km2.on hb; have rm3 := km3.rule; have hB3 := on_ hB2 hb
  rcases fq with _ | _
  · go_wp2
    go_ret
    exact ⟨rfl, hB3⟩
  · go_wp2
    go_ret
    exact ⟨rfl, hB3⟩
set_option maxHeartbeats 6400000 in
theorem specTell_4 (q : Rq) (v x a b : Int) (A : Option Addr) (c : Nat) (vs : List (Int × Int)) (w : World) (hr : RdQ w w.heap.size q) (hf : FewQ q) (hm : Rd w w.heap.size A vs) (hn : vs.length ≤ 1048576) (hg : repQ q.dat = true) (hm2 : msgOkB 4 v x a b vs = true) :
    Calls Try.prog 25 #[q.agg, .agg #[.int .i64 4, .int .i64 v, .int .i64 x, .int .i64 a, .int .i64 b, .slice A vs.length c]] w fun e w' => e = .returned (.bool (foundQ q.ds v q.id && decide (foundV q.ds v q.id = x))) ∧ Below w.heap.size w w' := by
  have HC := Lib.hid (fun (W : World) (h : Below w.heap.size w W) => specRepOk_is true q hg W ((hr.below h).more h.size) hf)
  have HM := Lib.hid (fun (W : World) (h : Below w.heap.size w W) => specMsgOk_is true 4 v x a b A c vs hm2 W ((hm.below h).more h.size) hn)
  have HT := Lib.hid (fun (W : World) (h : Below w.heap.size w W) => l4told_any v q.id q.Ad q.cd q.ds W ((hr.d.below h).more h.size) hf.d)
  clear hg hm2
  obtain ⟨fq, efq⟩ : ∃ z, foundQ q.ds v q.id = z := ⟨_, rfl⟩
  obtain ⟨fv_, efv⟩ : ∃ z, foundV q.ds v q.id = z := ⟨_, rfl⟩
  rw [efq, efv] at HT ⊢
  clear efq efv
  obtain ⟨y, ey⟩ : ∃ z, decide (fv_ = x) = z := ⟨_, rfl⟩
  rw [ey]
  have ey2 : (fv_ == x) = y := by rw [← ey]; rfl
  clear ey
  obtain ⟨n, id, own, view, left, voted, lv, lx, dn, pr, vo, re, ds, hs, Av, Ap, Ao, Ar, Ad, Ah, cv, cp, co, cr, cd, ch⟩ := q
  obtain ⟨rv, rp, ro, rr, rd, rh⟩ := hr
  obtain ⟨fv, fp, fo, fr, fd, fh⟩ := hf
  simp only [Rq.agg, Rq.cells] at *
  obtain ⟨lv0, elv0⟩ : ∃ m, voted.length = m := ⟨_, rfl⟩
  obtain ⟨lp0, elp0⟩ : ∃ m, pr.length = m := ⟨_, rfl⟩
  obtain ⟨lo0, elo0⟩ : ∃ m, vo.length = m := ⟨_, rfl⟩
  obtain ⟨lr0, elr0⟩ : ∃ m, re.length = m := ⟨_, rfl⟩
  obtain ⟨ld0, eld0⟩ : ∃ m, ds.length = m := ⟨_, rfl⟩
  obtain ⟨lh0, elh0⟩ : ∃ m, hs.length = m := ⟨_, rfl⟩
  obtain ⟨l, el⟩ : ∃ m, vs.length = m := ⟨_, rfl⟩
  simp only [elv0, elp0, elo0, elr0, eld0, elh0, el] at HC HM HT ⊢
  clear elv0 elp0 elo0 elr0 eld0 elh0 el rv rp ro rr rd rh fv fp fo fr fd fh hm hn
  have ka := (Blk.new w 40 #[.int .i64 n, .int .i64 id, .int .i64 own, .int .i64 view, .int .i64 left, .slice Av lv0 cv, .int .i64 lv, .int .i64 lx, .int .i64 dn, .slice Ap lp0 cp, .slice Ao lo0 co, .slice Ar lr0 cr, .slice Ad ld0 cd, .slice Ah lh0 ch]).alloc (.cells #[.int .i64 4, .int .i64 v, .int .i64 x, .int .i64 a, .int .i64 b, .slice A l c] 45)
  have km := Blk.new (w.alloc (.cells #[.int .i64 n, .int .i64 id, .int .i64 own, .int .i64 view, .int .i64 left, .slice Av lv0 cv, .int .i64 lv, .int .i64 lx, .int .i64 dn, .slice Ap lp0 cp, .slice Ao lo0 co, .slice Ar lr0 cr, .slice Ad ld0 cd, .slice Ah lh0 ch] 40)) 45 #[.int .i64 4, .int .i64 v, .int .i64 x, .int .i64 a, .int .i64 b, .slice A l c]
  simp only [World.size_alloc] at km
  have hB := up_ (up_ (Below.refl w.heap.size w) (.cells #[.int .i64 n, .int .i64 id, .int .i64 own, .int .i64 view, .int .i64 left, .slice Av lv0 cv, .int .i64 lv, .int .i64 lx, .int .i64 dn, .slice Ap lp0 cp, .slice Ao lo0 co, .slice Ar lr0 cr, .slice Ad ld0 cd, .slice Ah lh0 ch] 40)) (.cells #[.int .i64 4, .int .i64 v, .int .i64 x, .int .i64 a, .int .i64 b, .slice A l c] 45)
  have ra := ka.rule; have rm := km.rule
  go_enter Try.func25, Try.ntmps25
  go_wp2_with fail
  refine (HC.out _ hB).mono ?_
  rintro e w1 ⟨rfl, hb⟩
  have ka' := ka.on hb; have km' := km.on hb; have hB' := on_ hB hb; clear ka km hB ra rm hb; have ka := ka'; have km := km'; have hB := hB'; clear ka' km' hB'; have ra := ka.rule; have rm := km.rule
  go_wp2_with fail
  refine (HM.out _ hB).mono ?_
  rintro e w2 ⟨rfl, hb⟩
  have ka' := ka.on hb; have km' := km.on hb; have hB' := on_ hB hb; clear ka km hB ra rm hb; have ka := ka'; have km := km'; have hB := hB'; clear ka' km' hB'; have ra := ka.rule; have rm := km.rule
  have kt := Blk.new w2 37 #[.slice Ao lo0 co]
  have ka' := ka.alloc (.cells #[.slice Ao lo0 co] 37); have km' := km.alloc (.cells #[.slice Ao lo0 co] 37); have hB' := hB.alloc hB.size (.cells #[.slice Ao lo0 co] 37)
  have ra' := ka'.rule; have rm' := km'.rule; have rt := kt.rule; have ft := fun i => kt.frozen i
  have kt2 := Blk.new w2 37 #[.slice Ad ld0 cd]
  have ka2 := ka.alloc (.cells #[.slice Ad ld0 cd] 37); have km2 := km.alloc (.cells #[.slice Ad ld0 cd] 37); have hB2 := hB.alloc hB.size (.cells #[.slice Ad ld0 cd] 37)
  have ra2 := ka2.rule; have rm2 := km2.rule; have rt2 := kt2.rule
  go_wp2_with fail
  refine (HT.out _ hB2).mono ?_
  rintro e w3 ⟨rfl, hb⟩
  have km3 := km2.on hb; have rm3 := km3.rule; have hB3 := on_ hB2 hb
  rcases fq with _ | _
  · go_wp2
    go_ret
    exact ⟨rfl, hB3⟩
  · go_wp2
    go_ret
    exact ⟨rfl, hB3⟩
end Go.Proofs.Ytfdfjmibjnmhpaa.V
