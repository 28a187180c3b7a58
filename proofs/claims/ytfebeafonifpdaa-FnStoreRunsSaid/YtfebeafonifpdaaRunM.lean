/-
  A run of commands in two halves. No statement is proved here.
-/
import Derived.Test.YtfebeafonifpdaaDrawR
import Derived.Test.YtfebeafonifpdaaMix
set_option linter.unusedVariables false
set_option maxRecDepth 100000
namespace Go.Proofs.Ytfebeafonifpdaa.V
open Go.RowKit Go.Proofs.Ytfebeafonifpdaa.B
set_option maxHeartbeats 1600000 in
theorem sameInts_same (A C : Option Addr) (c d : Nat) (xs : List Int) (w : World) (hr : RdI w w.heap.size A xs) (hs : RdI w w.heap.size C xs) (hn : xs.length ≤ 16777216) :
    Calls Try.prog 32 #[.slice A xs.length c, .slice C xs.length d] w fun e w' => e = .returned (.bool true) ∧ Below w.heap.size w w' := by
  obtain ⟨n, hvn⟩ : ∃ n, xs.length = n := ⟨_, rfl⟩
  rw [hvn] at hn ⊢
  have HV := Lib.hid hvn; clear hvn
  go_enter Try.func32, Try.ntmps32
  go_wp2
  go_loopw [5] (fun i wr => ∃ (k : Nat), k ≤ n ∧ i = .int .i64 k ∧ Below w.heap.size w wr) (fun i _ => n - (intOf i).toNat)
  case atStart => exact ⟨0, Nat.zero_le _, rfl, Below.refl _ _⟩
  case round =>
    obtain ⟨k, hk, rfl, hbel⟩ := hrel
    by_cases hlt : k < n
    · obtain ⟨b, off, rfl, hb, hc0⟩ := (hr.below hbel).at_ (k := k) (by rw [HV.out]; omega)
      obtain ⟨b', off', rfl, hb', hc1⟩ := (hs.below hbel).at_ (k := k) (by rw [HV.out]; omega)
      clear hr hs
      generalize xs.getD k 0 = y at *
      have C0 := fun x : Lat wr => x.cell hc0
      have C1 := fun x : Lat wr => x.cell hc1
      have hne : (y != y) = false := by simp
      go_wp2
      refine wp_region_lat (by kernel_rfl) (by kernel_rfl) ?_
      repeat (go_big_quiet_step (fail))
      refine wpQuiet_nil ?_
      rintro _ ⟨⟨w3, hb3⟩, rfl⟩
      clear C0 C1
      go_wp2
      go_roundw
      case rel => exact ⟨k + 1, by omega, by go_num, hbel.trans (hb3.mono hbel.size)⟩
      case measure => simp [intOf]; omega
    · go_wp2
      go_ret
      exact ⟨rfl, hbel⟩

theorem stB_of9 {xs : List Int} {m : Int} (h : inR xs) (h0 : 0 ≤ m) (h1 : m ≤ 1000) : stB xs m = true := by
  unfold stB
  rw [all_at (fun j hj => by unfold inB; exact decide_eq_true (h.2 j (by rw [← h.1]; exact hj))), Bool.and_true]
  exact decide_eq_true ⟨h.1, h0, h1⟩
theorem run_half {xs ls : List Int} {m : Int} (k : Nat) (hq : srQ xs m ls = true) :
    srQ xs m (ls.take k) = true ∧ srQ (runX xs (ls.take k)) (runM m (ls.take k)) (ls.drop k) = true ∧
    runX xs ls = runX (runX xs (ls.take k)) (ls.drop k) ∧ runM m ls = runM (runM m (ls.take k)) (ls.drop k) ∧ runT xs ls = runT xs (ls.take k) ++ runT (runX xs (ls.take k)) (ls.drop k) := by
  have e : ls = ls.take k ++ ls.drop k := (List.take_append_drop k ls).symm
  have hq' := hq
  unfold srQ at hq'
  rw [Bool.and_eq_true] at hq'
  obtain ⟨h1, h2⟩ := hq'
  have h2 := of_decide_eq_true h2
  obtain ⟨_, m0, m1, _⟩ := stB_yes h1
  have hl : (ls.take k).length + (ls.drop k).length = ls.length := by rw [← List.length_append, ← e]
  have hle := runM_le m (ls.take k)
  refine ⟨?_, ?_, ?_, ?_, ?_⟩
  · unfold srQ; rw [h1, Bool.true_and]; exact decide_eq_true (by omega)
  · unfold srQ
    rw [stB_of9 (runX_in (inR_of h1)) (by omega) (by omega), Bool.true_and]
    exact decide_eq_true (by omega)
  · rw [← runX_app, ← e]
  · rw [← runM_app, ← e]
  · rw [← runT_app, ← e]
theorem run_split {xs ls : List Int} {m : Int} {L : Nat} (hq : srQ xs m ls = true) (hL : ls.length = L) : ∃ (k : Nat) (us ts us1 ts1 ts2 a b : List Int) (mm m1 : Int), L / 2 = k ∧ srX xs m ls = us ∧ srM xs m ls = mm ∧ srT xs m ls = ts ∧
    srQ xs m a = true ∧ srX xs m a = us1 ∧ srM xs m a = m1 ∧ srT xs m a = ts1 ∧ srQ us1 m1 b = true ∧ srX us1 m1 b = us ∧ srM us1 m1 b = mm ∧ srT us1 m1 b = ts2 ∧
    ts = ts1 ++ ts2 ∧ ls.take k = a ∧ ls.drop k = b ∧ ts.length = L ∧ us.length = 4 ∧ us1.length = 4 ∧ ts1.length = k ∧ ts2.length = L - k ∧ a.length = k ∧ b.length = L - k := by
  obtain ⟨e1, e2, e3⟩ := sr_yes hq
  obtain ⟨q1, q2, x1, x2, x3⟩ := run_half (L / 2) hq
  obtain ⟨f1, f2, f3⟩ := sr_yes q1
  obtain ⟨g1, g2, g3⟩ := sr_yes q2
  have hin : inR xs := inR_of (by unfold srQ at hq; rw [Bool.and_eq_true] at hq; exact hq.1)
  have hk : L / 2 ≤ L := by omega
  exact ⟨L / 2, runX xs ls, runT xs ls, _, _, _, _, _, runM m ls, _, rfl, e1, e2, e3, q1, f1, f2, f3, q2, g1.trans x1.symm, g2.trans x2.symm, g3, x3, rfl, rfl, by rw [runT_len, hL], (runX_in hin).1, (runX_in hin).1, by rw [runT_len, List.length_take, hL]; omega, by rw [runT_len, List.length_drop, hL], by rw [List.length_take, hL]; omega, by rw [List.length_drop, hL]⟩
theorem run_at (A C : Option Addr) (c e0 : Nat) (vs l us ts : List Int) (m mm : Int) (q : Bool) (hq : srQ vs m l = q) (h1 : srX vs m l = us) (h2 : srM vs m l = mm) (h3 : srT vs m l = ts) (hn : vs.length ≤ 1048576) (hln : l.length ≤ 1048576) (w : World) (hr : RdI w w.heap.size A vs) (hs : RdI w w.heap.size C l) :
    Calls Try.prog 31 #[.agg #[.slice A vs.length c, .int .i64 m], .slice C l.length e0] w (SR us mm ts q w) := by
  subst hq h1 h2 h3
  exact implRun_any A C c e0 vs l m w hr hs hn hln
theorem rd_take {w : World} {Bd g : Nat} {xs : List Int} {k : Nat} (h : RdI w Bd (some ⟨g, 0, none⟩) xs) : RdI w Bd (some ⟨g, 0, none⟩) (xs.take k) := fun hn => by
  rw [List.length_take] at hn
  obtain ⟨b, off, e, hb, hc⟩ := h (by omega)
  refine ⟨b, off, e, hb, fun i hi => ?_⟩
  rw [List.length_take] at hi
  have e2 : (xs.take k).getD i 0 = xs.getD i 0 := by simp only [List.getD]; rw [List.getElem?_take_of_lt (by omega)]
  rw [e2]
  exact hc i (by omega)
theorem rd_drop {w : World} {Bd g : Nat} {xs : List Int} {k : Nat} (h : RdI w Bd (some ⟨g, 0, none⟩) xs) : RdI w Bd (some ⟨g, k, none⟩) (xs.drop k) := fun hn => by
  rw [List.length_drop] at hn
  obtain ⟨b, off, e, hb, hc⟩ := h (by omega)
  injection e with e
  injection e with e1 e2
  subst e1 e2
  refine ⟨g, k, rfl, hb, fun i hi => ?_⟩
  rw [List.length_drop] at hi
  have e2 : (xs.drop k).getD i 0 = xs.getD (k + i) 0 := by simp only [List.getD]; rw [List.getElem?_drop]
  rw [e2]
  have := hc (k + i) (by omega)
  rwa [Nat.zero_add] at this
/-- A part of a tuple. -/
def tget (v : Value) (i : Nat) : Value := match v with | .tuple xs => xs.getD i undef | _ => undef
def MP (j : Nat) (v : Value) : Value := if j = 7 ∨ j = 11 then tget v 1 else tget v 2
def MS (ts : List Int) (v : Value) : Prop := ∃ x D ee, v = .tuple #[x, .slice D ts.length ee, .bool true]
def MT (w0 : World) (us ts : List Int) (mm : Int) (u : Value) (w' : World) : Prop :=
  ∃ A dd D ee, u = .tuple #[.agg #[.slice A us.length dd, .int .i64 mm], .slice D ts.length ee, .bool true] ∧ OI w' 3 w0.heap.size A us ∧ OI w' 3 w0.heap.size D ts
/-- What the operations of a half yield. -/
def MV (w0 : World) (e0 e1 e2 : Value) (a us ts : List Int) (mm : Int) (j : Nat) (u : Value) (w' : World) : Prop :=
  match j with
  | 0 => u = e0
  | 1 => u = e1
  | 2 => u = e2
  | 3 => ∃ C1 d3, u = .slice C1 a.length d3 ∧ RdI w' w'.heap.size C1 a
  | 4 => MT w0 us ts mm u w'
  | 5 => MT w0 us ts mm u w'
  | 6 => ∃ A dd, u = .agg #[.slice A us.length dd, .int .i64 mm] ∧ OI w' 3 w0.heap.size A us
  | 9 => ∃ o, u = .pointer (some ⟨o, 0, none⟩) ∧ w0.heap.size ≤ o ∧ Blk w' o 36 #[.slice none 0 0, .int .i64 0]
  | _ => True
theorem MT.keep {w0 : World} {us ts : List Int} {mm : Int} {u : Value} {w1 w2 : World} (h : MT w0 us ts mm u w1) (hb : Below w1.heap.size w1 w2) : MT w0 us ts mm u w2 := by
  obtain ⟨A, dd, D, ee, e, h1, h2⟩ := h
  exact ⟨A, dd, D, ee, e, h1.on hb, h2.on hb⟩
theorem MV.keep {w0 : World} {e0 e1 e2 : Value} {a us ts : List Int} {mm : Int} : ∀ j u w1 w2, MV w0 e0 e1 e2 a us ts mm j u w1 → Below w1.heap.size w1 w2 → MV w0 e0 e1 e2 a us ts mm j u w2 := by
  intro j u w1 w2 h hb
  match j, h with
  | 0, h => exact h
  | 1, h => exact h
  | 2, h => exact h
  | 3, h => obtain ⟨C1, d3, e, hr⟩ := h; exact ⟨C1, d3, e, RdI.on hr hb⟩
  | 4, h => exact MT.keep h hb
  | 5, h => exact MT.keep h hb
  | 6, h => obtain ⟨A, dd, e, h1⟩ := h; exact ⟨A, dd, e, h1.on hb⟩
  | 9, h => obtain ⟨o, e, h1, h2⟩ := h; exact ⟨o, e, h1, h2.on hb⟩
  | 7, _ => trivial
  | 8, _ => trivial
  | _ + 10, _ => trivial
def MR (w0 : World) (us ts : List Int) (mm : Int) (vs : Nat → Value) (w' : World) : Prop :=
  ∃ o A dd D ee x, vs 9 = .pointer (some ⟨o, 0, none⟩) ∧ vs 5 = .tuple #[x, .slice D ts.length ee, .bool true] ∧ w0.heap.size ≤ o ∧ Blk w' o 36 #[.slice A us.length dd, .int .i64 mm] ∧ OI w' 3 w0.heap.size A us ∧ OI w' 3 w0.heap.size D ts ∧ Below w0.heap.size w0 w'
theorem MV.shape {w0 : World} {e0 e1 e2 : Value} {a us ts : List Int} {mm : Int} : ∀ u w, MV w0 e0 e1 e2 a us ts mm 5 u w → MS ts u := by
  rintro u w ⟨A, dd, D, ee, e, _, _⟩
  exact ⟨_, D, ee, e⟩
theorem MR.shape {w0 : World} {us ts : List Int} {mm : Int} : ∀ (vs : Nat → Value) (w : World), MR w0 us ts mm vs w → MS ts (vs 5) := by
  rintro vs w ⟨o, A, dd, D, ee, x, _, e, _⟩
  exact ⟨x, D, ee, e⟩
theorem MR.cong {w0 : World} {us ts : List Int} {mm : Int} : ∀ (vs : Nat → Value) (i : Nat) (v : Value) (w : World), [0, 1, 2, 3, 4, 5, 6, 9].contains i = false → MR w0 us ts mm vs w → MR w0 us ts mm (upd vs i v) w := by
  rintro vs i v w hi ⟨o, A, dd, D, ee, x, h9, h5, h⟩
  have n9 : (9 : Nat) ≠ i := fun e => by subst e; simp at hi
  have n5 : (5 : Nat) ≠ i := fun e => by subst e; simp at hi
  exact ⟨o, A, dd, D, ee, x, by rw [upd_ne n9]; exact h9, by rw [upd_ne n5]; exact h5, h⟩
theorem MR.mk {w0 wx : World} {us ts : List Int} {mm : Int} {vs : Nat → Value} {o : Nat} {A : Option Addr} {dd : Nat} (e9 : vs 9 = .pointer (some ⟨o, 0, none⟩)) (h5 : MT w0 us ts mm (vs 5) wx) (ho : w0.heap.size ≤ o) (hk : Blk wx o 36 #[.slice none 0 0, .int .i64 0]) (hA : OI wx 3 w0.heap.size A us) (hB : Below w0.heap.size w0 wx) :
    MR w0 us ts mm vs ((wx.setCell ⟨o, 0, none⟩ (.slice A us.length dd)).setCell ⟨o, 1, none⟩ (.int .i64 mm)) := by
  obtain ⟨A5, dd5, D, ee, e5, _, hD⟩ := h5
  have k1 := hk.set_ 0 (.slice A us.length dd)
  exact ⟨o, A, dd, D, ee, _, e9, e5, ho, k1.set_ 1 _, oi_set7 (oi_set7 hA hk 0 _) k1 1 _, oi_set7 (oi_set7 hD hk 0 _) k1 1 _, Below.setCell (Below.setCell hB ho _) ho _⟩
theorem lit0_own (W : World) : (W.alloc (.cells #[] 3)).ownsRow W.heap.size 3 1 (.slice (some ⟨W.heap.size, 0, none⟩) 0 0) 0 [] :=
  ⟨rfl, .inr ⟨W.heap.size, 0, #[], rfl, Nat.le_refl _, Blk.new W 3 #[], Nat.le_refl _, Nat.zero_le _, rfl, rfl⟩⟩
theorem ic_app9 (a b : List Int) : ic a ++ ic b = ic (a ++ b) := by unfold ic; rw [List.map_append]
section
variable {P : Program} {w : World}
theorem wpList_append_want {ops : Array Oper} {rest : List Oper} {o : Oper} {a : Act} {Q : Exit → Act → World → Prop} (hw : Region.wanted o (yielded ops a.tmps) = true) (s x : Operand) (t : TypeId)
    (ho : o.op = .call { callee := .builtin .append, args := #[s, x], argTypes := #[t, t] })
    (base : Nat) (e : TypeId) (i : TypeInfo) (z : Value) (size bytes : Nat) (ht : P.underlying t = some (.slice e)) (hi : P.info? e = some i) (hz : i.zero = some z)
    (hsize : i.size = size) (hby : i.bytes = bytes) (hzs : z.cells.size = size) (hsz : 0 < size)
    (v : Value) (n : Nat) (xs : List Value) (hs : a.eval s = v) (hown : w.ownsRow base e size v n xs)
    (B : Nat) (A : Option Addr) (m c : Nat) (news : List Value) (hx : a.eval x = .slice A m c) (hr : Reads w B size A m news) (h1 : ∀ u ∈ news, u.oneCell' = true)
    (h63 : n + m ≤ maxLen) (hbytes : (n + m) * bytes ≤ 140737488355328) (hbase : base ≤ w.heap.size)
    (h : ∀ v' w', w'.ownsRow base e size v' (n + m) (xs ++ news) → w.grownBy w' v.ownBlock → (v'.ownBlock = v.ownBlock ∨ v'.ownBlock = some w.heap.size) → wpList P ops Q rest (a.put o.dst v') w') : wpList P ops Q (o :: rest) a w :=
  wpList_step fun K hK => by
    rw [if_pos hw]
    exact wp_append_any w s x t ho base e i z size bytes ht hi hz hsize hby hzs hsz v n xs hs hown B A m c news hx hr h1 h63 hbytes hbase fun v' w' h2 h3 h4 => hK _ _ (h v' w' h2 h3 h4)
end
end Go.Proofs.Ytfebeafonifpdaa.V
