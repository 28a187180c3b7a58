/-
  What MsgBytes answers, of the model and of the program: contracts. No statement is proved here.
-/
import Derived.Test.YtfbiblomblcheabBytes
import Derived.Test.YtfbiblomblcheabImplMsgOk
import Derived.Deep.RegionHeld3
import Derived.WalkSmall
set_option linter.unusedVariables false
set_option maxRecDepth 100000
namespace Go.Proofs.Ytfbiblomblcheab.V
open Go.RowKit Go.Proofs.Ytfbiblomblcheab.B

theorem infoB : (Try.prog.info? 5).map (fun i => (i.zero, i.size, i.bytes)) = some (some (.int .u8 0), 1, 1) := by kernel_rfl

/-- The bytes of a message's first part, and of k of its votes. -/
def headBytes (k v x a b : Int) (n : Nat) : List Int := [k % 256, v % 256, x % 256, a % 256, b % 256, (n : Int) % 256]
def voteBytes (vs : List (Int × Int)) : List Int := vs.flatMap fun p => [p.1 % 256, p.2 % 256]
def msgBytesL (k v x a b : Int) (vs : List (Int × Int)) (j : Nat) : List Int := headBytes k v x a b vs.length ++ voteBytes (vs.take j)
theorem voteBytes_len (vs : List (Int × Int)) : (voteBytes vs).length = 2 * vs.length := by
  induction vs with
  | nil => rfl
  | cons p vs ih => simp only [voteBytes, List.flatMap_cons, List.length_append, List.length_cons, List.length_nil] at *; omega
theorem msgBytesL_len (k v x a b : Int) (vs : List (Int × Int)) (j : Nat) (hj : j ≤ vs.length) : (msgBytesL k v x a b vs j).length = 6 + 2 * j := by
  unfold msgBytesL headBytes
  rw [List.length_append, voteBytes_len, List.length_take]
  simp; omega
theorem msgBytesL_step (k v x a b : Int) (vs : List (Int × Int)) (j : Nat) (hj : j < vs.length) :
    msgBytesL k v x a b vs (j + 1) = msgBytesL k v x a b vs j ++ [(vs.getD j (0, 0)).1 % 256, (vs.getD j (0, 0)).2 % 256] := by
  unfold msgBytesL
  rw [List.append_assoc]
  congr 1
  rw [List.take_succ_eq_append_getElem hj]
  unfold voteBytes
  rw [List.flatMap_append]
  simp [List.getD, List.getElem?_eq_getElem hj]

/-- A row of the call's own, as the functions hand it back. -/
def BRes (xs : List Int) (q : Bool) (w : World) (e : Ending) (w' : World) : Prop :=
  ∃ B d, e = .returned (.tuple #[.slice B xs.length d, .bool q]) ∧ OB w' 5 w.heap.size B xs ∧ Below w.heap.size w w'
def BRes1 (xs : List Int) (w : World) (e : Ending) (w' : World) : Prop :=
  ∃ B d, e = .returned (.slice B xs.length d) ∧ OB w' 5 w.heap.size B xs ∧ Below w.heap.size w w'

theorem own_more {w w' : World} {b b' e size n : Nat} {v : Value} {xs : List Value} (h : w.ownsRow b e size v n xs) (hb : b' ≤ b) : w.ownsRow b' e size v n xs := by
  refine ⟨h.1, ?_⟩
  rcases h.2 with h2 | ⟨g, cap, cur, hv, hg, r⟩
  · exact .inl h2
  · exact .inr ⟨g, cap, cur, hv, by omega, r⟩

/-- What the walk ends with, from the relation at its last round. -/
theorem bres_of {w w' : World} {base n : Nat} {ov : Value} {ys : List Value} {xs : List Int} (hown : w'.ownsRow base 5 1 ov n ys) (hb : w.heap.size ≤ base) (hy : ys = xs.map (Value.int .u8)) (hn : 0 < n) (hB : Below w.heap.size w w') :
    ∃ B d, ov = .slice B xs.length d ∧ OB w' 5 w.heap.size B xs ∧ Below w.heap.size w w' := by
  subst hy
  obtain ⟨g, cap, rfl, _, _⟩ := hown.form hn
  obtain ⟨h1, h2⟩ := OB.of_own (own_more (w' := w) hown hb)
  subst h1
  exact ⟨_, _, rfl, h2, hB⟩

theorem head_own (w : World) (o : Obj) (k v x a b : Int) (vs : List (Int × Int)) :
    ((w.alloc o).alloc (.cells #[.int .u8 (k % 256), .int .u8 (v % 256), .int .u8 (x % 256), .int .u8 (a % 256), .int .u8 (b % 256), .int .u8 ((vs.length : Int) % 256)] 5)).ownsRow (w.heap.size + 1) 5 1 (.slice (some ⟨w.heap.size + 1, 0, none⟩) 6 6) 6 ((msgBytesL k v x a b vs 0).map (Value.int .u8)) := by
  have h := World.ownsRow_lit (e := 5) (base := w.heap.size + 1) (size := 1) (w.alloc o) #[.int .u8 (k % 256), .int .u8 (v % 256), .int .u8 (x % 256), .int .u8 (a % 256), .int .u8 (b % 256), .int .u8 ((vs.length : Int) % 256)] 6 (by simp) (by simp [maxLen]) rfl
  simpa [msgBytesL, headBytes, voteBytes] using h

set_option maxHeartbeats 1600000 in
theorem l1bytes_any (k v x a b : Int) (A : Option Addr) (c : Nat) (vs : List (Int × Int)) (w : World) (hr : Rd w w.heap.size A vs) (hn : vs.length ≤ 1048576) :
    Calls Try.prog 58 #[.agg #[.int .i64 k, .int .i64 v, .int .i64 x, .int .i64 a, .int .i64 b, .slice A vs.length c]] w (BRes1 (msgBytesL k v x a b vs vs.length) w) := by
  obtain ⟨i0, hi0, hz0, hz1, hz2⟩ := info_parts infoB
  have hh := fun o => head_own w o k v x a b vs
  have HH := Lib.hid hh; clear hh
  have hkm := fun A n => Blk.new w 43 #[.int .i64 k, .int .i64 v, .int .i64 x, .int .i64 a, .int .i64 b, .slice A n c]
  have HKM := Lib.hid hkm; clear hkm
  obtain ⟨n, hvn⟩ : ∃ n, vs.length = n := ⟨_, rfl⟩
  have hlast : msgBytesL k v x a b vs vs.length = msgBytesL k v x a b vs n := by rw [hvn]
  have HL := Lib.hid hlast; clear hlast
  have hlen : ∀ j, j ≤ n → (msgBytesL k v x a b vs j).length = 6 + 2 * j := fun j hj => msgBytesL_len k v x a b vs j (by omega)
  have HN := Lib.hid hlen; clear hlen
  have hst : ∀ j, j < n → msgBytesL k v x a b vs (j + 1) = msgBytesL k v x a b vs j ++ [(vs.getD j (0, 0)).1 % 256, (vs.getD j (0, 0)).2 % 256] := fun j hj => msgBytesL_step k v x a b vs j (by omega)
  have HST := Lib.hid hst; clear hst
  have hh2 := fun o => HH.out o
  rw [hvn] at hn hh2
  have HH2 := Lib.hid hh2; clear hh2 HH
  rw [HL.out]
  have hvn2 : vs.length = n := hvn
  rw [hvn]
  have HV := Lib.hid hvn2; clear hvn2 hvn
  go_enter Try.func58, Try.ntmps58
  go_wp2
  go_loopw [3, 4] (fun out i wr => ∃ (j nn : Nat) (ys : List Value), j ≤ n ∧ i = .int .i64 j ∧ Hid (nn = 6 + 2 * j) ∧ Hid (ys = (msgBytesL k v x a b vs j).map (Value.int .u8)) ∧ wr.ownsRow (w.heap.size + 1) 5 1 out nn ys ∧ Below (w.heap.size + 1) (w.alloc (.cells #[.int .i64 k, .int .i64 v, .int .i64 x, .int .i64 a, .int .i64 b, .slice A n c] 43)) wr) (fun _ i _ => n - (intOf i).toNat)
  case atStart => exact ⟨0, 6, _, Nat.zero_le _, rfl, rfl, rfl, HH2.out _, (Below.refl _ _).alloc (by simp) _⟩
  case round =>
    obtain ⟨j, nn, ys, hj, rfl, hnn, hys, hown, hbel⟩ := hrel
    have hbox := ((HKM.out A n).below hbel (by simp)).cell 5
    by_cases hlt : j < n
    · obtain ⟨bl, off, rfl, hb, hc0, hc1⟩ := Rd.at_ (hr.keep (w' := wr) fun b o hbo => (hbel.cell (p := ⟨b, o, none⟩) (by simp; omega)).trans (World.cell?_alloc_lt w _ ⟨b, o, none⟩ hbo)) (k := j) (by rw [HV.out]; omega)
      clear hr
      have hgt := HST.out j hlt
      obtain ⟨⟨va, vb⟩, hv⟩ : ∃ u, vs.getD j (0, 0) = u := ⟨_, rfl⟩
      rw [hv] at hc0 hc1 hgt
      clear hv
      have HGT := Lib.hid hgt; clear hgt
      have HNN : Hid (nn + 2 = 6 + 2 * (j + 1)) := by have := hnn.out; show _ = _; omega
      have HYS : Hid (ys ++ [.int .u8 (va % 256), .int .u8 (vb % 256)] = (msgBytesL k v x a b vs (j + 1)).map (Value.int .u8)) := by
        show _ = _
        rw [HGT.out, List.map_append, ← hys.out]; rfl
      have hlt' := hown.lt
      have ag : u3.ownBlock ≠ some w.heap.size := fun h => by have := (hlt' _ h).1; omega
      have av : u3.ownBlock ≠ some bl := fun h => by have := (hlt' _ h).1; omega
      have HAG := Lib.hid ag; clear ag
      have HAV := Lib.hid av; clear av hlt'
      have hzr : w.heap.size + 1 ≤ wr.heap.size := by have := hbel.size; simpa using this
      go_wp2_with fail
      go_region_held3 (fun w' => w'.cell? ⟨w.heap.size, 5, none⟩ = some (.slice (some ⟨bl, off, none⟩) n c) ∧ w'.cell? ⟨bl, off + j * 2, none⟩ = some (.int .i64 va) ∧ w'.cell? ⟨bl, off + j * 2 + 1, none⟩ = some (.int .i64 vb))
        (first
          | go_keep
          | (go_split_ands
             refine ⟨?_, ?_, ?_⟩
             · (rw [hgrow.cell_far _ (by simp; omega) (Ne.symm HAG.out)]; assumption)
             · (rw [hgrow.cell_far _ (by simp; omega) (Ne.symm HAV.out)]; assumption)
             · (rw [hgrow.cell_far _ (by simp; omega) (Ne.symm HAV.out)]; assumption)))
        ((refine step_append_lies _ (by rfl) _ _ _ (by rfl) (w.heap.size + 1) 5 i0 _ 1 1 Try.underlying22 hi0 hz0 hz1 hz2 rfl (by omega) u3 nn ys (by rfl) ((hown.alloc _).drew)
            ⟨wr.heap.size, 0, none⟩ 2 2 [.int .u8 (va % 256), .int .u8 (vb % 256)] (by rfl) (by rfl) (World.news_of_block (cs := #[.int .u8 (va % 256), .int .u8 (vb % 256)]) (t := 5) (fr := (0, 0)) (heap_alloc_new wr _)) (by simp [Value.oneCell'])
            (by omega) (by have := hnn.out; simp only [maxLen]; omega) (by have := hnn.out; omega) (by simp; omega) (wr.heap.size + 1) (by simp) ?_; intro gg cap w1 hown1 hgrow hat hlt2))
      go_wp2
      go_roundw
      case rel =>
        refine ⟨j + 1, nn + 2, _, by omega, by go_num, HNN, HYS, hown1, ?_⟩
        exact ((hbel.alloc hzr _).drew).grown hgrow (by simp; omega) (fun k hk => (hown.lt k hk).1)
      case measure => simp [intOf]; omega
    · go_wp2
      go_ret
      have hjn : j = n := by omega
      subst hjn
      have hbb : Below w.heap.size w wr := Below.trans ((Below.refl _ _).alloc (Nat.le_refl _) _) (hbel.mono (by simp))
      obtain ⟨B, d, h1, h2, h3⟩ := bres_of hown (by omega) hys.out (by have := hnn.out; omega) hbb
      exact ⟨B, d, by rw [← h1]; rfl, h2, h3⟩
end Go.Proofs.Ytfbiblomblcheab.V
