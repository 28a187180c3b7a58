/-
  The draws of chapter 3: some numbers and reports. No statement is proved here.
-/
import Derived.Test.YtcfjmhebhhekbaaL3Bent
import Derived.Test.YtcfjmhebhhekbaaReports
set_option linter.unusedVariables false
set_option maxRecDepth 100000
namespace Go.Proofs.Ytcfjmhebhhekbaa.V
open Go.RowKit Go.Proofs.Ytcfjmhebhhekbaa.B
/-- Numbers and reports in bounds. -/
def Ok3 (n view : Int) (ps : List Pp) : Prop := 3 ≤ n ∧ n ≤ 7 ∧ 0 ≤ view ∧ view ≤ 10 ∧ ps.length ≤ 11 ∧ ∀ q ∈ ps, q.r.vs.length ≤ 10
theorem Ok3.few {n view : Int} {ps : List Pp} (h : Ok3 n view ps) : Few ps := ⟨by have := h.2.2.2.2.1; omega, fun i hi => by have := h.2.2.2.2.2 _ (getD_mem hi); omega⟩
theorem BS.end_ {Bd p d : Nat} {w w0 wr : World} {B : Option Addr} {qs : List Pp} (h : BS Bd p w wr B d qs) (hb : Below w0.heap.size w0 w) (hp : w0.heap.size ≤ p) : RdR wr wr.heap.size B qs ∧ Below w0.heap.size w0 wr :=
  ⟨(RdT.of_own h.own h.vm).rd, hb.grown h.gr hb.size (fun j hj => by injection hj with hj; omega)⟩
/-- What a draw of two numbers, reports and one number more answers. -/
def GRes (k : Nat) (w : World) (e : Ending) (w' : World) : Prop :=
  ∃ (n view : Int) (B : Option Addr) (d : Nat) (ps : List Pp) (x : Nat), x < k ∧ e = .returned (.tuple #[.int .i64 n, .int .i64 view, .slice B ps.length d, .int .i64 x]) ∧ Ok3 n view ps ∧ RdR w' w'.heap.size B ps ∧ Below w.heap.size w w'
set_option maxHeartbeats 800000 in
theorem drawGrounds_any (A : Option Addr) (n c : Nat) (hm : n ≤ maxLen) (w : World) (hr : RdC w w.heap.size A n) :
    Calls Try.prog 49 #[.slice A n c] w (GRes 5 w) := by
  go_enter Try.func49, Try.ntmps49
  go_wp2_with fail
  refine (new_any A n c hm w hr).mono ?_
  rintro e w1 ⟨p, rfl, hc1, hb1⟩
  have hp1 := cur_lt hc1
  have hz1 := hb1.size
  clear hr
  go_wp2_with fail
  refine (l3bent_any w.heap.size p w1 hz1 hc1).mono ?_
  rintro e w2 ⟨m, view, B, d, qs, rfl, hm1, hm2, hv1, hv2, hS2⟩
  go_wp2_with fail
  refine (below_i w.heap.size p 5 (by omega) (by omega) _ hS2.cu).mono ?_
  rintro e w3 ⟨x, hx, rfl, hc3, hg3⟩
  have hS3 := hS2.cur hc3 hg3
  clear hS2
  go_wp2
  refine bodyPost_ret (v := .tuple #[.int .i64 m, .int .i64 view, .slice B qs.length d, .int .i64 x]) (by simp [results, Try.results49, go_sem]) rfl ?_
  have he := hS3.end_ hb1 hp1.2
  exact ⟨m, view, B, d, qs, x, by omega, rfl, ⟨hm1, hm2, hv1, hv2, hS3.len, hS3.sm⟩, he.1, he.2⟩
theorem drawReportBy_any (A : Option Addr) (n c : Nat) (hm : n ≤ maxLen) (w : World) (hr : RdC w w.heap.size A n) :
    Calls Try.prog 24 #[.slice A n c] w fun e w' => ∃ (n view : Int) (B : Option Addr) (d : Nat) (ps : List Pp) (x : Int), -1 ≤ x ∧ x ≤ 6 ∧ e = .returned (.tuple #[.int .i64 n, .int .i64 view, .slice B ps.length d, .int .i64 x]) ∧ Ok3 n view ps ∧ RdR w' w'.heap.size B ps ∧ Below w.heap.size w w' := by
  go_enter Try.func24, Try.ntmps24
  go_wp2_with fail
  refine (new_any A n c hm w hr).mono ?_
  rintro e w1 ⟨p, rfl, hc1, hb1⟩
  have hp1 := cur_lt hc1
  have hz1 := hb1.size
  clear hr
  go_wp2_with fail
  refine (l3bent_any w.heap.size p w1 hz1 hc1).mono ?_
  rintro e w2 ⟨m, view, B, d, qs, rfl, hm1, hm2, hv1, hv2, hS2⟩
  go_wp2_with fail
  refine (below_i w.heap.size p 8 (by omega) (by omega) _ hS2.cu).mono ?_
  rintro e w3 ⟨x, hx, rfl, hc3, hg3⟩
  have hS3 := hS2.cur hc3 hg3
  clear hS2
  go_wp2
  refine bodyPost_ret (v := .tuple #[.int .i64 m, .int .i64 view, .slice B qs.length d, .int .i64 ((x : Int) - 1)]) (by simp [results, Try.results24, go_sem]) rfl ?_
  have he := hS3.end_ hb1 hp1.2
  exact ⟨m, view, B, d, qs, (x : Int) - 1, by omega, by omega, rfl, ⟨hm1, hm2, hv1, hv2, hS3.len, hS3.sm⟩, he.1, he.2⟩
set_option maxHeartbeats 1600000 in
theorem drawFree_any (A : Option Addr) (n c : Nat) (hm : n ≤ maxLen) (w : World) (hr : RdC w w.heap.size A n) :
    Calls Try.prog 56 #[.slice A n c] w fun e w' => ∃ (n view : Int) (B : Option Addr) (d : Nat) (ps : List Pp), e = .returned (.tuple #[.int .i64 n, .int .i64 view, .slice B ps.length d]) ∧ Ok3 n view ps ∧ RdR w' w'.heap.size B ps ∧ Below w.heap.size w w' := by
  go_enter Try.func56, Try.ntmps56
  go_wp2_with fail
  refine (new_any A n c hm w hr).mono ?_
  rintro e w1 ⟨p, rfl, hc1, hb1⟩
  have hp1 := cur_lt hc1
  have hz1 := hb1.size
  clear hr
  go_wp2_with fail
  refine (l3bent_any w.heap.size p w1 hz1 hc1).mono ?_
  rintro e w2 ⟨m, view, B, d, qs, rfl, hm1, hm2, hv1, hv2, hS2⟩
  go_wp2_with fail
  refine (once_any w.heap.size p 2 (by omega) (by omega) _ hS2.cu).mono ?_
  rintro e w3 ⟨q, rfl, hc3, hg3⟩
  have hS3 := hS2.cur hc3 hg3
  clear hS2
  rcases q with _ | _
  · go_wp2
    refine bodyPost_ret (v := .tuple #[.int .i64 m, .int .i64 view, .slice B qs.length d]) (by simp [results, Try.results56, go_sem]) rfl ?_
    have he := hS3.end_ hb1 hp1.2
    exact ⟨m, view, B, d, qs, rfl, ⟨hm1, hm2, hv1, hv2, hS3.len, hS3.sm⟩, he.1, he.2⟩
  · obtain ⟨L, hL⟩ : ∃ L, qs.length = L := ⟨_, rfl⟩
    have HS := Lib.hid hS3
    have hL11 : L ≤ 11 := by have := hS3.len; omega
    rw [hL]
    have HLL := Lib.hid hL
    clear hS3 hL
    go_wp2
    go_loopw [9] (fun i wr => ∃ (k : Nat) (ys : List Pp), k ≤ L ∧ i = .int .i64 k ∧ Hid (ys.length = L) ∧ Hid (BS w.heap.size p w1 wr B d ys)) (fun i _ => L - (intOf i).toNat)
    case atStart => exact ⟨0, qs, Nat.zero_le _, rfl, HLL.out, HS.out⟩
    case round =>
      obtain ⟨k, ys, hk, rfl, hyl, hS⟩ := hrel
      by_cases hlt : k < L
      · obtain ⟨g, rfl, ⟨y1, C1⟩, ⟨y2, C2⟩, hfr, hS8⟩ := hS.out.lock (i := k) (by rw [hyl.out]; exact hlt) 0 0
        have HS8 := Lib.hid hS8
        have hf1 := hfr (k * 4 + 1)
        have hf2 := hfr (k * 4 + 2)
        clear hS8 hS hfr
        go_wp2
        go_roundw
        case rel => exact ⟨k + 1, _, by omega, by go_num, by show _ = _; rw [List.length_set]; exact hyl.out, HS8⟩
        case measure => simp [intOf]; omega
      · go_wp2
        refine bodyPost_ret (v := .tuple #[.int .i64 m, .int .i64 view, .slice B L d]) (by simp [results, Try.results56, go_sem]) rfl ?_
        have he := hS.out.end_ hb1 hp1.2
        exact ⟨m, view, B, d, ys, by rw [hyl.out], ⟨hm1, hm2, hv1, hv2, hS.out.len, hS.out.sm⟩, he.1, he.2⟩
theorem drawSafe_any (A : Option Addr) (n c : Nat) (hm : n ≤ maxLen) (w : World) (hr : RdC w w.heap.size A n) :
    Calls Try.prog 12 #[.slice A n c] w (GRes 5 w) := by
  go_enter Try.func12, Try.ntmps12
  go_wp2_with fail
  refine (drawGrounds_any A n c hm w hr).mono ?_
  rintro e w1 ⟨m, view, B, d, qs, x, hx, rfl, h1, h2, h3⟩
  go_wp2
  refine bodyPost_ret (v := .tuple #[.int .i64 m, .int .i64 view, .slice B qs.length d, .int .i64 x]) (by simp [results, Try.results12, go_sem]) rfl ?_
  exact ⟨m, view, B, d, qs, x, hx, rfl, h1, h2, h3⟩
theorem drawSafeVals_any (A : Option Addr) (n c : Nat) (hm : n ≤ maxLen) (w : World) (hr : RdC w w.heap.size A n) :
    Calls Try.prog 21 #[.slice A n c] w fun e w' => ∃ (n view : Int) (B : Option Addr) (d : Nat) (ps : List Pp), e = .returned (.tuple #[.int .i64 n, .int .i64 view, .slice B ps.length d]) ∧ Ok3 n view ps ∧ RdR w' w'.heap.size B ps ∧ Below w.heap.size w w' := by
  go_enter Try.func21, Try.ntmps21
  go_wp2_with fail
  refine (drawFree_any A n c hm w hr).mono ?_
  rintro e w1 ⟨m, view, B, d, qs, rfl, h1, h2, h3⟩
  go_wp2
  refine bodyPost_ret (v := .tuple #[.int .i64 m, .int .i64 view, .slice B qs.length d]) (by simp [results, Try.results21, go_sem]) rfl ?_
  exact ⟨m, view, B, d, qs, rfl, h1, h2, h3⟩
end Go.Proofs.Ytcfjmhebhhekbaa.V
