/-
  A message's box that is laid beside calls, whichever comes first; and what marks leave as it was. No statement is proved here.
-/
import Derived.Test.YtbgkjhfhcaidcaaOwns
import Derived.Test.YtbgkjhfhcaidcaaOwnV
import Derived.Test.YtbgkjhfhcaidcaaWithVote
set_option linter.unusedVariables false
namespace Go.Proofs.Ytbgkjhfhcaidcaa.V
open Go.RowKit Go.ChangeShapes Go.WideShapes Go.Proofs.Ytbgkjhfhcaidcaa.B

theorem OV.keep {w w' : World} {t base : Nat} {A : Option Addr} {us : List (Int × Int)} {row : Option Nat} (h : OV w t base A us) (hgr : w.grownBy w' row) (hne : ∀ g', A = some ⟨g', 0, none⟩ → row ≠ some g') : OV w' t base A us := by
  rcases h with ⟨rfl, rfl⟩ | ⟨g', cur, rfl, hb, hk, hp⟩
  · exact OV.nil_
  · exact .inr ⟨g', cur, rfl, hb, (hgr.block g' hk.lt (fun e => hne g' rfl e.symm)).trans hk, hp⟩
theorem keep_ {w w' : World} {g : Nat} {t : TypeId} {cs : Array Value} {row : Option Nat} (h : Blk w g t cs) (hgr : w.grownBy w' row) (hne : row ≠ some g) : Blk w' g t cs := (hgr.block g h.lt (fun e => hne e.symm)).trans h
theorem MV.up {w : World} {t base n : Nat} {A : Option Addr} {k : Int} (h : MV w t base A n k) (O : Obj) : MV (w.alloc O) t base A n k := h.on ((Below.refl _ _).alloc (Nat.le_refl _) O)
theorem keepB {w w' : World} {base : Nat} {row : Option Nat} (hgr : w.grownBy w' row) (hg : ∀ g, row = some g → base ≤ g) (hw : base ≤ w.heap.size) : Below base w w' :=
  ⟨hgr.os, hgr.tape, hgr.output, hgr.size, fun i hi => hgr.block i (by omega) (fun e => by have := hg i e.symm; omega)⟩
theorem mark_grow (k v x a b m : Int) (A : Option Addr) (c t base : Nat) (us : List (Int × Int)) (w : World) (h : OV w t base A us) (hn : us.length ≤ 1048576) (h0 : 0 ≤ m) (h1 : m ≤ 16777216) :
    Calls Try.prog 28 #[.agg #[.int .i64 k, .int .i64 v, .int .i64 x, .int .i64 a, .int .i64 b, .slice A us.length c], .int .i64 m] w fun e w' =>
      e = .returned (.int .i64 (m + 2 * us.length)) ∧ MV w' t base A us.length m ∧ ∃ row, (∀ g, row = some g → A = some ⟨g, 0, none⟩) ∧ w.grownBy w' row := by
  rcases h with ⟨rfl, rfl⟩ | ⟨g, cur, rfl, hg, hb, hs, hp⟩
  · refine (markMsg_nil k v x a b m none c w h0 h1).mono ?_
    rintro e w' ⟨rfl, hb⟩
    exact ⟨by simp, .inl rfl, none, by simp, hb.os, hb.tape, hb.output, hb.size, fun i hi _ => hb.block i hi⟩
  · refine (markMsg_any k v x a b m g us.length c t cur w hb hs hn h0 h1).mono ?_
    rintro e w' ⟨rfl, ds, hd, _, hm, hgr⟩
    exact ⟨rfl, .inr ⟨g, ds, rfl, hg, hd, hm⟩, some g, by simp, hgr⟩

theorem Blk.up {w : World} {b : Nat} {t : TypeId} {cs : Array Value} (h : Blk w b t cs) (O : Obj) : Blk (w.alloc O) b t cs := h.alloc O
theorem Blk.dr {w : World} {b : Nat} {t : TypeId} {cs : Array Value} (h : Blk w b t cs) : Blk w.drew b t cs := h
theorem Blk.six {w : World} {b s : Nat} {t : TypeId} {cs : Array Value} (h : Blk w b t cs) (hne : b ≠ s) (u0 u1 u2 u3 u4 u5 : Value) :
    Blk ((((((w.setCell ⟨s, 0, none⟩ u0).setCell ⟨s, 1, none⟩ u1).setCell ⟨s, 2, none⟩ u2).setCell ⟨s, 3, none⟩ u3).setCell ⟨s, 4, none⟩ u4).setCell ⟨s, 5, none⟩ u5) b t cs := by
  iterate 6 refine Blk.far ?_ (by exact hne) _
  exact h
def Made (w0 : World) (k2 v2 x2 a2 b2 : Int) (q : Bool) (us : List (Int × Int)) (s6 s7 : Value) (wx : World) : Prop :=
  ∃ s B d, s6 = .pointer (some ⟨s, 0, none⟩) ∧ s7 = .bool q ∧ Blk wx s 38 #[.int .i64 k2, .int .i64 v2, .int .i64 x2, .int .i64 a2, .int .i64 b2, .slice B us.length d] ∧ OV wx 36 w0.heap.size B us ∧ (∀ g, B = some ⟨g, 0, none⟩ → g ≠ s) ∧ w0.heap.size ≤ s ∧ Below w0.heap.size w0 wx
theorem made_late {w0 wd : World} {k2 v2 x2 a2 b2 : Int} {q : Bool} {us : List (Int × Int)} {B : Option Addr} {d base : Nat} (hB : Below w0.heap.size w0 wd) (ho : OV wd 36 base B us) (hb : w0.heap.size ≤ base) :
    Made w0 k2 v2 x2 a2 b2 q us (.pointer (some ⟨wd.heap.size, 0, none⟩)) (.bool q) (wd.alloc (.cells #[.int .i64 k2, .int .i64 v2, .int .i64 x2, .int .i64 a2, .int .i64 b2, .slice B us.length d] 38)) :=
  ⟨_, B, d, rfl, rfl, Blk.new _ _ _, (ho.up _).more hb, fun g e => by have := ho.lt g e; omega, hB.size, up_ hB _⟩
theorem made_early {w0 wd : World} {k2 v2 x2 a2 b2 : Int} {q : Bool} {us : List (Int × Int)} {B : Option Addr} {d base s : Nat} (hz : Blk wd s 38 #[.int .i64 0, .int .i64 0, .int .i64 0, .int .i64 0, .int .i64 0, .slice none 0 0]) (hs : w0.heap.size ≤ s) (hB : Below w0.heap.size w0 wd) (ho : OV wd 36 base B us) (hsb : s + 1 ≤ base) (hb : w0.heap.size ≤ base) :
    Made w0 k2 v2 x2 a2 b2 q us (.pointer (some ⟨s, 0, none⟩)) (.bool q) ((((((wd.setCell ⟨s, 0, none⟩ (.int .i64 k2)).setCell ⟨s, 1, none⟩ (.int .i64 v2)).setCell ⟨s, 2, none⟩ (.int .i64 x2)).setCell ⟨s, 3, none⟩ (.int .i64 a2)).setCell ⟨s, 4, none⟩ (.int .i64 b2)).setCell ⟨s, 5, none⟩ (.slice B us.length d)) := by
  refine ⟨s, B, d, rfl, rfl, ?_, ?_, fun g e => by have := ho.ge g e; omega, hs, ?_⟩
  · exact (((((hz.set_ 0 _).set_ 1 _).set_ 2 _).set_ 3 _).set_ 4 _).set_ 5 _
  · refine OV.more (b := base) ?_ hb
    iterate 6 refine OV.set_ ?_ (by show s < base; omega) _
    exact ho
  · iterate 6 refine Below.setCell ?_ (by show w0.heap.size ≤ s; omega) _
    exact hB

end Go.Proofs.Ytbgkjhfhcaidcaa.V
