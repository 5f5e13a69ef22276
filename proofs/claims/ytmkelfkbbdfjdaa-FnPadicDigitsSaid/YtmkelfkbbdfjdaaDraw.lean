/- What the drawing functions keep: the source of draws lies in one block of three cells, over a code of at most 4096 bytes. -/
import Derived.Test.YtmkelfkbbdfjdaaRow
import Derived.Test.YtmkelfkbbdfjdaaPrime
import Derived.BigQuiet
namespace Go.Proofs.Ytmkelfkbbdfjdaa
open Go.RowKit
set_option linter.unusedVariables false
structure SrcAt (w : World) (o : Option Addr) (len cap p : Nat) (t : Nat) (s : Int) : Prop where
  c0 : w.cell? ⟨p, 0, none⟩ = some (.slice o len cap)
  c1 : w.cell? ⟨p, 1, none⟩ = some (.int .i64 t)
  c2 : w.cell? ⟨p, 2, none⟩ = some (.int .i64 s)
  fz : ∀ i, w.frozen? ⟨p, i, none⟩ = false
  ht : t ≤ len
  hl : len ≤ 4096
  s0 : 0 ≤ s
  s1 : s < 2147483647
  code : len = 0 ∨ ∃ b off, o = some ⟨b, off, none⟩ ∧ b < p ∧ ∀ i, i < len → ∃ z : Int, w.cell? ⟨b, off + i, none⟩ = some (.int .u8 z) ∧ 0 ≤ z ∧ z ≤ 255
theorem set_other {w : World} {b b' i j : Nat} {v : Value} (h : b ≠ b' ∨ i ≠ j) : (w.setCell ⟨b, i, none⟩ v).cell? ⟨b', j, none⟩ = w.cell? ⟨b', j, none⟩ :=
  World.cell?_setCell_other _ _ _ _ (by
    intro e
    have := (Addr.mk.injEq _ _ _ _ _ _).mp e
    rcases h with h | h
    · exact h this.1
    · exact h this.2.1)
theorem srcAt_seed {w : World} {o : Option Addr} {len cap p t : Nat} {s s' : Int} (h : SrcAt w o len cap p t s) (h0 : 0 ≤ s') (h1 : s' < 2147483647) :
    SrcAt (w.setCell ⟨p, 2, none⟩ (.int .i64 s')) o len cap p t s' := by
  refine ⟨?_, ?_, World.cell?_setCell_same _ _ _ h.c2, fun i => by rw [World.frozen?_setCell]; exact h.fz i, h.ht, h.hl, h0, h1, ?_⟩
  · rw [set_other (.inr (by decide))]; exact h.c0
  · rw [set_other (.inr (by decide))]; exact h.c1
  · rcases h.code with hz | ⟨b, off, ho, hb, hc⟩
    · exact .inl hz
    · refine .inr ⟨b, off, ho, hb, fun i hi => ?_⟩
      rw [set_other (.inl (by omega))]; exact hc i hi
theorem srcAt_at {w : World} {o : Option Addr} {len cap p t t' : Nat} {s : Int} (h : SrcAt w o len cap p t s) (ht : t' ≤ len) :
    SrcAt (w.setCell ⟨p, 1, none⟩ (.int .i64 t')) o len cap p t' s := by
  refine ⟨?_, World.cell?_setCell_same _ _ _ h.c1, ?_, fun i => by rw [World.frozen?_setCell]; exact h.fz i, ht, h.hl, h.s0, h.s1, ?_⟩
  · rw [set_other (.inr (by decide))]; exact h.c0
  · rw [set_other (.inr (by decide))]; exact h.c2
  · rcases h.code with hz | ⟨b, off, ho, hb, hc⟩
    · exact .inl hz
    · refine .inr ⟨b, off, ho, hb, fun i hi => ?_⟩
      rw [set_other (.inl (by omega))]; exact hc i hi
theorem srcAt_drewN {w : World} {o : Option Addr} {len cap p t : Nat} {s : Int} (h : SrcAt w o len cap p t s) (n : Nat) : SrcAt (w.drewN n) o len cap p t s :=
  ⟨h.c0, h.c1, h.c2, h.fz, h.ht, h.hl, h.s0, h.s1, h.code⟩
theorem srcAt_below {w w' : World} {B : Nat} {o : Option Addr} {len cap p t : Nat} {s : Int} (h : SrcAt w o len cap p t s) (hb : Below B w w') (hp : p < B) : SrcAt w' o len cap p t s := by
  refine ⟨?_, ?_, ?_, fun i => ?_, h.ht, h.hl, h.s0, h.s1, ?_⟩
  · rw [hb.cell (by exact hp)]; exact h.c0
  · rw [hb.cell (by exact hp)]; exact h.c1
  · rw [hb.cell (by exact hp)]; exact h.c2
  · rw [hb.frozen (by exact hp)]; exact h.fz i
  · rcases h.code with hz | ⟨b, off, ho, hbp, hc⟩
    · exact .inl hz
    · refine .inr ⟨b, off, ho, hbp, fun i hi => ?_⟩
      rw [hb.cell (by show b < B; omega)]; exact hc i hi
/-- the source of draws, wherever it stands by now -/
def Src (w : World) (o : Option Addr) (len cap p : Nat) : Prop := ∃ t s, SrcAt w o len cap p t s
theorem src_below {w w' : World} {B : Nat} {o : Option Addr} {len cap p : Nat} (h : Src w o len cap p) (hb : Below B w w') (hp : p < B) : Src w' o len cap p := by
  obtain ⟨t, s, h⟩ := h; exact ⟨t, s, srcAt_below h hb hp⟩
theorem src_drewN {w : World} {o : Option Addr} {len cap p : Nat} (h : Src w o len cap p) (n : Nat) : Src (w.drewN n) o len cap p := by
  obtain ⟨t, s, h⟩ := h; exact ⟨t, s, srcAt_drewN h n⟩
theorem src_alloc {w : World} {o : Option Addr} {len cap p : Nat} (h : Src w o len cap p) (ob : Obj) : Src (w.alloc ob) o len cap p := by
  have hp : p < w.heap.size := by obtain ⟨t, s, h⟩ := h; exact World.block_lt_of_cell? w _ h.c0
  exact src_below h ((Below.refl _ _).alloc (Nat.le_refl _) ob) hp
/-- what a draw below n answers -/
def NextPost (n : Int) (o : Option Addr) (len cap p : Nat) (w : World) (e : Ending) (w' : World) : Prop :=
  ∃ r : Int, e = .returned (.int .i64 r) ∧ 0 ≤ r ∧ (r < n ∨ r = 0) ∧ Src w' o len cap p ∧ w.grownBy w' (some p) ∧ w'.heap.size = w.heap.size
end Go.Proofs.Ytmkelfkbbdfjdaa
