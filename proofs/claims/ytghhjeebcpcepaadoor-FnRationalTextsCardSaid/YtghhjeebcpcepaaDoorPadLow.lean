/- Contracts of the walk: the small functions of chapter 3 (powers of the prime, zeros, rings, ends, and whether a number is valid) in impl and in spec. -/
import Derived.Test.YtghhjeebcpcepaaDoorPadMath
import Derived.Test.YtghhjeebcpcepaaDoorResid
import Derived.Deep.RegionHeld3
import Derived.BigQuiet
namespace Go.Proofs.YtghhjeebcpcepaaDoor
open Go.RowKit
set_option linter.unusedVariables false
set_option linter.unusedSimpArgs false
/-- a number laid in a block -/
abbrev At4 (w : World) (b : Nat) (p v u n : Int) : Prop :=
  w.cell? ⟨b, 0, none⟩ = some (.int .i64 p) ∧ w.cell? ⟨b, 1, none⟩ = some (.int .i64 v) ∧ w.cell? ⟨b, 2, none⟩ = some (.int .i64 u) ∧ w.cell? ⟨b, 3, none⟩ = some (.int .i64 n)
theorem at4_new (w : World) (p v u n : Int) (T : TypeId) : At4 (w.alloc (.cells #[.int .i64 p, .int .i64 v, .int .i64 u, .int .i64 n] T)) w.heap.size p v u n :=
  ⟨World.cell?_alloc_new _ _ _ _ ▸ rfl, World.cell?_alloc_new _ _ _ _ ▸ rfl, World.cell?_alloc_new _ _ _ _ ▸ rfl, World.cell?_alloc_new _ _ _ _ ▸ rfl⟩
theorem at4_below {w1 w2 : World} {b B : Nat} {p v u n : Int} (h : At4 w1 b p v u n) (hb : Below B w1 w2) (hB : b < B) : At4 w2 b p v u n := by
  obtain ⟨h0, h1, h2, h3⟩ := h
  exact ⟨by rw [hb.cell (p := ⟨b, 0, none⟩) hB]; exact h0, by rw [hb.cell (p := ⟨b, 1, none⟩) hB]; exact h1, by rw [hb.cell (p := ⟨b, 2, none⟩) hB]; exact h2, by rw [hb.cell (p := ⟨b, 3, none⟩) hB]; exact h3⟩
theorem at4_lt {w : World} {b : Nat} {p v u n : Int} (h : At4 w b p v u n) : b < w.heap.size := World.block_lt_of_cell? _ _ h.1
/-- what is old, and one number laid in a block -/
abbrev H4 (w : World) (b : Nat) (p v u n : Int) (w1 : World) : Prop := Below w.heap.size w w1 ∧ At4 w1 b p v u n
theorem h4_next {w w1 w2 : World} {b : Nat} {p v u n : Int} (h : H4 w b p v u n w1) (hb : Below w1.heap.size w1 w2) : H4 w b p v u n w2 :=
  ⟨h.1.trans (hb.mono h.1.size), at4_below h.2 hb (at4_lt h.2)⟩
theorem h4_alloc {w w1 : World} {b : Nat} {p v u n : Int} (h : H4 w b p v u n w1) (ob : Obj) : H4 w b p v u n (w1.alloc ob) :=
  h4_next h ((Below.refl _ _).alloc (Nat.le_refl _) _)
theorem h4_drewN {w w1 : World} {b : Nat} {p v u n : Int} (h : H4 w b p v u n w1) (k : Nat) : H4 w b p v u n (w1.drewN k) := ⟨below_drewN h.1 k, h.2⟩
theorem h4_new (w : World) (p v u n : Int) (T : TypeId) : H4 w w.heap.size p v u n (w.alloc (.cells #[.int .i64 p, .int .i64 v, .int .i64 u, .int .i64 n] T)) :=
  ⟨(Below.refl _ _).alloc (Nat.le_refl _) _, at4_new w p v u n T⟩
theorem padB_rest {p v u n : Int} (hs : smallB p = true) (hv : inB v (-60) 60 = true) (hz : ¬ (u = 0 ∧ n = 0)) : padB p v u n = ((resC p n u == 0) && !(u % p == 0)) := by
  unfold padB
  rw [hs, hv, Bool.true_and, Bool.true_and]
  by_cases hn : n = 0
  · have hu : u ≠ 0 := fun h => hz ⟨h, hn⟩
    rw [if_pos hn, show resC p n u = 1 by simp [resC, ringM_low (p := p) (n := n) (by omega)]]
    simp [hu]
  · rw [if_neg hn]
    unfold unitB resC
    by_cases h0 : ringM p n = 0
    · simp [h0]
    · have hm := ringM_bd h0
      rw [if_neg h0, decide_eq_true h0, Bool.true_and]
      by_cases hu : 0 ≤ u ∧ u < ringM p n
      · rw [if_pos hu]
        by_cases hu0 : u = 0
        · subst hu0; simp
        · rw [inB_t (by omega) (by omega)]; rfl
      · rw [if_neg hu, inB_f (by omega)]; rfl
theorem cell_last (w : World) (v : Value) (T : TypeId) : (w.alloc (.cells #[v] T)).cell? ⟨w.heap.size, 0, none⟩ = some v := by rw [World.cell?_alloc_new]; rfl
theorem size_last (w : World) (o : Obj) : w.heap.size < (w.alloc o).heap.size := by simp
/-- a guarded operation that is not wanted -/
theorem skip_arm {c : Bool} {A B : Prop} (h : c = false) (hB : B) : if c = true then A else B := by rw [h, if_neg (by decide)]; exact hB
theorem cell_after {w w2 : World} {v : Value} {T : TypeId} (hb : Below (w.alloc (.cells #[v] T)).heap.size (w.alloc (.cells #[v] T)) w2) : w2.cell? ⟨w.heap.size, 0, none⟩ = some v := by
  rw [hb.cell (by simp)]; exact cell_last w v T
theorem size_after {w w2 : World} {o : Obj} (hb : Below (w.alloc o).heap.size (w.alloc o) w2) : w.heap.size < w2.heap.size := Nat.lt_of_lt_of_le (size_last w o) hb.size
section
variable {P : Program} {ops : Array Oper} {Q : Exit → Act → World → Prop} {md : Region.Mode} {S : World → Prop}
theorem take_at {i d : Nat} {oi : Oper} {v : Value} {fuel : Nat} {listed : Array Bool} {a : Act} {w : World} (hi : ops[i]? = some oi) (hd : oi.dst = some d)
    (hs : Region.noSelect ops = true) (hf : Region.free md ops listed i = true) (hr : (Region.ready md ops listed).contains i = true)
    (hQ : ∀ c a w, Q (.panic c) (a.put oi.dst v) w → Q (.panic c) a w) (hy : YieldsIf P ops S oi v a) (hS : S w)
    (h : wpAnyH P md ops Q S fuel (listed.setIfInBounds i true) (a.put (some d) v) w) : wpAnyH P md ops Q S (fuel + 1) listed a w :=
  wpAnyH_take hi hs hf hr hQ hy hS (by rw [hd]; exact h)
end
end Go.Proofs.YtghhjeebcpcepaaDoor
