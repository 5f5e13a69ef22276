/- Walks of exact laws of chapter 12: how long the answers are; true at every input. -/
import Derived.Test.YtbjkcoajabcibaaLftTopI
import Derived.Test.YtbjkcoajabcibaaLfA
namespace Go.Proofs.Ytbjkcoajabcibaa
open Go.RowKit
set_option linter.unusedVariables false
set_option linter.unusedSimpArgs false
set_option maxRecDepth 20000
theorem mirQ_len (p n : Int) (f g : List Int) : (mirQ p n f g).length ≤ 1000 := by
  unfold mirQ
  split
  · rename_i h
    unfold mirC at h
    split at h
    · split at h
      · omega
      · omega
    · omega
  · simp
theorem dirC_zero {p n : Int} {f g : List Int} (h : dirC p n f g = 0) : f.length ≤ 9 := by
  unfold dirC at h
  split at h
  · rename_i h1; exact (twoR_of h1).1.len
  · omega
theorem dirQ_len (p n : Int) (f g : List Int) : (dirQ p n f g).length ≤ 1000 := by
  unfold dirQ
  split
  · rename_i h; have := quoP_len (ringM p n) f g; have := dirC_zero h; omega
  · simp
theorem dirR_len (p n : Int) (f g : List Int) : (dirR p n f g).length ≤ 1000 := by
  unfold dirR
  split
  · rename_i h; have := remP_len (ringM p n) f g; have := dirC_zero h; omega
  · simp
theorem imgQ_len (p n : Int) (f : List Int) : (imgQ p n f).length ≤ 1000 := by
  unfold imgQ
  split
  · rename_i h; have := redL_le p f; have := (inrB_of h).len; omega
  · simp
theorem rtrQ_len (p n : Int) (f : List Int) : (rtrQ p n f).length ≤ 1000 := by
  unfold rtrQ
  split
  · rename_i h
    unfold rtrC at h
    split at h
    · rename_i h1; have := redL_le (ringM p n) f; have := (polyB_of h1.2).1; omega
    · omega
  · simp
theorem lipC_zero {p n : Int} {f g h : List Int} (e : lipC p n f g h = 0) : LiftOk p n f g h := by
  unfold lipC at e
  split at e
  · rename_i h1
    split at e
    · exact liftOk_of h1 (by assumption)
    · omega
  · contradiction
theorem lipA_len (p n : Int) (f g h : List Int) : (lipA p n f g h).length ≤ 1000 := by
  unfold lipA
  split
  · rename_i e
    have ok := lipC_zero e
    have h1 := (liftOk_all ok (n.toNat - 1)).la
    have := (liftOk_len ok).2.1
    unfold liftA; omega
  · simp
theorem lipB_len (p n : Int) (f g h : List Int) : (lipB p n f g h).length ≤ 1000 := by
  unfold lipB
  split
  · rename_i e
    have ok := lipC_zero e
    have h1 := (liftOk_all ok (n.toNat - 1)).lb
    have := (liftOk_len ok).2.2
    unfold liftB; omega
  · simp
theorem pair_kept12 {w w' : World} {b : Nat} {v u : Value} {l : List Int} (h : IntRow b w u l) (hg : w.grownBy w' v.ownBlock) (ha : v.ownBlock = none ∨ v.ownBlock ≠ u.ownBlock) : IntRow b w' u l := by
  refine World.ownsRow.kept h hg ?_
  cases hu : u.ownBlock with
  | none => exact .inl rfl
  | some k =>
    right
    rw [hu] at ha
    rcases ha with ha | ha
    · rw [ha]; simp
    · exact Ne.symm ha
theorem marked_apart12 {w w' : World} {v u : Value} {n sz : Nat} {q : Int} (h : MarkedRow w v n sz q) (hg : w.grownBy w' u.ownBlock) (ha : v.ownBlock = none ∨ v.ownBlock ≠ u.ownBlock) : MarkedRow w' v n sz q := by
  rcases h with h | ⟨g, c, rfl, hlt, hc⟩
  · exact .inl h
  · have hb : w'.heap[g]? = w.heap[g]? := hg.block g hlt (by
      rcases ha with ha | ha
      · cases ha
      · exact ha)
    refine .inr ⟨g, c, rfl, by have := hg.size; omega, fun o ho => ?_⟩
    rw [World.cell?_of_block (w := w) (a := ⟨g, o, none⟩) hb]; exact hc o ho
end Go.Proofs.Ytbjkcoajabcibaa
