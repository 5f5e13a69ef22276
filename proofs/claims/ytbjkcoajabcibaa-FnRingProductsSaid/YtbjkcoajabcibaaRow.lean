/- Rows of the call's own memory, carried from one world to a later one; rows that bear the laws' marks. No conditions. -/
import Derived.Test.YtbjkcoajabcibaaMark
import Derived.Deep.QuietTactic
namespace Go.Proofs.Ytbjkcoajabcibaa
open Go.RowKit
set_option linter.unusedVariables false
theorem row_shape {w : World} {base : Nat} {T : TypeId} {sz : Nat} {v : Value} {n : Nat} {xs : List Value} (h : w.ownsRow base T sz v n xs) :
    (n = 0 ∧ ∃ o c, v = .slice o 0 c) ∨ (0 < n ∧ ∃ g c, v = .slice (some ⟨g, 0, none⟩) n c ∧ base ≤ g ∧ g < w.heap.size) := by
  rcases h.2 with ⟨rfl, rfl⟩ | ⟨g, cap, cur, rfl, hb, hg, _⟩
  · exact .inl ⟨rfl, none, 0, rfl⟩
  · by_cases h0 : n = 0
    · subst h0; exact .inl ⟨rfl, _, _, rfl⟩
    · exact .inr ⟨by omega, g, cap, rfl, hb, (Array.getElem?_eq_some_iff.1 hg).1⟩
theorem row_below {w w' : World} {base B : Nat} {T : TypeId} {sz : Nat} {v : Value} {n : Nat} {xs : List Value} (h : w.ownsRow base T sz v n xs) (hb : Below B w w') (hB : w.heap.size ≤ B) : w'.ownsRow base T sz v n xs := by
  refine ⟨h.1, ?_⟩
  rcases h.2 with hn | ⟨g, cap, cur, rfl, hbg, hg, rest⟩
  · exact .inl hn
  · refine .inr ⟨g, cap, cur, rfl, hbg, ?_, rest⟩
    rw [hb.block g (by have := (Array.getElem?_eq_some_iff.1 hg).1; omega)]; exact hg
/-- the row v of n elements, sz cells each, bears the marks from q on -/
def MarkedRow (w : World) (v : Value) (n sz : Nat) (q : Int) : Prop :=
  (n = 0 ∧ ∃ o c, v = .slice o 0 c) ∨
  ∃ g c, v = .slice (some ⟨g, 0, none⟩) n c ∧ g < w.heap.size ∧ ∀ o : Nat, o < n * sz → w.cell? ⟨g, o, none⟩ = some (.int .i64 (q + o))
theorem marked_below {w w' : World} {B : Nat} {v : Value} {n sz : Nat} {q : Int} (h : MarkedRow w v n sz q) (hb : Below B w w') (hB : w.heap.size ≤ B) : MarkedRow w' v n sz q := by
  rcases h with h | ⟨g, c, rfl, hg, hc⟩
  · exact .inl h
  · refine .inr ⟨g, c, rfl, by have := hb.size; omega, fun o ho => ?_⟩
    rw [hb.cell (by show g < B; omega)]; exact hc o ho
/-- two rows: the elder one stays where the younger one is marked -/
theorem row_apart {w w' : World} {b1 b2 : Nat} {T : TypeId} {sz : Nat} {v v' : Value} {n n' : Nat} {xs xs' : List Value} {T' : TypeId} {sz' : Nat} {w0 : World}
    (h : w.ownsRow b1 T sz v n xs) (h' : w.ownsRow b2 T' sz' v' n' xs') (h0 : w0.ownsRow b1 T sz v n xs) (hs : w0.heap.size ≤ b2) (hg : w.grownBy w' v'.ownBlock) : w'.ownsRow b1 T sz v n xs := by
  refine h.kept hg ?_
  cases hv : v.ownBlock with
  | none => exact .inl rfl
  | some k =>
    right
    intro he
    have h1 := h0.lt k hv
    have h2 := h'.lt k he.symm
    omega
theorem below_drewN {B : Nat} {a w : World} (h : Below B a w) (n : Nat) : Below B a (w.drewN n) := h.trans ⟨rfl, rfl, rfl, Nat.le_refl _, fun _ _ => rfl⟩
theorem below_grown {B : Nat} {a w w' : World} {b : Nat} {T : TypeId} {sz : Nat} {v : Value} {n : Nat} {xs : List Value} (h : Below B a w) (hr : w.ownsRow b T sz v n xs) (hg : w.grownBy w' v.ownBlock) (hB : B ≤ b) (hw : B ≤ w.heap.size) : Below B a w' :=
  h.grown hg hw (fun k hk => by have := hr.lt k hk; omega)
theorem rows_apart {w : World} {b1 b2 : Nat} {T1 T2 : TypeId} {z1 z2 : Nat} {v1 v2 : Value} {n1 n2 : Nat} {x1 x2 : List Value} (h1 : w.ownsRow b1 T1 z1 v1 n1 x1) (h2 : w.ownsRow b2 T2 z2 v2 n2 x2) (hT : T1 ≠ T2) :
    v1.ownBlock = none ∨ v1.ownBlock ≠ v2.ownBlock := by
  rcases h1.2 with ⟨rfl, _⟩ | ⟨g1, c1, u1, rfl, _, e1, _⟩
  · exact .inl rfl
  · right
    rcases h2.2 with ⟨rfl, _⟩ | ⟨g2, c2, u2, rfl, _, e2, _⟩
    · intro h; cases h
    · intro h
      simp only [Value.ownBlock, Option.some.injEq] at h
      subst h
      rw [e1] at e2
      simp at e2
      exact hT e2.2
end Go.Proofs.Ytbjkcoajabcibaa
