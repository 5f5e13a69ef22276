/- The draws of chapter 2's laws: rings, residues, exponents. -/
import Derived.Test.YtmkelfkbbdfjdaaDrawPrime
import Derived.Test.YtmkelfkbbdfjdaaRingLaw
namespace Go.Proofs.Ytmkelfkbbdfjdaa
open Go.RowKit
set_option linter.unusedVariables false
/-- a ring, drawn -/
def RingPost (o : Option Addr) (len cap q : Nat) (w : World) (e : Ending) (w' : World) : Prop :=
  ∃ p n : Int, e = .returned (.agg #[.int .i64 p, .int .i64 n]) ∧ -3 ≤ p ∧ p ≤ 101 ∧ -1 ≤ n ∧ n ≤ 30 ∧ Src w' o len cap q ∧ w.grownBy w' (some q)
theorem valid_ring {p n : Int} (hp : p ∈ [2, 3, 5, 7, 2, 3, 5, 11, 13]) (h1 : 1 ≤ n) (h2 : n ≤ 6) : smallB p = true ∧ ringM p n ≠ 0 := by
  have hs : smallB p = true := by
    simp only [List.mem_cons, List.not_mem_nil, or_false] at hp
    rcases hp with rfl | rfl | rfl | rfl | rfl | rfl | rfl | rfl | rfl <;> decide
  have hb : 2 ≤ p ∧ p ≤ 13 := by simp at hp; omega
  refine ⟨hs, ?_⟩
  have e1 := pow_le hb.1 (show n.toNat ≤ 6 by omega)
  have e2 : p ^ 6 ≤ 4826809 := by
    simp only [List.mem_cons, List.not_mem_nil, or_false] at hp
    rcases hp with rfl | rfl | rfl | rfl | rfl | rfl | rfl | rfl | rfl <;> decide
  have e3 := pow_ge1 hb.1 n.toNat
  unfold ringM
  rw [hs, decide_eq_true h1, decide_eq_true (show p ^ n.toNat ≤ 1000000000 by omega)]
  simp; omega
theorem src_set {w : World} {o : Option Addr} {len cap q b i : Nat} {v : Value} (h : Src w o len cap q) (hb : q < b) : Src (w.setCell ⟨b, i, none⟩ v) o len cap q := by
  obtain ⟨t, s, h⟩ := h
  refine ⟨t, s, ?_, ?_, ?_, fun i => by rw [World.frozen?_setCell]; exact h.fz i, h.ht, h.hl, h.s0, h.s1, ?_⟩
  · rw [set_other (.inl (by omega))]; exact h.c0
  · rw [set_other (.inl (by omega))]; exact h.c1
  · rw [set_other (.inl (by omega))]; exact h.c2
  · rcases h.code with hz | ⟨b, off, ho, hbp, hc⟩
    · exact .inl hz
    · refine .inr ⟨b, off, ho, hbp, fun i hi => ?_⟩
      rw [set_other (.inl (by omega))]; exact hc i hi
theorem grown_set {w w' : World} {q b i : Nat} {v : Value} (h : w.grownBy w' (some q)) (hb : w.heap.size ≤ b) : w.grownBy (w'.setCell ⟨b, i, none⟩ v) (some q) :=
  ⟨h.os, h.tape, h.output, by simpa using h.size, fun k hk hn => by rw [Below.heap_setCell _ _ _ _ (by show k ≠ b; omega)]; exact h.block k hk hn⟩
/-- l01Pick over a list laid in a block whose number is written out -/
theorem pick_at (l : List Int) (T : TypeId) (c : Nat) (o : Option Addr) (len cap p g : Nat) (w : World) (hg : w.heap.size = g) (hs : Src w o len cap p) (h0 : 0 < l.length) (h1 : l.length ≤ 1000) :
    Calls Try.prog 32 #[.pointer (some ⟨p, 0, none⟩), .slice (some ⟨g, 0, none⟩) l.length c] (w.alloc (.cells (l.map (Value.int .i64)).toArray T)) fun e w' =>
      ∃ r : Int, e = .returned (.int .i64 r) ∧ r ∈ l ∧ Src w' o len cap p ∧ w.grownBy w' (some p) := by
  subst hg; exact pick_new l T c o len cap p w hs h0 h1
theorem ring_block {w w2 : World} {a b : Value} {T : TypeId} (h : w2.heap[w.heap.size]? = (w.alloc (.cells #[a, b] T)).heap[w.heap.size]?) :
    w2.cell? ⟨w.heap.size, 0, none⟩ = some a ∧ w2.cell? ⟨w.heap.size, 1, none⟩ = some b ∧ w2.frozen? ⟨w.heap.size, 0, none⟩ = false ∧ w2.frozen? ⟨w.heap.size, 1, none⟩ = false := by
  refine ⟨?_, ?_, ?_, ?_⟩
  · rw [World.cell?_of_block (w := w.alloc (.cells #[a, b] T)) (a := ⟨w.heap.size, 0, none⟩) h, World.cell?_alloc_new]; rfl
  · rw [World.cell?_of_block (w := w.alloc (.cells #[a, b] T)) (a := ⟨w.heap.size, 1, none⟩) h, World.cell?_alloc_new]; rfl
  · rw [World.frozen?_of_block (w := w.alloc (.cells #[a, b] T)) (a := ⟨w.heap.size, 0, none⟩) h]; exact World.frozen?_alloc_at _ _ _ _ rfl
  · rw [World.frozen?_of_block (w := w.alloc (.cells #[a, b] T)) (a := ⟨w.heap.size, 1, none⟩) h]; exact World.frozen?_alloc_at _ _ _ _ rfl
theorem block_alloc {w : World} (o : Obj) {k : Nat} (h : k < w.heap.size) : (w.alloc o).heap[k]? = w.heap[k]? := Below.heap_alloc w o k h
end Go.Proofs.Ytmkelfkbbdfjdaa
