/- The draws of residues and exponents, and the drawn arguments of chapter 2's functions. -/
import Derived.Test.YtbolmmgkmgmfeaaDrawRing
import Derived.Deep.RegionWith
namespace Go.Proofs.Ytbolmmgkmgmfeaa
open Go.RowKit
set_option linter.unusedVariables false
/-- a number, drawn -/
def SomePost (o : Option Addr) (len cap q : Nat) (w : World) (e : Ending) (w' : World) : Prop :=
  ∃ a : Int, e = .returned (.int .i64 a) ∧ Src w' o len cap q ∧ w.grownBy w' (some q)
theorem grown_below {w w' : World} {q : Nat} (h : Below w.heap.size w w') : w.grownBy w' (some q) :=
  ⟨h.os, h.tape, h.output, h.size, fun k hk _ => h.block k hk⟩
/-- a ring and a number, drawn -/
def RingTwoPost (w : World) (e : Ending) (w' : World) : Prop := ∃ p n a : Int, e = .returned (.tuple #[.agg #[.int .i64 p, .int .i64 n], .int .i64 a]) ∧ Below w.heap.size w w'
/-- between the draws: the source, what is old, the block of the result and that of a ring -/
def Mid (o : Option Addr) (len cap q : Nat) (w wz : World) : Prop :=
  w.heap.size < q ∧ Src wz o len cap q ∧ Below w.heap.size w wz ∧ w.heap.size < wz.heap.size ∧ wz.heap[w.heap.size]? = (w.alloc (.cells #[.int .i64 0, .int .i64 0] 36)).heap[w.heap.size]?
theorem mid_first {o : Option Addr} {len cap q : Nat} {w w1 : World} (hq : (w.alloc (.cells #[.int .i64 0, .int .i64 0] 36)).heap.size ≤ q) (hs : Src w1 o len cap q)
    (hb : Below (w.alloc (.cells #[.int .i64 0, .int .i64 0] 36)).heap.size (w.alloc (.cells #[.int .i64 0, .int .i64 0] 36)) w1) : Mid o len cap q w w1 := by
  have e : (w.alloc (.cells #[.int .i64 0, .int .i64 0] 36)).heap.size = w.heap.size + 1 := by simp
  exact ⟨by omega, hs, below_one hb, by have := hb.size; omega, hb.block _ (by omega)⟩
theorem mid_next {o : Option Addr} {len cap q : Nat} {w w1 w2 : World} (h : Mid o len cap q w w1) (hs : Src w2 o len cap q) (hg : w1.grownBy w2 (some q)) : Mid o len cap q w w2 := by
  obtain ⟨h1, h2, h3, h4, h5⟩ := h
  exact ⟨h1, hs, below_draw h3 hg (Nat.le_of_lt h1) (Nat.le_of_lt h4), Nat.lt_of_lt_of_le h4 hg.size, (hg.block _ h4 (by simp; omega)).trans h5⟩
theorem mid_alloc {o : Option Addr} {len cap q : Nat} {w w1 : World} (h : Mid o len cap q w w1) (ob : Obj) : Mid o len cap q w (w1.alloc ob) :=
  mid_next h (src_alloc h.2.1 ob) (World.grownBy_alloc w1 ob (some q))
theorem mid_drewN {o : Option Addr} {len cap q : Nat} {w w1 : World} (h : Mid o len cap q w w1) (n : Nat) : Mid o len cap q w (w1.drewN n) := ⟨h.1, src_drewN h.2.1 n, below_drewN h.2.2.1 n, h.2.2.2⟩
end Go.Proofs.Ytbolmmgkmgmfeaa
