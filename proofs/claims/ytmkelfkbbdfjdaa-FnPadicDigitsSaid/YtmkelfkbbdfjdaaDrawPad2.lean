/- The drawn arguments of chapter 3's laws. -/
import Derived.Test.YtmkelfkbbdfjdaaDrawPad
import Derived.Test.YtmkelfkbbdfjdaaPadExp3
import Derived.Test.YtmkelfkbbdfjdaaPadSpec3
import Derived.Test.YtmkelfkbbdfjdaaDrawVal
import Derived.Deep.DeepCutAuto
namespace Go.Proofs.Ytmkelfkbbdfjdaa
open Go.RowKit
set_option linter.unusedVariables false
set_option maxRecDepth 20000
set_option linter.unusedSimpArgs false
def OnePad (w : World) (e : Ending) (w' : World) : Prop := ∃ p v u n : Int, e = .returned (.agg (P4 p v u n)) ∧ Below w.heap.size w w'
def PadInt (w : World) (e : Ending) (w' : World) : Prop := ∃ p v u n k : Int, e = .returned (.tuple #[.agg (P4 p v u n), .int .i64 k]) ∧ Below w.heap.size w w'
def TwoPad (w : World) (e : Ending) (w' : World) : Prop := ∃ p v u n q v' u' n' : Int, e = .returned (.tuple #[.agg (P4 p v u n), .agg (P4 q v' u' n')]) ∧ Below w.heap.size w w'
def ThreeInt (w : World) (e : Ending) (w' : World) : Prop := ∃ a b c : Int, e = .returned (.tuple #[.int .i64 a, .int .i64 b, .int .i64 c]) ∧ Below w.heap.size w w'
/-- a source in use, and what is old; k blocks lie ahead of the source -/
def DD (o : Option Addr) (len cap q k : Nat) (w wz : World) : Prop := Src wz o len cap q ∧ Below w.heap.size w wz ∧ w.heap.size + k ≤ q
theorem dd_next {o : Option Addr} {len cap q k : Nat} {w w1 w2 : World} (h : DD o len cap q k w w1) (hs : Src w2 o len cap q) (hg : w1.grownBy w2 (some q)) : DD o len cap q k w w2 :=
  ⟨hs, below_draw h.2.1 hg (by have := h.2.2; omega) h.2.1.size, h.2.2⟩
theorem dd_alloc {o : Option Addr} {len cap q k : Nat} {w w1 : World} (h : DD o len cap q k w w1) (ob : Obj) : DD o len cap q k w (w1.alloc ob) := dd_next h (src_alloc h.1 ob) (World.grownBy_alloc w1 ob (some q))
theorem dd_drew {o : Option Addr} {len cap q k : Nat} {w w1 : World} (h : DD o len cap q k w w1) : DD o len cap q k w w1.drew := ⟨src_drewN h.1 1, below_drewN h.2.1 1, h.2.2⟩
theorem dd_drewN {o : Option Addr} {len cap q k : Nat} {w w1 : World} (h : DD o len cap q k w w1) (j : Nat) : DD o len cap q k w (w1.drewN j) := ⟨src_drewN h.1 j, below_drewN h.2.1 j, h.2.2⟩
theorem dd_below {o : Option Addr} {len cap q k : Nat} {w w1 w2 : World} (h : DD o len cap q k w w1) (hb : Below w1.heap.size w1 w2) : DD o len cap q k w w2 :=
  ⟨src_below h.1 hb (src_lt h.1), h.2.1.trans (hb.mono h.2.1.size), h.2.2⟩
theorem dd_set {o : Option Addr} {len cap q k : Nat} {w w1 : World} (h : DD o len cap q k w w1) {b i : Nat} (hb : q < b) (v : Value) : DD o len cap q k w (w1.setCell ⟨b, i, none⟩ v) :=
  ⟨src_set h.1 hb, h.2.1.setCell (show w.heap.size ≤ b by have := h.2.2; omega) _, h.2.2⟩
theorem k1_grown {w w1 w2 : World} {a : Array Value} {q : Nat} (h : K1 w a w1) (hg : w1.grownBy w2 (some q)) (hq : w.heap.size + 1 ≤ q) : K1 w a w2 := ⟨below_draw h.1 hg (by omega) h.1.size, lies_grown h.2 hg (by omega)⟩
theorem k2_grown {w w1 w2 : World} {a b : Array Value} {q : Nat} (h : K2 w a b w1) (hg : w1.grownBy w2 (some q)) (hq : w.heap.size + 2 ≤ q) : K2 w a b w2 :=
  ⟨below_draw h.1 hg (by omega) h.1.size, lies_grown h.2.1 hg (by omega), lies_grown h.2.2 hg (by omega)⟩
end Go.Proofs.Ytmkelfkbbdfjdaa
