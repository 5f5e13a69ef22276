/- Contracts of the walk: chapter 4 in spec: shifts, whole parts and fractions. -/
import Derived.Test.YtjmecidbnoimnaaDigImpl
import Derived.Test.YtjmecidbnoimnaaDigFrom2
import Derived.Test.YtjmecidbnoimnaaPadSpec3
import Derived.Test.YtjmecidbnoimnaaGcd
namespace Go.Proofs.Ytjmecidbnoimnaa
open Go.RowKit
set_option linter.unusedVariables false
set_option maxRecDepth 20000
set_option linter.unusedSimpArgs false
def lowN (p v u : Int) : Int := if 0 ≤ v then 0 else u % pw p (-v)
def lowM (p v : Int) : Int := if 0 ≤ v then 1 else pw p (-v)
/-- what is left of a number above its lowest digits is small -/
theorem high_lt {p v u n : Int} (h : POk p v u n) (he : 0 ≤ v + n) (hv : ¬ 0 ≤ v) : u / pw p (-v) < pw p (v + n) ∧ pw p (v + n) ≤ 1000000000 := by
  obtain ⟨hp2, hp97, hn0, hn1, hm0, hm1, hu0, hu1, hu2⟩ := pok_bd h
  have e := pw_add (p := p) (a := v + n) (b := -v) he (by omega)
  rw [show v + n + -v = n by omega] at e
  have g := pw_ge1 (p := p) (a := -v) hp2
  have hpart := pw_part (p := p) (n := n) (e := v + n) hp2 hm1 (by omega)
  exact ⟨Int.ediv_lt_of_lt_mul (by omega) (by rw [← e]; exact hu1), hpart.2⟩
end Go.Proofs.Ytjmecidbnoimnaa
