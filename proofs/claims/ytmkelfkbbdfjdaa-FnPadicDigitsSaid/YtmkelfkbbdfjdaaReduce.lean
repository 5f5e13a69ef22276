/- Contracts of the walk: both ReduceTo, both CountUnits, and the remainders that they use. -/
import Derived.Test.YtmkelfkbbdfjdaaRingOf
import Derived.Test.YtmkelfkbbdfjdaaOrdMath2
import Derived.BigQuiet
namespace Go.Proofs.Ytmkelfkbbdfjdaa
open Go.RowKit
set_option linter.unusedVariables false
theorem remainder_any (x m : Int) (w : World) (h1 : 2 ≤ m) (h2 : m ≤ 1000000000) :
    Calls Try.prog 113 #[.int .i64 x, .int .i64 m] w fun e w' => e = .returned (.int .i64 (x % m)) ∧ w = w' := by
  have hm : (m == 0) = false := by simp; omega
  have hb := tmod_bd (x := x) (show 0 < m by omega)
  by_cases h : x.tmod m < 0
  · have HE := Lib.hid (rem_neg (by omega) h)
    go_enter Try.func113, Try.ntmps113
    go_wp2
    go_ret
    exact ⟨ret_int HE.out, rfl⟩
  · have HE := Lib.hid (rem_pos (by omega) h)
    go_enter Try.func113, Try.ntmps113
    go_wp2
    go_ret
    exact ⟨ret_int HE.out, rfl⟩
theorem l01Mod_any (x m : Int) (w : World) (h1 : 2 ≤ m) (h2 : m ≤ 1000000000) :
    Calls Try.prog 62 #[.int .i64 x, .int .i64 m] w fun e w' => e = .returned (.int .i64 (x % m)) ∧ w = w' := by
  have hm : (m == 0) = false := by simp; omega
  have hb := tmod_bd (x := x) (show 0 < m by omega)
  have HE := Lib.hid (mod_twice2 (x := x) (show 0 < m by omega))
  go_enter Try.func62, Try.ntmps62
  go_wp2
  go_ret
  exact ⟨ret_int HE.out, rfl⟩
def redV (p n x : Int) : Int := if ringM p n = 0 then 0 else if valueB x then x % ringM p n else 0
def redC (p n x : Int) : Int := if ringM p n = 0 then 1 else if valueB x then 0 else 2
end Go.Proofs.Ytmkelfkbbdfjdaa
