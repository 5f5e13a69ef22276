/- Contract of the walk: spec.FromDigits answers the number with these digits, or the code. -/
import Derived.Test.YtejgcamogjgdkaaDoorDigSpec2
namespace Go.Proofs.YtejgcamogjgdkaaDoor
open Go.RowKit
set_option linter.unusedVariables false
set_option linter.unusedSimpArgs false
theorem all_take {f : Int → Bool} {l : List Int} {k : Nat} (hk : k < l.length) : (l.take (k + 1)).all f = ((l.take k).all f && f (l.getD k 0)) := by
  rw [List.take_succ_eq_append_getElem hk, List.all_append]
  simp [List.getD, hk]
/-- the modulus for a number of digits, 0 if there are too many -/
def manyM (p : Int) (n : Nat) : Int := if pw p n ≤ 1000000000 then pw p n else 0
theorem l02Many_any (p : Int) (n : Nat) (w : World) (hs : smallB p = true) (hn : n ≤ 40) :
    Calls Tryd.prog 15 #[.int .i64 p, .int .i64 n] w fun e w' => e = .returned (.int .i64 (manyM p n)) ∧ w = w' := by
  obtain ⟨hp2, hp97⟩ := smallB_bd hs
  by_cases h0 : n = 0
  · subst h0
    have e : manyM p 0 = pw p ((0 : Nat) : Int) := by unfold manyM; rw [if_pos]; simp [pw]
    rw [e]
    exact l02Pow_any p _ w hp2 hp97 (by omega) (by simp [pw])
  · refine (l02Modulus_any p n w hs (by omega) (by omega)).mono fun e w' h => ⟨?_, h.2⟩
    rw [h.1]
    unfold manyM
    by_cases h1 : pw p n ≤ 1000000000
    · rw [if_pos h1, ringM_pw hs (by omega) h1]
    · rw [if_neg h1]
      congr 2
      refine Classical.byContradiction fun hr => ?_
      have e := pw_ringM hr
      obtain ⟨_, _, _, _, _, h2, _⟩ := ringM_bd hr
      omega
end Go.Proofs.YtejgcamogjgdkaaDoor
