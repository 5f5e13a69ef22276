/- The walk of the law FnParts: true for every code; below the old memory nothing has turned. (joined of several texts) -/
import Derived.Test.YtgckamlibbjgcaaRatImpl2
import Derived.Test.YtgckamlibbjgcaaRatVal
import Derived.Test.YtgckamlibbjgcaaRatPof
import Derived.Deep.DeepCutAuto
import Derived.RangeFuncNested
import Derived.RangeFuncBound
import Derived.RangeFuncCalls
import Derived.RangeFuncLeaves
import Derived.RangeFuncBox
import Derived.WalkKit
import Derived.OwnWalkIn
import Derived.TacticsInMore
import Derived.LoopNIn
import Derived.LoopIn
import Derived.Test.YtgckamlibbjgcaaDigMath
import Derived.Test.YtgckamlibbjgcaaRow
import Derived.Test.YtgckamlibbjgcaaPrime
import Derived.StillTailTactics
import Derived.Deep.RegionHeld3
import Derived.Test.YtgckamlibbjgcaaDigImpl
import Derived.Shelf.Abstract
import Derived.Test.YtgckamlibbjgcaaPadSpec3
import Derived.Test.YtgckamlibbjgcaaGcd
import Derived.Test.YtgckamlibbjgcaaCommonLaw
import Derived.OpenShut
import Derived.Test.YtgckamlibbjgcaaPartMath
import Derived.Test.YtgckamlibbjgcaaDrawPad2
namespace Go.Proofs.Ytgckamlibbjgcaa
open Go.RowKit
set_option linter.unusedVariables false
set_option linter.unusedSimpArgs false
set_option maxRecDepth 20000
end Go.Proofs.Ytgckamlibbjgcaa
namespace Go.Proofs.Ytgckamlibbjgcaa
open Go.RowKit
set_option linter.unusedVariables false
set_option linter.unusedSimpArgs false
set_option maxRecDepth 20000
theorem ratVal_any (n d p : Int) (w : World) (hp : 2 ≤ p) (hn : n ≠ 0) (hd : d ≠ 0) (n0 : -1000000000000 ≤ n) (n1 : n ≤ 1000000000000) (d0 : -1000000000000 ≤ d) (d1 : d ≤ 1000000000000) :
    Calls Try.prog 106 #[.agg (P2 n d), .int .i64 p] w fun e w' => e = .returned (.int .i64 (valCount n p - valCount d p)) ∧ Below w.heap.size w w' := by
  obtain ⟨a0, a1⟩ := val_bd hp hn n0 n1
  obtain ⟨b0, b1⟩ := val_bd hp hd d0 d1
  go_enter Try.func106, Try.ntmps106
  go_wp2_with (go_at_call 124; refine (divideOut_any _ _ _ hp (by assumption) (by omega)).mono ?_; rintro e w' ⟨rfl, rfl⟩)
  go_ret
  exact ⟨rfl, below_a1 w _⟩
end Go.Proofs.Ytgckamlibbjgcaa
namespace Go.Proofs.Ytgckamlibbjgcaa
open Go.RowKit
set_option linter.unusedVariables false
set_option linter.unusedSimpArgs false
set_option maxRecDepth 20000
theorem implMake_yes (p m k : Int) (w : World) (h : ringM p k ≠ 0) (h0 : m ≠ 0) (h1 : -1000000000000 ≤ m) (h2 : m ≤ 1000000000000) :
    Calls Try.prog 129 #[.int .i64 p, .int .i64 m, .int .i64 k] w fun e w' => e = .returned (.tuple #[.agg (P4 p (valCount m p) (valRest m p % ringM p k) k), .int .i64 0]) ∧ Below w.heap.size w w' := by
  have hq : madeQ p m k = (p, valCount m p, valRest m p % ringM p k, k) := by simp [madeQ, h, valueB_t h1 h2, h0]
  have hc : madeC p m k = 0 := by simp [madeC, h, valueB_t h1 h2, h0]
  have := implMake_any p m k w
  rw [hq, hc] at this
  exact this
theorem implInvert_yes (p v u k : Int) (w : World) (h : POk p v u k) (hk : k ≠ 0) :
    Calls Try.prog 28 #[.agg (P4 p v u k)] w fun e w' => e = .returned (.tuple #[.agg (P4 p (-v) (invV p k u) k), .int .i64 0]) ∧ Below w.heap.size w w' := by
  have hq : invQ p v u k = (p, -v, invV p k u, k) := by simp [invQ, ok_padB h, hk]
  have hc : invC p v u k = 0 := by simp [invC, ok_padB h, hk]
  have := implInvert_any p v u k w
  rw [hq, hc] at this
  exact this
set_option maxHeartbeats 1000000 in
theorem padicIn_core (n d p k vn un vd ud g U : Int) (w : World)
    (HM : Hid (∀ w, Calls Try.prog 129 #[.int .i64 p, .int .i64 n, .int .i64 k] w fun e w' => e = .returned (.tuple #[.agg (P4 p vn un k), .int .i64 0]) ∧ Below w.heap.size w w'))
    (HD : Hid (∀ w, Calls Try.prog 129 #[.int .i64 p, .int .i64 d, .int .i64 k] w fun e w' => e = .returned (.tuple #[.agg (P4 p vd ud k), .int .i64 0]) ∧ Below w.heap.size w w'))
    (HI : Hid (∀ w, Calls Try.prog 28 #[.agg (P4 p vd ud k)] w fun e w' => e = .returned (.tuple #[.agg (P4 p (-vd) g k), .int .i64 0]) ∧ Below w.heap.size w w'))
    (HT : Hid (∀ w, Calls Try.prog 74 #[.agg (P4 p vn un k), .agg (P4 p (-vd) g k)] w fun e w' => e = .returned (.agg (P4 p (vn - vd) U k)) ∧ Below w.heap.size w w')) :
    Calls Try.prog 97 #[.agg (P2 n d), .agg (P2 p k)] w fun e w' => e = .returned (.agg (P4 p (vn - vd) U k)) ∧ Below w.heap.size w w' := by
  go_enter Try.func97, Try.ntmps97
  go_upto_region 2 with (go_at_call 129; refine (HM.out _).mono ?_; rintro e w1 ⟨rfl, hb⟩; have K := k3_first hb)
  replace K := k3_next K (below_a1 w1 (.cells (P4 p vn un k) 34))
  have L1 := lies_new w1 (P4 p vn un k) 34
  clear hb
  generalize w1.alloc (.cells (P4 p vn un k) 34) = V1 at K L1 ⊢
  obtain ⟨q, hq⟩ : ∃ b, w1.heap.size = b := ⟨_, rfl⟩
  rw [hq] at L1 ⊢
  clear hq
  obtain ⟨c0, c1⟩ := lies_pair K.2.1
  obtain ⟨d0, d1⟩ := lies_pair K.2.2.1
  go_upto_region 3 with (go_at_call 129; refine (HD.out _).mono ?_; rintro e w2 ⟨rfl, hb⟩; replace K := k3_next K hb; replace L1 := lies_next L1 hb)
  replace L1 := lies_alloc L1 (.cells (P4 p vd ud k) 34)
  replace K := k3_next K (below_a1 w2 (.cells (P4 p vd ud k) 34))
  have L2 := lies_new w2 (P4 p vd ud k) 34
  clear hb
  generalize w2.alloc (.cells (P4 p vd ud k) 34) = V2 at K L1 L2 ⊢
  obtain ⟨q, hq⟩ : ∃ b, w2.heap.size = b := ⟨_, rfl⟩
  rw [hq] at L2 ⊢
  clear hq
  clear c0 c1 d0 d1
  obtain ⟨g0, g1, g2, g3⟩ := lies_four L2
  go_upto_region 4 with (go_at_call 28; refine (HI.out _).mono ?_; rintro e w3 ⟨rfl, hb⟩; replace K := k3_next K hb; replace L1 := lies_next L1 hb; clear L2)
  replace L1 := lies_alloc L1 (.cells (P4 p (-vd) g k) 34)
  clear g0 g1 g2 g3
  replace K := k3_next K (below_a1 w3 (.cells (P4 p (-vd) g k) 34))
  have L3 := lies_new w3 (P4 p (-vd) g k) 34
  clear hb
  generalize w3.alloc (.cells (P4 p (-vd) g k) 34) = V3 at K L1 L3 ⊢
  obtain ⟨q, hq⟩ : ∃ b, w3.heap.size = b := ⟨_, rfl⟩
  rw [hq] at L3 ⊢
  clear hq
  obtain ⟨f0, f1, f2, f3⟩ := lies_four L1
  obtain ⟨g0, g1, g2, g3⟩ := lies_four L3
  go_wp2_with (go_at_call 74; refine (HT.out _).mono ?_; rintro e w4 ⟨rfl, hb⟩; replace K := k3_next K hb; obtain ⟨e0, e1, e2, e3⟩ := lies_four K.2.2.2; obtain ⟨ef0, ef1, ef2, ef3⟩ := lies_ice K.2.2.2)
  refine bodyPost_ret (v := .agg (P4 p (vn - vd) U k)) (by simp [results, Try.results97, go_sem, e0, e1, e2, e3]) rfl ?_
  exact ⟨rfl, below_set4 K.1 (by omega)⟩
theorem padicIn_any (n d p k : Int) (w : World) (hr : isRatB n d = true) (hn : n ≠ 0) (hm : ringM p k ≠ 0) :
    Calls Try.prog 97 #[.agg (P2 n d), .agg (P2 p k)] w fun e w' => e = .returned (.agg (A4 (pofT n d p k))) ∧ Below w.heap.size w w' := by
  obtain ⟨n0, n1, d0, d1, g⟩ := isRat_of hr
  have hs := (ringM_in hm).1
  have hp := (smallB_bd hs).1
  obtain ⟨_, _, k1, _, m1, m2, _⟩ := ringM_bd hm
  have hd : d ≠ 0 := by omega
  obtain ⟨_, a2, a3, a4⟩ := val_parts hp hn n0 n1
  obtain ⟨_, b2, b3, b4⟩ := val_parts (n := d) hp hd (by omega) d1
  have e := pw_ringM hm
  have ok : ∀ v r : Int, -60 ≤ v → v ≤ 60 → r % p ≠ 0 → 0 ≤ r % ringM p k → POk p v (r % ringM p k) k := by
    intro v r h1 h2 h3 h4
    have h5 := Int.emod_lt_of_pos r (show 0 < ringM p k by omega)
    have h6 : r % ringM p k % p ≠ 0 := by rw [emod_ringM hm]; exact h3
    have h7 : r % ringM p k ≠ 0 := by intro hz; rw [hz] at h6; simp at h6
    exact ⟨hs, h1, h2, by omega, by omega, .inr ⟨k1, by omega, by omega, h6⟩⟩
  have h1 := ok (valCount n p) _ (by omega) (by omega) a2 (Int.emod_nonneg _ hm)
  have h2 := ok (valCount d p) _ (by omega) (by omega) b2 (Int.emod_nonneg _ hm)
  have du : valRest d p % ringM p k % p ≠ 0 := by rw [emod_ringM hm]; exact b2
  obtain ⟨_, g1, g2, g3, g4⟩ := inv_unit hm (Int.emod_nonneg (valRest d p) hm) (Int.emod_lt_of_pos (valRest d p) (show 0 < ringM p k by omega)) du
  have h3 : POk p (-valCount d p) (invV p k (valRest d p % ringM p k)) k := ⟨hs, by omega, by omega, by omega, by omega, .inr ⟨k1, g1, by omega, g4⟩⟩
  have hU : mulU p (valRest n p % ringM p k) k (invV p k (valRest d p % ringM p k)) k = pofU n d p k := by
    unfold mulU pofU mulN
    rw [show min k k = k by omega, e]
  have HT : ∀ w, Calls Try.prog 74 #[.agg (P4 p (valCount n p) (valRest n p % ringM p k) k), .agg (P4 p (-valCount d p) (invV p k (valRest d p % ringM p k)) k)] w fun e w' => e = .returned (.agg (P4 p (valCount n p - valCount d p) (pofU n d p k) k)) ∧ Below w.heap.size w w' := by
    intro w
    have := times_any p _ _ k _ _ k w h1 h3
    rw [hU, show mulN k k = k by unfold mulN; omega, show valCount n p + -valCount d p = valCount n p - valCount d p by omega] at this
    exact this
  exact padicIn_core n d p k _ _ _ _ _ _ w (Lib.hid fun w => implMake_yes p n k w hm hn n0 n1) (Lib.hid fun w => implMake_yes p d k w hm hd (by omega) d1) (Lib.hid fun w => implInvert_yes p _ _ k w h2 (by omega)) (Lib.hid HT)
theorem implPof_any (n d p k : Int) (w : World) :
    Calls Try.prog 41 #[.agg (P2 n d), .agg (P2 p k)] w fun e w' => e = .returned (.tuple #[.agg (A4 (pofQ n d p k)), .int .i64 (pofC n d p k)]) ∧ Below w.heap.size w w' := by
  cases hx : isRatB n d
  · have hc : pofC n d p k = 1 := by simp [pofC, hx]
    rw [show pofQ n d p k = (0, 0, 0, 0) by unfold pofQ; rw [if_neg (by omega)], hc]
    clear hc
    go_enter Try.func41, Try.ntmps41
    go_wp2_with (first | (go_at_call 95; refine (ratValid_any _ _ _).mono ?_; rintro e wn ⟨rfl, hb⟩; (first | have K := k3_first hb | have K := k3_next K hb); obtain ⟨c0, c1⟩ := lies_pair K.2.1; obtain ⟨d0, d1⟩ := lies_pair K.2.2.1; obtain ⟨e0, e1, e2, e3⟩ := lies_four K.2.2.2; obtain ⟨ef0, ef1, ef2, ef3⟩ := lies_ice K.2.2.2) | (go_at_call 21; refine (implIsRing_any _ _ _).mono ?_; rintro e wn ⟨rfl, hb⟩; (first | have K := k3_first hb | have K := k3_next K hb); obtain ⟨c0, c1⟩ := lies_pair K.2.1; obtain ⟨d0, d1⟩ := lies_pair K.2.2.1; obtain ⟨e0, e1, e2, e3⟩ := lies_four K.2.2.2; obtain ⟨ef0, ef1, ef2, ef3⟩ := lies_ice K.2.2.2) | (go_at_call 96; refine (ratZero_any _ _ _).mono ?_; rintro e wn ⟨rfl, hb⟩; (first | have K := k3_first hb | have K := k3_next K hb); obtain ⟨c0, c1⟩ := lies_pair K.2.1; obtain ⟨d0, d1⟩ := lies_pair K.2.2.1; obtain ⟨e0, e1, e2, e3⟩ := lies_four K.2.2.2; obtain ⟨ef0, ef1, ef2, ef3⟩ := lies_ice K.2.2.2))
    refine bodyPost_ret (v := .tuple #[.agg (P4 0 0 0 0), .int .i64 1]) (by simp [results, Try.results41, go_sem, e0, e1, e2, e3]) rfl ?_
    exact ⟨rfl, below_set4 K.1 (by omega)⟩

  · cases hr : ringB p k
    · have hc : pofC n d p k = 1 := by simp [pofC, hr]
      rw [show pofQ n d p k = (0, 0, 0, 0) by unfold pofQ; rw [if_neg (by omega)], hc]
      clear hc
      go_enter Try.func41, Try.ntmps41
      go_wp2_with (first | (go_at_call 95; refine (ratValid_any _ _ _).mono ?_; rintro e wn ⟨rfl, hb⟩; (first | have K := k3_first hb | have K := k3_next K hb); obtain ⟨c0, c1⟩ := lies_pair K.2.1; obtain ⟨d0, d1⟩ := lies_pair K.2.2.1; obtain ⟨e0, e1, e2, e3⟩ := lies_four K.2.2.2; obtain ⟨ef0, ef1, ef2, ef3⟩ := lies_ice K.2.2.2) | (go_at_call 21; refine (implIsRing_any _ _ _).mono ?_; rintro e wn ⟨rfl, hb⟩; (first | have K := k3_first hb | have K := k3_next K hb); obtain ⟨c0, c1⟩ := lies_pair K.2.1; obtain ⟨d0, d1⟩ := lies_pair K.2.2.1; obtain ⟨e0, e1, e2, e3⟩ := lies_four K.2.2.2; obtain ⟨ef0, ef1, ef2, ef3⟩ := lies_ice K.2.2.2) | (go_at_call 96; refine (ratZero_any _ _ _).mono ?_; rintro e wn ⟨rfl, hb⟩; (first | have K := k3_first hb | have K := k3_next K hb); obtain ⟨c0, c1⟩ := lies_pair K.2.1; obtain ⟨d0, d1⟩ := lies_pair K.2.2.1; obtain ⟨e0, e1, e2, e3⟩ := lies_four K.2.2.2; obtain ⟨ef0, ef1, ef2, ef3⟩ := lies_ice K.2.2.2))
      refine bodyPost_ret (v := .tuple #[.agg (P4 0 0 0 0), .int .i64 1]) (by simp [results, Try.results41, go_sem, e0, e1, e2, e3]) rfl ?_
      exact ⟨rfl, below_set4 K.1 (by omega)⟩

    · by_cases h0 : n = 0
      · have hc : pofC n d p k = 5 := by unfold pofC; rw [if_pos (by rw [hx, hr]; rfl), if_pos h0]
        have hz : (n == 0) = true := by simp [h0]
        rw [show pofQ n d p k = (0, 0, 0, 0) by unfold pofQ; rw [if_neg (by omega)], hc]
        clear hc h0
        go_enter Try.func41, Try.ntmps41
        go_wp2_with (first | (go_at_call 95; refine (ratValid_any _ _ _).mono ?_; rintro e wn ⟨rfl, hb⟩; (first | have K := k3_first hb | have K := k3_next K hb); obtain ⟨c0, c1⟩ := lies_pair K.2.1; obtain ⟨d0, d1⟩ := lies_pair K.2.2.1; obtain ⟨e0, e1, e2, e3⟩ := lies_four K.2.2.2; obtain ⟨ef0, ef1, ef2, ef3⟩ := lies_ice K.2.2.2) | (go_at_call 21; refine (implIsRing_any _ _ _).mono ?_; rintro e wn ⟨rfl, hb⟩; (first | have K := k3_first hb | have K := k3_next K hb); obtain ⟨c0, c1⟩ := lies_pair K.2.1; obtain ⟨d0, d1⟩ := lies_pair K.2.2.1; obtain ⟨e0, e1, e2, e3⟩ := lies_four K.2.2.2; obtain ⟨ef0, ef1, ef2, ef3⟩ := lies_ice K.2.2.2) | (go_at_call 96; refine (ratZero_any _ _ _).mono ?_; rintro e wn ⟨rfl, hb⟩; (first | have K := k3_first hb | have K := k3_next K hb); obtain ⟨c0, c1⟩ := lies_pair K.2.1; obtain ⟨d0, d1⟩ := lies_pair K.2.2.1; obtain ⟨e0, e1, e2, e3⟩ := lies_four K.2.2.2; obtain ⟨ef0, ef1, ef2, ef3⟩ := lies_ice K.2.2.2))
        refine bodyPost_ret (v := .tuple #[.agg (P4 0 0 0 0), .int .i64 5]) (by simp [results, Try.results41, go_sem, e0, e1, e2, e3]) rfl ?_
        exact ⟨rfl, below_set4 K.1 (by omega)⟩

      · have hc : pofC n d p k = 0 := by unfold pofC; rw [if_pos (by rw [hx, hr]; rfl), if_neg h0]
        have hz : (n == 0) = false := by simpa using h0
        obtain ⟨_, hm, _, hq⟩ := pof_zero hc
        rw [hq, hc]
        have HN := Lib.hid h0
        have HM := Lib.hid hm
        have HX := Lib.hid hx
        clear hc hm hq h0
        go_enter Try.func41, Try.ntmps41
        go_wp2_with (first | (go_at_call 95; refine (ratValid_any _ _ _).mono ?_; rintro e wn ⟨rfl, hb⟩; (first | have K := k3_first hb | have K := k3_next K hb); obtain ⟨c0, c1⟩ := lies_pair K.2.1; obtain ⟨d0, d1⟩ := lies_pair K.2.2.1; obtain ⟨e0, e1, e2, e3⟩ := lies_four K.2.2.2; obtain ⟨ef0, ef1, ef2, ef3⟩ := lies_ice K.2.2.2) | (go_at_call 21; refine (implIsRing_any _ _ _).mono ?_; rintro e wn ⟨rfl, hb⟩; (first | have K := k3_first hb | have K := k3_next K hb); obtain ⟨c0, c1⟩ := lies_pair K.2.1; obtain ⟨d0, d1⟩ := lies_pair K.2.2.1; obtain ⟨e0, e1, e2, e3⟩ := lies_four K.2.2.2; obtain ⟨ef0, ef1, ef2, ef3⟩ := lies_ice K.2.2.2) | (go_at_call 96; refine (ratZero_any _ _ _).mono ?_; rintro e wn ⟨rfl, hb⟩; (first | have K := k3_first hb | have K := k3_next K hb); obtain ⟨c0, c1⟩ := lies_pair K.2.1; obtain ⟨d0, d1⟩ := lies_pair K.2.2.1; obtain ⟨e0, e1, e2, e3⟩ := lies_four K.2.2.2; obtain ⟨ef0, ef1, ef2, ef3⟩ := lies_ice K.2.2.2) | (go_at_call 97; refine (padicIn_any _ _ _ _ _ HX.out HN.out HM.out).mono ?_; rintro e wn ⟨rfl, hb⟩; (first | have K := k3_first hb | have K := k3_next K hb); obtain ⟨c0, c1⟩ := lies_pair K.2.1; obtain ⟨d0, d1⟩ := lies_pair K.2.2.1; obtain ⟨e0, e1, e2, e3⟩ := lies_four K.2.2.2; obtain ⟨ef0, ef1, ef2, ef3⟩ := lies_ice K.2.2.2))
        refine bodyPost_ret (v := .tuple #[.agg (A4 (pofT n d p k)), .int .i64 0]) (by simp [results, Try.results41, go_sem, e0, e1, e2, e3]) rfl ?_
        exact ⟨rfl, below_set4 K.1 (by omega)⟩

end Go.Proofs.Ytgckamlibbjgcaa
namespace Go.Proofs.Ytgckamlibbjgcaa
open Go.RowKit
set_option linter.unusedVariables false
variable {F : Fence} {n : Nat} {P : Program} {α : Type}
/-- the call of an iterator value, at the yield of any loop l, for any two invariants that abide the iterator's own steps -/
def SeqBb (F : Fence) (n : Nat) (P : Program) (g : Nat) (ba lb : Array Value) (encs : α → Array Value) (St Fr : World → World → Prop) (S Sp : List α → Prop) (Start : World → Prop) : Prop :=
  ∀ (l : Nat) (J Jx : List α → World → Prop) (W : World), Start W →
    (∀ s A B, J s A → St A B → J s B) → (∀ s A B, Jx s A → St A B → Jx s B) → J [] W →
    (∀ pre x A, Sp (pre ++ [x]) → J pre A → YieldAt F (n - 1) P l (encs x) A fun e B => (e = .returned (.bool true) ∧ J (pre ++ [x]) B ∧ Fr A B) ∨ (e = .returned (.bool false) ∧ Jx (pre ++ [x]) B)) →
    CallsIn F n P g (ba ++ #[.func (.yield l) #[] #[]] ++ lb) W fun e B => ∃ v, e = .returned v ∧ ((∃ xs, S xs ∧ J xs B) ∨ ∃ pre, Sp pre ∧ Jx pre B)
/-- how a body may be left -/
def LeftBb (Fr : World → World → Prop) (I Ix : List α → World → Prop) (xs : List α) (W : World) : Exit → Act → World → Prop
  | .normal, _, B => KeepsOthers W B ∧ Fr W B ∧ I xs B
  | .ret, _, B => KeepsOthers W B ∧ Ix xs B
  | _, _, _ => False
/-- the loop's record and the block for deferred calls stand in W -/
def StandsB (K : Nat) (r : Loop) (W : World) : Prop := W.heap[K + 1]? = some (.loop r) ∧ W.heap[K]? = some (.deferred (some []))
theorem StandsB.put {K : Nat} {r r' : Loop} {W : World} (h : StandsB K r W) : StandsB K r' (W.putObj (K + 1) (.loop r')) :=
  ⟨World.putObj_heap_same (Array.getElem?_eq_some_iff.1 h.1).1, (World.putObj_heap_other (by omega)).trans h.2⟩
theorem StandsB.keeps {K : Nat} {r : Loop} {W B : World} (h : StandsB K r W) (hk : KeepsOthers W B) : StandsB K r B := ⟨hk.same _ _ h.1 rfl, hk.same _ _ h.2 rfl⟩
theorem wpIn_rangeBb {g : Operand} {ps : Array Tmp} {assign body : Code} {Q : Exit → Act → World → Prop} {a : Act} {w : World}
    (hro : F.round = none) (h1 : 1 ≤ n) {gf : Nat} {ba lb : Array Value} (hg : a.eval g = .func (.func gf) ba lb) (hFg : F.fn gf) (eg : ∀ args w, (callFunc gf args).run P w = .ok (.enter gf args) w)
    {encs : α → Array Value} {St Fr : World → World → Prop} {S Sp : List α → Prop} {Start : World → Prop} (hseq : SeqBb F (n - 1) P gf ba lb encs St Fr S Sp Start) (hps : ∀ x, (encs x).size = ps.size)
    (I Ix : List α → World → Prop) (a₁ : α → Act)
    (hIp : ∀ s W k o o', I s W → w.heap.size ≤ k → W.heap[k]? = some o → o.isCells = false → I s (W.putObj k o'))
    (hXp : ∀ s W k o o', Ix s W → w.heap.size ≤ k → W.heap[k]? = some o → o.isCells = false → Ix s (W.putObj k o'))
    (hFp : ∀ A W k o o', Fr A W → w.heap.size ≤ k → W.heap[k]? = some o → o.isCells = false → Fr A (W.putObj k o'))
    (hFq : ∀ W k o o', w.heap.size ≤ k → W.heap[k]? = some o → o.isCells = false → Fr W (W.putObj k o')) (hFt : ∀ {A B C : World}, Fr A B → Fr B C → Fr A C)
    (hIs : ∀ s A B, I s A → St A B → I s B) (hXs : ∀ s A B, Ix s A → St A B → Ix s B) (hSk : ∀ A B k o, St A B → w.heap.size ≤ k → A.heap[k]? = some o → o.isCells = false → B.heap[k]? = some o)
    (h0 : ∀ o o', I [] ((w.alloc o).alloc o')) (hS0 : ∀ o o', Start ((w.alloc o).alloc o'))
    (hassign : ∀ (l : Nat) (x : α) (W : World) (K : Act → World → Prop), K (a₁ x) W →
      assign.wpIn (F.inRound l) (n - 1 - 1) P (Exit.then K (fun _ _ _ => False)) { tmps := (ps.zip (encs x)).foldl (fun t (p, v) => t.setIfInBounds p v) a.tmps, defers := [] } W)
    (hbody : ∀ (l : Nat) (pre : List α) (x : α) (W : World), Sp (pre ++ [x]) → I pre W → body.wpIn (F.inRound l) (n - 1 - 1) P (LeftBb Fr I Ix (pre ++ [x]) W) (a₁ x) W)
    (hdone : ∀ (D : Nat) (xs : List α) (W : World), w.heap.size ≤ D → S xs → I xs W → W.heap[D]? = some (.deferred (some [])) → Q .normal { a with defers := { target := .collected D, args := #[] } :: a.defers } W)
    (hstop : ∀ (D : Nat) (pre : List α) (W : World), w.heap.size ≤ D → Sp pre → Ix pre W → W.heap[D]? = some (.deferred (some [])) → Code.ret.wpIn F n P Q { a with defers := { target := .collected D, args := #[] } :: a.defers } W) :
    (Code.rangeFunc g ps assign body).wpIn F n P Q a w := by
  refine wpIn_rangeFunc fun fn hfn => ?_
  rw [hro]
  let mk : LoopState → Option Code → Loop := fun st pe => { state := st, pending := pe, fn, tmps := a.tmps, params := ps, assign, body, defers := w.heap.size }
  refine ⟨w.heap.size + 1, [{ target := .collected w.heap.size, args := #[] }], (w.alloc (.deferred (some []))).alloc (.loop (mk .ready none)), { target := .fn (.func gf) lb, args := ba ++ #[.func (.yield (w.heap.size + 1)) #[] #[]] },
    (w.alloc (.deferred (some []))).alloc (.loop (mk .ready none)), gf, ba ++ #[.func (.yield (w.heap.size + 1)) #[] #[]] ++ lb, (w.alloc (.deferred (some []))).alloc (.loop (mk .ready none)),
    run_enterLoop_outer _ _ _ _ _, ?_, ?_, ?_, fun _ => h1, ?_⟩
  · simp only [resolve, hg]
    simp [go_sem]
  · intro f' hf'; simp [Target.leads] at hf'; subst hf'; exact hFg
  · simp [invoke, go_sem, eg]
  have st0 : StandsB w.heap.size (mk .ready none) ((w.alloc (.deferred (some []))).alloc (.loop (mk .ready none))) := by
    refine ⟨?_, ?_⟩
    · have := World.alloc_heap_new (w.alloc (.deferred (some []))) (.loop (mk .ready none)); rwa [World.size_alloc] at this
    · exact (Below.heap_alloc _ _ _ (by simp)).trans (World.alloc_heap_new w _)
  have stS : ∀ r A B, StandsB w.heap.size r A → St A B → StandsB w.heap.size r B := fun r A B h hs => ⟨hSk A B _ _ hs (by omega) h.1 rfl, hSk A B _ _ hs (by omega) h.2 rfl⟩
  refine (hseq (w.heap.size + 1) (fun s W => I s W ∧ StandsB w.heap.size (mk .ready none) W) (fun s W => Ix s W ∧ StandsB w.heap.size (mk .done (some .ret)) W) _ (hS0 _ _)
    (fun s A B h hs => ⟨hIs s A B h.1 hs, stS _ A B h.2 hs⟩) (fun s A B h hs => ⟨hXs s A B h.1 hs, stS _ A B h.2 hs⟩) ⟨h0 _ _, st0⟩ ?_).mono ?_
  · rintro pre x W hsp ⟨hi, hst⟩
    refine ⟨fn, _, assign, body, run_yield (P := P) (args := encs x) hst.1 (hps x), roundIn_of_wpIn hfn (hassign _ x W _ ⟨_, run_beginRound hst.1 rfl, ?_⟩)⟩
    have hb2 : StandsB w.heap.size (mk .busy none) (W.putObj (w.heap.size + 1) (.loop (mk .busy none))) := hst.put
    refine wpIn_mono (hbody _ pre x _ hsp (hIp _ _ _ _ _ hi (by omega) hst.1 rfl)) ?_
    rintro e a3 W3 hp
    cases e with
    | normal =>
      obtain ⟨hk, hf, hi3⟩ := hp
      have hs3 := hb2.keeps hk
      exact ⟨_, _, run_endRound (P := P) none hs3.1, .inl ⟨rfl, ⟨hIp _ _ _ _ _ hi3 (by omega) hs3.1 rfl, hs3.put⟩, hFp _ _ _ _ _ (hFt (hFq _ _ _ _ (by omega) hst.1 rfl) hf) (by omega) hs3.1 rfl⟩⟩
    | ret =>
      obtain ⟨hk, hi3⟩ := hp
      have hs3 := hb2.keeps hk
      exact ⟨_, _, run_endRound (P := P) (some .ret) hs3.1, .inr ⟨rfl, hXp _ _ _ _ _ hi3 (by omega) hs3.1 rfl, hs3.put⟩⟩
    | exit id => exact hp.elim
    | goto t => exact hp.elim
    | panic ch => exact hp.elim
    | outgrown => exact hp.elim
  · rintro e W2 ⟨v, rfl, (⟨xs, hS, hi, hst⟩ | ⟨pre, hSp, hi, hst⟩)⟩
    · exact ⟨none, _, run_endLoop (P := P) hst.1 (by simp [mk]), hdone _ xs _ (Nat.le_refl _) hS (hIp _ _ _ _ _ hi (by omega) hst.1 rfl) ((World.putObj_heap_other (by omega)).trans hst.2)⟩
    · exact ⟨some .ret, _, run_endLoop (P := P) hst.1 (by simp [mk]), hstop _ pre _ (Nat.le_refl _) hSp (hXp _ _ _ _ _ hi (by omega) hst.1 rfl) ((World.putObj_heap_other (by omega)).trans hst.2)⟩
end Go.Proofs.Ytgckamlibbjgcaa
namespace Go.Proofs.Ytgckamlibbjgcaa
open Go.RowKit
set_option linter.unusedVariables false
set_option maxRecDepth 20000
/-- a box, and what lay before, behind a step of the loop's own record -/
theorem boxed_putB {W : World} {j k : Nat} {t : TypeId} {v : Value} {o o' : Obj} (h : Boxed W j t v) (hk : W.heap[k]? = some o) (ho : o.isCells = false) : Boxed (W.putObj k o') j t v := by
  have hne : j ≠ k := by
    rintro rfl
    have h' : W.heap[j]? = some (Obj.cells #[v] t (0, 0)) := h
    rw [h'] at hk; cases hk; cases ho
  exact (World.putObj_heap_other hne).trans h
theorem below_putB {b k : Nat} {w W : World} {o' : Obj} (h : Below b w W) (hk : b ≤ k) : Below b w (W.putObj k o') :=
  ⟨h.os, h.tape, h.output, by have := h.size; simp [World.putObj]; omega, fun j hj => (World.putObj_heap_other (by omega)).trans (h.block j hj)⟩
theorem boxed_belowB {W w2 : World} {j : Nat} {t : TypeId} {v : Value} (h : Boxed W j t v) (hb : Below W.heap.size W w2) : Boxed w2 j t v := (hb.block j h.lt).trans h
theorem keeps_belowB {W w2 : World} (hb : Below W.heap.size W w2) : KeepsOthers W w2 :=
  ⟨hb.size, fun k o hk _ => (hb.block k (Array.getElem?_eq_some_iff.1 hk).1).trans hk⟩
/-- a number lies in block b -/
def PadAt (w : World) (b : Nat) (p v u n : Int) : Prop := w.heap[b]? = some (.cells (P4 p v u n) 34 (0, 0))
theorem padAt_four {w : World} {b : Nat} {p v u n : Int} (h : PadAt w b p v u n) :
    w.cell? ⟨b, 0, none⟩ = some (.int .i64 p) ∧ w.cell? ⟨b, 1, none⟩ = some (.int .i64 v) ∧ w.cell? ⟨b, 2, none⟩ = some (.int .i64 u) ∧ w.cell? ⟨b, 3, none⟩ = some (.int .i64 n) := by
  have h' : w.heap[b]? = _ := h
  refine ⟨?_, ?_, ?_, ?_⟩ <;> simp [World.cell?, h']
/-- an iterator's own steps only add memory -/
abbrev StU (A B : World) : Prop := Below A.heap.size A B
/-- numbers that lie stay -/
def FrP (A B : World) : Prop := ∀ (b : Nat) (vs : Array Value) (z : Nat × Nat), A.heap[b]? = some (.cells vs 34 z) → B.heap[b]? = A.heap[b]?
theorem frP_refl (A : World) : FrP A A := fun _ _ _ _ => rfl
theorem frP_trans {A B C : World} (h : FrP A B) (k : FrP B C) : FrP A C := fun b vs z hb => by
  have e := h b vs z hb
  exact (k b vs z (e.trans hb)).trans e
theorem frP_put {A W : World} {k : Nat} {o o' : Obj} (h : FrP A W) (hk : W.heap[k]? = some o) (ho : o.isCells = false) : FrP A (W.putObj k o') := by
  intro b vs z hb
  have e := h b vs z hb
  refine (World.putObj_heap_other ?_).trans e
  rintro rfl
  rw [e, hb] at hk; cases hk; cases ho
theorem frP_below {A B : World} (h : Below A.heap.size A B) : FrP A B := fun b vs z hb => h.block b (Array.getElem?_eq_some_iff.1 hb).1
theorem frP_set {A : World} {j : Nat} {t : TypeId} {v : Value} (u : Value) (h : Boxed A j t v) (ht : t ≠ 34) : FrP A (A.setCell ⟨j, 0, none⟩ u) := by
  intro b vs z hb
  refine Below.heap_setCell _ _ _ _ ?_
  intro e
  have h' : A.heap[j]? = some (Obj.cells #[v] t (0, 0)) := h
  rw [show b = j from e, h'] at hb
  simp at hb
  exact ht hb.2.1
theorem frP_row {A B : World} {base n sz : Nat} {T : TypeId} {v : Value} {xs : List Value} (hr : A.ownsRow base T sz v n xs) (hT : T ≠ 34) (hg : A.grownBy B v.ownBlock) : FrP A B := by
  intro b vs z hb
  refine hg.block b (Array.getElem?_eq_some_iff.1 hb).1 ?_
  intro e
  rcases hr.2 with ⟨rfl, _⟩ | ⟨g, cap, cur, rfl, _, hgb, _⟩
  · cases e
  · obtain rfl : b = g := by simpa [Value.ownBlock] using e
    rw [hgb] at hb
    simp at hb
    exact hT hb.2.1
theorem digL_prefix (p u : Int) {i n : Nat} (h : i ≤ n) : digL p u i <+: digL p u n := by
  obtain ⟨d, rfl⟩ := Nat.exists_eq_add_of_le h
  clear h
  induction d with
  | zero => exact List.prefix_refl _
  | succ d ih => rw [← Nat.add_assoc, digL_succ]; exact ih.trans (List.prefix_append _ _)
/-- one step of the digits -/
theorem dig_step {p u : Int} (hp2 : 2 ≤ p) (hp97 : p ≤ 97) (hu0 : 0 ≤ u) (hu2 : u ≤ 1000000000) (I : Nat) :
    ∃ a : Int, u / pw p (I : Int) = a ∧ 0 ≤ a ∧ a ≤ 1000000000 ∧ a.tmod p = a % p ∧ a.tdiv p = a / p ∧ IntKind.i64.wrap (a % p) = a % p ∧ IntKind.i64.wrap (a / p) = a / p ∧ u / pw p ((I + 1 : Nat) : Int) = a / p ∧ digL p u (I + 1) = digL p u I ++ [a % p] := by
  have g := pw_ge1 (p := p) (a := (I : Int)) hp2
  have a0 : 0 ≤ u / pw p (I : Int) := Int.ediv_nonneg hu0 (by omega)
  have a1 : u / pw p (I : Int) ≤ u := Int.ediv_le_self _ hu0
  refine ⟨_, rfl, a0, by omega, tmod_nonneg a0, Int.tdiv_eq_ediv_of_nonneg a0, ?_, ?_, ?_, digL_succ p u I⟩
  · have := Int.emod_nonneg (u / pw p (I : Int)) (show p ≠ 0 by omega)
    have := Int.emod_lt_of_pos (u / pw p (I : Int)) (show 0 < p by omega)
    exact IntWalk.i64_in _ (by omega)
  · have := Int.ediv_nonneg a0 (show 0 ≤ p by omega)
    have := Int.ediv_le_self p a0
    exact IntWalk.i64_in _ (by omega)
  · have e := pw_add (p := p) (a := (I : Int)) (b := 1) (by omega) (by omega)
    rw [pw_one] at e
    rw [show ((I + 1 : Nat) : Int) = (I : Int) + 1 by omega, e, Int.ediv_ediv_of_nonneg (by omega)]
end Go.Proofs.Ytgckamlibbjgcaa
namespace Go.Proofs.Ytgckamlibbjgcaa
open Go.RowKit
set_option linter.unusedVariables false
def pairB (a b c d : Int) : Bool := decide (a = c) && decide (b = d)
theorem pairB_eq {a b c d : Int} (h : pairB a b c d = true) : (a, b) = (c, d) := by
  simp [pairB] at h; simp [h]
theorem pairB_ne {a b c d : Int} (h : pairB a b c d = false) (e : (a, b) = (c, d)) : False := by
  simp at e; simp [pairB, e] at h
theorem allEq_succ {α : Type} {l1 l2 : List α} {z : α} {k : Nat} (h : ∀ j, j < k → l1.getD j z = l2.getD j z) (he : l1.getD k z = l2.getD k z) : ∀ j, j < k + 1 → l1.getD j z = l2.getD j z := by
  intro j hj
  by_cases e : j = k
  · subst e; exact he
  · exact h j (by omega)
theorem below_two (w : World) (o o' : Obj) : Below w.heap.size w ((w.alloc o).alloc o') := ((Below.refl _ _).alloc (Nat.le_refl _) o).alloc (by simp) o'
end Go.Proofs.Ytgckamlibbjgcaa
namespace Go.Proofs.Ytgckamlibbjgcaa
open Go.RowKit
set_option linter.unusedVariables false
def IntRow (base : Nat) (w : World) (v : Value) (l : List Int) : Prop := w.ownsRow base 2 1 v l.length (l.map (Value.int .i64))
theorem int_cells {base : Nat} {w : World} {g c : Nat} {l : List Int} (h : IntRow base w (.slice (some ⟨g, 0, none⟩) l.length c) l) :
    ∀ k, k < l.length → w.cell? ⟨g, k, none⟩ = some (.int .i64 (l.getD k 0)) := by
  intro k hk
  rw [World.ownsRow.cellAt h k (by omega)]
  simp [List.getD, hk]
end Go.Proofs.Ytgckamlibbjgcaa
namespace Go.Proofs.Ytgckamlibbjgcaa
open Go.RowKit
set_option linter.unusedVariables false
theorem Try.infoInt64 : (Try.prog.info? 2).map (fun i => (i.zero, i.size, i.bytes)) = some (some (.int .i64 0), 1, 8) := by kernel_rfl
theorem row_slice {w : World} {base : Nat} {T : TypeId} {sz : Nat} {v : Value} {n : Nat} {xs : List Value} (h : w.ownsRow base T sz v n xs) : ∃ o c, v = .slice o n c := by
  rcases row_shape h with ⟨h0, o, c, rfl⟩ | ⟨_, g, c, rfl, _⟩
  · exact ⟨o, c, by rw [h0]⟩
  · exact ⟨_, c, rfl⟩
def IntPost (l : List Int) (c : Int) (w : World) (e : Ending) (w' : World) : Prop :=
  ∃ v, e = .returned (.tuple #[v, .int .i64 c]) ∧ IntRow w.heap.size w' v l ∧ Below w.heap.size w w'
theorem intRow_nil (base : Nat) (w : World) : IntRow base w (.slice none 0 0) [] := World.ownsRow_nil _ _ _ _
theorem intRow_made (w : World) : IntRow w.heap.size (w.alloc (.cells #[] 2)) (.slice (some ⟨w.heap.size, 0, none⟩) 0 0) [] :=
  World.ownsRow_made w #[] 0 (Nat.le_refl _) (Nat.zero_le _) rfl
theorem intRow_snoc {base : Nat} {w' : World} {v' : Value} {acc : List Int} {a : Int} (h : w'.ownsRow base 2 1 v' (acc.length + 1) (acc.map (Value.int .i64) ++ [.int .i64 a])) : IntRow base w' v' (acc ++ [a]) := by
  unfold IntRow; rw [List.map_append, List.length_append]; exact h
theorem below_appendI {W wr w' : World} {v : Value} {o : Obj} {acc : List Int} (hb : Below W.heap.size W wr) (hW : IntRow W.heap.size wr v acc) (hg : (wr.alloc o).grownBy w' v.ownBlock) : Below W.heap.size W w' :=
  (hb.alloc hb.size o).grown hg (by simp; have := hb.size; omega) (fun k hk => (World.ownsRow.lt hW k hk).1)
theorem news_one (w : World) (a : Value) (T : TypeId) : ∀ j u, [a][j]? = some u → (w.alloc (.cells #[a] T)).cell? ((⟨w.heap.size, 0, none⟩ : Addr).add j) = some u := by
  intro j u h
  match j, h with
  | 0, h => simp at h; subst h; simp [Addr.add]
theorem one_one {k : IntKind} (a : Int) : ∀ u ∈ [Value.int k a], u.oneCell' = true := by
  intro u hu; simp at hu; subst hu; rfl
end Go.Proofs.Ytgckamlibbjgcaa
namespace Go.Proofs.Ytgckamlibbjgcaa
open Go.RowKit Go.Shelf
attribute [local go_sem] Oper.semAt_some
set_option linter.unusedVariables false
set_option maxRecDepth 20000
set_option linter.unusedSimpArgs false
def digB (p d : Int) : Bool := inB d 0 (p - 1)
theorem all_bad {f : Int → Bool} {l : List Int} {k : Nat} (hk : k < l.length) (h : f (l.getD k 0) = false) : l.all f = false := by
  cases ha : l.all f
  · rfl
  · rw [List.all_eq_true] at ha
    have e : l.getD k 0 = l[k] := by simp [List.getD, hk]
    rw [e, ha _ (List.getElem_mem hk)] at h; cases h
theorem all_good {f : Int → Bool} {l : List Int} (h : ∀ j, j < l.length → f (l.getD j 0) = true) : l.all f = true := by
  rw [List.all_eq_true]
  intro x hx
  obtain ⟨i, hi, e⟩ := List.getElem_of_mem hx
  have := h i hi
  rw [show l.getD i 0 = l[i] by simp [List.getD, hi], e] at this
  exact this
/-- the elements of a list from its end on, with their indices -/
def bk (l : List Int) (j : Nat) : List (Nat × Int) := (List.range j).map fun (i : Nat) => (l.length - 1 - i, l.getD (l.length - 1 - i) 0)
theorem bk_length (l : List Int) (j : Nat) : (bk l j).length = j := by simp [bk]
theorem bk_succ (l : List Int) (j : Nat) : bk l (j + 1) = bk l j ++ [(l.length - 1 - j, l.getD (l.length - 1 - j) 0)] := by
  unfold bk; rw [List.range_succ, List.map_append]; rfl
/-- what the iterator reads: the box of its list, and the list's row -/
def FrD (g b : Nat) (A B : World) : Prop := ∀ k, k = g ∨ k = b → B.heap[k]? = A.heap[k]?
def BackAt (g b c : Nat) (l : List Int) (W : World) : Prop :=
  Boxed W b 107 (.slice (some ⟨g, 0, none⟩) l.length c) ∧ ∀ k, k < l.length → W.cell? ⟨g, k, none⟩ = some (.int .i64 (l.getD k 0))
theorem backAt_kept {g b c : Nat} {l : List Int} {A B : World} (h : BackAt g b c l A) (hf : FrD g b A B) : BackAt g b c l B :=
  ⟨(hf b (.inr rfl)).trans h.1, fun k hk => by rw [World.cell?_of_block (w := A) (a := ⟨g, k, none⟩) (hf g (.inl rfl))]; exact h.2 k hk⟩
end Go.Proofs.Ytgckamlibbjgcaa
namespace Go.Proofs.Ytgckamlibbjgcaa
open Go.RowKit Go.Shelf
attribute [local go_sem] Oper.semAt_some
set_option linter.unusedVariables false
set_option maxRecDepth 20000
set_option linter.unusedSimpArgs false
/-- the number that withDigits answers -/
def withQ (p place : Int) (l : List Int) : Q4 := if l = [] then (p, place, 0, 0) else if ringM p l.length = 0 then (0, 0, 0, 0) else (p, numT p place (horner p l) (place + l.length))
theorem lies_putB {W : World} {b k : Nat} {x : Value} {vs : List Value} {o o' : Obj} (h : Lies W b (x :: vs).toArray) (hk : W.heap[k]? = some o) (ho : o.isCells = false) : Lies (W.putObj k o') b (x :: vs).toArray := by
  have hne : b ≠ k := by
    rintro rfl
    have := lies_cell h 0
    simp [World.cell?, hk] at this
    cases o <;> simp_all [Obj.isCells]
  exact lies_block h (by have := h.1; simp [World.putObj]; exact this) (World.putObj_heap_other hne)
theorem set4_def {w4 : World} {b D : Nat} {x0 x1 x2 x3 : Value} {o : Obj} (hk : w4.heap[D]? = some o) (ho : o.isCells = false) :
    ((((w4.setCell ⟨b, 0, none⟩ x0).setCell ⟨b, 1, none⟩ x1).setCell ⟨b, 2, none⟩ x2).setCell ⟨b, 3, none⟩ x3).heap[D]? = some o :=
  ((((KeepsOthers.setCell _ _ _).trans (KeepsOthers.setCell _ _ _)).trans (KeepsOthers.setCell _ _ _)).trans (KeepsOthers.setCell _ _ _)).same D _ hk ho
theorem lies_leave {w4 : World} {b D : Nat} {x0 x1 x2 x3 y0 y1 y2 y3 : Value} {o o' : Obj} (h : Lies w4 b #[y0, y1, y2, y3]) (hk : w4.heap[D]? = some o) (ho : o.isCells = false) :
    Lies (((((w4.setCell ⟨b, 0, none⟩ x0).setCell ⟨b, 1, none⟩ x1).setCell ⟨b, 2, none⟩ x2).setCell ⟨b, 3, none⟩ x3).putObj D o') b #[x0, x1, x2, x3] :=
  lies_putB (lies_set4 h) (set4_def hk ho) ho
theorem bk_last {l : List Int} {pre : List (Nat × Int)} {x : Nat × Int} (h : ∃ j, j ≤ l.length ∧ pre ++ [x] = bk l j) :
    pre.length < l.length ∧ x = (l.length - 1 - pre.length, l.getD (l.length - 1 - pre.length) 0) := by
  obtain ⟨j, hj, e⟩ := h
  have hl := congrArg List.length e
  rw [bk_length, List.length_append, List.length_singleton] at hl
  subst hl
  rw [bk_succ] at e
  have := (List.append_inj' e rfl).2
  exact ⟨by omega, by simpa using this⟩
theorem horner_drop (p : Int) {l : List Int} {k : Nat} (hk : k < l.length) : horner p (l.drop (l.length - (k + 1))) = horner p (l.drop (l.length - k)) * p + l.getD (l.length - 1 - k) 0 := by
  have h : l.length - (k + 1) < l.length := by omega
  rw [List.drop_eq_getElem_cons h, horner_cons, show l.length - (k + 1) + 1 = l.length - k by omega, Int.mul_comm]
  congr 1
  simp [List.getD, show l.length - 1 - k = l.length - (k + 1) by omega, h]
theorem horner_drop_bd {p : Int} {l : List Int} {k : Nat} (hp2 : 2 ≤ p) (hd : l.all (digB p) = true) (hk : k ≤ l.length) (hm : pw p l.length ≤ 1000000000) :
    0 ≤ horner p (l.drop (l.length - k)) ∧ horner p (l.drop (l.length - k)) ≤ 1000000000 := by
  rw [List.all_eq_true] at hd
  obtain ⟨a, b⟩ := horner_bd hp2 (l.drop (l.length - k)) fun d hx => by
    have := hd d (List.mem_of_mem_drop hx)
    simp only [digB, inB, Bool.and_eq_true, decide_eq_true_eq] at this
    omega
  rw [List.length_drop] at b
  have := pw_mono (p := p) (a := ((l.length - (l.length - k) : Nat) : Int)) (b := (l.length : Int)) hp2 (by omega)
  exact ⟨a, by omega⟩
/-- what holds at the head of each round: the number of the digits so far lies in box b -/
def WI (w : World) (p : Int) (l : List Int) (b : Nat) (pre : List (Nat × Int)) (W : World) : Prop :=
  Boxed W b 2 (.int .i64 (horner p (l.drop (l.length - pre.length)))) ∧ Lies W w.heap.size #[.int .i64 p] ∧ Lies W (w.heap.size + 1) (P4 0 0 0 0) ∧ Below w.heap.size w W
theorem wi_put {w W : World} {p : Int} {l : List Int} {b k : Nat} {pre : List (Nat × Int)} {o o' : Obj} (h : WI w p l b pre W) (hb : w.heap.size ≤ k) (hk : W.heap[k]? = some o) (ho : o.isCells = false) : WI w p l b pre (W.putObj k o') :=
  ⟨boxed_putB h.1 hk ho, lies_putB h.2.1 hk ho, lies_putB h.2.2.1 hk ho, below_putB h.2.2.2 hb⟩
theorem wi_below {w A B : World} {p : Int} {l : List Int} {b : Nat} {pre : List (Nat × Int)} (h : WI w p l b pre A) (hs : StU A B) : WI w p l b pre B :=
  ⟨boxed_belowB h.1 hs, lies_next h.2.1 hs, lies_next h.2.2.1 hs, h.2.2.2.trans (hs.mono h.2.2.2.size)⟩
theorem frD_put {g b k : Nat} {A W : World} {o' : Obj} (h : FrD g b A W) (h1 : g < k) (h2 : b < k) : FrD g b A (W.putObj k o') := by
  intro j hj
  refine (World.putObj_heap_other ?_).trans (h j hj)
  rcases hj with rfl | rfl <;> omega
theorem frD_refl {g b : Nat} (A : World) : FrD g b A A := fun _ _ => rfl
theorem frD_trans {g b : Nat} {A B C : World} (h : FrD g b A B) (k : FrD g b B C) : FrD g b A C := fun j hj => (k j hj).trans (h j hj)
theorem make_num {p v r e : Int} (h0 : 0 ≤ r) (h1 : r < pw p (e - v)) : makeT p v r e = numT p v r e := by
  unfold makeT numT
  rw [Int.emod_eq_of_lt h0 h1, Int.sub_sub]
theorem from_with {p place : Int} {l : List Int} (hs : smallB p = true) (hd : digsB p place l = true) :
    resQ (withQ p place l).1 (withQ p place l).2.1 (withQ p place l).2.2.1 (withQ p place l).2.2.2 = fromQ p place l ∧
    limC (withQ p place l).1 (withQ p place l).2.1 (withQ p place l).2.2.1 (withQ p place l).2.2.2 = fromC p place l := by
  have hp2 := (smallB_bd hs).1
  by_cases hl : l = []
  · subst hl
    have hw : withQ p place [] = (p, place, 0, 0) := rfl
    have hm : makeT p place (horner p []) (place + (([] : List Int).length : Int)) = (place, 0, 0) := by simp [makeT, horner]
    have h1 : pw p (([] : List Int).length : Int) ≤ 1000000000 := by simp [pw]
    unfold fromQ fromC
    rw [hw, hm, hs, hd, if_pos h1]
    simp [pw_zero]
  · have hlen : 1 ≤ (l.length : Int) := by have := List.length_pos_iff.2 hl; omega
    by_cases hr : ringM p l.length = 0
    · have hw : withQ p place l = (0, 0, 0, 0) := by unfold withQ; rw [if_neg hl, if_pos hr]
      have h1 : ¬ pw p (l.length : Int) ≤ 1000000000 := by
        intro h
        have := ringM_pw hs hlen h
        have := pw_ge1 (p := p) (a := (l.length : Int)) hp2
        omega
      have hz : padB 0 0 0 0 = false := by decide
      unfold fromQ fromC
      rw [hw, hs, hd]
      simp [h1, resQ, limC, hz]
    · have hw : withQ p place l = (p, numT p place (horner p l) (place + l.length)) := by unfold withQ; rw [if_neg hl, if_neg hr]
      have e := pw_ringM hr
      obtain ⟨_, _, _, _, _, h1, _⟩ := ringM_bd hr
      rw [e] at h1
      have hd2 : ∀ d ∈ l, 0 ≤ d ∧ d < p := by
        intro d hx
        unfold digsB at hd
        simp only [Bool.and_eq_true, List.all_eq_true] at hd
        have := hd.2 d hx
        simp only [inB, Bool.and_eq_true, decide_eq_true_eq] at this
        omega
      obtain ⟨a, b⟩ := horner_bd hp2 l hd2
      have hm := make_num (p := p) (v := place) (e := place + l.length) a (by rw [show place + (l.length : Int) - place = l.length by omega]; exact b)
      unfold fromQ fromC
      rw [hw, hs, hd, hm]
      simp [h1]
end Go.Proofs.Ytgckamlibbjgcaa
namespace Go.Proofs.Ytgckamlibbjgcaa
open Go.RowKit
set_option linter.unusedVariables false
set_option maxRecDepth 20000
set_option linter.unusedSimpArgs false
def lowN (p v u : Int) : Int := if 0 ≤ v then 0 else u % pw p (-v)
def lowM (p v : Int) : Int := if 0 ≤ v then 1 else pw p (-v)
theorem low_any (p v u n : Int) (w : World) (h : POk p v u n) (he : 0 ≤ v + n) :
    Calls Try.prog 92 #[.agg (P4 p v u n)] w fun e w' => e = .returned (.tuple #[.int .i64 (lowN p v u), .int .i64 (lowM p v)]) ∧ Below w.heap.size w w' := by
  by_cases hv : 0 ≤ v
  · rw [show lowN p v u = 0 by simp [lowN, hv], show lowM p v = 1 by simp [lowM, hv]]
    clear h
    go_enter Try.func92, Try.ntmps92
    go_wp2
    go_ret2
    exact ⟨rfl, below_a1 w _⟩
  · rw [show lowN p v u = u % pw p (-v) by simp [lowN, hv], show lowM p v = pw p (-v) by simp [lowM, hv]]
    obtain ⟨f1, f2, _, _, _, f6, f7, f8, hn1'⟩ := part_facts h he hv
    obtain ⟨hp2, hp97, hn0, hn1, _, _, hu0, _, hu2⟩ := pok_bd h
    have hv0 := h.2.1
    have HP := l02Pow_any p (-v)
    have hwn : IntKind.i64.wrap (-v) = -v := IntWalk.i64_in _ (by omega)
    have hn' : (n == 0) = false := by simp; omega
    generalize pw p (-v) = m at *
    replace HP := Lib.hid fun w => HP w hp2 hp97 (by omega) f2
    have hz : (m == 0) = false := by simp; omega
    have hz2 : ¬ m = 0 := by omega
    have hwd : IntKind.i64.wrap (u % m) = u % m := IntWalk.i64_in _ (by omega)
    clear h
    go_enter Try.func92, Try.ntmps92
    go_wp2_with (go_at_call 64; refine (HP.out _).mono ?_; rintro e wn ⟨rfl, rfl⟩)
    go_ret2
    exact ⟨rfl, below_a1 w _⟩
/-- what is left of a number above its lowest digits is small -/
theorem high_lt {p v u n : Int} (h : POk p v u n) (he : 0 ≤ v + n) (hv : ¬ 0 ≤ v) : u / pw p (-v) < pw p (v + n) ∧ pw p (v + n) ≤ 1000000000 := by
  obtain ⟨hp2, hp97, hn0, hn1, hm0, hm1, hu0, hu1, hu2⟩ := pok_bd h
  have e := pw_add (p := p) (a := v + n) (b := -v) he (by omega)
  rw [show v + n + -v = n by omega] at e
  have g := pw_ge1 (p := p) (a := -v) hp2
  have hpart := pw_part (p := p) (n := n) (e := v + n) hp2 hm1 (by omega)
  exact ⟨Int.ediv_lt_of_lt_mul (by omega) (by rw [← e]; exact hu1), hpart.2⟩
theorem specWhole_any (p v u n : Int) (w : World) :
    Calls Try.prog 37 #[.agg (P4 p v u n)] w fun e w' => e = .returned (.tuple #[.agg (A4 (wholeQ p v u n)), .int .i64 (splitC p v u n)]) ∧ Below w.heap.size w w' := by
  cases hx : padB p v u n
  · have hc : splitC p v u n = 1 := by simp [splitC, hx]
    rw [show wholeQ p v u n = (0, 0, 0, 0) by simp [wholeQ, hc], hc]
    clear hc
    go_enter Try.func37, Try.ntmps37
    go_wp2_with (first | (go_at_call 83; refine (specIsPadic_any _ _ _ _ _).mono ?_; rintro e wn ⟨rfl, hb⟩; (first | have K := k2_first hb | have K := k2_next K hb); obtain ⟨c0, c1, c2, c3⟩ := lies_four K.2.1; obtain ⟨cf0, cf1, cf2, cf3⟩ := lies_ice K.2.1; obtain ⟨d0, d1, d2, d3⟩ := lies_four K.2.2; obtain ⟨df0, df1, df2, df3⟩ := lies_ice K.2.2))
    refine bodyPost_ret (v := .tuple #[.agg (P4 0 0 0 0), .int .i64 1]) (by simp [results, Try.results37, go_sem, d0, d1, d2, d3]) rfl ?_
    exact ⟨rfl, below_set4 K.1 (by omega)⟩
  · have hk := padB_ok hx
    obtain ⟨hp2, hp97, hn0, hn1, _, _, hu0, _, hu2⟩ := pok_bd hk
    have hv0 := hk.2.1
    have hv1 := hk.2.2.1
    have hwe : IntKind.i64.wrap (v + n) = v + n := IntWalk.i64_in _ (by omega)
    by_cases hneg : v + n < 0
    · have hc : splitC p v u n = 4 := by simp [splitC, hx, hneg]
      rw [show wholeQ p v u n = (0, 0, 0, 0) by simp [wholeQ, hc], hc]
      clear hc hk
      go_enter Try.func37, Try.ntmps37
      go_wp2_with (first | (go_at_call 83; refine (specIsPadic_any _ _ _ _ _).mono ?_; rintro e wn ⟨rfl, hb⟩; (first | have K := k2_first hb | have K := k2_next K hb); obtain ⟨c0, c1, c2, c3⟩ := lies_four K.2.1; obtain ⟨cf0, cf1, cf2, cf3⟩ := lies_ice K.2.1; obtain ⟨d0, d1, d2, d3⟩ := lies_four K.2.2; obtain ⟨df0, df1, df2, df3⟩ := lies_ice K.2.2))
      refine bodyPost_ret (v := .tuple #[.agg (P4 0 0 0 0), .int .i64 4]) (by simp [results, Try.results37, go_sem, d0, d1, d2, d3]) rfl ?_
      exact ⟨rfl, below_set4 K.1 (by omega)⟩
    · have hc : splitC p v u n = 0 := by simp [splitC, hx, hneg]
      by_cases hv : 0 ≤ v
      · rw [show wholeQ p v u n = (p, v, u, n) by simp [wholeQ, hc, hv], hc]
        clear hc hk
        go_enter Try.func37, Try.ntmps37
        go_wp2_with (first | (go_at_call 83; refine (specIsPadic_any _ _ _ _ _).mono ?_; rintro e wn ⟨rfl, hb⟩; (first | have K := k2_first hb | have K := k2_next K hb); obtain ⟨c0, c1, c2, c3⟩ := lies_four K.2.1; obtain ⟨cf0, cf1, cf2, cf3⟩ := lies_ice K.2.1; obtain ⟨d0, d1, d2, d3⟩ := lies_four K.2.2; obtain ⟨df0, df1, df2, df3⟩ := lies_ice K.2.2))
        refine bodyPost_ret (v := .tuple #[.agg (P4 p v u n), .int .i64 0]) (by simp [results, Try.results37, go_sem, d0, d1, d2, d3]) rfl ?_
        exact ⟨rfl, below_set4 K.1 (by omega)⟩
      · rw [show wholeQ p v u n = (p, numT p 0 (u / pw p (-v)) (v + n)) by simp [wholeQ, hc, hv], hc]
        obtain ⟨f1, f2, f3, f4, f5, _, _, _, hn1'⟩ := part_facts hk (by omega) hv
        obtain ⟨g1, g2⟩ := high_lt hk (by omega) hv
        have H := Lib.hid hk
        have HEE := Lib.hid (show 0 ≤ v + n by omega)
        have hlm : lowM p v = pw p (-v) := by simp [lowM, hv]
        have HN := fun w => l03Make_any p 0 (u / pw p (-v)) (v + n) w hp2 hp97 (by omega) (by omega) (by omega) (by rw [Int.sub_zero]; exact g2) f3
        rw [make_num f3 (by rw [Int.sub_zero]; exact g1)] at HN
        generalize numT p 0 (u / pw p (-v)) (v + n) = z at *
        generalize pw p (-v) = m at *
        replace HN := Lib.hid HN
        have hz : (m == 0) = false := by simp; omega
        have hz2 : ¬ m = 0 := by omega
        have hwd : IntKind.i64.wrap (u / m) = u / m := IntWalk.i64_in _ (by omega)
        clear hk hc g1 g2
        go_enter Try.func37, Try.ntmps37
        go_wp2_with (first | (go_at_call 83; refine (specIsPadic_any _ _ _ _ _).mono ?_; rintro e wn ⟨rfl, hb⟩; (first | have K := k2_first hb | have K := k2_next K hb); obtain ⟨c0, c1, c2, c3⟩ := lies_four K.2.1; obtain ⟨cf0, cf1, cf2, cf3⟩ := lies_ice K.2.1; obtain ⟨d0, d1, d2, d3⟩ := lies_four K.2.2; obtain ⟨df0, df1, df2, df3⟩ := lies_ice K.2.2) | (go_at_call 92; refine (low_any _ _ _ _ _ H.out HEE.out).mono ?_; rw [hlm]; rintro e wn ⟨rfl, hb⟩; (first | have K := k2_first hb | have K := k2_next K hb); obtain ⟨c0, c1, c2, c3⟩ := lies_four K.2.1; obtain ⟨cf0, cf1, cf2, cf3⟩ := lies_ice K.2.1; obtain ⟨d0, d1, d2, d3⟩ := lies_four K.2.2; obtain ⟨df0, df1, df2, df3⟩ := lies_ice K.2.2))
        have KK := k2_drew K
        have HL := KK.2.2
        clear K hb c0 c1 c2 c3 d0 d1 d2 d3 cf0 cf1 cf2 cf3 df0 df1 df2 df3
        refine wp_region_held_drew (S := SZ w p v u n) (by kernel_rfl) (sz_of ⟨KK.1, KK.2.1⟩) (fun hHeld => ?_)
        clear KK
        generalize World.drew _ = w1 at hHeld HL ⊢
        refine take_at (i := 0) (d := 28) (v := .pointer (some ⟨w.heap.size, 0, none⟩)) rfl rfl (by kernel_rfl) (by kernel_rfl) (by kernel_rfl) (fun _ _ _ h => h) (Or.inl ⟨by rfl, ?_⟩) hHeld ?_
        · intro w' hS; go_simp
        try simp only [Act.put, List.setIfInBounds_toArray, List.set_cons_zero, List.set_cons_succ]
        refine take_at (i := 1) (d := 29) (v := .int .i64 p) rfl rfl (by kernel_rfl) (by kernel_rfl) (by kernel_rfl) (fun _ _ _ h => h) (Or.inl ⟨by rfl, ?_⟩) hHeld ?_
        · intro w' hS
          obtain ⟨_, k0, k1, k2, k3⟩ := hS
          go_simp
        try simp only [Act.put, List.setIfInBounds_toArray, List.set_cons_zero, List.set_cons_succ]
        refine take_at (i := 2) (d := 30) (v := .pointer (some ⟨w.heap.size, 2, none⟩)) rfl rfl (by kernel_rfl) (by kernel_rfl) (by kernel_rfl) (fun _ _ _ h => h) (Or.inl ⟨by rfl, ?_⟩) hHeld ?_
        · intro w' hS; go_simp
        try simp only [Act.put, List.setIfInBounds_toArray, List.set_cons_zero, List.set_cons_succ]
        refine take_at (i := 3) (d := 31) (v := .int .i64 u) rfl rfl (by kernel_rfl) (by kernel_rfl) (by kernel_rfl) (fun _ _ _ h => h) (Or.inl ⟨by rfl, ?_⟩) hHeld ?_
        · intro w' hS
          obtain ⟨_, k0, k1, k2, k3⟩ := hS
          go_simp
        try simp only [Act.put, List.setIfInBounds_toArray, List.set_cons_zero, List.set_cons_succ]
        refine take_at (i := 4) (d := 32) (v := .int .i64 m) rfl rfl (by kernel_rfl) (by kernel_rfl) (by kernel_rfl) (fun _ _ _ h => h) (Or.inl ⟨by rfl, ?_⟩) hHeld ?_
        · intro w' hS; go_simp
        try simp only [Act.put, List.setIfInBounds_toArray, List.set_cons_zero, List.set_cons_succ]
        refine take_at (i := 6) (d := 34) (v := .int .i64 (v + n)) rfl rfl (by kernel_rfl) (by kernel_rfl) (by kernel_rfl) (fun _ _ _ h => h) (Or.inl ⟨by rfl, ?_⟩) hHeld ?_
        · intro w' hS; go_simp
        try simp only [Act.put, List.setIfInBounds_toArray, List.set_cons_zero, List.set_cons_succ]
        refine wpAnyH_ready (rs := [5]) (by kernel_rfl) (by simp) ?_
        refine AllReadyH.cons rfl (fun K hK => ?_) AllReadyH.nil
        go_simp
        refine hK.out _ _ hHeld (fun hHeld => ?_)
        clear hK K
        try simp only [Act.put, List.setIfInBounds_toArray, List.set_cons_zero, List.set_cons_succ]
        refine wpAnyH_ready (rs := [7]) (by kernel_rfl) (by simp) ?_
        refine AllReadyH.cons rfl (fun K hK => ?_) AllReadyH.nil
        go_simp
        go_at_call 93; refine (HN.out _).mono ?_; rintro e1 w3 ⟨rfl, hb⟩
        go_simp
        refine hK.out _ _ (sz_next hHeld hb) (fun hHeld => ?_)
        clear hK K
        try simp only [Act.put, List.setIfInBounds_toArray, List.set_cons_zero, List.set_cons_succ]
        replace HL := lies_next HL hb
        clear hb
        obtain ⟨g0, g1, g2, g3⟩ := lies_four HL
        obtain ⟨gf0, gf1, gf2, gf3⟩ := lies_ice HL
        refine wpAnyH_ready (rs := [8]) (by kernel_rfl) (by simp) ?_
        refine AllReadyH.cons rfl (fun K hK => ?_) AllReadyH.nil
        go_simp
        refine hK.out _ _ (sz_set hHeld _ _ _ _) (fun hHeld => ?_)
        clear hK K
        try simp only [Act.put, List.setIfInBounds_toArray, List.set_cons_zero, List.set_cons_succ]
        refine take_at (i := 9) (d := 3) (v := .int .i64 0) rfl rfl (by kernel_rfl) (by kernel_rfl) (by kernel_rfl) (fun _ _ _ h => h) (Or.inl ⟨by rfl, ?_⟩) hHeld ?_
        · intro w' hS; go_simp
        try simp only [Act.put, List.setIfInBounds_toArray, List.set_cons_zero, List.set_cons_succ]
        refine wpAnyH_done (by kernel_rfl) ?_ _
        obtain ⟨d0, d1, d2, d3⟩ := lies_four (lies_set4 (x0 := .int .i64 p) (x1 := .int .i64 z.1) (x2 := .int .i64 z.2.1) (x3 := .int .i64 z.2.2) HL)
        go_wp2
        refine bodyPost_ret (v := .tuple #[.agg (P4 p z.1 z.2.1 z.2.2), .int .i64 0]) (by simp [results, Try.results37, go_sem, d0, d1, d2, d3]) rfl ?_
        exact ⟨rfl, hHeld.1.1⟩
theorem specFraction_any (p v u n : Int) (w : World) :
    Calls Try.prog 39 #[.agg (P4 p v u n)] w fun e w' => e = .returned (.tuple #[.int .i64 (fracN p v u n), .int .i64 (fracD p v u n), .int .i64 (splitC p v u n)]) ∧ Below w.heap.size w w' := by
  cases hx : padB p v u n
  · have hc : splitC p v u n = 1 := by simp [splitC, hx]
    rw [show fracN p v u n = 0 by simp [fracN, hc], show fracD p v u n = 0 by simp [fracD, hc], hc]
    clear hc
    go_enter Try.func39, Try.ntmps39
    go_wp2_with (first | (go_at_call 83; refine (specIsPadic_any _ _ _ _ _).mono ?_; rintro e wn ⟨rfl, hb⟩; (first | have K := k1_first hb | have K := k1_next K hb); obtain ⟨c0, c1, c2, c3⟩ := lies_four K.2))
    refine bodyPost_ret (v := .tuple #[.int .i64 (0), .int .i64 (0), .int .i64 (1)]) (by simp [results, Try.results39, go_sem]) rfl ?_
    exact ⟨rfl, K.1⟩
  · have hk := padB_ok hx
    obtain ⟨hp2, hp97, hn0, hn1, _, _, hu0, _, hu2⟩ := pok_bd hk
    have hv0 := hk.2.1
    have hv1 := hk.2.2.1
    have hwe : IntKind.i64.wrap (v + n) = v + n := IntWalk.i64_in _ (by omega)
    by_cases hneg : v + n < 0
    · have hc : splitC p v u n = 4 := by simp [splitC, hx, hneg]
      rw [show fracN p v u n = 0 by simp [fracN, hc], show fracD p v u n = 0 by simp [fracD, hc], hc]
      clear hc hk
      go_enter Try.func39, Try.ntmps39
      go_wp2_with (first | (go_at_call 83; refine (specIsPadic_any _ _ _ _ _).mono ?_; rintro e wn ⟨rfl, hb⟩; (first | have K := k1_first hb | have K := k1_next K hb); obtain ⟨c0, c1, c2, c3⟩ := lies_four K.2))
      refine bodyPost_ret (v := .tuple #[.int .i64 (0), .int .i64 (0), .int .i64 (4)]) (by simp [results, Try.results39, go_sem]) rfl ?_
      exact ⟨rfl, K.1⟩
    · have hc : splitC p v u n = 0 := by simp [splitC, hx, hneg]
      have H := Lib.hid hk
      have HEE := Lib.hid (show 0 ≤ v + n by omega)
      have HG : Hid (∀ w : World, Calls Try.prog 94 #[.int .i64 (lowN p v u), .int .i64 (lowM p v)] w fun e w' => e = .returned (.int .i64 1) ∧ ∃ n, w' = w.drewN n) := by
        refine Lib.hid fun w => ?_
        by_cases hv : 0 ≤ v
        · rw [show lowN p v u = 0 by simp [lowN, hv], show lowM p v = 1 by simp [lowM, hv]]
          exact (l01Gcd_any 0 1 w (by omega) (by omega) (by omega) (by omega)).mono fun e w' h => ⟨by rw [h.1]; rfl, h.2⟩
        · rw [show lowN p v u = u % pw p (-v) by simp [lowN, hv], show lowM p v = pw p (-v) by simp [lowM, hv]]
          obtain ⟨f1, f2, _, _, _, f6, f7, f8, hn1'⟩ := part_facts hk (by omega) hv
          obtain ⟨g1, _⟩ := frac_coprime hk (show n ≠ 0 by omega) (show 1 ≤ -v by omega) (by omega)
          exact (l01Gcd_any _ _ w (by omega) (by omega) (by omega) (by omega)).mono fun e w' h => ⟨by rw [h.1, g1]; rfl, h.2⟩
      have hl : fracN p v u n = lowN p v u ∧ fracD p v u n = lowM p v ∧ 0 ≤ lowN p v u ∧ lowN p v u ≤ 1000000000 ∧ 1 ≤ lowM p v ∧ lowM p v ≤ 1000000000 := by
        by_cases hv : 0 ≤ v
        · simp [fracN, fracD, lowN, lowM, hc, hv]
        · obtain ⟨f1, f2, _, _, _, f6, f7, f8, hn1'⟩ := part_facts hk (by omega) hv
          simp [fracN, fracD, lowN, lowM, hc, hv, f1, f2, f7, f8]
      obtain ⟨e1, e2, a0, a1, b0, b1⟩ := hl
      rw [e1, e2, hc]
      have LW := fun w => low_any p v u n w H.out HEE.out
      generalize lowN p v u = a at *
      generalize lowM p v = b at *
      replace LW := Lib.hid LW
      have t1 : a.tdiv 1 = a := Int.tdiv_one a
      have t2 : b.tdiv 1 = b := Int.tdiv_one b
      have w1 : IntKind.i64.wrap a = a := IntWalk.i64_in _ (by omega)
      have w2 : IntKind.i64.wrap b = b := IntWalk.i64_in _ (by omega)
      clear hk hc e1 e2 H HEE
      go_enter Try.func39, Try.ntmps39
      go_wp2_with (first | (go_at_call 83; refine (specIsPadic_any _ _ _ _ _).mono ?_; rintro e wn ⟨rfl, hb⟩; (first | have K := k1_first hb | have K := k1_next K hb); obtain ⟨c0, c1, c2, c3⟩ := lies_four K.2) | (go_at_call 92; refine (LW.out _).mono ?_; rintro e wn ⟨rfl, hb⟩; (first | have K := k1_first hb | have K := k1_next K hb); obtain ⟨c0, c1, c2, c3⟩ := lies_four K.2) | (go_at_call 94; refine (HG.out _).mono ?_; rintro e wn ⟨rfl, nd, rfl⟩))
      go_quiet (fail)
      go_wp2
      refine bodyPost_ret (v := .tuple #[.int .i64 (a), .int .i64 (b), .int .i64 (0)]) (by simp [results, Try.results39, go_sem]) rfl ?_
      exact ⟨rfl, by first | exact below_drewN K.1 _ | exact below_drewN (below_drewN K.1 _) _⟩
end Go.Proofs.Ytgckamlibbjgcaa
namespace Go.Proofs.Ytgckamlibbjgcaa
open Go.RowKit
set_option linter.unusedVariables false
/-- a slice of integers that came in, as the shells have it -/
def IsRowOf (k : IntKind) (w : World) (a : Option Addr) (len cap : Nat) (zs : List Int) : Prop :=
  (a = none ∧ len = 0 ∧ cap = 0 ∧ zs = []) ∨
  ∃ x, a = some x ∧ len ≤ cap ∧ cap ≤ maxLen ∧ zs.length = cap ∧ (∀ i, i < zs.length → w.cell? (x.add i) = some (.int k (zs.getD i 0))) ∧ ∀ n ∈ zs, (Lit.int k n).wf = true
theorem u8_bd {q : Int} (h : (Lit.int .u8 q).wf = true) : 0 ≤ q ∧ q ≤ 255 := by
  simp [Lit.wf, IntKind.min, IntKind.max, IntKind.signed, IntKind.bits] at h
  exact ⟨h.1, by omega⟩
theorem codeIn_of {w : World} {a : Option Addr} {len cap : Nat} {zs : List Int} (h : IsRowOf .u8 w a len cap zs) : CodeIn w a len ∧ len ≤ 9223372036854775807 := by
  rcases h with ⟨_, h, _, _⟩ | ⟨x, rfl, h1, h2, h3, h4, h5⟩
  · exact ⟨.inl h, by omega⟩
  · refine ⟨?_, by unfold maxLen at h2; omega⟩
    by_cases h0 : len = 0
    · exact .inl h0
    · obtain ⟨b, off, rfl, hc⟩ := ints_at h4 (by omega)
      refine .inr ⟨b, off, rfl, World.block_lt_of_cell? w _ (hc 0 (by omega)), fun i hi => ⟨_, hc i (by omega), ?_⟩⟩
      have hm : zs.getD i 0 ∈ zs := by
        have hlt : i < zs.length := by omega
        rw [show zs.getD i 0 = zs[i] by simp [List.getD, hlt]]; exact List.getElem_mem _
      exact u8_bd (h5 _ hm)
theorem gcd_dvd_tmod (a b : Int) (h : Int.gcd a b ≠ 0) : a.tmod (Int.gcd a b) = 0 ∧ b.tmod (Int.gcd a b) = 0 :=
  ⟨Int.tmod_eq_zero_of_dvd (Int.gcd_dvd_left ..), Int.tmod_eq_zero_of_dvd (Int.gcd_dvd_right ..)⟩
end Go.Proofs.Ytgckamlibbjgcaa
namespace Go.Proofs.Ytgckamlibbjgcaa
open Go.RowKit
set_option linter.unusedVariables false
set_option linter.unusedSimpArgs false
def LL (l : List (Nat × Array Value)) (w : World) : Prop := ∀ x ∈ l, Lies w x.1 x.2
theorem ll_nil (w : World) : LL [] w := fun x hx => by cases hx
theorem ll_next {l : List (Nat × Array Value)} {w1 w2 : World} (h : LL l w1) (hb : Below w1.heap.size w1 w2) : LL l w2 := fun x hx => lies_next (h x hx) hb
theorem ll_drew {l : List (Nat × Array Value)} {w1 : World} (h : LL l w1) : LL l w1.drew := fun x hx => h x hx
theorem ll_new {l : List (Nat × Array Value)} (w : World) (h : LL l w) (vs : Array Value) (T : TypeId) : LL ((w.heap.size, vs) :: l) (w.alloc (.cells vs T)) := by
  intro x hx
  cases hx with
  | head => exact lies_new w vs T
  | tail _ hx => exact lies_alloc (h x hx) _
/-- the old memory and the variables -/
abbrev LS (w : World) (l : List (Nat × Array Value)) (w1 : World) : Prop := Below w.heap.size w w1 ∧ LL l w1
theorem ls_next {w : World} {l : List (Nat × Array Value)} {w1 w2 : World} (h : LS w l w1) (hb : Below w1.heap.size w1 w2) : LS w l w2 := ⟨h.1.trans (hb.mono h.1.size), ll_next h.2 hb⟩
theorem ls_drew {w : World} {l : List (Nat × Array Value)} {w1 : World} (h : LS w l w1) : LS w l w1.drew := ⟨below_drewN h.1 1, ll_drew h.2⟩
theorem drawWhole_any (o : Option Addr) (len cap : Nat) (w : World) (hl : len ≤ 4096) (hc : CodeIn w o len) :
    Calls Try.prog 35 #[.slice o len cap] w (OnePad w) := by
  have HC := Lib.hid (codeIn_below (B := w.heap.size) hc (show Below w.heap.size w (w.alloc (.cells (P4 0 0 0 0) 34)) from below_a1 w _))
  have HC0 := Lib.hid hc
  clear hc
  go_enter Try.func35, Try.ntmps35
  go_wp2_with fail
  refine (from_any _ _ _ _ hl HC.out).mono ?_
  rintro e w1 ⟨q, rfl, hq, hs1, hb1⟩
  have K := k1_next (k1_new w (P4 0 0 0 0)  34 ) hb1
  have D : DD o len cap q 1 w w1 := ⟨hs1, K.1, by simpa using hq⟩
  clear hs1 hb1 hq
  go_wp2_with fail
  refine (padDraw_any o len cap q _ D.1).mono ?_
  rintro e w2 ⟨p, v, u, n, rfl, _, _, _, _, _, _, _, _, hs2, hg2⟩
  have K2 := k1_grown K hg2 D.2.2
  obtain ⟨c0, c1, c2, c3⟩ := lies_four K2.2
  obtain ⟨cf0, cf1, cf2, cf3⟩ := lies_ice K2.2
  clear hs2 hg2 K D
  go_wp2
  refine bodyPost_ret (v := .agg (P4 p v u n)) (by simp [results, Try.results35, go_sem, c0, c1, c2, c3]) rfl ?_
  exact ⟨_, _, _, _, rfl, below_set4 K2.1 (by omega)⟩
set_option maxRecDepth 100000 in
set_option maxHeartbeats 4000000 in
theorem parts_core (o : Option Addr) (len cap : Nat) (w : World) (hl : len ≤ 4096) (hc : CodeIn w o len) :
    Calls Try.prog 5 #[.slice o len cap] w fun e w' => e = .returned (.bool true) ∧ Below w.heap.size w w' := by
  have HC := Lib.hid hc
  have HB : Below w.heap.size w w := Below.refl _ _
  have L := ll_nil w
  clear hc
  go_enter Try.func5, Try.ntmps5
  go_upto_region 3 with (go_at_call 11; refine (big_no _ _ _ _ hl).mono ?_; rintro e w' ⟨rfl, rfl⟩)
  go_upto_region 4 with (first | (go_at_call 35; refine (drawWhole_any _ _ _ _ hl HC.out).mono ?_; rintro e w1 ⟨p, v, u, n, rfl, hb⟩; replace L := ll_next L hb; replace HB := HB.trans (hb.mono HB.size); replace HC := Lib.hid (codeIn_below (B := 0) HC.out hb)))
  clear hb
  replace L := ll_new w1 L (P4 p v u n) 34
  replace HB := HB.trans ((below_a1 w1 (.cells (P4 p v u n) 34)).mono HB.size)
  replace HC := Lib.hid (codeIn_below (B := 0) HC.out (below_a1 w1 (.cells (P4 p v u n) 34)))
  generalize w1.alloc (.cells (P4 p v u n) 34) = V1 at L HB HC ⊢
  obtain ⟨qx, hqx⟩ : ∃ b, w1.heap.size = b := ⟨_, rfl⟩
  rw [hqx] at L ⊢
  clear hqx
  clear HC
  have A1 := fun w => implWhole_any p v u n w
  have A2 := fun w => specWhole_any p v u n w
  obtain ⟨Z, hZ⟩ : ∃ X0, wholeQ p v u n = X0 := ⟨_, rfl⟩
  obtain ⟨zc, hC⟩ : ∃ X0, splitC p v u n = X0 := ⟨_, rfl⟩
  rw [hZ, hC] at A1 A2
  have HZ := Lib.hid (And.intro hZ hC)
  replace A1 := Lib.hid A1
  replace A2 := Lib.hid A2
  clear hZ hC
  obtain ⟨x0, x1, x2, x3⟩ := lies_four (L _ (.head _))
  go_upto_region 5 with (first | (go_at_call 36; refine (A1.out _).mono ?_; rintro e w2 ⟨rfl, hb⟩; replace L := ll_next L hb; replace HB := HB.trans (hb.mono HB.size)))
  clear x0 x1 x2 x3
  clear hb
  replace L := ll_new w2 L (P4 Z.1 Z.2.1 Z.2.2.1 Z.2.2.2) 34
  replace HB := HB.trans ((below_a1 w2 (.cells (P4 Z.1 Z.2.1 Z.2.2.1 Z.2.2.2) 34)).mono HB.size)
  generalize w2.alloc (.cells (P4 Z.1 Z.2.1 Z.2.2.1 Z.2.2.2) 34) = V2 at L HB ⊢
  obtain ⟨qy, hqy⟩ : ∃ b, w2.heap.size = b := ⟨_, rfl⟩
  rw [hqy] at L ⊢
  clear hqy
  obtain ⟨x0, x1, x2, x3⟩ := lies_four (L _ (.tail _ (.head _)))
  go_upto_region 6 with (first | (go_at_call 37; refine (A2.out _).mono ?_; rintro e w3 ⟨rfl, hb⟩; replace L := ll_next L hb; replace HB := HB.trans (hb.mono HB.size)))
  clear x0 x1 x2 x3
  clear hb
  replace L := ll_new w3 L (P4 Z.1 Z.2.1 Z.2.2.1 Z.2.2.2) 34
  replace HB := HB.trans ((below_a1 w3 (.cells (P4 Z.1 Z.2.1 Z.2.2.1 Z.2.2.2) 34)).mono HB.size)
  generalize w3.alloc (.cells (P4 Z.1 Z.2.1 Z.2.2.1 Z.2.2.2) 34) = V3 at L HB ⊢
  obtain ⟨qt, hqt⟩ : ∃ b, w3.heap.size = b := ⟨_, rfl⟩
  rw [hqt] at L ⊢
  clear hqt
  clear A1 A2
  have A1 := fun w => implFraction_any p v u n w
  have A2 := fun w => specFraction_any p v u n w
  obtain ⟨N0, hN⟩ : ∃ X0, fracN p v u n = X0 := ⟨_, rfl⟩
  obtain ⟨D0, hD⟩ : ∃ X0, fracD p v u n = X0 := ⟨_, rfl⟩
  rw [hN, hD, HZ.out.2] at A1 A2
  have HF := Lib.hid (And.intro hN hD)
  replace A1 := Lib.hid A1
  replace A2 := Lib.hid A2
  clear hN hD
  obtain ⟨x0, x1, x2, x3⟩ := lies_four (L _ (.tail _ (.tail _ (.head _))))
  go_upto_region 7 with (first | (go_at_call 38; refine (A1.out _).mono ?_; rintro e w4 ⟨rfl, hb⟩; replace L := ll_next L hb; replace HB := HB.trans (hb.mono HB.size)))
  clear x0 x1 x2 x3
  clear hb
  obtain ⟨x0, x1, x2, x3⟩ := lies_four (L _ (.tail _ (.tail _ (.head _))))
  go_upto_region 8 with (first | (go_at_call 39; refine (A2.out _).mono ?_; rintro e w5 ⟨rfl, hb⟩; replace L := ll_next L hb; replace HB := HB.trans (hb.mono HB.size)))
  clear x0 x1 x2 x3
  clear hb
  clear A1 A2
  obtain ⟨y0, y1, y2, y3⟩ := lies_four (L _ (.tail _ (.head _)))
  obtain ⟨t0, t1, t2, t3⟩ := lies_four (L _ (.head _))
  go_upto_region 10 with fail
  clear y0 y1 y2 y3
  clear t0 t1 t2 t3
  by_cases hz : zc = 0
  · obtain ⟨hk, he⟩ := split_zero (HZ.out.2.trans hz)
    have hz' : (zc != 0) = false := by simp [hz]
    have eZ := HZ.out.1
    obtain ⟨eN, eD⟩ := HF.out
    have hz0 := HZ.out.2.trans hz
    unfold wholeQ at eZ
    unfold fracN at eN
    unfold fracD at eD
    rw [if_pos hz0] at eZ eN eD
    clear HZ HF hz hz0
    by_cases hv : 0 ≤ v
    · rw [if_pos hv] at eZ eN eD
      subst eZ eN eD
      dsimp only at L
      have hv' : ¬ v < 0 := by omega
      have HR := Lib.hid fun w => implIsRational_any 0 1 w
      rw [show isRatB 0 1 = true from by decide] at HR
      clear hk he
      obtain ⟨y0, y1, y2, y3⟩ := lies_four (L _ (.tail _ (.head _)))
      go_upto_region 14 with (first | (go_at_call 40; refine (HR.out _).mono ?_; rintro e w36 ⟨rfl, hb⟩; replace L := ll_next L hb; replace HB := HB.trans (hb.mono HB.size)))
      clear y0 y1 y2 y3
      clear hb
      obtain ⟨x0, x1, x2, x3⟩ := lies_four (L _ (.tail _ (.tail _ (.head _))))
      go_wp2_with fail
      go_ret
      exact ⟨rfl, HB⟩
    · rw [if_neg hv] at eZ eN eD
      obtain ⟨c, s, m, hT, c0, r1, rlt, hn, hrat, hpc, hpq, hsc, hsq⟩ := parts_back hk he hv
      rw [hT] at eZ
      subst eZ
      dsimp only at L
      have HR := fun w => implIsRational_any (u % pw p (-v)) (pw p (-v)) w
      have HP := fun w => implPof_any (u % pw p (-v)) (pw p (-v)) p n w
      have HA := fun w => implAdd_any p v (u % pw p (-v)) n p c s m w
      simp only [hrat] at HR
      simp only [hpc, hpq] at HP
      simp only [hsc, hsq] at HA
      rw [eN, eD] at HR HP rlt
      rw [eN] at r1
      rw [eN] at HA
      replace HR := Lib.hid HR
      replace HP := Lib.hid HP
      replace HA := Lib.hid HA
      have h1 : ¬ N0 < 0 := by omega
      have h2 : ¬ D0 ≤ N0 := by omega
      have h3 : ¬ c < 0 := by omega
      have h4 : (N0 == 0) = false := by simp; omega
      have h5 : (n == 0) = false := by simpa using hn
      clear hk he hT hrat hpc hpq hsc hsq eN eD hv r1 rlt c0 hn
      obtain ⟨y0, y1, y2, y3⟩ := lies_four (L _ (.tail _ (.head _)))
      go_upto_region 14 with (first | (go_at_call 40; refine (HR.out _).mono ?_; rintro e w36 ⟨rfl, hb⟩; replace L := ll_next L hb; replace HB := HB.trans (hb.mono HB.size)))
      clear y0 y1 y2 y3
      clear hb
      obtain ⟨x0, x1, x2, x3⟩ := lies_four (L _ (.tail _ (.tail _ (.head _))))
      go_upto_region 16 with fail
      clear x0 x1 x2 x3
      obtain ⟨x0, x1, x2, x3⟩ := lies_four (L _ (.tail _ (.tail _ (.head _))))
      go_upto_region 17 with (first | (go_at_call 41; refine (HP.out _).mono ?_; rintro e w37 ⟨rfl, hb⟩; replace L := ll_next L hb; replace HB := HB.trans (hb.mono HB.size)))
      clear x0 x1 x2 x3
      clear hb
      replace L := ll_new w37 L (P4 p v N0 n) 34
      replace HB := HB.trans ((below_a1 w37 (.cells (P4 p v N0 n) 34)).mono HB.size)
      generalize w37.alloc (.cells (P4 p v N0 n) 34) = V37 at L HB ⊢
      obtain ⟨qf, hqf⟩ : ∃ b, w37.heap.size = b := ⟨_, rfl⟩
      rw [hqf] at L ⊢
      clear hqf
      obtain ⟨f0, f1, f2, f3⟩ := lies_four (L _ (.head _))
      obtain ⟨y0, y1, y2, y3⟩ := lies_four (L _ (.tail _ (.tail _ (.head _))))
      go_upto_region 18 with (first | (go_at_call 42; refine (HA.out _).mono ?_; rintro e w38 ⟨rfl, hb⟩; replace L := ll_next L hb; replace HB := HB.trans (hb.mono HB.size)))
      clear f0 f1 f2 f3
      clear y0 y1 y2 y3
      clear hb
      replace L := ll_new w38 L (P4 p v u n) 34
      replace HB := HB.trans ((below_a1 w38 (.cells (P4 p v u n) 34)).mono HB.size)
      generalize w38.alloc (.cells (P4 p v u n) 34) = V38 at L HB ⊢
      obtain ⟨qg, hqg⟩ : ∃ b, w38.heap.size = b := ⟨_, rfl⟩
      rw [hqg] at L ⊢
      clear hqg
      obtain ⟨g0, g1, g2, g3⟩ := lies_four (L _ (.head _))
      obtain ⟨x0, x1, x2, x3⟩ := lies_four (L _ (.tail _ (.tail _ (.tail _ (.tail _ (.head _))))))
      go_wp2_with fail
      go_ret
      exact ⟨rfl, HB⟩
  · have hz' : (zc != 0) = true := by simp [hz]
    clear hz
    go_wp2_with fail
    go_ret
    exact ⟨rfl, HB⟩
set_option maxRecDepth 100000 in
theorem parts_walk (a : Option Addr) (len cap : Nat) (zs : List Int) (w : World) (h : IsRowOf .u8 w a len cap zs) :
    Calls Try.prog 5 #[.slice a len cap] w fun e w' => e = .returned (.bool true) ∧ Below w.heap.size w w' := by
  obtain ⟨hc, hm⟩ := codeIn_of h
  by_cases hl : len ≤ 4096
  · exact parts_core a len cap w hl hc
  · clear hc h
    go_enter Try.func5, Try.ntmps5
    go_wp2_with (go_at_call 11; refine (big_yes _ _ _ _ (by omega) (by omega)).mono ?_; rintro e w' ⟨rfl, rfl⟩)
    go_ret
    exact ⟨rfl, Below.refl _ _⟩
end Go.Proofs.Ytgckamlibbjgcaa
