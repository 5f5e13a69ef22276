/- Walks of exact laws of chapter 10: CountWithDegrees; true at every input. (joined of several texts) -/
import Derived.Test.YtjmecidbnoimnaaPolyShift
import Derived.Test.YtjmecidbnoimnaaPolySpec
import Derived.Test.YtjmecidbnoimnaaGcd
import Derived.StillTailTactics
import Derived.Deep.DeepCutAuto
import Derived.Test.YtjmecidbnoimnaaModLaws
import Derived.Test.YtjmecidbnoimnaaVal
import Derived.Test.YtjmecidbnoimnaaRingMath
import Derived.Lib.SliceRun
import Derived.OwnWalk
import Derived.Laws.OwnMore
import Derived.Test.YtjmecidbnoimnaaBezPos
import Derived.OneCell
import Derived.Lib.RabinKarpLaws
import Derived.RangeFuncNested
import Derived.RangeFuncBound
import Derived.RangeFuncCalls
import Derived.RangeFuncLeaves
import Derived.OrdersIn
import Derived.TacticsIn
import Derived.KernelRfl
import Derived.RangeFuncBox
import Derived.WalkKit
import Derived.OwnWalkIn
import Derived.TacticsInMore
import Derived.LoopNIn
import Derived.LoopIn
import Derived.Shelf.Abstract
import Derived.Test.YtjmecidbnoimnaaRow
import Derived.Deep.RegionHeld3
import Derived.Test.YtjmecidbnoimnaaCntSpec
namespace Go.Proofs.Ytjmecidbnoimnaa
set_option linter.unusedVariables false
set_option maxRecDepth 20000
def valueC (f : List Int) (x : Int) : Int := if polyB f then (if inB x (-1000) 1000 then (if inB (evalL f x) (-1000000000000) 1000000000000 then 0 else 3) else 2) else 1
def valueQ (f : List Int) (x : Int) : Int := if valueC f x = 0 then evalL f x else 0
/-- near places give small values -/
theorem evalD_near {f : List Int} {x : Int} (h : ∀ i, -1000000 ≤ f.getD i 0 ∧ f.getD i 0 ≤ 1000000) (h0 : -3 ≤ x) (h1 : x ≤ 3) : ∀ j, -(1000000 * 4 ^ j) ≤ evalD f x j ∧ evalD f x j ≤ 1000000 * 4 ^ j
  | 0 => by simp [evalD]
  | j + 1 => by
    obtain ⟨a, b⟩ := evalD_near h h0 h1 j
    obtain ⟨c, d⟩ := h (f.length - 1 - j)
    have hp : (1 : Int) ≤ 4 ^ j := by have := Int.pow_pos (n := (4 : Int)) (m := j) (by omega); omega
    unfold evalD
    rw [Int.pow_succ]
    generalize evalD f x j = e at *
    generalize (4 : Int) ^ j = q at *
    generalize f.getD (f.length - 1 - j) 0 = y at *
    rcases (by omega : x = -3 ∨ x = -2 ∨ x = -1 ∨ x = 0 ∨ x = 1 ∨ x = 2 ∨ x = 3) with rfl | rfl | rfl | rfl | rfl | rfl | rfl <;> omega
theorem pow4_le : ∀ {j : Nat}, j ≤ 9 → (4 : Int) ^ j ≤ 262144 := by decide
theorem value_near {f : List Int} {x : Int} (h : polyB f = true) (h0 : -3 ≤ x) (h1 : x ≤ 3) : valueC f x = 0 ∧ valueQ f x = pval f x := by
  obtain ⟨hl, hb, _⟩ := polyB_of h
  obtain ⟨a, b⟩ := evalD_near hb h0 h1 f.length
  have := pow4_le hl
  have e1 : inB x (-1000) 1000 = true := by simp [inB]; omega
  have e2 : inB (evalL f x) (-1000000000000) 1000000000000 = true := by unfold evalL; simp [inB]; omega
  have hc : valueC f x = 0 := by simp [valueC, h, e1, e2]
  exact ⟨hc, by unfold valueQ; rw [if_pos hc, evalL_pval]⟩
/-- what has become too great stays so -/
theorem evalD_far {f : List Int} {x : Int} (h : ∀ i, -1000000 ≤ f.getD i 0 ∧ f.getD i 0 ≤ 1000000) {j : Nat} (hx : x < -1 ∨ 1 < x) (hj : evalD f x j < -4000000000000 ∨ 4000000000000 < evalD f x j) :
    ∀ k, evalD f x (j + k) < -4000000000000 ∨ 4000000000000 < evalD f x (j + k)
  | 0 => hj
  | k + 1 => by
    have ih := evalD_far h hx hj k
    obtain ⟨c, d⟩ := h (f.length - 1 - (j + k))
    show evalD f x (j + k) * x + f.getD (f.length - 1 - (j + k)) 0 < _ ∨ _ < evalD f x (j + k) * x + f.getD (f.length - 1 - (j + k)) 0
    generalize evalD f x (j + k) = e at *
    generalize f.getD (f.length - 1 - (j + k)) 0 = y at *
    rcases ih with ih | ih <;> rcases hx with hx | hx
    · have := Int.mul_le_mul_of_nonpos_left (show e ≤ 0 by omega) (show x ≤ -2 by omega); omega
    · have := Int.mul_le_mul_of_nonpos_left (show e ≤ 0 by omega) (show 2 ≤ x by omega); omega
    · have := Int.mul_le_mul_of_nonneg_left (show x ≤ -2 by omega) (show 0 ≤ e by omega); omega
    · have := Int.mul_le_mul_of_nonneg_left (show 2 ≤ x by omega) (show 0 ≤ e by omega); omega
theorem evalD_flat {f : List Int} {x : Int} (h : ∀ i, -1000000 ≤ f.getD i 0 ∧ f.getD i 0 ≤ 1000000) (h0 : -1 ≤ x) (h1 : x ≤ 1) : ∀ j : Nat, -(1000000 * (j : Int)) ≤ evalD f x j ∧ evalD f x j ≤ 1000000 * (j : Int)
  | 0 => by simp [evalD]
  | j + 1 => by
    obtain ⟨a, b⟩ := evalD_flat h h0 h1 j
    obtain ⟨c, d⟩ := h (f.length - 1 - j)
    unfold evalD
    generalize evalD f x j = e at *
    generalize f.getD (f.length - 1 - j) 0 = y at *
    rcases (by omega : x = -1 ∨ x = 0 ∨ x = 1) with rfl | rfl | rfl <;> omega
/-- the early end of an evaluation -/
theorem evalD_stop {f : List Int} {x : Int} (h : polyB f = true) {j : Nat} (hj : j ≤ f.length) (hf : inB (evalD f x j) (-4000000000000) 4000000000000 = false) : inB (evalL f x) (-1000000000000) 1000000000000 = false := by
  obtain ⟨hl, hb, _⟩ := polyB_of h
  have hf' : evalD f x j < -4000000000000 ∨ 4000000000000 < evalD f x j := by
    simp only [inB, Bool.and_eq_false_iff, decide_eq_false_iff_not] at hf; omega
  by_cases hx : -1 ≤ x ∧ x ≤ 1
  · have := evalD_flat hb hx.1 hx.2 j; omega
  · have := evalD_far hb (by omega) hf' (f.length - j)
    rw [show j + (f.length - j) = f.length by omega] at this
    exact inB_f (by unfold evalL; omega)
/-- a list turned round -/
def revL (f : List Int) : List Int := tabL f.length fun i => f.getD (f.length - 1 - i) 0
theorem revL_length (f : List Int) : (revL f).length = f.length := tabL_length _ _
theorem revL_lastB {f : List Int} (h : f.getD 0 0 ≠ 0) : lastB (revL f) = true := by
  unfold lastB
  rw [revL_length]
  by_cases h0 : f.length = 0
  · simp [h0]
  · rw [revL, tabL_getD (by omega), show f.length - 1 - (f.length - 1) = 0 by omega, beq_eq_false_iff_ne.2 h]; simp
theorem revL_revL (f : List Int) : revL (revL f) = f := by
  refine ext_getD (by rw [revL_length, revL_length]) fun i hi => ?_
  rw [revL_length, revL_length] at hi
  rw [revL, tabL_getD (by rw [revL_length]; exact hi), revL_length, revL, tabL_getD (by omega)]
  congr 1; omega
theorem polyB_mk {l : List Int} (h1 : l.length ≤ 9) (h2 : ∀ i, i < l.length → -1000000 ≤ l.getD i 0 ∧ l.getD i 0 ≤ 1000000) (h3 : lastB l = true) : polyB l = true := by
  simp only [polyB, h3, Bool.and_true, Bool.and_eq_true, decide_eq_true_eq, List.all_eq_true]
  refine ⟨fun x hx => ?_, h1⟩
  obtain ⟨i, hi, rfl⟩ := List.getElem_of_mem hx
  have := h2 i hi
  simp only [List.getD, List.getElem?_eq_getElem hi, Option.getD_some] at this
  simpa [cofB, inB] using this
theorem rev_back {f : List Int} (h : polyB f = true) (h0 : f.getD 0 0 ≠ 0) : resC (revL f) = 0 ∧ resL (revL f) = revL f ∧ resC (revL (resL (revL f))) = 0 ∧ resL (revL (resL (revL f))) = f := by
  obtain ⟨hl, hb, h3⟩ := polyB_of h
  have ht : trimL (revL f) = revL f := trimL_self (revL_lastB h0)
  have hp : polyB (revL f) = true := polyB_mk (by rw [revL_length]; exact hl) (fun i hi => by rw [revL_length] at hi; rw [revL, tabL_getD hi]; exact hb _) (revL_lastB h0)
  have hlf : lastB f = true := by simp only [polyB, Bool.and_eq_true] at h; exact h.2.2
  have e : resL (revL f) = revL f := by simp [resL, ht, hp]
  refine ⟨by simp [resC, ht, hp], e, ?_, ?_⟩
  · rw [e, revL_revL]; simp [resC, trimL_self hlf, h]
  · rw [e, revL_revL]; simp [resL, trimL_self hlf, h]
theorem poly_last {l : List Int} (h : polyB l = true) : lastB l = true := by simp only [polyB, Bool.and_eq_true] at h; exact h.2.2
theorem res_poly {l : List Int} (h : resC l = 0) : polyB (resL l) = true ∧ resL l = trimL l := by
  unfold resC at h
  split at h
  · rename_i hp; simp [resL, hp]
  · omega
/-- what the law asks of a shifted polynomial -/
theorem shift_law {f : List Int} {a : Int} (hf : polyB f = true) (h : resC (shiftL f a) = 0) :
    resL (shiftL f a) = shiftL f a ∧ polyB (shiftL f a) = true ∧ (shiftL f a).length = f.length ∧ resC (shiftL (shiftL f a) (-a)) = 0 ∧ resL (shiftL (shiftL f a) (-a)) = f := by
  have hl := poly_last hf
  obtain ⟨h1, h2⟩ := res_poly h
  have ht : trimL (shiftL f a) = shiftL f a := trimL_self (shiftL_lastB a hl)
  rw [h2, ht] at h1
  refine ⟨h2.trans ht, h1, shiftL_length f a, ?_, ?_⟩
  · rw [shift_back a hl]; simp [resC, trimL_self hl, hf]
  · rw [shift_back a hl]; simp [resL, trimL_self hl, hf]
/-- what the law asks of values -/
theorem values_law {f g : List Int} {x : Int} (hf : polyB f = true) (hg : polyB g = true) (hp : resC (mulL f g) = 0) (hs : resC (addL f g 1) = 0) (h0 : -3 ≤ x) (h1 : x ≤ 3) :
    valueC f x = 0 ∧ valueC g x = 0 ∧ valueC (resL (mulL f g)) x = 0 ∧ valueC (resL (addL f g 1)) x = 0 ∧
    valueQ (resL (mulL f g)) x = valueQ f x * valueQ g x ∧ valueQ (resL (addL f g 1)) x = valueQ f x + valueQ g x := by
  obtain ⟨p1, p2⟩ := res_poly hp
  obtain ⟨s1, s2⟩ := res_poly hs
  obtain ⟨a1, a2⟩ := value_near hf h0 h1
  obtain ⟨b1, b2⟩ := value_near hg h0 h1
  obtain ⟨c1, c2⟩ := value_near p1 h0 h1
  obtain ⟨d1, d2⟩ := value_near s1 h0 h1
  refine ⟨a1, b1, c1, d1, ?_, ?_⟩
  · rw [c2, a2, b2, p2, pval_trim, pval_mul]
  · rw [d2, a2, b2, s2, pval_trim, pval_add, Int.one_mul]
/-- the content divides all coefficients -/
theorem cont_law {f : List Int} {i : Nat} (hi : i < f.length) : (f.getD i 0) % contL f = 0 := Int.emod_eq_zero_of_dvd (contN_div f f.length i hi)
end Go.Proofs.Ytjmecidbnoimnaa
namespace Go.Proofs.Ytjmecidbnoimnaa
open Go.RowKit
set_option linter.unusedVariables false
set_option maxRecDepth 20000
set_option linter.unusedSimpArgs false
theorem inB_cases (n lo hi : Int) : inB n lo hi = true ∧ lo ≤ n ∧ n ≤ hi ∨ inB n lo hi = false ∧ (n < lo ∨ hi < n) := by
  by_cases h1 : lo ≤ n
  · by_cases h2 : n ≤ hi
    · exact .inl ⟨inB_t h1 h2, h1, h2⟩
    · exact .inr ⟨inB_f (.inr (by omega)), .inr (by omega)⟩
  · exact .inr ⟨inB_f (.inl (by omega)), .inl (by omega)⟩
def contC (l : List Int) : Int := if polyB l then 0 else 1
def contQ (l : List Int) : Int := if polyB l then contL l else 0
theorem contN_bd {l : List Int} (h : ∀ i, -1000000 ≤ l.getD i 0 ∧ l.getD i 0 ≤ 1000000) : ∀ k, 0 ≤ contN l k ∧ contN l k ≤ 1000000
  | 0 => by simp [contN]
  | k + 1 => by
    obtain ⟨a, b⟩ := contN_bd h k
    obtain ⟨c, d⟩ := h k
    unfold contN
    refine ⟨by omega, ?_⟩
    by_cases h0 : contN l k = 0
    · rw [h0, Int.gcd_zero_left]; omega
    · have := Int.gcd_le_natAbs_left (l.getD k 0) h0
      have := Int.ofNat_le.2 this
      omega
end Go.Proofs.Ytjmecidbnoimnaa
namespace Go.Proofs.Ytjmecidbnoimnaa
open Go.RowKit
set_option linter.unusedVariables false
set_option maxRecDepth 20000
set_option linter.unusedSimpArgs false
theorem intRow_lower {b b' : Nat} {w : World} {v : Value} {l : List Int} (h : IntRow b' w v l) (hle : b ≤ b') : IntRow b w v l :=
  ⟨h.1, h.2.imp id fun ⟨g, cap, cur, e, hb, rest⟩ => ⟨g, cap, cur, e, Nat.le_trans hle hb, rest⟩⟩
theorem tabL_succ (k : Nat) (f : Nat → Int) : tabL (k + 1) f = tabL k f ++ [f k] := by simp [tabL, List.range_succ]
theorem tabL_ext {n : Nat} {f g : Nat → Int} (h : ∀ i, i < n → f i = g i) : tabL n f = tabL n g :=
  ext_getD (by rw [tabL_length, tabL_length]) fun i hi => by rw [tabL_length] at hi; rw [tabL_getD hi, tabL_getD hi, h i hi]
set_option maxHeartbeats 1000000 in
theorem l06Der_any {o : Option Addr} {n c : Nat} {l : List Int} {w : World} (h : Seen w o n c l) (hp : polyB l = true) :
    Calls Try.prog 143 #[.slice o n c] w (OwnPost (derL l) w) := by
  obtain ⟨hl, hn, hno, hnc, g, h1, h2⟩ := h
  obtain ⟨i0, hi, hz0, hz1, hz2⟩ := info_parts Try.infoInt64
  have HI := Lib.hid hi
  have HZ0 := Lib.hid hz0
  have HZ1 := Lib.hid hz1
  have HZ2 := Lib.hid hz2
  have HO := Lib.hid fun h => (h1 h).1
  have HG := Lib.hid fun h => (h1 h).2
  have HL := Lib.hid hl
  have HC := Lib.hid h2
  have hl9 : n ≤ 9 := by have := (polyB_of hp).1; omega
  have hB := Lib.hid (polyB_of hp).2.1
  clear hi hz0 hz1 hz2 h1 h2 hl hno hnc hp
  go_enter Try.func143, Try.ntmps143
  go_wp2
  go_loopw [3, 4] (fun v d wr => ∃ (k x : Nat), d = .int .i64 (x : Int) ∧ x = k + 1 ∧ k ≤ n - 1 ∧ IntRow w.heap.size wr v (tabL k fun i => ((i : Int) + 1) * l.getD (i + 1) 0) ∧ Below w.heap.size w wr) (fun _ d _ => n + 1 - (intOf d).toNat)
  case atStart => exact ⟨0, 1, rfl, rfl, Nat.zero_le _, intRow_made _, (Below.refl _ _).alloc (Nat.le_refl _) _⟩
  case round =>
    obtain ⟨k, x, rfl, hx, hk, hrow, hb⟩ := hrel
    have bl : (tabL k fun i => ((i : Int) + 1) * l.getD (i + 1) 0).length ≤ 1000000 := by rw [tabL_length]; omega
    have bs := hb.size
    have HW := Lib.hid hrow
    have HB := Lib.hid hb
    clear hrow hb
    by_cases hlt : x < n
    · have hog := HO.out (by omega)
      subst hog
      have a2 := HC.out x hlt
      rw [← HB.out.cell (p := ⟨g, x, none⟩) (HG.out (by omega))] at a2
      obtain ⟨z0, z1⟩ := hB.out x
      have HS := Lib.hid (show (tabL (k + 1) fun i => ((i : Int) + 1) * l.getD (i + 1) 0) = (tabL k fun i => ((i : Int) + 1) * l.getD (i + 1) 0) ++ [(x : Int) * l.getD x 0] by
        rw [tabL_succ, hx, show ((k + 1 : Nat) : Int) = (k : Int) + 1 by push_cast; rfl])
      generalize l.getD x 0 = z at *
      generalize (tabL k fun i => ((i : Int) + 1) * l.getD (i + 1) 0) = acc at *
      have m1 : -10000000 ≤ (x : Int) * z ∧ (x : Int) * z ≤ 10000000 := by
        have hk8 : x ≤ 9 := by omega
        clear hx
        rcases (by omega : x = 0 ∨ x = 1 ∨ x = 2 ∨ x = 3 ∨ x = 4 ∨ x = 5 ∨ x = 6 ∨ x = 7 ∨ x = 8 ∨ x = 9) with rfl | rfl | rfl | rfl | rfl | rfl | rfl | rfl | rfl | rfl <;> omega
      have hw1 : IntKind.i64.wrap ((x : Int) * z) = (x : Int) * z := IntWalk.i64_in _ (by omega)
      have HX := Lib.hid hx
      clear m1 hx
      go_wp2_with (at_builtin; refine wpList_append_own _ rfl (.tmp 12) (.tmp 19) 27 rfl w.heap.size 2 i0 (.int .i64 0) 1 8 Try.underlying27 HI.out HZ0.out HZ1.out HZ2.out rfl (by decide) _ _ _ rfl (HW.out.alloc _) ⟨wr.heap.size, 0, none⟩ 1 1 [.int .i64 ((x : Int) * z)] rfl rfl ?c1 ?c2 ?c3 ?c4 ?c5 ?_)
      try (case c1 => first | exact news_one _ _ _ | simp [Addr.add])
      try (case c2 => first | exact one_one _ | rfl)
      case c3 => unfold maxLen; omega
      case c4 => omega
      case c5 => first | omega | (simp; omega)
      intro v' w1 hown hgrow _
      have HO2 := Lib.hid (intRow_snoc hown)
      have HG2 := Lib.hid (below_appendI HB.out HW.out hgrow)
      clear hown hgrow
      go_wp2
      go_roundw
      case rel => exact ⟨k + 1, x + 1, by first | rfl | go_num, by have := HX.out; omega, by have := HX.out; omega, by rw [HS.out]; exact HO2.out, HG2.out⟩
      case measure => simp [intOf]; omega
    · have hkn : (tabL k fun i => ((i : Int) + 1) * l.getD (i + 1) 0) = derL l := by unfold derL; rw [← HL.out, show k = n - 1 by omega]
      have HK := Lib.hid hkn
      clear hkn
      go_wp2
      go_ret
      rw [← HK.out]
      exact ⟨_, rfl, HW.out, HB.out⟩
end Go.Proofs.Ytjmecidbnoimnaa
namespace Go.Proofs.Ytjmecidbnoimnaa
open Go.RowKit
set_option linter.unusedVariables false
set_option linter.unusedSimpArgs false
theorem int_stored {b g n c : Nat} {w : World} {acc : List Int} (h : IntRow b w (.slice (some ⟨g, 0, none⟩) n c) acc) (hn : acc.length = n) (k : Nat) (x : Int) :
    IntRow b (w.setCell ⟨g, k, none⟩ (.int .i64 x)) (.slice (some ⟨g, 0, none⟩) n c) (acc.set k x) := by
  subst hn
  have h2 := (World.ownsRow.stored h k (.int .i64 x)).1
  unfold IntRow
  rw [List.length_set, List.map_set]
  exact h2
theorem int_at {b g n c : Nat} {w : World} {acc : List Int} (h : IntRow b w (.slice (some ⟨g, 0, none⟩) n c) acc) (hn : acc.length = n) {k : Nat} (hk : k < n) : w.cell? ⟨g, k, none⟩ = some (.int .i64 (acc.getD k 0)) := by
  subst hn
  have h2 := World.ownsRow.cellAt h k (by omega)
  rw [h2]; simp [List.getD, hk]
theorem int_frozen {b g n c : Nat} {w : World} {acc : List Int} (h : IntRow b w (.slice (some ⟨g, 0, none⟩) n c) acc) (hn : acc.length = n) (k : Nat) : w.frozen? ⟨g, k, none⟩ = false := by
  subst hn
  exact World.ownsRow.frozenAt h k
theorem tab_set {n k : Nat} {f : Nat → Int} (x : Int) (hk : k < n) : (tabL n f).set k x = tabL n fun i => if i = k then x else f i := by
  refine ext_getD (by rw [List.length_set, tabL_length, tabL_length]) fun i hi => ?_
  rw [List.length_set, tabL_length] at hi
  rw [tabL_getD hi]
  by_cases e : i = k
  · subst e; rw [if_pos rfl]; simp [List.getD, tabL_length, hi]
  · rw [if_neg e, ← tabL_getD (f := f) hi]; simp [List.getD, List.getElem?_set_ne (Ne.symm e)]
theorem tab_zero (n : Nat) : List.replicate n (0 : Int) = tabL n fun _ => 0 := by
  refine ext_getD (by rw [List.length_replicate, tabL_length]) fun i hi => ?_
  rw [List.length_replicate] at hi
  rw [tabL_getD hi]; simp [List.getD, hi]
theorem int_made {w w2 : World} {N : Nat} (h : w2.ownsRow w.heap.size 2 1 (.slice (some ⟨w.heap.size, 0, none⟩) N N) N (madeCells (Value.int .i64 0).cells (N * 1)).toList) :
    IntRow w.heap.size w2 (.slice (some ⟨w.heap.size, 0, none⟩) N N) (tabL N fun _ => 0) := by
  rw [← tab_zero]
  unfold IntRow
  rw [List.length_replicate, List.map_replicate]
  have e : (madeCells (Value.int .i64 0).cells (N * 1)).toList = List.replicate N (Value.int .i64 0) := by
    rw [Nat.mul_one]; exact toList_madeCells_one _ _
  rw [← e]; exact h
theorem add_step {f g : List Int} {kk : Int} {N k : Nat} {y : Int} (hk : k < N) (hy : f.getD k 0 + kk * g.getD k 0 = y) :
    (tabL N fun i => if i < k then f.getD i 0 + kk * g.getD i 0 else 0).set k y = tabL N fun i => if i < k + 1 then f.getD i 0 + kk * g.getD i 0 else 0 := by
  rw [tab_set y hk]
  refine tabL_ext fun i hi => ?_
  by_cases e : i = k
  · subst e; rw [if_pos rfl, if_pos (by omega), hy]
  · rw [if_neg e]
    by_cases h2 : i < k
    · rw [if_pos h2, if_pos (by omega)]
    · rw [if_neg h2, if_neg (by omega)]
set_option maxRecDepth 20000
set_option maxHeartbeats 2000000 in
theorem l06Add_any (kk : Int) {o o' : Option Addr} {n n' c c' : Nat} {f g : List Int} {w : World} (h : Seen w o n c f) (h' : Seen w o' n' c' g)
    (bf : ∀ i, -1000000000000000 ≤ f.getD i 0 ∧ f.getD i 0 ≤ 1000000000000000) (bg : ∀ i, -1000000000000000 ≤ kk * g.getD i 0 ∧ kk * g.getD i 0 ≤ 1000000000000000) :
    Calls Try.prog 145 #[.slice o n c, .slice o' n' c', .int .i64 kk] w (OwnPost (trimL (addL f g kk)) w) := by
  obtain ⟨hl, hn, hno, hnc, a, h1, h2⟩ := h
  obtain ⟨hl', hn', hno', hnc', a', h1', h2'⟩ := h'
  obtain ⟨i0, hi, hz0, hz1, hz2⟩ := info_parts Try.infoInt64
  have HI := Lib.hid hi
  have HZ0 := Lib.hid hz0
  have HZ1 := Lib.hid hz1
  have HZ2 := Lib.hid hz2
  have HF := Lib.hid h1
  have HC := Lib.hid h2
  have HF' := Lib.hid h1'
  have HC' := Lib.hid h2'
  have HL := Lib.hid (And.intro hl hl')
  have BF := Lib.hid bf
  have BG := Lib.hid bg
  obtain ⟨N, hN⟩ : ∃ N, max n n' = N := ⟨_, rfl⟩
  have hNb : N ≤ 1100000 := by omega
  have hmax : max (n : Int) (n' : Int) = (N : Int) := by omega
  have HNm := Lib.hid hN
  clear hi hz0 hz1 hz2 h1 h2 hl hno hnc h1' h2' hl' hno' hnc' bf bg
  go_enter Try.func145, Try.ntmps145
  go_upto_region 1 with fail
  go_cut [7] (fun s7 wx => s7 = .slice (some ⟨w.heap.size, 0, none⟩) N N ∧ IntRow w.heap.size wx (.slice (some ⟨w.heap.size, 0, none⟩) N N) (tabL N fun _ => 0) ∧ Below w.heap.size w wx)
  case first =>
    by_cases hle : n' ≤ n
    · have e : n = N := by omega
      subst e
      go_wp2_with (at_make; refine wpList_make_full _ rfl (.tmp 13) (.tmp 13) 27 rfl w.heap.size 2 i0 (.int .i64 0) 1 Try.underlying27 HI.out HZ0.out HZ1.out .i64 .i64 _ _ n rfl rfl rfl rfl (by rw [HZ2.out]; omega) (by unfold maxLen; omega) (Nat.le_refl _) ?_; intro w2 hown hgrow)
      have HB2 := (Below.refl w.heap.size w).grown hgrow (Nat.le_refl _) (fun k h => by cases h)
      have HR := Lib.hid (int_made hown)
      clear hown hgrow
      go_wp2
      go_meet
      case rel => exact ⟨rfl, HR.out, HB2⟩
    · have e : n' = N := by omega
      subst e
      go_wp2_with (at_make; refine wpList_make_full _ rfl (.tmp 13) (.tmp 13) 27 rfl w.heap.size 2 i0 (.int .i64 0) 1 Try.underlying27 HI.out HZ0.out HZ1.out .i64 .i64 _ _ n' rfl rfl rfl rfl (by rw [HZ2.out]; omega) (by unfold maxLen; omega) (Nat.le_refl _) ?_; intro w2 hown hgrow)
      have HB2 := (Below.refl w.heap.size w).grown hgrow (Nat.le_refl _) (fun k h => by cases h)
      have HR := Lib.hid (int_made hown)
      clear hown hgrow
      go_wp2
      go_meet
      case rel => exact ⟨rfl, HR.out, HB2⟩
  case rest =>
  obtain ⟨rfl, hrow, hb⟩ := hcut
  have HR0 := Lib.hid hrow
  have HB0 := Lib.hid hb
  clear hrow hb hmax hN
  go_wp2
  go_loopw [8] (fun i wr => ∃ k : Nat, k ≤ N ∧ i = .int .i64 k ∧ IntRow w.heap.size wr (.slice (some ⟨w.heap.size, 0, none⟩) N N) (tabL N fun i => if i < k then f.getD i 0 + kk * g.getD i 0 else 0) ∧ Below w.heap.size w wr) (fun i _ => N - (intOf i).toNat)
  case atStart => exact ⟨0, Nat.zero_le _, rfl, by rw [tabL_ext (g := fun _ => 0) (fun i _ => if_neg (Nat.not_lt_zero _))]; exact HR0.out, HB0.out⟩
  case round =>
    obtain ⟨k, hk, rfl, hrow, hb⟩ := hrel
    have HW := Lib.hid hrow
    have HB := Lib.hid hb
    have bs := hb.size
    clear hrow hb
    by_cases hlt : k < N
    · have c3 := int_at HW.out (tabL_length _ _) hlt
      rw [tabL_getD hlt, if_neg (Nat.lt_irrefl _)] at c3
      by_cases hf : k < n
      · obtain ⟨rfl, hag⟩ := HF.out (by omega)
        have a2 := HC.out k hf
        rw [← HB.out.cell (p := ⟨a, k, none⟩) hag] at a2
        have R1 := Lib.hid (int_stored HW.out (tabL_length _ _) k (f.getD k 0))
        have f3 := int_frozen HW.out (tabL_length _ _) k
        have B1 := Lib.hid (HB.out.setCell (p := ⟨w.heap.size, k, none⟩) (Nat.le_refl _) (.int .i64 (f.getD k 0)))
        by_cases hg : k < n'
        · obtain ⟨rfl, hag'⟩ := HF'.out (by omega)
          have b2 := HC'.out k hg
          rw [← B1.out.cell (p := ⟨a', k, none⟩) hag'] at b2
          have BFk := BF.out k
          have BGk := BG.out k
          have HE := Lib.hid (add_step (f := f) (g := g) (kk := kk) hlt rfl)
          obtain ⟨x, hx⟩ : ∃ x, f.getD k 0 = x := ⟨_, rfl⟩
          obtain ⟨z, hzz⟩ : ∃ x, g.getD k 0 = x := ⟨_, rfl⟩
          rw [hx, hzz] at HE
          rw [hx] at a2 R1 B1 b2 BFk
          rw [hzz] at b2 BGk
          clear hx hzz
          go_upto_region 8 with fail
          have hsl : ((tabL N fun i => if i < k then f.getD i 0 + kk * g.getD i 0 else 0).set k x).length = N := by rw [List.length_set, tabL_length]
          have hsg : ((tabL N fun i => if i < k then f.getD i 0 + kk * g.getD i 0 else 0).set k x).getD k 0 = x := by rw [tab_set x hlt, tabL_getD hlt, if_pos rfl]
          generalize wr.setCell ⟨w.heap.size, k, none⟩ (.int .i64 x) = W1 at R1 B1 b2 ⊢
          have c4 := int_at R1.out hsl hlt
          rw [hsg] at c4
          have f4 := int_frozen R1.out hsl k
          have w1 : IntKind.i64.wrap (kk * z) = kk * z := IntWalk.i64_in _ (by omega)
          have w2 : IntKind.i64.wrap (x + kk * z) = x + kk * z := IntWalk.i64_in _ (by omega)
          clear c3 f3 a2 hsg
          refine wp_region_still_tail 14 (by kernel_rfl) (by kernel_rfl) ?_
          simp only [List.take_succ_cons, List.take_zero, List.drop_succ_cons, List.drop_zero]
          repeat still_step
          refine wpStill_nil ?_
          change wpList _ _ _ _ _ W1.drew
          have R2 : Hid (IntRow w.heap.size W1.drew _ _) := Lib.hid R1.out
          have B2 := Lib.hid (below_drewN B1.out 1)
          replace c4 : W1.drew.cell? ⟨w.heap.size, k, none⟩ = _ := c4
          replace f4 : W1.drew.frozen? ⟨w.heap.size, k, none⟩ = _ := f4
          change Hid (Below w.heap.size w W1.drew) at B2
          clear R1 B1 b2
          generalize W1.drew = W2 at R2 B2 c4 f4 ⊢
          have R3 := Lib.hid (int_stored R2.out hsl k (x + kk * z))
          rw [List.set_set, HE.out] at R3
          have B3 := Lib.hid (B2.out.setCell (p := ⟨w.heap.size, k, none⟩) (Nat.le_refl _) (.int .i64 (x + kk * z)))
          clear hsl
          go_wp2
          exact ⟨⟨k + 1, by omega, by go_num, R3.out, B3.out⟩, by simp only [intOf]; omega⟩
        · have hgz : g.getD k 0 = 0 := getD_out (by have := HL.out.2; omega)
          have HE := Lib.hid (add_step (f := f) (g := g) (kk := kk) hlt rfl)
          rw [hgz, Int.mul_zero, Int.add_zero] at HE
          rw [HE.out] at R1
          generalize f.getD k 0 = x at *
          clear HE hgz
          go_wp2
          exact ⟨⟨k + 1, by omega, by go_num, R1.out, B1.out⟩, by simp only [intOf]; omega⟩
      · have hg : k < n' := by have := HNm.out; omega
        have hfz : f.getD k 0 = 0 := getD_out (by have := HL.out.1; omega)
        obtain ⟨rfl, hag'⟩ := HF'.out (by omega)
        have b2 := HC'.out k hg
        rw [← HB.out.cell (p := ⟨a', k, none⟩) hag'] at b2
        have BGk := BG.out k
        have HE := Lib.hid (add_step (f := f) (g := g) (kk := kk) hlt rfl)
        rw [hfz, Int.zero_add] at HE
        have R1 := HW
        have B1 := HB
        obtain ⟨z, hzz⟩ : ∃ x, g.getD k 0 = x := ⟨_, rfl⟩
        rw [hzz] at HE b2 BGk
        clear hzz hfz
        go_upto_region 8 with fail
        have hsl : (tabL N fun i => if i < k then f.getD i 0 + kk * g.getD i 0 else 0).length = N := tabL_length _ _
        have c4 := c3
        have f4 := int_frozen R1.out hsl k
        have w1 : IntKind.i64.wrap (kk * z) = kk * z := IntWalk.i64_in _ (by omega)
        clear c3
        refine wp_region_still_tail 14 (by kernel_rfl) (by kernel_rfl) ?_
        simp only [List.take_succ_cons, List.take_zero, List.drop_succ_cons, List.drop_zero]
        repeat still_step
        refine wpStill_nil ?_
        change wpList _ _ _ _ _ wr.drew
        have R2 : Hid (IntRow w.heap.size wr.drew _ _) := Lib.hid R1.out
        have B2 := Lib.hid (below_drewN B1.out 1)
        replace c4 : wr.drew.cell? ⟨w.heap.size, k, none⟩ = _ := c4
        replace f4 : wr.drew.frozen? ⟨w.heap.size, k, none⟩ = _ := f4
        change Hid (Below w.heap.size w wr.drew) at B2
        clear R1 B1 b2
        generalize wr.drew = W2 at R2 B2 c4 f4 ⊢
        have R3 := Lib.hid (int_stored R2.out hsl k (kk * z))
        rw [HE.out] at R3
        have B3 := Lib.hid (B2.out.setCell (p := ⟨w.heap.size, k, none⟩) (Nat.le_refl _) (.int .i64 (kk * z)))
        clear hsl
        go_wp2
        exact ⟨⟨k + 1, by omega, by go_num, R3.out, B3.out⟩, by simp only [intOf]; omega⟩
    · have hkN : (tabL N fun i => if i < k then f.getD i 0 + kk * g.getD i 0 else 0) = addL f g kk := by
        unfold addL
        rw [← HL.out.1, ← HL.out.2, HNm.out]
        exact tabL_ext fun i hi => if_pos (by omega)
      have hr := HW.out
      rw [hkN] at hr
      obtain ⟨o2, c2, e2, HS2⟩ := seen_row hr (by rw [← hkN, tabL_length]; omega)
      have HB2 := HB.out
      have hle : (addL f g kk).length = N := by rw [← hkN, tabL_length]
      rw [hle] at e2 HS2
      injection e2 with e3 _ e4
      subst e3 e4
      clear hkN hr hle
      go_wp2_with (go_at_call 119; refine (specTrim_any HS2).mono ?_; rintro e w3 ⟨v, rfl, hr3, hb3⟩)
      go_ret
      exact ⟨_, rfl, intRow_lower hr3 HB2.size, HB2.trans (hb3.mono HB2.size)⟩
theorem poly_bf {f : List Int} (h : polyB f = true) : ∀ i, -1000000000000000 ≤ f.getD i 0 ∧ f.getD i 0 ≤ 1000000000000000 := fun i => by have := (polyB_of h).2.1 i; omega
theorem addL_length (f g : List Int) (k : Int) : (addL f g k).length = max f.length g.length := tabL_length _ _
def twoP (f g : List Int) : Bool := polyB f && polyB g
theorem trim_trim (l : List Int) : trimL (trimL l) = trimL l := trimL_self (trimL_last l)
theorem res_trim (l : List Int) : resL (trimL l) = resL l ∧ resC (trimL l) = resC l := by simp [resL, resC, trim_trim]
theorem trim_le {l : List Int} {n : Nat} (h : l.length ≤ n) : (trimL l).length ≤ n := by rw [trimL_length]; have := trimN_le l l.length; omega
end Go.Proofs.Ytjmecidbnoimnaa
namespace Go.Proofs.Ytjmecidbnoimnaa
open Go.RowKit
set_option linter.unusedVariables false
set_option linter.unusedSimpArgs false
/-- a coefficient of a product on the way: i rows and k entries of the next one -/
def mulW (f g : List Int) (i k n : Nat) : Int := mulP f g n i + (if i ≤ n ∧ n < i + k then f.getD i 0 * g.getD (n - i) 0 else 0)
theorem mulW_zero (f g : List Int) (i n : Nat) : mulW f g i 0 n = mulP f g n i := by
  unfold mulW; rw [if_neg (by omega), Int.add_zero]
theorem mulW_row {f g : List Int} {i k n : Nat} (h : g.length ≤ k) : mulW f g i k n = mulP f g n (i + 1) := by
  unfold mulW
  show _ = mulP f g n i + (if i ≤ n then f.getD i 0 * g.getD (n - i) 0 else 0)
  congr 1
  by_cases h1 : i ≤ n
  · rw [if_pos h1]
    by_cases h2 : n < i + k
    · rw [if_pos ⟨h1, h2⟩]
    · rw [if_neg (by omega), getD_out (l := g) (by omega), Int.mul_zero]
  · rw [if_neg h1, if_neg (by omega)]
theorem mulW_step {f g : List Int} {i k N m : Nat} {y : Int} (hm : m < N) (hik : i + k = m) (hy : mulP f g m i + f.getD i 0 * g.getD k 0 = y) :
    (tabL N (mulW f g i k)).set m y = tabL N (mulW f g i (k + 1)) := by
  rw [tab_set y hm]
  refine tabL_ext fun j hj => ?_
  by_cases e : j = m
  · rw [if_pos e, ← hy, e]; unfold mulW; rw [if_pos (by omega), show m - i = k by omega]
  · rw [if_neg e]; unfold mulW
    by_cases h2 : i ≤ j ∧ j < i + k
    · rw [if_pos h2, if_pos (by omega)]
    · rw [if_neg h2, if_neg (by omega)]
theorem mulW_at {f g : List Int} {i k m : Nat} (hik : i + k = m) : mulW f g i k m = mulP f g m i := by
  unfold mulW; rw [if_neg (by omega), Int.add_zero]
theorem mul_bd {x y : Int} (hx : -1000000 ≤ x ∧ x ≤ 1000000) (hy : -1000000 ≤ y ∧ y ≤ 1000000) : -1000000000000 ≤ x * y ∧ x * y ≤ 1000000000000 := by
  have p1 : x.natAbs * y.natAbs ≤ 1000000 * 1000000 := Nat.mul_le_mul (by omega) (by omega)
  rw [← Int.natAbs_mul] at p1; omega
theorem mulP_bd {f g : List Int} (hf : ∀ i, -1000000 ≤ f.getD i 0 ∧ f.getD i 0 ≤ 1000000) (hg : ∀ i, -1000000 ≤ g.getD i 0 ∧ g.getD i 0 ≤ 1000000) (n : Nat) : ∀ i : Nat, -(1000000000000 * (i : Int)) ≤ mulP f g n i ∧ mulP f g n i ≤ 1000000000000 * (i : Int)
  | 0 => by simp [mulP]
  | i + 1 => by
    obtain ⟨a, b⟩ := mulP_bd hf hg n i
    have hm := mul_bd (hf i) (hg (n - i))
    unfold mulP
    generalize f.getD i 0 * g.getD (n - i) 0 = t at *
    generalize mulP f g n i = s at *
    push_cast
    split <;> omega
set_option maxRecDepth 20000
set_option maxHeartbeats 2000000 in
theorem l06Mul_any {o o' : Option Addr} {n n' c c' : Nat} {f g : List Int} {w : World} (h : Seen w o n c f) (h' : Seen w o' n' c' g) (hp : polyB f = true) (hq : polyB g = true) :
    Calls Try.prog 106 #[.slice o n c, .slice o' n' c'] w (OwnPost (trimL (mulL f g)) w) := by
  obtain ⟨hl, hn, hno, hnc, a, h1, h2⟩ := h
  obtain ⟨hl', hn', hno', hnc', a', h1', h2'⟩ := h'
  obtain ⟨i0, hi, hz0, hz1, hz2⟩ := info_parts Try.infoInt64
  have HI := Lib.hid hi
  have HZ0 := Lib.hid hz0
  have HZ1 := Lib.hid hz1
  have HZ2 := Lib.hid hz2
  have HF := Lib.hid h1
  have HC := Lib.hid h2
  have HF' := Lib.hid h1'
  have HC' := Lib.hid h2'
  have HL := Lib.hid (And.intro hl hl')
  have h9 : n ≤ 9 := by have := (polyB_of hp).1; omega
  have h9' : n' ≤ 9 := by have := (polyB_of hq).1; omega
  have BF := Lib.hid (polyB_of hp).2.1
  have BG := Lib.hid (polyB_of hq).2.1
  clear hi hz0 hz1 hz2 h1 h2 hl hno hnc h1' h2' hl' hno' hnc' hp hq hn hn'
  by_cases h0 : n = 0
  · have e : trimL (mulL f g) = [] := by
      have : mulL f g = [] := if_pos (.inl (by rw [← HL.out.1]; exact h0))
      rw [this]; rfl
    rw [e]
    subst h0
    have HR := Lib.hid (intRow_made w)
    go_enter Try.func106, Try.ntmps106
    go_wp2
    go_ret
    exact ⟨_, rfl, HR.out, (Below.refl _ _).alloc (Nat.le_refl _) _⟩
  · by_cases h0' : n' = 0
    · have e : trimL (mulL f g) = [] := by
        have : mulL f g = [] := if_pos (.inr (by rw [← HL.out.2]; exact h0'))
        rw [this]; rfl
      rw [e]
      subst h0'
      have hz : ((n : Int) == 0) = false := by simp; omega
      have HR := Lib.hid (intRow_made w)
      go_enter Try.func106, Try.ntmps106
      go_wp2
      go_ret
      exact ⟨_, rfl, HR.out, (Below.refl _ _).alloc (Nat.le_refl _) _⟩
    · obtain ⟨rfl, hag⟩ := HF.out (by omega)
      obtain ⟨rfl, hag'⟩ := HF'.out (by omega)
      have hz : ((n : Int) == 0) = false := by simp; omega
      have hz' : ((n' : Int) == 0) = false := by simp; omega
      obtain ⟨N, hN⟩ : ∃ N, n + n' - 1 = N := ⟨_, rfl⟩
      have hN1 : (n : Int) + (n' : Int) - 1 = (N : Int) := by omega
      have HN := Lib.hid hN
      have hN17 : N ≤ 17 := by omega
      clear hN
      go_enter Try.func106, Try.ntmps106
      go_wp2_with (at_make; refine wpList_make_full _ rfl (.tmp 22) (.tmp 22) 27 rfl w.heap.size 2 i0 (.int .i64 0) 1 Try.underlying27 HI.out HZ0.out HZ1.out .i64 .i64 _ _ N rfl rfl rfl rfl (by rw [HZ2.out]; omega) (by unfold maxLen; omega) (Nat.le_refl _) ?_)
      intro w2 hown hgrow
      have HR := Lib.hid (int_made (by rw [Nat.mul_one]; exact hown))
      have HB2 := Lib.hid ((Below.refl w.heap.size w).grown hgrow (Nat.le_refl _) (fun k h => by cases h))
      clear hown hgrow hN1
      go_wp2
      go_loopw [6] (fun s wr => ∃ i : Nat, i ≤ n ∧ s = .int .i64 i ∧ IntRow w.heap.size wr (.slice (some ⟨w.heap.size, 0, none⟩) N N) (tabL N (mulW f g i 0)) ∧ Below w.heap.size w wr) (fun s _ => n - (intOf s).toNat)
      case atStart => exact ⟨0, Nat.zero_le _, rfl, by rw [tabL_ext (g := fun _ => 0) (fun i _ => mulW_zero f g 0 i)]; exact HR.out, HB2.out⟩
      case round =>
        obtain ⟨i, hi, rfl, hrow, hb⟩ := hrel
        have HW := Lib.hid hrow
        have HB := Lib.hid hb
        clear hrow hb HR HB2
        by_cases hlt : i < n
        · go_wp2
          go_loopw [7] (fun s wr => ∃ k : Nat, k ≤ n' ∧ s = .int .i64 k ∧ IntRow w.heap.size wr (.slice (some ⟨w.heap.size, 0, none⟩) N N) (tabL N (mulW f g i k)) ∧ Below w.heap.size w wr) (fun s _ => n' - (intOf s).toNat)
          case atStart => exact ⟨0, Nat.zero_le _, rfl, HW.out, HB.out⟩
          case round =>
            obtain ⟨k, hk, rfl, hrow, hb⟩ := hrel
            have HW2 := Lib.hid hrow
            have HB2 := Lib.hid hb
            clear hrow hb HW HB
            by_cases hltk : k < n'
            · obtain ⟨m, hm⟩ : ∃ m, i + k = m := ⟨_, rfl⟩
              have hmN : m < N := by have := HN.out; omega
              have hik : (i : Int) + (k : Int) = (m : Int) := by omega
              have hwm : IntKind.i64.wrap (m : Int) = (m : Int) := IntWalk.i64_in _ (by omega)
              have a2 := HC.out i hlt
              rw [← HB2.out.cell (p := ⟨a, i, none⟩) hag] at a2
              have b2 := HC'.out k hltk
              rw [← HB2.out.cell (p := ⟨a', k, none⟩) hag'] at b2
              have hsl : (tabL N (mulW f g i k)).length = N := tabL_length _ _
              have c4 := int_at HW2.out hsl hmN
              rw [tabL_getD hmN, mulW_at hm] at c4
              have f4 := int_frozen HW2.out hsl m
              have HE := Lib.hid (mulW_step (f := f) (g := g) hmN hm rfl)
              have bp := mulP_bd BF.out BG.out m i
              have bt := mul_bd (BF.out i) (BG.out k)
              obtain ⟨x, hx⟩ : ∃ x, f.getD i 0 = x := ⟨_, rfl⟩
              obtain ⟨z, hzz⟩ : ∃ x, g.getD k 0 = x := ⟨_, rfl⟩
              obtain ⟨s, hs⟩ : ∃ x, mulP f g m i = x := ⟨_, rfl⟩
              rw [hx, hzz, hs] at HE
              rw [hx, hzz] at bt
              rw [hx] at a2
              rw [hzz] at b2
              rw [hs] at c4 bp
              have w1 : IntKind.i64.wrap (x * z) = x * z := IntWalk.i64_in _ (by omega)
              have w2 : IntKind.i64.wrap (s + x * z) = s + x * z := IntWalk.i64_in _ (by omega)
              have HM := Lib.hid hm
              clear hx hzz hs bp bt hm
              go_upto_region 10 with fail
              refine wp_region_still_tail 21 (by kernel_rfl) (by kernel_rfl) ?_
              simp only [List.take_succ_cons, List.take_zero, List.drop_succ_cons, List.drop_zero]
              repeat still_step
              refine wpStill_nil ?_
              change wpList _ _ _ _ _ wr.drew
              have R2 : Hid (IntRow w.heap.size wr.drew (.slice (some ⟨w.heap.size, 0, none⟩) N N) (tabL N (mulW f g i k))) := Lib.hid HW2.out
              have B2 := Lib.hid (below_drewN HB2.out 1)
              replace c4 : wr.drew.cell? ⟨w.heap.size, m, none⟩ = _ := c4
              replace f4 : wr.drew.frozen? ⟨w.heap.size, m, none⟩ = _ := f4
              change Hid (Below w.heap.size w wr.drew) at B2
              clear HW2 HB2 a2 b2
              generalize wr.drew = W2 at R2 B2 c4 f4 ⊢
              have R3 := Lib.hid (int_stored R2.out hsl m (s + x * z))
              rw [HE.out] at R3
              have B3 := Lib.hid (B2.out.setCell (p := ⟨w.heap.size, m, none⟩) (Nat.le_refl _) (.int .i64 (s + x * z)))
              clear hsl
              go_wp2
              exact ⟨⟨k + 1, by omega, by go_num, R3.out, B3.out⟩, by simp only [intOf]; omega⟩
            · have hkN : tabL N (mulW f g i k) = tabL N (mulW f g (i + 1) 0) := tabL_ext fun j _ => by rw [mulW_row (by have := HL.out.2; omega), mulW_zero]
              have R1 := Lib.hid (show IntRow w.heap.size wr (.slice (some ⟨w.heap.size, 0, none⟩) N N) (tabL N (mulW f g (i + 1) 0)) by rw [← hkN]; exact HW2.out)
              clear hkN
              go_wp2
              exact ⟨⟨i + 1, by omega, by go_num, R1.out, HB2.out⟩, by simp only [intOf]; omega⟩
        · have hkN : tabL N (mulW f g i 0) = mulL f g := by
            unfold mulL
            have := HL.out.1
            have := HL.out.2
            rw [if_neg (by omega), show f.length + g.length - 1 = N by have := HN.out; omega]
            exact tabL_ext fun j _ => by rw [mulW_zero, show i = f.length by omega]
          have hr := HW.out
          rw [hkN] at hr
          obtain ⟨o2, c2, e2, HS2⟩ := seen_row hr (by rw [← hkN, tabL_length]; omega)
          have HB2 := HB.out
          have hle : (mulL f g).length = N := by rw [← hkN, tabL_length]
          rw [hle] at e2 HS2
          injection e2 with e3 _ e4
          subst e3 e4
          clear hkN hr hle
          go_wp2_with (go_at_call 119; refine (specTrim_any HS2).mono ?_; rintro e w3 ⟨v, rfl, hr3, hb3⟩)
          go_ret
          exact ⟨_, rfl, intRow_lower hr3 HB2.size, HB2.trans (hb3.mono HB2.size)⟩
theorem mulL_le (f g : List Int) : (mulL f g).length ≤ f.length + g.length := by
  unfold mulL; split
  · simp
  · rw [tabL_length]; omega
end Go.Proofs.Ytjmecidbnoimnaa
namespace Go.Proofs.Ytjmecidbnoimnaa
set_option linter.unusedVariables false
set_option maxRecDepth 20000
set_option linter.unusedSimpArgs false
theorem prime_inv {p inv a : Int} (hp : PrimeP p) (hi : p ∣ inv * a - 1) : ¬ p ∣ inv := by
  rintro ⟨c, rfl⟩
  obtain ⟨d, hd⟩ := hi
  have h1 : p * (c * a - d) = 1 := by grind
  have h2 := hp.1
  rcases (by omega : c * a - d ≤ 0 ∨ 1 ≤ c * a - d) with h | h
  · have := Int.mul_le_mul_of_nonneg_left h (show (0 : Int) ≤ p by omega)
    omega
  · have := Int.mul_le_mul_of_nonneg_left h (show (0 : Int) ≤ p by omega)
    omega
/-! division -/
def subX (p : Int) (r : Nat → Int) (g : List Int) (c : Int) (N i j : Nat) : List Int := tabL N fun t => if i ≤ t ∧ t < i + j then (r t - c * g.getD (t - i) 0) % p else r t
theorem subX_zero (p : Int) (r : Nat → Int) (g : List Int) (c : Int) (N i : Nat) : subX p r g c N i 0 = tabL N r := tabL_ext fun t ht => by rw [if_neg (by omega)]
theorem subX_length (p : Int) (r : Nat → Int) (g : List Int) (c : Int) (N i j : Nat) : (subX p r g c N i j).length = N := tabL_length _ _
theorem subX_at {p : Int} {r : Nat → Int} {g : List Int} {c : Int} {N i j t : Nat} (ht : i + j = t) (h9 : t < N) : (subX p r g c N i j).getD t 0 = r t := by
  rw [subX, tabL_getD h9, if_neg (by omega)]
theorem subX_step {p : Int} {r : Nat → Int} {g : List Int} {c : Int} {N i j t : Nat} (ht : i + j = t) (h9 : t < N) : (subX p r g c N i j).set t ((r t - c * g.getD j 0) % p) = subX p r g c N i (j + 1) := by
  unfold subX
  rw [tab_set _ h9]
  refine tabL_ext fun u hu => ?_
  by_cases e : u = t
  · rw [if_pos e, if_pos (by omega), e, show t - i = j by omega]
  · rw [if_neg e]
    by_cases h2 : i ≤ u ∧ u < i + j
    · rw [if_pos h2, if_pos (by omega)]
    · rw [if_neg h2, if_neg (by omega)]
theorem subX_end {p inv : Int} {g : List Int} {r0 : Nat → Int} {N i k : Nat} (h : i + g.length + k = N) : subX p (mdS p inv g r0 N k) g (mdC p inv g r0 N k) N i g.length = tabL N (mdS p inv g r0 N (k + 1)) := by
  unfold subX
  refine tabL_ext fun t ht => ?_
  show _ = if N - g.length - k ≤ t ∧ t < N - g.length - k + g.length then (mdS p inv g r0 N k t - mdC p inv g r0 N k * g.getD (t - (N - g.length - k)) 0) % p else mdS p inv g r0 N k t
  rw [show N - g.length - k = i by omega]
def qX (p inv : Int) (f g : List Int) (q k : Nat) : List Int := tabL q fun j => if f.length < j + g.length + k then mdC p inv g (fun j => f.getD j 0) f.length (f.length - g.length - j) else 0
theorem qX_zero {p inv : Int} {f g : List Int} {q : Nat} (h : q + g.length = f.length + 1) : qX p inv f g q 0 = tabL q fun _ => 0 := tabL_ext fun j hj => by rw [if_neg (by omega)]
theorem qX_length (p inv : Int) (f g : List Int) (q k : Nat) : (qX p inv f g q k).length = q := tabL_length _ _
theorem qX_step {p inv : Int} {f g : List Int} {q k i : Nat} (h : q + g.length = f.length + 1) (hi : i + g.length + k = f.length) : (qX p inv f g q k).set i (mdC p inv g (fun j => f.getD j 0) f.length k) = qX p inv f g q (k + 1) := by
  unfold qX
  rw [tab_set _ (by omega)]
  refine tabL_ext fun t ht => ?_
  by_cases e : t = i
  · rw [if_pos e, if_pos (by omega), e, show f.length - g.length - i = k by omega]
  · rw [if_neg e]
    by_cases h2 : f.length < t + g.length + k
    · rw [if_pos h2, if_pos (by omega)]
    · rw [if_neg h2, if_neg (by omega)]
theorem qX_end {p : Int} {f g : List Int} {q : Nat} (h : q + g.length = f.length + 1) : trimL (qX p (invP p g) f g q q) = quoP p f g := by
  unfold qX quoP mdQ
  rw [show f.length + 1 - g.length = q by omega]
  congr 1
  exact tabL_ext fun t ht => by rw [if_pos (by omega)]
theorem rX_end {p : Int} {f g : List Int} {q N : Nat} (hN : N = f.length) (h : q = f.length + 1 - g.length) : trimL (tabL N (mdS p (invP p g) g (fun j => f.getD j 0) N q)) = remP p f g := by
  subst hN h; rfl
theorem few_quo {p : Int} {f g : List Int} (h : f.length < g.length) : quoP p f g = [] := by
  unfold quoP mdQ; rw [show f.length + 1 - g.length = 0 by omega]; rfl
theorem few_rem {p : Int} {f g : List Int} (h : f.length < g.length) : trimL f = remP p f g := by
  unfold remP mdR
  rw [show f.length + 1 - g.length = 0 by omega]
  congr 1
  refine ext_getD (by rw [tabL_length]) fun i hi => ?_
  rw [tabL_getD hi]; rfl
/-- the quotient has no zero at its end -/
theorem qX_full {p : Int} {f g : List Int} {q : Nat} (hp : PrimeP p) (hf : ModP p f) (hi : p ∣ invP p g * g.getD (g.length - 1) 0 - 1) (hq : q + g.length = f.length + 1) (h0 : 1 ≤ q) (hl : 1 ≤ g.length) : qX p (invP p g) f g q q = quoP p f g := by
  rw [← qX_end hq]
  refine (trimL_self ?_).symm
  unfold lastB
  rw [qX_length]
  have hne : f ≠ [] := fun e => by rw [e] at hq; simp at hq; omega
  have e1 : (qX p (invP p g) f g q q).getD (q - 1) 0 = f.getD (f.length - 1) 0 * invP p g % p := by
    unfold qX
    rw [tabL_getD (by omega), if_pos (by omega), show f.length - g.length - (q - 1) = 0 by omega]; rfl
  rw [e1]
  have h3 : ¬ f.getD (f.length - 1) 0 * invP p g % p = 0 := fun h => by
    rcases hp.2 _ _ (Int.dvd_of_emod_eq_zero h) with h | h
    · exact modP_last hf hne h
    · exact prime_inv hp hi h
  generalize f.getD (f.length - 1) 0 * invP p g % p = x at h3 ⊢
  simp [h3]
/-- made monic by a division -/
theorem mon_quo {p : Int} {f : List Int} (h2 : 2 ≤ p) (h97 : p ≤ 97) (hp : PrimeP p) (hf : ModP p f) (h0 : f.length ≠ 0) : quoP p f [f.getD (f.length - 1) 0] = monP p f := by
  have hne : f ≠ [] := fun e => h0 (by rw [e]; rfl)
  have hl := modP_last hf hne
  have hr := hf.rng (f.length - 1)
  have hm : ModP p [f.getD (f.length - 1) 0] := ⟨fun i => by
    cases i with
    | zero => exact hr
    | succ i => simp; omega, by
      have : ¬ f.getD (f.length - 1) 0 = 0 := fun e => hl (by rw [e]; exact Int.dvd_zero _)
      simpa [lastB] using this⟩
  have hd := divP_is h2 h97 hp hf hm (by simp)
  have hi := invP_dvd h2 h97 hp hf hne
  have hr0 : remP p f [f.getD (f.length - 1) 0] = [] := nil_of (by have h := hd.deg; rw [List.length_singleton] at h; exact Nat.lt_one_iff.1 h)
  rw [hr0] at hd
  unfold monP
  rw [if_neg h0]
  refine modP_eq hd.mq (redL_mod (by omega) _) (cgp_trans ?_ (cgp_symm (redL_cg p _)))
  obtain ⟨k, hk⟩ := hd.eq
  obtain ⟨m, hm2⟩ := hi
  refine ⟨smulL (-1) (addL (smulL m (quoP p f [f.getD (f.length - 1) 0])) (smulL (invP p f) k) 1), fun x => ?_⟩
  have e1 := hk x
  simp only [pval_add, pval_mul, pval_one, pval_nil, pval_smul] at e1 ⊢
  generalize f.getD (f.length - 1) 0 = a at *
  generalize pval (quoP p f [a]) x = Q at *
  generalize pval f x = F at *
  generalize pval k x = K at *
  generalize invP p f = v at *
  have e2 : v * a = 1 + p * m := by omega
  rw [e1]
  grind
/-! products -/
theorem mulW_mod {p : Int} {f g : List Int} {i k n : Nat} (hi : i + k = n) : (mulW f g i k n % p + f.getD i 0 * g.getD k 0) % p = mulW f g i (k + 1) n % p := by
  have e : mulW f g i (k + 1) n = mulW f g i k n + f.getD i 0 * g.getD k 0 := by
    rw [mulW_at hi]
    unfold mulW
    rw [if_pos (by omega), show n - i = k by omega]
  rw [e, Int.emod_add_emod]
def mulY (p : Int) (f g : List Int) (N i k : Nat) : List Int := tabL N fun n => mulW f g i k n % p
theorem mulY_length (p : Int) (f g : List Int) (N i k : Nat) : (mulY p f g N i k).length = N := tabL_length _ _
theorem mulY_start (p : Int) (f g : List Int) (N : Nat) : mulY p f g N 0 0 = tabL N fun _ => 0 := tabL_ext fun n _ => by rw [mulW_zero]; simp [mulP]
theorem mulY_row {p : Int} {f g : List Int} {N i k : Nat} (h : g.length ≤ k) : mulY p f g N i k = mulY p f g N (i + 1) 0 := tabL_ext fun n _ => by rw [mulW_row h, mulW_zero]
theorem mulY_at {p : Int} {f g : List Int} {N i k m : Nat} (hm : m < N) : (mulY p f g N i k).getD m 0 = mulW f g i k m % p := tabL_getD hm
theorem mulY_step {p : Int} {f g : List Int} {N i k m : Nat} (hm : m < N) (hik : i + k = m) : (mulY p f g N i k).set m ((mulW f g i k m % p + f.getD i 0 * g.getD k 0) % p) = mulY p f g N i (k + 1) := by
  rw [mulW_mod hik]
  unfold mulY
  rw [tab_set _ hm]
  refine tabL_ext fun n hn => ?_
  by_cases e : n = m
  · rw [if_pos e, e]
  · rw [if_neg e]
    unfold mulW
    by_cases h2 : i ≤ n ∧ n < i + k
    · rw [if_pos h2, if_pos (by omega)]
    · rw [if_neg h2, if_neg (by omega)]
theorem mulY_end {p : Int} {f g : List Int} {N : Nat} (h : N = f.length + g.length) : trimL (mulY p f g N f.length 0) = prodL p f g := by
  refine last_unique (trimL_last _) (trimL_last _) fun n => ?_
  rw [trimL_getD]
  show _ = (prodL p f g).getD n 0
  rw [prodL, redL_getD, mulL_getD]
  by_cases hn : n < N
  · rw [mulY_at hn, mulW_zero]
  · rw [getD_out (by rw [mulY_length]; omega), ← mulL_getD, getD_out (l := mulL f g) (by have := mulL_le f g; omega)]; simp
theorem redL_trim {p : Int} (l : List Int) : redL p (trimL l) = redL p l :=
  last_unique (trimL_last _) (trimL_last _) fun n => by
    show (redL p (trimL l)).getD n 0 = (redL p l).getD n 0
    rw [redL_getD, redL_getD, trimL_getD]
/-! common divisors -/
theorem gcdL_step {p : Int} {f g : List Int} (h2 : 2 ≤ p) (h97 : p ≤ 97) (hp : PrimeP p) (hf : ModP p f) (hg : ModP p g) (h0 : g.length ≠ 0) : gcdL p f g = gcdL p g (remP p f g) := by
  have hd := divP_is h2 h97 hp hf hg (fun e => h0 (by rw [e]; rfl))
  exact gcd_unique hp (gcdL_is h2 h97 hp hf hg) (gcd_step hd (gcdL_is h2 h97 hp hg hd.mr))
theorem gcdL_end {p : Int} {f g : List Int} (h0 : g.length = 0) : gcdL p f g = monP p f := by
  rw [nil_of h0]; rfl
/-! powers -/
/-- a power of x by f, not necessarily the remainder -/
structure IsPw (p : Int) (f : List Int) (e : Nat) (r : List Int) : Prop where
  mod : ModP p r
  len : r.length ≤ 9
  eq : ∃ q, CgP p (xL e) (addL (mulL f q) r 1)
theorem pw_of {p : Int} {f r : List Int} {e : Nat} (h : IsPow p f e r) (hf : f.length ≤ 9) : IsPw p f e r := ⟨h.mod, by have := h.deg; omega, h.eq⟩
theorem pw_x {p : Int} (hp : 2 ≤ p) (f : List Int) : IsPw p f 1 [0, 1] := by
  refine ⟨⟨fun i => ?_, by simp [lastB]⟩, by simp, [], cgp_val fun x => ?_⟩
  · match i with
    | 0 => exact ⟨by simp, by simp; omega⟩
    | 1 => exact ⟨by simp, by simp; omega⟩
    | i + 2 => simp; omega
  · rw [pval_xL, pval_add, pval_mul, pval_nil, pval_lin, Int.pow_succ, Int.pow_zero]; omega
theorem pw_mul {p : Int} {f r s m q t : List Int} {a b : Nat} (h1 : IsPw p f a r) (h2 : IsPw p f b s) (hm : CgP p m (mulL r s)) (h : IsDiv p m f q t) : IsPow p f (a + b) t := by
  obtain ⟨q1, k1, e1⟩ := h1.eq
  obtain ⟨q2, k2, e2⟩ := h2.eq
  obtain ⟨k3, e3⟩ := hm
  obtain ⟨k4, e4⟩ := h.eq
  refine ⟨h.mr, h.deg, addL (addL (mulL (mulL f q1) q2) (mulL q1 s) 1) (addL (mulL q2 r) q 1) 1, addL (addL (mulL (addL (mulL f q1) r 1) k2) (mulL (addL (mulL f q2) s 1) k1) 1) (addL (smulL p (mulL k1 k2)) (addL k4 k3 (-1)) 1) 1, fun x => ?_⟩
  have f1 := e1 x
  have f2 := e2 x
  have f3 := e3 x
  have f4 := e4 x
  rw [pval_xL] at f1 f2
  simp only [pval_add, pval_mul, pval_smul] at f1 f2 f3 f4 ⊢
  rw [pval_xL, Int.pow_add, f1, f2]
  generalize pval f x = F at *
  generalize pval q1 x = Q1 at *
  generalize pval q2 x = Q2 at *
  generalize pval r x = R at *
  generalize pval s x = S at *
  generalize pval k1 x = K1 at *
  generalize pval k2 x = K2 at *
  generalize pval k3 x = K3 at *
  generalize pval k4 x = K4 at *
  generalize pval q x = Q at *
  generalize pval t x = T at *
  generalize pval m x = M at *
  grind
theorem pw_join {p : Int} (h2 : 2 ≤ p) (h97 : p ≤ 97) (hp : PrimeP p) {f r s : List Int} (hf : ModP p f) (h0 : f ≠ []) {a b : Nat} (hr : IsPw p f a r) (hs : IsPw p f b s) : IsPow p f (a + b) (remP p (prodL p r s) f) :=
  pw_mul hr hs (redL_cg p (mulL r s)) (divP_is h2 h97 hp (redL_mod (by omega) _) hf h0)
/-- what is left of the exponent -/
theorem half_odd {A B E e : Nat} (h : A + B * e = E) (ho : e % 2 = 1) : A + B + (B + B) * (e / 2) = E := by
  have h1 : e = 2 * (e / 2) + 1 := by omega
  have h2 : B * e = B * (2 * (e / 2) + 1) := by rw [← h1]
  rw [Nat.mul_add, Nat.mul_one, ← Nat.mul_assoc, Nat.mul_two] at h2
  omega
theorem half_even {A B E e : Nat} (h : A + B * e = E) (ho : e % 2 = 0) : A + (B + B) * (e / 2) = E := by
  have h1 : e = 2 * (e / 2) := by omega
  have h2 : B * e = B * (2 * (e / 2)) := by rw [← h1]
  rw [← Nat.mul_assoc, Nat.mul_two] at h2
  omega
end Go.Proofs.Ytjmecidbnoimnaa
namespace Go.Proofs.Ytjmecidbnoimnaa
open Go.RowKit
set_option linter.unusedVariables false
set_option maxHeartbeats 400000 in
theorem implModulus_any (p n : Int) (w : World) :
    Calls Try.prog 115 #[.agg #[.int .i64 p, .int .i64 n]] w fun e w' => e = .returned (.int .i64 (ringM p n)) ∧ Below w.heap.size w w' := by
  cases hs : smallB p
  · rw [ringM_small hs]
    go_enter Try.func115, Try.ntmps115
    go_wp2_with (go_at_call 60; refine (basePrime_any _ _).mono ?_; rintro e w' ⟨rfl, rfl⟩)
    go_ret
    exact ⟨rfl, (Below.refl _ _).alloc (Nat.le_refl _) _⟩
  · by_cases hn : n < 1
    · rw [ringM_low hn]
      go_enter Try.func115, Try.ntmps115
      go_wp2_with (go_at_call 60; refine (basePrime_any _ _).mono ?_; rintro e w' ⟨rfl, rfl⟩)
      go_ret
      exact ⟨rfl, (Below.refl _ _).alloc (Nat.le_refl _) _⟩
    · obtain ⟨hp2, hp97⟩ := smallB_bd hs
      have HS := Lib.hid hs
      go_enter Try.func115, Try.ntmps115
      go_wp2_with (go_at_call 60; refine (basePrime_any _ _).mono ?_; rintro e w' ⟨rfl, rfl⟩)
      clear hs
      have hp0 : (p == 0) = false := by simp; omega
      go_loop [3, 15] (fun m i => ∃ M I : Int, m = .int .i64 M ∧ i = .int .i64 I ∧ MRel p I M ∧ I ≤ n) (fun _ i => 40 - (intOf i).toNat)
      case atStart => exact ⟨1, 0, rfl, rfl, mRel_start p, by omega⟩
      case round =>
        obtain ⟨M, I, rfl, rfl, hr, hin⟩ := hrel
        have h1 := mRel_prod hp2 hp97 hr
        have h2 := hr.1
        have h3 := hr.2.1
        have HR := Lib.hid hr
        clear hr
        by_cases hlt : I < n
        · by_cases ho : 1000000000 < M * p
          · have HE := Lib.hid (mRel_over hp2 HR.out ho hlt)
            have hov := (over_iff (m := M) hp2).2 ho
            go_wp2
            go_ret
            exact ⟨ret_int HE.out.symm, (Below.refl _ _).alloc (Nat.le_refl _) _⟩
          · have HE := Lib.hid (mRel_step hp2 hp97 HR.out (by omega))
            have hov : ¬ (1000000000 : Int) / p < M := fun h => ho ((over_iff (m := M) hp2).1 h)
            go_wp2
            exact ⟨⟨_, _, rfl, rfl, HE.out, by omega⟩, by simp only [intOf]; omega⟩
        · have HE := Lib.hid (mRel_end HS.out HR.out (show I = n by omega) (by omega))
          go_wp2
          go_ret
          exact ⟨ret_int HE.out.symm, (Below.refl _ _).alloc (Nat.le_refl _) _⟩
set_option maxHeartbeats 400000 in
theorem l02Modulus_any (p n : Int) (w : World) (hs : smallB p = true) (hn : 1 ≤ n) (hn2 : n ≤ 1000) :
    Calls Try.prog 69 #[.int .i64 p, .int .i64 n] w fun e w' => e = .returned (.int .i64 (ringM p n)) ∧ w = w' := by
  obtain ⟨hp2, hp97⟩ := smallB_bd hs
  have HS := Lib.hid hs
  clear hs
  go_enter Try.func69, Try.ntmps69
  go_wp2
  go_loop [1, 5] (fun i m => ∃ M I : Int, m = .int .i64 M ∧ i = .int .i64 (n - I) ∧ MRel p I M ∧ I ≤ n) (fun i _ => (intOf i).toNat)
  case atStart => exact ⟨1, 0, rfl, by simp, mRel_start p, by omega⟩
  case round =>
    obtain ⟨M, I, rfl, rfl, hr, hin⟩ := hrel
    have h1 := mRel_prod hp2 hp97 hr
    have h2 := hr.1
    have h3 := hr.2.1
    have HR := Lib.hid hr
    clear hr
    by_cases hlt : I < n
    · by_cases ho : 1000000000 < M * p
      · have HE := Lib.hid (mRel_over hp2 HR.out ho hlt)
        go_wp2
        go_ret
        exact ⟨ret_int HE.out.symm, rfl⟩
      · have HE := Lib.hid (mRel_step hp2 hp97 HR.out (by omega))
        go_wp2
        exact ⟨⟨_, _, rfl, by congr 1; omega, HE.out, by omega⟩, by simp only [intOf]; omega⟩
    · have HE := Lib.hid (mRel_end HS.out HR.out (show I = n by omega) (by omega))
      go_wp2
      go_ret
      exact ⟨ret_int HE.out.symm, rfl⟩
end Go.Proofs.Ytjmecidbnoimnaa
namespace Go.Proofs.Ytjmecidbnoimnaa
open Go.RowKit
set_option linter.unusedVariables false
set_option linter.unusedSimpArgs false
set_option maxRecDepth 20000
theorem cofB_cases (x : Int) : cofB x = true ∧ -1000000 ≤ x ∧ x ≤ 1000000 ∨ cofB x = false ∧ (x < -1000000 ∨ 1000000 < x) := inB_cases x _ _
def withB (B : Int) (l : List Int) : Bool := l.all fun x => inB x (-B) B
theorem polyB_eq (l : List Int) : polyB l = (withB 1000000 l && (decide (l.length ≤ 9) && lastB l)) := rfl
def canB (l : List Int) : Bool := decide (l.length ≤ 9) && lastB l
set_option maxHeartbeats 800000 in
theorem canBe_any {o : Option Addr} {n c : Nat} {l : List Int} {w : World} (h : Seen w o n c l) :
    Calls Try.prog 120 #[.slice o n c] w fun e w' => e = .returned (.bool (canB l)) ∧ w = w' := by
  obtain ⟨hl, hn, hno, hnc, g, h1, h2⟩ := h
  clear hno hnc
  have HO := Lib.hid fun h => (h1 h).1
  have HL := Lib.hid hl
  have HC := Lib.hid h2
  clear h1 h2 hl
  by_cases h9 : n ≤ 9
  · by_cases h0 : n = 0
    · have HP := Lib.hid (show canB l = true by simp [canB, lastB, ← HL.out, h0])
      subst h0
      go_enter Try.func120, Try.ntmps120
      go_wp2_with fail
      go_ret
      rw [HP.out]; exact ⟨rfl, rfl⟩
    · have hog := HO.out (by omega)
      subst hog
      have a2 := HC.out (n - 1) (by omega)
      have HP := Lib.hid (show canB l = !(l.getD (n - 1) 0 == 0) by
        rw [HL.out] at h9 h0 ⊢
        simp only [canB, lastB, Bool.true_and, decide_eq_true h9, decide_eq_false h0, Bool.false_or])
      generalize l.getD (n - 1) 0 = x at *
      have h0' : ((n : Int) == 0) = false := by simp; omega
      have hn1 : (n : Int) - 1 = ((n - 1 : Nat) : Int) := by omega
      go_enter Try.func120, Try.ntmps120
      go_wp2_with fail
      go_ret
      rw [HP.out]; exact ⟨rfl, rfl⟩
  · have HP := Lib.hid (show canB l = false by
      have := HL.out
      rw [this] at h9
      simp only [canB, decide_eq_false h9, Bool.false_and])
    go_enter Try.func120, Try.ntmps120
    go_wp2_with fail
    go_ret
    rw [HP.out]; exact ⟨rfl, rfl⟩
theorem polyB_can (l : List Int) : polyB l = (canB l && withB 1000000 l) := by rw [polyB_eq]; unfold canB; exact Bool.and_comm _ _
theorem row_cut {b n c k : Nat} {o : Option Addr} {w : World} {l : List Int} (h : IntRow b w (.slice o n c) l) (hk : k ≤ n) : IntRow b w (.slice o k c) (l.take k) := by
  have hl : l.length = n := by
    obtain ⟨o', c', e⟩ : ∃ o' c', Value.slice o n c = .slice o' l.length c' := by
      rcases row_shape h with ⟨h0, _⟩ | ⟨_, g, c', e, _⟩
      · obtain ⟨_, h2⟩ := h
        rcases h2 with ⟨e, _⟩ | ⟨g, cap, cur, e, _⟩
        · injection e with e1 e2 e3; exact ⟨none, 0, by rw [e1, e2, e3, h0]⟩
        · exact ⟨_, _, e⟩
      · exact ⟨_, _, e⟩
    injection e with _ e2 _; exact e2.symm
  obtain ⟨h1, h2⟩ := h
  refine ⟨by simp, ?_⟩
  have hlt : (l.take k).length = k := by rw [List.length_take]; omega
  rcases h2 with ⟨e, h0⟩ | ⟨g, cap, cur, e, hb, hg, hnc, hm, hs, ht⟩
  · injection e with e1 e2 e3
    exact .inl ⟨by rw [e1, e3, show k = 0 by omega], by rw [hlt]; omega⟩
  · injection e with e1 e2 e3
    refine .inr ⟨g, cap, cur, by rw [e1, e3, hlt], hb, hg, by rw [hlt]; omega, hm, hs, ?_⟩
    rw [hlt, List.map_take, ← ht, List.take_take]
    congr 1; omega
set_option maxHeartbeats 800000 in
theorem trimmed_any {o : Option Addr} {n c : Nat} {l : List Int} {w : World} (h : Seen w o n c l) :
    Calls Try.prog 121 #[.slice o n c] w fun e w' => e = .returned (.slice o (trimN l l.length) c) ∧ w = w' := by
  obtain ⟨hl, hn, hno, hnc, g, h1, h2⟩ := h
  have HO := Lib.hid fun h => (h1 h).1
  have HL := Lib.hid hl
  have HC := Lib.hid h2
  have HNO := Lib.hid hno
  rw [← hl]
  clear h1 h2 hl hno
  go_enter Try.func121, Try.ntmps121
  go_wp2
  go_loop [3] (fun i => ∃ k : Nat, k ≤ n ∧ i = .int .i64 k ∧ trimN l k = trimN l n) (fun i => (intOf i).toNat)
  case atStart => exact ⟨n, Nat.le_refl _, rfl, rfl⟩
  case round =>
    obtain ⟨k, hk, rfl, ht⟩ := hrel
    by_cases h0 : k = 0
    · have HT := Lib.hid (show trimN l n = 0 by rw [← ht, h0]; rfl)
      clear ht
      subst h0
      cases o with
      | none =>
        have := HNO.out rfl
        go_wp2
        go_ret
        rw [HT.out]; exact ⟨rfl, rfl⟩
      | some a =>
        go_wp2
        go_ret
        rw [HT.out]; exact ⟨rfl, rfl⟩
    · have hog := HO.out (by omega)
      subst hog
      have a2 := HC.out (k - 1) (by omega)
      have HX := Lib.hid (show l.getD (k - 1) 0 = 0 → trimN l (k - 1) = trimN l n by intro h; rw [← ht]; rw [show k = k - 1 + 1 by omega]; exact (trimN_zero h).symm)
      have HY := Lib.hid (show l.getD (k - 1) 0 ≠ 0 → trimN l n = k by intro h; rw [← ht]; rw [show k = k - 1 + 1 by omega, trimN_stay h])
      have hk1 : (k : Int) - 1 = ((k - 1 : Nat) : Int) := by omega
      have hkc : k ≤ c := by omega
      generalize l.getD (k - 1) 0 = x at *
      clear ht
      by_cases hx : x = 0
      · have HX' := Lib.hid (HX.out hx)
        have hx' : (x == 0) = true := by simp [hx]
        clear hx
        go_wp2
        exact ⟨⟨k - 1, by omega, by go_num, HX'.out⟩, by simp [intOf]; omega⟩
      · have HY' := Lib.hid (HY.out hx)
        have hx' : (x == 0) = false := by simpa using hx
        clear hx HX HY
        go_wp2
        go_ret
        rw [HY'.out]; exact ⟨rfl, rfl⟩
theorem clone_any {g n c : Nat} {l : List Int} {w : World} (h : Seen w (some ⟨g, 0, none⟩) n c l) :
    Calls Try.prog 157 #[.slice (some ⟨g, 0, none⟩) n c] w (OwnPost l w) := by
  obtain ⟨hl, hn, hno, hnc, g', h1, h2⟩ := h
  obtain ⟨i0, hi, hz0, hz1, hz2⟩ := info_parts Try.infoInt64
  have HI := Lib.hid hi
  have HZ0 := Lib.hid hz0
  have HZ1 := Lib.hid hz1
  have HZ2 := Lib.hid hz2
  clear hi hz0 hz1 hz2
  have hrow := intRow_made w
  have hnil : (binOp .eql 27 (.slice (some ⟨g, 0, none⟩) n c) (.slice none 0 0)).run Try.prog w = .ok (.bool false) w := Lib.run_eql_slice_nil (P := Try.prog) w 27 2 (some ⟨g, 0, none⟩) n c 0 0 Try.underlying27
  by_cases h0 : n = 0
  · subst h0
    have e : l = [] := List.eq_nil_of_length_eq_zero hl.symm
    subst e
    have HR := Lib.hid hrow
    have HB := Lib.hid ((Below.refl w.heap.size w).alloc (Nat.le_refl _) (.cells #[] 2))
    clear hno hrow h1 h2 hl
    go_enter Try.func157, Try.ntmps157
    go_wp2_with (at_builtin; refine wpList_append_fits_any _ rfl (.tmp 5) (.tmp 6) 27 rfl w.heap.size 2 i0 1 Try.underlying27 HI.out HZ1.out w.heap.size 0 0 [] rfl HR.out _ 0 c [] rfl rfl (fun h => by cases h) (fun _ _ j u h => by simp at h) (fun u h => by simp at h) (by omega) ?_)
    intro w1 hown hgrow
    have HO := Lib.hid hown
    have HG := Lib.hid (HB.out.grown hgrow (by simp) (fun k hk => by cases hk; exact Nat.le_refl _))
    clear hown hgrow
    go_wp2
    go_ret
    exact ⟨_, rfl, HO.out, HG.out⟩
  · obtain ⟨hgg, hg⟩ := h1 (by omega)
    have hge : g = g' := by injection hgg with e; injection e
    subst hge
    have hnews : ∀ j u, (l.map (Value.int .i64))[j]? = some u → (w.alloc (.cells #[] 2)).cell? ((⟨g, 0, none⟩ : Addr).add j) = some u := by
      intro j u hj
      have hjl : j < n := by
        have := (List.getElem?_eq_some_iff.1 hj).1
        rw [List.length_map] at this; omega
      have e : (⟨g, 0, none⟩ : Addr).add j = ⟨g, j, none⟩ := by simp [Addr.add]; omega
      rw [e, ((Below.refl w.heap.size w).alloc (Nat.le_refl _) (.cells #[] 2)).cell (p := ⟨g, j, none⟩) hg, h2 j hjl]
      have hj2 : j < l.length := by omega
      simp [hj2] at hj
      rw [← hj]; simp [List.getD, hj2]
    have HN := Lib.hid hnews
    have HL := Lib.hid hl
    have HR := Lib.hid hrow
    have HB := Lib.hid ((Below.refl w.heap.size w).alloc (Nat.le_refl _) (.cells #[] 2))
    clear hnews h1 h2 hl hrow hgg
    go_enter Try.func157, Try.ntmps157
    go_wp2_with (at_builtin; refine wpList_append_own _ rfl (.tmp 5) (.tmp 6) 27 rfl w.heap.size 2 i0 (.int .i64 0) 1 8 Try.underlying27 HI.out HZ0.out HZ1.out HZ2.out rfl (by decide) _ _ _ rfl HR.out ⟨g, 0, none⟩ n c (l.map (Value.int .i64)) rfl (by rw [List.length_map, Nat.mul_one]; exact HL.out.symm) HN.out (oneCell_map l) ?c3 ?c4 ?c5 ?_)
    case c3 => unfold maxLen; simp; omega
    case c4 => simp; omega
    case c5 => first | omega | simp
    intro v' w1 hown hgrow _
    have HO : Hid (IntRow w.heap.size w1 v' l) := Lib.hid (by unfold IntRow; rw [← HL.out]; simpa using hown)
    have HG := Lib.hid (HB.out.grown hgrow (by simp) (fun k hk => by cases hk; exact Nat.le_refl _))
    clear hown hgrow
    go_wp2
    go_ret
    exact ⟨_, rfl, HO.out, HG.out⟩
theorem clone_nil (w : World) : Calls Try.prog 157 #[.slice none 0 0] w fun e w' => e = .returned (.slice none 0 0) ∧ w = w' := by
  have hnil : (binOp .eql 27 (.slice none 0 0) (.slice none 0 0)).run Try.prog w = .ok (.bool true) w := Lib.run_eql_slice_nil (P := Try.prog) w 27 2 none 0 0 0 0 Try.underlying27
  go_enter Try.func157, Try.ntmps157
  go_wp2
  go_ret
  exact ⟨rfl, rfl⟩
theorem clone_odd (a : Addr) (c : Nat) (w : World) : Calls Try.prog 157 #[.slice (some a) 0 c] w (OwnPost [] w) := by
  obtain ⟨i0, hi, hz0, hz1, hz2⟩ := info_parts Try.infoInt64
  have HI := Lib.hid hi
  have HZ1 := Lib.hid hz1
  clear hi hz0 hz1 hz2
  have hnil : (binOp .eql 27 (.slice (some a) 0 c) (.slice none 0 0)).run Try.prog w = .ok (.bool false) w := Lib.run_eql_slice_nil (P := Try.prog) w 27 2 (some a) 0 c 0 0 Try.underlying27
  have HR := Lib.hid (intRow_made w)
  have HB := Lib.hid ((Below.refl w.heap.size w).alloc (Nat.le_refl _) (.cells #[] 2))
  go_enter Try.func157, Try.ntmps157
  go_wp2_with (at_builtin; refine wpList_append_fits_any _ rfl (.tmp 5) (.tmp 6) 27 rfl w.heap.size 2 i0 1 Try.underlying27 HI.out HZ1.out w.heap.size 0 0 [] rfl HR.out _ 0 c [] rfl rfl (fun h => by cases h) (fun _ _ j u h => by simp at h) (fun u h => by simp at h) (by omega) ?_)
  intro w1 hown hgrow
  have HO := Lib.hid hown
  have HG := Lib.hid (HB.out.grown hgrow (by simp) (fun k hk => by cases hk; exact Nat.le_refl _))
  clear hown hgrow
  go_wp2
  go_ret
  exact ⟨_, rfl, HO.out, HG.out⟩
theorem clone8_any {o : Option Addr} {n c : Nat} {l : List Int} {w : World} (h : Seen w o n c l) :
    Calls Try.prog 157 #[.slice o n c] w (OwnPost l w) := by
  have h' := h
  obtain ⟨hl, hn, hno, hnc, g, h1, h2⟩ := h
  by_cases h0 : n = 0
  · have e : l = [] := List.eq_nil_of_length_eq_zero (by omega)
    subst h0 e
    cases o with
    | none =>
      rw [hno rfl]
      exact (clone_nil w).mono fun e w' h => ⟨_, h.1, intRow_nil _ _, h.2 ▸ Below.refl _ _⟩
    | some a => exact clone_odd a c w
  · obtain ⟨rfl, _⟩ := h1 (by omega)
    exact clone_any h'
end Go.Proofs.Ytjmecidbnoimnaa
namespace Go.Proofs.Ytjmecidbnoimnaa
set_option linter.unusedVariables false
set_option maxRecDepth 20000
theorem shiftP_stay (f : List Int) (a : Int) {i k : Nat} (hi : i < k) (hn : i < f.length) : ∀ j, (shiftP f a (k + j)).getD i 0 = (shiftP f a k).getD i 0
  | 0 => rfl
  | j + 1 => by
    show (tabL f.length fun i => if i < k + j then (shiftP f a (k + j)).getD i 0 else evalD (shiftP f a (k + j)) a (f.length - i)).getD i 0 = _
    rw [tabL_getD hn, if_pos (by omega)]
    exact shiftP_stay f a hi hn j
theorem shiftP_final (f : List Int) (a : Int) {i k : Nat} (hi : i < k) (hk : k ≤ f.length) : (shiftP f a k).getD i 0 = (shiftL f a).getD i 0 := by
  have h := shiftP_stay f a hi (by omega) (f.length - k)
  rw [show k + (f.length - k) = f.length by omega] at h
  exact h.symm
theorem back_bd {l : List Int} {a B : Int} {m : Nat} (hB : 1000000 ≤ B) (hl : ∀ i, -B ≤ l.getD i 0 ∧ l.getD i 0 ≤ B) (hm : -1000000 ≤ evalD l a m ∧ evalD l a m ≤ 1000000) :
    ∀ j : Nat, j ≤ m → -(1000000 + (j : Int) * B) ≤ evalD l a (m - j) ∧ evalD l a (m - j) ≤ 1000000 + (j : Int) * B
  | 0, _ => by simpa using hm
  | j + 1, h => by
    obtain ⟨x, y⟩ := back_bd hB hl hm j (by omega)
    have hjB : 0 ≤ (j : Int) * B := Int.mul_nonneg (by omega) (by omega)
    have e : ((j + 1 : Nat) : Int) * B = (j : Int) * B + B := by push_cast; rw [Int.add_mul, Int.one_mul]
    rw [e]
    rw [show m - j = (m - (j + 1)) + 1 by omega, evalD] at x y
    obtain ⟨c, d⟩ := hl (l.length - 1 - (m - (j + 1)))
    by_cases ha : a = 0
    · cases hm2 : m - (j + 1) with
      | zero => simp only [evalD]; omega
      | succ q =>
        obtain ⟨c2, d2⟩ := hl (l.length - 1 - q)
        simp only [evalD, ha, Int.mul_zero, Int.zero_add]; omega
    · generalize evalD l a (m - (j + 1)) = e at *
      generalize l.getD (l.length - 1 - (m - (j + 1))) 0 = z at *
      have p : e.natAbs ≤ (e * a).natAbs := by
        rw [Int.natAbs_mul]
        have := Nat.mul_le_mul_left e.natAbs (show 1 ≤ a.natAbs by omega)
        omega
      generalize e * a = t at *
      generalize (j : Int) * B = s at *
      omega
theorem shiftP_bd {f : List Int} {a : Int} (hf : ∀ i, -1000000 ≤ f.getD i 0 ∧ f.getD i 0 ≤ 1000000) (h9 : f.length ≤ 9) (hs : ∀ i, -1000000 ≤ (shiftL f a).getD i 0 ∧ (shiftL f a).getD i 0 ≤ 1000000) :
    ∀ k, k ≤ f.length → (∀ i, -(1000000 * 9 ^ k) ≤ (shiftP f a k).getD i 0 ∧ (shiftP f a k).getD i 0 ≤ 1000000 * 9 ^ k) ∧
      (k < f.length → ∀ i, k ≤ i → i < f.length → -(1000000 * 9 ^ (k + 1)) ≤ evalD (shiftP f a k) a (f.length - i) ∧ evalD (shiftP f a k) a (f.length - i) ≤ 1000000 * 9 ^ (k + 1)) := by
  have step : ∀ k, k < f.length → (∀ i, -(1000000 * 9 ^ k) ≤ (shiftP f a k).getD i 0 ∧ (shiftP f a k).getD i 0 ≤ 1000000 * 9 ^ k) →
      ∀ i, k ≤ i → i < f.length → -(1000000 * 9 ^ (k + 1)) ≤ evalD (shiftP f a k) a (f.length - i) ∧ evalD (shiftP f a k) a (f.length - i) ≤ 1000000 * 9 ^ (k + 1) := by
    intro k hk hb i hi hn
    have hp : (1 : Int) ≤ 9 ^ k := by have := Int.pow_pos (n := (9 : Int)) (m := k) (by omega); omega
    have he : evalD (shiftP f a k) a (f.length - k) = (shiftL f a).getD k 0 := by
      rw [← shiftP_final f a (Nat.lt_succ_self k) hk]
      show _ = (tabL f.length fun i => if i < k then (shiftP f a k).getD i 0 else evalD (shiftP f a k) a (f.length - i)).getD k 0
      rw [tabL_getD hk, if_neg (Nat.lt_irrefl _)]
    have hm := hs k
    rw [← he] at hm
    have := back_bd (B := 1000000 * 9 ^ k) (by omega) hb hm (i - k) (by omega)
    rw [show f.length - k - (i - k) = f.length - i by omega] at this
    have hq : ((i - k : Nat) : Int) ≤ 8 := by omega
    have h8 := Int.mul_le_mul_of_nonneg_right hq (show (0 : Int) ≤ 1000000 * 9 ^ k by omega)
    rw [Int.pow_succ]
    generalize (9 : Int) ^ k = q at *
    generalize ((i - k : Nat) : Int) * (1000000 * q) = s at *
    omega
  intro k
  induction k with
  | zero => exact fun _ => ⟨fun i => by simpa [shiftP] using hf i, fun h => step 0 h (fun i => by simpa [shiftP] using hf i)⟩
  | succ k ih =>
    intro hk
    obtain ⟨h1, h2⟩ := ih (by omega)
    have key : ∀ i, -(1000000 * 9 ^ (k + 1)) ≤ (shiftP f a (k + 1)).getD i 0 ∧ (shiftP f a (k + 1)).getD i 0 ≤ 1000000 * 9 ^ (k + 1) := by
      intro i
      have hp : (1 : Int) ≤ 9 ^ (k + 1) := by have := Int.pow_pos (n := (9 : Int)) (m := k + 1) (by omega); omega
      by_cases hi : i < f.length
      · show _ ≤ (tabL f.length fun i => if i < k then (shiftP f a k).getD i 0 else evalD (shiftP f a k) a (f.length - i)).getD i 0 ∧ (tabL f.length fun i => if i < k then (shiftP f a k).getD i 0 else evalD (shiftP f a k) a (f.length - i)).getD i 0 ≤ _
        rw [tabL_getD hi]
        split
        · rename_i hik
          rw [shiftP_final f a hik (by omega)]
          have := hs i
          omega
        · exact h2 (by omega) i (by omega) hi
      · rw [getD_out (by rw [shiftP_length]; omega)]; omega
    exact ⟨key, fun h => step (k + 1) h key⟩
theorem pow9_le : ∀ {j : Nat}, j ≤ 9 → (9 : Int) ^ j ≤ 387420489 := by decide
/-- the early end of a shift -/
theorem shift_stop {f : List Int} {a : Int} {k i : Nat} (hp : polyB f = true) (hk : k ≤ i) (hi : i < f.length) (hf : inB (evalD (shiftP f a k) a (f.length - i)) (-1000000000000000) 1000000000000000 = false) :
    resC (shiftL f a) = 3 ∧ resL (shiftL f a) = [] := by
  cases hr : polyB (trimL (shiftL f a))
  · simp [resC, resL, hr]
  · obtain ⟨h9, hb, _⟩ := polyB_of hp
    have hs : ∀ i, -1000000 ≤ (shiftL f a).getD i 0 ∧ (shiftL f a).getD i 0 ≤ 1000000 := fun i => by rw [← trimL_getD]; exact (polyB_of hr).2.1 i
    have h := (shiftP_bd hb h9 hs k (by omega)).2 (by omega) i hk hi
    have h2 := pow9_le (show k + 1 ≤ 9 by omega)
    rw [inB_t (by omega) (by omega)] at hf
    cases hf
end Go.Proofs.Ytjmecidbnoimnaa
namespace Go.Proofs.Ytjmecidbnoimnaa
open Go.RowKit
set_option linter.unusedVariables false
set_option linter.unusedSimpArgs false
/-- the list within pass k, behind q steps -/
def shV (f : List Int) (a : Int) (k q : Nat) : List Int := tabL f.length fun j => if f.length - 1 - q ≤ j ∧ k ≤ j then evalD (shiftP f a k) a (f.length - j) else (shiftP f a k).getD j 0
theorem shV_length (f : List Int) (a : Int) (k q : Nat) : (shV f a k q).length = f.length := tabL_length _ _
theorem shV_zero (f : List Int) (a : Int) (k : Nat) : shV f a k 0 = shiftP f a k := by
  refine ext_getD (by rw [shV_length, shiftP_length]) fun j hj => ?_
  rw [shV_length] at hj
  rw [shV, tabL_getD hj]
  split
  · rw [show f.length - j = 0 + 1 by omega, evalD, show evalD (shiftP f a k) a 0 = 0 from rfl, Int.zero_mul, Int.zero_add, shiftP_length, show f.length - 1 - 0 = j by omega]
  · rfl
theorem shV_end {f : List Int} {a : Int} {k q : Nat} (h : f.length - 1 - k ≤ q) : shV f a k q = shiftP f a (k + 1) := by
  show tabL _ _ = tabL _ _
  refine tabL_ext fun j hj => ?_
  by_cases hk : j < k
  · rw [if_neg (by omega), if_pos hk]
  · rw [if_pos (by omega), if_neg hk]
theorem shV_at {f : List Int} {a : Int} {k q i : Nat} (hi : i + 1 < f.length) (hq : i + q + 2 = f.length) (hk : k ≤ i) :
    (shV f a k q).getD i 0 = (shiftP f a k).getD i 0 ∧ (shV f a k q).getD (i + 1) 0 = evalD (shiftP f a k) a (f.length - (i + 1)) ∧
    evalD (shiftP f a k) a (f.length - i) = (shiftP f a k).getD i 0 + a * evalD (shiftP f a k) a (f.length - (i + 1)) := by
  refine ⟨?_, ?_, ?_⟩
  · rw [shV, tabL_getD (by omega), if_neg (by omega)]
  · rw [shV, tabL_getD hi, if_pos (by omega)]
  · rw [show f.length - i = (f.length - (i + 1)) + 1 by omega, evalD, shiftP_length, show f.length - 1 - (f.length - (i + 1)) = i by omega, Int.mul_comm, Int.add_comm]
theorem shV_step {f : List Int} {a : Int} {k q i : Nat} {y : Int} (hi : i + 1 < f.length) (hq : i + q + 2 = f.length) (hk : k ≤ i) (hy : evalD (shiftP f a k) a (f.length - i) = y) :
    (shV f a k q).set i y = shV f a k (q + 1) := by
  rw [shV, tab_set y (by omega)]
  refine tabL_ext fun j hj => ?_
  by_cases e : j = i
  · rw [if_pos e, if_pos (by omega), e, hy]
  · rw [if_neg e]
    by_cases h2 : f.length - 1 - q ≤ j ∧ k ≤ j
    · rw [if_pos h2, if_pos (by omega)]
    · rw [if_neg h2, if_neg (by omega)]
def shiftC (f : List Int) (a : Int) : Int := if polyB f then (if inB a (-1000) 1000 then resC (shiftL f a) else 2) else 1
def shiftQ (f : List Int) (a : Int) : List Int := if polyB f then (if inB a (-1000) 1000 then resL (shiftL f a) else []) else []
theorem set_bd {l : List Int} {B y : Int} {i : Nat} (h : ∀ j, -B ≤ l.getD j 0 ∧ l.getD j 0 ≤ B) (hy : -B ≤ y ∧ y ≤ B) : ∀ j, -B ≤ (l.set i y).getD j 0 ∧ (l.set i y).getD j 0 ≤ B := by
  intro j
  by_cases e : j = i
  · subst e
    by_cases hj : j < l.length
    · simp [List.getD, hj]; exact hy
    · rw [getD_out (by rw [List.length_set]; omega)]
      have := h j
      rw [getD_out (by omega)] at this; exact this
  · have : (l.set i y).getD j 0 = l.getD j 0 := by simp [List.getD, List.getElem?_set_ne (Ne.symm e)]
    rw [this]; exact h j
set_option maxRecDepth 20000
end Go.Proofs.Ytjmecidbnoimnaa
namespace Go.Proofs.Ytjmecidbnoimnaa
open Go.RowKit
set_option linter.unusedVariables false
set_option maxRecDepth 20000
set_option linter.unusedSimpArgs false
/-- a list of integers that came in -/
def ArgInt (w : World) (o : Option Addr) (l : List Int) : Prop :=
  l.length = 0 ∨ ∃ b off, o = some ⟨b, off, none⟩ ∧ b < w.heap.size ∧ ∀ k, k < l.length → w.cell? ⟨b, off + k, none⟩ = some (.int .i64 (l.getD k 0))
theorem argInt_below {w w' : World} {o : Option Addr} {l : List Int} (h : ArgInt w o l) (hb : Below w.heap.size w w') : ArgInt w' o l := by
  rcases h with h | ⟨b, off, rfl, hlt, hc⟩
  · exact .inl h
  · exact .inr ⟨b, off, rfl, Nat.lt_of_lt_of_le hlt hb.size, fun k hk => by rw [hb.cell (p := ⟨b, off + k, none⟩) hlt]; exact hc k hk⟩
set_option maxRecDepth 100000 in
set_option maxHeartbeats 1600000 in
theorem toInt64S_any (o : Option Addr) (c : Nat) (l : List Int) (w : World) (hn : l.length ≤ 1048576) (ha : ArgInt w o l) :
    Calls Try.prog 28 #[.slice o l.length c] w fun e w' => ∃ v, e = .returned v ∧ IntRow w.heap.size w' v l ∧ Below w.heap.size w w' := by
  obtain ⟨i0, hi, hz0, hz1, hz2⟩ := info_parts Try.infoInt64
  have HI := Lib.hid hi
  have HZ0 := Lib.hid hz0
  have HZ1 := Lib.hid hz1
  have HZ2 := Lib.hid hz2
  have HA := Lib.hid ha
  clear hi hz0 hz1 hz2 ha
  go_enter Try.func28, Try.ntmps28
  go_wp2_with (at_make; refine wpList_make_full _ rfl (.tmp 6) (.tmp 6) 27 rfl w.heap.size 2 i0 (.int .i64 0) 1 Try.underlying27 HI.out HZ0.out HZ1.out .i64 .i64 _ _ l.length rfl rfl rfl rfl ?m1 ?m2 (Nat.le_refl _) ?_)
  case m1 => rw [HZ2.out]; omega
  case m2 => unfold maxLen; omega
  intro w2 hown hgrow
  have HO := Lib.hid hown
  have HB2 := Lib.hid ((Below.refl w.heap.size w).grown hgrow (Nat.le_refl _) (fun k h => by cases h))
  clear hown hgrow
  go_wp2
  go_loopw [4] (fun i wr => ∃ (k : Nat) (xs : List Value), k ≤ l.length ∧ i = .int .i64 k ∧ wr.ownsRow w.heap.size 2 1 (.slice (some ⟨w.heap.size, 0, none⟩) l.length l.length) l.length xs ∧ (∀ j, j < k → xs[j]? = (l.map (Value.int .i64))[j]?) ∧ Below w.heap.size w wr) (fun i _ => l.length - (intOf i).toNat)
  case atStart => exact ⟨0, _, Nat.zero_le _, rfl, HO.out, fun j h => absurd h (by omega), HB2.out⟩
  case round =>
    obtain ⟨k, xs, hk, rfl, hrow, hxs, hb⟩ := hrel
    have HW := Lib.hid hrow
    have HX := Lib.hid hxs
    have HB := Lib.hid hb
    have bs := hb.size
    have HXL := Lib.hid hrow.1
    clear hrow hxs
    by_cases hlt : k < l.length
    · rcases HA.out with hz | ⟨b, off, rfl, hbw, hcell⟩
      · omega
      · have a1 := hcell k hlt
        rw [← hb.cell (by exact hbw)] at a1
        clear hb hcell
        have HP := Lib.hid (show (l.map (Value.int .i64))[k]? = some (.int .i64 (l.getD k 0)) by simp [List.getD, hlt])
        generalize l.getD k 0 = x1 at *
        have S1 := Lib.hid (World.ownsRow.stored HW.out k (.int .i64 x1))
        have c3 := World.ownsRow.cellAt HW.out k (by omega)
        have f3 := World.ownsRow.frozenAt HW.out k
        obtain ⟨u3, hu3⟩ : ∃ u, xs[k]? = some u := ⟨_, List.getElem?_eq_getElem (by have := HXL.out; omega)⟩
        rw [hu3] at c3
        clear hu3
        have HN : Hid (∀ j, j < k + 1 → (xs.set k (.int .i64 x1))[j]? = (l.map (Value.int .i64))[j]?) := by
          intro j hj
          have hl2 := HXL.out
          by_cases e2 : j = k
          · subst e2
            rw [List.getElem?_set_self (by omega)]; exact HP.out.symm
          · rw [List.getElem?_set_ne (by omega)]; exact HX.out j (by omega)
        go_wp2
        exact ⟨⟨k + 1, _, by omega, by go_num, S1.out.1, HN.out, HB.out.setCell (Nat.le_refl _) _⟩, by simp only [intOf]; omega⟩
    · have hkl : k = l.length := by omega
      have HE : Hid (xs = l.map (Value.int .i64)) := by
        show xs = l.map (Value.int .i64)
        apply List.ext_getElem?
        intro j
        by_cases hj : j < k
        · exact HX.out j hj
        · rw [List.getElem?_eq_none (by have := HXL.out; omega), List.getElem?_eq_none (by rw [List.length_map]; omega)]
      clear hkl
      go_wp2
      go_ret
      exact ⟨_, rfl, by have h := HW.out; rw [HE.out] at h; exact h, hb⟩

theorem arg_of_row {a : Option Addr} {len cap : Nat} {z : List Int} {w : World}
    (h : (a = none ∧ len = 0 ∧ cap = 0 ∧ z = []) ∨ ∃ x, a = some x ∧ len ≤ cap ∧ cap ≤ maxLen ∧ z.length = cap ∧ (∀ i, i < z.length → w.cell? (x.add i) = some (.int .i64 (z.getD i 0))) ∧ ∀ n ∈ z, (Lit.int .i64 n).wf = true) :
    ∃ l : List Int, l.length = len ∧ ArgInt w a l := by
  rcases h with ⟨rfl, rfl, rfl, rfl⟩ | ⟨x, rfl, h1, h2, h3, h4, _⟩
  · exact ⟨[], rfl, .inl rfl⟩
  · refine ⟨z.take len, by rw [List.length_take]; omega, ?_⟩
    by_cases h0 : len = 0
    · exact .inl (by rw [List.length_take]; omega)
    · obtain ⟨b, off, spot⟩ := x
      have c0 := h4 0 (by omega)
      have hs : spot = none := by
        cases spot with
        | none => rfl
        | some s =>
          simp only [World.cell?, Addr.add] at c0
          cases hh : w.heap[b]? with
          | none => simp [hh] at c0
          | some o => cases o <;> simp [hh] at c0
      subst hs
      have hlt := World.block_lt_of_cell? _ _ c0
      refine .inr ⟨b, off, rfl, hlt, fun k hk => ?_⟩
      rw [List.length_take] at hk
      have c := h4 k (by omega)
      have e : (⟨b, off, none⟩ : Addr).add k = ⟨b, off + k, none⟩ := by
        by_cases hk0 : k = 0
        · subst hk0; simp [Addr.add]
        · simp [Addr.add, hk0]
      rw [e] at c
      rw [c]
      congr 2
      simp [List.getD, List.getElem?_take, show k < len by omega]
theorem len_of_row {a : Option Addr} {len cap : Nat} {z : List Int} {w : World}
    (h : (a = none ∧ len = 0 ∧ cap = 0 ∧ z = []) ∨ ∃ x, a = some x ∧ len ≤ cap ∧ cap ≤ maxLen ∧ z.length = cap ∧ (∀ i, i < z.length → w.cell? (x.add i) = some (.int .i64 (z.getD i 0))) ∧ ∀ n ∈ z, (Lit.int .i64 n).wf = true) : (len : Int) ≤ 9223372036854775807 := by
  rcases h with ⟨_, rfl, _⟩ | ⟨x, _, h1, h2, _⟩
  · omega
  · unfold maxLen at h2; omega
theorem row_seen {b n c : Nat} {o : Option Addr} {w : World} {l : List Int} (h : IntRow b w (.slice o n c) l) (hl : l.length ≤ 1100000) : Seen w o n c l := by
  obtain ⟨o', c', e, hs⟩ := seen_row h hl
  injection e with e1 e2 e3
  subst e1 e2 e3
  exact hs
/-- two rows: the younger one stays where the elder one is marked -/
theorem row_apart2 {w w' : World} {b1 b2 : Nat} {T : TypeId} {sz : Nat} {v v' : Value} {n n' : Nat} {xs xs' : List Value} {T' : TypeId} {sz' : Nat} {w0 : World}
    (h : w.ownsRow b2 T sz v n xs) (h' : w0.ownsRow b1 T' sz' v' n' xs') (hs : w0.heap.size ≤ b2) (hg : w.grownBy w' v'.ownBlock) : w'.ownsRow b2 T sz v n xs := by
  refine h.kept hg ?_
  cases hv : v.ownBlock with
  | none => exact .inl rfl
  | some k =>
    right
    intro he
    have h1 := h.lt k hv
    have h2 := h'.lt k he.symm
    omega
theorem resL_len (l : List Int) : (resL l).length ≤ 9 := by
  unfold resL
  split
  · rename_i h; exact (polyB_of h).1
  · simp
theorem if_len {b : Bool} {l : List Int} : (if b = true then resL l else []).length ≤ 9 := by
  split
  · exact resL_len l
  · simp
theorem shiftQ_len (l : List Int) (a : Int) : (shiftQ l a).length ≤ 9 := by
  unfold shiftQ
  split
  · split
    · exact resL_len _
    · simp
  · simp
end Go.Proofs.Ytjmecidbnoimnaa
namespace Go.Proofs.Ytjmecidbnoimnaa
open Go.RowKit
set_option linter.unusedVariables false
set_option maxRecDepth 20000
set_option linter.unusedSimpArgs false
theorem ringM_8 {p : Int} (hs : smallB p = true) : ringM p 1 = p := by
  obtain ⟨_, hp⟩ := smallB_bd hs
  have : p ^ (1 : Int).toNat = p := by simp [Int.pow_succ]
  unfold ringM
  rw [this, hs]
  simp [show p ≤ 1000000000 by omega]
theorem remainder8_any (x m : Int) (w : World) (h1 : 2 ≤ m) (h2 : m ≤ 1000000000) :
    Calls Try.prog 158 #[.int .i64 x, .int .i64 m] w fun e w' => e = .returned (.int .i64 (x % m)) ∧ w = w' := by
  have hm : (m == 0) = false := by simp; omega
  have hb := tmod_bd (x := x) (show 0 < m by omega)
  by_cases h : x.tmod m < 0
  · have HE := Lib.hid (rem_neg (by omega) h)
    go_enter Try.func158, Try.ntmps158
    go_wp2
    go_ret
    exact ⟨ret_int HE.out, rfl⟩
  · have HE := Lib.hid (rem_pos (by omega) h)
    go_enter Try.func158, Try.ntmps158
    go_wp2
    go_ret
    exact ⟨ret_int HE.out, rfl⟩
theorem mod8_any (x m : Int) (w : World) (h1 : 2 ≤ m) (h2 : m ≤ 1000000000) :
    Calls Try.prog 98 #[.int .i64 x, .int .i64 m] w fun e w' => e = .returned (.int .i64 (x % m)) ∧ w = w' := by
  have hm : (m == 0) = false := by simp; omega
  have hb := tmod_bd (x := x) (show 0 < m by omega)
  have HE := Lib.hid (mod_twice2 (x := x) (show 0 < m by omega))
  go_enter Try.func98, Try.ntmps98
  go_wp2
  go_ret
  exact ⟨ret_int HE.out, rfl⟩
theorem inverse8_any (a m : Int) (w : World) (h1 : 0 ≤ a) (h2 : a < m) (hm1 : 2 ≤ m) (hm2 : m ≤ 1000000000) :
    Calls Try.prog 156 #[.int .i64 a, .int .i64 m] w fun e w' => e = .returned (.int .i64 (bezX a m % m)) ∧ w = w' := by
  have hva : valueB a = true := valueB_t (by omega) (by omega)
  have hvm : valueB m = true := valueB_t (by omega) (by omega)
  go_enter Try.func156, Try.ntmps156
  go_wp2_with (first | (go_at_call 172; refine (implBez_val _ _ _ hva hvm).mono ?_; rintro e wn ⟨rfl, rfl⟩) | (go_at_call 158; refine (remainder8_any _ _ _ hm1 hm2).mono ?_; rintro e wn ⟨rfl, rfl⟩))
  go_ret
  exact ⟨rfl, rfl⟩
theorem l02Inv8_any (a m : Int) (w : World) (h1 : 0 ≤ a) (h2 : a < m) (hm1 : 2 ≤ m) (hm2 : m ≤ 1000000000) :
    Calls Try.prog 134 #[.int .i64 a, .int .i64 m] w fun e w' => e = .returned (.int .i64 (bezX a m % m)) ∧ w = w' := by
  have hv1 : -1000000000000 ≤ a := by omega
  have hv2 : a ≤ 1000000000000 := by omega
  have hv3 : -1000000000000 ≤ m := by omega
  have hv4 : m ≤ 1000000000000 := by omega
  go_enter Try.func134, Try.ntmps134
  go_wp2_with (first | (go_at_call 147; refine (l01Bez_any _ _ _ hv1 hv2 hv3 hv4).mono ?_; rintro e wn ⟨rfl, rfl⟩) | (go_at_call 98; refine (mod8_any _ _ _ hm1 hm2).mono ?_; rintro e wn ⟨rfl, rfl⟩))
  go_ret
  exact ⟨rfl, rfl⟩
/-- the ring by p: its two numbers -/
abbrev R1 (p : Int) : Value := .agg #[.int .i64 p, .int .i64 1]
theorem modulus8_any (p : Int) (hs : smallB p = true) (w : World) :
    Calls Try.prog 115 #[R1 p] w fun e w' => e = .returned (.int .i64 p) ∧ Below w.heap.size w w' := by
  have h := implModulus_any p 1 w
  rw [ringM_8 hs] at h
  exact h
theorem ringBy_any (p : Int) (w : World) :
    Calls Try.prog 80 #[.int .i64 p] w fun e w' => e = .returned (R1 p) ∧ Below w.heap.size w w' := by
  have hb : Below w.heap.size w (w.alloc (.cells #[.int .i64 p, .int .i64 1] 85)) := (Below.refl _ _).alloc (Nat.le_refl _) _
  go_enter Try.func80, Try.ntmps80
  go_wp2
  exact bodyPost_ret (v := R1 p) (by simp [results, Try.results80, go_sem]) rfl ⟨rfl, hb⟩
/-! lists -/
/-- a list that lies in a row from some place on -/
def SeenD (w : World) (o : Option Addr) (n c : Nat) (l : List Int) : Prop :=
  n = l.length ∧ n ≤ 1100000 ∧ (o = none → c = 0) ∧ n ≤ c ∧ ∃ g d, (0 < n → o = some ⟨g, d, none⟩ ∧ g < w.heap.size) ∧ ∀ k, k < n → w.cell? ⟨g, d + k, none⟩ = some (.int .i64 (l.getD k 0))
theorem seen_d {w : World} {o : Option Addr} {n c : Nat} {l : List Int} (h : Seen w o n c l) : SeenD w o n c l := by
  obtain ⟨hl, hn, ho, hnc, g, h1, h2⟩ := h
  exact ⟨hl, hn, ho, hnc, g, 0, h1, fun k hk => by rw [Nat.zero_add]; exact h2 k hk⟩
theorem seenD_below {w w' : World} {o : Option Addr} {n c : Nat} {l : List Int} (h : SeenD w o n c l) (hb : Below w.heap.size w w') : SeenD w' o n c l := by
  obtain ⟨hl, hn, ho, hnc, g, d, h1, h2⟩ := h
  refine ⟨hl, hn, ho, hnc, g, d, fun h0 => ⟨(h1 h0).1, by have := (h1 h0).2; have := hb.size; omega⟩, fun i hi => ?_⟩
  rw [hb.cell (p := ⟨g, d + i, none⟩) (h1 (by omega)).2]; exact h2 i hi
end Go.Proofs.Ytjmecidbnoimnaa
namespace Go.Proofs.Ytjmecidbnoimnaa
open Go.RowKit
set_option linter.unusedVariables false
set_option linter.unusedSimpArgs false
set_option maxRecDepth 20000
def resB (p : Int) (f : List Int) : Bool := f.all fun x => inB x 0 (p - 1)
theorem modB_eq (p : Int) (f : List Int) : modB p f = (smallB p && (decide (f.length ≤ 9) && (resB p f && lastB f))) := rfl
set_option maxHeartbeats 1000000 in
theorem specIsMod_any (p : Int) {o : Option Addr} {n c : Nat} {f : List Int} {w : World} (h : Seen w o n c f) :
    Calls Try.prog 77 #[.int .i64 p, .slice o n c] w fun e w' => e = .returned (.bool (modB p f)) ∧ w = w' := by
  obtain ⟨hl, hn, hno, hnc, g, h1, h2⟩ := h
  clear hno hnc
  have HO := Lib.hid fun h => (h1 h).1
  have HL := Lib.hid hl
  have HC := Lib.hid h2
  clear h1 h2 hl
  cases hs : smallB p
  · have HP := Lib.hid (show modB p f = false by rw [modB_eq, hs, Bool.false_and])
    go_enter Try.func77, Try.ntmps77
    go_wp2_with fail
    refine (l01Small_any p w).mono ?_
    rw [hs]
    rintro e w2 ⟨rfl, rfl⟩
    go_wp2_with fail
    go_ret
    rw [HP.out]; exact ⟨rfl, rfl⟩
  · by_cases h9 : n ≤ 9
    · obtain ⟨p2, p97⟩ := smallB_bd hs
      have wp1 : IntKind.i64.wrap (p - 1) = p - 1 := IntWalk.i64_in _ (by omega)
      go_enter Try.func77, Try.ntmps77
      go_wp2_with fail
      refine (l01Small_any p w).mono ?_
      rw [hs]
      rintro e w2 ⟨rfl, rfl⟩
      go_wp2_with fail
      go_loop [5] (fun i => ∃ k : Nat, k ≤ n ∧ i = .int .i64 k ∧ resB p (f.take k) = true) (fun i => n - (intOf i).toNat)
      case atStart => exact ⟨0, Nat.zero_le _, rfl, by simp [resB]⟩
      case round =>
        obtain ⟨k, hk, rfl, hall⟩ := hrel
        by_cases hlt : k < n
        · have hkl : k < f.length := by have := HL.out; omega
          have hog := HO.out (by omega)
          subst hog
          have a2 := HC.out k hlt
          have HA := Lib.hid (all_take6 (f := fun x => inB x 0 (p - 1)) hkl)
          cases hc : inB (f.getD k 0) 0 (p - 1)
          · have HP := Lib.hid (show modB p f = false by rw [modB_eq, show resB p f = false from all_false hkl hc]; simp)
            generalize f.getD k 0 = x at *
            clear hkl hall
            go_wp2_with fail
            refine (in_any x 0 (p - 1) w).mono ?_
            rw [hc]
            rintro e w2 ⟨rfl, rfl⟩
            go_wp2_with fail
            go_ret
            rw [HP.out]; exact ⟨rfl, rfl⟩
          · have HE := Lib.hid (show resB p (f.take (k + 1)) = true by unfold resB at hall ⊢; rw [HA.out, hall]; simpa using hc)
            generalize f.getD k 0 = x at *
            clear hkl hall
            go_wp2_with fail
            refine (in_any x 0 (p - 1) w).mono ?_
            rw [hc]
            rintro e w2 ⟨rfl, rfl⟩
            go_wp2_with fail
            exact ⟨⟨k + 1, by omega, by go_num, HE.out⟩, by simp [intOf]; omega⟩
        · have hkn : k = n := by omega
          rw [hkn, HL.out, List.take_of_length_le (Nat.le_refl _)] at hall
          clear hlt
          by_cases h0 : n = 0
          · have HP := Lib.hid (show modB p f = true by
              have := HL.out
              rw [modB_eq, hs, hall, show decide (f.length ≤ 9) = true by simp; omega]
              simp [lastB, ← this, h0])
            clear hall
            subst h0
            go_wp2_with fail
            go_ret
            rw [HP.out]; exact ⟨rfl, rfl⟩
          · have hog := HO.out (by omega)
            subst hog
            have a2 := HC.out (n - 1) (by omega)
            have HP := Lib.hid (show modB p f = !(f.getD (n - 1) 0 == 0) by
              have := HL.out
              rw [modB_eq, hs, hall, show decide (f.length ≤ 9) = true by simp; omega]
              rw [this] at h0 ⊢
              simp only [lastB, Bool.true_and, decide_eq_false h0, Bool.false_or])
            generalize f.getD (n - 1) 0 = x at *
            have h0' : ((n : Int) == 0) = false := by simp; omega
            have hn1 : (n : Int) - 1 = ((n - 1 : Nat) : Int) := by omega
            clear hall
            go_wp2_with fail
            go_ret
            rw [HP.out]; exact ⟨rfl, rfl⟩
    · have h9' : (9 : Int) < (n : Int) := by omega
      have HP := Lib.hid (show modB p f = false by
        have := HL.out
        rw [this] at h9
        rw [modB_eq, decide_eq_false h9]; simp)
      go_enter Try.func77, Try.ntmps77
      go_wp2_with fail
      refine (l01Small_any p w).mono ?_
      rw [hs]
      rintro e w2 ⟨rfl, rfl⟩
      go_wp2_with fail
      go_ret
      rw [HP.out]; exact ⟨rfl, rfl⟩
set_option maxHeartbeats 1000000 in
theorem l08Reduce_any (p : Int) (p2 : 2 ≤ p) (p97 : p ≤ 97) {o : Option Addr} {n c : Nat} {l : List Int} {w : World} (h : Seen w o n c l) (hn9 : n ≤ 1000) :
    Calls Try.prog 105 #[.int .i64 p, .slice o n c] w (OwnPost (redL p l) w) := by
  obtain ⟨hl, hn, hno, hnc, g, h1, h2⟩ := h
  obtain ⟨i0, hi, hz0, hz1, hz2⟩ := info_parts Try.infoInt64
  have HI := Lib.hid hi
  have HZ0 := Lib.hid hz0
  have HZ1 := Lib.hid hz1
  have HZ2 := Lib.hid hz2
  have HO := Lib.hid fun h => (h1 h).1
  have HG := Lib.hid fun h => (h1 h).2
  have HL := Lib.hid hl
  have HC := Lib.hid h2
  clear hi hz0 hz1 hz2 h1 h2 hl hno hnc
  go_enter Try.func105, Try.ntmps105
  go_wp2_with fail
  go_loopw [5, 6] (fun v d wr => ∃ k : Nat, d = .int .i64 k ∧ k ≤ n ∧ IntRow w.heap.size wr v (tabL k fun i => l.getD i 0 % p) ∧ Below w.heap.size w wr) (fun _ d _ => n - (intOf d).toNat)
  case atStart => exact ⟨0, rfl, Nat.zero_le _, intRow_made _, (Below.refl _ _).alloc (Nat.le_refl _) _⟩
  case round =>
    obtain ⟨k, rfl, hk, hrow, hb⟩ := hrel
    have bl : (tabL k fun i => l.getD i 0 % p).length ≤ 1000000 := by rw [tabL_length]; omega
    have bs := hb.size
    have HW := Lib.hid hrow
    have HB := Lib.hid hb
    clear hrow hb
    by_cases hlt : k < n
    · have hog := HO.out (by omega)
      subst hog
      have a2 := HC.out k hlt
      rw [← HB.out.cell (p := ⟨g, k, none⟩) (HG.out (by omega))] at a2
      have HS := Lib.hid (show (tabL (k + 1) fun i => l.getD i 0 % p) = (tabL k fun i => l.getD i 0 % p) ++ [l.getD k 0 % p] from tabL_succ _ _)
      generalize l.getD k 0 = z at *
      generalize (tabL k fun i => l.getD i 0 % p) = acc at *
      go_wp2_with fail
      refine (mod8_any z p wr p2 (by omega)).mono ?_
      rintro e w2 ⟨rfl, rfl⟩
      go_wp2_with (at_builtin; refine wpList_append_own _ rfl (.tmp 14) (.tmp 21) 27 rfl w.heap.size 2 i0 (.int .i64 0) 1 8 Try.underlying27 HI.out HZ0.out HZ1.out HZ2.out rfl (by decide) _ _ _ rfl (HW.out.alloc _) ⟨wr.heap.size, 0, none⟩ 1 1 [.int .i64 (z % p)] rfl rfl ?c1 ?c2 ?c3 ?c4 ?c5 ?_)
      try (case c1 => first | exact news_one _ _ _ | simp [Addr.add])
      try (case c2 => first | exact one_one _ | rfl)
      case c3 => unfold maxLen; omega
      case c4 => omega
      case c5 => first | omega | (simp; omega)
      intro v' w1 hown hgrow _
      have HO2 := Lib.hid (intRow_snoc hown)
      have HG2 := Lib.hid (below_appendI HB.out HW.out hgrow)
      clear hown hgrow
      go_wp2_with fail
      go_roundw
      case rel => exact ⟨k + 1, by first | rfl | go_num, by omega, by rw [HS.out]; exact HO2.out, HG2.out⟩
      case measure => simp [intOf]; omega
    · have hkn : k = l.length := by have := HL.out; omega
      have HT := Lib.hid (show trimL (tabL k fun i => l.getD i 0 % p) = redL p l by rw [hkn]; rfl)
      obtain ⟨o2, c2, rfl, HS2⟩ := seen_row HW.out (by omega)
      have hsz : HS2 = HS2 := rfl
      generalize (tabL k fun i => l.getD i 0 % p) = acc at *
      clear hkn hsz
      go_wp2_with fail
      refine (specTrim_any HS2).mono ?_
      rintro e w2 ⟨v, rfl, hr, hb⟩
      have HR := Lib.hid (intRow_lower hr HB.out.size)
      have HB2 := Lib.hid (HB.out.trans (hb.mono HB.out.size))
      clear hr hb
      go_wp2_with fail
      go_ret
      rw [← HT.out]
      exact ⟨_, rfl, HR.out, HB2.out⟩
def rdC (p : Int) (f : List Int) : Int := if smallB p && polyB f then 0 else 1
def rdQ (p : Int) (f : List Int) : List Int := if smallB p && polyB f then redL p f else []
theorem prodL_le (p : Int) (f g : List Int) : (prodL p f g).length ≤ f.length + g.length := by have := prodL_len p f g; omega
theorem l08Mul_any (p : Int) (p2 : 2 ≤ p) (p97 : p ≤ 97) {o o' : Option Addr} {n n' c c' : Nat} {f g : List Int} {w : World} (h : Seen w o n c f) (h' : Seen w o' n' c' g) (hp : polyB f = true) (hq : polyB g = true) :
    Calls Try.prog 78 #[.int .i64 p, .slice o n c, .slice o' n' c'] w (OwnPost (prodL p f g) w) := by
  have HS := Lib.hid h
  have HS' := Lib.hid h'
  have hm : (trimL (mulL f g)).length ≤ 18 := by
    have h1 := mulL_le f g
    have h2 := (polyB_of hp).1
    have h3 := (polyB_of hq).1
    exact trim_le (by omega)
  have HE := Lib.hid (show redL p (trimL (mulL f g)) = prodL p f g from redL_trim _)
  clear h h'
  go_enter Try.func78, Try.ntmps78
  go_wp2_with fail
  refine (l06Mul_any HS.out HS'.out hp hq).mono ?_
  rintro e w2 ⟨v, rfl, hr, hb⟩
  obtain ⟨o2, c2, rfl, HS2⟩ := seen_row hr (by omega)
  have HB := Lib.hid hb
  clear hr hb
  go_wp2_with fail
  refine (l08Reduce_any p p2 p97 HS2 (by omega)).mono ?_
  rw [HE.out]
  rintro e w3 ⟨v, rfl, hr3, hb3⟩
  have HR := Lib.hid (intRow_lower hr3 HB.out.size)
  have HB2 := Lib.hid (HB.out.trans (hb3.mono HB.out.size))
  clear hr3 hb3
  go_wp2_with fail
  go_ret
  exact ⟨_, rfl, HR.out, HB2.out⟩
def twoM (p : Int) (f g : List Int) : Bool := modB p f && modB p g
def mmC (p : Int) (f g : List Int) : Int := if twoM p f g then (if (prodL p f g).length ≤ 9 then 0 else 3) else 1
def mmQ (p : Int) (f g : List Int) : List Int := if mmC p f g = 0 then prodL p f g else []
theorem twoM_of {p : Int} {f g : List Int} (h : twoM p f g = true) : modB p f = true ∧ modB p g = true := by
  simpa [twoM] using h
theorem modB_poly {p : Int} {f : List Int} (h : modB p f = true) : polyB f = true := mod_poly (modB_of h).top (modB_of h).len (modB_of h).mod
theorem modB_small {p : Int} {f : List Int} (h : modB p f = true) : smallB p = true := by simp only [modB, Bool.and_eq_true] at h; exact h.1
theorem mmC_none {p : Int} {f g : List Int} (h : twoM p f g = false) : mmC p f g = 1 ∧ mmQ p f g = [] := by
  have e : mmC p f g = 1 := by simp [mmC, h]
  exact ⟨e, by simp [mmQ, e]⟩
theorem mmC_long {p : Int} {f g : List Int} (h : twoM p f g = true) (hl : ¬ (prodL p f g).length ≤ 9) : mmC p f g = 3 ∧ mmQ p f g = [] := by
  have e : mmC p f g = 3 := by simp [mmC, h, hl]
  exact ⟨e, by simp [mmQ, e]⟩
theorem mmC_fit {p : Int} {f g : List Int} (h : twoM p f g = true) (hl : (prodL p f g).length ≤ 9) : mmC p f g = 0 ∧ mmQ p f g = prodL p f g := by
  have e : mmC p f g = 0 := by simp [mmC, h, hl]
  exact ⟨e, by simp [mmQ, e]⟩
end Go.Proofs.Ytjmecidbnoimnaa
namespace Go.Proofs.Ytjmecidbnoimnaa
open Go.RowKit
set_option linter.unusedVariables false
set_option linter.unusedSimpArgs false
set_option maxRecDepth 20000
theorem row_other8 {b : Nat} {w : World} {v : Value} {l : List Int} (h : IntRow b w v l) {a : Addr} (ha : v.ownBlock ≠ some a.block) (u : Value) : IntRow b (w.setCell a u) v l := ownsRow_setCell_other h ha u
theorem own_ne8 {G Q n c : Nat} (h : G ≠ Q) : (Value.slice (some ⟨G, 0, none⟩) n c).ownBlock ≠ some Q := by
  show some G ≠ some Q
  exact fun e => h (by injection e)
theorem apart8 {w1 w2 : World} {b : Nat} {v u : Value} {l m : List Int} (h : IntRow b w1 v l) (h2 : IntRow w1.heap.size w2 u m) : v.ownBlock = none ∨ v.ownBlock ≠ u.ownBlock := by
  cases hv : v.ownBlock with
  | none => exact .inl rfl
  | some k =>
    right
    intro e
    have a1 := World.ownsRow.lt h k hv
    have a2 := World.ownsRow.lt h2 k e.symm
    omega
/-- two lists as results -/
def Own2Post (l m : List Int) (w : World) (e : Ending) (w' : World) : Prop :=
  ∃ v u, e = .returned (.tuple #[v, u]) ∧ IntRow w.heap.size w' v l ∧ IntRow w.heap.size w' u m ∧ Below w.heap.size w w' ∧ (v.ownBlock = none ∨ v.ownBlock ≠ u.ownBlock)
/-- what the division's numbers are like -/
theorem mdS_lt {p inv : Int} {f g : List Int} {N : Nat} (hf : ModP p f) (k j : Nat) : 0 ≤ mdS p inv g (fun j => f.getD j 0) N k j ∧ mdS p inv g (fun j => f.getD j 0) N k j < p :=
  mdS_rng (by have := hf.rng 0; omega) hf.rng k j
theorem invP_lt {p : Int} {g : List Int} (p2 : 2 ≤ p) : 0 ≤ invP p g ∧ invP p g < p := ⟨Int.emod_nonneg _ (by omega), Int.emod_lt_of_pos _ (by omega)⟩
theorem prod_small {p x y : Int} (p97 : p ≤ 97) (hx : 0 ≤ x ∧ x < p) (hy : 0 ≤ y ∧ y < p) : 0 ≤ x * y ∧ x * y ≤ 9409 := by
  have h1 := Int.mul_nonneg hx.1 hy.1
  have h2 := Int.mul_le_mul (show x ≤ 97 by omega) (show y ≤ 97 by omega) hy.1 (by omega)
  omega
set_option maxHeartbeats 8000000 in
theorem l08Div_any (p : Int) (hs : smallB p = true) {o o' : Option Addr} {n n' c c' : Nat} {f g : List Int} {w : World} (h : Seen w o n c f) (h' : Seen w o' n' c' g) (hf : ModP p f) (hg : ModP p g) (h0 : g.length ≠ 0) (hn20 : n ≤ 20) (hn9' : n' ≤ 20) :
    Calls Try.prog 130 #[.int .i64 p, .slice o n c, .slice o' n' c'] w (Own2Post (quoP p f g) (remP p f g) w) := by
  obtain ⟨p2, p97, pp⟩ := small_prime hs
  have HS := Lib.hid h
  obtain ⟨hl', hn', hno', hnc', a', h1', h2'⟩ := h'
  obtain ⟨rfl, hag'⟩ := h1' (by omega)
  have b1 := h2' (n' - 1) (by omega)
  have hn1 : (n' : Int) - 1 = ((n' - 1 : Nat) : Int) := by omega
  have HC' := Lib.hid h2'
  have HL' := Lib.hid hl'
  have HL := Lib.hid h.1
  obtain ⟨i0, hi, hz0, hz1, hz2⟩ := info_parts Try.infoInt64
  have HI := Lib.hid hi
  have HZ0 := Lib.hid hz0
  have HZ1 := Lib.hid hz1
  have HZ2 := Lib.hid hz2
  have HF := Lib.hid hf
  have HG := Lib.hid hg
  have hpz : (p == 0) = false := by simp; omega
  have hle1 : 1 ≤ n' := by omega
  have hn1' : n' - 1 < n' := by omega
  have hlast := hg.rng (n' - 1)
  have HV := Lib.hid (show invP p g = bezX (g.getD (n' - 1) 0) p % p by unfold invP; rw [← hl'])
  generalize hla : g.getD (n' - 1) 0 = la at *
  obtain ⟨iv, hiv⟩ : ∃ x, invP p g = x := ⟨_, rfl⟩
  have hivb := invP_lt (p := p) (g := g) p2
  rw [hiv] at HV hivb
  have HIV := Lib.hid hiv
  obtain ⟨la0, la1⟩ := hlast
  obtain ⟨iv0, iv1⟩ := hivb
  clear h h1' h2' hl' hn' hno' hnc' hi hz0 hz1 hz2 hf hg h0 hla hiv
  go_enter Try.func130, Try.ntmps130
  go_wp2_with fail
  refine (specOwn_any HS.out).mono ?_
  rintro e W1 ⟨v, rfl, hr1, hb1⟩
  have HR1 := Lib.hid hr1
  have HB1 := Lib.hid hb1
  have hbs := hb1.size
  have b1' : W1.cell? ⟨a', n' - 1, none⟩ = some (.int .i64 la) := by rw [hb1.cell (p := ⟨a', n' - 1, none⟩) hag']; exact b1
  clear b1
  by_cases hle : n' ≤ n
  · obtain ⟨q, hqq⟩ : ∃ q, n + 1 - n' = q := ⟨_, rfl⟩
    have hsum : (n : Int) - (n' : Int) + 1 = (q : Int) := by omega
    have hq0 : max (0 : Int) (q : Int) = (q : Int) := by omega
    have hq9 : q ≤ 20 := by omega
    have hqn : q + g.length = f.length + 1 := by have := HL.out; have := HL'.out; omega
    have HQN := Lib.hid hqn
    have hr1' : W1.ownsRow w.heap.size 2 1 v n (f.map (Value.int .i64)) := by rw [HL.out]; exact hr1
    rcases row_shape hr1' with ⟨hz, _⟩ | ⟨_, G, cap, rfl, hbg, hgw⟩
    · omega
    clear hr1 hr1' hb1 hqn hqq
    have hm0 : max (0 : Int) ((n : Int) - (n' : Int) + 1) = (q : Int) := by omega
    go_upto_region 2 with fail
    go_wp2_with (at_make; refine wpList_make_full _ rfl (.tmp 22) (.tmp 22) 27 rfl W1.heap.size 2 i0 (.int .i64 0) 1 Try.underlying27 HI.out HZ0.out HZ1.out .i64 .i64 _ _ q rfl rfl rfl rfl (by rw [HZ2.out]; omega) (by unfold maxLen; omega) (Nat.le_refl _) ?_; intro w2 hown hgrow; have b2 : w2.cell? ⟨a', n' - 1, none⟩ = some (.int .i64 la) := (by rw [(HB1.out.grown hgrow hbs (fun k h => by cases h)).cell (p := ⟨a', n' - 1, none⟩) hag', ← HB1.out.cell (p := ⟨a', n' - 1, none⟩) hag']; exact b1'))
    have HB2 := Lib.hid (HB1.out.grown hgrow hbs (fun k h => by cases h))
    have HR2 := Lib.hid (show IntRow w.heap.size w2 (.slice (some ⟨G, 0, none⟩) n cap) f from World.ownsRow.kept HR1.out hgrow (.inr (by intro e; cases e)))
    have HQ2 := Lib.hid (int_made hown)
    have hGQ : G ≠ W1.heap.size := by omega
    generalize W1.heap.size = Q at *
    clear hown hgrow HR1 HB1 hm0 hsum hq0 b1'
    go_wp2_with fail
    refine (l02Inv8_any la p w2 la0 la1 p2 (by omega)).mono ?_
    rw [← HV.out]
    rintro e w3 ⟨rfl, rfl⟩
    clear b2
    go_wp2_with fail
    go_loopw [11] (fun s wr => ∃ (k : Nat) (y : Int), k + n' ≤ n + 1 ∧ s = .int .i64 y ∧ y = (n : Int) - (n' : Int) - (k : Int) ∧ IntRow w.heap.size wr (.slice (some ⟨G, 0, none⟩) n cap) (tabL n (mdS p iv g (fun j => f.getD j 0) n k)) ∧ IntRow Q wr (.slice (some ⟨Q, 0, none⟩) q q) (qX p iv f g q k) ∧ Below w.heap.size w wr) (fun s _ => (intOf s + 1).toNat)
    case atStart =>
      refine ⟨0, (q : Int) - 1, by omega, by first | rfl | go_num, by have := HQN.out; have := HL.out; have := HL'.out; omega, ?_, ?_, HB2.out⟩
      · have : f = tabL n (mdS p iv g (fun j => f.getD j 0) n 0) := by
          refine ext_getD (by rw [tabL_length]; exact HL.out.symm) fun i hi => ?_
          rw [tabL_getD (by have := HL.out; omega)]; rfl
        rw [← this]; exact HR2.out
      · rw [qX_zero HQN.out]; exact HQ2.out
    case round =>
      obtain ⟨k, y, hk, rfl, hy, hr, hqr, hb⟩ := hrel
      have HR := Lib.hid hr
      have HQ := Lib.hid hqr
      have HB := Lib.hid hb
      have HY := Lib.hid hy
      clear hr hqr hb HR2 HQ2 HB2
      by_cases hlt : 0 ≤ y
      · obtain ⟨i, hi⟩ : ∃ i : Nat, y = i := ⟨y.toNat, by omega⟩
        subst hi
        have hik : i + g.length + k = f.length := by have := HL.out; have := HL'.out; omega
        have HIK := Lib.hid hik
        obtain ⟨s, hs⟩ : ∃ s, i + n' = s := ⟨_, rfl⟩
        have his : (i : Int) + (n' : Int) = (s : Int) := by omega
        have hs0 : s ≤ 20 := by omega
        obtain ⟨m, hm2⟩ : ∃ m, m + 1 = s := ⟨s - 1, by omega⟩
        have hsm : (s : Int) - 1 = (m : Int) := by omega
        have hmn : m < n := by omega
        have hiq : i < q := by have := HQN.out; have := HL.out; have := HL'.out; omega
        have ws : IntKind.i64.wrap (s : Int) = (s : Int) := IntWalk.i64_in _ (by omega)
        have wm : IntKind.i64.wrap (m : Int) = (m : Int) := IntWalk.i64_in _ (by omega)
        have c1 := int_at HR.out (tabL_length _ _) hmn
        rw [tabL_getD hmn] at c1
        have hce : mdC p iv g (fun j => f.getD j 0) n k = mdS p iv g (fun j => f.getD j 0) n k m * iv % p := by unfold mdC; rw [show n - 1 - k = m by have := HIK.out; have := HL.out; have := HL'.out; omega]
        have HCE := Lib.hid (show mdC p iv g (fun j => f.getD j 0) f.length k = mdC p iv g (fun j => f.getD j 0) n k by rw [← HL.out])
        have HSUB := Lib.hid (subX_end (p := p) (inv := iv) (g := g) (r0 := fun j => f.getD j 0) (show i + g.length + k = n by rw [HL.out]; exact hik))
        have HQS := Lib.hid (qX_step (p := p) (inv := iv) (f := f) (g := g) HQN.out hik)
        rw [HCE.out] at HQS
        obtain ⟨y0, y1⟩ := mdS_lt (inv := iv) (g := g) (N := n) HF.out k m
        have hpb := prod_small p97 ⟨y0, y1⟩ ⟨iv0, iv1⟩
        have HBD := Lib.hid (fun j => mdS_lt (inv := iv) (g := g) (N := n) HF.out k j)
        obtain ⟨z, hz⟩ : ∃ z, mdS p iv g (fun j => f.getD j 0) n k m = z := ⟨_, rfl⟩
        rw [hz] at c1 hce hpb y0 y1
        obtain ⟨x, hx⟩ : ∃ x, mdC p iv g (fun j => f.getD j 0) n k = x := ⟨_, rfl⟩
        rw [hx] at hce HSUB HQS
        have wz : IntKind.i64.wrap (z * iv) = z * iv := IntWalk.i64_in _ (by omega)
        have tz : (z * iv).tmod p = x := by rw [tmod_nonneg hpb.1, hce]
        have hx0 : 0 ≤ x ∧ x < p := by rw [hce]; exact ⟨Int.emod_nonneg _ (by omega), Int.emod_lt_of_pos _ (by omega)⟩
        have wx : IntKind.i64.wrap x = x := IntWalk.i64_in _ (by omega)
        have HX0 := Lib.hid hx0
        have f2 := int_frozen HQ.out (qX_length p iv f g q k) i
        have c2 := int_at HQ.out (qX_length p iv f g q k) hiq
        obtain ⟨y2, hy2⟩ : ∃ y2, (qX p iv f g q k).getD i 0 = y2 := ⟨_, rfl⟩
        rw [hy2] at c2
        have HQ1 := Lib.hid (int_stored HQ.out (qX_length p iv f g q k) i x)
        rw [HQS.out] at HQ1
        have HR1 := Lib.hid (row_other8 HR.out (a := ⟨Q, i, none⟩) (own_ne8 hGQ) (.int .i64 x))
        have HB1 := Lib.hid (HB.out.setCell (p := ⟨Q, i, none⟩) hbs (.int .i64 x))
        have hiq' : (i : Int) < (q : Int) := by omega
        have hmn' : (m : Int) < (n : Int) := by omega
        clear HQ hy2 HQS hce hx hz hs hm2 hik HCE hy hx0 hpb y0 y1
        go_upto_region 9 with fail
        generalize wr.setCell ⟨Q, i, none⟩ (.int .i64 x) = W3 at *
        clear c1 c2 f2 HR HB wz tz
        go_wp2_with fail
        go_loopw [13] (fun s wr => ∃ j : Nat, j ≤ n' ∧ s = .int .i64 j ∧ IntRow w.heap.size wr (.slice (some ⟨G, 0, none⟩) n cap) (subX p (mdS p iv g (fun j => f.getD j 0) n k) g x n i j) ∧ IntRow Q wr (.slice (some ⟨Q, 0, none⟩) q q) (qX p iv f g q (k + 1)) ∧ Below w.heap.size w wr) (fun s _ => n' - (intOf s).toNat)
        case atStart => exact ⟨0, Nat.zero_le _, rfl, by rw [subX_zero]; exact HR1.out, HQ1.out, HB1.out⟩
        case round =>
          obtain ⟨j, hj, rfl, hr, hqr, hb⟩ := hrel
          have HR := Lib.hid hr
          have HQ := Lib.hid hqr
          have HB := Lib.hid hb
          clear hr hqr hb HR1 HQ1 HB1
          by_cases hltj : j < n'
          · obtain ⟨t, ht⟩ : ∃ t, i + j = t := ⟨_, rfl⟩
            have hijt : (i : Int) + (j : Int) = (t : Int) := by omega
            have htn : t < n := by have := HIK.out; have := HL.out; have := HL'.out; omega
            have wt : IntKind.i64.wrap (t : Int) = (t : Int) := IntWalk.i64_in _ (by omega)
            have b2 := HC'.out j hltj
            rw [← HB.out.cell (p := ⟨a', j, none⟩) hag'] at b2
            have c4 := int_at HR.out (subX_length _ _ _ _ _ _ _) htn
            rw [subX_at ht htn] at c4
            have f4 := int_frozen HR.out (subX_length _ _ _ _ _ _ _) t
            have HE := Lib.hid (subX_step (p := p) (r := mdS p iv g (fun j => f.getD j 0) n k) (g := g) (c := x) ht htn)
            have hbd := HBD.out t
            have hmd := prod_small p97 HX0.out (HG.out.rng j)
            obtain ⟨z, hzz⟩ : ∃ x, g.getD j 0 = x := ⟨_, rfl⟩
            obtain ⟨r, hrr⟩ : ∃ x, mdS p iv g (fun j => f.getD j 0) n k t = x := ⟨_, rfl⟩
            rw [hzz] at b2 HE hmd
            rw [hrr] at c4 HE hbd
            have w1 : IntKind.i64.wrap (x * z) = x * z := IntWalk.i64_in _ (by omega)
            have w2 : IntKind.i64.wrap (r - x * z) = r - x * z := IntWalk.i64_in _ (by omega)
            have htn' : (t : Int) < (n : Int) := by omega
            have hltj' : (j : Int) < (n' : Int) := by omega
            clear hzz hrr ht hbd hmd
            go_upto_region 12 with fail
            refine wp_region_still_tail 20 (by kernel_rfl) (by kernel_rfl) ?_
            simp only [List.take_succ_cons, List.take_zero, List.drop_succ_cons, List.drop_zero]
            iterate 18 still_step
            still_call ((mod8_any (r - x * z) p _ p2 (by omega)).mono fun e w h => ⟨h.1, h.2.symm⟩)
            repeat still_step
            refine wpStill_nil ?_
            change wpList _ _ _ _ _ wr.drew
            have HR1 := Lib.hid (World.ownsRow.drew HR.out)
            have HQ1 := Lib.hid (World.ownsRow.drew HQ.out)
            have HB1 := Lib.hid (below_drewN HB.out 1)
            replace f4 : wr.drew.frozen? ⟨G, t, none⟩ = false := f4
            replace c4 : wr.drew.cell? ⟨G, t, none⟩ = _ := c4
            replace HR1 : Hid (IntRow w.heap.size wr.drew (.slice (some ⟨G, 0, none⟩) n cap) (subX p (mdS p iv g (fun j => f.getD j 0) n k) g x n i j)) := HR1
            replace HQ1 : Hid (IntRow Q wr.drew (.slice (some ⟨Q, 0, none⟩) q q) (qX p iv f g q (k + 1))) := HQ1
            replace HB1 : Hid (Below w.heap.size w wr.drew) := HB1
            clear HR HQ HB b2
            generalize wr.drew = W4 at *
            have HR3 := Lib.hid (int_stored HR1.out (subX_length _ _ _ _ _ _ _) t ((r - x * z) % p))
            rw [HE.out] at HR3
            have HQ3 := Lib.hid (row_other8 HQ1.out (a := ⟨G, t, none⟩) (own_ne8 (Ne.symm hGQ)) (.int .i64 ((r - x * z) % p)))
            have HB3 := Lib.hid (HB1.out.setCell (p := ⟨G, t, none⟩) hbg (.int .i64 ((r - x * z) % p)))
            clear HR1 HQ1 HB1
            go_wp2_with fail
            exact ⟨⟨j + 1, by omega, by go_num, HR3.out, HQ3.out, HB3.out⟩, by simp only [intOf]; omega⟩
          · have hjn : j = g.length := by have := HL'.out; omega
            have HR2 := Lib.hid (show IntRow w.heap.size wr (.slice (some ⟨G, 0, none⟩) n cap) (tabL n (mdS p iv g (fun j => f.getD j 0) n (k + 1))) by rw [← HSUB.out, ← hjn]; exact HR.out)
            clear HR
            go_wp2_with fail
            exact ⟨⟨k + 1, (i : Int) - 1, by have := HIK.out; have := HL.out; have := HL'.out; omega, by go_num, by have := HY.out; omega, HR2.out, HQ.out, HB.out⟩, by simp only [intOf]; omega⟩
      · have hkq : k = q := by have := HQN.out; have := HL.out; have := HL'.out; omega
        subst hkq
        have t1 : trimL (qX p iv f g k k) = quoP p f g := by rw [← HIV.out]; exact qX_end HQN.out
        have t2 : trimL (tabL n (mdS p iv g (fun j => f.getD j 0) n k)) = remP p f g := by rw [← HIV.out]; exact rX_end HL.out (by have := HQN.out; omega)
        have T1 := Lib.hid t1
        have T2 := Lib.hid t2
        have lq : (qX p iv f g k k).length = k := qX_length _ _ _ _ _ _
        have lr : (tabL n (mdS p iv g (fun j => f.getD j 0) n k)).length = n := tabL_length _ _
        have SQ := Lib.hid (show Seen wr (some ⟨Q, 0, none⟩) k k (qX p iv f g k k) by
          have h := row_seen (o := some ⟨Q, 0, none⟩) (n := (qX p iv f g k k).length) (c := k) (by rw [lq]; exact HQ.out) (by rw [lq]; omega)
          rw [lq] at h; exact h)
        have hbs2 := HB.out.size
        generalize qX p iv f g k k = ql at *
        generalize tabL n (mdS p iv g (fun j => f.getD j 0) n k) = rl at *
        clear t1 t2 HQ hy
        go_wp2_with fail
        refine (specTrim_any SQ.out).mono ?_
        rw [T1.out]
        rintro e W5 ⟨v5, rfl, hr5, hb5⟩
        have HR5 := Lib.hid (row_below HR.out hb5 (Nat.le_refl _))
        have HB5 := Lib.hid (HB.out.trans (hb5.mono HB.out.size))
        have HQ5 := Lib.hid hr5
        have SR := Lib.hid (show Seen W5 (some ⟨G, 0, none⟩) n cap rl by
          have h := row_seen (o := some ⟨G, 0, none⟩) (n := rl.length) (c := cap) (w := W5) (l := rl) (by rw [lr]; exact HR5.out) (by rw [lr]; omega)
          rw [lr] at h; exact h)
        have hbs5 := HB5.out.size
        clear hr5 hb5
        go_wp2_with fail
        refine (specTrim_any SR.out).mono ?_
        rw [T2.out]
        rintro e W6 ⟨v6, rfl, hr6, hb6⟩
        have HQ6 := Lib.hid (row_below HQ5.out hb6 (Nat.le_refl _))
        have HR6 := Lib.hid hr6
        have HAP := Lib.hid (apart8 HQ5.out HR6.out)
        have HB6 := Lib.hid (HB5.out.trans (hb6.mono HB5.out.size))
        have HQ7 := Lib.hid (intRow_lower HQ6.out hbs2)
        have HR7 := Lib.hid (intRow_lower HR6.out hbs5)
        clear hr6 hb6 HQ5 HQ6 HR5 HR6
        go_wp2_with fail
        go_ret2
        exact ⟨v5, v6, rfl, HQ7.out, HR7.out, HB6.out, HAP.out⟩
  · have hsum : (n : Int) - (n' : Int) + 1 ≤ 0 := by omega
    have hm0 : max (0 : Int) ((n : Int) - (n' : Int) + 1) = ((0 : Nat) : Int) := by omega
    have hgf : f.length < g.length := by have := HL.out; have := HL'.out; omega
    have T1 := Lib.hid (few_quo (p := p) hgf)
    have T2 := Lib.hid (few_rem (p := p) hgf)
    obtain ⟨o1, c1, rfl⟩ := row_slice hr1
    clear hgf hr1 hb1
    go_upto_region 2 with fail
    go_wp2_with (at_make; refine wpList_make_full _ rfl (.tmp 22) (.tmp 22) 27 rfl W1.heap.size 2 i0 (.int .i64 0) 1 Try.underlying27 HI.out HZ0.out HZ1.out .i64 .i64 _ _ 0 rfl rfl rfl rfl (by rw [HZ2.out]; omega) (by unfold maxLen; omega) (Nat.le_refl _) ?_; intro w2 hown hgrow; have b2 : w2.cell? ⟨a', n' - 1, none⟩ = some (.int .i64 la) := (by rw [(HB1.out.grown hgrow hbs (fun k h => by cases h)).cell (p := ⟨a', n' - 1, none⟩) hag', ← HB1.out.cell (p := ⟨a', n' - 1, none⟩) hag']; exact b1'))
    have HB2 := Lib.hid (HB1.out.grown hgrow hbs (fun k h => by cases h))
    have HR2 := Lib.hid (show IntRow w.heap.size w2 (.slice o1 f.length c1) f from World.ownsRow.kept HR1.out hgrow (by cases hv : (Value.slice o1 f.length c1).ownBlock with | none => exact .inl rfl | some k => exact .inr (by simp)))
    have HQ2 := Lib.hid (show Seen w2 (some ⟨W1.heap.size, 0, none⟩) 0 0 [] from row_seen (w := w2) (l := []) (int_made hown) (by simp))
    have SR2 := Lib.hid (row_seen HR2.out (by have := HL.out; omega))
    generalize W1.heap.size = Q at *
    have hbs2 := HB2.out.size
    clear hown hgrow HR1 HB1 hm0 hsum b1'
    go_wp2_with fail
    refine (l02Inv8_any la p w2 la0 la1 p2 (by omega)).mono ?_
    rw [← HV.out]
    rintro e w3 ⟨rfl, rfl⟩
    clear b2
    go_wp2_with fail
    refine wp_loop_rounds 1 ?_
    rw [rounds_succ]
    go_wp2_with fail
    refine (specTrim_any HQ2.out).mono ?_
    rintro e W5 ⟨v5, rfl, hr5, hb5⟩
    have HB5 := Lib.hid (HB2.out.trans (hb5.mono HB2.out.size))
    have HQ5 := Lib.hid hr5
    have SR := Lib.hid (seen_below SR2.out hb5)
    have hbs5 := HB5.out.size
    clear hr5 hb5
    go_wp2_with fail
    refine (specTrim_any SR.out).mono ?_
    rw [T2.out]
    rintro e W6 ⟨v6, rfl, hr6, hb6⟩
    have HQ6 := Lib.hid (row_below HQ5.out hb6 (Nat.le_refl _))
    have HR6 := Lib.hid hr6
    have HAP := Lib.hid (apart8 HQ5.out HR6.out)
    have HB6 := Lib.hid (HB5.out.trans (hb6.mono HB5.out.size))
    have HQ7 := Lib.hid (show IntRow w.heap.size W6 v5 (quoP p f g) by rw [T1.out]; exact intRow_lower HQ6.out hbs2)
    have HR7 := Lib.hid (intRow_lower HR6.out hbs5)
    clear hr6 hb6 HQ5 HQ6 HR6
    go_wp2_with fail
    go_ret2
    exact ⟨v5, v6, rfl, HQ7.out, HR7.out, HB6.out, HAP.out⟩
end Go.Proofs.Ytjmecidbnoimnaa
namespace Go.Proofs.Ytjmecidbnoimnaa
open Go.RowKit
set_option linter.unusedVariables false
set_option linter.unusedSimpArgs false
set_option maxRecDepth 20000
def twC (p : Int) (f g : List Int) : Int := if twoM p f g then (if g.length = 0 then 5 else 0) else 1
def dvQ (p : Int) (f g : List Int) : List Int := if twC p f g = 0 then quoP p f g else []
def dvR (p : Int) (f g : List Int) : List Int := if twC p f g = 0 then remP p f g else []
theorem twC_zero {p : Int} {f g : List Int} (h : twC p f g = 0) : modB p f = true ∧ modB p g = true ∧ g.length ≠ 0 := by
  unfold twC at h
  split at h
  · rename_i ht
    split at h
    · omega
    · rename_i h0; exact ⟨(twoM_of ht).1, (twoM_of ht).2, h0⟩
  · omega
/-- two lists and a code -/
def Int2P (l m : List Int) (c : Int) (w : World) (e : Ending) (w' : World) : Prop :=
  ∃ v u, e = .returned (.tuple #[v, u, .int .i64 c]) ∧ IntRow w.heap.size w' v l ∧ IntRow w.heap.size w' u m ∧ Below w.heap.size w w' ∧ (v.ownBlock = none ∨ v.ownBlock ≠ u.ownBlock)
theorem l08Div_mod {p : Int} {o o' : Option Addr} {n n' c c' : Nat} {f g : List Int} {w : World} (hf : modB p f = true) (hg : modB p g = true) (h0 : g.length ≠ 0) (h : Seen w o n c f) (h' : Seen w o' n' c' g) :
    Calls Try.prog 130 #[.int .i64 p, .slice o n c, .slice o' n' c'] w (Own2Post (quoP p f g) (remP p f g) w) := by
  have F := modB_of hf
  have G := modB_of hg
  exact l08Div_any p (modB_small hf) h h' F.mod G.mod h0 (by have := h.1; have := F.len; omega) (by have := h'.1; have := G.len; omega)
theorem seen_one (w : World) (x : Int) (T : TypeId) : Seen (w.alloc (.cells #[.int .i64 x] T)) (some ⟨w.heap.size, 0, none⟩) 1 1 [x] := by
  refine ⟨rfl, by omega, fun h => (by cases h), Nat.le_refl _, w.heap.size, fun _ => ⟨rfl, by simp⟩, fun k hk => ?_⟩
  have e : k = 0 := by omega
  subst e
  rw [World.cell?_alloc_new]; rfl
theorem seen_two (w : World) (x y : Int) (T : TypeId) : Seen (w.alloc (.cells #[.int .i64 x, .int .i64 y] T)) (some ⟨w.heap.size, 0, none⟩) 2 2 [x, y] := by
  refine ⟨rfl, by omega, fun h => (by cases h), Nat.le_refl _, w.heap.size, fun _ => ⟨rfl, by simp⟩, fun k hk => ?_⟩
  have e : k = 0 ∨ k = 1 := by omega
  rcases e with e | e
  · subst e; rw [World.cell?_alloc_new]; rfl
  · subst e; rw [World.cell?_alloc_new]; rfl
theorem inv_poly {p : Int} {f : List Int} (p2 : 2 ≤ p) (p97 : p ≤ 97) (pp : PrimeP p) (hf : ModP p f) (h0 : f.length ≠ 0) : polyB [invP p f] = true := by
  have hi := invP_dvd p2 p97 pp hf (fun e => h0 (by rw [e]; rfl))
  have hn := prime_inv pp hi
  have hb := invP_lt (p := p) (g := f) p2
  generalize invP p f = x at *
  refine polyB_mk (by simp) (fun i hi => ?_) ?_
  · cases i with
    | zero => simp; omega
    | succ i => simp
  · have : ¬ x = 0 := fun e => hn (by rw [e]; exact Int.dvd_zero _)
    simpa [lastB] using this
set_option maxHeartbeats 1000000 in
theorem l08Monic_any (p : Int) (hs : smallB p = true) {o : Option Addr} {n c : Nat} {f : List Int} {w : World} (h : Seen w o n c f) (hf : ModP p f) (hn9 : n ≤ 9) :
    Calls Try.prog 126 #[.int .i64 p, .slice o n c] w (OwnPost (monP p f) w) := by
  obtain ⟨p2, p97, pp⟩ := small_prime hs
  have HS := Lib.hid h
  obtain ⟨hl, hn, hno, hnc, g, h1, h2⟩ := h
  by_cases h0 : n = 0
  · have HE := Lib.hid (show monP p f = [] by unfold monP; rw [if_pos (by omega)])
    have HR := Lib.hid (intRow_made w)
    have HB := Lib.hid ((Below.refl w.heap.size w).alloc (Nat.le_refl _) (.cells #[] 2))
    clear hno h1 h2 hl hs
    subst h0
    go_enter Try.func126, Try.ntmps126
    go_wp2_with fail
    go_ret
    rw [HE.out]
    exact ⟨_, rfl, HR.out, HB.out⟩
  · obtain ⟨rfl, hag⟩ := h1 (by omega)
    have b1 := h2 (n - 1) (by omega)
    have hn1 : (n : Int) - 1 = ((n - 1 : Nat) : Int) := by omega
    have h0' : ((n : Int) == 0) = false := by simp; omega
    have hlast := hf.rng (n - 1)
    have HV := Lib.hid (show invP p f = bezX (f.getD (n - 1) 0) p % p by unfold invP; rw [← hl])
    have hip := inv_poly p2 p97 pp hf (by omega)
    have hfp := mod_poly p97 (by omega) hf
    have HE := Lib.hid (show prodL p f [invP p f] = monP p f by unfold monP prodL; rw [if_neg (by omega)])
    generalize hla : f.getD (n - 1) 0 = la at *
    obtain ⟨la0, la1⟩ := hlast
    obtain ⟨iv, hiv⟩ : ∃ x, invP p f = x := ⟨_, rfl⟩
    rw [hiv] at HV HE hip
    have HM := Lib.hid fun (wx : World) (o' : Option Addr) (h : Seen wx (some ⟨g, 0, none⟩) n c f) (h' : Seen wx o' 1 1 [iv]) => l08Mul_any p p2 p97 h h' hfp hip
    have HS1 := Lib.hid (seen_below HS.out ((Below.refl w.heap.size w).alloc (Nat.le_refl _) (.cells #[.int .i64 iv] 2)))
    have HO1 := Lib.hid (seen_one w iv 2)
    have HB1 := Lib.hid ((Below.refl w.heap.size w).alloc (Nat.le_refl _) (.cells #[.int .i64 iv] 2))
    clear hno h1 h2 hl hn hs hf hip hfp hla hiv pp HS
    go_enter Try.func126, Try.ntmps126
    go_wp2_with fail
    refine (l02Inv8_any la p w la0 la1 p2 (by omega)).mono ?_
    rw [← HV.out]
    rintro e w2 ⟨rfl, rfl⟩
    go_wp2_with fail
    refine (HM.out _ _ HS1.out HO1.out).mono ?_
    rintro e w3 ⟨v, rfl, hr, hb⟩
    have HR := Lib.hid (intRow_lower hr HB1.out.size)
    have HB := Lib.hid (HB1.out.trans (hb.mono HB1.out.size))
    clear hr hb
    go_wp2_with fail
    go_ret
    rw [← HE.out]
    exact ⟨_, rfl, HR.out, HB.out⟩
def lenV : Value → Nat
  | .slice _ n _ => n
  | _ => 0
set_option maxHeartbeats 1600000 in
theorem l08Common_any (p : Int) (hs : smallB p = true) {o o' : Option Addr} {n n' c c' : Nat} {f g : List Int} {w : World} (h : Seen w o n c f) (h' : Seen w o' n' c' g) (hf : ModP p f) (hg : ModP p g) (hn : n ≤ 9) (hn' : n' ≤ 9) :
    Calls Try.prog 131 #[.int .i64 p, .slice o n c, .slice o' n' c'] w (OwnPost (gcdL p f g) w) := by
  obtain ⟨p2, p97, pp⟩ := small_prime hs
  have H0 := Lib.hid (And.intro h (And.intro h' (And.intro hf hg)))
  clear h h' hf hg
  go_enter Try.func131, Try.ntmps131
  go_wp2_with fail
  go_loopw [1, 2] (fun vf vg wr => ∃ (o1 : Option Addr) (n1 c1 : Nat) (F : List Int) (o2 : Option Addr) (n2 c2 : Nat) (G : List Int), vf = .slice o1 n1 c1 ∧ vg = .slice o2 n2 c2 ∧ Seen wr o1 n1 c1 F ∧ Seen wr o2 n2 c2 G ∧ ModP p F ∧ ModP p G ∧ n1 ≤ 9 ∧ n2 ≤ 9 ∧ gcdL p F G = gcdL p f g ∧ Below w.heap.size w wr) (fun _ vg _ => lenV vg)
  case atStart => exact ⟨o, n, c, f, o', n', c', g, rfl, rfl, H0.out.1, H0.out.2.1, H0.out.2.2.1, H0.out.2.2.2, hn, hn', rfl, Below.refl _ _⟩
  case round =>
    obtain ⟨o1, n1, c1, F, o2, n2, c2, G, rfl, rfl, s1, s2, m1, m2, l1, l2, hgc, hb⟩ := hrel
    have S1 := Lib.hid s1
    have S2 := Lib.hid s2
    have HB := Lib.hid hb
    have HG := Lib.hid hgc
    have HL2 := Lib.hid s2.1
    clear s1 s2 hb hgc H0
    by_cases h0 : n2 = 0
    · have HE := Lib.hid (show monP p F = gcdL p f g by rw [← HG.out]; exact (gcdL_end (by have := HL2.out; omega)).symm)
      have HM := Lib.hid (l08Monic_any p hs S1.out m1 l1)
      clear m1 m2
      subst h0
      go_wp2_with fail
      refine HM.out.mono ?_
      rintro e w3 ⟨v, rfl, hr, hb⟩
      have HR := Lib.hid (intRow_lower hr HB.out.size)
      have HB2 := Lib.hid (HB.out.trans (hb.mono HB.out.size))
      clear hr hb
      go_wp2_with fail
      go_ret
      rw [← HE.out]
      exact ⟨_, rfl, HR.out, HB2.out⟩
    · have h0' : (0 : Int) < (n2 : Int) := by omega
      have hG0 : G.length ≠ 0 := by have := HL2.out; omega
      have HD := Lib.hid (l08Div_any p hs S1.out S2.out m1 m2 hG0 (by omega) (by omega))
      have HST := Lib.hid (gcdL_step p2 p97 pp m1 m2 hG0)
      have hd := divP_is p2 p97 pp m1 m2 (fun e => hG0 (by rw [e]; rfl))
      have HDD := Lib.hid (And.intro hd.mr hd.deg)
      have HM2 := Lib.hid m2
      clear m1 m2 hd hG0
      go_wp2_with fail
      refine HD.out.mono ?_
      rintro e w3 ⟨v, u, rfl, hq, hr, hb, hap⟩
      obtain ⟨o3, c3, rfl⟩ := row_slice hq
      obtain ⟨o4, c4, rfl⟩ := row_slice hr
      have HR := Lib.hid (row_seen hr (by have := HDD.out.2; have := HL2.out; omega))
      have S3 := Lib.hid (seen_below S2.out hb)
      have HB2 := Lib.hid (HB.out.trans (hb.mono HB.out.size))
      clear hq hr hb hap HD S1 S2
      go_wp2_with fail
      exact ⟨⟨o2, n2, c2, G, o4, (remP p F G).length, c4, remP p F G, rfl, rfl, S3.out, HR.out, HM2.out, HDD.out.1, l2, by have := HDD.out.2; have := HL2.out; omega, by rw [← HST.out]; exact HG.out, HB2.out⟩, by simp only [lenV]; have := HDD.out.2; have := HL2.out; omega⟩
def cmC (p : Int) (f g : List Int) : Int := if twoM p f g then 0 else 1
def cmQ (p : Int) (f g : List Int) : List Int := if twoM p f g then gcdL p f g else []
end Go.Proofs.Ytjmecidbnoimnaa
namespace Go.Proofs.Ytjmecidbnoimnaa
open Go.RowKit
set_option linter.unusedVariables false
set_option linter.unusedSimpArgs false
set_option maxRecDepth 20000
theorem l08Rest_any (p : Int) (hs : smallB p = true) {o o' : Option Addr} {n n' c c' : Nat} {f g : List Int} {w : World} (h : Seen w o n c f) (h' : Seen w o' n' c' g) (hf : ModP p f) (hg : ModP p g) (h0 : g.length ≠ 0) (hn20 : n ≤ 20) (hn9' : n' ≤ 20) :
    Calls Try.prog 173 #[.int .i64 p, .slice o n c, .slice o' n' c'] w (OwnPost (remP p f g) w) := by
  have HD := Lib.hid (l08Div_any p hs h h' hf hg h0 hn20 hn9')
  clear h h' hf hg h0
  go_enter Try.func173, Try.ntmps173
  go_wp2_with fail
  refine HD.out.mono ?_
  rintro e w3 ⟨v, u, rfl, hq, hr, hb, hap⟩
  have HR := Lib.hid hr
  have HB := Lib.hid hb
  clear hq hr hb hap HD
  go_wp2_with fail
  go_ret
  exact ⟨_, rfl, HR.out, HB.out⟩
theorem pow_len {p : Int} {f r : List Int} {e : Nat} (h : IsPow p f e r) (hf : f.length ≤ 9) : r.length ≤ 8 := by have := h.deg; omega
theorem pow_poly {p : Int} {f r : List Int} {e : Nat} (p97 : p ≤ 97) (h : IsPow p f e r) (hf : f.length ≤ 9) : polyB r = true := mod_poly p97 (by have := h.deg; omega) h.mod
set_option maxHeartbeats 4000000 in
theorem l08Power_any (p : Int) (hs : smallB p = true) {oa o : Option Addr} {ca n c : Nat} {f : List Int} {w : World} (E0 : Nat) (hE : E0 ≤ 1000000000000) (ha : Seen w oa 2 ca [0, 1]) (h : Seen w o n c f) (hf : ModP p f) (h0 : f.length ≠ 0) (hn9 : n ≤ 9) :
    Calls Try.prog 159 #[.int .i64 p, .slice oa 2 ca, .int .i64 (E0 : Int), .slice o n c] w (OwnPost (powL p f E0) w) := by
  obtain ⟨p2, p97, pp⟩ := small_prime hs
  have hne : f ≠ [] := fun e => h0 (by rw [e]; rfl)
  have hfl : f.length ≤ 9 := by have := h.1; omega
  obtain ⟨k0, k1⟩ := pow_first p2 p97 pp hf hne
  have m1 : ModP p [1] := ⟨fun i => by
    match i with
    | 0 => exact ⟨by simp, by simp; omega⟩
    | i + 1 => simp; omega, by simp [lastB]⟩
  have mx := (pw_x p2 f).mod
  have HA := Lib.hid ha
  have HS := Lib.hid h
  have HF := Lib.hid (And.intro hf (And.intro h0 hne))
  have HREST := Lib.hid fun (wx : World) (o1 : Option Addr) (n1 c1 : Nat) (a : List Int) (h1 : Seen wx o1 n1 c1 a) (hx : Seen wx o n c f) (hm : ModP p a) (hn : n1 ≤ 20) => l08Rest_any p hs h1 hx hm hf h0 hn (by omega)
  have HMUL := Lib.hid fun (wx : World) (o1 o2 : Option Addr) (n1 n2 c1 c2 : Nat) (a b : List Int) (h1 : Seen wx o1 n1 c1 a) (h2 : Seen wx o2 n2 c2 b) (ha : polyB a = true) (hb : polyB b = true) => l08Mul_any p p2 p97 h1 h2 ha hb
  have HJ := Lib.hid fun (r s : List Int) (a b : Nat) (h1 : IsPow p f a r) (h2 : IsPow p f b s) => pow_join p2 p97 pp hf hne h1 h2
  have HMOD := Lib.hid fun (r s : List Int) => redL_mod (p := p) (by omega) (mulL r s)
  have HEQ := Lib.hid fun (r : List Int) (h : IsPow p f E0 r) => powL_eq p2 p97 pp hf hne h
  have HS1 := Lib.hid (seen_one w 1 2)
  have hb0 : Below w.heap.size w (w.alloc (.cells #[.int .i64 1] 2)) := (Below.refl w.heap.size w).alloc (Nat.le_refl _) _
  have HB0 := Lib.hid hb0
  have HSF := Lib.hid (seen_below h hb0)
  have HSA := Lib.hid (seen_below ha hb0)
  have K0 := Lib.hid k0
  have K1 := Lib.hid k1
  have M1 := Lib.hid m1
  have MX := Lib.hid mx
  clear ha h hf h0 hne k0 k1 m1 mx hb0 hs
  go_enter Try.func159, Try.ntmps159
  go_wp2_with fail
  refine (HREST.out _ _ _ _ _ HS1.out HSF.out M1.out (by omega)).mono ?_
  rintro e W2 ⟨v, rfl, hr, hb⟩
  obtain ⟨o1, c1, rfl⟩ := row_slice hr
  have HB2 := Lib.hid (HB0.out.trans (hb.mono HB0.out.size))
  have SF2 := Lib.hid (seen_below HSF.out hb)
  have SA2 := Lib.hid (seen_below HSA.out hb)
  have R2 := Lib.hid (intRow_lower hr HB0.out.size)
  clear hr hb HS1 HSF HSA HS HA
  go_wp2_with fail
  refine (HREST.out _ _ _ _ _ SA2.out SF2.out MX.out (by omega)).mono ?_
  rintro e W3 ⟨v, rfl, hr, hb⟩
  obtain ⟨o2, c2, rfl⟩ := row_slice hr
  have HB3 := Lib.hid (HB2.out.trans (hb.mono HB2.out.size))
  have SF3 := Lib.hid (seen_below SF2.out hb)
  have R3 := Lib.hid (row_below R2.out hb (Nat.le_refl _))
  have A3 := Lib.hid (intRow_lower hr HB2.out.size)
  clear hr hb SF2 SA2 R2 HB2
  go_wp2_with fail
  go_loopw [1, 2, 9] (fun va ve vo wr => ∃ (o1 o2 : Option Addr) (c1 c2 : Nat) (r s : List Int) (A B e : Nat), va = .slice o2 s.length c2 ∧ ve = .int .i64 (e : Int) ∧ vo = .slice o1 r.length c1 ∧ IntRow w.heap.size wr (.slice o1 r.length c1) r ∧ IntRow w.heap.size wr (.slice o2 s.length c2) s ∧ IsPow p f A r ∧ IsPow p f B s ∧ A + B * e = E0 ∧ e ≤ E0 ∧ Seen wr o n c f ∧ Below w.heap.size w wr) (fun _ ve _ _ => (intOf ve).toNat)
  case atStart => exact ⟨_, _, _, _, _, _, 0, 1, E0, rfl, rfl, rfl, R3.out, A3.out, K0.out, K1.out, by omega, Nat.le_refl _, SF3.out, HB3.out⟩
  case round =>
    obtain ⟨o1, o2, c1, c2, r, s, A, B, e, rfl, rfl, rfl, rr, rs, pr, ps, hE1, heE, sf, hb⟩ := hrel
    have R := Lib.hid rr
    have S := Lib.hid rs
    have SF := Lib.hid sf
    have HB := Lib.hid hb
    have PR := Lib.hid pr
    have PS := Lib.hid ps
    have HEE := Lib.hid hE1
    have lr := pow_len pr hfl
    have ls := pow_len ps hfl
    have SR := Lib.hid (row_seen rr (by omega))
    have SS := Lib.hid (row_seen rs (by omega))
    have QR := Lib.hid (pow_poly p97 pr hfl)
    have QS := Lib.hid (pow_poly p97 ps hfl)
    clear rr rs sf hb pr ps hE1 R3 A3 SF3 HB3 K0 K1 M1 MX HB0
    by_cases hz : e = 0
    · have HP := Lib.hid (HEQ.out r (by have h := PR.out; have h2 := HEE.out; rw [hz, Nat.mul_zero, Nat.add_zero] at h2; rw [← h2]; exact h))
      subst hz
      go_wp2_with fail
      go_ret
      rw [← HP.out]
      exact ⟨_, rfl, R.out, HB.out⟩
    · have hz' : (0 : Int) < (e : Int) := by omega
      have hh : (e : Int) / 2 = ((e / 2 : Nat) : Int) := by omega
      have hhb : e / 2 ≤ E0 := by omega
      have hlt : e / 2 < e := by omega
      have lss := prodL_le p s s
      have lrs := prodL_le p r s
      by_cases ho : e % 2 = 1
      · have HOD := Lib.hid (half_odd HEE.out ho)
        have hbit : ((e : Int) % 2 == 1) = true := by simp; omega
        obtain ⟨e2, he2⟩ : ∃ e2, e / 2 = e2 := ⟨_, rfl⟩
        rw [he2] at HOD hh hhb hlt
        clear he2 ho
        go_wp2_with fail
        refine (HMUL.out _ _ _ _ _ _ _ _ _ SR.out SS.out QR.out QS.out).mono ?_
        rintro ee W4 ⟨v4, rfl, hr4, hb4⟩
        obtain ⟨o4, c4, rfl⟩ := row_slice hr4
        have S4 := Lib.hid (row_seen hr4 (by omega))
        have SF4 := Lib.hid (seen_below SF.out hb4)
        have SS4 := Lib.hid (seen_below SS.out hb4)
        have RS4 := Lib.hid (row_below S.out hb4 (Nat.le_refl _))
        have HB4 := Lib.hid (HB.out.trans (hb4.mono HB.out.size))
        clear hr4 hb4 SR SS SF S R HB
        go_wp2_with fail
        refine (HREST.out _ _ _ _ _ S4.out SF4.out (HMOD.out r s) (by omega)).mono ?_
        rintro ee W5 ⟨v5, rfl, hr5, hb5⟩
        obtain ⟨o5, c5, rfl⟩ := row_slice hr5
        have SF5 := Lib.hid (seen_below SF4.out hb5)
        have SS5 := Lib.hid (seen_below SS4.out hb5)
        have HB5 := Lib.hid (HB4.out.trans (hb5.mono HB4.out.size))
        have R5 := Lib.hid (intRow_lower hr5 HB4.out.size)
        clear hr5 hb5 S4 SF4 SS4 RS4 HB4
        go_wp2_with fail
        refine (HMUL.out _ _ _ _ _ _ _ _ _ SS5.out SS5.out QS.out QS.out).mono ?_
        rintro ee W6 ⟨v6, rfl, hr6, hb6⟩
        obtain ⟨o6, c6, rfl⟩ := row_slice hr6
        have S6 := Lib.hid (row_seen hr6 (by omega))
        have SF6 := Lib.hid (seen_below SF5.out hb6)
        have R6 := Lib.hid (row_below R5.out hb6 (Nat.le_refl _))
        have HB6 := Lib.hid (HB5.out.trans (hb6.mono HB5.out.size))
        clear hr6 hb6 SF5 SS5 R5 HB5
        go_wp2_with fail
        refine (HREST.out _ _ _ _ _ S6.out SF6.out (HMOD.out s s) (by omega)).mono ?_
        rintro ee W7 ⟨v7, rfl, hr7, hb7⟩
        obtain ⟨o7, c7, rfl⟩ := row_slice hr7
        have SF7 := Lib.hid (seen_below SF6.out hb7)
        have R7 := Lib.hid (row_below R6.out hb7 (Nat.le_refl _))
        have A7 := Lib.hid (intRow_lower hr7 HB6.out.size)
        have HB7 := Lib.hid (HB6.out.trans (hb7.mono HB6.out.size))
        clear hr7 hb7 S6 SF6 R6 HB6
        go_wp2_with fail
        exact ⟨⟨_, _, _, _, _, _, A + B, B + B, e2, rfl, by first | rfl | rw [hh], rfl, R7.out, A7.out, HJ.out _ _ _ _ PR.out PS.out, HJ.out _ _ _ _ PS.out PS.out, HOD.out, hhb, SF7.out, HB7.out⟩, by simp only [intOf]; omega⟩
      · have HOD := Lib.hid (half_even HEE.out (by omega))
        have hbit : ((e : Int) % 2 == 1) = false := by simp; omega
        obtain ⟨e2, he2⟩ : ∃ e2, e / 2 = e2 := ⟨_, rfl⟩
        rw [he2] at HOD hh hhb hlt
        clear he2 ho
        go_wp2_with fail
        refine (HMUL.out _ _ _ _ _ _ _ _ _ SS.out SS.out QS.out QS.out).mono ?_
        rintro ee W6 ⟨v6, rfl, hr6, hb6⟩
        obtain ⟨o6, c6, rfl⟩ := row_slice hr6
        have S6 := Lib.hid (row_seen hr6 (by omega))
        have SF6 := Lib.hid (seen_below SF.out hb6)
        have R6 := Lib.hid (row_below R.out hb6 (Nat.le_refl _))
        have HB6 := Lib.hid (HB.out.trans (hb6.mono HB.out.size))
        clear hr6 hb6 SF SS R S HB
        go_wp2_with fail
        refine (HREST.out _ _ _ _ _ S6.out SF6.out (HMOD.out s s) (by omega)).mono ?_
        rintro ee W7 ⟨v7, rfl, hr7, hb7⟩
        obtain ⟨o7, c7, rfl⟩ := row_slice hr7
        have SF7 := Lib.hid (seen_below SF6.out hb7)
        have R7 := Lib.hid (row_below R6.out hb7 (Nat.le_refl _))
        have A7 := Lib.hid (intRow_lower hr7 HB6.out.size)
        have HB7 := Lib.hid (HB6.out.trans (hb7.mono HB6.out.size))
        clear hr7 hb7 S6 SF6 R6 HB6
        go_wp2_with fail
        exact ⟨⟨_, _, _, _, _, _, A, B + B, e2, rfl, by first | rfl | rw [hh], rfl, R7.out, A7.out, PR.out, HJ.out _ _ _ _ PS.out PS.out, HOD.out, hhb, SF7.out, HB7.out⟩, by simp only [intOf]; omega⟩
def pxC (p e : Int) (f : List Int) : Int := if modB p f then (if inB e 0 1000000000000 then (if f.length = 0 then 5 else 0) else 2) else 1
def pxQ (p e : Int) (f : List Int) : List Int := if pxC p e f = 0 then powL p f e.toNat else []
theorem pxC_zero {p e : Int} {f : List Int} (h : pxC p e f = 0) : modB p f = true ∧ 0 ≤ e ∧ e ≤ 1000000000000 ∧ f.length ≠ 0 := by
  unfold pxC at h
  split at h
  · rename_i hm
    rcases inB_cases e 0 1000000000000 with ⟨h1, h2, h3⟩ | ⟨h1, _⟩
    · rw [h1] at h
      by_cases h0 : f.length = 0
      · simp [h0] at h
      · exact ⟨hm, h2, h3, h0⟩
    · rw [h1] at h; simp at h
  · omega
theorem evM_rng {p : Int} (hp : 0 < p) (f : List Int) (x : Int) : ∀ j, 0 ≤ evM p f x j ∧ evM p f x j < p
  | 0 => ⟨Int.le_refl _, hp⟩
  | j + 1 => ⟨Int.emod_nonneg _ (by omega), Int.emod_lt_of_pos _ hp⟩
def rtC (p : Int) (f : List Int) : Int := if modB p f then (if f.length = 0 then 4 else 0) else 1
def rtQ (p : Int) (f : List Int) : List Int := if rtC p f = 0 then rootsN p f p.toNat else []
theorem l08Der_any (p : Int) (p2 : 2 ≤ p) (p97 : p ≤ 97) {o : Option Addr} {n c : Nat} {f : List Int} {w : World} (h : Seen w o n c f) (hp : polyB f = true) :
    Calls Try.prog 129 #[.int .i64 p, .slice o n c] w (OwnPost (redL p (derL f)) w) := by
  have HS := Lib.hid h
  have hm : (derL f).length ≤ 9 := by have := (polyB_of hp).1; rw [derL, tabL_length]; omega
  clear h
  go_enter Try.func129, Try.ntmps129
  go_wp2_with fail
  refine (l06Der_any HS.out hp).mono ?_
  rintro e w2 ⟨v, rfl, hr, hb⟩
  obtain ⟨o2, c2, rfl, HS2⟩ := seen_row hr (by omega)
  have HB := Lib.hid hb
  clear hr hb
  go_wp2_with fail
  refine (l08Reduce_any p p2 p97 HS2 (by omega)).mono ?_
  rintro e w3 ⟨v, rfl, hr3, hb3⟩
  have HR := Lib.hid (intRow_lower hr3 HB.out.size)
  have HB2 := Lib.hid (HB.out.trans (hb3.mono HB.out.size))
  clear hr3 hb3
  go_wp2_with fail
  go_ret
  exact ⟨_, rfl, HR.out, HB2.out⟩
def drC (p : Int) (f : List Int) : Int := if modB p f then 0 else 1
def drQ (p : Int) (f : List Int) : List Int := if modB p f then redL p (derL f) else []
def frC (p : Int) (f : List Int) : Int := if modB p f then 0 else 1
def frQ (p : Int) (f : List Int) : Bool := modB p f && freeB p f
end Go.Proofs.Ytjmecidbnoimnaa
namespace Go.Proofs.Ytjmecidbnoimnaa
open Go.RowKit
set_option linter.unusedVariables false
set_option linter.unusedSimpArgs false
set_option maxRecDepth 20000
theorem box8 {w w1 : World} {o : Obj} (hb : Below (w.alloc o).heap.size (w.alloc o) w1) : Below w.heap.size w w1 := ((Below.refl _ _).alloc (Nat.le_refl _) _).trans (hb.mono (by simp))
theorem box8_cells {w w1 : World} {a b : Value} {T : TypeId} (hb : Below (w.alloc (.cells #[a, b] T)).heap.size (w.alloc (.cells #[a, b] T)) w1) :
    w1.cell? ⟨w.heap.size, 0, none⟩ = some a ∧ w1.cell? ⟨w.heap.size, 1, none⟩ = some b := by
  constructor
  · rw [hb.cell (by simp)]; exact World.cell?_alloc_new _ _ _ _ ▸ rfl
  · rw [hb.cell (by simp)]; exact World.cell?_alloc_new _ _ _ _ ▸ rfl
theorem below_a8 (w : World) (o : Obj) : Below w.heap.size w (w.alloc o) := (Below.refl _ _).alloc (Nat.le_refl _) _
theorem row_len {b n c : Nat} {o : Option Addr} {w : World} {l : List Int} (h : IntRow b w (.slice o n c) l) : l.length = n := by
  rcases h.2 with ⟨e, h0⟩ | ⟨g, cap, cur, e, _⟩
  · injection e with e1 e2 e3; omega
  · injection e with e1 e2 e3; exact e2.symm
theorem trim_row {b n c : Nat} {o : Option Addr} {w : World} {l : List Int} (h : IntRow b w (.slice o n c) l) : IntRow b w (.slice o (trimN l l.length) c) (trimL l) :=
  row_cut h (by rw [← row_len h]; exact trimN_le _ _)
/-! checks -/
def chkC (p : Int) (l : List Int) : Int := if smallB p then (if resB p l then 0 else 2) else 1
set_option maxHeartbeats 1000000 in
theorem checkAll_any (p : Int) {o : Option Addr} {n c : Nat} {l : List Int} {w : World} (h : Seen w o n c l) :
    Calls Try.prog 101 #[R1 p, .slice o n c] w fun e w' => e = .returned (.int .i64 (chkC p l)) ∧ Below w.heap.size w w' := by
  obtain ⟨hl, hn, hno, hnc, g, h1, h2⟩ := h
  have HO := Lib.hid h1
  have HL := Lib.hid hl
  have HC := Lib.hid h2
  clear h1 h2 hl hno hnc
  cases hs : smallB p
  · have h0 := ringM_small (n := 1) hs
    have HP := Lib.hid (show chkC p l = 1 by simp [chkC, hs])
    have HM := Lib.hid fun w => implModulus_any p 1 w
    rw [h0] at HM
    clear h0
    go_enter Try.func101, Try.ntmps101
    go_wp2_with fail
    refine (HM.out _).mono ?_
    rintro e w1 ⟨rfl, hb⟩
    have HB := Lib.hid (box8 hb)
    clear hb HM
    go_wp2_with fail
    go_ret
    rw [HP.out]; exact ⟨rfl, HB.out⟩
  · obtain ⟨p2, p97⟩ := smallB_bd hs
    have hpz : (p == 0) = false := by simp; omega
    have HM := Lib.hid fun w => modulus8_any p hs w
    go_enter Try.func101, Try.ntmps101
    go_wp2_with fail
    refine (HM.out _).mono ?_
    rintro e w1 ⟨rfl, hb⟩
    have HB := Lib.hid (box8 hb)
    clear hb HM
    go_wp2_with fail
    go_loop [14] (fun i => ∃ k : Nat, k ≤ n ∧ i = .int .i64 k ∧ resB p (l.take k) = true) (fun i => n - (intOf i).toNat)
    case atStart => exact ⟨0, Nat.zero_le _, rfl, by simp [resB]⟩
    case round =>
      obtain ⟨k, hk, rfl, hall⟩ := hrel
      by_cases hlt : k < n
      · have hkl : k < l.length := by have := HL.out; omega
        obtain ⟨hog, hgl⟩ := HO.out (by omega)
        subst hog
        have a2 : w1.cell? ⟨g, k, none⟩ = some (.int .i64 (l.getD k 0)) := by rw [HB.out.cell (p := ⟨g, k, none⟩) hgl]; exact HC.out k hlt
        have HA := Lib.hid (all_take6 (f := fun x => inB x 0 (p - 1)) hkl)
        have HFA := Lib.hid (fun h : inB (l.getD k 0) 0 (p - 1) = false => (show chkC p l = 2 by
          rw [chkC, hs, show resB p l = false from all_false hkl h]; rfl))
        have HTR := Lib.hid (fun h : inB (l.getD k 0) 0 (p - 1) = true => (show resB p (l.take (k + 1)) = true by
          unfold resB at hall ⊢; rw [HA.out, hall]; simpa using h))
        have hkn : (k : Int) < (n : Int) := by omega
        generalize l.getD k 0 = x at *
        clear hkl hall hgl HA
        by_cases hx0 : x < 0
        · have HP := Lib.hid (HFA.out (inB_f (.inl hx0)))
          go_wp2_with fail
          go_ret
          rw [HP.out]; exact ⟨rfl, HB.out⟩
        · by_cases hx1 : p ≤ x
          · have HP := Lib.hid (HFA.out (inB_f (.inr (by omega))))
            go_wp2_with fail
            go_ret
            rw [HP.out]; exact ⟨rfl, HB.out⟩
          · have HP := Lib.hid (HTR.out (inB_t (by omega) (by omega)))
            go_wp2_with fail
            exact ⟨⟨k + 1, by omega, by go_num, HP.out⟩, by simp [intOf]; omega⟩
      · have hkn : k = n := by omega
        rw [hkn, HL.out, List.take_of_length_le (Nat.le_refl _)] at hall
        have HP := Lib.hid (show chkC p l = 0 by simp [chkC, hs, hall])
        clear hlt hall
        subst hkn
        go_wp2_with fail
        go_ret
        rw [HP.out]; exact ⟨rfl, HB.out⟩
theorem modB_can (p : Int) (f : List Int) : modB p f = (canB f && (chkC p f == 0)) := by
  rw [modB_eq]
  unfold canB chkC
  cases smallB p <;> cases resB p f <;> cases lastB f <;> cases decide (f.length ≤ 9) <;> rfl
theorem hasPoly_any (p : Int) {o : Option Addr} {n c : Nat} {f : List Int} {w : World} (h : Seen w o n c f) :
    Calls Try.prog 107 #[R1 p, .slice o n c] w fun e w' => e = .returned (.bool (modB p f)) ∧ Below w.heap.size w w' := by
  have HP := Lib.hid (modB_can p f)
  have hb1 := below_a8 w (.cells #[.int .i64 p, .int .i64 1] 85)
  have HB1 := Lib.hid hb1
  have HS := Lib.hid (seen_below h hb1)
  have HC := Lib.hid (checkAll_any p HS.out)
  clear h hb1
  cases hc : canB f
  · rw [hc] at HP
    go_enter Try.func107, Try.ntmps107
    go_wp2_with fail
    refine (canBe_any HS.out).mono ?_
    rw [hc]
    rintro e w2 ⟨rfl, rfl⟩
    go_wp2_with fail
    go_ret
    rw [HP.out]; exact ⟨rfl, HB1.out⟩
  · rw [hc] at HP
    go_enter Try.func107, Try.ntmps107
    go_wp2_with fail
    refine (canBe_any HS.out).mono ?_
    rw [hc]
    rintro e w2 ⟨rfl, rfl⟩
    go_wp2_with fail
    refine HC.out.mono ?_
    rintro e w3 ⟨rfl, hb⟩
    have HB := Lib.hid (box8 hb)
    clear hb HC
    generalize chkC p f = x at *
    go_wp2_with fail
    go_ret
    rw [HP.out]; exact ⟨by first | rfl | simp, HB.out⟩
def okC (p : Int) (f : List Int) : Int := if modB p f then 0 else 1
def okC2 (p : Int) (f g : List Int) : Int := if twoM p f g then 0 else 1
set_option maxHeartbeats 1000000 in
theorem checkPoly1 (p : Int) {b : Nat} {of : Option Addr} {nf cf : Nat} {f : List Int} {w : World} (hf : Seen w of nf cf f) (df : w.cell? ⟨b, 0, none⟩ = some (.slice of nf cf)) (hlt : b < w.heap.size) :
    Calls Try.prog 91 #[R1 p, .slice (some ⟨b, 0, none⟩) 1 1] w fun e w' => e = .returned (.int .i64 (okC p f)) ∧ Below w.heap.size w w' := by
  have hb1 := below_a8 w (.cells #[.int .i64 p, .int .i64 1] 85)
  have HH := Lib.hid (hasPoly_any p (seen_below hf hb1))
  have d1 : (w.alloc (.cells #[.int .i64 p, .int .i64 1] 85)).cell? ⟨b, 0, none⟩ = some (.slice of nf cf) := by rw [hb1.cell (p := ⟨b, 0, none⟩) hlt]; exact df
  clear hf df hb1
  cases hm : modB p f
  · have HP := Lib.hid (show okC p f = 1 by simp [okC, hm])
    rw [hm] at HH
    go_enter Try.func91, Try.ntmps91
    go_wp2_with fail
    refine wp_loop_rounds 2 ?_
    rw [rounds_succ]
    go_wp2_with fail
    refine HH.out.mono ?_
    rintro e w2 ⟨rfl, hb⟩
    have HB := Lib.hid (box8 hb)
    clear hb HH
    go_wp2_with fail
    go_ret
    rw [HP.out]; exact ⟨rfl, HB.out⟩
  · have HP := Lib.hid (show okC p f = 0 by simp [okC, hm])
    rw [hm] at HH
    go_enter Try.func91, Try.ntmps91
    go_wp2_with fail
    refine wp_loop_rounds 2 ?_
    rw [rounds_succ]
    go_wp2_with fail
    refine HH.out.mono ?_
    rintro e w2 ⟨rfl, hb⟩
    have HB := Lib.hid (box8 hb)
    clear hb HH
    go_wp2_with fail
    rw [rounds_succ]
    go_wp2_with fail
    go_ret
    rw [HP.out]; exact ⟨rfl, HB.out⟩
set_option maxHeartbeats 1000000 in
theorem checkPoly2 (p : Int) {b : Nat} {of : Option Addr} {nf cf : Nat} {f : List Int} {og : Option Addr} {ng cg : Nat} {g : List Int} {w : World} (hf : Seen w of nf cf f) (df : w.cell? ⟨b, 0, none⟩ = some (.slice of nf cf)) (hg : Seen w og ng cg g) (dg : w.cell? ⟨b, 1, none⟩ = some (.slice og ng cg)) (hlt : b < w.heap.size) :
    Calls Try.prog 91 #[R1 p, .slice (some ⟨b, 0, none⟩) 2 2] w fun e w' => e = .returned (.int .i64 (okC2 p f g)) ∧ Below w.heap.size w w' := by
  have hb1 := below_a8 w (.cells #[.int .i64 p, .int .i64 1] 85)
  have hs1 : b < (w.alloc (.cells #[.int .i64 p, .int .i64 1] 85)).heap.size := by simp; omega
  have HH := Lib.hid (hasPoly_any p (seen_below hf hb1))
  have SG := Lib.hid (seen_below hg hb1)
  have d1 : (w.alloc (.cells #[.int .i64 p, .int .i64 1] 85)).cell? ⟨b, 0, none⟩ = some (.slice of nf cf) := by rw [hb1.cell (p := ⟨b, 0, none⟩) hlt]; exact df
  have D2 := Lib.hid (show (w.alloc (.cells #[.int .i64 p, .int .i64 1] 85)).cell? ⟨b, 1, none⟩ = some (.slice og ng cg) by rw [hb1.cell (p := ⟨b, 1, none⟩) hlt]; exact dg)
  clear hf df hg dg hb1
  cases hm : modB p f
  · have HP := Lib.hid (show okC2 p f g = 1 by simp [okC2, twoM, hm])
    rw [hm] at HH
    go_enter Try.func91, Try.ntmps91
    go_wp2_with fail
    refine wp_loop_rounds 3 ?_
    rw [rounds_succ]
    go_wp2_with fail
    refine HH.out.mono ?_
    rintro e w2 ⟨rfl, hb⟩
    have HB := Lib.hid (box8 hb)
    clear hb HH
    go_wp2_with fail
    go_ret
    rw [HP.out]; exact ⟨rfl, HB.out⟩
  · have HP := Lib.hid (show okC2 p f g = if modB p g then 0 else 1 by simp [okC2, twoM, hm])
    rw [hm] at HH
    go_enter Try.func91, Try.ntmps91
    go_wp2_with fail
    refine wp_loop_rounds 3 ?_
    rw [rounds_succ]
    go_wp2_with fail
    refine HH.out.mono ?_
    rintro e w2 ⟨rfl, hb⟩
    have d2 : w2.cell? ⟨b, 1, none⟩ = some (.slice og ng cg) := by rw [hb.cell (p := ⟨b, 1, none⟩) hs1]; exact D2.out
    obtain ⟨c0, c1⟩ := box8_cells hb
    have HG := Lib.hid (hasPoly_any p (seen_below SG.out hb))
    have HB := Lib.hid (box8 hb)
    clear hb HH SG D2 d1
    go_wp2_with fail
    rw [rounds_succ]
    go_wp2_with fail
    refine HG.out.mono ?_
    rintro e w3 ⟨rfl, hb⟩
    have HB3 := Lib.hid (HB.out.trans (hb.mono HB.out.size))
    clear hb HG c0 c1 d2
    cases hg : modB p g
    · rw [hg] at HP
      go_wp2_with fail
      go_ret
      rw [HP.out]; exact ⟨rfl, HB3.out⟩
    · rw [hg] at HP
      go_wp2_with fail
      rw [rounds_succ]
      go_wp2_with fail
      go_ret
      rw [HP.out]; exact ⟨rfl, HB3.out⟩
/-! remainders of coefficients -/
theorem red_step {p : Int} {l : List Int} {n k : Nat} (hk : k < n) : (tabL n fun i => if i < k then l.getD i 0 % p else 0).set k (l.getD k 0 % p) = tabL n fun i => if i < k + 1 then l.getD i 0 % p else 0 := by
  rw [tab_set _ hk]
  refine tabL_ext fun i hi => ?_
  by_cases e : i = k
  · rw [if_pos e, if_pos (by omega), e]
  · rw [if_neg e]
    by_cases h2 : i < k
    · rw [if_pos h2, if_pos (by omega)]
    · rw [if_neg h2, if_neg (by omega)]
set_option maxHeartbeats 2000000 in
theorem reduced_any (p : Int) (hs : smallB p = true) {o : Option Addr} {n c : Nat} {l : List Int} {w : World} (h : Seen w o n c l) (hn9 : n ≤ 1000) :
    Calls Try.prog 151 #[R1 p, .slice o n c] w (OwnPost (redL p l) w) := by
  obtain ⟨p2, p97⟩ := smallB_bd hs
  obtain ⟨hl, hn, hno, hnc, g, h1, h2⟩ := h
  obtain ⟨i0, hi, hz0, hz1, hz2⟩ := info_parts Try.infoInt64
  have HI := Lib.hid hi
  have HZ0 := Lib.hid hz0
  have HZ1 := Lib.hid hz1
  have HZ2 := Lib.hid hz2
  have HO := Lib.hid h1
  have HL := Lib.hid hl
  have HC := Lib.hid h2
  have HM := Lib.hid fun w => modulus8_any p hs w
  clear hi hz0 hz1 hz2 h1 h2 hl hno hnc hs
  go_enter Try.func151, Try.ntmps151
  go_wp2_with fail
  refine (HM.out _).mono ?_
  rintro e w1 ⟨rfl, hb⟩
  have hb1 := box8 hb
  have HB1 := Lib.hid hb1
  have hbs := hb1.size
  clear hb HM hb1
  go_upto_region 2 with fail
  go_wp2_with (at_make; refine wpList_make_full _ rfl (.tmp 12) (.tmp 12) 27 rfl w1.heap.size 2 i0 (.int .i64 0) 1 Try.underlying27 HI.out HZ0.out HZ1.out .i64 .i64 _ _ n rfl rfl rfl rfl (by rw [HZ2.out]; omega) (by unfold maxLen; omega) (Nat.le_refl _) ?_; intro w2 hown hgrow)
  have HB2 := Lib.hid (HB1.out.grown hgrow hbs (fun k h => by cases h))
  have HR2 := Lib.hid (show IntRow w1.heap.size w2 (.slice (some ⟨w1.heap.size, 0, none⟩) n n) (tabL n fun i => if i < 0 then l.getD i 0 % p else 0) from int_made hown)
  generalize w1.heap.size = Q at *
  clear hown hgrow HB1
  go_wp2_with fail
  go_loopw [16] (fun s wr => ∃ k : Nat, k ≤ n ∧ s = .int .i64 k ∧ IntRow Q wr (.slice (some ⟨Q, 0, none⟩) n n) (tabL n fun i => if i < k then l.getD i 0 % p else 0) ∧ Below w.heap.size w wr) (fun s _ => n - (intOf s).toNat)
  case atStart => exact ⟨0, Nat.zero_le _, rfl, HR2.out, HB2.out⟩
  case round =>
    obtain ⟨k, hk, rfl, hr, hb⟩ := hrel
    have HR := Lib.hid hr
    have HB := Lib.hid hb
    clear hr hb HR2 HB2
    by_cases hlt : k < n
    · obtain ⟨hog, hgl⟩ := HO.out (by omega)
      subst hog
      have a2 : wr.cell? ⟨g, k, none⟩ = some (.int .i64 (l.getD k 0)) := by rw [HB.out.cell (p := ⟨g, k, none⟩) hgl]; exact HC.out k hlt
      have hrl : (tabL n fun i => if i < k then l.getD i 0 % p else 0).length = n := tabL_length _ _
      have c2 := int_at HR.out hrl hlt
      have f2 := int_frozen HR.out hrl k
      have HE := Lib.hid (red_step (p := p) (l := l) hlt)
      have HR3 := Lib.hid (int_stored HR.out hrl k (l.getD k 0 % p))
      have HB3 := Lib.hid (HB.out.setCell (p := ⟨Q, k, none⟩) hbs (.int .i64 (l.getD k 0 % p)))
      rw [HE.out] at HR3
      have hkn : (k : Int) < (n : Int) := by omega
      obtain ⟨y0, hy0⟩ : ∃ y, (tabL n fun i => if i < k then l.getD i 0 % p else 0).getD k 0 = y := ⟨_, rfl⟩
      rw [hy0] at c2
      clear hgl HE HR HB hy0 hrl
      generalize l.getD k 0 = z at *
      go_wp2_with fail
      refine (remainder8_any z p wr p2 (by omega)).mono ?_
      rintro e w3 ⟨rfl, rfl⟩
      go_wp2_with fail
      exact ⟨⟨k + 1, by omega, by go_num, HR3.out, HB3.out⟩, by simp only [intOf]; omega⟩
    · have hkn : k = n := by omega
      have HT := Lib.hid (show trimL (tabL n fun i => if i < k then l.getD i 0 % p else 0) = redL p l by
        unfold redL
        rw [← HL.out]
        congr 1
        exact tabL_ext fun i hi => by rw [if_pos (by omega)])
      have hrl : (tabL n fun i => if i < k then l.getD i 0 % p else 0).length = n := tabL_length _ _
      have SR := Lib.hid (show Seen wr (some ⟨Q, 0, none⟩) n n (tabL n fun i => if i < k then l.getD i 0 % p else 0) by
        have h := row_seen (o := some ⟨Q, 0, none⟩) (n := (tabL n fun i => if i < k then l.getD i 0 % p else 0).length) (c := n) (by rw [hrl]; exact HR.out) (by rw [hrl]; omega)
        rw [hrl] at h; exact h)
      have HR3 := Lib.hid (intRow_lower (trim_row HR.out) hbs)
      rw [HT.out] at HR3
      generalize (tabL n fun i => if i < k then l.getD i 0 % p else 0) = rl at *
      clear HT hrl HR
      go_wp2_with fail
      refine (trimmed_any SR.out).mono ?_
      rintro e w3 ⟨rfl, rfl⟩
      go_wp2_with fail
      go_ret
      exact ⟨_, rfl, HR3.out, HB.out⟩
/-! products -/
set_option maxHeartbeats 4000000 in
theorem product_any (p : Int) (hs : smallB p = true) {o o' : Option Addr} {n n' c c' : Nat} {f g : List Int} {w : World} (h : Seen w o n c f) (h' : Seen w o' n' c' g) (hf : ModP p f) (hg : ModP p g) (hn9 : n ≤ 20) (hn9' : n' ≤ 20) :
    Calls Try.prog 108 #[R1 p, .slice o n c, .slice o' n' c'] w (OwnPost (prodL p f g) w) := by
  obtain ⟨p2, p97⟩ := smallB_bd hs
  obtain ⟨hl, hn, hno, hnc, a, h1, h2⟩ := h
  obtain ⟨hl', hn', hno', hnc', a', h1', h2'⟩ := h'
  obtain ⟨i0, hi, hz0, hz1, hz2⟩ := info_parts Try.infoInt64
  have HI := Lib.hid hi
  have HZ0 := Lib.hid hz0
  have HZ1 := Lib.hid hz1
  have HZ2 := Lib.hid hz2
  have HO := Lib.hid h1
  have HO' := Lib.hid h1'
  have HL := Lib.hid (And.intro hl hl')
  have HC := Lib.hid h2
  have HC' := Lib.hid h2'
  have HF := Lib.hid hf
  have HG := Lib.hid hg
  have hpz : (p == 0) = false := by simp; omega
  have HM := Lib.hid fun w => modulus8_any p hs w
  obtain ⟨N, hN⟩ : ∃ N, n + n' = N := ⟨_, rfl⟩
  have hN1 : (n : Int) + (n' : Int) = (N : Int) := by omega
  have HN := Lib.hid hN
  have hN17 : N ≤ 40 := by omega
  clear hi hz0 hz1 hz2 h1 h2 hl hno hnc h1' h2' hl' hno' hnc' hf hg hs hN
  go_enter Try.func108, Try.ntmps108
  go_wp2_with fail
  refine (HM.out _).mono ?_
  rintro e w1 ⟨rfl, hb⟩
  have hb1 := box8 hb
  have HB1 := Lib.hid hb1
  have hbs := hb1.size
  clear hb HM hb1
  go_upto_region 2 with fail
  go_wp2_with (at_make; refine wpList_make_full _ rfl (.tmp 19) (.tmp 19) 27 rfl w1.heap.size 2 i0 (.int .i64 0) 1 Try.underlying27 HI.out HZ0.out HZ1.out .i64 .i64 _ _ N rfl rfl rfl rfl (by rw [HZ2.out]; omega) (by unfold maxLen; omega) (Nat.le_refl _) ?_; intro w2 hown hgrow)
  have HB2 := Lib.hid (HB1.out.grown hgrow hbs (fun k h => by cases h))
  have HR2 := Lib.hid (show IntRow w1.heap.size w2 (.slice (some ⟨w1.heap.size, 0, none⟩) N N) (mulY p f g N 0 0) by rw [mulY_start]; exact int_made hown)
  generalize w1.heap.size = Q at *
  clear hown hgrow HB1 hN1
  go_wp2_with fail
  go_loopw [23] (fun s wr => ∃ i : Nat, i ≤ n ∧ s = .int .i64 i ∧ IntRow Q wr (.slice (some ⟨Q, 0, none⟩) N N) (mulY p f g N i 0) ∧ Below w.heap.size w wr) (fun s _ => n - (intOf s).toNat)
  case atStart => exact ⟨0, Nat.zero_le _, rfl, HR2.out, HB2.out⟩
  case round =>
    obtain ⟨i, hi, rfl, hr, hb⟩ := hrel
    have HR := Lib.hid hr
    have HB := Lib.hid hb
    clear hr hb HR2 HB2
    by_cases hlt : i < n
    · obtain ⟨hog, hgl⟩ := HO.out (by omega)
      subst hog
      have a2 : wr.cell? ⟨a, i, none⟩ = some (.int .i64 (f.getD i 0)) := by rw [HB.out.cell (p := ⟨a, i, none⟩) hgl]; exact HC.out i hlt
      have HX := Lib.hid (HF.out.rng i)
      have hin : (i : Int) < (n : Int) := by omega
      obtain ⟨x, hx⟩ : ∃ x, f.getD i 0 = x := ⟨_, rfl⟩
      rw [hx] at a2 HX
      have HFX := Lib.hid hx
      clear hgl hx
      go_wp2_with fail
      go_loopw [30] (fun s wr => ∃ k : Nat, k ≤ n' ∧ s = .int .i64 k ∧ IntRow Q wr (.slice (some ⟨Q, 0, none⟩) N N) (mulY p f g N i k) ∧ Below w.heap.size w wr) (fun s _ => n' - (intOf s).toNat)
      case atStart => exact ⟨0, Nat.zero_le _, rfl, HR.out, HB.out⟩
      case round =>
        obtain ⟨k, hk, rfl, hr, hb⟩ := hrel
        have HR2 := Lib.hid hr
        have HB2 := Lib.hid hb
        clear hr hb HR HB a2
        by_cases hltk : k < n'
        · obtain ⟨m, hm⟩ : ∃ m, i + k = m := ⟨_, rfl⟩
          have hmN : m < N := by have := HN.out; omega
          have hik : (i : Int) + (k : Int) = (m : Int) := by omega
          have hwm : IntKind.i64.wrap (m : Int) = (m : Int) := IntWalk.i64_in _ (by omega)
          obtain ⟨hog', hgl'⟩ := HO'.out (by omega)
          subst hog'
          have b2 : wr.cell? ⟨a', k, none⟩ = some (.int .i64 (g.getD k 0)) := by rw [HB2.out.cell (p := ⟨a', k, none⟩) hgl']; exact HC'.out k hltk
          have hsl := mulY_length p f g N i k
          have c4 := int_at HR2.out hsl hmN
          rw [mulY_at hmN] at c4
          have f4 := int_frozen HR2.out hsl m
          have HE := Lib.hid (mulY_step (p := p) (f := f) (g := g) hmN hm)
          have hs0 : 0 ≤ mulW f g i k m % p ∧ mulW f g i k m % p < p := ⟨Int.emod_nonneg _ (by omega), Int.emod_lt_of_pos _ (by omega)⟩
          have hpb := prod_small p97 HX.out (HG.out.rng k)
          rw [HFX.out] at HE
          obtain ⟨z, hzz⟩ : ∃ z, g.getD k 0 = z := ⟨_, rfl⟩
          obtain ⟨s, hs⟩ : ∃ s, mulW f g i k m % p = s := ⟨_, rfl⟩
          rw [hzz] at b2 HE hpb
          rw [hs] at c4 HE hs0
          have w1 : IntKind.i64.wrap (x * z) = x * z := IntWalk.i64_in _ (by omega)
          have w2 : IntKind.i64.wrap (s + x * z) = s + x * z := IntWalk.i64_in _ (by omega)
          have hnn : 0 ≤ s + x * z := by omega
          obtain ⟨E, hEE⟩ : ∃ E, (s + x * z) % p = E := ⟨_, rfl⟩
          have ht : (s + x * z).tmod p = E := by rw [tmod_nonneg hnn, hEE]
          have hE0 : 0 ≤ E ∧ E < p := by rw [← hEE]; exact ⟨Int.emod_nonneg _ (by omega), Int.emod_lt_of_pos _ (by omega)⟩
          have w3 : IntKind.i64.wrap E = E := IntWalk.i64_in _ (by omega)
          rw [hEE] at HE
          have HR3 := Lib.hid (int_stored HR2.out hsl m E)
          rw [HE.out] at HR3
          have HB3 := Lib.hid (HB2.out.setCell (p := ⟨Q, m, none⟩) hbs (.int .i64 E))
          have hkn' : (k : Int) < (n' : Int) := by omega
          have hmN' : (m : Int) < (N : Int) := by omega
          clear hgl' hsl hzz hs hpb hs0 hm HE HR2 HB2
          go_wp2_with fail
          exact ⟨⟨k + 1, by omega, by go_num, HR3.out, HB3.out⟩, by simp only [intOf]; omega⟩
        · have hkn : g.length ≤ k := by have := HL.out.2; omega
          have HR3 := Lib.hid (show IntRow Q wr (.slice (some ⟨Q, 0, none⟩) N N) (mulY p f g N (i + 1) 0) by rw [← mulY_row hkn]; exact HR2.out)
          clear HR2
          go_wp2_with fail
          exact ⟨⟨i + 1, by omega, by go_num, HR3.out, HB2.out⟩, by simp only [intOf]; omega⟩
    · have hin : i = f.length := by have := HL.out.1; omega
      have HT := Lib.hid (show trimL (mulY p f g N i 0) = prodL p f g by rw [hin]; exact mulY_end (by have := HN.out; have := HL.out; omega))
      have hrl := mulY_length p f g N i 0
      have SR := Lib.hid (show Seen wr (some ⟨Q, 0, none⟩) N N (mulY p f g N i 0) by
        have h := row_seen (o := some ⟨Q, 0, none⟩) (n := (mulY p f g N i 0).length) (c := N) (by rw [hrl]; exact HR.out) (by rw [hrl]; omega)
        rw [hrl] at h; exact h)
      have HR3 := Lib.hid (intRow_lower (trim_row HR.out) hbs)
      rw [HT.out] at HR3
      generalize mulY p f g N i 0 = rl at *
      clear HT hrl HR hin
      go_wp2_with fail
      refine (trimmed_any SR.out).mono ?_
      rintro e w3 ⟨rfl, rfl⟩
      go_wp2_with fail
      go_ret
      exact ⟨_, rfl, HR3.out, HB.out⟩
/-! derivatives -/
theorem der_step {f : List Int} {n k : Nat} (hk : k < n) : (tabL n fun i => if i < k then ((i : Int) + 1) * f.getD (i + 1) 0 else 0).set k (((k : Int) + 1) * f.getD (k + 1) 0) = tabL n fun i => if i < k + 1 then ((i : Int) + 1) * f.getD (i + 1) 0 else 0 := by
  rw [tab_set _ hk]
  refine tabL_ext fun i hi => ?_
  by_cases e : i = k
  · rw [if_pos e, if_pos (by omega), e]
  · rw [if_neg e]
    by_cases h2 : i < k
    · rw [if_pos h2, if_pos (by omega)]
    · rw [if_neg h2, if_neg (by omega)]
end Go.Proofs.Ytjmecidbnoimnaa
namespace Go.Proofs.Ytjmecidbnoimnaa
open Go.RowKit
set_option linter.unusedVariables false
variable {F : Fence} {n : Nat} {P : Program} {α : Type}
/-- the call of an iterator value, at the yield of any loop l, for any two invariants that abide the iterator's own steps -/
def SeqBb (F : Fence) (n : Nat) (P : Program) (g : Nat) (ba lb : Array Value) (encs : α → Array Value) (St Fr : World → World → Prop) (S Sp : List α → Prop) (Start : World → Prop) : Prop :=
  ∀ (l : Nat) (J Jx : List α → World → Prop) (W : World), Start W →
    (∀ s A B, J s A → St A B → J s B) → (∀ s A B, Jx s A → St A B → Jx s B) → J [] W →
    (∀ pre x A, Sp (pre ++ [x]) → J pre A → YieldAt F (n - 1) P l (encs x) A fun e B => (e = .returned (.bool true) ∧ J (pre ++ [x]) B ∧ Fr A B) ∨ (e = .returned (.bool false) ∧ Jx (pre ++ [x]) B)) →
    CallsIn F n P g (ba ++ #[.func (.yield l) #[] #[]] ++ lb) W fun e B => ∃ v, e = .returned v ∧ ((∃ xs, S xs ∧ J xs B) ∨ ∃ pre, Sp pre ∧ Jx pre B)
/-- how a body may be left -/
def LeftBb (Fr : World → World → Prop) (I Ix : List α → World → Prop) (xs : List α) (W : World) : Exit → Act → World → Prop
  | .normal, _, B => KeepsOthers W B ∧ Fr W B ∧ I xs B
  | .ret, _, B => KeepsOthers W B ∧ Ix xs B
  | _, _, _ => False
/-- the loop's record and the block for deferred calls stand in W -/
def StandsB (K : Nat) (r : Loop) (W : World) : Prop := W.heap[K + 1]? = some (.loop r) ∧ W.heap[K]? = some (.deferred (some []))
theorem StandsB.put {K : Nat} {r r' : Loop} {W : World} (h : StandsB K r W) : StandsB K r' (W.putObj (K + 1) (.loop r')) :=
  ⟨World.putObj_heap_same (Array.getElem?_eq_some_iff.1 h.1).1, (World.putObj_heap_other (by omega)).trans h.2⟩
theorem StandsB.keeps {K : Nat} {r : Loop} {W B : World} (h : StandsB K r W) (hk : KeepsOthers W B) : StandsB K r B := ⟨hk.same _ _ h.1 rfl, hk.same _ _ h.2 rfl⟩
theorem wpIn_rangeBb {g : Operand} {ps : Array Tmp} {assign body : Code} {Q : Exit → Act → World → Prop} {a : Act} {w : World}
    (hro : F.round = none) (h1 : 1 ≤ n) {gf : Nat} {ba lb : Array Value} (hg : a.eval g = .func (.func gf) ba lb) (hFg : F.fn gf) (eg : ∀ args w, (callFunc gf args).run P w = .ok (.enter gf args) w)
    {encs : α → Array Value} {St Fr : World → World → Prop} {S Sp : List α → Prop} {Start : World → Prop} (hseq : SeqBb F (n - 1) P gf ba lb encs St Fr S Sp Start) (hps : ∀ x, (encs x).size = ps.size)
    (I Ix : List α → World → Prop) (a₁ : α → Act)
    (hIp : ∀ s W k o o', I s W → w.heap.size ≤ k → W.heap[k]? = some o → o.isCells = false → I s (W.putObj k o'))
    (hXp : ∀ s W k o o', Ix s W → w.heap.size ≤ k → W.heap[k]? = some o → o.isCells = false → Ix s (W.putObj k o'))
    (hFp : ∀ A W k o o', Fr A W → w.heap.size ≤ k → W.heap[k]? = some o → o.isCells = false → Fr A (W.putObj k o'))
    (hFq : ∀ W k o o', w.heap.size ≤ k → W.heap[k]? = some o → o.isCells = false → Fr W (W.putObj k o')) (hFt : ∀ {A B C : World}, Fr A B → Fr B C → Fr A C)
    (hIs : ∀ s A B, I s A → St A B → I s B) (hXs : ∀ s A B, Ix s A → St A B → Ix s B) (hSk : ∀ A B k o, St A B → w.heap.size ≤ k → A.heap[k]? = some o → o.isCells = false → B.heap[k]? = some o)
    (h0 : ∀ o o', I [] ((w.alloc o).alloc o')) (hS0 : ∀ o o', Start ((w.alloc o).alloc o'))
    (hassign : ∀ (l : Nat) (x : α) (W : World) (K : Act → World → Prop), K (a₁ x) W →
      assign.wpIn (F.inRound l) (n - 1 - 1) P (Exit.then K (fun _ _ _ => False)) { tmps := (ps.zip (encs x)).foldl (fun t (p, v) => t.setIfInBounds p v) a.tmps, defers := [] } W)
    (hbody : ∀ (l : Nat) (pre : List α) (x : α) (W : World), Sp (pre ++ [x]) → I pre W → body.wpIn (F.inRound l) (n - 1 - 1) P (LeftBb Fr I Ix (pre ++ [x]) W) (a₁ x) W)
    (hdone : ∀ (D : Nat) (xs : List α) (W : World), w.heap.size ≤ D → S xs → I xs W → W.heap[D]? = some (.deferred (some [])) → Q .normal { a with defers := { target := .collected D, args := #[] } :: a.defers } W)
    (hstop : ∀ (D : Nat) (pre : List α) (W : World), w.heap.size ≤ D → Sp pre → Ix pre W → W.heap[D]? = some (.deferred (some [])) → Code.ret.wpIn F n P Q { a with defers := { target := .collected D, args := #[] } :: a.defers } W) :
    (Code.rangeFunc g ps assign body).wpIn F n P Q a w := by
  refine wpIn_rangeFunc fun fn hfn => ?_
  rw [hro]
  let mk : LoopState → Option Code → Loop := fun st pe => { state := st, pending := pe, fn, tmps := a.tmps, params := ps, assign, body, defers := w.heap.size }
  refine ⟨w.heap.size + 1, [{ target := .collected w.heap.size, args := #[] }], (w.alloc (.deferred (some []))).alloc (.loop (mk .ready none)), { target := .fn (.func gf) lb, args := ba ++ #[.func (.yield (w.heap.size + 1)) #[] #[]] },
    (w.alloc (.deferred (some []))).alloc (.loop (mk .ready none)), gf, ba ++ #[.func (.yield (w.heap.size + 1)) #[] #[]] ++ lb, (w.alloc (.deferred (some []))).alloc (.loop (mk .ready none)),
    run_enterLoop_outer _ _ _ _ _, ?_, ?_, ?_, fun _ => h1, ?_⟩
  · simp only [resolve, hg]
    simp [go_sem]
  · intro f' hf'; simp [Target.leads] at hf'; subst hf'; exact hFg
  · simp [invoke, go_sem, eg]
  have st0 : StandsB w.heap.size (mk .ready none) ((w.alloc (.deferred (some []))).alloc (.loop (mk .ready none))) := by
    refine ⟨?_, ?_⟩
    · have := World.alloc_heap_new (w.alloc (.deferred (some []))) (.loop (mk .ready none)); rwa [World.size_alloc] at this
    · exact (Below.heap_alloc _ _ _ (by simp)).trans (World.alloc_heap_new w _)
  have stS : ∀ r A B, StandsB w.heap.size r A → St A B → StandsB w.heap.size r B := fun r A B h hs => ⟨hSk A B _ _ hs (by omega) h.1 rfl, hSk A B _ _ hs (by omega) h.2 rfl⟩
  refine (hseq (w.heap.size + 1) (fun s W => I s W ∧ StandsB w.heap.size (mk .ready none) W) (fun s W => Ix s W ∧ StandsB w.heap.size (mk .done (some .ret)) W) _ (hS0 _ _)
    (fun s A B h hs => ⟨hIs s A B h.1 hs, stS _ A B h.2 hs⟩) (fun s A B h hs => ⟨hXs s A B h.1 hs, stS _ A B h.2 hs⟩) ⟨h0 _ _, st0⟩ ?_).mono ?_
  · rintro pre x W hsp ⟨hi, hst⟩
    refine ⟨fn, _, assign, body, run_yield (P := P) (args := encs x) hst.1 (hps x), roundIn_of_wpIn hfn (hassign _ x W _ ⟨_, run_beginRound hst.1 rfl, ?_⟩)⟩
    have hb2 : StandsB w.heap.size (mk .busy none) (W.putObj (w.heap.size + 1) (.loop (mk .busy none))) := hst.put
    refine wpIn_mono (hbody _ pre x _ hsp (hIp _ _ _ _ _ hi (by omega) hst.1 rfl)) ?_
    rintro e a3 W3 hp
    cases e with
    | normal =>
      obtain ⟨hk, hf, hi3⟩ := hp
      have hs3 := hb2.keeps hk
      exact ⟨_, _, run_endRound (P := P) none hs3.1, .inl ⟨rfl, ⟨hIp _ _ _ _ _ hi3 (by omega) hs3.1 rfl, hs3.put⟩, hFp _ _ _ _ _ (hFt (hFq _ _ _ _ (by omega) hst.1 rfl) hf) (by omega) hs3.1 rfl⟩⟩
    | ret =>
      obtain ⟨hk, hi3⟩ := hp
      have hs3 := hb2.keeps hk
      exact ⟨_, _, run_endRound (P := P) (some .ret) hs3.1, .inr ⟨rfl, hXp _ _ _ _ _ hi3 (by omega) hs3.1 rfl, hs3.put⟩⟩
    | exit id => exact hp.elim
    | goto t => exact hp.elim
    | panic ch => exact hp.elim
    | outgrown => exact hp.elim
  · rintro e W2 ⟨v, rfl, (⟨xs, hS, hi, hst⟩ | ⟨pre, hSp, hi, hst⟩)⟩
    · exact ⟨none, _, run_endLoop (P := P) hst.1 (by simp [mk]), hdone _ xs _ (Nat.le_refl _) hS (hIp _ _ _ _ _ hi (by omega) hst.1 rfl) ((World.putObj_heap_other (by omega)).trans hst.2)⟩
    · exact ⟨some .ret, _, run_endLoop (P := P) hst.1 (by simp [mk]), hstop _ pre _ (Nat.le_refl _) hSp (hXp _ _ _ _ _ hi (by omega) hst.1 rfl) ((World.putObj_heap_other (by omega)).trans hst.2)⟩
end Go.Proofs.Ytjmecidbnoimnaa
namespace Go.Proofs.Ytjmecidbnoimnaa
open Go
set_option linter.unusedVariables false
section
variable {P : Program} {ops : Array Oper} {md : Region.Mode} {w : World} {l n : Nat}
theorem still_wpIn {o : Oper} {a : Act} {K : Act → Prop} {K' : Act → World → Prop} {Q' : Exit → Act → World → Prop} (hd : ∀ c, o.op ≠ .defer c) (h : ∀ a, K a → K' a w) (hh : o.still P a w K) : o.wpIn (Fence.wide.inRound l) n P a w K' Q' := by
  refine ⟨fun f _ => trivial, ?_⟩
  rw [Oper.semAt_eq _ _ _ hd]
  unfold Oper.still at hh
  generalize (execOp a.eval o).run P w = r at *
  cases r with
  | ok x w' =>
    cases x <;> simp only [Oper.stillUpon] at hh <;> simp only [Oper.uponIn]
    case enter f args =>
      obtain ⟨rfl, v, hc, hn⟩ := hh
      refine ⟨fun h => absurd h (by simp [Fence.wide, Fence.inRound]), ?_⟩
      exact (CallsIn.inRound l (callsIn_wide.2 hc)).mono fun e w'' ⟨he, hw⟩ => by subst he; subst hw; exact h _ hn
    all_goals (obtain ⟨rfl, h2⟩ := hh; exact h _ h2)
  | halt x w' => simp only [Oper.stillUpon] at hh
theorem stOp_wpIn {i : Nat} {a : Act} {K : Act → Prop} {K' : Act → World → Prop} {Q' : Exit → Act → World → Prop} (hd : ∀ (i : Nat) o, ops[i]? = some o → ∀ c, o.op ≠ .defer c) (h : ∀ a, K a → K' a w) (hh : stOp P ops w i K a) : wpOpIn (Fence.wide.inRound l) n P ops Q' i K' a w := by
  unfold stOp at hh
  unfold wpOpIn
  split
  · rename_i ho; simp only [ho] at hh; exact h _ hh
  · rename_i o ho
    simp only [ho] at hh
    split
    · rename_i hw; simp only [hw, if_true] at hh; exact still_wpIn (hd i o ho) h hh
    · rename_i hw; simp only [hw] at hh; exact ⟨fun f _ => trivial, h _ hh⟩
theorem wpAnyIn_of_head {m g : Nat} {L : Array Bool → Act → Prop} {Q' : Exit → Act → World → Prop} (hd : ∀ (i : Nat) o, ops[i]? = some o → ∀ c, o.op ≠ .defer c) (hL : ∀ listed a, L listed a → wpAnyIn (Fence.wide.inRound l) n P md ops Q' g listed a w) :
    ∀ (f : Nat) (listed : Array Bool) (a : Act), wpAnyL P md ops w m L f listed a → wpAnyIn (Fence.wide.inRound l) n P md ops Q' (f + g) listed a w
  | 0, listed, a, h => by rw [Nat.zero_add]; exact hL _ _ h
  | f + 1, listed, a, h => by
    rw [show f + 1 + g = (f + g) + 1 by omega]
    exact ⟨fun h0 => absurd h0 h.1, fun i hi => stOp_wpIn hd (fun a' h' => wpAnyIn_of_head hd hL f _ a' h') (h.2 i hi).2⟩
theorem wpAnyIn_of_seq {F : Fence} {Q' : Exit → Act → World → Prop} : ∀ (xs : List Oper) (k : Nat) (listed : Array Bool) (a : Act) (w : World), (∀ j, xs[j]? = ops[k + j]?) →
    Region.seqB md ops xs.length k listed = true → wpListIn F n P ops Q' xs a w → wpAnyIn F n P md ops Q' xs.length listed a w
  | [], _, _, _, _, _, hB, h => ⟨by simpa [Region.seqB] using hB, h⟩
  | o :: xs, k, listed, a, w, hl, hB, h => by
    have h0 : ops[k]? = some o := by simpa using (hl 0).symm
    simp only [List.length_cons, Region.seqB, Bool.and_eq_true, decide_eq_true_eq] at hB
    refine ⟨fun h1 => (by rw [hB.1] at h1; cases h1), fun i hi => ?_⟩
    rw [hB.1] at hi
    have hik : i = k := by simpa using hi
    subst hik
    have hw : wpOpIn F n P ops Q' i (wpListIn F n P ops Q' xs) a w := by unfold wpOpIn; simp only [h0]; exact h
    exact wpOpIn_mono (fun a' w' h' => wpAnyIn_of_seq xs (i + 1) _ a' w' (fun j => by have := hl (j + 1); simpa [Nat.add_assoc, Nat.add_comm 1 j] using this) hB.2 h') hw
def noDefer (ops : Array Oper) : Bool := ops.all fun o => match o.op with | .defer _ => false | _ => true
theorem noDefer_spec (h : noDefer ops = true) (i : Nat) (o : Oper) (ho : ops[i]? = some o) (c : _) : o.op ≠ .defer c := by
  intro e
  have h1 := Array.all_eq_true'.1 h o (Array.mem_of_getElem? ho)
  rw [e] at h1
  cases h1
theorem wpIn_region_still_tail {id : Nat} {Q : Exit → Act → World → Prop} {a : Act} {xs : List Oper} (m : Nat) (hm : P.follows .mixedOrders = true) (hB : Region.lexTailB .any xs.toArray m = true) (hd : noDefer xs.toArray = true)
    (h : wpStill P xs.toArray { w with drawn := w.drawn + 1 } (fun a' => wpListIn (Fence.wide.inRound l) n P xs.toArray Q (xs.drop m) a' { w with drawn := w.drawn + 1 }) (xs.take m) a) : (Code.region id xs.toArray true).wpIn (Fence.wide.inRound l) n P Q a w := by
  simp only [Region.lexTailB, Bool.and_eq_true, decide_eq_true_eq] at hB
  obtain ⟨⟨⟨⟨hsel, hn⟩, hs⟩, hc⟩, hlex⟩ := hB
  have hn' : m < xs.length := by simpa using hn
  have htl : (xs.take m).length = m := by simp; omega
  have hdl : (xs.drop m).length = xs.toArray.size - m := by simp
  have inv0 : HeadInv .any xs.toArray m (Array.replicate xs.toArray.size false) :=
    ⟨by simp, fun j oj _ hl => (by rw [getD_replicate_false] at hl; cases hl), fun t _ ht => getD_in (by simpa using ht) (getD_replicate_false _ _)⟩
  have H := wpAnyL_lex (md := .any) (g := xs.toArray.size - m) hsel hs hc hn (xs.take m) 0 _ a (fun j hj => by
    have hj' : j < m := by rw [htl] at hj; exact hj
    simp [hj']) (by simpa using htl) inv0 (by rw [htl]; exact hlex) h
  refine wpIn_region_any hm ?_
  have := wpAnyIn_of_head (l := l) (n := n) (Q' := Q) (g := xs.toArray.size - m) (noDefer_spec hd) (fun listed a' hL => by
    have := wpAnyIn_of_seq (F := Fence.wide.inRound l) (n := n) (md := .any) (Q' := Q) (xs.drop m) m listed a' { w with drawn := w.drawn + 1 } (fun j => by simp [List.getElem?_drop]) (by rw [hdl]; exact hL.1) hL.2
    rwa [hdl] at this) _ _ _ H
  rw [htl, show m + (xs.toArray.size - m) = xs.toArray.size by omega] at this
  exact this
end
end Go.Proofs.Ytjmecidbnoimnaa
namespace Go.Proofs.Ytjmecidbnoimnaa
open Go.RowKit Go.Shelf
attribute [local go_sem] Oper.semAt_some
set_option linter.unusedVariables false
set_option maxRecDepth 20000
set_option linter.unusedSimpArgs false
theorem boxed_put8 {W : World} {j k : Nat} {t : TypeId} {v : Value} {o o' : Obj} (h : Boxed W j t v) (hk : W.heap[k]? = some o) (ho : o.isCells = false) : Boxed (W.putObj k o') j t v := by
  have hne : j ≠ k := by
    rintro rfl
    have h' : W.heap[j]? = some (Obj.cells #[v] t (0, 0)) := h
    rw [h'] at hk; cases hk; cases ho
  exact (World.putObj_heap_other hne).trans h
theorem below_put8 {b k : Nat} {w W : World} {o' : Obj} (h : Below b w W) (hk : b ≤ k) : Below b w (W.putObj k o') :=
  ⟨h.os, h.tape, h.output, by have := h.size; simp [World.putObj]; omega, fun j hj => (World.putObj_heap_other (by omega)).trans (h.block j hj)⟩
theorem boxed_below8 {W w2 : World} {j : Nat} {t : TypeId} {v : Value} (h : Boxed W j t v) (hb : Below W.heap.size W w2) : Boxed w2 j t v := (hb.block j h.lt).trans h
theorem keeps_below8 {W w2 : World} (hb : Below W.heap.size W w2) : KeepsOthers W w2 :=
  ⟨hb.size, fun k o hk _ => (hb.block k (Array.getElem?_eq_some_iff.1 hk).1).trans hk⟩
theorem boxed_set8 {W : World} {j : Nat} {t : TypeId} {v : Value} (h : Boxed W j t v) {a : Addr} (ha : j ≠ a.block) (u : Value) : Boxed (W.setCell a u) j t v := by
  have e : (W.setCell a u).heap[j]? = W.heap[j]? := Below.heap_setCell _ _ _ _ ha
  exact e.trans h
/-- an iterator's own steps only add memory -/
abbrev StU8 (A B : World) : Prop := Below A.heap.size A B
theorem backward8_made (o : Option Addr) (n c : Nat) (w : World) :
    Calls Try.prog 112 #[.slice o n c] w fun e w' => e = .returned (.func (.func 124) #[] #[.pointer (some ⟨w.heap.size, 0, none⟩)]) ∧ w' = w.alloc (.cells #[.slice o n c] 27) := by
  go_enter Try.func112, Try.ntmps112
  go_wp2
  go_ret
  exact ⟨rfl, rfl⟩
/-- the indices from the end on -/
def bkI (n j : Nat) : List Nat := (List.range j).map fun i => n - 1 - i
theorem bkI_succ (n j : Nat) : bkI n (j + 1) = bkI n j ++ [n - 1 - j] := by
  unfold bkI; rw [List.range_succ, List.map_append]; rfl
theorem bkI_length (n j : Nat) : (bkI n j).length = j := by simp [bkI]
def Ints8 (g n : Nat) (W : World) : Prop := ∀ k, k < n → ∃ y, W.cell? ⟨g, k, none⟩ = some (.int .i64 y)
def BackN (g b n c : Nat) (W : World) : Prop := Boxed W b 27 (.slice (some ⟨g, 0, none⟩) n c) ∧ Ints8 g n W
/-- what a round keeps: the box of the list, and that integers stand in it -/
def FrN (g b n : Nat) (A B : World) : Prop := B.heap[b]? = A.heap[b]? ∧ (Ints8 g n A → Ints8 g n B)
theorem frN_refl {g b n : Nat} (A : World) : FrN g b n A A := ⟨rfl, id⟩
theorem frN_trans {g b n : Nat} {A B C : World} (h : FrN g b n A B) (k : FrN g b n B C) : FrN g b n A C := ⟨k.1.trans h.1, fun x => k.2 (h.2 x)⟩
theorem ints8_put {g n k : Nat} {W : World} {o o' : Obj} (h : Ints8 g n W) (hk : W.heap[k]? = some o) (ho : o.isCells = false) : Ints8 g n (W.putObj k o') := fun i hi => by
  obtain ⟨y, hy⟩ := h i hi
  refine ⟨y, ?_⟩
  have hne : g ≠ k := by
    rintro rfl
    unfold World.cell? at hy
    rw [show W.heap[(⟨g, i, none⟩ : Addr).block]? = some o from hk] at hy
    cases o <;> simp [Obj.isCells] at ho <;> simp at hy
  rw [World.cell?_of_block (w := W) (a := ⟨g, i, none⟩) (World.putObj_heap_other hne)]; exact hy
theorem frN_put {g b n k : Nat} {A W : World} {o o' : Obj} (h : FrN g b n A W) (hk : W.heap[k]? = some o) (ho : o.isCells = false) (hb : b ≠ k) : FrN g b n A (W.putObj k o') :=
  ⟨(World.putObj_heap_other hb).trans h.1, fun x => ints8_put (h.2 x) hk ho⟩
theorem frN_below {g b n : Nat} {A B : World} (h : Below A.heap.size A B) (hb : b < A.heap.size) (hg : g < A.heap.size) : FrN g b n A B :=
  ⟨h.block b hb, fun x i hi => by obtain ⟨y, hy⟩ := x i hi; exact ⟨y, by rw [h.cell (p := ⟨g, i, none⟩) hg]; exact hy⟩⟩
theorem frN_set {g b n : Nat} {A : World} {a : Addr} (x : Int) (ha : b ≠ a.block) : FrN g b n A (A.setCell a (.int .i64 x)) := by
  refine ⟨Below.heap_setCell _ _ _ _ ha, fun h i hi => ?_⟩
  obtain ⟨y, hy⟩ := h i hi
  by_cases e : a = ⟨g, i, none⟩
  · subst e; exact ⟨x, World.cell?_setCell_same _ _ _ hy⟩
  · exact ⟨y, by rw [World.cell?_setCell_other _ _ _ _ e]; exact hy⟩
theorem frN_drew {g b n : Nat} (A : World) : FrN g b n A A.drew := ⟨rfl, id⟩
theorem backN_kept {g b n c : Nat} {A B : World} (h : BackN g b n c A) (hf : FrN g b n A B) : BackN g b n c B := ⟨hf.1.trans h.1, hf.2 h.2⟩
set_option maxRecDepth 20000 in
set_option maxHeartbeats 1600000 in
theorem backIdx_by (n : Nat) (hn : 1 ≤ n) (g b N c : Nat) (hl : N ≤ 1100000) :
    SeqBb Fence.wide n Try.prog 124 #[] #[.pointer (some ⟨b, 0, none⟩)] (fun x : Nat × Int => #[.int .i64 x.1, .int .i64 x.2]) StU8 (FrN g b N) (fun xs => xs.map Prod.fst = bkI N N) (fun pre => ∃ j, j ≤ N ∧ pre.map Prod.fst = bkI N j) (BackN g b N c) := by
  intro lp J Jx W hW hJ hX h0 hY
  have HW := Lib.hid hW
  have H0 := Lib.hid h0
  have q0 := hW.1.cell
  clear hW h0
  show CallsIn Fence.wide n Try.prog 124 #[.func (.yield lp) #[] #[], .pointer (some ⟨b, 0, none⟩)] W _
  refine callsIn_of_wp Try.func124 rfl trivial ?_ rfl
  simp only [Try.ntmps124, List.size_toArray, List.length_cons, List.length_nil, Nat.reduceAdd, Nat.reduceSub, Array.replicate_succ, Array.replicate_zero, List.push_toArray, List.append_toArray, List.nil_append, List.cons_append]
  gi_wp2
  gi_loopw [3] (fun i wr => ∃ (j : Nat) (x : Int) (pre : List (Nat × Int)), j ≤ N ∧ i = .int .i64 x ∧ x = (N : Int) - 1 - j ∧ BackN g b N c wr ∧ pre.map Prod.fst = bkI N j ∧ J pre wr) (fun i wr => (intOf i + 1).toNat)
  case atStart => exact ⟨0, (N : Int) - 1, [], Nat.zero_le _, rfl, by omega, HW.out, rfl, H0.out⟩
  case round =>
    obtain ⟨j, x, pre, hj, rfl, hx, hb, hpre, hJj⟩ := hrel
    have q1 := hb.1.cell
    by_cases hlt : j < N
    · obtain ⟨m, hm⟩ : ∃ m : Nat, x = m := ⟨x.toNat, by omega⟩
      subst hm
      have hm2 : m = N - 1 - j := by omega
      have hml : m < N := by omega
      obtain ⟨y, q2⟩ := hb.2 m hml
      have hs : (pre ++ [(m, y)]).map Prod.fst = bkI N (j + 1) := by rw [bkI_succ, List.map_append, hpre, hm2]; rfl
      have HY := Lib.hid (hY pre (m, y) wr ⟨j + 1, by omega, hs⟩ hJj)
      have HS := Lib.hid hs
      have HB := Lib.hid hb
      have HXX := Lib.hid hx
      have hm0 : (m : Int) ≤ 1100000 := by omega
      have hge : (0 : Int) ≤ (m : Int) := by omega
      clear hs hb hJj hm2 hx hpre
      obtain ⟨fn, tmps, assign, body, hy, hR⟩ := HY.out
      clear HY
      simp only at hy
      gi_wp2
      refine hR.mono ?_
      rintro e W3 (⟨rfl, hJ3, hF3⟩ | ⟨rfl, hX3⟩)
      · have hb3 := backN_kept HB.out hF3
        have d0 := hb3.1.cell
        have HB3 := Lib.hid hb3
        clear hb3 q1 q2
        gi_wp2
        go_roundw
        case rel => exact ⟨j + 1, (m : Int) - 1, _, by omega, rfl, by have := HXX.out; omega, HB3.out, HS.out, hJ3⟩
        case measure => simp [intOf]
      · gi_wp2
        refine bodyPost_ret (results_none rfl _ _ _) rfl ?_
        exact ⟨_, rfl, .inr ⟨_, ⟨j + 1, by omega, HS.out⟩, hX3⟩⟩
    · have hjl : j = N := by omega
      have HK := Lib.hid hjl
      have HJ := Lib.hid hJj
      have HP := Lib.hid hpre
      have hx1 : x < 0 := by omega
      clear hjl hJj hb hpre
      gi_wp2
      go_end0
      have hPe := HP.out
      rw [HK.out] at hPe
      exact ⟨_, rfl, .inl ⟨_, hPe, HJ.out⟩⟩
/-! the list that stays -/
def bk8 (l : List Int) (j : Nat) : List (Nat × Int) := (List.range j).map fun (i : Nat) => (l.length - 1 - i, l.getD (l.length - 1 - i) 0)
theorem bk8_length (l : List Int) (j : Nat) : (bk8 l j).length = j := by simp [bk8]
theorem bk8_succ (l : List Int) (j : Nat) : bk8 l (j + 1) = bk8 l j ++ [(l.length - 1 - j, l.getD (l.length - 1 - j) 0)] := by
  unfold bk8; rw [List.range_succ, List.map_append]; rfl
theorem bk8_last {l : List Int} {pre : List (Nat × Int)} {x : Nat × Int} (h : ∃ j, j ≤ l.length ∧ pre ++ [x] = bk8 l j) : pre.length + 1 ≤ l.length ∧ x.2 = l.getD (l.length - 1 - pre.length) 0 := by
  obtain ⟨j, hj, e⟩ := h
  have hl := congrArg List.length e
  rw [bk8_length, List.length_append, List.length_singleton] at hl
  obtain ⟨k, rfl⟩ : ∃ k, j = k + 1 := ⟨j - 1, by omega⟩
  rw [bk8_succ] at e
  have e2 := List.append_inj_right' e rfl
  injection e2 with e3
  rw [e3, show k = pre.length by omega]
  exact ⟨by omega, rfl⟩
def Fr8 (g b : Nat) (A B : World) : Prop := ∀ k, k = g ∨ k = b → B.heap[k]? = A.heap[k]?
def BackAt8 (g b c : Nat) (l : List Int) (W : World) : Prop :=
  Boxed W b 27 (.slice (some ⟨g, 0, none⟩) l.length c) ∧ ∀ k, k < l.length → W.cell? ⟨g, k, none⟩ = some (.int .i64 (l.getD k 0))
theorem backAt8_kept {g b c : Nat} {l : List Int} {A B : World} (h : BackAt8 g b c l A) (hf : Fr8 g b A B) : BackAt8 g b c l B :=
  ⟨(hf b (.inr rfl)).trans h.1, fun k hk => by rw [World.cell?_of_block (w := A) (a := ⟨g, k, none⟩) (hf g (.inl rfl))]; exact h.2 k hk⟩
set_option maxRecDepth 20000 in
set_option maxHeartbeats 1600000 in
theorem backward8_by (n : Nat) (hn : 1 ≤ n) (g b c : Nat) (l : List Int) (hl : l.length ≤ 1100000) :
    SeqBb Fence.wide n Try.prog 124 #[] #[.pointer (some ⟨b, 0, none⟩)] (fun x : Nat × Int => #[.int .i64 x.1, .int .i64 x.2]) StU8 (Fr8 g b) (fun xs => xs = bk8 l l.length) (fun pre => ∃ j, j ≤ l.length ∧ pre = bk8 l j) (BackAt8 g b c l) := by
  intro lp J Jx W hW hJ hX h0 hY
  have HW := Lib.hid hW
  have H0 := Lib.hid h0
  have q0 := hW.1.cell
  clear hW h0
  show CallsIn Fence.wide n Try.prog 124 #[.func (.yield lp) #[] #[], .pointer (some ⟨b, 0, none⟩)] W _
  refine callsIn_of_wp Try.func124 rfl trivial ?_ rfl
  simp only [Try.ntmps124, List.size_toArray, List.length_cons, List.length_nil, Nat.reduceAdd, Nat.reduceSub, Array.replicate_succ, Array.replicate_zero, List.push_toArray, List.append_toArray, List.nil_append, List.cons_append]
  gi_wp2
  gi_loopw [3] (fun i wr => ∃ (j : Nat) (x : Int), j ≤ l.length ∧ i = .int .i64 x ∧ x = (l.length : Int) - 1 - j ∧ BackAt8 g b c l wr ∧ J (bk8 l j) wr) (fun i wr => (intOf i + 1).toNat)
  case atStart => exact ⟨0, (l.length : Int) - 1, Nat.zero_le _, rfl, by omega, HW.out, H0.out⟩
  case round =>
    obtain ⟨j, x, hj, rfl, hx, hb, hJj⟩ := hrel
    have q1 := hb.1.cell
    by_cases hlt : j < l.length
    · obtain ⟨m, hm⟩ : ∃ m : Nat, x = m := ⟨x.toNat, by omega⟩
      subst hm
      have hm2 : m = l.length - 1 - j := by omega
      have hml : m < l.length := by omega
      have q2 := hb.2 m hml
      obtain ⟨y, hy⟩ : ∃ y, l.getD m 0 = y := ⟨_, rfl⟩
      rw [hy] at q2
      have hs : bk8 l (j + 1) = bk8 l j ++ [(m, y)] := by rw [bk8_succ, ← hm2, hy]
      have HY := Lib.hid (hY (bk8 l j) (m, y) wr ⟨j + 1, by omega, hs.symm⟩ hJj)
      have HS := Lib.hid hs
      have HB := Lib.hid hb
      have HXX := Lib.hid hx
      have hm0 : (m : Int) ≤ 1100000 := by omega
      have hge : (0 : Int) ≤ (m : Int) := by omega
      clear hs hb hJj hy hm2 hx
      obtain ⟨fn, tmps, assign, body, hy, hR⟩ := HY.out
      clear HY
      simp only at hy
      gi_wp2
      refine hR.mono ?_
      rintro e W3 (⟨rfl, hJ3, hF3⟩ | ⟨rfl, hX3⟩)
      · have hb3 := backAt8_kept HB.out hF3
        have d0 := hb3.1.cell
        have HB3 := Lib.hid hb3
        clear hb3 q1 q2
        gi_wp2
        go_roundw
        case rel => exact ⟨j + 1, (m : Int) - 1, by omega, rfl, by have := HXX.out; omega, HB3.out, by rw [HS.out]; exact hJ3⟩
        case measure => simp [intOf]
      · gi_wp2
        refine bodyPost_ret (results_none rfl _ _ _) rfl ?_
        exact ⟨_, rfl, .inr ⟨_, ⟨j + 1, by omega, HS.out.symm⟩, hX3⟩⟩
    · have hjl : j = l.length := by omega
      have HK := Lib.hid hjl
      have HJ := Lib.hid hJj
      have hx1 : x < 0 := by omega
      clear hjl hJj hb
      gi_wp2
      go_end0
      have hJe := HJ.out
      rw [HK.out] at hJe
      exact ⟨_, rfl, .inl ⟨_, rfl, hJe⟩⟩
end Go.Proofs.Ytjmecidbnoimnaa
namespace Go.Proofs.Ytjmecidbnoimnaa
open Go.RowKit Go.Shelf
attribute [local go_sem] Oper.semAt_some
set_option linter.unusedVariables false
set_option linter.unusedSimpArgs false
set_option maxRecDepth 20000
/-- boxes of variables that lie -/
def Boxes (W : World) (L : List (Nat × TypeId × Value)) : Prop := ∀ x ∈ L, Boxed W x.1 x.2.1 x.2.2
theorem boxes_put {W : World} {L : List (Nat × TypeId × Value)} {k : Nat} {o o' : Obj} (h : Boxes W L) (hk : W.heap[k]? = some o) (ho : o.isCells = false) : Boxes (W.putObj k o') L := fun x hx => boxed_put8 (h x hx) hk ho
theorem boxes_below {W W' : World} {L : List (Nat × TypeId × Value)} (h : Boxes W L) (hb : Below W.heap.size W W') : Boxes W' L := fun x hx => boxed_below8 (h x hx) hb
theorem boxes_set {W : World} {L : List (Nat × TypeId × Value)} {a : Addr} (h : Boxes W L) (ha : ∀ x ∈ L, x.1 ≠ a.block) (u : Value) : Boxes (W.setCell a u) L := fun x hx => boxed_set8 (h x hx) (ha x hx) u
theorem boxes_drew {W : World} {L : List (Nat × TypeId × Value)} (h : Boxes W L) : Boxes W.drew L := h
theorem boxes_cons {W : World} {L : List (Nat × TypeId × Value)} {b : Nat} {T : TypeId} {v : Value} (h : Boxes W L) (hb : Boxed W b T v) : Boxes W ((b, T, v) :: L) := fun x hx => by
  rcases List.mem_cons.1 hx with rfl | hx
  · exact hb
  · exact h x hx
theorem boxes_grown {W W' : World} {L : List (Nat × TypeId × Value)} (h : Boxes W L) (hg : W.grownBy W' none) : Boxes W' L := fun x hx => (hg.block x.1 (h x hx).lt (by simp)).trans (h x hx)
theorem row_none8 {b n c : Nat} {o : Option Addr} {w w' : World} {l : List Int} (h : IntRow b w (.slice o n c) l) (hg : w.grownBy w' none) : IntRow b w' (.slice o n c) l :=
  World.ownsRow.kept h hg (by cases hv : (Value.slice o n c).ownBlock with | none => exact .inl rfl | some k => exact .inr (by simp))
theorem row_put8 {b : Nat} {w : World} {v : Value} {l : List Int} {k : Nat} {o o' : Obj} (h : IntRow b w v l) (hk : w.heap[k]? = some o) (ho : o.isCells = false) : IntRow b (w.putObj k o') v l := ownsRow_putObj h _ hk ho
/-- four cells stay where memory is added -/
theorem keep8_alloc {W3 W' : World} {x1 x2 x3 x4 : Addr} {v1 v2 v3 v4 : Value} (h : Below W3.heap.size W3 W' ∧ W'.cell? x1 = some v1 ∧ W'.cell? x2 = some v2 ∧ W'.cell? x3 = some v3 ∧ W'.cell? x4 = some v4) (o : Obj) :
    Below W3.heap.size W3 (W'.alloc o) ∧ (W'.alloc o).cell? x1 = some v1 ∧ (W'.alloc o).cell? x2 = some v2 ∧ (W'.alloc o).cell? x3 = some v3 ∧ (W'.alloc o).cell? x4 = some v4 := by
  obtain ⟨hb, h1, h2, h3, h4⟩ := h
  exact ⟨hb.alloc hb.size o, (World.cell?_alloc_lt _ _ _ (World.block_lt_of_cell? _ _ h1)).trans h1, (World.cell?_alloc_lt _ _ _ (World.block_lt_of_cell? _ _ h2)).trans h2, (World.cell?_alloc_lt _ _ _ (World.block_lt_of_cell? _ _ h3)).trans h3, (World.cell?_alloc_lt _ _ _ (World.block_lt_of_cell? _ _ h4)).trans h4⟩
theorem keep8_set {W3 W' : World} {q x1 x2 x3 x4 : Addr} {v1 v2 v3 v4 : Value} (h : Below W3.heap.size W3 W' ∧ W'.cell? x1 = some v1 ∧ W'.cell? x2 = some v2 ∧ W'.cell? x3 = some v3 ∧ W'.cell? x4 = some v4) (hq : W3.heap.size ≤ q.block) (l1 : x1.block < W3.heap.size) (l2 : x2.block < W3.heap.size) (l3 : x3.block < W3.heap.size) (l4 : x4.block < W3.heap.size) (u : Value) :
    Below W3.heap.size W3 (W'.setCell q u) ∧ (W'.setCell q u).cell? x1 = some v1 ∧ (W'.setCell q u).cell? x2 = some v2 ∧ (W'.setCell q u).cell? x3 = some v3 ∧ (W'.setCell q u).cell? x4 = some v4 := by
  obtain ⟨hb, h1, h2, h3, h4⟩ := h
  exact ⟨hb.setCell hq u, (World.cell?_setCell_other _ _ _ _ (by intro e; subst e; omega)).trans h1, (World.cell?_setCell_other _ _ _ _ (by intro e; subst e; omega)).trans h2, (World.cell?_setCell_other _ _ _ _ (by intro e; subst e; omega)).trans h3, (World.cell?_setCell_other _ _ _ _ (by intro e; subst e; omega)).trans h4⟩
theorem bkI_last {n : Nat} {pre : List (Nat × Int)} {x : Nat × Int} (h : ∃ j, j ≤ n ∧ (pre ++ [x]).map Prod.fst = bkI n j) : pre.length + 1 ≤ n ∧ x.1 + pre.length + 1 = n := by
  obtain ⟨j, hj, e⟩ := h
  have hl := congrArg List.length e
  rw [bkI_length, List.length_map, List.length_append, List.length_singleton] at hl
  obtain ⟨k, rfl⟩ : ∃ k, j = k + 1 := ⟨j - 1, by omega⟩
  rw [bkI_succ, List.map_append] at e
  have e2 := List.append_inj_right' e rfl
  injection e2 with e3
  have e4 : k = pre.length := by omega
  rw [← e4]
  exact ⟨by omega, by rw [e3]; omega⟩
/-- what holds at the head of each round of the division -/
def DvI (w : World) (L : List (Nat × TypeId × Value)) (b5 Q q : Nat) (p iv : Int) (f g : List Int) (o5 : Option Addr) (c5 : Nat) (pre : List (Nat × Int)) (W : World) : Prop :=
  Boxes W L ∧ IntRow b5 W (.slice o5 f.length c5) (tabL f.length (mdS p iv g (fun j => f.getD j 0) f.length pre.length)) ∧ IntRow Q W (.slice (some ⟨Q, 0, none⟩) q q) (qX p iv f g q pre.length) ∧ Below w.heap.size w W
theorem dvI_put {w W : World} {L : List (Nat × TypeId × Value)} {b5 Q q : Nat} {p iv : Int} {f g : List Int} {o5 : Option Addr} {c5 : Nat} {pre : List (Nat × Int)} {k : Nat} {o o' : Obj} (h : DvI w L b5 Q q p iv f g o5 c5 pre W) (hb : w.heap.size ≤ k) (hk : W.heap[k]? = some o) (ho : o.isCells = false) : DvI w L b5 Q q p iv f g o5 c5 pre (W.putObj k o') :=
  ⟨boxes_put h.1 hk ho, row_put8 h.2.1 hk ho, row_put8 h.2.2.1 hk ho, below_put8 h.2.2.2 hb⟩
theorem dvI_below {w A B : World} {L : List (Nat × TypeId × Value)} {b5 Q q : Nat} {p iv : Int} {f g : List Int} {o5 : Option Addr} {c5 : Nat} {pre : List (Nat × Int)} (h : DvI w L b5 Q q p iv f g o5 c5 pre A) (hs : StU8 A B) : DvI w L b5 Q q p iv f g o5 c5 pre B :=
  ⟨boxes_below h.1 hs, row_below h.2.1 hs (Nat.le_refl _), row_below h.2.2.1 hs (Nat.le_refl _), h.2.2.2.trans (hs.mono h.2.2.2.size)⟩
/-- all orders of a region come to the same -/
theorem wp_meet {P : Program} {c : Code} {Q : Exit → Act → World → Prop} {a : Act} {w : World} {T : Array Value} {W : World} (hr : c.wp P (fun e a' w' => e = .normal ∧ a' = { tmps := T, defers := [] } ∧ w' = W) a w) (hk : Q .normal { tmps := T, defers := [] } W) : c.wp P Q a w :=
  Code.wp_mono (fun e a' w' h => by obtain ⟨rfl, rfl, rfl⟩ := h; exact hk) hr
set_option maxHeartbeats 8000000 in
theorem divide_any (p : Int) (hs : smallB p = true) {o o' : Option Addr} {n n' c c' : Nat} {f g : List Int} {w : World} (h : Seen w o n c f) (h' : SeenD w o' n' c' g) (hf : ModP p f) (hg : ModP p g) (h0 : g.length ≠ 0) (hn20 : n ≤ 20) (hn9' : n' ≤ 20) :
    Calls Try.prog 142 #[R1 p, .slice o n c, .slice o' n' c'] w (Own2Post (quoP p f g) (remP p f g) w) := by
  obtain ⟨p2, p97, pp⟩ := small_prime hs
  have HS := Lib.hid h
  obtain ⟨hl', hn', hno', hnc', a', dd, h1', h2'⟩ := h'
  obtain ⟨rfl, hag'⟩ := h1' (by omega)
  have b1 := h2' (n' - 1) (by omega)
  have hn1 : (n' : Int) - 1 = ((n' - 1 : Nat) : Int) := by omega
  have HC' := Lib.hid h2'
  have HL' := Lib.hid hl'
  have HL := Lib.hid h.1
  obtain ⟨i0, hi, hz0, hz1, hz2⟩ := info_parts Try.infoInt64
  have HI := Lib.hid hi
  have HZ0 := Lib.hid hz0
  have HZ1 := Lib.hid hz1
  have HZ2 := Lib.hid hz2
  have HF := Lib.hid hf
  have HG := Lib.hid hg
  have hpz : (p == 0) = false := by simp; omega
  have hle1 : 1 ≤ n' := by omega
  have hlast := hg.rng (n' - 1)
  have HV := Lib.hid (show invP p g = bezX (g.getD (n' - 1) 0) p % p by unfold invP; rw [← hl'])
  have HIP := Lib.hid (invP_dvd p2 p97 pp hg (fun e => h0 (by rw [e]; rfl)))
  generalize hla : g.getD (n' - 1) 0 = la at *
  obtain ⟨iv, hiv⟩ : ∃ x, invP p g = x := ⟨_, rfl⟩
  have hivb := invP_lt (p := p) (g := g) p2
  rw [hiv] at HV hivb
  have HIV := Lib.hid hiv
  obtain ⟨la0, la1⟩ := hlast
  obtain ⟨iv0, iv1⟩ := hivb
  have HM := Lib.hid fun w => modulus8_any p hs w
  obtain ⟨d, hd⟩ : ∃ d, n' - 1 = d := ⟨_, rfl⟩
  rw [hd] at hn1 b1
  have HD := Lib.hid hd
  have HAG := Lib.hid hag'
  have HB1 := Lib.hid b1
  clear h h1' h2' hl' hn' hno' hnc' hi hz0 hz1 hz2 hf hg h0 hla hiv hd b1 hag'
  refine (callsIn_wide (n := 4)).1 ?_
  refine callsIn_of_wp_marks Try.func142 rfl trivial ?_ rfl
  simp only [Try.ntmps142, List.size_toArray, List.length_cons, List.length_nil, Nat.reduceAdd, Nat.reduceSub, Array.replicate_succ, Array.replicate_zero, List.push_toArray, List.append_toArray, List.nil_append, List.cons_append]
  refine wpIn_wide.2 ?_
  -- the boxes of the receiver and of g
  have hbw := (below_a8 w (.cells #[.int .i64 p, .int .i64 1] 85)).alloc (by simp) (.cells #[.slice (some ⟨a', dd, none⟩) n' c'] 27)
  have hbx := Boxed.new (w.alloc (.cells #[.int .i64 p, .int .i64 1] 85)) 27 (.slice (some ⟨a', dd, none⟩) n' c')
  rw [World.size_alloc] at hbx
  have HBW := Lib.hid hbw
  have HBX := Lib.hid hbx
  clear hbw hbx
  go_wp2_with fail
  refine (HM.out _).mono ?_
  rintro e w1 ⟨rfl, hb⟩
  have hb0 := HBW.out.trans (hb.mono HBW.out.size)
  have hx1 := boxed_below8 HBX.out hb
  obtain ⟨bg, hbg⟩ : ∃ bg, w.heap.size + 1 = bg := ⟨_, rfl⟩
  rw [hbg] at hx1
  have hgm : bg < w1.heap.size := hx1.lt
  obtain ⟨bm, hbm⟩ : ∃ bm, w1.heap.size = bm := ⟨_, rfl⟩
  have hbs := hb0.size
  have hb2 := (hb0.alloc hbs (.cells #[.int .i64 p] 2)).alloc (by simp; omega) (.cells #[.int .i64 (d : Int)] 3)
  have hx2 := (hx1.alloc (.cells #[.int .i64 p] 2)).alloc (.cells #[.int .i64 (d : Int)] 3)
  have hm2 := (Boxed.new w1 2 (.int .i64 p)).alloc (.cells #[.int .i64 (d : Int)] 3)
  have hd2 := Boxed.new (w1.alloc (.cells #[.int .i64 p] 2)) 3 (.int .i64 (d : Int))
  rw [World.size_alloc, hbm] at hd2
  rw [hbm] at hm2 hgm hbs
  have cg := (hx1.alloc (.cells #[.int .i64 p] 2)).cell
  have HB0 := Lib.hid hb2
  have HX := Lib.hid (boxes_cons (boxes_cons (boxes_cons (L := []) (by intro x hx; cases hx) hd2) hm2) hx2)
  have HSZ := Lib.hid (And.intro hgm hbs)
  rw [hbg]
  clear hb hb0 hx1 hb2 hx2 hm2 hd2 HM hbg hgm hbs
  go_upto_region 3 with fail
  generalize (w1.alloc (.cells #[.int .i64 p] 2)).alloc (.cells #[.int .i64 (d : Int)] 3) = W3 at *
  have hx3 := HX.out
  have e1 := (hx3 (bg, 27, .slice (some ⟨a', dd, none⟩) n' c') (by simp)).cell
  have e2 := (hx3 (bm, 2, .int .i64 p) (by simp)).cell
  have e3 := (hx3 (bm + 1, 3, .int .i64 (d : Int)) (by simp)).cell
  have e4 : W3.cell? ⟨a', dd + d, none⟩ = some (.int .i64 la) := by rw [HB0.out.cell (p := ⟨a', dd + d, none⟩) HAG.out]; exact HB1.out
  have l1 := (hx3 (bg, 27, .slice (some ⟨a', dd, none⟩) n' c') (by simp)).lt
  have l2 := (hx3 (bm, 2, .int .i64 p) (by simp)).lt
  have l3 := (hx3 (bm + 1, 3, .int .i64 (d : Int)) (by simp)).lt
  have l4 : a' < W3.heap.size := by have := HB0.out.size; have := HAG.out; omega
  have hdn : (d : Int) < (n' : Int) := by omega
  clear cg hx3
  apply wp_meet (W := (W3.alloc (.cells #[.int .i64 (bezX la p % p)] 2)).drew)
  case hr =>
    go_region_held3 (fun W' => Below W3.heap.size W3 W' ∧ W'.cell? ⟨bg, 0, none⟩ = some (.slice (some ⟨a', dd, none⟩) n' c') ∧ W'.cell? ⟨bm, 0, none⟩ = some (.int .i64 p) ∧ W'.cell? ⟨bm + 1, 0, none⟩ = some (.int .i64 (d : Int)) ∧ W'.cell? ⟨a', dd + d, none⟩ = some (.int .i64 la))
      (first | exact ⟨below_drewN (Below.refl _ _) 1, e1, e2, e3, e4⟩ | exact keep8_alloc ‹_› _ | exact keep8_alloc (W' := W3.drew) ⟨below_drewN (Below.refl _ _) 1, e1, e2, e3, e4⟩ (.cells #[.int .i64 0] 2) | exact keep8_alloc (W' := W3.drew) ⟨below_drewN (Below.refl _ _) 1, e1, e2, e3, e4⟩ (.cells #[.int .i64 (bezX la p % p)] 2) | assumption) (first | (go_at_call 156; refine (inverse8_any la p _ la0 la1 p2 (by omega)).mono ?_; rintro e wn ⟨rfl, rfl⟩))
    all_goals exact ⟨rfl, rfl, rfl⟩
  rw [← HV.out]
  -- the world behind the inverse
  have hx4 := boxes_below (boxes_drew HX.out) (below_a8 W3.drew (.cells #[.int .i64 iv] 2))
  have hi4 := Boxed.new W3.drew 2 (.int .i64 iv)
  have hb4 := (below_drewN HB0.out 1).alloc (by have := HB0.out.size; exact this) (.cells #[.int .i64 iv] 2)
  have HX4 := Lib.hid (boxes_cons hx4 hi4)
  have HB4 := Lib.hid hb4
  have HS4 := Lib.hid (seen_below HS.out hb4)
  clear hx4 hi4 hb4 e1 e2 e3 e4 l1 l2 l3 l4 HX HB0 hbm
  obtain ⟨bi, hbi⟩ : ∃ bi, W3.heap.size = bi := ⟨_, rfl⟩
  replace HX4 : Hid (Boxes (W3.alloc (.cells #[.int .i64 iv] 2)).drew [(bi, 2, .int .i64 iv), (bg, 27, .slice (some ⟨a', dd, none⟩) n' c'), (bm, 2, .int .i64 p), (bm + 1, 3, .int .i64 (d : Int))]) := by rw [← hbi]; exact HX4
  replace HB4 : Hid (Below w.heap.size w (W3.alloc (.cells #[.int .i64 iv] 2)).drew) := HB4
  replace HS4 : Hid (Seen (W3.alloc (.cells #[.int .i64 iv] 2)).drew o n c f) := HS4
  rw [hbi]
  generalize (W3.alloc (.cells #[.int .i64 iv] 2)).drew = W4 at *
  clear hbi
  have HBL4 := Lib.hid (fun y hy => (HX4.out y hy).lt)
  go_wp2_with fail
  refine (clone8_any HS4.out).mono ?_
  rintro e W5 ⟨v5, rfl, hr5, hb5⟩
  obtain ⟨o5, c5, rfl⟩ := row_slice hr5
  have hown5 := fun k hk => (World.ownsRow.lt hr5 k hk).2
  have hx5 := boxes_below HX4.out hb5
  have hb50 := HB4.out.trans (hb5.mono HB4.out.size)
  have hx6 := boxes_cons (boxes_below hx5 (below_a8 W5 (.cells #[.slice o5 f.length c5] 27))) (Boxed.new W5 27 (.slice o5 f.length c5))
  have hr6 := row_below hr5 (below_a8 W5 (.cells #[.slice o5 f.length c5] 27)) (Nat.le_refl _)
  have hb6 := hb50.alloc hb50.size (.cells #[.slice o5 f.length c5] 27)
  have hs6 : (W5.alloc (.cells #[.slice o5 f.length c5] 27)).heap.size = W5.heap.size + 1 := by simp
  obtain ⟨br, hbr⟩ : ∃ br, W5.heap.size = br := ⟨_, rfl⟩
  rw [hbr] at hx6 hs6 hown5
  have HOWN := Lib.hid hown5
  have cd := (hx6 (bm + 1, 3, .int .i64 (d : Int)) (by simp)).cell
  have HX6 := Lib.hid hx6
  have HR6 := Lib.hid hr6
  have HB6 := Lib.hid hb6
  have hlow : w.heap.size ≤ W4.heap.size ∧ W4.heap.size ≤ br := ⟨HB4.out.size, by rw [← hbr]; exact hb5.size⟩
  have HLOW := Lib.hid hlow
  obtain ⟨q, hq⟩ : ∃ q, n - d = q := ⟨_, rfl⟩
  have hmax : max ((n : Int) - (d : Int)) 0 = (q : Int) := by omega
  have hq20 : q ≤ 20 := by omega
  have HQD := Lib.hid hq
  clear hown5 hr5 hb5 hx5 hb50 hx6 hr6 hb6 hlow HX4 HB4 HS4 hq
  go_upto_region 5 with fail
  generalize W5.alloc (.cells #[.slice o5 f.length c5] 27) = W6 at *
  clear hbr
  obtain ⟨Q, hQ⟩ : ∃ Q, W6.heap.size = Q := ⟨_, rfl⟩
  have HSQ := Lib.hid (show Q = br + 1 by rw [← hQ]; exact hs6)
  have HWQ := Lib.hid hQ
  have hbl6 := fun y hy => (HX6.out y hy).lt
  rw [hQ] at hbl6
  have HBL6 := Lib.hid hbl6
  clear hbl6
  clear hs6
  go_wp2_with (at_make; refine wpList_make_full _ rfl (.tmp 33) (.tmp 33) 27 rfl W6.heap.size 2 i0 (.int .i64 0) 1 Try.underlying27 HI.out HZ0.out HZ1.out .i64 .i64 _ _ q rfl rfl rfl rfl (by rw [HZ2.out]; omega) (by unfold maxLen; omega) (Nat.le_refl _) ?_; intro W7 hown hgrow)
  rw [hQ] at hown
  have hb7 := HB6.out.grown hgrow HB6.out.size (fun k h => by cases h)
  have hx7 := boxes_grown HX6.out hgrow
  have hr7 := row_none8 HR6.out hgrow
  have hq7 : IntRow Q W7 (.slice (some ⟨Q, 0, none⟩) q q) (tabL q fun _ => 0) := by rw [← hQ] at hown ⊢; exact int_made hown
  have hQl : Q < W7.heap.size := (World.ownsRow.lt hq7 Q rfl).2
  obtain ⟨bq, hbq⟩ : ∃ bq, W7.heap.size = bq := ⟨_, rfl⟩
  have hx8 := boxes_cons (boxes_below hx7 (below_a8 W7 (.cells #[.slice (some ⟨Q, 0, none⟩) q q] 27))) (Boxed.new W7 27 (.slice (some ⟨Q, 0, none⟩) q q))
  have hs8 : (W7.alloc (.cells #[.slice (some ⟨Q, 0, none⟩) q q] 27)).heap.size = bq + 1 := by rw [← hbq]; simp
  have hbk := Boxed.new (W7.alloc (.cells #[.slice (some ⟨Q, 0, none⟩) q q] 27)) 27 (.slice (some ⟨Q, 0, none⟩) q q)
  have hx9 := boxes_below hx8 (below_a8 (W7.alloc (.cells #[.slice (some ⟨Q, 0, none⟩) q q] 27)) (.cells #[.slice (some ⟨Q, 0, none⟩) q q] 27))
  have hb9 := (hb7.alloc hb7.size (.cells #[.slice (some ⟨Q, 0, none⟩) q q] 27)).alloc (by rw [hs8, ← hbq]; have := hb7.size; omega) (.cells #[.slice (some ⟨Q, 0, none⟩) q q] 27)
  have hr9 := row_below (row_below hr7 (below_a8 W7 (.cells #[.slice (some ⟨Q, 0, none⟩) q q] 27)) (Nat.le_refl _)) (below_a8 (W7.alloc (.cells #[.slice (some ⟨Q, 0, none⟩) q q] 27)) (.cells #[.slice (some ⟨Q, 0, none⟩) q q] 27)) (Nat.le_refl _)
  have hq9 := row_below (row_below hq7 (below_a8 W7 (.cells #[.slice (some ⟨Q, 0, none⟩) q q] 27)) (Nat.le_refl _)) (below_a8 (W7.alloc (.cells #[.slice (some ⟨Q, 0, none⟩) q q] 27)) (.cells #[.slice (some ⟨Q, 0, none⟩) q q] 27)) (Nat.le_refl _)
  rw [hs8] at hbk
  rw [hbq] at hx9 hQl
  have HX9 := Lib.hid hx9
  have HK9 := Lib.hid hbk
  have HB9 := Lib.hid hb9
  have HR9 := Lib.hid hr9
  have HQ9 := Lib.hid hq9
  have HQL := Lib.hid hQl
  clear hown hgrow hb7 hx7 hr7 hq7 hx8 hbk hx9 hb9 hr9 hq9 hQl HX6 HR6 HB6 cd hmax
  refine (backward8_made _ _ _ _).mono ?_
  rintro e W8 ⟨rfl, rfl⟩
  rw [hs8]
  go_wp2_with fail
  generalize (W7.alloc (.cells #[.slice (some ⟨Q, 0, none⟩) q q] 27)).alloc (.cells #[.slice (some ⟨Q, 0, none⟩) q q] 27) = W9 at *
  clear hs8 hbq
  refine (wpIn_wide (n := 4)).1 ?_
  have hsz := HB9.out.size
  have hkl : bq + 1 < W9.heap.size := HK9.out.lt
  have hbQ : br < Q ∧ Q < bq := ⟨by have := HSQ.out; omega, HQL.out⟩
  refine wpIn_rangeBb (F := Fence.wide) (n := 4) (P := Try.prog) (w := W9) rfl (by omega) (gf := 124) (ba := #[]) (lb := #[.pointer (some ⟨bq + 1, 0, none⟩)]) rfl trivial (enters_of Try.func124 (by kernel_rfl) rfl)
    (backIdx_by 3 (by omega) Q (bq + 1) q q (by omega)) (fun _ => rfl)
    (DvI w [(bq, 27, .slice (some ⟨Q, 0, none⟩) q q), (br, 27, .slice o5 f.length c5), (bi, 2, .int .i64 iv), (bg, 27, .slice (some ⟨a', dd, none⟩) n' c'), (bm, 2, .int .i64 p), (bm + 1, 3, .int .i64 (d : Int))] W4.heap.size Q q p iv f g o5 c5) (fun _ _ => False)
    (fun x => { tmps := #[R1 p, .slice o n c, .slice (some ⟨a', dd, none⟩) n' c', .pointer (some ⟨w.heap.size, 0, none⟩), undef, .pointer (some ⟨bg, 0, none⟩), .slice none 0 0, .slice none 0 0, .pointer (some ⟨bm, 0, none⟩), .pointer (some ⟨bm + 1, 0, none⟩), .pointer (some ⟨bi, 0, none⟩), .pointer (some ⟨br, 0, none⟩), .pointer (some ⟨bq, 0, none⟩), .int .i64 x.1, undef, undef, .agg #[.int .i64 p, .int .i64 1], .int .i64 p, .slice (some ⟨a', dd, none⟩) n' c', .int .i64 n', .int .i64 d, .slice (some ⟨a', dd, none⟩) n' c', .int .i64 d, .pointer (some ⟨a', dd + d, none⟩), .int .i64 la, .int .i64 p, .int .i64 iv, .slice o n c, .slice o5 f.length c5, .slice o n c, .int .i64 n, .int .i64 d, .int .i64 ((n : Int) - (d : Int)), .int .i64 q, .slice (some ⟨Q, 0, none⟩) q q, .slice (some ⟨Q, 0, none⟩) q q, .func (.func 124) #[] #[.pointer (some ⟨bq + 1, 0, none⟩)], .int .i64 x.1, .int .i64 x.2, undef, undef, undef, undef, undef, undef, undef, undef, undef, undef, undef, undef, undef, undef, undef, undef, undef, undef, undef, undef, undef, undef, undef, undef, undef, undef, undef, undef, undef, undef, undef, undef, undef, undef, undef, undef, undef, undef, undef, undef, undef, undef, undef, undef], defers := [] })
    ?ip ?xp ?fp ?fq ?ft ?is ?xs ?sk ?h0 ?s0 ?assign ?body ?done ?stop
  case ip => intro pre W k o o' h hk ho hc; exact dvI_put h (by omega) ho hc
  case xp => intro _ _ _ _ _ h; exact h.elim
  case fp => intro A W k o o' hf hk ho hc; exact frN_put hf ho hc (by omega)
  case fq => intro W k o o' hk ho hc; exact frN_put (frN_refl W) ho hc (by omega)
  case ft => intro A B C h k; exact frN_trans h k
  case is => intro pre A B h hs; exact dvI_below h hs
  case xs => intro _ _ _ h; exact h.elim
  case sk => intro A B k o hs hk ho hc; exact (hs.block k (Array.getElem?_eq_some_iff.1 ho).1).trans ho
  case h0 =>
    intro oo oo'
    have hbb : Below W9.heap.size W9 ((W9.alloc oo).alloc oo') := (below_a8 W9 oo).alloc (by simp) oo'
    have hr0 : f = tabL f.length (mdS p iv g (fun j => f.getD j 0) f.length ([] : List (Nat × Int)).length) := by
      refine ext_getD (by rw [tabL_length]) fun i hi => ?_
      rw [tabL_getD hi]; rfl
    refine ⟨boxes_below HX9.out hbb, by rw [← hr0]; exact row_below HR9.out hbb (Nat.le_refl _), ?_, HB9.out.trans (hbb.mono HB9.out.size)⟩
    have hq0 : qX p iv f g q ([] : List (Nat × Int)).length = tabL q fun _ => 0 := by
      by_cases h0 : q = 0
      · rw [h0]; rfl
      · exact qX_zero (by have := HQD.out; have := HD.out; have := HL.out; have := HL'.out; omega)
    rw [hq0]; exact row_below HQ9.out hbb (Nat.le_refl _)
  case s0 =>
    intro oo oo'
    have hbb : Below W9.heap.size W9 ((W9.alloc oo).alloc oo') := (below_a8 W9 oo).alloc (by simp) oo'
    exact ⟨(HK9.out.alloc oo).alloc oo', fun k hk => ⟨_, int_at (row_below HQ9.out hbb (Nat.le_refl _)) (tabL_length _ _) hk⟩⟩
  case assign =>
    intro lp x W K hK
    gi_wp2
    exact hK
  case body =>
    rintro lp pre x W hsp ⟨hx, hr, hqr, hb⟩
    obtain ⟨hk1, hxk⟩ := bkI_last hsp
    obtain ⟨i, hi⟩ : ∃ i, x.1 = i := ⟨_, rfl⟩
    obtain ⟨y9, hy9⟩ : ∃ y, x.2 = y := ⟨_, rfl⟩
    obtain ⟨k, hk⟩ : ∃ k, pre.length = k := ⟨_, rfl⟩
    have hlen : (pre ++ [x]).length = k + 1 := by rw [List.length_append, hk]; rfl
    have HLEN := Lib.hid hlen
    rw [hi, hy9]
    rw [hk] at hr hqr hk1 hxk
    rw [hi] at hxk
    clear hsp hlen hi hy9 hk
    have hqn : q + g.length = f.length + 1 := by have := HQD.out; have := HD.out; have := HL.out; have := HL'.out; omega
    have HQN := Lib.hid hqn
    have hik : i + g.length + k = f.length := by omega
    have HIK := Lib.hid hik
    have hf1 : 1 ≤ f.length := by have := HL'.out; omega
    have hr' : W.ownsRow W4.heap.size 2 1 (.slice o5 f.length c5) f.length ((tabL f.length (mdS p iv g (fun j => f.getD j 0) f.length k)).map (Value.int .i64)) := by
      have h9 := hr
      unfold IntRow at h9
      rw [tabL_length] at h9; exact h9
    rcases row_shape hr' with ⟨hz, _⟩ | ⟨_, G, cap, he, hbg5, hgw⟩
    · omega
    injection he with he1 he2 he3
    subst he1 he3
    have hGr : G < br := HOWN.out G rfl
    have hGQ : G ≠ Q := by omega
    have HR := Lib.hid hr
    have HQ := Lib.hid hqr
    have HX := Lib.hid hx
    have HB := Lib.hid hb
    have HLW := Lib.hid (And.intro hbg5 HLOW.out.1)
    obtain ⟨m, hm⟩ : ∃ m, i + d = m := ⟨_, rfl⟩
    have him : (i : Int) + (d : Int) = (m : Int) := by omega
    have hmn : m < f.length := by have := HD.out; have := HL'.out; omega
    have hmn' : (m : Int) < (f.length : Int) := by omega
    have hiq : i < q := by omega
    have hiq' : (i : Int) < (q : Int) := by omega
    have wm : IntKind.i64.wrap (m : Int) = (m : Int) := IntWalk.i64_in _ (by have := HL.out; omega)
    have c1 := int_at hr (tabL_length _ _) hmn
    rw [tabL_getD hmn] at c1
    have hce : mdC p iv g (fun j => f.getD j 0) f.length k = mdS p iv g (fun j => f.getD j 0) f.length k m * iv % p := by unfold mdC; rw [show f.length - 1 - k = m by have := HD.out; have := HL'.out; omega]
    have HSUB := Lib.hid (subX_end (p := p) (inv := iv) (g := g) (r0 := fun j => f.getD j 0) hik)
    have HQS := Lib.hid (qX_step (p := p) (inv := iv) (f := f) (g := g) hqn hik)
    obtain ⟨y0, y1⟩ := mdS_lt (inv := iv) (g := g) (N := f.length) HF.out k m
    have hpb := prod_small p97 ⟨y0, y1⟩ ⟨iv0, iv1⟩
    have HBD := Lib.hid (fun j => mdS_lt (inv := iv) (g := g) (N := f.length) HF.out k j)
    obtain ⟨z, hz⟩ : ∃ z, mdS p iv g (fun j => f.getD j 0) f.length k m = z := ⟨_, rfl⟩
    rw [hz] at c1 hce hpb y0 y1
    obtain ⟨xv, hxv⟩ : ∃ x, mdC p iv g (fun j => f.getD j 0) f.length k = x := ⟨_, rfl⟩
    rw [hxv] at hce HSUB HQS
    have wz : IntKind.i64.wrap (z * iv) = z * iv := IntWalk.i64_in _ (by omega)
    have hz0 := hpb.1
    have tz : (z * iv).tmod p = xv := by rw [tmod_nonneg hpb.1, hce]
    have tz2 : z * iv % p = xv := hce.symm
    have hp0 : ¬ p = 0 := by omega
    have hx0 : 0 ≤ xv ∧ xv < p := by rw [hce]; exact ⟨Int.emod_nonneg _ (by omega), Int.emod_lt_of_pos _ (by omega)⟩
    have wx : IntKind.i64.wrap xv = xv := IntWalk.i64_in _ (by omega)
    have HX0 := Lib.hid hx0
    have HQV := Lib.hid (show (qX p iv f g q (k + 1)).getD i 0 = xv by
      rw [← HQS.out]
      have hlq : (qX p iv f g q k).length = q := qX_length _ _ _ _ _ _
      simp [List.getD, show i < (qX p iv f g q k).length by omega])
    have f2 := int_frozen hqr (qX_length p iv f g q k) i
    have c2 := int_at hqr (qX_length p iv f g q k) hiq
    obtain ⟨y2, hy2⟩ : ∃ y2, (qX p iv f g q k).getD i 0 = y2 := ⟨_, rfl⟩
    rw [hy2] at c2
    have xq := (hx (bq, 27, .slice (some ⟨Q, 0, none⟩) q q) (by simp)).cell
    have xr := (hx (br, 27, .slice (some ⟨G, 0, none⟩) f.length c5) (by simp)).cell
    have xi := (hx (bi, 2, .int .i64 iv) (by simp)).cell
    have xg := (hx (bg, 27, .slice (some ⟨a', dd, none⟩) n' c') (by simp)).cell
    have xm := (hx (bm, 2, .int .i64 p) (by simp)).cell
    have xd := (hx (bm + 1, 3, .int .i64 (d : Int)) (by simp)).cell
    clear hqr hx hb hr hr' hce hz hxv hpb hy2 hm hgw hx0 he2
    gi_wp2
    refine wpIn_region_still_tail 13 (by kernel_rfl) (by kernel_rfl) (by kernel_rfl) ?_
    simp only [List.take_succ_cons, List.take_zero, List.drop_succ_cons, List.drop_zero]
    iterate 13 still_step
    refine wpStill_nil ?_
    change wpListIn _ _ _ _ _ _ _ W.drew
    have HRd := Lib.hid (World.ownsRow.drew HR.out)
    have HQd := Lib.hid (World.ownsRow.drew HQ.out)
    have HBd := Lib.hid (below_drewN HB.out 1)
    have HXd := Lib.hid (boxes_drew HX.out)
    have HKd := Lib.hid (KeepsOthers.drew W)
    have HFd := Lib.hid (frN_drew (g := Q) (b := bq + 1) (n := q) W)
    replace f2 : W.drew.frozen? ⟨Q, i, none⟩ = false := f2
    replace c2 : W.drew.cell? ⟨Q, i, none⟩ = _ := c2
    replace HRd : Hid (IntRow W4.heap.size W.drew (.slice (some ⟨G, 0, none⟩) f.length c5) (tabL f.length (mdS p iv g (fun j => f.getD j 0) f.length k))) := HRd
    replace HQd : Hid (IntRow Q W.drew (.slice (some ⟨Q, 0, none⟩) q q) (qX p iv f g q k)) := HQd
    replace HBd : Hid (Below w.heap.size w W.drew) := HBd
    clear HR HQ HB HX c1 xq xr xi xg xm xd wz tz tz2
    generalize W.drew = Wd at *
    have HQ1 := Lib.hid (int_stored HQd.out (qX_length p iv f g q k) i xv)
    rw [HQS.out] at HQ1
    have hQw : w.heap.size ≤ Q := by have := HLW.out; omega
    have HR1 := Lib.hid (row_other8 HRd.out (a := ⟨Q, i, none⟩) (own_ne8 hGQ) (.int .i64 xv))
    have HB1 := Lib.hid (HBd.out.setCell (p := ⟨Q, i, none⟩) hQw (.int .i64 xv))
    have HX1 := Lib.hid (boxes_set HXd.out (a := ⟨Q, i, none⟩) (by
      intro y hy
      have h6 := HBL6.out
      show y.1 ≠ Q
      rcases List.mem_cons.1 hy with rfl | hy
      · show bq ≠ Q; omega
      · have := h6 y hy; omega) (.int .i64 xv))
    have HK1 := Lib.hid (HKd.out.trans (KeepsOthers.setCell Wd ⟨Q, i, none⟩ (.int .i64 xv)))
    have HF1 := Lib.hid (frN_trans HFd.out (frN_set (g := Q) (b := bq + 1) (n := q) (A := Wd) (a := ⟨Q, i, none⟩) xv (by show bq + 1 ≠ Q; omega)))
    have xg1 := (HX1.out (bg, 27, .slice (some ⟨a', dd, none⟩) n' c') (by simp)).cell
    clear HRd HQd HBd HXd HKd HFd HQS
    gi_wp2
    generalize Wd.setCell ⟨Q, i, none⟩ (.int .i64 xv) = Ws at *
    clear c2 f2 xg1
    gi_loopw [54] (fun s wr => ∃ j : Nat, j ≤ n' ∧ s = .int .i64 j ∧ KeepsOthers W wr ∧ FrN Q (bq + 1) q W wr ∧ Boxes wr [(bq, 27, .slice (some ⟨Q, 0, none⟩) q q), (br, 27, .slice (some ⟨G, 0, none⟩) f.length c5), (bi, 2, .int .i64 iv), (bg, 27, .slice (some ⟨a', dd, none⟩) n' c'), (bm, 2, .int .i64 p), (bm + 1, 3, .int .i64 (d : Int))] ∧ IntRow W4.heap.size wr (.slice (some ⟨G, 0, none⟩) f.length c5) (subX p (mdS p iv g (fun j => f.getD j 0) f.length k) g xv f.length i j) ∧ IntRow Q wr (.slice (some ⟨Q, 0, none⟩) q q) (qX p iv f g q (k + 1)) ∧ Below w.heap.size w wr) (fun s _ => n' - (intOf s).toNat)
    case atStart => exact ⟨0, Nat.zero_le _, rfl, HK1.out, HF1.out, HX1.out, by rw [subX_zero]; exact HR1.out, HQ1.out, HB1.out⟩
    case round =>
      obtain ⟨j, hj, rfl, hko, hfr, hx, hr, hqr, hb⟩ := hrel
      clear HK1 HF1 HX1 HR1 HQ1 HB1
      by_cases hltj : j < n'
      · obtain ⟨t, ht⟩ : ∃ t, i + j = t := ⟨_, rfl⟩
        have hijt : (i : Int) + (j : Int) = (t : Int) := by omega
        have htn : t < f.length := by have := HIK.out; have := HL'.out; omega
        have wt : IntKind.i64.wrap (t : Int) = (t : Int) := IntWalk.i64_in _ (by have := HL.out; omega)
        have b2 : wr.cell? ⟨a', dd + j, none⟩ = some (.int .i64 (g.getD j 0)) := by rw [hb.cell (p := ⟨a', dd + j, none⟩) HAG.out]; exact HC'.out j hltj
        have c4 := int_at hr (subX_length _ _ _ _ _ _ _) htn
        rw [subX_at ht htn] at c4
        have f4 := int_frozen hr (subX_length _ _ _ _ _ _ _) t
        have c5q := int_at hqr (qX_length p iv f g q (k + 1)) hiq
        rw [HQV.out] at c5q
        have HE := Lib.hid (subX_step (p := p) (r := mdS p iv g (fun j => f.getD j 0) f.length k) (g := g) (c := xv) ht htn)
        have hbd := HBD.out t
        have hmd := prod_small p97 HX0.out (HG.out.rng j)
        obtain ⟨z, hzz⟩ : ∃ x, g.getD j 0 = x := ⟨_, rfl⟩
        obtain ⟨r, hrr⟩ : ∃ x, mdS p iv g (fun j => f.getD j 0) f.length k t = x := ⟨_, rfl⟩
        rw [hzz] at b2 HE hmd
        rw [hrr] at c4 HE hbd
        have w1 : IntKind.i64.wrap (xv * z) = xv * z := IntWalk.i64_in _ (by omega)
        have w2 : IntKind.i64.wrap (r - xv * z) = r - xv * z := IntWalk.i64_in _ (by omega)
        have htn' : (t : Int) < (f.length : Int) := by omega
        have hltj' : (j : Int) < (n' : Int) := by omega
        have xq := (hx (bq, 27, .slice (some ⟨Q, 0, none⟩) q q) (by simp)).cell
        have xr := (hx (br, 27, .slice (some ⟨G, 0, none⟩) f.length c5) (by simp)).cell
        have xm := (hx (bm, 2, .int .i64 p) (by simp)).cell
        have HR := Lib.hid hr
        have HQ := Lib.hid hqr
        have HX := Lib.hid hx
        have HB := Lib.hid hb
        have HK := Lib.hid hko
        have HF9 := Lib.hid hfr
        clear hzz hrr ht hbd hmd hr hqr hx hb hko hfr
        gi_wp2
        refine wpIn_region_still_tail 20 (by kernel_rfl) (by kernel_rfl) (by kernel_rfl) ?_
        simp only [List.take_succ_cons, List.take_zero, List.drop_succ_cons, List.drop_zero]
        iterate 18 still_step
        still_call ((remainder8_any (r - xv * z) p _ p2 (by omega)).mono fun e w h => ⟨h.1, h.2.symm⟩)
        repeat still_step
        refine wpStill_nil ?_
        change wpListIn _ _ _ _ _ _ _ wr.drew
        have HRd := Lib.hid (World.ownsRow.drew HR.out)
        have HQd := Lib.hid (World.ownsRow.drew HQ.out)
        have HBd := Lib.hid (below_drewN HB.out 1)
        have HXd := Lib.hid (boxes_drew HX.out)
        have HKd := Lib.hid (HK.out.trans (KeepsOthers.drew wr))
        have HFd := Lib.hid (frN_trans HF9.out (frN_drew wr))
        replace f4 : wr.drew.frozen? ⟨G, t, none⟩ = false := f4
        replace c4 : wr.drew.cell? ⟨G, t, none⟩ = _ := c4
        replace HRd : Hid (IntRow W4.heap.size wr.drew (.slice (some ⟨G, 0, none⟩) f.length c5) (subX p (mdS p iv g (fun j => f.getD j 0) f.length k) g xv f.length i j)) := HRd
        replace HQd : Hid (IntRow Q wr.drew (.slice (some ⟨Q, 0, none⟩) q q) (qX p iv f g q (k + 1))) := HQd
        replace HBd : Hid (Below w.heap.size w wr.drew) := HBd
        clear HR HQ HB HX HK HF9 b2 c5q xq xr xm
        generalize wr.drew = Wd2 at *
        have HR3 := Lib.hid (int_stored HRd.out (subX_length _ _ _ _ _ _ _) t ((r - xv * z) % p))
        rw [HE.out] at HR3
        have HQ3 := Lib.hid (row_other8 HQd.out (a := ⟨G, t, none⟩) (own_ne8 (Ne.symm hGQ)) (.int .i64 ((r - xv * z) % p)))
        have hGw : w.heap.size ≤ G := by have := HLW.out; omega
        have HB3 := Lib.hid (HBd.out.setCell (p := ⟨G, t, none⟩) hGw (.int .i64 ((r - xv * z) % p)))
        have HX3 := Lib.hid (boxes_set HXd.out (a := ⟨G, t, none⟩) (by
          intro y hy
          have h4 := HBL4.out
          have h5 := HLW.out.1
          show y.1 ≠ G
          rcases List.mem_cons.1 hy with rfl | hy
          · show bq ≠ G; omega
          rcases List.mem_cons.1 hy with rfl | hy
          · show br ≠ G; omega
          · have := h4 y hy; omega) (.int .i64 ((r - xv * z) % p)))
        have HK3 := Lib.hid (HKd.out.trans (KeepsOthers.setCell Wd2 ⟨G, t, none⟩ (.int .i64 ((r - xv * z) % p))))
        have HF3 := Lib.hid (frN_trans HFd.out (frN_set (g := Q) (b := bq + 1) (n := q) (A := Wd2) (a := ⟨G, t, none⟩) ((r - xv * z) % p) (by show bq + 1 ≠ G; omega)))
        clear HRd HQd HBd HXd HKd HFd
        gi_wp2
        go_roundw
        case rel => exact ⟨j + 1, by omega, by go_num, HK3.out, HF3.out, HX3.out, HR3.out, HQ3.out, HB3.out⟩
        case measure => simp only [intOf]; omega
      · have hjn : j = g.length := by have := HL'.out; omega
        have HR2 := Lib.hid (show IntRow W4.heap.size wr (.slice (some ⟨G, 0, none⟩) f.length c5) (tabL f.length (mdS p iv g (fun j => f.getD j 0) f.length (k + 1))) by rw [← HSUB.out, ← hjn]; exact hr)
        have HQ := Lib.hid hqr
        have HX := Lib.hid hx
        have HB := Lib.hid hb
        have HK := Lib.hid hko
        have HF9 := Lib.hid hfr
        clear hr hqr hx hb hko hfr hjn
        gi_wp2
        exact ⟨HK.out, HF9.out, HX.out, by rw [HLEN.out]; exact HR2.out, by rw [HLEN.out]; exact HQ.out, HB.out⟩
  case done =>
    rintro D xs W hD hxs ⟨hx, hr, hqr, hb⟩ hK
    have hxl : xs.length = q := by have h := congrArg List.length hxs; rwa [List.length_map, bkI_length] at h
    rw [hxl] at hr hqr
    have xq := (hx (bq, 27, .slice (some ⟨Q, 0, none⟩) q q) (by simp)).cell
    have xr := (hx (br, 27, .slice o5 f.length c5) (by simp)).cell
    have hql : qX p iv f g q q = quoP p f g := by
      rw [← HIV.out]
      by_cases h0 : q = 0
      · rw [few_quo (by have := HQD.out; have := HD.out; have := HL.out; have := HL'.out; omega), h0]; rfl
      · exact qX_full pp HF.out HIP.out (by have := HQD.out; have := HD.out; have := HL.out; have := HL'.out; omega) (by omega) (by have := HL'.out; omega)
    have hrl : trimL (tabL f.length (mdS p iv g (fun j => f.getD j 0) f.length q)) = remP p f g := by
      rw [← HIV.out]; exact rX_end rfl (by have := HQD.out; have := HD.out; have := HL.out; have := HL'.out; omega)
    have lr : (tabL f.length (mdS p iv g (fun j => f.getD j 0) f.length q)).length = f.length := tabL_length _ _
    have hu := trim_row hr
    rw [hrl] at hu
    rw [hql] at hqr
    have SR := Lib.hid (show Seen W o5 f.length c5 (tabL f.length (mdS p iv g (fun j => f.getD j 0) f.length q)) by
      have h := row_seen (o := o5) (n := (tabL f.length (mdS p iv g (fun j => f.getD j 0) f.length q)).length) (c := c5) (w := W) (by rw [lr]; exact hr) (by rw [lr]; have := HL.out; omega)
      rw [lr] at h; exact h)
    generalize tabL f.length (mdS p iv g (fun j => f.getD j 0) f.length q) = rl at *
    have HU := Lib.hid (intRow_lower hu HLOW.out.1)
    have HV9 := Lib.hid (intRow_lower (b := w.heap.size) hqr (by have := HLOW.out; omega))
    have HB := Lib.hid hb
    have hKD : W.drew.heap[D]? = some (.deferred (some [])) := hK
    have HKD := Lib.hid hKD
    have hDw : w.heap.size ≤ D := by omega
    have HAP := Lib.hid (show (Value.slice (some ⟨Q, 0, none⟩) q q).ownBlock = none ∨ (Value.slice (some ⟨Q, 0, none⟩) q q).ownBlock ≠ (Value.slice o5 (trimN rl rl.length) c5).ownBlock from .inr (fun e => by
      have h1 : (Value.slice o5 f.length c5).ownBlock = some Q := by
        cases o5 with
        | none => exact absurd e.symm (by intro h; cases h)
        | some a => exact e.symm
      have := HOWN.out Q h1
      omega))
    clear hx hr hqr hb hK hql hrl lr hu hKD hxs hxl
    obtain ⟨tn, htn⟩ : ∃ tn, trimN rl rl.length = tn := ⟨_, rfl⟩
    rw [htn] at HU HAP
    have HTN := Lib.hid htn
    clear htn
    go_wp2_with fail
    refine wp_region_still_lit (by kernel_rfl) (by kernel_rfl) ?_
    iterate 2 still_step
    still_call ((trimmed_any (seen_below SR.out (below_drewN (Below.refl _ _) 1))).mono fun e w h => ⟨h.1, h.2.symm⟩)
    repeat still_step
    refine wpStill_nil ?_
    go_wp2_with fail
    rw [HTN.out]
    refine ⟨by simp, .inl ⟨_, _, rfl, run_takeDeferred HKD.out, ?_⟩⟩
    refine ⟨.tuple #[.slice (some ⟨Q, 0, none⟩) q q, .slice o5 tn c5], by simp [results, Try.results142, go_sem], ?_⟩
    exact ⟨_, _, rfl, row_put8 (w := W.drew) HV9.out HKD.out rfl, row_put8 (w := W.drew) HU.out HKD.out rfl, below_put8 (below_drewN HB.out 1) hDw, HAP.out⟩
  case stop => intro _ _ _ _ _ h; exact h.elim
end Go.Proofs.Ytjmecidbnoimnaa
namespace Go.Proofs.Ytjmecidbnoimnaa
open Go.RowKit
set_option linter.unusedVariables false
set_option linter.unusedSimpArgs false
set_option maxRecDepth 20000
theorem rest_any (p : Int) (hs : smallB p = true) {o o' : Option Addr} {n n' c c' : Nat} {f g : List Int} {w : World} (h : Seen w o n c f) (h' : Seen w o' n' c' g) (hf : ModP p f) (hg : ModP p g) (h0 : g.length ≠ 0) (hn20 : n ≤ 20) (hn9' : n' ≤ 20) :
    Calls Try.prog 148 #[R1 p, .slice o n c, .slice o' n' c'] w (OwnPost (remP p f g) w) := by
  have hb1 := below_a8 w (.cells #[.int .i64 p, .int .i64 1] 85)
  have HD := Lib.hid (divide_any p hs (seen_below h hb1) (seen_d (seen_below h' hb1)) hf hg h0 hn20 hn9')
  clear h h' hf hg h0 hb1
  go_enter Try.func148, Try.ntmps148
  go_wp2_with fail
  refine HD.out.mono ?_
  rintro e w3 ⟨v, u, rfl, hq, hr, hb, hap⟩
  have HR := Lib.hid (intRow_lower (b := w.heap.size) hr (by simp))
  have HB := Lib.hid (box8 hb)
  clear hq hr hb hap HD
  go_wp2_with fail
  go_ret
  exact ⟨_, rfl, HR.out, HB.out⟩
theorem keep8 {w0 W W' : World} {a b : Addr} {u v : Value} (h : Below w0.heap.size w0 W ∧ W.cell? a = some u ∧ W.cell? b = some v) (hb : Below W.heap.size W W') : Below w0.heap.size w0 W' ∧ W'.cell? a = some u ∧ W'.cell? b = some v :=
  ⟨h.1.trans (hb.mono h.1.size), by rw [hb.cell (World.block_lt_of_cell? _ _ h.2.1)]; exact h.2.1, by rw [hb.cell (World.block_lt_of_cell? _ _ h.2.2)]; exact h.2.2⟩
theorem start8 (w : World) (p : Int) : Below w.heap.size w (w.alloc (.cells #[.int .i64 p, .int .i64 1] 85)).drew ∧ (w.alloc (.cells #[.int .i64 p, .int .i64 1] 85)).drew.cell? ⟨w.heap.size, 0, none⟩ = some (.int .i64 p) ∧ (w.alloc (.cells #[.int .i64 p, .int .i64 1] 85)).drew.cell? ⟨w.heap.size, 1, none⟩ = some (.int .i64 1) :=
  ⟨below_drewN (below_a8 w _) 1, World.cell?_alloc_new _ _ _ _ ▸ rfl, World.cell?_alloc_new _ _ _ _ ▸ rfl⟩
set_option maxHeartbeats 2000000 in
theorem monic_any (p : Int) (hs : smallB p = true) {o : Option Addr} {n c : Nat} {f : List Int} {w : World} (h : Seen w o n c f) (hf : ModP p f) (hn20 : n ≤ 20) :
    Calls Try.prog 128 #[R1 p, .slice o n c] w (OwnPost (monP p f) w) := by
  obtain ⟨p2, p97, pp⟩ := small_prime hs
  have HS := Lib.hid h
  obtain ⟨hl, hn, hno, hnc, g, h1, h2⟩ := h
  by_cases h0 : n = 0
  · have HE := Lib.hid (show monP p f = [] by unfold monP; rw [if_pos (by omega)])
    have HB := Lib.hid (below_a8 w (.cells #[.int .i64 p, .int .i64 1] 85))
    clear hno h1 h2 hl hs
    subst h0
    go_enter Try.func128, Try.ntmps128
    go_wp2_with fail
    go_ret
    rw [HE.out]
    exact ⟨_, rfl, intRow_nil _ _, HB.out⟩
  · obtain ⟨rfl, hag⟩ := h1 (by omega)
    obtain ⟨m, hm⟩ : ∃ m, m + 1 = n := ⟨n - 1, by omega⟩
    have hn1 : (n : Int) - 1 = (m : Int) := by omega
    have h0' : ((n : Int) == 0) = false := by simp; omega
    have hmn : (m : Int) ≤ (n : Int) := by omega
    have hnm : n - m = 1 := by omega
    have hncI : (n : Int) ≤ (c : Int) := by omega
    have hmcI : (m : Int) ≤ (c : Int) := by omega
    have hm0I : (0 : Int) ≤ (m : Int) := by omega
    have hcm : ¬ c = m := by omega
    have hl0 : f.length ≠ 0 := by omega
    have hne : f ≠ [] := fun e => hl0 (by rw [e]; rfl)
    have hlast := hf.rng (f.length - 1)
    have hlm : f.length - 1 = m := by omega
    have hml := modP_last hf hne
    have hgm : ModP p [f.getD m 0] := by
      rw [hlm] at hml hlast
      refine ⟨fun i => ?_, ?_⟩
      · cases i with
        | zero => exact hlast
        | succ i => simp; omega
      · have : ¬ f.getD m 0 = 0 := fun e => hml (by rw [e]; exact Int.dvd_zero _)
        simpa [lastB] using this
    have HE := Lib.hid (show quoP p f [f.getD m 0] = monP p f by rw [← hlm]; exact mon_quo p2 p97 pp hf hl0)
    have hc2 := h2 m (by omega)
    have HG := Lib.hid (show SeenD w (some ⟨g, m, none⟩) 1 (c - m) [f.getD m 0] from ⟨rfl, by omega, fun h => (by cases h), by omega, g, m, fun _ => ⟨rfl, hag⟩, fun k hk => by
      obtain rfl : k = 0 := by omega
      exact hc2⟩)
    have HDV := Lib.hid fun (W : World) (hw : Below w.heap.size w W) => divide_any p hs (seen_below HS.out hw) (seenD_below HG.out hw) hf hgm (by simp) hn20 (by omega)
    have hst := start8 w p
    clear hno h1 h2 hl hn hs hf hgm hlast hlm hml hc2 hm hl0 hne pp
    go_enter Try.func128, Try.ntmps128
    go_wp2_with fail
    have hwn : IntKind.i64.wrap ((n : Int) - 1) = (n : Int) - 1 := IntWalk.i64_in _ (by omega)
    have hwm : IntKind.i64.wrap (m : Int) = (m : Int) := IntWalk.i64_in _ (by omega)
    go_region_held3 (fun W' => Below w.heap.size w W' ∧ W'.cell? ⟨w.heap.size, 0, none⟩ = some (.int .i64 p) ∧ W'.cell? ⟨w.heap.size, 1, none⟩ = some (.int .i64 1)) (first | exact hst | exact keep8 ‹_› hb | assumption)
      (first | (go_at_call 142; refine (HDV.out _ hst.1).mono ?_; rintro e wn ⟨v, u, rfl, hq, hr, hb, hap⟩))
    have HR := Lib.hid (intRow_lower (b := w.heap.size) hq hst.1.size)
    have HB := Lib.hid (hst.1.trans (hb.mono hst.1.size))
    clear hq hr hb hap HDV hst
    go_wp2_with fail
    go_ret
    rw [← HE.out]
    exact ⟨_, rfl, HR.out, HB.out⟩
/-- the last one of a chain of remainders: seen somewhere -/
def LastP (p : Int) (f g : List Int) (w : World) (e : Ending) (w' : World) : Prop :=
  ∃ o n c F, e = .returned (.slice o n c) ∧ Seen w' o n c F ∧ ModP p F ∧ n ≤ 9 ∧ monP p F = gcdL p f g ∧ Below w.heap.size w w'
set_option maxHeartbeats 2000000 in
theorem lastDivisor_any (p : Int) (hs : smallB p = true) {o o' : Option Addr} {n n' c c' : Nat} {f g : List Int} {w : World} (h : Seen w o n c f) (h' : Seen w o' n' c' g) (hf : ModP p f) (hg : ModP p g) (hn : n ≤ 9) (hn' : n' ≤ 9) :
    Calls Try.prog 150 #[.func (.func 142) #[R1 p] #[], .slice o n c, .slice o' n' c'] w (LastP p f g w) := by
  obtain ⟨p2, p97, pp⟩ := small_prime hs
  have H0 := Lib.hid (And.intro h (And.intro h' (And.intro hf hg)))
  clear h h' hf hg
  go_enter Try.func150, Try.ntmps150
  go_wp2_with fail
  go_loopw [1, 2] (fun vf vg wr => ∃ (o1 : Option Addr) (n1 c1 : Nat) (F : List Int) (o2 : Option Addr) (n2 c2 : Nat) (G : List Int), vf = .slice o1 n1 c1 ∧ vg = .slice o2 n2 c2 ∧ Seen wr o1 n1 c1 F ∧ Seen wr o2 n2 c2 G ∧ ModP p F ∧ ModP p G ∧ n1 ≤ 9 ∧ n2 ≤ 9 ∧ gcdL p F G = gcdL p f g ∧ Below w.heap.size w wr) (fun _ vg _ => lenV vg)
  case atStart => exact ⟨o, n, c, f, o', n', c', g, rfl, rfl, H0.out.1, H0.out.2.1, H0.out.2.2.1, H0.out.2.2.2, hn, hn', rfl, Below.refl _ _⟩
  case round =>
    obtain ⟨o1, n1, c1, F, o2, n2, c2, G, rfl, rfl, s1, s2, m1, m2, l1, l2, hgc, hb⟩ := hrel
    have S1 := Lib.hid s1
    have S2 := Lib.hid s2
    have HB := Lib.hid hb
    have HG := Lib.hid hgc
    have HL2 := Lib.hid s2.1
    clear s1 s2 hb hgc H0
    by_cases h0 : n2 = 0
    · have HE := Lib.hid (show monP p F = gcdL p f g by rw [← HG.out]; exact (gcdL_end (by have := HL2.out; omega)).symm)
      have HM1 := Lib.hid m1
      clear m1 m2
      subst h0
      go_wp2_with fail
      go_ret
      exact ⟨o1, n1, c1, F, rfl, S1.out, HM1.out, l1, HE.out, HB.out⟩
    · have h0' : (0 : Int) < (n2 : Int) := by omega
      have hG0 : G.length ≠ 0 := by have := HL2.out; omega
      have HD := Lib.hid (divide_any p hs S1.out (seen_d S2.out) m1 m2 hG0 (by omega) (by omega))
      have HST := Lib.hid (gcdL_step p2 p97 pp m1 m2 hG0)
      have hd := divP_is p2 p97 pp m1 m2 (fun e => hG0 (by rw [e]; rfl))
      have HDD := Lib.hid (And.intro hd.mr hd.deg)
      have HM2 := Lib.hid m2
      clear m1 m2 hd hG0
      go_wp2_with fail
      refine HD.out.mono ?_
      rintro e w3 ⟨v, u, rfl, hq, hr, hb, hap⟩
      obtain ⟨o3, c3, rfl⟩ := row_slice hq
      obtain ⟨o4, c4, rfl⟩ := row_slice hr
      have HR := Lib.hid (row_seen hr (by have := HDD.out.2; have := HL2.out; omega))
      have S3 := Lib.hid (seen_below S2.out hb)
      have HB2 := Lib.hid (HB.out.trans (hb.mono HB.out.size))
      clear hq hr hb hap HD S1 S2
      go_wp2_with fail
      exact ⟨⟨o2, n2, c2, G, o4, (remP p F G).length, c4, remP p F G, rfl, rfl, S3.out, HR.out, HM2.out, HDD.out.1, l2, by have := HDD.out.2; have := HL2.out; omega, by rw [← HST.out]; exact HG.out, HB2.out⟩, by simp only [lenV]; have := HDD.out.2; have := HL2.out; omega⟩
set_option maxHeartbeats 2000000 in
theorem common_any (p : Int) (hs : smallB p = true) {o o' : Option Addr} {n n' c c' : Nat} {f g : List Int} {w : World} (h : Seen w o n c f) (h' : Seen w o' n' c' g) (hf : ModP p f) (hg : ModP p g) (hn : n ≤ 9) (hn' : n' ≤ 9) :
    Calls Try.prog 137 #[R1 p, .slice o n c, .slice o' n' c'] w (OwnPost (gcdL p f g) w) := by
  have hst := start8 w p
  have HLD := Lib.hid fun (W : World) (hw : Below w.heap.size w W) => lastDivisor_any p hs (seen_below h hw) (seen_below h' hw) hf hg hn hn'
  have HMO := Lib.hid fun (W : World) (o1 : Option Addr) (n1 c1 : Nat) (F : List Int) (s1 : Seen W o1 n1 c1 F) (m1 : ModP p F) (l1 : n1 ≤ 9) => monic_any p hs s1 m1 (by omega)
  have hmf : ∀ (fn : Fn) (first cap : Array Value) (w : World), (Instr.makeFunc fn first cap).run Try.prog w = .ok (.func fn first cap) w := fun _ _ _ _ => rfl
  clear h h' hf hg hs
  go_enter Try.func137, Try.ntmps137
  go_wp2_with fail
  go_region_held3 (fun W' => Below w.heap.size w W' ∧ W'.cell? ⟨w.heap.size, 0, none⟩ = some (.int .i64 p) ∧ W'.cell? ⟨w.heap.size, 1, none⟩ = some (.int .i64 1)) (first | exact hst | exact keep8 ‹_› hb | exact keep8 ‹_› hb2 | assumption)
    (first | (go_at_call 150; refine (HLD.out _ hst.1).mono ?_; rintro e wn ⟨o1, n1, c1, F, rfl, s1, m1, l1, hE, hb⟩) | (go_at_call 128; refine (HMO.out _ _ _ _ _ s1 m1 l1).mono ?_; rintro e wm ⟨v, rfl, hr, hb2⟩))
  have hB := hst.1.trans (hb.mono hst.1.size)
  rw [hE] at hr
  have HR := Lib.hid (intRow_lower hr hB.size)
  have HB := Lib.hid (hB.trans (hb2.mono hB.size))
  clear hr hb hb2 hB hst HLD HMO s1 m1 hE
  go_wp2_with fail
  go_ret
  exact ⟨_, rfl, HR.out, HB.out⟩
theorem and8_odd {e : Nat} (h1 : e ≤ 4000000000000000000) (h : e % 2 = 1) : (bits BinOp.and IntKind.i64 (e : Int) 1 == 1) = true := by
  have := Go.Proofs.and_one e (by omega)
  rw [this]; simp; omega
theorem and8_even {e : Nat} (h1 : e ≤ 4000000000000000000) (h : ¬ e % 2 = 1) : (bits BinOp.and IntKind.i64 (e : Int) 1 == 1) = false := by
  have := Go.Proofs.and_one e (by omega)
  rw [this]; simp; omega
set_option maxHeartbeats 1000000 in
theorem powerOf_any (p : Int) (hs : smallB p = true) {oa o : Option Addr} {ca n c : Nat} {f : List Int} {w : World} (E0 : Nat) (hE : E0 ≤ 1000000000000) (ha : Seen w oa 2 ca [0, 1]) (h : Seen w o n c f) (hf : ModP p f) (h0 : f.length ≠ 0) (hn9 : n ≤ 9) :
    Calls Try.prog 135 #[R1 p, .slice oa 2 ca, .int .i64 (E0 : Int), .slice o n c] w (OwnPost (powL p f E0) w) := by
  obtain ⟨p2, p97, pp⟩ := small_prime hs
  have hne : f ≠ [] := fun e => h0 (by rw [e]; rfl)
  have hfl : f.length ≤ 9 := by have := h.1; omega
  obtain ⟨k0, _⟩ := pow_first p2 p97 pp hf hne
  have kx := pw_x p2 f
  have m1 : ModP p [1] := ⟨fun i => by
    match i with
    | 0 => exact ⟨by simp, by simp; omega⟩
    | i + 1 => simp; omega, by simp [lastB]⟩
  have HREST := Lib.hid fun (wx : World) (o1 : Option Addr) (n1 c1 : Nat) (a : List Int) (h1 : Seen wx o1 n1 c1 a) (hx : Seen wx o n c f) (hm : ModP p a) (hn : n1 ≤ 20) => rest_any p hs h1 hx hm hf h0 hn (by omega)
  have HMUL := Lib.hid fun (wx : World) (o1 o2 : Option Addr) (n1 n2 c1 c2 : Nat) (a b : List Int) (h1 : Seen wx o1 n1 c1 a) (h2 : Seen wx o2 n2 c2 b) (ha : ModP p a) (hb : ModP p b) (l1 : n1 ≤ 20) (l2 : n2 ≤ 20) => product_any p hs h1 h2 ha hb l1 l2
  have HJ := Lib.hid fun (r s : List Int) (a b : Nat) (h1 : IsPw p f a r) (h2 : IsPw p f b s) => pw_join p2 p97 pp hf hne h1 h2
  have HMOD := Lib.hid fun (r s : List Int) => redL_mod (p := p) (by omega) (mulL r s)
  have HEQ := Lib.hid fun (r : List Int) (h : IsPow p f E0 r) => powL_eq p2 p97 pp hf hne h
  have hb1 := below_a8 w (.cells #[.int .i64 p, .int .i64 1] 85)
  have hb0 : Below w.heap.size w ((w.alloc (.cells #[.int .i64 p, .int .i64 1] 85)).alloc (.cells #[.int .i64 1] 2)) := hb1.alloc hb1.size _
  have hbb := below_a8 (w.alloc (.cells #[.int .i64 p, .int .i64 1] 85)) (.cells #[.int .i64 1] 2)
  have hca : (w.alloc (.cells #[.int .i64 p, .int .i64 1] 85)).cell? ⟨w.heap.size, 0, none⟩ = some (.int .i64 p) := World.cell?_alloc_new _ _ _ _ ▸ rfl
  have hcb : (w.alloc (.cells #[.int .i64 p, .int .i64 1] 85)).cell? ⟨w.heap.size, 1, none⟩ = some (.int .i64 1) := World.cell?_alloc_new _ _ _ _ ▸ rfl
  have HK1 := Lib.hid (keep8 (W := w.alloc (.cells #[.int .i64 p, .int .i64 1] 85)) ⟨hb1, hca, hcb⟩ hbb)
  have hs1 := seen_one (w.alloc (.cells #[.int .i64 p, .int .i64 1] 85)) 1 2
  rw [World.size_alloc] at hs1
  have HS1 := Lib.hid hs1
  have HSF := Lib.hid (seen_below (seen_below h hb1) hbb)
  have HSA := Lib.hid (seen_below (seen_below ha hb1) hbb)
  have K0 := Lib.hid k0
  have KX := Lib.hid kx
  have M1 := Lib.hid m1
  clear ha h hf h0 hne k0 kx m1 hb0 hb1 hbb hs hca hcb hs1
  go_enter Try.func135, Try.ntmps135
  go_wp2_with fail
  refine (HREST.out _ _ _ _ _ HS1.out HSF.out M1.out (by omega)).mono ?_
  rintro e W2 ⟨v, rfl, hr, hb⟩
  obtain ⟨o1, c1, rfl⟩ := row_slice hr
  have hk2 := keep8 HK1.out hb
  have SF2 := Lib.hid (seen_below HSF.out hb)
  have SA2 := Lib.hid (seen_below HSA.out hb)
  have R2 := Lib.hid (intRow_lower hr HK1.out.1.size)
  have HK2 := Lib.hid hk2
  clear hr hb HS1 HSF HSA HK1 hk2
  go_wp2_with fail
  go_loopw [1, 2, 9] (fun va ve vo wr => ∃ (o1 o2 : Option Addr) (c1 c2 : Nat) (r s : List Int) (A B e : Nat), va = .slice o2 s.length c2 ∧ ve = .int .i64 (e : Int) ∧ vo = .slice o1 r.length c1 ∧ IntRow w.heap.size wr (.slice o1 r.length c1) r ∧ Seen wr o2 s.length c2 s ∧ IsPow p f A r ∧ IsPw p f B s ∧ A + B * e = E0 ∧ e ≤ E0 ∧ Seen wr o n c f ∧ Below w.heap.size w wr ∧ wr.cell? ⟨w.heap.size, 0, none⟩ = some (.int .i64 p) ∧ wr.cell? ⟨w.heap.size, 1, none⟩ = some (.int .i64 1)) (fun _ ve _ _ => (intOf ve).toNat)
  case atStart => exact ⟨_, _, _, _, _, [0, 1], 0, 1, E0, rfl, rfl, rfl, R2.out, SA2.out, K0.out, KX.out, by omega, Nat.le_refl _, SF2.out, HK2.out⟩
  case round =>
    obtain ⟨o1, o2, c1, c2, r, s, A, B, e, rfl, rfl, rfl, rr, ss, pr, ps, hE1, heE, sf, hk⟩ := hrel
    have R := Lib.hid rr
    have SF := Lib.hid sf
    have HK := Lib.hid hk
    have PR := Lib.hid pr
    have PS := Lib.hid ps
    have HEE := Lib.hid hE1
    have lr := pow_len pr hfl
    have ls := ps.len
    have SR := Lib.hid (row_seen rr (by omega))
    have SS := Lib.hid ss
    clear rr ss sf hk pr ps hE1 R2 SA2 SF2 HK2 K0 KX M1
    by_cases hz : e = 0
    · have HP := Lib.hid (HEQ.out r (by have h := PR.out; have h2 := HEE.out; rw [hz, Nat.mul_zero, Nat.add_zero] at h2; rw [← h2]; exact h))
      subst hz
      go_wp2_with fail
      go_ret
      rw [← HP.out]
      exact ⟨_, rfl, R.out, HK.out.1⟩
    · have hz' : (0 : Int) < (e : Int) := by omega
      have hh : (e : Int) / 2 = ((e / 2 : Nat) : Int) := by omega
      have hhb : e / 2 ≤ E0 := by omega
      have hlt : e / 2 < e := by omega
      have lss := prodL_le p s s
      have lrs := prodL_le p r s
      by_cases ho : e % 2 = 1
      · have HOD := Lib.hid (half_odd HEE.out ho)
        have hbit := and8_odd (show e ≤ 4000000000000000000 by omega) ho
        obtain ⟨e2, he2⟩ : ∃ e2, e / 2 = e2 := ⟨_, rfl⟩
        rw [he2] at HOD hh hhb hlt
        clear he2 ho
        have hst := HK.out
        have hst1 : Below w.heap.size w wr.drew ∧ wr.drew.cell? ⟨w.heap.size, 0, none⟩ = some (.int .i64 p) ∧ wr.drew.cell? ⟨w.heap.size, 1, none⟩ = some (.int .i64 1) := ⟨below_drewN hst.1 1, hst.2.1, hst.2.2⟩
        have hbd : Below wr.heap.size wr wr.drew := below_drewN (Below.refl _ _) 1
        have HP1 := Lib.hid (HMUL.out _ _ _ _ _ _ _ _ _ (seen_below SR.out hbd) (seen_below SS.out hbd) PR.out.mod PS.out.mod (by omega) (by omega))
        go_wp2_with fail
        go_region_held3 (fun W' => Below w.heap.size w W' ∧ W'.cell? ⟨w.heap.size, 0, none⟩ = some (.int .i64 p) ∧ W'.cell? ⟨w.heap.size, 1, none⟩ = some (.int .i64 1)) (first | exact hst1 | exact keep8 ‹_› hb4 | exact keep8 ‹_› hb5 | assumption)
          (first | (go_at_call 108; refine HP1.out.mono ?_; rintro ee W4 ⟨v4, rfl, hr4, hb4⟩; obtain ⟨o4, c4, rfl⟩ := row_slice hr4) | (go_at_call 148; refine (HREST.out _ _ _ _ _ (row_seen hr4 (by omega)) (seen_below (seen_below SF.out hbd) hb4) (HMOD.out r s) (by omega)).mono ?_; rintro ee W5 ⟨v5, rfl, hr5, hb5⟩))
        obtain ⟨o5, c5, rfl⟩ := row_slice hr5
        have hk4 := keep8 hst1 hb4
        have HK5 := Lib.hid (keep8 hk4 hb5)
        have SF5 := Lib.hid (seen_below (seen_below (seen_below SF.out hbd) hb4) hb5)
        have SS5 := Lib.hid (seen_below (seen_below (seen_below SS.out hbd) hb4) hb5)
        have R5 := Lib.hid (intRow_lower hr5 hk4.1.size)
        clear hr4 hb4 hr5 hb5 hk4 hst hst1 hbd HP1 SR SS SF R HK
        have hst2 : Below w.heap.size w W5.drew ∧ W5.drew.cell? ⟨w.heap.size, 0, none⟩ = some (.int .i64 p) ∧ W5.drew.cell? ⟨w.heap.size, 1, none⟩ = some (.int .i64 1) := ⟨below_drewN HK5.out.1 1, HK5.out.2.1, HK5.out.2.2⟩
        have cc5 := HK5.out.2.1
        have cc6 := HK5.out.2.2
        have hbd2 : Below W5.heap.size W5 W5.drew := below_drewN (Below.refl _ _) 1
        have HP2 := Lib.hid (HMUL.out _ _ _ _ _ _ _ _ _ (seen_below SS5.out hbd2) (seen_below SS5.out hbd2) PS.out.mod PS.out.mod (by omega) (by omega))
        go_wp2_with fail
        go_region_held3 (fun W' => Below w.heap.size w W' ∧ W'.cell? ⟨w.heap.size, 0, none⟩ = some (.int .i64 p) ∧ W'.cell? ⟨w.heap.size, 1, none⟩ = some (.int .i64 1)) (first | exact hst2 | exact keep8 ‹_› hb6 | exact keep8 ‹_› hb7 | assumption)
          (first | (go_at_call 108; refine HP2.out.mono ?_; rintro ee W6 ⟨v6, rfl, hr6, hb6⟩; obtain ⟨o6, c6, rfl⟩ := row_slice hr6) | (go_at_call 148; refine (HREST.out _ _ _ _ _ (row_seen hr6 (by omega)) (seen_below (seen_below SF5.out hbd2) hb6) (HMOD.out s s) (by omega)).mono ?_; rintro ee W7 ⟨v7, rfl, hr7, hb7⟩))
        obtain ⟨o7, c7, rfl⟩ := row_slice hr7
        have hk6 := keep8 hst2 hb6
        have HK7 := Lib.hid (keep8 hk6 hb7)
        have SF7 := Lib.hid (seen_below (seen_below (seen_below SF5.out hbd2) hb6) hb7)
        have R7 := Lib.hid (row_below (row_below (row_below R5.out hbd2 (Nat.le_refl _)) hb6 (Nat.le_refl _)) hb7 (Nat.le_refl _))
        have HPS := HJ.out _ _ _ _ PS.out PS.out
        have A7 := Lib.hid (row_seen hr7 (by have := pow_len HPS hfl; omega))
        clear hr6 hb6 hr7 hb7 hk6 hst2 hbd2 HP2
        go_wp2_with fail
        exact ⟨⟨_, _, _, _, _, _, A + B, B + B, e2, rfl, by first | rfl | rw [hh], rfl, R7.out, A7.out, HJ.out _ _ _ _ (pw_of PR.out hfl) PS.out, pw_of HPS hfl, HOD.out, hhb, SF7.out, HK7.out⟩, by simp only [intOf]; omega⟩
      · have HOD := Lib.hid (half_even HEE.out (by omega))
        have hbit := and8_even (show e ≤ 4000000000000000000 by omega) ho
        obtain ⟨e2, he2⟩ : ∃ e2, e / 2 = e2 := ⟨_, rfl⟩
        rw [he2] at HOD hh hhb hlt
        clear he2 ho
        have hst2 : Below w.heap.size w wr.drew ∧ wr.drew.cell? ⟨w.heap.size, 0, none⟩ = some (.int .i64 p) ∧ wr.drew.cell? ⟨w.heap.size, 1, none⟩ = some (.int .i64 1) := ⟨below_drewN HK.out.1 1, HK.out.2.1, HK.out.2.2⟩
        have cc5 := HK.out.2.1
        have cc6 := HK.out.2.2
        have hbd2 : Below wr.heap.size wr wr.drew := below_drewN (Below.refl _ _) 1
        have HP2 := Lib.hid (HMUL.out _ _ _ _ _ _ _ _ _ (seen_below SS.out hbd2) (seen_below SS.out hbd2) PS.out.mod PS.out.mod (by omega) (by omega))
        go_wp2_with fail
        go_region_held3 (fun W' => Below w.heap.size w W' ∧ W'.cell? ⟨w.heap.size, 0, none⟩ = some (.int .i64 p) ∧ W'.cell? ⟨w.heap.size, 1, none⟩ = some (.int .i64 1)) (first | exact hst2 | exact keep8 ‹_› hb6 | exact keep8 ‹_› hb7 | assumption)
          (first | (go_at_call 108; refine HP2.out.mono ?_; rintro ee W6 ⟨v6, rfl, hr6, hb6⟩; obtain ⟨o6, c6, rfl⟩ := row_slice hr6) | (go_at_call 148; refine (HREST.out _ _ _ _ _ (row_seen hr6 (by omega)) (seen_below (seen_below SF.out hbd2) hb6) (HMOD.out s s) (by omega)).mono ?_; rintro ee W7 ⟨v7, rfl, hr7, hb7⟩))
        obtain ⟨o7, c7, rfl⟩ := row_slice hr7
        have hk6 := keep8 hst2 hb6
        have HK7 := Lib.hid (keep8 hk6 hb7)
        have SF7 := Lib.hid (seen_below (seen_below (seen_below SF.out hbd2) hb6) hb7)
        have R7 := Lib.hid (row_below (row_below (row_below R.out hbd2 (Nat.le_refl _)) hb6 (Nat.le_refl _)) hb7 (Nat.le_refl _))
        have HPS := HJ.out _ _ _ _ PS.out PS.out
        have A7 := Lib.hid (row_seen hr7 (by have := pow_len HPS hfl; omega))
        clear hr6 hb6 hr7 hb7 hk6 hst2 hbd2 HP2
        go_wp2_with fail
        exact ⟨⟨_, _, _, _, _, _, A, B + B, e2, rfl, by first | rfl | rw [hh], rfl, R7.out, A7.out, PR.out, pw_of HPS hfl, HOD.out, hhb, SF7.out, HK7.out⟩, by simp only [intOf]; omega⟩
end Go.Proofs.Ytjmecidbnoimnaa
namespace Go.Proofs.Ytjmecidbnoimnaa
open Go.RowKit Go.Shelf
attribute [local go_sem] Oper.semAt_some
set_option linter.unusedVariables false
set_option linter.unusedSimpArgs false
set_option maxRecDepth 20000
/-- what holds at the head of each round of Horner's rule -/
def VaI (w : World) (L : List (Nat × TypeId × Value)) (bv : Nat) (p : Int) (f : List Int) (x : Int) (pre : List (Nat × Int)) (W : World) : Prop :=
  Boxes W L ∧ Boxed W bv 2 (.int .i64 (evM p f x pre.length)) ∧ Below w.heap.size w W
theorem vaI_put {w W : World} {L : List (Nat × TypeId × Value)} {bv k : Nat} {p x : Int} {f : List Int} {pre : List (Nat × Int)} {o o' : Obj} (h : VaI w L bv p f x pre W) (hb : w.heap.size ≤ k) (hk : W.heap[k]? = some o) (ho : o.isCells = false) : VaI w L bv p f x pre (W.putObj k o') :=
  ⟨boxes_put h.1 hk ho, boxed_put8 h.2.1 hk ho, below_put8 h.2.2 hb⟩
theorem vaI_below {w A B : World} {L : List (Nat × TypeId × Value)} {bv : Nat} {p x : Int} {f : List Int} {pre : List (Nat × Int)} (h : VaI w L bv p f x pre A) (hs : StU8 A B) : VaI w L bv p f x pre B :=
  ⟨boxes_below h.1 hs, boxed_below8 h.2.1 hs, h.2.2.trans (hs.mono h.2.2.size)⟩
theorem fr8_put {g b k : Nat} {A W : World} {o' : Obj} (h : Fr8 g b A W) (h1 : g < k) (h2 : b < k) : Fr8 g b A (W.putObj k o') := by
  intro j hj
  refine (World.putObj_heap_other ?_).trans (h j hj)
  rcases hj with rfl | rfl <;> omega
theorem fr8_trans {g b : Nat} {A B C : World} (h : Fr8 g b A B) (k : Fr8 g b B C) : Fr8 g b A C := fun j hj => (k j hj).trans (h j hj)
end Go.Proofs.Ytjmecidbnoimnaa
namespace Go.Proofs.Ytjmecidbnoimnaa
open Go.RowKit
set_option linter.unusedVariables false
set_option linter.unusedSimpArgs false
set_option maxRecDepth 20000
theorem cell8_second (w : World) (o : Obj) (cs : Array Value) (T : TypeId) (k : Nat) : ((w.alloc o).alloc (.cells cs T)).cell? ⟨w.heap.size + 1, k, none⟩ = cs[k]? := by
  have e : (w.alloc o).heap.size = w.heap.size + 1 := by simp
  rw [← e, World.cell?_alloc_new]
theorem top8 {w w1 w4 : World} {a b : Value} {T : TypeId} {o : Obj} (h1 : Below w.heap.size w w1) (hb : Below ((w1.alloc (.cells #[a, b] T)).alloc o).heap.size ((w1.alloc (.cells #[a, b] T)).alloc o) w4) :
    Below w.heap.size w w4 ∧ w4.cell? ⟨w1.heap.size, 0, none⟩ = some a ∧ w4.cell? ⟨w1.heap.size, 1, none⟩ = some b := by
  have hx := below_a8 (w1.alloc (.cells #[a, b] T)) o
  have h2 := below_a8 w1 (.cells #[a, b] T)
  exact keep8 (keep8 (W := w1.alloc (.cells #[a, b] T)) ⟨h1.trans (h2.mono h1.size), World.cell?_alloc_new _ _ _ _ ▸ rfl, World.cell?_alloc_new _ _ _ _ ▸ rfl⟩ hx) hb
theorem top8_below {w w1 : World} (h1 : Below w.heap.size w w1) (o o' : Obj) : Below w.heap.size w ((w1.alloc o).alloc o') := (h1.alloc h1.size o).alloc (by simp; have := h1.size; omega) o'
theorem okC_val {p : Int} {f : List Int} (b : Bool) (h : modB p f = b) : okC p f = if b then 0 else 1 := by rw [okC, h]
theorem okC2_val {p : Int} {f g : List Int} (b : Bool) (h : twoM p f g = b) : okC2 p f g = if b then 0 else 1 := by rw [okC2, h]
end Go.Proofs.Ytjmecidbnoimnaa
namespace Go.Proofs.Ytjmecidbnoimnaa
open Go.RowKit
set_option linter.unusedVariables false
set_option maxRecDepth 20000
set_option linter.unusedSimpArgs false
theorem modB_len {p : Int} {f : List Int} (h : modB p f = true) : f.length ≤ 9 := (modB_of h).len
theorem rdQ_len (p : Int) (f : List Int) : (rdQ p f).length ≤ 100 := by
  unfold rdQ
  split
  · rename_i h
    rw [Bool.and_eq_true] at h
    have := redL_le p f; have := (polyB_of h.2).1; omega
  · simp
theorem pxQ_len (p e : Int) (f : List Int) : (pxQ p e f).length ≤ 100 := by
  unfold pxQ
  split
  · rename_i h
    obtain ⟨hm, _, _, h0⟩ := pxC_zero h
    have F := modB_of hm
    have := (powL_is F.two F.top F.prime F.mod (fun e => h0 (by rw [e]; rfl)) e.toNat).deg
    have := F.len; omega
  · simp
theorem rtQ_len (p : Int) (f : List Int) : (rtQ p f).length ≤ 100 := by
  unfold rtQ
  split
  · rename_i h
    have hm : modB p f = true := by
      unfold rtC at h
      split at h
      · assumption
      · omega
    have := (modB_of hm).top
    have := rootsN_len (p := p) (f := f) p.toNat
    omega
  · simp
theorem drQ_len (p : Int) (f : List Int) : (drQ p f).length ≤ 100 := by
  unfold drQ
  split
  · rename_i h
    have h9 : (derL f).length = f.length - 1 := by rw [derL, tabL_length]
    have := redL_le p (derL f); have := modB_len h
    omega
  · simp
theorem mmQ_len (p : Int) (f g : List Int) : (mmQ p f g).length ≤ 100 := by
  unfold mmQ
  split
  · rename_i h
    unfold mmC at h
    split at h
    · split at h
      · omega
      · omega
    · omega
  · simp
theorem cmQ_len (p : Int) (f g : List Int) : (cmQ p f g).length ≤ 100 := by
  unfold cmQ
  split
  · rename_i h
    obtain ⟨hf, hg⟩ := twoM_of h
    have F := modB_of hf
    have G := modB_of hg
    have := gcd_le F.prime F.mod G.mod (gcdL_is F.two F.top F.prime F.mod G.mod)
    have := F.len; have := G.len; omega
  · simp
theorem dvQ_len (p : Int) (f g : List Int) : (dvQ p f g).length ≤ 100 := by
  unfold dvQ
  split
  · rename_i h
    have := quoP_len p f g; have := modB_len (twC_zero h).1; omega
  · simp
theorem dvR_len (p : Int) (f g : List Int) : (dvR p f g).length ≤ 100 := by
  unfold dvR
  split
  · rename_i h
    have := remP_len p f g; have := modB_len (twC_zero h).1; omega
  · simp
end Go.Proofs.Ytjmecidbnoimnaa
namespace Go.Proofs.Ytjmecidbnoimnaa
open Go.RowKit
set_option linter.unusedVariables false
set_option linter.unusedSimpArgs false
set_option maxRecDepth 20000 in
set_option maxHeartbeats 1000000 in
theorem exactCw_core (p : Int) (af : Option Addr) (capf : Nat) (f : List Int) (w : World) (hf : f.length ≤ 1048576) (kf : ArgInt w af f) :
    Calls Try.prog 9 #[.int .i64 p, .slice af f.length capf] w fun e w' => e = .returned (.bool true) ∧ Below w.heap.size w w' := by
  have HA0 := Lib.hid kf
  have HT0 := Lib.hid fun (w : World) (h : ArgInt w af f) => toInt64S_any af capf f w hf h
  have hnf : (0 : Int) ≤ (f.length : Int) := Int.natCast_nonneg _
  have HS := Lib.hid fun (w : World) (b : Nat) (o : Option Addr) (c : Nat) (h : IntRow b w (.slice o f.length c) f) => specCw_any p (row_seen h (show f.length ≤ 1100000 by omega))
  have HI := Lib.hid fun (w : World) (b : Nat) (o : Option Addr) (c : Nat) (h : IntRow b w (.slice o f.length c) f) => implCw_any p (row_seen h (show f.length ≤ 1100000 by omega))
  generalize (cwQ p f) = q at *
  generalize (cwC p f) = c at *
  have B0 := Lib.hid (Below.refl w.heap.size w)
  clear kf
  go_enter Try.func9, Try.ntmps9
  go_wp2_with fail
  refine (HT0.out _ (argInt_below HA0.out B0.out)).mono ?_
  rintro e W1 ⟨v1, rfl, r1, b1⟩
  obtain ⟨o1, c1, rfl⟩ := row_slice r1
  have B1 := Lib.hid (B0.out.trans (b1.mono B0.out.size))
  have R_sf_1 := Lib.hid r1
  clear r1 b1
  go_wp2_with fail
  refine (HS.out _ _ _ _ R_sf_1.out).mono ?_
  rintro e W2 ⟨rfl, b2⟩
  have B2 := Lib.hid (B1.out.trans (b2.mono B1.out.size))
  have R_sf_2 := Lib.hid (row_below R_sf_1.out b2 (Nat.le_refl _))
  clear b2
  go_wp2_with fail
  refine (HT0.out _ (argInt_below HA0.out B2.out)).mono ?_
  rintro e W3 ⟨v3, rfl, r3, b3⟩
  obtain ⟨o3, c3, rfl⟩ := row_slice r3
  have B3 := Lib.hid (B2.out.trans (b3.mono B2.out.size))
  have R_xf_3 := Lib.hid r3
  clear r3 b3
  go_wp2_with fail
  refine (HI.out _ _ _ _ R_xf_3.out).mono ?_
  rintro e W4 ⟨rfl, b4⟩
  have B4 := Lib.hid (B3.out.trans (b4.mono B3.out.size))
  have R_xf_4 := Lib.hid (row_below R_xf_3.out b4 (Nat.le_refl _))
  clear b4
  go_wp2_with fail
  refine (HT0.out _ (argInt_below HA0.out B4.out)).mono ?_
  rintro e W5 ⟨v5, rfl, r5, b5⟩
  obtain ⟨o5, c5, rfl⟩ := row_slice r5
  have B5 := Lib.hid (B4.out.trans (b5.mono B4.out.size))
  have R_xf_5 := Lib.hid (row_below R_xf_4.out b5 (Nat.le_refl _))
  have R_tf_5 := Lib.hid r5
  clear r5 b5
  go_wp2_with fail
  refine (eqInt_same R_xf_5.out R_tf_5.out (by omega)).mono ?_
  rintro e W6 ⟨rfl, nd, hw⟩
  have b6 : Below W5.heap.size W5 W6 := by rw [hw]; exact below_drewN (Below.refl _ _) nd
  clear hw nd
  have B6 := Lib.hid (B5.out.trans (b6.mono B5.out.size))
  have R_xf_6 := Lib.hid (row_below R_xf_5.out b6 (Nat.le_refl _))
  have R_tf_6 := Lib.hid (row_below R_tf_5.out b6 (Nat.le_refl _))
  clear b6
  go_wp2_with fail
  go_ret
  exact ⟨rfl, B6.out⟩
theorem exactCw_walk (p : Int) (af : Option Addr) (lenf capf : Nat) (zf : List Int) (w : World) (_ : (Lit.int .i64 p).wf = true) (hf : (af = none ∧ lenf = 0 ∧ capf = 0 ∧ zf = []) ∨ ∃ x, af = some x ∧ lenf ≤ capf ∧ capf ≤ maxLen ∧ zf.length = capf ∧ (∀ i, i < zf.length → w.cell? (x.add i) = some (.int .i64 (zf.getD i 0))) ∧ ∀ n ∈ zf, (Lit.int .i64 n).wf = true) :
    Calls Try.prog 9 #[.int .i64 p, .slice af lenf capf] w fun e w' => e = .returned (.bool true) ∧ Below w.heap.size w w' := by
  have mf := len_of_row hf
  obtain ⟨lf, ef, kf⟩ := arg_of_row hf
  clear hf
  by_cases qf : lenf ≤ 1048576
  · subst ef
    exact exactCw_core p af capf lf w qf kf
  · clear kf ef
    go_enter Try.func9, Try.ntmps9
    go_wp2
    go_ret
    exact ⟨rfl, Below.refl _ _⟩
end Go.Proofs.Ytjmecidbnoimnaa
