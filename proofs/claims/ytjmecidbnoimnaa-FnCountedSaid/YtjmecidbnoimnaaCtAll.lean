/- The walk of the law FnCounted: true for every code; below the old memory nothing has turned. (joined of several texts) -/
import Derived.Test.YtjmecidbnoimnaaPolyShift
import Derived.Test.YtjmecidbnoimnaaPolySpec
import Derived.Test.YtjmecidbnoimnaaGcd
import Derived.StillTailTactics
import Derived.Deep.DeepCutAuto
import Derived.Test.YtjmecidbnoimnaaModLaws
import Derived.Test.YtjmecidbnoimnaaVal
import Derived.Test.YtjmecidbnoimnaaRingMath
import Derived.Lib.SliceRun
import Derived.OwnWalk
import Derived.Laws.OwnMore
import Derived.Test.YtjmecidbnoimnaaBezPos
import Derived.Test.YtjmecidbnoimnaaRow
import Derived.Test.YtjmecidbnoimnaaPrime
import Derived.BigQuiet
import Derived.Deep.AppendLies
import Derived.Test.YtjmecidbnoimnaaBez
import Derived.OpenShut
import Derived.Deep.MidRow
import Derived.Laws.IdiomCopy
import Derived.Shelf.Spec.SlicesInsert
import Derived.Deep.WholeRow
import Derived.Test.YtjmecidbnoimnaaMonic
import Derived.Test.YtjmecidbnoimnaaFact
import Derived.Test.YtjmecidbnoimnaaFactMath
import Derived.Test.YtjmecidbnoimnaaCntSpec
namespace Go.Proofs.Ytjmecidbnoimnaa
set_option linter.unusedVariables false
set_option maxRecDepth 20000
def valueC (f : List Int) (x : Int) : Int := if polyB f then (if inB x (-1000) 1000 then (if inB (evalL f x) (-1000000000000) 1000000000000 then 0 else 3) else 2) else 1
def valueQ (f : List Int) (x : Int) : Int := if valueC f x = 0 then evalL f x else 0
/-- near places give small values -/
theorem evalD_near {f : List Int} {x : Int} (h : ∀ i, -1000000 ≤ f.getD i 0 ∧ f.getD i 0 ≤ 1000000) (h0 : -3 ≤ x) (h1 : x ≤ 3) : ∀ j, -(1000000 * 4 ^ j) ≤ evalD f x j ∧ evalD f x j ≤ 1000000 * 4 ^ j
  | 0 => by simp [evalD]
  | j + 1 => by
    obtain ⟨a, b⟩ := evalD_near h h0 h1 j
    obtain ⟨c, d⟩ := h (f.length - 1 - j)
    have hp : (1 : Int) ≤ 4 ^ j := by have := Int.pow_pos (n := (4 : Int)) (m := j) (by omega); omega
    unfold evalD
    rw [Int.pow_succ]
    generalize evalD f x j = e at *
    generalize (4 : Int) ^ j = q at *
    generalize f.getD (f.length - 1 - j) 0 = y at *
    rcases (by omega : x = -3 ∨ x = -2 ∨ x = -1 ∨ x = 0 ∨ x = 1 ∨ x = 2 ∨ x = 3) with rfl | rfl | rfl | rfl | rfl | rfl | rfl <;> omega
theorem pow4_le : ∀ {j : Nat}, j ≤ 9 → (4 : Int) ^ j ≤ 262144 := by decide
theorem value_near {f : List Int} {x : Int} (h : polyB f = true) (h0 : -3 ≤ x) (h1 : x ≤ 3) : valueC f x = 0 ∧ valueQ f x = pval f x := by
  obtain ⟨hl, hb, _⟩ := polyB_of h
  obtain ⟨a, b⟩ := evalD_near hb h0 h1 f.length
  have := pow4_le hl
  have e1 : inB x (-1000) 1000 = true := by simp [inB]; omega
  have e2 : inB (evalL f x) (-1000000000000) 1000000000000 = true := by unfold evalL; simp [inB]; omega
  have hc : valueC f x = 0 := by simp [valueC, h, e1, e2]
  exact ⟨hc, by unfold valueQ; rw [if_pos hc, evalL_pval]⟩
/-- what has become too great stays so -/
theorem evalD_far {f : List Int} {x : Int} (h : ∀ i, -1000000 ≤ f.getD i 0 ∧ f.getD i 0 ≤ 1000000) {j : Nat} (hx : x < -1 ∨ 1 < x) (hj : evalD f x j < -4000000000000 ∨ 4000000000000 < evalD f x j) :
    ∀ k, evalD f x (j + k) < -4000000000000 ∨ 4000000000000 < evalD f x (j + k)
  | 0 => hj
  | k + 1 => by
    have ih := evalD_far h hx hj k
    obtain ⟨c, d⟩ := h (f.length - 1 - (j + k))
    show evalD f x (j + k) * x + f.getD (f.length - 1 - (j + k)) 0 < _ ∨ _ < evalD f x (j + k) * x + f.getD (f.length - 1 - (j + k)) 0
    generalize evalD f x (j + k) = e at *
    generalize f.getD (f.length - 1 - (j + k)) 0 = y at *
    rcases ih with ih | ih <;> rcases hx with hx | hx
    · have := Int.mul_le_mul_of_nonpos_left (show e ≤ 0 by omega) (show x ≤ -2 by omega); omega
    · have := Int.mul_le_mul_of_nonpos_left (show e ≤ 0 by omega) (show 2 ≤ x by omega); omega
    · have := Int.mul_le_mul_of_nonneg_left (show x ≤ -2 by omega) (show 0 ≤ e by omega); omega
    · have := Int.mul_le_mul_of_nonneg_left (show 2 ≤ x by omega) (show 0 ≤ e by omega); omega
theorem evalD_flat {f : List Int} {x : Int} (h : ∀ i, -1000000 ≤ f.getD i 0 ∧ f.getD i 0 ≤ 1000000) (h0 : -1 ≤ x) (h1 : x ≤ 1) : ∀ j : Nat, -(1000000 * (j : Int)) ≤ evalD f x j ∧ evalD f x j ≤ 1000000 * (j : Int)
  | 0 => by simp [evalD]
  | j + 1 => by
    obtain ⟨a, b⟩ := evalD_flat h h0 h1 j
    obtain ⟨c, d⟩ := h (f.length - 1 - j)
    unfold evalD
    generalize evalD f x j = e at *
    generalize f.getD (f.length - 1 - j) 0 = y at *
    rcases (by omega : x = -1 ∨ x = 0 ∨ x = 1) with rfl | rfl | rfl <;> omega
/-- the early end of an evaluation -/
theorem evalD_stop {f : List Int} {x : Int} (h : polyB f = true) {j : Nat} (hj : j ≤ f.length) (hf : inB (evalD f x j) (-4000000000000) 4000000000000 = false) : inB (evalL f x) (-1000000000000) 1000000000000 = false := by
  obtain ⟨hl, hb, _⟩ := polyB_of h
  have hf' : evalD f x j < -4000000000000 ∨ 4000000000000 < evalD f x j := by
    simp only [inB, Bool.and_eq_false_iff, decide_eq_false_iff_not] at hf; omega
  by_cases hx : -1 ≤ x ∧ x ≤ 1
  · have := evalD_flat hb hx.1 hx.2 j; omega
  · have := evalD_far hb (by omega) hf' (f.length - j)
    rw [show j + (f.length - j) = f.length by omega] at this
    exact inB_f (by unfold evalL; omega)
/-- a list turned round -/
def revL (f : List Int) : List Int := tabL f.length fun i => f.getD (f.length - 1 - i) 0
theorem revL_length (f : List Int) : (revL f).length = f.length := tabL_length _ _
theorem revL_lastB {f : List Int} (h : f.getD 0 0 ≠ 0) : lastB (revL f) = true := by
  unfold lastB
  rw [revL_length]
  by_cases h0 : f.length = 0
  · simp [h0]
  · rw [revL, tabL_getD (by omega), show f.length - 1 - (f.length - 1) = 0 by omega, beq_eq_false_iff_ne.2 h]; simp
theorem revL_revL (f : List Int) : revL (revL f) = f := by
  refine ext_getD (by rw [revL_length, revL_length]) fun i hi => ?_
  rw [revL_length, revL_length] at hi
  rw [revL, tabL_getD (by rw [revL_length]; exact hi), revL_length, revL, tabL_getD (by omega)]
  congr 1; omega
theorem polyB_mk {l : List Int} (h1 : l.length ≤ 9) (h2 : ∀ i, i < l.length → -1000000 ≤ l.getD i 0 ∧ l.getD i 0 ≤ 1000000) (h3 : lastB l = true) : polyB l = true := by
  simp only [polyB, h3, Bool.and_true, Bool.and_eq_true, decide_eq_true_eq, List.all_eq_true]
  refine ⟨fun x hx => ?_, h1⟩
  obtain ⟨i, hi, rfl⟩ := List.getElem_of_mem hx
  have := h2 i hi
  simp only [List.getD, List.getElem?_eq_getElem hi, Option.getD_some] at this
  simpa [cofB, inB] using this
theorem rev_back {f : List Int} (h : polyB f = true) (h0 : f.getD 0 0 ≠ 0) : resC (revL f) = 0 ∧ resL (revL f) = revL f ∧ resC (revL (resL (revL f))) = 0 ∧ resL (revL (resL (revL f))) = f := by
  obtain ⟨hl, hb, h3⟩ := polyB_of h
  have ht : trimL (revL f) = revL f := trimL_self (revL_lastB h0)
  have hp : polyB (revL f) = true := polyB_mk (by rw [revL_length]; exact hl) (fun i hi => by rw [revL_length] at hi; rw [revL, tabL_getD hi]; exact hb _) (revL_lastB h0)
  have hlf : lastB f = true := by simp only [polyB, Bool.and_eq_true] at h; exact h.2.2
  have e : resL (revL f) = revL f := by simp [resL, ht, hp]
  refine ⟨by simp [resC, ht, hp], e, ?_, ?_⟩
  · rw [e, revL_revL]; simp [resC, trimL_self hlf, h]
  · rw [e, revL_revL]; simp [resL, trimL_self hlf, h]
theorem poly_last {l : List Int} (h : polyB l = true) : lastB l = true := by simp only [polyB, Bool.and_eq_true] at h; exact h.2.2
theorem res_poly {l : List Int} (h : resC l = 0) : polyB (resL l) = true ∧ resL l = trimL l := by
  unfold resC at h
  split at h
  · rename_i hp; simp [resL, hp]
  · omega
/-- what the law asks of a shifted polynomial -/
theorem shift_law {f : List Int} {a : Int} (hf : polyB f = true) (h : resC (shiftL f a) = 0) :
    resL (shiftL f a) = shiftL f a ∧ polyB (shiftL f a) = true ∧ (shiftL f a).length = f.length ∧ resC (shiftL (shiftL f a) (-a)) = 0 ∧ resL (shiftL (shiftL f a) (-a)) = f := by
  have hl := poly_last hf
  obtain ⟨h1, h2⟩ := res_poly h
  have ht : trimL (shiftL f a) = shiftL f a := trimL_self (shiftL_lastB a hl)
  rw [h2, ht] at h1
  refine ⟨h2.trans ht, h1, shiftL_length f a, ?_, ?_⟩
  · rw [shift_back a hl]; simp [resC, trimL_self hl, hf]
  · rw [shift_back a hl]; simp [resL, trimL_self hl, hf]
/-- what the law asks of values -/
theorem values_law {f g : List Int} {x : Int} (hf : polyB f = true) (hg : polyB g = true) (hp : resC (mulL f g) = 0) (hs : resC (addL f g 1) = 0) (h0 : -3 ≤ x) (h1 : x ≤ 3) :
    valueC f x = 0 ∧ valueC g x = 0 ∧ valueC (resL (mulL f g)) x = 0 ∧ valueC (resL (addL f g 1)) x = 0 ∧
    valueQ (resL (mulL f g)) x = valueQ f x * valueQ g x ∧ valueQ (resL (addL f g 1)) x = valueQ f x + valueQ g x := by
  obtain ⟨p1, p2⟩ := res_poly hp
  obtain ⟨s1, s2⟩ := res_poly hs
  obtain ⟨a1, a2⟩ := value_near hf h0 h1
  obtain ⟨b1, b2⟩ := value_near hg h0 h1
  obtain ⟨c1, c2⟩ := value_near p1 h0 h1
  obtain ⟨d1, d2⟩ := value_near s1 h0 h1
  refine ⟨a1, b1, c1, d1, ?_, ?_⟩
  · rw [c2, a2, b2, p2, pval_trim, pval_mul]
  · rw [d2, a2, b2, s2, pval_trim, pval_add, Int.one_mul]
/-- the content divides all coefficients -/
theorem cont_law {f : List Int} {i : Nat} (hi : i < f.length) : (f.getD i 0) % contL f = 0 := Int.emod_eq_zero_of_dvd (contN_div f f.length i hi)
end Go.Proofs.Ytjmecidbnoimnaa
namespace Go.Proofs.Ytjmecidbnoimnaa
open Go.RowKit
set_option linter.unusedVariables false
set_option maxRecDepth 20000
set_option linter.unusedSimpArgs false
theorem inB_cases (n lo hi : Int) : inB n lo hi = true ∧ lo ≤ n ∧ n ≤ hi ∨ inB n lo hi = false ∧ (n < lo ∨ hi < n) := by
  by_cases h1 : lo ≤ n
  · by_cases h2 : n ≤ hi
    · exact .inl ⟨inB_t h1 h2, h1, h2⟩
    · exact .inr ⟨inB_f (.inr (by omega)), .inr (by omega)⟩
  · exact .inr ⟨inB_f (.inl (by omega)), .inl (by omega)⟩
def contC (l : List Int) : Int := if polyB l then 0 else 1
def contQ (l : List Int) : Int := if polyB l then contL l else 0
theorem contN_bd {l : List Int} (h : ∀ i, -1000000 ≤ l.getD i 0 ∧ l.getD i 0 ≤ 1000000) : ∀ k, 0 ≤ contN l k ∧ contN l k ≤ 1000000
  | 0 => by simp [contN]
  | k + 1 => by
    obtain ⟨a, b⟩ := contN_bd h k
    obtain ⟨c, d⟩ := h k
    unfold contN
    refine ⟨by omega, ?_⟩
    by_cases h0 : contN l k = 0
    · rw [h0, Int.gcd_zero_left]; omega
    · have := Int.gcd_le_natAbs_left (l.getD k 0) h0
      have := Int.ofNat_le.2 this
      omega
end Go.Proofs.Ytjmecidbnoimnaa
namespace Go.Proofs.Ytjmecidbnoimnaa
open Go.RowKit
set_option linter.unusedVariables false
set_option maxRecDepth 20000
set_option linter.unusedSimpArgs false
theorem intRow_lower {b b' : Nat} {w : World} {v : Value} {l : List Int} (h : IntRow b' w v l) (hle : b ≤ b') : IntRow b w v l :=
  ⟨h.1, h.2.imp id fun ⟨g, cap, cur, e, hb, rest⟩ => ⟨g, cap, cur, e, Nat.le_trans hle hb, rest⟩⟩
theorem tabL_succ (k : Nat) (f : Nat → Int) : tabL (k + 1) f = tabL k f ++ [f k] := by simp [tabL, List.range_succ]
theorem tabL_ext {n : Nat} {f g : Nat → Int} (h : ∀ i, i < n → f i = g i) : tabL n f = tabL n g :=
  ext_getD (by rw [tabL_length, tabL_length]) fun i hi => by rw [tabL_length] at hi; rw [tabL_getD hi, tabL_getD hi, h i hi]
set_option maxHeartbeats 1000000 in
theorem l06Der_any {o : Option Addr} {n c : Nat} {l : List Int} {w : World} (h : Seen w o n c l) (hp : polyB l = true) :
    Calls Try.prog 143 #[.slice o n c] w (OwnPost (derL l) w) := by
  obtain ⟨hl, hn, hno, hnc, g, h1, h2⟩ := h
  obtain ⟨i0, hi, hz0, hz1, hz2⟩ := info_parts Try.infoInt64
  have HI := Lib.hid hi
  have HZ0 := Lib.hid hz0
  have HZ1 := Lib.hid hz1
  have HZ2 := Lib.hid hz2
  have HO := Lib.hid fun h => (h1 h).1
  have HG := Lib.hid fun h => (h1 h).2
  have HL := Lib.hid hl
  have HC := Lib.hid h2
  have hl9 : n ≤ 9 := by have := (polyB_of hp).1; omega
  have hB := Lib.hid (polyB_of hp).2.1
  clear hi hz0 hz1 hz2 h1 h2 hl hno hnc hp
  go_enter Try.func143, Try.ntmps143
  go_wp2
  go_loopw [3, 4] (fun v d wr => ∃ (k x : Nat), d = .int .i64 (x : Int) ∧ x = k + 1 ∧ k ≤ n - 1 ∧ IntRow w.heap.size wr v (tabL k fun i => ((i : Int) + 1) * l.getD (i + 1) 0) ∧ Below w.heap.size w wr) (fun _ d _ => n + 1 - (intOf d).toNat)
  case atStart => exact ⟨0, 1, rfl, rfl, Nat.zero_le _, intRow_made _, (Below.refl _ _).alloc (Nat.le_refl _) _⟩
  case round =>
    obtain ⟨k, x, rfl, hx, hk, hrow, hb⟩ := hrel
    have bl : (tabL k fun i => ((i : Int) + 1) * l.getD (i + 1) 0).length ≤ 1000000 := by rw [tabL_length]; omega
    have bs := hb.size
    have HW := Lib.hid hrow
    have HB := Lib.hid hb
    clear hrow hb
    by_cases hlt : x < n
    · have hog := HO.out (by omega)
      subst hog
      have a2 := HC.out x hlt
      rw [← HB.out.cell (p := ⟨g, x, none⟩) (HG.out (by omega))] at a2
      obtain ⟨z0, z1⟩ := hB.out x
      have HS := Lib.hid (show (tabL (k + 1) fun i => ((i : Int) + 1) * l.getD (i + 1) 0) = (tabL k fun i => ((i : Int) + 1) * l.getD (i + 1) 0) ++ [(x : Int) * l.getD x 0] by
        rw [tabL_succ, hx, show ((k + 1 : Nat) : Int) = (k : Int) + 1 by push_cast; rfl])
      generalize l.getD x 0 = z at *
      generalize (tabL k fun i => ((i : Int) + 1) * l.getD (i + 1) 0) = acc at *
      have m1 : -10000000 ≤ (x : Int) * z ∧ (x : Int) * z ≤ 10000000 := by
        have hk8 : x ≤ 9 := by omega
        clear hx
        rcases (by omega : x = 0 ∨ x = 1 ∨ x = 2 ∨ x = 3 ∨ x = 4 ∨ x = 5 ∨ x = 6 ∨ x = 7 ∨ x = 8 ∨ x = 9) with rfl | rfl | rfl | rfl | rfl | rfl | rfl | rfl | rfl | rfl <;> omega
      have hw1 : IntKind.i64.wrap ((x : Int) * z) = (x : Int) * z := IntWalk.i64_in _ (by omega)
      have HX := Lib.hid hx
      clear m1 hx
      go_wp2_with (at_builtin; refine wpList_append_own _ rfl (.tmp 12) (.tmp 19) 27 rfl w.heap.size 2 i0 (.int .i64 0) 1 8 Try.underlying27 HI.out HZ0.out HZ1.out HZ2.out rfl (by decide) _ _ _ rfl (HW.out.alloc _) ⟨wr.heap.size, 0, none⟩ 1 1 [.int .i64 ((x : Int) * z)] rfl rfl ?c1 ?c2 ?c3 ?c4 ?c5 ?_)
      try (case c1 => first | exact news_one _ _ _ | simp [Addr.add])
      try (case c2 => first | exact one_one _ | rfl)
      case c3 => unfold maxLen; omega
      case c4 => omega
      case c5 => first | omega | (simp; omega)
      intro v' w1 hown hgrow _
      have HO2 := Lib.hid (intRow_snoc hown)
      have HG2 := Lib.hid (below_appendI HB.out HW.out hgrow)
      clear hown hgrow
      go_wp2
      go_roundw
      case rel => exact ⟨k + 1, x + 1, by first | rfl | go_num, by have := HX.out; omega, by have := HX.out; omega, by rw [HS.out]; exact HO2.out, HG2.out⟩
      case measure => simp [intOf]; omega
    · have hkn : (tabL k fun i => ((i : Int) + 1) * l.getD (i + 1) 0) = derL l := by unfold derL; rw [← HL.out, show k = n - 1 by omega]
      have HK := Lib.hid hkn
      clear hkn
      go_wp2
      go_ret
      rw [← HK.out]
      exact ⟨_, rfl, HW.out, HB.out⟩
end Go.Proofs.Ytjmecidbnoimnaa
namespace Go.Proofs.Ytjmecidbnoimnaa
open Go.RowKit
set_option linter.unusedVariables false
set_option linter.unusedSimpArgs false
theorem int_stored {b g n c : Nat} {w : World} {acc : List Int} (h : IntRow b w (.slice (some ⟨g, 0, none⟩) n c) acc) (hn : acc.length = n) (k : Nat) (x : Int) :
    IntRow b (w.setCell ⟨g, k, none⟩ (.int .i64 x)) (.slice (some ⟨g, 0, none⟩) n c) (acc.set k x) := by
  subst hn
  have h2 := (World.ownsRow.stored h k (.int .i64 x)).1
  unfold IntRow
  rw [List.length_set, List.map_set]
  exact h2
theorem int_at {b g n c : Nat} {w : World} {acc : List Int} (h : IntRow b w (.slice (some ⟨g, 0, none⟩) n c) acc) (hn : acc.length = n) {k : Nat} (hk : k < n) : w.cell? ⟨g, k, none⟩ = some (.int .i64 (acc.getD k 0)) := by
  subst hn
  have h2 := World.ownsRow.cellAt h k (by omega)
  rw [h2]; simp [List.getD, hk]
theorem int_frozen {b g n c : Nat} {w : World} {acc : List Int} (h : IntRow b w (.slice (some ⟨g, 0, none⟩) n c) acc) (hn : acc.length = n) (k : Nat) : w.frozen? ⟨g, k, none⟩ = false := by
  subst hn
  exact World.ownsRow.frozenAt h k
theorem tab_set {n k : Nat} {f : Nat → Int} (x : Int) (hk : k < n) : (tabL n f).set k x = tabL n fun i => if i = k then x else f i := by
  refine ext_getD (by rw [List.length_set, tabL_length, tabL_length]) fun i hi => ?_
  rw [List.length_set, tabL_length] at hi
  rw [tabL_getD hi]
  by_cases e : i = k
  · subst e; rw [if_pos rfl]; simp [List.getD, tabL_length, hi]
  · rw [if_neg e, ← tabL_getD (f := f) hi]; simp [List.getD, List.getElem?_set_ne (Ne.symm e)]
theorem tab_zero (n : Nat) : List.replicate n (0 : Int) = tabL n fun _ => 0 := by
  refine ext_getD (by rw [List.length_replicate, tabL_length]) fun i hi => ?_
  rw [List.length_replicate] at hi
  rw [tabL_getD hi]; simp [List.getD, hi]
theorem int_made {w w2 : World} {N : Nat} (h : w2.ownsRow w.heap.size 2 1 (.slice (some ⟨w.heap.size, 0, none⟩) N N) N (madeCells (Value.int .i64 0).cells (N * 1)).toList) :
    IntRow w.heap.size w2 (.slice (some ⟨w.heap.size, 0, none⟩) N N) (tabL N fun _ => 0) := by
  rw [← tab_zero]
  unfold IntRow
  rw [List.length_replicate, List.map_replicate]
  have e : (madeCells (Value.int .i64 0).cells (N * 1)).toList = List.replicate N (Value.int .i64 0) := by
    rw [Nat.mul_one]; exact toList_madeCells_one _ _
  rw [← e]; exact h
theorem add_step {f g : List Int} {kk : Int} {N k : Nat} {y : Int} (hk : k < N) (hy : f.getD k 0 + kk * g.getD k 0 = y) :
    (tabL N fun i => if i < k then f.getD i 0 + kk * g.getD i 0 else 0).set k y = tabL N fun i => if i < k + 1 then f.getD i 0 + kk * g.getD i 0 else 0 := by
  rw [tab_set y hk]
  refine tabL_ext fun i hi => ?_
  by_cases e : i = k
  · subst e; rw [if_pos rfl, if_pos (by omega), hy]
  · rw [if_neg e]
    by_cases h2 : i < k
    · rw [if_pos h2, if_pos (by omega)]
    · rw [if_neg h2, if_neg (by omega)]
set_option maxRecDepth 20000
set_option maxHeartbeats 2000000 in
theorem l06Add_any (kk : Int) {o o' : Option Addr} {n n' c c' : Nat} {f g : List Int} {w : World} (h : Seen w o n c f) (h' : Seen w o' n' c' g)
    (bf : ∀ i, -1000000000000000 ≤ f.getD i 0 ∧ f.getD i 0 ≤ 1000000000000000) (bg : ∀ i, -1000000000000000 ≤ kk * g.getD i 0 ∧ kk * g.getD i 0 ≤ 1000000000000000) :
    Calls Try.prog 145 #[.slice o n c, .slice o' n' c', .int .i64 kk] w (OwnPost (trimL (addL f g kk)) w) := by
  obtain ⟨hl, hn, hno, hnc, a, h1, h2⟩ := h
  obtain ⟨hl', hn', hno', hnc', a', h1', h2'⟩ := h'
  obtain ⟨i0, hi, hz0, hz1, hz2⟩ := info_parts Try.infoInt64
  have HI := Lib.hid hi
  have HZ0 := Lib.hid hz0
  have HZ1 := Lib.hid hz1
  have HZ2 := Lib.hid hz2
  have HF := Lib.hid h1
  have HC := Lib.hid h2
  have HF' := Lib.hid h1'
  have HC' := Lib.hid h2'
  have HL := Lib.hid (And.intro hl hl')
  have BF := Lib.hid bf
  have BG := Lib.hid bg
  obtain ⟨N, hN⟩ : ∃ N, max n n' = N := ⟨_, rfl⟩
  have hNb : N ≤ 1100000 := by omega
  have hmax : max (n : Int) (n' : Int) = (N : Int) := by omega
  have HNm := Lib.hid hN
  clear hi hz0 hz1 hz2 h1 h2 hl hno hnc h1' h2' hl' hno' hnc' bf bg
  go_enter Try.func145, Try.ntmps145
  go_upto_region 1 with fail
  go_cut [7] (fun s7 wx => s7 = .slice (some ⟨w.heap.size, 0, none⟩) N N ∧ IntRow w.heap.size wx (.slice (some ⟨w.heap.size, 0, none⟩) N N) (tabL N fun _ => 0) ∧ Below w.heap.size w wx)
  case first =>
    by_cases hle : n' ≤ n
    · have e : n = N := by omega
      subst e
      go_wp2_with (at_make; refine wpList_make_full _ rfl (.tmp 13) (.tmp 13) 27 rfl w.heap.size 2 i0 (.int .i64 0) 1 Try.underlying27 HI.out HZ0.out HZ1.out .i64 .i64 _ _ n rfl rfl rfl rfl (by rw [HZ2.out]; omega) (by unfold maxLen; omega) (Nat.le_refl _) ?_; intro w2 hown hgrow)
      have HB2 := (Below.refl w.heap.size w).grown hgrow (Nat.le_refl _) (fun k h => by cases h)
      have HR := Lib.hid (int_made hown)
      clear hown hgrow
      go_wp2
      go_meet
      case rel => exact ⟨rfl, HR.out, HB2⟩
    · have e : n' = N := by omega
      subst e
      go_wp2_with (at_make; refine wpList_make_full _ rfl (.tmp 13) (.tmp 13) 27 rfl w.heap.size 2 i0 (.int .i64 0) 1 Try.underlying27 HI.out HZ0.out HZ1.out .i64 .i64 _ _ n' rfl rfl rfl rfl (by rw [HZ2.out]; omega) (by unfold maxLen; omega) (Nat.le_refl _) ?_; intro w2 hown hgrow)
      have HB2 := (Below.refl w.heap.size w).grown hgrow (Nat.le_refl _) (fun k h => by cases h)
      have HR := Lib.hid (int_made hown)
      clear hown hgrow
      go_wp2
      go_meet
      case rel => exact ⟨rfl, HR.out, HB2⟩
  case rest =>
  obtain ⟨rfl, hrow, hb⟩ := hcut
  have HR0 := Lib.hid hrow
  have HB0 := Lib.hid hb
  clear hrow hb hmax hN
  go_wp2
  go_loopw [8] (fun i wr => ∃ k : Nat, k ≤ N ∧ i = .int .i64 k ∧ IntRow w.heap.size wr (.slice (some ⟨w.heap.size, 0, none⟩) N N) (tabL N fun i => if i < k then f.getD i 0 + kk * g.getD i 0 else 0) ∧ Below w.heap.size w wr) (fun i _ => N - (intOf i).toNat)
  case atStart => exact ⟨0, Nat.zero_le _, rfl, by rw [tabL_ext (g := fun _ => 0) (fun i _ => if_neg (Nat.not_lt_zero _))]; exact HR0.out, HB0.out⟩
  case round =>
    obtain ⟨k, hk, rfl, hrow, hb⟩ := hrel
    have HW := Lib.hid hrow
    have HB := Lib.hid hb
    have bs := hb.size
    clear hrow hb
    by_cases hlt : k < N
    · have c3 := int_at HW.out (tabL_length _ _) hlt
      rw [tabL_getD hlt, if_neg (Nat.lt_irrefl _)] at c3
      by_cases hf : k < n
      · obtain ⟨rfl, hag⟩ := HF.out (by omega)
        have a2 := HC.out k hf
        rw [← HB.out.cell (p := ⟨a, k, none⟩) hag] at a2
        have R1 := Lib.hid (int_stored HW.out (tabL_length _ _) k (f.getD k 0))
        have f3 := int_frozen HW.out (tabL_length _ _) k
        have B1 := Lib.hid (HB.out.setCell (p := ⟨w.heap.size, k, none⟩) (Nat.le_refl _) (.int .i64 (f.getD k 0)))
        by_cases hg : k < n'
        · obtain ⟨rfl, hag'⟩ := HF'.out (by omega)
          have b2 := HC'.out k hg
          rw [← B1.out.cell (p := ⟨a', k, none⟩) hag'] at b2
          have BFk := BF.out k
          have BGk := BG.out k
          have HE := Lib.hid (add_step (f := f) (g := g) (kk := kk) hlt rfl)
          obtain ⟨x, hx⟩ : ∃ x, f.getD k 0 = x := ⟨_, rfl⟩
          obtain ⟨z, hzz⟩ : ∃ x, g.getD k 0 = x := ⟨_, rfl⟩
          rw [hx, hzz] at HE
          rw [hx] at a2 R1 B1 b2 BFk
          rw [hzz] at b2 BGk
          clear hx hzz
          go_upto_region 8 with fail
          have hsl : ((tabL N fun i => if i < k then f.getD i 0 + kk * g.getD i 0 else 0).set k x).length = N := by rw [List.length_set, tabL_length]
          have hsg : ((tabL N fun i => if i < k then f.getD i 0 + kk * g.getD i 0 else 0).set k x).getD k 0 = x := by rw [tab_set x hlt, tabL_getD hlt, if_pos rfl]
          generalize wr.setCell ⟨w.heap.size, k, none⟩ (.int .i64 x) = W1 at R1 B1 b2 ⊢
          have c4 := int_at R1.out hsl hlt
          rw [hsg] at c4
          have f4 := int_frozen R1.out hsl k
          have w1 : IntKind.i64.wrap (kk * z) = kk * z := IntWalk.i64_in _ (by omega)
          have w2 : IntKind.i64.wrap (x + kk * z) = x + kk * z := IntWalk.i64_in _ (by omega)
          clear c3 f3 a2 hsg
          refine wp_region_still_tail 14 (by kernel_rfl) (by kernel_rfl) ?_
          simp only [List.take_succ_cons, List.take_zero, List.drop_succ_cons, List.drop_zero]
          repeat still_step
          refine wpStill_nil ?_
          change wpList _ _ _ _ _ W1.drew
          have R2 : Hid (IntRow w.heap.size W1.drew _ _) := Lib.hid R1.out
          have B2 := Lib.hid (below_drewN B1.out 1)
          replace c4 : W1.drew.cell? ⟨w.heap.size, k, none⟩ = _ := c4
          replace f4 : W1.drew.frozen? ⟨w.heap.size, k, none⟩ = _ := f4
          change Hid (Below w.heap.size w W1.drew) at B2
          clear R1 B1 b2
          generalize W1.drew = W2 at R2 B2 c4 f4 ⊢
          have R3 := Lib.hid (int_stored R2.out hsl k (x + kk * z))
          rw [List.set_set, HE.out] at R3
          have B3 := Lib.hid (B2.out.setCell (p := ⟨w.heap.size, k, none⟩) (Nat.le_refl _) (.int .i64 (x + kk * z)))
          clear hsl
          go_wp2
          exact ⟨⟨k + 1, by omega, by go_num, R3.out, B3.out⟩, by simp only [intOf]; omega⟩
        · have hgz : g.getD k 0 = 0 := getD_out (by have := HL.out.2; omega)
          have HE := Lib.hid (add_step (f := f) (g := g) (kk := kk) hlt rfl)
          rw [hgz, Int.mul_zero, Int.add_zero] at HE
          rw [HE.out] at R1
          generalize f.getD k 0 = x at *
          clear HE hgz
          go_wp2
          exact ⟨⟨k + 1, by omega, by go_num, R1.out, B1.out⟩, by simp only [intOf]; omega⟩
      · have hg : k < n' := by have := HNm.out; omega
        have hfz : f.getD k 0 = 0 := getD_out (by have := HL.out.1; omega)
        obtain ⟨rfl, hag'⟩ := HF'.out (by omega)
        have b2 := HC'.out k hg
        rw [← HB.out.cell (p := ⟨a', k, none⟩) hag'] at b2
        have BGk := BG.out k
        have HE := Lib.hid (add_step (f := f) (g := g) (kk := kk) hlt rfl)
        rw [hfz, Int.zero_add] at HE
        have R1 := HW
        have B1 := HB
        obtain ⟨z, hzz⟩ : ∃ x, g.getD k 0 = x := ⟨_, rfl⟩
        rw [hzz] at HE b2 BGk
        clear hzz hfz
        go_upto_region 8 with fail
        have hsl : (tabL N fun i => if i < k then f.getD i 0 + kk * g.getD i 0 else 0).length = N := tabL_length _ _
        have c4 := c3
        have f4 := int_frozen R1.out hsl k
        have w1 : IntKind.i64.wrap (kk * z) = kk * z := IntWalk.i64_in _ (by omega)
        clear c3
        refine wp_region_still_tail 14 (by kernel_rfl) (by kernel_rfl) ?_
        simp only [List.take_succ_cons, List.take_zero, List.drop_succ_cons, List.drop_zero]
        repeat still_step
        refine wpStill_nil ?_
        change wpList _ _ _ _ _ wr.drew
        have R2 : Hid (IntRow w.heap.size wr.drew _ _) := Lib.hid R1.out
        have B2 := Lib.hid (below_drewN B1.out 1)
        replace c4 : wr.drew.cell? ⟨w.heap.size, k, none⟩ = _ := c4
        replace f4 : wr.drew.frozen? ⟨w.heap.size, k, none⟩ = _ := f4
        change Hid (Below w.heap.size w wr.drew) at B2
        clear R1 B1 b2
        generalize wr.drew = W2 at R2 B2 c4 f4 ⊢
        have R3 := Lib.hid (int_stored R2.out hsl k (kk * z))
        rw [HE.out] at R3
        have B3 := Lib.hid (B2.out.setCell (p := ⟨w.heap.size, k, none⟩) (Nat.le_refl _) (.int .i64 (kk * z)))
        clear hsl
        go_wp2
        exact ⟨⟨k + 1, by omega, by go_num, R3.out, B3.out⟩, by simp only [intOf]; omega⟩
    · have hkN : (tabL N fun i => if i < k then f.getD i 0 + kk * g.getD i 0 else 0) = addL f g kk := by
        unfold addL
        rw [← HL.out.1, ← HL.out.2, HNm.out]
        exact tabL_ext fun i hi => if_pos (by omega)
      have hr := HW.out
      rw [hkN] at hr
      obtain ⟨o2, c2, e2, HS2⟩ := seen_row hr (by rw [← hkN, tabL_length]; omega)
      have HB2 := HB.out
      have hle : (addL f g kk).length = N := by rw [← hkN, tabL_length]
      rw [hle] at e2 HS2
      injection e2 with e3 _ e4
      subst e3 e4
      clear hkN hr hle
      go_wp2_with (go_at_call 119; refine (specTrim_any HS2).mono ?_; rintro e w3 ⟨v, rfl, hr3, hb3⟩)
      go_ret
      exact ⟨_, rfl, intRow_lower hr3 HB2.size, HB2.trans (hb3.mono HB2.size)⟩
theorem poly_bf {f : List Int} (h : polyB f = true) : ∀ i, -1000000000000000 ≤ f.getD i 0 ∧ f.getD i 0 ≤ 1000000000000000 := fun i => by have := (polyB_of h).2.1 i; omega
theorem addL_length (f g : List Int) (k : Int) : (addL f g k).length = max f.length g.length := tabL_length _ _
def twoP (f g : List Int) : Bool := polyB f && polyB g
theorem trim_trim (l : List Int) : trimL (trimL l) = trimL l := trimL_self (trimL_last l)
theorem res_trim (l : List Int) : resL (trimL l) = resL l ∧ resC (trimL l) = resC l := by simp [resL, resC, trim_trim]
theorem trim_le {l : List Int} {n : Nat} (h : l.length ≤ n) : (trimL l).length ≤ n := by rw [trimL_length]; have := trimN_le l l.length; omega
end Go.Proofs.Ytjmecidbnoimnaa
namespace Go.Proofs.Ytjmecidbnoimnaa
open Go.RowKit
set_option linter.unusedVariables false
set_option linter.unusedSimpArgs false
/-- a coefficient of a product on the way: i rows and k entries of the next one -/
def mulW (f g : List Int) (i k n : Nat) : Int := mulP f g n i + (if i ≤ n ∧ n < i + k then f.getD i 0 * g.getD (n - i) 0 else 0)
theorem mulW_zero (f g : List Int) (i n : Nat) : mulW f g i 0 n = mulP f g n i := by
  unfold mulW; rw [if_neg (by omega), Int.add_zero]
theorem mulW_row {f g : List Int} {i k n : Nat} (h : g.length ≤ k) : mulW f g i k n = mulP f g n (i + 1) := by
  unfold mulW
  show _ = mulP f g n i + (if i ≤ n then f.getD i 0 * g.getD (n - i) 0 else 0)
  congr 1
  by_cases h1 : i ≤ n
  · rw [if_pos h1]
    by_cases h2 : n < i + k
    · rw [if_pos ⟨h1, h2⟩]
    · rw [if_neg (by omega), getD_out (l := g) (by omega), Int.mul_zero]
  · rw [if_neg h1, if_neg (by omega)]
theorem mulW_step {f g : List Int} {i k N m : Nat} {y : Int} (hm : m < N) (hik : i + k = m) (hy : mulP f g m i + f.getD i 0 * g.getD k 0 = y) :
    (tabL N (mulW f g i k)).set m y = tabL N (mulW f g i (k + 1)) := by
  rw [tab_set y hm]
  refine tabL_ext fun j hj => ?_
  by_cases e : j = m
  · rw [if_pos e, ← hy, e]; unfold mulW; rw [if_pos (by omega), show m - i = k by omega]
  · rw [if_neg e]; unfold mulW
    by_cases h2 : i ≤ j ∧ j < i + k
    · rw [if_pos h2, if_pos (by omega)]
    · rw [if_neg h2, if_neg (by omega)]
theorem mulW_at {f g : List Int} {i k m : Nat} (hik : i + k = m) : mulW f g i k m = mulP f g m i := by
  unfold mulW; rw [if_neg (by omega), Int.add_zero]
theorem mul_bd {x y : Int} (hx : -1000000 ≤ x ∧ x ≤ 1000000) (hy : -1000000 ≤ y ∧ y ≤ 1000000) : -1000000000000 ≤ x * y ∧ x * y ≤ 1000000000000 := by
  have p1 : x.natAbs * y.natAbs ≤ 1000000 * 1000000 := Nat.mul_le_mul (by omega) (by omega)
  rw [← Int.natAbs_mul] at p1; omega
theorem mulP_bd {f g : List Int} (hf : ∀ i, -1000000 ≤ f.getD i 0 ∧ f.getD i 0 ≤ 1000000) (hg : ∀ i, -1000000 ≤ g.getD i 0 ∧ g.getD i 0 ≤ 1000000) (n : Nat) : ∀ i : Nat, -(1000000000000 * (i : Int)) ≤ mulP f g n i ∧ mulP f g n i ≤ 1000000000000 * (i : Int)
  | 0 => by simp [mulP]
  | i + 1 => by
    obtain ⟨a, b⟩ := mulP_bd hf hg n i
    have hm := mul_bd (hf i) (hg (n - i))
    unfold mulP
    generalize f.getD i 0 * g.getD (n - i) 0 = t at *
    generalize mulP f g n i = s at *
    push_cast
    split <;> omega
set_option maxRecDepth 20000
set_option maxHeartbeats 2000000 in
theorem l06Mul_any {o o' : Option Addr} {n n' c c' : Nat} {f g : List Int} {w : World} (h : Seen w o n c f) (h' : Seen w o' n' c' g) (hp : polyB f = true) (hq : polyB g = true) :
    Calls Try.prog 106 #[.slice o n c, .slice o' n' c'] w (OwnPost (trimL (mulL f g)) w) := by
  obtain ⟨hl, hn, hno, hnc, a, h1, h2⟩ := h
  obtain ⟨hl', hn', hno', hnc', a', h1', h2'⟩ := h'
  obtain ⟨i0, hi, hz0, hz1, hz2⟩ := info_parts Try.infoInt64
  have HI := Lib.hid hi
  have HZ0 := Lib.hid hz0
  have HZ1 := Lib.hid hz1
  have HZ2 := Lib.hid hz2
  have HF := Lib.hid h1
  have HC := Lib.hid h2
  have HF' := Lib.hid h1'
  have HC' := Lib.hid h2'
  have HL := Lib.hid (And.intro hl hl')
  have h9 : n ≤ 9 := by have := (polyB_of hp).1; omega
  have h9' : n' ≤ 9 := by have := (polyB_of hq).1; omega
  have BF := Lib.hid (polyB_of hp).2.1
  have BG := Lib.hid (polyB_of hq).2.1
  clear hi hz0 hz1 hz2 h1 h2 hl hno hnc h1' h2' hl' hno' hnc' hp hq hn hn'
  by_cases h0 : n = 0
  · have e : trimL (mulL f g) = [] := by
      have : mulL f g = [] := if_pos (.inl (by rw [← HL.out.1]; exact h0))
      rw [this]; rfl
    rw [e]
    subst h0
    have HR := Lib.hid (intRow_made w)
    go_enter Try.func106, Try.ntmps106
    go_wp2
    go_ret
    exact ⟨_, rfl, HR.out, (Below.refl _ _).alloc (Nat.le_refl _) _⟩
  · by_cases h0' : n' = 0
    · have e : trimL (mulL f g) = [] := by
        have : mulL f g = [] := if_pos (.inr (by rw [← HL.out.2]; exact h0'))
        rw [this]; rfl
      rw [e]
      subst h0'
      have hz : ((n : Int) == 0) = false := by simp; omega
      have HR := Lib.hid (intRow_made w)
      go_enter Try.func106, Try.ntmps106
      go_wp2
      go_ret
      exact ⟨_, rfl, HR.out, (Below.refl _ _).alloc (Nat.le_refl _) _⟩
    · obtain ⟨rfl, hag⟩ := HF.out (by omega)
      obtain ⟨rfl, hag'⟩ := HF'.out (by omega)
      have hz : ((n : Int) == 0) = false := by simp; omega
      have hz' : ((n' : Int) == 0) = false := by simp; omega
      obtain ⟨N, hN⟩ : ∃ N, n + n' - 1 = N := ⟨_, rfl⟩
      have hN1 : (n : Int) + (n' : Int) - 1 = (N : Int) := by omega
      have HN := Lib.hid hN
      have hN17 : N ≤ 17 := by omega
      clear hN
      go_enter Try.func106, Try.ntmps106
      go_wp2_with (at_make; refine wpList_make_full _ rfl (.tmp 22) (.tmp 22) 27 rfl w.heap.size 2 i0 (.int .i64 0) 1 Try.underlying27 HI.out HZ0.out HZ1.out .i64 .i64 _ _ N rfl rfl rfl rfl (by rw [HZ2.out]; omega) (by unfold maxLen; omega) (Nat.le_refl _) ?_)
      intro w2 hown hgrow
      have HR := Lib.hid (int_made (by rw [Nat.mul_one]; exact hown))
      have HB2 := Lib.hid ((Below.refl w.heap.size w).grown hgrow (Nat.le_refl _) (fun k h => by cases h))
      clear hown hgrow hN1
      go_wp2
      go_loopw [6] (fun s wr => ∃ i : Nat, i ≤ n ∧ s = .int .i64 i ∧ IntRow w.heap.size wr (.slice (some ⟨w.heap.size, 0, none⟩) N N) (tabL N (mulW f g i 0)) ∧ Below w.heap.size w wr) (fun s _ => n - (intOf s).toNat)
      case atStart => exact ⟨0, Nat.zero_le _, rfl, by rw [tabL_ext (g := fun _ => 0) (fun i _ => mulW_zero f g 0 i)]; exact HR.out, HB2.out⟩
      case round =>
        obtain ⟨i, hi, rfl, hrow, hb⟩ := hrel
        have HW := Lib.hid hrow
        have HB := Lib.hid hb
        clear hrow hb HR HB2
        by_cases hlt : i < n
        · go_wp2
          go_loopw [7] (fun s wr => ∃ k : Nat, k ≤ n' ∧ s = .int .i64 k ∧ IntRow w.heap.size wr (.slice (some ⟨w.heap.size, 0, none⟩) N N) (tabL N (mulW f g i k)) ∧ Below w.heap.size w wr) (fun s _ => n' - (intOf s).toNat)
          case atStart => exact ⟨0, Nat.zero_le _, rfl, HW.out, HB.out⟩
          case round =>
            obtain ⟨k, hk, rfl, hrow, hb⟩ := hrel
            have HW2 := Lib.hid hrow
            have HB2 := Lib.hid hb
            clear hrow hb HW HB
            by_cases hltk : k < n'
            · obtain ⟨m, hm⟩ : ∃ m, i + k = m := ⟨_, rfl⟩
              have hmN : m < N := by have := HN.out; omega
              have hik : (i : Int) + (k : Int) = (m : Int) := by omega
              have hwm : IntKind.i64.wrap (m : Int) = (m : Int) := IntWalk.i64_in _ (by omega)
              have a2 := HC.out i hlt
              rw [← HB2.out.cell (p := ⟨a, i, none⟩) hag] at a2
              have b2 := HC'.out k hltk
              rw [← HB2.out.cell (p := ⟨a', k, none⟩) hag'] at b2
              have hsl : (tabL N (mulW f g i k)).length = N := tabL_length _ _
              have c4 := int_at HW2.out hsl hmN
              rw [tabL_getD hmN, mulW_at hm] at c4
              have f4 := int_frozen HW2.out hsl m
              have HE := Lib.hid (mulW_step (f := f) (g := g) hmN hm rfl)
              have bp := mulP_bd BF.out BG.out m i
              have bt := mul_bd (BF.out i) (BG.out k)
              obtain ⟨x, hx⟩ : ∃ x, f.getD i 0 = x := ⟨_, rfl⟩
              obtain ⟨z, hzz⟩ : ∃ x, g.getD k 0 = x := ⟨_, rfl⟩
              obtain ⟨s, hs⟩ : ∃ x, mulP f g m i = x := ⟨_, rfl⟩
              rw [hx, hzz, hs] at HE
              rw [hx, hzz] at bt
              rw [hx] at a2
              rw [hzz] at b2
              rw [hs] at c4 bp
              have w1 : IntKind.i64.wrap (x * z) = x * z := IntWalk.i64_in _ (by omega)
              have w2 : IntKind.i64.wrap (s + x * z) = s + x * z := IntWalk.i64_in _ (by omega)
              have HM := Lib.hid hm
              clear hx hzz hs bp bt hm
              go_upto_region 10 with fail
              refine wp_region_still_tail 21 (by kernel_rfl) (by kernel_rfl) ?_
              simp only [List.take_succ_cons, List.take_zero, List.drop_succ_cons, List.drop_zero]
              repeat still_step
              refine wpStill_nil ?_
              change wpList _ _ _ _ _ wr.drew
              have R2 : Hid (IntRow w.heap.size wr.drew (.slice (some ⟨w.heap.size, 0, none⟩) N N) (tabL N (mulW f g i k))) := Lib.hid HW2.out
              have B2 := Lib.hid (below_drewN HB2.out 1)
              replace c4 : wr.drew.cell? ⟨w.heap.size, m, none⟩ = _ := c4
              replace f4 : wr.drew.frozen? ⟨w.heap.size, m, none⟩ = _ := f4
              change Hid (Below w.heap.size w wr.drew) at B2
              clear HW2 HB2 a2 b2
              generalize wr.drew = W2 at R2 B2 c4 f4 ⊢
              have R3 := Lib.hid (int_stored R2.out hsl m (s + x * z))
              rw [HE.out] at R3
              have B3 := Lib.hid (B2.out.setCell (p := ⟨w.heap.size, m, none⟩) (Nat.le_refl _) (.int .i64 (s + x * z)))
              clear hsl
              go_wp2
              exact ⟨⟨k + 1, by omega, by go_num, R3.out, B3.out⟩, by simp only [intOf]; omega⟩
            · have hkN : tabL N (mulW f g i k) = tabL N (mulW f g (i + 1) 0) := tabL_ext fun j _ => by rw [mulW_row (by have := HL.out.2; omega), mulW_zero]
              have R1 := Lib.hid (show IntRow w.heap.size wr (.slice (some ⟨w.heap.size, 0, none⟩) N N) (tabL N (mulW f g (i + 1) 0)) by rw [← hkN]; exact HW2.out)
              clear hkN
              go_wp2
              exact ⟨⟨i + 1, by omega, by go_num, R1.out, HB2.out⟩, by simp only [intOf]; omega⟩
        · have hkN : tabL N (mulW f g i 0) = mulL f g := by
            unfold mulL
            have := HL.out.1
            have := HL.out.2
            rw [if_neg (by omega), show f.length + g.length - 1 = N by have := HN.out; omega]
            exact tabL_ext fun j _ => by rw [mulW_zero, show i = f.length by omega]
          have hr := HW.out
          rw [hkN] at hr
          obtain ⟨o2, c2, e2, HS2⟩ := seen_row hr (by rw [← hkN, tabL_length]; omega)
          have HB2 := HB.out
          have hle : (mulL f g).length = N := by rw [← hkN, tabL_length]
          rw [hle] at e2 HS2
          injection e2 with e3 _ e4
          subst e3 e4
          clear hkN hr hle
          go_wp2_with (go_at_call 119; refine (specTrim_any HS2).mono ?_; rintro e w3 ⟨v, rfl, hr3, hb3⟩)
          go_ret
          exact ⟨_, rfl, intRow_lower hr3 HB2.size, HB2.trans (hb3.mono HB2.size)⟩
theorem mulL_le (f g : List Int) : (mulL f g).length ≤ f.length + g.length := by
  unfold mulL; split
  · simp
  · rw [tabL_length]; omega
end Go.Proofs.Ytjmecidbnoimnaa
namespace Go.Proofs.Ytjmecidbnoimnaa
set_option linter.unusedVariables false
set_option maxRecDepth 20000
set_option linter.unusedSimpArgs false
theorem prime_inv {p inv a : Int} (hp : PrimeP p) (hi : p ∣ inv * a - 1) : ¬ p ∣ inv := by
  rintro ⟨c, rfl⟩
  obtain ⟨d, hd⟩ := hi
  have h1 : p * (c * a - d) = 1 := by grind
  have h2 := hp.1
  rcases (by omega : c * a - d ≤ 0 ∨ 1 ≤ c * a - d) with h | h
  · have := Int.mul_le_mul_of_nonneg_left h (show (0 : Int) ≤ p by omega)
    omega
  · have := Int.mul_le_mul_of_nonneg_left h (show (0 : Int) ≤ p by omega)
    omega
/-! division -/
def subX (p : Int) (r : Nat → Int) (g : List Int) (c : Int) (N i j : Nat) : List Int := tabL N fun t => if i ≤ t ∧ t < i + j then (r t - c * g.getD (t - i) 0) % p else r t
theorem subX_zero (p : Int) (r : Nat → Int) (g : List Int) (c : Int) (N i : Nat) : subX p r g c N i 0 = tabL N r := tabL_ext fun t ht => by rw [if_neg (by omega)]
theorem subX_length (p : Int) (r : Nat → Int) (g : List Int) (c : Int) (N i j : Nat) : (subX p r g c N i j).length = N := tabL_length _ _
theorem subX_at {p : Int} {r : Nat → Int} {g : List Int} {c : Int} {N i j t : Nat} (ht : i + j = t) (h9 : t < N) : (subX p r g c N i j).getD t 0 = r t := by
  rw [subX, tabL_getD h9, if_neg (by omega)]
theorem subX_step {p : Int} {r : Nat → Int} {g : List Int} {c : Int} {N i j t : Nat} (ht : i + j = t) (h9 : t < N) : (subX p r g c N i j).set t ((r t - c * g.getD j 0) % p) = subX p r g c N i (j + 1) := by
  unfold subX
  rw [tab_set _ h9]
  refine tabL_ext fun u hu => ?_
  by_cases e : u = t
  · rw [if_pos e, if_pos (by omega), e, show t - i = j by omega]
  · rw [if_neg e]
    by_cases h2 : i ≤ u ∧ u < i + j
    · rw [if_pos h2, if_pos (by omega)]
    · rw [if_neg h2, if_neg (by omega)]
theorem subX_end {p inv : Int} {g : List Int} {r0 : Nat → Int} {N i k : Nat} (h : i + g.length + k = N) : subX p (mdS p inv g r0 N k) g (mdC p inv g r0 N k) N i g.length = tabL N (mdS p inv g r0 N (k + 1)) := by
  unfold subX
  refine tabL_ext fun t ht => ?_
  show _ = if N - g.length - k ≤ t ∧ t < N - g.length - k + g.length then (mdS p inv g r0 N k t - mdC p inv g r0 N k * g.getD (t - (N - g.length - k)) 0) % p else mdS p inv g r0 N k t
  rw [show N - g.length - k = i by omega]
def qX (p inv : Int) (f g : List Int) (q k : Nat) : List Int := tabL q fun j => if f.length < j + g.length + k then mdC p inv g (fun j => f.getD j 0) f.length (f.length - g.length - j) else 0
theorem qX_zero {p inv : Int} {f g : List Int} {q : Nat} (h : q + g.length = f.length + 1) : qX p inv f g q 0 = tabL q fun _ => 0 := tabL_ext fun j hj => by rw [if_neg (by omega)]
theorem qX_length (p inv : Int) (f g : List Int) (q k : Nat) : (qX p inv f g q k).length = q := tabL_length _ _
theorem qX_step {p inv : Int} {f g : List Int} {q k i : Nat} (h : q + g.length = f.length + 1) (hi : i + g.length + k = f.length) : (qX p inv f g q k).set i (mdC p inv g (fun j => f.getD j 0) f.length k) = qX p inv f g q (k + 1) := by
  unfold qX
  rw [tab_set _ (by omega)]
  refine tabL_ext fun t ht => ?_
  by_cases e : t = i
  · rw [if_pos e, if_pos (by omega), e, show f.length - g.length - i = k by omega]
  · rw [if_neg e]
    by_cases h2 : f.length < t + g.length + k
    · rw [if_pos h2, if_pos (by omega)]
    · rw [if_neg h2, if_neg (by omega)]
theorem qX_end {p : Int} {f g : List Int} {q : Nat} (h : q + g.length = f.length + 1) : trimL (qX p (invP p g) f g q q) = quoP p f g := by
  unfold qX quoP mdQ
  rw [show f.length + 1 - g.length = q by omega]
  congr 1
  exact tabL_ext fun t ht => by rw [if_pos (by omega)]
theorem rX_end {p : Int} {f g : List Int} {q N : Nat} (hN : N = f.length) (h : q = f.length + 1 - g.length) : trimL (tabL N (mdS p (invP p g) g (fun j => f.getD j 0) N q)) = remP p f g := by
  subst hN h; rfl
theorem few_quo {p : Int} {f g : List Int} (h : f.length < g.length) : quoP p f g = [] := by
  unfold quoP mdQ; rw [show f.length + 1 - g.length = 0 by omega]; rfl
theorem few_rem {p : Int} {f g : List Int} (h : f.length < g.length) : trimL f = remP p f g := by
  unfold remP mdR
  rw [show f.length + 1 - g.length = 0 by omega]
  congr 1
  refine ext_getD (by rw [tabL_length]) fun i hi => ?_
  rw [tabL_getD hi]; rfl
/-- the quotient has no zero at its end -/
theorem qX_full {p : Int} {f g : List Int} {q : Nat} (hp : PrimeP p) (hf : ModP p f) (hi : p ∣ invP p g * g.getD (g.length - 1) 0 - 1) (hq : q + g.length = f.length + 1) (h0 : 1 ≤ q) (hl : 1 ≤ g.length) : qX p (invP p g) f g q q = quoP p f g := by
  rw [← qX_end hq]
  refine (trimL_self ?_).symm
  unfold lastB
  rw [qX_length]
  have hne : f ≠ [] := fun e => by rw [e] at hq; simp at hq; omega
  have e1 : (qX p (invP p g) f g q q).getD (q - 1) 0 = f.getD (f.length - 1) 0 * invP p g % p := by
    unfold qX
    rw [tabL_getD (by omega), if_pos (by omega), show f.length - g.length - (q - 1) = 0 by omega]; rfl
  rw [e1]
  have h3 : ¬ f.getD (f.length - 1) 0 * invP p g % p = 0 := fun h => by
    rcases hp.2 _ _ (Int.dvd_of_emod_eq_zero h) with h | h
    · exact modP_last hf hne h
    · exact prime_inv hp hi h
  generalize f.getD (f.length - 1) 0 * invP p g % p = x at h3 ⊢
  simp [h3]
/-- made monic by a division -/
theorem mon_quo {p : Int} {f : List Int} (h2 : 2 ≤ p) (h97 : p ≤ 97) (hp : PrimeP p) (hf : ModP p f) (h0 : f.length ≠ 0) : quoP p f [f.getD (f.length - 1) 0] = monP p f := by
  have hne : f ≠ [] := fun e => h0 (by rw [e]; rfl)
  have hl := modP_last hf hne
  have hr := hf.rng (f.length - 1)
  have hm : ModP p [f.getD (f.length - 1) 0] := ⟨fun i => by
    cases i with
    | zero => exact hr
    | succ i => simp; omega, by
      have : ¬ f.getD (f.length - 1) 0 = 0 := fun e => hl (by rw [e]; exact Int.dvd_zero _)
      simpa [lastB] using this⟩
  have hd := divP_is h2 h97 hp hf hm (by simp)
  have hi := invP_dvd h2 h97 hp hf hne
  have hr0 : remP p f [f.getD (f.length - 1) 0] = [] := nil_of (by have h := hd.deg; rw [List.length_singleton] at h; exact Nat.lt_one_iff.1 h)
  rw [hr0] at hd
  unfold monP
  rw [if_neg h0]
  refine modP_eq hd.mq (redL_mod (by omega) _) (cgp_trans ?_ (cgp_symm (redL_cg p _)))
  obtain ⟨k, hk⟩ := hd.eq
  obtain ⟨m, hm2⟩ := hi
  refine ⟨smulL (-1) (addL (smulL m (quoP p f [f.getD (f.length - 1) 0])) (smulL (invP p f) k) 1), fun x => ?_⟩
  have e1 := hk x
  simp only [pval_add, pval_mul, pval_one, pval_nil, pval_smul] at e1 ⊢
  generalize f.getD (f.length - 1) 0 = a at *
  generalize pval (quoP p f [a]) x = Q at *
  generalize pval f x = F at *
  generalize pval k x = K at *
  generalize invP p f = v at *
  have e2 : v * a = 1 + p * m := by omega
  rw [e1]
  grind
/-! products -/
theorem mulW_mod {p : Int} {f g : List Int} {i k n : Nat} (hi : i + k = n) : (mulW f g i k n % p + f.getD i 0 * g.getD k 0) % p = mulW f g i (k + 1) n % p := by
  have e : mulW f g i (k + 1) n = mulW f g i k n + f.getD i 0 * g.getD k 0 := by
    rw [mulW_at hi]
    unfold mulW
    rw [if_pos (by omega), show n - i = k by omega]
  rw [e, Int.emod_add_emod]
def mulY (p : Int) (f g : List Int) (N i k : Nat) : List Int := tabL N fun n => mulW f g i k n % p
theorem mulY_length (p : Int) (f g : List Int) (N i k : Nat) : (mulY p f g N i k).length = N := tabL_length _ _
theorem mulY_start (p : Int) (f g : List Int) (N : Nat) : mulY p f g N 0 0 = tabL N fun _ => 0 := tabL_ext fun n _ => by rw [mulW_zero]; simp [mulP]
theorem mulY_row {p : Int} {f g : List Int} {N i k : Nat} (h : g.length ≤ k) : mulY p f g N i k = mulY p f g N (i + 1) 0 := tabL_ext fun n _ => by rw [mulW_row h, mulW_zero]
theorem mulY_at {p : Int} {f g : List Int} {N i k m : Nat} (hm : m < N) : (mulY p f g N i k).getD m 0 = mulW f g i k m % p := tabL_getD hm
theorem mulY_step {p : Int} {f g : List Int} {N i k m : Nat} (hm : m < N) (hik : i + k = m) : (mulY p f g N i k).set m ((mulW f g i k m % p + f.getD i 0 * g.getD k 0) % p) = mulY p f g N i (k + 1) := by
  rw [mulW_mod hik]
  unfold mulY
  rw [tab_set _ hm]
  refine tabL_ext fun n hn => ?_
  by_cases e : n = m
  · rw [if_pos e, e]
  · rw [if_neg e]
    unfold mulW
    by_cases h2 : i ≤ n ∧ n < i + k
    · rw [if_pos h2, if_pos (by omega)]
    · rw [if_neg h2, if_neg (by omega)]
theorem mulY_end {p : Int} {f g : List Int} {N : Nat} (h : N = f.length + g.length) : trimL (mulY p f g N f.length 0) = prodL p f g := by
  refine last_unique (trimL_last _) (trimL_last _) fun n => ?_
  rw [trimL_getD]
  show _ = (prodL p f g).getD n 0
  rw [prodL, redL_getD, mulL_getD]
  by_cases hn : n < N
  · rw [mulY_at hn, mulW_zero]
  · rw [getD_out (by rw [mulY_length]; omega), ← mulL_getD, getD_out (l := mulL f g) (by have := mulL_le f g; omega)]; simp
theorem redL_trim {p : Int} (l : List Int) : redL p (trimL l) = redL p l :=
  last_unique (trimL_last _) (trimL_last _) fun n => by
    show (redL p (trimL l)).getD n 0 = (redL p l).getD n 0
    rw [redL_getD, redL_getD, trimL_getD]
/-! common divisors -/
theorem gcdL_step {p : Int} {f g : List Int} (h2 : 2 ≤ p) (h97 : p ≤ 97) (hp : PrimeP p) (hf : ModP p f) (hg : ModP p g) (h0 : g.length ≠ 0) : gcdL p f g = gcdL p g (remP p f g) := by
  have hd := divP_is h2 h97 hp hf hg (fun e => h0 (by rw [e]; rfl))
  exact gcd_unique hp (gcdL_is h2 h97 hp hf hg) (gcd_step hd (gcdL_is h2 h97 hp hg hd.mr))
theorem gcdL_end {p : Int} {f g : List Int} (h0 : g.length = 0) : gcdL p f g = monP p f := by
  rw [nil_of h0]; rfl
/-! powers -/
/-- a power of x by f, not necessarily the remainder -/
structure IsPw (p : Int) (f : List Int) (e : Nat) (r : List Int) : Prop where
  mod : ModP p r
  len : r.length ≤ 9
  eq : ∃ q, CgP p (xL e) (addL (mulL f q) r 1)
theorem pw_of {p : Int} {f r : List Int} {e : Nat} (h : IsPow p f e r) (hf : f.length ≤ 9) : IsPw p f e r := ⟨h.mod, by have := h.deg; omega, h.eq⟩
theorem pw_x {p : Int} (hp : 2 ≤ p) (f : List Int) : IsPw p f 1 [0, 1] := by
  refine ⟨⟨fun i => ?_, by simp [lastB]⟩, by simp, [], cgp_val fun x => ?_⟩
  · match i with
    | 0 => exact ⟨by simp, by simp; omega⟩
    | 1 => exact ⟨by simp, by simp; omega⟩
    | i + 2 => simp; omega
  · rw [pval_xL, pval_add, pval_mul, pval_nil, pval_lin, Int.pow_succ, Int.pow_zero]; omega
theorem pw_mul {p : Int} {f r s m q t : List Int} {a b : Nat} (h1 : IsPw p f a r) (h2 : IsPw p f b s) (hm : CgP p m (mulL r s)) (h : IsDiv p m f q t) : IsPow p f (a + b) t := by
  obtain ⟨q1, k1, e1⟩ := h1.eq
  obtain ⟨q2, k2, e2⟩ := h2.eq
  obtain ⟨k3, e3⟩ := hm
  obtain ⟨k4, e4⟩ := h.eq
  refine ⟨h.mr, h.deg, addL (addL (mulL (mulL f q1) q2) (mulL q1 s) 1) (addL (mulL q2 r) q 1) 1, addL (addL (mulL (addL (mulL f q1) r 1) k2) (mulL (addL (mulL f q2) s 1) k1) 1) (addL (smulL p (mulL k1 k2)) (addL k4 k3 (-1)) 1) 1, fun x => ?_⟩
  have f1 := e1 x
  have f2 := e2 x
  have f3 := e3 x
  have f4 := e4 x
  rw [pval_xL] at f1 f2
  simp only [pval_add, pval_mul, pval_smul] at f1 f2 f3 f4 ⊢
  rw [pval_xL, Int.pow_add, f1, f2]
  generalize pval f x = F at *
  generalize pval q1 x = Q1 at *
  generalize pval q2 x = Q2 at *
  generalize pval r x = R at *
  generalize pval s x = S at *
  generalize pval k1 x = K1 at *
  generalize pval k2 x = K2 at *
  generalize pval k3 x = K3 at *
  generalize pval k4 x = K4 at *
  generalize pval q x = Q at *
  generalize pval t x = T at *
  generalize pval m x = M at *
  grind
theorem pw_join {p : Int} (h2 : 2 ≤ p) (h97 : p ≤ 97) (hp : PrimeP p) {f r s : List Int} (hf : ModP p f) (h0 : f ≠ []) {a b : Nat} (hr : IsPw p f a r) (hs : IsPw p f b s) : IsPow p f (a + b) (remP p (prodL p r s) f) :=
  pw_mul hr hs (redL_cg p (mulL r s)) (divP_is h2 h97 hp (redL_mod (by omega) _) hf h0)
/-- what is left of the exponent -/
theorem half_odd {A B E e : Nat} (h : A + B * e = E) (ho : e % 2 = 1) : A + B + (B + B) * (e / 2) = E := by
  have h1 : e = 2 * (e / 2) + 1 := by omega
  have h2 : B * e = B * (2 * (e / 2) + 1) := by rw [← h1]
  rw [Nat.mul_add, Nat.mul_one, ← Nat.mul_assoc, Nat.mul_two] at h2
  omega
theorem half_even {A B E e : Nat} (h : A + B * e = E) (ho : e % 2 = 0) : A + (B + B) * (e / 2) = E := by
  have h1 : e = 2 * (e / 2) := by omega
  have h2 : B * e = B * (2 * (e / 2)) := by rw [← h1]
  rw [← Nat.mul_assoc, Nat.mul_two] at h2
  omega
end Go.Proofs.Ytjmecidbnoimnaa
namespace Go.Proofs.Ytjmecidbnoimnaa
open Go.RowKit
set_option linter.unusedVariables false
set_option maxHeartbeats 400000 in
theorem implModulus_any (p n : Int) (w : World) :
    Calls Try.prog 115 #[.agg #[.int .i64 p, .int .i64 n]] w fun e w' => e = .returned (.int .i64 (ringM p n)) ∧ Below w.heap.size w w' := by
  cases hs : smallB p
  · rw [ringM_small hs]
    go_enter Try.func115, Try.ntmps115
    go_wp2_with (go_at_call 60; refine (basePrime_any _ _).mono ?_; rintro e w' ⟨rfl, rfl⟩)
    go_ret
    exact ⟨rfl, (Below.refl _ _).alloc (Nat.le_refl _) _⟩
  · by_cases hn : n < 1
    · rw [ringM_low hn]
      go_enter Try.func115, Try.ntmps115
      go_wp2_with (go_at_call 60; refine (basePrime_any _ _).mono ?_; rintro e w' ⟨rfl, rfl⟩)
      go_ret
      exact ⟨rfl, (Below.refl _ _).alloc (Nat.le_refl _) _⟩
    · obtain ⟨hp2, hp97⟩ := smallB_bd hs
      have HS := Lib.hid hs
      go_enter Try.func115, Try.ntmps115
      go_wp2_with (go_at_call 60; refine (basePrime_any _ _).mono ?_; rintro e w' ⟨rfl, rfl⟩)
      clear hs
      have hp0 : (p == 0) = false := by simp; omega
      go_loop [3, 15] (fun m i => ∃ M I : Int, m = .int .i64 M ∧ i = .int .i64 I ∧ MRel p I M ∧ I ≤ n) (fun _ i => 40 - (intOf i).toNat)
      case atStart => exact ⟨1, 0, rfl, rfl, mRel_start p, by omega⟩
      case round =>
        obtain ⟨M, I, rfl, rfl, hr, hin⟩ := hrel
        have h1 := mRel_prod hp2 hp97 hr
        have h2 := hr.1
        have h3 := hr.2.1
        have HR := Lib.hid hr
        clear hr
        by_cases hlt : I < n
        · by_cases ho : 1000000000 < M * p
          · have HE := Lib.hid (mRel_over hp2 HR.out ho hlt)
            have hov := (over_iff (m := M) hp2).2 ho
            go_wp2
            go_ret
            exact ⟨ret_int HE.out.symm, (Below.refl _ _).alloc (Nat.le_refl _) _⟩
          · have HE := Lib.hid (mRel_step hp2 hp97 HR.out (by omega))
            have hov : ¬ (1000000000 : Int) / p < M := fun h => ho ((over_iff (m := M) hp2).1 h)
            go_wp2
            exact ⟨⟨_, _, rfl, rfl, HE.out, by omega⟩, by simp only [intOf]; omega⟩
        · have HE := Lib.hid (mRel_end HS.out HR.out (show I = n by omega) (by omega))
          go_wp2
          go_ret
          exact ⟨ret_int HE.out.symm, (Below.refl _ _).alloc (Nat.le_refl _) _⟩
set_option maxHeartbeats 400000 in
theorem l02Modulus_any (p n : Int) (w : World) (hs : smallB p = true) (hn : 1 ≤ n) (hn2 : n ≤ 1000) :
    Calls Try.prog 69 #[.int .i64 p, .int .i64 n] w fun e w' => e = .returned (.int .i64 (ringM p n)) ∧ w = w' := by
  obtain ⟨hp2, hp97⟩ := smallB_bd hs
  have HS := Lib.hid hs
  clear hs
  go_enter Try.func69, Try.ntmps69
  go_wp2
  go_loop [1, 5] (fun i m => ∃ M I : Int, m = .int .i64 M ∧ i = .int .i64 (n - I) ∧ MRel p I M ∧ I ≤ n) (fun i _ => (intOf i).toNat)
  case atStart => exact ⟨1, 0, rfl, by simp, mRel_start p, by omega⟩
  case round =>
    obtain ⟨M, I, rfl, rfl, hr, hin⟩ := hrel
    have h1 := mRel_prod hp2 hp97 hr
    have h2 := hr.1
    have h3 := hr.2.1
    have HR := Lib.hid hr
    clear hr
    by_cases hlt : I < n
    · by_cases ho : 1000000000 < M * p
      · have HE := Lib.hid (mRel_over hp2 HR.out ho hlt)
        go_wp2
        go_ret
        exact ⟨ret_int HE.out.symm, rfl⟩
      · have HE := Lib.hid (mRel_step hp2 hp97 HR.out (by omega))
        go_wp2
        exact ⟨⟨_, _, rfl, by congr 1; omega, HE.out, by omega⟩, by simp only [intOf]; omega⟩
    · have HE := Lib.hid (mRel_end HS.out HR.out (show I = n by omega) (by omega))
      go_wp2
      go_ret
      exact ⟨ret_int HE.out.symm, rfl⟩
end Go.Proofs.Ytjmecidbnoimnaa
namespace Go.Proofs.Ytjmecidbnoimnaa
open Go.RowKit
set_option linter.unusedVariables false
set_option linter.unusedSimpArgs false
set_option maxRecDepth 20000
theorem cofB_cases (x : Int) : cofB x = true ∧ -1000000 ≤ x ∧ x ≤ 1000000 ∨ cofB x = false ∧ (x < -1000000 ∨ 1000000 < x) := inB_cases x _ _
def withB (B : Int) (l : List Int) : Bool := l.all fun x => inB x (-B) B
theorem polyB_eq (l : List Int) : polyB l = (withB 1000000 l && (decide (l.length ≤ 9) && lastB l)) := rfl
def canB (l : List Int) : Bool := decide (l.length ≤ 9) && lastB l
set_option maxHeartbeats 800000 in
theorem canBe_any {o : Option Addr} {n c : Nat} {l : List Int} {w : World} (h : Seen w o n c l) :
    Calls Try.prog 120 #[.slice o n c] w fun e w' => e = .returned (.bool (canB l)) ∧ w = w' := by
  obtain ⟨hl, hn, hno, hnc, g, h1, h2⟩ := h
  clear hno hnc
  have HO := Lib.hid fun h => (h1 h).1
  have HL := Lib.hid hl
  have HC := Lib.hid h2
  clear h1 h2 hl
  by_cases h9 : n ≤ 9
  · by_cases h0 : n = 0
    · have HP := Lib.hid (show canB l = true by simp [canB, lastB, ← HL.out, h0])
      subst h0
      go_enter Try.func120, Try.ntmps120
      go_wp2_with fail
      go_ret
      rw [HP.out]; exact ⟨rfl, rfl⟩
    · have hog := HO.out (by omega)
      subst hog
      have a2 := HC.out (n - 1) (by omega)
      have HP := Lib.hid (show canB l = !(l.getD (n - 1) 0 == 0) by
        rw [HL.out] at h9 h0 ⊢
        simp only [canB, lastB, Bool.true_and, decide_eq_true h9, decide_eq_false h0, Bool.false_or])
      generalize l.getD (n - 1) 0 = x at *
      have h0' : ((n : Int) == 0) = false := by simp; omega
      have hn1 : (n : Int) - 1 = ((n - 1 : Nat) : Int) := by omega
      go_enter Try.func120, Try.ntmps120
      go_wp2_with fail
      go_ret
      rw [HP.out]; exact ⟨rfl, rfl⟩
  · have HP := Lib.hid (show canB l = false by
      have := HL.out
      rw [this] at h9
      simp only [canB, decide_eq_false h9, Bool.false_and])
    go_enter Try.func120, Try.ntmps120
    go_wp2_with fail
    go_ret
    rw [HP.out]; exact ⟨rfl, rfl⟩
theorem polyB_can (l : List Int) : polyB l = (canB l && withB 1000000 l) := by rw [polyB_eq]; unfold canB; exact Bool.and_comm _ _
theorem row_cut {b n c k : Nat} {o : Option Addr} {w : World} {l : List Int} (h : IntRow b w (.slice o n c) l) (hk : k ≤ n) : IntRow b w (.slice o k c) (l.take k) := by
  have hl : l.length = n := by
    obtain ⟨o', c', e⟩ : ∃ o' c', Value.slice o n c = .slice o' l.length c' := by
      rcases row_shape h with ⟨h0, _⟩ | ⟨_, g, c', e, _⟩
      · obtain ⟨_, h2⟩ := h
        rcases h2 with ⟨e, _⟩ | ⟨g, cap, cur, e, _⟩
        · injection e with e1 e2 e3; exact ⟨none, 0, by rw [e1, e2, e3, h0]⟩
        · exact ⟨_, _, e⟩
      · exact ⟨_, _, e⟩
    injection e with _ e2 _; exact e2.symm
  obtain ⟨h1, h2⟩ := h
  refine ⟨by simp, ?_⟩
  have hlt : (l.take k).length = k := by rw [List.length_take]; omega
  rcases h2 with ⟨e, h0⟩ | ⟨g, cap, cur, e, hb, hg, hnc, hm, hs, ht⟩
  · injection e with e1 e2 e3
    exact .inl ⟨by rw [e1, e3, show k = 0 by omega], by rw [hlt]; omega⟩
  · injection e with e1 e2 e3
    refine .inr ⟨g, cap, cur, by rw [e1, e3, hlt], hb, hg, by rw [hlt]; omega, hm, hs, ?_⟩
    rw [hlt, List.map_take, ← ht, List.take_take]
    congr 1; omega
set_option maxHeartbeats 800000 in
theorem trimmed_any {o : Option Addr} {n c : Nat} {l : List Int} {w : World} (h : Seen w o n c l) :
    Calls Try.prog 121 #[.slice o n c] w fun e w' => e = .returned (.slice o (trimN l l.length) c) ∧ w = w' := by
  obtain ⟨hl, hn, hno, hnc, g, h1, h2⟩ := h
  have HO := Lib.hid fun h => (h1 h).1
  have HL := Lib.hid hl
  have HC := Lib.hid h2
  have HNO := Lib.hid hno
  rw [← hl]
  clear h1 h2 hl hno
  go_enter Try.func121, Try.ntmps121
  go_wp2
  go_loop [3] (fun i => ∃ k : Nat, k ≤ n ∧ i = .int .i64 k ∧ trimN l k = trimN l n) (fun i => (intOf i).toNat)
  case atStart => exact ⟨n, Nat.le_refl _, rfl, rfl⟩
  case round =>
    obtain ⟨k, hk, rfl, ht⟩ := hrel
    by_cases h0 : k = 0
    · have HT := Lib.hid (show trimN l n = 0 by rw [← ht, h0]; rfl)
      clear ht
      subst h0
      cases o with
      | none =>
        have := HNO.out rfl
        go_wp2
        go_ret
        rw [HT.out]; exact ⟨rfl, rfl⟩
      | some a =>
        go_wp2
        go_ret
        rw [HT.out]; exact ⟨rfl, rfl⟩
    · have hog := HO.out (by omega)
      subst hog
      have a2 := HC.out (k - 1) (by omega)
      have HX := Lib.hid (show l.getD (k - 1) 0 = 0 → trimN l (k - 1) = trimN l n by intro h; rw [← ht]; rw [show k = k - 1 + 1 by omega]; exact (trimN_zero h).symm)
      have HY := Lib.hid (show l.getD (k - 1) 0 ≠ 0 → trimN l n = k by intro h; rw [← ht]; rw [show k = k - 1 + 1 by omega, trimN_stay h])
      have hk1 : (k : Int) - 1 = ((k - 1 : Nat) : Int) := by omega
      have hkc : k ≤ c := by omega
      generalize l.getD (k - 1) 0 = x at *
      clear ht
      by_cases hx : x = 0
      · have HX' := Lib.hid (HX.out hx)
        have hx' : (x == 0) = true := by simp [hx]
        clear hx
        go_wp2
        exact ⟨⟨k - 1, by omega, by go_num, HX'.out⟩, by simp [intOf]; omega⟩
      · have HY' := Lib.hid (HY.out hx)
        have hx' : (x == 0) = false := by simpa using hx
        clear hx HX HY
        go_wp2
        go_ret
        rw [HY'.out]; exact ⟨rfl, rfl⟩
theorem clone_any {g n c : Nat} {l : List Int} {w : World} (h : Seen w (some ⟨g, 0, none⟩) n c l) :
    Calls Try.prog 157 #[.slice (some ⟨g, 0, none⟩) n c] w (OwnPost l w) := by
  obtain ⟨hl, hn, hno, hnc, g', h1, h2⟩ := h
  obtain ⟨i0, hi, hz0, hz1, hz2⟩ := info_parts Try.infoInt64
  have HI := Lib.hid hi
  have HZ0 := Lib.hid hz0
  have HZ1 := Lib.hid hz1
  have HZ2 := Lib.hid hz2
  clear hi hz0 hz1 hz2
  have hrow := intRow_made w
  have hnil : (binOp .eql 27 (.slice (some ⟨g, 0, none⟩) n c) (.slice none 0 0)).run Try.prog w = .ok (.bool false) w := Lib.run_eql_slice_nil (P := Try.prog) w 27 2 (some ⟨g, 0, none⟩) n c 0 0 Try.underlying27
  by_cases h0 : n = 0
  · subst h0
    have e : l = [] := List.eq_nil_of_length_eq_zero hl.symm
    subst e
    have HR := Lib.hid hrow
    have HB := Lib.hid ((Below.refl w.heap.size w).alloc (Nat.le_refl _) (.cells #[] 2))
    clear hno hrow h1 h2 hl
    go_enter Try.func157, Try.ntmps157
    go_wp2_with (at_builtin; refine wpList_append_fits_any _ rfl (.tmp 5) (.tmp 6) 27 rfl w.heap.size 2 i0 1 Try.underlying27 HI.out HZ1.out w.heap.size 0 0 [] rfl HR.out _ 0 c [] rfl rfl (fun h => by cases h) (fun _ _ j u h => by simp at h) (fun u h => by simp at h) (by omega) ?_)
    intro w1 hown hgrow
    have HO := Lib.hid hown
    have HG := Lib.hid (HB.out.grown hgrow (by simp) (fun k hk => by cases hk; exact Nat.le_refl _))
    clear hown hgrow
    go_wp2
    go_ret
    exact ⟨_, rfl, HO.out, HG.out⟩
  · obtain ⟨hgg, hg⟩ := h1 (by omega)
    have hge : g = g' := by injection hgg with e; injection e
    subst hge
    have hnews : ∀ j u, (l.map (Value.int .i64))[j]? = some u → (w.alloc (.cells #[] 2)).cell? ((⟨g, 0, none⟩ : Addr).add j) = some u := by
      intro j u hj
      have hjl : j < n := by
        have := (List.getElem?_eq_some_iff.1 hj).1
        rw [List.length_map] at this; omega
      have e : (⟨g, 0, none⟩ : Addr).add j = ⟨g, j, none⟩ := by simp [Addr.add]; omega
      rw [e, ((Below.refl w.heap.size w).alloc (Nat.le_refl _) (.cells #[] 2)).cell (p := ⟨g, j, none⟩) hg, h2 j hjl]
      have hj2 : j < l.length := by omega
      simp [hj2] at hj
      rw [← hj]; simp [List.getD, hj2]
    have HN := Lib.hid hnews
    have HL := Lib.hid hl
    have HR := Lib.hid hrow
    have HB := Lib.hid ((Below.refl w.heap.size w).alloc (Nat.le_refl _) (.cells #[] 2))
    clear hnews h1 h2 hl hrow hgg
    go_enter Try.func157, Try.ntmps157
    go_wp2_with (at_builtin; refine wpList_append_own _ rfl (.tmp 5) (.tmp 6) 27 rfl w.heap.size 2 i0 (.int .i64 0) 1 8 Try.underlying27 HI.out HZ0.out HZ1.out HZ2.out rfl (by decide) _ _ _ rfl HR.out ⟨g, 0, none⟩ n c (l.map (Value.int .i64)) rfl (by rw [List.length_map, Nat.mul_one]; exact HL.out.symm) HN.out (oneCell_map l) ?c3 ?c4 ?c5 ?_)
    case c3 => unfold maxLen; simp; omega
    case c4 => simp; omega
    case c5 => first | omega | simp
    intro v' w1 hown hgrow _
    have HO : Hid (IntRow w.heap.size w1 v' l) := Lib.hid (by unfold IntRow; rw [← HL.out]; simpa using hown)
    have HG := Lib.hid (HB.out.grown hgrow (by simp) (fun k hk => by cases hk; exact Nat.le_refl _))
    clear hown hgrow
    go_wp2
    go_ret
    exact ⟨_, rfl, HO.out, HG.out⟩
theorem clone_nil (w : World) : Calls Try.prog 157 #[.slice none 0 0] w fun e w' => e = .returned (.slice none 0 0) ∧ w = w' := by
  have hnil : (binOp .eql 27 (.slice none 0 0) (.slice none 0 0)).run Try.prog w = .ok (.bool true) w := Lib.run_eql_slice_nil (P := Try.prog) w 27 2 none 0 0 0 0 Try.underlying27
  go_enter Try.func157, Try.ntmps157
  go_wp2
  go_ret
  exact ⟨rfl, rfl⟩
theorem clone_odd (a : Addr) (c : Nat) (w : World) : Calls Try.prog 157 #[.slice (some a) 0 c] w (OwnPost [] w) := by
  obtain ⟨i0, hi, hz0, hz1, hz2⟩ := info_parts Try.infoInt64
  have HI := Lib.hid hi
  have HZ1 := Lib.hid hz1
  clear hi hz0 hz1 hz2
  have hnil : (binOp .eql 27 (.slice (some a) 0 c) (.slice none 0 0)).run Try.prog w = .ok (.bool false) w := Lib.run_eql_slice_nil (P := Try.prog) w 27 2 (some a) 0 c 0 0 Try.underlying27
  have HR := Lib.hid (intRow_made w)
  have HB := Lib.hid ((Below.refl w.heap.size w).alloc (Nat.le_refl _) (.cells #[] 2))
  go_enter Try.func157, Try.ntmps157
  go_wp2_with (at_builtin; refine wpList_append_fits_any _ rfl (.tmp 5) (.tmp 6) 27 rfl w.heap.size 2 i0 1 Try.underlying27 HI.out HZ1.out w.heap.size 0 0 [] rfl HR.out _ 0 c [] rfl rfl (fun h => by cases h) (fun _ _ j u h => by simp at h) (fun u h => by simp at h) (by omega) ?_)
  intro w1 hown hgrow
  have HO := Lib.hid hown
  have HG := Lib.hid (HB.out.grown hgrow (by simp) (fun k hk => by cases hk; exact Nat.le_refl _))
  clear hown hgrow
  go_wp2
  go_ret
  exact ⟨_, rfl, HO.out, HG.out⟩
theorem clone8_any {o : Option Addr} {n c : Nat} {l : List Int} {w : World} (h : Seen w o n c l) :
    Calls Try.prog 157 #[.slice o n c] w (OwnPost l w) := by
  have h' := h
  obtain ⟨hl, hn, hno, hnc, g, h1, h2⟩ := h
  by_cases h0 : n = 0
  · have e : l = [] := List.eq_nil_of_length_eq_zero (by omega)
    subst h0 e
    cases o with
    | none =>
      rw [hno rfl]
      exact (clone_nil w).mono fun e w' h => ⟨_, h.1, intRow_nil _ _, h.2 ▸ Below.refl _ _⟩
    | some a => exact clone_odd a c w
  · obtain ⟨rfl, _⟩ := h1 (by omega)
    exact clone_any h'
end Go.Proofs.Ytjmecidbnoimnaa
namespace Go.Proofs.Ytjmecidbnoimnaa
set_option linter.unusedVariables false
set_option maxRecDepth 20000
theorem shiftP_stay (f : List Int) (a : Int) {i k : Nat} (hi : i < k) (hn : i < f.length) : ∀ j, (shiftP f a (k + j)).getD i 0 = (shiftP f a k).getD i 0
  | 0 => rfl
  | j + 1 => by
    show (tabL f.length fun i => if i < k + j then (shiftP f a (k + j)).getD i 0 else evalD (shiftP f a (k + j)) a (f.length - i)).getD i 0 = _
    rw [tabL_getD hn, if_pos (by omega)]
    exact shiftP_stay f a hi hn j
theorem shiftP_final (f : List Int) (a : Int) {i k : Nat} (hi : i < k) (hk : k ≤ f.length) : (shiftP f a k).getD i 0 = (shiftL f a).getD i 0 := by
  have h := shiftP_stay f a hi (by omega) (f.length - k)
  rw [show k + (f.length - k) = f.length by omega] at h
  exact h.symm
theorem back_bd {l : List Int} {a B : Int} {m : Nat} (hB : 1000000 ≤ B) (hl : ∀ i, -B ≤ l.getD i 0 ∧ l.getD i 0 ≤ B) (hm : -1000000 ≤ evalD l a m ∧ evalD l a m ≤ 1000000) :
    ∀ j : Nat, j ≤ m → -(1000000 + (j : Int) * B) ≤ evalD l a (m - j) ∧ evalD l a (m - j) ≤ 1000000 + (j : Int) * B
  | 0, _ => by simpa using hm
  | j + 1, h => by
    obtain ⟨x, y⟩ := back_bd hB hl hm j (by omega)
    have hjB : 0 ≤ (j : Int) * B := Int.mul_nonneg (by omega) (by omega)
    have e : ((j + 1 : Nat) : Int) * B = (j : Int) * B + B := by push_cast; rw [Int.add_mul, Int.one_mul]
    rw [e]
    rw [show m - j = (m - (j + 1)) + 1 by omega, evalD] at x y
    obtain ⟨c, d⟩ := hl (l.length - 1 - (m - (j + 1)))
    by_cases ha : a = 0
    · cases hm2 : m - (j + 1) with
      | zero => simp only [evalD]; omega
      | succ q =>
        obtain ⟨c2, d2⟩ := hl (l.length - 1 - q)
        simp only [evalD, ha, Int.mul_zero, Int.zero_add]; omega
    · generalize evalD l a (m - (j + 1)) = e at *
      generalize l.getD (l.length - 1 - (m - (j + 1))) 0 = z at *
      have p : e.natAbs ≤ (e * a).natAbs := by
        rw [Int.natAbs_mul]
        have := Nat.mul_le_mul_left e.natAbs (show 1 ≤ a.natAbs by omega)
        omega
      generalize e * a = t at *
      generalize (j : Int) * B = s at *
      omega
theorem shiftP_bd {f : List Int} {a : Int} (hf : ∀ i, -1000000 ≤ f.getD i 0 ∧ f.getD i 0 ≤ 1000000) (h9 : f.length ≤ 9) (hs : ∀ i, -1000000 ≤ (shiftL f a).getD i 0 ∧ (shiftL f a).getD i 0 ≤ 1000000) :
    ∀ k, k ≤ f.length → (∀ i, -(1000000 * 9 ^ k) ≤ (shiftP f a k).getD i 0 ∧ (shiftP f a k).getD i 0 ≤ 1000000 * 9 ^ k) ∧
      (k < f.length → ∀ i, k ≤ i → i < f.length → -(1000000 * 9 ^ (k + 1)) ≤ evalD (shiftP f a k) a (f.length - i) ∧ evalD (shiftP f a k) a (f.length - i) ≤ 1000000 * 9 ^ (k + 1)) := by
  have step : ∀ k, k < f.length → (∀ i, -(1000000 * 9 ^ k) ≤ (shiftP f a k).getD i 0 ∧ (shiftP f a k).getD i 0 ≤ 1000000 * 9 ^ k) →
      ∀ i, k ≤ i → i < f.length → -(1000000 * 9 ^ (k + 1)) ≤ evalD (shiftP f a k) a (f.length - i) ∧ evalD (shiftP f a k) a (f.length - i) ≤ 1000000 * 9 ^ (k + 1) := by
    intro k hk hb i hi hn
    have hp : (1 : Int) ≤ 9 ^ k := by have := Int.pow_pos (n := (9 : Int)) (m := k) (by omega); omega
    have he : evalD (shiftP f a k) a (f.length - k) = (shiftL f a).getD k 0 := by
      rw [← shiftP_final f a (Nat.lt_succ_self k) hk]
      show _ = (tabL f.length fun i => if i < k then (shiftP f a k).getD i 0 else evalD (shiftP f a k) a (f.length - i)).getD k 0
      rw [tabL_getD hk, if_neg (Nat.lt_irrefl _)]
    have hm := hs k
    rw [← he] at hm
    have := back_bd (B := 1000000 * 9 ^ k) (by omega) hb hm (i - k) (by omega)
    rw [show f.length - k - (i - k) = f.length - i by omega] at this
    have hq : ((i - k : Nat) : Int) ≤ 8 := by omega
    have h8 := Int.mul_le_mul_of_nonneg_right hq (show (0 : Int) ≤ 1000000 * 9 ^ k by omega)
    rw [Int.pow_succ]
    generalize (9 : Int) ^ k = q at *
    generalize ((i - k : Nat) : Int) * (1000000 * q) = s at *
    omega
  intro k
  induction k with
  | zero => exact fun _ => ⟨fun i => by simpa [shiftP] using hf i, fun h => step 0 h (fun i => by simpa [shiftP] using hf i)⟩
  | succ k ih =>
    intro hk
    obtain ⟨h1, h2⟩ := ih (by omega)
    have key : ∀ i, -(1000000 * 9 ^ (k + 1)) ≤ (shiftP f a (k + 1)).getD i 0 ∧ (shiftP f a (k + 1)).getD i 0 ≤ 1000000 * 9 ^ (k + 1) := by
      intro i
      have hp : (1 : Int) ≤ 9 ^ (k + 1) := by have := Int.pow_pos (n := (9 : Int)) (m := k + 1) (by omega); omega
      by_cases hi : i < f.length
      · show _ ≤ (tabL f.length fun i => if i < k then (shiftP f a k).getD i 0 else evalD (shiftP f a k) a (f.length - i)).getD i 0 ∧ (tabL f.length fun i => if i < k then (shiftP f a k).getD i 0 else evalD (shiftP f a k) a (f.length - i)).getD i 0 ≤ _
        rw [tabL_getD hi]
        split
        · rename_i hik
          rw [shiftP_final f a hik (by omega)]
          have := hs i
          omega
        · exact h2 (by omega) i (by omega) hi
      · rw [getD_out (by rw [shiftP_length]; omega)]; omega
    exact ⟨key, fun h => step (k + 1) h key⟩
theorem pow9_le : ∀ {j : Nat}, j ≤ 9 → (9 : Int) ^ j ≤ 387420489 := by decide
/-- the early end of a shift -/
theorem shift_stop {f : List Int} {a : Int} {k i : Nat} (hp : polyB f = true) (hk : k ≤ i) (hi : i < f.length) (hf : inB (evalD (shiftP f a k) a (f.length - i)) (-1000000000000000) 1000000000000000 = false) :
    resC (shiftL f a) = 3 ∧ resL (shiftL f a) = [] := by
  cases hr : polyB (trimL (shiftL f a))
  · simp [resC, resL, hr]
  · obtain ⟨h9, hb, _⟩ := polyB_of hp
    have hs : ∀ i, -1000000 ≤ (shiftL f a).getD i 0 ∧ (shiftL f a).getD i 0 ≤ 1000000 := fun i => by rw [← trimL_getD]; exact (polyB_of hr).2.1 i
    have h := (shiftP_bd hb h9 hs k (by omega)).2 (by omega) i hk hi
    have h2 := pow9_le (show k + 1 ≤ 9 by omega)
    rw [inB_t (by omega) (by omega)] at hf
    cases hf
end Go.Proofs.Ytjmecidbnoimnaa
namespace Go.Proofs.Ytjmecidbnoimnaa
open Go.RowKit
set_option linter.unusedVariables false
set_option linter.unusedSimpArgs false
/-- the list within pass k, behind q steps -/
def shV (f : List Int) (a : Int) (k q : Nat) : List Int := tabL f.length fun j => if f.length - 1 - q ≤ j ∧ k ≤ j then evalD (shiftP f a k) a (f.length - j) else (shiftP f a k).getD j 0
theorem shV_length (f : List Int) (a : Int) (k q : Nat) : (shV f a k q).length = f.length := tabL_length _ _
theorem shV_zero (f : List Int) (a : Int) (k : Nat) : shV f a k 0 = shiftP f a k := by
  refine ext_getD (by rw [shV_length, shiftP_length]) fun j hj => ?_
  rw [shV_length] at hj
  rw [shV, tabL_getD hj]
  split
  · rw [show f.length - j = 0 + 1 by omega, evalD, show evalD (shiftP f a k) a 0 = 0 from rfl, Int.zero_mul, Int.zero_add, shiftP_length, show f.length - 1 - 0 = j by omega]
  · rfl
theorem shV_end {f : List Int} {a : Int} {k q : Nat} (h : f.length - 1 - k ≤ q) : shV f a k q = shiftP f a (k + 1) := by
  show tabL _ _ = tabL _ _
  refine tabL_ext fun j hj => ?_
  by_cases hk : j < k
  · rw [if_neg (by omega), if_pos hk]
  · rw [if_pos (by omega), if_neg hk]
theorem shV_at {f : List Int} {a : Int} {k q i : Nat} (hi : i + 1 < f.length) (hq : i + q + 2 = f.length) (hk : k ≤ i) :
    (shV f a k q).getD i 0 = (shiftP f a k).getD i 0 ∧ (shV f a k q).getD (i + 1) 0 = evalD (shiftP f a k) a (f.length - (i + 1)) ∧
    evalD (shiftP f a k) a (f.length - i) = (shiftP f a k).getD i 0 + a * evalD (shiftP f a k) a (f.length - (i + 1)) := by
  refine ⟨?_, ?_, ?_⟩
  · rw [shV, tabL_getD (by omega), if_neg (by omega)]
  · rw [shV, tabL_getD hi, if_pos (by omega)]
  · rw [show f.length - i = (f.length - (i + 1)) + 1 by omega, evalD, shiftP_length, show f.length - 1 - (f.length - (i + 1)) = i by omega, Int.mul_comm, Int.add_comm]
theorem shV_step {f : List Int} {a : Int} {k q i : Nat} {y : Int} (hi : i + 1 < f.length) (hq : i + q + 2 = f.length) (hk : k ≤ i) (hy : evalD (shiftP f a k) a (f.length - i) = y) :
    (shV f a k q).set i y = shV f a k (q + 1) := by
  rw [shV, tab_set y (by omega)]
  refine tabL_ext fun j hj => ?_
  by_cases e : j = i
  · rw [if_pos e, if_pos (by omega), e, hy]
  · rw [if_neg e]
    by_cases h2 : f.length - 1 - q ≤ j ∧ k ≤ j
    · rw [if_pos h2, if_pos (by omega)]
    · rw [if_neg h2, if_neg (by omega)]
def shiftC (f : List Int) (a : Int) : Int := if polyB f then (if inB a (-1000) 1000 then resC (shiftL f a) else 2) else 1
def shiftQ (f : List Int) (a : Int) : List Int := if polyB f then (if inB a (-1000) 1000 then resL (shiftL f a) else []) else []
theorem set_bd {l : List Int} {B y : Int} {i : Nat} (h : ∀ j, -B ≤ l.getD j 0 ∧ l.getD j 0 ≤ B) (hy : -B ≤ y ∧ y ≤ B) : ∀ j, -B ≤ (l.set i y).getD j 0 ∧ (l.set i y).getD j 0 ≤ B := by
  intro j
  by_cases e : j = i
  · subst e
    by_cases hj : j < l.length
    · simp [List.getD, hj]; exact hy
    · rw [getD_out (by rw [List.length_set]; omega)]
      have := h j
      rw [getD_out (by omega)] at this; exact this
  · have : (l.set i y).getD j 0 = l.getD j 0 := by simp [List.getD, List.getElem?_set_ne (Ne.symm e)]
    rw [this]; exact h j
set_option maxRecDepth 20000
end Go.Proofs.Ytjmecidbnoimnaa
namespace Go.Proofs.Ytjmecidbnoimnaa
open Go.RowKit
set_option linter.unusedVariables false
set_option maxRecDepth 20000
set_option linter.unusedSimpArgs false
/-- a list of integers that came in -/
def ArgInt (w : World) (o : Option Addr) (l : List Int) : Prop :=
  l.length = 0 ∨ ∃ b off, o = some ⟨b, off, none⟩ ∧ b < w.heap.size ∧ ∀ k, k < l.length → w.cell? ⟨b, off + k, none⟩ = some (.int .i64 (l.getD k 0))
theorem argInt_below {w w' : World} {o : Option Addr} {l : List Int} (h : ArgInt w o l) (hb : Below w.heap.size w w') : ArgInt w' o l := by
  rcases h with h | ⟨b, off, rfl, hlt, hc⟩
  · exact .inl h
  · exact .inr ⟨b, off, rfl, Nat.lt_of_lt_of_le hlt hb.size, fun k hk => by rw [hb.cell (p := ⟨b, off + k, none⟩) hlt]; exact hc k hk⟩
set_option maxRecDepth 100000 in
set_option maxHeartbeats 1600000 in
theorem toInt64S_any (o : Option Addr) (c : Nat) (l : List Int) (w : World) (hn : l.length ≤ 1048576) (ha : ArgInt w o l) :
    Calls Try.prog 28 #[.slice o l.length c] w fun e w' => ∃ v, e = .returned v ∧ IntRow w.heap.size w' v l ∧ Below w.heap.size w w' := by
  obtain ⟨i0, hi, hz0, hz1, hz2⟩ := info_parts Try.infoInt64
  have HI := Lib.hid hi
  have HZ0 := Lib.hid hz0
  have HZ1 := Lib.hid hz1
  have HZ2 := Lib.hid hz2
  have HA := Lib.hid ha
  clear hi hz0 hz1 hz2 ha
  go_enter Try.func28, Try.ntmps28
  go_wp2_with (at_make; refine wpList_make_full _ rfl (.tmp 6) (.tmp 6) 27 rfl w.heap.size 2 i0 (.int .i64 0) 1 Try.underlying27 HI.out HZ0.out HZ1.out .i64 .i64 _ _ l.length rfl rfl rfl rfl ?m1 ?m2 (Nat.le_refl _) ?_)
  case m1 => rw [HZ2.out]; omega
  case m2 => unfold maxLen; omega
  intro w2 hown hgrow
  have HO := Lib.hid hown
  have HB2 := Lib.hid ((Below.refl w.heap.size w).grown hgrow (Nat.le_refl _) (fun k h => by cases h))
  clear hown hgrow
  go_wp2
  go_loopw [4] (fun i wr => ∃ (k : Nat) (xs : List Value), k ≤ l.length ∧ i = .int .i64 k ∧ wr.ownsRow w.heap.size 2 1 (.slice (some ⟨w.heap.size, 0, none⟩) l.length l.length) l.length xs ∧ (∀ j, j < k → xs[j]? = (l.map (Value.int .i64))[j]?) ∧ Below w.heap.size w wr) (fun i _ => l.length - (intOf i).toNat)
  case atStart => exact ⟨0, _, Nat.zero_le _, rfl, HO.out, fun j h => absurd h (by omega), HB2.out⟩
  case round =>
    obtain ⟨k, xs, hk, rfl, hrow, hxs, hb⟩ := hrel
    have HW := Lib.hid hrow
    have HX := Lib.hid hxs
    have HB := Lib.hid hb
    have bs := hb.size
    have HXL := Lib.hid hrow.1
    clear hrow hxs
    by_cases hlt : k < l.length
    · rcases HA.out with hz | ⟨b, off, rfl, hbw, hcell⟩
      · omega
      · have a1 := hcell k hlt
        rw [← hb.cell (by exact hbw)] at a1
        clear hb hcell
        have HP := Lib.hid (show (l.map (Value.int .i64))[k]? = some (.int .i64 (l.getD k 0)) by simp [List.getD, hlt])
        generalize l.getD k 0 = x1 at *
        have S1 := Lib.hid (World.ownsRow.stored HW.out k (.int .i64 x1))
        have c3 := World.ownsRow.cellAt HW.out k (by omega)
        have f3 := World.ownsRow.frozenAt HW.out k
        obtain ⟨u3, hu3⟩ : ∃ u, xs[k]? = some u := ⟨_, List.getElem?_eq_getElem (by have := HXL.out; omega)⟩
        rw [hu3] at c3
        clear hu3
        have HN : Hid (∀ j, j < k + 1 → (xs.set k (.int .i64 x1))[j]? = (l.map (Value.int .i64))[j]?) := by
          intro j hj
          have hl2 := HXL.out
          by_cases e2 : j = k
          · subst e2
            rw [List.getElem?_set_self (by omega)]; exact HP.out.symm
          · rw [List.getElem?_set_ne (by omega)]; exact HX.out j (by omega)
        go_wp2
        exact ⟨⟨k + 1, _, by omega, by go_num, S1.out.1, HN.out, HB.out.setCell (Nat.le_refl _) _⟩, by simp only [intOf]; omega⟩
    · have hkl : k = l.length := by omega
      have HE : Hid (xs = l.map (Value.int .i64)) := by
        show xs = l.map (Value.int .i64)
        apply List.ext_getElem?
        intro j
        by_cases hj : j < k
        · exact HX.out j hj
        · rw [List.getElem?_eq_none (by have := HXL.out; omega), List.getElem?_eq_none (by rw [List.length_map]; omega)]
      clear hkl
      go_wp2
      go_ret
      exact ⟨_, rfl, by have h := HW.out; rw [HE.out] at h; exact h, hb⟩

theorem arg_of_row {a : Option Addr} {len cap : Nat} {z : List Int} {w : World}
    (h : (a = none ∧ len = 0 ∧ cap = 0 ∧ z = []) ∨ ∃ x, a = some x ∧ len ≤ cap ∧ cap ≤ maxLen ∧ z.length = cap ∧ (∀ i, i < z.length → w.cell? (x.add i) = some (.int .i64 (z.getD i 0))) ∧ ∀ n ∈ z, (Lit.int .i64 n).wf = true) :
    ∃ l : List Int, l.length = len ∧ ArgInt w a l := by
  rcases h with ⟨rfl, rfl, rfl, rfl⟩ | ⟨x, rfl, h1, h2, h3, h4, _⟩
  · exact ⟨[], rfl, .inl rfl⟩
  · refine ⟨z.take len, by rw [List.length_take]; omega, ?_⟩
    by_cases h0 : len = 0
    · exact .inl (by rw [List.length_take]; omega)
    · obtain ⟨b, off, spot⟩ := x
      have c0 := h4 0 (by omega)
      have hs : spot = none := by
        cases spot with
        | none => rfl
        | some s =>
          simp only [World.cell?, Addr.add] at c0
          cases hh : w.heap[b]? with
          | none => simp [hh] at c0
          | some o => cases o <;> simp [hh] at c0
      subst hs
      have hlt := World.block_lt_of_cell? _ _ c0
      refine .inr ⟨b, off, rfl, hlt, fun k hk => ?_⟩
      rw [List.length_take] at hk
      have c := h4 k (by omega)
      have e : (⟨b, off, none⟩ : Addr).add k = ⟨b, off + k, none⟩ := by
        by_cases hk0 : k = 0
        · subst hk0; simp [Addr.add]
        · simp [Addr.add, hk0]
      rw [e] at c
      rw [c]
      congr 2
      simp [List.getD, List.getElem?_take, show k < len by omega]
theorem len_of_row {a : Option Addr} {len cap : Nat} {z : List Int} {w : World}
    (h : (a = none ∧ len = 0 ∧ cap = 0 ∧ z = []) ∨ ∃ x, a = some x ∧ len ≤ cap ∧ cap ≤ maxLen ∧ z.length = cap ∧ (∀ i, i < z.length → w.cell? (x.add i) = some (.int .i64 (z.getD i 0))) ∧ ∀ n ∈ z, (Lit.int .i64 n).wf = true) : (len : Int) ≤ 9223372036854775807 := by
  rcases h with ⟨_, rfl, _⟩ | ⟨x, _, h1, h2, _⟩
  · omega
  · unfold maxLen at h2; omega
theorem row_seen {b n c : Nat} {o : Option Addr} {w : World} {l : List Int} (h : IntRow b w (.slice o n c) l) (hl : l.length ≤ 1100000) : Seen w o n c l := by
  obtain ⟨o', c', e, hs⟩ := seen_row h hl
  injection e with e1 e2 e3
  subst e1 e2 e3
  exact hs
/-- two rows: the younger one stays where the elder one is marked -/
theorem row_apart2 {w w' : World} {b1 b2 : Nat} {T : TypeId} {sz : Nat} {v v' : Value} {n n' : Nat} {xs xs' : List Value} {T' : TypeId} {sz' : Nat} {w0 : World}
    (h : w.ownsRow b2 T sz v n xs) (h' : w0.ownsRow b1 T' sz' v' n' xs') (hs : w0.heap.size ≤ b2) (hg : w.grownBy w' v'.ownBlock) : w'.ownsRow b2 T sz v n xs := by
  refine h.kept hg ?_
  cases hv : v.ownBlock with
  | none => exact .inl rfl
  | some k =>
    right
    intro he
    have h1 := h.lt k hv
    have h2 := h'.lt k he.symm
    omega
theorem resL_len (l : List Int) : (resL l).length ≤ 9 := by
  unfold resL
  split
  · rename_i h; exact (polyB_of h).1
  · simp
theorem if_len {b : Bool} {l : List Int} : (if b = true then resL l else []).length ≤ 9 := by
  split
  · exact resL_len l
  · simp
theorem shiftQ_len (l : List Int) (a : Int) : (shiftQ l a).length ≤ 9 := by
  unfold shiftQ
  split
  · split
    · exact resL_len _
    · simp
  · simp
end Go.Proofs.Ytjmecidbnoimnaa
namespace Go.Proofs.Ytjmecidbnoimnaa
open Go.RowKit
set_option linter.unusedVariables false
set_option maxRecDepth 20000
set_option linter.unusedSimpArgs false
theorem ringM_8 {p : Int} (hs : smallB p = true) : ringM p 1 = p := by
  obtain ⟨_, hp⟩ := smallB_bd hs
  have : p ^ (1 : Int).toNat = p := by simp [Int.pow_succ]
  unfold ringM
  rw [this, hs]
  simp [show p ≤ 1000000000 by omega]
theorem remainder8_any (x m : Int) (w : World) (h1 : 2 ≤ m) (h2 : m ≤ 1000000000) :
    Calls Try.prog 158 #[.int .i64 x, .int .i64 m] w fun e w' => e = .returned (.int .i64 (x % m)) ∧ w = w' := by
  have hm : (m == 0) = false := by simp; omega
  have hb := tmod_bd (x := x) (show 0 < m by omega)
  by_cases h : x.tmod m < 0
  · have HE := Lib.hid (rem_neg (by omega) h)
    go_enter Try.func158, Try.ntmps158
    go_wp2
    go_ret
    exact ⟨ret_int HE.out, rfl⟩
  · have HE := Lib.hid (rem_pos (by omega) h)
    go_enter Try.func158, Try.ntmps158
    go_wp2
    go_ret
    exact ⟨ret_int HE.out, rfl⟩
theorem mod8_any (x m : Int) (w : World) (h1 : 2 ≤ m) (h2 : m ≤ 1000000000) :
    Calls Try.prog 98 #[.int .i64 x, .int .i64 m] w fun e w' => e = .returned (.int .i64 (x % m)) ∧ w = w' := by
  have hm : (m == 0) = false := by simp; omega
  have hb := tmod_bd (x := x) (show 0 < m by omega)
  have HE := Lib.hid (mod_twice2 (x := x) (show 0 < m by omega))
  go_enter Try.func98, Try.ntmps98
  go_wp2
  go_ret
  exact ⟨ret_int HE.out, rfl⟩
theorem inverse8_any (a m : Int) (w : World) (h1 : 0 ≤ a) (h2 : a < m) (hm1 : 2 ≤ m) (hm2 : m ≤ 1000000000) :
    Calls Try.prog 156 #[.int .i64 a, .int .i64 m] w fun e w' => e = .returned (.int .i64 (bezX a m % m)) ∧ w = w' := by
  have hva : valueB a = true := valueB_t (by omega) (by omega)
  have hvm : valueB m = true := valueB_t (by omega) (by omega)
  go_enter Try.func156, Try.ntmps156
  go_wp2_with (first | (go_at_call 172; refine (implBez_val _ _ _ hva hvm).mono ?_; rintro e wn ⟨rfl, rfl⟩) | (go_at_call 158; refine (remainder8_any _ _ _ hm1 hm2).mono ?_; rintro e wn ⟨rfl, rfl⟩))
  go_ret
  exact ⟨rfl, rfl⟩
theorem l02Inv8_any (a m : Int) (w : World) (h1 : 0 ≤ a) (h2 : a < m) (hm1 : 2 ≤ m) (hm2 : m ≤ 1000000000) :
    Calls Try.prog 134 #[.int .i64 a, .int .i64 m] w fun e w' => e = .returned (.int .i64 (bezX a m % m)) ∧ w = w' := by
  have hv1 : -1000000000000 ≤ a := by omega
  have hv2 : a ≤ 1000000000000 := by omega
  have hv3 : -1000000000000 ≤ m := by omega
  have hv4 : m ≤ 1000000000000 := by omega
  go_enter Try.func134, Try.ntmps134
  go_wp2_with (first | (go_at_call 147; refine (l01Bez_any _ _ _ hv1 hv2 hv3 hv4).mono ?_; rintro e wn ⟨rfl, rfl⟩) | (go_at_call 98; refine (mod8_any _ _ _ hm1 hm2).mono ?_; rintro e wn ⟨rfl, rfl⟩))
  go_ret
  exact ⟨rfl, rfl⟩
/-- the ring by p: its two numbers -/
abbrev R1 (p : Int) : Value := .agg #[.int .i64 p, .int .i64 1]
theorem modulus8_any (p : Int) (hs : smallB p = true) (w : World) :
    Calls Try.prog 115 #[R1 p] w fun e w' => e = .returned (.int .i64 p) ∧ Below w.heap.size w w' := by
  have h := implModulus_any p 1 w
  rw [ringM_8 hs] at h
  exact h
theorem ringBy_any (p : Int) (w : World) :
    Calls Try.prog 80 #[.int .i64 p] w fun e w' => e = .returned (R1 p) ∧ Below w.heap.size w w' := by
  have hb : Below w.heap.size w (w.alloc (.cells #[.int .i64 p, .int .i64 1] 85)) := (Below.refl _ _).alloc (Nat.le_refl _) _
  go_enter Try.func80, Try.ntmps80
  go_wp2
  exact bodyPost_ret (v := R1 p) (by simp [results, Try.results80, go_sem]) rfl ⟨rfl, hb⟩
/-! lists -/
/-- a list that lies in a row from some place on -/
def SeenD (w : World) (o : Option Addr) (n c : Nat) (l : List Int) : Prop :=
  n = l.length ∧ n ≤ 1100000 ∧ (o = none → c = 0) ∧ n ≤ c ∧ ∃ g d, (0 < n → o = some ⟨g, d, none⟩ ∧ g < w.heap.size) ∧ ∀ k, k < n → w.cell? ⟨g, d + k, none⟩ = some (.int .i64 (l.getD k 0))
theorem seen_d {w : World} {o : Option Addr} {n c : Nat} {l : List Int} (h : Seen w o n c l) : SeenD w o n c l := by
  obtain ⟨hl, hn, ho, hnc, g, h1, h2⟩ := h
  exact ⟨hl, hn, ho, hnc, g, 0, h1, fun k hk => by rw [Nat.zero_add]; exact h2 k hk⟩
theorem seenD_below {w w' : World} {o : Option Addr} {n c : Nat} {l : List Int} (h : SeenD w o n c l) (hb : Below w.heap.size w w') : SeenD w' o n c l := by
  obtain ⟨hl, hn, ho, hnc, g, d, h1, h2⟩ := h
  refine ⟨hl, hn, ho, hnc, g, d, fun h0 => ⟨(h1 h0).1, by have := (h1 h0).2; have := hb.size; omega⟩, fun i hi => ?_⟩
  rw [hb.cell (p := ⟨g, d + i, none⟩) (h1 (by omega)).2]; exact h2 i hi
end Go.Proofs.Ytjmecidbnoimnaa
namespace Go.Proofs.Ytjmecidbnoimnaa
open Go.RowKit
set_option linter.unusedVariables false
set_option linter.unusedSimpArgs false
set_option maxRecDepth 20000
def resB (p : Int) (f : List Int) : Bool := f.all fun x => inB x 0 (p - 1)
theorem modB_eq (p : Int) (f : List Int) : modB p f = (smallB p && (decide (f.length ≤ 9) && (resB p f && lastB f))) := rfl
set_option maxHeartbeats 1000000 in
theorem specIsMod_any (p : Int) {o : Option Addr} {n c : Nat} {f : List Int} {w : World} (h : Seen w o n c f) :
    Calls Try.prog 77 #[.int .i64 p, .slice o n c] w fun e w' => e = .returned (.bool (modB p f)) ∧ w = w' := by
  obtain ⟨hl, hn, hno, hnc, g, h1, h2⟩ := h
  clear hno hnc
  have HO := Lib.hid fun h => (h1 h).1
  have HL := Lib.hid hl
  have HC := Lib.hid h2
  clear h1 h2 hl
  cases hs : smallB p
  · have HP := Lib.hid (show modB p f = false by rw [modB_eq, hs, Bool.false_and])
    go_enter Try.func77, Try.ntmps77
    go_wp2_with fail
    refine (l01Small_any p w).mono ?_
    rw [hs]
    rintro e w2 ⟨rfl, rfl⟩
    go_wp2_with fail
    go_ret
    rw [HP.out]; exact ⟨rfl, rfl⟩
  · by_cases h9 : n ≤ 9
    · obtain ⟨p2, p97⟩ := smallB_bd hs
      have wp1 : IntKind.i64.wrap (p - 1) = p - 1 := IntWalk.i64_in _ (by omega)
      go_enter Try.func77, Try.ntmps77
      go_wp2_with fail
      refine (l01Small_any p w).mono ?_
      rw [hs]
      rintro e w2 ⟨rfl, rfl⟩
      go_wp2_with fail
      go_loop [5] (fun i => ∃ k : Nat, k ≤ n ∧ i = .int .i64 k ∧ resB p (f.take k) = true) (fun i => n - (intOf i).toNat)
      case atStart => exact ⟨0, Nat.zero_le _, rfl, by simp [resB]⟩
      case round =>
        obtain ⟨k, hk, rfl, hall⟩ := hrel
        by_cases hlt : k < n
        · have hkl : k < f.length := by have := HL.out; omega
          have hog := HO.out (by omega)
          subst hog
          have a2 := HC.out k hlt
          have HA := Lib.hid (all_take6 (f := fun x => inB x 0 (p - 1)) hkl)
          cases hc : inB (f.getD k 0) 0 (p - 1)
          · have HP := Lib.hid (show modB p f = false by rw [modB_eq, show resB p f = false from all_false hkl hc]; simp)
            generalize f.getD k 0 = x at *
            clear hkl hall
            go_wp2_with fail
            refine (in_any x 0 (p - 1) w).mono ?_
            rw [hc]
            rintro e w2 ⟨rfl, rfl⟩
            go_wp2_with fail
            go_ret
            rw [HP.out]; exact ⟨rfl, rfl⟩
          · have HE := Lib.hid (show resB p (f.take (k + 1)) = true by unfold resB at hall ⊢; rw [HA.out, hall]; simpa using hc)
            generalize f.getD k 0 = x at *
            clear hkl hall
            go_wp2_with fail
            refine (in_any x 0 (p - 1) w).mono ?_
            rw [hc]
            rintro e w2 ⟨rfl, rfl⟩
            go_wp2_with fail
            exact ⟨⟨k + 1, by omega, by go_num, HE.out⟩, by simp [intOf]; omega⟩
        · have hkn : k = n := by omega
          rw [hkn, HL.out, List.take_of_length_le (Nat.le_refl _)] at hall
          clear hlt
          by_cases h0 : n = 0
          · have HP := Lib.hid (show modB p f = true by
              have := HL.out
              rw [modB_eq, hs, hall, show decide (f.length ≤ 9) = true by simp; omega]
              simp [lastB, ← this, h0])
            clear hall
            subst h0
            go_wp2_with fail
            go_ret
            rw [HP.out]; exact ⟨rfl, rfl⟩
          · have hog := HO.out (by omega)
            subst hog
            have a2 := HC.out (n - 1) (by omega)
            have HP := Lib.hid (show modB p f = !(f.getD (n - 1) 0 == 0) by
              have := HL.out
              rw [modB_eq, hs, hall, show decide (f.length ≤ 9) = true by simp; omega]
              rw [this] at h0 ⊢
              simp only [lastB, Bool.true_and, decide_eq_false h0, Bool.false_or])
            generalize f.getD (n - 1) 0 = x at *
            have h0' : ((n : Int) == 0) = false := by simp; omega
            have hn1 : (n : Int) - 1 = ((n - 1 : Nat) : Int) := by omega
            clear hall
            go_wp2_with fail
            go_ret
            rw [HP.out]; exact ⟨rfl, rfl⟩
    · have h9' : (9 : Int) < (n : Int) := by omega
      have HP := Lib.hid (show modB p f = false by
        have := HL.out
        rw [this] at h9
        rw [modB_eq, decide_eq_false h9]; simp)
      go_enter Try.func77, Try.ntmps77
      go_wp2_with fail
      refine (l01Small_any p w).mono ?_
      rw [hs]
      rintro e w2 ⟨rfl, rfl⟩
      go_wp2_with fail
      go_ret
      rw [HP.out]; exact ⟨rfl, rfl⟩
set_option maxHeartbeats 1000000 in
theorem l08Reduce_any (p : Int) (p2 : 2 ≤ p) (p97 : p ≤ 97) {o : Option Addr} {n c : Nat} {l : List Int} {w : World} (h : Seen w o n c l) (hn9 : n ≤ 1000) :
    Calls Try.prog 105 #[.int .i64 p, .slice o n c] w (OwnPost (redL p l) w) := by
  obtain ⟨hl, hn, hno, hnc, g, h1, h2⟩ := h
  obtain ⟨i0, hi, hz0, hz1, hz2⟩ := info_parts Try.infoInt64
  have HI := Lib.hid hi
  have HZ0 := Lib.hid hz0
  have HZ1 := Lib.hid hz1
  have HZ2 := Lib.hid hz2
  have HO := Lib.hid fun h => (h1 h).1
  have HG := Lib.hid fun h => (h1 h).2
  have HL := Lib.hid hl
  have HC := Lib.hid h2
  clear hi hz0 hz1 hz2 h1 h2 hl hno hnc
  go_enter Try.func105, Try.ntmps105
  go_wp2_with fail
  go_loopw [5, 6] (fun v d wr => ∃ k : Nat, d = .int .i64 k ∧ k ≤ n ∧ IntRow w.heap.size wr v (tabL k fun i => l.getD i 0 % p) ∧ Below w.heap.size w wr) (fun _ d _ => n - (intOf d).toNat)
  case atStart => exact ⟨0, rfl, Nat.zero_le _, intRow_made _, (Below.refl _ _).alloc (Nat.le_refl _) _⟩
  case round =>
    obtain ⟨k, rfl, hk, hrow, hb⟩ := hrel
    have bl : (tabL k fun i => l.getD i 0 % p).length ≤ 1000000 := by rw [tabL_length]; omega
    have bs := hb.size
    have HW := Lib.hid hrow
    have HB := Lib.hid hb
    clear hrow hb
    by_cases hlt : k < n
    · have hog := HO.out (by omega)
      subst hog
      have a2 := HC.out k hlt
      rw [← HB.out.cell (p := ⟨g, k, none⟩) (HG.out (by omega))] at a2
      have HS := Lib.hid (show (tabL (k + 1) fun i => l.getD i 0 % p) = (tabL k fun i => l.getD i 0 % p) ++ [l.getD k 0 % p] from tabL_succ _ _)
      generalize l.getD k 0 = z at *
      generalize (tabL k fun i => l.getD i 0 % p) = acc at *
      go_wp2_with fail
      refine (mod8_any z p wr p2 (by omega)).mono ?_
      rintro e w2 ⟨rfl, rfl⟩
      go_wp2_with (at_builtin; refine wpList_append_own _ rfl (.tmp 14) (.tmp 21) 27 rfl w.heap.size 2 i0 (.int .i64 0) 1 8 Try.underlying27 HI.out HZ0.out HZ1.out HZ2.out rfl (by decide) _ _ _ rfl (HW.out.alloc _) ⟨wr.heap.size, 0, none⟩ 1 1 [.int .i64 (z % p)] rfl rfl ?c1 ?c2 ?c3 ?c4 ?c5 ?_)
      try (case c1 => first | exact news_one _ _ _ | simp [Addr.add])
      try (case c2 => first | exact one_one _ | rfl)
      case c3 => unfold maxLen; omega
      case c4 => omega
      case c5 => first | omega | (simp; omega)
      intro v' w1 hown hgrow _
      have HO2 := Lib.hid (intRow_snoc hown)
      have HG2 := Lib.hid (below_appendI HB.out HW.out hgrow)
      clear hown hgrow
      go_wp2_with fail
      go_roundw
      case rel => exact ⟨k + 1, by first | rfl | go_num, by omega, by rw [HS.out]; exact HO2.out, HG2.out⟩
      case measure => simp [intOf]; omega
    · have hkn : k = l.length := by have := HL.out; omega
      have HT := Lib.hid (show trimL (tabL k fun i => l.getD i 0 % p) = redL p l by rw [hkn]; rfl)
      obtain ⟨o2, c2, rfl, HS2⟩ := seen_row HW.out (by omega)
      have hsz : HS2 = HS2 := rfl
      generalize (tabL k fun i => l.getD i 0 % p) = acc at *
      clear hkn hsz
      go_wp2_with fail
      refine (specTrim_any HS2).mono ?_
      rintro e w2 ⟨v, rfl, hr, hb⟩
      have HR := Lib.hid (intRow_lower hr HB.out.size)
      have HB2 := Lib.hid (HB.out.trans (hb.mono HB.out.size))
      clear hr hb
      go_wp2_with fail
      go_ret
      rw [← HT.out]
      exact ⟨_, rfl, HR.out, HB2.out⟩
def rdC (p : Int) (f : List Int) : Int := if smallB p && polyB f then 0 else 1
def rdQ (p : Int) (f : List Int) : List Int := if smallB p && polyB f then redL p f else []
theorem prodL_le (p : Int) (f g : List Int) : (prodL p f g).length ≤ f.length + g.length := by have := prodL_len p f g; omega
theorem l08Mul_any (p : Int) (p2 : 2 ≤ p) (p97 : p ≤ 97) {o o' : Option Addr} {n n' c c' : Nat} {f g : List Int} {w : World} (h : Seen w o n c f) (h' : Seen w o' n' c' g) (hp : polyB f = true) (hq : polyB g = true) :
    Calls Try.prog 78 #[.int .i64 p, .slice o n c, .slice o' n' c'] w (OwnPost (prodL p f g) w) := by
  have HS := Lib.hid h
  have HS' := Lib.hid h'
  have hm : (trimL (mulL f g)).length ≤ 18 := by
    have h1 := mulL_le f g
    have h2 := (polyB_of hp).1
    have h3 := (polyB_of hq).1
    exact trim_le (by omega)
  have HE := Lib.hid (show redL p (trimL (mulL f g)) = prodL p f g from redL_trim _)
  clear h h'
  go_enter Try.func78, Try.ntmps78
  go_wp2_with fail
  refine (l06Mul_any HS.out HS'.out hp hq).mono ?_
  rintro e w2 ⟨v, rfl, hr, hb⟩
  obtain ⟨o2, c2, rfl, HS2⟩ := seen_row hr (by omega)
  have HB := Lib.hid hb
  clear hr hb
  go_wp2_with fail
  refine (l08Reduce_any p p2 p97 HS2 (by omega)).mono ?_
  rw [HE.out]
  rintro e w3 ⟨v, rfl, hr3, hb3⟩
  have HR := Lib.hid (intRow_lower hr3 HB.out.size)
  have HB2 := Lib.hid (HB.out.trans (hb3.mono HB.out.size))
  clear hr3 hb3
  go_wp2_with fail
  go_ret
  exact ⟨_, rfl, HR.out, HB2.out⟩
def twoM (p : Int) (f g : List Int) : Bool := modB p f && modB p g
def mmC (p : Int) (f g : List Int) : Int := if twoM p f g then (if (prodL p f g).length ≤ 9 then 0 else 3) else 1
def mmQ (p : Int) (f g : List Int) : List Int := if mmC p f g = 0 then prodL p f g else []
theorem twoM_of {p : Int} {f g : List Int} (h : twoM p f g = true) : modB p f = true ∧ modB p g = true := by
  simpa [twoM] using h
theorem modB_poly {p : Int} {f : List Int} (h : modB p f = true) : polyB f = true := mod_poly (modB_of h).top (modB_of h).len (modB_of h).mod
theorem modB_small {p : Int} {f : List Int} (h : modB p f = true) : smallB p = true := by simp only [modB, Bool.and_eq_true] at h; exact h.1
theorem mmC_none {p : Int} {f g : List Int} (h : twoM p f g = false) : mmC p f g = 1 ∧ mmQ p f g = [] := by
  have e : mmC p f g = 1 := by simp [mmC, h]
  exact ⟨e, by simp [mmQ, e]⟩
theorem mmC_long {p : Int} {f g : List Int} (h : twoM p f g = true) (hl : ¬ (prodL p f g).length ≤ 9) : mmC p f g = 3 ∧ mmQ p f g = [] := by
  have e : mmC p f g = 3 := by simp [mmC, h, hl]
  exact ⟨e, by simp [mmQ, e]⟩
theorem mmC_fit {p : Int} {f g : List Int} (h : twoM p f g = true) (hl : (prodL p f g).length ≤ 9) : mmC p f g = 0 ∧ mmQ p f g = prodL p f g := by
  have e : mmC p f g = 0 := by simp [mmC, h, hl]
  exact ⟨e, by simp [mmQ, e]⟩
end Go.Proofs.Ytjmecidbnoimnaa
namespace Go.Proofs.Ytjmecidbnoimnaa
open Go.RowKit
set_option linter.unusedVariables false
structure SrcAt (w : World) (o : Option Addr) (len cap p : Nat) (t : Nat) (s : Int) : Prop where
  c0 : w.cell? ⟨p, 0, none⟩ = some (.slice o len cap)
  c1 : w.cell? ⟨p, 1, none⟩ = some (.int .i64 t)
  c2 : w.cell? ⟨p, 2, none⟩ = some (.int .i64 s)
  fz : ∀ i, w.frozen? ⟨p, i, none⟩ = false
  ht : t ≤ len
  hl : len ≤ 4096
  s0 : 0 ≤ s
  s1 : s < 2147483647
  code : len = 0 ∨ ∃ b off, o = some ⟨b, off, none⟩ ∧ b < p ∧ ∀ i, i < len → ∃ z : Int, w.cell? ⟨b, off + i, none⟩ = some (.int .u8 z) ∧ 0 ≤ z ∧ z ≤ 255
theorem set_other {w : World} {b b' i j : Nat} {v : Value} (h : b ≠ b' ∨ i ≠ j) : (w.setCell ⟨b, i, none⟩ v).cell? ⟨b', j, none⟩ = w.cell? ⟨b', j, none⟩ :=
  World.cell?_setCell_other _ _ _ _ (by
    intro e
    have := (Addr.mk.injEq _ _ _ _ _ _).mp e
    rcases h with h | h
    · exact h this.1
    · exact h this.2.1)
theorem srcAt_seed {w : World} {o : Option Addr} {len cap p t : Nat} {s s' : Int} (h : SrcAt w o len cap p t s) (h0 : 0 ≤ s') (h1 : s' < 2147483647) :
    SrcAt (w.setCell ⟨p, 2, none⟩ (.int .i64 s')) o len cap p t s' := by
  refine ⟨?_, ?_, World.cell?_setCell_same _ _ _ h.c2, fun i => by rw [World.frozen?_setCell]; exact h.fz i, h.ht, h.hl, h0, h1, ?_⟩
  · rw [set_other (.inr (by decide))]; exact h.c0
  · rw [set_other (.inr (by decide))]; exact h.c1
  · rcases h.code with hz | ⟨b, off, ho, hb, hc⟩
    · exact .inl hz
    · refine .inr ⟨b, off, ho, hb, fun i hi => ?_⟩
      rw [set_other (.inl (by omega))]; exact hc i hi
theorem srcAt_at {w : World} {o : Option Addr} {len cap p t t' : Nat} {s : Int} (h : SrcAt w o len cap p t s) (ht : t' ≤ len) :
    SrcAt (w.setCell ⟨p, 1, none⟩ (.int .i64 t')) o len cap p t' s := by
  refine ⟨?_, World.cell?_setCell_same _ _ _ h.c1, ?_, fun i => by rw [World.frozen?_setCell]; exact h.fz i, ht, h.hl, h.s0, h.s1, ?_⟩
  · rw [set_other (.inr (by decide))]; exact h.c0
  · rw [set_other (.inr (by decide))]; exact h.c2
  · rcases h.code with hz | ⟨b, off, ho, hb, hc⟩
    · exact .inl hz
    · refine .inr ⟨b, off, ho, hb, fun i hi => ?_⟩
      rw [set_other (.inl (by omega))]; exact hc i hi
theorem srcAt_drewN {w : World} {o : Option Addr} {len cap p t : Nat} {s : Int} (h : SrcAt w o len cap p t s) (n : Nat) : SrcAt (w.drewN n) o len cap p t s :=
  ⟨h.c0, h.c1, h.c2, h.fz, h.ht, h.hl, h.s0, h.s1, h.code⟩
theorem srcAt_below {w w' : World} {B : Nat} {o : Option Addr} {len cap p t : Nat} {s : Int} (h : SrcAt w o len cap p t s) (hb : Below B w w') (hp : p < B) : SrcAt w' o len cap p t s := by
  refine ⟨?_, ?_, ?_, fun i => ?_, h.ht, h.hl, h.s0, h.s1, ?_⟩
  · rw [hb.cell (by exact hp)]; exact h.c0
  · rw [hb.cell (by exact hp)]; exact h.c1
  · rw [hb.cell (by exact hp)]; exact h.c2
  · rw [hb.frozen (by exact hp)]; exact h.fz i
  · rcases h.code with hz | ⟨b, off, ho, hbp, hc⟩
    · exact .inl hz
    · refine .inr ⟨b, off, ho, hbp, fun i hi => ?_⟩
      rw [hb.cell (by show b < B; omega)]; exact hc i hi
/-- the source of draws, wherever it stands by now -/
def Src (w : World) (o : Option Addr) (len cap p : Nat) : Prop := ∃ t s, SrcAt w o len cap p t s
theorem src_below {w w' : World} {B : Nat} {o : Option Addr} {len cap p : Nat} (h : Src w o len cap p) (hb : Below B w w') (hp : p < B) : Src w' o len cap p := by
  obtain ⟨t, s, h⟩ := h; exact ⟨t, s, srcAt_below h hb hp⟩
theorem src_drewN {w : World} {o : Option Addr} {len cap p : Nat} (h : Src w o len cap p) (n : Nat) : Src (w.drewN n) o len cap p := by
  obtain ⟨t, s, h⟩ := h; exact ⟨t, s, srcAt_drewN h n⟩
theorem src_alloc {w : World} {o : Option Addr} {len cap p : Nat} (h : Src w o len cap p) (ob : Obj) : Src (w.alloc ob) o len cap p := by
  have hp : p < w.heap.size := by obtain ⟨t, s, h⟩ := h; exact World.block_lt_of_cell? w _ h.c0
  exact src_below h ((Below.refl _ _).alloc (Nat.le_refl _) ob) hp
/-- what a draw below n answers -/
def NextPost (n : Int) (o : Option Addr) (len cap p : Nat) (w : World) (e : Ending) (w' : World) : Prop :=
  ∃ r : Int, e = .returned (.int .i64 r) ∧ 0 ≤ r ∧ (r < n ∨ r = 0) ∧ Src w' o len cap p ∧ w.grownBy w' (some p) ∧ w'.heap.size = w.heap.size
end Go.Proofs.Ytjmecidbnoimnaa
namespace Go.Proofs.Ytjmecidbnoimnaa
open Go.RowKit
set_option linter.unusedVariables false
theorem next_small (n : Int) (v : Value) (w : World) (h : n ≤ 1) :
    Calls Try.prog 50 #[v, .int .i64 n] w fun e w' => e = .returned (.int .i64 0) ∧ w = w' := by
  go_enter Try.func50, Try.ntmps50
  go_wp2
  go_ret
  exact ⟨rfl, rfl⟩
theorem nextPost_mk {n : Int} {o : Option Addr} {len cap p : Nat} {w w' : World} {x : Int} (h : 2 ≤ n) (hx : 0 ≤ x) (hs : Src w' o len cap p) (hg : w.grownBy w' (some p)) (hz : w'.heap.size = w.heap.size) {v : Value} (hv : v = .int .i64 (x % n)) :
    NextPost n o len cap p w (.returned v) w' :=
  ⟨x % n, by rw [hv], Int.emod_nonneg _ (by omega), .inl (Int.emod_lt_of_pos _ (by omega)), hs, hg, hz⟩
theorem src_end {w w1 w2 : World} {o : Option Addr} {len cap p k : Nat} {a : Addr} {v : Value} (e : w1.setCell a v = w2) (S : Src w2 o len cap p) (G : w.grownBy w2 (some p) ∧ w2.heap.size = w.heap.size) :
    Src ((w1.drewN k).setCell a v) o len cap p ∧ w.grownBy ((w1.drewN k).setCell a v) (some p) ∧ ((w1.drewN k).setCell a v).heap.size = w.heap.size := by
  subst e
  exact ⟨src_drewN S k, ⟨G.1.os, G.1.tape, G.1.output, G.1.size, G.1.block⟩, G.2⟩
theorem src_end2 {w w2 : World} {o : Option Addr} {len cap p k : Nat} (S : Src w2 o len cap p ∧ w.grownBy w2 (some p) ∧ w2.heap.size = w.heap.size) :
    Src (w2.drewN k) o len cap p ∧ w.grownBy (w2.drewN k) (some p) ∧ (w2.drewN k).heap.size = w.heap.size :=
  ⟨src_drewN S.1 k, ⟨S.2.1.os, S.2.1.tape, S.2.1.output, S.2.1.size, S.2.1.block⟩, S.2.2⟩
set_option maxHeartbeats 800000 in
theorem next_big (n : Int) (o : Option Addr) (len cap p t : Nat) (s : Int) (w : World) (h : 2 ≤ n) (hn : n ≤ 4611686018427387904) (hs : SrcAt w o len cap p t s) :
    Calls Try.prog 50 #[.pointer (some ⟨p, 0, none⟩), .int .i64 n] w (NextPost n o len cap p w) := by
  have s0 := hs.s0
  have s1 := hs.s1
  have ht := hs.ht
  have hl := hs.hl
  obtain ⟨q, hq⟩ : ∃ q, q = (s * 48271 + 29) % 2147483647 := ⟨_, rfl⟩
  have q0 : 0 ≤ q := by omega
  have q1 : q < 2147483647 := by omega
  obtain ⟨w1, hw1⟩ : ∃ w1, w1 = w.setCell ⟨p, 2, none⟩ (.int .i64 q) := ⟨_, rfl⟩
  have S1 : Hid (SrcAt w1 o len cap p t q) := by
    show SrcAt w1 o len cap p t q
    rw [hw1]; exact srcAt_seed hs q0 q1
  have G1 : Hid (w.grownBy w1 (some p) ∧ w1.heap.size = w.heap.size) := by
    show w.grownBy w1 (some p) ∧ w1.heap.size = w.heap.size
    rw [hw1]; exact ⟨grownBy_setCellAt _ _ _ _, by simp [World.setCell]⟩
  have a2 := hs.c2
  have az := hs.fz 2
  have b0 := S1.out.c0
  have b1 := S1.out.c1
  have b2 := S1.out.c2
  have bz := S1.out.fz 1
  clear hs
  have hq' := hq.symm
  clear hq
  have hw' := hw1.symm
  clear hw1
  by_cases htl : t < len
  · obtain ⟨b, off, rfl, hbp, hc⟩ : ∃ b off, o = some ⟨b, off, none⟩ ∧ b < p ∧ ∀ i, i < len → ∃ z : Int, w1.cell? ⟨b, off + i, none⟩ = some (.int .u8 z) ∧ 0 ≤ z ∧ z ≤ 255 := by
      rcases S1.out.code with h0 | h0
      · omega
      · exact h0
    obtain ⟨z, hz, z0, z1⟩ := hc t htl
    clear hc
    obtain ⟨w2, hw2⟩ : ∃ w2, w2 = w1.setCell ⟨p, 1, none⟩ (.int .i64 ((t : Int) + 1)) := ⟨_, rfl⟩
    have S2 : Hid (SrcAt w2 (some ⟨b, off, none⟩) len cap p (t + 1) q) := by
      show SrcAt w2 (some ⟨b, off, none⟩) len cap p (t + 1) q
      rw [hw2, show ((t : Int) + 1) = ((t + 1 : Nat) : Int) by omega]; exact srcAt_at S1.out (by omega)
    have G2 : Hid (w.grownBy w2 (some p) ∧ w2.heap.size = w.heap.size) := by
      show w.grownBy w2 (some p) ∧ w2.heap.size = w.heap.size
      rw [hw2]; exact ⟨grownBy_tr G1.out.1 (grownBy_setCellAt _ _ _ _), by simp [World.setCell, G1.out.2]⟩
    have d0 := S2.out.c0
    have d1 : w2.cell? ⟨p, 1, none⟩ = some (.int .i64 ((t : Int) + 1)) := S2.out.c1
    have dz : w2.cell? ⟨b, off + t, none⟩ = some (.int .u8 z) := by rw [hw2, set_other (.inl (by omega))]; exact hz
    have hw2' := hw2.symm
    clear hw2
    have n1 : decide (n ≤ 1) = false := by simp; omega
    by_cases h256 : n ≤ 256
    · by_cases hpar : ((t : Int) + 1) % 2 = 0
      · have hp' : (((t : Int) + 1) % 2 == 0) = true := by simp [hpar]
        go_enter Try.func50, Try.ntmps50
        go_wp2
        go_quiet (fail)
        go_wp2
        go_quiet (fail)
        go_wp2
        go_quiet (fail)
        go_wp2
        go_ret
        have E := fun k c => src_end2 (k := c) (src_end (k := k) hw2' ⟨_, _, S2.out⟩ G2.out)
        exact nextPost_mk (x := z) h z0 (E _ _).1 (E _ _).2.1 (E _ _).2.2 rfl
      · have hp' : (((t : Int) + 1) % 2 == 0) = false := by simp [hpar]
        go_enter Try.func50, Try.ntmps50
        go_wp2
        go_quiet (fail)
        go_wp2
        go_quiet (fail)
        go_wp2
        go_ret
        have E := fun k => src_end (k := k) hw2' ⟨_, _, S2.out⟩ G2.out
        exact nextPost_mk (x := q / 31 + z) h (by omega) (E _).1 (E _).2.1 (E _).2.2 rfl
    · go_enter Try.func50, Try.ntmps50
      go_wp2
      go_quiet (fail)
      go_wp2
      go_quiet (fail)
      go_wp2
      go_ret
      have E := fun k => src_end (k := k) hw2' ⟨_, _, S2.out⟩ G2.out
      exact nextPost_mk (x := q / 31 + z) h (by omega) (E _).1 (E _).2.1 (E _).2.2 rfl
  · have n1 : decide (n ≤ 1) = false := by simp; omega
    go_enter Try.func50, Try.ntmps50
    go_wp2
    go_quiet (fail)
    go_wp2
    go_ret
    have E := fun k => src_end2 (k := k) ⟨⟨_, _, S1.out⟩, G1.out.1, G1.out.2⟩
    exact nextPost_mk (x := q / 31) h (by omega) (E _).1 (E _).2.1 (E _).2.2 rfl
end Go.Proofs.Ytjmecidbnoimnaa
namespace Go.Proofs.Ytjmecidbnoimnaa
open Go.RowKit
set_option linter.unusedVariables false
theorem next_any (n : Int) (o : Option Addr) (len cap p : Nat) (w : World) (hn : n ≤ 4611686018427387904) (hs : Src w o len cap p) :
    Calls Try.prog 50 #[.pointer (some ⟨p, 0, none⟩), .int .i64 n] w (NextPost n o len cap p w) := by
  by_cases h : n ≤ 1
  · exact (next_small n _ w h).mono fun e w' ⟨he, hw⟩ => ⟨0, he, Int.le_refl _, .inr rfl, hw ▸ hs, hw ▸ World.grownBy.refl _ _, hw ▸ rfl⟩
  · obtain ⟨t, s, hs⟩ := hs
    exact next_big n o len cap p t s w (by omega) hn hs
/-- one of the numbers of a list -/
def PickPost (l : List Int) (o : Option Addr) (len cap p : Nat) (w : World) (e : Ending) (w' : World) : Prop :=
  ∃ r : Int, e = .returned (.int .i64 r) ∧ r ∈ l ∧ Src w' o len cap p ∧ w.grownBy w' (some p) ∧ w'.heap.size = w.heap.size
theorem pick_any (l : List Int) (g c : Nat) (o : Option Addr) (len cap p : Nat) (w : World) (hs : Src w o len cap p) (hgp : g ≠ p) (h0 : 0 < l.length) (h1 : l.length ≤ 1000)
    (hc : ∀ k, k < l.length → w.cell? ⟨g, k, none⟩ = some (.int .i64 (l.getD k 0))) :
    Calls Try.prog 59 #[.pointer (some ⟨p, 0, none⟩), .slice (some ⟨g, 0, none⟩) l.length c] w (PickPost l o len cap p w) := by
  have HS := Lib.hid hs
  have HC := Lib.hid hc
  clear hs hc
  go_enter Try.func59, Try.ntmps59
  go_wp2_with fail
  refine (next_any _ _ _ _ _ _ (by omega) HS.out).mono ?_
  rintro e w1 ⟨r, rfl, hr0, hr1, hsr, hgr, hzr⟩
  have hr2 : r < (l.length : Int) := by omega
  have hc := HC.out r.toNat (by omega)
  rw [← World.grownBy.cell_far hgr ⟨g, r.toNat, none⟩ (World.block_lt_of_cell? w _ hc) (by simpa using hgp)] at hc
  obtain ⟨x, hx⟩ : ∃ x, l.getD r.toNat 0 = x := ⟨_, rfl⟩
  rw [hx] at hc
  have HX : Hid (x ∈ l) := by
    show x ∈ l
    have hlt : r.toNat < l.length := by omega
    rw [← hx, show l.getD r.toNat 0 = l[r.toNat] by simp [List.getD, hlt]]; exact List.getElem_mem _
  have HR := Lib.hid (And.intro hsr (And.intro hgr hzr))
  clear hx hr1 hsr hgr hzr
  go_wp2
  go_ret
  exact ⟨x, rfl, HX.out, HR.out⟩
/-- a value or nearly one -/
def DrawnPost (lo hi : Int) (o : Option Addr) (len cap p : Nat) (w : World) (e : Ending) (w' : World) : Prop :=
  ∃ r : Int, e = .returned (.int .i64 r) ∧ lo ≤ r ∧ r ≤ hi ∧ Src w' o len cap p ∧ w.grownBy w' (some p)
/-- a literal list of numbers, laid in a new block -/
theorem cells_new (w : World) (l : List Int) (T : TypeId) : ∀ k, k < l.length → (w.alloc (.cells (l.map (Value.int .i64)).toArray T)).cell? ⟨w.heap.size, k, none⟩ = some (.int .i64 (l.getD k 0)) := by
  intro k hk
  rw [World.cell?_alloc_new]
  simp [hk]
theorem src_lt {w : World} {o : Option Addr} {len cap p : Nat} (h : Src w o len cap p) : p < w.heap.size := by
  obtain ⟨t, s, h⟩ := h; exact World.block_lt_of_cell? w _ h.c0
/-- l01Pick over a list that has just been laid -/
theorem pick_new (l : List Int) (T : TypeId) (c : Nat) (o : Option Addr) (len cap p : Nat) (w : World) (hs : Src w o len cap p) (h0 : 0 < l.length) (h1 : l.length ≤ 1000) :
    Calls Try.prog 59 #[.pointer (some ⟨p, 0, none⟩), .slice (some ⟨w.heap.size, 0, none⟩) l.length c] (w.alloc (.cells (l.map (Value.int .i64)).toArray T)) fun e w' =>
      ∃ r : Int, e = .returned (.int .i64 r) ∧ r ∈ l ∧ Src w' o len cap p ∧ w.grownBy w' (some p) := by
  refine (pick_any l w.heap.size c o len cap p _ (src_alloc hs _) (by have := src_lt hs; omega) h0 h1 (cells_new w l T)).mono fun e w' ⟨r, he, hr, h2, h3, h4⟩ => ⟨r, he, hr, h2, grownBy_tr (World.grownBy_alloc w _ _) h3⟩
end Go.Proofs.Ytjmecidbnoimnaa
namespace Go.Proofs.Ytjmecidbnoimnaa
open Go.RowKit
set_option linter.unusedVariables false
/-- a code that came in -/
def CodeIn (w : World) (o : Option Addr) (len : Nat) : Prop :=
  len = 0 ∨ ∃ b off, o = some ⟨b, off, none⟩ ∧ b < w.heap.size ∧ ∀ i, i < len → ∃ z : Int, w.cell? ⟨b, off + i, none⟩ = some (.int .u8 z) ∧ 0 ≤ z ∧ z ≤ 255
def FromPost (o : Option Addr) (len cap : Nat) (w : World) (e : Ending) (w' : World) : Prop :=
  ∃ p, e = .returned (.pointer (some ⟨p, 0, none⟩)) ∧ w.heap.size ≤ p ∧ Src w' o len cap p ∧ Below w.heap.size w w'
theorem srcAt_new (w : World) (o : Option Addr) (len cap : Nat) (T : TypeId) (hl : len ≤ 4096) (hc : CodeIn w o len) :
    SrcAt (w.alloc (.cells #[.slice o len cap, .int .i64 0, .int .i64 31019] T)) o len cap w.heap.size 0 31019 := by
  refine ⟨?_, ?_, ?_, fun i => World.frozen?_alloc_at _ _ _ _ rfl, Nat.zero_le _, hl, by omega, by omega, ?_⟩
  · rw [World.cell?_alloc_new]; rfl
  · rw [World.cell?_alloc_new]; rfl
  · rw [World.cell?_alloc_new]; rfl
  · rcases hc with h0 | ⟨b, off, ho, hb, hc⟩
    · exact .inl h0
    · refine .inr ⟨b, off, ho, hb, fun i hi => ?_⟩
      rw [World.cell?_alloc_past _ _ _ hb]; exact hc i hi
set_option maxRecDepth 20000 in
set_option maxHeartbeats 800000 in
theorem from_any (o : Option Addr) (len cap : Nat) (w : World) (hl : len ≤ 4096) (hc : CodeIn w o len) :
    Calls Try.prog 48 #[.slice o len cap] w (FromPost o len cap w) := by
  have HN := Lib.hid (srcAt_new w o len cap 97 hl hc)
  clear hc
  go_enter Try.func48, Try.ntmps48
  go_wp2
  go_loopw [4] (fun i wr => ∃ (k : Nat) (s : Int), k ≤ len ∧ i = .int .i64 k ∧ SrcAt wr o len cap w.heap.size 0 s ∧ Below w.heap.size w wr) (fun i _ => len - (intOf i).toNat)
  case atStart => exact ⟨0, 31019, Nat.zero_le _, rfl, HN.out, (Below.refl _ _).alloc (Nat.le_refl _) _⟩
  case round =>
    obtain ⟨k, s, hk, rfl, hs, hb⟩ := hrel
    have s0 := hs.s0
    have s1 := hs.s1
    have a2 := hs.c2
    have az := hs.fz 2
    have HS := Lib.hid hs
    have HB := Lib.hid hb
    clear hs hb HN
    by_cases hlt : k < len
    · by_cases h64 : k < 64
      · obtain ⟨b, off, rfl, hbp, hc⟩ : ∃ b off, o = some ⟨b, off, none⟩ ∧ b < w.heap.size ∧ ∀ i, i < len → ∃ z : Int, wr.cell? ⟨b, off + i, none⟩ = some (.int .u8 z) ∧ 0 ≤ z ∧ z ≤ 255 := by
          rcases HS.out.code with h0 | h0
          · omega
          · exact h0
        obtain ⟨z, hz, z0, z1⟩ := hc k hlt
        clear hc
        go_wp2
        go_still_tail 15, (by kernel_rfl)
        go_wp2
        exact ⟨⟨k + 1, (s * 61 + z) % 2147483647, by omega, by go_num, srcAt_drewN (srcAt_seed HS.out (by omega) (by omega)) 1, (HB.out.setCell (Nat.le_refl _) _).drew⟩, by simp only [intOf]; omega⟩
      · go_wp2
        go_ret
        exact ⟨_, rfl, Nat.le_refl _, ⟨_, _, HS.out⟩, HB.out⟩
    · go_wp2
      go_ret
      exact ⟨_, rfl, Nat.le_refl _, ⟨_, _, HS.out⟩, HB.out⟩
end Go.Proofs.Ytjmecidbnoimnaa
namespace Go.Proofs.Ytjmecidbnoimnaa
open Go.RowKit
set_option linter.unusedVariables false
theorem prod_bd {k r : Int} (h1 : 1 ≤ k) (h2 : k ≤ 40) (h3 : 0 ≤ r) (h4 : r ≤ 200) : -4000 ≤ k * (r - 100) ∧ k * (r - 100) ≤ 4000 := by
  have : (k * (r - 100)).natAbs ≤ 40 * 100 := by
    rw [Int.natAbs_mul]; exact Nat.mul_le_mul (by omega) (by omega)
  omega
/-- two numbers, drawn -/
def TwoPost (w : World) (e : Ending) (w' : World) : Prop := ∃ a b : Int, e = .returned (.tuple #[.int .i64 a, .int .i64 b]) ∧ Below w.heap.size w w'
def OnePost (w : World) (e : Ending) (w' : World) : Prop := ∃ a : Int, e = .returned (.int .i64 a) ∧ Below w.heap.size w w'
/-- a step of drawing, below the source's block -/
theorem below_draw {B p : Nat} {a w w' : World} (h : Below B a w) (hg : w.grownBy w' (some p)) (hp : B ≤ p) (hw : B ≤ w.heap.size) : Below B a w' :=
  h.grown hg hw (fun k hk => by cases hk; exact hp)
theorem big_no (o : Option Addr) (len cap : Nat) (w : World) (hl : len ≤ 4096) :
    Calls Try.prog 14 #[.slice o len cap] w fun e w' => e = .returned (.bool false) ∧ w = w' := by
  go_enter Try.func14, Try.ntmps14
  go_wp2
  go_ret
  exact ⟨ret_bool (decide_eq_false (by omega)), rfl⟩
theorem big_yes (o : Option Addr) (len cap : Nat) (w : World) (hl : 4096 < len) (hm : len ≤ 9223372036854775807) :
    Calls Try.prog 14 #[.slice o len cap] w fun e w' => e = .returned (.bool true) ∧ w = w' := by
  go_enter Try.func14, Try.ntmps14
  go_wp2
  go_ret
  exact ⟨ret_bool (decide_eq_true (by omega)), rfl⟩
theorem codeIn_below {w w' : World} {B : Nat} {o : Option Addr} {len : Nat} (h : CodeIn w o len) (hb : Below w.heap.size w w') : CodeIn w' o len := by
  rcases h with h | ⟨b, off, ho, hlt, hc⟩
  · exact .inl h
  · exact .inr ⟨b, off, ho, Nat.lt_of_lt_of_le hlt hb.size, fun i hi => by rw [hb.cell (by exact hlt)]; exact hc i hi⟩
end Go.Proofs.Ytjmecidbnoimnaa
namespace Go.Proofs.Ytjmecidbnoimnaa
open Go.RowKit
set_option linter.unusedVariables false
set_option maxRecDepth 20000
set_option linter.unusedSimpArgs false
theorem grownBy_rest {p : Nat} {w w1 w2 : World} (h : w.grownBy w1 (some p)) (hb : Below w.heap.size w1 w2) : w.grownBy w2 (some p) :=
  ⟨hb.os.trans h.os, hb.tape.trans h.tape, hb.output.trans h.output, Nat.le_trans h.size hb.size, fun k hk hne => (hb.block k hk).trans (h.block k hk hne)⟩
theorem intRow_draw6 {w w' : World} {b p : Nat} {v : Value} {l : List Int} (h : IntRow b w v l) (hg : w.grownBy w' (some p)) (hp : p < b) : IntRow b w' v l := by
  refine World.ownsRow.kept h hg ?_
  cases hv : v.ownBlock with
  | none => exact .inl rfl
  | some k => right; intro e; have := World.ownsRow.lt h k hv; cases e; omega
/-- a row of the call's own, and the source that came in -/
def VS (o : Option Addr) (len cap p : Nat) (w wz : World) (v : Value) (l : List Int) : Prop := Src wz o len cap p ∧ w.grownBy wz (some p) ∧ IntRow w.heap.size wz v l ∧ p < w.heap.size
theorem vs_next {o : Option Addr} {len cap p : Nat} {w w1 w2 : World} {v : Value} {l : List Int} (h : VS o len cap p w w1 v l) (hs : Src w2 o len cap p) (hg : w1.grownBy w2 (some p)) : VS o len cap p w w2 v l :=
  ⟨hs, grownBy_tr h.2.1 hg, intRow_draw6 h.2.2.1 hg h.2.2.2, h.2.2.2⟩
theorem vs_app {o : Option Addr} {len cap p : Nat} {w w1 w2 : World} {v v' : Value} {l : List Int} {x : Int} {ob : Obj} (h : VS o len cap p w w1 v l) (hown : w2.ownsRow w.heap.size 2 1 v' (l.length + 1) (l.map (Value.int .i64) ++ [.int .i64 x]))
    (hg : (w1.alloc ob).grownBy w2 v.ownBlock) : VS o len cap p w w2 v' (l ++ [x]) := by
  have hB : Below w.heap.size w1 w2 := ((Below.refl w.heap.size w1).alloc h.2.1.size ob).grown hg (by have := h.2.1.size; simp; omega) (fun k hk => (World.ownsRow.lt h.2.2.1 k hk).1)
  exact ⟨src_below h.1 hB h.2.2.2, grownBy_rest h.2.1 hB, intRow_snoc hown, h.2.2.2⟩
theorem vs_made {o : Option Addr} {len cap p : Nat} {w : World} (h : Src w o len cap p) : VS o len cap p w (w.alloc (.cells #[] 2)) (.slice (some ⟨w.heap.size, 0, none⟩) 0 0) [] :=
  ⟨src_alloc h _, World.grownBy_alloc w _ _, intRow_made w, src_lt h⟩
theorem vs_lower {o : Option Addr} {len cap p : Nat} {w w1 w2 : World} {v : Value} {l : List Int} (h : VS o len cap p w1 w2 v l) (hg : w.grownBy w1 (some p)) (hp : p < w.heap.size) : VS o len cap p w w2 v l :=
  ⟨h.1, grownBy_tr hg h.2.1, intRow_lower h.2.2.1 hg.size, hp⟩
theorem vs_set {o : Option Addr} {len cap p g n c k : Nat} {w w1 : World} {l : List Int} (h : VS o len cap p w w1 (.slice (some ⟨g, 0, none⟩) n c) l) (hn : l.length = n) (hg : w.heap.size ≤ g) (x : Int) :
    VS o len cap p w (w1.setCell ⟨g, k, none⟩ (.int .i64 x)) (.slice (some ⟨g, 0, none⟩) n c) (l.set k x) := by
  have hB : Below w.heap.size w1 (w1.setCell ⟨g, k, none⟩ (.int .i64 x)) := (Below.refl _ _).setCell hg _
  exact ⟨src_below h.1 hB h.2.2.2, grownBy_rest h.2.1 hB, int_stored h.2.2.1 hn k x, h.2.2.2⟩
theorem below_one (w : World) (a : Obj) : Below w.heap.size w (w.alloc a) := (Below.refl _ _).alloc (Nat.le_refl _) _
theorem last_snoc {l : List Int} {x : Int} (h : x ≠ 0) : lastB (l ++ [x]) = true := by
  unfold lastB
  simp only [Bool.or_eq_true, Bool.not_eq_true', beq_eq_false_iff_ne]
  right
  simpa [List.getD] using h
def ValidP (d : Int) (l : List Int) : Prop := (l.length : Int) = d + 1 ∧ (∀ x ∈ l, -100 ≤ x ∧ x ≤ 100) ∧ lastB l = true
def DrawP (l : List Int) : Prop := l.length ≤ 10 ∧ ∀ x ∈ l, -1000001 ≤ x ∧ x ≤ 1000001
theorem valid_draw {d : Int} {l : List Int} (h : ValidP d l) (hd : d ≤ 9) : DrawP l := ⟨by have := h.1; omega, fun x hx => by have := h.2.1 x hx; omega⟩
theorem draw_get {l : List Int} (h : DrawP l) (k : Nat) : -1000001 ≤ l.getD k 0 ∧ l.getD k 0 ≤ 1000001 := by
  by_cases hk : k < l.length
  · rw [show l.getD k 0 = l[k] by simp [List.getD, hk]]; exact h.2 _ (List.getElem_mem _)
  · rw [getD_out (by omega)]; omega
theorem draw_set {l : List Int} (h : DrawP l) {k : Nat} {x : Int} (hx : -1000001 ≤ x ∧ x ≤ 1000001) : DrawP (l.set k x) :=
  ⟨by rw [List.length_set]; exact h.1, fun y hy => by rcases List.mem_or_eq_of_mem_set hy with hy | rfl; exact h.2 y hy; exact hx⟩
end Go.Proofs.Ytjmecidbnoimnaa
namespace Go.Proofs.Ytjmecidbnoimnaa
open Go.RowKit
set_option linter.unusedVariables false
set_option maxRecDepth 20000
set_option linter.unusedSimpArgs false
/-- what a draw answers: one list, a list and a number, two lists -/
def OneL (w : World) (e : Ending) (w' : World) : Prop := ∃ v l, e = .returned v ∧ IntRow w.heap.size w' v l ∧ l.length ≤ 10 ∧ Below w.heap.size w w'
def NumL (w : World) (e : Ending) (w' : World) : Prop := ∃ v l x, e = .returned (.tuple #[v, .int .i64 x]) ∧ IntRow w.heap.size w' v l ∧ l.length ≤ 10 ∧ -1001 ≤ x ∧ x ≤ 1001 ∧ Below w.heap.size w w'
def TwoL (w : World) (e : Ending) (w' : World) : Prop := ∃ v v' l l', e = .returned (.tuple #[v, v']) ∧ IntRow w.heap.size w' v l ∧ IntRow w.heap.size w' v' l' ∧ l.length ≤ 10 ∧ l'.length ≤ 10 ∧ Below w.heap.size w w'
theorem vs_out {o : Option Addr} {len cap q : Nat} {w w1 w2 : World} {v : Value} {l : List Int} (h : VS o len cap q w1 w2 v l) (hb : Below w.heap.size w w1) (hq : w.heap.size ≤ q) : IntRow w.heap.size w2 v l ∧ Below w.heap.size w w2 :=
  ⟨intRow_lower h.2.2.1 hb.size, hb.grown h.2.1 hb.size (fun k hk => by cases hk; exact hq)⟩
end Go.Proofs.Ytjmecidbnoimnaa
namespace Go.Proofs.Ytjmecidbnoimnaa
open Go.RowKit
set_option linter.unusedVariables false
set_option maxHeartbeats 400000 in
theorem drawPrime_any (o : Option Addr) (len cap p : Nat) (w : World) (hs : Src w o len cap p) :
    Calls Try.prog 49 #[.pointer (some ⟨p, 0, none⟩)] w (DrawnPost (-3) 101 o len cap p w) := by
  have HS := Lib.hid hs
  clear hs
  go_enter Try.func49, Try.ntmps49
  go_wp2_with fail
  refine (next_any _ _ _ _ _ _ (by omega) HS.out).mono ?_
  rintro e w1 ⟨r1, rfl, r10, r11, hs1, hg1, hz1⟩
  have H1 := Lib.hid (And.intro hs1 hg1)
  clear hs1 hg1 hz1 r11
  by_cases hr : r1 = 0
  · subst hr
    go_wp2_with fail
    refine (pick_new [1, 4, 0, 97, 101, -3, 9] 2 7 o len cap p w1 H1.out.1 (by simp) (by simp)).mono ?_
    rintro e w2 ⟨x, rfl, hx, hs2, hg2⟩
    have hb : -3 ≤ x ∧ x ≤ 101 := by simp at hx; omega
    have H2 := Lib.hid (And.intro hb (And.intro hs2 (grownBy_tr H1.out.2 hg2)))
    clear hx hs2 hg2 hb
    go_wp2
    go_ret
    exact ⟨x, rfl, H2.out.1.1, H2.out.1.2, H2.out.2.1, H2.out.2.2⟩
  · have hr' : (r1 == 0) = false := by simpa using hr
    clear hr
    go_wp2_with fail
    refine (pick_new [2, 3, 5, 7, 2, 3, 5, 11, 13, 17, 31] 2 11 o len cap p w1 H1.out.1 (by simp) (by simp)).mono ?_
    rintro e w2 ⟨x, rfl, hx, hs2, hg2⟩
    have hb : -3 ≤ x ∧ x ≤ 101 := by simp at hx; omega
    have H2 := Lib.hid (And.intro hb (And.intro hs2 (grownBy_tr H1.out.2 hg2)))
    clear hx hs2 hg2 hb
    go_wp2
    go_ret
    exact ⟨x, rfl, H2.out.1.1, H2.out.1.2, H2.out.2.1, H2.out.2.2⟩
end Go.Proofs.Ytjmecidbnoimnaa
namespace Go.Proofs.Ytjmecidbnoimnaa
open Go.RowKit
set_option linter.unusedVariables false
set_option maxRecDepth 20000
set_option linter.unusedSimpArgs false
theorem mod_snoc {P y : Int} {l : List Int} (h : ∀ x ∈ l, 0 ≤ x ∧ x < P) (y0 : 1 ≤ y) (y1 : y < P) : ModP P (l ++ [y]) := by
  refine ⟨fun i => ?_, last_snoc (by omega)⟩
  by_cases hi : i < (l ++ [y]).length
  · rw [show (l ++ [y]).getD i 0 = (l ++ [y])[i] by rw [List.getD_eq_getElem?_getD, List.getElem?_eq_getElem hi]; rfl]
    rcases List.mem_append.1 (List.getElem_mem hi) with hx | hx
    · exact h _ hx
    · have := List.mem_singleton.1 hx; omega
  · rw [getD_out (by omega)]; omega
def ValidM (P d : Int) (l : List Int) : Prop := ModP P l ∧ (l.length : Int) ≤ d + 1
theorem vs_own {o : Option Addr} {len cap p : Nat} {w w1 w2 : World} {v v' : Value} {l l' : List Int} (h : VS o len cap p w w1 v l) (hr : IntRow w1.heap.size w2 v' l') (hb : Below w1.heap.size w1 w2) : VS o len cap p w w2 v' l' :=
  ⟨src_below h.1 (hb.mono h.2.1.size) h.2.2.2, grownBy_rest h.2.1 (hb.mono h.2.1.size), intRow_lower hr h.2.1.size, h.2.2.2⟩
theorem vs_keep {o : Option Addr} {len cap p : Nat} {w w1 w2 : World} {v : Value} {l : List Int} (h : VS o len cap p w w1 v l) (hb : Below w1.heap.size w1 w2) : VS o len cap p w w2 v l :=
  ⟨src_below h.1 (hb.mono h.2.1.size) h.2.2.2, grownBy_rest h.2.1 (hb.mono h.2.1.size), row_below h.2.2.1 hb (Nat.le_refl _), h.2.2.2⟩
theorem intRow_lit (w : World) (l : List Int) (hl : l.length ≤ 1000) : IntRow w.heap.size (w.alloc (.cells (l.map (Value.int .i64)).toArray 2)) (.slice (some ⟨w.heap.size, 0, none⟩) l.length l.length) l :=
  ⟨by simp, .inr ⟨w.heap.size, l.length, _, rfl, Nat.le_refl _, heap_alloc_new w _, Nat.le_refl _, by unfold maxLen; omega, by simp, by simp; exact List.take_of_length_le (by simp)⟩⟩
theorem vs_lit {o : Option Addr} {len cap p : Nat} {w : World} (h : Src w o len cap p) (l : List Int) (hl : l.length ≤ 1000) : VS o len cap p w (w.alloc (.cells (l.map (Value.int .i64)).toArray 2)) (.slice (some ⟨w.heap.size, 0, none⟩) l.length l.length) l :=
  ⟨src_alloc h _, World.grownBy_alloc w _ _, intRow_lit w l hl, src_lt h⟩
end Go.Proofs.Ytjmecidbnoimnaa
namespace Go.Proofs.Ytjmecidbnoimnaa
open Go.RowKit
set_option linter.unusedVariables false
/-- a slice of integers that came in, as the shells have it -/
def IsRowOf (k : IntKind) (w : World) (a : Option Addr) (len cap : Nat) (zs : List Int) : Prop :=
  (a = none ∧ len = 0 ∧ cap = 0 ∧ zs = []) ∨
  ∃ x, a = some x ∧ len ≤ cap ∧ cap ≤ maxLen ∧ zs.length = cap ∧ (∀ i, i < zs.length → w.cell? (x.add i) = some (.int k (zs.getD i 0))) ∧ ∀ n ∈ zs, (Lit.int k n).wf = true
theorem u8_bd {q : Int} (h : (Lit.int .u8 q).wf = true) : 0 ≤ q ∧ q ≤ 255 := by
  simp [Lit.wf, IntKind.min, IntKind.max, IntKind.signed, IntKind.bits] at h
  exact ⟨h.1, by omega⟩
theorem codeIn_of {w : World} {a : Option Addr} {len cap : Nat} {zs : List Int} (h : IsRowOf .u8 w a len cap zs) : CodeIn w a len ∧ len ≤ 9223372036854775807 := by
  rcases h with ⟨_, h, _, _⟩ | ⟨x, rfl, h1, h2, h3, h4, h5⟩
  · exact ⟨.inl h, by omega⟩
  · refine ⟨?_, by unfold maxLen at h2; omega⟩
    by_cases h0 : len = 0
    · exact .inl h0
    · obtain ⟨b, off, rfl, hc⟩ := ints_at h4 (by omega)
      refine .inr ⟨b, off, rfl, World.block_lt_of_cell? w _ (hc 0 (by omega)), fun i hi => ⟨_, hc i (by omega), ?_⟩⟩
      have hm : zs.getD i 0 ∈ zs := by
        have hlt : i < zs.length := by omega
        rw [show zs.getD i 0 = zs[i] by simp [List.getD, hlt]]; exact List.getElem_mem _
      exact u8_bd (h5 _ hm)
theorem gcd_dvd_tmod (a b : Int) (h : Int.gcd a b ≠ 0) : a.tmod (Int.gcd a b) = 0 ∧ b.tmod (Int.gcd a b) = 0 :=
  ⟨Int.tmod_eq_zero_of_dvd (Int.gcd_dvd_left ..), Int.tmod_eq_zero_of_dvd (Int.gcd_dvd_right ..)⟩
end Go.Proofs.Ytjmecidbnoimnaa
namespace Go.Proofs.Ytjmecidbnoimnaa
set_option linter.unusedVariables false
set_option maxRecDepth 20000
def padL (l : List Int) : List Int := tabL 9 fun i => l.getD i 0
theorem padL_length (l : List Int) : (padL l).length = 9 := tabL_length _ _
theorem padL_getD {l : List Int} (h : l.length ≤ 9) (i : Nat) : (padL l).getD i 0 = l.getD i 0 := by
  by_cases e : i < 9
  · exact tabL_getD e
  · rw [padL, tabL_out (by omega), getD_out (by omega)]
theorem trim_same {l m : List Int} (h : ∀ i, l.getD i 0 = m.getD i 0) : trimL l = trimL m :=
  last_unique (trimL_last _) (trimL_last _) fun i => by rw [trimL_getD, trimL_getD, h]
theorem trim_pad {l : List Int} (h : l.length ≤ 9) : trimL (padL l) = trimL l := trim_same (padL_getD h)
theorem res_same {l m : List Int} (h : trimL l = trimL m) : resL l = resL m ∧ resC l = resC m := by simp [resL, resC, h]
theorem pad_bd {l : List Int} (h : polyB l = true) : ∀ i, -1000000 ≤ (padL l).getD i 0 ∧ (padL l).getD i 0 ≤ 1000000 := fun i => by
  rw [padL_getD (polyB_of h).1]; exact (polyB_of h).2.1 i
theorem pval_pad {l : List Int} (h : l.length ≤ 9) (x : Int) : pval (padL l) x = pval l x := pval_same x (padL_getD h)
theorem evalL_pad {l : List Int} (h : l.length ≤ 9) (x : Int) : evalD (padL l) x 9 = evalL l x := by
  rw [evalL_pval, ← pval_pad h, ← evalL_pval]; rfl
/-- what is no value stays so -/
theorem evalD_out {f : List Int} {x : Int} (h : ∀ i, -1000000000000 ≤ f.getD i 0 ∧ f.getD i 0 ≤ 1000000000000) {j : Nat} (hx : x < -1 ∨ 1 < x) (hj : evalD f x j < -1000000000000 ∨ 1000000000000 < evalD f x j) :
    ∀ k, evalD f x (j + k) < -1000000000000 ∨ 1000000000000 < evalD f x (j + k)
  | 0 => hj
  | k + 1 => by
    have ih := evalD_out h hx hj k
    obtain ⟨c, d⟩ := h (f.length - 1 - (j + k))
    show evalD f x (j + k) * x + f.getD (f.length - 1 - (j + k)) 0 < _ ∨ _ < evalD f x (j + k) * x + f.getD (f.length - 1 - (j + k)) 0
    generalize evalD f x (j + k) = e at *
    generalize f.getD (f.length - 1 - (j + k)) 0 = y at *
    rcases ih with ih | ih <;> rcases hx with hx | hx
    · have := Int.mul_le_mul_of_nonpos_left (show e ≤ 0 by omega) (show x ≤ -2 by omega); omega
    · have := Int.mul_le_mul_of_nonpos_left (show e ≤ 0 by omega) (show 2 ≤ x by omega); omega
    · have := Int.mul_le_mul_of_nonneg_left (show x ≤ -2 by omega) (show 0 ≤ e by omega); omega
    · have := Int.mul_le_mul_of_nonneg_left (show 2 ≤ x by omega) (show 0 ≤ e by omega); omega
theorem evalD_flatB {f : List Int} {x B : Int} (h : ∀ i, -B ≤ f.getD i 0 ∧ f.getD i 0 ≤ B) (h0 : -1 ≤ x) (h1 : x ≤ 1) : ∀ j : Nat, -(B * (j : Int)) ≤ evalD f x j ∧ evalD f x j ≤ B * (j : Int)
  | 0 => by simp [evalD]
  | j + 1 => by
    obtain ⟨a, b⟩ := evalD_flatB h h0 h1 j
    obtain ⟨c, d⟩ := h (f.length - 1 - j)
    unfold evalD
    generalize evalD f x j = e at *
    generalize f.getD (f.length - 1 - j) 0 = y at *
    rw [show B * ((j + 1 : Nat) : Int) = B * (j : Int) + B by rw [Int.natCast_succ, Int.mul_add, Int.mul_one]]
    generalize B * (j : Int) = t at *
    rcases (by omega : x = -1 ∨ x = 0 ∨ x = 1) with rfl | rfl | rfl <;> omega
theorem inB_out {n lo hi : Int} (h : n < lo ∨ hi < n) : inB n lo hi = false := inB_f (by omega)
/-- the early end of an evaluation -/
theorem eval_stop6 {l : List Int} {x : Int} (h : polyB l = true) (hr : inB x (-1000) 1000 = true) {j : Nat} (hj : j ≤ 9) (hf : evalD (padL l) x j < -1000000000000 ∨ 1000000000000 < evalD (padL l) x j) :
    valueQ l x = 0 ∧ valueC l x = 3 := by
  have hb := pad_bd h
  have e9 := evalL_pad (polyB_of h).1 x
  have hin : inB (evalL l x) (-1000000000000) 1000000000000 = false := by
    by_cases hx : -1 ≤ x ∧ x ≤ 1
    · have := evalD_flat hb hx.1 hx.2 j
      exact absurd hf (by omega)
    · have := evalD_out (fun i => by have := hb i; omega) (j := j) (by omega) hf (9 - j)
      rw [show j + (9 - j) = 9 by omega, e9] at this
      exact inB_out this
  have e : valueC l x = 3 := by simp [valueC, h, hr, hin]
  exact ⟨by simp [valueQ, e], e⟩
theorem eval_done6 {l : List Int} {x : Int} (h : polyB l = true) (hr : inB x (-1000) 1000 = true) (h0 : -1000000000000 ≤ evalD (padL l) x 9) (h1 : evalD (padL l) x 9 ≤ 1000000000000) :
    valueQ l x = evalD (padL l) x 9 ∧ valueC l x = 0 := by
  rw [evalL_pad (polyB_of h).1] at *
  have e : valueC l x = 0 := by simp [valueC, h, hr, inB_t h0 h1]
  exact ⟨by simp [valueQ, e], e⟩
/-- bounds of a shift by -1, 0 or 1 -/
def dB : Nat → Int
  | 0 => 1000000
  | k + 1 => ((9 - k : Nat) : Int) * dB k
theorem dB_le : ∀ k, k ≤ 9 → 0 ≤ dB k ∧ dB k ≤ 362880000000 := by decide
theorem shiftP_flat {f : List Int} {a : Int} (h9 : f.length = 9) (hb : ∀ i, -1000000 ≤ f.getD i 0 ∧ f.getD i 0 ≤ 1000000) (h0 : -1 ≤ a) (h1 : a ≤ 1) :
    ∀ k, k ≤ 8 → ∀ i, -dB k ≤ (shiftP f a k).getD i 0 ∧ (shiftP f a k).getD i 0 ≤ dB k
  | 0, _, i => hb i
  | k + 1, hk, i => by
    have ih := shiftP_flat h9 hb h0 h1 k (by omega)
    have hd := dB_le k (by omega)
    have hm : dB k ≤ dB (k + 1) := by
      show dB k ≤ ((9 - k : Nat) : Int) * dB k
      have := Int.mul_le_mul_of_nonneg_right (show (1 : Int) ≤ ((9 - k : Nat) : Int) by omega) hd.1
      omega
    show -_ ≤ (tabL _ _).getD i 0 ∧ _
    by_cases hi : i < f.length
    · rw [show shiftP f a (k + 1) = tabL f.length fun i => if i < k then (shiftP f a k).getD i 0 else evalD (shiftP f a k) a (f.length - i) from rfl, tabL_getD hi]
      by_cases hik : i < k
      · rw [if_pos hik]; have := ih i; omega
      · rw [if_neg hik]
        have hf := evalD_flatB ih h0 h1 (f.length - i)
        have hm2 : dB k * ((f.length - i : Nat) : Int) ≤ dB (k + 1) := by
          show _ ≤ ((9 - k : Nat) : Int) * dB k
          rw [Int.mul_comm]
          exact Int.mul_le_mul_of_nonneg_right (by omega) hd.1
        omega
    · have e : (shiftP f a (k + 1)).getD i 0 = 0 := getD_out (by rw [shiftP_length]; omega)
      have := (dB_le (k + 1) (by omega)).1
      rw [e]
      have e2 : (tabL f.length fun i => if i < k then (shiftP f a k).getD i 0 else evalD (shiftP f a k) a (f.length - i)).getD i 0 = 0 := e
      rw [e2]
      omega
/-- the early end of a shift -/
theorem shift_stop6 {f : List Int} {a : Int} {k i : Nat} (h9 : f.length = 9) (hb : ∀ i, -1000000 ≤ f.getD i 0 ∧ f.getD i 0 ≤ 1000000) (hv : ∀ i, -1000000000000 ≤ (shiftP f a k).getD i 0 ∧ (shiftP f a k).getD i 0 ≤ 1000000000000)
    (hk8 : k ≤ 8) (hk : k ≤ i) (hi : i < 9) (hf : evalD (shiftP f a k) a (9 - i) < -1000000000000 ∨ 1000000000000 < evalD (shiftP f a k) a (9 - i)) :
    resL (shiftL f a) = [] ∧ resC (shiftL f a) = 3 := by
  have hbad : (shiftL f a).getD k 0 < -1000000000000 ∨ 1000000000000 < (shiftL f a).getD k 0 := by
    by_cases ha : -1 ≤ a ∧ a ≤ 1
    · exfalso
      have hfl := evalD_flatB (shiftP_flat h9 hb ha.1 ha.2 k hk8) ha.1 ha.2 (9 - i)
      have hd := dB_le k (by omega)
      have hd1 := dB_le (k + 1) (by omega)
      have hm2 : dB k * ((9 - i : Nat) : Int) ≤ dB (k + 1) := by
        show _ ≤ ((9 - k : Nat) : Int) * dB k
        rw [Int.mul_comm]
        exact Int.mul_le_mul_of_nonneg_right (by omega) hd.1
      omega
    · have := evalD_out hv (j := 9 - i) (by omega) hf (i - k)
      rw [show 9 - i + (i - k) = 9 - k by omega] at this
      rw [← shiftP_final f a (i := k) (k := k + 1) (by omega) (by omega)]
      rw [show shiftP f a (k + 1) = tabL f.length fun i => if i < k then (shiftP f a k).getD i 0 else evalD (shiftP f a k) a (f.length - i) from rfl, tabL_getD (by omega), if_neg (by omega), h9]
      exact this
  cases hr : polyB (trimL (shiftL f a))
  · simp [resC, resL, hr]
  · exfalso
    have := (polyB_of hr).2.1 k
    rw [trimL_getD] at this
    omega
theorem shift_pad {l : List Int} (a : Int) (h : l.length ≤ 9) : trimL (shiftL (padL l) a) = trimL (shiftL l a) :=
  pval_ext (trimL_last _) (trimL_last _) fun x => by rw [pval_trim, pval_trim, pval_shift, pval_shift, pval_pad h]
theorem shift_eight {f : List Int} (a : Int) (h : f.length = 9) : shiftP f a 8 = shiftL f a := by
  unfold shiftL
  rw [h, ← shV_zero, shV_end (by omega)]
/-- products -/
theorem mulP_zero {f g : List Int} {n : Nat} : ∀ k, (∀ i, i < k → i ≤ n → f.getD i 0 * g.getD (n - i) 0 = 0) → mulP f g n k = 0
  | 0, _ => rfl
  | k + 1, h => by
    show mulP f g n k + (if k ≤ n then f.getD k 0 * g.getD (n - k) 0 else 0) = 0
    rw [mulP_zero k fun i hi => h i (by omega)]
    by_cases hk : k ≤ n
    · rw [if_pos hk, h k (by omega) hk]; rfl
    · rw [if_neg hk]; rfl
theorem mul_long {f g : List Int} (hf : polyB f = true) (hg : polyB g = true) (h : 10 < f.length + g.length) : resL (mulL f g) = [] ∧ resC (mulL f g) = 3 := by
  obtain ⟨f9, _, fl⟩ := polyB_of hf
  obtain ⟨g9, _, gl⟩ := polyB_of hg
  have fl := fl.resolve_left (by omega)
  have gl := gl.resolve_left (by omega)
  have hlen : (mulL f g).length = f.length + g.length - 1 := by unfold mulL; rw [if_neg (by omega), tabL_length]
  have hlast : (mulL f g).getD (f.length + g.length - 2) 0 = f.getD (f.length - 1) 0 * g.getD (g.length - 1) 0 := by
    unfold mulL
    rw [if_neg (by omega), tabL_getD (by omega)]
    obtain ⟨n, hn⟩ : ∃ n, f.length = n + 1 := ⟨f.length - 1, by omega⟩
    rw [hn]
    show mulP f g _ n + (if n ≤ n + 1 + g.length - 2 then f.getD n 0 * g.getD (n + 1 + g.length - 2 - n) 0 else 0) = _
    rw [mulP_zero n fun i hi _ => by rw [getD_out (l := g) (by omega), Int.mul_zero], if_pos (by omega), Int.zero_add]
    rw [show n + 1 + g.length - 2 - n = g.length - 1 by omega, show n + 1 - 1 = n by omega]
  have hne : (mulL f g).getD (f.length + g.length - 2) 0 ≠ 0 := by rw [hlast]; exact Int.mul_ne_zero fl gl
  have ht : trimL (mulL f g) = mulL f g := by
    refine trimL_self ?_
    unfold lastB
    rw [hlen, show f.length + g.length - 1 - 1 = f.length + g.length - 2 by omega]
    simp only [Bool.or_eq_true, Bool.not_eq_true', beq_eq_false_iff_ne]
    exact .inr hne
  have hp : polyB (trimL (mulL f g)) = false := by
    rw [ht]
    unfold polyB
    rw [decide_eq_false (by omega), Bool.false_and, Bool.and_false]
  simp [resL, resC, hp]
theorem mul_pad {f g : List Int} (h : f.length + g.length ≤ 10) : trimL (tabL 9 fun n => mulP f g n f.length) = trimL (mulL f g) := by
  refine trim_same fun j => ?_
  unfold mulL
  by_cases h0 : f.length = 0 ∨ g.length = 0
  · rw [if_pos h0]
    have hz : ∀ n, mulP f g n f.length = 0 := fun n => mulP_zero _ fun i hi _ => by
      rcases h0 with h0 | h0
      · omega
      · rw [getD_out (l := g) (by omega), Int.mul_zero]
    by_cases hj : j < 9
    · rw [tabL_getD hj, hz]; simp
    · rw [tabL_out (by omega)]; simp
  · rw [if_neg h0]
    by_cases hj : j < f.length + g.length - 1
    · rw [tabL_getD (by omega), tabL_getD hj]
    · rw [tabL_out (n := f.length + g.length - 1) (by omega)]
      by_cases hj9 : j < 9
      · rw [tabL_getD hj9]
        exact mulP_zero _ fun i hi _ => by rw [getD_out (l := g) (by omega), Int.mul_zero]
      · exact tabL_out (by omega)
/-- sums -/
theorem add_pad {f g : List Int} (hf : f.length ≤ 9) (hg : g.length ≤ 9) : trimL (tabL 9 fun i => f.getD i 0 + g.getD i 0) = trimL (addL f g 1) := by
  refine trim_same fun j => ?_
  unfold addL
  by_cases hj9 : j < 9
  · rw [tabL_getD hj9]
    by_cases hj : j < max f.length g.length
    · rw [tabL_getD hj, Int.one_mul]
    · rw [tabL_out (by omega), getD_out (l := f) (by omega), getD_out (l := g) (by omega)]; rfl
  · rw [tabL_out (by omega), tabL_out (by omega)]
/-- derivatives -/
theorem der_pad {f : List Int} (hf : f.length ≤ 9) : trimL (tabL 9 fun j => if j + 1 < f.length then ((j : Int) + 1) * f.getD (j + 1) 0 else 0) = trimL (derL f) := by
  refine trim_same fun j => ?_
  unfold derL
  by_cases hj : j < f.length - 1
  · rw [tabL_getD (by omega), tabL_getD hj, if_pos (by omega)]
  · rw [tabL_out (n := f.length - 1) (by omega)]
    by_cases hj9 : j < 9
    · rw [tabL_getD hj9, if_neg (by omega)]
    · exact tabL_out (by omega)
/-- a list turned round -/
theorem rev_pad {f : List Int} (hf : f.length ≤ 9) : trimL (tabL 9 fun j => if j < f.length then f.getD (f.length - 1 - j) 0 else 0) = trimL (revL f) := by
  refine trim_same fun j => ?_
  unfold revL
  by_cases hj : j < f.length
  · rw [tabL_getD (by omega), tabL_getD hj, if_pos hj]
  · rw [tabL_out (n := f.length) (by omega)]
    by_cases hj9 : j < 9
    · rw [tabL_getD hj9, if_neg hj]
    · exact tabL_out (by omega)
theorem rev_valid {f : List Int} (hf : polyB f = true) : resL (revL f) = trimL (revL f) ∧ resC (revL f) = 0 := by
  obtain ⟨f9, fb, _⟩ := polyB_of hf
  have hp : polyB (trimL (revL f)) = true := by
    refine polyB_mk ?_ ?_ (trimL_last _)
    · rw [trimL_length]; have := trimN_le (revL f) (revL f).length; rw [revL_length] at this; rw [revL_length]; omega
    · intro i _
      rw [trimL_getD]
      unfold revL
      by_cases hi : i < f.length
      · rw [tabL_getD hi]; exact fb _
      · rw [tabL_out (by omega)]; omega
  simp [resL, resC, hp]
end Go.Proofs.Ytjmecidbnoimnaa
namespace Go.Proofs.Ytjmecidbnoimnaa
open Go.RowKit
set_option linter.unusedVariables false
set_option maxRecDepth 20000
set_option linter.unusedSimpArgs false
def Nine (w : World) (b : Nat) (l : List Int) : Prop :=
  b < w.heap.size ∧ l.length = 9 ∧ ∀ k, k < 9 → w.cell? ⟨b, k, none⟩ = some (.int .i64 (l.getD k 0)) ∧ w.frozen? ⟨b, k, none⟩ = false
def arrV (l : List Int) : Array Value := (l.map (Value.int .i64)).toArray
theorem arrV_size (l : List Int) : (arrV l).size = l.length := by simp [arrV]
theorem arrV_get {l : List Int} {k : Nat} (h : k < l.length) : (arrV l)[k]? = some (.int .i64 (l.getD k 0)) := by simp [arrV, List.getD, h]
theorem arrV_one (l : List Int) : (arrV l).all (·.oneCell') = true := all_oneCell_toArray (oneCell_map l)
theorem arrV_list (l : List Int) : (arrV l).toList = l.map (Value.int .i64) := by simp [arrV]
theorem nine_new (w : World) (l : List Int) (T : TypeId) (h : l.length = 9) : Nine (w.alloc (.cells (arrV l) T)) w.heap.size l :=
  ⟨by simp, h, fun k hk => ⟨by rw [World.cell?_alloc_new, arrV_get (by omega)], World.frozen?_alloc_at _ _ _ _ rfl⟩⟩
theorem nine_block {w1 w2 : World} {b : Nat} {l : List Int} (h : Nine w1 b l) (hs : b < w2.heap.size) (e : w2.heap[b]? = w1.heap[b]?) : Nine w2 b l :=
  ⟨hs, h.2.1, fun k hk => ⟨by rw [World.cell?_of_block (w := w1) (a := ⟨b, k, none⟩) e]; exact (h.2.2 k hk).1, by rw [World.frozen?_of_block (w := w1) (a := ⟨b, k, none⟩) e]; exact (h.2.2 k hk).2⟩⟩
theorem nine_below {w1 w2 : World} {b B : Nat} {l : List Int} (h : Nine w1 b l) (hb : Below B w1 w2) (hB : b < B) : Nine w2 b l := nine_block h (Nat.lt_of_lt_of_le h.1 hb.size) (hb.block b hB)
theorem nine_next {w1 w2 : World} {b : Nat} {l : List Int} (h : Nine w1 b l) (hb : Below w1.heap.size w1 w2) : Nine w2 b l := nine_below h hb h.1
theorem nine_drewN {w : World} {b : Nat} {l : List Int} (h : Nine w b l) (m : Nat) : Nine (w.drewN m) b l := nine_block h h.1 rfl
theorem nine_drew {w : World} {b : Nat} {l : List Int} (h : Nine w b l) : Nine w.drew b l := nine_drewN h 1
theorem nine_at {w : World} {b : Nat} {l : List Int} (h : Nine w b l) {k : Nat} (hk : k < 9) : w.cell? ⟨b, k, none⟩ = some (.int .i64 (l.getD k 0)) := (h.2.2 k hk).1
theorem nine_frozen {w : World} {b : Nat} {l : List Int} (h : Nine w b l) {k : Nat} (hk : k < 9) : w.frozen? ⟨b, k, none⟩ = false := (h.2.2 k hk).2
theorem addr_ne {b i j : Nat} (h : i ≠ j) : (⟨b, i, none⟩ : Addr) ≠ ⟨b, j, none⟩ := by intro e; injection e; exact h (by assumption)
theorem nine_set {w : World} {b k : Nat} {l : List Int} (h : Nine w b l) (hk : k < 9) (x : Int) : Nine (w.setCell ⟨b, k, none⟩ (.int .i64 x)) b (l.set k x) := by
  refine ⟨by simpa using h.1, by rw [List.length_set]; exact h.2.1, fun j hj => ⟨?_, by rw [World.frozen?_setCell]; exact (h.2.2 j hj).2⟩⟩
  by_cases e : k = j
  · subst e
    rw [World.cell?_setCell_same _ _ _ (h.2.2 k hk).1]
    have := h.2.1
    simp [List.getD, show k < l.length by omega]
  · rw [World.cell?_setCell_other _ _ _ _ (addr_ne e), (h.2.2 j hj).1]
    simp [List.getD, List.getElem?_set_ne e]
theorem nine_other {w : World} {b b' k : Nat} {l : List Int} (h : Nine w b l) (hb : b' ≠ b) (x : Value) : Nine (w.setCell ⟨b', k, none⟩ x) b l := by
  refine ⟨by simpa using h.1, h.2.1, fun j hj => ⟨?_, by rw [World.frozen?_setCell]; exact (h.2.2 j hj).2⟩⟩
  rw [World.cell?_setCell_other _ _ _ _ (by intro e; injection e; exact hb (by assumption)), (h.2.2 j hj).1]
theorem nine_range {w : World} {b : Nat} {l : List Int} (h : Nine w b l) : w.rangeAt b 0 (l.map (Value.int .i64)) := by
  intro j v hj
  obtain ⟨h1, h2⟩ := List.getElem?_eq_some_iff.1 hj
  rw [List.length_map] at h1
  rw [Nat.zero_add, (h.2.2 j (by have := h.2.1; omega)).1, ← h2]
  simp [List.getD, h1]
theorem nine_there {w : World} {b : Nat} {l : List Int} (h : Nine w b l) : w.there b 0 9 := fun j hj => by
  rw [Nat.zero_add]; exact ⟨by rw [(h.2.2 j hj).1]; rfl, (h.2.2 j hj).2⟩
theorem nine_seen {w : World} {b n : Nat} {l : List Int} (h : Nine w b l) (hn : n ≤ 9) : Seen w (some ⟨b, 0, none⟩) n 9 (l.take n) := by
  have hl := h.2.1
  refine ⟨by rw [List.length_take]; omega, by omega, fun h => by (cases h), hn, b, fun _ => ⟨rfl, h.1⟩, fun k hk => ?_⟩
  rw [take_getD l hk]; exact (h.2.2 k (by omega)).1
theorem setCells_size (b : Nat) : ∀ (vs : List Value) (o : Nat) (w : World), (w.setCells b o vs).heap.size = w.heap.size
  | [], _, _ => rfl
  | v :: r, o, w => by rw [World.setCells, setCells_size b r]; simp
theorem below_setCells {w w1 : World} {b : Nat} (hb : w.heap.size ≤ b) : ∀ (vs : List Value) (o : Nat) {w1 : World}, Below w.heap.size w w1 → Below w.heap.size w (w1.setCells b o vs)
  | [], _, _, h => h
  | v :: r, o, _, h => below_setCells (w1 := w) hb r (o + 1) (h.setCell hb v)
theorem nine_setCells {w : World} {b : Nat} {l m : List Int} (h : Nine w b l) (hm : m.length ≤ 9) : Nine (w.setCells b 0 (m.map (Value.int .i64))) b (m ++ l.drop m.length) := by
  have hl := h.2.1
  refine ⟨by rw [setCells_size]; exact h.1, by rw [List.length_append, List.length_drop]; omega, fun j hj => ⟨?_, by rw [World.frozen?_setCells]; exact (h.2.2 j hj).2⟩⟩
  by_cases hjm : j < m.length
  · have := World.cell?_setCells_in b (m.map (Value.int .i64)) 0 w (fun i hi => by rw [List.length_map] at hi; rw [Nat.zero_add, (h.2.2 i (by omega)).1]; rfl) j (by rw [List.length_map]; exact hjm)
    rw [Nat.zero_add] at this
    rw [this]
    simp [List.getD, hjm, List.getElem?_append_left hjm]
  · rw [World.cell?_setCells_out b _ 0 w ⟨b, j, none⟩ (fun _ _ => .inr (by rw [List.length_map]; show 0 + m.length ≤ j; omega)), (h.2.2 j hj).1]
    simp [List.getD, List.getElem?_append_right (show m.length ≤ j by omega), List.getElem?_drop, show m.length + (j - m.length) = j by omega]
theorem nine_full {w : World} {b : Nat} {l m : List Int} (h : Nine w b l) (hm : m.length = 9) : Nine (w.setCells b 0 (m.map (Value.int .i64))) b m := by
  have := nine_setCells h (m := m) (by omega)
  rwa [List.drop_eq_nil_of_le (by have := h.2.1; omega), List.append_nil] at this
theorem nine_apart {w : World} {b b' : Nat} {l : List Int} (h : Nine w b l) (hb : b' ≠ b) : ∀ (vs : List Value) (o : Nat) {w1 : World}, Nine w1 b l → Nine (w1.setCells b' o vs) b l
  | [], _, _, h => h
  | v :: r, o, _, h1 => nine_apart h hb r (o + 1) (nine_other h1 hb v)
theorem pad_append {l : List Int} (h : l.length ≤ 9) : l ++ (tabL 9 fun _ => 0).drop l.length = padL l := by
  refine ext_getD (by rw [List.length_append, List.length_drop, tabL_length, padL_length]; omega) fun i hi => ?_
  rw [List.length_append, List.length_drop, tabL_length] at hi
  rw [padL_getD h]
  by_cases e : i < l.length
  · simp [List.getD, List.getElem?_append_left e]
  · rw [getD_out (l := l) (by omega)]
    simp only [List.getD, List.getElem?_append_right (show l.length ≤ i by omega), List.getElem?_drop, show l.length + (i - l.length) = i by omega]
    exact tabL_getD (f := fun _ => (0 : Int)) (show i < 9 by omega)
theorem zero_nine : (#[.int .i64 0, .int .i64 0, .int .i64 0, .int .i64 0, .int .i64 0, .int .i64 0, .int .i64 0, .int .i64 0, .int .i64 0] : Array Value) = arrV (tabL 9 fun _ => 0) := rfl
theorem seen_range {w : World} {g n : Nat} {l : List Int} (hl : n = l.length) (h : ∀ k, k < n → w.cell? ⟨g, k, none⟩ = some (.int .i64 (l.getD k 0))) :
    ∀ j v, (l.map (Value.int .i64))[j]? = some v → w.cell? ((⟨g, 0, none⟩ : Addr).add j) = some v := by
  intro j v hj
  obtain ⟨h1, h2⟩ := List.getElem?_eq_some_iff.1 hj
  rw [List.length_map] at h1
  rw [show (⟨g, 0, none⟩ : Addr).add j = ⟨g, j, none⟩ by simp [Addr.add]; omega, h j (by omega), ← h2]
  simp [List.getD, h1]
end Go.Proofs.Ytjmecidbnoimnaa
namespace Go.Proofs.Ytjmecidbnoimnaa
open Go.RowKit
set_option linter.unusedVariables false
set_option maxRecDepth 20000
set_option linter.unusedSimpArgs false
theorem Try.infoI1 : (Try.prog.info? 2).map (·.size) = some 1 := by kernel_rfl
theorem results_cell_mid {fn : Func} {p : Tmp} {ty : TypeId} (h : fn.results = #[.cell p ty]) (tmps : Array Value) (w : World) (b : Nat) (cs : List Value) (d : TypeDesc)
    (hp : tmps.getD p undef = .pointer (some ⟨b, 0, none⟩)) (hr : w.rangeAt b 0 cs) (hu : Try.prog.underlying ty = some d) (hd : d.isRow = true) (hi : (Try.prog.info? ty).map (·.size) = some cs.length) :
    (results fn tmps).run Try.prog w = .ok (.agg cs.toArray) w := by
  have hp' : tmps[p]?.getD undef = .pointer (some ⟨b, 0, none⟩) := by simpa using hp
  simp [results, h, hp', asAddr, run_loadVar_mid w b 0 ty cs d hr hu hd hi]
theorem tab_nine {f : Nat → Int} : (arrV (tabL 9 f)).size = 9 := by rw [arrV_size, tabL_length]
theorem map_nine {l : List Int} (h : l.length = 9) : (l.map (Value.int .i64)).length = 9 := by rw [List.length_map, h]
end Go.Proofs.Ytjmecidbnoimnaa
namespace Go.Proofs.Ytjmecidbnoimnaa
open Go.RowKit
set_option linter.unusedVariables false
set_option maxRecDepth 20000
set_option linter.unusedSimpArgs false
/-- sum on the way: k entries of the second list are added -/
def addW (f g : List Int) (k : Nat) : List Int := tabL 9 fun i => f.getD i 0 + (if i < k then g.getD i 0 else 0)
theorem addW_zero (f g : List Int) : addW f g 0 = padL f := tabL_ext fun i _ => by rw [if_neg (by omega), Int.add_zero]
theorem addW_length (f g : List Int) (k : Nat) : (addW f g k).length = 9 := tabL_length _ _
theorem addW_at {f g : List Int} {k : Nat} (hk : k < 9) : (addW f g k).getD k 0 = f.getD k 0 := by
  unfold addW; rw [tabL_getD hk, if_neg (Nat.lt_irrefl _), Int.add_zero]
theorem addW_step {f g : List Int} {k : Nat} (hk : k < 9) : (addW f g k).set k (f.getD k 0 + g.getD k 0) = addW f g (k + 1) := by
  unfold addW
  rw [tab_set _ hk]
  refine tabL_ext fun i hi => ?_
  by_cases e : i = k
  · subst e; rw [if_pos rfl, if_pos (by omega)]
  · rw [if_neg e]
    by_cases h2 : i < k
    · rw [if_pos h2, if_pos (by omega)]
    · rw [if_neg h2, if_neg (by omega)]
theorem addW_end {f g : List Int} (hf : f.length ≤ 9) (hg : g.length ≤ 9) : trimL (addW f g g.length) = trimL (addL f g 1) := by
  rw [← add_pad hf hg]
  refine congrArg trimL (tabL_ext fun i _ => ?_)
  by_cases h : i < g.length
  · rw [if_pos h]
  · rw [if_neg h, getD_out (l := g) (by omega)]
def derW (f : List Int) (k : Nat) : List Int := tabL 9 fun j => if j + 1 < k then ((j : Int) + 1) * f.getD (j + 1) 0 else 0
theorem derW_one (f : List Int) : derW f 1 = tabL 9 fun _ => 0 := tabL_ext fun i _ => by rw [if_neg (by omega)]
theorem derW_step {f : List Int} {k m : Nat} (hk : k < 9) (hm : m + 1 = k) : (derW f k).set m ((k : Int) * f.getD k 0) = derW f (k + 1) := by
  unfold derW
  rw [tab_set _ (by omega)]
  refine tabL_ext fun i hi => ?_
  by_cases e : i = m
  · subst e; rw [if_pos rfl, if_pos (by omega), ← hm]; push_cast; rfl
  · rw [if_neg e]
    by_cases h2 : i + 1 < k
    · rw [if_pos h2, if_pos (by omega)]
    · rw [if_neg h2, if_neg (by omega)]
theorem derW_end {f : List Int} {k : Nat} (hf : f.length ≤ 9) (hk : k = f.length ∨ k = 1 ∧ f.length = 0) : trimL (derW f k) = trimL (derL f) := by
  rw [← der_pad hf]
  refine congrArg trimL (tabL_ext fun i _ => ?_)
  rcases hk with rfl | ⟨rfl, h⟩
  · rfl
  · rw [if_neg (by omega), if_neg (by omega)]
def revW (f : List Int) (k : Nat) : List Int := tabL 9 fun j => if f.length ≤ j + k ∧ j < f.length then f.getD (f.length - 1 - j) 0 else 0
theorem revW_zero (f : List Int) : revW f 0 = tabL 9 fun _ => 0 := tabL_ext fun i _ => by rw [if_neg (by omega)]
theorem revW_step {f : List Int} {k m : Nat} (hf : f.length ≤ 9) (hm : m + k + 1 = f.length) : (revW f k).set m (f.getD k 0) = revW f (k + 1) := by
  unfold revW
  rw [tab_set _ (by omega)]
  refine tabL_ext fun i hi => ?_
  by_cases e : i = m
  · subst e; rw [if_pos rfl, if_pos (by omega), show f.length - 1 - i = k by omega]
  · rw [if_neg e]
    by_cases h2 : f.length ≤ i + k ∧ i < f.length
    · rw [if_pos h2, if_pos (by omega)]
    · rw [if_neg h2, if_neg (by omega)]
theorem revW_end {f : List Int} (hf : f.length ≤ 9) : trimL (revW f f.length) = trimL (revL f) := by
  rw [← rev_pad hf]
  refine congrArg trimL (tabL_ext fun i _ => ?_)
  by_cases h : i < f.length
  · rw [if_pos ⟨by omega, h⟩, if_pos h]
  · rw [if_neg (by omega), if_neg h]
end Go.Proofs.Ytjmecidbnoimnaa
namespace Go.Proofs.Ytjmecidbnoimnaa
open Go.RowKit
set_option linter.unusedVariables false
set_option linter.unusedSimpArgs false
def monB (g : List Int) : Bool := !decide (g.length = 0) && (g.getD (g.length - 1) 0 == 1)
theorem monB_of {g : List Int} (h : monB g = true) : 1 ≤ g.length ∧ g.getD (g.length - 1) 0 = 1 := by
  simp only [monB, Bool.and_eq_true, Bool.not_eq_true', decide_eq_false_iff_not, beq_iff_eq] at h
  exact ⟨by omega, h.2⟩
def fnL (l : List Int) : Nat → Int := fun j => l.getD j 0
theorem subG_zero (r : Nat → Int) (g : List Int) (i : Nat) : subG r g 0 i = r := by
  funext j; unfold subG
  split <;> simp
theorem divS_stay {g : List Int} {r0 : Nat → Int} {N : Nat} (hN : N ≤ 9) (h0 : ∀ j, N ≤ j → r0 j = 0) : ∀ d, d ≤ 9 - N → divS g r0 9 d = r0
  | 0, _ => rfl
  | d + 1, h => by
    show subG (divS g r0 9 d) g (divS g r0 9 d (9 - 1 - d)) (9 - g.length - d) = r0
    rw [divS_stay hN h0 d (by omega), h0 (9 - 1 - d) (by omega), subG_zero]
theorem divS_move {g : List Int} {r0 : Nat → Int} {N : Nat} (hN : N ≤ 9) (hl : 1 ≤ g.length) (h0 : ∀ j, N ≤ j → r0 j = 0) : ∀ k, k + g.length ≤ N + 1 → divS g r0 9 (9 - N + k) = divS g r0 N k
  | 0, _ => divS_stay hN h0 (9 - N) (Nat.le_refl _)
  | k + 1, h => by
    show subG (divS g r0 9 (9 - N + k)) g (divS g r0 9 (9 - N + k) (9 - 1 - (9 - N + k))) (9 - g.length - (9 - N + k)) = subG (divS g r0 N k) g (divS g r0 N k (N - 1 - k)) (N - g.length - k)
    rw [divS_move hN hl h0 k (by omega), show 9 - 1 - (9 - N + k) = N - 1 - k by omega, show 9 - g.length - (9 - N + k) = N - g.length - k by omega]
theorem divC_stay {g : List Int} {r0 : Nat → Int} {N : Nat} (hN : N ≤ 9) (h0 : ∀ j, N ≤ j → r0 j = 0) {d : Nat} (hd : d < 9 - N) : divC g r0 9 d = 0 := by
  unfold divC
  rw [divS_stay hN h0 d (by omega)]; exact h0 _ (by omega)
theorem divC_move {g : List Int} {r0 : Nat → Int} {N : Nat} (hN : N ≤ 9) (hl : 1 ≤ g.length) (h0 : ∀ j, N ≤ j → r0 j = 0) {k : Nat} (hk : k + g.length ≤ N) : divC g r0 9 (9 - N + k) = divC g r0 N k := by
  unfold divC
  rw [divS_move hN hl h0 k (by omega), show 9 - 1 - (9 - N + k) = N - 1 - k by omega]
theorem fnL_out {l : List Int} : ∀ j, l.length ≤ j → fnL l j = 0 := fun j h => getD_out h
def dmR (f g : List Int) : List Int := tabL 9 (divS g (fnL f) 9 (10 - g.length))
def dmQl (f g : List Int) : List Int := tabL 9 fun j => if j + g.length ≤ 9 then quoC g (fnL f) 9 j else 0
def dmOk (f g : List Int) : Bool := ((List.range (10 - g.length)).all fun m => cofB (divC g (fnL f) 9 m)) && polyB (trimL (dmR f g))
def dmC (f g : List Int) : Int := if polyB f && polyB g then (if monB g then (if dmOk f g then 0 else 3) else 5) else 1
def dmQ (f g : List Int) : List Int := if dmC f g = 0 then trimL (dmQl f g) else []
def dmS (f g : List Int) : List Int := if dmC f g = 0 then trimL (dmR f g) else []
theorem cofB_of {x : Int} (h : cofB x = true) : -1000000 ≤ x ∧ x ≤ 1000000 := by
  simp only [cofB, inB, Bool.and_eq_true, decide_eq_true_eq] at h; exact h
theorem cofB_mk {x : Int} (h : -1000000 ≤ x ∧ x ≤ 1000000) : cofB x = true := inB_t h.1 h.2
theorem cofB_no {x : Int} (h : cofB x = false) : x < -1000000 ∨ 1000000 < x := by
  rcases cofB_cases x with ⟨h1, _⟩ | ⟨_, h2⟩
  · rw [h1] at h; cases h
  · exact h2
theorem divS_bd {f g : List Int} {N : Nat} (hf : ∀ i, -1000000 ≤ f.getD i 0 ∧ f.getD i 0 ≤ 1000000) (hg : ∀ i, -1000000 ≤ g.getD i 0 ∧ g.getD i 0 ≤ 1000000) :
    ∀ k, (∀ m, m < k → cofB (divC g (fnL f) N m) = true) → ∀ j, -(1000000 + (k : Int) * 1000000000000) ≤ divS g (fnL f) N k j ∧ divS g (fnL f) N k j ≤ 1000000 + (k : Int) * 1000000000000
  | 0, _, j => by have := hf j; show _ ≤ f.getD j 0 ∧ f.getD j 0 ≤ _; omega
  | k + 1, h, j => by
    have h1 := divS_bd hf hg k (fun m hm => h m (by omega)) j
    have hc := cofB_of (h k (by omega))
    show _ ≤ divS g (fnL f) N k j - (if N - g.length - k ≤ j then divC g (fnL f) N k * g.getD (j - (N - g.length - k)) 0 else 0) ∧ divS g (fnL f) N k j - (if N - g.length - k ≤ j then divC g (fnL f) N k * g.getD (j - (N - g.length - k)) 0 else 0) ≤ _
    have hm := mul_bd hc (hg (j - (N - g.length - k)))
    split <;> omega
/-- the rest, j numbers of g taken away, as a machine does it -/
def subW (r g : List Int) (c : Int) (i j : Nat) : List Int := tabL 9 fun t => if i ≤ t ∧ t < i + j then IntKind.i64.wrap (r.getD t 0 - IntKind.i64.wrap (c * g.getD (t - i) 0)) else r.getD t 0
theorem subW_length (r g : List Int) (c : Int) (i j : Nat) : (subW r g c i j).length = 9 := tabL_length _ _
theorem subW_zero {r g : List Int} {c : Int} {i : Nat} (h : r.length = 9) : subW r g c i 0 = r :=
  ext_getD (by rw [subW_length, h]) fun t ht => by
    rw [subW_length] at ht
    rw [subW, tabL_getD ht, if_neg (by omega)]
theorem subW_at {r g : List Int} {c : Int} {i j t : Nat} (ht : i + j = t) (h9 : t < 9) : (subW r g c i j).getD t 0 = r.getD t 0 := by
  rw [subW, tabL_getD h9, if_neg (by omega)]
theorem subW_step {r g : List Int} {c : Int} {i j t : Nat} (ht : i + j = t) (h9 : t < 9) :
    (subW r g c i j).set t (IntKind.i64.wrap (r.getD t 0 - IntKind.i64.wrap (c * g.getD j 0))) = subW r g c i (j + 1) := by
  unfold subW
  rw [tab_set _ h9]
  refine tabL_ext fun u hu => ?_
  by_cases e : u = t
  · rw [if_pos e, if_pos (by omega), e, show t - i = j by omega]
  · rw [if_neg e]
    by_cases h2 : i ≤ u ∧ u < i + j
    · rw [if_pos h2, if_pos (by omega)]
    · rw [if_neg h2, if_neg (by omega)]
def qW (f g : List Int) (k : Nat) : List Int := tabL 9 fun j => if 9 < j + g.length + k ∧ j + g.length ≤ 9 then quoC g (fnL f) 9 j else 0
def DGood (f g : List Int) (k : Nat) (rl ql : List Int) : Prop := rl = tabL 9 (divS g (fnL f) 9 k) ∧ ql = qW f g k ∧ ∀ m, m < k → cofB (divC g (fnL f) 9 m) = true
def DBad (f g : List Int) (k : Nat) (ql : List Int) : Prop := (∃ j, 9 < j + g.length + k ∧ j < 9 ∧ cofB (ql.getD j 0) = false) ∧ ∃ m, m < k ∧ cofB (divC g (fnL f) 9 m) = false
def DSt (f g : List Int) (k : Nat) (rl ql : List Int) : Prop := rl.length = 9 ∧ ql.length = 9 ∧ (DGood f g k rl ql ∨ DBad f g k ql)
theorem dst_start {f g : List Int} (hf : f.length ≤ 9) : DSt f g 0 (padL f) (tabL 9 fun _ => 0) := by
  refine ⟨padL_length f, tabL_length _ _, .inl ⟨?_, ?_, fun m h => by omega⟩⟩
  · refine ext_getD (by rw [padL_length, tabL_length]) fun i hi => ?_
    rw [padL_length] at hi
    rw [padL_getD hf, tabL_getD hi]; rfl
  · refine tabL_ext fun i hi => ?_
    rw [if_neg (by omega)]
theorem dst_step {f g rl ql : List Int} {i k : Nat} {c : Int} (hf : ∀ i, -1000000 ≤ f.getD i 0 ∧ f.getD i 0 ≤ 1000000) (hg : ∀ i, -1000000 ≤ g.getD i 0 ∧ g.getD i 0 ≤ 1000000) (hl : 1 ≤ g.length) (hi : i + g.length + k = 9)
    (h : DSt f g k rl ql) (hc : rl.getD (i + (g.length - 1)) 0 = c) : DSt f g (k + 1) (subW rl g c i g.length) (ql.set i c) := by
  obtain ⟨h1, h2, h3⟩ := h
  refine ⟨subW_length _ _ _ _ _, by rw [List.length_set]; exact h2, ?_⟩
  rcases h3 with ⟨rfl, rfl, hv⟩ | ⟨⟨j, hj, hj9, hjc⟩, m, hm, hmc⟩
  · have hce : c = divC g (fnL f) 9 k := by
      rw [← hc, tabL_getD (by omega)]; unfold divC; rw [show i + (g.length - 1) = 9 - 1 - k by omega]
    cases hcc : cofB c
    · refine .inr ⟨⟨i, by omega, by omega, ?_⟩, k, by omega, by rw [← hce]; exact hcc⟩
      rw [qW, tab_set _ (show i < 9 by omega), tabL_getD (show i < 9 by omega), if_pos rfl]; exact hcc
    · refine .inl ⟨?_, ?_, fun m hm => ?_⟩
      · unfold subW
        refine tabL_ext fun t ht => ?_
        rw [tabL_getD ht]
        have hb := divS_bd (N := 9) hf hg k hv t
        have hm := mul_bd (cofB_of hcc) (hg (t - i))
        have hk9 : (k : Int) ≤ 9 := by omega
        show _ = divS g (fnL f) 9 k t - (if 9 - g.length - k ≤ t then divC g (fnL f) 9 k * g.getD (t - (9 - g.length - k)) 0 else 0)
        rw [show 9 - g.length - k = i by omega, ← hce]
        by_cases h2 : i ≤ t ∧ t < i + g.length
        · rw [if_pos h2, if_pos h2.1, IntWalk.i64_in (c * g.getD (t - i) 0) (by omega), IntWalk.i64_in _ (by omega)]
        · rw [if_neg h2]
          by_cases h3 : i ≤ t
          · rw [if_pos h3, getD_out (l := g) (by omega), Int.mul_zero, Int.sub_zero]
          · rw [if_neg h3, Int.sub_zero]
      · unfold qW
        rw [tab_set _ (by omega)]
        refine tabL_ext fun t ht => ?_
        by_cases e : t = i
        · rw [if_pos e, if_pos (by omega), hce, e]; unfold quoC; rw [show 9 - g.length - i = k by omega]
        · rw [if_neg e]
          by_cases h2 : 9 < t + g.length + k ∧ t + g.length ≤ 9
          · rw [if_pos h2, if_pos (by omega)]
          · rw [if_neg h2, if_neg (by omega)]
      · by_cases e : m = k
        · rw [e, ← hce]; exact hcc
        · exact hv m (by omega)
  · refine .inr ⟨⟨j, by omega, hj9, ?_⟩, m, by omega, hmc⟩
    have : (ql.set i c).getD j 0 = ql.getD j 0 := by simp [List.getD, List.getElem?_set_ne (show i ≠ j by omega)]
    rw [this]; exact hjc
theorem trim_bad {l : List Int} {j : Nat} (h : cofB (l.getD j 0) = false) : resC l = 3 := by
  have : polyB (trimL l) = false := by
    cases hp : polyB (trimL l)
    · rfl
    · have := (polyB_of hp).2.1 j
      rw [trimL_getD] at this
      rw [cofB_mk this] at h; cases h
  simp [resC, this]
theorem dmOk_no {f g : List Int} {m : Nat} (hm : m < 10 - g.length) (h : cofB (divC g (fnL f) 9 m) = false) : dmOk f g = false := by
  have : ((List.range (10 - g.length)).all fun m => cofB (divC g (fnL f) 9 m)) = false := by
    rw [List.all_eq_false]
    exact ⟨m, List.mem_range.2 hm, by rw [h]; simp⟩
  unfold dmOk; rw [this, Bool.false_and]
theorem dmOk_yes {f g : List Int} (h : ∀ m, m < 10 - g.length → cofB (divC g (fnL f) 9 m) = true) : dmOk f g = polyB (trimL (dmR f g)) := by
  have : ((List.range (10 - g.length)).all fun m => cofB (divC g (fnL f) 9 m)) = true := by
    rw [List.all_eq_true]
    exact fun m hm => h m (List.mem_range.1 hm)
  unfold dmOk; rw [this, Bool.true_and]
theorem quo_valid {f g : List Int} (h : ∀ m, m < 10 - g.length → cofB (divC g (fnL f) 9 m) = true) : polyB (trimL (dmQl f g)) = true := by
  refine polyB_mk ?_ (fun i hi => ?_) (trimL_last _)
  · rw [trimL_length, dmQl, tabL_length]; exact trimN_le _ _
  · rw [trimL_getD]
    by_cases h9 : i < 9
    · rw [dmQl, tabL_getD h9]
      split
      · exact cofB_of (h _ (by omega))
      · omega
    · rw [getD_out (by rw [dmQl, tabL_length]; omega)]; omega
theorem dst_end {f g rl ql : List Int} (hl : 1 ≤ g.length) (hl9 : g.length ≤ 9) (h : DSt f g (10 - g.length) rl ql) :
    (resC ql = 0 ∧ resC rl = 0 ∧ dmOk f g = true ∧ resL ql = trimL (dmQl f g) ∧ resL rl = trimL (dmR f g)) ∨ (resC ql ≠ 0 ∧ dmOk f g = false) ∨ (resC ql = 0 ∧ resC rl ≠ 0 ∧ dmOk f g = false) := by
  obtain ⟨h1, h2, ⟨h3, h4, hv⟩ | ⟨⟨j, hj, hj9, hjc⟩, m, hm, hmc⟩⟩ := h
  · have hq : ql = dmQl f g := by
      rw [h4]; unfold qW dmQl
      refine tabL_ext fun t ht => ?_
      by_cases e : t + g.length ≤ 9
      · rw [if_pos (by omega), if_pos e]
      · rw [if_neg (by omega), if_neg e]
    have hr : rl = dmR f g := h3
    have hQ := quo_valid (f := f) hv
    have hO := dmOk_yes (f := f) hv
    subst hq hr
    cases hp : polyB (trimL (dmR f g))
    · rw [hp] at hO
      exact .inr (.inr ⟨by simp [resC, hQ], by simp [resC, hp], hO⟩)
    · rw [hp] at hO
      exact .inl ⟨by simp [resC, hQ], by simp [resC, hp], hO, by simp [resL, hQ], by simp [resL, hp]⟩
  · exact .inr (.inl ⟨by rw [trim_bad hjc]; omega, dmOk_no hm hmc⟩)
/-! the same over the list's own places -/
theorem own_quo {f g : List Int} (hf : f.length ≤ 9) (hl : 1 ≤ g.length) (h : g.length ≤ f.length) : trimL (tabL (f.length + 1 - g.length) (quoC g (fnL f) f.length)) = trimL (dmQl f g) := by
  refine trim_same fun i => ?_
  unfold dmQl
  by_cases h9 : i < 9
  · rw [tabL_getD h9]
    by_cases hi : i < f.length + 1 - g.length
    · rw [tabL_getD hi, if_pos (by omega)]
      unfold quoC
      rw [← divC_move hf hl fnL_out (show f.length - g.length - i + g.length ≤ f.length by omega), show 9 - f.length + (f.length - g.length - i) = 9 - g.length - i by omega]
    · rw [tabL_out (by omega)]
      split
      · unfold quoC; rw [divC_stay hf fnL_out (by omega)]
      · rfl
  · rw [tabL_out (by omega), tabL_out (by omega)]
theorem own_rest {f g : List Int} (hf : f.length ≤ 9) (hl : 1 ≤ g.length) (hm : g.getD (g.length - 1) 0 = 1) (h : g.length ≤ f.length) : trimL (tabL f.length (divS g (fnL f) f.length (f.length + 1 - g.length))) = trimL (dmR f g) := by
  refine trim_same fun i => ?_
  unfold dmR
  rw [show 10 - g.length = 9 - f.length + (f.length + 1 - g.length) by omega, divS_move hf hl fnL_out _ (by omega)]
  by_cases h9 : i < f.length
  · rw [tabL_getD h9, tabL_getD (by omega)]
  · rw [tabL_out (by omega)]
    by_cases h8 : i < 9
    · rw [tabL_getD h8, div_zero hm hl fnL_out _ (by omega) i (by omega)]
    · rw [tabL_out (by omega)]
theorem own_few {f g : List Int} (hf : f.length ≤ 9) (h : f.length < g.length) : trimL ([] : List Int) = trimL (dmQl f g) ∧ trimL f = trimL (dmR f g) := by
  constructor
  · refine trim_same fun i => ?_
    unfold dmQl
    by_cases h9 : i < 9
    · rw [tabL_getD h9]
      split
      · unfold quoC; rw [divC_stay hf fnL_out (by omega)]; simp
      · simp
    · rw [tabL_out (by omega)]; simp
  · refine trim_same fun i => ?_
    unfold dmR
    rw [divS_stay hf fnL_out _ (by omega)]
    by_cases h9 : i < 9
    · rw [tabL_getD h9]; rfl
    · rw [tabL_out (by omega), getD_out (by omega)]
theorem own_valid {f g : List Int} (hf : f.length ≤ 9) (hl : 1 ≤ g.length) (h : ∀ k, k + g.length ≤ f.length → cofB (divC g (fnL f) f.length k) = true) : ∀ m, m < 10 - g.length → cofB (divC g (fnL f) 9 m) = true := fun m hm => by
  by_cases h1 : m < 9 - f.length
  · rw [divC_stay hf fnL_out h1]; rfl
  · obtain ⟨k, rfl⟩ : ∃ k, m = 9 - f.length + k := ⟨m - (9 - f.length), by omega⟩
    rw [divC_move hf hl fnL_out (by omega)]; exact h k (by omega)
theorem own_bad {f g : List Int} (hf : f.length ≤ 9) (hl : 1 ≤ g.length) {k : Nat} (hk : k + g.length ≤ f.length) (h : cofB (divC g (fnL f) f.length k) = false) : dmOk f g = false := by
  refine dmOk_no (m := 9 - f.length + k) (by omega) ?_
  rw [divC_move hf hl fnL_out hk]; exact h
/-! the law -/
theorem monic_law {f g : List Int} (hf : polyB f = true) (hg : polyB g = true) (hm : monB g = true) (ho : dmOk f g = true) :
    (∀ x, pval (trimL (dmQl f g)) x * pval g x + pval (trimL (dmR f g)) x = pval f x) ∧ (trimL (dmR f g)).length < g.length ∧ polyB (trimL (dmQl f g)) = true ∧ polyB (trimL (dmR f g)) = true := by
  obtain ⟨hl, hm1⟩ := monB_of hm
  have hf9 := (polyB_of hf).1
  have hg9 := (polyB_of hg).1
  have hv : ∀ m, m < 10 - g.length → cofB (divC g (fnL f) 9 m) = true := by
    unfold dmOk at ho
    rw [Bool.and_eq_true, List.all_eq_true] at ho
    exact fun m h => ho.1 m (List.mem_range.2 h)
  have hp : polyB (trimL (dmR f g)) = true := by rw [← dmOk_yes hv]; exact ho
  refine ⟨fun x => ?_, ?_, quo_valid hv, hp⟩
  · rw [pval_trim, pval_trim]
    have h1 := div_law g (fnL f) hg9 x
    have e1 : pval f x = pv (fnL f) x 9 := pval_upto f x hf9
    have e2 : pval (dmR f g) x = pv (divS g (fnL f) 9 (9 - g.length + 1)) x 9 := by
      unfold dmR; rw [pval_tab, show 10 - g.length = 9 - g.length + 1 by omega]
    have e3 : pval (dmQl f g) x = pv (quoC g (fnL f) 9) x (9 - g.length + 1) := by
      unfold dmQl; rw [pval_tab]
      rw [← pv_congr (c := fun j => if j + g.length ≤ 9 then quoC g (fnL f) 9 j else 0) (n := 9 - g.length + 1) (fun i hi => if_pos (by omega))]
      have hp := pv_more (c := fun j => if j + g.length ≤ 9 then quoC g (fnL f) 9 j else 0) (n := 9 - g.length + 1) x (9 - (9 - g.length + 1)) (fun i hi => if_neg (by omega))
      rw [show 9 - g.length + 1 + (9 - (9 - g.length + 1)) = 9 by omega] at hp
      exact hp
    rw [e1, e2, e3, h1, Int.mul_comm]
  · have hz : ∀ j, g.length - 1 ≤ j → (trimL (dmR f g)).getD j 0 = 0 := fun j hj => by
      rw [trimL_getD]; unfold dmR
      by_cases h9 : j < 9
      · rw [tabL_getD h9]; exact div_zero hm1 hl (fun j hj => fnL_out j (by omega)) _ (by omega) j (by omega)
      · rw [tabL_out (by omega)]
    rcases (polyB_of hp).2.2 with h | h
    · omega
    · by_cases hh : (trimL (dmR f g)).length < g.length
      · exact hh
      · exact absurd (hz _ (by omega)) h
end Go.Proofs.Ytjmecidbnoimnaa
namespace Go.Proofs.Ytjmecidbnoimnaa
open Go.RowKit
set_option linter.unusedVariables false
set_option linter.unusedSimpArgs false
def VBd (l : List Int) : Prop := ∀ i, -1000000000000 ≤ l.getD i 0 ∧ l.getD i 0 ≤ 1000000000000
def KeepB (B : Nat) (W W' : World) : Prop := ∀ w0 : World, w0.heap.size ≤ B → Below w0.heap.size w0 W → Below w0.heap.size w0 W'
theorem keepB_refl (B : Nat) (W : World) : KeepB B W W := fun _ _ h => h
theorem keepB_trans {B : Nat} {W1 W2 W3 : World} (h : KeepB B W1 W2) (h' : KeepB B W2 W3) : KeepB B W1 W3 := fun w0 hw h0 => h' w0 hw (h w0 hw h0)
theorem keepB_set (B k : Nat) (W : World) (v : Value) : KeepB B W (W.setCell ⟨B, k, none⟩ v) := fun w0 hw h => h.setCell hw v
theorem keepB_drew (B : Nat) (W : World) : KeepB B W W.drew := fun w0 hw h => below_drewN h 1
def DivP (F : List Int) (a : Int) (k B : Nat) (W : World) (e : Ending) (W' : World) : Prop :=
  KeepB B W W' ∧ (e = .returned (.bool true) ∧ Nine W' B (shiftP F a (k + 1)) ∧ VBd (shiftP F a (k + 1)) ∨
    e = .returned (.bool false) ∧ ∃ i, k ≤ i ∧ i < 9 ∧ (evalD (shiftP F a k) a (9 - i) < -1000000000000 ∨ 1000000000000 < evalD (shiftP F a k) a (9 - i)))
set_option maxRecDepth 20000
theorem vbd_of {l : List Int} (h : ∀ i, -1000000 ≤ l.getD i 0 ∧ l.getD i 0 ≤ 1000000) : VBd l := fun i => by have := h i; omega
theorem shiftP_one {F : List Int} {x : Int} (h : F.length = 9) : (shiftP F x 1).getD 0 0 = evalD F x 9 := by
  show (tabL F.length _).getD 0 0 = _
  rw [tabL_getD (show 0 < F.length by omega), if_neg (Nat.lt_irrefl 0), h]
  rfl
end Go.Proofs.Ytjmecidbnoimnaa
namespace Go.Proofs.Ytjmecidbnoimnaa
open Go.RowKit
set_option linter.unusedVariables false
set_option linter.unusedSimpArgs false
set_option maxRecDepth 20000
theorem isMonic_any {o : Option Addr} {n c : Nat} {l : List Int} {w : World} (h : Seen w o n c l) :
    Calls Try.prog 89 #[.slice o n c] w fun e w' => e = .returned (.bool (monB l)) ∧ w = w' := by
  obtain ⟨hl, hn, hno, hnc, g, h1, h2⟩ := h
  clear hno hnc
  by_cases h0 : n = 0
  · have HP := Lib.hid (show monB l = false by simp [monB, ← hl, h0])
    clear h1 h2 hl
    subst h0
    go_enter Try.func89, Try.ntmps89
    go_wp2_with fail
    go_ret
    rw [HP.out]; exact ⟨rfl, rfl⟩
  · obtain ⟨rfl, _⟩ := h1 (by omega)
    have a2 := h2 (n - 1) (by omega)
    have HP := Lib.hid (show monB l = (l.getD (n - 1) 0 == 1) by simp [monB, ← hl, h0])
    generalize l.getD (n - 1) 0 = x at *
    have h0' : 0 < n := by omega
    have hn1 : (n : Int) - 1 = ((n - 1 : Nat) : Int) := by omega
    clear h1 h2 hl
    go_enter Try.func89, Try.ntmps89
    go_wp2_with fail
    go_ret
    rw [HP.out]; exact ⟨rfl, rfl⟩
theorem monic_two {f g : List Int} : dmC f g = 1 ∨ (polyB f = true ∧ polyB g = true ∧ (dmC f g = 5 ∨ monB g = true)) := by
  unfold dmC
  cases hf : polyB f <;> cases hg : polyB g <;> cases hm : monB g <;> simp
theorem dmC_val {f g : List Int} (hf : polyB f = true) (hg : polyB g = true) (hm : monB g = true) : dmC f g = if dmOk f g then 0 else 3 := by simp [dmC, hf, hg, hm]
def Int2Post (l m : List Int) (c : Int) (w : World) (e : Ending) (w' : World) : Prop :=
  ∃ v u, e = .returned (.tuple #[v, u, .int .i64 c]) ∧ IntRow w.heap.size w' v l ∧ IntRow w.heap.size w' u m ∧ Below w.heap.size w w' ∧ (v.ownBlock = none ∨ v.ownBlock ≠ u.ownBlock)
theorem apart_of {w1 w2 : World} {b : Nat} {v u : Value} {l m : List Int} (h : IntRow b w1 v l) (h2 : IntRow w1.heap.size w2 u m) : v.ownBlock = none ∨ v.ownBlock ≠ u.ownBlock := by
  cases hv : v.ownBlock with
  | none => exact .inl rfl
  | some k =>
    right
    intro e
    have a1 := World.ownsRow.lt h k hv
    have a2 := World.ownsRow.lt h2 k e.symm
    omega
theorem dm_none {f g : List Int} (h : dmC f g ≠ 0) : dmQ f g = [] ∧ dmS f g = [] := by simp [dmQ, dmS, h]
theorem dm_some {f g : List Int} (h : dmC f g = 0) : dmQ f g = trimL (dmQl f g) ∧ dmS f g = trimL (dmR f g) := by simp [dmQ, dmS, h]
end Go.Proofs.Ytjmecidbnoimnaa
namespace Go.Proofs.Ytjmecidbnoimnaa
open Go.RowKit
set_option linter.unusedVariables false
end Go.Proofs.Ytjmecidbnoimnaa
namespace Go.Proofs.Ytjmecidbnoimnaa
open Go.RowKit
set_option linter.unusedVariables false
/-- the divisors from 1 to k -/
def specL (N k : Nat) : List Nat := (List.range' 1 k).filter fun d => N % d == 0
def implStep (N d : Nat) : List Nat := if N % d = 0 then (if d * d ≠ N then [d, N / d] else [d]) else []
/-- the divisors from 1 to k, each with the number divided by it -/
def implL (N : Nat) : Nat → List Nat
  | 0 => []
  | k + 1 => implL N k ++ implStep N (k + 1)
theorem specL_zero (N : Nat) : specL N 0 = [] := rfl
theorem specL_yes {N k : Nat} (h : N % (k + 1) = 0) : specL N (k + 1) = specL N k ++ [k + 1] := by
  rw [specL, List.range'_1_concat, List.filter_append, specL, Nat.add_comm 1 k]
  simp [h]
theorem specL_no {N k : Nat} (h : N % (k + 1) ≠ 0) : specL N (k + 1) = specL N k := by
  rw [specL, List.range'_1_concat, List.filter_append, specL, Nat.add_comm 1 k]
  simp [h]
theorem specL_length (N k : Nat) : (specL N k).length ≤ k := by
  have := List.length_filter_le (fun d => N % d == 0) (List.range' 1 k)
  simpa [specL] using this
theorem implL_length (N k : Nat) : (implL N k).length ≤ 2 * k := by
  induction k with
  | zero => simp [implL]
  | succ k ih =>
    rw [implL, List.length_append]
    have : (implStep N (k + 1)).length ≤ 2 := by unfold implStep; split <;> (try split) <;> simp
    omega
theorem mem_specL {N k x : Nat} : x ∈ specL N k ↔ 1 ≤ x ∧ x ≤ k ∧ N % x = 0 := by
  simp [specL, List.mem_filter, List.mem_range'_1]; omega
theorem mem_implStep {N d x : Nat} : x ∈ implStep N d ↔ N % d = 0 ∧ (x = d ∨ (d * d ≠ N ∧ x = N / d)) := by
  unfold implStep
  by_cases h : N % d = 0
  · by_cases h2 : d * d = N
    · simp [h, h2]
    · simp [h, h2]
  · simp [h]
theorem mem_implL {N k x : Nat} : x ∈ implL N k ↔ ∃ d, 1 ≤ d ∧ d ≤ k ∧ N % d = 0 ∧ (x = d ∨ (d * d ≠ N ∧ x = N / d)) := by
  induction k with
  | zero => simp [implL]; omega
  | succ k ih =>
    rw [implL, List.mem_append, ih, mem_implStep]
    constructor
    · rintro (⟨d, h1, h2, h3⟩ | h)
      · exact ⟨d, h1, by omega, h3⟩
      · exact ⟨k + 1, by omega, by omega, h⟩
    · rintro ⟨d, h1, h2, h3⟩
      by_cases e : d = k + 1
      · subst e; exact .inr h3
      · exact .inl ⟨d, h1, by omega, h3⟩
theorem cofactor {N d : Nat} (hd : N % d = 0) : N = d * (N / d) := by
  have := Nat.div_add_mod N d; omega
theorem co_dvd {N d : Nat} (h1 : 1 ≤ N) (hd : N % d = 0) : N % (N / d) = 0 ∧ 1 ≤ N / d := by
  have e := cofactor hd
  have : 1 ≤ N / d := by
    rcases Nat.eq_zero_or_pos (N / d) with h | h
    · rw [h] at e; omega
    · exact h
  refine ⟨?_, this⟩
  rw [show N % (N / d) = (d * (N / d)) % (N / d) by rw [← e]]
  exact Nat.mul_mod_left _ _
theorem implL_nodup {N : Nat} (hN : 1 ≤ N) : ∀ k, k * k ≤ N → (implL N k).Nodup := by
  intro k
  induction k with
  | zero => intro _; exact List.nodup_nil
  | succ k ih =>
    intro hk
    have hk' : k * k ≤ N := Nat.le_trans (Nat.mul_le_mul (by omega) (by omega)) hk
    rw [implL, List.nodup_append]
    refine ⟨ih hk', ?_, ?_⟩
    · unfold implStep
      split
      · rename_i h
        split
        · rename_i h2
          have e := cofactor h
          simp
          intro h3; apply h2; rw [← h3] at e; omega
        · simp
      · simp
    · intro a ha b hb hab
      subst hab
      rw [mem_implL] at ha
      rw [mem_implStep] at hb
      obtain ⟨d, h1, h2, h3, h4⟩ := ha
      obtain ⟨h5, h6⟩ := hb
      have e1 := cofactor h3
      have e2 := cofactor h5
      have hlt : d < k + 1 := by omega
      have key : N / d ≤ k + 1 → False := by
        intro h
        have : d * (N / d) < (k + 1) * (k + 1) := Nat.lt_of_le_of_lt (Nat.mul_le_mul_left d h) (Nat.mul_lt_mul_of_pos_right hlt (by omega))
        omega
      have key2 : N / (k + 1) ≥ k + 1 := by
        refine Nat.le_of_not_lt fun h => ?_
        have : (k + 1) * (N / (k + 1)) < (k + 1) * (k + 1) := Nat.mul_lt_mul_of_pos_left h (by omega)
        omega
      rcases h4 with h4 | ⟨_, h4⟩ <;> rcases h6 with h6 | ⟨_, h6⟩
      · omega
      · omega
      · exact key (by omega)
      · have h7 : N / d = N / (k + 1) := by omega
        have : d * (N / d) < (k + 1) * (N / d) := Nat.mul_lt_mul_of_pos_right hlt (by omega)
        rw [h7] at this e1
        omega
theorem impl_mem_spec {N K : Nat} (hN : 1 ≤ N) (h1 : K * K ≤ N) (h2 : N < (K + 1) * (K + 1)) (x : Nat) : x ∈ implL N K ↔ x ∈ specL N N := by
  rw [mem_implL, mem_specL]
  have le_of : ∀ {d}, N % d = 0 → d ≤ N := fun {d} hd => by
    have e := cofactor hd
    have := (co_dvd hN hd).2
    have : d * 1 ≤ d * (N / d) := Nat.mul_le_mul_left d this
    omega
  constructor
  · rintro ⟨d, g1, g2, g3, g4⟩
    rcases g4 with rfl | ⟨_, rfl⟩
    · exact ⟨g1, le_of g3, g3⟩
    · obtain ⟨c1, c2⟩ := co_dvd hN g3
      exact ⟨c2, le_of c1, c1⟩
  · rintro ⟨g1, g2, g3⟩
    by_cases hx : x ≤ K
    · exact ⟨x, g1, hx, g3, .inl rfl⟩
    · obtain ⟨c1, c2⟩ := co_dvd hN g3
      have e := cofactor g3
      have hy : N / x ≤ K := by
        refine Nat.le_of_not_lt fun h => ?_
        have : (K + 1) * (K + 1) ≤ x * (N / x) := Nat.mul_le_mul (by omega) (by omega)
        omega
      have e2 := cofactor c1
      refine ⟨N / x, c2, hy, c1, .inr ⟨?_, ?_⟩⟩
      · intro h
        have : (N / x) * (N / x) < x * (N / x) := Nat.mul_lt_mul_of_pos_right (by omega) (by omega)
        omega
      · have h3 : (N / x) * x = (N / x) * (N / (N / x)) := by rw [← e2, Nat.mul_comm]; omega
        exact Nat.eq_of_mul_eq_mul_left (by omega) h3
/-- the numbers as Go has them -/
def ints (l : List Nat) : List Int := l.map fun (d : Nat) => (d : Int)
theorem ints_length (l : List Nat) : (ints l).length = l.length := by simp [ints]
theorem sort_impl {N K : Nat} (hN : 1 ≤ N) (h1 : K * K ≤ N) (h2 : N < (K + 1) * (K + 1)) :
    ((ints (implL N K)).mergeSort fun x y => decide (x ≤ y)) = ints (specL N N) := by
  have hs : (specL N N).Pairwise (· < ·) := List.Pairwise.filter _ (List.pairwise_lt_range' 1)
  have hp : (implL N K).Perm (specL N N) := (List.perm_ext_iff_of_nodup (implL_nodup hN K h1) (hs.imp (fun h => Nat.ne_of_lt h))).2 (impl_mem_spec hN h1 h2)
  refine List.Perm.eq_of_pairwise (le := fun (a b : Int) => decide (a ≤ b) = true) (fun a b _ _ g1 g2 => ?_) ?_ ?_ ((List.mergeSort_perm _ _).trans (hp.map _))
  · simp at g1 g2; omega
  · exact List.pairwise_mergeSort (fun a b c g1 g2 => by simp at *; omega) (fun a b => by simp; omega) _
  · refine List.Pairwise.map _ (fun a b h => ?_) hs
    simp; omega
theorem same_length {N K : Nat} (hN : 1 ≤ N) (h1 : K * K ≤ N) (h2 : N < (K + 1) * (K + 1)) : (implL N K).length = (specL N N).length := by
  have := congrArg List.length (sort_impl hN h1 h2)
  rw [List.length_mergeSort, ints_length, ints_length] at this; exact this
end Go.Proofs.Ytjmecidbnoimnaa
namespace Go.Proofs.Ytjmecidbnoimnaa
open Go.RowKit
set_option linter.unusedVariables false
def pprod (l : List (Int × Int)) : Int := l.foldr (fun p a => p.1 ^ p.2.toNat * a) 1
theorem pprod_nil : pprod [] = 1 := rfl
theorem pprod_cons (p : Int × Int) (l : List (Int × Int)) : pprod (p :: l) = p.1 ^ p.2.toNat * pprod l := rfl
theorem pprod_append (a b : List (Int × Int)) : pprod (a ++ b) = pprod a * pprod b := by
  induction a with
  | nil => simp [pprod_nil]
  | cons p a ih => rw [List.cons_append, pprod_cons, pprod_cons, ih, Int.mul_assoc]
/-- how often p divides n, and what remains -/
theorem vRel_prod {n p : Int} (hp : 2 ≤ p) : ∀ (f : Nat) (m c : Int), VRel n p m c → m * p ^ c.toNat = n → m.natAbs ≤ f →
    valRest n p * p ^ (valCount n p).toNat = n ∧ (valRest n p).tmod p ≠ 0 ∧ c ≤ valCount n p := by
  intro f
  induction f with
  | zero => intro m c h _ hf; have := h.1; omega
  | succ f ih =>
    intro m c h hm hf
    by_cases h0 : m.tmod p = 0
    · obtain ⟨h2, h3⟩ := vRel_step hp h h0
      have e := Int.tmod_add_mul_tdiv m p
      rw [h0] at e
      have hc := h.2.1
      obtain ⟨a, b, c'⟩ := ih _ _ h2 (by
        rw [← hm, show (c + 1).toNat = c.toNat + 1 by omega, Int.pow_succ]
        have e2 : m = p * m.tdiv p := by omega
        calc m.tdiv p * (p ^ c.toNat * p) = (p * m.tdiv p) * p ^ c.toNat := by grind
          _ = m * p ^ c.toNat := by rw [← e2]) (by omega)
      exact ⟨a, b, by omega⟩
    · obtain ⟨e1, e2⟩ := vRel_end h h0
      rw [← e1, ← e2]
      exact ⟨hm, h0, Int.le_refl _⟩
theorem vT_prod {n p : Int} (hp : 2 ≤ p) (h0 : n ≠ 0) (h1 : n.natAbs ≤ 1000000000000) : valRest n p * p ^ (valCount n p).toNat = n ∧ (valRest n p).tmod p ≠ 0 := by
  obtain ⟨a, b, _⟩ := vRel_prod hp n.natAbs n 0 (vRel_start h0 h1) (by simp) (Nat.le_refl _)
  exact ⟨a, b⟩
/-- what holds of a number that is being divided out: it divides on exactly while fewer than valCount steps are done -/
theorem vRel_more {n p m c : Int} (hp : 2 ≤ p) (h : VRel n p m c) : (m.tmod p = 0 ↔ c < valCount n p) ∧ c ≤ valCount n p := by
  have le : ∀ (f : Nat) (m c : Int), VRel n p m c → m.natAbs ≤ f → c ≤ valCount n p := by
    intro f
    induction f with
    | zero => intro m c h hf; have := h.1; omega
    | succ f ih =>
      intro m c h hf
      by_cases h0 : m.tmod p = 0
      · obtain ⟨h2, h3⟩ := vRel_step hp h h0
        have := ih _ _ h2 (by omega)
        omega
      · have := (vRel_end h h0).1; omega
  refine ⟨⟨fun h0 => ?_, fun hlt => ?_⟩, le _ m c h (Nat.le_refl _)⟩
  · obtain ⟨h2, h3⟩ := vRel_step hp h h0
    have := le _ _ _ h2 (Nat.le_refl _)
    omega
  · by_cases h0 : m.tmod p = 0
    · exact h0
    · have := (vRel_end h h0).1; omega
theorem noDiv_isPrime {q : Int} {k : Nat} (h : NoDiv q k) (hk : q < (k : Int) * k) (h1 : 2 ≤ q) (h2 : q ≤ 1000000) : isPrimeB q = true := by
  rw [isPrimeB_in h1 h2]; exact primeB_true h hk
theorem noDiv_dvd {m r : Int} {k : Nat} (h : NoDiv m k) (hd : ∃ c, m = r * c) : NoDiv r k := by
  intro j h1 h2 h3
  obtain ⟨c, hc⟩ := hd
  refine h j h1 h2 ?_
  have : r = (j : Int) * (r / j) := by have := Int.mul_ediv_add_emod r j; omega
  rw [hc, this, Int.mul_assoc]
  exact Int.mul_emod_right _ _
/-- primes, strictly increasing and below d, with exponents of at least 1 -/
def Rising (d : Int) (l : List (Int × Int)) : Prop :=
  (∀ i, i < l.length → isPrimeB (l.getD i (0, 0)).1 = true ∧ 1 ≤ (l.getD i (0, 0)).2 ∧ (l.getD i (0, 0)).1 < d) ∧
  ∀ i, i + 1 < l.length → (l.getD i (0, 0)).1 < (l.getD (i + 1) (0, 0)).1
theorem getD_append_left {α : Type} {l : List α} {a z : α} {i : Nat} (h : i < l.length) : (l ++ [a]).getD i z = l.getD i z := by
  simp [List.getD, List.getElem?_append_left h]
theorem getD_append_right {α : Type} {l : List α} {a z : α} : (l ++ [a]).getD l.length z = a := by
  simp [List.getD]
theorem rising_snoc {d d' : Int} {l : List (Int × Int)} {a b : Int} (h : Rising d l) (hp : isPrimeB a = true) (hb : 1 ≤ b) (ha : d ≤ a) (hd : a < d') : Rising d' (l ++ [(a, b)]) := by
  refine ⟨fun i hi => ?_, fun i hi => ?_⟩
  · rw [List.length_append, List.length_singleton] at hi
    by_cases e : i < l.length
    · rw [getD_append_left e]
      obtain ⟨x, y, z⟩ := h.1 i e
      exact ⟨x, y, by omega⟩
    · have : i = l.length := by omega
      subst this
      rw [getD_append_right]
      exact ⟨hp, hb, hd⟩
  · rw [List.length_append, List.length_singleton] at hi
    by_cases e : i + 1 < l.length
    · rw [getD_append_left e, getD_append_left (by omega)]
      exact h.2 i e
    · have e2 : i + 1 = l.length := by omega
      rw [getD_append_left (by omega), e2, getD_append_right]
      have := (h.1 i (by omega)).2.2
      show _ < a
      omega
theorem rising_mono {d d' : Int} {l : List (Int × Int)} (h : Rising d l) (hd : d ≤ d') : Rising d' l :=
  ⟨fun i hi => by obtain ⟨a, b, c⟩ := h.1 i hi; exact ⟨a, b, by omega⟩, h.2⟩
/-- what holds of the answer -/
structure Good (n : Int) (l : List (Int × Int)) : Prop where
  rise : Rising (n + 1) l
  prod : pprod l = n
theorem factT_good {n : Int} (h0 : 1 ≤ n) (h1 : n ≤ 1000000) : Good n (factT n) := by
  have key : ∀ (f : Nat) (m : Int) (d : Nat) (acc : List (Int × Int)), FRel n m d acc → m ≤ n → pprod acc * m = n → NoDiv m d → Rising d acc → Rising (n + 1) acc → 1002 - d ≤ f → Good n (factT n) := by
    intro f
    induction f with
    | zero => intro m d acc h _ _ _ _ _ hf; have := h.2.2.2.1; omega
    | succ f ih =>
      intro m d acc h hmn hp hn hr hr2 hf
      have m1 := h.1
      have m2 := h.2.1
      have d2 := h.2.2.1
      by_cases hd : (d : Int) * d ≤ m
      · have hs := fRel_step h hd
        obtain ⟨a, b, c, e⟩ := vT_props (p := d) (by omega) m1 m2
        obtain ⟨v1, v2⟩ := vT_prod (n := m) (p := d) (by omega) (by omega) (by omega)
        have hnr : NoDiv (valRest m d) d := noDiv_dvd hn ⟨_, v1.symm⟩
        have hnd : NoDiv (valRest m d) (d + 1) := noDiv_succ hnr (by rw [← Int.tmod_eq_emod_of_nonneg (by omega)]; exact v2)
        by_cases hc : 0 < valCount m d
        · rw [if_pos hc] at hs
          have hdm : m % (d : Int) = 0 := by
            rw [← v1, show (valCount m d).toNat = ((valCount m d).toNat - 1) + 1 by omega, Int.pow_succ, ← Int.mul_assoc]
            exact Int.mul_emod_left _ _
          have hdd : NoDiv (d : Int) d := by
            refine noDiv_dvd hn ⟨m / d, ?_⟩
            have := Int.mul_ediv_add_emod m d; omega
          have hsq : (d : Int) < (d : Int) * d := by
            have : d * 2 ≤ d * d := Nat.mul_le_mul_left d d2
            have : ((d * 2 : Nat) : Int) ≤ ((d * d : Nat) : Int) := by exact_mod_cast this
            simp at this; omega
          have hprime := noDiv_isPrime hdd hsq (by omega) (by omega)
          refine ih _ _ _ hs (by omega) ?_ hnd (rising_snoc hr hprime (by omega) (Int.le_refl _) (by omega)) (rising_snoc hr hprime (by omega) (Int.le_refl _) (by omega)) (by omega)
          rw [pprod_append, pprod_cons, pprod_nil, Int.mul_one, Int.mul_assoc, Int.mul_comm ((d : Int) ^ _), v1, hp]
        · rw [if_neg hc] at hs
          have hz : valRest m d = m := e (by omega)
          rw [hz] at hs hnd
          exact ih _ _ _ hs hmn hp hnd (rising_mono hr (by omega)) hr2 (by omega)
      · rw [fRel_end h hd]
        by_cases hm : 1 < m
        · rw [if_pos hm]
          have hprime := noDiv_isPrime hn (by omega) (by omega) m2
          have hdm : (d : Int) ≤ m := by
            refine Int.le_of_not_gt fun hlt => ?_
            exact hn m.toNat (by omega) (by omega) (by rw [show ((m.toNat : Nat) : Int) = m by omega]; exact Int.emod_self)
          exact ⟨rising_snoc hr hprime (by omega) hdm (by omega), by
            rw [pprod_append, pprod_cons, pprod_nil]
            show pprod acc * (m ^ 1 * 1) = n
            grind⟩
        · rw [if_neg hm]
          have : m = 1 := by omega
          subst this
          exact ⟨hr2, by simpa using hp⟩
  exact key _ n 2 [] (fRel_start h0 h1) (Int.le_refl _) (by simp [pprod_nil]) (noDiv_two n) ⟨fun i hi => by simp at hi, fun i hi => by simp at hi⟩ ⟨fun i hi => by simp at hi, fun i hi => by simp at hi⟩ (Nat.le_refl _)
theorem isPrimeB_two {q : Int} (h : isPrimeB q = true) : 2 ≤ q ∧ q ≤ 1000000 := by
  unfold isPrimeB inB at h; simp at h; exact ⟨h.1.1, h.1.2⟩
theorem pow_ge_one {p : Int} (h : 2 ≤ p) : ∀ e : Nat, 1 ≤ p ^ e := by
  intro e
  induction e with
  | zero => simp
  | succ e ih =>
    rw [Int.pow_succ]
    have : 1 * 1 ≤ p ^ e * p := Int.mul_le_mul ih (by omega) (by omega) (by omega)
    omega
theorem pow_mono {p : Int} (h : 2 ≤ p) {e E : Nat} (he : e ≤ E) : p ^ e ≤ p ^ E := by
  obtain ⟨k, rfl⟩ := Nat.exists_eq_add_of_le he
  rw [Int.pow_add]
  have h1 := pow_ge_one h e
  have h2 := pow_ge_one h k
  have : p ^ e * 1 ≤ p ^ e * p ^ k := Int.mul_le_mul_of_nonneg_left h2 (by omega)
  omega
theorem pprod_ge_one : ∀ l : List (Int × Int), (∀ q ∈ l, 2 ≤ q.1) → 1 ≤ pprod l := by
  intro l
  induction l with
  | nil => intro _; simp [pprod_nil]
  | cons a l ih =>
    intro h
    rw [pprod_cons]
    have h1 := ih (fun q hq => h q (List.mem_cons_of_mem _ hq))
    have h2 := pow_ge_one (h a List.mem_cons_self) a.2.toNat
    have : 1 * 1 ≤ a.1 ^ a.2.toNat * pprod l := Int.mul_le_mul h2 h1 (by omega) (by omega)
    omega
theorem rising_mem {d : Int} {l : List (Int × Int)} (h : Rising d l) : ∀ q ∈ l, 2 ≤ q.1 := by
  intro q hq
  obtain ⟨i, hi, rfl⟩ := List.getElem_of_mem hq
  have := (h.1 i hi).1
  rw [show l.getD i (0, 0) = l[i] by simp [List.getD, hi]] at this
  exact (isPrimeB_two this).1
/-- the product of the first i powers -/
def upto (l : List (Int × Int)) (i : Nat) : Int := pprod (l.take i)
theorem upto_zero (l : List (Int × Int)) : upto l 0 = 1 := rfl
theorem upto_succ {l : List (Int × Int)} {i : Nat} (h : i < l.length) : upto l (i + 1) = upto l i * (l.getD i (0, 0)).1 ^ (l.getD i (0, 0)).2.toNat := by
  unfold upto
  rw [List.take_succ_eq_append_getElem h, pprod_append, pprod_cons, pprod_nil, Int.mul_one]
  simp [List.getD, h]
theorem good_part {n : Int} {l : List (Int × Int)} (hg : Good n l) {i e : Nat} (hi : i < l.length) (he : e ≤ (l.getD i (0, 0)).2.toNat) :
    1 ≤ upto l i * (l.getD i (0, 0)).1 ^ e ∧ upto l i * (l.getD i (0, 0)).1 ^ e ≤ n := by
  have hm := rising_mem hg.rise
  have h1 : 1 ≤ upto l i := pprod_ge_one _ (fun q hq => hm q (List.mem_of_mem_take hq))
  have hp : 2 ≤ (l.getD i (0, 0)).1 := (isPrimeB_two (hg.rise.1 i hi).1).1
  have h2 := pow_ge_one hp e
  have h3 := pow_mono hp he
  have h4 : 1 ≤ pprod (l.drop (i + 1)) := pprod_ge_one _ (fun q hq => hm q (List.mem_of_mem_drop hq))
  have h5 : upto l (i + 1) * pprod (l.drop (i + 1)) = n := by
    rw [← hg.prod]; unfold upto; rw [← pprod_append, List.take_append_drop]
  rw [upto_succ hi] at h5
  have h6 : 1 * 1 ≤ upto l i * (l.getD i (0, 0)).1 ^ e := Int.mul_le_mul h1 h2 (by omega) (by omega)
  have h7 : upto l i * (l.getD i (0, 0)).1 ^ e ≤ upto l i * (l.getD i (0, 0)).1 ^ (l.getD i (0, 0)).2.toNat := Int.mul_le_mul_of_nonneg_left h3 (by omega)
  have h8 : upto l i * (l.getD i (0, 0)).1 ^ (l.getD i (0, 0)).2.toNat * 1 ≤ upto l i * (l.getD i (0, 0)).1 ^ (l.getD i (0, 0)).2.toNat * pprod (l.drop (i + 1)) := Int.mul_le_mul_of_nonneg_left h4 (by omega)
  omega
theorem upto_all {n : Int} {l : List (Int × Int)} (hg : Good n l) : upto l l.length = n := by
  unfold upto; rw [List.take_length]; exact hg.prod
/-- the sorted divisors, read from both ends -/
theorem divs_rev {N : Nat} (hN : 1 ≤ N) : specL N N = ((specL N N).map fun x => N / x).reverse := by
  have hs : (specL N N).Pairwise (· < ·) := List.Pairwise.filter _ (List.pairwise_lt_range' 1)
  have hpos : ∀ x ∈ specL N N, 1 ≤ x ∧ N % x = 0 := fun x hx => by obtain ⟨a, _, c⟩ := mem_specL.1 hx; exact ⟨a, c⟩
  have hr : (((specL N N).map fun x => N / x).reverse).Pairwise (· < ·) := by
    rw [List.pairwise_reverse, List.pairwise_map]
    refine List.Pairwise.imp_of_mem (fun {a b} ha hb hab => ?_) hs
    have e1 := cofactor (hpos a ha).2
    have e2 := cofactor (hpos b hb).2
    refine Nat.lt_of_not_le fun hle => ?_
    have h1 : a * (N / a) ≤ a * (N / b) := Nat.mul_le_mul_left a hle
    have h2 : a * (N / b) < b * (N / b) := Nat.mul_lt_mul_of_pos_right hab (co_dvd hN (hpos b hb).2).2
    omega
  refine List.Perm.eq_of_pairwise (le := (· < ·)) (fun a b _ _ g1 g2 => by omega) hs hr ?_
  refine (List.perm_ext_iff_of_nodup (hs.imp (fun h => Nat.ne_of_lt h)) (hr.imp (fun h => Nat.ne_of_lt h))).2 fun x => ?_
  rw [List.mem_reverse, List.mem_map]
  have le_of : ∀ {d}, N % d = 0 → d ≤ N := fun {d} hd => by
    have e := cofactor hd
    have := (co_dvd hN hd).2
    have : d * 1 ≤ d * (N / d) := Nat.mul_le_mul_left d this
    omega
  constructor
  · intro hx
    obtain ⟨c1, c2⟩ := co_dvd hN (hpos x hx).2
    have e := cofactor (hpos x hx).2
    have e2 := cofactor c1
    refine ⟨N / x, mem_specL.2 ⟨c2, le_of c1, c1⟩, ?_⟩
    have h3 : (N / x) * x = (N / x) * (N / (N / x)) := by rw [← e2, Nat.mul_comm]; omega
    exact (Nat.eq_of_mul_eq_mul_left (by omega) h3).symm
  · rintro ⟨y, hy, rfl⟩
    obtain ⟨c1, c2⟩ := co_dvd hN (hpos y hy).2
    exact mem_specL.2 ⟨c2, le_of c1, c1⟩
theorem divs_pair {N i : Nat} (hN : 1 ≤ N) (hi : i < (specL N N).length) :
    (ints (specL N N)).getD i 0 * (ints (specL N N)).getD ((specL N N).length - 1 - i) 0 = (N : Int) := by
  obtain ⟨L, hL⟩ : ∃ L, L = specL N N := ⟨_, rfl⟩
  have hr := divs_rev hN
  have hpos : ∀ x ∈ specL N N, 1 ≤ x ∧ N % x = 0 := fun x hx => by obtain ⟨a, _, c⟩ := mem_specL.1 hx; exact ⟨a, c⟩
  rw [← hL] at hr hi hpos ⊢
  have hj : L.length - 1 - i < L.length := by omega
  have e1 : L[i] = N / L[L.length - 1 - i] := by
    have := congrArg (fun l => l[i]?) hr
    simp [hi] at this
    exact this
  have e2 := cofactor (hpos _ (List.getElem_mem hj)).2
  have e3 : L[i] * L[L.length - 1 - i] = N := by rw [e1, Nat.mul_comm]; omega
  simp only [ints, List.getD]
  rw [List.getElem?_map, List.getElem?_map, List.getElem?_eq_getElem hi, List.getElem?_eq_getElem hj]
  show ((L[i] : Nat) : Int) * ((L[L.length - 1 - i] : Nat) : Int) = (N : Int)
  exact_mod_cast e3
end Go.Proofs.Ytjmecidbnoimnaa
namespace Go.Proofs.Ytjmecidbnoimnaa
open Go.RowKit
set_option linter.unusedVariables false
end Go.Proofs.Ytjmecidbnoimnaa
namespace Go.Proofs.Ytjmecidbnoimnaa
open Go.RowKit
set_option linter.unusedVariables false
set_option maxHeartbeats 400000 in
theorem drawNumber_any (o : Option Addr) (len cap p : Nat) (w : World) (hs : Src w o len cap p) :
    Calls Try.prog 66 #[.pointer (some ⟨p, 0, none⟩)] w (DrawnPost 0 1000001 o len cap p w) := by
  have HS := Lib.hid hs
  clear hs
  go_enter Try.func66, Try.ntmps66
  go_wp2_with fail
  refine (next_any _ _ _ _ _ _ (by omega) HS.out).mono ?_
  rintro e w1 ⟨r1, rfl, r10, r11, hs1, hg1, hz1⟩
  have H1 := Lib.hid (And.intro hs1 hg1)
  have r12 : r1 < 300 := by omega
  clear hs1 hg1 hz1 r11
  go_wp2_with fail
  refine (next_any _ _ _ _ _ _ (by omega) H1.out.1).mono ?_
  rintro e w2 ⟨r2, rfl, r20, r21, hs2, hg2, hz2⟩
  have H2 := Lib.hid (And.intro hs2 (grownBy_tr H1.out.2 hg2))
  have r22 : r2 < 1000000 := by omega
  clear hs2 hg2 hz2 r21
  go_wp2_with fail
  refine (next_any _ _ _ _ _ _ (by omega) H2.out.1).mono ?_
  rintro e w3 ⟨r3, rfl, r30, r31, hs3, hg3, hz3⟩
  have H3 := Lib.hid (And.intro hs3 (grownBy_tr H2.out.2 hg3))
  have r32 : r3 < 900 := by omega
  clear hs3 hg3 hz3 r31
  go_wp2_with fail
  refine (next_any _ _ _ _ _ _ (by omega) H3.out.1).mono ?_
  rintro e w4 ⟨r4, rfl, r40, r41, hs4, hg4, hz4⟩
  have H4 := Lib.hid (And.intro hs4 (grownBy_tr H3.out.2 hg4))
  have r42 : r4 < 5000 := by omega
  clear hs4 hg4 hz4 r41
  go_wp2_with fail
  refine (pick_new [1 + r1, 1 + r2, 720720, 1, 1000000, 1000001, 0, 30 * (1 + r3), 1 + r4] 2 9 o len cap p w4 H4.out.1 (by simp) (by simp)).mono ?_
  rintro e w5 ⟨x, rfl, hx, hs5, hg5⟩
  have hb : 0 ≤ x ∧ x ≤ 1000001 := by simp at hx; omega
  have H5 := Lib.hid (And.intro hb (And.intro hs5 (grownBy_tr H4.out.2 hg5)))
  clear hx hs5 hg5 hb
  go_wp2
  go_ret
  exact ⟨x, rfl, H5.out.1.1, H5.out.1.2, H5.out.2.1, H5.out.2.2⟩
end Go.Proofs.Ytjmecidbnoimnaa
namespace Go.Proofs.Ytjmecidbnoimnaa
open Go.RowKit
set_option linter.unusedVariables false
set_option linter.unusedSimpArgs false
set_option maxRecDepth 20000
def TwoB (lo hi : Int) (w : World) (e : Ending) (w' : World) : Prop := ∃ a b : Int, e = .returned (.tuple #[.int .i64 a, .int .i64 b]) ∧ lo ≤ b ∧ b ≤ hi ∧ Below w.heap.size w w'
set_option maxHeartbeats 800000 in
theorem drawCir_any (o : Option Addr) (len cap : Nat) (w : World) (hl : len ≤ 4096) (hc : CodeIn w o len) :
    Calls Try.prog 15 #[.slice o len cap] w (TwoB 0 9 w) := by
  have HC := Lib.hid hc
  clear hc
  go_enter Try.func15, Try.ntmps15
  go_wp2_with fail
  refine (from_any _ _ _ _ hl HC.out).mono ?_
  rintro e w1 ⟨p, rfl, hp, hs1, hb1⟩
  have H1 := Lib.hid (And.intro hs1 hb1)
  have HP := Lib.hid hp
  clear hs1 hb1 hp
  go_wp2_with fail
  refine (drawPrime_any _ _ _ _ _ H1.out.1).mono ?_
  rintro e w2 ⟨a, rfl, a0, a1, hs2, hg2⟩
  have H2 := Lib.hid (And.intro hs2 (below_draw H1.out.2 hg2 HP.out H1.out.2.size))
  clear hs2 hg2
  go_wp2_with fail
  refine (next_any _ _ _ _ _ _ (by omega) H2.out.1).mono ?_
  rintro e w3 ⟨q, rfl, q0, q1, hs3, hg3, hz3⟩
  have H3 := Lib.hid (below_draw H2.out.2 hg3 HP.out H2.out.2.size)
  have q2 : q ≤ 9 := by omega
  clear hs3 hg3 hz3 q1
  go_wp2
  go_ret2
  exact ⟨a, q, rfl, q0, q2, H3.out⟩
set_option maxHeartbeats 800000 in
theorem drawSqf_any (o : Option Addr) (len cap : Nat) (w : World) (hl : len ≤ 4096) (hc : CodeIn w o len) :
    Calls Try.prog 18 #[.slice o len cap] w (TwoB (-1) 9 w) := by
  have HC := Lib.hid hc
  clear hc
  go_enter Try.func18, Try.ntmps18
  go_wp2_with fail
  refine (from_any _ _ _ _ hl HC.out).mono ?_
  rintro e w1 ⟨p, rfl, hp, hs1, hb1⟩
  have H1 := Lib.hid (And.intro hs1 hb1)
  have HP := Lib.hid hp
  clear hs1 hb1 hp
  go_wp2_with fail
  refine (drawPrime_any _ _ _ _ _ H1.out.1).mono ?_
  rintro e w2 ⟨a, rfl, a0, a1, hs2, hg2⟩
  have H2 := Lib.hid (And.intro hs2 (below_draw H1.out.2 hg2 HP.out H1.out.2.size))
  clear hs2 hg2
  go_wp2_with fail
  refine (next_any _ _ _ _ _ _ (by omega) H2.out.1).mono ?_
  rintro e w3 ⟨q, rfl, q0, q1, hs3, hg3, hz3⟩
  have H3 := Lib.hid (below_draw H2.out.2 hg3 HP.out H2.out.2.size)
  have q2 : q ≤ 10 := by omega
  clear hs3 hg3 hz3 q1
  go_wp2
  go_ret2
  exact ⟨a, q - 1, rfl, by omega, by omega, H3.out⟩
set_option maxHeartbeats 800000 in
theorem drawMoe_any (o : Option Addr) (len cap : Nat) (w : World) (hl : len ≤ 4096) (hc : CodeIn w o len) :
    Calls Try.prog 24 #[.slice o len cap] w (OnePost w) := by
  have HC := Lib.hid hc
  clear hc
  go_enter Try.func24, Try.ntmps24
  go_wp2_with fail
  refine (from_any _ _ _ _ hl HC.out).mono ?_
  rintro e w1 ⟨p, rfl, hp, hs1, hb1⟩
  have H1 := Lib.hid (And.intro hs1 hb1)
  have HP := Lib.hid hp
  clear hs1 hb1 hp
  go_wp2_with fail
  refine (drawNumber_any _ _ _ _ _ H1.out.1).mono ?_
  rintro e w2 ⟨a, rfl, a0, a1, hs2, hg2⟩
  have H2 := Lib.hid (below_draw H1.out.2 hg2 HP.out H1.out.2.size)
  clear hs2 hg2
  go_wp2
  go_ret
  exact ⟨a, rfl, H2.out⟩
/-- a number and a list, drawn -/
def NumList (w : World) (e : Ending) (w' : World) : Prop := ∃ (a : Int) (v : Value) (l : List Int), e = .returned (.tuple #[.int .i64 a, v]) ∧ l.length ≤ 10 ∧ IntRow w.heap.size w' v l ∧ Below w.heap.size w w'
theorem row_base10 {w : World} {b b' : Nat} {T : TypeId} {sz : Nat} {v : Value} {n : Nat} {xs : List Value} (h : w.ownsRow b T sz v n xs) (hb : b' ≤ b) : w.ownsRow b' T sz v n xs := by
  refine ⟨h.1, ?_⟩
  rcases h.2 with h | ⟨g, cap, cur, e, hbg, rest⟩
  · exact .inl h
  · exact .inr ⟨g, cap, cur, e, Nat.le_trans hb hbg, rest⟩
theorem src_drew10 {w : World} {o : Option Addr} {len cap p : Nat} (h : Src w o len cap p) : Src w.drew o len cap p := src_drewN h 1
theorem grown_undrew {w w' : World} {r : Option Nat} (h : w.drew.grownBy w' r) : w.grownBy w' r := ⟨h.os, h.tape, h.output, h.size, h.block⟩
theorem cw_row {o : Option Addr} {len cap p : Nat} {w w2 w' : World} {v : Value} {l : List Int} (h : VS o len cap p w2 w' v l) (hb : Below w.heap.size w w2) : IntRow w.heap.size w' v l := row_base10 h.2.2.1 hb.size
theorem cw_below {o : Option Addr} {len cap p : Nat} {w w2 w' : World} {v : Value} {l : List Int} (h : VS o len cap p w2 w' v l) (hb : Below w.heap.size w w2) (hp : w.heap.size ≤ p) : Below w.heap.size w w' := below_draw hb h.2.1 hp hb.size
set_option maxHeartbeats 2000000 in
theorem drawCw_any (o : Option Addr) (len cap : Nat) (w : World) (hl : len ≤ 4096) (hc : CodeIn w o len) :
    Calls Try.prog 21 #[.slice o len cap] w (NumList w) := by
  obtain ⟨i0, hi, hz0, hz1, hz2⟩ := info_parts Try.infoInt64
  have HI := Lib.hid hi
  have HZ0 := Lib.hid hz0
  have HZ1 := Lib.hid hz1
  have HZ2 := Lib.hid hz2
  have HC := Lib.hid hc
  clear hc hi hz0 hz1 hz2
  go_enter Try.func21, Try.ntmps21
  go_wp2_with fail
  refine (from_any _ _ _ _ hl HC.out).mono ?_
  rintro e w1 ⟨p, rfl, hp, hs1, hb1⟩
  have H1 := Lib.hid (And.intro hs1 hb1)
  have HP := Lib.hid hp
  clear hs1 hb1 hp
  go_wp2_with fail
  refine (drawPrime_any _ _ _ _ _ H1.out.1).mono ?_
  rintro e w2 ⟨a, rfl, a0, a1, hs2, hg2⟩
  have H2 := Lib.hid (And.intro hs2 (below_draw H1.out.2 hg2 HP.out H1.out.2.size))
  clear hs2 hg2
  have hV0 := vs_made H2.out.1
  have HV0 := Lib.hid hV0
  go_wp2_with fail
  refine (next_any _ _ _ _ _ _ (by omega) hV0.1).mono ?_
  rintro e w3 ⟨q, rfl, q0, q1, hs3, hg3, hz3⟩
  have HV1 := Lib.hid (vs_next HV0.out hs3 hg3)
  have q2 : q ≤ 4 := by omega
  clear hs3 hg3 hz3 q1 hV0
  go_wp2_with fail
  go_loopw [6, 7, 8] (fun v d n wr => ∃ (N D : Int) (l : List Int), n = .int .i64 N ∧ d = .int .i64 D ∧ 0 ≤ N ∧ (l.length : Int) + N ≤ 4 ∧ 1 ≤ D ∧ D ≤ 1 + (l.length : Int) ∧ VS o len cap p w2 wr v l) (fun _ _ n _ => (intOf n).toNat)
  case atStart => exact ⟨q, 1, [], rfl, rfl, q0, by simp; omega, by omega, by simp, HV1.out⟩
  case round =>
    obtain ⟨N, D, l, rfl, rfl, hN, hlN, hD1, hD2, hv⟩ := hrel
    have HV := Lib.hid hv
    have hsrc := hv.1
    clear hv
    have hl4 : l.length ≤ 4 := by omega
    by_cases hpos : 0 < N
    · go_wp2_with fail
      refine (next_any _ _ _ _ _ _ (by omega) hsrc).mono ?_
      rintro e w5 ⟨y, rfl, y0, y1, hs5, hg5, hz5⟩
      have y2 : y ≤ 1 := by omega
      have HV5 := Lib.hid (vs_next HV.out hs5 hg5)
      clear hs5 hg5 hz5 y1 hsrc
      go_wp2_with (at_builtin; refine wpList_append_own _ rfl (.tmp 24) (.tmp 26) 27 rfl w2.heap.size 2 i0 (.int .i64 0) 1 8 Try.underlying27 HI.out HZ0.out HZ1.out HZ2.out rfl (by decide) _ _ _ rfl (HV5.out.2.2.1.alloc _) ⟨w5.heap.size, 0, none⟩ 1 1 [.int .i64 (D + y)] rfl rfl ?c1 ?c2 ?c3 ?c4 ?c5 ?_)
      try (case c1 => first | exact news_one _ _ _ | simp [Addr.add])
      try (case c2 => first | exact one_one _ | rfl)
      case c3 => unfold maxLen; omega
      case c4 => omega
      case c5 => have := (HV5.out.2.1).size; first | omega | (simp; omega)
      intro v' w6 hown hgrow _
      have HV6 := Lib.hid (vs_app HV5.out hown hgrow)
      clear hown hgrow
      go_wp2_with fail
      go_roundw
      case rel => exact ⟨N - 1, D + y, l ++ [D + y], rfl, rfl, by omega, by simp; omega, by omega, by simp; omega, HV6.out⟩
      case measure => simp only [intOf]; omega
    · clear hN hlN hD1 hD2
      go_wp2_with fail
      refine (next_any _ _ _ _ _ _ (by omega) hsrc).mono ?_
      rintro e w5 ⟨t, rfl, t0, t1, hs5, hg5, hz5⟩
      have HV5 := Lib.hid (vs_next HV.out hs5 hg5)
      have hsrc5 := hs5
      clear hs5 hg5 hz5 t1 hsrc
      by_cases e0 : t = 0
      · subst e0
        go_wp2_with fail
        refine (pick_new [0, 8, 9, 1] 2 4 o len cap p w5 hsrc5 (by simp) (by simp)).mono ?_
        rintro e w6 ⟨x, rfl, hx, hs6, hg6⟩
        have hb : 0 ≤ x ∧ x ≤ 9 := by simp at hx; omega
        have HV6 := Lib.hid (vs_next HV5.out hs6 hg6)
        clear hx hs6 hg6 hsrc5
        go_wp2_with (at_builtin; refine wpList_append_own _ rfl (.tmp 32) (.tmp 36) 27 rfl w2.heap.size 2 i0 (.int .i64 0) 1 8 Try.underlying27 HI.out HZ0.out HZ1.out HZ2.out rfl (by decide) _ _ _ rfl (HV6.out.2.2.1.alloc _) ⟨w6.heap.size, 0, none⟩ 1 1 [.int .i64 x] rfl rfl ?c1 ?c2 ?c3 ?c4 ?c5 ?_)
        try (case c1 => first | exact news_one _ _ _ | simp [Addr.add])
        try (case c2 => first | exact one_one _ | rfl)
        case c3 => unfold maxLen; omega
        case c4 => omega
        case c5 => have := (HV6.out.2.1).size; first | omega | (simp; omega)
        intro v' w7 hown hgrow _
        have HV7 := Lib.hid (vs_app HV6.out hown hgrow)
        clear hown hgrow
        go_wp2_with fail
        go_ret2
        exact ⟨a, _, l ++ [x], rfl, by simp; omega, cw_row HV7.out H2.out.2, cw_below HV7.out H2.out.2 HP.out⟩
      · have e0' : (t == 0) = false := by simpa using e0
        by_cases e1 : t = 1
        · subst e1
          clear e0 e0'
          have HB5 := Lib.hid (cw_below HV5.out H2.out.2 HP.out)
          have HS5 := Lib.hid hsrc5
          clear hsrc5 HV5 HV HV1 HV0
          go_wp2_with fail
          go_region_with (first
            | (go_at_call 50; (refine (next_any 2 o len cap p (World.drew (World.alloc _ _)) (by omega) (src_drew10 (src_alloc HS5.out _))).mono ?_); (rintro e w6 ⟨y, rfl, y0, y1, hs6, hg6, hz6⟩); (have L6 := Lib.hid (And.intro hs6 hg6)); (have y2 : y ≤ 1 := by omega); (have yw : IntKind.i64.wrap (8 + y) = 8 + y := IntWalk.i64_in _ (by omega)); (have y3 : (0 : Int) ≤ 8 + y := by omega); (have y4 : 8 + y ≤ 9 := by omega); (clear hs6 hg6 hz6 y1))
            | (go_at_call 50; (refine (next_any 2 o len cap p (World.drew _) (by omega) (src_drewN HS5.out 1)).mono ?_); (rintro e w6 ⟨y, rfl, y0, y1, hs6, hg6, hz6⟩); (have L6 := Lib.hid (And.intro hs6 hg6)); (have y2 : y ≤ 1 := by omega); (have yw : IntKind.i64.wrap (8 + y) = 8 + y := IntWalk.i64_in _ (by omega)); (have y3 : (0 : Int) ≤ 8 + y := by omega); (have y4 : 8 + y ≤ 9 := by omega); (clear hs6 hg6 hz6 y1)))
          all_goals go_wp2
          all_goals go_ret2
          · have hv := vs_next (vs_lit HS5.out [1, 1, 1, 1, 1, 1, 1, 1, 1] (by simp)) L6.out.1 (grown_undrew L6.out.2)
            have hr := row_cut (row_base10 hv.2.2.1 HB5.out.size) (k := (8 + y).toNat) (by simp; omega)
            exact ⟨a, _, [1, 1, 1, 1, 1, 1, 1, 1, 1].take (8 + y).toNat, rfl, by rw [List.length_take]; simp; omega, hr, below_draw HB5.out hv.2.1 HP.out HB5.out.size⟩
          · have hg := grown_undrew L6.out.2
            have hv := vs_lit L6.out.1 [1, 1, 1, 1, 1, 1, 1, 1, 1] (by simp)
            have hB6 := below_draw HB5.out hg HP.out HB5.out.size
            have hr := row_cut (row_base10 hv.2.2.1 hB6.size) (k := (8 + y).toNat) (by simp; omega)
            exact ⟨a, _, [1, 1, 1, 1, 1, 1, 1, 1, 1].take (8 + y).toNat, rfl, by rw [List.length_take]; simp; omega, hr, hB6.alloc hB6.size _⟩
        · have e1' : (t == 1) = false := by simpa using e1
          clear e0 e1
          go_wp2_with fail
          go_ret2
          exact ⟨a, _, l, rfl, by omega, cw_row HV5.out H2.out.2, cw_below HV5.out H2.out.2 HP.out⟩
end Go.Proofs.Ytjmecidbnoimnaa
namespace Go.Proofs.Ytjmecidbnoimnaa
open Go.RowKit
set_option linter.unusedVariables false
set_option linter.unusedSimpArgs false
set_option maxRecDepth 20000
/-- what the counts answer where the greatest one has an answer -/
theorem cir_less {p : Int} {n d : Nat} (h : cirC p n = 0) (hd : 1 ≤ d) (hn : n % d = 0) (hdn : d ≤ n) : cirC p d = 0 ∧ cirQ p d = irrN p d := by
  have hc : numC p n 1 8 = 0 := by
    unfold cirC at h
    split at h
    · assumption
    · exact h
  obtain ⟨hs, h1, h8⟩ := numC_zero hc
  obtain ⟨p2, p97⟩ := smallB_bd hs
  have hcd : numC p d 1 8 = 0 := by
    unfold numC
    rw [if_pos hs, if_pos (inB_t (by omega) (by omega))]
  have hle : irrN p d ≤ 1000000000 := by
    by_cases e : d = n
    · subst e
      unfold cirC limC at h
      rw [if_pos hc, Int.toNat_natCast] at h
      split at h
      · omega
      · omega
    · have h4 : d ≤ 4 := by
        rcases Nat.lt_or_ge 4 d with h5 | h5
        · exfalso
          have h6 : n / d = 1 := by
            have a := Nat.div_add_mod n d
            rw [hn, Nat.add_zero] at a
            have b : n / d < 2 := Nat.div_lt_of_lt_mul (by omega)
            have c : 1 ≤ n / d := (Nat.le_div_iff_mul_le (by omega)).2 (by omega)
            omega
          have a := Nat.div_add_mod n d
          rw [hn, h6] at a
          omega
        · exact h5
      have a := (irrN_bd p2 hd (by omega : d ≤ 8)).2
      have b := pow_up p2 h4
      have c := pow_base p2 p97 4
      have : (97 : Int) ^ 4 = 88529281 := by decide
      omega
  constructor
  · unfold cirC limC
    rw [if_pos hcd, Int.toNat_natCast, if_neg (by omega)]
  · unfold cirQ limQ
    rw [if_pos hcd, Int.toNat_natCast, if_neg (by omega)]
theorem seen_row10 {b : Nat} {w : World} {v : Value} {l : List Int} (h : IntRow b w v l) (hl : l.length ≤ 1100000) : ∃ o c, v = .slice o l.length c ∧ Seen w o l.length c l := by
  obtain ⟨o, c, rfl⟩ := row_slice h
  exact ⟨o, c, rfl, row_seen h hl⟩
set_option maxHeartbeats 2000000 in
theorem counted_core (o : Option Addr) (len cap : Nat) (w : World) (hl : len ≤ 4096) (hc : CodeIn w o len) :
    Calls Try.prog 3 #[.slice o len cap] w fun e w' => e = .returned (.bool true) ∧ Below w.heap.size w w' := by
  have HC := Lib.hid hc
  clear hc
  go_enter Try.func3, Try.ntmps3
  go_wp2_with fail
  refine (big_no _ _ _ _ hl).mono ?_
  rintro e w' ⟨rfl, rfl⟩
  go_wp2_with fail
  refine (drawCir_any _ _ _ _ hl HC.out).mono ?_
  rintro e w1 ⟨p, n, rfl, n0, n9, hb⟩
  have H1 := Lib.hid hb
  clear hb
  go_wp2_with fail
  refine (implCir_any p n _).mono ?_
  rintro e w2 ⟨rfl, hb⟩
  have H2 := Lib.hid (H1.out.trans (hb.mono H1.out.size))
  clear hb
  go_wp2_with fail
  refine (specCir_any p n _).mono ?_
  rintro e w3 ⟨rfl, hb⟩
  have H3 := Lib.hid (H2.out.trans (hb.mono H2.out.size))
  have HC3 := Lib.hid (codeIn_below (B := 0) HC.out H3.out)
  clear hb
  obtain ⟨cq, hcq⟩ : ∃ x, cirQ p n = x := ⟨_, rfl⟩
  obtain ⟨cc, hcc⟩ : ∃ x, cirC p n = x := ⟨_, rfl⟩
  rw [hcq, hcc]
  have HCC := Lib.hid hcc
  clear hcq hcc
  go_wp2_with fail
  refine (drawSqf_any _ _ _ _ hl HC3.out).mono ?_
  rintro e w4 ⟨q, m, rfl, m0, m9, hb⟩
  have H4 := Lib.hid (H3.out.trans (hb.mono H3.out.size))
  clear hb
  go_wp2_with fail
  refine (implSqf_any q m _).mono ?_
  rintro e w5 ⟨rfl, rfl⟩
  go_wp2_with fail
  refine (specSqf_any q m _).mono ?_
  rintro e w6 ⟨rfl, rfl⟩
  generalize sqfQ q m = sq at *
  generalize sqfC q m = sc at *
  have HC4 := Lib.hid (codeIn_below (B := 0) HC.out H4.out)
  go_wp2_with fail
  refine (drawCw_any _ _ _ _ hl HC4.out).mono ?_
  rintro e w7 ⟨r, v, l, rfl, hll, hr, hb⟩
  have H7 := Lib.hid (H4.out.trans (hb.mono H4.out.size))
  obtain ⟨ol, cl, rfl, hs⟩ := seen_row10 hr (by omega)
  have HS := Lib.hid hs
  clear hb hr hs
  go_wp2_with fail
  refine (implCw_any r HS.out).mono ?_
  rintro e w8 ⟨rfl, hb⟩
  have H8 := Lib.hid (H7.out.trans (hb.mono H7.out.size))
  have HS8 := Lib.hid (seen_below HS.out hb)
  clear hb HS
  go_wp2_with fail
  refine (specCw_any r HS8.out).mono ?_
  rintro e w9 ⟨rfl, hb⟩
  have H9 := Lib.hid (H8.out.trans (hb.mono H8.out.size))
  clear hb HS8
  generalize cwQ r l = wq at *
  generalize cwC r l = wc at *
  have HC9 := Lib.hid (codeIn_below (B := 0) HC.out H9.out)
  go_wp2_with fail
  refine (drawMoe_any _ _ _ _ hl HC9.out).mono ?_
  rintro e w10 ⟨k, rfl, hb⟩
  have H10 := Lib.hid (H9.out.trans (hb.mono H9.out.size))
  clear hb
  go_wp2_with fail
  refine (implMoe_any k _).mono ?_
  rintro e w11 ⟨rfl, hb⟩
  have H11 := Lib.hid (H10.out.trans (hb.mono H10.out.size))
  clear hb
  go_wp2_with fail
  refine (specMoe_any k _).mono ?_
  rintro e w12 ⟨rfl, hb⟩
  have H12 := Lib.hid (H11.out.trans (hb.mono H11.out.size))
  clear hb
  generalize moeQ k = mq at *
  generalize moeC k = mc at *
  by_cases hz : cc = 0
  · subst hz
    have hcir := HCC.out
    have hc : numC p n 1 8 = 0 := by
      unfold cirC at hcir
      split at hcir
      · assumption
      · exact hcir
    obtain ⟨hs, h1, h8⟩ := numC_zero hc
    obtain ⟨p2, p97⟩ := smallB_bd hs
    obtain ⟨N, rfl⟩ : ∃ N : Nat, n = N := ⟨n.toNat, by omega⟩
    have h1' : 1 ≤ N := by omega
    have h8' : N ≤ 8 := by omega
    have HALL := Lib.hid (cnt_all p h1' h8')
    clear hc hs hcir HC3 HC4 HC9 HC
    go_wp2_with fail
    go_loopw [26, 27, 28] (fun t q d wr => ∃ (k : Nat) (D : Int), D = (k : Int) + 1 ∧ k ≤ N ∧ d = .int .i64 D ∧ t = .int .i64 (cntT p N k) ∧ q = .int .i64 (p ^ k) ∧ Below w.heap.size w wr) (fun _ _ d _ => N + 1 - (intOf d).toNat)
    case atStart => exact ⟨0, 1, rfl, Nat.zero_le _, rfl, rfl, by simp, H12.out⟩
    case round =>
      obtain ⟨k, D, hD, hk, rfl, rfl, rfl, hb⟩ := hrel
      have HB := Lib.hid hb
      clear hb
      have hkb := cntT_part p2 p97 (n := N) k (by omega)
      by_cases hlt : k < N
      · obtain ⟨d, rfl⟩ : ∃ d : Nat, D = d := ⟨k + 1, by omega⟩
        obtain rfl : d = k + 1 := by omega
        have hdn : ((k + 1 : Nat) : Int) ≤ (N : Int) := by omega
        have hD1 : 1 ≤ ((k + 1 : Nat) : Int) := by omega
        have hDz : ¬ ((k + 1 : Nat) : Int) = 0 := by omega
        obtain ⟨e1, e2, e3⟩ := powN_round p2 p97 hlt h8'
        have HPW := Lib.hid e1
        have HT := Lib.hid (show cntT p N (k + 1) = cntT p N k + (if N % (k + 1) = 0 then ((k + 1 : Nat) : Int) * irrN p (k + 1) else 0) from rfl)
        have hnb := cntT_part p2 p97 (n := N) (k + 1) (by omega)
        have hmod : (N : Int).tmod ((k + 1 : Nat) : Int) = ((N % (k + 1) : Nat) : Int) := by rw [Int.tmod_eq_emod_of_nonneg (by omega)]; rfl
        obtain ⟨x, hx⟩ : ∃ x, p ^ k = x := ⟨_, rfl⟩
        rw [hx] at e1 e2 e3 HPW ⊢
        have hx0 : 0 ≤ x * p := Int.mul_nonneg (by omega) (by omega)
        clear hx e1
        by_cases h0 : N % (k + 1) = 0
        · rw [h0] at hmod
          rw [HT.out, if_pos h0] at hnb
          have HT2 := Lib.hid (show cntT p N (k + 1) = cntT p N k + ((k + 1 : Nat) : Int) * irrN p (k + 1) by rw [HT.out, if_pos h0])
          obtain ⟨z1, z2⟩ := cir_less HCC.out (by omega) h0 (by omega)
          have HI := Lib.hid fun w => implCir_any p ((k + 1 : Nat) : Int) w
          rw [z1, z2] at HI
          have hib := irr_bd p2 (n := k + 1) (by omega) (by omega)
          have hit := irr_times p (n := k + 1) (by omega) (by omega)
          have hpd := pow_97 p2 p97 (k := k + 1) (by omega)
          have hdb : 0 ≤ ((k + 1 : Nat) : Int) * irrN p (k + 1) ∧ ((k + 1 : Nat) : Int) * irrN p (k + 1) ≤ 7837433594376961 := by omega
          have hNb : 0 ≤ irrN p (k + 1) ∧ irrN p (k + 1) ≤ 7837433594376961 := by
            have := irrN_bd p2 (n := k + 1) (by omega) (by omega)
            omega
          generalize irrN p (k + 1) = I at *
          generalize cntT p N k = t at *
          obtain ⟨K, hK⟩ : ∃ K : Int, ((k + 1 : Nat) : Int) = K := ⟨_, rfl⟩
          have HKK := Lib.hid hK
          rw [hK] at hdn hD1 hDz hmod HI hdb HT2 hnb ⊢
          clear z1 z2 hib hit hpd h0 HT hD hK
          go_wp2_with fail
          refine (HI.out _).mono ?_
          rintro e W2 ⟨rfl, hb2⟩
          have HB2 := Lib.hid (HB.out.trans (hb2.mono HB.out.size))
          clear hb2
          go_wp2_with fail
          go_roundw
          case rel => exact ⟨k + 1, K + 1, by have := HKK.out; push_cast; omega, by omega, rfl, by rw [HT2.out], by rw [HPW.out], HB2.out⟩
          case measure => simp only [intOf]; have := HKK.out; omega
        · rw [HT.out, if_neg h0] at hnb
          have HT2 := Lib.hid (show cntT p N (k + 1) = cntT p N k by rw [HT.out, if_neg h0]; omega)
          have hne : ¬ (((N % (k + 1) : Nat) : Int) = 0) := by omega
          have hne2 : ((((N % (k + 1) : Nat) : Int)) == 0) = false := by rw [beq_eq_false_iff_ne]; exact hne
          generalize ((N % (k + 1) : Nat) : Int) = r2 at *
          generalize cntT p N k = t at *
          obtain ⟨K, hK⟩ : ∃ K : Int, ((k + 1 : Nat) : Int) = K := ⟨_, rfl⟩
          have HKK := Lib.hid hK
          rw [hK] at hdn hD1 hDz hmod hnb ⊢
          clear h0 HT hD hK
          go_wp2_with fail
          go_roundw
          case rel => exact ⟨k + 1, K + 1, by have := HKK.out; push_cast; omega, by omega, rfl, by rw [HT2.out], by rw [HPW.out], HB.out⟩
          case measure => simp only [intOf]; have := HKK.out; omega
      · obtain rfl : k = N := by omega
        rw [HALL.out] at hkb ⊢
        have hDn : ¬ D ≤ (k : Int) := by omega
        generalize p ^ k = x at *
        clear hD
        go_wp2_with fail
        go_ret
        exact ⟨by simp, HB.out⟩
  · have hz1 : (cc != 0) = true := bne_iff_ne.2 hz
    have hz2 : (cc == 0) = false := beq_eq_false_iff_ne.2 hz
    clear hz
    go_wp2_with fail
    go_ret
    exact ⟨rfl, H12.out⟩
theorem counted_walk (a : Option Addr) (len cap : Nat) (zs : List Int) (w : World) (h : IsRowOf .u8 w a len cap zs) :
    Calls Try.prog 3 #[.slice a len cap] w fun e w' => e = .returned (.bool true) ∧ Below w.heap.size w w' := by
  obtain ⟨hc, hm⟩ := codeIn_of h
  by_cases hl : len ≤ 4096
  · exact counted_core a len cap w hl hc
  · clear hc h
    go_enter Try.func3, Try.ntmps3
    go_wp2_with (go_at_call 14; refine (big_yes _ _ _ _ (by omega) (by omega)).mono ?_; rintro e w' ⟨rfl, rfl⟩)
    go_ret
    exact ⟨rfl, Below.refl _ _⟩
end Go.Proofs.Ytjmecidbnoimnaa
