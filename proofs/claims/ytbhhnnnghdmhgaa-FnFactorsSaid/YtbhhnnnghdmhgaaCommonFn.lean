/- The walk of the law FnCommon: true for every code; below the old memory nothing has turned. -/
import Derived.Test.YtbhhnnnghdmhgaaCommonLaw
import Derived.OpenShut
namespace Go.Proofs.Ytbhhnnnghdmhgaa
open Go.RowKit
set_option linter.unusedVariables false
/-- a slice of integers that came in, as the shells have it -/
def IsRowOf (k : IntKind) (w : World) (a : Option Addr) (len cap : Nat) (zs : List Int) : Prop :=
  (a = none ∧ len = 0 ∧ cap = 0 ∧ zs = []) ∨
  ∃ x, a = some x ∧ len ≤ cap ∧ cap ≤ maxLen ∧ zs.length = cap ∧ (∀ i, i < zs.length → w.cell? (x.add i) = some (.int k (zs.getD i 0))) ∧ ∀ n ∈ zs, (Lit.int k n).wf = true
theorem u8_bd {q : Int} (h : (Lit.int .u8 q).wf = true) : 0 ≤ q ∧ q ≤ 255 := by
  simp [Lit.wf, IntKind.min, IntKind.max, IntKind.signed, IntKind.bits] at h
  exact ⟨h.1, by omega⟩
theorem codeIn_of {w : World} {a : Option Addr} {len cap : Nat} {zs : List Int} (h : IsRowOf .u8 w a len cap zs) : CodeIn w a len ∧ len ≤ 9223372036854775807 := by
  rcases h with ⟨_, h, _, _⟩ | ⟨x, rfl, h1, h2, h3, h4, h5⟩
  · exact ⟨.inl h, by omega⟩
  · refine ⟨?_, by unfold maxLen at h2; omega⟩
    by_cases h0 : len = 0
    · exact .inl h0
    · obtain ⟨b, off, rfl, hc⟩ := ints_at h4 (by omega)
      refine .inr ⟨b, off, rfl, World.block_lt_of_cell? w _ (hc 0 (by omega)), fun i hi => ⟨_, hc i (by omega), ?_⟩⟩
      have hm : zs.getD i 0 ∈ zs := by
        have hlt : i < zs.length := by omega
        rw [show zs.getD i 0 = zs[i] by simp [List.getD, hlt]]; exact List.getElem_mem _
      exact u8_bd (h5 _ hm)
theorem gcd_dvd_tmod (a b : Int) (h : Int.gcd a b ≠ 0) : a.tmod (Int.gcd a b) = 0 ∧ b.tmod (Int.gcd a b) = 0 :=
  ⟨Int.tmod_eq_zero_of_dvd (Int.gcd_dvd_left ..), Int.tmod_eq_zero_of_dvd (Int.gcd_dvd_right ..)⟩
set_option maxRecDepth 100000 in
set_option maxHeartbeats 800000 in
theorem common_core (o : Option Addr) (len cap : Nat) (w : World) (hl : len ≤ 4096) (hc : CodeIn w o len) :
    Calls Try.prog 3 #[.slice o len cap] w fun e w' => e = .returned (.bool true) ∧ Below w.heap.size w w' := by
  have HC := Lib.hid hc
  clear hc
  go_enter Try.func3, Try.ntmps3
  go_wp2_with fail
  refine (big_no _ _ _ _ hl).mono ?_
  rintro e w' ⟨rfl, rfl⟩
  go_wp2_with fail
  refine (drawBezout_any _ _ _ _ hl HC.out).mono ?_
  rintro e w1 ⟨a, b, rfl, hb⟩
  have H1 := Lib.hid hb
  have HC1 := Lib.hid (codeIn_below (B := 0) HC.out hb)
  clear hb
  by_cases hab : valueB a = true ∧ valueB b = true
  · obtain ⟨ha, hb⟩ := hab
    have ba := valueB_bd ha
    have bb := valueB_bd hb
    have HA := Lib.hid ha
    have HB := Lib.hid hb
    have EG := Lib.hid (commonG_t ha hb)
    have EC := Lib.hid (commonC_t ha hb)
    have hz := bz_eq (a := a) (b := b) (by omega) (by omega)
    obtain ⟨g, hg⟩ : ∃ g : Nat, g = Int.gcd a b := ⟨_, rfl⟩
    rw [← hg] at hz
    have hz' : (wrap64 (wrap64 (a * bezX a b) + wrap64 (b * bezY a b)) == (g : Int)) = true := by simp [hz]
    have HG := Lib.hid hg
    clear ha hb hz hg
    go_wp2_with fail
    refine (implBez_val _ _ _ HA.out HB.out).mono ?_
    rintro e w' ⟨rfl, rfl⟩
    go_wp2_with fail
    refine (specBez_val _ _ _ HA.out HB.out).mono ?_
    rintro e w' ⟨rfl, rfl⟩
    go_wp2_with fail
    refine (implCommon_any _ _ _).mono ?_
    rw [EG.out, EC.out, ← HG.out]
    rintro e w' ⟨rfl, n2, rfl⟩
    go_wp2_with fail
    refine (specCommon_any _ _ _).mono ?_
    rw [EG.out, EC.out, ← HG.out]
    rintro e w' ⟨rfl, n3, rfl⟩
    go_wp2_with fail
    refine (drawIsPrime_any _ _ _ _ hl (by exact HC1.out)).mono ?_
    rintro e w4 ⟨n, rfl, hb4⟩
    have H4 := Lib.hid ((below_drewN H1.out _).trans (hb4.mono H1.out.size))
    clear hb4
    by_cases hg0 : g = 0
    · have hg0' : ((g : Int) == 0) = true := by simp [hg0]
      clear hg0
      go_wp2_with (first | (go_at_call 18; refine (implIsPrime_any _ _).mono ?_; rintro e w' ⟨rfl, rfl⟩) | (go_at_call 19; refine (specIsPrime_any _ _).mono ?_; rintro e w' ⟨rfl, rfl⟩))
      go_ret
      exact ⟨rfl, H4.out⟩
    · have hg0' : ((g : Int) == 0) = false := by simp [hg0]
      have hd := gcd_dvd_tmod a b (by rw [← HG.out]; exact hg0)
      rw [← HG.out] at hd
      have hd1 : (a.tmod (g : Int) == 0) = true := by simp [hd.1]
      have hd2 : (b.tmod (g : Int) == 0) = true := by simp [hd.2]
      have g1 : 1 ≤ g := by omega
      clear hg0 hd
      go_wp2_with (first | (go_at_call 18; refine (implIsPrime_any _ _).mono ?_; rintro e w' ⟨rfl, rfl⟩) | (go_at_call 19; refine (specIsPrime_any _ _).mono ?_; rintro e w' ⟨rfl, rfl⟩))
      go_ret
      exact ⟨rfl, H4.out⟩
  · have h' : valueB a = false ∨ valueB b = false := by
      cases ha : valueB a <;> cases hb : valueB b <;> simp_all
    have H := Lib.hid h'
    have EG := Lib.hid (commonG_f h')
    have EC := Lib.hid (commonC_f h')
    clear hab h'
    go_wp2_with fail
    refine (implBez_no _ _ _ H.out).mono ?_
    rintro e w' ⟨rfl, rfl⟩
    go_wp2_with fail
    refine (specBez_no _ _ _ H.out).mono ?_
    rintro e w' ⟨rfl, rfl⟩
    go_wp2_with fail
    refine (implCommon_any _ _ _).mono ?_
    rw [EG.out, EC.out]
    rintro e w' ⟨rfl, n2, rfl⟩
    go_wp2_with fail
    refine (specCommon_any _ _ _).mono ?_
    rw [EG.out, EC.out]
    rintro e w' ⟨rfl, n3, rfl⟩
    go_wp2_with fail
    refine (drawIsPrime_any _ _ _ _ hl (by exact HC1.out)).mono ?_
    rintro e w4 ⟨n, rfl, hb4⟩
    have H4 := Lib.hid ((below_drewN H1.out _).trans (hb4.mono H1.out.size))
    clear hb4
    go_wp2_with (first | (go_at_call 18; refine (implIsPrime_any _ _).mono ?_; rintro e w' ⟨rfl, rfl⟩) | (go_at_call 19; refine (specIsPrime_any _ _).mono ?_; rintro e w' ⟨rfl, rfl⟩))
    go_ret
    exact ⟨rfl, H4.out⟩
set_option maxRecDepth 100000 in
theorem common_walk (a : Option Addr) (len cap : Nat) (zs : List Int) (w : World) (h : IsRowOf .u8 w a len cap zs) :
    Calls Try.prog 3 #[.slice a len cap] w fun e w' => e = .returned (.bool true) ∧ Below w.heap.size w w' := by
  obtain ⟨hc, hm⟩ := codeIn_of h
  by_cases hl : len ≤ 4096
  · exact common_core a len cap w hl hc
  · clear hc h
    go_enter Try.func3, Try.ntmps3
    go_wp2_with (go_at_call 11; refine (big_yes _ _ _ _ (by omega) (by omega)).mono ?_; rintro e w' ⟨rfl, rfl⟩)
    go_ret
    exact ⟨rfl, Below.refl _ _⟩
end Go.Proofs.Ytbhhnnnghdmhgaa
