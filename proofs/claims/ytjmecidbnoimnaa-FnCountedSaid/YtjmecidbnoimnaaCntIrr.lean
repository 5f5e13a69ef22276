/- Contracts of the walk: chapter 10 in spec: the count of irreducible polynomials. -/
import Derived.Test.YtjmecidbnoimnaaCntMoe
import Derived.Deep.DeepCutAuto
import Derived.OwnWalk
namespace Go.Proofs.Ytjmecidbnoimnaa
open Go.RowKit
set_option linter.unusedVariables false
set_option linter.unusedSimpArgs false
set_option maxRecDepth 20000
set_option maxHeartbeats 2000000 in
theorem l10Irr_any (p : Int) (n : Nat) (w : World) (hp2 : 2 ≤ p) (hp97 : p ≤ 97) (h1 : 1 ≤ n) (h8 : n ≤ 8) :
    Calls Try.prog 56 #[.int .i64 p, .int .i64 n] w fun e w' => e = .returned (.int .i64 (irrN p n)) ∧ Below w.heap.size w w' := by
  go_enter Try.func56, Try.ntmps56
  go_wp2
  go_loopw [5, 6] (fun t d wr => ∃ (k : Nat) (D : Int), k ≤ n ∧ D = (k : Int) + 1 ∧ d = .int .i64 D ∧ t = .int .i64 (irrT p n k) ∧ Below w.heap.size w wr) (fun _ d _ => n + 1 - (intOf d).toNat)
  case atStart => exact ⟨0, 1, Nat.zero_le _, rfl, rfl, rfl, Below.refl _ _⟩
  case round =>
    obtain ⟨k, D, hk, hD, rfl, rfl, hb⟩ := hrel
    have HB := Lib.hid hb
    have hkb := irrT_part hp2 hp97 h8 k
    clear hb
    by_cases hlt : k < n
    · have hdn : D ≤ (n : Int) := by omega
      have hD1 : 1 ≤ D := by omega
      have hDz : ¬ D = 0 := by omega
      obtain ⟨d, rfl⟩ : ∃ d : Nat, D = d := ⟨k + 1, by omega⟩
      obtain rfl : d = k + 1 := by omega
      have HT := Lib.hid (show irrT p n (k + 1) = irrT p n k + (if n % (k + 1) = 0 then moeT (k + 1) * p ^ (n / (k + 1)) else 0) from rfl)
      have hnb := irrT_part hp2 hp97 h8 (k + 1)
      have hmod : (n : Int).tmod ((k + 1 : Nat) : Int) = ((n % (k + 1) : Nat) : Int) := by rw [Int.tmod_eq_emod_of_nonneg (by omega)]; rfl
      have hdiv : (n : Int).tdiv ((k + 1 : Nat) : Int) = ((n / (k + 1) : Nat) : Int) := by rw [Int.tdiv_eq_ediv_of_nonneg (by omega)]; rfl
      have hq8 : n / (k + 1) ≤ 8 := Nat.le_trans (Nat.div_le_self _ _) h8
      generalize irrT p n k = t at *
      by_cases h0 : n % (k + 1) = 0
      · rw [h0] at hmod
        rw [HT.out, if_pos h0] at hnb
        have HT2 := Lib.hid (show irrT p n (k + 1) = t + moeT (k + 1) * p ^ (n / (k + 1)) by rw [HT.out, if_pos h0])
        have HM := Lib.hid fun w => l10Moebius_any ((k + 1 : Nat) : Int) w (by omega) (by omega)
        rw [mob_small (by omega) (by omega)] at HM
        have HP := Lib.hid fun w => l10Power_any p (n / (k + 1)) w hp2 hp97 hq8
        have hqb := pow_97 hp2 hp97 hq8
        have hm := moeT_bd (k + 1)
        obtain ⟨q, hq⟩ : ∃ q, p ^ (n / (k + 1)) = q := ⟨_, rfl⟩
        obtain ⟨m, hm'⟩ : ∃ m, moeT (k + 1) = m := ⟨_, rfl⟩
        have hx0 : 0 ≤ ((n / (k + 1) : Nat) : Int) := Int.natCast_nonneg _
        have hx8 : ((n / (k + 1) : Nat) : Int) ≤ 8 := by exact_mod_cast hq8
        obtain ⟨x, hx⟩ : ∃ x : Int, ((n / (k + 1) : Nat) : Int) = x := ⟨_, rfl⟩
        rw [hq] at hqb hnb HT2 HP
        rw [hm'] at hm hnb HT2 HM
        rw [hx] at hdiv HP hx0 hx8
        have hmq : -7837433594376961 ≤ m * q ∧ m * q ≤ 7837433594376961 := by
          rcases (by omega : m = -1 ∨ m = 0 ∨ m = 1) with h | h | h <;> rw [h] <;> omega
        have hw1 : IntKind.i64.wrap (m * q) = m * q := by rw [IntWalk.i64_in] <;> omega
        have hw2 : IntKind.i64.wrap (t + m * q) = t + m * q := by rw [IntWalk.i64_in] <;> omega
        have hwx : IntKind.i64.wrap x = x := by rw [IntWalk.i64_in] <;> omega
        obtain ⟨K, hK⟩ : ∃ K : Int, ((k + 1 : Nat) : Int) = K := ⟨_, rfl⟩
        rw [hK] at hmod hdiv hdn hD1 hDz HM hD ⊢
        have HD := Lib.hid hD
        clear hq hm' hx HT h0 hD hK
        go_upto_region 6 with fail
        go_region_with (first
          | (go_at_call 68; refine (HM.out _).mono ?_; rintro e w' ⟨rfl, hb⟩; have HB2 := Lib.hid hb; clear hb)
          | (go_at_call 58; refine (HP.out _).mono ?_; rintro e w' ⟨rfl, rfl⟩))
        all_goals (
          go_wp2
          go_roundw
          case rel => exact ⟨k + 1, K + 1, by omega, by have := HD.out; push_cast; omega, rfl, by rw [HT2.out], HB.out.drew.trans (HB2.out.mono HB.out.size)⟩
          case measure => simp only [intOf]; have := HD.out; omega)
      · rw [HT.out, if_neg h0] at hnb
        have HT2 := Lib.hid (show irrT p n (k + 1) = t by rw [HT.out, if_neg h0]; omega)
        have hne : ¬ (((n % (k + 1) : Nat) : Int) = 0) := by omega
        have hne2 : ((((n % (k + 1) : Nat) : Int)) == 0) = false := by rw [beq_eq_false_iff_ne]; exact hne
        generalize ((n % (k + 1) : Nat) : Int) = r at *
        obtain ⟨K, hK⟩ : ∃ K : Int, ((k + 1 : Nat) : Int) = K := ⟨_, rfl⟩
        rw [hK] at hmod hdiv hdn hD1 hDz hD ⊢
        have HD := Lib.hid hD
        clear HT h0 hK hD
        go_wp2
        go_roundw
        case rel => exact ⟨k + 1, K + 1, by omega, by have := HD.out; push_cast; omega, rfl, by rw [HT2.out], HB.out⟩
        case measure => simp only [intOf]; have := HD.out; omega
    · obtain rfl : k = n := by omega
      have HN := Lib.hid (show irrT p k k / (k : Int) = irrN p k from rfl)
      have hp0 := irr_bd hp2 h1 h8
      generalize irrT p k k = t at *
      have hdv : t.tdiv (k : Int) = t / (k : Int) := Int.tdiv_eq_ediv_of_nonneg (by omega)
      have hkz : ¬ (k : Int) = 0 := by omega
      obtain ⟨q, hq⟩ : ∃ q, t / (k : Int) = q := ⟨_, rfl⟩
      rw [hq] at HN hdv
      have hqb : 0 ≤ q ∧ q ≤ t := by rw [← hq]; exact ⟨Int.ediv_nonneg hp0.1 (by omega), Int.ediv_le_self _ hp0.1⟩
      clear hq
      go_wp2
      go_ret
      rw [HN.out]; exact ⟨rfl, HB.out⟩
def cirC (p n : Int) : Int := if numC p n 1 8 = 0 then limC (irrN p n.toNat) else numC p n 1 8
def cirQ (p n : Int) : Int := if numC p n 1 8 = 0 then limQ (irrN p n.toNat) else 0
theorem specCir_any (p n : Int) (w : World) :
    Calls Try.prog 17 #[.int .i64 p, .int .i64 n] w fun e w' => e = .returned (.tuple #[.int .i64 (cirQ p n), .int .i64 (cirC p n)]) ∧ Below w.heap.size w w' := by
  unfold cirQ cirC
  have HC := Lib.hid fun w => l10Code_any p n 1 8 w
  by_cases h : numC p n 1 8 = 0
  · obtain ⟨hs, h0, h8⟩ := numC_zero h
    obtain ⟨p2, p97⟩ := smallB_bd hs
    rw [if_pos h, if_pos h]
    rw [h] at HC
    obtain ⟨k, rfl⟩ : ∃ k : Nat, n = k := ⟨n.toNat, by omega⟩
    have HP := Lib.hid fun w => l10Irr_any p k w p2 p97 (by omega) (by omega)
    rw [Int.toNat_natCast]
    generalize irrN p k = x at *
    have HR := Lib.hid fun w => l10Result_any x w
    clear h
    go_enter Try.func17, Try.ntmps17
    go_wp2_with (first | (go_at_call 54; refine (HC.out _).mono ?_; rintro e w' ⟨rfl, rfl⟩) | (go_at_call 56; refine (HP.out _).mono ?_; rintro e w' ⟨rfl, hb⟩; have HB := Lib.hid hb; clear hb) | (go_at_call 55; refine (HR.out _).mono ?_; rintro e w' ⟨rfl, rfl⟩))
    go_ret2
    exact ⟨rfl, HB.out⟩
  · obtain ⟨n1, n2⟩ := numC_ne h
    rw [if_neg h, if_neg h]
    generalize numC p n 1 8 = c at *
    clear h
    go_enter Try.func17, Try.ntmps17
    go_wp2_with (go_at_call 54; refine (HC.out _).mono ?_; rintro e w' ⟨rfl, rfl⟩)
    go_ret2
    exact ⟨rfl, Below.refl _ _⟩
end Go.Proofs.Ytjmecidbnoimnaa
