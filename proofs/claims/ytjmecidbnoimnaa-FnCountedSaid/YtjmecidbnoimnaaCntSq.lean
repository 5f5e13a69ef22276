/- Contracts of the walk: chapter 10: CountSquareFrees and MoebiusOf of both sides, and the walks of their exact laws. -/
import Derived.Test.YtjmecidbnoimnaaCntLow
namespace Go.Proofs.Ytjmecidbnoimnaa
open Go.RowKit
set_option linter.unusedVariables false
set_option linter.unusedSimpArgs false
set_option maxRecDepth 20000
def sqfN (p n : Int) : Int := if n < 2 then p ^ n.toNat else p ^ n.toNat - p ^ (n.toNat - 1)
def sqfC (p n : Int) : Int := if numC p n 0 8 = 0 then limC (sqfN p n) else numC p n 0 8
def sqfQ (p n : Int) : Int := if numC p n 0 8 = 0 then limQ (sqfN p n) else 0
theorem numC_zero {p n lo hi : Int} (h : numC p n lo hi = 0) : smallB p = true ∧ lo ≤ n ∧ n ≤ hi := by
  unfold numC at h
  split at h
  · split at h
    · rename_i h1 h2
      refine ⟨h1, ?_⟩
      rcases (by omega : n < lo ∨ (lo ≤ n ∧ n ≤ hi) ∨ hi < n) with h3 | h3 | h3
      · rw [inB_f (.inl h3)] at h2; cases h2
      · exact h3
      · rw [inB_f (.inr h3)] at h2; cases h2
    · omega
  · omega
theorem numC_ne {p n lo hi : Int} (h : ¬ numC p n lo hi = 0) : (numC p n lo hi != 0) = true ∧ (numC p n lo hi == 0) = false := by
  constructor
  · simp [h]
  · simp [h]
set_option maxHeartbeats 1000000 in
theorem specSqf_any (p n : Int) (w : World) :
    Calls Try.prog 20 #[.int .i64 p, .int .i64 n] w fun e w' => e = .returned (.tuple #[.int .i64 (sqfQ p n), .int .i64 (sqfC p n)]) ∧ w = w' := by
  unfold sqfQ sqfC
  have HC := Lib.hid fun w => l10Code_any p n 0 8 w
  by_cases h : numC p n 0 8 = 0
  · obtain ⟨hs, h0, h8⟩ := numC_zero h
    obtain ⟨p2, p97⟩ := smallB_bd hs
    rw [if_pos h, if_pos h]
    rw [h] at HC
    obtain ⟨k, rfl⟩ : ∃ k : Nat, n = k := ⟨n.toNat, by omega⟩
    have hk8 : k ≤ 8 := by omega
    have HP := Lib.hid fun w => l10Power_any p k w p2 p97 hk8
    have hb := pow_97 p2 p97 hk8
    unfold sqfN
    rw [Int.toNat_natCast]
    by_cases h2 : (k : Int) < 2
    · rw [if_pos h2]
      obtain ⟨x, hx⟩ : ∃ x, p ^ k = x := ⟨_, rfl⟩
      rw [hx] at HP hb ⊢
      have HR := Lib.hid fun w => l10Result_any x w
      clear hx h
      go_enter Try.func20, Try.ntmps20
      go_wp2_with (first | (go_at_call 54; refine (HC.out _).mono ?_; rintro e w' ⟨rfl, rfl⟩) | (go_at_call 58; refine (HP.out _).mono ?_; rintro e w' ⟨rfl, rfl⟩) | (go_at_call 55; refine (HR.out _).mono ?_; rintro e w' ⟨rfl, rfl⟩))
      go_ret2
      exact ⟨rfl, rfl⟩
    · rw [if_neg h2]
      obtain ⟨m, rfl⟩ : ∃ m, k = m + 1 := ⟨k - 1, by omega⟩
      have HP1 := Lib.hid fun w => l10Power_any p m w p2 p97 (by omega)
      have hb1 := pow_97 p2 p97 (k := m) (by omega)
      rw [Nat.add_sub_cancel]
      have hm : ((m + 1 : Nat) : Int) - 1 = (m : Int) := by omega
      obtain ⟨x, hx⟩ : ∃ x, p ^ (m + 1) = x := ⟨_, rfl⟩
      obtain ⟨y, hy⟩ : ∃ y, p ^ m = y := ⟨_, rfl⟩
      obtain ⟨K, hK⟩ : ∃ K : Int, ((m + 1 : Nat) : Int) = K := ⟨_, rfl⟩
      rw [hx] at HP hb ⊢
      rw [hy] at HP1 hb1 ⊢
      rw [hK] at HP hm HC h0 h8 h2 ⊢
      have HR := Lib.hid fun w => l10Result_any (x - y) w
      clear hx hy h hK
      go_enter Try.func20, Try.ntmps20
      go_wp2_with (first | (go_at_call 54; refine (HC.out _).mono ?_; rintro e w' ⟨rfl, rfl⟩) | (go_at_call 58; first | (with_reducible refine (HP.out _).mono ?_; rintro e w' ⟨rfl, rfl⟩) | (with_reducible refine (HP1.out _).mono ?_; rintro e w' ⟨rfl, rfl⟩)) | (go_at_call 55; refine (HR.out _).mono ?_; rintro e w' ⟨rfl, rfl⟩))
      go_ret2
      exact ⟨rfl, rfl⟩
  · obtain ⟨n1, n2⟩ := numC_ne h
    rw [if_neg h, if_neg h]
    generalize numC p n 0 8 = c at *
    clear h
    go_enter Try.func20, Try.ntmps20
    go_wp2_with (go_at_call 54; refine (HC.out _).mono ?_; rintro e w' ⟨rfl, rfl⟩)
    go_ret2
    exact ⟨rfl, rfl⟩
set_option maxHeartbeats 1000000 in
theorem implSqf_any (p n : Int) (w : World) :
    Calls Try.prog 19 #[.int .i64 p, .int .i64 n] w fun e w' => e = .returned (.tuple #[.int .i64 (sqfQ p n), .int .i64 (sqfC p n)]) ∧ w = w' := by
  unfold sqfQ sqfC
  have HC := Lib.hid fun w => checkNumber_any p n 0 8 w
  by_cases h : numC p n 0 8 = 0
  · obtain ⟨hs, h0, h8⟩ := numC_zero h
    obtain ⟨p2, p97⟩ := smallB_bd hs
    rw [if_pos h, if_pos h]
    rw [h] at HC
    obtain ⟨k, rfl⟩ : ∃ k : Nat, n = k := ⟨n.toNat, by omega⟩
    have hk8 : k ≤ 8 := by omega
    have HP := Lib.hid fun w => primePowN_any p k w p2 p97 hk8
    have hb := pow_97 p2 p97 hk8
    unfold sqfN
    rw [Int.toNat_natCast]
    by_cases h2 : (k : Int) < 2
    · rw [if_pos h2]
      obtain ⟨x, hx⟩ : ∃ x, p ^ k = x := ⟨_, rfl⟩
      rw [hx] at HP hb ⊢
      have HR := Lib.hid fun w => countOrLimit_any x w
      clear hx h
      go_enter Try.func19, Try.ntmps19
      go_wp2_with (first | (go_at_call 51; refine (HC.out _).mono ?_; rintro e w' ⟨rfl, rfl⟩) | (go_at_call 57; refine (HP.out _).mono ?_; rintro e w' ⟨rfl, rfl⟩) | (go_at_call 52; refine (HR.out _).mono ?_; rintro e w' ⟨rfl, rfl⟩))
      go_ret2
      exact ⟨rfl, rfl⟩
    · rw [if_neg h2]
      obtain ⟨m, rfl⟩ : ∃ m, k = m + 1 := ⟨k - 1, by omega⟩
      have HP1 := Lib.hid fun w => primePowN_any p m w p2 p97 (by omega)
      have hb1 := pow_97 p2 p97 (k := m) (by omega)
      rw [Nat.add_sub_cancel]
      have hm : ((m + 1 : Nat) : Int) - 1 = (m : Int) := by omega
      obtain ⟨x, hx⟩ : ∃ x, p ^ (m + 1) = x := ⟨_, rfl⟩
      obtain ⟨y, hy⟩ : ∃ y, p ^ m = y := ⟨_, rfl⟩
      obtain ⟨K, hK⟩ : ∃ K : Int, ((m + 1 : Nat) : Int) = K := ⟨_, rfl⟩
      rw [hx] at HP hb ⊢
      rw [hy] at HP1 hb1 ⊢
      rw [hK] at HP hm HC h0 h8 h2 ⊢
      have HR := Lib.hid fun w => countOrLimit_any (x - y) w
      clear hx hy h hK
      go_enter Try.func19, Try.ntmps19
      go_wp2_with (first | (go_at_call 51; refine (HC.out _).mono ?_; rintro e w' ⟨rfl, rfl⟩) | (go_at_call 57; first | (with_reducible refine (HP.out _).mono ?_; rintro e w' ⟨rfl, rfl⟩) | (with_reducible refine (HP1.out _).mono ?_; rintro e w' ⟨rfl, rfl⟩)) | (go_at_call 52; refine (HR.out _).mono ?_; rintro e w' ⟨rfl, rfl⟩))
      go_ret2
      exact ⟨rfl, rfl⟩
  · obtain ⟨n1, n2⟩ := numC_ne h
    rw [if_neg h, if_neg h]
    generalize numC p n 0 8 = c at *
    clear h
    go_enter Try.func19, Try.ntmps19
    go_wp2_with (go_at_call 51; refine (HC.out _).mono ?_; rintro e w' ⟨rfl, rfl⟩)
    go_ret2
    exact ⟨rfl, rfl⟩
theorem exactSqf_walk (p n : Int) (_ : (Lit.int .i64 p).wf = true) (_ : (Lit.int .i64 n).wf = true) (w : World) :
    Calls Try.prog 8 #[.int .i64 p, .int .i64 n] w fun e w' => e = .returned (.bool true) ∧ Below w.heap.size w w' := by
  have HS := Lib.hid fun w => specSqf_any p n w
  have HI := Lib.hid fun w => implSqf_any p n w
  generalize sqfQ p n = q at *
  generalize sqfC p n = c at *
  go_enter Try.func8, Try.ntmps8
  go_wp2_with (first | (go_at_call 20; refine (HS.out _).mono ?_; rintro e w' ⟨rfl, rfl⟩) | (go_at_call 19; refine (HI.out _).mono ?_; rintro e w' ⟨rfl, rfl⟩))
  go_ret
  exact ⟨rfl, Below.refl _ _⟩
end Go.Proofs.Ytjmecidbnoimnaa
