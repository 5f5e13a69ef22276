/- The walk of the law FnResiduePowers: true for every code; below the old memory nothing has turned. -/
import Derived.Test.YtnajgfgnmoihaaaDrawPow
import Derived.Test.YtnajgfgnmoihaaaInvLaw
namespace Go.Proofs.Ytnajgfgnmoihaaa
open Go.RowKit
set_option linter.unusedVariables false
theorem keepC {w1 w2 : World} {a : Addr} {v : Value} (h : w1.cell? a = some v) (hb : Below w1.heap.size w1 w2) : w2.cell? a = some v := by
  rw [hb.cell (World.block_lt_of_cell? _ _ h)]; exact h
theorem keepAC {w1 w2 : World} {a : Addr} {v : Value} {o : Obj} (h : w1.cell? a = some v) (hb : Below (w1.alloc o).heap.size (w1.alloc o) w2) : w2.cell? a = some v := by
  have hlt := World.block_lt_of_cell? _ _ h
  rw [(below_one hb).cell hlt]; exact h
theorem tei_facts {p n b : Int} (h : resC p n b = 0) :
    0 ≤ teiV p n b ∧ teiV p n b < ringM p n ∧ ringM p n ≤ 1000000000 ∧ 0 ≤ b ∧ b < ringM p n ∧ 2 ≤ p ∧ powC p n (teiV p n b) p = 0 ∧ powV p n (teiV p n b) p = teiV p n b ∧ (teiV p n b - b).tmod p = 0 := by
  obtain ⟨h0, b0, b1⟩ := resC_zero h
  obtain ⟨i1, i2, i3, i4⟩ := ringM_in h0
  obtain ⟨p2, p97, n1, n2, m1, m2, _⟩ := ringM_bd h0
  obtain ⟨j, j1, j2, j3⟩ := ringM_succ h0
  have ej : (ringM p n / p).toNat = p.toNat ^ j := by
    rw [j3]
    obtain ⟨P, rfl⟩ : ∃ P : Nat, p = P := ⟨p.toNat, by omega⟩
    rw [ipow_nat, Int.toNat_natCast]; rfl
  have et : teiV p n b = b ^ p.toNat ^ j % ringM p n := by simp only [teiV, h, if_true, powM, ej]
  have t0 : 0 ≤ teiV p n b := by rw [et]; exact Int.emod_nonneg _ h0
  have t1 : teiV p n b < ringM p n := by rw [et]; exact Int.emod_lt_of_pos _ (by omega)
  have hr : resC p n (teiV p n b) = 0 := by unfold resC; rw [if_neg h0, if_pos ⟨t0, t1⟩]
  have hc : powC p n (teiV p n b) p = 0 := by unfold powC; rw [if_pos hr, if_pos ⟨by omega, by omega⟩]
  have hM : ringM p n = p ^ (j + 1) := by rw [i4, j1]
  have hp : p ∣ ringM p n := by rw [hM, Int.pow_succ]; exact Int.dvd_mul_left _ _
  refine ⟨t0, t1, m2, b0, b1, p2, hc, ?_, ?_⟩
  · simp only [powV, hc, if_true, powM]
    rw [et, pow_emod, pow_pow_succ]
    exact emod_of_dvd_sub (by rw [hM]; exact frob_dvd i1 j)
  · have d1 : p ∣ teiV p n b - b ^ p.toNat ^ j := by
      refine Int.dvd_trans hp ?_
      apply Int.dvd_of_emod_eq_zero
      rw [et, Int.sub_emod, Int.emod_emod]; simp
    have := Int.dvd_add d1 (frob_one (a := b) i1 j)
    rw [show teiV p n b - b ^ p.toNat ^ j + (b ^ p.toNat ^ j - b) = teiV p n b - b by omega] at this
    exact Int.tmod_eq_zero_of_dvd this
theorem pow_facts {p n a e : Int} (h : powC p n a e = 0) (he : e ≠ 1000000000000) :
    0 ≤ e ∧ e < 1000000000000 ∧ 2 ≤ ringM p n ∧ 0 ≤ powV p n a e * a ∧ powV p n a e * a ≤ 1000000000000000000 ∧ powC p n a (e + 1) = 0 ∧ ringC p n = 0 ∧ powV p n a (e + 1) = powV p n a e * a % ringM p n := by
  have hr : resC p n a = 0 := by
    unfold powC at h
    split at h
    · assumption
    · contradiction
  have h2 : 0 ≤ e ∧ e ≤ 1000000000000 := by
    unfold powC at h
    rw [if_pos hr] at h
    split at h
    · assumption
    · omega
  obtain ⟨h0, a0, a1⟩ := resC_zero hr
  obtain ⟨_, _, _, _, m1, m2, _⟩ := ringM_bd h0
  have hc : powC p n a (e + 1) = 0 := by unfold powC; rw [if_pos hr, if_pos ⟨by omega, by omega⟩]
  have ev : powV p n a e = a ^ e.toNat % ringM p n := by simp only [powV, h, if_true, powM]
  have v0 : 0 ≤ powV p n a e := by rw [ev]; exact Int.emod_nonneg _ h0
  have v1 : powV p n a e < ringM p n := by rw [ev]; exact Int.emod_lt_of_pos _ (by omega)
  have hp := prod_lt m2 v0 v1 a0 a1
  refine ⟨h2.1, by omega, m1, hp.1, hp.2, hc, by simp [ringC, h0], ?_⟩
  simp only [powV, hc, if_true, powM]
  rw [h, if_pos rfl, mul_emod_l, ← Int.pow_succ]
  congr 2
  omega
set_option maxRecDepth 100000 in
set_option maxHeartbeats 3200000 in
theorem powers_core (o : Option Addr) (len cap : Nat) (w : World) (hl : len ≤ 4096) (hc : CodeIn w o len) :
    Calls Try.prog 4 #[.slice o len cap] w fun e w' => e = .returned (.bool true) ∧ Below w.heap.size w w' := by
  have HC := Lib.hid hc
  clear hc
  go_enter Try.func4, Try.ntmps4
  go_wp2_with (go_at_call 16; refine (big_no _ _ _ _ hl).mono ?_; rintro e w' ⟨rfl, rfl⟩)
  refine (drawPower_any _ _ _ _ hl HC.out).mono ?_
  rintro e w1 ⟨p, n, a, x, rfl, hB⟩
  go_wp2_with (first | (go_at_call 28; refine (implPower_any _ _ _ _ _).mono ?_; rintro e' wn ⟨rfl, hb⟩; (first | with_reducible have hB := ring_two hB hb | have hB := hB.trans ((below_one hb).mono hB.size)); (first | with_reducible have c0 := keepC c0 hb | have c0 := (cells_two hb).1); (first | with_reducible have c1 := keepC c1 hb | have c1 := (cells_two hb).2)) | (go_at_call 30; refine (specPower_any _ _ _ _ _).mono ?_; rintro e' wn ⟨rfl, hb⟩; (first | with_reducible have hB := ring_two hB hb | have hB := hB.trans ((below_one hb).mono hB.size)); (first | with_reducible have c0 := keepC c0 hb | have c0 := (cells_two hb).1); (first | with_reducible have c1 := keepC c1 hb | have c1 := (cells_two hb).2)))
  refine (drawTei_any _ _ _ _ hl (codeIn_below (B := w.heap.size) HC.out hB)).mono ?_
  rintro e w4 ⟨p', n', b, rfl, hb⟩
  have hB := ring_two hB hb
  have c0 := keepC c0 hb
  have c1 := keepC c1 hb
  go_wp2_with (first | (go_at_call 32; refine (implTei_any _ _ _ _).mono ?_; rintro e' wn ⟨rfl, hb⟩; (first | with_reducible have hB := ring_two hB hb | have hB := hB.trans ((below_one hb).mono hB.size)); (first | with_reducible have c0 := keepC c0 hb | have c0 := keepAC c0 hb); (first | with_reducible have c1 := keepC c1 hb | have c1 := keepAC c1 hb); (first | with_reducible have x0 := keepC x0 hb | have x0 := (cells_two hb).1); (first | with_reducible have x1 := keepC x1 hb | have x1 := (cells_two hb).2)) | (go_at_call 33; refine (specTei_any _ _ _ _).mono ?_; rintro e' wn ⟨rfl, hb⟩; (first | with_reducible have hB := ring_two hB hb | have hB := hB.trans ((below_one hb).mono hB.size)); (first | with_reducible have c0 := keepC c0 hb | have c0 := keepAC c0 hb); (first | with_reducible have c1 := keepC c1 hb | have c1 := keepAC c1 hb); (first | with_reducible have x0 := keepC x0 hb | have x0 := (cells_two hb).1); (first | with_reducible have x1 := keepC x1 hb | have x1 := (cells_two hb).2)))
  refine (drawReduce_any _ _ _ _ hl (codeIn_below (B := w.heap.size) HC.out hB)).mono ?_
  rintro e w7 ⟨p'', n'', z, rfl, hb⟩
  have hB := ring_two hB hb
  have c0 := keepC c0 hb
  have c1 := keepC c1 hb
  have x0 := keepC x0 hb
  have x1 := keepC x1 hb
  clear hb
  have hRA : (resC p' n' b != resC p' n' b) = false := by simp
  have hRb : (powC p n a x != powC p n a x) = false := by simp
  by_cases hA : resC p' n' b = 0
  · obtain ⟨t0, t1, t2, b0, b1, p2, t4, t5, t6⟩ := tei_facts hA
    have hA' : (resC p' n' b == 0) = true := by simp [hA]
    have t4' : (powC p' n' (teiV p' n' b) p' != 0) = false := by simp [t4]
    have t5' : (powV p' n' (teiV p' n' b) p' != teiV p' n' b) = false := by simp [t5]
    have t6' : ((teiV p' n' b - b).tmod p' != 0) = false := by simp [t6]
    have hp0 : (p' == 0) = false := by simp; omega
    have hpz : ¬ p' = 0 := by omega
    clear hA t4 t5 t6
    by_cases hP : powC p n a x = 0
    · by_cases hX : x = 1000000000000
      · have hP' : (powC p n a x != 0) = false := by simp [hP]
        have hX' : (x == 1000000000000) = true := by simp [hX]
        clear hP hX
        go_wp2_with (first | (go_at_call 35; refine (implReduceTo_any _ _ _ _).mono ?_; rintro e' wn ⟨rfl, hb⟩; (first | with_reducible have hB := ring_two hB hb | have hB := hB.trans ((below_one hb).mono hB.size)); (first | with_reducible have c0 := keepC c0 hb | have c0 := keepAC c0 hb); (first | with_reducible have c1 := keepC c1 hb | have c1 := keepAC c1 hb); (first | with_reducible have x0 := keepC x0 hb | have x0 := keepAC x0 hb); (first | with_reducible have x1 := keepC x1 hb | have x1 := keepAC x1 hb); (first | with_reducible have y0 := keepC y0 hb | have y0 := (cells_two hb).1); (first | with_reducible have y1 := keepC y1 hb | have y1 := (cells_two hb).2)) | (go_at_call 36; refine (specReduceTo_any _ _ _ _).mono ?_; rintro e' wn ⟨rfl, hb⟩; (first | with_reducible have hB := ring_two hB hb | have hB := hB.trans ((below_one hb).mono hB.size)); (first | with_reducible have c0 := keepC c0 hb | have c0 := keepAC c0 hb); (first | with_reducible have c1 := keepC c1 hb | have c1 := keepAC c1 hb); (first | with_reducible have x0 := keepC x0 hb | have x0 := keepAC x0 hb); (first | with_reducible have x1 := keepC x1 hb | have x1 := keepAC x1 hb); (first | with_reducible have y0 := keepC y0 hb | have y0 := (cells_two hb).1); (first | with_reducible have y1 := keepC y1 hb | have y1 := (cells_two hb).2)) | (go_at_call 28; refine (implPower_any _ _ _ _ _).mono ?_; rintro e' wn ⟨rfl, hb⟩; (first | with_reducible have hB := ring_two hB hb | have hB := hB.trans ((below_one hb).mono hB.size)); (first | with_reducible have c0 := keepC c0 hb | have c0 := keepAC c0 hb); (first | with_reducible have c1 := keepC c1 hb | have c1 := keepAC c1 hb); (first | with_reducible have x0 := keepC x0 hb | have x0 := keepAC x0 hb); (first | with_reducible have x1 := keepC x1 hb | have x1 := keepAC x1 hb)) | (go_at_call 25; refine (specModulusOf_any _ _ _).mono ?_; rintro e' wn ⟨rfl, hb⟩; (first | with_reducible have hB := ring_two hB hb | have hB := hB.trans ((below_one hb).mono hB.size)); (first | with_reducible have c0 := keepC c0 hb | have c0 := keepAC c0 hb); (first | with_reducible have c1 := keepC c1 hb | have c1 := keepAC c1 hb)))
        go_ret
        exact ⟨rfl, hB⟩
      · obtain ⟨k0, k1, m1, v0, v1, k2, k3, k4⟩ := pow_facts hP hX
        have hP' : (powC p n a x != 0) = false := by simp [hP]
        have hX' : (x == 1000000000000) = false := by simp [hX]
        have g1 : (powC p n a (x + 1) == 0) = true := by simp [k2]
        have g2 : (ringC p n == 0) = true := by simp [k3]
        have g3 : (powV p n a (x + 1) == powV p n a x * a % ringM p n) = true := by simp [k4]
        have hM0 : (ringM p n == 0) = false := by simp; omega
        clear hP hX k2 k3 k4
        go_wp2_with (first | (go_at_call 35; refine (implReduceTo_any _ _ _ _).mono ?_; rintro e' wn ⟨rfl, hb⟩; (first | with_reducible have hB := ring_two hB hb | have hB := hB.trans ((below_one hb).mono hB.size)); (first | with_reducible have c0 := keepC c0 hb | have c0 := keepAC c0 hb); (first | with_reducible have c1 := keepC c1 hb | have c1 := keepAC c1 hb); (first | with_reducible have x0 := keepC x0 hb | have x0 := keepAC x0 hb); (first | with_reducible have x1 := keepC x1 hb | have x1 := keepAC x1 hb); (first | with_reducible have y0 := keepC y0 hb | have y0 := (cells_two hb).1); (first | with_reducible have y1 := keepC y1 hb | have y1 := (cells_two hb).2)) | (go_at_call 36; refine (specReduceTo_any _ _ _ _).mono ?_; rintro e' wn ⟨rfl, hb⟩; (first | with_reducible have hB := ring_two hB hb | have hB := hB.trans ((below_one hb).mono hB.size)); (first | with_reducible have c0 := keepC c0 hb | have c0 := keepAC c0 hb); (first | with_reducible have c1 := keepC c1 hb | have c1 := keepAC c1 hb); (first | with_reducible have x0 := keepC x0 hb | have x0 := keepAC x0 hb); (first | with_reducible have x1 := keepC x1 hb | have x1 := keepAC x1 hb); (first | with_reducible have y0 := keepC y0 hb | have y0 := (cells_two hb).1); (first | with_reducible have y1 := keepC y1 hb | have y1 := (cells_two hb).2)) | (go_at_call 28; refine (implPower_any _ _ _ _ _).mono ?_; rintro e' wn ⟨rfl, hb⟩; (first | with_reducible have hB := ring_two hB hb | have hB := hB.trans ((below_one hb).mono hB.size)); (first | with_reducible have c0 := keepC c0 hb | have c0 := keepAC c0 hb); (first | with_reducible have c1 := keepC c1 hb | have c1 := keepAC c1 hb); (first | with_reducible have x0 := keepC x0 hb | have x0 := keepAC x0 hb); (first | with_reducible have x1 := keepC x1 hb | have x1 := keepAC x1 hb)) | (go_at_call 25; refine (specModulusOf_any _ _ _).mono ?_; rintro e' wn ⟨rfl, hb⟩; (first | with_reducible have hB := ring_two hB hb | have hB := hB.trans ((below_one hb).mono hB.size)); (first | with_reducible have c0 := keepC c0 hb | have c0 := keepAC c0 hb); (first | with_reducible have c1 := keepC c1 hb | have c1 := keepAC c1 hb)))
        go_ret
        exact ⟨rfl, hB⟩
    · have hP' : (powC p n a x != 0) = true := by simp [hP]
      clear hP
      go_wp2_with (first | (go_at_call 35; refine (implReduceTo_any _ _ _ _).mono ?_; rintro e' wn ⟨rfl, hb⟩; (first | with_reducible have hB := ring_two hB hb | have hB := hB.trans ((below_one hb).mono hB.size)); (first | with_reducible have c0 := keepC c0 hb | have c0 := keepAC c0 hb); (first | with_reducible have c1 := keepC c1 hb | have c1 := keepAC c1 hb); (first | with_reducible have x0 := keepC x0 hb | have x0 := keepAC x0 hb); (first | with_reducible have x1 := keepC x1 hb | have x1 := keepAC x1 hb); (first | with_reducible have y0 := keepC y0 hb | have y0 := (cells_two hb).1); (first | with_reducible have y1 := keepC y1 hb | have y1 := (cells_two hb).2)) | (go_at_call 36; refine (specReduceTo_any _ _ _ _).mono ?_; rintro e' wn ⟨rfl, hb⟩; (first | with_reducible have hB := ring_two hB hb | have hB := hB.trans ((below_one hb).mono hB.size)); (first | with_reducible have c0 := keepC c0 hb | have c0 := keepAC c0 hb); (first | with_reducible have c1 := keepC c1 hb | have c1 := keepAC c1 hb); (first | with_reducible have x0 := keepC x0 hb | have x0 := keepAC x0 hb); (first | with_reducible have x1 := keepC x1 hb | have x1 := keepAC x1 hb); (first | with_reducible have y0 := keepC y0 hb | have y0 := (cells_two hb).1); (first | with_reducible have y1 := keepC y1 hb | have y1 := (cells_two hb).2)) | (go_at_call 28; refine (implPower_any _ _ _ _ _).mono ?_; rintro e' wn ⟨rfl, hb⟩; (first | with_reducible have hB := ring_two hB hb | have hB := hB.trans ((below_one hb).mono hB.size)); (first | with_reducible have c0 := keepC c0 hb | have c0 := keepAC c0 hb); (first | with_reducible have c1 := keepC c1 hb | have c1 := keepAC c1 hb); (first | with_reducible have x0 := keepC x0 hb | have x0 := keepAC x0 hb); (first | with_reducible have x1 := keepC x1 hb | have x1 := keepAC x1 hb)) | (go_at_call 25; refine (specModulusOf_any _ _ _).mono ?_; rintro e' wn ⟨rfl, hb⟩; (first | with_reducible have hB := ring_two hB hb | have hB := hB.trans ((below_one hb).mono hB.size)); (first | with_reducible have c0 := keepC c0 hb | have c0 := keepAC c0 hb); (first | with_reducible have c1 := keepC c1 hb | have c1 := keepAC c1 hb)))
      go_ret
      exact ⟨rfl, hB⟩
  · have hA' : (resC p' n' b == 0) = false := by simp [hA]
    clear hA
    by_cases hP : powC p n a x = 0
    · by_cases hX : x = 1000000000000
      · have hP' : (powC p n a x != 0) = false := by simp [hP]
        have hX' : (x == 1000000000000) = true := by simp [hX]
        clear hP hX
        go_wp2_with (first | (go_at_call 35; refine (implReduceTo_any _ _ _ _).mono ?_; rintro e' wn ⟨rfl, hb⟩; (first | with_reducible have hB := ring_two hB hb | have hB := hB.trans ((below_one hb).mono hB.size)); (first | with_reducible have c0 := keepC c0 hb | have c0 := keepAC c0 hb); (first | with_reducible have c1 := keepC c1 hb | have c1 := keepAC c1 hb); (first | with_reducible have x0 := keepC x0 hb | have x0 := keepAC x0 hb); (first | with_reducible have x1 := keepC x1 hb | have x1 := keepAC x1 hb); (first | with_reducible have y0 := keepC y0 hb | have y0 := (cells_two hb).1); (first | with_reducible have y1 := keepC y1 hb | have y1 := (cells_two hb).2)) | (go_at_call 36; refine (specReduceTo_any _ _ _ _).mono ?_; rintro e' wn ⟨rfl, hb⟩; (first | with_reducible have hB := ring_two hB hb | have hB := hB.trans ((below_one hb).mono hB.size)); (first | with_reducible have c0 := keepC c0 hb | have c0 := keepAC c0 hb); (first | with_reducible have c1 := keepC c1 hb | have c1 := keepAC c1 hb); (first | with_reducible have x0 := keepC x0 hb | have x0 := keepAC x0 hb); (first | with_reducible have x1 := keepC x1 hb | have x1 := keepAC x1 hb); (first | with_reducible have y0 := keepC y0 hb | have y0 := (cells_two hb).1); (first | with_reducible have y1 := keepC y1 hb | have y1 := (cells_two hb).2)) | (go_at_call 28; refine (implPower_any _ _ _ _ _).mono ?_; rintro e' wn ⟨rfl, hb⟩; (first | with_reducible have hB := ring_two hB hb | have hB := hB.trans ((below_one hb).mono hB.size)); (first | with_reducible have c0 := keepC c0 hb | have c0 := keepAC c0 hb); (first | with_reducible have c1 := keepC c1 hb | have c1 := keepAC c1 hb); (first | with_reducible have x0 := keepC x0 hb | have x0 := keepAC x0 hb); (first | with_reducible have x1 := keepC x1 hb | have x1 := keepAC x1 hb)) | (go_at_call 25; refine (specModulusOf_any _ _ _).mono ?_; rintro e' wn ⟨rfl, hb⟩; (first | with_reducible have hB := ring_two hB hb | have hB := hB.trans ((below_one hb).mono hB.size)); (first | with_reducible have c0 := keepC c0 hb | have c0 := keepAC c0 hb); (first | with_reducible have c1 := keepC c1 hb | have c1 := keepAC c1 hb)))
        go_ret
        exact ⟨rfl, hB⟩
      · obtain ⟨k0, k1, m1, v0, v1, k2, k3, k4⟩ := pow_facts hP hX
        have hP' : (powC p n a x != 0) = false := by simp [hP]
        have hX' : (x == 1000000000000) = false := by simp [hX]
        have g1 : (powC p n a (x + 1) == 0) = true := by simp [k2]
        have g2 : (ringC p n == 0) = true := by simp [k3]
        have g3 : (powV p n a (x + 1) == powV p n a x * a % ringM p n) = true := by simp [k4]
        have hM0 : (ringM p n == 0) = false := by simp; omega
        clear hP hX k2 k3 k4
        go_wp2_with (first | (go_at_call 35; refine (implReduceTo_any _ _ _ _).mono ?_; rintro e' wn ⟨rfl, hb⟩; (first | with_reducible have hB := ring_two hB hb | have hB := hB.trans ((below_one hb).mono hB.size)); (first | with_reducible have c0 := keepC c0 hb | have c0 := keepAC c0 hb); (first | with_reducible have c1 := keepC c1 hb | have c1 := keepAC c1 hb); (first | with_reducible have x0 := keepC x0 hb | have x0 := keepAC x0 hb); (first | with_reducible have x1 := keepC x1 hb | have x1 := keepAC x1 hb); (first | with_reducible have y0 := keepC y0 hb | have y0 := (cells_two hb).1); (first | with_reducible have y1 := keepC y1 hb | have y1 := (cells_two hb).2)) | (go_at_call 36; refine (specReduceTo_any _ _ _ _).mono ?_; rintro e' wn ⟨rfl, hb⟩; (first | with_reducible have hB := ring_two hB hb | have hB := hB.trans ((below_one hb).mono hB.size)); (first | with_reducible have c0 := keepC c0 hb | have c0 := keepAC c0 hb); (first | with_reducible have c1 := keepC c1 hb | have c1 := keepAC c1 hb); (first | with_reducible have x0 := keepC x0 hb | have x0 := keepAC x0 hb); (first | with_reducible have x1 := keepC x1 hb | have x1 := keepAC x1 hb); (first | with_reducible have y0 := keepC y0 hb | have y0 := (cells_two hb).1); (first | with_reducible have y1 := keepC y1 hb | have y1 := (cells_two hb).2)) | (go_at_call 28; refine (implPower_any _ _ _ _ _).mono ?_; rintro e' wn ⟨rfl, hb⟩; (first | with_reducible have hB := ring_two hB hb | have hB := hB.trans ((below_one hb).mono hB.size)); (first | with_reducible have c0 := keepC c0 hb | have c0 := keepAC c0 hb); (first | with_reducible have c1 := keepC c1 hb | have c1 := keepAC c1 hb); (first | with_reducible have x0 := keepC x0 hb | have x0 := keepAC x0 hb); (first | with_reducible have x1 := keepC x1 hb | have x1 := keepAC x1 hb)) | (go_at_call 25; refine (specModulusOf_any _ _ _).mono ?_; rintro e' wn ⟨rfl, hb⟩; (first | with_reducible have hB := ring_two hB hb | have hB := hB.trans ((below_one hb).mono hB.size)); (first | with_reducible have c0 := keepC c0 hb | have c0 := keepAC c0 hb); (first | with_reducible have c1 := keepC c1 hb | have c1 := keepAC c1 hb)))
        go_ret
        exact ⟨rfl, hB⟩
    · have hP' : (powC p n a x != 0) = true := by simp [hP]
      clear hP
      go_wp2_with (first | (go_at_call 35; refine (implReduceTo_any _ _ _ _).mono ?_; rintro e' wn ⟨rfl, hb⟩; (first | with_reducible have hB := ring_two hB hb | have hB := hB.trans ((below_one hb).mono hB.size)); (first | with_reducible have c0 := keepC c0 hb | have c0 := keepAC c0 hb); (first | with_reducible have c1 := keepC c1 hb | have c1 := keepAC c1 hb); (first | with_reducible have x0 := keepC x0 hb | have x0 := keepAC x0 hb); (first | with_reducible have x1 := keepC x1 hb | have x1 := keepAC x1 hb); (first | with_reducible have y0 := keepC y0 hb | have y0 := (cells_two hb).1); (first | with_reducible have y1 := keepC y1 hb | have y1 := (cells_two hb).2)) | (go_at_call 36; refine (specReduceTo_any _ _ _ _).mono ?_; rintro e' wn ⟨rfl, hb⟩; (first | with_reducible have hB := ring_two hB hb | have hB := hB.trans ((below_one hb).mono hB.size)); (first | with_reducible have c0 := keepC c0 hb | have c0 := keepAC c0 hb); (first | with_reducible have c1 := keepC c1 hb | have c1 := keepAC c1 hb); (first | with_reducible have x0 := keepC x0 hb | have x0 := keepAC x0 hb); (first | with_reducible have x1 := keepC x1 hb | have x1 := keepAC x1 hb); (first | with_reducible have y0 := keepC y0 hb | have y0 := (cells_two hb).1); (first | with_reducible have y1 := keepC y1 hb | have y1 := (cells_two hb).2)) | (go_at_call 28; refine (implPower_any _ _ _ _ _).mono ?_; rintro e' wn ⟨rfl, hb⟩; (first | with_reducible have hB := ring_two hB hb | have hB := hB.trans ((below_one hb).mono hB.size)); (first | with_reducible have c0 := keepC c0 hb | have c0 := keepAC c0 hb); (first | with_reducible have c1 := keepC c1 hb | have c1 := keepAC c1 hb); (first | with_reducible have x0 := keepC x0 hb | have x0 := keepAC x0 hb); (first | with_reducible have x1 := keepC x1 hb | have x1 := keepAC x1 hb)) | (go_at_call 25; refine (specModulusOf_any _ _ _).mono ?_; rintro e' wn ⟨rfl, hb⟩; (first | with_reducible have hB := ring_two hB hb | have hB := hB.trans ((below_one hb).mono hB.size)); (first | with_reducible have c0 := keepC c0 hb | have c0 := keepAC c0 hb); (first | with_reducible have c1 := keepC c1 hb | have c1 := keepAC c1 hb)))
      go_ret
      exact ⟨rfl, hB⟩
set_option maxRecDepth 100000 in
theorem powers_walk (a : Option Addr) (len cap : Nat) (zs : List Int) (w : World) (h : IsRowOf .u8 w a len cap zs) :
    Calls Try.prog 4 #[.slice a len cap] w fun e w' => e = .returned (.bool true) ∧ Below w.heap.size w w' := by
  obtain ⟨hc, hm⟩ := codeIn_of h
  by_cases hl : len ≤ 4096
  · exact powers_core a len cap w hl hc
  · clear hc h
    go_enter Try.func4, Try.ntmps4
    go_wp2_with (go_at_call 16; refine (big_yes _ _ _ _ (by omega) (by omega)).mono ?_; rintro e w' ⟨rfl, rfl⟩)
    go_ret
    exact ⟨rfl, Below.refl _ _⟩
end Go.Proofs.Ytnajgfgnmoihaaa
