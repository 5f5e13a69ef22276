/- The walk of the law FnFactors: true for every code; below the old memory nothing has turned. -/
import Derived.Test.YtbhhnnnghdmhgaaDrawFact
namespace Go.Proofs.Ytbhhnnnghdmhgaa
open Go.RowKit
set_option linter.unusedVariables false
def rangeB (n : Int) : Bool := inB n 1 1000000
/-- what both FactorOf and both DivisorsOf answer, for every integer -/
def factL (n : Int) : List (Int × Int) := if rangeB n then factT n else []
def factC (n : Int) : Int := if rangeB n then 0 else 2
def dvsL (n : Int) : List Int := if rangeB n then divL n.toNat else []
def dvsC (n : Int) : Int := if rangeB n then divC n.toNat else 2
theorem rangeB_t {n : Int} (h : rangeB n = true) : 1 ≤ n ∧ n ≤ 1000000 := by simpa [rangeB, inB] using h
theorem rangeB_f {n : Int} (h : rangeB n = false) : n < 1 ∨ 1000000 < n := by
  refine Classical.byContradiction fun hc => ?_
  have : rangeB n = true := inB_t (by omega) (by omega)
  rw [h] at this; cases this
theorem implFact_all (n : Int) (w : World) : Calls Try.prog 21 #[.int .i64 n] w (PowPost (factL n) (factC n) w) := by
  unfold factL factC
  cases h : rangeB n
  · exact implFact_no n w (rangeB_f h)
  · exact implFact_val n w (rangeB_t h).1 (rangeB_t h).2
theorem specFact_all (n : Int) (w : World) : Calls Try.prog 22 #[.int .i64 n] w (PowPost (factL n) (factC n) w) := by
  unfold factL factC
  cases h : rangeB n
  · exact specFact_no n w (rangeB_f h)
  · exact specFact_val n w (rangeB_t h).1 (rangeB_t h).2
theorem implDiv_all (n : Int) (w : World) : Calls Try.prog 24 #[.int .i64 n] w (IntPost (dvsL n) (dvsC n) w) := by
  unfold dvsL dvsC
  cases h : rangeB n
  · exact implDiv_no n w (rangeB_f h)
  · have hb := rangeB_t h
    have := implDiv_val n.toNat w (by omega) (by omega)
    rw [show ((n.toNat : Nat) : Int) = n by omega] at this
    exact this
theorem specDiv_all (n : Int) (w : World) : Calls Try.prog 25 #[.int .i64 n] w (IntPost (dvsL n) (dvsC n) w) := by
  unfold dvsL dvsC
  cases h : rangeB n
  · exact specDiv_no n w (rangeB_f h)
  · have hb := rangeB_t h
    have := specDiv_val n.toNat w (by omega) (by omega)
    rw [show ((n.toNat : Nat) : Int) = n by omega] at this
    exact this
theorem factL_length (n : Int) : (factL n).length ≤ 2000 := by
  unfold factL
  cases h : rangeB n
  · simp
  · exact factT_length (rangeB_t h).1 (rangeB_t h).2
theorem dvsL_length (n : Int) : (dvsL n).length ≤ 60 := by
  unfold dvsL
  cases h : rangeB n
  · simp
  · exact divL_length _
theorem factC_cases (n : Int) : (factC n = 0 ∧ Good n (factL n) ∧ 1 ≤ n ∧ n ≤ 1000000) ∨ factC n = 2 := by
  unfold factC factL
  cases h : rangeB n
  · exact .inr rfl
  · have hb := rangeB_t h
    exact .inl ⟨rfl, factT_good hb.1 hb.2, hb⟩
theorem dvsC_cases (n : Int) : (dvsC n = 0 ∧ 1 ≤ n ∧ n ≤ 1000000 ∧ ∀ i, i < (dvsL n).length → (dvsL n).getD i 0 * (dvsL n).getD ((dvsL n).length - 1 - i) 0 = n) ∨ (dvsC n = 2 ∨ dvsC n = 3) := by
  unfold dvsC dvsL
  cases h : rangeB n
  · exact .inr (.inl rfl)
  · have hb := rangeB_t h
    simp only [if_true, divC, divL]
    by_cases h60 : 60 < (specL n.toNat n.toNat).length
    · simp only [if_pos h60]; exact .inr (.inr trivial)
    · simp only [if_neg h60]
      refine .inl ⟨trivial, hb.1, hb.2, fun i hi => ?_⟩
      rw [ints_length] at hi ⊢
      rw [divs_pair (by omega) hi]; omega
theorem likePow_same {b1 b2 : Nat} {w : World} {v1 v2 : Value} {l : List (Int × Int)} (h1 : PowRow b1 w v1 l) (h2 : PowRow b2 w v2 l) (hl : l.length ≤ 1000000) :
    Calls Try.prog 29 #[v1, v2] w fun e w' => e = .returned (.bool true) ∧ ∃ m, w' = w.drewN m := by
  rcases row_shape h1 with ⟨h0, o, c, rfl⟩ | ⟨h0, g, c, rfl, hb, hg⟩
  · rcases row_shape h2 with ⟨_, o', c', rfl⟩ | ⟨h0', _⟩
    · exact (likePowers_nil o o' c c' w).mono fun e w' ⟨he, hw⟩ => ⟨he, 0, hw.symm⟩
    · omega
  · rcases row_shape h2 with ⟨h0', _⟩ | ⟨_, g', c', rfl, hb', hg'⟩
    · omega
    · exact likePowers_row g g' l.length c c' l w hl (pow_cells h1) (pow_cells h2)
theorem valC_zero {k p : Int} (h : valC k p = 0) : 2 ≤ p ∧ p ≤ 97 ∧ k ≠ 0 ∧ k.natAbs ≤ 1000000000000 ∧ valV k p = valCount k p := by
  unfold valC at h
  cases hp : smallB p
  · simp [hp] at h
  · cases hk : valueB k
    · simp [hp, hk] at h
    · by_cases h0 : k = 0
      · subst h0; simp [hp, hk] at h
      · have h1 := smallB_bd hp
        have h2 := valueB_bd hk
        exact ⟨h1.1, h1.2, h0, by omega, by simp [valV, hp, hk, h0]⟩
theorem pow_gt {p : Int} (h : 2 ≤ p) : ∀ e : Nat, (e : Int) < p ^ e := by
  intro e
  induction e with
  | zero => simp
  | succ e ih =>
    rw [Int.pow_succ]
    have h1 := pow_ge_one h e
    have : p ^ e * 2 ≤ p ^ e * p := Int.mul_le_mul_of_nonneg_left h (by omega)
    omega
theorem good_exp {n : Int} {l : List (Int × Int)} (hg : Good n l) (hn : n ≤ 1000000) {i : Nat} (hi : i < l.length) : (l.getD i (0, 0)).2 ≤ 1000000 := by
  have hp : 2 ≤ (l.getD i (0, 0)).1 := (isPrimeB_two (hg.rise.1 i hi).1).1
  have h1 := pow_gt hp (l.getD i (0, 0)).2.toNat
  obtain ⟨h2, h3⟩ := good_part hg hi (Nat.le_refl _)
  have h4 : 1 ≤ upto l i := pprod_ge_one _ (fun q hq => rising_mem hg.rise q (List.mem_of_mem_take hq))
  have h5 := pow_ge_one hp (l.getD i (0, 0)).2.toNat
  have : 1 * (l.getD i (0, 0)).1 ^ (l.getD i (0, 0)).2.toNat ≤ upto l i * (l.getD i (0, 0)).1 ^ (l.getD i (0, 0)).2.toNat := Int.mul_le_mul_of_nonneg_right h4 (by omega)
  omega
theorem bne_f {a b : Int} (h : a = b) : (a != b) = false := by simp [h]
set_option maxRecDepth 100000 in
set_option maxHeartbeats 4000000 in
theorem factors_core (o : Option Addr) (len cap : Nat) (w : World) (hl : len ≤ 4096) (hc : CodeIn w o len) :
    Calls Try.prog 4 #[.slice o len cap] w fun e w' => e = .returned (.bool true) ∧ Below w.heap.size w w' := by
  have HC := Lib.hid hc
  clear hc
  go_enter Try.func4, Try.ntmps4
  go_wp2_with fail
  refine (big_no _ _ _ _ hl).mono ?_
  rintro e w' ⟨rfl, rfl⟩
  go_wp2_with fail
  refine (drawFactorOf_any _ _ _ _ hl HC.out).mono ?_
  rintro e w1 ⟨n, rfl, b1⟩
  have B1 := Lib.hid b1
  clear b1
  go_wp2_with fail
  refine (implFact_all _ _).mono ?_
  rintro e w2 ⟨v2, rfl, r2, b2⟩
  have R2 := Lib.hid r2
  have B2 := Lib.hid (B1.out.trans (b2.mono B1.out.size))
  clear r2 b2
  go_wp2_with fail
  refine (specFact_all _ _).mono ?_
  rintro e w3 ⟨v3, rfl, r3, b3⟩
  have R23 := Lib.hid (row_below R2.out b3 (Nat.le_refl _))
  have R3 := Lib.hid r3
  have B3 := Lib.hid (B2.out.trans (b3.mono B2.out.size))
  have C3 := Lib.hid (codeIn_below (B := 0) HC.out B3.out)
  clear r3 b3
  go_wp2_with fail
  refine (drawDivisorsOf_any _ _ _ _ hl C3.out).mono ?_
  rintro e w4 ⟨m, rfl, b4⟩
  have R24 := Lib.hid (row_below R23.out b4 (Nat.le_refl _))
  have R34 := Lib.hid (row_below R3.out b4 (Nat.le_refl _))
  have B4 := Lib.hid (B3.out.trans (b4.mono B3.out.size))
  clear b4
  go_wp2_with fail
  refine (implDiv_all _ _).mono ?_
  rintro e w5 ⟨v5, rfl, r5, b5⟩
  have R25 := Lib.hid (row_below R24.out b5 (Nat.le_refl _))
  have R35 := Lib.hid (row_below R34.out b5 (Nat.le_refl _))
  have R5 := Lib.hid r5
  have B5 := Lib.hid (B4.out.trans (b5.mono B4.out.size))
  clear r5 b5
  go_wp2_with fail
  refine (specDiv_all _ _).mono ?_
  rintro e w6 ⟨v6, rfl, r6, b6⟩
  have R26 := Lib.hid (row_below R25.out b6 (Nat.le_refl _))
  have R36 := Lib.hid (row_below R35.out b6 (Nat.le_refl _))
  have R56 := Lib.hid (row_below R5.out b6 (Nat.le_refl _))
  have R6 := Lib.hid r6
  have B6 := Lib.hid (B5.out.trans (b6.mono B5.out.size))
  have C6 := Lib.hid (codeIn_below (B := 0) HC.out B6.out)
  clear r6 b6
  go_wp2_with fail
  refine (drawValuationOf_any _ _ _ _ hl C6.out).mono ?_
  rintro e w7 ⟨k, p, rfl, b7⟩
  have R27 := Lib.hid (row_below R26.out b7 (Nat.le_refl _))
  have R37 := Lib.hid (row_below R36.out b7 (Nat.le_refl _))
  have R57 := Lib.hid (row_below R56.out b7 (Nat.le_refl _))
  have R67 := Lib.hid (row_below R6.out b7 (Nat.le_refl _))
  have B7 := Lib.hid (B6.out.trans (b7.mono B6.out.size))
  clear b7
  go_wp2_with fail
  refine (implVal_any _ _ _).mono ?_
  rintro e w' ⟨rfl, rfl⟩
  go_wp2_with fail
  refine (specVal_any _ _ _).mono ?_
  rintro e w' ⟨rfl, rfl⟩
  clear R2 R3 R23 R24 R34 R25 R35 R5 R26 R36 R56 R6 B1 B2 B3 B4 B5 B6 C3 C6 HC
  go_wp2_with fail
  refine (likePow_same R27.out R37.out (by have := factL_length n; omega)).mono ?_
  rintro e w' ⟨rfl, n8, rfl⟩
  go_wp2_with fail
  refine (likeInts_same (w := w7.drewN n8) R57.out R67.out (by have := dvsL_length m; omega)).mono ?_
  rintro e w' ⟨rfl, n9, rfl⟩
  go_wp2_with fail
  have HV := Lib.hid (fun h : valC k p = 0 => vRel_start (p := p) (valC_zero h).2.2.1 (valC_zero h).2.2.2.1)
  obtain ⟨o5, c5, h5⟩ := row_slice R57.out
  subst h5
  obtain ⟨o6, c6, h6⟩ := row_slice R67.out
  subst h6
  obtain ⟨o2, c2, h2⟩ := row_slice R27.out
  subst h2
  have L5 := dvsL_length m
  have L2 := factL_length n
  go_loopw [19] (fun i wr => ∃ j : Nat, j ≤ (dvsL m).length ∧ i = .int .i64 j ∧ ∃ nd, wr = w7.drewN nd) (fun i _ => (dvsL m).length - (intOf i).toNat)
  case atStart => exact ⟨0, Nat.zero_le _, rfl, n8 + n9, by first | rfl | rw [World.drewN_drewN]⟩
  case round =>
    obtain ⟨j, hj, rfl, nd, rfl⟩ := hrel
    by_cases hgo : dvsC m = 0 ∧ j < (dvsL m).length
    · obtain ⟨hz, hlt⟩ := hgo
      obtain ⟨m1, m2, hpair⟩ : 1 ≤ m ∧ m ≤ 1000000 ∧ ∀ i, i < (dvsL m).length → (dvsL m).getD i 0 * (dvsL m).getD ((dvsL m).length - 1 - i) 0 = m := by
        rcases dvsC_cases m with h | h | h
        · exact h.2
        · omega
        · omega
      rcases row_shape R57.out with ⟨h0, _⟩ | ⟨_, g, c, hv, hbg, hg⟩
      · omega
      · cases hv
        have a1 := int_cells R57.out j hlt
        have a2 := int_cells R57.out ((dvsL m).length - 1 - j) (by omega)
        have hp := hpair j hlt
        obtain ⟨x, hx⟩ : ∃ x, (dvsL m).getD j 0 = x := ⟨_, rfl⟩
        obtain ⟨y, hy⟩ : ∃ y, (dvsL m).getD ((dvsL m).length - 1 - j) 0 = y := ⟨_, rfl⟩
        rw [hx] at a1 hp
        rw [hy] at a2 hp
        have p1 : 1 ≤ x * y := by omega
        have p2 : x * y ≤ 1000000 := by omega
        have p3 := bne_f hp
        have hz' : (dvsC m == 0) = true := by simp [hz]
        clear hx hy hp hpair hz
        go_wp2
        go_quiet (fail)
        go_wp2
        go_roundw
        case rel => exact ⟨j + 1, by omega, by go_num, nd + nq, by first | rfl | rw [World.drewN_drewN]⟩
        case measure => simp [intOf]; omega
    · have hgo' : (dvsC m == 0) = false ∨ ((dvsC m == 0) = true ∧ ¬ j < (dvsL m).length) := by
        by_cases h : dvsC m = 0
        · exact .inr ⟨by simp [h], fun hlt => hgo ⟨h, hlt⟩⟩
        · exact .inl (by simp [h])
      clear hgo
      rcases hgo' with hgo' | ⟨hgo', hge⟩
      all_goals
        go_wp2
        go_loop [13, 20] (fun a i => ∃ x q : Int, a = .int .i64 x ∧ i = .int .i64 q ∧ 0 ≤ q ∧ q ≤ 1000000000000 ∧ (valC k p = 0 → VRel k p x q)) (fun a _ => (intOf a).natAbs)
        case atStart => exact ⟨k, 0, rfl, rfl, Int.le_refl _, by omega, HV.out⟩
        case round =>
          obtain ⟨x, q, rfl, rfl, q0, q1, hv⟩ := hrel
          have HR := Lib.hid hv
          clear hv
          by_cases hgo2 : valC k p = 0 ∧ q < valV k p
          · obtain ⟨hz, hlt⟩ := hgo2
            obtain ⟨p2, p97, k0, kb, hvv⟩ := valC_zero hz
            have hr := HR.out hz
            have hm := (vRel_more p2 hr).1.2 (by omega)
            have HN := Lib.hid (vRel_step p2 hr hm)
            have hq2 : q + 1 ≤ 1000000000000 := by
              obtain ⟨_, h2, h3, _, _, _⟩ := (vRel_step p2 hr hm).1
              omega
            have p3 := bne_f hm
            have hz' : (valC k p == 0) = true := by simp [hz]
            have hp0 : (p == 0) = false := by simp; omega
            have xb := hr.2.2.2.1
            clear hm hr hvv k0
            go_wp2
            exact ⟨⟨_, _, rfl, rfl, by omega, hq2, fun _ => HN.out.1⟩, by simpa only [intOf] using HN.out.2⟩
          · have hout : (valC k p == 0) = false ∨ ((valC k p == 0) = true ∧ ¬ q < valV k p ∧ (x.tmod p == 0) = false ∧ 2 ≤ p ∧ p ≤ 97) := by
              by_cases h : valC k p = 0
              · obtain ⟨p2, p97, k0, kb, hvv⟩ := valC_zero h
                refine .inr ⟨by simp [h], fun hlt => hgo2 ⟨h, hlt⟩, ?_, p2, p97⟩
                have hm := (vRel_more p2 (HR.out h)).1
                have : ¬ x.tmod p = 0 := fun h0 => hgo2 ⟨h, by have := hm.1 h0; omega⟩
                simpa using this
              · exact .inl (by simp [h])
            clear hgo2 HR
            rcases factC_cases n with ⟨hf0, hgood, n1, n2⟩ | hf0
            · have hf0' : (factC n != 0) = false := by simp [hf0]
              have HG := Lib.hid hgood
              clear hf0 hgood
              rcases hout with hout | ⟨hout, hq3, hx3, p2, p97⟩
              all_goals
                go_wp2
                go_loopw [21, 22, 23] (fun a i e wr => ∃ (x : Int) (i' : Nat), a = .int .i64 x ∧ i = .int .i64 i' ∧ i' ≤ (factL n).length ∧ x = upto (factL n) i' ∧ ∃ nd, wr = w7.drewN nd) (fun _ i _ _ => (factL n).length - (intOf i).toNat)
                case atStart => exact ⟨1, 0, rfl, rfl, Nat.zero_le _, rfl, nd, rfl⟩
                case round =>
                  obtain ⟨x, i, rfl, rfl, hi, hx, nd2, rfl⟩ := hrel
                  have HX := Lib.hid hx
                  clear hx
                  by_cases hlt : i < (factL n).length
                  · rcases row_shape R27.out with ⟨h0, _⟩ | ⟨_, g, c, hv, hbg, hg⟩
                    · omega
                    · cases hv
                      obtain ⟨a1, a2⟩ := pow_cells R27.out i hlt
                      have hexp := good_exp HG.out n2 hlt
                      obtain ⟨hpr, he1, _⟩ := HG.out.rise.1 i hlt
                      have hpart := Lib.hid (fun (e : Nat) (he : e ≤ ((factL n).getD i (0, 0)).2.toNat) => good_part HG.out hlt he)
                      have hsucc := Lib.hid (upto_succ hlt)
                      have hprev : Hid (∀ j, i = j + 1 → ((factL n).getD j (0, 0)).1 < ((factL n).getD i (0, 0)).1) := by
                        intro j hj; subst hj; exact HG.out.rise.2 j hlt
                      obtain ⟨x1, y1, e1⟩ : ∃ x y, (factL n).getD i (0, 0) = (x, y) := ⟨_, _, rfl⟩
                      rw [e1] at a1 a2 hexp hpr he1 hpart hsucc hprev
                      have x2 := isPrimeB_two hpr
                      have hs0 := hpart.out 0 (Nat.zero_le _)
                      have HX2 : Hid (x = upto (factL n) i * x1 ^ 0) := by
                        show x = upto (factL n) i * x1 ^ 0
                        rw [HX.out]; simp
                      clear e1 hs0
                      simp only at a1 a2 hexp he1 hpr x2
                      go_wp2
                      go_loop [21, 23] (fun a e => ∃ (z : Int) (e' : Nat), a = .int .i64 z ∧ e = .int .i64 e' ∧ e' ≤ y1.toNat ∧ z = upto (factL n) i * x1 ^ e') (fun _ e => y1.toNat - (intOf e).toNat)
                      case atStart => exact ⟨x, 0, rfl, rfl, Nat.zero_le _, HX2.out⟩
                      case round =>
                        obtain ⟨z, e, rfl, rfl, he, hz⟩ := hrel
                        have HZ := Lib.hid hz
                        have hb0 : 1 ≤ upto (factL n) i * x1 ^ e ∧ upto (factL n) i * x1 ^ e ≤ n := hpart.out e he
                        rw [← hz] at hb0
                        obtain ⟨hb1, hb2⟩ := hb0
                        clear hz
                        by_cases helt : e < y1.toNat
                        · have hb3 : 1 ≤ upto (factL n) i * x1 ^ (e + 1) ∧ upto (factL n) i * x1 ^ (e + 1) ≤ n := hpart.out (e + 1) helt
                          rw [Int.pow_succ, ← Int.mul_assoc, ← HZ.out] at hb3
                          obtain ⟨hb4, hb5⟩ := hb3
                          go_wp2
                          go_round
                          case rel => exact ⟨z * x1, e + 1, rfl, by go_num, helt, by rw [HZ.out, Int.pow_succ, Int.mul_assoc]⟩
                          case measure => simp [intOf]; omega
                        · have hey : e = y1.toNat := by omega
                          have HEY := Lib.hid hey
                          have HS2 : Hid (z = upto (factL n) (i + 1)) := by
                            show z = upto (factL n) (i + 1)
                            rw [HZ.out, HEY.out, hsucc.out]
                          clear hey
                          by_cases hi0 : i = 0
                          · subst hi0
                            go_wp2
                            go_quiet ((go_at_call 18; exact (implIsPrime_any _ _).mono fun e w' h => ⟨h.1, _, h.2.symm⟩))
                            go_wp2
                            exact ⟨⟨z, 1, rfl, rfl, by omega, HS2.out, nd2 + nq, rfl⟩, by simp only [intOf]; omega⟩
                          · obtain ⟨j, hj⟩ : ∃ j, i = j + 1 := ⟨i - 1, by omega⟩
                            subst hj
                            have hless := hprev.out j rfl
                            obtain ⟨b1, b2⟩ := pow_cells R27.out j (by omega)
                            obtain ⟨x0, y0, e0⟩ : ∃ x y, (factL n).getD j (0, 0) = (x, y) := ⟨_, _, rfl⟩
                            rw [e0] at b1 b2 hless
                            simp only at b1 b2 hless
                            have hless' : decide (x1 ≤ x0) = false := by simp; omega
                            clear e0 hless
                            go_wp2
                            go_quiet ((go_at_call 18; exact (implIsPrime_any _ _).mono fun e w' h => ⟨h.1, _, h.2.symm⟩))
                            go_wp2
                            exact ⟨⟨z, j + 1 + 1, rfl, by go_num, by omega, HS2.out, nd2 + nq, rfl⟩, by simp only [intOf]; omega⟩
                  · have hil : i = (factL n).length := by omega
                    have HIL := Lib.hid hil
                    have HXN : Hid (x = n) := by
                      show x = n
                      rw [HX.out, HIL.out]; exact upto_all HG.out
                    have hxn' := bne_f HXN.out
                    have hxn : (x == n) = true := by simp [HXN.out]
                    clear hil
                    go_wp2
                    go_ret
                    exact ⟨rfl, below_drewN B7.out _⟩
            · have hf0' : (factC n != 0) = true := by simp [hf0]
              clear hf0
              rcases hout with hout | ⟨hout, hq3, hx3, p2, p97⟩
              all_goals
                go_wp2
                go_ret
                exact ⟨rfl, below_drewN B7.out _⟩
set_option maxRecDepth 100000 in
theorem factors_walk (a : Option Addr) (len cap : Nat) (zs : List Int) (w : World) (h : IsRowOf .u8 w a len cap zs) :
    Calls Try.prog 4 #[.slice a len cap] w fun e w' => e = .returned (.bool true) ∧ Below w.heap.size w w' := by
  obtain ⟨hc, hm⟩ := codeIn_of h
  by_cases hl : len ≤ 4096
  · exact factors_core a len cap w hl hc
  · clear hc h
    go_enter Try.func4, Try.ntmps4
    go_wp2_with (go_at_call 11; refine (big_yes _ _ _ _ (by omega) (by omega)).mono ?_; rintro e w' ⟨rfl, rfl⟩)
    go_ret
    exact ⟨rfl, Below.refl _ _⟩
end Go.Proofs.Ytbhhnnnghdmhgaa
