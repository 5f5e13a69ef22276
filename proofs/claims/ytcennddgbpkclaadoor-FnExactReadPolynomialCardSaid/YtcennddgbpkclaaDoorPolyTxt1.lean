/- Contracts of the walk: chapter 6 in impl: the text of a term. -/
import Derived.Test.YtcennddgbpkclaaDoorPolyText
import Derived.Test.YtcennddgbpkclaaDoorPolyBld
namespace Go.Proofs.YtcennddgbpkclaaDoor
open Go.RowKit Go.Shelf
set_option linter.unusedVariables false
set_option linter.unusedSimpArgs false
theorem itoa_sgn (c : Int) : Lib.itoa c = sgnT true c ++ Lib.decDigits c.natAbs := by
  unfold Lib.itoa sgnT
  by_cases h : c < 0
  · rw [if_pos h, if_pos h]; rfl
  · rw [if_neg h, if_neg h, if_pos rfl, show c.toNat = c.natAbs by omega]; rfl
theorem ret_str6 {a b : ByteArray} (h : a = b) : Ending.returned (.string a) = .returned (.string b) := by rw [h]
theorem dec_one : Lib.decDigits 1 = [49] := by rw [Lib.decDigits]; rfl
theorem trim_one {c : Int} (h : c.natAbs = 1) : Lib.trimSuffix (Lib.itoa c) [49] = sgnT true c := by
  rw [itoa_sgn, h, dec_one]
  unfold sgnT
  split <;> rfl
theorem itoaN_any (n : Int) (w : World) (h0 : -9223372036854775808 ≤ n) (h1 : n ≤ 9223372036854775807) (ht : Tab w) :
    Calls Tryd.prog 53 #[.int .i64 n] w fun e w' => e = .returned (.string (bsOf (Lib.itoa n))) ∧ Below w.heap.size w w' :=
  (Tryd.strconv_Itoa n h0 h1 w ht).mono fun e w' ⟨he, k, os, hw⟩ => ⟨he, hw ▸ below_grow w k os⟩
theorem dec_len6 {a : Nat} (h : a ≤ 1000000000000) : (Lib.decDigits a).length ≤ 13 := by have := decDigits_len 12 a (by omega); omega
theorem sgn_len (b : Bool) (c : Int) : (sgnT b c).length ≤ 1 := by unfold sgnT; split; simp; split <;> simp
theorem body_len {a m : Nat} (h : a ≤ 1000000) (hm : m ≤ 8) : (bodyT a m).length ≤ 30 := by
  unfold bodyT
  have h1 := dec_len6 (show a ≤ 1000000000000 by omega)
  have h2 := dec_len6 (show m ≤ 1000000000000 by omega)
  split
  · omega
  · rw [List.length_append, List.length_cons]
    split <;> split <;> simp <;> omega
theorem term_len (b : Bool) {c : Int} {m : Nat} (h0 : -1000000 ≤ c) (h1 : c ≤ 1000000) (hm : m ≤ 8) : (termT b c m).length ≤ 31 := by
  unfold termT
  rw [List.length_append]
  have := sgn_len b c
  have := body_len (a := c.natAbs) (show c.natAbs ≤ 1000000 by omega) hm
  omega
set_option maxHeartbeats 1600000 in
theorem termText_any (c : Int) (m : Nat) (w : World) (h0 : -1000000 ≤ c) (h1 : c ≤ 1000000) (hm : m ≤ 8) (ht : Tab w) :
    Calls Tryd.prog 39 #[.int .i64 c, .int .i64 m] w fun e w' => e = .returned (.string (bsOf (termT true c m))) ∧ Below w.heap.size w w' := by
  have HF := Lib.hid (format_any c w (by omega) (by omega) ht)
  have HT := Lib.hid ht
  have hl : (bsOf (Lib.itoa c)).size ≤ 20 := by
    rw [bs_size, itoa_sgn, List.length_append]
    have := sgn_len true c
    have := dec_len6 (show c.natAbs ≤ 1000000000000 by omega)
    omega
  clear ht
  by_cases hm0 : m = 0
  · subst hm0
    have HE := Lib.hid (show bsOf (Lib.itoa c) = bsOf (termT true c 0) by rw [itoa_sgn]; rfl)
    generalize bsOf (Lib.itoa c) = s at *
    go_enter Tryd.func39, Tryd.ntmps39
    go_wp2_with fail
    refine HF.out.mono ?_
    rintro e w1 ⟨rfl, hb⟩
    go_wp2_with fail
    go_ret
    exact ⟨ret_str6 HE.out, hb⟩
  · have hm0' : ((m : Int) == 0) = false := by simp; omega
    -- the number, without a one
    obtain ⟨D, hD⟩ : ∃ D, sgnT true c ++ (if c.natAbs = 1 then [] else Lib.decDigits c.natAbs) = D := ⟨_, rfl⟩
    have hDl : D.length ≤ 20 := by
      rw [← hD, List.length_append]
      have := sgn_len true c
      have := dec_len6 (show c.natAbs ≤ 1000000000000 by omega)
      split <;> simp <;> omega
    have HTT := Lib.hid (show termT true c m = D ++ (120 :: (if m = 1 then [] else 94 :: Lib.decDigits m)) by
      unfold termT bodyT
      rw [if_neg hm0, ← hD, List.append_assoc])
    have ax : (Op.stringOp .add (bsOf D) ⟨#[120]⟩).run Tryd.prog = fun wx => .ok (.string (bsOf D ++ ⟨#[120]⟩)) wx := funext fun wx => add_any _ _ (by rw [bs_size]; show _ + 1 ≤ _; omega) wx
    have ax1 : ∀ wx, (Op.stringOp .add (bsOf D) ⟨#[120]⟩).run Tryd.prog wx = .ok (.string (bsOf D ++ ⟨#[120]⟩)) wx := fun wx => by rw [ax]
    have ay1 : ∀ wx, (Op.stringOp .add (bsOf D) ⟨#[120, 94]⟩).run Tryd.prog wx = .ok (.string (bsOf D ++ ⟨#[120, 94]⟩)) wx := fun wx => add_any _ _ (by rw [bs_size]; show _ + 2 ≤ _; omega) wx
    have hy2 : (bsOf D ++ ⟨#[120, 94]⟩).size + (bsOf (Lib.itoa (m : Int))).size ≤ 100000 := by
      rw [show (⟨#[120, 94]⟩ : ByteArray) = bsOf [120, 94] from rfl, bs_append, bs_size, bs_size, List.length_append, itoa_nat (by omega)]
      have := dec_len6 (a := ((m : Int)).toNat) (by omega)
      have e2 : ([120, 94] : List UInt8).length = 2 := rfl
      omega
    have az1 : ∀ wx, (Op.stringOp .add (bsOf D ++ ⟨#[120, 94]⟩) (bsOf (Lib.itoa (m : Int)))).run Tryd.prog wx = .ok (.string (bsOf D ++ ⟨#[120, 94]⟩ ++ bsOf (Lib.itoa (m : Int)))) wx := fun wx => add_any _ _ hy2 wx
    have HE1 := Lib.hid (show m = 1 → bsOf D ++ ⟨#[120]⟩ = bsOf (termT true c m) by
      intro e
      rw [HTT.out, if_pos e, show (⟨#[120]⟩ : ByteArray) = bsOf [120] from rfl, bs_append])
    have HE2 := Lib.hid (show ¬ m = 1 → bsOf D ++ ⟨#[120, 94]⟩ ++ bsOf (Lib.itoa (m : Int)) = bsOf (termT true c m) by
      intro e
      rw [HTT.out, if_neg e, show (⟨#[120, 94]⟩ : ByteArray) = bsOf [120, 94] from rfl, bs_append, bs_append, itoa_nat (by omega), show ((m : Int)).toNat = m by omega, List.append_assoc]
      rfl)
    have HTR := Lib.hid (show c.natAbs = 1 → (⟨(Lib.trimSuffix (bsOf (Lib.itoa c)).data.toList (⟨#[49]⟩ : ByteArray).data.toList).toArray⟩ : ByteArray) = bsOf D by
      intro e
      rw [show (bsOf (Lib.itoa c)).data.toList = Lib.itoa c by simp [bsOf], show (⟨#[49]⟩ : ByteArray).data.toList = [49] from rfl, trim_one e, ← hD, if_pos e, List.append_nil]
      rfl)
    have HND := Lib.hid (show ¬ c.natAbs = 1 → bsOf (Lib.itoa c) = bsOf D by
      intro e
      rw [itoa_sgn, ← hD, if_neg e])
    clear ax hy2 hD hDl HTT
    generalize bsOf D = d at *
    generalize bsOf (Lib.itoa c) = s at *
    have HI := Lib.hid fun (w : World) (h : Tab w) => itoaN_any (m : Int) w (by omega) (by omega) h
    generalize bsOf (Lib.itoa (m : Int)) = q at *
    by_cases hc1 : c.natAbs = 1
    · have hTR := HTR.out hc1
      by_cases hmm : m = 1
      · have HEE := Lib.hid (HE1.out hmm)
        subst hmm
        clear HE1 HE2 HND HTR
        rcases (by omega : c = 1 ∨ c = -1) with rfl | rfl
        · go_enter Tryd.func39, Tryd.ntmps39
          go_wp2_with fail
          refine HF.out.mono ?_
          rintro e w1 ⟨rfl, hb⟩
          go_wp2_with fail
          refine (Tryd.strings_TrimSuffix s ⟨#[49]⟩ w1 (by omega)).mono ?_
          rintro e w2 ⟨rfl, rfl⟩
          rw [hTR]
          go_wp2_with fail
          go_ret
          exact ⟨ret_str6 HEE.out, hb⟩
        · go_enter Tryd.func39, Tryd.ntmps39
          go_wp2_with fail
          refine HF.out.mono ?_
          rintro e w1 ⟨rfl, hb⟩
          go_wp2_with fail
          refine (Tryd.strings_TrimSuffix s ⟨#[49]⟩ w1 (by omega)).mono ?_
          rintro e w2 ⟨rfl, rfl⟩
          rw [hTR]
          go_wp2_with fail
          go_ret
          exact ⟨ret_str6 HEE.out, hb⟩
      · have HEE := Lib.hid (HE2.out hmm)
        have hmm' : ((m : Int) == 1) = false := by simp; omega
        clear HE1 HE2 HND HTR hmm
        rcases (by omega : c = 1 ∨ c = -1) with rfl | rfl
        · go_enter Tryd.func39, Tryd.ntmps39
          go_wp2_with fail
          refine HF.out.mono ?_
          rintro e w1 ⟨rfl, hb⟩
          go_wp2_with fail
          refine (Tryd.strings_TrimSuffix s ⟨#[49]⟩ w1 (by omega)).mono ?_
          rintro e w2 ⟨rfl, rfl⟩
          rw [hTR]
          go_wp2_with fail
          refine (HI.out _ (tab_below HT.out hb (Nat.le_refl _))).mono ?_
          rintro e w3 ⟨rfl, hb3⟩
          go_wp2_with fail
          go_ret
          exact ⟨ret_str6 HEE.out, hb.trans (hb3.mono hb.size)⟩
        · go_enter Tryd.func39, Tryd.ntmps39
          go_wp2_with fail
          refine HF.out.mono ?_
          rintro e w1 ⟨rfl, hb⟩
          go_wp2_with fail
          refine (Tryd.strings_TrimSuffix s ⟨#[49]⟩ w1 (by omega)).mono ?_
          rintro e w2 ⟨rfl, rfl⟩
          rw [hTR]
          go_wp2_with fail
          refine (HI.out _ (tab_below HT.out hb (Nat.le_refl _))).mono ?_
          rintro e w3 ⟨rfl, hb3⟩
          go_wp2_with fail
          go_ret
          exact ⟨ret_str6 HEE.out, hb.trans (hb3.mono hb.size)⟩
    · have hsd := HND.out hc1
      subst hsd
      have hc1' : (c == 1) = false := by simp; omega
      have hc2' : (c == -1) = false := by simp; omega
      by_cases hmm : m = 1
      · have HEE := Lib.hid (HE1.out hmm)
        subst hmm
        clear HE1 HE2 HND HTR hc1
        go_enter Tryd.func39, Tryd.ntmps39
        go_wp2_with fail
        refine HF.out.mono ?_
        rintro e w1 ⟨rfl, hb⟩
        go_wp2_with fail
        go_ret
        exact ⟨ret_str6 HEE.out, hb⟩
      · have HEE := Lib.hid (HE2.out hmm)
        have hmm' : ((m : Int) == 1) = false := by simp; omega
        clear HE1 HE2 HND HTR hmm hc1
        go_enter Tryd.func39, Tryd.ntmps39
        go_wp2_with fail
        refine HF.out.mono ?_
        rintro e w1 ⟨rfl, hb⟩
        go_wp2_with fail
        refine (HI.out _ (tab_below HT.out hb (Nat.le_refl _))).mono ?_
        rintro e w3 ⟨rfl, hb3⟩
        go_wp2_with fail
        go_ret
        exact ⟨ret_str6 HEE.out, hb.trans (hb3.mono hb.size)⟩
end Go.Proofs.YtcennddgbpkclaaDoor
