/- Contracts of the walk: chapter 6 in spec: the text of a polynomial, and spec.PolynomialText. -/
import Derived.Test.YtcennddgbpkclaaDoorPolyTxt2
import Derived.Test.YtcennddgbpkclaaDoorGcd
import Derived.Deep.Cut
namespace Go.Proofs.YtcennddgbpkclaaDoor
open Go.RowKit Go.Shelf
set_option linter.unusedVariables false
set_option linter.unusedSimpArgs false
theorem decN_any (k : Nat) (w : World) (h : k ≤ 1000000000000) : Calls Tryd.prog 43 #[.int .i64 (k : Int)] w fun e w' => e = .returned (.string (bsOf (Lib.decDigits k))) ∧ Below w.heap.size w w' := by
  have := dec_any (k + 1) (k : Int) w (by omega) (by omega) (by omega)
  rwa [itoa_nat (by omega), show ((k : Int)).toNat = k by omega] at this
theorem body_parts (a m : Nat) : bodyT a m = (if ¬ a = 1 ∨ m = 0 then Lib.decDigits a else []) ++ (if m = 0 then [] else [120]) ++ (if m ≤ 1 then [] else 94 :: Lib.decDigits m) := by
  unfold bodyT
  by_cases h : m = 0
  · simp [h]
  · by_cases h2 : m = 1
    · by_cases h1 : a = 1 <;> simp [h1, h2]
    · have h3 : ¬ m ≤ 1 := by omega
      by_cases h1 : a = 1 <;> simp [h, h1, h2, h3]
theorem bs_add (a b : List UInt8) (h : a.length + b.length ≤ 100000) (wx : World) : (Op.stringOp .add (bsOf a) (bsOf b)).run Tryd.prog wx = .ok (.string (bsOf (a ++ b))) wx := by
  rw [← bs_append]; exact add_any _ _ (by rw [bs_size, bs_size]; exact h) wx
set_option maxRecDepth 20000
set_option maxHeartbeats 3200000 in
theorem l06Text_any {o : Option Addr} {n c0 : Nat} {f : List Int} {w : World} (h : Seen w o n c0 f) (h9 : n ≤ 9) (hb : ∀ i, -1000000 ≤ f.getD i 0 ∧ f.getD i 0 ≤ 1000000) :
    Calls Tryd.prog 24 #[.slice o n c0] w fun e w' => e = .returned (.string (bsOf (polyT f))) ∧ Below w.heap.size w w' := by
  have HS := Lib.hid h
  have HBD := Lib.hid hb
  have HL := Lib.hid h.1
  clear h hb
  go_enter Tryd.func24, Tryd.ntmps24
  go_wp2_with fail
  go_loopw [3, 4] (fun s i wr => ∃ (N : Nat) (y : Int) (acc : List UInt8), s = .string (bsOf acc) ∧ i = .int .i64 y ∧ y = (N : Int) - 1 ∧ N ≤ n ∧ acc.length ≤ 40 * (n - N) ∧ acc ++ restT f (decide (acc = [])) N = restT f true n ∧ Below w.heap.size w wr) (fun _ i _ => (intOf i + 1).toNat)
  case atStart => exact ⟨n, (n : Int) - 1, [], rfl, rfl, rfl, Nat.le_refl _, by simp, by simp, Below.refl _ _⟩
  case round =>
    obtain ⟨N, y, acc, rfl, rfl, hy, hN, hlen, hacc, hbel⟩ := hrel
    have HACC := Lib.hid hacc
    have HBEL := Lib.hid hbel
    have hl360 : acc.length ≤ 360 := by omega
    clear hacc hbel
    cases N with
    | zero =>
      have he := HACC.out
      have he2 : acc = restT f true n := by simpa [restT] using he
      have HE := Lib.hid (show polyT f = if acc = [] then [48] else acc by unfold polyT; rw [← HL.out, ← he2])
      have hy1 : y = -1 := by omega
      subst hy1
      clear hy he he2 hlen
      by_cases ha : acc = []
      · have hne : (bsOf acc).toList.isEmpty = true := by rw [ha]; exact be_t
        have HA := Lib.hid ha
        clear ha
        go_wp2_with fail
        go_ret
        exact ⟨ret_str6 (by rw [HE.out, if_pos HA.out]; rfl), HBEL.out⟩
      · have hne := be_f ha
        go_wp2_with fail
        go_ret
        exact ⟨ret_str6 (by rw [HE.out, if_neg ha]), HBEL.out⟩
    | succ m =>
      obtain ⟨hl', hn', hno', hnc', g', h1', h2'⟩ := HS.out
      obtain ⟨rfl, hag'⟩ := h1' (by omega)
      have a2 := h2' m (by omega)
      rw [← HBEL.out.cell (p := ⟨g', m, none⟩) hag'] at a2
      have hym : y = (m : Int) := by omega
      subst hym
      obtain ⟨cb0, cb1⟩ := HBD.out m
      have hrest : restT f (decide (acc = [])) (m + 1) = if f.getD m 0 = 0 then restT f (decide (acc = [])) m else termT (decide (acc = [])) (f.getD m 0) m ++ restT f false m := rfl
      have hac := HACC.out
      rw [hrest] at hac
      have hmn : (m : Int) < (n : Int) := by omega
      clear hl' hn' hno' hnc' h1' h2' hrest hy HACC
      obtain ⟨c, hc⟩ : ∃ c, f.getD m 0 = c := ⟨_, rfl⟩
      rw [hc] at hac a2 cb0 cb1
      clear hc
      by_cases hc0 : c = 0
      · subst hc0
        rw [if_pos rfl] at hac
        have HAC := Lib.hid hac
        clear hac
        go_wp2_with fail
        exact ⟨⟨m, (m : Int) - 1, acc, rfl, by first | rfl | (go_num), rfl, by omega, by omega, HAC.out, HBEL.out⟩, by simp only [intOf]; omega⟩
      · rw [if_neg hc0, ← List.append_assoc] at hac
        have HAC := Lib.hid hac
        have HTL := Lib.hid (term_len (decide (acc = [])) cb0 cb1 (show m ≤ 8 by omega))
        have hc0' : (c == 0) = false := by simpa using hc0
        have hca : c.natAbs ≤ 1000000 := by omega
        have hsl := sgn_len (decide (acc = [])) c
        clear hac
        -- the sign
        go_upto_if 20 with fail
        go_cut [3, 50, 51, 52] from 9 (fun s p50 p51 p52 wx => s = .string (bsOf (acc ++ sgnT (decide (acc = [])) c)) ∧ p50 = undef ∧ p51 = undef ∧ p52 = undef ∧ wr = wx)
        case first =>
          by_cases hneg : c < 0
          · have hadd := bs_add acc [45] (by simp; omega)
            have HSG := Lib.hid (show sgnT (decide (acc = [])) c = [45] by unfold sgnT; rw [if_pos hneg])
            rw [show bsOf [45] = (⟨#[45]⟩ : ByteArray) from rfl] at hadd
            go_wp2_with fail
            go_meet
            case rel => exact ⟨by rw [HSG.out], rfl, rfl, rfl, rfl⟩
          · by_cases ha : acc = []
            · have HSG := Lib.hid (show sgnT (decide (acc = [])) c = [] by unfold sgnT; rw [if_neg hneg, if_pos (by simp [ha])])
              have hne : (bsOf acc).toList.isEmpty = true := by rw [ha]; exact be_t
              clear ha
              go_wp2_with fail
              go_meet
              case rel => exact ⟨by rw [HSG.out, List.append_nil], rfl, rfl, rfl, rfl⟩
            · have HSG := Lib.hid (show sgnT (decide (acc = [])) c = [43] by unfold sgnT; rw [if_neg hneg, if_neg (by simp [ha])])
              have hadd := bs_add acc [43] (by simp; omega)
              rw [show bsOf [43] = (⟨#[43]⟩ : ByteArray) from rfl] at hadd
              have hne := be_f ha
              go_wp2_with fail
              go_meet
              case rel => exact ⟨by rw [HSG.out], rfl, rfl, rfl, rfl⟩
        case rest =>
        obtain ⟨rfl, rfl, rfl, rfl, rfl⟩ := hcut
        obtain ⟨s1, hs1⟩ : ∃ s1, acc ++ sgnT (decide (acc = [])) c = s1 := ⟨_, rfl⟩
        have hl1 : s1.length ≤ 361 := by rw [← hs1, List.length_append]; omega
        have HS1 := Lib.hid hs1
        rw [hs1]
        clear hs1 hsl
        -- whether the number is written
        obtain ⟨T, hT⟩ : ∃ T : Bool, T = decide (¬ c.natAbs = 1 ∨ m = 0) := ⟨_, rfl⟩
        have HT := Lib.hid hT
        clear hT
        go_upto_region 11 with fail
        go_cut [33, 50, 51, 52] from 9 (fun s p50 p51 p52 wx => s = .bool T ∧ p50 = undef ∧ p51 = undef ∧ p52 = undef ∧ wr = wx)
        case first =>
          by_cases h1 : c.natAbs = 1
          · by_cases h2 : m = 0
            · have HT1 := Lib.hid (show T = true by rw [HT.out]; simp [h2])
              subst h2
              have e1 : (((c.natAbs : Nat) : Int) != 1) = false := by simp [h1]
              go_wp2_with fail
              refine (l01Abs_any _ _ (by omega) (by omega)).mono ?_
              rintro e w' ⟨rfl, rfl⟩
              go_wp2_with fail
              go_meet
              case rel => exact ⟨by rw [HT1.out], rfl, rfl, rfl, rfl⟩
            · have HT1 := Lib.hid (show T = false by rw [HT.out]; simp [h1, h2])
              have e1 : (((c.natAbs : Nat) : Int) != 1) = false := by simp [h1]
              have e2 : ((m : Int) == 0) = false := by simp; omega
              go_wp2_with fail
              refine (l01Abs_any _ _ (by omega) (by omega)).mono ?_
              rintro e w' ⟨rfl, rfl⟩
              go_wp2_with fail
              go_meet
              case rel => exact ⟨by rw [HT1.out], rfl, rfl, rfl, rfl⟩
          · have HT1 := Lib.hid (show T = true by rw [HT.out]; simp [h1])
            have e1 : (((c.natAbs : Nat) : Int) != 1) = true := by simp; omega
            go_wp2_with fail
            refine (l01Abs_any _ _ (by omega) (by omega)).mono ?_
            rintro e w' ⟨rfl, rfl⟩
            go_wp2_with fail
            go_meet
            case rel => exact ⟨by rw [HT1.out], rfl, rfl, rfl, rfl⟩
        case rest =>
        obtain ⟨rfl, rfl, rfl, rfl, rfl⟩ := hcut
        obtain ⟨D, hD⟩ : ∃ D, (if T = true then Lib.decDigits c.natAbs else []) = D := ⟨_, rfl⟩
        have hDl : D.length ≤ 13 := by
          rw [← hD]; split
          · exact dec_len6 (by omega)
          · simp
        have HD := Lib.hid hD
        clear hD
        obtain ⟨s2, hs2⟩ : ∃ s2, s1 ++ D = s2 := ⟨_, rfl⟩
        have hl2 : s2.length ≤ 375 := by rw [← hs2, List.length_append]; omega
        have HS2 := Lib.hid hs2
        clear hs2
        go_upto_if 33 with fail
        go_cut [3, 50, 51, 52] from 9 (fun s p50 p51 p52 wx => s = .string (bsOf s2) ∧ p50 = undef ∧ p51 = undef ∧ p52 = undef ∧ Below w.heap.size w wx)
        case first =>
          cases hTT : T
          · have hDn : D = [] := by have := HD.out; rw [hTT] at this; exact this.symm
            subst hDn
            go_wp2_with fail
            go_meet
            case rel => exact ⟨by rw [← HS2.out, List.append_nil], rfl, rfl, rfl, HBEL.out⟩
          · have hDn : Lib.decDigits c.natAbs = D := by have := HD.out; rw [hTT] at this; exact this
            have hadd := bs_add s1 D (by omega)
            have HDC := Lib.hid fun (w : World) => decN_any c.natAbs w (by omega)
            rw [hDn] at HDC
            go_wp2_with fail
            refine (l01Abs_any _ _ (by omega) (by omega)).mono ?_
            rintro e w' ⟨rfl, rfl⟩
            go_wp2_with fail
            refine (HDC.out _).mono ?_
            rintro e w3 ⟨rfl, b3⟩
            go_wp2_with fail
            go_meet
            case rel => exact ⟨by rw [← HS2.out], rfl, rfl, rfl, HBEL.out.trans (b3.mono HBEL.out.size)⟩
        case rest =>
        obtain ⟨rfl, rfl, rfl, rfl, hbc⟩ := hcut
        have HBC := Lib.hid hbc
        clear hbc
        obtain ⟨X, hX⟩ : ∃ X : List UInt8, (if m = 0 then [] else [120]) = X := ⟨_, rfl⟩
        have hXl : X.length ≤ 1 := by rw [← hX]; split <;> simp
        have HX := Lib.hid hX
        clear hX
        obtain ⟨s3, hs3⟩ : ∃ s3, s2 ++ X = s3 := ⟨_, rfl⟩
        have hl3 : s3.length ≤ 376 := by rw [← hs3, List.length_append]; omega
        have HS3 := Lib.hid hs3
        clear hs3
        go_upto_if 40 with fail
        go_cut [3, 50, 51, 52] from 9 (fun s p50 p51 p52 wx => s = .string (bsOf s3) ∧ p50 = undef ∧ p51 = undef ∧ p52 = undef ∧ wc = wx)
        case first =>
          by_cases h2 : m = 0
          · have hXn : X = [] := by rw [← HX.out, if_pos h2]
            subst hXn
            subst h2
            go_wp2_with fail
            go_meet
            case rel => exact ⟨by rw [← HS3.out, List.append_nil], rfl, rfl, rfl, rfl⟩
          · have hXn : X = [120] := by rw [← HX.out, if_neg h2]
            have hadd := bs_add s2 [120] (by simp; omega)
            rw [show bsOf [120] = (⟨#[120]⟩ : ByteArray) from rfl] at hadd
            have hm0 : (0 : Int) < (m : Int) := by omega
            subst hXn
            go_wp2_with fail
            go_meet
            case rel => exact ⟨by rw [← HS3.out], rfl, rfl, rfl, rfl⟩
        case rest =>
        obtain ⟨rfl, rfl, rfl, rfl, rfl⟩ := hcut
        have HPT := Lib.hid (show termT (decide (acc = [])) c m = sgnT (decide (acc = [])) c ++ (D ++ X ++ (if m ≤ 1 then [] else 94 :: Lib.decDigits m)) by
          unfold termT
          rw [body_parts, ← HX.out, ← HD.out, HT.out]
          simp only [decide_eq_true_eq])
        have HNE := Lib.hid (show decide (acc ++ termT (decide (acc = [])) c m = []) = false by
          refine decide_eq_false ?_
          intro e
          exact piece_ne (term_piece _ c m) (List.append_eq_nil_iff.1 e).2)
        have HAL := Lib.hid (show (acc ++ termT (decide (acc = [])) c m).length ≤ 40 * (n - m) by rw [List.length_append]; have := HTL.out; omega)
        by_cases h2 : m ≤ 1
        · have HQ := Lib.hid (show s3 = acc ++ termT (decide (acc = [])) c m by rw [HPT.out, if_pos h2, List.append_nil, ← HS3.out, ← HS2.out, ← HS1.out]; simp)
          have hm1 : ¬ (1 : Int) < (m : Int) := by omega
          go_wp2_with fail
          exact ⟨⟨m, (m : Int) - 1, acc ++ termT (decide (acc = [])) c m, by rw [HQ.out], by first | rfl | (go_num), rfl, by omega, HAL.out, by rw [HNE.out]; exact HAC.out, HBC.out⟩, by simp only [intOf]; omega⟩
        · obtain ⟨s4, hs4⟩ : ∃ s4, s3 ++ [94] = s4 := ⟨_, rfl⟩
          have hl4 : s4.length ≤ 377 := by rw [← hs4, List.length_append]; simp; omega
          have HQ := Lib.hid (show s4 ++ Lib.decDigits m = acc ++ termT (decide (acc = [])) c m by rw [← hs4, HPT.out, if_neg h2, ← HS3.out, ← HS2.out, ← HS1.out]; simp)
          have hm1 : (1 : Int) < (m : Int) := by omega
          have hadd1 := bs_add s3 [94] (by simp; omega)
          rw [hs4] at hadd1
          have hadd2 := bs_add s4 (Lib.decDigits m) (by have := dec_len6 (show m ≤ 1000000000000 by omega); omega)
          clear hs4
          rw [show bsOf [94] = (⟨#[94]⟩ : ByteArray) from rfl] at hadd1
          have HDC := Lib.hid fun (w : World) => decN_any m w (by omega)
          generalize Lib.decDigits m = dm at *
          go_wp2_with fail
          refine (HDC.out _).mono ?_
          rintro e w3 ⟨rfl, b3⟩
          have HB3 := Lib.hid (HBC.out.trans (b3.mono HBC.out.size))
          clear b3
          go_wp2_with fail
          exact ⟨⟨m, (m : Int) - 1, acc ++ termT (decide (acc = [])) c m, by rw [HQ.out], by first | rfl | (go_num), rfl, by omega, HAL.out, by rw [HNE.out]; exact HAC.out, HB3.out⟩, by simp only [intOf]; omega⟩
theorem specPText_any {o : Option Addr} {n c : Nat} {f : List Int} {w : World} (h : Seen w o n c f) :
    Calls Tryd.prog 9 #[.slice o n c] w fun e w' => e = .returned (.tuple #[.string (bsOf (ptQ f)), .int .i64 (ptC f)]) ∧ Below w.heap.size w w' := by
  have HS := Lib.hid h
  cases hp : polyB f
  · rw [show ptQ f = [] by simp [ptQ, hp], show ptC f = 1 by simp [ptC, hp]]
    clear h
    go_enter Tryd.func9, Tryd.ntmps9
    go_wp2_with fail
    refine (specIsPoly_any HS.out).mono ?_
    rw [hp]
    rintro e w2 ⟨rfl, rfl⟩
    go_wp2_with fail
    go_ret2
    exact ⟨rfl, Below.refl _ _⟩
  · have HTX := Lib.hid (l06Text_any h (by rw [h.1]; exact (polyB_of hp).1) (polyB_of hp).2.1)
    rw [show ptQ f = polyT f by simp [ptQ, hp], show ptC f = 0 by simp [ptC, hp]]
    clear h
    go_enter Tryd.func9, Tryd.ntmps9
    go_wp2_with fail
    refine (specIsPoly_any HS.out).mono ?_
    rw [hp]
    rintro e w2 ⟨rfl, rfl⟩
    go_wp2_with fail
    refine HTX.out.mono ?_
    rintro e w2 ⟨rfl, b2⟩
    go_wp2_with fail
    go_ret2
    exact ⟨rfl, b2⟩
end Go.Proofs.YtcennddgbpkclaaDoor
