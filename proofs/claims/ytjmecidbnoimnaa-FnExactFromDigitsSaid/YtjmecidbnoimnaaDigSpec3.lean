/- Contract of the walk: spec.FromDigits answers the number with these digits, or the code. -/
import Derived.Test.YtjmecidbnoimnaaDigSpec2
namespace Go.Proofs.Ytjmecidbnoimnaa
open Go.RowKit
set_option linter.unusedVariables false
set_option maxRecDepth 20000
set_option linter.unusedSimpArgs false
theorem all_take {f : Int → Bool} {l : List Int} {k : Nat} (hk : k < l.length) : (l.take (k + 1)).all f = ((l.take k).all f && f (l.getD k 0)) := by
  rw [List.take_succ_eq_append_getElem hk, List.all_append]
  simp [List.getD, hk]
/-- the modulus for a number of digits, 0 if there are too many -/
def manyM (p : Int) (n : Nat) : Int := if pw p n ≤ 1000000000 then pw p n else 0
theorem l02Many_any (p : Int) (n : Nat) (w : World) (hs : smallB p = true) (hn : n ≤ 40) :
    Calls Try.prog 69 #[.int .i64 p, .int .i64 n] w fun e w' => e = .returned (.int .i64 (manyM p n)) ∧ w = w' := by
  obtain ⟨hp2, hp97⟩ := smallB_bd hs
  by_cases h0 : n = 0
  · subst h0
    have e : manyM p 0 = pw p ((0 : Nat) : Int) := by unfold manyM; rw [if_pos]; simp [pw]
    rw [e]
    exact l02Pow_any p _ w hp2 hp97 (by omega) (by simp [pw])
  · refine (l02Modulus_any p n w hs (by omega) (by omega)).mono fun e w' h => ⟨?_, h.2⟩
    rw [h.1]
    unfold manyM
    by_cases h1 : pw p n ≤ 1000000000
    · rw [if_pos h1, ringM_pw hs (by omega) h1]
    · rw [if_neg h1]
      congr 2
      refine Classical.byContradiction fun hr => ?_
      have e := pw_ringM hr
      obtain ⟨_, _, _, _, _, h2, _⟩ := ringM_bd hr
      omega
set_option maxHeartbeats 1600000 in
theorem specFrom_row (p place : Int) (o : Option Addr) (g n c : Nat) (l : List Int) (w : World) (ho : 0 < n → o = some ⟨g, 0, none⟩) (hl : n = l.length) (hn : n ≤ 1100000) (hg : 0 < n → g < w.heap.size)
    (hc : ∀ k, k < n → w.cell? ⟨g, k, none⟩ = some (.int .i64 (l.getD k 0))) :
    Calls Try.prog 27 #[.int .i64 p, .int .i64 place, .slice o n c] w fun e w' => e = .returned (.tuple #[.agg (A4 (fromQ p place l)), .int .i64 (fromC p place l)]) ∧ Below w.heap.size w w' := by
  cases hs : smallB p
  · rw [show fromQ p place l = (0, 0, 0, 0) by simp [fromQ, hs], show fromC p place l = 1 by simp [fromC, hs]]
    go_enter Try.func27, Try.ntmps27
    go_wp2_with (go_at_call 63; refine (l01Small_any _ _).mono ?_; rw [hs]; rintro e w' ⟨rfl, rfl⟩)
    refine bodyPost_ret (v := .tuple #[.agg (P4 0 0 0 0), .int .i64 1]) (by simp [results, Try.results27, go_sem]) rfl ?_
    exact ⟨rfl, below_a1 _ _⟩
  · obtain ⟨hp2, hp97⟩ := smallB_bd hs
    have HO := Lib.hid ho
    have HL := Lib.hid hl
    have HC : Hid (∀ k, k < n → (w.alloc (.cells (P4 0 0 0 0) 34)).cell? ⟨g, k, none⟩ = some (.int .i64 (l.getD k 0))) :=
      Lib.hid fun k hk => by rw [(below_a1 w (.cells (P4 0 0 0 0) 34)).cell (p := ⟨g, k, none⟩) (hg (by omega))]; exact hc k hk
    clear ho hl hc hg
    go_enter Try.func27, Try.ntmps27
    go_wp2_with (first | (go_at_call 63; refine (l01Small_any _ _).mono ?_; rw [hs]; rintro e w' ⟨rfl, rfl⟩) | (go_at_call 64; refine (in_any _ _ _ _).mono ?_; rintro e w' ⟨rfl, rfl⟩))
    go_loop [8, 9] (fun b i => ∃ k : Nat, k ≤ n ∧ i = .int .i64 k ∧ b = .bool (inB place (-60) 60 && (l.take k).all (digB p))) (fun _ i => n - (intOf i).toNat)
    case atStart => exact ⟨0, Nat.zero_le _, rfl, by simp⟩
    case round =>
      obtain ⟨k, hk, rfl, rfl⟩ := hrel
      by_cases hlt : k < n
      · have hkl : k < l.length := by have := HL.out; omega
        have hog := HO.out (by omega)
        subst hog
        have a2 := HC.out k hlt
        have HS := Lib.hid (all_take (f := digB p) hkl)
        generalize l.getD k 0 = x at *
        generalize (l.take k).all (digB p) = t at *
        clear hkl
        cases ht : (inB place (-60) 60 && t)
        · have HE := Lib.hid (show (inB place (-60) 60 && (l.take (k + 1)).all (digB p)) = false by rw [HS.out, ← Bool.and_assoc, ht, Bool.false_and])
          clear ht
          go_wp2
          exact ⟨⟨k + 1, by omega, by go_num, by rw [HE.out]⟩, by simp [intOf]; omega⟩
        · have HE := Lib.hid (show (inB place (-60) 60 && (l.take (k + 1)).all (digB p)) = inB x 0 (p - 1) by rw [HS.out, ← Bool.and_assoc, ht, Bool.true_and]; rfl)
          clear ht
          go_wp2_with (go_at_call 64; refine (in_any _ _ _ _).mono ?_; rintro e w' ⟨rfl, rfl⟩)
          exact ⟨⟨k + 1, by omega, by go_num, by rw [HE.out]⟩, by simp [intOf]; omega⟩
      · have hkn : k = n := by omega
        have hta : (inB place (-60) 60 && (l.take k).all (digB p)) = digsB p place l := by
          rw [List.take_of_length_le (by have := HL.out; omega)]; rfl
        rw [hta]
        clear hkn hta
        cases hd : digsB p place l
        · have HQ := Lib.hid (And.intro (show fromQ p place l = (0, 0, 0, 0) by simp [fromQ, hd]) (show fromC p place l = 2 by simp [fromC, hs, hd]))
          go_wp2
          refine bodyPost_ret (v := .tuple #[.agg (P4 0 0 0 0), .int .i64 2]) (by simp [results, Try.results27, go_sem]) rfl ?_
          rw [HQ.out.1, HQ.out.2]
          exact ⟨rfl, below_a1 _ _⟩
        · have hk60 : -60 ≤ place ∧ place ≤ 60 := by
            unfold digsB at hd
            simp only [Bool.and_eq_true] at hd
            simpa [inB] using hd.1
          obtain ⟨hk0, hk1⟩ := hk60
          have hall : l.all (digB p) = true := by
            unfold digsB at hd
            simp only [Bool.and_eq_true] at hd
            exact hd.2
          by_cases h40 : 40 < n
          · have hm : ¬ pw p (l.length : Int) ≤ 1000000000 := fun h => by have := pw_29 hp2 h; have := HL.out; omega
            have HQ := Lib.hid (And.intro (show fromQ p place l = (0, 0, 0, 0) by simp [fromQ, hm]) (show fromC p place l = 3 by simp [fromC, hs, hd, hm]))
            clear hd hall hm
            go_wp2
            refine bodyPost_ret (v := .tuple #[.agg (P4 0 0 0 0), .int .i64 3]) (by simp [results, Try.results27, go_sem]) rfl ?_
            rw [HQ.out.1, HQ.out.2]
            exact ⟨rfl, below_a1 _ _⟩
          · by_cases hm : pw p (l.length : Int) ≤ 1000000000
            · have hpos := pw_ge1 (p := p) (a := (l.length : Int)) hp2
              have hmm : manyM p n = pw p (l.length : Int) := by unfold manyM; rw [HL.out, if_pos hm]
              have HMM := Lib.hid fun w => (l02Many_any p n w hs (by omega)).mono fun e w' h => (show e = .returned (.int .i64 (pw p (l.length : Int))) ∧ w = w' by rw [← hmm]; exact h)
              have HD := Lib.hid hall
              have HM := Lib.hid hm
              have HQ : Hid (fromQ p place l = resQ p (makeT p place (horner p l) (place + l.length)).1 (makeT p place (horner p l) (place + l.length)).2.1 (makeT p place (horner p l) (place + l.length)).2.2 ∧ fromC p place l = limC p (makeT p place (horner p l) (place + l.length)).1 (makeT p place (horner p l) (place + l.length)).2.1 (makeT p place (horner p l) (place + l.length)).2.2) := Lib.hid (by
                simp [fromQ, fromC, hs, hd, hm])
              clear hd hall hmm
              have hz : (pw p (l.length : Int) == 0) = false := by simp; omega
              generalize hM : pw p (l.length : Int) = M at *
              have HMe := Lib.hid hM
              clear hM
              go_wp2_with (go_at_call 69; refine (HMM.out _).mono ?_; rintro e w' ⟨rfl, rfl⟩)
              go_loop [10, 11] (fun a i => ∃ (j : Nat) (x : Int), j ≤ n ∧ i = .int .i64 x ∧ x = (n : Int) - 1 - j ∧ a = .int .i64 (horner p (l.drop (l.length - j)))) (fun _ i => (intOf i + 1).toNat)
              case atStart => exact ⟨0, (n : Int) - 1, Nat.zero_le _, rfl, by omega, by simp [horner]⟩
              case round =>
                obtain ⟨j, x, hj, rfl, hx, rfl⟩ := hrel
                by_cases hjn : j < n
                · have hjl : j < l.length := by have := HL.out; omega
                  obtain ⟨m, hm2⟩ : ∃ m : Nat, x = m := ⟨x.toNat, by omega⟩
                  subst hm2
                  have hmn : m < n := by omega
                  have hme : m = l.length - 1 - j := by have := HL.out; omega
                  have hog := HO.out (by omega)
                  subst hog
                  have a2 := HC.out m hmn
                  have hh := horner_drop p hjl
                  rw [← hme] at hh
                  obtain ⟨b0, b1⟩ := horner_drop_bd (k := j) hp2 HD.out (by omega) (by rw [HMe.out]; omega)
                  obtain ⟨b2, b3⟩ := horner_drop_bd (k := j + 1) hp2 HD.out (by omega) (by rw [HMe.out]; omega)
                  rw [hh] at b2 b3
                  have hd0 : 0 ≤ l.getD m 0 ∧ l.getD m 0 < p := by
                    have := List.all_eq_true.1 HD.out (l.getD m 0) (by simp [List.getD, show m < l.length by omega])
                    simp only [digB, inB, Bool.and_eq_true, decide_eq_true_eq] at this
                    omega
                  have HH := Lib.hid hh
                  generalize horner p (l.drop (l.length - j)) = a at *
                  generalize l.getD m 0 = y at *
                  have hm0 := Int.mul_nonneg b0 (show 0 ≤ p by omega)
                  rw [Int.mul_comm a p] at *
                  have hw1 : IntKind.i64.wrap (p * a) = p * a := IntWalk.i64_in _ (by omega)
                  have hw2 : IntKind.i64.wrap (p * a + y) = p * a + y := IntWalk.i64_in _ (by omega)
                  have hge : (0 : Int) ≤ (m : Int) := by omega
                  have hm1 : (m : Int) ≤ 1100000 := by omega
                  have HX := Lib.hid hx
                  clear hx hme hh hjl
                  go_wp2
                  exact ⟨⟨j + 1, (m : Int) - 1, by omega, rfl, by have := HX.out; omega, by rw [HH.out, Int.mul_comm]⟩, by simp [intOf]⟩
                · have hjn2 : j = n := by omega
                  have hx1 : x < 0 := by omega
                  have he : horner p (l.drop (l.length - j)) = horner p l := by rw [show l.length - j = 0 by have := HL.out; omega, List.drop_zero]
                  rw [he]
                  obtain ⟨b0, b1⟩ := horner_drop_bd (k := l.length) hp2 HD.out (Nat.le_refl _) (by rw [HMe.out]; omega)
                  rw [Nat.sub_self, List.drop_zero] at b0 b1
                  have hnl : (n : Int) = l.length := by have := HL.out; omega
                  have HT := fun w => l03Make_any p place (horner p l) (place + l.length) w hp2 hp97 (by omega) (by omega) (by omega) (by rw [show place + (l.length : Int) - place = l.length by omega, HMe.out]; omega) b0
                  rw [← hnl] at HT
                  have hQ2 := HQ.out
                  rw [← hnl] at hQ2
                  generalize makeT p place (horner p l) (place + n) = z at *
                  generalize horner p l = h at *
                  replace HT := Lib.hid HT
                  replace HQ := Lib.hid hQ2
                  have hw1 : IntKind.i64.wrap (place + (n : Int)) = place + n := IntWalk.i64_in _ (by omega)
                  clear hjn2 he hnl hQ2
                  go_wp2_with (first | (go_at_call 71; refine (HT.out _).mono ?_; rintro e wn ⟨rfl, hb⟩; have K := k1_first hb) | (go_at_call 70; refine (l03Result_any _ _ _ _ _).mono ?_; rintro e wn ⟨rfl, hb⟩; have K := k1_next K hb; obtain ⟨c0, c1, c2, c3⟩ := lies_four K.2; obtain ⟨cf0, cf1, cf2, cf3⟩ := lies_ice K.2))
                  refine bodyPost_ret (v := .tuple #[.agg (A4 (resQ p z.1 z.2.1 z.2.2)), .int .i64 (limC p z.1 z.2.1 z.2.2)]) (by simp [results, Try.results27, go_sem, c0, c1, c2, c3]) rfl ?_
                  rw [HQ.out.1, HQ.out.2]
                  exact ⟨rfl, below_set4 K.1 (by omega)⟩
            · have HMM := Lib.hid fun w => (l02Many_any p n w hs (by omega)).mono fun e w' h => (show e = .returned (.int .i64 0) ∧ w = w' by
                rw [show manyM p n = 0 by unfold manyM; rw [HL.out, if_neg hm]] at h; exact h)
              have HQ := Lib.hid (And.intro (show fromQ p place l = (0, 0, 0, 0) by simp [fromQ, hm]) (show fromC p place l = 3 by simp [fromC, hs, hd, hm]))
              clear hd hall hm
              go_wp2_with (go_at_call 69; refine (HMM.out _).mono ?_; rintro e w' ⟨rfl, rfl⟩)
              refine bodyPost_ret (v := .tuple #[.agg (P4 0 0 0 0), .int .i64 3]) (by simp [results, Try.results27, go_sem]) rfl ?_
              rw [HQ.out.1, HQ.out.2]
              exact ⟨rfl, below_a1 _ _⟩
theorem specFrom_any {base : Nat} {w : World} {v : Value} {l : List Int} (p place : Int) (h : IntRow base w v l) (hl : l.length ≤ 1100000) :
    Calls Try.prog 27 #[.int .i64 p, .int .i64 place, v] w fun e w' => e = .returned (.tuple #[.agg (A4 (fromQ p place l)), .int .i64 (fromC p place l)]) ∧ Below w.heap.size w w' := by
  rcases row_shape h with ⟨h0, o, c, rfl⟩ | ⟨h0, g, c, rfl, hb, hg⟩
  · exact specFrom_row p place o 0 0 c l w (fun h => by omega) h0.symm (by omega) (fun h => by omega) (fun k hk => by omega)
  · exact specFrom_row p place _ g l.length c l w (fun _ => rfl) rfl hl (fun _ => hg) (int_cells h)
end Go.Proofs.Ytjmecidbnoimnaa
