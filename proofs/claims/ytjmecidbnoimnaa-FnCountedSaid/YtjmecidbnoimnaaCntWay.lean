/- Contracts of the walk: chapter 10: lists of degrees, choices in spec and impl. -/
import Derived.Test.YtjmecidbnoimnaaCntMap
import Derived.Test.YtjmecidbnoimnaaPolySpec
namespace Go.Proofs.Ytjmecidbnoimnaa
open Go.RowKit Go.Maps
set_option linter.unusedVariables false
set_option linter.unusedSimpArgs false
set_option maxRecDepth 20000
def lastL (l : List Int) (k : Nat) : Int := if k = 0 then 1 else l.getD (k - 1) 0
theorem lastL_succ (l : List Int) (k : Nat) : lastL l (k + 1) = l.getD k 0 := by rw [lastL, if_neg (by omega), Nat.add_sub_cancel]
theorem lastL_bd {l : List Int} {k : Nat} (h : DegU l k) : 1 ≤ lastL l k ∧ lastL l k ≤ 8 := by
  unfold lastL
  split
  · omega
  · have := h (k - 1) (by omega); omega
theorem deg_less {l : List Int} {k : Nat} (hk : k < l.length) (h : l.getD k 0 < lastL l k) : ¬ DegOk l := by
  intro hd
  obtain ⟨a, b, c⟩ := degOk_at hd hk
  unfold lastL at h
  split at h
  · omega
  · have := c (by omega); omega
theorem deg_more {l : List Int} {k : Nat} (hk : k < l.length) (h : 8 - sumP l k < l.getD k 0) : ¬ DegOk l := by
  intro hd
  obtain ⟨a, b, c⟩ := degOk_at hd hk
  omega
theorem deg_next {l : List Int} {k : Nat} (hu : DegU l k) (h1 : ¬ l.getD k 0 < lastL l k) (h2 : ¬ 8 - sumP l k < l.getD k 0) : DegU l (k + 1) ∧ sumP l (k + 1) ≤ 8 := by
  have hb := lastL_bd hu
  have hs := sumP_ge hu
  refine ⟨degU_succ hu (by omega) (by omega) (fun h0 => ?_), by rw [sumP]; omega⟩
  unfold lastL at h1
  rw [if_neg (by omega)] at h1
  omega
set_option maxHeartbeats 1000000 in
theorem areDeg_any {o : Option Addr} {n c : Nat} {l : List Int} {w : World} (h : Seen w o n c l) :
    Calls Try.prog 61 #[.slice o n c] w fun e w' => e = .returned (.bool (decide (DegOk l))) ∧ w = w' := by
  obtain ⟨hl, hn, hno, hnc, g, h1, h2⟩ := h
  have HO := Lib.hid fun h => (h1 h).1
  have HC := Lib.hid h2
  have HL := Lib.hid hl
  clear h1 h2 hno hnc hl
  go_enter Try.func61, Try.ntmps61
  go_wp2_with fail
  go_loop [3, 4, 9] (fun a s i => ∃ k : Nat, k ≤ n ∧ i = .int .i64 k ∧ a = .int .i64 (lastL l k) ∧ s = .int .i64 (sumP l k) ∧ DegU l k ∧ sumP l k ≤ 8) (fun _ _ i => n - (intOf i).toNat)
  case atStart => exact ⟨0, Nat.zero_le _, rfl, rfl, rfl, degU_zero l, by simp [sumP]⟩
  case round =>
    obtain ⟨k, hk, rfl, rfl, rfl, hu, h8⟩ := hrel
    have hs0 := sumP_ge hu
    by_cases hlt : k < n
    · have hkl : k < l.length := by have := HL.out; omega
      have hog := HO.out (by omega)
      subst hog
      have a2 := HC.out k hlt
      have hlb := lastL_bd hu
      have HU := Lib.hid hu
      have HLS := Lib.hid fun h => deg_less (l := l) hkl h
      have HMO := Lib.hid fun h => deg_more (l := l) hkl h
      have HNX := Lib.hid fun h1 h2 => deg_next (l := l) (k := k) hu h1 h2
      have HSS := Lib.hid (show sumP l (k + 1) = sumP l k + l.getD k 0 from rfl)
      have HLA := Lib.hid (lastL_succ l k)
      have hkn : (k : Int) < (n : Int) := by omega
      generalize l.getD k 0 = d at *
      generalize sumP l k = s at *
      generalize lastL l k = a at *
      have hs0' : 0 ≤ s := by omega
      clear hu hs0 hkl
      by_cases hd1 : d < a
      · have HF := Lib.hid (show decide (DegOk l) = false by simpa using HLS.out hd1)
        go_wp2
        go_ret
        rw [HF.out]; exact ⟨rfl, rfl⟩
      · by_cases hd2 : 8 - s < d
        · have HF := Lib.hid (show decide (DegOk l) = false by simpa using HMO.out hd2)
          go_wp2
          go_ret
          rw [HF.out]; exact ⟨rfl, rfl⟩
        · have HX := Lib.hid (HNX.out hd1 hd2)
          have hdb : 1 ≤ d ∧ d ≤ 8 := by omega
          go_wp2
          exact ⟨⟨k + 1, by omega, rfl, by rw [HLA.out], by rw [HSS.out], HX.out⟩, by simp only [intOf]; omega⟩
    · obtain rfl : k = n := by omega
      have HF := Lib.hid (show decide (DegOk l) = true by
        have hl := HL.out
        subst hl
        exact decide_eq_true ⟨hu, h8⟩)
      clear hu
      go_wp2
      go_ret
      rw [HF.out]; exact ⟨rfl, rfl⟩
set_option maxHeartbeats 2000000 in
theorem choices_any (p : Int) (hp2 : 2 ≤ p) (hp97 : p ≤ 97) {o : Option Addr} {n c : Nat} {l : List Int} {w : World} (h : Seen w o n c l) (hd : DegOk l) {b k0 : Nat} {D : DataW Unit} (ho : OwnC w b k0 D) (hD : CntD p D) (hk0 : k0 ≤ 1000) (hbo : 0 < n → ∀ g, o = some ⟨g, 0, none⟩ → g ≠ b) :
    Calls Try.prog 62 #[.map (some b), .int .i64 p, .slice o n c] w fun e w' => e = .returned (.int .i64 (wayL p l l.length)) ∧ w.grownBy w' (some b) := by
  obtain ⟨hl, hn, hno, hnc, g, h1, h2⟩ := h
  have HO := Lib.hid fun h => (h1 h).1
  have HC := Lib.hid fun (W : World) (hg : w.grownBy W (some b)) (k : Nat) (hk : k < n) => (show W.cell? ⟨g, k, none⟩ = some (.int .i64 (l.getD k 0)) from hg.cell (h2 k hk) (by have := hbo (by omega) g (h1 (by omega)).1; simpa using this))
  have HL := Lib.hid hl
  have HD := Lib.hid hd
  have H0 := Lib.hid (And.intro ho hD)
  have h8 := degOk_len hd
  have hn8 : n ≤ 8 := by omega
  clear h1 h2 hno hnc hl hd ho hD
  go_enter Try.func62, Try.ntmps62
  go_wp2_with fail
  go_loopw [7, 8, 13] (fun v s i wr => ∃ (k k' : Nat) (D' : DataW Unit), k ≤ n ∧ i = .int .i64 k ∧ v = .int .i64 (wayL p l k) ∧ s = .int .i64 (choP l k) ∧ OwnC wr b k' D' ∧ CntD p D' ∧ k' ≤ k0 + k * 256 ∧ w.grownBy wr (some b)) (fun _ _ i _ => n - (intOf i).toNat)
  case atStart => exact ⟨0, k0, D, Nat.zero_le _, rfl, by rw [wayL_zero], rfl, H0.out.1, H0.out.2, by omega, World.grownBy.refl _ _⟩
  case round =>
    obtain ⟨k, k', D', hk, rfl, rfl, rfl, ho, hD, hk', hg⟩ := hrel
    by_cases hlt : k < n
    · have hkl : k < l.length := by have := HL.out; omega
      have hog := HO.out (by omega)
      subst hog
      obtain ⟨d1, d8, hdm⟩ := HD.out.1 k hkl
      obtain ⟨d, hd⟩ : ∃ d : Nat, l.getD k 0 = d := ⟨(l.getD k 0).toNat, by omega⟩
      have a2 := HC.out wr hg k hlt
      have hu := degU_le HD.out.1 (show k + 1 ≤ l.length by omega)
      have hu0 := degU_le HD.out.1 (show k ≤ l.length by omega)
      have hs1 : sumP l (k + 1) ≤ 8 := by have := sumP_mono (i := k + 1) HD.out.1 (by omega); have := HD.out.2; omega
      have hs0 : sumP l k ≤ 8 := by have := sumP_mono (i := k) HD.out.1 (by omega); have := HD.out.2; omega
      have hwb := wayL_bd hp2 hp97 hu0 hs0
      have hwn := wayL_bd hp2 hp97 hu hs1
      have hwm := wayL_more hp2 hp97 hd (by omega) (by omega)
      have hcb := choP_bd l k
      have hcs := fun h => choP_same (l := l) (k := k) hd h
      have hco := fun h1 h2 => choP_other (l := l) (k := k) hd hu h1 h2
      have HCN := Lib.hid (choP_next (l := l) (k := k) hd)
      have hcl := cntP_le l d k
      have hib := irrN_bd hp2 (n := d) (by omega) (by omega)
      have hpd := pow_97 hp2 hp97 (k := d) (by omega)
      have hbr : b < wr.heap.size := ho.lt
      have hpow : 2 ^ d ≤ 256 := Nat.le_trans (Nat.pow_le_pow_right (by omega) (show d ≤ 8 by omega)) (by decide)
      have HR := Lib.hid (count_any p hp2 hp97 d (by omega) (by omega) b k' D' wr ho hD (by omega) hbr)
      rw [hd] at a2
      have hd1 : 1 ≤ (d : Int) := by omega
      have hd8 : (d : Int) ≤ 8 := by omega
      have hprev : ∀ (hk0 : 0 < k), wr.cell? ⟨g, k - 1, none⟩ = some (.int .i64 (l.getD (k - 1) 0)) := fun hk0 => HC.out wr hg (k - 1) (by omega)
      have HG := Lib.hid hg
      have HKB := Lib.hid (And.intro hk' hpow)
      clear hg hD ho hu hu0 hs1 hs0 hd d1 d8 hdm hk' hpow hkl
      have hwN : 0 ≤ irrN p d ∧ irrN p d ≤ 7837433594376961 := by omega
      clear hib hpd
      generalize irrN p d = N at *
      generalize wayL p l k = v at *
      have HWK := Lib.hid (show ∃ V, wayL p l (k + 1) = V from ⟨_, rfl⟩)
      obtain ⟨V, hV⟩ := HWK.out
      have HV := Lib.hid hV
      rw [hV] at hwn hwm
      generalize hchs : choP l k = s at *
      obtain ⟨C, hC⟩ : ∃ C : Int, (cntP l k d : Int) = C := ⟨_, rfl⟩
      have hC0 : 0 ≤ C ∧ C ≤ k := by omega
      rw [hC] at hwm hcs hco HCN
      clear hC hchs hV HWK hcl
      have hkn : (k : Int) < (n : Int) := by omega
      obtain ⟨hmul, _⟩ := hwm
      have hb9 : 0 ≤ (C + 1) * V ∧ (C + 1) * V ≤ 9 * V := ⟨Int.mul_nonneg (by omega) hwn.1, Int.mul_le_mul_of_nonneg_right (by omega) hwn.1⟩
      have hcz : ¬ C + 1 = 0 := by omega
      have hdv : (v * (N - C)).tdiv (C + 1) = V := by
        rw [hmul, Int.tdiv_eq_ediv_of_nonneg hb9.1]
        exact Int.mul_ediv_cancel_left _ hcz
      have hmb : 0 ≤ v * (N - C) ∧ v * (N - C) ≤ 90000000000000000 := by rw [hmul]; omega
      clear hmul hb9
      rcases Nat.eq_zero_or_pos k with h0 | h0
      · obtain rfl : s = C := hcs (.inl h0)
        have hk3 : ¬ (0 : Int) < (k : Int) := by omega
        clear hcs hco hprev h0
        go_wp2_with (go_at_call 53; refine HR.out.mono ?_; rintro e w' ⟨rfl, k2, D2, ho2, hd2, hk2, hg2⟩; have HO3 := Lib.hid ho2; have HD3 := Lib.hid hd2; have HK3 := Lib.hid hk2; have HG3 := Lib.hid hg2; clear ho2 hd2 hk2 hg2)
        go_roundw
        case rel => exact ⟨k + 1, k2, D2, by omega, rfl, by rw [HV.out], by rw [HCN.out] <;> rfl, HO3.out, HD3.out, by have := HKB.out; have := HK3.out; omega, HG.out.trans HG3.out⟩
        case measure => simp only [intOf]; omega
      · obtain ⟨y, hy⟩ : ∃ y, l.getD (k - 1) 0 = y := ⟨_, rfl⟩
        have a3 := hprev h0
        rw [hy] at a3 hcs hco
        have hk1 : (k : Int) - 1 = ((k - 1 : Nat) : Int) := by omega
        have hk2 : ((k - 1 : Nat) : Int) < (n : Int) := by omega
        have hk3 : (0 : Int) < (k : Int) := by omega
        by_cases hyd : y = (d : Int)
        · obtain rfl : s = C := hcs (.inr hyd)
          have hne : ((d : Int) != y) = false := by simp [hyd]
          have hne2 : ((d : Int) == y) = true := by simp [hyd]
          clear hcs hco hprev hyd hy
          go_wp2_with (go_at_call 53; refine HR.out.mono ?_; rintro e w' ⟨rfl, k2, D2, ho2, hd2, hk2, hg2⟩; have HO3 := Lib.hid ho2; have HD3 := Lib.hid hd2; have HK3 := Lib.hid hk2; have HG3 := Lib.hid hg2; clear ho2 hd2 hk2 hg2)
          go_roundw
          case rel => exact ⟨k + 1, k2, D2, by omega, rfl, by rw [HV.out], by rw [HCN.out] <;> rfl, HO3.out, HD3.out, by have := HKB.out; have := HK3.out; omega, HG.out.trans HG3.out⟩
          case measure => simp only [intOf]; omega
        · obtain rfl : C = 0 := hco h0 hyd
          rw [Int.sub_zero] at hmb hdv
          have hvN : v * N = V := by simpa using hdv
          have hVN := Lib.hid hvN
          clear hvN hdv
          have hne : ((d : Int) != y) = true := bne_iff_ne.2 (fun e => hyd e.symm)
          have hne2 : ((d : Int) == y) = false := beq_eq_false_iff_ne.2 (fun e => hyd e.symm)
          clear hcs hco hprev hyd hy
          go_wp2_with (go_at_call 53; refine HR.out.mono ?_; rintro e w' ⟨rfl, k2, D2, ho2, hd2, hk2, hg2⟩; have HO3 := Lib.hid ho2; have HD3 := Lib.hid hd2; have HK3 := Lib.hid hk2; have HG3 := Lib.hid hg2; clear ho2 hd2 hk2 hg2)
          go_roundw
          case rel => exact ⟨k + 1, k2, D2, by omega, rfl, by rw [HV.out, ← hVN.out], by rw [HCN.out] <;> rfl, HO3.out, HD3.out, by have := HKB.out; have := HK3.out; omega, HG.out.trans HG3.out⟩
          case measure => simp only [intOf]; omega
    · have HF := Lib.hid (show wayL p l k = wayL p l l.length by rw [show k = l.length by have := HL.out; omega])
      have HG := Lib.hid hg
      obtain rfl : k = n := by omega
      generalize wayL p l k = v at *
      clear hg ho hD
      go_wp2
      go_ret
      rw [HF.out]; exact ⟨rfl, HG.out⟩
end Go.Proofs.Ytjmecidbnoimnaa
