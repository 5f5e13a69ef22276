/- Contracts of the walk: chapter 10 in impl: the map that remembers counts, keyed by a prime and a degree. -/
import Derived.Test.YtjmecidbnoimnaaCntIrr
import Derived.Maps.OwnSet
import Derived.Maps.OwnOps
import Derived.Maps.AppendAt
import Derived.DeepKeys4
namespace Go.Proofs.Ytjmecidbnoimnaa
open Go.RowKit Go.Maps
set_option linter.unusedVariables false
set_option linter.unusedSimpArgs false
set_option maxRecDepth 20000
theorem Try.cntMap : Try.prog.underlying 62 = some (.map 98 2) := by kernel_rfl
theorem Try.cntArr : Try.prog.underlying 98 = some (.array 2 2) := by kernel_rfl
theorem Try.cntInt : Try.prog.underlying 2 = some (.int .i64) := by kernel_rfl
theorem Try.cntLaid : laidOutB Try.prog = true := by kernel_rfl
theorem Try.cntRow : (98 : TypeId) < Try.prog.types.size := of_decide_eq_true (by kernel_rfl)
theorem Try.cntCells : Try.prog.cellsOf 98 = 2 := by kernel_rfl
theorem Try.cntCell : Try.prog.cellsOf 2 = 1 := by kernel_rfl
theorem Try.cntDeep : Try.prog.keyTypeAt (Try.prog.types.size + 1) 98 = true := by kernel_rfl
theorem Try.cntWide : (match Try.prog.underlying 98 with | some (.array _ _) | some (.struct _) => true | _ => false) = true := by rw [Try.cntArr]
theorem cntKeyed : Keyed Try.prog 98 := Keyed.of_law (deep_law_laid Try.cntLaid (m := 2) (by omega) Try.cntRow (by kernel_rfl) Try.cntWide)
theorem cntZero (w : World) : (zeroValue 2).run Try.prog w = .ok (.int .i64 0) w := by kernel_rfl
def kyL (p n : Int) : Lit := .string (keyBytes [.int .i64 p, .int .i64 n])
theorem keyOf_pn {p n : Int} (hp : (Lit.int .i64 p).wf = true) (hn : (Lit.int .i64 n).wf = true) : keyOf Try.prog 98 (.agg #[.int .i64 p, .int .i64 n]) = some (kyL p n) := by
  have hf : (Value.agg #[.int .i64 p, .int .i64 n]).formed Try.prog 98 = true := by simp [Value.formed, Try.cntArr, Try.cntCells]
  obtain ⟨m, hm⟩ : ∃ m, Try.prog.types.size = m + 1 := ⟨Try.prog.types.size - 1, (Nat.succ_pred_eq_of_pos (Nat.lt_of_le_of_lt (Nat.zero_le _) Try.cntRow)).symm⟩
  unfold keyOf
  rw [Try.cntArr]
  simp only [Program.keyType, Try.cntDeep, hf, Bool.and_self, if_true]
  rw [hm]
  simp [Program.keyLits, Try.cntArr, Try.cntInt, Try.cntCells, Try.cntCell, Value.cells, List.range_succ, hp, hn, kyL]
theorem kyL_inj {p n n' : Int} (hp : (Lit.int .i64 p).wf = true) (hn : (Lit.int .i64 n).wf = true) (hn' : (Lit.int .i64 n').wf = true) (h : kyL p n = kyL p n') : n = n' := by
  have a := keyOf_pn hp hn
  have b := keyOf_pn hp hn'
  rw [← h] at b
  have := cntKeyed.inj a b
  simp at this
  exact this
theorem cnt_rest {p : Int} {n : Nat} (h1 : 1 ≤ n) (h8 : n ≤ 8) : p ^ n - cntT p n (n - 1) = (n : Int) * irrN p n := by
  have h := cnt_all p h1 h8
  obtain ⟨m, rfl⟩ : ∃ m, n = m + 1 := ⟨n - 1, by omega⟩
  rw [cntT, if_pos (Nat.mod_self _)] at h
  rw [← h, Nat.add_sub_cancel]; omega
def CntD (p : Int) (D : DataW Unit) : Prop :=
  IsMap D ∧ ∀ d : Nat, 1 ≤ d → d ≤ 8 → Maps.has D (kyL p d) = true → D.atKey (kyL p d) (.lit (.int .i64 0)) = .lit (.int .i64 (irrN p d))
theorem wf_small {n : Int} (h0 : 0 ≤ n) (h1 : n ≤ 9000000000000000000) : (Lit.int .i64 n).wf = true := by
  simp [Lit.wf, IntKind.min, IntKind.max, IntKind.signed, IntKind.bits]; omega
theorem cntD_empty (p : Int) : CntD p (.map []) := ⟨isMap_empty, fun d _ _ h => by cases h⟩
theorem cntD_put {p : Int} {D : DataW Unit} (h : CntD p D) (hp0 : 0 ≤ p) (hp : p ≤ 97) {n : Nat} (h1 : 1 ≤ n) (h8 : n ≤ 8) : CntD p (D.put (kyL p n) (.lit (.int .i64 (irrN p n)))) := by
  refine ⟨h.1.put _ _, fun d d1 d8 hd => ?_⟩
  by_cases e : d = n
  · subst e
    exact atKey_put_same h.1 (show WideAt.IsKeyLit (kyL p d) from trivial) _ _
  · have hne : kyL p d ≠ kyL p n := fun e2 => e (by have := kyL_inj (wf_small hp0 (by omega)) (wf_small (by omega) (by omega)) (wf_small (by omega) (by omega)) e2; omega)
    rw [atKey_put_other hne]
    rw [has_put_other hne] at hd
    exact h.2 d d1 d8 hd
theorem cntD_same {p : Int} {D : DataW Unit} (h : IsMap D) {n : Nat} {x : Int} : (D.put (kyL p n) (.lit (.int .i64 x))).atKey (kyL p n) (.lit (.int .i64 0)) = .lit (.int .i64 x) := atKey_put_same h (show WideAt.IsKeyLit (kyL p n) from trivial) _ _
def OwnC (w : World) (b k : Nat) (D : DataW Unit) : Prop := w.ownsMap Try.prog 98 (plainElem Try.prog 2) b k D
set_option maxHeartbeats 2000000 in
theorem count_any (p : Int) (hp2 : 2 ≤ p) (hp97 : p ≤ 97) : ∀ n : Nat, 1 ≤ n → n ≤ 8 → ∀ (b k : Nat) (D : DataW Unit) (w : World), OwnC w b k D → CntD p D → k + 2 ^ n ≤ 100000 → b < w.heap.size →
    Calls Try.prog 53 #[.map (some b), .int .i64 p, .int .i64 n] w fun e w' =>
      e = .returned (.int .i64 (irrN p n)) ∧ ∃ k' D', OwnC w' b k' D' ∧ CntD p D' ∧ k' ≤ k + 2 ^ n ∧ w.grownBy w' (some b) := by
  intro n
  induction n using Nat.strongRecOn with
  | ind n IH =>
    intro h1 h8 b k D w hown hD hk hbw
    have HI := Lib.hid IH
    have HO := Lib.hid (show (w.alloc (.cells #[.int .i64 p, .int .i64 n] 98)).ownsMap Try.prog 98 (plainElem Try.prog 2) b k D from hown.alloc _)
    have HD := Lib.hid hD
    have hkey := keyOf_pn (p := p) (n := (n : Int)) (wf_small (by omega) (by omega)) (wf_small (by omega) (by omega))
    have HP := Lib.hid fun w => primePowN_any p n w hp2 hp97 h8
    have hpw := pow_97 hp2 hp97 h8
    have HF := Lib.hid (show p ^ n - cntT p n (n - 1) = (n : Int) * irrN p n from cnt_rest h1 h8)
    have hkb : some w.heap.size ≠ some b := by simp; omega
    have c0 : (w.alloc (.cells #[.int .i64 p, .int .i64 n] 98)).cell? ⟨w.heap.size, 0, none⟩ = some (.int .i64 p) := World.cell?_alloc_new _ _ _ _ ▸ rfl
    have c1 : (w.alloc (.cells #[.int .i64 p, .int .i64 n] 98)).cell? ⟨w.heap.size, 1, none⟩ = some (.int .i64 n) := World.cell?_alloc_new _ _ _ _ ▸ rfl
    have hsz : (w.alloc (.cells #[.int .i64 p, .int .i64 n] 98)).heap.size = w.heap.size + 1 := by simp
    have HG0 := Lib.hid (World.grownBy_alloc w (.cells #[.int .i64 p, .int .i64 n] 98) (some b))
    clear IH hown hD
    cases hh : Maps.has D (kyL p n)
    · go_enter Try.func53, Try.ntmps53
      generalize p ^ n = q at *
      go_wp2_with (first
        | (at_lookup; refine wpList_lookup_own_ok_int _ rfl _ _ 62 rfl 98 2 .i64 cntKeyed Try.cntMap Try.cntInt (cntZero _) b k D rfl HO.out _ _ rfl hkey ?_; intro c hat hwc; rw [hh])
        | (go_at_call 57; refine (HP.out _).mono ?_; rintro e w' ⟨rfl, rfl⟩))
      have HC0 := Lib.hid c0
      have HC1 := Lib.hid c1
      have HSZ := Lib.hid hsz
      clear c0 c1 hsz
      generalize hW : w.alloc (.cells #[.int .i64 p, .int .i64 n] 98) = W at *
      clear hW
      generalize hB : w.heap.size = B at *
      clear hB
      go_loopw [10, 11] (fun r d wr => ∃ (j : Nat) (J : Int) (k' : Nat) (D' : DataW Unit), J = (j : Int) + 1 ∧ j + 1 ≤ n ∧ d = .int .i64 J ∧ r = .int .i64 (q - cntT p n j) ∧ OwnC wr b k' D' ∧ CntD p D' ∧ k' + 2 ≤ k + 2 ^ (j + 1) ∧ W.grownBy wr (some b)) (fun _ d _ => n + 1 - (intOf d).toNat)
      case atStart => exact ⟨0, 1, k, D, rfl, h1, rfl, by simp [cntT], HO.out, HD.out, by omega, World.grownBy.refl _ _⟩
      case round =>
        obtain ⟨j, J, k', D', hJ, hj, rfl, rfl, ho, hd, hk', hg⟩ := hrel
        have HO2 := Lib.hid ho
        have HD2 := Lib.hid hd
        have HG2 := Lib.hid hg
        have HJ := Lib.hid hJ
        have hcb := cntT_part hp2 hp97 (n := n) j (by omega)
        have hcn := cntT_part hp2 hp97 (n := n) (j + 1) (by omega)
        have HT := Lib.hid (show cntT p n (j + 1) = cntT p n j + (if n % (j + 1) = 0 then ((j + 1 : Nat) : Int) * irrN p (j + 1) else 0) from rfl)
        have hc0 := hg.cell HC0.out hkb
        have hc1 := hg.cell HC1.out hkb
        have hbr : b < wr.heap.size := ho.lt
        have hJ1 : 1 ≤ J := by omega
        have hJ8 : J ≤ 8 := by omega
        have hJz : ¬ J = 0 := by omega
        clear ho hd hg
        by_cases hlt : j + 1 < n
        · have hJn : J < (n : Int) := by omega
          have hmod : (n : Int).tmod J = ((n % (j + 1) : Nat) : Int) := by rw [Int.tmod_eq_emod_of_nonneg (by omega), hJ]; rfl
          clear hJ
          have h2k : 2 ^ (j + 1 + 1) ≤ 2 ^ n := Nat.pow_le_pow_right (by omega) (by omega)
          have h2s : 2 ^ (j + 1 + 1) = 2 ^ (j + 1) * 2 := Nat.pow_succ ..
          by_cases h0 : n % (j + 1) = 0
          · rw [h0] at hmod
            rw [HT.out, if_pos h0] at hcn
            have HT2 := Lib.hid (show cntT p n (j + 1) = cntT p n j + J * irrN p (j + 1) by rw [HT.out, if_pos h0, HJ.out]; rfl)
            have hib := irr_bd hp2 (n := j + 1) (by omega) (by omega)
            have hit := irr_times p (n := j + 1) (by omega) (by omega)
            have hpj := pow_97 hp2 hp97 (k := j + 1) (by omega)
            have hJI : ((j + 1 : Nat) : Int) = J := by have := HJ.out; omega
            have HR := Lib.hid (HI.out (j + 1) hlt (by omega) (by omega) b k' D' wr HO2.out HD2.out (by omega) hbr)
            rw [hJI] at hcn hit HR
            have hdb : 0 ≤ J * irrN p (j + 1) ∧ J * irrN p (j + 1) ≤ 7837433594376961 := by omega
            have hnb : 0 ≤ irrN p (j + 1) ∧ irrN p (j + 1) ≤ 7837433594376961 := by
              have := irrN_bd hp2 (n := j + 1) (by omega) (by omega)
              omega
            clear hit hib HT h0 hpj
            generalize irrN p (j + 1) = N at *
            generalize cntT p n j = t at *
            have HKK := Lib.hid (And.intro h2s (And.intro hk' hJI))
            clear h2k h2s hk' hJI
            go_wp2_with (go_at_call 53; refine HR.out.mono ?_; rintro e w' ⟨rfl, k2, D2, ho2, hd2, hk2, hg2⟩; have HO3 := Lib.hid ho2; have HD3 := Lib.hid hd2; have HK3 := Lib.hid hk2; have HG3 := Lib.hid hg2; clear ho2 hd2 hk2 hg2)
            go_roundw
            case rel => exact ⟨j + 1, J + 1, k2, D2, by have := HJ.out; push_cast; omega, by omega, rfl, by rw [HT2.out]; congr 1; omega, HO3.out, HD3.out, by have := HKK.out; have := HK3.out; omega, HG2.out.trans HG3.out⟩
            case measure => simp only [intOf]; have := HJ.out; omega
          · rw [HT.out, if_neg h0] at hcn
            have HT2 := Lib.hid (show cntT p n (j + 1) = cntT p n j by rw [HT.out, if_neg h0]; omega)
            have hne : ¬ (((n % (j + 1) : Nat) : Int) = 0) := by omega
            have hne2 : ((((n % (j + 1) : Nat) : Int)) == 0) = false := by rw [beq_eq_false_iff_ne]; exact hne
            have HKK := Lib.hid (And.intro h2s hk')
            clear h2k h2s hk' HT h0
            generalize ((n % (j + 1) : Nat) : Int) = r at *
            generalize cntT p n j = t at *
            go_wp2
            go_roundw
            case rel => exact ⟨j + 1, J + 1, k', D', by have := HJ.out; push_cast; omega, by omega, rfl, by rw [HT2.out], HO2.out, HD2.out, by have := HKK.out; omega, HG2.out⟩
            case measure => simp only [intOf]; have := HJ.out; omega
        · have hjn : n - 1 = j := by omega
          rw [hjn] at HF
          have hnJ : (n : Int) = J := by omega
          have HK2 := Lib.hid hk'
          have hjn1 : j + 1 = n := by omega
          have hib := irrN_bd hp2 h1 h8
          clear hcn hJ hk' HT
          have hq0 := HF.out
          have hin := pow_97 hp2 hp97 h8
          obtain ⟨N, hN⟩ : ∃ N, irrN p n = N := ⟨_, rfl⟩
          have HN := Lib.hid hN
          have hwN : (Lit.int .i64 N).wf = true := by rw [← hN]; exact wf_small hib.1 (by omega)
          rw [hN] at hib hq0
          generalize cntT p n j = t at *
          have hnz : ¬ (n : Int) = 0 := by omega
          have hdv : (q - t).tdiv (n : Int) = N := by
            rw [hq0, Int.tdiv_eq_ediv_of_nonneg (Int.mul_nonneg (by omega) hib.1)]
            exact Int.mul_ediv_cancel_left _ hnz
          have hwr : IntKind.i64.wrap N = N := by rw [IntWalk.i64_in] <;> omega
          have hge : ¬ J < (n : Int) := by omega
          have hk1 : k' < maxLen := by have := HK2.out; rw [hjn1] at this; unfold maxLen; omega
          have HEN := Lib.hid (And.intro hk1 (And.intro hjn1 hN))
          clear hN hk1 hjn1 hin hq0 hjn hlt hj hnJ
          go_upto_region 11 with fail
          obtain ⟨w1, hrun, hown1, hgrow1⟩ := (World.ownsMap.drew HO2.out).update cntKeyed Try.cntMap HEN.out.1 hkey (plainElem_int (H := Unit) Try.cntInt hwN)
          have HO3 := Lib.hid hown1
          have HG3 := Lib.hid hgrow1
          clear hown1 hgrow1
          go_region
          have hc1' := HG3.out.cell (show wr.drew.cell? ⟨B, 0, none⟩ = some (.int .i64 p) from hc0) hkb
          have hc2' := HG3.out.cell (show wr.drew.cell? ⟨B, 1, none⟩ = some (.int .i64 n) from hc1) hkb
          go_wp2_with (at_lookup; refine wpList_lookup_own_int _ rfl _ _ 62 rfl 98 2 .i64 cntKeyed Try.cntMap Try.cntInt (cntZero _) b _ _ rfl HO3.out _ _ rfl hkey ?_; intro c hat hwc)
          have hcN : c = N := by
            rw [cntD_same HD2.out.1] at hat
            simpa using hat.symm
          go_ret
          obtain ⟨hk1, hjn1, hN⟩ := HEN.out
          rw [hcN, hN]
          refine ⟨rfl, k' + 1, _, HO3.out, ?_, ?_, ?_⟩
          · rw [← hN]; exact cntD_put HD2.out (by omega) hp97 h1 h8
          · have := HK2.out; rw [hjn1] at this; omega
          · exact HG0.out.trans ((HG2.out.trans (⟨rfl, rfl, rfl, Nat.le_refl _, fun _ _ _ => rfl⟩ : wr.grownBy wr.drew (some b))).trans HG3.out)
    · have HE := Lib.hid (HD.out.2 n h1 h8 hh)
      go_enter Try.func53, Try.ntmps53
      go_wp2_with (at_lookup; refine wpList_lookup_own_ok_int _ rfl _ _ 62 rfl 98 2 .i64 cntKeyed Try.cntMap Try.cntInt (cntZero _) b k D rfl HO.out _ _ rfl hkey ?_; intro c hat hwc; rw [hh])
      have hc : c = irrN p n := by
        have := HE.out; rw [hat] at this; simpa using this
      go_ret
      rw [hc]
      exact ⟨rfl, k, D, HO.out, HD.out, Nat.le_add_right _ _, HG0.out⟩
theorem cnt_below {w W w' : World} {b : Nat} (hb : Below w.heap.size w W) (hg : W.grownBy w' (some b)) (h : w.heap.size ≤ b) : Below w.heap.size w w' := hb.grown hg hb.size (fun k hk => by cases hk; exact h)
theorem implCir_any (p n : Int) (w : World) :
    Calls Try.prog 16 #[.int .i64 p, .int .i64 n] w fun e w' => e = .returned (.tuple #[.int .i64 (cirQ p n), .int .i64 (cirC p n)]) ∧ Below w.heap.size w w' := by
  unfold cirQ cirC
  have HC := Lib.hid fun w => checkNumber_any p n 1 8 w
  by_cases h : numC p n 1 8 = 0
  · obtain ⟨hs, h0, h8⟩ := numC_zero h
    obtain ⟨p2, p97⟩ := smallB_bd hs
    rw [if_pos h, if_pos h]
    rw [h] at HC
    obtain ⟨k, rfl⟩ : ∃ k : Nat, n = k := ⟨n.toNat, by omega⟩
    have hpow : 0 + 2 ^ k ≤ 100000 := by
      have : 2 ^ k ≤ 2 ^ 8 := Nat.pow_le_pow_right (by omega) (by omega)
      omega
    have HP := Lib.hid fun b w ho hb => count_any p p2 p97 k (by omega) (by omega) b 0 _ w ho (cntD_empty p) hpow hb
    rw [Int.toNat_natCast]
    generalize irrN p k = x at *
    have HR := Lib.hid fun w => countOrLimit_any x w
    have hmm := @run_makeMap Try.prog
    have HM := Lib.hid fun (w : World) => World.ownsMap_made (H := Unit) w Try.prog 98 (plainElem Try.prog 2)
    clear h hpow
    go_enter Try.func16, Try.ntmps16
    go_wp2_with (first | (go_at_call 51; refine (HC.out _).mono ?_; rintro e w' ⟨rfl, rfl⟩) | (go_at_call 53; refine (HP.out _ _ (HM.out _) (by simp)).mono ?_; rintro e w' ⟨rfl, k', D', ho, hd, hk, hg⟩; have HB := Lib.hid (cnt_below ((Below.refl _ _).alloc (Nat.le_refl _) _) hg (Nat.le_refl _)); clear ho hd hk hg) | (go_at_call 52; refine (HR.out _).mono ?_; rintro e w' ⟨rfl, rfl⟩))
    go_ret2
    exact ⟨rfl, HB.out⟩
  · obtain ⟨n1, n2⟩ := numC_ne h
    rw [if_neg h, if_neg h]
    generalize numC p n 1 8 = c at *
    clear h
    go_enter Try.func16, Try.ntmps16
    go_wp2_with (go_at_call 51; refine (HC.out _).mono ?_; rintro e w' ⟨rfl, rfl⟩)
    go_ret2
    exact ⟨rfl, Below.refl _ _⟩
theorem exactCir_walk (p n : Int) (_ : (Lit.int .i64 p).wf = true) (_ : (Lit.int .i64 n).wf = true) (w : World) :
    Calls Try.prog 7 #[.int .i64 p, .int .i64 n] w fun e w' => e = .returned (.bool true) ∧ Below w.heap.size w w' := by
  have HS := Lib.hid fun w => specCir_any p n w
  have HI := Lib.hid fun w => implCir_any p n w
  generalize cirQ p n = q at *
  generalize cirC p n = c at *
  go_enter Try.func7, Try.ntmps7
  go_wp2_with fail
  refine (HS.out _).mono ?_
  rintro e W1 ⟨rfl, b1⟩
  have B1 := Lib.hid b1
  clear b1
  go_wp2_with fail
  refine (HI.out _).mono ?_
  rintro e W2 ⟨rfl, b2⟩
  have B2 := Lib.hid (B1.out.trans (b2.mono B1.out.size))
  clear b2
  go_wp2
  go_ret
  exact ⟨rfl, B2.out⟩
end Go.Proofs.Ytjmecidbnoimnaa
