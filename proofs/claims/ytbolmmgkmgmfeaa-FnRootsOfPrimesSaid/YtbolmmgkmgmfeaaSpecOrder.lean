/- Contracts of the walk: spec.l02Order finds the order of a unit. -/
import Derived.Test.YtbolmmgkmgmfeaaOrder
namespace Go.Proofs.Ytbolmmgkmgmfeaa
open Go.RowKit
set_option linter.unusedVariables false
theorem facRow_of {p : Int} {l : List (Int × Int)} {b b' : Nat} {w : World} {v : Value} (hl : factT (p - 1) = l) (h : PowRow b w v (factT (p - 1))) (hb : b' ≤ b) : PowRow b' w v l := hl ▸ row_base h hb
theorem mapFst_getD {l : List (Int × Int)} {k : Nat} (h : k < l.length) : (l.map Prod.fst).getD k 2 = (l.getD k (0, 0)).1 := by
  rw [List.getD_eq_getElem?_getD, List.getD_eq_getElem?_getD, List.getElem?_map, List.getElem?_eq_getElem h]; rfl
theorem facAll_two {p : Int} {l : List (Int × Int)} (hs : smallB p = true) (hl : factT (p - 1) = l) : ∀ q ∈ (l ++ [(p, 0)]).map Prod.fst, 2 ≤ q := by
  subst hl
  intro q hq
  obtain ⟨r, hr, rfl⟩ := List.mem_map.1 hq
  rcases List.mem_append.1 hr with h | h
  · exact (fact_small hs).1 r h
  · obtain rfl := List.mem_singleton.1 h
    exact (smallB_bd hs).1
theorem facAll_covers {p n : Int} {l : List (Int × Int)} (h : ringM p n ≠ 0) (hl : factT (p - 1) = l) : Covers (unitN p n).toNat ((l ++ [(p, 0)]).map Prod.fst) := by
  subst hl
  exact covers_of h (List.mem_map.2 ⟨(p, 0), List.mem_append_right _ (List.mem_singleton.2 rfl), rfl⟩) (fun r hr => List.mem_map.2 ⟨r, List.mem_append_left _ hr, rfl⟩)
set_option maxHeartbeats 1000000 in
theorem l02Order_any (p n a : Int) (w : World) (h0 : ringM p n ≠ 0) (ha : 0 ≤ a ∧ a < ringM p n) (hu : a % p ≠ 0) :
    Calls Try.prog 46 #[.agg #[.int .i64 p, .int .i64 n], .int .i64 a] w fun e' w' => e' = .returned (.int .i64 (ordV a (ringM p n))) ∧ Below w.heap.size w w' := by
  obtain ⟨i0, hi, hz0, hz1, hz2⟩ := info_parts Try.infoPower
  have HI := Lib.hid hi
  have HZ0 := Lib.hid hz0
  have HZ1 := Lib.hid hz1
  have HZ2 := Lib.hid hz2
  clear hi hz0 hz1 hz2
  have H0 := Lib.hid h0
  have hs := (ringM_in h0).1
  obtain ⟨hp2, hp97, hn1, hn2, hm1, hm2, _⟩ := ringM_bd h0
  have H := Lib.hid (And.intro hs (And.intro hn1 (show n ≤ 1000 by omega)))
  have hf1 : 1 ≤ p - 1 := by omega
  have hf2 : p - 1 ≤ 1000000 := by omega
  have hlen := factT_length hf1 hf2
  obtain ⟨l, hl⟩ : ∃ l, factT (p - 1) = l := ⟨_, rfl⟩
  rw [hl] at hlen
  have hL := Lib.hid hl
  have HST : Hid (ORel a (ringM p n) (unitN p n).toNat ((l ++ [(p, 0)]).map Prod.fst) 0 (unitN p n)) := by
    obtain ⟨j, _, _, _, u0, u1⟩ := unitN_eq h0
    exact oRel_start u0 u1 (euler h0 hu)
  have H2 := Lib.hid (facAll_two hs hl)
  have HC := Lib.hid (facAll_covers h0 hl)
  clear h0 hu hs hl
  go_enter Try.func46, Try.ntmps46
  go_wp2_with (first | (go_at_call 78; refine (l02Modulus_any _ _ _ H.out.1 H.out.2.1 H.out.2.2).mono ?_; rintro e wn ⟨rfl, rfl⟩) | (go_at_call 79; refine (l02Units_any _ _ _ H0.out).mono ?_; rintro e wn ⟨rfl, hb⟩; (first | have hH := keep_first hb | have hH := keep_next ⟨hB, c0, c1⟩ hb); obtain ⟨hB, c0, c1⟩ := hH) | (go_at_call 80; refine (l01Factor_any _ _ hf1 hf2).mono ?_; rintro e wn ⟨v, rfl, hrow0, hb⟩; have hH := keep_next ⟨hB, c0, c1⟩ hb; have hrow := facRow_of hL.out hrow0 hB.size; obtain ⟨o, cp, rfl⟩ := powRow_form hrow; obtain ⟨hB, c0, c1⟩ := hH) | (at_builtin; refine wpList_append_own _ rfl (.tmp 21) (.tmp 25) 83 rfl w.heap.size 86 i0 (.agg #[.int .i64 0, .int .i64 0]) 2 16 Try.underlying83 HI.out HZ0.out HZ1.out HZ2.out rfl (by decide) _ _ _ rfl (hrow.alloc _) ⟨wn.heap.size, 0, none⟩ 1 1 [.int .i64 p, .int .i64 0] rfl rfl ?c1 ?c2 ?c3 ?c4 ?c5 ?_))
  case c1 => first | exact news_two _ _ _ _ | simp [Addr.add]
  case c2 => first | exact one_two _ _ | rfl
  case c3 => unfold maxLen; omega
  case c4 => omega
  case c5 => first | exact hB.size | (have := hB.size; simp; omega)
  intro v' w1 hown hgrow _
  have HO := powRow_snoc hown
  have HG := Lib.hid (below_append hB hrow hgrow)
  obtain ⟨L, hL2⟩ : ∃ L, l ++ [(p, 0)] = L := ⟨_, rfl⟩
  rw [hL2] at HO HST H2 HC
  have hLl : L.length = l.length + 1 := by rw [← hL2]; simp
  clear hown hgrow hB hrow hrow0 c0 c1 hb hL hL2
  obtain ⟨o2, c2, rfl⟩ := powRow_form HO
  obtain ⟨g, rfl⟩ := powRow_some HO (by omega)
  have HR := Lib.hid (pow_cells HO)
  clear HO
  have hLl2 : L.length ≤ 2001 := by omega
  clear hLl
  go_wp2
  go_loop [6, 8] (fun dv iv => ∃ (D : Int) (k : Nat), dv = .int .i64 D ∧ iv = .int .i64 k ∧ k ≤ L.length ∧ ORel a (ringM p n) (unitN p n).toNat (L.map Prod.fst) k D) (fun _ iv => L.length - (intOf iv).toNat)
  case atStart => exact ⟨_, 0, rfl, rfl, Nat.zero_le _, HST.out⟩
  case round =>
    obtain ⟨D0, k, rfl, rfl, hk, ho0⟩ := hrel
    have HO0 := Lib.hid ho0
    clear ho0 HST
    by_cases hlt : k < L.length
    · obtain ⟨cq, _⟩ := HR.out k hlt
      obtain ⟨q, hq⟩ : ∃ q, (L.getD k (0, 0)).1 = q := ⟨_, rfl⟩
      rw [hq] at cq
      have hlt' : k < (L.map Prod.fst).length := by rw [List.length_map]; exact hlt
      have hq' : (L.map Prod.fst).getD k 2 = q := by rw [mapFst_getD hlt]; exact hq
      have hq2 : 2 ≤ q := by rw [← hq', List.getD_eq_getElem?_getD, List.getElem?_eq_getElem hlt']; exact H2.out _ (List.getElem_mem hlt')
      have HQ := Lib.hid hq'
      have HLT := Lib.hid hlt'
      clear hq hq' hlt'
      go_wp2
      go_loop [6] (fun dv => ∃ D : Int, dv = .int .i64 D ∧ ORel a (ringM p n) (unitN p n).toNat (L.map Prod.fst) k D) (fun dv => (intOf dv).toNat)
      case atStart => exact ⟨D0, rfl, HO0.out⟩
      case round =>
        obtain ⟨D, rfl, hd⟩ := hrel
        obtain ⟨d1, d2, _, wt, d3, d4, wq⟩ := take_facts hd HQ.out hq2
        have he' := And.intro d3 d4
        have hz : ¬ q = 0 := by omega
        have hz' : (q == 0) = false := by simp [hz]
        have HD := Lib.hid hd
        clear hd HO0
        by_cases hm : D % q = 0
        · have hm' : (D % q == 0) = true := by simp [hm]
          by_cases hp1 : powM a (D / q).toNat (ringM p n) = 1
          · have hp' : (powM a (D / q).toNat (ringM p n) == 1) = true := by simp [hp1]
            have HN := Lib.hid (take_step hm1 H2.out HLT.out HD.out HQ.out hm hp1)
            clear hm hp1
            go_wp2_with (go_at_call 81; refine (l02Power_any _ _ _ _ hm1 hm2 ha he').mono ?_; rintro e wn ⟨rfl, rfl⟩)
            exact ⟨⟨_, rfl, HN.out.1⟩, by simpa only [intOf] using HN.out.2⟩
          · have hp' : (powM a (D / q).toNat (ringM p n) == 1) = false := by simp [hp1]
            have HN := Lib.hid (take_next HD.out HQ.out hq2 (fun h => hp1 h.2))
            clear hm hp1
            go_wp2_with (go_at_call 81; refine (l02Power_any _ _ _ _ hm1 hm2 ha he').mono ?_; rintro e wn ⟨rfl, rfl⟩)
            go_round
            case rel => exact ⟨_, k + 1, rfl, by go_num, by omega, HN.out⟩
            case measure => simp [intOf]; omega
        · have hm' : (D % q == 0) = false := by simp [hm]
          have HN := Lib.hid (take_next HD.out HQ.out hq2 (fun h => hm h.1))
          clear hm
          go_wp2
          go_round
          case rel => exact ⟨_, k + 1, rfl, by go_num, by omega, HN.out⟩
          case measure => simp [intOf]; omega
    · have hkm : k = (L.map Prod.fst).length := by rw [List.length_map]; omega
      have HF := Lib.hid (ordV_eq (by have := HO0.out.1; omega) (oRel_end hm1 HC.out (hkm ▸ HO0.out)))
      clear hkm
      go_wp2
      go_ret
      exact ⟨ret_int HF.out.symm, HG.out⟩
end Go.Proofs.Ytbolmmgkmgmfeaa
