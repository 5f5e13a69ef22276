/- Contracts of the walk: Ring.order and spec.l02Order find the order of a unit. -/
import Derived.Test.YtbolmmgkmgmfeaaUnitPrimes
import Derived.Test.YtbolmmgkmgmfeaaResid2
namespace Go.Proofs.Ytbolmmgkmgmfeaa
open Go.RowKit
set_option linter.unusedVariables false
theorem intRow_form {base : Nat} {w : World} {v : Value} {l : List Int} (h : IntRow base w v l) : ∃ o c, v = .slice o l.length c := by
  rcases row_shape h with ⟨h0, o, c, rfl⟩ | ⟨h0, g, c, rfl, hb, hg⟩
  · exact ⟨o, c, by rw [h0]⟩
  · exact ⟨_, c, rfl⟩
theorem intRow_some {base : Nat} {w : World} {o : Option Addr} {c : Nat} {l : List Int} (h : IntRow base w (.slice o l.length c) l) (h0 : 0 < l.length) : ∃ g, o = some ⟨g, 0, none⟩ := by
  rcases row_shape h with ⟨h1, _⟩ | ⟨_, g, c', hv, hb, hg⟩
  · omega
  · cases hv; exact ⟨g, rfl⟩
def upAll (p : Int) : List Int := p :: (factT (p - 1)).map (·.1)
theorem upAll_two {p : Int} (hs : smallB p = true) : ∀ q ∈ upAll p, 2 ≤ q := by
  intro q hq
  rcases List.mem_cons.1 hq with rfl | h
  · exact (smallB_bd hs).1
  · obtain ⟨r, hr, rfl⟩ := List.mem_map.1 h
    exact (fact_small hs).1 r hr
theorem upAll_covers {p n : Int} (h : ringM p n ≠ 0) : Covers (unitN p n).toNat (upAll p) :=
  covers_of h (List.mem_cons_self) (fun r hr => List.mem_cons_of_mem _ (List.mem_map.2 ⟨r, hr, rfl⟩))
theorem upAll_len {p : Int} (hs : smallB p = true) : 1 ≤ (upAll p).length ∧ (upAll p).length ≤ 2001 := by
  have := smallB_bd hs
  have := factT_length (n := p - 1) (by omega) (by omega)
  simp [upAll]; omega
theorem upRow_of {p : Int} {l : List Int} {b b' : Nat} {w : World} {v : Value} (hl : upAll p = l) (h : IntRow b w v (p :: (factT (p - 1)).map (·.1))) (hb : b' ≤ b) : IntRow b' w v l := hl ▸ row_base h hb
theorem keep4 {w w1 w2 : World} {a b v : Value} {l : List Int} (h : Below w.heap.size w w1 ∧ w1.cell? ⟨w.heap.size, 0, none⟩ = some a ∧ w1.cell? ⟨w.heap.size, 1, none⟩ = some b ∧ IntRow w.heap.size w1 v l) (hb : Below w1.heap.size w1 w2) :
    Below w.heap.size w w2 ∧ w2.cell? ⟨w.heap.size, 0, none⟩ = some a ∧ w2.cell? ⟨w.heap.size, 1, none⟩ = some b ∧ IntRow w.heap.size w2 v l := by
  obtain ⟨h1, h2, h3⟩ := keep_next ⟨h.1, h.2.1, h.2.2.1⟩ hb
  exact ⟨h1, h2, h3, row_below h.2.2.2 hb (Nat.le_refl _)⟩
/-- what a round of taking a prime out needs -/
theorem take_facts {a m D : Int} {N : Nat} {l : List Int} {i : Nat} {q : Int} (h : ORel a m N l i D) (hq : l.getD i 2 = q) (h2 : 2 ≤ q) :
    1 ≤ D ∧ D ≤ 1000000000 ∧ D.tmod q = D % q ∧ D.tdiv q = D / q ∧ 0 ≤ D / q ∧ D / q ≤ 4000000000000000000 ∧ IntKind.i64.wrap (D / q) = D / q := by
  have h0 := h.1
  have h1 := h.2.1
  have h4 : 0 ≤ D / q := Int.ediv_nonneg (by omega) (by omega)
  have h5 : D / q ≤ D := Int.ediv_le_self _ (by omega)
  exact ⟨h0, h1, Int.tmod_eq_emod_of_nonneg (by omega), Int.tdiv_eq_ediv_of_nonneg (by omega), h4, by omega, IntWalk.i64_in _ ⟨by omega, by omega⟩⟩
theorem take_step {a m D : Int} {N : Nat} {l : List Int} {i : Nat} {q : Int} (hm : 2 ≤ m) (hl : ∀ q ∈ l, 2 ≤ q) (hi : i < l.length) (h : ORel a m N l i D) (hq : l.getD i 2 = q)
    (h0 : D % q = 0) (h1 : powM a (D / q).toNat m = 1) : ORel a m N l i (D / q) ∧ (D / q).toNat < D.toNat := by
  have h2 : 2 ≤ q := by rw [← hq, List.getD_eq_getElem?_getD, List.getElem?_eq_getElem hi]; exact hl _ (List.getElem_mem hi)
  obtain ⟨e1, e2, e3, e4, _⟩ := take_facts h hq h2
  have := oRel_take hm hl hi h (by rw [hq, e3]; exact h0) (by rw [hq, e4]; exact h1)
  rw [hq, e4] at this
  exact this
theorem take_next {a m D : Int} {N : Nat} {l : List Int} {i : Nat} {q : Int} (h : ORel a m N l i D) (hq : l.getD i 2 = q) (h2 : 2 ≤ q)
    (h0 : ¬ (D % q = 0 ∧ powM a (D / q).toNat m = 1)) : ORel a m N l (i + 1) D := by
  obtain ⟨e1, e2, e3, e4, _⟩ := take_facts h hq h2
  exact oRel_next h (by rw [hq, e3, e4]; exact h0)
set_option maxHeartbeats 1000000 in
theorem order_any (p n a : Int) (w : World) (h0 : ringM p n ≠ 0) (ha : 0 ≤ a ∧ a < ringM p n) (hu : a % p ≠ 0) :
    Calls Try.prog 44 #[.agg #[.int .i64 p, .int .i64 n], .int .i64 a] w fun e' w' => e' = .returned (.int .i64 (ordV a (ringM p n))) ∧ Below w.heap.size w w' := by
  have H0 := Lib.hid h0
  have hs := (ringM_in h0).1
  have HS := Lib.hid hs
  have HST : Hid (ORel a (ringM p n) (unitN p n).toNat (upAll p) 0 (unitN p n)) := by
    obtain ⟨j, _, _, _, u0, u1⟩ := unitN_eq h0
    exact oRel_start u0 u1 (euler h0 hu)
  obtain ⟨_, _, _, _, hm1, hm2, _⟩ := ringM_bd h0
  have H2 := Lib.hid (upAll_two hs)
  have HC := Lib.hid (upAll_covers h0)
  have hlen := upAll_len hs
  obtain ⟨l, hl⟩ : ∃ l, upAll p = l := ⟨_, rfl⟩
  rw [hl] at HST H2 HC hlen
  have hL := Lib.hid hl
  clear h0 hu hs hl
  go_enter Try.func44, Try.ntmps44
  go_wp2_with (first | (go_at_call 74; refine (countUnits_any _ _ _ H0.out).mono ?_; rintro e wn ⟨rfl, hb⟩; (first | have hH := keep_first hb | have hH := keep_next ⟨hB, c0, c1⟩ hb); obtain ⟨hB, c0, c1⟩ := hH) | (go_at_call 75; refine (unitPrimes_any _ _ _ HS.out).mono ?_; rintro e wn ⟨v, rfl, hrow0, hb⟩; have hH := keep_next ⟨hB, c0, c1⟩ hb; have hrow := upRow_of hL.out hrow0 hB.size; obtain ⟨o, cp, rfl⟩ := intRow_form hrow))
  obtain ⟨hB, c0, c1⟩ := hH
  have HRow := Lib.hid hrow
  have HB := Lib.hid (And.intro hB (And.intro c0 c1))
  clear hrow hB c0 c1 hb hL
  obtain ⟨g, rfl⟩ := intRow_some HRow.out (by omega)
  go_loopw [5, 13] (fun dv iv wr => ∃ (D : Int) (k : Nat), dv = .int .i64 D ∧ iv = .int .i64 k ∧ k ≤ l.length ∧ ORel a (ringM p n) (unitN p n).toNat l k D ∧ Below w.heap.size w wr ∧ wr.cell? ⟨w.heap.size, 0, none⟩ = some (.int .i64 p) ∧ wr.cell? ⟨w.heap.size, 1, none⟩ = some (.int .i64 n) ∧ IntRow w.heap.size wr (.slice (some ⟨g, 0, none⟩) l.length cp) l) (fun _ iv _ => l.length - (intOf iv).toNat)
  case atStart => exact ⟨_, 0, rfl, rfl, Nat.zero_le _, HST.out, HB.out.1, HB.out.2.1, HB.out.2.2, HRow.out⟩
  case round =>
    obtain ⟨D0, k, rfl, rfl, hk, ho0, hS⟩ := hrel
    have HO0 := Lib.hid ho0
    have HS0 := Lib.hid hS
    clear ho0 HST HB HRow
    by_cases hlt : k < l.length
    · have cq := int_cells hS.2.2.2 k hlt
      obtain ⟨q, hq⟩ : ∃ q, l.getD k 0 = q := ⟨_, rfl⟩
      rw [hq] at cq
      have hq' : l.getD k 2 = q := by rw [← hq, List.getD_eq_getElem?_getD, List.getD_eq_getElem?_getD, List.getElem?_eq_getElem hlt]; rfl
      have hq2 : 2 ≤ q := by rw [← hq', List.getD_eq_getElem?_getD, List.getElem?_eq_getElem hlt]; exact H2.out _ (List.getElem_mem hlt)
      have HQ := Lib.hid hq'
      clear hq hq' hS
      go_wp2
      go_loopw [5] (fun dv wz => ∃ D : Int, dv = .int .i64 D ∧ ORel a (ringM p n) (unitN p n).toNat l k D ∧ Below w.heap.size w wz ∧ wz.cell? ⟨w.heap.size, 0, none⟩ = some (.int .i64 p) ∧ wz.cell? ⟨w.heap.size, 1, none⟩ = some (.int .i64 n) ∧ IntRow w.heap.size wz (.slice (some ⟨g, 0, none⟩) l.length cp) l) (fun dv _ => (intOf dv).toNat)
      case atStart => exact ⟨D0, rfl, HO0.out, HS0.out⟩
      case round =>
        obtain ⟨D, rfl, hd, hS⟩ := hrel
        obtain ⟨d1, d2, _, wt, d3, d4, wq⟩ := take_facts hd HQ.out hq2
        have he' := And.intro d3 d4
        have hz : ¬ q = 0 := by omega
        have hz' : (q == 0) = false := by simp [hz]
        have HD := Lib.hid hd
        have HS1 := Lib.hid hS
        clear hd HS0 HO0
        by_cases hm : D % q = 0
        · have hm' : (D % q == 0) = true := by simp [hm]
          obtain ⟨hB, c0, c1, hR⟩ := hS
          by_cases hp1 : powM a (D / q).toNat (ringM p n) = 1
          · have hp' : (powM a (D / q).toNat (ringM p n) == 1) = true := by simp [hp1]
            have HN := Lib.hid (take_step hm1 H2.out hlt HD.out HQ.out hm hp1)
            clear hm hp1
            go_wp2_with fail
            go_region_held3 (fun w' => Below w.heap.size w w' ∧ w'.cell? ⟨w.heap.size, 0, none⟩ = some (.int .i64 p) ∧ w'.cell? ⟨w.heap.size, 1, none⟩ = some (.int .i64 n) ∧ IntRow w.heap.size w' (.slice (some ⟨g, 0, none⟩) l.length cp) l) (first | exact ⟨below_drewN hB 1, c0, c1, hR⟩ | exact keep4 ‹_› hb | assumption) (first | (go_at_call 76; refine (power_any _ _ _ _ _ H0.out ha he').mono ?_; rintro e wn ⟨rfl, hb⟩))
            all_goals (clear hB c0 c1 hR)
            all_goals go_wp2
            all_goals exact ⟨⟨_, rfl, HN.out.1, ‹_›⟩, by simpa only [intOf] using HN.out.2⟩
          · have hp' : (powM a (D / q).toNat (ringM p n) == 1) = false := by simp [hp1]
            have HN := Lib.hid (take_next HD.out HQ.out hq2 (fun h => hp1 h.2))
            clear hm hp1
            go_wp2_with fail
            go_region_held3 (fun w' => Below w.heap.size w w' ∧ w'.cell? ⟨w.heap.size, 0, none⟩ = some (.int .i64 p) ∧ w'.cell? ⟨w.heap.size, 1, none⟩ = some (.int .i64 n) ∧ IntRow w.heap.size w' (.slice (some ⟨g, 0, none⟩) l.length cp) l) (first | exact ⟨below_drewN hB 1, c0, c1, hR⟩ | exact keep4 ‹_› hb | assumption) (first | (go_at_call 76; refine (power_any _ _ _ _ _ H0.out ha he').mono ?_; rintro e wn ⟨rfl, hb⟩))
            all_goals (clear hB c0 c1 hR)
            all_goals go_wp2
            all_goals go_roundw
            case rel => exact ⟨_, k + 1, rfl, by go_num, by omega, HN.out, ‹_›⟩
            case measure => simp [intOf]; omega
        · have hm' : (D % q == 0) = false := by simp [hm]
          have HN := Lib.hid (take_next HD.out HQ.out hq2 (fun h => hm h.1))
          obtain ⟨hB, c0, c1, hR⟩ := hS
          clear hm
          go_wp2_with fail
          go_quiet (fail)
          go_wp2
          go_roundw
          case rel => exact ⟨_, k + 1, rfl, by go_num, by omega, HN.out, below_drewN hB _, c0, c1, hR⟩
          case measure => simp [intOf]; omega
    · have hkm : k = l.length := by omega
      subst hkm
      have HF := Lib.hid (ordV_eq (by have := HO0.out.1; omega) (oRel_end hm1 HC.out HO0.out))
      clear hS
      go_wp2
      go_ret
      exact ⟨ret_int HF.out.symm, HS0.out.1⟩
end Go.Proofs.Ytbolmmgkmgmfeaa
