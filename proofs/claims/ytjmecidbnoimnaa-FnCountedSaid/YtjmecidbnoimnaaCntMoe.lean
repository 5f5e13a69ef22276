/- Contracts of the walk: chapter 10: MoebiusOf of both sides, and the walk of its exact law. -/
import Derived.Test.YtjmecidbnoimnaaCntSq
namespace Go.Proofs.Ytjmecidbnoimnaa
open Go.RowKit
set_option linter.unusedVariables false
set_option linter.unusedSimpArgs false
set_option maxRecDepth 20000
theorem mobL_none {l : List (Int × Int)} (h : sqB (l.take l.length) = false) : mobL l = if l.length % 2 = 1 then -1 else 1 := by
  rw [List.take_length] at h
  rw [mobL, h]; rfl
theorem mobL_sq {l : List (Int × Int)} (h : sqB l = true) : mobL l = 0 := by rw [mobL, h]; rfl
theorem pow_seen {b : Nat} {w : World} {v : Value} {l : List (Int × Int)} (h : PowRow b w v l) :
    ∃ o c g, v = .slice o l.length c ∧ (0 < l.length → o = some ⟨g, 0, none⟩ ∧ g < w.heap.size) ∧ ∀ k, k < l.length → w.cell? ⟨g, k * 2, none⟩ = some (.int .i64 (l.getD k (0, 0)).1) ∧ w.cell? ⟨g, k * 2 + 1, none⟩ = some (.int .i64 (l.getD k (0, 0)).2) := by
  rcases row_shape h with ⟨hz, o, c, rfl⟩ | ⟨hz, g, c, rfl, hgb, hg⟩
  · exact ⟨o, c, 0, by rw [hz], fun h => by omega, fun k hk => by omega⟩
  · exact ⟨_, c, g, rfl, fun _ => ⟨rfl, hg⟩, pow_cells h⟩
set_option maxHeartbeats 1000000 in
theorem l10Moebius_any (n : Int) (w : World) (h1 : 1 ≤ n) (h2 : n ≤ 1000000) :
    Calls Try.prog 68 #[.int .i64 n] w fun e w' => e = .returned (.int .i64 (mobL (factT n))) ∧ Below w.heap.size w w' := by
  have HF := Lib.hid fun w => l01Factor_any n w h1 h2
  have HL := Lib.hid (factT_length h1 h2)
  generalize factT n = l at *
  go_enter Try.func68, Try.ntmps68
  go_wp2_with fail
  refine (HF.out _).mono ?_
  rintro e W ⟨v, rfl, hr, hb⟩
  have hl := HL.out
  have HB := Lib.hid hb
  clear hb
  obtain ⟨o, c, g, rfl, ho, hc⟩ := pow_seen hr
  have HO := Lib.hid ho
  have HC := Lib.hid hc
  clear hr ho hc
  go_wp2
  go_loop [4] (fun i => ∃ k : Nat, k ≤ l.length ∧ i = .int .i64 k ∧ sqB (l.take k) = false) (fun i => l.length - (intOf i).toNat)
  case atStart => exact ⟨0, Nat.zero_le _, rfl, rfl⟩
  case round =>
    obtain ⟨k, hk, rfl, hs⟩ := hrel
    by_cases hlt : k < l.length
    · obtain ⟨c0, c1⟩ := HC.out k hlt
      obtain ⟨rfl, hgs⟩ := HO.out (by omega)
      have HT := Lib.hid (sq_take hlt)
      have HA := Lib.hid fun h => mobL_sq (sq_all hlt h)
      generalize l.getD k (0, 0) = q at *
      obtain ⟨q, e⟩ := q
      simp only at c0 c1 HT HA
      have hkl : (k : Int) < (l.length : Int) := by omega
      by_cases he : 1 < e
      · have HZ := Lib.hid (HA.out he)
        clear HT HA
        go_wp2
        go_ret
        rw [HZ.out]; exact ⟨rfl, HB.out⟩
      · have HN := Lib.hid (show sqB (l.take (k + 1)) = false by rw [HT.out, hs]; simp; omega)
        clear HT HA
        go_wp2
        exact ⟨⟨k + 1, by omega, rfl, HN.out⟩, by simp only [intOf]; omega⟩
    · obtain rfl : k = l.length := by omega
      have HM := Lib.hid (mobL_none hs)
      clear hs
      by_cases hp : l.length % 2 = 1
      · have HR := Lib.hid (show mobL l = -1 by rw [HM.out, if_pos hp])
        have ht : Int.tmod (l.length : Int) 2 = 1 := by rw [Int.tmod_eq_emod_of_nonneg (by omega)]; omega
        clear HM
        go_wp2
        go_ret
        rw [HR.out]; exact ⟨rfl, HB.out⟩
      · have HR := Lib.hid (show mobL l = 1 by rw [HM.out, if_neg hp])
        have ht : Int.tmod (l.length : Int) 2 = 0 := by rw [Int.tmod_eq_emod_of_nonneg (by omega)]; omega
        clear HM
        go_wp2
        go_ret
        rw [HR.out]; exact ⟨rfl, HB.out⟩
set_option maxHeartbeats 1000000 in
theorem implMoe_val (n : Int) (w : World) (h1 : 1 ≤ n) (h2 : n ≤ 1000000) :
    Calls Try.prog 25 #[.int .i64 n] w fun e w' => e = .returned (.tuple #[.int .i64 (mobL (factT n)), .int .i64 0]) ∧ Below w.heap.size w w' := by
  have HF := Lib.hid fun w => implFact_val n w h1 h2
  have HL := Lib.hid (factT_length h1 h2)
  generalize factT n = l at *
  go_enter Try.func25, Try.ntmps25
  go_wp2_with fail
  refine (HF.out _).mono ?_
  rintro e W ⟨v, rfl, hr, hb⟩
  have hl := HL.out
  have HB := Lib.hid hb
  clear hb
  obtain ⟨o, c, g, rfl, ho, hc⟩ := pow_seen hr
  have HO := Lib.hid ho
  have HC := Lib.hid hc
  clear hr ho hc
  go_wp2
  go_loopw [6, 19] (fun m i wr => ∃ k : Nat, k ≤ l.length ∧ i = .int .i64 k ∧ m = .int .i64 (sgN k) ∧ sqB (l.take k) = false ∧ Below W.heap.size W wr) (fun _ i _ => l.length - (intOf i).toNat)
  case atStart => exact ⟨0, Nat.zero_le _, rfl, rfl, rfl, Below.refl _ _⟩
  case round =>
    obtain ⟨k, hk, rfl, rfl, hs, hbr⟩ := hrel
    have HBR := Lib.hid hbr
    clear hbr
    by_cases hlt : k < l.length
    · obtain ⟨c0, c1⟩ := HC.out k hlt
      obtain ⟨rfl, hgs⟩ := HO.out (by omega)
      rw [← HBR.out.cell (p := ⟨g, k * 2, none⟩) hgs] at c0
      rw [← HBR.out.cell (p := ⟨g, k * 2 + 1, none⟩) hgs] at c1
      have HT := Lib.hid (sq_take hlt)
      have HA := Lib.hid fun h => mobL_sq (sq_all hlt h)
      generalize l.getD k (0, 0) = q at *
      obtain ⟨q, e⟩ := q
      simp only at c0 c1 HT HA
      have hkl : (k : Int) < (l.length : Int) := by omega
      have hsg : sgN k = 1 ∨ sgN k = -1 := by unfold sgN; split <;> simp
      have HSG := Lib.hid (sgN_succ k)
      generalize sgN k = s at *
      by_cases he : 1 < e
      · have HZ := Lib.hid (HA.out he)
        clear HT HA
        go_wp2
        go_ret2
        rw [HZ.out]; exact ⟨rfl, HB.out.trans ((HBR.out.alloc HBR.out.size _).mono HB.out.size)⟩
      · have HN := Lib.hid (show sqB (l.take (k + 1)) = false by rw [HT.out, hs]; simp; omega)
        clear HT HA
        go_wp2
        go_roundw
        case rel => exact ⟨k + 1, by omega, rfl, by rw [HSG.out], HN.out, HBR.out.alloc HBR.out.size _⟩
        case measure => simp only [intOf]; omega
    · obtain rfl : k = l.length := by omega
      have HM := Lib.hid (mobL_none hs)
      have HSG := Lib.hid (show sgN l.length = mobL l by rw [HM.out]; rfl)
      clear hs
      generalize sgN l.length = s at *
      go_wp2
      go_ret2
      rw [HSG.out]; exact ⟨rfl, HB.out.trans (HBR.out.mono HB.out.size)⟩
def moeQ (n : Int) : Int := if inB n 1 1000000 then mobL (factT n) else 0
def moeC (n : Int) : Int := if inB n 1 1000000 then 0 else 2
theorem specMoe_any (n : Int) (w : World) :
    Calls Try.prog 26 #[.int .i64 n] w fun e w' => e = .returned (.tuple #[.int .i64 (moeQ n), .int .i64 (moeC n)]) ∧ Below w.heap.size w w' := by
  unfold moeQ moeC
  by_cases h : 1 ≤ n ∧ n ≤ 1000000
  · have e := inB_t h.1 h.2
    rw [if_pos e, if_pos e]
    have HM := Lib.hid fun w => l10Moebius_any n w h.1 h.2
    generalize mobL (factT n) = q at *
    clear h
    go_enter Try.func26, Try.ntmps26
    go_wp2_with (first | (go_at_call 64; refine (in_any _ _ _ _).mono ?_; rintro e w' ⟨rfl, rfl⟩) | (go_at_call 68; refine (HM.out _).mono ?_; rintro e w' ⟨rfl, hb⟩; have HB := Lib.hid hb; clear hb))
    go_ret2
    exact ⟨rfl, HB.out⟩
  · have e := inB_f (n := n) (lo := 1) (hi := 1000000) (by omega)
    rw [e]
    clear h
    go_enter Try.func26, Try.ntmps26
    go_wp2_with (go_at_call 64; refine (in_any _ _ _ _).mono ?_; rintro e w' ⟨rfl, rfl⟩)
    go_ret2
    exact ⟨rfl, Below.refl _ _⟩
theorem implMoe_any (n : Int) (w : World) :
    Calls Try.prog 25 #[.int .i64 n] w fun e w' => e = .returned (.tuple #[.int .i64 (moeQ n), .int .i64 (moeC n)]) ∧ Below w.heap.size w w' := by
  unfold moeQ moeC
  by_cases h : 1 ≤ n ∧ n ≤ 1000000
  · have e := inB_t h.1 h.2
    rw [if_pos e, if_pos e]
    exact implMoe_val n w h.1 h.2
  · have e := inB_f (n := n) (lo := 1) (hi := 1000000) (by omega)
    rw [e]
    have HF := Lib.hid fun w => implFact_no n w (by omega)
    clear h
    go_enter Try.func25, Try.ntmps25
    go_wp2_with fail
    refine (HF.out _).mono ?_
    rintro e W ⟨v, rfl, hr, hb⟩
    have HB := Lib.hid hb
    clear hb hr
    go_wp2
    go_ret2
    exact ⟨rfl, HB.out⟩
theorem exactMoe_walk (n : Int) (_ : (Lit.int .i64 n).wf = true) (w : World) :
    Calls Try.prog 6 #[.int .i64 n] w fun e w' => e = .returned (.bool true) ∧ Below w.heap.size w w' := by
  have HS := Lib.hid fun w => specMoe_any n w
  have HI := Lib.hid fun w => implMoe_any n w
  generalize moeQ n = q at *
  generalize moeC n = c at *
  go_enter Try.func6, Try.ntmps6
  go_wp2_with fail
  refine (HS.out _).mono ?_
  rintro e W1 ⟨rfl, b1⟩
  have B1 := Lib.hid b1
  clear b1
  go_wp2_with fail
  refine (HI.out _).mono ?_
  rintro e W2 ⟨rfl, b2⟩
  have B2 := Lib.hid (B1.out.trans (b2.mono B1.out.size))
  clear b2
  go_wp2
  go_ret
  exact ⟨rfl, B2.out⟩
end Go.Proofs.Ytjmecidbnoimnaa
