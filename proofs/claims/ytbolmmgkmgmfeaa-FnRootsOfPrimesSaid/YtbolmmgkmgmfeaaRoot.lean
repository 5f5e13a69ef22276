/- Contracts of the walk: both PrimitiveRoot and the law FnExactPrimitiveRoot. -/
import Derived.Test.YtbolmmgkmgmfeaaOrderOf
namespace Go.Proofs.Ytbolmmgkmgmfeaa
open Go.RowKit
set_option linter.unusedVariables false
theorem ringM_one {p : Int} (hs : smallB p = true) : ringM p 1 = p := by
  obtain ⟨h1, h2⟩ := smallB_bd hs
  have e : p ^ (1 : Int).toNat = p := ipow_one p
  unfold ringM
  rw [e, hs]
  simp; omega
theorem ringC_one (p : Int) : ringC p 1 = if smallB p then 0 else 1 := by
  unfold ringC
  cases hs : smallB p
  · simp [ringM_small hs]
  · have := smallB_bd hs
    rw [ringM_one hs]; simp; omega
theorem root_unique {p : Int} {g h : Nat} (hg : IsRoot p g) (hh : IsRoot p h) : g = h := by
  rcases Nat.lt_trichotomy g h with h1 | h1 | h1
  · exact absurd hg.2.2.1 (hh.2.2.2 g hg.1 h1)
  · exact h1
  · exact absurd hh.2.2.1 (hg.2.2.2 h hh.1 h1)
open Classical in
noncomputable def rootV (p : Int) : Int := if h : ∃ g, IsRoot p g then ((Classical.choose h : Nat) : Int) else 0
theorem rootV_eq {p : Int} {g : Nat} (h : IsRoot p g) : rootV p = g := by
  unfold rootV
  have hex : ∃ g, IsRoot p g := ⟨_, h⟩
  rw [dif_pos hex, root_unique (Classical.choose_spec hex) h]
def prC (p : Int) : Int := if smallB p then 0 else 1
noncomputable def prV (p : Int) : Int := if smallB p then rootV p else 0
theorem unit_small {p : Int} {a : Nat} (h1 : 1 ≤ a) (h2 : (a : Int) < p) : (a : Int) % p ≠ 0 := by
  rw [Int.emod_eq_of_lt (by omega) h2]; omega
theorem ringByR_any (p : Int) (w : World) :
    Calls Try.prog 42 #[.int .i64 p] w fun e w' => e = .returned (.agg #[.int .i64 p, .int .i64 1]) ∧ Below w.heap.size w w' := by
  have hb : Below w.heap.size w (w.alloc (.cells #[.int .i64 p, .int .i64 1] 36)) := (Below.refl _ _).alloc (Nat.le_refl _) _
  go_enter Try.func42, Try.ntmps42
  go_wp2
  exact bodyPost_ret (v := .agg #[.int .i64 p, .int .i64 1]) (by simp [results, Try.results42, go_sem]) rfl ⟨rfl, hb⟩
set_option maxHeartbeats 400000 in
theorem implRoot_any (p : Int) (w : World) :
    Calls Try.prog 12 #[.int .i64 p] w fun e w' => e = .returned (.tuple #[.int .i64 (prV p), .int .i64 (prC p)]) ∧ Below w.heap.size w w' := by
  have hc := ringC_one p
  cases hs : smallB p
  · rw [hs] at hc
    have hk : (ringC p 1 == 0) = false := by rw [hc]; rfl
    rw [show prV p = 0 by simp [prV, hs], show prC p = 1 by simp [prC, hs]]
    have HC : Hid (ringC p 1 = 1) := hc
    clear hc
    go_enter Try.func12, Try.ntmps12
    go_wp2_with (first | (go_at_call 42; refine (ringByR_any p w).mono ?_; rintro e w1 ⟨rfl, hb1⟩) | (go_at_call 43; refine (checkNil_any _ _ _).mono ?_; rintro e wn ⟨rfl, hb⟩; (first | have hH := keep_first hb | have hH := keep_next ⟨hB, c0, c1⟩ hb); obtain ⟨hB, c0, c1⟩ := hH))
    go_ret2
    exact ⟨ret_int2 rfl HC.out, hb1.trans (hB.mono hb1.size)⟩
  · rw [hs] at hc
    have hk : (ringC p 1 != 0) = false := by rw [hc]; rfl
    rw [show prV p = rootV p by simp [prV, hs], show prC p = 0 by simp [prC, hs]]
    clear hc
    obtain ⟨g, hg⟩ := root_least hs
    have HV := Lib.hid (rootV_eq hg)
    have hg1 := hg.1
    have hg2 := hg.2.1
    have HG := Lib.hid hg
    have HM := Lib.hid (ringM_one hs)
    obtain ⟨hp2, hp97⟩ := smallB_bd hs
    have H0 : Hid (ringM p 1 ≠ 0) := by show ringM p 1 ≠ 0; rw [HM.out]; omega
    clear hs hg
    go_enter Try.func12, Try.ntmps12
    go_wp2_with (first | (go_at_call 42; refine (ringByR_any p w).mono ?_; rintro e w1 ⟨rfl, hb1⟩) | (go_at_call 43; refine (checkNil_any _ _ _).mono ?_; rintro e wn ⟨rfl, hb⟩; (first | have hH := keep_first hb | have hH := keep_next ⟨hB, c0, c1⟩ hb); obtain ⟨hB, c0, c1⟩ := hH))
    have HB1 := Lib.hid hb1
    clear hb hb1
    go_loopw [6] (fun av wr => ∃ k : Nat, av = .int .i64 k ∧ 1 ≤ k ∧ k ≤ g ∧ Below w1.heap.size w1 wr ∧ wr.cell? ⟨w1.heap.size, 0, none⟩ = some (.int .i64 p) ∧ wr.cell? ⟨w1.heap.size, 1, none⟩ = some (.int .i64 1)) (fun av _ => g - (intOf av).toNat)
    case atStart => exact ⟨1, rfl, by omega, by omega, hB, c0, c1⟩
    case round =>
      clear hB c0 c1
      obtain ⟨k, rfl, hk1, hkg, hB, c0, c1⟩ := hrel
      have ha : 0 ≤ (k : Int) ∧ (k : Int) < ringM p 1 := by rw [HM.out]; omega
      have HU := Lib.hid (unit_small (p := p) hk1 (by omega))
      by_cases he : k = g
      · have hv : (ordV (k : Int) (ringM p 1) != p - 1) = false := by rw [HM.out, he, HG.out.2.2.1]; simp
        have HF : Hid (rootV p = (k : Int)) := by show rootV p = (k : Int); rw [HV.out, he]
        clear he
        go_wp2_with (first | (go_at_call 44; refine (order_any _ _ _ _ H0.out ha HU.out).mono ?_; rintro e' wn ⟨rfl, hb⟩; (first | have hH := keep_first hb | have hH := keep_next ⟨hB, c0, c1⟩ hb); obtain ⟨hB, c0, c1⟩ := hH))
        go_ret2
        exact ⟨ret_int2 HF.out.symm rfl, HB1.out.trans (hB.mono HB1.out.size)⟩
      · have hv : (ordV (k : Int) (ringM p 1) != p - 1) = true := by rw [HM.out]; simpa using HG.out.2.2.2 k hk1 (by omega)
        go_wp2_with (first | (go_at_call 44; refine (order_any _ _ _ _ H0.out ha HU.out).mono ?_; rintro e' wn ⟨rfl, hb⟩; (first | have hH := keep_first hb | have hH := keep_next ⟨hB, c0, c1⟩ hb); obtain ⟨hB, c0, c1⟩ := hH))
        go_roundw
        case rel => exact ⟨k + 1, by go_num, by omega, by omega, hB, c0, c1⟩
        case measure => simp [intOf]; omega
set_option maxHeartbeats 400000 in
theorem specRoot_any (p : Int) (w : World) :
    Calls Try.prog 13 #[.int .i64 p] w fun e w' => e = .returned (.tuple #[.int .i64 (prV p), .int .i64 (prC p)]) ∧ Below w.heap.size w w' := by
  cases hs : smallB p
  · rw [show prV p = 0 by simp [prV, hs], show prC p = 1 by simp [prC, hs]]
    go_enter Try.func13, Try.ntmps13
    go_wp2_with (first | (go_at_call 45; refine (l01Small_any _ _).mono ?_; rintro e wn ⟨rfl, rfl⟩))
    go_ret2
    exact ⟨rfl, Below.refl _ _⟩
  · rw [show prV p = rootV p by simp [prV, hs], show prC p = 0 by simp [prC, hs]]
    obtain ⟨g, hg⟩ := root_least hs
    have HV := Lib.hid (rootV_eq hg)
    have hg1 := hg.1
    have hg2 := hg.2.1
    have HG := Lib.hid hg
    have HM := Lib.hid (ringM_one hs)
    obtain ⟨hp2, hp97⟩ := smallB_bd hs
    have H0 : Hid (ringM p 1 ≠ 0) := by show ringM p 1 ≠ 0; rw [HM.out]; omega
    clear hg
    go_enter Try.func13, Try.ntmps13
    go_wp2_with (first | (go_at_call 45; refine (l01Small_any _ _).mono ?_; rintro e wn ⟨rfl, rfl⟩))
    clear hs
    go_loopw [4] (fun av wr => ∃ k : Nat, av = .int .i64 k ∧ 1 ≤ k ∧ k ≤ g ∧ Below w.heap.size w wr) (fun av _ => g - (intOf av).toNat)
    case atStart => exact ⟨1, rfl, by omega, by omega, Below.refl _ _⟩
    case round =>
      obtain ⟨k, rfl, hk1, hkg, hB⟩ := hrel
      have ha : 0 ≤ (k : Int) ∧ (k : Int) < ringM p 1 := by rw [HM.out]; omega
      have HU := Lib.hid (unit_small (p := p) hk1 (by omega))
      by_cases he : k = g
      · have hv : (ordV (k : Int) (ringM p 1) != p - 1) = false := by rw [HM.out, he, HG.out.2.2.1]; simp
        have HF : Hid (rootV p = (k : Int)) := by show rootV p = (k : Int); rw [HV.out, he]
        clear he
        go_wp2_with (first | (go_at_call 46; refine (l02Order_any _ _ _ _ H0.out ha HU.out).mono ?_; rintro e' wn ⟨rfl, hb⟩))
        go_ret2
        exact ⟨ret_int2 HF.out.symm rfl, hB.trans (hb.mono hB.size)⟩
      · have hv : (ordV (k : Int) (ringM p 1) != p - 1) = true := by rw [HM.out]; simpa using HG.out.2.2.2 k hk1 (by omega)
        go_wp2_with (first | (go_at_call 46; refine (l02Order_any _ _ _ _ H0.out ha HU.out).mono ?_; rintro e' wn ⟨rfl, hb⟩))
        go_roundw
        case rel => exact ⟨k + 1, by go_num, by omega, by omega, hB.trans (hb.mono hB.size)⟩
        case measure => simp [intOf]; omega
theorem exactRoot_walk (p : Int) (_ : (Lit.int .i64 p).wf = true) (w : World) :
    Calls Try.prog 4 #[.int .i64 p] w fun e w' => e = .returned (.bool true) ∧ Below w.heap.size w w' := by
  go_enter Try.func4, Try.ntmps4
  go_wp2_with (first | (go_at_call 13; refine (specRoot_any _ _).mono ?_; rintro e w1 ⟨rfl, h1⟩) | (go_at_call 12; refine (implRoot_any _ _).mono ?_; rintro e w2 ⟨rfl, h2⟩))
  go_ret
  exact ⟨rfl, ring_two h1 h2⟩
end Go.Proofs.Ytbolmmgkmgmfeaa
