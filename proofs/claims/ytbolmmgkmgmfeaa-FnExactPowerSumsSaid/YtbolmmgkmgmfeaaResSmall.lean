/- Contracts of the walk: chapter 7: small polynomials, and the codes of lists that have to be small (impl and spec). -/
import Derived.Test.YtbolmmgkmgmfeaaPolyImpl
namespace Go.Proofs.Ytbolmmgkmgmfeaa
open Go.RowKit
set_option linter.unusedVariables false
set_option linter.unusedSimpArgs false
set_option maxRecDepth 20000
def smlB (l : List Int) : Bool := polyB l && (decide (2 ≤ l.length) && (decide (l.length ≤ 5) && withB 60 l))
theorem smlB_of {l : List Int} (h : smlB l = true) : polyB l = true ∧ 2 ≤ l.length ∧ l.length ≤ 5 ∧ ∀ i, -60 ≤ l.getD i 0 ∧ l.getD i 0 ≤ 60 := by
  simp only [smlB, Bool.and_eq_true, decide_eq_true_eq] at h
  obtain ⟨h1, h2, h3, h4⟩ := h
  refine ⟨h1, h2, h3, fun i => ?_⟩
  by_cases hi : i < l.length
  · have := List.all_eq_true.1 h4 (l.getD i 0) (by simp [List.getD, hi])
    simp only [inB, Bool.and_eq_true, decide_eq_true_eq] at this
    exact this
  · rw [show l.getD i 0 = 0 by simp [List.getD, show l.length ≤ i by omega]]; omega
def codS (f : List Int) : Int := if polyB f then (if smlB f then 0 else 2) else 1
def codS2 (f g : List Int) : Int := if polyB f && polyB g then (if smlB f && smlB g then 0 else 2) else 1
set_option maxHeartbeats 800000 in
theorem implIsSmall_any {o : Option Addr} {n c : Nat} {l : List Int} {w : World} (h : Seen w o n c l) :
    Calls Try.prog 29 #[.slice o n c] w fun e w' => e = .returned (.bool (smlB l)) ∧ w = w' := by
  have HS := Lib.hid h
  have hl := h.1
  clear h
  cases hp : polyB l
  · have HP := Lib.hid (show smlB l = false by rw [smlB, hp, Bool.false_and])
    clear hl
    go_enter Try.func29, Try.ntmps29
    go_wp2_with fail
    refine (implIsPoly_any HS.out).mono ?_
    rw [hp]
    rintro e w2 ⟨rfl, rfl⟩
    go_wp2_with fail
    go_ret
    rw [HP.out]; exact ⟨rfl, rfl⟩
  · by_cases h2 : n < 2
    · have HP := Lib.hid (show smlB l = false by rw [smlB, hp, decide_eq_false (by omega)]; rfl)
      have h2' : ¬ 2 ≤ n := by omega
      clear hl
      go_enter Try.func29, Try.ntmps29
      go_wp2_with fail
      refine (implIsPoly_any HS.out).mono ?_
      rw [hp]
      rintro e w2 ⟨rfl, rfl⟩
      go_wp2_with fail
      go_ret
      rw [HP.out]; exact ⟨rfl, rfl⟩
    · by_cases h5 : n ≤ 5
      · have HP := Lib.hid (show smlB l = withB 60 l by rw [smlB, hp, decide_eq_true (show 2 ≤ l.length by omega), decide_eq_true (show l.length ≤ 5 by omega)]; simp)
        have h2' : 2 ≤ n := by omega
        clear hl
        go_enter Try.func29, Try.ntmps29
        go_wp2_with fail
        refine (implIsPoly_any HS.out).mono ?_
        rw [hp]
        rintro e w2 ⟨rfl, rfl⟩
        go_wp2_with fail
        refine (within_any 60 (by omega) (by omega) HS.out).mono ?_
        rintro e w2 ⟨rfl, rfl⟩
        go_wp2_with fail
        go_ret
        rw [HP.out]; exact ⟨rfl, rfl⟩
      · have HP := Lib.hid (show smlB l = false by rw [smlB, hp, decide_eq_false (show ¬ l.length ≤ 5 by omega)]; simp)
        have h2' : 2 ≤ n := by omega
        clear hl
        go_enter Try.func29, Try.ntmps29
        go_wp2_with fail
        refine (implIsPoly_any HS.out).mono ?_
        rw [hp]
        rintro e w2 ⟨rfl, rfl⟩
        go_wp2_with fail
        go_ret
        rw [HP.out]; exact ⟨rfl, rfl⟩
set_option maxHeartbeats 800000 in
theorem specIsSmall_any {o : Option Addr} {n c : Nat} {l : List Int} {w : World} (h : Seen w o n c l) :
    Calls Try.prog 27 #[.slice o n c] w fun e w' => e = .returned (.bool (smlB l)) ∧ w = w' := by
  have HS := Lib.hid h
  obtain ⟨hl, hn, hno, hnc, g, h1, h2⟩ := h
  clear hno hnc
  have HO := Lib.hid fun h => (h1 h).1
  have HL := Lib.hid hl
  have HC := Lib.hid h2
  clear h1 h2 hl
  go_enter Try.func27, Try.ntmps27
  go_wp2_with fail
  go_loop [3] (fun i => ∃ k : Nat, k ≤ n ∧ i = .int .i64 k ∧ (l.take k).all (fun x => inB x (-60) 60) = true) (fun i => n - (intOf i).toNat)
  case atStart => exact ⟨0, Nat.zero_le _, rfl, by simp⟩
  case round =>
    obtain ⟨k, hk, rfl, hall⟩ := hrel
    by_cases hlt : k < n
    · have hkl : k < l.length := by have := HL.out; omega
      have hog := HO.out (by omega)
      subst hog
      have a2 := HC.out k hlt
      have HA := Lib.hid (all_take6 (f := fun x => inB x (-60) 60) hkl)
      cases hc : inB (l.getD k 0) (-60) 60
      · have HP := Lib.hid (show smlB l = false by
          rw [smlB, show withB 60 l = false by unfold withB; exact all_false hkl hc]; simp)
        generalize l.getD k 0 = x at *
        clear hkl hall
        go_wp2_with fail
        refine (in_any x (-60) 60 w).mono ?_
        rw [hc]
        rintro e w2 ⟨rfl, rfl⟩
        go_wp2_with fail
        go_ret
        rw [HP.out]; exact ⟨rfl, rfl⟩
      · have HE := Lib.hid (show (l.take (k + 1)).all (fun x => inB x (-60) 60) = true by rw [HA.out, hall]; simpa using hc)
        generalize l.getD k 0 = x at *
        clear hkl hall
        go_wp2_with fail
        refine (in_any x (-60) 60 w).mono ?_
        rw [hc]
        rintro e w2 ⟨rfl, rfl⟩
        go_wp2_with fail
        exact ⟨⟨k + 1, by omega, by go_num, HE.out⟩, by simp [intOf]; omega⟩
    · have hkn : k = n := by omega
      rw [hkn, HL.out, List.take_of_length_le (Nat.le_refl _)] at hall
      have HW := Lib.hid (show withB 60 l = true from hall)
      clear hlt hall
      subst hkn
      cases hp : polyB l
      · have HP := Lib.hid (show smlB l = false by rw [smlB, hp, Bool.false_and])
        go_wp2_with fail
        refine (specIsPoly_any HS.out).mono ?_
        rw [hp]
        rintro e w2 ⟨rfl, rfl⟩
        go_wp2_with fail
        go_ret
        rw [HP.out]; exact ⟨rfl, rfl⟩
      · have HP := Lib.hid (show smlB l = inB (k : Int) 2 5 by
          rw [smlB, hp, HW.out, HL.out]
          simp only [inB, Bool.true_and, Bool.and_true]
          congr 1 <;> exact decide_eq_decide.2 (by omega))
        go_wp2_with fail
        refine (specIsPoly_any HS.out).mono ?_
        rw [hp]
        rintro e w2 ⟨rfl, rfl⟩
        go_wp2_with fail
        refine (in_any (k : Int) 2 5 w).mono ?_
        rintro e w2 ⟨rfl, rfl⟩
        go_wp2_with fail
        go_ret
        rw [HP.out]; exact ⟨rfl, rfl⟩
set_option maxHeartbeats 1000000 in
theorem checkSmall1 {b : Nat} {of : Option Addr} {nf cf : Nat} {f : List Int} {w : World} (hf : Seen w of nf cf f) (df : w.cell? ⟨b, 0, none⟩ = some (.slice of nf cf)) :
    Calls Try.prog 69 #[.slice (some ⟨b, 0, none⟩) 1 1] w fun e w' => e = .returned (.int .i64 (codS f)) ∧ w = w' := by
  have Sf := Lib.hid hf
  clear hf
  cases pf : polyB f
  · have HP := Lib.hid (show codS f = 1 by simp [codS, pf])
    go_enter Try.func69, Try.ntmps69
    go_wp2_with fail
    refine wp_loop_rounds 2 ?_
    rw [rounds_succ]
    go_wp2_with fail
    refine (implIsPoly_any Sf.out).mono ?_
    rw [pf]
    rintro e w2 ⟨rfl, rfl⟩
    go_wp2_with fail
    go_ret
    rw [HP.out]; exact ⟨rfl, rfl⟩
  · cases sf : smlB f
    · have HP := Lib.hid (show codS f = 2 by simp [codS, pf, sf])
      go_enter Try.func69, Try.ntmps69
      go_wp2_with fail
      refine wp_loop_rounds 2 ?_
      rw [rounds_succ]
      go_wp2_with fail
      refine (implIsPoly_any Sf.out).mono ?_
      rw [pf]
      rintro e w2 ⟨rfl, rfl⟩
      go_wp2_with fail
      refine (implIsSmall_any Sf.out).mono ?_
      rw [sf]
      rintro e w2 ⟨rfl, rfl⟩
      go_wp2_with fail
      rw [rounds_succ]
      go_wp2_with fail
      go_ret
      rw [HP.out]; exact ⟨rfl, rfl⟩
    · have HP := Lib.hid (show codS f = 0 by simp [codS, pf, sf])
      go_enter Try.func69, Try.ntmps69
      go_wp2_with fail
      refine wp_loop_rounds 2 ?_
      rw [rounds_succ]
      go_wp2_with fail
      refine (implIsPoly_any Sf.out).mono ?_
      rw [pf]
      rintro e w2 ⟨rfl, rfl⟩
      go_wp2_with fail
      refine (implIsSmall_any Sf.out).mono ?_
      rw [sf]
      rintro e w2 ⟨rfl, rfl⟩
      go_wp2_with fail
      rw [rounds_succ]
      go_wp2_with fail
      go_ret
      rw [HP.out]; exact ⟨rfl, rfl⟩
set_option maxHeartbeats 1000000 in
theorem checkSmall2 {b : Nat} {of : Option Addr} {nf cf : Nat} {f : List Int} {og : Option Addr} {ng cg : Nat} {g : List Int} {w : World} (hf : Seen w of nf cf f) (df : w.cell? ⟨b, 0, none⟩ = some (.slice of nf cf)) (hg : Seen w og ng cg g) (dg : w.cell? ⟨b, 1, none⟩ = some (.slice og ng cg)) :
    Calls Try.prog 69 #[.slice (some ⟨b, 0, none⟩) 2 2] w fun e w' => e = .returned (.int .i64 (codS2 f g)) ∧ w = w' := by
  have Sf := Lib.hid hf
  have Sg := Lib.hid hg
  clear hf hg
  cases pf : polyB f
  · have HP := Lib.hid (show codS2 f g = 1 by simp [codS2, pf])
    go_enter Try.func69, Try.ntmps69
    go_wp2_with fail
    refine wp_loop_rounds 3 ?_
    rw [rounds_succ]
    go_wp2_with fail
    refine (implIsPoly_any Sf.out).mono ?_
    rw [pf]
    rintro e w2 ⟨rfl, rfl⟩
    go_wp2_with fail
    go_ret
    rw [HP.out]; exact ⟨rfl, rfl⟩
  · cases sf : smlB f
    · cases pg : polyB g
      · have HP := Lib.hid (show codS2 f g = 1 by simp [codS2, pf, sf, pg])
        go_enter Try.func69, Try.ntmps69
        go_wp2_with fail
        refine wp_loop_rounds 3 ?_
        rw [rounds_succ]
        go_wp2_with fail
        refine (implIsPoly_any Sf.out).mono ?_
        rw [pf]
        rintro e w2 ⟨rfl, rfl⟩
        go_wp2_with fail
        refine (implIsSmall_any Sf.out).mono ?_
        rw [sf]
        rintro e w2 ⟨rfl, rfl⟩
        go_wp2_with fail
        rw [rounds_succ]
        go_wp2_with fail
        refine (implIsPoly_any Sg.out).mono ?_
        rw [pg]
        rintro e w2 ⟨rfl, rfl⟩
        go_wp2_with fail
        go_ret
        rw [HP.out]; exact ⟨rfl, rfl⟩
      · cases sg : smlB g
        · have HP := Lib.hid (show codS2 f g = 2 by simp [codS2, pf, sf, pg, sg])
          go_enter Try.func69, Try.ntmps69
          go_wp2_with fail
          refine wp_loop_rounds 3 ?_
          rw [rounds_succ]
          go_wp2_with fail
          refine (implIsPoly_any Sf.out).mono ?_
          rw [pf]
          rintro e w2 ⟨rfl, rfl⟩
          go_wp2_with fail
          refine (implIsSmall_any Sf.out).mono ?_
          rw [sf]
          rintro e w2 ⟨rfl, rfl⟩
          go_wp2_with fail
          rw [rounds_succ]
          go_wp2_with fail
          refine (implIsPoly_any Sg.out).mono ?_
          rw [pg]
          rintro e w2 ⟨rfl, rfl⟩
          go_wp2_with fail
          refine (implIsSmall_any Sg.out).mono ?_
          rw [sg]
          rintro e w2 ⟨rfl, rfl⟩
          go_wp2_with fail
          rw [rounds_succ]
          go_wp2_with fail
          go_ret
          rw [HP.out]; exact ⟨rfl, rfl⟩
        · have HP := Lib.hid (show codS2 f g = 2 by simp [codS2, pf, sf, pg, sg])
          go_enter Try.func69, Try.ntmps69
          go_wp2_with fail
          refine wp_loop_rounds 3 ?_
          rw [rounds_succ]
          go_wp2_with fail
          refine (implIsPoly_any Sf.out).mono ?_
          rw [pf]
          rintro e w2 ⟨rfl, rfl⟩
          go_wp2_with fail
          refine (implIsSmall_any Sf.out).mono ?_
          rw [sf]
          rintro e w2 ⟨rfl, rfl⟩
          go_wp2_with fail
          rw [rounds_succ]
          go_wp2_with fail
          refine (implIsPoly_any Sg.out).mono ?_
          rw [pg]
          rintro e w2 ⟨rfl, rfl⟩
          go_wp2_with fail
          refine (implIsSmall_any Sg.out).mono ?_
          rw [sg]
          rintro e w2 ⟨rfl, rfl⟩
          go_wp2_with fail
          rw [rounds_succ]
          go_wp2_with fail
          go_ret
          rw [HP.out]; exact ⟨rfl, rfl⟩
    · cases pg : polyB g
      · have HP := Lib.hid (show codS2 f g = 1 by simp [codS2, pf, sf, pg])
        go_enter Try.func69, Try.ntmps69
        go_wp2_with fail
        refine wp_loop_rounds 3 ?_
        rw [rounds_succ]
        go_wp2_with fail
        refine (implIsPoly_any Sf.out).mono ?_
        rw [pf]
        rintro e w2 ⟨rfl, rfl⟩
        go_wp2_with fail
        refine (implIsSmall_any Sf.out).mono ?_
        rw [sf]
        rintro e w2 ⟨rfl, rfl⟩
        go_wp2_with fail
        rw [rounds_succ]
        go_wp2_with fail
        refine (implIsPoly_any Sg.out).mono ?_
        rw [pg]
        rintro e w2 ⟨rfl, rfl⟩
        go_wp2_with fail
        go_ret
        rw [HP.out]; exact ⟨rfl, rfl⟩
      · cases sg : smlB g
        · have HP := Lib.hid (show codS2 f g = 2 by simp [codS2, pf, sf, pg, sg])
          go_enter Try.func69, Try.ntmps69
          go_wp2_with fail
          refine wp_loop_rounds 3 ?_
          rw [rounds_succ]
          go_wp2_with fail
          refine (implIsPoly_any Sf.out).mono ?_
          rw [pf]
          rintro e w2 ⟨rfl, rfl⟩
          go_wp2_with fail
          refine (implIsSmall_any Sf.out).mono ?_
          rw [sf]
          rintro e w2 ⟨rfl, rfl⟩
          go_wp2_with fail
          rw [rounds_succ]
          go_wp2_with fail
          refine (implIsPoly_any Sg.out).mono ?_
          rw [pg]
          rintro e w2 ⟨rfl, rfl⟩
          go_wp2_with fail
          refine (implIsSmall_any Sg.out).mono ?_
          rw [sg]
          rintro e w2 ⟨rfl, rfl⟩
          go_wp2_with fail
          rw [rounds_succ]
          go_wp2_with fail
          go_ret
          rw [HP.out]; exact ⟨rfl, rfl⟩
        · have HP := Lib.hid (show codS2 f g = 0 by simp [codS2, pf, sf, pg, sg])
          go_enter Try.func69, Try.ntmps69
          go_wp2_with fail
          refine wp_loop_rounds 3 ?_
          rw [rounds_succ]
          go_wp2_with fail
          refine (implIsPoly_any Sf.out).mono ?_
          rw [pf]
          rintro e w2 ⟨rfl, rfl⟩
          go_wp2_with fail
          refine (implIsSmall_any Sf.out).mono ?_
          rw [sf]
          rintro e w2 ⟨rfl, rfl⟩
          go_wp2_with fail
          rw [rounds_succ]
          go_wp2_with fail
          refine (implIsPoly_any Sg.out).mono ?_
          rw [pg]
          rintro e w2 ⟨rfl, rfl⟩
          go_wp2_with fail
          refine (implIsSmall_any Sg.out).mono ?_
          rw [sg]
          rintro e w2 ⟨rfl, rfl⟩
          go_wp2_with fail
          rw [rounds_succ]
          go_wp2_with fail
          go_ret
          rw [HP.out]; exact ⟨rfl, rfl⟩
set_option maxHeartbeats 1000000 in
theorem l07Code1 {b : Nat} {of : Option Addr} {nf cf : Nat} {f : List Int} {w : World} (hf : Seen w of nf cf f) (df : w.cell? ⟨b, 0, none⟩ = some (.slice of nf cf)) :
    Calls Try.prog 67 #[.slice (some ⟨b, 0, none⟩) 1 1] w fun e w' => e = .returned (.int .i64 (codS f)) ∧ w = w' := by
  have Sf := Lib.hid hf
  clear hf
  cases pf : polyB f
  · have HP := Lib.hid (show codS f = 1 by simp [codS, pf])
    go_enter Try.func67, Try.ntmps67
    go_wp2_with fail
    refine wp_loop_rounds 2 ?_
    rw [rounds_succ]
    go_wp2_with fail
    refine (specIsPoly_any Sf.out).mono ?_
    rw [pf]
    rintro e w2 ⟨rfl, rfl⟩
    go_wp2_with fail
    go_ret
    rw [HP.out]; exact ⟨rfl, rfl⟩
  · cases sf : smlB f
    · have HP := Lib.hid (show codS f = 2 by simp [codS, pf, sf])
      go_enter Try.func67, Try.ntmps67
      go_wp2_with fail
      refine wp_loop_rounds 2 ?_
      rw [rounds_succ]
      go_wp2_with fail
      refine (specIsPoly_any Sf.out).mono ?_
      rw [pf]
      rintro e w2 ⟨rfl, rfl⟩
      go_wp2_with fail
      rw [rounds_succ]
      go_wp2_with fail
      refine wp_loop_rounds 2 ?_
      rw [rounds_succ]
      go_wp2_with fail
      refine (specIsSmall_any Sf.out).mono ?_
      rw [sf]
      rintro e w2 ⟨rfl, rfl⟩
      go_wp2_with fail
      go_ret
      rw [HP.out]; exact ⟨rfl, rfl⟩
    · have HP := Lib.hid (show codS f = 0 by simp [codS, pf, sf])
      go_enter Try.func67, Try.ntmps67
      go_wp2_with fail
      refine wp_loop_rounds 2 ?_
      rw [rounds_succ]
      go_wp2_with fail
      refine (specIsPoly_any Sf.out).mono ?_
      rw [pf]
      rintro e w2 ⟨rfl, rfl⟩
      go_wp2_with fail
      rw [rounds_succ]
      go_wp2_with fail
      refine wp_loop_rounds 2 ?_
      rw [rounds_succ]
      go_wp2_with fail
      refine (specIsSmall_any Sf.out).mono ?_
      rw [sf]
      rintro e w2 ⟨rfl, rfl⟩
      go_wp2_with fail
      rw [rounds_succ]
      go_wp2_with fail
      go_ret
      rw [HP.out]; exact ⟨rfl, rfl⟩
set_option maxHeartbeats 1000000 in
theorem l07Code2 {b : Nat} {of : Option Addr} {nf cf : Nat} {f : List Int} {og : Option Addr} {ng cg : Nat} {g : List Int} {w : World} (hf : Seen w of nf cf f) (df : w.cell? ⟨b, 0, none⟩ = some (.slice of nf cf)) (hg : Seen w og ng cg g) (dg : w.cell? ⟨b, 1, none⟩ = some (.slice og ng cg)) :
    Calls Try.prog 67 #[.slice (some ⟨b, 0, none⟩) 2 2] w fun e w' => e = .returned (.int .i64 (codS2 f g)) ∧ w = w' := by
  have Sf := Lib.hid hf
  have Sg := Lib.hid hg
  clear hf hg
  cases pf : polyB f
  · have HP := Lib.hid (show codS2 f g = 1 by simp [codS2, pf])
    go_enter Try.func67, Try.ntmps67
    go_wp2_with fail
    refine wp_loop_rounds 3 ?_
    rw [rounds_succ]
    go_wp2_with fail
    refine (specIsPoly_any Sf.out).mono ?_
    rw [pf]
    rintro e w2 ⟨rfl, rfl⟩
    go_wp2_with fail
    go_ret
    rw [HP.out]; exact ⟨rfl, rfl⟩
  · cases sf : smlB f
    · cases pg : polyB g
      · have HP := Lib.hid (show codS2 f g = 1 by simp [codS2, pf, sf, pg])
        go_enter Try.func67, Try.ntmps67
        go_wp2_with fail
        refine wp_loop_rounds 3 ?_
        rw [rounds_succ]
        go_wp2_with fail
        refine (specIsPoly_any Sf.out).mono ?_
        rw [pf]
        rintro e w2 ⟨rfl, rfl⟩
        go_wp2_with fail
        rw [rounds_succ]
        go_wp2_with fail
        refine (specIsPoly_any Sg.out).mono ?_
        rw [pg]
        rintro e w2 ⟨rfl, rfl⟩
        go_wp2_with fail
        go_ret
        rw [HP.out]; exact ⟨rfl, rfl⟩
      · cases sg : smlB g
        · have HP := Lib.hid (show codS2 f g = 2 by simp [codS2, pf, sf, pg, sg])
          go_enter Try.func67, Try.ntmps67
          go_wp2_with fail
          refine wp_loop_rounds 3 ?_
          rw [rounds_succ]
          go_wp2_with fail
          refine (specIsPoly_any Sf.out).mono ?_
          rw [pf]
          rintro e w2 ⟨rfl, rfl⟩
          go_wp2_with fail
          rw [rounds_succ]
          go_wp2_with fail
          refine (specIsPoly_any Sg.out).mono ?_
          rw [pg]
          rintro e w2 ⟨rfl, rfl⟩
          go_wp2_with fail
          rw [rounds_succ]
          go_wp2_with fail
          refine wp_loop_rounds 3 ?_
          rw [rounds_succ]
          go_wp2_with fail
          refine (specIsSmall_any Sf.out).mono ?_
          rw [sf]
          rintro e w2 ⟨rfl, rfl⟩
          go_wp2_with fail
          go_ret
          rw [HP.out]; exact ⟨rfl, rfl⟩
        · have HP := Lib.hid (show codS2 f g = 2 by simp [codS2, pf, sf, pg, sg])
          go_enter Try.func67, Try.ntmps67
          go_wp2_with fail
          refine wp_loop_rounds 3 ?_
          rw [rounds_succ]
          go_wp2_with fail
          refine (specIsPoly_any Sf.out).mono ?_
          rw [pf]
          rintro e w2 ⟨rfl, rfl⟩
          go_wp2_with fail
          rw [rounds_succ]
          go_wp2_with fail
          refine (specIsPoly_any Sg.out).mono ?_
          rw [pg]
          rintro e w2 ⟨rfl, rfl⟩
          go_wp2_with fail
          rw [rounds_succ]
          go_wp2_with fail
          refine wp_loop_rounds 3 ?_
          rw [rounds_succ]
          go_wp2_with fail
          refine (specIsSmall_any Sf.out).mono ?_
          rw [sf]
          rintro e w2 ⟨rfl, rfl⟩
          go_wp2_with fail
          go_ret
          rw [HP.out]; exact ⟨rfl, rfl⟩
    · cases pg : polyB g
      · have HP := Lib.hid (show codS2 f g = 1 by simp [codS2, pf, sf, pg])
        go_enter Try.func67, Try.ntmps67
        go_wp2_with fail
        refine wp_loop_rounds 3 ?_
        rw [rounds_succ]
        go_wp2_with fail
        refine (specIsPoly_any Sf.out).mono ?_
        rw [pf]
        rintro e w2 ⟨rfl, rfl⟩
        go_wp2_with fail
        rw [rounds_succ]
        go_wp2_with fail
        refine (specIsPoly_any Sg.out).mono ?_
        rw [pg]
        rintro e w2 ⟨rfl, rfl⟩
        go_wp2_with fail
        go_ret
        rw [HP.out]; exact ⟨rfl, rfl⟩
      · cases sg : smlB g
        · have HP := Lib.hid (show codS2 f g = 2 by simp [codS2, pf, sf, pg, sg])
          go_enter Try.func67, Try.ntmps67
          go_wp2_with fail
          refine wp_loop_rounds 3 ?_
          rw [rounds_succ]
          go_wp2_with fail
          refine (specIsPoly_any Sf.out).mono ?_
          rw [pf]
          rintro e w2 ⟨rfl, rfl⟩
          go_wp2_with fail
          rw [rounds_succ]
          go_wp2_with fail
          refine (specIsPoly_any Sg.out).mono ?_
          rw [pg]
          rintro e w2 ⟨rfl, rfl⟩
          go_wp2_with fail
          rw [rounds_succ]
          go_wp2_with fail
          refine wp_loop_rounds 3 ?_
          rw [rounds_succ]
          go_wp2_with fail
          refine (specIsSmall_any Sf.out).mono ?_
          rw [sf]
          rintro e w2 ⟨rfl, rfl⟩
          go_wp2_with fail
          rw [rounds_succ]
          go_wp2_with fail
          refine (specIsSmall_any Sg.out).mono ?_
          rw [sg]
          rintro e w2 ⟨rfl, rfl⟩
          go_wp2_with fail
          go_ret
          rw [HP.out]; exact ⟨rfl, rfl⟩
        · have HP := Lib.hid (show codS2 f g = 0 by simp [codS2, pf, sf, pg, sg])
          go_enter Try.func67, Try.ntmps67
          go_wp2_with fail
          refine wp_loop_rounds 3 ?_
          rw [rounds_succ]
          go_wp2_with fail
          refine (specIsPoly_any Sf.out).mono ?_
          rw [pf]
          rintro e w2 ⟨rfl, rfl⟩
          go_wp2_with fail
          rw [rounds_succ]
          go_wp2_with fail
          refine (specIsPoly_any Sg.out).mono ?_
          rw [pg]
          rintro e w2 ⟨rfl, rfl⟩
          go_wp2_with fail
          rw [rounds_succ]
          go_wp2_with fail
          refine wp_loop_rounds 3 ?_
          rw [rounds_succ]
          go_wp2_with fail
          refine (specIsSmall_any Sf.out).mono ?_
          rw [sf]
          rintro e w2 ⟨rfl, rfl⟩
          go_wp2_with fail
          rw [rounds_succ]
          go_wp2_with fail
          refine (specIsSmall_any Sg.out).mono ?_
          rw [sg]
          rintro e w2 ⟨rfl, rfl⟩
          go_wp2_with fail
          rw [rounds_succ]
          go_wp2_with fail
          go_ret
          rw [HP.out]; exact ⟨rfl, rfl⟩
end Go.Proofs.Ytbolmmgkmgmfeaa
