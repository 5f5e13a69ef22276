/- The walk of the law FnMadePadics: true for every code; below the old memory nothing has turned. -/
import Derived.Test.YtdbiaiimdokleaaDrawPad4
import Derived.Test.YtdbiaiimdokleaaPadFacts
import Derived.Test.YtdbiaiimdokleaaPadSpec5
import Derived.Test.YtdbiaiimdokleaaCommonFn
namespace Go.Proofs.Ytdbiaiimdokleaa
open Go.RowKit
set_option linter.unusedVariables false
set_option maxRecDepth 20000
set_option linter.unusedSimpArgs false
set_option maxRecDepth 100000 in
set_option maxHeartbeats 4000000 in
theorem made_core (o : Option Addr) (len cap : Nat) (w : World) (hl : len ≤ 4096) (hc : CodeIn w o len) :
    Calls Try.prog 5 #[.slice o len cap] w fun e w' => e = .returned (.bool true) ∧ Below w.heap.size w w' := by
  have HC := Lib.hid hc
  have HB : Below w.heap.size w w := Below.refl _ _
  clear hc
  go_enter Try.func5, Try.ntmps5
  go_upto_region 3 with (go_at_call 16; refine (big_no _ _ _ _ hl).mono ?_; rintro e w' ⟨rfl, rfl⟩)
  go_upto_region 4 with (first | (go_at_call 37; refine (drawMake_any _ _ _ _ hl HC.out).mono ?_; rintro e w1 ⟨p, m, k, rfl, hb⟩; replace HB := HB.trans (hb.mono HB.size); replace HC := Lib.hid (codeIn_below (B := 0) HC.out hb)))
  clear hb
  have A1 := fun w => implMake_any p m k w
  have A2 := fun w => specMake_any p m k w
  obtain ⟨Z, hZ⟩ : ∃ Z, madeQ p m k = Z := ⟨_, rfl⟩
  obtain ⟨c, hC⟩ : ∃ c, madeC p m k = c := ⟨_, rfl⟩
  rw [hZ, hC] at A1 A2
  have HM := Lib.hid (And.intro hZ hC)
  replace A1 := Lib.hid A1
  replace A2 := Lib.hid A2
  clear hZ hC
  go_upto_region 5 with (first | (go_at_call 38; refine (A1.out _).mono ?_; rintro e w2 ⟨rfl, hb⟩; replace HB := HB.trans (hb.mono HB.size); replace HC := Lib.hid (codeIn_below (B := 0) HC.out hb)))
  clear hb
  have Lx := lies_new w2 (P4 Z.1 Z.2.1 Z.2.2.1 Z.2.2.2) 25
  replace HB := HB.trans ((below_a1 w2 (.cells (P4 Z.1 Z.2.1 Z.2.2.1 Z.2.2.2) 25)).mono HB.size)
  replace HC := Lib.hid (codeIn_below (B := 0) HC.out (below_a1 w2 (.cells (P4 Z.1 Z.2.1 Z.2.2.1 Z.2.2.2) 25)))
  generalize w2.alloc (.cells (P4 Z.1 Z.2.1 Z.2.2.1 Z.2.2.2) 25) = V2 at Lx HB HC ⊢
  obtain ⟨qx, hqx⟩ : ∃ b, w2.heap.size = b := ⟨_, rfl⟩
  rw [hqx] at Lx ⊢
  clear hqx
  go_upto_region 6 with (first | (go_at_call 39; refine (A2.out _).mono ?_; rintro e w3 ⟨rfl, hb⟩; replace Lx := lies_next Lx hb; replace HB := HB.trans (hb.mono HB.size); replace HC := Lib.hid (codeIn_below (B := 0) HC.out hb)))
  clear hb
  replace Lx := lies_alloc Lx (.cells (P4 Z.1 Z.2.1 Z.2.2.1 Z.2.2.2) 25)
  have Lt := lies_new w3 (P4 Z.1 Z.2.1 Z.2.2.1 Z.2.2.2) 25
  replace HB := HB.trans ((below_a1 w3 (.cells (P4 Z.1 Z.2.1 Z.2.2.1 Z.2.2.2) 25)).mono HB.size)
  replace HC := Lib.hid (codeIn_below (B := 0) HC.out (below_a1 w3 (.cells (P4 Z.1 Z.2.1 Z.2.2.1 Z.2.2.2) 25)))
  generalize w3.alloc (.cells (P4 Z.1 Z.2.1 Z.2.2.1 Z.2.2.2) 25) = V3 at Lx Lt HB HC ⊢
  obtain ⟨qt, hqt⟩ : ∃ b, w3.heap.size = b := ⟨_, rfl⟩
  rw [hqt] at Lt ⊢
  clear hqt
  go_upto_region 7 with (first | (go_at_call 40; refine (drawDigit_any _ _ _ _ hl HC.out).mono ?_; rintro e w4 ⟨a1, a2, a3, a4, pl, rfl, hb⟩; replace Lx := lies_next Lx hb; replace Lt := lies_next Lt hb; replace HB := HB.trans (hb.mono HB.size); replace HC := Lib.hid (codeIn_below (B := 0) HC.out hb)))
  clear hb
  replace Lx := lies_alloc Lx (.cells (P4 a1 a2 a3 a4) 25)
  replace Lt := lies_alloc Lt (.cells (P4 a1 a2 a3 a4) 25)
  have Ly := lies_new w4 (P4 a1 a2 a3 a4) 25
  replace HB := HB.trans ((below_a1 w4 (.cells (P4 a1 a2 a3 a4) 25)).mono HB.size)
  replace HC := Lib.hid (codeIn_below (B := 0) HC.out (below_a1 w4 (.cells (P4 a1 a2 a3 a4) 25)))
  generalize w4.alloc (.cells (P4 a1 a2 a3 a4) 25) = V4 at Lx Lt Ly HB HC ⊢
  obtain ⟨qy, hqy⟩ : ∃ b, w4.heap.size = b := ⟨_, rfl⟩
  rw [hqy] at Ly ⊢
  clear hqy
  have B1 := fun w => implDigit_any a1 a2 a3 a4 pl w
  have B2 := fun w => specDigit_any a1 a2 a3 a4 pl w
  have HD0 := @dig_ok a1 a2 a3 a4 pl
  generalize digV a1 a2 a3 a4 pl = D at B1 B2 HD0
  generalize digC a1 a2 a3 a4 pl = dc at B1 B2 HD0
  replace B1 := Lib.hid B1
  replace B2 := Lib.hid B2
  have HD := Lib.hid HD0
  clear HD0
  obtain ⟨y0, y1, y2, y3⟩ := lies_four Ly
  go_upto_region 8 with (first | (go_at_call 41; refine (B1.out _).mono ?_; rintro e w5 ⟨rfl, hb⟩; replace Lx := lies_next Lx hb; replace Lt := lies_next Lt hb; replace Ly := lies_next Ly hb; replace HB := HB.trans (hb.mono HB.size); replace HC := Lib.hid (codeIn_below (B := 0) HC.out hb)))
  clear y0 y1 y2 y3
  clear hb
  obtain ⟨y0, y1, y2, y3⟩ := lies_four Ly
  go_upto_region 9 with (first | (go_at_call 42; refine (B2.out _).mono ?_; rintro e w6 ⟨rfl, hb⟩; replace Lx := lies_next Lx hb; replace Lt := lies_next Lt hb; replace Ly := lies_next Ly hb; replace HB := HB.trans (hb.mono HB.size); replace HC := Lib.hid (codeIn_below (B := 0) HC.out hb)))
  clear y0 y1 y2 y3
  clear hb
  go_upto_region 10 with (first | (go_at_call 43; refine (drawEnd_any _ _ _ _ hl HC.out).mono ?_; rintro e w7 ⟨c1, c2, c3, c4, rfl, hb⟩; replace Lx := lies_next Lx hb; replace Lt := lies_next Lt hb; replace Ly := lies_next Ly hb; replace HB := HB.trans (hb.mono HB.size); replace HC := Lib.hid (codeIn_below (B := 0) HC.out hb)))
  clear hb
  replace Lx := lies_alloc Lx (.cells (P4 c1 c2 c3 c4) 25)
  replace Lt := lies_alloc Lt (.cells (P4 c1 c2 c3 c4) 25)
  replace Ly := lies_alloc Ly (.cells (P4 c1 c2 c3 c4) 25)
  have Lz := lies_new w7 (P4 c1 c2 c3 c4) 25
  replace HB := HB.trans ((below_a1 w7 (.cells (P4 c1 c2 c3 c4) 25)).mono HB.size)
  replace HC := Lib.hid (codeIn_below (B := 0) HC.out (below_a1 w7 (.cells (P4 c1 c2 c3 c4) 25)))
  generalize w7.alloc (.cells (P4 c1 c2 c3 c4) 25) = V7 at Lx Lt Ly Lz HB HC ⊢
  obtain ⟨qz, hqz⟩ : ∃ b, w7.heap.size = b := ⟨_, rfl⟩
  rw [hqz] at Lz ⊢
  clear hqz
  obtain ⟨z0, z1, z2, z3⟩ := lies_four Lz
  go_upto_region 11 with (first | (go_at_call 27; refine (implEnd_any _ _ _ _ _).mono ?_; rintro e w8 ⟨rfl, hb⟩; replace Lx := lies_next Lx hb; replace Lt := lies_next Lt hb; replace Ly := lies_next Ly hb; replace Lz := lies_next Lz hb; replace HB := HB.trans (hb.mono HB.size); replace HC := Lib.hid (codeIn_below (B := 0) HC.out hb)))
  clear z0 z1 z2 z3
  clear hb
  obtain ⟨z0, z1, z2, z3⟩ := lies_four Lz
  go_upto_region 12 with (first | (go_at_call 44; refine (specEnd_any _ _ _ _ _).mono ?_; rintro e w9 ⟨rfl, hb⟩; replace Lx := lies_next Lx hb; replace Lt := lies_next Lt hb; replace Ly := lies_next Ly hb; replace Lz := lies_next Lz hb; replace HB := HB.trans (hb.mono HB.size); replace HC := Lib.hid (codeIn_below (B := 0) HC.out hb)))
  clear z0 z1 z2 z3
  clear hb
  generalize endV c1 c2 c3 c4 = E
  generalize negC c1 c2 c3 c4 = ec
  obtain ⟨x0, x1, x2, x3⟩ := lies_four Lx
  obtain ⟨t0, t1, t2, t3⟩ := lies_four Lt
  obtain ⟨y0, y1, y2, y3⟩ := lies_four Ly
  go_cut [116] (fun s wx => s = .bool false ∧ Below w.heap.size w wx ∧ Lies wx qx (P4 Z.1 Z.2.1 Z.2.2.1 Z.2.2.2))
  case first =>
    by_cases hd : dc = 0
    · obtain ⟨d0, d1⟩ := HD.out hd
      have hd' : (dc == 0) = true := by simp [hd]
      have e1 : decide (D < 0) = false := decide_eq_false (by omega)
      have e2 : decide (a1 ≤ D) = false := decide_eq_false (by omega)
      clear hd
      go_wp2_with fail
      go_meet
      case rel => exact ⟨rfl, HB, Lx⟩
    · have hd' : (dc == 0) = false := by simpa using hd
      clear hd
      go_wp2_with fail
      go_meet
      case rel => exact ⟨rfl, HB, Lx⟩
  case rest =>
  clear x0 x1 x2 x3 t0 t1 t2 t3 y0 y1 y2 y3 HB HC Lx Lt Ly Lz
  obtain ⟨rfl, HB, Lx⟩ := hcut
  obtain ⟨x0, x1, x2, x3⟩ := lies_four Lx
  by_cases hc : c = 0
  · obtain ⟨h1, h2, h3, h4, h5, h6, h7⟩ := made_ok (p := p) (m := m) (k := k) (by rw [HM.out.2]; exact hc)
    rw [HM.out.1] at h5 h6 h7
    have hc' : (c == 0) = true := by simp [hc]
    have hp4 : ¬ p = 0 := by omega
    have hp5 : (p == 0) = false := by simp; omega
    have htb := tmod_bd (x := m) (show 0 < p by omega)
    have DG := fun w => implDigit_any Z.1 Z.2.1 Z.2.2.1 Z.2.2.2 0 w
    rw [h6, h7] at DG
    have H5 := Lib.hid h5
    clear h5 h6 h7 hc
    by_cases hs : m.tmod p < 0
    · have hr := rem_neg (show 0 < p by omega) hs
      have hs' : decide (m.tmod p < 0) = true := decide_eq_true hs
      have hw := IntWalk.i64_in (m.tmod p + p) (by omega)
      rw [← hr] at DG
      replace DG := Lib.hid DG
      clear hr
      go_wp2_with (first | (go_at_call 41; refine (DG.out _).mono ?_; rintro e v1 ⟨rfl, hb⟩; replace Lx := lies_next Lx hb; replace HB := HB.trans (hb.mono HB.size); obtain ⟨x0, x1, x2, x3⟩ := lies_four Lx) | (go_at_call 26; refine (implIsPadic_any _ _ _ _ _).mono ?_; rw [H5.out]; rintro e v2 ⟨rfl, hb⟩; replace HB := HB.trans (hb.mono HB.size)))
      go_ret
      exact ⟨rfl, HB⟩
    · have hr := rem_pos (show 0 < p by omega) hs
      have hs' : decide (m.tmod p < 0) = false := decide_eq_false hs
      rw [← hr] at DG
      replace DG := Lib.hid DG
      clear hr
      go_wp2_with (first | (go_at_call 41; refine (DG.out _).mono ?_; rintro e v1 ⟨rfl, hb⟩; replace Lx := lies_next Lx hb; replace HB := HB.trans (hb.mono HB.size); obtain ⟨x0, x1, x2, x3⟩ := lies_four Lx) | (go_at_call 26; refine (implIsPadic_any _ _ _ _ _).mono ?_; rw [H5.out]; rintro e v2 ⟨rfl, hb⟩; replace HB := HB.trans (hb.mono HB.size)))
      go_ret
      exact ⟨rfl, HB⟩
  · have hc' : (c == 0) = false := by simpa using hc
    clear hc
    go_wp2_with fail
    go_ret
    exact ⟨rfl, HB⟩
set_option maxRecDepth 100000 in
theorem made_walk (a : Option Addr) (len cap : Nat) (zs : List Int) (w : World) (h : IsRowOf .u8 w a len cap zs) :
    Calls Try.prog 5 #[.slice a len cap] w fun e w' => e = .returned (.bool true) ∧ Below w.heap.size w w' := by
  obtain ⟨hc, hm⟩ := codeIn_of h
  by_cases hl : len ≤ 4096
  · exact made_core a len cap w hl hc
  · clear hc h
    go_enter Try.func5, Try.ntmps5
    go_wp2_with (go_at_call 16; refine (big_yes _ _ _ _ (by omega) (by omega)).mono ?_; rintro e w' ⟨rfl, rfl⟩)
    go_ret
    exact ⟨rfl, Below.refl _ _⟩
end Go.Proofs.Ytdbiaiimdokleaa
