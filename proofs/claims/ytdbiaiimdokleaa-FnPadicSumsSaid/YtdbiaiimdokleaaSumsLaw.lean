/- The walk of the law FnPadicSums: true for every code; below the old memory nothing has turned. -/
import Derived.Test.YtdbiaiimdokleaaDrawPad4
import Derived.Test.YtdbiaiimdokleaaPadFacts
import Derived.Test.YtdbiaiimdokleaaPadSpec5
import Derived.Test.YtdbiaiimdokleaaCommonFn
namespace Go.Proofs.Ytdbiaiimdokleaa
open Go.RowKit
set_option linter.unusedVariables false
set_option maxRecDepth 20000
set_option linter.unusedSimpArgs false
set_option maxRecDepth 100000 in
set_option maxHeartbeats 4000000 in
theorem sums_core (o : Option Addr) (len cap : Nat) (w : World) (hl : len ≤ 4096) (hc : CodeIn w o len) :
    Calls Try.prog 3 #[.slice o len cap] w fun e w' => e = .returned (.bool true) ∧ Below w.heap.size w w' := by
  have HC := Lib.hid hc
  have HB : Below w.heap.size w w := Below.refl _ _
  clear hc
  go_enter Try.func3, Try.ntmps3
  go_upto_region 3 with (go_at_call 16; refine (big_no _ _ _ _ hl).mono ?_; rintro e w' ⟨rfl, rfl⟩)
  go_upto_region 4 with (first | (go_at_call 17; refine (drawAdd_any _ _ _ _ hl HC.out).mono ?_; rintro e w1 ⟨p, v, u, n, q, v', u', n', rfl, hb⟩; replace HB := HB.trans (hb.mono HB.size); replace HC := Lib.hid (codeIn_below (B := 0) HC.out hb)))
  clear hb
  have Lx := lies_new w1 (P4 p v u n) 25
  replace HB := HB.trans ((below_a1 w1 (.cells (P4 p v u n) 25)).mono HB.size)
  replace HC := Lib.hid (codeIn_below (B := 0) HC.out (below_a1 w1 (.cells (P4 p v u n) 25)))
  replace Lx := lies_alloc Lx (.cells (P4 q v' u' n') 25)
  have Ly := lies_new (w1.alloc (.cells (P4 p v u n) 25)) (P4 q v' u' n') 25
  rw [size1] at Ly
  replace HB := HB.trans ((below_a1 (w1.alloc (.cells (P4 p v u n) 25)) (.cells (P4 q v' u' n') 25)).mono HB.size)
  replace HC := Lib.hid (codeIn_below (B := 0) HC.out (below_a1 (w1.alloc (.cells (P4 p v u n) 25)) (.cells (P4 q v' u' n') 25)))
  generalize (w1.alloc (.cells (P4 p v u n) 25)).alloc (.cells (P4 q v' u' n') 25) = V1 at Lx Ly HB HC ⊢
  obtain ⟨qx, hqx⟩ : ∃ b, w1.heap.size = b := ⟨_, rfl⟩
  rw [hqx] at Lx Ly ⊢
  clear hqx
  have A1 := fun w => implAdd_any p v u n q v' u' n' w
  have A2 := fun w => specAdd_any p v u n q v' u' n' w
  obtain ⟨Z, hZ⟩ : ∃ Z, sumQ p v u n q v' u' n' = Z := ⟨_, rfl⟩
  obtain ⟨c, hC⟩ : ∃ c, sumC p v u n q v' u' n' = c := ⟨_, rfl⟩
  rw [hZ, hC] at A1 A2
  have HM := Lib.hid (And.intro hZ hC)
  replace A1 := Lib.hid A1
  replace A2 := Lib.hid A2
  clear hZ hC
  obtain ⟨x0, x1, x2, x3⟩ := lies_four Lx
  obtain ⟨y0, y1, y2, y3⟩ := lies_four Ly
  go_upto_region 5 with (first | (go_at_call 18; refine (A1.out _).mono ?_; rintro e w2 ⟨rfl, hb⟩; replace Lx := lies_next Lx hb; replace Ly := lies_next Ly hb; replace HB := HB.trans (hb.mono HB.size); replace HC := Lib.hid (codeIn_below (B := 0) HC.out hb)))
  clear x0 x1 x2 x3 y0 y1 y2 y3
  clear hb
  replace Lx := lies_alloc Lx (.cells (P4 Z.1 Z.2.1 Z.2.2.1 Z.2.2.2) 25)
  replace Ly := lies_alloc Ly (.cells (P4 Z.1 Z.2.1 Z.2.2.1 Z.2.2.2) 25)
  have Lz := lies_new w2 (P4 Z.1 Z.2.1 Z.2.2.1 Z.2.2.2) 25
  replace HB := HB.trans ((below_a1 w2 (.cells (P4 Z.1 Z.2.1 Z.2.2.1 Z.2.2.2) 25)).mono HB.size)
  replace HC := Lib.hid (codeIn_below (B := 0) HC.out (below_a1 w2 (.cells (P4 Z.1 Z.2.1 Z.2.2.1 Z.2.2.2) 25)))
  generalize w2.alloc (.cells (P4 Z.1 Z.2.1 Z.2.2.1 Z.2.2.2) 25) = V2 at Lx Ly Lz HB HC ⊢
  obtain ⟨qz, hqz⟩ : ∃ b, w2.heap.size = b := ⟨_, rfl⟩
  rw [hqz] at Lz ⊢
  clear hqz
  obtain ⟨x0, x1, x2, x3⟩ := lies_four Lx
  obtain ⟨y0, y1, y2, y3⟩ := lies_four Ly
  go_upto_region 6 with (first | (go_at_call 19; refine (A2.out _).mono ?_; rintro e w3 ⟨rfl, hb⟩; replace Lx := lies_next Lx hb; replace Ly := lies_next Ly hb; replace Lz := lies_next Lz hb; replace HB := HB.trans (hb.mono HB.size); replace HC := Lib.hid (codeIn_below (B := 0) HC.out hb)))
  clear x0 x1 x2 x3 y0 y1 y2 y3
  clear hb
  replace Lx := lies_alloc Lx (.cells (P4 Z.1 Z.2.1 Z.2.2.1 Z.2.2.2) 25)
  replace Ly := lies_alloc Ly (.cells (P4 Z.1 Z.2.1 Z.2.2.1 Z.2.2.2) 25)
  replace Lz := lies_alloc Lz (.cells (P4 Z.1 Z.2.1 Z.2.2.1 Z.2.2.2) 25)
  have Lt := lies_new w3 (P4 Z.1 Z.2.1 Z.2.2.1 Z.2.2.2) 25
  replace HB := HB.trans ((below_a1 w3 (.cells (P4 Z.1 Z.2.1 Z.2.2.1 Z.2.2.2) 25)).mono HB.size)
  replace HC := Lib.hid (codeIn_below (B := 0) HC.out (below_a1 w3 (.cells (P4 Z.1 Z.2.1 Z.2.2.1 Z.2.2.2) 25)))
  generalize w3.alloc (.cells (P4 Z.1 Z.2.1 Z.2.2.1 Z.2.2.2) 25) = V3 at Lx Ly Lz Lt HB HC ⊢
  obtain ⟨qt, hqt⟩ : ∃ b, w3.heap.size = b := ⟨_, rfl⟩
  rw [hqt] at Lt ⊢
  clear hqt
  go_upto_region 7 with (first | (go_at_call 20; refine (drawNegate_any _ _ _ _ hl HC.out).mono ?_; rintro e w4 ⟨a1, a2, a3, a4, rfl, hb⟩; replace Lx := lies_next Lx hb; replace Ly := lies_next Ly hb; replace Lz := lies_next Lz hb; replace Lt := lies_next Lt hb; replace HB := HB.trans (hb.mono HB.size); replace HC := Lib.hid (codeIn_below (B := 0) HC.out hb)))
  clear hb
  replace Lx := lies_alloc Lx (.cells (P4 a1 a2 a3 a4) 25)
  replace Ly := lies_alloc Ly (.cells (P4 a1 a2 a3 a4) 25)
  replace Lz := lies_alloc Lz (.cells (P4 a1 a2 a3 a4) 25)
  replace Lt := lies_alloc Lt (.cells (P4 a1 a2 a3 a4) 25)
  have Lg := lies_new w4 (P4 a1 a2 a3 a4) 25
  replace HB := HB.trans ((below_a1 w4 (.cells (P4 a1 a2 a3 a4) 25)).mono HB.size)
  replace HC := Lib.hid (codeIn_below (B := 0) HC.out (below_a1 w4 (.cells (P4 a1 a2 a3 a4) 25)))
  generalize w4.alloc (.cells (P4 a1 a2 a3 a4) 25) = V4 at Lx Ly Lz Lt Lg HB HC ⊢
  obtain ⟨qg, hqg⟩ : ∃ b, w4.heap.size = b := ⟨_, rfl⟩
  rw [hqg] at Lg ⊢
  clear hqg
  have B1 := fun w => implNeg_any a1 a2 a3 a4 w
  have B2 := fun w => specNeg_any a1 a2 a3 a4 w
  obtain ⟨M, hM⟩ : ∃ M, negQ a1 a2 a3 a4 = M := ⟨_, rfl⟩
  obtain ⟨nc, hN⟩ : ∃ c, negC a1 a2 a3 a4 = c := ⟨_, rfl⟩
  rw [hM, hN] at B1 B2
  have HN := Lib.hid (And.intro hM hN)
  replace B1 := Lib.hid B1
  replace B2 := Lib.hid B2
  clear hM hN
  obtain ⟨g0, g1, g2, g3⟩ := lies_four Lg
  go_upto_region 8 with (first | (go_at_call 21; refine (B1.out _).mono ?_; rintro e w5 ⟨rfl, hb⟩; replace Lx := lies_next Lx hb; replace Ly := lies_next Ly hb; replace Lz := lies_next Lz hb; replace Lt := lies_next Lt hb; replace Lg := lies_next Lg hb; replace HB := HB.trans (hb.mono HB.size); replace HC := Lib.hid (codeIn_below (B := 0) HC.out hb)))
  clear g0 g1 g2 g3
  clear hb
  replace Lx := lies_alloc Lx (.cells (P4 M.1 M.2.1 M.2.2.1 M.2.2.2) 25)
  replace Ly := lies_alloc Ly (.cells (P4 M.1 M.2.1 M.2.2.1 M.2.2.2) 25)
  replace Lz := lies_alloc Lz (.cells (P4 M.1 M.2.1 M.2.2.1 M.2.2.2) 25)
  replace Lt := lies_alloc Lt (.cells (P4 M.1 M.2.1 M.2.2.1 M.2.2.2) 25)
  replace Lg := lies_alloc Lg (.cells (P4 M.1 M.2.1 M.2.2.1 M.2.2.2) 25)
  have Lm := lies_new w5 (P4 M.1 M.2.1 M.2.2.1 M.2.2.2) 25
  replace HB := HB.trans ((below_a1 w5 (.cells (P4 M.1 M.2.1 M.2.2.1 M.2.2.2) 25)).mono HB.size)
  replace HC := Lib.hid (codeIn_below (B := 0) HC.out (below_a1 w5 (.cells (P4 M.1 M.2.1 M.2.2.1 M.2.2.2) 25)))
  generalize w5.alloc (.cells (P4 M.1 M.2.1 M.2.2.1 M.2.2.2) 25) = V5 at Lx Ly Lz Lt Lg Lm HB HC ⊢
  obtain ⟨qm, hqm⟩ : ∃ b, w5.heap.size = b := ⟨_, rfl⟩
  rw [hqm] at Lm ⊢
  clear hqm
  obtain ⟨g0, g1, g2, g3⟩ := lies_four Lg
  go_upto_region 9 with (first | (go_at_call 22; refine (B2.out _).mono ?_; rintro e w6 ⟨rfl, hb⟩; replace Lx := lies_next Lx hb; replace Ly := lies_next Ly hb; replace Lz := lies_next Lz hb; replace Lt := lies_next Lt hb; replace Lg := lies_next Lg hb; replace Lm := lies_next Lm hb; replace HB := HB.trans (hb.mono HB.size); replace HC := Lib.hid (codeIn_below (B := 0) HC.out hb)))
  clear g0 g1 g2 g3
  clear hb
  replace Lx := lies_alloc Lx (.cells (P4 M.1 M.2.1 M.2.2.1 M.2.2.2) 25)
  replace Ly := lies_alloc Ly (.cells (P4 M.1 M.2.1 M.2.2.1 M.2.2.2) 25)
  replace Lz := lies_alloc Lz (.cells (P4 M.1 M.2.1 M.2.2.1 M.2.2.2) 25)
  replace Lt := lies_alloc Lt (.cells (P4 M.1 M.2.1 M.2.2.1 M.2.2.2) 25)
  replace Lg := lies_alloc Lg (.cells (P4 M.1 M.2.1 M.2.2.1 M.2.2.2) 25)
  replace Lm := lies_alloc Lm (.cells (P4 M.1 M.2.1 M.2.2.1 M.2.2.2) 25)
  have Ls := lies_new w6 (P4 M.1 M.2.1 M.2.2.1 M.2.2.2) 25
  replace HB := HB.trans ((below_a1 w6 (.cells (P4 M.1 M.2.1 M.2.2.1 M.2.2.2) 25)).mono HB.size)
  replace HC := Lib.hid (codeIn_below (B := 0) HC.out (below_a1 w6 (.cells (P4 M.1 M.2.1 M.2.2.1 M.2.2.2) 25)))
  generalize w6.alloc (.cells (P4 M.1 M.2.1 M.2.2.1 M.2.2.2) 25) = V6 at Lx Ly Lz Lt Lg Lm Ls HB HC ⊢
  obtain ⟨qs, hqs⟩ : ∃ b, w6.heap.size = b := ⟨_, rfl⟩
  rw [hqs] at Ls ⊢
  clear hqs
  go_upto_region 10 with (first | (go_at_call 23; refine (drawEqual_any _ _ _ _ hl HC.out).mono ?_; rintro e w7 ⟨b1, b2, b3, b4, c1, c2, c3, c4, rfl, hb⟩; replace Lx := lies_next Lx hb; replace Ly := lies_next Ly hb; replace Lz := lies_next Lz hb; replace Lt := lies_next Lt hb; replace Lg := lies_next Lg hb; replace Lm := lies_next Lm hb; replace Ls := lies_next Ls hb; replace HB := HB.trans (hb.mono HB.size); replace HC := Lib.hid (codeIn_below (B := 0) HC.out hb)))
  clear hb
  replace Lx := lies_alloc Lx (.cells (P4 b1 b2 b3 b4) 25)
  replace Ly := lies_alloc Ly (.cells (P4 b1 b2 b3 b4) 25)
  replace Lz := lies_alloc Lz (.cells (P4 b1 b2 b3 b4) 25)
  replace Lt := lies_alloc Lt (.cells (P4 b1 b2 b3 b4) 25)
  replace Lg := lies_alloc Lg (.cells (P4 b1 b2 b3 b4) 25)
  replace Lm := lies_alloc Lm (.cells (P4 b1 b2 b3 b4) 25)
  replace Ls := lies_alloc Ls (.cells (P4 b1 b2 b3 b4) 25)
  have Ld := lies_new w7 (P4 b1 b2 b3 b4) 25
  replace HB := HB.trans ((below_a1 w7 (.cells (P4 b1 b2 b3 b4) 25)).mono HB.size)
  replace HC := Lib.hid (codeIn_below (B := 0) HC.out (below_a1 w7 (.cells (P4 b1 b2 b3 b4) 25)))
  replace Lx := lies_alloc Lx (.cells (P4 c1 c2 c3 c4) 25)
  replace Ly := lies_alloc Ly (.cells (P4 c1 c2 c3 c4) 25)
  replace Lz := lies_alloc Lz (.cells (P4 c1 c2 c3 c4) 25)
  replace Lt := lies_alloc Lt (.cells (P4 c1 c2 c3 c4) 25)
  replace Lg := lies_alloc Lg (.cells (P4 c1 c2 c3 c4) 25)
  replace Lm := lies_alloc Lm (.cells (P4 c1 c2 c3 c4) 25)
  replace Ls := lies_alloc Ls (.cells (P4 c1 c2 c3 c4) 25)
  replace Ld := lies_alloc Ld (.cells (P4 c1 c2 c3 c4) 25)
  have Lf := lies_new (w7.alloc (.cells (P4 b1 b2 b3 b4) 25)) (P4 c1 c2 c3 c4) 25
  rw [size1] at Lf
  replace HB := HB.trans ((below_a1 (w7.alloc (.cells (P4 b1 b2 b3 b4) 25)) (.cells (P4 c1 c2 c3 c4) 25)).mono HB.size)
  replace HC := Lib.hid (codeIn_below (B := 0) HC.out (below_a1 (w7.alloc (.cells (P4 b1 b2 b3 b4) 25)) (.cells (P4 c1 c2 c3 c4) 25)))
  generalize (w7.alloc (.cells (P4 b1 b2 b3 b4) 25)).alloc (.cells (P4 c1 c2 c3 c4) 25) = V7 at Lx Ly Lz Lt Lg Lm Ls Ld Lf HB HC ⊢
  obtain ⟨qd, hqd⟩ : ∃ b, w7.heap.size = b := ⟨_, rfl⟩
  rw [hqd] at Ld Lf ⊢
  clear hqd
  obtain ⟨d0, d1, d2, d3⟩ := lies_four Ld
  obtain ⟨f0, f1, f2, f3⟩ := lies_four Lf
  go_upto_region 11 with (first | (go_at_call 24; refine (implEqual_any _ _ _ _ _ _ _ _ _).mono ?_; rintro e w8 ⟨rfl, hb⟩; replace Lx := lies_next Lx hb; replace Ly := lies_next Ly hb; replace Lz := lies_next Lz hb; replace Lt := lies_next Lt hb; replace Lg := lies_next Lg hb; replace Lm := lies_next Lm hb; replace Ls := lies_next Ls hb; replace Ld := lies_next Ld hb; replace Lf := lies_next Lf hb; replace HB := HB.trans (hb.mono HB.size); replace HC := Lib.hid (codeIn_below (B := 0) HC.out hb)))
  clear d0 d1 d2 d3 f0 f1 f2 f3
  clear hb
  obtain ⟨d0, d1, d2, d3⟩ := lies_four Ld
  obtain ⟨f0, f1, f2, f3⟩ := lies_four Lf
  go_upto_region 12 with (first | (go_at_call 25; refine (specEqual_any _ _ _ _ _ _ _ _ _).mono ?_; rintro e w9 ⟨rfl, hb⟩; replace Lx := lies_next Lx hb; replace Ly := lies_next Ly hb; replace Lz := lies_next Lz hb; replace Lt := lies_next Lt hb; replace Lg := lies_next Lg hb; replace Lm := lies_next Lm hb; replace Ls := lies_next Ls hb; replace Ld := lies_next Ld hb; replace Lf := lies_next Lf hb; replace HB := HB.trans (hb.mono HB.size); replace HC := Lib.hid (codeIn_below (B := 0) HC.out hb)))
  clear d0 d1 d2 d3 f0 f1 f2 f3
  clear hb
  generalize eqV b1 b2 b3 b4 c1 c2 c3 c4 = E
  generalize eqC b1 b2 b3 b4 c1 c2 c3 c4 = ec
  clear Ld Lf
  obtain ⟨z0, z1, z2, z3⟩ := lies_four Lz
  obtain ⟨t0, t1, t2, t3⟩ := lies_four Lt
  obtain ⟨m0, m1, m2, m3⟩ := lies_four Lm
  obtain ⟨s0, s1, s2, s3⟩ := lies_four Ls
  obtain ⟨g0, g1, g2, g3⟩ := lies_four Lg
  go_cut [114] (fun s wx => s = .bool false ∧ Below w.heap.size w wx ∧ Lies wx qx (P4 p v u n) ∧ Lies wx (qx + 1) (P4 q v' u' n') ∧ Lies wx qz (P4 Z.1 Z.2.1 Z.2.2.1 Z.2.2.2) ∧ Lies wx qm (P4 M.1 M.2.1 M.2.2.1 M.2.2.2) ∧ Lies wx qg (P4 a1 a2 a3 a4))
  clear Lt Ls
  case first =>
    cases hx : padB a1 a2 a3 a4
    · have HX := Lib.hid hx
      have hnc : (nc == 0) = false := by rw [← HN.out.2]; simp [negC, hx]
      clear hx
      go_wp2_with (first | (go_at_call 26; refine (implIsPadic_any _ _ _ _ _).mono ?_; rw [HX.out]; rintro e v1 ⟨rfl, hb⟩; replace Lx := lies_next Lx hb; replace Ly := lies_next Ly hb; replace Lz := lies_next Lz hb; replace Lg := lies_next Lg hb; replace Lm := lies_next Lm hb; replace HB := HB.trans (hb.mono HB.size); replace HC := Lib.hid (codeIn_below (B := 0) HC.out hb)))
      go_meet
      case rel => exact ⟨rfl, HB, Lx, Ly, Lz, Lm, Lg⟩
    · have HX := Lib.hid hx
      have hnc : (nc == 0) = true := by rw [← HN.out.2]; simp [negC, hx]
      clear hx
      go_wp2_with (first | (go_at_call 26; refine (implIsPadic_any _ _ _ _ _).mono ?_; rw [HX.out]; rintro e v1 ⟨rfl, hb⟩; replace Lx := lies_next Lx hb; replace Ly := lies_next Ly hb; replace Lz := lies_next Lz hb; replace Lg := lies_next Lg hb; replace Lm := lies_next Lm hb; replace HB := HB.trans (hb.mono HB.size); replace HC := Lib.hid (codeIn_below (B := 0) HC.out hb)))
      go_meet
      case rel => exact ⟨rfl, HB, Lx, Ly, Lz, Lm, Lg⟩
  case rest =>
  clear z0 z1 z2 z3 t0 t1 t2 t3 m0 m1 m2 m3 s0 s1 s2 s3 g0 g1 g2 g3 HB HC Lx Ly Lz Lg Lm
  obtain ⟨rfl, HB, Lx, Ly, Lz, Lm, Lg⟩ := hcut
  go_upto_if 116 with fail
  go_cut [] (fun wx => Below w.heap.size w wx ∧ Lies wx qx (P4 p v u n) ∧ Lies wx (qx + 1) (P4 q v' u' n') ∧ Lies wx qz (P4 Z.1 Z.2.1 Z.2.2.1 Z.2.2.2))
  case first =>
    cases hx : padB a1 a2 a3 a4
    · have hnc : (nc == 0) = false := by rw [← HN.out.2]; simp [negC, hx]
      clear hx
      go_wp2_with fail
      go_meet
      case rel => exact ⟨HB, Lx, Ly, Lz⟩
    · have hk := padB_ok hx
      have hnc : nc = 0 := by rw [← HN.out.2]; simp [negC, hx]
      have hM : M = (a1, a2, negU a1 a3 a4, a4) := by rw [← HN.out.1]; simp [negQ, hx]
      obtain ⟨he1, he2⟩ := end_of hx
      have EN := fun w => implEnd_any a1 a2 a3 a4 w
      rw [he1, he2] at EN
      replace EN := Lib.hid EN
      have SM := fun w => implAdd_any a1 a2 a3 a4 a1 a2 (negU a1 a3 a4) a4 w
      have HS := sum_neg hk
      generalize sumQ a1 a2 a3 a4 a1 a2 (negU a1 a3 a4) a4 = R at SM HS
      generalize sumC a1 a2 a3 a4 a1 a2 (negU a1 a3 a4) a4 = rc at SM HS
      replace SM := Lib.hid SM
      subst hnc hM
      clear hx hk he1 he2
      dsimp only at Lm
      obtain h | h := HS
      · obtain ⟨hrc, hR⟩ := h
        subst hrc hR
        obtain ⟨m0, m1, m2, m3⟩ := lies_four Lm
        obtain ⟨g0, g1, g2, g3⟩ := lies_four Lg
        go_upto_region 16 with (first | (go_at_call 18; refine (SM.out _).mono ?_; rintro e w30 ⟨rfl, hb⟩; replace Lx := lies_next Lx hb; replace Ly := lies_next Ly hb; replace Lz := lies_next Lz hb; replace Lm := lies_next Lm hb; replace Lg := lies_next Lg hb; replace HB := HB.trans (hb.mono HB.size)))
        clear m0 m1 m2 m3 g0 g1 g2 g3
        clear hb
        replace Lx := lies_alloc Lx (.cells (P4 a1 (a2 + a4) 0 0) 25)
        replace Ly := lies_alloc Ly (.cells (P4 a1 (a2 + a4) 0 0) 25)
        replace Lz := lies_alloc Lz (.cells (P4 a1 (a2 + a4) 0 0) 25)
        replace Lm := lies_alloc Lm (.cells (P4 a1 (a2 + a4) 0 0) 25)
        replace Lg := lies_alloc Lg (.cells (P4 a1 (a2 + a4) 0 0) 25)
        have Lr := lies_new w30 (P4 a1 (a2 + a4) 0 0) 25
        replace HB := HB.trans ((below_a1 w30 (.cells (P4 a1 (a2 + a4) 0 0) 25)).mono HB.size)
        generalize w30.alloc (.cells (P4 a1 (a2 + a4) 0 0) 25) = V30 at Lx Ly Lz Lm Lg Lr HB ⊢
        obtain ⟨qr, hqr⟩ : ∃ b, w30.heap.size = b := ⟨_, rfl⟩
        rw [hqr] at Lr ⊢
        clear hqr
        obtain ⟨g0, g1, g2, g3⟩ := lies_four Lg
        go_upto_region 17 with (first | (go_at_call 27; refine (EN.out _).mono ?_; rintro e w31 ⟨rfl, hb⟩; replace Lx := lies_next Lx hb; replace Ly := lies_next Ly hb; replace Lz := lies_next Lz hb; replace Lm := lies_next Lm hb; replace Lg := lies_next Lg hb; replace Lr := lies_next Lr hb; replace HB := HB.trans (hb.mono HB.size)))
        clear g0 g1 g2 g3
        clear hb
        obtain ⟨r0, r1, r2, r3⟩ := lies_four Lr
        go_wp2_with fail
        go_meet
        case rel => exact ⟨HB, Lx, Ly, Lz⟩
      · subst h
        obtain ⟨m0, m1, m2, m3⟩ := lies_four Lm
        obtain ⟨g0, g1, g2, g3⟩ := lies_four Lg
        go_upto_region 16 with (first | (go_at_call 18; refine (SM.out _).mono ?_; rintro e w30 ⟨rfl, hb⟩; replace Lx := lies_next Lx hb; replace Ly := lies_next Ly hb; replace Lz := lies_next Lz hb; replace Lm := lies_next Lm hb; replace Lg := lies_next Lg hb; replace HB := HB.trans (hb.mono HB.size)))
        clear m0 m1 m2 m3 g0 g1 g2 g3
        clear hb
        replace Lx := lies_alloc Lx (.cells (P4 R.1 R.2.1 R.2.2.1 R.2.2.2) 25)
        replace Ly := lies_alloc Ly (.cells (P4 R.1 R.2.1 R.2.2.1 R.2.2.2) 25)
        replace Lz := lies_alloc Lz (.cells (P4 R.1 R.2.1 R.2.2.1 R.2.2.2) 25)
        replace Lm := lies_alloc Lm (.cells (P4 R.1 R.2.1 R.2.2.1 R.2.2.2) 25)
        replace Lg := lies_alloc Lg (.cells (P4 R.1 R.2.1 R.2.2.1 R.2.2.2) 25)
        have Lr := lies_new w30 (P4 R.1 R.2.1 R.2.2.1 R.2.2.2) 25
        replace HB := HB.trans ((below_a1 w30 (.cells (P4 R.1 R.2.1 R.2.2.1 R.2.2.2) 25)).mono HB.size)
        generalize w30.alloc (.cells (P4 R.1 R.2.1 R.2.2.1 R.2.2.2) 25) = V30 at Lx Ly Lz Lm Lg Lr HB ⊢
        obtain ⟨qr, hqr⟩ : ∃ b, w30.heap.size = b := ⟨_, rfl⟩
        rw [hqr] at Lr ⊢
        clear hqr
        obtain ⟨g0, g1, g2, g3⟩ := lies_four Lg
        go_upto_region 17 with (first | (go_at_call 27; refine (EN.out _).mono ?_; rintro e w31 ⟨rfl, hb⟩; replace Lx := lies_next Lx hb; replace Ly := lies_next Ly hb; replace Lz := lies_next Lz hb; replace Lm := lies_next Lm hb; replace Lg := lies_next Lg hb; replace Lr := lies_next Lr hb; replace HB := HB.trans (hb.mono HB.size)))
        clear g0 g1 g2 g3
        clear hb
        obtain ⟨r0, r1, r2, r3⟩ := lies_four Lr
        go_wp2_with fail
        go_meet
        case rel => exact ⟨HB, Lx, Ly, Lz⟩
  case rest =>
    clear HB Lx Ly Lz Lm Lg
    obtain ⟨HB, Lx, Ly, Lz⟩ := hcut
    by_cases hc : c = 0
    · obtain ⟨hpq, hkx, hky, hkz, hsw, hsc, hend⟩ := sum_ok (p := p) (v := v) (u := u) (n := n) (q := q) (v' := v') (u' := u') (n' := n') (by rw [HM.out.2]; exact hc)
      rw [HM.out.1] at hkz hsw hend
      have BK := fun w => implAdd_any q v' u' n' p v u n w
      rw [hsw, hsc] at BK
      obtain ⟨hx1, hx2⟩ := end_of (ok_padB hkx)
      obtain ⟨hy1, hy2⟩ := end_of (ok_padB hky)
      obtain ⟨hz1, hz2⟩ := end_of hkz
      have EX := fun w => implEnd_any p v u n w
      have EY := fun w => implEnd_any q v' u' n' w
      have EZ := fun w => implEnd_any Z.1 Z.2.1 Z.2.2.1 Z.2.2.2 w
      rw [hx1, hx2] at EX
      rw [hy1, hy2] at EY
      rw [hz1, hz2, hend] at EZ
      subst hpq hc
      replace BK := Lib.hid BK
      replace EX := Lib.hid EX
      replace EY := Lib.hid EY
      replace EZ := Lib.hid EZ
      clear hkx hky hkz hsw hsc hend hx1 hx2 hy1 hy2 hz1 hz2
      go_upto_region 21 with fail
      obtain ⟨x0, x1, x2, x3⟩ := lies_four Lx
      obtain ⟨y0, y1, y2, y3⟩ := lies_four Ly
      go_upto_region 22 with (first | (go_at_call 18; refine (BK.out _).mono ?_; rintro e w30 ⟨rfl, hb⟩; replace Lx := lies_next Lx hb; replace Ly := lies_next Ly hb; replace Lz := lies_next Lz hb; replace HB := HB.trans (hb.mono HB.size)))
      clear x0 x1 x2 x3 y0 y1 y2 y3
      clear hb
      replace Lx := lies_alloc Lx (.cells (P4 Z.1 Z.2.1 Z.2.2.1 Z.2.2.2) 25)
      replace Ly := lies_alloc Ly (.cells (P4 Z.1 Z.2.1 Z.2.2.1 Z.2.2.2) 25)
      replace Lz := lies_alloc Lz (.cells (P4 Z.1 Z.2.1 Z.2.2.1 Z.2.2.2) 25)
      have Lr := lies_new w30 (P4 Z.1 Z.2.1 Z.2.2.1 Z.2.2.2) 25
      replace HB := HB.trans ((below_a1 w30 (.cells (P4 Z.1 Z.2.1 Z.2.2.1 Z.2.2.2) 25)).mono HB.size)
      generalize w30.alloc (.cells (P4 Z.1 Z.2.1 Z.2.2.1 Z.2.2.2) 25) = V30 at Lx Ly Lz Lr HB ⊢
      obtain ⟨qr, hqr⟩ : ∃ b, w30.heap.size = b := ⟨_, rfl⟩
      rw [hqr] at Lr ⊢
      clear hqr
      obtain ⟨x0, x1, x2, x3⟩ := lies_four Lx
      go_upto_region 23 with (first | (go_at_call 27; refine (EX.out _).mono ?_; rintro e w31 ⟨rfl, hb⟩; replace Lx := lies_next Lx hb; replace Ly := lies_next Ly hb; replace Lz := lies_next Lz hb; replace Lr := lies_next Lr hb; replace HB := HB.trans (hb.mono HB.size)))
      clear x0 x1 x2 x3
      clear hb
      obtain ⟨y0, y1, y2, y3⟩ := lies_four Ly
      go_upto_region 24 with (first | (go_at_call 27; refine (EY.out _).mono ?_; rintro e w32 ⟨rfl, hb⟩; replace Lx := lies_next Lx hb; replace Ly := lies_next Ly hb; replace Lz := lies_next Lz hb; replace Lr := lies_next Lr hb; replace HB := HB.trans (hb.mono HB.size)))
      clear y0 y1 y2 y3
      clear hb
      obtain ⟨z0, z1, z2, z3⟩ := lies_four Lz
      go_upto_region 25 with (first | (go_at_call 27; refine (EZ.out _).mono ?_; rintro e w33 ⟨rfl, hb⟩; replace Lx := lies_next Lx hb; replace Ly := lies_next Ly hb; replace Lz := lies_next Lz hb; replace Lr := lies_next Lr hb; replace HB := HB.trans (hb.mono HB.size)))
      clear z0 z1 z2 z3
      clear hb
      obtain ⟨r0, r1, r2, r3⟩ := lies_four Lr
      obtain ⟨z0, z1, z2, z3⟩ := lies_four Lz
      go_wp2_with fail
      go_ret
      exact ⟨rfl, HB⟩
    · have hc' : (c == 0) = false := by simpa using hc
      clear hc
      go_wp2_with fail
      go_ret
      exact ⟨rfl, HB⟩
set_option maxRecDepth 100000 in
theorem sums_walk (a : Option Addr) (len cap : Nat) (zs : List Int) (w : World) (h : IsRowOf .u8 w a len cap zs) :
    Calls Try.prog 3 #[.slice a len cap] w fun e w' => e = .returned (.bool true) ∧ Below w.heap.size w w' := by
  obtain ⟨hc, hm⟩ := codeIn_of h
  by_cases hl : len ≤ 4096
  · exact sums_core a len cap w hl hc
  · clear hc h
    go_enter Try.func3, Try.ntmps3
    go_wp2_with (go_at_call 16; refine (big_yes _ _ _ _ (by omega) (by omega)).mono ?_; rintro e w' ⟨rfl, rfl⟩)
    go_ret
    exact ⟨rfl, Below.refl _ _⟩
end Go.Proofs.Ytdbiaiimdokleaa
