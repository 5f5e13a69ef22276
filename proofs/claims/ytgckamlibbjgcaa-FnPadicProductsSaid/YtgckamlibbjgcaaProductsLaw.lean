/- The walk of the law FnPadicProducts: true for every code; below the old memory nothing has turned. -/
import Derived.Test.YtgckamlibbjgcaaDrawPad4
import Derived.Test.YtgckamlibbjgcaaPadFacts
import Derived.Test.YtgckamlibbjgcaaPadSpec5
import Derived.Test.YtgckamlibbjgcaaCommonFn
namespace Go.Proofs.Ytgckamlibbjgcaa
open Go.RowKit
set_option linter.unusedVariables false
set_option maxRecDepth 20000
set_option linter.unusedSimpArgs false
set_option maxRecDepth 100000 in
set_option maxHeartbeats 4000000 in
theorem products_core (o : Option Addr) (len cap : Nat) (w : World) (hl : len ≤ 4096) (hc : CodeIn w o len) :
    Calls Try.prog 4 #[.slice o len cap] w fun e w' => e = .returned (.bool true) ∧ Below w.heap.size w w' := by
  have HC := Lib.hid hc
  have HB : Below w.heap.size w w := Below.refl _ _
  clear hc
  go_enter Try.func4, Try.ntmps4
  go_upto_region 3 with (go_at_call 11; refine (big_no _ _ _ _ hl).mono ?_; rintro e w' ⟨rfl, rfl⟩)
  go_upto_region 4 with (first | (go_at_call 24; refine (drawMul_any _ _ _ _ hl HC.out).mono ?_; rintro e w1 ⟨p, v, u, n, q, v', u', n', rfl, hb⟩; replace HB := HB.trans (hb.mono HB.size); replace HC := Lib.hid (codeIn_below (B := 0) HC.out hb)))
  clear hb
  have Lx := lies_new w1 (P4 p v u n) 34
  replace HB := HB.trans ((below_a1 w1 (.cells (P4 p v u n) 34)).mono HB.size)
  replace HC := Lib.hid (codeIn_below (B := 0) HC.out (below_a1 w1 (.cells (P4 p v u n) 34)))
  replace Lx := lies_alloc Lx (.cells (P4 q v' u' n') 34)
  have Ly := lies_new (w1.alloc (.cells (P4 p v u n) 34)) (P4 q v' u' n') 34
  rw [size1] at Ly
  replace HB := HB.trans ((below_a1 (w1.alloc (.cells (P4 p v u n) 34)) (.cells (P4 q v' u' n') 34)).mono HB.size)
  replace HC := Lib.hid (codeIn_below (B := 0) HC.out (below_a1 (w1.alloc (.cells (P4 p v u n) 34)) (.cells (P4 q v' u' n') 34)))
  generalize (w1.alloc (.cells (P4 p v u n) 34)).alloc (.cells (P4 q v' u' n') 34) = V1 at Lx Ly HB HC ⊢
  obtain ⟨qx, hqx⟩ : ∃ b, w1.heap.size = b := ⟨_, rfl⟩
  rw [hqx] at Lx Ly ⊢
  clear hqx
  have A1 := fun w => implMul_any p v u n q v' u' n' w
  have A2 := fun w => specMul_any p v u n q v' u' n' w
  obtain ⟨Z, hZ⟩ : ∃ Z, proQ p v u n q v' u' n' = Z := ⟨_, rfl⟩
  obtain ⟨c, hC⟩ : ∃ c, proC p v u n q v' u' n' = c := ⟨_, rfl⟩
  rw [hZ, hC] at A1 A2
  have HM := Lib.hid (And.intro hZ hC)
  have M1 := Lib.hid A1
  have M2 := Lib.hid A2
  clear hZ hC A1 A2
  obtain ⟨x0, x1, x2, x3⟩ := lies_four Lx
  obtain ⟨y0, y1, y2, y3⟩ := lies_four Ly
  go_upto_region 5 with (first | (go_at_call 25; refine (M1.out _).mono ?_; rintro e w2 ⟨rfl, hb⟩; replace Lx := lies_next Lx hb; replace Ly := lies_next Ly hb; replace HB := HB.trans (hb.mono HB.size); replace HC := Lib.hid (codeIn_below (B := 0) HC.out hb)))
  clear x0 x1 x2 x3 y0 y1 y2 y3
  clear hb
  replace Lx := lies_alloc Lx (.cells (P4 Z.1 Z.2.1 Z.2.2.1 Z.2.2.2) 34)
  replace Ly := lies_alloc Ly (.cells (P4 Z.1 Z.2.1 Z.2.2.1 Z.2.2.2) 34)
  have Lz := lies_new w2 (P4 Z.1 Z.2.1 Z.2.2.1 Z.2.2.2) 34
  replace HB := HB.trans ((below_a1 w2 (.cells (P4 Z.1 Z.2.1 Z.2.2.1 Z.2.2.2) 34)).mono HB.size)
  replace HC := Lib.hid (codeIn_below (B := 0) HC.out (below_a1 w2 (.cells (P4 Z.1 Z.2.1 Z.2.2.1 Z.2.2.2) 34)))
  generalize w2.alloc (.cells (P4 Z.1 Z.2.1 Z.2.2.1 Z.2.2.2) 34) = V2 at Lx Ly Lz HB HC ⊢
  obtain ⟨qz, hqz⟩ : ∃ b, w2.heap.size = b := ⟨_, rfl⟩
  rw [hqz] at Lz ⊢
  clear hqz
  obtain ⟨x0, x1, x2, x3⟩ := lies_four Lx
  obtain ⟨y0, y1, y2, y3⟩ := lies_four Ly
  go_upto_region 6 with (first | (go_at_call 26; refine (M2.out _).mono ?_; rintro e w3 ⟨rfl, hb⟩; replace Lx := lies_next Lx hb; replace Ly := lies_next Ly hb; replace Lz := lies_next Lz hb; replace HB := HB.trans (hb.mono HB.size); replace HC := Lib.hid (codeIn_below (B := 0) HC.out hb)))
  clear x0 x1 x2 x3 y0 y1 y2 y3
  clear hb
  replace Lx := lies_alloc Lx (.cells (P4 Z.1 Z.2.1 Z.2.2.1 Z.2.2.2) 34)
  replace Ly := lies_alloc Ly (.cells (P4 Z.1 Z.2.1 Z.2.2.1 Z.2.2.2) 34)
  replace Lz := lies_alloc Lz (.cells (P4 Z.1 Z.2.1 Z.2.2.1 Z.2.2.2) 34)
  have Lt := lies_new w3 (P4 Z.1 Z.2.1 Z.2.2.1 Z.2.2.2) 34
  replace HB := HB.trans ((below_a1 w3 (.cells (P4 Z.1 Z.2.1 Z.2.2.1 Z.2.2.2) 34)).mono HB.size)
  replace HC := Lib.hid (codeIn_below (B := 0) HC.out (below_a1 w3 (.cells (P4 Z.1 Z.2.1 Z.2.2.1 Z.2.2.2) 34)))
  generalize w3.alloc (.cells (P4 Z.1 Z.2.1 Z.2.2.1 Z.2.2.2) 34) = V3 at Lx Ly Lz Lt HB HC ⊢
  obtain ⟨qt, hqt⟩ : ∃ b, w3.heap.size = b := ⟨_, rfl⟩
  rw [hqt] at Lt ⊢
  clear hqt
  go_upto_region 7 with (first | (go_at_call 27; refine (drawInvert_any _ _ _ _ hl HC.out).mono ?_; rintro e w4 ⟨a1, a2, a3, a4, rfl, hb⟩; replace Lx := lies_next Lx hb; replace Ly := lies_next Ly hb; replace Lz := lies_next Lz hb; replace Lt := lies_next Lt hb; replace HB := HB.trans (hb.mono HB.size); replace HC := Lib.hid (codeIn_below (B := 0) HC.out hb)))
  clear hb
  replace Lx := lies_alloc Lx (.cells (P4 a1 a2 a3 a4) 34)
  replace Ly := lies_alloc Ly (.cells (P4 a1 a2 a3 a4) 34)
  replace Lz := lies_alloc Lz (.cells (P4 a1 a2 a3 a4) 34)
  replace Lt := lies_alloc Lt (.cells (P4 a1 a2 a3 a4) 34)
  have Lg := lies_new w4 (P4 a1 a2 a3 a4) 34
  replace HB := HB.trans ((below_a1 w4 (.cells (P4 a1 a2 a3 a4) 34)).mono HB.size)
  replace HC := Lib.hid (codeIn_below (B := 0) HC.out (below_a1 w4 (.cells (P4 a1 a2 a3 a4) 34)))
  generalize w4.alloc (.cells (P4 a1 a2 a3 a4) 34) = V4 at Lx Ly Lz Lt Lg HB HC ⊢
  obtain ⟨qg, hqg⟩ : ∃ b, w4.heap.size = b := ⟨_, rfl⟩
  rw [hqg] at Lg ⊢
  clear hqg
  have A1 := fun w => implInvert_any a1 a2 a3 a4 w
  have A2 := fun w => specInvert_any a1 a2 a3 a4 w
  obtain ⟨V, hZ⟩ : ∃ Z, invQ a1 a2 a3 a4 = Z := ⟨_, rfl⟩
  obtain ⟨ic, hC⟩ : ∃ c, invC a1 a2 a3 a4 = c := ⟨_, rfl⟩
  rw [hZ, hC] at A1 A2
  have HV := Lib.hid (And.intro hZ hC)
  have N1 := Lib.hid A1
  have N2 := Lib.hid A2
  clear hZ hC A1 A2
  obtain ⟨g0, g1, g2, g3⟩ := lies_four Lg
  go_upto_region 8 with (first | (go_at_call 28; refine (N1.out _).mono ?_; rintro e w5 ⟨rfl, hb⟩; replace Lx := lies_next Lx hb; replace Ly := lies_next Ly hb; replace Lz := lies_next Lz hb; replace Lt := lies_next Lt hb; replace Lg := lies_next Lg hb; replace HB := HB.trans (hb.mono HB.size); replace HC := Lib.hid (codeIn_below (B := 0) HC.out hb)))
  clear g0 g1 g2 g3
  clear hb
  replace Lx := lies_alloc Lx (.cells (P4 V.1 V.2.1 V.2.2.1 V.2.2.2) 34)
  replace Ly := lies_alloc Ly (.cells (P4 V.1 V.2.1 V.2.2.1 V.2.2.2) 34)
  replace Lz := lies_alloc Lz (.cells (P4 V.1 V.2.1 V.2.2.1 V.2.2.2) 34)
  replace Lt := lies_alloc Lt (.cells (P4 V.1 V.2.1 V.2.2.1 V.2.2.2) 34)
  replace Lg := lies_alloc Lg (.cells (P4 V.1 V.2.1 V.2.2.1 V.2.2.2) 34)
  have Lm := lies_new w5 (P4 V.1 V.2.1 V.2.2.1 V.2.2.2) 34
  replace HB := HB.trans ((below_a1 w5 (.cells (P4 V.1 V.2.1 V.2.2.1 V.2.2.2) 34)).mono HB.size)
  replace HC := Lib.hid (codeIn_below (B := 0) HC.out (below_a1 w5 (.cells (P4 V.1 V.2.1 V.2.2.1 V.2.2.2) 34)))
  generalize w5.alloc (.cells (P4 V.1 V.2.1 V.2.2.1 V.2.2.2) 34) = V5 at Lx Ly Lz Lt Lg Lm HB HC ⊢
  obtain ⟨qm, hqm⟩ : ∃ b, w5.heap.size = b := ⟨_, rfl⟩
  rw [hqm] at Lm ⊢
  clear hqm
  obtain ⟨g0, g1, g2, g3⟩ := lies_four Lg
  go_upto_region 9 with (first | (go_at_call 29; refine (N2.out _).mono ?_; rintro e w6 ⟨rfl, hb⟩; replace Lx := lies_next Lx hb; replace Ly := lies_next Ly hb; replace Lz := lies_next Lz hb; replace Lt := lies_next Lt hb; replace Lg := lies_next Lg hb; replace Lm := lies_next Lm hb; replace HB := HB.trans (hb.mono HB.size); replace HC := Lib.hid (codeIn_below (B := 0) HC.out hb)))
  clear g0 g1 g2 g3
  clear hb
  replace Lx := lies_alloc Lx (.cells (P4 V.1 V.2.1 V.2.2.1 V.2.2.2) 34)
  replace Ly := lies_alloc Ly (.cells (P4 V.1 V.2.1 V.2.2.1 V.2.2.2) 34)
  replace Lz := lies_alloc Lz (.cells (P4 V.1 V.2.1 V.2.2.1 V.2.2.2) 34)
  replace Lt := lies_alloc Lt (.cells (P4 V.1 V.2.1 V.2.2.1 V.2.2.2) 34)
  replace Lg := lies_alloc Lg (.cells (P4 V.1 V.2.1 V.2.2.1 V.2.2.2) 34)
  replace Lm := lies_alloc Lm (.cells (P4 V.1 V.2.1 V.2.2.1 V.2.2.2) 34)
  have Ls := lies_new w6 (P4 V.1 V.2.1 V.2.2.1 V.2.2.2) 34
  replace HB := HB.trans ((below_a1 w6 (.cells (P4 V.1 V.2.1 V.2.2.1 V.2.2.2) 34)).mono HB.size)
  replace HC := Lib.hid (codeIn_below (B := 0) HC.out (below_a1 w6 (.cells (P4 V.1 V.2.1 V.2.2.1 V.2.2.2) 34)))
  generalize w6.alloc (.cells (P4 V.1 V.2.1 V.2.2.1 V.2.2.2) 34) = V6 at Lx Ly Lz Lt Lg Lm Ls HB HC ⊢
  obtain ⟨qs, hqs⟩ : ∃ b, w6.heap.size = b := ⟨_, rfl⟩
  rw [hqs] at Ls ⊢
  clear hqs
  go_upto_region 10 with (first | (go_at_call 30; refine (drawCut_any _ _ _ _ hl HC.out).mono ?_; rintro e w7 ⟨b1, b2, b3, b4, k, rfl, hb⟩; replace Lx := lies_next Lx hb; replace Ly := lies_next Ly hb; replace Lz := lies_next Lz hb; replace Lt := lies_next Lt hb; replace Lg := lies_next Lg hb; replace Lm := lies_next Lm hb; replace Ls := lies_next Ls hb; replace HB := HB.trans (hb.mono HB.size); replace HC := Lib.hid (codeIn_below (B := 0) HC.out hb)))
  clear hb
  replace Lx := lies_alloc Lx (.cells (P4 b1 b2 b3 b4) 34)
  replace Ly := lies_alloc Ly (.cells (P4 b1 b2 b3 b4) 34)
  replace Lz := lies_alloc Lz (.cells (P4 b1 b2 b3 b4) 34)
  replace Lt := lies_alloc Lt (.cells (P4 b1 b2 b3 b4) 34)
  replace Lg := lies_alloc Lg (.cells (P4 b1 b2 b3 b4) 34)
  replace Lm := lies_alloc Lm (.cells (P4 b1 b2 b3 b4) 34)
  replace Ls := lies_alloc Ls (.cells (P4 b1 b2 b3 b4) 34)
  have Ld := lies_new w7 (P4 b1 b2 b3 b4) 34
  replace HB := HB.trans ((below_a1 w7 (.cells (P4 b1 b2 b3 b4) 34)).mono HB.size)
  replace HC := Lib.hid (codeIn_below (B := 0) HC.out (below_a1 w7 (.cells (P4 b1 b2 b3 b4) 34)))
  generalize w7.alloc (.cells (P4 b1 b2 b3 b4) 34) = V7 at Lx Ly Lz Lt Lg Lm Ls Ld HB HC ⊢
  obtain ⟨qd, hqd⟩ : ∃ b, w7.heap.size = b := ⟨_, rfl⟩
  rw [hqd] at Ld ⊢
  clear hqd
  have A1 := fun w => implCut_any b1 b2 b3 b4 k w
  have A2 := fun w => specCut_any b1 b2 b3 b4 k w
  obtain ⟨D, hZ⟩ : ∃ Z, cutQ b1 b2 b3 b4 k = Z := ⟨_, rfl⟩
  obtain ⟨dc, hC⟩ : ∃ c, cutC b1 b2 b3 b4 k = c := ⟨_, rfl⟩
  rw [hZ, hC] at A1 A2
  have HD := Lib.hid (And.intro hZ hC)
  have O1 := Lib.hid A1
  have O2 := Lib.hid A2
  clear hZ hC A1 A2
  obtain ⟨d0, d1, d2, d3⟩ := lies_four Ld
  go_upto_region 11 with (first | (go_at_call 31; refine (O1.out _).mono ?_; rintro e w8 ⟨rfl, hb⟩; replace Lx := lies_next Lx hb; replace Ly := lies_next Ly hb; replace Lz := lies_next Lz hb; replace Lt := lies_next Lt hb; replace Lg := lies_next Lg hb; replace Lm := lies_next Lm hb; replace Ls := lies_next Ls hb; replace Ld := lies_next Ld hb; replace HB := HB.trans (hb.mono HB.size); replace HC := Lib.hid (codeIn_below (B := 0) HC.out hb)))
  clear d0 d1 d2 d3
  clear hb
  replace Lx := lies_alloc Lx (.cells (P4 D.1 D.2.1 D.2.2.1 D.2.2.2) 34)
  replace Ly := lies_alloc Ly (.cells (P4 D.1 D.2.1 D.2.2.1 D.2.2.2) 34)
  replace Lz := lies_alloc Lz (.cells (P4 D.1 D.2.1 D.2.2.1 D.2.2.2) 34)
  replace Lt := lies_alloc Lt (.cells (P4 D.1 D.2.1 D.2.2.1 D.2.2.2) 34)
  replace Lg := lies_alloc Lg (.cells (P4 D.1 D.2.1 D.2.2.1 D.2.2.2) 34)
  replace Lm := lies_alloc Lm (.cells (P4 D.1 D.2.1 D.2.2.1 D.2.2.2) 34)
  replace Ls := lies_alloc Ls (.cells (P4 D.1 D.2.1 D.2.2.1 D.2.2.2) 34)
  replace Ld := lies_alloc Ld (.cells (P4 D.1 D.2.1 D.2.2.1 D.2.2.2) 34)
  have Lf := lies_new w8 (P4 D.1 D.2.1 D.2.2.1 D.2.2.2) 34
  replace HB := HB.trans ((below_a1 w8 (.cells (P4 D.1 D.2.1 D.2.2.1 D.2.2.2) 34)).mono HB.size)
  replace HC := Lib.hid (codeIn_below (B := 0) HC.out (below_a1 w8 (.cells (P4 D.1 D.2.1 D.2.2.1 D.2.2.2) 34)))
  generalize w8.alloc (.cells (P4 D.1 D.2.1 D.2.2.1 D.2.2.2) 34) = V8 at Lx Ly Lz Lt Lg Lm Ls Ld Lf HB HC ⊢
  obtain ⟨qf, hqf⟩ : ∃ b, w8.heap.size = b := ⟨_, rfl⟩
  rw [hqf] at Lf ⊢
  clear hqf
  obtain ⟨d0, d1, d2, d3⟩ := lies_four Ld
  go_upto_region 12 with (first | (go_at_call 32; refine (O2.out _).mono ?_; rintro e w9 ⟨rfl, hb⟩; replace Lx := lies_next Lx hb; replace Ly := lies_next Ly hb; replace Lz := lies_next Lz hb; replace Lt := lies_next Lt hb; replace Lg := lies_next Lg hb; replace Lm := lies_next Lm hb; replace Ls := lies_next Ls hb; replace Ld := lies_next Ld hb; replace Lf := lies_next Lf hb; replace HB := HB.trans (hb.mono HB.size); replace HC := Lib.hid (codeIn_below (B := 0) HC.out hb)))
  clear d0 d1 d2 d3
  clear hb
  replace Lx := lies_alloc Lx (.cells (P4 D.1 D.2.1 D.2.2.1 D.2.2.2) 34)
  replace Ly := lies_alloc Ly (.cells (P4 D.1 D.2.1 D.2.2.1 D.2.2.2) 34)
  replace Lz := lies_alloc Lz (.cells (P4 D.1 D.2.1 D.2.2.1 D.2.2.2) 34)
  replace Lt := lies_alloc Lt (.cells (P4 D.1 D.2.1 D.2.2.1 D.2.2.2) 34)
  replace Lg := lies_alloc Lg (.cells (P4 D.1 D.2.1 D.2.2.1 D.2.2.2) 34)
  replace Lm := lies_alloc Lm (.cells (P4 D.1 D.2.1 D.2.2.1 D.2.2.2) 34)
  replace Ls := lies_alloc Ls (.cells (P4 D.1 D.2.1 D.2.2.1 D.2.2.2) 34)
  replace Ld := lies_alloc Ld (.cells (P4 D.1 D.2.1 D.2.2.1 D.2.2.2) 34)
  replace Lf := lies_alloc Lf (.cells (P4 D.1 D.2.1 D.2.2.1 D.2.2.2) 34)
  have Lh := lies_new w9 (P4 D.1 D.2.1 D.2.2.1 D.2.2.2) 34
  replace HB := HB.trans ((below_a1 w9 (.cells (P4 D.1 D.2.1 D.2.2.1 D.2.2.2) 34)).mono HB.size)
  replace HC := Lib.hid (codeIn_below (B := 0) HC.out (below_a1 w9 (.cells (P4 D.1 D.2.1 D.2.2.1 D.2.2.2) 34)))
  generalize w9.alloc (.cells (P4 D.1 D.2.1 D.2.2.1 D.2.2.2) 34) = V9 at Lx Ly Lz Lt Lg Lm Ls Ld Lf Lh HB HC ⊢
  obtain ⟨qh, hqh⟩ : ∃ b, w9.heap.size = b := ⟨_, rfl⟩
  rw [hqh] at Lh ⊢
  clear hqh
  obtain ⟨z0, z1, z2, z3⟩ := lies_four Lz
  obtain ⟨t0, t1, t2, t3⟩ := lies_four Lt
  obtain ⟨m0, m1, m2, m3⟩ := lies_four Lm
  obtain ⟨s0, s1, s2, s3⟩ := lies_four Ls
  obtain ⟨f0, f1, f2, f3⟩ := lies_four Lf
  obtain ⟨h0, h1, h2, h3⟩ := lies_four Lh
  go_cut [101] (fun s wx => s = .bool false ∧ Below w.heap.size w wx ∧ Lies wx qx (P4 p v u n) ∧ Lies wx (qx + 1) (P4 q v' u' n') ∧ Lies wx qz (P4 Z.1 Z.2.1 Z.2.2.1 Z.2.2.2) ∧ Lies wx qg (P4 a1 a2 a3 a4) ∧ Lies wx qm (P4 V.1 V.2.1 V.2.2.1 V.2.2.2) ∧ Lies wx qd (P4 b1 b2 b3 b4) ∧ Lies wx qf (P4 D.1 D.2.1 D.2.2.1 D.2.2.2))
  case first =>
    go_wp2_with fail
    go_meet
    case rel => exact ⟨rfl, HB, Lx, Ly, Lz, Lg, Lm, Ld, Lf⟩
  case rest =>
  clear z0 z1 z2 z3 t0 t1 t2 t3 m0 m1 m2 m3 s0 s1 s2 s3 f0 f1 f2 f3 h0 h1 h2 h3 HB HC Lx Ly Lz Lt Lg Lm Ls Ld Lf Lh
  obtain ⟨rfl, HB, Lx, Ly, Lz, Lg, Lm, Ld, Lf⟩ := hcut
  go_upto_if 103 with fail
  go_cut [] (fun wx => Below w.heap.size w wx ∧ Lies wx qx (P4 p v u n) ∧ Lies wx (qx + 1) (P4 q v' u' n') ∧ Lies wx qz (P4 Z.1 Z.2.1 Z.2.2.1 Z.2.2.2) ∧ Lies wx qg (P4 a1 a2 a3 a4) ∧ Lies wx qm (P4 V.1 V.2.1 V.2.2.1 V.2.2.2))
  case first =>
    by_cases hd : dc = 0
    · obtain ⟨hkd, hk1, hk2, hD, hkf, hor⟩ := cut_ok (p := b1) (v := b2) (u := b3) (n := b4) (k := k) (by rw [HD.out.2]; exact hd)
      rw [HD.out.1] at hD
      obtain ⟨he1, he2⟩ := end_of (ok_padB hkf)
      have EN := fun w => implEnd_any b1 b2 (b3 % pw b1 k) k w
      rw [he1, he2] at EN
      replace EN := Lib.hid EN
      have EQ := fun w => implEqual_any b1 b2 b3 b4 b1 b2 (b3 % pw b1 k) k w
      generalize eqC b1 b2 b3 b4 b1 b2 (b3 % pw b1 k) k = qc at EQ hor
      generalize eqV b1 b2 b3 b4 b1 b2 (b3 % pw b1 k) k = qv at EQ hor
      replace EQ := Lib.hid EQ
      subst hd hD
      clear hkd hk1 hk2 hkf he1 he2
      dsimp only at Lf
      obtain h | h := hor
      · obtain ⟨hqc, hqv⟩ := h
        subst hqc hqv
        have hlt : decide (b2 + k < b2 + k) = false := decide_eq_false (by omega)
        obtain ⟨d0, d1, d2, d3⟩ := lies_four Ld
        obtain ⟨f0, f1, f2, f3⟩ := lies_four Lf
        go_upto_region 16 with (first | (go_at_call 33; refine (EQ.out _).mono ?_; rintro e w30 ⟨rfl, hb⟩; replace Lx := lies_next Lx hb; replace Ly := lies_next Ly hb; replace Lz := lies_next Lz hb; replace Lg := lies_next Lg hb; replace Lm := lies_next Lm hb; replace Ld := lies_next Ld hb; replace Lf := lies_next Lf hb; replace HB := HB.trans (hb.mono HB.size)))
        clear d0 d1 d2 d3 f0 f1 f2 f3
        clear hb
        obtain ⟨f0, f1, f2, f3⟩ := lies_four Lf
        go_upto_region 17 with (first | (go_at_call 34; refine (EN.out _).mono ?_; rintro e w31 ⟨rfl, hb⟩; replace Lx := lies_next Lx hb; replace Ly := lies_next Ly hb; replace Lz := lies_next Lz hb; replace Lg := lies_next Lg hb; replace Lm := lies_next Lm hb; replace Ld := lies_next Ld hb; replace Lf := lies_next Lf hb; replace HB := HB.trans (hb.mono HB.size)))
        clear f0 f1 f2 f3
        clear hb
        go_wp2_with fail
        go_meet
        case rel => exact ⟨HB, Lx, Ly, Lz, Lg, Lm⟩
      · subst h
        obtain ⟨d0, d1, d2, d3⟩ := lies_four Ld
        obtain ⟨f0, f1, f2, f3⟩ := lies_four Lf
        go_upto_region 16 with (first | (go_at_call 33; refine (EQ.out _).mono ?_; rintro e w30 ⟨rfl, hb⟩; replace Lx := lies_next Lx hb; replace Ly := lies_next Ly hb; replace Lz := lies_next Lz hb; replace Lg := lies_next Lg hb; replace Lm := lies_next Lm hb; replace Ld := lies_next Ld hb; replace Lf := lies_next Lf hb; replace HB := HB.trans (hb.mono HB.size)))
        clear d0 d1 d2 d3 f0 f1 f2 f3
        clear hb
        obtain ⟨f0, f1, f2, f3⟩ := lies_four Lf
        go_upto_region 17 with (first | (go_at_call 34; refine (EN.out _).mono ?_; rintro e w31 ⟨rfl, hb⟩; replace Lx := lies_next Lx hb; replace Ly := lies_next Ly hb; replace Lz := lies_next Lz hb; replace Lg := lies_next Lg hb; replace Lm := lies_next Lm hb; replace Ld := lies_next Ld hb; replace Lf := lies_next Lf hb; replace HB := HB.trans (hb.mono HB.size)))
        clear f0 f1 f2 f3
        clear hb
        go_wp2_with fail
        go_meet
        case rel => exact ⟨HB, Lx, Ly, Lz, Lg, Lm⟩
    · have hd' : (dc == 0) = false := by simpa using hd
      clear hd
      go_wp2_with fail
      go_meet
      case rel => exact ⟨HB, Lx, Ly, Lz, Lg, Lm⟩
  case rest =>
  clear HB Lx Ly Lz Lg Lm Ld Lf
  obtain ⟨HB, Lx, Ly, Lz, Lg, Lm⟩ := hcut
  go_upto_if 135 with fail
  go_cut [] (fun wx => Below w.heap.size w wx ∧ Lies wx qx (P4 p v u n) ∧ Lies wx (qx + 1) (P4 q v' u' n') ∧ Lies wx qz (P4 Z.1 Z.2.1 Z.2.2.1 Z.2.2.2))
  case first =>
    by_cases hi : ic = 0
    · obtain ⟨hk, hV, hp1, hp2⟩ := inv_ok (p := a1) (v := a2) (u := a3) (n := a4) (by rw [HV.out.2]; exact hi)
      rw [HV.out.1] at hV
      have PR := fun w => implMul_any a1 a2 a3 a4 a1 (-a2) (invV a1 a4 a3) a4 w
      rw [hp1, hp2] at PR
      replace PR := Lib.hid PR
      subst hi hV
      clear hk hp1 hp2
      dsimp only at Lm
      obtain ⟨g0, g1, g2, g3⟩ := lies_four Lg
      obtain ⟨m0, m1, m2, m3⟩ := lies_four Lm
      go_upto_region 21 with (first | (go_at_call 25; refine (PR.out _).mono ?_; rintro e w30 ⟨rfl, hb⟩; replace Lx := lies_next Lx hb; replace Ly := lies_next Ly hb; replace Lz := lies_next Lz hb; replace Lg := lies_next Lg hb; replace Lm := lies_next Lm hb; replace HB := HB.trans (hb.mono HB.size)))
      clear g0 g1 g2 g3 m0 m1 m2 m3
      clear hb
      replace Lx := lies_alloc Lx (.cells (P4 a1 0 1 a4) 34)
      replace Ly := lies_alloc Ly (.cells (P4 a1 0 1 a4) 34)
      replace Lz := lies_alloc Lz (.cells (P4 a1 0 1 a4) 34)
      replace Lg := lies_alloc Lg (.cells (P4 a1 0 1 a4) 34)
      replace Lm := lies_alloc Lm (.cells (P4 a1 0 1 a4) 34)
      have Lr := lies_new w30 (P4 a1 0 1 a4) 34
      replace HB := HB.trans ((below_a1 w30 (.cells (P4 a1 0 1 a4) 34)).mono HB.size)
      generalize w30.alloc (.cells (P4 a1 0 1 a4) 34) = V30 at Lx Ly Lz Lg Lm Lr HB ⊢
      obtain ⟨qr, hqr⟩ : ∃ b, w30.heap.size = b := ⟨_, rfl⟩
      rw [hqr] at Lr ⊢
      clear hqr
      obtain ⟨r0, r1, r2, r3⟩ := lies_four Lr
      obtain ⟨g0, g1, g2, g3⟩ := lies_four Lg
      go_wp2_with fail
      go_meet
      case rel => exact ⟨HB, Lx, Ly, Lz⟩
    · have hi' : (ic == 0) = false := by simpa using hi
      clear hi
      go_wp2_with fail
      go_meet
      case rel => exact ⟨HB, Lx, Ly, Lz⟩
  case rest =>
  clear HB Lx Ly Lz Lg Lm
  obtain ⟨HB, Lx, Ly, Lz⟩ := hcut
  obtain ⟨x0, x1, x2, x3⟩ := lies_four Lx
  obtain ⟨y0, y1, y2, y3⟩ := lies_four Ly
  obtain ⟨z0, z1, z2, z3⟩ := lies_four Lz
  by_cases hc : c = 0
  · obtain ⟨hkx, hky, hz1, hz2⟩ := pro_ok (p := p) (v := v) (u := u) (n := n) (q := q) (v' := v') (u' := u') (n' := n') (by rw [HM.out.2]; exact hc)
    rw [HM.out.1] at hz1 hz2
    have hv0 := hkx.2.1
    have hv1 := hkx.2.2.1
    have hv0' := hky.2.1
    have hv1' := hky.2.2.1
    have hw := IntWalk.i64_in (v + v') (by omega)
    have e1 : (Z.2.1 == v + v') = true := by simp [hz1]
    have e2 : (Z.2.2.2 == min n n') = true := by simp [hz2]
    have E2 := Lib.hid e2
    subst hc
    clear hkx hky hz1 hz2
    go_wp2_with fail
    go_ret
    exact ⟨rfl, HB⟩
  · have hc' : (c == 0) = false := by simpa using hc
    have hc2 : (c != 0) = true := by simp [hc]
    go_wp2_with fail
    go_ret
    exact ⟨rfl, HB⟩
set_option maxRecDepth 100000 in
theorem products_walk (a : Option Addr) (len cap : Nat) (zs : List Int) (w : World) (h : IsRowOf .u8 w a len cap zs) :
    Calls Try.prog 4 #[.slice a len cap] w fun e w' => e = .returned (.bool true) ∧ Below w.heap.size w w' := by
  obtain ⟨hc, hm⟩ := codeIn_of h
  by_cases hl : len ≤ 4096
  · exact products_core a len cap w hl hc
  · clear hc h
    go_enter Try.func4, Try.ntmps4
    go_wp2_with (go_at_call 11; refine (big_yes _ _ _ _ (by omega) (by omega)).mono ?_; rintro e w' ⟨rfl, rfl⟩)
    go_ret
    exact ⟨rfl, Below.refl _ _⟩
end Go.Proofs.Ytgckamlibbjgcaa
