/- The walk of the law FnRationals: true for every code; below the old memory nothing has turned. -/
import Derived.Test.YtmggcoacaijnjaaRatDraw2
import Derived.Test.YtmggcoacaijnjaaRatImpl4
import Derived.Test.YtmggcoacaijnjaaCommonFn
import Derived.Deep.DeepCutAuto
namespace Go.Proofs.Ytmggcoacaijnjaa
open Go.RowKit
set_option linter.unusedVariables false
set_option linter.unusedSimpArgs false
def LL (l : List (Nat × Array Value)) (w : World) : Prop := ∀ x ∈ l, Lies w x.1 x.2
theorem ll_nil (w : World) : LL [] w := fun x hx => by cases hx
theorem ll_next {l : List (Nat × Array Value)} {w1 w2 : World} (h : LL l w1) (hb : Below w1.heap.size w1 w2) : LL l w2 := fun x hx => lies_next (h x hx) hb
theorem ll_drew {l : List (Nat × Array Value)} {w1 : World} (h : LL l w1) : LL l w1.drew := fun x hx => h x hx
theorem ll_new {l : List (Nat × Array Value)} (w : World) (h : LL l w) (vs : Array Value) (T : TypeId) : LL ((w.heap.size, vs) :: l) (w.alloc (.cells vs T)) := by
  intro x hx
  cases hx with
  | head => exact lies_new w vs T
  | tail _ hx => exact lies_alloc (h x hx) _
/-- the old memory and the variables -/
abbrev LS (w : World) (l : List (Nat × Array Value)) (w1 : World) : Prop := Below w.heap.size w w1 ∧ LL l w1
theorem ls_next {w : World} {l : List (Nat × Array Value)} {w1 w2 : World} (h : LS w l w1) (hb : Below w1.heap.size w1 w2) : LS w l w2 := ⟨h.1.trans (hb.mono h.1.size), ll_next h.2 hb⟩
theorem ls_drew {w : World} {l : List (Nat × Array Value)} {w1 : World} (h : LS w l w1) : LS w l w1.drew := ⟨below_drewN h.1 1, ll_drew h.2⟩
/-- what the law asks of a made number -/
theorem make_back {x y : Int} (h : makeRC x y = 0) : isRatB (makeRQ x y).1 (makeRQ x y).2 = true ∧ ¬ (makeRQ x y).2 = 0 ∧ y.tdiv (makeRQ x y).2 = rlG x y ∧ IntKind.i64.wrap (rlG x y) = rlG x y ∧
    (makeRQ x y).1 * rlG x y = x ∧ IntKind.i64.wrap x = x ∧ ((makeRQ x y).2 == 0) = false := by
  obtain ⟨x0, x1, y0, y1, hy, hv⟩ := makeR_zero h
  have hq : makeRQ x y = (rlN x y, rlD x y) := by simp [makeRQ, h]
  rw [hq]
  have hp := low_pos (n := x) hy
  obtain ⟨e1, e2⟩ := low_mul x y
  have g1 := gcd_ge1 (n := x) hy
  have g2 := gcd_le (n := x) hy y0 y1
  have hG : -1000000000000 ≤ rlG x y ∧ rlG x y ≤ 1000000000000 := by unfold rlG; split <;> omega
  have ht : y.tdiv (rlD x y) = rlG x y := by
    have hd : rlD x y ≠ 0 := by omega
    have h2 : y = rlD x y * rlG x y := e2.symm
    calc y.tdiv (rlD x y) = (rlD x y * rlG x y).tdiv (rlD x y) := by rw [← h2]
      _ = rlG x y := Int.mul_tdiv_cancel_left _ hd
  exact ⟨hv, by show ¬ rlD x y = 0; omega, ht, IntWalk.i64_in _ (by omega), e1, IntWalk.i64_in _ (by omega), by show (rlD x y == 0) = false; simp; omega⟩
set_option maxRecDepth 100000 in
set_option maxHeartbeats 4000000 in
theorem rationals_core (o : Option Addr) (len cap : Nat) (w : World) (hl : len ≤ 4096) (hc : CodeIn w o len) :
    Calls Try.prog 4 #[.slice o len cap] w fun e w' => e = .returned (.bool true) ∧ Below w.heap.size w w' := by
  have HC := Lib.hid hc
  have HB : Below w.heap.size w w := Below.refl _ _
  have L := ll_nil w
  clear hc
  go_enter Try.func4, Try.ntmps4
  go_upto_region 3 with (go_at_call 14; refine (big_no _ _ _ _ hl).mono ?_; rintro e w' ⟨rfl, rfl⟩)
  go_upto_region 4 with (first | (go_at_call 23; refine (drawMulR_any _ _ _ _ hl HC.out).mono ?_; rintro e w1 ⟨a, b, c, d, rfl, hb⟩; replace L := ll_next L hb; replace HB := HB.trans (hb.mono HB.size); replace HC := Lib.hid (codeIn_below (B := 0) HC.out hb)))
  clear hb
  replace L := ll_new w1 L (P2 a b) 33
  replace HB := HB.trans ((below_a1 w1 (.cells (P2 a b) 33)).mono HB.size)
  replace HC := Lib.hid (codeIn_below (B := 0) HC.out (below_a1 w1 (.cells (P2 a b) 33)))
  replace L := ll_new (w1.alloc (.cells (P2 a b) 33)) L (P2 c d) 33
  rw [size1] at L
  replace HB := HB.trans ((below_a1 (w1.alloc (.cells (P2 a b) 33)) (.cells (P2 c d) 33)).mono HB.size)
  replace HC := Lib.hid (codeIn_below (B := 0) HC.out (below_a1 (w1.alloc (.cells (P2 a b) 33)) (.cells (P2 c d) 33)))
  generalize (w1.alloc (.cells (P2 a b) 33)).alloc (.cells (P2 c d) 33) = V1 at L HB HC ⊢
  obtain ⟨qx, hqx⟩ : ∃ b, w1.heap.size = b := ⟨_, rfl⟩
  rw [hqx] at L ⊢
  clear hqx
  have A1 := fun w => implMulR_any a b c d w
  have A2 := fun w => specMulR_any a b c d w
  obtain ⟨Z, hZ⟩ : ∃ X0, mulRQ a b c d = X0 := ⟨_, rfl⟩
  obtain ⟨zc, hC⟩ : ∃ X0, mulRC a b c d = X0 := ⟨_, rfl⟩
  rw [hZ, hC] at A1 A2
  have HZ := Lib.hid (And.intro hZ hC)
  replace A1 := Lib.hid A1
  replace A2 := Lib.hid A2
  clear hZ hC
  obtain ⟨x0, x1⟩ := lies_pair (L _ (.tail _ (.head _)))
  obtain ⟨y0, y1⟩ := lies_pair (L _ (.head _))
  go_upto_region 5 with (first | (go_at_call 24; refine (A1.out _).mono ?_; rintro e w2 ⟨rfl, hb⟩; replace L := ll_next L hb; replace HB := HB.trans (hb.mono HB.size); replace HC := Lib.hid (codeIn_below (B := 0) HC.out hb)))
  clear x0 x1
  clear y0 y1
  clear hb
  replace L := ll_new w2 L (P2 Z.1 Z.2) 33
  replace HB := HB.trans ((below_a1 w2 (.cells (P2 Z.1 Z.2) 33)).mono HB.size)
  replace HC := Lib.hid (codeIn_below (B := 0) HC.out (below_a1 w2 (.cells (P2 Z.1 Z.2) 33)))
  generalize w2.alloc (.cells (P2 Z.1 Z.2) 33) = V2 at L HB HC ⊢
  obtain ⟨qz, hqz⟩ : ∃ b, w2.heap.size = b := ⟨_, rfl⟩
  rw [hqz] at L ⊢
  clear hqz
  obtain ⟨x0, x1⟩ := lies_pair (L _ (.tail _ (.tail _ (.head _))))
  obtain ⟨y0, y1⟩ := lies_pair (L _ (.tail _ (.head _)))
  go_upto_region 6 with (first | (go_at_call 25; refine (A2.out _).mono ?_; rintro e w3 ⟨rfl, hb⟩; replace L := ll_next L hb; replace HB := HB.trans (hb.mono HB.size); replace HC := Lib.hid (codeIn_below (B := 0) HC.out hb)))
  clear x0 x1
  clear y0 y1
  clear hb
  replace L := ll_new w3 L (P2 Z.1 Z.2) 33
  replace HB := HB.trans ((below_a1 w3 (.cells (P2 Z.1 Z.2) 33)).mono HB.size)
  replace HC := Lib.hid (codeIn_below (B := 0) HC.out (below_a1 w3 (.cells (P2 Z.1 Z.2) 33)))
  generalize w3.alloc (.cells (P2 Z.1 Z.2) 33) = V3 at L HB HC ⊢
  obtain ⟨qt, hqt⟩ : ∃ b, w3.heap.size = b := ⟨_, rfl⟩
  rw [hqt] at L ⊢
  clear hqt
  clear A1 A2
  go_upto_region 7 with (first | (go_at_call 26; refine (drawAddR_any _ _ _ _ hl HC.out).mono ?_; rintro e w4 ⟨a2, b2, c2, d2, rfl, hb⟩; replace L := ll_next L hb; replace HB := HB.trans (hb.mono HB.size); replace HC := Lib.hid (codeIn_below (B := 0) HC.out hb)))
  clear hb
  replace L := ll_new w4 L (P2 a2 b2) 33
  replace HB := HB.trans ((below_a1 w4 (.cells (P2 a2 b2) 33)).mono HB.size)
  replace HC := Lib.hid (codeIn_below (B := 0) HC.out (below_a1 w4 (.cells (P2 a2 b2) 33)))
  replace L := ll_new (w4.alloc (.cells (P2 a2 b2) 33)) L (P2 c2 d2) 33
  rw [size1] at L
  replace HB := HB.trans ((below_a1 (w4.alloc (.cells (P2 a2 b2) 33)) (.cells (P2 c2 d2) 33)).mono HB.size)
  replace HC := Lib.hid (codeIn_below (B := 0) HC.out (below_a1 (w4.alloc (.cells (P2 a2 b2) 33)) (.cells (P2 c2 d2) 33)))
  generalize (w4.alloc (.cells (P2 a2 b2) 33)).alloc (.cells (P2 c2 d2) 33) = V4 at L HB HC ⊢
  obtain ⟨qf, hqf⟩ : ∃ b, w4.heap.size = b := ⟨_, rfl⟩
  rw [hqf] at L ⊢
  clear hqf
  have A1 := fun w => implAddR_any a2 b2 c2 d2 w
  have A2 := fun w => specAddR_any a2 b2 c2 d2 w
  obtain ⟨S, hZ⟩ : ∃ X0, addRQ a2 b2 c2 d2 = X0 := ⟨_, rfl⟩
  obtain ⟨sc, hC⟩ : ∃ X0, addRC a2 b2 c2 d2 = X0 := ⟨_, rfl⟩
  rw [hZ, hC] at A1 A2
  have HS := Lib.hid (And.intro hZ hC)
  replace A1 := Lib.hid A1
  replace A2 := Lib.hid A2
  clear hZ hC
  obtain ⟨f0, f1⟩ := lies_pair (L _ (.tail _ (.head _)))
  obtain ⟨g0, g1⟩ := lies_pair (L _ (.head _))
  go_upto_region 8 with (first | (go_at_call 27; refine (A1.out _).mono ?_; rintro e w5 ⟨rfl, hb⟩; replace L := ll_next L hb; replace HB := HB.trans (hb.mono HB.size); replace HC := Lib.hid (codeIn_below (B := 0) HC.out hb)))
  clear f0 f1
  clear g0 g1
  clear hb
  replace L := ll_new w5 L (P2 S.1 S.2) 33
  replace HB := HB.trans ((below_a1 w5 (.cells (P2 S.1 S.2) 33)).mono HB.size)
  replace HC := Lib.hid (codeIn_below (B := 0) HC.out (below_a1 w5 (.cells (P2 S.1 S.2) 33)))
  generalize w5.alloc (.cells (P2 S.1 S.2) 33) = V5 at L HB HC ⊢
  obtain ⟨qs, hqs⟩ : ∃ b, w5.heap.size = b := ⟨_, rfl⟩
  rw [hqs] at L ⊢
  clear hqs
  obtain ⟨f0, f1⟩ := lies_pair (L _ (.tail _ (.tail _ (.head _))))
  obtain ⟨g0, g1⟩ := lies_pair (L _ (.tail _ (.head _)))
  go_upto_region 9 with (first | (go_at_call 28; refine (A2.out _).mono ?_; rintro e w6 ⟨rfl, hb⟩; replace L := ll_next L hb; replace HB := HB.trans (hb.mono HB.size); replace HC := Lib.hid (codeIn_below (B := 0) HC.out hb)))
  clear f0 f1
  clear g0 g1
  clear hb
  replace L := ll_new w6 L (P2 S.1 S.2) 33
  replace HB := HB.trans ((below_a1 w6 (.cells (P2 S.1 S.2) 33)).mono HB.size)
  replace HC := Lib.hid (codeIn_below (B := 0) HC.out (below_a1 w6 (.cells (P2 S.1 S.2) 33)))
  generalize w6.alloc (.cells (P2 S.1 S.2) 33) = V6 at L HB HC ⊢
  obtain ⟨qu, hqu⟩ : ∃ b, w6.heap.size = b := ⟨_, rfl⟩
  rw [hqu] at L ⊢
  clear hqu
  clear A1 A2 HS
  go_upto_region 10 with (first | (go_at_call 29; refine (drawMakeR_any _ _ _ _ hl HC.out).mono ?_; rintro e w7 ⟨m, n, rfl, hb⟩; replace L := ll_next L hb; replace HB := HB.trans (hb.mono HB.size); replace HC := Lib.hid (codeIn_below (B := 0) HC.out hb)))
  clear hb
  have A1 := fun w => implMakeR_any m n w
  have A2 := fun w => specMakeR_any m n w
  obtain ⟨M, hZ⟩ : ∃ X0, makeRQ m n = X0 := ⟨_, rfl⟩
  obtain ⟨kc, hC⟩ : ∃ X0, makeRC m n = X0 := ⟨_, rfl⟩
  rw [hZ, hC] at A1 A2
  have HM := Lib.hid (And.intro hZ hC)
  replace A1 := Lib.hid A1
  replace A2 := Lib.hid A2
  clear hZ hC
  go_upto_region 11 with (first | (go_at_call 30; refine (A1.out _).mono ?_; rintro e w8 ⟨rfl, hb⟩; replace L := ll_next L hb; replace HB := HB.trans (hb.mono HB.size); replace HC := Lib.hid (codeIn_below (B := 0) HC.out hb)))
  clear hb
  replace L := ll_new w8 L (P2 M.1 M.2) 33
  replace HB := HB.trans ((below_a1 w8 (.cells (P2 M.1 M.2) 33)).mono HB.size)
  replace HC := Lib.hid (codeIn_below (B := 0) HC.out (below_a1 w8 (.cells (P2 M.1 M.2) 33)))
  generalize w8.alloc (.cells (P2 M.1 M.2) 33) = V8 at L HB HC ⊢
  obtain ⟨qk, hqk⟩ : ∃ b, w8.heap.size = b := ⟨_, rfl⟩
  rw [hqk] at L ⊢
  clear hqk
  go_upto_region 12 with (first | (go_at_call 31; refine (A2.out _).mono ?_; rintro e w9 ⟨rfl, hb⟩; replace L := ll_next L hb; replace HB := HB.trans (hb.mono HB.size); replace HC := Lib.hid (codeIn_below (B := 0) HC.out hb)))
  clear hb
  replace L := ll_new w9 L (P2 M.1 M.2) 33
  replace HB := HB.trans ((below_a1 w9 (.cells (P2 M.1 M.2) 33)).mono HB.size)
  replace HC := Lib.hid (codeIn_below (B := 0) HC.out (below_a1 w9 (.cells (P2 M.1 M.2) 33)))
  generalize w9.alloc (.cells (P2 M.1 M.2) 33) = V9 at L HB HC ⊢
  obtain ⟨ql, hql⟩ : ∃ b, w9.heap.size = b := ⟨_, rfl⟩
  rw [hql] at L ⊢
  clear hql
  clear A1 A2
  go_upto_region 13 with (first | (go_at_call 32; refine (drawRVal_any _ _ _ _ hl HC.out).mono ?_; rintro e w10 ⟨e1, e2, p, rfl, hb⟩; replace L := ll_next L hb; replace HB := HB.trans (hb.mono HB.size); replace HC := Lib.hid (codeIn_below (B := 0) HC.out hb)))
  clear hb
  replace L := ll_new w10 L (P2 e1 e2) 33
  replace HB := HB.trans ((below_a1 w10 (.cells (P2 e1 e2) 33)).mono HB.size)
  replace HC := Lib.hid (codeIn_below (B := 0) HC.out (below_a1 w10 (.cells (P2 e1 e2) 33)))
  generalize w10.alloc (.cells (P2 e1 e2) 33) = V10 at L HB HC ⊢
  obtain ⟨qv, hqv⟩ : ∃ b, w10.heap.size = b := ⟨_, rfl⟩
  rw [hqv] at L ⊢
  clear hqv
  clear HC
  have A1 := fun w => implRV_any e1 e2 p w
  have A2 := fun w => specRV_any e1 e2 p w
  obtain ⟨vv, hZ⟩ : ∃ X0, rvalV e1 e2 p = X0 := ⟨_, rfl⟩
  obtain ⟨vc, hC⟩ : ∃ X0, rvalC e1 e2 p = X0 := ⟨_, rfl⟩
  rw [hZ, hC] at A1 A2
  have HV := Lib.hid (And.intro hZ hC)
  replace A1 := Lib.hid A1
  replace A2 := Lib.hid A2
  clear hZ hC
  obtain ⟨v0, v1⟩ := lies_pair (L _ (.head _))
  go_upto_region 14 with (first | (go_at_call 33; refine (A1.out _).mono ?_; rintro e w11 ⟨rfl, hb⟩; replace L := ll_next L hb; replace HB := HB.trans (hb.mono HB.size)))
  clear v0 v1
  clear hb
  obtain ⟨v0, v1⟩ := lies_pair (L _ (.head _))
  go_upto_region 15 with (first | (go_at_call 34; refine (A2.out _).mono ?_; rintro e w12 ⟨rfl, hb⟩; replace L := ll_next L hb; replace HB := HB.trans (hb.mono HB.size)))
  clear v0 v1
  clear hb
  clear A1 A2 HV
  obtain ⟨eb, hEB⟩ : ∃ b, isRatB e1 e2 = b := ⟨_, rfl⟩
  have HEB := Lib.hid hEB
  clear hEB
  refine wp_region_held_drew (S := LS w [(qv, P2 e1 e2), (ql, P2 M.1 M.2), (qk, P2 M.1 M.2), (qu, P2 S.1 S.2), (qs, P2 S.1 S.2), (qf + 1, P2 c2 d2), (qf, P2 a2 b2), (qt, P2 Z.1 Z.2), (qz, P2 Z.1 Z.2), (qx + 1, P2 c d), (qx, P2 a b)]) (by kernel_rfl) (ls_drew ⟨HB, L⟩) (fun hHeld => ?_)
  clear HB L
  refine take_at (i := 0) (d := 103) (v := .int .i64 zc) rfl rfl (by kernel_rfl) (by kernel_rfl) (by kernel_rfl) (fun _ _ _ h => h) (Or.inl ⟨by rfl, ?_⟩) hHeld ?_
  · intro w' hS; go_simp
  try simp only [Act.put, List.setIfInBounds_toArray, List.set_cons_zero, List.set_cons_succ]
  refine take_at (i := 1) (d := 104) (v := .int .i64 zc) rfl rfl (by kernel_rfl) (by kernel_rfl) (by kernel_rfl) (fun _ _ _ h => h) (Or.inl ⟨by rfl, ?_⟩) hHeld ?_
  · intro w' hS; go_simp
  try simp only [Act.put, List.setIfInBounds_toArray, List.set_cons_zero, List.set_cons_succ]
  refine take_at (i := 2) (d := 105) (v := .bool false) rfl rfl (by kernel_rfl) (by kernel_rfl) (by kernel_rfl) (fun _ _ _ h => h) (Or.inl ⟨by rfl, ?_⟩) hHeld ?_
  · intro w' hS; go_simp
  try simp only [Act.put, List.setIfInBounds_toArray, List.set_cons_zero, List.set_cons_succ]
  refine take_at (i := 3) (d := 106) (v := .bool false) rfl rfl (by kernel_rfl) (by kernel_rfl) (by kernel_rfl) (fun _ _ _ h => h) (Or.inl ⟨by rfl, ?_⟩) hHeld ?_
  · intro w' hS; go_simp
  try simp only [Act.put, List.setIfInBounds_toArray, List.set_cons_zero, List.set_cons_succ]
  refine take_at (i := 4) (d := 107) (v := .agg #[.int .i64 Z.1, .int .i64 Z.2]) rfl rfl (by kernel_rfl) (by kernel_rfl) (by kernel_rfl) (fun _ _ _ h => h) (Or.inl ⟨by rfl, ?_⟩) hHeld ?_
  · intro w' hS
    obtain ⟨k0, k1⟩ := lies_pair (hS.2 _ (.tail _ (.tail _ (.tail _ (.tail _ (.tail _ (.tail _ (.tail _ (.tail _ (.head _))))))))))
    go_simp
  try simp only [Act.put, List.setIfInBounds_toArray, List.set_cons_zero, List.set_cons_succ]
  refine take_at (i := 5) (d := 108) (v := .agg #[.int .i64 Z.1, .int .i64 Z.2]) rfl rfl (by kernel_rfl) (by kernel_rfl) (by kernel_rfl) (fun _ _ _ h => h) (Or.inl ⟨by rfl, ?_⟩) hHeld ?_
  · intro w' hS
    obtain ⟨k0, k1⟩ := lies_pair (hS.2 _ (.tail _ (.tail _ (.tail _ (.tail _ (.tail _ (.tail _ (.tail _ (.head _)))))))))
    go_simp
  try simp only [Act.put, List.setIfInBounds_toArray, List.set_cons_zero, List.set_cons_succ]
  refine take_at (i := 6) (d := 109) (v := .bool false) rfl rfl (by kernel_rfl) (by kernel_rfl) (by kernel_rfl) (fun _ _ _ h => h) (Or.inl ⟨by rfl, ?_⟩) hHeld ?_
  · intro w' hS; go_simp
  try simp only [Act.put, List.setIfInBounds_toArray, List.set_cons_zero, List.set_cons_succ]
  refine take_at (i := 7) (d := 110) (v := .bool false) rfl rfl (by kernel_rfl) (by kernel_rfl) (by kernel_rfl) (fun _ _ _ h => h) (Or.inl ⟨by rfl, ?_⟩) hHeld ?_
  · intro w' hS; go_simp
  try simp only [Act.put, List.setIfInBounds_toArray, List.set_cons_zero, List.set_cons_succ]
  refine take_at (i := 8) (d := 111) (v := .bool false) rfl rfl (by kernel_rfl) (by kernel_rfl) (by kernel_rfl) (fun _ _ _ h => h) (Or.inl ⟨by rfl, ?_⟩) hHeld ?_
  · intro w' hS; go_simp
  try simp only [Act.put, List.setIfInBounds_toArray, List.set_cons_zero, List.set_cons_succ]
  refine take_at (i := 9) (d := 112) (v := .int .i64 sc) rfl rfl (by kernel_rfl) (by kernel_rfl) (by kernel_rfl) (fun _ _ _ h => h) (Or.inl ⟨by rfl, ?_⟩) hHeld ?_
  · intro w' hS; go_simp
  try simp only [Act.put, List.setIfInBounds_toArray, List.set_cons_zero, List.set_cons_succ]
  refine take_at (i := 10) (d := 113) (v := .int .i64 sc) rfl rfl (by kernel_rfl) (by kernel_rfl) (by kernel_rfl) (fun _ _ _ h => h) (Or.inl ⟨by rfl, ?_⟩) hHeld ?_
  · intro w' hS; go_simp
  try simp only [Act.put, List.setIfInBounds_toArray, List.set_cons_zero, List.set_cons_succ]
  refine take_at (i := 11) (d := 114) (v := .bool false) rfl rfl (by kernel_rfl) (by kernel_rfl) (by kernel_rfl) (fun _ _ _ h => h) (Or.inl ⟨by rfl, ?_⟩) hHeld ?_
  · intro w' hS; go_simp
  try simp only [Act.put, List.setIfInBounds_toArray, List.set_cons_zero, List.set_cons_succ]
  refine take_at (i := 12) (d := 115) (v := .bool false) rfl rfl (by kernel_rfl) (by kernel_rfl) (by kernel_rfl) (fun _ _ _ h => h) (Or.inl ⟨by rfl, ?_⟩) hHeld ?_
  · intro w' hS; go_simp
  try simp only [Act.put, List.setIfInBounds_toArray, List.set_cons_zero, List.set_cons_succ]
  refine take_at (i := 13) (d := 116) (v := .bool false) rfl rfl (by kernel_rfl) (by kernel_rfl) (by kernel_rfl) (fun _ _ _ h => h) (Or.inl ⟨by rfl, ?_⟩) hHeld ?_
  · intro w' hS; go_simp
  try simp only [Act.put, List.setIfInBounds_toArray, List.set_cons_zero, List.set_cons_succ]
  refine take_at (i := 14) (d := 117) (v := .agg #[.int .i64 S.1, .int .i64 S.2]) rfl rfl (by kernel_rfl) (by kernel_rfl) (by kernel_rfl) (fun _ _ _ h => h) (Or.inl ⟨by rfl, ?_⟩) hHeld ?_
  · intro w' hS
    obtain ⟨k0, k1⟩ := lies_pair (hS.2 _ (.tail _ (.tail _ (.tail _ (.tail _ (.head _))))))
    go_simp
  try simp only [Act.put, List.setIfInBounds_toArray, List.set_cons_zero, List.set_cons_succ]
  refine take_at (i := 15) (d := 118) (v := .agg #[.int .i64 S.1, .int .i64 S.2]) rfl rfl (by kernel_rfl) (by kernel_rfl) (by kernel_rfl) (fun _ _ _ h => h) (Or.inl ⟨by rfl, ?_⟩) hHeld ?_
  · intro w' hS
    obtain ⟨k0, k1⟩ := lies_pair (hS.2 _ (.tail _ (.tail _ (.tail _ (.head _)))))
    go_simp
  try simp only [Act.put, List.setIfInBounds_toArray, List.set_cons_zero, List.set_cons_succ]
  refine take_at (i := 16) (d := 119) (v := .bool false) rfl rfl (by kernel_rfl) (by kernel_rfl) (by kernel_rfl) (fun _ _ _ h => h) (Or.inl ⟨by rfl, ?_⟩) hHeld ?_
  · intro w' hS; go_simp
  try simp only [Act.put, List.setIfInBounds_toArray, List.set_cons_zero, List.set_cons_succ]
  refine take_at (i := 17) (d := 120) (v := .bool false) rfl rfl (by kernel_rfl) (by kernel_rfl) (by kernel_rfl) (fun _ _ _ h => h) (Or.inl ⟨by rfl, ?_⟩) hHeld ?_
  · intro w' hS; go_simp
  try simp only [Act.put, List.setIfInBounds_toArray, List.set_cons_zero, List.set_cons_succ]
  refine take_at (i := 18) (d := 121) (v := .bool false) rfl rfl (by kernel_rfl) (by kernel_rfl) (by kernel_rfl) (fun _ _ _ h => h) (Or.inl ⟨by rfl, ?_⟩) hHeld ?_
  · intro w' hS; go_simp
  try simp only [Act.put, List.setIfInBounds_toArray, List.set_cons_zero, List.set_cons_succ]
  refine take_at (i := 19) (d := 122) (v := .int .i64 kc) rfl rfl (by kernel_rfl) (by kernel_rfl) (by kernel_rfl) (fun _ _ _ h => h) (Or.inl ⟨by rfl, ?_⟩) hHeld ?_
  · intro w' hS; go_simp
  try simp only [Act.put, List.setIfInBounds_toArray, List.set_cons_zero, List.set_cons_succ]
  refine take_at (i := 20) (d := 123) (v := .int .i64 kc) rfl rfl (by kernel_rfl) (by kernel_rfl) (by kernel_rfl) (fun _ _ _ h => h) (Or.inl ⟨by rfl, ?_⟩) hHeld ?_
  · intro w' hS; go_simp
  try simp only [Act.put, List.setIfInBounds_toArray, List.set_cons_zero, List.set_cons_succ]
  refine take_at (i := 21) (d := 124) (v := .bool false) rfl rfl (by kernel_rfl) (by kernel_rfl) (by kernel_rfl) (fun _ _ _ h => h) (Or.inl ⟨by rfl, ?_⟩) hHeld ?_
  · intro w' hS; go_simp
  try simp only [Act.put, List.setIfInBounds_toArray, List.set_cons_zero, List.set_cons_succ]
  refine take_at (i := 22) (d := 125) (v := .bool false) rfl rfl (by kernel_rfl) (by kernel_rfl) (by kernel_rfl) (fun _ _ _ h => h) (Or.inl ⟨by rfl, ?_⟩) hHeld ?_
  · intro w' hS; go_simp
  try simp only [Act.put, List.setIfInBounds_toArray, List.set_cons_zero, List.set_cons_succ]
  refine take_at (i := 23) (d := 126) (v := .bool false) rfl rfl (by kernel_rfl) (by kernel_rfl) (by kernel_rfl) (fun _ _ _ h => h) (Or.inl ⟨by rfl, ?_⟩) hHeld ?_
  · intro w' hS; go_simp
  try simp only [Act.put, List.setIfInBounds_toArray, List.set_cons_zero, List.set_cons_succ]
  refine take_at (i := 24) (d := 127) (v := .agg #[.int .i64 M.1, .int .i64 M.2]) rfl rfl (by kernel_rfl) (by kernel_rfl) (by kernel_rfl) (fun _ _ _ h => h) (Or.inl ⟨by rfl, ?_⟩) hHeld ?_
  · intro w' hS
    obtain ⟨k0, k1⟩ := lies_pair (hS.2 _ (.tail _ (.tail _ (.head _))))
    go_simp
  try simp only [Act.put, List.setIfInBounds_toArray, List.set_cons_zero, List.set_cons_succ]
  refine take_at (i := 25) (d := 128) (v := .agg #[.int .i64 M.1, .int .i64 M.2]) rfl rfl (by kernel_rfl) (by kernel_rfl) (by kernel_rfl) (fun _ _ _ h => h) (Or.inl ⟨by rfl, ?_⟩) hHeld ?_
  · intro w' hS
    obtain ⟨k0, k1⟩ := lies_pair (hS.2 _ (.tail _ (.head _)))
    go_simp
  try simp only [Act.put, List.setIfInBounds_toArray, List.set_cons_zero, List.set_cons_succ]
  refine take_at (i := 26) (d := 129) (v := .bool false) rfl rfl (by kernel_rfl) (by kernel_rfl) (by kernel_rfl) (fun _ _ _ h => h) (Or.inl ⟨by rfl, ?_⟩) hHeld ?_
  · intro w' hS; go_simp
  try simp only [Act.put, List.setIfInBounds_toArray, List.set_cons_zero, List.set_cons_succ]
  refine take_at (i := 27) (d := 130) (v := .bool false) rfl rfl (by kernel_rfl) (by kernel_rfl) (by kernel_rfl) (fun _ _ _ h => h) (Or.inl ⟨by rfl, ?_⟩) hHeld ?_
  · intro w' hS; go_simp
  try simp only [Act.put, List.setIfInBounds_toArray, List.set_cons_zero, List.set_cons_succ]
  refine take_at (i := 28) (d := 131) (v := .bool false) rfl rfl (by kernel_rfl) (by kernel_rfl) (by kernel_rfl) (fun _ _ _ h => h) (Or.inl ⟨by rfl, ?_⟩) hHeld ?_
  · intro w' hS; go_simp
  try simp only [Act.put, List.setIfInBounds_toArray, List.set_cons_zero, List.set_cons_succ]
  refine take_at (i := 29) (d := 132) (v := .int .i64 vc) rfl rfl (by kernel_rfl) (by kernel_rfl) (by kernel_rfl) (fun _ _ _ h => h) (Or.inl ⟨by rfl, ?_⟩) hHeld ?_
  · intro w' hS; go_simp
  try simp only [Act.put, List.setIfInBounds_toArray, List.set_cons_zero, List.set_cons_succ]
  refine take_at (i := 30) (d := 133) (v := .int .i64 vc) rfl rfl (by kernel_rfl) (by kernel_rfl) (by kernel_rfl) (fun _ _ _ h => h) (Or.inl ⟨by rfl, ?_⟩) hHeld ?_
  · intro w' hS; go_simp
  try simp only [Act.put, List.setIfInBounds_toArray, List.set_cons_zero, List.set_cons_succ]
  refine take_at (i := 31) (d := 134) (v := .bool false) rfl rfl (by kernel_rfl) (by kernel_rfl) (by kernel_rfl) (fun _ _ _ h => h) (Or.inl ⟨by rfl, ?_⟩) hHeld ?_
  · intro w' hS; go_simp
  try simp only [Act.put, List.setIfInBounds_toArray, List.set_cons_zero, List.set_cons_succ]
  refine take_at (i := 32) (d := 135) (v := .bool false) rfl rfl (by kernel_rfl) (by kernel_rfl) (by kernel_rfl) (fun _ _ _ h => h) (Or.inl ⟨by rfl, ?_⟩) hHeld ?_
  · intro w' hS; go_simp
  try simp only [Act.put, List.setIfInBounds_toArray, List.set_cons_zero, List.set_cons_succ]
  refine take_at (i := 33) (d := 136) (v := .bool false) rfl rfl (by kernel_rfl) (by kernel_rfl) (by kernel_rfl) (fun _ _ _ h => h) (Or.inl ⟨by rfl, ?_⟩) hHeld ?_
  · intro w' hS; go_simp
  try simp only [Act.put, List.setIfInBounds_toArray, List.set_cons_zero, List.set_cons_succ]
  refine take_at (i := 34) (d := 137) (v := .int .i64 vv) rfl rfl (by kernel_rfl) (by kernel_rfl) (by kernel_rfl) (fun _ _ _ h => h) (Or.inl ⟨by rfl, ?_⟩) hHeld ?_
  · intro w' hS; go_simp
  try simp only [Act.put, List.setIfInBounds_toArray, List.set_cons_zero, List.set_cons_succ]
  refine take_at (i := 35) (d := 138) (v := .int .i64 vv) rfl rfl (by kernel_rfl) (by kernel_rfl) (by kernel_rfl) (fun _ _ _ h => h) (Or.inl ⟨by rfl, ?_⟩) hHeld ?_
  · intro w' hS; go_simp
  try simp only [Act.put, List.setIfInBounds_toArray, List.set_cons_zero, List.set_cons_succ]
  refine take_at (i := 36) (d := 139) (v := .bool false) rfl rfl (by kernel_rfl) (by kernel_rfl) (by kernel_rfl) (fun _ _ _ h => h) (Or.inl ⟨by rfl, ?_⟩) hHeld ?_
  · intro w' hS; go_simp
  try simp only [Act.put, List.setIfInBounds_toArray, List.set_cons_zero, List.set_cons_succ]
  refine take_at (i := 37) (d := 140) (v := .bool false) rfl rfl (by kernel_rfl) (by kernel_rfl) (by kernel_rfl) (fun _ _ _ h => h) (Or.inl ⟨by rfl, ?_⟩) hHeld ?_
  · intro w' hS; go_simp
  try simp only [Act.put, List.setIfInBounds_toArray, List.set_cons_zero, List.set_cons_succ]
  refine take_at (i := 38) (d := 141) (v := .bool false) rfl rfl (by kernel_rfl) (by kernel_rfl) (by kernel_rfl) (fun _ _ _ h => h) (Or.inl ⟨by rfl, ?_⟩) hHeld ?_
  · intro w' hS; go_simp
  try simp only [Act.put, List.setIfInBounds_toArray, List.set_cons_zero, List.set_cons_succ]
  refine take_at (i := 39) (d := 142) (v := .agg (P2 e1 e2)) rfl rfl (by kernel_rfl) (by kernel_rfl) (by kernel_rfl) (fun _ _ _ h => h) (Or.inl ⟨by rfl, ?_⟩) hHeld ?_
  · intro w' hS
    obtain ⟨k0, k1⟩ := lies_pair (hS.2 _ (.head _))
    go_simp
  try simp only [Act.put, List.setIfInBounds_toArray, List.set_cons_zero, List.set_cons_succ]
  refine take_at (i := 41) (d := 144) (v := .agg (P2 e1 e2)) rfl rfl (by kernel_rfl) (by kernel_rfl) (by kernel_rfl) (fun _ _ _ h => h) (Or.inl ⟨by rfl, ?_⟩) hHeld ?_
  · intro w' hS
    obtain ⟨k0, k1⟩ := lies_pair (hS.2 _ (.head _))
    go_simp
  try simp only [Act.put, List.setIfInBounds_toArray, List.set_cons_zero, List.set_cons_succ]
  refine wpAnyH_ready (rs := [40]) (by kernel_rfl) (by simp) ?_
  refine AllReadyH.cons rfl (fun K hK => ?_) AllReadyH.nil
  go_simp
  go_at_call 20; refine (implIsRational_any _ _ _).mono ?_; rw [HEB.out]; rintro e1' wn ⟨rfl, hb⟩
  go_simp
  refine hK.out _ _ (ls_next hHeld hb) (fun hHeld => ?_)
  clear hK hb
  try simp only [Act.put, List.setIfInBounds_toArray, List.set_cons_zero, List.set_cons_succ]
  refine wpAnyH_ready (rs := [42]) (by kernel_rfl) (by simp) ?_
  refine AllReadyH.cons rfl (fun K hK => ?_) AllReadyH.nil
  go_simp
  go_at_call 35; refine (specIsRational_any _ _ _).mono ?_; rw [HEB.out]; rintro e1' wn ⟨rfl, hb⟩
  go_simp
  refine hK.out _ _ (ls_next hHeld hb) (fun hHeld => ?_)
  clear hK hb
  try simp only [Act.put, List.setIfInBounds_toArray, List.set_cons_zero, List.set_cons_succ]
  refine take_at (i := 43) (d := 146) (v := .bool false) rfl rfl (by kernel_rfl) (by kernel_rfl) (by kernel_rfl) (fun _ _ _ h => h) (Or.inl ⟨by rfl, ?_⟩) hHeld ?_
  · intro w' hS; go_simp
  try simp only [Act.put, List.setIfInBounds_toArray, List.set_cons_zero, List.set_cons_succ]
  refine take_at (i := 44) (d := 147) (v := .bool false) rfl rfl (by kernel_rfl) (by kernel_rfl) (by kernel_rfl) (fun _ _ _ h => h) (Or.inl ⟨by rfl, ?_⟩) hHeld ?_
  · intro w' hS; go_simp
  try simp only [Act.put, List.setIfInBounds_toArray, List.set_cons_zero, List.set_cons_succ]
  refine wpAnyH_done (by kernel_rfl) ?_ _
  obtain ⟨HB, L⟩ := hHeld
  go_upto_region 17 with fail
  go_cut [176] (fun s0 wx => s0 = .bool false ∧ LS w [(qv, P2 e1 e2), (ql, P2 M.1 M.2), (qk, P2 M.1 M.2), (qu, P2 S.1 S.2), (qs, P2 S.1 S.2), (qf + 1, P2 c2 d2), (qf, P2 a2 b2), (qt, P2 Z.1 Z.2), (qz, P2 Z.1 Z.2), (qx + 1, P2 c d), (qx, P2 a b)] wx)
  case first =>
    by_cases hk : kc = 0
    · obtain ⟨v1, v2, v3, v4, v5, v6, v7⟩ := make_back (x := m) (y := n) (by rw [HM.out.2]; exact hk)
      rw [HM.out.1] at v1 v2 v3 v5 v7
      have HV1 := Lib.hid v1
      have hk' : (kc == 0) = true := by simp [hk]
      clear v1 hk
      generalize rlG m n = G at *
      refine wp_region_held_drew (S := LS w [(qv, P2 e1 e2), (ql, P2 M.1 M.2), (qk, P2 M.1 M.2), (qu, P2 S.1 S.2), (qs, P2 S.1 S.2), (qf + 1, P2 c2 d2), (qf, P2 a2 b2), (qt, P2 Z.1 Z.2), (qz, P2 Z.1 Z.2), (qx + 1, P2 c d), (qx, P2 a b)]) (by kernel_rfl) (ls_drew ⟨HB, L⟩) (fun hHeld => ?_)
      clear HB L
      refine take_at (i := 0) (d := 148) (v := .int .i64 kc) rfl rfl (by kernel_rfl) (by kernel_rfl) (by kernel_rfl) (fun _ _ _ h => h) (Or.inl ⟨by rfl, ?_⟩) hHeld ?_
      · intro w' hS; go_simp
      try simp only [Act.put, List.setIfInBounds_toArray, List.set_cons_zero, List.set_cons_succ]
      refine take_at (i := 1) (d := 149) (v := .bool true) rfl rfl (by kernel_rfl) (by kernel_rfl) (by kernel_rfl) (fun _ _ _ h => h) (Or.inl ⟨by rfl, ?_⟩) hHeld ?_
      · intro w' hS; go_simp
      try simp only [Act.put, List.setIfInBounds_toArray, List.set_cons_zero, List.set_cons_succ]
      refine take_at (i := 2) (d := 150) (v := .bool true) rfl rfl (by kernel_rfl) (by kernel_rfl) (by kernel_rfl) (fun _ _ _ h => h) (Or.inl ⟨by rfl, ?_⟩) hHeld ?_
      · intro w' hS; go_simp
      try simp only [Act.put, List.setIfInBounds_toArray, List.set_cons_zero, List.set_cons_succ]
      refine take_at (i := 3) (d := 151) (v := .agg #[.int .i64 M.1, .int .i64 M.2]) rfl rfl (by kernel_rfl) (by kernel_rfl) (by kernel_rfl) (fun _ _ _ h => h) (Or.inl ⟨by rfl, ?_⟩) hHeld ?_
      · intro w' hS
        obtain ⟨k0, k1⟩ := lies_pair (hS.2 _ (.tail _ (.tail _ (.head _))))
        go_simp
      try simp only [Act.put, List.setIfInBounds_toArray, List.set_cons_zero, List.set_cons_succ]
      refine wpAnyH_ready (rs := [4]) (by kernel_rfl) (by simp) ?_
      refine AllReadyH.cons rfl (fun K hK => ?_) AllReadyH.nil
      go_simp
      go_at_call 20; refine (implIsRational_any _ _ _).mono ?_; rw [HV1.out]; rintro e1' wn ⟨rfl, hb⟩
      go_simp
      refine hK.out _ _ (ls_next hHeld hb) (fun hHeld => ?_)
      clear hK hb
      try simp only [Act.put, List.setIfInBounds_toArray, List.set_cons_zero, List.set_cons_succ]
      refine take_at (i := 5) (d := 153) (v := .bool false) rfl rfl (by kernel_rfl) (by kernel_rfl) (by kernel_rfl) (fun _ _ _ h => h) (Or.inl ⟨by rfl, ?_⟩) hHeld ?_
      · intro w' hS; go_simp
      try simp only [Act.put, List.setIfInBounds_toArray, List.set_cons_zero, List.set_cons_succ]
      refine take_at (i := 6) (d := 154) (v := .bool false) rfl rfl (by kernel_rfl) (by kernel_rfl) (by kernel_rfl) (fun _ _ _ h => h) (Or.inl ⟨by rfl, ?_⟩) hHeld ?_
      · intro w' hS; go_simp
      try simp only [Act.put, List.setIfInBounds_toArray, List.set_cons_zero, List.set_cons_succ]
      refine take_at (i := 7) (d := 155) (v := .pointer (some ⟨qk, 0, none⟩)) rfl rfl (by kernel_rfl) (by kernel_rfl) (by kernel_rfl) (fun _ _ _ h => h) (Or.inl ⟨by rfl, ?_⟩) hHeld ?_
      · intro w' hS; go_simp
      try simp only [Act.put, List.setIfInBounds_toArray, List.set_cons_zero, List.set_cons_succ]
      refine take_at (i := 8) (d := 156) (v := .int .i64 M.1) rfl rfl (by kernel_rfl) (by kernel_rfl) (by kernel_rfl) (fun _ _ _ h => h) (Or.inl ⟨by rfl, ?_⟩) hHeld ?_
      · intro w' hS
        obtain ⟨k0, k1⟩ := lies_pair (hS.2 _ (.tail _ (.tail _ (.head _))))
        go_simp
      try simp only [Act.put, List.setIfInBounds_toArray, List.set_cons_zero, List.set_cons_succ]
      refine take_at (i := 9) (d := 157) (v := .int .i64 n) rfl rfl (by kernel_rfl) (by kernel_rfl) (by kernel_rfl) (fun _ _ _ h => h) (Or.inl ⟨by rfl, ?_⟩) hHeld ?_
      · intro w' hS; go_simp
      try simp only [Act.put, List.setIfInBounds_toArray, List.set_cons_zero, List.set_cons_succ]
      refine take_at (i := 10) (d := 158) (v := .pointer (some ⟨ql, 1, none⟩)) rfl rfl (by kernel_rfl) (by kernel_rfl) (by kernel_rfl) (fun _ _ _ h => h) (Or.inl ⟨by rfl, ?_⟩) hHeld ?_
      · intro w' hS; go_simp
      try simp only [Act.put, List.setIfInBounds_toArray, List.set_cons_zero, List.set_cons_succ]
      refine take_at (i := 11) (d := 159) (v := .int .i64 M.2) rfl rfl (by kernel_rfl) (by kernel_rfl) (by kernel_rfl) (fun _ _ _ h => h) (Or.inl ⟨by rfl, ?_⟩) hHeld ?_
      · intro w' hS
        obtain ⟨k0, k1⟩ := lies_pair (hS.2 _ (.tail _ (.head _)))
        go_simp
      try simp only [Act.put, List.setIfInBounds_toArray, List.set_cons_zero, List.set_cons_succ]
      refine take_at (i := 12) (d := 160) (v := .int .i64 G) rfl rfl (by kernel_rfl) (by kernel_rfl) (by kernel_rfl) (fun _ _ _ h => h) (Or.inl ⟨by rfl, ?_⟩) hHeld ?_
      · intro w' hS; go_simp
      try simp only [Act.put, List.setIfInBounds_toArray, List.set_cons_zero, List.set_cons_succ]
      refine take_at (i := 13) (d := 161) (v := .int .i64 m) rfl rfl (by kernel_rfl) (by kernel_rfl) (by kernel_rfl) (fun _ _ _ h => h) (Or.inl ⟨by rfl, ?_⟩) hHeld ?_
      · intro w' hS; go_simp
      try simp only [Act.put, List.setIfInBounds_toArray, List.set_cons_zero, List.set_cons_succ]
      refine take_at (i := 14) (d := 162) (v := .int .i64 m) rfl rfl (by kernel_rfl) (by kernel_rfl) (by kernel_rfl) (fun _ _ _ h => h) (Or.inl ⟨by rfl, ?_⟩) hHeld ?_
      · intro w' hS; go_simp
      try simp only [Act.put, List.setIfInBounds_toArray, List.set_cons_zero, List.set_cons_succ]
      refine take_at (i := 15) (d := 163) (v := .bool false) rfl rfl (by kernel_rfl) (by kernel_rfl) (by kernel_rfl) (fun _ _ _ h => h) (Or.inl ⟨by rfl, ?_⟩) hHeld ?_
      · intro w' hS; go_simp
      try simp only [Act.put, List.setIfInBounds_toArray, List.set_cons_zero, List.set_cons_succ]
      refine take_at (i := 16) (d := 164) (v := .bool false) rfl rfl (by kernel_rfl) (by kernel_rfl) (by kernel_rfl) (fun _ _ _ h => h) (Or.inl ⟨by rfl, ?_⟩) hHeld ?_
      · intro w' hS; go_simp
      try simp only [Act.put, List.setIfInBounds_toArray, List.set_cons_zero, List.set_cons_succ]
      refine take_at (i := 17) (d := 165) (v := undef) rfl rfl (by kernel_rfl) (by kernel_rfl) (by kernel_rfl) (fun _ _ _ h => h) (Or.inr ⟨by kernel_rfl, rfl⟩) hHeld ?_
      try simp only [Act.put, List.setIfInBounds_toArray, List.set_cons_zero, List.set_cons_succ]
      refine take_at (i := 18) (d := 166) (v := undef) rfl rfl (by kernel_rfl) (by kernel_rfl) (by kernel_rfl) (fun _ _ _ h => h) (Or.inr ⟨by kernel_rfl, rfl⟩) hHeld ?_
      try simp only [Act.put, List.setIfInBounds_toArray, List.set_cons_zero, List.set_cons_succ]
      refine take_at (i := 19) (d := 167) (v := undef) rfl rfl (by kernel_rfl) (by kernel_rfl) (by kernel_rfl) (fun _ _ _ h => h) (Or.inr ⟨by kernel_rfl, rfl⟩) hHeld ?_
      try simp only [Act.put, List.setIfInBounds_toArray, List.set_cons_zero, List.set_cons_succ]
      refine take_at (i := 20) (d := 168) (v := undef) rfl rfl (by kernel_rfl) (by kernel_rfl) (by kernel_rfl) (fun _ _ _ h => h) (Or.inr ⟨by kernel_rfl, rfl⟩) hHeld ?_
      try simp only [Act.put, List.setIfInBounds_toArray, List.set_cons_zero, List.set_cons_succ]
      refine take_at (i := 21) (d := 169) (v := undef) rfl rfl (by kernel_rfl) (by kernel_rfl) (by kernel_rfl) (fun _ _ _ h => h) (Or.inr ⟨by kernel_rfl, rfl⟩) hHeld ?_
      try simp only [Act.put, List.setIfInBounds_toArray, List.set_cons_zero, List.set_cons_succ]
      refine take_at (i := 22) (d := 170) (v := undef) rfl rfl (by kernel_rfl) (by kernel_rfl) (by kernel_rfl) (fun _ _ _ h => h) (Or.inr ⟨by kernel_rfl, rfl⟩) hHeld ?_
      try simp only [Act.put, List.setIfInBounds_toArray, List.set_cons_zero, List.set_cons_succ]
      refine take_at (i := 23) (d := 171) (v := undef) rfl rfl (by kernel_rfl) (by kernel_rfl) (by kernel_rfl) (fun _ _ _ h => h) (Or.inr ⟨by kernel_rfl, rfl⟩) hHeld ?_
      try simp only [Act.put, List.setIfInBounds_toArray, List.set_cons_zero, List.set_cons_succ]
      refine take_at (i := 24) (d := 172) (v := undef) rfl rfl (by kernel_rfl) (by kernel_rfl) (by kernel_rfl) (fun _ _ _ h => h) (Or.inr ⟨by kernel_rfl, rfl⟩) hHeld ?_
      try simp only [Act.put, List.setIfInBounds_toArray, List.set_cons_zero, List.set_cons_succ]
      refine take_at (i := 25) (d := 173) (v := undef) rfl rfl (by kernel_rfl) (by kernel_rfl) (by kernel_rfl) (fun _ _ _ h => h) (Or.inr ⟨by kernel_rfl, rfl⟩) hHeld ?_
      try simp only [Act.put, List.setIfInBounds_toArray, List.set_cons_zero, List.set_cons_succ]
      refine take_at (i := 26) (d := 174) (v := .bool false) rfl rfl (by kernel_rfl) (by kernel_rfl) (by kernel_rfl) (fun _ _ _ h => h) (Or.inl ⟨by rfl, ?_⟩) hHeld ?_
      · intro w' hS; go_simp
      try simp only [Act.put, List.setIfInBounds_toArray, List.set_cons_zero, List.set_cons_succ]
      refine take_at (i := 27) (d := 175) (v := .bool false) rfl rfl (by kernel_rfl) (by kernel_rfl) (by kernel_rfl) (fun _ _ _ h => h) (Or.inl ⟨by rfl, ?_⟩) hHeld ?_
      · intro w' hS; go_simp
      try simp only [Act.put, List.setIfInBounds_toArray, List.set_cons_zero, List.set_cons_succ]
      refine take_at (i := 28) (d := 176) (v := .bool false) rfl rfl (by kernel_rfl) (by kernel_rfl) (by kernel_rfl) (fun _ _ _ h => h) (Or.inl ⟨by rfl, ?_⟩) hHeld ?_
      · intro w' hS; go_simp
      try simp only [Act.put, List.setIfInBounds_toArray, List.set_cons_zero, List.set_cons_succ]
      refine wpAnyH_done (by kernel_rfl) ?_ _
      obtain ⟨HB, L⟩ := hHeld
      go_wp2_with fail
      go_meet
      case rel => exact ⟨rfl, HB, L⟩
    · have hk' : (kc == 0) = false := by simpa using hk
      clear hk
      refine wp_region_held_drew (S := LS w [(qv, P2 e1 e2), (ql, P2 M.1 M.2), (qk, P2 M.1 M.2), (qu, P2 S.1 S.2), (qs, P2 S.1 S.2), (qf + 1, P2 c2 d2), (qf, P2 a2 b2), (qt, P2 Z.1 Z.2), (qz, P2 Z.1 Z.2), (qx + 1, P2 c d), (qx, P2 a b)]) (by kernel_rfl) (ls_drew ⟨HB, L⟩) (fun hHeld => ?_)
      clear HB L
      refine take_at (i := 0) (d := 148) (v := .int .i64 kc) rfl rfl (by kernel_rfl) (by kernel_rfl) (by kernel_rfl) (fun _ _ _ h => h) (Or.inl ⟨by rfl, ?_⟩) hHeld ?_
      · intro w' hS; go_simp
      try simp only [Act.put, List.setIfInBounds_toArray, List.set_cons_zero, List.set_cons_succ]
      refine take_at (i := 1) (d := 149) (v := .bool false) rfl rfl (by kernel_rfl) (by kernel_rfl) (by kernel_rfl) (fun _ _ _ h => h) (Or.inl ⟨by rfl, ?_⟩) hHeld ?_
      · intro w' hS; go_simp
      try simp only [Act.put, List.setIfInBounds_toArray, List.set_cons_zero, List.set_cons_succ]
      refine take_at (i := 2) (d := 150) (v := .bool false) rfl rfl (by kernel_rfl) (by kernel_rfl) (by kernel_rfl) (fun _ _ _ h => h) (Or.inl ⟨by rfl, ?_⟩) hHeld ?_
      · intro w' hS; go_simp
      try simp only [Act.put, List.setIfInBounds_toArray, List.set_cons_zero, List.set_cons_succ]
      refine take_at (i := 3) (d := 151) (v := undef) rfl rfl (by kernel_rfl) (by kernel_rfl) (by kernel_rfl) (fun _ _ _ h => h) (Or.inr ⟨by kernel_rfl, rfl⟩) hHeld ?_
      try simp only [Act.put, List.setIfInBounds_toArray, List.set_cons_zero, List.set_cons_succ]
      refine take_at (i := 4) (d := 152) (v := undef) rfl rfl (by kernel_rfl) (by kernel_rfl) (by kernel_rfl) (fun _ _ _ h => h) (Or.inr ⟨by kernel_rfl, rfl⟩) hHeld ?_
      try simp only [Act.put, List.setIfInBounds_toArray, List.set_cons_zero, List.set_cons_succ]
      refine take_at (i := 5) (d := 153) (v := undef) rfl rfl (by kernel_rfl) (by kernel_rfl) (by kernel_rfl) (fun _ _ _ h => h) (Or.inr ⟨by kernel_rfl, rfl⟩) hHeld ?_
      try simp only [Act.put, List.setIfInBounds_toArray, List.set_cons_zero, List.set_cons_succ]
      refine take_at (i := 6) (d := 154) (v := undef) rfl rfl (by kernel_rfl) (by kernel_rfl) (by kernel_rfl) (fun _ _ _ h => h) (Or.inr ⟨by kernel_rfl, rfl⟩) hHeld ?_
      try simp only [Act.put, List.setIfInBounds_toArray, List.set_cons_zero, List.set_cons_succ]
      refine take_at (i := 7) (d := 155) (v := undef) rfl rfl (by kernel_rfl) (by kernel_rfl) (by kernel_rfl) (fun _ _ _ h => h) (Or.inr ⟨by kernel_rfl, rfl⟩) hHeld ?_
      try simp only [Act.put, List.setIfInBounds_toArray, List.set_cons_zero, List.set_cons_succ]
      refine take_at (i := 8) (d := 156) (v := undef) rfl rfl (by kernel_rfl) (by kernel_rfl) (by kernel_rfl) (fun _ _ _ h => h) (Or.inr ⟨by kernel_rfl, rfl⟩) hHeld ?_
      try simp only [Act.put, List.setIfInBounds_toArray, List.set_cons_zero, List.set_cons_succ]
      refine take_at (i := 9) (d := 157) (v := undef) rfl rfl (by kernel_rfl) (by kernel_rfl) (by kernel_rfl) (fun _ _ _ h => h) (Or.inr ⟨by kernel_rfl, rfl⟩) hHeld ?_
      try simp only [Act.put, List.setIfInBounds_toArray, List.set_cons_zero, List.set_cons_succ]
      refine take_at (i := 10) (d := 158) (v := undef) rfl rfl (by kernel_rfl) (by kernel_rfl) (by kernel_rfl) (fun _ _ _ h => h) (Or.inr ⟨by kernel_rfl, rfl⟩) hHeld ?_
      try simp only [Act.put, List.setIfInBounds_toArray, List.set_cons_zero, List.set_cons_succ]
      refine take_at (i := 11) (d := 159) (v := undef) rfl rfl (by kernel_rfl) (by kernel_rfl) (by kernel_rfl) (fun _ _ _ h => h) (Or.inr ⟨by kernel_rfl, rfl⟩) hHeld ?_
      try simp only [Act.put, List.setIfInBounds_toArray, List.set_cons_zero, List.set_cons_succ]
      refine take_at (i := 12) (d := 160) (v := undef) rfl rfl (by kernel_rfl) (by kernel_rfl) (by kernel_rfl) (fun _ _ _ h => h) (Or.inr ⟨by kernel_rfl, rfl⟩) hHeld ?_
      try simp only [Act.put, List.setIfInBounds_toArray, List.set_cons_zero, List.set_cons_succ]
      refine take_at (i := 13) (d := 161) (v := undef) rfl rfl (by kernel_rfl) (by kernel_rfl) (by kernel_rfl) (fun _ _ _ h => h) (Or.inr ⟨by kernel_rfl, rfl⟩) hHeld ?_
      try simp only [Act.put, List.setIfInBounds_toArray, List.set_cons_zero, List.set_cons_succ]
      refine take_at (i := 14) (d := 162) (v := undef) rfl rfl (by kernel_rfl) (by kernel_rfl) (by kernel_rfl) (fun _ _ _ h => h) (Or.inr ⟨by kernel_rfl, rfl⟩) hHeld ?_
      try simp only [Act.put, List.setIfInBounds_toArray, List.set_cons_zero, List.set_cons_succ]
      refine take_at (i := 15) (d := 163) (v := undef) rfl rfl (by kernel_rfl) (by kernel_rfl) (by kernel_rfl) (fun _ _ _ h => h) (Or.inr ⟨by kernel_rfl, rfl⟩) hHeld ?_
      try simp only [Act.put, List.setIfInBounds_toArray, List.set_cons_zero, List.set_cons_succ]
      refine take_at (i := 16) (d := 164) (v := undef) rfl rfl (by kernel_rfl) (by kernel_rfl) (by kernel_rfl) (fun _ _ _ h => h) (Or.inr ⟨by kernel_rfl, rfl⟩) hHeld ?_
      try simp only [Act.put, List.setIfInBounds_toArray, List.set_cons_zero, List.set_cons_succ]
      refine take_at (i := 17) (d := 165) (v := undef) rfl rfl (by kernel_rfl) (by kernel_rfl) (by kernel_rfl) (fun _ _ _ h => h) (Or.inr ⟨by kernel_rfl, rfl⟩) hHeld ?_
      try simp only [Act.put, List.setIfInBounds_toArray, List.set_cons_zero, List.set_cons_succ]
      refine take_at (i := 18) (d := 166) (v := undef) rfl rfl (by kernel_rfl) (by kernel_rfl) (by kernel_rfl) (fun _ _ _ h => h) (Or.inr ⟨by kernel_rfl, rfl⟩) hHeld ?_
      try simp only [Act.put, List.setIfInBounds_toArray, List.set_cons_zero, List.set_cons_succ]
      refine take_at (i := 19) (d := 167) (v := undef) rfl rfl (by kernel_rfl) (by kernel_rfl) (by kernel_rfl) (fun _ _ _ h => h) (Or.inr ⟨by kernel_rfl, rfl⟩) hHeld ?_
      try simp only [Act.put, List.setIfInBounds_toArray, List.set_cons_zero, List.set_cons_succ]
      refine take_at (i := 20) (d := 168) (v := undef) rfl rfl (by kernel_rfl) (by kernel_rfl) (by kernel_rfl) (fun _ _ _ h => h) (Or.inr ⟨by kernel_rfl, rfl⟩) hHeld ?_
      try simp only [Act.put, List.setIfInBounds_toArray, List.set_cons_zero, List.set_cons_succ]
      refine take_at (i := 21) (d := 169) (v := undef) rfl rfl (by kernel_rfl) (by kernel_rfl) (by kernel_rfl) (fun _ _ _ h => h) (Or.inr ⟨by kernel_rfl, rfl⟩) hHeld ?_
      try simp only [Act.put, List.setIfInBounds_toArray, List.set_cons_zero, List.set_cons_succ]
      refine take_at (i := 22) (d := 170) (v := undef) rfl rfl (by kernel_rfl) (by kernel_rfl) (by kernel_rfl) (fun _ _ _ h => h) (Or.inr ⟨by kernel_rfl, rfl⟩) hHeld ?_
      try simp only [Act.put, List.setIfInBounds_toArray, List.set_cons_zero, List.set_cons_succ]
      refine take_at (i := 23) (d := 171) (v := undef) rfl rfl (by kernel_rfl) (by kernel_rfl) (by kernel_rfl) (fun _ _ _ h => h) (Or.inr ⟨by kernel_rfl, rfl⟩) hHeld ?_
      try simp only [Act.put, List.setIfInBounds_toArray, List.set_cons_zero, List.set_cons_succ]
      refine take_at (i := 24) (d := 172) (v := undef) rfl rfl (by kernel_rfl) (by kernel_rfl) (by kernel_rfl) (fun _ _ _ h => h) (Or.inr ⟨by kernel_rfl, rfl⟩) hHeld ?_
      try simp only [Act.put, List.setIfInBounds_toArray, List.set_cons_zero, List.set_cons_succ]
      refine take_at (i := 25) (d := 173) (v := undef) rfl rfl (by kernel_rfl) (by kernel_rfl) (by kernel_rfl) (fun _ _ _ h => h) (Or.inr ⟨by kernel_rfl, rfl⟩) hHeld ?_
      try simp only [Act.put, List.setIfInBounds_toArray, List.set_cons_zero, List.set_cons_succ]
      refine take_at (i := 26) (d := 174) (v := undef) rfl rfl (by kernel_rfl) (by kernel_rfl) (by kernel_rfl) (fun _ _ _ h => h) (Or.inr ⟨by kernel_rfl, rfl⟩) hHeld ?_
      try simp only [Act.put, List.setIfInBounds_toArray, List.set_cons_zero, List.set_cons_succ]
      refine take_at (i := 27) (d := 175) (v := undef) rfl rfl (by kernel_rfl) (by kernel_rfl) (by kernel_rfl) (fun _ _ _ h => h) (Or.inr ⟨by kernel_rfl, rfl⟩) hHeld ?_
      try simp only [Act.put, List.setIfInBounds_toArray, List.set_cons_zero, List.set_cons_succ]
      refine take_at (i := 28) (d := 176) (v := .bool false) rfl rfl (by kernel_rfl) (by kernel_rfl) (by kernel_rfl) (fun _ _ _ h => h) (Or.inl ⟨by rfl, ?_⟩) hHeld ?_
      · intro w' hS; go_simp
      try simp only [Act.put, List.setIfInBounds_toArray, List.set_cons_zero, List.set_cons_succ]
      refine wpAnyH_done (by kernel_rfl) ?_ _
      obtain ⟨HB, L⟩ := hHeld
      go_wp2_with fail
      go_meet
      case rel => exact ⟨rfl, HB, L⟩
  case rest =>
  clear HB L
  obtain ⟨rfl, HB, L⟩ := hcut
  obtain ⟨x0, x1⟩ := lies_pair (L _ (.tail _ (.tail _ (.tail _ (.tail _ (.tail _ (.tail _ (.tail _ (.tail _ (.tail _ (.tail _ (.head _))))))))))))
  obtain ⟨y0, y1⟩ := lies_pair (L _ (.tail _ (.tail _ (.tail _ (.tail _ (.tail _ (.tail _ (.tail _ (.tail _ (.tail _ (.head _)))))))))))
  by_cases hz : zc = 0
  · by_cases ha : a = 0
    · have ha' : (a == 0) = true := by simp [ha]
      have hz' : (zc != 0) = false := by simp [hz]
      clear ha hz
      go_wp2_with fail
      go_ret
      exact ⟨rfl, HB⟩
    · by_cases hc : c = 0
      · have ha' : (a == 0) = false := by simpa using ha
        have hc' : (c == 0) = true := by simp [hc]
        have hz' : (zc != 0) = false := by simp [hz]
        clear ha hz hc
        go_wp2_with fail
        go_ret
        exact ⟨rfl, HB⟩
      · obtain ⟨m1, m2, m3, m4, c1, c2, c3, e3, l0, l1, l2, l3⟩ := mul_val (p := 3) (by decide) (by rw [HZ.out.2]; exact hz) ha hc
        rw [HZ.out.1] at m3 c3 e3
        have B1 := fun w => implRV_any a b 3 w
        have B2 := fun w => implRV_any c d 3 w
        have B3 := fun w => implRV_any Z.1 Z.2 3 w
        rw [c1] at B1
        rw [c2] at B2
        rw [c3, e3] at B3
        generalize rvalV a b 3 = va at *
        generalize rvalV c d 3 = vb at *
        replace B1 := Lib.hid B1
        replace B2 := Lib.hid B2
        replace B3 := Lib.hid B3
        have HR := Lib.hid m3
        have ha' : (a == 0) = false := by simpa using ha
        have hc' : (c == 0) = false := by simpa using hc
        have hz' : (zc != 0) = false := by simp [hz]
        clear ha hz hc m1 m2 m3 m4 c1 c2 c3 e3
        go_upto_region 21 with fail
        clear x0 x1
        clear y0 y1
        obtain ⟨x0, x1⟩ := lies_pair (L _ (.tail _ (.tail _ (.tail _ (.tail _ (.tail _ (.tail _ (.tail _ (.tail _ (.tail _ (.tail _ (.head _))))))))))))
        go_upto_region 22 with (first | (go_at_call 33; refine (B1.out _).mono ?_; rintro e w43 ⟨rfl, hb⟩; replace L := ll_next L hb; replace HB := HB.trans (hb.mono HB.size)))
        clear x0 x1
        clear hb
        obtain ⟨y0, y1⟩ := lies_pair (L _ (.tail _ (.tail _ (.tail _ (.tail _ (.tail _ (.tail _ (.tail _ (.tail _ (.tail _ (.head _)))))))))))
        go_upto_region 23 with (first | (go_at_call 33; refine (B2.out _).mono ?_; rintro e w44 ⟨rfl, hb⟩; replace L := ll_next L hb; replace HB := HB.trans (hb.mono HB.size)))
        clear y0 y1
        clear hb
        obtain ⟨z0, z1⟩ := lies_pair (L _ (.tail _ (.tail _ (.tail _ (.tail _ (.tail _ (.tail _ (.tail _ (.tail _ (.head _))))))))))
        go_upto_region 24 with (first | (go_at_call 33; refine (B3.out _).mono ?_; rintro e w45 ⟨rfl, hb⟩; replace L := ll_next L hb; replace HB := HB.trans (hb.mono HB.size)))
        clear z0 z1
        clear hb
        obtain ⟨z0, z1⟩ := lies_pair (L _ (.tail _ (.tail _ (.tail _ (.tail _ (.tail _ (.tail _ (.tail _ (.tail _ (.head _))))))))))
        go_wp2_with (go_at_call 20; refine (implIsRational_any _ _ _).mono ?_; rw [HR.out]; rintro e1' wn ⟨rfl, hb⟩; replace HB := HB.trans (hb.mono HB.size))
        go_ret
        exact ⟨rfl, HB⟩
  · have hz' : (zc != 0) = true := by simp [hz]
    clear hz
    go_wp2_with fail
    go_ret
    exact ⟨rfl, HB⟩
set_option maxRecDepth 100000 in
theorem rationals_walk (a : Option Addr) (len cap : Nat) (zs : List Int) (w : World) (h : IsRowOf .u8 w a len cap zs) :
    Calls Try.prog 4 #[.slice a len cap] w fun e w' => e = .returned (.bool true) ∧ Below w.heap.size w w' := by
  obtain ⟨hc, hm⟩ := codeIn_of h
  by_cases hl : len ≤ 4096
  · exact rationals_core a len cap w hl hc
  · clear hc h
    go_enter Try.func4, Try.ntmps4
    go_wp2_with (go_at_call 14; refine (big_yes _ _ _ _ (by omega) (by omega)).mono ?_; rintro e w' ⟨rfl, rfl⟩)
    go_ret
    exact ⟨rfl, Below.refl _ _⟩
end Go.Proofs.Ytmggcoacaijnjaa
