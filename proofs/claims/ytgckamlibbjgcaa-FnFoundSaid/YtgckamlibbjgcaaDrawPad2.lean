/- The drawn arguments of chapter 3's laws. -/
import Derived.Test.YtgckamlibbjgcaaDrawPad
import Derived.Test.YtgckamlibbjgcaaPadExp3
import Derived.Test.YtgckamlibbjgcaaPadSpec3
import Derived.Test.YtgckamlibbjgcaaDrawVal
import Derived.Deep.DeepCutAuto
namespace Go.Proofs.Ytgckamlibbjgcaa
open Go.RowKit
set_option linter.unusedVariables false
set_option maxRecDepth 20000
set_option linter.unusedSimpArgs false
def OnePad (w : World) (e : Ending) (w' : World) : Prop := ∃ p v u n : Int, e = .returned (.agg (P4 p v u n)) ∧ Below w.heap.size w w'
def PadInt (w : World) (e : Ending) (w' : World) : Prop := ∃ p v u n k : Int, e = .returned (.tuple #[.agg (P4 p v u n), .int .i64 k]) ∧ Below w.heap.size w w'
def TwoPad (w : World) (e : Ending) (w' : World) : Prop := ∃ p v u n q v' u' n' : Int, e = .returned (.tuple #[.agg (P4 p v u n), .agg (P4 q v' u' n')]) ∧ Below w.heap.size w w'
def ThreeInt (w : World) (e : Ending) (w' : World) : Prop := ∃ a b c : Int, e = .returned (.tuple #[.int .i64 a, .int .i64 b, .int .i64 c]) ∧ Below w.heap.size w w'
/-- a source in use, and what is old; k blocks lie ahead of the source -/
def DD (o : Option Addr) (len cap q k : Nat) (w wz : World) : Prop := Src wz o len cap q ∧ Below w.heap.size w wz ∧ w.heap.size + k ≤ q
theorem dd_next {o : Option Addr} {len cap q k : Nat} {w w1 w2 : World} (h : DD o len cap q k w w1) (hs : Src w2 o len cap q) (hg : w1.grownBy w2 (some q)) : DD o len cap q k w w2 :=
  ⟨hs, below_draw h.2.1 hg (by have := h.2.2; omega) h.2.1.size, h.2.2⟩
theorem dd_alloc {o : Option Addr} {len cap q k : Nat} {w w1 : World} (h : DD o len cap q k w w1) (ob : Obj) : DD o len cap q k w (w1.alloc ob) := dd_next h (src_alloc h.1 ob) (World.grownBy_alloc w1 ob (some q))
theorem dd_drew {o : Option Addr} {len cap q k : Nat} {w w1 : World} (h : DD o len cap q k w w1) : DD o len cap q k w w1.drew := ⟨src_drewN h.1 1, below_drewN h.2.1 1, h.2.2⟩
theorem dd_drewN {o : Option Addr} {len cap q k : Nat} {w w1 : World} (h : DD o len cap q k w w1) (j : Nat) : DD o len cap q k w (w1.drewN j) := ⟨src_drewN h.1 j, below_drewN h.2.1 j, h.2.2⟩
theorem dd_below {o : Option Addr} {len cap q k : Nat} {w w1 w2 : World} (h : DD o len cap q k w w1) (hb : Below w1.heap.size w1 w2) : DD o len cap q k w w2 :=
  ⟨src_below h.1 hb (src_lt h.1), h.2.1.trans (hb.mono h.2.1.size), h.2.2⟩
theorem dd_set {o : Option Addr} {len cap q k : Nat} {w w1 : World} (h : DD o len cap q k w w1) {b i : Nat} (hb : q < b) (v : Value) : DD o len cap q k w (w1.setCell ⟨b, i, none⟩ v) :=
  ⟨src_set h.1 hb, h.2.1.setCell (show w.heap.size ≤ b by have := h.2.2; omega) _, h.2.2⟩
theorem k1_grown {w w1 w2 : World} {a : Array Value} {q : Nat} (h : K1 w a w1) (hg : w1.grownBy w2 (some q)) (hq : w.heap.size + 1 ≤ q) : K1 w a w2 := ⟨below_draw h.1 hg (by omega) h.1.size, lies_grown h.2 hg (by omega)⟩
theorem k2_grown {w w1 w2 : World} {a b : Array Value} {q : Nat} (h : K2 w a b w1) (hg : w1.grownBy w2 (some q)) (hq : w.heap.size + 2 ≤ q) : K2 w a b w2 :=
  ⟨below_draw h.1 hg (by omega) h.1.size, lies_grown h.2.1 hg (by omega), lies_grown h.2.2 hg (by omega)⟩
theorem drawInvert_any (o : Option Addr) (len cap : Nat) (w : World) (hl : len ≤ 4096) (hc : CodeIn w o len) :
    Calls Try.prog 27 #[.slice o len cap] w (OnePad w) := by
  have HC := Lib.hid (codeIn_below (B := w.heap.size) hc (show Below w.heap.size w (w.alloc (.cells (P4 0 0 0 0) 34)) from below_a1 w _))
  have HC0 := Lib.hid hc
  clear hc
  go_enter Try.func27, Try.ntmps27
  go_wp2_with fail
  refine (from_any _ _ _ _ hl HC.out).mono ?_
  rintro e w1 ⟨q, rfl, hq, hs1, hb1⟩
  have K := k1_next (k1_new w (P4 0 0 0 0)  34 ) hb1
  have D : DD o len cap q 1 w w1 := ⟨hs1, K.1, by simpa using hq⟩
  clear hs1 hb1 hq
  go_wp2_with fail
  refine (padDraw_any o len cap q _ D.1).mono ?_
  rintro e w2 ⟨p, v, u, n, rfl, _, _, _, _, _, _, _, _, hs2, hg2⟩
  have K2 := k1_grown K hg2 D.2.2
  obtain ⟨c0, c1, c2, c3⟩ := lies_four K2.2
  obtain ⟨cf0, cf1, cf2, cf3⟩ := lies_ice K2.2
  clear hs2 hg2 K D
  go_wp2
  refine bodyPost_ret (v := .agg (P4 p v u n)) (by simp [results, Try.results27, go_sem, c0, c1, c2, c3]) rfl ?_
  exact ⟨_, _, _, _, rfl, below_set4 K2.1 (by omega)⟩
theorem drawCut_any (o : Option Addr) (len cap : Nat) (w : World) (hl : len ≤ 4096) (hc : CodeIn w o len) :
    Calls Try.prog 30 #[.slice o len cap] w (PadInt w) := by
  have HC := Lib.hid (codeIn_below (B := w.heap.size) hc (show Below w.heap.size w (w.alloc (.cells (P4 0 0 0 0) 34)) from below_a1 w _))
  have HC0 := Lib.hid hc
  clear hc
  go_enter Try.func30, Try.ntmps30
  go_wp2_with fail
  refine (from_any _ _ _ _ hl HC.out).mono ?_
  rintro e w1 ⟨q, rfl, hq, hs1, hb1⟩
  have K := k1_next (k1_new w (P4 0 0 0 0)  34 ) hb1
  have D : DD o len cap q 1 w w1 := ⟨hs1, K.1, by simpa using hq⟩
  clear hs1 hb1 hq
  go_wp2_with fail
  refine (padDraw_any o len cap q _ D.1).mono ?_
  rintro e w2 ⟨p, v, u, n, rfl, hp0, hp1, hv0, hv1, hu0, hu1, hn0, hn1, hs2, hg2⟩
  replace K := k1_grown K hg2 D.2.2
  replace D := dd_next D hs2 hg2
  clear hs2 hg2
  have hw0 := IntWalk.i64_in (n + 1) (by omega)
  go_upto_region 3 with fail
  have Lx := lies_new w2 (P4 p v u n) 34
  have hlx : q < w2.heap.size := src_lt D.1
  replace D := dd_alloc D (.cells (P4 p v u n) 34)
  replace K := k1_next K (below_a1 w2 (.cells (P4 p v u n) 34))
  generalize w2.alloc (.cells (P4 p v u n) 34) = Wx at Lx D K ⊢
  obtain ⟨bx, hbx⟩ : ∃ b, w2.heap.size = b := ⟨_, rfl⟩
  rw [hbx] at Lx hlx ⊢
  clear hbx
  refine wp_region_held_drew (S := fun w' => Lies w' bx (P4 p v u n)) (by kernel_rfl) Lx (fun hHeld => ?_)
  replace D := dd_drew D
  replace K := k1_drew K
  generalize World.drew Wx = W1 at D K hHeld ⊢
  refine take_at (i := 0) (d := 10) (v := .agg #[.int .i64 p, .int .i64 v, .int .i64 u, .int .i64 n]) rfl rfl (by kernel_rfl) (by kernel_rfl) (by kernel_rfl) (fun _ _ _ h => h) (Or.inl ⟨by rfl, ?_⟩) hHeld ?_
  · intro w' hS
    obtain ⟨k0, k1, k2, k3⟩ := lies_four hS
    go_simp
  try simp only [Act.put, List.setIfInBounds_toArray, List.set_cons_zero, List.set_cons_succ]
  refine take_at (i := 1) (d := 11) (v := .pointer (some ⟨q, 0, none⟩)) rfl rfl (by kernel_rfl) (by kernel_rfl) (by kernel_rfl) (fun _ _ _ h => h) (Or.inl ⟨by rfl, ?_⟩) hHeld ?_
  · intro w' hS; go_simp
  try simp only [Act.put, List.setIfInBounds_toArray, List.set_cons_zero, List.set_cons_succ]
  refine take_at (i := 2) (d := 12) (v := .pointer (some ⟨bx, 3, none⟩)) rfl rfl (by kernel_rfl) (by kernel_rfl) (by kernel_rfl) (fun _ _ _ h => h) (Or.inl ⟨by rfl, ?_⟩) hHeld ?_
  · intro w' hS; go_simp
  try simp only [Act.put, List.setIfInBounds_toArray, List.set_cons_zero, List.set_cons_succ]
  refine take_at (i := 3) (d := 13) (v := .int .i64 n) rfl rfl (by kernel_rfl) (by kernel_rfl) (by kernel_rfl) (fun _ _ _ h => h) (Or.inl ⟨by rfl, ?_⟩) hHeld ?_
  · intro w' hS
    obtain ⟨k0, k1, k2, k3⟩ := lies_four hS
    go_simp
  try simp only [Act.put, List.setIfInBounds_toArray, List.set_cons_zero, List.set_cons_succ]
  refine take_at (i := 4) (d := 14) (v := .pointer (some ⟨bx, 3, none⟩)) rfl rfl (by kernel_rfl) (by kernel_rfl) (by kernel_rfl) (fun _ _ _ h => h) (Or.inl ⟨by rfl, ?_⟩) hHeld ?_
  · intro w' hS; go_simp
  try simp only [Act.put, List.setIfInBounds_toArray, List.set_cons_zero, List.set_cons_succ]
  refine take_at (i := 5) (d := 15) (v := .int .i64 n) rfl rfl (by kernel_rfl) (by kernel_rfl) (by kernel_rfl) (fun _ _ _ h => h) (Or.inl ⟨by rfl, ?_⟩) hHeld ?_
  · intro w' hS
    obtain ⟨k0, k1, k2, k3⟩ := lies_four hS
    go_simp
  try simp only [Act.put, List.setIfInBounds_toArray, List.set_cons_zero, List.set_cons_succ]
  refine take_at (i := 6) (d := 16) (v := .int .i64 (n + 1)) rfl rfl (by kernel_rfl) (by kernel_rfl) (by kernel_rfl) (fun _ _ _ h => h) (Or.inl ⟨by rfl, ?_⟩) hHeld ?_
  · intro w' hS; go_simp
  try simp only [Act.put, List.setIfInBounds_toArray, List.set_cons_zero, List.set_cons_succ]
  refine take_at (i := 7) (d := 17) (v := .pointer (some ⟨q, 0, none⟩)) rfl rfl (by kernel_rfl) (by kernel_rfl) (by kernel_rfl) (fun _ _ _ h => h) (Or.inl ⟨by rfl, ?_⟩) hHeld ?_
  · intro w' hS; go_simp
  try simp only [Act.put, List.setIfInBounds_toArray, List.set_cons_zero, List.set_cons_succ]
  refine take_at (i := 8) (d := 18) (v := .pointer (some ⟨bx, 3, none⟩)) rfl rfl (by kernel_rfl) (by kernel_rfl) (by kernel_rfl) (fun _ _ _ h => h) (Or.inl ⟨by rfl, ?_⟩) hHeld ?_
  · intro w' hS; go_simp
  try simp only [Act.put, List.setIfInBounds_toArray, List.set_cons_zero, List.set_cons_succ]
  refine take_at (i := 9) (d := 19) (v := .int .i64 n) rfl rfl (by kernel_rfl) (by kernel_rfl) (by kernel_rfl) (fun _ _ _ h => h) (Or.inl ⟨by rfl, ?_⟩) hHeld ?_
  · intro w' hS
    obtain ⟨k0, k1, k2, k3⟩ := lies_four hS
    go_simp
  try simp only [Act.put, List.setIfInBounds_toArray, List.set_cons_zero, List.set_cons_succ]
  refine take_at (i := 10) (d := 20) (v := .int .i64 (max 1 n)) rfl rfl (by kernel_rfl) (by kernel_rfl) (by kernel_rfl) (fun _ _ _ h => h) (Or.inl ⟨by rfl, ?_⟩) hHeld ?_
  · intro w' hS; go_simp
  try simp only [Act.put, List.setIfInBounds_toArray, List.set_cons_zero, List.set_cons_succ]
  refine wpAnyH_ready (rs := [11]) (by kernel_rfl) (by simp) ?_
  refine AllReadyH.cons rfl (fun K' hK => ?_) AllReadyH.nil
  go_simp
  refine (next_any _ _ _ _ _ _ (by omega) D.1).mono ?_
  rintro e w3 ⟨r, rfl, r0, r1, hs3, hg3, hz3⟩
  go_simp
  refine hK.out _ _ (lies_grown hHeld hg3 (by omega)) (fun hHeld => ?_)
  clear hK K'
  try simp only [Act.put, List.setIfInBounds_toArray, List.set_cons_zero, List.set_cons_succ]
  have r2 : r ≤ 100 := by omega
  have hw1 := IntWalk.i64_in (1 + r) (by omega)
  replace K := k1_grown K hg3 D.2.2
  replace D := dd_next D hs3 hg3
  clear hs3 hg3 hz3 r1
  refine take_at (i := 12) (d := 22) (v := .int .i64 (1 + r)) rfl rfl (by kernel_rfl) (by kernel_rfl) (by kernel_rfl) (fun _ _ _ h => h) (Or.inl ⟨by rfl, ?_⟩) hHeld ?_
  · intro w' hS; go_simp
  try simp only [Act.put, List.setIfInBounds_toArray, List.set_cons_zero, List.set_cons_succ]
  have HX := hHeld
  refine wpAnyH_ready (rs := [13]) (by kernel_rfl) (by simp) ?_
  refine AllReadyH.cons rfl (fun K' hK => ?_) AllReadyH.nil
  go_simp
  refine hK.out _ _ (lies_alloc hHeld _) (fun hHeld => ?_)
  clear hK K'
  try simp only [Act.put, List.setIfInBounds_toArray, List.set_cons_zero, List.set_cons_succ]
  refine wpAnyH_ready (rs := [14]) (by kernel_rfl) (by simp) ?_
  refine AllReadyH.cons rfl (fun K' hK => ?_) AllReadyH.nil
  go_simp
  refine (pick_new [1, n, n + 1, 0, 1 + r] 2 5 o len cap q w3 D.1 (by simp) (by simp)).mono ?_
  rintro e w4 ⟨k, rfl, hk, hs4, hg4⟩
  go_simp
  refine hK.out _ _ (lies_grown HX hg4 (by omega)) (fun hHeld => ?_)
  clear hK K'
  try simp only [Act.put, List.setIfInBounds_toArray, List.set_cons_zero, List.set_cons_succ]
  have K2 := k1_grown K hg4 D.2.2
  obtain ⟨c0, c1, c2, c3⟩ := lies_four K2.2
  obtain ⟨cf0, cf1, cf2, cf3⟩ := lies_ice K2.2
  have hne : ¬ w.heap.size = bx := by have := D.2.2; omega
  clear hs4 hg4 hk K D HX
  refine wpAnyH_ready (rs := [15]) (by kernel_rfl) (by simp) ?_
  refine AllReadyH.cons rfl (fun K' hK => ?_) AllReadyH.nil
  go_simp
  refine hK.out _ _ (lies_other4 hHeld hne) (fun hHeld => ?_)
  clear hK K'
  try simp only [Act.put, List.setIfInBounds_toArray, List.set_cons_zero, List.set_cons_succ]
  refine take_at (i := 16) (d := 3) (v := .int .i64 k) rfl rfl (by kernel_rfl) (by kernel_rfl) (by kernel_rfl) (fun _ _ _ h => h) (Or.inl ⟨by rfl, ?_⟩) hHeld ?_
  · intro w' hS; go_simp
  try simp only [Act.put, List.setIfInBounds_toArray, List.set_cons_zero, List.set_cons_succ]
  refine wpAnyH_done (by kernel_rfl) ?_ _
  go_wp2
  refine bodyPost_ret (v := .tuple #[.agg (P4 p v u n), .int .i64 k]) (by simp [results, Try.results30, go_sem, c0, c1, c2, c3]) rfl ?_
  exact ⟨_, _, _, _, _, rfl, below_set4 K2.1 (by omega)⟩
end Go.Proofs.Ytgckamlibbjgcaa
