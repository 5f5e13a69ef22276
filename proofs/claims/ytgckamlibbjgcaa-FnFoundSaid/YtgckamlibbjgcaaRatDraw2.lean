/- The drawn arguments of chapter 5's plain laws: two rational numbers, two integers, a rational number and a prime or a ring. -/
import Derived.Test.YtgckamlibbjgcaaRatDraw
import Derived.Test.YtgckamlibbjgcaaDrawPad2
import Derived.Test.YtgckamlibbjgcaaDrawPrime
namespace Go.Proofs.Ytgckamlibbjgcaa
open Go.RowKit
set_option linter.unusedVariables false
set_option linter.unusedSimpArgs false
set_option maxRecDepth 20000
def TwoRat (w : World) (e : Ending) (w' : World) : Prop := ∃ a b c d : Int, e = .returned (.tuple #[.agg (P2 a b), .agg (P2 c d)]) ∧ Below w.heap.size w w'
def RatInt (w : World) (e : Ending) (w' : World) : Prop := ∃ a b c : Int, e = .returned (.tuple #[.agg (P2 a b), .int .i64 c]) ∧ Below w.heap.size w w'
def RatPad (w : World) (e : Ending) (w' : World) : Prop := ∃ a b p v u n : Int, e = .returned (.tuple #[.agg (P2 a b), .agg (P4 p v u n)]) ∧ Below w.heap.size w w'
def TwoInt (w : World) (e : Ending) (w' : World) : Prop := ∃ a b : Int, e = .returned (.tuple #[.int .i64 a, .int .i64 b]) ∧ Below w.heap.size w w'
theorem liesR_other2 {w1 : World} {b b' : Nat} {vs : Array Value} {x0 x1 : Value} (h : Lies w1 b vs) (hb : b' ≠ b) :
    Lies ((w1.setCell ⟨b', 0, none⟩ x0).setCell ⟨b', 1, none⟩ x1) b vs := lies_other (lies_other h hb) hb
set_option maxHeartbeats 1000000 in
theorem drawPof_any (o : Option Addr) (len cap : Nat) (w : World) (hl : len ≤ 4096) (hc : CodeIn w o len) :
    Calls Try.prog 46 #[.slice o len cap] w (TwoRat w) := by
  have HC := Lib.hid (codeIn_below (B := w.heap.size) hc (show Below w.heap.size w ((w.alloc (.cells (P2 0 0) 49)).alloc (.cells (P2 0 0) 25)) from below_a2 w _ _))
  clear hc
  go_enter Try.func46, Try.ntmps46
  go_wp2_with fail
  refine (from_any _ _ _ _ hl HC.out).mono ?_
  rintro e w1 ⟨q, rfl, hq, hs1, hb1⟩
  have K := k2_next (k2_new w (P2 0 0) (P2 0 0) 49 25) hb1
  have D : DD o len cap q 2 w w1 := ⟨hs1, K.1, by simpa using hq⟩
  clear hs1 hb1 hq
  go_wp2_with fail
  refine (ratDraw_any o len cap q _ D.1).mono ?_
  rintro e w2 ⟨n, d, rfl, _, _, _, _, hs2, hg2⟩
  replace K := k2_grown K hg2 D.2.2
  replace D := dd_next D hs2 hg2
  clear hs2 hg2
  go_upto_region 3 with fail
  have Lx := lies_new w2 (P2 n d) 49
  have hlx : q < w2.heap.size := src_lt D.1
  replace D := dd_alloc D (.cells (P2 n d) 49)
  replace K := k2_next K (below_a1 w2 (.cells (P2 n d) 49))
  generalize w2.alloc (.cells (P2 n d) 49) = Wx at Lx D K ⊢
  obtain ⟨bx, hbx⟩ : ∃ b, w2.heap.size = b := ⟨_, rfl⟩
  rw [hbx] at Lx hlx ⊢
  clear hbx
  refine wp_region_held_drew (S := fun w' => Lies w' bx (P2 n d)) (by kernel_rfl) Lx (fun hHeld => ?_)
  replace D := dd_drew D
  replace K := k2_drew K
  generalize World.drew Wx = W1 at D K hHeld ⊢
  refine take_at (i := 0) (d := 10) (v := .agg (P2 n d)) rfl rfl (by kernel_rfl) (by kernel_rfl) (by kernel_rfl) (fun _ _ _ h => h) (Or.inl ⟨by rfl, ?_⟩) hHeld ?_
  · intro w' hS
    obtain ⟨k0, k1⟩ := lies_pair hS
    go_simp
  try simp only [Act.put, List.setIfInBounds_toArray, List.set_cons_zero, List.set_cons_succ]
  refine take_at (i := 1) (d := 11) (v := .pointer (some ⟨q, 0, none⟩)) rfl rfl (by kernel_rfl) (by kernel_rfl) (by kernel_rfl) (fun _ _ _ h => h) (Or.inl ⟨by rfl, ?_⟩) hHeld ?_
  · intro w' hS; go_simp
  try simp only [Act.put, List.setIfInBounds_toArray, List.set_cons_zero, List.set_cons_succ]
  refine wpAnyH_ready (rs := [2]) (by kernel_rfl) (by simp) ?_
  refine AllReadyH.cons rfl (fun K' hK => ?_) AllReadyH.nil
  go_simp
  refine (ringDraw_any o len cap q _ D.1).mono ?_
  rintro e w4 ⟨n', d', rfl, _, _, _, _, hs4, hg4⟩
  go_simp
  refine hK.out _ _ (lies_grown hHeld hg4 (by omega)) (fun hHeld => ?_)
  clear hK K'
  try simp only [Act.put, List.setIfInBounds_toArray, List.set_cons_zero, List.set_cons_succ]
  have K4 := k2_grown K hg4 D.2.2
  obtain ⟨c0, c1⟩ := lies_pair K4.2.1
  have cf0 := lies_frozen K4.2.1 0
  have cf1 := lies_frozen K4.2.1 1
  obtain ⟨d0, d1⟩ := lies_pair K4.2.2
  have df0 := lies_frozen K4.2.2 0
  have df1 := lies_frozen K4.2.2 1
  have hne : ¬ w.heap.size = bx := by have := D.2.2; omega
  have hne2 : ¬ w.heap.size + 1 = bx := by have := D.2.2; omega
  clear hs4 hg4 K D
  refine wpAnyH_ready (rs := [3]) (by kernel_rfl) (by simp) ?_
  refine AllReadyH.cons rfl (fun K' hK => ?_) AllReadyH.nil
  go_simp
  refine hK.out _ _ (liesR_other2 hHeld hne) (fun hHeld => ?_)
  clear hK K'
  try simp only [Act.put, List.setIfInBounds_toArray, List.set_cons_zero, List.set_cons_succ]
  refine wpAnyH_ready (rs := [4]) (by kernel_rfl) (by simp) ?_
  refine AllReadyH.cons rfl (fun K' hK => ?_) AllReadyH.nil
  go_simp
  refine hK.out _ _ (liesR_other2 hHeld hne2) (fun hHeld => ?_)
  clear hK K'
  try simp only [Act.put, List.setIfInBounds_toArray, List.set_cons_zero, List.set_cons_succ]
  refine wpAnyH_done (by kernel_rfl) ?_ _
  go_wp2
  refine bodyPost_ret (v := .tuple #[.agg (P2 n d), .agg (P2 n' d')]) (by simp [results, Try.results46, go_sem, c0, c1, d0, d1]) rfl ?_
  exact ⟨_, _, _, _, rfl, below_set2 (below_set2 K4.1 (by omega)) (by omega)⟩
end Go.Proofs.Ytgckamlibbjgcaa
