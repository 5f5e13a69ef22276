/- Contracts of the walk: a drawn rational number, valid or nearly so, in spec. -/
import Derived.Test.YtgckamlibbjgcaaRatImpl2
import Derived.Test.YtgckamlibbjgcaaDrawPad
import Derived.Deep.DeepCutAuto
namespace Go.Proofs.Ytgckamlibbjgcaa
open Go.RowKit
set_option linter.unusedVariables false
set_option linter.unusedSimpArgs false
set_option maxRecDepth 20000
theorem l05Make_val (n d : Int) (w : World) (hd : d ≠ 0) (n0 : -1000000000000 ≤ n) (n1 : n ≤ 1000000000000) (d0 : -1000000000000 ≤ d) (d1 : d ≤ 1000000000000) :
    Calls Try.prog 137 #[.int .i64 n, .int .i64 d] w fun e w' => e = .returned (.tuple #[.agg (P2 (rlN n d) (rlD n d)), .int .i64 0]) ∧ Below w.heap.size w w' := by
  have hv := isRat_low hd ⟨n0, n1⟩ ⟨d0, d1⟩
  have h := l05Make_any n d w hd (by omega) (by omega) (by omega) (by omega)
  rw [show rresQ (rlN n d) (rlD n d) = (rlN n d, rlD n d) by simp [rresQ, hv], show rlimC (rlN n d) (rlD n d) = 0 by simp [rlimC, hv]] at h
  exact h
/-- a valid rational number, drawn -/
def RatVPost (o : Option Addr) (len cap q : Nat) (w : World) (e : Ending) (w' : World) : Prop :=
  ∃ n d : Int, e = .returned (.agg (P2 n d)) ∧ -1000 ≤ n ∧ n ≤ 1000 ∧ 1 ≤ d ∧ d ≤ 500 ∧ isRatB n d = true ∧ Src w' o len cap q ∧ w.grownBy w' (some q)
theorem gg_below {o : Option Addr} {len cap q : Nat} {w w1 w2 : World} (h : GG o len cap q w w1) (hb : Below w1.heap.size w1 w2) : GG o len cap q w w2 :=
  gg_next h (src_below h.1 hb (src_lt h.1)) ⟨hb.os, hb.tape, hb.output, hb.size, fun b hlt _ => hb.block b hlt⟩
set_option maxHeartbeats 1000000 in
theorem ratValidDraw_any (o : Option Addr) (len cap q : Nat) (w : World) (hs : Src w o len cap q) :
    Calls Try.prog 134 #[.pointer (some ⟨q, 0, none⟩)] w (RatVPost o len cap q w) := by
  have G := gg_alloc (gg_start hs) (.cells (P2 0 0) 49)
  have L := lies_new w (P2 0 0) 49
  clear hs
  go_enter Try.func134, Try.ntmps134
  go_wp2_with fail
  refine (next_any _ _ _ _ _ _ (by omega) G.1).mono ?_
  rintro e w1 ⟨r1, rfl, a0, a1, hs1, hg1, hz⟩
  have a2 : r1 < 41 := by omega
  replace L := gg_lies G (Nat.le_refl _) L hg1
  replace G := gg_next G hs1 hg1
  clear a1 hs1 hg1 hz
  go_wp2_with fail
  refine (next_any _ _ _ _ _ _ (by omega) G.1).mono ?_
  rintro e w2 ⟨r2, rfl, b0, b1, hs1, hg1, hz⟩
  have b2 : r2 < 2001 := by omega
  replace L := gg_lies G (Nat.le_refl _) L hg1
  replace G := gg_next G hs1 hg1
  clear b1 hs1 hg1 hz
  go_wp2_with fail
  refine (next_any _ _ _ _ _ _ (by omega) G.1).mono ?_
  rintro e w3 ⟨r3, rfl, c0, c1, hs1, hg1, hz⟩
  have c2 : r3 < 21 := by omega
  replace L := gg_lies G (Nat.le_refl _) L hg1
  replace G := gg_next G hs1 hg1
  clear c1 hs1 hg1 hz
  go_wp2_with fail
  refine (pick_new [r1 - 20, r2 - 1000, 0, 27 * (r3 - 10)] 2 4 o len cap q w3 G.1 (by simp) (by simp)).mono ?_
  rintro e w4 ⟨n, rfl, hn, hs1, hg1⟩
  have hnb : -1000 ≤ n ∧ n ≤ 1000 := by simp at hn; omega
  obtain ⟨n0, n1⟩ := hnb
  replace L := gg_lies G (Nat.le_refl _) L hg1
  replace G := gg_next G hs1 hg1
  clear hn hs1 hg1 a0 a2 b0 b2 c0 c2
  go_wp2_with fail
  refine (next_any _ _ _ _ _ _ (by omega) G.1).mono ?_
  rintro e w5 ⟨r4, rfl, a0, a1, hs1, hg1, hz⟩
  have a2 : r4 < 20 := by omega
  replace L := gg_lies G (Nat.le_refl _) L hg1
  replace G := gg_next G hs1 hg1
  clear a1 hs1 hg1 hz
  go_wp2_with fail
  refine (next_any _ _ _ _ _ _ (by omega) G.1).mono ?_
  rintro e w6 ⟨r5, rfl, b0, b1, hs1, hg1, hz⟩
  have b2 : r5 < 500 := by omega
  replace L := gg_lies G (Nat.le_refl _) L hg1
  replace G := gg_next G hs1 hg1
  clear b1 hs1 hg1 hz
  go_wp2_with fail
  refine (pick_new [1, 1 + r4, 1 + r5, 8, 9, 25] 2 6 o len cap q w6 G.1 (by simp) (by simp)).mono ?_
  rintro e w7 ⟨d, rfl, hd, hs1, hg1⟩
  have hdb : 1 ≤ d ∧ d ≤ 500 := by simp at hd; omega
  obtain ⟨d0, d1⟩ := hdb
  replace L := gg_lies G (Nat.le_refl _) L hg1
  replace G := gg_next G hs1 hg1
  clear hd hs1 hg1 a0 a2 b0 b2
  have hd0 : d ≠ 0 := by omega
  have hv := isRat_low (n := n) hd0 (by omega) (by omega)
  have hp := low_pos (n := n) hd0
  obtain ⟨l1, l2⟩ := low_bd n d
  have HV := Lib.hid hv
  have HM := Lib.hid fun w => l05Make_val n d w hd0 (by omega) (by omega) (by omega) (by omega)
  have e0 : -1000 ≤ rlN n d ∧ rlN n d ≤ 1000 ∧ rlD n d ≤ 500 := by omega
  obtain ⟨e1, e2, e3⟩ := e0
  clear hd0 hv l1 l2
  generalize rlN n d = x at *
  generalize rlD n d = y at *
  go_wp2_with fail
  refine (HM.out _).mono ?_
  rintro e w8 ⟨rfl, hb⟩
  replace L := lies_next L hb
  replace G := gg_below G hb
  clear hb
  go_upto_region 2 with fail
  have X := lies_new w8 (P2 x y) 49
  replace L := lies_alloc L (.cells (P2 x y) 49)
  replace G := gg_alloc G (.cells (P2 x y) 49)
  generalize w8.alloc (.cells (P2 x y) 49) = V at X L G ⊢
  obtain ⟨x0, x1⟩ := lies_pair X
  obtain ⟨z0, z1⟩ := lies_pair L
  have zf0 := lies_frozen L 0
  have zf1 := lies_frozen L 1
  go_wp2
  refine bodyPost_ret (v := .agg (P2 x y)) (by simp [results, Try.results134, go_sem, z0, z1]) rfl ?_
  have G2 := gg_set (gg_set G (b := w.heap.size) (i := 0) (Nat.le_refl _) (.int .i64 x)) (b := w.heap.size) (i := 1) (Nat.le_refl _) (.int .i64 y)
  exact ⟨x, y, rfl, e1, e2, hp, e3, HV.out, G2.1, G2.2.1⟩
/-- a rational number, drawn -/
def RatDPost (o : Option Addr) (len cap q : Nat) (w : World) (e : Ending) (w' : World) : Prop :=
  ∃ n d : Int, e = .returned (.agg (P2 n d)) ∧ -1000 ≤ n ∧ n ≤ 1000000000001 ∧ -1 ≤ d ∧ d ≤ 1000000000001 ∧ Src w' o len cap q ∧ w.grownBy w' (some q)
set_option maxHeartbeats 1000000 in
theorem ratDraw_any (o : Option Addr) (len cap q : Nat) (w : World) (hs : Src w o len cap q) :
    Calls Try.prog 103 #[.pointer (some ⟨q, 0, none⟩)] w (RatDPost o len cap q w) := by
  have G := gg_alloc (gg_start hs) (.cells (P2 0 0) 49)
  have L := lies_new w (P2 0 0) 49
  clear hs
  go_enter Try.func103, Try.ntmps103
  go_wp2_with fail
  refine (ratValidDraw_any o len cap q _ G.1).mono ?_
  rintro e w1 ⟨n, d, rfl, n0, n1, d0, d1, _, hs1, hg1⟩
  replace L := gg_lies G (Nat.le_refl _) L hg1
  replace G := gg_next G hs1 hg1
  clear hs1 hg1
  go_upto_region 2 with fail
  have X := lies_new w1 (P2 n d) 49
  have hx : q < w1.heap.size := src_lt G.1
  have hx2 : w.heap.size < w1.heap.size := lies_lt L
  replace L := lies_alloc L (.cells (P2 n d) 49)
  replace G := gg_alloc G (.cells (P2 n d) 49)
  generalize w1.alloc (.cells (P2 n d) 49) = V at X L G ⊢
  obtain ⟨bx, hbx⟩ : ∃ b, w1.heap.size = b := ⟨_, rfl⟩
  rw [hbx] at X hx hx2 ⊢
  clear hbx
  go_wp2_with fail
  refine (next_any _ _ _ _ _ _ (by omega) G.1).mono ?_
  rintro e w2 ⟨r, rfl, r0, r1, hs1, hg1, hz⟩
  have r2 : r < 24 := by omega
  replace X := lies_grown X hg1 (by omega)
  replace L := gg_lies G (Nat.le_refl _) L hg1
  replace G := gg_next G hs1 hg1
  clear r1 hs1 hg1 hz
  by_cases h0 : r = 0
  · subst h0
    go_wp2_with fail
    refine (pick_new [0, -1, 1000001, 1000000000000, 1000000000001] 2 5 o len cap q w2 G.1 (by simp) (by simp)).mono ?_
    rintro e w3 ⟨k, rfl, hk, hs1, hg1⟩
    have hkb : -1 ≤ k ∧ k ≤ 1000000000001 := by simp at hk; omega
    replace X := lies_grown X hg1 (by omega)
    replace L := gg_lies G (Nat.le_refl _) L hg1
    replace G := gg_next G hs1 hg1
    obtain ⟨x0, x1⟩ := lies_pair X
    have xf := lies_frozen X 1
    clear hk hs1 hg1
    go_upto_region 7 with fail
    replace X := lies_set X (i := 1) (v := .int .i64 k) (by simp)
    replace X : Lies _ bx (P2 n k) := X
    replace L := lies_other (i := 1) (v := .int .i64 k) L (show bx ≠ w.heap.size by omega)
    replace G := gg_set G (b := bx) (i := 1) (by omega) (.int .i64 k)
    clear x0 x1 xf
    generalize w3.setCell ⟨bx, 1, none⟩ (.int .i64 k) = V3 at X L G ⊢
    obtain ⟨x0, x1⟩ := lies_pair X
    obtain ⟨z0, z1⟩ := lies_pair L
    have zf0 := lies_frozen L 0
    have zf1 := lies_frozen L 1
    go_wp2
    refine bodyPost_ret (v := .agg (P2 n k)) (by simp [results, Try.results103, go_sem, z0, z1]) rfl ?_
    have G2 := gg_set (gg_set G (b := w.heap.size) (i := 0) (Nat.le_refl _) (.int .i64 n)) (b := w.heap.size) (i := 1) (Nat.le_refl _) (.int .i64 k)
    exact ⟨n, k, rfl, by omega, by omega, by omega, by omega, G2.1, G2.2.1⟩
  · by_cases h1 : r = 1
    · subst h1
      obtain ⟨x0, x1⟩ := lies_pair X
      go_wp2_with fail
      clear x0 x1
      refine (pick_new [2 * d, 1000000000000, 1000000000001, 999999] 2 4 o len cap q w2 G.1 (by simp) (by simp)).mono ?_
      rintro e w3 ⟨k, rfl, hk, hs1, hg1⟩
      have hkb : -1 ≤ k ∧ k ≤ 1000000000001 := by simp at hk; omega
      replace X := lies_grown X hg1 (by omega)
      replace L := gg_lies G (Nat.le_refl _) L hg1
      replace G := gg_next G hs1 hg1
      obtain ⟨x0, x1⟩ := lies_pair X
      have xf := lies_frozen X 0
      clear hk hs1 hg1
      go_upto_region 7 with fail
      replace X := lies_set X (i := 0) (v := .int .i64 k) (by simp)
      replace X : Lies _ bx (P2 k d) := X
      replace L := lies_other (i := 0) (v := .int .i64 k) L (show bx ≠ w.heap.size by omega)
      replace G := gg_set G (b := bx) (i := 0) (by omega) (.int .i64 k)
      clear x0 x1 xf
      generalize w3.setCell ⟨bx, 0, none⟩ (.int .i64 k) = V3 at X L G ⊢
      obtain ⟨x0, x1⟩ := lies_pair X
      obtain ⟨z0, z1⟩ := lies_pair L
      have zf0 := lies_frozen L 0
      have zf1 := lies_frozen L 1
      go_wp2
      refine bodyPost_ret (v := .agg (P2 k d)) (by simp [results, Try.results103, go_sem, z0, z1]) rfl ?_
      have G2 := gg_set (gg_set G (b := w.heap.size) (i := 0) (Nat.le_refl _) (.int .i64 k)) (b := w.heap.size) (i := 1) (Nat.le_refl _) (.int .i64 d)
      exact ⟨k, d, rfl, by omega, by omega, by omega, by omega, G2.1, G2.2.1⟩
    · have h0' : (r == 0) = false := by simpa using h0
      have h1' : (r == 1) = false := by simpa using h1
      clear h0 h1
      obtain ⟨x0, x1⟩ := lies_pair X
      obtain ⟨z0, z1⟩ := lies_pair L
      have zf0 := lies_frozen L 0
      have zf1 := lies_frozen L 1
      go_wp2
      refine bodyPost_ret (v := .agg (P2 n d)) (by simp [results, Try.results103, go_sem, z0, z1]) rfl ?_
      have G2 := gg_set (gg_set G (b := w.heap.size) (i := 0) (Nat.le_refl _) (.int .i64 n)) (b := w.heap.size) (i := 1) (Nat.le_refl _) (.int .i64 d)
      exact ⟨n, d, rfl, by omega, by omega, by omega, by omega, G2.1, G2.2.1⟩
end Go.Proofs.Ytgckamlibbjgcaa
