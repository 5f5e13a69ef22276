/- The draws of chapter 3's laws: numbers, for a prime or for any. -/
import Derived.Test.YtmkelfkbbdfjdaaDrawRing
import Derived.Test.YtmkelfkbbdfjdaaPadSpec2
namespace Go.Proofs.Ytmkelfkbbdfjdaa
open Go.RowKit
set_option linter.unusedVariables false
set_option maxRecDepth 20000
/-- a number for a prime, drawn -/
def ValPost (p : Int) (o : Option Addr) (len cap q : Nat) (w : World) (e : Ending) (w' : World) : Prop :=
  ∃ v u n : Int, e = .returned (.agg (P4 p v u n)) ∧ -6 ≤ v ∧ v ≤ 6 ∧ 0 ≤ u ∧ u ≤ 1000000000 ∧ 0 ≤ n ∧ n ≤ 8 ∧ Src w' o len cap q ∧ w.grownBy w' (some q)
/-- a source in use, and what is old but for the source's block -/
def GG (o : Option Addr) (len cap q : Nat) (w wz : World) : Prop := Src wz o len cap q ∧ w.grownBy wz (some q) ∧ q < w.heap.size
theorem gg_next {o : Option Addr} {len cap q : Nat} {w w1 w2 : World} (h : GG o len cap q w w1) (hs : Src w2 o len cap q) (hg : w1.grownBy w2 (some q)) : GG o len cap q w w2 := ⟨hs, grownBy_tr h.2.1 hg, h.2.2⟩
theorem gg_alloc {o : Option Addr} {len cap q : Nat} {w w1 : World} (h : GG o len cap q w w1) (ob : Obj) : GG o len cap q w (w1.alloc ob) := gg_next h (src_alloc h.1 ob) (World.grownBy_alloc w1 ob (some q))
theorem gg_set {o : Option Addr} {len cap q : Nat} {w w1 : World} (h : GG o len cap q w w1) {b i : Nat} (hb : w.heap.size ≤ b) (v : Value) : GG o len cap q w (w1.setCell ⟨b, i, none⟩ v) :=
  ⟨src_set h.1 (by have := h.2.2; omega), grown_set h.2.1 hb, h.2.2⟩
theorem gg_set4 {o : Option Addr} {len cap q : Nat} {w w1 : World} (h : GG o len cap q w w1) {b : Nat} (hb : w.heap.size ≤ b) (x0 x1 x2 x3 : Value) :
    GG o len cap q w ((((w1.setCell ⟨b, 0, none⟩ x0).setCell ⟨b, 1, none⟩ x1).setCell ⟨b, 2, none⟩ x2).setCell ⟨b, 3, none⟩ x3) := gg_set (gg_set (gg_set (gg_set h hb _) hb _) hb _) hb _
theorem gg_start {o : Option Addr} {len cap q : Nat} {w : World} (hs : Src w o len cap q) : GG o len cap q w w := ⟨hs, World.grownBy.refl _ _, src_lt hs⟩
theorem gg_lies {o : Option Addr} {len cap q : Nat} {w w1 w2 : World} {b : Nat} {vs : Array Value} (h : GG o len cap q w w1) (hb : w.heap.size ≤ b) (L : Lies w1 b vs) (hg : w1.grownBy w2 (some q)) : Lies w2 b vs :=
  lies_grown L hg (by have := h.2.2; omega)
theorem ringM_one {p : Int} (hs : smallB p = true) : ringM p 1 ≠ 0 := by
  obtain ⟨h1, h2⟩ := smallB_bd hs
  rw [ringM_pw hs (by omega) (by rw [pw_one]; omega), pw_one]; omega
set_option maxHeartbeats 1000000 in
theorem padValid_any (p : Int) (o : Option Addr) (len cap q : Nat) (w : World) (hp : smallB p = true) (hs : Src w o len cap q) :
    Calls Try.prog 49 #[.pointer (some ⟨q, 0, none⟩), .int .i64 p] w (ValPost p o len cap q w) := by
  obtain ⟨hp2, hp97⟩ := smallB_bd hp
  have HP := Lib.hid hp
  have G0 := Lib.hid (gg_alloc (gg_start hs) (.cells (P4 0 0 0 0) 25))
  have L0 := Lib.hid (lies_new w (P4 0 0 0 0) 25)
  have hp4 : ¬ p = 0 := by omega
  have hp5 : (p == 0) = false := by simp; omega
  clear hs hp
  go_enter Try.func49, Try.ntmps49
  go_wp2_with fail
  refine (next_any _ _ _ _ _ _ (by omega) G0.out.1).mono ?_
  rintro e w1 ⟨r1, rfl, r10, r11, hs1, hg1, hz1⟩
  have G1 := Lib.hid (gg_next G0.out hs1 hg1)
  have L1 := Lib.hid (gg_lies G0.out (Nat.le_refl _) L0.out hg1)
  clear hs1 hg1 hz1 r11 G0 L0
  by_cases hr : r1 = 0
  · subst hr
    go_wp2_with fail
    refine (next_any _ _ _ _ _ _ (by omega) G1.out.1).mono ?_
    rintro e w2 ⟨r2, rfl, r20, r21, hs2, hg2, hz2⟩
    have hr2 : r2 < 13 := by omega
    have G2 := Lib.hid (gg_next G1.out hs2 hg2)
    have L2 := gg_lies G1.out (Nat.le_refl _) L1.out hg2
    obtain ⟨d0, d1, d2, d3⟩ := lies_four L2
    obtain ⟨f0, f1, f2, f3⟩ := lies_ice L2
    have hw := IntWalk.i64_in (r2 - 6) (by omega)
    clear hs2 hg2 hz2 r21 L2
    go_wp2
    refine bodyPost_ret (v := .agg (P4 p (r2 - 6) 0 0)) (by simp [results, Try.results49, go_sem, d0, d1, d2, d3]) rfl ?_
    have G3 := gg_set4 G2.out (Nat.le_refl _) (.int .i64 p) (.int .i64 (r2 - 6)) (.int .i64 0) (.int .i64 0)
    exact ⟨_, _, _, rfl, by omega, by omega, by omega, by omega, by omega, by omega, G3.1, G3.2.1⟩
  · have hr' : (r1 == 0) = false := by simpa using hr
    clear hr
    go_wp2_with fail
    refine (next_any _ _ _ _ _ _ (by omega) G1.out.1).mono ?_
    rintro e w2 ⟨r2, rfl, r20, r21, hs2, hg2, hz2⟩
    have hr2 : r2 < 8 := by omega
    have G2 := Lib.hid (gg_next G1.out hs2 hg2)
    have L2 := Lib.hid (gg_lies G1.out (Nat.le_refl _) L1.out hg2)
    have hw := IntWalk.i64_in (1 + r2) (by omega)
    clear hs2 hg2 hz2 r21 G1 L1
    go_wp2_with fail
    go_loop [5] (fun i => ∃ n : Int, i = .int .i64 n ∧ 1 ≤ n ∧ n ≤ 8) (fun i => (intOf i).toNat)
    case atStart => exact ⟨_, rfl, by omega, by omega⟩
    case round =>
      obtain ⟨n, rfl, hn1, hn8⟩ := hrel
      have HM := Lib.hid fun w => l02Modulus_any p n w HP.out hn1 (by omega)
      by_cases h0 : ringM p n = 0
      · have h0' : (ringM p n == 0) = true := by simp [h0]
        have hn2 : 2 ≤ n := by
          apply Classical.byContradiction; intro hc
          obtain rfl : n = 1 := by omega
          exact ringM_one HP.out h0
        clear h0
        go_wp2_with (first | (go_at_call 40; refine (HM.out _).mono ?_; rintro e' wn ⟨rfl, rfl⟩))
        exact ⟨⟨_, rfl, by omega, by omega⟩, by simp only [intOf]; omega⟩
      · obtain ⟨_, _, _, _, hm1, hm2, _⟩ := ringM_bd h0
        have h0' : (ringM p n == 0) = false := by simpa using h0
        generalize ringM p n = m at *
        have hw2 := IntWalk.i64_in (m - 1) (by omega)
        clear h0
        go_wp2_with (first | (go_at_call 40; refine (HM.out _).mono ?_; rintro e' wn ⟨rfl, rfl⟩))
        refine (next_any _ _ _ _ _ _ (by omega) G2.out.1).mono ?_
        rintro e w3 ⟨r3, rfl, r30, r31, hs3, hg3, hz3⟩
        have hr3 : r3 ≤ 1000000000 - 2 := by omega
        have G3 := Lib.hid (gg_next G2.out hs3 hg3)
        have L3 := Lib.hid (gg_lies G2.out (Nat.le_refl _) L2.out hg3)
        have hw3 := IntWalk.i64_in (1 + r3) (by omega)
        clear hs3 hg3 hz3 r31 G2 L2 h0' hw2 HM
        go_wp2_with fail
        go_loop [6] (fun i => ∃ u : Int, i = .int .i64 u ∧ 1 ≤ u ∧ u ≤ 1000000000) (fun i => (intOf i).toNat)
        case atStart => exact ⟨_, rfl, by omega, by omega⟩
        case round =>
          obtain ⟨u, rfl, hu1, hu2⟩ := hrel
          have ht : u.tmod p = u % p := tmod_nonneg (by omega)
          have hq : u.tdiv p = u / p := Int.tdiv_eq_ediv_of_nonneg (by omega)
          have hd := Int.emod_add_mul_ediv u p
          have hm0 := Int.emod_nonneg u hp4
          have hq0 : 0 ≤ u / p := Int.ediv_nonneg (by omega) (by omega)
          have hq1 : u / p ≤ u := Int.ediv_le_self _ (by omega)
          by_cases hz : u % p = 0
          · have hz' : (u % p == 0) = true := by simp [hz]
            have hk1 : 1 ≤ u / p := by
              apply Classical.byContradiction; intro hc
              have : u / p = 0 := by omega
              rw [this, hz] at hd; omega
            have hk2 : u / p < u := by
              have := Int.mul_le_mul_of_nonneg_right hp2 hq0
              omega
            clear hd hz
            go_wp2
            exact ⟨⟨_, rfl, by omega, by omega⟩, by simp only [intOf]; omega⟩
          · have hz' : (u % p == 0) = false := by simpa using hz
            clear hd hz
            go_wp2_with fail
            refine (next_any _ _ _ _ _ _ (by omega) G3.out.1).mono ?_
            rintro e w4 ⟨r4, rfl, r40, r41, hs4, hg4, hz4⟩
            have hr4 : r4 < 9 := by omega
            have G4 := Lib.hid (gg_next G3.out hs4 hg4)
            have L4 := gg_lies G3.out (Nat.le_refl _) L3.out hg4
            obtain ⟨d0, d1, d2, d3⟩ := lies_four L4
            obtain ⟨f0, f1, f2, f3⟩ := lies_ice L4
            have hw4 := IntWalk.i64_in (r4 - 4) (by omega)
            clear hs4 hg4 hz4 r41 L4
            go_wp2
            refine bodyPost_ret (v := .agg (P4 p (r4 - 4) u n)) (by simp [results, Try.results49, go_sem, d0, d1, d2, d3]) rfl ?_
            have G5 := gg_set4 G4.out (Nat.le_refl _) (.int .i64 p) (.int .i64 (r4 - 4)) (.int .i64 u) (.int .i64 n)
            exact ⟨_, _, _, rfl, by omega, by omega, by omega, by omega, by omega, by omega, G5.1, G5.2.1⟩
/-- a number, drawn -/
def PadPost (o : Option Addr) (len cap q : Nat) (w : World) (e : Ending) (w' : World) : Prop :=
  ∃ p v u n : Int, e = .returned (.agg (P4 p v u n)) ∧ -3 ≤ p ∧ p ≤ 101 ∧ -61 ≤ v ∧ v ≤ 61 ∧ -1 ≤ u ∧ u ≤ 1000000000 ∧ -1 ≤ n ∧ n ≤ 30 ∧ Src w' o len cap q ∧ w.grownBy w' (some q)
theorem small_of {p : Int} (hp : p ∈ [2, 3, 5, 7, 13]) : smallB p = true ∧ 2 ≤ p ∧ p ≤ 13 := by
  simp only [List.mem_cons, List.not_mem_nil, or_false] at hp
  rcases hp with rfl | rfl | rfl | rfl | rfl <;> decide
set_option maxHeartbeats 2000000 in
theorem padDraw_any (o : Option Addr) (len cap q : Nat) (w : World) (hs : Src w o len cap q) :
    Calls Try.prog 24 #[.pointer (some ⟨q, 0, none⟩)] w (PadPost o len cap q w) := by
  have G0 := Lib.hid (gg_alloc (gg_start hs) (.cells (P4 0 0 0 0) 25))
  have L0 := Lib.hid (lies_new w (P4 0 0 0 0) 25)
  clear hs
  go_enter Try.func24, Try.ntmps24
  go_wp2_with fail
  refine (pick_at [2, 3, 5, 7, 13] 2 5 o len cap q _ _ (by simp) G0.out.1 (by simp) (by simp)).mono ?_
  rintro e w1 ⟨p, rfl, hp, hs1, hg1⟩
  have HP := small_of hp
  have hp2 := HP.2.1
  have hp13 := HP.2.2
  have HS := Lib.hid HP.1
  have G1 := Lib.hid (gg_next G0.out hs1 hg1)
  have L1 := Lib.hid (gg_lies G0.out (Nat.le_refl _) L0.out hg1)
  clear hs1 hg1 G0 L0 HP hp
  go_wp2_with fail
  refine (padValid_any p o len cap q _ HS.out G1.out.1).mono ?_
  rintro e w2 ⟨v, u, n, rfl, hv0, hv1, hu0, hu1, hn0, hn1, hs2, hg2⟩
  have G2 := gg_next G1.out hs2 hg2
  have L2 := gg_lies G1.out (Nat.le_refl _) L1.out hg2
  have hlt := lies_lt L2
  have hle : w.heap.size ≤ w2.heap.size := Nat.le_of_lt hlt
  have LX := lies_new w2 (P4 p v u n) 25
  have G3 := Lib.hid (gg_alloc G2 (.cells (P4 p v u n) 25))
  have L3 := Lib.hid (And.intro (lies_alloc L2 (.cells (P4 p v u n) 25)) LX)
  have hne : ¬ w2.heap.size = w.heap.size := by omega
  have HN := Lib.hid (And.intro hle hne)
  clear hs2 hg2 G1 L1 G2 L2 LX hlt hle hne
  go_wp2_with fail
  refine (next_any _ _ _ _ _ _ (by omega) G3.out.1).mono ?_
  rintro e w3 ⟨r, rfl, r0, r1, hs3, hg3, hz3⟩
  have G4 := Lib.hid (gg_next G3.out hs3 hg3)
  have L4 := Lib.hid (And.intro (gg_lies G3.out (Nat.le_refl _) L3.out.1 hg3) (gg_lies G3.out HN.out.1 L3.out.2 hg3))
  clear hs3 hg3 hz3 r1 G3 L3
  by_cases e0 : r = 0
  · subst e0
    go_wp2_with fail
    refine (drawPrime_any _ _ _ _ _ G4.out.1).mono ?_
    rintro e w4 ⟨x, rfl, hx0, hx1, hs4, hg4⟩
    skip
    have G5 := gg_next G4.out hs4 hg4
    have LR := gg_lies G4.out (Nat.le_refl _) L4.out.1 hg4
    have LX := gg_lies G4.out HN.out.1 L4.out.2 hg4
    obtain ⟨c0, c1, c2, c3⟩ := lies_four LR
    obtain ⟨cf0, cf1, cf2, cf3⟩ := lies_ice LR
    obtain ⟨d0, d1, d2, d3⟩ := lies_four LX
    obtain ⟨df0, df1, df2, df3⟩ := lies_ice LX
    have hne := HN.out.2
    have HG := Lib.hid (gg_set4 (gg_set G5 (b := w2.heap.size) (i := 0) HN.out.1 (.int .i64 x)) (Nat.le_refl _) (.int .i64 x) (.int .i64 v) (.int .i64 u) (.int .i64 n))
    clear hs4 hg4 G5 LR LX
    go_wp2
    refine bodyPost_ret (v := .agg (P4 x v u n)) (by simp [results, Try.results24, go_sem, c0, c1, c2, c3]) rfl ?_
    exact ⟨_, _, _, _, rfl, by omega, by omega, by omega, by omega, by omega, by omega, by omega, by omega, HG.out.1, HG.out.2.1⟩
  · have e0' : (r == 0) = false := by simpa using e0
    clear e0
    by_cases e1 : r = 1
    · subst e1
      obtain ⟨d0, d1, d2, d3⟩ := lies_four L4.out.2
      have hne := HN.out.2
      go_wp2_with fail
      refine (pick_new [0, p, -1, 1000000000] 2 4 o len cap q w3 G4.out.1 (by simp) (by simp)).mono ?_
      rintro e w4 ⟨x, rfl, hx, hs4, hg4⟩
      have hx0 : -1 ≤ x ∧ x ≤ 1000000000 := by simp at hx; omega
      have G5 := gg_next G4.out hs4 hg4
      have LR := gg_lies G4.out (Nat.le_refl _) L4.out.1 hg4
      have LX := gg_lies G4.out HN.out.1 L4.out.2 hg4
      obtain ⟨c0, c1, c2, c3⟩ := lies_four LR
      obtain ⟨cf0, cf1, cf2, cf3⟩ := lies_ice LR
      obtain ⟨d0, d1, d2, d3⟩ := lies_four LX
      obtain ⟨df0, df1, df2, df3⟩ := lies_ice LX
      have hne := HN.out.2
      have HG := Lib.hid (gg_set4 (gg_set G5 (b := w2.heap.size) (i := 2) HN.out.1 (.int .i64 x)) (Nat.le_refl _) (.int .i64 p) (.int .i64 v) (.int .i64 x) (.int .i64 n))
      clear hs4 hg4 G5 LR LX
      go_wp2
      refine bodyPost_ret (v := .agg (P4 p v x n)) (by simp [results, Try.results24, go_sem, c0, c1, c2, c3]) rfl ?_
      exact ⟨_, _, _, _, rfl, by omega, by omega, by omega, by omega, by omega, by omega, by omega, by omega, HG.out.1, HG.out.2.1⟩
    · have e1' : (r == 1) = false := by simpa using e1
      clear e1
      by_cases e2 : r = 2
      · subst e2
        go_wp2_with fail
        refine (pick_new [60, 61, -60, -61] 2 4 o len cap q w3 G4.out.1 (by simp) (by simp)).mono ?_
        rintro e w4 ⟨x, rfl, hx, hs4, hg4⟩
        have hx0 : -61 ≤ x ∧ x ≤ 61 := by simp at hx; omega
        have G5 := gg_next G4.out hs4 hg4
        have LR := gg_lies G4.out (Nat.le_refl _) L4.out.1 hg4
        have LX := gg_lies G4.out HN.out.1 L4.out.2 hg4
        obtain ⟨c0, c1, c2, c3⟩ := lies_four LR
        obtain ⟨cf0, cf1, cf2, cf3⟩ := lies_ice LR
        obtain ⟨d0, d1, d2, d3⟩ := lies_four LX
        obtain ⟨df0, df1, df2, df3⟩ := lies_ice LX
        have hne := HN.out.2
        have HG := Lib.hid (gg_set4 (gg_set G5 (b := w2.heap.size) (i := 1) HN.out.1 (.int .i64 x)) (Nat.le_refl _) (.int .i64 p) (.int .i64 x) (.int .i64 u) (.int .i64 n))
        clear hs4 hg4 G5 LR LX
        go_wp2
        refine bodyPost_ret (v := .agg (P4 p x u n)) (by simp [results, Try.results24, go_sem, c0, c1, c2, c3]) rfl ?_
        exact ⟨_, _, _, _, rfl, by omega, by omega, by omega, by omega, by omega, by omega, by omega, by omega, HG.out.1, HG.out.2.1⟩
      · have e2' : (r == 2) = false := by simpa using e2
        clear e2
        by_cases e3 : r = 3
        · subst e3
          go_wp2_with fail
          refine (pick_new [0, 30, -1] 2 3 o len cap q w3 G4.out.1 (by simp) (by simp)).mono ?_
          rintro e w4 ⟨x, rfl, hx, hs4, hg4⟩
          have hx0 : -1 ≤ x ∧ x ≤ 30 := by simp at hx; omega
          have G5 := gg_next G4.out hs4 hg4
          have LR := gg_lies G4.out (Nat.le_refl _) L4.out.1 hg4
          have LX := gg_lies G4.out HN.out.1 L4.out.2 hg4
          obtain ⟨c0, c1, c2, c3⟩ := lies_four LR
          obtain ⟨cf0, cf1, cf2, cf3⟩ := lies_ice LR
          obtain ⟨d0, d1, d2, d3⟩ := lies_four LX
          obtain ⟨df0, df1, df2, df3⟩ := lies_ice LX
          have hne := HN.out.2
          have HG := Lib.hid (gg_set4 (gg_set G5 (b := w2.heap.size) (i := 3) HN.out.1 (.int .i64 x)) (Nat.le_refl _) (.int .i64 p) (.int .i64 v) (.int .i64 u) (.int .i64 x))
          clear hs4 hg4 G5 LR LX
          go_wp2
          refine bodyPost_ret (v := .agg (P4 p v u x)) (by simp [results, Try.results24, go_sem, c0, c1, c2, c3]) rfl ?_
          exact ⟨_, _, _, _, rfl, by omega, by omega, by omega, by omega, by omega, by omega, by omega, by omega, HG.out.1, HG.out.2.1⟩
        · have e3' : (r == 3) = false := by simpa using e3
          clear e3
          obtain ⟨c0, c1, c2, c3⟩ := lies_four L4.out.1
          obtain ⟨cf0, cf1, cf2, cf3⟩ := lies_ice L4.out.1
          obtain ⟨d0, d1, d2, d3⟩ := lies_four L4.out.2
          have hne := HN.out.2
          have HG := Lib.hid (gg_set4 G4.out (Nat.le_refl _) (.int .i64 p) (.int .i64 v) (.int .i64 u) (.int .i64 n))
          go_wp2
          refine bodyPost_ret (v := .agg (P4 p v u n)) (by simp [results, Try.results24, go_sem, c0, c1, c2, c3]) rfl ?_
          exact ⟨_, _, _, _, rfl, by omega, by omega, by omega, by omega, by omega, by omega, by omega, by omega, HG.out.1, HG.out.2.1⟩
end Go.Proofs.Ytmkelfkbbdfjdaa
