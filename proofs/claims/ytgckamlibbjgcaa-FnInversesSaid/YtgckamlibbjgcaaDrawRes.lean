/- The draws of residues and exponents, and the drawn arguments of chapter 2's functions. -/
import Derived.Test.YtgckamlibbjgcaaDrawRing
import Derived.Deep.RegionWith
namespace Go.Proofs.Ytgckamlibbjgcaa
open Go.RowKit
set_option linter.unusedVariables false
/-- a number, drawn -/
def SomePost (o : Option Addr) (len cap q : Nat) (w : World) (e : Ending) (w' : World) : Prop :=
  ∃ a : Int, e = .returned (.int .i64 a) ∧ Src w' o len cap q ∧ w.grownBy w' (some q)
theorem grown_below {w w' : World} {q : Nat} (h : Below w.heap.size w w') : w.grownBy w' (some q) :=
  ⟨h.os, h.tape, h.output, h.size, fun k hk _ => h.block k hk⟩
set_option maxHeartbeats 1000000 in
theorem resDraw_any (o : Option Addr) (len cap q : Nat) (p n : Int) (w : World) (hs : Src w o len cap q) :
    Calls Try.prog 57 #[.pointer (some ⟨q, 0, none⟩), .agg #[.int .i64 p, .int .i64 n]] w (SomePost o len cap q w) := by
  have hq := src_lt hs
  have HS := Lib.hid hs
  have HQ := Lib.hid hq
  clear hs hq
  by_cases h0 : ringM p n = 0
  · have hd := ringB_f h0
    clear h0
    go_enter Try.func57, Try.ntmps57
    go_wp2_with (go_at_call 22; refine (specIsRing_any _ _ _).mono ?_; rintro e wn ⟨rfl, hb⟩; have hB := below_one hb; have hS := src_below HS.out hB HQ.out)
    refine (next_any _ _ _ _ _ _ (by omega) hS).mono ?_
    rintro e w2 ⟨r, rfl, r0, r1, hs2, hg2, hz2⟩
    have H2 := Lib.hid (And.intro hs2 (grownBy_tr (grown_below hB) hg2))
    clear hs2 hg2 hz2
    go_wp2
    go_ret
    exact ⟨_, rfl, H2.out⟩
  · have hd := ringB_t h0
    obtain ⟨hp2, hp97, hn1, hn2, hm1, hm2, _⟩ := ringM_bd h0
    have H := Lib.hid (And.intro (ringM_in h0).1 (And.intro hn1 (show n ≤ 1000 by omega)))
    clear h0
    go_enter Try.func57, Try.ntmps57
    go_wp2_with (first | (go_at_call 22; refine (specIsRing_any _ _ _).mono ?_; rintro e wn ⟨rfl, hb⟩; have hH := keep_first hb; obtain ⟨hB, c0, c1⟩ := hH; have hS := src_below HS.out hB HQ.out) | (go_at_call 64; refine (l02Modulus_any _ _ _ H.out.1 H.out.2.1 H.out.2.2).mono ?_; rintro e w' ⟨rfl, rfl⟩))
    have H1 := Lib.hid (And.intro hS (grown_below (q := q) hB))
    clear hS hB hb c0 c1
    refine (next_any _ _ _ _ _ _ (by omega) H1.out.1).mono ?_
    rintro e w2 ⟨r2, rfl, r20, r21, hs2, hg2, hz2⟩
    have H2 := Lib.hid (And.intro hs2 (grownBy_tr H1.out.2 hg2))
    clear hs2 hg2 hz2 r21
    go_wp2_with fail
    refine (next_any _ _ _ _ _ _ (by omega) H2.out.1).mono ?_
    rintro e w3 ⟨r3, rfl, r30, r31, hs3, hg3, hz3⟩
    have H3 := Lib.hid (And.intro hs3 (grownBy_tr H2.out.2 hg3))
    clear hs3 hg3 hz3 r31
    go_wp2_with fail
    refine (next_any _ _ _ _ _ _ (by omega) H3.out.1).mono ?_
    rintro e w4 ⟨r4, rfl, r40, r41, hs4, hg4, hz4⟩
    have H4 := Lib.hid (And.intro hs4 (grownBy_tr H3.out.2 hg4))
    clear hs4 hg4 hz4 r41
    go_wp2_with fail
    refine (next_any _ _ _ _ _ _ (by omega) H4.out.1).mono ?_
    rintro e w5 ⟨r5, rfl, r50, r51, hs5, hg5, hz5⟩
    have H5 := Lib.hid (And.intro hs5 (grownBy_tr H4.out.2 hg5))
    clear hs5 hg5 hz5 r51
    go_wp2_with fail
    refine (next_any _ _ _ _ _ _ (by omega) H5.out.1).mono ?_
    rintro e w6 ⟨r6, rfl, r60, r61, hs6, hg6, hz6⟩
    have H6 := Lib.hid (And.intro hs6 (grownBy_tr H5.out.2 hg6))
    clear hs6 hg6 hz6 r61
    go_wp2_with fail
    refine (pick_new [r2, r3, r4, 0, 1, ringM p n - 1, ringM p n, -1, r5, r6] 2 10 o len cap q w6 H6.out.1 (by simp) (by simp)).mono ?_
    rintro e w7 ⟨x, rfl, hx, hs7, hg7⟩
    have H7 := Lib.hid (And.intro hs7 (grownBy_tr H6.out.2 hg7))
    clear hs7 hg7 hx
    go_wp2
    go_ret
    exact ⟨_, rfl, H7.out⟩
/-- a ring and a number, drawn -/
def RingTwoPost (w : World) (e : Ending) (w' : World) : Prop := ∃ p n a : Int, e = .returned (.tuple #[.agg #[.int .i64 p, .int .i64 n], .int .i64 a]) ∧ Below w.heap.size w w'
/-- between the draws: the source, what is old, the block of the result and that of a ring -/
def Mid (o : Option Addr) (len cap q : Nat) (w wz : World) : Prop :=
  w.heap.size < q ∧ Src wz o len cap q ∧ Below w.heap.size w wz ∧ w.heap.size < wz.heap.size ∧ wz.heap[w.heap.size]? = (w.alloc (.cells #[.int .i64 0, .int .i64 0] 25)).heap[w.heap.size]?
theorem mid_first {o : Option Addr} {len cap q : Nat} {w w1 : World} (hq : (w.alloc (.cells #[.int .i64 0, .int .i64 0] 25)).heap.size ≤ q) (hs : Src w1 o len cap q)
    (hb : Below (w.alloc (.cells #[.int .i64 0, .int .i64 0] 25)).heap.size (w.alloc (.cells #[.int .i64 0, .int .i64 0] 25)) w1) : Mid o len cap q w w1 := by
  have e : (w.alloc (.cells #[.int .i64 0, .int .i64 0] 25)).heap.size = w.heap.size + 1 := by simp
  exact ⟨by omega, hs, below_one hb, by have := hb.size; omega, hb.block _ (by omega)⟩
theorem mid_next {o : Option Addr} {len cap q : Nat} {w w1 w2 : World} (h : Mid o len cap q w w1) (hs : Src w2 o len cap q) (hg : w1.grownBy w2 (some q)) : Mid o len cap q w w2 := by
  obtain ⟨h1, h2, h3, h4, h5⟩ := h
  exact ⟨h1, hs, below_draw h3 hg (Nat.le_of_lt h1) (Nat.le_of_lt h4), Nat.lt_of_lt_of_le h4 hg.size, (hg.block _ h4 (by simp; omega)).trans h5⟩
theorem mid_alloc {o : Option Addr} {len cap q : Nat} {w w1 : World} (h : Mid o len cap q w w1) (ob : Obj) : Mid o len cap q w (w1.alloc ob) :=
  mid_next h (src_alloc h.2.1 ob) (World.grownBy_alloc w1 ob (some q))
theorem mid_drewN {o : Option Addr} {len cap q : Nat} {w w1 : World} (h : Mid o len cap q w w1) (n : Nat) : Mid o len cap q w (w1.drewN n) := ⟨h.1, src_drewN h.2.1 n, below_drewN h.2.2.1 n, h.2.2.2⟩
set_option maxHeartbeats 1000000 in
theorem drawInverse_any (o : Option Addr) (len cap : Nat) (w : World) (hl : len ≤ 4096) (hc : CodeIn w o len) :
    Calls Try.prog 12 #[.slice o len cap] w (RingTwoPost w) := by
  have HC := Lib.hid (codeIn_below (B := w.heap.size) hc ((Below.refl _ _).alloc (Nat.le_refl _) (.cells #[.int .i64 0, .int .i64 0] 25)))
  clear hc
  go_enter Try.func12, Try.ntmps12
  go_wp2_with fail
  refine (from_any _ _ _ _ hl HC.out).mono ?_
  rintro e w1 ⟨q, rfl, hq, hs1, hb1⟩
  have M1 := Lib.hid (mid_first hq hs1 hb1)
  clear hq hs1 hb1
  go_wp2_with fail
  refine (ringDraw_any o len cap q _ M1.out.2.1).mono ?_
  rintro e w2 ⟨p, n, rfl, hp1, hp2, hn1, hn2, hs2, hg2⟩
  have M2 := Lib.hid (mid_alloc (mid_next M1.out hs2 hg2) (.cells #[.int .i64 p, .int .i64 n] 25))
  have hq2 := src_lt hs2
  have HQ2 := Lib.hid hq2
  clear hs2 hg2 hq2
  have HL2 := Lib.hid (show w.heap.size < w2.heap.size by have := M2.out.1; have := HQ2.out; omega)
  go_wp2_with fail
  go_region_with (go_at_call 57; refine (resDraw_any o len cap q p n (World.drew _) (src_drewN M2.out.2.1 1)).mono ?_; rintro e w3 ⟨a, rfl, hs3, hg3⟩; have M3 := mid_next (mid_drewN M2.out 1) hs3 hg3; obtain ⟨d0, d1, f0, f1⟩ := ring_block M3.2.2.2.2; obtain ⟨x0, x1, g0, g1⟩ := ring_block (w := w2) (hg3.block w2.heap.size (by have := M2.out.2.2.2.1; simp) (by have := HQ2.out; simp; omega)))
  all_goals go_wp2_with fail
  all_goals (refine bodyPost_ret (v := .tuple #[.agg #[.int .i64 p, .int .i64 n], .int .i64 a]) (by simp [results, Try.results12, go_sem, d0, d1, Act.put]) (by simp [Act.put]) ?_)
  all_goals exact ⟨_, _, _, rfl, (M3.2.2.1.setCell (Nat.le_refl _) _).setCell (Nat.le_refl _) _⟩
end Go.Proofs.Ytgckamlibbjgcaa
