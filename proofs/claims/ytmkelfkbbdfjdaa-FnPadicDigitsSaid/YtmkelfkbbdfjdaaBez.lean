/- Contracts of the walk: spec.l01Bezout and both Bezout answer the numbers of the plain division steps, with Go's wrap of 64 bits; values are integers from -10^12 to 10^12. -/
import Derived.Test.YtmkelfkbbdfjdaaGcd
import Derived.Test.YtmkelfkbbdfjdaaBezMath
namespace Go.Proofs.Ytmkelfkbbdfjdaa
open Go.RowKit
set_option linter.unusedVariables false
/-- what holds at the head of a round -/
def BzRel (a b r x y s u v : Int) : Prop :=
  r.natAbs ≤ 1000000000000 ∧ s.natAbs ≤ 1000000000000 ∧ ∃ f, s.natAbs ≤ f ∧ bzF f r x y s u v = bzT a b
theorem bzRel_start {a b : Int} (ha1 : -1000000000000 ≤ a) (ha2 : a ≤ 1000000000000) (hb1 : -1000000000000 ≤ b) (hb2 : b ≤ 1000000000000) : BzRel a b a 1 0 b 0 1 :=
  ⟨by omega, by omega, b.natAbs, Nat.le_refl _, rfl⟩
theorem bzRel_step {a b r x y s u v : Int} (hs : s ≠ 0) (h : BzRel a b r x y s u v) :
    BzRel a b s u v (wrap64 (r - wrap64 (wrap64 (r.tdiv s) * s))) (wrap64 (x - wrap64 (wrap64 (r.tdiv s) * u))) (wrap64 (y - wrap64 (wrap64 (r.tdiv s) * v))) ∧
    (wrap64 (r - wrap64 (wrap64 (r.tdiv s) * s))).natAbs < s.natAbs := by
  obtain ⟨h1, h2, f, h3, h4⟩ := h
  rw [rem_step h1 h2]
  have h5 := tmod_le r s
  refine ⟨⟨h2, by omega, ?_⟩, tmod_lt r hs⟩
  match f, h3, h4 with
  | 0, h3, h4 => omega
  | f + 1, h3, h4 =>
    obtain ⟨e, hl⟩ := bzF_step (r := r) (x := x) (y := y) (u := u) (v := v) hs h3
    exact ⟨f, hl, by rw [← e, h4]⟩
theorem bzRel_end {a b r x y u v : Int} (h : BzRel a b r x y 0 u v) : bzT a b = (r, x, y) := by
  obtain ⟨_, _, f, _, h4⟩ := h; rw [← h4, bzF_zero]
theorem bez_neg {a b r x y u v : Int} (h : BzRel a b r x y 0 u v) (hr : r < 0) : wrap64 (-x) = bezX a b ∧ wrap64 (-y) = bezY a b := by
  have e := bzRel_end h; simp [bezX, bezY, e, hr]
theorem bez_pos {a b r x y u v : Int} (h : BzRel a b r x y 0 u v) (hr : 0 ≤ r) : x = bezX a b ∧ y = bezY a b := by
  have e := bzRel_end h; have : ¬ r < 0 := by omega
  simp [bezX, bezY, e, this]
theorem ret_int2 {k l : IntKind} {a b c d : Int} (h : a = b) (h' : c = d) : Ending.returned (.tuple #[.int k a, .int l c]) = .returned (.tuple #[.int k b, .int l d]) := by rw [h, h']
theorem ret_int3 {k l m : IntKind} {a b c d p q : Int} (h : a = b) (h' : c = d) (h'' : p = q) : Ending.returned (.tuple #[.int k a, .int l c, .int m p]) = .returned (.tuple #[.int k b, .int l d, .int m q]) := by rw [h, h', h'']
set_option maxHeartbeats 400000 in
theorem l01Bez_any (a b : Int) (w : World) (ha1 : -1000000000000 ≤ a) (ha2 : a ≤ 1000000000000) (hb1 : -1000000000000 ≤ b) (hb2 : b ≤ 1000000000000) :
    Calls Try.prog 101 #[.int .i64 a, .int .i64 b] w fun e w' => e = .returned (.tuple #[.int .i64 (bezX a b), .int .i64 (bezY a b)]) ∧ w = w' := by
  have HS := Lib.hid (bzRel_start ha1 ha2 hb1 hb2)
  clear ha1 ha2 hb1 hb2
  go_enter Try.func101, Try.ntmps101
  go_wp2
  go_loop [6, 7, 8, 9, 10, 11, 12] (fun r x y s u v q => ∃ r' x' y' s' u' v' : Int, r = .int .i64 r' ∧ x = .int .i64 x' ∧ y = .int .i64 y' ∧ s = .int .i64 s' ∧ u = .int .i64 u' ∧ v = .int .i64 v' ∧ BzRel a b r' x' y' s' u' v') (fun r x y s u v q => (intOf s).natAbs)
  case atStart => exact ⟨_, _, _, _, _, _, rfl, rfl, rfl, rfl, rfl, rfl, HS.out⟩
  case round =>
    obtain ⟨r, x, y, s, u, v, rfl, rfl, rfl, rfl, rfl, rfl, hr⟩ := hrel
    by_cases hs : s = 0
    · subst hs
      have H := Lib.hid hr
      clear hr HS
      by_cases hr0 : r < 0
      · go_wp2
        go_ret2
        exact ⟨ret_int2 (bez_neg H.out hr0).1 (bez_neg H.out hr0).2, rfl⟩
      · have hr1 : 0 ≤ r := by omega
        go_wp2
        go_ret2
        exact ⟨ret_int2 (bez_pos H.out hr1).1 (bez_pos H.out hr1).2, rfl⟩
    · have hs' : (s == 0) = false := by simpa using hs
      have hs'' : (s != 0) = true := by simpa using hs
      have H := Lib.hid (bzRel_step hs hr)
      clear hr HS
      go_wp2
      exact ⟨⟨_, _, _, _, _, _, rfl, rfl, rfl, rfl, rfl, rfl, H.out.1⟩, by simpa only [intOf] using H.out.2⟩
theorem implBez_no (a b : Int) (w : World) (h : valueB a = false ∨ valueB b = false) :
    Calls Try.prog 128 #[.int .i64 a, .int .i64 b] w fun e w' => e = .returned (.tuple #[.int .i64 0, .int .i64 0, .int .i64 2]) ∧ w = w' := by
  cases ha : valueB a
  · clear h
    go_enter Try.func128, Try.ntmps128
    go_wp2_with (go_at_call 135; refine (isValue_any _ _).mono ?_; rintro e w' ⟨rfl, rfl⟩)
    go_ret3
    exact ⟨rfl, rfl⟩
  · have hb : valueB b = false := by simpa [ha] using h
    clear h
    go_enter Try.func128, Try.ntmps128
    go_wp2_with (go_at_call 135; refine (isValue_any _ _).mono ?_; rintro e w' ⟨rfl, rfl⟩)
    go_ret3
    exact ⟨rfl, rfl⟩
set_option maxHeartbeats 400000 in
theorem implBez_val (a b : Int) (w : World) (ha : valueB a = true) (hb : valueB b = true) :
    Calls Try.prog 128 #[.int .i64 a, .int .i64 b] w fun e w' => e = .returned (.tuple #[.int .i64 (bezX a b), .int .i64 (bezY a b), .int .i64 0]) ∧ w = w' := by
  have ba := valueB_bd ha
  have bb := valueB_bd hb
  have HS := Lib.hid (bzRel_start ba.1 ba.2 bb.1 bb.2)
  clear ba bb
  go_enter Try.func128, Try.ntmps128
  go_wp2_with (go_at_call 135; refine (isValue_any _ _).mono ?_; rintro e w' ⟨rfl, rfl⟩)
  go_loop [7, 8, 9, 10, 11, 12, 13] (fun r x y s u v q => ∃ r' x' y' s' u' v' : Int, r = .int .i64 r' ∧ x = .int .i64 x' ∧ y = .int .i64 y' ∧ s = .int .i64 s' ∧ u = .int .i64 u' ∧ v = .int .i64 v' ∧ BzRel a b r' x' y' s' u' v') (fun r x y s u v q => (intOf s).natAbs)
  case atStart => exact ⟨_, _, _, _, _, _, rfl, rfl, rfl, rfl, rfl, rfl, HS.out⟩
  case round =>
    obtain ⟨r, x, y, s, u, v, rfl, rfl, rfl, rfl, rfl, rfl, hr⟩ := hrel
    by_cases hs : s = 0
    · subst hs
      have H := Lib.hid hr
      clear hr HS
      by_cases hr0 : r < 0
      · go_wp2
        go_ret3
        exact ⟨ret_int3 (bez_neg H.out hr0).1 (bez_neg H.out hr0).2 rfl, rfl⟩
      · have hr1 : 0 ≤ r := by omega
        go_wp2
        go_ret3
        exact ⟨ret_int3 (bez_pos H.out hr1).1 (bez_pos H.out hr1).2 rfl, rfl⟩
    · have hs' : (s == 0) = false := by simpa using hs
      have hs'' : (s != 0) = true := by simpa using hs
      have H := Lib.hid (bzRel_step hs hr)
      clear hr HS
      go_wp2
      exact ⟨⟨_, _, _, _, _, _, rfl, rfl, rfl, rfl, rfl, rfl, H.out.1⟩, by simpa only [intOf] using H.out.2⟩
end Go.Proofs.Ytmkelfkbbdfjdaa
