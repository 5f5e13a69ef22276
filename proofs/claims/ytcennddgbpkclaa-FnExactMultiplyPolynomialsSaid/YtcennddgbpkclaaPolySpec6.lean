/- Contracts of the walk: chapter 6 in spec: shifted polynomials. -/
import Derived.Test.YtcennddgbpkclaaPolySpec5
import Derived.Test.YtcennddgbpkclaaPolyFar
namespace Go.Proofs.Ytcennddgbpkclaa
open Go.RowKit
set_option linter.unusedVariables false
set_option linter.unusedSimpArgs false
/-- the list within pass k, behind q steps -/
def shV (f : List Int) (a : Int) (k q : Nat) : List Int := tabL f.length fun j => if f.length - 1 - q ≤ j ∧ k ≤ j then evalD (shiftP f a k) a (f.length - j) else (shiftP f a k).getD j 0
theorem shV_length (f : List Int) (a : Int) (k q : Nat) : (shV f a k q).length = f.length := tabL_length _ _
theorem shV_zero (f : List Int) (a : Int) (k : Nat) : shV f a k 0 = shiftP f a k := by
  refine ext_getD (by rw [shV_length, shiftP_length]) fun j hj => ?_
  rw [shV_length] at hj
  rw [shV, tabL_getD hj]
  split
  · rw [show f.length - j = 0 + 1 by omega, evalD, show evalD (shiftP f a k) a 0 = 0 from rfl, Int.zero_mul, Int.zero_add, shiftP_length, show f.length - 1 - 0 = j by omega]
  · rfl
theorem shV_end {f : List Int} {a : Int} {k q : Nat} (h : f.length - 1 - k ≤ q) : shV f a k q = shiftP f a (k + 1) := by
  show tabL _ _ = tabL _ _
  refine tabL_ext fun j hj => ?_
  by_cases hk : j < k
  · rw [if_neg (by omega), if_pos hk]
  · rw [if_pos (by omega), if_neg hk]
theorem shV_at {f : List Int} {a : Int} {k q i : Nat} (hi : i + 1 < f.length) (hq : i + q + 2 = f.length) (hk : k ≤ i) :
    (shV f a k q).getD i 0 = (shiftP f a k).getD i 0 ∧ (shV f a k q).getD (i + 1) 0 = evalD (shiftP f a k) a (f.length - (i + 1)) ∧
    evalD (shiftP f a k) a (f.length - i) = (shiftP f a k).getD i 0 + a * evalD (shiftP f a k) a (f.length - (i + 1)) := by
  refine ⟨?_, ?_, ?_⟩
  · rw [shV, tabL_getD (by omega), if_neg (by omega)]
  · rw [shV, tabL_getD hi, if_pos (by omega)]
  · rw [show f.length - i = (f.length - (i + 1)) + 1 by omega, evalD, shiftP_length, show f.length - 1 - (f.length - (i + 1)) = i by omega, Int.mul_comm, Int.add_comm]
theorem shV_step {f : List Int} {a : Int} {k q i : Nat} {y : Int} (hi : i + 1 < f.length) (hq : i + q + 2 = f.length) (hk : k ≤ i) (hy : evalD (shiftP f a k) a (f.length - i) = y) :
    (shV f a k q).set i y = shV f a k (q + 1) := by
  rw [shV, tab_set y (by omega)]
  refine tabL_ext fun j hj => ?_
  by_cases e : j = i
  · rw [if_pos e, if_pos (by omega), e, hy]
  · rw [if_neg e]
    by_cases h2 : f.length - 1 - q ≤ j ∧ k ≤ j
    · rw [if_pos h2, if_pos (by omega)]
    · rw [if_neg h2, if_neg (by omega)]
def shiftC (f : List Int) (a : Int) : Int := if polyB f then (if inB a (-1000) 1000 then resC (shiftL f a) else 2) else 1
def shiftQ (f : List Int) (a : Int) : List Int := if polyB f then (if inB a (-1000) 1000 then resL (shiftL f a) else []) else []
theorem set_bd {l : List Int} {B y : Int} {i : Nat} (h : ∀ j, -B ≤ l.getD j 0 ∧ l.getD j 0 ≤ B) (hy : -B ≤ y ∧ y ≤ B) : ∀ j, -B ≤ (l.set i y).getD j 0 ∧ (l.set i y).getD j 0 ≤ B := by
  intro j
  by_cases e : j = i
  · subst e
    by_cases hj : j < l.length
    · simp [List.getD, hj]; exact hy
    · rw [getD_out (by rw [List.length_set]; omega)]
      have := h j
      rw [getD_out (by omega)] at this; exact this
  · have : (l.set i y).getD j 0 = l.getD j 0 := by simp [List.getD, List.getElem?_set_ne (Ne.symm e)]
    rw [this]; exact h j
set_option maxRecDepth 20000
set_option maxHeartbeats 2000000 in
theorem specShift_any (x : Int) {o : Option Addr} {n c : Nat} {f : List Int} {w : World} (h : Seen w o n c f) :
    Calls Try.prog 29 #[.slice o n c, .int .i64 x] w (IntPost (shiftQ f x) (shiftC f x) w) := by
  have HS := Lib.hid h
  have hl : n = f.length := h.1
  clear h
  cases hp : polyB f
  · rw [show shiftQ f x = [] by simp [shiftQ, hp], show shiftC f x = 1 by simp [shiftC, hp]]
    clear hl
    go_enter Try.func29, Try.ntmps29
    go_wp2_with (go_at_call 24; refine (specIsPoly_any HS.out).mono ?_; rw [hp]; rintro e w2 ⟨rfl, rfl⟩)
    go_ret2
    exact ⟨_, rfl, intRow_nil _ _, Below.refl _ _⟩
  · rcases inB_cases x (-1000) 1000 with ⟨hx, hx0, hx1⟩ | ⟨hx, _⟩
    · rw [show shiftQ f x = resL (shiftL f x) by simp [shiftQ, hp, hx], show shiftC f x = resC (shiftL f x) by simp [shiftC, hp, hx]]
      have hP := Lib.hid hp
      have HL := Lib.hid hl
      have h9 : n ≤ 9 := by have := (polyB_of hp).1; omega
      have hb0 : ∀ i, -1000000000000000 ≤ f.getD i 0 ∧ f.getD i 0 ≤ 1000000000000000 := poly_bf hp
      have HB0 := Lib.hid hb0
      clear hl hb0
      go_enter Try.func29, Try.ntmps29
      go_wp2_with (first | (go_at_call 24; refine (specIsPoly_any HS.out).mono ?_; rw [hp]; rintro e w2 ⟨rfl, rfl⟩) | (go_at_call 55; refine (in_any _ _ _ _).mono ?_; rw [hx]; rintro e w' ⟨rfl, rfl⟩) | (go_at_call 59; refine (specOwn_any HS.out).mono ?_; rintro e w1 ⟨v, rfl, hr, hb⟩))
      have HR0 := Lib.hid hr
      have HW0 := Lib.hid hb
      clear hr hb
      obtain ⟨G, cap, hv, hG⟩ : ∃ o' c', v = .slice o' n c' ∧ (0 < n → ∃ G, o' = some ⟨G, 0, none⟩ ∧ w.heap.size ≤ G) := by
        have hr := HR0.out
        rcases row_shape hr with ⟨h0, o', c', rfl⟩ | ⟨h0, g, c', rfl, hbg, _⟩
        · exact ⟨o', c', by rw [HL.out, h0], fun h => by have := HL.out; omega⟩
        · exact ⟨_, c', by rw [HL.out], fun _ => ⟨g, rfl, hbg⟩⟩
      subst hv
      have HG := Lib.hid hG
      clear hG
      go_loopw [7] (fun s wr => ∃ k : Nat, k ≤ n ∧ s = .int .i64 k ∧ IntRow w.heap.size wr (.slice G n cap) (shiftP f x k) ∧ (∀ i, -1000000000000000 ≤ (shiftP f x k).getD i 0 ∧ (shiftP f x k).getD i 0 ≤ 1000000000000000) ∧ Below w.heap.size w wr) (fun s _ => n - (intOf s).toNat)
      case atStart => exact ⟨0, Nat.zero_le _, rfl, HR0.out, HB0.out, HW0.out⟩
      case round =>
        obtain ⟨k, hk, rfl, hrow, hbd, hb⟩ := hrel
        have HW := Lib.hid hrow
        have HD := Lib.hid hbd
        have HB := Lib.hid hb
        clear hrow hb hbd HR0 HW0
        by_cases hlt : k < n
        · obtain ⟨gg, rfl, hgg⟩ := HG.out (by omega)
          go_wp2
          go_loopw [8] (fun s wr => ∃ (q : Nat) (y : Int), s = .int .i64 y ∧ y = (n : Int) - 2 - q ∧ k + q + 1 ≤ n ∧ IntRow w.heap.size wr (.slice (some ⟨gg, 0, none⟩) n cap) (shV f x k q) ∧ (∀ i, -1000000000000000 ≤ (shV f x k q).getD i 0 ∧ (shV f x k q).getD i 0 ≤ 1000000000000000) ∧ Below w.heap.size w wr) (fun s _ => (intOf s + 1).toNat)
          case atStart => exact ⟨0, (n : Int) - 2, by first | rfl | go_num, by omega, by omega, by rw [shV_zero]; exact HW.out, by rw [shV_zero]; exact HD.out, HB.out⟩
          case round =>
            obtain ⟨q, y, rfl, hy, hq, hrow, hbd, hb⟩ := hrel
            have HW2 := Lib.hid hrow
            have HD2 := Lib.hid hbd
            have HB2 := Lib.hid hb
            clear hrow hb hbd HW HD HB
            by_cases hik : (k : Int) ≤ y
            · obtain ⟨i, hi⟩ : ∃ i : Nat, y = i := ⟨y.toNat, by omega⟩
              subst hi
              have hi1 : i + 1 < n := by omega
              have hqe : i + q + 2 = f.length := by have := HL.out; omega
              have hki : k ≤ i := by omega
              have hsl : (shV f x k q).length = n := by rw [shV_length]; exact HL.out.symm
              obtain ⟨e1, e2, e3⟩ := shV_at (f := f) (a := x) (by omega) hqe hki
              have c1 := int_at HW2.out hsl (show i < n by omega)
              have c2 := int_at HW2.out hsl hi1
              have f4 := int_frozen HW2.out hsl i
              have d1 := HD2.out i
              have d2 := HD2.out (i + 1)
              rw [e1] at c1 d1
              rw [e2] at c2 d2
              have HE := Lib.hid (shV_step (f := f) (a := x) (by omega) hqe hki rfl)
              have HF := Lib.hid (shift_stop (f := f) (a := x) hP.out hki (show i < f.length by omega))
              rw [e3] at HE HF
              clear e1 e2 e3
              generalize (shiftP f x k).getD i 0 = l at *
              generalize evalD (shiftP f x k) x (f.length - (i + 1)) = t at *
              have m1 : -1000000000000000000 ≤ x * t ∧ x * t ≤ 1000000000000000000 := by
                have p1 : x.natAbs * t.natAbs ≤ 1000 * 1000000000000000 := Nat.mul_le_mul (by omega) (by omega)
                rw [← Int.natAbs_mul] at p1; omega
              have w1 : IntKind.i64.wrap (x * t) = x * t := IntWalk.i64_in _ (by omega)
              have w2 : IntKind.i64.wrap (l + x * t) = l + x * t := IntWalk.i64_in _ (by omega)
              have hin0 : i < n := by omega
              obtain ⟨m, hm⟩ : ∃ m, i + 1 = m := ⟨_, rfl⟩
              rw [hm] at c2 hi1
              have hm1 : (i : Int) + 1 = (m : Int) := by omega
              have hwm : IntKind.i64.wrap (m : Int) = (m : Int) := IntWalk.i64_in _ (by omega)
              clear hm
              have HQ := Lib.hid hqe
              have HY := Lib.hid hy
              clear m1 hqe hy
              go_upto_region 12 with fail
              refine wp_region_still_tail 15 (by kernel_rfl) (by kernel_rfl) ?_
              simp only [List.take_succ_cons, List.take_zero, List.drop_succ_cons, List.drop_zero]
              repeat still_step
              refine wpStill_nil ?_
              change wpList _ _ _ _ _ wr.drew
              have R2 : Hid (IntRow w.heap.size wr.drew (.slice (some ⟨gg, 0, none⟩) n cap) (shV f x k q)) := Lib.hid HW2.out
              have B2 := Lib.hid (below_drewN HB2.out 1)
              replace c1 : wr.drew.cell? ⟨gg, i, none⟩ = _ := c1
              replace f4 : wr.drew.frozen? ⟨gg, i, none⟩ = _ := f4
              change Hid (Below w.heap.size w wr.drew) at B2
              clear HW2 HB2 c2
              generalize wr.drew = W2 at R2 B2 c1 f4 ⊢
              have R3 := Lib.hid (int_stored R2.out hsl i (l + x * t))
              have B3 := Lib.hid (B2.out.setCell (p := ⟨gg, i, none⟩) hgg (.int .i64 (l + x * t)))
              rcases inB_cases (l + x * t) (-1000000000000000) 1000000000000000 with ⟨hin, i1, i2⟩ | ⟨hin, _⟩
              · have D3 := Lib.hid (set_bd (i := i) HD2.out ⟨i1, i2⟩)
                rw [HE.out] at R3 D3
                clear hsl i1 i2 d1 d2
                go_wp2_with (go_at_call 55; refine (in_any _ _ _ _).mono ?_; rw [hin]; rintro e w' ⟨rfl, rfl⟩)
                exact ⟨⟨q + 1, (i : Int) - 1, by first | rfl | go_num, by have := HY.out; omega, by have := HQ.out; have := HL.out; omega, R3.out, D3.out, B3.out⟩, by first | (simp only [intOf]; omega) | (simp [intOf]; done) | (simp [intOf]; omega)⟩
              · have F := Lib.hid (HF.out hin)
                clear hsl d1 d2
                go_wp2_with (go_at_call 55; refine (in_any _ _ _ _).mono ?_; rw [hin]; rintro e w' ⟨rfl, rfl⟩)
                go_ret2
                rw [F.out.1, F.out.2]
                exact ⟨_, rfl, intRow_nil _ _, B3.out⟩
            · have he : shV f x k q = shiftP f x (k + 1) := shV_end (by have := HL.out; omega)
              have R1 := HW2.out
              have D1 := HD2.out
              rw [he] at R1 D1
              have R := Lib.hid R1
              have D := Lib.hid D1
              clear R1 D1 he
              go_wp2
              exact ⟨⟨k + 1, by omega, by go_num, R.out, D.out, HB2.out⟩, by simp only [intOf]; omega⟩
        · have hkn : k = f.length := by have := HL.out; omega
          have HSL : shiftP f x k = shiftL f x := by rw [hkn]; rfl
          have hr := HW.out
          rw [HSL] at hr
          obtain ⟨o2, c2, e2, HS2⟩ := seen_row hr (by rw [shiftL_length, ← HL.out]; omega)
          rw [shiftL_length, ← HL.out] at e2 HS2
          injection e2 with e3 _ e4
          subst e3 e4
          have HB2 := HB.out
          clear hkn HSL hr
          go_wp2_with (go_at_call 45; refine (specResult_any HS2).mono ?_; rintro e w3 ⟨v, rfl, hr3, hb3⟩)
          go_ret2
          exact ⟨_, rfl, intRow_lower hr3 HB2.size, HB2.trans (hb3.mono HB2.size)⟩
    · rw [show shiftQ f x = [] by simp [shiftQ, hp, hx], show shiftC f x = 2 by simp [shiftC, hp, hx]]
      clear hl
      go_enter Try.func29, Try.ntmps29
      go_wp2_with (first | (go_at_call 24; refine (specIsPoly_any HS.out).mono ?_; rw [hp]; rintro e w2 ⟨rfl, rfl⟩) | (go_at_call 55; refine (in_any _ _ _ _).mono ?_; rw [hx]; rintro e w' ⟨rfl, rfl⟩))
      go_ret2
      exact ⟨_, rfl, intRow_nil _ _, Below.refl _ _⟩
end Go.Proofs.Ytcennddgbpkclaa
