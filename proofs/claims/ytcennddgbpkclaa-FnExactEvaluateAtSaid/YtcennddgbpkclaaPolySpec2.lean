/- Contracts of the walk: chapter 6 in spec: values, contents, derivatives, lists turned round. -/
import Derived.Test.YtcennddgbpkclaaPolySpec
import Derived.Test.YtcennddgbpkclaaPolyMore
import Derived.Test.YtcennddgbpkclaaGcd
namespace Go.Proofs.Ytcennddgbpkclaa
open Go.RowKit
set_option linter.unusedVariables false
set_option linter.unusedSimpArgs false
theorem inB_cases (n lo hi : Int) : inB n lo hi = true ∧ lo ≤ n ∧ n ≤ hi ∨ inB n lo hi = false ∧ (n < lo ∨ hi < n) := by
  by_cases h1 : lo ≤ n
  · by_cases h2 : n ≤ hi
    · exact .inl ⟨inB_t h1 h2, h1, h2⟩
    · exact .inr ⟨inB_f (.inr (by omega)), .inr (by omega)⟩
  · exact .inr ⟨inB_f (.inl (by omega)), .inl (by omega)⟩
theorem specIs6_any (n : Int) (w : World) : Calls Try.prog 56 #[.int .i64 n] w fun e w' => e = .returned (.bool (inB n (-1000000000000) 1000000000000)) ∧ w = w' := by
  go_enter Try.func56, Try.ntmps56
  go_wp2_with (go_at_call 55; refine (in_any _ _ _ _).mono ?_; rintro e w' ⟨rfl, rfl⟩)
  go_ret
  exact ⟨rfl, rfl⟩
set_option maxHeartbeats 1000000 in
theorem specEval_any (x : Int) {o : Option Addr} {n c : Nat} {l : List Int} {w : World} (h : Seen w o n c l) :
    Calls Try.prog 21 #[.slice o n c, .int .i64 x] w fun e w' => e = .returned (.tuple #[.int .i64 (valueQ l x), .int .i64 (valueC l x)]) ∧ w = w' := by
  have HS := Lib.hid h
  obtain ⟨hl, hn, hno, hnc, g, h1, h2⟩ := h
  have HO := Lib.hid fun h => (h1 h).1
  have HL := Lib.hid hl
  have HC := Lib.hid h2
  clear h1 h2 hl hno hnc
  cases hp : polyB l
  · rw [show valueQ l x = 0 by simp [valueQ, valueC, hp], show valueC l x = 1 by simp [valueC, hp]]
    go_enter Try.func21, Try.ntmps21
    go_wp2_with (go_at_call 24; refine (specIsPoly_any HS.out).mono ?_; rw [hp]; rintro e w2 ⟨rfl, rfl⟩)
    go_ret2
    exact ⟨rfl, rfl⟩
  · rcases inB_cases x (-1000) 1000 with ⟨hx, hx0, hx1⟩ | ⟨hx, _⟩
    · obtain ⟨h9, hb, _⟩ := polyB_of hp
      have hP := Lib.hid hp
      have hB := Lib.hid hb
      have hl9 : n ≤ 9 := by have := HL.out; omega
      clear hb
      go_enter Try.func21, Try.ntmps21
      go_wp2_with (first | (go_at_call 24; refine (specIsPoly_any HS.out).mono ?_; rw [hp]; rintro e w2 ⟨rfl, rfl⟩) | (go_at_call 55; refine (in_any _ _ _ _).mono ?_; rw [hx]; rintro e w' ⟨rfl, rfl⟩))
      go_loop [6, 7] (fun a i => ∃ (j : Nat) (y : Int), j ≤ n ∧ i = .int .i64 y ∧ y = (n : Int) - 1 - j ∧ a = .int .i64 (evalD l x j) ∧ -4000000000000 ≤ evalD l x j ∧ evalD l x j ≤ 4000000000000) (fun _ i => (intOf i + 1).toNat)
      case atStart => exact ⟨0, (n : Int) - 1, Nat.zero_le _, rfl, by omega, rfl, by simp [evalD], by simp [evalD]⟩
      case round =>
        obtain ⟨j, y, hj, rfl, hy, rfl, b0, b1⟩ := hrel
        by_cases hjn : j < n
        · obtain ⟨m, hm⟩ : ∃ m : Nat, y = m := ⟨y.toNat, by omega⟩
          subst hm
          have hmn : m < n := by omega
          have hme : l.length - 1 - j = m := by have := HL.out; omega
          have hog := HO.out (by omega)
          subst hog
          have a2 := HC.out m hmn
          have hh : evalD l x (j + 1) = evalD l x j * x + l.getD m 0 := by rw [evalD, hme]
          obtain ⟨y0, y1⟩ := hB.out m
          have HF := Lib.hid (show inB (evalD l x (j + 1)) (-4000000000000) 4000000000000 = false → valueQ l x = 0 ∧ valueC l x = 3 by
            intro hf
            have := evalD_stop hP.out (by have := HL.out; omega) hf
            have e : valueC l x = 3 := by simp [valueC, hP.out, hx, this]
            exact ⟨by simp [valueQ, e], e⟩)
          rw [hh] at HF
          have HH := Lib.hid hh
          generalize evalD l x j = a at *
          generalize l.getD m 0 = z at *
          have m1 : -4000000000000000 ≤ a * x ∧ a * x ≤ 4000000000000000 := by
            have p1 := Int.mul_le_mul_of_nonneg_right (show a ≤ 4000000000000 by omega) (show (0 : Int) ≤ x.natAbs by omega)
            have p2 := Int.mul_le_mul_of_nonneg_right (show -4000000000000 ≤ a by omega) (show (0 : Int) ≤ x.natAbs by omega)
            rcases Int.natAbs_eq x with e | e
            · rw [← e] at p1 p2; omega
            · rw [show (x.natAbs : Int) = -x by omega, Int.mul_neg, Int.mul_neg] at p1 p2; omega
          have w1 : IntKind.i64.wrap (a * x) = a * x := IntWalk.i64_in _ (by omega)
          have w2 : IntKind.i64.wrap (a * x + z) = a * x + z := IntWalk.i64_in _ (by omega)
          have HY := Lib.hid hy
          clear hh hme hy
          rcases inB_cases (a * x + z) (-4000000000000) 4000000000000 with ⟨hi, i0, i1⟩ | ⟨hi, _⟩
          · clear HF
            generalize hE : a * x + z = E at *
            go_wp2_with (go_at_call 55; refine (in_any _ _ _ _).mono ?_; rw [hi]; rintro e w' ⟨rfl, rfl⟩)
            exact ⟨⟨j + 1, (m : Int) - 1, by omega, by first | rfl | (go_num), by have := HY.out; omega, by rw [HH.out], by rw [HH.out]; exact i0, by rw [HH.out]; exact i1⟩, by first | (simp [intOf]; done) | (simp [intOf]; omega)⟩
          · obtain ⟨f1, f2⟩ := HF.out hi
            have F := Lib.hid (And.intro f1 f2)
            clear f1 f2 HF
            go_wp2_with (go_at_call 55; refine (in_any _ _ _ _).mono ?_; rw [hi]; rintro e w' ⟨rfl, rfl⟩)
            go_ret2
            rw [F.out.1, F.out.2]; exact ⟨rfl, rfl⟩
        · have hjl : evalD l x j = evalL l x := by unfold evalL; rw [← HL.out, show j = n by omega]
          have hneg : y = -1 := by omega
          subst hneg
          rw [hjl] at b0 b1 ⊢
          rcases inB_cases (evalL l x) (-1000000000000) 1000000000000 with ⟨hi, i0, i1⟩ | ⟨hi, _⟩
          · have e : valueC l x = 0 := by simp [valueC, hp, hx, hi]
            have F := Lib.hid (And.intro (show valueQ l x = evalL l x by simp [valueQ, e]) e)
            clear hjl hy e
            generalize evalL l x = E at *
            go_wp2_with (go_at_call 56; refine (specIs6_any _ _).mono ?_; rw [hi]; rintro e w' ⟨rfl, rfl⟩)
            go_ret2
            rw [F.out.1, F.out.2]; exact ⟨rfl, rfl⟩
          · have e : valueC l x = 3 := by simp [valueC, hp, hx, hi]
            have F := Lib.hid (And.intro (show valueQ l x = 0 by simp [valueQ, e]) e)
            clear hjl hy e
            generalize evalL l x = E at *
            go_wp2_with (go_at_call 56; refine (specIs6_any _ _).mono ?_; rw [hi]; rintro e w' ⟨rfl, rfl⟩)
            go_ret2
            rw [F.out.1, F.out.2]; exact ⟨rfl, rfl⟩
    · rw [show valueQ l x = 0 by simp [valueQ, valueC, hp, hx], show valueC l x = 2 by simp [valueC, hp, hx]]
      go_enter Try.func21, Try.ntmps21
      go_wp2_with (first | (go_at_call 24; refine (specIsPoly_any HS.out).mono ?_; rw [hp]; rintro e w2 ⟨rfl, rfl⟩) | (go_at_call 55; refine (in_any _ _ _ _).mono ?_; rw [hx]; rintro e w' ⟨rfl, rfl⟩))
      go_ret2
      exact ⟨rfl, rfl⟩
def contC (l : List Int) : Int := if polyB l then 0 else 1
def contQ (l : List Int) : Int := if polyB l then contL l else 0
theorem contN_bd {l : List Int} (h : ∀ i, -1000000 ≤ l.getD i 0 ∧ l.getD i 0 ≤ 1000000) : ∀ k, 0 ≤ contN l k ∧ contN l k ≤ 1000000
  | 0 => by simp [contN]
  | k + 1 => by
    obtain ⟨a, b⟩ := contN_bd h k
    obtain ⟨c, d⟩ := h k
    unfold contN
    refine ⟨by omega, ?_⟩
    by_cases h0 : contN l k = 0
    · rw [h0, Int.gcd_zero_left]; omega
    · have := Int.gcd_le_natAbs_left (l.getD k 0) h0
      have := Int.ofNat_le.2 this
      omega
theorem l06Content_any {o : Option Addr} {n c : Nat} {l : List Int} {w : World} (h : Seen w o n c l) (hp : polyB l = true) :
    Calls Try.prog 63 #[.slice o n c] w fun e w' => e = .returned (.int .i64 (contL l)) ∧ ∃ m, w' = w.drewN m := by
  obtain ⟨hl, hn, hno, hnc, g, h1, h2⟩ := h
  have HO := Lib.hid fun h => (h1 h).1
  have HL := Lib.hid hl
  have HC := Lib.hid h2
  have hB := Lib.hid (polyB_of hp).2.1
  clear h1 h2 hl hno hnc
  go_enter Try.func63, Try.ntmps63
  go_wp2
  go_loopw [3, 4] (fun a i wr => ∃ k : Nat, k ≤ n ∧ i = .int .i64 k ∧ a = .int .i64 (contN l k) ∧ ∃ m, wr = w.drewN m) (fun _ i _ => n - (intOf i).toNat)
  case atStart => exact ⟨0, Nat.zero_le _, rfl, rfl, 0, rfl⟩
  case round =>
    obtain ⟨k, hk, rfl, rfl, m, rfl⟩ := hrel
    by_cases hlt : k < n
    · have hog := HO.out (by omega)
      subst hog
      have a2 := HC.out k hlt
      have HH := Lib.hid (show contN l (k + 1) = ((Int.gcd (contN l k) (l.getD k 0) : Nat) : Int) from rfl)
      obtain ⟨a0, a1⟩ := contN_bd hB.out k
      obtain ⟨z0, z1⟩ := hB.out k
      generalize contN l k = a at *
      generalize l.getD k 0 = z at *
      go_wp2_with (go_at_call 69; refine (l01Gcd_any _ _ _ (by omega) (by omega) (by omega) (by omega)).mono ?_; rintro e w' ⟨rfl, m', rfl⟩)
      go_roundw
      case rel => exact ⟨k + 1, by omega, by go_num, by rw [HH.out], m + m', by first | rfl | rw [World.drewN_drewN]⟩
      case measure => simp [intOf]; omega
    · have hkn : contN l k = contL l := by unfold contL; rw [← HL.out, show k = n by omega]
      rw [hkn]
      clear hkn
      go_wp2
      go_ret
      exact ⟨rfl, m, rfl⟩
theorem specCont_any {o : Option Addr} {n c : Nat} {l : List Int} {w : World} (h : Seen w o n c l) :
    Calls Try.prog 38 #[.slice o n c] w fun e w' => e = .returned (.tuple #[.int .i64 (contQ l), .int .i64 (contC l)]) ∧ ∃ m, w' = w.drewN m := by
  have HS := Lib.hid h
  clear h
  cases hp : polyB l
  · rw [show contQ l = 0 by simp [contQ, hp], show contC l = 1 by simp [contC, hp]]
    go_enter Try.func38, Try.ntmps38
    go_wp2_with (go_at_call 24; refine (specIsPoly_any HS.out).mono ?_; rw [hp]; rintro e w2 ⟨rfl, rfl⟩)
    go_ret2
    exact ⟨rfl, 0, rfl⟩
  · rw [show contQ l = contL l by simp [contQ, hp], show contC l = 0 by simp [contC, hp]]
    go_enter Try.func38, Try.ntmps38
    go_wp2_with (first | (go_at_call 24; refine (specIsPoly_any HS.out).mono ?_; rw [hp]; rintro e w2 ⟨rfl, rfl⟩) | (go_at_call 63; refine (l06Content_any HS.out hp).mono ?_; rintro e w2 ⟨rfl, m, rfl⟩))
    go_ret2
    exact ⟨rfl, m, rfl⟩
end Go.Proofs.Ytcennddgbpkclaa
