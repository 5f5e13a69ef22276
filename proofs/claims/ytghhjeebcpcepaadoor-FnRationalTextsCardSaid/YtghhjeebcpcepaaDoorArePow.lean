/- Contracts of the walk: impl.arePowers and spec.l01Powers tell whether a list of prime powers is as described. Rows of at most 2000000 elements. -/
import Derived.Test.YtghhjeebcpcepaaDoorPowRow
import Derived.Test.YtghhjeebcpcepaaDoorDec
namespace Go.Proofs.YtghhjeebcpcepaaDoor
open Go.RowKit
set_option linter.unusedVariables false
def okAt (l : List (Int × Int)) (i : Nat) : Bool :=
  isPrimeB (l.getD i (0, 0)).1 && (decide (i = 0) || decide ((l.getD (i - 1) (0, 0)).1 < (l.getD i (0, 0)).1)) && inB (l.getD i (0, 0)).2 1 40
def arePowB (l : List (Int × Int)) : Bool := decide (l.length ≤ 60) && (List.range l.length).all fun i => okAt l i
theorem arePowB_bad {l : List (Int × Int)} {i : Nat} (hi : i < l.length) (h : okAt l i = false) : arePowB l = false := by
  unfold arePowB
  rw [Bool.and_eq_false_iff]; right
  rw [List.all_eq_false]
  exact ⟨i, by simp [hi], by simp [h]⟩
theorem arePowB_end {l : List (Int × Int)} (h : ∀ i, i < l.length → okAt l i = true) : arePowB l = decide (l.length ≤ 60) := by
  unfold arePowB
  rw [show ((List.range l.length).all fun i => okAt l i) = true from List.all_eq_true.2 fun i hi => h i (by simpa using hi), Bool.and_true]
theorem arePowB_long {l : List (Int × Int)} (h : 60 < l.length) : arePowB l = false := by
  unfold arePowB; rw [decide_eq_false (by omega)]; rfl
theorem okAt_zero {l : List (Int × Int)} {x y : Int} (e : l.getD 0 (0, 0) = (x, y)) : okAt l 0 = (isPrimeB x && inB y 1 40) := by
  unfold okAt; rw [e]; simp
theorem okAt_succ {l : List (Int × Int)} {i : Nat} {x y x0 y0 : Int} (e : l.getD (i + 1) (0, 0) = (x, y)) (e0 : l.getD i (0, 0) = (x0, y0)) : okAt l (i + 1) = (isPrimeB x && decide (x0 < x) && inB y 1 40) := by
  unfold okAt; rw [e, Nat.add_sub_cancel, e0]; simp
/-- the prime before element i, 0 ahead of the first -/
def lastP (l : List (Int × Int)) (i : Nat) : Int := if i = 0 then 0 else (l.getD (i - 1) (0, 0)).1
theorem okAt_last {l : List (Int × Int)} {i : Nat} {x y : Int} (e : l.getD i (0, 0) = (x, y)) : okAt l i = (decide (lastP l i < x) && isPrimeB x && inB y 1 40) := by
  match i, e with
  | 0, e =>
    rw [okAt_zero e]
    cases hp : isPrimeB x
    · simp
    · have : 0 < x := by
        unfold isPrimeB inB at hp; simp at hp; omega
      simp [lastP, this]
  | i + 1, e =>
    obtain ⟨x0, y0, e0⟩ : ∃ a b, l.getD i (0, 0) = (a, b) := ⟨_, _, rfl⟩
    have hl : lastP l (i + 1) = x0 := by unfold lastP; rw [if_neg (by omega), Nat.add_sub_cancel, e0]
    rw [okAt_succ e e0, hl, Bool.and_comm (isPrimeB x)]
theorem lastP_succ {l : List (Int × Int)} {i : Nat} {x y : Int} (e : l.getD i (0, 0) = (x, y)) : lastP l (i + 1) = x := by
  unfold lastP; rw [if_neg (by omega), Nat.add_sub_cancel, e]
set_option maxHeartbeats 800000 in
theorem arePowers_any (base : Nat) (o : Option Addr) (c : Nat) (l : List (Int × Int)) (w : World) (hn : l.length ≤ 2000000) (hr : PowRow base w (.slice o l.length c) l) :
    Calls Tryd.prog 34 #[.slice o l.length c] w fun e w' => e = .returned (.bool (arePowB l)) ∧ Below w.heap.size w w' := by
  have HR := Lib.hid hr
  clear hr
  by_cases h60 : 60 < l.length
  · have HE := Lib.hid (arePowB_long h60)
    go_enter Tryd.func34, Tryd.ntmps34
    go_wp2
    go_ret
    exact ⟨ret_bool HE.out.symm, Below.refl _ _⟩
  · go_enter Tryd.func34, Tryd.ntmps34
    go_wp2
    go_loopw [3, 11] (fun p i wr => ∃ k : Nat, k ≤ l.length ∧ i = .int .i64 k ∧ p = .int .i64 (lastP l k) ∧ (∀ j, j < k → okAt l j = true) ∧ Below w.heap.size w wr) (fun _ i _ => l.length - (intOf i).toNat)
    case atStart => exact ⟨0, Nat.zero_le _, rfl, rfl, fun j h => absurd h (Nat.not_lt_zero _), Below.refl _ _⟩
    case round =>
      obtain ⟨k, hk, rfl, rfl, hall, hb⟩ := hrel
      have HA := Lib.hid hall
      have HB := Lib.hid hb
      have bs := hb.size
      clear hall
      by_cases hlt : k < l.length
      · rcases row_shape HR.out with ⟨h0, _⟩ | ⟨_, g, c', hv, hbg, hg⟩
        · omega
        · cases hv
          obtain ⟨a1, a2⟩ := pow_cells HR.out k hlt
          rw [← hb.cell (by exact hg)] at a1 a2
          clear hb
          obtain ⟨x1, y1, e1⟩ : ∃ x y, l.getD k (0, 0) = (x, y) := ⟨_, _, rfl⟩
          rw [e1] at a1 a2
          simp only at a1 a2
          have HO := Lib.hid (okAt_last e1)
          have HL := Lib.hid (lastP_succ e1)
          obtain ⟨z, hz⟩ : ∃ z, z = lastP l k := ⟨_, rfl⟩
          rw [← hz] at HO ⊢
          clear hz e1
          by_cases hc1 : x1 ≤ z
          · have HE := Lib.hid (arePowB_bad hlt (by rw [HO.out, decide_eq_false (by omega)]; rfl))
            go_wp2
            go_ret
            exact ⟨ret_bool HE.out.symm, HB.out.alloc HB.out.size _⟩
          · cases hp : isPrimeB x1
            · have HE := Lib.hid (arePowB_bad hlt (by rw [HO.out, hp]; simp))
              go_wp2_with (go_at_call 53; refine (implIsPrime_any _ _).mono ?_; rintro e w' ⟨rfl, rfl⟩)
              go_ret
              exact ⟨ret_bool HE.out.symm, HB.out.alloc HB.out.size _⟩
            · by_cases hy : 1 ≤ y1 ∧ y1 ≤ 40
              · obtain ⟨hy1, hy2⟩ := hy
                have HN : Hid (∀ j, j < k + 1 → okAt l j = true) := by
                  intro j hj
                  by_cases e : j = k
                  · subst e; rw [HO.out, hp, inB_t hy1 hy2, decide_eq_true (by omega)]; rfl
                  · exact HA.out j (by omega)
                go_wp2_with (go_at_call 53; refine (implIsPrime_any _ _).mono ?_; rintro e w' ⟨rfl, rfl⟩)
                go_roundw
                case rel => exact ⟨k + 1, by omega, by go_num, by rw [HL.out], HN.out, HB.out.alloc HB.out.size _⟩
                case measure => simp [intOf]; omega
              · have HE := Lib.hid (arePowB_bad hlt (by rw [HO.out, hp, inB_f (by omega)]; simp))
                by_cases hy1 : y1 < 1
                · clear hy
                  go_wp2_with (go_at_call 53; refine (implIsPrime_any _ _).mono ?_; rintro e w' ⟨rfl, rfl⟩)
                  go_ret
                  exact ⟨ret_bool HE.out.symm, HB.out.alloc HB.out.size _⟩
                · have hy2 : 40 < y1 := by omega
                  clear hy
                  go_wp2_with (go_at_call 53; refine (implIsPrime_any _ _).mono ?_; rintro e w' ⟨rfl, rfl⟩)
                  go_ret
                  exact ⟨ret_bool HE.out.symm, HB.out.alloc HB.out.size _⟩
      · have hkl : k = l.length := by omega
        have HE : Hid (arePowB l = true) := by
          show arePowB l = true
          rw [arePowB_end (fun i hi => HA.out i (by omega)), decide_eq_true (by omega)]
        clear hkl
        go_wp2
        go_ret
        exact ⟨ret_bool HE.out.symm, HB.out⟩
set_option maxHeartbeats 1600000 in
theorem l01Powers_any (base : Nat) (o : Option Addr) (c : Nat) (l : List (Int × Int)) (w : World) (hn : l.length ≤ 2000000) (hr : PowRow base w (.slice o l.length c) l) :
    Calls Tryd.prog 37 #[.slice o l.length c] w fun e w' => e = .returned (.bool (arePowB l)) ∧ ∃ m, w' = w.drewN m := by
  have HR := Lib.hid hr
  clear hr
  go_enter Tryd.func37, Tryd.ntmps37
  go_wp2
  go_loopw [3] (fun i wr => ∃ k : Nat, k ≤ l.length ∧ i = .int .i64 k ∧ (∀ j, j < k → okAt l j = true) ∧ ∃ nd, wr = w.drewN nd) (fun i _ => l.length - (intOf i).toNat)
  case atStart => exact ⟨0, Nat.zero_le _, rfl, fun j h => absurd h (Nat.not_lt_zero _), 0, rfl⟩
  case round =>
    obtain ⟨k, hk, rfl, hall, nd, rfl⟩ := hrel
    have HA := Lib.hid hall
    clear hall
    by_cases hlt : k < l.length
    · rcases row_shape HR.out with ⟨h0, _⟩ | ⟨_, g, c', hv, hbg, hg⟩
      · omega
      · cases hv
        obtain ⟨a1, a2⟩ := pow_cells HR.out k hlt
        obtain ⟨x1, y1, e1⟩ : ∃ x y, l.getD k (0, 0) = (x, y) := ⟨_, _, rfl⟩
        rw [e1] at a1 a2
        simp only at a1 a2
        cases hp : isPrimeB x1
        · have HO : Hid (okAt l k = false) := by
            show okAt l k = false
            rw [okAt_last e1, hp]; simp
          have HE := Lib.hid (arePowB_bad hlt HO.out)
          clear e1
          go_wp2
          go_quiet ((go_at_call 58; exact (specIsPrime_any _ _).mono fun e w' h => ⟨h.1, _, h.2.symm⟩))
          go_wp2
          go_ret
          exact ⟨ret_bool HE.out.symm, nd + nq, by first | rfl | rw [World.drewN_drewN]⟩
        · cases hy : inB y1 1 40
          · have HE : Hid (arePowB l = false) := by
              show arePowB l = false
              exact arePowB_bad hlt (by rw [okAt_last e1, hy]; simp)
            match k, hlt, a1, a2, e1 with
            | 0, hlt, a1, a2, e1 =>
              clear e1
              go_wp2
              go_quiet (first | (go_at_call 58; exact (specIsPrime_any _ _).mono fun e w' h => ⟨h.1, _, h.2.symm⟩) | (go_at_call 59; exact (in_any _ _ _ _).mono fun e w' h => ⟨h.1, _, h.2.symm⟩))
              go_wp2
              go_ret
              exact ⟨ret_bool HE.out.symm, nd + nq, by first | rfl | rw [World.drewN_drewN]⟩
            | j + 1, hlt, a1, a2, e1 =>
              obtain ⟨b1, b2⟩ := pow_cells HR.out j (by omega)
              obtain ⟨x0, y0, e0⟩ : ∃ x y, l.getD j (0, 0) = (x, y) := ⟨_, _, rfl⟩
              rw [e0] at b1 b2
              simp only at b1 b2
              clear e0 e1
              cases hle : decide (x1 ≤ x0)
              all_goals
                go_wp2
                go_quiet (first | (go_at_call 58; exact (specIsPrime_any _ _).mono fun e w' h => ⟨h.1, _, h.2.symm⟩) | (go_at_call 59; exact (in_any _ _ _ _).mono fun e w' h => ⟨h.1, _, h.2.symm⟩))
                go_wp2
                go_ret
                exact ⟨ret_bool HE.out.symm, nd + nq, by first | rfl | rw [World.drewN_drewN]⟩
          · match k, hlt, a1, a2, e1, HA with
            | 0, hlt, a1, a2, e1, HA =>
              have HN : Hid (∀ j, j < 0 + 1 → okAt l j = true) := by
                intro j hj
                obtain rfl : j = 0 := by omega
                rw [okAt_zero e1, hp, hy]; rfl
              clear e1
              go_wp2
              go_quiet (first | (go_at_call 58; exact (specIsPrime_any _ _).mono fun e w' h => ⟨h.1, _, h.2.symm⟩) | (go_at_call 59; exact (in_any _ _ _ _).mono fun e w' h => ⟨h.1, _, h.2.symm⟩))
              go_wp2
              exact ⟨⟨0 + 1, by omega, by go_num, HN.out, nd + nq, by first | rfl | rw [World.drewN_drewN]⟩, by simp only [intOf]; omega⟩
            | j + 1, hlt, a1, a2, e1, HA =>
              obtain ⟨b1, b2⟩ := pow_cells HR.out j (by omega)
              obtain ⟨x0, y0, e0⟩ : ∃ x y, l.getD j (0, 0) = (x, y) := ⟨_, _, rfl⟩
              rw [e0] at b1 b2
              simp only at b1 b2
              by_cases hle : x1 ≤ x0
              · have HE : Hid (arePowB l = false) := by
                  show arePowB l = false
                  exact arePowB_bad hlt (by rw [okAt_succ e1 e0, decide_eq_false (by omega)]; simp)
                clear e0 e1
                go_wp2
                go_quiet (first | (go_at_call 58; exact (specIsPrime_any _ _).mono fun e w' h => ⟨h.1, _, h.2.symm⟩) | (go_at_call 59; exact (in_any _ _ _ _).mono fun e w' h => ⟨h.1, _, h.2.symm⟩))
                go_wp2
                go_ret
                exact ⟨ret_bool HE.out.symm, nd + nq, by first | rfl | rw [World.drewN_drewN]⟩
              · have HN : Hid (∀ i, i < j + 1 + 1 → okAt l i = true) := by
                  intro i hi
                  by_cases e : i = j + 1
                  · subst e; rw [okAt_succ e1 e0, hp, hy, decide_eq_true (by omega)]; rfl
                  · exact HA.out i (by omega)
                have hle' : decide (x1 ≤ x0) = false := decide_eq_false hle
                clear e0 e1 hle
                go_wp2
                go_quiet (first | (go_at_call 58; exact (specIsPrime_any _ _).mono fun e w' h => ⟨h.1, _, h.2.symm⟩) | (go_at_call 59; exact (in_any _ _ _ _).mono fun e w' h => ⟨h.1, _, h.2.symm⟩))
                go_wp2
                exact ⟨⟨j + 1 + 1, by omega, by go_num, HN.out, nd + nq, by first | rfl | rw [World.drewN_drewN]⟩, by simp only [intOf]; omega⟩
    · have hkl : k = l.length := by omega
      have HE : Hid (arePowB l = decide (l.length ≤ 60)) := by
        show arePowB l = decide (l.length ≤ 60)
        exact arePowB_end (fun i hi => HA.out i (by omega))
      clear hkl
      go_wp2
      go_ret
      exact ⟨ret_bool (by rw [HE.out]; exact decide_eq_decide.2 (by omega)), nd, rfl⟩
end Go.Proofs.YtghhjeebcpcepaaDoor
