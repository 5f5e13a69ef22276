/- Contracts of the walk over lists of prime powers (structs of two integers): eqPower, eqPowerS, markPowerS, heldPowerS of the laws' package, over rows of the call's own memory. -/
import Derived.Test.YtghhjeebcpcepaaDoorPrime
import Derived.StillTailTactics
import Derived.Deep.RegionHeld3
namespace Go.Proofs.YtghhjeebcpcepaaDoor
open Go.RowKit
set_option linter.unusedVariables false
def pairB (a b c d : Int) : Bool := decide (a = c) && decide (b = d)
theorem pairB_eq {a b c d : Int} (h : pairB a b c d = true) : (a, b) = (c, d) := by
  simp [pairB] at h; simp [h]
theorem pairB_ne {a b c d : Int} (h : pairB a b c d = false) (e : (a, b) = (c, d)) : False := by
  simp at e; simp [pairB, e] at h
theorem allEq_succ {α : Type} {l1 l2 : List α} {z : α} {k : Nat} (h : ∀ j, j < k → l1.getD j z = l2.getD j z) (he : l1.getD k z = l2.getD k z) : ∀ j, j < k + 1 → l1.getD j z = l2.getD j z := by
  intro j hj
  by_cases e : j = k
  · subst e; exact he
  · exact h j (by omega)
theorem below_two (w : World) (o o' : Obj) : Below w.heap.size w ((w.alloc o).alloc o') := ((Below.refl _ _).alloc (Nat.le_refl _) o).alloc (by simp) o'
theorem eqPower_any (a b c d : Int) (w : World) :
    Calls Tryd.prog 52 #[.agg #[.int .i64 a, .int .i64 b], .agg #[.int .i64 c, .int .i64 d]] w fun e w' => e = .returned (.bool (pairB a b c d)) ∧ (w.alloc (.cells #[.int .i64 a, .int .i64 b] 54)).alloc (.cells #[.int .i64 c, .int .i64 d] 54) = w' := by
  by_cases h1 : a = c
  · subst h1
    by_cases h2 : b = d
    · subst h2
      have e : pairB a b a b = true := by simp [pairB]
      rw [e]
      go_enter Tryd.func52, Tryd.ntmps52
      go_wp2
      go_ret
      exact ⟨rfl, rfl⟩
    · have e : pairB a b a d = false := by simp [pairB, h2]
      have h2' : (b != d) = true := by simpa using h2
      rw [e]
      clear h2
      go_enter Tryd.func52, Tryd.ntmps52
      go_wp2
      go_ret
      exact ⟨rfl, rfl⟩
  · have h1' : (a != c) = true := by simpa using h1
    have e : pairB a b c d = false := by simp [pairB, h1]
    rw [e]
    clear h1
    go_enter Tryd.func52, Tryd.ntmps52
    go_wp2
    go_ret
    exact ⟨rfl, rfl⟩
theorem eqPowerS_len (o1 o2 : Option Addr) (n m c1 c2 : Nat) (w : World) (h : n ≠ m) :
    Calls Tryd.prog 25 #[.slice o1 n c1, .slice o2 m c2] w fun e w' => e = .returned (.bool false) ∧ w = w' := by
  have h' : ((n : Int) != m) = true := by simp; omega
  clear h
  go_enter Tryd.func25, Tryd.ntmps25
  go_wp2
  go_ret
  exact ⟨rfl, rfl⟩
theorem eqPowerS_nil (o1 o2 : Option Addr) (c1 c2 : Nat) (w : World) :
    Calls Tryd.prog 25 #[.slice o1 0 c1, .slice o2 0 c2] w fun e w' => e = .returned (.bool true) ∧ w = w' := by
  go_enter Tryd.func25, Tryd.ntmps25
  go_wp2
  refine wp_loop_rounds 1 ?_
  rw [rounds_succ]
  go_wp2
  go_ret
  exact ⟨rfl, rfl⟩
set_option maxHeartbeats 400000 in
theorem eqPowerS_row (g1 g2 n c1 c2 : Nat) (l1 l2 : List (Int × Int)) (w : World) (hn : n ≤ 2000000)
    (hg1 : g1 < w.heap.size) (hg2 : g2 < w.heap.size)
    (hc1 : ∀ k, k < n → w.cell? ⟨g1, k * 2, none⟩ = some (.int .i64 (l1.getD k (0, 0)).1) ∧ w.cell? ⟨g1, k * 2 + 1, none⟩ = some (.int .i64 (l1.getD k (0, 0)).2))
    (hc2 : ∀ k, k < n → w.cell? ⟨g2, k * 2, none⟩ = some (.int .i64 (l2.getD k (0, 0)).1) ∧ w.cell? ⟨g2, k * 2 + 1, none⟩ = some (.int .i64 (l2.getD k (0, 0)).2)) :
    Calls Tryd.prog 25 #[.slice (some ⟨g1, 0, none⟩) n c1, .slice (some ⟨g2, 0, none⟩) n c2] w fun e w' => e = .returned (.bool (decide (∀ k, k < n → l1.getD k (0, 0) = l2.getD k (0, 0)))) ∧ Below w.heap.size w w' := by
  have HC1 := Lib.hid hc1
  have HC2 := Lib.hid hc2
  clear hc1 hc2
  go_enter Tryd.func25, Tryd.ntmps25
  go_wp2
  go_loopw [5] (fun i wr => ∃ k : Nat, k ≤ n ∧ i = .int .i64 k ∧ (∀ j, j < k → l1.getD j (0, 0) = l2.getD j (0, 0)) ∧ Below w.heap.size w wr) (fun i _ => n - (intOf i).toNat)
  case atStart => exact ⟨0, Nat.zero_le _, rfl, fun j h => absurd h (Nat.not_lt_zero _), Below.refl _ _⟩
  case round =>
    obtain ⟨k, hk, rfl, hall, hb⟩ := hrel
    have HA := Lib.hid hall
    clear hall
    by_cases hlt : k < n
    · obtain ⟨a1, a2⟩ := HC1.out k hlt
      obtain ⟨b1, b2⟩ := HC2.out k hlt
      rw [← hb.cell (by exact hg1)] at a1 a2
      rw [← hb.cell (by exact hg2)] at b1 b2
      obtain ⟨x1, y1, e1⟩ : ∃ x y, l1.getD k (0, 0) = (x, y) := ⟨_, _, rfl⟩
      obtain ⟨x2, y2, e2⟩ : ∃ x y, l2.getD k (0, 0) = (x, y) := ⟨_, _, rfl⟩
      rw [e1] at a1 a2
      rw [e2] at b1 b2
      have HB := Lib.hid hb
      have HE1 := Lib.hid e1
      have HE2 := Lib.hid e2
      clear hb e1 e2
      by_cases hp : pairB x1 y1 x2 y2 = true
      · go_wp2
        go_region_held3 (fun w' => w'.cell? ⟨g1, k * 2, none⟩ = some (.int .i64 x1) ∧ w'.cell? ⟨g1, k * 2 + 1, none⟩ = some (.int .i64 y1) ∧ w'.cell? ⟨g2, k * 2, none⟩ = some (.int .i64 x2) ∧ w'.cell? ⟨g2, k * 2 + 1, none⟩ = some (.int .i64 y2)) (go_keep)
          (first | (go_at_call 52; refine (eqPower_any _ _ _ _ _).mono ?_; rintro e w' ⟨rfl, rfl⟩))
        go_wp2
        go_roundw
        case rel => exact ⟨k + 1, by omega, by go_num, allEq_succ HA.out (by rw [HE1.out, HE2.out]; exact pairB_eq hp), ((HB.out.drew).alloc HB.out.size _).alloc (by have := HB.out.size; simp; omega) _⟩
        case measure => simp [intOf]; omega
      · have hp' : pairB x1 y1 x2 y2 = false := by simpa using hp
        clear hp
        go_wp2
        go_region_held3 (fun w' => w'.cell? ⟨g1, k * 2, none⟩ = some (.int .i64 x1) ∧ w'.cell? ⟨g1, k * 2 + 1, none⟩ = some (.int .i64 y1) ∧ w'.cell? ⟨g2, k * 2, none⟩ = some (.int .i64 x2) ∧ w'.cell? ⟨g2, k * 2 + 1, none⟩ = some (.int .i64 y2)) (go_keep)
          (first | (go_at_call 52; refine (eqPower_any _ _ _ _ _).mono ?_; rintro e w' ⟨rfl, rfl⟩))
        go_wp2
        go_ret
        exact ⟨ret_bool (Eq.symm (decide_eq_false (fun h => pairB_ne hp' (by rw [← HE1.out, ← HE2.out]; exact h k hlt)))), ((HB.out.drew).alloc HB.out.size _).alloc (by have := HB.out.size; simp; omega) _⟩
    · have hkn : k = n := by omega
      have HK := Lib.hid hkn
      clear hkn
      go_wp2
      go_ret
      exact ⟨ret_bool (Eq.symm (decide_eq_true (fun j hj => HA.out j (by have := HK.out; omega)))), hb⟩
end Go.Proofs.YtghhjeebcpcepaaDoor
