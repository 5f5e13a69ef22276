/- Contracts of the walk: Ring.check, both IsRing, both ModulusOf, both ReduceTo, both CountUnits, for every argument. -/
import Derived.Test.YtmkelfkbbdfjdaaRing
import Derived.Test.YtmkelfkbbdfjdaaRow
import Derived.Deep.RegionHeld3
namespace Go.Proofs.Ytmkelfkbbdfjdaa
open Go.RowKit
set_option linter.unusedVariables false
def ringB (p n : Int) : Bool := decide (ringM p n ≠ 0)
theorem ringB_t {p n : Int} (h : ringM p n ≠ 0) : ringB p n = true := by simp [ringB, h]
theorem ringB_f {p n : Int} (h : ringM p n = 0) : ringB p n = false := by simp [ringB, h]
def ringC (p n : Int) : Int := if ringM p n = 0 then 1 else 0
def resC (p n a : Int) : Int := if ringM p n = 0 then 1 else if 0 ≤ a ∧ a < ringM p n then 0 else 2
theorem below_one {w w1 : World} {o : Obj} (hb : Below (w.alloc o).heap.size (w.alloc o) w1) : Below w.heap.size w w1 :=
  ((Below.refl _ _).alloc (Nat.le_refl _) _).trans (hb.mono (by simp))
theorem cells_two {w w1 : World} {a b : Value} {T : TypeId} (hb : Below (w.alloc (.cells #[a, b] T)).heap.size (w.alloc (.cells #[a, b] T)) w1) :
    w1.cell? ⟨w.heap.size, 0, none⟩ = some a ∧ w1.cell? ⟨w.heap.size, 1, none⟩ = some b := by
  constructor
  · rw [hb.cell (by simp)]; exact World.cell?_alloc_new _ _ _ _ ▸ rfl
  · rw [hb.cell (by simp)]; exact World.cell?_alloc_new _ _ _ _ ▸ rfl
theorem keep_start {w : World} {a b : Value} {T : TypeId} (n : Nat) :
    Below w.heap.size w ((w.alloc (.cells #[a, b] T)).drewN n) ∧ ((w.alloc (.cells #[a, b] T)).drewN n).cell? ⟨w.heap.size, 0, none⟩ = some a ∧ ((w.alloc (.cells #[a, b] T)).drewN n).cell? ⟨w.heap.size, 1, none⟩ = some b :=
  ⟨below_drewN ((Below.refl _ _).alloc (Nat.le_refl _) _) _, World.cell?_alloc_new _ _ _ _ ▸ rfl, World.cell?_alloc_new _ _ _ _ ▸ rfl⟩
theorem keep_next {w w1 w2 : World} {a b : Value} (h : Below w.heap.size w w1 ∧ w1.cell? ⟨w.heap.size, 0, none⟩ = some a ∧ w1.cell? ⟨w.heap.size, 1, none⟩ = some b) (hb : Below w1.heap.size w1 w2) :
    Below w.heap.size w w2 ∧ w2.cell? ⟨w.heap.size, 0, none⟩ = some a ∧ w2.cell? ⟨w.heap.size, 1, none⟩ = some b := by
  have hlt := World.block_lt_of_cell? _ _ h.2.1
  exact ⟨h.1.trans (hb.mono h.1.size), by rw [hb.cell (p := ⟨w.heap.size, 0, none⟩) hlt]; exact h.2.1, by rw [hb.cell (p := ⟨w.heap.size, 1, none⟩) hlt]; exact h.2.2⟩
theorem keep_first {w w1 : World} {a b : Value} {T : TypeId} (hb : Below (w.alloc (.cells #[a, b] T)).heap.size (w.alloc (.cells #[a, b] T)) w1) :
    Below w.heap.size w w1 ∧ w1.cell? ⟨w.heap.size, 0, none⟩ = some a ∧ w1.cell? ⟨w.heap.size, 1, none⟩ = some b := ⟨below_one hb, cells_two hb⟩
theorem ring_two {w w1 w2 : World} (h1 : Below w.heap.size w w1) (h2 : Below w1.heap.size w1 w2) : Below w.heap.size w w2 := h1.trans (h2.mono h1.size)
set_option maxHeartbeats 400000 in
theorem checkNil_any (p n : Int) (w : World) :
    Calls Try.prog 52 #[.agg #[.int .i64 p, .int .i64 n], .slice none 0 0] w fun e w' => e = .returned (.int .i64 (ringC p n)) ∧ Below w.heap.size w w' := by
  by_cases h0 : ringM p n = 0
  · have h0' : (ringM p n == 0) = true := by simp [h0]
    simp only [ringC, h0, if_true]
    go_enter Try.func52, Try.ntmps52
    go_wp2_with (go_at_call 68; refine (implModulus_any _ _ _).mono ?_; rintro e w1 ⟨rfl, hb⟩)
    go_ret
    exact ⟨rfl, below_one hb⟩
  · have h0' : (ringM p n == 0) = false := by simpa using h0
    simp only [ringC, h0, if_false]
    go_enter Try.func52, Try.ntmps52
    go_wp2_with (go_at_call 68; refine (implModulus_any _ _ _).mono ?_; rintro e w1 ⟨rfl, hb⟩)
    go_loop [14] (fun i => i = .int .i64 0) (fun _ => 0)
    case atStart => exact rfl
    case round =>
      subst hrel
      go_wp2
      go_ret
      exact ⟨rfl, below_one hb⟩
set_option maxHeartbeats 400000 in
theorem checkOne_any (p n a : Int) (b : Nat) (w : World) (hc : w.cell? ⟨b, 0, none⟩ = some (.int .i64 a)) (hlt : b < w.heap.size) :
    Calls Try.prog 52 #[.agg #[.int .i64 p, .int .i64 n], .slice (some ⟨b, 0, none⟩) 1 1] w fun e w' => e = .returned (.int .i64 (resC p n a)) ∧ Below w.heap.size w w' := by
  by_cases h0 : ringM p n = 0
  · have h0' : (ringM p n == 0) = true := by simp [h0]
    simp only [resC, h0, if_true]
    go_enter Try.func52, Try.ntmps52
    go_wp2_with (go_at_call 68; refine (implModulus_any _ _ _).mono ?_; rintro e w1 ⟨rfl, hb⟩)
    go_ret
    exact ⟨rfl, below_one hb⟩
  · have h0' : (ringM p n == 0) = false := by simpa using h0
    simp only [resC, h0, if_false]
    have HC := Lib.hid hc
    clear hc h0
    go_enter Try.func52, Try.ntmps52
    go_wp2_with (go_at_call 68; refine (implModulus_any _ _ _).mono ?_; rintro e w1 ⟨rfl, hb⟩)
    have c1 : w1.cell? ⟨b, 0, none⟩ = some (.int .i64 a) := by rw [(below_one hb).cell hlt]; exact HC.out
    have HB := Lib.hid (below_one hb)
    clear hb
    go_loop [14] (fun i => ∃ k : Nat, k ≤ 1 ∧ i = .int .i64 k ∧ (k = 1 → 0 ≤ a ∧ a < ringM p n)) (fun i => 1 - (intOf i).toNat)
    case atStart => exact ⟨0, by omega, rfl, by omega⟩
    case round =>
      obtain ⟨k, hk, rfl, hk1⟩ := hrel
      by_cases e0 : k = 0
      · subst e0
        clear hk1
        by_cases ha : 0 ≤ a
        · by_cases hm : a < ringM p n
          · go_wp2
            exact ⟨⟨1, by omega, rfl, fun _ => ⟨ha, hm⟩⟩, by simp [intOf]⟩
          · simp only [hm, and_false]
            go_wp2
            go_ret
            exact ⟨rfl, HB.out⟩
        · simp only [ha, false_and]
          go_wp2
          go_ret
          exact ⟨rfl, HB.out⟩
      · obtain rfl : k = 1 := by omega
        have ha := hk1 rfl
        simp only [ha, and_self]
        clear hk1
        go_wp2
        go_ret
        exact ⟨rfl, HB.out⟩
theorem specIsRing_any (p n : Int) (w : World) :
    Calls Try.prog 54 #[.agg #[.int .i64 p, .int .i64 n]] w fun e w' => e = .returned (.bool (ringB p n)) ∧ Below w.heap.size w w' := by
  cases hs : smallB p
  · have HE := Lib.hid (ringB_f (ringM_small (n := n) hs))
    go_enter Try.func54, Try.ntmps54
    go_wp2_with (go_at_call 38; refine (l01Small_any _ _).mono ?_; rintro e w' ⟨rfl, rfl⟩)
    go_ret
    exact ⟨ret_bool HE.out.symm, (Below.refl _ _).alloc (Nat.le_refl _) _⟩
  · by_cases hn : 1 ≤ n ∧ n ≤ 40
    · have hi := inB_t hn.1 hn.2
      have HS := Lib.hid hs
      have hz : 0 ≤ ringM p n := by
        by_cases h : ringM p n = 0
        · omega
        · have := ringM_bd h; omega
      have HE := Lib.hid (show decide (0 < ringM p n) = ringB p n by unfold ringB; congr 1; apply propext; omega)
      have HN := Lib.hid hn
      clear hn hz
      go_enter Try.func54, Try.ntmps54
      go_wp2_with (first | (go_at_call 38; refine (l01Small_any _ _).mono ?_; rintro e w' ⟨rfl, rfl⟩) | (go_at_call 39; refine (in_any _ _ _ _).mono ?_; rintro e w' ⟨rfl, rfl⟩) | (go_at_call 40; refine (l02Modulus_any _ _ _ HS.out HN.out.1 (Int.le_trans HN.out.2 (by omega))).mono ?_; rintro e w' ⟨rfl, rfl⟩))
      go_ret
      exact ⟨ret_bool HE.out, (Below.refl _ _).alloc (Nat.le_refl _) _⟩
    · have hz : ringM p n = 0 := by
        by_cases h : 1 ≤ n
        · exact ringM_high (by omega)
        · exact ringM_low (by omega)
      have HE := Lib.hid (ringB_f hz)
      have hi : inB n 1 40 = false := inB_f (by omega)
      clear hz hn
      go_enter Try.func54, Try.ntmps54
      go_wp2_with (first | (go_at_call 38; refine (l01Small_any _ _).mono ?_; rintro e w' ⟨rfl, rfl⟩) | (go_at_call 39; refine (in_any _ _ _ _).mono ?_; rintro e w' ⟨rfl, rfl⟩))
      go_ret
      exact ⟨ret_bool HE.out.symm, (Below.refl _ _).alloc (Nat.le_refl _) _⟩
end Go.Proofs.Ytmkelfkbbdfjdaa
