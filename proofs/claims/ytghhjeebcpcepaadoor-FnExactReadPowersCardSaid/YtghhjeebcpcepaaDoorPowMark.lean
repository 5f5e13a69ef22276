/- Contracts of the walk: markPowerS writes consecutive marks into a row of prime powers, heldPowerS finds them there. Rows of at most 1000000 elements. -/
import Derived.Test.YtghhjeebcpcepaaDoorPow
import Derived.Test.YtghhjeebcpcepaaDoorMark
import Derived.Deep.Draws
namespace Go.Proofs.YtghhjeebcpcepaaDoor
open Go.RowKit
set_option linter.unusedVariables false
theorem markPowerS_nil (o : Option Addr) (c : Nat) (q : Int) (w : World) :
    Calls Tryd.prog 26 #[.slice o 0 c, .int .i64 q] w fun e w' => e = .returned (.int .i64 q) ∧ w = w' := by
  go_enter Tryd.func26, Tryd.ntmps26
  go_wp2
  refine wp_loop_rounds 1 ?_
  rw [rounds_succ]
  go_wp2
  go_ret
  exact ⟨rfl, rfl⟩
theorem heldPowerS_nil (o : Option Addr) (c : Nat) (q : Int) (w : World) :
    Calls Tryd.prog 27 #[.slice o 0 c, .int .i64 q] w fun e w' => e = .returned (.int .i64 q) ∧ w = w' := by
  go_enter Tryd.func27, Tryd.ntmps27
  go_wp2
  refine wp_loop_rounds 1 ?_
  rw [rounds_succ]
  go_wp2
  go_ret
  exact ⟨rfl, rfl⟩
set_option maxHeartbeats 400000 in
theorem markPowerS_row (g n c : Nat) (q : Int) (w : World) (hn : n ≤ 1000000) (hq0 : 0 ≤ q) (hq1 : q ≤ 1000000)
    (hc : ∀ o, o < n * 2 → ∃ v, w.cell? ⟨g, o, none⟩ = some v) (hf : ∀ o, w.frozen? ⟨g, o, none⟩ = false) :
    Calls Tryd.prog 26 #[.slice (some ⟨g, 0, none⟩) n c, .int .i64 q] w fun e w' => e = .returned (.int .i64 (q + (n : Int) * 2)) ∧ MarkSt w w' g (n * 2) (n * 2) q ∧ ∀ o, w'.frozen? ⟨g, o, none⟩ = false := by
  have HS := Lib.hid (markSt_start (c := q) hc)
  have HF := Lib.hid hf
  clear hc hf
  go_enter Tryd.func26, Tryd.ntmps26
  go_wp2
  go_loopw [5, 1] (fun i m wr => ∃ (k : Nat) (x : Int), k ≤ n ∧ i = .int .i64 k ∧ m = .int .i64 x ∧ x = q + (k : Int) * 2 ∧ MarkSt w wr g (n * 2) (k * 2) q ∧ ∀ o, wr.frozen? ⟨g, o, none⟩ = false) (fun i _ _ => n - (intOf i).toNat)
  case atStart => exact ⟨0, q, Nat.zero_le _, rfl, rfl, by omega, HS.out, HF.out⟩
  case round =>
    obtain ⟨k, x, hk, rfl, rfl, hx, hm, hfr⟩ := hrel
    have bx0 : 0 ≤ x := by omega
    have bx1 : x ≤ 4000000 := by omega
    have HX := Lib.hid hx
    have HM := Lib.hid hm
    have HR := Lib.hid hfr
    clear hx hm hfr HS HF
    by_cases hlt : k < n
    · obtain ⟨v0, c0⟩ := HM.out.cells (k * 2) (by omega)
      have m1 := Lib.hid (markSt_step HM.out (q := x) (by omega : k * 2 < n * 2) (by have := HX.out; omega))
      obtain ⟨v1, c1⟩ := m1.out.cells (k * 2 + 1) (by omega)
      have m2 := Lib.hid (markSt_step m1.out (q := x + 1) (by omega : k * 2 + 1 < n * 2) (by have := HX.out; omega))
      have f0 := HR.out (k * 2)
      have f1 := HR.out (k * 2 + 1)
      go_wp2
      go_roundw
      case rel => exact ⟨k + 1, x + 1 + 1, by omega, by go_num, rfl, by have := HX.out; omega, by have := m2.out; rw [show (k + 1) * 2 = k * 2 + 1 + 1 by omega]; exact this, fun o => by rw [World.frozen?_setCell, World.frozen?_setCell]; exact HR.out o⟩
      case measure => simp [intOf]; omega
    · have hkn : k = n := by omega
      have HK := Lib.hid hkn
      clear hkn
      go_wp2
      go_ret
      exact ⟨ret_int (by have := HX.out; have := HK.out; omega), by have h := HM.out; rw [HK.out] at h; exact h, HR.out⟩
set_option maxHeartbeats 400000 in
theorem heldPowerS_row (g n c : Nat) (q : Int) (w : World) (hn : n ≤ 1000000) (hq0 : 0 ≤ q) (hq1 : q ≤ 1000000)
    (hc : ∀ o : Nat, o < n * 2 → w.cell? ⟨g, o, none⟩ = some (.int .i64 (q + o))) :
    Calls Tryd.prog 27 #[.slice (some ⟨g, 0, none⟩) n c, .int .i64 q] w fun e w' => e = .returned (.int .i64 (q + (n : Int) * 2)) ∧ ∃ m, w' = w.drewN m := by
  have HC := Lib.hid hc
  clear hc
  go_enter Tryd.func27, Tryd.ntmps27
  go_wp2
  go_loopw [5, 1] (fun i m wr => ∃ (k : Nat) (x : Int), k ≤ n ∧ i = .int .i64 k ∧ m = .int .i64 x ∧ x = q + (k : Int) * 2 ∧ ∃ nd, wr = w.drewN nd) (fun i _ _ => n - (intOf i).toNat)
  case atStart => exact ⟨0, q, Nat.zero_le _, rfl, rfl, by omega, 0, rfl⟩
  case round =>
    obtain ⟨k, x, hk, rfl, rfl, hx, nd, rfl⟩ := hrel
    have bx0 : 0 ≤ x := by omega
    have bx1 : x ≤ 4000000 := by omega
    have HX := Lib.hid hx
    clear hx
    by_cases hlt : k < n
    · have c0 := HC.out (k * 2) (by omega)
      have c1 := HC.out (k * 2 + 1) (by omega)
      rw [show q + ((k * 2 : Nat) : Int) = x by have := HX.out; omega] at c0
      rw [show q + ((k * 2 + 1 : Nat) : Int) = x + 1 by have := HX.out; omega] at c1
      go_wp2
      go_roundw
      case rel => exact ⟨k + 1, x + 1 + 1, by omega, by go_num, rfl, by have := HX.out; omega, nd, rfl⟩
      case measure => simp [intOf]; omega
    · have hkn : k = n := by omega
      have HK := Lib.hid hkn
      clear hkn
      go_wp2
      go_ret
      exact ⟨ret_int (by have := HX.out; have := HK.out; omega), nd, rfl⟩
end Go.Proofs.YtghhjeebcpcepaaDoor
