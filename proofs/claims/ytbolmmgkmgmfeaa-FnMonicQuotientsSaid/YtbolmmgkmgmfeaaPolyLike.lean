/- Contract of the walk: likeInts of the laws' package answers true at two rows of one list. -/
import Derived.Test.YtbolmmgkmgmfeaaPolyLaw0
namespace Go.Proofs.Ytbolmmgkmgmfeaa
open Go.RowKit
set_option linter.unusedVariables false
theorem likeInts_nil (o1 o2 : Option Addr) (c1 c2 : Nat) (w : World) :
    Calls Try.prog 24 #[.slice o1 0 c1, .slice o2 0 c2] w fun e w' => e = .returned (.bool true) ∧ w = w' := by
  go_enter Try.func24, Try.ntmps24
  go_wp2
  refine wp_loop_rounds 1 ?_
  rw [rounds_succ]
  go_wp2
  go_ret
  exact ⟨rfl, rfl⟩
set_option maxHeartbeats 400000 in
theorem likeInts_row (g1 g2 n c1 c2 : Nat) (l : List Int) (w : World) (hn : n ≤ 1100000)
    (hc1 : ∀ k, k < n → w.cell? ⟨g1, k, none⟩ = some (.int .i64 (l.getD k 0)))
    (hc2 : ∀ k, k < n → w.cell? ⟨g2, k, none⟩ = some (.int .i64 (l.getD k 0))) :
    Calls Try.prog 24 #[.slice (some ⟨g1, 0, none⟩) n c1, .slice (some ⟨g2, 0, none⟩) n c2] w fun e w' => e = .returned (.bool true) ∧ ∃ m, w' = w.drewN m := by
  have HC1 := Lib.hid hc1
  have HC2 := Lib.hid hc2
  clear hc1 hc2
  go_enter Try.func24, Try.ntmps24
  go_wp2
  go_loopw [5] (fun i wr => ∃ k : Nat, k ≤ n ∧ i = .int .i64 k ∧ ∃ nd, wr = w.drewN nd) (fun i _ => n - (intOf i).toNat)
  case atStart => exact ⟨0, Nat.zero_le _, rfl, 0, rfl⟩
  case round =>
    obtain ⟨k, hk, rfl, nd, rfl⟩ := hrel
    by_cases hlt : k < n
    · have a1 := HC1.out k hlt
      have b1 := HC2.out k hlt
      obtain ⟨x1, e1⟩ : ∃ x, l.getD k 0 = x := ⟨_, rfl⟩
      rw [e1] at a1 b1
      clear e1
      go_wp2
      go_quiet (fail)
      go_wp2
      go_roundw
      case rel => exact ⟨k + 1, by omega, by go_num, nd + nq, by first | rfl | rw [World.drewN_drewN]⟩
      case measure => simp [intOf]; omega
    · go_wp2
      go_ret
      exact ⟨rfl, nd, rfl⟩
theorem likeInts_same {b1 b2 : Nat} {w : World} {v1 v2 : Value} {l : List Int} (h1 : IntRow b1 w v1 l) (h2 : IntRow b2 w v2 l) (hl : l.length ≤ 1100000) :
    Calls Try.prog 24 #[v1, v2] w fun e w' => e = .returned (.bool true) ∧ ∃ m, w' = w.drewN m := by
  rcases row_shape h1 with ⟨h0, o, c, rfl⟩ | ⟨h0, g, c, rfl, hb, hg⟩
  · rcases row_shape h2 with ⟨_, o', c', rfl⟩ | ⟨h0', _⟩
    · exact (likeInts_nil o o' c c' w).mono fun e w' ⟨he, hw⟩ => ⟨he, 0, hw.symm⟩
    · omega
  · rcases row_shape h2 with ⟨h0', _⟩ | ⟨_, g', c', rfl, hb', hg'⟩
    · omega
    · exact likeInts_row g g' l.length c c' l w hl (int_cells h1) (int_cells h2)
end Go.Proofs.Ytbolmmgkmgmfeaa
