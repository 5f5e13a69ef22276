/- Contracts of the walk: chapter 6 in spec: derivatives, lists turned round. -/
import Derived.Test.YtbjkcoajabcibaaPolySpec2
namespace Go.Proofs.Ytbjkcoajabcibaa
open Go.RowKit
set_option linter.unusedVariables false
set_option maxRecDepth 20000
set_option linter.unusedSimpArgs false
theorem intRow_lower {b b' : Nat} {w : World} {v : Value} {l : List Int} (h : IntRow b' w v l) (hle : b ≤ b') : IntRow b w v l :=
  ⟨h.1, h.2.imp id fun ⟨g, cap, cur, e, hb, rest⟩ => ⟨g, cap, cur, e, Nat.le_trans hle hb, rest⟩⟩
theorem tabL_succ (k : Nat) (f : Nat → Int) : tabL (k + 1) f = tabL k f ++ [f k] := by simp [tabL, List.range_succ]
theorem tabL_ext {n : Nat} {f g : Nat → Int} (h : ∀ i, i < n → f i = g i) : tabL n f = tabL n g :=
  ext_getD (by rw [tabL_length, tabL_length]) fun i hi => by rw [tabL_length] at hi; rw [tabL_getD hi, tabL_getD hi, h i hi]
set_option maxHeartbeats 1000000 in
theorem l06Der_any {o : Option Addr} {n c : Nat} {l : List Int} {w : World} (h : Seen w o n c l) (hp : polyB l = true) :
    Calls Try.prog 85 #[.slice o n c] w (OwnPost (derL l) w) := by
  obtain ⟨hl, hn, hno, hnc, g, h1, h2⟩ := h
  obtain ⟨i0, hi, hz0, hz1, hz2⟩ := info_parts Try.infoInt64
  have HI := Lib.hid hi
  have HZ0 := Lib.hid hz0
  have HZ1 := Lib.hid hz1
  have HZ2 := Lib.hid hz2
  have HO := Lib.hid fun h => (h1 h).1
  have HG := Lib.hid fun h => (h1 h).2
  have HL := Lib.hid hl
  have HC := Lib.hid h2
  have hl9 : n ≤ 9 := by have := (polyB_of hp).1; omega
  have hB := Lib.hid (polyB_of hp).2.1
  clear hi hz0 hz1 hz2 h1 h2 hl hno hnc hp
  go_enter Try.func85, Try.ntmps85
  go_wp2
  go_loopw [3, 4] (fun v d wr => ∃ (k x : Nat), d = .int .i64 (x : Int) ∧ x = k + 1 ∧ k ≤ n - 1 ∧ IntRow w.heap.size wr v (tabL k fun i => ((i : Int) + 1) * l.getD (i + 1) 0) ∧ Below w.heap.size w wr) (fun _ d _ => n + 1 - (intOf d).toNat)
  case atStart => exact ⟨0, 1, rfl, rfl, Nat.zero_le _, intRow_made _, (Below.refl _ _).alloc (Nat.le_refl _) _⟩
  case round =>
    obtain ⟨k, x, rfl, hx, hk, hrow, hb⟩ := hrel
    have bl : (tabL k fun i => ((i : Int) + 1) * l.getD (i + 1) 0).length ≤ 1000000 := by rw [tabL_length]; omega
    have bs := hb.size
    have HW := Lib.hid hrow
    have HB := Lib.hid hb
    clear hrow hb
    by_cases hlt : x < n
    · have hog := HO.out (by omega)
      subst hog
      have a2 := HC.out x hlt
      rw [← HB.out.cell (p := ⟨g, x, none⟩) (HG.out (by omega))] at a2
      obtain ⟨z0, z1⟩ := hB.out x
      have HS := Lib.hid (show (tabL (k + 1) fun i => ((i : Int) + 1) * l.getD (i + 1) 0) = (tabL k fun i => ((i : Int) + 1) * l.getD (i + 1) 0) ++ [(x : Int) * l.getD x 0] by
        rw [tabL_succ, hx, show ((k + 1 : Nat) : Int) = (k : Int) + 1 by push_cast; rfl])
      generalize l.getD x 0 = z at *
      generalize (tabL k fun i => ((i : Int) + 1) * l.getD (i + 1) 0) = acc at *
      have m1 : -10000000 ≤ (x : Int) * z ∧ (x : Int) * z ≤ 10000000 := by
        have hk8 : x ≤ 9 := by omega
        clear hx
        rcases (by omega : x = 0 ∨ x = 1 ∨ x = 2 ∨ x = 3 ∨ x = 4 ∨ x = 5 ∨ x = 6 ∨ x = 7 ∨ x = 8 ∨ x = 9) with rfl | rfl | rfl | rfl | rfl | rfl | rfl | rfl | rfl | rfl <;> omega
      have hw1 : IntKind.i64.wrap ((x : Int) * z) = (x : Int) * z := IntWalk.i64_in _ (by omega)
      have HX := Lib.hid hx
      clear m1 hx
      go_wp2_with (at_builtin; refine wpList_append_own _ rfl (.tmp 12) (.tmp 19) 26 rfl w.heap.size 2 i0 (.int .i64 0) 1 8 Try.underlying26 HI.out HZ0.out HZ1.out HZ2.out rfl (by decide) _ _ _ rfl (HW.out.alloc _) ⟨wr.heap.size, 0, none⟩ 1 1 [.int .i64 ((x : Int) * z)] rfl rfl ?c1 ?c2 ?c3 ?c4 ?c5 ?_)
      try (case c1 => first | exact news_one _ _ _ | simp [Addr.add])
      try (case c2 => first | exact one_one _ | rfl)
      case c3 => unfold maxLen; omega
      case c4 => omega
      case c5 => first | omega | (simp; omega)
      intro v' w1 hown hgrow _
      have HO2 := Lib.hid (intRow_snoc hown)
      have HG2 := Lib.hid (below_appendI HB.out HW.out hgrow)
      clear hown hgrow
      go_wp2
      go_roundw
      case rel => exact ⟨k + 1, x + 1, by first | rfl | go_num, by have := HX.out; omega, by have := HX.out; omega, by rw [HS.out]; exact HO2.out, HG2.out⟩
      case measure => simp [intOf]; omega
    · have hkn : (tabL k fun i => ((i : Int) + 1) * l.getD (i + 1) 0) = derL l := by unfold derL; rw [← HL.out, show k = n - 1 by omega]
      have HK := Lib.hid hkn
      clear hkn
      go_wp2
      go_ret
      rw [← HK.out]
      exact ⟨_, rfl, HW.out, HB.out⟩
end Go.Proofs.Ytbjkcoajabcibaa
