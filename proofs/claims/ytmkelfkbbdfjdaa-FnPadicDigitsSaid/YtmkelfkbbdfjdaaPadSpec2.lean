/- Contracts of the walk: chapter 3's functions in spec: sums, opposites, products and digits. -/
import Derived.Test.YtmkelfkbbdfjdaaPadSpec
import Derived.Test.YtmkelfkbbdfjdaaPadExp2
namespace Go.Proofs.Ytmkelfkbbdfjdaa
open Go.RowKit
set_option linter.unusedVariables false
set_option maxRecDepth 20000
set_option linter.unusedSimpArgs false
def makeT (p v s e : Int) : Int × Int × Int :=
  if s % pw p (e - v) = 0 then (e, 0, 0) else (v + valCount (s % pw p (e - v)) p, valRest (s % pw p (e - v)) p, e - v - valCount (s % pw p (e - v)) p)
set_option maxHeartbeats 400000 in
theorem l03Make_any (p v s e : Int) (w : World) (hp2 : 2 ≤ p) (hp97 : p ≤ 97) (h0 : v ≤ e) (hb0 : -1000 ≤ v) (hb1 : e ≤ 1000) (hle : pw p (e - v) ≤ 1000000000) (hs0 : 0 ≤ s) :
    Calls Try.prog 42 #[.int .i64 p, .int .i64 v, .int .i64 s, .int .i64 e] w fun r w' => r = .returned (.agg (P4 p (makeT p v s e).1 (makeT p v s e).2.1 (makeT p v s e).2.2)) ∧ Below w.heap.size w w' := by
  by_cases he : e = v
  · subst he
    have HE := Lib.hid (show makeT p e s e = (e, 0, 0) by simp [makeT, pw_zero, show e - e = 0 by omega])
    rw [HE.out]
    go_enter Try.func42, Try.ntmps42
    go_wp2_with fail
    refine bodyPost_ret (v := .agg (P4 p e 0 0)) (by simp [results, Try.results42, go_sem]) rfl ?_
    exact ⟨rfl, below_a1 w _⟩
  · have hlt : v < e := by omega
    have h29 := pw_29 hp2 hle
    have hge : p ≤ pw p (e - v) := by have := pw_mono (p := p) hp2 (show 1 ≤ e - v by omega); rw [pw_one] at this; exact this
    have HM := l02Pow_any p (e - v)
    have hw1 := IntWalk.i64_in (e - v) (by omega)
    have HX := show s % pw p (e - v) = s % pw p (e - v) from rfl
    have HT := show makeT p v s e = if s % pw p (e - v) = 0 then (e, 0, 0) else (v + valCount (s % pw p (e - v)) p, valRest (s % pw p (e - v)) p, e - v - valCount (s % pw p (e - v)) p) from rfl
    generalize pw p (e - v) = m at *
    replace HM := Lib.hid fun w => HM w hp2 hp97 (by omega) hle
    have r0 := Int.emod_nonneg s (show m ≠ 0 by omega)
    have r1 := Int.emod_lt_of_pos s (show 0 < m by omega)
    have HN := Lib.hid fun w => l01Mod_any s m w (by omega) hle
    generalize s % m = r at *
    clear HX he
    by_cases hr : r = 0
    · rw [HT, if_pos hr]
      have hr' : (r == 0) = true := by simp [hr]
      clear hr HT
      go_enter Try.func42, Try.ntmps42
      go_wp2_with (first | (go_at_call 40; refine (HM.out _).mono ?_; rintro e wn ⟨rfl, rfl⟩) | (go_at_call 62; refine (HN.out _).mono ?_; rintro e wn ⟨rfl, rfl⟩))
      refine bodyPost_ret (v := .agg (P4 p e 0 0)) (by simp [results, Try.results42, go_sem]) rfl ?_
      exact ⟨rfl, below_a1 w _⟩
    · rw [HT, if_neg hr]
      obtain ⟨_, _, k0, k1⟩ := pad_val hp2 hr (by omega)
      have HV := Lib.hid fun w => l01Val_any r p w hp2 hr (by omega)
      have HS := Lib.hid (vRel_start (p := p) hr (by omega))
      have hr' : (r == 0) = false := by simpa using hr
      have hp4 : ¬ p = 0 := by omega
      have hp5 : (p == 0) = false := by simp; omega
      have hw2 := IntWalk.i64_in (v + valCount r p) (by omega)
      have hw3 := IntWalk.i64_in (e - v - valCount r p) (by omega)
      have HK := Lib.hid (show valCount r p = valCount r p from rfl)
      clear hr HT
      go_enter Try.func42, Try.ntmps42
      go_wp2_with (first | (go_at_call 40; refine (HM.out _).mono ?_; rintro e wn ⟨rfl, rfl⟩) | (go_at_call 62; refine (HN.out _).mono ?_; rintro e wn ⟨rfl, rfl⟩) | (go_at_call 63; refine (HV.out _).mono ?_; rintro e wn ⟨rfl, rfl⟩))
      go_loop [2, 11] (fun a c => ∃ x k : Int, a = .int .i64 x ∧ c = .int .i64 k ∧ VRel r p x k ∧ k ≤ valCount r p) (fun _ c => 100 - (intOf c).toNat)
      case atStart => exact ⟨r, 0, rfl, rfl, HS.out, k0⟩
      case round =>
        obtain ⟨x, k, rfl, rfl, hrel, hk⟩ := hrel
        have b1 := hrel.2.1
        have b2 := hrel.2.2.2.1
        by_cases hlt2 : k < valCount r p
        · have hm0 := (pad_more hp2 hrel).1.2 hlt2
          have H := Lib.hid (vRel_step hp2 hrel hm0)
          clear hrel hm0
          go_wp2
          exact ⟨⟨_, _, rfl, rfl, H.out.1, by omega⟩, by simp only [intOf]; omega⟩
        · have hm0 : ¬ x.tmod p = 0 := fun h => hlt2 ((pad_more hp2 hrel).1.1 h)
          have H := Lib.hid (vRel_end hrel hm0)
          clear hrel hm0
          go_wp2
          refine bodyPost_ret (v := .agg (P4 p (v + valCount r p) x (e - v - valCount r p))) (by simp [results, Try.results42, go_sem]) rfl ?_
          exact ⟨by rw [← H.out.2], below_a1 w _⟩
theorem make_eq {p v u n v' u' n' s : Int} (hs : s % pw p (addE v n v' n' - v) = addR p v u n v' u' n') : makeT p v s (addE v n v' n') = add0 p v u n v' u' n' := by
  unfold makeT add0; rw [hs, Int.sub_sub]
abbrev K4 (w : World) (a b c d : Array Value) (w1 : World) : Prop := K3 w a b c w1 ∧ Lies w1 (w.heap.size + 3) d
theorem lies_fourth {w : World} {o o' o'' : Obj} {vs : Array Value} {T : TypeId} : Lies ((((w.alloc o).alloc o').alloc o'').alloc (.cells vs T)) (w.heap.size + 3) vs := by
  have := lies_new (((w.alloc o).alloc o').alloc o'') vs T; rw [size1, size1, size1] at this; exact this
theorem k4_new (w : World) (a b c d : Array Value) (T T' T'' T3 : TypeId) : K4 w a b c d ((((w.alloc (.cells a T)).alloc (.cells b T')).alloc (.cells c T'')).alloc (.cells d T3)) :=
  ⟨k3_next (k3_new w a b c T T' T'') (below_a1 _ _), lies_fourth⟩
theorem k4_drew {w w1 : World} {a b c d : Array Value} (h : K4 w a b c d w1) : K4 w a b c d w1.drew := ⟨k3_drew h.1, h.2⟩
end Go.Proofs.Ytmkelfkbbdfjdaa
