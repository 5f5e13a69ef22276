/- Contracts of the walk: chapter 6 in spec: products of lists. -/
import Derived.Test.YtidcpmhbkldpeaaPolySpec4
namespace Go.Proofs.Ytidcpmhbkldpeaa
open Go.RowKit
set_option linter.unusedVariables false
set_option linter.unusedSimpArgs false
/-- a coefficient of a product on the way: i rows and k entries of the next one -/
def mulW (f g : List Int) (i k n : Nat) : Int := mulP f g n i + (if i ≤ n ∧ n < i + k then f.getD i 0 * g.getD (n - i) 0 else 0)
theorem mulW_zero (f g : List Int) (i n : Nat) : mulW f g i 0 n = mulP f g n i := by
  unfold mulW; rw [if_neg (by omega), Int.add_zero]
theorem mulW_row {f g : List Int} {i k n : Nat} (h : g.length ≤ k) : mulW f g i k n = mulP f g n (i + 1) := by
  unfold mulW
  show _ = mulP f g n i + (if i ≤ n then f.getD i 0 * g.getD (n - i) 0 else 0)
  congr 1
  by_cases h1 : i ≤ n
  · rw [if_pos h1]
    by_cases h2 : n < i + k
    · rw [if_pos ⟨h1, h2⟩]
    · rw [if_neg (by omega), getD_out (l := g) (by omega), Int.mul_zero]
  · rw [if_neg h1, if_neg (by omega)]
theorem mulW_step {f g : List Int} {i k N m : Nat} {y : Int} (hm : m < N) (hik : i + k = m) (hy : mulP f g m i + f.getD i 0 * g.getD k 0 = y) :
    (tabL N (mulW f g i k)).set m y = tabL N (mulW f g i (k + 1)) := by
  rw [tab_set y hm]
  refine tabL_ext fun j hj => ?_
  by_cases e : j = m
  · rw [if_pos e, ← hy, e]; unfold mulW; rw [if_pos (by omega), show m - i = k by omega]
  · rw [if_neg e]; unfold mulW
    by_cases h2 : i ≤ j ∧ j < i + k
    · rw [if_pos h2, if_pos (by omega)]
    · rw [if_neg h2, if_neg (by omega)]
theorem mulW_at {f g : List Int} {i k m : Nat} (hik : i + k = m) : mulW f g i k m = mulP f g m i := by
  unfold mulW; rw [if_neg (by omega), Int.add_zero]
theorem mul_bd {x y : Int} (hx : -1000000 ≤ x ∧ x ≤ 1000000) (hy : -1000000 ≤ y ∧ y ≤ 1000000) : -1000000000000 ≤ x * y ∧ x * y ≤ 1000000000000 := by
  have p1 : x.natAbs * y.natAbs ≤ 1000000 * 1000000 := Nat.mul_le_mul (by omega) (by omega)
  rw [← Int.natAbs_mul] at p1; omega
theorem mulP_bd {f g : List Int} (hf : ∀ i, -1000000 ≤ f.getD i 0 ∧ f.getD i 0 ≤ 1000000) (hg : ∀ i, -1000000 ≤ g.getD i 0 ∧ g.getD i 0 ≤ 1000000) (n : Nat) : ∀ i : Nat, -(1000000000000 * (i : Int)) ≤ mulP f g n i ∧ mulP f g n i ≤ 1000000000000 * (i : Int)
  | 0 => by simp [mulP]
  | i + 1 => by
    obtain ⟨a, b⟩ := mulP_bd hf hg n i
    have hm := mul_bd (hf i) (hg (n - i))
    unfold mulP
    generalize f.getD i 0 * g.getD (n - i) 0 = t at *
    generalize mulP f g n i = s at *
    push_cast
    split <;> omega
set_option maxRecDepth 20000
set_option maxHeartbeats 2000000 in
theorem l06Mul_any {o o' : Option Addr} {n n' c c' : Nat} {f g : List Int} {w : World} (h : Seen w o n c f) (h' : Seen w o' n' c' g) (hp : polyB f = true) (hq : polyB g = true) :
    Calls Try.prog 63 #[.slice o n c, .slice o' n' c'] w (OwnPost (trimL (mulL f g)) w) := by
  obtain ⟨hl, hn, hno, hnc, a, h1, h2⟩ := h
  obtain ⟨hl', hn', hno', hnc', a', h1', h2'⟩ := h'
  obtain ⟨i0, hi, hz0, hz1, hz2⟩ := info_parts Try.infoInt64
  have HI := Lib.hid hi
  have HZ0 := Lib.hid hz0
  have HZ1 := Lib.hid hz1
  have HZ2 := Lib.hid hz2
  have HF := Lib.hid h1
  have HC := Lib.hid h2
  have HF' := Lib.hid h1'
  have HC' := Lib.hid h2'
  have HL := Lib.hid (And.intro hl hl')
  have h9 : n ≤ 9 := by have := (polyB_of hp).1; omega
  have h9' : n' ≤ 9 := by have := (polyB_of hq).1; omega
  have BF := Lib.hid (polyB_of hp).2.1
  have BG := Lib.hid (polyB_of hq).2.1
  clear hi hz0 hz1 hz2 h1 h2 hl hno hnc h1' h2' hl' hno' hnc' hp hq hn hn'
  by_cases h0 : n = 0
  · have e : trimL (mulL f g) = [] := by
      have : mulL f g = [] := if_pos (.inl (by rw [← HL.out.1]; exact h0))
      rw [this]; rfl
    rw [e]
    subst h0
    have HR := Lib.hid (intRow_made w)
    go_enter Try.func63, Try.ntmps63
    go_wp2
    go_ret
    exact ⟨_, rfl, HR.out, (Below.refl _ _).alloc (Nat.le_refl _) _⟩
  · by_cases h0' : n' = 0
    · have e : trimL (mulL f g) = [] := by
        have : mulL f g = [] := if_pos (.inr (by rw [← HL.out.2]; exact h0'))
        rw [this]; rfl
      rw [e]
      subst h0'
      have hz : ((n : Int) == 0) = false := by simp; omega
      have HR := Lib.hid (intRow_made w)
      go_enter Try.func63, Try.ntmps63
      go_wp2
      go_ret
      exact ⟨_, rfl, HR.out, (Below.refl _ _).alloc (Nat.le_refl _) _⟩
    · obtain ⟨rfl, hag⟩ := HF.out (by omega)
      obtain ⟨rfl, hag'⟩ := HF'.out (by omega)
      have hz : ((n : Int) == 0) = false := by simp; omega
      have hz' : ((n' : Int) == 0) = false := by simp; omega
      obtain ⟨N, hN⟩ : ∃ N, n + n' - 1 = N := ⟨_, rfl⟩
      have hN1 : (n : Int) + (n' : Int) - 1 = (N : Int) := by omega
      have HN := Lib.hid hN
      have hN17 : N ≤ 17 := by omega
      clear hN
      go_enter Try.func63, Try.ntmps63
      go_wp2_with (at_make; refine wpList_make_full _ rfl (.tmp 22) (.tmp 22) 22 rfl w.heap.size 2 i0 (.int .i64 0) 1 Try.underlying22 HI.out HZ0.out HZ1.out .i64 .i64 _ _ N rfl rfl rfl rfl (by rw [HZ2.out]; omega) (by unfold maxLen; omega) (Nat.le_refl _) ?_)
      intro w2 hown hgrow
      have HR := Lib.hid (int_made (by rw [Nat.mul_one]; exact hown))
      have HB2 := Lib.hid ((Below.refl w.heap.size w).grown hgrow (Nat.le_refl _) (fun k h => by cases h))
      clear hown hgrow hN1
      go_wp2
      go_loopw [6] (fun s wr => ∃ i : Nat, i ≤ n ∧ s = .int .i64 i ∧ IntRow w.heap.size wr (.slice (some ⟨w.heap.size, 0, none⟩) N N) (tabL N (mulW f g i 0)) ∧ Below w.heap.size w wr) (fun s _ => n - (intOf s).toNat)
      case atStart => exact ⟨0, Nat.zero_le _, rfl, by rw [tabL_ext (g := fun _ => 0) (fun i _ => mulW_zero f g 0 i)]; exact HR.out, HB2.out⟩
      case round =>
        obtain ⟨i, hi, rfl, hrow, hb⟩ := hrel
        have HW := Lib.hid hrow
        have HB := Lib.hid hb
        clear hrow hb HR HB2
        by_cases hlt : i < n
        · go_wp2
          go_loopw [7] (fun s wr => ∃ k : Nat, k ≤ n' ∧ s = .int .i64 k ∧ IntRow w.heap.size wr (.slice (some ⟨w.heap.size, 0, none⟩) N N) (tabL N (mulW f g i k)) ∧ Below w.heap.size w wr) (fun s _ => n' - (intOf s).toNat)
          case atStart => exact ⟨0, Nat.zero_le _, rfl, HW.out, HB.out⟩
          case round =>
            obtain ⟨k, hk, rfl, hrow, hb⟩ := hrel
            have HW2 := Lib.hid hrow
            have HB2 := Lib.hid hb
            clear hrow hb HW HB
            by_cases hltk : k < n'
            · obtain ⟨m, hm⟩ : ∃ m, i + k = m := ⟨_, rfl⟩
              have hmN : m < N := by have := HN.out; omega
              have hik : (i : Int) + (k : Int) = (m : Int) := by omega
              have hwm : IntKind.i64.wrap (m : Int) = (m : Int) := IntWalk.i64_in _ (by omega)
              have a2 := HC.out i hlt
              rw [← HB2.out.cell (p := ⟨a, i, none⟩) hag] at a2
              have b2 := HC'.out k hltk
              rw [← HB2.out.cell (p := ⟨a', k, none⟩) hag'] at b2
              have hsl : (tabL N (mulW f g i k)).length = N := tabL_length _ _
              have c4 := int_at HW2.out hsl hmN
              rw [tabL_getD hmN, mulW_at hm] at c4
              have f4 := int_frozen HW2.out hsl m
              have HE := Lib.hid (mulW_step (f := f) (g := g) hmN hm rfl)
              have bp := mulP_bd BF.out BG.out m i
              have bt := mul_bd (BF.out i) (BG.out k)
              obtain ⟨x, hx⟩ : ∃ x, f.getD i 0 = x := ⟨_, rfl⟩
              obtain ⟨z, hzz⟩ : ∃ x, g.getD k 0 = x := ⟨_, rfl⟩
              obtain ⟨s, hs⟩ : ∃ x, mulP f g m i = x := ⟨_, rfl⟩
              rw [hx, hzz, hs] at HE
              rw [hx, hzz] at bt
              rw [hx] at a2
              rw [hzz] at b2
              rw [hs] at c4 bp
              have w1 : IntKind.i64.wrap (x * z) = x * z := IntWalk.i64_in _ (by omega)
              have w2 : IntKind.i64.wrap (s + x * z) = s + x * z := IntWalk.i64_in _ (by omega)
              have HM := Lib.hid hm
              clear hx hzz hs bp bt hm
              go_upto_region 10 with fail
              refine wp_region_still_tail 21 (by kernel_rfl) (by kernel_rfl) ?_
              simp only [List.take_succ_cons, List.take_zero, List.drop_succ_cons, List.drop_zero]
              repeat still_step
              refine wpStill_nil ?_
              change wpList _ _ _ _ _ wr.drew
              have R2 : Hid (IntRow w.heap.size wr.drew (.slice (some ⟨w.heap.size, 0, none⟩) N N) (tabL N (mulW f g i k))) := Lib.hid HW2.out
              have B2 := Lib.hid (below_drewN HB2.out 1)
              replace c4 : wr.drew.cell? ⟨w.heap.size, m, none⟩ = _ := c4
              replace f4 : wr.drew.frozen? ⟨w.heap.size, m, none⟩ = _ := f4
              change Hid (Below w.heap.size w wr.drew) at B2
              clear HW2 HB2 a2 b2
              generalize wr.drew = W2 at R2 B2 c4 f4 ⊢
              have R3 := Lib.hid (int_stored R2.out hsl m (s + x * z))
              rw [HE.out] at R3
              have B3 := Lib.hid (B2.out.setCell (p := ⟨w.heap.size, m, none⟩) (Nat.le_refl _) (.int .i64 (s + x * z)))
              clear hsl
              go_wp2
              exact ⟨⟨k + 1, by omega, by go_num, R3.out, B3.out⟩, by simp only [intOf]; omega⟩
            · have hkN : tabL N (mulW f g i k) = tabL N (mulW f g (i + 1) 0) := tabL_ext fun j _ => by rw [mulW_row (by have := HL.out.2; omega), mulW_zero]
              have R1 := Lib.hid (show IntRow w.heap.size wr (.slice (some ⟨w.heap.size, 0, none⟩) N N) (tabL N (mulW f g (i + 1) 0)) by rw [← hkN]; exact HW2.out)
              clear hkN
              go_wp2
              exact ⟨⟨i + 1, by omega, by go_num, R1.out, HB2.out⟩, by simp only [intOf]; omega⟩
        · have hkN : tabL N (mulW f g i 0) = mulL f g := by
            unfold mulL
            have := HL.out.1
            have := HL.out.2
            rw [if_neg (by omega), show f.length + g.length - 1 = N by have := HN.out; omega]
            exact tabL_ext fun j _ => by rw [mulW_zero, show i = f.length by omega]
          have hr := HW.out
          rw [hkN] at hr
          obtain ⟨o2, c2, e2, HS2⟩ := seen_row hr (by rw [← hkN, tabL_length]; omega)
          have HB2 := HB.out
          have hle : (mulL f g).length = N := by rw [← hkN, tabL_length]
          rw [hle] at e2 HS2
          injection e2 with e3 _ e4
          subst e3 e4
          clear hkN hr hle
          go_wp2_with (go_at_call 84; refine (specTrim_any HS2).mono ?_; rintro e w3 ⟨v, rfl, hr3, hb3⟩)
          go_ret
          exact ⟨_, rfl, intRow_lower hr3 HB2.size, HB2.trans (hb3.mono HB2.size)⟩
theorem mulL_le (f g : List Int) : (mulL f g).length ≤ f.length + g.length := by
  unfold mulL; split
  · simp
  · rw [tabL_length]; omega
end Go.Proofs.Ytidcpmhbkldpeaa
