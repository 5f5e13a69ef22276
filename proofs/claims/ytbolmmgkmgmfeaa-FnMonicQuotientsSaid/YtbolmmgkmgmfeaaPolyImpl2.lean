/- Contracts of the walk: chapter 6 in impl: sums, products, derivatives, lists turned round, contents. -/
import Derived.Test.YtbolmmgkmgmfeaaPolyImpl
import Derived.Deep.WholeRow
namespace Go.Proofs.Ytbolmmgkmgmfeaa
open Go.RowKit
set_option linter.unusedVariables false
set_option linter.unusedSimpArgs false
/-- sum on the way: k entries of the second list are added -/
def addW (f g : List Int) (k : Nat) : List Int := tabL 9 fun i => f.getD i 0 + (if i < k then g.getD i 0 else 0)
theorem addW_zero (f g : List Int) : addW f g 0 = padL f := tabL_ext fun i _ => by rw [if_neg (by omega), Int.add_zero]
theorem addW_length (f g : List Int) (k : Nat) : (addW f g k).length = 9 := tabL_length _ _
theorem addW_at {f g : List Int} {k : Nat} (hk : k < 9) : (addW f g k).getD k 0 = f.getD k 0 := by
  unfold addW; rw [tabL_getD hk, if_neg (Nat.lt_irrefl _), Int.add_zero]
theorem addW_step {f g : List Int} {k : Nat} (hk : k < 9) : (addW f g k).set k (f.getD k 0 + g.getD k 0) = addW f g (k + 1) := by
  unfold addW
  rw [tab_set _ hk]
  refine tabL_ext fun i hi => ?_
  by_cases e : i = k
  · subst e; rw [if_pos rfl, if_pos (by omega)]
  · rw [if_neg e]
    by_cases h2 : i < k
    · rw [if_pos h2, if_pos (by omega)]
    · rw [if_neg h2, if_neg (by omega)]
theorem addW_end {f g : List Int} (hf : f.length ≤ 9) (hg : g.length ≤ 9) : trimL (addW f g g.length) = trimL (addL f g 1) := by
  rw [← add_pad hf hg]
  refine congrArg trimL (tabL_ext fun i _ => ?_)
  by_cases h : i < g.length
  · rw [if_pos h]
  · rw [if_neg h, getD_out (l := g) (by omega)]
theorem store_new (W : World) {F : List Int} (h : F.length = 9) :
    (storeCells ⟨W.heap.size, 0, none⟩ (arrV F).toList 0).run Try.prog (W.alloc (.cells #[.int .i64 0, .int .i64 0, .int .i64 0, .int .i64 0, .int .i64 0, .int .i64 0, .int .i64 0, .int .i64 0, .int .i64 0] 69)) = .ok () (W.alloc (.cells (arrV F) 69)) :=
  run_storeCells_new W 69 _ (arrV F) (by rw [arrV_size, h]; exact Try.infoCo) (by rw [arrV_size, h]; rfl) (arrV_one F)
set_option maxHeartbeats 1000000 in
theorem implAddP_any {o o' : Option Addr} {n n' c c' : Nat} {f g : List Int} {w : World} (h : Seen w o n c f) (h' : Seen w o' n' c' g) :
    Calls Try.prog 26 #[.slice o n c, .slice o' n' c'] w (IntPost (if twoP f g then resL (addL f g 1) else []) (if twoP f g then resC (addL f g 1) else 1) w) := by
  have HS := Lib.hid h
  have HS' := Lib.hid h'
  cases hp : polyB f
  · rw [show twoP f g = false by simp [twoP, hp]]
    clear h h'
    go_enter Try.func26, Try.ntmps26
    go_wp2_with fail
    refine (implIsPoly_any HS.out).mono ?_
    rw [hp]
    rintro e w2 ⟨rfl, rfl⟩
    go_wp2_with fail
    go_ret2
    exact ⟨_, rfl, intRow_nil _ _, Below.refl _ _⟩
  · cases hq : polyB g
    · rw [show twoP f g = false by simp [twoP, hq]]
      clear h h'
      go_enter Try.func26, Try.ntmps26
      go_wp2_with fail
      refine (implIsPoly_any HS.out).mono ?_
      rw [hp]
      rintro e w2 ⟨rfl, rfl⟩
      go_wp2_with fail
      refine (implIsPoly_any HS'.out).mono ?_
      rw [hq]
      rintro e w2 ⟨rfl, rfl⟩
      go_wp2_with fail
      go_ret2
      exact ⟨_, rfl, intRow_nil _ _, Below.refl _ _⟩
    · rw [show twoP f g = true by simp [twoP, hp, hq]]
      obtain ⟨hf9, hfb, _⟩ := polyB_of hp
      obtain ⟨hg9, hgb, _⟩ := polyB_of hq
      have hn9 : n ≤ 9 := by rw [h.1]; exact hf9
      have hn9' : n' ≤ 9 := by rw [h'.1]; exact hg9
      have HFB := Lib.hid hfb
      have HGB := Lib.hid hgb
      have HE := Lib.hid (res_same (addW_end hf9 hg9))
      have HL' := Lib.hid h'.1
      rw [if_pos rfl, if_pos rfl, ← HE.out.1, ← HE.out.2]
      clear h h' hfb hgb hf9 hg9
      go_enter Try.func26, Try.ntmps26
      go_wp2_with fail
      refine (implIsPoly_any HS.out).mono ?_
      rw [hp]
      rintro e w2 ⟨rfl, rfl⟩
      go_wp2_with fail
      refine (implIsPoly_any HS'.out).mono ?_
      rw [hq]
      rintro e w2 ⟨rfl, rfl⟩
      go_wp2_with fail
      refine (coefOf_any HS.out hn9).mono ?_
      rintro e W1 ⟨rfl, hb1⟩
      have hst := store_new W1 (padL_length f)
      go_upto_region 4 with fail
      have hN := nine_new W1 (padL f) 69 (padL_length f)
      have hB : Below w.heap.size w (W1.alloc (.cells (arrV (padL f)) 69)) := hb1.alloc hb1.size _
      have hsz := hb1.size
      generalize W1.alloc (.cells (arrV (padL f)) 69) = W2 at hN hB ⊢
      generalize W1.heap.size = B at hN hsz ⊢
      have HN := Lib.hid hN
      have HB := Lib.hid hB
      clear hst hN hB hb1
      go_wp2_with fail
      go_loopw [21] (fun i wr => ∃ k : Nat, k ≤ n' ∧ i = .int .i64 k ∧ Nine wr B (addW f g k) ∧ Below w.heap.size w wr) (fun i _ => n' - (intOf i).toNat)
      case atStart => exact ⟨0, Nat.zero_le _, rfl, by rw [addW_zero]; exact HN.out, HB.out⟩
      case round =>
        obtain ⟨k, hk, rfl, hrow, hb⟩ := hrel
        have HW := Lib.hid hrow
        have HBr := Lib.hid hb
        clear hrow hb
        by_cases hlt : k < n'
        · obtain ⟨hl', hn', hno', hnc', a', h1', h2'⟩ := HS'.out
          obtain ⟨rfl, hag'⟩ := h1' (by omega)
          have b2 := h2' k hlt
          rw [← HBr.out.cell (p := ⟨a', k, none⟩) hag'] at b2
          have hk9 : k < 9 := by omega
          have c3 := nine_at HW.out hk9
          have f3 := nine_frozen HW.out hk9
          rw [addW_at hk9] at c3
          have hs := nine_set HW.out hk9 (f.getD k 0 + g.getD k 0)
          rw [addW_step hk9] at hs
          obtain ⟨x0, x1⟩ := HFB.out k
          obtain ⟨y0, y1⟩ := HGB.out k
          have HS2 := Lib.hid hs
          have HB2 := Lib.hid (HBr.out.setCell (p := ⟨B, k, none⟩) hsz (.int .i64 (f.getD k 0 + g.getD k 0)))
          clear hs hl' hn' hno' h1' h2'
          generalize f.getD k 0 = x at *
          generalize g.getD k 0 = y at *
          have w1 : IntKind.i64.wrap (x + y) = x + y := IntWalk.i64_in _ (by omega)
          go_wp2_with fail
          exact ⟨⟨k + 1, by omega, by go_num, HS2.out, HB2.out⟩, by simp only [intOf]; omega⟩
        · have hkn : k = g.length := by have := HL'.out; omega
          subst hkn
          go_upto_region 9 with fail
          refine wp_region_lit ?_
          refine wpList_load_nine rfl (.tmp 6) rfl B rfl HW.out ?_
          go_wp2_with fail
          refine (asResult_any (addW_length f g _) _).mono ?_
          rintro e w3 ⟨v, rfl, hr3, hb3⟩
          go_wp2_with fail
          go_ret2
          exact ⟨_, rfl, intRow_lower hr3 HBr.out.size, HBr.out.trans (hb3.mono HBr.out.size)⟩
/-- a block of zeros -/
theorem zero_new (W : World) : Nine (W.alloc (.cells #[.int .i64 0, .int .i64 0, .int .i64 0, .int .i64 0, .int .i64 0, .int .i64 0, .int .i64 0, .int .i64 0, .int .i64 0] 69)) W.heap.size (tabL 9 fun _ => 0) :=
  nine_new W (tabL 9 fun _ => 0) 69 (tabL_length _ _)
def derW (f : List Int) (k : Nat) : List Int := tabL 9 fun j => if j + 1 < k then ((j : Int) + 1) * f.getD (j + 1) 0 else 0
theorem derW_one (f : List Int) : derW f 1 = tabL 9 fun _ => 0 := tabL_ext fun i _ => by rw [if_neg (by omega)]
theorem derW_step {f : List Int} {k m : Nat} (hk : k < 9) (hm : m + 1 = k) : (derW f k).set m ((k : Int) * f.getD k 0) = derW f (k + 1) := by
  unfold derW
  rw [tab_set _ (by omega)]
  refine tabL_ext fun i hi => ?_
  by_cases e : i = m
  · subst e; rw [if_pos rfl, if_pos (by omega), ← hm]; push_cast; rfl
  · rw [if_neg e]
    by_cases h2 : i + 1 < k
    · rw [if_pos h2, if_pos (by omega)]
    · rw [if_neg h2, if_neg (by omega)]
theorem derW_end {f : List Int} {k : Nat} (hf : f.length ≤ 9) (hk : k = f.length ∨ k = 1 ∧ f.length = 0) : trimL (derW f k) = trimL (derL f) := by
  rw [← der_pad hf]
  refine congrArg trimL (tabL_ext fun i _ => ?_)
  rcases hk with rfl | ⟨rfl, h⟩
  · rfl
  · rw [if_neg (by omega), if_neg (by omega)]
def revW (f : List Int) (k : Nat) : List Int := tabL 9 fun j => if f.length ≤ j + k ∧ j < f.length then f.getD (f.length - 1 - j) 0 else 0
theorem revW_zero (f : List Int) : revW f 0 = tabL 9 fun _ => 0 := tabL_ext fun i _ => by rw [if_neg (by omega)]
theorem revW_step {f : List Int} {k m : Nat} (hf : f.length ≤ 9) (hm : m + k + 1 = f.length) : (revW f k).set m (f.getD k 0) = revW f (k + 1) := by
  unfold revW
  rw [tab_set _ (by omega)]
  refine tabL_ext fun i hi => ?_
  by_cases e : i = m
  · subst e; rw [if_pos rfl, if_pos (by omega), show f.length - 1 - i = k by omega]
  · rw [if_neg e]
    by_cases h2 : f.length ≤ i + k ∧ i < f.length
    · rw [if_pos h2, if_pos (by omega)]
    · rw [if_neg h2, if_neg (by omega)]
theorem revW_end {f : List Int} (hf : f.length ≤ 9) : trimL (revW f f.length) = trimL (revL f) := by
  rw [← rev_pad hf]
  refine congrArg trimL (tabL_ext fun i _ => ?_)
  by_cases h : i < f.length
  · rw [if_pos ⟨by omega, h⟩, if_pos h]
  · rw [if_neg (by omega), if_neg h]
set_option maxHeartbeats 2000000 in
theorem implMulP_any {o o' : Option Addr} {n n' c c' : Nat} {f g : List Int} {w : World} (h : Seen w o n c f) (h' : Seen w o' n' c' g) :
    Calls Try.prog 25 #[.slice o n c, .slice o' n' c'] w (IntPost (if twoP f g then resL (mulL f g) else []) (if twoP f g then resC (mulL f g) else 1) w) := by
  have HS := Lib.hid h
  have HS' := Lib.hid h'
  cases hp : polyB f
  · rw [show twoP f g = false by simp [twoP, hp]]
    clear h h'
    go_enter Try.func25, Try.ntmps25
    go_wp2_with fail
    refine (implIsPoly_any HS.out).mono ?_
    rw [hp]
    rintro e w2 ⟨rfl, rfl⟩
    go_wp2_with fail
    go_ret2
    exact ⟨_, rfl, intRow_nil _ _, Below.refl _ _⟩
  · cases hq : polyB g
    · rw [show twoP f g = false by simp [twoP, hq]]
      clear h h'
      go_enter Try.func25, Try.ntmps25
      go_wp2_with fail
      refine (implIsPoly_any HS.out).mono ?_
      rw [hp]
      rintro e w2 ⟨rfl, rfl⟩
      go_wp2_with fail
      refine (implIsPoly_any HS'.out).mono ?_
      rw [hq]
      rintro e w2 ⟨rfl, rfl⟩
      go_wp2_with fail
      go_ret2
      exact ⟨_, rfl, intRow_nil _ _, Below.refl _ _⟩
    · rw [show twoP f g = true by simp [twoP, hp, hq]]
      obtain ⟨hf9, hfb, _⟩ := polyB_of hp
      obtain ⟨hg9, hgb, _⟩ := polyB_of hq
      have hn9 : n ≤ 9 := by rw [h.1]; exact hf9
      have hn9' : n' ≤ 9 := by rw [h'.1]; exact hg9
      have HFB := Lib.hid hfb
      have HGB := Lib.hid hgb
      have hl1 := h.1
      have hl2 := h'.1
      rw [if_pos rfl, if_pos rfl]
      by_cases hs : n + n' ≤ 10
      · have HE := Lib.hid (res_same (mul_pad (f := f) (g := g) (by omega)))
        have HL := Lib.hid hl1
        have HL' := Lib.hid hl2
        rw [← HE.out.1, ← HE.out.2]
        clear h h' hfb hgb hf9 hg9 hl1 hl2
        have hN := zero_new w
        have hB : Below w.heap.size w (w.alloc (.cells #[.int .i64 0, .int .i64 0, .int .i64 0, .int .i64 0, .int .i64 0, .int .i64 0, .int .i64 0, .int .i64 0, .int .i64 0] 69)) := (Below.refl _ _).alloc (Nat.le_refl _) _
        have HN := Lib.hid hN
        have HB := Lib.hid hB
        have hs2 : (n : Int) + (n' : Int) ≤ 10 := by omega
        clear hN hB
        go_enter Try.func25, Try.ntmps25
        go_wp2_with fail
        refine (implIsPoly_any HS.out).mono ?_
        rw [hp]
        rintro e w2 ⟨rfl, rfl⟩
        go_wp2_with fail
        refine (implIsPoly_any HS'.out).mono ?_
        rw [hq]
        rintro e w2 ⟨rfl, rfl⟩
        go_upto_region 6 with fail
        generalize w.alloc (.cells #[.int .i64 0, .int .i64 0, .int .i64 0, .int .i64 0, .int .i64 0, .int .i64 0, .int .i64 0, .int .i64 0, .int .i64 0] 69) = W2 at HN HB ⊢
        obtain ⟨B, hBe⟩ : ∃ B, w.heap.size = B := ⟨_, rfl⟩
        have hsz : w.heap.size ≤ B := by omega
        rw [hBe] at HN ⊢
        clear hBe
        go_wp2_with fail
        go_loopw [27] (fun s wr => ∃ i : Nat, i ≤ n ∧ s = .int .i64 i ∧ Nine wr B (tabL 9 (mulW f g i 0)) ∧ Below w.heap.size w wr) (fun s _ => n - (intOf s).toNat)
        case atStart => exact ⟨0, Nat.zero_le _, rfl, by rw [tabL_ext (g := fun _ => 0) (fun i _ => mulW_zero f g 0 i)]; exact HN.out, HB.out⟩
        case round =>
          obtain ⟨i, hi, rfl, hrow, hb⟩ := hrel
          have HW := Lib.hid hrow
          have HBr := Lib.hid hb
          clear hrow hb HN HB
          by_cases hlt : i < n
          · obtain ⟨hl', hn', hno', hnc', a', h1', h2'⟩ := HS.out
            obtain ⟨rfl, hag'⟩ := h1' (by omega)
            have b2 := h2' i hlt
            rw [← HBr.out.cell (p := ⟨a', i, none⟩) hag'] at b2
            clear hl' hn' hno' h1' h2'
            obtain ⟨x, hx⟩ : ∃ x, f.getD i 0 = x := ⟨_, rfl⟩
            rw [hx] at b2
            have HX := Lib.hid hx
            clear hx
            go_wp2_with fail
            go_loopw [34] (fun s wr => ∃ k : Nat, k ≤ n' ∧ s = .int .i64 k ∧ Nine wr B (tabL 9 (mulW f g i k)) ∧ Below w.heap.size w wr) (fun s _ => n' - (intOf s).toNat)
            case atStart => exact ⟨0, Nat.zero_le _, rfl, HW.out, HBr.out⟩
            case round =>
              obtain ⟨k, hk, rfl, hrow, hb⟩ := hrel
              have HW2 := Lib.hid hrow
              have HB2 := Lib.hid hb
              clear hrow hb HW HBr b2
              by_cases hltk : k < n'
              · obtain ⟨m, hm⟩ : ∃ m, i + k = m := ⟨_, rfl⟩
                have hm9 : m < 9 := by omega
                have hik : (i : Int) + (k : Int) = (m : Int) := by omega
                have hwm : IntKind.i64.wrap (m : Int) = (m : Int) := IntWalk.i64_in _ (by omega)
                obtain ⟨hl', hn', hno', hnc', a2, h1', h2'⟩ := HS'.out
                obtain ⟨rfl, hag2⟩ := h1' (by omega)
                have b2 := h2' k hltk
                rw [← HB2.out.cell (p := ⟨a2, k, none⟩) hag2] at b2
                clear hl' hn' hno' h1' h2'
                have c4 := nine_at HW2.out hm9
                rw [tabL_getD hm9, mulW_at hm] at c4
                have f4 := nine_frozen HW2.out hm9
                have HE2 := Lib.hid (mulW_step (f := f) (g := g) hm9 hm rfl)
                have bp := mulP_bd HFB.out HGB.out m i
                have bt := mul_bd (HFB.out i) (HGB.out k)
                obtain ⟨z, hzz⟩ : ∃ x, g.getD k 0 = x := ⟨_, rfl⟩
                obtain ⟨s, hs⟩ : ∃ x, mulP f g m i = x := ⟨_, rfl⟩
                rw [HX.out, hzz, hs] at HE2
                rw [HX.out, hzz] at bt
                rw [hzz] at b2
                rw [hs] at c4 bp
                have w1 : IntKind.i64.wrap (x * z) = x * z := IntWalk.i64_in _ (by omega)
                have w2 : IntKind.i64.wrap (s + x * z) = s + x * z := IntWalk.i64_in _ (by omega)
                have R3 := Lib.hid (nine_set HW2.out hm9 (s + x * z))
                rw [HE2.out] at R3
                have B3 := Lib.hid (HB2.out.setCell (p := ⟨B, m, none⟩) hsz (.int .i64 (s + x * z)))
                clear hzz hs bp bt hm HE2
                go_wp2_with fail
                exact ⟨⟨k + 1, by omega, by go_num, R3.out, B3.out⟩, by simp only [intOf]; omega⟩
              · have hkN : tabL 9 (mulW f g i k) = tabL 9 (mulW f g (i + 1) 0) := tabL_ext fun j _ => by rw [mulW_row (by have := HL'.out; omega), mulW_zero]
                have R1 := Lib.hid (show Nine wr B (tabL 9 (mulW f g (i + 1) 0)) by rw [← hkN]; exact HW2.out)
                clear hkN
                go_wp2_with fail
                exact ⟨⟨i + 1, by omega, by go_num, R1.out, HB2.out⟩, by simp only [intOf]; omega⟩
          · have hkN : tabL 9 (mulW f g i 0) = tabL 9 fun n => mulP f g n f.length := tabL_ext fun j _ => by rw [mulW_zero, show i = f.length by have := HL.out; omega]
            have R1 := Lib.hid (show Nine wr B (tabL 9 fun n => mulP f g n f.length) by rw [← hkN]; exact HW.out)
            clear hkN HW
            go_upto_region 15 with fail
            refine wp_region_lit ?_
            refine wpList_load_nine rfl (.tmp 6) rfl B rfl R1.out ?_
            go_wp2_with fail
            refine (asResult_any (F := tabL 9 fun n => mulP f g n f.length) (tabL_length _ _) _).mono ?_
            rintro e w3 ⟨v, rfl, hr3, hb3⟩
            go_wp2_with fail
            go_ret2
            exact ⟨v, rfl, intRow_lower hr3 HBr.out.size, HBr.out.trans (hb3.mono HBr.out.size)⟩
      · obtain ⟨e1, e2⟩ := mul_long hp hq (by omega)
        rw [e1, e2]
        have hs2 : 10 < (n : Int) + (n' : Int) := by omega
        clear h h' hfb hgb hf9 hg9 hl1 hl2 e1 e2
        go_enter Try.func25, Try.ntmps25
        go_wp2_with fail
        refine (implIsPoly_any HS.out).mono ?_
        rw [hp]
        rintro e w2 ⟨rfl, rfl⟩
        go_wp2_with fail
        refine (implIsPoly_any HS'.out).mono ?_
        rw [hq]
        rintro e w2 ⟨rfl, rfl⟩
        go_wp2_with fail
        go_ret2
        exact ⟨_, rfl, intRow_nil _ _, Below.refl _ _⟩
end Go.Proofs.Ytbolmmgkmgmfeaa
