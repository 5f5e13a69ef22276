/- Contracts of the walk: a sum with a multiple of a polynomial over any ring, in impl. -/
import Derived.Test.YtbjkcoajabcibaaHenPoly
namespace Go.Proofs.Ytbjkcoajabcibaa
open Go.RowKit
set_option linter.unusedVariables false
set_option linter.unusedSimpArgs false
set_option maxRecDepth 20000
set_option maxHeartbeats 2000000 in
theorem sumA_any (ks : Int) {p q M : Int} (hR : ringM p q = M) (m2 : 2 ≤ M) (m9 : M ≤ 1000000000) {o o' : Option Addr} {n n' c c' : Nat} {f g : List Int} {w : World} (h : Seen w o n c f) (h' : Seen w o' n' c' g) (hf : Res9 f) (hg : ∀ i, -1000000000000000000 ≤ ks * g.getD i 0 ∧ ks * g.getD i 0 ≤ 1000000000000000000) (hn9 : n ≤ 20) (hn9' : n' ≤ 20) :
    Calls Try.prog 158 #[.agg #[.int .i64 p, .int .i64 q], .slice o n c, .int .i64 ks, .slice o' n' c'] w (OwnPost (redL M (addL f g ks)) w) := by
  have HS := Lib.hid h
  obtain ⟨hl, hn, hno, hnc, a, h1, h2⟩ := h
  obtain ⟨hl', hn', hno', hnc', a', h1', h2'⟩ := h'
  obtain ⟨i0, hi, hz0, hz1, hz2⟩ := info_parts Try.infoInt64
  have HI := Lib.hid hi
  have HZ0 := Lib.hid hz0
  have HZ1 := Lib.hid hz1
  have HZ2 := Lib.hid hz2
  have HO' := Lib.hid h1'
  have HL := Lib.hid (And.intro hl hl')
  have HC' := Lib.hid h2'
  have HF := Lib.hid hf
  have HG := Lib.hid hg
  obtain ⟨N, hN⟩ : ∃ N, max n n' = N := ⟨_, rfl⟩
  have hmx : max (n : Int) (n' : Int) = (N : Int) := by omega
  have HN := Lib.hid hN
  have hnN : n ≤ N := by omega
  have hnN' : n' ≤ N := by omega
  have hN20 : N ≤ 20 := by omega
  have HRED := Lib.hid fun (wx : World) (b : Nat) (o' : Option Addr) (c' : Nat) (l : List Int) (hx : Seen wx o' N c' l) => reducedR_any hR m2 m9 hx (by omega)
  obtain ⟨W0, hW0⟩ : ∃ W0, w.alloc (.cells #[.int .i64 p, .int .i64 q] 25) = W0 := ⟨_, rfl⟩
  have hb1 : Below w.heap.size w W0 := by rw [← hW0]; exact below_a8 _ _
  have HS0 := Lib.hid (seen_below HS.out hb1)
  obtain ⟨Q, hQ⟩ : ∃ Q, W0.heap.size = Q := ⟨_, rfl⟩
  have hs0 : Q = w.heap.size + 1 := by rw [← hQ, ← hW0]; simp
  have HSQ := Lib.hid hs0
  have q0 : W0.cell? ⟨w.heap.size, 0, none⟩ = some (.int .i64 p) := by rw [← hW0]; exact World.cell?_alloc_new _ _ _ _ ▸ rfl
  have q1 : W0.cell? ⟨w.heap.size, 1, none⟩ = some (.int .i64 q) := by rw [← hW0]; exact World.cell?_alloc_new _ _ _ _ ▸ rfl
  have HQ := Lib.hid (And.intro q0 q1)
  have HB1 := Lib.hid hb1
  clear hi hz0 hz1 hz2 h1 h2 h1' h2' hl hl' hno hno' hnc hnc' hf hg hN hb1 q0 q1 hs0
  go_enter Try.func158, Try.ntmps158
  go_upto_region 1 with fail
  clear hW0
  go_wp2_with (at_make; refine wpList_make_full _ rfl (.tmp 16) (.tmp 16) 26 rfl W0.heap.size 2 i0 (.int .i64 0) 1 Try.underlying26 HI.out HZ0.out HZ1.out .i64 .i64 _ _ N rfl rfl rfl rfl (by rw [HZ2.out]; omega) (by unfold maxLen; omega) (Nat.le_refl _) ?_; intro w2 hown hgrow; rw [hQ] at hown; (have HB2 := Lib.hid ((Below.refl W0.heap.size W0).grown hgrow (Nat.le_refl _) (fun k h => by cases h))); (have HR2 := Lib.hid (show IntRow Q w2 (.slice (some ⟨Q, 0, none⟩) N N) (tabL N fun _ => 0) by rw [← hQ] at hown ⊢; exact int_made hown)); (obtain ⟨W3, hcp, hr3, hb3⟩ := copy_sum hnN HR2.out (seen_below HS0.out HB2.out) (Nat.le_of_eq hQ) HB2.out); (have HR3 := Lib.hid hr3); (have HB3 := Lib.hid hb3); clear hr3 hb3 hown hgrow HR2 HB2)
  clear hcp
  go_loopw [23] (fun s wr => ∃ k : Nat, k ≤ n' ∧ s = .int .i64 k ∧ IntRow Q wr (.slice (some ⟨Q, 0, none⟩) N N) (sumY f ks g N k) ∧ Below W0.heap.size W0 wr) (fun s _ => n' - (intOf s).toNat)
  case atStart => exact ⟨0, Nat.zero_le _, rfl, by rw [sumY_start]; exact HR3.out, HB3.out⟩
  case round =>
    obtain ⟨k, hk, rfl, hr, hb⟩ := hrel
    have HR := Lib.hid hr
    have HB := Lib.hid hb
    clear hr hb HR3 HB3
    have hrl := sumY_length f ks g N k
    by_cases hlt : k < n'
    · obtain ⟨hog, hgl⟩ := HO'.out (by omega)
      subst hog
      have hkN : k < N := by omega
      have a2 : wr.cell? ⟨a', k, none⟩ = some (.int .i64 (g.getD k 0)) := by
        rw [HB.out.cell (p := ⟨a', k, none⟩) (by show a' < W0.heap.size; have := HSQ.out; omega), HB1.out.cell (p := ⟨a', k, none⟩) hgl]; exact HC'.out k hlt
      have c2 := int_at HR.out hrl hkN
      rw [sumY_at hkN] at c2
      have f2 := int_frozen HR.out hrl k
      have HE := Lib.hid (sumY_step (f := f) (g := g) (a := ks) hkN)
      have hx := HF.out k
      have hz := HG.out k
      obtain ⟨x, hxx⟩ : ∃ x, f.getD k 0 = x := ⟨_, rfl⟩
      obtain ⟨z, hzz⟩ : ∃ z, g.getD k 0 = z := ⟨_, rfl⟩
      rw [hxx] at c2 HE hx
      rw [hzz] at a2 HE hz
      have w1 : IntKind.i64.wrap (ks * z) = ks * z := IntWalk.i64_in _ (by omega)
      have w2 : IntKind.i64.wrap (x + ks * z) = x + ks * z := IntWalk.i64_in _ (by omega)
      have HR3 := Lib.hid (int_stored HR.out hrl k (x + ks * z))
      rw [HE.out] at HR3
      have HB3 := Lib.hid (HB.out.setCell (p := ⟨Q, k, none⟩) (Nat.le_of_eq hQ) (.int .i64 (x + ks * z)))
      have hkn : (k : Int) < (n' : Int) := by omega
      have hkN' : (k : Int) < (N : Int) := by omega
      clear hgl HE HR HB hrl hxx hzz
      go_wp2_with fail
      exact ⟨⟨k + 1, by omega, by go_num, HR3.out, HB3.out⟩, by simp only [intOf]; omega⟩
    · have hkn : k = g.length := by have := HL.out.2; omega
      have HT := Lib.hid (show sumY f ks g N k = addL f g ks by rw [hkn]; exact sumY_end (by have := HL.out; have := HN.out; omega))
      have SR := Lib.hid (show Seen wr (some ⟨Q, 0, none⟩) N N (sumY f ks g N k) by
        have h := row_seen (o := some ⟨Q, 0, none⟩) (n := (sumY f ks g N k).length) (c := N) (by rw [hrl]; exact HR.out) (by rw [hrl]; omega)
        rw [hrl] at h; exact h)
      rw [HT.out] at SR
      have g0 := (HB.out.cell (p := ⟨w.heap.size, 0, none⟩) (by show w.heap.size < W0.heap.size; have := HSQ.out; omega)).trans HQ.out.1
      have g1 := (HB.out.cell (p := ⟨w.heap.size, 1, none⟩) (by show w.heap.size < W0.heap.size; have := HSQ.out; omega)).trans HQ.out.2
      clear hkn HT hrl HR
      go_wp2_with (go_at_call 96; refine (HRED.out wr 0 _ _ _ SR.out).mono ?_; rintro e w3 ⟨v, rfl, hr, hb⟩)
      go_ret
      exact ⟨_, rfl, intRow_lower hr (by have := HB.out.size; have := HSQ.out; omega), HB1.out.trans ((HB.out.trans (hb.mono HB.out.size)).mono (by have := HSQ.out; omega))⟩
end Go.Proofs.Ytbjkcoajabcibaa
