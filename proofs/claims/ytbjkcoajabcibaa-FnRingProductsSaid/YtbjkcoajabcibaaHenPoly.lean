/- Contracts of the walk: products and sums of polynomials over any ring, in impl. -/
import Derived.Test.YtbjkcoajabcibaaLfB
import Derived.Test.YtbjkcoajabcibaaPolyImpl
import Derived.Laws.IdiomCopy
namespace Go.Proofs.Ytbjkcoajabcibaa
open Go.RowKit
set_option linter.unusedVariables false
set_option linter.unusedSimpArgs false
set_option maxRecDepth 20000
def setsT (l : List Int) (k : Nat) : List Int → List Int
  | [] => l
  | x :: m => setsT (l.set k x) (k + 1) m
theorem setsT_length : ∀ (m : List Int) (l : List Int) (k : Nat), (setsT l k m).length = l.length
  | [], _, _ => rfl
  | x :: m, l, k => by rw [setsT, setsT_length m, List.length_set]
theorem setsT_getD : ∀ (m : List Int) (l : List Int) (k c : Nat), k + m.length ≤ l.length → (setsT l k m).getD c 0 = if k ≤ c ∧ c < k + m.length then m.getD (c - k) 0 else l.getD c 0
  | [], l, k, c, _ => by rw [setsT, if_neg (by simp)]
  | x :: m, l, k, c, h => by
    rw [List.length_cons] at h
    rw [setsT, setsT_getD m (l.set k x) (k + 1) c (by rw [List.length_set]; omega), List.length_cons]
    by_cases e : c = k
    · subst e
      rw [if_neg (by omega), if_pos (by omega), Nat.sub_self]
      simp [List.getD, show c < l.length by omega]
    · by_cases h2 : k + 1 ≤ c ∧ c < k + 1 + m.length
      · rw [if_pos h2, if_pos (by omega), show c - k = (c - (k + 1)) + 1 by omega]; simp [List.getD]
      · rw [if_neg h2, if_neg (by omega)]
        simp [List.getD, List.getElem?_set_ne (Ne.symm e)]
theorem int_setsT {b g n c : Nat} : ∀ (m : List Int) (k : Nat) (w : World) (l : List Int), IntRow b w (.slice (some ⟨g, 0, none⟩) n c) l → l.length = n →
    IntRow b (w.setCells g k (m.map (Value.int .i64))) (.slice (some ⟨g, 0, none⟩) n c) (setsT l k m)
  | [], k, w, l, h, _ => h
  | x :: m, k, w, l, h, hl => int_setsT m (k + 1) _ _ (int_stored h hl k x) (by rw [List.length_set]; exact hl)
theorem below_setsT {w0 w : World} {g : Nat} (hg : w0.heap.size ≤ g) (vs : List Value) (k : Nat) (h : Below w0.heap.size w0 w) : Below w0.heap.size w0 (w.setCells g k vs) := below_setCells (w := w0) (w1 := w0) hg vs k h
/-- coefficients that are residues of some ring -/
def Res9 (f : List Int) : Prop := ∀ i, 0 ≤ f.getD i 0 ∧ f.getD i 0 ≤ 1000000000
theorem modP_res9 {M : Int} (m9 : M ≤ 1000000000) {f : List Int} (h : ModP M f) : Res9 f := fun i => by have := h.rng i; omega
set_option maxHeartbeats 4000000 in
theorem productR_any {p q M : Int} (hR : ringM p q = M) (m2 : 2 ≤ M) (m9 : M ≤ 1000000000) {o o' : Option Addr} {n n' c c' : Nat} {f g : List Int} {w : World} (h : Seen w o n c f) (h' : Seen w o' n' c' g) (hf : Res9 f) (hg : Res9 g) (hn9 : n ≤ 20) (hn9' : n' ≤ 20) :
    Calls Try.prog 93 #[.agg #[.int .i64 p, .int .i64 q], .slice o n c, .slice o' n' c'] w (OwnPost (prodL M f g) w) := by
  obtain ⟨hl, hn, hno, hnc, a, h1, h2⟩ := h
  obtain ⟨hl', hn', hno', hnc', a', h1', h2'⟩ := h'
  obtain ⟨i0, hi, hz0, hz1, hz2⟩ := info_parts Try.infoInt64
  have HI := Lib.hid hi
  have HZ0 := Lib.hid hz0
  have HZ1 := Lib.hid hz1
  have HZ2 := Lib.hid hz2
  have HO := Lib.hid h1
  have HO' := Lib.hid h1'
  have HL := Lib.hid (And.intro hl hl')
  have HC := Lib.hid h2
  have HC' := Lib.hid h2'
  have HF := Lib.hid hf
  have HG := Lib.hid hg
  have hpz : (M == 0) = false := by simp; omega
  have HM := Lib.hid fun w => modulusR_any hR w
  obtain ⟨N, hN⟩ : ∃ N, n + n' = N := ⟨_, rfl⟩
  have hN1 : (n : Int) + (n' : Int) = (N : Int) := by omega
  have HN := Lib.hid hN
  have hN17 : N ≤ 40 := by omega
  clear hi hz0 hz1 hz2 h1 h2 hl hno hnc h1' h2' hl' hno' hnc' hf hg hN
  go_enter Try.func93, Try.ntmps93
  go_wp2_with fail
  refine (HM.out _).mono ?_
  rintro e w1 ⟨rfl, hb⟩
  have hb1 := box8 hb
  have HB1 := Lib.hid hb1
  have hbs := hb1.size
  clear hb HM hb1
  go_upto_region 2 with fail
  go_wp2_with (at_make; refine wpList_make_full _ rfl (.tmp 19) (.tmp 19) 26 rfl w1.heap.size 2 i0 (.int .i64 0) 1 Try.underlying26 HI.out HZ0.out HZ1.out .i64 .i64 _ _ N rfl rfl rfl rfl (by rw [HZ2.out]; omega) (by unfold maxLen; omega) (Nat.le_refl _) ?_; intro w2 hown hgrow)
  have HB2 := Lib.hid (HB1.out.grown hgrow hbs (fun k h => by cases h))
  have HR2 := Lib.hid (show IntRow w1.heap.size w2 (.slice (some ⟨w1.heap.size, 0, none⟩) N N) (mulY M f g N 0 0) by rw [mulY_start]; exact int_made hown)
  generalize w1.heap.size = Q at *
  clear hown hgrow HB1 hN1
  go_wp2_with fail
  go_loopw [23] (fun s wr => ∃ i : Nat, i ≤ n ∧ s = .int .i64 i ∧ IntRow Q wr (.slice (some ⟨Q, 0, none⟩) N N) (mulY M f g N i 0) ∧ Below w.heap.size w wr) (fun s _ => n - (intOf s).toNat)
  case atStart => exact ⟨0, Nat.zero_le _, rfl, HR2.out, HB2.out⟩
  case round =>
    obtain ⟨i, hi, rfl, hr, hb⟩ := hrel
    have HR := Lib.hid hr
    have HB := Lib.hid hb
    clear hr hb HR2 HB2
    by_cases hlt : i < n
    · obtain ⟨hog, hgl⟩ := HO.out (by omega)
      subst hog
      have a2 : wr.cell? ⟨a, i, none⟩ = some (.int .i64 (f.getD i 0)) := by rw [HB.out.cell (p := ⟨a, i, none⟩) hgl]; exact HC.out i hlt
      have HX := Lib.hid (HF.out i)
      have hin : (i : Int) < (n : Int) := by omega
      obtain ⟨x, hx⟩ : ∃ x, f.getD i 0 = x := ⟨_, rfl⟩
      rw [hx] at a2 HX
      have HFX := Lib.hid hx
      clear hgl hx
      go_wp2_with fail
      go_loopw [30] (fun s wr => ∃ k : Nat, k ≤ n' ∧ s = .int .i64 k ∧ IntRow Q wr (.slice (some ⟨Q, 0, none⟩) N N) (mulY M f g N i k) ∧ Below w.heap.size w wr) (fun s _ => n' - (intOf s).toNat)
      case atStart => exact ⟨0, Nat.zero_le _, rfl, HR.out, HB.out⟩
      case round =>
        obtain ⟨k, hk, rfl, hr, hb⟩ := hrel
        have HR2 := Lib.hid hr
        have HB2 := Lib.hid hb
        clear hr hb HR HB a2
        by_cases hltk : k < n'
        · obtain ⟨m, hm⟩ : ∃ m, i + k = m := ⟨_, rfl⟩
          have hmN : m < N := by have := HN.out; omega
          have hik : (i : Int) + (k : Int) = (m : Int) := by omega
          have hwm : IntKind.i64.wrap (m : Int) = (m : Int) := IntWalk.i64_in _ (by omega)
          obtain ⟨hog', hgl'⟩ := HO'.out (by omega)
          subst hog'
          have b2 : wr.cell? ⟨a', k, none⟩ = some (.int .i64 (g.getD k 0)) := by rw [HB2.out.cell (p := ⟨a', k, none⟩) hgl']; exact HC'.out k hltk
          have hsl := mulY_length M f g N i k
          have c4 := int_at HR2.out hsl hmN
          rw [mulY_at hmN] at c4
          have f4 := int_frozen HR2.out hsl m
          have HE := Lib.hid (mulY_step (p := M) (f := f) (g := g) hmN hm)
          have hs0 : 0 ≤ mulW f g i k m % M ∧ mulW f g i k m % M < M := ⟨Int.emod_nonneg _ (by omega), Int.emod_lt_of_pos _ (by omega)⟩
          have hpb := prod_nine HX.out.1 HX.out.2 (HG.out k).1 (HG.out k).2
          rw [HFX.out] at HE
          obtain ⟨z, hzz⟩ : ∃ z, g.getD k 0 = z := ⟨_, rfl⟩
          obtain ⟨s, hs⟩ : ∃ s, mulW f g i k m % M = s := ⟨_, rfl⟩
          rw [hzz] at b2 HE hpb
          rw [hs] at c4 HE hs0
          have w1 : IntKind.i64.wrap (x * z) = x * z := IntWalk.i64_in _ (by omega)
          have w2 : IntKind.i64.wrap (s + x * z) = s + x * z := IntWalk.i64_in _ (by omega)
          have hnn : 0 ≤ s + x * z := by omega
          obtain ⟨E, hEE⟩ : ∃ E, (s + x * z) % M = E := ⟨_, rfl⟩
          have ht : (s + x * z).tmod M = E := by rw [tmod_nonneg hnn, hEE]
          have hE0 : 0 ≤ E ∧ E < M := by rw [← hEE]; exact ⟨Int.emod_nonneg _ (by omega), Int.emod_lt_of_pos _ (by omega)⟩
          have w3 : IntKind.i64.wrap E = E := IntWalk.i64_in _ (by omega)
          rw [hEE] at HE
          have HR3 := Lib.hid (int_stored HR2.out hsl m E)
          rw [HE.out] at HR3
          have HB3 := Lib.hid (HB2.out.setCell (p := ⟨Q, m, none⟩) hbs (.int .i64 E))
          have hkn' : (k : Int) < (n' : Int) := by omega
          have hmN' : (m : Int) < (N : Int) := by omega
          clear hgl' hsl hzz hs hpb hs0 hm HE HR2 HB2
          go_wp2_with fail
          exact ⟨⟨k + 1, by omega, by go_num, HR3.out, HB3.out⟩, by simp only [intOf]; omega⟩
        · have hkn : g.length ≤ k := by have := HL.out.2; omega
          have HR3 := Lib.hid (show IntRow Q wr (.slice (some ⟨Q, 0, none⟩) N N) (mulY M f g N (i + 1) 0) by rw [← mulY_row hkn]; exact HR2.out)
          clear HR2
          go_wp2_with fail
          exact ⟨⟨i + 1, by omega, by go_num, HR3.out, HB2.out⟩, by simp only [intOf]; omega⟩
    · have hin : i = f.length := by have := HL.out.1; omega
      have HT := Lib.hid (show trimL (mulY M f g N i 0) = prodL M f g by rw [hin]; exact mulY_end (by have := HN.out; have := HL.out; omega))
      have hrl := mulY_length M f g N i 0
      have SR := Lib.hid (show Seen wr (some ⟨Q, 0, none⟩) N N (mulY M f g N i 0) by
        have h := row_seen (o := some ⟨Q, 0, none⟩) (n := (mulY M f g N i 0).length) (c := N) (by rw [hrl]; exact HR.out) (by rw [hrl]; omega)
        rw [hrl] at h; exact h)
      have HR3 := Lib.hid (intRow_lower (trim_row HR.out) hbs)
      rw [HT.out] at HR3
      generalize mulY M f g N i 0 = rl at *
      clear HT hrl HR hin
      go_wp2_with fail
      refine (trimmed_any SR.out).mono ?_
      rintro e w3 ⟨rfl, rfl⟩
      go_wp2_with fail
      go_ret
      exact ⟨_, rfl, HR3.out, HB.out⟩
/-! derivatives -/
/-- a row of the call's own, the first places of which are f -/
theorem copy_sum {b : Nat} {N n c : Nat} {f : List Int} {w0 w : World} {o : Option Addr} (hN : n ≤ N) (hr : IntRow b w (.slice (some ⟨b, 0, none⟩) N N) (tabL N fun _ => 0)) (h : Seen w o n c f) (hb : w0.heap.size ≤ b) (hw : Below w0.heap.size w0 w) :
    ∃ W, (Builtin.copy_ #[26, 26] 3 #[.slice (some ⟨b, 0, none⟩) N N, .slice o n c]).run Try.prog w = .ok (goInt n) W ∧ IntRow b W (.slice (some ⟨b, 0, none⟩) N N) (tabL N fun i => f.getD i 0) ∧ Below w0.heap.size w0 W := by
  obtain ⟨hl, hn, hno, hnc, g, h1, h2⟩ := h
  by_cases h0 : n = 0
  · subst h0
    have hf : f = [] := List.length_eq_zero_iff.1 hl.symm
    subst hf
    refine ⟨w, ?_, by simpa using hr, hw⟩
    have := run_copy_none (P := Try.prog) w 26 26 3 2 (some ⟨b, 0, none⟩) o N N 0 c Try.underlying26 Try.infoI1 (by simp)
    exact this
  · obtain ⟨rfl, hg⟩ := h1 (by omega)
    have hrl : (tabL N fun _ => (0 : Int)).length = N := tabL_length _ _
    have hfm : (f.map (Value.int .i64)).length = n := by rw [List.length_map]; exact hl.symm
    have h9 := run_copy_cells (P := Try.prog) w 26 26 3 2 b 0 N N ⟨g, 0, none⟩ n c (f.map (Value.int .i64)) Try.underlying26 Try.infoI1 (by rw [hfm]; exact (Nat.min_eq_left hN).symm)
      (seen_range hl h2) (fun j hj => by rw [Nat.zero_add, int_at hr hrl (k := j) (by omega)]; rfl) (fun j hj => by rw [Nat.zero_add]; exact int_frozen hr hrl j) (oneCell_map f)
    rw [hfm] at h9
    have hs := int_setsT f 0 w _ hr hrl
    refine ⟨_, h9, ?_, below_setsT hb (f.map (Value.int .i64)) 0 hw⟩
    have e : setsT (tabL N fun _ => 0) 0 f = tabL N fun i => f.getD i 0 := by
      refine ext_getD (by rw [setsT_length, tabL_length, tabL_length]) fun i hi => ?_
      rw [setsT_length, tabL_length] at hi
      rw [setsT_getD _ _ _ _ (by rw [tabL_length]; omega), tabL_getD hi, tabL_getD hi]
      split
      · rw [Nat.sub_zero]
      · rw [getD_out (by omega)]
    rw [← e]; exact hs
def sumY (f : List Int) (a : Int) (g : List Int) (N k : Nat) : List Int := tabL N fun i => f.getD i 0 + (if i < k then a * g.getD i 0 else 0)
theorem sumY_start (f : List Int) (a : Int) (g : List Int) (N : Nat) : sumY f a g N 0 = tabL N fun i => f.getD i 0 := tabL_ext fun i hi => by rw [if_neg (by omega), Int.add_zero]
theorem sumY_length (f : List Int) (a : Int) (g : List Int) (N k : Nat) : (sumY f a g N k).length = N := tabL_length _ _
theorem sumY_at {f g : List Int} {a : Int} {N k : Nat} (h : k < N) : (sumY f a g N k).getD k 0 = f.getD k 0 := by rw [sumY, tabL_getD h, if_neg (by omega), Int.add_zero]
theorem sumY_step {f g : List Int} {a : Int} {N k : Nat} (h : k < N) : (sumY f a g N k).set k (f.getD k 0 + a * g.getD k 0) = sumY f a g N (k + 1) := by
  unfold sumY
  rw [tab_set _ h]
  refine tabL_ext fun i hi => ?_
  by_cases e : i = k
  · rw [if_pos e, if_pos (by omega), e]
  · rw [if_neg e]
    by_cases h2 : i < k
    · rw [if_pos h2, if_pos (by omega)]
    · rw [if_neg h2, if_neg (by omega)]
theorem sumY_end {f g : List Int} {a : Int} {N : Nat} (h : N = max f.length g.length) : sumY f a g N g.length = addL f g a := by
  unfold sumY addL
  rw [← h]
  refine tabL_ext fun i hi => ?_
  by_cases h2 : i < g.length
  · rw [if_pos h2]
  · rw [if_neg h2, getD_out (by omega : g.length ≤ i), Int.mul_zero]
set_option maxHeartbeats 2000000 in
theorem sumR_any {p q M : Int} (hR : ringM p q = M) (m2 : 2 ≤ M) (m9 : M ≤ 1000000000) {o o' : Option Addr} {n n' c c' : Nat} {f g : List Int} {w : World} (h : Seen w o n c f) (h' : Seen w o' n' c' g) (hf : Res9 f) (hg : Res9 g) (hn9 : n ≤ 20) (hn9' : n' ≤ 20) :
    Calls Try.prog 158 #[.agg #[.int .i64 p, .int .i64 q], .slice o n c, .int .i64 1, .slice o' n' c'] w (OwnPost (redL M (addL f g 1)) w) := by
  have HS := Lib.hid h
  obtain ⟨hl, hn, hno, hnc, a, h1, h2⟩ := h
  obtain ⟨hl', hn', hno', hnc', a', h1', h2'⟩ := h'
  obtain ⟨i0, hi, hz0, hz1, hz2⟩ := info_parts Try.infoInt64
  have HI := Lib.hid hi
  have HZ0 := Lib.hid hz0
  have HZ1 := Lib.hid hz1
  have HZ2 := Lib.hid hz2
  have HO' := Lib.hid h1'
  have HL := Lib.hid (And.intro hl hl')
  have HC' := Lib.hid h2'
  have HF := Lib.hid hf
  have HG := Lib.hid hg
  obtain ⟨N, hN⟩ : ∃ N, max n n' = N := ⟨_, rfl⟩
  have hmx : max (n : Int) (n' : Int) = (N : Int) := by omega
  have HN := Lib.hid hN
  have hnN : n ≤ N := by omega
  have hnN' : n' ≤ N := by omega
  have hN20 : N ≤ 20 := by omega
  have HRED := Lib.hid fun (wx : World) (b : Nat) (o' : Option Addr) (c' : Nat) (l : List Int) (hx : Seen wx o' N c' l) => reducedR_any hR m2 m9 hx (by omega)
  obtain ⟨W0, hW0⟩ : ∃ W0, w.alloc (.cells #[.int .i64 p, .int .i64 q] 25) = W0 := ⟨_, rfl⟩
  have hb1 : Below w.heap.size w W0 := by rw [← hW0]; exact below_a8 _ _
  have HS0 := Lib.hid (seen_below HS.out hb1)
  obtain ⟨Q, hQ⟩ : ∃ Q, W0.heap.size = Q := ⟨_, rfl⟩
  have hs0 : Q = w.heap.size + 1 := by rw [← hQ, ← hW0]; simp
  have HSQ := Lib.hid hs0
  have q0 : W0.cell? ⟨w.heap.size, 0, none⟩ = some (.int .i64 p) := by rw [← hW0]; exact World.cell?_alloc_new _ _ _ _ ▸ rfl
  have q1 : W0.cell? ⟨w.heap.size, 1, none⟩ = some (.int .i64 q) := by rw [← hW0]; exact World.cell?_alloc_new _ _ _ _ ▸ rfl
  have HQ := Lib.hid (And.intro q0 q1)
  have HB1 := Lib.hid hb1
  clear hi hz0 hz1 hz2 h1 h2 h1' h2' hl hl' hno hno' hnc hnc' hf hg hN hb1 q0 q1 hs0
  go_enter Try.func158, Try.ntmps158
  go_upto_region 1 with fail
  clear hW0
  go_wp2_with (at_make; refine wpList_make_full _ rfl (.tmp 16) (.tmp 16) 26 rfl W0.heap.size 2 i0 (.int .i64 0) 1 Try.underlying26 HI.out HZ0.out HZ1.out .i64 .i64 _ _ N rfl rfl rfl rfl (by rw [HZ2.out]; omega) (by unfold maxLen; omega) (Nat.le_refl _) ?_; intro w2 hown hgrow; rw [hQ] at hown; (have HB2 := Lib.hid ((Below.refl W0.heap.size W0).grown hgrow (Nat.le_refl _) (fun k h => by cases h))); (have HR2 := Lib.hid (show IntRow Q w2 (.slice (some ⟨Q, 0, none⟩) N N) (tabL N fun _ => 0) by rw [← hQ] at hown ⊢; exact int_made hown)); (obtain ⟨W3, hcp, hr3, hb3⟩ := copy_sum hnN HR2.out (seen_below HS0.out HB2.out) (Nat.le_of_eq hQ) HB2.out); (have HR3 := Lib.hid hr3); (have HB3 := Lib.hid hb3); clear hr3 hb3 hown hgrow HR2 HB2)
  clear hcp
  go_loopw [23] (fun s wr => ∃ k : Nat, k ≤ n' ∧ s = .int .i64 k ∧ IntRow Q wr (.slice (some ⟨Q, 0, none⟩) N N) (sumY f 1 g N k) ∧ Below W0.heap.size W0 wr) (fun s _ => n' - (intOf s).toNat)
  case atStart => exact ⟨0, Nat.zero_le _, rfl, by rw [sumY_start]; exact HR3.out, HB3.out⟩
  case round =>
    obtain ⟨k, hk, rfl, hr, hb⟩ := hrel
    have HR := Lib.hid hr
    have HB := Lib.hid hb
    clear hr hb HR3 HB3
    have hrl := sumY_length f 1 g N k
    by_cases hlt : k < n'
    · obtain ⟨hog, hgl⟩ := HO'.out (by omega)
      subst hog
      have hkN : k < N := by omega
      have a2 : wr.cell? ⟨a', k, none⟩ = some (.int .i64 (g.getD k 0)) := by
        rw [HB.out.cell (p := ⟨a', k, none⟩) (by show a' < W0.heap.size; have := HSQ.out; omega), HB1.out.cell (p := ⟨a', k, none⟩) hgl]; exact HC'.out k hlt
      have c2 := int_at HR.out hrl hkN
      rw [sumY_at hkN] at c2
      have f2 := int_frozen HR.out hrl k
      have HE := Lib.hid (sumY_step (f := f) (g := g) (a := 1) hkN)
      have hx := HF.out k
      have hz := HG.out k
      obtain ⟨x, hxx⟩ : ∃ x, f.getD k 0 = x := ⟨_, rfl⟩
      obtain ⟨z, hzz⟩ : ∃ z, g.getD k 0 = z := ⟨_, rfl⟩
      rw [hxx] at c2 HE hx
      rw [hzz] at a2 HE hz
      have w0 : IntKind.i64.wrap z = z := IntWalk.i64_in _ (by omega)
      have w1 : IntKind.i64.wrap (1 * z) = z := by rw [Int.one_mul]; exact w0
      have w2 : IntKind.i64.wrap (x + z) = x + z := IntWalk.i64_in _ (by omega)
      have HR3 := Lib.hid (int_stored HR.out hrl k (x + z))
      rw [show x + z = x + 1 * z by omega, HE.out] at HR3
      have HB3 := Lib.hid (HB.out.setCell (p := ⟨Q, k, none⟩) (Nat.le_of_eq hQ) (.int .i64 (x + z)))
      have hkn : (k : Int) < (n' : Int) := by omega
      have hkN' : (k : Int) < (N : Int) := by omega
      clear hgl HE HR HB hrl hxx hzz
      go_wp2_with fail
      exact ⟨⟨k + 1, by omega, by go_num, by rw [show x + 1 * z = x + z by omega] at HR3; exact HR3.out, HB3.out⟩, by simp only [intOf]; omega⟩
    · have hkn : k = g.length := by have := HL.out.2; omega
      have HT := Lib.hid (show sumY f 1 g N k = addL f g 1 by rw [hkn]; exact sumY_end (by have := HL.out; have := HN.out; omega))
      have SR := Lib.hid (show Seen wr (some ⟨Q, 0, none⟩) N N (sumY f 1 g N k) by
        have h := row_seen (o := some ⟨Q, 0, none⟩) (n := (sumY f 1 g N k).length) (c := N) (by rw [hrl]; exact HR.out) (by rw [hrl]; omega)
        rw [hrl] at h; exact h)
      rw [HT.out] at SR
      have g0 := (HB.out.cell (p := ⟨w.heap.size, 0, none⟩) (by show w.heap.size < W0.heap.size; have := HSQ.out; omega)).trans HQ.out.1
      have g1 := (HB.out.cell (p := ⟨w.heap.size, 1, none⟩) (by show w.heap.size < W0.heap.size; have := HSQ.out; omega)).trans HQ.out.2
      clear hkn HT hrl HR
      go_wp2_with (go_at_call 96; refine (HRED.out wr 0 _ _ _ SR.out).mono ?_; rintro e w3 ⟨v, rfl, hr, hb⟩)
      go_ret
      exact ⟨_, rfl, intRow_lower hr (by have := HB.out.size; have := HSQ.out; omega), HB1.out.trans ((HB.out.trans (hb.mono HB.out.size)).mono (by have := HSQ.out; omega))⟩
end Go.Proofs.Ytbjkcoajabcibaa
