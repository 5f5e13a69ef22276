/- Walks of exact laws of chapter 11: RootsInRing, SquareRootsOf; true at every input. (joined of several texts) -/
import Derived.Test.YtckpeoadglkbgaaHnC
import Derived.Test.YtckpeoadglkbgaaPolySpec
import Derived.BigQuiet
import Derived.Deep.RegionHeld3
import Derived.Test.YtckpeoadglkbgaaIntAid
import Derived.Test.YtckpeoadglkbgaaSortLay
import Derived.Sort.OwnSortedInts
import Derived.Shelf.SortG.SortNone
import Derived.Test.YtckpeoadglkbgaaHnA
namespace Go.Proofs.Ytckpeoadglkbgaa
open Go.RowKit
set_option linter.unusedVariables false
set_option linter.unusedSimpArgs false
set_option maxRecDepth 20000
/-- what a call answers: the roots of its class, or some of them and that they are too many -/
def DeepP (m : Int) (f : List Int) (q x : Int) (r : Nat) (w : World) (e : Ending) (w' : World) : Prop :=
  ∃ g c l b, e = .returned (.tuple #[.slice (some ⟨g, 0, none⟩) l.length c, .bool b]) ∧ IntRow w.heap.size w' (.slice (some ⟨g, 0, none⟩) l.length c) l ∧ (b = true → Each l (RootAt m f q x) ∧ l.length ≤ 60) ∧ (b = false → Some1 l (RootAt m f q x) ∧ 60 < l.length) ∧ l.length ≤ 60 * r + 60 ∧ Below w.heap.size w w'
theorem int_one_made (w : World) (x : Int) : IntRow w.heap.size (w.alloc (.cells #[.int .i64 x] 2)) (.slice (some ⟨w.heap.size, 0, none⟩) 1 1) [x] :=
  ⟨rfl, .inr ⟨w.heap.size, 1, #[.int .i64 x], rfl, Nat.le_refl _, heap_alloc_new w _, Nat.le_refl _, by unfold maxLen; omega, rfl, rfl⟩⟩
theorem int_one_made2 (w : World) (o : Obj) (x : Int) : IntRow (w.heap.size + 1) ((w.alloc o).alloc (.cells #[.int .i64 x] 2)) (.slice (some ⟨w.heap.size + 1, 0, none⟩) 1 1) [x] := by
  have := int_one_made (w.alloc o) x
  rwa [World.size_alloc] at this
theorem intRow_made2 (w : World) (o : Obj) : IntRow (w.heap.size + 1) ((w.alloc o).alloc (.cells #[] 2)) (.slice (some ⟨w.heap.size + 1, 0, none⟩) 0 0) [] := by
  have := intRow_made (w.alloc o)
  rwa [World.size_alloc] at this
theorem int_cells_at {b g c : Nat} {w : World} {l : List Int} (h : IntRow b w (.slice (some ⟨g, 0, none⟩) l.length c) l) : ∀ j u, (l.map (Value.int .i64))[j]? = some u → w.cell? ((⟨g, 0, none⟩ : Addr).add j) = some u := by
  intro j u hu
  rw [List.getElem?_map] at hu
  by_cases hj : j < l.length
  · rw [List.getElem?_eq_getElem hj] at hu
    have h1 := int_at h rfl hj
    have e : l.getD j 0 = l[j] := by simp [List.getD, hj]
    rw [e] at h1
    simp at hu
    rw [← hu]
    by_cases h0 : j = 0
    · subst h0; simpa [Addr.add] using h1
    · simpa [Addr.add, h0] using h1
  · rw [List.getElem?_eq_none (by omega)] at hu; cases hu
theorem pow_pos11d {p : Int} (hp : 2 ≤ p) : ∀ n : Nat, 0 < p ^ n
  | 0 => by simp
  | n + 1 => by rw [Int.pow_succ]; exact Int.mul_pos (pow_pos11d hp n) (by omega)
theorem pow_le11d {p : Int} (hp : 2 ≤ p) {a b : Nat} (h : a ≤ b) : p ^ a ≤ p ^ b := Int.le_of_dvd (pow_pos11d hp b) (pow_div h)
set_option maxHeartbeats 8000000 in
theorem deeper_any {p n m : Int} (hR : ringM p n = m) (h0 : ringM p n ≠ 0) {f : List Int} (hf : Cof9 f) : ∀ (r N : Nat), N + r = n.toNat → ∀ (w : World) (o : Option Addr) (k c : Nat) (q x : Int), Seen w o k c f → q = p ^ N → 0 ≤ x → x < q →
    Calls Try.prog 93 #[.agg #[.int .i64 p, .int .i64 n], .slice o k c, .int .i64 x, .int .i64 q, .int .i64 (N : Int)] w (DeepP m f q x r w) := by
  obtain ⟨hp2, hp97, hn1, hn2, m2, m9, hpm⟩ := ringM_bd h0
  have hmq := (ringM_in h0).2.2.2
  have H := Lib.hid (And.intro (ringM_in h0).1 (And.intro hn1 (show n ≤ 1000 by omega)))
  have HMO := Lib.hid fun w => l02Modulus_any p n w (ringM_in h0).1 hn1 (show n ≤ 1000 by omega)
  rw [hR] at m2 m9 hpm hmq HMO
  have HF := Lib.hid hf
  obtain ⟨i0, hi, hz0, hz1, hz2⟩ := info_parts Try.infoInt64
  have HI := Lib.hid hi
  have HZ0 := Lib.hid hz0
  have HZ1 := Lib.hid hz1
  have HZ2 := Lib.hid hz2
  clear hi hz0 hz1 hz2 hf
  intro r
  induction r with
  | zero =>
    intro N hN w o k c q x hS hq x0 x1
    have hqm : q = m := by rw [hq, hmq, show N = n.toNat by omega]
    subst hqm
    have HS := Lib.hid hS
    have hNn : (N : Int) = n := by omega
    have HL := Lib.hid (leaf_each (f := f) x0 x1)
    have HVL := Lib.hid fun (W : World) (hw : Below w.heap.size w W) => l11Value_any q x m2 m9 x0 (by omega) (seen_below hS hw) HF.out
    have hz := vM_zero (m := q) (by omega) f x
    clear hS hq hmq hR hN
    rw [hNn]
    by_cases hv : vM q f x = 0
    · rw [if_pos (hz.1 hv)] at HL
      rw [hv] at HVL
      clear hv hz
      go_enter Try.func93, Try.ntmps93
      go_wp2_with (first | (go_at_call 66; refine (HMO.out _).mono ?_; rintro e wn ⟨rfl, rfl⟩) | (go_at_call 63; refine (HVL.out _ ((Below.refl _ _).alloc (Nat.le_refl _) _)).mono ?_; rintro e wn ⟨rfl, rfl⟩))
      go_ret2
      exact ⟨_, _, [x], true, rfl, intRow_lower (int_one_made2 _ _ x) (by omega), (fun _ => ⟨HL.out, by show 1 ≤ 60; omega⟩), (fun h => by cases h), (by show 1 ≤ 60 * 0 + 60; omega), (Below.refl _ _).alloc (Nat.le_refl _) _ |>.alloc (by simp) _⟩
    · have hvz : (vM q f x == 0) = false := by simp [hv]
      rw [if_neg (fun h => hv (hz.2 h))] at HL
      clear hv hz
      go_enter Try.func93, Try.ntmps93
      go_wp2_with (first | (go_at_call 66; refine (HMO.out _).mono ?_; rintro e wn ⟨rfl, rfl⟩) | (go_at_call 63; refine (HVL.out _ ((Below.refl _ _).alloc (Nat.le_refl _) _)).mono ?_; rintro e wn ⟨rfl, rfl⟩))
      go_ret2
      exact ⟨_, _, [], true, rfl, intRow_lower (intRow_made2 _ _) (by omega), (fun _ => ⟨HL.out, by show 0 ≤ 60; omega⟩), (fun h => by cases h), (by show 0 ≤ 60 * 0 + 60; omega), (Below.refl _ _).alloc (Nat.le_refl _) _ |>.alloc (by simp) _⟩
  | succ r ih =>
    intro N hN w o k c q x hS hq x0 x1
    have hs0 : 0 < q := by rw [hq]; exact pow_pos11d hp2 N
    have hqp : q * p ≤ m := by
      rw [hq, ← Int.pow_succ, hmq]
      show p ^ (N + 1) ≤ p ^ n.toNat
      exact pow_le11d hp2 (by omega)
    have hqd : q * p ∣ m := by
      rw [hq, ← Int.pow_succ, hmq]
      show p ^ (N + 1) ∣ p ^ n.toNat
      exact pow_div (by omega)
    have hq2 : 2 ≤ q * p := by
      have := Int.mul_le_mul_of_nonneg_left hp2 (show 0 ≤ q by omega)
      omega
    have HQ := Lib.hid (show q * p = p ^ (N + 1) by rw [hq, Int.pow_succ])
    have HNR := Lib.hid hN
    have hr29 : r ≤ 29 := by omega
    have hne : ((N : Int) == n) = false := by simp; omega
    have HS := Lib.hid hS
    have HVL := Lib.hid fun (W : World) (hw : Below w.heap.size w W) (y : Int) (y0 : 0 ≤ y) (y1 : y ≤ 1000000000) => l11Value_any (q * p) y hq2 (by omega) y0 y1 (seen_below hS hw) HF.out
    have HIH := Lib.hid fun (W : World) (hw : Below w.heap.size w W) (y : Int) (y0 : 0 ≤ y) (y1 : y < q * p) => ih (N + 1) (by omega) W o k c (q * p) y (seen_below hS hw) HQ.out y0 y1
    have HVZ := Lib.hid fun (y : Int) => vM_zero (m := q * p) (by omega) f y
    have HDV := Lib.hid hqd
    have w1 : IntKind.i64.wrap (q * p) = q * p := IntWalk.i64_in _ (by omega)
    have hN29 : (N : Int) ≤ 29 := by omega
    have w2 : IntKind.i64.wrap ((N : Int) + 1) = ((N + 1 : Nat) : Int) := by push_cast; exact IntWalk.i64_in _ (by omega)
    clear hS hq hmq hR hN hqd ih
    go_enter Try.func93, Try.ntmps93
    go_wp2_with (first | (go_at_call 66; refine (HMO.out _).mono ?_; rintro e wn ⟨rfl, rfl⟩))
    have HB0 := Lib.hid (Below.refl (alR w p n).heap.size (alR w p n))
    go_loopw [13, 14] (fun v d wr => ∃ (j : Nat) (l : List Int) (g cc : Nat), d = .int .i64 (j : Int) ∧ (j : Int) ≤ p ∧ v = .slice (some ⟨g, 0, none⟩) l.length cc ∧ Each l (RootTo m f p q x j) ∧ l.length ≤ 60 ∧ IntRow (alR w p n).heap.size wr v l ∧ Below (alR w p n).heap.size (alR w p n) wr) (fun _ d _ => (p - intOf d).toNat)
    case atStart => exact ⟨0, [], _, _, rfl, by omega, rfl, ⟨List.nodup_nil, fun y => ⟨(fun h => by cases h), (fun h => absurd h (rootTo_zero _ _ _ _ _ _))⟩⟩, by simp, by rw [show (alR w p n).heap.size = w.heap.size + 1 by unfold alR; simp]; exact intRow_made2 w _, HB0.out.alloc (Nat.le_refl _) _⟩
    case round =>
      obtain ⟨j, l, g, cc, rfl, hj, rfl, hE, hl, hrow, hBB⟩ := hrel
      obtain ⟨hB, c0, c1⟩ := alR_keep hBB
      have HE := Lib.hid hE
      have HW := Lib.hid hrow
      have HB := Lib.hid hB
      have HBB := Lib.hid hBB
      clear hE hrow hB hBB
      by_cases hlt : (j : Int) < p
      · have hj0 : (0 : Int) ≤ (j : Int) := by omega
        have e0 : 0 ≤ (j : Int) * q := Int.mul_nonneg hj0 (by omega)
        have e1 : (j : Int) * q + q ≤ q * p := by
          have := Int.mul_le_mul_of_nonneg_left (show (j : Int) + 1 ≤ p by omega) (show 0 ≤ q by omega)
          grind
        have ws1 : IntKind.i64.wrap ((j : Int) * q) = (j : Int) * q := IntWalk.i64_in _ (by omega)
        have ws2 : IntKind.i64.wrap (x + (j : Int) * q) = x + (j : Int) * q := IntWalk.i64_in _ (by omega)
        have HVX := Lib.hid (HVL.out wr HB.out (x + (j : Int) * q) (by omega) (by omega))
        have hz := HVZ.out (x + (j : Int) * q)
        by_cases hv : vM (q * p) f (x + (j : Int) * q) = 0
        · rw [hv] at HVX
          have HIX := Lib.hid (HIH.out wr HB.out (x + (j : Int) * q) (by omega) (by omega))
          clear hv hz
          go_wp2_with (first | (go_at_call 63; refine HVX.out.mono ?_; rintro e w2 ⟨rfl, rfl⟩) | (go_at_call 93; refine HIX.out.mono ?_; rintro e w3 ⟨g2, c2, l2, b2, rfl, hr2, ht2, hf2, hl2, hb2⟩; have HB3 := Lib.hid (HBB.out.trans (hb2.mono HBB.out.size)); have HW3 := Lib.hid (row_next11 HW.out hb2); have HR2 := Lib.hid hr2; have HC2 := Lib.hid (int_cells_at hr2); have HTF := Lib.hid (And.intro ht2 hf2); clear HVX HIX ht2 hf2 hr2 hb2) | (at_builtin; refine wpList_append_own _ rfl (.tmp 68) (.tmp 69) 26 rfl (alR w p n).heap.size 2 i0 (.int .i64 0) 1 8 Try.underlying26 HI.out HZ0.out HZ1.out HZ2.out rfl (by decide) _ _ _ rfl HW3.out ⟨g2, 0, none⟩ l2.length c2 (l2.map (Value.int .i64)) rfl (by rw [List.length_map, Nat.mul_one]) ?c1 ?c2 ?c3 ?c4 ?c5 ?_))
          case c1 => exact HC2.out
          case c2 => exact oneCell_map l2
          case c3 => unfold maxLen; omega
          case c4 => omega
          case c5 => exact HB3.out.size
          intro v' w1 hown hgrow hnil
          obtain ⟨g4, c4, rfl⟩ : ∃ g4 c4, v' = .slice (some ⟨g4, 0, none⟩) (l.length + l2.length) c4 := by
            rcases hown.2 with ⟨e, hz0⟩ | ⟨g4, cap, cur, e, _⟩
            · exact absurd e (fun e => by simp [e] at hnil)
            · exact ⟨g4, cap, e⟩
          obtain ⟨K, hK⟩ : ∃ K, l.length + l2.length = K := ⟨_, rfl⟩
          have hKl : (l ++ l2).length = K := by rw [List.length_append]; exact hK
          have HO4 := Lib.hid (show IntRow (alR w p n).heap.size w1 (.slice (some ⟨g4, 0, none⟩) K c4) (l ++ l2) by
            rw [hK] at hown
            unfold IntRow
            rw [List.map_append, hKl]; exact hown)
          have HG4 := Lib.hid (below_grown HB3.out HW3.out hgrow (Nat.le_refl _) HB3.out.size)
          have HKL := Lib.hid hKl
          have HB4 := Lib.hid (alR_keep HG4.out)
          obtain ⟨c40, c41⟩ := HB4.out.2
          have hl3 : K ≤ 60 * (r + 1) + 60 := by omega
          have HKK := Lib.hid hK
          rw [hK]
          clear hown hgrow hnil hK hKl
          cases b2
          · obtain ⟨hs2, hs3⟩ := HTF.out.2 rfl
            have HSM := Lib.hid (digit_some (by omega) hlt HE.out hs2)
            have hK60 : 60 < K := by have := HKK.out; omega
            clear HTF hs2
            go_wp2_with fail
            go_ret2
            exact ⟨_, _, l ++ l2, false, by rw [HKL.out]; rfl, by rw [HKL.out]; exact intRow_lower HO4.out (alR_size w p n), (fun h => by cases h), (fun _ => ⟨HSM.out, by rw [HKL.out]; exact hK60⟩), by rw [HKL.out]; exact hl3, HB4.out.1⟩
          · obtain ⟨hs2, hs3⟩ := HTF.out.1 rfl
            by_cases hgt : 60 < K
            · have hgt' : (60 : Int) < (K : Int) := by omega
              have HSM := Lib.hid (digit_some (by omega) hlt HE.out hs2.some)
              clear HTF hs2
              go_wp2_with fail
              go_ret2
              exact ⟨_, _, l ++ l2, false, by rw [HKL.out]; rfl, by rw [HKL.out]; exact intRow_lower HO4.out (alR_size w p n), (fun h => by cases h), (fun _ => ⟨HSM.out, by rw [HKL.out]; exact hgt⟩), by rw [HKL.out]; exact hl3, HB4.out.1⟩
            · have hgt' : ¬ (60 : Int) < (K : Int) := by omega
              have HEN := Lib.hid (digit_each (by omega) hlt HE.out hs2)
              clear HTF hs2
              go_wp2_with fail
              exact ⟨⟨j + 1, l ++ l2, g4, c4, by first | rfl | go_num, by omega, by rw [HKL.out], HEN.out, by rw [HKL.out]; omega, HO4.out, HG4.out⟩, by simp [intOf]; omega⟩
        · have hvz : (vM (q * p) f (x + (j : Int) * q) == 0) = false := by simp [hv]
          have hvn : (vM (q * p) f (x + (j : Int) * q) != 0) = true := by simp [hv]
          have HSK := Lib.hid (HE.out.congr (R' := RootTo m f p q x (j + 1)) fun y => (digit_skip HDV.out (fun h => hv (hz.2 h))).symm)
          clear hv hz
          go_wp2_with (go_at_call 63; refine HVX.out.mono ?_; rintro e w2 ⟨rfl, rfl⟩)
          exact ⟨⟨j + 1, l, g, cc, by first | rfl | go_num, by omega, rfl, HSK.out, hl, HW.out, HBB.out⟩, by simp [intOf]; omega⟩
      · have hjp : j = p.toNat := by omega
        have HEQ := Lib.hid (HE.out.congr (R' := RootAt m f q x) fun y => by rw [hjp]; exact rootTo_all (by omega))
        clear hjp HE
        go_wp2_with fail
        go_ret2
        exact ⟨_, _, l, true, rfl, intRow_lower HW.out (alR_size w p n), (fun _ => ⟨HEQ.out, hl⟩), (fun h => by cases h), by omega, HB.out⟩
set_option maxHeartbeats 1000000 in
theorem l11Roots_any {p n m : Int} (hR : ringM p n = m) (h0 : ringM p n ≠ 0) {f : List Int} (hf : Cof9 f) {w : World} {o : Option Addr} {k c : Nat} (h : Seen w o k c f) :
    Calls Try.prog 69 #[.agg #[.int .i64 p, .int .i64 n], .slice o k c] w (DeepP m f 1 0 n.toNat w) := by
  have HS := Lib.hid h
  have HD := Lib.hid fun (W : World) (hw : Below w.heap.size w W) => by
    have h := deeper_any hR h0 hf n.toNat 0 (by omega) W o k c 1 0 (seen_below HS.out hw) (by simp) (by omega) (by omega)
    rw [show ((0 : Nat) : Int) = 0 from rfl] at h
    exact h
  clear h
  go_enter Try.func69, Try.ntmps69
  go_wp2_with (go_at_call 93; refine (HD.out _ ((Below.refl _ _).alloc (Nat.le_refl _) _)).mono ?_; rintro e wn ⟨g, c2, l, b, rfl, hr, ht, hf2, hl, hb⟩)
  go_ret2
  exact ⟨g, c2, l, b, rfl, intRow_lower hr (by simp), ht, hf2, hl, ((Below.refl _ _).alloc (Nat.le_refl _) _).trans (hb.mono (by simp))⟩
end Go.Proofs.Ytckpeoadglkbgaa
namespace Go.Proofs.Ytckpeoadglkbgaa
open Go.RowKit
set_option linter.unusedVariables false
set_option linter.unusedSimpArgs false
set_option maxRecDepth 20000
/-- a number put into its place -/
theorem incr_put {l : List Int} {x : Int} {a : Nat} (h : Incr l) (ha : a ≤ l.length) (h1 : ∀ j, a ≤ j → j < l.length → x < l.getD j 0) (h2 : a = 0 ∨ l.getD (a - 1) 0 < x) : Incr (l.take a ++ [x] ++ l.drop a) := by
  have hg : ∀ j (hj : j < l.length), l.getD j 0 = l[j] := fun j hj => by simp [List.getD, hj]
  have hp : ∀ i j (hi : i < l.length) (hj : j < l.length), i < j → l[i] < l[j] := fun i j hi hj hij => List.pairwise_iff_getElem.1 h i j hi hj hij
  have hlt : ∀ y ∈ l.take a, y < x := by
    intro y hy
    obtain ⟨i, hi, rfl⟩ := List.getElem_of_mem hy
    rw [List.length_take] at hi
    rw [List.getElem_take]
    rcases h2 with h2 | h2
    · omega
    · rw [hg (a - 1) (by omega)] at h2
      by_cases e : i = a - 1
      · subst e; exact h2
      · have := hp i (a - 1) (by omega) (by omega) (by omega); omega
  have hgt : ∀ y ∈ l.drop a, x < y := by
    intro y hy
    obtain ⟨i, hi, rfl⟩ := List.getElem_of_mem hy
    rw [List.length_drop] at hi
    rw [List.getElem_drop]
    have := h1 (a + i) (by omega) (by omega)
    rwa [hg (a + i) (by omega)] at this
  unfold Incr at h ⊢
  rw [List.append_assoc]
  refine List.pairwise_append.2 ⟨h.sublist (List.take_sublist _ _), ?_, fun y hy z hz => ?_⟩
  · exact List.pairwise_cons.2 ⟨hgt, h.sublist (List.drop_sublist _ _)⟩
  · have h3 := hlt y hy
    rcases List.mem_cons.1 hz with rfl | hz
    · exact h3
    · have := hgt z hz; omega
theorem mem_put {l : List Int} {x y : Int} (a : Nat) : y ∈ l.take a ++ [x] ++ l.drop a ↔ y ∈ l ∨ y = x := by
  have e : y ∈ l ↔ y ∈ l.take a ∨ y ∈ l.drop a := by rw [← List.mem_append, List.take_append_drop]
  rw [List.mem_append, List.mem_append, List.mem_singleton, e]
  constructor
  · rintro ((h | h) | h)
    · exact .inl (.inl h)
    · exact .inr h
    · exact .inl (.inr h)
  · rintro ((h | h) | h)
    · exact .inl (.inl h)
    · exact .inr h
    · exact .inl (.inr h)
theorem put_length {l : List Int} {x : Int} {a : Nat} (ha : a ≤ l.length) : (l.take a ++ [x] ++ l.drop a).length = l.length + 1 := by
  simp [List.length_append, List.length_take, List.length_drop]; omega
theorem row_len8 {b n c : Nat} {o : Option Addr} {w : World} {l : List Int} (h : IntRow b w (.slice o n c) l) : l.length = n := by
  rcases h.2 with ⟨e, h0⟩ | ⟨g, cap, cur, e, _⟩
  · injection e with e1 e2 e3; omega
  · injection e with e1 e2 e3; exact e2.symm
theorem row_cap {b n c : Nat} {o : Option Addr} {w : World} {l : List Int} (h : IntRow b w (.slice o n c) l) : n ≤ c := by
  rcases h.2 with ⟨e, h0⟩ | ⟨g, cap, cur, e, _, _, hc, _⟩
  · injection e with e1 e2 e3; omega
  · injection e with e1 e2 e3; rw [e2, e3]; exact hc
theorem addr_block (a : Addr) (j : Nat) : (a.add j).block = a.block := by unfold Addr.add; split <;> rfl
theorem drop_cells {b g c t K : Nat} {w : World} {l : List Int} (h : IntRow b w (.slice (some ⟨g, 0, none⟩) K c) l) (ht : t ≤ K) : ∀ W, Below w.heap.size w W → ∀ j u, ((l.drop t).map (Value.int .i64))[j]? = some u → W.cell? ((⟨g, t, none⟩ : Addr).add j) = some u := by
  intro W hb j u hu
  have hl : l.length = K := row_len8 h
  rw [List.getElem?_map, List.getElem?_drop] at hu
  by_cases hj : t + j < l.length
  · rw [List.getElem?_eq_getElem hj] at hu
    have h1 := int_at h hl (k := t + j) (by omega)
    have e : l.getD (t + j) 0 = l[t + j] := by simp [List.getD, hj]
    rw [e] at h1
    simp at hu
    have hlt := World.block_lt_of_cell? _ _ h1
    rw [hb.cell (by rw [addr_block]; exact hlt), ← hu]
    by_cases h0 : j = 0
    · subst h0; simpa [Addr.add] using h1
    · simpa [Addr.add, h0] using h1
  · rw [List.getElem?_eq_none (by omega)] at hu; cases hu
theorem drop_addr {b g c t K : Nat} {w : World} {l : List Int} (h : IntRow b w (.slice (some ⟨g, 0, none⟩) K c) l) (ht : t ≤ K) (hc : K ≤ c) : ∃ AD : Addr, (if c = t then some (⟨g, 0, none⟩ : Addr) else some ⟨g, t, none⟩) = some AD ∧ ∀ W, Below w.heap.size w W → ∀ j u, ((l.drop t).map (Value.int .i64))[j]? = some u → W.cell? (AD.add j) = some u := by
  by_cases e : c = t
  · rw [if_pos e]
    refine ⟨_, rfl, fun W _ j u hu => ?_⟩
    have hl : l.length = K := row_len8 h
    rw [List.drop_eq_nil_of_le (by omega)] at hu
    simp at hu
  · rw [if_neg e]
    exact ⟨_, rfl, drop_cells h ht⟩
theorem put_row {b t K : Nat} {w : World} {v : Value} {l : List Int} {x : Int} (h : w.ownsRow b 2 1 v ((l.take t).length + 1 + (K - t)) ((l.take t).map (Value.int .i64) ++ [.int .i64 x] ++ (l.drop t).map (Value.int .i64))) (ht : t ≤ K) (hK : l.length = K) : IntRow b w v (l.take t ++ [x] ++ l.drop t) := by
  have e : (l.take t ++ [x] ++ l.drop t).length = (l.take t).length + 1 + (K - t) := by simp [List.length_append, List.length_take, List.length_drop]; omega
  unfold IntRow
  rw [e, List.map_append, List.map_append]; exact h
theorem put_form {b : Nat} {w : World} {v : Value} {l : List Int} (h : IntRow b w v l) (h0 : 0 < l.length) : ∃ g c, v = .slice (some ⟨g, 0, none⟩) l.length c := by
  rcases h.2 with ⟨_, hn⟩ | ⟨g, cap, cur, e, _⟩
  · omega
  · exact ⟨g, cap, e⟩
section
variable {P : Program} {ops : Array Oper} {Q : Exit → Act → World → Prop} {md : Region.Mode} {S : World → Prop}
theorem take_at12 {i d : Nat} {oi : Oper} {v : Value} {fuel : Nat} {listed : Array Bool} {a : Act} {w : World} (hi : ops[i]? = some oi) (hd : oi.dst = some d)
    (hs : Region.noSelect ops = true) (hf : Region.free md ops listed i = true) (hr : (Region.ready md ops listed).contains i = true)
    (hQ : ∀ c a w, Q (.panic c) (a.put oi.dst v) w → Q (.panic c) a w) (hy : YieldsIf P ops S oi v a) (hS : S w)
    (h : wpAnyH P md ops Q S fuel (listed.setIfInBounds i true) (a.put (some d) v) w) : wpAnyH P md ops Q S (fuel + 1) listed a w :=
  wpAnyH_take hi hs hf hr hQ hy hS (by rw [hd]; exact h)
end
set_option maxHeartbeats 8000000 in
theorem sorted_any {o : Option Addr} {n c : Nat} {list : List Int} {w : World} (h : Seen w o n c list) (hnd : list.Nodup) (hn : n ≤ 100) :
    Calls Try.prog 70 #[.slice o n c] w fun e w' => ∃ v k, e = .returned v ∧ IntRow w.heap.size w' v k ∧ Incr k ∧ (∀ y, y ∈ k ↔ y ∈ list) ∧ Below w.heap.size w w' := by
  have HS := Lib.hid h
  obtain ⟨hl, hn', hno, hnc, g, h1, h2⟩ := h
  have HO := Lib.hid h1
  have HL := Lib.hid hl
  have HC := Lib.hid h2
  have HND := Lib.hid hnd
  obtain ⟨i0, hi, hz0, hz1, hz2⟩ := info_parts Try.infoInt64
  have HI := Lib.hid hi
  have HZ0 := Lib.hid hz0
  have HZ1 := Lib.hid hz1
  have HZ2 := Lib.hid hz2
  clear hi hz0 hz1 hz2 h1 h2 hl hno hnc hnd hn'
  go_enter Try.func70, Try.ntmps70
  go_wp2_with fail
  go_loopw [3, 4] (fun v i wr => ∃ (k : Nat) (l : List Int) (g' c' : Nat), i = .int .i64 k ∧ k ≤ n ∧ v = .slice (some ⟨g', 0, none⟩) l.length c' ∧ IntRow w.heap.size wr (.slice (some ⟨g', 0, none⟩) l.length c') l ∧ Incr l ∧ (∀ y, y ∈ l ↔ y ∈ list.take k) ∧ l.length ≤ k ∧ Below w.heap.size w wr) (fun _ i _ => n - (intOf i).toNat)
  case atStart => exact ⟨0, [], _, _, rfl, Nat.zero_le _, rfl, intRow_made _, List.Pairwise.nil, by simp, Nat.le_refl _, (Below.refl _ _).alloc (Nat.le_refl _) _⟩
  case round =>
    obtain ⟨k, l, g', c', rfl, hk, rfl, hrow, hinc, hmem, hlk, hb⟩ := hrel
    by_cases hlt : k < n
    · have hkl : k < list.length := by rw [← HL.out]; exact hlt
      obtain ⟨hog, hgl⟩ := HO.out (by omega)
      subst hog
      have a2 : wr.cell? ⟨g, k, none⟩ = some (.int .i64 (list.getD k 0)) := by rw [hb.cell (p := ⟨g, k, none⟩) hgl]; exact HC.out k hlt
      have e : list.getD k 0 = list[k] := by simp [List.getD, hkl]
      have hx : list.getD k 0 ∉ l := by
        rw [hmem, e]
        intro hm
        obtain ⟨i, hi, he⟩ := List.getElem_of_mem hm
        rw [List.length_take] at hi
        rw [List.getElem_take] at he
        have := (List.getElem_inj HND.out).1 he
        omega
      have hnext : ∀ y, y ∈ list.take (k + 1) ↔ y ∈ list.take k ∨ y = list.getD k 0 := fun y => by
        rw [List.take_add_one, List.getElem?_eq_getElem hkl, e, Option.toList_some, List.mem_append, List.mem_singleton]
      obtain ⟨x, hxx⟩ : ∃ x, list.getD k 0 = x := ⟨_, rfl⟩
      rw [hxx] at a2 hx hnext
      have HX := Lib.hid hx
      have HN := Lib.hid hnext
      have HIN := Lib.hid hinc
      have HM := Lib.hid hmem
      have HB := Lib.hid hb
      have hkn : (k : Int) < (n : Int) := by omega
      obtain ⟨K, hK⟩ : ∃ K, l.length = K := ⟨_, rfl⟩
      have HKK := Lib.hid hK
      have HR := Lib.hid (show IntRow w.heap.size wr (.slice (some ⟨g', 0, none⟩) K c') l by rw [← hK]; exact hrow)
      rw [hK] at hlk
      rw [hK]
      clear hrow hinc hmem hb hx hnext e hxx hK
      go_wp2_with fail
      go_loopw [5] (fun a W => ∃ (t : Nat) (m : Nat), a = .int .i64 t ∧ t ≤ K ∧ W = wr.drewN m ∧ ∀ j, t ≤ j → j < K → x < l.getD j 0) (fun a _ => (intOf a).toNat)
      case atStart => exact ⟨K, 0, rfl, Nat.le_refl _, rfl, fun j h1 h2 => by omega⟩
      case round =>
        obtain ⟨t, m, rfl, ht, rfl, hgt⟩ := hrel
        have a3 : (wr.drewN m).cell? ⟨g, k, none⟩ = some (.int .i64 x) := a2
        by_cases ht0 : t = 0
        · subst ht0
          have HT2 : 0 = 0 ∨ l.getD (0 - 1) 0 < x := .inl rfl
          have HP := Lib.hid (incr_put (x := x) HIN.out (a := 0) (by have := HKK.out; omega) (fun j h1 h2 => hgt j h1 (by have := HKK.out; omega)) HT2)
          clear hgt HT2
          have htK : 0 ≤ K := by omega
          have hc' : K ≤ c' := row_cap HR.out
          have htc : (0 : Int) ≤ (K : Int) := by omega
          have htc2 : (0 : Int) ≤ (c' : Int) := by omega
          have HSE := Lib.hid (seen_take (row_seen HR.out (by have := HKK.out; omega)) htK)
          have HCD := Lib.hid (drop_cells HR.out htK)
          have hlt3 : (l.take (0)).length = 0 := by rw [List.length_take]; have := HKK.out; omega
          obtain ⟨TL, hTL⟩ : ∃ TL, l.take (0) = TL := ⟨_, rfl⟩
          rw [hTL] at HSE hlt3
          have HTL := Lib.hid hTL
          have HLT := Lib.hid hlt3
          clear hlt3 hTL
          go_wp2_with fail
          go_region
          go_wp2_with fail
          refine wp_region_held_drew (S := fun W' => Below wr.heap.size wr W') (by kernel_rfl) (by first | exact below_drewN (below_drewN (below_drewN (Below.refl _ _) _) _) 1 | exact below_drewN (below_drewN (Below.refl _ _) _) 1) (fun hHeld => ?_)
          generalize World.drew _ = W1 at hHeld ⊢
          refine take_at12 (i := 0) (d := 31) (v := .slice (some ⟨g', 0, none⟩) K c') rfl rfl (by kernel_rfl) (by kernel_rfl) (by kernel_rfl) (fun _ _ _ h => h) (Or.inl ⟨by rfl, ?_⟩) hHeld ?_
          · intro w' hS; go_simp
          try simp only [Act.put, List.setIfInBounds_toArray, List.set_cons_zero, List.set_cons_succ]
          refine take_at12 (i := 1) (d := 32) (v := .int .i64 0) rfl rfl (by kernel_rfl) (by kernel_rfl) (by kernel_rfl) (fun _ _ _ h => h) (Or.inl ⟨by rfl, ?_⟩) hHeld ?_
          · intro w' hS; go_simp
          try simp only [Act.put, List.setIfInBounds_toArray, List.set_cons_zero, List.set_cons_succ]
          refine take_at12 (i := 2) (d := 33) (v := .slice (some ⟨g', 0, none⟩) 0 c') rfl rfl (by kernel_rfl) (by kernel_rfl) (by kernel_rfl) (fun _ _ _ h => h) (Or.inl ⟨by rfl, ?_⟩) hHeld ?_
          · intro w' hS; go_simp
          try simp only [Act.put, List.setIfInBounds_toArray, List.set_cons_zero, List.set_cons_succ]
          refine take_at12 (i := 4) (d := 35) (v := .slice (some ⟨g, 0, none⟩) n c) rfl rfl (by kernel_rfl) (by kernel_rfl) (by kernel_rfl) (fun _ _ _ h => h) (Or.inl ⟨by rfl, ?_⟩) hHeld ?_
          · intro w' hS; go_simp
          try simp only [Act.put, List.setIfInBounds_toArray, List.set_cons_zero, List.set_cons_succ]
          refine take_at12 (i := 5) (d := 36) (v := .int .i64 (k : Int)) rfl rfl (by kernel_rfl) (by kernel_rfl) (by kernel_rfl) (fun _ _ _ h => h) (Or.inl ⟨by rfl, ?_⟩) hHeld ?_
          · intro w' hS; go_simp
          try simp only [Act.put, List.setIfInBounds_toArray, List.set_cons_zero, List.set_cons_succ]
          refine take_at12 (i := 6) (d := 37) (v := .pointer (some ⟨g, k, none⟩)) rfl rfl (by kernel_rfl) (by kernel_rfl) (by kernel_rfl) (fun _ _ _ h => h) (Or.inl ⟨by rfl, ?_⟩) hHeld ?_
          · intro w' hS; go_simp
          try simp only [Act.put, List.setIfInBounds_toArray, List.set_cons_zero, List.set_cons_succ]
          refine take_at12 (i := 7) (d := 38) (v := .int .i64 x) rfl rfl (by kernel_rfl) (by kernel_rfl) (by kernel_rfl) (fun _ _ _ h => h) (Or.inl ⟨by rfl, ?_⟩) hHeld ?_
          · intro w' hS; have h7 : w'.cell? ⟨g, k, none⟩ = some (.int .i64 x) := by { rw [Below.cell hS (p := ⟨g, k, none⟩) (by show g < wr.heap.size; have := HB.out.size; omega)]; exact a2 }; go_simp
          try simp only [Act.put, List.setIfInBounds_toArray, List.set_cons_zero, List.set_cons_succ]
          refine take_at12 (i := 10) (d := 41) (v := .slice (some ⟨g', 0, none⟩) K c') rfl rfl (by kernel_rfl) (by kernel_rfl) (by kernel_rfl) (fun _ _ _ h => h) (Or.inl ⟨by rfl, ?_⟩) hHeld ?_
          · intro w' hS; go_simp
          try simp only [Act.put, List.setIfInBounds_toArray, List.set_cons_zero, List.set_cons_succ]
          refine take_at12 (i := 11) (d := 42) (v := .int .i64 0) rfl rfl (by kernel_rfl) (by kernel_rfl) (by kernel_rfl) (fun _ _ _ h => h) (Or.inl ⟨by rfl, ?_⟩) hHeld ?_
          · intro w' hS; go_simp
          try simp only [Act.put, List.setIfInBounds_toArray, List.set_cons_zero, List.set_cons_succ]
          refine take_at12 (i := 12) (d := 43) (v := .slice (some ⟨g', 0, none⟩) K c') rfl rfl (by kernel_rfl) (by kernel_rfl) (by kernel_rfl) (fun _ _ _ h => h) (Or.inl ⟨by rfl, ?_⟩) hHeld ?_
          · intro w' hS; go_simp
          try simp only [Act.put, List.setIfInBounds_toArray, List.set_cons_zero, List.set_cons_succ]
          refine wpAnyH_ready (rs := [3, 8]) (by kernel_rfl) (by simp) ?_
          refine AllReadyH.cons rfl (fun K' hK' => ?_) (AllReadyH.cons rfl (fun K' hK' => ?_) AllReadyH.nil)
          · skip
            go_simp
            go_at_call 94; refine (specOwn_any (seen_below HSE.out hHeld)).mono ?_; rintro e w1 ⟨v1, rfl, hr1, hb1⟩
            obtain ⟨o1, c1, rfl⟩ := row_slice hr1
            go_simp
            refine hK'.out _ _ (hHeld.trans (hb1.mono hHeld.size)) (fun hHeld2 => ?_)
            clear hK' K'
            try simp only [Act.put, List.setIfInBounds_toArray, List.set_cons_zero, List.set_cons_succ]
            refine wpAnyH_ready (rs := [8]) (by kernel_rfl) (by simp) ?_
            refine AllReadyH.cons rfl (fun K' hK' => ?_) AllReadyH.nil
            go_simp
            refine hK'.out _ _ (hHeld2.alloc hHeld2.size _) (fun hHeld3 => ?_)
            clear hK' K'
            try simp only [Act.put, List.setIfInBounds_toArray, List.set_cons_zero, List.set_cons_succ]
            have HR1 := Lib.hid (World.ownsRow.alloc (intRow_lower hr1 hHeld.size) (.cells #[.int .i64 x] 2))
            have HCX := Lib.hid (news_one w1 (.int .i64 x) 2)
            clear hr1 hb1
            refine wpAnyH_ready (rs := [9]) (by kernel_rfl) (by simp) ?_
            refine AllReadyH.cons rfl (fun K' hK' => ?_) AllReadyH.nil
            rw [if_pos (by rfl)]
            have hlt3 := HLT.out
            refine wp_append_own _ (.tmp 34) (.tmp 39) 26 rfl wr.heap.size 2 i0 (.int .i64 0) 1 8 Try.underlying26 HI.out HZ0.out HZ1.out HZ2.out rfl (by decide) _ _ _ rfl HR1.out ⟨w1.heap.size, 0, none⟩ 1 1 [.int .i64 x] rfl rfl HCX.out (one_one _) (by unfold maxLen; omega) (by omega) hHeld3.size ?_
            intro v2 w2 hown2 hgrow2 _
            have hb2 := below_grown hHeld3 HR1.out hgrow2 (Nat.le_refl _) hHeld3.size
            refine hK'.out _ _ hb2 (fun hHeld7 => ?_)
            clear hK' K' hgrow2
            try simp only [Act.put, List.setIfInBounds_toArray, List.set_cons_zero, List.set_cons_succ]
            refine wpAnyH_ready (rs := [13]) (by kernel_rfl) (by simp) ?_
            refine AllReadyH.cons rfl (fun K' hK' => ?_) AllReadyH.nil
            rw [if_pos (by rfl)]
            refine wp_append_own _ (.tmp 40) (.tmp 43) 26 rfl wr.heap.size 2 i0 (.int .i64 0) 1 8 Try.underlying26 HI.out HZ0.out HZ1.out HZ2.out rfl (by decide) _ _ _ rfl hown2 ⟨g', 0, none⟩ (K) (c') ((l.drop (0)).map (Value.int .i64)) rfl (by rw [List.length_map, List.length_drop, HKK.out, Nat.mul_one]; try rfl) (HCD.out w2 hb2) (oneCell_map _) (by unfold maxLen; omega) (by omega) hb2.size ?_
            intro v3 w3 hown3 hgrow3 hnil3
            have hb3 := below_grown hb2 hown2 hgrow3 (Nat.le_refl _) hb2.size
            refine hK'.out _ _ hb3 (fun hHeld8 => ?_)
            clear hK' K' hgrow3
            try simp only [Act.put, List.setIfInBounds_toArray, List.set_cons_zero, List.set_cons_succ]
            rw [← HTL.out] at hown3
            have HO3 := Lib.hid (put_row hown3 htK HKK.out)
            have hlen := put_length (x := x) (show 0 ≤ l.length by rw [HKK.out]; exact htK)
            obtain ⟨Z, hZ⟩ : ∃ Z, l.take (0) ++ [x] ++ l.drop (0) = Z := ⟨_, rfl⟩
            have HZM := Lib.hid (fun y => mem_put (l := l) (x := x) (y := y) (0))
            rw [hZ] at hlen HP HZM HO3
            obtain ⟨g5, c5, rfl⟩ := put_form HO3.out (by omega)
            have HLEN := Lib.hid hlen
            clear hown2 hown3 hnil3 hb2 hHeld7 hZ hlen
            refine take_at12 (i := 14) (d := 3) (v := .slice (some ⟨g5, 0, none⟩) Z.length c5) rfl rfl (by kernel_rfl) (by kernel_rfl) (by kernel_rfl) (fun _ _ _ h => h) (Or.inl ⟨by rfl, ?_⟩) hHeld8 ?_
            · intro w' hS; go_simp
            try simp only [Act.put, List.setIfInBounds_toArray, List.set_cons_zero, List.set_cons_succ]
            refine wpAnyH_done (by kernel_rfl) ?_ _
            clear hHeld8
            go_wp2_with fail
            exact ⟨⟨k + 1, Z, g5, c5, by first | rfl | go_num, by omega, rfl, intRow_lower HO3.out HB.out.size, HP.out, (fun y => by rw [HZM.out, HN.out, HM.out]), by have := HLEN.out; have := HKK.out; omega, HB.out.trans (hb3.mono HB.out.size)⟩, by simp only [intOf]; omega⟩
          · skip
            go_simp
            refine hK'.out _ _ (hHeld.alloc hHeld.size _) (fun hHeld2 => ?_)
            clear hK' K'
            try simp only [Act.put, List.setIfInBounds_toArray, List.set_cons_zero, List.set_cons_succ]
            refine wpAnyH_ready (rs := [3]) (by kernel_rfl) (by simp) ?_
            refine AllReadyH.cons rfl (fun K' hK' => ?_) AllReadyH.nil
            go_simp
            go_at_call 94; refine (specOwn_any (seen_below HSE.out hHeld2)).mono ?_; rintro e w1 ⟨v1, rfl, hr1, hb1⟩
            obtain ⟨o1, c1, rfl⟩ := row_slice hr1
            go_simp
            refine hK'.out _ _ (hHeld2.trans (hb1.mono hHeld2.size)) (fun hHeld3 => ?_)
            clear hK' K'
            try simp only [Act.put, List.setIfInBounds_toArray, List.set_cons_zero, List.set_cons_succ]
            have HR1 := Lib.hid (show IntRow wr.heap.size w1 _ _ from intRow_lower hr1 hHeld2.size)
            have HCX := Lib.hid (fun j u hu => (show w1.cell? ((⟨W1.heap.size, 0, none⟩ : Addr).add j) = some u by rw [hb1.cell (by rw [addr_block]; simp)]; exact news_one W1 (.int .i64 x) 2 j u hu))
            clear hr1 hb1
            refine wpAnyH_ready (rs := [9]) (by kernel_rfl) (by simp) ?_
            refine AllReadyH.cons rfl (fun K' hK' => ?_) AllReadyH.nil
            rw [if_pos (by rfl)]
            have hlt3 := HLT.out
            refine wp_append_own _ (.tmp 34) (.tmp 39) 26 rfl wr.heap.size 2 i0 (.int .i64 0) 1 8 Try.underlying26 HI.out HZ0.out HZ1.out HZ2.out rfl (by decide) _ _ _ rfl HR1.out ⟨W1.heap.size, 0, none⟩ 1 1 [.int .i64 x] rfl rfl HCX.out (one_one _) (by unfold maxLen; omega) (by omega) hHeld3.size ?_
            intro v2 w2 hown2 hgrow2 _
            have hb2 := below_grown hHeld3 HR1.out hgrow2 (Nat.le_refl _) hHeld3.size
            refine hK'.out _ _ hb2 (fun hHeld7 => ?_)
            clear hK' K' hgrow2
            try simp only [Act.put, List.setIfInBounds_toArray, List.set_cons_zero, List.set_cons_succ]
            refine wpAnyH_ready (rs := [13]) (by kernel_rfl) (by simp) ?_
            refine AllReadyH.cons rfl (fun K' hK' => ?_) AllReadyH.nil
            rw [if_pos (by rfl)]
            refine wp_append_own _ (.tmp 40) (.tmp 43) 26 rfl wr.heap.size 2 i0 (.int .i64 0) 1 8 Try.underlying26 HI.out HZ0.out HZ1.out HZ2.out rfl (by decide) _ _ _ rfl hown2 ⟨g', 0, none⟩ (K) (c') ((l.drop (0)).map (Value.int .i64)) rfl (by rw [List.length_map, List.length_drop, HKK.out, Nat.mul_one]; try rfl) (HCD.out w2 hb2) (oneCell_map _) (by unfold maxLen; omega) (by omega) hb2.size ?_
            intro v3 w3 hown3 hgrow3 hnil3
            have hb3 := below_grown hb2 hown2 hgrow3 (Nat.le_refl _) hb2.size
            refine hK'.out _ _ hb3 (fun hHeld8 => ?_)
            clear hK' K' hgrow3
            try simp only [Act.put, List.setIfInBounds_toArray, List.set_cons_zero, List.set_cons_succ]
            rw [← HTL.out] at hown3
            have HO3 := Lib.hid (put_row hown3 htK HKK.out)
            have hlen := put_length (x := x) (show 0 ≤ l.length by rw [HKK.out]; exact htK)
            obtain ⟨Z, hZ⟩ : ∃ Z, l.take (0) ++ [x] ++ l.drop (0) = Z := ⟨_, rfl⟩
            have HZM := Lib.hid (fun y => mem_put (l := l) (x := x) (y := y) (0))
            rw [hZ] at hlen HP HZM HO3
            obtain ⟨g5, c5, rfl⟩ := put_form HO3.out (by omega)
            have HLEN := Lib.hid hlen
            clear hown2 hown3 hnil3 hb2 hHeld7 hZ hlen
            refine take_at12 (i := 14) (d := 3) (v := .slice (some ⟨g5, 0, none⟩) Z.length c5) rfl rfl (by kernel_rfl) (by kernel_rfl) (by kernel_rfl) (fun _ _ _ h => h) (Or.inl ⟨by rfl, ?_⟩) hHeld8 ?_
            · intro w' hS; go_simp
            try simp only [Act.put, List.setIfInBounds_toArray, List.set_cons_zero, List.set_cons_succ]
            refine wpAnyH_done (by kernel_rfl) ?_ _
            clear hHeld8
            go_wp2_with fail
            exact ⟨⟨k + 1, Z, g5, c5, by first | rfl | go_num, by omega, rfl, intRow_lower HO3.out HB.out.size, HP.out, (fun y => by rw [HZM.out, HN.out, HM.out]), by have := HLEN.out; have := HKK.out; omega, HB.out.trans (hb3.mono HB.out.size)⟩, by simp only [intOf]; omega⟩
        obtain ⟨s, hs⟩ : ∃ s, t = s + 1 := ⟨t - 1, by omega⟩
        subst hs
        have hsK : s < K := by omega
        have q3 : (wr.drewN m).cell? ⟨g', s, none⟩ = some (.int .i64 (l.getD s 0)) := int_at HR.out HKK.out hsK
        have q3w : wr.cell? ⟨g', s, none⟩ = some (.int .i64 (l.getD s 0)) := q3
        have hsx : l.getD s 0 ≠ x := by
          intro e
          apply HX.out
          rw [← e]
          have e2 : l.getD s 0 = l[s]'(by rw [HKK.out]; exact hsK) := by simp [List.getD, show s < l.length by rw [HKK.out]; exact hsK]
          rw [e2]; exact List.getElem_mem _
        obtain ⟨y, hy⟩ : ∃ y, l.getD s 0 = y := ⟨_, rfl⟩
        rw [hy] at q3 q3w hsx
        have hpos : (0 : Int) < ((s + 1 : Nat) : Int) := by omega
        have hsub : IntKind.i64.wrap (((s + 1 : Nat) : Int) - 1) = (s : Int) := by rw [show ((s + 1 : Nat) : Int) - 1 = (s : Int) by omega]; exact IntWalk.i64_in _ (by omega)
        have hws : IntKind.i64.wrap (s : Int) = (s : Int) := IntWalk.i64_in _ (by omega)
        have hsK' : (s : Int) < (K : Int) := by omega
        have hs0 : (0 : Int) ≤ (s : Int) := by omega
        by_cases hyx : x < y
        · have HG2 := Lib.hid (show ∀ j, s ≤ j → j < K → x < l.getD j 0 from fun j h1 h2 => by
            rcases Nat.lt_or_ge s j with h3 | h3
            · exact hgt j h3 h2
            · obtain rfl : j = s := by omega
              rw [hy]; exact hyx)
          clear hgt hy hsx
          go_wp2_with fail
          go_quiet (fail)
          go_wp2_with fail
          exact ⟨⟨s, _, by go_num, by omega, rfl, HG2.out⟩, by simp only [intOf]; omega⟩
        · have HT2 : s + 1 = 0 ∨ l.getD (s + 1 - 1) 0 < x := .inr (by rw [show s + 1 - 1 = s by omega, hy]; omega)
          clear hy hsx
          have HP := Lib.hid (incr_put (x := x) HIN.out (a := (s + 1)) (by have := HKK.out; omega) (fun j h1 h2 => hgt j h1 (by have := HKK.out; omega)) HT2)
          clear hgt HT2
          have htK : (s + 1) ≤ K := by omega
          have hc' : K ≤ c' := row_cap HR.out
          have htc : ((s : Int) + 1 : Int) ≤ (K : Int) := by omega
          have htc2 : ((s : Int) + 1 : Int) ≤ (c' : Int) := by omega
          have HSE := Lib.hid (seen_take (row_seen HR.out (by have := HKK.out; omega)) htK)
          obtain ⟨AD, hAD, hcd⟩ := drop_addr HR.out htK hc'
          have HCD := Lib.hid hcd
          clear hcd
          have hneg : ¬ ((s : Int) + 1 < 0) := by omega
          have hnn : (0 : Int) ≤ (s : Int) + 1 := by omega
          have hlt3 : (l.take ((s + 1))).length = (s + 1) := by rw [List.length_take]; have := HKK.out; omega
          obtain ⟨TL, hTL⟩ : ∃ TL, l.take ((s + 1)) = TL := ⟨_, rfl⟩
          rw [hTL] at HSE hlt3
          have HTL := Lib.hid hTL
          have HLT := Lib.hid hlt3
          clear hlt3 hTL
          go_wp2_with fail
          go_quiet (fail)
          go_wp2_with fail
          refine wp_region_held_drew (S := fun W' => Below wr.heap.size wr W') (by kernel_rfl) (by first | exact below_drewN (below_drewN (below_drewN (Below.refl _ _) _) _) 1 | exact below_drewN (below_drewN (Below.refl _ _) _) 1) (fun hHeld => ?_)
          generalize World.drew _ = W1 at hHeld ⊢
          refine take_at12 (i := 0) (d := 31) (v := .slice (some ⟨g', 0, none⟩) K c') rfl rfl (by kernel_rfl) (by kernel_rfl) (by kernel_rfl) (fun _ _ _ h => h) (Or.inl ⟨by rfl, ?_⟩) hHeld ?_
          · intro w' hS; go_simp
          try simp only [Act.put, List.setIfInBounds_toArray, List.set_cons_zero, List.set_cons_succ]
          refine take_at12 (i := 1) (d := 32) (v := .int .i64 ((s + 1 : Nat) : Int)) rfl rfl (by kernel_rfl) (by kernel_rfl) (by kernel_rfl) (fun _ _ _ h => h) (Or.inl ⟨by rfl, ?_⟩) hHeld ?_
          · intro w' hS; go_simp
          try simp only [Act.put, List.setIfInBounds_toArray, List.set_cons_zero, List.set_cons_succ]
          refine take_at12 (i := 2) (d := 33) (v := .slice (some ⟨g', 0, none⟩) (s + 1) c') rfl rfl (by kernel_rfl) (by kernel_rfl) (by kernel_rfl) (fun _ _ _ h => h) (Or.inl ⟨by rfl, ?_⟩) hHeld ?_
          · intro w' hS; go_simp
          try simp only [Act.put, List.setIfInBounds_toArray, List.set_cons_zero, List.set_cons_succ]
          refine take_at12 (i := 4) (d := 35) (v := .slice (some ⟨g, 0, none⟩) n c) rfl rfl (by kernel_rfl) (by kernel_rfl) (by kernel_rfl) (fun _ _ _ h => h) (Or.inl ⟨by rfl, ?_⟩) hHeld ?_
          · intro w' hS; go_simp
          try simp only [Act.put, List.setIfInBounds_toArray, List.set_cons_zero, List.set_cons_succ]
          refine take_at12 (i := 5) (d := 36) (v := .int .i64 (k : Int)) rfl rfl (by kernel_rfl) (by kernel_rfl) (by kernel_rfl) (fun _ _ _ h => h) (Or.inl ⟨by rfl, ?_⟩) hHeld ?_
          · intro w' hS; go_simp
          try simp only [Act.put, List.setIfInBounds_toArray, List.set_cons_zero, List.set_cons_succ]
          refine take_at12 (i := 6) (d := 37) (v := .pointer (some ⟨g, k, none⟩)) rfl rfl (by kernel_rfl) (by kernel_rfl) (by kernel_rfl) (fun _ _ _ h => h) (Or.inl ⟨by rfl, ?_⟩) hHeld ?_
          · intro w' hS; go_simp
          try simp only [Act.put, List.setIfInBounds_toArray, List.set_cons_zero, List.set_cons_succ]
          refine take_at12 (i := 7) (d := 38) (v := .int .i64 x) rfl rfl (by kernel_rfl) (by kernel_rfl) (by kernel_rfl) (fun _ _ _ h => h) (Or.inl ⟨by rfl, ?_⟩) hHeld ?_
          · intro w' hS; have h7 : w'.cell? ⟨g, k, none⟩ = some (.int .i64 x) := by { rw [Below.cell hS (p := ⟨g, k, none⟩) (by show g < wr.heap.size; have := HB.out.size; omega)]; exact a2 }; go_simp
          try simp only [Act.put, List.setIfInBounds_toArray, List.set_cons_zero, List.set_cons_succ]
          refine take_at12 (i := 10) (d := 41) (v := .slice (some ⟨g', 0, none⟩) K c') rfl rfl (by kernel_rfl) (by kernel_rfl) (by kernel_rfl) (fun _ _ _ h => h) (Or.inl ⟨by rfl, ?_⟩) hHeld ?_
          · intro w' hS; go_simp
          try simp only [Act.put, List.setIfInBounds_toArray, List.set_cons_zero, List.set_cons_succ]
          refine take_at12 (i := 11) (d := 42) (v := .int .i64 ((s + 1 : Nat) : Int)) rfl rfl (by kernel_rfl) (by kernel_rfl) (by kernel_rfl) (fun _ _ _ h => h) (Or.inl ⟨by rfl, ?_⟩) hHeld ?_
          · intro w' hS; go_simp
          try simp only [Act.put, List.setIfInBounds_toArray, List.set_cons_zero, List.set_cons_succ]
          refine take_at12 (i := 12) (d := 43) (v := .slice (some AD) (K - (s + 1)) (c' - (s + 1))) rfl rfl (by kernel_rfl) (by kernel_rfl) (by kernel_rfl) (fun _ _ _ h => h) (Or.inl ⟨by rfl, ?_⟩) hHeld ?_
          · intro w' hS; go_simp
          try simp only [Act.put, List.setIfInBounds_toArray, List.set_cons_zero, List.set_cons_succ]
          refine wpAnyH_ready (rs := [3, 8]) (by kernel_rfl) (by simp) ?_
          refine AllReadyH.cons rfl (fun K' hK' => ?_) (AllReadyH.cons rfl (fun K' hK' => ?_) AllReadyH.nil)
          · skip
            go_simp
            go_at_call 94; refine (specOwn_any (seen_below HSE.out hHeld)).mono ?_; rintro e w1 ⟨v1, rfl, hr1, hb1⟩
            obtain ⟨o1, c1, rfl⟩ := row_slice hr1
            go_simp
            refine hK'.out _ _ (hHeld.trans (hb1.mono hHeld.size)) (fun hHeld2 => ?_)
            clear hK' K'
            try simp only [Act.put, List.setIfInBounds_toArray, List.set_cons_zero, List.set_cons_succ]
            refine wpAnyH_ready (rs := [8]) (by kernel_rfl) (by simp) ?_
            refine AllReadyH.cons rfl (fun K' hK' => ?_) AllReadyH.nil
            go_simp
            refine hK'.out _ _ (hHeld2.alloc hHeld2.size _) (fun hHeld3 => ?_)
            clear hK' K'
            try simp only [Act.put, List.setIfInBounds_toArray, List.set_cons_zero, List.set_cons_succ]
            have HR1 := Lib.hid (World.ownsRow.alloc (intRow_lower hr1 hHeld.size) (.cells #[.int .i64 x] 2))
            have HCX := Lib.hid (news_one w1 (.int .i64 x) 2)
            clear hr1 hb1
            refine wpAnyH_ready (rs := [9]) (by kernel_rfl) (by simp) ?_
            refine AllReadyH.cons rfl (fun K' hK' => ?_) AllReadyH.nil
            rw [if_pos (by rfl)]
            have hlt3 := HLT.out
            refine wp_append_own _ (.tmp 34) (.tmp 39) 26 rfl wr.heap.size 2 i0 (.int .i64 0) 1 8 Try.underlying26 HI.out HZ0.out HZ1.out HZ2.out rfl (by decide) _ _ _ rfl HR1.out ⟨w1.heap.size, 0, none⟩ 1 1 [.int .i64 x] rfl rfl HCX.out (one_one _) (by unfold maxLen; omega) (by omega) hHeld3.size ?_
            intro v2 w2 hown2 hgrow2 _
            have hb2 := below_grown hHeld3 HR1.out hgrow2 (Nat.le_refl _) hHeld3.size
            refine hK'.out _ _ hb2 (fun hHeld7 => ?_)
            clear hK' K' hgrow2
            try simp only [Act.put, List.setIfInBounds_toArray, List.set_cons_zero, List.set_cons_succ]
            refine wpAnyH_ready (rs := [13]) (by kernel_rfl) (by simp) ?_
            refine AllReadyH.cons rfl (fun K' hK' => ?_) AllReadyH.nil
            rw [if_pos (by rfl)]
            refine wp_append_own _ (.tmp 40) (.tmp 43) 26 rfl wr.heap.size 2 i0 (.int .i64 0) 1 8 Try.underlying26 HI.out HZ0.out HZ1.out HZ2.out rfl (by decide) _ _ _ rfl hown2 AD (K - (s + 1)) (c' - (s + 1)) ((l.drop ((s + 1))).map (Value.int .i64)) rfl (by rw [List.length_map, List.length_drop, HKK.out, Nat.mul_one]; try rfl) (HCD.out w2 hb2) (oneCell_map _) (by unfold maxLen; omega) (by omega) hb2.size ?_
            intro v3 w3 hown3 hgrow3 hnil3
            have hb3 := below_grown hb2 hown2 hgrow3 (Nat.le_refl _) hb2.size
            refine hK'.out _ _ hb3 (fun hHeld8 => ?_)
            clear hK' K' hgrow3
            try simp only [Act.put, List.setIfInBounds_toArray, List.set_cons_zero, List.set_cons_succ]
            rw [← HTL.out] at hown3
            have HO3 := Lib.hid (put_row hown3 htK HKK.out)
            have hlen := put_length (x := x) (show (s + 1) ≤ l.length by rw [HKK.out]; exact htK)
            obtain ⟨Z, hZ⟩ : ∃ Z, l.take ((s + 1)) ++ [x] ++ l.drop ((s + 1)) = Z := ⟨_, rfl⟩
            have HZM := Lib.hid (fun y => mem_put (l := l) (x := x) (y := y) ((s + 1)))
            rw [hZ] at hlen HP HZM HO3
            obtain ⟨g5, c5, rfl⟩ := put_form HO3.out (by omega)
            have HLEN := Lib.hid hlen
            clear hown2 hown3 hnil3 hb2 hHeld7 hZ hlen
            refine take_at12 (i := 14) (d := 3) (v := .slice (some ⟨g5, 0, none⟩) Z.length c5) rfl rfl (by kernel_rfl) (by kernel_rfl) (by kernel_rfl) (fun _ _ _ h => h) (Or.inl ⟨by rfl, ?_⟩) hHeld8 ?_
            · intro w' hS; go_simp
            try simp only [Act.put, List.setIfInBounds_toArray, List.set_cons_zero, List.set_cons_succ]
            refine wpAnyH_done (by kernel_rfl) ?_ _
            clear hHeld8
            go_wp2_with fail
            exact ⟨⟨k + 1, Z, g5, c5, by first | rfl | go_num, by omega, rfl, intRow_lower HO3.out HB.out.size, HP.out, (fun y => by rw [HZM.out, HN.out, HM.out]), by have := HLEN.out; have := HKK.out; omega, HB.out.trans (hb3.mono HB.out.size)⟩, by simp only [intOf]; omega⟩
          · skip
            go_simp
            refine hK'.out _ _ (hHeld.alloc hHeld.size _) (fun hHeld2 => ?_)
            clear hK' K'
            try simp only [Act.put, List.setIfInBounds_toArray, List.set_cons_zero, List.set_cons_succ]
            refine wpAnyH_ready (rs := [3]) (by kernel_rfl) (by simp) ?_
            refine AllReadyH.cons rfl (fun K' hK' => ?_) AllReadyH.nil
            go_simp
            go_at_call 94; refine (specOwn_any (seen_below HSE.out hHeld2)).mono ?_; rintro e w1 ⟨v1, rfl, hr1, hb1⟩
            obtain ⟨o1, c1, rfl⟩ := row_slice hr1
            go_simp
            refine hK'.out _ _ (hHeld2.trans (hb1.mono hHeld2.size)) (fun hHeld3 => ?_)
            clear hK' K'
            try simp only [Act.put, List.setIfInBounds_toArray, List.set_cons_zero, List.set_cons_succ]
            have HR1 := Lib.hid (show IntRow wr.heap.size w1 _ _ from intRow_lower hr1 hHeld2.size)
            have HCX := Lib.hid (fun j u hu => (show w1.cell? ((⟨W1.heap.size, 0, none⟩ : Addr).add j) = some u by rw [hb1.cell (by rw [addr_block]; simp)]; exact news_one W1 (.int .i64 x) 2 j u hu))
            clear hr1 hb1
            refine wpAnyH_ready (rs := [9]) (by kernel_rfl) (by simp) ?_
            refine AllReadyH.cons rfl (fun K' hK' => ?_) AllReadyH.nil
            rw [if_pos (by rfl)]
            have hlt3 := HLT.out
            refine wp_append_own _ (.tmp 34) (.tmp 39) 26 rfl wr.heap.size 2 i0 (.int .i64 0) 1 8 Try.underlying26 HI.out HZ0.out HZ1.out HZ2.out rfl (by decide) _ _ _ rfl HR1.out ⟨W1.heap.size, 0, none⟩ 1 1 [.int .i64 x] rfl rfl HCX.out (one_one _) (by unfold maxLen; omega) (by omega) hHeld3.size ?_
            intro v2 w2 hown2 hgrow2 _
            have hb2 := below_grown hHeld3 HR1.out hgrow2 (Nat.le_refl _) hHeld3.size
            refine hK'.out _ _ hb2 (fun hHeld7 => ?_)
            clear hK' K' hgrow2
            try simp only [Act.put, List.setIfInBounds_toArray, List.set_cons_zero, List.set_cons_succ]
            refine wpAnyH_ready (rs := [13]) (by kernel_rfl) (by simp) ?_
            refine AllReadyH.cons rfl (fun K' hK' => ?_) AllReadyH.nil
            rw [if_pos (by rfl)]
            refine wp_append_own _ (.tmp 40) (.tmp 43) 26 rfl wr.heap.size 2 i0 (.int .i64 0) 1 8 Try.underlying26 HI.out HZ0.out HZ1.out HZ2.out rfl (by decide) _ _ _ rfl hown2 AD (K - (s + 1)) (c' - (s + 1)) ((l.drop ((s + 1))).map (Value.int .i64)) rfl (by rw [List.length_map, List.length_drop, HKK.out, Nat.mul_one]; try rfl) (HCD.out w2 hb2) (oneCell_map _) (by unfold maxLen; omega) (by omega) hb2.size ?_
            intro v3 w3 hown3 hgrow3 hnil3
            have hb3 := below_grown hb2 hown2 hgrow3 (Nat.le_refl _) hb2.size
            refine hK'.out _ _ hb3 (fun hHeld8 => ?_)
            clear hK' K' hgrow3
            try simp only [Act.put, List.setIfInBounds_toArray, List.set_cons_zero, List.set_cons_succ]
            rw [← HTL.out] at hown3
            have HO3 := Lib.hid (put_row hown3 htK HKK.out)
            have hlen := put_length (x := x) (show (s + 1) ≤ l.length by rw [HKK.out]; exact htK)
            obtain ⟨Z, hZ⟩ : ∃ Z, l.take ((s + 1)) ++ [x] ++ l.drop ((s + 1)) = Z := ⟨_, rfl⟩
            have HZM := Lib.hid (fun y => mem_put (l := l) (x := x) (y := y) ((s + 1)))
            rw [hZ] at hlen HP HZM HO3
            obtain ⟨g5, c5, rfl⟩ := put_form HO3.out (by omega)
            have HLEN := Lib.hid hlen
            clear hown2 hown3 hnil3 hb2 hHeld7 hZ hlen
            refine take_at12 (i := 14) (d := 3) (v := .slice (some ⟨g5, 0, none⟩) Z.length c5) rfl rfl (by kernel_rfl) (by kernel_rfl) (by kernel_rfl) (fun _ _ _ h => h) (Or.inl ⟨by rfl, ?_⟩) hHeld8 ?_
            · intro w' hS; go_simp
            try simp only [Act.put, List.setIfInBounds_toArray, List.set_cons_zero, List.set_cons_succ]
            refine wpAnyH_done (by kernel_rfl) ?_ _
            clear hHeld8
            go_wp2_with fail
            exact ⟨⟨k + 1, Z, g5, c5, by first | rfl | go_num, by omega, rfl, intRow_lower HO3.out HB.out.size, HP.out, (fun y => by rw [HZM.out, HN.out, HM.out]), by have := HLEN.out; have := HKK.out; omega, HB.out.trans (hb3.mono HB.out.size)⟩, by simp only [intOf]; omega⟩
    · have hkn : k = list.length := by have := HL.out; omega
      have HB := Lib.hid hb
      have HR := Lib.hid hrow
      have HM := Lib.hid (show ∀ y, y ∈ l ↔ y ∈ list from fun y => by rw [hmem, hkn, List.take_length])
      have HIN := Lib.hid hinc
      clear hkn hb hrow hmem hinc
      go_wp2_with fail
      go_ret
      exact ⟨_, l, rfl, HR.out, HIN.out, HM.out, HB.out⟩
end Go.Proofs.Ytckpeoadglkbgaa
namespace Go.Proofs.Ytckpeoadglkbgaa
open Go.RowKit
set_option linter.unusedVariables false
theorem sort_own {base g cap : Nat} {w : World} {l : List Int} (h : IntRow base w (.slice (some ⟨g, 0, none⟩) l.length cap) l) (hl : l.length ≤ 1000000) :
    Calls Try.prog 92 #[.slice (some ⟨g, 0, none⟩) l.length cap] w fun e w' =>
      e = .returned (.tuple #[]) ∧ IntRow base w' (.slice (some ⟨g, 0, none⟩) l.length cap) (l.mergeSort fun x y => decide (x ≤ y)) ∧ w.grownBy w' (some g) := by
  rcases h.2 with ⟨h', _⟩ | ⟨g', cap', cur, h', hb, hg, h1, h2, h3, h4⟩
  · cases h'
  · cases h'
    have hlt := (Array.getElem?_eq_some_iff.1 hg).1
    have hH := holds_of_blockI hg (ss := l) (by rw [← h4, Nat.mul_one])
    have hcon := AnyG.slices_Sort_int Try.sortL g 0 cap l w hH hlt (by omega)
    refine (show Calls Try.prog 92 _ _ _ from hcon).mono fun e w' ⟨he, n, os, hw⟩ => ⟨he, ?_, ?_⟩
    · rw [hw]
      have := ownsRow_sortedI (n := n) (os := os) (ss := l) (ts := l.mergeSort fun x y => decide (x ≤ y)) (List.length_mergeSort _) hb hg h1 h2 h3
      unfold IntRow
      rw [List.length_mergeSort]
      exact this
    · rw [hw]; exact grownBy_sortedI _
end Go.Proofs.Ytckpeoadglkbgaa
namespace Go.Proofs.Ytckpeoadglkbgaa
open Go.RowKit Go.Shelf
set_option linter.unusedVariables false
set_option linter.unusedSimpArgs false
set_option maxRecDepth 20000
def rtsL (M : Int) (f : List Int) : List Int := if (rootsA M f).length ≤ 60 then rootsA M f else []
def rtsC (M : Int) (f : List Int) : Int := if (rootsA M f).length ≤ 60 then 0 else 3
theorem sort_roots {M : Int} {f l : List Int} (hM : 0 < M) (h : Each l (RootAt M f 1 0)) : l.mergeSort (fun x y => decide (x ≤ y)) = rootsA M f := by
  have hp := List.mergeSort_perm l (fun x y => decide (x ≤ y))
  have hs : (l.mergeSort (fun x y => decide (x ≤ y))).Pairwise (fun a b => decide (a ≤ b) = true) := List.pairwise_mergeSort (fun a b c h1 h2 => by simp at *; omega) (fun a b => by simp; omega) l
  have hn : (l.mergeSort (fun x y => decide (x ≤ y))).Nodup := hp.nodup_iff.2 h.1
  refine each_sorted hM h ?_ fun y => hp.mem_iff
  exact (hs.and hn).imp fun {a b} hab => by
    have h1 := hab.1
    have h2 : a ≠ b := hab.2
    simp at h1; omega
theorem span_take (M a b : Int) (j : Nat) (h : j < (M / b).toNat) : (spanL M a b).take (j + 1) = (spanL M a b).take j ++ [a + b * (j : Int)] := by
  rw [List.take_add_one]
  congr 1
  unfold spanL
  rw [List.getElem?_map, List.getElem?_range h]; rfl
theorem span_all (M a b : Int) : (spanL M a b).take (M / b).toNat = spanL M a b := List.take_of_length_le (by rw [spanL_length]; exact Nat.le_refl _)
theorem expL_step {M : Int} {L : List (Int × Int)} {k : Nat} (h : k < L.length) : expL M (L.take (k + 1)) = expL M (L.take k) ++ spanL M (L.getD k (0, 0)).1 (L.getD k (0, 0)).2 := by
  have e : L.getD k (0, 0) = L[k] := by simp [List.getD, h]
  rw [List.take_add_one, List.getElem?_eq_getElem h, Option.toList_some, expL_append, expL_one, e]
/-- a slot is less than the modulus just as long as the class goes on -/
theorem span_less {M a b : Int} {j : Nat} (h0 : 0 ≤ a) (h1 : a < b) (hb : b ∣ M) (hM : 0 < M) : a + b * (j : Int) < M ↔ j < (M / b).toNat := by
  obtain ⟨c, hc⟩ := hb
  have hb0 : 0 < b := by omega
  have e : M / b = c := by rw [hc, Int.mul_ediv_cancel_left _ (by omega)]
  rw [e]
  constructor
  · intro h
    have : (j : Int) < c := by
      rcases (show (j : Int) < c ∨ c ≤ (j : Int) by omega) with h3 | h3
      · exact h3
      · have := Int.mul_le_mul_of_nonneg_left h3 (show 0 ≤ b by omega); omega
    omega
  · intro h
    have := Int.mul_le_mul_of_nonneg_left (show (j : Int) + 1 ≤ c by omega) (show 0 ≤ b by omega)
    rw [Int.mul_add, Int.mul_one] at this
    omega
theorem cls_next {b : Nat} {w w' : World} {v : Value} {l : List (Int × Int)} (h : ClsRow b w v l) (hb : Below w.heap.size w w') : ClsRow b w' v l :=
  World.ownsRow.kept (row := none) h ⟨hb.os, hb.tape, hb.output, hb.size, fun j hj _ => hb.block j hj⟩ (by cases hv : v.ownBlock <;> simp)
def ClsAt (W : World) (k : Nat) (a b : Int) : Prop := W.heap[k]? = some (.cells #[.int .i64 a, .int .i64 b] 87 (0, 0))
theorem clsAt_cells {W : World} {k : Nat} {a b : Int} (h : ClsAt W k a b) : W.cell? ⟨k, 0, none⟩ = some (.int .i64 a) ∧ W.cell? ⟨k, 1, none⟩ = some (.int .i64 b) := by
  unfold ClsAt at h
  constructor <;> (unfold World.cell?; rw [show W.heap[(⟨k, _, none⟩ : Addr).block]? = _ from h]; rfl)
theorem clsAt_below {W W' : World} {k : Nat} {a b : Int} (h : ClsAt W k a b) (hb : Below W.heap.size W W') : ClsAt W' k a b := (hb.block k (Array.getElem?_eq_some_iff.1 h).1).trans h
theorem clsAt_grown {W W' : World} {k c : Nat} {a b : Int} {v : Value} {l : List Int} (h : ClsAt W k a b) (hr : IntRow c W v l) (hg : W.grownBy W' v.ownBlock) : ClsAt W' k a b := by
  refine (hg.block k (Array.getElem?_eq_some_iff.1 h).1 fun e => ?_).trans h
  rcases hr.2 with ⟨rfl, _⟩ | ⟨g, cap, cur, rfl, _, hgb, _⟩
  · simp [Value.ownBlock] at e
  · have : k = g := by simpa [Value.ownBlock] using e
    subst this
    unfold ClsAt at h
    rw [hgb] at h
    simp at h
set_option maxHeartbeats 8000000 in
theorem rootsR_any {p q M : Int} (hR : ringM p q = M) (h0 : ringM p q ≠ 0) {o : Option Addr} {n c : Nat} {f : List Int} {w : World} (h : Seen w o n c f) (hn9 : n ≤ 9) :
    Calls Try.prog 68 #[.agg #[.int .i64 p, .int .i64 q], .slice o n c] w (IntPost (rtsL M f) (rtsC M f) w) := by
  obtain ⟨hp2, hp97, hn1, hn2, m2, m9, hpm⟩ := ringM_bd h0
  rw [hR] at m2 m9 hpm
  have HS := Lib.hid h
  have HCL := Lib.hid fun (W : World) (hw : Below w.heap.size w W) => classes_any hR h0 (seen_below h hw) hn9
  have HCN := Lib.hid fun (W : World) (b : Nat) (o : Option Addr) (c : Nat) (L : List (Int × Int)) (h : ClsRow b W (.slice o L.length c) L) (hc : ∀ x ∈ L, ClsOk M x) (hl : ((expL M L).length : Int) ≤ 1000000000) (hl2 : (L.length : Int) ≤ 1000000000) => countCls_any hR m2 m9 h hc hl hl2
  have HM := Lib.hid fun w => modulusR_any hR w
  obtain ⟨i0, hi, hz0, hz1, hz2⟩ := info_parts Try.infoInt64
  have HI := Lib.hid hi
  have HZ0 := Lib.hid hz0
  have HZ1 := Lib.hid hz1
  have HZ2 := Lib.hid hz2
  clear hi hz0 hz1 hz2 h h0 hR
  go_enter Try.func68, Try.ntmps68
  go_wp2_with (go_at_call 73; refine (HCL.out _ ((Below.refl _ _).alloc (Nat.le_refl _) _)).mono ?_; rintro e w3 ⟨v3, L, rfl, hrow, hE, hO, hL, hb⟩; obtain ⟨o3, c3, rfl⟩ := own_slice hrow; obtain ⟨hB, c0, c1⟩ := keep_first hb)
  have hlen := each_len (by omega) hE
  have hle : (rootsA M f).length ≤ M.toNat := rootsM_len _ _ _
  have HROW := Lib.hid (show ClsRow (alR w p q).heap.size w3 (.slice o3 L.length c3) L from hrow)
  have HE := Lib.hid hE
  have HO := Lib.hid hO
  have HBB := Lib.hid (show Below (alR w p q).heap.size (alR w p q) w3 from hb)
  have HCX := Lib.hid (HCN.out w3 _ _ _ L hrow hO (by omega) (by omega))
  rw [hlen] at HCX
  have HLEN := Lib.hid hlen
  have hLM := hL
  clear hrow hE hO hb hlen hL HCN HCL
  obtain ⟨A, hA⟩ : ∃ A, (rootsA M f).length = A := ⟨_, rfl⟩
  rw [hA] at HCX hle HLEN
  by_cases hbig : 60 < A
  · have e1 : rtsL M f = [] := by rw [rtsL, if_neg (by omega)]
    have e2 : rtsC M f = 3 := by rw [rtsC, if_neg (by omega)]
    have E1 := Lib.hid e1
    have E2 := Lib.hid e2
    have hbig' : (60 : Int) < (A : Int) := by omega
    clear e1 e2 hA
    go_wp2_with (go_at_call 72; refine HCX.out.mono ?_; rintro e w4 ⟨rfl, hb4⟩)
    go_ret2
    exact ⟨.slice none 0 0, by rw [E2.out]; rfl, by rw [E1.out]; exact intRow_nil _ _, hB.trans (hb4.mono hB.size)⟩
  have hbig' : ¬ (60 : Int) < (A : Int) := by omega
  have E1 := Lib.hid (show rtsL M f = rootsA M f by rw [rtsL, if_pos (by omega)])
  have E2 := Lib.hid (show rtsC M f = 0 by rw [rtsC, if_pos (by omega)])
  have HA := Lib.hid hA
  clear hA
  go_wp2_with (go_at_call 72; refine HCX.out.mono ?_; rintro e w4 ⟨rfl, hb4⟩; have HB4 := Lib.hid (HBB.out.trans (hb4.mono HBB.out.size)); have HR4 := Lib.hid (cls_next HROW.out hb4); clear hB c0 c1 hb4)
  go_loopw [7, 20] (fun v i wr => ∃ k : Nat, i = .int .i64 k ∧ k ≤ L.length ∧ IntRow (alR w p q).heap.size wr v (expL M (L.take k)) ∧ ClsRow (alR w p q).heap.size wr (.slice o3 L.length c3) L ∧ Below (alR w p q).heap.size (alR w p q) wr) (fun _ i _ => L.length - (intOf i).toNat)
  case atStart => exact ⟨0, rfl, Nat.zero_le _, intRow_nil _ _, HR4.out, HB4.out⟩
  case round =>
    obtain ⟨k, rfl, hk, hr, hc, hb⟩ := hrel
    by_cases hlt : k < L.length
    · obtain ⟨g, rfl, hg, d0, d1⟩ := cls_cells hc hlt
      have ee : L.getD k (0, 0) = L[k] := by simp [List.getD, hlt]
      have hok := HO.out _ (List.getElem_mem hlt)
      have hst := expL_step (M := M) hlt
      have hle2 := expL_le M L (k + 1)
      rw [← ee] at hok
      obtain ⟨a, ha⟩ : ∃ a, (L.getD k (0, 0)).1 = a := ⟨_, rfl⟩
      obtain ⟨b, hbb⟩ : ∃ b, (L.getD k (0, 0)).2 = b := ⟨_, rfl⟩
      have hok1 := hok.1
      have hok2 := hok.2.1
      have hok3 := hok.2.2
      rw [ha] at d0 hst hok1 hok2
      rw [hbb] at d1 hst hok2 hok3
      have hbM : b ≤ M := Int.le_of_dvd (by omega) hok3
      have HST := Lib.hid hst
      have HLE := Lib.hid hle2
      have HD := Lib.hid hok3
      have HC := Lib.hid hc
      have HR := Lib.hid hr
      have HB := Lib.hid hb
      obtain ⟨hB, c0, c1⟩ := alR_keep hb
      have hW1 := Lib.hid (show Below (alR w p q).heap.size (alR w p q) (wr.alloc (.cells #[.int .i64 a, .int .i64 b] 87)) from hb.alloc hb.size _)
      have HX0 := Lib.hid (show ClsAt (wr.alloc (.cells #[.int .i64 a, .int .i64 b] 87)) wr.heap.size a b from heap_alloc_new wr _)
      have x00 : (wr.alloc (.cells #[.int .i64 a, .int .i64 b] 87)).cell? ⟨wr.heap.size, 0, none⟩ = some (.int .i64 a) := World.cell?_alloc_new _ _ _ _ ▸ rfl
      clear ee hok hst hle2 ha hbb hok3 hc hr hb hB c0 c1
      go_wp2_with fail
      go_loopw [7, 10] (fun v x W => ∃ j : Nat, x = .int .i64 (a + b * (j : Int)) ∧ j ≤ (M / b).toNat ∧ IntRow (alR w p q).heap.size W v (expL M (L.take k) ++ (spanL M a b).take j) ∧ ClsRow (alR w p q).heap.size W (.slice (some ⟨g, 0, none⟩) L.length c3) L ∧ Below (alR w p q).heap.size (alR w p q) W ∧ ClsAt W wr.heap.size a b) (fun _ x _ => (M - intOf x).toNat)
      case atStart => exact ⟨0, by simp, Nat.zero_le _, by rw [List.take_zero, List.append_nil]; exact World.ownsRow.alloc HR.out _, World.ownsRow.alloc HC.out _, hW1.out, HX0.out⟩
      case round =>
        obtain ⟨j, rfl, hj, hr, hc, hb, hx⟩ := hrel
        obtain ⟨hB, c0, c1⟩ := alR_keep hb
        have HR2 := Lib.hid hr
        have HC2 := Lib.hid hc
        have HB2 := Lib.hid hb
        have HX2 := Lib.hid hx
        have hbj : 0 ≤ b * (j : Int) := Int.mul_nonneg (by omega) (by omega)
        have hlen3 : (expL M (L.take k) ++ (spanL M a b).take j).length ≤ 60 := by
          have h1 := HLE.out
          rw [HST.out, List.length_append] at h1
          have h2 : ((spanL M a b).take j).length ≤ (spanL M a b).length := by rw [List.length_take]; omega
          have h3 := HLEN.out
          rw [List.length_append]; omega
        have hsl := span_less (j := j) hok1 hok2 HD.out (by omega)
        clear hr hc hb hx
        obtain ⟨AC, hAC⟩ : ∃ AC, expL M (L.take k) ++ (spanL M a b).take j = AC := ⟨_, rfl⟩
        rw [hAC] at HR2 hlen3
        have HAC := Lib.hid hAC
        clear hAC
        by_cases hlt2 : j < (M / b).toNat
        · have hless := hsl.2 hlt2
          have wS : IntKind.i64.wrap (a + b * (j : Int) + b) = a + b * ((j + 1 : Nat) : Int) := by
            rw [show a + b * ((j + 1 : Nat) : Int) = a + b * (j : Int) + b by push_cast; rw [Int.mul_add, Int.mul_one]; omega]
            exact IntWalk.i64_in _ (by omega)
          have HSP := Lib.hid (span_take M a b j hlt2)
          clear hsl
          go_wp2_with (first | (go_at_call 71; refine (HM.out _).mono ?_; rintro e w5 ⟨rfl, hb5⟩; have HB5 := Lib.hid (HB2.out.trans (hb5.mono HB2.out.size)); have HR5 := Lib.hid (row_next11 HR2.out hb5); have HC5 := Lib.hid (cls_next HC2.out hb5); have HX5 := Lib.hid (clsAt_below HX2.out hb5); clear hb5) | (at_builtin; refine wpList_append_own _ rfl (.tmp 34) (.tmp 36) 26 rfl (alR w p q).heap.size 2 i0 (.int .i64 0) 1 8 Try.underlying26 HI.out HZ0.out HZ1.out HZ2.out rfl (by decide) _ _ _ rfl (World.ownsRow.alloc HR5.out _) ⟨w5.heap.size, 0, none⟩ 1 1 [.int .i64 (a + b * (j : Int))] rfl rfl ?c1 ?c2 ?c3 ?c4 ?c5 ?_))
          case c1 => exact news_one _ _ _
          case c2 => exact one_one _
          case c3 => unfold maxLen; omega
          case c4 => omega
          case c5 => have := HB5.out.size; simp; omega
          intro v' w6 hown hgrow _
          have HO6 := Lib.hid (intRow_snoc hown)
          have HG6 := Lib.hid (below_appendI HB5.out HR5.out hgrow)
          have HC6 := Lib.hid (show ClsRow (alR w p q).heap.size w6 _ L from World.ownsRow.kept (World.ownsRow.alloc HC5.out _) hgrow (rows_apart HC5.out HR5.out (by decide)))
          have HX6 := Lib.hid (clsAt_grown (clsAt_below HX5.out (below_a8 w5 (.cells #[.int .i64 (a + b * (j : Int))] 2))) (World.ownsRow.alloc HR5.out _) hgrow)
          obtain ⟨s0, s1⟩ := clsAt_cells HX6.out
          clear hown hgrow
          go_wp2_with fail
          go_roundw
          case rel => exact ⟨j + 1, rfl, by omega, by rw [HSP.out, ← List.append_assoc, HAC.out]; exact HO6.out, HC6.out, HG6.out, HX6.out⟩
          case measure => simp only [intOf]; push_cast; rw [Int.mul_add]; omega
        · have hjm : j = (M / b).toNat := by omega
          have hnl : ¬ a + b * (j : Int) < M := fun h => hlt2 (hsl.1 h)
          have HJ := Lib.hid (show (spanL M a b).take j = spanL M a b by rw [hjm]; exact span_all M a b)
          clear hsl hjm
          go_wp2_with (go_at_call 71; refine (HM.out _).mono ?_; rintro e w5 ⟨rfl, hb5⟩; have HB5 := Lib.hid (HB2.out.trans (hb5.mono HB2.out.size)); have HR5 := Lib.hid (row_next11 HR2.out hb5); have HC5 := Lib.hid (cls_next HC2.out hb5); clear hb5)
          rw [← HAC.out, HJ.out] at HR5
          exact ⟨⟨k + 1, by first | rfl | go_num, by omega, by rw [HST.out]; exact HR5.out, HC5.out, HB5.out⟩, by simp only [intOf]; omega⟩
    · have hkl : k = L.length := by omega
      have HSR := Lib.hid (sort_roots (by omega) HE.out)
      rw [hkl, List.take_length] at hr
      have hbw := hb.size
      have HL := Lib.hid HLEN.out
      obtain ⟨l, hl⟩ : ∃ l, expL M L = l := ⟨_, rfl⟩
      rw [hl] at hr HSR HL
      clear hkl hl hc
      rcases hr.2 with ⟨rfl, hn0⟩ | ⟨g, cap, cur, rfl, hrest⟩
      · have hl0 : l = [] := List.length_eq_zero_iff.1 hn0
        subst hl0
        have HBE := Lib.hid (alR_keep hb).1
        clear hb hr hn0
        go_wp2_with (go_at_call 92; refine (show Calls Try.prog 92 _ _ _ from AnyG.slices_Sort_int_none Try.sortL none 0 wr).mono ?_; rintro e w5 ⟨rfl, rfl⟩)
        go_ret2
        exact ⟨.slice none 0 0, by rw [E2.out]; rfl, by rw [E1.out, ← HSR.out, List.mergeSort_nil]; exact intRow_nil _ _, HBE.out⟩
      · have HRR := Lib.hid hr
        have HBE := Lib.hid hb
        have hl6 : l.length ≤ 1000000 := by have := HL.out; omega
        clear hb hr hrest
        go_wp2_with (go_at_call 92; refine (sort_own HRR.out hl6).mono ?_; rintro e w5 ⟨rfl, hr5, hg5⟩)
        have HR5 := Lib.hid (show IntRow w.heap.size w5 _ (rootsA M f) by rw [← HSR.out]; exact intRow_lower hr5 (alR_size w p q))
        have HB5 := Lib.hid (alR_keep (below_grown HBE.out HRR.out hg5 (Nat.le_refl _) HBE.out.size)).1
        go_ret2
        exact ⟨.slice (some ⟨g, 0, none⟩) l.length cap, by rw [E2.out]; rfl, by rw [E1.out]; exact HR5.out, HB5.out⟩
end Go.Proofs.Ytckpeoadglkbgaa
namespace Go.Proofs.Ytckpeoadglkbgaa
open Go.RowKit
set_option linter.unusedVariables false
set_option linter.unusedSimpArgs false
set_option maxRecDepth 20000
theorem rts_yes {M : Int} {f l k : List Int} (hM : 0 < M) (h : Each l (RootAt M f 1 0)) (hl : l.length ≤ 60) (hk : Incr k) (hm : ∀ y, y ∈ k ↔ y ∈ l) : k = rtsL M f ∧ rtsC M f = 0 := by
  have e := each_len hM h
  rw [rtsL, rtsC, if_pos (by omega), if_pos (by omega)]
  exact ⟨each_sorted hM h hk hm, rfl⟩
theorem rts_no {M : Int} {f l : List Int} (hM : 0 < M) (h : Some1 l (RootAt M f 1 0)) (hl : 60 < l.length) : rtsL M f = [] ∧ rtsC M f = 3 := by
  have e := some_len hM h
  rw [rtsL, rtsC, if_neg (by omega), if_neg (by omega)]
  exact ⟨rfl, rfl⟩
theorem rtsL_len (M : Int) (f : List Int) : (rtsL M f).length ≤ 1000 := by
  unfold rtsL
  split
  · omega
  · simp
def rirL (p n : Int) (f : List Int) : List Int := if simC p n f = 0 then rtsL (ringM p n) f else []
def rirC (p n : Int) (f : List Int) : Int := if simC p n f = 0 then rtsC (ringM p n) f else simC p n f
theorem rirL_len (p n : Int) (f : List Int) : (rirL p n f).length ≤ 1000 := by
  unfold rirL
  split
  · exact rtsL_len _ _
  · simp
set_option maxHeartbeats 2000000 in
theorem specRootsIn_any (p n : Int) {o : Option Addr} {k c : Nat} {f : List Int} {w : World} (h : Seen w o k c f) :
    Calls Try.prog 27 #[.agg #[.int .i64 p, .int .i64 n], .slice o k c] w (IntPost (rirL p n f) (rirC p n f) w) := by
  have HS := Lib.hid h
  clear h
  by_cases h0 : ringM p n = 0
  · have hd := ringB_f h0
    have e0 : simC p n f = 1 := by simp [simC, h0]
    have E1 := Lib.hid (show rirL p n f = [] by simp [rirL, e0])
    have E2 := Lib.hid (show rirC p n f = 1 by simp [rirC, e0])
    clear h0 e0
    go_enter Try.func27, Try.ntmps27
    go_wp2_with (go_at_call 47; refine (specIsRing_any _ _ _).mono ?_; rintro e wn ⟨rfl, hb⟩; have hH := keep_first hb; obtain ⟨hB, c0, c1⟩ := hH)
    go_ret2
    exact ⟨.slice none 0 0, by rw [E2.out]; rfl, by rw [E1.out]; exact intRow_nil _ _, hB⟩
  have hd := ringB_t h0
  obtain ⟨hp2, hp97, hn1, hn2, hm1, hm2, _⟩ := ringM_bd h0
  cases hp : polyB f
  · have e0 : simC p n f = 1 := by simp [simC, h0, hp]
    have E1 := Lib.hid (show rirL p n f = [] by simp [rirL, e0])
    have E2 := Lib.hid (show rirC p n f = 1 by simp [rirC, e0])
    clear h0 e0
    go_enter Try.func27, Try.ntmps27
    go_wp2_with (first | (go_at_call 47; refine (specIsRing_any _ _ _).mono ?_; rintro e wn ⟨rfl, hb⟩; have hH := keep_first hb; obtain ⟨hB, c0, c1⟩ := hH) | (go_at_call 48; refine (specIsPoly_any (seen_below HS.out hB)).mono ?_; rw [hp]; rintro e w2 ⟨rfl, rfl⟩))
    go_ret2
    exact ⟨.slice none 0 0, by rw [E2.out]; rfl, by rw [E1.out]; exact intRow_nil _ _, hB⟩
  have e0 : simC p n f = 0 := by simp [simC, h0, hp]
  have E1 := Lib.hid (show rirL p n f = rtsL (ringM p n) f by simp [rirL, e0])
  have E2 := Lib.hid (show rirC p n f = rtsC (ringM p n) f by simp [rirC, e0])
  have HF := Lib.hid (poly_cof9 hp)
  have HRT := Lib.hid fun (W : World) (hw : Below w.heap.size w W) => l11Roots_any (p := p) (n := n) rfl h0 HF.out (seen_below HS.out hw)
  clear h0 e0
  go_enter Try.func27, Try.ntmps27
  go_wp2_with (first | (go_at_call 47; refine (specIsRing_any _ _ _).mono ?_; rintro e wn ⟨rfl, hb⟩; have hH := keep_first hb; clear hb; obtain ⟨hB, c0, c1⟩ := hH) | (go_at_call 48; refine (specIsPoly_any (seen_below HS.out hB)).mono ?_; rw [hp]; rintro e w2 ⟨rfl, rfl⟩))
  refine (HRT.out _ hB).mono ?_
  rintro e w3 ⟨g, c2, l, b, rfl, hr, ht, hf2, hl, hb⟩
  have hB3 := hB.trans (hb.mono hB.size)
  cases b
  · obtain ⟨h1, h2⟩ := hf2 rfl
    obtain ⟨e1, e2⟩ := rts_no (by omega) h1 h2
    have F1 := Lib.hid e1
    have F2 := Lib.hid e2
    clear ht hf2 h1 e1 e2
    go_wp2_with fail
    go_ret2
    exact ⟨.slice none 0 0, by rw [E2.out, F2.out]; rfl, by rw [E1.out, F1.out]; exact intRow_nil _ _, hB3⟩
  · obtain ⟨h1, h2⟩ := ht rfl
    have HH1 := Lib.hid h1
    have HSD := Lib.hid (sorted_any (row_seen hr (by omega)) h1.1 (by omega))
    clear ht hf2 h1
    go_wp2_with fail
    refine HSD.out.mono ?_
    rintro e w4 ⟨v, kk, rfl, hr4, hi4, hm4, hb4⟩
    have HE4 := Lib.hid (rts_yes (by omega) HH1.out h2 hi4 hm4)
    have HR4 := Lib.hid hr4
    clear hi4 hm4 hr4
    go_wp2_with fail
    obtain ⟨e1, e2⟩ := HE4.out
    have hr4 := HR4.out
    subst e1
    go_ret2
    exact ⟨v, by rw [E2.out, e2]; rfl, by rw [E1.out]; exact intRow_lower hr4 hB3.size, hB3.trans (hb4.mono hB3.size)⟩
set_option maxHeartbeats 2000000 in
theorem implRootsIn_any (p n : Int) {o : Option Addr} {k c : Nat} {f : List Int} {w : World} (h : Seen w o k c f) :
    Calls Try.prog 26 #[.agg #[.int .i64 p, .int .i64 n], .slice o k c] w (IntPost (rirL p n f) (rirC p n f) w) := by
  have HS := Lib.hid h
  clear h
  by_cases hr : simC p n f = 0
  · obtain ⟨h0, hp⟩ := simC_zero hr
    have hk9 : k ≤ 9 := by have := (polyB_of hp).1; have := HS.out.1; omega
    have E1 := Lib.hid (show rirL p n f = rtsL (ringM p n) f by simp [rirL, hr])
    have E2 := Lib.hid (show rirC p n f = rtsC (ringM p n) f by simp [rirC, hr])
    have HRT := Lib.hid fun (W : World) (hw : Below w.heap.size w W) => rootsR_any (p := p) (q := n) rfl h0 (seen_below HS.out hw) hk9
    have HR := Lib.hid hr
    clear h0 hr hp
    go_enter Try.func26, Try.ntmps26
    go_wp2_with (first | (go_at_call 53; refine (checkRoots0_any p n (seen_al HS.out _)).mono ?_; rintro e' wn ⟨rfl, hb⟩; have hH := keep_first hb; clear hb; obtain ⟨hB, c0, c1⟩ := hH; rw [HR.out]) | (go_at_call 68; refine (HRT.out _ hB).mono ?_; rintro e w3 ⟨v, rfl, hr3, hb3⟩))
    go_ret2
    exact ⟨v, by rw [E2.out]; rfl, by rw [E1.out]; exact intRow_lower hr3 hB.size, hB.trans (hb3.mono hB.size)⟩
  · have hk : (simC p n f == 0) = false := by simp [hr]
    have E1 := Lib.hid (show rirL p n f = [] by simp [rirL, hr])
    have E2 := Lib.hid (show rirC p n f = simC p n f by simp [rirC, hr])
    clear hr
    go_enter Try.func26, Try.ntmps26
    go_wp2_with (go_at_call 53; refine (checkRoots0_any p n (seen_al HS.out _)).mono ?_; rintro e' wn ⟨rfl, hb⟩; have hH := keep_first hb; obtain ⟨hB, c0, c1⟩ := hH)
    go_ret2
    exact ⟨.slice none 0 0, by rw [E2.out]; rfl, by rw [E1.out]; exact intRow_nil _ _, hB⟩
def sqrL (p n a : Int) : List Int := if rgC p n a = 0 then rtsL (ringM p n) [-a, 0, 1] else []
def sqrC (p n a : Int) : Int := if rgC p n a = 0 then rtsC (ringM p n) [-a, 0, 1] else rgC p n a
theorem sqrL_len (p n a : Int) : (sqrL p n a).length ≤ 1000 := by
  unfold sqrL
  split
  · exact rtsL_len _ _
  · simp
theorem sq_cof {a : Int} (h0 : 0 ≤ a) (h1 : a ≤ 1000000000) : Cof9 [-a, 0, 1] := fun i => by
  match i with
  | 0 => exact ⟨by show -1000000000 ≤ -a; omega, by show -a ≤ 1000000000; omega⟩
  | 1 => exact ⟨by show (-1000000000 : Int) ≤ 0; omega, by show (0 : Int) ≤ 1000000000; omega⟩
  | 2 => exact ⟨by show (-1000000000 : Int) ≤ 1; omega, by show (1 : Int) ≤ 1000000000; omega⟩
  | i + 3 => simp
theorem seen_three11 (w : World) (x y z : Int) (T : TypeId) : Seen (w.alloc (.cells #[.int .i64 x, .int .i64 y, .int .i64 z] T)) (some ⟨w.heap.size, 0, none⟩) 3 3 [x, y, z] := by
  refine ⟨rfl, by omega, (fun h => by cases h), Nat.le_refl _, w.heap.size, fun _ => ⟨rfl, by simp⟩, fun k hk => ?_⟩
  have : k = 0 ∨ k = 1 ∨ k = 2 := by omega
  rcases this with rfl | rfl | rfl
  · rw [World.cell?_alloc_new]; rfl
  · rw [World.cell?_alloc_new]; rfl
  · rw [World.cell?_alloc_new]; rfl
set_option maxHeartbeats 2000000 in
theorem specSquares_any (p n a : Int) (w : World) :
    Calls Try.prog 33 #[.agg #[.int .i64 p, .int .i64 n], .int .i64 a] w (IntPost (sqrL p n a) (sqrC p n a) w) := by
  by_cases hr : rgC p n a = 0
  · obtain ⟨h0, a0, a1⟩ := rgC_zero hr
    obtain ⟨hp2, hp97, hn1, hn2, hm1, hm2, _⟩ := ringM_bd h0
    have E1 := Lib.hid (show sqrL p n a = rtsL (ringM p n) [-a, 0, 1] by simp [sqrL, hr])
    have E2 := Lib.hid (show sqrC p n a = rtsC (ringM p n) [-a, 0, 1] by simp [sqrC, hr])
    have HRT := Lib.hid fun (W : World) => l11Roots_any (p := p) (n := n) rfl h0 (sq_cof a0 (by omega)) (seen_three11 W (-a) 0 1 2)
    have HR := Lib.hid hr
    have wa : IntKind.i64.wrap (-a) = -a := IntWalk.i64_in _ (by omega)
    clear h0 hr
    go_enter Try.func33, Try.ntmps33
    go_wp2_with (go_at_call 77; refine (l02Code_any _ _ _ _).mono ?_; rintro e wn ⟨rfl, hb⟩; have hH := keep_first hb; clear hb; obtain ⟨hB, c0, c1⟩ := hH; rw [HR.out])
    refine (HRT.out _).mono ?_
    rintro e w3 ⟨g, c2, l, b, rfl, hr, ht, hf2, hl, hb⟩
    have hB3 := (hB.alloc hB.size _).trans (hb.mono (by have := hB.size; simp; omega))
    cases b
    · obtain ⟨h1, h2⟩ := hf2 rfl
      obtain ⟨e1, e2⟩ := rts_no (by omega) h1 h2
      have F1 := Lib.hid e1
      have F2 := Lib.hid e2
      clear ht hf2 h1 e1 e2
      go_wp2_with fail
      go_ret2
      exact ⟨.slice none 0 0, by rw [E2.out, F2.out]; rfl, by rw [E1.out, F1.out]; exact intRow_nil _ _, hB3⟩
    · obtain ⟨h1, h2⟩ := ht rfl
      have HH1 := Lib.hid h1
      have HSD := Lib.hid (sorted_any (row_seen hr (by omega)) h1.1 (by omega))
      clear ht hf2 h1
      go_wp2_with fail
      refine HSD.out.mono ?_
      rintro e w4 ⟨v, kk, rfl, hr4, hi4, hm4, hb4⟩
      have HE4 := Lib.hid (rts_yes (by omega) HH1.out h2 hi4 hm4)
      have HR4 := Lib.hid hr4
      clear hi4 hm4 hr4
      go_wp2_with fail
      obtain ⟨e1, e2⟩ := HE4.out
      have hr4 := HR4.out
      subst e1
      go_ret2
      exact ⟨v, by rw [E2.out, e2]; rfl, by rw [E1.out]; exact intRow_lower hr4 hB3.size, hB3.trans (hb4.mono hB3.size)⟩
  · have hk : (rgC p n a == 0) = false := by simp [hr]
    have E1 := Lib.hid (show sqrL p n a = [] by simp [sqrL, hr])
    have E2 := Lib.hid (show sqrC p n a = rgC p n a by simp [sqrC, hr])
    clear hr
    go_enter Try.func33, Try.ntmps33
    go_wp2_with (go_at_call 77; refine (l02Code_any _ _ _ _).mono ?_; rintro e wn ⟨rfl, hb⟩; have hH := keep_first hb; obtain ⟨hB, c0, c1⟩ := hH)
    go_ret2
    exact ⟨.slice none 0 0, by rw [E2.out]; rfl, by rw [E1.out]; exact intRow_nil _ _, hB⟩
set_option maxHeartbeats 2000000 in
theorem implSquares_any (p n a : Int) (w : World) :
    Calls Try.prog 32 #[.agg #[.int .i64 p, .int .i64 n], .int .i64 a] w (IntPost (sqrL p n a) (sqrC p n a) w) := by
  by_cases hr : rgC p n a = 0
  · obtain ⟨h0, a0, a1⟩ := rgC_zero hr
    obtain ⟨hp2, hp97, hn1, hn2, hm1, hm2, _⟩ := ringM_bd h0
    have E1 := Lib.hid (show sqrL p n a = rtsL (ringM p n) [-a, 0, 1] by simp [sqrL, hr])
    have E2 := Lib.hid (show sqrC p n a = rtsC (ringM p n) [-a, 0, 1] by simp [sqrC, hr])
    have HRT := Lib.hid fun (W : World) => rootsR_any (p := p) (q := n) rfl h0 (seen_three11 W (-a) 0 1 2) (by omega)
    have HR := Lib.hid hr
    have wa : IntKind.i64.wrap (-a) = -a := IntWalk.i64_in _ (by omega)
    clear h0 hr
    go_enter Try.func32, Try.ntmps32
    go_wp2_with (first | (go_at_call 76; refine (checkOne_any _ _ a _ _ ?_ ?_).mono ?_; (exact cell_second _ _ _ _); (exact size_second _ _ _); rintro e' wn ⟨rfl, hb⟩; have hH := keep_alloc hb; clear hb; obtain ⟨hB, c0, c1⟩ := hH; rw [HR.out]) | (go_at_call 68; refine (HRT.out _).mono ?_; rintro e w3 ⟨v, rfl, hr3, hb3⟩))
    have hB3 := (hB.alloc hB.size (.cells #[.int .i64 (-a), .int .i64 0, .int .i64 1] 2)).trans (hb3.mono (by have := hB.size; simp; omega))
    go_ret2
    exact ⟨v, by rw [E2.out]; rfl, by rw [E1.out]; exact intRow_lower hr3 (by have := hB.size; simp; omega), hB3⟩
  · have hk : (rgC p n a == 0) = false := by simp [hr]
    have E1 := Lib.hid (show sqrL p n a = [] by simp [sqrL, hr])
    have E2 := Lib.hid (show sqrC p n a = rgC p n a by simp [sqrC, hr])
    clear hr
    go_enter Try.func32, Try.ntmps32
    go_wp2_with (go_at_call 76; refine (checkOne_any _ _ a _ _ ?_ ?_).mono ?_; (exact cell_second _ _ _ _); (exact size_second _ _ _); rintro e' wn ⟨rfl, hb⟩; have hH := keep_alloc hb; obtain ⟨hB, c0, c1⟩ := hH)
    go_ret2
    exact ⟨.slice none 0 0, by rw [E2.out]; rfl, by rw [E1.out]; exact intRow_nil _ _, hB⟩
end Go.Proofs.Ytckpeoadglkbgaa
namespace Go.Proofs.Ytckpeoadglkbgaa
open Go.RowKit
set_option linter.unusedVariables false
set_option linter.unusedSimpArgs false
set_option maxRecDepth 20000 in
set_option maxHeartbeats 2000000 in
theorem exactRootsIn_core (p n : Int) (af : Option Addr) (capf : Nat) (f : List Int) (w : World) (hf : f.length ≤ 1048576) (kf : ArgInt w af f) :
    Calls Try.prog 9 #[.agg #[.int .i64 p, .int .i64 n], .slice af f.length capf] w fun e w' => e = .returned (.bool true) ∧ Below w.heap.size w w' := by
  obtain ⟨wR, hwR⟩ : ∃ wR, w.alloc (.cells #[.int .i64 p, .int .i64 n] 43) = wR := ⟨_, rfl⟩
  have HBR := Lib.hid (show Below w.heap.size w wR by rw [← hwR]; exact (Below.refl _ _).alloc (Nat.le_refl _) _)
  have HR0 := Lib.hid (show wR.cell? ⟨w.heap.size, 0, none⟩ = some (.int .i64 p) by rw [← hwR]; exact World.cell?_alloc_new _ _ _ _ ▸ rfl)
  have HR1 := Lib.hid (show wR.cell? ⟨w.heap.size, 1, none⟩ = some (.int .i64 n) by rw [← hwR]; exact World.cell?_alloc_new _ _ _ _ ▸ rfl)
  have HRL := Lib.hid (show w.heap.size < wR.heap.size by rw [← hwR]; simp)
  have HA0 := Lib.hid (argInt_below kf HBR.out)
  have HT0 := Lib.hid fun (w : World) (h : ArgInt w af f) => toInt64S_any af capf f w hf h
  have hnf : (0 : Int) ≤ (f.length : Int) := Int.natCast_nonneg _
  have HS := Lib.hid fun (w : World) (b : Nat) (o : Option Addr) (c : Nat) (h : IntRow b w (.slice o f.length c) f) => specRootsIn_any p n (row_seen h (show f.length ≤ 1100000 by omega))
  have HI := Lib.hid fun (w : World) (b : Nat) (o : Option Addr) (c : Nat) (h : IntRow b w (.slice o f.length c) f) => implRootsIn_any p n (row_seen h (show f.length ≤ 1100000 by omega))
  have hq : (rirL p n f).length ≤ 1000 := rirL_len p n f
  generalize (rirL p n f) = q at *
  generalize (rirC p n f) = c at *
  have hnq : (0 : Int) ≤ (q.length : Int) := Int.natCast_nonneg _
  have B0 := Lib.hid (Below.refl wR.heap.size wR)
  clear kf
  go_enter Try.func9, Try.ntmps9
  have hr0 := (B0.out.cell (p := ⟨w.heap.size, 0, none⟩) HRL.out).trans HR0.out
  have hr1 := (B0.out.cell (p := ⟨w.heap.size, 1, none⟩) HRL.out).trans HR1.out
  go_wp2_with fail
  refine (toRing_any p n _).mono ?_
  rintro e W1 ⟨rfl, b1⟩
  clear hr0 hr1
  have B1 := Lib.hid (B0.out.trans (b1.mono B0.out.size))
  clear b1
  go_wp2_with fail
  refine (HT0.out _ (argInt_below HA0.out B1.out)).mono ?_
  rintro e W2 ⟨v2, rfl, r2, b2⟩
  obtain ⟨o2, c2, rfl⟩ := row_slice r2
  have B2 := Lib.hid (B1.out.trans (b2.mono B1.out.size))
  have R_sf_2 := Lib.hid r2
  clear r2 b2
  go_wp2_with fail
  refine (HS.out _ _ _ _ R_sf_2.out).mono ?_
  rintro e W3 ⟨v3, rfl, r3, b3⟩
  have B3 := Lib.hid (B2.out.trans (b3.mono B2.out.size))
  have R_sf_3 := Lib.hid (row_below R_sf_2.out b3 (Nat.le_refl _))
  have R_w0_3 := Lib.hid r3
  clear r3 b3
  go_wp2_with fail
  refine (HT0.out _ (argInt_below HA0.out B3.out)).mono ?_
  rintro e W4 ⟨v4, rfl, r4, b4⟩
  obtain ⟨o4, c4, rfl⟩ := row_slice r4
  have B4 := Lib.hid (B3.out.trans (b4.mono B3.out.size))
  have R_w0_4 := Lib.hid (row_below R_w0_3.out b4 (Nat.le_refl _))
  have R_xf_4 := Lib.hid r4
  clear r4 b4
  have hr0 := (B4.out.cell (p := ⟨w.heap.size, 0, none⟩) HRL.out).trans HR0.out
  have hr1 := (B4.out.cell (p := ⟨w.heap.size, 1, none⟩) HRL.out).trans HR1.out
  go_wp2_with fail
  refine (toRing_any p n _).mono ?_
  rintro e W5 ⟨rfl, b5⟩
  clear hr0 hr1
  have B5 := Lib.hid (B4.out.trans (b5.mono B4.out.size))
  have R_w0_5 := Lib.hid (row_below R_w0_4.out b5 (Nat.le_refl _))
  have R_xf_5 := Lib.hid (row_below R_xf_4.out b5 (Nat.le_refl _))
  clear b5
  go_wp2_with fail
  refine (HI.out _ _ _ _ R_xf_5.out).mono ?_
  rintro e W6 ⟨v6, rfl, r6, b6⟩
  have B6 := Lib.hid (B5.out.trans (b6.mono B5.out.size))
  have R_w0_6 := Lib.hid (row_below R_w0_5.out b6 (Nat.le_refl _))
  have R_xf_6 := Lib.hid (row_below R_xf_5.out b6 (Nat.le_refl _))
  have R_g0_6 := Lib.hid r6
  clear r6 b6
  go_wp2_with fail
  refine (eqInt_same R_g0_6.out R_w0_6.out (by omega)).mono ?_
  rintro e W7 ⟨rfl, nd, hw⟩
  have b7 : Below W6.heap.size W6 W7 := by rw [hw]; exact below_drewN (Below.refl _ _) nd
  clear hw nd
  have B7 := Lib.hid (B6.out.trans (b7.mono B6.out.size))
  have R_w0_7 := Lib.hid (row_below R_w0_6.out b7 (Nat.le_refl _))
  have R_xf_7 := Lib.hid (row_below R_xf_6.out b7 (Nat.le_refl _))
  have R_g0_7 := Lib.hid (row_below R_g0_6.out b7 (Nat.le_refl _))
  clear b7
  go_wp2_with fail
  refine (HT0.out _ (argInt_below HA0.out B7.out)).mono ?_
  rintro e W8 ⟨v8, rfl, r8, b8⟩
  obtain ⟨o8, c8, rfl⟩ := row_slice r8
  have B8 := Lib.hid (B7.out.trans (b8.mono B7.out.size))
  have R_w0_8 := Lib.hid (row_below R_w0_7.out b8 (Nat.le_refl _))
  have R_xf_8 := Lib.hid (row_below R_xf_7.out b8 (Nat.le_refl _))
  have R_g0_8 := Lib.hid (row_below R_g0_7.out b8 (Nat.le_refl _))
  have R_tf_8 := Lib.hid r8
  clear r8 b8
  go_wp2_with fail
  refine (eqInt_same R_xf_8.out R_tf_8.out (by omega)).mono ?_
  rintro e W9 ⟨rfl, nd, hw⟩
  have b9 : Below W8.heap.size W8 W9 := by rw [hw]; exact below_drewN (Below.refl _ _) nd
  clear hw nd
  have B9 := Lib.hid (B8.out.trans (b9.mono B8.out.size))
  have R_w0_9 := Lib.hid (row_below R_w0_8.out b9 (Nat.le_refl _))
  have R_xf_9 := Lib.hid (row_below R_xf_8.out b9 (Nat.le_refl _))
  have R_g0_9 := Lib.hid (row_below R_g0_8.out b9 (Nat.le_refl _))
  have R_tf_9 := Lib.hid (row_below R_tf_8.out b9 (Nat.le_refl _))
  clear b9
  go_wp2_with fail
  refine (markInt R_xf_9.out (by omega) (by omega) (by omega)).mono ?_
  rintro e W10 ⟨rfl, m10, g10⟩
  have B10 := Lib.hid (below_grown B9.out R_xf_9.out g10 B3.out.size B9.out.size)
  have R_w0_10 := Lib.hid (row_apart R_w0_9.out R_xf_9.out R_w0_3.out (Nat.le_refl _) g10)
  have R_g0_10 := Lib.hid (row_apart2 R_g0_9.out R_xf_5.out (Nat.le_refl _) g10)
  have M_xf_10 := Lib.hid m10
  clear m10 g10
  go_wp2_with fail
  refine (eqInt_same R_g0_10.out R_w0_10.out (by omega)).mono ?_
  rintro e W11 ⟨rfl, nd, hw⟩
  have b11 : Below W10.heap.size W10 W11 := by rw [hw]; exact below_drewN (Below.refl _ _) nd
  clear hw nd
  have B11 := Lib.hid (B10.out.trans (b11.mono B10.out.size))
  have R_w0_11 := Lib.hid (row_below R_w0_10.out b11 (Nat.le_refl _))
  have R_g0_11 := Lib.hid (row_below R_g0_10.out b11 (Nat.le_refl _))
  clear b11
  go_wp2_with fail
  refine (markInt R_g0_11.out (by omega) (by omega) (by omega)).mono ?_
  rintro e W12 ⟨rfl, m12, g12⟩
  have B12 := Lib.hid (below_grown B11.out R_g0_11.out g12 B5.out.size B11.out.size)
  have R_w0_12 := Lib.hid (row_apart R_w0_11.out R_g0_11.out R_w0_5.out (Nat.le_refl _) g12)
  have M_g0_12 := Lib.hid m12
  clear m12 g12
  go_wp2_with fail
  refine (heldInt M_g0_12.out (by omega) (by omega) (by omega)).mono ?_
  rintro e W13 ⟨rfl, nd, hw⟩
  have b13 : Below W12.heap.size W12 W13 := by rw [hw]; exact below_drewN (Below.refl _ _) nd
  clear hw nd
  have B13 := Lib.hid (B12.out.trans (b13.mono B12.out.size))
  have R_w0_13 := Lib.hid (row_below R_w0_12.out b13 (Nat.le_refl _))
  have M_g0_13 := Lib.hid (marked_below M_g0_12.out b13 (Nat.le_refl _))
  clear b13
  have hr0 := (B13.out.cell (p := ⟨w.heap.size, 0, none⟩) HRL.out).trans HR0.out
  have hr1 := (B13.out.cell (p := ⟨w.heap.size, 1, none⟩) HRL.out).trans HR1.out
  go_wp2_with fail
  refine (toRing_any p n _).mono ?_
  rintro e W14 ⟨rfl, b14⟩
  clear hr0 hr1
  have B14 := Lib.hid (B13.out.trans (b14.mono B13.out.size))
  have R_w0_14 := Lib.hid (row_below R_w0_13.out b14 (Nat.le_refl _))
  have M_g0_14 := Lib.hid (marked_below M_g0_13.out b14 (Nat.le_refl _))
  clear b14
  go_wp2_with fail
  refine (HT0.out _ (argInt_below HA0.out B14.out)).mono ?_
  rintro e W15 ⟨v15, rfl, r15, b15⟩
  obtain ⟨o15, c15, rfl⟩ := row_slice r15
  have B15 := Lib.hid (B14.out.trans (b15.mono B14.out.size))
  have R_w0_15 := Lib.hid (row_below R_w0_14.out b15 (Nat.le_refl _))
  have M_g0_15 := Lib.hid (marked_below M_g0_14.out b15 (Nat.le_refl _))
  have R_yf_15 := Lib.hid r15
  clear r15 b15
  go_wp2_with fail
  refine (HI.out _ _ _ _ R_yf_15.out).mono ?_
  rintro e W16 ⟨v16, rfl, r16, b16⟩
  have B16 := Lib.hid (B15.out.trans (b16.mono B15.out.size))
  have R_w0_16 := Lib.hid (row_below R_w0_15.out b16 (Nat.le_refl _))
  have R_yf_16 := Lib.hid (row_below R_yf_15.out b16 (Nat.le_refl _))
  have M_g0_16 := Lib.hid (marked_below M_g0_15.out b16 (Nat.le_refl _))
  have R_h0_16 := Lib.hid r16
  clear r16 b16
  go_wp2_with fail
  refine (eqInt_same R_h0_16.out R_w0_16.out (by omega)).mono ?_
  rintro e W17 ⟨rfl, nd, hw⟩
  have b17 : Below W16.heap.size W16 W17 := by rw [hw]; exact below_drewN (Below.refl _ _) nd
  clear hw nd
  have B17 := Lib.hid (B16.out.trans (b17.mono B16.out.size))
  have R_w0_17 := Lib.hid (row_below R_w0_16.out b17 (Nat.le_refl _))
  have R_h0_17 := Lib.hid (row_below R_h0_16.out b17 (Nat.le_refl _))
  have M_g0_17 := Lib.hid (marked_below M_g0_16.out b17 (Nat.le_refl _))
  clear b17
  go_wp2_with fail
  refine (heldInt M_g0_17.out (by omega) (by omega) (by omega)).mono ?_
  rintro e W18 ⟨rfl, nd, hw⟩
  have b18 : Below W17.heap.size W17 W18 := by rw [hw]; exact below_drewN (Below.refl _ _) nd
  clear hw nd
  have B18 := Lib.hid (B17.out.trans (b18.mono B17.out.size))
  have R_w0_18 := Lib.hid (row_below R_w0_17.out b18 (Nat.le_refl _))
  have R_h0_18 := Lib.hid (row_below R_h0_17.out b18 (Nat.le_refl _))
  have M_g0_18 := Lib.hid (marked_below M_g0_17.out b18 (Nat.le_refl _))
  clear b18
  go_wp2_with fail
  go_ret
  exact ⟨rfl, HBR.out.trans (B18.out.mono HBR.out.size)⟩
theorem exactRootsIn_walk (p n : Int) (af : Option Addr) (lenf capf : Nat) (zf : List Int) (w : World) (_ : (Lit.int .i64 p).wf = true) (_ : (Lit.int .i64 n).wf = true) (hf : (af = none ∧ lenf = 0 ∧ capf = 0 ∧ zf = []) ∨ ∃ x, af = some x ∧ lenf ≤ capf ∧ capf ≤ maxLen ∧ zf.length = capf ∧ (∀ i, i < zf.length → w.cell? (x.add i) = some (.int .i64 (zf.getD i 0))) ∧ ∀ n ∈ zf, (Lit.int .i64 n).wf = true) :
    Calls Try.prog 9 #[.agg #[.int .i64 p, .int .i64 n], .slice af lenf capf] w fun e w' => e = .returned (.bool true) ∧ Below w.heap.size w w' := by
  have mf := len_of_row hf
  obtain ⟨lf, ef, kf⟩ := arg_of_row hf
  clear hf
  by_cases qf : lenf ≤ 1048576
  · subst ef
    exact exactRootsIn_core p n af capf lf w qf kf
  · clear kf ef
    go_enter Try.func9, Try.ntmps9
    go_wp2
    go_ret
    exact ⟨rfl, (Below.refl _ _).alloc (Nat.le_refl _) _⟩
set_option maxRecDepth 20000 in
set_option maxHeartbeats 2000000 in
theorem exactSquares_core (p n : Int) (a : Int) (w : World)  :
    Calls Try.prog 11 #[.agg #[.int .i64 p, .int .i64 n], .int .i64 a] w fun e w' => e = .returned (.bool true) ∧ Below w.heap.size w w' := by
  obtain ⟨wR, hwR⟩ : ∃ wR, w.alloc (.cells #[.int .i64 p, .int .i64 n] 43) = wR := ⟨_, rfl⟩
  have HBR := Lib.hid (show Below w.heap.size w wR by rw [← hwR]; exact (Below.refl _ _).alloc (Nat.le_refl _) _)
  have HR0 := Lib.hid (show wR.cell? ⟨w.heap.size, 0, none⟩ = some (.int .i64 p) by rw [← hwR]; exact World.cell?_alloc_new _ _ _ _ ▸ rfl)
  have HR1 := Lib.hid (show wR.cell? ⟨w.heap.size, 1, none⟩ = some (.int .i64 n) by rw [← hwR]; exact World.cell?_alloc_new _ _ _ _ ▸ rfl)
  have HRL := Lib.hid (show w.heap.size < wR.heap.size by rw [← hwR]; simp)
  have HS := Lib.hid fun (w : World) => specSquares_any p n a w
  have HI := Lib.hid fun (w : World) => implSquares_any p n a w
  have hq : (sqrL p n a).length ≤ 1000 := sqrL_len p n a
  generalize (sqrL p n a) = q at *
  generalize (sqrC p n a) = c at *
  have hnq : (0 : Int) ≤ (q.length : Int) := Int.natCast_nonneg _
  have B0 := Lib.hid (Below.refl wR.heap.size wR)
  go_enter Try.func11, Try.ntmps11
  have hr0 := (B0.out.cell (p := ⟨w.heap.size, 0, none⟩) HRL.out).trans HR0.out
  have hr1 := (B0.out.cell (p := ⟨w.heap.size, 1, none⟩) HRL.out).trans HR1.out
  go_wp2_with fail
  refine (toRing_any p n _).mono ?_
  rintro e W1 ⟨rfl, b1⟩
  clear hr0 hr1
  have B1 := Lib.hid (B0.out.trans (b1.mono B0.out.size))
  clear b1
  go_wp2_with fail
  refine (HS.out _).mono ?_
  rintro e W2 ⟨v2, rfl, r2, b2⟩
  have B2 := Lib.hid (B1.out.trans (b2.mono B1.out.size))
  have R_w0_2 := Lib.hid r2
  clear r2 b2
  have hr0 := (B2.out.cell (p := ⟨w.heap.size, 0, none⟩) HRL.out).trans HR0.out
  have hr1 := (B2.out.cell (p := ⟨w.heap.size, 1, none⟩) HRL.out).trans HR1.out
  go_wp2_with fail
  refine (toRing_any p n _).mono ?_
  rintro e W3 ⟨rfl, b3⟩
  clear hr0 hr1
  have B3 := Lib.hid (B2.out.trans (b3.mono B2.out.size))
  have R_w0_3 := Lib.hid (row_below R_w0_2.out b3 (Nat.le_refl _))
  clear b3
  go_wp2_with fail
  refine (HI.out _).mono ?_
  rintro e W4 ⟨v4, rfl, r4, b4⟩
  have B4 := Lib.hid (B3.out.trans (b4.mono B3.out.size))
  have R_w0_4 := Lib.hid (row_below R_w0_3.out b4 (Nat.le_refl _))
  have R_g0_4 := Lib.hid r4
  clear r4 b4
  go_wp2_with fail
  refine (eqInt_same R_g0_4.out R_w0_4.out (by omega)).mono ?_
  rintro e W5 ⟨rfl, nd, hw⟩
  have b5 : Below W4.heap.size W4 W5 := by rw [hw]; exact below_drewN (Below.refl _ _) nd
  clear hw nd
  have B5 := Lib.hid (B4.out.trans (b5.mono B4.out.size))
  have R_w0_5 := Lib.hid (row_below R_w0_4.out b5 (Nat.le_refl _))
  have R_g0_5 := Lib.hid (row_below R_g0_4.out b5 (Nat.le_refl _))
  clear b5
  go_wp2_with fail
  refine (markInt R_g0_5.out (by omega) (by omega) (by omega)).mono ?_
  rintro e W6 ⟨rfl, m6, g6⟩
  have B6 := Lib.hid (below_grown B5.out R_g0_5.out g6 B3.out.size B5.out.size)
  have R_w0_6 := Lib.hid (row_apart R_w0_5.out R_g0_5.out R_w0_3.out (Nat.le_refl _) g6)
  have M_g0_6 := Lib.hid m6
  clear m6 g6
  go_wp2_with fail
  refine (heldInt M_g0_6.out (by omega) (by omega) (by omega)).mono ?_
  rintro e W7 ⟨rfl, nd, hw⟩
  have b7 : Below W6.heap.size W6 W7 := by rw [hw]; exact below_drewN (Below.refl _ _) nd
  clear hw nd
  have B7 := Lib.hid (B6.out.trans (b7.mono B6.out.size))
  have R_w0_7 := Lib.hid (row_below R_w0_6.out b7 (Nat.le_refl _))
  have M_g0_7 := Lib.hid (marked_below M_g0_6.out b7 (Nat.le_refl _))
  clear b7
  have hr0 := (B7.out.cell (p := ⟨w.heap.size, 0, none⟩) HRL.out).trans HR0.out
  have hr1 := (B7.out.cell (p := ⟨w.heap.size, 1, none⟩) HRL.out).trans HR1.out
  go_wp2_with fail
  refine (toRing_any p n _).mono ?_
  rintro e W8 ⟨rfl, b8⟩
  clear hr0 hr1
  have B8 := Lib.hid (B7.out.trans (b8.mono B7.out.size))
  have R_w0_8 := Lib.hid (row_below R_w0_7.out b8 (Nat.le_refl _))
  have M_g0_8 := Lib.hid (marked_below M_g0_7.out b8 (Nat.le_refl _))
  clear b8
  go_wp2_with fail
  refine (HI.out _).mono ?_
  rintro e W9 ⟨v9, rfl, r9, b9⟩
  have B9 := Lib.hid (B8.out.trans (b9.mono B8.out.size))
  have R_w0_9 := Lib.hid (row_below R_w0_8.out b9 (Nat.le_refl _))
  have M_g0_9 := Lib.hid (marked_below M_g0_8.out b9 (Nat.le_refl _))
  have R_h0_9 := Lib.hid r9
  clear r9 b9
  go_wp2_with fail
  refine (eqInt_same R_h0_9.out R_w0_9.out (by omega)).mono ?_
  rintro e W10 ⟨rfl, nd, hw⟩
  have b10 : Below W9.heap.size W9 W10 := by rw [hw]; exact below_drewN (Below.refl _ _) nd
  clear hw nd
  have B10 := Lib.hid (B9.out.trans (b10.mono B9.out.size))
  have R_w0_10 := Lib.hid (row_below R_w0_9.out b10 (Nat.le_refl _))
  have R_h0_10 := Lib.hid (row_below R_h0_9.out b10 (Nat.le_refl _))
  have M_g0_10 := Lib.hid (marked_below M_g0_9.out b10 (Nat.le_refl _))
  clear b10
  go_wp2_with fail
  refine (heldInt M_g0_10.out (by omega) (by omega) (by omega)).mono ?_
  rintro e W11 ⟨rfl, nd, hw⟩
  have b11 : Below W10.heap.size W10 W11 := by rw [hw]; exact below_drewN (Below.refl _ _) nd
  clear hw nd
  have B11 := Lib.hid (B10.out.trans (b11.mono B10.out.size))
  have R_w0_11 := Lib.hid (row_below R_w0_10.out b11 (Nat.le_refl _))
  have R_h0_11 := Lib.hid (row_below R_h0_10.out b11 (Nat.le_refl _))
  have M_g0_11 := Lib.hid (marked_below M_g0_10.out b11 (Nat.le_refl _))
  clear b11
  go_wp2_with fail
  go_ret
  exact ⟨rfl, HBR.out.trans (B11.out.mono HBR.out.size)⟩
theorem exactSquares_walk (p n : Int) (a : Int) (w : World) (_ : (Lit.int .i64 p).wf = true) (_ : (Lit.int .i64 n).wf = true) (_ : (Lit.int .i64 a).wf = true) :
    Calls Try.prog 11 #[.agg #[.int .i64 p, .int .i64 n], .int .i64 a] w fun e w' => e = .returned (.bool true) ∧ Below w.heap.size w w' := exactSquares_core p n a w
end Go.Proofs.Ytckpeoadglkbgaa
