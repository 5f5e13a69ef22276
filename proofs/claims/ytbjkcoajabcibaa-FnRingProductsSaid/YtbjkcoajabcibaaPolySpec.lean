/- Contracts of the walk: chapter 6 in spec: valid polynomials, copies of lists, lists without zeros at their end. -/
import Derived.Test.YtbjkcoajabcibaaPolyMath
import Derived.Test.YtbjkcoajabcibaaIntAid
namespace Go.Proofs.Ytbjkcoajabcibaa
open Go.RowKit
set_option linter.unusedVariables false
set_option maxRecDepth 20000
set_option linter.unusedSimpArgs false
/-- a list that lies in a row, whoever owns it -/
def Seen (w : World) (o : Option Addr) (n c : Nat) (l : List Int) : Prop :=
  n = l.length ∧ n ≤ 1100000 ∧ (o = none → c = 0) ∧ n ≤ c ∧ ∃ g, (0 < n → o = some ⟨g, 0, none⟩ ∧ g < w.heap.size) ∧ ∀ k, k < n → w.cell? ⟨g, k, none⟩ = some (.int .i64 (l.getD k 0))
theorem seen_row {b : Nat} {w : World} {v : Value} {l : List Int} (h : IntRow b w v l) (hl : l.length ≤ 1100000) : ∃ o c, v = .slice o l.length c ∧ Seen w o l.length c l := by
  have h2 := h.2
  rcases h2 with ⟨rfl, h0⟩ | ⟨g, cap, cur, rfl, hb, hg, hnc, _⟩
  · exact ⟨none, 0, by rw [h0], rfl, hl, fun _ => rfl, by omega, 0, fun h => by omega, fun k hk => by omega⟩
  · exact ⟨_, cap, rfl, rfl, hl, fun h => by (cases h), hnc, g, fun _ => ⟨rfl, (Array.getElem?_eq_some_iff.1 hg).1⟩, int_cells h⟩
theorem seen_take {w : World} {o : Option Addr} {n c k : Nat} {l : List Int} (h : Seen w o n c l) (hk : k ≤ n) : Seen w o k c (l.take k) := by
  obtain ⟨hl, hn, ho, hnc, g, h1, h2⟩ := h
  refine ⟨by rw [List.length_take]; omega, by omega, ho, by omega, g, fun h0 => h1 (by omega), fun i hi => ?_⟩
  rw [take_getD l hi]; exact h2 i (by omega)
theorem seen_below {w w' : World} {o : Option Addr} {n c : Nat} {l : List Int} (h : Seen w o n c l) (hb : Below w.heap.size w w') : Seen w' o n c l := by
  obtain ⟨hl, hn, ho, hnc, g, h1, h2⟩ := h
  refine ⟨hl, hn, ho, hnc, g, fun h0 => ⟨(h1 h0).1, by have := (h1 h0).2; have := hb.size; omega⟩, fun i hi => ?_⟩
  rw [hb.cell (p := ⟨g, i, none⟩) (h1 (by omega)).2]; exact h2 i hi
theorem all_take6 {f : Int → Bool} {l : List Int} {k : Nat} (hk : k < l.length) : (l.take (k + 1)).all f = ((l.take k).all f && f (l.getD k 0)) := by
  rw [List.take_succ_eq_append_getElem hk, List.all_append]
  simp [List.getD, hk]
theorem all_false {f : Int → Bool} {l : List Int} {k : Nat} (hk : k < l.length) (h : f (l.getD k 0) = false) : l.all f = false := by
  rw [List.all_eq_false]
  exact ⟨l.getD k 0, by simp [List.getD, hk], by rw [Bool.not_eq_true]; exact h⟩
set_option maxHeartbeats 800000 in
theorem specIsPoly_any {o : Option Addr} {n c : Nat} {l : List Int} {w : World} (h : Seen w o n c l) :
    Calls Try.prog 67 #[.slice o n c] w fun e w' => e = .returned (.bool (polyB l)) ∧ w = w' := by
  obtain ⟨hl, hn, hno, hnc, g, h1, h2⟩ := h
  clear hno hnc
  have HO := Lib.hid fun h => (h1 h).1
  have HL := Lib.hid hl
  have HC := Lib.hid h2
  clear h1 h2 hl
  go_enter Try.func67, Try.ntmps67
  go_wp2
  go_loop [3] (fun i => ∃ k : Nat, k ≤ n ∧ i = .int .i64 k ∧ (l.take k).all cofB = true) (fun i => n - (intOf i).toNat)
  case atStart => exact ⟨0, Nat.zero_le _, rfl, by simp⟩
  case round =>
    obtain ⟨k, hk, rfl, hall⟩ := hrel
    by_cases hlt : k < n
    · have hkl : k < l.length := by have := HL.out; omega
      have hog := HO.out (by omega)
      subst hog
      have a2 := HC.out k hlt
      have HS := Lib.hid (all_take6 (f := cofB) hkl)
      cases hc : cofB (l.getD k 0)
      · have HP := Lib.hid (show polyB l = false by simp [polyB, all_false hkl hc])
        unfold cofB at hc
        generalize l.getD k 0 = x at *
        clear hkl hall
        go_wp2_with (go_at_call 102; refine (in_any _ _ _ _).mono ?_; rw [hc]; rintro e w' ⟨rfl, rfl⟩)
        go_ret
        rw [HP.out]; exact ⟨rfl, rfl⟩
      · have HE := Lib.hid (show (l.take (k + 1)).all cofB = true by rw [HS.out, hall, hc]; rfl)
        unfold cofB at hc
        generalize l.getD k 0 = x at *
        clear hkl hall
        go_wp2_with (go_at_call 102; refine (in_any _ _ _ _).mono ?_; rw [hc]; rintro e w' ⟨rfl, rfl⟩)
        exact ⟨⟨k + 1, by omega, by go_num, HE.out⟩, by simp [intOf]; omega⟩
    · have hkn : k = n := by omega
      rw [hkn, HL.out, List.take_of_length_le (Nat.le_refl _)] at hall
      clear hlt
      by_cases h9 : n ≤ 9
      · by_cases h0 : n = 0
        · have HP := Lib.hid (show polyB l = true by simp [polyB, lastB, hall, ← HL.out, h0])
          clear hall
          subst h0
          go_wp2
          go_ret
          rw [HP.out]; exact ⟨rfl, rfl⟩
        · have hog := HO.out (by omega)
          subst hog
          have a2 := HC.out (n - 1) (by omega)
          have HP := Lib.hid (show polyB l = !(l.getD (n - 1) 0 == 0) by
            rw [HL.out] at h9 h0 ⊢
            simp only [polyB, lastB, hall, Bool.true_and, decide_eq_true h9, decide_eq_false h0, Bool.false_or])
          generalize l.getD (n - 1) 0 = x at *
          have h0' : ((n : Int) == 0) = false := by simp; omega
          have hn1 : (n : Int) - 1 = ((n - 1 : Nat) : Int) := by omega
          clear hall
          go_wp2
          go_ret
          rw [HP.out]; exact ⟨rfl, rfl⟩
      · have HP := Lib.hid (show polyB l = false by
          rw [HL.out] at h9
          simp only [polyB, decide_eq_false h9, Bool.false_and, Bool.and_false])
        clear hall
        go_wp2
        go_ret
        rw [HP.out]; exact ⟨rfl, rfl⟩
def OwnPost (l : List Int) (w : World) (e : Ending) (w' : World) : Prop := ∃ v, e = .returned v ∧ IntRow w.heap.size w' v l ∧ Below w.heap.size w w'
theorem oneCell_map (l : List Int) : ∀ u ∈ l.map (Value.int .i64), u.oneCell' = true := by
  intro u hu
  obtain ⟨x, _, rfl⟩ := List.mem_map.1 hu
  rfl
theorem specOwn_any {o : Option Addr} {n c : Nat} {l : List Int} {w : World} (h : Seen w o n c l) :
    Calls Try.prog 121 #[.slice o n c] w (OwnPost l w) := by
  obtain ⟨hl, hn, hno, hnc, g, h1, h2⟩ := h
  obtain ⟨i0, hi, hz0, hz1, hz2⟩ := info_parts Try.infoInt64
  have HI := Lib.hid hi
  have HZ0 := Lib.hid hz0
  have HZ1 := Lib.hid hz1
  have HZ2 := Lib.hid hz2
  clear hi hz0 hz1 hz2
  have hrow := intRow_made w
  by_cases h0 : n = 0
  · subst h0
    have e : l = [] := List.eq_nil_of_length_eq_zero hl.symm
    subst e
    have HR := Lib.hid hrow
    have HB := Lib.hid ((Below.refl w.heap.size w).alloc (Nat.le_refl _) (.cells #[] 2))
    have HN := Lib.hid hno
    clear hno hrow h1 h2 hl
    go_enter Try.func121, Try.ntmps121
    go_wp2_with (at_builtin; refine wpList_append_fits_any _ rfl (.tmp 3) (.tmp 4) 26 rfl w.heap.size 2 i0 1 Try.underlying26 HI.out HZ1.out w.heap.size 0 0 [] rfl HR.out o 0 c [] rfl rfl (fun h => ⟨rfl, HN.out h⟩) (fun _ _ j u h => by simp at h) (fun u h => by simp at h) (by omega) ?_)
    intro w1 hown hgrow
    have HO := Lib.hid hown
    have HG := Lib.hid (HB.out.grown hgrow (by simp) (fun k hk => by cases hk; exact Nat.le_refl _))
    clear hown hgrow
    go_wp2
    go_ret
    exact ⟨_, rfl, HO.out, HG.out⟩
  · obtain ⟨rfl, hg⟩ := h1 (by omega)
    have hnews : ∀ j u, (l.map (Value.int .i64))[j]? = some u → (w.alloc (.cells #[] 2)).cell? ((⟨g, 0, none⟩ : Addr).add j) = some u := by
      intro j u hj
      have hjl : j < n := by
        have := (List.getElem?_eq_some_iff.1 hj).1
        rw [List.length_map] at this; omega
      have e : (⟨g, 0, none⟩ : Addr).add j = ⟨g, j, none⟩ := by simp [Addr.add]; omega
      rw [e, ((Below.refl w.heap.size w).alloc (Nat.le_refl _) (.cells #[] 2)).cell (p := ⟨g, j, none⟩) hg, h2 j hjl]
      have hj2 : j < l.length := by omega
      simp [hj2] at hj
      rw [← hj]; simp [List.getD, hj2]
    have HN := Lib.hid hnews
    have HL := Lib.hid hl
    have HR := Lib.hid hrow
    have HB := Lib.hid ((Below.refl w.heap.size w).alloc (Nat.le_refl _) (.cells #[] 2))
    clear hnews h1 h2 hl hrow
    go_enter Try.func121, Try.ntmps121
    go_wp2_with (at_builtin; refine wpList_append_own _ rfl (.tmp 3) (.tmp 4) 26 rfl w.heap.size 2 i0 (.int .i64 0) 1 8 Try.underlying26 HI.out HZ0.out HZ1.out HZ2.out rfl (by decide) _ _ _ rfl HR.out ⟨g, 0, none⟩ n c (l.map (Value.int .i64)) rfl (by rw [List.length_map, Nat.mul_one]; exact HL.out.symm) HN.out (oneCell_map l) ?c3 ?c4 ?c5 ?_)
    case c3 => unfold maxLen; simp; omega
    case c4 => simp; omega
    case c5 => first | omega | simp
    intro v' w1 hown hgrow _
    have HO : Hid (IntRow w.heap.size w1 v' l) := Lib.hid (by unfold IntRow; rw [← HL.out]; simpa using hown)
    have HG := Lib.hid (HB.out.grown hgrow (by simp) (fun k hk => by cases hk; exact Nat.le_refl _))
    clear hown hgrow
    go_wp2
    go_ret
    exact ⟨_, rfl, HO.out, HG.out⟩
theorem specTrim_any {o : Option Addr} {n c : Nat} {l : List Int} {w : World} (h : Seen w o n c l) :
    Calls Try.prog 137 #[.slice o n c] w (OwnPost (trimL l) w) := by
  have HS := Lib.hid h
  obtain ⟨hl, hn, hno, hnc, g, h1, h2⟩ := h
  have HO := Lib.hid fun h => (h1 h).1
  have HL := Lib.hid hl
  have HC := Lib.hid h2
  clear h1 h2 hl hno
  go_enter Try.func137, Try.ntmps137
  go_wp2
  go_loop [3] (fun i => ∃ k : Nat, k ≤ n ∧ i = .int .i64 k ∧ trimN l k = trimN l n) (fun i => (intOf i).toNat)
  case atStart => exact ⟨n, Nat.le_refl _, rfl, rfl⟩
  case round =>
    obtain ⟨k, hk, rfl, ht⟩ := hrel
    by_cases h0 : k = 0
    · have HT := Lib.hid (show trimL l = l.take k by unfold trimL; rw [← HL.out, ← ht, h0]; rfl)
      have HK := Lib.hid (seen_take HS.out hk)
      clear ht
      subst h0
      go_wp2_with (go_at_call 121; refine (specOwn_any HK.out).mono ?_; rintro e w' ⟨v, rfl, hr, hb⟩)
      go_ret
      rw [HT.out]
      exact ⟨_, rfl, hr, hb⟩
    · have hog := HO.out (by omega)
      subst hog
      have a2 := HC.out (k - 1) (by omega)
      have HX := Lib.hid (show l.getD (k - 1) 0 = 0 → trimN l (k - 1) = trimN l n by intro h; rw [← ht]; rw [show k = k - 1 + 1 by omega]; exact (trimN_zero h).symm)
      have HY := Lib.hid (show l.getD (k - 1) 0 ≠ 0 → trimL l = l.take k by intro h; unfold trimL; rw [← HL.out, ← ht]; rw [show k = k - 1 + 1 by omega, trimN_stay h])
      have hk1 : (k : Int) - 1 = ((k - 1 : Nat) : Int) := by omega
      have HK := Lib.hid (seen_take HS.out hk)
      have hkc : k ≤ c := by omega
      generalize l.getD (k - 1) 0 = x at *
      clear ht
      by_cases hx : x = 0
      · have HX' := Lib.hid (HX.out hx)
        have hx' : (x == 0) = true := by simp [hx]
        clear hx
        go_wp2
        exact ⟨⟨k - 1, by omega, by go_num, HX'.out⟩, by simp [intOf]; omega⟩
      · have HY' := Lib.hid (HY.out hx)
        have hx' : (x == 0) = false := by simpa using hx
        clear hx HX HY
        go_wp2_with (go_at_call 121; refine (specOwn_any HK.out).mono ?_; rintro e w' ⟨v, rfl, hr, hb⟩)
        go_ret
        rw [HY'.out]
        exact ⟨_, rfl, hr, hb⟩
theorem polyB_trim_none {l : List Int} (h : polyB (trimL l) = false) : resL l = [] ∧ resC l = 3 := by simp [resL, resC, h]
theorem polyB_trim_some {l : List Int} (h : polyB (trimL l) = true) : resL l = trimL l ∧ resC l = 0 := by simp [resL, resC, h]
end Go.Proofs.Ytbjkcoajabcibaa
