/- Contracts of the walk: chapter 6 in impl: valid polynomials, lists cut and copied. -/
import Derived.Test.YtidcpmhbkldpeaaPolySpec4
import Derived.Lib.SliceRun
namespace Go.Proofs.Ytidcpmhbkldpeaa
open Go.RowKit
set_option linter.unusedVariables false
set_option linter.unusedSimpArgs false
set_option maxRecDepth 20000
theorem cofB_cases (x : Int) : cofB x = true ∧ -1000000 ≤ x ∧ x ≤ 1000000 ∨ cofB x = false ∧ (x < -1000000 ∨ 1000000 < x) := inB_cases x _ _
def withB (B : Int) (l : List Int) : Bool := l.all fun x => inB x (-B) B
theorem polyB_eq (l : List Int) : polyB l = (withB 1000000 l && (decide (l.length ≤ 9) && lastB l)) := rfl
def canB (l : List Int) : Bool := decide (l.length ≤ 9) && lastB l
set_option maxHeartbeats 800000 in
theorem canBe_any {o : Option Addr} {n c : Nat} {l : List Int} {w : World} (h : Seen w o n c l) :
    Calls Try.prog 86 #[.slice o n c] w fun e w' => e = .returned (.bool (canB l)) ∧ w = w' := by
  obtain ⟨hl, hn, hno, hnc, g, h1, h2⟩ := h
  clear hno hnc
  have HO := Lib.hid fun h => (h1 h).1
  have HL := Lib.hid hl
  have HC := Lib.hid h2
  clear h1 h2 hl
  by_cases h9 : n ≤ 9
  · by_cases h0 : n = 0
    · have HP := Lib.hid (show canB l = true by simp [canB, lastB, ← HL.out, h0])
      subst h0
      go_enter Try.func86, Try.ntmps86
      go_wp2_with fail
      go_ret
      rw [HP.out]; exact ⟨rfl, rfl⟩
    · have hog := HO.out (by omega)
      subst hog
      have a2 := HC.out (n - 1) (by omega)
      have HP := Lib.hid (show canB l = !(l.getD (n - 1) 0 == 0) by
        rw [HL.out] at h9 h0 ⊢
        simp only [canB, lastB, Bool.true_and, decide_eq_true h9, decide_eq_false h0, Bool.false_or])
      generalize l.getD (n - 1) 0 = x at *
      have h0' : ((n : Int) == 0) = false := by simp; omega
      have hn1 : (n : Int) - 1 = ((n - 1 : Nat) : Int) := by omega
      go_enter Try.func86, Try.ntmps86
      go_wp2_with fail
      go_ret
      rw [HP.out]; exact ⟨rfl, rfl⟩
  · have HP := Lib.hid (show canB l = false by
      have := HL.out
      rw [this] at h9
      simp only [canB, decide_eq_false h9, Bool.false_and])
    go_enter Try.func86, Try.ntmps86
    go_wp2_with fail
    go_ret
    rw [HP.out]; exact ⟨rfl, rfl⟩
theorem polyB_can (l : List Int) : polyB l = (canB l && withB 1000000 l) := by rw [polyB_eq]; unfold canB; exact Bool.and_comm _ _
theorem row_cut {b n c k : Nat} {o : Option Addr} {w : World} {l : List Int} (h : IntRow b w (.slice o n c) l) (hk : k ≤ n) : IntRow b w (.slice o k c) (l.take k) := by
  have hl : l.length = n := by
    obtain ⟨o', c', e⟩ : ∃ o' c', Value.slice o n c = .slice o' l.length c' := by
      rcases row_shape h with ⟨h0, _⟩ | ⟨_, g, c', e, _⟩
      · obtain ⟨_, h2⟩ := h
        rcases h2 with ⟨e, _⟩ | ⟨g, cap, cur, e, _⟩
        · injection e with e1 e2 e3; exact ⟨none, 0, by rw [e1, e2, e3, h0]⟩
        · exact ⟨_, _, e⟩
      · exact ⟨_, _, e⟩
    injection e with _ e2 _; exact e2.symm
  obtain ⟨h1, h2⟩ := h
  refine ⟨by simp, ?_⟩
  have hlt : (l.take k).length = k := by rw [List.length_take]; omega
  rcases h2 with ⟨e, h0⟩ | ⟨g, cap, cur, e, hb, hg, hnc, hm, hs, ht⟩
  · injection e with e1 e2 e3
    exact .inl ⟨by rw [e1, e3, show k = 0 by omega], by rw [hlt]; omega⟩
  · injection e with e1 e2 e3
    refine .inr ⟨g, cap, cur, by rw [e1, e3, hlt], hb, hg, by rw [hlt]; omega, hm, hs, ?_⟩
    rw [hlt, List.map_take, ← ht, List.take_take]
    congr 1; omega
set_option maxHeartbeats 800000 in
theorem trimmed_any {o : Option Addr} {n c : Nat} {l : List Int} {w : World} (h : Seen w o n c l) :
    Calls Try.prog 87 #[.slice o n c] w fun e w' => e = .returned (.slice o (trimN l l.length) c) ∧ w = w' := by
  obtain ⟨hl, hn, hno, hnc, g, h1, h2⟩ := h
  have HO := Lib.hid fun h => (h1 h).1
  have HL := Lib.hid hl
  have HC := Lib.hid h2
  have HNO := Lib.hid hno
  rw [← hl]
  clear h1 h2 hl hno
  go_enter Try.func87, Try.ntmps87
  go_wp2
  go_loop [3] (fun i => ∃ k : Nat, k ≤ n ∧ i = .int .i64 k ∧ trimN l k = trimN l n) (fun i => (intOf i).toNat)
  case atStart => exact ⟨n, Nat.le_refl _, rfl, rfl⟩
  case round =>
    obtain ⟨k, hk, rfl, ht⟩ := hrel
    by_cases h0 : k = 0
    · have HT := Lib.hid (show trimN l n = 0 by rw [← ht, h0]; rfl)
      clear ht
      subst h0
      cases o with
      | none =>
        have := HNO.out rfl
        go_wp2
        go_ret
        rw [HT.out]; exact ⟨rfl, rfl⟩
      | some a =>
        go_wp2
        go_ret
        rw [HT.out]; exact ⟨rfl, rfl⟩
    · have hog := HO.out (by omega)
      subst hog
      have a2 := HC.out (k - 1) (by omega)
      have HX := Lib.hid (show l.getD (k - 1) 0 = 0 → trimN l (k - 1) = trimN l n by intro h; rw [← ht]; rw [show k = k - 1 + 1 by omega]; exact (trimN_zero h).symm)
      have HY := Lib.hid (show l.getD (k - 1) 0 ≠ 0 → trimN l n = k by intro h; rw [← ht]; rw [show k = k - 1 + 1 by omega, trimN_stay h])
      have hk1 : (k : Int) - 1 = ((k - 1 : Nat) : Int) := by omega
      have hkc : k ≤ c := by omega
      generalize l.getD (k - 1) 0 = x at *
      clear ht
      by_cases hx : x = 0
      · have HX' := Lib.hid (HX.out hx)
        have hx' : (x == 0) = true := by simp [hx]
        clear hx
        go_wp2
        exact ⟨⟨k - 1, by omega, by go_num, HX'.out⟩, by simp [intOf]; omega⟩
      · have HY' := Lib.hid (HY.out hx)
        have hx' : (x == 0) = false := by simpa using hx
        clear hx HX HY
        go_wp2
        go_ret
        rw [HY'.out]; exact ⟨rfl, rfl⟩
theorem clone_any {g n c : Nat} {l : List Int} {w : World} (h : Seen w (some ⟨g, 0, none⟩) n c l) :
    Calls Try.prog 98 #[.slice (some ⟨g, 0, none⟩) n c] w (OwnPost l w) := by
  obtain ⟨hl, hn, hno, hnc, g', h1, h2⟩ := h
  obtain ⟨i0, hi, hz0, hz1, hz2⟩ := info_parts Try.infoInt64
  have HI := Lib.hid hi
  have HZ0 := Lib.hid hz0
  have HZ1 := Lib.hid hz1
  have HZ2 := Lib.hid hz2
  clear hi hz0 hz1 hz2
  have hrow := intRow_made w
  have hnil : (binOp .eql 22 (.slice (some ⟨g, 0, none⟩) n c) (.slice none 0 0)).run Try.prog w = .ok (.bool false) w := Lib.run_eql_slice_nil (P := Try.prog) w 22 2 (some ⟨g, 0, none⟩) n c 0 0 Try.underlying22
  by_cases h0 : n = 0
  · subst h0
    have e : l = [] := List.eq_nil_of_length_eq_zero hl.symm
    subst e
    have HR := Lib.hid hrow
    have HB := Lib.hid ((Below.refl w.heap.size w).alloc (Nat.le_refl _) (.cells #[] 2))
    clear hno hrow h1 h2 hl
    go_enter Try.func98, Try.ntmps98
    go_wp2_with (at_builtin; refine wpList_append_fits_any _ rfl (.tmp 5) (.tmp 6) 22 rfl w.heap.size 2 i0 1 Try.underlying22 HI.out HZ1.out w.heap.size 0 0 [] rfl HR.out _ 0 c [] rfl rfl (fun h => by cases h) (fun _ _ j u h => by simp at h) (fun u h => by simp at h) (by omega) ?_)
    intro w1 hown hgrow
    have HO := Lib.hid hown
    have HG := Lib.hid (HB.out.grown hgrow (by simp) (fun k hk => by cases hk; exact Nat.le_refl _))
    clear hown hgrow
    go_wp2
    go_ret
    exact ⟨_, rfl, HO.out, HG.out⟩
  · obtain ⟨hgg, hg⟩ := h1 (by omega)
    have hge : g = g' := by injection hgg with e; injection e
    subst hge
    have hnews : ∀ j u, (l.map (Value.int .i64))[j]? = some u → (w.alloc (.cells #[] 2)).cell? ((⟨g, 0, none⟩ : Addr).add j) = some u := by
      intro j u hj
      have hjl : j < n := by
        have := (List.getElem?_eq_some_iff.1 hj).1
        rw [List.length_map] at this; omega
      have e : (⟨g, 0, none⟩ : Addr).add j = ⟨g, j, none⟩ := by simp [Addr.add]; omega
      rw [e, ((Below.refl w.heap.size w).alloc (Nat.le_refl _) (.cells #[] 2)).cell (p := ⟨g, j, none⟩) hg, h2 j hjl]
      have hj2 : j < l.length := by omega
      simp [hj2] at hj
      rw [← hj]; simp [List.getD, hj2]
    have HN := Lib.hid hnews
    have HL := Lib.hid hl
    have HR := Lib.hid hrow
    have HB := Lib.hid ((Below.refl w.heap.size w).alloc (Nat.le_refl _) (.cells #[] 2))
    clear hnews h1 h2 hl hrow hgg
    go_enter Try.func98, Try.ntmps98
    go_wp2_with (at_builtin; refine wpList_append_own _ rfl (.tmp 5) (.tmp 6) 22 rfl w.heap.size 2 i0 (.int .i64 0) 1 8 Try.underlying22 HI.out HZ0.out HZ1.out HZ2.out rfl (by decide) _ _ _ rfl HR.out ⟨g, 0, none⟩ n c (l.map (Value.int .i64)) rfl (by rw [List.length_map, Nat.mul_one]; exact HL.out.symm) HN.out (oneCell_map l) ?c3 ?c4 ?c5 ?_)
    case c3 => unfold maxLen; simp; omega
    case c4 => simp; omega
    case c5 => first | omega | simp
    intro v' w1 hown hgrow _
    have HO : Hid (IntRow w.heap.size w1 v' l) := Lib.hid (by unfold IntRow; rw [← HL.out]; simpa using hown)
    have HG := Lib.hid (HB.out.grown hgrow (by simp) (fun k hk => by cases hk; exact Nat.le_refl _))
    clear hown hgrow
    go_wp2
    go_ret
    exact ⟨_, rfl, HO.out, HG.out⟩
theorem clone_nil (w : World) : Calls Try.prog 98 #[.slice none 0 0] w fun e w' => e = .returned (.slice none 0 0) ∧ w = w' := by
  have hnil : (binOp .eql 22 (.slice none 0 0) (.slice none 0 0)).run Try.prog w = .ok (.bool true) w := Lib.run_eql_slice_nil (P := Try.prog) w 22 2 none 0 0 0 0 Try.underlying22
  go_enter Try.func98, Try.ntmps98
  go_wp2
  go_ret
  exact ⟨rfl, rfl⟩
theorem clone_odd (a : Addr) (c : Nat) (w : World) : Calls Try.prog 98 #[.slice (some a) 0 c] w (OwnPost [] w) := by
  obtain ⟨i0, hi, hz0, hz1, hz2⟩ := info_parts Try.infoInt64
  have HI := Lib.hid hi
  have HZ1 := Lib.hid hz1
  clear hi hz0 hz1 hz2
  have hnil : (binOp .eql 22 (.slice (some a) 0 c) (.slice none 0 0)).run Try.prog w = .ok (.bool false) w := Lib.run_eql_slice_nil (P := Try.prog) w 22 2 (some a) 0 c 0 0 Try.underlying22
  have HR := Lib.hid (intRow_made w)
  have HB := Lib.hid ((Below.refl w.heap.size w).alloc (Nat.le_refl _) (.cells #[] 2))
  go_enter Try.func98, Try.ntmps98
  go_wp2_with (at_builtin; refine wpList_append_fits_any _ rfl (.tmp 5) (.tmp 6) 22 rfl w.heap.size 2 i0 1 Try.underlying22 HI.out HZ1.out w.heap.size 0 0 [] rfl HR.out _ 0 c [] rfl rfl (fun h => by cases h) (fun _ _ j u h => by simp at h) (fun u h => by simp at h) (by omega) ?_)
  intro w1 hown hgrow
  have HO := Lib.hid hown
  have HG := Lib.hid (HB.out.grown hgrow (by simp) (fun k hk => by cases hk; exact Nat.le_refl _))
  clear hown hgrow
  go_wp2
  go_ret
  exact ⟨_, rfl, HO.out, HG.out⟩
theorem clone8_any {o : Option Addr} {n c : Nat} {l : List Int} {w : World} (h : Seen w o n c l) :
    Calls Try.prog 98 #[.slice o n c] w (OwnPost l w) := by
  have h' := h
  obtain ⟨hl, hn, hno, hnc, g, h1, h2⟩ := h
  by_cases h0 : n = 0
  · have e : l = [] := List.eq_nil_of_length_eq_zero (by omega)
    subst h0 e
    cases o with
    | none =>
      rw [hno rfl]
      exact (clone_nil w).mono fun e w' h => ⟨_, h.1, intRow_nil _ _, h.2 ▸ Below.refl _ _⟩
    | some a => exact clone_odd a c w
  · obtain ⟨rfl, _⟩ := h1 (by omega)
    exact clone_any h'
end Go.Proofs.Ytidcpmhbkldpeaa
