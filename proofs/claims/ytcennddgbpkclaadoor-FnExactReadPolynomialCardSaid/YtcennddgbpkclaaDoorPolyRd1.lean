/- Plain mathematics of chapter 6's texts: reading piece by piece. -/
import Derived.Test.YtcennddgbpkclaaDoorPolyText
namespace Go.Proofs.YtcennddgbpkclaaDoor
open Go.RowKit Go.Shelf
set_option linter.unusedVariables false
set_option linter.unusedSimpArgs false
theorem first_of {b : UInt8} : ∀ {l : List UInt8}, b ∈ l → ∃ x y, l = x ++ b :: y ∧ b ∉ x
  | [], h => by cases h
  | c :: r, h => by
    by_cases e : c = b
    · exact ⟨[], r, by rw [e]; rfl, by simp⟩
    · have h2 : b ∈ r := by
        rcases List.mem_cons.1 h with h | h
        · exact absurd h.symm e
        · exact h
      obtain ⟨x, y, e1, e2⟩ := first_of h2
      exact ⟨c :: x, y, by rw [e1]; rfl, by
        intro h3
        rcases List.mem_cons.1 h3 with h3 | h3
        · exact e h3.symm
        · exact e2 h3⟩
theorem cut_cases (b : UInt8) (l : List UInt8) : (b ∉ l ∧ Lib.cut l [b] = (l, [], false)) ∨ ∃ x y, l = x ++ b :: y ∧ b ∉ x ∧ Lib.cut l [b] = (x, y, true) := by
  by_cases h : b ∈ l
  · obtain ⟨x, y, e1, e2⟩ := first_of h
    exact .inr ⟨x, y, e1, e2, by rw [e1]; exact cut_byte b x y e2⟩
  · exact .inl ⟨h, cut_no_byte b l h⟩
theorem pI_nonneg {l : List UInt8} {k : Int} (h : pI l = some k) (hn : (45 : UInt8) ∉ l) : 0 ≤ k := by
  unfold pI at h
  split at h
  · rename_i v hp
    simp only [Option.some.injEq] at h
    subst h
    unfold Lib.parseIntB at hp
    cases l with
    | nil => cases hp
    | cons c r =>
      have hc : ¬ c.toNat = 45 := by
        intro e
        apply hn
        have : c = 45 := by
          have h2 : c.toNat = (45 : UInt8).toNat := e
          exact UInt8.toNat_inj.1 h2
        rw [this]; simp
      simp only at hp
      split at hp
      · cases hp
      · cases hp
      · split at hp
        · cases hp
        · split at hp
          · cases hp
          · simp only [Lib.NumEnd.ok.injEq] at hp
            first | omega | (rw [if_neg hc] at hp; omega)
  · cases h
/-- no power is negative: a sign begins the next piece -/
theorem ft_pow {l : List UInt8} {a k : Int} (hp : PieceL l) (h : ftV l = some (a, k, true)) : 0 ≤ k := by
  obtain ⟨hd, t, rfl, hno⟩ := hp
  unfold ftV at h
  rcases cut_cases 120 (hd :: t) with ⟨_, e⟩ | ⟨x, y, exy, hx, e⟩
  · rw [e] at h
    simp only [Bool.false_eq_true, if_false] at h
    cases hpi : pI (hd :: t) with
    | none => rw [hpi] at h; cases h
    | some v => rw [hpi] at h; simp at h
  · rw [e] at h
    simp only [if_true] at h
    have hy : ∀ b ∈ y, b ≠ 45 := by
      intro b hb e2
      have : b ∈ t := by
        cases x with
        | nil => simp at exy; rw [exy.2]; exact hb
        | cons c x => simp at exy; rw [exy.2]; simp [hb]
      have := hno b this
      rw [e2] at this; cases this
    -- behind the first byte of what is read there is no minus sign
    have key : ∃ c r, numX x ++ y = c :: r ∧ (45 : UInt8) ∉ r := by
      cases x with
      | nil =>
        refine ⟨49, y, by simp [numX], ?_⟩
        intro h3; exact hy 45 h3 rfl
      | cons c x =>
        have hx2 : ∀ b ∈ x, b ≠ 45 := by
          intro b hb e2
          have : b ∈ t := by simp at exy; rw [exy.2]; simp [hb]
          have := hno b this
          rw [e2] at this; cases this
        unfold numX
        split
        · refine ⟨c, x ++ [49] ++ y, by simp, ?_⟩
          intro h3
          rcases List.mem_append.1 h3 with h3 | h3
          · rcases List.mem_append.1 h3 with h3 | h3
            · exact hx2 45 h3 rfl
            · simp at h3
          · exact hy 45 h3 rfl
        · refine ⟨c, x ++ y, by simp, ?_⟩
          intro h3
          rcases List.mem_append.1 h3 with h3 | h3
          · exact hx2 45 h3 rfl
          · exact hy 45 h3 rfl
    obtain ⟨c, r, ecr, hr⟩ := key
    unfold rdX at h
    rw [ecr] at h
    unfold rdQ at h
    rw [show (bsOf (c :: r)).data.toList = c :: r by simp [bsOf]] at h
    rcases cut_cases 94 (c :: r) with ⟨_, e2⟩ | ⟨x2, y2, exy2, hx2, e2⟩
    · rw [e2] at h
      cases hpi : pI (c :: r) with
      | none => rw [hpi] at h; simp at h
      | some v => rw [hpi] at h; simp at h; omega
    · rw [e2] at h
      have hy2 : (45 : UInt8) ∉ y2 := by
        intro h3
        apply hr
        cases x2 with
        | nil => simp at exy2; rw [exy2.2]; exact h3
        | cons d x2 => simp at exy2; rw [exy2.2]; simp [h3]
      cases hpi : pI x2 with
      | none => rw [hpi] at h; simp at h
      | some v =>
        rw [hpi] at h
        simp only [if_true] at h
        cases hpk : pI y2 with
        | none => rw [hpk] at h; simp at h
        | some w =>
          rw [hpk] at h
          simp at h
          have := pI_nonneg hpk hy2
          omega
/-- what has been read of a text, and what is left of it -/
def Tie (S r : List UInt8) (F : List Int) : Prop := ∀ f, polyB f = true → S = polyT f → (∃ n b, n ≤ 9 ∧ r = restT f b n ∧ F = highL f n) ∨ (f = [] ∧ r = [48] ∧ F = highL f 9)
def NoPoly (S : List UInt8) : Prop := ∀ f, polyB f = true → S ≠ polyT f
theorem tie_start (S : List UInt8) : Tie S S (tabL 9 fun _ => 0) := by
  intro f hf hS
  obtain ⟨h9, _, hl⟩ := polyB_of hf
  by_cases h0 : restT f true f.length = []
  · have hz := rest_nil h0
    have hn : f = [] := by
      rcases hl with hl | hl
      · exact List.eq_nil_of_length_eq_zero hl
      · by_cases h1 : f.length = 0
        · exact List.eq_nil_of_length_eq_zero h1
        · exact absurd (hz (f.length - 1) (by omega)) hl
    exact .inr ⟨hn, by rw [hS]; unfold polyT; rw [if_pos h0], high_nine.symm⟩
  · exact .inl ⟨9, true, Nat.le_refl _, by rw [hS]; unfold polyT; rw [if_neg h0, rest_nine h9], high_nine.symm⟩
theorem zero_piece : PieceL [48] := ⟨48, [], rfl, by simp⟩
theorem tie_case {S r p q : List UInt8} {F : List Int} (h : Tie S r F) (hr : r = p ++ q) (hp : PieceL p) (hq : TailL q) {f : List Int} (hf : polyB f = true) (hS : S = polyT f) :
    (∃ b m, m ≤ 8 ∧ p = termT b (f.getD m 0) m ∧ f.getD m 0 ≠ 0 ∧ q = restT f false m ∧ F.set m (f.getD m 0) = highL f m) ∨ (f = [] ∧ p = [48] ∧ q = [] ∧ F = highL f 9) := by
  rcases h f hf hS with ⟨n, b, hn, e1, e2⟩ | ⟨e1, e2, e3⟩
  · have hne : restT f b n ≠ [] := by
      rw [← e1, hr]
      intro e
      exact piece_ne hp (List.append_eq_nil_iff.1 e).1
    obtain ⟨m, hm, hc, e4, hz⟩ := rest_head hne
    obtain ⟨e5, e6⟩ := piece_unique hp (term_piece b _ m) hq (rest_tail f m) (by rw [← hr, e1, e4])
    exact .inl ⟨b, m, by omega, e5, hc, e6, by rw [e2]; exact high_set (by omega) hm hz⟩
  · obtain ⟨e5, e6⟩ := piece_unique hp zero_piece hq (.inl rfl) (by rw [← hr, e2]; rfl)
    exact .inr ⟨e1, e5, e6, e3⟩
theorem tie_none {S r p q : List UInt8} {F : List Int} (h : Tie S r F) (hr : r = p ++ q) (hp : PieceL p) (hq : TailL q) (hv : ftV p = none) : NoPoly S := by
  intro f hf hS
  have hb := (polyB_of hf).2.1
  rcases tie_case h hr hp hq hf hS with ⟨b, m, hm, e, _⟩ | ⟨_, e, _⟩
  · rw [e, ft_canon b (hb m).1 (hb m).2 hm] at hv; cases hv
  · rw [e, ft_zero] at hv; cases hv
theorem tie_const {S r p q : List UInt8} {F : List Int} {a k : Int} (h : Tie S r F) (hr : r = p ++ q) (hp : PieceL p) (hq : TailL q) (hv : ftV p = some (a, k, false)) : Tie S q (F.set 0 a) := by
  intro f hf hS
  have hb := (polyB_of hf).2.1
  rcases tie_case h hr hp hq hf hS with ⟨b, m, hm, e, _, e2, e3⟩ | ⟨e0, e, e2, e3⟩
  · rw [e, ft_canon b (hb m).1 (hb m).2 hm] at hv
    simp only [Option.some.injEq, Prod.mk.injEq, decide_eq_false_iff_not] at hv
    have hm0 : m = 0 := by omega
    subst hm0
    refine .inl ⟨0, false, by omega, e2, ?_⟩
    rw [← hv.1]; exact e3
  · rw [e, ft_zero] at hv
    simp only [Option.some.injEq, Prod.mk.injEq] at hv
    refine .inl ⟨0, false, by omega, e2, ?_⟩
    rw [e3, e0, ← hv.1]
    rfl
theorem tie_power {S r p q : List UInt8} {F : List Int} {a k : Int} (h : Tie S r F) (hr : r = p ++ q) (hp : PieceL p) (hq : TailL q) (hv : ftV p = some (a, k, true)) :
    (8 < k → NoPoly S) ∧ (∀ m : Nat, k = (m : Int) → Tie S q (F.set m a)) := by
  refine ⟨fun hk f hf hS => ?_, fun m0 hm0 f hf hS => ?_⟩
  · have hb := (polyB_of hf).2.1
    rcases tie_case h hr hp hq hf hS with ⟨b, m, hm, e, _⟩ | ⟨_, e, _⟩
    · rw [e, ft_canon b (hb m).1 (hb m).2 hm] at hv
      simp only [Option.some.injEq, Prod.mk.injEq] at hv
      omega
    · rw [e, ft_zero] at hv
      simp at hv
  · have hb := (polyB_of hf).2.1
    rcases tie_case h hr hp hq hf hS with ⟨b, m, hm, e, _, e2, e3⟩ | ⟨e0, e, e2, e3⟩
    · rw [e, ft_canon b (hb m).1 (hb m).2 hm] at hv
      simp only [Option.some.injEq, Prod.mk.injEq] at hv
      have : m0 = m := by omega
      subst this
      refine .inl ⟨m0, false, by omega, e2, ?_⟩
      rw [← hv.1]; exact e3
    · rw [e, ft_zero] at hv
      simp at hv
theorem tie_end {S : List UInt8} {F : List Int} (h : Tie S [] F) {f : List Int} (hf : polyB f = true) (hS : S = polyT f) : F = padL f := by
  rcases h f hf hS with ⟨n, b, hn, e1, e2⟩ | ⟨_, e2, _⟩
  · rw [e2]; exact high_done (rest_nil e1.symm)
  · cases e2
/-- what both ReadPolynomial answer -/
def ReadRel (S : List UInt8) (q : List Int) (c : Int) : Prop :=
  (polyB q = true ∧ S = polyT q ∧ (∀ g, polyB g = true → S = polyT g → g = q) ∧ c = 0) ∨ (q = [] ∧ c = 6 ∧ NoPoly S)
theorem read_same {S : List UInt8} {q q' : List Int} {c c' : Int} (h : ReadRel S q c) (h' : ReadRel S q' c') : q = q' ∧ c = c' := by
  rcases h with ⟨h1, h2, h3, h4⟩ | ⟨h1, h2, h3⟩ <;> rcases h' with ⟨k1, k2, k3, k4⟩ | ⟨k1, k2, k3⟩
  · exact ⟨k3 q h1 h2, by rw [h4, k4]⟩
  · exact absurd h2 (k3 q h1)
  · exact absurd k2 (h3 q' k1)
  · exact ⟨by rw [h1, k1], by rw [h2, k2]⟩
theorem read_len {S : List UInt8} {q : List Int} {c : Int} (h : ReadRel S q c) : q.length ≤ 9 := by
  rcases h with ⟨h1, _⟩ | ⟨h1, _⟩
  · exact (polyB_of h1).1
  · rw [h1]; simp
theorem pad_trim {F : List Int} (h : F.length = 9) : padL (trimL F) = F :=
  ext_getD (by rw [padL_length, h]) fun i hi => by
    rw [padL_getD (by rw [trimL_length]; have := trimN_le F F.length; omega), trimL_getD]
theorem read_yes {S : List UInt8} {F : List Int} (h9 : F.length = 9) (hp : polyB (trimL F) = true) (hS : S = polyT (trimL F)) (hu : ∀ f, polyB f = true → S = polyT f → F = padL f) : ReadRel S (trimL F) 0 := by
  refine .inl ⟨hp, hS, fun g hg hgS => ?_, rfl⟩
  have e := hu g hg hgS
  rw [e, trim_pad (polyB_of hg).1, trimL_self (poly_last hg)]
end Go.Proofs.YtcennddgbpkclaaDoor
