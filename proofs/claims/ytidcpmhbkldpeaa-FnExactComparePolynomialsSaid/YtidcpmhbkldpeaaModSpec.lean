/- Contracts of the walk: chapter 8 in spec: polynomials by a prime, remainders of coefficients, products. -/
import Derived.Test.YtidcpmhbkldpeaaModRem
namespace Go.Proofs.Ytidcpmhbkldpeaa
open Go.RowKit
set_option linter.unusedVariables false
set_option linter.unusedSimpArgs false
set_option maxRecDepth 20000
def resB (p : Int) (f : List Int) : Bool := f.all fun x => inB x 0 (p - 1)
theorem modB_eq (p : Int) (f : List Int) : modB p f = (smallB p && (decide (f.length ≤ 9) && (resB p f && lastB f))) := rfl
set_option maxHeartbeats 1000000 in
theorem specIsMod_any (p : Int) {o : Option Addr} {n c : Nat} {f : List Int} {w : World} (h : Seen w o n c f) :
    Calls Try.prog 46 #[.int .i64 p, .slice o n c] w fun e w' => e = .returned (.bool (modB p f)) ∧ w = w' := by
  obtain ⟨hl, hn, hno, hnc, g, h1, h2⟩ := h
  clear hno hnc
  have HO := Lib.hid fun h => (h1 h).1
  have HL := Lib.hid hl
  have HC := Lib.hid h2
  clear h1 h2 hl
  cases hs : smallB p
  · have HP := Lib.hid (show modB p f = false by rw [modB_eq, hs, Bool.false_and])
    go_enter Try.func46, Try.ntmps46
    go_wp2_with fail
    refine (l01Small_any p w).mono ?_
    rw [hs]
    rintro e w2 ⟨rfl, rfl⟩
    go_wp2_with fail
    go_ret
    rw [HP.out]; exact ⟨rfl, rfl⟩
  · by_cases h9 : n ≤ 9
    · obtain ⟨p2, p97⟩ := smallB_bd hs
      have wp1 : IntKind.i64.wrap (p - 1) = p - 1 := IntWalk.i64_in _ (by omega)
      go_enter Try.func46, Try.ntmps46
      go_wp2_with fail
      refine (l01Small_any p w).mono ?_
      rw [hs]
      rintro e w2 ⟨rfl, rfl⟩
      go_wp2_with fail
      go_loop [5] (fun i => ∃ k : Nat, k ≤ n ∧ i = .int .i64 k ∧ resB p (f.take k) = true) (fun i => n - (intOf i).toNat)
      case atStart => exact ⟨0, Nat.zero_le _, rfl, by simp [resB]⟩
      case round =>
        obtain ⟨k, hk, rfl, hall⟩ := hrel
        by_cases hlt : k < n
        · have hkl : k < f.length := by have := HL.out; omega
          have hog := HO.out (by omega)
          subst hog
          have a2 := HC.out k hlt
          have HA := Lib.hid (all_take6 (f := fun x => inB x 0 (p - 1)) hkl)
          cases hc : inB (f.getD k 0) 0 (p - 1)
          · have HP := Lib.hid (show modB p f = false by rw [modB_eq, show resB p f = false from all_false hkl hc]; simp)
            generalize f.getD k 0 = x at *
            clear hkl hall
            go_wp2_with fail
            refine (in_any x 0 (p - 1) w).mono ?_
            rw [hc]
            rintro e w2 ⟨rfl, rfl⟩
            go_wp2_with fail
            go_ret
            rw [HP.out]; exact ⟨rfl, rfl⟩
          · have HE := Lib.hid (show resB p (f.take (k + 1)) = true by unfold resB at hall ⊢; rw [HA.out, hall]; simpa using hc)
            generalize f.getD k 0 = x at *
            clear hkl hall
            go_wp2_with fail
            refine (in_any x 0 (p - 1) w).mono ?_
            rw [hc]
            rintro e w2 ⟨rfl, rfl⟩
            go_wp2_with fail
            exact ⟨⟨k + 1, by omega, by go_num, HE.out⟩, by simp [intOf]; omega⟩
        · have hkn : k = n := by omega
          rw [hkn, HL.out, List.take_of_length_le (Nat.le_refl _)] at hall
          clear hlt
          by_cases h0 : n = 0
          · have HP := Lib.hid (show modB p f = true by
              have := HL.out
              rw [modB_eq, hs, hall, show decide (f.length ≤ 9) = true by simp; omega]
              simp [lastB, ← this, h0])
            clear hall
            subst h0
            go_wp2_with fail
            go_ret
            rw [HP.out]; exact ⟨rfl, rfl⟩
          · have hog := HO.out (by omega)
            subst hog
            have a2 := HC.out (n - 1) (by omega)
            have HP := Lib.hid (show modB p f = !(f.getD (n - 1) 0 == 0) by
              have := HL.out
              rw [modB_eq, hs, hall, show decide (f.length ≤ 9) = true by simp; omega]
              rw [this] at h0 ⊢
              simp only [lastB, Bool.true_and, decide_eq_false h0, Bool.false_or])
            generalize f.getD (n - 1) 0 = x at *
            have h0' : ((n : Int) == 0) = false := by simp; omega
            have hn1 : (n : Int) - 1 = ((n - 1 : Nat) : Int) := by omega
            clear hall
            go_wp2_with fail
            go_ret
            rw [HP.out]; exact ⟨rfl, rfl⟩
    · have h9' : (9 : Int) < (n : Int) := by omega
      have HP := Lib.hid (show modB p f = false by
        have := HL.out
        rw [this] at h9
        rw [modB_eq, decide_eq_false h9]; simp)
      go_enter Try.func46, Try.ntmps46
      go_wp2_with fail
      refine (l01Small_any p w).mono ?_
      rw [hs]
      rintro e w2 ⟨rfl, rfl⟩
      go_wp2_with fail
      go_ret
      rw [HP.out]; exact ⟨rfl, rfl⟩
set_option maxHeartbeats 1000000 in
theorem l08Reduce_any (p : Int) (p2 : 2 ≤ p) (p97 : p ≤ 97) {o : Option Addr} {n c : Nat} {l : List Int} {w : World} (h : Seen w o n c l) (hn9 : n ≤ 1000) :
    Calls Try.prog 62 #[.int .i64 p, .slice o n c] w (OwnPost (redL p l) w) := by
  obtain ⟨hl, hn, hno, hnc, g, h1, h2⟩ := h
  obtain ⟨i0, hi, hz0, hz1, hz2⟩ := info_parts Try.infoInt64
  have HI := Lib.hid hi
  have HZ0 := Lib.hid hz0
  have HZ1 := Lib.hid hz1
  have HZ2 := Lib.hid hz2
  have HO := Lib.hid fun h => (h1 h).1
  have HG := Lib.hid fun h => (h1 h).2
  have HL := Lib.hid hl
  have HC := Lib.hid h2
  clear hi hz0 hz1 hz2 h1 h2 hl hno hnc
  go_enter Try.func62, Try.ntmps62
  go_wp2_with fail
  go_loopw [5, 6] (fun v d wr => ∃ k : Nat, d = .int .i64 k ∧ k ≤ n ∧ IntRow w.heap.size wr v (tabL k fun i => l.getD i 0 % p) ∧ Below w.heap.size w wr) (fun _ d _ => n - (intOf d).toNat)
  case atStart => exact ⟨0, rfl, Nat.zero_le _, intRow_made _, (Below.refl _ _).alloc (Nat.le_refl _) _⟩
  case round =>
    obtain ⟨k, rfl, hk, hrow, hb⟩ := hrel
    have bl : (tabL k fun i => l.getD i 0 % p).length ≤ 1000000 := by rw [tabL_length]; omega
    have bs := hb.size
    have HW := Lib.hid hrow
    have HB := Lib.hid hb
    clear hrow hb
    by_cases hlt : k < n
    · have hog := HO.out (by omega)
      subst hog
      have a2 := HC.out k hlt
      rw [← HB.out.cell (p := ⟨g, k, none⟩) (HG.out (by omega))] at a2
      have HS := Lib.hid (show (tabL (k + 1) fun i => l.getD i 0 % p) = (tabL k fun i => l.getD i 0 % p) ++ [l.getD k 0 % p] from tabL_succ _ _)
      generalize l.getD k 0 = z at *
      generalize (tabL k fun i => l.getD i 0 % p) = acc at *
      go_wp2_with fail
      refine (mod8_any z p wr p2 (by omega)).mono ?_
      rintro e w2 ⟨rfl, rfl⟩
      go_wp2_with (at_builtin; refine wpList_append_own _ rfl (.tmp 14) (.tmp 21) 22 rfl w.heap.size 2 i0 (.int .i64 0) 1 8 Try.underlying22 HI.out HZ0.out HZ1.out HZ2.out rfl (by decide) _ _ _ rfl (HW.out.alloc _) ⟨wr.heap.size, 0, none⟩ 1 1 [.int .i64 (z % p)] rfl rfl ?c1 ?c2 ?c3 ?c4 ?c5 ?_)
      try (case c1 => first | exact news_one _ _ _ | simp [Addr.add])
      try (case c2 => first | exact one_one _ | rfl)
      case c3 => unfold maxLen; omega
      case c4 => omega
      case c5 => first | omega | (simp; omega)
      intro v' w1 hown hgrow _
      have HO2 := Lib.hid (intRow_snoc hown)
      have HG2 := Lib.hid (below_appendI HB.out HW.out hgrow)
      clear hown hgrow
      go_wp2_with fail
      go_roundw
      case rel => exact ⟨k + 1, by first | rfl | go_num, by omega, by rw [HS.out]; exact HO2.out, HG2.out⟩
      case measure => simp [intOf]; omega
    · have hkn : k = l.length := by have := HL.out; omega
      have HT := Lib.hid (show trimL (tabL k fun i => l.getD i 0 % p) = redL p l by rw [hkn]; rfl)
      obtain ⟨o2, c2, rfl, HS2⟩ := seen_row HW.out (by omega)
      have hsz : HS2 = HS2 := rfl
      generalize (tabL k fun i => l.getD i 0 % p) = acc at *
      clear hkn hsz
      go_wp2_with fail
      refine (specTrim_any HS2).mono ?_
      rintro e w2 ⟨v, rfl, hr, hb⟩
      have HR := Lib.hid (intRow_lower hr HB.out.size)
      have HB2 := Lib.hid (HB.out.trans (hb.mono HB.out.size))
      clear hr hb
      go_wp2_with fail
      go_ret
      rw [← HT.out]
      exact ⟨_, rfl, HR.out, HB2.out⟩
def rdC (p : Int) (f : List Int) : Int := if smallB p && polyB f then 0 else 1
def rdQ (p : Int) (f : List Int) : List Int := if smallB p && polyB f then redL p f else []
theorem prodL_le (p : Int) (f g : List Int) : (prodL p f g).length ≤ f.length + g.length := by have := prodL_len p f g; omega
theorem l08Mul_any (p : Int) (p2 : 2 ≤ p) (p97 : p ≤ 97) {o o' : Option Addr} {n n' c c' : Nat} {f g : List Int} {w : World} (h : Seen w o n c f) (h' : Seen w o' n' c' g) (hp : polyB f = true) (hq : polyB g = true) :
    Calls Try.prog 48 #[.int .i64 p, .slice o n c, .slice o' n' c'] w (OwnPost (prodL p f g) w) := by
  have HS := Lib.hid h
  have HS' := Lib.hid h'
  have hm : (trimL (mulL f g)).length ≤ 18 := by
    have h1 := mulL_le f g
    have h2 := (polyB_of hp).1
    have h3 := (polyB_of hq).1
    exact trim_le (by omega)
  have HE := Lib.hid (show redL p (trimL (mulL f g)) = prodL p f g from redL_trim _)
  clear h h'
  go_enter Try.func48, Try.ntmps48
  go_wp2_with fail
  refine (l06Mul_any HS.out HS'.out hp hq).mono ?_
  rintro e w2 ⟨v, rfl, hr, hb⟩
  obtain ⟨o2, c2, rfl, HS2⟩ := seen_row hr (by omega)
  have HB := Lib.hid hb
  clear hr hb
  go_wp2_with fail
  refine (l08Reduce_any p p2 p97 HS2 (by omega)).mono ?_
  rw [HE.out]
  rintro e w3 ⟨v, rfl, hr3, hb3⟩
  have HR := Lib.hid (intRow_lower hr3 HB.out.size)
  have HB2 := Lib.hid (HB.out.trans (hb3.mono HB.out.size))
  clear hr3 hb3
  go_wp2_with fail
  go_ret
  exact ⟨_, rfl, HR.out, HB2.out⟩
def twoM (p : Int) (f g : List Int) : Bool := modB p f && modB p g
def mmC (p : Int) (f g : List Int) : Int := if twoM p f g then (if (prodL p f g).length ≤ 9 then 0 else 3) else 1
def mmQ (p : Int) (f g : List Int) : List Int := if mmC p f g = 0 then prodL p f g else []
theorem twoM_of {p : Int} {f g : List Int} (h : twoM p f g = true) : modB p f = true ∧ modB p g = true := by
  simpa [twoM] using h
theorem modB_poly {p : Int} {f : List Int} (h : modB p f = true) : polyB f = true := mod_poly (modB_of h).top (modB_of h).len (modB_of h).mod
theorem modB_small {p : Int} {f : List Int} (h : modB p f = true) : smallB p = true := by simp only [modB, Bool.and_eq_true] at h; exact h.1
theorem mmC_none {p : Int} {f g : List Int} (h : twoM p f g = false) : mmC p f g = 1 ∧ mmQ p f g = [] := by
  have e : mmC p f g = 1 := by simp [mmC, h]
  exact ⟨e, by simp [mmQ, e]⟩
theorem mmC_long {p : Int} {f g : List Int} (h : twoM p f g = true) (hl : ¬ (prodL p f g).length ≤ 9) : mmC p f g = 3 ∧ mmQ p f g = [] := by
  have e : mmC p f g = 3 := by simp [mmC, h, hl]
  exact ⟨e, by simp [mmQ, e]⟩
theorem mmC_fit {p : Int} {f g : List Int} (h : twoM p f g = true) (hl : (prodL p f g).length ≤ 9) : mmC p f g = 0 ∧ mmQ p f g = prodL p f g := by
  have e : mmC p f g = 0 := by simp [mmC, h, hl]
  exact ⟨e, by simp [mmQ, e]⟩
end Go.Proofs.Ytidcpmhbkldpeaa
