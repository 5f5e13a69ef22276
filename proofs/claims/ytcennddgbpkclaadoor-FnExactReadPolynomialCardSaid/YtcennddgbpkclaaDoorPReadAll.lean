/- Proved here: the Go law FnExactReadPolynomial of this seat answers true for every text, whatever its length; the card ties the listed variables of Go's library (tables and the two errors of strconv) to the program's text. No further condition. (joined of several texts) -/
import Derived.Test.YtcennddgbpkclaaDoorPolyRd1
import Derived.Test.YtcennddgbpkclaaDoorPolyRd2
import Derived.Test.YtcennddgbpkclaaDoorValue
import Derived.Test.YtcennddgbpkclaaDoorPrime
import Derived.Deep.Cut
import Derived.Deep.WholeRow
import Derived.Test.YtcennddgbpkclaaDoorPolyTxt3
import Derived.Test.YtcennddgbpkclaaDoorPolyLaw0
import Derived.Test.YtcennddgbpkclaaDoorPolySpec4
import Derived.Deep.DeepCutAuto
import Derived.Deep.CutRange
import Derived.Test.YtcennddgbpkclaaDoorRows
import Derived.WalkKit
import Derived.ProofKit
import Derived.OpenShut
import Derived.Deep.DeepHandedRow
import Derived.Lib.LaidTab
import Derived.Stop.LaidErr
import Derived.Stop.Texts
import Derived.WideShapes
import Derived.HandedShaped
import Derived.Test.YtcennddgbpkclaaDoorCards
import Derived.Test.YtcennddgbpkclaaDoorTie
import Derived.ChangeOld
import Derived.ShutString
namespace Go.Proofs.YtcennddgbpkclaaDoor
open Go.RowKit Go.Shelf
set_option linter.unusedVariables false
set_option linter.unusedSimpArgs false
/-- what l06Term answers -/
def TmP (t : List UInt8) (c k : Int) (ok : Bool) : Prop :=
  (∀ a m : Nat, a ≤ 1000000 → m ≤ 8 → t = bodyT a m → c = (a : Int) ∧ k = (m : Int) ∧ ok = true) ∧ 0 ≤ c ∧ c ≤ 10000000000000 ∧ (ok = true → 0 ≤ k ∧ k ≤ 8)
theorem rd_dec {a : Nat} (h : a ≤ 1000000) : rdV (bsOf (Lib.decDigits a)) = (a : Int) ∧ rdOk (bsOf (Lib.decDigits a)) = true := by
  obtain ⟨d1, d2⟩ := decDigits_val a
  have hl := decDigits_len 12 a (by omega)
  have hp : 1 ≤ (Lib.decDigits a).length := by rw [Lib.decDigits]; split <;> simp
  have hg := rd_good (s := bsOf (Lib.decDigits a)) (by rw [bs_size]; exact hp) (by rw [bs_size]; exact hl) (by rw [bs_list]; exact d1)
  rw [bs_list, d2] at hg
  refine ⟨hg.1, ?_⟩
  rw [hg.2, itoa_nat (Int.natCast_nonneg a)]
  simp
theorem no120 (k : Nat) : (120 : UInt8) ∉ Lib.decDigits k := dec_no k (by decide)
theorem tm_no {t : List UInt8} (h : (120 : UInt8) ∉ t) {a m : Nat} (e : t = bodyT a m) : m = 0 ∧ t = Lib.decDigits a := by
  unfold bodyT at e
  by_cases hm : m = 0
  · rw [if_pos hm] at e; exact ⟨hm, e⟩
  · rw [if_neg hm] at e
    exact absurd (by rw [e]; simp) h
theorem tm_split {t x y : List UInt8} (ht : t = x ++ 120 :: y) (hx : (120 : UInt8) ∉ x) {a m : Nat} (e : t = bodyT a m) :
    m ≠ 0 ∧ x = (if a = 1 then [] else Lib.decDigits a) ∧ y = (if m = 1 then [] else 94 :: Lib.decDigits m) := by
  unfold bodyT at e
  by_cases hm : m = 0
  · rw [if_pos hm] at e
    exact absurd (by rw [← e, ht]; simp) (no120 a)
  · rw [if_neg hm] at e
    have hx2 : (120 : UInt8) ∉ (if a = 1 then [] else Lib.decDigits a) := by
      split
      · simp
      · exact no120 a
    have c1 := cut_byte 120 x y hx
    have c2 := cut_byte 120 _ (if m = 1 then [] else 94 :: Lib.decDigits m) hx2
    rw [← ht, e, c2] at c1
    simp only [Prod.mk.injEq] at c1
    exact ⟨hm, c1.1.symm, c1.2.1.symm⟩
def cvX (x : List UInt8) : Int := if x = [] then 1 else rdV (bsOf x)
def coX (x : List UInt8) : Bool := if x = [] then true else rdOk (bsOf x)
theorem cv_bd (x : List UInt8) : 0 ≤ cvX x ∧ cvX x ≤ 10000000000000 := by
  unfold cvX; split
  · omega
  · exact rdV_bd _
theorem dec_ne2 (a : Nat) : Lib.decDigits a ≠ [] := dec_ne a
theorem cv_dec {a : Nat} {x : List UInt8} (h : a ≤ 1000000) (hx : x = (if a = 1 then [] else Lib.decDigits a)) : cvX x = (a : Int) ∧ coX x = true := by
  unfold cvX coX
  by_cases h1 : a = 1
  · rw [if_pos h1] at hx; subst hx; subst h1; exact ⟨rfl, rfl⟩
  · rw [if_neg h1] at hx; subst hx
    rw [if_neg (dec_ne a), if_neg (dec_ne a)]; exact rd_dec h
theorem tm_fail {t : List UInt8} {c k : Int} (h : ∀ a m : Nat, a ≤ 1000000 → m ≤ 8 → t ≠ bodyT a m) (c0 : 0 ≤ c) (c1 : c ≤ 10000000000000) : TmP t c k false :=
  ⟨fun a m ha hm e => absurd e (h a m ha hm), c0, c1, fun h => by cases h⟩
theorem tm_empty : TmP [] 0 0 false := tm_fail (fun a m _ _ e => body_ne a m e.symm) (by omega) (by omega)
theorem tm_a0 {t : List UInt8} (h : (120 : UInt8) ∉ t) (hr : rdOk (bsOf t) = false) : TmP t 0 0 false :=
  tm_fail (fun a m ha hm e => by rw [(tm_no h e).2, (rd_dec ha).2] at hr; cases hr) (by omega) (by omega)
theorem tm_a1 {t : List UInt8} (h : (120 : UInt8) ∉ t) : TmP t (rdV (bsOf t)) 0 true :=
  ⟨fun a m ha hm e => by
    obtain ⟨e1, e2⟩ := tm_no h e
    rw [e2, (rd_dec ha).1, e1]; exact ⟨rfl, rfl, rfl⟩, (rdV_bd _).1, (rdV_bd _).2, fun _ => ⟨by omega, by omega⟩⟩
theorem tm_b0 {t x y : List UInt8} (ht : t = x ++ 120 :: y) (hx : (120 : UInt8) ∉ x) (hc : coX x = false) : TmP t 0 0 false :=
  tm_fail (fun a m ha hm e => by rw [(cv_dec ha (tm_split ht hx e).2.1).2] at hc; cases hc) (by omega) (by omega)
theorem tm_b1 {t x : List UInt8} (ht : t = x ++ [120]) (hx : (120 : UInt8) ∉ x) : TmP t (cvX x) 1 true :=
  ⟨fun a m ha hm e => by
    obtain ⟨e1, e2, e3⟩ := tm_split ht hx e
    refine ⟨(cv_dec ha e2).1, ?_, rfl⟩
    by_cases h1 : m = 1
    · rw [h1]; rfl
    · exact absurd e3 (by rw [if_neg h1]; simp), (cv_bd x).1, (cv_bd x).2, fun _ => ⟨by omega, by omega⟩⟩
theorem tm_b2 {t x z : List UInt8} {b : UInt8} (ht : t = x ++ 120 :: b :: z) (hx : (120 : UInt8) ∉ x) (hb : b ≠ 94) : TmP t 0 0 false :=
  tm_fail (fun a m ha hm e => by
    obtain ⟨e1, e2, e3⟩ := tm_split ht hx e
    by_cases h1 : m = 1
    · rw [if_pos h1] at e3; cases e3
    · rw [if_neg h1] at e3
      simp only [List.cons.injEq] at e3
      exact hb e3.1) (by omega) (by omega)
theorem tm_b3 {t x z : List UInt8} (ht : t = x ++ 120 :: 94 :: z) (hx : (120 : UInt8) ∉ x) : TmP t (cvX x) (rdV (bsOf z)) (rdOk (bsOf z) && inB (rdV (bsOf z)) 2 8) :=
  ⟨fun a m ha hm e => by
    obtain ⟨e1, e2, e3⟩ := tm_split ht hx e
    have h1 : m ≠ 1 := fun h1 => by rw [if_pos h1] at e3; cases e3
    rw [if_neg h1] at e3
    simp only [List.cons.injEq, true_and] at e3
    obtain ⟨r1, r2⟩ := rd_dec (show m ≤ 1000000 by omega)
    rw [e3, r1, r2]
    exact ⟨(cv_dec ha e2).1, rfl, by rw [inB_t (by omega) (by omega)]; rfl⟩, (cv_bd x).1, (cv_bd x).2, fun h => by
    rw [Bool.and_eq_true] at h
    have h2 := h.2
    by_cases h3 : 2 ≤ rdV (bsOf z) ∧ rdV (bsOf z) ≤ 8
    · omega
    · rw [inB_f (by omega)] at h2; cases h2⟩
theorem ext_take5 (r : List UInt8) (k : Nat) : (bsOf r).extract 0 k = bsOf (r.take k) := by
  apply ByteArray.ext; simp [bsOf]
theorem ext_drop5 (r : List UInt8) (k : Nat) : (bsOf r).extract k r.length = bsOf (r.drop k) := by
  apply ByteArray.ext; simp [bsOf, ByteArray.size]
  exact List.take_of_length_le (by simp)
def TermPost (t : List UInt8) (w : World) (e : Ending) (w' : World) : Prop :=
  ∃ c k ok, TmP t c k ok ∧ e = .returned (.tuple #[.int .i64 c, .int .i64 k, .bool ok]) ∧ Below w.heap.size w w'
set_option maxRecDepth 20000 in
set_option maxHeartbeats 1600000 in
/-- no 'x' in it -/
theorem termA_any (t : List UInt8) (w : World) (hl : t.length ≤ 1100000) (hx : (120 : UInt8) ∉ t) :
    Calls Tryd.prog 30 #[.string (bsOf t)] w (TermPost t w) := by
  have hsz : ((bsOf t).size : Int) = (t.length : Int) := by rw [bs_size]
  have hsz2 : (bsOf t).size = t.length := bs_size t
  have HZ := Lib.hid hsz2
  have HX := Lib.hid hx
  have HTK := Lib.hid (show (bsOf t).extract 0 t.length = bsOf t by rw [ext_take5, List.take_of_length_le (Nat.le_refl _)])
  have HV := Lib.hid fun (w : World) => l01Value_any (bsOf t) w (by rw [bs_size]; omega)
  have HA0 := Lib.hid fun h => tm_a0 hx h
  have HA1 := Lib.hid (tm_a1 hx)
  generalize rdV (bsOf t) = rv at *
  generalize rdOk (bsOf t) = ro at *
  clear hsz2 hx
  go_enter Tryd.func30, Tryd.ntmps30
  go_wp2_with fail
  go_loop [5] (fun s => ∃ k : Nat, k ≤ t.length ∧ s = .int .i64 k) (fun s => t.length - (intOf s).toNat)
  case atStart => exact ⟨0, Nat.zero_le _, rfl⟩
  case round =>
    obtain ⟨k, hk, rfl⟩ := hrel
    by_cases hlt : k < t.length
    · obtain ⟨hkb, hget⟩ := bs_get hlt
      have hlt' : (k : Int) < (t.length : Int) := by omega
      have hne : t[k] ≠ 120 := fun e => HX.out (by rw [← e]; exact List.getElem_mem _)
      have hq : (((bsOf t)[k].toNat : Int) != 120) = true := by rw [hget]; have := u8_ne (b := 120) hne; simpa using this
      clear hne hget
      go_wp2_with fail
      exact ⟨⟨k + 1, by omega, by go_num⟩, by simp only [intOf]; omega⟩
    · have hkn : k = t.length := by omega
      have hlt' : ¬ (k : Int) < (t.length : Int) := by omega
      by_cases h0 : t = []
      · have k0 : (bsOf t).toList.isEmpty = true := by rw [h0]; exact be_t
        have hk0 : k = 0 := by rw [hkn, h0]; rfl
        have HE := Lib.hid h0
        subst hk0
        clear hkn h0
        go_wp2_with fail
        go_ret3
        exact ⟨0, 0, false, by rw [HE.out]; exact tm_empty, rfl, Below.refl _ _⟩
      · have k0 : (bsOf t).toList.isEmpty = false := be_f h0
        have hpos : 0 < k := by rw [hkn]; exact List.length_pos_iff.2 h0
        have hpos' : (0 : Int) < (k : Int) := by omega
        have HKN := Lib.hid hkn
        have he : ((k : Int) == (t.length : Int)) = true := by rw [hkn]; simp
        have hle : (k : Int) ≤ (t.length : Int) := by omega
        clear hkn h0
        go_wp2_with fail
        rw [HKN.out, HTK.out]
        refine (HV.out _).mono ?_
        rintro e w1 ⟨rfl, b1⟩
        have B1 := Lib.hid b1
        clear b1
        cases ro
        · have HT := Lib.hid (HA0.out rfl)
          go_wp2_with fail
          go_ret3
          exact ⟨0, 0, false, HT.out, rfl, B1.out⟩
        · go_wp2_with fail
          go_ret3
          exact ⟨rv, 0, true, HA1.out, rfl, B1.out⟩
end Go.Proofs.YtcennddgbpkclaaDoor
namespace Go.Proofs.YtcennddgbpkclaaDoor
open Go.RowKit Go.Shelf
set_option linter.unusedVariables false
set_option linter.unusedSimpArgs false
theorem bne_t {a b : Int} (h : (a == b) = false) : (a != b) = true := by simp only [bne, h]; rfl
theorem bne_f {a b : Int} (h : (a == b) = true) : (a != b) = false := by simp only [bne, h]; rfl
set_option maxRecDepth 20000 in
set_option maxHeartbeats 1600000 in
theorem termB_any (x y : List UInt8) (w : World) (hl : (x ++ 120 :: y).length ≤ 1100000) (hx : (120 : UInt8) ∉ x) :
    Calls Tryd.prog 30 #[.string (bsOf (x ++ 120 :: y))] w (TermPost (x ++ 120 :: y) w) := by
  obtain ⟨t, ht⟩ : ∃ t, x ++ 120 :: y = t := ⟨_, rfl⟩
  rw [ht] at hl ⊢
  have htl : t.length = x.length + 1 + y.length := by rw [← ht]; simp; omega
  have hsz : ((bsOf t).size : Int) = (t.length : Int) := by rw [bs_size]
  obtain ⟨P, hP⟩ : ∃ P, x.length = P := ⟨_, rfl⟩
  rw [hP] at htl
  have HTL := Lib.hid htl
  have HT := Lib.hid ht.symm
  have HX := Lib.hid hx
  have HP := Lib.hid hP
  have HTK := Lib.hid (show (bsOf t).extract 0 P = bsOf x by rw [ext_take5, ← ht, ← hP]; simp)
  have HVX := Lib.hid fun (w : World) => l01Value_any (bsOf x) w (by rw [bs_size]; omega)
  have HGT := Lib.hid fun (k : Nat) (h : k < t.length) => bs_get h
  have HAT := Lib.hid (show ∀ h : P < t.length, t[P] = 120 by intro h; subst ht; subst hP; simp)
  have HBF := Lib.hid (show ∀ k (h : k < t.length), k < P → t[k] ≠ 120 by
    intro k h hk e
    subst ht; subst hP
    rw [List.getElem_append_left hk] at e
    exact hx (by rw [← e]; exact List.getElem_mem _))
  have k0 : (bsOf t).toList.isEmpty = false := be_f (by rw [← ht]; simp)
  have HB0 := Lib.hid fun h => tm_b0 ht.symm hx h
  have HCX := Lib.hid (show (x = [] → P = 0 ∧ cvX x = 1) ∧ (x ≠ [] → 0 < P ∧ cvX x = rdV (bsOf x) ∧ coX x = rdOk (bsOf x)) from ⟨fun h => ⟨by rw [← hP, h]; rfl, by unfold cvX; rw [if_pos h]⟩, fun h => ⟨by rw [← hP]; exact List.length_pos_iff.2 h, by unfold cvX; rw [if_neg h], by unfold coX; rw [if_neg h]⟩⟩)
  clear ht hx hP htl
  go_enter Tryd.func30, Tryd.ntmps30
  go_wp2_with fail
  go_loop [5] (fun s => ∃ k : Nat, k ≤ P ∧ s = .int .i64 k) (fun s => t.length - (intOf s).toNat)
  case atStart => exact ⟨0, Nat.zero_le _, rfl⟩
  case round =>
    obtain ⟨k, hk, rfl⟩ := hrel
    have hlt : k < t.length := by have := HTL.out; omega
    obtain ⟨hkb, hget⟩ := HGT.out k hlt
    have hlt' : (k : Int) < (t.length : Int) := by omega
    by_cases hkp : k < P
    · have hne : t[k] ≠ 120 := HBF.out k hlt hkp
      have hq : (((bsOf t)[k].toNat : Int) != 120) = true := by rw [hget]; exact bne_t (u8_ne (b := 120) hne)
      clear hne hget
      go_wp2_with fail
      exact ⟨⟨k + 1, by omega, by go_num⟩, by simp only [intOf]; omega⟩
    · have hkn : k = P := by omega
      subst hkn
      have hq : (((bsOf t)[k].toNat : Int) != 120) = false := by rw [hget]; exact bne_f (u8_eq (b := 120) (HAT.out hlt))
      clear hget hkp
      go_upto_if 23 with fail
      go_cut [6, 7] from 8 (fun c o wx => c = .int .i64 (cvX x) ∧ o = .bool (coX x) ∧ Below w.heap.size w wx)
      case first =>
        by_cases h0 : x = []
        · have hk0 := (HCX.out.1 h0).1
          have H1 := Lib.hid (HCX.out.1 h0).2
          have H2 := Lib.hid (show coX x = true by unfold coX; rw [if_pos h0])
          clear h0
          subst hk0
          go_wp2_with fail
          go_meet
          case rel => exact ⟨by rw [H1.out], by rw [H2.out], Below.refl _ _⟩
        · obtain ⟨hp, h1, h2⟩ := HCX.out.2 h0
          have H1 := Lib.hid h1
          have H2 := Lib.hid h2
          have hp' : (0 : Int) < (k : Int) := by omega
          have hle : (k : Int) ≤ (t.length : Int) := by omega
          clear h0 h1 h2
          go_wp2_with fail
          rw [HTK.out]
          refine (HVX.out _).mono ?_
          rintro e w1 ⟨rfl, b1⟩
          have B1 := Lib.hid b1
          clear b1
          go_wp2_with fail
          go_meet
          case rel => exact ⟨by rw [H1.out], by rw [H2.out], B1.out⟩
      case rest =>
      obtain ⟨rfl, rfl, hb⟩ := hcut
      have HB := Lib.hid hb
      clear hb hq
      have cb := cv_bd x
      cases hco : coX x
      · have HT0 := Lib.hid (HB0.out hco)
        clear hco
        go_wp2_with fail
        go_ret3
        exact ⟨0, 0, false, HT0.out, rfl, HB.out⟩
      · clear hco
        have he1 : ((k : Int) == (t.length : Int)) = false := by simp; omega
        rcases y with _ | ⟨b, z⟩
        · have HT1 := Lib.hid (tm_b1 (t := t) (x := x) HT.out HX.out)
          have he2 : ((k : Int) == (t.length : Int) - 1) = true := by have := HTL.out; simp at this; simp; omega
          generalize cvX x = cv at *
          go_wp2_with fail
          go_ret3
          exact ⟨cv, 1, true, HT1.out, rfl, HB.out⟩
        · have hln : t.length = k + 2 + z.length := by have := HTL.out; simp at this; omega
          have he2 : ((k : Int) == (t.length : Int) - 1) = false := by simp; omega
          have hk1 : k + 1 < t.length := by omega
          have hk1' : (k : Int) + 1 < (t.length : Int) := by omega
          have hk0 : (0 : Int) ≤ (k : Int) + 1 := by omega
          obtain ⟨hkb1, hget1⟩ := HGT.out (k + 1) hk1
          have hat1 : ∀ h : k + 1 < t.length, t[k + 1] = b := by
            clear hget1 hkb1
            intro h
            have a := HT.out; have b' := HP.out
            have e : t = (x ++ [120]) ++ b :: z := by rw [a]; simp
            have e2 : t[k + 1]? = some b := by
              rw [e, List.getElem?_append_right (by simp; omega)]
              simp [b']
            have e3 := List.getElem?_eq_getElem h
            rw [e3] at e2
            exact Option.some.inj e2
          replace hget1 := hget1.trans (hat1 hk1)
          clear hat1
          by_cases hb : b = 94
          · subst hb
            have HT1 := Lib.hid (tm_b3 (t := t) (x := x) (z := z) HT.out HX.out)
            have hq1 : (((bsOf t)[k + 1].toNat : Int) != 94) = false := by rw [hget1]; rfl
            have hk2 : (k : Int) + 2 ≤ (t.length : Int) := by omega
            have hk3 : (0 : Int) ≤ (k : Int) + 2 := by omega
            have HDR := Lib.hid (show (bsOf t).extract (k + 2) (bsOf t).size = bsOf z by
              rw [bs_size, ext_drop5]
              have a := HT.out; have b' := HP.out
              subst a; subst b'
              simp)
            have HVZ := Lib.hid fun (w : World) => l01Value_any (bsOf z) w (by rw [bs_size]; omega)
            have HIN := Lib.hid fun (w : World) => in_any (rdV (bsOf z)) 2 8 w
            clear hget1 hln
            generalize cvX x = cv at *
            go_wp2_with fail
            rw [HDR.out]
            refine (HVZ.out _).mono ?_
            rintro e w2 ⟨rfl, b2⟩
            have B2 := Lib.hid (HB.out.trans (b2.mono HB.out.size))
            clear b2
            cases hro : rdOk (bsOf z)
            · rw [hro, Bool.false_and] at HT1
              clear hro
              go_wp2_with fail
              go_ret3
              exact ⟨_, _, false, HT1.out, rfl, B2.out⟩
            · rw [hro, Bool.true_and] at HT1
              clear hro
              go_wp2_with fail
              refine (HIN.out _).mono ?_
              rintro e w3 ⟨rfl, rfl⟩
              go_wp2_with fail
              go_ret3
              exact ⟨_, _, _, HT1.out, rfl, B2.out⟩
          · have HT1 := Lib.hid (tm_b2 (t := t) (x := x) (z := z) HT.out HX.out hb)
            have hq1 : (((bsOf t)[k + 1].toNat : Int) != 94) = true := by rw [hget1]; exact bne_t (u8_ne (b := 94) hb)
            clear hget1 hln hb
            go_wp2_with fail
            go_ret3
            exact ⟨0, 0, false, HT1.out, rfl, HB.out⟩
theorem l06Term_any (t : List UInt8) (w : World) (hl : t.length ≤ 1100000) :
    Calls Tryd.prog 30 #[.string (bsOf t)] w (TermPost t w) := by
  rcases cut_cases 120 t with ⟨h, _⟩ | ⟨x, y, rfl, h, _⟩
  · exact termA_any t w hl h
  · exact termB_any x y w hl h
end Go.Proofs.YtcennddgbpkclaaDoor
namespace Go.Proofs.YtcennddgbpkclaaDoor
open Go.RowKit Go.Shelf
set_option linter.unusedVariables false
set_option linter.unusedSimpArgs false
def strLen (v : Value) : Nat := match v with
  | .string b => b.size
  | _ => 0
theorem ext_take (r : List UInt8) (k : Nat) : (bsOf r).extract 0 k = bsOf (r.take k) := by
  apply ByteArray.ext; simp [bsOf]
theorem ext_drop (r : List UInt8) (k : Nat) : (bsOf r).extract k r.length = bsOf (r.drop k) := by
  apply ByteArray.ext; simp [bsOf, ByteArray.size]
  exact List.take_of_length_le (by simp)
theorem results_cell_two {fn : Func} {p t : Tmp} {ty : TypeId} (h : fn.results = #[.cell p ty, .tmp t]) (tmps : Array Value) (w : World) (b : Nat) (cs : List Value) (d : TypeDesc)
    (hp : tmps.getD p undef = .pointer (some ⟨b, 0, none⟩)) (hr : w.rangeAt b 0 cs) (hu : Tryd.prog.underlying ty = some d) (hd : d.isRow = true) (hi : (Tryd.prog.info? ty).map (·.size) = some cs.length) :
    (results fn tmps).run Tryd.prog w = .ok (.tuple #[.agg cs.toArray, tmps.getD t undef]) w := by
  have hp' : tmps[p]?.getD undef = .pointer (some ⟨b, 0, none⟩) := by simpa using hp
  simp [results, h, hp', asAddr, run_loadVar_mid w b 0 ty cs d hr hu hd hi]
theorem two_new (w : World) : ∃ W2, (w.alloc (.cells #[.int .i64 0, .int .i64 0, .int .i64 0, .int .i64 0, .int .i64 0, .int .i64 0, .int .i64 0, .int .i64 0, .int .i64 0] 40)).alloc (.cells #[.int .i64 0, .int .i64 0, .int .i64 0, .int .i64 0, .int .i64 0, .int .i64 0, .int .i64 0, .int .i64 0, .int .i64 0] 40) = W2 ∧
    Nine W2 w.heap.size (tabL 9 fun _ => 0) ∧ Nine W2 (w.heap.size + 1) (tabL 9 fun _ => 0) ∧ Below w.heap.size w W2 := by
  refine ⟨_, rfl, ?_⟩
  rw [zero_nine]
  have b1 : Below w.heap.size w (w.alloc (.cells (arrV (tabL 9 fun _ => 0)) 40)) := (Below.refl _ _).alloc (Nat.le_refl _) _
  have n1 := nine_new w (tabL 9 fun _ => 0) 40 (tabL_length _ _)
  have s1 : (w.alloc (.cells (arrV (tabL 9 fun _ => 0)) 40)).heap.size = w.heap.size + 1 := by simp
  generalize w.alloc (.cells (arrV (tabL 9 fun _ => 0)) 40) = W1 at *
  have b2 : Below W1.heap.size W1 (W1.alloc (.cells (arrV (tabL 9 fun _ => 0)) 40)) := (Below.refl _ _).alloc (Nat.le_refl _) _
  have n2 := nine_new W1 (tabL 9 fun _ => 0) 40 (tabL_length _ _)
  rw [s1] at n2
  exact ⟨nine_next n1 b2, n2, b1.trans (b2.mono b1.size)⟩
theorem ta_none74 (w : World) : (Instr.typeAssert (ftVal none) 20 75 true).run Tryd.prog w = .ok (.tuple #[.int .i64 0, .bool false]) w := by kernel_rfl
theorem ta_none76 (w : World) : (Instr.typeAssert (ftVal none) 20 77 true).run Tryd.prog w = .ok (.tuple #[.agg #[.int .i64 0, .int .i64 0], .bool false]) w := by kernel_rfl
theorem ta_const74 (a p : Int) (w : World) : (Instr.typeAssert (ftVal (some (a, p, false))) 20 75 true).run Tryd.prog w = .ok (.tuple #[.int .i64 a, .bool true]) w := by kernel_rfl
theorem ta_power74 (a p : Int) (w : World) : (Instr.typeAssert (ftVal (some (a, p, true))) 20 75 true).run Tryd.prog w = .ok (.tuple #[.int .i64 0, .bool false]) w := by kernel_rfl
theorem ta_power76 (a p : Int) (w : World) : (Instr.typeAssert (ftVal (some (a, p, true))) 20 77 true).run Tryd.prog w = .ok (.tuple #[.agg #[.int .i64 a, .int .i64 p], .bool true]) w := by kernel_rfl
/-- what readTerms answers -/
def TermsPost (S : List UInt8) (w : World) (e : Ending) (w' : World) : Prop :=
  ∃ F ok, e = .returned (.tuple #[.agg (arrV F), .bool ok]) ∧ F.length = 9 ∧ Below w.heap.size w w' ∧ (ok = true → ∀ f, polyB f = true → S = polyT f → F = padL f) ∧ (ok = false → NoPoly S)
set_option maxRecDepth 20000
set_option maxHeartbeats 3200000 in
theorem readTerms_any (S : List UInt8) (w : World) (hl : S.length ≤ 1100000) (he : Env w) :
    Calls Tryd.prog 28 #[.string (bsOf S)] w (TermsPost S w) := by
  obtain ⟨W2, hW2, hn2, hn4, hb2⟩ := two_new w
  have HE := Lib.hid he
  have HN2 := Lib.hid hn2
  have HN4 := Lib.hid hn4
  have HB2 := Lib.hid hb2
  clear he hn2 hn4 hb2
  go_enter Tryd.func28, Tryd.ntmps28
  go_upto_region 2 with fail
  clear hW2
  obtain ⟨B, hB⟩ : ∃ B, w.heap.size = B := ⟨_, rfl⟩
  have hwB : w.heap.size ≤ B := by omega
  rw [hB] at HN2 HN4 ⊢
  clear hB
  go_wp2_with fail
  go_loopw [0] (fun s wr => ∃ (r : List UInt8) (F : List Int), s = .string (bsOf r) ∧ r.length ≤ 1100000 ∧ Nine wr (B + 1) F ∧ Nine wr B (tabL 9 fun _ => 0) ∧ Below w.heap.size w wr ∧ Tie S r F) (fun s _ => strLen s)
  case atStart => exact ⟨S, _, rfl, hl, HN4.out, HN2.out, HB2.out, tie_start S⟩
  case round =>
    obtain ⟨r, F, rfl, hrl, hn4, hn2, hbel, htie⟩ := hrel
    replace HN4 := Lib.hid hn4
    replace HN2 := Lib.hid hn2
    have HBEL := Lib.hid hbel
    have HTI := Lib.hid htie
    have hF9 := hn4.2.1
    clear hn4 hn2 hbel htie HB2
    by_cases hr0 : r = []
    · have k0 : (bsOf r).toList.isEmpty = true := by rw [hr0]; exact be_t
      have HEND := Lib.hid fun (f : List Int) (hf : polyB f = true) (hS : S = polyT f) => tie_end (by have := HTI.out; rwa [hr0] at this) hf hS
      clear hr0
      go_upto_region 16 with fail
      refine wp_region_lit ?_
      refine wpList_load_nine rfl (.tmp 4) rfl (B + 1) rfl HN4.out ?_
      refine wpList_store_nine rfl (.tmp 2) (.tmp 38) rfl B rfl rfl hF9 HN2.out ?_
      have N4 := Lib.hid (nine_full HN2.out hF9)
      have B4 := Lib.hid (below_setCells (w1 := wr) hwB (F.map (Value.int .i64)) 0 HBEL.out)
      generalize wr.setCells B 0 (F.map (Value.int .i64)) = W4 at *
      clear k0
      go_wp2_with fail
      refine bodyPost_ret (results_cell_two (p := 2) (t := 3) (ty := 40) rfl _ _ B _ _ rfl (nine_range N4.out) Tryd.underlying40 rfl (by rw [map_nine hF9]; exact Tryd.infoCo)) rfl ?_
      exact ⟨F, true, rfl, hF9, B4.out, fun _ => HEND.out, fun h => by cases h⟩
    · have k0 : (bsOf r).toList.isEmpty = false := be_f hr0
      go_wp2_with fail
      refine (termEnd_any r _ hrl hr0).mono ?_
      rintro e w' ⟨k, hte, rfl, rfl⟩
      obtain ⟨ers, hpp, hqq⟩ := term_split hte
      have hk1 := hte.1
      have hk2 := hte.2.1
      have hpl : (r.take k).length ≤ 1100000 := by rw [List.length_take]; omega
      have hql : (r.drop k).length ≤ 1100000 := by rw [List.length_drop]; omega
      have hms : (bsOf (r.drop k)).size < (bsOf r).size := by rw [bs_size, bs_size, List.length_drop]; omega
      have hsz : (bsOf r).size = r.length := bs_size r
      have hk3 : (k : Int) ≤ ((bsOf r).size : Int) := by omega
      have hk0 : (0 : Int) ≤ (k : Int) := by omega
      have HT1 := Lib.hid (ext_take r k)
      have HT2 := Lib.hid (ext_drop r k)
      have HNO := Lib.hid fun h => tie_none HTI.out ers hpp hqq h
      have HCO := Lib.hid fun (a k' : Int) h => tie_const (a := a) (k := k') HTI.out ers hpp hqq h
      have HPO := Lib.hid fun (a k' : Int) h => tie_power (a := a) (k := k') HTI.out ers hpp hqq h
      have HPW := Lib.hid fun (a k' : Int) h => ft_pow (a := a) (k := k') hpp h
      clear hte ers hpp hqq
      clear hr0
      go_wp2_with fail
      rw [HT1.out]
      refine (findTerm_any _ _ hpl (env_below HE.out HBEL.out (Nat.le_refl _))).mono ?_
      rintro e w1 ⟨rfl, b1⟩
      have N4 := Lib.hid (nine_next HN4.out b1)
      have N2 := Lib.hid (nine_next HN2.out b1)
      have B1 := Lib.hid (HBEL.out.trans (b1.mono HBEL.out.size))
      have hw1 := b1.size
      clear b1 k0 HN4 HN2 HBEL hk3 hk0
      rcases hv : ftV (r.take k) with _ | ⟨a, p, x⟩
      · have HNP := Lib.hid (HNO.out hv)
        clear hv HNO HCO HPO HPW HTI
        have h74 := ta_none74
        have h76 := ta_none76
        go_upto_region 6 with fail
        refine wp_region_lit ?_
        refine wpList_plain rfl (fun K hK => ?_)
        go_simp
        refine hK _ _ ?_
        clear hK K
        refine wpList_store_nine rfl (.tmp 2) (.tmp 17) rfl B (l := tabL 9 fun _ => 0) rfl rfl (tabL_length _ _) N2.out ?_
        have N5 := Lib.hid (nine_full N2.out (tabL_length 9 fun _ => 0))
        have B5 := Lib.hid (below_setCells (w1 := w1) hwB ((tabL 9 fun _ => 0).map (Value.int .i64)) 0 B1.out)
        generalize w1.setCells B 0 ((tabL 9 fun _ => 0).map (Value.int .i64)) = W5 at *
        go_wp2_with fail
        refine bodyPost_ret (results_cell_two (p := 2) (t := 3) (ty := 40) rfl _ _ B _ _ rfl (nine_range N5.out) Tryd.underlying40 rfl (by rw [map_nine (tabL_length _ _)]; exact Tryd.infoCo)) rfl ?_
        exact ⟨_, false, rfl, tabL_length _ _, B5.out, fun h => (by cases h), fun _ => HNP.out⟩
      · cases x
        · have HTI2 := Lib.hid (HCO.out a p hv)
          clear hv HNO HCO HPO HPW HTI
          have c0 := nine_at N4.out (k := 0) (by omega)
          have f0 := nine_frozen N4.out (k := 0) (by omega)
          have NS := Lib.hid (nine_set N4.out (k := 0) (by omega) a)
          have NO := Lib.hid (nine_other (k := 0) N2.out (show B + 1 ≠ B by omega) (.int .i64 a))
          have BS := Lib.hid (B1.out.setCell (p := ⟨B + 1, 0, none⟩) (by show _ ≤ B + 1; omega) (.int .i64 a))
          have h74 := ta_const74 a p
          go_wp2_with fail
          exact ⟨⟨r.drop k, F.set 0 a, by rw [HT2.out], hql, NS.out, NO.out, BS.out, HTI2.out⟩, by rw [HT2.out]; exact hms⟩
        · have hp0 := HPW.out a p hv
          obtain ⟨hp1, hp2⟩ := HPO.out a p hv
          have h74 := ta_power74 a p
          have h76 := ta_power76 a p
          have HP1 := Lib.hid hp1
          have HP2 := Lib.hid hp2
          clear hv HNO HCO HPO HPW HTI hp1 hp2
          go_upto_region 12 with fail
          have hba : Below w1.heap.size w1 (w1.alloc (.cells #[.int .i64 a, .int .i64 p] 77)) := (Below.refl _ _).alloc (Nat.le_refl _) _
          have d0 : (w1.alloc (.cells #[.int .i64 a, .int .i64 p] 77)).cell? ⟨w1.heap.size, 0, none⟩ = some (.int .i64 a) := by rw [World.cell?_alloc_new]; rfl
          have d1 : (w1.alloc (.cells #[.int .i64 a, .int .i64 p] 77)).cell? ⟨w1.heap.size, 1, none⟩ = some (.int .i64 p) := by rw [World.cell?_alloc_new]; rfl
          replace N4 := Lib.hid (nine_next N4.out hba)
          replace N2 := Lib.hid (nine_next N2.out hba)
          replace B1 := Lib.hid (B1.out.trans (hba.mono B1.out.size))
          generalize w1.alloc (.cells #[.int .i64 a, .int .i64 p] 77) = V at *
          generalize w1.heap.size = bt at *
          clear hba h74 h76
          by_cases h8 : 8 < p
          · have HNP := Lib.hid (HP1.out h8)
            go_upto_region 13 with fail
            refine wp_region_lit ?_
            refine wpList_plain rfl (fun K hK => ?_)
            go_simp
            refine hK _ _ ?_
            clear hK K
            refine wpList_store_nine rfl (.tmp 2) (.tmp 29) rfl B (l := tabL 9 fun _ => 0) rfl rfl (tabL_length _ _) N2.out ?_
            have N5 := Lib.hid (nine_full N2.out (tabL_length 9 fun _ => 0))
            have B5 := Lib.hid (below_setCells (w1 := V) hwB ((tabL 9 fun _ => 0).map (Value.int .i64)) 0 B1.out)
            generalize V.setCells B 0 ((tabL 9 fun _ => 0).map (Value.int .i64)) = W5 at *
            go_wp2_with fail
            refine bodyPost_ret (results_cell_two (p := 2) (t := 3) (ty := 40) rfl _ _ B _ _ rfl (nine_range N5.out) Tryd.underlying40 rfl (by rw [map_nine (tabL_length _ _)]; exact Tryd.infoCo)) rfl ?_
            exact ⟨_, false, rfl, tabL_length _ _, B5.out, fun h => (by cases h), fun _ => HNP.out⟩
          · obtain ⟨m, hm⟩ : ∃ m : Nat, p = m := ⟨p.toNat, by omega⟩
            subst hm
            have HTI2 := Lib.hid (HP2.out m rfl)
            have hm9 : m < 9 := by omega
            have c0 := nine_at N4.out hm9
            have f0 := nine_frozen N4.out hm9
            have NS := Lib.hid (nine_set N4.out hm9 a)
            have NO := Lib.hid (nine_other (k := m) N2.out (show B + 1 ≠ B by omega) (.int .i64 a))
            have BS := Lib.hid (B1.out.setCell (p := ⟨B + 1, m, none⟩) (by show _ ≤ B + 1; omega) (.int .i64 a))
            have hm8 : (m : Int) ≤ 8 := by omega
            have hm9' : (m : Int) < 9 := by omega
            clear HP1 HP2 h8
            go_wp2_with fail
            exact ⟨⟨r.drop k, F.set m a, by rw [HT2.out], hql, NS.out, NO.out, BS.out, HTI2.out⟩, by rw [HT2.out]; exact hms⟩
end Go.Proofs.YtcennddgbpkclaaDoor
namespace Go.Proofs.YtcennddgbpkclaaDoor
open Go.RowKit Go.Shelf
set_option linter.unusedVariables false
set_option linter.unusedSimpArgs false
theorem store_new9 (W : World) {F : List Int} (h : F.length = 9) :
    (storeCells ⟨W.heap.size, 0, none⟩ (arrV F).toList 0).run Tryd.prog (W.alloc (.cells #[.int .i64 0, .int .i64 0, .int .i64 0, .int .i64 0, .int .i64 0, .int .i64 0, .int .i64 0, .int .i64 0, .int .i64 0] 40)) = .ok () (W.alloc (.cells (arrV F) 40)) :=
  run_storeCells_new W 40 _ (arrV F) (by rw [arrV_size, h]; exact Tryd.infoCo) (by rw [arrV_size, h]; rfl) (arrV_one F)
theorem bs_inj {a b : List UInt8} (h : bsOf a = bsOf b) : a = b := by
  have := congrArg (fun x : ByteArray => x.data.toList) h
  simpa [bsOf] using this
theorem arr_nine {F : List Int} (h : F.length = 9) : arrV F = #[.int .i64 (F.getD 0 0), .int .i64 (F.getD 1 0), .int .i64 (F.getD 2 0), .int .i64 (F.getD 3 0), .int .i64 (F.getD 4 0), .int .i64 (F.getD 5 0), .int .i64 (F.getD 6 0), .int .i64 (F.getD 7 0), .int .i64 (F.getD 8 0)] :=
  match F, h with
  | [a, b, c, d, e, f, g, h, i], _ => rfl
theorem intRow_next {b : Nat} {w w' : World} {v : Value} {l : List Int} (h : IntRow b w v l) (hb : Below w.heap.size w w') : IntRow b w' v l :=
  World.ownsRow.kept (row := none) h ⟨hb.os, hb.tape, hb.output, hb.size, fun j hj _ => hb.block j hj⟩ (by cases hv : v.ownBlock <;> simp)
/-- what the text of an array of nine is -/
theorem text9_any {F : List Int} (w : World) (h9 : F.length = 9) (hp : polyB (trimL F) = true) (ht : Tab w) :
    Calls Tryd.prog 22 #[.agg (arrV F)] w fun e w' => e = .returned (.string (bsOf (polyT (trimL F)))) ∧ Below w.heap.size w w' := by
  have h := text6_any (F := F) w h9 (by have := pad_bd hp; rwa [pad_trim h9] at this) ht
  have e := polyT_pad (f := trimL F) (polyB_of hp).1
  rw [pad_trim h9] at e
  rwa [e] at h
set_option maxRecDepth 20000
set_option maxHeartbeats 1600000 in
theorem implReadP_any (S : List UInt8) (w : World) (hl : S.length ≤ 1100000) (he : Env w) (ht : Tab w) :
    Calls Tryd.prog 11 #[.string (bsOf S)] w fun e w' => ∃ q c, ReadRel S q c ∧ IntPost q c w e w' := by
  have HE := Lib.hid he
  have HT := Lib.hid ht
  clear he ht
  go_enter Tryd.func11, Tryd.ntmps11
  go_wp2_with fail
  refine (readTerms_any S w hl HE.out).mono ?_
  rintro e W1 ⟨F, ok, rfl, h9, hb1, hyes, hno⟩
  have hst := store_new9 W1 h9
  have HY := Lib.hid hyes
  have HN := Lib.hid hno
  have hsz9 : (arrV F).size = 9 := by rw [arrV_size, h9]
  clear hyes hno
  go_upto_region 2 with fail
  have hN := nine_new W1 F 40 h9
  have hB : Below w.heap.size w (W1.alloc (.cells (arrV F) 40)) := hb1.alloc hb1.size _
  have hsz := hb1.size
  generalize W1.alloc (.cells (arrV F) 40) = W2 at hN hB ⊢
  generalize W1.heap.size = B at hN hsz ⊢
  have HN9 := Lib.hid hN
  have HB := Lib.hid hB
  clear hst hN hB hb1
  refine wp_region_lit ?_
  refine wpList_load_nine rfl (.tmp 4) rfl B rfl HN9.out ?_
  go_wp2_with fail
  refine (asResult_any h9 _).mono ?_
  rintro e w3 ⟨v, rfl, hr3, hb3⟩
  have HR3 := Lib.hid (intRow_lower hr3 HB.out.size)
  have HB3 := Lib.hid (HB.out.trans (hb3.mono HB.out.size))
  have N3 := Lib.hid (nine_next HN9.out hb3)
  clear hr3 hb3 HN9 HB
  cases ok
  · have HNP := Lib.hid (HN.out rfl)
    clear HN HY
    go_wp2_with fail
    go_ret2
    exact ⟨[], 6, .inr ⟨rfl, rfl, HNP.out⟩, _, rfl, intRow_nil _ _, HB3.out⟩
  · cases hp : polyB (trimL F)
    · have hc : resC F = 3 := by simp [resC, hp]
      have HNP : Hid (NoPoly S) := Lib.hid (fun f hf hS => by
        have e := HY.out rfl f hf hS
        rw [e, trim_pad (polyB_of hf).1, trimL_self (poly_last hf), hf] at hp
        cases hp)
      rw [hc]
      clear HN HY hc
      go_wp2_with fail
      go_ret2
      exact ⟨[], 6, .inr ⟨rfl, rfl, HNP.out⟩, _, rfl, intRow_nil _ _, HB3.out⟩
    · have hc : resC F = 0 := by simp [resC, hp]
      have hq : resL F = trimL F := by simp [resL, hp]
      have HTX := Lib.hid fun (w : World) (h : Tab w) => text9_any w h9 hp h
      have c0 := nine_at N3.out (k := 0) (by omega)
      have c1 := nine_at N3.out (k := 1) (by omega)
      have c2 := nine_at N3.out (k := 2) (by omega)
      have c3 := nine_at N3.out (k := 3) (by omega)
      have c4 := nine_at N3.out (k := 4) (by omega)
      have c5 := nine_at N3.out (k := 5) (by omega)
      have c6 := nine_at N3.out (k := 6) (by omega)
      have c7 := nine_at N3.out (k := 7) (by omega)
      have c8 := nine_at N3.out (k := 8) (by omega)
      rw [arr_nine h9] at HTX
      generalize F.getD 0 0 = x0 at c0 HTX
      generalize F.getD 1 0 = x1 at c1 HTX
      generalize F.getD 2 0 = x2 at c2 HTX
      generalize F.getD 3 0 = x3 at c3 HTX
      generalize F.getD 4 0 = x4 at c4 HTX
      generalize F.getD 5 0 = x5 at c5 HTX
      generalize F.getD 6 0 = x6 at c6 HTX
      generalize F.getD 7 0 = x7 at c7 HTX
      generalize F.getD 8 0 = x8 at c8 HTX
      have T3 := Lib.hid (tab_below HT.out HB3.out (Nat.le_refl _))
      rw [hc]
      rw [hq] at HR3
      by_cases hS : S = polyT (trimL F)
      · have hq' := str_eq' (show bsOf (polyT (trimL F)) = bsOf S by rw [hS])
        have HRD := Lib.hid (read_yes h9 hp hS (fun f hf e => HY.out rfl f hf e))
        clear HN HY hc hq hS
        go_wp2_with fail
        refine (HTX.out _ T3.out).mono ?_
        rintro e w4 ⟨rfl, b4⟩
        go_wp2_with fail
        go_ret2
        exact ⟨trimL F, 0, HRD.out, _, rfl, intRow_next HR3.out b4, HB3.out.trans (b4.mono HB3.out.size)⟩
      · have hq' := str_ne (a := bsOf (polyT (trimL F))) (b := bsOf S) (fun e => hS (bs_inj e).symm)
        have HNP : Hid (NoPoly S) := Lib.hid (fun f hf e => by
          have e2 := HY.out rfl f hf e
          apply hS
          rw [e, e2, trim_pad (polyB_of hf).1, trimL_self (poly_last hf)])
        clear HN HY hc hq hS
        go_wp2_with fail
        refine (HTX.out _ T3.out).mono ?_
        rintro e w4 ⟨rfl, b4⟩
        go_wp2_with fail
        go_ret2
        exact ⟨[], 6, .inr ⟨rfl, rfl, HNP.out⟩, _, rfl, intRow_nil _ _, HB3.out.trans (b4.mono HB3.out.size)⟩
end Go.Proofs.YtcennddgbpkclaaDoor
namespace Go.Proofs.YtcennddgbpkclaaDoor
open Go.RowKit Go.Shelf
set_option linter.unusedVariables false
set_option linter.unusedSimpArgs false
/-- a piece without its sign, and the sign -/
def stripL : List UInt8 → List UInt8 × Int
  | [] => ([], 1)
  | h :: t => if h = 43 then (t, 1) else if h = 45 then (t, -1) else (h :: t, 1)
theorem strip_sg (p : List UInt8) : (stripL p).2 = 1 ∨ (stripL p).2 = -1 := by
  unfold stripL
  split
  · exact .inl rfl
  · split
    · exact .inl rfl
    · split
      · exact .inr rfl
      · exact .inl rfl
theorem strip_len (p : List UInt8) : (stripL p).1.length ≤ p.length := by
  unfold stripL
  split
  · exact Nat.le_refl _
  · split
    · simp
    · split
      · simp
      · exact Nat.le_refl _
theorem strip_body (a m : Nat) : stripL (bodyT a m) = (bodyT a m, 1) := by
  have h := body_noSg a m
  cases hb : bodyT a m with
  | nil => rfl
  | cons c r =>
    have h2 := h c (by rw [hb]; simp)
    unfold stripL
    simp only
    rw [if_neg (fun e => by rw [e] at h2; cases h2), if_neg (fun e => by rw [e] at h2; cases h2)]
theorem strip_term (b : Bool) (c : Int) (m : Nat) : (stripL (termT b c m)).1 = bodyT c.natAbs m ∧ (stripL (termT b c m)).2 * (c.natAbs : Int) = c := by
  unfold termT sgnT
  by_cases h : c < 0
  · rw [if_pos h]
    refine ⟨rfl, ?_⟩
    show -1 * (c.natAbs : Int) = c
    omega
  · rw [if_neg h]
    cases b
    · refine ⟨rfl, ?_⟩
      show 1 * (c.natAbs : Int) = c
      omega
    · rw [if_pos rfl, List.nil_append, strip_body]
      refine ⟨rfl, ?_⟩
      show 1 * (c.natAbs : Int) = c
      omega
theorem tie_term {S r p q : List UInt8} {F : List Int} (h : Tie S r F) (hr : r = p ++ q) (hp : PieceL p) (hq : TailL q) {c k : Int} {ok : Bool} (ht : TmP (stripL p).1 c k ok) :
    (ok = false ∨ 1000000 < c → NoPoly S) ∧ (∀ m : Nat, ok = true → k = (m : Int) → Tie S q (F.set m ((stripL p).2 * c))) := by
  have key : ∀ f, polyB f = true → S = polyT f → ok = true ∧ c ≤ 1000000 ∧ ∀ m : Nat, k = (m : Int) → ∃ n b, n ≤ 9 ∧ q = restT f b n ∧ F.set m ((stripL p).2 * c) = highL f n := by
    intro f hf hS
    have hb := (polyB_of hf).2.1
    rcases tie_case h hr hp hq hf hS with ⟨b, m, hm, e, _, e2, e3⟩ | ⟨e0, e, e2, e3⟩
    · obtain ⟨s1, s2⟩ := strip_term b (f.getD m 0) m
      rw [← e] at s1 s2
      have hb2 := hb m
      obtain ⟨t1, t2, t3⟩ := ht.1 (f.getD m 0).natAbs m (by omega) hm s1
      refine ⟨t3, by rw [t1]; omega, fun m' hm' => ⟨m, false, by omega, e2, ?_⟩⟩
      have : m' = m := by omega
      subst this
      rw [t1, s2]; exact e3
    · have s1 : (stripL p).1 = bodyT 0 0 := by
        rw [e]; unfold bodyT
        rw [if_pos rfl, Lib.decDigits, dif_pos (by omega)]; rfl
      obtain ⟨t1, t2, t3⟩ := ht.1 0 0 (by omega) (by omega) s1
      refine ⟨t3, by rw [t1]; omega, fun m' hm' => ⟨0, false, by omega, e2, ?_⟩⟩
      have : m' = 0 := by omega
      subst this
      rw [t1, e3, e0]
      show (highL [] 9).set 0 ((stripL p).2 * 0) = _
      rw [Int.mul_zero]; rfl
  refine ⟨fun hb f hf hS => ?_, fun m hok hk f hf hS => .inl ((key f hf hS).2.2 m hk)⟩
  obtain ⟨k1, k2, _⟩ := key f hf hS
  rcases hb with hb | hb
  · rw [k1] at hb; cases hb
  · omega
theorem polyT_ne (f : List Int) : polyT f ≠ [] := by
  unfold polyT
  split
  · simp
  · assumption
/-- the state of the loop -/
def RInv (S : List UInt8) (a k : Nat) (F : List Int) : Prop :=
  k ≤ S.length + 1 ∧ F.length = 9 ∧ Tie S (S.drop a) F ∧ ((a = 0 ∧ k = 0) ∨ (a < k ∧ ∀ j, a < j → j < k → sgB (S.getD j 0) = false)) ∧ (k ≤ S.length ∨ a = S.length)
theorem rinv_go {S : List UInt8} {a k : Nat} {F : List Int} (h : RInv S a k F) (hk : k < S.length) (hc : sgB (S.getD k 0) = false ∨ k = 0) : RInv S a (k + 1) F := by
  obtain ⟨h1, h2, h3, h4, h5⟩ := h
  refine ⟨by omega, h2, h3, .inr ?_, .inl (by omega)⟩
  rcases h4 with ⟨ha, hk0⟩ | ⟨ha, hj⟩
  · exact ⟨by omega, fun j hj1 hj2 => by omega⟩
  · refine ⟨by omega, fun j hj1 hj2 => ?_⟩
    by_cases e : j = k
    · subst e
      rcases hc with hc | hc
      · exact hc
      · omega
    · exact hj j hj1 (by omega)
theorem rinv_stop {S : List UInt8} {a k : Nat} {F : List Int} (h : RInv S a k F) (hk : k ≤ S.length) (hc : k = S.length ∨ (sgB (S.getD k 0) = true ∧ k ≠ 0)) {c kk : Int} {ok : Bool}
    (ht : TmP (stripL ((S.drop a).take (k - a))).1 c kk ok) :
    (ok = false ∨ 1000000 < c → NoPoly S) ∧ (∀ m : Nat, m ≤ 8 → ok = true → kk = (m : Int) → RInv S k (k + 1) (F.set m ((stripL ((S.drop a).take (k - a))).2 * c))) := by
  obtain ⟨h1, h2, h3, h4, h5⟩ := h
  have mk : ∀ m x, Tie S (S.drop k) (F.set m x) → RInv S k (k + 1) (F.set m x) := fun m x t =>
    ⟨by omega, by rw [List.length_set]; exact h2, t, .inr ⟨by omega, fun j h1 h2 => by omega⟩, by omega⟩
  rcases h4 with ⟨ha, hk0⟩ | ⟨ha, hj⟩
  · have hS : S = [] := by
      rcases hc with hc | hc
      · exact List.eq_nil_of_length_eq_zero (by omega)
      · exact absurd hk0 hc.2
    subst hS
    exact ⟨fun _ f _ e => polyT_ne f e.symm, fun m _ _ _ => mk m _ (fun f _ e => absurd e.symm (polyT_ne f))⟩
  · have te : TermEnd (S.drop a) (k - a) := by
      refine ⟨by omega, by rw [List.length_drop]; omega, fun j j1 j2 => ?_, ?_⟩
      · have := hj (a + j) (by omega) (by omega)
        simpa [List.getD, List.getElem?_drop] using this
      · rcases hc with hc | hc
        · exact .inl (by rw [List.length_drop]; omega)
        · refine .inr ?_
          have := hc.1
          simp only [List.getD, List.getElem?_drop]
          rw [show a + (k - a) = k by omega]
          exact this
    obtain ⟨e1, e2, e3⟩ := term_split te
    have e4 : (S.drop a).drop (k - a) = S.drop k := by rw [List.drop_drop, show a + (k - a) = k by omega]
    rw [e4] at e1 e3
    obtain ⟨t1, t2⟩ := tie_term h3 e1 e2 e3 ht
    exact ⟨t1, fun m _ hok hkk => mk m _ (t2 m hok hkk)⟩
theorem rinv_start (S : List UInt8) : RInv S 0 0 (tabL 9 fun _ => 0) := ⟨by omega, tabL_length _ _, tie_start S, .inl ⟨rfl, rfl⟩, .inl (by omega)⟩
theorem rinv_end {S : List UInt8} {a : Nat} {F : List Int} (h : RInv S a (S.length + 1) F) : ∀ f, polyB f = true → S = polyT f → F = padL f := by
  obtain ⟨h1, h2, h3, h4, h5⟩ := h
  have ha : a = S.length := by omega
  subst ha
  rw [List.drop_length] at h3
  exact fun f hf hS => tie_end h3 hf hS
theorem ext_mid (S : List UInt8) (a k : Nat) (ha : a ≤ k) : (bsOf S).extract a k = bsOf ((S.drop a).take (k - a)) := by
  apply ByteArray.ext
  simp [bsOf, List.extract_eq_take_drop]
def headSg : List UInt8 → Bool
  | [] => false
  | h :: _ => sgB h
theorem strip_cases (p : List UInt8) : (headSg p = false ∧ stripL p = (p, 1) ∧ (p = [] ∨ ∃ h t, p = h :: t ∧ h ≠ 43 ∧ h ≠ 45)) ∨ (headSg p = true ∧ ∃ t, p = 43 :: t ∧ stripL p = (t, 1)) ∨ (headSg p = true ∧ ∃ t, p = 45 :: t ∧ stripL p = (t, -1)) := by
  cases p with
  | nil => exact .inl ⟨rfl, rfl, .inl rfl⟩
  | cons h t =>
    rcases sg_cases (b := h) with ⟨h1, h2⟩ | ⟨h1, h2, h3⟩ | ⟨h1, h2, h3⟩
    · subst h1; exact .inr (.inl ⟨rfl, t, rfl, rfl⟩)
    · subst h2; exact .inr (.inr ⟨rfl, t, rfl, rfl⟩)
    · exact .inl ⟨h3, by unfold stripL; simp only; rw [if_neg h1, if_neg h2], .inr ⟨h, t, rfl, h1, h2⟩⟩
theorem bs_head {p t : List UInt8} {h : UInt8} (e : p = h :: t) : ∃ hk : 0 < (bsOf p).size, (bsOf p)[0] = h := by
  subst e
  exact ⟨by rw [bs_size]; simp, by simp [bsOf]; rfl⟩
theorem bs_tail {p t : List UInt8} {h : UInt8} (e : p = h :: t) : (bsOf p).extract 1 (bsOf p).size = bsOf t := by
  subst e
  apply ByteArray.ext
  simp [bsOf, ByteArray.size, List.extract_eq_take_drop]
end Go.Proofs.YtcennddgbpkclaaDoor
namespace Go.Proofs.YtcennddgbpkclaaDoor
open Go.RowKit Go.Shelf
set_option linter.unusedVariables false
set_option linter.unusedSimpArgs false
set_option maxRecDepth 20000 in
set_option maxHeartbeats 3200000 in
theorem specReadP_any (S : List UInt8) (w : World) (hl : S.length ≤ 1100000) :
    Calls Tryd.prog 12 #[.string (bsOf S)] w fun e w' => ∃ q c, ReadRel S q c ∧ IntPost q c w e w' := by
  obtain ⟨i0, hi, hz0, hz1, hz2⟩ := info_parts Tryd.infoInt64
  have hsz : ((bsOf S).size : Int) = (S.length : Int) := by rw [bs_size]
  have HGET := Lib.hid fun (k : Nat) (h : k < S.length) => bs_get h
  go_enter Tryd.func12, Tryd.ntmps12
  go_wp2_with (at_make; refine wpList_make_full _ rfl (.const (.int .i64 9)) (.const (.int .i64 9)) 24 rfl w.heap.size 2 i0 (.int .i64 0) 1 Tryd.underlying24 hi hz0 hz1 .i64 .i64 _ _ 9 rfl rfl rfl rfl (by rw [hz2]; omega) (by unfold maxLen; omega) (Nat.le_refl _) ?_; intro w2 hown hgrow)
  have HB2 := Lib.hid ((Below.refl w.heap.size w).grown hgrow (Nat.le_refl _) (fun k h => by cases h))
  have HR := Lib.hid (int_made hown)
  clear hown hgrow hi hz0 hz1 hz2
  go_wp2_with fail
  go_loopw [5, 6] (fun s5 s6 wr => ∃ (a k : Nat) (F : List Int), RInv S a k F ∧ s5 = .int .i64 a ∧ s6 = .int .i64 k ∧ IntRow w.heap.size wr (.slice (some ⟨w.heap.size, 0, none⟩) 9 9) F ∧ Below w.heap.size w wr) (fun _ s6 _ => S.length + 1 - (intOf s6).toNat)
  case atStart => exact ⟨0, 0, _, rinv_start S, rfl, rfl, HR.out, HB2.out⟩
  case round =>
    obtain ⟨a, k, F, hinv, rfl, rfl, hrow, hbel⟩ := hrel
    have HI := Lib.hid hinv
    have hk1 := hinv.1
    have HF9 := Lib.hid hinv.2.1
    have hak : a ≤ k := by rcases hinv.2.2.2.1 with h | h <;> omega
    have HROW := Lib.hid hrow
    have HBEL := Lib.hid hbel
    clear hinv hrow hbel
    by_cases hkl : k ≤ S.length
    · have hkl' : (k : Int) ≤ (S.length : Int) := by omega
      have hak' : (a : Int) ≤ (k : Int) := by omega
      obtain ⟨B, hB⟩ : ∃ B : Bool, B = decide (k < S.length ∧ (sgB (S.getD k 0) = false ∨ k = 0)) := ⟨_, rfl⟩
      have HBB := Lib.hid hB
      clear hB
      go_upto_region 6 with fail
      go_cut [39] from 14 to 80 (fun s wx => s = .bool B ∧ wr = wx)
      case first =>
        by_cases hlt : k < S.length
        · have hlt' : (k : Int) < (S.length : Int) := by omega
          obtain ⟨hkb, hget⟩ := HGET.out k hlt
          have HG := Lib.hid (show S.getD k 0 = S[k] by simp only [List.getD]; rw [List.getElem?_eq_getElem hlt]; rfl)
          rcases sg_cases (b := S[k]) with ⟨h1, h2⟩ | ⟨h1, h2, h3⟩ | ⟨h1, h2, h3⟩
          · have hq : (((bsOf S)[k].toNat : Int) != 43) = false := by rw [hget]; exact bne_f (u8_eq (b := 43) h1)
            by_cases hk0 : k = 0
            · have HT := Lib.hid (show B = true by rw [HBB.out]; exact decide_eq_true ⟨hlt, .inr hk0⟩)
              have e0 : ((k : Int) == 0) = true := by simp [hk0]
              clear h1 h2 hget hk0
              go_wp2_with fail
              go_meet
              case rel => exact ⟨by rw [HT.out], rfl⟩
            · have HT := Lib.hid (show B = false by rw [HBB.out, HG.out, h2]; simp [hk0])
              have e0 : ((k : Int) == 0) = false := by simp; omega
              clear h1 h2 hget hk0
              go_wp2_with fail
              go_meet
              case rel => exact ⟨by rw [HT.out], rfl⟩
          · have hq : (((bsOf S)[k].toNat : Int) != 43) = true := by rw [hget]; exact bne_t (u8_ne (b := 43) h1)
            have hq2 : (((bsOf S)[k].toNat : Int) != 45) = false := by rw [hget]; exact bne_f (u8_eq (b := 45) h2)
            by_cases hk0 : k = 0
            · have HT := Lib.hid (show B = true by rw [HBB.out]; exact decide_eq_true ⟨hlt, .inr hk0⟩)
              have e0 : ((k : Int) == 0) = true := by simp [hk0]
              clear h1 h2 h3 hget hk0
              go_wp2_with fail
              go_meet
              case rel => exact ⟨by rw [HT.out], rfl⟩
            · have HT := Lib.hid (show B = false by rw [HBB.out, HG.out, h3]; simp [hk0])
              have e0 : ((k : Int) == 0) = false := by simp; omega
              clear h1 h2 h3 hget hk0
              go_wp2_with fail
              go_meet
              case rel => exact ⟨by rw [HT.out], rfl⟩
          · have hq : (((bsOf S)[k].toNat : Int) != 43) = true := by rw [hget]; exact bne_t (u8_ne (b := 43) h1)
            have hq2 : (((bsOf S)[k].toNat : Int) != 45) = true := by rw [hget]; exact bne_t (u8_ne (b := 45) h2)
            have HT := Lib.hid (show B = true by rw [HBB.out, HG.out, h3]; simp [hlt])
            clear h1 h2 h3 hget
            go_wp2_with fail
            go_meet
            case rel => exact ⟨by rw [HT.out], rfl⟩
        · have hlt' : ¬ (k : Int) < (S.length : Int) := by omega
          have HT := Lib.hid (show B = false by rw [HBB.out]; simp [hlt])
          go_wp2_with fail
          go_meet
          case rel => exact ⟨by rw [HT.out], rfl⟩
      case rest =>
      obtain ⟨rfl, rfl⟩ := hcut
      cases B
      · have hst : k = S.length ∨ (sgB (S.getD k 0) = true ∧ k ≠ 0) := by
          have h := HBB.out
          have h2 := of_decide_eq_false h.symm
          by_cases hlt : k < S.length
          · refine .inr ⟨?_, fun e => h2 ⟨hlt, .inr e⟩⟩
            cases hs : sgB (S.getD k 0)
            · exact absurd ⟨hlt, .inl hs⟩ h2
            · rfl
          · exact .inl (by omega)
        obtain ⟨p, hp⟩ : ∃ p, (S.drop a).take (k - a) = p := ⟨_, rfl⟩
        have hex : (bsOf S).extract a k = bsOf p := by rw [ext_mid S a k hak, hp]
        have hpl : p.length ≤ 1100000 := by rw [← hp, List.length_take, List.length_drop]; omega
        have HST := Lib.hid fun (c kk : Int) (ok : Bool) (h : TmP (stripL p).1 c kk ok) => rinv_stop HI.out hkl hst (by rw [hp]; exact h)
        rw [hp] at HST
        have hszp : ((bsOf p).size : Int) = (p.length : Int) := by rw [bs_size]
        clear hst hp HBB
        go_upto_region 9 with fail
        clear hex
        obtain ⟨G, hG⟩ : ∃ G, headSg p = G := ⟨_, rfl⟩
        have HG := Lib.hid hG
        clear hG
        go_cut [56] from 14 to 80 (fun s wx => s = .bool G ∧ wr = wx)
        case first =>
          rcases strip_cases p with ⟨h1, h2, h3⟩ | ⟨h1, t, h2, h3⟩ | ⟨h1, t, h2, h3⟩
          · have HT := Lib.hid (show G = false by rw [← HG.out, h1])
            rcases h3 with h3 | ⟨h, t, h3, h4, h5⟩
            · have hn : ¬ (0 : Int) < (p.length : Int) := by rw [h3]; simp
              clear h1 h2 h3
              go_wp2_with fail
              go_meet
              case rel => exact ⟨by rw [HT.out], rfl⟩
            · have hn : (0 : Int) < (p.length : Int) := by rw [h3]; simp
              obtain ⟨hk0, hg0⟩ := bs_head h3
              have hq : (((bsOf p)[0].toNat : Int) == 43) = false := by rw [hg0]; exact u8_ne (b := 43) h4
              have hq2 : (((bsOf p)[0].toNat : Int) == 45) = false := by rw [hg0]; exact u8_ne (b := 45) h5
              clear h1 h2 h3 h4 h5 hg0
              go_wp2_with fail
              go_meet
              case rel => exact ⟨by rw [HT.out], rfl⟩
          · have HT := Lib.hid (show G = true by rw [← HG.out, h1])
            have hn : (0 : Int) < (p.length : Int) := by rw [h2]; simp
            obtain ⟨hk0, hg0⟩ := bs_head h2
            have hq : (((bsOf p)[0].toNat : Int) == 43) = true := by rw [hg0]; rfl
            clear h1 h2 h3 hg0
            go_wp2_with fail
            go_meet
            case rel => exact ⟨by rw [HT.out], rfl⟩
          · have HT := Lib.hid (show G = true by rw [← HG.out, h1])
            have hn : (0 : Int) < (p.length : Int) := by rw [h2]; simp
            obtain ⟨hk0, hg0⟩ := bs_head h2
            have hq : (((bsOf p)[0].toNat : Int) == 43) = false := by rw [hg0]; rfl
            have hq2 : (((bsOf p)[0].toNat : Int) == 45) = true := by rw [hg0]; rfl
            clear h1 h2 h3 hg0
            go_wp2_with fail
            go_meet
            case rel => exact ⟨by rw [HT.out], rfl⟩
        case rest =>
        obtain ⟨rfl, rfl⟩ := hcut
        go_upto_if 56 with fail
        go_cut [7, 8] from 14 to 80 (fun s7 s8 wx => s7 = .string (bsOf (stripL p).1) ∧ s8 = .int .i64 (stripL p).2 ∧ wr = wx)
        case first =>
          rcases strip_cases p with ⟨h1, h2, h3⟩ | ⟨h1, t, h2, h3⟩ | ⟨h1, t, h2, h3⟩
          · have hT : G = false := by rw [← HG.out, h1]
            subst hT
            have HS := Lib.hid h2
            clear h1 h2 h3
            go_wp2_with fail
            go_meet
            case rel => exact ⟨by rw [HS.out], by rw [HS.out], rfl⟩
          · have hT : G = true := by rw [← HG.out, h1]
            subst hT
            have HS := Lib.hid h3
            have hn : (0 : Int) < (p.length : Int) := by rw [h2]; simp
            have hn1 : (1 : Int) ≤ (p.length : Int) := by omega
            obtain ⟨hk0, hg0⟩ := bs_head h2
            have hq2 : (((bsOf p)[0].toNat : Int) == 45) = false := by rw [hg0]; rfl
            have hex := bs_tail h2
            clear h1 h2 h3 hg0
            go_wp2_with fail
            go_meet
            case rel => exact ⟨by rw [HS.out], by rw [HS.out], rfl⟩
          · have hT : G = true := by rw [← HG.out, h1]
            subst hT
            have HS := Lib.hid h3
            have hn : (0 : Int) < (p.length : Int) := by rw [h2]; simp
            have hn1 : (1 : Int) ≤ (p.length : Int) := by omega
            obtain ⟨hk0, hg0⟩ := bs_head h2
            have hq2 : (((bsOf p)[0].toNat : Int) == 45) = true := by rw [hg0]; rfl
            have hex := bs_tail h2
            clear h1 h2 h3 hg0
            go_wp2_with fail
            go_meet
            case rel => exact ⟨by rw [HS.out], by rw [HS.out], rfl⟩
        case rest =>
        obtain ⟨rfl, rfl, rfl⟩ := hcut
        have hsl := strip_len p
        have hsg := strip_sg p
        obtain ⟨t, ht⟩ : ∃ t, (stripL p).1 = t := ⟨_, rfl⟩
        obtain ⟨sg, hsgn⟩ : ∃ sg, (stripL p).2 = sg := ⟨_, rfl⟩
        rw [ht] at hsl HST ⊢
        rw [hsgn] at hsg HST ⊢
        clear ht hsgn HG
        go_wp2_with fail
        refine (l06Term_any t _ (by omega)).mono ?_
        rintro e w1 ⟨c, kk, ok, htm, rfl, b1⟩
        obtain ⟨s1, s2⟩ := HST.out c kk ok htm
        obtain ⟨_, c0, c1, hk8⟩ := htm
        have HNO := Lib.hid s1
        have HYES := Lib.hid s2
        have R1 := Lib.hid (intRow_next HROW.out b1)
        have B1 := Lib.hid (HBEL.out.trans (b1.mono HBEL.out.size))
        clear s1 s2 b1 HST HROW HBEL HI
        cases ok
        · have HNP := Lib.hid (HNO.out (.inl rfl))
          clear HNO HYES hk8
          go_wp2_with fail
          go_ret2
          exact ⟨[], 6, .inr ⟨rfl, rfl, HNP.out⟩, _, rfl, intRow_nil _ _, B1.out⟩
        · obtain ⟨hk80, hk88⟩ := hk8 rfl
          by_cases hbig : (1000000 : Int) < c
          · have HNP := Lib.hid (HNO.out (.inr hbig))
            clear HNO HYES hk8
            go_wp2_with fail
            go_ret2
            exact ⟨[], 6, .inr ⟨rfl, rfl, HNP.out⟩, _, rfl, intRow_nil _ _, B1.out⟩
          · obtain ⟨m, hm⟩ : ∃ m : Nat, kk = m := ⟨kk.toNat, by omega⟩
            subst hm
            have hm8 : m ≤ 8 := by omega
            have hm9 : (m : Int) < 9 := by omega
            have HIN2 := Lib.hid (HYES.out m hm8 rfl rfl)
            have c3 := int_at R1.out HF9.out (show m < 9 by omega)
            have f3 := int_frozen R1.out HF9.out m
            have R2 := Lib.hid (int_stored R1.out HF9.out m (sg * c))
            have B2 := Lib.hid (B1.out.setCell (p := ⟨w.heap.size, m, none⟩) (Nat.le_refl _) (.int .i64 (sg * c)))
            have w1' : IntKind.i64.wrap (sg * c) = sg * c := by
              rcases hsg with rfl | rfl
              · exact IntWalk.i64_in _ (by omega)
              · exact IntWalk.i64_in _ (by omega)
            clear HNO HYES hk8 hsg
            go_wp2_with fail
            exact ⟨⟨k, k + 1, F.set m (sg * c), HIN2.out, rfl, by go_num, R2.out, B2.out⟩, by simp only [intOf]; omega⟩
      · have HQ : Hid (RInv S a (k + 1) F) := by
          have h2 := of_decide_eq_true HBB.out.symm
          exact Lib.hid (rinv_go HI.out h2.1 h2.2)
        clear HBB
        go_wp2_with fail
        exact ⟨⟨a, k + 1, F, HQ.out, rfl, by go_num, HROW.out, HBEL.out⟩, by simp only [intOf]; omega⟩
    · have hke : k = S.length + 1 := by omega
      have HU := Lib.hid (show ∀ f, polyB f = true → S = polyT f → F = padL f by
        have h := HI.out
        rw [hke] at h
        exact rinv_end h)
      have hkl' : ¬ (k : Int) ≤ (S.length : Int) := by omega
      have HSN := Lib.hid (row_seen HROW.out (by rw [HF9.out]; omega))
      have h9t : (trimL F).length ≤ 9 := trim_le (by rw [HF9.out]; omega)
      clear HI hke
      go_wp2_with fail
      refine (specTrim_any HSN.out).mono ?_
      rintro e w1 ⟨v, rfl, hr, hb⟩
      obtain ⟨o2, c2, rfl, hs2⟩ := seen_row hr (by omega)
      have HS2 := Lib.hid hs2
      have RT := Lib.hid (intRow_lower hr HBEL.out.size)
      have BT := Lib.hid (HBEL.out.trans (hb.mono HBEL.out.size))
      have HISP := Lib.hid (specIsPoly_any hs2)
      clear hr hb hs2 HROW HBEL HSN
      go_wp2_with fail
      cases hp : polyB (trimL F)
      · rw [hp] at HISP
        refine HISP.out.mono ?_
        rintro e w2 ⟨rfl, rfl⟩
        have HNP : Hid (NoPoly S) := Lib.hid (fun f hf hS => by
          have e := HU.out f hf hS
          rw [e, trim_pad (polyB_of hf).1, trimL_self (poly_last hf), hf] at hp
          cases hp)
        clear hp HU HISP
        go_wp2_with fail
        go_ret2
        exact ⟨[], 6, .inr ⟨rfl, rfl, HNP.out⟩, _, rfl, intRow_nil _ _, BT.out⟩
      · rw [hp] at HISP
        refine HISP.out.mono ?_
        rintro e w2 ⟨rfl, rfl⟩
        have HTX := Lib.hid (l06Text_any HS2.out h9t (polyB_of hp).2.1)
        by_cases hS : S = polyT (trimL F)
        · have hq' := str_eq' (show bsOf (polyT (trimL F)) = bsOf S by rw [hS])
          have HRD := Lib.hid (read_yes HF9.out hp hS HU.out)
          clear hp HU HISP hS
          go_wp2_with fail
          refine HTX.out.mono ?_
          rintro e w4 ⟨rfl, b4⟩
          go_wp2_with fail
          go_ret2
          exact ⟨trimL F, 0, HRD.out, _, rfl, intRow_next RT.out b4, BT.out.trans (b4.mono BT.out.size)⟩
        · have hq' := str_ne (a := bsOf (polyT (trimL F))) (b := bsOf S) (fun e => hS (bs_inj e).symm)
          have HNP : Hid (NoPoly S) := Lib.hid (fun f hf e => by
            have e2 := HU.out f hf e
            apply hS
            rw [e, e2, trim_pad (polyB_of hf).1, trimL_self (poly_last hf)])
          clear hp HU HISP hS
          go_wp2_with fail
          refine HTX.out.mono ?_
          rintro e w4 ⟨rfl, b4⟩
          go_wp2_with fail
          go_ret2
          exact ⟨[], 6, .inr ⟨rfl, rfl, HNP.out⟩, _, rfl, intRow_nil _ _, BT.out.trans (b4.mono BT.out.size)⟩
end Go.Proofs.YtcennddgbpkclaaDoor
namespace Go.Proofs.YtcennddgbpkclaaDoor
open Go.RowKit
set_option linter.unusedVariables false
set_option linter.unusedSimpArgs false
set_option maxRecDepth 20000 in
set_option maxHeartbeats 1000000 in
theorem exactRPoly_core (S : List UInt8) (w : World) (hl : S.length ≤ 1048576) (he : Env w) (ht : Tab w) :
    Calls Tryd.prog 5 #[.string (bsOf S)] w fun e w' => e = .returned (.bool true) ∧ Below w.heap.size w w' := by
  have HS := Lib.hid (fun w => specReadP_any S w (by omega))
  have HI := Lib.hid (fun w he ht => implReadP_any S w (by omega) he ht)
  have hsz : ((bsOf S).size : Int) = (S.length : Int) := by rw [bs_size]
  have hl' : (S.length : Int) ≤ 1048576 := by omega
  have HE := Lib.hid he
  have HT := Lib.hid ht
  clear he ht
  go_enter Tryd.func5, Tryd.ntmps5
  go_wp2_with fail
  refine (HS.out _).mono ?_
  rintro e W1 ⟨q, c, hrel, v1, rfl, r1, b1⟩
  have hq := read_len hrel
  have hnq : (0 : Int) ≤ (q.length : Int) := Int.natCast_nonneg _
  have HREL := Lib.hid hrel
  have B1 := Lib.hid b1
  have R_w0_1 := Lib.hid r1
  clear r1 b1 hrel
  go_wp2_with fail
  refine (HI.out _ (env_below HE.out B1.out (Nat.le_refl _)) (tab_below HT.out B1.out (Nat.le_refl _))).mono ?_
  rintro e W2 ⟨q2, c2, hrel2, v2, rfl, r2, b2⟩
  obtain ⟨rfl, rfl⟩ := read_same HREL.out hrel2
  have B2 := Lib.hid (B1.out.trans (b2.mono B1.out.size))
  have R_w0_2 := Lib.hid (row_below R_w0_1.out b2 (Nat.le_refl _))
  have R_g0_2 := Lib.hid r2
  clear r2 b2 hrel2
  go_wp2_with fail
  refine (eqInt_same R_g0_2.out R_w0_2.out (by omega)).mono ?_
  rintro e W3 ⟨rfl, nd, hw⟩
  have b3 : Below W2.heap.size W2 W3 := by rw [hw]; exact below_drewN (Below.refl _ _) nd
  clear hw nd
  have B3 := Lib.hid (B2.out.trans (b3.mono B2.out.size))
  have R_w0_3 := Lib.hid (row_below R_w0_2.out b3 (Nat.le_refl _))
  have R_g0_3 := Lib.hid (row_below R_g0_2.out b3 (Nat.le_refl _))
  clear b3
  go_wp2_with fail
  refine (markInt R_g0_3.out (by omega) (by omega) (by omega)).mono ?_
  rintro e W4 ⟨rfl, m4, g4⟩
  have B4 := Lib.hid (below_grown B3.out R_g0_3.out g4 B1.out.size B3.out.size)
  have R_w0_4 := Lib.hid (row_apart R_w0_3.out R_g0_3.out R_w0_1.out (Nat.le_refl _) g4)
  have M_g0_4 := Lib.hid m4
  clear m4 g4
  go_wp2_with fail
  refine (heldInt M_g0_4.out (by omega) (by omega) (by omega)).mono ?_
  rintro e W5 ⟨rfl, nd, hw⟩
  have b5 : Below W4.heap.size W4 W5 := by rw [hw]; exact below_drewN (Below.refl _ _) nd
  clear hw nd
  have B5 := Lib.hid (B4.out.trans (b5.mono B4.out.size))
  have R_w0_5 := Lib.hid (row_below R_w0_4.out b5 (Nat.le_refl _))
  have M_g0_5 := Lib.hid (marked_below M_g0_4.out b5 (Nat.le_refl _))
  clear b5
  go_wp2_with fail
  refine (HI.out _ (env_below HE.out B5.out (Nat.le_refl _)) (tab_below HT.out B5.out (Nat.le_refl _))).mono ?_
  rintro e W6 ⟨q6, c6, hrel6, v6, rfl, r6, b6⟩
  obtain ⟨rfl, rfl⟩ := read_same HREL.out hrel6
  have B6 := Lib.hid (B5.out.trans (b6.mono B5.out.size))
  have R_w0_6 := Lib.hid (row_below R_w0_5.out b6 (Nat.le_refl _))
  have M_g0_6 := Lib.hid (marked_below M_g0_5.out b6 (Nat.le_refl _))
  have R_h0_6 := Lib.hid r6
  clear r6 b6 hrel6
  go_wp2_with fail
  refine (eqInt_same R_h0_6.out R_w0_6.out (by omega)).mono ?_
  rintro e W7 ⟨rfl, nd, hw⟩
  have b7 : Below W6.heap.size W6 W7 := by rw [hw]; exact below_drewN (Below.refl _ _) nd
  clear hw nd
  have B7 := Lib.hid (B6.out.trans (b7.mono B6.out.size))
  have M_g0_7 := Lib.hid (marked_below M_g0_6.out b7 (Nat.le_refl _))
  clear b7
  go_wp2_with fail
  refine (heldInt M_g0_7.out (by omega) (by omega) (by omega)).mono ?_
  rintro e W8 ⟨rfl, nd, hw⟩
  have b8 : Below W7.heap.size W7 W8 := by rw [hw]; exact below_drewN (Below.refl _ _) nd
  clear hw nd
  have B8 := Lib.hid (B7.out.trans (b8.mono B7.out.size))
  clear b8
  go_wp2_with fail
  go_ret
  exact ⟨rfl, B8.out⟩
theorem exactRPoly_big (s : ByteArray) (w : World) (hs : 1048576 < s.size) :
    Calls Tryd.prog 5 #[.string s] w fun e w' => e = .returned (.bool true) ∧ Below w.heap.size w w' := by
  go_enter Tryd.func5, Tryd.ntmps5
  go_wp2
  go_ret
  exact ⟨rfl, Below.refl _ _⟩
theorem exactRPoly_walk (s : ByteArray) (w : World) (he : Env w) (ht : Tab w) :
    Calls Tryd.prog 5 #[.string s] w fun e w' => e = .returned (.bool true) ∧ Below w.heap.size w w' := by
  by_cases hs : s.size ≤ 1048576
  · have e : s = bsOf s.data.toList := by apply ByteArray.ext; simp [bsOf]
    have h := exactRPoly_core s.data.toList w (by simpa using hs) he ht
    rwa [← e] at h
  · exact exactRPoly_big s w (by omega)
end Go.Proofs.YtcennddgbpkclaaDoor
namespace Go.Proofs.YtcennddgbpkclaaDoor
open Go.ChangeShapes Go.WideShapes Go.ChangeAt Go.RowKit
set_option linter.unusedVariables false
theorem gTabType : (Tryd.prog.globals[0]?).map (·.type) = some 110 := by kernel_rfl
theorem cellsTab : Tryd.prog.cellsOf 110 = 20 := by kernel_rfl
theorem cellsU : Tryd.prog.cellsOf 94 = 1 := by kernel_rfl
theorem gRange : Tryd.prog.globalNamed "strconv.ErrRange" = some 3 := by kernel_rfl
theorem gRangeType : (Tryd.prog.globals[3]?).map (·.type) = some 64 := by kernel_rfl
theorem gSyntax : Tryd.prog.globalNamed "strconv.ErrSyntax" = some 2 := by kernel_rfl
theorem gSyntaxType : (Tryd.prog.globals[2]?).map (·.type) = some 64 := by kernel_rfl
theorem cellsErr : Tryd.prog.cellsOf 126 = 1 := by kernel_rfl
theorem cellsStr : Tryd.prog.cellsOf 9 = 1 := by kernel_rfl
theorem starErr : "*" ++ "errors.errorString" = "*errors.errorString" := by decide
theorem rowErr (u : TypeId) (h : Tryd.prog.typeName? 3 u = some "*errors.errorString") : u = 124 :=
  typeName_ptr_named (nm := "errors.errorString") (by rw [starErr]; kernel_rfl) (by kernel_rfl) (by decide) u (by rw [starErr]; exact h)
theorem tab_of_laid {W : World} (h : laidMetH Tryd.prog Rows.fnExactReadPolynomialRow.laid W) : Tab W := by
  have h0 : laidMet Tryd.prog Rows.fnExactReadPolynomialRow.laid W := h
  exact Lib.tabIs_of_head (rest := _) gTab gTabType Tryd.underlying110 Tryd.underlying94 cellsU cellsTab h0.tail.tail
theorem env_of_laid {W : World} (h : laidMetH Tryd.prog Rows.fnExactReadPolynomialRow.laid W) (hS : W.ShapedOpen Tryd.prog) : Env W := by
  have h0 : laidMet Tryd.prog Rows.fnExactReadPolynomialRow.laid W := h
  obtain ⟨a1, s1, hv1, _⟩ := laid_sentinel h0.tail.tail.tail gRange gRangeType Tryd.underlying64 rowErr Tryd.underlying124 Tryd.underlying126 rfl rfl Tryd.underlying9 cellsErr cellsStr
  obtain ⟨a2, s2, hv2, _⟩ := laid_sentinel h0.tail.tail.tail.tail gSyntax gSyntaxType Tryd.underlying64 rowErr Tryd.underlying124 Tryd.underlying126 rfl rfl Tryd.underlying9 cellsErr cellsStr
  have c1 : W.cell? ⟨3, 0, none⟩ = some (.iface 124 (.pointer (some a1))) := by simpa using World.var?_cell gRange hv1 0
  have c2 : W.cell? ⟨2, 0, none⟩ = some (.iface 124 (.pointer (some a2))) := by simpa using World.var?_cell gSyntax hv2 0
  exact ⟨⟨_, c2, .inr ⟨_, _, rfl⟩⟩, ⟨_, c1, .inr ⟨_, _, rfl⟩⟩, cell_of_shapedOpen_int (zero := #[.int .i64 0]) (t := 3) hS (of_decide_eq_true (by kernel_rfl)) (by kernel_rfl) rfl (by kernel_rfl) (by kernel_rfl) Tryd.underlying3⟩
/-- block g holding the cells cs -/
def layAt (g : Nat) (cs : Array Value) (h : Array Obj) : Array Obj := h.modify g fun o => match o with
  | .cells _ t frozen => .cells cs t frozen
  | o => o
def layAll (l : List (Nat × Array Value)) (h : Array Obj) : Array Obj := l.foldl (fun h x => layAt x.1 x.2 h) h
def u8s (l : List Nat) : Array Value := (l.map fun n : Nat => Value.int .u8 (n : Int)).toArray
noncomputable def lowBlock : Nat := (World.holding Tryd.prog default ⟨#[], #[], []⟩).heap.size
/-- a world for the witness: the settled one, the listed variables holding what their initialisers lay -/
noncomputable def laidWorld (os : Os) : World :=
  let w0 := World.holding Tryd.prog os ⟨#[.cells #[.string ⟨#[118, 97, 108, 117, 101, 32, 111, 117, 116, 32, 111, 102, 32, 114, 97, 110, 103, 101]⟩] 126, .cells #[.string ⟨#[105, 110, 118, 97, 108, 105, 100, 32, 115, 121, 110, 116, 97, 120]⟩] 126], #[], []⟩
  { w0 with heap := layAll [
    (3, #[.iface 124 (.pointer (some ⟨lowBlock, 0, none⟩))]),
    (2, #[.iface 124 (.pointer (some ⟨lowBlock + 1, 0, none⟩))]),
    (5, (u8s [0, 1, 56, 2, 57, 49, 28, 3, 61, 58, 42, 50, 38, 29, 17, 4, 62, 47, 59, 36, 45, 43, 51, 22, 53, 39, 33, 30, 24, 18, 12, 5, 63, 55, 48, 27, 60, 41, 37, 16, 46, 35, 44, 21, 52, 32, 23, 11, 54, 26, 40, 15, 34, 20, 31, 10, 25, 14, 19, 9, 13, 8, 7, 6])),
    (4, (u8s [0, 1, 28, 2, 29, 14, 24, 3, 30, 22, 20, 15, 25, 17, 4, 8, 31, 27, 13, 23, 21, 19, 16, 7, 26, 12, 18, 6, 11, 5, 10, 9])),
    (0, #[.int .u64 1, .int .u64 10, .int .u64 100, .int .u64 1000, .int .u64 10000, .int .u64 100000, .int .u64 1000000, .int .u64 10000000, .int .u64 100000000, .int .u64 1000000000, .int .u64 10000000000, .int .u64 100000000000, .int .u64 1000000000000, .int .u64 10000000000000, .int .u64 100000000000000, .int .u64 1000000000000000, .int .u64 10000000000000000, .int .u64 100000000000000000, .int .u64 1000000000000000000, .int .u64 10000000000000000000])] w0.heap }
end Go.Proofs.YtcennddgbpkclaaDoor
namespace Go.Proofs.YtcennddgbpkclaaDoor.fnExactReadPolynomial
open Go.ChangeShapes Go.WideShapes Go.ChangeAt Go.RowKit
open Go.ChangeMaps (open_string shut_string)
set_option linter.unusedVariables false
theorem own : ownKnob Tryd.prog.godebug = none := by kernel_rfl
set_option maxRecDepth 100000 in
theorem contract (H : Type) (enc : TypeId × Value → H) (W : World) (base : Nat) (args : Array Value) (ds gs : List (DataW H)) (before : List MemPlace)
    (hval : ∀ (j : Nat) t v, Tryd.f5.params[j]? = some t → args[j]? = some v → Value.okWide Tryd.prog W .any base t v)
    (hW : DataW.Whole enc Tryd.prog Tryd.f5.params.toList Rows.fnExactReadPolynomialSpec.vars false W args.toList ds gs before) (hL : laidMetH Tryd.prog Rows.fnExactReadPolynomialRow.laid W) (hS : W.ShapedOpen Tryd.prog) :
    Calls Tryd.prog 5 args W fun e W' => ∃ v, e = .returned v ∧ Rows.fnExactReadPolynomialSpec.post enc Tryd.prog Tryd.f5 false true false false W args v W' := by
  have hW' := hW
  obtain ⟨p, q, hA0, hV, rfl, hfz, hnd⟩ := hW
  have hA : DataW.TrodAll enc Tryd.prog W 0 (fun _ => true) true Tryd.f5.params.toList args.toList ds p := hA0
  rw [Tryd.params5] at hA hval
  obtain ⟨v0, vs0, d0, ds0, p0, q0, hargs, rfl, rfl, h0, r0⟩ := trodAll_cons hA
  obtain ⟨rfl, rfl, rfl⟩ := trodAll_nil r0
  obtain rfl : args = #[v0] := by cases args; simp_all
  obtain ⟨rfl, rfl⟩ := trodVars_none hV
  obtain ⟨s, rfl, rfl, rfl, ws⟩ := open_string Tryd.underlying9 (hval 0 9 v0 rfl rfl) h0
  clear hA0
  simp only [List.append_nil] at hW'
  refine (exactRPoly_walk s W (env_of_laid hL hS) (tab_of_laid hL)).mono fun e W' ⟨he, bel⟩ => ?_
  subst he
  exact ⟨_, rfl, _, _, _, [], [], [], hW', trodAll_mk1 (shut_bool Tryd.underlying4 _), (trodAll_cons_mk (shut_string Tryd.underlying9 ws) trodAll_mk0), rfl, bel.frame _, fun h => by cases h⟩
theorem laid_met (os : Os) : laidMet Tryd.prog Rows.fnExactReadPolynomialRow.laid ((laidWorld os).forCall (fun _ _ => 0) ⟨#[], #[.string ⟨#[]⟩], []⟩).memory :=
  laidMet_of_run' 8 (by kernel_rfl) (by kernel_rfl)
theorem reads (os : Os) {H : Type} (enc : TypeId × Value → H) : ∃ places, DataW.whole enc Tryd.prog ((laidWorld os).forCall (fun _ _ => 0) ⟨#[], #[.string ⟨#[]⟩], []⟩).memory Tryd.f5.params.toList Rows.fnExactReadPolynomialSpec.vars false #[Value.string ⟨#[]⟩].toList 8 = some ([.lit (.string [])], [], places) :=
  ⟨[], by kernel_rfl⟩
set_option maxRecDepth 100000 in
theorem lifted (os : Os) (started : os.Started) (H : Type) (enc : TypeId × Value → H) (F : Stop.Interp) :
    ReturnsInHanded {} Tryd.checked os 5 .any ((OpenSpec.ofChange Rows.fnExactReadPolynomialSpec).preRow enc Tryd.prog Tryd.f5 Rows.fnExactReadPolynomialRow.domain false Rows.fnExactReadPolynomialRow.laid) (((OpenSpec.ofChange Rows.fnExactReadPolynomialSpec).at F).post enc Tryd.prog Tryd.f5 false true false false) := by
  obtain ⟨places, hx⟩ := reads os enc
  refine returnsInHanded_of_row (C := Tryd.checked) (s := OpenSpec.ofChange Rows.fnExactReadPolynomialSpec) own started (by kernel_rfl) Tryd.func5
    (witness_row_at (enc := enc) (C := Tryd.checked) false (laidWorld os) #[.string ⟨#[]⟩] rfl (by kernel_rfl) (by kernel_rfl) (by kernel_rfl)
      (OpenSpec.preRow_of_cond 8 hx (by kernel_rfl) (fun k hk => by cases hk) (by kernel_rfl) (laid_met os))) ?_
  intro W base args ds gs before hval hW _ _ _ hL hS _
  exact contract H enc W base args ds gs before hval hW hL hS
theorem said : Rows.FnExactReadPolynomialSaid :=
  OpenClaim.holds_of_cond 5 Tryd.f5 rfl rfl rfl rfl rfl rfl rfl ⟨rfl, rfl, rfl, rfl, rfl⟩ rfl rfl rfl rfl rfl (by kernel_rfl) Tryd.func5 (by kernel_rfl)
    (of_decide_eq_true (by kernel_rfl)) (by unfold Func.isWrapper; first | (rw [if_pos (by decide +kernel)]; kernel_rfl) | (rw [if_neg (by decide +kernel)]; exact ⟨rfl, rfl⟩))
    (fun os started H enc _ F => by rw [OpenClaim.pre_eq_preRow]; exact lifted os started H enc F)
theorem plain (f : FuncId) (fn : Func) (hf : Tryd.pinned.checked.prog.funcNamed "loop.example/g01000/laws.FnExactReadPolynomial" = some f) (hfn : Tryd.pinned.checked.prog.funcs[f]? = some fn) :
    true = Tryd.pinned.checked.prog.looks [] ∧ ∀ (j : Nat) t, fn.params[j]? = some t → Tryd.pinned.checked.prog.wantsStandIn t = false := by
  obtain rfl : f = 5 := Option.some.inj ((show Tryd.prog.funcNamed "loop.example/g01000/laws.FnExactReadPolynomial" = some 5 by kernel_rfl).symm.trans hf) |>.symm
  obtain rfl : fn = Tryd.f5 := (Option.some.inj (Tryd.func5.symm.trans hfn)).symm
  refine ⟨by kernel_rfl, fun j t ht => ?_⟩
  rw [Tryd.params5] at ht
  obtain rfl : t = 9 := by simpa using Array.mem_of_getElem? ht
  exact (show Tryd.prog.wantsStandIn 9 = false by kernel_rfl)
/-- THE CARD -/
theorem card : Rows.FnExactReadPolynomialCardSaid :=
  Claim7.holds_tied_plain_at .later [] _ _ _ _ said (fun _ h => by cases h) (by kernel_rfl) (fun _ h => by cases h) fnExactReadPolynomial_row_tie rfl ⟨rfl, rfl⟩ (by kernel_rfl) rfl plain (by kernel_rfl)
#print axioms card
end Go.Proofs.YtcennddgbpkclaaDoor.fnExactReadPolynomial
