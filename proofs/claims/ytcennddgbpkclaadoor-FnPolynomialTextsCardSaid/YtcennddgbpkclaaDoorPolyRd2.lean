/- Contracts of the walk: chapter 6 in impl: the end of a term, and what is found as a term. -/
import Derived.Test.YtcennddgbpkclaaDoorPolyRd1
import Derived.Test.YtcennddgbpkclaaDoorPolyTxt2
namespace Go.Proofs.YtcennddgbpkclaaDoor
open Go.RowKit Go.Shelf
set_option linter.unusedVariables false
set_option linter.unusedSimpArgs false
theorem bs_list (l : List UInt8) : (bsOf l).data.toList = l := by simp [bsOf]
theorem bs_get {l : List UInt8} {k : Nat} (h : k < l.length) : ∃ hk : k < (bsOf l).size, (bsOf l)[k] = l[k] := ⟨by rw [bs_size]; exact h, by simp [bsOf]; rfl⟩
/-- the end of the first piece -/
def TermEnd (l : List UInt8) (e : Nat) : Prop := 1 ≤ e ∧ e ≤ l.length ∧ (∀ j, 1 ≤ j → j < e → sgB (l.getD j 0) = false) ∧ (e = l.length ∨ sgB (l.getD e 0) = true)
theorem term_split {l : List UInt8} {e : Nat} (h : TermEnd l e) : l = l.take e ++ l.drop e ∧ PieceL (l.take e) ∧ TailL (l.drop e) := by
  obtain ⟨h1, h2, h3, h4⟩ := h
  refine ⟨(List.take_append_drop e l).symm, ?_, ?_⟩
  · cases l with
    | nil => simp at h2; omega
    | cons a t =>
      obtain ⟨e', rfl⟩ : ∃ e', e = e' + 1 := ⟨e - 1, by omega⟩
      refine ⟨a, t.take e', by simp, fun b hb => ?_⟩
      obtain ⟨i, hi, rfl⟩ := List.getElem_of_mem hb
      rw [List.length_take] at hi
      have := h3 (i + 1) (by omega) (by omega)
      simp only [List.getD, List.getElem?_cons_succ] at this
      rw [List.getElem_take]
      rwa [List.getElem?_eq_getElem (by omega), Option.getD_some] at this
  · rcases h4 with h4 | h4
    · exact .inl (List.drop_eq_nil_of_le (by omega))
    · by_cases he : e < l.length
      · refine .inr ⟨l[e], l.drop (e + 1), List.drop_eq_getElem_cons he, ?_⟩
        simpa [List.getD, he] using h4
      · exact .inl (List.drop_eq_nil_of_le (by omega))
theorem sg_cases {b : UInt8} : (b = 43 ∧ sgB b = true) ∨ (b ≠ 43 ∧ b = 45 ∧ sgB b = true) ∨ (b ≠ 43 ∧ b ≠ 45 ∧ sgB b = false) := by
  by_cases h1 : b = 43
  · exact .inl ⟨h1, by rw [h1]; rfl⟩
  · by_cases h2 : b = 45
    · exact .inr (.inl ⟨h1, h2, by rw [h2]; rfl⟩)
    · exact .inr (.inr ⟨h1, h2, by unfold sgB; simp [h1, h2]⟩)
set_option maxHeartbeats 800000 in
theorem termEnd_any (l : List UInt8) (w : World) (hl : l.length ≤ 1100000) (h0 : l ≠ []) :
    Calls Tryd.prog 44 #[.string (bsOf l)] w fun e w' => ∃ k : Nat, TermEnd l k ∧ e = .returned (.int .i64 (k : Int)) ∧ w = w' := by
  have hpos : 1 ≤ l.length := List.length_pos_iff.2 h0
  have hsz : ((bsOf l).size : Int) = (l.length : Int) := by rw [bs_size]
  have hsz2 : (bsOf l).size = l.length := bs_size l
  have HS := Lib.hid hsz2
  clear hsz2 h0
  go_enter Tryd.func44, Tryd.ntmps44
  go_wp2_with fail
  go_loop [3] (fun s => ∃ k : Nat, 1 ≤ k ∧ k ≤ l.length ∧ s = .int .i64 k ∧ ∀ j, 1 ≤ j → j < k → sgB (l.getD j 0) = false) (fun s => l.length - (intOf s).toNat)
  case atStart => exact ⟨1, Nat.le_refl _, hpos, rfl, fun j h1 h2 => by omega⟩
  case round =>
    obtain ⟨k, hk1, hk, rfl, hall⟩ := hrel
    have HA := Lib.hid hall
    clear hall
    by_cases hlt : k < l.length
    · obtain ⟨hkb, hget⟩ := bs_get hlt
      have HG := Lib.hid (show l.getD k 0 = l[k] by simp only [List.getD]; rw [List.getElem?_eq_getElem hlt]; rfl)
      have hlt' : (k : Int) < (l.length : Int) := by omega
      rcases sg_cases (b := l[k]) with ⟨h1, h2⟩ | ⟨h1, h2, h3⟩ | ⟨h1, h2, h3⟩
      · have HT := Lib.hid (show TermEnd l k from ⟨hk1, hk, HA.out, .inr (by rw [HG.out]; exact h2)⟩)
        have hq : (((bsOf l)[k].toNat : Int) == 43) = true := by rw [hget]; exact u8_eq (b := 43) h1
        clear h2 hget
        go_wp2_with fail
        go_ret
        exact ⟨k, HT.out, rfl, rfl⟩
      · have HT := Lib.hid (show TermEnd l k from ⟨hk1, hk, HA.out, .inr (by rw [HG.out]; exact h3)⟩)
        have hq : (((bsOf l)[k].toNat : Int) == 43) = false := by rw [hget]; exact u8_ne (b := 43) h1
        have hq2 : (((bsOf l)[k].toNat : Int) == 45) = true := by rw [hget]; exact u8_eq (b := 45) h2
        clear h1 h2 h3 hget
        go_wp2_with fail
        go_ret
        exact ⟨k, HT.out, rfl, rfl⟩
      · have HN := Lib.hid h3
        have hq : (((bsOf l)[k].toNat : Int) == 43) = false := by rw [hget]; exact u8_ne (b := 43) h1
        have hq2 : (((bsOf l)[k].toNat : Int) == 45) = false := by rw [hget]; exact u8_ne (b := 45) h2
        clear h1 h2 h3 hget
        go_wp2_with fail
        refine ⟨⟨k + 1, by omega, by omega, by go_num, fun j h1 h2 => ?_⟩, by simp only [intOf]; omega⟩
        by_cases e : j = k
        · rw [e, HG.out]; exact HN.out
        · exact HA.out j h1 (by omega)
    · have hkn : k = l.length := by omega
      have HT := Lib.hid (show TermEnd l k from ⟨hk1, hk, HA.out, .inl hkn⟩)
      have hlt' : ¬ (k : Int) < (l.length : Int) := by omega
      have HK := Lib.hid hkn
      clear hkn
      go_wp2_with fail
      go_ret
      exact ⟨k, HT.out, ret_int (by have := HK.out; omega), rfl⟩
/-- a value that is a term -/
def ftVal : Option (Int × Int × Bool) → Value
  | none => .nilIface
  | some (a, k, false) => .iface 75 (.int .i64 a)
  | some (a, k, true) => .iface 77 (.agg #[.int .i64 a, .int .i64 k])
theorem add_big (a b : List UInt8) (h : a.length + b.length ≤ 3000000) (wx : World) : (Op.stringOp .add (bsOf a) (bsOf b)).run Tryd.prog wx = .ok (.string (bsOf (a ++ b))) wx := by
  rw [← bs_append]; exact run_string_add_sum wx _ _ (by rw [bs_size, bs_size]; omega)
theorem str_one {l : List UInt8} {b : UInt8} : (l = [b] → ((bsOf l).toList == [b]) = true) ∧ (l ≠ [b] → ((bsOf l).toList == [b]) = false) := by
  rw [ByteArray.toList_eq, bs_list]
  exact ⟨fun h => by rw [h]; simp, fun h => by simpa using h⟩
theorem cutX_any (b : UInt8) (l : List UInt8) (mx : Int) (w : World) (hs : l.length < 4294967281) (hm : w.cell? ⟨1, 0, none⟩ = some (.int .i64 mx)) {x y : List UInt8} {t : Bool} (hc : Lib.cut l [b] = (x, y, t)) :
    Calls Tryd.prog 54 #[.string (bsOf l), .string ⟨#[b]⟩] w fun e w' => e = .returned (.tuple #[.string (bsOf x), .string (bsOf y), .bool t]) ∧ ∃ nd, w' = w.drewN nd :=
  (Tryd.strings_Cut (bsOf l) ⟨#[b]⟩ mx w (by rw [bs_size]; exact hs) hm).mono fun e w' ⟨he, nd, hw⟩ => ⟨by
    rw [he, show (⟨#[b]⟩ : ByteArray).data.toList = [b] from rfl, bs_list, hc]; rfl, nd, hw⟩
set_option maxRecDepth 20000 in
set_option maxHeartbeats 1600000 in
theorem findTerm_any (l : List UInt8) (w : World) (hl : l.length ≤ 1100000) (he : Env w) :
    Calls Tryd.prog 45 #[.string (bsOf l)] w fun e w' => e = .returned (ftVal (ftV l)) ∧ Below w.heap.size w w' := by
  have HE := Lib.hid he
  have hsz : (bsOf l).size = l.length := bs_size l
  clear he
  rcases cut_cases 120 l with ⟨_, ec⟩ | ⟨x, y, exy, hx, ec⟩
  · have HV := Lib.hid (show ftV l = (match pI l with | none => none | some v => some (v, 0, false)) by unfold ftV; rw [ec]; rfl)
    have HC := Lib.hid ec
    clear ec
    go_enter Tryd.func45, Tryd.ntmps45
    go_wp2_with fail
    obtain ⟨mx, hm⟩ := HE.out.2.2
    refine (cutX_any 120 l mx _ (by omega) hm HC.out).mono ?_
    clear hm
    rintro e w1 ⟨rfl, nd, rfl⟩
    have E1 := Lib.hid (env_below HE.out (below_drewN (Below.refl _ _) nd) (Nat.le_refl _))
    have B1 := Lib.hid (below_drewN (Below.refl w.heap.size w) nd)
    go_wp2_with fail
    refine (parse_any _ _ (by omega) E1.out).mono ?_
    rintro e w2 ⟨v, er, rfl, b2, hcase⟩
    rw [bs_list] at hcase
    have B2 := Lib.hid (B1.out.trans (b2.mono (Nat.le_refl _)))
    clear b2
    rcases hcase with ⟨hp, rfl⟩ | ⟨hp, t, p, rfl⟩
    · have HR := Lib.hid (show ftV l = some (v, 0, false) by rw [HV.out, hp])
      clear hp
      go_wp2_with fail
      go_ret
      exact ⟨by rw [HR.out]; rfl, B2.out⟩
    · have HR := Lib.hid (show ftV l = none by rw [HV.out, hp])
      clear hp
      go_wp2_with fail
      go_ret
      exact ⟨by rw [HR.out]; rfl, B2.out⟩
  · have HV := Lib.hid (show ftV l = rdX (numX x) y by unfold ftV; rw [ec, if_pos rfl])
    have HC := Lib.hid ec
    have hxl : x.length + 1 + y.length = l.length := by rw [exy]; simp; omega
    obtain ⟨N, hN⟩ : ∃ N, numX x = N := ⟨_, rfl⟩
    have hNl : N.length ≤ x.length + 1 := by rw [← hN]; unfold numX; split <;> simp
    have hadd := add_big N y (by omega)
    have HNN := Lib.hid hN
    have HRD := Lib.hid fun (w : World) (h : Env w) => readPair_any 94 (bsOf (N ++ y)) w (by rw [bs_size, List.length_append]; omega) h
    rw [hN] at HV
    have HX := Lib.hid (show ftV l = (match rdQ 94 (bsOf (N ++ y)) with | none => none | some p => some (p.1, p.2, true)) from HV.out)
    clear ec exy hx HV hN
    generalize bsOf (N ++ y) = r at *
    have h1 := add_big x [49] (by simp; omega)
    rw [show bsOf [49] = (⟨#[49]⟩ : ByteArray) from rfl] at h1
    go_enter Tryd.func45, Tryd.ntmps45
    go_wp2_with fail
    obtain ⟨mx, hm⟩ := HE.out.2.2
    refine (cutX_any 120 l mx _ (by omega) hm HC.out).mono ?_
    clear hm
    rintro e w1 ⟨rfl, nd, rfl⟩
    have E1 := Lib.hid (env_below HE.out (below_drewN (Below.refl _ _) nd) (Nat.le_refl _))
    have B1 := Lib.hid (below_drewN (Below.refl w.heap.size w) nd)
    by_cases x0 : x = []
    · have hNx : x ++ [49] = N := by rw [← HNN.out]; unfold numX; rw [if_pos (.inl x0)]
      have k0 : (bsOf x).toList.isEmpty = true := by rw [x0]; exact be_t
      rw [hNx] at h1
      clear hNx x0
      go_wp2_with fail
      refine (HRD.out _ E1.out).mono ?_
      rintro e w2 ⟨b2, (⟨a, k, hr, rfl⟩ | ⟨hr, rfl⟩)⟩
      · have HR := Lib.hid (show ftV l = some (a, k, true) by rw [HX.out, hr])
        have B2 := Lib.hid (B1.out.trans (b2.mono (Nat.le_refl _)))
        clear hr b2
        go_wp2_with fail
        go_ret
        exact ⟨by rw [HR.out]; rfl, B2.out⟩
      · have HR := Lib.hid (show ftV l = none by rw [HX.out, hr])
        have B2 := Lib.hid (B1.out.trans (b2.mono (Nat.le_refl _)))
        clear hr b2
        go_wp2_with fail
        go_ret
        exact ⟨by rw [HR.out]; rfl, B2.out⟩
    · have k0 : (bsOf x).toList.isEmpty = false := be_f x0
      by_cases x1 : x = [43]
      · have hNx : x ++ [49] = N := by rw [← HNN.out]; unfold numX; rw [if_pos (.inr (.inl x1))]
        have k1 := str_one.1 x1
        rw [hNx] at h1
        clear hNx x0 x1
        go_wp2_with fail
        refine (HRD.out _ E1.out).mono ?_
        rintro e w2 ⟨b2, (⟨a, k, hr, rfl⟩ | ⟨hr, rfl⟩)⟩
        · have HR := Lib.hid (show ftV l = some (a, k, true) by rw [HX.out, hr])
          have B2 := Lib.hid (B1.out.trans (b2.mono (Nat.le_refl _)))
          clear hr b2
          go_wp2_with fail
          go_ret
          exact ⟨by rw [HR.out]; rfl, B2.out⟩
        · have HR := Lib.hid (show ftV l = none by rw [HX.out, hr])
          have B2 := Lib.hid (B1.out.trans (b2.mono (Nat.le_refl _)))
          clear hr b2
          go_wp2_with fail
          go_ret
          exact ⟨by rw [HR.out]; rfl, B2.out⟩
      · have k1 := str_one.2 x1
        by_cases x2 : x = [45]
        · have hNx : x ++ [49] = N := by rw [← HNN.out]; unfold numX; rw [if_pos (.inr (.inr x2))]
          have k2 := str_one.1 x2
          rw [hNx] at h1
          clear hNx x0 x1 x2
          go_wp2_with fail
          refine (HRD.out _ E1.out).mono ?_
          rintro e w2 ⟨b2, (⟨a, k, hr, rfl⟩ | ⟨hr, rfl⟩)⟩
          · have HR := Lib.hid (show ftV l = some (a, k, true) by rw [HX.out, hr])
            have B2 := Lib.hid (B1.out.trans (b2.mono (Nat.le_refl _)))
            clear hr b2
            go_wp2_with fail
            go_ret
            exact ⟨by rw [HR.out]; rfl, B2.out⟩
          · have HR := Lib.hid (show ftV l = none by rw [HX.out, hr])
            have B2 := Lib.hid (B1.out.trans (b2.mono (Nat.le_refl _)))
            clear hr b2
            go_wp2_with fail
            go_ret
            exact ⟨by rw [HR.out]; rfl, B2.out⟩
        · have hNx : x = N := by rw [← HNN.out]; unfold numX; rw [if_neg]; rintro (h | h | h); exact x0 h; exact x1 h; exact x2 h
          have k2 := str_one.2 x2
          subst hNx
          clear x0 x1 x2 h1
          go_wp2_with fail
          refine (HRD.out _ E1.out).mono ?_
          rintro e w2 ⟨b2, (⟨a, k, hr, rfl⟩ | ⟨hr, rfl⟩)⟩
          · have HR := Lib.hid (show ftV l = some (a, k, true) by rw [HX.out, hr])
            have B2 := Lib.hid (B1.out.trans (b2.mono (Nat.le_refl _)))
            clear hr b2
            go_wp2_with fail
            go_ret
            exact ⟨by rw [HR.out]; rfl, B2.out⟩
          · have HR := Lib.hid (show ftV l = none by rw [HX.out, hr])
            have B2 := Lib.hid (B1.out.trans (b2.mono (Nat.le_refl _)))
            clear hr b2
            go_wp2_with fail
            go_ret
            exact ⟨by rw [HR.out]; rfl, B2.out⟩
end Go.Proofs.YtcennddgbpkclaaDoor
