/- The walk of the law FnPadicDigits: true for every code; below the old memory nothing has turned. (joined of several texts) -/
import Derived.Test.YtmkelfkbbdfjdaaDigImpl
import Derived.Test.YtmkelfkbbdfjdaaDigFrom2
import Derived.Test.YtmkelfkbbdfjdaaPadSpec3
import Derived.Test.YtmkelfkbbdfjdaaGcd
import Derived.Test.YtmkelfkbbdfjdaaDigList
import Derived.Test.YtmkelfkbbdfjdaaDigSum
import Derived.Test.YtmkelfkbbdfjdaaDrawPad2
import Derived.Test.YtmkelfkbbdfjdaaPadExp3
import Derived.Deep.DeepCutAuto
import Derived.OwnWalk
import Derived.Laws.OwnMore
import Derived.Test.YtmkelfkbbdfjdaaCommonLaw
import Derived.OpenShut
import Derived.Test.YtmkelfkbbdfjdaaPadFacts
namespace Go.Proofs.Ytmkelfkbbdfjdaa
open Go.RowKit
set_option linter.unusedVariables false
set_option maxRecDepth 20000
set_option linter.unusedSimpArgs false
def lowN (p v u : Int) : Int := if 0 ≤ v then 0 else u % pw p (-v)
def lowM (p v : Int) : Int := if 0 ≤ v then 1 else pw p (-v)
theorem specShift_any (p v u n k : Int) (w : World) :
    Calls Try.prog 14 #[.agg (P4 p v u n), .int .i64 k] w fun e w' => e = .returned (.tuple #[.agg (A4 (shiftQ p v u n k)), .int .i64 (shiftC p v u n k)]) ∧ Below w.heap.size w w' := by
  cases hx : padB p v u n
  · rw [show shiftQ p v u n k = (0, 0, 0, 0) by simp [shiftQ, hx], show shiftC p v u n k = 1 by simp [shiftC, hx]]
    go_enter Try.func14, Try.ntmps14
    go_wp2_with (first | (go_at_call 28; refine (specIsPadic_any _ _ _ _ _).mono ?_; rintro e wn ⟨rfl, hb⟩; (first | have K := k2_first hb | have K := k2_next K hb); obtain ⟨c0, c1, c2, c3⟩ := lies_four K.2.1; obtain ⟨cf0, cf1, cf2, cf3⟩ := lies_ice K.2.1; obtain ⟨d0, d1, d2, d3⟩ := lies_four K.2.2; obtain ⟨df0, df1, df2, df3⟩ := lies_ice K.2.2))
    refine bodyPost_ret (v := .tuple #[.agg (P4 0 0 0 0), .int .i64 1]) (by simp [results, Try.results14, go_sem, d0, d1, d2, d3]) rfl ?_
    exact ⟨rfl, below_set4 K.1 (by omega)⟩
  · cases hk : inB k (-60) 60
    · rw [show shiftQ p v u n k = (0, 0, 0, 0) by simp [shiftQ, hk], show shiftC p v u n k = 2 by simp [shiftC, hx, hk]]
      go_enter Try.func14, Try.ntmps14
      go_wp2_with (first | (go_at_call 28; refine (specIsPadic_any _ _ _ _ _).mono ?_; rintro e wn ⟨rfl, hb⟩; (first | have K := k2_first hb | have K := k2_next K hb); obtain ⟨c0, c1, c2, c3⟩ := lies_four K.2.1; obtain ⟨cf0, cf1, cf2, cf3⟩ := lies_ice K.2.1; obtain ⟨d0, d1, d2, d3⟩ := lies_four K.2.2; obtain ⟨df0, df1, df2, df3⟩ := lies_ice K.2.2) | (go_at_call 39; refine (in_any _ _ _ _).mono ?_; rw [hk]; rintro e wn ⟨rfl, rfl⟩))
      refine bodyPost_ret (v := .tuple #[.agg (P4 0 0 0 0), .int .i64 2]) (by simp [results, Try.results14, go_sem, d0, d1, d2, d3]) rfl ?_
      exact ⟨rfl, below_set4 K.1 (by omega)⟩
    · rw [show shiftQ p v u n k = resQ p (v + k) u n by simp [shiftQ, hx, hk], show shiftC p v u n k = limC p (v + k) u n by simp [shiftC, hx, hk]]
      have hk2 : -60 ≤ k ∧ k ≤ 60 := by simpa [inB] using hk
      obtain ⟨hk0, hk1⟩ := hk2
      have hh := padB_ok hx
      have hv0 := hh.2.1
      have hv1 := hh.2.2.1
      have hw : IntKind.i64.wrap (v + k) = v + k := IntWalk.i64_in _ (by omega)
      clear hh
      go_enter Try.func14, Try.ntmps14
      go_wp2_with (first | (go_at_call 28; refine (specIsPadic_any _ _ _ _ _).mono ?_; rintro e wn ⟨rfl, hb⟩; (first | have K := k2_first hb | have K := k2_next K hb); obtain ⟨c0, c1, c2, c3⟩ := lies_four K.2.1; obtain ⟨cf0, cf1, cf2, cf3⟩ := lies_ice K.2.1; obtain ⟨d0, d1, d2, d3⟩ := lies_four K.2.2; obtain ⟨df0, df1, df2, df3⟩ := lies_ice K.2.2) | (go_at_call 39; refine (in_any _ _ _ _).mono ?_; rw [hk]; rintro e wn ⟨rfl, rfl⟩) | (go_at_call 41; refine (l03Result_any _ _ _ _ _).mono ?_; rintro e wn ⟨rfl, hb⟩; (first | have K := k2_first hb | have K := k2_next K hb); obtain ⟨d0, d1, d2, d3⟩ := lies_four K.2.2; obtain ⟨df0, df1, df2, df3⟩ := lies_ice K.2.2))
      refine bodyPost_ret (v := .tuple #[.agg (A4 (resQ p (v + k) u n)), .int .i64 (limC p (v + k) u n)]) (by simp [results, Try.results14, go_sem, d0, d1, d2, d3]) rfl ?_
      exact ⟨rfl, below_set4 K.1 (by omega)⟩
/-- what is left of a number above its lowest digits is small -/
theorem high_lt {p v u n : Int} (h : POk p v u n) (he : 0 ≤ v + n) (hv : ¬ 0 ≤ v) : u / pw p (-v) < pw p (v + n) ∧ pw p (v + n) ≤ 1000000000 := by
  obtain ⟨hp2, hp97, hn0, hn1, hm0, hm1, hu0, hu1, hu2⟩ := pok_bd h
  have e := pw_add (p := p) (a := v + n) (b := -v) he (by omega)
  rw [show v + n + -v = n by omega] at e
  have g := pw_ge1 (p := p) (a := -v) hp2
  have hpart := pw_part (p := p) (n := n) (e := v + n) hp2 hm1 (by omega)
  exact ⟨Int.ediv_lt_of_lt_mul (by omega) (by rw [← e]; exact hu1), hpart.2⟩
end Go.Proofs.Ytmkelfkbbdfjdaa
namespace Go.Proofs.Ytmkelfkbbdfjdaa
open Go.RowKit
set_option linter.unusedVariables false
set_option maxRecDepth 20000
set_option linter.unusedSimpArgs false
theorem padAt_keep {A B : World} {b : Nat} {p v u n : Int} (h : PadAt A b p v u n) (hf : FrP A B) : PadAt B b p v u n := (hf _ _ _ h).trans h
theorem row_lower {w : World} {b b' : Nat} {T : TypeId} {sz : Nat} {v : Value} {n : Nat} {xs : List Value} (h : w.ownsRow b' T sz v n xs) (hle : b ≤ b') : w.ownsRow b T sz v n xs :=
  ⟨h.1, h.2.imp id fun ⟨g, cap, cur, e, hb, rest⟩ => ⟨g, cap, cur, e, Nat.le_trans hle hb, rest⟩⟩
set_option maxHeartbeats 800000 in
theorem l04Digits_any (p v u n : Int) (w : World) (h : POk p v u n) :
    Calls Try.prog 29 #[.agg (P4 p v u n)] w fun e w' => ∃ vl, e = .returned vl ∧ IntRow w.heap.size w' vl (digL p u n.toNat) ∧ Below w.heap.size w w' := by
  obtain ⟨i0, hi, hz0, hz1, hz2⟩ := info_parts Try.infoInt64
  have HI := Lib.hid hi
  have HZ0 := Lib.hid hz0
  have HZ1 := Lib.hid hz1
  have HZ2 := Lib.hid hz2
  have HK := Lib.hid h
  obtain ⟨hp2, hp97, hn0, hn1, _, _, hu0, _, hu2⟩ := pok_bd h
  have hv0 := h.2.1
  have hv1 := h.2.2.1
  have hb0 : PadAt (w.alloc (.cells (P4 p v u n) 25)) w.heap.size p v u n := World.alloc_heap_new w _
  have HB0 := Lib.hid (padAt_keep hb0 (frP_below (below_a1 (w.alloc (.cells (P4 p v u n) 25)) (.cells #[] 2))))
  have hr0 := intRow_made (w.alloc (.cells (P4 p v u n) 25))
  have hr1 := row_lower (b := w.heap.size) hr0 (by simp)
  rw [World.size_alloc] at hr1
  have HR0 := Lib.hid hr1
  clear hi hz0 hz1 hz2 h hb0 hr0 hr1
  go_enter Try.func29, Try.ntmps29
  go_wp2
  go_loopw [3, 4] (fun s i wr => ∃ I : Nat, i = .int .i64 I ∧ (I : Int) ≤ n ∧ PadAt wr w.heap.size p v u n ∧ IntRow w.heap.size wr s (digL p u I) ∧ Below w.heap.size w wr) (fun _ i _ => n.toNat - (intOf i).toNat)
  case atStart => exact ⟨0, rfl, hn0, HB0.out, HR0.out, below_a2 w _ _⟩
  case round =>
    obtain ⟨I, rfl, hI, hb, hrow, hbel⟩ := hrel
    obtain ⟨c0, c1, c2, c3⟩ := padAt_four hb
    have HB := Lib.hid hb
    have HW := Lib.hid hrow
    have HL := Lib.hid hbel
    clear hb hrow hbel HB0 HR0
    by_cases hlt : (I : Int) < n
    · have HS := Lib.hid (digL_succ p u I)
      have hlen : (digL p u I).length ≤ 30 := by rw [digL_length]; omega
      have HD := Lib.hid (fun w => (l03Digit_any p v u n (v + I) w HK.out (by omega)).mono fun e w' (h : e = .returned (.int .i64 (if v + (I : Int) < v then 0 else u / pw p (v + I - v) % p)) ∧ _) => (show e = .returned (.int .i64 (u / pw p (I : Int) % p)) ∧ Below w.heap.size w w' by
        rw [if_neg (by omega), show v + (I : Int) - v = I by omega] at h; exact h))
      have hw1 : IntKind.i64.wrap (v + (I : Int)) = v + I := IntWalk.i64_in _ (by omega)
      generalize u / pw p (I : Int) % p = y at *
      clear HK
      go_wp2_with (first
        | (go_at_call 56; refine (HD.out _).mono ?_; rintro e w2 ⟨rfl, hb2⟩; have hrw : IntRow w.heap.size w2 _ _ := row_below HW.out hb2 (Nat.le_refl _); have hbl := HL.out.trans (hb2.mono HL.out.size); have hpd := padAt_keep HB.out (frP_below hb2); have hsz := hb2.size; have hsz0 := HL.out.size)
        | (at_builtin; refine wpList_append_own _ rfl (.tmp 12) (.tmp 19) 27 rfl w.heap.size 2 i0 (.int .i64 0) 1 8 Try.underlying27 HI.out HZ0.out HZ1.out HZ2.out rfl (by decide) _ _ _ rfl (hrw.alloc _) ⟨w2.heap.size, 0, none⟩ 1 1 [.int .i64 y] rfl rfl ?c1 ?c2 ?c3 ?c4 ?c5 ?_))
      case c1 => first | exact news_one _ _ _ | simp [Addr.add]
      case c2 => first | exact one_one _ | rfl
      case c3 => unfold maxLen; omega
      case c4 => omega
      case c5 => first | omega | (simp; omega)
      intro v' w3 hown hgrow _
      have hF := frP_trans (frP_below (below_a1 w2 (.cells #[.int .i64 y] 2))) (frP_row (hrw.alloc _) (by decide) hgrow)
      have hpd3 := Lib.hid (padAt_keep hpd hF)
      have HO := Lib.hid (intRow_snoc hown)
      have HG := Lib.hid (((hbl.alloc (by omega) (.cells #[.int .i64 y] 2)).grown hgrow (by simp; omega) (fun k hk => (World.ownsRow.lt hrw k hk).1) : Below w.heap.size w w3))
      clear hown hgrow hF hpd hrw hbl
      go_wp2
      go_roundw
      case rel => exact ⟨I + 1, by go_num, by omega, hpd3.out, by rw [HS.out]; exact HO.out, HG.out⟩
      case measure => simp [intOf]; omega
    · have hk2 : I = n.toNat := by omega
      have HI2 := Lib.hid hk2
      clear hk2
      obtain ⟨o, c, hv⟩ := row_slice HW.out
      subst hv
      go_wp2
      go_ret
      exact ⟨_, rfl, by rw [← HI2.out]; exact HW.out, HL.out⟩
theorem specDigits_any (p v u n : Int) (w : World) :
    Calls Try.prog 8 #[.agg (P4 p v u n)] w (IntPost (digsL p v u n) (negC p v u n) w) := by
  cases hx : padB p v u n
  · rw [show digsL p v u n = [] by simp [digsL, hx], show negC p v u n = 1 by simp [negC, hx]]
    go_enter Try.func8, Try.ntmps8
    go_wp2_with (go_at_call 28; refine (specIsPadic_any _ _ _ _ _).mono ?_; rw [hx]; rintro e wn ⟨rfl, hb⟩; have K := k1_first hb)
    go_ret2
    exact ⟨_, rfl, intRow_nil _ _, K.1⟩
  · rw [show digsL p v u n = digL p u n.toNat by simp [digsL, hx], show negC p v u n = 0 by simp [negC, hx]]
    have H := Lib.hid (padB_ok hx)
    go_enter Try.func8, Try.ntmps8
    go_wp2_with (first
      | (go_at_call 28; refine (specIsPadic_any _ _ _ _ _).mono ?_; rw [hx]; rintro e wn ⟨rfl, hb⟩; have K := k1_first hb; obtain ⟨c0, c1, c2, c3⟩ := lies_four K.2)
      | (go_at_call 29; refine (l04Digits_any _ _ _ _ _ H.out).mono ?_; rintro e wm ⟨vl, rfl, hrow, hb2⟩; obtain ⟨o, c, rfl⟩ := row_slice hrow))
    go_ret2
    exact ⟨_, rfl, row_lower hrow K.1.size, K.1.trans (hb2.mono K.1.size)⟩
/-- the sum of a list in a row -/
theorem l01Sum_row (o : Option Addr) (g n c : Nat) (l : List Int) (w : World) (ho : 0 < n → o = some ⟨g, 0, none⟩) (hl : n = l.length) (hn : n ≤ 40) (hd : ∀ d ∈ l, 0 ≤ d ∧ d < 97)
    (hc : ∀ k, k < n → w.cell? ⟨g, k, none⟩ = some (.int .i64 (l.getD k 0))) :
    Calls Try.prog 43 #[.slice o n c] w fun e w' => e = .returned (.int .i64 (sumL l)) ∧ w = w' := by
  have HO := Lib.hid ho
  have HC := Lib.hid hc
  have HL := Lib.hid hl
  have HD := Lib.hid hd
  clear ho hc hl hd
  go_enter Try.func43, Try.ntmps43
  go_wp2
  go_loop [3, 4] (fun s i => ∃ k : Nat, k ≤ n ∧ i = .int .i64 k ∧ s = .int .i64 (sumL (l.take k))) (fun _ i => n - (intOf i).toNat)
  case atStart => exact ⟨0, Nat.zero_le _, rfl, rfl⟩
  case round =>
    obtain ⟨k, hk, rfl, rfl⟩ := hrel
    obtain ⟨a0, a1⟩ := sumL_bd (p := 97) (l := l.take k) (by omega) (by rw [List.length_take]; omega) fun d hd => HD.out d (List.mem_of_mem_take hd)
    by_cases hlt : k < n
    · have hkl : k < l.length := by have := HL.out; omega
      have hog := HO.out (by omega)
      subst hog
      have a2 := HC.out k hlt
      have hx := HD.out (l.getD k 0) (by simp [List.getD, hkl])
      have hs : sumL (l.take (k + 1)) = sumL (l.take k) + l.getD k 0 := by
        rw [List.take_succ_eq_append_getElem hkl, sumL_append]; simp [List.getD, hkl]
      have HS := Lib.hid hs
      generalize l.getD k 0 = x at *
      generalize sumL (l.take k) = s at *
      have hw : IntKind.i64.wrap (s + x) = s + x := IntWalk.i64_in _ (by omega)
      clear hs hkl
      go_wp2
      exact ⟨⟨k + 1, by omega, by go_num, by rw [HS.out]⟩, by simp [intOf]; omega⟩
    · have hkn : k = n := by omega
      have HE := Lib.hid (show sumL (l.take k) = sumL l by rw [List.take_of_length_le (by have := HL.out; omega)])
      clear hkn
      go_wp2
      go_ret
      exact ⟨ret_int HE.out, rfl⟩
theorem row_form {base : Nat} {w : World} {v : Value} {l : List Int} (h : IntRow base w v l) :
    ∃ o g c, v = .slice o l.length c ∧ (0 < l.length → o = some ⟨g, 0, none⟩) ∧ ∀ k, k < l.length → w.cell? ⟨g, k, none⟩ = some (.int .i64 (l.getD k 0)) := by
  rcases row_shape h with ⟨h0, o, c, rfl⟩ | ⟨h0, g, c, rfl, hb, hg⟩
  · exact ⟨o, 0, c, by rw [h0], fun h => by omega, fun k hk => by omega⟩
  · exact ⟨_, g, c, rfl, fun _ => rfl, int_cells h⟩
theorem l01Sum_any {base : Nat} {w : World} {v : Value} {l : List Int} (h : IntRow base w v l) (hn : l.length ≤ 40) (hd : ∀ d ∈ l, 0 ≤ d ∧ d < 97) :
    Calls Try.prog 43 #[v] w fun e w' => e = .returned (.int .i64 (sumL l)) ∧ w = w' := by
  obtain ⟨o, g, c, rfl, ho, hc⟩ := row_form h
  exact l01Sum_row o g l.length c l w ho rfl hn hd hc
theorem digL_all {p v u n : Int} (h : POk p v u n) : (digL p u n.toNat).length ≤ 40 ∧ ∀ d ∈ digL p u n.toNat, 0 ≤ d ∧ d < 97 := by
  obtain ⟨hp2, hp97, hn0, hn1, _⟩ := pok_bd h
  refine ⟨by rw [digL_length]; omega, fun d hd => ?_⟩
  have := digL_bd hp2 hd
  omega
theorem specSum_any (p v u n : Int) (w : World) :
    Calls Try.prog 17 #[.agg (P4 p v u n)] w fun e w' => e = .returned (.tuple #[.int .i64 (sumV p v u n), .int .i64 (negC p v u n)]) ∧ Below w.heap.size w w' := by
  cases hx : padB p v u n
  · rw [show sumV p v u n = 0 by simp [sumV, hx], show negC p v u n = 1 by simp [negC, hx]]
    go_enter Try.func17, Try.ntmps17
    go_wp2_with (go_at_call 28; refine (specIsPadic_any _ _ _ _ _).mono ?_; rw [hx]; rintro e wn ⟨rfl, hb⟩; have K := k1_first hb)
    go_ret2
    exact ⟨rfl, K.1⟩
  · rw [show sumV p v u n = sumL (digL p u n.toNat) by simp [sumV, hx], show negC p v u n = 0 by simp [negC, hx]]
    have H := Lib.hid (padB_ok hx)
    obtain ⟨l1, l2⟩ := digL_all H.out
    have HA := Lib.hid (And.intro l1 l2)
    clear l1 l2
    go_enter Try.func17, Try.ntmps17
    go_wp2_with (first
      | (go_at_call 28; refine (specIsPadic_any _ _ _ _ _).mono ?_; rw [hx]; rintro e wn ⟨rfl, hb⟩; have K := k1_first hb; obtain ⟨c0, c1, c2, c3⟩ := lies_four K.2)
      | (go_at_call 29; refine (l04Digits_any _ _ _ _ _ H.out).mono ?_; rintro e wm ⟨vl, rfl, hrow, hb2⟩)
      | (go_at_call 43; refine (l01Sum_any hrow HA.out.1 HA.out.2).mono ?_; rintro e wl ⟨rfl, rfl⟩))
    go_ret2
    exact ⟨rfl, K.1.trans (hb2.mono K.1.size)⟩
end Go.Proofs.Ytmkelfkbbdfjdaa
namespace Go.Proofs.Ytmkelfkbbdfjdaa
open Go.RowKit
set_option linter.unusedVariables false
set_option maxRecDepth 20000
set_option linter.unusedSimpArgs false
theorem all_take {f : Int → Bool} {l : List Int} {k : Nat} (hk : k < l.length) : (l.take (k + 1)).all f = ((l.take k).all f && f (l.getD k 0)) := by
  rw [List.take_succ_eq_append_getElem hk, List.all_append]
  simp [List.getD, hk]
/-- the modulus for a number of digits, 0 if there are too many -/
def manyM (p : Int) (n : Nat) : Int := if pw p n ≤ 1000000000 then pw p n else 0
theorem l02Many_any (p : Int) (n : Nat) (w : World) (hs : smallB p = true) (hn : n ≤ 40) :
    Calls Try.prog 40 #[.int .i64 p, .int .i64 n] w fun e w' => e = .returned (.int .i64 (manyM p n)) ∧ w = w' := by
  obtain ⟨hp2, hp97⟩ := smallB_bd hs
  by_cases h0 : n = 0
  · subst h0
    have e : manyM p 0 = pw p ((0 : Nat) : Int) := by unfold manyM; rw [if_pos]; simp [pw]
    rw [e]
    exact l02Pow_any p _ w hp2 hp97 (by omega) (by simp [pw])
  · refine (l02Modulus_any p n w hs (by omega) (by omega)).mono fun e w' h => ⟨?_, h.2⟩
    rw [h.1]
    unfold manyM
    by_cases h1 : pw p n ≤ 1000000000
    · rw [if_pos h1, ringM_pw hs (by omega) h1]
    · rw [if_neg h1]
      congr 2
      refine Classical.byContradiction fun hr => ?_
      have e := pw_ringM hr
      obtain ⟨_, _, _, _, _, h2, _⟩ := ringM_bd hr
      omega
set_option maxHeartbeats 1600000 in
theorem specFrom_row (p place : Int) (o : Option Addr) (g n c : Nat) (l : List Int) (w : World) (ho : 0 < n → o = some ⟨g, 0, none⟩) (hl : n = l.length) (hn : n ≤ 1100000) (hg : 0 < n → g < w.heap.size)
    (hc : ∀ k, k < n → w.cell? ⟨g, k, none⟩ = some (.int .i64 (l.getD k 0))) :
    Calls Try.prog 11 #[.int .i64 p, .int .i64 place, .slice o n c] w fun e w' => e = .returned (.tuple #[.agg (A4 (fromQ p place l)), .int .i64 (fromC p place l)]) ∧ Below w.heap.size w w' := by
  cases hs : smallB p
  · rw [show fromQ p place l = (0, 0, 0, 0) by simp [fromQ, hs], show fromC p place l = 1 by simp [fromC, hs]]
    go_enter Try.func11, Try.ntmps11
    go_wp2_with (go_at_call 38; refine (l01Small_any _ _).mono ?_; rw [hs]; rintro e w' ⟨rfl, rfl⟩)
    refine bodyPost_ret (v := .tuple #[.agg (P4 0 0 0 0), .int .i64 1]) (by simp [results, Try.results11, go_sem]) rfl ?_
    exact ⟨rfl, below_a1 _ _⟩
  · obtain ⟨hp2, hp97⟩ := smallB_bd hs
    have HO := Lib.hid ho
    have HL := Lib.hid hl
    have HC : Hid (∀ k, k < n → (w.alloc (.cells (P4 0 0 0 0) 25)).cell? ⟨g, k, none⟩ = some (.int .i64 (l.getD k 0))) :=
      Lib.hid fun k hk => by rw [(below_a1 w (.cells (P4 0 0 0 0) 25)).cell (p := ⟨g, k, none⟩) (hg (by omega))]; exact hc k hk
    clear ho hl hc hg
    go_enter Try.func11, Try.ntmps11
    go_wp2_with (first | (go_at_call 38; refine (l01Small_any _ _).mono ?_; rw [hs]; rintro e w' ⟨rfl, rfl⟩) | (go_at_call 39; refine (in_any _ _ _ _).mono ?_; rintro e w' ⟨rfl, rfl⟩))
    go_loop [8, 9] (fun b i => ∃ k : Nat, k ≤ n ∧ i = .int .i64 k ∧ b = .bool (inB place (-60) 60 && (l.take k).all (digB p))) (fun _ i => n - (intOf i).toNat)
    case atStart => exact ⟨0, Nat.zero_le _, rfl, by simp⟩
    case round =>
      obtain ⟨k, hk, rfl, rfl⟩ := hrel
      by_cases hlt : k < n
      · have hkl : k < l.length := by have := HL.out; omega
        have hog := HO.out (by omega)
        subst hog
        have a2 := HC.out k hlt
        have HS := Lib.hid (all_take (f := digB p) hkl)
        generalize l.getD k 0 = x at *
        generalize (l.take k).all (digB p) = t at *
        clear hkl
        cases ht : (inB place (-60) 60 && t)
        · have HE := Lib.hid (show (inB place (-60) 60 && (l.take (k + 1)).all (digB p)) = false by rw [HS.out, ← Bool.and_assoc, ht, Bool.false_and])
          clear ht
          go_wp2
          exact ⟨⟨k + 1, by omega, by go_num, by rw [HE.out]⟩, by simp [intOf]; omega⟩
        · have HE := Lib.hid (show (inB place (-60) 60 && (l.take (k + 1)).all (digB p)) = inB x 0 (p - 1) by rw [HS.out, ← Bool.and_assoc, ht, Bool.true_and]; rfl)
          clear ht
          go_wp2_with (go_at_call 39; refine (in_any _ _ _ _).mono ?_; rintro e w' ⟨rfl, rfl⟩)
          exact ⟨⟨k + 1, by omega, by go_num, by rw [HE.out]⟩, by simp [intOf]; omega⟩
      · have hkn : k = n := by omega
        have hta : (inB place (-60) 60 && (l.take k).all (digB p)) = digsB p place l := by
          rw [List.take_of_length_le (by have := HL.out; omega)]; rfl
        rw [hta]
        clear hkn hta
        cases hd : digsB p place l
        · have HQ := Lib.hid (And.intro (show fromQ p place l = (0, 0, 0, 0) by simp [fromQ, hd]) (show fromC p place l = 2 by simp [fromC, hs, hd]))
          go_wp2
          refine bodyPost_ret (v := .tuple #[.agg (P4 0 0 0 0), .int .i64 2]) (by simp [results, Try.results11, go_sem]) rfl ?_
          rw [HQ.out.1, HQ.out.2]
          exact ⟨rfl, below_a1 _ _⟩
        · have hk60 : -60 ≤ place ∧ place ≤ 60 := by
            unfold digsB at hd
            simp only [Bool.and_eq_true] at hd
            simpa [inB] using hd.1
          obtain ⟨hk0, hk1⟩ := hk60
          have hall : l.all (digB p) = true := by
            unfold digsB at hd
            simp only [Bool.and_eq_true] at hd
            exact hd.2
          by_cases h40 : 40 < n
          · have hm : ¬ pw p (l.length : Int) ≤ 1000000000 := fun h => by have := pw_29 hp2 h; have := HL.out; omega
            have HQ := Lib.hid (And.intro (show fromQ p place l = (0, 0, 0, 0) by simp [fromQ, hm]) (show fromC p place l = 3 by simp [fromC, hs, hd, hm]))
            clear hd hall hm
            go_wp2
            refine bodyPost_ret (v := .tuple #[.agg (P4 0 0 0 0), .int .i64 3]) (by simp [results, Try.results11, go_sem]) rfl ?_
            rw [HQ.out.1, HQ.out.2]
            exact ⟨rfl, below_a1 _ _⟩
          · by_cases hm : pw p (l.length : Int) ≤ 1000000000
            · have hpos := pw_ge1 (p := p) (a := (l.length : Int)) hp2
              have hmm : manyM p n = pw p (l.length : Int) := by unfold manyM; rw [HL.out, if_pos hm]
              have HMM := Lib.hid fun w => (l02Many_any p n w hs (by omega)).mono fun e w' h => (show e = .returned (.int .i64 (pw p (l.length : Int))) ∧ w = w' by rw [← hmm]; exact h)
              have HD := Lib.hid hall
              have HM := Lib.hid hm
              have HQ : Hid (fromQ p place l = resQ p (makeT p place (horner p l) (place + l.length)).1 (makeT p place (horner p l) (place + l.length)).2.1 (makeT p place (horner p l) (place + l.length)).2.2 ∧ fromC p place l = limC p (makeT p place (horner p l) (place + l.length)).1 (makeT p place (horner p l) (place + l.length)).2.1 (makeT p place (horner p l) (place + l.length)).2.2) := Lib.hid (by
                simp [fromQ, fromC, hs, hd, hm])
              clear hd hall hmm
              have hz : (pw p (l.length : Int) == 0) = false := by simp; omega
              generalize hM : pw p (l.length : Int) = M at *
              have HMe := Lib.hid hM
              clear hM
              go_wp2_with (go_at_call 40; refine (HMM.out _).mono ?_; rintro e w' ⟨rfl, rfl⟩)
              go_loop [10, 11] (fun a i => ∃ (j : Nat) (x : Int), j ≤ n ∧ i = .int .i64 x ∧ x = (n : Int) - 1 - j ∧ a = .int .i64 (horner p (l.drop (l.length - j)))) (fun _ i => (intOf i + 1).toNat)
              case atStart => exact ⟨0, (n : Int) - 1, Nat.zero_le _, rfl, by omega, by simp [horner]⟩
              case round =>
                obtain ⟨j, x, hj, rfl, hx, rfl⟩ := hrel
                by_cases hjn : j < n
                · have hjl : j < l.length := by have := HL.out; omega
                  obtain ⟨m, hm2⟩ : ∃ m : Nat, x = m := ⟨x.toNat, by omega⟩
                  subst hm2
                  have hmn : m < n := by omega
                  have hme : m = l.length - 1 - j := by have := HL.out; omega
                  have hog := HO.out (by omega)
                  subst hog
                  have a2 := HC.out m hmn
                  have hh := horner_drop p hjl
                  rw [← hme] at hh
                  obtain ⟨b0, b1⟩ := horner_drop_bd (k := j) hp2 HD.out (by omega) (by rw [HMe.out]; omega)
                  obtain ⟨b2, b3⟩ := horner_drop_bd (k := j + 1) hp2 HD.out (by omega) (by rw [HMe.out]; omega)
                  rw [hh] at b2 b3
                  have hd0 : 0 ≤ l.getD m 0 ∧ l.getD m 0 < p := by
                    have := List.all_eq_true.1 HD.out (l.getD m 0) (by simp [List.getD, show m < l.length by omega])
                    simp only [digB, inB, Bool.and_eq_true, decide_eq_true_eq] at this
                    omega
                  have HH := Lib.hid hh
                  generalize horner p (l.drop (l.length - j)) = a at *
                  generalize l.getD m 0 = y at *
                  have hm0 := Int.mul_nonneg b0 (show 0 ≤ p by omega)
                  rw [Int.mul_comm a p] at *
                  have hw1 : IntKind.i64.wrap (p * a) = p * a := IntWalk.i64_in _ (by omega)
                  have hw2 : IntKind.i64.wrap (p * a + y) = p * a + y := IntWalk.i64_in _ (by omega)
                  have hge : (0 : Int) ≤ (m : Int) := by omega
                  have hm1 : (m : Int) ≤ 1100000 := by omega
                  have HX := Lib.hid hx
                  clear hx hme hh hjl
                  go_wp2
                  exact ⟨⟨j + 1, (m : Int) - 1, by omega, rfl, by have := HX.out; omega, by rw [HH.out, Int.mul_comm]⟩, by simp [intOf]⟩
                · have hjn2 : j = n := by omega
                  have hx1 : x < 0 := by omega
                  have he : horner p (l.drop (l.length - j)) = horner p l := by rw [show l.length - j = 0 by have := HL.out; omega, List.drop_zero]
                  rw [he]
                  obtain ⟨b0, b1⟩ := horner_drop_bd (k := l.length) hp2 HD.out (Nat.le_refl _) (by rw [HMe.out]; omega)
                  rw [Nat.sub_self, List.drop_zero] at b0 b1
                  have hnl : (n : Int) = l.length := by have := HL.out; omega
                  have HT := fun w => l03Make_any p place (horner p l) (place + l.length) w hp2 hp97 (by omega) (by omega) (by omega) (by rw [show place + (l.length : Int) - place = l.length by omega, HMe.out]; omega) b0
                  rw [← hnl] at HT
                  have hQ2 := HQ.out
                  rw [← hnl] at hQ2
                  generalize makeT p place (horner p l) (place + n) = z at *
                  generalize horner p l = h at *
                  replace HT := Lib.hid HT
                  replace HQ := Lib.hid hQ2
                  have hw1 : IntKind.i64.wrap (place + (n : Int)) = place + n := IntWalk.i64_in _ (by omega)
                  clear hjn2 he hnl hQ2
                  go_wp2_with (first | (go_at_call 42; refine (HT.out _).mono ?_; rintro e wn ⟨rfl, hb⟩; have K := k1_first hb) | (go_at_call 41; refine (l03Result_any _ _ _ _ _).mono ?_; rintro e wn ⟨rfl, hb⟩; have K := k1_next K hb; obtain ⟨c0, c1, c2, c3⟩ := lies_four K.2; obtain ⟨cf0, cf1, cf2, cf3⟩ := lies_ice K.2))
                  refine bodyPost_ret (v := .tuple #[.agg (A4 (resQ p z.1 z.2.1 z.2.2)), .int .i64 (limC p z.1 z.2.1 z.2.2)]) (by simp [results, Try.results11, go_sem, c0, c1, c2, c3]) rfl ?_
                  rw [HQ.out.1, HQ.out.2]
                  exact ⟨rfl, below_set4 K.1 (by omega)⟩
            · have HMM := Lib.hid fun w => (l02Many_any p n w hs (by omega)).mono fun e w' h => (show e = .returned (.int .i64 0) ∧ w = w' by
                rw [show manyM p n = 0 by unfold manyM; rw [HL.out, if_neg hm]] at h; exact h)
              have HQ := Lib.hid (And.intro (show fromQ p place l = (0, 0, 0, 0) by simp [fromQ, hm]) (show fromC p place l = 3 by simp [fromC, hs, hd, hm]))
              clear hd hall hm
              go_wp2_with (go_at_call 40; refine (HMM.out _).mono ?_; rintro e w' ⟨rfl, rfl⟩)
              refine bodyPost_ret (v := .tuple #[.agg (P4 0 0 0 0), .int .i64 3]) (by simp [results, Try.results11, go_sem]) rfl ?_
              rw [HQ.out.1, HQ.out.2]
              exact ⟨rfl, below_a1 _ _⟩
theorem specFrom_any {base : Nat} {w : World} {v : Value} {l : List Int} (p place : Int) (h : IntRow base w v l) (hl : l.length ≤ 1100000) :
    Calls Try.prog 11 #[.int .i64 p, .int .i64 place, v] w fun e w' => e = .returned (.tuple #[.agg (A4 (fromQ p place l)), .int .i64 (fromC p place l)]) ∧ Below w.heap.size w w' := by
  rcases row_shape h with ⟨h0, o, c, rfl⟩ | ⟨h0, g, c, rfl, hb, hg⟩
  · exact specFrom_row p place o 0 0 c l w (fun h => by omega) h0.symm (by omega) (fun h => by omega) (fun k hk => by omega)
  · exact specFrom_row p place _ g l.length c l w (fun _ => rfl) rfl hl (fun _ => hg) (int_cells h)
end Go.Proofs.Ytmkelfkbbdfjdaa
namespace Go.Proofs.Ytmkelfkbbdfjdaa
open Go.RowKit
set_option linter.unusedVariables false
set_option maxRecDepth 20000
set_option linter.unusedSimpArgs false
theorem drawDigits_any (o : Option Addr) (len cap : Nat) (w : World) (hl : len ≤ 4096) (hc : CodeIn w o len) :
    Calls Try.prog 6 #[.slice o len cap] w (OnePad w) := by
  have HC := Lib.hid (codeIn_below (B := w.heap.size) hc (show Below w.heap.size w (w.alloc (.cells (P4 0 0 0 0) 25)) from below_a1 w _))
  have HC0 := Lib.hid hc
  clear hc
  go_enter Try.func6, Try.ntmps6
  go_wp2_with fail
  refine (from_any _ _ _ _ hl HC.out).mono ?_
  rintro e w1 ⟨q, rfl, hq, hs1, hb1⟩
  have K := k1_next (k1_new w (P4 0 0 0 0)  25 ) hb1
  have D : DD o len cap q 1 w w1 := ⟨hs1, K.1, by simpa using hq⟩
  clear hs1 hb1 hq
  go_wp2_with fail
  refine (padDraw_any o len cap q _ D.1).mono ?_
  rintro e w2 ⟨p, v, u, n, rfl, _, _, _, _, _, _, _, _, hs2, hg2⟩
  have K2 := k1_grown K hg2 D.2.2
  obtain ⟨c0, c1, c2, c3⟩ := lies_four K2.2
  obtain ⟨cf0, cf1, cf2, cf3⟩ := lies_ice K2.2
  clear hs2 hg2 K D
  go_wp2
  refine bodyPost_ret (v := .agg (P4 p v u n)) (by simp [results, Try.results6, go_sem, c0, c1, c2, c3]) rfl ?_
  exact ⟨_, _, _, _, rfl, below_set4 K2.1 (by omega)⟩
theorem drawSumD_any (o : Option Addr) (len cap : Nat) (w : World) (hl : len ≤ 4096) (hc : CodeIn w o len) :
    Calls Try.prog 15 #[.slice o len cap] w (OnePad w) := by
  have HC := Lib.hid (codeIn_below (B := w.heap.size) hc (show Below w.heap.size w (w.alloc (.cells (P4 0 0 0 0) 25)) from below_a1 w _))
  have HC0 := Lib.hid hc
  clear hc
  go_enter Try.func15, Try.ntmps15
  go_wp2_with fail
  refine (from_any _ _ _ _ hl HC.out).mono ?_
  rintro e w1 ⟨q, rfl, hq, hs1, hb1⟩
  have K := k1_next (k1_new w (P4 0 0 0 0)  25 ) hb1
  have D : DD o len cap q 1 w w1 := ⟨hs1, K.1, by simpa using hq⟩
  clear hs1 hb1 hq
  go_wp2_with fail
  refine (padDraw_any o len cap q _ D.1).mono ?_
  rintro e w2 ⟨p, v, u, n, rfl, _, _, _, _, _, _, _, _, hs2, hg2⟩
  have K2 := k1_grown K hg2 D.2.2
  obtain ⟨c0, c1, c2, c3⟩ := lies_four K2.2
  obtain ⟨cf0, cf1, cf2, cf3⟩ := lies_ice K2.2
  clear hs2 hg2 K D
  go_wp2
  refine bodyPost_ret (v := .agg (P4 p v u n)) (by simp [results, Try.results15, go_sem, c0, c1, c2, c3]) rfl ?_
  exact ⟨_, _, _, _, rfl, below_set4 K2.1 (by omega)⟩
theorem drawShift_any (o : Option Addr) (len cap : Nat) (w : World) (hl : len ≤ 4096) (hc : CodeIn w o len) :
    Calls Try.prog 12 #[.slice o len cap] w (PadInt w) := by
  have HC := Lib.hid (codeIn_below (B := w.heap.size) hc (show Below w.heap.size w (w.alloc (.cells (P4 0 0 0 0) 25)) from below_a1 w _))
  have HC0 := Lib.hid hc
  clear hc
  go_enter Try.func12, Try.ntmps12
  go_wp2_with fail
  refine (from_any _ _ _ _ hl HC.out).mono ?_
  rintro e w1 ⟨q, rfl, hq, hs1, hb1⟩
  have K := k1_next (k1_new w (P4 0 0 0 0)  25 ) hb1
  have D : DD o len cap q 1 w w1 := ⟨hs1, K.1, by simpa using hq⟩
  clear hs1 hb1 hq
  go_wp2_with fail
  refine (padDraw_any o len cap q _ D.1).mono ?_
  rintro e w2 ⟨p, v, u, n, rfl, hp0, hp1, hv0, hv1, hu0, hu1, hn0, hn1, hs2, hg2⟩
  replace K := k1_grown K hg2 D.2.2
  replace D := dd_next D hs2 hg2
  clear hs2 hg2
  go_upto_region 3 with fail
  have Lx := lies_new w2 (P4 p v u n) 25
  have hlx : q < w2.heap.size := src_lt D.1
  replace D := dd_alloc D (.cells (P4 p v u n) 25)
  replace K := k1_next K (below_a1 w2 (.cells (P4 p v u n) 25))
  generalize w2.alloc (.cells (P4 p v u n) 25) = Wx at Lx D K ⊢
  obtain ⟨bx, hbx⟩ : ∃ b, w2.heap.size = b := ⟨_, rfl⟩
  rw [hbx] at Lx hlx ⊢
  clear hbx
  refine wp_region_held_drew (S := fun w' => Lies w' bx (P4 p v u n)) (by kernel_rfl) Lx (fun hHeld => ?_)
  replace D := dd_drew D
  replace K := k1_drew K
  generalize World.drew Wx = W1 at D K hHeld ⊢
  refine take_at (i := 0) (d := 10) (v := .agg #[.int .i64 p, .int .i64 v, .int .i64 u, .int .i64 n]) rfl rfl (by kernel_rfl) (by kernel_rfl) (by kernel_rfl) (fun _ _ _ h => h) (Or.inl ⟨by rfl, ?_⟩) hHeld ?_
  · intro w' hS
    obtain ⟨k0, k1, k2, k3⟩ := lies_four hS
    go_simp
  try simp only [Act.put, List.setIfInBounds_toArray, List.set_cons_zero, List.set_cons_succ]
  refine take_at (i := 1) (d := 11) (v := .pointer (some ⟨q, 0, none⟩)) rfl rfl (by kernel_rfl) (by kernel_rfl) (by kernel_rfl) (fun _ _ _ h => h) (Or.inl ⟨by rfl, ?_⟩) hHeld ?_
  · intro w' hS; go_simp
  try simp only [Act.put, List.setIfInBounds_toArray, List.set_cons_zero, List.set_cons_succ]
  refine take_at (i := 2) (d := 12) (v := .pointer (some ⟨q, 0, none⟩)) rfl rfl (by kernel_rfl) (by kernel_rfl) (by kernel_rfl) (fun _ _ _ h => h) (Or.inl ⟨by rfl, ?_⟩) hHeld ?_
  · intro w' hS; go_simp
  try simp only [Act.put, List.setIfInBounds_toArray, List.set_cons_zero, List.set_cons_succ]
  refine wpAnyH_ready (rs := [3]) (by kernel_rfl) (by simp) ?_
  refine AllReadyH.cons rfl (fun K' hK => ?_) AllReadyH.nil
  go_simp
  refine (next_any _ _ _ _ _ _ (by omega) D.1).mono ?_
  rintro e w3 ⟨r, rfl, r0, r1, hs3, hg3, hz3⟩
  go_simp
  refine hK.out _ _ (lies_grown hHeld hg3 (by omega)) (fun hHeld => ?_)
  clear hK K'
  try simp only [Act.put, List.setIfInBounds_toArray, List.set_cons_zero, List.set_cons_succ]
  have r2 : r < 21 := by omega
  have hw1 := IntWalk.i64_in (r - 10) (by omega)
  replace K := k1_grown K hg3 D.2.2
  replace D := dd_next D hs3 hg3
  clear hs3 hg3 hz3 r1
  refine take_at (i := 4) (d := 14) (v := .int .i64 (r - 10)) rfl rfl (by kernel_rfl) (by kernel_rfl) (by kernel_rfl) (fun _ _ _ h => h) (Or.inl ⟨by rfl, ?_⟩) hHeld ?_
  · intro w' hS; go_simp
  try simp only [Act.put, List.setIfInBounds_toArray, List.set_cons_zero, List.set_cons_succ]
  have HX := hHeld
  refine wpAnyH_ready (rs := [5]) (by kernel_rfl) (by simp) ?_
  refine AllReadyH.cons rfl (fun K' hK => ?_) AllReadyH.nil
  go_simp
  refine hK.out _ _ (lies_alloc hHeld _) (fun hHeld => ?_)
  clear hK K'
  try simp only [Act.put, List.setIfInBounds_toArray, List.set_cons_zero, List.set_cons_succ]
  refine wpAnyH_ready (rs := [6]) (by kernel_rfl) (by simp) ?_
  refine AllReadyH.cons rfl (fun K' hK => ?_) AllReadyH.nil
  go_simp
  refine (pick_new [r - 10, 58, -58, 60, 61] 2 5 o len cap q w3 D.1 (by simp) (by simp)).mono ?_
  rintro e w4 ⟨k, rfl, hk, hs4, hg4⟩
  go_simp
  refine hK.out _ _ (lies_grown HX hg4 (by omega)) (fun hHeld => ?_)
  clear hK K'
  try simp only [Act.put, List.setIfInBounds_toArray, List.set_cons_zero, List.set_cons_succ]
  have K2 := k1_grown K hg4 D.2.2
  obtain ⟨c0, c1, c2, c3⟩ := lies_four K2.2
  obtain ⟨cf0, cf1, cf2, cf3⟩ := lies_ice K2.2
  have hne : ¬ w.heap.size = bx := by have := D.2.2; omega
  clear hs4 hg4 hk K D HX
  refine wpAnyH_ready (rs := [7]) (by kernel_rfl) (by simp) ?_
  refine AllReadyH.cons rfl (fun K' hK => ?_) AllReadyH.nil
  go_simp
  refine hK.out _ _ (lies_other4 hHeld hne) (fun hHeld => ?_)
  clear hK K'
  try simp only [Act.put, List.setIfInBounds_toArray, List.set_cons_zero, List.set_cons_succ]
  refine take_at (i := 8) (d := 3) (v := .int .i64 k) rfl rfl (by kernel_rfl) (by kernel_rfl) (by kernel_rfl) (fun _ _ _ h => h) (Or.inl ⟨by rfl, ?_⟩) hHeld ?_
  · intro w' hS; go_simp
  try simp only [Act.put, List.setIfInBounds_toArray, List.set_cons_zero, List.set_cons_succ]
  refine wpAnyH_done (by kernel_rfl) ?_ _
  go_wp2
  refine bodyPost_ret (v := .tuple #[.agg (P4 p v u n), .int .i64 k]) (by simp [results, Try.results12, go_sem, c0, c1, c2, c3]) rfl ?_
  exact ⟨_, _, _, _, _, rfl, below_set4 K2.1 (by omega)⟩
/-- a list of digits or nearly such, drawn: a row in new memory -/
def DigsPost (w : World) (e : Ending) (w' : World) : Prop := ∃ (p k : Int) (v : Value) (l : List Int), e = .returned (.tuple #[.int .i64 p, .int .i64 k, v]) ∧ IntRow w.heap.size w' v l ∧ l.length ≤ 1000 ∧ Below w.heap.size w w'
theorem intRow_draw {w w' : World} {b p : Nat} {v : Value} {l : List Int} (h : IntRow b w v l) (hg : w.grownBy w' (some p)) (hp : p < b) : IntRow b w' v l := by
  refine World.ownsRow.kept h hg ?_
  cases hv : v.ownBlock with
  | none => exact .inl rfl
  | some k => right; intro e; have := World.ownsRow.lt h k hv; cases e; omega
/-- a row and a source in one world -/
def RS (o : Option Addr) (len cap q b : Nat) (w wz : World) (v : Value) (l : List Int) : Prop := DD o len cap q 0 w wz ∧ IntRow b wz v l ∧ q < b ∧ b ≤ wz.heap.size ∧ w.heap.size ≤ b
theorem rs_next {o : Option Addr} {len cap q b : Nat} {w w1 w2 : World} {v : Value} {l : List Int} (h : RS o len cap q b w w1 v l) (hs : Src w2 o len cap q) (hg : w1.grownBy w2 (some q)) : RS o len cap q b w w2 v l :=
  ⟨dd_next h.1 hs hg, intRow_draw h.2.1 hg h.2.2.1, h.2.2.1, Nat.le_trans h.2.2.2.1 hg.size, h.2.2.2.2⟩
theorem rs_app {o : Option Addr} {len cap q b : Nat} {w w1 w2 : World} {v v' : Value} {l : List Int} {x : Int} {ob : Obj} (h : RS o len cap q b w w1 v l) (hown : w2.ownsRow b 2 1 v' (l.length + 1) (l.map (Value.int .i64) ++ [.int .i64 x]))
    (hg : (w1.alloc ob).grownBy w2 v.ownBlock) : RS o len cap q b w w2 v' (l ++ [x]) := by
  have hB : Below b w1 w2 := ((Below.refl b w1).alloc h.2.2.2.1 ob).grown hg (by have := h.2.2.2.1; simp; omega) (fun k hk => (World.ownsRow.lt h.2.1 k hk).1)
  exact ⟨⟨src_below h.1.1 hB h.2.2.1, h.1.2.1.trans (hB.mono h.2.2.2.2), h.1.2.2⟩, intRow_snoc hown, h.2.2.1, Nat.le_trans h.2.2.2.1 hB.size, h.2.2.2.2⟩
def sliceLen (v : Value) : Nat := match v with
  | .slice _ n _ => n
  | _ => 0
set_option maxRecDepth 20000 in
set_option maxHeartbeats 3200000 in
theorem drawFrom_any (o : Option Addr) (len cap : Nat) (w : World) (hl : len ≤ 4096) (hc : CodeIn w o len) :
    Calls Try.prog 9 #[.slice o len cap] w (DigsPost w) := by
  obtain ⟨i0, hi, hz0, hz1, hz2⟩ := info_parts Try.infoInt64
  have HI := Lib.hid hi
  have HZ0 := Lib.hid hz0
  have HZ1 := Lib.hid hz1
  have HZ2 := Lib.hid hz2
  clear hi hz0 hz1 hz2
  have HC := Lib.hid (codeIn_below (B := w.heap.size) hc (show Below w.heap.size w w from Below.refl _ _))
  have HC0 := Lib.hid hc
  clear hc
  go_enter Try.func9, Try.ntmps9
  go_wp2_with fail
  refine (from_any _ _ _ _ hl HC.out).mono ?_
  rintro e w1 ⟨q, rfl, hq, hs1, hb1⟩
  have K := hb1
  have D : DD o len cap q 0 w w1 := ⟨hs1, K, by simpa using hq⟩
  clear hs1 hb1 hq
  go_wp2_with fail
  refine (drawPrime_any _ _ _ _ _ D.1).mono ?_
  rintro e w2 ⟨x, rfl, x0, x1, hs2, hg2⟩
  have D2 := dd_next D hs2 hg2
  clear hs2 hg2 K D
  have R0 : RS o len cap q w2.heap.size w (w2.alloc (.cells #[] 2)) (.slice (some ⟨w2.heap.size, 0, none⟩) 0 0) [] :=
    ⟨dd_alloc D2 _, intRow_made w2, src_lt D2.1, by simp, D2.2.1.size⟩
  go_wp2_with fail
  obtain ⟨b, hb⟩ : ∃ b, w2.heap.size = b := ⟨_, rfl⟩
  rw [hb] at R0 ⊢
  generalize w2.alloc (.cells #[] 2) = w3 at *
  clear hb D2
  refine (next_any _ _ _ _ _ _ (by omega) R0.1.1).mono ?_
  rintro e w4 ⟨r, rfl, r0, r1, hs4, hg4, hz4⟩
  have r2 : r < 8 := by omega
  have HR0 := Lib.hid (rs_next R0 hs4 hg4)
  have hx1 : 1 ≤ max 1 x := by omega
  have hx2 : max 1 x ≤ 101 := by omega
  clear hs4 hg4 hz4 r1 R0
  go_wp2_with fail
  go_loopw [7, 8] (fun s i wr => ∃ (N : Int) (l : List Int), i = .int .i64 N ∧ 0 ≤ N ∧ (l.length : Int) + N ≤ 7 ∧ RS o len cap q b w wr s l) (fun _ i _ => (intOf i).toNat)
  case atStart => exact ⟨r, [], rfl, r0, by simp; omega, HR0.out⟩
  case round =>
    obtain ⟨N, l, rfl, hN, hlN, R1⟩ := hrel
    clear HR0
    by_cases hpos : 0 < N
    · go_wp2_with fail
      refine (next_any _ _ _ _ _ _ (by omega) R1.1.1).mono ?_
      rintro e w5 ⟨y, rfl, y0, y1, hs5, hg5, hz5⟩
      have y2 : y ≤ 101 := by omega
      have R2 := rs_next R1 hs5 hg5
      clear hs5 hg5 hz5 y1 R1
      go_wp2_with fail
      refine (next_any _ _ _ _ _ _ (by omega) R2.1.1).mono ?_
      rintro e w6 ⟨z, rfl, z0, z1, hs6, hg6, hz6⟩
      have z2 : z = 0 ∨ z = 1 := by omega
      have R3 := rs_next R2 hs6 hg6
      have hw5 : IntKind.i64.wrap (y * z) = y * z := by
        rcases z2 with rfl | rfl
        · rw [Int.mul_zero]; exact IntWalk.i64_in _ (by omega)
        · rw [Int.mul_one]; exact IntWalk.i64_in _ (by omega)
      clear hs6 hg6 hz6 z1 z2 R2
      obtain ⟨o3, c3, hv⟩ := row_slice R3.2.1
      subst hv
      go_wp2_with (at_builtin; refine wpList_append_own _ rfl (.tmp 20) (.tmp 28) 27 rfl b 2 i0 (.int .i64 0) 1 8 Try.underlying27 HI.out HZ0.out HZ1.out HZ2.out rfl (by decide) _ _ _ rfl (R3.2.1.alloc _) ⟨w6.heap.size, 0, none⟩ 1 1 [.int .i64 (y * z)] rfl rfl ?c1 ?c2 ?c3 ?c4 ?c5 ?_)
      case c1 => first | exact news_one _ _ _ | simp [Addr.add]
      case c2 => first | exact one_one _ | rfl
      case c3 => unfold maxLen; omega
      case c4 => omega
      case c5 => have := R3.2.2.2.1; first | omega | (simp; omega)
      intro v' w7 hown hgrow _
      obtain ⟨oo, cc, hvv⟩ := row_slice hown
      subst hvv
      have R4 := rs_app R3 hown hgrow
      clear hown hgrow
      have HR4 := Lib.hid R4
      clear R3 R4
      go_wp2
      go_roundw
      case rel => exact ⟨N - 1, l ++ [y * z], rfl, by omega, by simp; omega, HR4.out⟩
      case measure => simp [intOf]; omega
    · have hl7 : l.length ≤ 7 := by omega
      clear hN hlN
      go_wp2_with fail
      refine (next_any _ _ _ _ _ _ (by omega) R1.1.1).mono ?_
      rintro e w5 ⟨t, rfl, t0, t1, hs5, hg5, hz5⟩
      have R2 := rs_next R1 hs5 hg5
      clear hs5 hg5 hz5 t1 R1
      by_cases ht0 : t = 0
      · subst ht0
        go_wp2_with fail
        refine (pick_new [x, -1, 0] 2 3 o len cap q w5 R2.1.1 (by simp) (by simp)).mono ?_
        rintro e w6 ⟨y, rfl, hy, hs6, hg6⟩
        have R3 := rs_next R2 hs6 hg6
        clear hs6 hg6 hy R2
        obtain ⟨o3, c3, hv⟩ := row_slice R3.2.1
        subst hv
        go_wp2_with (at_builtin; refine wpList_append_own _ rfl (.tmp 34) (.tmp 39) 27 rfl b 2 i0 (.int .i64 0) 1 8 Try.underlying27 HI.out HZ0.out HZ1.out HZ2.out rfl (by decide) _ _ _ rfl (R3.2.1.alloc _) ⟨w6.heap.size, 0, none⟩ 1 1 [.int .i64 y] rfl rfl ?c1 ?c2 ?c3 ?c4 ?c5 ?_)
        case c1 => first | exact news_one _ _ _ | simp [Addr.add]
        case c2 => first | exact one_one _ | rfl
        case c3 => unfold maxLen; omega
        case c4 => omega
        case c5 => have := R3.2.2.2.1; first | omega | (simp; omega)
        intro v' w7 hown hgrow _
        obtain ⟨oo, cc, hvv⟩ := row_slice hown
        subst hvv
        have R4 := rs_app R3 hown hgrow
        clear hown hgrow
        clear R3
        go_wp2_with fail
        refine (next_any _ _ _ _ _ _ (by omega) R4.1.1).mono ?_
        rintro e wa ⟨ra, rfl, ra0, ra1, hsa, hga, hza⟩
        have ra2 : ra < 13 := by omega
        have hwa := IntWalk.i64_in (ra - 6) (by omega)
        have Ra := rs_next R4 hsa hga
        clear hsa hga hza ra1
        go_wp2_with fail
        refine (next_any _ _ _ _ _ _ (by omega) Ra.1.1).mono ?_
        rintro e wb ⟨rb, rfl, rb0, rb1, hsb, hgb, hzb⟩
        have rb2 : rb < 13 := by omega
        have hwb := IntWalk.i64_in (rb - 6) (by omega)
        have Rb := rs_next Ra hsb hgb
        clear hsb hgb hzb rb1
        go_wp2_with fail
        refine (pick_new [0, ra - 6, rb - 6, 60, 61, -60] 2 6 o len cap q wb Rb.1.1 (by simp) (by simp)).mono ?_
        rintro e wc ⟨k, rfl, hk, hsc, hgc⟩
        have Rc := rs_next Rb hsc hgc
        clear hsc hgc hk
        go_wp2
        refine bodyPost_ret (v := .tuple #[.int .i64 x, .int .i64 k, .slice oo (l.length + 1) cc]) (by simp [results, Try.results9, go_sem]) rfl ?_
        exact ⟨_, _, _, l ++ [y], rfl, row_lower Rc.2.1 Rc.2.2.2.2, by first | omega | (simp; omega), Rc.1.2.1⟩
      · have ht0' : (t == 0) = false := by simpa using ht0
        by_cases ht1 : t = 1
        · subst ht1
          clear ht0
          have HR2 := Lib.hid R2
          clear R2
          go_wp2_with fail
          go_loopw [7] (fun s wr => ∃ l : List Int, l.length ≤ 31 ∧ RS o len cap q b w wr s l) (fun s _ => 40 - sliceLen s)
          case atStart => exact ⟨l, by omega, HR2.out⟩
          case round =>
            clear HR2 hl7
            obtain ⟨l, hl31, R5⟩ := hrel
            obtain ⟨o3, c3, hv⟩ := row_slice R5.2.1
            subst hv
            go_wp2_with fail
            refine (next_any _ _ _ _ _ _ (by omega) R5.1.1).mono ?_
            rintro e w6 ⟨z, rfl, z0, z1, hs6, hg6, hz6⟩
            have z2 : z < 2 := by omega
            have R6 := rs_next R5 hs6 hg6
            have hwz := IntWalk.i64_in (29 + z) (by omega)
            clear hs6 hg6 hz6 z1 R5
            by_cases hlz : (l.length : Int) < 29 + z
            · have hl30 : l.length ≤ 30 := by omega
              go_wp2_with (at_builtin; refine wpList_append_own _ rfl (.tmp 49) (.tmp 50) 27 rfl b 2 i0 (.int .i64 0) 1 8 Try.underlying27 HI.out HZ0.out HZ1.out HZ2.out rfl (by decide) _ _ _ rfl (R6.2.1.alloc _) ⟨w6.heap.size, 0, none⟩ 1 1 [.int .i64 1] rfl rfl ?c1 ?c2 ?c3 ?c4 ?c5 ?_)
              case c1 => first | exact news_one _ _ _ | simp [Addr.add]
              case c2 => first | exact one_one _ | rfl
              case c3 => unfold maxLen; omega
              case c4 => omega
              case c5 => have := R6.2.2.2.1; first | omega | (simp; omega)
              intro v' w7 hown hgrow _
              obtain ⟨oo, cc, hvv⟩ := row_slice hown
              subst hvv
              have R7 := rs_app R6 hown hgrow
              clear hown hgrow
              have HR7 := Lib.hid R7
              clear R6 R7
              go_wp2
              go_roundw
              case rel => exact ⟨l ++ [1], by simp; omega, HR7.out⟩
              case measure => simp [sliceLen]; omega
            · 
              go_wp2_with fail
              refine (next_any _ _ _ _ _ _ (by omega) R6.1.1).mono ?_
              rintro e wa ⟨ra, rfl, ra0, ra1, hsa, hga, hza⟩
              have ra2 : ra < 13 := by omega
              have hwa := IntWalk.i64_in (ra - 6) (by omega)
              have Ra := rs_next R6 hsa hga
              clear hsa hga hza ra1
              go_wp2_with fail
              refine (next_any _ _ _ _ _ _ (by omega) Ra.1.1).mono ?_
              rintro e wb ⟨rb, rfl, rb0, rb1, hsb, hgb, hzb⟩
              have rb2 : rb < 13 := by omega
              have hwb := IntWalk.i64_in (rb - 6) (by omega)
              have Rb := rs_next Ra hsb hgb
              clear hsb hgb hzb rb1
              go_wp2_with fail
              refine (pick_new [0, ra - 6, rb - 6, 60, 61, -60] 2 6 o len cap q wb Rb.1.1 (by simp) (by simp)).mono ?_
              rintro e wc ⟨k, rfl, hk, hsc, hgc⟩
              have Rc := rs_next Rb hsc hgc
              clear hsc hgc hk
              go_wp2
              refine bodyPost_ret (v := .tuple #[.int .i64 x, .int .i64 k, .slice o3 l.length c3]) (by simp [results, Try.results9, go_sem]) rfl ?_
              exact ⟨_, _, _, l, rfl, row_lower Rc.2.1 Rc.2.2.2.2, by first | omega | (simp; omega), Rc.1.2.1⟩
        · have ht1' : (t == 1) = false := by simpa using ht1
          clear ht0 ht1
          obtain ⟨o3, c3, hv⟩ := row_slice R2.2.1
          subst hv
          go_wp2_with fail
          refine (next_any _ _ _ _ _ _ (by omega) R2.1.1).mono ?_
          rintro e wa ⟨ra, rfl, ra0, ra1, hsa, hga, hza⟩
          have ra2 : ra < 13 := by omega
          have hwa := IntWalk.i64_in (ra - 6) (by omega)
          have Ra := rs_next R2 hsa hga
          clear hsa hga hza ra1
          go_wp2_with fail
          refine (next_any _ _ _ _ _ _ (by omega) Ra.1.1).mono ?_
          rintro e wb ⟨rb, rfl, rb0, rb1, hsb, hgb, hzb⟩
          have rb2 : rb < 13 := by omega
          have hwb := IntWalk.i64_in (rb - 6) (by omega)
          have Rb := rs_next Ra hsb hgb
          clear hsb hgb hzb rb1
          go_wp2_with fail
          refine (pick_new [0, ra - 6, rb - 6, 60, 61, -60] 2 6 o len cap q wb Rb.1.1 (by simp) (by simp)).mono ?_
          rintro e wc ⟨k, rfl, hk, hsc, hgc⟩
          have Rc := rs_next Rb hsc hgc
          clear hsc hgc hk
          go_wp2
          refine bodyPost_ret (v := .tuple #[.int .i64 x, .int .i64 k, .slice o3 l.length c3]) (by simp [results, Try.results9, go_sem]) rfl ?_
          exact ⟨_, _, _, l, rfl, row_lower Rc.2.1 Rc.2.2.2.2, by first | omega | (simp; omega), Rc.1.2.1⟩
end Go.Proofs.Ytmkelfkbbdfjdaa
namespace Go.Proofs.Ytmkelfkbbdfjdaa
open Go.RowKit
set_option linter.unusedVariables false
set_option maxRecDepth 20000
set_option linter.unusedSimpArgs false
theorem invV_eq {p n u : Int} (h0 : ringM p n ≠ 0) (hu : 1 ≤ u) (hu2 : u < ringM p n) (hp : u % p ≠ 0) : invV p n u = bezX u (ringM p n) % ringM p n := by
  have : unitC p n u = 0 := by simp [unitC, resC, h0, show 0 ≤ u by omega, hu2, hp]
  simp [invV, this]
end Go.Proofs.Ytmkelfkbbdfjdaa
namespace Go.Proofs.Ytmkelfkbbdfjdaa
open Go.RowKit
set_option linter.unusedVariables false
set_option maxRecDepth 20000
set_option linter.unusedSimpArgs false
end Go.Proofs.Ytmkelfkbbdfjdaa
namespace Go.Proofs.Ytmkelfkbbdfjdaa
open Go.RowKit
set_option linter.unusedVariables false
set_option maxRecDepth 20000
set_option linter.unusedSimpArgs false
theorem k1_alloc {w w1 : World} {a : Array Value} (h : K1 w a w1) (o : Obj) : K1 w a (w1.alloc o) := k1_next h (below_a1 w1 o)
end Go.Proofs.Ytmkelfkbbdfjdaa
namespace Go.Proofs.Ytmkelfkbbdfjdaa
open Go.RowKit
set_option linter.unusedVariables false
set_option maxRecDepth 20000
set_option linter.unusedSimpArgs false
theorem lies_rowgrown {w1 w2 : World} {b base n sz : Nat} {T : TypeId} {vs : Array Value} {v : Value} {xs : List Value} (h : Lies w1 b vs) (hr : w1.ownsRow base T sz v n xs) (hb : b < base) (hg : w1.grownBy w2 v.ownBlock) : Lies w2 b vs :=
  lies_block h (Nat.lt_of_lt_of_le h.1 hg.size) (hg.block b h.1 (by intro e; have := (World.ownsRow.lt hr b e.symm).1; omega))
/-- a list of integers that came in -/
def ArgInt (w : World) (o : Option Addr) (l : List Int) : Prop :=
  l.length = 0 ∨ ∃ b off, o = some ⟨b, off, none⟩ ∧ b < w.heap.size ∧ ∀ k, k < l.length → w.cell? ⟨b, off + k, none⟩ = some (.int .i64 (l.getD k 0))
theorem argInt_below {w w' : World} {o : Option Addr} {l : List Int} (h : ArgInt w o l) (hb : Below w.heap.size w w') : ArgInt w' o l := by
  rcases h with h | ⟨b, off, rfl, hlt, hc⟩
  · exact .inl h
  · exact .inr ⟨b, off, rfl, Nat.lt_of_lt_of_le hlt hb.size, fun k hk => by rw [hb.cell (p := ⟨b, off + k, none⟩) hlt]; exact hc k hk⟩
set_option maxRecDepth 100000 in
set_option maxHeartbeats 1600000 in
theorem toInt64S_any (o : Option Addr) (c : Nat) (l : List Int) (w : World) (hn : l.length ≤ 1048576) (ha : ArgInt w o l) :
    Calls Try.prog 21 #[.slice o l.length c] w fun e w' => ∃ v, e = .returned v ∧ IntRow w.heap.size w' v l ∧ Below w.heap.size w w' := by
  obtain ⟨i0, hi, hz0, hz1, hz2⟩ := info_parts Try.infoInt64
  have HI := Lib.hid hi
  have HZ0 := Lib.hid hz0
  have HZ1 := Lib.hid hz1
  have HZ2 := Lib.hid hz2
  have HA := Lib.hid ha
  clear hi hz0 hz1 hz2 ha
  go_enter Try.func21, Try.ntmps21
  go_wp2_with (at_make; refine wpList_make_full _ rfl (.tmp 6) (.tmp 6) 27 rfl w.heap.size 2 i0 (.int .i64 0) 1 Try.underlying27 HI.out HZ0.out HZ1.out .i64 .i64 _ _ l.length rfl rfl rfl rfl ?m1 ?m2 (Nat.le_refl _) ?_)
  case m1 => rw [HZ2.out]; omega
  case m2 => unfold maxLen; omega
  intro w2 hown hgrow
  have HO := Lib.hid hown
  have HB2 := Lib.hid ((Below.refl w.heap.size w).grown hgrow (Nat.le_refl _) (fun k h => by cases h))
  clear hown hgrow
  go_wp2
  go_loopw [4] (fun i wr => ∃ (k : Nat) (xs : List Value), k ≤ l.length ∧ i = .int .i64 k ∧ wr.ownsRow w.heap.size 2 1 (.slice (some ⟨w.heap.size, 0, none⟩) l.length l.length) l.length xs ∧ (∀ j, j < k → xs[j]? = (l.map (Value.int .i64))[j]?) ∧ Below w.heap.size w wr) (fun i _ => l.length - (intOf i).toNat)
  case atStart => exact ⟨0, _, Nat.zero_le _, rfl, HO.out, fun j h => absurd h (by omega), HB2.out⟩
  case round =>
    obtain ⟨k, xs, hk, rfl, hrow, hxs, hb⟩ := hrel
    have HW := Lib.hid hrow
    have HX := Lib.hid hxs
    have HB := Lib.hid hb
    have bs := hb.size
    have HXL := Lib.hid hrow.1
    clear hrow hxs
    by_cases hlt : k < l.length
    · rcases HA.out with hz | ⟨b, off, rfl, hbw, hcell⟩
      · omega
      · have a1 := hcell k hlt
        rw [← hb.cell (by exact hbw)] at a1
        clear hb hcell
        have HP := Lib.hid (show (l.map (Value.int .i64))[k]? = some (.int .i64 (l.getD k 0)) by simp [List.getD, hlt])
        generalize l.getD k 0 = x1 at *
        have S1 := Lib.hid (World.ownsRow.stored HW.out k (.int .i64 x1))
        have c3 := World.ownsRow.cellAt HW.out k (by omega)
        have f3 := World.ownsRow.frozenAt HW.out k
        obtain ⟨u3, hu3⟩ : ∃ u, xs[k]? = some u := ⟨_, List.getElem?_eq_getElem (by have := HXL.out; omega)⟩
        rw [hu3] at c3
        clear hu3
        have HN : Hid (∀ j, j < k + 1 → (xs.set k (.int .i64 x1))[j]? = (l.map (Value.int .i64))[j]?) := by
          intro j hj
          have hl2 := HXL.out
          by_cases e2 : j = k
          · subst e2
            rw [List.getElem?_set_self (by omega)]; exact HP.out.symm
          · rw [List.getElem?_set_ne (by omega)]; exact HX.out j (by omega)
        go_wp2
        exact ⟨⟨k + 1, _, by omega, by go_num, S1.out.1, HN.out, HB.out.setCell (Nat.le_refl _) _⟩, by simp only [intOf]; omega⟩
    · have hkl : k = l.length := by omega
      have HE : Hid (xs = l.map (Value.int .i64)) := by
        show xs = l.map (Value.int .i64)
        apply List.ext_getElem?
        intro j
        by_cases hj : j < k
        · exact HX.out j hj
        · rw [List.getElem?_eq_none (by have := HXL.out; omega), List.getElem?_eq_none (by rw [List.length_map]; omega)]
      clear hkl
      go_wp2
      go_ret
      exact ⟨_, rfl, by have h := HW.out; rw [HE.out] at h; exact h, hb⟩
end Go.Proofs.Ytmkelfkbbdfjdaa
namespace Go.Proofs.Ytmkelfkbbdfjdaa
open Go.RowKit
set_option linter.unusedVariables false
/-- a slice of integers that came in, as the shells have it -/
def IsRowOf (k : IntKind) (w : World) (a : Option Addr) (len cap : Nat) (zs : List Int) : Prop :=
  (a = none ∧ len = 0 ∧ cap = 0 ∧ zs = []) ∨
  ∃ x, a = some x ∧ len ≤ cap ∧ cap ≤ maxLen ∧ zs.length = cap ∧ (∀ i, i < zs.length → w.cell? (x.add i) = some (.int k (zs.getD i 0))) ∧ ∀ n ∈ zs, (Lit.int k n).wf = true
theorem u8_bd {q : Int} (h : (Lit.int .u8 q).wf = true) : 0 ≤ q ∧ q ≤ 255 := by
  simp [Lit.wf, IntKind.min, IntKind.max, IntKind.signed, IntKind.bits] at h
  exact ⟨h.1, by omega⟩
theorem codeIn_of {w : World} {a : Option Addr} {len cap : Nat} {zs : List Int} (h : IsRowOf .u8 w a len cap zs) : CodeIn w a len ∧ len ≤ 9223372036854775807 := by
  rcases h with ⟨_, h, _, _⟩ | ⟨x, rfl, h1, h2, h3, h4, h5⟩
  · exact ⟨.inl h, by omega⟩
  · refine ⟨?_, by unfold maxLen at h2; omega⟩
    by_cases h0 : len = 0
    · exact .inl h0
    · obtain ⟨b, off, rfl, hc⟩ := ints_at h4 (by omega)
      refine .inr ⟨b, off, rfl, World.block_lt_of_cell? w _ (hc 0 (by omega)), fun i hi => ⟨_, hc i (by omega), ?_⟩⟩
      have hm : zs.getD i 0 ∈ zs := by
        have hlt : i < zs.length := by omega
        rw [show zs.getD i 0 = zs[i] by simp [List.getD, hlt]]; exact List.getElem_mem _
      exact u8_bd (h5 _ hm)
theorem gcd_dvd_tmod (a b : Int) (h : Int.gcd a b ≠ 0) : a.tmod (Int.gcd a b) = 0 ∧ b.tmod (Int.gcd a b) = 0 :=
  ⟨Int.tmod_eq_zero_of_dvd (Int.gcd_dvd_left ..), Int.tmod_eq_zero_of_dvd (Int.gcd_dvd_right ..)⟩
end Go.Proofs.Ytmkelfkbbdfjdaa
namespace Go.Proofs.Ytmkelfkbbdfjdaa
open Go.RowKit
set_option linter.unusedVariables false
set_option maxRecDepth 20000
set_option linter.unusedSimpArgs false
/-- the sum of a list in a row -/
theorem lawSum_row (o : Option Addr) (g n c : Nat) (l : List Int) (w : World) (ho : 0 < n → o = some ⟨g, 0, none⟩) (hl : n = l.length) (hn : n ≤ 40) (hd : ∀ d ∈ l, 0 ≤ d ∧ d < 97)
    (hc : ∀ k, k < n → w.cell? ⟨g, k, none⟩ = some (.int .i64 (l.getD k 0))) :
    Calls Try.prog 19 #[.slice o n c] w fun e w' => e = .returned (.int .i64 (sumL l)) ∧ w = w' := by
  have HO := Lib.hid ho
  have HC := Lib.hid hc
  have HL := Lib.hid hl
  have HD := Lib.hid hd
  clear ho hc hl hd
  go_enter Try.func19, Try.ntmps19
  go_wp2
  go_loop [3, 4] (fun s i => ∃ k : Nat, k ≤ n ∧ i = .int .i64 k ∧ s = .int .i64 (sumL (l.take k))) (fun _ i => n - (intOf i).toNat)
  case atStart => exact ⟨0, Nat.zero_le _, rfl, rfl⟩
  case round =>
    obtain ⟨k, hk, rfl, rfl⟩ := hrel
    obtain ⟨a0, a1⟩ := sumL_bd (p := 97) (l := l.take k) (by omega) (by rw [List.length_take]; omega) fun d hd => HD.out d (List.mem_of_mem_take hd)
    by_cases hlt : k < n
    · have hkl : k < l.length := by have := HL.out; omega
      have hog := HO.out (by omega)
      subst hog
      have a2 := HC.out k hlt
      have hx := HD.out (l.getD k 0) (by simp [List.getD, hkl])
      have hs : sumL (l.take (k + 1)) = sumL (l.take k) + l.getD k 0 := by
        rw [List.take_succ_eq_append_getElem hkl, sumL_append]; simp [List.getD, hkl]
      have HS := Lib.hid hs
      generalize l.getD k 0 = x at *
      generalize sumL (l.take k) = s at *
      have hw : IntKind.i64.wrap (s + x) = s + x := IntWalk.i64_in _ (by omega)
      clear hs hkl
      go_wp2
      exact ⟨⟨k + 1, by omega, by go_num, by rw [HS.out]⟩, by simp [intOf]; omega⟩
    · have hkn : k = n := by omega
      have HE := Lib.hid (show sumL (l.take k) = sumL l by rw [List.take_of_length_le (by have := HL.out; omega)])
      clear hkn
      go_wp2
      go_ret
      exact ⟨ret_int HE.out, rfl⟩
theorem lawSum_any {base : Nat} {w : World} {v : Value} {l : List Int} (h : IntRow base w v l) (hn : l.length ≤ 40) (hd : ∀ d ∈ l, 0 ≤ d ∧ d < 97) :
    Calls Try.prog 19 #[v] w fun e w' => e = .returned (.int .i64 (sumL l)) ∧ w = w' := by
  obtain ⟨o, g, c, rfl, ho, hc⟩ := row_form h
  exact lawSum_row o g l.length c l w ho rfl hn hd hc
set_option maxHeartbeats 400000 in
theorem like_row (o1 o2 : Option Addr) (g1 g2 n c1 c2 : Nat) (l : List Int) (w : World) (h1 : 0 < n → o1 = some ⟨g1, 0, none⟩) (h2 : 0 < n → o2 = some ⟨g2, 0, none⟩) (hn : n ≤ 1000000)
    (hc1 : ∀ k, k < n → w.cell? ⟨g1, k, none⟩ = some (.int .i64 (l.getD k 0)))
    (hc2 : ∀ k, k < n → w.cell? ⟨g2, k, none⟩ = some (.int .i64 (l.getD k 0))) :
    Calls Try.prog 18 #[.slice o1 n c1, .slice o2 n c2] w fun e w' => e = .returned (.bool true) ∧ ∃ m, w' = w.drewN m := by
  have HC1 := Lib.hid hc1
  have HC2 := Lib.hid hc2
  have HO1 := Lib.hid h1
  have HO2 := Lib.hid h2
  clear hc1 hc2 h1 h2
  go_enter Try.func18, Try.ntmps18
  go_wp2
  go_loopw [5] (fun i wr => ∃ k : Nat, k ≤ n ∧ i = .int .i64 k ∧ ∃ nd, wr = w.drewN nd) (fun i _ => n - (intOf i).toNat)
  case atStart => exact ⟨0, Nat.zero_le _, rfl, 0, rfl⟩
  case round =>
    obtain ⟨k, hk, rfl, nd, rfl⟩ := hrel
    by_cases hlt : k < n
    · have e1 := HO1.out (by omega)
      have e2 := HO2.out (by omega)
      subst e1
      subst e2
      have a1 := HC1.out k hlt
      have b1 := HC2.out k hlt
      generalize l.getD k 0 = x at *
      go_wp2
      go_quiet (fail)
      go_wp2
      go_roundw
      case rel => exact ⟨k + 1, by omega, by go_num, nd + nq, by first | rfl | rw [World.drewN_drewN]⟩
      case measure => simp [intOf]; omega
    · have hkn : k = n := by omega
      clear hkn
      go_wp2
      go_ret
      exact ⟨rfl, nd, rfl⟩
theorem like_same {b1 b2 : Nat} {w : World} {v1 v2 : Value} {l : List Int} (h1 : IntRow b1 w v1 l) (h2 : IntRow b2 w v2 l) (hl : l.length ≤ 1000000) :
    Calls Try.prog 18 #[v1, v2] w fun e w' => e = .returned (.bool true) ∧ ∃ m, w' = w.drewN m := by
  obtain ⟨o1, g1, c1, rfl, p1, q1⟩ := row_form h1
  obtain ⟨o2, g2, c2, rfl, p2, q2⟩ := row_form h2
  exact like_row o1 o2 g1 g2 l.length c1 c2 l w p1 p2 hl q1 q2
set_option maxRecDepth 100000 in
set_option maxHeartbeats 4000000 in
theorem digs_core (o : Option Addr) (len cap : Nat) (w : World) (hl : len ≤ 4096) (hc : CodeIn w o len) :
    Calls Try.prog 3 #[.slice o len cap] w fun e w' => e = .returned (.bool true) ∧ Below w.heap.size w w' := by
  have HC := Lib.hid hc
  have HB : Below w.heap.size w w := Below.refl _ _
  clear hc
  go_enter Try.func3, Try.ntmps3
  go_upto_region 3 with (go_at_call 5; refine (big_no _ _ _ _ hl).mono ?_; rintro e w' ⟨rfl, rfl⟩)
  go_upto_region 4 with (first | (go_at_call 6; refine (drawDigits_any _ _ _ _ hl HC.out).mono ?_; rintro e w1 ⟨a1, a2, a3, a4, rfl, hb⟩; replace HB := HB.trans (hb.mono HB.size); replace HC := Lib.hid (codeIn_below (B := 0) HC.out hb)))
  clear hb
  have Lx := lies_new w1 (P4 a1 a2 a3 a4) 25
  replace HB := HB.trans ((below_a1 w1 (.cells (P4 a1 a2 a3 a4) 25)).mono HB.size)
  replace HC := Lib.hid (codeIn_below (B := 0) HC.out (below_a1 w1 (.cells (P4 a1 a2 a3 a4) 25)))
  generalize w1.alloc (.cells (P4 a1 a2 a3 a4) 25) = V1 at Lx  HB HC ⊢
  obtain ⟨qx, hqx⟩ : ∃ b, w1.heap.size = b := ⟨_, rfl⟩
  rw [hqx] at Lx ⊢
  clear hqx
  have A1 := fun w => implDigits_any a1 a2 a3 a4 w
  have A2 := fun w => specDigits_any a1 a2 a3 a4 w
  have hLl : (digsL a1 a2 a3 a4).length ≤ 40 := by
    unfold digsL
    split
    · rename_i hx; exact (digL_all (padB_ok hx)).1
    · simp
  obtain ⟨L, hL⟩ : ∃ L, digsL a1 a2 a3 a4 = L := ⟨_, rfl⟩
  obtain ⟨c, hC⟩ : ∃ c, negC a1 a2 a3 a4 = c := ⟨_, rfl⟩
  rw [hL, hC] at A1 A2
  rw [hL] at hLl
  have HM := Lib.hid (And.intro hL hC)
  replace A1 := Lib.hid A1
  replace A2 := Lib.hid A2
  clear hL hC
  obtain ⟨x0, x1, x2, x3⟩ := lies_four Lx
  go_upto_region 5 with (first | (go_at_call 7; refine (A1.out _).mono ?_; rintro e w2 ⟨vd, rfl, Rd, hb⟩; replace Lx := lies_next Lx hb; replace HB := HB.trans (hb.mono HB.size); replace HC := Lib.hid (codeIn_below (B := 0) HC.out hb)))
  clear x0 x1 x2 x3
  clear hb
  obtain ⟨x0, x1, x2, x3⟩ := lies_four Lx
  go_upto_region 6 with (first | (go_at_call 8; refine (A2.out _).mono ?_; rintro e w3 ⟨vm, rfl, Rm, hb⟩; replace Lx := lies_next Lx hb; replace HB := HB.trans (hb.mono HB.size); replace HC := Lib.hid (codeIn_below (B := 0) HC.out hb); replace Rd := row_below Rd hb (Nat.le_refl _)))
  clear x0 x1 x2 x3
  clear hb
  go_upto_region 7 with (first | (go_at_call 9; refine (drawFrom_any _ _ _ _ hl HC.out).mono ?_; rintro e w4 ⟨p, pl, vl, l, rfl, Rl, hll, hb⟩; replace Lx := lies_next Lx hb; replace HB := HB.trans (hb.mono HB.size); replace HC := Lib.hid (codeIn_below (B := 0) HC.out hb); replace Rd := row_below Rd hb (Nat.le_refl _); replace Rm := row_below Rm hb (Nat.le_refl _)))
  clear hb
  have F1 := fun (w : World) (v : Value) (b : Nat) (h : IntRow b w v l) => implFrom_any p pl h (by omega)
  have F2 := fun (w : World) (v : Value) (b : Nat) (h : IntRow b w v l) => specFrom_any p pl h (by omega)
  generalize fromQ p pl l = Q1 at F1 F2
  generalize fromC p pl l = C1 at F1 F2
  replace F1 := Lib.hid F1
  replace F2 := Lib.hid F2
  clear hll
  go_upto_region 8 with (first | (go_at_call 10; refine (F1.out _ _ _ Rl).mono ?_; rintro e w5 ⟨rfl, hb⟩; replace Lx := lies_next Lx hb; replace HB := HB.trans (hb.mono HB.size); replace HC := Lib.hid (codeIn_below (B := 0) HC.out hb); replace Rd := row_below Rd hb (Nat.le_refl _); replace Rm := row_below Rm hb (Nat.le_refl _); replace Rl := row_below Rl hb (Nat.le_refl _)))
  clear hb
  replace Lx := lies_alloc Lx (.cells (P4 Q1.1 Q1.2.1 Q1.2.2.1 Q1.2.2.2) 25)
  replace Rd := row_below Rd (below_a1 w5 (.cells (P4 Q1.1 Q1.2.1 Q1.2.2.1 Q1.2.2.2) 25)) (Nat.le_refl _)
  replace Rm := row_below Rm (below_a1 w5 (.cells (P4 Q1.1 Q1.2.1 Q1.2.2.1 Q1.2.2.2) 25)) (Nat.le_refl _)
  replace Rl := row_below Rl (below_a1 w5 (.cells (P4 Q1.1 Q1.2.1 Q1.2.2.1 Q1.2.2.2) 25)) (Nat.le_refl _)
  have Ly := lies_new w5 (P4 Q1.1 Q1.2.1 Q1.2.2.1 Q1.2.2.2) 25
  replace HB := HB.trans ((below_a1 w5 (.cells (P4 Q1.1 Q1.2.1 Q1.2.2.1 Q1.2.2.2) 25)).mono HB.size)
  replace HC := Lib.hid (codeIn_below (B := 0) HC.out (below_a1 w5 (.cells (P4 Q1.1 Q1.2.1 Q1.2.2.1 Q1.2.2.2) 25)))
  generalize w5.alloc (.cells (P4 Q1.1 Q1.2.1 Q1.2.2.1 Q1.2.2.2) 25) = V5 at Lx Ly Rd Rm Rl HB HC ⊢
  obtain ⟨qy, hqy⟩ : ∃ b, w5.heap.size = b := ⟨_, rfl⟩
  rw [hqy] at Ly ⊢
  clear hqy
  go_upto_region 9 with (first | (go_at_call 11; refine (F2.out _ _ _ Rl).mono ?_; rintro e w6 ⟨rfl, hb⟩; replace Lx := lies_next Lx hb; replace Ly := lies_next Ly hb; replace HB := HB.trans (hb.mono HB.size); replace HC := Lib.hid (codeIn_below (B := 0) HC.out hb); replace Rd := row_below Rd hb (Nat.le_refl _); replace Rm := row_below Rm hb (Nat.le_refl _); replace Rl := row_below Rl hb (Nat.le_refl _)))
  clear hb
  replace Lx := lies_alloc Lx (.cells (P4 Q1.1 Q1.2.1 Q1.2.2.1 Q1.2.2.2) 25)
  replace Ly := lies_alloc Ly (.cells (P4 Q1.1 Q1.2.1 Q1.2.2.1 Q1.2.2.2) 25)
  replace Rd := row_below Rd (below_a1 w6 (.cells (P4 Q1.1 Q1.2.1 Q1.2.2.1 Q1.2.2.2) 25)) (Nat.le_refl _)
  replace Rm := row_below Rm (below_a1 w6 (.cells (P4 Q1.1 Q1.2.1 Q1.2.2.1 Q1.2.2.2) 25)) (Nat.le_refl _)
  replace Rl := row_below Rl (below_a1 w6 (.cells (P4 Q1.1 Q1.2.1 Q1.2.2.1 Q1.2.2.2) 25)) (Nat.le_refl _)
  have Lf := lies_new w6 (P4 Q1.1 Q1.2.1 Q1.2.2.1 Q1.2.2.2) 25
  replace HB := HB.trans ((below_a1 w6 (.cells (P4 Q1.1 Q1.2.1 Q1.2.2.1 Q1.2.2.2) 25)).mono HB.size)
  replace HC := Lib.hid (codeIn_below (B := 0) HC.out (below_a1 w6 (.cells (P4 Q1.1 Q1.2.1 Q1.2.2.1 Q1.2.2.2) 25)))
  generalize w6.alloc (.cells (P4 Q1.1 Q1.2.1 Q1.2.2.1 Q1.2.2.2) 25) = V6 at Lx Ly Lf Rd Rm Rl HB HC ⊢
  obtain ⟨qf, hqf⟩ : ∃ b, w6.heap.size = b := ⟨_, rfl⟩
  rw [hqf] at Lf ⊢
  clear hqf
  clear Rl F1 F2
  go_upto_region 10 with (first | (go_at_call 12; refine (drawShift_any _ _ _ _ hl HC.out).mono ?_; rintro e w7 ⟨z1, z2, z3, z4, k, rfl, hb⟩; replace Lx := lies_next Lx hb; replace Ly := lies_next Ly hb; replace Lf := lies_next Lf hb; replace HB := HB.trans (hb.mono HB.size); replace HC := Lib.hid (codeIn_below (B := 0) HC.out hb); replace Rd := row_below Rd hb (Nat.le_refl _); replace Rm := row_below Rm hb (Nat.le_refl _)))
  clear hb
  replace Lx := lies_alloc Lx (.cells (P4 z1 z2 z3 z4) 25)
  replace Ly := lies_alloc Ly (.cells (P4 z1 z2 z3 z4) 25)
  replace Lf := lies_alloc Lf (.cells (P4 z1 z2 z3 z4) 25)
  replace Rd := row_below Rd (below_a1 w7 (.cells (P4 z1 z2 z3 z4) 25)) (Nat.le_refl _)
  replace Rm := row_below Rm (below_a1 w7 (.cells (P4 z1 z2 z3 z4) 25)) (Nat.le_refl _)
  have Lz := lies_new w7 (P4 z1 z2 z3 z4) 25
  replace HB := HB.trans ((below_a1 w7 (.cells (P4 z1 z2 z3 z4) 25)).mono HB.size)
  replace HC := Lib.hid (codeIn_below (B := 0) HC.out (below_a1 w7 (.cells (P4 z1 z2 z3 z4) 25)))
  generalize w7.alloc (.cells (P4 z1 z2 z3 z4) 25) = V7 at Lx Ly Lf Lz Rd Rm HB HC ⊢
  obtain ⟨qz, hqz⟩ : ∃ b, w7.heap.size = b := ⟨_, rfl⟩
  rw [hqz] at Lz ⊢
  clear hqz
  have G1 := fun w => implShift_any z1 z2 z3 z4 k w
  have G2 := fun w => specShift_any z1 z2 z3 z4 k w
  obtain ⟨Q2, hQ2⟩ : ∃ Q, shiftQ z1 z2 z3 z4 k = Q := ⟨_, rfl⟩
  obtain ⟨C2, hC2⟩ : ∃ c, shiftC z1 z2 z3 z4 k = c := ⟨_, rfl⟩
  rw [hQ2, hC2] at G1 G2
  have HS := Lib.hid (And.intro hQ2 hC2)
  replace G1 := Lib.hid G1
  replace G2 := Lib.hid G2
  clear hQ2 hC2
  obtain ⟨z0, z1, z2, z3⟩ := lies_four Lz
  go_upto_region 11 with (first | (go_at_call 13; refine (G1.out _).mono ?_; rintro e w8 ⟨rfl, hb⟩; replace Lx := lies_next Lx hb; replace Ly := lies_next Ly hb; replace Lf := lies_next Lf hb; replace Lz := lies_next Lz hb; replace HB := HB.trans (hb.mono HB.size); replace HC := Lib.hid (codeIn_below (B := 0) HC.out hb); replace Rd := row_below Rd hb (Nat.le_refl _); replace Rm := row_below Rm hb (Nat.le_refl _)))
  clear z0 z1 z2 z3
  clear hb
  replace Lx := lies_alloc Lx (.cells (P4 Q2.1 Q2.2.1 Q2.2.2.1 Q2.2.2.2) 25)
  replace Ly := lies_alloc Ly (.cells (P4 Q2.1 Q2.2.1 Q2.2.2.1 Q2.2.2.2) 25)
  replace Lf := lies_alloc Lf (.cells (P4 Q2.1 Q2.2.1 Q2.2.2.1 Q2.2.2.2) 25)
  replace Lz := lies_alloc Lz (.cells (P4 Q2.1 Q2.2.1 Q2.2.2.1 Q2.2.2.2) 25)
  replace Rd := row_below Rd (below_a1 w8 (.cells (P4 Q2.1 Q2.2.1 Q2.2.2.1 Q2.2.2.2) 25)) (Nat.le_refl _)
  replace Rm := row_below Rm (below_a1 w8 (.cells (P4 Q2.1 Q2.2.1 Q2.2.2.1 Q2.2.2.2) 25)) (Nat.le_refl _)
  have Ls := lies_new w8 (P4 Q2.1 Q2.2.1 Q2.2.2.1 Q2.2.2.2) 25
  replace HB := HB.trans ((below_a1 w8 (.cells (P4 Q2.1 Q2.2.1 Q2.2.2.1 Q2.2.2.2) 25)).mono HB.size)
  replace HC := Lib.hid (codeIn_below (B := 0) HC.out (below_a1 w8 (.cells (P4 Q2.1 Q2.2.1 Q2.2.2.1 Q2.2.2.2) 25)))
  generalize w8.alloc (.cells (P4 Q2.1 Q2.2.1 Q2.2.2.1 Q2.2.2.2) 25) = V8 at Lx Ly Lf Lz Ls Rd Rm HB HC ⊢
  obtain ⟨qs, hqs⟩ : ∃ b, w8.heap.size = b := ⟨_, rfl⟩
  rw [hqs] at Ls ⊢
  clear hqs
  obtain ⟨z0, z1, z2, z3⟩ := lies_four Lz
  go_upto_region 12 with (first | (go_at_call 14; refine (G2.out _).mono ?_; rintro e w9 ⟨rfl, hb⟩; replace Lx := lies_next Lx hb; replace Ly := lies_next Ly hb; replace Lf := lies_next Lf hb; replace Lz := lies_next Lz hb; replace Ls := lies_next Ls hb; replace HB := HB.trans (hb.mono HB.size); replace HC := Lib.hid (codeIn_below (B := 0) HC.out hb); replace Rd := row_below Rd hb (Nat.le_refl _); replace Rm := row_below Rm hb (Nat.le_refl _)))
  clear z0 z1 z2 z3
  clear hb
  replace Lx := lies_alloc Lx (.cells (P4 Q2.1 Q2.2.1 Q2.2.2.1 Q2.2.2.2) 25)
  replace Ly := lies_alloc Ly (.cells (P4 Q2.1 Q2.2.1 Q2.2.2.1 Q2.2.2.2) 25)
  replace Lf := lies_alloc Lf (.cells (P4 Q2.1 Q2.2.1 Q2.2.2.1 Q2.2.2.2) 25)
  replace Lz := lies_alloc Lz (.cells (P4 Q2.1 Q2.2.1 Q2.2.2.1 Q2.2.2.2) 25)
  replace Ls := lies_alloc Ls (.cells (P4 Q2.1 Q2.2.1 Q2.2.2.1 Q2.2.2.2) 25)
  replace Rd := row_below Rd (below_a1 w9 (.cells (P4 Q2.1 Q2.2.1 Q2.2.2.1 Q2.2.2.2) 25)) (Nat.le_refl _)
  replace Rm := row_below Rm (below_a1 w9 (.cells (P4 Q2.1 Q2.2.1 Q2.2.2.1 Q2.2.2.2) 25)) (Nat.le_refl _)
  have Lt := lies_new w9 (P4 Q2.1 Q2.2.1 Q2.2.2.1 Q2.2.2.2) 25
  replace HB := HB.trans ((below_a1 w9 (.cells (P4 Q2.1 Q2.2.1 Q2.2.2.1 Q2.2.2.2) 25)).mono HB.size)
  replace HC := Lib.hid (codeIn_below (B := 0) HC.out (below_a1 w9 (.cells (P4 Q2.1 Q2.2.1 Q2.2.2.1 Q2.2.2.2) 25)))
  generalize w9.alloc (.cells (P4 Q2.1 Q2.2.1 Q2.2.2.1 Q2.2.2.2) 25) = V9 at Lx Ly Lf Lz Ls Lt Rd Rm HB HC ⊢
  obtain ⟨qt, hqt⟩ : ∃ b, w9.heap.size = b := ⟨_, rfl⟩
  rw [hqt] at Lt ⊢
  clear hqt
  go_upto_region 13 with (first | (go_at_call 15; refine (drawSumD_any _ _ _ _ hl HC.out).mono ?_; rintro e w10 ⟨b1, b2, b3, b4, rfl, hb⟩; replace Lx := lies_next Lx hb; replace Ly := lies_next Ly hb; replace Lf := lies_next Lf hb; replace Lz := lies_next Lz hb; replace Ls := lies_next Ls hb; replace Lt := lies_next Lt hb; replace HB := HB.trans (hb.mono HB.size); replace HC := Lib.hid (codeIn_below (B := 0) HC.out hb); replace Rd := row_below Rd hb (Nat.le_refl _); replace Rm := row_below Rm hb (Nat.le_refl _)))
  clear hb
  replace Lx := lies_alloc Lx (.cells (P4 b1 b2 b3 b4) 25)
  replace Ly := lies_alloc Ly (.cells (P4 b1 b2 b3 b4) 25)
  replace Lf := lies_alloc Lf (.cells (P4 b1 b2 b3 b4) 25)
  replace Lz := lies_alloc Lz (.cells (P4 b1 b2 b3 b4) 25)
  replace Ls := lies_alloc Ls (.cells (P4 b1 b2 b3 b4) 25)
  replace Lt := lies_alloc Lt (.cells (P4 b1 b2 b3 b4) 25)
  replace Rd := row_below Rd (below_a1 w10 (.cells (P4 b1 b2 b3 b4) 25)) (Nat.le_refl _)
  replace Rm := row_below Rm (below_a1 w10 (.cells (P4 b1 b2 b3 b4) 25)) (Nat.le_refl _)
  have Lw := lies_new w10 (P4 b1 b2 b3 b4) 25
  replace HB := HB.trans ((below_a1 w10 (.cells (P4 b1 b2 b3 b4) 25)).mono HB.size)
  replace HC := Lib.hid (codeIn_below (B := 0) HC.out (below_a1 w10 (.cells (P4 b1 b2 b3 b4) 25)))
  generalize w10.alloc (.cells (P4 b1 b2 b3 b4) 25) = V10 at Lx Ly Lf Lz Ls Lt Lw Rd Rm HB HC ⊢
  obtain ⟨qw, hqw⟩ : ∃ b, w10.heap.size = b := ⟨_, rfl⟩
  rw [hqw] at Lw ⊢
  clear hqw
  clear HC
  obtain ⟨w0, w1, w2, w3⟩ := lies_four Lw
  go_upto_region 14 with (first | (go_at_call 16; refine (implSum_any _ _ _ _ _).mono ?_; rintro e w11 ⟨rfl, hb⟩; replace Lx := lies_next Lx hb; replace Ly := lies_next Ly hb; replace Lf := lies_next Lf hb; replace Lz := lies_next Lz hb; replace Ls := lies_next Ls hb; replace Lt := lies_next Lt hb; replace Lw := lies_next Lw hb; replace HB := HB.trans (hb.mono HB.size); replace Rd := row_below Rd hb (Nat.le_refl _); replace Rm := row_below Rm hb (Nat.le_refl _)))
  clear w0 w1 w2 w3
  clear hb
  obtain ⟨w0, w1, w2, w3⟩ := lies_four Lw
  go_upto_region 15 with (first | (go_at_call 17; refine (specSum_any _ _ _ _ _).mono ?_; rintro e w12 ⟨rfl, hb⟩; replace Lx := lies_next Lx hb; replace Ly := lies_next Ly hb; replace Lf := lies_next Lf hb; replace Lz := lies_next Lz hb; replace Ls := lies_next Ls hb; replace Lt := lies_next Lt hb; replace Lw := lies_next Lw hb; replace HB := HB.trans (hb.mono HB.size); replace Rd := row_below Rd hb (Nat.le_refl _); replace Rm := row_below Rm hb (Nat.le_refl _)))
  clear w0 w1 w2 w3
  clear hb
  generalize sumV b1 b2 b3 b4 = sv
  generalize negC b1 b2 b3 b4 = sc
  clear Lw
  obtain ⟨y0, y1, y2, y3⟩ := lies_four Ly
  obtain ⟨f0, f1, f2, f3⟩ := lies_four Lf
  obtain ⟨s0, s1, s2, s3⟩ := lies_four Ls
  obtain ⟨t0, t1, t2, t3⟩ := lies_four Lt
  go_upto_region 17 with (go_at_call 18; refine (like_same Rd Rm (by omega)).mono ?_; rintro e wl ⟨rfl, nd, rfl⟩)
  clear y0 y1 y2 y3 f0 f1 f2 f3 s0 s1 s2 s3 t0 t1 t2 t3 Ly Lf Lt Rm
  replace HB := below_drewN HB nd
  replace Lx := lies_drewN Lx nd
  replace Lz := lies_drewN Lz nd
  replace Ls := lies_drewN Ls nd
  replace Rd : IntRow _ (w12.drewN nd) vd L := Rd
  generalize w12.drewN nd = X at *
  by_cases h2 : C2 = 0
  · obtain ⟨hQ, hC2⟩ := HS.out
    obtain ⟨k0, k1, e1, e2, e3⟩ := shift_back (p := z1) (v := z2) (u := z3) (n := z4) (k := k) (by rw [hC2]; exact h2)
    have hq : Q2 = (z1, z2 + k, z3, z4) := by rw [← hQ]; exact e1
    have G3 := Lib.hid fun (w : World) => (show Calls Try.prog 13 #[.agg (P4 Q2.1 Q2.2.1 Q2.2.2.1 Q2.2.2.2), .int .i64 (-k)] w fun e w' => e = .returned (.tuple #[.agg (P4 z1 z2 z3 z4), .int .i64 0]) ∧ Below w.heap.size w w' by
      have := implShift_any z1 (z2 + k) z3 z4 (-k) w
      rw [e2, e3] at this
      rw [hq]
      exact this)
    have hwk : IntKind.i64.wrap (-k) = -k := IntWalk.i64_in _ (by omega)
    have h2' : (C2 == 0) = true := by simp [h2]
    clear hQ hC2 e1 e2 e3 hq h2
    obtain ⟨s0, s1, s2, s3⟩ := lies_four Ls
    go_upto_region 19 with (first | (go_at_call 13; refine (G3.out _).mono ?_; rintro e w33 ⟨rfl, hb⟩; replace Lx := lies_next Lx hb; replace Lz := lies_next Lz hb; replace Ls := lies_next Ls hb; replace HB := HB.trans (hb.mono HB.size); replace Rd := row_below Rd hb (Nat.le_refl _)))
    clear s0 s1 s2 s3
    clear hb
    replace Lx := lies_alloc Lx (.cells (P4 z1 z2 z3 z4) 25)
    replace Lz := lies_alloc Lz (.cells (P4 z1 z2 z3 z4) 25)
    replace Ls := lies_alloc Ls (.cells (P4 z1 z2 z3 z4) 25)
    replace Rd := row_below Rd (below_a1 w33 (.cells (P4 z1 z2 z3 z4) 25)) (Nat.le_refl _)
    have Lg := lies_new w33 (P4 z1 z2 z3 z4) 25
    replace HB := HB.trans ((below_a1 w33 (.cells (P4 z1 z2 z3 z4) 25)).mono HB.size)
    generalize w33.alloc (.cells (P4 z1 z2 z3 z4) 25) = V33 at Lx Lz Ls Lg Rd HB ⊢
    obtain ⟨qg, hqg⟩ : ∃ b, w33.heap.size = b := ⟨_, rfl⟩
    rw [hqg] at Lg ⊢
    clear hqg
    obtain ⟨g0, g1, g2, g3⟩ := lies_four Lg
    obtain ⟨z0, z1, z2, z3⟩ := lies_four Lz
    go_upto_region 21 with fail
    clear g0 g1 g2 g3
    clear Lg Ls Lz
    by_cases hc : c = 0
    · obtain ⟨hL, hC⟩ := HM.out
      have hx : padB a1 a2 a3 a4 = true := by
        unfold negC at hC
        split at hC
        · rename_i hb; exact hb
        · omega
      have hLe : L = digL a1 a3 a4.toNat := by rw [← hL]; simp [digsL, hx]
      obtain ⟨f1, f2⟩ := from_digits (padB_ok hx)
      rw [← hLe] at f1 f2
      have E1 := Lib.hid fun (w : World) (v : Value) (b : Nat) (h : IntRow b w v L) => (show Calls Try.prog 10 #[.int .i64 a1, .int .i64 a2, v] w fun e w' => e = .returned (.tuple #[.agg (P4 a1 a2 a3 a4), .int .i64 0]) ∧ Below w.heap.size w w' by
        have := implFrom_any a1 a2 h (by omega)
        rw [f1, f2] at this
        exact this)
      have E2 := Lib.hid fun (w : World) => (show Calls Try.prog 16 #[.agg (P4 a1 a2 a3 a4)] w fun e w' => e = .returned (.tuple #[.int .i64 (sumL L), .int .i64 0]) ∧ Below w.heap.size w w' by
        have := implSum_any a1 a2 a3 a4 w
        rw [show sumV a1 a2 a3 a4 = sumL L by simp [sumV, hx, hLe], show negC a1 a2 a3 a4 = 0 by simp [negC, hx]] at this
        exact this)
      have HD := Lib.hid (show ∀ d ∈ L, 0 ≤ d ∧ d < 97 by rw [hLe]; exact (digL_all (padB_ok hx)).2)
      have hc' : (c == 0) = true := by simp [hc]
      clear hL hC hx hLe f1 f2 hc
      obtain ⟨x0, x1, x2, x3⟩ := lies_four Lx
      go_upto_region 24 with (first | (go_at_call 10; refine (E1.out _ _ _ Rd).mono ?_; rintro e w34 ⟨rfl, hb⟩; replace Lx := lies_next Lx hb; replace HB := HB.trans (hb.mono HB.size); replace Rd := row_below Rd hb (Nat.le_refl _)))
      clear x0 x1 x2 x3
      clear hb
      replace Lx := lies_alloc Lx (.cells (P4 a1 a2 a3 a4) 25)
      replace Rd := row_below Rd (below_a1 w34 (.cells (P4 a1 a2 a3 a4) 25)) (Nat.le_refl _)
      have Lb := lies_new w34 (P4 a1 a2 a3 a4) 25
      replace HB := HB.trans ((below_a1 w34 (.cells (P4 a1 a2 a3 a4) 25)).mono HB.size)
      generalize w34.alloc (.cells (P4 a1 a2 a3 a4) 25) = V34 at Lx Lb Rd HB ⊢
      obtain ⟨qb, hqb⟩ : ∃ b, w34.heap.size = b := ⟨_, rfl⟩
      rw [hqb] at Lb ⊢
      clear hqb
      obtain ⟨x0, x1, x2, x3⟩ := lies_four Lx
      go_upto_region 25 with (first | (go_at_call 16; refine (E2.out _).mono ?_; rintro e w35 ⟨rfl, hb⟩; replace Lx := lies_next Lx hb; replace Lb := lies_next Lb hb; replace HB := HB.trans (hb.mono HB.size); replace Rd := row_below Rd hb (Nat.le_refl _)))
      clear x0 x1 x2 x3
      clear hb
      obtain ⟨x0, x1, x2, x3⟩ := lies_four Lx
      obtain ⟨b0, b1, b2, b3⟩ := lies_four Lb
      go_wp2_with (go_at_call 19; refine (lawSum_any Rd hLl HD.out).mono ?_; rintro e wl ⟨rfl, rfl⟩)
      go_ret
      exact ⟨rfl, HB⟩
    · have hc' : (c == 0) = false := by simpa using hc
      clear hc
      go_wp2_with fail
      go_ret
      exact ⟨rfl, HB⟩
  · have h2' : (C2 == 0) = false := by simpa using h2
    clear h2
    go_upto_region 21 with fail
    clear Ls Lz
    by_cases hc : c = 0
    · obtain ⟨hL, hC⟩ := HM.out
      have hx : padB a1 a2 a3 a4 = true := by
        unfold negC at hC
        split at hC
        · rename_i hb; exact hb
        · omega
      have hLe : L = digL a1 a3 a4.toNat := by rw [← hL]; simp [digsL, hx]
      obtain ⟨f1, f2⟩ := from_digits (padB_ok hx)
      rw [← hLe] at f1 f2
      have E1 := Lib.hid fun (w : World) (v : Value) (b : Nat) (h : IntRow b w v L) => (show Calls Try.prog 10 #[.int .i64 a1, .int .i64 a2, v] w fun e w' => e = .returned (.tuple #[.agg (P4 a1 a2 a3 a4), .int .i64 0]) ∧ Below w.heap.size w w' by
        have := implFrom_any a1 a2 h (by omega)
        rw [f1, f2] at this
        exact this)
      have E2 := Lib.hid fun (w : World) => (show Calls Try.prog 16 #[.agg (P4 a1 a2 a3 a4)] w fun e w' => e = .returned (.tuple #[.int .i64 (sumL L), .int .i64 0]) ∧ Below w.heap.size w w' by
        have := implSum_any a1 a2 a3 a4 w
        rw [show sumV a1 a2 a3 a4 = sumL L by simp [sumV, hx, hLe], show negC a1 a2 a3 a4 = 0 by simp [negC, hx]] at this
        exact this)
      have HD := Lib.hid (show ∀ d ∈ L, 0 ≤ d ∧ d < 97 by rw [hLe]; exact (digL_all (padB_ok hx)).2)
      have hc' : (c == 0) = true := by simp [hc]
      clear hL hC hx hLe f1 f2 hc
      obtain ⟨x0, x1, x2, x3⟩ := lies_four Lx
      go_upto_region 24 with (first | (go_at_call 10; refine (E1.out _ _ _ Rd).mono ?_; rintro e w33 ⟨rfl, hb⟩; replace Lx := lies_next Lx hb; replace HB := HB.trans (hb.mono HB.size); replace Rd := row_below Rd hb (Nat.le_refl _)))
      clear x0 x1 x2 x3
      clear hb
      replace Lx := lies_alloc Lx (.cells (P4 a1 a2 a3 a4) 25)
      replace Rd := row_below Rd (below_a1 w33 (.cells (P4 a1 a2 a3 a4) 25)) (Nat.le_refl _)
      have Lb := lies_new w33 (P4 a1 a2 a3 a4) 25
      replace HB := HB.trans ((below_a1 w33 (.cells (P4 a1 a2 a3 a4) 25)).mono HB.size)
      generalize w33.alloc (.cells (P4 a1 a2 a3 a4) 25) = V33 at Lx Lb Rd HB ⊢
      obtain ⟨qb, hqb⟩ : ∃ b, w33.heap.size = b := ⟨_, rfl⟩
      rw [hqb] at Lb ⊢
      clear hqb
      obtain ⟨x0, x1, x2, x3⟩ := lies_four Lx
      go_upto_region 25 with (first | (go_at_call 16; refine (E2.out _).mono ?_; rintro e w34 ⟨rfl, hb⟩; replace Lx := lies_next Lx hb; replace Lb := lies_next Lb hb; replace HB := HB.trans (hb.mono HB.size); replace Rd := row_below Rd hb (Nat.le_refl _)))
      clear x0 x1 x2 x3
      clear hb
      obtain ⟨x0, x1, x2, x3⟩ := lies_four Lx
      obtain ⟨b0, b1, b2, b3⟩ := lies_four Lb
      go_wp2_with (go_at_call 19; refine (lawSum_any Rd hLl HD.out).mono ?_; rintro e wl ⟨rfl, rfl⟩)
      go_ret
      exact ⟨rfl, HB⟩
    · have hc' : (c == 0) = false := by simpa using hc
      clear hc
      go_wp2_with fail
      go_ret
      exact ⟨rfl, HB⟩
set_option maxRecDepth 100000 in
theorem digs_walk (a : Option Addr) (len cap : Nat) (zs : List Int) (w : World) (h : IsRowOf .u8 w a len cap zs) :
    Calls Try.prog 3 #[.slice a len cap] w fun e w' => e = .returned (.bool true) ∧ Below w.heap.size w w' := by
  obtain ⟨hc, hm⟩ := codeIn_of h
  by_cases hl : len ≤ 4096
  · exact digs_core a len cap w hl hc
  · clear hc h
    go_enter Try.func3, Try.ntmps3
    go_wp2_with (go_at_call 5; refine (big_yes _ _ _ _ (by omega) (by omega)).mono ?_; rintro e w' ⟨rfl, rfl⟩)
    go_ret
    exact ⟨rfl, Below.refl _ _⟩
end Go.Proofs.Ytmkelfkbbdfjdaa
