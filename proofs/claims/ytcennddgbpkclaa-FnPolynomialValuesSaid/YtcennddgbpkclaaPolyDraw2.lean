/- The drawn arguments of chapter 6's laws, law by law. -/
import Derived.Test.YtcennddgbpkclaaPolyDraw
namespace Go.Proofs.Ytcennddgbpkclaa
open Go.RowKit
set_option linter.unusedVariables false
set_option linter.unusedSimpArgs false
/-- what a draw answers: one list, a list and a number, two lists -/
def OneL (w : World) (e : Ending) (w' : World) : Prop := ∃ v l, e = .returned v ∧ IntRow w.heap.size w' v l ∧ l.length ≤ 10 ∧ Below w.heap.size w w'
def NumL (w : World) (e : Ending) (w' : World) : Prop := ∃ v l x, e = .returned (.tuple #[v, .int .i64 x]) ∧ IntRow w.heap.size w' v l ∧ l.length ≤ 10 ∧ -1001 ≤ x ∧ x ≤ 1001 ∧ Below w.heap.size w w'
def TwoL (w : World) (e : Ending) (w' : World) : Prop := ∃ v v' l l', e = .returned (.tuple #[v, v']) ∧ IntRow w.heap.size w' v l ∧ IntRow w.heap.size w' v' l' ∧ l.length ≤ 10 ∧ l'.length ≤ 10 ∧ Below w.heap.size w w'
theorem vs_out {o : Option Addr} {len cap q : Nat} {w w1 w2 : World} {v : Value} {l : List Int} (h : VS o len cap q w1 w2 v l) (hb : Below w.heap.size w w1) (hq : w.heap.size ≤ q) : IntRow w.heap.size w2 v l ∧ Below w.heap.size w w2 :=
  ⟨intRow_lower h.2.2.1 hb.size, hb.grown h.2.1 hb.size (fun k hk => by cases hk; exact hq)⟩
set_option maxRecDepth 20000 in
set_option maxHeartbeats 1600000 in
theorem drawDer_any (o : Option Addr) (len cap : Nat) (w : World) (hl : len ≤ 4096) (hc : CodeIn w o len) :
    Calls Try.prog 33 #[.slice o len cap] w (OneL w) := by
  have HC := Lib.hid hc
  clear hc
  go_enter Try.func33, Try.ntmps33
  go_wp2_with fail
  refine (from_any _ _ _ _ hl HC.out).mono ?_
  rintro e w1 ⟨q, rfl, hq, hs1, hb1⟩
  have HB1 := Lib.hid hb1
  clear hb1 HC hl
  go_wp2_with fail
  refine (l06Draw_any o len cap q w1 hs1).mono ?_
  rintro e w2 ⟨v, f, rfl, R, hD⟩
  have HD := Lib.hid hD
  clear hs1 hD
  obtain ⟨o3, c3, hv⟩ := row_slice R.2.2.1
  subst hv
  have HO := Lib.hid (vs_out R HB1.out hq)
  clear R
  go_wp2_with fail
  go_ret
  exact ⟨_, f, rfl, HO.out.1, HD.out.1, HO.out.2⟩
set_option maxRecDepth 20000 in
set_option maxHeartbeats 1600000 in
theorem drawEval_any (o : Option Addr) (len cap : Nat) (w : World) (hl : len ≤ 4096) (hc : CodeIn w o len) :
    Calls Try.prog 19 #[.slice o len cap] w (NumL w) := by
  have HC := Lib.hid hc
  clear hc
  go_enter Try.func19, Try.ntmps19
  go_wp2_with fail
  refine (from_any _ _ _ _ hl HC.out).mono ?_
  rintro e w1 ⟨q, rfl, hq, hs1, hb1⟩
  have HB1 := Lib.hid hb1
  clear hb1 HC hl
  go_wp2_with fail
  refine (l06Draw_any o len cap q w1 hs1).mono ?_
  rintro e w2 ⟨v, f, rfl, R, hD⟩
  have HD := Lib.hid hD
  clear hs1 hD
  obtain ⟨o3, c3, hv⟩ := row_slice R.2.2.1
  subst hv
  go_wp2_with fail
  refine (next_any _ _ _ _ _ _ (by omega) R.1).mono ?_
  rintro e w3 ⟨ra, rfl, ra0, ra1, hs, hg, hz⟩
  have ra2 : ra < 41 := by omega
  replace R := vs_next R hs hg
  clear hs hg hz ra1
  have hwa := IntWalk.i64_in (ra - 20) (by omega)
  go_wp2_with fail
  refine (next_any _ _ _ _ _ _ (by omega) R.1).mono ?_
  rintro e w4 ⟨rb, rfl, rb0, rb1, hs, hg, hz⟩
  have rb2 : rb < 401 := by omega
  replace R := vs_next R hs hg
  clear hs hg hz rb1
  have hwb := IntWalk.i64_in (rb - 200) (by omega)
  go_wp2_with fail
  refine (pick_new [0, 1, -1, ra - 20, 1000, -1000, 1001, rb - 200] 2 8 o len cap q w4 R.1 (by simp) (by simp)).mono ?_
  rintro e w6 ⟨y, rfl, hy, hs6, hg6⟩
  have hyb : -1001 ≤ y ∧ y ≤ 1001 := by simp at hy; omega
  replace R := vs_next R hs6 hg6
  have HO := Lib.hid (vs_out R HB1.out hq)
  clear hs6 hg6 hy R
  go_wp2_with fail
  go_ret2
  exact ⟨_, f, y, rfl, HO.out.1, HD.out.1, hyb.1, hyb.2, HO.out.2⟩
set_option maxRecDepth 20000 in
set_option maxHeartbeats 1600000 in
theorem drawShift_any (o : Option Addr) (len cap : Nat) (w : World) (hl : len ≤ 4096) (hc : CodeIn w o len) :
    Calls Try.prog 27 #[.slice o len cap] w (NumL w) := by
  have HC := Lib.hid hc
  clear hc
  go_enter Try.func27, Try.ntmps27
  go_wp2_with fail
  refine (from_any _ _ _ _ hl HC.out).mono ?_
  rintro e w1 ⟨q, rfl, hq, hs1, hb1⟩
  have HB1 := Lib.hid hb1
  clear hb1 HC hl
  go_wp2_with fail
  refine (l06Draw_any o len cap q w1 hs1).mono ?_
  rintro e w2 ⟨v, f, rfl, R, hD⟩
  have HD := Lib.hid hD
  clear hs1 hD
  obtain ⟨o3, c3, hv⟩ := row_slice R.2.2.1
  subst hv
  go_wp2_with fail
  refine (next_any _ _ _ _ _ _ (by omega) R.1).mono ?_
  rintro e w3 ⟨ra, rfl, ra0, ra1, hs, hg, hz⟩
  have ra2 : ra < 21 := by omega
  replace R := vs_next R hs hg
  clear hs hg hz ra1
  have hwa := IntWalk.i64_in (ra - 10) (by omega)
  go_wp2_with fail
  refine (next_any _ _ _ _ _ _ (by omega) R.1).mono ?_
  rintro e w4 ⟨rb, rfl, rb0, rb1, hs, hg, hz⟩
  have rb2 : rb < 101 := by omega
  replace R := vs_next R hs hg
  clear hs hg hz rb1
  have hwb := IntWalk.i64_in (rb - 50) (by omega)
  go_wp2_with fail
  refine (pick_new [0, 1, -1, ra - 10, 1000, -1001, rb - 50] 2 7 o len cap q w4 R.1 (by simp) (by simp)).mono ?_
  rintro e w6 ⟨y, rfl, hy, hs6, hg6⟩
  have hyb : -1001 ≤ y ∧ y ≤ 1001 := by simp at hy; omega
  replace R := vs_next R hs6 hg6
  have HO := Lib.hid (vs_out R HB1.out hq)
  clear hs6 hg6 hy R
  go_wp2_with fail
  go_ret2
  exact ⟨_, f, y, rfl, HO.out.1, HD.out.1, hyb.1, hyb.2, HO.out.2⟩
set_option maxRecDepth 20000 in
set_option maxHeartbeats 1600000 in
theorem drawRev_any (o : Option Addr) (len cap : Nat) (w : World) (hl : len ≤ 4096) (hc : CodeIn w o len) :
    Calls Try.prog 30 #[.slice o len cap] w (OneL w) := by
  have HC := Lib.hid hc
  clear hc
  go_enter Try.func30, Try.ntmps30
  go_wp2_with fail
  refine (from_any _ _ _ _ hl HC.out).mono ?_
  rintro e w1 ⟨q, rfl, hq, hs1, hb1⟩
  have HB1 := Lib.hid hb1
  clear hb1 HC hl
  go_wp2_with fail
  refine (l06Draw_any o len cap q w1 hs1).mono ?_
  rintro e w2 ⟨v, f, rfl, R, hD⟩
  have HD := Lib.hid hD
  clear hs1 hD
  obtain ⟨o3, c3, hv⟩ := row_slice R.2.2.1
  subst hv
  by_cases h1 : 1 < f.length
  · have h1' : (1 : Int) < (f.length : Int) := by omega
    go_wp2_with fail
    refine (next_any _ _ _ _ _ _ (by omega) R.1).mono ?_
    rintro e w3 ⟨t, rfl, t0, t1, hs, hg, hz⟩
    have t2 : t < 4 := by omega
    replace R := vs_next R hs hg
    clear hs hg hz t1
    by_cases h0 : t = 0
    · subst h0
      rcases row_shape R.2.2.1 with ⟨hz, _⟩ | ⟨_, g, c, hgc, hbg, hgl⟩
      · omega
      · injection hgc with e1 _ e2
        subst e1 e2
        have c0 := int_at R.2.2.1 rfl (k := 0) (by omega)
        have f0 := int_frozen R.2.2.1 rfl 0
        have hlp : (0 : Int) < (f.length : Int) := by omega
        have HO := Lib.hid (vs_out (vs_set R rfl hbg 0 (k := 0)) HB1.out hq)
        clear R
        go_wp2_with fail
        go_ret
        exact ⟨_, f.set 0 0, rfl, HO.out.1, by rw [List.length_set]; exact HD.out.1, HO.out.2⟩
    · have h0' : (t == 0) = false := by simpa using h0
      have HO := Lib.hid (vs_out R HB1.out hq)
      clear R h0
      go_wp2_with fail
      go_ret
      exact ⟨_, f, rfl, HO.out.1, HD.out.1, HO.out.2⟩
  · have h1' : ¬ (1 : Int) < (f.length : Int) := by omega
    have HO := Lib.hid (vs_out R HB1.out hq)
    clear R
    go_wp2_with fail
    go_ret
    exact ⟨_, f, rfl, HO.out.1, HD.out.1, HO.out.2⟩
set_option maxRecDepth 20000 in
set_option maxHeartbeats 1600000 in
theorem drawCont_any (o : Option Addr) (len cap : Nat) (w : World) (hl : len ≤ 4096) (hc : CodeIn w o len) :
    Calls Try.prog 36 #[.slice o len cap] w (OneL w) := by
  have HC := Lib.hid hc
  clear hc
  go_enter Try.func36, Try.ntmps36
  go_wp2_with fail
  refine (from_any _ _ _ _ hl HC.out).mono ?_
  rintro e w1 ⟨q, rfl, hq, hs1, hb1⟩
  have HB1 := Lib.hid hb1
  clear hb1 HC hl
  go_wp2_with fail
  refine (l06Draw_any o len cap q w1 hs1).mono ?_
  rintro e w2 ⟨v, f, rfl, R, hD⟩
  have HD := Lib.hid hD
  clear hs1 hD
  obtain ⟨o3, c3, hv⟩ := row_slice R.2.2.1
  subst hv
  go_wp2_with fail
  refine (next_any _ _ _ _ _ _ (by omega) R.1).mono ?_
  rintro e w3 ⟨t, rfl, t0, t1, hs, hg, hz⟩
  have t2 : t < 5 := by omega
  replace R := vs_next R hs hg
  clear hs hg hz t1
  have hwt := IntWalk.i64_in (1 + t) (by omega)
  have hlen : f.length ≤ 10 := HD.out.1
  obtain ⟨K, hK⟩ : ∃ K, 1 + t = K := ⟨_, rfl⟩
  have hK0 : 1 ≤ K ∧ K ≤ 5 := by omega
  rcases row_shape R.2.2.1 with ⟨hz, _⟩ | ⟨_, g, c, hgc, hbg, hgl⟩
  · have hf : f = [] := List.eq_nil_of_length_eq_zero hz
    subst hf
    have HO := Lib.hid (vs_out R HB1.out hq)
    clear R
    go_wp2_with fail
    refine wp_loop_rounds 1 ?_
    rw [rounds_succ]
    go_wp2_with fail
    go_ret
    exact ⟨_, [], rfl, HO.out.1, HD.out.1, HO.out.2⟩
  · injection hgc with e1 _ e2
    subst e1 e2
    have HR := Lib.hid R
    clear R
    go_wp2_with fail
    rw [hK] at *
    clear hwt hK
    go_loopw [6] (fun i wr => ∃ (k : Nat) (l : List Int), k ≤ f.length ∧ i = .int .i64 k ∧ l.length = f.length ∧ (∀ j, k ≤ j → l.getD j 0 = f.getD j 0) ∧ VS o len cap q w1 wr (.slice (some ⟨g, 0, none⟩) f.length c3) l) (fun i _ => f.length - (intOf i).toNat)
    case atStart => exact ⟨0, f, Nat.zero_le _, rfl, rfl, fun _ _ => rfl, HR.out⟩
    case round =>
      clear HR
      obtain ⟨k, l, hk, rfl, hll, hrest, R⟩ := hrel
      have HLL := Lib.hid hll
      have HRE := Lib.hid hrest
      clear hll hrest
      by_cases hlt : k < f.length
      · have c0 := int_at R.2.2.1 HLL.out hlt
        have f0 := int_frozen R.2.2.1 HLL.out k
        have hb := draw_get HD.out k
        rw [HRE.out k (Nat.le_refl _)] at c0
        have HR2 := Lib.hid (vs_set R HLL.out hbg (K * f.getD k 0) (k := k))
        have HN : Hid (∀ j, k + 1 ≤ j → (l.set k (K * f.getD k 0)).getD j 0 = f.getD j 0) := by
          intro j hj
          rw [← HRE.out j (by omega)]
          simp [List.getD, List.getElem?_set_ne (show k ≠ j by omega)]
        clear R
        generalize f.getD k 0 = x at *
        have p0 : -6000000 ≤ K * x ∧ K * x ≤ 6000000 := by
          rcases (by omega : K = 1 ∨ K = 2 ∨ K = 3 ∨ K = 4 ∨ K = 5) with h | h | h | h | h <;> rw [h] <;> omega
        have w1' : IntKind.i64.wrap (K * x) = K * x := IntWalk.i64_in _ (by omega)
        go_wp2_with fail
        exact ⟨⟨k + 1, _, by omega, by go_num, by rw [List.length_set]; exact HLL.out, HN.out, HR2.out⟩, by simp only [intOf]; omega⟩
      · have HO := Lib.hid (vs_out R HB1.out hq)
        have hlt' : ¬ (k : Int) < (f.length : Int) := by omega
        clear R
        go_wp2_with fail
        go_ret
        exact ⟨_, l, rfl, by have := HLL.out; exact HO.out.1, by rw [HLL.out]; exact hlen, HO.out.2⟩
set_option maxRecDepth 20000 in
set_option maxHeartbeats 1600000 in
theorem l06DrawTwo_any (o : Option Addr) (len cap : Nat) (w : World) (hl : len ≤ 4096) (hc : CodeIn w o len) :
    Calls Try.prog 43 #[.slice o len cap] w (TwoL w) := by
  obtain ⟨i0, hi, hz0, hz1, hz2⟩ := info_parts Try.infoInt64
  have HI := Lib.hid hi
  have HZ0 := Lib.hid hz0
  have HZ1 := Lib.hid hz1
  have HZ2 := Lib.hid hz2
  clear hi hz0 hz1 hz2
  have HC := Lib.hid hc
  clear hc
  go_enter Try.func43, Try.ntmps43
  go_wp2_with fail
  refine (from_any _ _ _ _ hl HC.out).mono ?_
  rintro e w1 ⟨q, rfl, hq, hs1, hb1⟩
  have HB1 := Lib.hid hb1
  clear hb1 HC hl
  go_wp2_with fail
  refine (l06Draw_any o len cap q w1 hs1).mono ?_
  rintro e w2 ⟨v, f, rfl, R, hD⟩
  have HD := Lib.hid hD
  clear hs1 hD
  obtain ⟨o3, c3, hv⟩ := row_slice R.2.2.1
  subst hv
  have hw12 := R.2.1.size
  go_wp2_with fail
  refine (l06Draw_any o len cap q w2 R.1).mono ?_
  rintro e w3 ⟨v, g, rfl, S, hE⟩
  have HE := Lib.hid hE
  replace R := vs_next R S.1 S.2.1
  clear hE
  obtain ⟨o4, c4, hv⟩ := row_slice S.2.2.1
  subst hv
  go_wp2_with fail
  refine (next_any _ _ _ _ _ _ (by omega) S.1).mono ?_
  rintro e w4 ⟨t, rfl, t0, t1, hs, hg, hz⟩
  have t2 : t < 10 := by omega
  replace R := vs_next R hs hg
  replace S := vs_next S hs hg
  clear hs hg hz t1
  have OR := Lib.hid (vs_out R HB1.out hq)
  have OS := Lib.hid (intRow_lower (b := w.heap.size) S.2.2.1 (Nat.le_trans HB1.out.size hw12))
  clear R S
  by_cases h0 : t = 0
  · subst h0
    have hb4 := OR.out.2.size
    have OF := Lib.hid (row_below OR.out.1 (below_one w4 (.cells #[] 2)) (Nat.le_refl _))
    have OG := Lib.hid (intRow_made w4)
    have hB4 := below_one w4 (.cells #[] 2)
    have HB4 := Lib.hid hB4
    clear hB4 OS
    go_upto_region 6 with fail
    generalize w4.alloc (.cells #[] 2) = w5 at OF OG HB4 ⊢
    go_wp2_with fail
    go_loopw [6, 7] (fun s i wr => ∃ (k : Nat) (l : List Int), k ≤ f.length ∧ i = .int .i64 k ∧ l.length = k ∧ IntRow w4.heap.size wr s l ∧ Below w4.heap.size w4 wr) (fun _ i _ => f.length - (intOf i).toNat)
    case atStart => exact ⟨0, [], Nat.zero_le _, rfl, rfl, OG.out, HB4.out⟩
    case round =>
      clear OG HB4
      obtain ⟨k, l, hk, rfl, hlk, rowg, hbg⟩ := hrel
      obtain ⟨o5, c5, hv⟩ := row_slice rowg
      subst hv
      have HLK := Lib.hid hlk
      have hf10 : f.length ≤ 10 := HD.out.1
      have hl10 : l.length ≤ 10 := by omega
      have hb5 := hbg.size
      have rowf := Lib.hid (row_below OR.out.1 hbg (Nat.le_refl _))
      clear hlk
      by_cases hlt : k < f.length
      · rcases row_shape rowf.out with ⟨hz, _⟩ | ⟨_, g', c, hgc, hbg', hgl⟩
        · omega
        · injection hgc with e1 _ e2
          subst e1 e2
          have c0 := int_cells rowf.out k hlt
          have hb := draw_get HD.out k
          generalize f.getD k 0 = x at *
          have w1' : IntKind.i64.wrap (-x) = -x := IntWalk.i64_in _ (by omega)
          go_wp2_with (at_builtin; refine wpList_append_own _ rfl (.tmp 24) (.tmp 30) 24 rfl w4.heap.size 2 i0 (.int .i64 0) 1 8 Try.underlying24 HI.out HZ0.out HZ1.out HZ2.out rfl (by decide) _ _ _ rfl (rowg.alloc _) ⟨wr.heap.size, 0, none⟩ 1 1 [.int .i64 (-x)] rfl rfl ?c1 ?c2 ?c3 ?c4 ?c5 ?_)
          case c2 => first | exact one_one _ | rfl
          case c3 => unfold maxLen; omega
          case c4 => omega
          case c5 => first | omega | (simp; omega)
          intro v' w7 hown hgrow _
          obtain ⟨oo, cc, hvv⟩ := row_slice hown
          subst hvv
          have R4 := intRow_snoc hown
          have B4 := (hbg.alloc hb5 (.cells #[.int .i64 (-x)] 2)).grown hgrow (by simp; omega) (fun k hk => (World.ownsRow.lt rowg k hk).1)
          have HR4 := Lib.hid R4
          have HB4 := Lib.hid B4
          clear hown hgrow R4 B4 rowg
          go_wp2_with fail
          exact ⟨⟨k + 1, l ++ [-x], by omega, by go_num, by have := HLK.out; simp; omega, HR4.out, HB4.out⟩, by simp only [intOf]; omega⟩
      · have hlt' : ¬ (k : Int) < (f.length : Int) := by omega
        have HRG := Lib.hid rowg
        have HBG := Lib.hid hbg
        clear rowg hbg
        go_wp2_with fail
        go_ret2
        exact ⟨_, _, f, l, rfl, rowf.out, intRow_lower HRG.out hb4, HD.out.1, hl10, OR.out.2.trans (HBG.out.mono hb4)⟩
  · have h0' : (t == 0) = false := by simpa using h0
    clear h0
    go_wp2_with fail
    go_ret2
    exact ⟨_, _, f, g, rfl, OR.out.1, OS.out, HD.out.1, HE.out.1, OR.out.2⟩
theorem drawMulP_any (o : Option Addr) (len cap : Nat) (w : World) (hl : len ≤ 4096) (hc : CodeIn w o len) :
    Calls Try.prog 14 #[.slice o len cap] w (TwoL w) := by
  have HC := Lib.hid hc
  clear hc
  go_enter Try.func14, Try.ntmps14
  go_wp2_with fail
  refine (l06DrawTwo_any o len cap w hl HC.out).mono ?_
  rintro e w1 ⟨v, v', l, l', rfl, h⟩
  have H := Lib.hid h
  clear h
  go_wp2_with fail
  go_ret2
  exact ⟨v, v', l, l', rfl, H.out⟩
end Go.Proofs.Ytcennddgbpkclaa
