/- The drawn arguments of chapter 7's laws: two polynomials, the second one often monic. -/
import Derived.Test.YtbolmmgkmgmfeaaPolyDraw2
import Derived.OneCell
namespace Go.Proofs.Ytbolmmgkmgmfeaa
open Go.RowKit
set_option linter.unusedVariables false
set_option linter.unusedSimpArgs false
set_option maxRecDepth 20000 in
set_option maxHeartbeats 1600000 in
theorem drawDM_any (o : Option Addr) (len cap : Nat) (w : World) (hl : len ≤ 4096) (hc : CodeIn w o len) :
    Calls Try.prog 21 #[.slice o len cap] w (TwoL w) := by
  have HC := Lib.hid hc
  clear hc
  go_enter Try.func21, Try.ntmps21
  go_wp2_with fail
  refine (from_any _ _ _ _ hl HC.out).mono ?_
  rintro e w1 ⟨q, rfl, hq, hs1, hb1⟩
  have HB1 := Lib.hid hb1
  clear hb1 HC hl
  go_wp2_with fail
  refine (l06Draw_any o len cap q w1 hs1).mono ?_
  rintro e w2 ⟨v, f, rfl, R, hD⟩
  have HD := Lib.hid hD
  clear hs1 hD
  obtain ⟨o3, c3, hv⟩ := row_slice R.2.2.1
  subst hv
  have hw12 := R.2.1.size
  have HAP := Lib.hid fun k (hk : (Value.slice o3 f.length c3).ownBlock = some k) => (World.ownsRow.lt R.2.2.1 k hk).2
  go_wp2_with fail
  refine (l06Draw_any o len cap q w2 R.1).mono ?_
  rintro e w3 ⟨v, g, rfl, S, hE⟩
  have HE := Lib.hid hE
  replace R := vs_next R S.1 S.2.1
  clear hE
  obtain ⟨o4, c4, hv⟩ := row_slice S.2.2.1
  subst hv
  have hg10 : g.length ≤ 10 := HE.out.1
  by_cases hg0 : g.length = 0
  · have hg0' : ¬ 0 < g.length := by omega
    have OR := Lib.hid (vs_out R HB1.out hq)
    have OS := Lib.hid (intRow_lower (b := w.heap.size) S.2.2.1 (Nat.le_trans HB1.out.size hw12))
    clear R S
    rw [hg0] at OS ⊢
    go_wp2_with fail
    go_ret2
    refine ⟨_, _, f, g, rfl, OR.out.1, OS.out, HD.out.1, HE.out.1, OR.out.2⟩
  · have hg0' : 0 < g.length := by omega
    go_wp2_with fail
    refine (next_any _ _ _ _ _ _ (by omega) S.1).mono ?_
    rintro e w4 ⟨t, rfl, t0, t1, hs, hg, hz⟩
    replace R := vs_next R hs hg
    replace S := vs_next S hs hg
    clear hs hg hz
    by_cases h0 : 0 < t
    · obtain ⟨g', c', e1, hbg, hlt⟩ : ∃ g' c', (Value.slice o4 g.length c4) = .slice (some ⟨g', 0, none⟩) g.length c' ∧ w2.heap.size ≤ g' ∧ g' < w4.heap.size := by
        rcases row_shape S.2.2.1 with ⟨hz, _⟩ | ⟨_, g', c', e, h1, h2⟩
        · omega
        · exact ⟨g', c', e, h1, h2⟩
      injection e1 with e1 _ e2
      subst e1 e2
      obtain ⟨d, hd⟩ : ∃ d, d + 1 = g.length := ⟨g.length - 1, by omega⟩
      have hd1 : (g.length : Int) - 1 = (d : Int) := by omega
      have hdl : d < g.length := by omega
      have c0 := int_at S.2.2.1 rfl hdl
      have f0 := int_frozen S.2.2.1 rfl d
      have hw1 := HB1.out.size
      have OS2 := int_stored S.2.2.1 rfl d 1
      have hR2 : IntRow w1.heap.size (w4.setCell ⟨g', d, none⟩ (.int .i64 1)) (.slice o3 f.length c3) f := by
        refine ownsRow_setCell_other R.2.2.1 ?_ _
        intro he
        have := HAP.out g' he
        omega
      have hB4 := (vs_out R HB1.out hq).2
      have OR := Lib.hid (intRow_lower (b := w.heap.size) hR2 hw1)
      have OS := Lib.hid (intRow_lower (b := w.heap.size) OS2 (Nat.le_trans hw1 hw12))
      have OB := Lib.hid (hB4.setCell (p := ⟨g', d, none⟩) (show w.heap.size ≤ g' by omega) (.int .i64 1))
      clear R S OS2 hR2 hB4
      go_wp2_with fail
      go_ret2
      exact ⟨_, _, f, g.set d 1, rfl, OR.out, OS.out, HD.out.1, by rw [List.length_set]; exact hg10, OB.out⟩
    · have ht : t = 0 := by omega
      subst ht
      have OR := Lib.hid (vs_out R HB1.out hq)
      have OS := Lib.hid (intRow_lower (b := w.heap.size) S.2.2.1 (Nat.le_trans HB1.out.size hw12))
      clear R S
      go_wp2_with fail
      go_ret2
      exact ⟨_, _, f, g, rfl, OR.out.1, OS.out, HD.out.1, HE.out.1, OR.out.2⟩
end Go.Proofs.Ytbolmmgkmgmfeaa
