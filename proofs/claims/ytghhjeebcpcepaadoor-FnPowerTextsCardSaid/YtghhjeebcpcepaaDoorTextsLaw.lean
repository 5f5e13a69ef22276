/- The walk of the law FnPowerTexts: true for every code, in a world that holds what the library's number readers read; below the old memory nothing has turned. -/
import Derived.Test.YtghhjeebcpcepaaDoorDrawText
import Derived.Test.YtghhjeebcpcepaaDoorLikePow
import Derived.Test.YtghhjeebcpcepaaDoorReadLaw
namespace Go.Proofs.YtghhjeebcpcepaaDoor
open Go.RowKit
set_option linter.unusedVariables false
theorem text_yes {l : List (Int × Int)} (h : arePowB l = true) : textOf l = psT l ∧ textC l = 0 := by simp [textOf, textC, h]
theorem text_no {l : List (Int × Int)} (h : arePowB l = false) : textOf l = [] ∧ textC l = 1 := by simp [textOf, textC, h]
set_option maxRecDepth 100000 in
set_option maxHeartbeats 4000000 in
theorem texts_core (o : Option Addr) (len cap : Nat) (w : World) (hl : len ≤ 4096) (hc : CodeIn w o len) (he : Env w) (ht : Tab w) :
    Calls Tryd.prog 3 #[.slice o len cap] w fun e w' => e = .returned (.bool true) ∧ Below w.heap.size w w' := by
  have HC := Lib.hid hc
  have HE := Lib.hid he
  have HT := Lib.hid ht
  clear hc he ht
  go_enter Tryd.func3, Tryd.ntmps3
  go_wp2_with fail
  refine (big_no _ _ _ _ hl).mono ?_
  rintro e w' ⟨rfl, rfl⟩
  go_wp2_with fail
  refine (drawPowersText_any _ _ _ _ hl HC.out).mono ?_
  rintro e w1 ⟨v1, l, rfl, r1, l1, b1⟩
  obtain ⟨o1, c1, rfl⟩ := powRow_slice r1
  have R1 := Lib.hid r1
  have B1 := Lib.hid b1
  have T1 := Lib.hid (tab_below HT.out B1.out (Nat.le_refl _))
  clear r1 b1
  obtain ⟨tx, htx⟩ : ∃ tx, bsOf (textOf l) = tx := ⟨_, rfl⟩
  obtain ⟨tc, htc⟩ : ∃ tc, textC l = tc := ⟨_, rfl⟩
  go_wp2_with fail
  refine (implText_any _ _ _ l _ (by omega) R1.out T1.out).mono ?_
  rw [htx, htc]
  rintro e w2 ⟨rfl, b2⟩
  have R2 := Lib.hid (row_below R1.out b2 (Nat.le_refl _))
  have B2 := Lib.hid (B1.out.trans (b2.mono B1.out.size))
  clear b2 R1
  go_wp2_with fail
  refine (specText_any _ _ _ l _ (by omega) R2.out).mono ?_
  rw [htx, htc]
  rintro e w3 ⟨rfl, b3⟩
  have R3 := Lib.hid (row_below R2.out b3 (Nat.le_refl _))
  have B3 := Lib.hid (B2.out.trans (b3.mono B2.out.size))
  have C3 := Lib.hid (codeIn_below (B := 0) HC.out B3.out)
  clear b3 R2
  go_wp2_with fail
  refine (drawReadPowers_any _ _ _ _ hl C3.out).mono ?_
  rintro e w4 ⟨s, rfl, hs, b4⟩
  have R4 := Lib.hid (row_below R3.out b4 (Nat.le_refl _))
  have B4 := Lib.hid (B3.out.trans (b4.mono B3.out.size))
  clear b4 R3
  have hs' : s.size ≤ 1100000 := by omega
  have HCase := Lib.hid (readC_cases s)
  have HImpl := Lib.hid (fun w he ht => (implRead_any s w hs' he ht))
  have HSpec := Lib.hid (fun w => (specRead_any s w hs'))
  have ll := readL_len s
  obtain ⟨m, hm'⟩ : ∃ m, readL s = m := ⟨_, rfl⟩
  obtain ⟨c, hc'⟩ : ∃ c, readC s = c := ⟨_, rfl⟩
  rw [hm', hc'] at HCase
  rw [hm', hc'] at HImpl HSpec
  rw [hm'] at ll
  clear hm' hc'
  go_wp2_with fail
  refine (HImpl.out _ (env_below HE.out B4.out (Nat.le_refl _)) (tab_below HT.out B4.out (Nat.le_refl _))).mono ?_
  rintro e w5 ⟨v5, rfl, r5, b5⟩
  obtain ⟨o5, c5, rfl⟩ := powRow_slice r5
  have R15 := Lib.hid (row_below R4.out b5 (Nat.le_refl _))
  have R5 := Lib.hid r5
  have B5 := Lib.hid (B4.out.trans (b5.mono B4.out.size))
  clear r5 b5 R4
  go_wp2_with fail
  refine (HSpec.out _).mono ?_
  rintro e w6 ⟨v6, rfl, r6, b6⟩
  obtain ⟨o6, c6, rfl⟩ := powRow_slice r6
  have R16 := Lib.hid (row_below R15.out b6 (Nat.le_refl _))
  have R56 := Lib.hid (row_below R5.out b6 (Nat.le_refl _))
  have R6 := Lib.hid r6
  have B6 := Lib.hid (B5.out.trans (b6.mono B5.out.size))
  clear r6 b6 R15 R5
  go_wp2_with fail
  refine (likePw_same R56.out R6.out (by omega)).mono ?_
  rintro e w' ⟨rfl, n7, rfl⟩
  have B7 := Lib.hid (below_drewN B6.out n7)
  have HTX := Lib.hid htx
  have HTC := Lib.hid htc
  clear htx htc R6
  rcases HCase.out with ⟨rfl, hm1, hm2⟩ | rfl
  · have hmx := text_yes hm1
    have HM := Lib.hid (And.intro (show bsOf (textOf m) = s by rw [hmx.1]; exact hm2) hmx.2)
    clear hm1 hm2 hmx HCase
    go_wp2_with fail
    refine (implText_any (w := w6.drewN n7) _ _ _ m (by omega) R56.out (tab_below HT.out B7.out (Nat.le_refl _))).mono ?_
    rw [HM.out.1, HM.out.2]
    rintro e w8 ⟨rfl, b8⟩
    have R18 := Lib.hid (row_below (w := w6.drewN n7) R16.out b8 (Nat.le_refl _))
    have B8 := Lib.hid (B7.out.trans (b8.mono B7.out.size))
    clear b8 R16
    cases ha : arePowB l
    · have hx := text_no ha
      have hc1 : tc = 1 := by rw [← HTC.out]; exact hx.2
      subst hc1
      clear ha hx
      go_wp2
      go_ret
      exact ⟨rfl, B8.out⟩
    · have hx := text_yes ha
      have hc0 : tc = 0 := by rw [← HTC.out]; exact hx.2
      have hx2 : bsOf (psT l) = tx := by rw [← HTX.out, hx.1]
      subst hc0
      have hsz : tx.size ≤ 2600 := by rw [← hx2, bs_size]; exact psT_len ha
      have hrd := readL_text ha
      rw [hx2] at hrd
      have HImpl2 := Lib.hid (fun w he ht => (implRead_any tx w (by omega) he ht))
      rw [hrd.1, hrd.2] at HImpl2
      clear ha hx hx2 hrd
      go_wp2_with fail
      refine (HImpl2.out _ (env_below HE.out (B8.out) (Nat.le_refl _)) (tab_below HT.out (B8.out) (Nat.le_refl _))).mono ?_
      rintro e w9 ⟨v9, rfl, r9, b9⟩
      have R19 := Lib.hid (row_below R18.out b9 (Nat.le_refl _))
      have R9 := Lib.hid r9
      have B9 := Lib.hid ((B8.out).trans (b9.mono (B8.out).size))
      clear r9 b9
      go_wp2_with fail
      refine (likePw_same R9.out R19.out (by omega)).mono ?_
      rintro e w' ⟨rfl, n10, rfl⟩
      go_wp2
      go_ret
      exact ⟨rfl, below_drewN B9.out n10⟩
  · clear HCase
    cases ha : arePowB l
    · have hx := text_no ha
      have hc1 : tc = 1 := by rw [← HTC.out]; exact hx.2
      subst hc1
      clear ha hx
      go_wp2
      go_ret
      exact ⟨rfl, B7.out⟩
    · have hx := text_yes ha
      have hc0 : tc = 0 := by rw [← HTC.out]; exact hx.2
      have hx2 : bsOf (psT l) = tx := by rw [← HTX.out, hx.1]
      subst hc0
      have hsz : tx.size ≤ 2600 := by rw [← hx2, bs_size]; exact psT_len ha
      have hrd := readL_text ha
      rw [hx2] at hrd
      have HImpl2 := Lib.hid (fun w he ht => (implRead_any tx w (by omega) he ht))
      rw [hrd.1, hrd.2] at HImpl2
      clear ha hx hx2 hrd
      go_wp2_with fail
      refine (HImpl2.out _ (env_below HE.out (B7.out) (Nat.le_refl _)) (tab_below HT.out (B7.out) (Nat.le_refl _))).mono ?_
      rintro e w9 ⟨v9, rfl, r9, b9⟩
      have R19 := Lib.hid (row_below (w := w6.drewN n7) R16.out b9 (Nat.le_refl _))
      have R9 := Lib.hid r9
      have B9 := Lib.hid ((B7.out).trans (b9.mono (B7.out).size))
      clear r9 b9
      go_wp2_with fail
      refine (likePw_same R9.out R19.out (by omega)).mono ?_
      rintro e w' ⟨rfl, n10, rfl⟩
      go_wp2
      go_ret
      exact ⟨rfl, below_drewN B9.out n10⟩
theorem texts_walk (a : Option Addr) (len cap : Nat) (zs : List Int) (w : World) (h : IsRowOf .u8 w a len cap zs) (he : Env w) (ht : Tab w) :
    Calls Tryd.prog 3 #[.slice a len cap] w fun e w' => e = .returned (.bool true) ∧ Below w.heap.size w w' := by
  obtain ⟨hc, hm⟩ := codeIn_of h
  by_cases hl : len ≤ 4096
  · exact texts_core a len cap w hl hc he ht
  · clear hc h
    go_enter Tryd.func3, Tryd.ntmps3
    go_wp2_with (go_at_call 9; refine (big_yes _ _ _ _ (by omega) (by omega)).mono ?_; rintro e w' ⟨rfl, rfl⟩)
    go_ret
    exact ⟨rfl, Below.refl _ _⟩
end Go.Proofs.YtghhjeebcpcepaaDoor
