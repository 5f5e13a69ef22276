/- Walks of the laws FnExactDigitsOf and FnExactFromDigits: true at every input. -/
import Derived.Test.YtejgcamogjgdkaaDigSpec3
import Derived.Test.YtejgcamogjgdkaaPadLaw
import Derived.Deep.DeepCutAuto
import Derived.OwnWalk
import Derived.Laws.OwnMore
namespace Go.Proofs.Ytejgcamogjgdkaa
open Go.RowKit
set_option linter.unusedVariables false
set_option linter.unusedSimpArgs false
theorem lies_rowgrown {w1 w2 : World} {b base n sz : Nat} {T : TypeId} {vs : Array Value} {v : Value} {xs : List Value} (h : Lies w1 b vs) (hr : w1.ownsRow base T sz v n xs) (hb : b < base) (hg : w1.grownBy w2 v.ownBlock) : Lies w2 b vs :=
  lies_block h (Nat.lt_of_lt_of_le h.1 hg.size) (hg.block b h.1 (by intro e; have := (World.ownsRow.lt hr b e.symm).1; omega))
set_option maxRecDepth 20000 in
theorem exactDigits_walk (p v u n : Int) (_ : (Lit.int .i64 p).wf = true) (_ : (Lit.int .i64 v).wf = true) (_ : (Lit.int .i64 u).wf = true) (_ : (Lit.int .i64 n).wf = true) (w : World) :
    Calls Try.prog 4 #[.agg (P4 p v u n)] w fun e w' => e = .returned (.bool true) ∧ Below w.heap.size w w' := by
  have hl : (digsL p v u n).length ≤ 2000 := by
    unfold digsL
    split
    · rename_i hx; have := (digL_all (padB_ok hx)).1; omega
    · simp
  have HS := Lib.hid fun w => specDigits_any p v u n w
  have HI := Lib.hid fun w => implDigits_any p v u n w
  generalize digsL p v u n = l at *
  generalize negC p v u n = c at *
  go_enter Try.func4, Try.ntmps4
  go_wp2_with (go_at_call 25; refine (toPadic_any _ _ _ _ _).mono ?_; rintro e wa ⟨rfl, hb⟩; have K := k1_first hb; obtain ⟨c0, c1, c2, c3⟩ := lies_four K.2)
  refine (HS.out _).mono ?_
  rintro e W1 ⟨v0, rfl, r0, b0⟩
  have K1 := k1_next K b0
  have R0 := Lib.hid r0
  clear r0 c0 c1 c2 c3 hb K b0
  obtain ⟨c0, c1, c2, c3⟩ := lies_four K1.2
  go_wp2_with (go_at_call 25; refine (toPadic_any _ _ _ _ _).mono ?_; rintro e wb ⟨rfl, hb⟩; have K2 := k1_next K1 hb; have R02 := Lib.hid (row_below R0.out hb (Nat.le_refl _)); clear c0 c1 c2 c3; obtain ⟨c0, c1, c2, c3⟩ := lies_four K2.2)
  refine (HI.out _).mono ?_
  rintro e W2 ⟨v1, rfl, r1, b1⟩
  have R03 := Lib.hid (row_below R02.out b1 (Nat.le_refl _))
  have R1 := Lib.hid r1
  have K3 := k1_next K2 b1
  have hwb : w.heap.size < wb.heap.size := lies_lt K2.2
  clear r1 b1 c0 c1 c2 c3 K1 hb
  go_wp2_with fail
  refine (eqInt_same R1.out R03.out (by omega)).mono ?_
  rintro e W3 ⟨rfl, nd3, rfl⟩
  go_wp2_with fail
  refine (markInt (w := W2.drewN nd3) R1.out (by omega) (by omega) (by omega)).mono ?_
  rintro e W4 ⟨rfl, m4, g4⟩
  have R04 := Lib.hid (row_apart (w := W2.drewN nd3) R03.out R1.out R02.out (Nat.le_refl _) g4)
  have B4 := Lib.hid (below_grown (below_drewN K3.1 nd3) (w := W2.drewN nd3) R1.out g4 (Nat.le_of_lt hwb) K3.1.size)
  have L4 := lies_rowgrown (w1 := W2.drewN nd3) (lies_drewN K3.2 nd3) R1.out hwb g4
  have M4 := Lib.hid m4
  clear m4 g4
  go_wp2_with fail
  refine (heldInt M4.out (by omega) (by omega) (by omega)).mono ?_
  rintro e W5 ⟨rfl, nd, rfl⟩
  have hlen : (0 : Int) ≤ (l.length : Int) := Int.natCast_nonneg _
  obtain ⟨c0, c1, c2, c3⟩ := lies_four (lies_drewN L4 nd)
  have BD := below_drewN B4.out nd
  have RD := Lib.hid (show IntRow _ (W4.drewN nd) _ _ from R04.out)
  have MD := Lib.hid (show MarkedRow (W4.drewN nd) _ _ _ _ from M4.out)
  clear K2 K3 L4 R04 M4 B4
  go_wp2_with (go_at_call 25; refine (toPadic_any _ _ _ _ _).mono ?_; rintro e wc ⟨rfl, hb⟩; have RE := Lib.hid (row_below RD.out hb (Nat.le_refl _)); have ME := Lib.hid (marked_below MD.out hb (Nat.le_refl _)); have BE := BD.trans (hb.mono BD.size))
  refine (HI.out _).mono ?_
  rintro e W6 ⟨v6, rfl, r6, b6⟩
  have R06 := Lib.hid (row_below RE.out b6 (Nat.le_refl _))
  have M6 := Lib.hid (marked_below ME.out b6 (Nat.le_refl _))
  have R66 := Lib.hid r6
  have B6 := Lib.hid (BE.trans (b6.mono BE.size))
  clear r6 b6
  go_wp2_with fail
  refine (eqInt_same R66.out R06.out (by omega)).mono ?_
  rintro e W7 ⟨rfl, nd7, rfl⟩
  go_wp2_with fail
  refine (heldInt (w := W6.drewN nd7) M6.out (by omega) (by omega) (by omega)).mono ?_
  rintro e W8 ⟨rfl, nd8, rfl⟩
  go_wp2
  go_ret
  exact ⟨rfl, below_drewN B6.out _⟩
/-- a list of integers that came in -/
def ArgInt (w : World) (o : Option Addr) (l : List Int) : Prop :=
  l.length = 0 ∨ ∃ b off, o = some ⟨b, off, none⟩ ∧ b < w.heap.size ∧ ∀ k, k < l.length → w.cell? ⟨b, off + k, none⟩ = some (.int .i64 (l.getD k 0))
theorem argInt_below {w w' : World} {o : Option Addr} {l : List Int} (h : ArgInt w o l) (hb : Below w.heap.size w w') : ArgInt w' o l := by
  rcases h with h | ⟨b, off, rfl, hlt, hc⟩
  · exact .inl h
  · exact .inr ⟨b, off, rfl, Nat.lt_of_lt_of_le hlt hb.size, fun k hk => by rw [hb.cell (p := ⟨b, off + k, none⟩) hlt]; exact hc k hk⟩
set_option maxRecDepth 100000 in
set_option maxHeartbeats 1600000 in
theorem toInt64S_any (o : Option Addr) (c : Nat) (l : List Int) (w : World) (hn : l.length ≤ 1048576) (ha : ArgInt w o l) :
    Calls Try.prog 29 #[.slice o l.length c] w fun e w' => ∃ v, e = .returned v ∧ IntRow w.heap.size w' v l ∧ Below w.heap.size w w' := by
  obtain ⟨i0, hi, hz0, hz1, hz2⟩ := info_parts Try.infoInt64
  have HI := Lib.hid hi
  have HZ0 := Lib.hid hz0
  have HZ1 := Lib.hid hz1
  have HZ2 := Lib.hid hz2
  have HA := Lib.hid ha
  clear hi hz0 hz1 hz2 ha
  go_enter Try.func29, Try.ntmps29
  go_wp2_with (at_make; refine wpList_make_full _ rfl (.tmp 6) (.tmp 6) 27 rfl w.heap.size 2 i0 (.int .i64 0) 1 Try.underlying27 HI.out HZ0.out HZ1.out .i64 .i64 _ _ l.length rfl rfl rfl rfl ?m1 ?m2 (Nat.le_refl _) ?_)
  case m1 => rw [HZ2.out]; omega
  case m2 => unfold maxLen; omega
  intro w2 hown hgrow
  have HO := Lib.hid hown
  have HB2 := Lib.hid ((Below.refl w.heap.size w).grown hgrow (Nat.le_refl _) (fun k h => by cases h))
  clear hown hgrow
  go_wp2
  go_loopw [4] (fun i wr => ∃ (k : Nat) (xs : List Value), k ≤ l.length ∧ i = .int .i64 k ∧ wr.ownsRow w.heap.size 2 1 (.slice (some ⟨w.heap.size, 0, none⟩) l.length l.length) l.length xs ∧ (∀ j, j < k → xs[j]? = (l.map (Value.int .i64))[j]?) ∧ Below w.heap.size w wr) (fun i _ => l.length - (intOf i).toNat)
  case atStart => exact ⟨0, _, Nat.zero_le _, rfl, HO.out, fun j h => absurd h (by omega), HB2.out⟩
  case round =>
    obtain ⟨k, xs, hk, rfl, hrow, hxs, hb⟩ := hrel
    have HW := Lib.hid hrow
    have HX := Lib.hid hxs
    have HB := Lib.hid hb
    have bs := hb.size
    have HXL := Lib.hid hrow.1
    clear hrow hxs
    by_cases hlt : k < l.length
    · rcases HA.out with hz | ⟨b, off, rfl, hbw, hcell⟩
      · omega
      · have a1 := hcell k hlt
        rw [← hb.cell (by exact hbw)] at a1
        clear hb hcell
        have HP := Lib.hid (show (l.map (Value.int .i64))[k]? = some (.int .i64 (l.getD k 0)) by simp [List.getD, hlt])
        generalize l.getD k 0 = x1 at *
        have S1 := Lib.hid (World.ownsRow.stored HW.out k (.int .i64 x1))
        have c3 := World.ownsRow.cellAt HW.out k (by omega)
        have f3 := World.ownsRow.frozenAt HW.out k
        obtain ⟨u3, hu3⟩ : ∃ u, xs[k]? = some u := ⟨_, List.getElem?_eq_getElem (by have := HXL.out; omega)⟩
        rw [hu3] at c3
        clear hu3
        have HN : Hid (∀ j, j < k + 1 → (xs.set k (.int .i64 x1))[j]? = (l.map (Value.int .i64))[j]?) := by
          intro j hj
          have hl2 := HXL.out
          by_cases e2 : j = k
          · subst e2
            rw [List.getElem?_set_self (by omega)]; exact HP.out.symm
          · rw [List.getElem?_set_ne (by omega)]; exact HX.out j (by omega)
        go_wp2
        exact ⟨⟨k + 1, _, by omega, by go_num, S1.out.1, HN.out, HB.out.setCell (Nat.le_refl _) _⟩, by simp only [intOf]; omega⟩
    · have hkl : k = l.length := by omega
      have HE : Hid (xs = l.map (Value.int .i64)) := by
        show xs = l.map (Value.int .i64)
        apply List.ext_getElem?
        intro j
        by_cases hj : j < k
        · exact HX.out j hj
        · rw [List.getElem?_eq_none (by have := HXL.out; omega), List.getElem?_eq_none (by rw [List.length_map]; omega)]
      clear hkl
      go_wp2
      go_ret
      exact ⟨_, rfl, by have h := HW.out; rw [HE.out] at h; exact h, hb⟩
end Go.Proofs.Ytejgcamogjgdkaa
