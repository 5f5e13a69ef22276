/- The walk of the law FnExactReadPowers: true for every text, in a world that holds what the library's number readers read; below the old memory nothing has turned. -/
import Derived.Test.YtghhjeebcpcepaaDoorImplRead
import Derived.Test.YtghhjeebcpcepaaDoorFactLaw
namespace Go.Proofs.YtghhjeebcpcepaaDoor
open Go.RowKit Go.Shelf
attribute [local go_sem] Oper.semAt_some
set_option linter.unusedVariables false
set_option maxRecDepth 20000 in
theorem implRead_one (w : World) : Calls Tryd.prog 14 #[.string ⟨#[49]⟩] w (RPost (readL ⟨#[49]⟩) (readC ⟨#[49]⟩) w) := by
  rw [read_one.1, read_one.2]
  refine (callsIn_wide (n := 4)).1 ?_
  refine callsIn_of_wp_marks Tryd.func14 rfl trivial ?_ rfl
  simp only [Tryd.ntmps14, List.size_toArray, List.length_cons, List.length_nil, Nat.reduceAdd, Nat.reduceSub, Array.replicate_succ, Array.replicate_zero, List.push_toArray, List.append_toArray, List.nil_append, List.cons_append]
  gi_wp2
  refine ⟨.tuple #[.slice none 0 0, .int .i64 0], by simp [results, Tryd.results14, go_sem], ?_⟩
  exact ⟨_, rfl, powRow_nil _ _, ((Below.refl _ _).alloc (Nat.le_refl _) _).alloc (by simp) _⟩
theorem implRead_any (s : ByteArray) (w : World) (hs : s.size ≤ 1100000) (he : Env w) (ht : Tab w) : Calls Tryd.prog 14 #[.string s] w (RPost (readL s) (readC s) w) := by
  by_cases h : s = ⟨#[49]⟩
  · subst h; exact implRead_one w
  · exact implRead_more s w hs h he ht
theorem readL_len (s : ByteArray) : (readL s).length ≤ 60 := by
  unfold readL
  split
  · rename_i h
    unfold readB at h
    simp only [Bool.and_eq_true] at h
    have h1 := h.1
    unfold arePowB at h1
    simp only [Bool.and_eq_true, decide_eq_true_eq] at h1
    exact h1.1
  · simp
set_option maxRecDepth 20000 in
set_option maxHeartbeats 1600000 in
theorem read_core (s : ByteArray) (w : World) (hs : s.size ≤ 1048576) (he : Env w) (ht : Tab w) :
    Calls Tryd.prog 6 #[.string s] w fun e w' => e = .returned (.bool true) ∧ Below w.heap.size w w' := by
  have hs' : s.size ≤ 1100000 := by omega
  have hl := readL_len s
  obtain ⟨l, hl'⟩ : ∃ l, readL s = l := ⟨_, rfl⟩
  obtain ⟨c, hc'⟩ : ∃ c, readC s = c := ⟨_, rfl⟩
  have HSpec := Lib.hid (fun w => (specRead_any s w hs'))
  have HImpl := Lib.hid (fun w he ht => (implRead_any s w hs' he ht))
  rw [hl', hc'] at HSpec HImpl
  rw [hl'] at hl
  have HE := Lib.hid he
  have HT := Lib.hid ht
  clear he ht hl' hc'
  go_enter Tryd.func6, Tryd.ntmps6
  go_wp2_with fail
  refine (HSpec.out _).mono ?_
  rintro e W1 ⟨v0, rfl, r0, b0⟩
  have R0 := Lib.hid r0; have B0 := Lib.hid b0; clear r0 b0
  go_wp2_with fail
  refine (HImpl.out _ (env_below HE.out B0.out (Nat.le_refl _)) (tab_below HT.out B0.out (Nat.le_refl _))).mono ?_
  rintro e W2 ⟨v1, rfl, r1, b1⟩
  have R02 := Lib.hid (row_below R0.out b1 (Nat.le_refl _))
  have R1 := Lib.hid r1
  have B2 := Lib.hid (B0.out.trans (b1.mono B0.out.size))
  have S2 := b1.size
  clear r1 b1
  go_wp2_with fail
  refine (eqPow_same R1.out R02.out (by omega)).mono ?_
  rintro e W3 ⟨rfl, b3⟩
  have R03 := Lib.hid (row_below R02.out b3 (Nat.le_refl _))
  have R13 := Lib.hid (row_below R1.out b3 (Nat.le_refl _))
  have B3 := Lib.hid (B2.out.trans (b3.mono B2.out.size))
  clear b3 R02 R1
  go_wp2_with fail
  refine (markPow R13.out (by omega) (by omega) (by omega)).mono ?_
  rintro e W4 ⟨rfl, m4, g4⟩
  have R04 := Lib.hid (row_apart R03.out R13.out R0.out (Nat.le_refl _) g4)
  have B4 := Lib.hid (below_grown B3.out R13.out g4 B0.out.size B3.out.size)
  have M4 := Lib.hid m4
  clear m4 g4
  go_wp2_with fail
  refine (heldPow M4.out (by omega) (by omega) (by omega)).mono ?_
  rintro e W5 ⟨rfl, nd, rfl⟩
  have hlen : (0 : Int) ≤ (l.length : Int) := Int.natCast_nonneg _
  have B5 := Lib.hid (below_drewN B4.out nd)
  go_wp2_with fail
  refine (HImpl.out _ (env_below HE.out B5.out (Nat.le_refl _)) (tab_below HT.out B5.out (Nat.le_refl _))).mono ?_
  rintro e W6 ⟨v6, rfl, r6, b6⟩
  have R06 := Lib.hid (row_below (w := W4.drewN nd) R04.out b6 (Nat.le_refl _))
  have M6 := Lib.hid (marked_below (w := W4.drewN nd) M4.out b6 (Nat.le_refl _))
  have R66 := Lib.hid r6
  have B6 := Lib.hid (B5.out.trans (b6.mono B4.out.size))
  clear r6 b6
  go_wp2_with fail
  refine (eqPow_same R66.out R06.out (by omega)).mono ?_
  rintro e W7 ⟨rfl, b7⟩
  have M7 := Lib.hid (marked_below M6.out b7 (Nat.le_refl _))
  have B7 := Lib.hid (B6.out.trans (b7.mono B6.out.size))
  clear b7
  go_wp2_with fail
  refine (heldPow M7.out (by omega) (by omega) (by omega)).mono ?_
  rintro e W8 ⟨rfl, nd8, rfl⟩
  go_wp2
  go_ret
  exact ⟨rfl, below_drewN B7.out _⟩
theorem read_big (s : ByteArray) (w : World) (hs : 1048576 < s.size) :
    Calls Tryd.prog 6 #[.string s] w fun e w' => e = .returned (.bool true) ∧ Below w.heap.size w w' := by
  go_enter Tryd.func6, Tryd.ntmps6
  go_wp2
  go_ret
  exact ⟨rfl, Below.refl _ _⟩
theorem readLaw_walk (s : ByteArray) (w : World) (he : Env w) (ht : Tab w) :
    Calls Tryd.prog 6 #[.string s] w fun e w' => e = .returned (.bool true) ∧ Below w.heap.size w w' :=
  (Nat.lt_or_ge 1048576 s.size).elim (fun h => read_big s w h) (fun h => read_core s w h he ht)
end Go.Proofs.YtghhjeebcpcepaaDoor
