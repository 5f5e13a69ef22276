/- Contracts of the walk: the library's sort over a row of the call's own; impl.DivisorsOf; the walk of the law FnExactDivisorsOf: true for every integer. -/
import Derived.Test.YtbhhnnnghdmhgaaDiv
import Derived.Test.YtbhhnnnghdmhgaaSortLay
import Derived.Sort.OwnSortedInts
namespace Go.Proofs.Ytbhhnnnghdmhgaa
open Go.RowKit
set_option linter.unusedVariables false
theorem sort_own {base g cap : Nat} {w : World} {l : List Int} (h : IntRow base w (.slice (some ⟨g, 0, none⟩) l.length cap) l) (hl : l.length ≤ 1000000) :
    Calls Try.prog 51 #[.slice (some ⟨g, 0, none⟩) l.length cap] w fun e w' =>
      e = .returned (.tuple #[]) ∧ IntRow base w' (.slice (some ⟨g, 0, none⟩) l.length cap) (l.mergeSort fun x y => decide (x ≤ y)) ∧ w.grownBy w' (some g) := by
  rcases h.2 with ⟨h', _⟩ | ⟨g', cap', cur, h', hb, hg, h1, h2, h3, h4⟩
  · cases h'
  · cases h'
    have hlt := (Array.getElem?_eq_some_iff.1 hg).1
    have hH := holds_of_blockI hg (ss := l) (by rw [← h4, Nat.mul_one])
    have hcon := AnyG.slices_Sort_int Try.sortL g 0 cap l w hH hlt (by omega)
    refine (show Calls Try.prog 51 _ _ _ from hcon).mono fun e w' ⟨he, n, os, hw⟩ => ⟨he, ?_, ?_⟩
    · rw [hw]
      have := ownsRow_sortedI (n := n) (os := os) (ss := l) (ts := l.mergeSort fun x y => decide (x ≤ y)) (List.length_mergeSort _) hb hg h1 h2 h3
      unfold IntRow
      rw [List.length_mergeSort]
      exact this
    · rw [hw]; exact grownBy_sortedI _
theorem intRow_snoc2 {base : Nat} {w' : World} {v' : Value} {acc : List Int} {a b : Int} (h : w'.ownsRow base 2 1 v' (acc.length + 1 + 1) (acc.map (Value.int .i64) ++ [.int .i64 a, .int .i64 b])) : IntRow base w' v' (acc ++ [a] ++ [b]) := by
  unfold IntRow; rw [List.map_append, List.length_append, List.map_append, List.length_append, List.append_assoc]; exact h
theorem implL_yes {N k : Nat} (h : N % (k + 1) = 0) (h2 : (k + 1) * (k + 1) ≠ N) : implL N (k + 1) = implL N k ++ [k + 1] ++ [N / (k + 1)] := by
  rw [implL, implStep, if_pos h, if_pos h2, List.append_assoc]; rfl
theorem implL_root {N k : Nat} (h : N % (k + 1) = 0) (h2 : (k + 1) * (k + 1) = N) : implL N (k + 1) = implL N k ++ [k + 1] := by
  rw [implL, implStep, if_pos h, if_neg (by omega)]
theorem implL_no {N k : Nat} (h : N % (k + 1) ≠ 0) : implL N (k + 1) = implL N k := by
  rw [implL, implStep, if_neg h, List.append_nil]
set_option maxHeartbeats 1000000 in
theorem implDiv_val (N : Nat) (w : World) (h1 : 1 ≤ N) (h2 : N ≤ 1000000) :
    Calls Try.prog 24 #[.int .i64 (N : Int)] w (IntPost (divL N) (divC N) w) := by
  obtain ⟨i0, hi, hz0, hz1, hz2⟩ := info_parts Try.infoInt64
  have HI := Lib.hid hi
  have HZ0 := Lib.hid hz0
  have HZ1 := Lib.hid hz1
  have HZ2 := Lib.hid hz2
  clear hi hz0 hz1 hz2
  go_enter Try.func24, Try.ntmps24
  go_wp2
  go_loopw [4, 5] (fun v d wr => ∃ (x k : Nat), d = .int .i64 x ∧ x = k + 1 ∧ k * k ≤ N ∧ k ≤ 1000 ∧ IntRow w.heap.size wr v (ints (implL N k)) ∧ Below w.heap.size w wr) (fun _ d _ => 2000 - (intOf d).toNat)
  case atStart => exact ⟨1, 0, rfl, rfl, by omega, by omega, intRow_nil _ _, Below.refl _ _⟩
  case round =>
    obtain ⟨x, k, rfl, hx, hkk, hk, hrow, hb⟩ := hrel
    have bx : 1 ≤ x := by omega
    have bx2 : x ≤ 1001 := by omega
    have bl : (ints (implL N k)).length ≤ 3000 := by rw [ints_length]; have := implL_length N k; omega
    have bs := hb.size
    have bk := sq_bd bx2
    have HX := Lib.hid hx
    have HKK := Lib.hid hkk
    have HW := Lib.hid hrow
    have HB := Lib.hid hb
    have hx0 : ((x : Int) == 0) = false := by simp; omega
    clear hx hkk hrow hb
    by_cases hle : (x : Int) * x ≤ (N : Int)
    · have hle' : x * x ≤ N := by exact_mod_cast hle
      have hx1000 := sq_le_1000 (k := x) (n := (N : Int)) (by omega) hle
      have HLE := Lib.hid hle'
      clear hle'
      by_cases hm : N % x = 0
      · have hm' : (((N : Int) % (x : Int)) != 0) = false := by simp; exact_mod_cast hm
        have hm'' : (((N : Int) % (x : Int)) == 0) = true := by simp; exact_mod_cast hm
        by_cases hr : x * x = N
        · have hr' : (((x : Int) * (x : Int)) != (N : Int)) = false := by simp; exact_mod_cast hr
          have HS : Hid (ints (implL N (k + 1)) = ints (implL N k) ++ [(x : Int)]) := by
            show ints (implL N (k + 1)) = ints (implL N k) ++ [(x : Int)]
            rw [implL_root (by rw [← HX.out]; exact hm) (by rw [← HX.out]; exact hr), ints_snoc, HX.out]
          clear hm hr
          go_wp2_with (at_builtin; refine wpList_append_own _ rfl (.tmp 23) (.tmp 25) 34 rfl w.heap.size 2 i0 (.int .i64 0) 1 8 Try.underlying34 HI.out HZ0.out HZ1.out HZ2.out rfl (by decide) _ _ _ rfl (HW.out.alloc _) ⟨wr.heap.size, 0, none⟩ 1 1 [.int .i64 x] rfl rfl ?c1 ?c2 ?c3 ?c4 ?c5 ?_)
          case c1 => first | exact news_one _ _ _ | simp [Addr.add]
          case c2 => first | exact one_one _ | rfl
          case c3 => unfold maxLen; omega
          case c4 => omega
          case c5 => first | omega | (simp; omega)
          intro v' w1 hown hgrow _
          have HO := Lib.hid (intRow_snoc hown)
          have HG := Lib.hid (below_appendI HB.out HW.out hgrow)
          clear hown hgrow
          go_wp2
          go_roundw
          case rel => exact ⟨x + 1, k + 1, by go_num, by have := HX.out; omega, by rw [← HX.out]; exact HLE.out, by have := HX.out; omega, by rw [HS.out]; exact HO.out, HG.out⟩
          case measure => simp [intOf]; omega
        · have hr' : (((x : Int) * (x : Int)) != (N : Int)) = true := by simp; intro h; apply hr; exact_mod_cast h
          have HS : Hid (ints (implL N (k + 1)) = ints (implL N k) ++ [(x : Int)] ++ [(N : Int) / (x : Int)]) := by
            show ints (implL N (k + 1)) = ints (implL N k) ++ [(x : Int)] ++ [(N : Int) / (x : Int)]
            rw [implL_yes (by rw [← HX.out]; exact hm) (by rw [← HX.out]; exact hr), ints_snoc, ints_snoc, ← HX.out, Int.natCast_ediv]
          clear hm hr
          go_wp2_with (at_builtin; refine wpList_append_own _ rfl (.tmp 23) (.tmp 25) 34 rfl w.heap.size 2 i0 (.int .i64 0) 1 8 Try.underlying34 HI.out HZ0.out HZ1.out HZ2.out rfl (by decide) _ _ _ rfl (HW.out.alloc _) ⟨wr.heap.size, 0, none⟩ 1 1 [.int .i64 x] rfl rfl ?d1 ?d2 ?d3 ?d4 ?d5 ?_)
          case d1 => first | exact news_one _ _ _ | simp [Addr.add]
          case d2 => first | exact one_one _ | rfl
          case d3 => unfold maxLen; omega
          case d4 => omega
          case d5 => first | omega | (simp; omega)
          intro v' w1 hown hgrow _
          have HO := Lib.hid (intRow_snoc hown)
          have HG := Lib.hid (below_appendI HB.out HW.out hgrow)
          have bs1 := HG.out.size
          have q0 : 0 ≤ (N : Int) / (x : Int) := Int.ediv_nonneg (by omega) (by omega)
          have q1 : (N : Int) / (x : Int) ≤ 1000000 := Int.le_trans (Int.ediv_le_self _ (by omega)) (by omega)
          clear hown hgrow
          go_wp2_with (at_builtin; refine wpList_append_own _ rfl (.tmp 32) (.tmp 36) 34 rfl w.heap.size 2 i0 (.int .i64 0) 1 8 Try.underlying34 HI.out HZ0.out HZ1.out HZ2.out rfl (by decide) _ _ _ rfl (HO.out.alloc _) ⟨w1.heap.size, 0, none⟩ 1 1 [.int .i64 ((N : Int) / (x : Int))] rfl rfl ?e1 ?e2 ?e3 ?e4 ?e5 ?_)
          case e1 => first | exact news_one _ _ _ | simp [Addr.add]
          case e2 => first | exact one_one _ | rfl
          case e3 => unfold maxLen; rw [List.length_append, List.length_singleton]; omega
          case e4 => rw [List.length_append, List.length_singleton]; omega
          case e5 => first | omega | (simp; omega)
          intro v2 w2 hown2 hgrow2 _
          have HO2 := Lib.hid (intRow_snoc2 hown2)
          have HG2 := Lib.hid (below_appendI HG.out HO.out hgrow2)
          clear hown2 hgrow2
          go_wp2
          go_roundw
          case rel => exact ⟨x + 1, k + 1, by go_num, by have := HX.out; omega, by rw [← HX.out]; exact HLE.out, by have := HX.out; omega, by rw [HS.out]; exact HO2.out, HG2.out⟩
          case measure => simp [intOf]; omega
      · have hm' : (((N : Int) % (x : Int)) != 0) = true := by simp; intro h; apply hm; exact_mod_cast h
        have hm'' : (((N : Int) % (x : Int)) == 0) = false := by simp; intro h; apply hm; exact_mod_cast h
        have HS : Hid (ints (implL N (k + 1)) = ints (implL N k)) := by
          show ints (implL N (k + 1)) = ints (implL N k)
          rw [implL_no (by rw [← HX.out]; exact hm)]
        clear hm
        go_wp2
        go_roundw
        case rel => exact ⟨x + 1, k + 1, by go_num, by have := HX.out; omega, by rw [← HX.out]; exact HLE.out, by have := HX.out; omega, by rw [HS.out]; exact HW.out, HB.out⟩
        case measure => simp [intOf]; omega
    · have hgt : N < (k + 1) * (k + 1) := by
        rw [← HX.out]; refine Nat.lt_of_not_le fun h => hle ?_; exact_mod_cast h
      have hL : (ints (implL N k)).length = (specL N N).length := by rw [ints_length, same_length h1 HKK.out hgt]
      have hsort := sort_impl h1 HKK.out hgt
      have HSORT := Lib.hid hsort
      clear hgt hsort
      obtain ⟨o, cp, hv⟩ := row_slice HW.out
      subst hv
      by_cases h60 : 60 < (ints (implL N k)).length
      · have HD : Hid (divL N = [] ∧ divC N = 3) := by
          show divL N = [] ∧ divC N = 3
          rw [hL] at h60; simp [divL, divC, h60]
        clear hL
        go_wp2
        go_ret2
        rw [HD.out.1, HD.out.2]
        exact ⟨_, rfl, intRow_nil _ _, HB.out⟩
      · have HD : Hid (divL N = ints (specL N N) ∧ divC N = 0) := by
          show divL N = ints (specL N N) ∧ divC N = 0
          rw [hL] at h60; simp [divL, divC, h60]
        have HP : Hid (0 < (ints (implL N k)).length) := by
          show 0 < (ints (implL N k)).length
          rw [hL]
          exact List.length_pos_of_mem (mem_specL.2 ⟨Nat.le_refl 1, h1, Nat.mod_one N⟩)
        clear hL
        rcases row_shape HW.out with ⟨h0, _⟩ | ⟨_, g, c, hv, hbg, hg⟩
        · have := HP.out; omega
        · cases hv
          go_wp2_with fail
          refine (sort_own HW.out (by omega)).mono ?_
          rintro e w1 ⟨rfl, hown, hgrow⟩
          have HO := Lib.hid hown
          have HG := Lib.hid (HB.out.grown hgrow HB.out.size (fun q hq => by cases hq; exact hbg))
          clear hown hgrow
          go_wp2
          go_ret2
          rw [HD.out.1, HD.out.2]
          refine ⟨_, rfl, ?_, HG.out⟩
          have h := HO.out
          rw [HSORT.out] at h
          exact h
set_option maxHeartbeats 800000 in
theorem exactDiv_core (n : Int) (w : World) (l : List Int) (c : Int) (hl : l.length ≤ 2000)
    (hS : ∀ w, Calls Try.prog 25 #[.int .i64 n] w (IntPost l c w)) (hI : ∀ w, Calls Try.prog 24 #[.int .i64 n] w (IntPost l c w)) :
    Calls Try.prog 10 #[.int .i64 n] w fun e w' => e = .returned (.bool true) ∧ Below w.heap.size w w' := by
  have HS := Lib.hid hS
  have HI := Lib.hid hI
  clear hS hI
  go_enter Try.func10, Try.ntmps10
  go_wp2_with fail
  refine (HS.out _).mono ?_
  rintro e W1 ⟨v0, rfl, r0, b0⟩
  have R0 := Lib.hid r0; have B0 := Lib.hid b0; clear r0 b0
  go_wp2_with fail
  refine (HI.out _).mono ?_
  rintro e W2 ⟨v1, rfl, r1, b1⟩
  have R02 := Lib.hid (row_below R0.out b1 (Nat.le_refl _))
  have R1 := Lib.hid r1
  have B2 := Lib.hid (B0.out.trans (b1.mono B0.out.size))
  clear r1 b1
  go_wp2_with fail
  refine (eqInt_same R1.out R02.out (by omega)).mono ?_
  rintro e W3 ⟨rfl, nd3, rfl⟩
  go_wp2_with fail
  refine (markInt (w := W2.drewN nd3) R1.out (by omega) (by omega) (by omega)).mono ?_
  rintro e W4 ⟨rfl, m4, g4⟩
  have R04 := Lib.hid (row_apart (w := W2.drewN nd3) R02.out R1.out R0.out (Nat.le_refl _) g4)
  have B4 := Lib.hid (below_grown (below_drewN B2.out nd3) (w := W2.drewN nd3) R1.out g4 B0.out.size B2.out.size)
  have M4 := Lib.hid m4
  clear m4 g4
  go_wp2_with fail
  refine (heldInt M4.out (by omega) (by omega) (by omega)).mono ?_
  rintro e W5 ⟨rfl, nd, rfl⟩
  have hlen : (0 : Int) ≤ (l.length : Int) := Int.natCast_nonneg _
  go_wp2_with fail
  refine (HI.out _).mono ?_
  rintro e W6 ⟨v6, rfl, r6, b6⟩
  have R06 := Lib.hid (row_below (w := W4.drewN nd) R04.out b6 (Nat.le_refl _))
  have M6 := Lib.hid (marked_below (w := W4.drewN nd) M4.out b6 (Nat.le_refl _))
  have R66 := Lib.hid r6
  have B6 := Lib.hid ((below_drewN B4.out nd).trans (b6.mono B4.out.size))
  clear r6 b6
  go_wp2_with fail
  refine (eqInt_same R66.out R06.out (by omega)).mono ?_
  rintro e W7 ⟨rfl, nd7, rfl⟩
  go_wp2_with fail
  refine (heldInt (w := W6.drewN nd7) M6.out (by omega) (by omega) (by omega)).mono ?_
  rintro e W8 ⟨rfl, nd8, rfl⟩
  go_wp2
  go_ret
  exact ⟨rfl, below_drewN B6.out _⟩
theorem exactDiv_walk (n : Int) (_ : (Lit.int .i64 n).wf = true) (w : World) :
    Calls Try.prog 10 #[.int .i64 n] w fun e w' => e = .returned (.bool true) ∧ Below w.heap.size w w' := by
  by_cases h : 1 ≤ n ∧ n ≤ 1000000
  · obtain ⟨N, rfl⟩ : ∃ N : Nat, n = (N : Int) := ⟨n.toNat, by omega⟩
    exact exactDiv_core _ w (divL N) (divC N) (by have := divL_length N; omega) (fun w => specDiv_val N w (by omega) (by omega)) (fun w => implDiv_val N w (by omega) (by omega))
  · have h' : n < 1 ∨ 1000000 < n := by omega
    exact exactDiv_core n w [] 2 (by simp) (fun w => specDiv_no n w h') (fun w => implDiv_no n w h')
end Go.Proofs.Ytbhhnnnghdmhgaa
