/- Contract of the walk: the iterator digits of a valid number hands on its digits, one by one; it keeps all that lay, and asks of a round only that its own block stays. -/
import Derived.RangeFuncNested
import Derived.RangeFuncBound
import Derived.RangeFuncCalls
import Derived.RangeFuncLeaves
import Derived.RangeFuncBox
import Derived.WalkKit
import Derived.OwnWalkIn
import Derived.TacticsInMore
import Derived.LoopNIn
import Derived.LoopIn
import Derived.Test.YtmkelfkbbdfjdaaRangeB
import Derived.Test.YtmkelfkbbdfjdaaDigMath
import Derived.Test.YtmkelfkbbdfjdaaRow
namespace Go.Proofs.Ytmkelfkbbdfjdaa
open Go.RowKit
set_option linter.unusedVariables false
set_option maxRecDepth 20000
/-- a box, and what lay before, behind a step of the loop's own record -/
theorem boxed_putB {W : World} {j k : Nat} {t : TypeId} {v : Value} {o o' : Obj} (h : Boxed W j t v) (hk : W.heap[k]? = some o) (ho : o.isCells = false) : Boxed (W.putObj k o') j t v := by
  have hne : j ≠ k := by
    rintro rfl
    have h' : W.heap[j]? = some (Obj.cells #[v] t (0, 0)) := h
    rw [h'] at hk; cases hk; cases ho
  exact (World.putObj_heap_other hne).trans h
theorem below_putB {b k : Nat} {w W : World} {o' : Obj} (h : Below b w W) (hk : b ≤ k) : Below b w (W.putObj k o') :=
  ⟨h.os, h.tape, h.output, by have := h.size; simp [World.putObj]; omega, fun j hj => (World.putObj_heap_other (by omega)).trans (h.block j hj)⟩
theorem boxed_belowB {W w2 : World} {j : Nat} {t : TypeId} {v : Value} (h : Boxed W j t v) (hb : Below W.heap.size W w2) : Boxed w2 j t v := (hb.block j h.lt).trans h
theorem keeps_belowB {W w2 : World} (hb : Below W.heap.size W w2) : KeepsOthers W w2 :=
  ⟨hb.size, fun k o hk _ => (hb.block k (Array.getElem?_eq_some_iff.1 hk).1).trans hk⟩
/-- a number lies in block b -/
def PadAt (w : World) (b : Nat) (p v u n : Int) : Prop := w.heap[b]? = some (.cells (P4 p v u n) 25 (0, 0))
theorem padAt_four {w : World} {b : Nat} {p v u n : Int} (h : PadAt w b p v u n) :
    w.cell? ⟨b, 0, none⟩ = some (.int .i64 p) ∧ w.cell? ⟨b, 1, none⟩ = some (.int .i64 v) ∧ w.cell? ⟨b, 2, none⟩ = some (.int .i64 u) ∧ w.cell? ⟨b, 3, none⟩ = some (.int .i64 n) := by
  have h' : w.heap[b]? = _ := h
  refine ⟨?_, ?_, ?_, ?_⟩ <;> simp [World.cell?, h']
/-- an iterator's own steps only add memory -/
abbrev StU (A B : World) : Prop := Below A.heap.size A B
/-- numbers that lie stay -/
def FrP (A B : World) : Prop := ∀ (b : Nat) (vs : Array Value) (z : Nat × Nat), A.heap[b]? = some (.cells vs 25 z) → B.heap[b]? = A.heap[b]?
theorem frP_refl (A : World) : FrP A A := fun _ _ _ _ => rfl
theorem frP_trans {A B C : World} (h : FrP A B) (k : FrP B C) : FrP A C := fun b vs z hb => by
  have e := h b vs z hb
  exact (k b vs z (e.trans hb)).trans e
theorem frP_put {A W : World} {k : Nat} {o o' : Obj} (h : FrP A W) (hk : W.heap[k]? = some o) (ho : o.isCells = false) : FrP A (W.putObj k o') := by
  intro b vs z hb
  have e := h b vs z hb
  refine (World.putObj_heap_other ?_).trans e
  rintro rfl
  rw [e, hb] at hk; cases hk; cases ho
theorem frP_below {A B : World} (h : Below A.heap.size A B) : FrP A B := fun b vs z hb => h.block b (Array.getElem?_eq_some_iff.1 hb).1
theorem frP_set {A : World} {j : Nat} {t : TypeId} {v : Value} (u : Value) (h : Boxed A j t v) (ht : t ≠ 25) : FrP A (A.setCell ⟨j, 0, none⟩ u) := by
  intro b vs z hb
  refine Below.heap_setCell _ _ _ _ ?_
  intro e
  have h' : A.heap[j]? = some (Obj.cells #[v] t (0, 0)) := h
  rw [show b = j from e, h'] at hb
  simp at hb
  exact ht hb.2.1
theorem frP_row {A B : World} {base n sz : Nat} {T : TypeId} {v : Value} {xs : List Value} (hr : A.ownsRow base T sz v n xs) (hT : T ≠ 25) (hg : A.grownBy B v.ownBlock) : FrP A B := by
  intro b vs z hb
  refine hg.block b (Array.getElem?_eq_some_iff.1 hb).1 ?_
  intro e
  rcases hr.2 with ⟨rfl, _⟩ | ⟨g, cap, cur, rfl, _, hgb, _⟩
  · cases e
  · obtain rfl : b = g := by simpa [Value.ownBlock] using e
    rw [hgb] at hb
    simp at hb
    exact hT hb.2.1
theorem digL_prefix (p u : Int) {i n : Nat} (h : i ≤ n) : digL p u i <+: digL p u n := by
  obtain ⟨d, rfl⟩ := Nat.exists_eq_add_of_le h
  clear h
  induction d with
  | zero => exact List.prefix_refl _
  | succ d ih => rw [← Nat.add_assoc, digL_succ]; exact ih.trans (List.prefix_append _ _)
/-- one step of the digits -/
theorem dig_step {p u : Int} (hp2 : 2 ≤ p) (hp97 : p ≤ 97) (hu0 : 0 ≤ u) (hu2 : u ≤ 1000000000) (I : Nat) :
    ∃ a : Int, u / pw p (I : Int) = a ∧ 0 ≤ a ∧ a ≤ 1000000000 ∧ a.tmod p = a % p ∧ a.tdiv p = a / p ∧ IntKind.i64.wrap (a % p) = a % p ∧ IntKind.i64.wrap (a / p) = a / p ∧ u / pw p ((I + 1 : Nat) : Int) = a / p ∧ digL p u (I + 1) = digL p u I ++ [a % p] := by
  have g := pw_ge1 (p := p) (a := (I : Int)) hp2
  have a0 : 0 ≤ u / pw p (I : Int) := Int.ediv_nonneg hu0 (by omega)
  have a1 : u / pw p (I : Int) ≤ u := Int.ediv_le_self _ hu0
  refine ⟨_, rfl, a0, by omega, tmod_nonneg a0, Int.tdiv_eq_ediv_of_nonneg a0, ?_, ?_, ?_, digL_succ p u I⟩
  · have := Int.emod_nonneg (u / pw p (I : Int)) (show p ≠ 0 by omega)
    have := Int.emod_lt_of_pos (u / pw p (I : Int)) (show 0 < p by omega)
    exact IntWalk.i64_in _ (by omega)
  · have := Int.ediv_nonneg a0 (show 0 ≤ p by omega)
    have := Int.ediv_le_self p a0
    exact IntWalk.i64_in _ (by omega)
  · have e := pw_add (p := p) (a := (I : Int)) (b := 1) (by omega) (by omega)
    rw [pw_one] at e
    rw [show ((I + 1 : Nat) : Int) = (I : Int) + 1 by omega, e, Int.ediv_ediv_of_nonneg (by omega)]
set_option maxRecDepth 20000 in
set_option maxHeartbeats 1600000 in
theorem digits_by (n : Nat) (hn : 1 ≤ n) (p v u k : Int) (h : POk p v u k) :
    SeqBb Fence.wide n Try.prog 27 #[.agg (P4 p v u k)] #[] (fun x : Int => #[.int .i64 x]) StU FrP (fun xs => xs = digL p u k.toNat) (fun pre => pre <+: digL p u k.toNat) (fun _ => True) := by
  intro l J Jx W _ hJ hX h0 hY
  obtain ⟨hp2, hp97, hk0, hk1, _, _, hu0, _, hu2⟩ := pok_bd h
  clear h
  have H0 := Lib.hid (hJ _ _ _ h0 ((Below.refl _ W).alloc (Nat.le_refl _) (.cells (P4 p v u k) 25)))
  have hb0 : PadAt (W.alloc (.cells (P4 p v u k) 25)) W.heap.size p v u k := World.alloc_heap_new W _
  have HB0 := Lib.hid hb0
  have hu1 := pw_zero p
  have HU := Lib.hid (show u / pw p ((0 : Nat) : Int) = u by rw [show ((0 : Nat) : Int) = 0 from rfl, pw_zero, Int.ediv_one])
  have hz : (p == 0) = false := by simp; omega
  have hz2 : ¬ p = 0 := by omega
  clear h0 hb0 hu1
  show CallsIn Fence.wide n Try.prog 27 #[.agg (P4 p v u k), .func (.yield l) #[] #[]] W _
  refine callsIn_of_wp Try.func27 rfl trivial ?_ rfl
  simp only [Try.ntmps27, List.size_toArray, List.length_cons, List.length_nil, Nat.reduceAdd, Nat.reduceSub, Array.replicate_succ, Array.replicate_zero, List.push_toArray, List.append_toArray, List.nil_append, List.cons_append]
  gi_wp2
  gi_loopw [4, 9] (fun r i wr => ∃ I : Nat, r = .int .i64 (u / pw p (I : Int)) ∧ i = .int .i64 I ∧ (I : Int) ≤ k ∧ PadAt wr W.heap.size p v u k ∧ J (digL p u I) wr)
    (fun r i wr => k.toNat - (intOf i).toNat)
  case atStart =>
    exact ⟨0, by rw [HU.out], rfl, hk0, HB0.out, H0.out⟩
  case round =>
    obtain ⟨I, rfl, rfl, hI, hb, hj⟩ := hrel
    obtain ⟨c0, c1, c2, c3⟩ := padAt_four hb
    have HB := Lib.hid hb
    clear hb
    by_cases hlt : (I : Int) < k
    · obtain ⟨a, ha, a0, a1, ht, hd, hw1, hw2, hn2, hs⟩ := dig_step hp2 hp97 hu0 hu2 I
      have HY := Lib.hid (hY (digL p u I) (a % p) wr (by rw [← hs]; exact digL_prefix p u (by omega)) hj)
      have HN := Lib.hid hn2
      have HS := Lib.hid hs
      rw [ha]
      clear hj ha hn2 hs
      obtain ⟨fn, tmps, assign, body, hy, hR⟩ := HY.out
      clear HY
      gi_wp2
      refine hR.mono ?_
      rintro e W3 (⟨rfl, hJ3, hF3⟩ | ⟨rfl, hX3⟩)
      · have hb3 : PadAt W3 W.heap.size p v u k := (hF3 _ _ _ HB.out).trans HB.out
        obtain ⟨d0, d1, d2, d3⟩ := padAt_four hb3
        have HB3 := Lib.hid hb3
        clear hb3 c0 c1 c2 c3
        gi_wp2
        go_roundw
        case rel => exact ⟨I + 1, by rw [HN.out], by go_num, by omega, HB3.out, by rw [HS.out]; exact hJ3⟩
        case measure => simp [intOf]; omega
      · gi_wp2
        refine bodyPost_ret (results_none rfl _ _ _) rfl ?_
        exact ⟨_, rfl, .inr ⟨_, by rw [← HS.out]; exact digL_prefix p u (by omega), hX3⟩⟩
    · have hk2 : I = k.toNat := by omega
      have HK := Lib.hid hk2
      have HJ := Lib.hid hj
      clear hk2 hj
      gi_wp2
      go_end0
      refine ⟨?_, .inl (by rw [← HK.out]; exact HJ.out)⟩
      exact ⟨_, rfl⟩
end Go.Proofs.Ytmkelfkbbdfjdaa
