/- Contracts of the walk: slices.Backward, ranged over: where the round writes into the list (indices alone), and where the list stays. -/
import Derived.RangeFuncNested
import Derived.RangeFuncBound
import Derived.RangeFuncCalls
import Derived.RangeFuncLeaves
import Derived.RangeFuncBox
import Derived.WalkKit
import Derived.OwnWalkIn
import Derived.TacticsInMore
import Derived.LoopNIn
import Derived.LoopIn
import Derived.Shelf.Abstract
import Derived.Test.YtjmecidbnoimnaaRangeB
import Derived.Test.YtjmecidbnoimnaaStillIn
import Derived.Test.YtjmecidbnoimnaaRow
namespace Go.Proofs.Ytjmecidbnoimnaa
open Go.RowKit Go.Shelf
attribute [local go_sem] Oper.semAt_some
set_option linter.unusedVariables false
set_option maxRecDepth 20000
set_option linter.unusedSimpArgs false
theorem boxed_put8 {W : World} {j k : Nat} {t : TypeId} {v : Value} {o o' : Obj} (h : Boxed W j t v) (hk : W.heap[k]? = some o) (ho : o.isCells = false) : Boxed (W.putObj k o') j t v := by
  have hne : j ≠ k := by
    rintro rfl
    have h' : W.heap[j]? = some (Obj.cells #[v] t (0, 0)) := h
    rw [h'] at hk; cases hk; cases ho
  exact (World.putObj_heap_other hne).trans h
theorem below_put8 {b k : Nat} {w W : World} {o' : Obj} (h : Below b w W) (hk : b ≤ k) : Below b w (W.putObj k o') :=
  ⟨h.os, h.tape, h.output, by have := h.size; simp [World.putObj]; omega, fun j hj => (World.putObj_heap_other (by omega)).trans (h.block j hj)⟩
theorem boxed_below8 {W w2 : World} {j : Nat} {t : TypeId} {v : Value} (h : Boxed W j t v) (hb : Below W.heap.size W w2) : Boxed w2 j t v := (hb.block j h.lt).trans h
theorem keeps_below8 {W w2 : World} (hb : Below W.heap.size W w2) : KeepsOthers W w2 :=
  ⟨hb.size, fun k o hk _ => (hb.block k (Array.getElem?_eq_some_iff.1 hk).1).trans hk⟩
theorem boxed_set8 {W : World} {j : Nat} {t : TypeId} {v : Value} (h : Boxed W j t v) {a : Addr} (ha : j ≠ a.block) (u : Value) : Boxed (W.setCell a u) j t v := by
  have e : (W.setCell a u).heap[j]? = W.heap[j]? := Below.heap_setCell _ _ _ _ ha
  exact e.trans h
/-- an iterator's own steps only add memory -/
abbrev StU8 (A B : World) : Prop := Below A.heap.size A B
theorem backward8_made (o : Option Addr) (n c : Nat) (w : World) :
    Calls Try.prog 112 #[.slice o n c] w fun e w' => e = .returned (.func (.func 124) #[] #[.pointer (some ⟨w.heap.size, 0, none⟩)]) ∧ w' = w.alloc (.cells #[.slice o n c] 27) := by
  go_enter Try.func112, Try.ntmps112
  go_wp2
  go_ret
  exact ⟨rfl, rfl⟩
/-- the indices from the end on -/
def bkI (n j : Nat) : List Nat := (List.range j).map fun i => n - 1 - i
theorem bkI_succ (n j : Nat) : bkI n (j + 1) = bkI n j ++ [n - 1 - j] := by
  unfold bkI; rw [List.range_succ, List.map_append]; rfl
theorem bkI_length (n j : Nat) : (bkI n j).length = j := by simp [bkI]
def Ints8 (g n : Nat) (W : World) : Prop := ∀ k, k < n → ∃ y, W.cell? ⟨g, k, none⟩ = some (.int .i64 y)
def BackN (g b n c : Nat) (W : World) : Prop := Boxed W b 27 (.slice (some ⟨g, 0, none⟩) n c) ∧ Ints8 g n W
/-- what a round keeps: the box of the list, and that integers stand in it -/
def FrN (g b n : Nat) (A B : World) : Prop := B.heap[b]? = A.heap[b]? ∧ (Ints8 g n A → Ints8 g n B)
theorem frN_refl {g b n : Nat} (A : World) : FrN g b n A A := ⟨rfl, id⟩
theorem frN_trans {g b n : Nat} {A B C : World} (h : FrN g b n A B) (k : FrN g b n B C) : FrN g b n A C := ⟨k.1.trans h.1, fun x => k.2 (h.2 x)⟩
theorem ints8_put {g n k : Nat} {W : World} {o o' : Obj} (h : Ints8 g n W) (hk : W.heap[k]? = some o) (ho : o.isCells = false) : Ints8 g n (W.putObj k o') := fun i hi => by
  obtain ⟨y, hy⟩ := h i hi
  refine ⟨y, ?_⟩
  have hne : g ≠ k := by
    rintro rfl
    unfold World.cell? at hy
    rw [show W.heap[(⟨g, i, none⟩ : Addr).block]? = some o from hk] at hy
    cases o <;> simp [Obj.isCells] at ho <;> simp at hy
  rw [World.cell?_of_block (w := W) (a := ⟨g, i, none⟩) (World.putObj_heap_other hne)]; exact hy
theorem frN_put {g b n k : Nat} {A W : World} {o o' : Obj} (h : FrN g b n A W) (hk : W.heap[k]? = some o) (ho : o.isCells = false) (hb : b ≠ k) : FrN g b n A (W.putObj k o') :=
  ⟨(World.putObj_heap_other hb).trans h.1, fun x => ints8_put (h.2 x) hk ho⟩
theorem frN_below {g b n : Nat} {A B : World} (h : Below A.heap.size A B) (hb : b < A.heap.size) (hg : g < A.heap.size) : FrN g b n A B :=
  ⟨h.block b hb, fun x i hi => by obtain ⟨y, hy⟩ := x i hi; exact ⟨y, by rw [h.cell (p := ⟨g, i, none⟩) hg]; exact hy⟩⟩
theorem frN_set {g b n : Nat} {A : World} {a : Addr} (x : Int) (ha : b ≠ a.block) : FrN g b n A (A.setCell a (.int .i64 x)) := by
  refine ⟨Below.heap_setCell _ _ _ _ ha, fun h i hi => ?_⟩
  obtain ⟨y, hy⟩ := h i hi
  by_cases e : a = ⟨g, i, none⟩
  · subst e; exact ⟨x, World.cell?_setCell_same _ _ _ hy⟩
  · exact ⟨y, by rw [World.cell?_setCell_other _ _ _ _ e]; exact hy⟩
theorem frN_drew {g b n : Nat} (A : World) : FrN g b n A A.drew := ⟨rfl, id⟩
theorem backN_kept {g b n c : Nat} {A B : World} (h : BackN g b n c A) (hf : FrN g b n A B) : BackN g b n c B := ⟨hf.1.trans h.1, hf.2 h.2⟩
set_option maxRecDepth 20000 in
set_option maxHeartbeats 1600000 in
theorem backIdx_by (n : Nat) (hn : 1 ≤ n) (g b N c : Nat) (hl : N ≤ 1100000) :
    SeqBb Fence.wide n Try.prog 124 #[] #[.pointer (some ⟨b, 0, none⟩)] (fun x : Nat × Int => #[.int .i64 x.1, .int .i64 x.2]) StU8 (FrN g b N) (fun xs => xs.map Prod.fst = bkI N N) (fun pre => ∃ j, j ≤ N ∧ pre.map Prod.fst = bkI N j) (BackN g b N c) := by
  intro lp J Jx W hW hJ hX h0 hY
  have HW := Lib.hid hW
  have H0 := Lib.hid h0
  have q0 := hW.1.cell
  clear hW h0
  show CallsIn Fence.wide n Try.prog 124 #[.func (.yield lp) #[] #[], .pointer (some ⟨b, 0, none⟩)] W _
  refine callsIn_of_wp Try.func124 rfl trivial ?_ rfl
  simp only [Try.ntmps124, List.size_toArray, List.length_cons, List.length_nil, Nat.reduceAdd, Nat.reduceSub, Array.replicate_succ, Array.replicate_zero, List.push_toArray, List.append_toArray, List.nil_append, List.cons_append]
  gi_wp2
  gi_loopw [3] (fun i wr => ∃ (j : Nat) (x : Int) (pre : List (Nat × Int)), j ≤ N ∧ i = .int .i64 x ∧ x = (N : Int) - 1 - j ∧ BackN g b N c wr ∧ pre.map Prod.fst = bkI N j ∧ J pre wr) (fun i wr => (intOf i + 1).toNat)
  case atStart => exact ⟨0, (N : Int) - 1, [], Nat.zero_le _, rfl, by omega, HW.out, rfl, H0.out⟩
  case round =>
    obtain ⟨j, x, pre, hj, rfl, hx, hb, hpre, hJj⟩ := hrel
    have q1 := hb.1.cell
    by_cases hlt : j < N
    · obtain ⟨m, hm⟩ : ∃ m : Nat, x = m := ⟨x.toNat, by omega⟩
      subst hm
      have hm2 : m = N - 1 - j := by omega
      have hml : m < N := by omega
      obtain ⟨y, q2⟩ := hb.2 m hml
      have hs : (pre ++ [(m, y)]).map Prod.fst = bkI N (j + 1) := by rw [bkI_succ, List.map_append, hpre, hm2]; rfl
      have HY := Lib.hid (hY pre (m, y) wr ⟨j + 1, by omega, hs⟩ hJj)
      have HS := Lib.hid hs
      have HB := Lib.hid hb
      have HXX := Lib.hid hx
      have hm0 : (m : Int) ≤ 1100000 := by omega
      have hge : (0 : Int) ≤ (m : Int) := by omega
      clear hs hb hJj hm2 hx hpre
      obtain ⟨fn, tmps, assign, body, hy, hR⟩ := HY.out
      clear HY
      simp only at hy
      gi_wp2
      refine hR.mono ?_
      rintro e W3 (⟨rfl, hJ3, hF3⟩ | ⟨rfl, hX3⟩)
      · have hb3 := backN_kept HB.out hF3
        have d0 := hb3.1.cell
        have HB3 := Lib.hid hb3
        clear hb3 q1 q2
        gi_wp2
        go_roundw
        case rel => exact ⟨j + 1, (m : Int) - 1, _, by omega, rfl, by have := HXX.out; omega, HB3.out, HS.out, hJ3⟩
        case measure => simp [intOf]
      · gi_wp2
        refine bodyPost_ret (results_none rfl _ _ _) rfl ?_
        exact ⟨_, rfl, .inr ⟨_, ⟨j + 1, by omega, HS.out⟩, hX3⟩⟩
    · have hjl : j = N := by omega
      have HK := Lib.hid hjl
      have HJ := Lib.hid hJj
      have HP := Lib.hid hpre
      have hx1 : x < 0 := by omega
      clear hjl hJj hb hpre
      gi_wp2
      go_end0
      have hPe := HP.out
      rw [HK.out] at hPe
      exact ⟨_, rfl, .inl ⟨_, hPe, HJ.out⟩⟩
/-! the list that stays -/
def bk8 (l : List Int) (j : Nat) : List (Nat × Int) := (List.range j).map fun (i : Nat) => (l.length - 1 - i, l.getD (l.length - 1 - i) 0)
theorem bk8_length (l : List Int) (j : Nat) : (bk8 l j).length = j := by simp [bk8]
theorem bk8_succ (l : List Int) (j : Nat) : bk8 l (j + 1) = bk8 l j ++ [(l.length - 1 - j, l.getD (l.length - 1 - j) 0)] := by
  unfold bk8; rw [List.range_succ, List.map_append]; rfl
theorem bk8_last {l : List Int} {pre : List (Nat × Int)} {x : Nat × Int} (h : ∃ j, j ≤ l.length ∧ pre ++ [x] = bk8 l j) : pre.length + 1 ≤ l.length ∧ x.2 = l.getD (l.length - 1 - pre.length) 0 := by
  obtain ⟨j, hj, e⟩ := h
  have hl := congrArg List.length e
  rw [bk8_length, List.length_append, List.length_singleton] at hl
  obtain ⟨k, rfl⟩ : ∃ k, j = k + 1 := ⟨j - 1, by omega⟩
  rw [bk8_succ] at e
  have e2 := List.append_inj_right' e rfl
  injection e2 with e3
  rw [e3, show k = pre.length by omega]
  exact ⟨by omega, rfl⟩
def Fr8 (g b : Nat) (A B : World) : Prop := ∀ k, k = g ∨ k = b → B.heap[k]? = A.heap[k]?
def BackAt8 (g b c : Nat) (l : List Int) (W : World) : Prop :=
  Boxed W b 27 (.slice (some ⟨g, 0, none⟩) l.length c) ∧ ∀ k, k < l.length → W.cell? ⟨g, k, none⟩ = some (.int .i64 (l.getD k 0))
theorem backAt8_kept {g b c : Nat} {l : List Int} {A B : World} (h : BackAt8 g b c l A) (hf : Fr8 g b A B) : BackAt8 g b c l B :=
  ⟨(hf b (.inr rfl)).trans h.1, fun k hk => by rw [World.cell?_of_block (w := A) (a := ⟨g, k, none⟩) (hf g (.inl rfl))]; exact h.2 k hk⟩
set_option maxRecDepth 20000 in
set_option maxHeartbeats 1600000 in
theorem backward8_by (n : Nat) (hn : 1 ≤ n) (g b c : Nat) (l : List Int) (hl : l.length ≤ 1100000) :
    SeqBb Fence.wide n Try.prog 124 #[] #[.pointer (some ⟨b, 0, none⟩)] (fun x : Nat × Int => #[.int .i64 x.1, .int .i64 x.2]) StU8 (Fr8 g b) (fun xs => xs = bk8 l l.length) (fun pre => ∃ j, j ≤ l.length ∧ pre = bk8 l j) (BackAt8 g b c l) := by
  intro lp J Jx W hW hJ hX h0 hY
  have HW := Lib.hid hW
  have H0 := Lib.hid h0
  have q0 := hW.1.cell
  clear hW h0
  show CallsIn Fence.wide n Try.prog 124 #[.func (.yield lp) #[] #[], .pointer (some ⟨b, 0, none⟩)] W _
  refine callsIn_of_wp Try.func124 rfl trivial ?_ rfl
  simp only [Try.ntmps124, List.size_toArray, List.length_cons, List.length_nil, Nat.reduceAdd, Nat.reduceSub, Array.replicate_succ, Array.replicate_zero, List.push_toArray, List.append_toArray, List.nil_append, List.cons_append]
  gi_wp2
  gi_loopw [3] (fun i wr => ∃ (j : Nat) (x : Int), j ≤ l.length ∧ i = .int .i64 x ∧ x = (l.length : Int) - 1 - j ∧ BackAt8 g b c l wr ∧ J (bk8 l j) wr) (fun i wr => (intOf i + 1).toNat)
  case atStart => exact ⟨0, (l.length : Int) - 1, Nat.zero_le _, rfl, by omega, HW.out, H0.out⟩
  case round =>
    obtain ⟨j, x, hj, rfl, hx, hb, hJj⟩ := hrel
    have q1 := hb.1.cell
    by_cases hlt : j < l.length
    · obtain ⟨m, hm⟩ : ∃ m : Nat, x = m := ⟨x.toNat, by omega⟩
      subst hm
      have hm2 : m = l.length - 1 - j := by omega
      have hml : m < l.length := by omega
      have q2 := hb.2 m hml
      obtain ⟨y, hy⟩ : ∃ y, l.getD m 0 = y := ⟨_, rfl⟩
      rw [hy] at q2
      have hs : bk8 l (j + 1) = bk8 l j ++ [(m, y)] := by rw [bk8_succ, ← hm2, hy]
      have HY := Lib.hid (hY (bk8 l j) (m, y) wr ⟨j + 1, by omega, hs.symm⟩ hJj)
      have HS := Lib.hid hs
      have HB := Lib.hid hb
      have HXX := Lib.hid hx
      have hm0 : (m : Int) ≤ 1100000 := by omega
      have hge : (0 : Int) ≤ (m : Int) := by omega
      clear hs hb hJj hy hm2 hx
      obtain ⟨fn, tmps, assign, body, hy, hR⟩ := HY.out
      clear HY
      simp only at hy
      gi_wp2
      refine hR.mono ?_
      rintro e W3 (⟨rfl, hJ3, hF3⟩ | ⟨rfl, hX3⟩)
      · have hb3 := backAt8_kept HB.out hF3
        have d0 := hb3.1.cell
        have HB3 := Lib.hid hb3
        clear hb3 q1 q2
        gi_wp2
        go_roundw
        case rel => exact ⟨j + 1, (m : Int) - 1, by omega, rfl, by have := HXX.out; omega, HB3.out, by rw [HS.out]; exact hJ3⟩
        case measure => simp [intOf]
      · gi_wp2
        refine bodyPost_ret (results_none rfl _ _ _) rfl ?_
        exact ⟨_, rfl, .inr ⟨_, ⟨j + 1, by omega, HS.out.symm⟩, hX3⟩⟩
    · have hjl : j = l.length := by omega
      have HK := Lib.hid hjl
      have HJ := Lib.hid hJj
      have hx1 : x < 0 := by omega
      clear hjl hJj hb
      gi_wp2
      go_end0
      have hJe := HJ.out
      rw [HK.out] at hJe
      exact ⟨_, rfl, .inl ⟨_, rfl, hJe⟩⟩
end Go.Proofs.Ytjmecidbnoimnaa
