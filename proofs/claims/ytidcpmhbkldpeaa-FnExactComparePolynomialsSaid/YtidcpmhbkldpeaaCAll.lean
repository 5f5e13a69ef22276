/- Walks of exact laws of chapter 9: ComparePolynomials; true at every input. (joined of several texts) -/
import Derived.RangeFuncNested
import Derived.RangeFuncBound
import Derived.RangeFuncCalls
import Derived.RangeFuncLeaves
import Derived.RangeFuncBox
import Derived.WalkKit
import Derived.OwnWalkIn
import Derived.TacticsInMore
import Derived.LoopNIn
import Derived.LoopIn
import Derived.Shelf.Abstract
import Derived.Test.YtidcpmhbkldpeaaRangeB
import Derived.Test.YtidcpmhbkldpeaaStillIn
import Derived.Test.YtidcpmhbkldpeaaRow
import Derived.Test.YtidcpmhbkldpeaaModImpl
import Derived.Deep.RegionHeld3
import Derived.Test.YtidcpmhbkldpeaaPolyBase
import Derived.Test.YtidcpmhbkldpeaaModLaws
namespace Go.Proofs.Ytidcpmhbkldpeaa
open Go.RowKit Go.Shelf
attribute [local go_sem] Oper.semAt_some
set_option linter.unusedVariables false
set_option maxRecDepth 20000
set_option linter.unusedSimpArgs false
theorem boxed_put8 {W : World} {j k : Nat} {t : TypeId} {v : Value} {o o' : Obj} (h : Boxed W j t v) (hk : W.heap[k]? = some o) (ho : o.isCells = false) : Boxed (W.putObj k o') j t v := by
  have hne : j ≠ k := by
    rintro rfl
    have h' : W.heap[j]? = some (Obj.cells #[v] t (0, 0)) := h
    rw [h'] at hk; cases hk; cases ho
  exact (World.putObj_heap_other hne).trans h
theorem below_put8 {b k : Nat} {w W : World} {o' : Obj} (h : Below b w W) (hk : b ≤ k) : Below b w (W.putObj k o') :=
  ⟨h.os, h.tape, h.output, by have := h.size; simp [World.putObj]; omega, fun j hj => (World.putObj_heap_other (by omega)).trans (h.block j hj)⟩
theorem boxed_below8 {W w2 : World} {j : Nat} {t : TypeId} {v : Value} (h : Boxed W j t v) (hb : Below W.heap.size W w2) : Boxed w2 j t v := (hb.block j h.lt).trans h
theorem keeps_below8 {W w2 : World} (hb : Below W.heap.size W w2) : KeepsOthers W w2 :=
  ⟨hb.size, fun k o hk _ => (hb.block k (Array.getElem?_eq_some_iff.1 hk).1).trans hk⟩
theorem boxed_set8 {W : World} {j : Nat} {t : TypeId} {v : Value} (h : Boxed W j t v) {a : Addr} (ha : j ≠ a.block) (u : Value) : Boxed (W.setCell a u) j t v := by
  have e : (W.setCell a u).heap[j]? = W.heap[j]? := Below.heap_setCell _ _ _ _ ha
  exact e.trans h
/-- an iterator's own steps only add memory -/
abbrev StU8 (A B : World) : Prop := Below A.heap.size A B
theorem backward8_made (o : Option Addr) (n c : Nat) (w : World) :
    Calls Try.prog 68 #[.slice o n c] w fun e w' => e = .returned (.func (.func 89) #[] #[.pointer (some ⟨w.heap.size, 0, none⟩)]) ∧ w' = w.alloc (.cells #[.slice o n c] 22) := by
  go_enter Try.func68, Try.ntmps68
  go_wp2
  go_ret
  exact ⟨rfl, rfl⟩
/-- the indices from the end on -/
def bkI (n j : Nat) : List Nat := (List.range j).map fun i => n - 1 - i
theorem bkI_succ (n j : Nat) : bkI n (j + 1) = bkI n j ++ [n - 1 - j] := by
  unfold bkI; rw [List.range_succ, List.map_append]; rfl
theorem bkI_length (n j : Nat) : (bkI n j).length = j := by simp [bkI]
def Ints8 (g n : Nat) (W : World) : Prop := ∀ k, k < n → ∃ y, W.cell? ⟨g, k, none⟩ = some (.int .i64 y)
def BackN (g b n c : Nat) (W : World) : Prop := Boxed W b 22 (.slice (some ⟨g, 0, none⟩) n c) ∧ Ints8 g n W
/-- what a round keeps: the box of the list, and that integers stand in it -/
def FrN (g b n : Nat) (A B : World) : Prop := B.heap[b]? = A.heap[b]? ∧ (Ints8 g n A → Ints8 g n B)
theorem frN_refl {g b n : Nat} (A : World) : FrN g b n A A := ⟨rfl, id⟩
theorem frN_trans {g b n : Nat} {A B C : World} (h : FrN g b n A B) (k : FrN g b n B C) : FrN g b n A C := ⟨k.1.trans h.1, fun x => k.2 (h.2 x)⟩
theorem ints8_put {g n k : Nat} {W : World} {o o' : Obj} (h : Ints8 g n W) (hk : W.heap[k]? = some o) (ho : o.isCells = false) : Ints8 g n (W.putObj k o') := fun i hi => by
  obtain ⟨y, hy⟩ := h i hi
  refine ⟨y, ?_⟩
  have hne : g ≠ k := by
    rintro rfl
    unfold World.cell? at hy
    rw [show W.heap[(⟨g, i, none⟩ : Addr).block]? = some o from hk] at hy
    cases o <;> simp [Obj.isCells] at ho <;> simp at hy
  rw [World.cell?_of_block (w := W) (a := ⟨g, i, none⟩) (World.putObj_heap_other hne)]; exact hy
theorem frN_put {g b n k : Nat} {A W : World} {o o' : Obj} (h : FrN g b n A W) (hk : W.heap[k]? = some o) (ho : o.isCells = false) (hb : b ≠ k) : FrN g b n A (W.putObj k o') :=
  ⟨(World.putObj_heap_other hb).trans h.1, fun x => ints8_put (h.2 x) hk ho⟩
theorem frN_below {g b n : Nat} {A B : World} (h : Below A.heap.size A B) (hb : b < A.heap.size) (hg : g < A.heap.size) : FrN g b n A B :=
  ⟨h.block b hb, fun x i hi => by obtain ⟨y, hy⟩ := x i hi; exact ⟨y, by rw [h.cell (p := ⟨g, i, none⟩) hg]; exact hy⟩⟩
theorem frN_set {g b n : Nat} {A : World} {a : Addr} (x : Int) (ha : b ≠ a.block) : FrN g b n A (A.setCell a (.int .i64 x)) := by
  refine ⟨Below.heap_setCell _ _ _ _ ha, fun h i hi => ?_⟩
  obtain ⟨y, hy⟩ := h i hi
  by_cases e : a = ⟨g, i, none⟩
  · subst e; exact ⟨x, World.cell?_setCell_same _ _ _ hy⟩
  · exact ⟨y, by rw [World.cell?_setCell_other _ _ _ _ e]; exact hy⟩
theorem frN_drew {g b n : Nat} (A : World) : FrN g b n A A.drew := ⟨rfl, id⟩
theorem backN_kept {g b n c : Nat} {A B : World} (h : BackN g b n c A) (hf : FrN g b n A B) : BackN g b n c B := ⟨hf.1.trans h.1, hf.2 h.2⟩
set_option maxRecDepth 20000 in
set_option maxHeartbeats 1600000 in
theorem backIdx_by (n : Nat) (hn : 1 ≤ n) (g b N c : Nat) (hl : N ≤ 1100000) :
    SeqBb Fence.wide n Try.prog 89 #[] #[.pointer (some ⟨b, 0, none⟩)] (fun x : Nat × Int => #[.int .i64 x.1, .int .i64 x.2]) StU8 (FrN g b N) (fun xs => xs.map Prod.fst = bkI N N) (fun pre => ∃ j, j ≤ N ∧ pre.map Prod.fst = bkI N j) (BackN g b N c) := by
  intro lp J Jx W hW hJ hX h0 hY
  have HW := Lib.hid hW
  have H0 := Lib.hid h0
  have q0 := hW.1.cell
  clear hW h0
  show CallsIn Fence.wide n Try.prog 89 #[.func (.yield lp) #[] #[], .pointer (some ⟨b, 0, none⟩)] W _
  refine callsIn_of_wp Try.func89 rfl trivial ?_ rfl
  simp only [Try.ntmps89, List.size_toArray, List.length_cons, List.length_nil, Nat.reduceAdd, Nat.reduceSub, Array.replicate_succ, Array.replicate_zero, List.push_toArray, List.append_toArray, List.nil_append, List.cons_append]
  gi_wp2
  gi_loopw [3] (fun i wr => ∃ (j : Nat) (x : Int) (pre : List (Nat × Int)), j ≤ N ∧ i = .int .i64 x ∧ x = (N : Int) - 1 - j ∧ BackN g b N c wr ∧ pre.map Prod.fst = bkI N j ∧ J pre wr) (fun i wr => (intOf i + 1).toNat)
  case atStart => exact ⟨0, (N : Int) - 1, [], Nat.zero_le _, rfl, by omega, HW.out, rfl, H0.out⟩
  case round =>
    obtain ⟨j, x, pre, hj, rfl, hx, hb, hpre, hJj⟩ := hrel
    have q1 := hb.1.cell
    by_cases hlt : j < N
    · obtain ⟨m, hm⟩ : ∃ m : Nat, x = m := ⟨x.toNat, by omega⟩
      subst hm
      have hm2 : m = N - 1 - j := by omega
      have hml : m < N := by omega
      obtain ⟨y, q2⟩ := hb.2 m hml
      have hs : (pre ++ [(m, y)]).map Prod.fst = bkI N (j + 1) := by rw [bkI_succ, List.map_append, hpre, hm2]; rfl
      have HY := Lib.hid (hY pre (m, y) wr ⟨j + 1, by omega, hs⟩ hJj)
      have HS := Lib.hid hs
      have HB := Lib.hid hb
      have HXX := Lib.hid hx
      have hm0 : (m : Int) ≤ 1100000 := by omega
      have hge : (0 : Int) ≤ (m : Int) := by omega
      clear hs hb hJj hm2 hx hpre
      obtain ⟨fn, tmps, assign, body, hy, hR⟩ := HY.out
      clear HY
      simp only at hy
      gi_wp2
      refine hR.mono ?_
      rintro e W3 (⟨rfl, hJ3, hF3⟩ | ⟨rfl, hX3⟩)
      · have hb3 := backN_kept HB.out hF3
        have d0 := hb3.1.cell
        have HB3 := Lib.hid hb3
        clear hb3 q1 q2
        gi_wp2
        go_roundw
        case rel => exact ⟨j + 1, (m : Int) - 1, _, by omega, rfl, by have := HXX.out; omega, HB3.out, HS.out, hJ3⟩
        case measure => simp [intOf]
      · gi_wp2
        refine bodyPost_ret (results_none rfl _ _ _) rfl ?_
        exact ⟨_, rfl, .inr ⟨_, ⟨j + 1, by omega, HS.out⟩, hX3⟩⟩
    · have hjl : j = N := by omega
      have HK := Lib.hid hjl
      have HJ := Lib.hid hJj
      have HP := Lib.hid hpre
      have hx1 : x < 0 := by omega
      clear hjl hJj hb hpre
      gi_wp2
      go_end0
      have hPe := HP.out
      rw [HK.out] at hPe
      exact ⟨_, rfl, .inl ⟨_, hPe, HJ.out⟩⟩
/-! the list that stays -/
def bk8 (l : List Int) (j : Nat) : List (Nat × Int) := (List.range j).map fun (i : Nat) => (l.length - 1 - i, l.getD (l.length - 1 - i) 0)
theorem bk8_length (l : List Int) (j : Nat) : (bk8 l j).length = j := by simp [bk8]
theorem bk8_succ (l : List Int) (j : Nat) : bk8 l (j + 1) = bk8 l j ++ [(l.length - 1 - j, l.getD (l.length - 1 - j) 0)] := by
  unfold bk8; rw [List.range_succ, List.map_append]; rfl
theorem bk8_last {l : List Int} {pre : List (Nat × Int)} {x : Nat × Int} (h : ∃ j, j ≤ l.length ∧ pre ++ [x] = bk8 l j) : pre.length + 1 ≤ l.length ∧ x.2 = l.getD (l.length - 1 - pre.length) 0 := by
  obtain ⟨j, hj, e⟩ := h
  have hl := congrArg List.length e
  rw [bk8_length, List.length_append, List.length_singleton] at hl
  obtain ⟨k, rfl⟩ : ∃ k, j = k + 1 := ⟨j - 1, by omega⟩
  rw [bk8_succ] at e
  have e2 := List.append_inj_right' e rfl
  injection e2 with e3
  rw [e3, show k = pre.length by omega]
  exact ⟨by omega, rfl⟩
def Fr8 (g b : Nat) (A B : World) : Prop := ∀ k, k = g ∨ k = b → B.heap[k]? = A.heap[k]?
def BackAt8 (g b c : Nat) (l : List Int) (W : World) : Prop :=
  Boxed W b 22 (.slice (some ⟨g, 0, none⟩) l.length c) ∧ ∀ k, k < l.length → W.cell? ⟨g, k, none⟩ = some (.int .i64 (l.getD k 0))
theorem backAt8_kept {g b c : Nat} {l : List Int} {A B : World} (h : BackAt8 g b c l A) (hf : Fr8 g b A B) : BackAt8 g b c l B :=
  ⟨(hf b (.inr rfl)).trans h.1, fun k hk => by rw [World.cell?_of_block (w := A) (a := ⟨g, k, none⟩) (hf g (.inl rfl))]; exact h.2 k hk⟩
set_option maxRecDepth 20000 in
set_option maxHeartbeats 1600000 in
theorem backward8_by (n : Nat) (hn : 1 ≤ n) (g b c : Nat) (l : List Int) (hl : l.length ≤ 1100000) :
    SeqBb Fence.wide n Try.prog 89 #[] #[.pointer (some ⟨b, 0, none⟩)] (fun x : Nat × Int => #[.int .i64 x.1, .int .i64 x.2]) StU8 (Fr8 g b) (fun xs => xs = bk8 l l.length) (fun pre => ∃ j, j ≤ l.length ∧ pre = bk8 l j) (BackAt8 g b c l) := by
  intro lp J Jx W hW hJ hX h0 hY
  have HW := Lib.hid hW
  have H0 := Lib.hid h0
  have q0 := hW.1.cell
  clear hW h0
  show CallsIn Fence.wide n Try.prog 89 #[.func (.yield lp) #[] #[], .pointer (some ⟨b, 0, none⟩)] W _
  refine callsIn_of_wp Try.func89 rfl trivial ?_ rfl
  simp only [Try.ntmps89, List.size_toArray, List.length_cons, List.length_nil, Nat.reduceAdd, Nat.reduceSub, Array.replicate_succ, Array.replicate_zero, List.push_toArray, List.append_toArray, List.nil_append, List.cons_append]
  gi_wp2
  gi_loopw [3] (fun i wr => ∃ (j : Nat) (x : Int), j ≤ l.length ∧ i = .int .i64 x ∧ x = (l.length : Int) - 1 - j ∧ BackAt8 g b c l wr ∧ J (bk8 l j) wr) (fun i wr => (intOf i + 1).toNat)
  case atStart => exact ⟨0, (l.length : Int) - 1, Nat.zero_le _, rfl, by omega, HW.out, H0.out⟩
  case round =>
    obtain ⟨j, x, hj, rfl, hx, hb, hJj⟩ := hrel
    have q1 := hb.1.cell
    by_cases hlt : j < l.length
    · obtain ⟨m, hm⟩ : ∃ m : Nat, x = m := ⟨x.toNat, by omega⟩
      subst hm
      have hm2 : m = l.length - 1 - j := by omega
      have hml : m < l.length := by omega
      have q2 := hb.2 m hml
      obtain ⟨y, hy⟩ : ∃ y, l.getD m 0 = y := ⟨_, rfl⟩
      rw [hy] at q2
      have hs : bk8 l (j + 1) = bk8 l j ++ [(m, y)] := by rw [bk8_succ, ← hm2, hy]
      have HY := Lib.hid (hY (bk8 l j) (m, y) wr ⟨j + 1, by omega, hs.symm⟩ hJj)
      have HS := Lib.hid hs
      have HB := Lib.hid hb
      have HXX := Lib.hid hx
      have hm0 : (m : Int) ≤ 1100000 := by omega
      have hge : (0 : Int) ≤ (m : Int) := by omega
      clear hs hb hJj hy hm2 hx
      obtain ⟨fn, tmps, assign, body, hy, hR⟩ := HY.out
      clear HY
      simp only at hy
      gi_wp2
      refine hR.mono ?_
      rintro e W3 (⟨rfl, hJ3, hF3⟩ | ⟨rfl, hX3⟩)
      · have hb3 := backAt8_kept HB.out hF3
        have d0 := hb3.1.cell
        have HB3 := Lib.hid hb3
        clear hb3 q1 q2
        gi_wp2
        go_roundw
        case rel => exact ⟨j + 1, (m : Int) - 1, by omega, rfl, by have := HXX.out; omega, HB3.out, by rw [HS.out]; exact hJ3⟩
        case measure => simp [intOf]
      · gi_wp2
        refine bodyPost_ret (results_none rfl _ _ _) rfl ?_
        exact ⟨_, rfl, .inr ⟨_, ⟨j + 1, by omega, HS.out.symm⟩, hX3⟩⟩
    · have hjl : j = l.length := by omega
      have HK := Lib.hid hjl
      have HJ := Lib.hid hJj
      have hx1 : x < 0 := by omega
      clear hjl hJj hb
      gi_wp2
      go_end0
      have hJe := HJ.out
      rw [HK.out] at hJe
      exact ⟨_, rfl, .inl ⟨_, rfl, hJe⟩⟩
end Go.Proofs.Ytidcpmhbkldpeaa
namespace Go.Proofs.Ytidcpmhbkldpeaa
open Go.RowKit Go.Shelf
attribute [local go_sem] Oper.semAt_some
set_option linter.unusedVariables false
set_option linter.unusedSimpArgs false
set_option maxRecDepth 20000
/-- boxes of variables that lie -/
def Boxes (W : World) (L : List (Nat × TypeId × Value)) : Prop := ∀ x ∈ L, Boxed W x.1 x.2.1 x.2.2
theorem boxes_put {W : World} {L : List (Nat × TypeId × Value)} {k : Nat} {o o' : Obj} (h : Boxes W L) (hk : W.heap[k]? = some o) (ho : o.isCells = false) : Boxes (W.putObj k o') L := fun x hx => boxed_put8 (h x hx) hk ho
theorem boxes_below {W W' : World} {L : List (Nat × TypeId × Value)} (h : Boxes W L) (hb : Below W.heap.size W W') : Boxes W' L := fun x hx => boxed_below8 (h x hx) hb
theorem boxes_set {W : World} {L : List (Nat × TypeId × Value)} {a : Addr} (h : Boxes W L) (ha : ∀ x ∈ L, x.1 ≠ a.block) (u : Value) : Boxes (W.setCell a u) L := fun x hx => boxed_set8 (h x hx) (ha x hx) u
theorem boxes_drew {W : World} {L : List (Nat × TypeId × Value)} (h : Boxes W L) : Boxes W.drew L := h
theorem boxes_cons {W : World} {L : List (Nat × TypeId × Value)} {b : Nat} {T : TypeId} {v : Value} (h : Boxes W L) (hb : Boxed W b T v) : Boxes W ((b, T, v) :: L) := fun x hx => by
  rcases List.mem_cons.1 hx with rfl | hx
  · exact hb
  · exact h x hx
theorem boxes_grown {W W' : World} {L : List (Nat × TypeId × Value)} (h : Boxes W L) (hg : W.grownBy W' none) : Boxes W' L := fun x hx => (hg.block x.1 (h x hx).lt (by simp)).trans (h x hx)
theorem row_none8 {b n c : Nat} {o : Option Addr} {w w' : World} {l : List Int} (h : IntRow b w (.slice o n c) l) (hg : w.grownBy w' none) : IntRow b w' (.slice o n c) l :=
  World.ownsRow.kept h hg (by cases hv : (Value.slice o n c).ownBlock with | none => exact .inl rfl | some k => exact .inr (by simp))
theorem row_put8 {b : Nat} {w : World} {v : Value} {l : List Int} {k : Nat} {o o' : Obj} (h : IntRow b w v l) (hk : w.heap[k]? = some o) (ho : o.isCells = false) : IntRow b (w.putObj k o') v l := ownsRow_putObj h _ hk ho
/-- four cells stay where memory is added -/
theorem keep8_alloc {W3 W' : World} {x1 x2 x3 x4 : Addr} {v1 v2 v3 v4 : Value} (h : Below W3.heap.size W3 W' ∧ W'.cell? x1 = some v1 ∧ W'.cell? x2 = some v2 ∧ W'.cell? x3 = some v3 ∧ W'.cell? x4 = some v4) (o : Obj) :
    Below W3.heap.size W3 (W'.alloc o) ∧ (W'.alloc o).cell? x1 = some v1 ∧ (W'.alloc o).cell? x2 = some v2 ∧ (W'.alloc o).cell? x3 = some v3 ∧ (W'.alloc o).cell? x4 = some v4 := by
  obtain ⟨hb, h1, h2, h3, h4⟩ := h
  exact ⟨hb.alloc hb.size o, (World.cell?_alloc_lt _ _ _ (World.block_lt_of_cell? _ _ h1)).trans h1, (World.cell?_alloc_lt _ _ _ (World.block_lt_of_cell? _ _ h2)).trans h2, (World.cell?_alloc_lt _ _ _ (World.block_lt_of_cell? _ _ h3)).trans h3, (World.cell?_alloc_lt _ _ _ (World.block_lt_of_cell? _ _ h4)).trans h4⟩
theorem keep8_set {W3 W' : World} {q x1 x2 x3 x4 : Addr} {v1 v2 v3 v4 : Value} (h : Below W3.heap.size W3 W' ∧ W'.cell? x1 = some v1 ∧ W'.cell? x2 = some v2 ∧ W'.cell? x3 = some v3 ∧ W'.cell? x4 = some v4) (hq : W3.heap.size ≤ q.block) (l1 : x1.block < W3.heap.size) (l2 : x2.block < W3.heap.size) (l3 : x3.block < W3.heap.size) (l4 : x4.block < W3.heap.size) (u : Value) :
    Below W3.heap.size W3 (W'.setCell q u) ∧ (W'.setCell q u).cell? x1 = some v1 ∧ (W'.setCell q u).cell? x2 = some v2 ∧ (W'.setCell q u).cell? x3 = some v3 ∧ (W'.setCell q u).cell? x4 = some v4 := by
  obtain ⟨hb, h1, h2, h3, h4⟩ := h
  exact ⟨hb.setCell hq u, (World.cell?_setCell_other _ _ _ _ (by intro e; subst e; omega)).trans h1, (World.cell?_setCell_other _ _ _ _ (by intro e; subst e; omega)).trans h2, (World.cell?_setCell_other _ _ _ _ (by intro e; subst e; omega)).trans h3, (World.cell?_setCell_other _ _ _ _ (by intro e; subst e; omega)).trans h4⟩
theorem bkI_last {n : Nat} {pre : List (Nat × Int)} {x : Nat × Int} (h : ∃ j, j ≤ n ∧ (pre ++ [x]).map Prod.fst = bkI n j) : pre.length + 1 ≤ n ∧ x.1 + pre.length + 1 = n := by
  obtain ⟨j, hj, e⟩ := h
  have hl := congrArg List.length e
  rw [bkI_length, List.length_map, List.length_append, List.length_singleton] at hl
  obtain ⟨k, rfl⟩ : ∃ k, j = k + 1 := ⟨j - 1, by omega⟩
  rw [bkI_succ, List.map_append] at e
  have e2 := List.append_inj_right' e rfl
  injection e2 with e3
  have e4 : k = pre.length := by omega
  rw [← e4]
  exact ⟨by omega, by rw [e3]; omega⟩
/-- what holds at the head of each round of the division -/
def DvI (w : World) (L : List (Nat × TypeId × Value)) (b5 Q q : Nat) (p iv : Int) (f g : List Int) (o5 : Option Addr) (c5 : Nat) (pre : List (Nat × Int)) (W : World) : Prop :=
  Boxes W L ∧ IntRow b5 W (.slice o5 f.length c5) (tabL f.length (mdS p iv g (fun j => f.getD j 0) f.length pre.length)) ∧ IntRow Q W (.slice (some ⟨Q, 0, none⟩) q q) (qX p iv f g q pre.length) ∧ Below w.heap.size w W
theorem dvI_put {w W : World} {L : List (Nat × TypeId × Value)} {b5 Q q : Nat} {p iv : Int} {f g : List Int} {o5 : Option Addr} {c5 : Nat} {pre : List (Nat × Int)} {k : Nat} {o o' : Obj} (h : DvI w L b5 Q q p iv f g o5 c5 pre W) (hb : w.heap.size ≤ k) (hk : W.heap[k]? = some o) (ho : o.isCells = false) : DvI w L b5 Q q p iv f g o5 c5 pre (W.putObj k o') :=
  ⟨boxes_put h.1 hk ho, row_put8 h.2.1 hk ho, row_put8 h.2.2.1 hk ho, below_put8 h.2.2.2 hb⟩
theorem dvI_below {w A B : World} {L : List (Nat × TypeId × Value)} {b5 Q q : Nat} {p iv : Int} {f g : List Int} {o5 : Option Addr} {c5 : Nat} {pre : List (Nat × Int)} (h : DvI w L b5 Q q p iv f g o5 c5 pre A) (hs : StU8 A B) : DvI w L b5 Q q p iv f g o5 c5 pre B :=
  ⟨boxes_below h.1 hs, row_below h.2.1 hs (Nat.le_refl _), row_below h.2.2.1 hs (Nat.le_refl _), h.2.2.2.trans (hs.mono h.2.2.2.size)⟩
/-- all orders of a region come to the same -/
theorem wp_meet {P : Program} {c : Code} {Q : Exit → Act → World → Prop} {a : Act} {w : World} {T : Array Value} {W : World} (hr : c.wp P (fun e a' w' => e = .normal ∧ a' = { tmps := T, defers := [] } ∧ w' = W) a w) (hk : Q .normal { tmps := T, defers := [] } W) : c.wp P Q a w :=
  Code.wp_mono (fun e a' w' h => by obtain ⟨rfl, rfl, rfl⟩ := h; exact hk) hr
set_option maxHeartbeats 8000000 in
theorem divide_any (p : Int) (hs : smallB p = true) {o o' : Option Addr} {n n' c c' : Nat} {f g : List Int} {w : World} (h : Seen w o n c f) (h' : SeenD w o' n' c' g) (hf : ModP p f) (hg : ModP p g) (h0 : g.length ≠ 0) (hn20 : n ≤ 20) (hn9' : n' ≤ 20) :
    Calls Try.prog 76 #[R1 p, .slice o n c, .slice o' n' c'] w (Own2Post (quoP p f g) (remP p f g) w) := by
  obtain ⟨p2, p97, pp⟩ := small_prime hs
  have HS := Lib.hid h
  obtain ⟨hl', hn', hno', hnc', a', dd, h1', h2'⟩ := h'
  obtain ⟨rfl, hag'⟩ := h1' (by omega)
  have b1 := h2' (n' - 1) (by omega)
  have hn1 : (n' : Int) - 1 = ((n' - 1 : Nat) : Int) := by omega
  have HC' := Lib.hid h2'
  have HL' := Lib.hid hl'
  have HL := Lib.hid h.1
  obtain ⟨i0, hi, hz0, hz1, hz2⟩ := info_parts Try.infoInt64
  have HI := Lib.hid hi
  have HZ0 := Lib.hid hz0
  have HZ1 := Lib.hid hz1
  have HZ2 := Lib.hid hz2
  have HF := Lib.hid hf
  have HG := Lib.hid hg
  have hpz : (p == 0) = false := by simp; omega
  have hle1 : 1 ≤ n' := by omega
  have hlast := hg.rng (n' - 1)
  have HV := Lib.hid (show invP p g = bezX (g.getD (n' - 1) 0) p % p by unfold invP; rw [← hl'])
  have HIP := Lib.hid (invP_dvd p2 p97 pp hg (fun e => h0 (by rw [e]; rfl)))
  generalize hla : g.getD (n' - 1) 0 = la at *
  obtain ⟨iv, hiv⟩ : ∃ x, invP p g = x := ⟨_, rfl⟩
  have hivb := invP_lt (p := p) (g := g) p2
  rw [hiv] at HV hivb
  have HIV := Lib.hid hiv
  obtain ⟨la0, la1⟩ := hlast
  obtain ⟨iv0, iv1⟩ := hivb
  have HM := Lib.hid fun w => modulus8_any p hs w
  obtain ⟨d, hd⟩ : ∃ d, n' - 1 = d := ⟨_, rfl⟩
  rw [hd] at hn1 b1
  have HD := Lib.hid hd
  have HAG := Lib.hid hag'
  have HB1 := Lib.hid b1
  clear h h1' h2' hl' hn' hno' hnc' hi hz0 hz1 hz2 hf hg h0 hla hiv hd b1 hag'
  refine (callsIn_wide (n := 4)).1 ?_
  refine callsIn_of_wp_marks Try.func76 rfl trivial ?_ rfl
  simp only [Try.ntmps76, List.size_toArray, List.length_cons, List.length_nil, Nat.reduceAdd, Nat.reduceSub, Array.replicate_succ, Array.replicate_zero, List.push_toArray, List.append_toArray, List.nil_append, List.cons_append]
  refine wpIn_wide.2 ?_
  -- the boxes of the receiver and of g
  have hbw := (below_a8 w (.cells #[.int .i64 p, .int .i64 1] 47)).alloc (by simp) (.cells #[.slice (some ⟨a', dd, none⟩) n' c'] 22)
  have hbx := Boxed.new (w.alloc (.cells #[.int .i64 p, .int .i64 1] 47)) 22 (.slice (some ⟨a', dd, none⟩) n' c')
  rw [World.size_alloc] at hbx
  have HBW := Lib.hid hbw
  have HBX := Lib.hid hbx
  clear hbw hbx
  go_wp2_with fail
  refine (HM.out _).mono ?_
  rintro e w1 ⟨rfl, hb⟩
  have hb0 := HBW.out.trans (hb.mono HBW.out.size)
  have hx1 := boxed_below8 HBX.out hb
  obtain ⟨bg, hbg⟩ : ∃ bg, w.heap.size + 1 = bg := ⟨_, rfl⟩
  rw [hbg] at hx1
  have hgm : bg < w1.heap.size := hx1.lt
  obtain ⟨bm, hbm⟩ : ∃ bm, w1.heap.size = bm := ⟨_, rfl⟩
  have hbs := hb0.size
  have hb2 := (hb0.alloc hbs (.cells #[.int .i64 p] 2)).alloc (by simp; omega) (.cells #[.int .i64 (d : Int)] 3)
  have hx2 := (hx1.alloc (.cells #[.int .i64 p] 2)).alloc (.cells #[.int .i64 (d : Int)] 3)
  have hm2 := (Boxed.new w1 2 (.int .i64 p)).alloc (.cells #[.int .i64 (d : Int)] 3)
  have hd2 := Boxed.new (w1.alloc (.cells #[.int .i64 p] 2)) 3 (.int .i64 (d : Int))
  rw [World.size_alloc, hbm] at hd2
  rw [hbm] at hm2 hgm hbs
  have cg := (hx1.alloc (.cells #[.int .i64 p] 2)).cell
  have HB0 := Lib.hid hb2
  have HX := Lib.hid (boxes_cons (boxes_cons (boxes_cons (L := []) (by intro x hx; cases hx) hd2) hm2) hx2)
  have HSZ := Lib.hid (And.intro hgm hbs)
  rw [hbg]
  clear hb hb0 hx1 hb2 hx2 hm2 hd2 HM hbg hgm hbs
  go_upto_region 3 with fail
  generalize (w1.alloc (.cells #[.int .i64 p] 2)).alloc (.cells #[.int .i64 (d : Int)] 3) = W3 at *
  have hx3 := HX.out
  have e1 := (hx3 (bg, 22, .slice (some ⟨a', dd, none⟩) n' c') (by simp)).cell
  have e2 := (hx3 (bm, 2, .int .i64 p) (by simp)).cell
  have e3 := (hx3 (bm + 1, 3, .int .i64 (d : Int)) (by simp)).cell
  have e4 : W3.cell? ⟨a', dd + d, none⟩ = some (.int .i64 la) := by rw [HB0.out.cell (p := ⟨a', dd + d, none⟩) HAG.out]; exact HB1.out
  have l1 := (hx3 (bg, 22, .slice (some ⟨a', dd, none⟩) n' c') (by simp)).lt
  have l2 := (hx3 (bm, 2, .int .i64 p) (by simp)).lt
  have l3 := (hx3 (bm + 1, 3, .int .i64 (d : Int)) (by simp)).lt
  have l4 : a' < W3.heap.size := by have := HB0.out.size; have := HAG.out; omega
  have hdn : (d : Int) < (n' : Int) := by omega
  clear cg hx3
  apply wp_meet (W := (W3.alloc (.cells #[.int .i64 (bezX la p % p)] 2)).drew)
  case hr =>
    go_region_held3 (fun W' => Below W3.heap.size W3 W' ∧ W'.cell? ⟨bg, 0, none⟩ = some (.slice (some ⟨a', dd, none⟩) n' c') ∧ W'.cell? ⟨bm, 0, none⟩ = some (.int .i64 p) ∧ W'.cell? ⟨bm + 1, 0, none⟩ = some (.int .i64 (d : Int)) ∧ W'.cell? ⟨a', dd + d, none⟩ = some (.int .i64 la))
      (first | exact ⟨below_drewN (Below.refl _ _) 1, e1, e2, e3, e4⟩ | exact keep8_alloc ‹_› _ | exact keep8_alloc (W' := W3.drew) ⟨below_drewN (Below.refl _ _) 1, e1, e2, e3, e4⟩ (.cells #[.int .i64 0] 2) | exact keep8_alloc (W' := W3.drew) ⟨below_drewN (Below.refl _ _) 1, e1, e2, e3, e4⟩ (.cells #[.int .i64 (bezX la p % p)] 2) | assumption) (first | (go_at_call 97; refine (inverse8_any la p _ la0 la1 p2 (by omega)).mono ?_; rintro e wn ⟨rfl, rfl⟩))
    all_goals exact ⟨rfl, rfl, rfl⟩
  rw [← HV.out]
  -- the world behind the inverse
  have hx4 := boxes_below (boxes_drew HX.out) (below_a8 W3.drew (.cells #[.int .i64 iv] 2))
  have hi4 := Boxed.new W3.drew 2 (.int .i64 iv)
  have hb4 := (below_drewN HB0.out 1).alloc (by have := HB0.out.size; exact this) (.cells #[.int .i64 iv] 2)
  have HX4 := Lib.hid (boxes_cons hx4 hi4)
  have HB4 := Lib.hid hb4
  have HS4 := Lib.hid (seen_below HS.out hb4)
  clear hx4 hi4 hb4 e1 e2 e3 e4 l1 l2 l3 l4 HX HB0 hbm
  obtain ⟨bi, hbi⟩ : ∃ bi, W3.heap.size = bi := ⟨_, rfl⟩
  replace HX4 : Hid (Boxes (W3.alloc (.cells #[.int .i64 iv] 2)).drew [(bi, 2, .int .i64 iv), (bg, 22, .slice (some ⟨a', dd, none⟩) n' c'), (bm, 2, .int .i64 p), (bm + 1, 3, .int .i64 (d : Int))]) := by rw [← hbi]; exact HX4
  replace HB4 : Hid (Below w.heap.size w (W3.alloc (.cells #[.int .i64 iv] 2)).drew) := HB4
  replace HS4 : Hid (Seen (W3.alloc (.cells #[.int .i64 iv] 2)).drew o n c f) := HS4
  rw [hbi]
  generalize (W3.alloc (.cells #[.int .i64 iv] 2)).drew = W4 at *
  clear hbi
  have HBL4 := Lib.hid (fun y hy => (HX4.out y hy).lt)
  go_wp2_with fail
  refine (clone8_any HS4.out).mono ?_
  rintro e W5 ⟨v5, rfl, hr5, hb5⟩
  obtain ⟨o5, c5, rfl⟩ := row_slice hr5
  have hown5 := fun k hk => (World.ownsRow.lt hr5 k hk).2
  have hx5 := boxes_below HX4.out hb5
  have hb50 := HB4.out.trans (hb5.mono HB4.out.size)
  have hx6 := boxes_cons (boxes_below hx5 (below_a8 W5 (.cells #[.slice o5 f.length c5] 22))) (Boxed.new W5 22 (.slice o5 f.length c5))
  have hr6 := row_below hr5 (below_a8 W5 (.cells #[.slice o5 f.length c5] 22)) (Nat.le_refl _)
  have hb6 := hb50.alloc hb50.size (.cells #[.slice o5 f.length c5] 22)
  have hs6 : (W5.alloc (.cells #[.slice o5 f.length c5] 22)).heap.size = W5.heap.size + 1 := by simp
  obtain ⟨br, hbr⟩ : ∃ br, W5.heap.size = br := ⟨_, rfl⟩
  rw [hbr] at hx6 hs6 hown5
  have HOWN := Lib.hid hown5
  have cd := (hx6 (bm + 1, 3, .int .i64 (d : Int)) (by simp)).cell
  have HX6 := Lib.hid hx6
  have HR6 := Lib.hid hr6
  have HB6 := Lib.hid hb6
  have hlow : w.heap.size ≤ W4.heap.size ∧ W4.heap.size ≤ br := ⟨HB4.out.size, by rw [← hbr]; exact hb5.size⟩
  have HLOW := Lib.hid hlow
  obtain ⟨q, hq⟩ : ∃ q, n - d = q := ⟨_, rfl⟩
  have hmax : max ((n : Int) - (d : Int)) 0 = (q : Int) := by omega
  have hq20 : q ≤ 20 := by omega
  have HQD := Lib.hid hq
  clear hown5 hr5 hb5 hx5 hb50 hx6 hr6 hb6 hlow HX4 HB4 HS4 hq
  go_upto_region 5 with fail
  generalize W5.alloc (.cells #[.slice o5 f.length c5] 22) = W6 at *
  clear hbr
  obtain ⟨Q, hQ⟩ : ∃ Q, W6.heap.size = Q := ⟨_, rfl⟩
  have HSQ := Lib.hid (show Q = br + 1 by rw [← hQ]; exact hs6)
  have HWQ := Lib.hid hQ
  have hbl6 := fun y hy => (HX6.out y hy).lt
  rw [hQ] at hbl6
  have HBL6 := Lib.hid hbl6
  clear hbl6
  clear hs6
  go_wp2_with (at_make; refine wpList_make_full _ rfl (.tmp 33) (.tmp 33) 22 rfl W6.heap.size 2 i0 (.int .i64 0) 1 Try.underlying22 HI.out HZ0.out HZ1.out .i64 .i64 _ _ q rfl rfl rfl rfl (by rw [HZ2.out]; omega) (by unfold maxLen; omega) (Nat.le_refl _) ?_; intro W7 hown hgrow)
  rw [hQ] at hown
  have hb7 := HB6.out.grown hgrow HB6.out.size (fun k h => by cases h)
  have hx7 := boxes_grown HX6.out hgrow
  have hr7 := row_none8 HR6.out hgrow
  have hq7 : IntRow Q W7 (.slice (some ⟨Q, 0, none⟩) q q) (tabL q fun _ => 0) := by rw [← hQ] at hown ⊢; exact int_made hown
  have hQl : Q < W7.heap.size := (World.ownsRow.lt hq7 Q rfl).2
  obtain ⟨bq, hbq⟩ : ∃ bq, W7.heap.size = bq := ⟨_, rfl⟩
  have hx8 := boxes_cons (boxes_below hx7 (below_a8 W7 (.cells #[.slice (some ⟨Q, 0, none⟩) q q] 22))) (Boxed.new W7 22 (.slice (some ⟨Q, 0, none⟩) q q))
  have hs8 : (W7.alloc (.cells #[.slice (some ⟨Q, 0, none⟩) q q] 22)).heap.size = bq + 1 := by rw [← hbq]; simp
  have hbk := Boxed.new (W7.alloc (.cells #[.slice (some ⟨Q, 0, none⟩) q q] 22)) 22 (.slice (some ⟨Q, 0, none⟩) q q)
  have hx9 := boxes_below hx8 (below_a8 (W7.alloc (.cells #[.slice (some ⟨Q, 0, none⟩) q q] 22)) (.cells #[.slice (some ⟨Q, 0, none⟩) q q] 22))
  have hb9 := (hb7.alloc hb7.size (.cells #[.slice (some ⟨Q, 0, none⟩) q q] 22)).alloc (by rw [hs8, ← hbq]; have := hb7.size; omega) (.cells #[.slice (some ⟨Q, 0, none⟩) q q] 22)
  have hr9 := row_below (row_below hr7 (below_a8 W7 (.cells #[.slice (some ⟨Q, 0, none⟩) q q] 22)) (Nat.le_refl _)) (below_a8 (W7.alloc (.cells #[.slice (some ⟨Q, 0, none⟩) q q] 22)) (.cells #[.slice (some ⟨Q, 0, none⟩) q q] 22)) (Nat.le_refl _)
  have hq9 := row_below (row_below hq7 (below_a8 W7 (.cells #[.slice (some ⟨Q, 0, none⟩) q q] 22)) (Nat.le_refl _)) (below_a8 (W7.alloc (.cells #[.slice (some ⟨Q, 0, none⟩) q q] 22)) (.cells #[.slice (some ⟨Q, 0, none⟩) q q] 22)) (Nat.le_refl _)
  rw [hs8] at hbk
  rw [hbq] at hx9 hQl
  have HX9 := Lib.hid hx9
  have HK9 := Lib.hid hbk
  have HB9 := Lib.hid hb9
  have HR9 := Lib.hid hr9
  have HQ9 := Lib.hid hq9
  have HQL := Lib.hid hQl
  clear hown hgrow hb7 hx7 hr7 hq7 hx8 hbk hx9 hb9 hr9 hq9 hQl HX6 HR6 HB6 cd hmax
  refine (backward8_made _ _ _ _).mono ?_
  rintro e W8 ⟨rfl, rfl⟩
  rw [hs8]
  go_wp2_with fail
  generalize (W7.alloc (.cells #[.slice (some ⟨Q, 0, none⟩) q q] 22)).alloc (.cells #[.slice (some ⟨Q, 0, none⟩) q q] 22) = W9 at *
  clear hs8 hbq
  refine (wpIn_wide (n := 4)).1 ?_
  have hsz := HB9.out.size
  have hkl : bq + 1 < W9.heap.size := HK9.out.lt
  have hbQ : br < Q ∧ Q < bq := ⟨by have := HSQ.out; omega, HQL.out⟩
  refine wpIn_rangeBb (F := Fence.wide) (n := 4) (P := Try.prog) (w := W9) rfl (by omega) (gf := 89) (ba := #[]) (lb := #[.pointer (some ⟨bq + 1, 0, none⟩)]) rfl trivial (enters_of Try.func89 (by kernel_rfl) rfl)
    (backIdx_by 3 (by omega) Q (bq + 1) q q (by omega)) (fun _ => rfl)
    (DvI w [(bq, 22, .slice (some ⟨Q, 0, none⟩) q q), (br, 22, .slice o5 f.length c5), (bi, 2, .int .i64 iv), (bg, 22, .slice (some ⟨a', dd, none⟩) n' c'), (bm, 2, .int .i64 p), (bm + 1, 3, .int .i64 (d : Int))] W4.heap.size Q q p iv f g o5 c5) (fun _ _ => False)
    (fun x => { tmps := #[R1 p, .slice o n c, .slice (some ⟨a', dd, none⟩) n' c', .pointer (some ⟨w.heap.size, 0, none⟩), undef, .pointer (some ⟨bg, 0, none⟩), .slice none 0 0, .slice none 0 0, .pointer (some ⟨bm, 0, none⟩), .pointer (some ⟨bm + 1, 0, none⟩), .pointer (some ⟨bi, 0, none⟩), .pointer (some ⟨br, 0, none⟩), .pointer (some ⟨bq, 0, none⟩), .int .i64 x.1, undef, undef, .agg #[.int .i64 p, .int .i64 1], .int .i64 p, .slice (some ⟨a', dd, none⟩) n' c', .int .i64 n', .int .i64 d, .slice (some ⟨a', dd, none⟩) n' c', .int .i64 d, .pointer (some ⟨a', dd + d, none⟩), .int .i64 la, .int .i64 p, .int .i64 iv, .slice o n c, .slice o5 f.length c5, .slice o n c, .int .i64 n, .int .i64 d, .int .i64 ((n : Int) - (d : Int)), .int .i64 q, .slice (some ⟨Q, 0, none⟩) q q, .slice (some ⟨Q, 0, none⟩) q q, .func (.func 89) #[] #[.pointer (some ⟨bq + 1, 0, none⟩)], .int .i64 x.1, .int .i64 x.2, undef, undef, undef, undef, undef, undef, undef, undef, undef, undef, undef, undef, undef, undef, undef, undef, undef, undef, undef, undef, undef, undef, undef, undef, undef, undef, undef, undef, undef, undef, undef, undef, undef, undef, undef, undef, undef, undef, undef, undef, undef, undef, undef, undef], defers := [] })
    ?ip ?xp ?fp ?fq ?ft ?is ?xs ?sk ?h0 ?s0 ?assign ?body ?done ?stop
  case ip => intro pre W k o o' h hk ho hc; exact dvI_put h (by omega) ho hc
  case xp => intro _ _ _ _ _ h; exact h.elim
  case fp => intro A W k o o' hf hk ho hc; exact frN_put hf ho hc (by omega)
  case fq => intro W k o o' hk ho hc; exact frN_put (frN_refl W) ho hc (by omega)
  case ft => intro A B C h k; exact frN_trans h k
  case is => intro pre A B h hs; exact dvI_below h hs
  case xs => intro _ _ _ h; exact h.elim
  case sk => intro A B k o hs hk ho hc; exact (hs.block k (Array.getElem?_eq_some_iff.1 ho).1).trans ho
  case h0 =>
    intro oo oo'
    have hbb : Below W9.heap.size W9 ((W9.alloc oo).alloc oo') := (below_a8 W9 oo).alloc (by simp) oo'
    have hr0 : f = tabL f.length (mdS p iv g (fun j => f.getD j 0) f.length ([] : List (Nat × Int)).length) := by
      refine ext_getD (by rw [tabL_length]) fun i hi => ?_
      rw [tabL_getD hi]; rfl
    refine ⟨boxes_below HX9.out hbb, by rw [← hr0]; exact row_below HR9.out hbb (Nat.le_refl _), ?_, HB9.out.trans (hbb.mono HB9.out.size)⟩
    have hq0 : qX p iv f g q ([] : List (Nat × Int)).length = tabL q fun _ => 0 := by
      by_cases h0 : q = 0
      · rw [h0]; rfl
      · exact qX_zero (by have := HQD.out; have := HD.out; have := HL.out; have := HL'.out; omega)
    rw [hq0]; exact row_below HQ9.out hbb (Nat.le_refl _)
  case s0 =>
    intro oo oo'
    have hbb : Below W9.heap.size W9 ((W9.alloc oo).alloc oo') := (below_a8 W9 oo).alloc (by simp) oo'
    exact ⟨(HK9.out.alloc oo).alloc oo', fun k hk => ⟨_, int_at (row_below HQ9.out hbb (Nat.le_refl _)) (tabL_length _ _) hk⟩⟩
  case assign =>
    intro lp x W K hK
    gi_wp2
    exact hK
  case body =>
    rintro lp pre x W hsp ⟨hx, hr, hqr, hb⟩
    obtain ⟨hk1, hxk⟩ := bkI_last hsp
    obtain ⟨i, hi⟩ : ∃ i, x.1 = i := ⟨_, rfl⟩
    obtain ⟨y9, hy9⟩ : ∃ y, x.2 = y := ⟨_, rfl⟩
    obtain ⟨k, hk⟩ : ∃ k, pre.length = k := ⟨_, rfl⟩
    have hlen : (pre ++ [x]).length = k + 1 := by rw [List.length_append, hk]; rfl
    have HLEN := Lib.hid hlen
    rw [hi, hy9]
    rw [hk] at hr hqr hk1 hxk
    rw [hi] at hxk
    clear hsp hlen hi hy9 hk
    have hqn : q + g.length = f.length + 1 := by have := HQD.out; have := HD.out; have := HL.out; have := HL'.out; omega
    have HQN := Lib.hid hqn
    have hik : i + g.length + k = f.length := by omega
    have HIK := Lib.hid hik
    have hf1 : 1 ≤ f.length := by have := HL'.out; omega
    have hr' : W.ownsRow W4.heap.size 2 1 (.slice o5 f.length c5) f.length ((tabL f.length (mdS p iv g (fun j => f.getD j 0) f.length k)).map (Value.int .i64)) := by
      have h9 := hr
      unfold IntRow at h9
      rw [tabL_length] at h9; exact h9
    rcases row_shape hr' with ⟨hz, _⟩ | ⟨_, G, cap, he, hbg5, hgw⟩
    · omega
    injection he with he1 he2 he3
    subst he1 he3
    have hGr : G < br := HOWN.out G rfl
    have hGQ : G ≠ Q := by omega
    have HR := Lib.hid hr
    have HQ := Lib.hid hqr
    have HX := Lib.hid hx
    have HB := Lib.hid hb
    have HLW := Lib.hid (And.intro hbg5 HLOW.out.1)
    obtain ⟨m, hm⟩ : ∃ m, i + d = m := ⟨_, rfl⟩
    have him : (i : Int) + (d : Int) = (m : Int) := by omega
    have hmn : m < f.length := by have := HD.out; have := HL'.out; omega
    have hmn' : (m : Int) < (f.length : Int) := by omega
    have hiq : i < q := by omega
    have hiq' : (i : Int) < (q : Int) := by omega
    have wm : IntKind.i64.wrap (m : Int) = (m : Int) := IntWalk.i64_in _ (by have := HL.out; omega)
    have c1 := int_at hr (tabL_length _ _) hmn
    rw [tabL_getD hmn] at c1
    have hce : mdC p iv g (fun j => f.getD j 0) f.length k = mdS p iv g (fun j => f.getD j 0) f.length k m * iv % p := by unfold mdC; rw [show f.length - 1 - k = m by have := HD.out; have := HL'.out; omega]
    have HSUB := Lib.hid (subX_end (p := p) (inv := iv) (g := g) (r0 := fun j => f.getD j 0) hik)
    have HQS := Lib.hid (qX_step (p := p) (inv := iv) (f := f) (g := g) hqn hik)
    obtain ⟨y0, y1⟩ := mdS_lt (inv := iv) (g := g) (N := f.length) HF.out k m
    have hpb := prod_small p97 ⟨y0, y1⟩ ⟨iv0, iv1⟩
    have HBD := Lib.hid (fun j => mdS_lt (inv := iv) (g := g) (N := f.length) HF.out k j)
    obtain ⟨z, hz⟩ : ∃ z, mdS p iv g (fun j => f.getD j 0) f.length k m = z := ⟨_, rfl⟩
    rw [hz] at c1 hce hpb y0 y1
    obtain ⟨xv, hxv⟩ : ∃ x, mdC p iv g (fun j => f.getD j 0) f.length k = x := ⟨_, rfl⟩
    rw [hxv] at hce HSUB HQS
    have wz : IntKind.i64.wrap (z * iv) = z * iv := IntWalk.i64_in _ (by omega)
    have hz0 := hpb.1
    have tz : (z * iv).tmod p = xv := by rw [tmod_nonneg hpb.1, hce]
    have tz2 : z * iv % p = xv := hce.symm
    have hp0 : ¬ p = 0 := by omega
    have hx0 : 0 ≤ xv ∧ xv < p := by rw [hce]; exact ⟨Int.emod_nonneg _ (by omega), Int.emod_lt_of_pos _ (by omega)⟩
    have wx : IntKind.i64.wrap xv = xv := IntWalk.i64_in _ (by omega)
    have HX0 := Lib.hid hx0
    have HQV := Lib.hid (show (qX p iv f g q (k + 1)).getD i 0 = xv by
      rw [← HQS.out]
      have hlq : (qX p iv f g q k).length = q := qX_length _ _ _ _ _ _
      simp [List.getD, show i < (qX p iv f g q k).length by omega])
    have f2 := int_frozen hqr (qX_length p iv f g q k) i
    have c2 := int_at hqr (qX_length p iv f g q k) hiq
    obtain ⟨y2, hy2⟩ : ∃ y2, (qX p iv f g q k).getD i 0 = y2 := ⟨_, rfl⟩
    rw [hy2] at c2
    have xq := (hx (bq, 22, .slice (some ⟨Q, 0, none⟩) q q) (by simp)).cell
    have xr := (hx (br, 22, .slice (some ⟨G, 0, none⟩) f.length c5) (by simp)).cell
    have xi := (hx (bi, 2, .int .i64 iv) (by simp)).cell
    have xg := (hx (bg, 22, .slice (some ⟨a', dd, none⟩) n' c') (by simp)).cell
    have xm := (hx (bm, 2, .int .i64 p) (by simp)).cell
    have xd := (hx (bm + 1, 3, .int .i64 (d : Int)) (by simp)).cell
    clear hqr hx hb hr hr' hce hz hxv hpb hy2 hm hgw hx0 he2
    gi_wp2
    refine wpIn_region_still_tail 13 (by kernel_rfl) (by kernel_rfl) (by kernel_rfl) ?_
    simp only [List.take_succ_cons, List.take_zero, List.drop_succ_cons, List.drop_zero]
    iterate 13 still_step
    refine wpStill_nil ?_
    change wpListIn _ _ _ _ _ _ _ W.drew
    have HRd := Lib.hid (World.ownsRow.drew HR.out)
    have HQd := Lib.hid (World.ownsRow.drew HQ.out)
    have HBd := Lib.hid (below_drewN HB.out 1)
    have HXd := Lib.hid (boxes_drew HX.out)
    have HKd := Lib.hid (KeepsOthers.drew W)
    have HFd := Lib.hid (frN_drew (g := Q) (b := bq + 1) (n := q) W)
    replace f2 : W.drew.frozen? ⟨Q, i, none⟩ = false := f2
    replace c2 : W.drew.cell? ⟨Q, i, none⟩ = _ := c2
    replace HRd : Hid (IntRow W4.heap.size W.drew (.slice (some ⟨G, 0, none⟩) f.length c5) (tabL f.length (mdS p iv g (fun j => f.getD j 0) f.length k))) := HRd
    replace HQd : Hid (IntRow Q W.drew (.slice (some ⟨Q, 0, none⟩) q q) (qX p iv f g q k)) := HQd
    replace HBd : Hid (Below w.heap.size w W.drew) := HBd
    clear HR HQ HB HX c1 xq xr xi xg xm xd wz tz tz2
    generalize W.drew = Wd at *
    have HQ1 := Lib.hid (int_stored HQd.out (qX_length p iv f g q k) i xv)
    rw [HQS.out] at HQ1
    have hQw : w.heap.size ≤ Q := by have := HLW.out; omega
    have HR1 := Lib.hid (row_other8 HRd.out (a := ⟨Q, i, none⟩) (own_ne8 hGQ) (.int .i64 xv))
    have HB1 := Lib.hid (HBd.out.setCell (p := ⟨Q, i, none⟩) hQw (.int .i64 xv))
    have HX1 := Lib.hid (boxes_set HXd.out (a := ⟨Q, i, none⟩) (by
      intro y hy
      have h6 := HBL6.out
      show y.1 ≠ Q
      rcases List.mem_cons.1 hy with rfl | hy
      · show bq ≠ Q; omega
      · have := h6 y hy; omega) (.int .i64 xv))
    have HK1 := Lib.hid (HKd.out.trans (KeepsOthers.setCell Wd ⟨Q, i, none⟩ (.int .i64 xv)))
    have HF1 := Lib.hid (frN_trans HFd.out (frN_set (g := Q) (b := bq + 1) (n := q) (A := Wd) (a := ⟨Q, i, none⟩) xv (by show bq + 1 ≠ Q; omega)))
    have xg1 := (HX1.out (bg, 22, .slice (some ⟨a', dd, none⟩) n' c') (by simp)).cell
    clear HRd HQd HBd HXd HKd HFd HQS
    gi_wp2
    generalize Wd.setCell ⟨Q, i, none⟩ (.int .i64 xv) = Ws at *
    clear c2 f2 xg1
    gi_loopw [54] (fun s wr => ∃ j : Nat, j ≤ n' ∧ s = .int .i64 j ∧ KeepsOthers W wr ∧ FrN Q (bq + 1) q W wr ∧ Boxes wr [(bq, 22, .slice (some ⟨Q, 0, none⟩) q q), (br, 22, .slice (some ⟨G, 0, none⟩) f.length c5), (bi, 2, .int .i64 iv), (bg, 22, .slice (some ⟨a', dd, none⟩) n' c'), (bm, 2, .int .i64 p), (bm + 1, 3, .int .i64 (d : Int))] ∧ IntRow W4.heap.size wr (.slice (some ⟨G, 0, none⟩) f.length c5) (subX p (mdS p iv g (fun j => f.getD j 0) f.length k) g xv f.length i j) ∧ IntRow Q wr (.slice (some ⟨Q, 0, none⟩) q q) (qX p iv f g q (k + 1)) ∧ Below w.heap.size w wr) (fun s _ => n' - (intOf s).toNat)
    case atStart => exact ⟨0, Nat.zero_le _, rfl, HK1.out, HF1.out, HX1.out, by rw [subX_zero]; exact HR1.out, HQ1.out, HB1.out⟩
    case round =>
      obtain ⟨j, hj, rfl, hko, hfr, hx, hr, hqr, hb⟩ := hrel
      clear HK1 HF1 HX1 HR1 HQ1 HB1
      by_cases hltj : j < n'
      · obtain ⟨t, ht⟩ : ∃ t, i + j = t := ⟨_, rfl⟩
        have hijt : (i : Int) + (j : Int) = (t : Int) := by omega
        have htn : t < f.length := by have := HIK.out; have := HL'.out; omega
        have wt : IntKind.i64.wrap (t : Int) = (t : Int) := IntWalk.i64_in _ (by have := HL.out; omega)
        have b2 : wr.cell? ⟨a', dd + j, none⟩ = some (.int .i64 (g.getD j 0)) := by rw [hb.cell (p := ⟨a', dd + j, none⟩) HAG.out]; exact HC'.out j hltj
        have c4 := int_at hr (subX_length _ _ _ _ _ _ _) htn
        rw [subX_at ht htn] at c4
        have f4 := int_frozen hr (subX_length _ _ _ _ _ _ _) t
        have c5q := int_at hqr (qX_length p iv f g q (k + 1)) hiq
        rw [HQV.out] at c5q
        have HE := Lib.hid (subX_step (p := p) (r := mdS p iv g (fun j => f.getD j 0) f.length k) (g := g) (c := xv) ht htn)
        have hbd := HBD.out t
        have hmd := prod_small p97 HX0.out (HG.out.rng j)
        obtain ⟨z, hzz⟩ : ∃ x, g.getD j 0 = x := ⟨_, rfl⟩
        obtain ⟨r, hrr⟩ : ∃ x, mdS p iv g (fun j => f.getD j 0) f.length k t = x := ⟨_, rfl⟩
        rw [hzz] at b2 HE hmd
        rw [hrr] at c4 HE hbd
        have w1 : IntKind.i64.wrap (xv * z) = xv * z := IntWalk.i64_in _ (by omega)
        have w2 : IntKind.i64.wrap (r - xv * z) = r - xv * z := IntWalk.i64_in _ (by omega)
        have htn' : (t : Int) < (f.length : Int) := by omega
        have hltj' : (j : Int) < (n' : Int) := by omega
        have xq := (hx (bq, 22, .slice (some ⟨Q, 0, none⟩) q q) (by simp)).cell
        have xr := (hx (br, 22, .slice (some ⟨G, 0, none⟩) f.length c5) (by simp)).cell
        have xm := (hx (bm, 2, .int .i64 p) (by simp)).cell
        have HR := Lib.hid hr
        have HQ := Lib.hid hqr
        have HX := Lib.hid hx
        have HB := Lib.hid hb
        have HK := Lib.hid hko
        have HF9 := Lib.hid hfr
        clear hzz hrr ht hbd hmd hr hqr hx hb hko hfr
        gi_wp2
        refine wpIn_region_still_tail 20 (by kernel_rfl) (by kernel_rfl) (by kernel_rfl) ?_
        simp only [List.take_succ_cons, List.take_zero, List.drop_succ_cons, List.drop_zero]
        iterate 18 still_step
        still_call ((remainder8_any (r - xv * z) p _ p2 (by omega)).mono fun e w h => ⟨h.1, h.2.symm⟩)
        repeat still_step
        refine wpStill_nil ?_
        change wpListIn _ _ _ _ _ _ _ wr.drew
        have HRd := Lib.hid (World.ownsRow.drew HR.out)
        have HQd := Lib.hid (World.ownsRow.drew HQ.out)
        have HBd := Lib.hid (below_drewN HB.out 1)
        have HXd := Lib.hid (boxes_drew HX.out)
        have HKd := Lib.hid (HK.out.trans (KeepsOthers.drew wr))
        have HFd := Lib.hid (frN_trans HF9.out (frN_drew wr))
        replace f4 : wr.drew.frozen? ⟨G, t, none⟩ = false := f4
        replace c4 : wr.drew.cell? ⟨G, t, none⟩ = _ := c4
        replace HRd : Hid (IntRow W4.heap.size wr.drew (.slice (some ⟨G, 0, none⟩) f.length c5) (subX p (mdS p iv g (fun j => f.getD j 0) f.length k) g xv f.length i j)) := HRd
        replace HQd : Hid (IntRow Q wr.drew (.slice (some ⟨Q, 0, none⟩) q q) (qX p iv f g q (k + 1))) := HQd
        replace HBd : Hid (Below w.heap.size w wr.drew) := HBd
        clear HR HQ HB HX HK HF9 b2 c5q xq xr xm
        generalize wr.drew = Wd2 at *
        have HR3 := Lib.hid (int_stored HRd.out (subX_length _ _ _ _ _ _ _) t ((r - xv * z) % p))
        rw [HE.out] at HR3
        have HQ3 := Lib.hid (row_other8 HQd.out (a := ⟨G, t, none⟩) (own_ne8 (Ne.symm hGQ)) (.int .i64 ((r - xv * z) % p)))
        have hGw : w.heap.size ≤ G := by have := HLW.out; omega
        have HB3 := Lib.hid (HBd.out.setCell (p := ⟨G, t, none⟩) hGw (.int .i64 ((r - xv * z) % p)))
        have HX3 := Lib.hid (boxes_set HXd.out (a := ⟨G, t, none⟩) (by
          intro y hy
          have h4 := HBL4.out
          have h5 := HLW.out.1
          show y.1 ≠ G
          rcases List.mem_cons.1 hy with rfl | hy
          · show bq ≠ G; omega
          rcases List.mem_cons.1 hy with rfl | hy
          · show br ≠ G; omega
          · have := h4 y hy; omega) (.int .i64 ((r - xv * z) % p)))
        have HK3 := Lib.hid (HKd.out.trans (KeepsOthers.setCell Wd2 ⟨G, t, none⟩ (.int .i64 ((r - xv * z) % p))))
        have HF3 := Lib.hid (frN_trans HFd.out (frN_set (g := Q) (b := bq + 1) (n := q) (A := Wd2) (a := ⟨G, t, none⟩) ((r - xv * z) % p) (by show bq + 1 ≠ G; omega)))
        clear HRd HQd HBd HXd HKd HFd
        gi_wp2
        go_roundw
        case rel => exact ⟨j + 1, by omega, by go_num, HK3.out, HF3.out, HX3.out, HR3.out, HQ3.out, HB3.out⟩
        case measure => simp only [intOf]; omega
      · have hjn : j = g.length := by have := HL'.out; omega
        have HR2 := Lib.hid (show IntRow W4.heap.size wr (.slice (some ⟨G, 0, none⟩) f.length c5) (tabL f.length (mdS p iv g (fun j => f.getD j 0) f.length (k + 1))) by rw [← HSUB.out, ← hjn]; exact hr)
        have HQ := Lib.hid hqr
        have HX := Lib.hid hx
        have HB := Lib.hid hb
        have HK := Lib.hid hko
        have HF9 := Lib.hid hfr
        clear hr hqr hx hb hko hfr hjn
        gi_wp2
        exact ⟨HK.out, HF9.out, HX.out, by rw [HLEN.out]; exact HR2.out, by rw [HLEN.out]; exact HQ.out, HB.out⟩
  case done =>
    rintro D xs W hD hxs ⟨hx, hr, hqr, hb⟩ hK
    have hxl : xs.length = q := by have h := congrArg List.length hxs; rwa [List.length_map, bkI_length] at h
    rw [hxl] at hr hqr
    have xq := (hx (bq, 22, .slice (some ⟨Q, 0, none⟩) q q) (by simp)).cell
    have xr := (hx (br, 22, .slice o5 f.length c5) (by simp)).cell
    have hql : qX p iv f g q q = quoP p f g := by
      rw [← HIV.out]
      by_cases h0 : q = 0
      · rw [few_quo (by have := HQD.out; have := HD.out; have := HL.out; have := HL'.out; omega), h0]; rfl
      · exact qX_full pp HF.out HIP.out (by have := HQD.out; have := HD.out; have := HL.out; have := HL'.out; omega) (by omega) (by have := HL'.out; omega)
    have hrl : trimL (tabL f.length (mdS p iv g (fun j => f.getD j 0) f.length q)) = remP p f g := by
      rw [← HIV.out]; exact rX_end rfl (by have := HQD.out; have := HD.out; have := HL.out; have := HL'.out; omega)
    have lr : (tabL f.length (mdS p iv g (fun j => f.getD j 0) f.length q)).length = f.length := tabL_length _ _
    have hu := trim_row hr
    rw [hrl] at hu
    rw [hql] at hqr
    have SR := Lib.hid (show Seen W o5 f.length c5 (tabL f.length (mdS p iv g (fun j => f.getD j 0) f.length q)) by
      have h := row_seen (o := o5) (n := (tabL f.length (mdS p iv g (fun j => f.getD j 0) f.length q)).length) (c := c5) (w := W) (by rw [lr]; exact hr) (by rw [lr]; have := HL.out; omega)
      rw [lr] at h; exact h)
    generalize tabL f.length (mdS p iv g (fun j => f.getD j 0) f.length q) = rl at *
    have HU := Lib.hid (intRow_lower hu HLOW.out.1)
    have HV9 := Lib.hid (intRow_lower (b := w.heap.size) hqr (by have := HLOW.out; omega))
    have HB := Lib.hid hb
    have hKD : W.drew.heap[D]? = some (.deferred (some [])) := hK
    have HKD := Lib.hid hKD
    have hDw : w.heap.size ≤ D := by omega
    have HAP := Lib.hid (show (Value.slice (some ⟨Q, 0, none⟩) q q).ownBlock = none ∨ (Value.slice (some ⟨Q, 0, none⟩) q q).ownBlock ≠ (Value.slice o5 (trimN rl rl.length) c5).ownBlock from .inr (fun e => by
      have h1 : (Value.slice o5 f.length c5).ownBlock = some Q := by
        cases o5 with
        | none => exact absurd e.symm (by intro h; cases h)
        | some a => exact e.symm
      have := HOWN.out Q h1
      omega))
    clear hx hr hqr hb hK hql hrl lr hu hKD hxs hxl
    obtain ⟨tn, htn⟩ : ∃ tn, trimN rl rl.length = tn := ⟨_, rfl⟩
    rw [htn] at HU HAP
    have HTN := Lib.hid htn
    clear htn
    go_wp2_with fail
    refine wp_region_still_lit (by kernel_rfl) (by kernel_rfl) ?_
    iterate 2 still_step
    still_call ((trimmed_any (seen_below SR.out (below_drewN (Below.refl _ _) 1))).mono fun e w h => ⟨h.1, h.2.symm⟩)
    repeat still_step
    refine wpStill_nil ?_
    go_wp2_with fail
    rw [HTN.out]
    refine ⟨by simp, .inl ⟨_, _, rfl, run_takeDeferred HKD.out, ?_⟩⟩
    refine ⟨.tuple #[.slice (some ⟨Q, 0, none⟩) q q, .slice o5 tn c5], by simp [results, Try.results76, go_sem], ?_⟩
    exact ⟨_, _, rfl, row_put8 (w := W.drew) HV9.out HKD.out rfl, row_put8 (w := W.drew) HU.out HKD.out rfl, below_put8 (below_drewN HB.out 1) hDw, HAP.out⟩
  case stop => intro _ _ _ _ _ h; exact h.elim
end Go.Proofs.Ytidcpmhbkldpeaa
namespace Go.Proofs.Ytidcpmhbkldpeaa
open Go.RowKit
set_option linter.unusedVariables false
set_option linter.unusedSimpArgs false
set_option maxRecDepth 20000
theorem rest_any (p : Int) (hs : smallB p = true) {o o' : Option Addr} {n n' c c' : Nat} {f g : List Int} {w : World} (h : Seen w o n c f) (h' : Seen w o' n' c' g) (hf : ModP p f) (hg : ModP p g) (h0 : g.length ≠ 0) (hn20 : n ≤ 20) (hn9' : n' ≤ 20) :
    Calls Try.prog 91 #[R1 p, .slice o n c, .slice o' n' c'] w (OwnPost (remP p f g) w) := by
  have hb1 := below_a8 w (.cells #[.int .i64 p, .int .i64 1] 47)
  have HD := Lib.hid (divide_any p hs (seen_below h hb1) (seen_d (seen_below h' hb1)) hf hg h0 hn20 hn9')
  clear h h' hf hg h0 hb1
  go_enter Try.func91, Try.ntmps91
  go_wp2_with fail
  refine HD.out.mono ?_
  rintro e w3 ⟨v, u, rfl, hq, hr, hb, hap⟩
  have HR := Lib.hid (intRow_lower (b := w.heap.size) hr (by simp))
  have HB := Lib.hid (box8 hb)
  clear hq hr hb hap HD
  go_wp2_with fail
  go_ret
  exact ⟨_, rfl, HR.out, HB.out⟩
theorem keep8 {w0 W W' : World} {a b : Addr} {u v : Value} (h : Below w0.heap.size w0 W ∧ W.cell? a = some u ∧ W.cell? b = some v) (hb : Below W.heap.size W W') : Below w0.heap.size w0 W' ∧ W'.cell? a = some u ∧ W'.cell? b = some v :=
  ⟨h.1.trans (hb.mono h.1.size), by rw [hb.cell (World.block_lt_of_cell? _ _ h.2.1)]; exact h.2.1, by rw [hb.cell (World.block_lt_of_cell? _ _ h.2.2)]; exact h.2.2⟩
theorem start8 (w : World) (p : Int) : Below w.heap.size w (w.alloc (.cells #[.int .i64 p, .int .i64 1] 47)).drew ∧ (w.alloc (.cells #[.int .i64 p, .int .i64 1] 47)).drew.cell? ⟨w.heap.size, 0, none⟩ = some (.int .i64 p) ∧ (w.alloc (.cells #[.int .i64 p, .int .i64 1] 47)).drew.cell? ⟨w.heap.size, 1, none⟩ = some (.int .i64 1) :=
  ⟨below_drewN (below_a8 w _) 1, World.cell?_alloc_new _ _ _ _ ▸ rfl, World.cell?_alloc_new _ _ _ _ ▸ rfl⟩
set_option maxHeartbeats 2000000 in
theorem monic_any (p : Int) (hs : smallB p = true) {o : Option Addr} {n c : Nat} {f : List Int} {w : World} (h : Seen w o n c f) (hf : ModP p f) (hn20 : n ≤ 20) :
    Calls Try.prog 57 #[R1 p, .slice o n c] w (OwnPost (monP p f) w) := by
  obtain ⟨p2, p97, pp⟩ := small_prime hs
  have HS := Lib.hid h
  obtain ⟨hl, hn, hno, hnc, g, h1, h2⟩ := h
  by_cases h0 : n = 0
  · have HE := Lib.hid (show monP p f = [] by unfold monP; rw [if_pos (by omega)])
    have HB := Lib.hid (below_a8 w (.cells #[.int .i64 p, .int .i64 1] 47))
    clear hno h1 h2 hl hs
    subst h0
    go_enter Try.func57, Try.ntmps57
    go_wp2_with fail
    go_ret
    rw [HE.out]
    exact ⟨_, rfl, intRow_nil _ _, HB.out⟩
  · obtain ⟨rfl, hag⟩ := h1 (by omega)
    obtain ⟨m, hm⟩ : ∃ m, m + 1 = n := ⟨n - 1, by omega⟩
    have hn1 : (n : Int) - 1 = (m : Int) := by omega
    have h0' : ((n : Int) == 0) = false := by simp; omega
    have hmn : (m : Int) ≤ (n : Int) := by omega
    have hnm : n - m = 1 := by omega
    have hncI : (n : Int) ≤ (c : Int) := by omega
    have hmcI : (m : Int) ≤ (c : Int) := by omega
    have hm0I : (0 : Int) ≤ (m : Int) := by omega
    have hcm : ¬ c = m := by omega
    have hl0 : f.length ≠ 0 := by omega
    have hne : f ≠ [] := fun e => hl0 (by rw [e]; rfl)
    have hlast := hf.rng (f.length - 1)
    have hlm : f.length - 1 = m := by omega
    have hml := modP_last hf hne
    have hgm : ModP p [f.getD m 0] := by
      rw [hlm] at hml hlast
      refine ⟨fun i => ?_, ?_⟩
      · cases i with
        | zero => exact hlast
        | succ i => simp; omega
      · have : ¬ f.getD m 0 = 0 := fun e => hml (by rw [e]; exact Int.dvd_zero _)
        simpa [lastB] using this
    have HE := Lib.hid (show quoP p f [f.getD m 0] = monP p f by rw [← hlm]; exact mon_quo p2 p97 pp hf hl0)
    have hc2 := h2 m (by omega)
    have HG := Lib.hid (show SeenD w (some ⟨g, m, none⟩) 1 (c - m) [f.getD m 0] from ⟨rfl, by omega, fun h => (by cases h), by omega, g, m, fun _ => ⟨rfl, hag⟩, fun k hk => by
      obtain rfl : k = 0 := by omega
      exact hc2⟩)
    have HDV := Lib.hid fun (W : World) (hw : Below w.heap.size w W) => divide_any p hs (seen_below HS.out hw) (seenD_below HG.out hw) hf hgm (by simp) hn20 (by omega)
    have hst := start8 w p
    clear hno h1 h2 hl hn hs hf hgm hlast hlm hml hc2 hm hl0 hne pp
    go_enter Try.func57, Try.ntmps57
    go_wp2_with fail
    have hwn : IntKind.i64.wrap ((n : Int) - 1) = (n : Int) - 1 := IntWalk.i64_in _ (by omega)
    have hwm : IntKind.i64.wrap (m : Int) = (m : Int) := IntWalk.i64_in _ (by omega)
    go_region_held3 (fun W' => Below w.heap.size w W' ∧ W'.cell? ⟨w.heap.size, 0, none⟩ = some (.int .i64 p) ∧ W'.cell? ⟨w.heap.size, 1, none⟩ = some (.int .i64 1)) (first | exact hst | exact keep8 ‹_› hb | assumption)
      (first | (go_at_call 76; refine (HDV.out _ hst.1).mono ?_; rintro e wn ⟨v, u, rfl, hq, hr, hb, hap⟩))
    have HR := Lib.hid (intRow_lower (b := w.heap.size) hq hst.1.size)
    have HB := Lib.hid (hst.1.trans (hb.mono hst.1.size))
    clear hq hr hb hap HDV hst
    go_wp2_with fail
    go_ret
    rw [← HE.out]
    exact ⟨_, rfl, HR.out, HB.out⟩
/-- the last one of a chain of remainders: seen somewhere -/
def LastP (p : Int) (f g : List Int) (w : World) (e : Ending) (w' : World) : Prop :=
  ∃ o n c F, e = .returned (.slice o n c) ∧ Seen w' o n c F ∧ ModP p F ∧ n ≤ 9 ∧ monP p F = gcdL p f g ∧ Below w.heap.size w w'
set_option maxHeartbeats 2000000 in
theorem lastDivisor_any (p : Int) (hs : smallB p = true) {o o' : Option Addr} {n n' c c' : Nat} {f g : List Int} {w : World} (h : Seen w o n c f) (h' : Seen w o' n' c' g) (hf : ModP p f) (hg : ModP p g) (hn : n ≤ 9) (hn' : n' ≤ 9) :
    Calls Try.prog 93 #[.func (.func 76) #[R1 p] #[], .slice o n c, .slice o' n' c'] w (LastP p f g w) := by
  obtain ⟨p2, p97, pp⟩ := small_prime hs
  have H0 := Lib.hid (And.intro h (And.intro h' (And.intro hf hg)))
  clear h h' hf hg
  go_enter Try.func93, Try.ntmps93
  go_wp2_with fail
  go_loopw [1, 2] (fun vf vg wr => ∃ (o1 : Option Addr) (n1 c1 : Nat) (F : List Int) (o2 : Option Addr) (n2 c2 : Nat) (G : List Int), vf = .slice o1 n1 c1 ∧ vg = .slice o2 n2 c2 ∧ Seen wr o1 n1 c1 F ∧ Seen wr o2 n2 c2 G ∧ ModP p F ∧ ModP p G ∧ n1 ≤ 9 ∧ n2 ≤ 9 ∧ gcdL p F G = gcdL p f g ∧ Below w.heap.size w wr) (fun _ vg _ => lenV vg)
  case atStart => exact ⟨o, n, c, f, o', n', c', g, rfl, rfl, H0.out.1, H0.out.2.1, H0.out.2.2.1, H0.out.2.2.2, hn, hn', rfl, Below.refl _ _⟩
  case round =>
    obtain ⟨o1, n1, c1, F, o2, n2, c2, G, rfl, rfl, s1, s2, m1, m2, l1, l2, hgc, hb⟩ := hrel
    have S1 := Lib.hid s1
    have S2 := Lib.hid s2
    have HB := Lib.hid hb
    have HG := Lib.hid hgc
    have HL2 := Lib.hid s2.1
    clear s1 s2 hb hgc H0
    by_cases h0 : n2 = 0
    · have HE := Lib.hid (show monP p F = gcdL p f g by rw [← HG.out]; exact (gcdL_end (by have := HL2.out; omega)).symm)
      have HM1 := Lib.hid m1
      clear m1 m2
      subst h0
      go_wp2_with fail
      go_ret
      exact ⟨o1, n1, c1, F, rfl, S1.out, HM1.out, l1, HE.out, HB.out⟩
    · have h0' : (0 : Int) < (n2 : Int) := by omega
      have hG0 : G.length ≠ 0 := by have := HL2.out; omega
      have HD := Lib.hid (divide_any p hs S1.out (seen_d S2.out) m1 m2 hG0 (by omega) (by omega))
      have HST := Lib.hid (gcdL_step p2 p97 pp m1 m2 hG0)
      have hd := divP_is p2 p97 pp m1 m2 (fun e => hG0 (by rw [e]; rfl))
      have HDD := Lib.hid (And.intro hd.mr hd.deg)
      have HM2 := Lib.hid m2
      clear m1 m2 hd hG0
      go_wp2_with fail
      refine HD.out.mono ?_
      rintro e w3 ⟨v, u, rfl, hq, hr, hb, hap⟩
      obtain ⟨o3, c3, rfl⟩ := row_slice hq
      obtain ⟨o4, c4, rfl⟩ := row_slice hr
      have HR := Lib.hid (row_seen hr (by have := HDD.out.2; have := HL2.out; omega))
      have S3 := Lib.hid (seen_below S2.out hb)
      have HB2 := Lib.hid (HB.out.trans (hb.mono HB.out.size))
      clear hq hr hb hap HD S1 S2
      go_wp2_with fail
      exact ⟨⟨o2, n2, c2, G, o4, (remP p F G).length, c4, remP p F G, rfl, rfl, S3.out, HR.out, HM2.out, HDD.out.1, l2, by have := HDD.out.2; have := HL2.out; omega, by rw [← HST.out]; exact HG.out, HB2.out⟩, by simp only [lenV]; have := HDD.out.2; have := HL2.out; omega⟩
set_option maxHeartbeats 2000000 in
theorem common_any (p : Int) (hs : smallB p = true) {o o' : Option Addr} {n n' c c' : Nat} {f g : List Int} {w : World} (h : Seen w o n c f) (h' : Seen w o' n' c' g) (hf : ModP p f) (hg : ModP p g) (hn : n ≤ 9) (hn' : n' ≤ 9) :
    Calls Try.prog 72 #[R1 p, .slice o n c, .slice o' n' c'] w (OwnPost (gcdL p f g) w) := by
  have hst := start8 w p
  have HLD := Lib.hid fun (W : World) (hw : Below w.heap.size w W) => lastDivisor_any p hs (seen_below h hw) (seen_below h' hw) hf hg hn hn'
  have HMO := Lib.hid fun (W : World) (o1 : Option Addr) (n1 c1 : Nat) (F : List Int) (s1 : Seen W o1 n1 c1 F) (m1 : ModP p F) (l1 : n1 ≤ 9) => monic_any p hs s1 m1 (by omega)
  have hmf : ∀ (fn : Fn) (first cap : Array Value) (w : World), (Instr.makeFunc fn first cap).run Try.prog w = .ok (.func fn first cap) w := fun _ _ _ _ => rfl
  clear h h' hf hg hs
  go_enter Try.func72, Try.ntmps72
  go_wp2_with fail
  go_region_held3 (fun W' => Below w.heap.size w W' ∧ W'.cell? ⟨w.heap.size, 0, none⟩ = some (.int .i64 p) ∧ W'.cell? ⟨w.heap.size, 1, none⟩ = some (.int .i64 1)) (first | exact hst | exact keep8 ‹_› hb | exact keep8 ‹_› hb2 | assumption)
    (first | (go_at_call 93; refine (HLD.out _ hst.1).mono ?_; rintro e wn ⟨o1, n1, c1, F, rfl, s1, m1, l1, hE, hb⟩) | (go_at_call 57; refine (HMO.out _ _ _ _ _ s1 m1 l1).mono ?_; rintro e wm ⟨v, rfl, hr, hb2⟩))
  have hB := hst.1.trans (hb.mono hst.1.size)
  rw [hE] at hr
  have HR := Lib.hid (intRow_lower hr hB.size)
  have HB := Lib.hid (hB.trans (hb2.mono hB.size))
  clear hr hb hb2 hB hst HLD HMO s1 m1 hE
  go_wp2_with fail
  go_ret
  exact ⟨_, rfl, HR.out, HB.out⟩
theorem and8_odd {e : Nat} (h1 : e ≤ 4000000000000000000) (h : e % 2 = 1) : (bits BinOp.and IntKind.i64 (e : Int) 1 == 1) = true := by
  have := Go.Proofs.and_one e (by omega)
  rw [this]; simp; omega
theorem and8_even {e : Nat} (h1 : e ≤ 4000000000000000000) (h : ¬ e % 2 = 1) : (bits BinOp.and IntKind.i64 (e : Int) 1 == 1) = false := by
  have := Go.Proofs.and_one e (by omega)
  rw [this]; simp; omega
set_option maxHeartbeats 1000000 in
theorem powerOf_any (p : Int) (hs : smallB p = true) {oa o : Option Addr} {ca n c : Nat} {f : List Int} {w : World} (E0 : Nat) (hE : E0 ≤ 1000000000000) (ha : Seen w oa 2 ca [0, 1]) (h : Seen w o n c f) (hf : ModP p f) (h0 : f.length ≠ 0) (hn9 : n ≤ 9) :
    Calls Try.prog 70 #[R1 p, .slice oa 2 ca, .int .i64 (E0 : Int), .slice o n c] w (OwnPost (powL p f E0) w) := by
  obtain ⟨p2, p97, pp⟩ := small_prime hs
  have hne : f ≠ [] := fun e => h0 (by rw [e]; rfl)
  have hfl : f.length ≤ 9 := by have := h.1; omega
  obtain ⟨k0, _⟩ := pow_first p2 p97 pp hf hne
  have kx := pw_x p2 f
  have m1 : ModP p [1] := ⟨fun i => by
    match i with
    | 0 => exact ⟨by simp, by simp; omega⟩
    | i + 1 => simp; omega, by simp [lastB]⟩
  have HREST := Lib.hid fun (wx : World) (o1 : Option Addr) (n1 c1 : Nat) (a : List Int) (h1 : Seen wx o1 n1 c1 a) (hx : Seen wx o n c f) (hm : ModP p a) (hn : n1 ≤ 20) => rest_any p hs h1 hx hm hf h0 hn (by omega)
  have HMUL := Lib.hid fun (wx : World) (o1 o2 : Option Addr) (n1 n2 c1 c2 : Nat) (a b : List Int) (h1 : Seen wx o1 n1 c1 a) (h2 : Seen wx o2 n2 c2 b) (ha : ModP p a) (hb : ModP p b) (l1 : n1 ≤ 20) (l2 : n2 ≤ 20) => product_any p hs h1 h2 ha hb l1 l2
  have HJ := Lib.hid fun (r s : List Int) (a b : Nat) (h1 : IsPw p f a r) (h2 : IsPw p f b s) => pw_join p2 p97 pp hf hne h1 h2
  have HMOD := Lib.hid fun (r s : List Int) => redL_mod (p := p) (by omega) (mulL r s)
  have HEQ := Lib.hid fun (r : List Int) (h : IsPow p f E0 r) => powL_eq p2 p97 pp hf hne h
  have hb1 := below_a8 w (.cells #[.int .i64 p, .int .i64 1] 47)
  have hb0 : Below w.heap.size w ((w.alloc (.cells #[.int .i64 p, .int .i64 1] 47)).alloc (.cells #[.int .i64 1] 2)) := hb1.alloc hb1.size _
  have hbb := below_a8 (w.alloc (.cells #[.int .i64 p, .int .i64 1] 47)) (.cells #[.int .i64 1] 2)
  have hca : (w.alloc (.cells #[.int .i64 p, .int .i64 1] 47)).cell? ⟨w.heap.size, 0, none⟩ = some (.int .i64 p) := World.cell?_alloc_new _ _ _ _ ▸ rfl
  have hcb : (w.alloc (.cells #[.int .i64 p, .int .i64 1] 47)).cell? ⟨w.heap.size, 1, none⟩ = some (.int .i64 1) := World.cell?_alloc_new _ _ _ _ ▸ rfl
  have HK1 := Lib.hid (keep8 (W := w.alloc (.cells #[.int .i64 p, .int .i64 1] 47)) ⟨hb1, hca, hcb⟩ hbb)
  have hs1 := seen_one (w.alloc (.cells #[.int .i64 p, .int .i64 1] 47)) 1 2
  rw [World.size_alloc] at hs1
  have HS1 := Lib.hid hs1
  have HSF := Lib.hid (seen_below (seen_below h hb1) hbb)
  have HSA := Lib.hid (seen_below (seen_below ha hb1) hbb)
  have K0 := Lib.hid k0
  have KX := Lib.hid kx
  have M1 := Lib.hid m1
  clear ha h hf h0 hne k0 kx m1 hb0 hb1 hbb hs hca hcb hs1
  go_enter Try.func70, Try.ntmps70
  go_wp2_with fail
  refine (HREST.out _ _ _ _ _ HS1.out HSF.out M1.out (by omega)).mono ?_
  rintro e W2 ⟨v, rfl, hr, hb⟩
  obtain ⟨o1, c1, rfl⟩ := row_slice hr
  have hk2 := keep8 HK1.out hb
  have SF2 := Lib.hid (seen_below HSF.out hb)
  have SA2 := Lib.hid (seen_below HSA.out hb)
  have R2 := Lib.hid (intRow_lower hr HK1.out.1.size)
  have HK2 := Lib.hid hk2
  clear hr hb HS1 HSF HSA HK1 hk2
  go_wp2_with fail
  go_loopw [1, 2, 9] (fun va ve vo wr => ∃ (o1 o2 : Option Addr) (c1 c2 : Nat) (r s : List Int) (A B e : Nat), va = .slice o2 s.length c2 ∧ ve = .int .i64 (e : Int) ∧ vo = .slice o1 r.length c1 ∧ IntRow w.heap.size wr (.slice o1 r.length c1) r ∧ Seen wr o2 s.length c2 s ∧ IsPow p f A r ∧ IsPw p f B s ∧ A + B * e = E0 ∧ e ≤ E0 ∧ Seen wr o n c f ∧ Below w.heap.size w wr ∧ wr.cell? ⟨w.heap.size, 0, none⟩ = some (.int .i64 p) ∧ wr.cell? ⟨w.heap.size, 1, none⟩ = some (.int .i64 1)) (fun _ ve _ _ => (intOf ve).toNat)
  case atStart => exact ⟨_, _, _, _, _, [0, 1], 0, 1, E0, rfl, rfl, rfl, R2.out, SA2.out, K0.out, KX.out, by omega, Nat.le_refl _, SF2.out, HK2.out⟩
  case round =>
    obtain ⟨o1, o2, c1, c2, r, s, A, B, e, rfl, rfl, rfl, rr, ss, pr, ps, hE1, heE, sf, hk⟩ := hrel
    have R := Lib.hid rr
    have SF := Lib.hid sf
    have HK := Lib.hid hk
    have PR := Lib.hid pr
    have PS := Lib.hid ps
    have HEE := Lib.hid hE1
    have lr := pow_len pr hfl
    have ls := ps.len
    have SR := Lib.hid (row_seen rr (by omega))
    have SS := Lib.hid ss
    clear rr ss sf hk pr ps hE1 R2 SA2 SF2 HK2 K0 KX M1
    by_cases hz : e = 0
    · have HP := Lib.hid (HEQ.out r (by have h := PR.out; have h2 := HEE.out; rw [hz, Nat.mul_zero, Nat.add_zero] at h2; rw [← h2]; exact h))
      subst hz
      go_wp2_with fail
      go_ret
      rw [← HP.out]
      exact ⟨_, rfl, R.out, HK.out.1⟩
    · have hz' : (0 : Int) < (e : Int) := by omega
      have hh : (e : Int) / 2 = ((e / 2 : Nat) : Int) := by omega
      have hhb : e / 2 ≤ E0 := by omega
      have hlt : e / 2 < e := by omega
      have lss := prodL_le p s s
      have lrs := prodL_le p r s
      by_cases ho : e % 2 = 1
      · have HOD := Lib.hid (half_odd HEE.out ho)
        have hbit := and8_odd (show e ≤ 4000000000000000000 by omega) ho
        obtain ⟨e2, he2⟩ : ∃ e2, e / 2 = e2 := ⟨_, rfl⟩
        rw [he2] at HOD hh hhb hlt
        clear he2 ho
        have hst := HK.out
        have hst1 : Below w.heap.size w wr.drew ∧ wr.drew.cell? ⟨w.heap.size, 0, none⟩ = some (.int .i64 p) ∧ wr.drew.cell? ⟨w.heap.size, 1, none⟩ = some (.int .i64 1) := ⟨below_drewN hst.1 1, hst.2.1, hst.2.2⟩
        have hbd : Below wr.heap.size wr wr.drew := below_drewN (Below.refl _ _) 1
        have HP1 := Lib.hid (HMUL.out _ _ _ _ _ _ _ _ _ (seen_below SR.out hbd) (seen_below SS.out hbd) PR.out.mod PS.out.mod (by omega) (by omega))
        go_wp2_with fail
        go_region_held3 (fun W' => Below w.heap.size w W' ∧ W'.cell? ⟨w.heap.size, 0, none⟩ = some (.int .i64 p) ∧ W'.cell? ⟨w.heap.size, 1, none⟩ = some (.int .i64 1)) (first | exact hst1 | exact keep8 ‹_› hb4 | exact keep8 ‹_› hb5 | assumption)
          (first | (go_at_call 66; refine HP1.out.mono ?_; rintro ee W4 ⟨v4, rfl, hr4, hb4⟩; obtain ⟨o4, c4, rfl⟩ := row_slice hr4) | (go_at_call 91; refine (HREST.out _ _ _ _ _ (row_seen hr4 (by omega)) (seen_below (seen_below SF.out hbd) hb4) (HMOD.out r s) (by omega)).mono ?_; rintro ee W5 ⟨v5, rfl, hr5, hb5⟩))
        obtain ⟨o5, c5, rfl⟩ := row_slice hr5
        have hk4 := keep8 hst1 hb4
        have HK5 := Lib.hid (keep8 hk4 hb5)
        have SF5 := Lib.hid (seen_below (seen_below (seen_below SF.out hbd) hb4) hb5)
        have SS5 := Lib.hid (seen_below (seen_below (seen_below SS.out hbd) hb4) hb5)
        have R5 := Lib.hid (intRow_lower hr5 hk4.1.size)
        clear hr4 hb4 hr5 hb5 hk4 hst hst1 hbd HP1 SR SS SF R HK
        have hst2 : Below w.heap.size w W5.drew ∧ W5.drew.cell? ⟨w.heap.size, 0, none⟩ = some (.int .i64 p) ∧ W5.drew.cell? ⟨w.heap.size, 1, none⟩ = some (.int .i64 1) := ⟨below_drewN HK5.out.1 1, HK5.out.2.1, HK5.out.2.2⟩
        have cc5 := HK5.out.2.1
        have cc6 := HK5.out.2.2
        have hbd2 : Below W5.heap.size W5 W5.drew := below_drewN (Below.refl _ _) 1
        have HP2 := Lib.hid (HMUL.out _ _ _ _ _ _ _ _ _ (seen_below SS5.out hbd2) (seen_below SS5.out hbd2) PS.out.mod PS.out.mod (by omega) (by omega))
        go_wp2_with fail
        go_region_held3 (fun W' => Below w.heap.size w W' ∧ W'.cell? ⟨w.heap.size, 0, none⟩ = some (.int .i64 p) ∧ W'.cell? ⟨w.heap.size, 1, none⟩ = some (.int .i64 1)) (first | exact hst2 | exact keep8 ‹_› hb6 | exact keep8 ‹_› hb7 | assumption)
          (first | (go_at_call 66; refine HP2.out.mono ?_; rintro ee W6 ⟨v6, rfl, hr6, hb6⟩; obtain ⟨o6, c6, rfl⟩ := row_slice hr6) | (go_at_call 91; refine (HREST.out _ _ _ _ _ (row_seen hr6 (by omega)) (seen_below (seen_below SF5.out hbd2) hb6) (HMOD.out s s) (by omega)).mono ?_; rintro ee W7 ⟨v7, rfl, hr7, hb7⟩))
        obtain ⟨o7, c7, rfl⟩ := row_slice hr7
        have hk6 := keep8 hst2 hb6
        have HK7 := Lib.hid (keep8 hk6 hb7)
        have SF7 := Lib.hid (seen_below (seen_below (seen_below SF5.out hbd2) hb6) hb7)
        have R7 := Lib.hid (row_below (row_below (row_below R5.out hbd2 (Nat.le_refl _)) hb6 (Nat.le_refl _)) hb7 (Nat.le_refl _))
        have HPS := HJ.out _ _ _ _ PS.out PS.out
        have A7 := Lib.hid (row_seen hr7 (by have := pow_len HPS hfl; omega))
        clear hr6 hb6 hr7 hb7 hk6 hst2 hbd2 HP2
        go_wp2_with fail
        exact ⟨⟨_, _, _, _, _, _, A + B, B + B, e2, rfl, by first | rfl | rw [hh], rfl, R7.out, A7.out, HJ.out _ _ _ _ (pw_of PR.out hfl) PS.out, pw_of HPS hfl, HOD.out, hhb, SF7.out, HK7.out⟩, by simp only [intOf]; omega⟩
      · have HOD := Lib.hid (half_even HEE.out (by omega))
        have hbit := and8_even (show e ≤ 4000000000000000000 by omega) ho
        obtain ⟨e2, he2⟩ : ∃ e2, e / 2 = e2 := ⟨_, rfl⟩
        rw [he2] at HOD hh hhb hlt
        clear he2 ho
        have hst2 : Below w.heap.size w wr.drew ∧ wr.drew.cell? ⟨w.heap.size, 0, none⟩ = some (.int .i64 p) ∧ wr.drew.cell? ⟨w.heap.size, 1, none⟩ = some (.int .i64 1) := ⟨below_drewN HK.out.1 1, HK.out.2.1, HK.out.2.2⟩
        have cc5 := HK.out.2.1
        have cc6 := HK.out.2.2
        have hbd2 : Below wr.heap.size wr wr.drew := below_drewN (Below.refl _ _) 1
        have HP2 := Lib.hid (HMUL.out _ _ _ _ _ _ _ _ _ (seen_below SS.out hbd2) (seen_below SS.out hbd2) PS.out.mod PS.out.mod (by omega) (by omega))
        go_wp2_with fail
        go_region_held3 (fun W' => Below w.heap.size w W' ∧ W'.cell? ⟨w.heap.size, 0, none⟩ = some (.int .i64 p) ∧ W'.cell? ⟨w.heap.size, 1, none⟩ = some (.int .i64 1)) (first | exact hst2 | exact keep8 ‹_› hb6 | exact keep8 ‹_› hb7 | assumption)
          (first | (go_at_call 66; refine HP2.out.mono ?_; rintro ee W6 ⟨v6, rfl, hr6, hb6⟩; obtain ⟨o6, c6, rfl⟩ := row_slice hr6) | (go_at_call 91; refine (HREST.out _ _ _ _ _ (row_seen hr6 (by omega)) (seen_below (seen_below SF.out hbd2) hb6) (HMOD.out s s) (by omega)).mono ?_; rintro ee W7 ⟨v7, rfl, hr7, hb7⟩))
        obtain ⟨o7, c7, rfl⟩ := row_slice hr7
        have hk6 := keep8 hst2 hb6
        have HK7 := Lib.hid (keep8 hk6 hb7)
        have SF7 := Lib.hid (seen_below (seen_below (seen_below SF.out hbd2) hb6) hb7)
        have R7 := Lib.hid (row_below (row_below (row_below R.out hbd2 (Nat.le_refl _)) hb6 (Nat.le_refl _)) hb7 (Nat.le_refl _))
        have HPS := HJ.out _ _ _ _ PS.out PS.out
        have A7 := Lib.hid (row_seen hr7 (by have := pow_len HPS hfl; omega))
        clear hr6 hb6 hr7 hb7 hk6 hst2 hbd2 HP2
        go_wp2_with fail
        exact ⟨⟨_, _, _, _, _, _, A, B + B, e2, rfl, by first | rfl | rw [hh], rfl, R7.out, A7.out, PR.out, pw_of HPS hfl, HOD.out, hhb, SF7.out, HK7.out⟩, by simp only [intOf]; omega⟩
end Go.Proofs.Ytidcpmhbkldpeaa
namespace Go.Proofs.Ytidcpmhbkldpeaa
open Go.RowKit Go.Shelf
attribute [local go_sem] Oper.semAt_some
set_option linter.unusedVariables false
set_option linter.unusedSimpArgs false
set_option maxRecDepth 20000
/-- what holds at the head of each round of Horner's rule -/
def VaI (w : World) (L : List (Nat × TypeId × Value)) (bv : Nat) (p : Int) (f : List Int) (x : Int) (pre : List (Nat × Int)) (W : World) : Prop :=
  Boxes W L ∧ Boxed W bv 2 (.int .i64 (evM p f x pre.length)) ∧ Below w.heap.size w W
theorem vaI_put {w W : World} {L : List (Nat × TypeId × Value)} {bv k : Nat} {p x : Int} {f : List Int} {pre : List (Nat × Int)} {o o' : Obj} (h : VaI w L bv p f x pre W) (hb : w.heap.size ≤ k) (hk : W.heap[k]? = some o) (ho : o.isCells = false) : VaI w L bv p f x pre (W.putObj k o') :=
  ⟨boxes_put h.1 hk ho, boxed_put8 h.2.1 hk ho, below_put8 h.2.2 hb⟩
theorem vaI_below {w A B : World} {L : List (Nat × TypeId × Value)} {bv : Nat} {p x : Int} {f : List Int} {pre : List (Nat × Int)} (h : VaI w L bv p f x pre A) (hs : StU8 A B) : VaI w L bv p f x pre B :=
  ⟨boxes_below h.1 hs, boxed_below8 h.2.1 hs, h.2.2.trans (hs.mono h.2.2.size)⟩
theorem fr8_put {g b k : Nat} {A W : World} {o' : Obj} (h : Fr8 g b A W) (h1 : g < k) (h2 : b < k) : Fr8 g b A (W.putObj k o') := by
  intro j hj
  refine (World.putObj_heap_other ?_).trans (h j hj)
  rcases hj with rfl | rfl <;> omega
theorem fr8_trans {g b : Nat} {A B C : World} (h : Fr8 g b A B) (k : Fr8 g b B C) : Fr8 g b A C := fun j hj => (k j hj).trans (h j hj)
end Go.Proofs.Ytidcpmhbkldpeaa
namespace Go.Proofs.Ytidcpmhbkldpeaa
open Go.RowKit
set_option linter.unusedVariables false
set_option linter.unusedSimpArgs false
set_option maxRecDepth 20000
theorem cell8_second (w : World) (o : Obj) (cs : Array Value) (T : TypeId) (k : Nat) : ((w.alloc o).alloc (.cells cs T)).cell? ⟨w.heap.size + 1, k, none⟩ = cs[k]? := by
  have e : (w.alloc o).heap.size = w.heap.size + 1 := by simp
  rw [← e, World.cell?_alloc_new]
theorem top8 {w w1 w4 : World} {a b : Value} {T : TypeId} {o : Obj} (h1 : Below w.heap.size w w1) (hb : Below ((w1.alloc (.cells #[a, b] T)).alloc o).heap.size ((w1.alloc (.cells #[a, b] T)).alloc o) w4) :
    Below w.heap.size w w4 ∧ w4.cell? ⟨w1.heap.size, 0, none⟩ = some a ∧ w4.cell? ⟨w1.heap.size, 1, none⟩ = some b := by
  have hx := below_a8 (w1.alloc (.cells #[a, b] T)) o
  have h2 := below_a8 w1 (.cells #[a, b] T)
  exact keep8 (keep8 (W := w1.alloc (.cells #[a, b] T)) ⟨h1.trans (h2.mono h1.size), World.cell?_alloc_new _ _ _ _ ▸ rfl, World.cell?_alloc_new _ _ _ _ ▸ rfl⟩ hx) hb
theorem top8_below {w w1 : World} (h1 : Below w.heap.size w w1) (o o' : Obj) : Below w.heap.size w ((w1.alloc o).alloc o') := (h1.alloc h1.size o).alloc (by simp; have := h1.size; omega) o'
theorem okC_val {p : Int} {f : List Int} (b : Bool) (h : modB p f = b) : okC p f = if b then 0 else 1 := by rw [okC, h]
theorem okC2_val {p : Int} {f g : List Int} (b : Bool) (h : twoM p f g = b) : okC2 p f g = if b then 0 else 1 := by rw [okC2, h]
end Go.Proofs.Ytidcpmhbkldpeaa
namespace Go.Proofs.Ytidcpmhbkldpeaa
open Go.RowKit
set_option linter.unusedVariables false
set_option maxRecDepth 20000
set_option linter.unusedSimpArgs false
theorem modB_len {p : Int} {f : List Int} (h : modB p f = true) : f.length ≤ 9 := (modB_of h).len
theorem rdQ_len (p : Int) (f : List Int) : (rdQ p f).length ≤ 100 := by
  unfold rdQ
  split
  · rename_i h
    rw [Bool.and_eq_true] at h
    have := redL_le p f; have := (polyB_of h.2).1; omega
  · simp
theorem pxQ_len (p e : Int) (f : List Int) : (pxQ p e f).length ≤ 100 := by
  unfold pxQ
  split
  · rename_i h
    obtain ⟨hm, _, _, h0⟩ := pxC_zero h
    have F := modB_of hm
    have := (powL_is F.two F.top F.prime F.mod (fun e => h0 (by rw [e]; rfl)) e.toNat).deg
    have := F.len; omega
  · simp
theorem rtQ_len (p : Int) (f : List Int) : (rtQ p f).length ≤ 100 := by
  unfold rtQ
  split
  · rename_i h
    have hm : modB p f = true := by
      unfold rtC at h
      split at h
      · assumption
      · omega
    have := (modB_of hm).top
    have := rootsN_len (p := p) (f := f) p.toNat
    omega
  · simp
theorem drQ_len (p : Int) (f : List Int) : (drQ p f).length ≤ 100 := by
  unfold drQ
  split
  · rename_i h
    have h9 : (derL f).length = f.length - 1 := by rw [derL, tabL_length]
    have := redL_le p (derL f); have := modB_len h
    omega
  · simp
theorem mmQ_len (p : Int) (f g : List Int) : (mmQ p f g).length ≤ 100 := by
  unfold mmQ
  split
  · rename_i h
    unfold mmC at h
    split at h
    · split at h
      · omega
      · omega
    · omega
  · simp
theorem cmQ_len (p : Int) (f g : List Int) : (cmQ p f g).length ≤ 100 := by
  unfold cmQ
  split
  · rename_i h
    obtain ⟨hf, hg⟩ := twoM_of h
    have F := modB_of hf
    have G := modB_of hg
    have := gcd_le F.prime F.mod G.mod (gcdL_is F.two F.top F.prime F.mod G.mod)
    have := F.len; have := G.len; omega
  · simp
theorem dvQ_len (p : Int) (f g : List Int) : (dvQ p f g).length ≤ 100 := by
  unfold dvQ
  split
  · rename_i h
    have := quoP_len p f g; have := modB_len (twC_zero h).1; omega
  · simp
theorem dvR_len (p : Int) (f g : List Int) : (dvR p f g).length ≤ 100 := by
  unfold dvR
  split
  · rename_i h
    have := remP_len p f g; have := modB_len (twC_zero h).1; omega
  · simp
end Go.Proofs.Ytidcpmhbkldpeaa
namespace Go.Proofs.Ytidcpmhbkldpeaa
open Go.RowKit
set_option linter.unusedVariables false
set_option linter.unusedSimpArgs false
def BackAtO (o : Option Addr) (g b c : Nat) (l : List Int) (W : World) : Prop :=
  Boxed W b 22 (.slice o l.length c) ∧ ∀ k, k < l.length → W.cell? ⟨g, k, none⟩ = some (.int .i64 (l.getD k 0))
theorem backAtO_kept {o : Option Addr} {g b c : Nat} {l : List Int} {A B : World} (h : BackAtO o g b c l A) (hf : Fr8 g b A B) : BackAtO o g b c l B :=
  ⟨(hf b (.inr rfl)).trans h.1, fun k hk => by rw [World.cell?_of_block (w := A) (a := ⟨g, k, none⟩) (hf g (.inl rfl))]; exact h.2 k hk⟩
set_option maxRecDepth 20000 in
set_option maxHeartbeats 1600000 in
theorem backwardO_by (n : Nat) (hn : 1 ≤ n) (o : Option Addr) (g b c : Nat) (l : List Int) (ho : 0 < l.length → o = some ⟨g, 0, none⟩) (hl : l.length ≤ 1100000) :
    SeqBb Fence.wide n Try.prog 89 #[] #[.pointer (some ⟨b, 0, none⟩)] (fun x : Nat × Int => #[.int .i64 x.1, .int .i64 x.2]) StU8 (Fr8 g b) (fun xs => xs = bk8 l l.length) (fun pre => ∃ j, j ≤ l.length ∧ pre = bk8 l j) (BackAtO o g b c l) := by
  intro lp J Jx W hW hJ hX h0 hY
  have HW := Lib.hid hW
  have H0 := Lib.hid h0
  have q0 := hW.1.cell
  clear hW h0
  show CallsIn Fence.wide n Try.prog 89 #[.func (.yield lp) #[] #[], .pointer (some ⟨b, 0, none⟩)] W _
  refine callsIn_of_wp Try.func89 rfl trivial ?_ rfl
  simp only [Try.ntmps89, List.size_toArray, List.length_cons, List.length_nil, Nat.reduceAdd, Nat.reduceSub, Array.replicate_succ, Array.replicate_zero, List.push_toArray, List.append_toArray, List.nil_append, List.cons_append]
  gi_wp2
  gi_loopw [3] (fun i wr => ∃ (j : Nat) (x : Int), j ≤ l.length ∧ i = .int .i64 x ∧ x = (l.length : Int) - 1 - j ∧ BackAtO o g b c l wr ∧ J (bk8 l j) wr) (fun i wr => (intOf i + 1).toNat)
  case atStart => exact ⟨0, (l.length : Int) - 1, Nat.zero_le _, rfl, by omega, HW.out, H0.out⟩
  case round =>
    obtain ⟨j, x, hj, rfl, hx, hb, hJj⟩ := hrel
    have q1 := hb.1.cell
    by_cases hlt : j < l.length
    · have HO := Lib.hid (ho (by omega))
      rw [ho (by omega)] at q1
      obtain ⟨m, hm⟩ : ∃ m : Nat, x = m := ⟨x.toNat, by omega⟩
      subst hm
      have hm2 : m = l.length - 1 - j := by omega
      have hml : m < l.length := by omega
      have q2 := hb.2 m hml
      obtain ⟨y, hy⟩ : ∃ y, l.getD m 0 = y := ⟨_, rfl⟩
      rw [hy] at q2
      have hs : bk8 l (j + 1) = bk8 l j ++ [(m, y)] := by rw [bk8_succ, ← hm2, hy]
      have HY := Lib.hid (hY (bk8 l j) (m, y) wr ⟨j + 1, by omega, hs.symm⟩ hJj)
      have HS := Lib.hid hs
      have HB := Lib.hid hb
      have HXX := Lib.hid hx
      have hm0 : (m : Int) ≤ 1100000 := by omega
      have hge : (0 : Int) ≤ (m : Int) := by omega
      clear hs hb hJj hy hm2 hx
      obtain ⟨fn, tmps, assign, body, hy, hR⟩ := HY.out
      clear HY
      simp only at hy
      gi_wp2
      refine hR.mono ?_
      rintro e W3 (⟨rfl, hJ3, hF3⟩ | ⟨rfl, hX3⟩)
      · have hb3 := backAtO_kept HB.out hF3
        have d0 := hb3.1.cell
        rw [HO.out] at d0
        have HB3 := Lib.hid hb3
        clear hb3 q1 q2
        gi_wp2
        go_roundw
        case rel => exact ⟨j + 1, (m : Int) - 1, by omega, rfl, by have := HXX.out; omega, HB3.out, by rw [HS.out]; exact hJ3⟩
        case measure => simp [intOf]
      · gi_wp2
        refine bodyPost_ret (results_none rfl _ _ _) rfl ?_
        exact ⟨_, rfl, .inr ⟨_, ⟨j + 1, by omega, HS.out.symm⟩, hX3⟩⟩
    · have hjl : j = l.length := by omega
      have HK := Lib.hid hjl
      have HJ := Lib.hid hJj
      have hx1 : x < 0 := by omega
      clear hjl hJj hb
      gi_wp2
      go_end0
      have hJe := HJ.out
      rw [HK.out] at hJe
      exact ⟨_, rfl, .inl ⟨_, rfl, hJe⟩⟩
end Go.Proofs.Ytidcpmhbkldpeaa
namespace Go.Proofs.Ytidcpmhbkldpeaa
open Go.RowKit
set_option linter.unusedVariables false
set_option linter.unusedSimpArgs false
set_option maxRecDepth 20000
/-- -1, 0 or 1 -/
def cmpI (a b : Int) : Int := if a < b then -1 else if b < a then 1 else 0
theorem isNaN_int (a : Int) (w : World) : Calls Try.prog 88 #[.int .i64 a] w fun e w' => e = .returned (.bool false) ∧ w' = w := by
  go_enter Try.func88, Try.ntmps88
  go_wp2
  go_ret
  exact ⟨rfl, rfl⟩
theorem isNaN_i64 (a : Int) (w : World) : Calls Try.prog 90 #[.int .i64 a] w fun e w' => e = .returned (.bool false) ∧ w' = w := by
  go_enter Try.func90, Try.ntmps90
  go_wp2
  go_ret
  exact ⟨rfl, rfl⟩
theorem cmp_int (a b : Int) (w : World) : Calls Try.prog 67 #[.int .i64 a, .int .i64 b] w fun e w' => e = .returned (.int .i64 (cmpI a b)) ∧ w' = w := by
  have HN := Lib.hid fun (a : Int) (w : World) => isNaN_int a w
  go_enter Try.func67, Try.ntmps67
  go_wp2_with fail
  refine (HN.out _ _).mono ?_
  rintro e w1 ⟨rfl, rfl⟩
  go_wp2_with fail
  refine (HN.out _ _).mono ?_
  rintro e w2 ⟨rfl, rfl⟩
  by_cases h1 : a < b
  · go_wp2_with fail
    go_ret
    have hc : cmpI a b = -1 := by unfold cmpI; (repeat' split) <;> omega
    exact ⟨by rw [hc]; rfl, rfl⟩
  · by_cases h2 : b < a
    · go_wp2_with fail
      go_ret
      have hc : cmpI a b = 1 := by unfold cmpI; (repeat' split) <;> omega
      exact ⟨by rw [hc]; rfl, rfl⟩
    · go_wp2_with fail
      go_ret
      have hc : cmpI a b = 0 := by unfold cmpI; (repeat' split) <;> omega
      exact ⟨by rw [hc]; rfl, rfl⟩
theorem cmp_i64 (a b : Int) (w : World) : Calls Try.prog 69 #[.int .i64 a, .int .i64 b] w fun e w' => e = .returned (.int .i64 (cmpI a b)) ∧ w' = w := by
  have HN := Lib.hid fun (a : Int) (w : World) => isNaN_i64 a w
  go_enter Try.func69, Try.ntmps69
  go_wp2_with fail
  refine (HN.out _ _).mono ?_
  rintro e w1 ⟨rfl, rfl⟩
  go_wp2_with fail
  refine (HN.out _ _).mono ?_
  rintro e w2 ⟨rfl, rfl⟩
  by_cases h1 : a < b
  · go_wp2_with fail
    go_ret
    have hc : cmpI a b = -1 := by unfold cmpI; (repeat' split) <;> omega
    exact ⟨by rw [hc]; rfl, rfl⟩
  · by_cases h2 : b < a
    · go_wp2_with fail
      go_ret
      have hc : cmpI a b = 1 := by unfold cmpI; (repeat' split) <;> omega
      exact ⟨by rw [hc]; rfl, rfl⟩
    · go_wp2_with fail
      go_ret
      have hc : cmpI a b = 0 := by unfold cmpI; (repeat' split) <;> omega
      exact ⟨by rw [hc]; rfl, rfl⟩
end Go.Proofs.Ytidcpmhbkldpeaa
namespace Go.Proofs.Ytidcpmhbkldpeaa
set_option linter.unusedVariables false
set_option maxRecDepth 20000
set_option linter.unusedSimpArgs false
structure PP (p : Int) : Prop where
  two : 2 ≤ p
  top : p ≤ 97
  prime : PrimeP p
/-- d divides f -/
def Dv (p : Int) (d f : List Int) : Prop := ∃ k, CgP p f (mulL d k)
theorem dv_refl (p : Int) (f : List Int) : Dv p f f := ⟨[1], cgp_val fun x => by rw [pval_mul, pval_one, Int.mul_one]⟩
theorem dv_cg {p : Int} {d f g : List Int} (h : Dv p d f) (e : CgP p g f) : Dv p d g := by
  obtain ⟨k, hk⟩ := h; exact ⟨k, cgp_trans e hk⟩
theorem dv_trans {p : Int} {a b c : List Int} (h1 : Dv p a b) (h2 : Dv p b c) : Dv p a c := by
  obtain ⟨k, m, hk⟩ := h1
  obtain ⟨l, n, hl⟩ := h2
  refine ⟨mulL k l, addL (mulL m l) n 1, fun x => ?_⟩
  have e1 := hk x
  have e2 := hl x
  simp only [pval_mul, pval_add] at e1 e2 ⊢
  grind
theorem dv_left (p : Int) (a b : List Int) : Dv p a (mulL a b) := ⟨b, cgp_refl p _⟩
theorem dv_right (p : Int) (a b : List Int) : Dv p b (mulL a b) := ⟨a, cgp_val fun x => by rw [pval_mul, pval_mul, Int.mul_comm]⟩
structure IrrP (p : Int) (q : List Int) : Prop where
  mod : ModP p q
  mon : q.getD (q.length - 1) 0 = 1
  deg : 2 ≤ q.length
  irr : ∀ d, ModP p d → d.getD (d.length - 1) 0 = 1 → Dv p d q → d = [1] ∨ d = q
theorem IrrP.ne {p : Int} {q : List Int} (h : IrrP p q) : q ≠ [] := fun e => by have := h.deg; rw [e] at this; simp at this
theorem modP_one {p : Int} (hp : 2 ≤ p) : ModP p [1] := by
  refine ⟨fun i => ?_, by simp [lastB]⟩
  match i with
  | 0 => exact ⟨by simp, by simp; omega⟩
  | i + 1 => simp; omega
theorem IrrP.not_one {p : Int} (P : PP p) {q : List Int} (h : IrrP p q) : ¬ Dv p q [1] := fun ⟨k, hk⟩ => by
  have := multiple_le P.prime (modP_one P.two) h.mod (by simp) h.ne hk
  have h2 := h.deg
  simp at this; omega
/-- an irreducible one that divides a product divides one of both -/
theorem irr_prime {p : Int} (P : PP p) {q a b : List Int} (h : IrrP p q) (hd : Dv p q (mulL a b)) : Dv p q a ∨ Dv p q b := by
  have hp0 : 0 < p := by have := P.two; omega
  have ha := redL_mod hp0 a
  have G := gcdL_is P.two P.top P.prime h.mod ha
  have h0 : gcdL p q (redL p a) ≠ [] := fun e => h.ne ((gcd_zero hp0 h.mod ha G).1 e).1
  rcases h.irr _ G.mod (G.mon.resolve_left h0) G.left with e | e
  · right
    obtain ⟨u, v, k, hk⟩ := G.comb
    obtain ⟨c, m, hc⟩ := hd
    obtain ⟨n, hn⟩ := redL_cg p a
    rw [e] at hk
    refine ⟨addL (mulL b u) (mulL v c) 1, addL (addL (mulL v (mulL n b)) (mulL v m) 1) (mulL k b) 1, fun x => ?_⟩
    have e1 := hk x
    have e2 := hc x
    have e3 := hn x
    simp only [pval_mul, pval_add, pval_one] at e1 e2 e3 ⊢
    grind
  · left
    have hr := G.right
    rw [e] at hr
    exact dv_cg hr (cgp_symm (redL_cg p a))
theorem irr_same {p : Int} {q r : List Int} (h : IrrP p q) (h' : IrrP p r) (hd : Dv p q r) : q = r := by
  rcases h'.irr q h.mod h.mon hd with e | e
  · have := h.deg; rw [e] at this; simp at this
  · exact e
/-! powers and products -/
def powP (q : List Int) : Nat → List Int
  | 0 => [1]
  | n + 1 => mulL q (powP q n)
theorem pval_powP (q : List Int) (x : Int) : ∀ n, pval (powP q n) x = pval q x ^ n
  | 0 => by rw [powP, pval_one, Int.pow_zero]
  | n + 1 => by rw [powP, pval_mul, pval_powP q x n, Int.pow_succ, Int.mul_comm]
theorem cancel {p : Int} (P : PP p) {g a b : List Int} (hg : ModP p g) (h0 : g ≠ []) (h : CgP p (mulL g a) (mulL g b)) : CgP p a b := by
  have h1 : CgP p (mulL g (addL a b (-1))) [] := by
    obtain ⟨k, hk⟩ := h
    refine ⟨k, fun x => ?_⟩
    have := hk x
    simp only [pval_mul, pval_add, pval_nil] at this ⊢
    grind
  have h2 := no_div P.prime (modP_last hg h0) (by cases g with | nil => exact absurd rfl h0 | cons a b => simp) (r := []) (fun i _ => by simp) h1
  exact cgp_of fun i => by have := h2 i; rw [addL_getD] at this; rwa [show a.getD i 0 + -1 * b.getD i 0 = a.getD i 0 - b.getD i 0 by omega] at this
theorem cancel_pow {p : Int} (P : PP p) {g : List Int} (hg : ModP p g) (h0 : g ≠ []) : ∀ (n : Nat) {a b : List Int}, CgP p (mulL (powP g n) a) (mulL (powP g n) b) → CgP p a b
  | 0, a, b, h => by
    refine cgp_trans (cgp_val fun x => ?_) (cgp_trans h (cgp_val fun x => ?_)) <;> rw [pval_mul, powP, pval_one, Int.one_mul]
  | n + 1, a, b, h => by
    refine cancel_pow P hg h0 n (cancel P hg h0 (cgp_trans (cgp_val fun x => ?_) (cgp_trans h (cgp_val fun x => ?_)))) <;> simp only [powP, pval_mul, Int.mul_assoc]
theorem dv_powP {p : Int} (P : PP p) {q a : List Int} (h : IrrP p q) : ∀ n, Dv p q (powP a n) → Dv p q a
  | 0, hd => absurd hd (h.not_one P)
  | n + 1, hd => (irr_prime P h hd).elim id (dv_powP P h n)
def prodF : List (List Int × Nat) → List Int
  | [] => [1]
  | x :: l => mulL (powP x.1 x.2) (prodF l)
theorem pval_prodF (l m : List (List Int × Nat)) (x : Int) : pval (prodF (l ++ m)) x = pval (prodF l) x * pval (prodF m) x := by
  induction l with
  | nil => rw [List.nil_append, prodF, pval_one, Int.one_mul]
  | cons a l ih => rw [List.cons_append, prodF, prodF, pval_mul, pval_mul, ih, Int.mul_assoc]
theorem dv_prodF {p : Int} (P : PP p) {q : List Int} (h : IrrP p q) : ∀ l, Dv p q (prodF l) → ∃ x, x ∈ l ∧ Dv p q x.1
  | [], hd => absurd hd (h.not_one P)
  | x :: l, hd => by
    rcases irr_prime P h hd with h1 | h1
    · exact ⟨x, by simp, dv_powP P h x.2 h1⟩
    · obtain ⟨y, hy, h2⟩ := dv_prodF P h l h1
      exact ⟨y, by simp [hy], h2⟩
/-! the order -/
def cmpN (f g : List Int) : Nat → Int
  | 0 => 0
  | k + 1 => if f.getD k 0 < g.getD k 0 then -1 else if f.getD k 0 > g.getD k 0 then 1 else cmpN f g k
def cmpL (f g : List Int) : Int := if f.length < g.length then -1 else if f.length > g.length then 1 else cmpN f g f.length
theorem cmpN_swap (f g : List Int) : ∀ k, cmpN g f k = -cmpN f g k
  | 0 => rfl
  | k + 1 => by
    rw [cmpN, cmpN, cmpN_swap f g k]
    split <;> split <;> (try split) <;> omega
theorem cmpL_swap (f g : List Int) : cmpL g f = -cmpL f g := by
  unfold cmpL
  by_cases h1 : f.length < g.length
  · rw [if_neg (by omega), if_pos (by omega), if_pos h1]; rfl
  · by_cases h2 : f.length > g.length
    · rw [if_pos h2, if_neg h1, if_pos h2]
    · rw [if_neg h2, if_neg h1, if_neg h1, if_neg h2, show g.length = f.length by omega]; exact cmpN_swap f g _
theorem cmpN_zero {f g : List Int} : ∀ k, cmpN f g k = 0 → ∀ i, i < k → f.getD i 0 = g.getD i 0
  | 0, _, i, hi => absurd hi (by omega)
  | k + 1, h, i, hi => by
    rw [cmpN] at h
    split at h
    · omega
    · split at h
      · omega
      · by_cases e : i = k
        · subst e; omega
        · exact cmpN_zero k h i (by omega)
theorem cmpL_zero {f g : List Int} (h : cmpL f g = 0) : f = g := by
  unfold cmpL at h
  split at h
  · omega
  · split at h
    · omega
    · refine List.ext_getElem (by omega) fun i h1 h2 => ?_
      have := cmpN_zero _ h i h1
      rw [List.getD, List.getD, List.getElem?_eq_getElem h1, List.getElem?_eq_getElem h2] at this
      exact this
def ltP (f g : List Int) : Prop := cmpL f g = -1
theorem ltP_asymm {f g : List Int} (h : ltP f g) : ¬ ltP g f := fun h' => by unfold ltP at *; rw [cmpL_swap] at h'; omega
theorem ltP_irrefl (f : List Int) : ¬ ltP f f := fun h => ltP_asymm h h
def Ordered (l : List (List Int × Nat)) : Prop := l.Pairwise fun a b => ltP a.1 b.1
theorem ordered_same : ∀ {l m : List (List Int × Nat)}, Ordered l → Ordered m → (∀ x, x ∈ l ↔ x ∈ m) → l = m
  | [], [], _, _, _ => rfl
  | [], y :: m, _, _, h => absurd ((h y).2 (by simp)) (by simp)
  | x :: l, [], _, _, h => absurd ((h x).1 (by simp)) (by simp)
  | x :: l, y :: m, hl, hm, h => by
    have hl' := List.pairwise_cons.1 hl
    have hm' := List.pairwise_cons.1 hm
    have e : x = y := by
      have h1 := (h x).1 (by simp)
      have h2 := (h y).2 (by simp)
      rcases List.mem_cons.1 h1 with h1 | h1
      · exact h1
      · rcases List.mem_cons.1 h2 with h2 | h2
        · exact h2.symm
        · exact absurd (hl'.1 y h2) (ltP_asymm (hm'.1 x h1))
    subst e
    rw [ordered_same hl'.2 hm'.2 fun z => ?_]
    constructor
    · intro hz
      rcases List.mem_cons.1 ((h z).1 (by simp [hz])) with e | e
      · exact absurd (hl'.1 z hz) (by rw [e]; exact ltP_irrefl _)
      · exact e
    · intro hz
      rcases List.mem_cons.1 ((h z).2 (by simp [hz])) with e | e
      · exact absurd (hm'.1 z hz) (by rw [e]; exact ltP_irrefl _)
      · exact e
/-- the factors of f, in order -/
structure IsFac (p : Int) (f : List Int) (l : List (List Int × Nat)) : Prop where
  irr : ∀ x, x ∈ l → IrrP p x.1 ∧ 1 ≤ x.2
  ord : Ordered l
  eq : CgP p f (prodF l)
theorem pow_le_dv {p : Int} {q f : List Int} {m n : Nat} (h : m ≤ n) (hd : Dv p (powP q n) f) : Dv p (powP q m) f := by
  refine dv_trans ⟨powP q (n - m), cgp_val fun x => ?_⟩ hd
  rw [pval_mul, pval_powP, pval_powP, pval_powP, ← Int.pow_add, show m + (n - m) = n by omega]
/-- who is in the list: the irreducible ones that divide, each with the number of times -/
theorem fac_mem {p : Int} (P : PP p) {f : List Int} {l : List (List Int × Nat)} (F : IsFac p f l) (q : List Int) (t : Nat) :
    (q, t) ∈ l ↔ IrrP p q ∧ 1 ≤ t ∧ Dv p (powP q t) f ∧ ¬ Dv p (powP q (t + 1)) f := by
  have fwd : ∀ q t, (q, t) ∈ l → IrrP p q ∧ 1 ≤ t ∧ Dv p (powP q t) f ∧ ¬ Dv p (powP q (t + 1)) f := by
    intro q t hm
    obtain ⟨hq, ht⟩ := F.irr _ hm
    simp only at hq ht
    obtain ⟨l1, l2, e⟩ := List.append_of_mem hm
    have hO := F.ord
    rw [e] at hO
    have hO2 := List.pairwise_append.1 hO
    have hO3 := List.pairwise_cons.1 hO2.2.1
    have hE : CgP p f (mulL (powP q t) (prodF (l1 ++ l2))) := cgp_trans F.eq (cgp_val fun x => by
      rw [e, pval_prodF, pval_mul, pval_prodF, prodF, pval_mul]
      simp only
      grind)
    refine ⟨hq, ht, ⟨_, hE⟩, fun ⟨k, hk⟩ => ?_⟩
    have h1 : CgP p (mulL (powP q t) (prodF (l1 ++ l2))) (mulL (powP q t) (mulL q k)) := cgp_trans (cgp_symm hE) (cgp_trans hk (cgp_val fun x => by
      rw [powP, pval_mul, pval_mul, pval_mul, pval_mul]; grind))
    obtain ⟨y, hy, hd⟩ := dv_prodF P hq _ ⟨k, cancel_pow P hq.mod hq.ne t h1⟩
    have hyl : y ∈ l := by
      rw [e]
      rcases List.mem_append.1 hy with h | h <;> simp [h]
    have hs := irr_same hq (F.irr y hyl).1 hd
    rcases List.mem_append.1 hy with h | h
    · have := hO2.2.2 y h (q, t) (by simp)
      simp only [← hs] at this
      exact ltP_irrefl _ this
    · have := hO3.1 y h
      simp only [← hs] at this
      exact ltP_irrefl _ this
  refine ⟨fwd q t, fun ⟨hq, ht, h1, h2⟩ => ?_⟩
  have h3 : Dv p q f := dv_trans ⟨[1], cgp_val fun x => by simp only [pval_mul, pval_powP, pval_one]; rw [Int.pow_succ, Int.pow_zero]; omega⟩ (pow_le_dv (m := 1) ht h1)
  obtain ⟨y, hy, hd⟩ := dv_prodF P hq l (dv_cg h3 (cgp_symm F.eq))
  have hs := irr_same hq (F.irr y hy).1 hd
  obtain ⟨y1, y2⟩ := y
  simp only at hs
  subst hs
  obtain ⟨_, g1, g2, g3⟩ := fwd _ _ hy
  have e : t = y2 := by
    rcases Nat.lt_trichotomy t y2 with h | h | h
    · exact absurd (pow_le_dv h g2) h2
    · exact h
    · exact absurd (pow_le_dv h h1) g3
  rw [e]; exact hy
/-- FACTORS ARE TOLD IN ONE WAY ONLY -/
theorem fac_unique {p : Int} (P : PP p) {f : List Int} {l m : List (List Int × Nat)} (h : IsFac p f l) (h' : IsFac p f m) : l = m :=
  ordered_same h.ord h'.ord fun x => by obtain ⟨q, t⟩ := x; rw [fac_mem P h, fac_mem P h']
end Go.Proofs.Ytidcpmhbkldpeaa
namespace Go.Proofs.Ytidcpmhbkldpeaa
open Go.RowKit
set_option linter.unusedVariables false
set_option linter.unusedSimpArgs false
set_option maxRecDepth 20000
attribute [local go_sem] Oper.semAt_some
theorem cmpN_step (f g : List Int) (k : Nat) : cmpN f g (k + 1) = if f.getD k 0 = g.getD k 0 then cmpN f g k else cmpI (f.getD k 0) (g.getD k 0) := by
  rw [cmpN, cmpI]
  split
  · rw [if_neg (by omega)]
  · split
    · rw [if_neg (by omega)]
    · rw [if_pos (by omega)]
theorem cmpL_eq {f g : List Int} (h : f.length = g.length) : cmpL f g = cmpN f g f.length := by
  rw [cmpL, if_neg (by omega), if_neg (by omega)]
theorem cmpL_ne {f g : List Int} (h : f.length ≠ g.length) : cmpL f g = cmpI f.length g.length := by
  by_cases h1 : f.length < g.length
  · rw [cmpL, if_pos h1, cmpI, if_pos (by omega)]
  · rw [cmpL, if_neg h1, if_pos (by omega), cmpI, if_neg (by omega), if_pos (by omega)]
/-- in the rounds: the second list's box, the result's cell, and that all places so far are equal -/
def CmI (w : World) (bg br : Nat) (u : Value) (f g : List Int) (pre : List (Nat × Int)) (W : World) : Prop :=
  Boxed W bg 22 u ∧ Boxed W br 3 (.int .i64 0) ∧ cmpL f g = cmpN f g (f.length - pre.length) ∧ Below w.heap.size w W
def CmX (w : World) (br : Nat) (f g : List Int) (pre : List (Nat × Int)) (W : World) : Prop :=
  Boxed W br 3 (.int .i64 (cmpL f g)) ∧ Below w.heap.size w W
set_option maxHeartbeats 2000000 in
theorem cmpCoef_any {o o' : Option Addr} {n n' c c' : Nat} {f g : List Int} {w : World} (h : Seen w o n c f) (h' : Seen w o' n' c' g) :
    Calls Try.prog 55 #[.slice o n c, .slice o' n' c'] w fun e w' => e = .returned (.int .i64 (cmpL f g)) ∧ Below w.heap.size w w' := by
  have HS := Lib.hid h
  have HS' := Lib.hid h'
  obtain ⟨hl, hn, hno, hnc, gf, h1, h2⟩ := h
  obtain ⟨hl', hn', hno', hnc', gg, h1', h2'⟩ := h'
  by_cases he : n = n'
  · subst he
    obtain ⟨bf, hbl, hbo, hbc⟩ : ∃ b, b < w.heap.size + 1 ∧ (0 < n → o = some ⟨b, 0, none⟩) ∧ ∀ W, Below w.heap.size w W → ∀ k, k < n → W.cell? ⟨b, k, none⟩ = some (.int .i64 (f.getD k 0)) := by
      by_cases h0 : 0 < n
      · exact ⟨gf, by have := (h1 h0).2; omega, fun _ => (h1 h0).1, fun W hb k hk => by rw [hb.cell (p := ⟨gf, k, none⟩) (h1 h0).2]; exact h2 k hk⟩
      · exact ⟨w.heap.size, by omega, fun h => absurd h h0, fun _ _ k hk => absurd hk (by omega)⟩
    have HC := Lib.hid hbc
    have HO := Lib.hid hbo
    have HD := Lib.hid fun (W : World) (hb : Below w.heap.size w W) (k : Nat) (hk : k < n) => (show o' = some ⟨gg, 0, none⟩ ∧ W.cell? ⟨gg, k, none⟩ = some (.int .i64 (g.getD k 0)) from ⟨(h1' (by omega)).1, by rw [hb.cell (p := ⟨gg, k, none⟩) (h1' (by omega)).2]; exact h2' k hk⟩)
    have HL := Lib.hid hl
    have HE := Lib.hid (cmpL_eq (hl.symm.trans hl'))
    have HL' := Lib.hid hl'
    have HBL := Lib.hid hbl
    clear h1 h1' h2 h2' hno hno' hnc hnc' hl hl' hn' HS HS' hbc hbo hbl gf
    refine (callsIn_wide (n := 4)).1 ?_
    refine callsIn_of_wp_marks Try.func55 rfl trivial ?_ rfl
    simp only [Try.ntmps55, List.size_toArray, List.length_cons, List.length_nil, Nat.reduceAdd, Nat.reduceSub, Array.replicate_succ, Array.replicate_zero, List.push_toArray, List.append_toArray, List.nil_append, List.cons_append]
    refine wpIn_wide.2 ?_
    have hb1 := Boxed.new w 22 (.slice o' n c')
    have hb1' := hb1.alloc (.cells #[.int .i64 0] 3)
    have hb2 := Boxed.new (w.alloc (.cells #[.slice o' n c'] 22)) 3 (.int .i64 0)
    have hbe := (below_a8 w (.cells #[.slice o' n c'] 22)).alloc (by simp) (.cells #[.int .i64 0] 3)
    rw [World.size_alloc] at hb2
    have HB1 := Lib.hid hb1'
    have HB2 := Lib.hid hb2
    have HBE := Lib.hid hbe
    have q1 := hb1'.cell
    clear hb1 hb1' hb2 hbe
    go_wp2_with fail
    refine (backward8_made _ _ _ _).mono ?_
    rintro e W8 ⟨rfl, rfl⟩
    go_wp2_with fail
    have HBK := Lib.hid (Boxed.new ((w.alloc (.cells #[.slice o' n c'] 22)).alloc (.cells #[.int .i64 0] 3)) 22 (.slice o n c))
    have HX1 := Lib.hid (boxed_below8 HB1.out (below_a8 _ (.cells #[.slice o n c] 22)))
    have HX2 := Lib.hid (boxed_below8 HB2.out (below_a8 _ (.cells #[.slice o n c] 22)))
    have HXE := Lib.hid (HBE.out.alloc (by simp; omega) (.cells #[.slice o n c] 22))
    generalize ((w.alloc (.cells #[.slice o' n c'] 22)).alloc (.cells #[.int .i64 0] 3)).alloc (.cells #[.slice o n c] 22) = W9 at *
    refine (wpIn_wide (n := 4)).1 ?_
    have hsz := HXE.out.size
    have hbk := HBK.out
    rw [World.size_alloc, World.size_alloc] at hbk
    have hbkl := hbk.lt
    have hbl := HBL.out
    refine wpIn_rangeBb (F := Fence.wide) (n := 4) (P := Try.prog) (w := W9) rfl (by omega) (gf := 89) (ba := #[]) (lb := #[.pointer (some ⟨w.heap.size + 1 + 1, 0, none⟩)]) rfl trivial (enters_of Try.func89 (by kernel_rfl) rfl)
      (backwardO_by 3 (by omega) o bf (w.heap.size + 1 + 1) c f (by rw [← HL.out]; exact HO.out) (by have := HL.out; omega)) (fun _ => rfl)
      (CmI w w.heap.size (w.heap.size + 1) (.slice o' n c') f g) (CmX w (w.heap.size + 1) f g)
      (fun y => { tmps := #[.slice o n c, .slice o' n c', undef, .pointer (some ⟨w.heap.size, 0, none⟩), .pointer (some ⟨w.heap.size + 1, 0, none⟩), .int .i64 y.1, .int .i64 y.2, .slice o n c, .int .i64 n, .slice o' n c', .int .i64 n, .bool false, undef, undef, undef, undef, undef, .slice o n c, .func (.func 89) #[] #[.pointer (some ⟨w.heap.size + 1 + 1, 0, none⟩)], .int .i64 y.1, .int .i64 y.2, undef, undef, undef, undef, undef, undef, undef, undef, undef, undef, undef, undef], defers := [] })
      ?ip ?xp ?fp ?fq ?ft ?is ?xs ?sk ?h0 ?s0 ?assign ?body ?done ?stop
    case ip => intro pre W k u u' h hk hu hc; exact ⟨boxed_put8 h.1 hu hc, boxed_put8 h.2.1 hu hc, h.2.2.1, below_put8 h.2.2.2 (by omega)⟩
    case xp => intro pre W k u u' h hk hu hc; exact ⟨boxed_put8 h.1 hu hc, below_put8 h.2 (by omega)⟩
    case fp => intro A W k u u' hf hk hu hc; exact fr8_put hf (by omega) (by omega)
    case fq => intro W k u u' hk hu hc; exact fr8_put (fun _ _ => rfl) (by omega) (by omega)
    case ft => intro A B C h k; exact fr8_trans h k
    case is => intro pre A B h hs; exact ⟨boxed_below8 h.1 hs, boxed_below8 h.2.1 hs, h.2.2.1, h.2.2.2.trans (hs.mono h.2.2.2.size)⟩
    case xs => intro pre A B h hs; exact ⟨boxed_below8 h.1 hs, h.2.trans (hs.mono h.2.size)⟩
    case sk => intro A B k u hs hk hu hc; exact (hs.block k (Array.getElem?_eq_some_iff.1 hu).1).trans hu
    case h0 =>
      intro oo oo'
      have hbb : Below W9.heap.size W9 ((W9.alloc oo).alloc oo') := (below_a8 W9 oo).alloc (by simp) oo'
      exact ⟨boxed_below8 HX1.out hbb, boxed_below8 HX2.out hbb, by rw [HE.out]; rfl, HXE.out.trans (hbb.mono hsz)⟩
    case s0 =>
      intro oo oo'
      have hbb : Below W9.heap.size W9 ((W9.alloc oo).alloc oo') := (below_a8 W9 oo).alloc (by simp) oo'
      refine ⟨by rw [← HL.out]; exact boxed_below8 hbk hbb, fun k hk => HC.out _ (HXE.out.trans (hbb.mono hsz)) k (by have := HL.out; omega)⟩
    case assign =>
      intro lp y W K hK
      clear HXE HX2 HX1 HBK HBE HB1 HB2 hbk hsz hbkl hbl q1
      gi_wp2
      exact hK
    case body =>
      rintro lp pre y W hsp ⟨hx, hv, hq, hb⟩
      have hl := HL.out
      obtain ⟨hk, hy⟩ := bk8_last hsp
      obtain ⟨j, hj, hje⟩ := hsp
      have hjl := congrArg List.length hje
      rw [List.length_append, bk8_length, List.length_singleton] at hjl
      subst hjl
      rw [bk8_succ] at hje
      have hpe := List.append_inj hje (by rw [bk8_length])
      have hye : y = (f.length - 1 - pre.length, f.getD (f.length - 1 - pre.length) 0) := by simpa using hpe.2
      obtain ⟨m, hm⟩ : ∃ m, f.length - 1 - pre.length = m := ⟨_, rfl⟩
      rw [hm] at hye
      subst hye
      obtain ⟨hgo, hgc⟩ := HD.out W hb m (by omega)
      have hst : cmpN f g (f.length - pre.length) = if f.getD m 0 = g.getD m 0 then cmpN f g m else cmpI (f.getD m 0) (g.getD m 0) := by
        rw [show f.length - pre.length = m + 1 by omega]; exact cmpN_step f g m
      have q1 := hx.cell
      have q2 := hv.cell
      have q2f := hv.frozen
      have hmn : (m : Int) < (n : Int) := by omega
      have hm0 : (0 : Int) ≤ (m : Int) := by omega
      have HM := Lib.hid (show f.length - (pre ++ [(m, f.getD m 0)]).length = m by rw [List.length_append, List.length_singleton]; omega)
      have HI := Lib.hid (And.intro hx (And.intro hv hb))
      have HST := Lib.hid (hq.trans hst)
      have hF : ∀ v, Fr8 bf (w.heap.size + 1 + 1) W (W.setCell ⟨w.heap.size + 1, 0, none⟩ v) := fun v j hj => Below.heap_setCell _ _ _ _ (by show j ≠ w.heap.size + 1; rcases hj with rfl | rfl <;> omega)
      have HF := Lib.hid hF
      have HSET := Lib.hid (fun v => And.intro (hv.set v) (hb.setCell (p := ⟨w.heap.size + 1, 0, none⟩) (show w.heap.size ≤ w.heap.size + 1 by omega) v))
      subst hgo
      clear hx hv hb hq hst hk hy hje hpe hj hF hm hl
      obtain ⟨x, hxe⟩ : ∃ x, f.getD m 0 = x := ⟨_, rfl⟩
      obtain ⟨y, hye⟩ : ∃ y, g.getD m 0 = y := ⟨_, rfl⟩
      rw [hxe, hye] at HST
      rw [hye] at hgc
      rw [hxe] at HM ⊢
      by_cases hxy : x = y
      · have HX := Lib.hid (show cmpL f g = cmpN f g m by rw [HST.out, if_pos hxy])
        subst hxy
        gi_wp2_with fail
        obtain ⟨i1, i2, i3⟩ := HI.out
        exact ⟨KeepsOthers.refl _, fun _ _ => rfl, i1, i2, by rw [HM.out]; exact HX.out, i3⟩
      · have HX := Lib.hid (show cmpL f g = cmpI x y by rw [HST.out, if_neg hxy])
        obtain ⟨V, hV⟩ : ∃ V, cmpI x y = V := ⟨_, rfl⟩
        have HV := Lib.hid hV
        gi_wp2_with (refine ⟨trivial, ?_⟩; gi_at_call 69; refine (CallsIn.inRound lp (callsIn_wide.2 (cmp_i64 x y _))).mono ?_; rintro e wn ⟨rfl, rfl⟩; rw [HV.out])
        obtain ⟨h1, h2⟩ := HSET.out (.int .i64 V)
        exact ⟨KeepsOthers.setCell _ _ _, by rw [HX.out, HV.out]; exact h1, h2⟩
    case done =>
      rintro D xs W hD rfl ⟨hx, hv, hq, hb⟩ hK
      rw [bk8_length, Nat.sub_self] at hq
      have HB9 := Lib.hid hb
      have HKD := Lib.hid hK
      have HQ := Lib.hid hq
      have hDw : w.heap.size ≤ D := by omega
      have hDr : w.heap.size + 1 ≠ D := by
        intro e; subst e
        have : some (Obj.deferred (some [])) = some (.cells #[.int .i64 0] 3) := hK.symm.trans hv
        cases this
      have q2 := hv.cell
      have q2f := hv.frozen
      have HS0 := Lib.hid (And.intro (hv.set (.int .i64 0)) (hb.setCell (p := ⟨w.heap.size + 1, 0, none⟩) (show w.heap.size ≤ w.heap.size + 1 by omega) (.int .i64 0)))
      have HKS := Lib.hid (show (W.setCell ⟨w.heap.size + 1, 0, none⟩ (.int .i64 0)).heap[D]? = some (.deferred (some [])) by rw [Below.heap_setCell _ _ _ _ (by show D ≠ w.heap.size + 1; exact fun e => hDr e.symm)]; exact hK)
      clear hx hv hb hq hK HXE HX1 HX2 HBK hbk
      go_wp2_with fail
      refine ⟨by simp, .inl ⟨_, _, rfl, run_takeDeferred HKS.out, ?_⟩⟩
      obtain ⟨hS1, hS2⟩ := HS0.out
      have q3 := (boxed_put8 hS1 HKS.out rfl (o' := .deferred none)).cell
      refine ⟨.int .i64 0, by simp [results, Try.results55, go_sem, loadVar, isAgg, q3], ?_⟩
      exact ⟨ret_int (show cmpL f g = 0 from HQ.out).symm, below_put8 hS2 hDw⟩
    case stop =>
      rintro D pre W hD hsp ⟨hv, hb⟩ hK
      have HV := Lib.hid hv
      have HB9 := Lib.hid hb
      have HKD := Lib.hid hK
      have hDw : w.heap.size ≤ D := by omega
      clear hv hb hK HXE HX1 HX2 HBK hbk
      refine wpIn_ret ?_
      refine ⟨by simp, .inl ⟨_, _, rfl, run_takeDeferred HKD.out, ?_⟩⟩
      have q3 := (boxed_put8 HV.out HKD.out rfl (o' := .deferred none)).cell
      obtain ⟨V, hV⟩ : ∃ V, cmpL f g = V := ⟨_, rfl⟩
      rw [hV] at q3
      refine ⟨.int .i64 V, by simp [results, Try.results55, go_sem, loadVar, isAgg, q3], ?_⟩
      exact ⟨ret_int hV.symm, below_put8 HB9.out hDw⟩
  · have HE := Lib.hid (cmpL_ne (f := f) (g := g) (by omega))
    have HL := Lib.hid hl
    have HL' := Lib.hid hl'
    have hne : ¬ ((n : Int) = (n' : Int)) := by omega
    obtain ⟨V, hV⟩ : ∃ V, cmpI (n : Int) (n' : Int) = V := ⟨_, rfl⟩
    have HV := Lib.hid hV
    have HC := Lib.hid fun w => cmp_int (n : Int) (n' : Int) w
    have HBE := Lib.hid ((below_a8 w (.cells #[.slice o' n' c'] 22)).alloc (by simp) (.cells #[.int .i64 0] 3))
    have HB2 := Lib.hid (Boxed.new (w.alloc (.cells #[.slice o' n' c'] 22)) 3 (.int .i64 0))
    have q1 := ((Boxed.new w 22 (.slice o' n' c')).alloc (.cells #[.int .i64 0] 3)).cell
    have q2 := HB2.out.cell
    have q2f := HB2.out.frozen
    rw [World.size_alloc] at q2 q2f
    clear h1 h2 h1' h2' hno hno' hnc hnc' hl hl' hV he HS HS'
    go_enter Try.func55, Try.ntmps55
    go_wp2_with fail
    refine (HC.out _).mono ?_
    rintro e w1 ⟨rfl, rfl⟩
    rw [HV.out]
    go_wp2_with fail
    have q3 := (Boxed.new (w.alloc (.cells #[.slice o' n' c'] 22)) 3 (.int .i64 V)).cell
    rw [World.size_alloc] at q3
    refine bodyPost_ret (v := .int .i64 V) (by simp [results, Try.results55, go_sem, loadVar, isAgg, q3]) rfl ?_
    exact ⟨ret_int (HE.out.trans (by rw [← HL.out, ← HL'.out]; exact HV.out)).symm, (below_a8 w _).alloc (by simp) _⟩
end Go.Proofs.Ytidcpmhbkldpeaa
namespace Go.Proofs.Ytidcpmhbkldpeaa
open Go.RowKit
set_option linter.unusedVariables false
set_option linter.unusedSimpArgs false
set_option maxRecDepth 20000
def cpQ (p : Int) (f g : List Int) : Int := if twoM p f g then cmpL f g else 0
def cpC (p : Int) (f g : List Int) : Int := if twoM p f g then 0 else 1
set_option maxHeartbeats 1000000 in
theorem l09Cmp_any {o o' : Option Addr} {n n' c c' : Nat} {f g : List Int} {w : World} (h : Seen w o n c f) (h' : Seen w o' n' c' g) :
    Calls Try.prog 53 #[.slice o n c, .slice o' n' c'] w fun e w' => e = .returned (.int .i64 (cmpL f g)) ∧ Below w.heap.size w w' := by
  obtain ⟨hl, hn, hno, hnc, a, h1, h2⟩ := h
  obtain ⟨hl', hn', hno', hnc', a', h1', h2'⟩ := h'
  by_cases hlt : n < n'
  · rw [show cmpL f g = -1 by rw [cmpL, if_pos (by omega)]]
    have hi : (n : Int) < (n' : Int) := by omega
    clear h1 h2 h1' h2' hl hl' hno hno' hnc hnc' hlt
    go_enter Try.func53, Try.ntmps53
    go_wp2_with fail
    go_ret
    exact ⟨rfl, Below.refl _ _⟩
  by_cases hgt : n' < n
  · rw [show cmpL f g = 1 by rw [cmpL, if_neg (by omega), if_pos (by omega)]]
    have hi : (n' : Int) < (n : Int) := by omega
    have hi' : ¬ (n : Int) < (n' : Int) := by omega
    clear h1 h2 h1' h2' hl hl' hno hno' hnc hnc' hlt hgt
    go_enter Try.func53, Try.ntmps53
    go_wp2_with fail
    go_ret
    exact ⟨rfl, Below.refl _ _⟩
  obtain rfl : n = n' := by omega
  have HE := Lib.hid (cmpL_eq (hl.symm.trans hl'))
  have HO := Lib.hid fun hp => (h1 hp).1
  have HO' := Lib.hid fun hp => (h1' hp).1
  have HC := Lib.hid fun (W : World) (hb : Below w.heap.size w W) (k : Nat) (hk : k < n) => (show W.cell? ⟨a, k, none⟩ = some (.int .i64 (f.getD k 0)) by rw [hb.cell (p := ⟨a, k, none⟩) (h1 (by omega)).2]; exact h2 k hk)
  have HD := Lib.hid fun (W : World) (hb : Below w.heap.size w W) (k : Nat) (hk : k < n) => (show W.cell? ⟨a', k, none⟩ = some (.int .i64 (g.getD k 0)) by rw [hb.cell (p := ⟨a', k, none⟩) (h1' (by omega)).2]; exact h2' k hk)
  have HL := Lib.hid hl
  have hi : ¬ (n : Int) < (n : Int) := by omega
  clear h1 h2 h1' h2' hl hl' hno hno' hnc hnc' hlt hgt hn'
  go_enter Try.func53, Try.ntmps53
  go_wp2_with fail
  go_loopw [5] (fun i wr => ∃ (j : Nat) (y : Int), j ≤ n ∧ i = .int .i64 y ∧ y = (n : Int) - 1 - j ∧ cmpL f g = cmpN f g (n - j) ∧ Below w.heap.size w wr) (fun i _ => (intOf i + 1).toNat)
  case atStart => exact ⟨0, (n : Int) - 1, Nat.zero_le _, rfl, by omega, by rw [HE.out, HL.out]; rfl, Below.refl _ _⟩
  case round =>
    obtain ⟨j, y, hj, rfl, hy, hq, hb⟩ := hrel
    have HB := Lib.hid hb
    by_cases hjn : j < n
    · obtain ⟨m, hm⟩ : ∃ m : Nat, y = m := ⟨y.toNat, by omega⟩
      subst hm
      have hmn : m < n := by omega
      have hog := HO.out (by omega)
      have hog' := HO'.out (by omega)
      subst hog hog'
      have a1 := HC.out wr hb m hmn
      have a2 := HD.out wr hb m hmn
      have hst : cmpL f g = if f.getD m 0 < g.getD m 0 then -1 else if f.getD m 0 > g.getD m 0 then 1 else cmpN f g m := by rw [hq, show n - j = m + 1 by omega]; rfl
      have HM := Lib.hid (show n - (j + 1) = m by omega)
      have HJ := Lib.hid (show j + 1 ≤ n by omega)
      have HY := Lib.hid (show (m : Int) - 1 = (n : Int) - 1 - ((j + 1 : Nat) : Int) by omega)
      have HST := Lib.hid hst
      generalize f.getD m 0 = x at *
      generalize g.getD m 0 = z at *
      have hmn' : (m : Int) < (n : Int) := by omega
      clear hst hq hb hy hj hjn
      by_cases hx : x < z
      · have HV := Lib.hid (show cmpL f g = -1 by rw [HST.out, if_pos hx])
        go_wp2_with fail
        go_region
        go_wp2_with fail
        go_ret
        exact ⟨ret_int HV.out.symm, below_drewN HB.out 1⟩
      · by_cases hz : z < x
        · have HV := Lib.hid (show cmpL f g = 1 by rw [HST.out, if_neg hx, if_pos hz])
          go_wp2_with fail
          go_region
          go_wp2_with fail
          go_region
          go_wp2_with fail
          go_ret
          exact ⟨ret_int HV.out.symm, below_drewN (below_drewN HB.out 1) 1⟩
        · have HV := Lib.hid (show cmpL f g = cmpN f g m by rw [HST.out, if_neg hx, if_neg hz])
          go_wp2_with fail
          go_region
          go_wp2_with fail
          go_region
          go_wp2_with fail
          go_roundw
          case rel => exact ⟨j + 1, (m : Int) - 1, HJ.out, rfl, HY.out, by rw [HM.out]; exact HV.out, below_drewN (below_drewN HB.out 1) 1⟩
          case measure => simp [intOf]
    · have hjl : n - j = 0 := by omega
      have hneg : y < 0 := by omega
      have HV := Lib.hid (show cmpL f g = 0 by rw [hq, hjl]; rfl)
      clear hq hb hy hjl hjn
      go_wp2_with fail
      go_ret
      exact ⟨ret_int HV.out.symm, HB.out⟩
theorem specCmpP_any (p : Int) {o o' : Option Addr} {n n' c c' : Nat} {f g : List Int} {w : World} (h : Seen w o n c f) (h' : Seen w o' n' c' g) :
    Calls Try.prog 34 #[.int .i64 p, .slice o n c, .slice o' n' c'] w fun e w' => e = .returned (.tuple #[.int .i64 (cpQ p f g), .int .i64 (cpC p f g)]) ∧ Below w.heap.size w w' := by
  have HS := Lib.hid h
  have HS' := Lib.hid h'
  clear h h'
  cases hf : modB p f
  · rw [show cpQ p f g = 0 by simp [cpQ, twoM, hf], show cpC p f g = 1 by simp [cpC, twoM, hf]]
    go_enter Try.func34, Try.ntmps34
    go_wp2_with fail
    refine (specIsMod_any p HS.out).mono ?_
    rw [hf]
    rintro e w2 ⟨rfl, rfl⟩
    go_wp2_with fail
    go_ret2
    exact ⟨rfl, Below.refl _ _⟩
  · cases hg : modB p g
    · rw [show cpQ p f g = 0 by simp [cpQ, twoM, hg], show cpC p f g = 1 by simp [cpC, twoM, hg]]
      go_enter Try.func34, Try.ntmps34
      go_wp2_with fail
      refine (specIsMod_any p HS.out).mono ?_
      rw [hf]
      rintro e w2 ⟨rfl, rfl⟩
      go_wp2_with fail
      refine (specIsMod_any p HS'.out).mono ?_
      rw [hg]
      rintro e w2 ⟨rfl, rfl⟩
      go_wp2_with fail
      go_ret2
      exact ⟨rfl, Below.refl _ _⟩
    · rw [show cpQ p f g = cmpL f g by simp [cpQ, twoM, hf, hg], show cpC p f g = 0 by simp [cpC, twoM, hf, hg]]
      have HM := Lib.hid fun w (h : Seen w o n c f) (h' : Seen w o' n' c' g) => l09Cmp_any h h'
      generalize cmpL f g = V at *
      go_enter Try.func34, Try.ntmps34
      go_wp2_with fail
      refine (specIsMod_any p HS.out).mono ?_
      rw [hf]
      rintro e w2 ⟨rfl, rfl⟩
      go_wp2_with fail
      refine (specIsMod_any p HS'.out).mono ?_
      rw [hg]
      rintro e w2 ⟨rfl, rfl⟩
      go_wp2_with fail
      refine (HM.out _ HS.out HS'.out).mono ?_
      rintro e w2 ⟨rfl, hb⟩
      have HB := Lib.hid hb
      clear hb
      go_wp2_with fail
      go_ret2
      exact ⟨rfl, HB.out⟩
set_option maxHeartbeats 1000000 in
theorem implCmpP_any (p : Int) {o o' : Option Addr} {n n' c c' : Nat} {f g : List Int} {w : World} (h : Seen w o n c f) (h' : Seen w o' n' c' g) :
    Calls Try.prog 35 #[.int .i64 p, .slice o n c, .slice o' n' c'] w fun e w' => e = .returned (.tuple #[.int .i64 (cpQ p f g), .int .i64 (cpC p f g)]) ∧ Below w.heap.size w w' := by
  have HS := Lib.hid h
  have HS' := Lib.hid h'
  clear h h'
  cases hm : twoM p f g
  · rw [show cpQ p f g = 0 by simp [cpQ, hm], show cpC p f g = 1 by simp [cpC, hm]]
    go_enter Try.func35, Try.ntmps35
    go_wp2_with fail
    refine (ringBy_any p w).mono ?_
    rintro e w1 ⟨rfl, hb1⟩
    have HB1 := Lib.hid hb1
    have hb3 := hb1.trans ((below_a8 w1 (.cells #[.slice o n c, .slice o' n' c'] 22)).mono hb1.size)
    have HB3 := Lib.hid hb3
    have HS3 := Lib.hid (seen_below HS.out hb3)
    have HT3 := Lib.hid (seen_below HS'.out hb3)
    have hlt3 : w1.heap.size < (w1.alloc (.cells #[.slice o n c, .slice o' n' c'] 22)).heap.size := by simp
    have HCK := Lib.hid (checkPoly2 p (b := w1.heap.size) HS3.out (World.cell?_alloc_new w1 _ _ 0 ▸ rfl) HT3.out (World.cell?_alloc_new w1 _ _ 1 ▸ rfl) hlt3)
    clear hb1 hb3 hlt3
    go_wp2_with fail
    refine HCK.out.mono ?_
    rintro e w4 ⟨rfl, hb4⟩
    rw [okC2_val _ hm]
    have HK4 := Lib.hid (HB3.out.trans (hb4.mono HB3.out.size))
    have S4 := Lib.hid (seen_below HS3.out hb4)
    have T4 := Lib.hid (seen_below HT3.out hb4)
    clear hb4 HCK HS3 HT3
    simp only [if_true, if_false, Bool.false_eq_true]
    go_wp2_with fail
    go_ret2
    exact ⟨rfl, HK4.out⟩
  · rw [show cpQ p f g = cmpL f g by simp [cpQ, hm], show cpC p f g = 0 by simp [cpC, hm]]
    have HCM := Lib.hid fun (wx : World) (hx : Seen wx o n c f) (hy : Seen wx o' n' c' g) => cmpCoef_any hx hy
    generalize cmpL f g = V at *
    go_enter Try.func35, Try.ntmps35
    go_wp2_with fail
    refine (ringBy_any p w).mono ?_
    rintro e w1 ⟨rfl, hb1⟩
    have HB1 := Lib.hid hb1
    have hb3 := hb1.trans ((below_a8 w1 (.cells #[.slice o n c, .slice o' n' c'] 22)).mono hb1.size)
    have HB3 := Lib.hid hb3
    have HS3 := Lib.hid (seen_below HS.out hb3)
    have HT3 := Lib.hid (seen_below HS'.out hb3)
    have hlt3 : w1.heap.size < (w1.alloc (.cells #[.slice o n c, .slice o' n' c'] 22)).heap.size := by simp
    have HCK := Lib.hid (checkPoly2 p (b := w1.heap.size) HS3.out (World.cell?_alloc_new w1 _ _ 0 ▸ rfl) HT3.out (World.cell?_alloc_new w1 _ _ 1 ▸ rfl) hlt3)
    clear hb1 hb3 hlt3
    go_wp2_with fail
    refine HCK.out.mono ?_
    rintro e w4 ⟨rfl, hb4⟩
    rw [okC2_val _ hm]
    have HK4 := Lib.hid (HB3.out.trans (hb4.mono HB3.out.size))
    have S4 := Lib.hid (seen_below HS3.out hb4)
    have T4 := Lib.hid (seen_below HT3.out hb4)
    clear hb4 HCK HS3 HT3
    simp only [if_true, if_false, Bool.false_eq_true]
    go_wp2_with fail
    refine (HCM.out _ S4.out T4.out).mono ?_
    rintro e w5 ⟨rfl, hb⟩
    have HB := Lib.hid (HK4.out.trans (hb.mono HK4.out.size))
    clear hb HCM
    go_wp2_with fail
    go_ret2
    exact ⟨rfl, HB.out⟩
end Go.Proofs.Ytidcpmhbkldpeaa
namespace Go.Proofs.Ytidcpmhbkldpeaa
open Go.RowKit
set_option linter.unusedVariables false
set_option linter.unusedSimpArgs false
set_option maxRecDepth 20000 in
set_option maxHeartbeats 1000000 in
theorem exactCmpP_core (p : Int) (af : Option Addr) (capf : Nat) (f : List Int) (ag : Option Addr) (capg : Nat) (g : List Int) (w : World) (hf : f.length ≤ 1048576) (kf : ArgInt w af f) (hg : g.length ≤ 1048576) (kg : ArgInt w ag g) :
    Calls Try.prog 10 #[.int .i64 p, .slice af f.length capf, .slice ag g.length capg] w fun e w' => e = .returned (.bool true) ∧ Below w.heap.size w w' := by
  have HA0 := Lib.hid kf
  have HT0 := Lib.hid fun (w : World) (h : ArgInt w af f) => toInt64S_any af capf f w hf h
  have hnf : (0 : Int) ≤ (f.length : Int) := Int.natCast_nonneg _
  have HA1 := Lib.hid kg
  have HT1 := Lib.hid fun (w : World) (h : ArgInt w ag g) => toInt64S_any ag capg g w hg h
  have hng : (0 : Int) ≤ (g.length : Int) := Int.natCast_nonneg _
  have HS := Lib.hid fun (w : World) (b : Nat) (o : Option Addr) (c : Nat) (h : IntRow b w (.slice o f.length c) f) (b' : Nat) (o' : Option Addr) (c' : Nat) (h' : IntRow b' w (.slice o' g.length c') g) => specCmpP_any p (row_seen h (show f.length ≤ 1100000 by omega)) (row_seen h' (show g.length ≤ 1100000 by omega))
  have HI := Lib.hid fun (w : World) (b : Nat) (o : Option Addr) (c : Nat) (h : IntRow b w (.slice o f.length c) f) (b' : Nat) (o' : Option Addr) (c' : Nat) (h' : IntRow b' w (.slice o' g.length c') g) => implCmpP_any p (row_seen h (show f.length ≤ 1100000 by omega)) (row_seen h' (show g.length ≤ 1100000 by omega))
  generalize (cpQ p f g) = q at *
  generalize (cpC p f g) = c at *
  have B0 := Lib.hid (Below.refl w.heap.size w)
  clear kf kg
  go_enter Try.func10, Try.ntmps10
  go_wp2_with fail
  refine (HT0.out _ (argInt_below HA0.out B0.out)).mono ?_
  rintro e W1 ⟨v1, rfl, r1, b1⟩
  obtain ⟨o1, c1, rfl⟩ := row_slice r1
  have B1 := Lib.hid (B0.out.trans (b1.mono B0.out.size))
  have R_sf_1 := Lib.hid r1
  clear r1 b1
  go_wp2_with fail
  refine (HT1.out _ (argInt_below HA1.out B1.out)).mono ?_
  rintro e W2 ⟨v2, rfl, r2, b2⟩
  obtain ⟨o2, c2, rfl⟩ := row_slice r2
  have B2 := Lib.hid (B1.out.trans (b2.mono B1.out.size))
  have R_sf_2 := Lib.hid (row_below R_sf_1.out b2 (Nat.le_refl _))
  have R_sg_2 := Lib.hid r2
  clear r2 b2
  go_wp2_with fail
  refine (HS.out _ _ _ _ R_sf_2.out _ _ _ R_sg_2.out).mono ?_
  rintro e W3 ⟨rfl, b3⟩
  have B3 := Lib.hid (B2.out.trans (b3.mono B2.out.size))
  have R_sf_3 := Lib.hid (row_below R_sf_2.out b3 (Nat.le_refl _))
  have R_sg_3 := Lib.hid (row_below R_sg_2.out b3 (Nat.le_refl _))
  clear b3
  go_wp2_with fail
  refine (HT0.out _ (argInt_below HA0.out B3.out)).mono ?_
  rintro e W4 ⟨v4, rfl, r4, b4⟩
  obtain ⟨o4, c4, rfl⟩ := row_slice r4
  have B4 := Lib.hid (B3.out.trans (b4.mono B3.out.size))
  have R_xf_4 := Lib.hid r4
  clear r4 b4
  go_wp2_with fail
  refine (HT1.out _ (argInt_below HA1.out B4.out)).mono ?_
  rintro e W5 ⟨v5, rfl, r5, b5⟩
  obtain ⟨o5, c5, rfl⟩ := row_slice r5
  have B5 := Lib.hid (B4.out.trans (b5.mono B4.out.size))
  have R_xf_5 := Lib.hid (row_below R_xf_4.out b5 (Nat.le_refl _))
  have R_xg_5 := Lib.hid r5
  clear r5 b5
  go_wp2_with fail
  refine (HI.out _ _ _ _ R_xf_5.out _ _ _ R_xg_5.out).mono ?_
  rintro e W6 ⟨rfl, b6⟩
  have B6 := Lib.hid (B5.out.trans (b6.mono B5.out.size))
  have R_xf_6 := Lib.hid (row_below R_xf_5.out b6 (Nat.le_refl _))
  have R_xg_6 := Lib.hid (row_below R_xg_5.out b6 (Nat.le_refl _))
  clear b6
  go_wp2_with fail
  refine (HT0.out _ (argInt_below HA0.out B6.out)).mono ?_
  rintro e W7 ⟨v7, rfl, r7, b7⟩
  obtain ⟨o7, c7, rfl⟩ := row_slice r7
  have B7 := Lib.hid (B6.out.trans (b7.mono B6.out.size))
  have R_xf_7 := Lib.hid (row_below R_xf_6.out b7 (Nat.le_refl _))
  have R_xg_7 := Lib.hid (row_below R_xg_6.out b7 (Nat.le_refl _))
  have R_tf_7 := Lib.hid r7
  clear r7 b7
  go_wp2_with fail
  refine (eqInt_same R_xf_7.out R_tf_7.out (by omega)).mono ?_
  rintro e W8 ⟨rfl, nd, hw⟩
  have b8 : Below W7.heap.size W7 W8 := by rw [hw]; exact below_drewN (Below.refl _ _) nd
  clear hw nd
  have B8 := Lib.hid (B7.out.trans (b8.mono B7.out.size))
  have R_xf_8 := Lib.hid (row_below R_xf_7.out b8 (Nat.le_refl _))
  have R_xg_8 := Lib.hid (row_below R_xg_7.out b8 (Nat.le_refl _))
  have R_tf_8 := Lib.hid (row_below R_tf_7.out b8 (Nat.le_refl _))
  clear b8
  go_wp2_with fail
  refine (HT1.out _ (argInt_below HA1.out B8.out)).mono ?_
  rintro e W9 ⟨v9, rfl, r9, b9⟩
  obtain ⟨o9, c9, rfl⟩ := row_slice r9
  have B9 := Lib.hid (B8.out.trans (b9.mono B8.out.size))
  have R_xf_9 := Lib.hid (row_below R_xf_8.out b9 (Nat.le_refl _))
  have R_xg_9 := Lib.hid (row_below R_xg_8.out b9 (Nat.le_refl _))
  have R_tg_9 := Lib.hid r9
  clear r9 b9
  go_wp2_with fail
  refine (eqInt_same R_xg_9.out R_tg_9.out (by omega)).mono ?_
  rintro e W10 ⟨rfl, nd, hw⟩
  have b10 : Below W9.heap.size W9 W10 := by rw [hw]; exact below_drewN (Below.refl _ _) nd
  clear hw nd
  have B10 := Lib.hid (B9.out.trans (b10.mono B9.out.size))
  have R_xf_10 := Lib.hid (row_below R_xf_9.out b10 (Nat.le_refl _))
  have R_xg_10 := Lib.hid (row_below R_xg_9.out b10 (Nat.le_refl _))
  have R_tg_10 := Lib.hid (row_below R_tg_9.out b10 (Nat.le_refl _))
  clear b10
  go_wp2_with fail
  go_ret
  exact ⟨rfl, B10.out⟩
theorem exactCmpP_walk (p : Int) (af : Option Addr) (lenf capf : Nat) (zf : List Int) (ag : Option Addr) (leng capg : Nat) (zg : List Int) (w : World) (_ : (Lit.int .i64 p).wf = true) (hf : (af = none ∧ lenf = 0 ∧ capf = 0 ∧ zf = []) ∨ ∃ x, af = some x ∧ lenf ≤ capf ∧ capf ≤ maxLen ∧ zf.length = capf ∧ (∀ i, i < zf.length → w.cell? (x.add i) = some (.int .i64 (zf.getD i 0))) ∧ ∀ n ∈ zf, (Lit.int .i64 n).wf = true) (hg : (ag = none ∧ leng = 0 ∧ capg = 0 ∧ zg = []) ∨ ∃ x, ag = some x ∧ leng ≤ capg ∧ capg ≤ maxLen ∧ zg.length = capg ∧ (∀ i, i < zg.length → w.cell? (x.add i) = some (.int .i64 (zg.getD i 0))) ∧ ∀ n ∈ zg, (Lit.int .i64 n).wf = true) :
    Calls Try.prog 10 #[.int .i64 p, .slice af lenf capf, .slice ag leng capg] w fun e w' => e = .returned (.bool true) ∧ Below w.heap.size w w' := by
  have mf := len_of_row hf
  have mg := len_of_row hg
  obtain ⟨lf, ef, kf⟩ := arg_of_row hf
  obtain ⟨lg, eg, kg⟩ := arg_of_row hg
  clear hf hg
  by_cases qf : lenf ≤ 1048576
  · by_cases qg : leng ≤ 1048576
    · subst ef eg
      exact exactCmpP_core p af capf lf ag capg lg w qf kf qg kg
    · clear kf ef kg eg
      go_enter Try.func10, Try.ntmps10
      go_wp2
      go_ret
      exact ⟨rfl, Below.refl _ _⟩
  · clear kf ef kg eg
    go_enter Try.func10, Try.ntmps10
    go_wp2
    go_ret
    exact ⟨rfl, Below.refl _ _⟩
end Go.Proofs.Ytidcpmhbkldpeaa
