/- What holds at the head of each round of impl.ReadPowers' loop over strings.SplitSeq, and that it lives on. -/
import Derived.Test.YtghhjeebcpcepaaDoorSeq
import Derived.Test.YtghhjeebcpcepaaDoorReadEnd
import Derived.RangeFuncBox
namespace Go.Proofs.YtghhjeebcpcepaaDoor
open Go.RowKit Go.Shelf
set_option linter.unusedVariables false
structure RBase (w W : World) (c : Int) : Prop where
  res : Boxed W w.heap.size 24 (.slice none 0 0)
  code : Boxed W (w.heap.size + 1) 2 (.int .i64 c)
  bel : Below w.heap.size w W
structure RBox (b : Nat) (W : World) : Prop where
  sb : ∃ u, Boxed W (b + 1 + 1 + 1) 9 u
  pb : Boxed W (b + 1 + 1 + 1 + 1) 9 (.string ⟨#[42]⟩)
  vb : Boxed W (b + 1 + 1 + 1 + 2) 3 (.int .i64 0)
def RRow (b : Nat) (W : World) (pre : List ByteArray) : Prop :=
  ∃ v l, Boxed W (b + 1 + 1) 24 v ∧ PowRow b W v l ∧ pre.map rdP = l.map some ∧ l.length ≤ 60
def RI (w : World) (pre : List ByteArray) (W : World) : Prop := RRow w.heap.size W pre ∧ RBase w W 0 ∧ RBox w.heap.size W
def RX (w : World) (pre : List ByteArray) (W : World) : Prop := RBase w W 6 ∧ ∀ l : List (Int × Int), l.length ≤ 60 → ¬ pre.map rdP = l.map some
theorem boxed_put {W : World} {j k : Nat} {t : TypeId} {v : Value} {o o' : Obj} (h : Boxed W j t v) (hk : W.heap[k]? = some o) (ho : o.isCells = false) : Boxed (W.putObj k o') j t v := by
  have hne : j ≠ k := by
    rintro rfl
    have h' : W.heap[j]? = some (.cells #[v] t (0, 0)) := h
    rw [h'] at hk; cases hk; cases ho
  exact (World.putObj_heap_other hne).trans h
theorem below_put {b k : Nat} {w W : World} {o' : Obj} (h : Below b w W) (hk : b ≤ k) : Below b w (W.putObj k o') :=
  ⟨h.os, h.tape, h.output, by have := h.size; simp [World.putObj]; omega, fun j hj => (World.putObj_heap_other (by omega)).trans (h.block j hj)⟩
theorem rbase_put {w W : World} {c : Int} {k : Nat} {o o' : Obj} (h : RBase w W c) (hb : w.heap.size ≤ k) (hk : W.heap[k]? = some o) (ho : o.isCells = false) : RBase w (W.putObj k o') c :=
  ⟨boxed_put h.res hk ho, boxed_put h.code hk ho, below_put h.bel hb⟩
theorem rbox_put {b : Nat} {W : World} {k : Nat} {o o' : Obj} (h : RBox b W) (hk : W.heap[k]? = some o) (ho : o.isCells = false) : RBox b (W.putObj k o') :=
  ⟨by obtain ⟨u, hu⟩ := h.sb; exact ⟨u, boxed_put hu hk ho⟩, boxed_put h.pb hk ho, boxed_put h.vb hk ho⟩
theorem rrow_put {b : Nat} {W : World} {pre : List ByteArray} {k : Nat} {o o' : Obj} (h : RRow b W pre) (hk : W.heap[k]? = some o) (ho : o.isCells = false) : RRow b (W.putObj k o') pre := by
  obtain ⟨v, l, h1, h2, h3⟩ := h
  exact ⟨v, l, boxed_put h1 hk ho, ownsRow_putObj h2 _ hk ho, h3⟩
theorem boxed_st {A B : World} {sb j : Nat} {t : TypeId} {v : Value} (h : Boxed A j t v) (hs : StB sb A B) (hj : j ≠ sb) : Boxed B j t v := by
  rcases hs with ⟨u, rfl⟩ | ⟨k, rfl⟩
  · exact h.kept (grownBy_setCell' A sb u) (by simpa using hj)
  · exact h
theorem below_st {A B w : World} {sb b : Nat} (h : Below b w A) (hs : StB sb A B) (hb : b ≤ sb) : Below b w B := by
  rcases hs with ⟨u, rfl⟩ | ⟨k, rfl⟩
  · exact h.setCell (p := ⟨sb, 0, none⟩) hb u
  · exact below_drewN h k
theorem rbase_st {w A B : World} {c : Int} (h : RBase w A c) (hs : StB (w.heap.size + 1 + 1 + 1) A B) : RBase w B c :=
  ⟨boxed_st h.res hs (by omega), boxed_st h.code hs (by omega), below_st h.bel hs (by omega)⟩
theorem ri_st {w A B : World} {pre : List ByteArray} (h : RI w pre A) (hs : StB (w.heap.size + 1 + 1 + 1) A B) : RI w pre B := by
  obtain ⟨⟨v, l, h1, h2, h3⟩, h4, ⟨u, hu⟩, h5, h6⟩ := h
  refine ⟨⟨v, l, boxed_st h1 hs (by omega), ?_, h3⟩, rbase_st h4 hs, ?_, boxed_st h5 hs (by omega), boxed_st h6 hs (by omega)⟩
  · rcases hs with ⟨z, rfl⟩ | ⟨k, rfl⟩
    · exact World.ownsRow.kept h2 (grownBy_setCell' A _ z) (.inr (hu.not_row (by decide) h2).symm)
    · exact h2
  · rcases hs with ⟨z, rfl⟩ | ⟨k, rfl⟩
    · exact ⟨z, hu.set z⟩
    · exact ⟨u, hu⟩
theorem rx_st {w A B : World} {pre : List ByteArray} (h : RX w pre A) (hs : StB (w.heap.size + 1 + 1 + 1) A B) : RX w pre B := ⟨rbase_st h.1 hs, h.2⟩
theorem fr_blocks {sb pb vb : Nat} {A B : World} (h : ∀ b, b = sb ∨ b = pb ∨ b = vb → B.heap[b]? = A.heap[b]?) : FrB sb pb vb A B :=
  fun b hb => ⟨World.cell?_of_block (a := ⟨b, 0, none⟩) (h b hb), World.frozen?_of_block (a := ⟨b, 0, none⟩) (h b hb)⟩
theorem fr_put {sb pb vb k : Nat} {A W : World} {o' : Obj} (h : FrB sb pb vb A W) (h1 : sb < k) (h2 : pb < k) (h3 : vb < k) : FrB sb pb vb A (W.putObj k o') := by
  intro b hb
  have hne : b ≠ k := by rcases hb with rfl | rfl | rfl <;> omega
  have e : (W.putObj k o').heap[b]? = W.heap[b]? := World.putObj_heap_other hne
  rw [World.cell?_of_block (a := ⟨b, 0, none⟩) e, World.frozen?_of_block (a := ⟨b, 0, none⟩) e]
  exact h b hb
theorem fr_refl {sb pb vb : Nat} (A : World) : FrB sb pb vb A A := fun _ _ => ⟨rfl, rfl⟩
theorem fr_trans {sb pb vb : Nat} {A B C : World} (h : FrB sb pb vb A B) (k : FrB sb pb vb B C) : FrB sb pb vb A C :=
  fun b hb => ⟨(k b hb).1.trans (h b hb).1, (k b hb).2.trans (h b hb).2⟩
theorem st_keeps {A B : World} {sb k : Nat} {o : Obj} (hs : StB sb A B) (hk : A.heap[k]? = some o) (hne : sb < k) : B.heap[k]? = some o := by
  rcases hs with ⟨u, rfl⟩ | ⟨n, rfl⟩
  · rw [Below.heap_setCell _ _ _ _ (by show k ≠ sb; omega)]; exact hk
  · exact hk
theorem boxed_below {W w2 : World} {j : Nat} {t : TypeId} {v : Value} (h : Boxed W j t v) (hb : Below W.heap.size W w2) : Boxed w2 j t v := (hb.block j h.lt).trans h
theorem prefix_size {s x : ByteArray} {pre : List ByteArray} {c : UInt8} (h : pre ++ [x] <+: splitL s c) : x.size ≤ s.size := by
  obtain ⟨t, ht⟩ := h
  have e : (splitL s c).getD pre.length ⟨#[]⟩ = x := by
    rw [← ht, List.getD_eq_getElem?_getD]
    simp
  rw [← e]; exact split_size s c pre.length
theorem readPair_some {x : ByteArray} {p k : Int} (w : World) (hs : x.size ≤ 2000000) (he : Env w) (h : rdP x = some (p, k)) :
    Calls Tryd.prog 41 #[.string x, .string ⟨#[94]⟩] w fun e w' => e = .returned (.tuple #[.int .i64 p, .int .i64 k, .bool true]) ∧ Below w.heap.size w w' := by
  refine (readPair_any 94 x w hs he).mono ?_
  rintro e w' ⟨hb, (⟨a, b, h1, rfl⟩ | ⟨h1, rfl⟩)⟩
  · rw [rdQ_pow, h] at h1; cases h1; exact ⟨rfl, hb⟩
  · rw [rdQ_pow, h] at h1; cases h1
theorem readPair_none {x : ByteArray} (w : World) (hs : x.size ≤ 2000000) (he : Env w) (h : rdP x = none) :
    Calls Tryd.prog 41 #[.string x, .string ⟨#[94]⟩] w fun e w' => e = .returned (.tuple #[.int .i64 0, .int .i64 0, .bool false]) ∧ Below w.heap.size w w' := by
  refine (readPair_any 94 x w hs he).mono ?_
  rintro e w' ⟨hb, (⟨a, b, h1, rfl⟩ | ⟨h1, rfl⟩)⟩
  · rw [rdQ_pow, h] at h1; cases h1
  · exact ⟨rfl, hb⟩
theorem map_snoc {pre : List ByteArray} {x : ByteArray} {l : List (Int × Int)} {p k : Int} (h : pre.map rdP = l.map some) (hx : rdP x = some (p, k)) : (pre ++ [x]).map rdP = (l ++ [(p, k)]).map some := by
  rw [List.map_append, List.map_append, h]; simp [hx]
theorem map_none {pre : List ByteArray} {x : ByteArray} (hx : rdP x = none) (l : List (Int × Int)) : ¬ (pre ++ [x]).map rdP = l.map some := by
  intro h
  have hm : none ∈ l.map some := by rw [← h]; simp [hx]
  simp at hm
theorem map_full {pre : List ByteArray} {x : ByteArray} {l : List (Int × Int)} (h : pre.map rdP = l.map some) (hl : l.length = 60) (m : List (Int × Int)) (hm : m.length ≤ 60) : ¬ (pre ++ [x]).map rdP = m.map some := by
  intro h2
  have e1 := congrArg List.length h
  have e2 := congrArg List.length h2
  simp at e1 e2
  omega
theorem boxed_app {Wp w3 : World} {base b j n : Nat} {t : TypeId} {u v v' : Value} {xs : List Value} {tmp : Obj} (h : Boxed Wp j t u) (ht : t ≠ 54) (hrow : Wp.ownsRow base 54 2 v n xs)
    (hg : (Wp.alloc tmp).grownBy w3 v.ownBlock) (hj : j ≠ b) : Boxed (w3.setCell ⟨b, 0, none⟩ v') j t u :=
  ((h.alloc tmp).kept hg (h.not_row ht hrow)).kept (grownBy_setCell' w3 b v') (by simpa using hj)
theorem keeps_below {W w2 : World} (hb : Below W.heap.size W w2) : KeepsOthers W w2 :=
  ⟨hb.size, fun k o hk _ => (hb.block k (Array.getElem?_eq_some_iff.1 hk).1).trans hk⟩
theorem fr_boxed {sb pb vb : Nat} {A B : World} {t1 t2 t3 : TypeId} {u1 u2 u3 : Value} (a1 : Boxed A sb t1 u1) (b1 : Boxed B sb t1 u1) (a2 : Boxed A pb t2 u2) (b2 : Boxed B pb t2 u2) (a3 : Boxed A vb t3 u3) (b3 : Boxed B vb t3 u3) : FrB sb pb vb A B := by
  apply fr_blocks
  rintro b (rfl | rfl | rfl)
  · exact (show B.heap[b]? = _ from b1).trans (show A.heap[b]? = _ from a1).symm
  · exact (show B.heap[b]? = _ from b2).trans (show A.heap[b]? = _ from a2).symm
  · exact (show B.heap[b]? = _ from b3).trans (show A.heap[b]? = _ from a3).symm
theorem news_two2 (w : World) (o : Obj) (a b : Value) (T : TypeId) : ∀ j u, [a, b][j]? = some u → ((w.alloc o).alloc (.cells #[a, b] T)).cell? ((⟨w.heap.size + 1, 0, none⟩ : Addr).add j) = some u := by
  intro j u h
  have := news_two (w.alloc o) a b T j u h
  rw [World.size_alloc] at this
  exact this
/-- behind the append of a round -/
theorem ri_next {w W w2 w3 : World} {tmp : Obj} {pre : List ByteArray} {v v' : Value} {L : List (Int × Int)} {p k : Int} (hb : RBase w W 0) (hx : RBox w.heap.size W) (hv : Boxed W (w.heap.size + 1 + 1) 24 v)
    (hb2 : Below W.heap.size W w2) (hrow : PowRow w.heap.size w2 v L) (hL : L.length ≤ 59) (hm : pre.map rdP = (L ++ [(p, k)]).map some)
    (hown : w3.ownsRow w.heap.size 54 2 v' (L.length + 1) (pc L ++ [.int .i64 p, .int .i64 k])) (hgrow : (w2.alloc tmp).grownBy w3 v.ownBlock) :
    Boxed w3 (w.heap.size + 1 + 1) 24 v ∧ KeepsOthers W (w3.setCell ⟨w.heap.size + 1 + 1, 0, none⟩ v') ∧
    FrB (w.heap.size + 1 + 1 + 1) (w.heap.size + 1 + 1 + 1 + 1) (w.heap.size + 1 + 1 + 1 + 2) W (w3.setCell ⟨w.heap.size + 1 + 1, 0, none⟩ v') ∧ RI w pre (w3.setCell ⟨w.heap.size + 1 + 1, 0, none⟩ v') := by
  have hs := hb.bel.size
  have hs2 := hb2.size
  have r2 := boxed_below hv hb2
  obtain ⟨a1, a2, a3, a4, a5⟩ := r2.appended (t := 24) (by decide) hrow (show w.heap.size ≤ w2.heap.size by omega) (show w.heap.size ≤ w.heap.size + 1 + 1 by omega) hown hgrow
  obtain ⟨u, hu⟩ := hx.sb
  have c0 := boxed_app (b := w.heap.size + 1 + 1) (v' := v') (boxed_below hb.res hb2) (by decide) hrow hgrow (by omega)
  have c1 := boxed_app (b := w.heap.size + 1 + 1) (v' := v') (boxed_below hb.code hb2) (by decide) hrow hgrow (by omega)
  have c3 := boxed_app (b := w.heap.size + 1 + 1) (v' := v') (boxed_below hu hb2) (by decide) hrow hgrow (by omega)
  have c4 := boxed_app (b := w.heap.size + 1 + 1) (v' := v') (boxed_below hx.pb hb2) (by decide) hrow hgrow (by omega)
  have c5 := boxed_app (b := w.heap.size + 1 + 1) (v' := v') (boxed_below hx.vb hb2) (by decide) hrow hgrow (by omega)
  refine ⟨a1, (keeps_below hb2).trans a4, fr_boxed hu c3 hx.pb c4 hx.vb c5, ⟨v', L ++ [(p, k)], a2, powRow_snoc a3, hm, by simp; omega⟩, ⟨c0, c1, ?_⟩, ⟨u, c3⟩, c4, c5⟩
  exact (hb.bel.trans (hb2.mono hs)).trans a5
theorem row_st2 {w W : World} {c : Int} {v u1 u2 : Value} {L : List (Int × Int)} (hb : RBase w W c) (hrow : PowRow w.heap.size W v L) :
    PowRow w.heap.size ((W.setCell ⟨w.heap.size, 0, none⟩ u1).setCell ⟨w.heap.size + 1, 0, none⟩ u2) v L := by
  have h1 : PowRow w.heap.size (W.setCell ⟨w.heap.size, 0, none⟩ u1) v L := World.ownsRow.kept hrow (grownBy_setCell' W _ u1) (.inr (hb.res.not_row (by decide) hrow).symm)
  have c1 := hb.code.kept (grownBy_setCell' W w.heap.size u1) (by simp)
  exact World.ownsRow.kept h1 (grownBy_setCell' _ _ u2) (.inr (c1.not_row (by decide) h1).symm)
/-- a return with the code 6 out of a round -/
theorem rx_ret {w W w2 : World} {pre : List ByteArray} (hb : RBase w W 0) (hb2 : Below W.heap.size W w2) (hm : ∀ l : List (Int × Int), l.length ≤ 60 → ¬ pre.map rdP = l.map some) :
    KeepsOthers W ((w2.setCell ⟨w.heap.size, 0, none⟩ (.slice none 0 0)).setCell ⟨w.heap.size + 1, 0, none⟩ (.int .i64 6)) ∧
    RX w pre ((w2.setCell ⟨w.heap.size, 0, none⟩ (.slice none 0 0)).setCell ⟨w.heap.size + 1, 0, none⟩ (.int .i64 6)) := by
  have r0 := boxed_below hb.res hb2
  have r1 := boxed_below hb.code hb2
  have hs := hb.bel.size
  have hs2 := hb2.size
  refine ⟨(keeps_below hb2).trans ((KeepsOthers.setCell _ _ _).trans (KeepsOthers.setCell _ _ _)), ⟨?_, ?_, ?_⟩, hm⟩
  · exact (r0.set _).kept (grownBy_setCell' _ _ _) (by simp)
  · exact (r1.kept (grownBy_setCell' _ w.heap.size _) (by simp)).set _
  · exact ((hb.bel.trans (hb2.mono hs)).setCell (p := ⟨w.heap.size, 0, none⟩) (Nat.le_refl _) _).setCell (p := ⟨w.heap.size + 1, 0, none⟩) (by simp) _
/-- the deferred calls' block still stands behind the stores of the results -/
theorem def_keeps {W w4 : World} {D : Nat} {a1 a2 : Addr} {u1 u2 : Value} (hK : W.heap[D]? = some (.deferred (some []))) (hb4 : Below W.heap.size W w4) :
    ((w4.setCell a1 u1).setCell a2 u2).heap[D]? = some (.deferred (some [])) :=
  ((KeepsOthers.setCell _ a1 u1).trans (KeepsOthers.setCell _ a2 u2)).same D _ ((keeps_below hb4).same D _ hK rfl) rfl
/-- the results' cells behind the stores, the deferred calls taken -/
theorem leave_cells {w W w4 : World} {D : Nat} {c : Int} {u1 u2 : Value} {o' : Obj} (hb : RBase w W c) (hb4 : Below W.heap.size W w4) (hK : W.heap[D]? = some (.deferred (some []))) (hD : w.heap.size ≤ D) :
    (((w4.setCell ⟨w.heap.size, 0, none⟩ u1).setCell ⟨w.heap.size + 1, 0, none⟩ u2).putObj D o').cell? ⟨w.heap.size, 0, none⟩ = some u1 ∧
    (((w4.setCell ⟨w.heap.size, 0, none⟩ u1).setCell ⟨w.heap.size + 1, 0, none⟩ u2).putObj D o').cell? ⟨w.heap.size + 1, 0, none⟩ = some u2 ∧
    Below w.heap.size w (((w4.setCell ⟨w.heap.size, 0, none⟩ u1).setCell ⟨w.heap.size + 1, 0, none⟩ u2).putObj D o') := by
  have r0 := boxed_below hb.res hb4
  have r1 := boxed_below hb.code hb4
  have k := def_keeps (a1 := ⟨w.heap.size, 0, none⟩) (u1 := u1) (a2 := ⟨w.heap.size + 1, 0, none⟩) (u2 := u2) hK hb4
  have s0 := (r0.set u1).kept (grownBy_setCell' _ (w.heap.size + 1) u2) (by simp)
  have s1 := (r1.kept (grownBy_setCell' _ w.heap.size u1) (by simp)).set u2
  refine ⟨(boxed_put s0 k rfl).cell, (boxed_put s1 k rfl).cell, below_put ?_ hD⟩
  exact ((hb.bel.trans (hb4.mono hb.bel.size)).setCell (p := ⟨w.heap.size, 0, none⟩) (Nat.le_refl _) _).setCell (p := ⟨w.heap.size + 1, 0, none⟩) (by simp) _
end Go.Proofs.YtghhjeebcpcepaaDoor
