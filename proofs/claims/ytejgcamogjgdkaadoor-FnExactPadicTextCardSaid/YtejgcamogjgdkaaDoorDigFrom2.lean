/- Contracts of the walk: impl.FromDigits answers the number with these digits, or the code. -/
import Derived.Test.YtejgcamogjgdkaaDoorDigFrom
namespace Go.Proofs.YtejgcamogjgdkaaDoor
open Go.RowKit Go.Shelf
attribute [local go_sem] Oper.semAt_some
set_option linter.unusedVariables false
set_option linter.unusedSimpArgs false
/-- the number that withDigits answers -/
def withQ (p place : Int) (l : List Int) : Q4 := if l = [] then (p, place, 0, 0) else if ringM p l.length = 0 then (0, 0, 0, 0) else (p, numT p place (horner p l) (place + l.length))
theorem lies_putB {W : World} {b k : Nat} {x : Value} {vs : List Value} {o o' : Obj} (h : Lies W b (x :: vs).toArray) (hk : W.heap[k]? = some o) (ho : o.isCells = false) : Lies (W.putObj k o') b (x :: vs).toArray := by
  have hne : b ≠ k := by
    rintro rfl
    have := lies_cell h 0
    simp [World.cell?, hk] at this
    cases o <;> simp_all [Obj.isCells]
  exact lies_block h (by have := h.1; simp [World.putObj]; exact this) (World.putObj_heap_other hne)
theorem set4_def {w4 : World} {b D : Nat} {x0 x1 x2 x3 : Value} {o : Obj} (hk : w4.heap[D]? = some o) (ho : o.isCells = false) :
    ((((w4.setCell ⟨b, 0, none⟩ x0).setCell ⟨b, 1, none⟩ x1).setCell ⟨b, 2, none⟩ x2).setCell ⟨b, 3, none⟩ x3).heap[D]? = some o :=
  ((((KeepsOthers.setCell _ _ _).trans (KeepsOthers.setCell _ _ _)).trans (KeepsOthers.setCell _ _ _)).trans (KeepsOthers.setCell _ _ _)).same D _ hk ho
theorem lies_leave {w4 : World} {b D : Nat} {x0 x1 x2 x3 y0 y1 y2 y3 : Value} {o o' : Obj} (h : Lies w4 b #[y0, y1, y2, y3]) (hk : w4.heap[D]? = some o) (ho : o.isCells = false) :
    Lies (((((w4.setCell ⟨b, 0, none⟩ x0).setCell ⟨b, 1, none⟩ x1).setCell ⟨b, 2, none⟩ x2).setCell ⟨b, 3, none⟩ x3).putObj D o') b #[x0, x1, x2, x3] :=
  lies_putB (lies_set4 h) (set4_def hk ho) ho
theorem bk_last {l : List Int} {pre : List (Nat × Int)} {x : Nat × Int} (h : ∃ j, j ≤ l.length ∧ pre ++ [x] = bk l j) :
    pre.length < l.length ∧ x = (l.length - 1 - pre.length, l.getD (l.length - 1 - pre.length) 0) := by
  obtain ⟨j, hj, e⟩ := h
  have hl := congrArg List.length e
  rw [bk_length, List.length_append, List.length_singleton] at hl
  subst hl
  rw [bk_succ] at e
  have := (List.append_inj' e rfl).2
  exact ⟨by omega, by simpa using this⟩
theorem horner_drop (p : Int) {l : List Int} {k : Nat} (hk : k < l.length) : horner p (l.drop (l.length - (k + 1))) = horner p (l.drop (l.length - k)) * p + l.getD (l.length - 1 - k) 0 := by
  have h : l.length - (k + 1) < l.length := by omega
  rw [List.drop_eq_getElem_cons h, horner_cons, show l.length - (k + 1) + 1 = l.length - k by omega, Int.mul_comm]
  congr 1
  simp [List.getD, show l.length - 1 - k = l.length - (k + 1) by omega, h]
theorem horner_drop_bd {p : Int} {l : List Int} {k : Nat} (hp2 : 2 ≤ p) (hd : l.all (digB p) = true) (hk : k ≤ l.length) (hm : pw p l.length ≤ 1000000000) :
    0 ≤ horner p (l.drop (l.length - k)) ∧ horner p (l.drop (l.length - k)) ≤ 1000000000 := by
  rw [List.all_eq_true] at hd
  obtain ⟨a, b⟩ := horner_bd hp2 (l.drop (l.length - k)) fun d hx => by
    have := hd d (List.mem_of_mem_drop hx)
    simp only [digB, inB, Bool.and_eq_true, decide_eq_true_eq] at this
    omega
  rw [List.length_drop] at b
  have := pw_mono (p := p) (a := ((l.length - (l.length - k) : Nat) : Int)) (b := (l.length : Int)) hp2 (by omega)
  exact ⟨a, by omega⟩
/-- what holds at the head of each round: the number of the digits so far lies in box b -/
def WI (w : World) (p : Int) (l : List Int) (b : Nat) (pre : List (Nat × Int)) (W : World) : Prop :=
  Boxed W b 2 (.int .i64 (horner p (l.drop (l.length - pre.length)))) ∧ Lies W w.heap.size #[.int .i64 p] ∧ Lies W (w.heap.size + 1) (P4 0 0 0 0) ∧ Below w.heap.size w W
theorem wi_put {w W : World} {p : Int} {l : List Int} {b k : Nat} {pre : List (Nat × Int)} {o o' : Obj} (h : WI w p l b pre W) (hb : w.heap.size ≤ k) (hk : W.heap[k]? = some o) (ho : o.isCells = false) : WI w p l b pre (W.putObj k o') :=
  ⟨boxed_putB h.1 hk ho, lies_putB h.2.1 hk ho, lies_putB h.2.2.1 hk ho, below_putB h.2.2.2 hb⟩
theorem wi_below {w A B : World} {p : Int} {l : List Int} {b : Nat} {pre : List (Nat × Int)} (h : WI w p l b pre A) (hs : StU A B) : WI w p l b pre B :=
  ⟨boxed_belowB h.1 hs, lies_next h.2.1 hs, lies_next h.2.2.1 hs, h.2.2.2.trans (hs.mono h.2.2.2.size)⟩
theorem frD_put {g b k : Nat} {A W : World} {o' : Obj} (h : FrD g b A W) (h1 : g < k) (h2 : b < k) : FrD g b A (W.putObj k o') := by
  intro j hj
  refine (World.putObj_heap_other ?_).trans (h j hj)
  rcases hj with rfl | rfl <;> omega
theorem frD_refl {g b : Nat} (A : World) : FrD g b A A := fun _ _ => rfl
theorem frD_trans {g b : Nat} {A B C : World} (h : FrD g b A B) (k : FrD g b B C) : FrD g b A C := fun j hj => (k j hj).trans (h j hj)
theorem make_num {p v r e : Int} (h0 : 0 ≤ r) (h1 : r < pw p (e - v)) : makeT p v r e = numT p v r e := by
  unfold makeT numT
  rw [Int.emod_eq_of_lt h0 h1, Int.sub_sub]
theorem from_with {p place : Int} {l : List Int} (hs : smallB p = true) (hd : digsB p place l = true) :
    resQ (withQ p place l).1 (withQ p place l).2.1 (withQ p place l).2.2.1 (withQ p place l).2.2.2 = fromQ p place l ∧
    limC (withQ p place l).1 (withQ p place l).2.1 (withQ p place l).2.2.1 (withQ p place l).2.2.2 = fromC p place l := by
  have hp2 := (smallB_bd hs).1
  by_cases hl : l = []
  · subst hl
    have hw : withQ p place [] = (p, place, 0, 0) := rfl
    have hm : makeT p place (horner p []) (place + (([] : List Int).length : Int)) = (place, 0, 0) := by simp [makeT, horner]
    have h1 : pw p (([] : List Int).length : Int) ≤ 1000000000 := by simp [pw]
    unfold fromQ fromC
    rw [hw, hm, hs, hd, if_pos h1]
    simp [pw_zero]
  · have hlen : 1 ≤ (l.length : Int) := by have := List.length_pos_iff.2 hl; omega
    by_cases hr : ringM p l.length = 0
    · have hw : withQ p place l = (0, 0, 0, 0) := by unfold withQ; rw [if_neg hl, if_pos hr]
      have h1 : ¬ pw p (l.length : Int) ≤ 1000000000 := by
        intro h
        have := ringM_pw hs hlen h
        have := pw_ge1 (p := p) (a := (l.length : Int)) hp2
        omega
      have hz : padB 0 0 0 0 = false := by decide
      unfold fromQ fromC
      rw [hw, hs, hd]
      simp [h1, resQ, limC, hz]
    · have hw : withQ p place l = (p, numT p place (horner p l) (place + l.length)) := by unfold withQ; rw [if_neg hl, if_neg hr]
      have e := pw_ringM hr
      obtain ⟨_, _, _, _, _, h1, _⟩ := ringM_bd hr
      rw [e] at h1
      have hd2 : ∀ d ∈ l, 0 ≤ d ∧ d < p := by
        intro d hx
        unfold digsB at hd
        simp only [Bool.and_eq_true, List.all_eq_true] at hd
        have := hd.2 d hx
        simp only [inB, Bool.and_eq_true, decide_eq_true_eq] at this
        omega
      obtain ⟨a, b⟩ := horner_bd hp2 l hd2
      have hm := make_num (p := p) (v := place) (e := place + l.length) a (by rw [show place + (l.length : Int) - place = l.length by omega]; exact b)
      unfold fromQ fromC
      rw [hw, hs, hd, hm]
      simp [h1]
end Go.Proofs.YtejgcamogjgdkaaDoor
