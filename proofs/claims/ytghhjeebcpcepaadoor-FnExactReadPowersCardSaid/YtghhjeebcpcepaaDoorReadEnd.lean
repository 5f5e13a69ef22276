/- Plain mathematics: what impl.ReadPowers decides by reading leniently and writing again is what spec.ReadPowers decides. -/
import Derived.Test.YtghhjeebcpcepaaDoorReadMath2
namespace Go.Proofs.YtghhjeebcpcepaaDoor
open Go.RowKit
set_option linter.unusedVariables false
theorem rdP_pieces {l : List (Int × Int)} (h : arePowB l = true) : (l.map fun p => bsOf (pwT p)).map rdP = l.map some := by
  rw [List.map_map]
  apply List.map_congr_left
  intro p hp
  have := mem_bd h hp
  exact rdP_text (a := p.1) (k := p.2) (by omega) this.2.1 this.2.2.1 this.2.2.2
/-- a text that is read well is made of pieces that are read well -/
theorem read_pieces {s : ByteArray} (h1 : ¬ s = ⟨#[49]⟩) (h : readB s = true) : arePowB (parseS s) = true ∧ bsOf (psT (parseS s)) = s ∧ (splitL s 42).map rdP = (parseS s).map some := by
  unfold readB at h
  simp only [Bool.and_eq_true, decide_eq_true_eq] at h
  obtain ⟨ha, he⟩ := h
  refine ⟨ha, he, ?_⟩
  have h0 : parseS s ≠ [] := by
    intro e
    rw [e] at he
    exact h1 he.symm
  have hp := pieces_psT ha h0
  rw [he] at hp
  rw [hp, rdP_pieces ha]
theorem some_inj : ∀ {a b : List (Int × Int)}, a.map some = b.map some → a = b
  | [], [], _ => rfl
  | [], _ :: _, h => by simp at h
  | _ :: _, [], h => by simp at h
  | x :: a, y :: b, h => by
    simp only [List.map_cons, List.cons.injEq, Option.some.injEq] at h
    rw [h.1, some_inj h.2]
/-- all pieces were read: the list decides -/
theorem read_all {s : ByteArray} {l : List (Int × Int)} (h1 : ¬ s = ⟨#[49]⟩) (hl : (splitL s 42).map rdP = l.map some) :
    readL s = (if arePowB l = true ∧ bsOf (psT l) = s then l else []) ∧ readC s = (if arePowB l = true ∧ bsOf (psT l) = s then 0 else 6) := by
  by_cases h : arePowB l = true ∧ bsOf (psT l) = s
  · have hp : parseS s = l := by rw [← h.2]; exact parse_psT h.1
    rw [if_pos h, if_pos h]
    have := read_eq (s := s) (by rw [hp]; exact h.1) (by rw [hp]; exact h.2)
    rw [hp] at this; exact this
  · rw [if_neg h, if_neg h]
    have hb : readB s = false := by
      cases hb : readB s
      · rfl
      · obtain ⟨ha, he, hr⟩ := read_pieces h1 hb
        have : parseS s = l := some_inj (hr.symm.trans hl)
        rw [this] at ha he
        exact absurd ⟨ha, he⟩ h
    simp [readL, readC, hb]
/-- some piece was not read, or there are too many: the text is none -/
theorem read_none {s : ByteArray} {pre : List ByteArray} (h1 : ¬ s = ⟨#[49]⟩) (hp : pre <+: splitL s 42) (hbad : ∀ l : List (Int × Int), l.length ≤ 60 → ¬ pre.map rdP = l.map some) : readL s = [] ∧ readC s = 6 := by
  have hb : readB s = false := by
    cases hb : readB s
    · rfl
    · obtain ⟨ha, he, hr⟩ := read_pieces h1 hb
      obtain ⟨t, ht⟩ := hp
      rw [← ht, List.map_append] at hr
      have hlen := congrArg List.length hr
      simp only [List.length_append, List.length_map] at hlen
      refine absurd ?_ (hbad ((parseS s).take pre.length) (by rw [List.length_take]; have := arePow_len ha; omega))
      have h2 := congrArg (List.take pre.length) hr
      rw [List.take_left' (by simp)] at h2
      rw [h2, List.map_take]
  simp [readL, readC, hb]
end Go.Proofs.YtghhjeebcpcepaaDoor
