/- Contracts of the walk: chapter 6 in impl: the text of a polynomial, and impl.PolynomialText. -/
import Derived.Test.YtcennddgbpkclaaDoorPolyTxt1
import Derived.Test.YtcennddgbpkclaaDoorPolyImpl
import Derived.Test.YtcennddgbpkclaaDoorRangeB
import Derived.RangeFuncBox
import Derived.WalkKit
import Derived.OwnWalkIn
import Derived.TacticsInMore
import Derived.LoopNIn
import Derived.LoopIn
import Derived.Shelf.Abstract
namespace Go.Proofs.YtcennddgbpkclaaDoor
open Go.RowKit Go.Shelf
attribute [local go_sem] Oper.semAt_some
set_option linter.unusedVariables false
set_option linter.unusedSimpArgs false
theorem below_putB {b k : Nat} {w W : World} {o' : Obj} (h : Below b w W) (hk : b ≤ k) : Below b w (W.putObj k o') :=
  ⟨h.os, h.tape, h.output, by have := h.size; simp [World.putObj]; omega, fun j hj => (World.putObj_heap_other (by omega)).trans (h.block j hj)⟩
theorem keeps_belowB {W w2 : World} (hb : Below W.heap.size W w2) : KeepsOthers W w2 :=
  ⟨hb.size, fun k o hk _ => (hb.block k (Array.getElem?_eq_some_iff.1 hk).1).trans hk⟩
/-- an iterator's own steps only add memory -/
abbrev StU (A B : World) : Prop := Below A.heap.size A B
/-- the elements of a list from its end on, with their indices -/
def bk (l : List Int) (j : Nat) : List (Nat × Int) := (List.range j).map fun (i : Nat) => (l.length - 1 - i, l.getD (l.length - 1 - i) 0)
theorem bk_length (l : List Int) (j : Nat) : (bk l j).length = j := by simp [bk]
theorem bk_succ (l : List Int) (j : Nat) : bk l (j + 1) = bk l j ++ [(l.length - 1 - j, l.getD (l.length - 1 - j) 0)] := by
  unfold bk; rw [List.range_succ, List.map_append]; rfl
theorem backward_made (o : Option Addr) (n c : Nat) (w : World) :
    Calls Tryd.prog 35 #[.slice o n c] w fun e w' => e = .returned (.func (.func 49) #[] #[.pointer (some ⟨w.heap.size, 0, none⟩)]) ∧ w' = w.alloc (.cells #[.slice o n c] 24) := by
  go_enter Tryd.func35, Tryd.ntmps35
  go_wp2
  go_ret
  exact ⟨rfl, rfl⟩
/-- what the iterator reads: the box of its list, and the list's row -/
def FrD (g b : Nat) (A B : World) : Prop := ∀ k, k = g ∨ k = b → B.heap[k]? = A.heap[k]?
def BackAt (g b c : Nat) (l : List Int) (W : World) : Prop :=
  Boxed W b 24 (.slice (some ⟨g, 0, none⟩) l.length c) ∧ ∀ k, k < l.length → W.cell? ⟨g, k, none⟩ = some (.int .i64 (l.getD k 0))
theorem backAt_kept {g b c : Nat} {l : List Int} {A B : World} (h : BackAt g b c l A) (hf : FrD g b A B) : BackAt g b c l B :=
  ⟨(hf b (.inr rfl)).trans h.1, fun k hk => by rw [World.cell?_of_block (w := A) (a := ⟨g, k, none⟩) (hf g (.inl rfl))]; exact h.2 k hk⟩
set_option maxRecDepth 20000 in
set_option maxHeartbeats 1600000 in
theorem backward_by (n : Nat) (hn : 1 ≤ n) (g b c : Nat) (l : List Int) (hl : l.length ≤ 1100000) :
    SeqBb Fence.wide n Tryd.prog 49 #[] #[.pointer (some ⟨b, 0, none⟩)] (fun x : Nat × Int => #[.int .i64 x.1, .int .i64 x.2]) StU (FrD g b) (fun xs => xs = bk l l.length) (fun pre => ∃ j, j ≤ l.length ∧ pre = bk l j) (BackAt g b c l) := by
  intro lp J Jx W hW hJ hX h0 hY
  have HW := Lib.hid hW
  have H0 := Lib.hid h0
  have q0 := hW.1.cell
  clear hW h0
  show CallsIn Fence.wide n Tryd.prog 49 #[.func (.yield lp) #[] #[], .pointer (some ⟨b, 0, none⟩)] W _
  refine callsIn_of_wp Tryd.func49 rfl trivial ?_ rfl
  simp only [Tryd.ntmps49, List.size_toArray, List.length_cons, List.length_nil, Nat.reduceAdd, Nat.reduceSub, Array.replicate_succ, Array.replicate_zero, List.push_toArray, List.append_toArray, List.nil_append, List.cons_append]
  gi_wp2
  gi_loopw [3] (fun i wr => ∃ (j : Nat) (x : Int), j ≤ l.length ∧ i = .int .i64 x ∧ x = (l.length : Int) - 1 - j ∧ BackAt g b c l wr ∧ J (bk l j) wr) (fun i wr => (intOf i + 1).toNat)
  case atStart => exact ⟨0, (l.length : Int) - 1, Nat.zero_le _, rfl, by omega, HW.out, H0.out⟩
  case round =>
    obtain ⟨j, x, hj, rfl, hx, hb, hJj⟩ := hrel
    have q1 := hb.1.cell
    by_cases hlt : j < l.length
    · obtain ⟨m, hm⟩ : ∃ m : Nat, x = m := ⟨x.toNat, by omega⟩
      subst hm
      have hm2 : m = l.length - 1 - j := by omega
      have hml : m < l.length := by omega
      have q2 := hb.2 m hml
      obtain ⟨y, hy⟩ : ∃ y, l.getD m 0 = y := ⟨_, rfl⟩
      rw [hy] at q2
      have hs : bk l (j + 1) = bk l j ++ [(m, y)] := by rw [bk_succ, ← hm2, hy]
      have HY := Lib.hid (hY (bk l j) (m, y) wr ⟨j + 1, by omega, hs.symm⟩ hJj)
      have HS := Lib.hid hs
      have HB := Lib.hid hb
      have HXX := Lib.hid hx
      have hm0 : (m : Int) ≤ 1100000 := by omega
      have hge : (0 : Int) ≤ (m : Int) := by omega
      clear hs hb hJj hy hm2 hx
      obtain ⟨fn, tmps, assign, body, hy, hR⟩ := HY.out
      clear HY
      simp only at hy
      gi_wp2
      refine hR.mono ?_
      rintro e W3 (⟨rfl, hJ3, hF3⟩ | ⟨rfl, hX3⟩)
      · have hb3 := backAt_kept HB.out hF3
        have d0 := hb3.1.cell
        have HB3 := Lib.hid hb3
        clear hb3 q1 q2
        gi_wp2
        go_roundw
        case rel => exact ⟨j + 1, (m : Int) - 1, by omega, rfl, by have := HXX.out; omega, HB3.out, by rw [HS.out]; exact hJ3⟩
        case measure => simp [intOf]
      · gi_wp2
        refine bodyPost_ret (results_none rfl _ _ _) rfl ?_
        exact ⟨_, rfl, .inr ⟨_, ⟨j + 1, by omega, HS.out.symm⟩, hX3⟩⟩
    · have hjl : j = l.length := by omega
      have HK := Lib.hid hjl
      have HJ := Lib.hid hJj
      have hx1 : x < 0 := by omega
      clear hjl hJj hb
      gi_wp2
      go_end0
      have hJe := HJ.out
      rw [HK.out] at hJe
      exact ⟨_, rfl, .inl ⟨_, rfl, hJe⟩⟩
theorem frD_put {g b k : Nat} {A W : World} {o' : Obj} (h : FrD g b A W) (h1 : g < k) (h2 : b < k) : FrD g b A (W.putObj k o') := by
  intro j hj
  refine (World.putObj_heap_other ?_).trans (h j hj)
  rcases hj with rfl | rfl <;> omega
theorem frD_refl {g b : Nat} (A : World) : FrD g b A A := fun _ _ => rfl
theorem frD_trans {g b : Nat} {A B C : World} (h : FrD g b A B) (k : FrD g b B C) : FrD g b A C := fun j hj => (k j hj).trans (h j hj)
theorem bk_last {l : List Int} {pre : List (Nat × Int)} {x : Nat × Int} (h : ∃ j, j ≤ l.length ∧ pre ++ [x] = bk l j) :
    pre.length < l.length ∧ x = (l.length - 1 - pre.length, l.getD (l.length - 1 - pre.length) 0) := by
  obtain ⟨j, hj, e⟩ := h
  have hl := congrArg List.length e
  rw [bk_length, List.length_append, List.length_singleton] at hl
  subst hl
  rw [bk_succ] at e
  have := (List.append_inj' e rfl).2
  exact ⟨by omega, by simpa using this⟩
/-- blocks of cells stand -/
def CellsKept (A C : World) : Prop := ∀ (k : Nat) (c : Array Value) (t : TypeId) (z : Nat × Nat), A.heap[k]? = some (.cells c t z) → C.heap[k]? = A.heap[k]?
theorem cells_below {A C : World} (h : Below A.heap.size A C) : CellsKept A C := fun k c t z hk => h.block k (Array.getElem?_eq_some_iff.1 hk).1
theorem cells_put {W : World} {k : Nat} {o o' : Obj} (hk : W.heap[k]? = some o) (ho : o.isCells = false) : CellsKept W (W.putObj k o') := by
  intro j c t z hj
  refine World.putObj_heap_other ?_
  rintro rfl
  rw [hj] at hk; cases hk; cases ho
theorem bld_same {T e : TypeId} {B b : Nat} {bs : List Value} {A C : World} (h : Lib.IsBuilderF T e B b bs A) (hk : CellsKept A C) : Lib.IsBuilderF T e B b bs C := by
  have one : ∀ p, Lib.BuilderAtF T e B b p bs A → Lib.BuilderAtF T e B b p bs C := by
    rintro p ⟨hB, v, hb, hown, hne⟩
    refine ⟨hB, v, (hk _ _ _ _ hb).trans hb, ⟨hown.1, ?_⟩, hne⟩
    rcases hown.2 with h | ⟨g, cap, cur, fz, e1, e2, e3, rest⟩
    · exact .inl h
    · exact .inr ⟨g, cap, cur, fz, e1, e2, (hk _ _ _ _ e3).trans e3, rest⟩
  exact h.imp (one _) (one _)
theorem bld_cells {T e : TypeId} {B b : Nat} {bs : List Value} {A : World} (h : Lib.IsBuilderF T e B b bs A) : ∃ c t z, A.heap[b]? = some (.cells c t z) := by
  rcases h with ⟨_, v, hb, _⟩ | ⟨_, v, hb, _⟩ <;> exact ⟨_, _, _, hb⟩
theorem ok_keeps {A C : World} {b : Nat} {e : TypeId} (h : Lib.OthersKept e (some b) A C) (hs : A.heap.size ≤ C.heap.size) (hb : ∃ c t z, A.heap[b]? = some (.cells c t z)) : KeepsOthers A C := by
  obtain ⟨cb, tb, zb, hb⟩ := hb
  refine ⟨hs, fun k o hk ho => h k o hk ?_ ?_⟩
  · intro e; cases e; rw [hb] at hk; cases hk; cases ho
  · intro c fz e; subst e; cases ho
theorem ok_block {A C : World} {b k : Nat} {e t : TypeId} {c : Array Value} {z : Nat × Nat} (h : Lib.OthersKept e (some b) A C) (hk : A.heap[k]? = some (.cells c t z)) (hkb : k ≠ b) (ht : t ≠ e) : C.heap[k]? = some (.cells c t z) := by
  refine h k _ hk (by simpa using hkb) ?_
  intro c' fz e'
  injection e' with _ e2
  exact ht e2
theorem str_bytes (l : List UInt8) : Lib.strCells (bsOf l) = Lib.byteCells l := by simp [Lib.strCells, Lib.byteCells, bsOf]
theorem bytes_add (a b : List UInt8) : Lib.byteCells (a ++ b) = Lib.byteCells a ++ Lib.byteCells b := by simp [Lib.byteCells]
theorem plus_term {acc : List UInt8} {c : Int} {m : Nat} (h : c ≠ 0) : acc ++ (if 0 < c ∧ acc ≠ [] then [43] else []) ++ termT true c m = acc ++ termT (decide (acc = [])) c m := by
  rw [List.append_assoc]
  congr 1
  unfold termT sgnT
  by_cases hc : c < 0
  · rw [if_neg (by omega), if_pos hc, if_pos hc]; rfl
  · rw [if_neg hc, if_neg hc]
    by_cases ha : acc = []
    · rw [if_neg (by simp [ha]), if_pos rfl, if_pos (by simp [ha])]; rfl
    · rw [if_pos ⟨by omega, ha⟩, if_pos rfl, if_neg (by simp [ha])]; rfl
/-- what holds at the head of each round -/
def TI (w : World) (F : List Int) (pre : List (Nat × Int)) (W : World) : Prop :=
  ∃ acc : List UInt8, Lib.IsBuilderF 58 5 (w.heap.size + 1) (w.heap.size + 1) (Lib.byteCells acc) W ∧ Below w.heap.size w W ∧ acc.length ≤ 40 * pre.length ∧
    acc ++ restT F (decide (acc = [])) (9 - pre.length) = restT F true 9 ∧
    W.heap[w.heap.size]? = some (.cells (arrV F) 40 (0, 0)) ∧ W.heap[w.heap.size + 2]? = some (.cells #[.slice (some ⟨w.heap.size, 0, none⟩) 9 9] 24 (0, 0))
theorem ti_same {w A C : World} {F : List Int} {pre : List (Nat × Int)} (h : TI w F pre A) (hk : CellsKept A C) (hb : Below w.heap.size w C) : TI w F pre C := by
  obtain ⟨acc, h1, h2, h3, h4, h5, h6⟩ := h
  exact ⟨acc, bld_same h1 hk, hb, h3, h4, (hk _ _ _ _ h5).trans h5, (hk _ _ _ _ h6).trans h6⟩
set_option maxRecDepth 20000 in
set_option maxHeartbeats 3200000 in
theorem text6_any {F : List Int} (w : World) (h9 : F.length = 9) (hb : ∀ i, -1000000 ≤ F.getD i 0 ∧ F.getD i 0 ≤ 1000000) (ht : Tab w) :
    Calls Tryd.prog 22 #[.agg (arrV F)] w fun e w' => e = .returned (.string (bsOf (if restT F true 9 = [] then [48] else restT F true 9))) ∧ Below w.heap.size w w' := by
  obtain ⟨R, hR⟩ : ∃ R, (if restT F true 9 = [] then [48] else restT F true 9) = R := ⟨_, rfl⟩
  rw [hR]
  have HR := Lib.hid hR
  have HF := Lib.hid h9
  have HBD := Lib.hid hb
  have HT := Lib.hid ht
  clear h9 hb ht hR
  refine (callsIn_wide (n := 4)).1 ?_
  refine callsIn_of_wp_marks Tryd.func22 rfl trivial ?_ rfl
  simp only [Tryd.ntmps22, List.size_toArray, List.length_cons, List.length_nil, Nat.reduceAdd, Nat.reduceSub, Array.replicate_succ, Array.replicate_zero, List.push_toArray, List.append_toArray, List.nil_append, List.cons_append]
  have hb1 : Below w.heap.size w (w.alloc (.cells (arrV F) 40)) := (Below.refl _ _).alloc (Nat.le_refl _) _
  have hg1 : (w.alloc (.cells (arrV F) 40)).heap[w.heap.size]? = some (.cells (arrV F) 40 (0, 0)) := World.alloc_heap_new _ _
  have hn1 := nine_new w F 40 HF.out
  have hs1 : (w.alloc (.cells (arrV F) 40)).heap.size = w.heap.size + 1 := by simp
  gi_wp2_with fail
  refine ⟨trivial, ?_⟩
  gi_at_call 35
  refine (callsIn_wide.2 (backward_made _ _ _ _)).mono ?_
  rintro e w2 ⟨rfl, rfl⟩
  gi_wp2_with fail
  generalize w.alloc (.cells (arrV F) 40) = V1 at *
  have hI2 := Lib.IsBuilderF.of (Lib.fresh_isBuilder 58 5 V1)
  have hk2 := cells_below (show Below V1.heap.size V1 (V1.alloc (.cells #[.pointer none, .slice none 0 0] 58)) from (Below.refl _ _).alloc (Nat.le_refl _) _)
  have hs2 : (V1.alloc (.cells #[.pointer none, .slice none 0 0] 58)).heap.size = w.heap.size + 2 := by simp [hs1]
  have hb2 := hb1.alloc (by omega) (.cells #[.pointer none, .slice none 0 0] 58)
  rw [hs1] at hI2
  generalize V1.alloc (.cells #[.pointer none, .slice none 0 0] 58) = V2 at *
  have hg2 := (hk2 _ _ _ _ hg1).trans hg1
  have hk3 := cells_below (show Below V2.heap.size V2 (V2.alloc (.cells #[.slice (some ⟨w.heap.size, 0, none⟩) 9 9] 24)) from (Below.refl _ _).alloc (Nat.le_refl _) _)
  have hbx3 : (V2.alloc (.cells #[.slice (some ⟨w.heap.size, 0, none⟩) 9 9] 24)).heap[V2.heap.size]? = _ := World.alloc_heap_new _ _
  have hb3 := hb2.alloc (by omega) (.cells #[.slice (some ⟨w.heap.size, 0, none⟩) 9 9] 24)
  have hs3 : (V2.alloc (.cells #[.slice (some ⟨w.heap.size, 0, none⟩) 9 9] 24)).heap.size = w.heap.size + 3 := by simp [hs2]
  rw [hs2] at hbx3
  generalize V2.alloc (.cells #[.slice (some ⟨w.heap.size, 0, none⟩) 9 9] 24) = W6 at *
  have hI3 := bld_same hI2 hk3
  have hg3 := (hk3 _ _ _ _ hg2).trans hg2
  have hTI : TI w F [] W6 := ⟨[], hI3, hb3, by simp, by simp, hg3, hbx3⟩
  have HTI := Lib.hid hTI
  clear hI2 hI3 hk2 hk3 hg1 hg2 hg3 hbx3 hb1 hb2 hn1 hs1 hs2 hTI
  refine wpIn_rangeBb (F := Fence.wide) (n := 4) (P := Tryd.prog) (w := W6) rfl (by omega) (gf := 49) (ba := #[]) (lb := #[.pointer (some ⟨w.heap.size + 2, 0, none⟩)]) rfl trivial (enters_of Tryd.func49 (by kernel_rfl) rfl)
    (backward_by 3 (by omega) w.heap.size (w.heap.size + 2) 9 F (by have := HF.out; omega)) (fun _ => rfl)
    (TI w F) (fun _ _ => False) (fun x => { tmps := #[.agg (arrV F), .pointer (some ⟨w.heap.size, 0, none⟩), .string ⟨#[]⟩, .pointer (some ⟨w.heap.size + 1, 0, none⟩), .int .i64 x.1, .int .i64 x.2, .slice (some ⟨w.heap.size, 0, none⟩) 9 9, .func (.func 49) #[] #[.pointer (some ⟨w.heap.size + 2, 0, none⟩)], .int .i64 x.1, .int .i64 x.2, undef, undef, undef, undef, undef, undef, undef, undef, undef, undef, undef, undef, undef, undef, undef, undef], defers := [] })
    ?ip ?xp ?fp ?fq ?ft ?is ?xs ?sk ?h0 ?s0 ?assign ?body ?done ?stop
  case ip => intro pre W k o o' h hk ho hc; exact ti_same h (cells_put ho hc) (below_putB (by obtain ⟨_, _, h2, _⟩ := h; exact h2) (by omega))
  case xp => intro _ _ _ _ _ h; exact h.elim
  case fp => intro A W k o o' hf hk ho hc; exact frD_put hf (by omega) (by omega)
  case fq => intro W k o o' hk ho hc; exact frD_put (frD_refl W) (by omega) (by omega)
  case ft => intro A B C h k; exact frD_trans h k
  case is => intro pre A B h hs; exact ti_same h (cells_below hs) (by obtain ⟨_, _, h2, _⟩ := h; exact h2.trans (hs.mono h2.size))
  case xs => intro _ _ _ h; exact h.elim
  case sk => intro A B k o hs hk ho hc; exact (hs.block k (Array.getElem?_eq_some_iff.1 ho).1).trans ho
  case h0 =>
    intro o o'
    have h1 := (hb3.alloc (by omega) o)
    refine ti_same (ti_same HTI.out (cells_below (show Below W6.heap.size W6 (W6.alloc o) from (Below.refl _ _).alloc (Nat.le_refl _) _)) h1) (cells_below (show Below (W6.alloc o).heap.size (W6.alloc o) ((W6.alloc o).alloc o') from (Below.refl _ _).alloc (Nat.le_refl _) _)) (h1.alloc (by simp; omega) o')
  case s0 =>
    intro o o'
    have h1 := (hb3.alloc (by omega) o)
    obtain ⟨_, _, _, _, _, g1, g2⟩ := ti_same (ti_same HTI.out (cells_below (show Below W6.heap.size W6 (W6.alloc o) from (Below.refl _ _).alloc (Nat.le_refl _) _)) h1) (cells_below (show Below (W6.alloc o).heap.size (W6.alloc o) ((W6.alloc o).alloc o') from (Below.refl _ _).alloc (Nat.le_refl _) _)) (h1.alloc (by simp; omega) o')
    refine ⟨by rw [HF.out]; exact g2, fun k hk => ?_⟩
    rw [HF.out] at hk
    rw [cell_of_row _ _ _ _ _ _ g1, arrV_get (by rw [HF.out]; exact hk)]
  case assign =>
    intro lp x W K hK
    gi_wp2
    exact hK
  case body =>
    rintro lp pre x W hsp ⟨acc, hI, hbel, hlen, hacc, hg, hbx⟩
    obtain ⟨hk, hx⟩ := bk_last hsp
    rw [HF.out] at hk hx
    obtain ⟨m, hm⟩ : ∃ m, m + pre.length = 8 := ⟨8 - pre.length, by omega⟩
    rw [show 9 - 1 - pre.length = m by omega] at hx
    subst hx
    have hrest : restT F (decide (acc = [])) (9 - pre.length) = if F.getD m 0 = 0 then restT F (decide (acc = [])) m else termT (decide (acc = [])) (F.getD m 0) m ++ restT F false m := by
      rw [show 9 - pre.length = m + 1 by omega]; rfl
    have HL2 := Lib.hid (show (pre ++ [(m, F.getD m 0)]).length = pre.length + 1 by simp)
    have HN2 := Lib.hid (show 9 - (pre ++ [(m, F.getD m 0)]).length = m by simp; omega)
    obtain ⟨cb0, cb1⟩ := HBD.out m
    rw [hrest] at hacc
    clear hrest hsp
    obtain ⟨c, hc⟩ : ∃ c, F.getD m 0 = c := ⟨_, rfl⟩
    rw [hc] at hacc cb0 cb1 HL2 HN2 ⊢
    clear hc
    have HACC := Lib.hid hacc
    have HI := Lib.hid hI
    have HBEL := Lib.hid hbel
    have HGX := Lib.hid (And.intro hg hbx)
    have hlen2 : acc.length ≤ 360 := by omega
    have hwle := hbel.size
    have hblt : w.heap.size + 1 ≤ W.heap.size := by
      obtain ⟨_, _, _, hbc⟩ := bld_cells hI
      have := (Array.getElem?_eq_some_iff.1 hbc).1; omega
    clear hacc hI hbel hg hbx
    by_cases h0 : c = 0
    · subst h0
      have hac : acc ++ restT F (decide (acc = [])) m = restT F true 9 := by have := HACC.out; rwa [if_pos rfl] at this
      have HAC := Lib.hid hac
      clear hac
      gi_wp2_with fail
      exact ⟨KeepsOthers.refl _, frD_refl _, acc, HI.out, HBEL.out, by rw [HL2.out]; omega, by rw [HN2.out]; exact HAC.out, HGX.out.1, HGX.out.2⟩
    · have hac : acc ++ termT (decide (acc = [])) c m ++ restT F false m = restT F true 9 := by
        have := HACC.out
        rwa [if_neg h0, ← List.append_assoc] at this
      rw [← plus_term h0] at hac
      have HAC := Lib.hid hac
      have HTL := Lib.hid (term_len true cb0 cb1 (show m ≤ 8 by omega))
      have HT1 := Lib.hid fun (W1 : World) (h : Tab W1) => termText_any c m W1 cb0 cb1 (by omega) h
      clear hac HACC
      have h0' : (c == 0) = false := by simpa using h0
      by_cases hneg : c < 0
      · have hng : ¬ 0 < c := by omega
        rw [if_neg (by omega), List.append_nil] at HAC
        clear h0
        gi_wp2_with fail
        refine ⟨trivial, ?_⟩
        gi_wp2_with fail
        refine ⟨trivial, ?_⟩
        gi_at_call 39
        refine (CallsIn.inRound lp (callsIn_wide.2 (HT1.out W (tab_below HT.out HBEL.out (Nat.le_refl _))))).mono ?_
        rintro e W2 ⟨rfl, b2⟩
        have I2 := Lib.hid (bld_same HI.out (cells_below b2))
        have BEL2 := Lib.hid (HBEL.out.trans (b2.mono HBEL.out.size))
        have GX2 := Lib.hid (And.intro ((cells_below b2 _ _ _ _ HGX.out.1).trans HGX.out.1) ((cells_below b2 _ _ _ _ HGX.out.2).trans HGX.out.2))
        have KE2 := Lib.hid ((KeepsOthers.refl W).trans (keeps_belowB b2))
        have hw2 := b2.size
        clear b2
        gi_wp2_with fail
        refine ⟨trivial, ?_⟩
        gi_at_call 38
        refine (CallsIn.inRound lp (callsIn_wide.2 (writeString_any _ _ _ _ W2 I2.out (by rw [Lib.byteCells_length, bs_size]; have := HTL.out; simp; omega) (by omega)))).mono ?_
        rintro e W3 ⟨rfl, h3, b3, k3⟩
        have I3 := Lib.hid (show Lib.IsBuilderF 58 5 (w.heap.size + 1) (w.heap.size + 1) (Lib.byteCells (acc ++ termT true c m)) W3 by rw [bytes_add, ← str_bytes]; exact .inr h3)
        have BEL3 := Lib.hid (BEL2.out.trans (b3.mono (show w.heap.size ≤ w.heap.size + 1 by omega)))
        have GX3 := Lib.hid (And.intro (ok_block k3 GX2.out.1 (by omega) (by decide)) (ok_block k3 GX2.out.2 (by omega) (by decide)))
        have KE3 := Lib.hid (KE2.out.trans (ok_keeps k3 b3.size (bld_cells I2.out)))
        have FR3 := Lib.hid (show FrD w.heap.size (w.heap.size + 2) W W3 by
          rintro k (rfl | rfl)
          · rw [GX3.out.1, HGX.out.1]
          · rw [GX3.out.2, HGX.out.2])
        have HFL := Lib.hid (show (acc ++ termT true c m).length ≤ 40 * (pre ++ [(m, c)]).length by rw [HL2.out, List.length_append]; have := HTL.out; simp; omega)
        have HNE := Lib.hid (show decide (acc ++ termT true c m = []) = false by
          refine decide_eq_false ?_
          intro e
          exact piece_ne (term_piece true c m) (List.append_eq_nil_iff.1 e).2)
        clear h3 b3 k3
        gi_wp2_with fail
        exact ⟨KE3.out, FR3.out, acc ++ termT true c m, I3.out, BEL3.out, HFL.out, by rw [HN2.out, HNE.out]; exact HAC.out, GX3.out.1, GX3.out.2⟩
      · have hpos : 0 < c := by omega
        by_cases hac0 : acc = []
        · subst hac0
          rw [if_neg (by simp), List.append_nil] at HAC
          clear h0 hneg
          gi_wp2_with fail
          refine ⟨trivial, ?_⟩
          gi_at_call 36
          refine (CallsIn.inRound lp (callsIn_wide.2 (Tryd.Builder_Len_f _ _ _ W HI.out))).mono ?_
          rintro e W0 ⟨rfl, rfl⟩
          gi_wp2_with fail
          refine ⟨trivial, ?_⟩
          gi_at_call 39
          refine (CallsIn.inRound lp (callsIn_wide.2 (HT1.out W0 (tab_below HT.out HBEL.out (Nat.le_refl _))))).mono ?_
          rintro e W2 ⟨rfl, b2⟩
          have I2 := Lib.hid (bld_same HI.out (cells_below b2))
          have BEL2 := Lib.hid (HBEL.out.trans (b2.mono HBEL.out.size))
          have GX2 := Lib.hid (And.intro ((cells_below b2 _ _ _ _ HGX.out.1).trans HGX.out.1) ((cells_below b2 _ _ _ _ HGX.out.2).trans HGX.out.2))
          have KE2 := Lib.hid ((KeepsOthers.refl W0).trans (keeps_belowB b2))
          have hw2 := b2.size
          clear b2
          gi_wp2_with fail
          refine ⟨trivial, ?_⟩
          gi_at_call 38
          refine (CallsIn.inRound lp (callsIn_wide.2 (writeString_any _ _ _ _ W2 I2.out (by rw [Lib.byteCells_length, bs_size]; have := HTL.out; simp; omega) (by omega)))).mono ?_
          rintro e W3 ⟨rfl, h3, b3, k3⟩
          have I3 := Lib.hid (show Lib.IsBuilderF 58 5 (w.heap.size + 1) (w.heap.size + 1) (Lib.byteCells ([] ++ termT true c m)) W3 by rw [bytes_add, ← str_bytes]; exact .inr h3)
          have BEL3 := Lib.hid (BEL2.out.trans (b3.mono (show w.heap.size ≤ w.heap.size + 1 by omega)))
          have GX3 := Lib.hid (And.intro (ok_block k3 GX2.out.1 (by omega) (by decide)) (ok_block k3 GX2.out.2 (by omega) (by decide)))
          have KE3 := Lib.hid (KE2.out.trans (ok_keeps k3 b3.size (bld_cells I2.out)))
          have FR3 := Lib.hid (show FrD w.heap.size (w.heap.size + 2) W0 W3 by
            rintro k (rfl | rfl)
            · rw [GX3.out.1, HGX.out.1]
            · rw [GX3.out.2, HGX.out.2])
          have HFL := Lib.hid (show ([] ++ termT true c m).length ≤ 40 * (pre ++ [(m, c)]).length by rw [HL2.out, List.length_append]; have := HTL.out; simp; omega)
          have HNE := Lib.hid (show decide ([] ++ termT true c m = []) = false by
            refine decide_eq_false ?_
            intro e
            exact piece_ne (term_piece true c m) (List.append_eq_nil_iff.1 e).2)
          clear h3 b3 k3
          gi_wp2_with fail
          exact ⟨KE3.out, FR3.out, [] ++ termT true c m, I3.out, BEL3.out, HFL.out, by rw [HN2.out, HNE.out]; exact HAC.out, GX3.out.1, GX3.out.2⟩
        · have hal : 0 < acc.length := List.length_pos_iff.2 hac0
          rw [if_pos ⟨hpos, hac0⟩] at HAC
          have hlb : (0 : Int) < ((Lib.byteCells acc).length : Int) := by rw [Lib.byteCells_length]; omega
          clear h0 hneg hac0
          gi_wp2_with fail
          refine ⟨trivial, ?_⟩
          gi_at_call 36
          refine (CallsIn.inRound lp (callsIn_wide.2 (Tryd.Builder_Len_f _ _ _ W HI.out))).mono ?_
          rintro e W0 ⟨rfl, rfl⟩
          gi_wp2_with fail
          refine ⟨trivial, ?_⟩
          gi_at_call 37
          refine (CallsIn.inRound lp (callsIn_wide.2 (writeByte_any _ _ _ _ W0 HI.out (by rw [Lib.byteCells_length]; omega) hblt))).mono ?_
          rintro e W1 ⟨rfl, h1, b1, k1⟩
          have I1 := Lib.hid (show Lib.IsBuilderF 58 5 (w.heap.size + 1) (w.heap.size + 1) (Lib.byteCells (acc ++ [43])) W1 by rw [bytes_add]; exact .inr h1)
          have hbl1 : Below w.heap.size W0 W1 := b1.mono (by omega)
          have BEL1 := Lib.hid (HBEL.out.trans hbl1)
          have GX1 := Lib.hid (And.intro (ok_block k1 HGX.out.1 (by omega) (by decide)) (ok_block k1 HGX.out.2 (by omega) (by decide)))
          have KE1 := Lib.hid (ok_keeps k1 b1.size (bld_cells HI.out))
          have FR1 := Lib.hid (show FrD w.heap.size (w.heap.size + 2) W0 W1 by
            rintro k (rfl | rfl)
            · rw [GX1.out.1, HGX.out.1]
            · rw [GX1.out.2, HGX.out.2])
          have hw1 : W0.heap.size ≤ W1.heap.size := b1.size
          clear h1 b1 k1 hbl1 hlb
          gi_wp2_with fail
          refine ⟨trivial, ?_⟩
          gi_at_call 39
          refine (CallsIn.inRound lp (callsIn_wide.2 (HT1.out W1 (tab_below HT.out BEL1.out (Nat.le_refl _))))).mono ?_
          rintro e W2 ⟨rfl, b2⟩
          have I2 := Lib.hid (bld_same I1.out (cells_below b2))
          have BEL2 := Lib.hid (BEL1.out.trans (b2.mono BEL1.out.size))
          have GX2 := Lib.hid (And.intro ((cells_below b2 _ _ _ _ GX1.out.1).trans GX1.out.1) ((cells_below b2 _ _ _ _ GX1.out.2).trans GX1.out.2))
          have KE2 := Lib.hid (KE1.out.trans (keeps_belowB b2))
          have hw2 := b2.size
          clear b2
          gi_wp2_with fail
          refine ⟨trivial, ?_⟩
          gi_at_call 38
          refine (CallsIn.inRound lp (callsIn_wide.2 (writeString_any _ _ _ _ W2 I2.out (by rw [Lib.byteCells_length, bs_size]; have := HTL.out; simp; omega) (by omega)))).mono ?_
          rintro e W3 ⟨rfl, h3, b3, k3⟩
          have I3 := Lib.hid (show Lib.IsBuilderF 58 5 (w.heap.size + 1) (w.heap.size + 1) (Lib.byteCells ((acc ++ [43]) ++ termT true c m)) W3 by rw [bytes_add, ← str_bytes]; exact .inr h3)
          have BEL3 := Lib.hid (BEL2.out.trans (b3.mono (show w.heap.size ≤ w.heap.size + 1 by omega)))
          have GX3 := Lib.hid (And.intro (ok_block k3 GX2.out.1 (by omega) (by decide)) (ok_block k3 GX2.out.2 (by omega) (by decide)))
          have KE3 := Lib.hid (KE2.out.trans (ok_keeps k3 b3.size (bld_cells I2.out)))
          have FR3 := Lib.hid (show FrD w.heap.size (w.heap.size + 2) W0 W3 by
            rintro k (rfl | rfl)
            · rw [GX3.out.1, HGX.out.1]
            · rw [GX3.out.2, HGX.out.2])
          have HFL := Lib.hid (show ((acc ++ [43]) ++ termT true c m).length ≤ 40 * (pre ++ [(m, c)]).length by rw [HL2.out, List.length_append]; have := HTL.out; simp; omega)
          have HNE := Lib.hid (show decide ((acc ++ [43]) ++ termT true c m = []) = false by
            refine decide_eq_false ?_
            intro e
            exact piece_ne (term_piece true c m) (List.append_eq_nil_iff.1 e).2)
          clear h3 b3 k3
          gi_wp2_with fail
          exact ⟨KE3.out, FR3.out, (acc ++ [43]) ++ termT true c m, I3.out, BEL3.out, HFL.out, by rw [HN2.out, HNE.out]; exact HAC.out, GX3.out.1, GX3.out.2⟩
  case done =>
    rintro D xs W hD rfl ⟨acc, hI, hbel, hlen, hacc, hg, hbx⟩ hKD
    have he : acc = restT F true 9 := by
      have h2 : 9 - (bk F F.length).length = 0 := by rw [bk_length, HF.out]
      rw [h2] at hacc
      simpa [restT] using hacc
    have hDw : w.heap.size ≤ D := by omega
    have hblt : w.heap.size + 1 ≤ W.heap.size := by
      obtain ⟨_, _, _, hbc⟩ := bld_cells hI
      have := (Array.getElem?_eq_some_iff.1 hbc).1; omega
    have HE := Lib.hid he
    have HBE := Lib.hid hbel
    have HII := Lib.hid hI
    clear hacc hlen hg hbx he hbel hI
    by_cases h0 : acc = []
    · subst h0
      gi_wp2_with fail
      refine ⟨trivial, ?_⟩
      gi_at_call 36
      refine (callsIn_wide.2 (Tryd.Builder_Len_f _ _ _ W HII.out)).mono ?_
      rintro e W0 ⟨rfl, rfl⟩
      gi_wp2_with fail
      refine ⟨by simp, .inl ⟨_, _, rfl, run_takeDeferred hKD, ?_⟩⟩
      refine ⟨.string ⟨#[48]⟩, by simp [results, Tryd.results22, go_sem], ?_⟩
      exact ⟨ret_str6 (by rw [← HR.out, ← HE.out, if_pos rfl]; rfl), below_putB HBE.out hDw⟩
    · have hal : 0 < acc.length := List.length_pos_iff.2 h0
      have hlb : (((Lib.byteCells acc).length : Int) == 0) = false := by rw [Lib.byteCells_length]; simp; omega
      gi_wp2_with fail
      refine ⟨trivial, ?_⟩
      gi_at_call 36
      refine (callsIn_wide.2 (Tryd.Builder_Len_f _ _ _ W HII.out)).mono ?_
      rintro e W0 ⟨rfl, rfl⟩
      gi_wp2_with fail
      refine ⟨trivial, ?_⟩
      gi_at_call 40
      refine (callsIn_wide.2 (Tryd.Builder_String_any_k _ _ acc W0 HII.out hblt)).mono ?_
      rintro e W1 ⟨rfl, _, b1, k1⟩
      have hKD1 : W1.heap[D]? = some (.deferred (some [])) := k1 D _ hKD (by intro e; cases e; obtain ⟨_, _, _, hbc⟩ := bld_cells HII.out; rw [hKD] at hbc; cases hbc) (by intro c fz e; cases e)
      have HB1 := HBE.out.trans (b1.mono (show w.heap.size ≤ w.heap.size + 1 by omega))
      clear k1 b1
      gi_wp2_with fail
      refine ⟨by simp, .inl ⟨_, _, rfl, run_takeDeferred hKD1, ?_⟩⟩
      refine ⟨.string ⟨acc.toArray⟩, by simp [results, Tryd.results22, go_sem], ?_⟩
      exact ⟨ret_str6 (by rw [← HR.out, ← HE.out, if_neg h0]; rfl), below_putB HB1 hDw⟩
  case stop => intro _ _ _ _ _ h; exact h.elim
theorem bs_ne {l : List UInt8} (h : l ≠ []) : ((bsOf l).toList == (⟨#[]⟩ : ByteArray).toList) = false := str_ne (by intro e; apply h; have := congrArg (fun x : ByteArray => x.data.toList) e; simpa [bsOf] using this)
theorem empty_toList : (⟨#[]⟩ : ByteArray).toList = [] := ByteArray.toList_eq _
theorem be_t : (bsOf ([] : List UInt8)).toList.isEmpty = true := by rw [show bsOf ([] : List UInt8) = ⟨#[]⟩ from rfl, empty_toList]; rfl
theorem be_f {l : List UInt8} (h : l ≠ []) : (bsOf l).toList.isEmpty = false := by
  cases hh : (bsOf l).toList.isEmpty
  · rfl
  · have e := List.isEmpty_iff.1 hh
    have h2 := bs_ne h
    rw [e, empty_toList] at h2
    cases h2
theorem polyT_pad {f : List Int} (h : f.length ≤ 9) : (if restT (padL f) true 9 = [] then [48] else restT (padL f) true 9) = polyT f := by
  unfold polyT
  rw [rest_same (padL_getD h), rest_nine h]
def ptQ (f : List Int) : List UInt8 := if polyB f then polyT f else []
def ptC (f : List Int) : Int := if polyB f then 0 else 1
theorem implPText_any {o : Option Addr} {n c : Nat} {f : List Int} {w : World} (h : Seen w o n c f) (ht : Tab w) :
    Calls Tryd.prog 8 #[.slice o n c] w fun e w' => e = .returned (.tuple #[.string (bsOf (ptQ f)), .int .i64 (ptC f)]) ∧ Below w.heap.size w w' := by
  have HS := Lib.hid h
  cases hp : polyB f
  · rw [show ptQ f = [] by simp [ptQ, hp], show ptC f = 1 by simp [ptC, hp]]
    clear h
    go_enter Tryd.func8, Tryd.ntmps8
    go_wp2_with fail
    refine (implIsPoly_any HS.out).mono ?_
    rw [hp]
    rintro e w2 ⟨rfl, rfl⟩
    go_wp2_with fail
    go_ret2
    exact ⟨rfl, Below.refl _ _⟩
  · obtain ⟨h9, hb, _⟩ := polyB_of hp
    have hn9 : n ≤ 9 := by rw [h.1]; exact h9
    rw [show ptQ f = polyT f by simp [ptQ, hp], show ptC f = 0 by simp [ptC, hp], ← polyT_pad h9]
    have HTX := Lib.hid fun (w : World) (h : Tab w) => text6_any w (padL_length f) (pad_bd hp) h
    have HT := Lib.hid ht
    generalize (if restT (padL f) true 9 = [] then [48] else restT (padL f) true 9) = tt at *
    clear h h9 hb ht
    go_enter Tryd.func8, Tryd.ntmps8
    go_wp2_with fail
    refine (implIsPoly_any HS.out).mono ?_
    rw [hp]
    rintro e w2 ⟨rfl, rfl⟩
    go_wp2_with fail
    refine (coefOf_any HS.out hn9).mono ?_
    rintro e w1 ⟨rfl, b1⟩
    go_wp2_with fail
    refine (HTX.out w1 (tab_below HT.out b1 (Nat.le_refl _))).mono ?_
    rintro e w2 ⟨rfl, b2⟩
    go_wp2_with fail
    go_ret2
    exact ⟨rfl, b1.trans (b2.mono b1.size)⟩
end Go.Proofs.YtcennddgbpkclaaDoor
