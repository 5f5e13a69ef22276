/- Matrices: rows of int64 in rows of the call's own memory; the laws' functions that compare, mark and look at them. -/
import Derived.Test.YtbolmmgkmgmfeaaPolyLaw0
import Derived.Lib.OwnKind
import Derived.OneCell
namespace Go.Proofs.Ytbolmmgkmgmfeaa
open Go.RowKit
set_option linter.unusedVariables false
set_option linter.unusedSimpArgs false
set_option maxRecDepth 20000
def rowV (N g : Nat) : Value := .slice (some ⟨g, 0, none⟩) N N
def lineAt (M : List (List Int)) (i : Nat) : List Int := M.getD i []
structure MatG (base : Nat) (w : World) (v : Value) (N : Nat) (G : List Nat) (M : List (List Int)) : Prop where
  len : G.length = M.length
  width : ∀ i, i < M.length → (lineAt M i).length = N
  row : ∀ i, i < M.length → IntRow base w (rowV N (G.getD i 0)) (lineAt M i)
  apart : ∀ i j, i < M.length → j < M.length → i ≠ j → G.getD i 0 ≠ G.getD j 0
  out : w.ownsRow base 37 1 v G.length (G.map (rowV N))
theorem matG_row_block {base : Nat} {w : World} {v : Value} {N : Nat} {G : List Nat} {M : List (List Int)} (h : MatG base w v N G M) {i : Nat} (hi : i < M.length) : base ≤ G.getD i 0 ∧ G.getD i 0 < w.heap.size :=
  World.ownsRow.lt (h.row i hi) _ rfl
theorem matG_out_ne {base : Nat} {w : World} {v : Value} {N : Nat} {G : List Nat} {M : List (List Int)} (h : MatG base w v N G M) {i : Nat} (hi : i < M.length) : v.ownBlock ≠ some (G.getD i 0) := by
  intro e
  obtain ⟨c, fz, h1⟩ := Go.Lib.ownsRow_kind h.out _ e
  obtain ⟨c', fz', h2⟩ := Go.Lib.ownsRow_kind (h.row i hi) (G.getD i 0) rfl
  rw [h1] at h2
  injection h2 with h2
  injection h2 with _ h3 _
  exact absurd h3 (by decide)
theorem matG_kept {base : Nat} {w w' : World} {v : Value} {N : Nat} {G : List Nat} {M : List (List Int)} {row : Option Nat} (h : MatG base w v N G M) (hg : w.grownBy w' row)
    (h1 : v.ownBlock = none ∨ v.ownBlock ≠ row) (h2 : ∀ i, i < M.length → some (G.getD i 0) ≠ row) : MatG base w' v N G M :=
  ⟨h.len, h.width, fun i hi => World.ownsRow.kept (h.row i hi) hg (.inr (h2 i hi)), h.apart, World.ownsRow.kept h.out hg h1⟩
theorem matG_below {base : Nat} {w w' : World} {v : Value} {N : Nat} {G : List Nat} {M : List (List Int)} (h : MatG base w v N G M) (hb : Below w.heap.size w w') : MatG base w' v N G M :=
  ⟨h.len, h.width, fun i hi => row_below (h.row i hi) hb (Nat.le_refl _), h.apart, row_below h.out hb (Nat.le_refl _)⟩
theorem matG_none {base : Nat} {w w' : World} {v : Value} {N : Nat} {G : List Nat} {M : List (List Int)} (h : MatG base w v N G M) (hg : w.grownBy w' none) : MatG base w' v N G M :=
  matG_kept h hg (by cases hv : v.ownBlock with | none => exact .inl rfl | some k => exact .inr (by simp)) (fun i hi => by simp)
/-- what a store into an old block leaves -/
theorem matG_old {base k : Nat} {w w' : World} {v : Value} {N : Nat} {G : List Nat} {M : List (List Int)} (h : MatG base w v N G M) (hg : w.grownBy w' (some k)) (hk : k < base) : MatG base w' v N G M := by
  refine matG_kept h hg ?_ (fun i hi e => by injection e with e; have := (matG_row_block h hi).1; omega)
  cases hv : v.ownBlock with
  | none => exact .inl rfl
  | some b => right; intro e; injection e with e; have := (World.ownsRow.lt h.out b hv).1; omega
/-- what a store into a younger block leaves -/
theorem matG_young {base k : Nat} {w0 w w' : World} {v : Value} {N : Nat} {G : List Nat} {M : List (List Int)} (h0 : MatG base w0 v N G M) (h : MatG base w v N G M) (hg : w.grownBy w' (some k)) (hk : w0.heap.size ≤ k) : MatG base w' v N G M := by
  refine matG_kept h hg ?_ (fun i hi e => by injection e with e; have := (matG_row_block h0 hi).2; omega)
  cases hv : v.ownBlock with
  | none => exact .inl rfl
  | some b => right; intro e; injection e with e; have := (World.ownsRow.lt h0.out b hv).2; omega
theorem matG_nil (base : Nat) (w : World) (N : Nat) : MatG base w (.slice none 0 0) N [] [] :=
  ⟨rfl, fun i h => absurd h (Nat.not_lt_zero _), fun i h => absurd h (Nat.not_lt_zero _), fun i j h => absurd h (Nat.not_lt_zero _), World.ownsRow_nil _ _ _ _⟩
theorem matG_shape {base : Nat} {w : World} {v : Value} {N : Nat} {G : List Nat} {M : List (List Int)} (h : MatG base w v N G M) : ∃ o c, v = .slice o M.length c ∧ ∀ i, i < M.length → ∃ b, o = some ⟨b, 0, none⟩ ∧ w.cell? ⟨b, i, none⟩ = some (rowV N (G.getD i 0)) := by
  have ho := h.out
  rcases row_shape ho with ⟨h0, o, c, rfl⟩ | ⟨h0, b, c, rfl, _, _⟩
  · rw [h.len] at h0
    exact ⟨o, c, by rw [h0], fun i hi => by omega⟩
  · refine ⟨_, c, by rw [h.len], fun i hi => ⟨b, rfl, ?_⟩⟩
    have hi' : i < G.length := by rw [h.len]; exact hi
    rw [World.ownsRow.cellAt ho i (by omega)]
    simp [List.getD, hi']
theorem drewN_row {b : Nat} {w : World} {v : Value} {l : List Int} (h : IntRow b w v l) (nd : Nat) : IntRow b (w.drewN nd) v l := h
set_option maxHeartbeats 1000000 in
theorem eqSS_same {b1 b2 : Nat} {w : World} {v1 v2 : Value} {N1 N2 : Nat} {G1 G2 : List Nat} {M : List (List Int)} (h1 : MatG b1 w v1 N1 G1 M) (h2 : MatG b2 w v2 N2 G2 M) (hl : M.length ≤ 1000) (hn : N1 ≤ 1000) :
    Calls Try.prog 33 #[v1, v2] w fun e w' => e = .returned (.bool true) ∧ ∃ m, w' = w.drewN m := by
  obtain ⟨o1, c1, rfl, k1⟩ := matG_shape h1
  obtain ⟨o2, c2, rfl, k2⟩ := matG_shape h2
  have HK1 := Lib.hid k1
  have HK2 := Lib.hid k2
  have HQ := Lib.hid fun (i : Nat) (hi : i < M.length) (nd n : Nat) => (eqInt_same (w := w.drewN (nd + n)) (drewN_row (h1.row i hi) (nd + n)) (drewN_row (h2.row i hi) (nd + n)) (by rw [h1.width i hi]; omega)).mono fun e w' h => show e = .returned (.bool true) ∧ ∃ m, w' = w.drewN (nd + m) from ⟨h.1, by obtain ⟨_, m, hm⟩ := h; exact ⟨n + m, by rw [hm, World.drewN_drewN, Nat.add_assoc]⟩⟩
  clear h1 h2 k1 k2
  generalize M.length = n at *
  go_enter Try.func33, Try.ntmps33
  go_wp2_with fail
  go_loopw [5] (fun i wr => ∃ k : Nat, k ≤ n ∧ i = .int .i64 k ∧ ∃ nd, wr = w.drewN nd) (fun i _ => n - (intOf i).toNat)
  case atStart => exact ⟨0, Nat.zero_le _, rfl, 0, rfl⟩
  case round =>
    obtain ⟨k, hk, rfl, nd, rfl⟩ := hrel
    by_cases hlt : k < n
    · obtain ⟨g1, rfl, a1⟩ := HK1.out k hlt
      obtain ⟨g2, rfl, a2⟩ := HK2.out k hlt
      have HC := Lib.hid (HQ.out k hlt)
      unfold rowV at a1 a2 HC
      generalize G1.getD k 0 = x1 at *
      generalize G2.getD k 0 = x2 at *
      go_wp2_with fail
      go_quiet ((go_at_call 30; exact HC.out _ _))
      go_wp2_with fail
      go_roundw
      case rel => exact ⟨k + 1, by omega, by go_num, nd + nq, by first | rfl | rw [World.drewN_drewN]⟩
      case measure => simp [intOf]; omega
    · go_wp2_with fail
      go_ret
      exact ⟨rfl, nd, rfl⟩
/-! marks -/
def MarkedM (w : World) (v : Value) (N n : Nat) (G : List Nat) (q : Int) : Prop :=
  ∃ o c, v = .slice o n c ∧ (∀ i, i < n → ∃ b, o = some ⟨b, 0, none⟩ ∧ w.cell? ⟨b, i, none⟩ = some (rowV N (G.getD i 0)) ∧ b < w.heap.size) ∧
    ∀ i, i < n → MarkedRow w (rowV N (G.getD i 0)) N 1 (q + (i : Int) * (N : Int)) ∧ G.getD i 0 < w.heap.size
theorem markedM_below {w w' : World} {v : Value} {N n : Nat} {G : List Nat} {q : Int} (h : MarkedM w v N n G q) (hb : Below w.heap.size w w') : MarkedM w' v N n G q := by
  obtain ⟨o, c, rfl, h1, h2⟩ := h
  have hs := hb.size
  refine ⟨o, c, rfl, fun i hi => ?_, fun i hi => ⟨marked_below (h2 i hi).1 hb (Nat.le_refl _), by have := (h2 i hi).2; omega⟩⟩
  obtain ⟨b, rfl, hc, hlt⟩ := h1 i hi
  exact ⟨b, rfl, by rw [hb.cell (p := ⟨b, i, none⟩) hlt]; exact hc, by omega⟩
theorem marked_kept {w w' : World} {g N n : Nat} {q : Int} {row : Option Nat} (h : MarkedRow w (rowV N g) n 1 q) (hlt : g < w.heap.size) (hg : w.grownBy w' row) (hne : some g ≠ row) : MarkedRow w' (rowV N g) n 1 q := by
  rcases h with h | ⟨g', c, e, hlt', hc⟩
  · exact .inl h
  · unfold rowV at e
    injection e with e1 e2 e3
    injection e1 with e1
    injection e1 with e1
    subst e1 e2 e3
    have hb : w'.heap[g]? = w.heap[g]? := hg.block g hlt' hne
    refine .inr ⟨g, N, rfl, by have := hg.size; omega, fun o ho => ?_⟩
    rw [World.cell?_of_block (w := w) (a := ⟨g, o, none⟩) hb]; exact hc o ho
theorem mul_grow (i N : Nat) : ((i + 1 : Nat) : Int) * (N : Int) = (i : Int) * (N : Int) + (N : Int) := by rw [Int.natCast_add, Int.add_mul]; omega
/-- the rows below k are marked, the others stand -/
structure HalfM (base : Nat) (w0 w : World) (v : Value) (N : Nat) (G : List Nat) (M : List (List Int)) (q : Int) (k : Nat) : Prop where
  done : ∀ i, i < k → MarkedRow w (rowV N (G.getD i 0)) N 1 (q + (i : Int) * (N : Int)) ∧ G.getD i 0 < w.heap.size
  rest : ∀ i, k ≤ i → i < M.length → IntRow base w (rowV N (G.getD i 0)) (lineAt M i)
  out : w.ownsRow base 37 1 v G.length (G.map (rowV N))
  size : w0.heap.size ≤ w.heap.size
  other : ∀ b, b < w0.heap.size → v.ownBlock ≠ some b → (∀ i, i < M.length → G.getD i 0 ≠ b) → w.heap[b]? = w0.heap[b]?
  os : w.os = w0.os
  tape : w.tape = w0.tape
  output : w.output = w0.output
theorem half_start {base : Nat} {w : World} {v : Value} {N : Nat} {G : List Nat} {M : List (List Int)} (q : Int) (h : MatG base w v N G M) : HalfM base w w v N G M q 0 :=
  ⟨fun i hi => absurd hi (Nat.not_lt_zero _), fun i _ hi => h.row i hi, h.out, Nat.le_refl _, fun _ _ _ _ => rfl, rfl, rfl, rfl⟩
theorem half_step {base : Nat} {w0 w w' : World} {v : Value} {N : Nat} {G : List Nat} {M : List (List Int)} {q : Int} {k : Nat} (h0 : MatG base w0 v N G M) (h : HalfM base w0 w v N G M q k) (hk : k < M.length)
    (hm : MarkedRow w' (rowV N (G.getD k 0)) N 1 (q + (k : Int) * (N : Int))) (hg : w.grownBy w' (some (G.getD k 0))) : HalfM base w0 w' v N G M q (k + 1) := by
  have hb0 := matG_row_block h0 hk
  refine ⟨fun i hi => ?_, fun i hi hiM => ?_, ?_, Nat.le_trans h.size hg.size, fun b hb h1 h2 => ?_, hg.os.trans h.os, hg.tape.trans h.tape, hg.output.trans h.output⟩
  · by_cases e : i = k
    · subst e; exact ⟨hm, by have := hg.size; have := h.size; omega⟩
    · have := h.done i (by omega)
      refine ⟨marked_kept this.1 this.2 hg ?_, by have := hg.size; omega⟩
      intro e2; injection e2 with e2
      exact h0.apart i k (by omega) hk e e2
  · refine World.ownsRow.kept (h.rest i (by omega) hiM) hg (.inr ?_)
    intro e2; injection e2 with e2
    exact h0.apart i k hiM hk (by omega) e2
  · refine World.ownsRow.kept h.out hg ?_
    cases hv : v.ownBlock with
    | none => exact .inl rfl
    | some b =>
      right
      intro e2
      exact matG_out_ne h0 hk (by rw [hv]; exact e2)
  · rw [hg.block b (by have := h.size; omega) (by intro e2; injection e2 with e2; exact h2 k hk e2.symm)]
    exact h.other b hb h1 h2
theorem half_end {base : Nat} {w0 w : World} {v : Value} {N : Nat} {G : List Nat} {M : List (List Int)} {q : Int} (h0 : MatG base w0 v N G M) (h : HalfM base w0 w v N G M q M.length) (hB : base ≤ w0.heap.size) : MarkedM w v N M.length G q ∧ Below base w0 w := by
  have hs := matG_shape (w := w0) h0
  obtain ⟨o, c, e, hc⟩ := hs
  refine ⟨⟨o, c, e, fun i hi => ?_, h.done⟩, ⟨h.os, h.tape, h.output, h.size, fun b hb => ?_⟩⟩
  · obtain ⟨b, e1, _⟩ := hc i hi
    subst e1 e
    have hi' : i < G.length := by rw [h0.len]; exact hi
    have ho := h.out
    have hl := World.ownsRow.lt ho b rfl
    refine ⟨b, rfl, ?_, hl.2⟩
    have e4 : (Value.slice (some ⟨b, 0, none⟩) M.length c) = .slice (some ⟨b, 0, none⟩) G.length c := by rw [h0.len]
    rw [e4] at ho
    rw [World.ownsRow.cellAt ho i (by omega)]
    simp [List.getD, hi']
  · refine h.other b (by omega) ?_ (fun i hi e2 => by have := (matG_row_block h0 hi).1; omega)
    intro e2
    have := (World.ownsRow.lt h0.out b e2).1; omega
set_option maxHeartbeats 1000000 in
theorem markSS {base : Nat} {w : World} {v : Value} {N : Nat} {G : List Nat} {M : List (List Int)} {q : Int} (h : MatG base w v N G M) (hB : base ≤ w.heap.size) (hl : M.length ≤ 1000) (hn : N ≤ 1000) (h0 : 0 ≤ q) (h1 : q ≤ 100000) :
    Calls Try.prog 35 #[v, .int .i64 q] w fun e w' => e = .returned (.int .i64 (q + (M.length : Int) * (N : Int))) ∧ MarkedM w' v N M.length G q ∧ Below base w w' := by
  have HH := Lib.hid h
  have HS := Lib.hid (half_start q h)
  obtain ⟨o, c, rfl, k1⟩ := matG_shape h
  have HK := Lib.hid k1
  clear h k1
  obtain ⟨n, hn2⟩ : ∃ n, M.length = n := ⟨_, rfl⟩
  have HN := Lib.hid hn2
  rw [hn2] at hl
  rw [show (Value.slice o M.length c) = .slice o n c by rw [hn2]]
  clear hn2
  go_enter Try.func35, Try.ntmps35
  go_wp2_with fail
  go_loopw [5, 1] (fun i m wr => ∃ (k : Nat) (x : Int), k ≤ n ∧ i = .int .i64 k ∧ m = .int .i64 x ∧ x = q + (k : Int) * (N : Int) ∧ HalfM base w wr (.slice o M.length c) N G M q k) (fun i _ _ => n - (intOf i).toNat)
  case atStart => exact ⟨0, q, Nat.zero_le _, rfl, rfl, by simp, HS.out⟩
  case round =>
    obtain ⟨k, x, hk, rfl, rfl, hx, hh⟩ := hrel
    have HW := Lib.hid hh
    clear hh
    by_cases hlt : k < n
    · have hkM : k < M.length := by have := HN.out; omega
      obtain ⟨b, rfl, _⟩ := HK.out k hkM
      have hcell : wr.cell? ⟨b, k, none⟩ = some (rowV N (G.getD k 0)) := by
        have ho := HW.out.out
        have hgl : G.length = M.length := HH.out.len
        have e4 : (Value.slice (some ⟨b, 0, none⟩) M.length c) = .slice (some ⟨b, 0, none⟩) G.length c := by rw [hgl]
        rw [e4] at ho
        rw [World.ownsRow.cellAt ho k (by omega)]
        simp [List.getD, show k < G.length by omega]
      have hw := HH.out.width k hkM
      have hkN : 0 ≤ (k : Int) * (N : Int) ∧ (k : Int) * (N : Int) ≤ 1000000 := by
        have p1 : k * N ≤ 1000 * 1000 := Nat.mul_le_mul (by omega) hn
        have : ((k * N : Nat) : Int) = (k : Int) * (N : Int) := by simp
        omega
      have HM := Lib.hid (markInt (q := x) (HW.out.rest k (Nat.le_refl _) hkM) (by omega) (by omega) (by omega))
      rw [hw] at HM
      have hstep := mul_grow k N
      have hx2 : x + (N : Int) = q + ((k + 1 : Nat) : Int) * (N : Int) := by rw [hstep]; omega
      have HX := Lib.hid (And.intro hx hx2)
      unfold rowV at hcell HM
      clear hw hkN hx hx2 hstep
      generalize hgk : G.getD k 0 = g at *
      go_wp2_with fail
      refine HM.out.mono ?_
      rintro e w7 ⟨rfl, hm7, hg7⟩
      have hg8 : wr.grownBy w7 (some (G.getD k 0)) := by rw [hgk]; exact hg7
      have hm8 : MarkedRow w7 (rowV N (G.getD k 0)) N 1 (q + (k : Int) * (N : Int)) := by rw [hgk, ← HX.out.1]; exact hm7
      have H8 := Lib.hid (half_step HH.out HW.out hkM hm8 hg8)
      clear hm7 hg7 hg8 hm8
      go_wp2_with fail
      exact ⟨⟨k + 1, x + (N : Int), by omega, by go_num, rfl, HX.out.2, H8.out⟩, by simp only [intOf]; omega⟩
    · have hkn : k = M.length := by have := HN.out; omega
      subst hkn
      obtain ⟨e1, e2⟩ := half_end HH.out HW.out hB
      go_wp2_with fail
      go_ret
      have e3 : MarkedM wr (.slice o n c) N M.length G q := by rw [show n = M.length from HN.out.symm]; exact e1
      exact ⟨congrArg (fun z => Ending.returned (.int .i64 z)) hx, e3, e2⟩
set_option maxHeartbeats 1000000 in
theorem heldSS {w : World} {v : Value} {N n : Nat} {G : List Nat} {q : Int} (h : MarkedM w v N n G q) (hl : n ≤ 1000) (hn : N ≤ 1000) (h0 : 0 ≤ q) (h1 : q ≤ 100000) :
    Calls Try.prog 36 #[v, .int .i64 q] w fun e w' => e = .returned (.int .i64 (q + (n : Int) * (N : Int))) ∧ ∃ m, w' = w.drewN m := by
  obtain ⟨o, c, rfl, k1, k2⟩ := h
  have HK := Lib.hid k1
  have HM := Lib.hid k2
  clear k1 k2
  go_enter Try.func36, Try.ntmps36
  go_wp2_with fail
  go_loopw [5, 1] (fun i m wr => ∃ (k : Nat) (x : Int), k ≤ n ∧ i = .int .i64 k ∧ m = .int .i64 x ∧ x = q + (k : Int) * (N : Int) ∧ ∃ nd, wr = w.drewN nd) (fun i _ _ => n - (intOf i).toNat)
  case atStart => exact ⟨0, q, Nat.zero_le _, rfl, rfl, by simp, 0, rfl⟩
  case round =>
    obtain ⟨k, x, hk, rfl, rfl, hx, nd, rfl⟩ := hrel
    by_cases hlt : k < n
    · obtain ⟨b, rfl, hcell, _⟩ := HK.out k hlt
      have hkN : 0 ≤ (k : Int) * (N : Int) ∧ (k : Int) * (N : Int) ≤ 1000000 := by
        have p1 : k * N ≤ 1000 * 1000 := Nat.mul_le_mul (by omega) hn
        have : ((k * N : Nat) : Int) = (k : Int) * (N : Int) := by simp
        omega
      have HR := Lib.hid (heldInt (w := w.drewN nd) (q := x) (by rw [hx]; exact (HM.out k hlt).1) (by omega) (by omega) (by omega))
      have hstep := mul_grow k N
      have HX := Lib.hid (show x + (N : Int) = q + ((k + 1 : Nat) : Int) * (N : Int) by rw [hstep]; omega)
      have hx0 : ¬ x + (N : Int) < 0 := by omega
      unfold rowV at hcell HR
      clear hkN hx hstep
      generalize G.getD k 0 = g at *
      go_wp2_with fail
      refine HR.out.mono ?_
      rintro e w7 ⟨rfl, m7, rfl⟩
      go_wp2_with fail
      exact ⟨⟨k + 1, x + (N : Int), by omega, by go_num, rfl, HX.out, nd + m7, by first | rfl | rw [World.drewN_drewN]⟩, by simp only [intOf]; omega⟩
    · have hkn : k = n := by omega
      subst hkn
      go_wp2_with fail
      go_ret
      exact ⟨congrArg (fun z => Ending.returned (.int .i64 z)) hx, nd, rfl⟩
end Go.Proofs.Ytbolmmgkmgmfeaa
