/- Proved here: the Go law FnExactReadPadic of this seat answers true for every text, whatever its length; the card ties the listed variables of Go's library (tables and the two errors of strconv) to the program's text. No further condition. (joined of several texts) -/
import Derived.Test.YtejgcamogjgdkaaGreatDoorDigSeq
import Derived.Test.YtejgcamogjgdkaaGreatDoorIntAid
import Derived.Shelf.Abstract
import Derived.Test.YtejgcamogjgdkaaGreatDoorDigMath
import Derived.StillTailTactics
import Derived.Test.YtejgcamogjgdkaaGreatDoorPadSpec2
import Derived.Test.YtejgcamogjgdkaaGreatDoorGcd
import Derived.Test.YtejgcamogjgdkaaGreatDoorTxtBase
import Derived.OrdersIn
import Derived.TacticsIn
import Derived.TacticsInMore
import Derived.KernelRfl
import Derived.Stop.RegionWithIn
import Derived.Deep.RegionWith
import Derived.Test.YtejgcamogjgdkaaGreatDoorPadSpec
import Derived.Test.YtejgcamogjgdkaaGreatDoorTxtSeq
import Derived.RangeFuncBox
import Derived.Test.YtejgcamogjgdkaaGreatDoorRows
import Derived.WalkKit
import Derived.ProofKit
import Derived.OpenShut
import Derived.Deep.DeepHandedRow
import Derived.Lib.LaidTab
import Derived.Stop.LaidErr
import Derived.Stop.Texts
import Derived.WideShapes
import Derived.HandedShaped
import Derived.Test.YtejgcamogjgdkaaGreatDoorCards
import Derived.Test.YtejgcamogjgdkaaGreatDoorTie
import Derived.ChangeOld
import Derived.ShutString
namespace Go.Proofs.YtejgcamogjgdkaaGreatDoor
open Go.RowKit Go.Shelf
attribute [local go_sem] Oper.semAt_some
set_option linter.unusedVariables false
/-- what both DigitsOf answer -/
def digsL (p v u n : Int) : List Int := if padB p v u n then digL p u n.toNat else []
/-- what holds at the head of each round: the box b holds the row of the digits so far -/
def DI (w : World) (b : Nat) (pre : List Int) (W : World) : Prop :=
  ∃ vl, Boxed W b 51 vl ∧ IntRow w.heap.size W vl pre ∧ Below w.heap.size w W
theorem di_put {w W : World} {b k : Nat} {pre : List Int} {o o' : Obj} (h : DI w b pre W) (hb : w.heap.size ≤ k) (hk : W.heap[k]? = some o) (ho : o.isCells = false) : DI w b pre (W.putObj k o') := by
  obtain ⟨vl, h1, h2, h3⟩ := h
  exact ⟨vl, boxed_putB h1 hk ho, ownsRow_putObj h2 _ hk ho, below_putB h3 hb⟩
theorem di_below {w A B : World} {b : Nat} {pre : List Int} (h : DI w b pre A) (hs : StU A B) : DI w b pre B := by
  obtain ⟨vl, h1, h2, h3⟩ := h
  exact ⟨vl, boxed_belowB h1 hs, row_below h2 hs (Nat.le_refl _), h3.trans (hs.mono h3.size)⟩
theorem digs_len {p v u n : Int} {pre : List Int} {x : Int} (h : POk p v u n) (hp : pre ++ [x] <+: digL p u n.toNat) : pre.length ≤ 28 := by
  have := hp.length_le
  rw [digL_length, List.length_append] at this
  have := (pok_bd h).2.2.2.1
  simp at *; omega
end Go.Proofs.YtejgcamogjgdkaaGreatDoor
namespace Go.Proofs.YtejgcamogjgdkaaGreatDoor
open Go.RowKit Go.Shelf
attribute [local go_sem] Oper.semAt_some
set_option linter.unusedVariables false
/-- what both SumOfDigits answer -/
def sumV (p v u n : Int) : Int := if padB p v u n then sumL (digL p u n.toNat) else 0
theorem fold_add_bd {p : Int} : ∀ (l : List Int) (a : Int), (∀ d ∈ l, 0 ≤ d ∧ d < p) → a ≤ l.foldl (· + ·) a ∧ l.foldl (· + ·) a ≤ a + p * l.length := by
  intro l
  induction l with
  | nil => intro a _; simp
  | cons d l ih =>
    intro a h
    obtain ⟨h1, h2⟩ := ih (a + d) fun x hx => h x (List.mem_cons_of_mem _ hx)
    obtain ⟨d0, d1⟩ := h d List.mem_cons_self
    rw [List.foldl_cons, List.length_cons]
    have e : p * ((l.length + 1 : Nat) : Int) = p * l.length + p := by rw [show ((l.length + 1 : Nat) : Int) = (l.length : Int) + 1 by omega, Int.mul_add, Int.mul_one]
    omega
theorem sumL_bd {p : Int} {l : List Int} (hp : p ≤ 97) (hl : l.length ≤ 40) (h : ∀ d ∈ l, 0 ≤ d ∧ d < p) : 0 ≤ sumL l ∧ sumL l ≤ 4000 := by
  obtain ⟨h1, h2⟩ := fold_add_bd (p := 97) l 0 fun d hd => ⟨(h d hd).1, by have := (h d hd).2; omega⟩
  exact ⟨h1, by unfold sumL; omega⟩
theorem sum_pre {p v u n x : Int} {pre : List Int} (h : POk p v u n) (hp : pre ++ [x] <+: digL p u n.toNat) : 0 ≤ sumL pre ∧ sumL pre ≤ 4000 ∧ 0 ≤ x ∧ x ≤ 97 := by
  have hl := digs_len h hp
  obtain ⟨hp2, hp97, _⟩ := pok_bd h
  have hm : ∀ d ∈ pre ++ [x], 0 ≤ d ∧ d < p := fun d hd => digL_bd hp2 (hp.subset hd)
  obtain ⟨a, b⟩ := sumL_bd hp97 (show pre.length ≤ 40 by omega) fun d hd => hm d (by simp [hd])
  obtain ⟨c, d⟩ := hm x (by simp)
  exact ⟨a, b, c, by omega⟩
def SI (w : World) (b : Nat) (pre : List Int) (W : World) : Prop := Boxed W b 2 (.int .i64 (sumL pre)) ∧ Below w.heap.size w W
theorem si_put {w W : World} {b k : Nat} {pre : List Int} {o o' : Obj} (h : SI w b pre W) (hb : w.heap.size ≤ k) (hk : W.heap[k]? = some o) (ho : o.isCells = false) : SI w b pre (W.putObj k o') :=
  ⟨boxed_putB h.1 hk ho, below_putB h.2 hb⟩
theorem si_below {w A B : World} {b : Nat} {pre : List Int} (h : SI w b pre A) (hs : StU A B) : SI w b pre B :=
  ⟨boxed_belowB h.1 hs, h.2.trans (hs.mono h.2.size)⟩
end Go.Proofs.YtejgcamogjgdkaaGreatDoor
namespace Go.Proofs.YtejgcamogjgdkaaGreatDoor
open Go.RowKit
set_option linter.unusedVariables false
set_option linter.unusedSimpArgs false
def splitC (p v u n : Int) : Int := if padB p v u n then (if v + n < 0 then 4 else 0) else 1
theorem split_zero {p v u n : Int} (h : splitC p v u n = 0) : POk p v u n ∧ 0 ≤ v + n := by
  unfold splitC at h
  split at h
  · rename_i hb
    split at h
    · omega
    · exact ⟨padB_ok hb, by omega⟩
  · omega
def wholeQ (p v u n : Int) : Q4 := if splitC p v u n = 0 then (if 0 ≤ v then (p, v, u, n) else (p, numT p 0 (u / pw p (-v)) (v + n))) else (0, 0, 0, 0)
def fracN (p v u n : Int) : Int := if splitC p v u n = 0 then (if 0 ≤ v then 0 else u % pw p (-v)) else 0
def fracD (p v u n : Int) : Int := if splitC p v u n = 0 then (if 0 ≤ v then 1 else pw p (-v)) else 0
/-- the power that divides a number into its parts -/
theorem part_facts {p v u n : Int} (h : POk p v u n) (he : 0 ≤ v + n) (hv : ¬ 0 ≤ v) :
    1 ≤ pw p (-v) ∧ pw p (-v) ≤ 1000000000 ∧ 0 ≤ u / pw p (-v) ∧ u / pw p (-v) ≤ 1000000000 ∧ u.tdiv (pw p (-v)) = u / pw p (-v) ∧ u.tmod (pw p (-v)) = u % pw p (-v) ∧ 0 ≤ u % pw p (-v) ∧ u % pw p (-v) ≤ 1000000000 ∧ 1 ≤ n := by
  obtain ⟨hp2, hp97, hn0, hn1, hm0, hm1, hu0, hu1, hu2⟩ := pok_bd h
  have hpart := pw_part (p := p) (n := n) (e := -v) hp2 hm1 (by omega)
  have a0 := Int.ediv_nonneg hu0 (show 0 ≤ pw p (-v) by omega)
  have a1 := Int.ediv_le_self (pw p (-v)) hu0
  have r0 := Int.emod_nonneg u (show pw p (-v) ≠ 0 by omega)
  have r1 := Int.emod_lt_of_pos u (show 0 < pw p (-v) by omega)
  exact ⟨hpart.1, hpart.2, a0, by omega, Int.tdiv_eq_ediv_of_nonneg hu0, tmod_nonneg hu0, r0, by omega, by omega⟩
theorem k2_drewN {w w1 : World} {a b : Array Value} (h : K2 w a b w1) (k : Nat) : K2 w a b (w1.drewN k) := ⟨below_drewN h.1 k, h.2⟩
/-- block 0 holds a number that is read -/
abbrev SZ (w : World) (p v u n : Int) (w1 : World) : Prop :=
  K1 w (P4 p v u n) w1 ∧ w1.cell? ⟨w.heap.size, 0, none⟩ = some (.int .i64 p) ∧ w1.cell? ⟨w.heap.size, 1, none⟩ = some (.int .i64 v) ∧ w1.cell? ⟨w.heap.size, 2, none⟩ = some (.int .i64 u) ∧ w1.cell? ⟨w.heap.size, 3, none⟩ = some (.int .i64 n)
theorem sz_of {w : World} {p v u n : Int} {w1 : World} (K : K1 w (P4 p v u n) w1) : SZ w p v u n w1 := by
  obtain ⟨c0, c1, c2, c3⟩ := lies_four K.2
  exact ⟨K, c0, c1, c2, c3⟩
theorem sz_next {w : World} {p v u n : Int} {w1 w2 : World} (h : SZ w p v u n w1) (hb : Below w1.heap.size w1 w2) : SZ w p v u n w2 := sz_of (k1_next h.1 hb)
theorem sz_set {w : World} {p v u n : Int} {w1 : World} (h : SZ w p v u n w1) (x0 x1 x2 x3 : Value) :
    SZ w p v u n ((((w1.setCell ⟨w.heap.size + 1, 0, none⟩ x0).setCell ⟨w.heap.size + 1, 1, none⟩ x1).setCell ⟨w.heap.size + 1, 2, none⟩ x2).setCell ⟨w.heap.size + 1, 3, none⟩ x3) :=
  sz_of ⟨below_set4 h.1.1 (by omega), lies_other4 h.1.2 (by omega)⟩
theorem k2_set1 {w w1 : World} {a b : Array Value} {i : Nat} {x : Value} (K : K2 w a b w1) (hi : i < a.size) : K2 w (a.setIfInBounds i x) b (w1.setCell ⟨w.heap.size, i, none⟩ x) :=
  ⟨K.1.setCell (Nat.le_refl _) _, lies_set K.2.1 hi, lies_other K.2.2 (by omega)⟩
end Go.Proofs.YtejgcamogjgdkaaGreatDoor
namespace Go.Proofs.YtejgcamogjgdkaaGreatDoor
open Go.RowKit Go.Shelf
attribute [local go_sem] Oper.semAt_some
set_option linter.unusedVariables false
set_option linter.unusedSimpArgs false
def digB (p d : Int) : Bool := inB d 0 (p - 1)
theorem all_bad {f : Int → Bool} {l : List Int} {k : Nat} (hk : k < l.length) (h : f (l.getD k 0) = false) : l.all f = false := by
  cases ha : l.all f
  · rfl
  · rw [List.all_eq_true] at ha
    have e : l.getD k 0 = l[k] := by simp [List.getD, hk]
    rw [e, ha _ (List.getElem_mem hk)] at h; cases h
theorem all_good {f : Int → Bool} {l : List Int} (h : ∀ j, j < l.length → f (l.getD j 0) = true) : l.all f = true := by
  rw [List.all_eq_true]
  intro x hx
  obtain ⟨i, hi, e⟩ := List.getElem_of_mem hx
  have := h i hi
  rw [show l.getD i 0 = l[i] by simp [List.getD, hi], e] at this
  exact this
theorem areDigits_nil (p : Int) (o : Option Addr) (c : Nat) (w : World) :
    Calls Tryz.prog 55 #[.int .i64 p, .slice o 0 c] w fun e w' => e = .returned (.bool true) ∧ w = w' := by
  go_enter Tryz.func55, Tryz.ntmps55
  go_wp2
  refine wp_loop_rounds 1 ?_
  rw [rounds_succ]
  go_wp2
  go_ret
  exact ⟨rfl, rfl⟩
set_option maxHeartbeats 400000 in
theorem areDigits_row (p : Int) (g n c : Nat) (l : List Int) (w : World) (hp : 2 ≤ p) (hp97 : p ≤ 97) (hl : n = l.length) (hn : n ≤ 1100000)
    (hc : ∀ k, k < n → w.cell? ⟨g, k, none⟩ = some (.int .i64 (l.getD k 0))) :
    Calls Tryz.prog 55 #[.int .i64 p, .slice (some ⟨g, 0, none⟩) n c] w fun e w' => e = .returned (.bool (l.all (digB p))) ∧ w = w' := by
  have HC := Lib.hid hc
  have HL := Lib.hid hl
  clear hc hl
  go_enter Tryz.func55, Tryz.ntmps55
  go_wp2
  go_loop [9] (fun i => ∃ k : Nat, k ≤ n ∧ i = .int .i64 k ∧ ∀ j, j < k → digB p (l.getD j 0) = true) (fun i => n - (intOf i).toNat)
  case atStart => exact ⟨0, Nat.zero_le _, rfl, fun j h => absurd h (Nat.not_lt_zero _)⟩
  case round =>
    obtain ⟨k, hk, rfl, hall⟩ := hrel
    have HA := Lib.hid hall
    clear hall
    by_cases hlt : k < n
    · have a1 := HC.out k hlt
      obtain ⟨x, e1⟩ : ∃ x, l.getD k 0 = x := ⟨_, rfl⟩
      rw [e1] at a1
      have HE := Lib.hid e1
      clear e1
      by_cases h0 : x < 0
      · have HF := Lib.hid (all_bad (f := digB p) (l := l) (k := k) (by have := HL.out; omega) (by rw [HE.out]; exact inB_f (Or.inl h0)))
        go_wp2
        go_ret
        exact ⟨ret_bool HF.out.symm, rfl⟩
      · by_cases h1 : p ≤ x
        · have HF := Lib.hid (all_bad (f := digB p) (l := l) (k := k) (by have := HL.out; omega) (by rw [HE.out]; exact inB_f (Or.inr (by omega))))
          go_wp2
          go_ret
          exact ⟨ret_bool HF.out.symm, rfl⟩
        · have HT := Lib.hid (show digB p (l.getD k 0) = true by rw [HE.out]; exact inB_t (by omega) (by omega))
          go_wp2
          refine ⟨⟨k + 1, by omega, by go_num, fun j hj => ?_⟩, by simp [intOf]; omega⟩
          by_cases e : j = k
          · subst e; exact HT.out
          · exact HA.out j (by omega)
    · have hkn : k = n := by omega
      have HF := Lib.hid (all_good (f := digB p) (l := l) fun j hj => HA.out j (by have := HL.out; omega))
      clear hkn
      go_wp2
      go_ret
      exact ⟨ret_bool HF.out.symm, rfl⟩
/-- the elements of a list from its end on, with their indices -/
def bk (l : List Int) (j : Nat) : List (Nat × Int) := (List.range j).map fun (i : Nat) => (l.length - 1 - i, l.getD (l.length - 1 - i) 0)
theorem bk_length (l : List Int) (j : Nat) : (bk l j).length = j := by simp [bk]
theorem bk_succ (l : List Int) (j : Nat) : bk l (j + 1) = bk l j ++ [(l.length - 1 - j, l.getD (l.length - 1 - j) 0)] := by
  unfold bk; rw [List.range_succ, List.map_append]; rfl
theorem backward_made (o : Option Addr) (n c : Nat) (w : World) :
    Calls Tryz.prog 76 #[.slice o n c] w fun e w' => e = .returned (.func (.func 98) #[] #[.pointer (some ⟨w.heap.size, 0, none⟩)]) ∧ w' = w.alloc (.cells #[.slice o n c] 51) := by
  go_enter Tryz.func76, Tryz.ntmps76
  go_wp2
  go_ret
  exact ⟨rfl, rfl⟩
/-- what the iterator reads: the box of its list, and the list's row -/
def FrD (g b : Nat) (A B : World) : Prop := ∀ k, k = g ∨ k = b → B.heap[k]? = A.heap[k]?
def BackAt (g b c : Nat) (l : List Int) (W : World) : Prop :=
  Boxed W b 51 (.slice (some ⟨g, 0, none⟩) l.length c) ∧ ∀ k, k < l.length → W.cell? ⟨g, k, none⟩ = some (.int .i64 (l.getD k 0))
theorem backAt_kept {g b c : Nat} {l : List Int} {A B : World} (h : BackAt g b c l A) (hf : FrD g b A B) : BackAt g b c l B :=
  ⟨(hf b (.inr rfl)).trans h.1, fun k hk => by rw [World.cell?_of_block (w := A) (a := ⟨g, k, none⟩) (hf g (.inl rfl))]; exact h.2 k hk⟩
set_option maxRecDepth 20000 in
set_option maxHeartbeats 1600000 in
theorem backward_by (n : Nat) (hn : 1 ≤ n) (g b c : Nat) (l : List Int) (hl : l.length ≤ 1100000) :
    SeqBb Fence.wide n Tryz.prog 98 #[] #[.pointer (some ⟨b, 0, none⟩)] (fun x : Nat × Int => #[.int .i64 x.1, .int .i64 x.2]) StU (FrD g b) (fun xs => xs = bk l l.length) (fun pre => ∃ j, j ≤ l.length ∧ pre = bk l j) (BackAt g b c l) := by
  intro lp J Jx W hW hJ hX h0 hY
  have HW := Lib.hid hW
  have H0 := Lib.hid h0
  have q0 := hW.1.cell
  clear hW h0
  show CallsIn Fence.wide n Tryz.prog 98 #[.func (.yield lp) #[] #[], .pointer (some ⟨b, 0, none⟩)] W _
  refine callsIn_of_wp Tryz.func98 rfl trivial ?_ rfl
  simp only [Tryz.ntmps98, List.size_toArray, List.length_cons, List.length_nil, Nat.reduceAdd, Nat.reduceSub, Array.replicate_succ, Array.replicate_zero, List.push_toArray, List.append_toArray, List.nil_append, List.cons_append]
  gi_wp2
  gi_loopw [3] (fun i wr => ∃ (j : Nat) (x : Int), j ≤ l.length ∧ i = .int .i64 x ∧ x = (l.length : Int) - 1 - j ∧ BackAt g b c l wr ∧ J (bk l j) wr) (fun i wr => (intOf i + 1).toNat)
  case atStart => exact ⟨0, (l.length : Int) - 1, Nat.zero_le _, rfl, by omega, HW.out, H0.out⟩
  case round =>
    obtain ⟨j, x, hj, rfl, hx, hb, hJj⟩ := hrel
    have q1 := hb.1.cell
    by_cases hlt : j < l.length
    · obtain ⟨m, hm⟩ : ∃ m : Nat, x = m := ⟨x.toNat, by omega⟩
      subst hm
      have hm2 : m = l.length - 1 - j := by omega
      have hml : m < l.length := by omega
      have q2 := hb.2 m hml
      obtain ⟨y, hy⟩ : ∃ y, l.getD m 0 = y := ⟨_, rfl⟩
      rw [hy] at q2
      have hs : bk l (j + 1) = bk l j ++ [(m, y)] := by rw [bk_succ, ← hm2, hy]
      have HY := Lib.hid (hY (bk l j) (m, y) wr ⟨j + 1, by omega, hs.symm⟩ hJj)
      have HS := Lib.hid hs
      have HB := Lib.hid hb
      have HXX := Lib.hid hx
      have hm0 : (m : Int) ≤ 1100000 := by omega
      have hge : (0 : Int) ≤ (m : Int) := by omega
      clear hs hb hJj hy hm2 hx
      obtain ⟨fn, tmps, assign, body, hy, hR⟩ := HY.out
      clear HY
      simp only at hy
      gi_wp2
      refine hR.mono ?_
      rintro e W3 (⟨rfl, hJ3, hF3⟩ | ⟨rfl, hX3⟩)
      · have hb3 := backAt_kept HB.out hF3
        have d0 := hb3.1.cell
        have HB3 := Lib.hid hb3
        clear hb3 q1 q2
        gi_wp2
        go_roundw
        case rel => exact ⟨j + 1, (m : Int) - 1, by omega, rfl, by have := HXX.out; omega, HB3.out, by rw [HS.out]; exact hJ3⟩
        case measure => simp [intOf]
      · gi_wp2
        refine bodyPost_ret (results_none rfl _ _ _) rfl ?_
        exact ⟨_, rfl, .inr ⟨_, ⟨j + 1, by omega, HS.out.symm⟩, hX3⟩⟩
    · have hjl : j = l.length := by omega
      have HK := Lib.hid hjl
      have HJ := Lib.hid hJj
      have hx1 : x < 0 := by omega
      clear hjl hJj hb
      gi_wp2
      go_end0
      have hJe := HJ.out
      rw [HK.out] at hJe
      exact ⟨_, rfl, .inl ⟨_, rfl, hJe⟩⟩
end Go.Proofs.YtejgcamogjgdkaaGreatDoor
namespace Go.Proofs.YtejgcamogjgdkaaGreatDoor
open Go.RowKit Go.Shelf
attribute [local go_sem] Oper.semAt_some
set_option linter.unusedVariables false
set_option linter.unusedSimpArgs false
/-- the number that withDigits answers -/
def withQ (p place : Int) (l : List Int) : Q4 := if l = [] then (p, place, 0, 0) else if ringM p l.length = 0 then (0, 0, 0, 0) else (p, numT p place (horner p l) (place + l.length))
theorem withDigits_nil (p place : Int) (o : Option Addr) (c : Nat) (w : World) :
    Calls Tryz.prog 56 #[.int .i64 p, .int .i64 place, .slice o 0 c] w fun e w' => e = .returned (.agg (A4 (withQ p place []))) ∧ Below w.heap.size w w' := by
  rw [show withQ p place [] = (p, place, 0, 0) from rfl]
  go_enter Tryz.func56, Tryz.ntmps56
  go_wp2_with (first | (go_at_call 61; refine (zeroAt_any _ _ _).mono ?_; rintro e5 w5 ⟨rfl, hb⟩; have K := k2_first hb; obtain ⟨d0, d1, d2, d3⟩ := lies_four K.2.2; obtain ⟨df0, df1, df2, df3⟩ := lies_ice K.2.2))
  refine bodyPost_ret (v := .agg (P4 p place 0 0)) (by simp [results, Tryz.results56, go_sem, d0, d1, d2, d3]) rfl ?_
  exact ⟨rfl, below_set4 K.1 (by omega)⟩
theorem withDigits_no (p place : Int) (o : Option Addr) (n c : Nat) (l : List Int) (w : World) (hn : n = l.length) (hn0 : 0 < n) (hn1 : n ≤ 1100000) (h0 : ringM p n = 0) :
    Calls Tryz.prog 56 #[.int .i64 p, .int .i64 place, .slice o n c] w fun e w' => e = .returned (.agg (A4 (withQ p place l))) ∧ Below w.heap.size w w' := by
  have hl : l ≠ [] := by rintro rfl; simp at hn; omega
  rw [show withQ p place l = (0, 0, 0, 0) by unfold withQ; rw [if_neg hl, ← hn, if_pos h0]]
  have HC := Lib.hid (show ringC p n = 1 by simp [ringC, h0])
  clear h0 hn hl
  go_enter Tryz.func56, Tryz.ntmps56
  go_wp2_with (first | (go_at_call 37; refine (checkNil_any _ _ _).mono ?_; rw [HC.out]; rintro e5 w5 ⟨rfl, hb⟩; have K := k2_first hb; obtain ⟨d0, d1, d2, d3⟩ := lies_four K.2.2; obtain ⟨df0, df1, df2, df3⟩ := lies_ice K.2.2))
  refine bodyPost_ret (v := .agg (P4 0 0 0 0)) (by simp [results, Tryz.results56, go_sem, d0, d1, d2, d3]) rfl ?_
  exact ⟨rfl, below_set4 K.1 (by omega)⟩
theorem lies_putB {W : World} {b k : Nat} {x : Value} {vs : List Value} {o o' : Obj} (h : Lies W b (x :: vs).toArray) (hk : W.heap[k]? = some o) (ho : o.isCells = false) : Lies (W.putObj k o') b (x :: vs).toArray := by
  have hne : b ≠ k := by
    rintro rfl
    have := lies_cell h 0
    simp [World.cell?, hk] at this
    cases o <;> simp_all [Obj.isCells]
  exact lies_block h (by have := h.1; simp [World.putObj]; exact this) (World.putObj_heap_other hne)
theorem set4_def {w4 : World} {b D : Nat} {x0 x1 x2 x3 : Value} {o : Obj} (hk : w4.heap[D]? = some o) (ho : o.isCells = false) :
    ((((w4.setCell ⟨b, 0, none⟩ x0).setCell ⟨b, 1, none⟩ x1).setCell ⟨b, 2, none⟩ x2).setCell ⟨b, 3, none⟩ x3).heap[D]? = some o :=
  ((((KeepsOthers.setCell _ _ _).trans (KeepsOthers.setCell _ _ _)).trans (KeepsOthers.setCell _ _ _)).trans (KeepsOthers.setCell _ _ _)).same D _ hk ho
theorem lies_leave {w4 : World} {b D : Nat} {x0 x1 x2 x3 y0 y1 y2 y3 : Value} {o o' : Obj} (h : Lies w4 b #[y0, y1, y2, y3]) (hk : w4.heap[D]? = some o) (ho : o.isCells = false) :
    Lies (((((w4.setCell ⟨b, 0, none⟩ x0).setCell ⟨b, 1, none⟩ x1).setCell ⟨b, 2, none⟩ x2).setCell ⟨b, 3, none⟩ x3).putObj D o') b #[x0, x1, x2, x3] :=
  lies_putB (lies_set4 h) (set4_def hk ho) ho
theorem bk_last {l : List Int} {pre : List (Nat × Int)} {x : Nat × Int} (h : ∃ j, j ≤ l.length ∧ pre ++ [x] = bk l j) :
    pre.length < l.length ∧ x = (l.length - 1 - pre.length, l.getD (l.length - 1 - pre.length) 0) := by
  obtain ⟨j, hj, e⟩ := h
  have hl := congrArg List.length e
  rw [bk_length, List.length_append, List.length_singleton] at hl
  subst hl
  rw [bk_succ] at e
  have := (List.append_inj' e rfl).2
  exact ⟨by omega, by simpa using this⟩
theorem horner_drop (p : Int) {l : List Int} {k : Nat} (hk : k < l.length) : horner p (l.drop (l.length - (k + 1))) = horner p (l.drop (l.length - k)) * p + l.getD (l.length - 1 - k) 0 := by
  have h : l.length - (k + 1) < l.length := by omega
  rw [List.drop_eq_getElem_cons h, horner_cons, show l.length - (k + 1) + 1 = l.length - k by omega, Int.mul_comm]
  congr 1
  simp [List.getD, show l.length - 1 - k = l.length - (k + 1) by omega, h]
theorem horner_drop_bd {p : Int} {l : List Int} {k : Nat} (hp2 : 2 ≤ p) (hd : l.all (digB p) = true) (hk : k ≤ l.length) (hm : pw p l.length ≤ 1000000000) :
    0 ≤ horner p (l.drop (l.length - k)) ∧ horner p (l.drop (l.length - k)) ≤ 1000000000 := by
  rw [List.all_eq_true] at hd
  obtain ⟨a, b⟩ := horner_bd hp2 (l.drop (l.length - k)) fun d hx => by
    have := hd d (List.mem_of_mem_drop hx)
    simp only [digB, inB, Bool.and_eq_true, decide_eq_true_eq] at this
    omega
  rw [List.length_drop] at b
  have := pw_mono (p := p) (a := ((l.length - (l.length - k) : Nat) : Int)) (b := (l.length : Int)) hp2 (by omega)
  exact ⟨a, by omega⟩
/-- what holds at the head of each round: the number of the digits so far lies in box b -/
def WI (w : World) (p : Int) (l : List Int) (b : Nat) (pre : List (Nat × Int)) (W : World) : Prop :=
  Boxed W b 2 (.int .i64 (horner p (l.drop (l.length - pre.length)))) ∧ Lies W w.heap.size #[.int .i64 p] ∧ Lies W (w.heap.size + 1) (P4 0 0 0 0) ∧ Below w.heap.size w W
theorem wi_put {w W : World} {p : Int} {l : List Int} {b k : Nat} {pre : List (Nat × Int)} {o o' : Obj} (h : WI w p l b pre W) (hb : w.heap.size ≤ k) (hk : W.heap[k]? = some o) (ho : o.isCells = false) : WI w p l b pre (W.putObj k o') :=
  ⟨boxed_putB h.1 hk ho, lies_putB h.2.1 hk ho, lies_putB h.2.2.1 hk ho, below_putB h.2.2.2 hb⟩
theorem wi_below {w A B : World} {p : Int} {l : List Int} {b : Nat} {pre : List (Nat × Int)} (h : WI w p l b pre A) (hs : StU A B) : WI w p l b pre B :=
  ⟨boxed_belowB h.1 hs, lies_next h.2.1 hs, lies_next h.2.2.1 hs, h.2.2.2.trans (hs.mono h.2.2.2.size)⟩
theorem frD_put {g b k : Nat} {A W : World} {o' : Obj} (h : FrD g b A W) (h1 : g < k) (h2 : b < k) : FrD g b A (W.putObj k o') := by
  intro j hj
  refine (World.putObj_heap_other ?_).trans (h j hj)
  rcases hj with rfl | rfl <;> omega
theorem frD_refl {g b : Nat} (A : World) : FrD g b A A := fun _ _ => rfl
theorem frD_trans {g b : Nat} {A B C : World} (h : FrD g b A B) (k : FrD g b B C) : FrD g b A C := fun j hj => (k j hj).trans (h j hj)
set_option maxRecDepth 20000 in
set_option maxHeartbeats 1600000 in
theorem withDigits_yes (p place : Int) (g n c : Nat) (l : List Int) (w : World) (hs : smallB p = true) (hd : l.all (digB p) = true) (h60 : -60 ≤ place) (h61 : place ≤ 60) (hn : n = l.length) (hn0 : 0 < n) (hn1 : n ≤ 1100000) (hg : g < w.heap.size)
    (hc : ∀ k, k < n → w.cell? ⟨g, k, none⟩ = some (.int .i64 (l.getD k 0))) (h0 : ringM p n ≠ 0) :
    Calls Tryz.prog 56 #[.int .i64 p, .int .i64 place, .slice (some ⟨g, 0, none⟩) n c] w fun e w' => e = .returned (.agg (A4 (withQ p place l))) ∧ Below w.heap.size w w' := by
  have HC := Lib.hid (show ringC p n = 0 by simp [ringC, h0])
  have HN := Lib.hid hn
  have HD := Lib.hid hd
  have HG := Lib.hid hc
  have H0 := Lib.hid h0
  have hn2 : ((n : Int) == 0) = false := by simp; omega
  clear hn hd hc h0
  refine (callsIn_wide (n := 4)).1 ?_
  refine callsIn_of_wp_marks Tryz.func56 rfl trivial ?_ rfl
  simp only [Tryz.ntmps56, List.size_toArray, List.length_cons, List.length_nil, Nat.reduceAdd, Nat.reduceSub, Array.replicate_succ, Array.replicate_zero, List.push_toArray, List.append_toArray, List.nil_append, List.cons_append]
  gi_wp2_with (first | (refine ⟨trivial, ?_⟩; gi_at_call 37; refine (callsIn_wide.2 (checkNil_any _ _ _)).mono ?_; rw [HC.out]; rintro e w' ⟨rfl, hb⟩; have K := k2_first hb) | (refine ⟨trivial, ?_⟩; gi_at_call 76; refine (callsIn_wide.2 (backward_made _ _ _ _)).mono ?_; rintro e w2 ⟨rfl, rfl⟩))
  have hsz := K.1.size
  have hbox := (Boxed.new w' 2 (.int .i64 0)).alloc (.cells #[.slice (some ⟨g, 0, none⟩) n c] 51)
  have hbox2 := Boxed.new (w'.alloc (.cells #[.int .i64 0] 2)) 51 (.slice (some ⟨g, 0, none⟩) n c)
  rw [World.size_alloc] at hbox2
  have hB6 : Below w.heap.size w ((w'.alloc (.cells #[.int .i64 0] 2)).alloc (.cells #[.slice (some ⟨g, 0, none⟩) n c] 51)) := (K.1.alloc hsz _).alloc (by simp; omega) _
  have L0 := lies_alloc (lies_alloc K.2.1 (.cells #[.int .i64 0] 2)) (.cells #[.slice (some ⟨g, 0, none⟩) n c] 51)
  have L1 := lies_alloc (lies_alloc K.2.2 (.cells #[.int .i64 0] 2)) (.cells #[.slice (some ⟨g, 0, none⟩) n c] 51)
  obtain ⟨B, hB⟩ : ∃ B, w'.heap.size = B := ⟨_, rfl⟩
  have h6s : ((w'.alloc (.cells #[.int .i64 0] 2)).alloc (.cells #[.slice (some ⟨g, 0, none⟩) n c] 51)).heap.size = B + 2 := by rw [← hB]; simp
  rw [hB] at hbox hbox2 ⊢
  have hlt1 := lies_lt K.2.2
  generalize (w'.alloc (.cells #[.int .i64 0] 2)).alloc (.cells #[.slice (some ⟨g, 0, none⟩) n c] 51) = W6 at *
  have hBw : w.heap.size + 2 ≤ B := by omega
  have hm := pw_ringM H0.out
  obtain ⟨hp2, hp97, _, hn29, _, hm2, _⟩ := ringM_bd H0.out
  rw [hm, HN.out] at hm2
  have HM := Lib.hid hm2
  have HR := Lib.hid hm
  clear K hb hsz hB hlt1 hm2 hm
  refine wpIn_rangeBb (F := Fence.wide) (n := 4) (P := Tryz.prog) (w := W6) rfl (by omega) (gf := 98) (ba := #[]) (lb := #[.pointer (some ⟨B + 1, 0, none⟩)]) rfl trivial (enters_of Tryz.func98 (by kernel_rfl) rfl)
    (backward_by 3 (by omega) g (B + 1) c l (by have := HN.out; omega)) (fun _ => rfl)
    (WI w p l B) (fun _ _ => False) (fun x => { tmps := #[.int .i64 p, .int .i64 place, .slice (some ⟨g, 0, none⟩) n c, .pointer (some ⟨w.heap.size, 0, none⟩), undef, undef, .pointer (some ⟨w.heap.size + 1, 0, none⟩), .int .i64 n, .pointer (some ⟨B, 0, none⟩), undef, .int .i64 x.2, .slice (some ⟨g, 0, none⟩) n c, .int .i64 n, .int .i64 n, .bool false, undef, undef, undef, .int .i64 p, .int .i64 n, .agg #[.int .i64 p, .int .i64 n], .int .i64 0, .bool false, undef, .slice (some ⟨g, 0, none⟩) n c, .func (.func 98) #[] #[.pointer (some ⟨B + 1, 0, none⟩)], .int .i64 x.1, .int .i64 x.2, undef, undef, undef, undef, undef, undef, undef, undef, undef, undef, undef, undef], defers := [] })
    ?ip ?xp ?fp ?fq ?ft ?is ?xs ?sk ?h0 ?s0 ?assign ?body ?done ?stop
  case ip => intro pre W k o o' h hk ho hc; exact wi_put h (by omega) ho hc
  case xp => intro _ _ _ _ _ h; exact h.elim
  case fp => intro A W k o o' hf hk ho hc; exact frD_put hf (by omega) (by omega)
  case fq => intro W k o o' hk ho hc; exact frD_put (frD_refl W) (by omega) (by omega)
  case ft => intro A B C h k; exact frD_trans h k
  case is => intro pre A B h hs; exact wi_below h hs
  case xs => intro _ _ _ h; exact h.elim
  case sk => intro A B k o hs hk ho hc; exact (hs.block k (Array.getElem?_eq_some_iff.1 ho).1).trans ho
  case h0 =>
    intro o o'
    refine ⟨?_, lies_alloc (lies_alloc L0 _) _, lies_alloc (lies_alloc L1 _) _, (hB6.alloc (by omega) _).alloc (by simp; omega) _⟩
    have e : horner p (l.drop (l.length - ([] : List (Nat × Int)).length)) = 0 := by simp [horner]
    rw [e]
    exact (hbox.alloc _).alloc _
  case s0 =>
    intro o o'
    refine ⟨by rw [← HN.out]; exact (hbox2.alloc _).alloc _, fun k hk => ?_⟩
    have hb := (hB6.alloc (by omega) o).alloc (by simp; omega) o'
    rw [hb.cell (p := ⟨g, k, none⟩) hg]
    exact HG.out k (by have := HN.out; omega)
  case assign =>
    intro lp x W K hK
    gi_wp2
    exact hK
  case body =>
    rintro lp pre x W hsp ⟨hv, hpb, hz, hbel⟩
    obtain ⟨hk, hx⟩ := bk_last hsp
    have hh := horner_drop p hk
    obtain ⟨a0, a1⟩ := horner_drop_bd (k := pre.length) hp2 HD.out (by omega) HM.out
    obtain ⟨b0, b1⟩ := horner_drop_bd (k := pre.length + 1) hp2 HD.out (by omega) HM.out
    have hd2 : l.getD (l.length - 1 - pre.length) 0 = x.2 := by rw [hx]
    have hlen : (pre ++ [x]).length = pre.length + 1 := by simp
    rw [hd2] at hh
    rw [hh] at b0 b1
    have HH := Lib.hid hh
    have c0 := lies_cell hpb 0
    simp at c0
    have q2 := hv.cell
    have q2f := hv.frozen
    have hx0 : 0 ≤ x.2 ∧ x.2 < p := by
      have := List.all_eq_true.1 HD.out x.2 (by rw [← hd2]; simp [List.getD, show l.length - 1 - pre.length < l.length by omega])
      simp only [digB, inB, Bool.and_eq_true, decide_eq_true_eq] at this
      omega
    obtain ⟨y, hy⟩ : ∃ y, x.2 = y := ⟨_, rfl⟩
    obtain ⟨h, hhe⟩ : ∃ h, horner p (l.drop (l.length - pre.length)) = h := ⟨_, rfl⟩
    rw [hy] at b0 b1 hx0 ⊢
    rw [hhe] at b0 b1 a0 a1 q2
    have hm0 := Int.mul_nonneg a0 (show 0 ≤ p by omega)
    have hw1 : IntKind.i64.wrap (h * p) = h * p := IntWalk.i64_in _ (by omega)
    have hw2 : IntKind.i64.wrap (h * p + y) = h * p + y := IntWalk.i64_in _ (by omega)
    have hv2 := hv.set (.int .i64 (h * p + y))
    have hF : FrD g (B + 1) W (W.setCell ⟨B, 0, none⟩ (.int .i64 (h * p + y))) := fun j hj => Below.heap_setCell _ _ _ _ (by show j ≠ B; rcases hj with rfl | rfl <;> omega)
    have hb2 := hbel.setCell (p := ⟨B, 0, none⟩) (show w.heap.size ≤ B by omega) (.int .i64 (h * p + y))
    have hpb2 := lies_other (i := 0) (v := .int .i64 (h * p + y)) hpb (show B ≠ w.heap.size by omega)
    have hz2 := lies_other (i := 0) (v := .int .i64 (h * p + y)) hz (show B ≠ w.heap.size + 1 by omega)
    have HE := Lib.hid (show horner p (l.drop (l.length - (pre ++ [x]).length)) = h * p + y by rw [hlen, HH.out, hhe, hy])
    clear hsp hx hh hd2 hlen hy hhe
    gi_wp2
    exact ⟨KeepsOthers.setCell _ _ _, hF, by rw [HE.out]; exact hv2, hpb2, hz2, hb2⟩
  case done =>
    rintro D xs W hD rfl ⟨hv, hpb, hz, hbel⟩ hK
    rw [bk_length, Nat.sub_self, List.drop_zero] at hv
    have c0 := lies_cell hpb 0
    simp at c0
    have q2 := hv.cell
    obtain ⟨a0, a1⟩ := horner_drop_bd (k := l.length) hp2 HD.out (Nat.le_refl _) HM.out
    rw [Nat.sub_self, List.drop_zero] at a0 a1
    have HNE := Lib.hid fun w => numEnd_any p place (horner p l) (place + n) w hp2 (by omega) (by omega) (by omega) (by omega) (by omega)
    have hwe : IntKind.i64.wrap (place + (n : Int)) = place + n := IntWalk.i64_in _ (by omega)
    have hl : l ≠ [] := by rintro rfl; have := HN.out; simp at this; omega
    have HQ := Lib.hid (show withQ p place l = (p, numT p place (horner p l) (place + n)) by unfold withQ; rw [if_neg hl, ← HN.out, if_neg H0.out])
    generalize numT p place (horner p l) (place + n) = z at *
    generalize horner p l = r at *
    clear hl
    gi_wp2_with (refine ⟨trivial, ?_⟩; gi_at_call 77; refine (callsIn_wide.2 (HNE.out _)).mono ?_; rintro e w4 ⟨rfl, hb4⟩; obtain ⟨d0, d1, d2, d3⟩ := lies_four (lies_next hz hb4); obtain ⟨df0, df1, df2, df3⟩ := lies_ice (lies_next hz hb4))
    refine ⟨by simp, .inl ⟨_, _, rfl, run_takeDeferred (set4_def ((keeps_belowB hb4).same D _ hK rfl) rfl), ?_⟩⟩
    obtain ⟨z0, z1, z2, z3⟩ := lies_four (lies_leave (x0 := .int .i64 p) (x1 := .int .i64 z.1) (x2 := .int .i64 z.2.1) (x3 := .int .i64 z.2.2) (o' := .deferred none) (lies_next hz hb4) ((keeps_belowB hb4).same D _ hK rfl) rfl)
    refine ⟨.agg (P4 p z.1 z.2.1 z.2.2), by simp [results, Tryz.results56, go_sem, z0, z1, z2, z3], ?_⟩
    rw [HQ.out]
    exact ⟨rfl, below_putB (below_set4 (hbel.trans (hb4.mono hbel.size)) (by omega)) (by omega)⟩
  case stop => intro _ _ _ _ _ h; exact h.elim
theorem areDigits_any {base : Nat} {w : World} {v : Value} {l : List Int} (p : Int) (hp : 2 ≤ p) (hp97 : p ≤ 97) (h : IntRow base w v l) (hl : l.length ≤ 1100000) :
    Calls Tryz.prog 55 #[.int .i64 p, v] w fun e w' => e = .returned (.bool (l.all (digB p))) ∧ w = w' := by
  rcases row_shape h with ⟨h0, o, c, rfl⟩ | ⟨h0, g, c, rfl, hb, hg⟩
  · obtain rfl : l = [] := List.length_eq_zero_iff.1 h0
    exact areDigits_nil p o c w
  · exact areDigits_row p g l.length c l w hp hp97 rfl hl (int_cells h)
theorem withDigits_any {base : Nat} {w : World} {v : Value} {l : List Int} (p place : Int) (hs : smallB p = true) (hd : l.all (digB p) = true) (h60 : -60 ≤ place) (h61 : place ≤ 60) (h : IntRow base w v l) (hl : l.length ≤ 1100000) :
    Calls Tryz.prog 56 #[.int .i64 p, .int .i64 place, v] w fun e w' => e = .returned (.agg (A4 (withQ p place l))) ∧ Below w.heap.size w w' := by
  rcases row_shape h with ⟨h0, o, c, rfl⟩ | ⟨h0, g, c, rfl, hb, hg⟩
  · obtain rfl : l = [] := List.length_eq_zero_iff.1 h0
    exact withDigits_nil p place o c w
  · by_cases hr : ringM p l.length = 0
    · exact withDigits_no p place _ l.length c l w rfl h0 hl hr
    · exact withDigits_yes p place g l.length c l w hs hd h60 h61 rfl h0 hl hg (int_cells h) hr
theorem make_num {p v r e : Int} (h0 : 0 ≤ r) (h1 : r < pw p (e - v)) : makeT p v r e = numT p v r e := by
  unfold makeT numT
  rw [Int.emod_eq_of_lt h0 h1, Int.sub_sub]
theorem from_with {p place : Int} {l : List Int} (hs : smallB p = true) (hd : digsB p place l = true) :
    resQ (withQ p place l).1 (withQ p place l).2.1 (withQ p place l).2.2.1 (withQ p place l).2.2.2 = fromQ p place l ∧
    limC (withQ p place l).1 (withQ p place l).2.1 (withQ p place l).2.2.1 (withQ p place l).2.2.2 = fromC p place l := by
  have hp2 := (smallB_bd hs).1
  by_cases hl : l = []
  · subst hl
    have hw : withQ p place [] = (p, place, 0, 0) := rfl
    have hm : makeT p place (horner p []) (place + (([] : List Int).length : Int)) = (place, 0, 0) := by simp [makeT, horner]
    have h1 : pw p (([] : List Int).length : Int) ≤ 1000000000 := by simp [pw]
    unfold fromQ fromC
    rw [hw, hm, hs, hd, if_pos h1]
    simp [pw_zero]
  · have hlen : 1 ≤ (l.length : Int) := by have := List.length_pos_iff.2 hl; omega
    by_cases hr : ringM p l.length = 0
    · have hw : withQ p place l = (0, 0, 0, 0) := by unfold withQ; rw [if_neg hl, if_pos hr]
      have h1 : ¬ pw p (l.length : Int) ≤ 1000000000 := by
        intro h
        have := ringM_pw hs hlen h
        have := pw_ge1 (p := p) (a := (l.length : Int)) hp2
        omega
      have hz : padB 0 0 0 0 = false := by decide
      unfold fromQ fromC
      rw [hw, hs, hd]
      simp [h1, resQ, limC, hz]
    · have hw : withQ p place l = (p, numT p place (horner p l) (place + l.length)) := by unfold withQ; rw [if_neg hl, if_neg hr]
      have e := pw_ringM hr
      obtain ⟨_, _, _, _, _, h1, _⟩ := ringM_bd hr
      rw [e] at h1
      have hd2 : ∀ d ∈ l, 0 ≤ d ∧ d < p := by
        intro d hx
        unfold digsB at hd
        simp only [Bool.and_eq_true, List.all_eq_true] at hd
        have := hd.2 d hx
        simp only [inB, Bool.and_eq_true, decide_eq_true_eq] at this
        omega
      obtain ⟨a, b⟩ := horner_bd hp2 l hd2
      have hm := make_num (p := p) (v := place) (e := place + l.length) a (by rw [show place + (l.length : Int) - place = l.length by omega]; exact b)
      unfold fromQ fromC
      rw [hw, hs, hd, hm]
      simp [h1]
theorem implFrom_any {base : Nat} {w : World} {v : Value} {l : List Int} (p place : Int) (h : IntRow base w v l) (hl : l.length ≤ 1100000) :
    Calls Tryz.prog 26 #[.int .i64 p, .int .i64 place, v] w fun e w' => e = .returned (.tuple #[.agg (A4 (fromQ p place l)), .int .i64 (fromC p place l)]) ∧ Below w.heap.size w w' := by
  cases hs : smallB p
  · rw [show fromQ p place l = (0, 0, 0, 0) by simp [fromQ, hs], show fromC p place l = 1 by simp [fromC, hs]]
    go_enter Tryz.func26, Tryz.ntmps26
    go_wp2_with (go_at_call 33; refine (basePrime_any _ _).mono ?_; rw [hs]; rintro e w' ⟨rfl, rfl⟩)
    refine bodyPost_ret (v := .tuple #[.agg (P4 0 0 0 0), .int .i64 1]) (by simp [results, Tryz.results26, go_sem]) rfl ?_
    exact ⟨rfl, below_a1 _ _⟩
  · obtain ⟨hp2, hp97⟩ := smallB_bd hs
    cases hk : inB place (-60) 60
    · rw [show fromQ p place l = (0, 0, 0, 0) by simp [fromQ, digsB, hk], show fromC p place l = 2 by simp [fromC, hs, digsB, hk]]
      go_enter Tryz.func26, Tryz.ntmps26
      go_wp2_with (first | (go_at_call 33; refine (basePrime_any _ _).mono ?_; rw [hs]; rintro e w' ⟨rfl, rfl⟩) | (go_at_call 34; refine (isPlace_any _ _).mono ?_; rw [hk]; rintro e wn ⟨rfl, rfl⟩))
      refine bodyPost_ret (v := .tuple #[.agg (P4 0 0 0 0), .int .i64 2]) (by simp [results, Tryz.results26, go_sem]) rfl ?_
      exact ⟨rfl, below_a1 _ _⟩
    · have HA := Lib.hid (areDigits_any p hp2 hp97 (h.alloc (.cells (P4 0 0 0 0) 25)) hl)
      cases hd : l.all (digB p)
      · have hd2 : digsB p place l = false := by unfold digsB; rw [show (l.all fun d => inB d 0 (p - 1)) = l.all (digB p) from rfl, hd, Bool.and_false]
        rw [show fromQ p place l = (0, 0, 0, 0) by simp [fromQ, hd2], show fromC p place l = 2 by simp [fromC, hs, hd2]]
        go_enter Tryz.func26, Tryz.ntmps26
        go_wp2_with (first | (go_at_call 33; refine (basePrime_any _ _).mono ?_; rw [hs]; rintro e w' ⟨rfl, rfl⟩) | (go_at_call 34; refine (isPlace_any _ _).mono ?_; rw [hk]; rintro e wn ⟨rfl, rfl⟩) | (go_at_call 55; refine (HA.out).mono ?_; rw [hd]; rintro e wn ⟨rfl, rfl⟩))
        refine bodyPost_ret (v := .tuple #[.agg (P4 0 0 0 0), .int .i64 2]) (by simp [results, Tryz.results26, go_sem]) rfl ?_
        exact ⟨rfl, below_a1 _ _⟩
      · have hd2 : digsB p place l = true := by unfold digsB; rw [show (l.all fun d => inB d 0 (p - 1)) = l.all (digB p) from rfl, hd, hk]; rfl
        have hk2 : -60 ≤ place ∧ place ≤ 60 := by simpa [inB] using hk
        have HW := Lib.hid (withDigits_any p place hs hd hk2.1 hk2.2 (h.alloc (.cells (P4 0 0 0 0) 25)) hl)
        obtain ⟨f1, f2⟩ := from_with hs hd2
        rw [← f1, ← f2]
        generalize withQ p place l = q at *
        clear f1 f2
        go_enter Tryz.func26, Tryz.ntmps26
        go_wp2_with (first | (go_at_call 33; refine (basePrime_any _ _).mono ?_; rw [hs]; rintro e w' ⟨rfl, rfl⟩) | (go_at_call 34; refine (isPlace_any _ _).mono ?_; rw [hk]; rintro e wn ⟨rfl, rfl⟩) | (go_at_call 55; refine (HA.out).mono ?_; rw [hd]; rintro e wn ⟨rfl, rfl⟩) | (go_at_call 56; refine (HW.out).mono ?_; rintro e wn ⟨rfl, hb⟩; have K := k1_first hb) | (go_at_call 57; refine (asResultQ_any _ _ _ _ _).mono ?_; rintro e wn ⟨rfl, hb⟩; have K := k1_next K hb; obtain ⟨c0, c1, c2, c3⟩ := lies_four K.2; obtain ⟨cf0, cf1, cf2, cf3⟩ := lies_ice K.2))
        refine bodyPost_ret (v := .tuple #[.agg (A4 (resQ q.1 q.2.1 q.2.2.1 q.2.2.2)), .int .i64 (limC q.1 q.2.1 q.2.2.1 q.2.2.2)]) (by simp [results, Tryz.results26, go_sem, c0, c1, c2, c3]) rfl ?_
        exact ⟨rfl, below_set4 K.1 (by omega)⟩
end Go.Proofs.YtejgcamogjgdkaaGreatDoor
namespace Go.Proofs.YtejgcamogjgdkaaGreatDoor
open Go.RowKit
set_option linter.unusedVariables false
set_option linter.unusedSimpArgs false
theorem l03Digit_any (p v u n k : Int) (w : World) (h : POk p v u n) (hk : k < v + n) :
    Calls Tryz.prog 68 #[.agg (P4 p v u n), .int .i64 k] w fun e w' => e = .returned (.int .i64 (if k < v then 0 else u / pw p (k - v) % p)) ∧ Below w.heap.size w w' := by
  by_cases hl : k < v
  · rw [if_pos hl]
    go_enter Tryz.func68, Tryz.ntmps68
    go_wp2_with fail
    go_ret
    exact ⟨rfl, below_a1 w _⟩
  · rw [if_neg hl]
    obtain ⟨hp2, hp97, hn0, hn1, hm0, hm1, hu0, hu1, hu2⟩ := pok_bd h
    have hv0 := h.2.1
    have hv1 := h.2.2.1
    have hpart := pw_part (p := p) (n := n) (e := k - v) hp2 hm1 (by omega)
    have HP := l02Pow_any p (k - v)
    generalize pw p (k - v) = m at *
    replace HP := Lib.hid fun w => HP w hp2 hp97 (by omega) hpart.2
    obtain ⟨hm2, hm3⟩ := hpart
    have hw := IntWalk.i64_in (k - v) (by omega)
    have hm4 : ¬ m = 0 := by omega
    have hp4 : ¬ p = 0 := by omega
    have hz : (m == 0) = false := by simp; omega
    have hz2 : (p == 0) = false := by simp; omega
    have q0 : 0 ≤ u / m := Int.ediv_nonneg hu0 (by omega)
    have q1 : u / m ≤ u := Int.ediv_le_self _ hu0
    have ht1 : u.tdiv m = u / m := Int.tdiv_eq_ediv_of_nonneg hu0
    generalize u / m = d at *
    have ht2 : d.tmod p = d % p := tmod_nonneg q0
    have r0 := Int.emod_nonneg d hp4
    have r1 := Int.emod_lt_of_pos d (show 0 < p by omega)
    have hw2 := IntWalk.i64_in d (by omega)
    have hw3 := IntWalk.i64_in (d % p) (by omega)
    generalize d % p = r at *
    clear hm0 hm1 hu1 h
    go_enter Tryz.func68, Tryz.ntmps68
    go_wp2_with fail
    have K := k1_new w (P4 p v u n) 25
    generalize (w.alloc (.cells (P4 p v u n) 25)) = W at K ⊢
    obtain ⟨c0, c1, c2, c3⟩ := lies_four K.2
    go_quiet ((go_at_call 46; exact (HP.out _).mono fun e w' h => ⟨h.1, _, h.2.symm⟩))
    go_wp2
    go_ret
    exact ⟨rfl, below_drewN K.1 _⟩
end Go.Proofs.YtejgcamogjgdkaaGreatDoor
namespace Go.Proofs.YtejgcamogjgdkaaGreatDoor
open Go.RowKit
set_option linter.unusedVariables false
set_option linter.unusedSimpArgs false
def lowN (p v u : Int) : Int := if 0 ≤ v then 0 else u % pw p (-v)
def lowM (p v : Int) : Int := if 0 ≤ v then 1 else pw p (-v)
/-- what is left of a number above its lowest digits is small -/
theorem high_lt {p v u n : Int} (h : POk p v u n) (he : 0 ≤ v + n) (hv : ¬ 0 ≤ v) : u / pw p (-v) < pw p (v + n) ∧ pw p (v + n) ≤ 1000000000 := by
  obtain ⟨hp2, hp97, hn0, hn1, hm0, hm1, hu0, hu1, hu2⟩ := pok_bd h
  have e := pw_add (p := p) (a := v + n) (b := -v) he (by omega)
  rw [show v + n + -v = n by omega] at e
  have g := pw_ge1 (p := p) (a := -v) hp2
  have hpart := pw_part (p := p) (n := n) (e := v + n) hp2 hm1 (by omega)
  exact ⟨Int.ediv_lt_of_lt_mul (by omega) (by rw [← e]; exact hu1), hpart.2⟩
end Go.Proofs.YtejgcamogjgdkaaGreatDoor
namespace Go.Proofs.YtejgcamogjgdkaaGreatDoor
open Go.RowKit
set_option linter.unusedVariables false
set_option linter.unusedSimpArgs false
theorem padAt_keep {A B : World} {b : Nat} {p v u n : Int} (h : PadAt A b p v u n) (hf : FrP A B) : PadAt B b p v u n := (hf _ _ _ h).trans h
theorem row_lower {w : World} {b b' : Nat} {T : TypeId} {sz : Nat} {v : Value} {n : Nat} {xs : List Value} (h : w.ownsRow b' T sz v n xs) (hle : b ≤ b') : w.ownsRow b T sz v n xs :=
  ⟨h.1, h.2.imp id fun ⟨g, cap, cur, e, hb, rest⟩ => ⟨g, cap, cur, e, Nat.le_trans hle hb, rest⟩⟩
set_option maxHeartbeats 800000 in
theorem l04Digits_any (p v u n : Int) (w : World) (h : POk p v u n) :
    Calls Tryz.prog 48 #[.agg (P4 p v u n)] w fun e w' => ∃ vl, e = .returned vl ∧ IntRow w.heap.size w' vl (digL p u n.toNat) ∧ Below w.heap.size w w' := by
  obtain ⟨i0, hi, hz0, hz1, hz2⟩ := info_parts Tryz.infoInt64
  have HI := Lib.hid hi
  have HZ0 := Lib.hid hz0
  have HZ1 := Lib.hid hz1
  have HZ2 := Lib.hid hz2
  have HK := Lib.hid h
  obtain ⟨hp2, hp97, hn0, hn1, _, _, hu0, _, hu2⟩ := pok_bd h
  have hv0 := h.2.1
  have hv1 := h.2.2.1
  have hb0 : PadAt (w.alloc (.cells (P4 p v u n) 25)) w.heap.size p v u n := World.alloc_heap_new w _
  have HB0 := Lib.hid (padAt_keep hb0 (frP_below (below_a1 (w.alloc (.cells (P4 p v u n) 25)) (.cells #[] 2))))
  have hr0 := intRow_made (w.alloc (.cells (P4 p v u n) 25))
  have hr1 := row_lower (b := w.heap.size) hr0 (by simp)
  rw [World.size_alloc] at hr1
  have HR0 := Lib.hid hr1
  clear hi hz0 hz1 hz2 h hb0 hr0 hr1
  go_enter Tryz.func48, Tryz.ntmps48
  go_wp2
  go_loopw [3, 4] (fun s i wr => ∃ I : Nat, i = .int .i64 I ∧ (I : Int) ≤ n ∧ PadAt wr w.heap.size p v u n ∧ IntRow w.heap.size wr s (digL p u I) ∧ Below w.heap.size w wr) (fun _ i _ => n.toNat - (intOf i).toNat)
  case atStart => exact ⟨0, rfl, hn0, HB0.out, HR0.out, below_a2 w _ _⟩
  case round =>
    obtain ⟨I, rfl, hI, hb, hrow, hbel⟩ := hrel
    obtain ⟨c0, c1, c2, c3⟩ := padAt_four hb
    have HB := Lib.hid hb
    have HW := Lib.hid hrow
    have HL := Lib.hid hbel
    clear hb hrow hbel HB0 HR0
    by_cases hlt : (I : Int) < n
    · have HS := Lib.hid (digL_succ p u I)
      have hlen : (digL p u I).length ≤ 30 := by rw [digL_length]; omega
      have HD := Lib.hid (fun w => (l03Digit_any p v u n (v + I) w HK.out (by omega)).mono fun e w' (h : e = .returned (.int .i64 (if v + (I : Int) < v then 0 else u / pw p (v + I - v) % p)) ∧ _) => (show e = .returned (.int .i64 (u / pw p (I : Int) % p)) ∧ Below w.heap.size w w' by
        rw [if_neg (by omega), show v + (I : Int) - v = I by omega] at h; exact h))
      have hw1 : IntKind.i64.wrap (v + (I : Int)) = v + I := IntWalk.i64_in _ (by omega)
      generalize u / pw p (I : Int) % p = y at *
      clear HK
      go_wp2_with (first
        | (go_at_call 68; refine (HD.out _).mono ?_; rintro e w2 ⟨rfl, hb2⟩; have hrw : IntRow w.heap.size w2 _ _ := row_below HW.out hb2 (Nat.le_refl _); have hbl := HL.out.trans (hb2.mono HL.out.size); have hpd := padAt_keep HB.out (frP_below hb2); have hsz := hb2.size; have hsz0 := HL.out.size)
        | (at_builtin; refine wpList_append_own _ rfl (.tmp 12) (.tmp 19) 51 rfl w.heap.size 2 i0 (.int .i64 0) 1 8 Tryz.underlying51 HI.out HZ0.out HZ1.out HZ2.out rfl (by decide) _ _ _ rfl (hrw.alloc _) ⟨w2.heap.size, 0, none⟩ 1 1 [.int .i64 y] rfl rfl ?c1 ?c2 ?c3 ?c4 ?c5 ?_))
      case c1 => first | exact news_one _ _ _ | simp [Addr.add]
      case c2 => first | exact one_one _ | rfl
      case c3 => unfold maxLen; omega
      case c4 => omega
      case c5 => first | omega | (simp; omega)
      intro v' w3 hown hgrow _
      have hF := frP_trans (frP_below (below_a1 w2 (.cells #[.int .i64 y] 2))) (frP_row (hrw.alloc _) (by decide) hgrow)
      have hpd3 := Lib.hid (padAt_keep hpd hF)
      have HO := Lib.hid (intRow_snoc hown)
      have HG := Lib.hid (((hbl.alloc (by omega) (.cells #[.int .i64 y] 2)).grown hgrow (by simp; omega) (fun k hk => (World.ownsRow.lt hrw k hk).1) : Below w.heap.size w w3))
      clear hown hgrow hF hpd hrw hbl
      go_wp2
      go_roundw
      case rel => exact ⟨I + 1, by go_num, by omega, hpd3.out, by rw [HS.out]; exact HO.out, HG.out⟩
      case measure => simp [intOf]; omega
    · have hk2 : I = n.toNat := by omega
      have HI2 := Lib.hid hk2
      clear hk2
      obtain ⟨o, c, hv⟩ := row_slice HW.out
      subst hv
      go_wp2
      go_ret
      exact ⟨_, rfl, by rw [← HI2.out]; exact HW.out, HL.out⟩
theorem row_form {base : Nat} {w : World} {v : Value} {l : List Int} (h : IntRow base w v l) :
    ∃ o g c, v = .slice o l.length c ∧ (0 < l.length → o = some ⟨g, 0, none⟩) ∧ ∀ k, k < l.length → w.cell? ⟨g, k, none⟩ = some (.int .i64 (l.getD k 0)) := by
  rcases row_shape h with ⟨h0, o, c, rfl⟩ | ⟨h0, g, c, rfl, hb, hg⟩
  · exact ⟨o, 0, c, by rw [h0], fun h => by omega, fun k hk => by omega⟩
  · exact ⟨_, g, c, rfl, fun _ => rfl, int_cells h⟩
theorem digL_all {p v u n : Int} (h : POk p v u n) : (digL p u n.toNat).length ≤ 40 ∧ ∀ d ∈ digL p u n.toNat, 0 ≤ d ∧ d < 97 := by
  obtain ⟨hp2, hp97, hn0, hn1, _⟩ := pok_bd h
  refine ⟨by rw [digL_length]; omega, fun d hd => ?_⟩
  have := digL_bd hp2 hd
  omega
end Go.Proofs.YtejgcamogjgdkaaGreatDoor
namespace Go.Proofs.YtejgcamogjgdkaaGreatDoor
open Go.RowKit
set_option linter.unusedVariables false
set_option linter.unusedSimpArgs false
theorem all_take {f : Int → Bool} {l : List Int} {k : Nat} (hk : k < l.length) : (l.take (k + 1)).all f = ((l.take k).all f && f (l.getD k 0)) := by
  rw [List.take_succ_eq_append_getElem hk, List.all_append]
  simp [List.getD, hk]
/-- the modulus for a number of digits, 0 if there are too many -/
def manyM (p : Int) (n : Nat) : Int := if pw p n ≤ 1000000000 then pw p n else 0
theorem l02Many_any (p : Int) (n : Nat) (w : World) (hs : smallB p = true) (hn : n ≤ 40) :
    Calls Tryz.prog 46 #[.int .i64 p, .int .i64 n] w fun e w' => e = .returned (.int .i64 (manyM p n)) ∧ w = w' := by
  obtain ⟨hp2, hp97⟩ := smallB_bd hs
  by_cases h0 : n = 0
  · subst h0
    have e : manyM p 0 = pw p ((0 : Nat) : Int) := by unfold manyM; rw [if_pos]; simp [pw]
    rw [e]
    exact l02Pow_any p _ w hp2 hp97 (by omega) (by simp [pw])
  · refine (l02Modulus_any p n w hs (by omega) (by omega)).mono fun e w' h => ⟨?_, h.2⟩
    rw [h.1]
    unfold manyM
    by_cases h1 : pw p n ≤ 1000000000
    · rw [if_pos h1, ringM_pw hs (by omega) h1]
    · rw [if_neg h1]
      congr 2
      refine Classical.byContradiction fun hr => ?_
      have e := pw_ringM hr
      obtain ⟨_, _, _, _, _, h2, _⟩ := ringM_bd hr
      omega
set_option maxHeartbeats 1600000 in
theorem specFrom_row (p place : Int) (o : Option Addr) (g n c : Nat) (l : List Int) (w : World) (ho : 0 < n → o = some ⟨g, 0, none⟩) (hl : n = l.length) (hn : n ≤ 1100000) (hg : 0 < n → g < w.heap.size)
    (hc : ∀ k, k < n → w.cell? ⟨g, k, none⟩ = some (.int .i64 (l.getD k 0))) :
    Calls Tryz.prog 31 #[.int .i64 p, .int .i64 place, .slice o n c] w fun e w' => e = .returned (.tuple #[.agg (A4 (fromQ p place l)), .int .i64 (fromC p place l)]) ∧ Below w.heap.size w w' := by
  cases hs : smallB p
  · rw [show fromQ p place l = (0, 0, 0, 0) by simp [fromQ, hs], show fromC p place l = 1 by simp [fromC, hs]]
    go_enter Tryz.func31, Tryz.ntmps31
    go_wp2_with (go_at_call 42; refine (l01Small_any _ _).mono ?_; rw [hs]; rintro e w' ⟨rfl, rfl⟩)
    refine bodyPost_ret (v := .tuple #[.agg (P4 0 0 0 0), .int .i64 1]) (by simp [results, Tryz.results31, go_sem]) rfl ?_
    exact ⟨rfl, below_a1 _ _⟩
  · obtain ⟨hp2, hp97⟩ := smallB_bd hs
    have HO := Lib.hid ho
    have HL := Lib.hid hl
    have HC : Hid (∀ k, k < n → (w.alloc (.cells (P4 0 0 0 0) 25)).cell? ⟨g, k, none⟩ = some (.int .i64 (l.getD k 0))) :=
      Lib.hid fun k hk => by rw [(below_a1 w (.cells (P4 0 0 0 0) 25)).cell (p := ⟨g, k, none⟩) (hg (by omega))]; exact hc k hk
    clear ho hl hc hg
    go_enter Tryz.func31, Tryz.ntmps31
    go_wp2_with (first | (go_at_call 42; refine (l01Small_any _ _).mono ?_; rw [hs]; rintro e w' ⟨rfl, rfl⟩) | (go_at_call 43; refine (in_any _ _ _ _).mono ?_; rintro e w' ⟨rfl, rfl⟩))
    go_loop [8, 9] (fun b i => ∃ k : Nat, k ≤ n ∧ i = .int .i64 k ∧ b = .bool (inB place (-60) 60 && (l.take k).all (digB p))) (fun _ i => n - (intOf i).toNat)
    case atStart => exact ⟨0, Nat.zero_le _, rfl, by simp⟩
    case round =>
      obtain ⟨k, hk, rfl, rfl⟩ := hrel
      by_cases hlt : k < n
      · have hkl : k < l.length := by have := HL.out; omega
        have hog := HO.out (by omega)
        subst hog
        have a2 := HC.out k hlt
        have HS := Lib.hid (all_take (f := digB p) hkl)
        generalize l.getD k 0 = x at *
        generalize (l.take k).all (digB p) = t at *
        clear hkl
        cases ht : (inB place (-60) 60 && t)
        · have HE := Lib.hid (show (inB place (-60) 60 && (l.take (k + 1)).all (digB p)) = false by rw [HS.out, ← Bool.and_assoc, ht, Bool.false_and])
          clear ht
          go_wp2
          exact ⟨⟨k + 1, by omega, by go_num, by rw [HE.out]⟩, by simp [intOf]; omega⟩
        · have HE := Lib.hid (show (inB place (-60) 60 && (l.take (k + 1)).all (digB p)) = inB x 0 (p - 1) by rw [HS.out, ← Bool.and_assoc, ht, Bool.true_and]; rfl)
          clear ht
          go_wp2_with (go_at_call 43; refine (in_any _ _ _ _).mono ?_; rintro e w' ⟨rfl, rfl⟩)
          exact ⟨⟨k + 1, by omega, by go_num, by rw [HE.out]⟩, by simp [intOf]; omega⟩
      · have hkn : k = n := by omega
        have hta : (inB place (-60) 60 && (l.take k).all (digB p)) = digsB p place l := by
          rw [List.take_of_length_le (by have := HL.out; omega)]; rfl
        rw [hta]
        clear hkn hta
        cases hd : digsB p place l
        · have HQ := Lib.hid (And.intro (show fromQ p place l = (0, 0, 0, 0) by simp [fromQ, hd]) (show fromC p place l = 2 by simp [fromC, hs, hd]))
          go_wp2
          refine bodyPost_ret (v := .tuple #[.agg (P4 0 0 0 0), .int .i64 2]) (by simp [results, Tryz.results31, go_sem]) rfl ?_
          rw [HQ.out.1, HQ.out.2]
          exact ⟨rfl, below_a1 _ _⟩
        · have hk60 : -60 ≤ place ∧ place ≤ 60 := by
            unfold digsB at hd
            simp only [Bool.and_eq_true] at hd
            simpa [inB] using hd.1
          obtain ⟨hk0, hk1⟩ := hk60
          have hall : l.all (digB p) = true := by
            unfold digsB at hd
            simp only [Bool.and_eq_true] at hd
            exact hd.2
          by_cases h40 : 40 < n
          · have hm : ¬ pw p (l.length : Int) ≤ 1000000000 := fun h => by have := pw_29 hp2 h; have := HL.out; omega
            have HQ := Lib.hid (And.intro (show fromQ p place l = (0, 0, 0, 0) by simp [fromQ, hm]) (show fromC p place l = 3 by simp [fromC, hs, hd, hm]))
            clear hd hall hm
            go_wp2
            refine bodyPost_ret (v := .tuple #[.agg (P4 0 0 0 0), .int .i64 3]) (by simp [results, Tryz.results31, go_sem]) rfl ?_
            rw [HQ.out.1, HQ.out.2]
            exact ⟨rfl, below_a1 _ _⟩
          · by_cases hm : pw p (l.length : Int) ≤ 1000000000
            · have hpos := pw_ge1 (p := p) (a := (l.length : Int)) hp2
              have hmm : manyM p n = pw p (l.length : Int) := by unfold manyM; rw [HL.out, if_pos hm]
              have HMM := Lib.hid fun w => (l02Many_any p n w hs (by omega)).mono fun e w' h => (show e = .returned (.int .i64 (pw p (l.length : Int))) ∧ w = w' by rw [← hmm]; exact h)
              have HD := Lib.hid hall
              have HM := Lib.hid hm
              have HQ : Hid (fromQ p place l = resQ p (makeT p place (horner p l) (place + l.length)).1 (makeT p place (horner p l) (place + l.length)).2.1 (makeT p place (horner p l) (place + l.length)).2.2 ∧ fromC p place l = limC p (makeT p place (horner p l) (place + l.length)).1 (makeT p place (horner p l) (place + l.length)).2.1 (makeT p place (horner p l) (place + l.length)).2.2) := Lib.hid (by
                simp [fromQ, fromC, hs, hd, hm])
              clear hd hall hmm
              have hz : (pw p (l.length : Int) == 0) = false := by simp; omega
              generalize hM : pw p (l.length : Int) = M at *
              have HMe := Lib.hid hM
              clear hM
              go_wp2_with (go_at_call 46; refine (HMM.out _).mono ?_; rintro e w' ⟨rfl, rfl⟩)
              go_loop [10, 11] (fun a i => ∃ (j : Nat) (x : Int), j ≤ n ∧ i = .int .i64 x ∧ x = (n : Int) - 1 - j ∧ a = .int .i64 (horner p (l.drop (l.length - j)))) (fun _ i => (intOf i + 1).toNat)
              case atStart => exact ⟨0, (n : Int) - 1, Nat.zero_le _, rfl, by omega, by simp [horner]⟩
              case round =>
                obtain ⟨j, x, hj, rfl, hx, rfl⟩ := hrel
                by_cases hjn : j < n
                · have hjl : j < l.length := by have := HL.out; omega
                  obtain ⟨m, hm2⟩ : ∃ m : Nat, x = m := ⟨x.toNat, by omega⟩
                  subst hm2
                  have hmn : m < n := by omega
                  have hme : m = l.length - 1 - j := by have := HL.out; omega
                  have hog := HO.out (by omega)
                  subst hog
                  have a2 := HC.out m hmn
                  have hh := horner_drop p hjl
                  rw [← hme] at hh
                  obtain ⟨b0, b1⟩ := horner_drop_bd (k := j) hp2 HD.out (by omega) (by rw [HMe.out]; omega)
                  obtain ⟨b2, b3⟩ := horner_drop_bd (k := j + 1) hp2 HD.out (by omega) (by rw [HMe.out]; omega)
                  rw [hh] at b2 b3
                  have hd0 : 0 ≤ l.getD m 0 ∧ l.getD m 0 < p := by
                    have := List.all_eq_true.1 HD.out (l.getD m 0) (by simp [List.getD, show m < l.length by omega])
                    simp only [digB, inB, Bool.and_eq_true, decide_eq_true_eq] at this
                    omega
                  have HH := Lib.hid hh
                  generalize horner p (l.drop (l.length - j)) = a at *
                  generalize l.getD m 0 = y at *
                  have hm0 := Int.mul_nonneg b0 (show 0 ≤ p by omega)
                  rw [Int.mul_comm a p] at *
                  have hw1 : IntKind.i64.wrap (p * a) = p * a := IntWalk.i64_in _ (by omega)
                  have hw2 : IntKind.i64.wrap (p * a + y) = p * a + y := IntWalk.i64_in _ (by omega)
                  have hge : (0 : Int) ≤ (m : Int) := by omega
                  have hm1 : (m : Int) ≤ 1100000 := by omega
                  have HX := Lib.hid hx
                  clear hx hme hh hjl
                  go_wp2
                  exact ⟨⟨j + 1, (m : Int) - 1, by omega, rfl, by have := HX.out; omega, by rw [HH.out, Int.mul_comm]⟩, by simp [intOf]⟩
                · have hjn2 : j = n := by omega
                  have hx1 : x < 0 := by omega
                  have he : horner p (l.drop (l.length - j)) = horner p l := by rw [show l.length - j = 0 by have := HL.out; omega, List.drop_zero]
                  rw [he]
                  obtain ⟨b0, b1⟩ := horner_drop_bd (k := l.length) hp2 HD.out (Nat.le_refl _) (by rw [HMe.out]; omega)
                  rw [Nat.sub_self, List.drop_zero] at b0 b1
                  have hnl : (n : Int) = l.length := by have := HL.out; omega
                  have HT := fun w => l03Make_any p place (horner p l) (place + l.length) w hp2 hp97 (by omega) (by omega) (by omega) (by rw [show place + (l.length : Int) - place = l.length by omega, HMe.out]; omega) b0
                  rw [← hnl] at HT
                  have hQ2 := HQ.out
                  rw [← hnl] at hQ2
                  generalize makeT p place (horner p l) (place + n) = z at *
                  generalize horner p l = h at *
                  replace HT := Lib.hid HT
                  replace HQ := Lib.hid hQ2
                  have hw1 : IntKind.i64.wrap (place + (n : Int)) = place + n := IntWalk.i64_in _ (by omega)
                  clear hjn2 he hnl hQ2
                  go_wp2_with (first | (go_at_call 59; refine (HT.out _).mono ?_; rintro e wn ⟨rfl, hb⟩; have K := k1_first hb) | (go_at_call 58; refine (l03Result_any _ _ _ _ _).mono ?_; rintro e wn ⟨rfl, hb⟩; have K := k1_next K hb; obtain ⟨c0, c1, c2, c3⟩ := lies_four K.2; obtain ⟨cf0, cf1, cf2, cf3⟩ := lies_ice K.2))
                  refine bodyPost_ret (v := .tuple #[.agg (A4 (resQ p z.1 z.2.1 z.2.2)), .int .i64 (limC p z.1 z.2.1 z.2.2)]) (by simp [results, Tryz.results31, go_sem, c0, c1, c2, c3]) rfl ?_
                  rw [HQ.out.1, HQ.out.2]
                  exact ⟨rfl, below_set4 K.1 (by omega)⟩
            · have HMM := Lib.hid fun w => (l02Many_any p n w hs (by omega)).mono fun e w' h => (show e = .returned (.int .i64 0) ∧ w = w' by
                rw [show manyM p n = 0 by unfold manyM; rw [HL.out, if_neg hm]] at h; exact h)
              have HQ := Lib.hid (And.intro (show fromQ p place l = (0, 0, 0, 0) by simp [fromQ, hm]) (show fromC p place l = 3 by simp [fromC, hs, hd, hm]))
              clear hd hall hm
              go_wp2_with (go_at_call 46; refine (HMM.out _).mono ?_; rintro e w' ⟨rfl, rfl⟩)
              refine bodyPost_ret (v := .tuple #[.agg (P4 0 0 0 0), .int .i64 3]) (by simp [results, Tryz.results31, go_sem]) rfl ?_
              rw [HQ.out.1, HQ.out.2]
              exact ⟨rfl, below_a1 _ _⟩
theorem specFrom_any {base : Nat} {w : World} {v : Value} {l : List Int} (p place : Int) (h : IntRow base w v l) (hl : l.length ≤ 1100000) :
    Calls Tryz.prog 31 #[.int .i64 p, .int .i64 place, v] w fun e w' => e = .returned (.tuple #[.agg (A4 (fromQ p place l)), .int .i64 (fromC p place l)]) ∧ Below w.heap.size w w' := by
  rcases row_shape h with ⟨h0, o, c, rfl⟩ | ⟨h0, g, c, rfl, hb, hg⟩
  · exact specFrom_row p place o 0 0 c l w (fun h => by omega) h0.symm (by omega) (fun h => by omega) (fun k hk => by omega)
  · exact specFrom_row p place _ g l.length c l w (fun _ => rfl) rfl hl (fun _ => hg) (int_cells h)
end Go.Proofs.YtejgcamogjgdkaaGreatDoor
namespace Go.Proofs.YtejgcamogjgdkaaGreatDoor
open Go.RowKit
set_option linter.unusedVariables false
theorem itoa_char {n : Int} {c : UInt8} (h : c ∈ Lib.itoa n) : isDig c = true ∨ c = 45 := by
  unfold Lib.itoa at h
  split at h
  · rcases List.mem_cons.1 h with rfl | h
    · exact .inr rfl
    · exact .inl (List.all_eq_true.1 (decDigits_val _).1 c h)
  · exact .inl (List.all_eq_true.1 (decDigits_val _).1 c h)
theorem itoa_no (n : Int) {b : UInt8} (h1 : isDig b = false) (h2 : b ≠ 45) : b ∉ Lib.itoa n := by
  intro h
  rcases itoa_char h with h | h
  · rw [h] at h1; cases h1
  · exact h2 h
theorem parseU_dec (k : Nat) (h : k ≤ 1000000) : Lib.parseUintB 64 (Lib.decDigits k) = .ok k := by
  obtain ⟨d1, d2⟩ := decDigits_val k
  have hl := decDigits_len 12 k (by omega)
  obtain ⟨l, hL⟩ : ∃ l, Lib.decDigits k = l := ⟨_, rfl⟩
  have hne : l ≠ [] := by rw [← hL, Lib.decDigits]; split <;> simp
  rw [hL] at d1 d2 hl ⊢
  have hpow : (0 + 1) * 10 ^ l.length ≤ 1000000000000000000 := by
    rw [Nat.zero_add, Nat.one_mul]
    exact Nat.le_trans (Nat.pow_le_pow_right (by decide) hl) (by decide)
  obtain ⟨u, e1, e2, e3⟩ := uintM_dig (2 ^ 64 - 1) (by decide) l 0 d1 hpow
  have hu : (u : Int) = k := by rw [e2]; exact d2
  have : u = k := by omega
  subst this
  unfold Lib.parseUintB
  rw [if_neg hne]
  exact e1
theorem pI_itoaS (n : Int) (h0 : -1000000 ≤ n) (h1 : n ≤ 1000000) : pI (Lib.itoa n) = some n := by
  by_cases hn : 0 ≤ n
  · exact pI_itoa n hn h1
  · have e : Lib.itoa n = 45 :: Lib.decDigits n.natAbs := by unfold Lib.itoa; rw [if_pos (by omega)]
    have hp := parseU_dec n.natAbs (by omega)
    have hi : Lib.parseIntB 64 (45 :: Lib.decDigits n.natAbs) = .ok n := by
      unfold Lib.parseIntB
      simp only
      rw [if_pos (.inr (by decide)), hp]
      simp only
      rw [if_neg (by simp), if_neg (by simp; omega), if_pos (by decide)]
      congr 1
      omega
    rw [e]
    unfold pI
    rw [hi]
/-- the digits' text, and the text of a number -/
def digT (l : List Int) : List UInt8 := Lib.join (l.map Lib.itoa) [44]
def lastT (p u n : Int) : List UInt8 := if n = 0 then [45] else digT (digL p u n.toNat)
def textL (p v u n : Int) : List UInt8 := Lib.itoa p ++ 58 :: (Lib.itoa v ++ 58 :: lastT p u n)
theorem mem_joinTail {sep : List UInt8} {c : UInt8} : ∀ {r : List (List UInt8)}, c ∈ Lib.joinTail sep r → (∃ x ∈ r, c ∈ x) ∨ c ∈ sep := by
  intro r h
  unfold Lib.joinTail at h
  rw [List.mem_flatten] at h
  obtain ⟨x, hx, hc⟩ := h
  obtain ⟨y, hy, rfl⟩ := List.mem_map.1 hx
  rcases List.mem_append.1 hc with h | h
  · exact .inr h
  · exact .inl ⟨y, hy, h⟩
theorem mem_join {sep : List UInt8} {c : UInt8} {ls : List (List UInt8)} (h : c ∈ Lib.join ls sep) : (∃ x ∈ ls, c ∈ x) ∨ c ∈ sep := by
  cases ls with
  | nil => rw [Lib.join_nil] at h; cases h
  | cons a r =>
    rw [Lib.join_cons] at h
    rcases List.mem_append.1 h with h | h
    · exact .inl ⟨a, by simp, h⟩
    · rcases mem_joinTail h with ⟨x, hx, hc⟩ | h
      · exact .inl ⟨x, by simp [hx], hc⟩
      · exact .inr h
theorem digT_no (l : List Int) : (58 : UInt8) ∉ digT l := by
  intro h
  rcases mem_join h with ⟨x, hx, hc⟩ | h
  · obtain ⟨d, _, rfl⟩ := List.mem_map.1 hx
    exact itoa_no d (by decide) (by decide) hc
  · simp at h
theorem lastT_no (p u n : Int) : (58 : UInt8) ∉ lastT p u n := by
  unfold lastT
  split
  · simp
  · exact digT_no _
theorem split_text (p v u n : Int) : splitL (bsOf (textL p v u n)) 58 = [bsOf (Lib.itoa p), bsOf (Lib.itoa v), bsOf (lastT p u n)] := by
  rw [splitL_eq]
  show (spL 58 (textL p v u n)).map bsOf = _
  unfold textL
  rw [spL_more 58 _ _ (itoa_no p (by decide) (by decide)), spL_more 58 _ _ (itoa_no v (by decide) (by decide)), spL_one 58 _ (lastT_no p u n)]
  rfl
theorem cut_text (p v u n : Int) : Lib.cut (textL p v u n) [58] = (Lib.itoa p, Lib.itoa v ++ 58 :: lastT p u n, true) ∧ Lib.cut (Lib.itoa v ++ 58 :: lastT p u n) [58] = (Lib.itoa v, lastT p u n, true) :=
  ⟨cut_byte 58 _ _ (itoa_no p (by decide) (by decide)), cut_byte 58 _ _ (itoa_no v (by decide) (by decide))⟩
theorem split_digT {l : List Int} (h : l ≠ []) : splitL (bsOf (digT l)) 44 = l.map fun d => bsOf (Lib.itoa d) := by
  rw [splitL_eq]
  show (spL 44 (digT l)).map bsOf = _
  unfold digT
  rw [spL_of_join 44 (l.map Lib.itoa) (by simpa using h) (fun x hx => by
    obtain ⟨d, _, rfl⟩ := List.mem_map.1 hx
    exact itoa_no d (by decide) (by decide)), List.map_map]
  rfl
theorem bsOf_inj {a b : List UInt8} (h : bsOf a = bsOf b) : a = b := by
  have := congrArg (fun x : ByteArray => x.data.toList) h
  simpa [bsOf] using this
theorem digT_ne {l : List Int} (h : l ≠ []) (hd : ∀ d ∈ l, 0 ≤ d ∧ d < 97) : ¬ bsOf (digT l) = ⟨#[45]⟩ := by
  intro e
  have hs := split_digT h
  rw [e, show splitL (⟨#[45]⟩ : ByteArray) 44 = [⟨#[45]⟩] by decide] at hs
  cases l with
  | nil => exact h rfl
  | cons d r =>
    simp only [List.map_cons] at hs
    have h1 : (⟨#[45]⟩ : ByteArray) = bsOf (Lib.itoa d) := (List.cons.inj hs).1
    have h2 : Lib.itoa d = [45] := (bsOf_inj (show bsOf [45] = bsOf (Lib.itoa d) from h1)).symm
    have h3 := hd d (by simp)
    have h4 := pI_itoaS d (by omega) (by omega)
    rw [h2] at h4
    have h5 : pI [45] = none := by decide
    rw [h5] at h4; cases h4
/-- a text of a valid number -/
def IsText (s : ByteArray) (q : Q4) : Prop := POk q.1 q.2.1 q.2.2.1 q.2.2.2 ∧ bsOf (textL q.1 q.2.1 q.2.2.1 q.2.2.2) = s
/-- what readDigits takes -/
def RdD (c : ByteArray) (l : List Int) : Prop := (c = ⟨#[45]⟩ ∧ l = []) ∨ (¬ c = ⟨#[45]⟩ ∧ (splitL c 44).map (fun x => pI x.data.toList) = l.map some)
theorem digs_ne {p v u n : Int} (h : POk p v u n) (hn : n ≠ 0) : digL p u n.toNat ≠ [] ∧ ∀ d ∈ digL p u n.toNat, 0 ≤ d ∧ d < 97 := by
  refine ⟨?_, (digL_all h).2⟩
  intro e
  have := congrArg List.length e
  rw [digL_length] at this
  have := (pok_bd h).2.2.1
  simp at *; omega
theorem last_rd {p v u n : Int} (h : POk p v u n) : RdD (bsOf (lastT p u n)) (digL p u n.toNat) := by
  unfold lastT
  by_cases hn : n = 0
  · rw [if_pos hn, hn]; exact .inl ⟨rfl, rfl⟩
  · rw [if_neg hn]
    obtain ⟨h1, h2⟩ := digs_ne h hn
    refine .inr ⟨digT_ne h1 h2, ?_⟩
    rw [split_digT h1, List.map_map]
    apply List.map_congr_left
    intro d hd
    obtain ⟨a, b⟩ := h2 d hd
    exact pI_itoaS d (by omega) (by omega)
theorem map_some_inj {α : Type} : ∀ {a b : List α}, a.map some = b.map some → a = b
  | [], [], _ => rfl
  | [], _ :: _, h => by simp at h
  | _ :: _, [], h => by simp at h
  | x :: a, y :: b, h => by
    rw [List.map_cons, List.map_cons] at h
    obtain ⟨h1, h2⟩ := List.cons.inj h
    rw [Option.some.inj h1, map_some_inj h2]
theorem rdD_inj {c : ByteArray} {a b : List Int} (ha : RdD c a) (hb : RdD c b) : a = b := by
  rcases ha with ⟨e1, rfl⟩ | ⟨e1, h1⟩
  · rcases hb with ⟨_, rfl⟩ | ⟨e2, _⟩
    · rfl
    · exact absurd e1 e2
  · rcases hb with ⟨e2, _⟩ | ⟨_, h2⟩
    · exact absurd e2 e1
    · exact map_some_inj (h1.symm.trans h2)
/-- what is read off a text -/
theorem text_reads {s : ByteArray} {q : Q4} (h : IsText s q) :
    pI (Lib.cut s.data.toList [58]).1 = some q.1 ∧ pI (Lib.cut (Lib.cut s.data.toList [58]).2.1 [58]).1 = some q.2.1 ∧
    RdD (bsOf (Lib.cut (Lib.cut s.data.toList [58]).2.1 [58]).2.1) (digL q.1 q.2.2.1 q.2.2.2.toNat) ∧ fromC q.1 q.2.1 (digL q.1 q.2.2.1 q.2.2.2.toNat) = 0 ∧ fromQ q.1 q.2.1 (digL q.1 q.2.2.1 q.2.2.2.toNat) = q := by
  obtain ⟨hk, rfl⟩ := h
  have e : (bsOf (textL q.1 q.2.1 q.2.2.1 q.2.2.2)).data.toList = textL q.1 q.2.1 q.2.2.1 q.2.2.2 := by simp [bsOf]
  obtain ⟨c1, c2⟩ := cut_text q.1 q.2.1 q.2.2.1 q.2.2.2
  obtain ⟨hp2, hp97, _⟩ := pok_bd hk
  have hv0 := hk.2.1
  have hv1 := hk.2.2.1
  obtain ⟨f1, f2⟩ := from_digits hk
  rw [e, c1]
  simp only
  rw [c2]
  exact ⟨pI_itoaS _ (by omega) (by omega), pI_itoaS _ (by omega) (by omega), last_rd hk, f1, f2⟩
theorem text_inj {s : ByteArray} {q q' : Q4} (h : IsText s q) (h' : IsText s q') : q = q' := by
  obtain ⟨a1, a2, a3, _, a5⟩ := text_reads h
  obtain ⟨b1, b2, b3, _, b5⟩ := text_reads h'
  rw [a1] at b1
  rw [a2] at b2
  have e := rdD_inj a3 b3
  rw [← a5, ← b5, ← e, Option.some.inj b1, Option.some.inj b2]
/-- a number that FromDigits answers is valid -/
theorem from_ok {p k : Int} {l : List Int} (h : fromC p k l = 0) : POk (fromQ p k l).1 (fromQ p k l).2.1 (fromQ p k l).2.2.1 (fromQ p k l).2.2.2 := by
  unfold fromC at h
  unfold fromQ
  split at h
  · rename_i hs
    split at h
    · rename_i hd
      split at h
      · rename_i hm
        have hb := lim_zero h
        rw [hs, hd, decide_eq_true hm]
        simp only [Bool.and_self, if_true, resQ, hb]
        exact padB_ok hb
      · omega
    · omega
  · omega
/-- the answer of both ReadPadic -/
def ReadPost (s : ByteArray) (w : World) (e : Ending) (w' : World) : Prop :=
  ∃ (q : Q4) (c : Int), e = .returned (.tuple #[.agg (A4 q), .int .i64 c]) ∧ Below w.heap.size w w' ∧ ((c = 0 ∧ IsText s q) ∨ (c = 6 ∧ q = (0, 0, 0, 0) ∧ ¬ ∃ q, IsText s q))
theorem read_agree {s : ByteArray} {q q' : Q4} {c c' : Int} (h : (c = 0 ∧ IsText s q) ∨ (c = 6 ∧ q = (0, 0, 0, 0) ∧ ¬ ∃ q, IsText s q)) (h' : (c' = 0 ∧ IsText s q') ∨ (c' = 6 ∧ q' = (0, 0, 0, 0) ∧ ¬ ∃ q, IsText s q)) : q = q' ∧ c = c' := by
  rcases h with ⟨rfl, h1⟩ | ⟨rfl, rfl, h1⟩
  · rcases h' with ⟨rfl, h2⟩ | ⟨rfl, rfl, h2⟩
    · exact ⟨text_inj h1 h2, rfl⟩
    · exact absurd ⟨q, h1⟩ h2
  · rcases h' with ⟨rfl, h2⟩ | ⟨rfl, rfl, h2⟩
    · exact absurd ⟨q', h2⟩ h1
    · exact ⟨rfl, rfl⟩
end Go.Proofs.YtejgcamogjgdkaaGreatDoor
namespace Go.Proofs.YtejgcamogjgdkaaGreatDoor
open Go
set_option linter.unusedVariables false
def ordersOf (md : Region.Mode) (ops : Array Oper) : Nat → Array Bool → List (List Nat)
  | 0, _ => [[]]
  | fuel + 1, listed => if (Region.ready md ops listed).isEmpty then [[]] else (Region.ready md ops listed).flatMap fun i => (ordersOf md ops fuel (listed.setIfInBounds i true)).map (i :: ·)
theorem linearise_in (md : Region.Mode) (ops : Array Oper) : ∀ (fuel t : Nat) (listed : Array Bool), Region.linearise.go md ops fuel t listed [] ∈ ordersOf md ops fuel listed := by
  intro fuel
  induction fuel with
  | zero => intro t listed; simp [Region.linearise.go, ordersOf]
  | succ fuel ih =>
    intro t listed
    simp only [Region.linearise.go]
    change (match (Region.ready md ops listed)[t % (Region.ready md ops listed).length]? with
      | some i => Region.linearise.go md ops fuel (t / (Region.ready md ops listed).length) (listed.setIfInBounds i true) [i]
      | none => [].reverse) ∈ _
    cases hi : (Region.ready md ops listed)[t % (Region.ready md ops listed).length]? with
    | none =>
      have hnil : Region.ready md ops listed = [] := by
        cases hr : Region.ready md ops listed with
        | nil => rfl
        | cons x xs =>
          rw [hr] at hi
          have hlt : t % (x :: xs).length < (x :: xs).length := Nat.mod_lt _ (by simp)
          simp at hi
          simp at hlt
          omega
      simp [ordersOf, hnil]
    | some i =>
      have hm := List.mem_of_getElem? hi
      have hne : (Region.ready md ops listed).isEmpty = false := by
        cases hr : Region.ready md ops listed with
        | nil => rw [hr] at hm; cases hm
        | cons x xs => rfl
      simp only []
      rw [linearise_go_acc, List.reverse_singleton, List.singleton_append]
      simp only [ordersOf, hne, if_false, Bool.false_eq_true]
      exact List.mem_flatMap.2 ⟨i, hm, List.mem_map.2 ⟨_, ih _ _, rfl⟩⟩
theorem wpIn_region_orders {F : Fence} {n : Nat} {P : Program} {id : Nat} {ops : Array Oper} {Q : Exit → Act → World → Prop} {a : Act} {w : World} {L : List (List Nat)} (hm : P.follows .mixedOrders = true)
    (hL : ordersOf .any ops ops.size (Array.replicate ops.size false) = L) (h : ∀ l ∈ L, wpOpsIn F n P ops Q l a w.drew) : (Code.region id ops true).wpIn F n P Q a w :=
  wpIn_region_draw fun t => by
    have := h (Region.linearise.go .any ops ops.size t (Array.replicate ops.size false) []) (hL ▸ linearise_in _ _ _ _ _)
    simp only [Region.schedule, hm, Bool.true_or, if_true]
    exact this
theorem wpOpsIn_list {F : Fence} {n : Nat} {P : Program} {ops : Array Oper} {Q : Exit → Act → World → Prop} : ∀ (idx : List Nat) (a : Act) (w : World), (∀ i ∈ idx, i < ops.size) →
    wpListIn F n P ops Q (idx.filterMap fun i => ops[i]?) a w → wpOpsIn F n P ops Q idx a w := by
  intro idx
  induction idx with
  | nil => intro a w _ h; exact h
  | cons i idx ih =>
    intro a w hi h
    have hlt := hi i (by simp)
    have e : ops[i]? = some ops[i] := Array.getElem?_eq_getElem hlt
    rw [List.filterMap_cons_some e] at h
    unfold wpOpsIn
    simp only [e]
    unfold wpListIn at h
    split
    · rename_i hw
      rw [if_pos hw] at h
      exact Oper.wpIn_mono (fun a w => ih a w fun j hj => hi j (by simp [hj])) h
    · rename_i hw
      rw [if_neg hw] at h
      exact ⟨h.1, ih _ _ (fun j hj => hi j (by simp [hj])) h.2⟩
end Go.Proofs.YtejgcamogjgdkaaGreatDoor
namespace Go.Proofs.YtejgcamogjgdkaaGreatDoor
open Go.RowKit Go.Shelf
attribute [local go_sem] Oper.semAt_some
set_option linter.unusedVariables false
set_option linter.unusedSimpArgs false
theorem itoa_len {n : Int} (h0 : -1000000 ≤ n) (h1 : n ≤ 1000000) : (Lib.itoa n).length ≤ 20 := by
  unfold Lib.itoa
  split
  · have := decDigits_len 10 n.natAbs (by omega)
    simp; omega
  · have := decDigits_len 10 n.toNat (by omega)
    omega
theorem joinTail_len {sep : List UInt8} {m : Nat} : ∀ {r : List (List UInt8)}, (∀ x ∈ r, x.length ≤ m) → (Lib.joinTail sep r).length ≤ (m + sep.length) * r.length := by
  intro r
  induction r with
  | nil => intro _; simp [Lib.joinTail]
  | cons a r ih =>
    intro h
    have h1 := ih fun x hx => h x (List.mem_cons_of_mem _ hx)
    have h2 := h a List.mem_cons_self
    have e : Lib.joinTail sep (a :: r) = sep ++ a ++ Lib.joinTail sep r := by simp [Lib.joinTail]
    rw [e, List.length_append, List.length_append, List.length_cons, Nat.mul_succ]
    omega
theorem digT_len {l : List Int} (hl : l.length ≤ 40) (hd : ∀ d ∈ l, 0 ≤ d ∧ d < 97) : (digT l).length ≤ 1000 := by
  unfold digT
  cases l with
  | nil => simp [Lib.join_nil]
  | cons a r =>
    rw [List.map_cons, Lib.join_cons, List.length_append]
    have ha := hd a List.mem_cons_self
    have h1 := itoa_len (n := a) (by omega) (by omega)
    have h2 : (Lib.joinTail [44] (r.map Lib.itoa)).length ≤ (20 + [44].length) * (r.map Lib.itoa).length := joinTail_len fun x hx => by
      obtain ⟨d, hd', rfl⟩ := List.mem_map.1 hx
      have := hd d (List.mem_cons_of_mem _ hd')
      exact itoa_len (by omega) (by omega)
    rw [List.length_map] at h2
    simp at h2 hl
    omega
theorem lastT_len {p v u n : Int} (h : POk p v u n) : (lastT p u n).length ≤ 1000 := by
  unfold lastT
  split
  · simp
  · exact digT_len (digL_all h).1 (digL_all h).2
/-- joined digits -/
theorem join_row {base : Nat} {w : World} {v : Value} {l : List Int} (h : StrRow base w v (l.map fun d => bsOf (Lib.itoa d))) (h0 : l ≠ []) (hl : l.length ≤ 40) (hd : ∀ d ∈ l, 0 ≤ d ∧ d < 97) :
    Calls Tryz.prog 41 #[v, .string ⟨#[44]⟩] w fun e w' => e = .returned (.string (bsOf (digT l))) ∧ Below w.heap.size w w' := by
  have hlen : (l.map fun d => bsOf (Lib.itoa d)).length = l.length := by rw [List.length_map]
  rcases h.2 with ⟨_, hz⟩ | ⟨g, cap, cur, rfl, hb, hg, hc, _, _, _⟩
  · rw [hlen] at hz; exact absurd (List.length_eq_zero_iff.1 hz) h0
  · have hm : (l.map fun d => bsOf (Lib.itoa d)).map (·.data.toList) = l.map Lib.itoa := by
      rw [List.map_map]; exact List.map_congr_left fun d _ => by simp [bsOf]
    have hdl := digT_len hl hd
    have hj := Tryz.strings_Join g 0 cap (l.map fun d => bsOf (Lib.itoa d)) ⟨#[44]⟩ w (fun j x hjx => by
        rw [Nat.zero_add, World.ownsRow.cellAt h j (by have := (List.getElem?_eq_some_iff.1 hjx).1; omega), List.getElem?_map, hjx]; rfl) (Array.getElem?_eq_some_iff.1 hg).1 (by rw [hlen]; omega) hc (by
        rw [hm]; show (digT l).length ≤ _; omega)
    rw [hm] at hj
    exact hj
/-- what holds at the head of each round: the box b holds the row of the digits' texts so far -/
def TI (w : World) (p v u n : Int) (b : Nat) (pre : List Int) (W : World) : Prop :=
  ∃ vl, Boxed W b 55 vl ∧ StrRow w.heap.size W vl (pre.map fun d => bsOf (Lib.itoa d)) ∧ Below w.heap.size w W ∧ PadAt W w.heap.size p v u n
theorem padAt_put {W : World} {b k : Nat} {p v u n : Int} {o o' : Obj} (h : PadAt W b p v u n) (hk : W.heap[k]? = some o) (ho : o.isCells = false) : PadAt (W.putObj k o') b p v u n := by
  refine (World.putObj_heap_other ?_).trans h
  rintro rfl
  have h' : W.heap[b]? = _ := h
  rw [h'] at hk; cases hk; cases ho
theorem ti_put {w W : World} {p v u n : Int} {b k : Nat} {pre : List Int} {o o' : Obj} (h : TI w p v u n b pre W) (hb : w.heap.size ≤ k) (hk : W.heap[k]? = some o) (ho : o.isCells = false) : TI w p v u n b pre (W.putObj k o') := by
  obtain ⟨vl, h1, h2, h3, h4⟩ := h
  exact ⟨vl, boxed_putB h1 hk ho, ownsRow_putObj h2 _ hk ho, below_putB h3 hb, padAt_put h4 hk ho⟩
theorem ti_below {w A B : World} {p v u n : Int} {b : Nat} {pre : List Int} (h : TI w p v u n b pre A) (hs : StU A B) : TI w p v u n b pre B := by
  obtain ⟨vl, h1, h2, h3, h4⟩ := h
  exact ⟨vl, boxed_belowB h1 hs, row_below h2 hs (Nat.le_refl _), h3.trans (hs.mono h3.size), padAt_keep h4 (frP_below hs)⟩
theorem text_sum (a b d : List UInt8) : bsOf a ++ ⟨#[58]⟩ ++ bsOf b ++ ⟨#[58]⟩ ++ bsOf d = bsOf (a ++ 58 :: (b ++ 58 :: d)) := by
  rw [show (⟨#[58]⟩ : ByteArray) = bsOf [58] from rfl, bs_append, bs_append, bs_append, bs_append]
  congr 1
  simp
/-- the sums of strings in a text -/
theorem text_adds {a b d : List UInt8} (ha : a.length ≤ 1000) (hb : b.length ≤ 1000) (hd : d.length ≤ 1000) :
    (∀ wx, (Op.stringOp .add (bsOf a) ⟨#[58]⟩).run Tryz.prog wx = .ok (.string (bsOf a ++ ⟨#[58]⟩)) wx) ∧
    (∀ wx, (Op.stringOp .add (bsOf a ++ ⟨#[58]⟩) (bsOf b)).run Tryz.prog wx = .ok (.string (bsOf a ++ ⟨#[58]⟩ ++ bsOf b)) wx) ∧
    (∀ wx, (Op.stringOp .add (bsOf a ++ ⟨#[58]⟩ ++ bsOf b) ⟨#[58]⟩).run Tryz.prog wx = .ok (.string (bsOf a ++ ⟨#[58]⟩ ++ bsOf b ++ ⟨#[58]⟩)) wx) ∧
    (∀ wx, (Op.stringOp .add (bsOf a ++ ⟨#[58]⟩ ++ bsOf b ++ ⟨#[58]⟩) (bsOf d)).run Tryz.prog wx = .ok (.string (bsOf a ++ ⟨#[58]⟩ ++ bsOf b ++ ⟨#[58]⟩ ++ bsOf d)) wx) := by
  have e : (⟨#[58]⟩ : ByteArray) = bsOf [58] := rfl
  refine ⟨fun wx => add_any _ _ ?_ wx, fun wx => add_any _ _ ?_ wx, fun wx => add_any _ _ ?_ wx, fun wx => add_any _ _ ?_ wx⟩
  all_goals simp only [e, bs_append, bs_size, List.length_append, List.length_cons, List.length_nil]
  all_goals omega
theorem ret_str2 {a b : ByteArray} (h : a = b) : Ending.returned (.string a) = .returned (.string b) := by rw [h]
set_option maxRecDepth 20000 in
set_option maxHeartbeats 1600000 in
theorem text_zero (p v u n : Int) (w : World) (h : POk p v u n) (hn : n = 0) (ht : Tab w) :
    Calls Tryz.prog 16 #[.agg (P4 p v u n)] w fun e w' => e = .returned (.string (bsOf (textL p v u n))) ∧ Below w.heap.size w w' := by
  have hu := pok_zero h hn
  obtain ⟨hp2, hp97, _⟩ := pok_bd h
  have hv0 := h.2.1
  have hv1 := h.2.2.1
  have HZ := Lib.hid (show (u == 0 && n == 0) = true by simp [hn, hu])
  have HE := Lib.hid (show bsOf (Lib.itoa p) ++ ⟨#[58]⟩ ++ bsOf (Lib.itoa v) ++ ⟨#[58]⟩ ++ bsOf [45] = bsOf (textL p v u n) by rw [text_sum]; unfold textL lastT; rw [if_pos hn])
  obtain ⟨a1, a2, a3, a4⟩ := text_adds (Nat.le_trans (itoa_len (n := p) (by omega) (by omega)) (by omega)) (Nat.le_trans (itoa_len (n := v) (by omega) (by omega)) (by omega)) (show [45].length ≤ 1000 by simp)
  have e45 : bsOf [45] = ⟨#[45]⟩ := rfl
  rw [e45] at a4 HE
  have HT := Lib.hid ht
  have F1 := Lib.hid fun (w : World) (h : Tab w) => format_any p w (by omega) (by omega) h
  have F2 := Lib.hid fun (w : World) (h : Tab w) => format_any v w (by omega) (by omega) h
  generalize bsOf (Lib.itoa p) = sp at *
  generalize bsOf (Lib.itoa v) = sv at *
  clear h ht hu hn e45
  go_enter Tryz.func16, Tryz.ntmps16
  go_wp2_with (go_at_call 35; refine (isZero_any _ _ _ _ _).mono ?_; rw [HZ.out]; rintro e w1 ⟨rfl, hb⟩; have K := k1_first hb; obtain ⟨c0, c1, c2, c3⟩ := lies_four K.2)
  have K := k1_drew K
  have T := tab_below HT.out K.1 (Nat.le_refl _)
  clear c0 c1 c2 c3 hb
  obtain ⟨c0, c1, c2, c3⟩ := lies_four K.2
  go_region_with (first
    | (go_at_call 40; refine (F1.out _ T).mono ?_; rintro e wn ⟨rfl, hb⟩; have T := tab_below T hb (Nat.le_refl _); have K := k1_next K hb; obtain ⟨c0, c1, c2, c3⟩ := lies_four K.2)
    | (go_at_call 40; refine (F2.out _ T).mono ?_; rintro e wn ⟨rfl, hb⟩; have T := tab_below T hb (Nat.le_refl _); have K := k1_next K hb; obtain ⟨c0, c1, c2, c3⟩ := lies_four K.2))
  all_goals go_wp2
  all_goals go_ret
  all_goals exact ⟨ret_str2 HE.out, K.1⟩
end Go.Proofs.YtejgcamogjgdkaaGreatDoor
namespace Go.Proofs.YtejgcamogjgdkaaGreatDoor
open Go.RowKit Go.Shelf
attribute [local go_sem] Oper.semAt_some
set_option linter.unusedVariables false
set_option linter.unusedSimpArgs false
theorem strRow_grow {b : Nat} {w3 : World} {v : Value} {pre : List Int} {x : Int} (hown : w3.ownsRow b 9 1 v (pre.length + 1) ((pre.map fun d => bsOf (Lib.itoa d)).map Value.string ++ [.string (bsOf (Lib.itoa x))])) : StrRow b w3 v ((pre ++ [x]).map fun d => bsOf (Lib.itoa d)) := by
  unfold StrRow
  rw [List.length_map, List.length_append, List.length_singleton, List.map_append, List.map_append]
  exact hown
set_option maxRecDepth 20000 in
set_option maxHeartbeats 3200000 in
theorem text_some (p v u n : Int) (w : World) (h : POk p v u n) (hn : n ≠ 0) (ht : Tab w) :
    Calls Tryz.prog 16 #[.agg (P4 p v u n)] w fun e w' => e = .returned (.string (bsOf (textL p v u n))) ∧ Below w.heap.size w w' := by
  obtain ⟨i0, hi, hz0, hz1, hz2⟩ := info_parts Tryz.infoString
  have HI := Lib.hid hi
  have HZ0 := Lib.hid hz0
  have HZ1 := Lib.hid hz1
  have HZ2 := Lib.hid hz2
  obtain ⟨hp2, hp97, _⟩ := pok_bd h
  have hv0 := h.2.1
  have hv1 := h.2.2.1
  have HZ := Lib.hid (show (u == 0 && n == 0) = false by simp [hn])
  have HK := Lib.hid h
  have HNE := Lib.hid (digs_ne h hn)
  have HLL := Lib.hid (digL_all h).1
  have HE := Lib.hid (show bsOf (Lib.itoa p) ++ ⟨#[58]⟩ ++ bsOf (Lib.itoa v) ++ ⟨#[58]⟩ ++ bsOf (digT (digL p u n.toNat)) = bsOf (textL p v u n) by rw [text_sum]; unfold textL lastT; rw [if_neg hn])
  obtain ⟨a1, a2, a3, a4⟩ := text_adds (Nat.le_trans (itoa_len (n := p) (by omega) (by omega)) (by omega)) (Nat.le_trans (itoa_len (n := v) (by omega) (by omega)) (by omega)) (digT_len (digL_all h).1 (digL_all h).2)
  have HT := Lib.hid ht
  have F1 := Lib.hid fun (w : World) (h : Tab w) => format_any p w (by omega) (by omega) h
  have F2 := Lib.hid fun (w : World) (h : Tab w) => format_any v w (by omega) (by omega) h
  have HA := Lib.hid (And.intro a1 (And.intro a2 (And.intro a3 a4)))
  generalize bsOf (Lib.itoa p) = sp at *
  generalize bsOf (Lib.itoa v) = sv at *
  have hpd0 : PadAt (w.alloc (.cells (P4 p v u n) 25)) w.heap.size p v u n := World.alloc_heap_new w _
  have HPD0 := Lib.hid hpd0
  clear h ht hn hi hz0 hz1 hz2 a1 a2 a3 a4 hpd0
  refine (callsIn_wide (n := 4)).1 ?_
  refine callsIn_of_wp_marks Tryz.func16 rfl trivial ?_ rfl
  simp only [Tryz.ntmps16, List.size_toArray, List.length_cons, List.length_nil, Nat.reduceAdd, Nat.reduceSub, Array.replicate_succ, Array.replicate_zero, List.push_toArray, List.append_toArray, List.nil_append, List.cons_append]
  gi_wp2_with (refine ⟨trivial, ?_⟩; gi_at_call 35; refine (callsIn_wide.2 (isZero_any _ _ _ _ _)).mono ?_; rw [HZ.out]; rintro e w' ⟨rfl, hb⟩; have K := k1_first hb; have hpd := padAt_keep HPD0.out (frP_below hb); obtain ⟨c0, c1, c2, c3⟩ := lies_four (lies_alloc K.2 (.cells #[.slice none 0 0] 55)))
  have hsz := K.1.size
  have hB6 : Below w.heap.size w (w'.alloc (.cells #[.slice none 0 0] 55)) := K.1.alloc hsz _
  have hbox := Boxed.new w' 55 (.slice none 0 0)
  have hpd6 := padAt_keep hpd (frP_below (below_a1 w' (.cells #[.slice none 0 0] 55)))
  obtain ⟨B, hB⟩ : ∃ B, w'.heap.size = B := ⟨_, rfl⟩
  have h6s : (w'.alloc (.cells #[.slice none 0 0] 55)).heap.size = B + 1 := by rw [← hB]; simp
  rw [hB] at hbox ⊢
  generalize w'.alloc (.cells #[.slice none 0 0] 55) = W6 at *
  have hBw : w.heap.size ≤ B := by omega
  clear K c0 c1 c2 c3 hb hsz hB hpd HPD0
  refine wpIn_rangeBb (F := Fence.wide) (n := 4) (P := Tryz.prog) (w := W6) rfl (by omega) (gf := 39) (ba := #[.agg (P4 p v u n)]) (lb := #[]) rfl trivial (enters_of Tryz.func39 (by kernel_rfl) rfl)
    (digits_by 3 (by omega) p v u n HK.out) (fun _ => rfl)
    (TI w p v u n B) (fun _ _ => False) (fun x => { tmps := #[.agg (P4 p v u n), .pointer (some ⟨w.heap.size, 0, none⟩), .string ⟨#[]⟩, .string ⟨#[45]⟩, .pointer (some ⟨B, 0, none⟩), .int .i64 x, .agg (P4 p v u n), .bool false, .bool true, .agg (P4 p v u n), .func (.func 39) #[.agg (P4 p v u n)] #[], .int .i64 x, undef, undef, undef, undef, undef, undef, undef, undef, undef, undef, undef, undef, undef, undef, undef, undef, undef, undef], defers := [] })
    ?ip ?xp ?fp ?fq ?ft ?is ?xs ?sk ?h0 ?s0 ?assign ?body ?done ?stop
  case ip => intro pre W k o o' h hk ho hc; exact ti_put h (by omega) ho hc
  case xp => intro _ _ _ _ _ h; exact h.elim
  case fp => intro A W k o o' hf hk ho hc; exact frP_put hf ho hc
  case fq => intro W k o o' hk ho hc; exact frP_put (frP_refl W) ho hc
  case ft => intro A B C h k; exact frP_trans h k
  case is => intro pre A B h hs; exact ti_below h hs
  case xs => intro _ _ _ h; exact h.elim
  case sk => intro A B k o hs hk ho hc; exact (hs.block k (Array.getElem?_eq_some_iff.1 ho).1).trans ho
  case h0 =>
    intro o o'
    exact ⟨_, (hbox.alloc _).alloc _, World.ownsRow_nil _ _ _ _, (hB6.alloc (by omega) _).alloc (by simp; omega) _, padAt_keep hpd6 (frP_trans (frP_below (below_a1 _ _)) (frP_below (below_a1 _ _)))⟩
  case s0 => intro o o'; trivial
  case assign =>
    intro l x W K hK
    gi_wp2
    exact hK
  case body =>
    rintro l pre x W hsp ⟨vl, hv, hrow, hbel, hpad⟩
    have hlen : pre.length ≤ 28 := by
      have := hsp.length_le
      rw [digL_length, List.length_append] at this
      have := (pok_bd HK.out).2.2.2.1
      simp at *; omega
    have hx : 0 ≤ x ∧ x < 97 := (digL_all HK.out).2 x (hsp.subset (by simp))
    have hT := tab_below HT.out hbel (Nat.le_refl _)
    have hD : Below W.heap.size W W.drew := below_drewN (Below.refl _ _) 1
    obtain ⟨o, c, hvl⟩ := strRow_slice hrow
    rw [List.length_map] at hvl
    subst hvl
    have hvD := boxed_belowB hv hD
    have hrowD : StrRow w.heap.size W.drew _ _ := row_below hrow hD (Nat.le_refl _)
    have hTD := tab_below hT hD (Nat.le_refl _)
    have hs1 := hbel.size
    have hs2 := hD.size
    clear hsp HNE HLL HK HA HE hT hv hrow
    gi_wp2_with fail
    refine wpIn_region_orders (L := [[0, 1, 2, 3, 4, 5], [1, 0, 2, 3, 4, 5], [1, 2, 0, 3, 4, 5], [1, 2, 3, 0, 4, 5]]) (by kernel_rfl) (by kernel_rfl) ?_
    intro ll hll
    simp only [List.mem_cons, List.not_mem_nil, or_false] at hll
    have F3 := Lib.hid (format_any x W.drew (by omega) (by omega) hTD)
    have q2 := hvD.cell
    generalize W.drew = WD at *
    rcases hll with rfl | rfl | rfl | rfl
    · refine wpOpsIn_list _ _ _ (by decide) ?_
      simp only [List.filterMap_cons, List.filterMap_nil, List.getElem?_toArray, List.getElem?_cons_zero, List.getElem?_cons_succ]
      refine wpListIn_plain rfl (fun K hK => ?_)
      go_simp
      refine hK _ _ ?_
      clear hK K
      refine wpListIn_plain rfl (fun K hK => ?_)
      go_simp
      refine hK _ _ ?_
      clear hK K
      refine wpListIn_plain rfl (fun K hK => ?_)
      go_simp
      refine ⟨trivial, ?_⟩
      gi_at_call 40
      refine (CallsIn.inRound l (callsIn_wide.2 F3.out)).mono ?_
      rintro e w2 ⟨rfl, hb2⟩
      have r1 := (boxed_belowB hvD hb2)
      have q3 := r1.cell
      have r2 := r1.alloc (.cells #[.string (bsOf (Lib.itoa x))] 9)
      have q4 := r2.cell
      have hrw : StrRow w.heap.size w2 (.slice o pre.length c) (pre.map fun d => bsOf (Lib.itoa d)) := row_below hrowD hb2 (Nat.le_refl _)
      simp only []
      refine hK _ _ ?_
      clear hK K
      refine wpListIn_plain rfl (fun K hK => ?_)
      go_simp
      refine hK _ _ ?_
      clear hK K
      refine wpListIn_append_own _ rfl (.tmp 12) (.tmp 15) 55 rfl w.heap.size 9 i0 (.string ⟨#[]⟩) 1 16 Tryz.underlying55 HI.out HZ0.out HZ1.out HZ2.out rfl (by decide) _ _ _ rfl (hrw.alloc _) ⟨w2.heap.size, 0, none⟩ 1 1 [.string (bsOf (Lib.itoa x))] rfl rfl (by first | exact newsS _ _ _ | simp [Addr.add]) (by first | exact oneS _ | rfl) (by rw [List.length_map]; unfold maxLen; omega) (by rw [List.length_map]; omega) (by have := hb2.size; simp; omega) ?_
      intro v' w3 hown hgrow _
      rw [List.length_map] at hown
      obtain ⟨o2, c2, rfl⟩ := row_slice hown
      have hown' := strRow_grow hown
      obtain ⟨e1, e2, e3, e4, e5⟩ := r1.appended (by decide) hrw (by have := hb2.size; omega) (show w.heap.size ≤ B by omega) hown' hgrow
      have hF := frP_trans (frP_trans (frP_trans (frP_trans (frP_below hD) (frP_below hb2)) (frP_below (below_a1 w2 (.cells #[.string (bsOf (Lib.itoa x))] 9)))) (frP_row (hrw.alloc _) (by decide) hgrow)) (frP_set (.slice o2 (pre.length + 1) c2) e1 (by decide))
      have hKO := ((keeps_belowB hD).trans (keeps_belowB hb2)).trans e4
      have hBL := (hbel.trans (hD.mono hs1)).trans ((hb2.mono (Nat.le_trans hs1 hs2)).trans e5)
      have q5 := e1.cell
      have q5f := e1.frozen
      clear hown hgrow
      gi_wp2
      exact ⟨hKO, hF, _, e2, e3, hBL, padAt_keep hpad hF⟩
    · refine wpOpsIn_list _ _ _ (by decide) ?_
      simp only [List.filterMap_cons, List.filterMap_nil, List.getElem?_toArray, List.getElem?_cons_zero, List.getElem?_cons_succ]
      refine wpListIn_plain rfl (fun K hK => ?_)
      go_simp
      refine hK _ _ ?_
      clear hK K
      refine wpListIn_plain rfl (fun K hK => ?_)
      go_simp
      refine hK _ _ ?_
      clear hK K
      refine wpListIn_plain rfl (fun K hK => ?_)
      go_simp
      refine ⟨trivial, ?_⟩
      gi_at_call 40
      refine (CallsIn.inRound l (callsIn_wide.2 F3.out)).mono ?_
      rintro e w2 ⟨rfl, hb2⟩
      have r1 := (boxed_belowB hvD hb2)
      have q3 := r1.cell
      have r2 := r1.alloc (.cells #[.string (bsOf (Lib.itoa x))] 9)
      have q4 := r2.cell
      have hrw : StrRow w.heap.size w2 (.slice o pre.length c) (pre.map fun d => bsOf (Lib.itoa d)) := row_below hrowD hb2 (Nat.le_refl _)
      simp only []
      refine hK _ _ ?_
      clear hK K
      refine wpListIn_plain rfl (fun K hK => ?_)
      go_simp
      refine hK _ _ ?_
      clear hK K
      refine wpListIn_append_own _ rfl (.tmp 12) (.tmp 15) 55 rfl w.heap.size 9 i0 (.string ⟨#[]⟩) 1 16 Tryz.underlying55 HI.out HZ0.out HZ1.out HZ2.out rfl (by decide) _ _ _ rfl (hrw.alloc _) ⟨w2.heap.size, 0, none⟩ 1 1 [.string (bsOf (Lib.itoa x))] rfl rfl (by first | exact newsS _ _ _ | simp [Addr.add]) (by first | exact oneS _ | rfl) (by rw [List.length_map]; unfold maxLen; omega) (by rw [List.length_map]; omega) (by have := hb2.size; simp; omega) ?_
      intro v' w3 hown hgrow _
      rw [List.length_map] at hown
      obtain ⟨o2, c2, rfl⟩ := row_slice hown
      have hown' := strRow_grow hown
      obtain ⟨e1, e2, e3, e4, e5⟩ := r1.appended (by decide) hrw (by have := hb2.size; omega) (show w.heap.size ≤ B by omega) hown' hgrow
      have hF := frP_trans (frP_trans (frP_trans (frP_trans (frP_below hD) (frP_below hb2)) (frP_below (below_a1 w2 (.cells #[.string (bsOf (Lib.itoa x))] 9)))) (frP_row (hrw.alloc _) (by decide) hgrow)) (frP_set (.slice o2 (pre.length + 1) c2) e1 (by decide))
      have hKO := ((keeps_belowB hD).trans (keeps_belowB hb2)).trans e4
      have hBL := (hbel.trans (hD.mono hs1)).trans ((hb2.mono (Nat.le_trans hs1 hs2)).trans e5)
      have q5 := e1.cell
      have q5f := e1.frozen
      clear hown hgrow
      gi_wp2
      exact ⟨hKO, hF, _, e2, e3, hBL, padAt_keep hpad hF⟩
    · refine wpOpsIn_list _ _ _ (by decide) ?_
      simp only [List.filterMap_cons, List.filterMap_nil, List.getElem?_toArray, List.getElem?_cons_zero, List.getElem?_cons_succ]
      refine wpListIn_plain rfl (fun K hK => ?_)
      go_simp
      refine hK _ _ ?_
      clear hK K
      refine wpListIn_plain rfl (fun K hK => ?_)
      go_simp
      refine ⟨trivial, ?_⟩
      gi_at_call 40
      refine (CallsIn.inRound l (callsIn_wide.2 F3.out)).mono ?_
      rintro e w2 ⟨rfl, hb2⟩
      have r1 := (boxed_belowB hvD hb2)
      have q3 := r1.cell
      have r2 := r1.alloc (.cells #[.string (bsOf (Lib.itoa x))] 9)
      have q4 := r2.cell
      have hrw : StrRow w.heap.size w2 (.slice o pre.length c) (pre.map fun d => bsOf (Lib.itoa d)) := row_below hrowD hb2 (Nat.le_refl _)
      simp only []
      refine hK _ _ ?_
      clear hK K
      refine wpListIn_plain rfl (fun K hK => ?_)
      go_simp
      refine hK _ _ ?_
      clear hK K
      refine wpListIn_plain rfl (fun K hK => ?_)
      go_simp
      refine hK _ _ ?_
      clear hK K
      refine wpListIn_append_own _ rfl (.tmp 12) (.tmp 15) 55 rfl w.heap.size 9 i0 (.string ⟨#[]⟩) 1 16 Tryz.underlying55 HI.out HZ0.out HZ1.out HZ2.out rfl (by decide) _ _ _ rfl (hrw.alloc _) ⟨w2.heap.size, 0, none⟩ 1 1 [.string (bsOf (Lib.itoa x))] rfl rfl (by first | exact newsS _ _ _ | simp [Addr.add]) (by first | exact oneS _ | rfl) (by rw [List.length_map]; unfold maxLen; omega) (by rw [List.length_map]; omega) (by have := hb2.size; simp; omega) ?_
      intro v' w3 hown hgrow _
      rw [List.length_map] at hown
      obtain ⟨o2, c2, rfl⟩ := row_slice hown
      have hown' := strRow_grow hown
      obtain ⟨e1, e2, e3, e4, e5⟩ := r1.appended (by decide) hrw (by have := hb2.size; omega) (show w.heap.size ≤ B by omega) hown' hgrow
      have hF := frP_trans (frP_trans (frP_trans (frP_trans (frP_below hD) (frP_below hb2)) (frP_below (below_a1 w2 (.cells #[.string (bsOf (Lib.itoa x))] 9)))) (frP_row (hrw.alloc _) (by decide) hgrow)) (frP_set (.slice o2 (pre.length + 1) c2) e1 (by decide))
      have hKO := ((keeps_belowB hD).trans (keeps_belowB hb2)).trans e4
      have hBL := (hbel.trans (hD.mono hs1)).trans ((hb2.mono (Nat.le_trans hs1 hs2)).trans e5)
      have q5 := e1.cell
      have q5f := e1.frozen
      clear hown hgrow
      gi_wp2
      exact ⟨hKO, hF, _, e2, e3, hBL, padAt_keep hpad hF⟩
    · refine wpOpsIn_list _ _ _ (by decide) ?_
      simp only [List.filterMap_cons, List.filterMap_nil, List.getElem?_toArray, List.getElem?_cons_zero, List.getElem?_cons_succ]
      refine wpListIn_plain rfl (fun K hK => ?_)
      go_simp
      refine hK _ _ ?_
      clear hK K
      refine wpListIn_plain rfl (fun K hK => ?_)
      go_simp
      refine ⟨trivial, ?_⟩
      gi_at_call 40
      refine (CallsIn.inRound l (callsIn_wide.2 F3.out)).mono ?_
      rintro e w2 ⟨rfl, hb2⟩
      have r1 := (boxed_belowB hvD hb2)
      have q3 := r1.cell
      have r2 := r1.alloc (.cells #[.string (bsOf (Lib.itoa x))] 9)
      have q4 := r2.cell
      have hrw : StrRow w.heap.size w2 (.slice o pre.length c) (pre.map fun d => bsOf (Lib.itoa d)) := row_below hrowD hb2 (Nat.le_refl _)
      simp only []
      refine hK _ _ ?_
      clear hK K
      refine wpListIn_plain rfl (fun K hK => ?_)
      go_simp
      refine hK _ _ ?_
      clear hK K
      refine wpListIn_plain rfl (fun K hK => ?_)
      go_simp
      refine hK _ _ ?_
      clear hK K
      refine wpListIn_append_own _ rfl (.tmp 12) (.tmp 15) 55 rfl w.heap.size 9 i0 (.string ⟨#[]⟩) 1 16 Tryz.underlying55 HI.out HZ0.out HZ1.out HZ2.out rfl (by decide) _ _ _ rfl (hrw.alloc _) ⟨w2.heap.size, 0, none⟩ 1 1 [.string (bsOf (Lib.itoa x))] rfl rfl (by first | exact newsS _ _ _ | simp [Addr.add]) (by first | exact oneS _ | rfl) (by rw [List.length_map]; unfold maxLen; omega) (by rw [List.length_map]; omega) (by have := hb2.size; simp; omega) ?_
      intro v' w3 hown hgrow _
      rw [List.length_map] at hown
      obtain ⟨o2, c2, rfl⟩ := row_slice hown
      have hown' := strRow_grow hown
      obtain ⟨e1, e2, e3, e4, e5⟩ := r1.appended (by decide) hrw (by have := hb2.size; omega) (show w.heap.size ≤ B by omega) hown' hgrow
      have hF := frP_trans (frP_trans (frP_trans (frP_trans (frP_below hD) (frP_below hb2)) (frP_below (below_a1 w2 (.cells #[.string (bsOf (Lib.itoa x))] 9)))) (frP_row (hrw.alloc _) (by decide) hgrow)) (frP_set (.slice o2 (pre.length + 1) c2) e1 (by decide))
      have hKO := ((keeps_belowB hD).trans (keeps_belowB hb2)).trans e4
      have hBL := (hbel.trans (hD.mono hs1)).trans ((hb2.mono (Nat.le_trans hs1 hs2)).trans e5)
      have q5 := e1.cell
      have q5f := e1.frozen
      clear hown hgrow
      gi_wp2
      exact ⟨hKO, hF, _, e2, e3, hBL, padAt_keep hpad hF⟩
  case done =>
    rintro D xs W hD rfl ⟨vl, hv, hrow, hbel, hpad⟩ hKD
    have hT := tab_below HT.out hbel (Nat.le_refl _)
    obtain ⟨o, c, hvl⟩ := strRow_slice hrow
    rw [List.length_map] at hvl
    subst hvl
    have HJ := Lib.hid (join_row hrow HNE.out.1 HLL.out HNE.out.2)
    have q2 := hv.cell
    have hDw : w.heap.size ≤ D := by omega
    clear HNE HLL HK HI HZ0 HZ1 HZ2
    gi_wp2_with (refine ⟨trivial, ?_⟩; gi_at_call 41; refine (callsIn_wide.2 HJ.out).mono ?_; rintro e w4 ⟨rfl, hb4⟩)
    have hKD := (keeps_belowB hb4).same D _ hKD rfl
    have HB := below_drewN (hbel.trans (hb4.mono hbel.size)) 1
    have T := tab_below HT.out HB (Nat.le_refl _)
    have hpd : PadAt w4.drew w.heap.size p v u n := padAt_keep hpad (frP_below (below_drewN hb4 1))
    have hKD : w4.drew.heap[D]? = some (.deferred (some [])) := hKD
    obtain ⟨c0, c1, c2, c3⟩ := padAt_four hpd
    obtain ⟨a1, a2, a3, a4⟩ := HA.out
    clear q2 hb4 hv hrow hpad hbel HJ
    change Below w.heap.size w w4.drew at HB
    change Tab w4.drew at T
    refine wpIn_mono (Q := NoPanic _) ?_ (fun e a w h => NoPanic.imp e a w h)
    gi_region_with (first
      | (refine ⟨trivial, ?_⟩; gi_at_call 40; refine (callsIn_wide.2 (F1.out _ T)).mono ?_; rintro e wn ⟨rfl, hb⟩; have T := tab_below T hb (Nat.le_refl _); have hKD := (keeps_belowB hb).same D _ hKD rfl; have HB := HB.trans (hb.mono HB.size); have hpd := padAt_keep hpd (frP_below hb); obtain ⟨c0, c1, c2, c3⟩ := padAt_four hpd)
      | (refine ⟨trivial, ?_⟩; gi_at_call 40; refine (callsIn_wide.2 (F2.out _ T)).mono ?_; rintro e wn ⟨rfl, hb⟩; have T := tab_below T hb (Nat.le_refl _); have hKD := (keeps_belowB hb).same D _ hKD rfl; have HB := HB.trans (hb.mono HB.size); have hpd := padAt_keep hpd (frP_below hb); obtain ⟨c0, c1, c2, c3⟩ := padAt_four hpd))
    all_goals refine NoPanic.normal ?_
    all_goals gi_wp2
    all_goals refine ⟨by simp, .inl ⟨_, _, rfl, run_takeDeferred hKD, ?_⟩⟩
    all_goals refine ⟨.string (sp ++ ⟨#[58]⟩ ++ sv ++ ⟨#[58]⟩ ++ bsOf (digT (digL p u n.toNat))), by simp [results, Tryz.results16, go_sem], ?_⟩
    all_goals exact ⟨ret_str2 HE.out, below_putB HB hDw⟩
  case stop => intro _ _ _ _ _ h; exact h.elim
theorem text_any (p v u n : Int) (w : World) (h : POk p v u n) (ht : Tab w) :
    Calls Tryz.prog 16 #[.agg (P4 p v u n)] w fun e w' => e = .returned (.string (bsOf (textL p v u n))) ∧ Below w.heap.size w w' := by
  by_cases hn : n = 0
  · exact text_zero p v u n w h hn ht
  · exact text_some p v u n w h hn ht
end Go.Proofs.YtejgcamogjgdkaaGreatDoor
namespace Go.Proofs.YtejgcamogjgdkaaGreatDoor
open Go.RowKit Go.Shelf
set_option linter.unusedVariables false
set_option linter.unusedSimpArgs false
theorem decS_any (n : Int) (w : World) (h0 : 0 ≤ n) (h1 : n ≤ 1000000) : Calls Tryz.prog 49 #[.int .i64 n] w fun e w' => e = .returned (.string (bsOf (Lib.itoa n))) ∧ Below w.heap.size w w' :=
  dec_any (n.toNat + 1) n w h0 (by omega) (by omega)
theorem itoa_neg {n : Int} (h : n < 0) : bsOf [45] ++ bsOf (Lib.itoa (-n)) = bsOf (Lib.itoa n) := by
  rw [bs_append]
  congr 1
  unfold Lib.itoa
  rw [if_pos h, if_neg (by omega), show (-n).toNat = n.natAbs by omega]
  rfl
theorem l01Number_any (n : Int) (w : World) (h0 : -1000000 ≤ n) (h1 : n ≤ 1000000) :
    Calls Tryz.prog 50 #[.int .i64 n] w fun e w' => e = .returned (.string (bsOf (Lib.itoa n))) ∧ Below w.heap.size w w' := by
  by_cases hn : n < 0
  · have hl := itoa_len (n := -n) (by omega) (by omega)
    have hadd : ∀ wx, (Op.stringOp .add ⟨#[45]⟩ (bsOf (Lib.itoa (-n)))).run Tryz.prog wx = .ok (.string (bsOf (Lib.itoa n))) wx := fun wx => by
      rw [← itoa_neg hn]
      exact add_any ⟨#[45]⟩ _ (by rw [bs_size]; show 1 + _ ≤ _; omega) wx
    have hw : IntKind.i64.wrap (-n) = -n := IntWalk.i64_in _ (by omega)
    have HD := Lib.hid fun w => decS_any (-n) w (by omega) (by omega)
    clear hl
    go_enter Tryz.func50, Tryz.ntmps50
    go_wp2_with (go_at_call 49; refine (HD.out _).mono ?_; rintro e wn ⟨rfl, hb⟩)
    go_ret
    exact ⟨rfl, hb⟩
  · have HD := Lib.hid fun w => decS_any n w (by omega) h1
    go_enter Tryz.func50, Tryz.ntmps50
    go_wp2_with (go_at_call 49; refine (HD.out _).mono ?_; rintro e wn ⟨rfl, hb⟩)
    go_ret
    exact ⟨rfl, hb⟩
def jT (l : List Int) (k : Nat) : List UInt8 := digT (l.take k)
theorem jT_one {l : List Int} {d : Int} (h : 0 < l.length) (e : l.getD 0 0 = d) : jT l 1 = Lib.itoa d := by
  match l, h, e with
  | a :: r, _, e =>
    simp at e; subst e
    simp [jT, digT, Lib.join_one]
theorem jT_succ {l : List Int} {d : Int} {k : Nat} (hk : 0 < k) (h : k < l.length) (e : l.getD k 0 = d) : jT l (k + 1) = jT l k ++ [44] ++ Lib.itoa d := by
  unfold jT digT
  have e2 : l[k] = d := by rw [← e]; simp [List.getD, h]
  rw [List.take_succ_eq_append_getElem h, List.map_append, List.map_singleton, e2, join_snoc]
  intro hn
  have := congrArg List.length hn
  rw [List.length_map, List.length_take, List.length_nil] at this; omega
theorem jstep_one {l : List Int} {x : Int} (h : jT l 1 = Lib.itoa x) : bsOf (jT l 0) ++ bsOf (Lib.itoa x) = bsOf (jT l 1) := by
  rw [h, bs_append]; rfl
theorem jstep_next {l : List Int} {x : Int} {k : Nat} (h : jT l (k + 1) = jT l k ++ [44] ++ Lib.itoa x) : bsOf (jT l k) ++ ⟨#[44]⟩ ++ bsOf (Lib.itoa x) = bsOf (jT l (k + 1)) := by
  rw [h, show (⟨#[44]⟩ : ByteArray) = bsOf [44] from rfl, bs_append, bs_append]
theorem str_eq {a b : ByteArray} (h : a = b) : Value.string a = Value.string b := by rw [h]
theorem bcellT {W w1 : World} (hb : Below W.heap.size W w1) : (∀ b o, b < W.heap.size → w1.cell? ⟨b, o, none⟩ = W.cell? ⟨b, o, none⟩) ∧ (∀ b o, b < W.heap.size → w1.frozen? ⟨b, o, none⟩ = W.frozen? ⟨b, o, none⟩) :=
  ⟨fun b o h => hb.cell (p := ⟨b, o, none⟩) h, fun b o h => hb.frozen (p := ⟨b, o, none⟩) h⟩
set_option maxHeartbeats 1600000 in
theorem l01Join_any (base : Nat) (o : Option Addr) (c : Nat) (l : List Int) (w : World) (hl : l.length ≤ 40) (hd : ∀ d ∈ l, 0 ≤ d ∧ d < 97) (hr : IntRow base w (.slice o l.length c) l) :
    Calls Tryz.prog 47 #[.slice o l.length c, .string ⟨#[44]⟩] w fun e w' => e = .returned (.string (bsOf (digT l))) ∧ Below w.heap.size w w' := by
  have HR := Lib.hid hr
  have HD := Lib.hid hd
  have HE : Hid (jT l l.length = digT l) := by
    show jT l l.length = digT l
    unfold jT; rw [List.take_length]
  have HS : Hid (∀ k, (bsOf (jT l k)).size ≤ 1000) := by
    show ∀ k, (bsOf (jT l k)).size ≤ 1000
    intro k
    rw [bs_size]
    exact digT_len (Nat.le_trans (by rw [List.length_take]; omega) hl) (fun d h => hd d (List.mem_of_mem_take h))
  clear hr hd
  go_enter Tryz.func47, Tryz.ntmps47
  go_wp2
  go_loopw [5, 6] (fun s i wr => ∃ k : Nat, k ≤ l.length ∧ i = .int .i64 k ∧ s = .string (bsOf (jT l k)) ∧ Below w.heap.size w wr) (fun _ i _ => l.length - (intOf i).toNat)
  case atStart => exact ⟨0, Nat.zero_le _, rfl, rfl, Below.refl _ _⟩
  case round =>
    obtain ⟨k, hk, rfl, rfl, hb⟩ := hrel
    by_cases hlt : k < l.length
    · rcases row_shape HR.out with ⟨hz, _⟩ | ⟨_, g, c', hv, hbg, hg⟩
      · omega
      · cases hv
        have a1 := int_cells HR.out k hlt
        rw [← hb.cell (by exact hg)] at a1
        obtain ⟨x, e1⟩ : ∃ x, l.getD k 0 = x := ⟨_, rfl⟩
        have hx : 0 ≤ x ∧ x < 97 := HD.out x (by rw [← e1]; simp [List.getD, hlt])
        rw [e1] at a1
        obtain ⟨hx0, hx1⟩ := hx
        have s0 := HS.out k
        have s1 : (bsOf (Lib.itoa x)).size ≤ 20 := by rw [bs_size]; exact itoa_len (by omega) (by omega)
        have hgw : g < wr.heap.size := by have := hb.size; omega
        have HB := Lib.hid hb
        clear hb
        by_cases hk0 : k = 0
        · subst hk0
          have HA := Lib.hid (jstep_one (jT_one hlt e1))
          have A1 := add_any (bsOf (jT l 0)) (bsOf (Lib.itoa x)) (by omega)
          clear e1
          go_wp2_with fail
          refine (l01Number_any _ _ (by omega) (by omega)).mono ?_
          rintro e w1 ⟨rfl, hb1⟩
          have HB1 := Lib.hid (HB.out.trans (hb1.mono HB.out.size))
          clear hb1
          go_wp2
          exact ⟨⟨0 + 1, by omega, by go_num, str_eq HA.out, HB1.out⟩, by simp only [intOf]; omega⟩
        · have HA := Lib.hid (jstep_next (jT_succ (by omega) hlt e1))
          have hkp : 0 < k := by omega
          have A1 := add_any (bsOf (jT l k)) ⟨#[44]⟩ (by show _ + 1 ≤ _; omega)
          have A2 := add_any (bsOf (jT l k) ++ ⟨#[44]⟩) (bsOf (Lib.itoa x)) (by
            have : (bsOf (jT l k) ++ (⟨#[44]⟩ : ByteArray)).size = (bsOf (jT l k)).size + 1 := by rw [show (⟨#[44]⟩ : ByteArray) = bsOf [44] from rfl, bs_append, bs_size, bs_size]; simp
            omega)
          clear e1 hk0
          go_wp2_with fail
          refine (l01Number_any _ _ (by omega) (by omega)).mono ?_
          rintro e w1 ⟨rfl, hb1⟩
          have HB1 := Lib.hid (HB.out.trans (hb1.mono HB.out.size))
          clear hb1
          go_wp2
          exact ⟨⟨k + 1, by omega, by go_num, str_eq HA.out, HB1.out⟩, by simp only [intOf]; omega⟩
    · have hkn : k = l.length := by omega
      have HK := Lib.hid hkn
      clear hkn
      go_wp2
      go_ret
      exact ⟨ret_str2 (by rw [HK.out, HE.out]), hb⟩
set_option maxRecDepth 20000 in
set_option maxHeartbeats 1600000 in
theorem l04Text_zero (p v u n : Int) (w : World) (h : POk p v u n) (hn : n = 0) :
    Calls Tryz.prog 18 #[.agg (P4 p v u n)] w fun e w' => e = .returned (.string (bsOf (textL p v u n))) ∧ Below w.heap.size w w' := by
  obtain ⟨hp2, hp97, _⟩ := pok_bd h
  have hv0 := h.2.1
  have hv1 := h.2.2.1
  have HE := Lib.hid (show bsOf (Lib.itoa p) ++ ⟨#[58]⟩ ++ bsOf (Lib.itoa v) ++ ⟨#[58]⟩ ++ bsOf [45] = bsOf (textL p v u n) by rw [text_sum]; unfold textL lastT; rw [if_pos hn])
  obtain ⟨a1, a2, a3, a4⟩ := text_adds (Nat.le_trans (itoa_len (n := p) (by omega) (by omega)) (by omega)) (Nat.le_trans (itoa_len (n := v) (by omega) (by omega)) (by omega)) (show [45].length ≤ 1000 by simp)
  have e45 : bsOf [45] = ⟨#[45]⟩ := rfl
  rw [e45] at a4 HE
  have F1 := Lib.hid fun (w : World) => decS_any p w (by omega) (by omega)
  have F2 := Lib.hid fun (w : World) => l01Number_any v w (by omega) (by omega)
  generalize bsOf (Lib.itoa p) = sp at *
  generalize bsOf (Lib.itoa v) = sv at *
  clear h e45
  subst hn
  have K := k1_new w (P4 p v u 0) 25
  go_enter Tryz.func18, Tryz.ntmps18
  go_wp2_with fail
  generalize w.alloc (.cells (P4 p v u 0) 25) = W0 at *
  have K := k1_drew K
  obtain ⟨c0, c1, c2, c3⟩ := lies_four K.2
  go_region_with (first
    | (go_at_call 49; refine (F1.out _).mono ?_; rintro e wn ⟨rfl, hb⟩; have K := k1_next K hb; obtain ⟨c0, c1, c2, c3⟩ := lies_four K.2)
    | (go_at_call 50; refine (F2.out _).mono ?_; rintro e wn ⟨rfl, hb⟩; have K := k1_next K hb; obtain ⟨c0, c1, c2, c3⟩ := lies_four K.2))
  all_goals go_wp2
  all_goals go_ret
  all_goals exact ⟨ret_str2 HE.out, K.1⟩
set_option maxRecDepth 20000 in
set_option maxHeartbeats 1600000 in
theorem l04Text_some (p v u n : Int) (w : World) (h : POk p v u n) (hn : n ≠ 0) :
    Calls Tryz.prog 18 #[.agg (P4 p v u n)] w fun e w' => e = .returned (.string (bsOf (textL p v u n))) ∧ Below w.heap.size w w' := by
  obtain ⟨hp2, hp97, hn0, _⟩ := pok_bd h
  have hv0 := h.2.1
  have hv1 := h.2.2.1
  have HE := Lib.hid (show bsOf (Lib.itoa p) ++ ⟨#[58]⟩ ++ bsOf (Lib.itoa v) ++ ⟨#[58]⟩ ++ bsOf (digT (digL p u n.toNat)) = bsOf (textL p v u n) by rw [text_sum]; unfold textL lastT; rw [if_neg hn])
  obtain ⟨a1, a2, a3, a4⟩ := text_adds (Nat.le_trans (itoa_len (n := p) (by omega) (by omega)) (by omega)) (Nat.le_trans (itoa_len (n := v) (by omega) (by omega)) (by omega)) (digT_len (digL_all h).1 (digL_all h).2)
  have F1 := Lib.hid fun (w : World) => decS_any p w (by omega) (by omega)
  have F2 := Lib.hid fun (w : World) => l01Number_any v w (by omega) (by omega)
  have F3 := Lib.hid fun (w : World) => l04Digits_any p v u n w h
  have F4 := Lib.hid fun (base : Nat) (o : Option Addr) (c : Nat) (w : World) => l01Join_any base o c (digL p u n.toNat) w (digL_all h).1 (digL_all h).2
  generalize bsOf (Lib.itoa p) = sp at *
  generalize bsOf (Lib.itoa v) = sv at *
  generalize digL p u n.toNat = dl at *
  have hn1 : 0 < n := by omega
  clear h hn
  have K := k1_new w (P4 p v u n) 25
  obtain ⟨c0, c1, c2, c3⟩ := lies_four K.2
  go_enter Tryz.func18, Tryz.ntmps18
  go_wp2_with (first
    | (go_at_call 48; refine (F3.out _).mono ?_; rintro e w1 ⟨vl, rfl, hrow, hb⟩; obtain ⟨o, c, rfl⟩ := row_slice hrow; have K := k1_next K hb; obtain ⟨c0, c1, c2, c3⟩ := lies_four K.2)
    | (go_at_call 47; refine (F4.out _ _ _ _ hrow).mono ?_; rintro e w2 ⟨rfl, hb⟩; have K := k1_next K hb; obtain ⟨c0, c1, c2, c3⟩ := lies_four K.2))
  have K := k1_drew K
  obtain ⟨c0, c1, c2, c3⟩ := lies_four K.2
  go_region_with (first
    | (go_at_call 49; refine (F1.out _).mono ?_; rintro e wn ⟨rfl, hb⟩; have K := k1_next K hb; obtain ⟨c0, c1, c2, c3⟩ := lies_four K.2)
    | (go_at_call 50; refine (F2.out _).mono ?_; rintro e wn ⟨rfl, hb⟩; have K := k1_next K hb; obtain ⟨c0, c1, c2, c3⟩ := lies_four K.2))
  all_goals go_wp2
  all_goals go_ret
  all_goals exact ⟨ret_str2 HE.out, K.1⟩
theorem l04Text_any (p v u n : Int) (w : World) (h : POk p v u n) :
    Calls Tryz.prog 18 #[.agg (P4 p v u n)] w fun e w' => e = .returned (.string (bsOf (textL p v u n))) ∧ Below w.heap.size w w' := by
  by_cases hn : n = 0
  · exact l04Text_zero p v u n w h hn
  · exact l04Text_some p v u n w h hn
/-- what both PadicText answer -/
def ptL (p v u n : Int) : List UInt8 := if padB p v u n then textL p v u n else []
def ptC (p v u n : Int) : Int := if padB p v u n then 0 else 1
theorem specPadicText_any (p v u n : Int) (w : World) :
    Calls Tryz.prog 8 #[.agg (P4 p v u n)] w fun e w' => e = .returned (.tuple #[.string (bsOf (ptL p v u n)), .int .i64 (ptC p v u n)]) ∧ Below w.heap.size w w' := by
  cases hx : padB p v u n
  · rw [show ptL p v u n = [] by simp [ptL, hx], show ptC p v u n = 1 by simp [ptC, hx]]
    go_enter Tryz.func8, Tryz.ntmps8
    go_wp2_with (go_at_call 17; refine (specIsPadic_any _ _ _ _ _).mono ?_; rw [hx]; rintro e wn ⟨rfl, hb⟩; have K := k1_first hb)
    go_ret2
    exact ⟨rfl, K.1⟩
  · rw [show ptL p v u n = textL p v u n by simp [ptL, hx], show ptC p v u n = 0 by simp [ptC, hx]]
    have HT := Lib.hid fun w => l04Text_any p v u n w (padB_ok hx)
    go_enter Tryz.func8, Tryz.ntmps8
    go_wp2_with (first
      | (go_at_call 17; refine (specIsPadic_any _ _ _ _ _).mono ?_; rw [hx]; rintro e wn ⟨rfl, hb⟩; have K := k1_first hb; obtain ⟨c0, c1, c2, c3⟩ := lies_four K.2)
      | (go_at_call 18; refine (HT.out _).mono ?_; rintro e wn ⟨rfl, hb⟩; have K := k1_next K hb; obtain ⟨c0, c1, c2, c3⟩ := lies_four K.2))
    go_ret2
    exact ⟨rfl, K.1⟩
theorem implPadicText_any (p v u n : Int) (w : World) (ht : Tab w) :
    Calls Tryz.prog 7 #[.agg (P4 p v u n)] w fun e w' => e = .returned (.tuple #[.string (bsOf (ptL p v u n)), .int .i64 (ptC p v u n)]) ∧ Below w.heap.size w w' := by
  cases hx : padB p v u n
  · rw [show ptL p v u n = [] by simp [ptL, hx], show ptC p v u n = 1 by simp [ptC, hx]]
    clear ht
    go_enter Tryz.func7, Tryz.ntmps7
    go_wp2_with (go_at_call 15; refine (isValid_any _ _ _ _ _).mono ?_; rw [hx]; rintro e wn ⟨rfl, hb⟩; have K := k1_first hb)
    go_ret2
    exact ⟨rfl, K.1⟩
  · rw [show ptL p v u n = textL p v u n by simp [ptL, hx], show ptC p v u n = 0 by simp [ptC, hx]]
    have HT := Lib.hid fun w (h : Tab w) => text_any p v u n w (padB_ok hx) h
    have HH := Lib.hid ht
    clear ht
    go_enter Tryz.func7, Tryz.ntmps7
    go_wp2_with (first
      | (go_at_call 15; refine (isValid_any _ _ _ _ _).mono ?_; rw [hx]; rintro e wn ⟨rfl, hb⟩; have K := k1_first hb; have T := tab_below HH.out K.1 (Nat.le_refl _); obtain ⟨c0, c1, c2, c3⟩ := lies_four K.2)
      | (go_at_call 16; refine (HT.out _ T).mono ?_; rintro e wn ⟨rfl, hb⟩; have K := k1_next K hb; obtain ⟨c0, c1, c2, c3⟩ := lies_four K.2))
    go_ret2
    exact ⟨rfl, K.1⟩
end Go.Proofs.YtejgcamogjgdkaaGreatDoor
namespace Go.Proofs.YtejgcamogjgdkaaGreatDoor
open Go.RowKit Go.Shelf
set_option linter.unusedVariables false
/-- what ParseInt reads off a piece -/
def pB (x : ByteArray) : Option Int := pI x.data.toList
structure RBase (w W : World) : Prop where
  res : Boxed W w.heap.size 51 (.slice none 0 0)
  code : Boxed W (w.heap.size + 1) 4 (.bool false)
  bel : Below w.heap.size w W
structure RBox (b : Nat) (W : World) : Prop where
  sb : ∃ u, Boxed W (b + 1 + 1 + 1) 9 u
  pb : Boxed W (b + 1 + 1 + 1 + 1) 9 (.string ⟨#[44]⟩)
  vb : Boxed W (b + 1 + 1 + 1 + 2) 3 (.int .i64 0)
def RRow (b : Nat) (W : World) (pre : List ByteArray) : Prop :=
  ∃ v l, Boxed W (b + 1 + 1) 51 v ∧ IntRow b W v l ∧ pre.map pB = l.map some
def RI (w : World) (pre : List ByteArray) (W : World) : Prop := RRow w.heap.size W pre ∧ RBase w W ∧ RBox w.heap.size W
def RX (w : World) (pre : List ByteArray) (W : World) : Prop := RBase w W ∧ ¬ ∃ l : List Int, pre.map pB = l.map some
theorem boxed_put {W : World} {j k : Nat} {t : TypeId} {v : Value} {o o' : Obj} (h : Boxed W j t v) (hk : W.heap[k]? = some o) (ho : o.isCells = false) : Boxed (W.putObj k o') j t v := by
  have hne : j ≠ k := by
    rintro rfl
    have h' : W.heap[j]? = some (.cells #[v] t (0, 0)) := h
    rw [h'] at hk; cases hk; cases ho
  exact (World.putObj_heap_other hne).trans h
theorem below_put {b k : Nat} {w W : World} {o' : Obj} (h : Below b w W) (hk : b ≤ k) : Below b w (W.putObj k o') :=
  ⟨h.os, h.tape, h.output, by have := h.size; simp [World.putObj]; omega, fun j hj => (World.putObj_heap_other (by omega)).trans (h.block j hj)⟩
theorem rbase_put {w W : World} {k : Nat} {o o' : Obj} (h : RBase w W) (hb : w.heap.size ≤ k) (hk : W.heap[k]? = some o) (ho : o.isCells = false) : RBase w (W.putObj k o') :=
  ⟨boxed_put h.res hk ho, boxed_put h.code hk ho, below_put h.bel hb⟩
theorem rbox_put {b : Nat} {W : World} {k : Nat} {o o' : Obj} (h : RBox b W) (hk : W.heap[k]? = some o) (ho : o.isCells = false) : RBox b (W.putObj k o') :=
  ⟨by obtain ⟨u, hu⟩ := h.sb; exact ⟨u, boxed_put hu hk ho⟩, boxed_put h.pb hk ho, boxed_put h.vb hk ho⟩
theorem rrow_put {b : Nat} {W : World} {pre : List ByteArray} {k : Nat} {o o' : Obj} (h : RRow b W pre) (hk : W.heap[k]? = some o) (ho : o.isCells = false) : RRow b (W.putObj k o') pre := by
  obtain ⟨v, l, h1, h2, h3⟩ := h
  exact ⟨v, l, boxed_put h1 hk ho, ownsRow_putObj h2 _ hk ho, h3⟩
theorem boxed_st {A B : World} {sb j : Nat} {t : TypeId} {v : Value} (h : Boxed A j t v) (hs : StB sb A B) (hj : j ≠ sb) : Boxed B j t v := by
  rcases hs with ⟨u, rfl⟩ | ⟨k, rfl⟩
  · exact h.kept (grownBy_setCell' A sb u) (by simpa using hj)
  · exact h
theorem below_st {A B w : World} {sb b : Nat} (h : Below b w A) (hs : StB sb A B) (hb : b ≤ sb) : Below b w B := by
  rcases hs with ⟨u, rfl⟩ | ⟨k, rfl⟩
  · exact h.setCell (p := ⟨sb, 0, none⟩) hb u
  · exact below_drewN h k
theorem rbase_st {w A B : World} (h : RBase w A) (hs : StB (w.heap.size + 1 + 1 + 1) A B) : RBase w B :=
  ⟨boxed_st h.res hs (by omega), boxed_st h.code hs (by omega), below_st h.bel hs (by omega)⟩
theorem ri_st {w A B : World} {pre : List ByteArray} (h : RI w pre A) (hs : StB (w.heap.size + 1 + 1 + 1) A B) : RI w pre B := by
  obtain ⟨⟨v, l, h1, h2, h3⟩, h4, ⟨u, hu⟩, h5, h6⟩ := h
  refine ⟨⟨v, l, boxed_st h1 hs (by omega), ?_, h3⟩, rbase_st h4 hs, ?_, boxed_st h5 hs (by omega), boxed_st h6 hs (by omega)⟩
  · rcases hs with ⟨z, rfl⟩ | ⟨k, rfl⟩
    · exact World.ownsRow.kept h2 (grownBy_setCell' A _ z) (.inr (hu.not_row (by decide) h2).symm)
    · exact h2
  · rcases hs with ⟨z, rfl⟩ | ⟨k, rfl⟩
    · exact ⟨z, hu.set z⟩
    · exact ⟨u, hu⟩
theorem rx_st {w A B : World} {pre : List ByteArray} (h : RX w pre A) (hs : StB (w.heap.size + 1 + 1 + 1) A B) : RX w pre B := ⟨rbase_st h.1 hs, h.2⟩
theorem fr_blocks {sb pb vb : Nat} {A B : World} (h : ∀ b, b = sb ∨ b = pb ∨ b = vb → B.heap[b]? = A.heap[b]?) : FrB sb pb vb A B :=
  fun b hb => ⟨World.cell?_of_block (a := ⟨b, 0, none⟩) (h b hb), World.frozen?_of_block (a := ⟨b, 0, none⟩) (h b hb)⟩
theorem fr_put {sb pb vb k : Nat} {A W : World} {o' : Obj} (h : FrB sb pb vb A W) (h1 : sb < k) (h2 : pb < k) (h3 : vb < k) : FrB sb pb vb A (W.putObj k o') := by
  intro b hb
  have hne : b ≠ k := by rcases hb with rfl | rfl | rfl <;> omega
  have e : (W.putObj k o').heap[b]? = W.heap[b]? := World.putObj_heap_other hne
  rw [World.cell?_of_block (a := ⟨b, 0, none⟩) e, World.frozen?_of_block (a := ⟨b, 0, none⟩) e]
  exact h b hb
theorem fr_refl {sb pb vb : Nat} (A : World) : FrB sb pb vb A A := fun _ _ => ⟨rfl, rfl⟩
theorem fr_trans {sb pb vb : Nat} {A B C : World} (h : FrB sb pb vb A B) (k : FrB sb pb vb B C) : FrB sb pb vb A C :=
  fun b hb => ⟨(k b hb).1.trans (h b hb).1, (k b hb).2.trans (h b hb).2⟩
theorem st_keeps {A B : World} {sb k : Nat} {o : Obj} (hs : StB sb A B) (hk : A.heap[k]? = some o) (hne : sb < k) : B.heap[k]? = some o := by
  rcases hs with ⟨u, rfl⟩ | ⟨n, rfl⟩
  · rw [Below.heap_setCell _ _ _ _ (by show k ≠ sb; omega)]; exact hk
  · exact hk
theorem boxed_below {W w2 : World} {j : Nat} {t : TypeId} {v : Value} (h : Boxed W j t v) (hb : Below W.heap.size W w2) : Boxed w2 j t v := (hb.block j h.lt).trans h
theorem prefix_size {s x : ByteArray} {pre : List ByteArray} {c : UInt8} (h : pre ++ [x] <+: splitL s c) : x.size ≤ s.size := by
  obtain ⟨t, ht⟩ := h
  have e : (splitL s c).getD pre.length ⟨#[]⟩ = x := by
    rw [← ht, List.getD_eq_getElem?_getD]
    simp
  rw [← e]; exact split_size s c pre.length
theorem map_snoc {pre : List ByteArray} {x : ByteArray} {l : List Int} {d : Int} (h : pre.map pB = l.map some) (hx : pB x = some d) : (pre ++ [x]).map pB = (l ++ [d]).map some := by
  rw [List.map_append, List.map_append, h]; simp [hx]
theorem map_none {pre : List ByteArray} {x : ByteArray} (hx : pB x = none) : ¬ ∃ l : List Int, (pre ++ [x]).map pB = l.map some := by
  rintro ⟨l, h⟩
  have hm : none ∈ l.map some := by rw [← h]; simp [hx]
  simp at hm
theorem boxed_app {Wp w3 : World} {base b j n : Nat} {t : TypeId} {u v v' : Value} {xs : List Value} {tmp : Obj} (h : Boxed Wp j t u) (ht : t ≠ 2) (hrow : Wp.ownsRow base 2 1 v n xs)
    (hg : (Wp.alloc tmp).grownBy w3 v.ownBlock) (hj : j ≠ b) : Boxed (w3.setCell ⟨b, 0, none⟩ v') j t u :=
  ((h.alloc tmp).kept hg (h.not_row ht hrow)).kept (grownBy_setCell' w3 b v') (by simpa using hj)
theorem keeps_below {W w2 : World} (hb : Below W.heap.size W w2) : KeepsOthers W w2 :=
  ⟨hb.size, fun k o hk _ => (hb.block k (Array.getElem?_eq_some_iff.1 hk).1).trans hk⟩
theorem fr_boxed {sb pb vb : Nat} {A B : World} {t1 t2 t3 : TypeId} {u1 u2 u3 : Value} (a1 : Boxed A sb t1 u1) (b1 : Boxed B sb t1 u1) (a2 : Boxed A pb t2 u2) (b2 : Boxed B pb t2 u2) (a3 : Boxed A vb t3 u3) (b3 : Boxed B vb t3 u3) : FrB sb pb vb A B := by
  apply fr_blocks
  rintro b (rfl | rfl | rfl)
  · exact (show B.heap[b]? = _ from b1).trans (show A.heap[b]? = _ from a1).symm
  · exact (show B.heap[b]? = _ from b2).trans (show A.heap[b]? = _ from a2).symm
  · exact (show B.heap[b]? = _ from b3).trans (show A.heap[b]? = _ from a3).symm
/-- behind the append of a round -/
theorem ri_next {w W w2 w3 : World} {tmp : Obj} {pre : List ByteArray} {v v' : Value} {L : List Int} {d : Int} (hb : RBase w W) (hx : RBox w.heap.size W) (hv : Boxed W (w.heap.size + 1 + 1) 51 v)
    (hb2 : Below W.heap.size W w2) (hrow : IntRow w.heap.size w2 v L) (hm : pre.map pB = (L ++ [d]).map some)
    (hown : w3.ownsRow w.heap.size 2 1 v' (L.length + 1) (L.map (Value.int .i64) ++ [.int .i64 d])) (hgrow : (w2.alloc tmp).grownBy w3 v.ownBlock) :
    Boxed w3 (w.heap.size + 1 + 1) 51 v ∧ KeepsOthers W (w3.setCell ⟨w.heap.size + 1 + 1, 0, none⟩ v') ∧
    FrB (w.heap.size + 1 + 1 + 1) (w.heap.size + 1 + 1 + 1 + 1) (w.heap.size + 1 + 1 + 1 + 2) W (w3.setCell ⟨w.heap.size + 1 + 1, 0, none⟩ v') ∧ RI w pre (w3.setCell ⟨w.heap.size + 1 + 1, 0, none⟩ v') := by
  have hs := hb.bel.size
  have hs2 := hb2.size
  have r2 := (boxed_below hv hb2)
  obtain ⟨a1, a2, a3, a4, a5⟩ := r2.appended (t := 51) (by decide) hrow (show w.heap.size ≤ w2.heap.size by omega) (show w.heap.size ≤ w.heap.size + 1 + 1 by omega) hown hgrow
  obtain ⟨u, hu⟩ := hx.sb
  have c0 := boxed_app (b := w.heap.size + 1 + 1) (v' := v') (boxed_below hb.res hb2) (by decide) hrow hgrow (by omega)
  have c1 := boxed_app (b := w.heap.size + 1 + 1) (v' := v') (boxed_below hb.code hb2) (by decide) hrow hgrow (by omega)
  have c3 := boxed_app (b := w.heap.size + 1 + 1) (v' := v') (boxed_below hu hb2) (by decide) hrow hgrow (by omega)
  have c4 := boxed_app (b := w.heap.size + 1 + 1) (v' := v') (boxed_below hx.pb hb2) (by decide) hrow hgrow (by omega)
  have c5 := boxed_app (b := w.heap.size + 1 + 1) (v' := v') (boxed_below hx.vb hb2) (by decide) hrow hgrow (by omega)
  refine ⟨a1, (keeps_below hb2).trans a4, fr_boxed hu c3 hx.pb c4 hx.vb c5, ⟨v', L ++ [d], a2, intRow_snoc a3, hm⟩, ⟨c0, c1, ?_⟩, ⟨u, c3⟩, c4, c5⟩
  exact (hb.bel.trans (hb2.mono hs)).trans a5
theorem row_st2 {w W : World} {v u1 u2 : Value} {L : List Int} (hb : RBase w W) (hrow : IntRow w.heap.size W v L) :
    IntRow w.heap.size ((W.setCell ⟨w.heap.size, 0, none⟩ u1).setCell ⟨w.heap.size + 1, 0, none⟩ u2) v L := by
  have h1 : IntRow w.heap.size (W.setCell ⟨w.heap.size, 0, none⟩ u1) v L := World.ownsRow.kept hrow (grownBy_setCell' W _ u1) (.inr (hb.res.not_row (by decide) hrow).symm)
  have c1 := hb.code.kept (grownBy_setCell' W w.heap.size u1) (by simp)
  exact World.ownsRow.kept h1 (grownBy_setCell' _ _ u2) (.inr (c1.not_row (by decide) h1).symm)
/-- a return out of a round -/
theorem rx_ret {w W w2 : World} {pre : List ByteArray} (hb : RBase w W) (hb2 : Below W.heap.size W w2) (hm : ¬ ∃ l : List Int, pre.map pB = l.map some) :
    KeepsOthers W ((w2.setCell ⟨w.heap.size, 0, none⟩ (.slice none 0 0)).setCell ⟨w.heap.size + 1, 0, none⟩ (.bool false)) ∧
    RX w pre ((w2.setCell ⟨w.heap.size, 0, none⟩ (.slice none 0 0)).setCell ⟨w.heap.size + 1, 0, none⟩ (.bool false)) := by
  have r0 := boxed_below hb.res hb2
  have r1 := boxed_below hb.code hb2
  have hs := hb.bel.size
  have hs2 := hb2.size
  refine ⟨(keeps_below hb2).trans ((KeepsOthers.setCell _ _ _).trans (KeepsOthers.setCell _ _ _)), ⟨?_, ?_, ?_⟩, hm⟩
  · exact (r0.set _).kept (grownBy_setCell' _ _ _) (by simp)
  · exact (r1.kept (grownBy_setCell' _ w.heap.size _) (by simp)).set _
  · exact ((hb.bel.trans (hb2.mono hs)).setCell (p := ⟨w.heap.size, 0, none⟩) (Nat.le_refl _) _).setCell (p := ⟨w.heap.size + 1, 0, none⟩) (by simp) _
/-- the deferred calls' block still stands behind the stores of the results -/
theorem def_keeps {W w4 : World} {D : Nat} {a1 a2 : Addr} {u1 u2 : Value} (hK : W.heap[D]? = some (.deferred (some []))) (hb4 : Below W.heap.size W w4) :
    ((w4.setCell a1 u1).setCell a2 u2).heap[D]? = some (.deferred (some [])) :=
  ((KeepsOthers.setCell _ a1 u1).trans (KeepsOthers.setCell _ a2 u2)).same D _ ((keeps_below hb4).same D _ hK rfl) rfl
/-- the results' cells behind the stores, the deferred calls taken -/
theorem leave_cells {w W w4 : World} {D : Nat} {u1 u2 : Value} {o' : Obj} (hb : RBase w W) (hb4 : Below W.heap.size W w4) (hK : W.heap[D]? = some (.deferred (some []))) (hD : w.heap.size ≤ D) :
    (((w4.setCell ⟨w.heap.size, 0, none⟩ u1).setCell ⟨w.heap.size + 1, 0, none⟩ u2).putObj D o').cell? ⟨w.heap.size, 0, none⟩ = some u1 ∧
    (((w4.setCell ⟨w.heap.size, 0, none⟩ u1).setCell ⟨w.heap.size + 1, 0, none⟩ u2).putObj D o').cell? ⟨w.heap.size + 1, 0, none⟩ = some u2 ∧
    Below w.heap.size w (((w4.setCell ⟨w.heap.size, 0, none⟩ u1).setCell ⟨w.heap.size + 1, 0, none⟩ u2).putObj D o') := by
  have r0 := boxed_below hb.res hb4
  have r1 := boxed_below hb.code hb4
  have k := def_keeps (a1 := ⟨w.heap.size, 0, none⟩) (u1 := u1) (a2 := ⟨w.heap.size + 1, 0, none⟩) (u2 := u2) hK hb4
  have s0 := (r0.set u1).kept (grownBy_setCell' _ (w.heap.size + 1) u2) (by simp)
  have s1 := (r1.kept (grownBy_setCell' _ w.heap.size u1) (by simp)).set u2
  refine ⟨(boxed_put s0 k rfl).cell, (boxed_put s1 k rfl).cell, below_put ?_ hD⟩
  exact ((hb.bel.trans (hb4.mono hb.bel.size)).setCell (p := ⟨w.heap.size, 0, none⟩) (Nat.le_refl _) _).setCell (p := ⟨w.heap.size + 1, 0, none⟩) (by simp) _
/-- a part of the pieces that does not read: the whole does not -/
theorem part_none {ps pre : List ByteArray} (hp : pre <+: ps) (h : ¬ ∃ l : List Int, pre.map pB = l.map some) : ¬ ∃ l : List Int, ps.map pB = l.map some := by
  obtain ⟨t, rfl⟩ := hp
  rintro ⟨l, hl⟩
  apply h
  refine ⟨l.take pre.length, ?_⟩
  rw [List.map_append] at hl
  have := congrArg (List.take pre.length) hl
  rw [List.take_append_of_le_length (by simp), List.take_of_length_le (by simp)] at this
  rw [this, List.map_take]
end Go.Proofs.YtejgcamogjgdkaaGreatDoor
namespace Go.Proofs.YtejgcamogjgdkaaGreatDoor
open Go.RowKit Go.Shelf
attribute [local go_sem] Oper.semAt_some
set_option linter.unusedVariables false
set_option linter.unusedSimpArgs false
theorem parse_some {x : ByteArray} {d : Int} (w : World) (hx : x.size ≤ 2000000) (he : Env w) (h : pB x = some d) :
    Calls Tryz.prog 24 #[.string x, .int .i64 10, .int .i64 64] w fun e w' => e = .returned (.tuple #[.int .i64 d, .nilIface]) ∧ Below w.heap.size w w' := by
  refine (parse_any x w hx he).mono ?_
  rintro e w' ⟨v, er, rfl, hb, (⟨h1, rfl⟩ | ⟨h1, _⟩)⟩
  · unfold pB at h; rw [h1] at h; cases h; exact ⟨rfl, hb⟩
  · unfold pB at h; rw [h1] at h; cases h
theorem parse_none {x : ByteArray} (w : World) (hx : x.size ≤ 2000000) (he : Env w) (h : pB x = none) :
    Calls Tryz.prog 24 #[.string x, .int .i64 10, .int .i64 64] w fun e w' => ∃ v t p, e = .returned (.tuple #[.int .i64 v, .iface t p]) ∧ Below w.heap.size w w' := by
  refine (parse_any x w hx he).mono ?_
  rintro e w' ⟨v, er, rfl, hb, (⟨h1, rfl⟩ | ⟨h1, t, p, rfl⟩)⟩
  · unfold pB at h; rw [h1] at h; cases h
  · exact ⟨v, t, p, rfl, hb⟩
def RdPost (s : ByteArray) (w : World) (e : Ending) (w' : World) : Prop :=
  Below w.heap.size w w' ∧ ((∃ v l, e = .returned (.tuple #[v, .bool true]) ∧ IntRow w.heap.size w' v l ∧ RdD s l ∧ l.length ≤ s.size + 1) ∨ (e = .returned (.tuple #[.slice none 0 0, .bool false]) ∧ ¬ ∃ l, RdD s l))
theorem rd_all {s : ByteArray} {l : List Int} (h1 : ¬ s = ⟨#[45]⟩) (h : (splitL s 44).map pB = l.map some) : RdD s l ∧ l.length ≤ s.size + 1 := by
  refine ⟨.inr ⟨h1, h⟩, ?_⟩
  have := congrArg List.length h
  rw [List.length_map, List.length_map] at this
  have := split_length s 44
  omega
theorem rd_none {s : ByteArray} (h1 : ¬ s = ⟨#[45]⟩) (h : ¬ ∃ l : List Int, (splitL s 44).map pB = l.map some) : ¬ ∃ l, RdD s l := by
  rintro ⟨l, ⟨e, _⟩ | ⟨_, e⟩⟩
  · exact h1 e
  · exact h ⟨l, e⟩
set_option maxRecDepth 20000 in
set_option maxHeartbeats 3200000 in
theorem readDigits_more (s : ByteArray) (w : World) (hs0 : s.size ≤ 1090000) (h1 : ¬ s = ⟨#[45]⟩) (he : Env w) :
    Calls Tryz.prog 25 #[.string s] w (RdPost s w) := by
  have hne : (s.toList == [45]) = false := by
    have h := str_ne h1
    rw [ByteArray.toList_eq ⟨#[45]⟩] at h
    exact h
  obtain ⟨i0, hi, hz0, hz1, hz2⟩ := info_parts Tryz.infoInt64
  have HI := Lib.hid hi
  have HZ0 := Lib.hid hz0
  have HZ1 := Lib.hid hz1
  have HZ2 := Lib.hid hz2
  have HS := Lib.hid hs0
  have HE := Lib.hid he
  have H1 := Lib.hid h1
  clear hs0 he h1 hi hz0 hz1 hz2
  refine (callsIn_wide (n := 4)).1 ?_
  refine callsIn_of_wp_marks Tryz.func25 rfl trivial ?_ rfl
  simp only [Tryz.ntmps25, List.size_toArray, List.length_cons, List.length_nil, Nat.reduceAdd, Nat.reduceSub, Array.replicate_succ, Array.replicate_zero, List.push_toArray, List.append_toArray, List.nil_append, List.cons_append]
  gi_wp2_with (refine ⟨trivial, ?_⟩; gi_at_call 54; refine (callsIn_wide.2 (seq_made s ⟨#[44]⟩ _)).mono ?_; rintro e w' ⟨rfl, rfl⟩)
  obtain ⟨W6, hW6⟩ : ∃ W6, ((((((w.alloc (.cells #[.slice none 0 0] 51)).alloc (.cells #[.bool false] 4)).alloc (.cells #[.slice none 0 0] 51)).alloc (.cells #[.string s] 9)).alloc (.cells #[.string ⟨#[44]⟩] 9)).alloc (.cells #[.int .i64 0] 3)) = W6 := ⟨_, rfl⟩
  have h6s : W6.heap.size = w.heap.size + 6 := by rw [← hW6]; simp
  have b0 : Boxed W6 w.heap.size 51 (.slice none 0 0) := by
    rw [← hW6]; exact (((((Boxed.new w 51 (.slice none 0 0)).alloc _).alloc _).alloc _).alloc _).alloc _
  have b1 : Boxed W6 (w.heap.size + 1) 4 (.bool false) := by
    have h := Boxed.new (w.alloc (.cells #[.slice none 0 0] 51)) 4 (.bool false)
    rw [World.size_alloc] at h
    rw [← hW6]; exact (((h.alloc _).alloc _).alloc _).alloc _
  have b2 : Boxed W6 (w.heap.size + 1 + 1) 51 (.slice none 0 0) := by
    have h := Boxed.new ((w.alloc (.cells #[.slice none 0 0] 51)).alloc (.cells #[.bool false] 4)) 51 (.slice none 0 0)
    rw [World.size_alloc, World.size_alloc] at h
    rw [← hW6]; exact ((h.alloc _).alloc _).alloc _
  have b3 : Boxed W6 (w.heap.size + 1 + 1 + 1) 9 (.string s) := by
    have h := Boxed.new (((w.alloc (.cells #[.slice none 0 0] 51)).alloc (.cells #[.bool false] 4)).alloc (.cells #[.slice none 0 0] 51)) 9 (.string s)
    rw [World.size_alloc, World.size_alloc, World.size_alloc] at h
    rw [← hW6]; exact (h.alloc _).alloc _
  have b4 : Boxed W6 (w.heap.size + 1 + 1 + 1 + 1) 9 (.string ⟨#[44]⟩) := by
    have h := Boxed.new ((((w.alloc (.cells #[.slice none 0 0] 51)).alloc (.cells #[.bool false] 4)).alloc (.cells #[.slice none 0 0] 51)).alloc (.cells #[.string s] 9)) 9 (.string ⟨#[44]⟩)
    rw [World.size_alloc, World.size_alloc, World.size_alloc, World.size_alloc] at h
    rw [← hW6]; exact h.alloc _
  have b5 : Boxed W6 (w.heap.size + 1 + 1 + 1 + 2) 3 (.int .i64 0) := by
    have h := Boxed.new (((((w.alloc (.cells #[.slice none 0 0] 51)).alloc (.cells #[.bool false] 4)).alloc (.cells #[.slice none 0 0] 51)).alloc (.cells #[.string s] 9)).alloc (.cells #[.string ⟨#[44]⟩] 9)) 3 (.int .i64 0)
    rw [World.size_alloc, World.size_alloc, World.size_alloc, World.size_alloc, World.size_alloc] at h
    rw [← hW6]; exact h
  have hB6 : Below w.heap.size w W6 := by
    rw [← hW6]
    exact ((((((Below.refl _ w).alloc (Nat.le_refl _) _).alloc (by simp) _).alloc (by simp; omega) _).alloc (by simp; omega) _).alloc (by simp; omega) _).alloc (by simp; omega) _
  rw [hW6]
  clear hW6
  have hsz : s.size ≤ 2000000 := Nat.le_trans HS.out (by omega)
  refine wpIn_rangeBy (F := Fence.wide) (n := 4) (P := Tryz.prog) (w := W6) rfl (by omega) (gf := 95) rfl trivial (enters_of Tryz.func95 (by kernel_rfl) rfl)
    (splitSeq_by 3 (by omega) (w.heap.size + 1 + 1 + 1) (w.heap.size + 1 + 1 + 1 + 1) (w.heap.size + 1 + 1 + 1 + 2) 44 s (by omega) (by omega) hsz) (fun _ => rfl)
    (RI w) (RX w) (fun x => { tmps := #[.string s, undef, .pointer (some ⟨w.heap.size, 0, none⟩), .pointer (some ⟨w.heap.size + 1, 0, none⟩), .pointer (some ⟨w.heap.size + 1 + 1, 0, none⟩), .string x, undef, undef, .string s, .bool false, .string s, .func (.func 95) #[] #[.pointer (some ⟨w.heap.size + 1 + 1 + 1 + 1, 0, none⟩), .pointer (some ⟨w.heap.size + 1 + 1 + 1, 0, none⟩), .pointer (some ⟨w.heap.size + 1 + 1 + 1 + 2, 0, none⟩)], .string x, undef, undef, undef, undef, undef, undef, undef, undef, undef, undef, undef, undef], defers := [] })
    ?ip ?xp ?fp ?fq ?ft ?is ?xs ?sk ?h0 ?s0 ?assign ?body ?done ?stop
  case ip => rintro pre W k o o' ⟨hr, hb, hx⟩ hk ho hc; exact ⟨rrow_put hr ho hc, rbase_put hb (by omega) ho hc, rbox_put hx ho hc⟩
  case xp => rintro pre W k o o' ⟨hb, hx⟩ hk ho hc; exact ⟨rbase_put hb (by omega) ho hc, hx⟩
  case fp => intro A W k o o' hf hk ho hc; exact fr_put hf (by omega) (by omega) (by omega)
  case fq => intro W k o o' hk ho hc; exact fr_put (fr_refl W) (by omega) (by omega) (by omega)
  case ft => intro A B C h k; exact fr_trans h k
  case is => intro pre A B h hs; exact ri_st h hs
  case xs => intro pre A B h hs; exact rx_st h hs
  case sk => intro A B k o hs hk ho hc; exact st_keeps hs ho (by omega)
  case h0 =>
    intro o o'
    exact ⟨⟨_, [], (b2.alloc _).alloc _, intRow_nil _ _, rfl⟩, ⟨(b0.alloc _).alloc _, (b1.alloc _).alloc _, (hB6.alloc (by omega) _).alloc (by simp; omega) _⟩, ⟨_, (b3.alloc _).alloc _⟩, (b4.alloc _).alloc _, (b5.alloc _).alloc _⟩
  case s0 =>
    intro o o'
    exact ⟨((b3.alloc _).alloc _).cell, ((b3.alloc _).alloc _).frozen, ((b4.alloc _).alloc _).cell, ((b5.alloc _).alloc _).cell⟩
  case assign =>
    intro l x W K hK
    gi_wp2
    exact hK
  case body =>
    rintro l pre x W hsp ⟨⟨v, L, hv, hrow, hm⟩, hb, hx⟩
    have hxs : x.size ≤ 2000000 := Nat.le_trans (prefix_size hsp) hsz
    have hE := env_below HE.out hb.bel (Nat.le_refl _)
    have hlen : L.length ≤ 2000001 := by
      have e := congrArg List.length hm
      rw [List.length_map, List.length_map] at e
      have := hsp.length_le
      rw [List.length_append] at this
      have := split_length s 44
      omega
    obtain ⟨o, c, rfl⟩ := row_slice hrow
    have r0 := hb.res
    have r1 := hb.code
    cases hr : pB x with
    | none =>
      have HM := Lib.hid (map_none (pre := pre) hr)
      clear HI HZ0 HZ1 HZ2 H1 HE hm hsp hlen
      gi_wp2_with (refine ⟨trivial, ?_⟩; gi_at_call 24; refine (CallsIn.inRound l (callsIn_wide.2 (parse_none W hxs hE hr))).mono ?_; rintro e w2 ⟨v0, t0, p0, rfl, hb2⟩; have r0 := boxed_below r0 hb2; have r1 := boxed_below r1 hb2; have q0 := r0.cell; have q0f := r0.frozen; have q1 := r1.cell; have q1f := r1.frozen)
      exact rx_ret hb hb2 HM.out
    | some d =>
      have HM := Lib.hid (map_snoc hm hr)
      clear H1 HE hm hsp
      gi_wp2_with (first
        | (refine ⟨trivial, ?_⟩; gi_at_call 24; refine (CallsIn.inRound l (callsIn_wide.2 (parse_some W hxs hE hr))).mono ?_; rintro e w2 ⟨rfl, hb2⟩; have r2 := boxed_below hv hb2; have q2 := r2.cell; have hrw : IntRow w.heap.size w2 (.slice o L.length c) L := row_below hrow hb2 (Nat.le_refl _))
        | (gi_at_builtin; refine wpListIn_append_own _ rfl (.tmp 20) (.tmp 22) 51 rfl w.heap.size 2 i0 (.int .i64 0) 1 8 Tryz.underlying51 HI.out HZ0.out HZ1.out HZ2.out rfl (by decide) _ _ _ rfl (hrw.alloc _) ⟨w2.heap.size, 0, none⟩ 1 1 [.int .i64 d] rfl rfl ?c1 ?c2 ?c3 ?c4 ?c5 ?_))
      case c1 => first | exact news_one _ _ _ | simp [Addr.add]
      case c2 => first | exact one_one _ | rfl
      case c3 => unfold maxLen; omega
      case c4 => omega
      case c5 => have h1 := hb.bel.size; have h2 := hb2.size; first | omega | (simp; omega)
      intro v' w3 hown hgrow _
      obtain ⟨o2, c2, rfl⟩ := row_slice hown
      obtain ⟨e1, e2, e3, e4⟩ := ri_next hb hx hv hb2 hrw HM.out hown hgrow
      have q3 := e1.cell
      have q3f := e1.frozen
      clear hown hgrow
      gi_wp2
      exact ⟨e2, e3, e4⟩
  case done =>
    rintro D xs W hD rfl ⟨⟨v, L, hv, hrow, hm⟩, hb, hx⟩ hK
    obtain ⟨o, c, rfl⟩ := row_slice hrow
    have HR := Lib.hid (rd_all H1.out hm)
    have hDb : w.heap.size ≤ D := by omega
    have q2 := hv.cell
    have q0 := hb.res.cell
    have q0f := hb.res.frozen
    have q1 := hb.code.cell
    have q1f := hb.code.frozen
    have hb4 := Below.refl W.heap.size W
    clear HI HZ0 HZ1 HZ2 HE hx hsz hm
    gi_wp2
    refine ⟨by simp, .inl ⟨_, _, rfl, run_takeDeferred (def_keeps hK hb4), ?_⟩⟩
    obtain ⟨z0, z1, z2⟩ := leave_cells (u1 := .slice o L.length c) (u2 := .bool true) (o' := .deferred none) hb hb4 hK hDb
    refine ⟨.tuple #[.slice o L.length c, .bool true], by simp [results, Tryz.results25, go_sem, z0, z1], ?_⟩
    exact ⟨z2, .inl ⟨_, L, rfl, ownsRow_putObj (row_st2 hb hrow) _ (def_keeps hK hb4) rfl, HR.out⟩⟩
  case stop =>
    rintro D pre W hD hsp ⟨hb, hx⟩ hK
    have hN := rd_none H1.out (part_none hsp hx)
    have hb' := rbase_put (o' := .deferred none) hb (by omega) hK rfl
    have z0 := hb'.res.cell
    have z1 := hb'.code.cell
    gi_wp2
    refine ⟨by simp, .inl ⟨_, _, rfl, run_takeDeferred hK, ?_⟩⟩
    refine ⟨.tuple #[.slice none 0 0, .bool false], by simp [results, Tryz.results25, go_sem, z0, z1], ?_⟩
    exact ⟨hb'.bel, .inr ⟨rfl, hN⟩⟩
end Go.Proofs.YtejgcamogjgdkaaGreatDoor
namespace Go.Proofs.YtejgcamogjgdkaaGreatDoor
open Go.RowKit
set_option linter.unusedVariables false
set_option linter.unusedSimpArgs false
theorem rdV_bd (s : ByteArray) : 0 ≤ rdV s ∧ rdV s ≤ 10000000000000 := by
  unfold rdV
  split
  · rename_i h
    have e : s.data.toList.take s.size = s.data.toList := List.take_of_length_le (by simp)
    have := dig_bd s s.size h.2.1 (by rw [e]; exact h.2.2)
    rw [e] at this; exact this
  · omega
def negS (s : ByteArray) : Bool := if h : 0 < s.size then s[0] == 45 else false
def sgV (s : ByteArray) : Int := if negS s then -(rdV (s.extract 1 s.size)) else rdV s
def sgOk (s : ByteArray) : Bool := if negS s then rdOk (s.extract 1 s.size) && decide (0 < rdV (s.extract 1 s.size)) else rdOk s
theorem l01Signed_any (s : ByteArray) (w : World) (hs : s.size ≤ 2000000) :
    Calls Tryz.prog 29 #[.string s] w fun e w' => e = .returned (.tuple #[.int .i64 (sgV s), .bool (sgOk s)]) ∧ Below w.heap.size w w' := by
  by_cases h0 : 0 < s.size
  · by_cases h1 : s[0] = 45
    · have e1 : negS s = true := by simp [negS, h0, h1]
      have hV : sgV s = -(rdV (s.extract 1 s.size)) := by simp [sgV, e1]
      have hO : sgOk s = (rdOk (s.extract 1 s.size) && decide (0 < rdV (s.extract 1 s.size))) := by simp [sgOk, e1]
      rw [hV, hO]
      have hb := rdV_bd (s.extract 1 s.size)
      have HV := Lib.hid fun w => l01Value_any (s.extract 1 s.size) w (by rw [ByteArray.size_extract]; omega)
      have h1' : ((s[0].toNat : Int) == 45) = true := u8_eq (b := 45) h1
      clear hV hO e1 h1
      generalize rdV (s.extract 1 s.size) = x at *
      generalize rdOk (s.extract 1 s.size) = b at *
      obtain ⟨hx0, hx1⟩ := hb
      have hw : IntKind.i64.wrap (-x) = -x := IntWalk.i64_in _ (by omega)
      cases b
      · go_enter Tryz.func29, Tryz.ntmps29
        go_wp2_with (go_at_call 28; refine (HV.out _).mono ?_; rintro e wn ⟨rfl, hb⟩)
        go_ret2
        exact ⟨rfl, hb⟩
      · by_cases hx : 0 < x
        · go_enter Tryz.func29, Tryz.ntmps29
          go_wp2_with (go_at_call 28; refine (HV.out _).mono ?_; rintro e wn ⟨rfl, hb⟩)
          go_ret2
          exact ⟨by simp [hx], hb⟩
        · go_enter Tryz.func29, Tryz.ntmps29
          go_wp2_with (go_at_call 28; refine (HV.out _).mono ?_; rintro e wn ⟨rfl, hb⟩)
          go_ret2
          exact ⟨by simp [hx], hb⟩
    · have e1 : negS s = false := by simp [negS, h0, h1]
      have hV : sgV s = rdV s := by simp [sgV, e1]
      have hO : sgOk s = rdOk s := by simp [sgOk, e1]
      rw [hV, hO]
      have HV := Lib.hid fun w => l01Value_any s w (by omega)
      have h1' : ((s[0].toNat : Int) == 45) = false := u8_ne (b := 45) h1
      clear hV hO e1 h1
      generalize rdV s = x at *
      generalize rdOk s = b at *
      go_enter Tryz.func29, Tryz.ntmps29
      go_wp2_with (go_at_call 28; refine (HV.out _).mono ?_; rintro e wn ⟨rfl, hb⟩)
      go_ret2
      exact ⟨rfl, hb⟩
  · have e1 : negS s = false := by simp [negS, h0]
    have hV : sgV s = rdV s := by simp [sgV, e1]
    have hO : sgOk s = rdOk s := by simp [sgOk, e1]
    rw [hV, hO]
    have HV := Lib.hid fun w => l01Value_any s w (by omega)
    have h0' : (s.size : Int) = 0 := by omega
    clear hV hO e1
    generalize rdV s = x at *
    generalize rdOk s = b at *
    go_enter Tryz.func29, Tryz.ntmps29
    go_wp2_with (go_at_call 28; refine (HV.out _).mono ?_; rintro e wn ⟨rfl, hb⟩)
    go_ret2
    exact ⟨rfl, hb⟩
/-- what l01Numbers answers -/
def numsL (ws : List ByteArray) : List Int := if ws.all sgOk then ws.map sgV else []
def tkW (ws : List ByteArray) (k : Nat) : List Int := (ws.take k).map sgV
theorem tkW_succ {ws : List ByteArray} {k : Nat} {x : ByteArray} (h : k < ws.length) (e : ws.getD k ⟨#[]⟩ = x) : tkW ws (k + 1) = tkW ws k ++ [sgV x] := by
  unfold tkW
  have e2 : ws[k] = x := by rw [← e]; simp [List.getD, h]
  rw [List.take_succ_eq_append_getElem h, List.map_append, List.map_singleton, e2]
theorem nums_succ {ws : List ByteArray} {k : Nat} {x : ByteArray} (h : k < ws.length) (e : ws.getD k ⟨#[]⟩ = x) (h1 : (ws.take k).all sgOk = true) (h2 : sgOk x = true) : (ws.take (k + 1)).all sgOk = true := by
  have e2 : ws[k] = x := by rw [← e]; simp [List.getD, h]
  rw [List.take_succ_eq_append_getElem h, List.all_append, h1, e2]; simp [h2]
theorem nums_bad {ws : List ByteArray} {k : Nat} {x : ByteArray} (h : k < ws.length) (e : ws.getD k ⟨#[]⟩ = x) (h2 : sgOk x = false) : ws.all sgOk = false ∧ numsL ws = [] := by
  have e2 : ws[k] = x := by rw [← e]; simp [List.getD, h]
  have hn : ¬ ws.all sgOk = true := by
    intro ha
    rw [List.all_eq_true] at ha
    have := ha _ (List.getElem_mem h)
    rw [e2, h2] at this; cases this
  refine ⟨by simpa using hn, ?_⟩
  unfold numsL; rw [if_neg hn]
theorem nums_good {ws : List ByteArray} {k : Nat} (h : k = ws.length) (h1 : (ws.take k).all sgOk = true) : ws.all sgOk = true ∧ numsL ws = tkW ws k := by
  subst h
  have h2 : ws.all sgOk = true := by rw [List.take_length] at h1; exact h1
  refine ⟨h2, ?_⟩
  unfold numsL tkW; rw [if_pos h2, List.take_length]
set_option maxRecDepth 20000 in
set_option maxHeartbeats 1600000 in
theorem l01Numbers_any (base : Nat) (g c : Nat) (ws : List ByteArray) (w : World) (hn : ws.length ≤ 1100001) (hs : ∀ k, (ws.getD k ⟨#[]⟩).size ≤ 2000000) (hg : g < w.heap.size) (hr : StrRow base w (.slice (some ⟨g, 0, none⟩) ws.length c) ws) :
    Calls Tryz.prog 30 #[.slice (some ⟨g, 0, none⟩) ws.length c] w fun e w' => ∃ v, e = .returned (.tuple #[v, .bool (ws.all sgOk)]) ∧ IntRow w.heap.size w' v (numsL ws) ∧ Below w.heap.size w w' := by
  obtain ⟨i0, hi, hz0, hz1, hz2⟩ := info_parts Tryz.infoInt64
  have HI := Lib.hid hi
  have HZ0 := Lib.hid hz0
  have HZ1 := Lib.hid hz1
  have HZ2 := Lib.hid hz2
  have HR := Lib.hid (strRow_cells hr rfl)
  have HS := Lib.hid hs
  have HR0 := Lib.hid (intRow_made w)
  have HB0 := Lib.hid (below_a1 w (.cells #[] 2))
  clear hi hz0 hz1 hz2 hr hs
  obtain ⟨m, hm⟩ : ∃ m, ws.length = m := ⟨_, rfl⟩
  rw [hm] at HR hn ⊢
  have HM := Lib.hid hm
  clear hm
  go_enter Tryz.func30, Tryz.ntmps30
  go_wp2
  go_loopw [4, 5] (fun s i wr => ∃ k : Nat, i = .int .i64 k ∧ k ≤ m ∧ IntRow w.heap.size wr s (tkW ws k) ∧ (ws.take k).all sgOk = true ∧ Below w.heap.size w wr) (fun _ i _ => m - (intOf i).toNat)
  case atStart => exact ⟨0, rfl, Nat.zero_le _, HR0.out, rfl, HB0.out⟩
  case round =>
    obtain ⟨k, rfl, hk, hrow, hall, hbel⟩ := hrel
    have hkl : (tkW ws k).length = k := by unfold tkW; rw [List.length_map, List.length_take, HM.out]; omega
    have HW := Lib.hid hrow
    have HL := Lib.hid hbel
    have HA := Lib.hid hall
    have hsz0 := hbel.size
    clear hrow hbel hall HR0 HB0
    by_cases hlt : k < m
    · have hcell := HR.out k hlt
      rw [← HL.out.cell (by exact hg)] at hcell
      obtain ⟨x, hx⟩ : ∃ x, ws.getD k ⟨#[]⟩ = x := ⟨_, rfl⟩
      have hxs : x.size ≤ 2000000 := by rw [← hx]; exact HS.out k
      have hgw : g < wr.heap.size := by omega
      rw [hx] at hcell
      have HX := Lib.hid hx
      have HF := Lib.hid fun w => l01Signed_any x w hxs
      have hlt' : k < ws.length := by rw [HM.out]; exact hlt
      clear hx hxs
      cases hok : sgOk x
      · have HE := Lib.hid (nums_bad hlt' HX.out hok)
        rw [hok] at HF
        generalize sgV x = y at *
        clear hok hlt'
        go_wp2_with (go_at_call 29; refine (HF.out _).mono ?_; rintro e w2 ⟨rfl, hb2⟩)
        go_ret2
        rw [HE.out.1, HE.out.2]
        exact ⟨_, rfl, intRow_nil _ _, HL.out.trans (hb2.mono HL.out.size)⟩
      · have HT := Lib.hid (tkW_succ hlt' HX.out)
        have HA2 := Lib.hid (nums_succ hlt' HX.out HA.out hok)
        rw [hok] at HF
        generalize sgV x = y at *
        clear hok hlt'
        go_wp2_with (first
          | (go_at_call 29; refine (HF.out _).mono ?_; rintro e w2 ⟨rfl, hb2⟩; have hrw : IntRow w.heap.size w2 _ _ := row_below HW.out hb2 (Nat.le_refl _); have hbl := HL.out.trans (hb2.mono HL.out.size); have hsz := hb2.size)
          | (at_builtin; refine wpList_append_own _ rfl (.tmp 25) (.tmp 27) 51 rfl w.heap.size 2 i0 (.int .i64 0) 1 8 Tryz.underlying51 HI.out HZ0.out HZ1.out HZ2.out rfl (by decide) _ _ _ rfl (hrw.alloc _) ⟨w2.heap.size, 0, none⟩ 1 1 [.int .i64 y] rfl rfl ?c1 ?c2 ?c3 ?c4 ?c5 ?_))
        case c1 => first | exact news_one _ _ _ | simp [Addr.add]
        case c2 => first | exact one_one _ | rfl
        case c3 => rw [hkl]; unfold maxLen; omega
        case c4 => rw [hkl]; omega
        case c5 => first | omega | (simp; omega)
        intro v' w3 hown hgrow _
        have HO := Lib.hid (intRow_snoc (acc := tkW ws k) (a := y) (by rw [hkl]; exact hown))
        have HG := Lib.hid (((hbl.alloc (by omega) (.cells #[.int .i64 y] 2)).grown hgrow (by simp; omega) (fun k hk => (World.ownsRow.lt hrw k hk).1) : Below w.heap.size w w3))
        clear hown hgrow hrw hbl
        go_wp2
        go_roundw
        case rel => exact ⟨k + 1, by go_num, by omega, by rw [HT.out]; exact HO.out, HA2.out, HG.out⟩
        case measure => simp [intOf]; omega
    · have hk2 : k = ws.length := by rw [HM.out]; omega
      have HG := Lib.hid (nums_good hk2 HA.out)
      clear hk2
      obtain ⟨o, c', hv⟩ := row_slice HW.out
      subst hv
      go_wp2
      go_ret2
      rw [HG.out.1, HG.out.2]
      exact ⟨_, rfl, HW.out, HL.out⟩
/-- the digits that spec reads off the last piece -/
def dgS (x : ByteArray) : List Int := if x = ⟨#[45]⟩ then [] else numsL (splitL x 44)
theorem neg_dig {l : List UInt8} (h : l.all isDig = true) : negS (bsOf l) = false := by
  unfold negS
  split
  · rename_i h0
    rw [List.all_eq_true] at h
    have hm : (bsOf l).data[0] ∈ (bsOf l).data.toList := by simp
    have e : (bsOf l).data.toList = l := by simp [bsOf]
    rw [e] at hm
    have := h _ hm
    change isDig (bsOf l)[0] = true at this
    cases hb : (bsOf l)[0] == 45
    · rfl
    · have e : (bsOf l)[0] = 45 := by simpa using hb
      rw [e] at this; cases this
  · rfl
theorem sg_nat {n : Int} (h0 : 0 ≤ n) (h1 : n < 10000000000000) : sgV (bsOf (Lib.itoa n)) = n ∧ sgOk (bsOf (Lib.itoa n)) = true := by
  obtain ⟨d1, d2⟩ := decDigits_val n.toNat
  have hl := decDigits_len 12 n.toNat (by omega)
  have hp : 1 ≤ (Lib.decDigits n.toNat).length := by rw [Lib.decDigits]; split <;> simp
  have hn : negS (bsOf (Lib.itoa n)) = false := by rw [itoa_nat h0]; exact neg_dig d1
  unfold sgV sgOk
  rw [hn]
  refine ⟨rdV_itoa h0 h1, ?_⟩
  show rdOk (bsOf (Lib.itoa n)) = true
  rw [itoa_nat h0, (rd_good (s := bsOf (Lib.decDigits n.toNat)) (by rw [bs_size]; exact hp) (by rw [bs_size]; exact hl) d1).2]
  refine decide_eq_true ?_
  rw [show valL (bsOf (Lib.decDigits n.toNat)).data.toList = n by
    show valL (Lib.decDigits n.toNat) = n
    rw [d2]; omega, itoa_nat h0]
theorem sg_itoa {n : Int} (h0 : -1000000 ≤ n) (h1 : n ≤ 1000000) : sgV (bsOf (Lib.itoa n)) = n := by
  by_cases hn : 0 ≤ n
  · exact (sg_nat hn (by omega)).1
  · have e : Lib.itoa n = 45 :: Lib.itoa (-n) := by
      unfold Lib.itoa; rw [if_pos (by omega), if_neg (by omega), show (-n).toNat = n.natAbs by omega]
    have hx : (bsOf (Lib.itoa n)).extract 1 (bsOf (Lib.itoa n)).size = bsOf (Lib.itoa (-n)) := by
      rw [e]; apply ByteArray.ext; simp [bsOf, ByteArray.size]
    have hs : negS (bsOf (Lib.itoa n)) = true := by
      rw [e]; unfold negS; rw [dif_pos (by rw [bs_size]; simp)]; rfl
    unfold sgV
    rw [hs, if_pos rfl, hx, rdV_itoa (by omega) (by omega)]
    omega
theorem nums_itoa {l : List Int} (hd : ∀ d ∈ l, 0 ≤ d ∧ d < 97) : numsL (l.map fun d => bsOf (Lib.itoa d)) = l := by
  have h1 : (l.map fun d => bsOf (Lib.itoa d)).all sgOk = true := by
    rw [List.all_eq_true]
    intro x hx
    obtain ⟨d, hd', rfl⟩ := List.mem_map.1 hx
    have := hd d hd'
    exact (sg_nat (by omega) (by omega)).2
  unfold numsL
  rw [if_pos h1, List.map_map]
  conv => rhs; rw [← List.map_id l]
  apply List.map_congr_left
  intro d hd'
  have := hd d hd'
  exact (sg_nat (by omega) (by omega)).1
theorem dg_last {p v u n : Int} (h : POk p v u n) : dgS (bsOf (lastT p u n)) = digL p u n.toNat := by
  unfold lastT
  by_cases hn : n = 0
  · rw [if_pos hn, hn]; rfl
  · obtain ⟨h1, h2⟩ := digs_ne h hn
    rw [if_neg hn]
    unfold dgS
    rw [if_neg (digT_ne h1 h2), split_digT h1, nums_itoa h2]
/-- what spec reads off a text -/
theorem spec_reads {s : ByteArray} {q : Q4} (h : IsText s q) : (splitL s 58).length = 3 ∧
    fromC (rdV ((splitL s 58).getD 0 ⟨#[]⟩)) (sgV ((splitL s 58).getD 1 ⟨#[]⟩)) (dgS ((splitL s 58).getD 2 ⟨#[]⟩)) = 0 ∧
    fromQ (rdV ((splitL s 58).getD 0 ⟨#[]⟩)) (sgV ((splitL s 58).getD 1 ⟨#[]⟩)) (dgS ((splitL s 58).getD 2 ⟨#[]⟩)) = q := by
  obtain ⟨hk, rfl⟩ := h
  obtain ⟨hp2, hp97, _⟩ := pok_bd hk
  have hv0 := hk.2.1
  have hv1 := hk.2.2.1
  rw [split_text]
  refine ⟨rfl, ?_⟩
  show fromC (rdV (bsOf (Lib.itoa q.1))) (sgV (bsOf (Lib.itoa q.2.1))) (dgS (bsOf (lastT q.1 q.2.2.1 q.2.2.2))) = 0 ∧ fromQ (rdV (bsOf (Lib.itoa q.1))) (sgV (bsOf (Lib.itoa q.2.1))) (dgS (bsOf (lastT q.1 q.2.2.1 q.2.2.2))) = q
  rw [rdV_itoa (by omega) (by omega), sg_itoa (by omega) (by omega), dg_last hk]
  exact from_digits hk
end Go.Proofs.YtejgcamogjgdkaaGreatDoor
namespace Go.Proofs.YtejgcamogjgdkaaGreatDoor
open Go.RowKit
set_option linter.unusedVariables false
set_option linter.unusedSimpArgs false
/-- the three pieces of a text, as they lie in memory -/
def C3 (W : World) (g : Nat) (x0 x1 x2 : ByteArray) : Prop :=
  g < W.heap.size ∧ W.cell? ⟨g, 0, none⟩ = some (.string x0) ∧ W.cell? ⟨g, 1, none⟩ = some (.string x1) ∧ W.cell? ⟨g, 2, none⟩ = some (.string x2)
theorem c3_next {A B : World} {g : Nat} {x0 x1 x2 : ByteArray} (h : C3 A g x0 x1 x2) (hb : Below A.heap.size A B) : C3 B g x0 x1 x2 := by
  obtain ⟨h0, h1, h2, h3⟩ := h
  exact ⟨Nat.lt_of_lt_of_le h0 hb.size, by rw [hb.cell (by exact h0)]; exact h1, by rw [hb.cell (by exact h0)]; exact h2, by rw [hb.cell (by exact h0)]; exact h3⟩
theorem below_al (w : World) (o : Obj) : Below w.heap.size w (w.alloc o) := below_a1 w o
theorem c3_len {s : ByteArray} (h3 : (splitL s 58).length = 3) {w : World} {base g c : Nat} (hr : StrRow base w (.slice (some ⟨g, 0, none⟩) (splitL s 58).length c) (splitL s 58)) (hg : g < w.heap.size) :
    C3 w g ((splitL s 58).getD 0 ⟨#[]⟩) ((splitL s 58).getD 1 ⟨#[]⟩) ((splitL s 58).getD 2 ⟨#[]⟩) := by
  have hc := strRow_cells hr rfl
  exact ⟨hg, hc 0 (by omega), hc 1 (by omega), hc 2 (by omega)⟩
theorem rp_no {s : ByteArray} {w w' : World} (h : ¬ ∃ q, IsText s q) (hb : Below w.heap.size w w') : ReadPost s w (.returned (.tuple #[.agg (P4 0 0 0 0), .int .i64 6])) w' :=
  ⟨(0, 0, 0, 0), 6, rfl, hb, .inr ⟨rfl, rfl, h⟩⟩
theorem rp_yes {s : ByteArray} {w w' : World} {a b c d : Int} (h : IsText s (a, b, c, d)) (hb : Below w.heap.size w w') : ReadPost s w (.returned (.tuple #[.agg (P4 a b c d), .int .i64 0])) w' :=
  ⟨(a, b, c, d), 0, rfl, hb, .inl ⟨rfl, h⟩⟩
theorem dgS_len (x : ByteArray) (hx : x.size ≤ 1099999) : (dgS x).length ≤ 1100000 := by
  unfold dgS numsL
  split
  · simp
  · split
    · rw [List.length_map]; have := split_length x 44; omega
    · simp
/-- what follows the reading: there is no text, or the number is valid and has the text or not -/
theorem read_end {s : ByteArray} {P V : Int} {D : List Int} {q : Q4} {c : Int} (hc : fromC P V D = c) (hq : fromQ P V D = q) (hr : ∀ q', IsText s q' → fromC P V D = 0 ∧ fromQ P V D = q') :
    (¬ c = 0 ∧ ¬ ∃ q, IsText s q) ∨ (c = 0 ∧ POk q.1 q.2.1 q.2.2.1 q.2.2.2 ∧ ((bsOf (textL q.1 q.2.1 q.2.2.1 q.2.2.2) = s ∧ IsText s q) ∨ (¬ bsOf (textL q.1 q.2.1 q.2.2.1 q.2.2.2) = s ∧ ¬ ∃ q, IsText s q))) := by
  by_cases h : c = 0
  · right
    have hp := from_ok (hc.trans h)
    rw [hq] at hp
    refine ⟨h, hp, ?_⟩
    by_cases ht : bsOf (textL q.1 q.2.1 q.2.2.1 q.2.2.2) = s
    · exact .inl ⟨ht, hp, ht⟩
    · refine .inr ⟨ht, ?_⟩
      rintro ⟨q', hq'⟩
      have := (hr q' hq').2
      rw [hq] at this
      subst this
      exact ht hq'.2
  · left
    refine ⟨h, ?_⟩
    rintro ⟨q', hq'⟩
    exact h (hc.symm.trans (hr q' hq').1)
set_option maxRecDepth 20000 in
set_option maxHeartbeats 3200000 in
theorem specReadPadic_any (s : ByteArray) (w : World) (hs : s.size ≤ 1090000) :
    Calls Tryz.prog 11 #[.string s] w (ReadPost s w) := by
  have HS := Lib.hid hs
  have h2 : s.size ≤ 2000000 := by omega
  have HR := Lib.hid fun q (h : IsText s q) => spec_reads h
  clear hs
  go_enter Tryz.func11, Tryz.ntmps11
  go_wp2_with fail
  refine (l01Split_any s 58 _ h2).mono ?_
  rintro e w1 ⟨v1, rfl, r1, b1⟩
  have K := k1_first b1
  obtain ⟨c0, c1, c2, c3⟩ := lies_four K.2
  obtain ⟨cf0, cf1, cf2, cf3⟩ := lies_ice K.2
  obtain ⟨g, cp, rfl, hg, hgw⟩ := strRow_some r1 (split_pos s 58)
  by_cases h3 : (splitL s 58).length = 3
  · have C := c3_len h3 r1 hgw
    have HR2 := Lib.hid fun q (h : IsText s q) => (HR.out q h).2
    have z0 := split_size s 58 0
    have z1 := split_size s 58 1
    have z2 := split_size s 58 2
    rw [h3]
    clear r1 b1 hgw hg h3 HR
    obtain ⟨x0, hx0⟩ : ∃ x, (splitL s 58).getD 0 ⟨#[]⟩ = x := ⟨_, rfl⟩
    obtain ⟨x1, hx1⟩ : ∃ x, (splitL s 58).getD 1 ⟨#[]⟩ = x := ⟨_, rfl⟩
    obtain ⟨x2, hx2⟩ : ∃ x, (splitL s 58).getD 2 ⟨#[]⟩ = x := ⟨_, rfl⟩
    rw [hx0, hx1, hx2] at C HR2
    rw [hx0] at z0
    rw [hx1] at z1
    rw [hx2] at z2
    have hs := HS.out
    have D0 := Lib.hid fun w => l01Value_any x0 w (by omega)
    have D1 := Lib.hid fun w => l01Signed_any x1 w (by omega)
    have D2 := Lib.hid fun w => l01Split_any x2 44 w (by omega)
    have hdl := dgS_len x2 (by omega)
    have HZ : Hid (∀ k, ((splitL x2 44).getD k ⟨#[]⟩).size ≤ 2000000 ∧ (splitL x2 44).length ≤ 1100001) := by
      show ∀ k, ((splitL x2 44).getD k ⟨#[]⟩).size ≤ 2000000 ∧ (splitL x2 44).length ≤ 1100001
      intro k
      have a := split_size x2 44 k
      have b := split_length x2 44
      omega
    clear hx0 hx1 hx2 z0 z1 z2 hs h2
    generalize rdV x0 = P at *
    generalize sgV x1 = V at *
    generalize rdOk x0 = ok0 at *
    generalize sgOk x1 = ok1 at *
    obtain ⟨hg, q0, q1, q2⟩ := C
    by_cases hm : x2 = ⟨#[45]⟩
    · have hD : dgS x2 = [] := by unfold dgS; rw [if_pos hm]
      have hm' := str_eq' hm
      rw [ByteArray.toList_eq ⟨#[45]⟩] at hm'
      change (x2.toList == [45]) = true at hm'
      rw [hD] at HR2
      have HF := Lib.hid fun base w v (h : IntRow base w v []) => specFrom_any P V h (by simp)
      clear hD hm D2 HZ hdl
      have hend := read_end (s := s) (P := P) (V := V) (D := []) rfl rfl HR2.out
      obtain ⟨q, hq⟩ : ∃ q, fromQ P V [] = q := ⟨_, rfl⟩
      obtain ⟨cc, hcc⟩ : ∃ c, fromC P V [] = c := ⟨_, rfl⟩
      rw [hq, hcc] at HF hend
      clear hq hcc HR2
      rcases hend with ⟨hc, hn⟩ | ⟨hc, hp, ⟨ht, hi⟩ | ⟨ht, hn⟩⟩
      · have HN := Lib.hid hn
        have hcn : (cc != 0) = true := by simpa using hc
        clear hn hc
        go_wp2_with (first
                | (go_at_call 28; refine (D0.out _).mono ?_; rintro e wn ⟨rfl, hb⟩; have K := k1_next K hb; have C := c3_next ⟨hg, q0, q1, q2⟩ hb; obtain ⟨c0, c1, c2, c3⟩ := lies_four K.2; obtain ⟨cf0, cf1, cf2, cf3⟩ := lies_ice K.2; obtain ⟨hg, q0, q1, q2⟩ := C)
                | (go_at_call 29; refine (D1.out _).mono ?_; rintro e wm ⟨rfl, hb⟩; have K := k1_next K hb; have C := c3_next ⟨hg, q0, q1, q2⟩ hb; obtain ⟨c0, c1, c2, c3⟩ := lies_four K.2; obtain ⟨cf0, cf1, cf2, cf3⟩ := lies_ice K.2; obtain ⟨hg, q0, q1, q2⟩ := C; have K := k1_next K (below_al wm (.cells #[] 2)); have C := c3_next ⟨hg, q0, q1, q2⟩ (below_al wm (.cells #[] 2)); have hrow := intRow_made wm; obtain ⟨c0, c1, c2, c3⟩ := lies_four K.2; obtain ⟨cf0, cf1, cf2, cf3⟩ := lies_ice K.2; obtain ⟨hg, q0, q1, q2⟩ := C)
                | (go_at_call 31; refine (HF.out _ _ _ hrow).mono ?_; rintro e wf ⟨rfl, hb⟩; have K := k1_next K hb; obtain ⟨c0, c1, c2, c3⟩ := lies_four K.2; obtain ⟨cf0, cf1, cf2, cf3⟩ := lies_ice K.2; have K := k1_next K (below_al wf (.cells (P4 q.1 q.2.1 q.2.2.1 q.2.2.2) 25)); have L := lies_new wf (P4 q.1 q.2.1 q.2.2.1 q.2.2.2) 25; obtain ⟨l0, l1, l2, l3⟩ := lies_four L; obtain ⟨c0, c1, c2, c3⟩ := lies_four K.2; obtain ⟨cf0, cf1, cf2, cf3⟩ := lies_ice K.2))
        refine bodyPost_ret (v := .tuple #[.agg (P4 0 0 0 0), .int .i64 6]) (by simp [results, Tryz.results11, go_sem, c0, c1, c2, c3]) rfl ?_
        exact rp_no HN.out (below_set4 K.1 (by omega))
      · subst hc
        have HI := Lib.hid hi
        have HT := Lib.hid fun w => l04Text_any q.1 q.2.1 q.2.2.1 q.2.2.2 w hp
        have ht' := str_eq' ht
        clear hp hi
        go_wp2_with (first
                | (go_at_call 28; refine (D0.out _).mono ?_; rintro e wn ⟨rfl, hb⟩; have K := k1_next K hb; have C := c3_next ⟨hg, q0, q1, q2⟩ hb; obtain ⟨c0, c1, c2, c3⟩ := lies_four K.2; obtain ⟨cf0, cf1, cf2, cf3⟩ := lies_ice K.2; obtain ⟨hg, q0, q1, q2⟩ := C)
                | (go_at_call 29; refine (D1.out _).mono ?_; rintro e wm ⟨rfl, hb⟩; have K := k1_next K hb; have C := c3_next ⟨hg, q0, q1, q2⟩ hb; obtain ⟨c0, c1, c2, c3⟩ := lies_four K.2; obtain ⟨cf0, cf1, cf2, cf3⟩ := lies_ice K.2; obtain ⟨hg, q0, q1, q2⟩ := C; have K := k1_next K (below_al wm (.cells #[] 2)); have C := c3_next ⟨hg, q0, q1, q2⟩ (below_al wm (.cells #[] 2)); have hrow := intRow_made wm; obtain ⟨c0, c1, c2, c3⟩ := lies_four K.2; obtain ⟨cf0, cf1, cf2, cf3⟩ := lies_ice K.2; obtain ⟨hg, q0, q1, q2⟩ := C)
                | (go_at_call 31; refine (HF.out _ _ _ hrow).mono ?_; rintro e wf ⟨rfl, hb⟩; have K := k1_next K hb; obtain ⟨c0, c1, c2, c3⟩ := lies_four K.2; obtain ⟨cf0, cf1, cf2, cf3⟩ := lies_ice K.2; have K := k1_next K (below_al wf (.cells (P4 q.1 q.2.1 q.2.2.1 q.2.2.2) 25)); have L := lies_new wf (P4 q.1 q.2.1 q.2.2.1 q.2.2.2) 25; obtain ⟨l0, l1, l2, l3⟩ := lies_four L; obtain ⟨c0, c1, c2, c3⟩ := lies_four K.2; obtain ⟨cf0, cf1, cf2, cf3⟩ := lies_ice K.2)
                | (go_at_call 18; refine (HT.out _).mono ?_; rintro e wt ⟨rfl, hb⟩; have K := k1_next K hb; obtain ⟨c0, c1, c2, c3⟩ := lies_four K.2; obtain ⟨cf0, cf1, cf2, cf3⟩ := lies_ice K.2; have L := lies_next L hb; obtain ⟨l0, l1, l2, l3⟩ := lies_four L))
        refine bodyPost_ret (v := .tuple #[.agg (P4 q.1 q.2.1 q.2.2.1 q.2.2.2), .int .i64 0]) (by simp [results, Tryz.results11, go_sem, c0, c1, c2, c3]) rfl ?_
        exact rp_yes HI.out (below_set4 K.1 (by omega))
      · subst hc
        have HN := Lib.hid hn
        have HT := Lib.hid fun w => l04Text_any q.1 q.2.1 q.2.2.1 q.2.2.2 w hp
        have ht' := str_ne ht
        clear hp hn
        go_wp2_with (first
                | (go_at_call 28; refine (D0.out _).mono ?_; rintro e wn ⟨rfl, hb⟩; have K := k1_next K hb; have C := c3_next ⟨hg, q0, q1, q2⟩ hb; obtain ⟨c0, c1, c2, c3⟩ := lies_four K.2; obtain ⟨cf0, cf1, cf2, cf3⟩ := lies_ice K.2; obtain ⟨hg, q0, q1, q2⟩ := C)
                | (go_at_call 29; refine (D1.out _).mono ?_; rintro e wm ⟨rfl, hb⟩; have K := k1_next K hb; have C := c3_next ⟨hg, q0, q1, q2⟩ hb; obtain ⟨c0, c1, c2, c3⟩ := lies_four K.2; obtain ⟨cf0, cf1, cf2, cf3⟩ := lies_ice K.2; obtain ⟨hg, q0, q1, q2⟩ := C; have K := k1_next K (below_al wm (.cells #[] 2)); have C := c3_next ⟨hg, q0, q1, q2⟩ (below_al wm (.cells #[] 2)); have hrow := intRow_made wm; obtain ⟨c0, c1, c2, c3⟩ := lies_four K.2; obtain ⟨cf0, cf1, cf2, cf3⟩ := lies_ice K.2; obtain ⟨hg, q0, q1, q2⟩ := C)
                | (go_at_call 31; refine (HF.out _ _ _ hrow).mono ?_; rintro e wf ⟨rfl, hb⟩; have K := k1_next K hb; obtain ⟨c0, c1, c2, c3⟩ := lies_four K.2; obtain ⟨cf0, cf1, cf2, cf3⟩ := lies_ice K.2; have K := k1_next K (below_al wf (.cells (P4 q.1 q.2.1 q.2.2.1 q.2.2.2) 25)); have L := lies_new wf (P4 q.1 q.2.1 q.2.2.1 q.2.2.2) 25; obtain ⟨l0, l1, l2, l3⟩ := lies_four L; obtain ⟨c0, c1, c2, c3⟩ := lies_four K.2; obtain ⟨cf0, cf1, cf2, cf3⟩ := lies_ice K.2)
                | (go_at_call 18; refine (HT.out _).mono ?_; rintro e wt ⟨rfl, hb⟩; have K := k1_next K hb; obtain ⟨c0, c1, c2, c3⟩ := lies_four K.2; obtain ⟨cf0, cf1, cf2, cf3⟩ := lies_ice K.2; have L := lies_next L hb; obtain ⟨l0, l1, l2, l3⟩ := lies_four L))
        refine bodyPost_ret (v := .tuple #[.agg (P4 0 0 0 0), .int .i64 6]) (by simp [results, Tryz.results11, go_sem, c0, c1, c2, c3]) rfl ?_
        exact rp_no HN.out (below_set4 K.1 (by omega))
    · have hD : dgS x2 = numsL (splitL x2 44) := by unfold dgS; rw [if_neg hm]
      have hm' := str_ne hm
      rw [ByteArray.toList_eq ⟨#[45]⟩] at hm'
      change (x2.toList == [45]) = false at hm'
      rw [hD] at HR2 hdl
      have D3 := Lib.hid fun base g c w hg h => l01Numbers_any base g c (splitL x2 44) w (HZ.out 0).2 (fun k => (HZ.out k).1) hg h
      have hpos := split_pos x2 44
      have HF := Lib.hid fun base w v (h : IntRow base w v (numsL (splitL x2 44))) => specFrom_any P V h (by omega)
      clear hD hm HZ hdl
      generalize numsL (splitL x2 44) = D at *
      generalize (splitL x2 44).all sgOk = ok2 at *
      have hend := read_end (s := s) (P := P) (V := V) (D := D) rfl rfl HR2.out
      obtain ⟨q, hq⟩ : ∃ q, fromQ P V D = q := ⟨_, rfl⟩
      obtain ⟨cc, hcc⟩ : ∃ c, fromC P V D = c := ⟨_, rfl⟩
      rw [hq, hcc] at HF hend
      clear hq hcc HR2
      rcases hend with ⟨hc, hn⟩ | ⟨hc, hp, ⟨ht, hi⟩ | ⟨ht, hn⟩⟩
      · have HN := Lib.hid hn
        have hcn : (cc != 0) = true := by simpa using hc
        clear hn hc
        go_wp2_with (first
                | (go_at_call 28; refine (D0.out _).mono ?_; rintro e wn ⟨rfl, hb⟩; have K := k1_next K hb; have C := c3_next ⟨hg, q0, q1, q2⟩ hb; obtain ⟨c0, c1, c2, c3⟩ := lies_four K.2; obtain ⟨cf0, cf1, cf2, cf3⟩ := lies_ice K.2; obtain ⟨hg, q0, q1, q2⟩ := C)
                | (go_at_call 29; refine (D1.out _).mono ?_; rintro e wm ⟨rfl, hb⟩; have K := k1_next K hb; have C := c3_next ⟨hg, q0, q1, q2⟩ hb; obtain ⟨c0, c1, c2, c3⟩ := lies_four K.2; obtain ⟨cf0, cf1, cf2, cf3⟩ := lies_ice K.2; obtain ⟨hg, q0, q1, q2⟩ := C; have K := k1_next K (below_al wm (.cells #[] 2)); have C := c3_next ⟨hg, q0, q1, q2⟩ (below_al wm (.cells #[] 2)); have hrow := intRow_made wm; obtain ⟨c0, c1, c2, c3⟩ := lies_four K.2; obtain ⟨cf0, cf1, cf2, cf3⟩ := lies_ice K.2; obtain ⟨hg, q0, q1, q2⟩ := C)
                | (go_at_call 27; refine (D2.out _).mono ?_; rintro e wk ⟨v2, rfl, r2, hb⟩; obtain ⟨g2, cp2, rfl, hg2, hgw2⟩ := strRow_some r2 hpos; have K := k1_next K hb; have C := c3_next ⟨hg, q0, q1, q2⟩ hb; obtain ⟨c0, c1, c2, c3⟩ := lies_four K.2; obtain ⟨cf0, cf1, cf2, cf3⟩ := lies_ice K.2; obtain ⟨hg, q0, q1, q2⟩ := C)
                | (go_at_call 30; refine (D3.out _ _ _ _ hgw2 r2).mono ?_; rintro e wj ⟨v3, rfl, hrow, hb⟩; have K := k1_next K hb; have C := c3_next ⟨hg, q0, q1, q2⟩ hb; obtain ⟨c0, c1, c2, c3⟩ := lies_four K.2; obtain ⟨cf0, cf1, cf2, cf3⟩ := lies_ice K.2; obtain ⟨hg, q0, q1, q2⟩ := C)
                | (go_at_call 31; refine (HF.out _ _ _ hrow).mono ?_; rintro e wf ⟨rfl, hb⟩; have K := k1_next K hb; obtain ⟨c0, c1, c2, c3⟩ := lies_four K.2; obtain ⟨cf0, cf1, cf2, cf3⟩ := lies_ice K.2; have K := k1_next K (below_al wf (.cells (P4 q.1 q.2.1 q.2.2.1 q.2.2.2) 25)); have L := lies_new wf (P4 q.1 q.2.1 q.2.2.1 q.2.2.2) 25; obtain ⟨l0, l1, l2, l3⟩ := lies_four L; obtain ⟨c0, c1, c2, c3⟩ := lies_four K.2; obtain ⟨cf0, cf1, cf2, cf3⟩ := lies_ice K.2))
        refine bodyPost_ret (v := .tuple #[.agg (P4 0 0 0 0), .int .i64 6]) (by simp [results, Tryz.results11, go_sem, c0, c1, c2, c3]) rfl ?_
        exact rp_no HN.out (below_set4 K.1 (by omega))
      · subst hc
        have HI := Lib.hid hi
        have HT := Lib.hid fun w => l04Text_any q.1 q.2.1 q.2.2.1 q.2.2.2 w hp
        have ht' := str_eq' ht
        clear hp hi
        go_wp2_with (first
                | (go_at_call 28; refine (D0.out _).mono ?_; rintro e wn ⟨rfl, hb⟩; have K := k1_next K hb; have C := c3_next ⟨hg, q0, q1, q2⟩ hb; obtain ⟨c0, c1, c2, c3⟩ := lies_four K.2; obtain ⟨cf0, cf1, cf2, cf3⟩ := lies_ice K.2; obtain ⟨hg, q0, q1, q2⟩ := C)
                | (go_at_call 29; refine (D1.out _).mono ?_; rintro e wm ⟨rfl, hb⟩; have K := k1_next K hb; have C := c3_next ⟨hg, q0, q1, q2⟩ hb; obtain ⟨c0, c1, c2, c3⟩ := lies_four K.2; obtain ⟨cf0, cf1, cf2, cf3⟩ := lies_ice K.2; obtain ⟨hg, q0, q1, q2⟩ := C; have K := k1_next K (below_al wm (.cells #[] 2)); have C := c3_next ⟨hg, q0, q1, q2⟩ (below_al wm (.cells #[] 2)); have hrow := intRow_made wm; obtain ⟨c0, c1, c2, c3⟩ := lies_four K.2; obtain ⟨cf0, cf1, cf2, cf3⟩ := lies_ice K.2; obtain ⟨hg, q0, q1, q2⟩ := C)
                | (go_at_call 27; refine (D2.out _).mono ?_; rintro e wk ⟨v2, rfl, r2, hb⟩; obtain ⟨g2, cp2, rfl, hg2, hgw2⟩ := strRow_some r2 hpos; have K := k1_next K hb; have C := c3_next ⟨hg, q0, q1, q2⟩ hb; obtain ⟨c0, c1, c2, c3⟩ := lies_four K.2; obtain ⟨cf0, cf1, cf2, cf3⟩ := lies_ice K.2; obtain ⟨hg, q0, q1, q2⟩ := C)
                | (go_at_call 30; refine (D3.out _ _ _ _ hgw2 r2).mono ?_; rintro e wj ⟨v3, rfl, hrow, hb⟩; have K := k1_next K hb; have C := c3_next ⟨hg, q0, q1, q2⟩ hb; obtain ⟨c0, c1, c2, c3⟩ := lies_four K.2; obtain ⟨cf0, cf1, cf2, cf3⟩ := lies_ice K.2; obtain ⟨hg, q0, q1, q2⟩ := C)
                | (go_at_call 31; refine (HF.out _ _ _ hrow).mono ?_; rintro e wf ⟨rfl, hb⟩; have K := k1_next K hb; obtain ⟨c0, c1, c2, c3⟩ := lies_four K.2; obtain ⟨cf0, cf1, cf2, cf3⟩ := lies_ice K.2; have K := k1_next K (below_al wf (.cells (P4 q.1 q.2.1 q.2.2.1 q.2.2.2) 25)); have L := lies_new wf (P4 q.1 q.2.1 q.2.2.1 q.2.2.2) 25; obtain ⟨l0, l1, l2, l3⟩ := lies_four L; obtain ⟨c0, c1, c2, c3⟩ := lies_four K.2; obtain ⟨cf0, cf1, cf2, cf3⟩ := lies_ice K.2)
                | (go_at_call 18; refine (HT.out _).mono ?_; rintro e wt ⟨rfl, hb⟩; have K := k1_next K hb; obtain ⟨c0, c1, c2, c3⟩ := lies_four K.2; obtain ⟨cf0, cf1, cf2, cf3⟩ := lies_ice K.2; have L := lies_next L hb; obtain ⟨l0, l1, l2, l3⟩ := lies_four L))
        refine bodyPost_ret (v := .tuple #[.agg (P4 q.1 q.2.1 q.2.2.1 q.2.2.2), .int .i64 0]) (by simp [results, Tryz.results11, go_sem, c0, c1, c2, c3]) rfl ?_
        exact rp_yes HI.out (below_set4 K.1 (by omega))
      · subst hc
        have HN := Lib.hid hn
        have HT := Lib.hid fun w => l04Text_any q.1 q.2.1 q.2.2.1 q.2.2.2 w hp
        have ht' := str_ne ht
        clear hp hn
        go_wp2_with (first
                | (go_at_call 28; refine (D0.out _).mono ?_; rintro e wn ⟨rfl, hb⟩; have K := k1_next K hb; have C := c3_next ⟨hg, q0, q1, q2⟩ hb; obtain ⟨c0, c1, c2, c3⟩ := lies_four K.2; obtain ⟨cf0, cf1, cf2, cf3⟩ := lies_ice K.2; obtain ⟨hg, q0, q1, q2⟩ := C)
                | (go_at_call 29; refine (D1.out _).mono ?_; rintro e wm ⟨rfl, hb⟩; have K := k1_next K hb; have C := c3_next ⟨hg, q0, q1, q2⟩ hb; obtain ⟨c0, c1, c2, c3⟩ := lies_four K.2; obtain ⟨cf0, cf1, cf2, cf3⟩ := lies_ice K.2; obtain ⟨hg, q0, q1, q2⟩ := C; have K := k1_next K (below_al wm (.cells #[] 2)); have C := c3_next ⟨hg, q0, q1, q2⟩ (below_al wm (.cells #[] 2)); have hrow := intRow_made wm; obtain ⟨c0, c1, c2, c3⟩ := lies_four K.2; obtain ⟨cf0, cf1, cf2, cf3⟩ := lies_ice K.2; obtain ⟨hg, q0, q1, q2⟩ := C)
                | (go_at_call 27; refine (D2.out _).mono ?_; rintro e wk ⟨v2, rfl, r2, hb⟩; obtain ⟨g2, cp2, rfl, hg2, hgw2⟩ := strRow_some r2 hpos; have K := k1_next K hb; have C := c3_next ⟨hg, q0, q1, q2⟩ hb; obtain ⟨c0, c1, c2, c3⟩ := lies_four K.2; obtain ⟨cf0, cf1, cf2, cf3⟩ := lies_ice K.2; obtain ⟨hg, q0, q1, q2⟩ := C)
                | (go_at_call 30; refine (D3.out _ _ _ _ hgw2 r2).mono ?_; rintro e wj ⟨v3, rfl, hrow, hb⟩; have K := k1_next K hb; have C := c3_next ⟨hg, q0, q1, q2⟩ hb; obtain ⟨c0, c1, c2, c3⟩ := lies_four K.2; obtain ⟨cf0, cf1, cf2, cf3⟩ := lies_ice K.2; obtain ⟨hg, q0, q1, q2⟩ := C)
                | (go_at_call 31; refine (HF.out _ _ _ hrow).mono ?_; rintro e wf ⟨rfl, hb⟩; have K := k1_next K hb; obtain ⟨c0, c1, c2, c3⟩ := lies_four K.2; obtain ⟨cf0, cf1, cf2, cf3⟩ := lies_ice K.2; have K := k1_next K (below_al wf (.cells (P4 q.1 q.2.1 q.2.2.1 q.2.2.2) 25)); have L := lies_new wf (P4 q.1 q.2.1 q.2.2.1 q.2.2.2) 25; obtain ⟨l0, l1, l2, l3⟩ := lies_four L; obtain ⟨c0, c1, c2, c3⟩ := lies_four K.2; obtain ⟨cf0, cf1, cf2, cf3⟩ := lies_ice K.2)
                | (go_at_call 18; refine (HT.out _).mono ?_; rintro e wt ⟨rfl, hb⟩; have K := k1_next K hb; obtain ⟨c0, c1, c2, c3⟩ := lies_four K.2; obtain ⟨cf0, cf1, cf2, cf3⟩ := lies_ice K.2; have L := lies_next L hb; obtain ⟨l0, l1, l2, l3⟩ := lies_four L))
        refine bodyPost_ret (v := .tuple #[.agg (P4 0 0 0 0), .int .i64 6]) (by simp [results, Tryz.results11, go_sem, c0, c1, c2, c3]) rfl ?_
        exact rp_no HN.out (below_set4 K.1 (by omega))
  · have HN : Hid (¬ ∃ q, IsText s q) := by
      show ¬ ∃ q, IsText s q
      rintro ⟨q, h⟩
      exact h3 (HR.out q h).1
    have hne : (((splitL s 58).length : Int) == 3) = false := by simp; omega
    clear h3 HR
    go_wp2
    refine bodyPost_ret (v := .tuple #[.agg (P4 0 0 0 0), .int .i64 6]) (by simp [results, Tryz.results11, go_sem, c0, c1, c2, c3]) rfl ?_
    exact rp_no HN.out (below_set4 K.1 (by omega))
end Go.Proofs.YtejgcamogjgdkaaGreatDoor
namespace Go.Proofs.YtejgcamogjgdkaaGreatDoor
open Go.RowKit
set_option linter.unusedVariables false
set_option linter.unusedSimpArgs false
def cutA (s : ByteArray) : ByteArray := bsOf (Lib.cut s.data.toList [58]).1
def cutB (s : ByteArray) : ByteArray := bsOf (Lib.cut s.data.toList [58]).2.1
def cutF (s : ByteArray) : Bool := (Lib.cut s.data.toList [58]).2.2
theorem cut_sizes (s : ByteArray) : (cutA s).size ≤ s.size ∧ (cutB s).size ≤ s.size := by
  have e : s.size = s.data.toList.length := by rw [Array.length_toList]; rfl
  unfold cutA cutB
  rw [bs_size, bs_size, e]
  unfold Lib.cut
  split
  · exact ⟨by rw [List.length_take]; omega, by rw [List.length_drop]; omega⟩
  · exact ⟨Nat.le_refl _, Nat.zero_le _⟩
theorem cut_any (s : ByteArray) (w : World) (hs : s.size ≤ 2000000) (he : Env w) :
    Calls Tryz.prog 23 #[.string s, .string ⟨#[58]⟩] w fun e w' => e = .returned (.tuple #[.string (cutA s), .string (cutB s), .bool (cutF s)]) ∧ Below w.heap.size w w' := by
  obtain ⟨_, _, m, h3⟩ := he
  exact (Tryz.strings_Cut s ⟨#[58]⟩ m w (by omega) h3).mono fun e w' ⟨he, n, hw⟩ => ⟨he, hw ▸ below_drewN (Below.refl _ _) n⟩
theorem impl_reads {s : ByteArray} {q : Q4} (h : IsText s q) : pB (cutA s) = some q.1 ∧ pB (cutA (cutB s)) = some q.2.1 ∧ ∃ l, RdD (cutB (cutB s)) l ∧ fromC q.1 q.2.1 l = 0 ∧ fromQ q.1 q.2.1 l = q := by
  obtain ⟨h1, h2, h3, h4, h5⟩ := text_reads h
  have e : (cutB s).data.toList = (Lib.cut s.data.toList [58]).2.1 := by simp [cutB, bsOf]
  refine ⟨by simpa [pB, cutA, bsOf] using h1, ?_, _, ?_, h4, h5⟩
  · unfold pB cutA
    rw [e]
    simpa [bsOf] using h2
  · unfold cutB at e ⊢
    rw [e]
    exact h3
theorem readDigits_dash (w : World) : Calls Tryz.prog 25 #[.string ⟨#[45]⟩] w fun e w' => e = .returned (.tuple #[.slice none 0 0, .bool true]) ∧ Below w.heap.size w w' := by
  have h45 : ((⟨#[45]⟩ : ByteArray).toList == [45]) = true := by rw [ByteArray.toList_eq]; decide
  go_enter Tryz.func25, Tryz.ntmps25
  go_wp2
  refine bodyPost_ret (v := .tuple #[.slice none 0 0, .bool true]) (by simp [results, Tryz.results25, go_sem]) rfl ?_
  exact ⟨rfl, below_a2 w _ _⟩
theorem readDigits_any (s : ByteArray) (w : World) (hs : s.size ≤ 1090000) (he : Env w) : Calls Tryz.prog 25 #[.string s] w (RdPost s w) := by
  by_cases h : s = ⟨#[45]⟩
  · subst h
    exact (readDigits_dash w).mono fun e w' ⟨h1, h2⟩ => ⟨h2, .inl ⟨_, [], h1, intRow_nil _ _, .inl ⟨rfl, rfl⟩, by simp⟩⟩
  · exact readDigits_more s w hs h he
set_option maxRecDepth 20000 in
set_option maxHeartbeats 800000 in
theorem implReadPadic_any (s : ByteArray) (w : World) (hs : s.size ≤ 1090000) (he : Env w) (ht : Tab w) :
    Calls Tryz.prog 10 #[.string s] w (ReadPost s w) := by
  have HR := Lib.hid fun q (h : IsText s q) => impl_reads h
  obtain ⟨s1, s2⟩ := cut_sizes s
  obtain ⟨s3, s4⟩ := cut_sizes (cutB s)
  have CA := Lib.hid fun w he => cut_any s w (by omega) he
  have CB := Lib.hid fun w he => cut_any (cutB s) w (by omega) he
  have HE := Lib.hid he
  have HT := Lib.hid ht
  have sa : (cutA s).size ≤ 2000000 := by omega
  have sb : (cutA (cutB s)).size ≤ 2000000 := by omega
  have sd : (cutB (cutB s)).size ≤ 1090000 := by omega
  have K := k1_new w (P4 0 0 0 0) 25
  have E := env_below he K.1 (Nat.le_refl _)
  obtain ⟨c0, c1, c2, c3⟩ := lies_four K.2
  obtain ⟨cf0, cf1, cf2, cf3⟩ := lies_ice K.2
  clear he ht s1 s2 s3 s4
  generalize cutF (cutB s) = fb at *
  generalize cutF s = fa at *
  generalize cutA (cutB s) = b at *
  generalize cutB (cutB s) = d at *
  generalize cutB s = r at *
  generalize cutA s = a at *
  cases hpa : pB a with
  | none =>
    have HN : Hid (¬ ∃ q, IsText s q) := by
      show ¬ ∃ q, IsText s q
      rintro ⟨q, h⟩
      have := (HR.out q h).1
      rw [hpa] at this; cases this
    have PA := Lib.hid fun w he => parse_none w sa he hpa
    clear HR hpa sb sd HT
    go_enter Tryz.func10, Tryz.ntmps10
    go_wp2_with (first
      | (go_at_call 23; with_reducible refine (CA.out _ E).mono ?_; rintro e wn ⟨rfl, hb⟩; have K := k1_next K hb; have E := env_below HE.out K.1 (Nat.le_refl _); obtain ⟨c0, c1, c2, c3⟩ := lies_four K.2; obtain ⟨cf0, cf1, cf2, cf3⟩ := lies_ice K.2)
      | (go_at_call 23; with_reducible refine (CB.out _ E).mono ?_; rintro e wn ⟨rfl, hb⟩; have K := k1_next K hb; have E := env_below HE.out K.1 (Nat.le_refl _); obtain ⟨c0, c1, c2, c3⟩ := lies_four K.2; obtain ⟨cf0, cf1, cf2, cf3⟩ := lies_ice K.2)
      | (go_at_call 24; with_reducible refine (PA.out _ E).mono ?_; rintro e wn ⟨v0, t0, p0, rfl, hb⟩; have K := k1_next K hb; have E := env_below HE.out K.1 (Nat.le_refl _); obtain ⟨c0, c1, c2, c3⟩ := lies_four K.2; obtain ⟨cf0, cf1, cf2, cf3⟩ := lies_ice K.2))
    refine bodyPost_ret (v := .tuple #[.agg (P4 0 0 0 0), .int .i64 6]) (by simp [results, Tryz.results10, go_sem, c0, c1, c2, c3]) rfl ?_
    exact rp_no HN.out (below_set4 K.1 (by omega))
  | some P =>
    have PA := Lib.hid fun w he => parse_some w sa he hpa
    cases hpb : pB b with
    | none =>
      have HN : Hid (¬ ∃ q, IsText s q) := by
        show ¬ ∃ q, IsText s q
        rintro ⟨q, h⟩
        have := (HR.out q h).2.1
        rw [hpb] at this; cases this
      have PB := Lib.hid fun w he => parse_none w sb he hpb
      clear HR hpa hpb sa sd HT
      go_enter Tryz.func10, Tryz.ntmps10
      go_wp2_with (first
      | (go_at_call 23; with_reducible refine (CA.out _ E).mono ?_; rintro e wn ⟨rfl, hb⟩; have K := k1_next K hb; have E := env_below HE.out K.1 (Nat.le_refl _); obtain ⟨c0, c1, c2, c3⟩ := lies_four K.2; obtain ⟨cf0, cf1, cf2, cf3⟩ := lies_ice K.2)
      | (go_at_call 23; with_reducible refine (CB.out _ E).mono ?_; rintro e wn ⟨rfl, hb⟩; have K := k1_next K hb; have E := env_below HE.out K.1 (Nat.le_refl _); obtain ⟨c0, c1, c2, c3⟩ := lies_four K.2; obtain ⟨cf0, cf1, cf2, cf3⟩ := lies_ice K.2)
      | (go_at_call 24; with_reducible refine (PA.out _ E).mono ?_; rintro e wn ⟨rfl, hb⟩; have K := k1_next K hb; have E := env_below HE.out K.1 (Nat.le_refl _); obtain ⟨c0, c1, c2, c3⟩ := lies_four K.2; obtain ⟨cf0, cf1, cf2, cf3⟩ := lies_ice K.2)
      | (go_at_call 24; with_reducible refine (PB.out _ E).mono ?_; rintro e wn ⟨v0, t0, p0, rfl, hb⟩; have K := k1_next K hb; have E := env_below HE.out K.1 (Nat.le_refl _); obtain ⟨c0, c1, c2, c3⟩ := lies_four K.2; obtain ⟨cf0, cf1, cf2, cf3⟩ := lies_ice K.2))
      refine bodyPost_ret (v := .tuple #[.agg (P4 0 0 0 0), .int .i64 6]) (by simp [results, Tryz.results10, go_sem, c0, c1, c2, c3]) rfl ?_
      exact rp_no HN.out (below_set4 K.1 (by omega))
    | some V =>
      have PB := Lib.hid fun w he => parse_some w sb he hpb
      have RD := Lib.hid fun w he => readDigits_any d w sd he
      have HR2 : Hid (∀ D, RdD d D → ∀ q, IsText s q → fromC P V D = 0 ∧ fromQ P V D = q) := by
        show ∀ D, RdD d D → ∀ q, IsText s q → fromC P V D = 0 ∧ fromQ P V D = q
        intro D hD q h
        obtain ⟨h1, h2, l, h3, h4, h5⟩ := HR.out q h
        rw [hpa] at h1
        rw [hpb] at h2
        rw [rdD_inj hD h3, Option.some.inj h1, Option.some.inj h2]
        exact ⟨h4, h5⟩
      have HN2 : Hid ((¬ ∃ l, RdD d l) → ¬ ∃ q, IsText s q) := by
        show (¬ ∃ l, RdD d l) → ¬ ∃ q, IsText s q
        rintro hno ⟨q, h⟩
        obtain ⟨_, _, l, h3, _⟩ := HR.out q h
        exact hno ⟨l, h3⟩
      have SD := Lib.hid sd
      clear HR hpa hpb sa sb sd
      go_enter Tryz.func10, Tryz.ntmps10
      go_wp2_with (first
      | (go_at_call 23; with_reducible refine (CA.out _ E).mono ?_; rintro e wn ⟨rfl, hb⟩; have K := k1_next K hb; have E := env_below HE.out K.1 (Nat.le_refl _); obtain ⟨c0, c1, c2, c3⟩ := lies_four K.2; obtain ⟨cf0, cf1, cf2, cf3⟩ := lies_ice K.2)
      | (go_at_call 23; with_reducible refine (CB.out _ E).mono ?_; rintro e wn ⟨rfl, hb⟩; have K := k1_next K hb; have E := env_below HE.out K.1 (Nat.le_refl _); obtain ⟨c0, c1, c2, c3⟩ := lies_four K.2; obtain ⟨cf0, cf1, cf2, cf3⟩ := lies_ice K.2)
      | (go_at_call 24; with_reducible refine (PA.out _ E).mono ?_; rintro e wn ⟨rfl, hb⟩; have K := k1_next K hb; have E := env_below HE.out K.1 (Nat.le_refl _); obtain ⟨c0, c1, c2, c3⟩ := lies_four K.2; obtain ⟨cf0, cf1, cf2, cf3⟩ := lies_ice K.2)
      | (go_at_call 24; with_reducible refine (PB.out _ E).mono ?_; rintro e wn ⟨rfl, hb⟩; have K := k1_next K hb; have E := env_below HE.out K.1 (Nat.le_refl _); obtain ⟨c0, c1, c2, c3⟩ := lies_four K.2; obtain ⟨cf0, cf1, cf2, cf3⟩ := lies_ice K.2))
      refine (RD.out _ E).mono ?_
      rintro e wr ⟨hb, ⟨vl, D, rfl, hrow, hrd, hdl⟩ | ⟨rfl, hno⟩⟩
      · have K := k1_next K hb; have E := env_below HE.out K.1 (Nat.le_refl _); obtain ⟨c0, c1, c2, c3⟩ := lies_four K.2; obtain ⟨cf0, cf1, cf2, cf3⟩ := lies_ice K.2
        have hend := read_end (s := s) (P := P) (V := V) (D := D) rfl rfl (HR2.out D hrd)
        have HF := Lib.hid fun base w v (h : IntRow base w v D) => implFrom_any P V h (by have := SD.out; omega)
        obtain ⟨q, hq⟩ : ∃ q, fromQ P V D = q := ⟨_, rfl⟩
        obtain ⟨cc, hcc⟩ : ∃ c, fromC P V D = c := ⟨_, rfl⟩
        rw [hq, hcc] at HF hend
        clear hq hcc HR2 HN2 hrd hdl RD CA CB PA PB
        rcases hend with ⟨hc, hn⟩ | ⟨hc, hp, ⟨ht, hi⟩ | ⟨ht, hn⟩⟩
        · have HN := Lib.hid hn
          have hcn : (cc != 0) = true := by simpa using hc
          clear hn hc
          go_wp2_with (first
      | (go_at_call 26; refine (HF.out _ _ _ hrow).mono ?_; rintro e wf ⟨rfl, hb⟩; have K := k1_next K hb; obtain ⟨c0, c1, c2, c3⟩ := lies_four K.2; obtain ⟨cf0, cf1, cf2, cf3⟩ := lies_ice K.2; have K := k1_next K (below_al wf (.cells (P4 q.1 q.2.1 q.2.2.1 q.2.2.2) 25)); have T := tab_below HT.out K.1 (Nat.le_refl _); have L := lies_new wf (P4 q.1 q.2.1 q.2.2.1 q.2.2.2) 25; obtain ⟨l0, l1, l2, l3⟩ := lies_four L; obtain ⟨c0, c1, c2, c3⟩ := lies_four K.2; obtain ⟨cf0, cf1, cf2, cf3⟩ := lies_ice K.2))
          refine bodyPost_ret (v := .tuple #[.agg (P4 0 0 0 0), .int .i64 6]) (by simp [results, Tryz.results10, go_sem, c0, c1, c2, c3]) rfl ?_
          exact rp_no HN.out (below_set4 K.1 (by omega))
        · subst hc
          have HI := Lib.hid hi
          have HX := Lib.hid fun w h => text_any q.1 q.2.1 q.2.2.1 q.2.2.2 w hp h
          have ht' := str_eq' ht
          clear hp hi
          go_wp2_with (first
      | (go_at_call 26; refine (HF.out _ _ _ hrow).mono ?_; rintro e wf ⟨rfl, hb⟩; have K := k1_next K hb; obtain ⟨c0, c1, c2, c3⟩ := lies_four K.2; obtain ⟨cf0, cf1, cf2, cf3⟩ := lies_ice K.2; have K := k1_next K (below_al wf (.cells (P4 q.1 q.2.1 q.2.2.1 q.2.2.2) 25)); have T := tab_below HT.out K.1 (Nat.le_refl _); have L := lies_new wf (P4 q.1 q.2.1 q.2.2.1 q.2.2.2) 25; obtain ⟨l0, l1, l2, l3⟩ := lies_four L; obtain ⟨c0, c1, c2, c3⟩ := lies_four K.2; obtain ⟨cf0, cf1, cf2, cf3⟩ := lies_ice K.2)
      | (go_at_call 16; refine (HX.out _ T).mono ?_; rintro e wt ⟨rfl, hb⟩; have K := k1_next K hb; obtain ⟨c0, c1, c2, c3⟩ := lies_four K.2; obtain ⟨cf0, cf1, cf2, cf3⟩ := lies_ice K.2; have L := lies_next L hb; obtain ⟨l0, l1, l2, l3⟩ := lies_four L))
          refine bodyPost_ret (v := .tuple #[.agg (P4 q.1 q.2.1 q.2.2.1 q.2.2.2), .int .i64 0]) (by simp [results, Tryz.results10, go_sem, c0, c1, c2, c3]) rfl ?_
          exact rp_yes HI.out (below_set4 K.1 (by omega))
        · subst hc
          have HN := Lib.hid hn
          have HX := Lib.hid fun w h => text_any q.1 q.2.1 q.2.2.1 q.2.2.2 w hp h
          have ht' := str_ne ht
          clear hp hn
          go_wp2_with (first
      | (go_at_call 26; refine (HF.out _ _ _ hrow).mono ?_; rintro e wf ⟨rfl, hb⟩; have K := k1_next K hb; obtain ⟨c0, c1, c2, c3⟩ := lies_four K.2; obtain ⟨cf0, cf1, cf2, cf3⟩ := lies_ice K.2; have K := k1_next K (below_al wf (.cells (P4 q.1 q.2.1 q.2.2.1 q.2.2.2) 25)); have T := tab_below HT.out K.1 (Nat.le_refl _); have L := lies_new wf (P4 q.1 q.2.1 q.2.2.1 q.2.2.2) 25; obtain ⟨l0, l1, l2, l3⟩ := lies_four L; obtain ⟨c0, c1, c2, c3⟩ := lies_four K.2; obtain ⟨cf0, cf1, cf2, cf3⟩ := lies_ice K.2)
      | (go_at_call 16; refine (HX.out _ T).mono ?_; rintro e wt ⟨rfl, hb⟩; have K := k1_next K hb; obtain ⟨c0, c1, c2, c3⟩ := lies_four K.2; obtain ⟨cf0, cf1, cf2, cf3⟩ := lies_ice K.2; have L := lies_next L hb; obtain ⟨l0, l1, l2, l3⟩ := lies_four L))
          refine bodyPost_ret (v := .tuple #[.agg (P4 0 0 0 0), .int .i64 6]) (by simp [results, Tryz.results10, go_sem, c0, c1, c2, c3]) rfl ?_
          exact rp_no HN.out (below_set4 K.1 (by omega))
      · have K := k1_next K hb; have E := env_below HE.out K.1 (Nat.le_refl _); obtain ⟨c0, c1, c2, c3⟩ := lies_four K.2; obtain ⟨cf0, cf1, cf2, cf3⟩ := lies_ice K.2
        have HN := Lib.hid (HN2.out hno)
        clear HR2 HN2 hno
        go_wp2
        refine bodyPost_ret (v := .tuple #[.agg (P4 0 0 0 0), .int .i64 6]) (by simp [results, Tryz.results10, go_sem, c0, c1, c2, c3]) rfl ?_
        exact rp_no HN.out (below_set4 K.1 (by omega))
end Go.Proofs.YtejgcamogjgdkaaGreatDoor
namespace Go.Proofs.YtejgcamogjgdkaaGreatDoor
open Go.RowKit
set_option linter.unusedVariables false
set_option linter.unusedSimpArgs false
theorem eqPadicT_any (p v u n : Int) (w : World) :
    Calls Tryz.prog 12 #[.agg (P4 p v u n), .agg (P4 p v u n)] w fun e w' => e = .returned (.bool true) ∧ Below w.heap.size w w' := by
  go_enter Tryz.func12, Tryz.ntmps12
  go_wp2
  go_ret
  exact ⟨rfl, below_a2 w _ _⟩
set_option maxRecDepth 20000 in
set_option maxHeartbeats 800000 in
theorem rpad_core (s : ByteArray) (w : World) (hs : s.size ≤ 1048576) (he : Env w) (ht : Tab w) :
    Calls Tryz.prog 4 #[.string s] w fun e w' => e = .returned (.bool true) ∧ Below w.heap.size w w' := by
  have HSpec := Lib.hid (fun w => specReadPadic_any s w (by omega))
  have HImpl := Lib.hid (fun w he ht => implReadPadic_any s w (by omega) he ht)
  have HE := Lib.hid he
  have HT := Lib.hid ht
  clear he ht
  go_enter Tryz.func4, Tryz.ntmps4
  go_wp2_with fail
  refine (HSpec.out _).mono ?_
  rintro e w1 ⟨⟨p, v, u, n⟩, c, rfl, b1, h1⟩
  have B1 := b1.trans ((below_al w1 (.cells (P4 p v u n) 25)).mono b1.size)
  have L1 := lies_new w1 (P4 p v u n) 25
  have E := env_below HE.out B1 (Nat.le_refl _)
  have T := tab_below HT.out B1 (Nat.le_refl _)
  clear b1
  go_wp2_with fail
  refine (HImpl.out _ E T).mono ?_
  rintro e w2 ⟨q, c', rfl, b2, h2⟩
  obtain ⟨rfl, rfl⟩ := read_agree h2 h1
  have L2 := lies_next L1 b2
  have B2 := B1.trans (b2.mono B1.size)
  have B3 := B2.trans ((below_al w2 (.cells (P4 p v u n) 25)).mono B2.size)
  have L3 := lies_alloc L2 (.cells (P4 p v u n) 25)
  have L4 := lies_new w2 (P4 p v u n) 25
  obtain ⟨g0, g1, g2, g3⟩ := lies_four L3
  obtain ⟨k0, k1, k2, k3⟩ := lies_four L4
  clear L1 L2 b2 h1 h2 E T HSpec HImpl HE HT B1 B2
  go_wp2_with (go_at_call 12; refine (eqPadicT_any _ _ _ _ _).mono ?_; rintro e we ⟨rfl, hb⟩)
  go_ret
  exact ⟨rfl, B3.trans (hb.mono B3.size)⟩
theorem rpad_big (s : ByteArray) (w : World) (hs : 1048576 < s.size) :
    Calls Tryz.prog 4 #[.string s] w fun e w' => e = .returned (.bool true) ∧ Below w.heap.size w w' := by
  go_enter Tryz.func4, Tryz.ntmps4
  go_wp2
  go_ret
  exact ⟨rfl, Below.refl _ _⟩
theorem exactRPad_walk (s : ByteArray) (w : World) (he : Env w) (ht : Tab w) :
    Calls Tryz.prog 4 #[.string s] w fun e w' => e = .returned (.bool true) ∧ Below w.heap.size w w' :=
  (Nat.lt_or_ge 1048576 s.size).elim (fun h => rpad_big s w h) (fun h => rpad_core s w h he ht)
end Go.Proofs.YtejgcamogjgdkaaGreatDoor
namespace Go.Proofs.YtejgcamogjgdkaaGreatDoor
open Go.ChangeShapes Go.WideShapes Go.ChangeAt Go.RowKit
set_option linter.unusedVariables false
theorem gTabType : (Tryz.prog.globals[3]?).map (·.type) = some 129 := by kernel_rfl
theorem cellsTab : Tryz.prog.cellsOf 129 = 20 := by kernel_rfl
theorem cellsU : Tryz.prog.cellsOf 98 = 1 := by kernel_rfl
theorem gRange : Tryz.prog.globalNamed "strconv.ErrRange" = some 2 := by kernel_rfl
theorem gRangeType : (Tryz.prog.globals[2]?).map (·.type) = some 48 := by kernel_rfl
theorem gSyntax : Tryz.prog.globalNamed "strconv.ErrSyntax" = some 1 := by kernel_rfl
theorem gSyntaxType : (Tryz.prog.globals[1]?).map (·.type) = some 48 := by kernel_rfl
theorem cellsErr : Tryz.prog.cellsOf 141 = 1 := by kernel_rfl
theorem cellsStr : Tryz.prog.cellsOf 9 = 1 := by kernel_rfl
theorem starErr : "*" ++ "errors.errorString" = "*errors.errorString" := by decide
theorem rowErr (u : TypeId) (h : Tryz.prog.typeName? 3 u = some "*errors.errorString") : u = 139 :=
  typeName_ptr_named (nm := "errors.errorString") (by rw [starErr]; kernel_rfl) (by kernel_rfl) (by decide) u (by rw [starErr]; exact h)
theorem tab_of_laid {W : World} (h : laidMetH Tryz.prog Rows.fnExactReadPadicRow.laid W) : Tab W := by
  have h0 : laidMet Tryz.prog Rows.fnExactReadPadicRow.laid W := h
  exact Lib.tabIs_of_head (rest := _) gTab gTabType Tryz.underlying129 Tryz.underlying98 cellsU cellsTab h0.tail.tail
theorem env_of_laid {W : World} (h : laidMetH Tryz.prog Rows.fnExactReadPadicRow.laid W) (hS : W.ShapedOpen Tryz.prog) : Env W := by
  have h0 : laidMet Tryz.prog Rows.fnExactReadPadicRow.laid W := h
  obtain ⟨a1, s1, hv1, _⟩ := laid_sentinel h0.tail.tail.tail.tail gRange gRangeType Tryz.underlying48 rowErr Tryz.underlying139 Tryz.underlying141 rfl rfl Tryz.underlying9 cellsErr cellsStr
  obtain ⟨a2, s2, hv2, _⟩ := laid_sentinel h0.tail.tail.tail.tail.tail gSyntax gSyntaxType Tryz.underlying48 rowErr Tryz.underlying139 Tryz.underlying141 rfl rfl Tryz.underlying9 cellsErr cellsStr
  have c1 : W.cell? ⟨2, 0, none⟩ = some (.iface 139 (.pointer (some a1))) := by simpa using World.var?_cell gRange hv1 0
  have c2 : W.cell? ⟨1, 0, none⟩ = some (.iface 139 (.pointer (some a2))) := by simpa using World.var?_cell gSyntax hv2 0
  exact ⟨⟨_, c2, .inr ⟨_, _, rfl⟩⟩, ⟨_, c1, .inr ⟨_, _, rfl⟩⟩, cell_of_shapedOpen_int (zero := #[.int .i64 0]) (t := 3) hS (of_decide_eq_true (by kernel_rfl)) (by kernel_rfl) rfl (by kernel_rfl) (by kernel_rfl) Tryz.underlying3⟩
/-- block g holding the cells cs -/
def layAt (g : Nat) (cs : Array Value) (h : Array Obj) : Array Obj := h.modify g fun o => match o with
  | .cells _ t frozen => .cells cs t frozen
  | o => o
def layAll (l : List (Nat × Array Value)) (h : Array Obj) : Array Obj := l.foldl (fun h x => layAt x.1 x.2 h) h
def u8s (l : List Nat) : Array Value := (l.map fun n : Nat => Value.int .u8 (n : Int)).toArray
noncomputable def lowBlock : Nat := (World.holding Tryz.prog default ⟨#[], #[], []⟩).heap.size
/-- a world for the witness: the settled one, the listed variables holding what their initialisers lay -/
noncomputable def laidWorld (os : Os) : World :=
  let w0 := World.holding Tryz.prog os ⟨#[.cells #[.string ⟨#[118, 97, 108, 117, 101, 32, 111, 117, 116, 32, 111, 102, 32, 114, 97, 110, 103, 101]⟩] 141, .cells #[.string ⟨#[105, 110, 118, 97, 108, 105, 100, 32, 115, 121, 110, 116, 97, 120]⟩] 141], #[], []⟩
  { w0 with heap := layAll [
    (2, #[.iface 139 (.pointer (some ⟨lowBlock, 0, none⟩))]),
    (1, #[.iface 139 (.pointer (some ⟨lowBlock + 1, 0, none⟩))]),
    (4, (u8s Go.Pinned.utf8FirstZ)),
    (5, (u8s [128, 191, 160, 191, 128, 159, 144, 191, 128, 143, 0, 0, 0, 0, 0, 0, 0, 0, 0, 0, 0, 0, 0, 0, 0, 0, 0, 0, 0, 0, 0, 0])),
    (7, (u8s [0, 1, 56, 2, 57, 49, 28, 3, 61, 58, 42, 50, 38, 29, 17, 4, 62, 47, 59, 36, 45, 43, 51, 22, 53, 39, 33, 30, 24, 18, 12, 5, 63, 55, 48, 27, 60, 41, 37, 16, 46, 35, 44, 21, 52, 32, 23, 11, 54, 26, 40, 15, 34, 20, 31, 10, 25, 14, 19, 9, 13, 8, 7, 6])),
    (6, (u8s [0, 1, 28, 2, 29, 14, 24, 3, 30, 22, 20, 15, 25, 17, 4, 8, 31, 27, 13, 23, 21, 19, 16, 7, 26, 12, 18, 6, 11, 5, 10, 9])),
    (3, #[.int .u64 1, .int .u64 10, .int .u64 100, .int .u64 1000, .int .u64 10000, .int .u64 100000, .int .u64 1000000, .int .u64 10000000, .int .u64 100000000, .int .u64 1000000000, .int .u64 10000000000, .int .u64 100000000000, .int .u64 1000000000000, .int .u64 10000000000000, .int .u64 100000000000000, .int .u64 1000000000000000, .int .u64 10000000000000000, .int .u64 100000000000000000, .int .u64 1000000000000000000, .int .u64 10000000000000000000])] w0.heap }
end Go.Proofs.YtejgcamogjgdkaaGreatDoor
namespace Go.Proofs.YtejgcamogjgdkaaGreatDoor.fnExactReadPadic
open Go.ChangeShapes Go.WideShapes Go.ChangeAt Go.RowKit
open Go.ChangeMaps (open_string shut_string)
set_option linter.unusedVariables false
theorem own : ownKnob Tryz.prog.godebug = none := by kernel_rfl
set_option maxRecDepth 100000 in
theorem contract (H : Type) (enc : TypeId × Value → H) (W : World) (base : Nat) (args : Array Value) (ds gs : List (DataW H)) (before : List MemPlace)
    (hval : ∀ (j : Nat) t v, Tryz.f4.params[j]? = some t → args[j]? = some v → Value.okWide Tryz.prog W .any base t v)
    (hW : DataW.Whole enc Tryz.prog Tryz.f4.params.toList Rows.fnExactReadPadicSpec.vars false W args.toList ds gs before) (hL : laidMetH Tryz.prog Rows.fnExactReadPadicRow.laid W) (hS : W.ShapedOpen Tryz.prog) :
    Calls Tryz.prog 4 args W fun e W' => ∃ v, e = .returned v ∧ Rows.fnExactReadPadicSpec.post enc Tryz.prog Tryz.f4 false true false false W args v W' := by
  have hW' := hW
  obtain ⟨p, q, hA0, hV, rfl, hfz, hnd⟩ := hW
  have hA : DataW.TrodAll enc Tryz.prog W 0 (fun _ => true) true Tryz.f4.params.toList args.toList ds p := hA0
  rw [Tryz.params4] at hA hval
  obtain ⟨v0, vs0, d0, ds0, p0, q0, hargs, rfl, rfl, h0, r0⟩ := trodAll_cons hA
  obtain ⟨rfl, rfl, rfl⟩ := trodAll_nil r0
  obtain rfl : args = #[v0] := by cases args; simp_all
  obtain ⟨rfl, rfl⟩ := trodVars_none hV
  obtain ⟨s, rfl, rfl, rfl, ws⟩ := open_string Tryz.underlying9 (hval 0 9 v0 rfl rfl) h0
  clear hA0
  simp only [List.append_nil] at hW'
  refine (exactRPad_walk s W (env_of_laid hL hS) (tab_of_laid hL)).mono fun e W' ⟨he, bel⟩ => ?_
  subst he
  exact ⟨_, rfl, _, _, _, [], [], [], hW', trodAll_mk1 (shut_bool Tryz.underlying4 _), (trodAll_cons_mk (shut_string Tryz.underlying9 ws) trodAll_mk0), rfl, bel.frame _, fun h => by cases h⟩
theorem laid_met (os : Os) : laidMet Tryz.prog Rows.fnExactReadPadicRow.laid ((laidWorld os).forCall (fun _ _ => 0) ⟨#[], #[.string ⟨#[]⟩], []⟩).memory :=
  laidMet_of_run' 8 (by kernel_rfl) (by kernel_rfl)
theorem reads (os : Os) {H : Type} (enc : TypeId × Value → H) : ∃ places, DataW.whole enc Tryz.prog ((laidWorld os).forCall (fun _ _ => 0) ⟨#[], #[.string ⟨#[]⟩], []⟩).memory Tryz.f4.params.toList Rows.fnExactReadPadicSpec.vars false #[Value.string ⟨#[]⟩].toList 8 = some ([.lit (.string [])], [], places) :=
  ⟨[], by kernel_rfl⟩
set_option maxRecDepth 100000 in
theorem lifted (os : Os) (started : os.Started) (H : Type) (enc : TypeId × Value → H) (F : Stop.Interp) :
    ReturnsInHanded {} Tryz.checked os 4 .any ((OpenSpec.ofChange Rows.fnExactReadPadicSpec).preRow enc Tryz.prog Tryz.f4 Rows.fnExactReadPadicRow.domain false Rows.fnExactReadPadicRow.laid) (((OpenSpec.ofChange Rows.fnExactReadPadicSpec).at F).post enc Tryz.prog Tryz.f4 false true false false) := by
  obtain ⟨places, hx⟩ := reads os enc
  refine returnsInHanded_of_row (C := Tryz.checked) (s := OpenSpec.ofChange Rows.fnExactReadPadicSpec) own started (by kernel_rfl) Tryz.func4
    (witness_row_at (enc := enc) (C := Tryz.checked) false (laidWorld os) #[.string ⟨#[]⟩] rfl (by kernel_rfl) (by kernel_rfl) (by kernel_rfl)
      (OpenSpec.preRow_of_cond 8 hx (by kernel_rfl) (fun k hk => by cases hk) (by kernel_rfl) (laid_met os))) ?_
  intro W base args ds gs before hval hW _ _ _ hL hS _
  exact contract H enc W base args ds gs before hval hW hL hS
theorem said : Rows.FnExactReadPadicSaid :=
  OpenClaim.holds_of_cond 4 Tryz.f4 rfl rfl rfl rfl rfl rfl rfl ⟨rfl, rfl, rfl, rfl, rfl⟩ rfl rfl rfl rfl rfl (by kernel_rfl) Tryz.func4 (by kernel_rfl)
    (of_decide_eq_true (by kernel_rfl)) (by unfold Func.isWrapper; first | (rw [if_pos (by decide +kernel)]; kernel_rfl) | (rw [if_neg (by decide +kernel)]; exact ⟨rfl, rfl⟩))
    (fun os started H enc _ F => by rw [OpenClaim.pre_eq_preRow]; exact lifted os started H enc F)
theorem plain (f : FuncId) (fn : Func) (hf : Tryz.pinned.checked.prog.funcNamed "loop.example/g01000/laws.FnExactReadPadic" = some f) (hfn : Tryz.pinned.checked.prog.funcs[f]? = some fn) :
    true = Tryz.pinned.checked.prog.looks [] ∧ ∀ (j : Nat) t, fn.params[j]? = some t → Tryz.pinned.checked.prog.wantsStandIn t = false := by
  obtain rfl : f = 4 := Option.some.inj ((show Tryz.prog.funcNamed "loop.example/g01000/laws.FnExactReadPadic" = some 4 by kernel_rfl).symm.trans hf) |>.symm
  obtain rfl : fn = Tryz.f4 := (Option.some.inj (Tryz.func4.symm.trans hfn)).symm
  refine ⟨by kernel_rfl, fun j t ht => ?_⟩
  rw [Tryz.params4] at ht
  obtain rfl : t = 9 := by simpa using Array.mem_of_getElem? ht
  exact (show Tryz.prog.wantsStandIn 9 = false by kernel_rfl)
/-- THE CARD -/
theorem card : Rows.FnExactReadPadicCardSaid :=
  Claim7.holds_tied_plain_at .later [] _ _ _ _ said (fun _ h => by cases h) (by kernel_rfl) (fun _ h => by cases h) fnExactReadPadic_row_tie rfl ⟨rfl, rfl⟩ (by kernel_rfl) rfl plain (by kernel_rfl)
#print axioms card
end Go.Proofs.YtejgcamogjgdkaaGreatDoor.fnExactReadPadic
