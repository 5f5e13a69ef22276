/- Contract of the walk: the iterator of strings.SplitSeq at a separator of one byte hands on the pieces, one by one. -/
import Derived.RangeFuncNested
import Derived.RangeFuncBound
import Derived.RangeFuncCalls
import Derived.RangeFuncLeaves
import Derived.Shelf.Abstract
import Derived.Shelf.RegionOpen
import Derived.WalkKit
import Derived.OwnWalkIn
import Derived.TacticsInMore
import Derived.LoopNIn
import Derived.LoopIn
import Derived.Test.YtghhjeebcpcepaaDoorRange
import Derived.Test.YtghhjeebcpcepaaDoorReadMath2
namespace Go.Proofs.YtghhjeebcpcepaaDoor
open Go.RowKit Go.Shelf
attribute [local go_sem] Oper.semAt_some
set_option linter.unusedVariables false
theorem index_parts (c : UInt8) : ∀ (l : List UInt8) (i : Nat), Lib.indexByte l c = i → i < l.length ∧ l = l.take i ++ c :: l.drop (i + 1) ∧ c ∉ l.take i
  | [], i, h => by simp [Lib.indexByte] at h
  | b :: l, i, h => by
    unfold Lib.indexByte at h
    by_cases hb : b = c
    · subst hb
      rw [if_pos (by simp)] at h
      have : i = 0 := by omega
      subst this; simp
    · rw [if_neg (by simpa using hb)] at h
      by_cases hm : Lib.indexByte l c = -1
      · rw [if_pos (by simp [hm])] at h; omega
      · rw [if_neg (by simpa using hm)] at h
        have hge := Lib.indexByte_ge l c
        obtain ⟨h1, h2, h3⟩ := index_parts c l (i - 1) (by omega)
        obtain ⟨j, rfl⟩ : ∃ j, i = j + 1 := ⟨i - 1, by omega⟩
        simp only [Nat.add_sub_cancel] at h1 h2 h3
        refine ⟨by simp; omega, by simpa using h2, ?_⟩
        simp only [List.take_succ_cons, List.mem_cons, not_or]
        exact ⟨fun e => hb e.symm, h3⟩
theorem index_none' (c : UInt8) : ∀ (l : List UInt8), Lib.indexByte l c < 0 → c ∉ l
  | [], _ => by simp
  | b :: l, h => by
    unfold Lib.indexByte at h
    by_cases hb : b = c
    · rw [if_pos (by simpa using hb)] at h; omega
    · rw [if_neg (by simpa using hb)] at h
      have hge := Lib.indexByte_ge l c
      by_cases hm : Lib.indexByte l c = -1
      · simp only [List.mem_cons, not_or]
        exact ⟨fun e => hb e.symm, index_none' c l (by omega)⟩
      · rw [if_neg (by simpa using hm)] at h; omega
theorem bs_inj {a b : ByteArray} (h : a.data.toList = b.data.toList) : a = b := by rw [← bs_of_toList a, ← bs_of_toList b, h]
theorem split_at {r : ByteArray} {c : UInt8} {i : Nat} (h : Lib.indexByte r.data.toList c = i) : i < r.size ∧ splitL r c = r.extract 0 i :: splitL (r.extract (i + 1) r.size) c := by
  obtain ⟨h1, h2, h3⟩ := index_parts c _ _ h
  have hsz : r.data.toList.length = r.size := by rw [Array.length_toList]; rfl
  refine ⟨by omega, ?_⟩
  have e1 : bsOf (r.data.toList.take i) = r.extract 0 i := by
    apply bs_inj
    rw [ext_seg]; simp [seg, bsOf]
  have e2 : (r.extract (i + 1) r.size).data.toList = r.data.toList.drop (i + 1) := by
    rw [ext_seg]; unfold seg; exact List.take_of_length_le (by rw [List.length_drop]; omega)
  rw [splitL_eq, splitL_eq, e2]
  conv => lhs; rw [h2]
  rw [spL_more c _ _ h3, List.map_cons, e1]
theorem split_none {r : ByteArray} {c : UInt8} (h : Lib.indexByte r.data.toList c < 0) : splitL r c = [r] := by
  rw [splitL_eq, spL_one c _ (index_none' c _ h), List.map_singleton, bs_of_toList]
/-- the three boxes of the closure -/
structure Boxes (sb pb vb : Nat) (c : UInt8) (r : ByteArray) (W : World) : Prop where
  s : W.cell? ⟨sb, 0, none⟩ = some (.string r)
  f : W.frozen? ⟨sb, 0, none⟩ = false
  p : W.cell? ⟨pb, 0, none⟩ = some (.string ⟨#[c]⟩)
  v : W.cell? ⟨vb, 0, none⟩ = some (.int .i64 0)
def StB (sb : Nat) (A B : World) : Prop := (∃ v, B = A.setCell ⟨sb, 0, none⟩ v) ∨ ∃ k, B = A.drewN k
def FrB (sb pb vb : Nat) (A B : World) : Prop := ∀ b, b = sb ∨ b = pb ∨ b = vb → B.cell? ⟨b, 0, none⟩ = A.cell? ⟨b, 0, none⟩ ∧ B.frozen? ⟨b, 0, none⟩ = A.frozen? ⟨b, 0, none⟩
theorem Boxes.kept {sb pb vb : Nat} {c : UInt8} {r : ByteArray} {A B : World} (h : Boxes sb pb vb c r A) (hf : FrB sb pb vb A B) : Boxes sb pb vb c r B :=
  ⟨by rw [(hf sb (.inl rfl)).1]; exact h.s, by rw [(hf sb (.inl rfl)).2]; exact h.f, by rw [(hf pb (.inr (.inl rfl))).1]; exact h.p, by rw [(hf vb (.inr (.inr rfl))).1]; exact h.v⟩
theorem Boxes.set {sb pb vb : Nat} {c : UInt8} {r : ByteArray} {A : World} (r' : ByteArray) (h : Boxes sb pb vb c r A) (h1 : sb ≠ pb) (h2 : sb ≠ vb) : Boxes sb pb vb c r' (A.setCell ⟨sb, 0, none⟩ (.string r')) :=
  ⟨World.cell?_setCell_same' _ _ _ (by rw [h.s]; rfl), by rw [World.frozen?_setCell]; exact h.f,
    by rw [World.cell?_setCell_other _ _ _ _ (by intro e; first | (simp at e; done) | (simp at e; exact h1 e))]; exact h.p, by rw [World.cell?_setCell_other _ _ _ _ (by intro e; first | (simp at e; done) | (simp at e; exact h2 e))]; exact h.v⟩
def leftOf (sb : Nat) (W : World) : Nat := match W.cell? ⟨sb, 0, none⟩ with
  | some (.string r) => r.size
  | _ => 0
set_option maxRecDepth 20000 in
set_option maxHeartbeats 1600000 in
theorem splitSeq_by (n : Nat) (hn : 1 ≤ n) (sb pb vb : Nat) (c : UInt8) (s : ByteArray) (h1 : sb ≠ pb) (h2 : sb ≠ vb) (hs : s.size ≤ 2000000) :
    SeqBy Fence.wide n Tryd.prog 74 #[.pointer (some ⟨pb, 0, none⟩), .pointer (some ⟨sb, 0, none⟩), .pointer (some ⟨vb, 0, none⟩)] (fun x : ByteArray => #[.string x]) (StB sb) (FrB sb pb vb) (fun xs => xs = splitL s c) (fun pre => pre <+: splitL s c) (Boxes sb pb vb c s) := by
  intro l J Jx W hW hJ hX h0 hY
  have HW := Lib.hid hW
  have H0 := Lib.hid h0
  have HS := Lib.hid hs
  have ep := hW.p
  clear hW h0 hs
  refine callsIn_of_wp Tryd.func74 rfl trivial ?_ rfl
  simp only [Tryd.ntmps74, List.size_toArray, List.length_cons, List.length_nil, Nat.reduceAdd, Nat.reduceSub, Array.replicate_succ, Array.replicate_zero, List.push_toArray, List.append_toArray, List.nil_append, List.cons_append]
  gi_wp2
  gi_loopw [7] (fun p wr => ∃ (pre : List ByteArray) (r : ByteArray), Boxes sb pb vb c r wr ∧ pre ++ splitL r c = splitL s c ∧ r.size ≤ 2000000 ∧ J pre wr)
    (fun p wr => leftOf sb wr)
  case atStart =>
    exact ⟨[], s, HW.out, rfl, HS.out, H0.out⟩
  case round =>
    obtain ⟨pre, r, hb, hx, hr, hj⟩ := hrel
    have c1 := hb.s
    have c2 := hb.p
    have c3 := hb.v
    have HB := Lib.hid hb
    have HX := Lib.hid hx
    have HJ := Lib.hid hj
    clear hb hx
    obtain ⟨i, hi⟩ : ∃ i, Lib.indexByte r.data.toList c = i := ⟨_, rfl⟩
    have HI := Lib.hid hi
    by_cases h0 : i < 0
    · have HN := Lib.hid (split_none (by rw [hi]; exact h0 : Lib.indexByte r.data.toList c < 0))
      have HY := Lib.hid (hY pre r wr (by rw [← HX.out, HN.out]; exact List.prefix_refl _) hj)
      clear hj hi hY
      obtain ⟨fn, tmps, assign, body, hy, hR⟩ := HY.out
      gi_wp2_with (refine ⟨trivial, ?_⟩; gi_at_call 76; refine (callsIn_wide.2 (Tryd.strings_Index_one r c wr)).mono ?_; rintro e w' ⟨rfl, rfl⟩; rw [HI.out])
      refine hR.mono ?_
      rintro e W3 (⟨rfl, hJ3, hk3⟩ | ⟨rfl, hX3⟩)
      · gi_wp2
        go_end0
        exact ⟨_, rfl, .inl ⟨_, by rw [← HX.out, HN.out], hJ3⟩⟩
      · gi_wp2
        go_end0
        exact ⟨_, rfl, .inr ⟨_, by rw [← HX.out, HN.out]; exact List.prefix_refl _, hX3⟩⟩
    · obtain ⟨k, hk⟩ : ∃ k : Nat, i = k := ⟨i.toNat, by omega⟩
      subst hk
      obtain ⟨hkr, hsp⟩ := split_at hi
      have HN := Lib.hid hsp
      have HY := Lib.hid (hY pre (r.extract 0 k) wr (by rw [← HX.out, HN.out]; exact ⟨splitL (r.extract (k + 1) r.size) c, by simp⟩) hj)
      clear hj hi hY hsp
      obtain ⟨fn, tmps, assign, body, hy, hR⟩ := HY.out
      gi_wp2_with (refine ⟨trivial, ?_⟩; gi_at_call 76; refine (callsIn_wide.2 (Tryd.strings_Index_one r c wr)).mono ?_; rintro e w' ⟨rfl, rfl⟩; rw [HI.out])
      refine hR.mono ?_
      rintro e W3 (⟨rfl, hJ3, hk3⟩ | ⟨rfl, hX3⟩)
      · have hb3 := HB.out.kept hk3
        have d1 := hb3.s
        have d2 := hb3.p
        have d3 := hb3.f
        have HB3 := Lib.hid hb3
        clear hb3
        gi_wp2
        go_roundw
        case rel => exact ⟨pre ++ [r.extract 0 k], r.extract (k + 1) r.size, HB3.out.set _ h1 h2, by rw [← HX.out, HN.out]; simp, by rw [ByteArray.size_extract]; omega, hJ _ _ _ hJ3 (.inl ⟨_, rfl⟩)⟩
        case measure =>
          simp only [leftOf, (HB3.out.set (r.extract (k + 1) r.size) h1 h2).s, HB.out.s, ByteArray.size_extract]
          omega
      · gi_wp2
        refine bodyPost_ret (results_none rfl _ _ _) rfl ?_
        exact ⟨_, rfl, .inr ⟨_, by rw [← HX.out, HN.out]; exact ⟨splitL (r.extract (k + 1) r.size) c, by simp⟩, hX3⟩⟩
set_option maxRecDepth 20000 in
theorem seq_made (s : ByteArray) (w : World) :
    Calls Tryd.prog 40 #[.string s, .string ⟨#[42]⟩] w fun e w' =>
      e = .returned (.func (.func 74) #[] #[.pointer (some ⟨w.heap.size + 1, 0, none⟩), .pointer (some ⟨w.heap.size, 0, none⟩), .pointer (some ⟨w.heap.size + 2, 0, none⟩)]) ∧
      w' = ((w.alloc (.cells #[.string s] 9)).alloc (.cells #[.string ⟨#[42]⟩] 9)).alloc (.cells #[.int .i64 0] 3) := by
  have h2 : Calls Tryd.prog 61 #[.string s, .string ⟨#[42]⟩, .int .i64 0] w fun e w' =>
      e = .returned (.func (.func 74) #[] #[.pointer (some ⟨w.heap.size + 1, 0, none⟩), .pointer (some ⟨w.heap.size, 0, none⟩), .pointer (some ⟨w.heap.size + 2, 0, none⟩)]) ∧
      w' = ((w.alloc (.cells #[.string s] 9)).alloc (.cells #[.string ⟨#[42]⟩] 9)).alloc (.cells #[.int .i64 0] 3) := by
    go_enter Tryd.func61, Tryd.ntmps61
    go_wp2
    go_ret
    exact ⟨rfl, rfl⟩
  go_enter Tryd.func40, Tryd.ntmps40
  go_wp2_with fail
  refine h2.mono ?_
  rintro e w' ⟨rfl, rfl⟩
  go_wp2
  go_ret
  exact ⟨rfl, rfl⟩
end Go.Proofs.YtghhjeebcpcepaaDoor
