/- Contracts of the walk: slices.Backward at a list that may be nil, ranged over: the list stays. -/
import Derived.Test.YtjmecidbnoimnaaModBack
namespace Go.Proofs.Ytjmecidbnoimnaa
open Go.RowKit
set_option linter.unusedVariables false
set_option linter.unusedSimpArgs false
def BackAtO (o : Option Addr) (g b c : Nat) (l : List Int) (W : World) : Prop :=
  Boxed W b 27 (.slice o l.length c) ∧ ∀ k, k < l.length → W.cell? ⟨g, k, none⟩ = some (.int .i64 (l.getD k 0))
theorem backAtO_kept {o : Option Addr} {g b c : Nat} {l : List Int} {A B : World} (h : BackAtO o g b c l A) (hf : Fr8 g b A B) : BackAtO o g b c l B :=
  ⟨(hf b (.inr rfl)).trans h.1, fun k hk => by rw [World.cell?_of_block (w := A) (a := ⟨g, k, none⟩) (hf g (.inl rfl))]; exact h.2 k hk⟩
set_option maxRecDepth 20000 in
set_option maxHeartbeats 1600000 in
theorem backwardO_by (n : Nat) (hn : 1 ≤ n) (o : Option Addr) (g b c : Nat) (l : List Int) (ho : 0 < l.length → o = some ⟨g, 0, none⟩) (hl : l.length ≤ 1100000) :
    SeqBb Fence.wide n Try.prog 124 #[] #[.pointer (some ⟨b, 0, none⟩)] (fun x : Nat × Int => #[.int .i64 x.1, .int .i64 x.2]) StU8 (Fr8 g b) (fun xs => xs = bk8 l l.length) (fun pre => ∃ j, j ≤ l.length ∧ pre = bk8 l j) (BackAtO o g b c l) := by
  intro lp J Jx W hW hJ hX h0 hY
  have HW := Lib.hid hW
  have H0 := Lib.hid h0
  have q0 := hW.1.cell
  clear hW h0
  show CallsIn Fence.wide n Try.prog 124 #[.func (.yield lp) #[] #[], .pointer (some ⟨b, 0, none⟩)] W _
  refine callsIn_of_wp Try.func124 rfl trivial ?_ rfl
  simp only [Try.ntmps124, List.size_toArray, List.length_cons, List.length_nil, Nat.reduceAdd, Nat.reduceSub, Array.replicate_succ, Array.replicate_zero, List.push_toArray, List.append_toArray, List.nil_append, List.cons_append]
  gi_wp2
  gi_loopw [3] (fun i wr => ∃ (j : Nat) (x : Int), j ≤ l.length ∧ i = .int .i64 x ∧ x = (l.length : Int) - 1 - j ∧ BackAtO o g b c l wr ∧ J (bk8 l j) wr) (fun i wr => (intOf i + 1).toNat)
  case atStart => exact ⟨0, (l.length : Int) - 1, Nat.zero_le _, rfl, by omega, HW.out, H0.out⟩
  case round =>
    obtain ⟨j, x, hj, rfl, hx, hb, hJj⟩ := hrel
    have q1 := hb.1.cell
    by_cases hlt : j < l.length
    · have HO := Lib.hid (ho (by omega))
      rw [ho (by omega)] at q1
      obtain ⟨m, hm⟩ : ∃ m : Nat, x = m := ⟨x.toNat, by omega⟩
      subst hm
      have hm2 : m = l.length - 1 - j := by omega
      have hml : m < l.length := by omega
      have q2 := hb.2 m hml
      obtain ⟨y, hy⟩ : ∃ y, l.getD m 0 = y := ⟨_, rfl⟩
      rw [hy] at q2
      have hs : bk8 l (j + 1) = bk8 l j ++ [(m, y)] := by rw [bk8_succ, ← hm2, hy]
      have HY := Lib.hid (hY (bk8 l j) (m, y) wr ⟨j + 1, by omega, hs.symm⟩ hJj)
      have HS := Lib.hid hs
      have HB := Lib.hid hb
      have HXX := Lib.hid hx
      have hm0 : (m : Int) ≤ 1100000 := by omega
      have hge : (0 : Int) ≤ (m : Int) := by omega
      clear hs hb hJj hy hm2 hx
      obtain ⟨fn, tmps, assign, body, hy, hR⟩ := HY.out
      clear HY
      simp only at hy
      gi_wp2
      refine hR.mono ?_
      rintro e W3 (⟨rfl, hJ3, hF3⟩ | ⟨rfl, hX3⟩)
      · have hb3 := backAtO_kept HB.out hF3
        have d0 := hb3.1.cell
        rw [HO.out] at d0
        have HB3 := Lib.hid hb3
        clear hb3 q1 q2
        gi_wp2
        go_roundw
        case rel => exact ⟨j + 1, (m : Int) - 1, by omega, rfl, by have := HXX.out; omega, HB3.out, by rw [HS.out]; exact hJ3⟩
        case measure => simp [intOf]
      · gi_wp2
        refine bodyPost_ret (results_none rfl _ _ _) rfl ?_
        exact ⟨_, rfl, .inr ⟨_, ⟨j + 1, by omega, HS.out.symm⟩, hX3⟩⟩
    · have hjl : j = l.length := by omega
      have HK := Lib.hid hjl
      have HJ := Lib.hid hJj
      have hx1 : x < 0 := by omega
      clear hjl hJj hb
      gi_wp2
      go_end0
      have hJe := HJ.out
      rw [HK.out] at hJe
      exact ⟨_, rfl, .inl ⟨_, rfl, hJe⟩⟩
end Go.Proofs.Ytjmecidbnoimnaa
