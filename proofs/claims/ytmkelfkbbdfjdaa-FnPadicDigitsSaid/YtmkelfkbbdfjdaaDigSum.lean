/- Contract of the walk: impl.SumOfDigits answers the sum of the digits of a number, or the code. -/
import Derived.Test.YtmkelfkbbdfjdaaDigList
namespace Go.Proofs.Ytmkelfkbbdfjdaa
open Go.RowKit Go.Shelf
attribute [local go_sem] Oper.semAt_some
set_option linter.unusedVariables false
set_option maxRecDepth 20000
/-- what both SumOfDigits answer -/
def sumV (p v u n : Int) : Int := if padB p v u n then sumL (digL p u n.toNat) else 0
theorem fold_add_bd {p : Int} : ∀ (l : List Int) (a : Int), (∀ d ∈ l, 0 ≤ d ∧ d < p) → a ≤ l.foldl (· + ·) a ∧ l.foldl (· + ·) a ≤ a + p * l.length := by
  intro l
  induction l with
  | nil => intro a _; simp
  | cons d l ih =>
    intro a h
    obtain ⟨h1, h2⟩ := ih (a + d) fun x hx => h x (List.mem_cons_of_mem _ hx)
    obtain ⟨d0, d1⟩ := h d List.mem_cons_self
    rw [List.foldl_cons, List.length_cons]
    have e : p * ((l.length + 1 : Nat) : Int) = p * l.length + p := by rw [show ((l.length + 1 : Nat) : Int) = (l.length : Int) + 1 by omega, Int.mul_add, Int.mul_one]
    omega
theorem sumL_bd {p : Int} {l : List Int} (hp : p ≤ 97) (hl : l.length ≤ 40) (h : ∀ d ∈ l, 0 ≤ d ∧ d < p) : 0 ≤ sumL l ∧ sumL l ≤ 4000 := by
  obtain ⟨h1, h2⟩ := fold_add_bd (p := 97) l 0 fun d hd => ⟨(h d hd).1, by have := (h d hd).2; omega⟩
  exact ⟨h1, by unfold sumL; omega⟩
theorem sum_pre {p v u n x : Int} {pre : List Int} (h : POk p v u n) (hp : pre ++ [x] <+: digL p u n.toNat) : 0 ≤ sumL pre ∧ sumL pre ≤ 4000 ∧ 0 ≤ x ∧ x ≤ 97 := by
  have hl := digs_len h hp
  obtain ⟨hp2, hp97, _⟩ := pok_bd h
  have hm : ∀ d ∈ pre ++ [x], 0 ≤ d ∧ d < p := fun d hd => digL_bd hp2 (hp.subset hd)
  obtain ⟨a, b⟩ := sumL_bd hp97 (show pre.length ≤ 40 by omega) fun d hd => hm d (by simp [hd])
  obtain ⟨c, d⟩ := hm x (by simp)
  exact ⟨a, b, c, by omega⟩
def SI (w : World) (b : Nat) (pre : List Int) (W : World) : Prop := Boxed W b 2 (.int .i64 (sumL pre)) ∧ Below w.heap.size w W
theorem si_put {w W : World} {b k : Nat} {pre : List Int} {o o' : Obj} (h : SI w b pre W) (hb : w.heap.size ≤ k) (hk : W.heap[k]? = some o) (ho : o.isCells = false) : SI w b pre (W.putObj k o') :=
  ⟨boxed_putB h.1 hk ho, below_putB h.2 hb⟩
theorem si_below {w A B : World} {b : Nat} {pre : List Int} (h : SI w b pre A) (hs : StU A B) : SI w b pre B :=
  ⟨boxed_belowB h.1 hs, h.2.trans (hs.mono h.2.size)⟩
set_option maxRecDepth 20000 in
set_option maxHeartbeats 1600000 in
theorem implSum_yes (p v u n : Int) (w : World) (hx : padB p v u n = true) :
    Calls Try.prog 16 #[.agg (P4 p v u n)] w fun e w' => e = .returned (.tuple #[.int .i64 (sumL (digL p u n.toNat)), .int .i64 0]) ∧ Below w.heap.size w w' := by
  have HX := Lib.hid hx
  have HK := Lib.hid (padB_ok hx)
  clear hx
  refine (callsIn_wide (n := 4)).1 ?_
  refine callsIn_of_wp_marks Try.func16 rfl trivial ?_ rfl
  simp only [Try.ntmps16, List.size_toArray, List.length_cons, List.length_nil, Nat.reduceAdd, Nat.reduceSub, Array.replicate_succ, Array.replicate_zero, List.push_toArray, List.append_toArray, List.nil_append, List.cons_append]
  gi_wp2_with (refine ⟨trivial, ?_⟩; gi_at_call 26; refine (callsIn_wide.2 (isValid_any _ _ _ _ _)).mono ?_; rw [HX.out]; rintro e w' ⟨rfl, hb⟩; have K := k1_first hb; obtain ⟨c0, c1, c2, c3⟩ := lies_four (lies_alloc K.2 (.cells #[.int .i64 0] 2)))
  have hsz := K.1.size
  have hB6 : Below w.heap.size w (w'.alloc (.cells #[.int .i64 0] 2)) := K.1.alloc hsz _
  have hbox := Boxed.new w' 2 (.int .i64 0)
  obtain ⟨B, hB⟩ : ∃ B, w'.heap.size = B := ⟨_, rfl⟩
  have h6s : (w'.alloc (.cells #[.int .i64 0] 2)).heap.size = B + 1 := by rw [← hB]; simp
  rw [hB] at hbox ⊢
  generalize w'.alloc (.cells #[.int .i64 0] 2) = W6 at *
  have hBw : w.heap.size ≤ B := by omega
  clear K c0 c1 c2 c3 hb hsz hB
  refine wpIn_rangeBb (F := Fence.wide) (n := 4) (P := Try.prog) (w := W6) rfl (by omega) (gf := 27) (ba := #[.agg (P4 p v u n)]) (lb := #[]) rfl trivial (enters_of Try.func27 (by kernel_rfl) rfl)
    (digits_by 3 (by omega) p v u n HK.out) (fun _ => rfl)
    (SI w B) (fun _ _ => False) (fun x => { tmps := #[.agg (P4 p v u n), .pointer (some ⟨w.heap.size, 0, none⟩), .int .i64 0, .int .i64 0, .pointer (some ⟨B, 0, none⟩), .int .i64 x, .agg (P4 p v u n), .bool true, .bool false, .agg (P4 p v u n), .func (.func 27) #[.agg (P4 p v u n)] #[], .int .i64 x, undef, undef, undef, undef], defers := [] })
    ?ip ?xp ?fp ?fq ?ft ?is ?xs ?sk ?h0 ?s0 ?assign ?body ?done ?stop
  case ip => intro pre W k o o' h hk ho hc; exact si_put h (by omega) ho hc
  case xp => intro _ _ _ _ _ h; exact h.elim
  case fp => intro A W k o o' hf hk ho hc; exact frP_put hf ho hc
  case fq => intro W k o o' hk ho hc; exact frP_put (frP_refl W) ho hc
  case ft => intro A B C h k; exact frP_trans h k
  case is => intro pre A B h hs; exact si_below h hs
  case xs => intro _ _ _ h; exact h.elim
  case sk => intro A B k o hs hk ho hc; exact (hs.block k (Array.getElem?_eq_some_iff.1 ho).1).trans ho
  case h0 =>
    intro o o'
    exact ⟨(hbox.alloc _).alloc _, (hB6.alloc (by omega) _).alloc (by simp; omega) _⟩
  case s0 => intro o o'; trivial
  case assign =>
    intro l x W K hK
    gi_wp2
    exact hK
  case body =>
    rintro l pre x W hsp ⟨hv, hbel⟩
    obtain ⟨s0, s1, x0, x1⟩ := sum_pre HK.out hsp
    have HS := Lib.hid (sumL_append pre x)
    have q2 := hv.cell
    have q2f := hv.frozen
    have hw : IntKind.i64.wrap (sumL pre + x) = sumL pre + x := IntWalk.i64_in _ (by omega)
    have hF := frP_set (.int .i64 (sumL pre + x)) hv (by decide)
    have hv2 := hv.set (.int .i64 (sumL pre + x))
    have hb2 := hbel.setCell (p := ⟨B, 0, none⟩) hBw (.int .i64 (sumL pre + x))
    clear hsp HX HK
    gi_wp2
    exact ⟨KeepsOthers.setCell _ _ _, hF, by rw [HS.out]; exact hv2, hb2⟩
  case done =>
    rintro D xs W hD rfl ⟨hv, hbel⟩ hK
    have q2 := hv.cell
    gi_wp2
    refine ⟨by simp, .inl ⟨_, _, rfl, run_takeDeferred hK, ?_⟩⟩
    refine ⟨.tuple #[.int .i64 (sumL (digL p u n.toNat)), .int .i64 0], by simp [results, Try.results16, go_sem], ?_⟩
    exact ⟨rfl, below_putB hbel (by omega)⟩
  case stop => intro _ _ _ _ _ h; exact h.elim
theorem implSum_any (p v u n : Int) (w : World) :
    Calls Try.prog 16 #[.agg (P4 p v u n)] w fun e w' => e = .returned (.tuple #[.int .i64 (sumV p v u n), .int .i64 (negC p v u n)]) ∧ Below w.heap.size w w' := by
  cases hx : padB p v u n
  · rw [show sumV p v u n = 0 by simp [sumV, hx], show negC p v u n = 1 by simp [negC, hx]]
    go_enter Try.func16, Try.ntmps16
    go_wp2_with (go_at_call 26; refine (isValid_any _ _ _ _ _).mono ?_; rw [hx]; rintro e wn ⟨rfl, hb⟩; have K := k1_first hb)
    go_ret2
    exact ⟨rfl, K.1⟩
  · rw [show sumV p v u n = sumL (digL p u n.toNat) by simp [sumV, hx], show negC p v u n = 0 by simp [negC, hx]]
    exact implSum_yes p v u n w hx
end Go.Proofs.Ytmkelfkbbdfjdaa
