/- Contract of the walk: impl.DigitsOf answers the digits of a number in a row of its own memory, or the code. -/
import Derived.Test.YtmkelfkbbdfjdaaDigSeq
import Derived.Test.YtmkelfkbbdfjdaaIntAid
import Derived.Shelf.Abstract
namespace Go.Proofs.Ytmkelfkbbdfjdaa
open Go.RowKit Go.Shelf
attribute [local go_sem] Oper.semAt_some
set_option linter.unusedVariables false
set_option maxRecDepth 20000
/-- what both DigitsOf answer -/
def digsL (p v u n : Int) : List Int := if padB p v u n then digL p u n.toNat else []
/-- what holds at the head of each round: the box b holds the row of the digits so far -/
def DI (w : World) (b : Nat) (pre : List Int) (W : World) : Prop :=
  ∃ vl, Boxed W b 27 vl ∧ IntRow w.heap.size W vl pre ∧ Below w.heap.size w W
theorem di_put {w W : World} {b k : Nat} {pre : List Int} {o o' : Obj} (h : DI w b pre W) (hb : w.heap.size ≤ k) (hk : W.heap[k]? = some o) (ho : o.isCells = false) : DI w b pre (W.putObj k o') := by
  obtain ⟨vl, h1, h2, h3⟩ := h
  exact ⟨vl, boxed_putB h1 hk ho, ownsRow_putObj h2 _ hk ho, below_putB h3 hb⟩
theorem di_below {w A B : World} {b : Nat} {pre : List Int} (h : DI w b pre A) (hs : StU A B) : DI w b pre B := by
  obtain ⟨vl, h1, h2, h3⟩ := h
  exact ⟨vl, boxed_belowB h1 hs, row_below h2 hs (Nat.le_refl _), h3.trans (hs.mono h3.size)⟩
theorem digs_len {p v u n : Int} {pre : List Int} {x : Int} (h : POk p v u n) (hp : pre ++ [x] <+: digL p u n.toNat) : pre.length ≤ 28 := by
  have := hp.length_le
  rw [digL_length, List.length_append] at this
  have := (pok_bd h).2.2.2.1
  simp at *; omega
set_option maxRecDepth 20000 in
set_option maxHeartbeats 1600000 in
theorem implDigits_yes (p v u n : Int) (w : World) (hx : padB p v u n = true) :
    Calls Try.prog 7 #[.agg (P4 p v u n)] w (IntPost (digL p u n.toNat) 0 w) := by
  obtain ⟨i0, hi, hz0, hz1, hz2⟩ := info_parts Try.infoInt64
  have HI := Lib.hid hi
  have HZ0 := Lib.hid hz0
  have HZ1 := Lib.hid hz1
  have HZ2 := Lib.hid hz2
  have HX := Lib.hid hx
  have HK := Lib.hid (padB_ok hx)
  clear hi hz0 hz1 hz2 hx
  refine (callsIn_wide (n := 4)).1 ?_
  refine callsIn_of_wp_marks Try.func7 rfl trivial ?_ rfl
  simp only [Try.ntmps7, List.size_toArray, List.length_cons, List.length_nil, Nat.reduceAdd, Nat.reduceSub, Array.replicate_succ, Array.replicate_zero, List.push_toArray, List.append_toArray, List.nil_append, List.cons_append]
  gi_wp2_with (refine ⟨trivial, ?_⟩; gi_at_call 26; refine (callsIn_wide.2 (isValid_any _ _ _ _ _)).mono ?_; rw [HX.out]; rintro e w' ⟨rfl, hb⟩; have K := k1_first hb; obtain ⟨c0, c1, c2, c3⟩ := lies_four (lies_alloc K.2 (.cells #[.slice none 0 0] 27)))
  have hsz := K.1.size
  have hB6 : Below w.heap.size w (w'.alloc (.cells #[.slice none 0 0] 27)) := K.1.alloc hsz _
  have hbox := Boxed.new w' 27 (.slice none 0 0)
  obtain ⟨B, hB⟩ : ∃ B, w'.heap.size = B := ⟨_, rfl⟩
  have h6s : (w'.alloc (.cells #[.slice none 0 0] 27)).heap.size = B + 1 := by rw [← hB]; simp
  rw [hB] at hbox ⊢
  generalize w'.alloc (.cells #[.slice none 0 0] 27) = W6 at *
  have hBw : w.heap.size ≤ B := by omega
  clear K c0 c1 c2 c3 hb hsz hB
  refine wpIn_rangeBb (F := Fence.wide) (n := 4) (P := Try.prog) (w := W6) rfl (by omega) (gf := 27) (ba := #[.agg (P4 p v u n)]) (lb := #[]) rfl trivial (enters_of Try.func27 (by kernel_rfl) rfl)
    (digits_by 3 (by omega) p v u n HK.out) (fun _ => rfl)
    (DI w B) (fun _ _ => False) (fun x => { tmps := #[.agg (P4 p v u n), .pointer (some ⟨w.heap.size, 0, none⟩), .slice none 0 0, .int .i64 0, .pointer (some ⟨B, 0, none⟩), .int .i64 x, .agg (P4 p v u n), .bool true, .bool false, .agg (P4 p v u n), .func (.func 27) #[.agg (P4 p v u n)] #[], .int .i64 x, undef, undef, undef, undef, undef], defers := [] })
    ?ip ?xp ?fp ?fq ?ft ?is ?xs ?sk ?h0 ?s0 ?assign ?body ?done ?stop
  case ip => intro pre W k o o' h hk ho hc; exact di_put h (by omega) ho hc
  case xp => intro _ _ _ _ _ h; exact h.elim
  case fp => intro A W k o o' hf hk ho hc; exact frP_put hf ho hc
  case fq => intro W k o o' hk ho hc; exact frP_put (frP_refl W) ho hc
  case ft => intro A B C h k; exact frP_trans h k
  case is => intro pre A B h hs; exact di_below h hs
  case xs => intro _ _ _ h; exact h.elim
  case sk => intro A B k o hs hk ho hc; exact (hs.block k (Array.getElem?_eq_some_iff.1 ho).1).trans ho
  case h0 =>
    intro o o'
    exact ⟨_, (hbox.alloc _).alloc _, intRow_nil _ _, (hB6.alloc (by omega) _).alloc (by simp; omega) _⟩
  case s0 => intro o o'; trivial
  case assign =>
    intro l x W K hK
    gi_wp2
    exact hK
  case body =>
    rintro l pre x W hsp ⟨vl, hv, hrow, hbel⟩
    have hlen := digs_len HK.out hsp
    obtain ⟨o, c, rfl⟩ := row_slice hrow
    have q2 := hv.cell
    have hs1 := hbel.size
    clear hsp HX HK
    gi_wp2_with (gi_at_builtin; refine wpListIn_append_own _ rfl (.tmp 12) (.tmp 14) 27 rfl w.heap.size 2 i0 (.int .i64 0) 1 8 Try.underlying27 HI.out HZ0.out HZ1.out HZ2.out rfl (by decide) _ _ _ rfl (hrow.alloc _) ⟨W.heap.size, 0, none⟩ 1 1 [.int .i64 x] rfl rfl ?c1 ?c2 ?c3 ?c4 ?c5 ?_)
    case c1 => first | exact news_one _ _ _ | simp [Addr.add]
    case c2 => first | exact one_one _ | rfl
    case c3 => unfold maxLen; omega
    case c4 => omega
    case c5 => first | omega | (simp; omega)
    intro v' w3 hown hgrow _
    obtain ⟨o2, c2, rfl⟩ := row_slice hown
    have hown' := intRow_snoc hown
    obtain ⟨e1, e2, e3, e4, e5⟩ := hv.appended (by decide) hrow hs1 hBw hown' hgrow
    have hF := frP_trans (frP_trans (frP_below (below_a1 W (.cells #[.int .i64 x] 2))) (frP_row (hrow.alloc _) (by decide) hgrow)) (frP_set (.slice o2 (pre.length + 1) c2) e1 (by decide))
    have q3 := e1.cell
    have q3f := e1.frozen
    clear hown hgrow hown'
    gi_wp2
    exact ⟨e4, hF, _, e2, e3, hbel.trans e5⟩
  case done =>
    rintro D xs W hD rfl ⟨vl, hv, hrow, hbel⟩ hK
    obtain ⟨o, c, rfl⟩ := row_slice hrow
    have q2 := hv.cell
    gi_wp2
    refine ⟨by simp, .inl ⟨_, _, rfl, run_takeDeferred hK, ?_⟩⟩
    refine ⟨.tuple #[.slice o (digL p u n.toNat).length c, .int .i64 0], by simp [results, Try.results7, go_sem], ?_⟩
    exact ⟨_, rfl, ownsRow_putObj hrow _ hK rfl, below_putB hbel (by omega)⟩
  case stop => intro _ _ _ _ _ h; exact h.elim
theorem implDigits_any (p v u n : Int) (w : World) :
    Calls Try.prog 7 #[.agg (P4 p v u n)] w (IntPost (digsL p v u n) (negC p v u n) w) := by
  cases hx : padB p v u n
  · rw [show digsL p v u n = [] by simp [digsL, hx], show negC p v u n = 1 by simp [negC, hx]]
    go_enter Try.func7, Try.ntmps7
    go_wp2_with (go_at_call 26; refine (isValid_any _ _ _ _ _).mono ?_; rw [hx]; rintro e wn ⟨rfl, hb⟩; have K := k1_first hb)
    go_ret2
    exact ⟨_, rfl, intRow_nil _ _, K.1⟩
  · rw [show digsL p v u n = digL p u n.toNat by simp [digsL, hx], show negC p v u n = 0 by simp [negC, hx]]
    exact implDigits_yes p v u n w hx
end Go.Proofs.Ytmkelfkbbdfjdaa
