/- Contracts of the walk: impl.FromDigits answers the number with these digits, or the code. -/
import Derived.Test.YtejgcamogjgdkaaGreatDoorDigFrom
namespace Go.Proofs.YtejgcamogjgdkaaGreatDoor
open Go.RowKit Go.Shelf
attribute [local go_sem] Oper.semAt_some
set_option linter.unusedVariables false
set_option linter.unusedSimpArgs false
/-- the number that withDigits answers -/
def withQ (p place : Int) (l : List Int) : Q4 := if l = [] then (p, place, 0, 0) else if ringM p l.length = 0 then (0, 0, 0, 0) else (p, numT p place (horner p l) (place + l.length))
theorem withDigits_nil (p place : Int) (o : Option Addr) (c : Nat) (w : World) :
    Calls Tryz.prog 56 #[.int .i64 p, .int .i64 place, .slice o 0 c] w fun e w' => e = .returned (.agg (A4 (withQ p place []))) ∧ Below w.heap.size w w' := by
  rw [show withQ p place [] = (p, place, 0, 0) from rfl]
  go_enter Tryz.func56, Tryz.ntmps56
  go_wp2_with (first | (go_at_call 61; refine (zeroAt_any _ _ _).mono ?_; rintro e5 w5 ⟨rfl, hb⟩; have K := k2_first hb; obtain ⟨d0, d1, d2, d3⟩ := lies_four K.2.2; obtain ⟨df0, df1, df2, df3⟩ := lies_ice K.2.2))
  refine bodyPost_ret (v := .agg (P4 p place 0 0)) (by simp [results, Tryz.results56, go_sem, d0, d1, d2, d3]) rfl ?_
  exact ⟨rfl, below_set4 K.1 (by omega)⟩
theorem withDigits_no (p place : Int) (o : Option Addr) (n c : Nat) (l : List Int) (w : World) (hn : n = l.length) (hn0 : 0 < n) (hn1 : n ≤ 1100000) (h0 : ringM p n = 0) :
    Calls Tryz.prog 56 #[.int .i64 p, .int .i64 place, .slice o n c] w fun e w' => e = .returned (.agg (A4 (withQ p place l))) ∧ Below w.heap.size w w' := by
  have hl : l ≠ [] := by rintro rfl; simp at hn; omega
  rw [show withQ p place l = (0, 0, 0, 0) by unfold withQ; rw [if_neg hl, ← hn, if_pos h0]]
  have HC := Lib.hid (show ringC p n = 1 by simp [ringC, h0])
  clear h0 hn hl
  go_enter Tryz.func56, Tryz.ntmps56
  go_wp2_with (first | (go_at_call 37; refine (checkNil_any _ _ _).mono ?_; rw [HC.out]; rintro e5 w5 ⟨rfl, hb⟩; have K := k2_first hb; obtain ⟨d0, d1, d2, d3⟩ := lies_four K.2.2; obtain ⟨df0, df1, df2, df3⟩ := lies_ice K.2.2))
  refine bodyPost_ret (v := .agg (P4 0 0 0 0)) (by simp [results, Tryz.results56, go_sem, d0, d1, d2, d3]) rfl ?_
  exact ⟨rfl, below_set4 K.1 (by omega)⟩
theorem lies_putB {W : World} {b k : Nat} {x : Value} {vs : List Value} {o o' : Obj} (h : Lies W b (x :: vs).toArray) (hk : W.heap[k]? = some o) (ho : o.isCells = false) : Lies (W.putObj k o') b (x :: vs).toArray := by
  have hne : b ≠ k := by
    rintro rfl
    have := lies_cell h 0
    simp [World.cell?, hk] at this
    cases o <;> simp_all [Obj.isCells]
  exact lies_block h (by have := h.1; simp [World.putObj]; exact this) (World.putObj_heap_other hne)
theorem set4_def {w4 : World} {b D : Nat} {x0 x1 x2 x3 : Value} {o : Obj} (hk : w4.heap[D]? = some o) (ho : o.isCells = false) :
    ((((w4.setCell ⟨b, 0, none⟩ x0).setCell ⟨b, 1, none⟩ x1).setCell ⟨b, 2, none⟩ x2).setCell ⟨b, 3, none⟩ x3).heap[D]? = some o :=
  ((((KeepsOthers.setCell _ _ _).trans (KeepsOthers.setCell _ _ _)).trans (KeepsOthers.setCell _ _ _)).trans (KeepsOthers.setCell _ _ _)).same D _ hk ho
theorem lies_leave {w4 : World} {b D : Nat} {x0 x1 x2 x3 y0 y1 y2 y3 : Value} {o o' : Obj} (h : Lies w4 b #[y0, y1, y2, y3]) (hk : w4.heap[D]? = some o) (ho : o.isCells = false) :
    Lies (((((w4.setCell ⟨b, 0, none⟩ x0).setCell ⟨b, 1, none⟩ x1).setCell ⟨b, 2, none⟩ x2).setCell ⟨b, 3, none⟩ x3).putObj D o') b #[x0, x1, x2, x3] :=
  lies_putB (lies_set4 h) (set4_def hk ho) ho
theorem bk_last {l : List Int} {pre : List (Nat × Int)} {x : Nat × Int} (h : ∃ j, j ≤ l.length ∧ pre ++ [x] = bk l j) :
    pre.length < l.length ∧ x = (l.length - 1 - pre.length, l.getD (l.length - 1 - pre.length) 0) := by
  obtain ⟨j, hj, e⟩ := h
  have hl := congrArg List.length e
  rw [bk_length, List.length_append, List.length_singleton] at hl
  subst hl
  rw [bk_succ] at e
  have := (List.append_inj' e rfl).2
  exact ⟨by omega, by simpa using this⟩
theorem horner_drop (p : Int) {l : List Int} {k : Nat} (hk : k < l.length) : horner p (l.drop (l.length - (k + 1))) = horner p (l.drop (l.length - k)) * p + l.getD (l.length - 1 - k) 0 := by
  have h : l.length - (k + 1) < l.length := by omega
  rw [List.drop_eq_getElem_cons h, horner_cons, show l.length - (k + 1) + 1 = l.length - k by omega, Int.mul_comm]
  congr 1
  simp [List.getD, show l.length - 1 - k = l.length - (k + 1) by omega, h]
theorem horner_drop_bd {p : Int} {l : List Int} {k : Nat} (hp2 : 2 ≤ p) (hd : l.all (digB p) = true) (hk : k ≤ l.length) (hm : pw p l.length ≤ 1000000000) :
    0 ≤ horner p (l.drop (l.length - k)) ∧ horner p (l.drop (l.length - k)) ≤ 1000000000 := by
  rw [List.all_eq_true] at hd
  obtain ⟨a, b⟩ := horner_bd hp2 (l.drop (l.length - k)) fun d hx => by
    have := hd d (List.mem_of_mem_drop hx)
    simp only [digB, inB, Bool.and_eq_true, decide_eq_true_eq] at this
    omega
  rw [List.length_drop] at b
  have := pw_mono (p := p) (a := ((l.length - (l.length - k) : Nat) : Int)) (b := (l.length : Int)) hp2 (by omega)
  exact ⟨a, by omega⟩
/-- what holds at the head of each round: the number of the digits so far lies in box b -/
def WI (w : World) (p : Int) (l : List Int) (b : Nat) (pre : List (Nat × Int)) (W : World) : Prop :=
  Boxed W b 2 (.int .i64 (horner p (l.drop (l.length - pre.length)))) ∧ Lies W w.heap.size #[.int .i64 p] ∧ Lies W (w.heap.size + 1) (P4 0 0 0 0) ∧ Below w.heap.size w W
theorem wi_put {w W : World} {p : Int} {l : List Int} {b k : Nat} {pre : List (Nat × Int)} {o o' : Obj} (h : WI w p l b pre W) (hb : w.heap.size ≤ k) (hk : W.heap[k]? = some o) (ho : o.isCells = false) : WI w p l b pre (W.putObj k o') :=
  ⟨boxed_putB h.1 hk ho, lies_putB h.2.1 hk ho, lies_putB h.2.2.1 hk ho, below_putB h.2.2.2 hb⟩
theorem wi_below {w A B : World} {p : Int} {l : List Int} {b : Nat} {pre : List (Nat × Int)} (h : WI w p l b pre A) (hs : StU A B) : WI w p l b pre B :=
  ⟨boxed_belowB h.1 hs, lies_next h.2.1 hs, lies_next h.2.2.1 hs, h.2.2.2.trans (hs.mono h.2.2.2.size)⟩
theorem frD_put {g b k : Nat} {A W : World} {o' : Obj} (h : FrD g b A W) (h1 : g < k) (h2 : b < k) : FrD g b A (W.putObj k o') := by
  intro j hj
  refine (World.putObj_heap_other ?_).trans (h j hj)
  rcases hj with rfl | rfl <;> omega
theorem frD_refl {g b : Nat} (A : World) : FrD g b A A := fun _ _ => rfl
theorem frD_trans {g b : Nat} {A B C : World} (h : FrD g b A B) (k : FrD g b B C) : FrD g b A C := fun j hj => (k j hj).trans (h j hj)
set_option maxRecDepth 20000 in
set_option maxHeartbeats 1600000 in
theorem withDigits_yes (p place : Int) (g n c : Nat) (l : List Int) (w : World) (hs : smallB p = true) (hd : l.all (digB p) = true) (h60 : -60 ≤ place) (h61 : place ≤ 60) (hn : n = l.length) (hn0 : 0 < n) (hn1 : n ≤ 1100000) (hg : g < w.heap.size)
    (hc : ∀ k, k < n → w.cell? ⟨g, k, none⟩ = some (.int .i64 (l.getD k 0))) (h0 : ringM p n ≠ 0) :
    Calls Tryz.prog 56 #[.int .i64 p, .int .i64 place, .slice (some ⟨g, 0, none⟩) n c] w fun e w' => e = .returned (.agg (A4 (withQ p place l))) ∧ Below w.heap.size w w' := by
  have HC := Lib.hid (show ringC p n = 0 by simp [ringC, h0])
  have HN := Lib.hid hn
  have HD := Lib.hid hd
  have HG := Lib.hid hc
  have H0 := Lib.hid h0
  have hn2 : ((n : Int) == 0) = false := by simp; omega
  clear hn hd hc h0
  refine (callsIn_wide (n := 4)).1 ?_
  refine callsIn_of_wp_marks Tryz.func56 rfl trivial ?_ rfl
  simp only [Tryz.ntmps56, List.size_toArray, List.length_cons, List.length_nil, Nat.reduceAdd, Nat.reduceSub, Array.replicate_succ, Array.replicate_zero, List.push_toArray, List.append_toArray, List.nil_append, List.cons_append]
  gi_wp2_with (first | (refine ⟨trivial, ?_⟩; gi_at_call 37; refine (callsIn_wide.2 (checkNil_any _ _ _)).mono ?_; rw [HC.out]; rintro e w' ⟨rfl, hb⟩; have K := k2_first hb) | (refine ⟨trivial, ?_⟩; gi_at_call 76; refine (callsIn_wide.2 (backward_made _ _ _ _)).mono ?_; rintro e w2 ⟨rfl, rfl⟩))
  have hsz := K.1.size
  have hbox := (Boxed.new w' 2 (.int .i64 0)).alloc (.cells #[.slice (some ⟨g, 0, none⟩) n c] 51)
  have hbox2 := Boxed.new (w'.alloc (.cells #[.int .i64 0] 2)) 51 (.slice (some ⟨g, 0, none⟩) n c)
  rw [World.size_alloc] at hbox2
  have hB6 : Below w.heap.size w ((w'.alloc (.cells #[.int .i64 0] 2)).alloc (.cells #[.slice (some ⟨g, 0, none⟩) n c] 51)) := (K.1.alloc hsz _).alloc (by simp; omega) _
  have L0 := lies_alloc (lies_alloc K.2.1 (.cells #[.int .i64 0] 2)) (.cells #[.slice (some ⟨g, 0, none⟩) n c] 51)
  have L1 := lies_alloc (lies_alloc K.2.2 (.cells #[.int .i64 0] 2)) (.cells #[.slice (some ⟨g, 0, none⟩) n c] 51)
  obtain ⟨B, hB⟩ : ∃ B, w'.heap.size = B := ⟨_, rfl⟩
  have h6s : ((w'.alloc (.cells #[.int .i64 0] 2)).alloc (.cells #[.slice (some ⟨g, 0, none⟩) n c] 51)).heap.size = B + 2 := by rw [← hB]; simp
  rw [hB] at hbox hbox2 ⊢
  have hlt1 := lies_lt K.2.2
  generalize (w'.alloc (.cells #[.int .i64 0] 2)).alloc (.cells #[.slice (some ⟨g, 0, none⟩) n c] 51) = W6 at *
  have hBw : w.heap.size + 2 ≤ B := by omega
  have hm := pw_ringM H0.out
  obtain ⟨hp2, hp97, _, hn29, _, hm2, _⟩ := ringM_bd H0.out
  rw [hm, HN.out] at hm2
  have HM := Lib.hid hm2
  have HR := Lib.hid hm
  clear K hb hsz hB hlt1 hm2 hm
  refine wpIn_rangeBb (F := Fence.wide) (n := 4) (P := Tryz.prog) (w := W6) rfl (by omega) (gf := 98) (ba := #[]) (lb := #[.pointer (some ⟨B + 1, 0, none⟩)]) rfl trivial (enters_of Tryz.func98 (by kernel_rfl) rfl)
    (backward_by 3 (by omega) g (B + 1) c l (by have := HN.out; omega)) (fun _ => rfl)
    (WI w p l B) (fun _ _ => False) (fun x => { tmps := #[.int .i64 p, .int .i64 place, .slice (some ⟨g, 0, none⟩) n c, .pointer (some ⟨w.heap.size, 0, none⟩), undef, undef, .pointer (some ⟨w.heap.size + 1, 0, none⟩), .int .i64 n, .pointer (some ⟨B, 0, none⟩), undef, .int .i64 x.2, .slice (some ⟨g, 0, none⟩) n c, .int .i64 n, .int .i64 n, .bool false, undef, undef, undef, .int .i64 p, .int .i64 n, .agg #[.int .i64 p, .int .i64 n], .int .i64 0, .bool false, undef, .slice (some ⟨g, 0, none⟩) n c, .func (.func 98) #[] #[.pointer (some ⟨B + 1, 0, none⟩)], .int .i64 x.1, .int .i64 x.2, undef, undef, undef, undef, undef, undef, undef, undef, undef, undef, undef, undef], defers := [] })
    ?ip ?xp ?fp ?fq ?ft ?is ?xs ?sk ?h0 ?s0 ?assign ?body ?done ?stop
  case ip => intro pre W k o o' h hk ho hc; exact wi_put h (by omega) ho hc
  case xp => intro _ _ _ _ _ h; exact h.elim
  case fp => intro A W k o o' hf hk ho hc; exact frD_put hf (by omega) (by omega)
  case fq => intro W k o o' hk ho hc; exact frD_put (frD_refl W) (by omega) (by omega)
  case ft => intro A B C h k; exact frD_trans h k
  case is => intro pre A B h hs; exact wi_below h hs
  case xs => intro _ _ _ h; exact h.elim
  case sk => intro A B k o hs hk ho hc; exact (hs.block k (Array.getElem?_eq_some_iff.1 ho).1).trans ho
  case h0 =>
    intro o o'
    refine ⟨?_, lies_alloc (lies_alloc L0 _) _, lies_alloc (lies_alloc L1 _) _, (hB6.alloc (by omega) _).alloc (by simp; omega) _⟩
    have e : horner p (l.drop (l.length - ([] : List (Nat × Int)).length)) = 0 := by simp [horner]
    rw [e]
    exact (hbox.alloc _).alloc _
  case s0 =>
    intro o o'
    refine ⟨by rw [← HN.out]; exact (hbox2.alloc _).alloc _, fun k hk => ?_⟩
    have hb := (hB6.alloc (by omega) o).alloc (by simp; omega) o'
    rw [hb.cell (p := ⟨g, k, none⟩) hg]
    exact HG.out k (by have := HN.out; omega)
  case assign =>
    intro lp x W K hK
    gi_wp2
    exact hK
  case body =>
    rintro lp pre x W hsp ⟨hv, hpb, hz, hbel⟩
    obtain ⟨hk, hx⟩ := bk_last hsp
    have hh := horner_drop p hk
    obtain ⟨a0, a1⟩ := horner_drop_bd (k := pre.length) hp2 HD.out (by omega) HM.out
    obtain ⟨b0, b1⟩ := horner_drop_bd (k := pre.length + 1) hp2 HD.out (by omega) HM.out
    have hd2 : l.getD (l.length - 1 - pre.length) 0 = x.2 := by rw [hx]
    have hlen : (pre ++ [x]).length = pre.length + 1 := by simp
    rw [hd2] at hh
    rw [hh] at b0 b1
    have HH := Lib.hid hh
    have c0 := lies_cell hpb 0
    simp at c0
    have q2 := hv.cell
    have q2f := hv.frozen
    have hx0 : 0 ≤ x.2 ∧ x.2 < p := by
      have := List.all_eq_true.1 HD.out x.2 (by rw [← hd2]; simp [List.getD, show l.length - 1 - pre.length < l.length by omega])
      simp only [digB, inB, Bool.and_eq_true, decide_eq_true_eq] at this
      omega
    obtain ⟨y, hy⟩ : ∃ y, x.2 = y := ⟨_, rfl⟩
    obtain ⟨h, hhe⟩ : ∃ h, horner p (l.drop (l.length - pre.length)) = h := ⟨_, rfl⟩
    rw [hy] at b0 b1 hx0 ⊢
    rw [hhe] at b0 b1 a0 a1 q2
    have hm0 := Int.mul_nonneg a0 (show 0 ≤ p by omega)
    have hw1 : IntKind.i64.wrap (h * p) = h * p := IntWalk.i64_in _ (by omega)
    have hw2 : IntKind.i64.wrap (h * p + y) = h * p + y := IntWalk.i64_in _ (by omega)
    have hv2 := hv.set (.int .i64 (h * p + y))
    have hF : FrD g (B + 1) W (W.setCell ⟨B, 0, none⟩ (.int .i64 (h * p + y))) := fun j hj => Below.heap_setCell _ _ _ _ (by show j ≠ B; rcases hj with rfl | rfl <;> omega)
    have hb2 := hbel.setCell (p := ⟨B, 0, none⟩) (show w.heap.size ≤ B by omega) (.int .i64 (h * p + y))
    have hpb2 := lies_other (i := 0) (v := .int .i64 (h * p + y)) hpb (show B ≠ w.heap.size by omega)
    have hz2 := lies_other (i := 0) (v := .int .i64 (h * p + y)) hz (show B ≠ w.heap.size + 1 by omega)
    have HE := Lib.hid (show horner p (l.drop (l.length - (pre ++ [x]).length)) = h * p + y by rw [hlen, HH.out, hhe, hy])
    clear hsp hx hh hd2 hlen hy hhe
    gi_wp2
    exact ⟨KeepsOthers.setCell _ _ _, hF, by rw [HE.out]; exact hv2, hpb2, hz2, hb2⟩
  case done =>
    rintro D xs W hD rfl ⟨hv, hpb, hz, hbel⟩ hK
    rw [bk_length, Nat.sub_self, List.drop_zero] at hv
    have c0 := lies_cell hpb 0
    simp at c0
    have q2 := hv.cell
    obtain ⟨a0, a1⟩ := horner_drop_bd (k := l.length) hp2 HD.out (Nat.le_refl _) HM.out
    rw [Nat.sub_self, List.drop_zero] at a0 a1
    have HNE := Lib.hid fun w => numEnd_any p place (horner p l) (place + n) w hp2 (by omega) (by omega) (by omega) (by omega) (by omega)
    have hwe : IntKind.i64.wrap (place + (n : Int)) = place + n := IntWalk.i64_in _ (by omega)
    have hl : l ≠ [] := by rintro rfl; have := HN.out; simp at this; omega
    have HQ := Lib.hid (show withQ p place l = (p, numT p place (horner p l) (place + n)) by unfold withQ; rw [if_neg hl, ← HN.out, if_neg H0.out])
    generalize numT p place (horner p l) (place + n) = z at *
    generalize horner p l = r at *
    clear hl
    gi_wp2_with (refine ⟨trivial, ?_⟩; gi_at_call 77; refine (callsIn_wide.2 (HNE.out _)).mono ?_; rintro e w4 ⟨rfl, hb4⟩; obtain ⟨d0, d1, d2, d3⟩ := lies_four (lies_next hz hb4); obtain ⟨df0, df1, df2, df3⟩ := lies_ice (lies_next hz hb4))
    refine ⟨by simp, .inl ⟨_, _, rfl, run_takeDeferred (set4_def ((keeps_belowB hb4).same D _ hK rfl) rfl), ?_⟩⟩
    obtain ⟨z0, z1, z2, z3⟩ := lies_four (lies_leave (x0 := .int .i64 p) (x1 := .int .i64 z.1) (x2 := .int .i64 z.2.1) (x3 := .int .i64 z.2.2) (o' := .deferred none) (lies_next hz hb4) ((keeps_belowB hb4).same D _ hK rfl) rfl)
    refine ⟨.agg (P4 p z.1 z.2.1 z.2.2), by simp [results, Tryz.results56, go_sem, z0, z1, z2, z3], ?_⟩
    rw [HQ.out]
    exact ⟨rfl, below_putB (below_set4 (hbel.trans (hb4.mono hbel.size)) (by omega)) (by omega)⟩
  case stop => intro _ _ _ _ _ h; exact h.elim
theorem areDigits_any {base : Nat} {w : World} {v : Value} {l : List Int} (p : Int) (hp : 2 ≤ p) (hp97 : p ≤ 97) (h : IntRow base w v l) (hl : l.length ≤ 1100000) :
    Calls Tryz.prog 55 #[.int .i64 p, v] w fun e w' => e = .returned (.bool (l.all (digB p))) ∧ w = w' := by
  rcases row_shape h with ⟨h0, o, c, rfl⟩ | ⟨h0, g, c, rfl, hb, hg⟩
  · obtain rfl : l = [] := List.length_eq_zero_iff.1 h0
    exact areDigits_nil p o c w
  · exact areDigits_row p g l.length c l w hp hp97 rfl hl (int_cells h)
theorem withDigits_any {base : Nat} {w : World} {v : Value} {l : List Int} (p place : Int) (hs : smallB p = true) (hd : l.all (digB p) = true) (h60 : -60 ≤ place) (h61 : place ≤ 60) (h : IntRow base w v l) (hl : l.length ≤ 1100000) :
    Calls Tryz.prog 56 #[.int .i64 p, .int .i64 place, v] w fun e w' => e = .returned (.agg (A4 (withQ p place l))) ∧ Below w.heap.size w w' := by
  rcases row_shape h with ⟨h0, o, c, rfl⟩ | ⟨h0, g, c, rfl, hb, hg⟩
  · obtain rfl : l = [] := List.length_eq_zero_iff.1 h0
    exact withDigits_nil p place o c w
  · by_cases hr : ringM p l.length = 0
    · exact withDigits_no p place _ l.length c l w rfl h0 hl hr
    · exact withDigits_yes p place g l.length c l w hs hd h60 h61 rfl h0 hl hg (int_cells h) hr
theorem make_num {p v r e : Int} (h0 : 0 ≤ r) (h1 : r < pw p (e - v)) : makeT p v r e = numT p v r e := by
  unfold makeT numT
  rw [Int.emod_eq_of_lt h0 h1, Int.sub_sub]
theorem from_with {p place : Int} {l : List Int} (hs : smallB p = true) (hd : digsB p place l = true) :
    resQ (withQ p place l).1 (withQ p place l).2.1 (withQ p place l).2.2.1 (withQ p place l).2.2.2 = fromQ p place l ∧
    limC (withQ p place l).1 (withQ p place l).2.1 (withQ p place l).2.2.1 (withQ p place l).2.2.2 = fromC p place l := by
  have hp2 := (smallB_bd hs).1
  by_cases hl : l = []
  · subst hl
    have hw : withQ p place [] = (p, place, 0, 0) := rfl
    have hm : makeT p place (horner p []) (place + (([] : List Int).length : Int)) = (place, 0, 0) := by simp [makeT, horner]
    have h1 : pw p (([] : List Int).length : Int) ≤ 1000000000 := by simp [pw]
    unfold fromQ fromC
    rw [hw, hm, hs, hd, if_pos h1]
    simp [pw_zero]
  · have hlen : 1 ≤ (l.length : Int) := by have := List.length_pos_iff.2 hl; omega
    by_cases hr : ringM p l.length = 0
    · have hw : withQ p place l = (0, 0, 0, 0) := by unfold withQ; rw [if_neg hl, if_pos hr]
      have h1 : ¬ pw p (l.length : Int) ≤ 1000000000 := by
        intro h
        have := ringM_pw hs hlen h
        have := pw_ge1 (p := p) (a := (l.length : Int)) hp2
        omega
      have hz : padB 0 0 0 0 = false := by decide
      unfold fromQ fromC
      rw [hw, hs, hd]
      simp [h1, resQ, limC, hz]
    · have hw : withQ p place l = (p, numT p place (horner p l) (place + l.length)) := by unfold withQ; rw [if_neg hl, if_neg hr]
      have e := pw_ringM hr
      obtain ⟨_, _, _, _, _, h1, _⟩ := ringM_bd hr
      rw [e] at h1
      have hd2 : ∀ d ∈ l, 0 ≤ d ∧ d < p := by
        intro d hx
        unfold digsB at hd
        simp only [Bool.and_eq_true, List.all_eq_true] at hd
        have := hd.2 d hx
        simp only [inB, Bool.and_eq_true, decide_eq_true_eq] at this
        omega
      obtain ⟨a, b⟩ := horner_bd hp2 l hd2
      have hm := make_num (p := p) (v := place) (e := place + l.length) a (by rw [show place + (l.length : Int) - place = l.length by omega]; exact b)
      unfold fromQ fromC
      rw [hw, hs, hd, hm]
      simp [h1]
theorem implFrom_any {base : Nat} {w : World} {v : Value} {l : List Int} (p place : Int) (h : IntRow base w v l) (hl : l.length ≤ 1100000) :
    Calls Tryz.prog 26 #[.int .i64 p, .int .i64 place, v] w fun e w' => e = .returned (.tuple #[.agg (A4 (fromQ p place l)), .int .i64 (fromC p place l)]) ∧ Below w.heap.size w w' := by
  cases hs : smallB p
  · rw [show fromQ p place l = (0, 0, 0, 0) by simp [fromQ, hs], show fromC p place l = 1 by simp [fromC, hs]]
    go_enter Tryz.func26, Tryz.ntmps26
    go_wp2_with (go_at_call 33; refine (basePrime_any _ _).mono ?_; rw [hs]; rintro e w' ⟨rfl, rfl⟩)
    refine bodyPost_ret (v := .tuple #[.agg (P4 0 0 0 0), .int .i64 1]) (by simp [results, Tryz.results26, go_sem]) rfl ?_
    exact ⟨rfl, below_a1 _ _⟩
  · obtain ⟨hp2, hp97⟩ := smallB_bd hs
    cases hk : inB place (-60) 60
    · rw [show fromQ p place l = (0, 0, 0, 0) by simp [fromQ, digsB, hk], show fromC p place l = 2 by simp [fromC, hs, digsB, hk]]
      go_enter Tryz.func26, Tryz.ntmps26
      go_wp2_with (first | (go_at_call 33; refine (basePrime_any _ _).mono ?_; rw [hs]; rintro e w' ⟨rfl, rfl⟩) | (go_at_call 34; refine (isPlace_any _ _).mono ?_; rw [hk]; rintro e wn ⟨rfl, rfl⟩))
      refine bodyPost_ret (v := .tuple #[.agg (P4 0 0 0 0), .int .i64 2]) (by simp [results, Tryz.results26, go_sem]) rfl ?_
      exact ⟨rfl, below_a1 _ _⟩
    · have HA := Lib.hid (areDigits_any p hp2 hp97 (h.alloc (.cells (P4 0 0 0 0) 25)) hl)
      cases hd : l.all (digB p)
      · have hd2 : digsB p place l = false := by unfold digsB; rw [show (l.all fun d => inB d 0 (p - 1)) = l.all (digB p) from rfl, hd, Bool.and_false]
        rw [show fromQ p place l = (0, 0, 0, 0) by simp [fromQ, hd2], show fromC p place l = 2 by simp [fromC, hs, hd2]]
        go_enter Tryz.func26, Tryz.ntmps26
        go_wp2_with (first | (go_at_call 33; refine (basePrime_any _ _).mono ?_; rw [hs]; rintro e w' ⟨rfl, rfl⟩) | (go_at_call 34; refine (isPlace_any _ _).mono ?_; rw [hk]; rintro e wn ⟨rfl, rfl⟩) | (go_at_call 55; refine (HA.out).mono ?_; rw [hd]; rintro e wn ⟨rfl, rfl⟩))
        refine bodyPost_ret (v := .tuple #[.agg (P4 0 0 0 0), .int .i64 2]) (by simp [results, Tryz.results26, go_sem]) rfl ?_
        exact ⟨rfl, below_a1 _ _⟩
      · have hd2 : digsB p place l = true := by unfold digsB; rw [show (l.all fun d => inB d 0 (p - 1)) = l.all (digB p) from rfl, hd, hk]; rfl
        have hk2 : -60 ≤ place ∧ place ≤ 60 := by simpa [inB] using hk
        have HW := Lib.hid (withDigits_any p place hs hd hk2.1 hk2.2 (h.alloc (.cells (P4 0 0 0 0) 25)) hl)
        obtain ⟨f1, f2⟩ := from_with hs hd2
        rw [← f1, ← f2]
        generalize withQ p place l = q at *
        clear f1 f2
        go_enter Tryz.func26, Tryz.ntmps26
        go_wp2_with (first | (go_at_call 33; refine (basePrime_any _ _).mono ?_; rw [hs]; rintro e w' ⟨rfl, rfl⟩) | (go_at_call 34; refine (isPlace_any _ _).mono ?_; rw [hk]; rintro e wn ⟨rfl, rfl⟩) | (go_at_call 55; refine (HA.out).mono ?_; rw [hd]; rintro e wn ⟨rfl, rfl⟩) | (go_at_call 56; refine (HW.out).mono ?_; rintro e wn ⟨rfl, hb⟩; have K := k1_first hb) | (go_at_call 57; refine (asResultQ_any _ _ _ _ _).mono ?_; rintro e wn ⟨rfl, hb⟩; have K := k1_next K hb; obtain ⟨c0, c1, c2, c3⟩ := lies_four K.2; obtain ⟨cf0, cf1, cf2, cf3⟩ := lies_ice K.2))
        refine bodyPost_ret (v := .tuple #[.agg (A4 (resQ q.1 q.2.1 q.2.2.1 q.2.2.2)), .int .i64 (limC q.1 q.2.1 q.2.2.1 q.2.2.2)]) (by simp [results, Tryz.results26, go_sem, c0, c1, c2, c3]) rfl ?_
        exact ⟨rfl, below_set4 K.1 (by omega)⟩
end Go.Proofs.YtejgcamogjgdkaaGreatDoor
