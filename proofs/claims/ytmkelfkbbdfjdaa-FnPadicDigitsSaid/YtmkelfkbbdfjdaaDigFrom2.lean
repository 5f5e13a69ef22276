/- Contracts of the walk: impl.FromDigits answers the number with these digits, or the code. -/
import Derived.Test.YtmkelfkbbdfjdaaDigFrom
namespace Go.Proofs.Ytmkelfkbbdfjdaa
open Go.RowKit Go.Shelf
attribute [local go_sem] Oper.semAt_some
set_option linter.unusedVariables false
set_option maxRecDepth 20000
set_option linter.unusedSimpArgs false
/-- the number that withDigits answers -/
def withQ (p place : Int) (l : List Int) : Q4 := if l = [] then (p, place, 0, 0) else if ringM p l.length = 0 then (0, 0, 0, 0) else (p, numT p place (horner p l) (place + l.length))
theorem withDigits_nil (p place : Int) (o : Option Addr) (c : Nat) (w : World) :
    Calls Try.prog 36 #[.int .i64 p, .int .i64 place, .slice o 0 c] w fun e w' => e = .returned (.agg (A4 (withQ p place []))) ∧ Below w.heap.size w w' := by
  rw [show withQ p place [] = (p, place, 0, 0) from rfl]
  go_enter Try.func36, Try.ntmps36
  go_wp2_with (first | (go_at_call 58; refine (zeroAt_any _ _ _).mono ?_; rintro e5 w5 ⟨rfl, hb⟩; have K := k1_first hb; obtain ⟨d0, d1, d2, d3⟩ := lies_four K.2; obtain ⟨df0, df1, df2, df3⟩ := lies_ice K.2))
  refine bodyPost_ret (v := .agg (P4 p place 0 0)) (by simp [results, Try.results36, go_sem, d0, d1, d2, d3]) rfl ?_
  exact ⟨rfl, below_set4 K.1 (by omega)⟩
theorem withDigits_no (p place : Int) (o : Option Addr) (n c : Nat) (l : List Int) (w : World) (hn : n = l.length) (hn0 : 0 < n) (hn1 : n ≤ 1100000) (h0 : ringM p n = 0) :
    Calls Try.prog 36 #[.int .i64 p, .int .i64 place, .slice o n c] w fun e w' => e = .returned (.agg (A4 (withQ p place l))) ∧ Below w.heap.size w w' := by
  have hl : l ≠ [] := by rintro rfl; simp at hn; omega
  rw [show withQ p place l = (0, 0, 0, 0) by unfold withQ; rw [if_neg hl, ← hn, if_pos h0]]
  have HC := Lib.hid (show ringC p n = 1 by simp [ringC, h0])
  clear h0 hn hl
  go_enter Try.func36, Try.ntmps36
  go_wp2_with (first | (go_at_call 52; refine (checkNil_any _ _ _).mono ?_; rw [HC.out]; rintro e5 w5 ⟨rfl, hb⟩; have K := k1_first hb; obtain ⟨d0, d1, d2, d3⟩ := lies_four K.2; obtain ⟨df0, df1, df2, df3⟩ := lies_ice K.2))
  refine bodyPost_ret (v := .agg (P4 0 0 0 0)) (by simp [results, Try.results36, go_sem, d0, d1, d2, d3]) rfl ?_
  exact ⟨rfl, below_set4 K.1 (by omega)⟩
theorem lies_putB {W : World} {b k : Nat} {x : Value} {vs : List Value} {o o' : Obj} (h : Lies W b (x :: vs).toArray) (hk : W.heap[k]? = some o) (ho : o.isCells = false) : Lies (W.putObj k o') b (x :: vs).toArray := by
  have hne : b ≠ k := by
    rintro rfl
    have := lies_cell h 0
    simp [World.cell?, hk] at this
    cases o <;> simp_all [Obj.isCells]
  exact lies_block h (by have := h.1; simp [World.putObj]; exact this) (World.putObj_heap_other hne)
theorem set4_def {w4 : World} {b D : Nat} {x0 x1 x2 x3 : Value} {o : Obj} (hk : w4.heap[D]? = some o) (ho : o.isCells = false) :
    ((((w4.setCell ⟨b, 0, none⟩ x0).setCell ⟨b, 1, none⟩ x1).setCell ⟨b, 2, none⟩ x2).setCell ⟨b, 3, none⟩ x3).heap[D]? = some o :=
  ((((KeepsOthers.setCell _ _ _).trans (KeepsOthers.setCell _ _ _)).trans (KeepsOthers.setCell _ _ _)).trans (KeepsOthers.setCell _ _ _)).same D _ hk ho
theorem lies_leave {w4 : World} {b D : Nat} {x0 x1 x2 x3 y0 y1 y2 y3 : Value} {o o' : Obj} (h : Lies w4 b #[y0, y1, y2, y3]) (hk : w4.heap[D]? = some o) (ho : o.isCells = false) :
    Lies (((((w4.setCell ⟨b, 0, none⟩ x0).setCell ⟨b, 1, none⟩ x1).setCell ⟨b, 2, none⟩ x2).setCell ⟨b, 3, none⟩ x3).putObj D o') b #[x0, x1, x2, x3] :=
  lies_putB (lies_set4 h) (set4_def hk ho) ho
theorem bk_last {l : List Int} {pre : List (Nat × Int)} {x : Nat × Int} (h : ∃ j, j ≤ l.length ∧ pre ++ [x] = bk l j) :
    pre.length < l.length ∧ x = (l.length - 1 - pre.length, l.getD (l.length - 1 - pre.length) 0) := by
  obtain ⟨j, hj, e⟩ := h
  have hl := congrArg List.length e
  rw [bk_length, List.length_append, List.length_singleton] at hl
  subst hl
  rw [bk_succ] at e
  have := (List.append_inj' e rfl).2
  exact ⟨by omega, by simpa using this⟩
theorem horner_drop (p : Int) {l : List Int} {k : Nat} (hk : k < l.length) : horner p (l.drop (l.length - (k + 1))) = horner p (l.drop (l.length - k)) * p + l.getD (l.length - 1 - k) 0 := by
  have h : l.length - (k + 1) < l.length := by omega
  rw [List.drop_eq_getElem_cons h, horner_cons, show l.length - (k + 1) + 1 = l.length - k by omega, Int.mul_comm]
  congr 1
  simp [List.getD, show l.length - 1 - k = l.length - (k + 1) by omega, h]
theorem horner_drop_bd {p : Int} {l : List Int} {k : Nat} (hp2 : 2 ≤ p) (hd : l.all (digB p) = true) (hk : k ≤ l.length) (hm : pw p l.length ≤ 1000000000) :
    0 ≤ horner p (l.drop (l.length - k)) ∧ horner p (l.drop (l.length - k)) ≤ 1000000000 := by
  rw [List.all_eq_true] at hd
  obtain ⟨a, b⟩ := horner_bd hp2 (l.drop (l.length - k)) fun d hx => by
    have := hd d (List.mem_of_mem_drop hx)
    simp only [digB, inB, Bool.and_eq_true, decide_eq_true_eq] at this
    omega
  rw [List.length_drop] at b
  have := pw_mono (p := p) (a := ((l.length - (l.length - k) : Nat) : Int)) (b := (l.length : Int)) hp2 (by omega)
  exact ⟨a, by omega⟩
theorem below_aD (w : World) (o : Obj) : Below w.heap.size w (w.alloc o) := (Below.refl _ _).alloc (Nat.le_refl _) _
theorem boxed_setB {W : World} {j : Nat} {t : TypeId} {v : Value} (h : Boxed W j t v) {a : Addr} (ha : j ≠ a.block) (u : Value) : Boxed (W.setCell a u) j t v := (Below.heap_setCell _ _ _ _ ha).trans h
theorem horner_dropD (p : Int) (l : List Int) (m : Nat) (h : m < l.length) : horner p (l.drop m) = horner p (l.drop (m + 1)) * p + l.getD m 0 := by
  rw [List.drop_eq_getElem_cons h, horner_cons, Int.mul_comm]
  simp [List.getD, h]
/-- in the rounds: the boxes of p and of the sum -/
def WV (w : World) (p : Int) (l : List Int) (pre : List (Nat × Int)) (W : World) : Prop :=
  Boxed W w.heap.size 2 (.int .i64 p) ∧ Boxed W (w.heap.size + 1) 2 (.int .i64 (horner p (l.drop (l.length - pre.length)))) ∧ Below w.heap.size w W
theorem frD_put {g b k : Nat} {A W : World} {o' : Obj} (h : FrD g b A W) (h1 : g < k) (h2 : b < k) : FrD g b A (W.putObj k o') := by
  intro j hj
  refine (World.putObj_heap_other ?_).trans (h j hj)
  rcases hj with rfl | rfl <;> omega
theorem frD_refl {g b : Nat} (A : World) : FrD g b A A := fun _ _ => rfl
theorem frD_trans {g b : Nat} {A B C : World} (h : FrD g b A B) (k : FrD g b B C) : FrD g b A C := fun j hj => (k j hj).trans (h j hj)
set_option maxRecDepth 20000 in
set_option maxHeartbeats 2000000 in
theorem valueD_any (p : Int) (g n c : Nat) (l : List Int) (w : World) (hp2 : 2 ≤ p) (hp97 : p ≤ 97) (hd : l.all (digB p) = true) (hn : n = l.length) (hn1 : n ≤ 1100000) (hg : g < w.heap.size)
    (hc : ∀ k, k < n → w.cell? ⟨g, k, none⟩ = some (.int .i64 (l.getD k 0))) (hm : pw p l.length ≤ 1000000000) :
    Calls Try.prog 60 #[.int .i64 p, .slice (some ⟨g, 0, none⟩) n c] w fun e w' => e = .returned (.int .i64 (horner p l)) ∧ Below w.heap.size w w' := by
  have HC := Lib.hid fun (W : World) (hb : Below w.heap.size w W) (k : Nat) (hk : k < n) => (show W.cell? ⟨g, k, none⟩ = some (.int .i64 (l.getD k 0)) by rw [hb.cell (p := ⟨g, k, none⟩) hg]; exact hc k hk)
  have HL := Lib.hid hn
  have HP := Lib.hid fun (k : Nat) => (show 0 ≤ horner p (l.drop k) ∧ horner p (l.drop k) ≤ 1000000000 by
    rcases Nat.lt_or_ge l.length k with h | h
    · rw [List.drop_eq_nil_of_le (by omega)]; simp [horner]
    · have := horner_drop_bd (k := l.length - k) hp2 hd (by omega) hm
      rw [show l.length - (l.length - k) = k by omega] at this
      exact this)
  have HD := Lib.hid fun (i : Nat) (hi : i < l.length) => (show 0 ≤ l.getD i 0 ∧ l.getD i 0 < p by
    have := List.all_eq_true.1 hd (l.getD i 0) (by simp [List.getD, hi])
    simp only [digB, inB, Bool.and_eq_true, decide_eq_true_eq] at this
    omega)
  clear hc hd hm hn
  refine (callsIn_wide (n := 4)).1 ?_
  refine callsIn_of_wp_marks Try.func60 rfl trivial ?_ rfl
  simp only [Try.ntmps60, List.size_toArray, List.length_cons, List.length_nil, Nat.reduceAdd, Nat.reduceSub, Array.replicate_succ, Array.replicate_zero, List.push_toArray, List.append_toArray, List.nil_append, List.cons_append]
  refine wpIn_wide.2 ?_
  have hb1 := Boxed.new w 2 (.int .i64 p)
  have hb1' := hb1.alloc (.cells #[.int .i64 0] 2)
  have hb2 := Boxed.new (w.alloc (.cells #[.int .i64 p] 2)) 2 (.int .i64 0)
  have hbe := (below_aD w (.cells #[.int .i64 p] 2)).alloc (by simp) (.cells #[.int .i64 0] 2)
  rw [World.size_alloc] at hb2
  have HB1 := Lib.hid hb1'
  have HB2 := Lib.hid hb2
  have HBE := Lib.hid hbe
  clear hb1 hb1' hb2 hbe
  go_wp2_with fail
  refine (backward_made _ _ _ _).mono ?_
  rintro e W8 ⟨rfl, rfl⟩
  go_wp2_with fail
  have HBK := Lib.hid (Boxed.new ((w.alloc (.cells #[.int .i64 p] 2)).alloc (.cells #[.int .i64 0] 2)) 27 (.slice (some ⟨g, 0, none⟩) n c))
  have HX1 := Lib.hid (boxed_belowB HB1.out (below_aD _ (.cells #[.slice (some ⟨g, 0, none⟩) n c] 27)))
  have HX2 := Lib.hid (boxed_belowB HB2.out (below_aD _ (.cells #[.slice (some ⟨g, 0, none⟩) n c] 27)))
  have HXE := Lib.hid (HBE.out.alloc (by simp; omega) (.cells #[.slice (some ⟨g, 0, none⟩) n c] 27))
  generalize ((w.alloc (.cells #[.int .i64 p] 2)).alloc (.cells #[.int .i64 0] 2)).alloc (.cells #[.slice (some ⟨g, 0, none⟩) n c] 27) = W9 at *
  refine (wpIn_wide (n := 4)).1 ?_
  have hsz := HXE.out.size
  have hbk := HBK.out
  rw [World.size_alloc, World.size_alloc] at hbk
  have hbkl := hbk.lt
  refine wpIn_rangeBb (F := Fence.wide) (n := 4) (P := Try.prog) (w := W9) rfl (by omega) (gf := 76) (ba := #[]) (lb := #[.pointer (some ⟨w.heap.size + 1 + 1, 0, none⟩)]) rfl trivial (enters_of Try.func76 (by kernel_rfl) rfl)
    (backward_by 3 (by omega) g (w.heap.size + 1 + 1) c l (by have := HL.out; omega)) (fun _ => rfl)
    (WV w p l) (fun _ _ => False)
    (fun y => { tmps := #[.int .i64 p, .slice (some ⟨g, 0, none⟩) n c, .pointer (some ⟨w.heap.size, 0, none⟩), undef, .int .i64 0, .pointer (some ⟨w.heap.size + 1, 0, none⟩), undef, .int .i64 y.2, .slice (some ⟨g, 0, none⟩) n c, .func (.func 76) #[] #[.pointer (some ⟨w.heap.size + 1 + 1, 0, none⟩)], .int .i64 y.1, .int .i64 y.2, undef, undef, undef, undef, undef, undef], defers := [] })
    ?ip ?xp ?fp ?fq ?ft ?is ?xs ?sk ?h0 ?s0 ?assign ?body ?done ?stop
  case ip => intro pre W k u u' h hk hu hc; exact ⟨boxed_putB h.1 hu hc, boxed_putB h.2.1 hu hc, below_putB h.2.2 (by omega)⟩
  case xp => intro _ _ _ _ _ h; exact h.elim
  case fp => intro A W k u u' hf hk hu hc; exact frD_put hf (by omega) (by omega)
  case fq => intro W k u u' hk hu hc; exact frD_put (fun _ _ => rfl) (by omega) (by omega)
  case ft => intro A B C h k; exact frD_trans h k
  case is => intro pre A B h hs; exact ⟨boxed_belowB h.1 hs, boxed_belowB h.2.1 hs, h.2.2.trans (hs.mono h.2.2.size)⟩
  case xs => intro _ _ _ h; exact h.elim
  case sk => intro A B k u hs hk hu hc; exact (hs.block k (Array.getElem?_eq_some_iff.1 hu).1).trans hu
  case h0 =>
    intro oo oo'
    have hbb : Below W9.heap.size W9 ((W9.alloc oo).alloc oo') := (below_aD W9 oo).alloc (by simp) oo'
    refine ⟨boxed_belowB HX1.out hbb, ?_, HXE.out.trans (hbb.mono hsz)⟩
    have e : horner p (l.drop (l.length - ([] : List (Nat × Int)).length)) = 0 := by simp [horner]
    rw [e]
    exact boxed_belowB HX2.out hbb
  case s0 =>
    intro oo oo'
    have hbb : Below W9.heap.size W9 ((W9.alloc oo).alloc oo') := (below_aD W9 oo).alloc (by simp) oo'
    refine ⟨by rw [← HL.out]; exact boxed_belowB hbk hbb, fun k hk => HC.out _ (HXE.out.trans (hbb.mono hsz)) k (by have := HL.out; omega)⟩
  case assign =>
    intro lp y W K hK
    clear HXE HX2 HX1 HBK HBE HB1 HB2 hbk hsz hbkl
    gi_wp2
    exact hK
  case body =>
    rintro lp pre y W hsp ⟨hx, hv, hb⟩
    have hl := HL.out
    obtain ⟨hk, hy⟩ := bk_last hsp
    obtain ⟨j, hj, hje⟩ := hsp
    have hjl := congrArg List.length hje
    rw [List.length_append, bk_length, List.length_singleton] at hjl
    subst hjl
    rw [bk_succ] at hje
    have hpe := List.append_inj hje (by rw [bk_length])
    have hye : y = (l.length - 1 - pre.length, l.getD (l.length - 1 - pre.length) 0) := by simpa using hpe.2
    obtain ⟨m, hm⟩ : ∃ m, l.length - 1 - pre.length = m := ⟨_, rfl⟩
    rw [hm] at hye
    subst hye
    have hst := horner_dropD p l m (by omega)
    have hd := HD.out m (by omega)
    have hp1 := HP.out (m + 1)
    have hp0 := HP.out m
    rw [show l.length - pre.length = m + 1 by omega] at hv
    have q1 := hx.cell
    have q2 := hv.cell
    have q2f := hv.frozen
    have HM := Lib.hid (show l.length - (pre ++ [(m, l.getD m 0)]).length = m by rw [List.length_append, List.length_singleton]; omega)
    have HI := Lib.hid (And.intro hx (And.intro hv hb))
    have HST := Lib.hid hst
    have hF : ∀ v, FrD g (w.heap.size + 1 + 1) W (W.setCell ⟨w.heap.size + 1, 0, none⟩ v) := fun v j hj => Below.heap_setCell _ _ _ _ (by show j ≠ w.heap.size + 1; rcases hj with rfl | rfl <;> omega)
    have HF := Lib.hid hF
    have HSET := Lib.hid (fun v => And.intro (boxed_setB hx (a := ⟨w.heap.size + 1, 0, none⟩) (by show w.heap.size ≠ w.heap.size + 1; omega) v) (And.intro (hv.set v) (hb.setCell (p := ⟨w.heap.size + 1, 0, none⟩) (show w.heap.size ≤ w.heap.size + 1 by omega) v)))
    rw [hst] at hp0
    clear hx hv hb hst hk hy hje hpe hj hF hm hl
    obtain ⟨x, hxe⟩ : ∃ x, l.getD m 0 = x := ⟨_, rfl⟩
    obtain ⟨q, hqe⟩ : ∃ q, horner p (l.drop (m + 1)) = q := ⟨_, rfl⟩
    rw [hxe, hqe] at HST hp0
    rw [hqe] at hp1 q2
    rw [hxe] at HM hd ⊢
    have hm0 : 0 ≤ q * p := Int.mul_nonneg (by omega) (by omega)
    have hw1 : IntKind.i64.wrap (q * p) = q * p := IntWalk.i64_in _ (by omega)
    have hw2 : IntKind.i64.wrap (q * p + x) = q * p + x := IntWalk.i64_in _ (by omega)
    gi_wp2
    obtain ⟨s1, s2, s3⟩ := HSET.out (.int .i64 (q * p + x))
    exact ⟨KeepsOthers.setCell _ _ _, HF.out _, s1, by rw [HM.out, HST.out]; exact s2, s3⟩
  case done =>
    rintro D xs W hD rfl ⟨hx, hv, hb⟩ hK
    rw [bk_length, Nat.sub_self, List.drop_zero] at hv
    have q2 := hv.cell
    have HB9 := Lib.hid hb
    have HKD := Lib.hid hK
    have hDw : w.heap.size ≤ D := by omega
    obtain ⟨V, hV⟩ : ∃ V, horner p l = V := ⟨_, rfl⟩
    rw [hV] at q2
    have HV := Lib.hid hV
    clear hx hv hb hK HXE HX1 HX2 HBK hbk hV
    go_wp2_with fail
    refine ⟨by simp, .inl ⟨_, _, rfl, run_takeDeferred HKD.out, ?_⟩⟩
    refine ⟨.int .i64 V, by simp [results, Try.results60, go_sem], ?_⟩
    exact ⟨ret_int HV.out.symm, below_putB HB9.out hDw⟩
  case stop => intro _ _ _ _ _ h; exact h.elim
set_option maxRecDepth 20000 in
set_option maxHeartbeats 1600000 in
theorem withDigits_yes (p place : Int) (g n c : Nat) (l : List Int) (w : World) (hs : smallB p = true) (hd : l.all (digB p) = true) (h60 : -60 ≤ place) (h61 : place ≤ 60) (hn : n = l.length) (hn0 : 0 < n) (hn1 : n ≤ 1100000) (hg : g < w.heap.size)
    (hc : ∀ k, k < n → w.cell? ⟨g, k, none⟩ = some (.int .i64 (l.getD k 0))) (h0 : ringM p n ≠ 0) :
    Calls Try.prog 36 #[.int .i64 p, .int .i64 place, .slice (some ⟨g, 0, none⟩) n c] w fun e w' => e = .returned (.agg (A4 (withQ p place l))) ∧ Below w.heap.size w w' := by
  have HC := Lib.hid (show ringC p n = 0 by simp [ringC, h0])
  have hn2 : ((n : Int) == 0) = false := by simp; omega
  have hm := pw_ringM h0
  obtain ⟨hp2, hp97, _, hn29, _, hm2, _⟩ := ringM_bd h0
  rw [hm, hn] at hm2
  have HV := Lib.hid fun (W : World) (hb : Below w.heap.size w W) => valueD_any p g n c l W hp2 hp97 hd hn hn1 (Nat.lt_of_lt_of_le hg hb.size) (fun k hk => by rw [hb.cell (p := ⟨g, k, none⟩) hg]; exact hc k hk) hm2
  obtain ⟨a0, a1⟩ := horner_drop_bd (k := l.length) hp2 hd (Nat.le_refl _) hm2
  rw [Nat.sub_self, List.drop_zero] at a0 a1
  have HNE := Lib.hid fun w => numEnd_any p place (horner p l) (place + n) w hp2 (by omega) (by omega) (by omega) (by omega) (by omega)
  have hwe : IntKind.i64.wrap (place + (n : Int)) = place + n := IntWalk.i64_in _ (by omega)
  have hl : l ≠ [] := by rintro rfl; simp at hn; omega
  have HQ := Lib.hid (show withQ p place l = (p, numT p place (horner p l) (place + n)) by unfold withQ; rw [if_neg hl, ← hn, if_neg h0])
  generalize numT p place (horner p l) (place + n) = z at *
  generalize horner p l = r at *
  clear hl hc hd hm2 hm h0 hn
  go_enter Try.func36, Try.ntmps36
  go_wp2_with (first | (go_at_call 52; refine (checkNil_any _ _ _).mono ?_; rw [HC.out]; rintro e5 w5 ⟨rfl, hb⟩; have K := k1_first hb) | (go_at_call 60; refine (HV.out _ K.1).mono ?_; rintro e6 w6 ⟨rfl, hb⟩; have K := k1_next K hb) | (go_at_call 59; refine (HNE.out _).mono ?_; rintro e7 w7 ⟨rfl, hb⟩; have K := k1_next K hb; obtain ⟨d0, d1, d2, d3⟩ := lies_four K.2; obtain ⟨df0, df1, df2, df3⟩ := lies_ice K.2))
  refine bodyPost_ret (v := .agg (P4 p z.1 z.2.1 z.2.2)) (by simp [results, Try.results36, go_sem, d0, d1, d2, d3]) rfl ?_
  rw [HQ.out]
  exact ⟨rfl, below_set4 K.1 (by omega)⟩
theorem areDigits_any {base : Nat} {w : World} {v : Value} {l : List Int} (p : Int) (hp : 2 ≤ p) (hp97 : p ≤ 97) (h : IntRow base w v l) (hl : l.length ≤ 1100000) :
    Calls Try.prog 35 #[.int .i64 p, v] w fun e w' => e = .returned (.bool (l.all (digB p))) ∧ w = w' := by
  rcases row_shape h with ⟨h0, o, c, rfl⟩ | ⟨h0, g, c, rfl, hb, hg⟩
  · obtain rfl : l = [] := List.length_eq_zero_iff.1 h0
    exact areDigits_nil p o c w
  · exact areDigits_row p g l.length c l w hp hp97 rfl hl (int_cells h)
theorem withDigits_any {base : Nat} {w : World} {v : Value} {l : List Int} (p place : Int) (hs : smallB p = true) (hd : l.all (digB p) = true) (h60 : -60 ≤ place) (h61 : place ≤ 60) (h : IntRow base w v l) (hl : l.length ≤ 1100000) :
    Calls Try.prog 36 #[.int .i64 p, .int .i64 place, v] w fun e w' => e = .returned (.agg (A4 (withQ p place l))) ∧ Below w.heap.size w w' := by
  rcases row_shape h with ⟨h0, o, c, rfl⟩ | ⟨h0, g, c, rfl, hb, hg⟩
  · obtain rfl : l = [] := List.length_eq_zero_iff.1 h0
    exact withDigits_nil p place o c w
  · by_cases hr : ringM p l.length = 0
    · exact withDigits_no p place _ l.length c l w rfl h0 hl hr
    · exact withDigits_yes p place g l.length c l w hs hd h60 h61 rfl h0 hl hg (int_cells h) hr
theorem make_num {p v r e : Int} (h0 : 0 ≤ r) (h1 : r < pw p (e - v)) : makeT p v r e = numT p v r e := by
  unfold makeT numT
  rw [Int.emod_eq_of_lt h0 h1, Int.sub_sub]
theorem from_with {p place : Int} {l : List Int} (hs : smallB p = true) (hd : digsB p place l = true) :
    resQ (withQ p place l).1 (withQ p place l).2.1 (withQ p place l).2.2.1 (withQ p place l).2.2.2 = fromQ p place l ∧
    limC (withQ p place l).1 (withQ p place l).2.1 (withQ p place l).2.2.1 (withQ p place l).2.2.2 = fromC p place l := by
  have hp2 := (smallB_bd hs).1
  by_cases hl : l = []
  · subst hl
    have hw : withQ p place [] = (p, place, 0, 0) := rfl
    have hm : makeT p place (horner p []) (place + (([] : List Int).length : Int)) = (place, 0, 0) := by simp [makeT, horner]
    have h1 : pw p (([] : List Int).length : Int) ≤ 1000000000 := by simp [pw]
    unfold fromQ fromC
    rw [hw, hm, hs, hd, if_pos h1]
    simp [pw_zero]
  · have hlen : 1 ≤ (l.length : Int) := by have := List.length_pos_iff.2 hl; omega
    by_cases hr : ringM p l.length = 0
    · have hw : withQ p place l = (0, 0, 0, 0) := by unfold withQ; rw [if_neg hl, if_pos hr]
      have h1 : ¬ pw p (l.length : Int) ≤ 1000000000 := by
        intro h
        have := ringM_pw hs hlen h
        have := pw_ge1 (p := p) (a := (l.length : Int)) hp2
        omega
      have hz : padB 0 0 0 0 = false := by decide
      unfold fromQ fromC
      rw [hw, hs, hd]
      simp [h1, resQ, limC, hz]
    · have hw : withQ p place l = (p, numT p place (horner p l) (place + l.length)) := by unfold withQ; rw [if_neg hl, if_neg hr]
      have e := pw_ringM hr
      obtain ⟨_, _, _, _, _, h1, _⟩ := ringM_bd hr
      rw [e] at h1
      have hd2 : ∀ d ∈ l, 0 ≤ d ∧ d < p := by
        intro d hx
        unfold digsB at hd
        simp only [Bool.and_eq_true, List.all_eq_true] at hd
        have := hd.2 d hx
        simp only [inB, Bool.and_eq_true, decide_eq_true_eq] at this
        omega
      obtain ⟨a, b⟩ := horner_bd hp2 l hd2
      have hm := make_num (p := p) (v := place) (e := place + l.length) a (by rw [show place + (l.length : Int) - place = l.length by omega]; exact b)
      unfold fromQ fromC
      rw [hw, hs, hd, hm]
      simp [h1]
theorem implFrom_any {base : Nat} {w : World} {v : Value} {l : List Int} (p place : Int) (h : IntRow base w v l) (hl : l.length ≤ 1100000) :
    Calls Try.prog 10 #[.int .i64 p, .int .i64 place, v] w fun e w' => e = .returned (.tuple #[.agg (A4 (fromQ p place l)), .int .i64 (fromC p place l)]) ∧ Below w.heap.size w w' := by
  cases hs : smallB p
  · rw [show fromQ p place l = (0, 0, 0, 0) by simp [fromQ, hs], show fromC p place l = 1 by simp [fromC, hs]]
    go_enter Try.func10, Try.ntmps10
    go_wp2_with (go_at_call 33; refine (basePrime_any _ _).mono ?_; rw [hs]; rintro e w' ⟨rfl, rfl⟩)
    refine bodyPost_ret (v := .tuple #[.agg (P4 0 0 0 0), .int .i64 1]) (by simp [results, Try.results10, go_sem]) rfl ?_
    exact ⟨rfl, below_a1 _ _⟩
  · obtain ⟨hp2, hp97⟩ := smallB_bd hs
    cases hk : inB place (-60) 60
    · rw [show fromQ p place l = (0, 0, 0, 0) by simp [fromQ, digsB, hk], show fromC p place l = 2 by simp [fromC, hs, digsB, hk]]
      go_enter Try.func10, Try.ntmps10
      go_wp2_with (first | (go_at_call 33; refine (basePrime_any _ _).mono ?_; rw [hs]; rintro e w' ⟨rfl, rfl⟩) | (go_at_call 34; refine (isPlace_any _ _).mono ?_; rw [hk]; rintro e wn ⟨rfl, rfl⟩))
      refine bodyPost_ret (v := .tuple #[.agg (P4 0 0 0 0), .int .i64 2]) (by simp [results, Try.results10, go_sem]) rfl ?_
      exact ⟨rfl, below_a1 _ _⟩
    · have HA := Lib.hid (areDigits_any p hp2 hp97 (h.alloc (.cells (P4 0 0 0 0) 25)) hl)
      cases hd : l.all (digB p)
      · have hd2 : digsB p place l = false := by unfold digsB; rw [show (l.all fun d => inB d 0 (p - 1)) = l.all (digB p) from rfl, hd, Bool.and_false]
        rw [show fromQ p place l = (0, 0, 0, 0) by simp [fromQ, hd2], show fromC p place l = 2 by simp [fromC, hs, hd2]]
        go_enter Try.func10, Try.ntmps10
        go_wp2_with (first | (go_at_call 33; refine (basePrime_any _ _).mono ?_; rw [hs]; rintro e w' ⟨rfl, rfl⟩) | (go_at_call 34; refine (isPlace_any _ _).mono ?_; rw [hk]; rintro e wn ⟨rfl, rfl⟩) | (go_at_call 35; refine (HA.out).mono ?_; rw [hd]; rintro e wn ⟨rfl, rfl⟩))
        refine bodyPost_ret (v := .tuple #[.agg (P4 0 0 0 0), .int .i64 2]) (by simp [results, Try.results10, go_sem]) rfl ?_
        exact ⟨rfl, below_a1 _ _⟩
      · have hd2 : digsB p place l = true := by unfold digsB; rw [show (l.all fun d => inB d 0 (p - 1)) = l.all (digB p) from rfl, hd, hk]; rfl
        have hk2 : -60 ≤ place ∧ place ≤ 60 := by simpa [inB] using hk
        have HW := Lib.hid (withDigits_any p place hs hd hk2.1 hk2.2 (h.alloc (.cells (P4 0 0 0 0) 25)) hl)
        obtain ⟨f1, f2⟩ := from_with hs hd2
        rw [← f1, ← f2]
        generalize withQ p place l = q at *
        clear f1 f2
        go_enter Try.func10, Try.ntmps10
        go_wp2_with (first | (go_at_call 33; refine (basePrime_any _ _).mono ?_; rw [hs]; rintro e w' ⟨rfl, rfl⟩) | (go_at_call 34; refine (isPlace_any _ _).mono ?_; rw [hk]; rintro e wn ⟨rfl, rfl⟩) | (go_at_call 35; refine (HA.out).mono ?_; rw [hd]; rintro e wn ⟨rfl, rfl⟩) | (go_at_call 36; refine (HW.out).mono ?_; rintro e wn ⟨rfl, hb⟩; have K := k1_first hb) | (go_at_call 37; refine (asResultQ_any _ _ _ _ _).mono ?_; rintro e wn ⟨rfl, hb⟩; have K := k1_next K hb; obtain ⟨c0, c1, c2, c3⟩ := lies_four K.2; obtain ⟨cf0, cf1, cf2, cf3⟩ := lies_ice K.2))
        refine bodyPost_ret (v := .tuple #[.agg (A4 (resQ q.1 q.2.1 q.2.2.1 q.2.2.2)), .int .i64 (limC q.1 q.2.1 q.2.2.1 q.2.2.2)]) (by simp [results, Try.results10, go_sem, c0, c1, c2, c3]) rfl ?_
        exact ⟨rfl, below_set4 K.1 (by omega)⟩
end Go.Proofs.Ytmkelfkbbdfjdaa
