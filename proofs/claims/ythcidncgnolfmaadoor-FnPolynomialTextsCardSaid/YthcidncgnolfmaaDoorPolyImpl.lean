/- Contracts of the walk: chapter 6 in impl: valid polynomials, lists as nine coefficients and back. -/
import Derived.Test.YthcidncgnolfmaaDoorPolyNine
import Derived.Lib.SliceRun
namespace Go.Proofs.YthcidncgnolfmaaDoor
open Go.RowKit
set_option linter.unusedVariables false
set_option maxRecDepth 20000
set_option linter.unusedSimpArgs false
theorem cofB_cases (x : Int) : cofB x = true ∧ -1000000 ≤ x ∧ x ≤ 1000000 ∨ cofB x = false ∧ (x < -1000000 ∨ 1000000 < x) := inB_cases x _ _
def withB (B : Int) (l : List Int) : Bool := l.all fun x => inB x (-B) B
set_option maxHeartbeats 800000 in
theorem within_any (B : Int) (hB0 : 0 ≤ B) (hB1 : B ≤ 1000000) {o : Option Addr} {n c : Nat} {l : List Int} {w : World} (h : Seen w o n c l) :
    Calls Tryd.prog 33 #[.slice o n c, .int .i64 B] w fun e w' => e = .returned (.bool (withB B l)) ∧ w = w' := by
  obtain ⟨hl, hn, hno, hnc, g, h1, h2⟩ := h
  clear hno hnc
  have HO := Lib.hid fun h => (h1 h).1
  have HL := Lib.hid hl
  have HC := Lib.hid h2
  have hneg : IntKind.i64.wrap (-B) = -B := IntWalk.i64_in _ (by omega)
  clear h1 h2 hl
  go_enter Tryd.func33, Tryd.ntmps33
  go_wp2
  go_loop [9] (fun i => ∃ k : Nat, k ≤ n ∧ i = .int .i64 k ∧ (l.take k).all (fun x => inB x (-B) B) = true) (fun i => n - (intOf i).toNat)
  case atStart => exact ⟨0, Nat.zero_le _, rfl, by simp⟩
  case round =>
    obtain ⟨k, hk, rfl, hall⟩ := hrel
    by_cases hlt : k < n
    · have hkl : k < l.length := by have := HL.out; omega
      have hog := HO.out (by omega)
      subst hog
      have a2 := HC.out k hlt
      have HS := Lib.hid (all_take6 (f := fun x => inB x (-B) B) hkl)
      rcases inB_cases (l.getD k 0) (-B) B with ⟨hc, x0, x1⟩ | ⟨hc, x0⟩
      · have HE := Lib.hid (show (l.take (k + 1)).all (fun x => inB x (-B) B) = true by rw [HS.out, hall]; simpa using hc)
        generalize l.getD k 0 = x at *
        have x2 : ¬ x < -B := by omega
        have x3 : ¬ B < x := by omega
        clear hkl hall hc
        go_wp2
        exact ⟨⟨k + 1, by omega, by go_num, HE.out⟩, by simp [intOf]; omega⟩
      · have HP := Lib.hid (show withB B l = false by unfold withB; exact all_false hkl hc)
        generalize l.getD k 0 = x at *
        clear hkl hall hc
        rcases x0 with x0 | x0
        · go_wp2
          go_ret
          rw [HP.out]; exact ⟨rfl, rfl⟩
        · have x1 : ¬ x < -B := by omega
          go_wp2
          go_ret
          rw [HP.out]; exact ⟨rfl, rfl⟩
    · have hkn : k = n := by omega
      rw [hkn, HL.out, List.take_of_length_le (Nat.le_refl _)] at hall
      have HP := Lib.hid (show withB B l = true from hall)
      clear hlt hall
      subst hkn
      go_wp2
      go_ret
      rw [HP.out]; exact ⟨rfl, rfl⟩
theorem polyB_eq (l : List Int) : polyB l = (withB 1000000 l && (decide (l.length ≤ 9) && lastB l)) := rfl
set_option maxHeartbeats 800000 in
theorem implIsPoly_any {o : Option Addr} {n c : Nat} {l : List Int} {w : World} (h : Seen w o n c l) :
    Calls Tryd.prog 20 #[.slice o n c] w fun e w' => e = .returned (.bool (polyB l)) ∧ w = w' := by
  have HS := Lib.hid h
  obtain ⟨hl, hn, hno, hnc, g, h1, h2⟩ := h
  clear hno hnc
  have HO := Lib.hid fun h => (h1 h).1
  have HL := Lib.hid hl
  have HC := Lib.hid h2
  clear h1 h2 hl
  by_cases h9 : n ≤ 9
  · cases hw : withB 1000000 l
    · have HP := Lib.hid (show polyB l = false by rw [polyB_eq, hw, Bool.false_and])
      go_enter Tryd.func20, Tryd.ntmps20
      go_wp2_with fail
      refine (within_any 1000000 (by omega) (by omega) HS.out).mono ?_
      rw [hw]
      rintro e w2 ⟨rfl, rfl⟩
      go_wp2_with fail
      go_ret
      rw [HP.out]; exact ⟨rfl, rfl⟩
    · by_cases h0 : n = 0
      · have HP := Lib.hid (show polyB l = true by rw [polyB_eq, hw]; simp [lastB, ← HL.out, h0])
        subst h0
        go_enter Tryd.func20, Tryd.ntmps20
        go_wp2_with fail
        refine (within_any 1000000 (by omega) (by omega) HS.out).mono ?_
        rw [hw]
        rintro e w2 ⟨rfl, rfl⟩
        go_wp2_with fail
        go_ret
        rw [HP.out]; exact ⟨rfl, rfl⟩
      · have hog := HO.out (by omega)
        subst hog
        have a2 := HC.out (n - 1) (by omega)
        have HP := Lib.hid (show polyB l = !(l.getD (n - 1) 0 == 0) by
          rw [HL.out] at h9 h0 ⊢
          rw [polyB_eq, hw]
          simp only [lastB, Bool.true_and, decide_eq_true h9, decide_eq_false h0, Bool.false_or])
        generalize l.getD (n - 1) 0 = x at *
        have h0' : ((n : Int) == 0) = false := by simp; omega
        have hn1 : (n : Int) - 1 = ((n - 1 : Nat) : Int) := by omega
        go_enter Tryd.func20, Tryd.ntmps20
        go_wp2_with fail
        refine (within_any 1000000 (by omega) (by omega) HS.out).mono ?_
        rw [hw]
        rintro e w2 ⟨rfl, rfl⟩
        go_wp2_with fail
        go_ret
        rw [HP.out]; exact ⟨rfl, rfl⟩
  · have HP := Lib.hid (show polyB l = false by
      have := HL.out
      rw [this] at h9
      simp only [polyB, decide_eq_false h9, Bool.false_and, Bool.and_false])
    go_enter Tryd.func20, Tryd.ntmps20
    go_wp2_with fail
    go_ret
    rw [HP.out]; exact ⟨rfl, rfl⟩
theorem Tryd.infoCo : (Tryd.prog.info? 40).map (·.size) = some 9 := by kernel_rfl
theorem Tryd.infoI1 : (Tryd.prog.info? 2).map (·.size) = some 1 := by kernel_rfl
theorem results_cell_mid {fn : Func} {p : Tmp} {ty : TypeId} (h : fn.results = #[.cell p ty]) (tmps : Array Value) (w : World) (b : Nat) (cs : List Value) (d : TypeDesc)
    (hp : tmps.getD p undef = .pointer (some ⟨b, 0, none⟩)) (hr : w.rangeAt b 0 cs) (hu : Tryd.prog.underlying ty = some d) (hd : d.isRow = true) (hi : (Tryd.prog.info? ty).map (·.size) = some cs.length) :
    (results fn tmps).run Tryd.prog w = .ok (.agg cs.toArray) w := by
  have hp' : tmps[p]?.getD undef = .pointer (some ⟨b, 0, none⟩) := by simpa using hp
  simp [results, h, hp', asAddr, run_loadVar_mid w b 0 ty cs d hr hu hd hi]
theorem wpList_load_nine {ops : Array Oper} {rest : List Oper} {op : Oper} {a : Act} {w : World} {Q : Exit → Act → World → Prop} (hgd : op.guard = none) (x : Operand) (ho : op.op = .load 40 x)
    (b : Nat) (hx : a.eval x = .pointer (some ⟨b, 0, none⟩)) {l : List Int} (hN : Nine w b l) (h : wpList Tryd.prog ops Q rest (a.put op.dst (.agg (arrV l))) w) : wpList Tryd.prog ops Q (op :: rest) a w :=
  wpList_load_mid hgd 40 x ho b 0 hx _ _ (nine_range hN) Tryd.underlying40 rfl (by rw [List.length_map, hN.2.1]; exact Tryd.infoCo) h
theorem wpList_store_nine {ops : Array Oper} {rest : List Oper} {op : Oper} {a : Act} {w : World} {Q : Exit → Act → World → Prop} (hgd : op.guard = none) (x y : Operand) (ho : op.op = .store 40 x y)
    (b : Nat) {l m : List Int} (hx : a.eval x = .pointer (some ⟨b, 0, none⟩)) (hy : a.eval y = .agg (arrV l)) (hl : l.length = 9) (hN : Nine w b m)
    (h : wpList Tryd.prog ops Q rest (a.put op.dst undef) (w.setCells b 0 (l.map (Value.int .i64)))) : wpList Tryd.prog ops Q (op :: rest) a w :=
  wpList_store_mid hgd 40 x y ho b 0 (arrV l) hx hy (by rw [arrV_size, hl]; exact nine_there hN) (by rw [arrV_size, hl]; exact Tryd.infoCo) (arrV_one _) (by rw [arrV_list]; exact h)
theorem tab_nine {f : Nat → Int} : (arrV (tabL 9 f)).size = 9 := by rw [arrV_size, tabL_length]
theorem map_nine {l : List Int} (h : l.length = 9) : (l.map (Value.int .i64)).length = 9 := by rw [List.length_map, h]
/-- two blocks of zeros, and the list copied into the second one -/
theorem copy_coef {o : Option Addr} {n c : Nat} {l : List Int} {w : World} (h : Seen w o n c l) (h9 : n ≤ 9) :
    ∃ W3, (Builtin.copy_ #[24, 24] 3 #[.slice (some ⟨w.heap.size + 1, 0, none⟩) 9 9, .slice o n c]).run Tryd.prog
        ((w.alloc (.cells #[.int .i64 0, .int .i64 0, .int .i64 0, .int .i64 0, .int .i64 0, .int .i64 0, .int .i64 0, .int .i64 0, .int .i64 0] 40)).alloc (.cells #[.int .i64 0, .int .i64 0, .int .i64 0, .int .i64 0, .int .i64 0, .int .i64 0, .int .i64 0, .int .i64 0, .int .i64 0] 40)) = .ok (goInt n) W3 ∧
      Nine W3 (w.heap.size + 1) (padL l) ∧ Nine W3 w.heap.size (tabL 9 fun _ => 0) ∧ Below w.heap.size w W3 := by
  obtain ⟨hl, hn, hno, hnc, g, h1, h2⟩ := h
  rw [zero_nine]
  have b1 : Below w.heap.size w (w.alloc (.cells (arrV (tabL 9 fun _ => 0)) 40)) := (Below.refl _ _).alloc (Nat.le_refl _) _
  have n1 := nine_new w (tabL 9 fun _ => 0) 40 (tabL_length _ _)
  have s1 : (w.alloc (.cells (arrV (tabL 9 fun _ => 0)) 40)).heap.size = w.heap.size + 1 := by simp
  generalize w.alloc (.cells (arrV (tabL 9 fun _ => 0)) 40) = W1 at *
  have b2 : Below W1.heap.size W1 (W1.alloc (.cells (arrV (tabL 9 fun _ => 0)) 40)) := (Below.refl _ _).alloc (Nat.le_refl _) _
  have n2 := nine_new W1 (tabL 9 fun _ => 0) 40 (tabL_length _ _)
  rw [s1] at n2
  have n1' := nine_next n1 b2
  have b3 := b1.trans (b2.mono b1.size)
  generalize W1.alloc (.cells (arrV (tabL 9 fun _ => 0)) 40) = W2 at *
  by_cases h0 : n = 0
  · subst h0
    have e : l = [] := List.eq_nil_of_length_eq_zero hl.symm
    subst e
    exact ⟨W2, run_copy_none W2 _ _ _ 2 _ _ _ _ _ _ Tryd.underlying24 Tryd.infoI1 (by simp), n2, n1', b3⟩
  · obtain ⟨rfl, hg⟩ := h1 (by omega)
    have hc2 : ∀ k, k < n → W2.cell? ⟨g, k, none⟩ = some (.int .i64 (l.getD k 0)) := fun k hk => by rw [b3.cell (p := ⟨g, k, none⟩) hg]; exact h2 k hk
    have hmn : (l.map (Value.int .i64)).length = n := by rw [List.length_map, hl]
    refine ⟨W2.setCells (w.heap.size + 1) 0 (l.map (Value.int .i64)), ?_, ?_, nine_apart n1' (by omega) _ _ n1', below_setCells (w1 := W2) (by omega) _ _ b3⟩
    · have := run_copy_cells (P := Tryd.prog) W2 24 24 3 2 (w.heap.size + 1) 0 9 9 ⟨g, 0, none⟩ n c (l.map (Value.int .i64)) Tryd.underlying24 Tryd.infoI1 (by rw [hmn]; exact (Nat.min_eq_left h9).symm)
        (seen_range hl hc2) (fun j hj => by rw [Nat.zero_add, nine_at n2 (by omega)]; rfl) (fun j hj => by rw [Nat.zero_add]; exact nine_frozen n2 (by omega)) (oneCell_map l)
      rw [this, hmn]
    · have := nine_setCells n2 (m := l) (by omega)
      rwa [pad_append (by omega)] at this
theorem coefOf_any {o : Option Addr} {n c : Nat} {l : List Int} {w : World} (h : Seen w o n c l) (h9 : n ≤ 9) :
    Calls Tryd.prog 21 #[.slice o n c] w fun e w' => e = .returned (.agg (arrV (padL l))) ∧ Below w.heap.size w w' := by
  obtain ⟨W3, hcp, hn2, hn1, hb⟩ := copy_coef h h9
  have HN1 := Lib.hid hn1
  have HN2 := Lib.hid hn2
  have HB := Lib.hid hb
  clear h hn1 hn2 hb
  go_enter Tryd.func21, Tryd.ntmps21
  go_upto_region 3 with fail
  refine wp_region_lit ?_
  refine wpList_load_nine rfl (.tmp 3) rfl (w.heap.size + 1) rfl HN2.out ?_
  refine wpList_store_nine rfl (.tmp 2) (.tmp 7) rfl w.heap.size rfl rfl (padL_length l) HN1.out ?_
  have N4 := Lib.hid (nine_full HN1.out (padL_length l))
  have B4 := Lib.hid (below_setCells (w1 := W3) (Nat.le_refl _) ((padL l).map (Value.int .i64)) 0 HB.out)
  generalize W3.setCells w.heap.size 0 ((padL l).map (Value.int .i64)) = W4 at *
  clear HN1 HN2 HB hcp
  go_wp2
  exact bodyPost_ret (results_cell_mid (p := 2) (ty := 40) rfl _ _ w.heap.size _ _ rfl (nine_range N4.out) Tryd.underlying40 rfl (by rw [map_nine (padL_length l)]; exact Tryd.infoCo)) rfl ⟨rfl, B4.out⟩
theorem clone_any {g n c : Nat} {l : List Int} {w : World} (h : Seen w (some ⟨g, 0, none⟩) n c l) :
    Calls Tryd.prog 56 #[.slice (some ⟨g, 0, none⟩) n c] w (OwnPost l w) := by
  obtain ⟨hl, hn, hno, hnc, g', h1, h2⟩ := h
  obtain ⟨i0, hi, hz0, hz1, hz2⟩ := info_parts Tryd.infoInt64
  have HI := Lib.hid hi
  have HZ0 := Lib.hid hz0
  have HZ1 := Lib.hid hz1
  have HZ2 := Lib.hid hz2
  clear hi hz0 hz1 hz2
  have hrow := intRow_made w
  have hnil : (binOp .eql 24 (.slice (some ⟨g, 0, none⟩) n c) (.slice none 0 0)).run Tryd.prog w = .ok (.bool false) w := Lib.run_eql_slice_nil (P := Tryd.prog) w 24 2 (some ⟨g, 0, none⟩) n c 0 0 Tryd.underlying24
  by_cases h0 : n = 0
  · subst h0
    have e : l = [] := List.eq_nil_of_length_eq_zero hl.symm
    subst e
    have HR := Lib.hid hrow
    have HB := Lib.hid ((Below.refl w.heap.size w).alloc (Nat.le_refl _) (.cells #[] 2))
    clear hno hrow h1 h2 hl
    go_enter Tryd.func56, Tryd.ntmps56
    go_wp2_with (at_builtin; refine wpList_append_fits_any _ rfl (.tmp 5) (.tmp 6) 24 rfl w.heap.size 2 i0 1 Tryd.underlying24 HI.out HZ1.out w.heap.size 0 0 [] rfl HR.out _ 0 c [] rfl rfl (fun h => by cases h) (fun _ _ j u h => by simp at h) (fun u h => by simp at h) (by omega) ?_)
    intro w1 hown hgrow
    have HO := Lib.hid hown
    have HG := Lib.hid (HB.out.grown hgrow (by simp) (fun k hk => by cases hk; exact Nat.le_refl _))
    clear hown hgrow
    go_wp2
    go_ret
    exact ⟨_, rfl, HO.out, HG.out⟩
  · obtain ⟨hgg, hg⟩ := h1 (by omega)
    have hge : g = g' := by injection hgg with e; injection e
    subst hge
    have hnews : ∀ j u, (l.map (Value.int .i64))[j]? = some u → (w.alloc (.cells #[] 2)).cell? ((⟨g, 0, none⟩ : Addr).add j) = some u := by
      intro j u hj
      have hjl : j < n := by
        have := (List.getElem?_eq_some_iff.1 hj).1
        rw [List.length_map] at this; omega
      have e : (⟨g, 0, none⟩ : Addr).add j = ⟨g, j, none⟩ := by simp [Addr.add]; omega
      rw [e, ((Below.refl w.heap.size w).alloc (Nat.le_refl _) (.cells #[] 2)).cell (p := ⟨g, j, none⟩) hg, h2 j hjl]
      have hj2 : j < l.length := by omega
      simp [hj2] at hj
      rw [← hj]; simp [List.getD, hj2]
    have HN := Lib.hid hnews
    have HL := Lib.hid hl
    have HR := Lib.hid hrow
    have HB := Lib.hid ((Below.refl w.heap.size w).alloc (Nat.le_refl _) (.cells #[] 2))
    clear hnews h1 h2 hl hrow hgg
    go_enter Tryd.func56, Tryd.ntmps56
    go_wp2_with (at_builtin; refine wpList_append_own _ rfl (.tmp 5) (.tmp 6) 24 rfl w.heap.size 2 i0 (.int .i64 0) 1 8 Tryd.underlying24 HI.out HZ0.out HZ1.out HZ2.out rfl (by decide) _ _ _ rfl HR.out ⟨g, 0, none⟩ n c (l.map (Value.int .i64)) rfl (by rw [List.length_map, Nat.mul_one]; exact HL.out.symm) HN.out (oneCell_map l) ?c3 ?c4 ?c5 ?_)
    case c3 => unfold maxLen; simp; omega
    case c4 => simp; omega
    case c5 => first | omega | simp
    intro v' w1 hown hgrow _
    have HO : Hid (IntRow w.heap.size w1 v' l) := Lib.hid (by unfold IntRow; rw [← HL.out]; simpa using hown)
    have HG := Lib.hid (HB.out.grown hgrow (by simp) (fun k hk => by cases hk; exact Nat.le_refl _))
    clear hown hgrow
    go_wp2
    go_ret
    exact ⟨_, rfl, HO.out, HG.out⟩
theorem list_any {F : List Int} (h9 : F.length = 9) (w : World) :
    Calls Tryd.prog 45 #[.agg (arrV F)] w (OwnPost (trimL F) w) := by
  have hn := nine_new w F 40 h9
  have hb : Below w.heap.size w (w.alloc (.cells (arrV F) 40)) := (Below.refl _ _).alloc (Nat.le_refl _) _
  have HN := Lib.hid hn
  have HB := Lib.hid hb
  have HL := Lib.hid h9
  clear hn hb h9
  go_enter Tryd.func45, Tryd.ntmps45
  go_upto_region 1 with fail
  generalize w.alloc (.cells (arrV F) 40) = W1 at *
  go_wp2
  go_loop [3] (fun i => ∃ k : Nat, k ≤ 9 ∧ i = .int .i64 k ∧ trimN F k = trimN F 9) (fun i => (intOf i).toNat)
  case atStart => exact ⟨9, Nat.le_refl _, rfl, rfl⟩
  case round =>
    obtain ⟨k, hk, rfl, ht⟩ := hrel
    by_cases h0 : k = 0
    · have HT := Lib.hid (show trimL F = F.take k by unfold trimL; rw [HL.out, ← ht, h0]; rfl)
      have HK := Lib.hid (nine_seen HN.out hk)
      clear ht
      subst h0
      go_wp2_with fail
      refine (clone_any HK.out).mono ?_
      rintro e w' ⟨v, rfl, hr, hb⟩
      go_wp2
      go_ret
      rw [HT.out]
      exact ⟨_, rfl, intRow_lower hr HB.out.size, HB.out.trans (hb.mono HB.out.size)⟩
    · have a2 := nine_at HN.out (k := k - 1) (by omega)
      have HX := Lib.hid (show F.getD (k - 1) 0 = 0 → trimN F (k - 1) = trimN F 9 by intro h; rw [← ht]; rw [show k = k - 1 + 1 by omega]; exact (trimN_zero h).symm)
      have HY := Lib.hid (show F.getD (k - 1) 0 ≠ 0 → trimL F = F.take k by intro h; unfold trimL; rw [HL.out, ← ht]; rw [show k = k - 1 + 1 by omega, trimN_stay h])
      have hk1 : (k : Int) - 1 = ((k - 1 : Nat) : Int) := by omega
      have HK := Lib.hid (nine_seen HN.out hk)
      generalize F.getD (k - 1) 0 = x at *
      clear ht
      by_cases hx : x = 0
      · have HX' := Lib.hid (HX.out hx)
        have hx' : (x == 0) = true := by simp [hx]
        clear hx
        go_wp2
        exact ⟨⟨k - 1, by omega, by go_num, HX'.out⟩, by simp [intOf]; omega⟩
      · have HY' := Lib.hid (HY.out hx)
        have hx' : (x == 0) = false := by simpa using hx
        have hk9 : (k : Int) ≤ 9 := by omega
        have hk00 : (0 : Int) ≤ (k : Int) := by omega
        clear hx HX HY
        go_wp2_with fail
        refine (clone_any HK.out).mono ?_
        rintro e w' ⟨v, rfl, hr, hb⟩
        go_wp2
        go_ret
        rw [HY'.out]
        exact ⟨_, rfl, intRow_lower hr HB.out.size, HB.out.trans (hb.mono HB.out.size)⟩
theorem asResult_any {F : List Int} (h9 : F.length = 9) (w : World) :
    Calls Tryd.prog 29 #[.agg (arrV F)] w (IntPost (resL F) (resC F) w) := by
  have hn := nine_new w F 40 h9
  have hb : Below w.heap.size w (w.alloc (.cells (arrV F) 40)) := (Below.refl _ _).alloc (Nat.le_refl _) _
  have HN := Lib.hid hn
  have HB := Lib.hid hb
  have h9' : (trimL F).length ≤ 1100000 := by rw [trimL_length]; have := trimN_le F F.length; omega
  have HL := Lib.hid h9
  clear hn hb h9
  go_enter Tryd.func29, Tryd.ntmps29
  go_upto_region 1 with fail
  generalize w.alloc (.cells (arrV F) 40) = W1 at *
  refine wp_region_lit ?_
  refine wpList_load_nine rfl (.tmp 1) rfl w.heap.size rfl HN.out ?_
  have HLA := Lib.hid (list_any HL.out W1)
  go_wp2_with fail
  refine HLA.out.mono ?_
  rintro e w2 ⟨v, rfl, hr, hb⟩
  obtain ⟨o2, c2, rfl, HS2⟩ := seen_row hr h9'
  have HB2 := Lib.hid (HB.out.trans (hb.mono HB.out.size))
  have HR := Lib.hid (intRow_lower hr HB.out.size)
  have HSS := Lib.hid HS2
  clear hr hb HS2
  cases hp : polyB (trimL F)
  · obtain ⟨e1, e2⟩ := polyB_trim_none hp
    go_wp2_with (go_at_call 20; refine (implIsPoly_any HSS.out).mono ?_; rw [hp]; rintro e w2 ⟨rfl, rfl⟩)
    go_ret2
    show IntPost _ _ _ _ _
    rw [e1, e2]
    exact ⟨_, rfl, intRow_nil _ _, HB2.out⟩
  · obtain ⟨e1, e2⟩ := polyB_trim_some hp
    go_wp2_with (go_at_call 20; refine (implIsPoly_any HSS.out).mono ?_; rw [hp]; rintro e w2 ⟨rfl, rfl⟩)
    go_ret2
    show IntPost _ _ _ _ _
    rw [e1, e2]
    exact ⟨_, rfl, HR.out, HB2.out⟩
end Go.Proofs.YthcidncgnolfmaaDoor
