/- Contracts of the walk: chapter 6 in impl: valid polynomials, lists as nine coefficients and back. -/
import Derived.Test.YtcennddgbpkclaaDoorPolyNine
import Derived.Test.YtcennddgbpkclaaDoorPolyBase
import Derived.Lib.SliceRun
namespace Go.Proofs.YtcennddgbpkclaaDoor
open Go.RowKit
set_option linter.unusedVariables false
set_option maxRecDepth 20000
set_option linter.unusedSimpArgs false
theorem Tryd.infoCo : (Tryd.prog.info? 40).map (·.size) = some 9 := by kernel_rfl
theorem Tryd.infoI1 : (Tryd.prog.info? 2).map (·.size) = some 1 := by kernel_rfl
theorem results_cell_mid {fn : Func} {p : Tmp} {ty : TypeId} (h : fn.results = #[.cell p ty]) (tmps : Array Value) (w : World) (b : Nat) (cs : List Value) (d : TypeDesc)
    (hp : tmps.getD p undef = .pointer (some ⟨b, 0, none⟩)) (hr : w.rangeAt b 0 cs) (hu : Tryd.prog.underlying ty = some d) (hd : d.isRow = true) (hi : (Tryd.prog.info? ty).map (·.size) = some cs.length) :
    (results fn tmps).run Tryd.prog w = .ok (.agg cs.toArray) w := by
  have hp' : tmps[p]?.getD undef = .pointer (some ⟨b, 0, none⟩) := by simpa using hp
  simp [results, h, hp', asAddr, run_loadVar_mid w b 0 ty cs d hr hu hd hi]
theorem wpList_load_nine {ops : Array Oper} {rest : List Oper} {op : Oper} {a : Act} {w : World} {Q : Exit → Act → World → Prop} (hgd : op.guard = none) (x : Operand) (ho : op.op = .load 40 x)
    (b : Nat) (hx : a.eval x = .pointer (some ⟨b, 0, none⟩)) {l : List Int} (hN : Nine w b l) (h : wpList Tryd.prog ops Q rest (a.put op.dst (.agg (arrV l))) w) : wpList Tryd.prog ops Q (op :: rest) a w :=
  wpList_load_mid hgd 40 x ho b 0 hx _ _ (nine_range hN) Tryd.underlying40 rfl (by rw [List.length_map, hN.2.1]; exact Tryd.infoCo) h
theorem wpList_store_nine {ops : Array Oper} {rest : List Oper} {op : Oper} {a : Act} {w : World} {Q : Exit → Act → World → Prop} (hgd : op.guard = none) (x y : Operand) (ho : op.op = .store 40 x y)
    (b : Nat) {l m : List Int} (hx : a.eval x = .pointer (some ⟨b, 0, none⟩)) (hy : a.eval y = .agg (arrV l)) (hl : l.length = 9) (hN : Nine w b m)
    (h : wpList Tryd.prog ops Q rest (a.put op.dst undef) (w.setCells b 0 (l.map (Value.int .i64)))) : wpList Tryd.prog ops Q (op :: rest) a w :=
  wpList_store_mid hgd 40 x y ho b 0 (arrV l) hx hy (by rw [arrV_size, hl]; exact nine_there hN) (by rw [arrV_size, hl]; exact Tryd.infoCo) (arrV_one _) (by rw [arrV_list]; exact h)
theorem tab_nine {f : Nat → Int} : (arrV (tabL 9 f)).size = 9 := by rw [arrV_size, tabL_length]
theorem map_nine {l : List Int} (h : l.length = 9) : (l.map (Value.int .i64)).length = 9 := by rw [List.length_map, h]
/-- two blocks of zeros, and the list copied into the second one -/
theorem copy_coef {o : Option Addr} {n c : Nat} {l : List Int} {w : World} (h : Seen w o n c l) (h9 : n ≤ 9) :
    ∃ W3, (Builtin.copy_ #[24, 24] 3 #[.slice (some ⟨w.heap.size + 1, 0, none⟩) 9 9, .slice o n c]).run Tryd.prog
        ((w.alloc (.cells #[.int .i64 0, .int .i64 0, .int .i64 0, .int .i64 0, .int .i64 0, .int .i64 0, .int .i64 0, .int .i64 0, .int .i64 0] 40)).alloc (.cells #[.int .i64 0, .int .i64 0, .int .i64 0, .int .i64 0, .int .i64 0, .int .i64 0, .int .i64 0, .int .i64 0, .int .i64 0] 40)) = .ok (goInt n) W3 ∧
      Nine W3 (w.heap.size + 1) (padL l) ∧ Nine W3 w.heap.size (tabL 9 fun _ => 0) ∧ Below w.heap.size w W3 := by
  obtain ⟨hl, hn, hno, hnc, g, h1, h2⟩ := h
  rw [zero_nine]
  have b1 : Below w.heap.size w (w.alloc (.cells (arrV (tabL 9 fun _ => 0)) 40)) := (Below.refl _ _).alloc (Nat.le_refl _) _
  have n1 := nine_new w (tabL 9 fun _ => 0) 40 (tabL_length _ _)
  have s1 : (w.alloc (.cells (arrV (tabL 9 fun _ => 0)) 40)).heap.size = w.heap.size + 1 := by simp
  generalize w.alloc (.cells (arrV (tabL 9 fun _ => 0)) 40) = W1 at *
  have b2 : Below W1.heap.size W1 (W1.alloc (.cells (arrV (tabL 9 fun _ => 0)) 40)) := (Below.refl _ _).alloc (Nat.le_refl _) _
  have n2 := nine_new W1 (tabL 9 fun _ => 0) 40 (tabL_length _ _)
  rw [s1] at n2
  have n1' := nine_next n1 b2
  have b3 := b1.trans (b2.mono b1.size)
  generalize W1.alloc (.cells (arrV (tabL 9 fun _ => 0)) 40) = W2 at *
  by_cases h0 : n = 0
  · subst h0
    have e : l = [] := List.eq_nil_of_length_eq_zero hl.symm
    subst e
    exact ⟨W2, run_copy_none W2 _ _ _ 2 _ _ _ _ _ _ Tryd.underlying24 Tryd.infoI1 (by simp), n2, n1', b3⟩
  · obtain ⟨rfl, hg⟩ := h1 (by omega)
    have hc2 : ∀ k, k < n → W2.cell? ⟨g, k, none⟩ = some (.int .i64 (l.getD k 0)) := fun k hk => by rw [b3.cell (p := ⟨g, k, none⟩) hg]; exact h2 k hk
    have hmn : (l.map (Value.int .i64)).length = n := by rw [List.length_map, hl]
    refine ⟨W2.setCells (w.heap.size + 1) 0 (l.map (Value.int .i64)), ?_, ?_, nine_apart n1' (by omega) _ _ n1', below_setCells (w1 := W2) (by omega) _ _ b3⟩
    · have := run_copy_cells (P := Tryd.prog) W2 24 24 3 2 (w.heap.size + 1) 0 9 9 ⟨g, 0, none⟩ n c (l.map (Value.int .i64)) Tryd.underlying24 Tryd.infoI1 (by rw [hmn]; exact (Nat.min_eq_left h9).symm)
        (seen_range hl hc2) (fun j hj => by rw [Nat.zero_add, nine_at n2 (by omega)]; rfl) (fun j hj => by rw [Nat.zero_add]; exact nine_frozen n2 (by omega)) (oneCell_map l)
      rw [this, hmn]
    · have := nine_setCells n2 (m := l) (by omega)
      rwa [pad_append (by omega)] at this
theorem coefOf_any {o : Option Addr} {n c : Nat} {l : List Int} {w : World} (h : Seen w o n c l) (h9 : n ≤ 9) :
    Calls Tryd.prog 21 #[.slice o n c] w fun e w' => e = .returned (.agg (arrV (padL l))) ∧ Below w.heap.size w w' := by
  obtain ⟨W3, hcp, hn2, hn1, hb⟩ := copy_coef h h9
  have HN1 := Lib.hid hn1
  have HN2 := Lib.hid hn2
  have HB := Lib.hid hb
  clear h hn1 hn2 hb
  go_enter Tryd.func21, Tryd.ntmps21
  go_upto_region 3 with fail
  refine wp_region_lit ?_
  refine wpList_load_nine rfl (.tmp 3) rfl (w.heap.size + 1) rfl HN2.out ?_
  refine wpList_store_nine rfl (.tmp 2) (.tmp 7) rfl w.heap.size rfl rfl (padL_length l) HN1.out ?_
  have N4 := Lib.hid (nine_full HN1.out (padL_length l))
  have B4 := Lib.hid (below_setCells (w1 := W3) (Nat.le_refl _) ((padL l).map (Value.int .i64)) 0 HB.out)
  generalize W3.setCells w.heap.size 0 ((padL l).map (Value.int .i64)) = W4 at *
  clear HN1 HN2 HB hcp
  go_wp2
  exact bodyPost_ret (results_cell_mid (p := 2) (ty := 40) rfl _ _ w.heap.size _ _ rfl (nine_range N4.out) Tryd.underlying40 rfl (by rw [map_nine (padL_length l)]; exact Tryd.infoCo)) rfl ⟨rfl, B4.out⟩
theorem list_any {F : List Int} (h9 : F.length = 9) (w : World) :
    Calls Tryd.prog 46 #[.agg (arrV F)] w (OwnPost (trimL F) w) := by
  have hn := nine_new w F 40 h9
  have hb : Below w.heap.size w (w.alloc (.cells (arrV F) 40)) := (Below.refl _ _).alloc (Nat.le_refl _) _
  have HN := Lib.hid hn
  have HB := Lib.hid hb
  have HL := Lib.hid h9
  have hk : trimN F F.length ≤ 9 := by have := trimN_le F F.length; omega
  have HK := Lib.hid hk
  clear hn hb h9 hk
  go_enter Tryd.func46, Tryd.ntmps46
  go_upto_region 1 with fail
  generalize w.alloc (.cells (arrV F) 40) = W1 at *
  have S9 := Lib.hid (show Seen W1 (some ⟨w.heap.size, 0, none⟩) 9 9 F by
    have h := nine_seen (n := 9) HN.out (Nat.le_refl _)
    rw [List.take_of_length_le (show F.length ≤ 9 by rw [HL.out]; exact Nat.le_refl _)] at h
    exact h)
  have SK := Lib.hid (nine_seen HN.out HK.out)
  go_wp2_with fail
  refine (trimmed_any S9.out).mono ?_
  rintro e w2 ⟨rfl, rfl⟩
  go_wp2_with fail
  refine (clone_any SK.out).mono ?_
  rintro e w' ⟨v, rfl, hr, hb⟩
  have HR := Lib.hid (show IntRow w.heap.size w' v (trimL F) from intRow_lower hr HB.out.size)
  have HB2 := Lib.hid (HB.out.trans (hb.mono HB.out.size))
  clear hr hb
  go_wp2_with fail
  go_ret
  exact ⟨_, rfl, HR.out, HB2.out⟩
theorem asResult_any {F : List Int} (h9 : F.length = 9) (w : World) :
    Calls Tryd.prog 29 #[.agg (arrV F)] w (IntPost (resL F) (resC F) w) := by
  have hn := nine_new w F 40 h9
  have hb : Below w.heap.size w (w.alloc (.cells (arrV F) 40)) := (Below.refl _ _).alloc (Nat.le_refl _) _
  have HN := Lib.hid hn
  have HB := Lib.hid hb
  have h9' : (trimL F).length ≤ 1100000 := by rw [trimL_length]; have := trimN_le F F.length; omega
  have HL := Lib.hid h9
  clear hn hb h9
  go_enter Tryd.func29, Tryd.ntmps29
  go_upto_region 1 with fail
  generalize w.alloc (.cells (arrV F) 40) = W1 at *
  refine wp_region_lit ?_
  refine wpList_load_nine rfl (.tmp 1) rfl w.heap.size rfl HN.out ?_
  have HLA := Lib.hid (list_any HL.out W1)
  go_wp2_with fail
  refine HLA.out.mono ?_
  rintro e w2 ⟨v, rfl, hr, hb⟩
  obtain ⟨o2, c2, rfl, HS2⟩ := seen_row hr h9'
  have HB2 := Lib.hid (HB.out.trans (hb.mono HB.out.size))
  have HR := Lib.hid (intRow_lower hr HB.out.size)
  have HSS := Lib.hid HS2
  clear hr hb HS2
  cases hp : polyB (trimL F)
  · obtain ⟨e1, e2⟩ := polyB_trim_none hp
    go_wp2_with (go_at_call 20; refine (implIsPoly_any HSS.out).mono ?_; rw [hp]; rintro e w2 ⟨rfl, rfl⟩)
    go_ret2
    show IntPost _ _ _ _ _
    rw [e1, e2]
    exact ⟨_, rfl, intRow_nil _ _, HB2.out⟩
  · obtain ⟨e1, e2⟩ := polyB_trim_some hp
    go_wp2_with (go_at_call 20; refine (implIsPoly_any HSS.out).mono ?_; rw [hp]; rintro e w2 ⟨rfl, rfl⟩)
    go_ret2
    show IntPost _ _ _ _ _
    rw [e1, e2]
    exact ⟨_, rfl, HR.out, HB2.out⟩
end Go.Proofs.YtcennddgbpkclaaDoor
