/- Contracts of the walk: chapter 7 in impl: rows moved, put together: Sylvester's matrix. -/
import Derived.Test.YtbolmmgkmgmfeaaMatSpec
import Derived.Test.YtbolmmgkmgmfeaaRevLay
import Derived.Test.YtbolmmgkmgmfeaaGrowLay
import Derived.Laws.IdiomCopy
namespace Go.Proofs.Ytbolmmgkmgmfeaa
open Go.RowKit
set_option linter.unusedVariables false
set_option linter.unusedSimpArgs false
set_option maxRecDepth 20000
/-- a part of a list replaced -/
def setsL (l : List Int) (k : Nat) : List Int → List Int
  | [] => l
  | x :: m => setsL (l.set k x) (k + 1) m
theorem setsL_length : ∀ (m : List Int) (l : List Int) (k : Nat), (setsL l k m).length = l.length
  | [], _, _ => rfl
  | x :: m, l, k => by rw [setsL, setsL_length m, List.length_set]
theorem setsL_getD : ∀ (m : List Int) (l : List Int) (k c : Nat), k + m.length ≤ l.length → (setsL l k m).getD c 0 = if k ≤ c ∧ c < k + m.length then m.getD (c - k) 0 else l.getD c 0
  | [], l, k, c, _ => by rw [setsL, if_neg (by simp)]
  | x :: m, l, k, c, h => by
    rw [List.length_cons] at h
    rw [setsL, setsL_getD m (l.set k x) (k + 1) c (by rw [List.length_set]; omega), List.length_cons]
    by_cases e : c = k
    · subst e
      rw [if_neg (by omega), if_pos (by omega), Nat.sub_self]
      simp [List.getD, show c < l.length by omega]
    · by_cases h2 : k + 1 ≤ c ∧ c < k + 1 + m.length
      · rw [if_pos h2, if_pos (by omega), show c - k = (c - (k + 1)) + 1 by omega]; simp [List.getD]
      · rw [if_neg h2, if_neg (by omega)]
        simp [List.getD, List.getElem?_set_ne (Ne.symm e)]
theorem int_sets {b g n c : Nat} : ∀ (m : List Int) (k : Nat) (w : World) (l : List Int), IntRow b w (.slice (some ⟨g, 0, none⟩) n c) l → l.length = n →
    IntRow b (w.setCells g k (m.map (Value.int .i64))) (.slice (some ⟨g, 0, none⟩) n c) (setsL l k m) ∧ w.grownBy (w.setCells g k (m.map (Value.int .i64))) (some g)
  | [], k, w, l, h, _ => ⟨h, World.grownBy.refl _ _⟩
  | x :: m, k, w, l, h, hl => by
    have h1 := int_stored h hl k x
    have h2 := int_sets m (k + 1) _ _ h1 (by rw [List.length_set]; exact hl)
    exact ⟨h2.1, grownBy_tr (own_grown h hl (.int .i64 x)) h2.2⟩
theorem below_sets {w0 w : World} {g : Nat} (hg : w0.heap.size ≤ g) (vs : List Value) (k : Nat) (h : Below w0.heap.size w0 w) : Below w0.heap.size w0 (w.setCells g k vs) := below_setCells (w := w0) (w1 := w0) hg vs k h
theorem row_made {f : List Int} {N k : Nat} (hf : 1 ≤ f.length) (h : k + f.length ≤ N) : setsL (setsL (tabL N fun _ => 0) k f) k f.reverse = rowLn f N k := by
  unfold rowLn rowS
  refine ext_getD (by rw [setsL_length, setsL_length, tabL_length, tabL_length]) fun c hc => ?_
  rw [setsL_length, setsL_length, tabL_length] at hc
  rw [setsL_getD _ _ _ _ (by rw [setsL_length, tabL_length, List.length_reverse]; exact h), setsL_getD _ _ _ _ (by rw [tabL_length]; exact h), tabL_getD hc, tabL_getD hc, List.length_reverse]
  by_cases e : k ≤ c ∧ c < k + f.length
  · rw [if_pos e, if_pos (by omega)]
    unfold fnL
    simp [List.getD, List.getElem?_reverse (show c - k < f.length by omega), show f.length - 1 - (c - k) < f.length by omega]
  · rw [if_neg e, if_neg e, if_neg (by omega)]
/-- the outer row of a matrix half made -/
structure PartM (base : Nat) (w : World) (b N count : Nat) (G : List Nat) (M : List (List Int)) : Prop where
  len : G.length = M.length
  width : ∀ i, i < M.length → (lineAt M i).length = N
  row : ∀ i, i < M.length → IntRow base w (rowV N (G.getD i 0)) (lineAt M i)
  apart : ∀ i j, i < M.length → j < M.length → i ≠ j → G.getD i 0 ≠ G.getD j 0
  out : w.ownsRow base 37 1 (.slice (some ⟨b, 0, none⟩) count count) count (G.map (rowV N) ++ List.replicate (count - G.length) (.slice none 0 0))
theorem partM_ne {base : Nat} {w : World} {b N count : Nat} {G : List Nat} {M : List (List Int)} (h : PartM base w b N count G M) {i : Nat} (hi : i < M.length) : b ≠ G.getD i 0 := by
  intro e
  obtain ⟨c, fz, h1⟩ := Go.Lib.ownsRow_kind h.out b rfl
  obtain ⟨c', fz', h2⟩ := Go.Lib.ownsRow_kind (h.row i hi) (G.getD i 0) rfl
  rw [e, h2] at h1
  injection h1 with h1
  injection h1 with _ h3 _
  exact absurd h3 (by decide)
theorem partM_kept {base : Nat} {w w' : World} {b N count : Nat} {G : List Nat} {M : List (List Int)} {row : Option Nat} (h : PartM base w b N count G M) (hg : w.grownBy w' row)
    (h1 : some b ≠ row) (h2 : ∀ i, i < M.length → some (G.getD i 0) ≠ row) : PartM base w' b N count G M :=
  ⟨h.len, h.width, fun i hi => World.ownsRow.kept (h.row i hi) hg (.inr (h2 i hi)), h.apart, World.ownsRow.kept h.out hg (.inr h1)⟩
theorem partM_none {base : Nat} {w w' : World} {b N count : Nat} {G : List Nat} {M : List (List Int)} (h : PartM base w b N count G M) (hg : w.grownBy w' none) : PartM base w' b N count G M :=
  partM_kept h hg (by simp) (fun i hi => by simp)
theorem partM_drew {base : Nat} {w : World} {b N count : Nat} {G : List Nat} {M : List (List Int)} (h : PartM base w b N count G M) (q : Nat) : PartM base (w.drewN q) b N count G M :=
  ⟨h.len, h.width, fun i hi => h.row i hi, h.apart, h.out⟩
theorem set_part {G : List Nat} {N count g : Nat} (h : G.length < count) : (G.map (rowV N) ++ List.replicate (count - G.length) (Value.slice none 0 0)).set G.length (rowV N g) = (G ++ [g]).map (rowV N) ++ List.replicate (count - (G ++ [g]).length) (.slice none 0 0) := by
  obtain ⟨r, hr⟩ : ∃ r, count - G.length = r + 1 := ⟨count - G.length - 1, by omega⟩
  rw [hr, List.length_append, List.length_singleton, show count - (G.length + 1) = r by omega, List.replicate_succ, List.map_append, List.append_assoc]
  have e : (G.map (rowV N)).length = G.length := List.length_map _
  rw [← e, List.set_append_right _ _ (Nat.le_refl _), Nat.sub_self]
  rfl
/-- the row is laid into the outer one -/
theorem partM_set {base g : Nat} {w : World} {b N count : Nat} {G : List Nat} {M : List (List Int)} {l : List Int} (h : PartM base w b N count G M) (hk : G.length < count) (hr : IntRow base w (rowV N g) l) (hl : l.length = N)
    (hne : ∀ i, i < M.length → G.getD i 0 ≠ g) (hb : b ≠ g) : PartM base (w.setCell ⟨b, G.length, none⟩ (rowV N g)) b N count (G ++ [g]) (M ++ [l]) ∧ IntRow base (w.setCell ⟨b, G.length, none⟩ (rowV N g)) (rowV N g) l := by
  have hlen := h.len
  have hst := World.ownsRow.stored h.out G.length (rowV N g)
  have hr' : IntRow base (w.setCell ⟨b, G.length, none⟩ (rowV N g)) (rowV N g) l := World.ownsRow.kept hr hst.2 (.inr (by intro e; injection e with e; exact hb e.symm))
  refine ⟨⟨by simp [hlen], fun i hi => ?_, fun i hi => ?_, fun i j hi hj hij => ?_, by rw [← set_part hk]; exact hst.1⟩, hr'⟩
  · rw [List.length_append, List.length_singleton] at hi
    by_cases e : i < M.length
    · rw [line_old e]; exact h.width i e
    · rw [show i = M.length by omega, line_new]; exact hl
  · rw [List.length_append, List.length_singleton] at hi
    by_cases e : i < M.length
    · rw [line_old e, getD_old (by omega)]
      exact World.ownsRow.kept (h.row i e) hst.2 (.inr (fun e2 => by injection e2 with e2; exact partM_ne h e e2.symm))
    · rw [show i = M.length by omega, line_new, ← hlen, getD_new]; exact hr'
  · rw [List.length_append, List.length_singleton] at hi hj
    by_cases e : i < M.length
    · by_cases e' : j < M.length
      · rw [getD_old (by omega), getD_old (by omega)]; exact h.apart i j e e' hij
      · rw [getD_old (by omega), show j = G.length by omega, getD_new]; exact hne i e
    · by_cases e' : j < M.length
      · rw [getD_old (i := j) (by omega), show i = G.length by omega, getD_new]; exact Ne.symm (hne j e')
      · omega
/-- the last row is written -/
theorem partM_last {base g : Nat} {w w' : World} {b N count : Nat} {G : List Nat} {M : List (List Int)} {l l' : List Int} (h : PartM base w b N count (G ++ [g]) (M ++ [l])) (hr : IntRow base w' (rowV N g) l') (hl : l'.length = N) (hg : w.grownBy w' (some g)) (hb : b ≠ g) :
    PartM base w' b N count (G ++ [g]) (M ++ [l']) := by
  have hlen := h.len
  simp only [List.length_append, List.length_singleton] at hlen
  have hlen2 : G.length = M.length := by omega
  refine ⟨by simp [hlen2], fun i hi => ?_, fun i hi => ?_, fun i j hi hj => ?_, World.ownsRow.kept h.out hg (.inr (by intro e; injection e with e; exact hb e))⟩
  · rw [List.length_append, List.length_singleton] at hi
    by_cases e : i < M.length
    · rw [line_old e]
      have := h.width i (by simp; omega)
      rwa [line_old e] at this
    · rw [show i = M.length by omega, line_new]; exact hl
  · rw [List.length_append, List.length_singleton] at hi
    by_cases e : i < M.length
    · rw [line_old e, getD_old (by omega)]
      have h1 := h.row i (by simp; omega)
      rw [line_old e, getD_old (by omega)] at h1
      refine World.ownsRow.kept h1 hg (.inr (fun e2 => ?_))
      injection e2 with e2
      have h3 := h.apart i M.length (by simp; omega) (by simp) (by omega)
      rw [getD_old (by omega), ← hlen2, getD_new] at h3
      exact h3 e2
    · rw [show i = M.length by omega, line_new, ← hlen2, getD_new]; exact hr
  · rw [List.length_append, List.length_singleton] at hi hj
    exact h.apart i j (by simp; omega) (by simp; omega)
theorem partM_full {base : Nat} {w : World} {b N count : Nat} {G : List Nat} {M : List (List Int)} (h : PartM base w b N count G M) (hc : M.length = count) : MatG base w (.slice (some ⟨b, 0, none⟩) count count) N G M := by
  have ho := h.out
  have hg : G.length = count := by rw [h.len]; exact hc
  refine ⟨h.len, h.width, h.row, h.apart, ?_⟩
  rw [show count - G.length = 0 by omega, List.replicate_zero, List.append_nil] at ho
  rw [hg]; exact ho
theorem partM_cell {base : Nat} {w : World} {b N count g : Nat} {G : List Nat} {M : List (List Int)} (h : PartM base w b N count (G ++ [g]) M) (hk : G.length < count) : w.cell? ⟨b, G.length, none⟩ = some (rowV N g) := by
  rw [World.ownsRow.cellAt h.out G.length (by omega)]
  rw [List.map_append, List.append_assoc]
  have e : (G.map (rowV N)).length = G.length := List.length_map _
  rw [← e, List.getElem?_append_right (Nat.le_refl _), Nat.sub_self]
  rfl
theorem reverse_any {g k n c : Nat} {f : List Int} {w : World} (hl : n = f.length) (hn : n ≤ 1100000) (hc : ∀ j, j < n → w.cell? ⟨g, k + j, none⟩ = some (.int .i64 (f.getD j 0))) (hf : ∀ j, j < n → w.frozen? ⟨g, k + j, none⟩ = false) :
    Calls Try.prog 93 #[.slice (some ⟨g, k, none⟩) n c] w fun e w' => e = .returned (.tuple #[]) ∧ ∃ q, w' = (w.drewN q).setCells g k (f.reverse.map (Value.int .i64)) := by
  have h := AnyG.slices_Reverse_int_cells Try.revL g k n c f w (by omega) (by omega) (by rw [← hl]; exact hc) hf
  rw [List.take_of_length_le (by omega)] at h
  exact h
theorem zero_nils (count : Nat) : (madeCells (Value.slice none 0 0).cells (count * 1)).toList = List.replicate count (Value.slice none 0 0) := by
  rw [Nat.mul_one]; exact toList_madeCells_one _ _
theorem drewN_below {w0 w : World} {B : Nat} (h : Below B w0 w) (q : Nat) : Below B w0 (w.drewN q) := below_drewN h q
set_option maxHeartbeats 4000000 in
theorem movedRows_any {o : Option Addr} {n c0 count N : Nat} {f : List Int} {w : World} (hS : Seen w o n c0 f) (hf : 1 ≤ f.length) (hf9 : n ≤ 9) (hcn : count ≤ 9) (hN : n + count = N + 1) :
    Calls Try.prog 89 #[.slice o n c0, .int .i64 count] w fun e w' => ∃ b G, e = .returned (.slice (some ⟨b, 0, none⟩) count count) ∧ MatG w.heap.size w' (.slice (some ⟨b, 0, none⟩) count count) N G (rowsL f N count) ∧ Below w.heap.size w w' := by
  obtain ⟨hl, hn, hno, hnc, a, h1, h2⟩ := hS
  obtain ⟨rfl, hag⟩ := h1 (by omega)
  obtain ⟨i0, hi, hz0, hz1, hz2⟩ := info_parts Try.infoInt64
  obtain ⟨i1, hi1, hy0, hy1, hy2⟩ := info_parts Try.infoSl
  have HI := Lib.hid hi
  have HZ0 := Lib.hid hz0
  have HZ1 := Lib.hid hz1
  have HZ2 := Lib.hid hz2
  have HJ := Lib.hid hi1
  have HY0 := Lib.hid hy0
  have HY1 := Lib.hid hy1
  have HY2 := Lib.hid hy2
  have HL := Lib.hid hl
  have HC := Lib.hid h2
  obtain ⟨d, hd⟩ : ∃ d : Nat, d + 1 = n := ⟨n - 1, by omega⟩
  have HD := Lib.hid hd
  have hdn : (n : Int) - 1 = (d : Int) := by omega
  have hdc : (d : Int) + (count : Int) = (N : Int) := by omega
  have wN : IntKind.i64.wrap (N : Int) = (N : Int) := IntWalk.i64_in _ (by omega)
  have hN18 : N ≤ 18 := by omega
  have HNN := Lib.hid hN
  have HF1 := Lib.hid hf
  clear hno hnc h1 h2 hl hn hi hz0 hz1 hz2 hi1 hy0 hy1 hy2 hf hd hN
  go_enter Try.func89, Try.ntmps89
  go_wp2_with (at_make; refine wpList_make_full _ rfl (.tmp 7) (.tmp 7) 47 rfl w.heap.size 37 i1 (.slice none 0 0) 1 Try.underlying47 HJ.out HY0.out HY1.out .i64 .i64 _ _ count rfl rfl rfl rfl (by rw [HY2.out]; omega) (by unfold maxLen; omega) (Nat.le_refl _) ?_; intro w2 hown hgrow)
  obtain ⟨b, hb⟩ : ∃ b, w.heap.size = b := ⟨_, rfl⟩
  have hwb : w.heap.size ≤ b := by omega
  have HB2 := Lib.hid ((Below.refl w.heap.size w).grown hgrow (Nat.le_refl _) (fun k h => by cases h))
  have HP2 := Lib.hid (show PartM w.heap.size w2 b N count [] [] from ⟨rfl, fun i h => absurd h (Nat.not_lt_zero _), fun i h => absurd h (Nat.not_lt_zero _), fun i j h => absurd h (Nat.not_lt_zero _), by
    rw [zero_nils] at hown; rw [← hb]; simpa using hown⟩)
  rw [hb]
  rw [hb] at hag
  clear hown hgrow
  go_wp2_with fail
  go_loopw [11] (fun s wr => ∃ (k : Nat) (G : List Nat), k ≤ count ∧ s = .int .i64 k ∧ G.length = k ∧ PartM w.heap.size wr b N count G (rowsL f N k) ∧ Below w.heap.size w wr) (fun s _ => count - (intOf s).toNat)
  case atStart => exact ⟨0, [], Nat.zero_le _, rfl, rfl, HP2.out, HB2.out⟩
  case round =>
    obtain ⟨k, G, hk, rfl, hG, hpart, hbl⟩ := hrel
    have HP := Lib.hid hpart
    have HB := Lib.hid hbl
    clear hpart hbl HP2 HB2
    have hMl := rowsL_length f N k
    have HML := Lib.hid hMl
    by_cases hlt : k < count
    · have hGk : G.length < count := by omega
      have hbs := HB.out.size
      have hbl := (World.ownsRow.lt HP.out.out b rfl).2
      obtain ⟨g, hg⟩ : ∃ g, wr.heap.size = g := ⟨_, rfl⟩
      have HGN := Lib.hid (show ∀ i, i < (rowsL f N k).length → G.getD i 0 ≠ g from fun i hi e => by have h9 := (World.ownsRow.lt (HP.out.row i hi) (G.getD i 0) rfl).2; rw [e, ← hg] at h9; exact Nat.lt_irrefl _ h9)
      have hbg : b ≠ g := by omega
      have hwg : w.heap.size ≤ g := by omega
      have hkc : (k : Int) < (count : Int) := by omega
      have hcell0 : ∃ y0, wr.cell? ⟨b, k, none⟩ = some y0 := by
        rw [World.ownsRow.cellAt HP.out.out k (by omega)]
        exact ⟨_, List.getElem?_eq_getElem (by rw [List.length_append, List.length_map, List.length_replicate]; omega)⟩
      have hfro : wr.frozen? ⟨b, k, none⟩ = false := World.ownsRow.frozenAt HP.out.out k
      have HMW := Lib.hid (And.intro hMl hG)
      have hGk2 := hG
      go_upto_region 6 with (
        at_make
        refine wpList_make_full _ rfl (.tmp 20) (.tmp 20) 37 rfl w.heap.size 2 i0 (.int .i64 0) 1 Try.underlying37 HI.out HZ0.out HZ1.out .i64 .i64 _ _ N rfl rfl rfl rfl (by rw [HZ2.out]; omega) (by unfold maxLen; omega) hbs ?_
        intro w2 hown hgrow
        rw [hg] at hown
        have HR2 := Lib.hid (show IntRow w.heap.size w2 (rowV N g) (tabL N fun _ => 0) by
          have e : (madeCells (Value.int .i64 0).cells (N * 1)).toList = List.replicate N (Value.int .i64 0) := by
            rw [Nat.mul_one]; exact toList_madeCells_one _ _
          rw [e] at hown
          unfold IntRow
          rw [tabL_length, ← tab_zero, List.map_replicate]; exact hown)
        have HP2 := Lib.hid (partM_none HP.out hgrow)
        have HB2 := Lib.hid (HB.out.grown hgrow hbs (fun k h => by cases h))
        obtain ⟨y0, hy0⟩ : ∃ y0, w2.cell? ⟨b, k, none⟩ = some y0 := by
          rw [World.ownsRow.cellAt HP2.out.out k (by omega)]
          exact ⟨_, List.getElem?_eq_getElem (by rw [List.length_append, List.length_map, List.length_replicate]; omega)⟩
        have hfro2 : w2.frozen? ⟨b, k, none⟩ = false := World.ownsRow.frozenAt HP2.out.out k
        have hset := partM_set HP2.out hGk HR2.out (tabL_length _ _) HGN.out hbg
        rw [hG] at hset
        have HP3 := Lib.hid hset.1
        have HR3 := Lib.hid hset.2
        have HB3 := Lib.hid (HB2.out.setCell (p := ⟨b, k, none⟩) hwb (rowV N g))
        clear hown hgrow HP HB hset hcell0 hfro HR2 HP2 HB2
        unfold rowV at HP3 HR3 HB3)
      generalize w2.setCell ⟨b, k, none⟩ (.slice (some ⟨g, 0, none⟩) N N) = W3 at *
      clear hy0 hfro2
      have HP3' := Lib.hid (show PartM w.heap.size W3 b N count (G ++ [g]) (rowsL f N k ++ [tabL N fun _ => 0]) from HP3.out)
      have c3 := partM_cell HP3'.out hGk
      rw [hG] at c3
      unfold rowV at c3
      have hnk : n ≤ N - k := by have := HNN.out; omega
      have hkN : (k : Int) ≤ (N : Int) := by omega
      have hrowl : (tabL N fun _ => (0 : Int)).length = N := tabL_length _ _
      have hfm : (f.map (Value.int .i64)).length = n := by rw [List.length_map]; exact HL.out.symm
      have hcp : (Builtin.copy_ #[37, 37] 3 #[.slice (some ⟨g, k, none⟩) (N - k) (N - k), .slice (some ⟨a, 0, none⟩) n c0]).run Try.prog W3 = .ok (goInt n) (W3.setCells g k (f.map (Value.int .i64))) := by
        have h9 := run_copy_cells (P := Try.prog) W3 37 37 3 2 g k (N - k) (N - k) ⟨a, 0, none⟩ n c0 (f.map (Value.int .i64)) Try.underlying37 Try.infoI1 (by rw [hfm]; exact (Nat.min_eq_left hnk).symm)
          (seen_range HL.out (fun j hj => by rw [HB3.out.cell (p := ⟨a, j, none⟩) (by rw [hb]; exact hag)]; exact HC.out j hj)) (fun j hj => by rw [int_at HR3.out hrowl (k := k + j) (by omega)]; rfl) (fun j hj => int_frozen HR3.out hrowl (k + j)) (oneCell_map f)
        rw [h9, hfm]
      have hs4 := int_sets f k W3 _ HR3.out hrowl
      have HP4 := Lib.hid (partM_last HP3'.out (show IntRow w.heap.size _ (rowV N g) _ from hs4.1) (by rw [setsL_length, tabL_length]) hs4.2 hbg)
      have HR4 := Lib.hid hs4.1
      have HB4 := Lib.hid (below_sets hwg (f.map (Value.int .i64)) k HB3.out)
      clear hs4 HP3 HP3' HR3 HB3
      go_upto_region 7 with fail
      generalize W3.setCells g k (f.map (Value.int .i64)) = W4 at *
      clear c3 hcp
      have c4 := partM_cell HP4.out hGk
      rw [hG] at c4
      unfold rowV at c4
      obtain ⟨s, hs⟩ : ∃ s, k + n = s := ⟨_, rfl⟩
      have hks : (k : Int) + (n : Int) = (s : Int) := by omega
      have ws : IntKind.i64.wrap (s : Int) = (s : Int) := IntWalk.i64_in _ (by omega)
      have hks2 : (k : Int) ≤ (s : Int) := by omega
      have hsN : (s : Int) ≤ (N : Int) := by omega
      have hsk : s - k = n := by omega
      have hl4 : (setsL (tabL N fun _ => (0 : Int)) k f).length = N := by rw [setsL_length, tabL_length]
      have HRV := Lib.hid (reverse_any (g := g) (k := k) (n := s - k) (c := N - k) (f := f) (w := W4) (by rw [hsk]; exact HL.out) (by omega)
        (fun j hj => by
          rw [int_at HR4.out hl4 (k := k + j) (by omega), setsL_getD _ _ _ _ (by rw [tabL_length]; have := HL.out; omega), if_pos (by have := HL.out; omega), show k + j - k = j by omega])
        (fun j hj => int_frozen HR4.out hl4 (k + j)))
      have HSK := Lib.hid hsk
      clear hs hsk
      go_wp2_with fail
      refine HRV.out.mono ?_
      rintro e W5 ⟨rfl, q, rfl⟩
      have hs5 := int_sets f.reverse k (W4.drewN q) _ (drewN_row HR4.out q) hl4
      have HP5 := Lib.hid (partM_last (partM_drew HP4.out q) (show IntRow w.heap.size _ (rowV N g) (rowLn f N k) by rw [← row_made HF1.out (show k + f.length ≤ N by have := HL.out; omega)]; exact hs5.1) (tabL_length _ _) hs5.2 hbg)
      have HB5 := Lib.hid (below_sets hwg (f.reverse.map (Value.int .i64)) k (below_drewN HB4.out q))
      clear hs5 HP4 HR4 HB4 c4
      generalize (W4.drewN q).setCells g k (f.reverse.map (Value.int .i64)) = W6 at *
      go_wp2_with fail
      exact ⟨⟨k + 1, G ++ [g], by omega, by go_num, by simp [hG], HP5.out, HB5.out⟩, by simp only [intOf]; omega⟩
    · have hkc : k = count := by omega
      subst hkc
      have HF := Lib.hid (partM_full HP.out hMl)
      go_wp2_with fail
      go_ret
      exact ⟨b, G, rfl, HF.out, HB.out⟩
/-! rows put together -/
theorem grow_nil (n : Nat) (w : World) (hn : 1 ≤ n) (hn1 : n ≤ 1000) :
    Calls Try.prog 92 #[.slice none 0 0, .int .i64 n] w fun e w' => ∃ v, e = .returned v ∧ w'.ownsRow w.heap.size 37 1 v 0 [] ∧ (∃ o c, v = .slice o 0 c) ∧ Below w.heap.size w w' := by
  obtain ⟨i1, hi1, hy0, hy1, hy2⟩ := info_parts Try.infoSl
  have h := Any8.slices_Grow_grow Try.growL i1 (.slice none 0 0) hi1 hy0 (by rw [hy1]; exact Nat.one_pos) none 0 0 n [] w (Nat.le_refl _) (by omega) (by rw [hy2]; omega) (by omega) (by simp) (fun _ => rfl) (fun a h => by cases h)
  refine h.mono fun e w' h => ?_
  obtain ⟨rfl, rfl⟩ := h
  refine ⟨_, rfl, World.ownsRow_made _ _ _ (Nat.le_refl _) (grownCap_le_maxLen _ _ _ _ (by unfold maxLen; omega)) ?_, ⟨_, _, rfl⟩, (below_drewN (Below.refl _ _) 1).alloc (Nat.le_refl _) _⟩
  have hge := grownCap_ge w (0 + n) 0 37
  have h1 : (Value.slice none 0 0).cells.size = 1 := rfl
  simp only [Array.size_append, size_zeroCells, h1]
  simp only [List.size_toArray, List.length_nil]
  show 0 + (0 + n - 0) * 1 + (grownCap w (0 + n) 0 37 - (0 + n)) * 1 = grownCap w (0 + n) 0 37 * 1
  omega
theorem own_lower {b b2 : Nat} {w : World} {T : TypeId} {sz n : Nat} {v : Value} {xs : List Value} (h : w.ownsRow b2 T sz v n xs) (hb : b ≤ b2) : w.ownsRow b T sz v n xs :=
  ⟨h.1, h.2.imp id fun ⟨g, c, cur, e, hg, r⟩ => ⟨g, c, cur, e, Nat.le_trans hb hg, r⟩⟩
theorem matG_lower {b b2 : Nat} {w : World} {v : Value} {N : Nat} {G : List Nat} {M : List (List Int)} (h : MatG b2 w v N G M) (hb : b ≤ b2) : MatG b w v N G M :=
  ⟨h.len, h.width, fun i hi => intRow_lower (h.row i hi) hb, h.apart, own_lower h.out hb⟩
theorem matG_join {b b2 B : Nat} {w : World} {v1 v2 v : Value} {N : Nat} {G1 G2 : List Nat} {M1 M2 : List (List Int)} (h1 : MatG b w v1 N G1 M1) (h2 : MatG b2 w v2 N G2 M2) (hb : b ≤ b2) (hlt : ∀ i, i < M1.length → G1.getD i 0 < b2)
    (hB : b ≤ B) (ho : w.ownsRow B 37 1 v (G1.length + G2.length) (G1.map (rowV N) ++ G2.map (rowV N))) : MatG b w v N (G1 ++ G2) (M1 ++ M2) := by
  have l1 := h1.len
  have l2 := h2.len
  have gl : ∀ i, i < M1.length → (G1 ++ G2).getD i 0 = G1.getD i 0 := fun i hi => by simp [List.getD, List.getElem?_append_left (show i < G1.length by omega)]
  have gr : ∀ i, M1.length ≤ i → (G1 ++ G2).getD i 0 = G2.getD (i - M1.length) 0 := fun i hi => by rw [← l1] at hi ⊢; simp [List.getD, List.getElem?_append_right hi]
  have ml : ∀ i, i < M1.length → lineAt (M1 ++ M2) i = lineAt M1 i := fun i hi => by simp [lineAt, List.getD, List.getElem?_append_left hi]
  have mr : ∀ i, M1.length ≤ i → lineAt (M1 ++ M2) i = lineAt M2 (i - M1.length) := fun i hi => by simp [lineAt, List.getD, List.getElem?_append_right hi]
  refine ⟨by simp [l1, l2], fun i hi => ?_, fun i hi => ?_, fun i j hi hj hij => ?_, ?_⟩
  · rw [List.length_append] at hi
    by_cases e : i < M1.length
    · rw [ml i e]; exact h1.width i e
    · rw [mr i (by omega)]; exact h2.width _ (by omega)
  · rw [List.length_append] at hi
    by_cases e : i < M1.length
    · rw [ml i e, gl i e]; exact h1.row i e
    · rw [mr i (by omega), gr i (by omega)]; exact intRow_lower (h2.row _ (by omega)) hb
  · rw [List.length_append] at hi hj
    by_cases e : i < M1.length
    · by_cases e' : j < M1.length
      · rw [gl i e, gl j e']; exact h1.apart i j e e' hij
      · rw [gl i e, gr j (by omega)]
        have a1 := hlt i e
        have a2 := (matG_row_block h2 (i := j - M1.length) (by omega)).1
        omega
    · by_cases e' : j < M1.length
      · rw [gl j e', gr i (by omega)]
        have a1 := hlt j e'
        have a2 := (matG_row_block h2 (i := i - M1.length) (by omega)).1
        omega
      · rw [gr i (by omega), gr j (by omega)]; exact h2.apart _ _ (by omega) (by omega) (by omega)
  · have := own_lower ho hB
    simpa using this
theorem matG_young2 {base : Nat} {w0 w w' : World} {v : Value} {N : Nat} {G : List Nat} {M : List (List Int)} {row : Option Nat} (h0 : MatG base w0 v N G M) (h : MatG base w v N G M) (hg : w.grownBy w' row) (hk : ∀ k, row = some k → w0.heap.size ≤ k) : MatG base w' v N G M := by
  cases row with
  | none => exact matG_none h hg
  | some k => exact matG_young h0 h hg (hk k rfl)
theorem matG_old2 {base : Nat} {w w' : World} {v : Value} {N : Nat} {G : List Nat} {M : List (List Int)} {row : Option Nat} (h : MatG base w v N G M) (hg : w.grownBy w' row) (hk : ∀ k, row = some k → k < base) : MatG base w' v N G M := by
  cases row with
  | none => exact matG_none h hg
  | some k => exact matG_old h hg (hk k rfl)
theorem out_cells {b o1 n c N : Nat} {w : World} {G : List Nat} {M : List (List Int)} (h : MatG b w (.slice (some ⟨o1, 0, none⟩) n c) N G M) (hn : M.length = n) : ∀ j u, (G.map (rowV N))[j]? = some u → w.cell? ((⟨o1, 0, none⟩ : Addr).add j) = some u := by
  intro j u hj
  have hl : j < G.length := by
    have := (List.getElem?_eq_some_iff.1 hj).1
    rwa [List.length_map] at this
  have ho := h.out
  have hG : G.length = n := by rw [h.len]; exact hn
  rw [hG] at ho
  rw [show (⟨o1, 0, none⟩ : Addr).add j = ⟨o1, j, none⟩ by simp [Addr.add]; omega, World.ownsRow.cellAt ho j (by omega)]
  exact hj
theorem one_rows (N : Nat) (G : List Nat) : ∀ u ∈ G.map (rowV N), u.oneCell' = true := by
  intro u hu
  obtain ⟨x, _, rfl⟩ := List.mem_map.1 hu
  rfl
set_option maxHeartbeats 2000000 in
theorem concat_any {cb o1 o2 n1 n2 N b b2 : Nat} {w : World} {G1 G2 : List Nat} {M1 M2 : List (List Int)} (h1 : MatG b w (.slice (some ⟨o1, 0, none⟩) n1 n1) N G1 M1) (h2 : MatG b2 w (.slice (some ⟨o2, 0, none⟩) n2 n2) N G2 M2)
    (hn1 : M1.length = n1) (hn2 : M2.length = n2) (h0 : 1 ≤ n1 + n2) (hb1 : n1 ≤ 100) (hb2 : n2 ≤ 100) (hb : b ≤ b2) (hlt : ∀ i, i < M1.length → G1.getD i 0 < b2) (hbw : b ≤ w.heap.size) (ho1 : o1 < w.heap.size) (ho2 : o2 < w.heap.size)
    (hc1 : w.cell? ⟨cb, 0, none⟩ = some (.slice (some ⟨o1, 0, none⟩) n1 n1)) (hc2 : w.cell? ⟨cb, 1, none⟩ = some (.slice (some ⟨o2, 0, none⟩) n2 n2)) (hcb : cb < w.heap.size) :
    Calls Try.prog 88 #[.slice (some ⟨cb, 0, none⟩) 2 2] w fun e w' => ∃ v, e = .returned v ∧ MatG b w' v N (G1 ++ G2) (M1 ++ M2) ∧ Below w.heap.size w w' := by
  obtain ⟨i1, hi1, hy0, hy1, hy2⟩ := info_parts Try.infoSl
  have HJ := Lib.hid hi1
  have HY0 := Lib.hid hy0
  have HY1 := Lib.hid hy1
  have HY2 := Lib.hid hy2
  have H1 := Lib.hid h1
  have H2 := Lib.hid h2
  have HN := Lib.hid (And.intro hn1 hn2)
  have HLT := Lib.hid hlt
  obtain ⟨S, hS⟩ : ∃ S, n1 + n2 = S := ⟨_, rfl⟩
  have hSi : (n1 : Int) + (n2 : Int) = (S : Int) := by omega
  have wS : IntKind.i64.wrap (S : Int) = (S : Int) := IntWalk.i64_in _ (by omega)
  have w1 : IntKind.i64.wrap (n1 : Int) = (n1 : Int) := IntWalk.i64_in _ (by omega)
  have hS0 : ¬ (S : Int) < 0 := by omega
  have hn10 : ¬ (n1 : Int) < 0 := by omega
  have HG := Lib.hid (grow_nil S w (by omega) (by omega))
  have HSS := Lib.hid hS
  clear h1 h2 hn1 hn2 hlt hi1 hy0 hy1 hy2 hS
  go_enter Try.func88, Try.ntmps88
  go_wp2_with fail
  refine wp_loop_rounds 3 ?_
  rw [rounds_succ]
  go_wp2_with fail
  rw [rounds_succ]
  go_wp2_with fail
  rw [rounds_succ]
  go_wp2_with fail
  refine HG.out.mono ?_
  rintro e W1 ⟨v, rfl, hown, ⟨oo, cc, rfl⟩, hbel⟩
  have HB1 := Lib.hid hbel
  have HO1 := Lib.hid hown
  have hs1 := hbel.size
  have d1 : W1.cell? ⟨cb, 0, none⟩ = some (.slice (some ⟨o1, 0, none⟩) n1 n1) := by rw [hbel.cell (p := ⟨cb, 0, none⟩) hcb]; exact hc1
  have d2 : W1.cell? ⟨cb, 1, none⟩ = some (.slice (some ⟨o2, 0, none⟩) n2 n2) := by rw [hbel.cell (p := ⟨cb, 1, none⟩) hcb]; exact hc2
  have K1 := Lib.hid (matG_below H1.out hbel)
  have K2 := Lib.hid (matG_below H2.out hbel)
  have hg1 : G1.length = n1 := by rw [H1.out.len]; exact HN.out.1
  have hg2 : G2.length = n2 := by rw [H2.out.len]; exact HN.out.2
  have HGL := Lib.hid (And.intro hg1 hg2)
  have HC2 := Lib.hid hc2
  clear hown hbel hc1 hc2 hg1 hg2
  go_wp2_with fail
  refine wp_loop_rounds 3 ?_
  rw [rounds_succ]
  go_wp2_with (
    at_builtin
    refine wpList_append_own _ rfl (.tmp 31) (.tmp 32) 47 rfl w.heap.size 37 i1 (.slice none 0 0) 1 24 Try.underlying47 HJ.out HY0.out HY1.out HY2.out rfl (by decide) _ _ _ rfl HO1.out ⟨o1, 0, none⟩ n1 n1 (G1.map (rowV N)) rfl (by rw [List.length_map, HGL.out.1, Nat.mul_one]) (out_cells K1.out HN.out.1) (one_rows N G1) (by unfold maxLen; omega) (by omega) hs1 ?_
    intro v' w7 hown hgrow _
    rw [Nat.zero_add, List.nil_append] at hown
    obtain ⟨oo2, cc2, hvv⟩ := row_slice hown
    subst hvv
    have HB2 := Lib.hid (HB1.out.grown hgrow hs1 (fun k hk => (World.ownsRow.lt HO1.out k hk).1))
    have HO2 := Lib.hid hown
    have HGR := Lib.hid hgrow
    have hs7 := hgrow.size
    have d3 : w7.cell? ⟨cb, 1, none⟩ = some (.slice (some ⟨o2, 0, none⟩) n2 n2) := by rw [HB2.out.cell (p := ⟨cb, 1, none⟩) hcb]; exact HC2.out
    clear hown hgrow d1 d2)
  rw [rounds_succ]
  have K17 := Lib.hid (matG_young2 H1.out K1.out HGR.out (fun k hk => (World.ownsRow.lt HO1.out k hk).1))
  have K27 := Lib.hid (matG_young2 H2.out K2.out HGR.out (fun k hk => (World.ownsRow.lt HO1.out k hk).1))
  clear K1 K2 HGR
  go_wp2_with (
    at_builtin
    refine wpList_append_own _ rfl (.tmp 31) (.tmp 32) 47 rfl w.heap.size 37 i1 (.slice none 0 0) 1 24 Try.underlying47 HJ.out HY0.out HY1.out HY2.out rfl (by decide) _ _ _ rfl HO2.out ⟨o2, 0, none⟩ n2 n2 (G2.map (rowV N)) rfl (by rw [List.length_map, HGL.out.2, Nat.mul_one]) (out_cells K27.out HN.out.2) (one_rows N G2) (by unfold maxLen; omega) (by omega) (by omega) ?_
    intro v' w8 hown hgrow _
    have HB3 := Lib.hid (HB2.out.grown hgrow (by omega) (fun k hk => (World.ownsRow.lt HO2.out k hk).1))
    have K18 := Lib.hid (matG_young2 H1.out K17.out hgrow (fun k hk => (World.ownsRow.lt HO2.out k hk).1))
    have K28 := Lib.hid (matG_young2 H2.out K27.out hgrow (fun k hk => (World.ownsRow.lt HO2.out k hk).1))
    have hown2 : w8.ownsRow w.heap.size 37 1 v' (G1.length + G2.length) (G1.map (rowV N) ++ G2.map (rowV N)) := by
      rw [HGL.out.1, HGL.out.2]; simpa using hown
    have HJN := Lib.hid (matG_join K18.out K28.out hb HLT.out hbw hown2)
    clear hown hown2 hgrow d3 HB2 HO2 HO1)
  rw [rounds_succ]
  go_wp2_with fail
  go_ret
  exact ⟨_, rfl, HJN.out, HB3.out⟩
set_option maxHeartbeats 1000000 in
theorem sylRows_any {o o' : Option Addr} {n n' c c' : Nat} {f g : List Int} {w : World} (hS : Seen w o n c f) (hS' : Seen w o' n' c' g) (hf : 1 ≤ n) (hf9 : n ≤ 9) (hg : 1 ≤ n') (hg9 : n' ≤ 9) (h3 : 3 ≤ n + n') :
    Calls Try.prog 70 #[.slice o n c, .slice o' n' c'] w fun e w' => ∃ v G, e = .returned v ∧ MatG w.heap.size w' v (f.length - 1 + (g.length - 1)) G (sylL f g) ∧ Below w.heap.size w w' := by
  have HS := Lib.hid hS
  have HS' := Lib.hid hS'
  have HL := Lib.hid (And.intro hS.1 hS'.1)
  obtain ⟨d, hd⟩ : ∃ d : Nat, d + 1 = n := ⟨n - 1, by omega⟩
  obtain ⟨d', hd'⟩ : ∃ d' : Nat, d' + 1 = n' := ⟨n' - 1, by omega⟩
  have hdn : (n : Int) - 1 = (d : Int) := by omega
  have hdn' : (n' : Int) - 1 = (d' : Int) := by omega
  obtain ⟨N, hN⟩ : ∃ N, d + d' = N := ⟨_, rfl⟩
  have hNe : f.length - 1 + (g.length - 1) = N := by have := hS.1; have := hS'.1; omega
  have hMe : sylL f g = rowsL f N d' ++ rowsL g N d := by
    unfold sylL; rw [hNe, show g.length - 1 = d' by have := hS'.1; omega, show f.length - 1 = d by have := hS.1; omega]
  rw [hNe, hMe]
  have HK1 := Lib.hid (movedRows_any (count := d') (N := N) hS (by have := hS.1; omega) hf9 (by omega) (by omega))
  have HD := Lib.hid (And.intro hd (And.intro hd' hN))
  clear hS hS' hd hd' hNe hMe hN
  go_enter Try.func70, Try.ntmps70
  go_wp2_with fail
  refine HK1.out.mono ?_
  rintro e W1 ⟨b1, G1, rfl, hm1, hb1⟩
  have HM1 := Lib.hid hm1
  have HB1 := Lib.hid hb1
  have HK2 := Lib.hid (movedRows_any (count := d) (N := N) (seen_below HS'.out hb1) (by have := HL.out; omega) hg9 (by have := HD.out; omega) (by have := HD.out; omega))
  clear hm1 hb1 HK1
  go_wp2_with fail
  refine HK2.out.mono ?_
  rintro e W2 ⟨b2, G2, rfl, hm2, hb2⟩
  have HM12 := matG_below HM1.out hb2
  have hb12 := (World.ownsRow.lt HM12.out b1 rfl).2
  have hb22 := (World.ownsRow.lt hm2.out b2 rfl).2
  have hws := HB1.out.size
  have hws2 := hb2.size
  have HBX := Lib.hid (HB1.out.trans (hb2.mono hws))
  have hlt := fun i (hi : i < (rowsL f N d').length) => (matG_row_block HM1.out hi).2
  have hal := below_one W2 (.cells #[.slice (some ⟨b1, 0, none⟩) d' d', .slice (some ⟨b2, 0, none⟩) d d] 47)
  have htc := two_cell W2 (.slice (some ⟨b1, 0, none⟩) d' d') (.slice (some ⟨b2, 0, none⟩) d d) 47
  have HCC := Lib.hid (concat_any (matG_below HM12 hal) (matG_below hm2 hal) (rowsL_length f N d') (rowsL_length g N d) (by have := HD.out; omega) (by have := HD.out; omega) (by have := HD.out; omega) hws hlt (by have := hal.size; omega) (by have := hal.size; omega) (by have := hal.size; omega) htc.1 htc.2 (by simp))
  have HAL := Lib.hid hal
  have HBW := Lib.hid (HBX.out.alloc (by omega) (.cells #[.slice (some ⟨b1, 0, none⟩) d' d', .slice (some ⟨b2, 0, none⟩) d d] 47))
  clear hm2 hb2 HM12 hlt hal htc
  go_wp2_with fail
  refine HCC.out.mono ?_
  rintro e W3 ⟨v, rfl, hm3, hb3⟩
  have HM3 := Lib.hid hm3
  have HB3 := Lib.hid (HBW.out.trans (hb3.mono HBW.out.size))
  clear hm3 hb3
  go_wp2_with fail
  go_ret
  exact ⟨v, _, rfl, HM3.out, HB3.out⟩
set_option maxHeartbeats 1000000 in
theorem implSyl_any {o o' : Option Addr} {n n' c c' : Nat} {f g : List Int} {w : World} (h : Seen w o n c f) (h' : Seen w o' n' c' g) :
    Calls Try.prog 32 #[.slice o n c, .slice o' n' c'] w (MatPost (sylN f g) (sylQ f g) (codS2 f g) w) := by
  have HK := Lib.hid (checkSmall2 (seen_below h (below_one w (.cells #[.slice o n c, .slice o' n' c'] 37))) (two_cell w (.slice o n c) (.slice o' n' c') 37).1 (seen_below h' (below_one w (.cells #[.slice o n c, .slice o' n' c'] 37))) (two_cell w (.slice o n c) (.slice o' n' c') 37).2)
  have HB1 := Lib.hid (below_one w (.cells #[.slice o n c, .slice o' n' c'] 37))
  by_cases hc : codS2 f g = 0
  · rw [show sylN f g = f.length - 1 + (g.length - 1) by simp [sylN, hc]]
    obtain ⟨s1, s2⟩ := codS2_small hc
    obtain ⟨_, l1, l2, _⟩ := smlB_of s1
    obtain ⟨_, l3, l4, _⟩ := smlB_of s2
    have HM := Lib.hid (sylRows_any (seen_below h HB1.out) (seen_below h' HB1.out) (by have := h.1; omega) (by have := h.1; omega) (by have := h'.1; omega) (by have := h'.1; omega) (by have := h.1; have := h'.1; omega))
    have HQ := Lib.hid (show sylQ f g = sylL f g by simp [sylQ, hc])
    have HC := Lib.hid hc
    rw [hc] at HK
    clear h h' hc s1 s2 l1 l2 l3 l4
    go_enter Try.func32, Try.ntmps32
    go_wp2_with fail
    refine HK.out.mono ?_
    rintro e w2 ⟨rfl, rfl⟩
    go_wp2_with fail
    refine HM.out.mono ?_
    rintro e W2 ⟨v2, G2, rfl, hm2, hb2⟩
    have HM2 := Lib.hid (matG_lower hm2 HB1.out.size)
    have HB2 := Lib.hid (HB1.out.trans (hb2.mono HB1.out.size))
    clear hm2 hb2
    go_wp2_with fail
    go_ret2
    have hc0 := HC.out
    exact ⟨v2, G2, congrArg (fun c => Ending.returned (.tuple #[v2, .int .i64 c])) hc0.symm, by rw [HQ.out]; exact HM2.out, HB2.out⟩
  · have HQ := Lib.hid (show sylQ f g = [] by simp [sylQ, hc])
    generalize codS2 f g = y at *
    have hc' : (y != 0) = true := by simpa using hc
    clear h h'
    go_enter Try.func32, Try.ntmps32
    go_wp2_with fail
    refine HK.out.mono ?_
    rintro e w2 ⟨rfl, rfl⟩
    go_wp2_with fail
    go_ret2
    exact ⟨_, [], rfl, by rw [HQ.out]; exact matG_nil _ _ _, HB1.out⟩
end Go.Proofs.Ytbolmmgkmgmfeaa
