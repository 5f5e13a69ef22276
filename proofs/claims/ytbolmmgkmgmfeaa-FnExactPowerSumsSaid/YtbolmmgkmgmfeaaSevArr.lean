/- Seven numbers in a block (as Nine, of another length), and a copy of a part of them. -/
import Derived.Test.YtbolmmgkmgmfeaaPowS
import Derived.Test.YtbolmmgkmgmfeaaPolyImpl3
namespace Go.Proofs.Ytbolmmgkmgmfeaa
open Go.RowKit
set_option linter.unusedVariables false
set_option linter.unusedSimpArgs false
def Sev (w : World) (b : Nat) (l : List Int) : Prop :=
  b < w.heap.size ∧ l.length = 7 ∧ ∀ k, k < 7 → w.cell? ⟨b, k, none⟩ = some (.int .i64 (l.getD k 0)) ∧ w.frozen? ⟨b, k, none⟩ = false
theorem sev_new (w : World) (l : List Int) (T : TypeId) (h : l.length = 7) : Sev (w.alloc (.cells (arrV l) T)) w.heap.size l :=
  ⟨by simp, h, fun k hk => ⟨by rw [World.cell?_alloc_new, arrV_get (by omega)], World.frozen?_alloc_at _ _ _ _ rfl⟩⟩
theorem sev_block {w1 w2 : World} {b : Nat} {l : List Int} (h : Sev w1 b l) (hs : b < w2.heap.size) (e : w2.heap[b]? = w1.heap[b]?) : Sev w2 b l :=
  ⟨hs, h.2.1, fun k hk => ⟨by rw [World.cell?_of_block (w := w1) (a := ⟨b, k, none⟩) e]; exact (h.2.2 k hk).1, by rw [World.frozen?_of_block (w := w1) (a := ⟨b, k, none⟩) e]; exact (h.2.2 k hk).2⟩⟩
theorem sev_below {w1 w2 : World} {b B : Nat} {l : List Int} (h : Sev w1 b l) (hb : Below B w1 w2) (hB : b < B) : Sev w2 b l := sev_block h (Nat.lt_of_lt_of_le h.1 hb.size) (hb.block b hB)
theorem sev_next {w1 w2 : World} {b : Nat} {l : List Int} (h : Sev w1 b l) (hb : Below w1.heap.size w1 w2) : Sev w2 b l := sev_below h hb h.1
theorem sev_drewN {w : World} {b : Nat} {l : List Int} (h : Sev w b l) (m : Nat) : Sev (w.drewN m) b l := sev_block h h.1 rfl
theorem sev_drew {w : World} {b : Nat} {l : List Int} (h : Sev w b l) : Sev w.drew b l := sev_drewN h 1
theorem sev_at {w : World} {b : Nat} {l : List Int} (h : Sev w b l) {k : Nat} (hk : k < 7) : w.cell? ⟨b, k, none⟩ = some (.int .i64 (l.getD k 0)) := (h.2.2 k hk).1
theorem sev_frozen {w : World} {b : Nat} {l : List Int} (h : Sev w b l) {k : Nat} (hk : k < 7) : w.frozen? ⟨b, k, none⟩ = false := (h.2.2 k hk).2
theorem sev_set {w : World} {b k : Nat} {l : List Int} (h : Sev w b l) (hk : k < 7) (x : Int) : Sev (w.setCell ⟨b, k, none⟩ (.int .i64 x)) b (l.set k x) := by
  refine ⟨by simpa using h.1, by rw [List.length_set]; exact h.2.1, fun j hj => ⟨?_, by rw [World.frozen?_setCell]; exact (h.2.2 j hj).2⟩⟩
  by_cases e : k = j
  · subst e
    rw [World.cell?_setCell_same _ _ _ (h.2.2 k hk).1]
    have := h.2.1
    simp [List.getD, show k < l.length by omega]
  · rw [World.cell?_setCell_other _ _ _ _ (addr_ne e), (h.2.2 j hj).1]
    simp [List.getD, List.getElem?_set_ne e]
theorem sev_other {w : World} {b b' k : Nat} {l : List Int} (h : Sev w b l) (hb : b' ≠ b) (x : Value) : Sev (w.setCell ⟨b', k, none⟩ x) b l := by
  refine ⟨by simpa using h.1, h.2.1, fun j hj => ⟨?_, by rw [World.frozen?_setCell]; exact (h.2.2 j hj).2⟩⟩
  rw [World.cell?_setCell_other _ _ _ _ (by intro e; injection e; exact hb (by assumption)), (h.2.2 j hj).1]
theorem sev_range {w : World} {b : Nat} {l : List Int} (h : Sev w b l) : w.rangeAt b 0 (l.map (Value.int .i64)) := by
  intro j v hj
  obtain ⟨h1, h2⟩ := List.getElem?_eq_some_iff.1 hj
  rw [List.length_map] at h1
  rw [Nat.zero_add, (h.2.2 j (by have := h.2.1; omega)).1, ← h2]
  simp [List.getD, h1]
theorem sev_there {w : World} {b : Nat} {l : List Int} (h : Sev w b l) : w.there b 0 7 := fun j hj => by
  rw [Nat.zero_add]; exact ⟨by rw [(h.2.2 j hj).1]; rfl, (h.2.2 j hj).2⟩
theorem sev_setCells {w : World} {b : Nat} {l m : List Int} (h : Sev w b l) (hm : m.length ≤ 7) : Sev (w.setCells b 0 (m.map (Value.int .i64))) b (m ++ l.drop m.length) := by
  have hl := h.2.1
  refine ⟨by rw [setCells_size]; exact h.1, by rw [List.length_append, List.length_drop]; omega, fun j hj => ⟨?_, by rw [World.frozen?_setCells]; exact (h.2.2 j hj).2⟩⟩
  by_cases hjm : j < m.length
  · have := World.cell?_setCells_in b (m.map (Value.int .i64)) 0 w (fun i hi => by rw [List.length_map] at hi; rw [Nat.zero_add, (h.2.2 i (by omega)).1]; rfl) j (by rw [List.length_map]; exact hjm)
    rw [Nat.zero_add] at this
    rw [this]
    simp [List.getD, hjm, List.getElem?_append_left hjm]
  · rw [World.cell?_setCells_out b _ 0 w ⟨b, j, none⟩ (fun _ _ => .inr (by rw [List.length_map]; show 0 + m.length ≤ j; omega)), (h.2.2 j hj).1]
    simp [List.getD, List.getElem?_append_right (show m.length ≤ j by omega), List.getElem?_drop, show m.length + (j - m.length) = j by omega]
theorem sev_full {w : World} {b : Nat} {l m : List Int} (h : Sev w b l) (hm : m.length = 7) : Sev (w.setCells b 0 (m.map (Value.int .i64))) b m := by
  have := sev_setCells h (m := m) (by omega)
  rwa [List.drop_eq_nil_of_le (by have := h.2.1; omega), List.append_nil] at this
theorem sev_apart {w : World} {b b' : Nat} {l : List Int} (h : Sev w b l) (hb : b' ≠ b) : ∀ (vs : List Value) (o : Nat) {w1 : World}, Sev w1 b l → Sev (w1.setCells b' o vs) b l
  | [], _, _, h => h
  | v :: r, o, _, h1 => sev_apart h hb r (o + 1) (sev_other h1 hb v)
theorem zero_sev : (#[.int .i64 0, .int .i64 0, .int .i64 0, .int .i64 0, .int .i64 0, .int .i64 0, .int .i64 0] : Array Value) = arrV (tabL 7 fun _ => 0) := rfl
theorem zero_newS (W : World) : Sev (W.alloc (.cells #[.int .i64 0, .int .i64 0, .int .i64 0, .int .i64 0, .int .i64 0, .int .i64 0, .int .i64 0] 76)) W.heap.size (tabL 7 fun _ => 0) :=
  sev_new W (tabL 7 fun _ => 0) 76 (tabL_length _ _)
theorem Try.infoSv : (Try.prog.info? 76).map (·.size) = some 7 := by kernel_rfl
theorem store_newS (W : World) {F : List Int} (h : F.length = 7) :
    (storeCells ⟨W.heap.size, 0, none⟩ (arrV F).toList 0).run Try.prog (W.alloc (.cells #[.int .i64 0, .int .i64 0, .int .i64 0, .int .i64 0, .int .i64 0, .int .i64 0, .int .i64 0] 76)) = .ok () (W.alloc (.cells (arrV F) 76)) :=
  run_storeCells_new W 76 _ (arrV F) (by rw [arrV_size, h]; exact Try.infoSv) (by rw [arrV_size, h]; rfl) (arrV_one F)
theorem wpList_load_sev {ops : Array Oper} {rest : List Oper} {op : Oper} {a : Act} {w : World} {Q : Exit → Act → World → Prop} (hgd : op.guard = none) (x : Operand) (ho : op.op = .load 76 x)
    (b : Nat) (hx : a.eval x = .pointer (some ⟨b, 0, none⟩)) {l : List Int} (hN : Sev w b l) (h : wpList Try.prog ops Q rest (a.put op.dst (.agg (arrV l))) w) : wpList Try.prog ops Q (op :: rest) a w :=
  wpList_load_mid hgd 76 x ho b 0 hx _ _ (sev_range hN) Try.underlying76 rfl (by rw [List.length_map, hN.2.1]; exact Try.infoSv) h
theorem wpList_store_sev {ops : Array Oper} {rest : List Oper} {op : Oper} {a : Act} {w : World} {Q : Exit → Act → World → Prop} (hgd : op.guard = none) (x y : Operand) (ho : op.op = .store 76 x y)
    (b : Nat) {l m : List Int} (hx : a.eval x = .pointer (some ⟨b, 0, none⟩)) (hy : a.eval y = .agg (arrV l)) (hl : l.length = 7) (hN : Sev w b m)
    (h : wpList Try.prog ops Q rest (a.put op.dst undef) (w.setCells b 0 (l.map (Value.int .i64)))) : wpList Try.prog ops Q (op :: rest) a w :=
  wpList_store_mid hgd 76 x y ho b 0 (arrV l) hx hy (by rw [arrV_size, hl]; exact sev_there hN) (by rw [arrV_size, hl]; exact Try.infoSv) (arrV_one _) (by rw [arrV_list]; exact h)
theorem clone_at {g d n c : Nat} {l : List Int} {w : World} (hl : n = l.length) (hn : n ≤ 1100000) (hn0 : 0 < n) (hg : g < w.heap.size) (h2 : ∀ k, k < n → w.cell? ⟨g, d + k, none⟩ = some (.int .i64 (l.getD k 0))) :
    Calls Try.prog 72 #[.slice (some ⟨g, d, none⟩) n c] w (OwnPost l w) := by
  obtain ⟨i0, hi, hz0, hz1, hz2⟩ := info_parts Try.infoInt64
  have HI := Lib.hid hi
  have HZ0 := Lib.hid hz0
  have HZ1 := Lib.hid hz1
  have HZ2 := Lib.hid hz2
  clear hi hz0 hz1 hz2
  have hrow := intRow_made w
  have hnil : (binOp .eql 37 (.slice (some ⟨g, d, none⟩) n c) (.slice none 0 0)).run Try.prog w = .ok (.bool false) w := Lib.run_eql_slice_nil (P := Try.prog) w 37 2 (some ⟨g, d, none⟩) n c 0 0 Try.underlying37
  have hnews : ∀ j u, (l.map (Value.int .i64))[j]? = some u → (w.alloc (.cells #[] 2)).cell? ((⟨g, d, none⟩ : Addr).add j) = some u := by
    intro j u hj
    have hjl : j < n := by
      have := (List.getElem?_eq_some_iff.1 hj).1
      rw [List.length_map] at this; omega
    have e : (⟨g, d, none⟩ : Addr).add j = ⟨g, d + j, none⟩ := by simp [Addr.add]
    rw [e, ((Below.refl w.heap.size w).alloc (Nat.le_refl _) (.cells #[] 2)).cell (p := ⟨g, d + j, none⟩) hg, h2 j hjl]
    have hj2 : j < l.length := by omega
    simp [hj2] at hj
    rw [← hj]; simp [List.getD, hj2]
  have HN := Lib.hid hnews
  have HL := Lib.hid hl
  have HR := Lib.hid hrow
  have HB := Lib.hid ((Below.refl w.heap.size w).alloc (Nat.le_refl _) (.cells #[] 2))
  clear hnews h2 hl hrow
  go_enter Try.func72, Try.ntmps72
  go_wp2_with (at_builtin; refine wpList_append_own _ rfl (.tmp 5) (.tmp 6) 37 rfl w.heap.size 2 i0 (.int .i64 0) 1 8 Try.underlying37 HI.out HZ0.out HZ1.out HZ2.out rfl (by decide) _ _ _ rfl HR.out ⟨g, d, none⟩ n c (l.map (Value.int .i64)) rfl (by rw [List.length_map, Nat.mul_one]; exact HL.out.symm) HN.out (oneCell_map l) ?c3 ?c4 ?c5 ?_)
  case c3 => unfold maxLen; simp; omega
  case c4 => simp; omega
  case c5 => first | omega | simp
  intro v' w1 hown hgrow _
  have HO : Hid (IntRow w.heap.size w1 v' l) := Lib.hid (by unfold IntRow; rw [← HL.out]; simpa using hown)
  have HG := Lib.hid (HB.out.grown hgrow (by simp) (fun k hk => by cases hk; exact Nat.le_refl _))
  clear hown hgrow
  go_wp2
  go_ret
  exact ⟨_, rfl, HO.out, HG.out⟩
end Go.Proofs.Ytbolmmgkmgmfeaa
