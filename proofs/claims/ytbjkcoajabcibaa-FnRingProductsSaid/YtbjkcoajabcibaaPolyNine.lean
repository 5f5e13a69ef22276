/- Nine coefficients in a block: how they lie, what stores make of them, how they are seen as a slice. -/
import Derived.Test.YtbjkcoajabcibaaPolyPad
import Derived.Deep.MidRow
import Derived.Laws.IdiomCopy
import Derived.Shelf.Spec.SlicesInsert
namespace Go.Proofs.Ytbjkcoajabcibaa
open Go.RowKit
set_option linter.unusedVariables false
set_option maxRecDepth 20000
set_option linter.unusedSimpArgs false
def Nine (w : World) (b : Nat) (l : List Int) : Prop :=
  b < w.heap.size ∧ l.length = 9 ∧ ∀ k, k < 9 → w.cell? ⟨b, k, none⟩ = some (.int .i64 (l.getD k 0)) ∧ w.frozen? ⟨b, k, none⟩ = false
def arrV (l : List Int) : Array Value := (l.map (Value.int .i64)).toArray
theorem arrV_size (l : List Int) : (arrV l).size = l.length := by simp [arrV]
theorem arrV_get {l : List Int} {k : Nat} (h : k < l.length) : (arrV l)[k]? = some (.int .i64 (l.getD k 0)) := by simp [arrV, List.getD, h]
theorem arrV_one (l : List Int) : (arrV l).all (·.oneCell') = true := all_oneCell_toArray (oneCell_map l)
theorem arrV_list (l : List Int) : (arrV l).toList = l.map (Value.int .i64) := by simp [arrV]
theorem nine_new (w : World) (l : List Int) (T : TypeId) (h : l.length = 9) : Nine (w.alloc (.cells (arrV l) T)) w.heap.size l :=
  ⟨by simp, h, fun k hk => ⟨by rw [World.cell?_alloc_new, arrV_get (by omega)], World.frozen?_alloc_at _ _ _ _ rfl⟩⟩
theorem nine_block {w1 w2 : World} {b : Nat} {l : List Int} (h : Nine w1 b l) (hs : b < w2.heap.size) (e : w2.heap[b]? = w1.heap[b]?) : Nine w2 b l :=
  ⟨hs, h.2.1, fun k hk => ⟨by rw [World.cell?_of_block (w := w1) (a := ⟨b, k, none⟩) e]; exact (h.2.2 k hk).1, by rw [World.frozen?_of_block (w := w1) (a := ⟨b, k, none⟩) e]; exact (h.2.2 k hk).2⟩⟩
theorem nine_below {w1 w2 : World} {b B : Nat} {l : List Int} (h : Nine w1 b l) (hb : Below B w1 w2) (hB : b < B) : Nine w2 b l := nine_block h (Nat.lt_of_lt_of_le h.1 hb.size) (hb.block b hB)
theorem nine_next {w1 w2 : World} {b : Nat} {l : List Int} (h : Nine w1 b l) (hb : Below w1.heap.size w1 w2) : Nine w2 b l := nine_below h hb h.1
theorem nine_drewN {w : World} {b : Nat} {l : List Int} (h : Nine w b l) (m : Nat) : Nine (w.drewN m) b l := nine_block h h.1 rfl
theorem nine_drew {w : World} {b : Nat} {l : List Int} (h : Nine w b l) : Nine w.drew b l := nine_drewN h 1
theorem nine_at {w : World} {b : Nat} {l : List Int} (h : Nine w b l) {k : Nat} (hk : k < 9) : w.cell? ⟨b, k, none⟩ = some (.int .i64 (l.getD k 0)) := (h.2.2 k hk).1
theorem nine_frozen {w : World} {b : Nat} {l : List Int} (h : Nine w b l) {k : Nat} (hk : k < 9) : w.frozen? ⟨b, k, none⟩ = false := (h.2.2 k hk).2
theorem addr_ne {b i j : Nat} (h : i ≠ j) : (⟨b, i, none⟩ : Addr) ≠ ⟨b, j, none⟩ := by intro e; injection e; exact h (by assumption)
theorem nine_set {w : World} {b k : Nat} {l : List Int} (h : Nine w b l) (hk : k < 9) (x : Int) : Nine (w.setCell ⟨b, k, none⟩ (.int .i64 x)) b (l.set k x) := by
  refine ⟨by simpa using h.1, by rw [List.length_set]; exact h.2.1, fun j hj => ⟨?_, by rw [World.frozen?_setCell]; exact (h.2.2 j hj).2⟩⟩
  by_cases e : k = j
  · subst e
    rw [World.cell?_setCell_same _ _ _ (h.2.2 k hk).1]
    have := h.2.1
    simp [List.getD, show k < l.length by omega]
  · rw [World.cell?_setCell_other _ _ _ _ (addr_ne e), (h.2.2 j hj).1]
    simp [List.getD, List.getElem?_set_ne e]
theorem nine_other {w : World} {b b' k : Nat} {l : List Int} (h : Nine w b l) (hb : b' ≠ b) (x : Value) : Nine (w.setCell ⟨b', k, none⟩ x) b l := by
  refine ⟨by simpa using h.1, h.2.1, fun j hj => ⟨?_, by rw [World.frozen?_setCell]; exact (h.2.2 j hj).2⟩⟩
  rw [World.cell?_setCell_other _ _ _ _ (by intro e; injection e; exact hb (by assumption)), (h.2.2 j hj).1]
theorem nine_range {w : World} {b : Nat} {l : List Int} (h : Nine w b l) : w.rangeAt b 0 (l.map (Value.int .i64)) := by
  intro j v hj
  obtain ⟨h1, h2⟩ := List.getElem?_eq_some_iff.1 hj
  rw [List.length_map] at h1
  rw [Nat.zero_add, (h.2.2 j (by have := h.2.1; omega)).1, ← h2]
  simp [List.getD, h1]
theorem nine_there {w : World} {b : Nat} {l : List Int} (h : Nine w b l) : w.there b 0 9 := fun j hj => by
  rw [Nat.zero_add]; exact ⟨by rw [(h.2.2 j hj).1]; rfl, (h.2.2 j hj).2⟩
theorem nine_seen {w : World} {b n : Nat} {l : List Int} (h : Nine w b l) (hn : n ≤ 9) : Seen w (some ⟨b, 0, none⟩) n 9 (l.take n) := by
  have hl := h.2.1
  refine ⟨by rw [List.length_take]; omega, by omega, fun h => by (cases h), hn, b, fun _ => ⟨rfl, h.1⟩, fun k hk => ?_⟩
  rw [take_getD l hk]; exact (h.2.2 k (by omega)).1
theorem setCells_size (b : Nat) : ∀ (vs : List Value) (o : Nat) (w : World), (w.setCells b o vs).heap.size = w.heap.size
  | [], _, _ => rfl
  | v :: r, o, w => by rw [World.setCells, setCells_size b r]; simp
theorem below_setCells {w w1 : World} {b : Nat} (hb : w.heap.size ≤ b) : ∀ (vs : List Value) (o : Nat) {w1 : World}, Below w.heap.size w w1 → Below w.heap.size w (w1.setCells b o vs)
  | [], _, _, h => h
  | v :: r, o, _, h => below_setCells (w1 := w) hb r (o + 1) (h.setCell hb v)
theorem nine_setCells {w : World} {b : Nat} {l m : List Int} (h : Nine w b l) (hm : m.length ≤ 9) : Nine (w.setCells b 0 (m.map (Value.int .i64))) b (m ++ l.drop m.length) := by
  have hl := h.2.1
  refine ⟨by rw [setCells_size]; exact h.1, by rw [List.length_append, List.length_drop]; omega, fun j hj => ⟨?_, by rw [World.frozen?_setCells]; exact (h.2.2 j hj).2⟩⟩
  by_cases hjm : j < m.length
  · have := World.cell?_setCells_in b (m.map (Value.int .i64)) 0 w (fun i hi => by rw [List.length_map] at hi; rw [Nat.zero_add, (h.2.2 i (by omega)).1]; rfl) j (by rw [List.length_map]; exact hjm)
    rw [Nat.zero_add] at this
    rw [this]
    simp [List.getD, hjm, List.getElem?_append_left hjm]
  · rw [World.cell?_setCells_out b _ 0 w ⟨b, j, none⟩ (fun _ _ => .inr (by rw [List.length_map]; show 0 + m.length ≤ j; omega)), (h.2.2 j hj).1]
    simp [List.getD, List.getElem?_append_right (show m.length ≤ j by omega), List.getElem?_drop, show m.length + (j - m.length) = j by omega]
theorem nine_full {w : World} {b : Nat} {l m : List Int} (h : Nine w b l) (hm : m.length = 9) : Nine (w.setCells b 0 (m.map (Value.int .i64))) b m := by
  have := nine_setCells h (m := m) (by omega)
  rwa [List.drop_eq_nil_of_le (by have := h.2.1; omega), List.append_nil] at this
theorem nine_apart {w : World} {b b' : Nat} {l : List Int} (h : Nine w b l) (hb : b' ≠ b) : ∀ (vs : List Value) (o : Nat) {w1 : World}, Nine w1 b l → Nine (w1.setCells b' o vs) b l
  | [], _, _, h => h
  | v :: r, o, _, h1 => nine_apart h hb r (o + 1) (nine_other h1 hb v)
theorem pad_append {l : List Int} (h : l.length ≤ 9) : l ++ (tabL 9 fun _ => 0).drop l.length = padL l := by
  refine ext_getD (by rw [List.length_append, List.length_drop, tabL_length, padL_length]; omega) fun i hi => ?_
  rw [List.length_append, List.length_drop, tabL_length] at hi
  rw [padL_getD h]
  by_cases e : i < l.length
  · simp [List.getD, List.getElem?_append_left e]
  · rw [getD_out (l := l) (by omega)]
    simp only [List.getD, List.getElem?_append_right (show l.length ≤ i by omega), List.getElem?_drop, show l.length + (i - l.length) = i by omega]
    exact tabL_getD (f := fun _ => (0 : Int)) (show i < 9 by omega)
theorem zero_nine : (#[.int .i64 0, .int .i64 0, .int .i64 0, .int .i64 0, .int .i64 0, .int .i64 0, .int .i64 0, .int .i64 0, .int .i64 0] : Array Value) = arrV (tabL 9 fun _ => 0) := rfl
theorem seen_range {w : World} {g n : Nat} {l : List Int} (hl : n = l.length) (h : ∀ k, k < n → w.cell? ⟨g, k, none⟩ = some (.int .i64 (l.getD k 0))) :
    ∀ j v, (l.map (Value.int .i64))[j]? = some v → w.cell? ((⟨g, 0, none⟩ : Addr).add j) = some v := by
  intro j v hj
  obtain ⟨h1, h2⟩ := List.getElem?_eq_some_iff.1 hj
  rw [List.length_map] at h1
  rw [show (⟨g, 0, none⟩ : Addr).add j = ⟨g, j, none⟩ by simp [Addr.add]; omega, h j (by omega), ← h2]
  simp [List.getD, h1]
end Go.Proofs.Ytbjkcoajabcibaa
