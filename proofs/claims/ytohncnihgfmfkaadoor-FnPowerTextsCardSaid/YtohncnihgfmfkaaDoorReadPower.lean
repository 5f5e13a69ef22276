/- Contract of the walk: impl.readPower answers the prime power that a text writes leniently, or that it is none. -/
import Derived.Test.YtohncnihgfmfkaaDoorShelf
import Derived.Lib.SmallJoins
import Derived.RangeFuncBox
import Derived.Test.YtohncnihgfmfkaaDoorValue
import Derived.Test.YtohncnihgfmfkaaDoorPowText
namespace Go.Proofs.YtohncnihgfmfkaaDoor
open Go.RowKit
set_option linter.unusedVariables false
/-- what the memory holds that strings.Cut and strconv.ParseInt read -/
def Env (w : World) : Prop :=
  (∃ ev, w.cell? ⟨4, 0, none⟩ = some ev ∧ (ev = .nilIface ∨ ∃ te pe, ev = .iface te pe)) ∧
  (∃ ev, w.cell? ⟨5, 0, none⟩ = some ev ∧ (ev = .nilIface ∨ ∃ te pe, ev = .iface te pe)) ∧
  ∃ m, w.cell? ⟨1, 0, none⟩ = some (.int .i64 m)
theorem env_below {w w' : World} {B : Nat} (h : Env w) (hb : Below B w w') (hB : w.heap.size ≤ B) : Env w' := by
  obtain ⟨⟨e1, h1, k1⟩, ⟨e2, h2, k2⟩, m, h3⟩ := h
  have l1 := World.block_lt_of_cell? w _ h1
  have l2 := World.block_lt_of_cell? w _ h2
  have l3 := World.block_lt_of_cell? w _ h3
  exact ⟨⟨e1, by rw [hb.cell (by show _ < B; omega)]; exact h1, k1⟩, ⟨e2, by rw [hb.cell (by show _ < B; omega)]; exact h2, k2⟩, m, by rw [hb.cell (by show _ < B; omega)]; exact h3⟩
def pI (l : List UInt8) : Option Int := match Lib.parseIntB 64 l with
  | .ok v => some v
  | _ => none
theorem below_bytes {w w' : World} (h : w' = w ∨ ∃ t, w' = Lib.bytesWorld w 5 t) : Below w.heap.size w w' := by
  rcases h with rfl | ⟨t, rfl⟩
  · exact Below.refl _ _
  · exact Go.Joins.below_bytesWorld _ _ _ _ (Nat.le_refl _)
theorem parse_any (x : ByteArray) (w : World) (hx : x.size ≤ 2000000) (h : Env w) :
    Calls Tryd.prog 41 #[.string x, .int .i64 10, .int .i64 64] w fun e w' => ∃ v er, e = .returned (.tuple #[.int .i64 v, er]) ∧ Below w.heap.size w w' ∧
      ((pI x.data.toList = some v ∧ er = .nilIface) ∨ (pI x.data.toList = none ∧ ∃ t p, er = .iface t p)) := by
  obtain ⟨⟨e1, h1, k1⟩, ⟨e2, h2, k2⟩, _⟩ := h
  cases hp : Lib.parseIntB 64 x.data.toList
  case ok v => exact (Tryd.strconv_ParseInt_10_at64_ok x (by omega) v hp w).mono fun e w' ⟨he, hw⟩ => ⟨v, _, he, below_bytes hw, .inl ⟨by simp [pI, hp], rfl⟩⟩
  all_goals first
    | exact (Tryd.strconv_ParseInt_10_at64_syntax x (by omega) (hp.trans rfl) e1 w h1 k1).mono fun e w' ⟨N, he, _, _, hb⟩ => ⟨_, _, he, hb, .inr ⟨by simp [pI, hp], _, _, rfl⟩⟩
    | exact (Tryd.strconv_ParseInt_10_at64_range x (by omega) hp e2 w h2 k2).mono fun e w' ⟨N, he, _, _, hb⟩ => ⟨_, _, he, hb, .inr ⟨by simp [pI, hp], _, _, rfl⟩⟩
def rdP (s : ByteArray) : Option (Int × Int) :=
  match pI (Lib.cut s.data.toList [94]).1 with
  | none => none
  | some p => if (Lib.cut s.data.toList [94]).2.2 = true then (match pI (Lib.cut s.data.toList [94]).2.1 with
      | none => none
      | some k => some (p, k)) else some (p, 1)
theorem cut_size (s : ByteArray) : (⟨(Lib.cut s.data.toList [94]).1.toArray⟩ : ByteArray).size ≤ s.size ∧ (⟨(Lib.cut s.data.toList [94]).2.1.toArray⟩ : ByteArray).size ≤ s.size := by
  have e : s.size = s.data.toList.length := by rw [Array.length_toList]; rfl
  show (bsOf _).size ≤ s.size ∧ (bsOf _).size ≤ s.size
  rw [bs_size, bs_size, e]
  unfold Lib.cut
  split
  · exact ⟨by rw [List.length_take]; omega, by rw [List.length_drop]; omega⟩
  · exact ⟨Nat.le_refl _, Nat.zero_le _⟩
def RdPost (s : ByteArray) (w : World) (e : Ending) (w' : World) : Prop :=
  Below w.heap.size w w' ∧ ((∃ a b, rdP s = some (a, b) ∧ e = .returned (.tuple #[.agg #[.int .i64 a, .int .i64 b], .bool true])) ∨ (rdP s = none ∧ e = .returned (.tuple #[.agg #[.int .i64 0, .int .i64 0], .bool false])))
theorem zero_cells {w w2 : World} (hb : Below (w.heap.size + 1) (w.alloc (.cells #[.int .i64 0, .int .i64 0] 40)) w2) :
    (w2.cell? ⟨w.heap.size, 0, none⟩ = some (.int .i64 0) ∧ w2.cell? ⟨w.heap.size, 1, none⟩ = some (.int .i64 0)) ∧ w2.frozen? ⟨w.heap.size, 0, none⟩ = false ∧ w2.frozen? ⟨w.heap.size, 1, none⟩ = false := by
  have h0 := news_two w (.int .i64 0) (.int .i64 0) 40 0 _ rfl
  have h1 := news_two w (.int .i64 0) (.int .i64 0) 40 1 _ rfl
  have e := World.alloc_heap_new w (.cells #[.int .i64 0, .int .i64 0] 40)
  refine ⟨⟨?_, ?_⟩, ?_, ?_⟩
  · rw [hb.cell (by show w.heap.size < _; omega)]; exact h0
  · rw [hb.cell (by show w.heap.size < _; omega)]; exact h1
  · rw [hb.frozen (by show w.heap.size < _; omega)]; unfold World.frozen?; rw [show (w.alloc (.cells #[.int .i64 0, .int .i64 0] 40)).heap[(⟨w.heap.size, 0, none⟩ : Addr).block]? = _ from e]; rfl
  · rw [hb.frozen (by show w.heap.size < _; omega)]; unfold World.frozen?; rw [show (w.alloc (.cells #[.int .i64 0, .int .i64 0] 40)).heap[(⟨w.heap.size, 1, none⟩ : Addr).block]? = _ from e]; rfl
theorem two_cells {w2 : World} {g : Nat} {x y : Value} (h : w2.cell? ⟨g, 0, none⟩ = some x ∧ w2.cell? ⟨g, 1, none⟩ = some y) (a b : Value) :
    (w2.setCell ⟨g, 0, none⟩ a).cell? ⟨g, 0, none⟩ = some a ∧ ((w2.setCell ⟨g, 0, none⟩ a).setCell ⟨g, 1, none⟩ b).cell? ⟨g, 1, none⟩ = some b := by
  refine ⟨World.cell?_setCell_same' _ _ _ (by rw [h.1]; rfl), World.cell?_setCell_same' _ _ _ ?_⟩
  rw [World.cell?_setCell_other _ _ _ _ (by intro e; simp at e), h.2]; rfl
set_option maxRecDepth 20000 in
set_option maxHeartbeats 1600000 in
theorem readPower_any (s : ByteArray) (w : World) (hs : s.size ≤ 2000000) (h : Env w) :
    Calls Tryd.prog 27 #[.string s] w (RdPost s w) := by
  obtain ⟨c1, c2⟩ := cut_size s
  obtain ⟨p1, hp1⟩ : ∃ p1, (Lib.cut s.data.toList [94]).1 = p1 := ⟨_, rfl⟩
  obtain ⟨p2, hp2⟩ : ∃ p2, (Lib.cut s.data.toList [94]).2.1 = p2 := ⟨_, rfl⟩
  obtain ⟨b, hb⟩ : ∃ b, (Lib.cut s.data.toList [94]).2.2 = b := ⟨_, rfl⟩
  rw [hp1] at c1
  rw [hp2] at c2
  have HR : Hid (rdP s = match pI p1 with
      | none => none
      | some p => if b = true then (match pI p2 with
        | none => none
        | some k => some (p, k)) else some (p, 1)) := by
    show rdP s = _
    unfold rdP; rw [hp1, hp2, hb]
  have HC : Hid ((Lib.cut s.data.toList [94]).1 = p1 ∧ (Lib.cut s.data.toList [94]).2.1 = p2 ∧ (Lib.cut s.data.toList [94]).2.2 = b) := ⟨hp1, hp2, hb⟩
  have C1 : Hid ((⟨p1.toArray⟩ : ByteArray).size ≤ 2000000) := Nat.le_trans c1 hs
  have C2 : Hid ((⟨p2.toArray⟩ : ByteArray).size ≤ 2000000) := Nat.le_trans c2 hs
  have E0 := Lib.hid (env_below h ((Below.refl w.heap.size w).alloc (Nat.le_refl _) (.cells #[.int .i64 0, .int .i64 0] 40)) (Nat.le_refl _))
  have HS := Lib.hid hs
  clear hp1 hp2 hb c1 c2 hs h
  go_enter Tryd.func27, Tryd.ntmps27
  go_wp2_with fail
  obtain ⟨m, hm⟩ := E0.out.2.2
  refine (Tryd.strings_Cut s ⟨#[94]⟩ m _ (by have := HS.out; omega) hm).mono ?_
  clear hm
  rintro e w1 ⟨rfl, nd, rfl⟩
  rw [show (⟨#[94]⟩ : ByteArray).data.toList = [94] from rfl, HC.out.1, HC.out.2.1, HC.out.2.2]
  go_wp2_with fail
  refine (parse_any _ _ C1.out (env_below E0.out (below_drewN (Below.refl _ _) nd) (Nat.le_refl _))).mono ?_
  rintro e w2 ⟨v, er, rfl, b2, hcase⟩
  have B2 := Lib.hid (((Below.refl w.heap.size w).alloc (Nat.le_refl _) (.cells #[.int .i64 0, .int .i64 0] 40)).trans ((below_drewN (Below.refl _ _) nd).trans (b2.mono (by simp))))
  have E2 := Lib.hid (env_below (env_below E0.out (below_drewN (Below.refl _ _) nd) (Nat.le_refl _)) b2 (Nat.le_refl _))
  have BA : Hid (Below (w.heap.size + 1) (w.alloc (.cells #[.int .i64 0, .int .i64 0] 40)) w2) := by
    have h := (below_drewN (Below.refl (w.alloc (.cells #[.int .i64 0, .int .i64 0] 40)).heap.size (w.alloc (.cells #[.int .i64 0, .int .i64 0] 40))) nd).trans (b2.mono (Nat.le_refl _))
    rw [World.size_alloc] at h
    exact h
  have Z2 := Lib.hid (zero_cells BA.out)
  obtain ⟨⟨zc0, zc1⟩, zf0, zf1⟩ := Z2.out
  clear b2
  rcases hcase with ⟨hp, rfl⟩ | ⟨hp, t, p, rfl⟩
  · cases b
    · have HD : Hid (rdP s = some (v, 1)) := by
        show rdP s = some (v, 1)
        rw [HR.out, hp]; rfl
      clear hp
      go_wp2
      refine bodyPost_ret (v := .tuple #[.agg #[.int .i64 v, .int .i64 1], .bool true]) (by
          have tc := two_cells Z2.out.1 (.int .i64 v) (.int .i64 1)
          simp [results, Tryd.results27, go_sem, tc.1, tc.2]) rfl ?_
      exact ⟨(B2.out.setCell (p := ⟨w.heap.size, 0, none⟩) (Nat.le_refl _) _).setCell (p := ⟨w.heap.size, 1, none⟩) (Nat.le_refl _) _, .inl ⟨_, _, HD.out, rfl⟩⟩
    · have HP := Lib.hid hp
      clear hp
      go_wp2_with fail
      refine (parse_any _ _ C2.out E2.out).mono ?_
      rintro e w3 ⟨v3, er3, rfl, b3, hcase3⟩
      have B3 := Lib.hid (B2.out.trans (b3.mono B2.out.size))
      have Z3 := Lib.hid (zero_cells (BA.out.trans (b3.mono (by have := BA.out.size; simpa using this))))
      clear zc0 zc1 zf0 zf1
      obtain ⟨⟨zc0, zc1⟩, zf0, zf1⟩ := Z3.out
      clear b3
      rcases hcase3 with ⟨hp, rfl⟩ | ⟨hp, t, p, rfl⟩
      · have HD : Hid (rdP s = some (v, v3)) := by
          show rdP s = some (v, v3)
          rw [HR.out, HP.out]; simp [hp]
        clear hp
        go_wp2
        refine bodyPost_ret (v := .tuple #[.agg #[.int .i64 v, .int .i64 v3], .bool true]) (by
          have tc := two_cells Z3.out.1 (.int .i64 v) (.int .i64 v3)
          simp [results, Tryd.results27, go_sem, tc.1, tc.2]) rfl ?_
        exact ⟨(B3.out.setCell (p := ⟨w.heap.size, 0, none⟩) (Nat.le_refl _) _).setCell (p := ⟨w.heap.size, 1, none⟩) (Nat.le_refl _) _, .inl ⟨_, _, HD.out, rfl⟩⟩
      · have HD : Hid (rdP s = none) := by
          show rdP s = none
          rw [HR.out, HP.out]; simp [hp]
        clear hp
        go_wp2
        refine bodyPost_ret (v := .tuple #[.agg #[.int .i64 0, .int .i64 0], .bool false]) (by
          have tc := two_cells Z3.out.1 (.int .i64 0) (.int .i64 0)
          simp [results, Tryd.results27, go_sem, tc.1, tc.2]) rfl ?_
        exact ⟨(B3.out.setCell (p := ⟨w.heap.size, 0, none⟩) (Nat.le_refl _) _).setCell (p := ⟨w.heap.size, 1, none⟩) (Nat.le_refl _) _, .inr ⟨HD.out, rfl⟩⟩
  · have HD : Hid (rdP s = none) := by
      show rdP s = none
      rw [HR.out, hp]
    clear hp
    go_wp2
    refine bodyPost_ret (v := .tuple #[.agg #[.int .i64 0, .int .i64 0], .bool false]) (by
          have tc := two_cells Z2.out.1 (.int .i64 0) (.int .i64 0)
          simp [results, Tryd.results27, go_sem, tc.1, tc.2]) rfl ?_
    exact ⟨(B2.out.setCell (p := ⟨w.heap.size, 0, none⟩) (Nat.le_refl _) _).setCell (p := ⟨w.heap.size, 1, none⟩) (Nat.le_refl _) _, .inr ⟨HD.out, rfl⟩⟩
end Go.Proofs.YtohncnihgfmfkaaDoor
