/- Contract of the walk: impl.readPair answers the two numbers that a text writes leniently, or that it is none. -/
import Derived.Test.YtghhjeebcpcepaaDoorShelf
import Derived.Lib.SmallJoins
import Derived.RangeFuncBox
import Derived.Test.YtghhjeebcpcepaaDoorValue
import Derived.Test.YtghhjeebcpcepaaDoorPowText
namespace Go.Proofs.YtghhjeebcpcepaaDoor
open Go.RowKit
set_option linter.unusedVariables false
/-- what the memory holds that strings.Cut and strconv.ParseInt read -/
def Env (w : World) : Prop :=
  (∃ ev, w.cell? ⟨4, 0, none⟩ = some ev ∧ (ev = .nilIface ∨ ∃ te pe, ev = .iface te pe)) ∧
  (∃ ev, w.cell? ⟨5, 0, none⟩ = some ev ∧ (ev = .nilIface ∨ ∃ te pe, ev = .iface te pe)) ∧
  ∃ m, w.cell? ⟨1, 0, none⟩ = some (.int .i64 m)
theorem env_below {w w' : World} {B : Nat} (h : Env w) (hb : Below B w w') (hB : w.heap.size ≤ B) : Env w' := by
  obtain ⟨⟨e1, h1, k1⟩, ⟨e2, h2, k2⟩, m, h3⟩ := h
  have l1 := World.block_lt_of_cell? w _ h1
  have l2 := World.block_lt_of_cell? w _ h2
  have l3 := World.block_lt_of_cell? w _ h3
  exact ⟨⟨e1, by rw [hb.cell (by show _ < B; omega)]; exact h1, k1⟩, ⟨e2, by rw [hb.cell (by show _ < B; omega)]; exact h2, k2⟩, m, by rw [hb.cell (by show _ < B; omega)]; exact h3⟩
def pI (l : List UInt8) : Option Int := match Lib.parseIntB 64 l with
  | .ok v => some v
  | _ => none
theorem below_bytes {w w' : World} (h : w' = w ∨ ∃ t, w' = Lib.bytesWorld w 5 t) : Below w.heap.size w w' := by
  rcases h with rfl | ⟨t, rfl⟩
  · exact Below.refl _ _
  · exact Go.Joins.below_bytesWorld _ _ _ _ (Nat.le_refl _)
theorem parse_any (x : ByteArray) (w : World) (hx : x.size ≤ 2000000) (h : Env w) :
    Calls Tryd.prog 63 #[.string x, .int .i64 10, .int .i64 64] w fun e w' => ∃ v er, e = .returned (.tuple #[.int .i64 v, er]) ∧ Below w.heap.size w w' ∧
      ((pI x.data.toList = some v ∧ er = .nilIface) ∨ (pI x.data.toList = none ∧ ∃ t p, er = .iface t p)) := by
  obtain ⟨⟨e1, h1, k1⟩, ⟨e2, h2, k2⟩, _⟩ := h
  cases hp : Lib.parseIntB 64 x.data.toList
  case ok v => exact (Tryd.strconv_ParseInt_10_at64_ok x (by omega) v hp w).mono fun e w' ⟨he, hw⟩ => ⟨v, _, he, below_bytes hw, .inl ⟨by simp [pI, hp], rfl⟩⟩
  all_goals first
    | exact (Tryd.strconv_ParseInt_10_at64_syntax x (by omega) (hp.trans rfl) e1 w h1 k1).mono fun e w' ⟨N, he, _, _, hb⟩ => ⟨_, _, he, hb, .inr ⟨by simp [pI, hp], _, _, rfl⟩⟩
    | exact (Tryd.strconv_ParseInt_10_at64_range x (by omega) hp e2 w h2 k2).mono fun e w' ⟨N, he, _, _, hb⟩ => ⟨_, _, he, hb, .inr ⟨by simp [pI, hp], _, _, rfl⟩⟩
/-- two numbers with the mark m between them, or one number and 1 -/
def rdQ (m : UInt8) (s : ByteArray) : Option (Int × Int) :=
  match pI (Lib.cut s.data.toList [m]).1 with
  | none => none
  | some p => if (Lib.cut s.data.toList [m]).2.2 = true then (match pI (Lib.cut s.data.toList [m]).2.1 with
      | none => none
      | some k => some (p, k)) else some (p, 1)
def rdP (s : ByteArray) : Option (Int × Int) :=
  match pI (Lib.cut s.data.toList [94]).1 with
  | none => none
  | some p => if (Lib.cut s.data.toList [94]).2.2 = true then (match pI (Lib.cut s.data.toList [94]).2.1 with
      | none => none
      | some k => some (p, k)) else some (p, 1)
theorem rdQ_pow (s : ByteArray) : rdQ 94 s = rdP s := rfl
theorem cut_size (m : UInt8) (s : ByteArray) : (⟨(Lib.cut s.data.toList [m]).1.toArray⟩ : ByteArray).size ≤ s.size ∧ (⟨(Lib.cut s.data.toList [m]).2.1.toArray⟩ : ByteArray).size ≤ s.size := by
  have e : s.size = s.data.toList.length := by rw [Array.length_toList]; rfl
  show (bsOf _).size ≤ s.size ∧ (bsOf _).size ≤ s.size
  rw [bs_size, bs_size, e]
  unfold Lib.cut
  split
  · exact ⟨by rw [List.length_take]; omega, by rw [List.length_drop]; omega⟩
  · exact ⟨Nat.le_refl _, Nat.zero_le _⟩
def RdPost (m : UInt8) (s : ByteArray) (w : World) (e : Ending) (w' : World) : Prop :=
  Below w.heap.size w w' ∧ ((∃ a b, rdQ m s = some (a, b) ∧ e = .returned (.tuple #[.int .i64 a, .int .i64 b, .bool true])) ∨ (rdQ m s = none ∧ e = .returned (.tuple #[.int .i64 0, .int .i64 0, .bool false])))
theorem ret_iib {a b c d : Int} {x y : Bool} (h : a = c) (h' : b = d) (h'' : x = y) : Ending.returned (.tuple #[.int .i64 a, .int .i64 b, .bool x]) = .returned (.tuple #[.int .i64 c, .int .i64 d, .bool y]) := by rw [h, h', h'']
set_option maxRecDepth 20000 in
set_option maxHeartbeats 1600000 in
theorem readPair_any (m : UInt8) (s : ByteArray) (w : World) (hs : s.size ≤ 2000000) (h : Env w) :
    Calls Tryd.prog 41 #[.string s, .string ⟨#[m]⟩] w (RdPost m s w) := by
  obtain ⟨c1, c2⟩ := cut_size m s
  obtain ⟨p1, hp1⟩ : ∃ p1, (Lib.cut s.data.toList [m]).1 = p1 := ⟨_, rfl⟩
  obtain ⟨p2, hp2⟩ : ∃ p2, (Lib.cut s.data.toList [m]).2.1 = p2 := ⟨_, rfl⟩
  obtain ⟨b, hb⟩ : ∃ b, (Lib.cut s.data.toList [m]).2.2 = b := ⟨_, rfl⟩
  rw [hp1] at c1
  rw [hp2] at c2
  have HR : Hid (rdQ m s = match pI p1 with
      | none => none
      | some p => if b = true then (match pI p2 with
        | none => none
        | some k => some (p, k)) else some (p, 1)) := by
    show rdQ m s = _
    unfold rdQ; rw [hp1, hp2, hb]
  have HC : Hid ((Lib.cut s.data.toList [m]).1 = p1 ∧ (Lib.cut s.data.toList [m]).2.1 = p2 ∧ (Lib.cut s.data.toList [m]).2.2 = b) := ⟨hp1, hp2, hb⟩
  have C1 : Hid ((⟨p1.toArray⟩ : ByteArray).size ≤ 2000000) := Nat.le_trans c1 hs
  have C2 : Hid ((⟨p2.toArray⟩ : ByteArray).size ≤ 2000000) := Nat.le_trans c2 hs
  have E0 := Lib.hid h
  have HS := Lib.hid hs
  clear hp1 hp2 hb c1 c2 hs h
  go_enter Tryd.func41, Tryd.ntmps41
  go_wp2_with fail
  obtain ⟨mx, hm⟩ := E0.out.2.2
  refine (Tryd.strings_Cut s ⟨#[m]⟩ mx _ (by have := HS.out; omega) hm).mono ?_
  clear hm
  rintro e w1 ⟨rfl, nd, rfl⟩
  rw [show (⟨#[m]⟩ : ByteArray).data.toList = [m] from rfl, HC.out.1, HC.out.2.1, HC.out.2.2]
  go_wp2_with fail
  refine (parse_any _ _ C1.out (env_below E0.out (below_drewN (Below.refl _ _) nd) (Nat.le_refl _))).mono ?_
  rintro e w2 ⟨v, er, rfl, b2, hcase⟩
  have B2 := Lib.hid ((below_drewN (Below.refl w.heap.size w) nd).trans (b2.mono (Nat.le_refl _)))
  have E2 := Lib.hid (env_below (env_below E0.out (below_drewN (Below.refl _ _) nd) (Nat.le_refl _)) b2 (Nat.le_refl _))
  clear b2
  rcases hcase with ⟨hp, rfl⟩ | ⟨hp, t, p, rfl⟩
  · cases b
    · have HD : Hid (rdQ m s = some (v, 1)) := by
        show rdQ m s = some (v, 1)
        rw [HR.out, hp]; rfl
      clear hp
      go_wp2
      go_ret3
      exact ⟨B2.out, .inl ⟨_, _, HD.out, rfl⟩⟩
    · have HP := Lib.hid hp
      clear hp
      go_wp2_with fail
      refine (parse_any _ _ C2.out E2.out).mono ?_
      rintro e w3 ⟨v3, er3, rfl, b3, hcase3⟩
      have B3 := Lib.hid (B2.out.trans (b3.mono B2.out.size))
      clear b3
      rcases hcase3 with ⟨hp, rfl⟩ | ⟨hp, t, p, rfl⟩
      · have HD : Hid (rdQ m s = some (v, v3)) := by
          show rdQ m s = some (v, v3)
          rw [HR.out, HP.out]; simp [hp]
        clear hp
        go_wp2
        go_ret3
        exact ⟨B3.out, .inl ⟨_, _, HD.out, rfl⟩⟩
      · have HD : Hid (rdQ m s = none) := by
          show rdQ m s = none
          rw [HR.out, HP.out]; simp [hp]
        clear hp
        go_wp2
        go_ret3
        exact ⟨B3.out, .inr ⟨HD.out, rfl⟩⟩
  · have HD : Hid (rdQ m s = none) := by
      show rdQ m s = none
      rw [HR.out, hp]
    clear hp
    go_wp2
    go_ret3
    exact ⟨B2.out, .inr ⟨HD.out, rfl⟩⟩
end Go.Proofs.YtghhjeebcpcepaaDoor
