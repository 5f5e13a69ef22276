/- Contracts of the walk: toPower, toPowerS and szPowerS of the laws' package: a list that came in is copied into a row of the call's own. -/
import Derived.Test.YtghhjeebcpcepaaDoorPowRow
import Derived.OwnWalk
import Derived.Laws.OwnMore
namespace Go.Proofs.YtghhjeebcpcepaaDoor
open Go.RowKit
set_option linter.unusedVariables false
/-- a list of prime powers that came in -/
def ArgPow (w : World) (o : Option Addr) (l : List (Int × Int)) : Prop :=
  l.length = 0 ∨ ∃ b off, o = some ⟨b, off, none⟩ ∧ b < w.heap.size ∧ ∀ k, k < l.length → w.cell? ⟨b, off + k * 2, none⟩ = some (.int .i64 (l.getD k (0, 0)).1) ∧ w.cell? ⟨b, off + k * 2 + 1, none⟩ = some (.int .i64 (l.getD k (0, 0)).2)
theorem toPower_any (a b : Int) (w : World) :
    Calls Tryd.prog 51 #[.agg #[.int .i64 a, .int .i64 b]] w fun e w' => e = .returned (.agg #[.int .i64 a, .int .i64 b]) ∧ Below w.heap.size w w' := by
  go_enter Tryd.func51, Tryd.ntmps51
  go_wp2
  exact bodyPost_ret (v := .agg #[.int .i64 a, .int .i64 b]) (by simp [results, Tryd.results51, go_sem]) rfl ⟨rfl, (((Below.refl _ _).alloc (Nat.le_refl _) _).alloc (by simp) _).alloc (by simp; omega) _⟩
theorem szPowerS_any (o : Option Addr) (n c : Nat) (w : World) (hn : n ≤ 1048576) :
    Calls Tryd.prog 23 #[.slice o n c, .int .i64 1048576] w fun e w' => (∃ q : Int, 0 ≤ q ∧ e = .returned (.int .i64 q)) ∧ w = w' := by
  go_enter Tryd.func23, Tryd.ntmps23
  go_wp2
  go_ret
  exact ⟨⟨1048576 - n, by omega, rfl⟩, rfl⟩
theorem szPowerS_big (o : Option Addr) (n c : Nat) (w : World) (hn : 1048576 < n) (hm : n ≤ 9223372036854775807) :
    Calls Tryd.prog 23 #[.slice o n c, .int .i64 1048576] w fun e w' => e = .returned (.int .i64 (-1)) ∧ w = w' := by
  go_enter Tryd.func23, Tryd.ntmps23
  go_wp2
  go_ret
  exact ⟨rfl, rfl⟩
set_option maxRecDepth 100000 in
set_option maxHeartbeats 1600000 in
theorem toPowerS_any (o : Option Addr) (c : Nat) (l : List (Int × Int)) (w : World) (hn : l.length ≤ 1048576) (ha : ArgPow w o l) :
    Calls Tryd.prog 24 #[.slice o l.length c] w fun e w' => ∃ v, e = .returned v ∧ PowRow w.heap.size w' v l ∧ Below w.heap.size w w' := by
  obtain ⟨i0, hi, hz0, hz1, hz2⟩ := info_parts Tryd.infoPower
  have HI := Lib.hid hi
  have HZ0 := Lib.hid hz0
  have HZ1 := Lib.hid hz1
  have HZ2 := Lib.hid hz2
  have HA := Lib.hid ha
  clear hi hz0 hz1 hz2 ha
  go_enter Tryd.func24, Tryd.ntmps24
  go_wp2_with (at_make; refine wpList_make_full _ rfl (.tmp 6) (.tmp 6) 24 rfl w.heap.size 54 i0 (.agg #[.int .i64 0, .int .i64 0]) 2 Tryd.underlying24 HI.out HZ0.out HZ1.out .i64 .i64 _ _ l.length rfl rfl rfl rfl ?m1 ?m2 (Nat.le_refl _) ?_)
  case m1 => rw [HZ2.out]; omega
  case m2 => unfold maxLen; omega
  intro w2 hown hgrow
  have HO := Lib.hid hown
  have HB2 := Lib.hid ((Below.refl w.heap.size w).grown hgrow (Nat.le_refl _) (fun k h => by cases h))
  clear hown hgrow
  go_wp2
  go_loopw [4] (fun i wr => ∃ (k : Nat) (xs : List Value), k ≤ l.length ∧ i = .int .i64 k ∧ wr.ownsRow w.heap.size 54 2 (.slice (some ⟨w.heap.size, 0, none⟩) l.length l.length) l.length xs ∧ (∀ j, j < k * 2 → xs[j]? = (pc l)[j]?) ∧ Below w.heap.size w wr) (fun i _ => l.length - (intOf i).toNat)
  case atStart => exact ⟨0, _, Nat.zero_le _, rfl, HO.out, fun j h => absurd h (by omega), HB2.out⟩
  case round =>
    obtain ⟨k, xs, hk, rfl, hrow, hxs, hb⟩ := hrel
    have HW := Lib.hid hrow
    have HX := Lib.hid hxs
    have HB := Lib.hid hb
    have bs := hb.size
    have HXL := Lib.hid hrow.1
    clear hrow hxs
    by_cases hlt : k < l.length
    · rcases HA.out with hz | ⟨b, off, rfl, hbw, hcell⟩
      · omega
      · obtain ⟨a1, a2⟩ := hcell k hlt
        rw [← hb.cell (by exact hbw)] at a1 a2
        clear hb hcell
        obtain ⟨x1, y1, e1⟩ : ∃ x y, l.getD k (0, 0) = (x, y) := ⟨_, _, rfl⟩
        have HP := Lib.hid (pc_get l k hlt)
        rw [e1] at a1 a2 HP
        simp only at a1 a2
        clear e1
        go_wp2_with fail
        refine (toPower_any _ _ _).mono ?_
        rintro e w3 ⟨rfl, hb3⟩
        have R3 := Lib.hid (row_below HW.out hb3 (Nat.le_refl _))
        have B3 := Lib.hid (HB.out.trans (hb3.mono bs))
        have S1 := Lib.hid (World.ownsRow.stored R3.out (k * 2) (.int .i64 x1))
        have S2 := Lib.hid (World.ownsRow.stored S1.out.1 (k * 2 + 1) (.int .i64 y1))
        have c3 := World.ownsRow.cellAt R3.out (k * 2) (by omega)
        have c4 := World.ownsRow.cellAt R3.out (k * 2 + 1) (by omega)
        have f3 := World.ownsRow.frozenAt R3.out (k * 2)
        have f4 := World.ownsRow.frozenAt R3.out (k * 2 + 1)
        obtain ⟨u3, hu3⟩ : ∃ u, xs[k * 2]? = some u := ⟨_, List.getElem?_eq_getElem (by have := HXL.out; omega)⟩
        obtain ⟨u4, hu4⟩ : ∃ u, xs[k * 2 + 1]? = some u := ⟨_, List.getElem?_eq_getElem (by have := HXL.out; omega)⟩
        rw [hu3] at c3
        rw [hu4] at c4
        clear hb3 hu3 hu4
        have HN : Hid (∀ j, j < (k + 1) * 2 → ((xs.set (k * 2) (.int .i64 x1)).set (k * 2 + 1) (.int .i64 y1))[j]? = (pc l)[j]?) := by
          intro j hj
          have hl2 := HXL.out
          by_cases e2 : j = k * 2 + 1
          · subst e2
            rw [List.getElem?_set_self (by rw [List.length_set]; omega)]; exact HP.out.2.symm
          · rw [List.getElem?_set_ne (by omega)]
            by_cases e3 : j = k * 2
            · subst e3
              rw [List.getElem?_set_self (by omega)]; exact HP.out.1.symm
            · rw [List.getElem?_set_ne (by omega)]; exact HX.out j (by omega)
        go_wp2
        exact ⟨⟨k + 1, _, by omega, by go_num, S2.out.1, HN.out, (B3.out.setCell (Nat.le_refl _) _).setCell (Nat.le_refl _) _⟩, by simp only [intOf]; omega⟩
    · have hkl : k = l.length := by omega
      have HE : Hid (xs = pc l) := by
        show xs = pc l
        apply List.ext_getElem?
        intro j
        by_cases hj : j < k * 2
        · exact HX.out j hj
        · rw [List.getElem?_eq_none (by have := HXL.out; omega), List.getElem?_eq_none (by rw [pc_length]; omega)]
      clear hkl
      go_wp2
      go_ret
      exact ⟨_, rfl, by have h := HW.out; rw [HE.out] at h; exact h, hb⟩
end Go.Proofs.YtghhjeebcpcepaaDoor
