/- The walk of the law FnExactPowersText: true for every list that came in, in a world that holds strconv's table of powers of ten; below the old memory nothing has turned. -/
import Derived.Test.YtghhjeebcpcepaaDoorPowersText
import Derived.Test.YtghhjeebcpcepaaDoorToPow
namespace Go.Proofs.YtghhjeebcpcepaaDoor
open Go.RowKit
set_option linter.unusedVariables false
theorem argPow_below {w w' : World} {o : Option Addr} {l : List (Int × Int)} (h : ArgPow w o l) (hb : Below w.heap.size w w') : ArgPow w' o l := by
  rcases h with h | ⟨b, off, ho, hlt, hc⟩
  · exact .inl h
  · exact .inr ⟨b, off, ho, Nat.lt_of_lt_of_le hlt hb.size, fun k hk => by rw [hb.cell (by exact hlt), hb.cell (by exact hlt)]; exact hc k hk⟩
theorem row_str {w : World} {base : Nat} {T : TypeId} {sz : Nat} {v : Value} {n : Nat} {xs : List Value} (h : w.ownsRow base T sz v n xs) : ∃ o c, v = .slice o n c := by
  rcases row_shape h with ⟨h0, o, c, rfl⟩ | ⟨_, g, c, rfl, _⟩
  · exact ⟨o, c, by rw [h0]⟩
  · exact ⟨_, c, rfl⟩
set_option maxRecDepth 100000 in
set_option maxHeartbeats 1600000 in
theorem text_core (o : Option Addr) (c : Nat) (l : List (Int × Int)) (w : World) (hn : l.length ≤ 1048576) (ha : ArgPow w o l) (ht : Tab w) :
    Calls Tryd.prog 5 #[.slice o l.length c] w fun e w' => e = .returned (.bool true) ∧ Below w.heap.size w w' := by
  have HA := Lib.hid ha
  have HT := Lib.hid ht
  clear ha ht
  go_enter Tryd.func5, Tryd.ntmps5
  go_wp2_with fail
  refine (szPowerS_any _ _ _ _ hn).mono ?_
  rintro e w' ⟨⟨q, q0, rfl⟩, rfl⟩
  go_wp2_with fail
  refine (toPowerS_any _ _ l _ hn HA.out).mono ?_
  rintro e w1 ⟨v1, rfl, r1, b1⟩
  obtain ⟨o1, c1, rfl⟩ := row_str r1
  have R1 := Lib.hid r1
  have B1 := Lib.hid b1
  clear r1 b1
  go_wp2_with fail
  refine (specText_any _ _ _ l _ (by omega) R1.out).mono ?_
  rintro e w2 ⟨rfl, b2⟩
  have B2 := Lib.hid (B1.out.trans (b2.mono B1.out.size))
  have A2 := Lib.hid (argPow_below HA.out B2.out)
  clear b2
  go_wp2_with fail
  refine (toPowerS_any _ _ l _ hn A2.out).mono ?_
  rintro e w3 ⟨v3, rfl, r3, b3⟩
  obtain ⟨o3, c3, rfl⟩ := row_str r3
  have R3 := Lib.hid r3
  have B3 := Lib.hid (B2.out.trans (b3.mono B2.out.size))
  have T3 := Lib.hid (tab_below HT.out B3.out (Nat.le_refl _))
  clear r3 b3
  go_wp2_with fail
  refine (implText_any _ _ _ l _ (by omega) R3.out T3.out).mono ?_
  rintro e w4 ⟨rfl, b4⟩
  have R4 := Lib.hid (row_below R3.out b4 (Nat.le_refl _))
  have B4 := Lib.hid (B3.out.trans (b4.mono B3.out.size))
  have A4 := Lib.hid (argPow_below HA.out B4.out)
  clear b4
  go_wp2_with fail
  refine (toPowerS_any _ _ l _ hn A4.out).mono ?_
  rintro e w5 ⟨v5, rfl, r5, b5⟩
  have R45 := Lib.hid (row_below R4.out b5 (Nat.le_refl _))
  have R5 := Lib.hid r5
  have B5 := Lib.hid (B4.out.trans (b5.mono B4.out.size))
  clear r5 b5
  go_wp2_with fail
  refine (eqPow_same R45.out R5.out (by omega)).mono ?_
  rintro e w6 ⟨rfl, b6⟩
  have B6 := Lib.hid (B5.out.trans (b6.mono B5.out.size))
  clear b6
  go_wp2
  go_ret
  exact ⟨rfl, B6.out⟩
theorem text_big (o : Option Addr) (n c : Nat) (w : World) (hn : 1048576 < n) (hm : n ≤ 9223372036854775807) :
    Calls Tryd.prog 5 #[.slice o n c] w fun e w' => e = .returned (.bool true) ∧ Below w.heap.size w w' := by
  go_enter Tryd.func5, Tryd.ntmps5
  go_wp2_with fail
  refine (szPowerS_big _ _ _ _ hn hm).mono ?_
  rintro e w' ⟨rfl, rfl⟩
  go_wp2
  go_ret
  exact ⟨rfl, Below.refl _ _⟩
end Go.Proofs.YtghhjeebcpcepaaDoor
