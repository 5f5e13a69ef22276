/- The draws of the law on texts of prime powers: DrawReadPowers, DrawPowersText. -/
import Derived.Test.YtghhjeebcpcepaaDoorDamage
import Derived.Test.YtghhjeebcpcepaaDoorFact
import Derived.Test.YtghhjeebcpcepaaDoorTextMath
namespace Go.Proofs.YtghhjeebcpcepaaDoor
open Go.RowKit
set_option linter.unusedVariables false
/-- a text, drawn -/
def TextPost (w : World) (e : Ending) (w' : World) : Prop := ∃ t : ByteArray, e = .returned (.string t) ∧ t.size ≤ 3000 ∧ Below w.heap.size w w'
set_option maxHeartbeats 1600000 in
theorem drawReadPowers_any (o : Option Addr) (len cap : Nat) (w : World) (hl : len ≤ 4096) (hc : CodeIn w o len) :
    Calls Tryd.prog 13 #[.slice o len cap] w (TextPost w) := by
  have HC := Lib.hid hc
  clear hc
  go_enter Tryd.func13, Tryd.ntmps13
  go_wp2_with fail
  refine (from_any _ _ _ _ hl HC.out).mono ?_
  rintro e w1 ⟨p, rfl, hp, hs1, hb1⟩
  have H1 := Lib.hid (And.intro hs1 hb1)
  have HP := Lib.hid hp
  clear hs1 hb1 hp
  go_wp2_with fail
  refine (next_any _ _ _ _ _ _ (by omega) H1.out.1).mono ?_
  rintro e w2 ⟨r, rfl, r0, r1, hs2, hg2, hz2⟩
  have H2 := Lib.hid (And.intro hs2 (below_draw H1.out.2 hg2 HP.out H1.out.2.size))
  have r2 : r < 100000 := by omega
  clear hs2 hg2 hz2 r1
  have HA := Lib.hid (factT_arePow (n := 1 + r) (by omega) (by omega))
  obtain ⟨l, hl'⟩ : ∃ l, factT (1 + r) = l := ⟨_, rfl⟩
  have HF := Lib.hid (fun w => l01Factor_any (1 + r) w (by omega) (by omega))
  rw [hl'] at HA HF
  clear hl'
  go_wp2_with fail
  refine (HF.out _).mono ?_
  rintro e w3 ⟨v, rfl, hrow, hb3⟩
  obtain ⟨o3, c3, rfl⟩ := powRow_slice hrow
  have R3 := Lib.hid hrow
  have H3 := Lib.hid (And.intro (src_below H2.out.1 hb3 (src_lt H2.out.1)) (H2.out.2.trans (hb3.mono H2.out.2.size)))
  clear hrow hb3
  go_wp2_with fail
  refine (l01PowersText_any _ _ _ l _ HA.out R3.out).mono ?_
  rintro e w4 ⟨rfl, hb4⟩
  have H4 := Lib.hid (And.intro (src_below H3.out.1 hb4 (src_lt H3.out.1)) (H3.out.2.trans (hb4.mono H3.out.2.size)))
  have hsz : (bsOf (psT l)).size ≤ 2600 := by rw [bs_size]; exact psT_len HA.out
  clear hb4
  go_wp2_with fail
  refine (next_any _ _ _ _ _ _ (by omega) H4.out.1).mono ?_
  rintro e w5 ⟨q, rfl, q0, q1, hs5, hg5, hz5⟩
  have H5 := Lib.hid (And.intro hs5 (below_draw H4.out.2 hg5 HP.out H4.out.2.size))
  clear hs5 hg5 hz5 q1
  by_cases hq : q = 0
  · subst hq
    go_wp2_with fail
    refine (damage_any _ _ _ _ _ _ (by omega) H5.out.1).mono ?_
    rintro e w6 ⟨t, rfl, ht, hs6, hg6⟩
    have H6 := Lib.hid (And.intro ht (below_draw H5.out.2 hg6 HP.out H5.out.2.size))
    clear hs6 hg6 ht
    go_wp2
    go_ret
    exact ⟨_, rfl, by have := H6.out.1; omega, H6.out.2⟩
  · have hq' : (q == 0) = false := by simpa using hq
    clear hq
    go_wp2
    go_ret
    exact ⟨_, rfl, by omega, H5.out.2⟩
/-- prime powers or nearly such, drawn: a row in new memory -/
def PowsPost (w : World) (e : Ending) (w' : World) : Prop := ∃ v l, e = .returned v ∧ PowRow w.heap.size w' v l ∧ l.length ≤ 2001 ∧ Below w.heap.size w w'
theorem powRow_mono {w : World} {b b' : Nat} {v : Value} {l : List (Int × Int)} (h : PowRow b w v l) (hb : b' ≤ b) : PowRow b' w v l :=
  ⟨h.1, h.2.imp id fun ⟨g, cap, cur, h1, h2, h3⟩ => ⟨g, cap, cur, h1, Nat.le_trans hb h2, h3⟩⟩
theorem powRow_draw {w w' : World} {b p : Nat} {v : Value} {l : List (Int × Int)} (h : PowRow b w v l) (hg : w.grownBy w' (some p)) (hp : p < b) : PowRow b w' v l := by
  refine World.ownsRow.kept h hg ?_
  cases hv : v.ownBlock with
  | none => exact .inl rfl
  | some k => right; intro e; have := World.ownsRow.lt h k hv; cases e; omega
theorem powRow_set {b g c : Nat} {w : World} {a : Int × Int} {r : List (Int × Int)} (h : PowRow b w (.slice (some ⟨g, 0, none⟩) (a :: r).length c) (a :: r)) (y : Int) :
    PowRow b (w.setCell ⟨g, 1, none⟩ (.int .i64 y)) (.slice (some ⟨g, 0, none⟩) (a :: r).length c) ((a.1, y) :: r) ∧ w.grownBy (w.setCell ⟨g, 1, none⟩ (.int .i64 y)) (some g) := by
  have hs := World.ownsRow.stored h 1 (.int .i64 y)
  have e : (pc (a :: r)).set 1 (.int .i64 y) = pc ((a.1, y) :: r) := by simp [pc]
  rw [e] at hs
  exact hs
set_option maxHeartbeats 1600000 in
theorem drawPowersText_any (o : Option Addr) (len cap : Nat) (w : World) (hl : len ≤ 4096) (hc : CodeIn w o len) :
    Calls Tryd.prog 10 #[.slice o len cap] w (PowsPost w) := by
  obtain ⟨i0, hi, hz0, hz1, hz2⟩ := info_parts Tryd.infoPower
  have HI := Lib.hid hi
  have HZ0 := Lib.hid hz0
  have HZ1 := Lib.hid hz1
  have HZ2 := Lib.hid hz2
  have HC := Lib.hid hc
  clear hi hz0 hz1 hz2 hc
  go_enter Tryd.func10, Tryd.ntmps10
  go_wp2_with fail
  refine (from_any _ _ _ _ hl HC.out).mono ?_
  rintro e w1 ⟨p, rfl, hp, hs1, hb1⟩
  have H1 := Lib.hid (And.intro hs1 hb1)
  have HP := Lib.hid hp
  clear hs1 hb1 hp
  go_wp2_with fail
  refine (next_any _ _ _ _ _ _ (by omega) H1.out.1).mono ?_
  rintro e w2 ⟨r, rfl, r0, r1, hs2, hg2, hz2⟩
  have H2 := Lib.hid (And.intro hs2 (below_draw H1.out.2 hg2 HP.out H1.out.2.size))
  have r2 : r < 100000 := by omega
  clear hs2 hg2 hz2 r1
  have HL := factT_length (n := 1 + r) (by omega) (by omega)
  obtain ⟨l, hl'⟩ : ∃ l, factT (1 + r) = l := ⟨_, rfl⟩
  have HF := Lib.hid (fun w => l01Factor_any (1 + r) w (by omega) (by omega))
  rw [hl'] at HL HF
  clear hl'
  go_wp2_with fail
  refine (HF.out _).mono ?_
  rintro e w3 ⟨v, rfl, hrow, hb3⟩
  obtain ⟨o3, c3, rfl⟩ := powRow_slice hrow
  have hp2 := src_lt H2.out.1
  have bw2 := H2.out.2.size
  have z3 := hb3.size
  have R3 := Lib.hid hrow
  have H3 := Lib.hid (And.intro (src_below H2.out.1 hb3 hp2) (H2.out.2.trans (hb3.mono H2.out.2.size)))
  clear hrow hb3
  go_wp2_with fail
  refine (next_any _ _ _ _ _ _ (by omega) H3.out.1).mono ?_
  rintro e w4 ⟨q, rfl, q0, q1, hs4, hg4, hz4⟩
  have R4 := Lib.hid (powRow_draw R3.out hg4 hp2)
  have H4 := Lib.hid (And.intro hs4 (below_draw H3.out.2 hg4 HP.out H3.out.2.size))
  have z4 : w2.heap.size ≤ w4.heap.size := Nat.le_trans z3 hg4.size
  clear hs4 hg4 hz4 q1 R3
  by_cases e0 : q = 0
  · subst e0
    go_wp2_with fail
    refine (pick_new [4, 2, 999983, 1000003] 2 4 _ _ _ _ w4 H4.out.1 (by simp) (by simp)).mono ?_
    rintro e w5 ⟨x, rfl, hx, hs5, hg5⟩
    have R5 := Lib.hid (powRow_draw R4.out hg5 hp2)
    have H5 := Lib.hid (And.intro hs5 (below_draw H4.out.2 hg5 HP.out H4.out.2.size))
    have z5 : w2.heap.size ≤ w5.heap.size := Nat.le_trans z4 hg5.size
    clear hs5 hg5 hx
    go_wp2_with fail
    refine (pick_new [1, 0, 40, 41] 2 4 _ _ _ _ w5 H5.out.1 (by simp) (by simp)).mono ?_
    rintro e w6 ⟨y, rfl, hy, hs6, hg6⟩
    have R6 := Lib.hid (powRow_draw R5.out hg6 hp2)
    have H6 := Lib.hid (And.intro hs6 (below_draw H5.out.2 hg6 HP.out H5.out.2.size))
    have z6 : w2.heap.size ≤ w6.heap.size := Nat.le_trans z5 hg6.size
    clear hs6 hg6 hy R5 R4
    go_wp2_with (at_builtin; refine wpList_append_own _ rfl (.tmp 15) (.tmp 23) 24 rfl w2.heap.size 54 i0 (.agg #[.int .i64 0, .int .i64 0]) 2 16 Tryd.underlying24 HI.out HZ0.out HZ1.out HZ2.out rfl (by decide) _ _ _ rfl (R6.out.alloc _) ⟨w6.heap.size, 0, none⟩ 1 1 [.int .i64 x, .int .i64 y] rfl rfl ?c1 ?c2 ?c3 ?c4 ?c5 ?_)
    case c1 => exact news_two _ _ _ _
    case c2 => first | exact one_two _ _ | exact ⟨rfl, rfl⟩
    case c3 => unfold maxLen; omega
    case c4 => omega
    case c5 => first | omega | (simp; omega)
    intro v' w7 hown hgrow _
    have HO := Lib.hid (powRow_snoc hown)
    have HG := Lib.hid (Below.grown (Below.alloc H6.out.2 H6.out.2.size _) hgrow (by simp; omega) (fun k hk => by have := (World.ownsRow.lt R6.out k hk).1; omega))
    clear hown hgrow
    go_wp2
    go_ret
    exact ⟨_, _, rfl, powRow_mono HO.out bw2, by simp; omega, HG.out⟩
  · have e0' : (q == 0) = false := by simpa using e0
    by_cases e1 : q = 1
    · subst e1
      clear e0 e0'
      cases l with
      | nil =>
        go_wp2
        go_ret
        exact ⟨_, _, rfl, powRow_mono R4.out bw2, by simp, H4.out.2⟩
      | cons a l =>
        obtain ⟨g, c, rfl, hg⟩ : ∃ g c, o3 = some ⟨g, 0, none⟩ ∧ w2.heap.size ≤ g := by
          rcases row_shape R4.out with ⟨h0, _⟩ | ⟨_, g, c, hv, hb, _⟩
          · simp at h0
          · cases hv; exact ⟨g, 0, rfl, hb⟩
        go_wp2_with fail
        refine (pick_new [0, 40, 41] 2 3 _ _ _ _ w4 H4.out.1 (by simp) (by simp)).mono ?_
        rintro e w5 ⟨y, rfl, hy, hs5, hg5⟩
        have R5 := Lib.hid (powRow_draw R4.out hg5 hp2)
        have H5 := Lib.hid (And.intro hs5 (below_draw H4.out.2 hg5 HP.out H4.out.2.size))
        have hf := World.ownsRow.frozenAt R5.out 1
        have hcell := pow_cells R5.out 0 (by simp)
        have RS := Lib.hid (powRow_set R5.out y)
        clear hs5 hg5 hy R4
        go_wp2
        go_ret
        exact ⟨_, (a.1, y) :: l, rfl, powRow_mono RS.out.1 bw2, by simp at HL ⊢; omega, Below.grown H5.out.2 RS.out.2 H5.out.2.size (fun k hk => by cases hk; omega)⟩
    · have e1' : (q == 1) = false := by simpa using e1
      clear e0 e1
      go_wp2
      go_ret
      exact ⟨_, _, rfl, powRow_mono R4.out bw2, by omega, H4.out.2⟩
end Go.Proofs.YtghhjeebcpcepaaDoor
