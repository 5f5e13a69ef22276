/- The drawn arguments of chapter 6's laws: lists of coefficients, valid or nearly so. -/
import Derived.Test.YtcennddgbpkclaaDoorPolyLaw0
import Derived.Test.YtcennddgbpkclaaDoorPick
import Derived.Test.YtcennddgbpkclaaDoorFrom
import Derived.Test.YtcennddgbpkclaaDoorCommonLaw
namespace Go.Proofs.YtcennddgbpkclaaDoor
open Go.RowKit
set_option linter.unusedVariables false
set_option linter.unusedSimpArgs false
theorem grownBy_rest {p : Nat} {w w1 w2 : World} (h : w.grownBy w1 (some p)) (hb : Below w.heap.size w1 w2) : w.grownBy w2 (some p) :=
  ⟨hb.os.trans h.os, hb.tape.trans h.tape, hb.output.trans h.output, Nat.le_trans h.size hb.size, fun k hk hne => (hb.block k hk).trans (h.block k hk hne)⟩
theorem intRow_draw6 {w w' : World} {b p : Nat} {v : Value} {l : List Int} (h : IntRow b w v l) (hg : w.grownBy w' (some p)) (hp : p < b) : IntRow b w' v l := by
  refine World.ownsRow.kept h hg ?_
  cases hv : v.ownBlock with
  | none => exact .inl rfl
  | some k => right; intro e; have := World.ownsRow.lt h k hv; cases e; omega
/-- a row of the call's own, and the source that came in -/
def VS (o : Option Addr) (len cap p : Nat) (w wz : World) (v : Value) (l : List Int) : Prop := Src wz o len cap p ∧ w.grownBy wz (some p) ∧ IntRow w.heap.size wz v l ∧ p < w.heap.size
theorem vs_next {o : Option Addr} {len cap p : Nat} {w w1 w2 : World} {v : Value} {l : List Int} (h : VS o len cap p w w1 v l) (hs : Src w2 o len cap p) (hg : w1.grownBy w2 (some p)) : VS o len cap p w w2 v l :=
  ⟨hs, grownBy_tr h.2.1 hg, intRow_draw6 h.2.2.1 hg h.2.2.2, h.2.2.2⟩
theorem vs_app {o : Option Addr} {len cap p : Nat} {w w1 w2 : World} {v v' : Value} {l : List Int} {x : Int} {ob : Obj} (h : VS o len cap p w w1 v l) (hown : w2.ownsRow w.heap.size 2 1 v' (l.length + 1) (l.map (Value.int .i64) ++ [.int .i64 x]))
    (hg : (w1.alloc ob).grownBy w2 v.ownBlock) : VS o len cap p w w2 v' (l ++ [x]) := by
  have hB : Below w.heap.size w1 w2 := ((Below.refl w.heap.size w1).alloc h.2.1.size ob).grown hg (by have := h.2.1.size; simp; omega) (fun k hk => (World.ownsRow.lt h.2.2.1 k hk).1)
  exact ⟨src_below h.1 hB h.2.2.2, grownBy_rest h.2.1 hB, intRow_snoc hown, h.2.2.2⟩
theorem vs_made {o : Option Addr} {len cap p : Nat} {w : World} (h : Src w o len cap p) : VS o len cap p w (w.alloc (.cells #[] 2)) (.slice (some ⟨w.heap.size, 0, none⟩) 0 0) [] :=
  ⟨src_alloc h _, World.grownBy_alloc w _ _, intRow_made w, src_lt h⟩
theorem vs_lower {o : Option Addr} {len cap p : Nat} {w w1 w2 : World} {v : Value} {l : List Int} (h : VS o len cap p w1 w2 v l) (hg : w.grownBy w1 (some p)) (hp : p < w.heap.size) : VS o len cap p w w2 v l :=
  ⟨h.1, grownBy_tr hg h.2.1, intRow_lower h.2.2.1 hg.size, hp⟩
theorem vs_set {o : Option Addr} {len cap p g n c k : Nat} {w w1 : World} {l : List Int} (h : VS o len cap p w w1 (.slice (some ⟨g, 0, none⟩) n c) l) (hn : l.length = n) (hg : w.heap.size ≤ g) (x : Int) :
    VS o len cap p w (w1.setCell ⟨g, k, none⟩ (.int .i64 x)) (.slice (some ⟨g, 0, none⟩) n c) (l.set k x) := by
  have hB : Below w.heap.size w1 (w1.setCell ⟨g, k, none⟩ (.int .i64 x)) := (Below.refl _ _).setCell hg _
  exact ⟨src_below h.1 hB h.2.2.2, grownBy_rest h.2.1 hB, int_stored h.2.2.1 hn k x, h.2.2.2⟩
theorem below_one (w : World) (a : Obj) : Below w.heap.size w (w.alloc a) := (Below.refl _ _).alloc (Nat.le_refl _) _
theorem last_snoc {l : List Int} {x : Int} (h : x ≠ 0) : lastB (l ++ [x]) = true := by
  unfold lastB
  simp only [Bool.or_eq_true, Bool.not_eq_true', beq_eq_false_iff_ne]
  right
  simpa [List.getD] using h
def ValidP (d : Int) (l : List Int) : Prop := (l.length : Int) = d + 1 ∧ (∀ x ∈ l, -100 ≤ x ∧ x ≤ 100) ∧ lastB l = true
def DrawP (l : List Int) : Prop := l.length ≤ 10 ∧ ∀ x ∈ l, -1000001 ≤ x ∧ x ≤ 1000001
theorem valid_draw {d : Int} {l : List Int} (h : ValidP d l) (hd : d ≤ 9) : DrawP l := ⟨by have := h.1; omega, fun x hx => by have := h.2.1 x hx; omega⟩
theorem draw_get {l : List Int} (h : DrawP l) (k : Nat) : -1000001 ≤ l.getD k 0 ∧ l.getD k 0 ≤ 1000001 := by
  by_cases hk : k < l.length
  · rw [show l.getD k 0 = l[k] by simp [List.getD, hk]]; exact h.2 _ (List.getElem_mem _)
  · rw [getD_out (by omega)]; omega
theorem draw_set {l : List Int} (h : DrawP l) {k : Nat} {x : Int} (hx : -1000001 ≤ x ∧ x ≤ 1000001) : DrawP (l.set k x) :=
  ⟨by rw [List.length_set]; exact h.1, fun y hy => by rcases List.mem_or_eq_of_mem_set hy with hy | rfl; exact h.2 y hy; exact hx⟩
set_option maxRecDepth 20000 in
set_option maxHeartbeats 1600000 in
theorem l06Valid_any (d : Int) (o : Option Addr) (len cap p : Nat) (w : World) (d0 : 0 ≤ d) (d9 : d ≤ 9) (hs : Src w o len cap p) :
    Calls Tryd.prog 25 #[.pointer (some ⟨p, 0, none⟩), .int .i64 d] w fun e w' => ∃ v l, e = .returned v ∧ VS o len cap p w w' v l ∧ ValidP d l := by
  obtain ⟨i0, hi, hz0, hz1, hz2⟩ := info_parts Tryd.infoInt64
  have HI := Lib.hid hi
  have HZ0 := Lib.hid hz0
  have HZ1 := Lib.hid hz1
  have HZ2 := Lib.hid hz2
  clear hi hz0 hz1 hz2
  have HR := Lib.hid (vs_made hs)
  clear hs
  go_enter Tryd.func25, Tryd.ntmps25
  go_wp2_with fail
  go_loopw [5, 6] (fun s i wr => ∃ (N : Int) (l : List Int), i = .int .i64 N ∧ (l.length : Int) = N ∧ N ≤ d ∧ (∀ x ∈ l, -100 ≤ x ∧ x ≤ 100) ∧ VS o len cap p w wr s l) (fun _ i _ => (d - intOf i).toNat)
  case atStart => exact ⟨0, [], rfl, rfl, d0, by simp, HR.out⟩
  case round =>
    clear HR
    obtain ⟨N, l, rfl, hN, hNd, hall, R⟩ := hrel
    have HALL := Lib.hid hall
    clear hall
    have N0 : 0 ≤ N := by omega
    obtain ⟨o3, c3, hv⟩ := row_slice R.2.2.1
    subst hv
    by_cases hpos : N < d
    · have HN := Lib.hid hN
      clear hN
      go_wp2_with fail
      refine (next_any _ _ _ _ _ _ (by omega) R.1).mono ?_
      rintro e w1 ⟨ra, rfl, ra0, ra1, hs, hg, hz⟩
      have ra2 : ra < 13 := by omega
      replace R := vs_next R hs hg
      clear hs hg hz ra1
      have hwa := IntWalk.i64_in (ra - 6) (by omega)
      go_wp2_with fail
      refine (next_any _ _ _ _ _ _ (by omega) R.1).mono ?_
      rintro e w2 ⟨rb, rfl, rb0, rb1, hs, hg, hz⟩
      have rb2 : rb < 5 := by omega
      replace R := vs_next R hs hg
      clear hs hg hz rb1
      have hwb := IntWalk.i64_in (rb - 2) (by omega)
      go_wp2_with fail
      refine (next_any _ _ _ _ _ _ (by omega) R.1).mono ?_
      rintro e w3 ⟨rc, rfl, rc0, rc1, hs, hg, hz⟩
      have rc2 : rc < 201 := by omega
      replace R := vs_next R hs hg
      clear hs hg hz rc1
      have hwc := IntWalk.i64_in (rc - 100) (by omega)
      go_wp2_with fail
      refine (pick_new [ra - 6, rb - 2, 0, rc - 100] 2 4 o len cap p w3 R.1 (by simp) (by simp)).mono ?_
      rintro e w6 ⟨y, rfl, hy, hs6, hg6⟩
      have hyb : -100 ≤ y ∧ y ≤ 100 := by simp at hy; omega
      replace R := vs_next R hs6 hg6
      clear hs6 hg6 hy hwa hwb hwc ra0 ra2 rb0 rb2 rc0 rc2
      have hl9 : l.length ≤ 9 := by have := HN.out; omega
      go_wp2_with (at_builtin; refine wpList_append_own _ rfl (.tmp 13) (.tmp 26) 24 rfl w.heap.size 2 i0 (.int .i64 0) 1 8 Tryd.underlying24 HI.out HZ0.out HZ1.out HZ2.out rfl (by decide) _ _ _ rfl (R.2.2.1.alloc _) ⟨w6.heap.size, 0, none⟩ 1 1 [.int .i64 y] rfl rfl ?c1 ?c2 ?c3 ?c4 ?c5 ?_)
      case c1 => first | exact news_one _ _ _ | simp [Addr.add]
      case c2 => first | exact one_one _ | rfl
      case c3 => unfold maxLen; omega
      case c4 => omega
      case c5 => have := R.2.1.size; first | omega | (simp; omega)
      intro v' w7 hown hgrow _
      obtain ⟨oo, cc, hvv⟩ := row_slice hown
      subst hvv
      have R4 := vs_app R hown hgrow
      clear hown hgrow
      have HR4 := Lib.hid R4
      clear R R4
      have hw7 : IntKind.i64.wrap (N + 1) = N + 1 := IntWalk.i64_in _ (by omega)
      go_wp2_with fail
      exact ⟨⟨N + 1, l ++ [y], rfl, by have := HN.out; simp; omega, by omega, fun x hx => by rcases List.mem_append.1 hx with hx | hx; exact HALL.out x hx; (simp at hx; subst hx; exact hyb), HR4.out⟩, by simp only [intOf]; omega⟩
    · have HN := Lib.hid hN
      clear hN
      have hl9 : l.length ≤ 9 := by have := HN.out; omega
      go_wp2_with fail
      refine (next_any _ _ _ _ _ _ (by omega) R.1).mono ?_
      rintro e w1 ⟨ra, rfl, ra0, ra1, hs, hg, hz⟩
      have ra2 : ra < 6 := by omega
      replace R := vs_next R hs hg
      clear hs hg hz ra1
      have hwa := IntWalk.i64_in (1 + ra) (by omega)
      go_wp2_with fail
      refine (next_any _ _ _ _ _ _ (by omega) R.1).mono ?_
      rintro e w2 ⟨rb, rfl, rb0, rb1, hs, hg, hz⟩
      have rb2 : rb < 3 := by omega
      replace R := vs_next R hs hg
      clear hs hg hz rb1
      have hwb := IntWalk.i64_in (-1 - rb) (by omega)
      go_wp2_with fail
      refine (pick_new [1, 1, 1 + ra, -1 - rb] 2 4 o len cap p w2 R.1 (by simp) (by simp)).mono ?_
      rintro e w6 ⟨y, rfl, hy, hs6, hg6⟩
      have hyb : -100 ≤ y ∧ y ≤ 100 := by simp at hy; omega
      have hy0 : y ≠ 0 := by simp at hy; omega
      replace R := vs_next R hs6 hg6
      clear hs6 hg6 hy hwa hwb ra0 ra2 rb0 rb2
      go_wp2_with (at_builtin; refine wpList_append_own _ rfl (.tmp 28) (.tmp 38) 24 rfl w.heap.size 2 i0 (.int .i64 0) 1 8 Tryd.underlying24 HI.out HZ0.out HZ1.out HZ2.out rfl (by decide) _ _ _ rfl (R.2.2.1.alloc _) ⟨w6.heap.size, 0, none⟩ 1 1 [.int .i64 y] rfl rfl ?c1 ?c2 ?c3 ?c4 ?c5 ?_)
      case c1 => first | exact news_one _ _ _ | simp [Addr.add]
      case c2 => first | exact one_one _ | rfl
      case c3 => unfold maxLen; omega
      case c4 => omega
      case c5 => have := R.2.1.size; first | omega | (simp; omega)
      intro v' w7 hown hgrow _
      obtain ⟨oo, cc, hvv⟩ := row_slice hown
      subst hvv
      have R4 := vs_app R hown hgrow
      clear hown hgrow
      have HR4 := Lib.hid R4
      have HY0 := Lib.hid hy0
      clear R R4 hy0
      go_wp2_with fail
      go_ret
      exact ⟨_, l ++ [y], rfl, HR4.out, by have := HN.out; simp; omega, fun x hx => by rcases List.mem_append.1 hx with hx | hx; exact HALL.out x hx; (simp at hx; subst hx; exact hyb), last_snoc HY0.out⟩
set_option maxRecDepth 20000 in
set_option maxHeartbeats 1600000 in
theorem l06Draw_any (o : Option Addr) (len cap p : Nat) (w : World) (hs : Src w o len cap p) :
    Calls Tryd.prog 18 #[.pointer (some ⟨p, 0, none⟩)] w fun e w' => ∃ v l, e = .returned v ∧ VS o len cap p w w' v l ∧ DrawP l := by
  obtain ⟨i0, hi, hz0, hz1, hz2⟩ := info_parts Tryd.infoInt64
  have HI := Lib.hid hi
  have HZ0 := Lib.hid hz0
  have HZ1 := Lib.hid hz1
  have HZ2 := Lib.hid hz2
  clear hi hz0 hz1 hz2
  have HS := Lib.hid hs
  have hp := src_lt hs
  clear hs
  go_enter Tryd.func18, Tryd.ntmps18
  go_wp2_with fail
  refine (next_any _ _ _ _ _ _ (by omega) HS.out).mono ?_
  rintro e w1 ⟨r, rfl, r0, r1, hs1, hg1, hz1⟩
  have r2 : r < 6 := by omega
  clear hz1 r1
  go_wp2_with fail
  refine (l06Valid_any r o len cap p w1 r0 (by omega) hs1).mono ?_
  rintro e w2 ⟨v, l, rfl, R, hv⟩
  replace R := vs_lower R hg1 hp
  have HD := Lib.hid (valid_draw hv (by omega))
  have hl1 : 1 ≤ l.length ∧ l.length ≤ 6 := by have := hv.1; omega
  clear hs1 hg1 hv
  obtain ⟨o3, c3, hv⟩ := row_slice R.2.2.1
  subst hv
  go_wp2_with fail
  refine (next_any _ _ _ _ _ _ (by omega) R.1).mono ?_
  rintro e w3 ⟨t, rfl, t0, t1, hs, hg, hz⟩
  have t2 : t < 24 := by omega
  replace R := vs_next R hs hg
  clear hs hg hz t1
  by_cases h0 : t = 0
  · subst h0
    go_wp2_with (at_builtin; refine wpList_append_own _ rfl (.tmp 12) (.tmp 13) 24 rfl w.heap.size 2 i0 (.int .i64 0) 1 8 Tryd.underlying24 HI.out HZ0.out HZ1.out HZ2.out rfl (by decide) _ _ _ rfl (R.2.2.1.alloc _) ⟨w3.heap.size, 0, none⟩ 1 1 [.int .i64 0] rfl rfl ?c1 ?c2 ?c3 ?c4 ?c5 ?_)
    case c1 => first | exact news_one _ _ _ | simp [Addr.add]
    case c2 => first | exact one_one _ | rfl
    case c3 => unfold maxLen; omega
    case c4 => omega
    case c5 => have := R.2.1.size; first | omega | (simp; omega)
    intro v' w7 hown hgrow _
    obtain ⟨oo, cc, hvv⟩ := row_slice hown
    subst hvv
    have R4 := vs_app R hown hgrow
    clear hown hgrow
    have HR4 := Lib.hid R4
    clear R R4
    go_wp2_with fail
    go_ret
    exact ⟨_, l ++ [0], rfl, HR4.out, by simp; omega, fun x hx => by rcases List.mem_append.1 hx with hx | hx; exact HD.out.2 x hx; (simp at hx; omega)⟩
  · have h0' : (t == 0) = false := by simpa using h0
    by_cases h1 : t = 1
    · subst h1
      clear h0
      rcases row_shape R.2.2.1 with ⟨hz, _⟩ | ⟨_, g, c, hgc, hbg, hgl⟩
      · omega
      · injection hgc with e1 _ e2
        subst e1 e2
        go_wp2_with fail
        refine (pick_new [1000000, 1000001, -1000000] 2 3 o len cap p w3 R.1 (by simp) (by simp)).mono ?_
        rintro e w6 ⟨y, rfl, hy, hs6, hg6⟩
        have hyb : -1000001 ≤ y ∧ y ≤ 1000001 := by simp at hy; omega
        replace R := vs_next R hs6 hg6
        clear hs6 hg6 hy
        have c0 := int_at R.2.2.1 rfl (k := 0) (by omega)
        have f0 := int_frozen R.2.2.1 rfl 0
        have hlp : (0 : Int) < (l.length : Int) := by omega
        have HR4 := Lib.hid (vs_set R rfl hbg y (k := 0))
        clear R
        go_wp2_with fail
        go_ret
        exact ⟨_, l.set 0 y, rfl, HR4.out, draw_set HD.out hyb⟩
    · have h1' : (t == 1) = false := by simpa using h1
      by_cases h2 : t = 2
      · subst h2
        clear h0 h1
        go_wp2_with fail
        refine (next_any _ _ _ _ _ _ (by omega) R.1).mono ?_
        rintro e w4 ⟨q, rfl, q0, q1, hs, hg, hz⟩
        have q2 : q < 3 := by omega
        replace R := vs_next R hs hg
        clear hs hg hz q1
        have hwq := IntWalk.i64_in (7 + q) (by omega)
        go_wp2_with fail
        refine (l06Valid_any (7 + q) o len cap p w4 (by omega) (by omega) R.1).mono ?_
        rintro e w5 ⟨v, l2, rfl, R5, hv5⟩
        have HR5 := Lib.hid (vs_lower R5 R.2.1 hp)
        have HD5 := Lib.hid (valid_draw hv5 (by omega))
        clear R R5 hv5
        go_wp2_with fail
        go_ret
        exact ⟨_, l2, rfl, HR5.out, HD5.out⟩
      · have h2' : (t == 2) = false := by simpa using h2
        by_cases h3 : t = 3
        · subst h3
          clear h0 h1 h2
          have HR5 := Lib.hid (vs_lower (vs_made R.1) R.2.1 hp)
          clear R
          go_wp2_with fail
          go_ret
          exact ⟨_, [], rfl, HR5.out, by simp, by simp⟩
        · have h3' : (t == 3) = false := by simpa using h3
          clear h0 h1 h2 h3
          have HR5 := Lib.hid R
          clear R
          go_wp2_with fail
          go_ret
          exact ⟨_, l, rfl, HR5.out, HD.out⟩
end Go.Proofs.YtcennddgbpkclaaDoor
