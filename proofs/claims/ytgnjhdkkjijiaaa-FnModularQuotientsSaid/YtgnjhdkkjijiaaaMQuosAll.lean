/- The walk of the law FnModularQuotients: true for every code; below the old memory nothing has turned. (joined of several texts) -/
import Derived.Test.YtgnjhdkkjijiaaaPick
import Derived.Test.YtgnjhdkkjijiaaaBez
import Derived.Test.YtgnjhdkkjijiaaaPolyLaw0
import Derived.Test.YtgnjhdkkjijiaaaModSpec
import Derived.Test.YtgnjhdkkjijiaaaModSpec3
import Derived.RangeFuncNested
import Derived.RangeFuncBound
import Derived.RangeFuncCalls
import Derived.RangeFuncLeaves
import Derived.RangeFuncBox
import Derived.WalkKit
import Derived.OwnWalkIn
import Derived.TacticsInMore
import Derived.LoopNIn
import Derived.LoopIn
import Derived.Shelf.Abstract
import Derived.Test.YtgnjhdkkjijiaaaRangeB
import Derived.Test.YtgnjhdkkjijiaaaStillIn
import Derived.Test.YtgnjhdkkjijiaaaRow
import Derived.Test.YtgnjhdkkjijiaaaModImpl
import Derived.Deep.RegionHeld3
import Derived.OpenShut
namespace Go.Proofs.Ytgnjhdkkjijiaaa
open Go.RowKit
set_option linter.unusedVariables false
/-- a code that came in -/
def CodeIn (w : World) (o : Option Addr) (len : Nat) : Prop :=
  len = 0 ∨ ∃ b off, o = some ⟨b, off, none⟩ ∧ b < w.heap.size ∧ ∀ i, i < len → ∃ z : Int, w.cell? ⟨b, off + i, none⟩ = some (.int .u8 z) ∧ 0 ≤ z ∧ z ≤ 255
def FromPost (o : Option Addr) (len cap : Nat) (w : World) (e : Ending) (w' : World) : Prop :=
  ∃ p, e = .returned (.pointer (some ⟨p, 0, none⟩)) ∧ w.heap.size ≤ p ∧ Src w' o len cap p ∧ Below w.heap.size w w'
theorem srcAt_new (w : World) (o : Option Addr) (len cap : Nat) (T : TypeId) (hl : len ≤ 4096) (hc : CodeIn w o len) :
    SrcAt (w.alloc (.cells #[.slice o len cap, .int .i64 0, .int .i64 31019] T)) o len cap w.heap.size 0 31019 := by
  refine ⟨?_, ?_, ?_, fun i => World.frozen?_alloc_at _ _ _ _ rfl, Nat.zero_le _, hl, by omega, by omega, ?_⟩
  · rw [World.cell?_alloc_new]; rfl
  · rw [World.cell?_alloc_new]; rfl
  · rw [World.cell?_alloc_new]; rfl
  · rcases hc with h0 | ⟨b, off, ho, hb, hc⟩
    · exact .inl h0
    · refine .inr ⟨b, off, ho, hb, fun i hi => ?_⟩
      rw [World.cell?_alloc_past _ _ _ hb]; exact hc i hi
set_option maxRecDepth 20000 in
set_option maxHeartbeats 800000 in
theorem from_any (o : Option Addr) (len cap : Nat) (w : World) (hl : len ≤ 4096) (hc : CodeIn w o len) :
    Calls Try.prog 54 #[.slice o len cap] w (FromPost o len cap w) := by
  have HN := Lib.hid (srcAt_new w o len cap 77 hl hc)
  clear hc
  go_enter Try.func54, Try.ntmps54
  go_wp2
  go_loopw [4] (fun i wr => ∃ (k : Nat) (s : Int), k ≤ len ∧ i = .int .i64 k ∧ SrcAt wr o len cap w.heap.size 0 s ∧ Below w.heap.size w wr) (fun i _ => len - (intOf i).toNat)
  case atStart => exact ⟨0, 31019, Nat.zero_le _, rfl, HN.out, (Below.refl _ _).alloc (Nat.le_refl _) _⟩
  case round =>
    obtain ⟨k, s, hk, rfl, hs, hb⟩ := hrel
    have s0 := hs.s0
    have s1 := hs.s1
    have a2 := hs.c2
    have az := hs.fz 2
    have HS := Lib.hid hs
    have HB := Lib.hid hb
    clear hs hb HN
    by_cases hlt : k < len
    · by_cases h64 : k < 64
      · obtain ⟨b, off, rfl, hbp, hc⟩ : ∃ b off, o = some ⟨b, off, none⟩ ∧ b < w.heap.size ∧ ∀ i, i < len → ∃ z : Int, wr.cell? ⟨b, off + i, none⟩ = some (.int .u8 z) ∧ 0 ≤ z ∧ z ≤ 255 := by
          rcases HS.out.code with h0 | h0
          · omega
          · exact h0
        obtain ⟨z, hz, z0, z1⟩ := hc k hlt
        clear hc
        go_wp2
        go_still_tail 15, (by kernel_rfl)
        go_wp2
        exact ⟨⟨k + 1, (s * 61 + z) % 2147483647, by omega, by go_num, srcAt_drewN (srcAt_seed HS.out (by omega) (by omega)) 1, (HB.out.setCell (Nat.le_refl _) _).drew⟩, by simp only [intOf]; omega⟩
      · go_wp2
        go_ret
        exact ⟨_, rfl, Nat.le_refl _, ⟨_, _, HS.out⟩, HB.out⟩
    · go_wp2
      go_ret
      exact ⟨_, rfl, Nat.le_refl _, ⟨_, _, HS.out⟩, HB.out⟩
end Go.Proofs.Ytgnjhdkkjijiaaa
namespace Go.Proofs.Ytgnjhdkkjijiaaa
open Go.RowKit
set_option linter.unusedVariables false
theorem prod_bd {k r : Int} (h1 : 1 ≤ k) (h2 : k ≤ 40) (h3 : 0 ≤ r) (h4 : r ≤ 200) : -4000 ≤ k * (r - 100) ∧ k * (r - 100) ≤ 4000 := by
  have : (k * (r - 100)).natAbs ≤ 40 * 100 := by
    rw [Int.natAbs_mul]; exact Nat.mul_le_mul (by omega) (by omega)
  omega
/-- two numbers, drawn -/
def TwoPost (w : World) (e : Ending) (w' : World) : Prop := ∃ a b : Int, e = .returned (.tuple #[.int .i64 a, .int .i64 b]) ∧ Below w.heap.size w w'
def OnePost (w : World) (e : Ending) (w' : World) : Prop := ∃ a : Int, e = .returned (.int .i64 a) ∧ Below w.heap.size w w'
/-- a step of drawing, below the source's block -/
theorem below_draw {B p : Nat} {a w w' : World} (h : Below B a w) (hg : w.grownBy w' (some p)) (hp : B ≤ p) (hw : B ≤ w.heap.size) : Below B a w' :=
  h.grown hg hw (fun k hk => by cases hk; exact hp)
theorem big_no (o : Option Addr) (len cap : Nat) (w : World) (hl : len ≤ 4096) :
    Calls Try.prog 15 #[.slice o len cap] w fun e w' => e = .returned (.bool false) ∧ w = w' := by
  go_enter Try.func15, Try.ntmps15
  go_wp2
  go_ret
  exact ⟨ret_bool (decide_eq_false (by omega)), rfl⟩
theorem big_yes (o : Option Addr) (len cap : Nat) (w : World) (hl : 4096 < len) (hm : len ≤ 9223372036854775807) :
    Calls Try.prog 15 #[.slice o len cap] w fun e w' => e = .returned (.bool true) ∧ w = w' := by
  go_enter Try.func15, Try.ntmps15
  go_wp2
  go_ret
  exact ⟨ret_bool (decide_eq_true (by omega)), rfl⟩
theorem codeIn_below {w w' : World} {B : Nat} {o : Option Addr} {len : Nat} (h : CodeIn w o len) (hb : Below w.heap.size w w') : CodeIn w' o len := by
  rcases h with h | ⟨b, off, ho, hlt, hc⟩
  · exact .inl h
  · exact .inr ⟨b, off, ho, Nat.lt_of_lt_of_le hlt hb.size, fun i hi => by rw [hb.cell (by exact hlt)]; exact hc i hi⟩
end Go.Proofs.Ytgnjhdkkjijiaaa
namespace Go.Proofs.Ytgnjhdkkjijiaaa
open Go.RowKit
set_option linter.unusedVariables false
set_option linter.unusedSimpArgs false
theorem grownBy_rest {p : Nat} {w w1 w2 : World} (h : w.grownBy w1 (some p)) (hb : Below w.heap.size w1 w2) : w.grownBy w2 (some p) :=
  ⟨hb.os.trans h.os, hb.tape.trans h.tape, hb.output.trans h.output, Nat.le_trans h.size hb.size, fun k hk hne => (hb.block k hk).trans (h.block k hk hne)⟩
theorem intRow_draw6 {w w' : World} {b p : Nat} {v : Value} {l : List Int} (h : IntRow b w v l) (hg : w.grownBy w' (some p)) (hp : p < b) : IntRow b w' v l := by
  refine World.ownsRow.kept h hg ?_
  cases hv : v.ownBlock with
  | none => exact .inl rfl
  | some k => right; intro e; have := World.ownsRow.lt h k hv; cases e; omega
/-- a row of the call's own, and the source that came in -/
def VS (o : Option Addr) (len cap p : Nat) (w wz : World) (v : Value) (l : List Int) : Prop := Src wz o len cap p ∧ w.grownBy wz (some p) ∧ IntRow w.heap.size wz v l ∧ p < w.heap.size
theorem vs_next {o : Option Addr} {len cap p : Nat} {w w1 w2 : World} {v : Value} {l : List Int} (h : VS o len cap p w w1 v l) (hs : Src w2 o len cap p) (hg : w1.grownBy w2 (some p)) : VS o len cap p w w2 v l :=
  ⟨hs, grownBy_tr h.2.1 hg, intRow_draw6 h.2.2.1 hg h.2.2.2, h.2.2.2⟩
theorem vs_app {o : Option Addr} {len cap p : Nat} {w w1 w2 : World} {v v' : Value} {l : List Int} {x : Int} {ob : Obj} (h : VS o len cap p w w1 v l) (hown : w2.ownsRow w.heap.size 2 1 v' (l.length + 1) (l.map (Value.int .i64) ++ [.int .i64 x]))
    (hg : (w1.alloc ob).grownBy w2 v.ownBlock) : VS o len cap p w w2 v' (l ++ [x]) := by
  have hB : Below w.heap.size w1 w2 := ((Below.refl w.heap.size w1).alloc h.2.1.size ob).grown hg (by have := h.2.1.size; simp; omega) (fun k hk => (World.ownsRow.lt h.2.2.1 k hk).1)
  exact ⟨src_below h.1 hB h.2.2.2, grownBy_rest h.2.1 hB, intRow_snoc hown, h.2.2.2⟩
theorem vs_made {o : Option Addr} {len cap p : Nat} {w : World} (h : Src w o len cap p) : VS o len cap p w (w.alloc (.cells #[] 2)) (.slice (some ⟨w.heap.size, 0, none⟩) 0 0) [] :=
  ⟨src_alloc h _, World.grownBy_alloc w _ _, intRow_made w, src_lt h⟩
theorem vs_lower {o : Option Addr} {len cap p : Nat} {w w1 w2 : World} {v : Value} {l : List Int} (h : VS o len cap p w1 w2 v l) (hg : w.grownBy w1 (some p)) (hp : p < w.heap.size) : VS o len cap p w w2 v l :=
  ⟨h.1, grownBy_tr hg h.2.1, intRow_lower h.2.2.1 hg.size, hp⟩
theorem vs_set {o : Option Addr} {len cap p g n c k : Nat} {w w1 : World} {l : List Int} (h : VS o len cap p w w1 (.slice (some ⟨g, 0, none⟩) n c) l) (hn : l.length = n) (hg : w.heap.size ≤ g) (x : Int) :
    VS o len cap p w (w1.setCell ⟨g, k, none⟩ (.int .i64 x)) (.slice (some ⟨g, 0, none⟩) n c) (l.set k x) := by
  have hB : Below w.heap.size w1 (w1.setCell ⟨g, k, none⟩ (.int .i64 x)) := (Below.refl _ _).setCell hg _
  exact ⟨src_below h.1 hB h.2.2.2, grownBy_rest h.2.1 hB, int_stored h.2.2.1 hn k x, h.2.2.2⟩
theorem below_one (w : World) (a : Obj) : Below w.heap.size w (w.alloc a) := (Below.refl _ _).alloc (Nat.le_refl _) _
theorem last_snoc {l : List Int} {x : Int} (h : x ≠ 0) : lastB (l ++ [x]) = true := by
  unfold lastB
  simp only [Bool.or_eq_true, Bool.not_eq_true', beq_eq_false_iff_ne]
  right
  simpa [List.getD] using h
def ValidP (d : Int) (l : List Int) : Prop := (l.length : Int) = d + 1 ∧ (∀ x ∈ l, -100 ≤ x ∧ x ≤ 100) ∧ lastB l = true
def DrawP (l : List Int) : Prop := l.length ≤ 10 ∧ ∀ x ∈ l, -1000001 ≤ x ∧ x ≤ 1000001
theorem valid_draw {d : Int} {l : List Int} (h : ValidP d l) (hd : d ≤ 9) : DrawP l := ⟨by have := h.1; omega, fun x hx => by have := h.2.1 x hx; omega⟩
theorem draw_get {l : List Int} (h : DrawP l) (k : Nat) : -1000001 ≤ l.getD k 0 ∧ l.getD k 0 ≤ 1000001 := by
  by_cases hk : k < l.length
  · rw [show l.getD k 0 = l[k] by simp [List.getD, hk]]; exact h.2 _ (List.getElem_mem _)
  · rw [getD_out (by omega)]; omega
theorem draw_set {l : List Int} (h : DrawP l) {k : Nat} {x : Int} (hx : -1000001 ≤ x ∧ x ≤ 1000001) : DrawP (l.set k x) :=
  ⟨by rw [List.length_set]; exact h.1, fun y hy => by rcases List.mem_or_eq_of_mem_set hy with hy | rfl; exact h.2 y hy; exact hx⟩
set_option maxRecDepth 20000 in
set_option maxHeartbeats 1600000 in
theorem l06Valid_any (d : Int) (o : Option Addr) (len cap p : Nat) (w : World) (d0 : 0 ≤ d) (d9 : d ≤ 9) (hs : Src w o len cap p) :
    Calls Try.prog 90 #[.pointer (some ⟨p, 0, none⟩), .int .i64 d] w fun e w' => ∃ v l, e = .returned v ∧ VS o len cap p w w' v l ∧ ValidP d l := by
  obtain ⟨i0, hi, hz0, hz1, hz2⟩ := info_parts Try.infoInt64
  have HI := Lib.hid hi
  have HZ0 := Lib.hid hz0
  have HZ1 := Lib.hid hz1
  have HZ2 := Lib.hid hz2
  clear hi hz0 hz1 hz2
  have HR := Lib.hid (vs_made hs)
  clear hs
  go_enter Try.func90, Try.ntmps90
  go_wp2_with fail
  go_loopw [5, 6] (fun s i wr => ∃ (N : Int) (l : List Int), i = .int .i64 N ∧ (l.length : Int) = N ∧ N ≤ d ∧ (∀ x ∈ l, -100 ≤ x ∧ x ≤ 100) ∧ VS o len cap p w wr s l) (fun _ i _ => (d - intOf i).toNat)
  case atStart => exact ⟨0, [], rfl, rfl, d0, by simp, HR.out⟩
  case round =>
    clear HR
    obtain ⟨N, l, rfl, hN, hNd, hall, R⟩ := hrel
    have HALL := Lib.hid hall
    clear hall
    have N0 : 0 ≤ N := by omega
    obtain ⟨o3, c3, hv⟩ := row_slice R.2.2.1
    subst hv
    by_cases hpos : N < d
    · have HN := Lib.hid hN
      clear hN
      go_wp2_with fail
      refine (next_any _ _ _ _ _ _ (by omega) R.1).mono ?_
      rintro e w1 ⟨ra, rfl, ra0, ra1, hs, hg, hz⟩
      have ra2 : ra < 13 := by omega
      replace R := vs_next R hs hg
      clear hs hg hz ra1
      have hwa := IntWalk.i64_in (ra - 6) (by omega)
      go_wp2_with fail
      refine (next_any _ _ _ _ _ _ (by omega) R.1).mono ?_
      rintro e w2 ⟨rb, rfl, rb0, rb1, hs, hg, hz⟩
      have rb2 : rb < 5 := by omega
      replace R := vs_next R hs hg
      clear hs hg hz rb1
      have hwb := IntWalk.i64_in (rb - 2) (by omega)
      go_wp2_with fail
      refine (next_any _ _ _ _ _ _ (by omega) R.1).mono ?_
      rintro e w3 ⟨rc, rfl, rc0, rc1, hs, hg, hz⟩
      have rc2 : rc < 201 := by omega
      replace R := vs_next R hs hg
      clear hs hg hz rc1
      have hwc := IntWalk.i64_in (rc - 100) (by omega)
      go_wp2_with fail
      refine (pick_new [ra - 6, rb - 2, 0, rc - 100] 2 4 o len cap p w3 R.1 (by simp) (by simp)).mono ?_
      rintro e w6 ⟨y, rfl, hy, hs6, hg6⟩
      have hyb : -100 ≤ y ∧ y ≤ 100 := by simp at hy; omega
      replace R := vs_next R hs6 hg6
      clear hs6 hg6 hy hwa hwb hwc ra0 ra2 rb0 rb2 rc0 rc2
      have hl9 : l.length ≤ 9 := by have := HN.out; omega
      go_wp2_with (at_builtin; refine wpList_append_own _ rfl (.tmp 13) (.tmp 26) 24 rfl w.heap.size 2 i0 (.int .i64 0) 1 8 Try.underlying24 HI.out HZ0.out HZ1.out HZ2.out rfl (by decide) _ _ _ rfl (R.2.2.1.alloc _) ⟨w6.heap.size, 0, none⟩ 1 1 [.int .i64 y] rfl rfl ?c1 ?c2 ?c3 ?c4 ?c5 ?_)
      case c1 => first | exact news_one _ _ _ | simp [Addr.add]
      case c2 => first | exact one_one _ | rfl
      case c3 => unfold maxLen; omega
      case c4 => omega
      case c5 => have := R.2.1.size; first | omega | (simp; omega)
      intro v' w7 hown hgrow _
      obtain ⟨oo, cc, hvv⟩ := row_slice hown
      subst hvv
      have R4 := vs_app R hown hgrow
      clear hown hgrow
      have HR4 := Lib.hid R4
      clear R R4
      have hw7 : IntKind.i64.wrap (N + 1) = N + 1 := IntWalk.i64_in _ (by omega)
      go_wp2_with fail
      exact ⟨⟨N + 1, l ++ [y], rfl, by have := HN.out; simp; omega, by omega, fun x hx => by rcases List.mem_append.1 hx with hx | hx; exact HALL.out x hx; (simp at hx; subst hx; exact hyb), HR4.out⟩, by simp only [intOf]; omega⟩
    · have HN := Lib.hid hN
      clear hN
      have hl9 : l.length ≤ 9 := by have := HN.out; omega
      go_wp2_with fail
      refine (next_any _ _ _ _ _ _ (by omega) R.1).mono ?_
      rintro e w1 ⟨ra, rfl, ra0, ra1, hs, hg, hz⟩
      have ra2 : ra < 6 := by omega
      replace R := vs_next R hs hg
      clear hs hg hz ra1
      have hwa := IntWalk.i64_in (1 + ra) (by omega)
      go_wp2_with fail
      refine (next_any _ _ _ _ _ _ (by omega) R.1).mono ?_
      rintro e w2 ⟨rb, rfl, rb0, rb1, hs, hg, hz⟩
      have rb2 : rb < 3 := by omega
      replace R := vs_next R hs hg
      clear hs hg hz rb1
      have hwb := IntWalk.i64_in (-1 - rb) (by omega)
      go_wp2_with fail
      refine (pick_new [1, 1, 1 + ra, -1 - rb] 2 4 o len cap p w2 R.1 (by simp) (by simp)).mono ?_
      rintro e w6 ⟨y, rfl, hy, hs6, hg6⟩
      have hyb : -100 ≤ y ∧ y ≤ 100 := by simp at hy; omega
      have hy0 : y ≠ 0 := by simp at hy; omega
      replace R := vs_next R hs6 hg6
      clear hs6 hg6 hy hwa hwb ra0 ra2 rb0 rb2
      go_wp2_with (at_builtin; refine wpList_append_own _ rfl (.tmp 28) (.tmp 38) 24 rfl w.heap.size 2 i0 (.int .i64 0) 1 8 Try.underlying24 HI.out HZ0.out HZ1.out HZ2.out rfl (by decide) _ _ _ rfl (R.2.2.1.alloc _) ⟨w6.heap.size, 0, none⟩ 1 1 [.int .i64 y] rfl rfl ?c1 ?c2 ?c3 ?c4 ?c5 ?_)
      case c1 => first | exact news_one _ _ _ | simp [Addr.add]
      case c2 => first | exact one_one _ | rfl
      case c3 => unfold maxLen; omega
      case c4 => omega
      case c5 => have := R.2.1.size; first | omega | (simp; omega)
      intro v' w7 hown hgrow _
      obtain ⟨oo, cc, hvv⟩ := row_slice hown
      subst hvv
      have R4 := vs_app R hown hgrow
      clear hown hgrow
      have HR4 := Lib.hid R4
      have HY0 := Lib.hid hy0
      clear R R4 hy0
      go_wp2_with fail
      go_ret
      exact ⟨_, l ++ [y], rfl, HR4.out, by have := HN.out; simp; omega, fun x hx => by rcases List.mem_append.1 hx with hx | hx; exact HALL.out x hx; (simp at hx; subst hx; exact hyb), last_snoc HY0.out⟩
set_option maxRecDepth 20000 in
set_option maxHeartbeats 1600000 in
theorem l06Draw_any (o : Option Addr) (len cap p : Nat) (w : World) (hs : Src w o len cap p) :
    Calls Try.prog 56 #[.pointer (some ⟨p, 0, none⟩)] w fun e w' => ∃ v l, e = .returned v ∧ VS o len cap p w w' v l ∧ DrawP l := by
  obtain ⟨i0, hi, hz0, hz1, hz2⟩ := info_parts Try.infoInt64
  have HI := Lib.hid hi
  have HZ0 := Lib.hid hz0
  have HZ1 := Lib.hid hz1
  have HZ2 := Lib.hid hz2
  clear hi hz0 hz1 hz2
  have HS := Lib.hid hs
  have hp := src_lt hs
  clear hs
  go_enter Try.func56, Try.ntmps56
  go_wp2_with fail
  refine (next_any _ _ _ _ _ _ (by omega) HS.out).mono ?_
  rintro e w1 ⟨r, rfl, r0, r1, hs1, hg1, hz1⟩
  have r2 : r < 6 := by omega
  clear hz1 r1
  go_wp2_with fail
  refine (l06Valid_any r o len cap p w1 r0 (by omega) hs1).mono ?_
  rintro e w2 ⟨v, l, rfl, R, hv⟩
  replace R := vs_lower R hg1 hp
  have HD := Lib.hid (valid_draw hv (by omega))
  have hl1 : 1 ≤ l.length ∧ l.length ≤ 6 := by have := hv.1; omega
  clear hs1 hg1 hv
  obtain ⟨o3, c3, hv⟩ := row_slice R.2.2.1
  subst hv
  go_wp2_with fail
  refine (next_any _ _ _ _ _ _ (by omega) R.1).mono ?_
  rintro e w3 ⟨t, rfl, t0, t1, hs, hg, hz⟩
  have t2 : t < 24 := by omega
  replace R := vs_next R hs hg
  clear hs hg hz t1
  by_cases h0 : t = 0
  · subst h0
    go_wp2_with (at_builtin; refine wpList_append_own _ rfl (.tmp 12) (.tmp 13) 24 rfl w.heap.size 2 i0 (.int .i64 0) 1 8 Try.underlying24 HI.out HZ0.out HZ1.out HZ2.out rfl (by decide) _ _ _ rfl (R.2.2.1.alloc _) ⟨w3.heap.size, 0, none⟩ 1 1 [.int .i64 0] rfl rfl ?c1 ?c2 ?c3 ?c4 ?c5 ?_)
    case c1 => first | exact news_one _ _ _ | simp [Addr.add]
    case c2 => first | exact one_one _ | rfl
    case c3 => unfold maxLen; omega
    case c4 => omega
    case c5 => have := R.2.1.size; first | omega | (simp; omega)
    intro v' w7 hown hgrow _
    obtain ⟨oo, cc, hvv⟩ := row_slice hown
    subst hvv
    have R4 := vs_app R hown hgrow
    clear hown hgrow
    have HR4 := Lib.hid R4
    clear R R4
    go_wp2_with fail
    go_ret
    exact ⟨_, l ++ [0], rfl, HR4.out, by simp; omega, fun x hx => by rcases List.mem_append.1 hx with hx | hx; exact HD.out.2 x hx; (simp at hx; omega)⟩
  · have h0' : (t == 0) = false := by simpa using h0
    by_cases h1 : t = 1
    · subst h1
      clear h0
      rcases row_shape R.2.2.1 with ⟨hz, _⟩ | ⟨_, g, c, hgc, hbg, hgl⟩
      · omega
      · injection hgc with e1 _ e2
        subst e1 e2
        go_wp2_with fail
        refine (pick_new [1000000, 1000001, -1000000] 2 3 o len cap p w3 R.1 (by simp) (by simp)).mono ?_
        rintro e w6 ⟨y, rfl, hy, hs6, hg6⟩
        have hyb : -1000001 ≤ y ∧ y ≤ 1000001 := by simp at hy; omega
        replace R := vs_next R hs6 hg6
        clear hs6 hg6 hy
        have c0 := int_at R.2.2.1 rfl (k := 0) (by omega)
        have f0 := int_frozen R.2.2.1 rfl 0
        have hlp : (0 : Int) < (l.length : Int) := by omega
        have HR4 := Lib.hid (vs_set R rfl hbg y (k := 0))
        clear R
        go_wp2_with fail
        go_ret
        exact ⟨_, l.set 0 y, rfl, HR4.out, draw_set HD.out hyb⟩
    · have h1' : (t == 1) = false := by simpa using h1
      by_cases h2 : t = 2
      · subst h2
        clear h0 h1
        go_wp2_with fail
        refine (next_any _ _ _ _ _ _ (by omega) R.1).mono ?_
        rintro e w4 ⟨q, rfl, q0, q1, hs, hg, hz⟩
        have q2 : q < 3 := by omega
        replace R := vs_next R hs hg
        clear hs hg hz q1
        have hwq := IntWalk.i64_in (7 + q) (by omega)
        go_wp2_with fail
        refine (l06Valid_any (7 + q) o len cap p w4 (by omega) (by omega) R.1).mono ?_
        rintro e w5 ⟨v, l2, rfl, R5, hv5⟩
        have HR5 := Lib.hid (vs_lower R5 R.2.1 hp)
        have HD5 := Lib.hid (valid_draw hv5 (by omega))
        clear R R5 hv5
        go_wp2_with fail
        go_ret
        exact ⟨_, l2, rfl, HR5.out, HD5.out⟩
      · have h2' : (t == 2) = false := by simpa using h2
        by_cases h3 : t = 3
        · subst h3
          clear h0 h1 h2
          have HR5 := Lib.hid (vs_lower (vs_made R.1) R.2.1 hp)
          clear R
          go_wp2_with fail
          go_ret
          exact ⟨_, [], rfl, HR5.out, by simp, by simp⟩
        · have h3' : (t == 3) = false := by simpa using h3
          clear h0 h1 h2 h3
          have HR5 := Lib.hid R
          clear R
          go_wp2_with fail
          go_ret
          exact ⟨_, l, rfl, HR5.out, HD.out⟩
end Go.Proofs.Ytgnjhdkkjijiaaa
namespace Go.Proofs.Ytgnjhdkkjijiaaa
open Go.RowKit
set_option linter.unusedVariables false
set_option linter.unusedSimpArgs false
/-- what a draw answers: one list, a list and a number, two lists -/
def OneL (w : World) (e : Ending) (w' : World) : Prop := ∃ v l, e = .returned v ∧ IntRow w.heap.size w' v l ∧ l.length ≤ 10 ∧ Below w.heap.size w w'
def NumL (w : World) (e : Ending) (w' : World) : Prop := ∃ v l x, e = .returned (.tuple #[v, .int .i64 x]) ∧ IntRow w.heap.size w' v l ∧ l.length ≤ 10 ∧ -1001 ≤ x ∧ x ≤ 1001 ∧ Below w.heap.size w w'
def TwoL (w : World) (e : Ending) (w' : World) : Prop := ∃ v v' l l', e = .returned (.tuple #[v, v']) ∧ IntRow w.heap.size w' v l ∧ IntRow w.heap.size w' v' l' ∧ l.length ≤ 10 ∧ l'.length ≤ 10 ∧ Below w.heap.size w w'
theorem vs_out {o : Option Addr} {len cap q : Nat} {w w1 w2 : World} {v : Value} {l : List Int} (h : VS o len cap q w1 w2 v l) (hb : Below w.heap.size w w1) (hq : w.heap.size ≤ q) : IntRow w.heap.size w2 v l ∧ Below w.heap.size w w2 :=
  ⟨intRow_lower h.2.2.1 hb.size, hb.grown h.2.1 hb.size (fun k hk => by cases hk; exact hq)⟩
end Go.Proofs.Ytgnjhdkkjijiaaa
namespace Go.Proofs.Ytgnjhdkkjijiaaa
open Go.RowKit
set_option linter.unusedVariables false
set_option maxHeartbeats 400000 in
theorem drawPrime_any (o : Option Addr) (len cap p : Nat) (w : World) (hs : Src w o len cap p) :
    Calls Try.prog 89 #[.pointer (some ⟨p, 0, none⟩)] w (DrawnPost (-3) 101 o len cap p w) := by
  have HS := Lib.hid hs
  clear hs
  go_enter Try.func89, Try.ntmps89
  go_wp2_with fail
  refine (next_any _ _ _ _ _ _ (by omega) HS.out).mono ?_
  rintro e w1 ⟨r1, rfl, r10, r11, hs1, hg1, hz1⟩
  have H1 := Lib.hid (And.intro hs1 hg1)
  clear hs1 hg1 hz1 r11
  by_cases hr : r1 = 0
  · subst hr
    go_wp2_with fail
    refine (pick_new [1, 4, 0, 97, 101, -3, 9] 2 7 o len cap p w1 H1.out.1 (by simp) (by simp)).mono ?_
    rintro e w2 ⟨x, rfl, hx, hs2, hg2⟩
    have hb : -3 ≤ x ∧ x ≤ 101 := by simp at hx; omega
    have H2 := Lib.hid (And.intro hb (And.intro hs2 (grownBy_tr H1.out.2 hg2)))
    clear hx hs2 hg2 hb
    go_wp2
    go_ret
    exact ⟨x, rfl, H2.out.1.1, H2.out.1.2, H2.out.2.1, H2.out.2.2⟩
  · have hr' : (r1 == 0) = false := by simpa using hr
    clear hr
    go_wp2_with fail
    refine (pick_new [2, 3, 5, 7, 2, 3, 5, 11, 13, 17, 31] 2 11 o len cap p w1 H1.out.1 (by simp) (by simp)).mono ?_
    rintro e w2 ⟨x, rfl, hx, hs2, hg2⟩
    have hb : -3 ≤ x ∧ x ≤ 101 := by simp at hx; omega
    have H2 := Lib.hid (And.intro hb (And.intro hs2 (grownBy_tr H1.out.2 hg2)))
    clear hx hs2 hg2 hb
    go_wp2
    go_ret
    exact ⟨x, rfl, H2.out.1.1, H2.out.1.2, H2.out.2.1, H2.out.2.2⟩
end Go.Proofs.Ytgnjhdkkjijiaaa
namespace Go.Proofs.Ytgnjhdkkjijiaaa
open Go.RowKit
set_option linter.unusedVariables false
set_option linter.unusedSimpArgs false
theorem mod_snoc {P y : Int} {l : List Int} (h : ∀ x ∈ l, 0 ≤ x ∧ x < P) (y0 : 1 ≤ y) (y1 : y < P) : ModP P (l ++ [y]) := by
  refine ⟨fun i => ?_, last_snoc (by omega)⟩
  by_cases hi : i < (l ++ [y]).length
  · rw [show (l ++ [y]).getD i 0 = (l ++ [y])[i] by rw [List.getD_eq_getElem?_getD, List.getElem?_eq_getElem hi]; rfl]
    rcases List.mem_append.1 (List.getElem_mem hi) with hx | hx
    · exact h _ hx
    · have := List.mem_singleton.1 hx; omega
  · rw [getD_out (by omega)]; omega
def ValidM (P d : Int) (l : List Int) : Prop := ModP P l ∧ (l.length : Int) ≤ d + 1
theorem vs_own {o : Option Addr} {len cap p : Nat} {w w1 w2 : World} {v v' : Value} {l l' : List Int} (h : VS o len cap p w w1 v l) (hr : IntRow w1.heap.size w2 v' l') (hb : Below w1.heap.size w1 w2) : VS o len cap p w w2 v' l' :=
  ⟨src_below h.1 (hb.mono h.2.1.size) h.2.2.2, grownBy_rest h.2.1 (hb.mono h.2.1.size), intRow_lower hr h.2.1.size, h.2.2.2⟩
theorem vs_keep {o : Option Addr} {len cap p : Nat} {w w1 w2 : World} {v : Value} {l : List Int} (h : VS o len cap p w w1 v l) (hb : Below w1.heap.size w1 w2) : VS o len cap p w w2 v l :=
  ⟨src_below h.1 (hb.mono h.2.1.size) h.2.2.2, grownBy_rest h.2.1 (hb.mono h.2.1.size), row_below h.2.2.1 hb (Nat.le_refl _), h.2.2.2⟩
theorem intRow_lit (w : World) (l : List Int) (hl : l.length ≤ 1000) : IntRow w.heap.size (w.alloc (.cells (l.map (Value.int .i64)).toArray 2)) (.slice (some ⟨w.heap.size, 0, none⟩) l.length l.length) l :=
  ⟨by simp, .inr ⟨w.heap.size, l.length, _, rfl, Nat.le_refl _, heap_alloc_new w _, Nat.le_refl _, by unfold maxLen; omega, by simp, by simp; exact List.take_of_length_le (by simp)⟩⟩
theorem vs_lit {o : Option Addr} {len cap p : Nat} {w : World} (h : Src w o len cap p) (l : List Int) (hl : l.length ≤ 1000) : VS o len cap p w (w.alloc (.cells (l.map (Value.int .i64)).toArray 2)) (.slice (some ⟨w.heap.size, 0, none⟩) l.length l.length) l :=
  ⟨src_alloc h _, World.grownBy_alloc w _ _, intRow_lit w l hl, src_lt h⟩
set_option maxRecDepth 20000 in
set_option maxHeartbeats 1600000 in
theorem l08Valid_any (P d : Int) (p2 : 2 ≤ P) (p97 : P ≤ 97) (o : Option Addr) (len cap p : Nat) (w : World) (d0 : 0 ≤ d) (d8 : d ≤ 8) (hs : Src w o len cap p) :
    Calls Try.prog 77 #[.pointer (some ⟨p, 0, none⟩), .int .i64 P, .int .i64 d] w fun e w' => ∃ v l, e = .returned v ∧ VS o len cap p w w' v l ∧ ValidM P d l := by
  obtain ⟨i0, hi, hz0, hz1, hz2⟩ := info_parts Try.infoInt64
  have HI := Lib.hid hi
  have HZ0 := Lib.hid hz0
  have HZ1 := Lib.hid hz1
  have HZ2 := Lib.hid hz2
  clear hi hz0 hz1 hz2
  have HR := Lib.hid (vs_made hs)
  clear hs
  have hwd : IntKind.i64.wrap (d + 1) = d + 1 := IntWalk.i64_in _ (by omega)
  have hwp : IntKind.i64.wrap (P - 1) = P - 1 := IntWalk.i64_in _ (by omega)
  go_enter Try.func77, Try.ntmps77
  go_wp2_with fail
  refine (next_any _ _ _ _ _ _ (by omega) HR.out.1).mono ?_
  rintro e w0 ⟨n0, rfl, n00, n01, hs, hg, hz⟩
  have n02 : n0 ≤ d := by omega
  have HR0 := Lib.hid (vs_next HR.out hs hg)
  clear hs hg hz n01 HR
  go_wp2_with fail
  go_loopw [7, 8] (fun s i wr => ∃ (N : Int) (l : List Int), i = .int .i64 N ∧ 0 ≤ N ∧ (l.length : Int) + N ≤ d ∧ (∀ x ∈ l, 0 ≤ x ∧ x < P) ∧ VS o len cap p w wr s l) (fun _ i _ => (intOf i).toNat)
  case atStart => exact ⟨n0, [], rfl, n00, by simp; omega, by simp, HR0.out⟩
  case round =>
    clear HR0 n02
    obtain ⟨N, l, rfl, N0, hNd, hall, R⟩ := hrel
    have HALL := Lib.hid hall
    clear hall
    obtain ⟨o3, c3, hv⟩ := row_slice R.2.2.1
    subst hv
    have hl9 : l.length ≤ 9 := by omega
    by_cases hpos : 0 < N
    · have HN := Lib.hid hNd
      have hN8 : N ≤ 8 := by omega
      clear hNd
      go_wp2_with fail
      refine (next_any _ _ _ _ _ _ (by omega) R.1).mono ?_
      rintro e w1 ⟨ra, rfl, ra0, ra1, hs, hg, hz⟩
      have ra2 : ra < P := by omega
      replace R := vs_next R hs hg
      clear hs hg hz ra1
      go_wp2_with fail
      refine (next_any _ _ _ _ _ _ (by omega) R.1).mono ?_
      rintro e w2 ⟨rb, rfl, rb0, rb1, hs, hg, hz⟩
      have rb2 : rb < P := by omega
      replace R := vs_next R hs hg
      clear hs hg hz rb1
      go_wp2_with fail
      refine (pick_new [ra, 0, rb] 2 3 o len cap p w2 R.1 (by simp) (by simp)).mono ?_
      rintro e w6 ⟨y, rfl, hy, hs6, hg6⟩
      have hyb : 0 ≤ y ∧ y < P := by simp at hy; omega
      replace R := vs_next R hs6 hg6
      clear hs6 hg6 hy ra0 ra2 rb0 rb2
      go_wp2_with (at_builtin; refine wpList_append_own _ rfl (.tmp 18) (.tmp 28) 24 rfl w.heap.size 2 i0 (.int .i64 0) 1 8 Try.underlying24 HI.out HZ0.out HZ1.out HZ2.out rfl (by decide) _ _ _ rfl (R.2.2.1.alloc _) ⟨w6.heap.size, 0, none⟩ 1 1 [.int .i64 y] rfl rfl ?c1 ?c2 ?c3 ?c4 ?c5 ?_)
      case c1 => first | exact news_one _ _ _ | simp [Addr.add]
      case c2 => first | exact one_one _ | rfl
      case c3 => unfold maxLen; omega
      case c4 => omega
      case c5 => have := R.2.1.size; first | omega | (simp; omega)
      intro v' w7 hown hgrow _
      obtain ⟨oo, cc, hvv⟩ := row_slice hown
      subst hvv
      have R4 := vs_app R hown hgrow
      clear hown hgrow
      have HR4 := Lib.hid R4
      clear R R4
      have hw7 : IntKind.i64.wrap (N - 1) = N - 1 := IntWalk.i64_in _ (by omega)
      go_wp2_with fail
      exact ⟨⟨N - 1, l ++ [y], rfl, by omega, by have := HN.out; simp; omega, fun x hx => by rcases List.mem_append.1 hx with hx | hx; exact HALL.out x hx; (simp at hx; subst hx; exact hyb), HR4.out⟩, by simp only [intOf]; omega⟩
    · have HN := Lib.hid (show (l.length : Int) ≤ d by omega)
      clear hNd
      go_wp2_with fail
      refine (next_any _ _ _ _ _ _ (by omega) R.1).mono ?_
      rintro e w1 ⟨ra, rfl, ra0, ra1, hs, hg, hz⟩
      have ra2 : ra ≤ P - 2 := by omega
      replace R := vs_next R hs hg
      clear hs hg hz ra1
      go_wp2_with fail
      refine (next_any _ _ _ _ _ _ (by omega) R.1).mono ?_
      rintro e w2 ⟨rb, rfl, rb0, rb1, hs, hg, hz⟩
      have rb2 : rb < 2 := by omega
      replace R := vs_next R hs hg
      clear hs hg hz rb1
      obtain ⟨y, hy, y1, y2⟩ : ∃ y, 1 + ra * rb = y ∧ 1 ≤ y ∧ y < P := by
        rcases (by omega : rb = 0 ∨ rb = 1) with h | h <;> rw [h]
        · exact ⟨1, by omega, by omega, by omega⟩
        · exact ⟨1 + ra, by omega, by omega, by omega⟩
      have hwm : IntKind.i64.wrap (ra * rb) = ra * rb := IntWalk.i64_in _ (by omega)
      have hwy : IntKind.i64.wrap (1 + ra * rb) = y := by rw [hy]; exact IntWalk.i64_in _ (by omega)
      clear hy ra0 ra2 rb0 rb2
      go_wp2_with (at_builtin; refine wpList_append_own _ rfl (.tmp 30) (.tmp 39) 24 rfl w.heap.size 2 i0 (.int .i64 0) 1 8 Try.underlying24 HI.out HZ0.out HZ1.out HZ2.out rfl (by decide) _ _ _ rfl (R.2.2.1.alloc _) ⟨w2.heap.size, 0, none⟩ 1 1 [.int .i64 y] rfl rfl ?c1 ?c2 ?c3 ?c4 ?c5 ?_)
      case c1 => first | exact news_one _ _ _ | simp [Addr.add]
      case c2 => first | exact one_one _ | rfl
      case c3 => unfold maxLen; omega
      case c4 => omega
      case c5 => have := R.2.1.size; first | omega | (simp; omega)
      intro v' w7 hown hgrow _
      obtain ⟨oo, cc, hvv⟩ := row_slice hown
      subst hvv
      have R4 := vs_app R hown hgrow
      clear hown hgrow
      have HR4 := Lib.hid R4
      have HM := Lib.hid (mod_snoc HALL.out y1 y2)
      clear R R4
      go_wp2_with fail
      go_ret
      exact ⟨_, l ++ [y], rfl, HR4.out, HM.out, by have := HN.out; simp; omega⟩
set_option maxHeartbeats 400000 in
theorem draw8Prime_any (o : Option Addr) (len cap p : Nat) (w : World) (hs : Src w o len cap p) :
    Calls Try.prog 55 #[.pointer (some ⟨p, 0, none⟩)] w (DrawnPost (-3) 101 o len cap p w) := by
  have HS := Lib.hid hs
  clear hs
  go_enter Try.func55, Try.ntmps55
  go_wp2_with fail
  refine (next_any _ _ _ _ _ _ (by omega) HS.out).mono ?_
  rintro e w1 ⟨r1, rfl, r10, r11, hs1, hg1, hz1⟩
  have H1 := Lib.hid (And.intro hs1 hg1)
  clear hs1 hg1 hz1 r11
  by_cases hr : r1 = 0
  · subst hr
    go_wp2_with fail
    refine (drawPrime_any o len cap p w1 H1.out.1).mono ?_
    rintro e w2 ⟨x, rfl, x0, x1, hs2, hg2⟩
    have H2 := Lib.hid (And.intro hs2 (grownBy_tr H1.out.2 hg2))
    clear hs2 hg2
    go_wp2
    go_ret
    exact ⟨x, rfl, x0, x1, H2.out.1, H2.out.2⟩
  · have hr' : (r1 == 0) = false := by simpa using hr
    clear hr
    go_wp2_with fail
    refine (pick_new [2, 3, 5, 7, 2, 3, 13] 2 7 o len cap p w1 H1.out.1 (by simp) (by simp)).mono ?_
    rintro e w2 ⟨x, rfl, hx, hs2, hg2⟩
    have hb : -3 ≤ x ∧ x ≤ 101 := by simp at hx; omega
    have H2 := Lib.hid (And.intro hb (And.intro hs2 (grownBy_tr H1.out.2 hg2)))
    clear hx hs2 hg2 hb
    go_wp2
    go_ret
    exact ⟨x, rfl, H2.out.1.1, H2.out.1.2, H2.out.2.1, H2.out.2.2⟩
set_option maxRecDepth 20000 in
set_option maxHeartbeats 1600000 in
theorem l08Draw_any (P : Int) (P0 : -3 ≤ P) (P1 : P ≤ 101) (o : Option Addr) (len cap p : Nat) (w : World) (hs : Src w o len cap p) :
    Calls Try.prog 76 #[.pointer (some ⟨p, 0, none⟩), .int .i64 P] w fun e w' => ∃ v l, e = .returned v ∧ VS o len cap p w w' v l ∧ l.length ≤ 10 := by
  obtain ⟨i0, hi, hz0, hz1, hz2⟩ := info_parts Try.infoInt64
  have HI := Lib.hid hi
  have HZ0 := Lib.hid hz0
  have HZ1 := Lib.hid hz1
  have HZ2 := Lib.hid hz2
  clear hi hz0 hz1 hz2
  have hp := src_lt hs
  have HS := Lib.hid hs
  clear hs
  cases hsm : smallB P
  · have HL := Lib.hid (show VS o len cap p w (w.alloc (.cells #[.int .i64 1, .int .i64 1] 2)) (.slice (some ⟨w.heap.size, 0, none⟩) 2 2) [1, 1] from vs_lit HS.out [1, 1] (by simp))
    go_enter Try.func76, Try.ntmps76
    go_wp2_with fail
    refine (l01Small_any P w).mono ?_
    rw [hsm]
    rintro e w2 ⟨rfl, rfl⟩
    go_wp2_with fail
    go_ret
    exact ⟨_, [1, 1], rfl, HL.out, by simp⟩
  · obtain ⟨p2, p97⟩ := smallB_bd hsm
    go_enter Try.func76, Try.ntmps76
    go_wp2_with fail
    refine (l01Small_any P w).mono ?_
    rw [hsm]
    rintro e w2 ⟨rfl, rfl⟩
    go_wp2_with fail
    refine (l08Valid_any P 4 p2 p97 o len cap p w (by omega) (by omega) HS.out).mono ?_
    rintro e w1 ⟨v, l, rfl, R, hV⟩
    have hl5 : l.length ≤ 5 := by have := hV.2; omega
    have HD := Lib.hid (And.intro hV.1 hl5)
    clear hV HS
    obtain ⟨o3, c3, hv⟩ := row_slice R.2.2.1
    subst hv
    go_wp2_with fail
    refine (next_any _ _ _ _ _ _ (by omega) R.1).mono ?_
    rintro e w3 ⟨t, rfl, t0, t1, hs, hg, hz⟩
    have t2 : t < 24 := by omega
    replace R := vs_next R hs hg
    clear hs hg hz t1
    by_cases h0 : t = 0
    · subst h0
      go_wp2_with fail
      refine (pick_new [0, P, -1] 2 3 o len cap p w3 R.1 (by simp) (by simp)).mono ?_
      rintro e w6 ⟨y, rfl, hy, hs6, hg6⟩
      replace R := vs_next R hs6 hg6
      clear hs6 hg6 hy
      go_wp2_with (at_builtin; refine wpList_append_own _ rfl (.tmp 17) (.tmp 22) 24 rfl w.heap.size 2 i0 (.int .i64 0) 1 8 Try.underlying24 HI.out HZ0.out HZ1.out HZ2.out rfl (by decide) _ _ _ rfl (R.2.2.1.alloc _) ⟨w6.heap.size, 0, none⟩ 1 1 [.int .i64 y] rfl rfl ?c1 ?c2 ?c3 ?c4 ?c5 ?_)
      case c1 => first | exact news_one _ _ _ | simp [Addr.add]
      case c2 => first | exact one_one _ | rfl
      case c3 => unfold maxLen; omega
      case c4 => omega
      case c5 => have := R.2.1.size; first | omega | (simp; omega)
      intro v' w7 hown hgrow _
      obtain ⟨oo, cc, hvv⟩ := row_slice hown
      subst hvv
      have R4 := vs_app R hown hgrow
      clear hown hgrow
      have HR4 := Lib.hid R4
      clear R R4
      go_wp2_with fail
      go_ret
      exact ⟨_, l ++ [y], rfl, HR4.out, by simp; omega⟩
    · have h0' : (t == 0) = false := by simpa using h0
      by_cases h1 : t = 1
      · subst h1
        clear h0
        have HR5 := Lib.hid (vs_lower (vs_made R.1) R.2.1 hp)
        clear R
        go_wp2_with fail
        go_ret
        exact ⟨_, [], rfl, HR5.out, by simp⟩
      · have h1' : (t == 1) = false := by simpa using h1
        by_cases h2 : t = 2
        · subst h2
          clear h0 h1
          go_wp2_with fail
          refine (l08Valid_any P 8 p2 p97 o len cap p w3 (by omega) (by omega) R.1).mono ?_
          rintro e w5 ⟨v, l2, rfl, S, hV⟩
          obtain ⟨o_l2, c_l2, hv⟩ := row_slice S.2.2.1
          subst hv
          have HR5 := Lib.hid (vs_lower S R.2.1 hp)
          have HD5 := Lib.hid hV.2
          clear R S hV
          go_wp2_with fail
          go_ret
          exact ⟨_, l2, rfl, HR5.out, by have := HD5.out; omega⟩
        · have h2' : (t == 2) = false := by simpa using h2
          by_cases h3 : t = 3
          · subst h3
            clear h0 h1 h2
            go_wp2_with fail
            refine (l08Valid_any P 2 p2 p97 o len cap p w3 (by omega) (by omega) R.1).mono ?_
            rintro e w5 ⟨v, l2, rfl, S, hV⟩
            obtain ⟨o_l2, c_l2, hv⟩ := row_slice S.2.2.1
            subst hv
            have hl3 : l2.length ≤ 3 := by have := hV.2; omega
            have hpo := mod_poly p97 (by omega) hV.1
            have hse := row_seen S.2.2.1 (by omega)
            have HM := Lib.hid (l08Mul_any P p2 p97 hse hse hpo hpo)
            have hpl := prodL_le P l2 l2
            have HR5 := Lib.hid (vs_lower S R.2.1 hp)
            clear R S hV hse hpo
            generalize prodL P l2 l2 = m at *
            go_wp2_with fail
            refine (HM.out).mono ?_
            rintro e w6 ⟨v, rfl, row, hb⟩
            have HR6 := Lib.hid (vs_own HR5.out row hb)
            clear row hb
            go_wp2_with fail
            go_ret
            exact ⟨_, m, rfl, HR6.out, by omega⟩
          · have h3' : (t == 3) = false := by simpa using h3
            clear h0 h1 h2 h3
            have HR5 := Lib.hid R
            clear R
            go_wp2_with fail
            go_ret
            exact ⟨_, l, rfl, HR5.out, by omega⟩
end Go.Proofs.Ytgnjhdkkjijiaaa
namespace Go.Proofs.Ytgnjhdkkjijiaaa
open Go.RowKit
set_option linter.unusedVariables false
set_option linter.unusedSimpArgs false
/-- what a draw answers: a prime or nearly one, and one list, two lists, a number and a list -/
def POne (w : World) (e : Ending) (w' : World) : Prop := ∃ P v l, e = .returned (.tuple #[.int .i64 P, v]) ∧ -3 ≤ P ∧ P ≤ 101 ∧ IntRow w.heap.size w' v l ∧ l.length ≤ 10 ∧ Below w.heap.size w w'
def PTwo (w : World) (e : Ending) (w' : World) : Prop := ∃ P v v' l l', e = .returned (.tuple #[.int .i64 P, v, v']) ∧ -3 ≤ P ∧ P ≤ 101 ∧ IntRow w.heap.size w' v l ∧ IntRow w.heap.size w' v' l' ∧ l.length ≤ 10 ∧ l'.length ≤ 10 ∧ Below w.heap.size w w'
def PNum (w : World) (e : Ending) (w' : World) : Prop := ∃ P x v l, e = .returned (.tuple #[.int .i64 P, .int .i64 x, v]) ∧ -3 ≤ P ∧ P ≤ 101 ∧ -3 ≤ x ∧ x ≤ 1000000000001 ∧ IntRow w.heap.size w' v l ∧ l.length ≤ 10 ∧ Below w.heap.size w w'
set_option maxRecDepth 20000 in
set_option maxHeartbeats 1600000 in
theorem draw8Mod_any (o : Option Addr) (len cap : Nat) (w : World) (hl : len ≤ 4096) (hc : CodeIn w o len) :
    Calls Try.prog 67 #[.slice o len cap] w (POne w) := by
  have HC := Lib.hid hc
  clear hc
  go_enter Try.func67, Try.ntmps67
  go_wp2_with fail
  refine (from_any _ _ _ _ hl HC.out).mono ?_
  rintro e w1 ⟨q, rfl, hq, hs1, hb1⟩
  have HB1 := Lib.hid hb1
  have hqs := src_lt hs1
  clear hb1 HC hl
  go_wp2_with fail
  refine (draw8Prime_any o len cap q w1 hs1).mono ?_
  rintro e w2 ⟨P, rfl, P0, P1, hs2, hg2⟩
  clear hs1
  go_wp2_with fail
  refine (l08Draw_any P P0 P1 o len cap q w2 hs2).mono ?_
  rintro e w3 ⟨v, f, rfl, R, hlen⟩
  have HO := Lib.hid (vs_out (vs_lower R hg2 hqs) HB1.out hq)
  have HL := Lib.hid (hlen)
  clear hs2 hg2 R
  go_wp2_with fail
  go_ret2
  exact ⟨P, v, f, rfl, P0, P1, HO.out.1, HL.out, HO.out.2⟩
set_option maxRecDepth 20000 in
set_option maxHeartbeats 1600000 in
theorem draw8Red_any (o : Option Addr) (len cap : Nat) (w : World) (hl : len ≤ 4096) (hc : CodeIn w o len) :
    Calls Try.prog 22 #[.slice o len cap] w (POne w) := by
  have HC := Lib.hid hc
  clear hc
  go_enter Try.func22, Try.ntmps22
  go_wp2_with fail
  refine (from_any _ _ _ _ hl HC.out).mono ?_
  rintro e w1 ⟨q, rfl, hq, hs1, hb1⟩
  have HB1 := Lib.hid hb1
  have hqs := src_lt hs1
  clear hb1 HC hl
  go_wp2_with fail
  refine (draw8Prime_any o len cap q w1 hs1).mono ?_
  rintro e w2 ⟨P, rfl, P0, P1, hs2, hg2⟩
  clear hs1
  go_wp2_with fail
  refine (l06Draw_any o len cap q w2 hs2).mono ?_
  rintro e w3 ⟨v, f, rfl, R, hD⟩
  have HO := Lib.hid (vs_out (vs_lower R hg2 hqs) HB1.out hq)
  have HL := Lib.hid (hD.1)
  clear hs2 hg2 R
  go_wp2_with fail
  go_ret2
  exact ⟨P, v, f, rfl, P0, P1, HO.out.1, HL.out, HO.out.2⟩
set_option maxRecDepth 20000 in
set_option maxHeartbeats 1600000 in
theorem l08DrawTwo_any (o : Option Addr) (len cap : Nat) (w : World) (hl : len ≤ 4096) (hc : CodeIn w o len) :
    Calls Try.prog 46 #[.slice o len cap] w (PTwo w) := by
  have HC := Lib.hid hc
  clear hc
  go_enter Try.func46, Try.ntmps46
  go_wp2_with fail
  refine (from_any _ _ _ _ hl HC.out).mono ?_
  rintro e w1 ⟨q, rfl, hq, hs1, hb1⟩
  have HB1 := Lib.hid hb1
  have hqs := src_lt hs1
  clear hb1 HC hl
  go_wp2_with fail
  refine (draw8Prime_any o len cap q w1 hs1).mono ?_
  rintro e w2 ⟨P, rfl, P0, P1, hs2, hg2⟩
  clear hs1
  go_wp2_with fail
  refine (l08Draw_any P P0 P1 o len cap q w2 hs2).mono ?_
  rintro e w3 ⟨v, f, rfl, R, hlf⟩
  replace R := vs_lower R hg2 hqs
  clear hs2 hg2
  obtain ⟨o3, c3, hv⟩ := row_slice R.2.2.1
  subst hv
  go_wp2_with fail
  refine (l08Draw_any P P0 P1 o len cap q w3 R.1).mono ?_
  rintro e w4 ⟨v, g, rfl, S, hlg⟩
  have S' := vs_lower S R.2.1 hqs
  replace R := vs_next R S.1 S.2.1
  replace S := S'
  clear S'
  obtain ⟨o4, c4, hv⟩ := row_slice S.2.2.1
  subst hv
  go_wp2_with fail
  refine (l01Small_any P w4).mono ?_
  rintro e w' ⟨rfl, rfl⟩
  cases hsm : smallB P
  · have OR := Lib.hid (vs_out R HB1.out hq)
    have OS := Lib.hid (vs_out S HB1.out hq)
    clear R S
    go_wp2_with fail
    go_ret3
    exact ⟨P, _, _, f, g, rfl, P0, P1, OR.out.1, OS.out.1, hlf, hlg, OR.out.2⟩
  · obtain ⟨p2, p97⟩ := smallB_bd hsm
    go_wp2_with fail
    refine (next_any _ _ _ _ _ _ (by omega) S.1).mono ?_
    rintro e w5 ⟨t, rfl, t0, t1, hs, hg, hz⟩
    have t2 : t < 3 := by omega
    replace R := vs_next R hs hg
    replace S := vs_next S hs hg
    clear hs hg hz t1
    by_cases h0 : t = 0
    · subst h0
      have hT := S
      clear R S hlf hlg
      go_wp2_with fail
      refine (l08Valid_any P 2 p2 p97 o len cap q w5 (by omega) (by omega) hT.1).mono ?_
      rintro e w6 ⟨v, a, rfl, A, hVa⟩
      replace A := vs_lower A hT.2.1 hqs
      clear hT
      have ha3 : a.length ≤ 3 := by have := hVa.2; omega
      have HPA := Lib.hid (mod_poly p97 (by omega) hVa.1)
      clear hVa
      obtain ⟨o6, c6, hv⟩ := row_slice A.2.2.1
      subst hv
      go_wp2_with fail
      refine (l08Valid_any P 2 p2 p97 o len cap q w6 (by omega) (by omega) A.1).mono ?_
      rintro e w7 ⟨v, b, rfl, B, hVb⟩
      have B' := vs_lower B A.2.1 hqs
      replace A := vs_next A B.1 B.2.1
      replace B := B'
      clear B'
      have hb3 : b.length ≤ 3 := by have := hVb.2; omega
      have HPB := Lib.hid (mod_poly p97 (by omega) hVb.1)
      clear hVb
      obtain ⟨o7, c7, hv⟩ := row_slice B.2.2.1
      subst hv
      have HM := Lib.hid (l08Mul_any P p2 p97 (row_seen A.2.2.1 (by omega)) (row_seen B.2.2.1 (by omega)) HPA.out HPB.out)
      have hpl := prodL_le P a b
      have HA := Lib.hid A
      clear A B HPB
      generalize prodL P a b = m at *
      go_wp2_with fail
      refine (HM.out).mono ?_
      rintro e w8 ⟨v, rfl, row, hb⟩
      have M := vs_own HA.out row hb
      have A := vs_keep HA.out hb
      clear row hb HM HA
      obtain ⟨o8, c8, hv⟩ := row_slice M.2.2.1
      subst hv
      go_wp2_with fail
      refine (l08Valid_any P 2 p2 p97 o len cap q w8 (by omega) (by omega) A.1).mono ?_
      rintro e w9 ⟨v, d, rfl, B, hVb⟩
      have B' := vs_lower B A.2.1 hqs
      replace A := vs_next A B.1 B.2.1
      replace M := vs_next M B.1 B.2.1
      replace B := B'
      clear B'
      have hd3 : d.length ≤ 3 := by have := hVb.2; omega
      have HPB := Lib.hid (mod_poly p97 (by omega) hVb.1)
      clear hVb
      obtain ⟨o9, c9, hv⟩ := row_slice B.2.2.1
      subst hv
      have HM := Lib.hid (l08Mul_any P p2 p97 (row_seen A.2.2.1 (by omega)) (row_seen B.2.2.1 (by omega)) HPA.out HPB.out)
      have hpl2 := prodL_le P a d
      have HN := Lib.hid M
      clear A B HPB M
      generalize prodL P a d = n at *
      go_wp2_with fail
      refine (HM.out).mono ?_
      rintro e w10 ⟨v, rfl, row, hb⟩
      have OS := Lib.hid (vs_out (vs_own HN.out row hb) HB1.out hq)
      have OR := Lib.hid (vs_out (vs_keep HN.out hb) HB1.out hq)
      clear row hb HM HN
      go_wp2_with fail
      go_ret3
      exact ⟨P, _, _, m, n, rfl, P0, P1, OR.out.1, OS.out.1, by omega, by omega, OR.out.2⟩
    · have h0' : (t == 0) = false := by simpa using h0
      have OR := Lib.hid (vs_out R HB1.out hq)
      have OS := Lib.hid (vs_out S HB1.out hq)
      clear R S h0
      go_wp2_with fail
      go_ret3
      exact ⟨P, _, _, f, g, rfl, P0, P1, OR.out.1, OS.out.1, hlf, hlg, OR.out.2⟩
set_option maxRecDepth 20000 in
set_option maxHeartbeats 1600000 in
theorem draw8Mul_any (o : Option Addr) (len cap : Nat) (w : World) (hl : len ≤ 4096) (hc : CodeIn w o len) :
    Calls Try.prog 19 #[.slice o len cap] w (PTwo w) := by
  have HC := Lib.hid hc
  clear hc
  go_enter Try.func19, Try.ntmps19
  go_wp2_with fail
  refine (l08DrawTwo_any o len cap w hl HC.out).mono ?_
  rintro e w1 ⟨P, v, v', l, l', rfl, h⟩
  have H := Lib.hid h
  clear h
  go_wp2_with fail
  go_ret3
  exact ⟨P, v, v', l, l', rfl, H.out⟩
set_option maxRecDepth 20000 in
set_option maxHeartbeats 1600000 in
theorem draw8Div_any (o : Option Addr) (len cap : Nat) (w : World) (hl : len ≤ 4096) (hc : CodeIn w o len) :
    Calls Try.prog 16 #[.slice o len cap] w (PTwo w) := by
  have HC := Lib.hid hc
  clear hc
  go_enter Try.func16, Try.ntmps16
  go_wp2_with fail
  refine (l08DrawTwo_any o len cap w hl HC.out).mono ?_
  rintro e w1 ⟨P, v, v', l, l', rfl, h⟩
  have H := Lib.hid h
  clear h
  go_wp2_with fail
  go_ret3
  exact ⟨P, v, v', l, l', rfl, H.out⟩
set_option maxRecDepth 20000 in
set_option maxHeartbeats 1600000 in
theorem draw8Com_any (o : Option Addr) (len cap : Nat) (w : World) (hl : len ≤ 4096) (hc : CodeIn w o len) :
    Calls Try.prog 28 #[.slice o len cap] w (PTwo w) := by
  have HC := Lib.hid hc
  clear hc
  go_enter Try.func28, Try.ntmps28
  go_wp2_with fail
  refine (l08DrawTwo_any o len cap w hl HC.out).mono ?_
  rintro e w1 ⟨P, v, v', l, l', rfl, h⟩
  have H := Lib.hid h
  clear h
  go_wp2_with fail
  go_ret3
  exact ⟨P, v, v', l, l', rfl, H.out⟩
set_option maxRecDepth 20000 in
set_option maxHeartbeats 1600000 in
theorem drawPow8_any (o : Option Addr) (len cap : Nat) (w : World) (hl : len ≤ 4096) (hc : CodeIn w o len) :
    Calls Try.prog 39 #[.slice o len cap] w (PNum w) := by
  have HC := Lib.hid hc
  clear hc
  go_enter Try.func39, Try.ntmps39
  go_wp2_with fail
  refine (from_any _ _ _ _ hl HC.out).mono ?_
  rintro e w1 ⟨q, rfl, hq, hs1, hb1⟩
  have HB1 := Lib.hid hb1
  have hqs := src_lt hs1
  go_wp2_with fail
  refine (draw8Mod_any o len cap w1 hl (codeIn_below (B := 0) HC.out hb1)).mono ?_
  rintro e w2 ⟨P, v, f, rfl, P0, P1, row, hl10, hb2⟩
  have R : VS o len cap q w1 w2 v f := ⟨src_below hs1 hb2 hqs, grownBy_rest (World.grownBy.refl _ _) hb2, row, hqs⟩
  clear hs1 hb1 hb2 row HC hl
  obtain ⟨o3, c3, hv⟩ := row_slice R.2.2.1
  subst hv
  go_wp2_with fail
  refine (next_any _ _ _ _ _ _ (by omega) R.1).mono ?_
  rintro e w3 ⟨ra, rfl, ra0, ra1, hs, hg, hz⟩
  have ra2 : ra < 100 := by omega
  replace R := vs_next R hs hg
  clear hs hg hz ra1
  go_wp2_with fail
  refine (next_any _ _ _ _ _ _ (by omega) R.1).mono ?_
  rintro e w4 ⟨rb, rfl, rb0, rb1, hs, hg, hz⟩
  have rb2 : rb < 1000000 := by omega
  replace R := vs_next R hs hg
  clear hs hg hz rb1
  go_wp2_with fail
  refine (pick_new [0, 1, P, ra, rb, 1000000000000, 1000000000001, -1] 2 8 o len cap q w4 R.1 (by simp) (by simp)).mono ?_
  rintro e w6 ⟨y, rfl, hy, hs6, hg6⟩
  have hyb : -3 ≤ y ∧ y ≤ 1000000000001 := by simp at hy; omega
  replace R := vs_next R hs6 hg6
  have HO := Lib.hid (vs_out R HB1.out hq)
  clear hs6 hg6 hy R
  go_wp2_with fail
  go_ret3
  exact ⟨P, y, _, f, rfl, P0, P1, hyb.1, hyb.2, HO.out.1, hl10, HO.out.2⟩
set_option maxRecDepth 20000 in
set_option maxHeartbeats 1600000 in
theorem draw8Roots_any (o : Option Addr) (len cap : Nat) (w : World) (hl : len ≤ 4096) (hc : CodeIn w o len) :
    Calls Try.prog 36 #[.slice o len cap] w (POne w) := by
  have HC := Lib.hid hc
  clear hc
  go_enter Try.func36, Try.ntmps36
  go_wp2_with fail
  refine (draw8Mod_any o len cap w hl HC.out).mono ?_
  rintro e w1 ⟨P, v, l, rfl, h⟩
  have H := Lib.hid h
  clear h
  go_wp2_with fail
  go_ret2
  exact ⟨P, v, l, rfl, H.out⟩
set_option maxRecDepth 20000 in
set_option maxHeartbeats 1600000 in
theorem draw8Free_any (o : Option Addr) (len cap : Nat) (w : World) (hl : len ≤ 4096) (hc : CodeIn w o len) :
    Calls Try.prog 31 #[.slice o len cap] w (POne w) := by
  have HC := Lib.hid hc
  clear hc
  go_enter Try.func31, Try.ntmps31
  go_wp2_with fail
  refine (draw8Mod_any o len cap w hl HC.out).mono ?_
  rintro e w1 ⟨P, v, l, rfl, h⟩
  have H := Lib.hid h
  clear h
  go_wp2_with fail
  go_ret2
  exact ⟨P, v, l, rfl, H.out⟩
end Go.Proofs.Ytgnjhdkkjijiaaa
namespace Go.Proofs.Ytgnjhdkkjijiaaa
set_option linter.unusedVariables false
set_option linter.unusedSimpArgs false
theorem twoM_mk {p : Int} {f g : List Int} (hf : modB p f = true) (hg : modB p g = true) : twoM p f g = true := by simp [twoM, hf, hg]
theorem twC_mk {p : Int} {f g : List Int} (hf : modB p f = true) (hg : modB p g = true) (h0 : g.length ≠ 0) : twC p f g = 0 := by
  rw [twC, twoM_mk hf hg, if_pos rfl, if_neg h0]
theorem dvR_mk {p : Int} {f g : List Int} (h : twC p f g = 0) : dvR p f g = remP p f g := if_pos h
theorem dvQ_mk {p : Int} {f g : List Int} (h : twC p f g = 0) : dvQ p f g = quoP p f g := if_pos h
theorem com_fact {p : Int} {f g : List Int} (h : cmC p f g = 0) (h0 : (cmQ p f g).length ≠ 0) :
    twC p f (cmQ p f g) = 0 ∧ dvR p f (cmQ p f g) = [] ∧ twC p g (cmQ p f g) = 0 ∧ dvR p g (cmQ p f g) = [] ∧ (cmQ p f g).getD ((cmQ p f g).length - 1) 0 = 1 := by
  have ht : twoM p f g = true := by
    cases ht : twoM p f g
    · rw [cmC, ht] at h; cases h
    · rfl
  obtain ⟨hf, hg⟩ : modB p f = true ∧ modB p g = true := by simpa [twoM] using ht
  have e : cmQ p f g = gcdL p f g := by rw [cmQ, ht, if_pos rfl]
  rw [e] at h0 ⊢
  obtain ⟨k1, k2, k3, k4⟩ := common_law hf hg h0
  have t1 := twC_mk hf k1 h0
  have t2 := twC_mk hg k1 h0
  exact ⟨t1, by rw [dvR_mk t1, k2], t2, by rw [dvR_mk t2, k3], k4⟩
theorem free_fact {p : Int} {f : List Int} (h : frC p f = 0) (h0 : 0 < f.length) : cmC p f (drQ p f) = 0 ∧ frQ p f = decide ((cmQ p f (drQ p f)).length = 1) := by
  have hm : modB p f = true := by
    cases hm : modB p f
    · rw [frC, hm] at h; cases h
    · rfl
  have e : drQ p f = redL p (derL f) := by rw [drQ, hm, if_pos rfl]
  rw [e]
  have ht := twoM_mk hm (der_mod hm)
  refine ⟨by rw [cmC, ht, if_pos rfl], ?_⟩
  rw [frQ, hm, Bool.true_and, freeB, cmQ, ht, if_pos rfl, decide_eq_true h0, Bool.true_and]
theorem mm_fact {p : Int} {f g : List Int} (h : mmC p f g = 0) : mmC p g f = 0 ∧ mmQ p g f = mmQ p f g := by
  have ht : twoM p f g = true := by
    cases ht : twoM p f g
    · rw [mmC, ht] at h; cases h
    · rfl
  obtain ⟨hf, hg⟩ : modB p f = true ∧ modB p g = true := by simpa [twoM] using ht
  have hc : prodL p g f = prodL p f g := prodL_comm (by have := (modB_of hf).two; omega) g f
  have e : mmC p g f = mmC p f g := by rw [mmC, mmC, twoM_mk hg hf, ht, hc]
  exact ⟨by rw [e, h], by rw [mmQ, mmQ, e, hc]⟩
theorem quo_fact {p : Int} {f g : List Int} (h : twC p f g = 0) :
    mmC p g (dvQ p f g) = 0 ∧ trimL (tabL (max (mmQ p g (dvQ p f g)).length (dvR p f g).length) fun i => ((mmQ p g (dvQ p f g)).getD i 0 + (dvR p f g).getD i 0) % p) = f ∧
    (dvR p f g).length < g.length ∧ (2 ≤ p ∧ p ≤ 97) ∧ (∀ i, 0 ≤ (mmQ p g (dvQ p f g)).getD i 0 ∧ (mmQ p g (dvQ p f g)).getD i 0 ≤ 97) ∧ ∀ i, 0 ≤ (dvR p f g).getD i 0 ∧ (dvR p f g).getD i 0 ≤ 97 := by
  obtain ⟨hf, hg, h0⟩ := twC_zero h
  have F := modB_of hf
  have G := modB_of hg
  have p0 : 0 < p := by have := F.two; omega
  have hd := divP_is F.two F.top F.prime F.mod G.mod (fun e => h0 (by rw [e]; rfl))
  have hs : smallB p = true := by simp only [modB, Bool.and_eq_true] at hf; exact hf.1
  rw [dvR_mk h, dvQ_mk h]
  have hq := quoP_len p f g
  have hlf := F.len
  have hlg := G.len
  have hmq : modB p (quoP p f g) = true := modB_mk hs (by omega) hd.mq
  have hpl := prodL_len p g (quoP p f g)
  have hpl9 : (prodL p g (quoP p f g)).length ≤ 9 := by omega
  have hc : mmC p g (quoP p f g) = 0 := by rw [mmC, twoM_mk hg hmq, if_pos rfl, if_pos hpl9]
  have e : mmQ p g (quoP p f g) = prodL p g (quoP p f g) := if_pos hc
  rw [e]
  have hM : ModP p (prodL p g (quoP p f g)) := redL_mod p0 _
  have h97 := F.top
  exact ⟨hc, div_back p0 F.mod hd, hd.deg, ⟨F.two, F.top⟩, fun i => by have := hM.rng i; omega, fun i => by have := hd.mr.rng i; omega⟩
theorem next_fact {p e : Int} {f : List Int} (h : pxC p e f = 0) (h9 : f.length < 9) (he : e < 1000000000000) :
    pxC p (e + 1) f = 0 ∧ (pxQ p (e + 1) f).length ≤ 9 ∧ ((pxQ p e f).length = 0 → pxQ p (e + 1) f = []) ∧ ((pxQ p e f).length ≠ 0 → twC p (0 :: pxQ p e f) f = 0 ∧ pxQ p (e + 1) f = dvR p (0 :: pxQ p e f) f) := by
  obtain ⟨hm, e0, e1, h0⟩ := pxC_zero h
  have F := modB_of hm
  have hne : f ≠ [] := fun e => h0 (by rw [e]; rfl)
  have hc : pxC p (e + 1) f = 0 := by
    have hin : inB (e + 1) 0 1000000000000 = true := by simp only [inB, Bool.and_eq_true, decide_eq_true_eq]; omega
    rw [pxC, if_pos hm, if_pos hin, if_neg h0]
  have q1 : pxQ p (e + 1) f = powL p f (e.toNat + 1) := by
    rw [pxQ, if_pos hc, show (e + 1).toNat = e.toNat + 1 by omega]
  have q0 : pxQ p e f = powL p f e.toNat := by rw [pxQ, if_pos h]
  have hi := powL_is F.two F.top F.prime F.mod hne e.toNat
  have hi1 := powL_is F.two F.top F.prime F.mod hne (e.toNat + 1)
  have hl1 := hi1.deg
  rw [q0, q1]
  refine ⟨hc, by omega, fun h1 => by rw [powL_succ F.two F.top F.prime F.mod hne, if_pos h1], fun h1 => ?_⟩
  have hu := up_modB hm h9 hi.mod hi.deg h1
  have ht := twC_mk hu hm h0
  exact ⟨ht, by rw [dvR_mk ht, powL_succ F.two F.top F.prime F.mod hne, if_neg h1]⟩
theorem root_fact {p : Int} {f : List Int} (h : rtC p f = 0) : (2 ≤ p ∧ p ≤ 97) ∧ ∀ k, k < (rtQ p f).length → (0 ≤ (rtQ p f).getD k 0 ∧ (rtQ p f).getD k 0 < p) ∧ twC p f [(p - (rtQ p f).getD k 0) % p, 1] = 0 ∧ dvR p f [(p - (rtQ p f).getD k 0) % p, 1] = [] := by
  obtain ⟨hm, h0⟩ : modB p f = true ∧ f.length ≠ 0 := by
    unfold rtC at h
    split at h
    · rename_i hm
      split at h
      · omega
      · rename_i h0; exact ⟨hm, h0⟩
    · omega
  have F := modB_of hm
  refine ⟨⟨F.two, F.top⟩, fun k hk => ?_⟩
  have e : rtQ p f = rootsN p f p.toNat := if_pos h
  rw [e] at hk ⊢
  have hx : (rootsN p f p.toNat).getD k 0 ∈ rootsN p f p.toNat := by
    rw [show (rootsN p f p.toNat).getD k 0 = (rootsN p f p.toNat)[k] by simp [List.getD, hk]]; exact List.getElem_mem _
  generalize (rootsN p f p.toNat).getD k 0 = a at *
  have hr := rootsN_mem _ _ hx
  obtain ⟨k1, k2⟩ := root_rest hm h0 hx
  have ht := twC_mk hm k1 (by simp)
  exact ⟨⟨hr.1, by have := hr.2.1; have := F.two; omega⟩, ht, by rw [dvR_mk ht, k2]⟩
end Go.Proofs.Ytgnjhdkkjijiaaa
namespace Go.Proofs.Ytgnjhdkkjijiaaa
open Go.RowKit Go.Shelf
attribute [local go_sem] Oper.semAt_some
set_option linter.unusedVariables false
set_option linter.unusedSimpArgs false
theorem boxed_put8 {W : World} {j k : Nat} {t : TypeId} {v : Value} {o o' : Obj} (h : Boxed W j t v) (hk : W.heap[k]? = some o) (ho : o.isCells = false) : Boxed (W.putObj k o') j t v := by
  have hne : j ≠ k := by
    rintro rfl
    have h' : W.heap[j]? = some (Obj.cells #[v] t (0, 0)) := h
    rw [h'] at hk; cases hk; cases ho
  exact (World.putObj_heap_other hne).trans h
theorem below_put8 {b k : Nat} {w W : World} {o' : Obj} (h : Below b w W) (hk : b ≤ k) : Below b w (W.putObj k o') :=
  ⟨h.os, h.tape, h.output, by have := h.size; simp [World.putObj]; omega, fun j hj => (World.putObj_heap_other (by omega)).trans (h.block j hj)⟩
theorem boxed_below8 {W w2 : World} {j : Nat} {t : TypeId} {v : Value} (h : Boxed W j t v) (hb : Below W.heap.size W w2) : Boxed w2 j t v := (hb.block j h.lt).trans h
theorem keeps_below8 {W w2 : World} (hb : Below W.heap.size W w2) : KeepsOthers W w2 :=
  ⟨hb.size, fun k o hk _ => (hb.block k (Array.getElem?_eq_some_iff.1 hk).1).trans hk⟩
theorem boxed_set8 {W : World} {j : Nat} {t : TypeId} {v : Value} (h : Boxed W j t v) {a : Addr} (ha : j ≠ a.block) (u : Value) : Boxed (W.setCell a u) j t v := by
  have e : (W.setCell a u).heap[j]? = W.heap[j]? := Below.heap_setCell _ _ _ _ ha
  exact e.trans h
/-- an iterator's own steps only add memory -/
abbrev StU8 (A B : World) : Prop := Below A.heap.size A B
theorem backward8_made (o : Option Addr) (n c : Nat) (w : World) :
    Calls Try.prog 81 #[.slice o n c] w fun e w' => e = .returned (.func (.func 104) #[] #[.pointer (some ⟨w.heap.size, 0, none⟩)]) ∧ w' = w.alloc (.cells #[.slice o n c] 24) := by
  go_enter Try.func81, Try.ntmps81
  go_wp2
  go_ret
  exact ⟨rfl, rfl⟩
/-- the indices from the end on -/
def bkI (n j : Nat) : List Nat := (List.range j).map fun i => n - 1 - i
theorem bkI_succ (n j : Nat) : bkI n (j + 1) = bkI n j ++ [n - 1 - j] := by
  unfold bkI; rw [List.range_succ, List.map_append]; rfl
theorem bkI_length (n j : Nat) : (bkI n j).length = j := by simp [bkI]
def Ints8 (g n : Nat) (W : World) : Prop := ∀ k, k < n → ∃ y, W.cell? ⟨g, k, none⟩ = some (.int .i64 y)
def BackN (g b n c : Nat) (W : World) : Prop := Boxed W b 24 (.slice (some ⟨g, 0, none⟩) n c) ∧ Ints8 g n W
/-- what a round keeps: the box of the list, and that integers stand in it -/
def FrN (g b n : Nat) (A B : World) : Prop := B.heap[b]? = A.heap[b]? ∧ (Ints8 g n A → Ints8 g n B)
theorem frN_refl {g b n : Nat} (A : World) : FrN g b n A A := ⟨rfl, id⟩
theorem frN_trans {g b n : Nat} {A B C : World} (h : FrN g b n A B) (k : FrN g b n B C) : FrN g b n A C := ⟨k.1.trans h.1, fun x => k.2 (h.2 x)⟩
theorem ints8_put {g n k : Nat} {W : World} {o o' : Obj} (h : Ints8 g n W) (hk : W.heap[k]? = some o) (ho : o.isCells = false) : Ints8 g n (W.putObj k o') := fun i hi => by
  obtain ⟨y, hy⟩ := h i hi
  refine ⟨y, ?_⟩
  have hne : g ≠ k := by
    rintro rfl
    unfold World.cell? at hy
    rw [show W.heap[(⟨g, i, none⟩ : Addr).block]? = some o from hk] at hy
    cases o <;> simp [Obj.isCells] at ho <;> simp at hy
  rw [World.cell?_of_block (w := W) (a := ⟨g, i, none⟩) (World.putObj_heap_other hne)]; exact hy
theorem frN_put {g b n k : Nat} {A W : World} {o o' : Obj} (h : FrN g b n A W) (hk : W.heap[k]? = some o) (ho : o.isCells = false) (hb : b ≠ k) : FrN g b n A (W.putObj k o') :=
  ⟨(World.putObj_heap_other hb).trans h.1, fun x => ints8_put (h.2 x) hk ho⟩
theorem frN_below {g b n : Nat} {A B : World} (h : Below A.heap.size A B) (hb : b < A.heap.size) (hg : g < A.heap.size) : FrN g b n A B :=
  ⟨h.block b hb, fun x i hi => by obtain ⟨y, hy⟩ := x i hi; exact ⟨y, by rw [h.cell (p := ⟨g, i, none⟩) hg]; exact hy⟩⟩
theorem frN_set {g b n : Nat} {A : World} {a : Addr} (x : Int) (ha : b ≠ a.block) : FrN g b n A (A.setCell a (.int .i64 x)) := by
  refine ⟨Below.heap_setCell _ _ _ _ ha, fun h i hi => ?_⟩
  obtain ⟨y, hy⟩ := h i hi
  by_cases e : a = ⟨g, i, none⟩
  · subst e; exact ⟨x, World.cell?_setCell_same _ _ _ hy⟩
  · exact ⟨y, by rw [World.cell?_setCell_other _ _ _ _ e]; exact hy⟩
theorem frN_drew {g b n : Nat} (A : World) : FrN g b n A A.drew := ⟨rfl, id⟩
theorem backN_kept {g b n c : Nat} {A B : World} (h : BackN g b n c A) (hf : FrN g b n A B) : BackN g b n c B := ⟨hf.1.trans h.1, hf.2 h.2⟩
set_option maxRecDepth 20000 in
set_option maxHeartbeats 1600000 in
theorem backIdx_by (n : Nat) (hn : 1 ≤ n) (g b N c : Nat) (hl : N ≤ 1100000) :
    SeqBb Fence.wide n Try.prog 104 #[] #[.pointer (some ⟨b, 0, none⟩)] (fun x : Nat × Int => #[.int .i64 x.1, .int .i64 x.2]) StU8 (FrN g b N) (fun xs => xs.map Prod.fst = bkI N N) (fun pre => ∃ j, j ≤ N ∧ pre.map Prod.fst = bkI N j) (BackN g b N c) := by
  intro lp J Jx W hW hJ hX h0 hY
  have HW := Lib.hid hW
  have H0 := Lib.hid h0
  have q0 := hW.1.cell
  clear hW h0
  show CallsIn Fence.wide n Try.prog 104 #[.func (.yield lp) #[] #[], .pointer (some ⟨b, 0, none⟩)] W _
  refine callsIn_of_wp Try.func104 rfl trivial ?_ rfl
  simp only [Try.ntmps104, List.size_toArray, List.length_cons, List.length_nil, Nat.reduceAdd, Nat.reduceSub, Array.replicate_succ, Array.replicate_zero, List.push_toArray, List.append_toArray, List.nil_append, List.cons_append]
  gi_wp2
  gi_loopw [3] (fun i wr => ∃ (j : Nat) (x : Int) (pre : List (Nat × Int)), j ≤ N ∧ i = .int .i64 x ∧ x = (N : Int) - 1 - j ∧ BackN g b N c wr ∧ pre.map Prod.fst = bkI N j ∧ J pre wr) (fun i wr => (intOf i + 1).toNat)
  case atStart => exact ⟨0, (N : Int) - 1, [], Nat.zero_le _, rfl, by omega, HW.out, rfl, H0.out⟩
  case round =>
    obtain ⟨j, x, pre, hj, rfl, hx, hb, hpre, hJj⟩ := hrel
    have q1 := hb.1.cell
    by_cases hlt : j < N
    · obtain ⟨m, hm⟩ : ∃ m : Nat, x = m := ⟨x.toNat, by omega⟩
      subst hm
      have hm2 : m = N - 1 - j := by omega
      have hml : m < N := by omega
      obtain ⟨y, q2⟩ := hb.2 m hml
      have hs : (pre ++ [(m, y)]).map Prod.fst = bkI N (j + 1) := by rw [bkI_succ, List.map_append, hpre, hm2]; rfl
      have HY := Lib.hid (hY pre (m, y) wr ⟨j + 1, by omega, hs⟩ hJj)
      have HS := Lib.hid hs
      have HB := Lib.hid hb
      have HXX := Lib.hid hx
      have hm0 : (m : Int) ≤ 1100000 := by omega
      have hge : (0 : Int) ≤ (m : Int) := by omega
      clear hs hb hJj hm2 hx hpre
      obtain ⟨fn, tmps, assign, body, hy, hR⟩ := HY.out
      clear HY
      simp only at hy
      gi_wp2
      refine hR.mono ?_
      rintro e W3 (⟨rfl, hJ3, hF3⟩ | ⟨rfl, hX3⟩)
      · have hb3 := backN_kept HB.out hF3
        have d0 := hb3.1.cell
        have HB3 := Lib.hid hb3
        clear hb3 q1 q2
        gi_wp2
        go_roundw
        case rel => exact ⟨j + 1, (m : Int) - 1, _, by omega, rfl, by have := HXX.out; omega, HB3.out, HS.out, hJ3⟩
        case measure => simp [intOf]
      · gi_wp2
        refine bodyPost_ret (results_none rfl _ _ _) rfl ?_
        exact ⟨_, rfl, .inr ⟨_, ⟨j + 1, by omega, HS.out⟩, hX3⟩⟩
    · have hjl : j = N := by omega
      have HK := Lib.hid hjl
      have HJ := Lib.hid hJj
      have HP := Lib.hid hpre
      have hx1 : x < 0 := by omega
      clear hjl hJj hb hpre
      gi_wp2
      go_end0
      have hPe := HP.out
      rw [HK.out] at hPe
      exact ⟨_, rfl, .inl ⟨_, hPe, HJ.out⟩⟩
/-! the list that stays -/
def bk8 (l : List Int) (j : Nat) : List (Nat × Int) := (List.range j).map fun (i : Nat) => (l.length - 1 - i, l.getD (l.length - 1 - i) 0)
theorem bk8_length (l : List Int) (j : Nat) : (bk8 l j).length = j := by simp [bk8]
theorem bk8_succ (l : List Int) (j : Nat) : bk8 l (j + 1) = bk8 l j ++ [(l.length - 1 - j, l.getD (l.length - 1 - j) 0)] := by
  unfold bk8; rw [List.range_succ, List.map_append]; rfl
theorem bk8_last {l : List Int} {pre : List (Nat × Int)} {x : Nat × Int} (h : ∃ j, j ≤ l.length ∧ pre ++ [x] = bk8 l j) : pre.length + 1 ≤ l.length ∧ x.2 = l.getD (l.length - 1 - pre.length) 0 := by
  obtain ⟨j, hj, e⟩ := h
  have hl := congrArg List.length e
  rw [bk8_length, List.length_append, List.length_singleton] at hl
  obtain ⟨k, rfl⟩ : ∃ k, j = k + 1 := ⟨j - 1, by omega⟩
  rw [bk8_succ] at e
  have e2 := List.append_inj_right' e rfl
  injection e2 with e3
  rw [e3, show k = pre.length by omega]
  exact ⟨by omega, rfl⟩
def Fr8 (g b : Nat) (A B : World) : Prop := ∀ k, k = g ∨ k = b → B.heap[k]? = A.heap[k]?
def BackAt8 (g b c : Nat) (l : List Int) (W : World) : Prop :=
  Boxed W b 24 (.slice (some ⟨g, 0, none⟩) l.length c) ∧ ∀ k, k < l.length → W.cell? ⟨g, k, none⟩ = some (.int .i64 (l.getD k 0))
theorem backAt8_kept {g b c : Nat} {l : List Int} {A B : World} (h : BackAt8 g b c l A) (hf : Fr8 g b A B) : BackAt8 g b c l B :=
  ⟨(hf b (.inr rfl)).trans h.1, fun k hk => by rw [World.cell?_of_block (w := A) (a := ⟨g, k, none⟩) (hf g (.inl rfl))]; exact h.2 k hk⟩
set_option maxRecDepth 20000 in
set_option maxHeartbeats 1600000 in
theorem backward8_by (n : Nat) (hn : 1 ≤ n) (g b c : Nat) (l : List Int) (hl : l.length ≤ 1100000) :
    SeqBb Fence.wide n Try.prog 104 #[] #[.pointer (some ⟨b, 0, none⟩)] (fun x : Nat × Int => #[.int .i64 x.1, .int .i64 x.2]) StU8 (Fr8 g b) (fun xs => xs = bk8 l l.length) (fun pre => ∃ j, j ≤ l.length ∧ pre = bk8 l j) (BackAt8 g b c l) := by
  intro lp J Jx W hW hJ hX h0 hY
  have HW := Lib.hid hW
  have H0 := Lib.hid h0
  have q0 := hW.1.cell
  clear hW h0
  show CallsIn Fence.wide n Try.prog 104 #[.func (.yield lp) #[] #[], .pointer (some ⟨b, 0, none⟩)] W _
  refine callsIn_of_wp Try.func104 rfl trivial ?_ rfl
  simp only [Try.ntmps104, List.size_toArray, List.length_cons, List.length_nil, Nat.reduceAdd, Nat.reduceSub, Array.replicate_succ, Array.replicate_zero, List.push_toArray, List.append_toArray, List.nil_append, List.cons_append]
  gi_wp2
  gi_loopw [3] (fun i wr => ∃ (j : Nat) (x : Int), j ≤ l.length ∧ i = .int .i64 x ∧ x = (l.length : Int) - 1 - j ∧ BackAt8 g b c l wr ∧ J (bk8 l j) wr) (fun i wr => (intOf i + 1).toNat)
  case atStart => exact ⟨0, (l.length : Int) - 1, Nat.zero_le _, rfl, by omega, HW.out, H0.out⟩
  case round =>
    obtain ⟨j, x, hj, rfl, hx, hb, hJj⟩ := hrel
    have q1 := hb.1.cell
    by_cases hlt : j < l.length
    · obtain ⟨m, hm⟩ : ∃ m : Nat, x = m := ⟨x.toNat, by omega⟩
      subst hm
      have hm2 : m = l.length - 1 - j := by omega
      have hml : m < l.length := by omega
      have q2 := hb.2 m hml
      obtain ⟨y, hy⟩ : ∃ y, l.getD m 0 = y := ⟨_, rfl⟩
      rw [hy] at q2
      have hs : bk8 l (j + 1) = bk8 l j ++ [(m, y)] := by rw [bk8_succ, ← hm2, hy]
      have HY := Lib.hid (hY (bk8 l j) (m, y) wr ⟨j + 1, by omega, hs.symm⟩ hJj)
      have HS := Lib.hid hs
      have HB := Lib.hid hb
      have HXX := Lib.hid hx
      have hm0 : (m : Int) ≤ 1100000 := by omega
      have hge : (0 : Int) ≤ (m : Int) := by omega
      clear hs hb hJj hy hm2 hx
      obtain ⟨fn, tmps, assign, body, hy, hR⟩ := HY.out
      clear HY
      simp only at hy
      gi_wp2
      refine hR.mono ?_
      rintro e W3 (⟨rfl, hJ3, hF3⟩ | ⟨rfl, hX3⟩)
      · have hb3 := backAt8_kept HB.out hF3
        have d0 := hb3.1.cell
        have HB3 := Lib.hid hb3
        clear hb3 q1 q2
        gi_wp2
        go_roundw
        case rel => exact ⟨j + 1, (m : Int) - 1, by omega, rfl, by have := HXX.out; omega, HB3.out, by rw [HS.out]; exact hJ3⟩
        case measure => simp [intOf]
      · gi_wp2
        refine bodyPost_ret (results_none rfl _ _ _) rfl ?_
        exact ⟨_, rfl, .inr ⟨_, ⟨j + 1, by omega, HS.out.symm⟩, hX3⟩⟩
    · have hjl : j = l.length := by omega
      have HK := Lib.hid hjl
      have HJ := Lib.hid hJj
      have hx1 : x < 0 := by omega
      clear hjl hJj hb
      gi_wp2
      go_end0
      have hJe := HJ.out
      rw [HK.out] at hJe
      exact ⟨_, rfl, .inl ⟨_, rfl, hJe⟩⟩
end Go.Proofs.Ytgnjhdkkjijiaaa
namespace Go.Proofs.Ytgnjhdkkjijiaaa
open Go.RowKit Go.Shelf
attribute [local go_sem] Oper.semAt_some
set_option linter.unusedVariables false
set_option linter.unusedSimpArgs false
set_option maxRecDepth 20000
/-- boxes of variables that lie -/
def Boxes (W : World) (L : List (Nat × TypeId × Value)) : Prop := ∀ x ∈ L, Boxed W x.1 x.2.1 x.2.2
theorem boxes_put {W : World} {L : List (Nat × TypeId × Value)} {k : Nat} {o o' : Obj} (h : Boxes W L) (hk : W.heap[k]? = some o) (ho : o.isCells = false) : Boxes (W.putObj k o') L := fun x hx => boxed_put8 (h x hx) hk ho
theorem boxes_below {W W' : World} {L : List (Nat × TypeId × Value)} (h : Boxes W L) (hb : Below W.heap.size W W') : Boxes W' L := fun x hx => boxed_below8 (h x hx) hb
theorem boxes_set {W : World} {L : List (Nat × TypeId × Value)} {a : Addr} (h : Boxes W L) (ha : ∀ x ∈ L, x.1 ≠ a.block) (u : Value) : Boxes (W.setCell a u) L := fun x hx => boxed_set8 (h x hx) (ha x hx) u
theorem boxes_drew {W : World} {L : List (Nat × TypeId × Value)} (h : Boxes W L) : Boxes W.drew L := h
theorem boxes_cons {W : World} {L : List (Nat × TypeId × Value)} {b : Nat} {T : TypeId} {v : Value} (h : Boxes W L) (hb : Boxed W b T v) : Boxes W ((b, T, v) :: L) := fun x hx => by
  rcases List.mem_cons.1 hx with rfl | hx
  · exact hb
  · exact h x hx
theorem boxes_grown {W W' : World} {L : List (Nat × TypeId × Value)} (h : Boxes W L) (hg : W.grownBy W' none) : Boxes W' L := fun x hx => (hg.block x.1 (h x hx).lt (by simp)).trans (h x hx)
theorem row_none8 {b n c : Nat} {o : Option Addr} {w w' : World} {l : List Int} (h : IntRow b w (.slice o n c) l) (hg : w.grownBy w' none) : IntRow b w' (.slice o n c) l :=
  World.ownsRow.kept h hg (by cases hv : (Value.slice o n c).ownBlock with | none => exact .inl rfl | some k => exact .inr (by simp))
theorem row_put8 {b : Nat} {w : World} {v : Value} {l : List Int} {k : Nat} {o o' : Obj} (h : IntRow b w v l) (hk : w.heap[k]? = some o) (ho : o.isCells = false) : IntRow b (w.putObj k o') v l := ownsRow_putObj h _ hk ho
/-- four cells stay where memory is added -/
theorem keep8_alloc {W3 W' : World} {x1 x2 x3 x4 : Addr} {v1 v2 v3 v4 : Value} (h : Below W3.heap.size W3 W' ∧ W'.cell? x1 = some v1 ∧ W'.cell? x2 = some v2 ∧ W'.cell? x3 = some v3 ∧ W'.cell? x4 = some v4) (o : Obj) :
    Below W3.heap.size W3 (W'.alloc o) ∧ (W'.alloc o).cell? x1 = some v1 ∧ (W'.alloc o).cell? x2 = some v2 ∧ (W'.alloc o).cell? x3 = some v3 ∧ (W'.alloc o).cell? x4 = some v4 := by
  obtain ⟨hb, h1, h2, h3, h4⟩ := h
  exact ⟨hb.alloc hb.size o, (World.cell?_alloc_lt _ _ _ (World.block_lt_of_cell? _ _ h1)).trans h1, (World.cell?_alloc_lt _ _ _ (World.block_lt_of_cell? _ _ h2)).trans h2, (World.cell?_alloc_lt _ _ _ (World.block_lt_of_cell? _ _ h3)).trans h3, (World.cell?_alloc_lt _ _ _ (World.block_lt_of_cell? _ _ h4)).trans h4⟩
theorem keep8_set {W3 W' : World} {q x1 x2 x3 x4 : Addr} {v1 v2 v3 v4 : Value} (h : Below W3.heap.size W3 W' ∧ W'.cell? x1 = some v1 ∧ W'.cell? x2 = some v2 ∧ W'.cell? x3 = some v3 ∧ W'.cell? x4 = some v4) (hq : W3.heap.size ≤ q.block) (l1 : x1.block < W3.heap.size) (l2 : x2.block < W3.heap.size) (l3 : x3.block < W3.heap.size) (l4 : x4.block < W3.heap.size) (u : Value) :
    Below W3.heap.size W3 (W'.setCell q u) ∧ (W'.setCell q u).cell? x1 = some v1 ∧ (W'.setCell q u).cell? x2 = some v2 ∧ (W'.setCell q u).cell? x3 = some v3 ∧ (W'.setCell q u).cell? x4 = some v4 := by
  obtain ⟨hb, h1, h2, h3, h4⟩ := h
  exact ⟨hb.setCell hq u, (World.cell?_setCell_other _ _ _ _ (by intro e; subst e; omega)).trans h1, (World.cell?_setCell_other _ _ _ _ (by intro e; subst e; omega)).trans h2, (World.cell?_setCell_other _ _ _ _ (by intro e; subst e; omega)).trans h3, (World.cell?_setCell_other _ _ _ _ (by intro e; subst e; omega)).trans h4⟩
theorem bkI_last {n : Nat} {pre : List (Nat × Int)} {x : Nat × Int} (h : ∃ j, j ≤ n ∧ (pre ++ [x]).map Prod.fst = bkI n j) : pre.length + 1 ≤ n ∧ x.1 + pre.length + 1 = n := by
  obtain ⟨j, hj, e⟩ := h
  have hl := congrArg List.length e
  rw [bkI_length, List.length_map, List.length_append, List.length_singleton] at hl
  obtain ⟨k, rfl⟩ : ∃ k, j = k + 1 := ⟨j - 1, by omega⟩
  rw [bkI_succ, List.map_append] at e
  have e2 := List.append_inj_right' e rfl
  injection e2 with e3
  have e4 : k = pre.length := by omega
  rw [← e4]
  exact ⟨by omega, by rw [e3]; omega⟩
/-- what holds at the head of each round of the division -/
def DvI (w : World) (L : List (Nat × TypeId × Value)) (b5 Q q : Nat) (p iv : Int) (f g : List Int) (o5 : Option Addr) (c5 : Nat) (pre : List (Nat × Int)) (W : World) : Prop :=
  Boxes W L ∧ IntRow b5 W (.slice o5 f.length c5) (tabL f.length (mdS p iv g (fun j => f.getD j 0) f.length pre.length)) ∧ IntRow Q W (.slice (some ⟨Q, 0, none⟩) q q) (qX p iv f g q pre.length) ∧ Below w.heap.size w W
theorem dvI_put {w W : World} {L : List (Nat × TypeId × Value)} {b5 Q q : Nat} {p iv : Int} {f g : List Int} {o5 : Option Addr} {c5 : Nat} {pre : List (Nat × Int)} {k : Nat} {o o' : Obj} (h : DvI w L b5 Q q p iv f g o5 c5 pre W) (hb : w.heap.size ≤ k) (hk : W.heap[k]? = some o) (ho : o.isCells = false) : DvI w L b5 Q q p iv f g o5 c5 pre (W.putObj k o') :=
  ⟨boxes_put h.1 hk ho, row_put8 h.2.1 hk ho, row_put8 h.2.2.1 hk ho, below_put8 h.2.2.2 hb⟩
theorem dvI_below {w A B : World} {L : List (Nat × TypeId × Value)} {b5 Q q : Nat} {p iv : Int} {f g : List Int} {o5 : Option Addr} {c5 : Nat} {pre : List (Nat × Int)} (h : DvI w L b5 Q q p iv f g o5 c5 pre A) (hs : StU8 A B) : DvI w L b5 Q q p iv f g o5 c5 pre B :=
  ⟨boxes_below h.1 hs, row_below h.2.1 hs (Nat.le_refl _), row_below h.2.2.1 hs (Nat.le_refl _), h.2.2.2.trans (hs.mono h.2.2.2.size)⟩
/-- all orders of a region come to the same -/
theorem wp_meet {P : Program} {c : Code} {Q : Exit → Act → World → Prop} {a : Act} {w : World} {T : Array Value} {W : World} (hr : c.wp P (fun e a' w' => e = .normal ∧ a' = { tmps := T, defers := [] } ∧ w' = W) a w) (hk : Q .normal { tmps := T, defers := [] } W) : c.wp P Q a w :=
  Code.wp_mono (fun e a' w' h => by obtain ⟨rfl, rfl, rfl⟩ := h; exact hk) hr
set_option maxHeartbeats 8000000 in
theorem divide_any (p : Int) (hs : smallB p = true) {o o' : Option Addr} {n n' c c' : Nat} {f g : List Int} {w : World} (h : Seen w o n c f) (h' : SeenD w o' n' c' g) (hf : ModP p f) (hg : ModP p g) (h0 : g.length ≠ 0) (hn20 : n ≤ 20) (hn9' : n' ≤ 20) :
    Calls Try.prog 49 #[R1 p, .slice o n c, .slice o' n' c'] w (Own2Post (quoP p f g) (remP p f g) w) := by
  obtain ⟨p2, p97, pp⟩ := small_prime hs
  have HS := Lib.hid h
  obtain ⟨hl', hn', hno', hnc', a', dd, h1', h2'⟩ := h'
  obtain ⟨rfl, hag'⟩ := h1' (by omega)
  have b1 := h2' (n' - 1) (by omega)
  have hn1 : (n' : Int) - 1 = ((n' - 1 : Nat) : Int) := by omega
  have HC' := Lib.hid h2'
  have HL' := Lib.hid hl'
  have HL := Lib.hid h.1
  obtain ⟨i0, hi, hz0, hz1, hz2⟩ := info_parts Try.infoInt64
  have HI := Lib.hid hi
  have HZ0 := Lib.hid hz0
  have HZ1 := Lib.hid hz1
  have HZ2 := Lib.hid hz2
  have HF := Lib.hid hf
  have HG := Lib.hid hg
  have hpz : (p == 0) = false := by simp; omega
  have hle1 : 1 ≤ n' := by omega
  have hlast := hg.rng (n' - 1)
  have HV := Lib.hid (show invP p g = bezX (g.getD (n' - 1) 0) p % p by unfold invP; rw [← hl'])
  have HIP := Lib.hid (invP_dvd p2 p97 pp hg (fun e => h0 (by rw [e]; rfl)))
  generalize hla : g.getD (n' - 1) 0 = la at *
  obtain ⟨iv, hiv⟩ : ∃ x, invP p g = x := ⟨_, rfl⟩
  have hivb := invP_lt (p := p) (g := g) p2
  rw [hiv] at HV hivb
  have HIV := Lib.hid hiv
  obtain ⟨la0, la1⟩ := hlast
  obtain ⟨iv0, iv1⟩ := hivb
  have HM := Lib.hid fun w => modulus8_any p hs w
  obtain ⟨d, hd⟩ : ∃ d, n' - 1 = d := ⟨_, rfl⟩
  rw [hd] at hn1 b1
  have HD := Lib.hid hd
  have HAG := Lib.hid hag'
  have HB1 := Lib.hid b1
  clear h h1' h2' hl' hn' hno' hnc' hi hz0 hz1 hz2 hf hg h0 hla hiv hd b1 hag'
  refine (callsIn_wide (n := 4)).1 ?_
  refine callsIn_of_wp_marks Try.func49 rfl trivial ?_ rfl
  simp only [Try.ntmps49, List.size_toArray, List.length_cons, List.length_nil, Nat.reduceAdd, Nat.reduceSub, Array.replicate_succ, Array.replicate_zero, List.push_toArray, List.append_toArray, List.nil_append, List.cons_append]
  refine wpIn_wide.2 ?_
  -- the boxes of the receiver and of g
  have hbw := (below_a8 w (.cells #[.int .i64 p, .int .i64 1] 46)).alloc (by simp) (.cells #[.slice (some ⟨a', dd, none⟩) n' c'] 24)
  have hbx := Boxed.new (w.alloc (.cells #[.int .i64 p, .int .i64 1] 46)) 24 (.slice (some ⟨a', dd, none⟩) n' c')
  rw [World.size_alloc] at hbx
  have HBW := Lib.hid hbw
  have HBX := Lib.hid hbx
  clear hbw hbx
  go_wp2_with fail
  refine (HM.out _).mono ?_
  rintro e w1 ⟨rfl, hb⟩
  have hb0 := HBW.out.trans (hb.mono HBW.out.size)
  have hx1 := boxed_below8 HBX.out hb
  obtain ⟨bg, hbg⟩ : ∃ bg, w.heap.size + 1 = bg := ⟨_, rfl⟩
  rw [hbg] at hx1
  have hgm : bg < w1.heap.size := hx1.lt
  obtain ⟨bm, hbm⟩ : ∃ bm, w1.heap.size = bm := ⟨_, rfl⟩
  have hbs := hb0.size
  have hb2 := (hb0.alloc hbs (.cells #[.int .i64 p] 2)).alloc (by simp; omega) (.cells #[.int .i64 (d : Int)] 3)
  have hx2 := (hx1.alloc (.cells #[.int .i64 p] 2)).alloc (.cells #[.int .i64 (d : Int)] 3)
  have hm2 := (Boxed.new w1 2 (.int .i64 p)).alloc (.cells #[.int .i64 (d : Int)] 3)
  have hd2 := Boxed.new (w1.alloc (.cells #[.int .i64 p] 2)) 3 (.int .i64 (d : Int))
  rw [World.size_alloc, hbm] at hd2
  rw [hbm] at hm2 hgm hbs
  have cg := (hx1.alloc (.cells #[.int .i64 p] 2)).cell
  have HB0 := Lib.hid hb2
  have HX := Lib.hid (boxes_cons (boxes_cons (boxes_cons (L := []) (by intro x hx; cases hx) hd2) hm2) hx2)
  have HSZ := Lib.hid (And.intro hgm hbs)
  rw [hbg]
  clear hb hb0 hx1 hb2 hx2 hm2 hd2 HM hbg hgm hbs
  go_upto_region 3 with fail
  generalize (w1.alloc (.cells #[.int .i64 p] 2)).alloc (.cells #[.int .i64 (d : Int)] 3) = W3 at *
  have hx3 := HX.out
  have e1 := (hx3 (bg, 24, .slice (some ⟨a', dd, none⟩) n' c') (by simp)).cell
  have e2 := (hx3 (bm, 2, .int .i64 p) (by simp)).cell
  have e3 := (hx3 (bm + 1, 3, .int .i64 (d : Int)) (by simp)).cell
  have e4 : W3.cell? ⟨a', dd + d, none⟩ = some (.int .i64 la) := by rw [HB0.out.cell (p := ⟨a', dd + d, none⟩) HAG.out]; exact HB1.out
  have l1 := (hx3 (bg, 24, .slice (some ⟨a', dd, none⟩) n' c') (by simp)).lt
  have l2 := (hx3 (bm, 2, .int .i64 p) (by simp)).lt
  have l3 := (hx3 (bm + 1, 3, .int .i64 (d : Int)) (by simp)).lt
  have l4 : a' < W3.heap.size := by have := HB0.out.size; have := HAG.out; omega
  have hdn : (d : Int) < (n' : Int) := by omega
  clear cg hx3
  apply wp_meet (W := (W3.alloc (.cells #[.int .i64 (bezX la p % p)] 2)).drew)
  case hr =>
    go_region_held3 (fun W' => Below W3.heap.size W3 W' ∧ W'.cell? ⟨bg, 0, none⟩ = some (.slice (some ⟨a', dd, none⟩) n' c') ∧ W'.cell? ⟨bm, 0, none⟩ = some (.int .i64 p) ∧ W'.cell? ⟨bm + 1, 0, none⟩ = some (.int .i64 (d : Int)) ∧ W'.cell? ⟨a', dd + d, none⟩ = some (.int .i64 la))
      (first | exact ⟨below_drewN (Below.refl _ _) 1, e1, e2, e3, e4⟩ | exact keep8_alloc ‹_› _ | exact keep8_alloc (W' := W3.drew) ⟨below_drewN (Below.refl _ _) 1, e1, e2, e3, e4⟩ (.cells #[.int .i64 0] 2) | exact keep8_alloc (W' := W3.drew) ⟨below_drewN (Below.refl _ _) 1, e1, e2, e3, e4⟩ (.cells #[.int .i64 (bezX la p % p)] 2) | assumption) (first | (go_at_call 79; refine (inverse8_any la p _ la0 la1 p2 (by omega)).mono ?_; rintro e wn ⟨rfl, rfl⟩))
    all_goals exact ⟨rfl, rfl, rfl⟩
  rw [← HV.out]
  -- the world behind the inverse
  have hx4 := boxes_below (boxes_drew HX.out) (below_a8 W3.drew (.cells #[.int .i64 iv] 2))
  have hi4 := Boxed.new W3.drew 2 (.int .i64 iv)
  have hb4 := (below_drewN HB0.out 1).alloc (by have := HB0.out.size; exact this) (.cells #[.int .i64 iv] 2)
  have HX4 := Lib.hid (boxes_cons hx4 hi4)
  have HB4 := Lib.hid hb4
  have HS4 := Lib.hid (seen_below HS.out hb4)
  clear hx4 hi4 hb4 e1 e2 e3 e4 l1 l2 l3 l4 HX HB0 hbm
  obtain ⟨bi, hbi⟩ : ∃ bi, W3.heap.size = bi := ⟨_, rfl⟩
  replace HX4 : Hid (Boxes (W3.alloc (.cells #[.int .i64 iv] 2)).drew [(bi, 2, .int .i64 iv), (bg, 24, .slice (some ⟨a', dd, none⟩) n' c'), (bm, 2, .int .i64 p), (bm + 1, 3, .int .i64 (d : Int))]) := by rw [← hbi]; exact HX4
  replace HB4 : Hid (Below w.heap.size w (W3.alloc (.cells #[.int .i64 iv] 2)).drew) := HB4
  replace HS4 : Hid (Seen (W3.alloc (.cells #[.int .i64 iv] 2)).drew o n c f) := HS4
  rw [hbi]
  generalize (W3.alloc (.cells #[.int .i64 iv] 2)).drew = W4 at *
  clear hbi
  have HBL4 := Lib.hid (fun y hy => (HX4.out y hy).lt)
  go_wp2_with fail
  refine (clone8_any HS4.out).mono ?_
  rintro e W5 ⟨v5, rfl, hr5, hb5⟩
  obtain ⟨o5, c5, rfl⟩ := row_slice hr5
  have hown5 := fun k hk => (World.ownsRow.lt hr5 k hk).2
  have hx5 := boxes_below HX4.out hb5
  have hb50 := HB4.out.trans (hb5.mono HB4.out.size)
  have hx6 := boxes_cons (boxes_below hx5 (below_a8 W5 (.cells #[.slice o5 f.length c5] 24))) (Boxed.new W5 24 (.slice o5 f.length c5))
  have hr6 := row_below hr5 (below_a8 W5 (.cells #[.slice o5 f.length c5] 24)) (Nat.le_refl _)
  have hb6 := hb50.alloc hb50.size (.cells #[.slice o5 f.length c5] 24)
  have hs6 : (W5.alloc (.cells #[.slice o5 f.length c5] 24)).heap.size = W5.heap.size + 1 := by simp
  obtain ⟨br, hbr⟩ : ∃ br, W5.heap.size = br := ⟨_, rfl⟩
  rw [hbr] at hx6 hs6 hown5
  have HOWN := Lib.hid hown5
  have cd := (hx6 (bm + 1, 3, .int .i64 (d : Int)) (by simp)).cell
  have HX6 := Lib.hid hx6
  have HR6 := Lib.hid hr6
  have HB6 := Lib.hid hb6
  have hlow : w.heap.size ≤ W4.heap.size ∧ W4.heap.size ≤ br := ⟨HB4.out.size, by rw [← hbr]; exact hb5.size⟩
  have HLOW := Lib.hid hlow
  obtain ⟨q, hq⟩ : ∃ q, n - d = q := ⟨_, rfl⟩
  have hmax : max ((n : Int) - (d : Int)) 0 = (q : Int) := by omega
  have hq20 : q ≤ 20 := by omega
  have HQD := Lib.hid hq
  clear hown5 hr5 hb5 hx5 hb50 hx6 hr6 hb6 hlow HX4 HB4 HS4 hq
  go_upto_region 5 with fail
  generalize W5.alloc (.cells #[.slice o5 f.length c5] 24) = W6 at *
  clear hbr
  obtain ⟨Q, hQ⟩ : ∃ Q, W6.heap.size = Q := ⟨_, rfl⟩
  have HSQ := Lib.hid (show Q = br + 1 by rw [← hQ]; exact hs6)
  have HWQ := Lib.hid hQ
  have hbl6 := fun y hy => (HX6.out y hy).lt
  rw [hQ] at hbl6
  have HBL6 := Lib.hid hbl6
  clear hbl6
  clear hs6
  go_wp2_with (at_make; refine wpList_make_full _ rfl (.tmp 33) (.tmp 33) 24 rfl W6.heap.size 2 i0 (.int .i64 0) 1 Try.underlying24 HI.out HZ0.out HZ1.out .i64 .i64 _ _ q rfl rfl rfl rfl (by rw [HZ2.out]; omega) (by unfold maxLen; omega) (Nat.le_refl _) ?_; intro W7 hown hgrow)
  rw [hQ] at hown
  have hb7 := HB6.out.grown hgrow HB6.out.size (fun k h => by cases h)
  have hx7 := boxes_grown HX6.out hgrow
  have hr7 := row_none8 HR6.out hgrow
  have hq7 : IntRow Q W7 (.slice (some ⟨Q, 0, none⟩) q q) (tabL q fun _ => 0) := by rw [← hQ] at hown ⊢; exact int_made hown
  have hQl : Q < W7.heap.size := (World.ownsRow.lt hq7 Q rfl).2
  obtain ⟨bq, hbq⟩ : ∃ bq, W7.heap.size = bq := ⟨_, rfl⟩
  have hx8 := boxes_cons (boxes_below hx7 (below_a8 W7 (.cells #[.slice (some ⟨Q, 0, none⟩) q q] 24))) (Boxed.new W7 24 (.slice (some ⟨Q, 0, none⟩) q q))
  have hs8 : (W7.alloc (.cells #[.slice (some ⟨Q, 0, none⟩) q q] 24)).heap.size = bq + 1 := by rw [← hbq]; simp
  have hbk := Boxed.new (W7.alloc (.cells #[.slice (some ⟨Q, 0, none⟩) q q] 24)) 24 (.slice (some ⟨Q, 0, none⟩) q q)
  have hx9 := boxes_below hx8 (below_a8 (W7.alloc (.cells #[.slice (some ⟨Q, 0, none⟩) q q] 24)) (.cells #[.slice (some ⟨Q, 0, none⟩) q q] 24))
  have hb9 := (hb7.alloc hb7.size (.cells #[.slice (some ⟨Q, 0, none⟩) q q] 24)).alloc (by rw [hs8, ← hbq]; have := hb7.size; omega) (.cells #[.slice (some ⟨Q, 0, none⟩) q q] 24)
  have hr9 := row_below (row_below hr7 (below_a8 W7 (.cells #[.slice (some ⟨Q, 0, none⟩) q q] 24)) (Nat.le_refl _)) (below_a8 (W7.alloc (.cells #[.slice (some ⟨Q, 0, none⟩) q q] 24)) (.cells #[.slice (some ⟨Q, 0, none⟩) q q] 24)) (Nat.le_refl _)
  have hq9 := row_below (row_below hq7 (below_a8 W7 (.cells #[.slice (some ⟨Q, 0, none⟩) q q] 24)) (Nat.le_refl _)) (below_a8 (W7.alloc (.cells #[.slice (some ⟨Q, 0, none⟩) q q] 24)) (.cells #[.slice (some ⟨Q, 0, none⟩) q q] 24)) (Nat.le_refl _)
  rw [hs8] at hbk
  rw [hbq] at hx9 hQl
  have HX9 := Lib.hid hx9
  have HK9 := Lib.hid hbk
  have HB9 := Lib.hid hb9
  have HR9 := Lib.hid hr9
  have HQ9 := Lib.hid hq9
  have HQL := Lib.hid hQl
  clear hown hgrow hb7 hx7 hr7 hq7 hx8 hbk hx9 hb9 hr9 hq9 hQl HX6 HR6 HB6 cd hmax
  refine (backward8_made _ _ _ _).mono ?_
  rintro e W8 ⟨rfl, rfl⟩
  rw [hs8]
  go_wp2_with fail
  generalize (W7.alloc (.cells #[.slice (some ⟨Q, 0, none⟩) q q] 24)).alloc (.cells #[.slice (some ⟨Q, 0, none⟩) q q] 24) = W9 at *
  clear hs8 hbq
  refine (wpIn_wide (n := 4)).1 ?_
  have hsz := HB9.out.size
  have hkl : bq + 1 < W9.heap.size := HK9.out.lt
  have hbQ : br < Q ∧ Q < bq := ⟨by have := HSQ.out; omega, HQL.out⟩
  refine wpIn_rangeBb (F := Fence.wide) (n := 4) (P := Try.prog) (w := W9) rfl (by omega) (gf := 104) (ba := #[]) (lb := #[.pointer (some ⟨bq + 1, 0, none⟩)]) rfl trivial (enters_of Try.func104 (by kernel_rfl) rfl)
    (backIdx_by 3 (by omega) Q (bq + 1) q q (by omega)) (fun _ => rfl)
    (DvI w [(bq, 24, .slice (some ⟨Q, 0, none⟩) q q), (br, 24, .slice o5 f.length c5), (bi, 2, .int .i64 iv), (bg, 24, .slice (some ⟨a', dd, none⟩) n' c'), (bm, 2, .int .i64 p), (bm + 1, 3, .int .i64 (d : Int))] W4.heap.size Q q p iv f g o5 c5) (fun _ _ => False)
    (fun x => { tmps := #[R1 p, .slice o n c, .slice (some ⟨a', dd, none⟩) n' c', .pointer (some ⟨w.heap.size, 0, none⟩), undef, .pointer (some ⟨bg, 0, none⟩), .slice none 0 0, .slice none 0 0, .pointer (some ⟨bm, 0, none⟩), .pointer (some ⟨bm + 1, 0, none⟩), .pointer (some ⟨bi, 0, none⟩), .pointer (some ⟨br, 0, none⟩), .pointer (some ⟨bq, 0, none⟩), .int .i64 x.1, undef, undef, .agg #[.int .i64 p, .int .i64 1], .int .i64 p, .slice (some ⟨a', dd, none⟩) n' c', .int .i64 n', .int .i64 d, .slice (some ⟨a', dd, none⟩) n' c', .int .i64 d, .pointer (some ⟨a', dd + d, none⟩), .int .i64 la, .int .i64 p, .int .i64 iv, .slice o n c, .slice o5 f.length c5, .slice o n c, .int .i64 n, .int .i64 d, .int .i64 ((n : Int) - (d : Int)), .int .i64 q, .slice (some ⟨Q, 0, none⟩) q q, .slice (some ⟨Q, 0, none⟩) q q, .func (.func 104) #[] #[.pointer (some ⟨bq + 1, 0, none⟩)], .int .i64 x.1, .int .i64 x.2, undef, undef, undef, undef, undef, undef, undef, undef, undef, undef, undef, undef, undef, undef, undef, undef, undef, undef, undef, undef, undef, undef, undef, undef, undef, undef, undef, undef, undef, undef, undef, undef, undef, undef, undef, undef, undef, undef, undef, undef, undef, undef, undef, undef], defers := [] })
    ?ip ?xp ?fp ?fq ?ft ?is ?xs ?sk ?h0 ?s0 ?assign ?body ?done ?stop
  case ip => intro pre W k o o' h hk ho hc; exact dvI_put h (by omega) ho hc
  case xp => intro _ _ _ _ _ h; exact h.elim
  case fp => intro A W k o o' hf hk ho hc; exact frN_put hf ho hc (by omega)
  case fq => intro W k o o' hk ho hc; exact frN_put (frN_refl W) ho hc (by omega)
  case ft => intro A B C h k; exact frN_trans h k
  case is => intro pre A B h hs; exact dvI_below h hs
  case xs => intro _ _ _ h; exact h.elim
  case sk => intro A B k o hs hk ho hc; exact (hs.block k (Array.getElem?_eq_some_iff.1 ho).1).trans ho
  case h0 =>
    intro oo oo'
    have hbb : Below W9.heap.size W9 ((W9.alloc oo).alloc oo') := (below_a8 W9 oo).alloc (by simp) oo'
    have hr0 : f = tabL f.length (mdS p iv g (fun j => f.getD j 0) f.length ([] : List (Nat × Int)).length) := by
      refine ext_getD (by rw [tabL_length]) fun i hi => ?_
      rw [tabL_getD hi]; rfl
    refine ⟨boxes_below HX9.out hbb, by rw [← hr0]; exact row_below HR9.out hbb (Nat.le_refl _), ?_, HB9.out.trans (hbb.mono HB9.out.size)⟩
    have hq0 : qX p iv f g q ([] : List (Nat × Int)).length = tabL q fun _ => 0 := by
      by_cases h0 : q = 0
      · rw [h0]; rfl
      · exact qX_zero (by have := HQD.out; have := HD.out; have := HL.out; have := HL'.out; omega)
    rw [hq0]; exact row_below HQ9.out hbb (Nat.le_refl _)
  case s0 =>
    intro oo oo'
    have hbb : Below W9.heap.size W9 ((W9.alloc oo).alloc oo') := (below_a8 W9 oo).alloc (by simp) oo'
    exact ⟨(HK9.out.alloc oo).alloc oo', fun k hk => ⟨_, int_at (row_below HQ9.out hbb (Nat.le_refl _)) (tabL_length _ _) hk⟩⟩
  case assign =>
    intro lp x W K hK
    gi_wp2
    exact hK
  case body =>
    rintro lp pre x W hsp ⟨hx, hr, hqr, hb⟩
    obtain ⟨hk1, hxk⟩ := bkI_last hsp
    obtain ⟨i, hi⟩ : ∃ i, x.1 = i := ⟨_, rfl⟩
    obtain ⟨y9, hy9⟩ : ∃ y, x.2 = y := ⟨_, rfl⟩
    obtain ⟨k, hk⟩ : ∃ k, pre.length = k := ⟨_, rfl⟩
    have hlen : (pre ++ [x]).length = k + 1 := by rw [List.length_append, hk]; rfl
    have HLEN := Lib.hid hlen
    rw [hi, hy9]
    rw [hk] at hr hqr hk1 hxk
    rw [hi] at hxk
    clear hsp hlen hi hy9 hk
    have hqn : q + g.length = f.length + 1 := by have := HQD.out; have := HD.out; have := HL.out; have := HL'.out; omega
    have HQN := Lib.hid hqn
    have hik : i + g.length + k = f.length := by omega
    have HIK := Lib.hid hik
    have hf1 : 1 ≤ f.length := by have := HL'.out; omega
    have hr' : W.ownsRow W4.heap.size 2 1 (.slice o5 f.length c5) f.length ((tabL f.length (mdS p iv g (fun j => f.getD j 0) f.length k)).map (Value.int .i64)) := by
      have h9 := hr
      unfold IntRow at h9
      rw [tabL_length] at h9; exact h9
    rcases row_shape hr' with ⟨hz, _⟩ | ⟨_, G, cap, he, hbg5, hgw⟩
    · omega
    injection he with he1 he2 he3
    subst he1 he3
    have hGr : G < br := HOWN.out G rfl
    have hGQ : G ≠ Q := by omega
    have HR := Lib.hid hr
    have HQ := Lib.hid hqr
    have HX := Lib.hid hx
    have HB := Lib.hid hb
    have HLW := Lib.hid (And.intro hbg5 HLOW.out.1)
    obtain ⟨m, hm⟩ : ∃ m, i + d = m := ⟨_, rfl⟩
    have him : (i : Int) + (d : Int) = (m : Int) := by omega
    have hmn : m < f.length := by have := HD.out; have := HL'.out; omega
    have hmn' : (m : Int) < (f.length : Int) := by omega
    have hiq : i < q := by omega
    have hiq' : (i : Int) < (q : Int) := by omega
    have wm : IntKind.i64.wrap (m : Int) = (m : Int) := IntWalk.i64_in _ (by have := HL.out; omega)
    have c1 := int_at hr (tabL_length _ _) hmn
    rw [tabL_getD hmn] at c1
    have hce : mdC p iv g (fun j => f.getD j 0) f.length k = mdS p iv g (fun j => f.getD j 0) f.length k m * iv % p := by unfold mdC; rw [show f.length - 1 - k = m by have := HD.out; have := HL'.out; omega]
    have HSUB := Lib.hid (subX_end (p := p) (inv := iv) (g := g) (r0 := fun j => f.getD j 0) hik)
    have HQS := Lib.hid (qX_step (p := p) (inv := iv) (f := f) (g := g) hqn hik)
    obtain ⟨y0, y1⟩ := mdS_lt (inv := iv) (g := g) (N := f.length) HF.out k m
    have hpb := prod_small p97 ⟨y0, y1⟩ ⟨iv0, iv1⟩
    have HBD := Lib.hid (fun j => mdS_lt (inv := iv) (g := g) (N := f.length) HF.out k j)
    obtain ⟨z, hz⟩ : ∃ z, mdS p iv g (fun j => f.getD j 0) f.length k m = z := ⟨_, rfl⟩
    rw [hz] at c1 hce hpb y0 y1
    obtain ⟨xv, hxv⟩ : ∃ x, mdC p iv g (fun j => f.getD j 0) f.length k = x := ⟨_, rfl⟩
    rw [hxv] at hce HSUB HQS
    have wz : IntKind.i64.wrap (z * iv) = z * iv := IntWalk.i64_in _ (by omega)
    have hz0 := hpb.1
    have tz : (z * iv).tmod p = xv := by rw [tmod_nonneg hpb.1, hce]
    have tz2 : z * iv % p = xv := hce.symm
    have hp0 : ¬ p = 0 := by omega
    have hx0 : 0 ≤ xv ∧ xv < p := by rw [hce]; exact ⟨Int.emod_nonneg _ (by omega), Int.emod_lt_of_pos _ (by omega)⟩
    have wx : IntKind.i64.wrap xv = xv := IntWalk.i64_in _ (by omega)
    have HX0 := Lib.hid hx0
    have HQV := Lib.hid (show (qX p iv f g q (k + 1)).getD i 0 = xv by
      rw [← HQS.out]
      have hlq : (qX p iv f g q k).length = q := qX_length _ _ _ _ _ _
      simp [List.getD, show i < (qX p iv f g q k).length by omega])
    have f2 := int_frozen hqr (qX_length p iv f g q k) i
    have c2 := int_at hqr (qX_length p iv f g q k) hiq
    obtain ⟨y2, hy2⟩ : ∃ y2, (qX p iv f g q k).getD i 0 = y2 := ⟨_, rfl⟩
    rw [hy2] at c2
    have xq := (hx (bq, 24, .slice (some ⟨Q, 0, none⟩) q q) (by simp)).cell
    have xr := (hx (br, 24, .slice (some ⟨G, 0, none⟩) f.length c5) (by simp)).cell
    have xi := (hx (bi, 2, .int .i64 iv) (by simp)).cell
    have xg := (hx (bg, 24, .slice (some ⟨a', dd, none⟩) n' c') (by simp)).cell
    have xm := (hx (bm, 2, .int .i64 p) (by simp)).cell
    have xd := (hx (bm + 1, 3, .int .i64 (d : Int)) (by simp)).cell
    clear hqr hx hb hr hr' hce hz hxv hpb hy2 hm hgw hx0 he2
    gi_wp2
    refine wpIn_region_still_tail 13 (by kernel_rfl) (by kernel_rfl) (by kernel_rfl) ?_
    simp only [List.take_succ_cons, List.take_zero, List.drop_succ_cons, List.drop_zero]
    iterate 13 still_step
    refine wpStill_nil ?_
    change wpListIn _ _ _ _ _ _ _ W.drew
    have HRd := Lib.hid (World.ownsRow.drew HR.out)
    have HQd := Lib.hid (World.ownsRow.drew HQ.out)
    have HBd := Lib.hid (below_drewN HB.out 1)
    have HXd := Lib.hid (boxes_drew HX.out)
    have HKd := Lib.hid (KeepsOthers.drew W)
    have HFd := Lib.hid (frN_drew (g := Q) (b := bq + 1) (n := q) W)
    replace f2 : W.drew.frozen? ⟨Q, i, none⟩ = false := f2
    replace c2 : W.drew.cell? ⟨Q, i, none⟩ = _ := c2
    replace HRd : Hid (IntRow W4.heap.size W.drew (.slice (some ⟨G, 0, none⟩) f.length c5) (tabL f.length (mdS p iv g (fun j => f.getD j 0) f.length k))) := HRd
    replace HQd : Hid (IntRow Q W.drew (.slice (some ⟨Q, 0, none⟩) q q) (qX p iv f g q k)) := HQd
    replace HBd : Hid (Below w.heap.size w W.drew) := HBd
    clear HR HQ HB HX c1 xq xr xi xg xm xd wz tz tz2
    generalize W.drew = Wd at *
    have HQ1 := Lib.hid (int_stored HQd.out (qX_length p iv f g q k) i xv)
    rw [HQS.out] at HQ1
    have hQw : w.heap.size ≤ Q := by have := HLW.out; omega
    have HR1 := Lib.hid (row_other8 HRd.out (a := ⟨Q, i, none⟩) (own_ne8 hGQ) (.int .i64 xv))
    have HB1 := Lib.hid (HBd.out.setCell (p := ⟨Q, i, none⟩) hQw (.int .i64 xv))
    have HX1 := Lib.hid (boxes_set HXd.out (a := ⟨Q, i, none⟩) (by
      intro y hy
      have h6 := HBL6.out
      show y.1 ≠ Q
      rcases List.mem_cons.1 hy with rfl | hy
      · show bq ≠ Q; omega
      · have := h6 y hy; omega) (.int .i64 xv))
    have HK1 := Lib.hid (HKd.out.trans (KeepsOthers.setCell Wd ⟨Q, i, none⟩ (.int .i64 xv)))
    have HF1 := Lib.hid (frN_trans HFd.out (frN_set (g := Q) (b := bq + 1) (n := q) (A := Wd) (a := ⟨Q, i, none⟩) xv (by show bq + 1 ≠ Q; omega)))
    have xg1 := (HX1.out (bg, 24, .slice (some ⟨a', dd, none⟩) n' c') (by simp)).cell
    clear HRd HQd HBd HXd HKd HFd HQS
    gi_wp2
    generalize Wd.setCell ⟨Q, i, none⟩ (.int .i64 xv) = Ws at *
    clear c2 f2 xg1
    gi_loopw [54] (fun s wr => ∃ j : Nat, j ≤ n' ∧ s = .int .i64 j ∧ KeepsOthers W wr ∧ FrN Q (bq + 1) q W wr ∧ Boxes wr [(bq, 24, .slice (some ⟨Q, 0, none⟩) q q), (br, 24, .slice (some ⟨G, 0, none⟩) f.length c5), (bi, 2, .int .i64 iv), (bg, 24, .slice (some ⟨a', dd, none⟩) n' c'), (bm, 2, .int .i64 p), (bm + 1, 3, .int .i64 (d : Int))] ∧ IntRow W4.heap.size wr (.slice (some ⟨G, 0, none⟩) f.length c5) (subX p (mdS p iv g (fun j => f.getD j 0) f.length k) g xv f.length i j) ∧ IntRow Q wr (.slice (some ⟨Q, 0, none⟩) q q) (qX p iv f g q (k + 1)) ∧ Below w.heap.size w wr) (fun s _ => n' - (intOf s).toNat)
    case atStart => exact ⟨0, Nat.zero_le _, rfl, HK1.out, HF1.out, HX1.out, by rw [subX_zero]; exact HR1.out, HQ1.out, HB1.out⟩
    case round =>
      obtain ⟨j, hj, rfl, hko, hfr, hx, hr, hqr, hb⟩ := hrel
      clear HK1 HF1 HX1 HR1 HQ1 HB1
      by_cases hltj : j < n'
      · obtain ⟨t, ht⟩ : ∃ t, i + j = t := ⟨_, rfl⟩
        have hijt : (i : Int) + (j : Int) = (t : Int) := by omega
        have htn : t < f.length := by have := HIK.out; have := HL'.out; omega
        have wt : IntKind.i64.wrap (t : Int) = (t : Int) := IntWalk.i64_in _ (by have := HL.out; omega)
        have b2 : wr.cell? ⟨a', dd + j, none⟩ = some (.int .i64 (g.getD j 0)) := by rw [hb.cell (p := ⟨a', dd + j, none⟩) HAG.out]; exact HC'.out j hltj
        have c4 := int_at hr (subX_length _ _ _ _ _ _ _) htn
        rw [subX_at ht htn] at c4
        have f4 := int_frozen hr (subX_length _ _ _ _ _ _ _) t
        have c5q := int_at hqr (qX_length p iv f g q (k + 1)) hiq
        rw [HQV.out] at c5q
        have HE := Lib.hid (subX_step (p := p) (r := mdS p iv g (fun j => f.getD j 0) f.length k) (g := g) (c := xv) ht htn)
        have hbd := HBD.out t
        have hmd := prod_small p97 HX0.out (HG.out.rng j)
        obtain ⟨z, hzz⟩ : ∃ x, g.getD j 0 = x := ⟨_, rfl⟩
        obtain ⟨r, hrr⟩ : ∃ x, mdS p iv g (fun j => f.getD j 0) f.length k t = x := ⟨_, rfl⟩
        rw [hzz] at b2 HE hmd
        rw [hrr] at c4 HE hbd
        have w1 : IntKind.i64.wrap (xv * z) = xv * z := IntWalk.i64_in _ (by omega)
        have w2 : IntKind.i64.wrap (r - xv * z) = r - xv * z := IntWalk.i64_in _ (by omega)
        have htn' : (t : Int) < (f.length : Int) := by omega
        have hltj' : (j : Int) < (n' : Int) := by omega
        have xq := (hx (bq, 24, .slice (some ⟨Q, 0, none⟩) q q) (by simp)).cell
        have xr := (hx (br, 24, .slice (some ⟨G, 0, none⟩) f.length c5) (by simp)).cell
        have xm := (hx (bm, 2, .int .i64 p) (by simp)).cell
        have HR := Lib.hid hr
        have HQ := Lib.hid hqr
        have HX := Lib.hid hx
        have HB := Lib.hid hb
        have HK := Lib.hid hko
        have HF9 := Lib.hid hfr
        clear hzz hrr ht hbd hmd hr hqr hx hb hko hfr
        gi_wp2
        refine wpIn_region_still_tail 20 (by kernel_rfl) (by kernel_rfl) (by kernel_rfl) ?_
        simp only [List.take_succ_cons, List.take_zero, List.drop_succ_cons, List.drop_zero]
        iterate 18 still_step
        still_call ((remainder8_any (r - xv * z) p _ p2 (by omega)).mono fun e w h => ⟨h.1, h.2.symm⟩)
        repeat still_step
        refine wpStill_nil ?_
        change wpListIn _ _ _ _ _ _ _ wr.drew
        have HRd := Lib.hid (World.ownsRow.drew HR.out)
        have HQd := Lib.hid (World.ownsRow.drew HQ.out)
        have HBd := Lib.hid (below_drewN HB.out 1)
        have HXd := Lib.hid (boxes_drew HX.out)
        have HKd := Lib.hid (HK.out.trans (KeepsOthers.drew wr))
        have HFd := Lib.hid (frN_trans HF9.out (frN_drew wr))
        replace f4 : wr.drew.frozen? ⟨G, t, none⟩ = false := f4
        replace c4 : wr.drew.cell? ⟨G, t, none⟩ = _ := c4
        replace HRd : Hid (IntRow W4.heap.size wr.drew (.slice (some ⟨G, 0, none⟩) f.length c5) (subX p (mdS p iv g (fun j => f.getD j 0) f.length k) g xv f.length i j)) := HRd
        replace HQd : Hid (IntRow Q wr.drew (.slice (some ⟨Q, 0, none⟩) q q) (qX p iv f g q (k + 1))) := HQd
        replace HBd : Hid (Below w.heap.size w wr.drew) := HBd
        clear HR HQ HB HX HK HF9 b2 c5q xq xr xm
        generalize wr.drew = Wd2 at *
        have HR3 := Lib.hid (int_stored HRd.out (subX_length _ _ _ _ _ _ _) t ((r - xv * z) % p))
        rw [HE.out] at HR3
        have HQ3 := Lib.hid (row_other8 HQd.out (a := ⟨G, t, none⟩) (own_ne8 (Ne.symm hGQ)) (.int .i64 ((r - xv * z) % p)))
        have hGw : w.heap.size ≤ G := by have := HLW.out; omega
        have HB3 := Lib.hid (HBd.out.setCell (p := ⟨G, t, none⟩) hGw (.int .i64 ((r - xv * z) % p)))
        have HX3 := Lib.hid (boxes_set HXd.out (a := ⟨G, t, none⟩) (by
          intro y hy
          have h4 := HBL4.out
          have h5 := HLW.out.1
          show y.1 ≠ G
          rcases List.mem_cons.1 hy with rfl | hy
          · show bq ≠ G; omega
          rcases List.mem_cons.1 hy with rfl | hy
          · show br ≠ G; omega
          · have := h4 y hy; omega) (.int .i64 ((r - xv * z) % p)))
        have HK3 := Lib.hid (HKd.out.trans (KeepsOthers.setCell Wd2 ⟨G, t, none⟩ (.int .i64 ((r - xv * z) % p))))
        have HF3 := Lib.hid (frN_trans HFd.out (frN_set (g := Q) (b := bq + 1) (n := q) (A := Wd2) (a := ⟨G, t, none⟩) ((r - xv * z) % p) (by show bq + 1 ≠ G; omega)))
        clear HRd HQd HBd HXd HKd HFd
        gi_wp2
        go_roundw
        case rel => exact ⟨j + 1, by omega, by go_num, HK3.out, HF3.out, HX3.out, HR3.out, HQ3.out, HB3.out⟩
        case measure => simp only [intOf]; omega
      · have hjn : j = g.length := by have := HL'.out; omega
        have HR2 := Lib.hid (show IntRow W4.heap.size wr (.slice (some ⟨G, 0, none⟩) f.length c5) (tabL f.length (mdS p iv g (fun j => f.getD j 0) f.length (k + 1))) by rw [← HSUB.out, ← hjn]; exact hr)
        have HQ := Lib.hid hqr
        have HX := Lib.hid hx
        have HB := Lib.hid hb
        have HK := Lib.hid hko
        have HF9 := Lib.hid hfr
        clear hr hqr hx hb hko hfr hjn
        gi_wp2
        exact ⟨HK.out, HF9.out, HX.out, by rw [HLEN.out]; exact HR2.out, by rw [HLEN.out]; exact HQ.out, HB.out⟩
  case done =>
    rintro D xs W hD hxs ⟨hx, hr, hqr, hb⟩ hK
    have hxl : xs.length = q := by have h := congrArg List.length hxs; rwa [List.length_map, bkI_length] at h
    rw [hxl] at hr hqr
    have xq := (hx (bq, 24, .slice (some ⟨Q, 0, none⟩) q q) (by simp)).cell
    have xr := (hx (br, 24, .slice o5 f.length c5) (by simp)).cell
    have hql : qX p iv f g q q = quoP p f g := by
      rw [← HIV.out]
      by_cases h0 : q = 0
      · rw [few_quo (by have := HQD.out; have := HD.out; have := HL.out; have := HL'.out; omega), h0]; rfl
      · exact qX_full pp HF.out HIP.out (by have := HQD.out; have := HD.out; have := HL.out; have := HL'.out; omega) (by omega) (by have := HL'.out; omega)
    have hrl : trimL (tabL f.length (mdS p iv g (fun j => f.getD j 0) f.length q)) = remP p f g := by
      rw [← HIV.out]; exact rX_end rfl (by have := HQD.out; have := HD.out; have := HL.out; have := HL'.out; omega)
    have lr : (tabL f.length (mdS p iv g (fun j => f.getD j 0) f.length q)).length = f.length := tabL_length _ _
    have hu := trim_row hr
    rw [hrl] at hu
    rw [hql] at hqr
    have SR := Lib.hid (show Seen W o5 f.length c5 (tabL f.length (mdS p iv g (fun j => f.getD j 0) f.length q)) by
      have h := row_seen (o := o5) (n := (tabL f.length (mdS p iv g (fun j => f.getD j 0) f.length q)).length) (c := c5) (w := W) (by rw [lr]; exact hr) (by rw [lr]; have := HL.out; omega)
      rw [lr] at h; exact h)
    generalize tabL f.length (mdS p iv g (fun j => f.getD j 0) f.length q) = rl at *
    have HU := Lib.hid (intRow_lower hu HLOW.out.1)
    have HV9 := Lib.hid (intRow_lower (b := w.heap.size) hqr (by have := HLOW.out; omega))
    have HB := Lib.hid hb
    have hKD : W.drew.heap[D]? = some (.deferred (some [])) := hK
    have HKD := Lib.hid hKD
    have hDw : w.heap.size ≤ D := by omega
    have HAP := Lib.hid (show (Value.slice (some ⟨Q, 0, none⟩) q q).ownBlock = none ∨ (Value.slice (some ⟨Q, 0, none⟩) q q).ownBlock ≠ (Value.slice o5 (trimN rl rl.length) c5).ownBlock from .inr (fun e => by
      have h1 : (Value.slice o5 f.length c5).ownBlock = some Q := by
        cases o5 with
        | none => exact absurd e.symm (by intro h; cases h)
        | some a => exact e.symm
      have := HOWN.out Q h1
      omega))
    clear hx hr hqr hb hK hql hrl lr hu hKD hxs hxl
    obtain ⟨tn, htn⟩ : ∃ tn, trimN rl rl.length = tn := ⟨_, rfl⟩
    rw [htn] at HU HAP
    have HTN := Lib.hid htn
    clear htn
    go_wp2_with fail
    refine wp_region_still_lit (by kernel_rfl) (by kernel_rfl) ?_
    iterate 2 still_step
    still_call ((trimmed_any (seen_below SR.out (below_drewN (Below.refl _ _) 1))).mono fun e w h => ⟨h.1, h.2.symm⟩)
    repeat still_step
    refine wpStill_nil ?_
    go_wp2_with fail
    rw [HTN.out]
    refine ⟨by simp, .inl ⟨_, _, rfl, run_takeDeferred HKD.out, ?_⟩⟩
    refine ⟨.tuple #[.slice (some ⟨Q, 0, none⟩) q q, .slice o5 tn c5], by simp [results, Try.results49, go_sem], ?_⟩
    exact ⟨_, _, rfl, row_put8 (w := W.drew) HV9.out HKD.out rfl, row_put8 (w := W.drew) HU.out HKD.out rfl, below_put8 (below_drewN HB.out 1) hDw, HAP.out⟩
  case stop => intro _ _ _ _ _ h; exact h.elim
end Go.Proofs.Ytgnjhdkkjijiaaa
namespace Go.Proofs.Ytgnjhdkkjijiaaa
open Go.RowKit
set_option linter.unusedVariables false
set_option linter.unusedSimpArgs false
set_option maxRecDepth 20000
theorem rest_any (p : Int) (hs : smallB p = true) {o o' : Option Addr} {n n' c c' : Nat} {f g : List Int} {w : World} (h : Seen w o n c f) (h' : Seen w o' n' c' g) (hf : ModP p f) (hg : ModP p g) (h0 : g.length ≠ 0) (hn20 : n ≤ 20) (hn9' : n' ≤ 20) :
    Calls Try.prog 101 #[R1 p, .slice o n c, .slice o' n' c'] w (OwnPost (remP p f g) w) := by
  have hb1 := below_a8 w (.cells #[.int .i64 p, .int .i64 1] 46)
  have HD := Lib.hid (divide_any p hs (seen_below h hb1) (seen_d (seen_below h' hb1)) hf hg h0 hn20 hn9')
  clear h h' hf hg h0 hb1
  go_enter Try.func101, Try.ntmps101
  go_wp2_with fail
  refine HD.out.mono ?_
  rintro e w3 ⟨v, u, rfl, hq, hr, hb, hap⟩
  have HR := Lib.hid (intRow_lower (b := w.heap.size) hr (by simp))
  have HB := Lib.hid (box8 hb)
  clear hq hr hb hap HD
  go_wp2_with fail
  go_ret
  exact ⟨_, rfl, HR.out, HB.out⟩
theorem keep8 {w0 W W' : World} {a b : Addr} {u v : Value} (h : Below w0.heap.size w0 W ∧ W.cell? a = some u ∧ W.cell? b = some v) (hb : Below W.heap.size W W') : Below w0.heap.size w0 W' ∧ W'.cell? a = some u ∧ W'.cell? b = some v :=
  ⟨h.1.trans (hb.mono h.1.size), by rw [hb.cell (World.block_lt_of_cell? _ _ h.2.1)]; exact h.2.1, by rw [hb.cell (World.block_lt_of_cell? _ _ h.2.2)]; exact h.2.2⟩
theorem start8 (w : World) (p : Int) : Below w.heap.size w (w.alloc (.cells #[.int .i64 p, .int .i64 1] 46)).drew ∧ (w.alloc (.cells #[.int .i64 p, .int .i64 1] 46)).drew.cell? ⟨w.heap.size, 0, none⟩ = some (.int .i64 p) ∧ (w.alloc (.cells #[.int .i64 p, .int .i64 1] 46)).drew.cell? ⟨w.heap.size, 1, none⟩ = some (.int .i64 1) :=
  ⟨below_drewN (below_a8 w _) 1, World.cell?_alloc_new _ _ _ _ ▸ rfl, World.cell?_alloc_new _ _ _ _ ▸ rfl⟩
set_option maxHeartbeats 2000000 in
theorem monic_any (p : Int) (hs : smallB p = true) {o : Option Addr} {n c : Nat} {f : List Int} {w : World} (h : Seen w o n c f) (hf : ModP p f) (hn20 : n ≤ 20) :
    Calls Try.prog 96 #[R1 p, .slice o n c] w (OwnPost (monP p f) w) := by
  obtain ⟨p2, p97, pp⟩ := small_prime hs
  have HS := Lib.hid h
  obtain ⟨hl, hn, hno, hnc, g, h1, h2⟩ := h
  by_cases h0 : n = 0
  · have HE := Lib.hid (show monP p f = [] by unfold monP; rw [if_pos (by omega)])
    have HB := Lib.hid (below_a8 w (.cells #[.int .i64 p, .int .i64 1] 46))
    clear hno h1 h2 hl hs
    subst h0
    go_enter Try.func96, Try.ntmps96
    go_wp2_with fail
    go_ret
    rw [HE.out]
    exact ⟨_, rfl, intRow_nil _ _, HB.out⟩
  · obtain ⟨rfl, hag⟩ := h1 (by omega)
    obtain ⟨m, hm⟩ : ∃ m, m + 1 = n := ⟨n - 1, by omega⟩
    have hn1 : (n : Int) - 1 = (m : Int) := by omega
    have h0' : ((n : Int) == 0) = false := by simp; omega
    have hmn : (m : Int) ≤ (n : Int) := by omega
    have hnm : n - m = 1 := by omega
    have hncI : (n : Int) ≤ (c : Int) := by omega
    have hmcI : (m : Int) ≤ (c : Int) := by omega
    have hm0I : (0 : Int) ≤ (m : Int) := by omega
    have hcm : ¬ c = m := by omega
    have hl0 : f.length ≠ 0 := by omega
    have hne : f ≠ [] := fun e => hl0 (by rw [e]; rfl)
    have hlast := hf.rng (f.length - 1)
    have hlm : f.length - 1 = m := by omega
    have hml := modP_last hf hne
    have hgm : ModP p [f.getD m 0] := by
      rw [hlm] at hml hlast
      refine ⟨fun i => ?_, ?_⟩
      · cases i with
        | zero => exact hlast
        | succ i => simp; omega
      · have : ¬ f.getD m 0 = 0 := fun e => hml (by rw [e]; exact Int.dvd_zero _)
        simpa [lastB] using this
    have HE := Lib.hid (show quoP p f [f.getD m 0] = monP p f by rw [← hlm]; exact mon_quo p2 p97 pp hf hl0)
    have hc2 := h2 m (by omega)
    have HG := Lib.hid (show SeenD w (some ⟨g, m, none⟩) 1 (c - m) [f.getD m 0] from ⟨rfl, by omega, fun h => (by cases h), by omega, g, m, fun _ => ⟨rfl, hag⟩, fun k hk => by
      obtain rfl : k = 0 := by omega
      exact hc2⟩)
    have HDV := Lib.hid fun (W : World) (hw : Below w.heap.size w W) => divide_any p hs (seen_below HS.out hw) (seenD_below HG.out hw) hf hgm (by simp) hn20 (by omega)
    have hst := start8 w p
    clear hno h1 h2 hl hn hs hf hgm hlast hlm hml hc2 hm hl0 hne pp
    go_enter Try.func96, Try.ntmps96
    go_wp2_with fail
    have hwn : IntKind.i64.wrap ((n : Int) - 1) = (n : Int) - 1 := IntWalk.i64_in _ (by omega)
    have hwm : IntKind.i64.wrap (m : Int) = (m : Int) := IntWalk.i64_in _ (by omega)
    go_region_held3 (fun W' => Below w.heap.size w W' ∧ W'.cell? ⟨w.heap.size, 0, none⟩ = some (.int .i64 p) ∧ W'.cell? ⟨w.heap.size, 1, none⟩ = some (.int .i64 1)) (first | exact hst | exact keep8 ‹_› hb | assumption)
      (first | (go_at_call 49; refine (HDV.out _ hst.1).mono ?_; rintro e wn ⟨v, u, rfl, hq, hr, hb, hap⟩))
    have HR := Lib.hid (intRow_lower (b := w.heap.size) hq hst.1.size)
    have HB := Lib.hid (hst.1.trans (hb.mono hst.1.size))
    clear hq hr hb hap HDV hst
    go_wp2_with fail
    go_ret
    rw [← HE.out]
    exact ⟨_, rfl, HR.out, HB.out⟩
/-- the last one of a chain of remainders: seen somewhere -/
def LastP (p : Int) (f g : List Int) (w : World) (e : Ending) (w' : World) : Prop :=
  ∃ o n c F, e = .returned (.slice o n c) ∧ Seen w' o n c F ∧ ModP p F ∧ n ≤ 9 ∧ monP p F = gcdL p f g ∧ Below w.heap.size w w'
set_option maxHeartbeats 2000000 in
theorem lastDivisor_any (p : Int) (hs : smallB p = true) {o o' : Option Addr} {n n' c c' : Nat} {f g : List Int} {w : World} (h : Seen w o n c f) (h' : Seen w o' n' c' g) (hf : ModP p f) (hg : ModP p g) (hn : n ≤ 9) (hn' : n' ≤ 9) :
    Calls Try.prog 97 #[.func (.func 49) #[R1 p] #[], .slice o n c, .slice o' n' c'] w (LastP p f g w) := by
  obtain ⟨p2, p97, pp⟩ := small_prime hs
  have H0 := Lib.hid (And.intro h (And.intro h' (And.intro hf hg)))
  clear h h' hf hg
  go_enter Try.func97, Try.ntmps97
  go_wp2_with fail
  go_loopw [1, 2] (fun vf vg wr => ∃ (o1 : Option Addr) (n1 c1 : Nat) (F : List Int) (o2 : Option Addr) (n2 c2 : Nat) (G : List Int), vf = .slice o1 n1 c1 ∧ vg = .slice o2 n2 c2 ∧ Seen wr o1 n1 c1 F ∧ Seen wr o2 n2 c2 G ∧ ModP p F ∧ ModP p G ∧ n1 ≤ 9 ∧ n2 ≤ 9 ∧ gcdL p F G = gcdL p f g ∧ Below w.heap.size w wr) (fun _ vg _ => lenV vg)
  case atStart => exact ⟨o, n, c, f, o', n', c', g, rfl, rfl, H0.out.1, H0.out.2.1, H0.out.2.2.1, H0.out.2.2.2, hn, hn', rfl, Below.refl _ _⟩
  case round =>
    obtain ⟨o1, n1, c1, F, o2, n2, c2, G, rfl, rfl, s1, s2, m1, m2, l1, l2, hgc, hb⟩ := hrel
    have S1 := Lib.hid s1
    have S2 := Lib.hid s2
    have HB := Lib.hid hb
    have HG := Lib.hid hgc
    have HL2 := Lib.hid s2.1
    clear s1 s2 hb hgc H0
    by_cases h0 : n2 = 0
    · have HE := Lib.hid (show monP p F = gcdL p f g by rw [← HG.out]; exact (gcdL_end (by have := HL2.out; omega)).symm)
      have HM1 := Lib.hid m1
      clear m1 m2
      subst h0
      go_wp2_with fail
      go_ret
      exact ⟨o1, n1, c1, F, rfl, S1.out, HM1.out, l1, HE.out, HB.out⟩
    · have h0' : (0 : Int) < (n2 : Int) := by omega
      have hG0 : G.length ≠ 0 := by have := HL2.out; omega
      have HD := Lib.hid (divide_any p hs S1.out (seen_d S2.out) m1 m2 hG0 (by omega) (by omega))
      have HST := Lib.hid (gcdL_step p2 p97 pp m1 m2 hG0)
      have hd := divP_is p2 p97 pp m1 m2 (fun e => hG0 (by rw [e]; rfl))
      have HDD := Lib.hid (And.intro hd.mr hd.deg)
      have HM2 := Lib.hid m2
      clear m1 m2 hd hG0
      go_wp2_with fail
      refine HD.out.mono ?_
      rintro e w3 ⟨v, u, rfl, hq, hr, hb, hap⟩
      obtain ⟨o3, c3, rfl⟩ := row_slice hq
      obtain ⟨o4, c4, rfl⟩ := row_slice hr
      have HR := Lib.hid (row_seen hr (by have := HDD.out.2; have := HL2.out; omega))
      have S3 := Lib.hid (seen_below S2.out hb)
      have HB2 := Lib.hid (HB.out.trans (hb.mono HB.out.size))
      clear hq hr hb hap HD S1 S2
      go_wp2_with fail
      exact ⟨⟨o2, n2, c2, G, o4, (remP p F G).length, c4, remP p F G, rfl, rfl, S3.out, HR.out, HM2.out, HDD.out.1, l2, by have := HDD.out.2; have := HL2.out; omega, by rw [← HST.out]; exact HG.out, HB2.out⟩, by simp only [lenV]; have := HDD.out.2; have := HL2.out; omega⟩
set_option maxHeartbeats 2000000 in
theorem common_any (p : Int) (hs : smallB p = true) {o o' : Option Addr} {n n' c c' : Nat} {f g : List Int} {w : World} (h : Seen w o n c f) (h' : Seen w o' n' c' g) (hf : ModP p f) (hg : ModP p g) (hn : n ≤ 9) (hn' : n' ≤ 9) :
    Calls Try.prog 65 #[R1 p, .slice o n c, .slice o' n' c'] w (OwnPost (gcdL p f g) w) := by
  have hst := start8 w p
  have HLD := Lib.hid fun (W : World) (hw : Below w.heap.size w W) => lastDivisor_any p hs (seen_below h hw) (seen_below h' hw) hf hg hn hn'
  have HMO := Lib.hid fun (W : World) (o1 : Option Addr) (n1 c1 : Nat) (F : List Int) (s1 : Seen W o1 n1 c1 F) (m1 : ModP p F) (l1 : n1 ≤ 9) => monic_any p hs s1 m1 (by omega)
  have hmf : ∀ (fn : Fn) (first cap : Array Value) (w : World), (Instr.makeFunc fn first cap).run Try.prog w = .ok (.func fn first cap) w := fun _ _ _ _ => rfl
  clear h h' hf hg hs
  go_enter Try.func65, Try.ntmps65
  go_wp2_with fail
  go_region_held3 (fun W' => Below w.heap.size w W' ∧ W'.cell? ⟨w.heap.size, 0, none⟩ = some (.int .i64 p) ∧ W'.cell? ⟨w.heap.size, 1, none⟩ = some (.int .i64 1)) (first | exact hst | exact keep8 ‹_› hb | exact keep8 ‹_› hb2 | assumption)
    (first | (go_at_call 97; refine (HLD.out _ hst.1).mono ?_; rintro e wn ⟨o1, n1, c1, F, rfl, s1, m1, l1, hE, hb⟩) | (go_at_call 96; refine (HMO.out _ _ _ _ _ s1 m1 l1).mono ?_; rintro e wm ⟨v, rfl, hr, hb2⟩))
  have hB := hst.1.trans (hb.mono hst.1.size)
  rw [hE] at hr
  have HR := Lib.hid (intRow_lower hr hB.size)
  have HB := Lib.hid (hB.trans (hb2.mono hB.size))
  clear hr hb hb2 hB hst HLD HMO s1 m1 hE
  go_wp2_with fail
  go_ret
  exact ⟨_, rfl, HR.out, HB.out⟩
theorem and8_odd {e : Nat} (h1 : e ≤ 4000000000000000000) (h : e % 2 = 1) : (bits BinOp.and IntKind.i64 (e : Int) 1 == 1) = true := by
  have := Go.Proofs.and_one e (by omega)
  rw [this]; simp; omega
theorem and8_even {e : Nat} (h1 : e ≤ 4000000000000000000) (h : ¬ e % 2 = 1) : (bits BinOp.and IntKind.i64 (e : Int) 1 == 1) = false := by
  have := Go.Proofs.and_one e (by omega)
  rw [this]; simp; omega
set_option maxHeartbeats 1000000 in
theorem powerOf_any (p : Int) (hs : smallB p = true) {oa o : Option Addr} {ca n c : Nat} {f : List Int} {w : World} (E0 : Nat) (hE : E0 ≤ 1000000000000) (ha : Seen w oa 2 ca [0, 1]) (h : Seen w o n c f) (hf : ModP p f) (h0 : f.length ≠ 0) (hn9 : n ≤ 9) :
    Calls Try.prog 74 #[R1 p, .slice oa 2 ca, .int .i64 (E0 : Int), .slice o n c] w (OwnPost (powL p f E0) w) := by
  obtain ⟨p2, p97, pp⟩ := small_prime hs
  have hne : f ≠ [] := fun e => h0 (by rw [e]; rfl)
  have hfl : f.length ≤ 9 := by have := h.1; omega
  obtain ⟨k0, _⟩ := pow_first p2 p97 pp hf hne
  have kx := pw_x p2 f
  have m1 : ModP p [1] := ⟨fun i => by
    match i with
    | 0 => exact ⟨by simp, by simp; omega⟩
    | i + 1 => simp; omega, by simp [lastB]⟩
  have HREST := Lib.hid fun (wx : World) (o1 : Option Addr) (n1 c1 : Nat) (a : List Int) (h1 : Seen wx o1 n1 c1 a) (hx : Seen wx o n c f) (hm : ModP p a) (hn : n1 ≤ 20) => rest_any p hs h1 hx hm hf h0 hn (by omega)
  have HMUL := Lib.hid fun (wx : World) (o1 o2 : Option Addr) (n1 n2 c1 c2 : Nat) (a b : List Int) (h1 : Seen wx o1 n1 c1 a) (h2 : Seen wx o2 n2 c2 b) (ha : ModP p a) (hb : ModP p b) (l1 : n1 ≤ 20) (l2 : n2 ≤ 20) => product_any p hs h1 h2 ha hb l1 l2
  have HJ := Lib.hid fun (r s : List Int) (a b : Nat) (h1 : IsPw p f a r) (h2 : IsPw p f b s) => pw_join p2 p97 pp hf hne h1 h2
  have HMOD := Lib.hid fun (r s : List Int) => redL_mod (p := p) (by omega) (mulL r s)
  have HEQ := Lib.hid fun (r : List Int) (h : IsPow p f E0 r) => powL_eq p2 p97 pp hf hne h
  have hb1 := below_a8 w (.cells #[.int .i64 p, .int .i64 1] 46)
  have hb0 : Below w.heap.size w ((w.alloc (.cells #[.int .i64 p, .int .i64 1] 46)).alloc (.cells #[.int .i64 1] 2)) := hb1.alloc hb1.size _
  have hbb := below_a8 (w.alloc (.cells #[.int .i64 p, .int .i64 1] 46)) (.cells #[.int .i64 1] 2)
  have hca : (w.alloc (.cells #[.int .i64 p, .int .i64 1] 46)).cell? ⟨w.heap.size, 0, none⟩ = some (.int .i64 p) := World.cell?_alloc_new _ _ _ _ ▸ rfl
  have hcb : (w.alloc (.cells #[.int .i64 p, .int .i64 1] 46)).cell? ⟨w.heap.size, 1, none⟩ = some (.int .i64 1) := World.cell?_alloc_new _ _ _ _ ▸ rfl
  have HK1 := Lib.hid (keep8 (W := w.alloc (.cells #[.int .i64 p, .int .i64 1] 46)) ⟨hb1, hca, hcb⟩ hbb)
  have hs1 := seen_one (w.alloc (.cells #[.int .i64 p, .int .i64 1] 46)) 1 2
  rw [World.size_alloc] at hs1
  have HS1 := Lib.hid hs1
  have HSF := Lib.hid (seen_below (seen_below h hb1) hbb)
  have HSA := Lib.hid (seen_below (seen_below ha hb1) hbb)
  have K0 := Lib.hid k0
  have KX := Lib.hid kx
  have M1 := Lib.hid m1
  clear ha h hf h0 hne k0 kx m1 hb0 hb1 hbb hs hca hcb hs1
  go_enter Try.func74, Try.ntmps74
  go_wp2_with fail
  refine (HREST.out _ _ _ _ _ HS1.out HSF.out M1.out (by omega)).mono ?_
  rintro e W2 ⟨v, rfl, hr, hb⟩
  obtain ⟨o1, c1, rfl⟩ := row_slice hr
  have hk2 := keep8 HK1.out hb
  have SF2 := Lib.hid (seen_below HSF.out hb)
  have SA2 := Lib.hid (seen_below HSA.out hb)
  have R2 := Lib.hid (intRow_lower hr HK1.out.1.size)
  have HK2 := Lib.hid hk2
  clear hr hb HS1 HSF HSA HK1 hk2
  go_wp2_with fail
  go_loopw [1, 2, 9] (fun va ve vo wr => ∃ (o1 o2 : Option Addr) (c1 c2 : Nat) (r s : List Int) (A B e : Nat), va = .slice o2 s.length c2 ∧ ve = .int .i64 (e : Int) ∧ vo = .slice o1 r.length c1 ∧ IntRow w.heap.size wr (.slice o1 r.length c1) r ∧ Seen wr o2 s.length c2 s ∧ IsPow p f A r ∧ IsPw p f B s ∧ A + B * e = E0 ∧ e ≤ E0 ∧ Seen wr o n c f ∧ Below w.heap.size w wr ∧ wr.cell? ⟨w.heap.size, 0, none⟩ = some (.int .i64 p) ∧ wr.cell? ⟨w.heap.size, 1, none⟩ = some (.int .i64 1)) (fun _ ve _ _ => (intOf ve).toNat)
  case atStart => exact ⟨_, _, _, _, _, [0, 1], 0, 1, E0, rfl, rfl, rfl, R2.out, SA2.out, K0.out, KX.out, by omega, Nat.le_refl _, SF2.out, HK2.out⟩
  case round =>
    obtain ⟨o1, o2, c1, c2, r, s, A, B, e, rfl, rfl, rfl, rr, ss, pr, ps, hE1, heE, sf, hk⟩ := hrel
    have R := Lib.hid rr
    have SF := Lib.hid sf
    have HK := Lib.hid hk
    have PR := Lib.hid pr
    have PS := Lib.hid ps
    have HEE := Lib.hid hE1
    have lr := pow_len pr hfl
    have ls := ps.len
    have SR := Lib.hid (row_seen rr (by omega))
    have SS := Lib.hid ss
    clear rr ss sf hk pr ps hE1 R2 SA2 SF2 HK2 K0 KX M1
    by_cases hz : e = 0
    · have HP := Lib.hid (HEQ.out r (by have h := PR.out; have h2 := HEE.out; rw [hz, Nat.mul_zero, Nat.add_zero] at h2; rw [← h2]; exact h))
      subst hz
      go_wp2_with fail
      go_ret
      rw [← HP.out]
      exact ⟨_, rfl, R.out, HK.out.1⟩
    · have hz' : (0 : Int) < (e : Int) := by omega
      have hh : (e : Int) / 2 = ((e / 2 : Nat) : Int) := by omega
      have hhb : e / 2 ≤ E0 := by omega
      have hlt : e / 2 < e := by omega
      have lss := prodL_le p s s
      have lrs := prodL_le p r s
      by_cases ho : e % 2 = 1
      · have HOD := Lib.hid (half_odd HEE.out ho)
        have hbit := and8_odd (show e ≤ 4000000000000000000 by omega) ho
        obtain ⟨e2, he2⟩ : ∃ e2, e / 2 = e2 := ⟨_, rfl⟩
        rw [he2] at HOD hh hhb hlt
        clear he2 ho
        have hst := HK.out
        have hst1 : Below w.heap.size w wr.drew ∧ wr.drew.cell? ⟨w.heap.size, 0, none⟩ = some (.int .i64 p) ∧ wr.drew.cell? ⟨w.heap.size, 1, none⟩ = some (.int .i64 1) := ⟨below_drewN hst.1 1, hst.2.1, hst.2.2⟩
        have hbd : Below wr.heap.size wr wr.drew := below_drewN (Below.refl _ _) 1
        have HP1 := Lib.hid (HMUL.out _ _ _ _ _ _ _ _ _ (seen_below SR.out hbd) (seen_below SS.out hbd) PR.out.mod PS.out.mod (by omega) (by omega))
        go_wp2_with fail
        go_region_held3 (fun W' => Below w.heap.size w W' ∧ W'.cell? ⟨w.heap.size, 0, none⟩ = some (.int .i64 p) ∧ W'.cell? ⟨w.heap.size, 1, none⟩ = some (.int .i64 1)) (first | exact hst1 | exact keep8 ‹_› hb4 | exact keep8 ‹_› hb5 | assumption)
          (first | (go_at_call 52; refine HP1.out.mono ?_; rintro ee W4 ⟨v4, rfl, hr4, hb4⟩; obtain ⟨o4, c4, rfl⟩ := row_slice hr4) | (go_at_call 101; refine (HREST.out _ _ _ _ _ (row_seen hr4 (by omega)) (seen_below (seen_below SF.out hbd) hb4) (HMOD.out r s) (by omega)).mono ?_; rintro ee W5 ⟨v5, rfl, hr5, hb5⟩))
        obtain ⟨o5, c5, rfl⟩ := row_slice hr5
        have hk4 := keep8 hst1 hb4
        have HK5 := Lib.hid (keep8 hk4 hb5)
        have SF5 := Lib.hid (seen_below (seen_below (seen_below SF.out hbd) hb4) hb5)
        have SS5 := Lib.hid (seen_below (seen_below (seen_below SS.out hbd) hb4) hb5)
        have R5 := Lib.hid (intRow_lower hr5 hk4.1.size)
        clear hr4 hb4 hr5 hb5 hk4 hst hst1 hbd HP1 SR SS SF R HK
        have hst2 : Below w.heap.size w W5.drew ∧ W5.drew.cell? ⟨w.heap.size, 0, none⟩ = some (.int .i64 p) ∧ W5.drew.cell? ⟨w.heap.size, 1, none⟩ = some (.int .i64 1) := ⟨below_drewN HK5.out.1 1, HK5.out.2.1, HK5.out.2.2⟩
        have cc5 := HK5.out.2.1
        have cc6 := HK5.out.2.2
        have hbd2 : Below W5.heap.size W5 W5.drew := below_drewN (Below.refl _ _) 1
        have HP2 := Lib.hid (HMUL.out _ _ _ _ _ _ _ _ _ (seen_below SS5.out hbd2) (seen_below SS5.out hbd2) PS.out.mod PS.out.mod (by omega) (by omega))
        go_wp2_with fail
        go_region_held3 (fun W' => Below w.heap.size w W' ∧ W'.cell? ⟨w.heap.size, 0, none⟩ = some (.int .i64 p) ∧ W'.cell? ⟨w.heap.size, 1, none⟩ = some (.int .i64 1)) (first | exact hst2 | exact keep8 ‹_› hb6 | exact keep8 ‹_› hb7 | assumption)
          (first | (go_at_call 52; refine HP2.out.mono ?_; rintro ee W6 ⟨v6, rfl, hr6, hb6⟩; obtain ⟨o6, c6, rfl⟩ := row_slice hr6) | (go_at_call 101; refine (HREST.out _ _ _ _ _ (row_seen hr6 (by omega)) (seen_below (seen_below SF5.out hbd2) hb6) (HMOD.out s s) (by omega)).mono ?_; rintro ee W7 ⟨v7, rfl, hr7, hb7⟩))
        obtain ⟨o7, c7, rfl⟩ := row_slice hr7
        have hk6 := keep8 hst2 hb6
        have HK7 := Lib.hid (keep8 hk6 hb7)
        have SF7 := Lib.hid (seen_below (seen_below (seen_below SF5.out hbd2) hb6) hb7)
        have R7 := Lib.hid (row_below (row_below (row_below R5.out hbd2 (Nat.le_refl _)) hb6 (Nat.le_refl _)) hb7 (Nat.le_refl _))
        have HPS := HJ.out _ _ _ _ PS.out PS.out
        have A7 := Lib.hid (row_seen hr7 (by have := pow_len HPS hfl; omega))
        clear hr6 hb6 hr7 hb7 hk6 hst2 hbd2 HP2
        go_wp2_with fail
        exact ⟨⟨_, _, _, _, _, _, A + B, B + B, e2, rfl, by first | rfl | rw [hh], rfl, R7.out, A7.out, HJ.out _ _ _ _ (pw_of PR.out hfl) PS.out, pw_of HPS hfl, HOD.out, hhb, SF7.out, HK7.out⟩, by simp only [intOf]; omega⟩
      · have HOD := Lib.hid (half_even HEE.out (by omega))
        have hbit := and8_even (show e ≤ 4000000000000000000 by omega) ho
        obtain ⟨e2, he2⟩ : ∃ e2, e / 2 = e2 := ⟨_, rfl⟩
        rw [he2] at HOD hh hhb hlt
        clear he2 ho
        have hst2 : Below w.heap.size w wr.drew ∧ wr.drew.cell? ⟨w.heap.size, 0, none⟩ = some (.int .i64 p) ∧ wr.drew.cell? ⟨w.heap.size, 1, none⟩ = some (.int .i64 1) := ⟨below_drewN HK.out.1 1, HK.out.2.1, HK.out.2.2⟩
        have cc5 := HK.out.2.1
        have cc6 := HK.out.2.2
        have hbd2 : Below wr.heap.size wr wr.drew := below_drewN (Below.refl _ _) 1
        have HP2 := Lib.hid (HMUL.out _ _ _ _ _ _ _ _ _ (seen_below SS.out hbd2) (seen_below SS.out hbd2) PS.out.mod PS.out.mod (by omega) (by omega))
        go_wp2_with fail
        go_region_held3 (fun W' => Below w.heap.size w W' ∧ W'.cell? ⟨w.heap.size, 0, none⟩ = some (.int .i64 p) ∧ W'.cell? ⟨w.heap.size, 1, none⟩ = some (.int .i64 1)) (first | exact hst2 | exact keep8 ‹_› hb6 | exact keep8 ‹_› hb7 | assumption)
          (first | (go_at_call 52; refine HP2.out.mono ?_; rintro ee W6 ⟨v6, rfl, hr6, hb6⟩; obtain ⟨o6, c6, rfl⟩ := row_slice hr6) | (go_at_call 101; refine (HREST.out _ _ _ _ _ (row_seen hr6 (by omega)) (seen_below (seen_below SF.out hbd2) hb6) (HMOD.out s s) (by omega)).mono ?_; rintro ee W7 ⟨v7, rfl, hr7, hb7⟩))
        obtain ⟨o7, c7, rfl⟩ := row_slice hr7
        have hk6 := keep8 hst2 hb6
        have HK7 := Lib.hid (keep8 hk6 hb7)
        have SF7 := Lib.hid (seen_below (seen_below (seen_below SF.out hbd2) hb6) hb7)
        have R7 := Lib.hid (row_below (row_below (row_below R.out hbd2 (Nat.le_refl _)) hb6 (Nat.le_refl _)) hb7 (Nat.le_refl _))
        have HPS := HJ.out _ _ _ _ PS.out PS.out
        have A7 := Lib.hid (row_seen hr7 (by have := pow_len HPS hfl; omega))
        clear hr6 hb6 hr7 hb7 hk6 hst2 hbd2 HP2
        go_wp2_with fail
        exact ⟨⟨_, _, _, _, _, _, A, B + B, e2, rfl, by first | rfl | rw [hh], rfl, R7.out, A7.out, PR.out, pw_of HPS hfl, HOD.out, hhb, SF7.out, HK7.out⟩, by simp only [intOf]; omega⟩
end Go.Proofs.Ytgnjhdkkjijiaaa
namespace Go.Proofs.Ytgnjhdkkjijiaaa
open Go.RowKit Go.Shelf
attribute [local go_sem] Oper.semAt_some
set_option linter.unusedVariables false
set_option linter.unusedSimpArgs false
set_option maxRecDepth 20000
/-- what holds at the head of each round of Horner's rule -/
def VaI (w : World) (L : List (Nat × TypeId × Value)) (bv : Nat) (p : Int) (f : List Int) (x : Int) (pre : List (Nat × Int)) (W : World) : Prop :=
  Boxes W L ∧ Boxed W bv 2 (.int .i64 (evM p f x pre.length)) ∧ Below w.heap.size w W
theorem vaI_put {w W : World} {L : List (Nat × TypeId × Value)} {bv k : Nat} {p x : Int} {f : List Int} {pre : List (Nat × Int)} {o o' : Obj} (h : VaI w L bv p f x pre W) (hb : w.heap.size ≤ k) (hk : W.heap[k]? = some o) (ho : o.isCells = false) : VaI w L bv p f x pre (W.putObj k o') :=
  ⟨boxes_put h.1 hk ho, boxed_put8 h.2.1 hk ho, below_put8 h.2.2 hb⟩
theorem vaI_below {w A B : World} {L : List (Nat × TypeId × Value)} {bv : Nat} {p x : Int} {f : List Int} {pre : List (Nat × Int)} (h : VaI w L bv p f x pre A) (hs : StU8 A B) : VaI w L bv p f x pre B :=
  ⟨boxes_below h.1 hs, boxed_below8 h.2.1 hs, h.2.2.trans (hs.mono h.2.2.size)⟩
theorem fr8_put {g b k : Nat} {A W : World} {o' : Obj} (h : Fr8 g b A W) (h1 : g < k) (h2 : b < k) : Fr8 g b A (W.putObj k o') := by
  intro j hj
  refine (World.putObj_heap_other ?_).trans (h j hj)
  rcases hj with rfl | rfl <;> omega
theorem fr8_trans {g b : Nat} {A B C : World} (h : Fr8 g b A B) (k : Fr8 g b B C) : Fr8 g b A C := fun j hj => (k j hj).trans (h j hj)
set_option maxHeartbeats 4000000 in
theorem valueAt_any (p x : Int) (hs : smallB p = true) (x0 : 0 ≤ x) (x1 : x < p) {o : Option Addr} {n c : Nat} {f : List Int} {w : World} (h : Seen w o n c f) (hf : ModP p f) (h0 : f.length ≠ 0) (hn9 : n ≤ 9) :
    Calls Try.prog 70 #[R1 p, .slice o n c, .int .i64 x] w fun e w' => e = .returned (.int .i64 (evM p f x f.length)) ∧ Below w.heap.size w w' := by
  obtain ⟨p2, p97, pp⟩ := small_prime hs
  obtain ⟨hl, hn, hno, hnc, g, h1, h2⟩ := h
  obtain ⟨rfl, hag⟩ := h1 (by omega)
  subst hl
  have HC := Lib.hid h2
  have HF := Lib.hid hf
  have HAG := Lib.hid hag
  have HM := Lib.hid fun w => modulus8_any p hs w
  have hn9' : (f.length : Int) ≤ 9 := by omega
  clear hno hnc h1 h2 hf hs hn hag
  refine (callsIn_wide (n := 4)).1 ?_
  refine callsIn_of_wp_marks Try.func70 rfl trivial ?_ rfl
  simp only [Try.ntmps70, List.size_toArray, List.length_cons, List.length_nil, Nat.reduceAdd, Nat.reduceSub, Array.replicate_succ, Array.replicate_zero, List.push_toArray, List.append_toArray, List.nil_append, List.cons_append]
  refine wpIn_wide.2 ?_
  have hbw := (below_a8 w (.cells #[.int .i64 p, .int .i64 1] 46)).alloc (by simp) (.cells #[.int .i64 x] 2)
  have hbx := Boxed.new (w.alloc (.cells #[.int .i64 p, .int .i64 1] 46)) 2 (.int .i64 x)
  rw [World.size_alloc] at hbx
  have HBW := Lib.hid hbw
  have HBX := Lib.hid hbx
  clear hbw hbx
  go_wp2_with fail
  refine (HM.out _).mono ?_
  rintro e w1 ⟨rfl, hb⟩
  have hb0 := HBW.out.trans (hb.mono HBW.out.size)
  have hx1 := boxed_below8 HBX.out hb
  obtain ⟨bx, hbx⟩ : ∃ bx, w.heap.size + 1 = bx := ⟨_, rfl⟩
  rw [hbx] at hx1
  have hxm : bx < w1.heap.size := hx1.lt
  obtain ⟨bm, hbm⟩ : ∃ bm, w1.heap.size = bm := ⟨_, rfl⟩
  have hbs := hb0.size
  have h2' := boxes_cons (boxes_cons (L := []) (by intro x hx; cases hx) (Boxed.new w1 2 (.int .i64 p))) (hx1.alloc (.cells #[.int .i64 p] 2))
  have h3 := boxes_below h2' (below_a8 (w1.alloc (.cells #[.int .i64 p] 2)) (.cells #[.int .i64 0] 2))
  have hv3 := Boxed.new (w1.alloc (.cells #[.int .i64 p] 2)) 2 (.int .i64 0)
  have h4 := boxes_below h3 (below_a8 ((w1.alloc (.cells #[.int .i64 p] 2)).alloc (.cells #[.int .i64 0] 2)) (.cells #[.slice (some ⟨g, 0, none⟩) f.length c] 24))
  have hv4 := hv3.alloc (.cells #[.slice (some ⟨g, 0, none⟩) f.length c] 24)
  have hk4 := Boxed.new ((w1.alloc (.cells #[.int .i64 p] 2)).alloc (.cells #[.int .i64 0] 2)) 24 (.slice (some ⟨g, 0, none⟩) f.length c)
  have hb4 := ((hb0.alloc hbs (.cells #[.int .i64 p] 2)).alloc (by simp; omega) (.cells #[.int .i64 0] 2)).alloc (by simp; omega) (.cells #[.slice (some ⟨g, 0, none⟩) f.length c] 24)
  rw [World.size_alloc, World.size_alloc, hbm] at hk4
  rw [World.size_alloc, hbm] at hv4
  rw [hbm] at h4 hxm hbs
  have HX := Lib.hid h4
  have HVB := Lib.hid hv4
  have HKB := Lib.hid hk4
  have HB := Lib.hid hb4
  have HSZ := Lib.hid (And.intro hxm hbs)
  rw [hbx]
  clear hb hb0 hx1 h2' h3 hv3 h4 hv4 hk4 hb4 HM hbx hxm hbs
  go_wp2_with fail
  refine (backward8_made _ _ _ _).mono ?_
  rintro e W8 ⟨rfl, rfl⟩
  go_wp2_with fail
  generalize ((w1.alloc (.cells #[.int .i64 p] 2)).alloc (.cells #[.int .i64 0] 2)).alloc (.cells #[.slice (some ⟨g, 0, none⟩) f.length c] 24) = W9 at *
  refine (wpIn_wide (n := 4)).1 ?_
  have hsz := HB.out.size
  have hkl : bm + 1 + 1 < W9.heap.size := HKB.out.lt
  have hgl := HAG.out
  have hzz := HSZ.out
  refine wpIn_rangeBb (F := Fence.wide) (n := 4) (P := Try.prog) (w := W9) rfl (by omega) (gf := 104) (ba := #[]) (lb := #[.pointer (some ⟨bm + 1 + 1, 0, none⟩)]) rfl trivial (enters_of Try.func104 (by kernel_rfl) rfl)
    (backward8_by 3 (by omega) g (bm + 1 + 1) c f (by omega)) (fun _ => rfl)
    (VaI w [(bx, 2, .int .i64 x), (bm, 2, .int .i64 p)] (bm + 1) p f x) (fun _ _ => False)
    (fun y => { tmps := #[R1 p, .slice (some ⟨g, 0, none⟩) f.length c, .int .i64 x, .pointer (some ⟨w.heap.size, 0, none⟩), undef, .pointer (some ⟨bx, 0, none⟩), .int .i64 0, .pointer (some ⟨bm, 0, none⟩), .pointer (some ⟨bm + 1, 0, none⟩), undef, .int .i64 y.2, .agg #[.int .i64 p, .int .i64 1], .int .i64 p, .slice (some ⟨g, 0, none⟩) f.length c, .func (.func 104) #[] #[.pointer (some ⟨bm + 1 + 1, 0, none⟩)], .int .i64 y.1, .int .i64 y.2, undef, undef, undef, undef, undef, undef, undef, undef], defers := [] })
    ?ip ?xp ?fp ?fq ?ft ?is ?xs ?sk ?h0 ?s0 ?assign ?body ?done ?stop
  case ip => intro pre W k o o' h hk ho hc; exact vaI_put h (by omega) ho hc
  case xp => intro _ _ _ _ _ h; exact h.elim
  case fp => intro A W k o o' hf hk ho hc; exact fr8_put hf (by omega) (by omega)
  case fq => intro W k o o' hk ho hc; exact fr8_put (fun _ _ => rfl) (by omega) (by omega)
  case ft => intro A B C h k; exact fr8_trans h k
  case is => intro pre A B h hs; exact vaI_below h hs
  case xs => intro _ _ _ h; exact h.elim
  case sk => intro A B k o hs hk ho hc; exact (hs.block k (Array.getElem?_eq_some_iff.1 ho).1).trans ho
  case h0 =>
    intro oo oo'
    have hbb : Below W9.heap.size W9 ((W9.alloc oo).alloc oo') := (below_a8 W9 oo).alloc (by simp) oo'
    exact ⟨boxes_below HX.out hbb, boxed_below8 HVB.out hbb, HB.out.trans (hbb.mono hsz)⟩
  case s0 =>
    intro oo oo'
    have hbb : Below W9.heap.size W9 ((W9.alloc oo).alloc oo') := (below_a8 W9 oo).alloc (by simp) oo'
    refine ⟨boxed_below8 HKB.out hbb, fun k hk => ?_⟩
    rw [hbb.cell (p := ⟨g, k, none⟩) (by show g < W9.heap.size; omega), HB.out.cell (p := ⟨g, k, none⟩) hgl]
    exact HC.out k hk
  case assign =>
    intro lp y W K hK
    gi_wp2
    exact hK
  case body =>
    rintro lp pre y W hsp ⟨hx, hv, hb⟩
    obtain ⟨hk, hy⟩ := bk8_last hsp
    have hh : evM p f x (pre ++ [y]).length = (evM p f x pre.length * x + y.2) % p := by rw [List.length_append, List.length_singleton, evM, hy]
    obtain ⟨a0, a1⟩ := evM_rng (p := p) (by omega) f x pre.length
    have hyr := HF.out.rng (f.length - 1 - pre.length)
    rw [← hy] at hyr
    have HH := Lib.hid hh
    have xx := (hx (bx, 2, .int .i64 x) (by simp)).cell
    have xm := (hx (bm, 2, .int .i64 p) (by simp)).cell
    have q2 := hv.cell
    have q2f := hv.frozen
    have hpb := prod_small p97 ⟨a0, a1⟩ ⟨x0, x1⟩
    obtain ⟨z, hz⟩ : ∃ z, y.2 = z := ⟨_, rfl⟩
    obtain ⟨h, hhe⟩ : ∃ h, evM p f x pre.length = h := ⟨_, rfl⟩
    rw [hz] at hyr ⊢
    rw [hhe] at q2 hpb a0 a1
    have HE := Lib.hid (show evM p f x (pre ++ [y]).length = (h * x + z) % p by rw [hh, hhe, hz])
    have hw1 : IntKind.i64.wrap (h * x) = h * x := IntWalk.i64_in _ (by omega)
    have hw2 : IntKind.i64.wrap (h * x + z) = h * x + z := IntWalk.i64_in _ (by omega)
    have hv2 := hv.set (.int .i64 ((h * x + z) % p))
    have hF : Fr8 g (bm + 1 + 1) W (W.setCell ⟨bm + 1, 0, none⟩ (.int .i64 ((h * x + z) % p))) := fun j hj => Below.heap_setCell _ _ _ _ (by show j ≠ bm + 1; rcases hj with rfl | rfl <;> omega)
    have hb2 := hb.setCell (p := ⟨bm + 1, 0, none⟩) (show w.heap.size ≤ bm + 1 by omega) (.int .i64 ((h * x + z) % p))
    have hx2 := boxes_set hx (a := ⟨bm + 1, 0, none⟩) (by
      intro u hu
      show u.1 ≠ bm + 1
      rcases List.mem_cons.1 hu with rfl | hu
      · show bx ≠ bm + 1; omega
      rcases List.mem_cons.1 hu with rfl | hu
      · show bm ≠ bm + 1; omega
      · cases hu) (.int .i64 ((h * x + z) % p))
    have HRES := Lib.hid (And.intro hv2 (And.intro hF (And.intro hb2 hx2)))
    clear hsp hh hy hz hhe hx hv hb hv2 hF hb2 hx2 hpb HH
    gi_wp2_with (refine ⟨trivial, ?_⟩; gi_at_call 82; refine (CallsIn.inRound lp (callsIn_wide.2 (remainder8_any _ p _ p2 (by omega)))).mono ?_; rintro e wn ⟨rfl, rfl⟩)
    obtain ⟨hv2, hF, hb2, hx2⟩ := HRES.out
    exact ⟨KeepsOthers.setCell _ _ _, hF, hx2, by rw [HE.out]; exact hv2, hb2⟩
  case done =>
    rintro D xs W hD rfl ⟨hx, hv, hb⟩ hK
    rw [bk8_length] at hv
    have q2 := hv.cell
    have HB9 := Lib.hid hb
    have HKD := Lib.hid hK
    have hDw : w.heap.size ≤ D := by omega
    obtain ⟨E, hE⟩ : ∃ E, evM p f x f.length = E := ⟨_, rfl⟩
    have HEE := Lib.hid hE
    rw [hE] at q2
    clear hx hv hb hK hE
    go_wp2_with fail
    refine ⟨by simp, .inl ⟨_, _, rfl, run_takeDeferred HKD.out, ?_⟩⟩
    refine ⟨.int .i64 E, by simp [results, Try.results70, go_sem], ?_⟩
    exact ⟨ret_int HEE.out.symm, below_put8 HB9.out hDw⟩
  case stop => intro _ _ _ _ _ h; exact h.elim
end Go.Proofs.Ytgnjhdkkjijiaaa
namespace Go.Proofs.Ytgnjhdkkjijiaaa
open Go.RowKit
set_option linter.unusedVariables false
set_option linter.unusedSimpArgs false
set_option maxRecDepth 20000
theorem cell8_second (w : World) (o : Obj) (cs : Array Value) (T : TypeId) (k : Nat) : ((w.alloc o).alloc (.cells cs T)).cell? ⟨w.heap.size + 1, k, none⟩ = cs[k]? := by
  have e : (w.alloc o).heap.size = w.heap.size + 1 := by simp
  rw [← e, World.cell?_alloc_new]
theorem top8 {w w1 w4 : World} {a b : Value} {T : TypeId} {o : Obj} (h1 : Below w.heap.size w w1) (hb : Below ((w1.alloc (.cells #[a, b] T)).alloc o).heap.size ((w1.alloc (.cells #[a, b] T)).alloc o) w4) :
    Below w.heap.size w w4 ∧ w4.cell? ⟨w1.heap.size, 0, none⟩ = some a ∧ w4.cell? ⟨w1.heap.size, 1, none⟩ = some b := by
  have hx := below_a8 (w1.alloc (.cells #[a, b] T)) o
  have h2 := below_a8 w1 (.cells #[a, b] T)
  exact keep8 (keep8 (W := w1.alloc (.cells #[a, b] T)) ⟨h1.trans (h2.mono h1.size), World.cell?_alloc_new _ _ _ _ ▸ rfl, World.cell?_alloc_new _ _ _ _ ▸ rfl⟩ hx) hb
theorem top8_below {w w1 : World} (h1 : Below w.heap.size w w1) (o o' : Obj) : Below w.heap.size w ((w1.alloc o).alloc o') := (h1.alloc h1.size o).alloc (by simp; have := h1.size; omega) o'
theorem okC_val {p : Int} {f : List Int} (b : Bool) (h : modB p f = b) : okC p f = if b then 0 else 1 := by rw [okC, h]
theorem okC2_val {p : Int} {f g : List Int} (b : Bool) (h : twoM p f g = b) : okC2 p f g = if b then 0 else 1 := by rw [okC2, h]
theorem implIsMod_any (p : Int) {o : Option Addr} {n c : Nat} {f : List Int} {w : World} (h : Seen w o n c f) :
    Calls Try.prog 26 #[.int .i64 p, .slice o n c] w fun e w' => e = .returned (.bool (modB p f)) ∧ Below w.heap.size w w' := by
  have HS := Lib.hid h
  clear h
  go_enter Try.func26, Try.ntmps26
  go_wp2_with fail
  refine (ringBy_any p w).mono ?_
  rintro e w1 ⟨rfl, hb1⟩
  have HB1 := Lib.hid hb1
  have HH := Lib.hid (hasPoly_any p (seen_below HS.out hb1))
  clear hb1
  go_wp2_with fail
  refine HH.out.mono ?_
  rintro e w2 ⟨rfl, hb2⟩
  have HB2 := Lib.hid (HB1.out.trans (hb2.mono HB1.out.size))
  clear hb2 HH
  go_wp2_with fail
  go_ret
  exact ⟨rfl, HB2.out⟩
theorem implRed_any (p : Int) {o : Option Addr} {n c : Nat} {f : List Int} {w : World} (h : Seen w o n c f) :
    Calls Try.prog 23 #[.int .i64 p, .slice o n c] w (IntPost (rdQ p f) (rdC p f) w) := by
  have HS := Lib.hid h
  clear h
  cases hs : smallB p
  · rw [show rdQ p f = [] by simp [rdQ, hs], show rdC p f = 1 by simp [rdC, hs]]
    go_enter Try.func23, Try.ntmps23
    go_wp2_with fail
    refine (basePrime_any p w).mono ?_
    rw [hs]
    rintro e w2 ⟨rfl, rfl⟩
    go_wp2_with fail
    go_ret2
    exact ⟨_, rfl, intRow_nil _ _, Below.refl _ _⟩
  · cases hp : polyB f
    · rw [show rdQ p f = [] by simp [rdQ, hp], show rdC p f = 1 by simp [rdC, hp]]
      go_enter Try.func23, Try.ntmps23
      go_wp2_with fail
      refine (basePrime_any p w).mono ?_
      rw [hs]
      rintro e w2 ⟨rfl, rfl⟩
      go_wp2_with fail
      refine (implIsPoly_any HS.out).mono ?_
      rw [hp]
      rintro e w2 ⟨rfl, rfl⟩
      go_wp2_with fail
      go_ret2
      exact ⟨_, rfl, intRow_nil _ _, Below.refl _ _⟩
    · have hn9 : n ≤ 1000 := by have := HS.out.1; have := (polyB_of hp).1; omega
      rw [show rdQ p f = redL p f by simp [rdQ, hs, hp], show rdC p f = 0 by simp [rdC, hs, hp]]
      go_enter Try.func23, Try.ntmps23
      go_wp2_with fail
      refine (basePrime_any p w).mono ?_
      rw [hs]
      rintro e w2 ⟨rfl, rfl⟩
      go_wp2_with fail
      refine (implIsPoly_any HS.out).mono ?_
      rw [hp]
      rintro e w2 ⟨rfl, rfl⟩
      go_wp2_with fail
      refine (ringBy_any p w).mono ?_
      rintro e w1 ⟨rfl, hb1⟩
      have HB1 := Lib.hid hb1
      have HH := Lib.hid (reduced_any p hs (seen_below HS.out hb1) hn9)
      clear hb1
      go_wp2_with fail
      refine HH.out.mono ?_
      rintro e w2 ⟨v, rfl, hr, hb⟩
      have HR := Lib.hid (intRow_lower hr HB1.out.size)
      have HB := Lib.hid (HB1.out.trans (hb.mono HB1.out.size))
      clear hr hb HH
      go_wp2_with fail
      go_ret2
      exact ⟨_, rfl, HR.out, HB.out⟩
set_option maxHeartbeats 1000000 in
theorem implDerM_any (p : Int) {o : Option Addr} {n c : Nat} {f : List Int} {w : World} (h : Seen w o n c f) :
    Calls Try.prog 34 #[.int .i64 p, .slice o n c] w (IntPost (drQ p f) (drC p f) w) := by
  have HS := Lib.hid h
  clear h
  cases hm : modB p f
  · rw [show drQ p f = [] by simp [drQ, hm], show drC p f = 1 by simp [drC, hm]]
    go_enter Try.func34, Try.ntmps34
    go_wp2_with fail
    refine (ringBy_any p w).mono ?_
    rintro e w1 ⟨rfl, hb1⟩
    have HB1 := Lib.hid hb1
    have hb3 := top8_below hb1 (.cells #[.int .i64 p, .int .i64 1] 46) (.cells #[.slice o n c] 24)
    have HS3 := Lib.hid (seen_below HS.out hb3)
    have hlt3 : w1.heap.size + 1 < ((w1.alloc (.cells #[.int .i64 p, .int .i64 1] 46)).alloc (.cells #[.slice o n c] 24)).heap.size := by simp
    have HCK := Lib.hid (checkPoly1 p (b := w1.heap.size + 1) HS3.out (cell8_second w1 (.cells #[.int .i64 p, .int .i64 1] 46) _ _ 0) hlt3)
    clear hb1 hb3 hlt3
    go_wp2_with fail
    refine HCK.out.mono ?_
    rintro e w4 ⟨rfl, hb4⟩
    rw [okC_val _ hm]
    have hk4 := top8 HB1.out hb4
    have HK4 := Lib.hid hk4
    have c0 := hk4.2.1
    have c1 := hk4.2.2
    have S4 := Lib.hid (seen_below HS3.out hb4)
    clear hk4 hb4 HCK HS3
    simp only [if_true, if_false, Bool.false_eq_true]
    go_wp2_with fail
    go_ret2
    exact ⟨_, rfl, intRow_nil _ _, HK4.out.1⟩
  · rw [show drQ p f = redL p (derL f) by simp [drQ, hm], show drC p f = 0 by simp [drC, hm]]
    have F := modB_of hm
    have HDV := Lib.hid fun (wx : World) (hx : Seen wx o n c f) => derivative_any p (modB_small hm) hx F.mod (by have := HS.out.1; have := F.len; omega)
    clear F
    go_enter Try.func34, Try.ntmps34
    go_wp2_with fail
    refine (ringBy_any p w).mono ?_
    rintro e w1 ⟨rfl, hb1⟩
    have HB1 := Lib.hid hb1
    have hb3 := top8_below hb1 (.cells #[.int .i64 p, .int .i64 1] 46) (.cells #[.slice o n c] 24)
    have HS3 := Lib.hid (seen_below HS.out hb3)
    have hlt3 : w1.heap.size + 1 < ((w1.alloc (.cells #[.int .i64 p, .int .i64 1] 46)).alloc (.cells #[.slice o n c] 24)).heap.size := by simp
    have HCK := Lib.hid (checkPoly1 p (b := w1.heap.size + 1) HS3.out (cell8_second w1 (.cells #[.int .i64 p, .int .i64 1] 46) _ _ 0) hlt3)
    clear hb1 hb3 hlt3
    go_wp2_with fail
    refine HCK.out.mono ?_
    rintro e w4 ⟨rfl, hb4⟩
    rw [okC_val _ hm]
    have hk4 := top8 HB1.out hb4
    have HK4 := Lib.hid hk4
    have c0 := hk4.2.1
    have c1 := hk4.2.2
    have S4 := Lib.hid (seen_below HS3.out hb4)
    clear hk4 hb4 HCK HS3
    simp only [if_true, if_false, Bool.false_eq_true]
    go_wp2_with fail
    refine (HDV.out _ S4.out).mono ?_
    rintro e w5 ⟨v, rfl, hr, hb⟩
    have HR := Lib.hid (intRow_lower hr HK4.out.1.size)
    have HB := Lib.hid (HK4.out.1.trans (hb.mono HK4.out.1.size))
    clear hr hb HDV
    go_wp2_with fail
    go_ret2
    exact ⟨_, rfl, HR.out, HB.out⟩
set_option maxHeartbeats 1000000 in
theorem implMulM_any (p : Int) {o o' : Option Addr} {n n' c c' : Nat} {f g : List Int} {w : World} (h : Seen w o n c f) (h' : Seen w o' n' c' g) :
    Calls Try.prog 20 #[.int .i64 p, .slice o n c, .slice o' n' c'] w (IntPost (mmQ p f g) (mmC p f g) w) := by
  have HS := Lib.hid h
  have HS' := Lib.hid h'
  clear h h'
  cases hm : twoM p f g
  · obtain ⟨e1, e2⟩ := mmC_none hm
    rw [e1, e2]
    go_enter Try.func20, Try.ntmps20
    go_wp2_with fail
    refine (ringBy_any p w).mono ?_
    rintro e w1 ⟨rfl, hb1⟩
    have HB1 := Lib.hid hb1
    have hb3 := top8_below hb1 (.cells #[.int .i64 p, .int .i64 1] 46) (.cells #[.slice o n c, .slice o' n' c'] 24)
    have HS3 := Lib.hid (seen_below HS.out hb3)
    have HT3 := Lib.hid (seen_below HS'.out hb3)
    have hlt3 : w1.heap.size + 1 < ((w1.alloc (.cells #[.int .i64 p, .int .i64 1] 46)).alloc (.cells #[.slice o n c, .slice o' n' c'] 24)).heap.size := by simp
    have HCK := Lib.hid (checkPoly2 p (b := w1.heap.size + 1) HS3.out (cell8_second w1 (.cells #[.int .i64 p, .int .i64 1] 46) _ _ 0) HT3.out (cell8_second w1 (.cells #[.int .i64 p, .int .i64 1] 46) _ _ 1) hlt3)
    clear hb1 hb3 hlt3
    go_wp2_with fail
    refine HCK.out.mono ?_
    rintro e w4 ⟨rfl, hb4⟩
    rw [okC2_val _ hm]
    have hk4 := top8 HB1.out hb4
    have HK4 := Lib.hid hk4
    have c0 := hk4.2.1
    have c1 := hk4.2.2
    have S4 := Lib.hid (seen_below HS3.out hb4)
    have T4 := Lib.hid (seen_below HT3.out hb4)
    clear hk4 hb4 HCK HS3 HT3
    simp only [if_true, if_false, Bool.false_eq_true]
    go_wp2_with fail
    go_ret2
    exact ⟨_, rfl, intRow_nil _ _, HK4.out.1⟩
  · obtain ⟨hf, hg⟩ := twoM_of hm
    have F := modB_of hf
    have G := modB_of hg
    have hl18 : (prodL p f g).length ≤ 18 := by have := prodL_le p f g; have := F.len; have := G.len; omega
    have HLONG := Lib.hid (mmC_long hm)
    have HFIT := Lib.hid (mmC_fit hm)
    have HPR := Lib.hid fun (wx : World) (hx : Seen wx o n c f) (hy : Seen wx o' n' c' g) => product_any p (modB_small hf) hx hy F.mod G.mod (by have := HS.out.1; have := F.len; omega) (by have := HS'.out.1; have := G.len; omega)
    clear F G hf hg
    generalize prodL p f g = q at *
    by_cases hl : q.length ≤ 9
    · obtain ⟨e1, e2⟩ := HFIT.out hl
      rw [e1, e2]
      have hl' : ¬ (9 : Int) < (q.length : Int) := by omega
      clear e1 e2
      go_enter Try.func20, Try.ntmps20
      go_wp2_with fail
      refine (ringBy_any p w).mono ?_
      rintro e w1 ⟨rfl, hb1⟩
      have HB1 := Lib.hid hb1
      have hb3 := top8_below hb1 (.cells #[.int .i64 p, .int .i64 1] 46) (.cells #[.slice o n c, .slice o' n' c'] 24)
      have HS3 := Lib.hid (seen_below HS.out hb3)
      have HT3 := Lib.hid (seen_below HS'.out hb3)
      have hlt3 : w1.heap.size + 1 < ((w1.alloc (.cells #[.int .i64 p, .int .i64 1] 46)).alloc (.cells #[.slice o n c, .slice o' n' c'] 24)).heap.size := by simp
      have HCK := Lib.hid (checkPoly2 p (b := w1.heap.size + 1) HS3.out (cell8_second w1 (.cells #[.int .i64 p, .int .i64 1] 46) _ _ 0) HT3.out (cell8_second w1 (.cells #[.int .i64 p, .int .i64 1] 46) _ _ 1) hlt3)
      clear hb1 hb3 hlt3
      go_wp2_with fail
      refine HCK.out.mono ?_
      rintro e w4 ⟨rfl, hb4⟩
      rw [okC2_val _ hm]
      have hk4 := top8 HB1.out hb4
      have HK4 := Lib.hid hk4
      have c0 := hk4.2.1
      have c1 := hk4.2.2
      have S4 := Lib.hid (seen_below HS3.out hb4)
      have T4 := Lib.hid (seen_below HT3.out hb4)
      clear hk4 hb4 HCK HS3 HT3
      simp only [if_true, if_false, Bool.false_eq_true]
      go_wp2_with fail
      refine (HPR.out _ S4.out T4.out).mono ?_
      rintro e w5 ⟨v, rfl, hr, hb⟩
      obtain ⟨o2, c2, rfl⟩ := row_slice hr
      have HR := Lib.hid (intRow_lower hr HK4.out.1.size)
      have HB := Lib.hid (HK4.out.1.trans (hb.mono HK4.out.1.size))
      clear hr hb HPR
      go_wp2_with fail
      go_ret2
      exact ⟨_, rfl, HR.out, HB.out⟩
    · obtain ⟨e1, e2⟩ := HLONG.out hl
      rw [e1, e2]
      have hl' : (9 : Int) < (q.length : Int) := by omega
      clear e1 e2
      go_enter Try.func20, Try.ntmps20
      go_wp2_with fail
      refine (ringBy_any p w).mono ?_
      rintro e w1 ⟨rfl, hb1⟩
      have HB1 := Lib.hid hb1
      have hb3 := top8_below hb1 (.cells #[.int .i64 p, .int .i64 1] 46) (.cells #[.slice o n c, .slice o' n' c'] 24)
      have HS3 := Lib.hid (seen_below HS.out hb3)
      have HT3 := Lib.hid (seen_below HS'.out hb3)
      have hlt3 : w1.heap.size + 1 < ((w1.alloc (.cells #[.int .i64 p, .int .i64 1] 46)).alloc (.cells #[.slice o n c, .slice o' n' c'] 24)).heap.size := by simp
      have HCK := Lib.hid (checkPoly2 p (b := w1.heap.size + 1) HS3.out (cell8_second w1 (.cells #[.int .i64 p, .int .i64 1] 46) _ _ 0) HT3.out (cell8_second w1 (.cells #[.int .i64 p, .int .i64 1] 46) _ _ 1) hlt3)
      clear hb1 hb3 hlt3
      go_wp2_with fail
      refine HCK.out.mono ?_
      rintro e w4 ⟨rfl, hb4⟩
      rw [okC2_val _ hm]
      have hk4 := top8 HB1.out hb4
      have HK4 := Lib.hid hk4
      have c0 := hk4.2.1
      have c1 := hk4.2.2
      have S4 := Lib.hid (seen_below HS3.out hb4)
      have T4 := Lib.hid (seen_below HT3.out hb4)
      clear hk4 hb4 HCK HS3 HT3
      simp only [if_true, if_false, Bool.false_eq_true]
      go_wp2_with fail
      refine (HPR.out _ S4.out T4.out).mono ?_
      rintro e w5 ⟨v, rfl, hr, hb⟩
      obtain ⟨o2, c2, rfl⟩ := row_slice hr
      have HB := Lib.hid (HK4.out.1.trans (hb.mono HK4.out.1.size))
      clear hr hb HPR
      go_wp2_with fail
      go_ret2
      exact ⟨_, rfl, intRow_nil _ _, HB.out⟩
set_option maxHeartbeats 1000000 in
theorem implDivM_any (p : Int) {o o' : Option Addr} {n n' c c' : Nat} {f g : List Int} {w : World} (h : Seen w o n c f) (h' : Seen w o' n' c' g) :
    Calls Try.prog 17 #[.int .i64 p, .slice o n c, .slice o' n' c'] w (Int2P (dvQ p f g) (dvR p f g) (twC p f g) w) := by
  have HS := Lib.hid h
  have HS' := Lib.hid h'
  have HL' := Lib.hid h'.1
  clear h h'
  cases hm : twoM p f g
  · have e1 : twC p f g = 1 := by simp [twC, hm]
    rw [show dvQ p f g = [] by simp [dvQ, e1], show dvR p f g = [] by simp [dvR, e1], e1]
    clear e1
    go_enter Try.func17, Try.ntmps17
    go_wp2_with fail
    refine (ringBy_any p w).mono ?_
    rintro e w1 ⟨rfl, hb1⟩
    have HB1 := Lib.hid hb1
    have hb3 := top8_below hb1 (.cells #[.int .i64 p, .int .i64 1] 46) (.cells #[.slice o n c, .slice o' n' c'] 24)
    have HS3 := Lib.hid (seen_below HS.out hb3)
    have HT3 := Lib.hid (seen_below HS'.out hb3)
    have hlt3 : w1.heap.size + 1 < ((w1.alloc (.cells #[.int .i64 p, .int .i64 1] 46)).alloc (.cells #[.slice o n c, .slice o' n' c'] 24)).heap.size := by simp
    have HCK := Lib.hid (checkPoly2 p (b := w1.heap.size + 1) HS3.out (cell8_second w1 (.cells #[.int .i64 p, .int .i64 1] 46) _ _ 0) HT3.out (cell8_second w1 (.cells #[.int .i64 p, .int .i64 1] 46) _ _ 1) hlt3)
    clear hb1 hb3 hlt3
    go_wp2_with fail
    refine HCK.out.mono ?_
    rintro e w4 ⟨rfl, hb4⟩
    rw [okC2_val _ hm]
    have hk4 := top8 HB1.out hb4
    have HK4 := Lib.hid hk4
    have c0 := hk4.2.1
    have c1 := hk4.2.2
    have S4 := Lib.hid (seen_below HS3.out hb4)
    have T4 := Lib.hid (seen_below HT3.out hb4)
    clear hk4 hb4 HCK HS3 HT3
    simp only [if_true, if_false, Bool.false_eq_true]
    go_wp2_with fail
    go_ret3
    exact ⟨_, _, rfl, intRow_nil _ _, intRow_nil _ _, HK4.out.1, .inl rfl⟩
  · by_cases h0 : n' = 0
    · have e1 : twC p f g = 5 := by simp [twC, hm, ← HL'.out, h0]
      rw [show dvQ p f g = [] by simp [dvQ, e1], show dvR p f g = [] by simp [dvR, e1], e1]
      clear e1
      have h0' : ((n' : Int) == 0) = true := by simp [h0]
      clear h0
      go_enter Try.func17, Try.ntmps17
      go_wp2_with fail
      refine (ringBy_any p w).mono ?_
      rintro e w1 ⟨rfl, hb1⟩
      have HB1 := Lib.hid hb1
      have hb3 := top8_below hb1 (.cells #[.int .i64 p, .int .i64 1] 46) (.cells #[.slice o n c, .slice o' n' c'] 24)
      have HS3 := Lib.hid (seen_below HS.out hb3)
      have HT3 := Lib.hid (seen_below HS'.out hb3)
      have hlt3 : w1.heap.size + 1 < ((w1.alloc (.cells #[.int .i64 p, .int .i64 1] 46)).alloc (.cells #[.slice o n c, .slice o' n' c'] 24)).heap.size := by simp
      have HCK := Lib.hid (checkPoly2 p (b := w1.heap.size + 1) HS3.out (cell8_second w1 (.cells #[.int .i64 p, .int .i64 1] 46) _ _ 0) HT3.out (cell8_second w1 (.cells #[.int .i64 p, .int .i64 1] 46) _ _ 1) hlt3)
      clear hb1 hb3 hlt3
      go_wp2_with fail
      refine HCK.out.mono ?_
      rintro e w4 ⟨rfl, hb4⟩
      rw [okC2_val _ hm]
      have hk4 := top8 HB1.out hb4
      have HK4 := Lib.hid hk4
      have c0 := hk4.2.1
      have c1 := hk4.2.2
      have S4 := Lib.hid (seen_below HS3.out hb4)
      have T4 := Lib.hid (seen_below HT3.out hb4)
      clear hk4 hb4 HCK HS3 HT3
      simp only [if_true, if_false, Bool.false_eq_true]
      go_wp2_with fail
      go_ret3
      exact ⟨_, _, rfl, intRow_nil _ _, intRow_nil _ _, HK4.out.1, .inl rfl⟩
    · have e1 : twC p f g = 0 := by simp [twC, hm, ← HL'.out, h0]
      rw [show dvQ p f g = quoP p f g by simp [dvQ, e1], show dvR p f g = remP p f g by simp [dvR, e1], e1]
      obtain ⟨hf, hg⟩ := twoM_of hm
      have F := modB_of hf
      have G := modB_of hg
      have h0' : ((n' : Int) == 0) = false := by simp; omega
      have HDV := Lib.hid fun (wx : World) (hx : Seen wx o n c f) (hy : Seen wx o' n' c' g) => divide_any p (modB_small hf) hx (seen_d hy) F.mod G.mod (by have := HL'.out; omega) (by have := HS.out.1; have := F.len; omega) (by have := HL'.out; have := G.len; omega)
      clear F G hf hg e1 h0
      go_enter Try.func17, Try.ntmps17
      go_wp2_with fail
      refine (ringBy_any p w).mono ?_
      rintro e w1 ⟨rfl, hb1⟩
      have HB1 := Lib.hid hb1
      have hb3 := top8_below hb1 (.cells #[.int .i64 p, .int .i64 1] 46) (.cells #[.slice o n c, .slice o' n' c'] 24)
      have HS3 := Lib.hid (seen_below HS.out hb3)
      have HT3 := Lib.hid (seen_below HS'.out hb3)
      have hlt3 : w1.heap.size + 1 < ((w1.alloc (.cells #[.int .i64 p, .int .i64 1] 46)).alloc (.cells #[.slice o n c, .slice o' n' c'] 24)).heap.size := by simp
      have HCK := Lib.hid (checkPoly2 p (b := w1.heap.size + 1) HS3.out (cell8_second w1 (.cells #[.int .i64 p, .int .i64 1] 46) _ _ 0) HT3.out (cell8_second w1 (.cells #[.int .i64 p, .int .i64 1] 46) _ _ 1) hlt3)
      clear hb1 hb3 hlt3
      go_wp2_with fail
      refine HCK.out.mono ?_
      rintro e w4 ⟨rfl, hb4⟩
      rw [okC2_val _ hm]
      have hk4 := top8 HB1.out hb4
      have HK4 := Lib.hid hk4
      have c0 := hk4.2.1
      have c1 := hk4.2.2
      have S4 := Lib.hid (seen_below HS3.out hb4)
      have T4 := Lib.hid (seen_below HT3.out hb4)
      clear hk4 hb4 HCK HS3 HT3
      simp only [if_true, if_false, Bool.false_eq_true]
      go_wp2_with fail
      refine (HDV.out _ S4.out T4.out).mono ?_
      rintro e w5 ⟨v, u, rfl, hq, hr, hb, hap⟩
      have HQ := Lib.hid (intRow_lower hq HK4.out.1.size)
      have HR := Lib.hid (intRow_lower hr HK4.out.1.size)
      have HB := Lib.hid (HK4.out.1.trans (hb.mono HK4.out.1.size))
      have HAP := Lib.hid hap
      clear hq hr hb hap HDV
      go_wp2_with fail
      go_ret3
      exact ⟨v, u, rfl, HQ.out, HR.out, HB.out, HAP.out⟩
set_option maxHeartbeats 1000000 in
theorem implCom_any (p : Int) {o o' : Option Addr} {n n' c c' : Nat} {f g : List Int} {w : World} (h : Seen w o n c f) (h' : Seen w o' n' c' g) :
    Calls Try.prog 29 #[.int .i64 p, .slice o n c, .slice o' n' c'] w (IntPost (cmQ p f g) (cmC p f g) w) := by
  have HS := Lib.hid h
  have HS' := Lib.hid h'
  clear h h'
  cases hm : twoM p f g
  · rw [show cmQ p f g = [] by simp [cmQ, hm], show cmC p f g = 1 by simp [cmC, hm]]
    go_enter Try.func29, Try.ntmps29
    go_wp2_with fail
    refine (ringBy_any p w).mono ?_
    rintro e w1 ⟨rfl, hb1⟩
    have HB1 := Lib.hid hb1
    have hb3 := top8_below hb1 (.cells #[.int .i64 p, .int .i64 1] 46) (.cells #[.slice o n c, .slice o' n' c'] 24)
    have HS3 := Lib.hid (seen_below HS.out hb3)
    have HT3 := Lib.hid (seen_below HS'.out hb3)
    have hlt3 : w1.heap.size + 1 < ((w1.alloc (.cells #[.int .i64 p, .int .i64 1] 46)).alloc (.cells #[.slice o n c, .slice o' n' c'] 24)).heap.size := by simp
    have HCK := Lib.hid (checkPoly2 p (b := w1.heap.size + 1) HS3.out (cell8_second w1 (.cells #[.int .i64 p, .int .i64 1] 46) _ _ 0) HT3.out (cell8_second w1 (.cells #[.int .i64 p, .int .i64 1] 46) _ _ 1) hlt3)
    clear hb1 hb3 hlt3
    go_wp2_with fail
    refine HCK.out.mono ?_
    rintro e w4 ⟨rfl, hb4⟩
    rw [okC2_val _ hm]
    have hk4 := top8 HB1.out hb4
    have HK4 := Lib.hid hk4
    have c0 := hk4.2.1
    have c1 := hk4.2.2
    have S4 := Lib.hid (seen_below HS3.out hb4)
    have T4 := Lib.hid (seen_below HT3.out hb4)
    clear hk4 hb4 HCK HS3 HT3
    simp only [if_true, if_false, Bool.false_eq_true]
    go_wp2_with fail
    go_ret2
    exact ⟨_, rfl, intRow_nil _ _, HK4.out.1⟩
  · rw [show cmQ p f g = gcdL p f g by simp [cmQ, hm], show cmC p f g = 0 by simp [cmC, hm]]
    obtain ⟨hf, hg⟩ := twoM_of hm
    have F := modB_of hf
    have G := modB_of hg
    have HCM := Lib.hid fun (wx : World) (hx : Seen wx o n c f) (hy : Seen wx o' n' c' g) => common_any p (modB_small hf) hx hy F.mod G.mod (by have := HS.out.1; have := F.len; omega) (by have := HS'.out.1; have := G.len; omega)
    clear F G hf hg
    go_enter Try.func29, Try.ntmps29
    go_wp2_with fail
    refine (ringBy_any p w).mono ?_
    rintro e w1 ⟨rfl, hb1⟩
    have HB1 := Lib.hid hb1
    have hb3 := top8_below hb1 (.cells #[.int .i64 p, .int .i64 1] 46) (.cells #[.slice o n c, .slice o' n' c'] 24)
    have HS3 := Lib.hid (seen_below HS.out hb3)
    have HT3 := Lib.hid (seen_below HS'.out hb3)
    have hlt3 : w1.heap.size + 1 < ((w1.alloc (.cells #[.int .i64 p, .int .i64 1] 46)).alloc (.cells #[.slice o n c, .slice o' n' c'] 24)).heap.size := by simp
    have HCK := Lib.hid (checkPoly2 p (b := w1.heap.size + 1) HS3.out (cell8_second w1 (.cells #[.int .i64 p, .int .i64 1] 46) _ _ 0) HT3.out (cell8_second w1 (.cells #[.int .i64 p, .int .i64 1] 46) _ _ 1) hlt3)
    clear hb1 hb3 hlt3
    go_wp2_with fail
    refine HCK.out.mono ?_
    rintro e w4 ⟨rfl, hb4⟩
    rw [okC2_val _ hm]
    have hk4 := top8 HB1.out hb4
    have HK4 := Lib.hid hk4
    have c0 := hk4.2.1
    have c1 := hk4.2.2
    have S4 := Lib.hid (seen_below HS3.out hb4)
    have T4 := Lib.hid (seen_below HT3.out hb4)
    clear hk4 hb4 HCK HS3 HT3
    simp only [if_true, if_false, Bool.false_eq_true]
    go_wp2_with fail
    refine (HCM.out _ S4.out T4.out).mono ?_
    rintro e w5 ⟨v, rfl, hr, hb⟩
    have HR := Lib.hid (intRow_lower hr HK4.out.1.size)
    have HB := Lib.hid (HK4.out.1.trans (hb.mono HK4.out.1.size))
    clear hr hb HCM
    go_wp2_with fail
    go_ret2
    exact ⟨_, rfl, HR.out, HB.out⟩
set_option maxHeartbeats 2000000 in
theorem implPow_any (p e0 : Int) {o : Option Addr} {n c : Nat} {f : List Int} {w : World} (h : Seen w o n c f) :
    Calls Try.prog 40 #[.int .i64 p, .int .i64 e0, .slice o n c] w (IntPost (pxQ p e0 f) (pxC p e0 f) w) := by
  have HS := Lib.hid h
  have HL := Lib.hid h.1
  clear h
  cases hm : modB p f
  · have e1 : pxC p e0 f = 1 := by simp [pxC, hm]
    rw [show pxQ p e0 f = [] by simp [pxQ, e1], e1]
    clear e1
    go_enter Try.func40, Try.ntmps40
    go_wp2_with fail
    refine (ringBy_any p w).mono ?_
    rintro e w1 ⟨rfl, hb1⟩
    have HB1 := Lib.hid hb1
    have hb3 := top8_below hb1 (.cells #[.int .i64 p, .int .i64 1] 46) (.cells #[.slice o n c] 24)
    have HS3 := Lib.hid (seen_below HS.out hb3)
    have hlt3 : w1.heap.size + 1 < ((w1.alloc (.cells #[.int .i64 p, .int .i64 1] 46)).alloc (.cells #[.slice o n c] 24)).heap.size := by simp
    have HCK := Lib.hid (checkPoly1 p (b := w1.heap.size + 1) HS3.out (cell8_second w1 (.cells #[.int .i64 p, .int .i64 1] 46) _ _ 0) hlt3)
    clear hb1 hb3 hlt3
    go_wp2_with fail
    refine HCK.out.mono ?_
    rintro e w4 ⟨rfl, hb4⟩
    rw [okC_val _ hm]
    have hk4 := top8 HB1.out hb4
    have HK4 := Lib.hid hk4
    have c0 := hk4.2.1
    have c1 := hk4.2.2
    have S4 := Lib.hid (seen_below HS3.out hb4)
    clear hk4 hb4 HCK HS3
    simp only [if_true, if_false, Bool.false_eq_true]
    go_wp2_with fail
    go_ret2
    exact ⟨_, rfl, intRow_nil _ _, HK4.out.1⟩
  · by_cases hlo : e0 < 0
    · have e1 : pxC p e0 f = 2 := by simp [pxC, hm, inB_f (lo := 0) (hi := 1000000000000) (.inl hlo)]
      rw [show pxQ p e0 f = [] by simp [pxQ, e1], e1]
      clear e1
      go_enter Try.func40, Try.ntmps40
      go_wp2_with fail
      refine (ringBy_any p w).mono ?_
      rintro e w1 ⟨rfl, hb1⟩
      have HB1 := Lib.hid hb1
      have hb3 := top8_below hb1 (.cells #[.int .i64 p, .int .i64 1] 46) (.cells #[.slice o n c] 24)
      have HS3 := Lib.hid (seen_below HS.out hb3)
      have hlt3 : w1.heap.size + 1 < ((w1.alloc (.cells #[.int .i64 p, .int .i64 1] 46)).alloc (.cells #[.slice o n c] 24)).heap.size := by simp
      have HCK := Lib.hid (checkPoly1 p (b := w1.heap.size + 1) HS3.out (cell8_second w1 (.cells #[.int .i64 p, .int .i64 1] 46) _ _ 0) hlt3)
      clear hb1 hb3 hlt3
      go_wp2_with fail
      refine HCK.out.mono ?_
      rintro e w4 ⟨rfl, hb4⟩
      rw [okC_val _ hm]
      have hk4 := top8 HB1.out hb4
      have HK4 := Lib.hid hk4
      have c0 := hk4.2.1
      have c1 := hk4.2.2
      have S4 := Lib.hid (seen_below HS3.out hb4)
      clear hk4 hb4 HCK HS3
      simp only [if_true, if_false, Bool.false_eq_true]
      go_wp2_with fail
      go_ret2
      exact ⟨_, rfl, intRow_nil _ _, HK4.out.1⟩
    · by_cases hhi : (1000000000000 : Int) < e0
      · have e1 : pxC p e0 f = 2 := by simp [pxC, hm, inB_f (lo := 0) (hi := 1000000000000) (.inr hhi)]
        rw [show pxQ p e0 f = [] by simp [pxQ, e1], e1]
        clear e1
        go_enter Try.func40, Try.ntmps40
        go_wp2_with fail
        refine (ringBy_any p w).mono ?_
        rintro e w1 ⟨rfl, hb1⟩
        have HB1 := Lib.hid hb1
        have hb3 := top8_below hb1 (.cells #[.int .i64 p, .int .i64 1] 46) (.cells #[.slice o n c] 24)
        have HS3 := Lib.hid (seen_below HS.out hb3)
        have hlt3 : w1.heap.size + 1 < ((w1.alloc (.cells #[.int .i64 p, .int .i64 1] 46)).alloc (.cells #[.slice o n c] 24)).heap.size := by simp
        have HCK := Lib.hid (checkPoly1 p (b := w1.heap.size + 1) HS3.out (cell8_second w1 (.cells #[.int .i64 p, .int .i64 1] 46) _ _ 0) hlt3)
        clear hb1 hb3 hlt3
        go_wp2_with fail
        refine HCK.out.mono ?_
        rintro e w4 ⟨rfl, hb4⟩
        rw [okC_val _ hm]
        have hk4 := top8 HB1.out hb4
        have HK4 := Lib.hid hk4
        have c0 := hk4.2.1
        have c1 := hk4.2.2
        have S4 := Lib.hid (seen_below HS3.out hb4)
        clear hk4 hb4 HCK HS3
        simp only [if_true, if_false, Bool.false_eq_true]
        go_wp2_with fail
        go_ret2
        exact ⟨_, rfl, intRow_nil _ _, HK4.out.1⟩
      · have hin : inB e0 0 1000000000000 = true := inB_t (by omega) (by omega)
        by_cases h0 : n = 0
        · have e1 : pxC p e0 f = 5 := by simp [pxC, hm, hin, ← HL.out, h0]
          rw [show pxQ p e0 f = [] by simp [pxQ, e1], e1]
          clear e1 hin
          have h0' : ((n : Int) == 0) = true := by simp [h0]
          clear h0
          go_enter Try.func40, Try.ntmps40
          go_wp2_with fail
          refine (ringBy_any p w).mono ?_
          rintro e w1 ⟨rfl, hb1⟩
          have HB1 := Lib.hid hb1
          have hb3 := top8_below hb1 (.cells #[.int .i64 p, .int .i64 1] 46) (.cells #[.slice o n c] 24)
          have HS3 := Lib.hid (seen_below HS.out hb3)
          have hlt3 : w1.heap.size + 1 < ((w1.alloc (.cells #[.int .i64 p, .int .i64 1] 46)).alloc (.cells #[.slice o n c] 24)).heap.size := by simp
          have HCK := Lib.hid (checkPoly1 p (b := w1.heap.size + 1) HS3.out (cell8_second w1 (.cells #[.int .i64 p, .int .i64 1] 46) _ _ 0) hlt3)
          clear hb1 hb3 hlt3
          go_wp2_with fail
          refine HCK.out.mono ?_
          rintro e w4 ⟨rfl, hb4⟩
          rw [okC_val _ hm]
          have hk4 := top8 HB1.out hb4
          have HK4 := Lib.hid hk4
          have c0 := hk4.2.1
          have c1 := hk4.2.2
          have S4 := Lib.hid (seen_below HS3.out hb4)
          clear hk4 hb4 HCK HS3
          simp only [if_true, if_false, Bool.false_eq_true]
          go_wp2_with fail
          go_ret2
          exact ⟨_, rfl, intRow_nil _ _, HK4.out.1⟩
        · have e1 : pxC p e0 f = 0 := by simp [pxC, hm, hin, ← HL.out, h0]
          rw [show pxQ p e0 f = powL p f e0.toNat by simp [pxQ, e1], e1]
          have F := modB_of hm
          have h0' : ((n : Int) == 0) = false := by simp; omega
          obtain ⟨E, hE⟩ : ∃ E : Nat, e0 = E := ⟨e0.toNat, by omega⟩
          subst hE
          rw [show ((E : Int)).toNat = E by omega]
          have HPW := Lib.hid fun (wx : World) (oa : Option Addr) (hx : Seen wx oa 2 2 [0, 1]) (hy : Seen wx o n c f) => powerOf_any p (modB_small hm) E (by omega) hx hy F.mod (by have := HL.out; omega) (by have := HL.out; have := F.len; omega)
          clear F e1 hin h0
          go_enter Try.func40, Try.ntmps40
          go_wp2_with fail
          refine (ringBy_any p w).mono ?_
          rintro e w1 ⟨rfl, hb1⟩
          have HB1 := Lib.hid hb1
          have hb3 := top8_below hb1 (.cells #[.int .i64 p, .int .i64 1] 46) (.cells #[.slice o n c] 24)
          have HS3 := Lib.hid (seen_below HS.out hb3)
          have hlt3 : w1.heap.size + 1 < ((w1.alloc (.cells #[.int .i64 p, .int .i64 1] 46)).alloc (.cells #[.slice o n c] 24)).heap.size := by simp
          have HCK := Lib.hid (checkPoly1 p (b := w1.heap.size + 1) HS3.out (cell8_second w1 (.cells #[.int .i64 p, .int .i64 1] 46) _ _ 0) hlt3)
          clear hb1 hb3 hlt3
          go_wp2_with fail
          refine HCK.out.mono ?_
          rintro e w4 ⟨rfl, hb4⟩
          rw [okC_val _ hm]
          have hk4 := top8 HB1.out hb4
          have HK4 := Lib.hid hk4
          have c0 := hk4.2.1
          have c1 := hk4.2.2
          have S4 := Lib.hid (seen_below HS3.out hb4)
          clear hk4 hb4 HCK HS3
          simp only [if_true, if_false, Bool.false_eq_true]
          have hb5 := below_a8 w4 (.cells #[.int .i64 0, .int .i64 1] 2)
          have HP5 := Lib.hid (HPW.out _ _ (seen_two w4 0 1 2) (seen_below S4.out hb5))
          have HB5 := Lib.hid (HK4.out.1.trans (hb5.mono HK4.out.1.size))
          clear hb5 HPW
          go_wp2_with fail
          refine HP5.out.mono ?_
          rintro e w5 ⟨v, rfl, hr, hb⟩
          have HR := Lib.hid (intRow_lower hr HB5.out.size)
          have HB := Lib.hid (HB5.out.trans (hb.mono HB5.out.size))
          clear hr hb HP5
          go_wp2_with fail
          go_ret2
          exact ⟨_, rfl, HR.out, HB.out⟩
set_option maxHeartbeats 2000000 in
theorem implFree_any (p : Int) {o : Option Addr} {n c : Nat} {f : List Int} {w : World} (h : Seen w o n c f) :
    Calls Try.prog 32 #[.int .i64 p, .slice o n c] w fun e w' => e = .returned (.tuple #[.bool (frQ p f), .int .i64 (frC p f)]) ∧ Below w.heap.size w w' := by
  have HS := Lib.hid h
  have HL := Lib.hid h.1
  clear h
  cases hm : modB p f
  · rw [show frQ p f = false by simp [frQ, hm], show frC p f = 1 by simp [frC, hm]]
    go_enter Try.func32, Try.ntmps32
    go_wp2_with fail
    refine (ringBy_any p w).mono ?_
    rintro e w1 ⟨rfl, hb1⟩
    have HB1 := Lib.hid hb1
    have hb3 := top8_below hb1 (.cells #[.int .i64 p, .int .i64 1] 46) (.cells #[.slice o n c] 24)
    have HS3 := Lib.hid (seen_below HS.out hb3)
    have hlt3 : w1.heap.size + 1 < ((w1.alloc (.cells #[.int .i64 p, .int .i64 1] 46)).alloc (.cells #[.slice o n c] 24)).heap.size := by simp
    have HCK := Lib.hid (checkPoly1 p (b := w1.heap.size + 1) HS3.out (cell8_second w1 (.cells #[.int .i64 p, .int .i64 1] 46) _ _ 0) hlt3)
    clear hb1 hb3 hlt3
    go_wp2_with fail
    refine HCK.out.mono ?_
    rintro e w4 ⟨rfl, hb4⟩
    rw [okC_val _ hm]
    have hk4 := top8 HB1.out hb4
    have HK4 := Lib.hid hk4
    have c0 := hk4.2.1
    have c1 := hk4.2.2
    have S4 := Lib.hid (seen_below HS3.out hb4)
    clear hk4 hb4 HCK HS3
    simp only [if_true, if_false, Bool.false_eq_true]
    go_wp2_with fail
    go_ret2
    exact ⟨rfl, HK4.out.1⟩
  · have F := modB_of hm
    have hp0 : 0 < p := by have := F.two; omega
    have hfl := F.len
    have hd9 : (redL p (derL f)).length ≤ 9 := Nat.le_trans (redL_le p _) (by rw [derL, tabL_length]; omega)
    have hgi := gcdL_is F.two F.top F.prime F.mod (redL_mod hp0 (derL f))
    have HQ := Lib.hid (show frQ p f = decide ((gcdL p f (redL p (derL f))).length = 1) by
      by_cases h0 : f.length = 0
      · have hnil := nil_of h0
        subst hnil
        have hz := (gcd_zero hp0 F.mod (redL_mod hp0 (derL [])) hgi).2 ⟨rfl, rfl⟩
        simp [frQ, freeB, hm, hz]
      · simp [frQ, freeB, hm, show 0 < f.length by omega])
    have hg9 : (gcdL p f (redL p (derL f))).length ≤ 9 := by
      have := gcd_le F.prime F.mod (redL_mod hp0 (derL f)) hgi
      omega
    rw [show frC p f = 0 by simp [frC, hm]]
    have HDV := Lib.hid fun (wx : World) (hx : Seen wx o n c f) => derivative_any p (modB_small hm) hx F.mod (by have := HL.out; omega)
    have HCM := Lib.hid fun (wx : World) (o' : Option Addr) (c' : Nat) (hx : Seen wx o n c f) (h' : Seen wx o' (redL p (derL f)).length c' (redL p (derL f))) => common_any p (modB_small hm) hx h' F.mod (redL_mod hp0 _) (by have := HL.out; omega) hd9
    generalize redL p (derL f) = d at *
    clear F hgi
    go_enter Try.func32, Try.ntmps32
    go_wp2_with fail
    refine (ringBy_any p w).mono ?_
    rintro e w1 ⟨rfl, hb1⟩
    have HB1 := Lib.hid hb1
    have hb3 := top8_below hb1 (.cells #[.int .i64 p, .int .i64 1] 46) (.cells #[.slice o n c] 24)
    have HS3 := Lib.hid (seen_below HS.out hb3)
    have hlt3 : w1.heap.size + 1 < ((w1.alloc (.cells #[.int .i64 p, .int .i64 1] 46)).alloc (.cells #[.slice o n c] 24)).heap.size := by simp
    have HCK := Lib.hid (checkPoly1 p (b := w1.heap.size + 1) HS3.out (cell8_second w1 (.cells #[.int .i64 p, .int .i64 1] 46) _ _ 0) hlt3)
    clear hb1 hb3 hlt3
    go_wp2_with fail
    refine HCK.out.mono ?_
    rintro e w4 ⟨rfl, hb4⟩
    rw [okC_val _ hm]
    have hk4 := top8 HB1.out hb4
    have HK4 := Lib.hid hk4
    have c0 := hk4.2.1
    have c1 := hk4.2.2
    have S4 := Lib.hid (seen_below HS3.out hb4)
    clear hk4 hb4 HCK HS3
    simp only [if_true, if_false, Bool.false_eq_true]
    have hst1 : Below w.heap.size w w4.drew ∧ w4.drew.cell? ⟨w1.heap.size, 0, none⟩ = some (.int .i64 p) ∧ w4.drew.cell? ⟨w1.heap.size, 1, none⟩ = some (.int .i64 1) := ⟨below_drewN HK4.out.1 1, HK4.out.2.1, HK4.out.2.2⟩
    have hbd : Below w4.heap.size w4 w4.drew := below_drewN (Below.refl _ _) 1
    have HD1 := Lib.hid (HDV.out _ (seen_below S4.out hbd))
    clear HDV
    go_wp2_with fail
    go_region_held3 (fun W' => Below w.heap.size w W' ∧ W'.cell? ⟨w1.heap.size, 0, none⟩ = some (.int .i64 p) ∧ W'.cell? ⟨w1.heap.size, 1, none⟩ = some (.int .i64 1)) (first | exact hst1 | exact keep8 ‹_› hb5 | exact keep8 ‹_› hb6 | assumption)
      (first | (go_at_call 68; refine HD1.out.mono ?_; rintro ee W5 ⟨v5, rfl, hr5, hb5⟩; obtain ⟨o5, c5, rfl⟩ := row_slice hr5) | (go_at_call 65; refine (HCM.out _ _ _ (seen_below (seen_below S4.out hbd) hb5) (row_seen hr5 (by omega))).mono ?_; rintro ee W6 ⟨v6, rfl, hr6, hb6⟩; obtain ⟨o6, c6, rfl⟩ := row_slice hr6))
    have HK6 := Lib.hid (keep8 (keep8 hst1 hb5) hb6)
    generalize (gcdL p f d).length = N at *
    have hN : ((N : Int) == 1) = decide (N = 1) := by
      by_cases e : N = 1
      · simp [e]
      · simp [e]; omega
    have HFQ := Lib.hid (show ((N : Int) == 1) = frQ p f by rw [HQ.out]; exact hN)
    clear hr5 hb5 hr6 hb6 hst1 hbd HCM HD1 HQ hN
    go_wp2_with fail
    go_ret2
    exact ⟨congrArg (fun b => Ending.returned (.tuple #[.bool b, .int .i64 0])) HFQ.out, HK6.out.1⟩
set_option maxHeartbeats 2000000 in
theorem implRoots_any (p : Int) {o : Option Addr} {n c : Nat} {f : List Int} {w : World} (h : Seen w o n c f) :
    Calls Try.prog 37 #[.int .i64 p, .slice o n c] w (IntPost (rtQ p f) (rtC p f) w) := by
  have HS := Lib.hid h
  have HL := Lib.hid h.1
  clear h
  cases hm : modB p f
  · have e1 : rtC p f = 1 := by simp [rtC, hm]
    rw [show rtQ p f = [] by simp [rtQ, e1], e1]
    clear e1
    go_enter Try.func37, Try.ntmps37
    go_wp2_with fail
    refine (ringBy_any p w).mono ?_
    rintro e w1 ⟨rfl, hb1⟩
    have HB1 := Lib.hid hb1
    have hb3 := top8_below hb1 (.cells #[.int .i64 p, .int .i64 1] 46) (.cells #[.slice o n c] 24)
    have HS3 := Lib.hid (seen_below HS.out hb3)
    have hlt3 : w1.heap.size + 1 < ((w1.alloc (.cells #[.int .i64 p, .int .i64 1] 46)).alloc (.cells #[.slice o n c] 24)).heap.size := by simp
    have HCK := Lib.hid (checkPoly1 p (b := w1.heap.size + 1) HS3.out (cell8_second w1 (.cells #[.int .i64 p, .int .i64 1] 46) _ _ 0) hlt3)
    clear hb1 hb3 hlt3
    go_wp2_with fail
    refine HCK.out.mono ?_
    rintro e w4 ⟨rfl, hb4⟩
    rw [okC_val _ hm]
    have hk4 := top8 HB1.out hb4
    have HK4 := Lib.hid hk4
    have c0 := hk4.2.1
    have c1 := hk4.2.2
    have S4 := Lib.hid (seen_below HS3.out hb4)
    clear hk4 hb4 HCK HS3
    simp only [if_true, if_false, Bool.false_eq_true]
    go_wp2_with fail
    go_ret2
    exact ⟨_, rfl, intRow_nil _ _, HK4.out.1⟩
  · by_cases h0 : n = 0
    · have e1 : rtC p f = 4 := by simp [rtC, hm, ← HL.out, h0]
      rw [show rtQ p f = [] by simp [rtQ, e1], e1]
      clear e1
      have h0' : ((n : Int) == 0) = true := by simp [h0]
      clear h0
      go_enter Try.func37, Try.ntmps37
      go_wp2_with fail
      refine (ringBy_any p w).mono ?_
      rintro e w1 ⟨rfl, hb1⟩
      have HB1 := Lib.hid hb1
      have hb3 := top8_below hb1 (.cells #[.int .i64 p, .int .i64 1] 46) (.cells #[.slice o n c] 24)
      have HS3 := Lib.hid (seen_below HS.out hb3)
      have hlt3 : w1.heap.size + 1 < ((w1.alloc (.cells #[.int .i64 p, .int .i64 1] 46)).alloc (.cells #[.slice o n c] 24)).heap.size := by simp
      have HCK := Lib.hid (checkPoly1 p (b := w1.heap.size + 1) HS3.out (cell8_second w1 (.cells #[.int .i64 p, .int .i64 1] 46) _ _ 0) hlt3)
      clear hb1 hb3 hlt3
      go_wp2_with fail
      refine HCK.out.mono ?_
      rintro e w4 ⟨rfl, hb4⟩
      rw [okC_val _ hm]
      have hk4 := top8 HB1.out hb4
      have HK4 := Lib.hid hk4
      have c0 := hk4.2.1
      have c1 := hk4.2.2
      have S4 := Lib.hid (seen_below HS3.out hb4)
      clear hk4 hb4 HCK HS3
      simp only [if_true, if_false, Bool.false_eq_true]
      go_wp2_with fail
      go_ret2
      exact ⟨_, rfl, intRow_nil _ _, HK4.out.1⟩
    · have e1 : rtC p f = 0 := by simp [rtC, hm, ← HL.out, h0]
      rw [show rtQ p f = rootsN p f p.toNat by simp [rtQ, e1], e1]
      have F := modB_of hm
      have p2 := F.two
      have p97 := F.top
      have h0' : ((n : Int) == 0) = false := by simp; omega
      have HVA := Lib.hid fun (wx : World) (x : Int) (hx : Seen wx o n c f) (x0 : 0 ≤ x) (x1 : x < p) => valueAt_any p x (modB_small hm) x0 x1 hx F.mod (by have := HL.out; omega) (by have := HL.out; have := F.len; omega)
      obtain ⟨i0, hi, hz0, hz1, hz2⟩ := info_parts Try.infoInt64
      have HI := Lib.hid hi
      have HZ0 := Lib.hid hz0
      have HZ1 := Lib.hid hz1
      have HZ2 := Lib.hid hz2
      obtain ⟨P, hP⟩ : ∃ P : Nat, p = P := ⟨p.toNat, by omega⟩
      have HPN := Lib.hid (And.intro (show p.toNat = P by omega) hP)
      clear F e1 h0 hi hz0 hz1 hz2 hP
      go_enter Try.func37, Try.ntmps37
      go_wp2_with fail
      refine (ringBy_any p w).mono ?_
      rintro e w1 ⟨rfl, hb1⟩
      have HB1 := Lib.hid hb1
      have hb3 := top8_below hb1 (.cells #[.int .i64 p, .int .i64 1] 46) (.cells #[.slice o n c] 24)
      have HS3 := Lib.hid (seen_below HS.out hb3)
      have hlt3 : w1.heap.size + 1 < ((w1.alloc (.cells #[.int .i64 p, .int .i64 1] 46)).alloc (.cells #[.slice o n c] 24)).heap.size := by simp
      have HCK := Lib.hid (checkPoly1 p (b := w1.heap.size + 1) HS3.out (cell8_second w1 (.cells #[.int .i64 p, .int .i64 1] 46) _ _ 0) hlt3)
      clear hb1 hb3 hlt3
      go_wp2_with fail
      refine HCK.out.mono ?_
      rintro e w4 ⟨rfl, hb4⟩
      rw [okC_val _ hm]
      have hk4 := top8 HB1.out hb4
      have HK4 := Lib.hid hk4
      have c0 := hk4.2.1
      have c1 := hk4.2.2
      have S4 := Lib.hid (seen_below HS3.out hb4)
      clear hk4 hb4 HCK HS3
      simp only [if_true, if_false, Bool.false_eq_true]
      have hlw1 : w1.heap.size < w4.heap.size := World.block_lt_of_cell? _ _ c0
      go_wp2_with fail
      go_loopw [8, 23] (fun v s wr => ∃ k : Nat, s = .int .i64 k ∧ (k : Int) ≤ p ∧ IntRow w4.heap.size wr v (rootsN p f k) ∧ Below w4.heap.size w4 wr) (fun _ s _ => P - (intOf s).toNat)
      case atStart => exact ⟨0, rfl, by omega, intRow_nil _ _, Below.refl _ _⟩
      case round =>
        obtain ⟨k, rfl, hk, hrow, hb⟩ := hrel
        have bl := rootsN_len (p := p) (f := f) k
        have HW := Lib.hid hrow
        have HB := Lib.hid hb
        have cc0 : wr.cell? ⟨w1.heap.size, 0, none⟩ = some (.int .i64 p) := by rw [hb.cell (p := ⟨w1.heap.size, 0, none⟩) hlw1]; exact HK4.out.2.1
        have cc1 : wr.cell? ⟨w1.heap.size, 1, none⟩ = some (.int .i64 1) := by rw [hb.cell (p := ⟨w1.heap.size, 1, none⟩) hlw1]; exact HK4.out.2.2
        clear hrow hb c0 c1
        by_cases hlt : (k : Int) < p
        · have HV := Lib.hid (HVA.out wr k (seen_below S4.out HB.out) (by omega) hlt)
          have HS2 := Lib.hid (show rootsN p f (k + 1) = rootsN p f k ++ (if evM p f k f.length = 0 then [(k : Int)] else []) from rfl)
          generalize rootsN p f k = acc at *
          generalize evM p f k f.length = y at *
          by_cases hy : y = 0
          · have hy' : (y == 0) = true := by simp [hy]
            rw [if_pos hy] at HS2
            clear hy
            go_wp2_with fail
            refine HV.out.mono ?_
            rintro e w5 ⟨rfl, hb5⟩
            have hB5 := HB.out.trans (hb5.mono HB.out.size)
            have HB5 := Lib.hid hB5
            have HW5 := Lib.hid (row_below HW.out hb5 (Nat.le_refl _))
            have bs5 := hB5.size
            clear hb5 HV HB HW hB5 cc0 cc1
            go_wp2_with (at_builtin; refine wpList_append_own _ rfl (.tmp 31) (.tmp 33) 24 rfl w4.heap.size 2 i0 (.int .i64 0) 1 8 Try.underlying24 HI.out HZ0.out HZ1.out HZ2.out rfl (by decide) _ _ _ rfl (HW5.out.alloc _) ⟨w5.heap.size, 0, none⟩ 1 1 [.int .i64 (k : Int)] rfl rfl ?c1 ?c2 ?c3 ?c4 ?c5 ?_)
            try (case c1 => first | exact news_one _ _ _ | simp [Addr.add])
            try (case c2 => first | exact one_one _ | rfl)
            case c3 => unfold maxLen; omega
            case c4 => omega
            case c5 => first | omega | (simp; omega)
            intro v' w6 hown hgrow _
            have HO2 := Lib.hid (intRow_snoc hown)
            have HG2 := Lib.hid (below_appendI HB5.out HW5.out hgrow)
            clear hown hgrow
            go_wp2_with fail
            go_roundw
            case rel => exact ⟨k + 1, by first | rfl | go_num, by omega, by rw [HS2.out]; exact HO2.out, HG2.out⟩
            case measure => have := HPN.out.2; simp [intOf]; omega
          · have hy' : (y == 0) = false := by simpa using hy
            rw [if_neg hy, List.append_nil] at HS2
            clear hy
            go_wp2_with fail
            refine HV.out.mono ?_
            rintro e w5 ⟨rfl, hb5⟩
            have HB5 := Lib.hid (HB.out.trans (hb5.mono HB.out.size))
            have HW5 := Lib.hid (row_below HW.out hb5 (Nat.le_refl _))
            clear hb5 HV HB HW cc0 cc1
            go_wp2_with fail
            go_roundw
            case rel => exact ⟨k + 1, by first | rfl | go_num, by omega, by rw [HS2.out]; exact HW5.out, HB5.out⟩
            case measure => have := HPN.out.2; simp [intOf]; omega
        · have HKE := Lib.hid (show rootsN p f k = rootsN p f p.toNat by rw [HPN.out.1, show k = P by have := HPN.out.2; omega])
          have HWL := Lib.hid (intRow_lower (b := w.heap.size) HW.out HK4.out.1.size)
          have HBL := Lib.hid (HK4.out.1.trans (HB.out.mono HK4.out.1.size))
          generalize rootsN p f k = acc at *
          go_wp2_with fail
          go_ret2
          rw [← HKE.out]
          exact ⟨_, rfl, HWL.out, HBL.out⟩
end Go.Proofs.Ytgnjhdkkjijiaaa
namespace Go.Proofs.Ytgnjhdkkjijiaaa
open Go.RowKit
set_option linter.unusedVariables false
set_option linter.unusedSimpArgs false
theorem modB_len {p : Int} {f : List Int} (h : modB p f = true) : f.length ≤ 9 := (modB_of h).len
theorem rdQ_len (p : Int) (f : List Int) : (rdQ p f).length ≤ 100 := by
  unfold rdQ
  split
  · rename_i h
    rw [Bool.and_eq_true] at h
    have := redL_le p f; have := (polyB_of h.2).1; omega
  · simp
theorem pxQ_len (p e : Int) (f : List Int) : (pxQ p e f).length ≤ 100 := by
  unfold pxQ
  split
  · rename_i h
    obtain ⟨hm, _, _, h0⟩ := pxC_zero h
    have F := modB_of hm
    have := (powL_is F.two F.top F.prime F.mod (fun e => h0 (by rw [e]; rfl)) e.toNat).deg
    have := F.len; omega
  · simp
theorem rtQ_len (p : Int) (f : List Int) : (rtQ p f).length ≤ 100 := by
  unfold rtQ
  split
  · rename_i h
    have hm : modB p f = true := by
      unfold rtC at h
      split at h
      · assumption
      · omega
    have := (modB_of hm).top
    have := rootsN_len (p := p) (f := f) p.toNat
    omega
  · simp
theorem drQ_len (p : Int) (f : List Int) : (drQ p f).length ≤ 100 := by
  unfold drQ
  split
  · rename_i h
    have h9 : (derL f).length = f.length - 1 := by rw [derL, tabL_length]
    have := redL_le p (derL f); have := modB_len h
    omega
  · simp
theorem mmQ_len (p : Int) (f g : List Int) : (mmQ p f g).length ≤ 100 := by
  unfold mmQ
  split
  · rename_i h
    unfold mmC at h
    split at h
    · split at h
      · omega
      · omega
    · omega
  · simp
theorem cmQ_len (p : Int) (f g : List Int) : (cmQ p f g).length ≤ 100 := by
  unfold cmQ
  split
  · rename_i h
    obtain ⟨hf, hg⟩ := twoM_of h
    have F := modB_of hf
    have G := modB_of hg
    have := gcd_le F.prime F.mod G.mod (gcdL_is F.two F.top F.prime F.mod G.mod)
    have := F.len; have := G.len; omega
  · simp
theorem dvQ_len (p : Int) (f g : List Int) : (dvQ p f g).length ≤ 100 := by
  unfold dvQ
  split
  · rename_i h
    have := quoP_len p f g; have := modB_len (twC_zero h).1; omega
  · simp
theorem dvR_len (p : Int) (f g : List Int) : (dvR p f g).length ≤ 100 := by
  unfold dvR
  split
  · rename_i h
    have := remP_len p f g; have := modB_len (twC_zero h).1; omega
  · simp
end Go.Proofs.Ytgnjhdkkjijiaaa
namespace Go.Proofs.Ytgnjhdkkjijiaaa
open Go.RowKit
set_option linter.unusedVariables false
theorem likeInts_nil (o1 o2 : Option Addr) (c1 c2 : Nat) (w : World) :
    Calls Try.prog 25 #[.slice o1 0 c1, .slice o2 0 c2] w fun e w' => e = .returned (.bool true) ∧ w = w' := by
  go_enter Try.func25, Try.ntmps25
  go_wp2
  refine wp_loop_rounds 1 ?_
  rw [rounds_succ]
  go_wp2
  go_ret
  exact ⟨rfl, rfl⟩
set_option maxHeartbeats 400000 in
theorem likeInts_row (g1 g2 n c1 c2 : Nat) (l : List Int) (w : World) (hn : n ≤ 1100000)
    (hc1 : ∀ k, k < n → w.cell? ⟨g1, k, none⟩ = some (.int .i64 (l.getD k 0)))
    (hc2 : ∀ k, k < n → w.cell? ⟨g2, k, none⟩ = some (.int .i64 (l.getD k 0))) :
    Calls Try.prog 25 #[.slice (some ⟨g1, 0, none⟩) n c1, .slice (some ⟨g2, 0, none⟩) n c2] w fun e w' => e = .returned (.bool true) ∧ ∃ m, w' = w.drewN m := by
  have HC1 := Lib.hid hc1
  have HC2 := Lib.hid hc2
  clear hc1 hc2
  go_enter Try.func25, Try.ntmps25
  go_wp2
  go_loopw [5] (fun i wr => ∃ k : Nat, k ≤ n ∧ i = .int .i64 k ∧ ∃ nd, wr = w.drewN nd) (fun i _ => n - (intOf i).toNat)
  case atStart => exact ⟨0, Nat.zero_le _, rfl, 0, rfl⟩
  case round =>
    obtain ⟨k, hk, rfl, nd, rfl⟩ := hrel
    by_cases hlt : k < n
    · have a1 := HC1.out k hlt
      have b1 := HC2.out k hlt
      obtain ⟨x1, e1⟩ : ∃ x, l.getD k 0 = x := ⟨_, rfl⟩
      rw [e1] at a1 b1
      clear e1
      go_wp2
      go_quiet (fail)
      go_wp2
      go_roundw
      case rel => exact ⟨k + 1, by omega, by go_num, nd + nq, by first | rfl | rw [World.drewN_drewN]⟩
      case measure => simp [intOf]; omega
    · go_wp2
      go_ret
      exact ⟨rfl, nd, rfl⟩
theorem likeInts_same {b1 b2 : Nat} {w : World} {v1 v2 : Value} {l : List Int} (h1 : IntRow b1 w v1 l) (h2 : IntRow b2 w v2 l) (hl : l.length ≤ 1100000) :
    Calls Try.prog 25 #[v1, v2] w fun e w' => e = .returned (.bool true) ∧ ∃ m, w' = w.drewN m := by
  rcases row_shape h1 with ⟨h0, o, c, rfl⟩ | ⟨h0, g, c, rfl, hb, hg⟩
  · rcases row_shape h2 with ⟨_, o', c', rfl⟩ | ⟨h0', _⟩
    · exact (likeInts_nil o o' c c' w).mono fun e w' ⟨he, hw⟩ => ⟨he, 0, hw.symm⟩
    · omega
  · rcases row_shape h2 with ⟨h0', _⟩ | ⟨_, g', c', rfl, hb', hg'⟩
    · omega
    · exact likeInts_row g g' l.length c c' l w hl (int_cells h1) (int_cells h2)
end Go.Proofs.Ytgnjhdkkjijiaaa
namespace Go.Proofs.Ytgnjhdkkjijiaaa
open Go.RowKit
set_option linter.unusedVariables false
/-- a slice of integers that came in, as the shells have it -/
def IsRowOf (k : IntKind) (w : World) (a : Option Addr) (len cap : Nat) (zs : List Int) : Prop :=
  (a = none ∧ len = 0 ∧ cap = 0 ∧ zs = []) ∨
  ∃ x, a = some x ∧ len ≤ cap ∧ cap ≤ maxLen ∧ zs.length = cap ∧ (∀ i, i < zs.length → w.cell? (x.add i) = some (.int k (zs.getD i 0))) ∧ ∀ n ∈ zs, (Lit.int k n).wf = true
theorem u8_bd {q : Int} (h : (Lit.int .u8 q).wf = true) : 0 ≤ q ∧ q ≤ 255 := by
  simp [Lit.wf, IntKind.min, IntKind.max, IntKind.signed, IntKind.bits] at h
  exact ⟨h.1, by omega⟩
theorem codeIn_of {w : World} {a : Option Addr} {len cap : Nat} {zs : List Int} (h : IsRowOf .u8 w a len cap zs) : CodeIn w a len ∧ len ≤ 9223372036854775807 := by
  rcases h with ⟨_, h, _, _⟩ | ⟨x, rfl, h1, h2, h3, h4, h5⟩
  · exact ⟨.inl h, by omega⟩
  · refine ⟨?_, by unfold maxLen at h2; omega⟩
    by_cases h0 : len = 0
    · exact .inl h0
    · obtain ⟨b, off, rfl, hc⟩ := ints_at h4 (by omega)
      refine .inr ⟨b, off, rfl, World.block_lt_of_cell? w _ (hc 0 (by omega)), fun i hi => ⟨_, hc i (by omega), ?_⟩⟩
      have hm : zs.getD i 0 ∈ zs := by
        have hlt : i < zs.length := by omega
        rw [show zs.getD i 0 = zs[i] by simp [List.getD, hlt]]; exact List.getElem_mem _
      exact u8_bd (h5 _ hm)
theorem gcd_dvd_tmod (a b : Int) (h : Int.gcd a b ≠ 0) : a.tmod (Int.gcd a b) = 0 ∧ b.tmod (Int.gcd a b) = 0 :=
  ⟨Int.tmod_eq_zero_of_dvd (Int.gcd_dvd_left ..), Int.tmod_eq_zero_of_dvd (Int.gcd_dvd_right ..)⟩
end Go.Proofs.Ytgnjhdkkjijiaaa
namespace Go.Proofs.Ytgnjhdkkjijiaaa
open Go.RowKit
set_option linter.unusedVariables false
set_option linter.unusedSimpArgs false
theorem tmod_pos {x m : Int} (h : 0 ≤ x) : x.tmod m = x % m := Int.tmod_eq_emod_of_nonneg h
theorem take_trim {l : List Int} {n : Nat} (hn : n + 1 ≤ l.length) (h : l.getD n 0 = 0) (ht : trimL (l.take (n + 1)) = trimL l) : trimL (l.take n) = trimL l := by
  rw [← ht]
  refine last_unique (trimL_last _) (trimL_last _) fun i => ?_
  rw [trimL_getD, trimL_getD]
  simp only [List.getD, List.getElem?_take]
  by_cases h1 : i < n
  · rw [if_pos h1, if_pos (by omega)]
  · rw [if_neg h1]
    by_cases h2 : i < n + 1
    · rw [if_pos h2, show i = n by omega]; simpa [List.getD] using h.symm
    · rw [if_neg h2]
theorem trim_end {l : List Int} (h : l.length = 0 ∨ l.getD (l.length - 1) 0 ≠ 0) : trimL l = l := by
  refine last_unique (trimL_last _) ?_ fun i => trimL_getD _ _
  unfold lastB
  rcases h with h | h
  · simp [h]
  · simp; right; simpa [List.getD] using h
set_option maxRecDepth 100000 in
set_option maxHeartbeats 40000000 in
theorem modquos_core (o : Option Addr) (len cap : Nat) (w : World) (hl : len ≤ 4096) (hc : CodeIn w o len) :
    Calls Try.prog 3 #[.slice o len cap] w fun e w' => e = .returned (.bool true) ∧ Below w.heap.size w w' := by
  have HC := Lib.hid hc
  have B0 := Lib.hid (Below.refl w.heap.size w)
  clear hc
  go_enter Try.func3, Try.ntmps3
  go_wp2_with fail
  refine (big_no _ _ _ _ hl).mono ?_
  rintro e w' ⟨rfl, rfl⟩
  go_wp2_with fail
  refine (draw8Div_any o len cap _ hl (codeIn_below (B := 0) HC.out B0.out)).mono ?_
  rintro e W1 ⟨P, v1, v2, f, g, rfl, P0, P1, rf, rg, hf10, hg10, b1⟩
  obtain ⟨o_f, c_f, rfl⟩ := row_slice rf
  obtain ⟨o_g, c_g, rfl⟩ := row_slice rg
  have B1 := Lib.hid (B0.out.trans (b1.mono B0.out.size))
  have R_f_1 := Lib.hid rf
  have R_g_1 := Lib.hid rg
  clear b1 rf rg
  have HV := Lib.hid (quo_fact (p := P) (f := f) (g := g))
  have hq100 := dvQ_len P f g
  have hr100 := dvR_len P f g
  have HDI := Lib.hid fun (w : World) (bb bb' : Nat) (hy1 : IntRow bb w (.slice o_f f.length c_f) f) (hy2 : IntRow bb' w (.slice o_g g.length c_g) g) => implDivM_any P (row_seen hy1 (show f.length ≤ 1100000 by omega)) (row_seen hy2 (show g.length ≤ 1100000 by omega))
  have HDS := Lib.hid fun (w : World) (bb bb' : Nat) (hy1 : IntRow bb w (.slice o_f f.length c_f) f) (hy2 : IntRow bb' w (.slice o_g g.length c_g) g) => specDivM_any P (row_seen hy1 (show f.length ≤ 1100000 by omega)) (row_seen hy2 (show g.length ≤ 1100000 by omega))
  generalize dvQ P f g = q at *
  generalize dvR P f g = r at *
  generalize twC P f g = k at *
  go_wp2_with fail
  refine (HDI.out _ _ _ R_f_1.out R_g_1.out).mono ?_
  rintro e W2 ⟨v2, u2, rfl, r2, t2, b2, -⟩
  obtain ⟨o_q, c_q, rfl⟩ := row_slice r2
  obtain ⟨o_r, c_r, rfl⟩ := row_slice t2
  have B2 := Lib.hid (B1.out.trans (b2.mono B1.out.size))
  have R_f_2 := Lib.hid (row_below R_f_1.out b2 (Nat.le_refl _))
  have R_g_2 := Lib.hid (row_below R_g_1.out b2 (Nat.le_refl _))
  have R_q_2 := Lib.hid r2
  have R_r_2 := Lib.hid t2
  clear r2 t2 b2
  go_wp2_with fail
  refine (HDS.out _ _ _ R_f_2.out R_g_2.out).mono ?_
  rintro e W3 ⟨v3, u3, rfl, r3, t3, b3, -⟩
  obtain ⟨o_m, c_m, rfl⟩ := row_slice r3
  obtain ⟨o_n, c_n, rfl⟩ := row_slice t3
  have B3 := Lib.hid (B2.out.trans (b3.mono B2.out.size))
  have R_f_3 := Lib.hid (row_below R_f_2.out b3 (Nat.le_refl _))
  have R_g_3 := Lib.hid (row_below R_g_2.out b3 (Nat.le_refl _))
  have R_q_3 := Lib.hid (row_below R_q_2.out b3 (Nat.le_refl _))
  have R_r_3 := Lib.hid (row_below R_r_2.out b3 (Nat.le_refl _))
  have R_m_3 := Lib.hid r3
  have R_n_3 := Lib.hid t3
  clear r3 t3 b3
  clear HDI HDS
  go_wp2_with fail
  refine (draw8Mul_any o len cap _ hl (codeIn_below (B := 0) HC.out B3.out)).mono ?_
  rintro e W4 ⟨U, v3, v4, a, b, rfl, U0, U1, ra, rb, ha10, hb10, b4⟩
  obtain ⟨o_a, c_a, rfl⟩ := row_slice ra
  obtain ⟨o_b, c_b, rfl⟩ := row_slice rb
  have B4 := Lib.hid (B3.out.trans (b4.mono B3.out.size))
  have R_f_4 := Lib.hid (row_below R_f_3.out b4 (Nat.le_refl _))
  have R_g_4 := Lib.hid (row_below R_g_3.out b4 (Nat.le_refl _))
  have R_q_4 := Lib.hid (row_below R_q_3.out b4 (Nat.le_refl _))
  have R_r_4 := Lib.hid (row_below R_r_3.out b4 (Nat.le_refl _))
  have R_m_4 := Lib.hid (row_below R_m_3.out b4 (Nat.le_refl _))
  have R_n_4 := Lib.hid (row_below R_n_3.out b4 (Nat.le_refl _))
  have R_a_4 := Lib.hid ra
  have R_b_4 := Lib.hid rb
  clear b4 ra rb
  have HW := Lib.hid (mm_fact (p := U) (f := a) (g := b))
  have hy100 := mmQ_len U a b
  have HMI := Lib.hid fun (w : World) (bb bb' : Nat) (hy1 : IntRow bb w (.slice o_a a.length c_a) a) (hy2 : IntRow bb' w (.slice o_b b.length c_b) b) => implMulM_any U (row_seen hy1 (show a.length ≤ 1100000 by omega)) (row_seen hy2 (show b.length ≤ 1100000 by omega))
  have HMS := Lib.hid fun (w : World) (bb bb' : Nat) (hy1 : IntRow bb w (.slice o_a a.length c_a) a) (hy2 : IntRow bb' w (.slice o_b b.length c_b) b) => specMulM_any U (row_seen hy1 (show a.length ≤ 1100000 by omega)) (row_seen hy2 (show b.length ≤ 1100000 by omega))
  generalize mmQ U a b = y at *
  generalize mmC U a b = k1 at *
  go_wp2_with fail
  refine (HMI.out _ _ _ R_a_4.out R_b_4.out).mono ?_
  rintro e W5 ⟨v5, rfl, r5, b5⟩
  obtain ⟨o_y, c_y, rfl⟩ := row_slice r5
  have B5 := Lib.hid (B4.out.trans (b5.mono B4.out.size))
  have R_f_5 := Lib.hid (row_below R_f_4.out b5 (Nat.le_refl _))
  have R_g_5 := Lib.hid (row_below R_g_4.out b5 (Nat.le_refl _))
  have R_q_5 := Lib.hid (row_below R_q_4.out b5 (Nat.le_refl _))
  have R_r_5 := Lib.hid (row_below R_r_4.out b5 (Nat.le_refl _))
  have R_m_5 := Lib.hid (row_below R_m_4.out b5 (Nat.le_refl _))
  have R_n_5 := Lib.hid (row_below R_n_4.out b5 (Nat.le_refl _))
  have R_a_5 := Lib.hid (row_below R_a_4.out b5 (Nat.le_refl _))
  have R_b_5 := Lib.hid (row_below R_b_4.out b5 (Nat.le_refl _))
  have R_y_5 := Lib.hid r5
  clear r5 b5
  go_wp2_with fail
  refine (HMS.out _ _ _ R_a_5.out R_b_5.out).mono ?_
  rintro e W6 ⟨v6, rfl, r6, b6⟩
  obtain ⟨o_z, c_z, rfl⟩ := row_slice r6
  have B6 := Lib.hid (B5.out.trans (b6.mono B5.out.size))
  have R_f_6 := Lib.hid (row_below R_f_5.out b6 (Nat.le_refl _))
  have R_g_6 := Lib.hid (row_below R_g_5.out b6 (Nat.le_refl _))
  have R_q_6 := Lib.hid (row_below R_q_5.out b6 (Nat.le_refl _))
  have R_r_6 := Lib.hid (row_below R_r_5.out b6 (Nat.le_refl _))
  have R_m_6 := Lib.hid (row_below R_m_5.out b6 (Nat.le_refl _))
  have R_n_6 := Lib.hid (row_below R_n_5.out b6 (Nat.le_refl _))
  have R_a_6 := Lib.hid (row_below R_a_5.out b6 (Nat.le_refl _))
  have R_b_6 := Lib.hid (row_below R_b_5.out b6 (Nat.le_refl _))
  have R_y_6 := Lib.hid (row_below R_y_5.out b6 (Nat.le_refl _))
  have R_z_6 := Lib.hid r6
  clear r6 b6
  clear HMI HMS
  go_wp2_with fail
  refine (draw8Red_any o len cap _ hl (codeIn_below (B := 0) HC.out B6.out)).mono ?_
  rintro e W7 ⟨T, v5, h, rfl, T0, T1, rh, hh10, b7⟩
  obtain ⟨o_h, c_h, rfl⟩ := row_slice rh
  have B7 := Lib.hid (B6.out.trans (b7.mono B6.out.size))
  have R_f_7 := Lib.hid (row_below R_f_6.out b7 (Nat.le_refl _))
  have R_g_7 := Lib.hid (row_below R_g_6.out b7 (Nat.le_refl _))
  have R_q_7 := Lib.hid (row_below R_q_6.out b7 (Nat.le_refl _))
  have R_r_7 := Lib.hid (row_below R_r_6.out b7 (Nat.le_refl _))
  have R_m_7 := Lib.hid (row_below R_m_6.out b7 (Nat.le_refl _))
  have R_n_7 := Lib.hid (row_below R_n_6.out b7 (Nat.le_refl _))
  have R_a_7 := Lib.hid (row_below R_a_6.out b7 (Nat.le_refl _))
  have R_b_7 := Lib.hid (row_below R_b_6.out b7 (Nat.le_refl _))
  have R_y_7 := Lib.hid (row_below R_y_6.out b7 (Nat.le_refl _))
  have R_z_7 := Lib.hid (row_below R_z_6.out b7 (Nat.le_refl _))
  have R_h_7 := Lib.hid rh
  clear b7 rh
  have hx100 := rdQ_len T h
  have HRI := Lib.hid fun (w : World) (bb : Nat) (hy1 : IntRow bb w (.slice o_h h.length c_h) h) => implRed_any T (row_seen hy1 (show h.length ≤ 1100000 by omega))
  have HRS := Lib.hid fun (w : World) (bb : Nat) (hy1 : IntRow bb w (.slice o_h h.length c_h) h) => specRed_any T (row_seen hy1 (show h.length ≤ 1100000 by omega))
  generalize rdQ T h = x at *
  generalize rdC T h = k3 at *
  go_wp2_with fail
  refine (HRI.out _ _ R_h_7.out).mono ?_
  rintro e W8 ⟨v8, rfl, r8, b8⟩
  obtain ⟨o_x, c_x, rfl⟩ := row_slice r8
  have B8 := Lib.hid (B7.out.trans (b8.mono B7.out.size))
  have R_f_8 := Lib.hid (row_below R_f_7.out b8 (Nat.le_refl _))
  have R_g_8 := Lib.hid (row_below R_g_7.out b8 (Nat.le_refl _))
  have R_q_8 := Lib.hid (row_below R_q_7.out b8 (Nat.le_refl _))
  have R_r_8 := Lib.hid (row_below R_r_7.out b8 (Nat.le_refl _))
  have R_m_8 := Lib.hid (row_below R_m_7.out b8 (Nat.le_refl _))
  have R_n_8 := Lib.hid (row_below R_n_7.out b8 (Nat.le_refl _))
  have R_a_8 := Lib.hid (row_below R_a_7.out b8 (Nat.le_refl _))
  have R_b_8 := Lib.hid (row_below R_b_7.out b8 (Nat.le_refl _))
  have R_y_8 := Lib.hid (row_below R_y_7.out b8 (Nat.le_refl _))
  have R_z_8 := Lib.hid (row_below R_z_7.out b8 (Nat.le_refl _))
  have R_h_8 := Lib.hid (row_below R_h_7.out b8 (Nat.le_refl _))
  have R_x_8 := Lib.hid r8
  clear r8 b8
  go_wp2_with fail
  refine (HRS.out _ _ R_h_8.out).mono ?_
  rintro e W9 ⟨v9, rfl, r9, b9⟩
  obtain ⟨o_xx, c_xx, rfl⟩ := row_slice r9
  have B9 := Lib.hid (B8.out.trans (b9.mono B8.out.size))
  have R_f_9 := Lib.hid (row_below R_f_8.out b9 (Nat.le_refl _))
  have R_g_9 := Lib.hid (row_below R_g_8.out b9 (Nat.le_refl _))
  have R_q_9 := Lib.hid (row_below R_q_8.out b9 (Nat.le_refl _))
  have R_r_9 := Lib.hid (row_below R_r_8.out b9 (Nat.le_refl _))
  have R_m_9 := Lib.hid (row_below R_m_8.out b9 (Nat.le_refl _))
  have R_n_9 := Lib.hid (row_below R_n_8.out b9 (Nat.le_refl _))
  have R_a_9 := Lib.hid (row_below R_a_8.out b9 (Nat.le_refl _))
  have R_b_9 := Lib.hid (row_below R_b_8.out b9 (Nat.le_refl _))
  have R_y_9 := Lib.hid (row_below R_y_8.out b9 (Nat.le_refl _))
  have R_z_9 := Lib.hid (row_below R_z_8.out b9 (Nat.le_refl _))
  have R_h_9 := Lib.hid (row_below R_h_8.out b9 (Nat.le_refl _))
  have R_x_9 := Lib.hid (row_below R_x_8.out b9 (Nat.le_refl _))
  have R_xx_9 := Lib.hid r9
  clear r9 b9
  clear HRI HRS
  have HNI := Lib.hid fun (w : World) (bb : Nat) (hy1 : IntRow bb w (.slice o_f f.length c_f) f) => implIsMod_any P (row_seen hy1 (show f.length ≤ 1100000 by omega))
  have HNS := Lib.hid fun (w : World) (bb : Nat) (hy1 : IntRow bb w (.slice o_f f.length c_f) f) => specIsMod_any P (row_seen hy1 (show f.length ≤ 1100000 by omega))
  generalize modB P f = mb at *
  go_wp2_with fail
  refine (likeInts_same R_q_9.out R_m_9.out (by omega)).mono ?_
  rintro e W10 ⟨rfl, nd, hw⟩
  have b10 : Below W9.heap.size W9 W10 := by rw [hw]; exact below_drewN (Below.refl _ _) nd
  clear hw nd
  have B10 := Lib.hid (B9.out.trans (b10.mono B9.out.size))
  have R_f_10 := Lib.hid (row_below R_f_9.out b10 (Nat.le_refl _))
  have R_g_10 := Lib.hid (row_below R_g_9.out b10 (Nat.le_refl _))
  have R_q_10 := Lib.hid (row_below R_q_9.out b10 (Nat.le_refl _))
  have R_r_10 := Lib.hid (row_below R_r_9.out b10 (Nat.le_refl _))
  have R_m_10 := Lib.hid (row_below R_m_9.out b10 (Nat.le_refl _))
  have R_n_10 := Lib.hid (row_below R_n_9.out b10 (Nat.le_refl _))
  have R_a_10 := Lib.hid (row_below R_a_9.out b10 (Nat.le_refl _))
  have R_b_10 := Lib.hid (row_below R_b_9.out b10 (Nat.le_refl _))
  have R_y_10 := Lib.hid (row_below R_y_9.out b10 (Nat.le_refl _))
  have R_z_10 := Lib.hid (row_below R_z_9.out b10 (Nat.le_refl _))
  have R_x_10 := Lib.hid (row_below R_x_9.out b10 (Nat.le_refl _))
  have R_xx_10 := Lib.hid (row_below R_xx_9.out b10 (Nat.le_refl _))
  clear b10
  go_wp2_with fail
  refine (likeInts_same R_r_10.out R_n_10.out (by omega)).mono ?_
  rintro e W11 ⟨rfl, nd, hw⟩
  have b11 : Below W10.heap.size W10 W11 := by rw [hw]; exact below_drewN (Below.refl _ _) nd
  clear hw nd
  have B11 := Lib.hid (B10.out.trans (b11.mono B10.out.size))
  have R_f_11 := Lib.hid (row_below R_f_10.out b11 (Nat.le_refl _))
  have R_g_11 := Lib.hid (row_below R_g_10.out b11 (Nat.le_refl _))
  have R_q_11 := Lib.hid (row_below R_q_10.out b11 (Nat.le_refl _))
  have R_r_11 := Lib.hid (row_below R_r_10.out b11 (Nat.le_refl _))
  have R_n_11 := Lib.hid (row_below R_n_10.out b11 (Nat.le_refl _))
  have R_a_11 := Lib.hid (row_below R_a_10.out b11 (Nat.le_refl _))
  have R_b_11 := Lib.hid (row_below R_b_10.out b11 (Nat.le_refl _))
  have R_y_11 := Lib.hid (row_below R_y_10.out b11 (Nat.le_refl _))
  have R_z_11 := Lib.hid (row_below R_z_10.out b11 (Nat.le_refl _))
  have R_x_11 := Lib.hid (row_below R_x_10.out b11 (Nat.le_refl _))
  have R_xx_11 := Lib.hid (row_below R_xx_10.out b11 (Nat.le_refl _))
  clear b11
  go_wp2_with fail
  refine (likeInts_same R_y_11.out R_z_11.out (by omega)).mono ?_
  rintro e W12 ⟨rfl, nd, hw⟩
  have b12 : Below W11.heap.size W11 W12 := by rw [hw]; exact below_drewN (Below.refl _ _) nd
  clear hw nd
  have B12 := Lib.hid (B11.out.trans (b12.mono B11.out.size))
  have R_f_12 := Lib.hid (row_below R_f_11.out b12 (Nat.le_refl _))
  have R_g_12 := Lib.hid (row_below R_g_11.out b12 (Nat.le_refl _))
  have R_q_12 := Lib.hid (row_below R_q_11.out b12 (Nat.le_refl _))
  have R_r_12 := Lib.hid (row_below R_r_11.out b12 (Nat.le_refl _))
  have R_a_12 := Lib.hid (row_below R_a_11.out b12 (Nat.le_refl _))
  have R_b_12 := Lib.hid (row_below R_b_11.out b12 (Nat.le_refl _))
  have R_y_12 := Lib.hid (row_below R_y_11.out b12 (Nat.le_refl _))
  have R_z_12 := Lib.hid (row_below R_z_11.out b12 (Nat.le_refl _))
  have R_x_12 := Lib.hid (row_below R_x_11.out b12 (Nat.le_refl _))
  have R_xx_12 := Lib.hid (row_below R_xx_11.out b12 (Nat.le_refl _))
  clear b12
  go_wp2_with fail
  refine (likeInts_same R_x_12.out R_xx_12.out (by omega)).mono ?_
  rintro e W13 ⟨rfl, nd, hw⟩
  have b13 : Below W12.heap.size W12 W13 := by rw [hw]; exact below_drewN (Below.refl _ _) nd
  clear hw nd
  have B13 := Lib.hid (B12.out.trans (b13.mono B12.out.size))
  have R_f_13 := Lib.hid (row_below R_f_12.out b13 (Nat.le_refl _))
  have R_g_13 := Lib.hid (row_below R_g_12.out b13 (Nat.le_refl _))
  have R_q_13 := Lib.hid (row_below R_q_12.out b13 (Nat.le_refl _))
  have R_r_13 := Lib.hid (row_below R_r_12.out b13 (Nat.le_refl _))
  have R_a_13 := Lib.hid (row_below R_a_12.out b13 (Nat.le_refl _))
  have R_b_13 := Lib.hid (row_below R_b_12.out b13 (Nat.le_refl _))
  have R_y_13 := Lib.hid (row_below R_y_12.out b13 (Nat.le_refl _))
  have R_x_13 := Lib.hid (row_below R_x_12.out b13 (Nat.le_refl _))
  have R_xx_13 := Lib.hid (row_below R_xx_12.out b13 (Nat.le_refl _))
  clear b13
  go_wp2_with fail
  refine (HNI.out _ _ R_f_13.out).mono ?_
  rintro e W14 ⟨rfl, b14⟩
  have B14 := Lib.hid (B13.out.trans (b14.mono B13.out.size))
  have R_f_14 := Lib.hid (row_below R_f_13.out b14 (Nat.le_refl _))
  have R_g_14 := Lib.hid (row_below R_g_13.out b14 (Nat.le_refl _))
  have R_q_14 := Lib.hid (row_below R_q_13.out b14 (Nat.le_refl _))
  have R_r_14 := Lib.hid (row_below R_r_13.out b14 (Nat.le_refl _))
  have R_a_14 := Lib.hid (row_below R_a_13.out b14 (Nat.le_refl _))
  have R_b_14 := Lib.hid (row_below R_b_13.out b14 (Nat.le_refl _))
  have R_y_14 := Lib.hid (row_below R_y_13.out b14 (Nat.le_refl _))
  clear b14
  go_wp2_with fail
  refine (HNS.out _ _ R_f_14.out).mono ?_
  rintro e W15 ⟨rfl, hw⟩
  have b15 : Below W14.heap.size W14 W15 := by rw [← hw]; exact Below.refl _ _
  clear hw
  have B15 := Lib.hid (B14.out.trans (b15.mono B14.out.size))
  have R_f_15 := Lib.hid (row_below R_f_14.out b15 (Nat.le_refl _))
  have R_g_15 := Lib.hid (row_below R_g_14.out b15 (Nat.le_refl _))
  have R_q_15 := Lib.hid (row_below R_q_14.out b15 (Nat.le_refl _))
  have R_r_15 := Lib.hid (row_below R_r_14.out b15 (Nat.le_refl _))
  have R_a_15 := Lib.hid (row_below R_a_14.out b15 (Nat.le_refl _))
  have R_b_15 := Lib.hid (row_below R_b_14.out b15 (Nat.le_refl _))
  have R_y_15 := Lib.hid (row_below R_y_14.out b15 (Nat.le_refl _))
  clear b15
  clear HNI HNS
  clear B1 R_f_1 R_g_1 B2 R_f_2 R_g_2 R_q_2 R_r_2 B3 R_f_3 R_g_3 R_q_3 R_r_3 R_m_3 R_n_3 B4 R_f_4 R_g_4 R_q_4 R_r_4 R_m_4 R_n_4 R_a_4 R_b_4 B5 R_f_5 R_g_5 R_q_5 R_r_5 R_m_5 R_n_5 R_a_5 R_b_5 R_y_5 B6 R_f_6 R_g_6 R_q_6 R_r_6 R_m_6 R_n_6 R_a_6 R_b_6 R_y_6 R_z_6 B7 R_f_7 R_g_7 R_q_7 R_r_7 R_m_7 R_n_7 R_a_7 R_b_7 R_y_7 R_z_7 R_h_7 B8 R_f_8 R_g_8 R_q_8 R_r_8 R_m_8 R_n_8 R_a_8 R_b_8 R_y_8 R_z_8 R_h_8 R_x_8 B9 R_f_9 R_g_9 R_q_9 R_r_9 R_m_9 R_n_9 R_a_9 R_b_9 R_y_9 R_z_9 R_h_9 R_x_9 R_xx_9 B10 R_f_10 R_g_10 R_q_10 R_r_10 R_m_10 R_n_10 R_a_10 R_b_10 R_y_10 R_z_10 R_x_10 R_xx_10 B11 R_f_11 R_g_11 R_q_11 R_r_11 R_n_11 R_a_11 R_b_11 R_y_11 R_z_11 R_x_11 R_xx_11 B12 R_f_12 R_g_12 R_q_12 R_r_12 R_a_12 R_b_12 R_y_12 R_z_12 R_x_12 R_xx_12 B13 R_f_13 R_g_13 R_q_13 R_r_13 R_a_13 R_b_13 R_y_13 R_x_13 R_xx_13 B14 R_f_14 R_g_14 R_q_14 R_r_14 R_a_14 R_b_14 R_y_14
  by_cases hk1 : k1 = 0
  · obtain ⟨e1, e2⟩ := HW.out hk1
    subst hk1
    clear HW
    have HX := Lib.hid fun (w : World) (bb bb' : Nat) (hy1 : IntRow bb w (.slice o_b b.length c_b) b) (hy2 : IntRow bb' w (.slice o_a a.length c_a) a) => implMulM_any U (row_seen hy1 (show b.length ≤ 1100000 by omega)) (row_seen hy2 (show a.length ≤ 1100000 by omega))
    rw [e1, e2] at HX
    clear e1 e2
    go_wp2_with fail
    refine (HX.out _ _ _ R_b_15.out R_a_15.out).mono ?_
    rintro e W16 ⟨v16, rfl, r16, b16⟩
    obtain ⟨o_bk, c_bk, rfl⟩ := row_slice r16
    have B16 := Lib.hid (B15.out.trans (b16.mono B15.out.size))
    have R_f_16 := Lib.hid (row_below R_f_15.out b16 (Nat.le_refl _))
    have R_g_16 := Lib.hid (row_below R_g_15.out b16 (Nat.le_refl _))
    have R_q_16 := Lib.hid (row_below R_q_15.out b16 (Nat.le_refl _))
    have R_r_16 := Lib.hid (row_below R_r_15.out b16 (Nat.le_refl _))
    have R_a_16 := Lib.hid (row_below R_a_15.out b16 (Nat.le_refl _))
    have R_b_16 := Lib.hid (row_below R_b_15.out b16 (Nat.le_refl _))
    have R_y_16 := Lib.hid (row_below R_y_15.out b16 (Nat.le_refl _))
    have R_bk_16 := Lib.hid r16
    clear r16 b16
    clear HX
    go_wp2_with fail
    refine (likeInts_same R_bk_16.out R_y_16.out (by omega)).mono ?_
    rintro e W17 ⟨rfl, nd, hw⟩
    have b17 : Below W16.heap.size W16 W17 := by rw [hw]; exact below_drewN (Below.refl _ _) nd
    clear hw nd
    have B17 := Lib.hid (B16.out.trans (b17.mono B16.out.size))
    have R_f_17 := Lib.hid (row_below R_f_16.out b17 (Nat.le_refl _))
    have R_g_17 := Lib.hid (row_below R_g_16.out b17 (Nat.le_refl _))
    have R_q_17 := Lib.hid (row_below R_q_16.out b17 (Nat.le_refl _))
    have R_r_17 := Lib.hid (row_below R_r_16.out b17 (Nat.le_refl _))
    have R_a_17 := Lib.hid (row_below R_a_16.out b17 (Nat.le_refl _))
    have R_b_17 := Lib.hid (row_below R_b_16.out b17 (Nat.le_refl _))
    have R_y_17 := Lib.hid (row_below R_y_16.out b17 (Nat.le_refl _))
    have R_bk_17 := Lib.hid (row_below R_bk_16.out b17 (Nat.le_refl _))
    clear b17
    by_cases h1 : k = 0
    · obtain ⟨e1, e2, e3, ⟨p2, p97⟩, e5, e6⟩ := HV.out h1
      subst h1
      clear HV
      have e3I : (r.length : Int) < (g.length : Int) := by omega
      have HS := Lib.hid fun (w : World) (bb bb' : Nat) (hy1 : IntRow bb w (.slice o_g g.length c_g) g) (hy2 : IntRow bb' w (.slice o_q q.length c_q) q) => implMulM_any P (row_seen hy1 (show g.length ≤ 1100000 by omega)) (row_seen hy2 (show q.length ≤ 1100000 by omega))
      rw [e1] at HS
      have hs100 := mmQ_len P g q
      generalize mmQ P g q = s at *
      clear e1
      go_wp2_with fail
      refine (HS.out _ _ _ R_g_17.out R_q_17.out).mono ?_
      rintro e W18 ⟨v18, rfl, r18, b18⟩
      obtain ⟨o_s, c_s, rfl⟩ := row_slice r18
      have B18 := Lib.hid (B17.out.trans (b18.mono B17.out.size))
      have R_f_18 := Lib.hid (row_below R_f_17.out b18 (Nat.le_refl _))
      have R_g_18 := Lib.hid (row_below R_g_17.out b18 (Nat.le_refl _))
      have R_q_18 := Lib.hid (row_below R_q_17.out b18 (Nat.le_refl _))
      have R_r_18 := Lib.hid (row_below R_r_17.out b18 (Nat.le_refl _))
      have R_s_18 := Lib.hid r18
      clear r18 b18
      clear HS
      obtain ⟨i0, hi, hz0, hz1, hz2⟩ := info_parts Try.infoInt64
      have HI := Lib.hid hi
      have HZ0 := Lib.hid hz0
      have HZ1 := Lib.hid hz1
      have HZ2 := Lib.hid hz2
      clear hi hz0 hz1 hz2
      obtain ⟨L, hL⟩ : ∃ L, max s.length r.length = L := ⟨_, rfl⟩
      rw [hL] at e2
      have hLs : s.length ≤ L := by omega
      have hLr : r.length ≤ L := by omega
      have hL100 : L ≤ 100 := by omega
      have hmax : max (s.length : Int) (r.length : Int) = (L : Int) := by omega
      have HE := Lib.hid e2
      have HSB := Lib.hid e5
      have HRB := Lib.hid e6
      clear e2 e5 e6 hL
      have hP0 : (P == 0) = false := by simp; omega
      have HT0 := Lib.hid (intRow_made W18)
      have HTB := Lib.hid (below_one W18 (.cells #[] 2))
      go_wp2_with fail
      go_loopw [29, 30] (fun t i wr => ∃ (k : Nat) (l : List Int), k ≤ L ∧ i = .int .i64 k ∧ l = tabL k (fun i => (s.getD i 0 + r.getD i 0) % P) ∧ IntRow W18.heap.size wr t l ∧ Below W18.heap.size W18 wr) (fun _ i _ => L - (intOf i).toNat)
      case atStart => exact ⟨0, [], Nat.zero_le _, rfl, rfl, HT0.out, HTB.out⟩
      case round =>
        clear HT0 HTB
        obtain ⟨k, l, hk, rfl, hlk, rowg, hbg⟩ := hrel
        have hl : l.length = k := by rw [hlk, tabL_length]
        have HLK := Lib.hid hlk
        obtain ⟨o5, c5, hv⟩ := row_slice rowg
        subst hv
        have RS := Lib.hid (row_below R_s_18.out hbg (Nat.le_refl _))
        have RR := Lib.hid (row_below R_r_18.out hbg (Nat.le_refl _))
        have hb5 := hbg.size
        clear hlk
        by_cases hlt : k < L
        · have hltI : (k : Int) < (L : Int) := by omega
          obtain ⟨x, hx, x0, x1⟩ : ∃ x, s.getD k 0 = x ∧ 0 ≤ x ∧ x ≤ 97 := ⟨_, rfl, HSB.out k⟩
          obtain ⟨y, hy, y0, y1⟩ : ∃ y, r.getD k 0 = y ∧ 0 ≤ y ∧ y ≤ 97 := ⟨_, rfl, HRB.out k⟩
          obtain ⟨z, hz⟩ : ∃ z, (x + y) % P = z := ⟨_, rfl⟩
          have htm : (x + y).tmod P = z := by rw [tmod_pos (by omega), hz]
          have hz97 : 0 ≤ z ∧ z < P := by rw [← hz]; exact ⟨Int.emod_nonneg _ (by omega), Int.emod_lt_of_pos _ (by omega)⟩
          have hwz : IntKind.i64.wrap z = z := IntWalk.i64_in _ (by omega)
          have hwn : IntKind.i64.wrap (x + y) = x + y := IntWalk.i64_in _ (by omega)
          have HST := Lib.hid (show l ++ [z] = tabL (k + 1) (fun i => (s.getD i 0 + r.getD i 0) % P) by rw [HLK.out, tabL_succ]; simp only [hx, hy, hz])
          clear HLK hz
          by_cases hs : k < s.length
          · by_cases hr : k < r.length
            · have hsI : (k : Int) < (s.length : Int) := by omega
              rcases row_shape RS.out with ⟨hz9, _⟩ | ⟨_, gs, cs, hgs, _, _⟩
              · omega
              · injection hgs with g1 _ g2
                subst g1 g2
                have c0 := int_cells RS.out k hs
                rw [hx] at c0
                have hrI : (k : Int) < (r.length : Int) := by omega
                rcases row_shape RR.out with ⟨hz9, _⟩ | ⟨_, gr, cr, hgr, _, _⟩
                · omega
                · injection hgr with g3 _ g4
                  subst g3 g4
                  have c1 := int_cells RR.out k hr
                  rw [hy] at c1
                  go_wp2_with (at_builtin; refine wpList_append_own _ rfl (.tmp 193) (.tmp 197) 24 rfl W18.heap.size 2 i0 (.int .i64 0) 1 8 Try.underlying24 HI.out HZ0.out HZ1.out HZ2.out rfl (by decide) _ _ _ rfl (rowg.alloc _) ⟨wr.heap.size, 0, none⟩ 1 1 [.int .i64 z] rfl rfl ?c1 ?c2 ?c3 ?c4 ?c5 ?_)
                  case c2 => first | exact one_one _ | rfl
                  case c3 => unfold maxLen; omega
                  case c4 => omega
                  case c5 => first | omega | (simp; omega)
                  intro v' w7 hown hgrow _
                  obtain ⟨oo, cc, hvv⟩ := row_slice hown
                  subst hvv
                  have HR4 : Hid (IntRow W18.heap.size w7 (.slice oo (k + 1) cc) (l ++ [z])) := Lib.hid (by have h9 := hown; unfold IntRow; rw [List.map_append, List.length_append, hl]; exact h9)
                  have HB4 := Lib.hid ((hbg.alloc hb5 (.cells #[.int .i64 z] 2)).grown hgrow (by simp; omega) (fun kk hkk => (World.ownsRow.lt (show IntRow W18.heap.size wr (.slice o5 k c5) l by rw [← hl]; exact rowg) kk hkk).1))
                  clear hown hgrow rowg
                  go_wp2_with fail
                  exact ⟨⟨k + 1, l ++ [z], by omega, by go_num, HST.out, HR4.out, HB4.out⟩, by simp only [intOf]; omega⟩
            · have hsI : (k : Int) < (s.length : Int) := by omega
              rcases row_shape RS.out with ⟨hz9, _⟩ | ⟨_, gs, cs, hgs, _, _⟩
              · omega
              · injection hgs with g1 _ g2
                subst g1 g2
                have c0 := int_cells RS.out k hs
                rw [hx] at c0
                have hrI : ¬ (k : Int) < (r.length : Int) := by omega
                have hy0 : y = 0 := by rw [← hy, getD_out (by omega)]
                subst hy0
                rw [Int.add_zero] at htm hwn
                go_wp2_with (at_builtin; refine wpList_append_own _ rfl (.tmp 193) (.tmp 197) 24 rfl W18.heap.size 2 i0 (.int .i64 0) 1 8 Try.underlying24 HI.out HZ0.out HZ1.out HZ2.out rfl (by decide) _ _ _ rfl (rowg.alloc _) ⟨wr.heap.size, 0, none⟩ 1 1 [.int .i64 z] rfl rfl ?c1 ?c2 ?c3 ?c4 ?c5 ?_)
                case c2 => first | exact one_one _ | rfl
                case c3 => unfold maxLen; omega
                case c4 => omega
                case c5 => first | omega | (simp; omega)
                intro v' w7 hown hgrow _
                obtain ⟨oo, cc, hvv⟩ := row_slice hown
                subst hvv
                have HR4 : Hid (IntRow W18.heap.size w7 (.slice oo (k + 1) cc) (l ++ [z])) := Lib.hid (by have h9 := hown; unfold IntRow; rw [List.map_append, List.length_append, hl]; exact h9)
                have HB4 := Lib.hid ((hbg.alloc hb5 (.cells #[.int .i64 z] 2)).grown hgrow (by simp; omega) (fun kk hkk => (World.ownsRow.lt (show IntRow W18.heap.size wr (.slice o5 k c5) l by rw [← hl]; exact rowg) kk hkk).1))
                clear hown hgrow rowg
                go_wp2_with fail
                exact ⟨⟨k + 1, l ++ [z], by omega, by go_num, HST.out, HR4.out, HB4.out⟩, by simp only [intOf]; omega⟩
          · by_cases hr : k < r.length
            · have hsI : ¬ (k : Int) < (s.length : Int) := by omega
              have hx0 : x = 0 := by rw [← hx, getD_out (by omega)]
              subst hx0
              have hrI : (k : Int) < (r.length : Int) := by omega
              rcases row_shape RR.out with ⟨hz9, _⟩ | ⟨_, gr, cr, hgr, _, _⟩
              · omega
              · injection hgr with g3 _ g4
                subst g3 g4
                have c1 := int_cells RR.out k hr
                rw [hy] at c1
                rw [Int.zero_add] at htm
                have hwn2 : IntKind.i64.wrap (0 + y) = y := by rw [Int.zero_add]; exact IntWalk.i64_in _ (by omega)
                go_wp2_with (at_builtin; refine wpList_append_own _ rfl (.tmp 193) (.tmp 197) 24 rfl W18.heap.size 2 i0 (.int .i64 0) 1 8 Try.underlying24 HI.out HZ0.out HZ1.out HZ2.out rfl (by decide) _ _ _ rfl (rowg.alloc _) ⟨wr.heap.size, 0, none⟩ 1 1 [.int .i64 z] rfl rfl ?c1 ?c2 ?c3 ?c4 ?c5 ?_)
                case c2 => first | exact one_one _ | rfl
                case c3 => unfold maxLen; omega
                case c4 => omega
                case c5 => first | omega | (simp; omega)
                intro v' w7 hown hgrow _
                obtain ⟨oo, cc, hvv⟩ := row_slice hown
                subst hvv
                have HR4 : Hid (IntRow W18.heap.size w7 (.slice oo (k + 1) cc) (l ++ [z])) := Lib.hid (by have h9 := hown; unfold IntRow; rw [List.map_append, List.length_append, hl]; exact h9)
                have HB4 := Lib.hid ((hbg.alloc hb5 (.cells #[.int .i64 z] 2)).grown hgrow (by simp; omega) (fun kk hkk => (World.ownsRow.lt (show IntRow W18.heap.size wr (.slice o5 k c5) l by rw [← hl]; exact rowg) kk hkk).1))
                clear hown hgrow rowg
                go_wp2_with fail
                exact ⟨⟨k + 1, l ++ [z], by omega, by go_num, HST.out, HR4.out, HB4.out⟩, by simp only [intOf]; omega⟩
            · exfalso
              omega
        · have hltI : ¬ (k : Int) < (L : Int) := by omega
          have hkL : k = L := by omega
          subst hkL
          have HE' := Lib.hid (show trimL l = f by rw [HLK.out]; exact HE.out)
          have HRG := Lib.hid rowg
          have HBG := Lib.hid hbg
          have RF := Lib.hid (row_below R_f_18.out hbg (Nat.le_refl _))
          have HBT := Lib.hid (B18.out.trans (hbg.mono B18.out.size))
          clear rowg hbg HLK HE RS RR
          have hl1 : l.length = k := hl
          go_wp2_with fail
          go_loop [29] (fun t => ∃ n : Nat, n ≤ k ∧ t = .slice o5 n c5 ∧ trimL (l.take n) = trimL l) (fun t => lenV t)
          case atStart => exact ⟨k, Nat.le_refl _, rfl, by rw [List.take_of_length_le (by omega)]⟩
          case round =>
            obtain ⟨n, hn, rfl, ht⟩ := hrel
            have HT := Lib.hid ht
            clear ht
            have RC := Lib.hid (row_cut HRG.out (show n ≤ l.length by omega))
            by_cases h0 : n = 0
            · subst h0
              have hfe : l.take 0 = f := by rw [← HE'.out, ← HT.out, trim_end (.inl (by simp))]
              rw [hfe] at RC
              have hfl : f.length ≤ 1100000 := by rw [← hfe, List.length_take]; omega
              clear hfe HT HE' HRG
              go_wp2_with fail
              refine (likeInts_same RC.out RF.out hfl).mono ?_
              rintro e w9 ⟨rfl, nd, hw⟩
              have HBE : Hid (Below w.heap.size w w9) := by rw [hw]; exact below_drewN HBT.out nd
              clear hw nd
              go_wp2_with fail
              go_ret
              exact ⟨rfl, HBE.out⟩
            · obtain ⟨m, hm⟩ : ∃ m, n = m + 1 := ⟨n - 1, by omega⟩
              rcases row_shape HRG.out with ⟨hz9, _⟩ | ⟨_, gt, ct, hgt, _, _⟩
              · omega
              · injection hgt with g1 _ g2
                subst g1 g2
                have c0 := int_at HRG.out (by first | exact hl | rfl) (k := m) (by omega)
                have hkc := (row_seen HRG.out (by omega)).2.2.2.1
                obtain ⟨x, hx⟩ : ∃ x, l.getD m 0 = x := ⟨_, rfl⟩
                rw [hx] at c0
                have hm1 : IntKind.i64.wrap ((n : Int) - 1) = (m : Int) := by rw [show (n : Int) - 1 = (m : Int) by omega]; exact IntWalk.i64_in _ (by omega)
                have hmp : (0 : Int) < (n : Int) := by omega
                have hm0 : (0 : Int) ≤ (m : Int) := by omega
                have hml : (m : Int) < (n : Int) := by omega
                have hmc : (m : Int) ≤ (c5 : Int) := by omega
                have HMN := Lib.hid hm
                by_cases hx0 : x = 0
                · have HT2 := Lib.hid (take_trim (n := m) (by omega) (hx.trans hx0) (by rw [← hm]; exact HT.out))
                  have hx' : (x == 0) = true := by simp [hx0]
                  clear hx0 hm hkc HT RC HE' RF HRG hx
                  go_wp2_with fail
                  exact ⟨⟨m, by have := HMN.out; omega, by first | rfl | go_num, HT2.out⟩, by have := HMN.out; simp [lenV]; omega⟩
                · have hx' : (x == 0) = false := by simpa using hx0
                  have hle : (l.take n).length = n := by rw [List.length_take]; omega
                  have hfe : l.take n = f := by rw [← HE'.out, ← HT.out, trim_end (.inr (by rw [hle]; simp only [List.getD, List.getElem?_take, if_pos (show n - 1 < n by omega)]; rw [show n - 1 = m by omega]; simpa [List.getD] using (show l.getD m 0 ≠ 0 by rw [hx]; exact hx0)))]
                  rw [hfe] at RC
                  have hfl : f.length ≤ 1100000 := by rw [← hfe, List.length_take]; omega
                  clear hm hx0 hx hfe HT HE' HRG hkc
                  go_wp2_with fail
                  refine (likeInts_same RC.out RF.out hfl).mono ?_
                  rintro e w9 ⟨rfl, nd, hw⟩
                  have HBE : Hid (Below w.heap.size w w9) := by rw [hw]; exact below_drewN HBT.out nd
                  clear hw nd
                  go_wp2_with fail
                  go_ret
                  exact ⟨rfl, HBE.out⟩
    · have h1' : (k != 0) = true := by simpa using h1
      clear h1 HV
      have HBE := Lib.hid B17.out
      go_wp2_with fail
      go_ret
      exact ⟨rfl, HBE.out⟩
  · have hk1' : (k1 == 0) = false := by simpa using hk1
    clear hk1 HW
    by_cases h1 : k = 0
    · obtain ⟨e1, e2, e3, ⟨p2, p97⟩, e5, e6⟩ := HV.out h1
      subst h1
      clear HV
      have e3I : (r.length : Int) < (g.length : Int) := by omega
      have HS := Lib.hid fun (w : World) (bb bb' : Nat) (hy1 : IntRow bb w (.slice o_g g.length c_g) g) (hy2 : IntRow bb' w (.slice o_q q.length c_q) q) => implMulM_any P (row_seen hy1 (show g.length ≤ 1100000 by omega)) (row_seen hy2 (show q.length ≤ 1100000 by omega))
      rw [e1] at HS
      have hs100 := mmQ_len P g q
      generalize mmQ P g q = s at *
      clear e1
      go_wp2_with fail
      refine (HS.out _ _ _ R_g_15.out R_q_15.out).mono ?_
      rintro e W19 ⟨v19, rfl, r19, b19⟩
      obtain ⟨o_s, c_s, rfl⟩ := row_slice r19
      have B19 := Lib.hid (B15.out.trans (b19.mono B15.out.size))
      have R_f_19 := Lib.hid (row_below R_f_15.out b19 (Nat.le_refl _))
      have R_g_19 := Lib.hid (row_below R_g_15.out b19 (Nat.le_refl _))
      have R_q_19 := Lib.hid (row_below R_q_15.out b19 (Nat.le_refl _))
      have R_r_19 := Lib.hid (row_below R_r_15.out b19 (Nat.le_refl _))
      have R_s_19 := Lib.hid r19
      clear r19 b19
      clear HS
      obtain ⟨i0, hi, hz0, hz1, hz2⟩ := info_parts Try.infoInt64
      have HI := Lib.hid hi
      have HZ0 := Lib.hid hz0
      have HZ1 := Lib.hid hz1
      have HZ2 := Lib.hid hz2
      clear hi hz0 hz1 hz2
      obtain ⟨L, hL⟩ : ∃ L, max s.length r.length = L := ⟨_, rfl⟩
      rw [hL] at e2
      have hLs : s.length ≤ L := by omega
      have hLr : r.length ≤ L := by omega
      have hL100 : L ≤ 100 := by omega
      have hmax : max (s.length : Int) (r.length : Int) = (L : Int) := by omega
      have HE := Lib.hid e2
      have HSB := Lib.hid e5
      have HRB := Lib.hid e6
      clear e2 e5 e6 hL
      have hP0 : (P == 0) = false := by simp; omega
      have HT0 := Lib.hid (intRow_made W19)
      have HTB := Lib.hid (below_one W19 (.cells #[] 2))
      go_wp2_with fail
      go_loopw [29, 30] (fun t i wr => ∃ (k : Nat) (l : List Int), k ≤ L ∧ i = .int .i64 k ∧ l = tabL k (fun i => (s.getD i 0 + r.getD i 0) % P) ∧ IntRow W19.heap.size wr t l ∧ Below W19.heap.size W19 wr) (fun _ i _ => L - (intOf i).toNat)
      case atStart => exact ⟨0, [], Nat.zero_le _, rfl, rfl, HT0.out, HTB.out⟩
      case round =>
        clear HT0 HTB
        obtain ⟨k, l, hk, rfl, hlk, rowg, hbg⟩ := hrel
        have hl : l.length = k := by rw [hlk, tabL_length]
        have HLK := Lib.hid hlk
        obtain ⟨o5, c5, hv⟩ := row_slice rowg
        subst hv
        have RS := Lib.hid (row_below R_s_19.out hbg (Nat.le_refl _))
        have RR := Lib.hid (row_below R_r_19.out hbg (Nat.le_refl _))
        have hb5 := hbg.size
        clear hlk
        by_cases hlt : k < L
        · have hltI : (k : Int) < (L : Int) := by omega
          obtain ⟨x, hx, x0, x1⟩ : ∃ x, s.getD k 0 = x ∧ 0 ≤ x ∧ x ≤ 97 := ⟨_, rfl, HSB.out k⟩
          obtain ⟨y, hy, y0, y1⟩ : ∃ y, r.getD k 0 = y ∧ 0 ≤ y ∧ y ≤ 97 := ⟨_, rfl, HRB.out k⟩
          obtain ⟨z, hz⟩ : ∃ z, (x + y) % P = z := ⟨_, rfl⟩
          have htm : (x + y).tmod P = z := by rw [tmod_pos (by omega), hz]
          have hz97 : 0 ≤ z ∧ z < P := by rw [← hz]; exact ⟨Int.emod_nonneg _ (by omega), Int.emod_lt_of_pos _ (by omega)⟩
          have hwz : IntKind.i64.wrap z = z := IntWalk.i64_in _ (by omega)
          have hwn : IntKind.i64.wrap (x + y) = x + y := IntWalk.i64_in _ (by omega)
          have HST := Lib.hid (show l ++ [z] = tabL (k + 1) (fun i => (s.getD i 0 + r.getD i 0) % P) by rw [HLK.out, tabL_succ]; simp only [hx, hy, hz])
          clear HLK hz
          by_cases hs : k < s.length
          · by_cases hr : k < r.length
            · have hsI : (k : Int) < (s.length : Int) := by omega
              rcases row_shape RS.out with ⟨hz9, _⟩ | ⟨_, gs, cs, hgs, _, _⟩
              · omega
              · injection hgs with g1 _ g2
                subst g1 g2
                have c0 := int_cells RS.out k hs
                rw [hx] at c0
                have hrI : (k : Int) < (r.length : Int) := by omega
                rcases row_shape RR.out with ⟨hz9, _⟩ | ⟨_, gr, cr, hgr, _, _⟩
                · omega
                · injection hgr with g3 _ g4
                  subst g3 g4
                  have c1 := int_cells RR.out k hr
                  rw [hy] at c1
                  go_wp2_with (at_builtin; refine wpList_append_own _ rfl (.tmp 193) (.tmp 197) 24 rfl W19.heap.size 2 i0 (.int .i64 0) 1 8 Try.underlying24 HI.out HZ0.out HZ1.out HZ2.out rfl (by decide) _ _ _ rfl (rowg.alloc _) ⟨wr.heap.size, 0, none⟩ 1 1 [.int .i64 z] rfl rfl ?d1 ?d2 ?d3 ?d4 ?d5 ?_)
                  case d2 => first | exact one_one _ | rfl
                  case d3 => unfold maxLen; omega
                  case d4 => omega
                  case d5 => first | omega | (simp; omega)
                  intro v' w7 hown hgrow _
                  obtain ⟨oo, cc, hvv⟩ := row_slice hown
                  subst hvv
                  have HR4 : Hid (IntRow W19.heap.size w7 (.slice oo (k + 1) cc) (l ++ [z])) := Lib.hid (by have h9 := hown; unfold IntRow; rw [List.map_append, List.length_append, hl]; exact h9)
                  have HB4 := Lib.hid ((hbg.alloc hb5 (.cells #[.int .i64 z] 2)).grown hgrow (by simp; omega) (fun kk hkk => (World.ownsRow.lt (show IntRow W19.heap.size wr (.slice o5 k c5) l by rw [← hl]; exact rowg) kk hkk).1))
                  clear hown hgrow rowg
                  go_wp2_with fail
                  exact ⟨⟨k + 1, l ++ [z], by omega, by go_num, HST.out, HR4.out, HB4.out⟩, by simp only [intOf]; omega⟩
            · have hsI : (k : Int) < (s.length : Int) := by omega
              rcases row_shape RS.out with ⟨hz9, _⟩ | ⟨_, gs, cs, hgs, _, _⟩
              · omega
              · injection hgs with g1 _ g2
                subst g1 g2
                have c0 := int_cells RS.out k hs
                rw [hx] at c0
                have hrI : ¬ (k : Int) < (r.length : Int) := by omega
                have hy0 : y = 0 := by rw [← hy, getD_out (by omega)]
                subst hy0
                rw [Int.add_zero] at htm hwn
                go_wp2_with (at_builtin; refine wpList_append_own _ rfl (.tmp 193) (.tmp 197) 24 rfl W19.heap.size 2 i0 (.int .i64 0) 1 8 Try.underlying24 HI.out HZ0.out HZ1.out HZ2.out rfl (by decide) _ _ _ rfl (rowg.alloc _) ⟨wr.heap.size, 0, none⟩ 1 1 [.int .i64 z] rfl rfl ?d1 ?d2 ?d3 ?d4 ?d5 ?_)
                case d2 => first | exact one_one _ | rfl
                case d3 => unfold maxLen; omega
                case d4 => omega
                case d5 => first | omega | (simp; omega)
                intro v' w7 hown hgrow _
                obtain ⟨oo, cc, hvv⟩ := row_slice hown
                subst hvv
                have HR4 : Hid (IntRow W19.heap.size w7 (.slice oo (k + 1) cc) (l ++ [z])) := Lib.hid (by have h9 := hown; unfold IntRow; rw [List.map_append, List.length_append, hl]; exact h9)
                have HB4 := Lib.hid ((hbg.alloc hb5 (.cells #[.int .i64 z] 2)).grown hgrow (by simp; omega) (fun kk hkk => (World.ownsRow.lt (show IntRow W19.heap.size wr (.slice o5 k c5) l by rw [← hl]; exact rowg) kk hkk).1))
                clear hown hgrow rowg
                go_wp2_with fail
                exact ⟨⟨k + 1, l ++ [z], by omega, by go_num, HST.out, HR4.out, HB4.out⟩, by simp only [intOf]; omega⟩
          · by_cases hr : k < r.length
            · have hsI : ¬ (k : Int) < (s.length : Int) := by omega
              have hx0 : x = 0 := by rw [← hx, getD_out (by omega)]
              subst hx0
              have hrI : (k : Int) < (r.length : Int) := by omega
              rcases row_shape RR.out with ⟨hz9, _⟩ | ⟨_, gr, cr, hgr, _, _⟩
              · omega
              · injection hgr with g3 _ g4
                subst g3 g4
                have c1 := int_cells RR.out k hr
                rw [hy] at c1
                rw [Int.zero_add] at htm
                have hwn2 : IntKind.i64.wrap (0 + y) = y := by rw [Int.zero_add]; exact IntWalk.i64_in _ (by omega)
                go_wp2_with (at_builtin; refine wpList_append_own _ rfl (.tmp 193) (.tmp 197) 24 rfl W19.heap.size 2 i0 (.int .i64 0) 1 8 Try.underlying24 HI.out HZ0.out HZ1.out HZ2.out rfl (by decide) _ _ _ rfl (rowg.alloc _) ⟨wr.heap.size, 0, none⟩ 1 1 [.int .i64 z] rfl rfl ?d1 ?d2 ?d3 ?d4 ?d5 ?_)
                case d2 => first | exact one_one _ | rfl
                case d3 => unfold maxLen; omega
                case d4 => omega
                case d5 => first | omega | (simp; omega)
                intro v' w7 hown hgrow _
                obtain ⟨oo, cc, hvv⟩ := row_slice hown
                subst hvv
                have HR4 : Hid (IntRow W19.heap.size w7 (.slice oo (k + 1) cc) (l ++ [z])) := Lib.hid (by have h9 := hown; unfold IntRow; rw [List.map_append, List.length_append, hl]; exact h9)
                have HB4 := Lib.hid ((hbg.alloc hb5 (.cells #[.int .i64 z] 2)).grown hgrow (by simp; omega) (fun kk hkk => (World.ownsRow.lt (show IntRow W19.heap.size wr (.slice o5 k c5) l by rw [← hl]; exact rowg) kk hkk).1))
                clear hown hgrow rowg
                go_wp2_with fail
                exact ⟨⟨k + 1, l ++ [z], by omega, by go_num, HST.out, HR4.out, HB4.out⟩, by simp only [intOf]; omega⟩
            · exfalso
              omega
        · have hltI : ¬ (k : Int) < (L : Int) := by omega
          have hkL : k = L := by omega
          subst hkL
          have HE' := Lib.hid (show trimL l = f by rw [HLK.out]; exact HE.out)
          have HRG := Lib.hid rowg
          have HBG := Lib.hid hbg
          have RF := Lib.hid (row_below R_f_19.out hbg (Nat.le_refl _))
          have HBT := Lib.hid (B19.out.trans (hbg.mono B19.out.size))
          clear rowg hbg HLK HE RS RR
          have hl1 : l.length = k := hl
          go_wp2_with fail
          go_loop [29] (fun t => ∃ n : Nat, n ≤ k ∧ t = .slice o5 n c5 ∧ trimL (l.take n) = trimL l) (fun t => lenV t)
          case atStart => exact ⟨k, Nat.le_refl _, rfl, by rw [List.take_of_length_le (by omega)]⟩
          case round =>
            obtain ⟨n, hn, rfl, ht⟩ := hrel
            have HT := Lib.hid ht
            clear ht
            have RC := Lib.hid (row_cut HRG.out (show n ≤ l.length by omega))
            by_cases h0 : n = 0
            · subst h0
              have hfe : l.take 0 = f := by rw [← HE'.out, ← HT.out, trim_end (.inl (by simp))]
              rw [hfe] at RC
              have hfl : f.length ≤ 1100000 := by rw [← hfe, List.length_take]; omega
              clear hfe HT HE' HRG
              go_wp2_with fail
              refine (likeInts_same RC.out RF.out hfl).mono ?_
              rintro e w9 ⟨rfl, nd, hw⟩
              have HBE : Hid (Below w.heap.size w w9) := by rw [hw]; exact below_drewN HBT.out nd
              clear hw nd
              go_wp2_with fail
              go_ret
              exact ⟨rfl, HBE.out⟩
            · obtain ⟨m, hm⟩ : ∃ m, n = m + 1 := ⟨n - 1, by omega⟩
              rcases row_shape HRG.out with ⟨hz9, _⟩ | ⟨_, gt, ct, hgt, _, _⟩
              · omega
              · injection hgt with g1 _ g2
                subst g1 g2
                have c0 := int_at HRG.out (by first | exact hl | rfl) (k := m) (by omega)
                have hkc := (row_seen HRG.out (by omega)).2.2.2.1
                obtain ⟨x, hx⟩ : ∃ x, l.getD m 0 = x := ⟨_, rfl⟩
                rw [hx] at c0
                have hm1 : IntKind.i64.wrap ((n : Int) - 1) = (m : Int) := by rw [show (n : Int) - 1 = (m : Int) by omega]; exact IntWalk.i64_in _ (by omega)
                have hmp : (0 : Int) < (n : Int) := by omega
                have hm0 : (0 : Int) ≤ (m : Int) := by omega
                have hml : (m : Int) < (n : Int) := by omega
                have hmc : (m : Int) ≤ (c5 : Int) := by omega
                have HMN := Lib.hid hm
                by_cases hx0 : x = 0
                · have HT2 := Lib.hid (take_trim (n := m) (by omega) (hx.trans hx0) (by rw [← hm]; exact HT.out))
                  have hx' : (x == 0) = true := by simp [hx0]
                  clear hx0 hm hkc HT RC HE' RF HRG hx
                  go_wp2_with fail
                  exact ⟨⟨m, by have := HMN.out; omega, by first | rfl | go_num, HT2.out⟩, by have := HMN.out; simp [lenV]; omega⟩
                · have hx' : (x == 0) = false := by simpa using hx0
                  have hle : (l.take n).length = n := by rw [List.length_take]; omega
                  have hfe : l.take n = f := by rw [← HE'.out, ← HT.out, trim_end (.inr (by rw [hle]; simp only [List.getD, List.getElem?_take, if_pos (show n - 1 < n by omega)]; rw [show n - 1 = m by omega]; simpa [List.getD] using (show l.getD m 0 ≠ 0 by rw [hx]; exact hx0)))]
                  rw [hfe] at RC
                  have hfl : f.length ≤ 1100000 := by rw [← hfe, List.length_take]; omega
                  clear hm hx0 hx hfe HT HE' HRG hkc
                  go_wp2_with fail
                  refine (likeInts_same RC.out RF.out hfl).mono ?_
                  rintro e w9 ⟨rfl, nd, hw⟩
                  have HBE : Hid (Below w.heap.size w w9) := by rw [hw]; exact below_drewN HBT.out nd
                  clear hw nd
                  go_wp2_with fail
                  go_ret
                  exact ⟨rfl, HBE.out⟩
    · have h1' : (k != 0) = true := by simpa using h1
      clear h1 HV
      have HBE := Lib.hid B15.out
      go_wp2_with fail
      go_ret
      exact ⟨rfl, HBE.out⟩
set_option maxRecDepth 100000 in
theorem modquos_walk (a : Option Addr) (len cap : Nat) (zs : List Int) (w : World) (h : IsRowOf .u8 w a len cap zs) :
    Calls Try.prog 3 #[.slice a len cap] w fun e w' => e = .returned (.bool true) ∧ Below w.heap.size w w' := by
  obtain ⟨hc, hm⟩ := codeIn_of h
  by_cases hl : len ≤ 4096
  · exact modquos_core a len cap w hl hc
  · clear hc h
    go_enter Try.func3, Try.ntmps3
    go_wp2_with (go_at_call 15; refine (big_yes _ _ _ _ (by omega) (by omega)).mono ?_; rintro e w' ⟨rfl, rfl⟩)
    go_ret
    exact ⟨rfl, Below.refl _ _⟩
end Go.Proofs.Ytgnjhdkkjijiaaa
