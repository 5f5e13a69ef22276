/- The walk of the law FnPadicDigits: true for every code; below the old memory nothing has turned. (joined of several texts) -/
import Derived.Test.YtejgcamogjgdkaaDraw
import Derived.StillTailTactics
import Derived.Deep.AppendLies
import Derived.Test.YtejgcamogjgdkaaBez
import Derived.OpenShut
import Derived.Test.YtejgcamogjgdkaaRingLaw
import Derived.Test.YtejgcamogjgdkaaPadSpec2
import Derived.Test.YtejgcamogjgdkaaPadExp3
import Derived.Test.YtejgcamogjgdkaaPadSpec3
import Derived.Deep.DeepCutAuto
import Derived.Test.YtejgcamogjgdkaaDigSpec3
import Derived.Test.YtejgcamogjgdkaaDigLaw2
import Derived.Test.YtejgcamogjgdkaaPadFacts
namespace Go.Proofs.Ytejgcamogjgdkaa
open Go.RowKit
set_option linter.unusedVariables false
theorem next_small (n : Int) (v : Value) (w : World) (h : n ≤ 1) :
    Calls Try.prog 42 #[v, .int .i64 n] w fun e w' => e = .returned (.int .i64 0) ∧ w = w' := by
  go_enter Try.func42, Try.ntmps42
  go_wp2
  go_ret
  exact ⟨rfl, rfl⟩
theorem nextPost_mk {n : Int} {o : Option Addr} {len cap p : Nat} {w w' : World} {x : Int} (h : 2 ≤ n) (hx : 0 ≤ x) (hs : Src w' o len cap p) (hg : w.grownBy w' (some p)) (hz : w'.heap.size = w.heap.size) {v : Value} (hv : v = .int .i64 (x % n)) :
    NextPost n o len cap p w (.returned v) w' :=
  ⟨x % n, by rw [hv], Int.emod_nonneg _ (by omega), .inl (Int.emod_lt_of_pos _ (by omega)), hs, hg, hz⟩
theorem src_end {w w1 w2 : World} {o : Option Addr} {len cap p k : Nat} {a : Addr} {v : Value} (e : w1.setCell a v = w2) (S : Src w2 o len cap p) (G : w.grownBy w2 (some p) ∧ w2.heap.size = w.heap.size) :
    Src ((w1.drewN k).setCell a v) o len cap p ∧ w.grownBy ((w1.drewN k).setCell a v) (some p) ∧ ((w1.drewN k).setCell a v).heap.size = w.heap.size := by
  subst e
  exact ⟨src_drewN S k, ⟨G.1.os, G.1.tape, G.1.output, G.1.size, G.1.block⟩, G.2⟩
theorem src_end2 {w w2 : World} {o : Option Addr} {len cap p k : Nat} (S : Src w2 o len cap p ∧ w.grownBy w2 (some p) ∧ w2.heap.size = w.heap.size) :
    Src (w2.drewN k) o len cap p ∧ w.grownBy (w2.drewN k) (some p) ∧ (w2.drewN k).heap.size = w.heap.size :=
  ⟨src_drewN S.1 k, ⟨S.2.1.os, S.2.1.tape, S.2.1.output, S.2.1.size, S.2.1.block⟩, S.2.2⟩
set_option maxHeartbeats 800000 in
theorem next_big (n : Int) (o : Option Addr) (len cap p t : Nat) (s : Int) (w : World) (h : 2 ≤ n) (hn : n ≤ 4611686018427387904) (hs : SrcAt w o len cap p t s) :
    Calls Try.prog 42 #[.pointer (some ⟨p, 0, none⟩), .int .i64 n] w (NextPost n o len cap p w) := by
  have s0 := hs.s0
  have s1 := hs.s1
  have ht := hs.ht
  have hl := hs.hl
  obtain ⟨q, hq⟩ : ∃ q, q = (s * 48271 + 29) % 2147483647 := ⟨_, rfl⟩
  have q0 : 0 ≤ q := by omega
  have q1 : q < 2147483647 := by omega
  obtain ⟨w1, hw1⟩ : ∃ w1, w1 = w.setCell ⟨p, 2, none⟩ (.int .i64 q) := ⟨_, rfl⟩
  have S1 : Hid (SrcAt w1 o len cap p t q) := by
    show SrcAt w1 o len cap p t q
    rw [hw1]; exact srcAt_seed hs q0 q1
  have G1 : Hid (w.grownBy w1 (some p) ∧ w1.heap.size = w.heap.size) := by
    show w.grownBy w1 (some p) ∧ w1.heap.size = w.heap.size
    rw [hw1]; exact ⟨grownBy_setCellAt _ _ _ _, by simp [World.setCell]⟩
  have a2 := hs.c2
  have az := hs.fz 2
  have b0 := S1.out.c0
  have b1 := S1.out.c1
  have b2 := S1.out.c2
  have bz := S1.out.fz 1
  clear hs
  have hq' := hq.symm
  clear hq
  have hw' := hw1.symm
  clear hw1
  by_cases htl : t < len
  · obtain ⟨b, off, rfl, hbp, hc⟩ : ∃ b off, o = some ⟨b, off, none⟩ ∧ b < p ∧ ∀ i, i < len → ∃ z : Int, w1.cell? ⟨b, off + i, none⟩ = some (.int .u8 z) ∧ 0 ≤ z ∧ z ≤ 255 := by
      rcases S1.out.code with h0 | h0
      · omega
      · exact h0
    obtain ⟨z, hz, z0, z1⟩ := hc t htl
    clear hc
    obtain ⟨w2, hw2⟩ : ∃ w2, w2 = w1.setCell ⟨p, 1, none⟩ (.int .i64 ((t : Int) + 1)) := ⟨_, rfl⟩
    have S2 : Hid (SrcAt w2 (some ⟨b, off, none⟩) len cap p (t + 1) q) := by
      show SrcAt w2 (some ⟨b, off, none⟩) len cap p (t + 1) q
      rw [hw2, show ((t : Int) + 1) = ((t + 1 : Nat) : Int) by omega]; exact srcAt_at S1.out (by omega)
    have G2 : Hid (w.grownBy w2 (some p) ∧ w2.heap.size = w.heap.size) := by
      show w.grownBy w2 (some p) ∧ w2.heap.size = w.heap.size
      rw [hw2]; exact ⟨grownBy_tr G1.out.1 (grownBy_setCellAt _ _ _ _), by simp [World.setCell, G1.out.2]⟩
    have d0 := S2.out.c0
    have d1 : w2.cell? ⟨p, 1, none⟩ = some (.int .i64 ((t : Int) + 1)) := S2.out.c1
    have dz : w2.cell? ⟨b, off + t, none⟩ = some (.int .u8 z) := by rw [hw2, set_other (.inl (by omega))]; exact hz
    have hw2' := hw2.symm
    clear hw2
    have n1 : decide (n ≤ 1) = false := by simp; omega
    by_cases h256 : n ≤ 256
    · by_cases hpar : ((t : Int) + 1) % 2 = 0
      · have hp' : (((t : Int) + 1) % 2 == 0) = true := by simp [hpar]
        go_enter Try.func42, Try.ntmps42
        go_wp2
        go_quiet (fail)
        go_wp2
        go_quiet (fail)
        go_wp2
        go_quiet (fail)
        go_wp2
        go_ret
        have E := fun k c => src_end2 (k := c) (src_end (k := k) hw2' ⟨_, _, S2.out⟩ G2.out)
        exact nextPost_mk (x := z) h z0 (E _ _).1 (E _ _).2.1 (E _ _).2.2 rfl
      · have hp' : (((t : Int) + 1) % 2 == 0) = false := by simp [hpar]
        go_enter Try.func42, Try.ntmps42
        go_wp2
        go_quiet (fail)
        go_wp2
        go_quiet (fail)
        go_wp2
        go_ret
        have E := fun k => src_end (k := k) hw2' ⟨_, _, S2.out⟩ G2.out
        exact nextPost_mk (x := q / 31 + z) h (by omega) (E _).1 (E _).2.1 (E _).2.2 rfl
    · go_enter Try.func42, Try.ntmps42
      go_wp2
      go_quiet (fail)
      go_wp2
      go_quiet (fail)
      go_wp2
      go_ret
      have E := fun k => src_end (k := k) hw2' ⟨_, _, S2.out⟩ G2.out
      exact nextPost_mk (x := q / 31 + z) h (by omega) (E _).1 (E _).2.1 (E _).2.2 rfl
  · have n1 : decide (n ≤ 1) = false := by simp; omega
    go_enter Try.func42, Try.ntmps42
    go_wp2
    go_quiet (fail)
    go_wp2
    go_ret
    have E := fun k => src_end2 (k := k) ⟨⟨_, _, S1.out⟩, G1.out.1, G1.out.2⟩
    exact nextPost_mk (x := q / 31) h (by omega) (E _).1 (E _).2.1 (E _).2.2 rfl
end Go.Proofs.Ytejgcamogjgdkaa
namespace Go.Proofs.Ytejgcamogjgdkaa
open Go.RowKit
set_option linter.unusedVariables false
theorem next_any (n : Int) (o : Option Addr) (len cap p : Nat) (w : World) (hn : n ≤ 4611686018427387904) (hs : Src w o len cap p) :
    Calls Try.prog 42 #[.pointer (some ⟨p, 0, none⟩), .int .i64 n] w (NextPost n o len cap p w) := by
  by_cases h : n ≤ 1
  · exact (next_small n _ w h).mono fun e w' ⟨he, hw⟩ => ⟨0, he, Int.le_refl _, .inr rfl, hw ▸ hs, hw ▸ World.grownBy.refl _ _, hw ▸ rfl⟩
  · obtain ⟨t, s, hs⟩ := hs
    exact next_big n o len cap p t s w (by omega) hn hs
/-- one of the numbers of a list -/
def PickPost (l : List Int) (o : Option Addr) (len cap p : Nat) (w : World) (e : Ending) (w' : World) : Prop :=
  ∃ r : Int, e = .returned (.int .i64 r) ∧ r ∈ l ∧ Src w' o len cap p ∧ w.grownBy w' (some p) ∧ w'.heap.size = w.heap.size
theorem pick_any (l : List Int) (g c : Nat) (o : Option Addr) (len cap p : Nat) (w : World) (hs : Src w o len cap p) (hgp : g ≠ p) (h0 : 0 < l.length) (h1 : l.length ≤ 1000)
    (hc : ∀ k, k < l.length → w.cell? ⟨g, k, none⟩ = some (.int .i64 (l.getD k 0))) :
    Calls Try.prog 43 #[.pointer (some ⟨p, 0, none⟩), .slice (some ⟨g, 0, none⟩) l.length c] w (PickPost l o len cap p w) := by
  have HS := Lib.hid hs
  have HC := Lib.hid hc
  clear hs hc
  go_enter Try.func43, Try.ntmps43
  go_wp2_with fail
  refine (next_any _ _ _ _ _ _ (by omega) HS.out).mono ?_
  rintro e w1 ⟨r, rfl, hr0, hr1, hsr, hgr, hzr⟩
  have hr2 : r < (l.length : Int) := by omega
  have hc := HC.out r.toNat (by omega)
  rw [← World.grownBy.cell_far hgr ⟨g, r.toNat, none⟩ (World.block_lt_of_cell? w _ hc) (by simpa using hgp)] at hc
  obtain ⟨x, hx⟩ : ∃ x, l.getD r.toNat 0 = x := ⟨_, rfl⟩
  rw [hx] at hc
  have HX : Hid (x ∈ l) := by
    show x ∈ l
    have hlt : r.toNat < l.length := by omega
    rw [← hx, show l.getD r.toNat 0 = l[r.toNat] by simp [List.getD, hlt]]; exact List.getElem_mem _
  have HR := Lib.hid (And.intro hsr (And.intro hgr hzr))
  clear hx hr1 hsr hgr hzr
  go_wp2
  go_ret
  exact ⟨x, rfl, HX.out, HR.out⟩
/-- a value or nearly one -/
def DrawnPost (lo hi : Int) (o : Option Addr) (len cap p : Nat) (w : World) (e : Ending) (w' : World) : Prop :=
  ∃ r : Int, e = .returned (.int .i64 r) ∧ lo ≤ r ∧ r ≤ hi ∧ Src w' o len cap p ∧ w.grownBy w' (some p)
/-- a literal list of numbers, laid in a new block -/
theorem cells_new (w : World) (l : List Int) (T : TypeId) : ∀ k, k < l.length → (w.alloc (.cells (l.map (Value.int .i64)).toArray T)).cell? ⟨w.heap.size, k, none⟩ = some (.int .i64 (l.getD k 0)) := by
  intro k hk
  rw [World.cell?_alloc_new]
  simp [hk]
theorem src_lt {w : World} {o : Option Addr} {len cap p : Nat} (h : Src w o len cap p) : p < w.heap.size := by
  obtain ⟨t, s, h⟩ := h; exact World.block_lt_of_cell? w _ h.c0
/-- l01Pick over a list that has just been laid -/
theorem pick_new (l : List Int) (T : TypeId) (c : Nat) (o : Option Addr) (len cap p : Nat) (w : World) (hs : Src w o len cap p) (h0 : 0 < l.length) (h1 : l.length ≤ 1000) :
    Calls Try.prog 43 #[.pointer (some ⟨p, 0, none⟩), .slice (some ⟨w.heap.size, 0, none⟩) l.length c] (w.alloc (.cells (l.map (Value.int .i64)).toArray T)) fun e w' =>
      ∃ r : Int, e = .returned (.int .i64 r) ∧ r ∈ l ∧ Src w' o len cap p ∧ w.grownBy w' (some p) := by
  refine (pick_any l w.heap.size c o len cap p _ (src_alloc hs _) (by have := src_lt hs; omega) h0 h1 (cells_new w l T)).mono fun e w' ⟨r, he, hr, h2, h3, h4⟩ => ⟨r, he, hr, h2, grownBy_tr (World.grownBy_alloc w _ _) h3⟩
end Go.Proofs.Ytejgcamogjgdkaa
namespace Go.Proofs.Ytejgcamogjgdkaa
open Go.RowKit
set_option linter.unusedVariables false
/-- a code that came in -/
def CodeIn (w : World) (o : Option Addr) (len : Nat) : Prop :=
  len = 0 ∨ ∃ b off, o = some ⟨b, off, none⟩ ∧ b < w.heap.size ∧ ∀ i, i < len → ∃ z : Int, w.cell? ⟨b, off + i, none⟩ = some (.int .u8 z) ∧ 0 ≤ z ∧ z ≤ 255
def FromPost (o : Option Addr) (len cap : Nat) (w : World) (e : Ending) (w' : World) : Prop :=
  ∃ p, e = .returned (.pointer (some ⟨p, 0, none⟩)) ∧ w.heap.size ≤ p ∧ Src w' o len cap p ∧ Below w.heap.size w w'
theorem srcAt_new (w : World) (o : Option Addr) (len cap : Nat) (T : TypeId) (hl : len ≤ 4096) (hc : CodeIn w o len) :
    SrcAt (w.alloc (.cells #[.slice o len cap, .int .i64 0, .int .i64 31019] T)) o len cap w.heap.size 0 31019 := by
  refine ⟨?_, ?_, ?_, fun i => World.frozen?_alloc_at _ _ _ _ rfl, Nat.zero_le _, hl, by omega, by omega, ?_⟩
  · rw [World.cell?_alloc_new]; rfl
  · rw [World.cell?_alloc_new]; rfl
  · rw [World.cell?_alloc_new]; rfl
  · rcases hc with h0 | ⟨b, off, ho, hb, hc⟩
    · exact .inl h0
    · refine .inr ⟨b, off, ho, hb, fun i hi => ?_⟩
      rw [World.cell?_alloc_past _ _ _ hb]; exact hc i hi
set_option maxRecDepth 20000 in
set_option maxHeartbeats 800000 in
theorem from_any (o : Option Addr) (len cap : Nat) (w : World) (hl : len ≤ 4096) (hc : CodeIn w o len) :
    Calls Try.prog 36 #[.slice o len cap] w (FromPost o len cap w) := by
  have HN := Lib.hid (srcAt_new w o len cap 71 hl hc)
  clear hc
  go_enter Try.func36, Try.ntmps36
  go_wp2
  go_loopw [4] (fun i wr => ∃ (k : Nat) (s : Int), k ≤ len ∧ i = .int .i64 k ∧ SrcAt wr o len cap w.heap.size 0 s ∧ Below w.heap.size w wr) (fun i _ => len - (intOf i).toNat)
  case atStart => exact ⟨0, 31019, Nat.zero_le _, rfl, HN.out, (Below.refl _ _).alloc (Nat.le_refl _) _⟩
  case round =>
    obtain ⟨k, s, hk, rfl, hs, hb⟩ := hrel
    have s0 := hs.s0
    have s1 := hs.s1
    have a2 := hs.c2
    have az := hs.fz 2
    have HS := Lib.hid hs
    have HB := Lib.hid hb
    clear hs hb HN
    by_cases hlt : k < len
    · by_cases h64 : k < 64
      · obtain ⟨b, off, rfl, hbp, hc⟩ : ∃ b off, o = some ⟨b, off, none⟩ ∧ b < w.heap.size ∧ ∀ i, i < len → ∃ z : Int, wr.cell? ⟨b, off + i, none⟩ = some (.int .u8 z) ∧ 0 ≤ z ∧ z ≤ 255 := by
          rcases HS.out.code with h0 | h0
          · omega
          · exact h0
        obtain ⟨z, hz, z0, z1⟩ := hc k hlt
        clear hc
        go_wp2
        go_still_tail 15, (by kernel_rfl)
        go_wp2
        exact ⟨⟨k + 1, (s * 61 + z) % 2147483647, by omega, by go_num, srcAt_drewN (srcAt_seed HS.out (by omega) (by omega)) 1, (HB.out.setCell (Nat.le_refl _) _).drew⟩, by simp only [intOf]; omega⟩
      · go_wp2
        go_ret
        exact ⟨_, rfl, Nat.le_refl _, ⟨_, _, HS.out⟩, HB.out⟩
    · go_wp2
      go_ret
      exact ⟨_, rfl, Nat.le_refl _, ⟨_, _, HS.out⟩, HB.out⟩
end Go.Proofs.Ytejgcamogjgdkaa
namespace Go.Proofs.Ytejgcamogjgdkaa
open Go.RowKit
set_option linter.unusedVariables false
theorem prod_bd {k r : Int} (h1 : 1 ≤ k) (h2 : k ≤ 40) (h3 : 0 ≤ r) (h4 : r ≤ 200) : -4000 ≤ k * (r - 100) ∧ k * (r - 100) ≤ 4000 := by
  have : (k * (r - 100)).natAbs ≤ 40 * 100 := by
    rw [Int.natAbs_mul]; exact Nat.mul_le_mul (by omega) (by omega)
  omega
/-- two numbers, drawn -/
def TwoPost (w : World) (e : Ending) (w' : World) : Prop := ∃ a b : Int, e = .returned (.tuple #[.int .i64 a, .int .i64 b]) ∧ Below w.heap.size w w'
def OnePost (w : World) (e : Ending) (w' : World) : Prop := ∃ a : Int, e = .returned (.int .i64 a) ∧ Below w.heap.size w w'
/-- a step of drawing, below the source's block -/
theorem below_draw {B p : Nat} {a w w' : World} (h : Below B a w) (hg : w.grownBy w' (some p)) (hp : B ≤ p) (hw : B ≤ w.heap.size) : Below B a w' :=
  h.grown hg hw (fun k hk => by cases hk; exact hp)
theorem big_no (o : Option Addr) (len cap : Nat) (w : World) (hl : len ≤ 4096) :
    Calls Try.prog 10 #[.slice o len cap] w fun e w' => e = .returned (.bool false) ∧ w = w' := by
  go_enter Try.func10, Try.ntmps10
  go_wp2
  go_ret
  exact ⟨ret_bool (decide_eq_false (by omega)), rfl⟩
theorem big_yes (o : Option Addr) (len cap : Nat) (w : World) (hl : 4096 < len) (hm : len ≤ 9223372036854775807) :
    Calls Try.prog 10 #[.slice o len cap] w fun e w' => e = .returned (.bool true) ∧ w = w' := by
  go_enter Try.func10, Try.ntmps10
  go_wp2
  go_ret
  exact ⟨ret_bool (decide_eq_true (by omega)), rfl⟩
theorem codeIn_below {w w' : World} {B : Nat} {o : Option Addr} {len : Nat} (h : CodeIn w o len) (hb : Below w.heap.size w w') : CodeIn w' o len := by
  rcases h with h | ⟨b, off, ho, hlt, hc⟩
  · exact .inl h
  · exact .inr ⟨b, off, ho, Nat.lt_of_lt_of_le hlt hb.size, fun i hi => by rw [hb.cell (by exact hlt)]; exact hc i hi⟩
end Go.Proofs.Ytejgcamogjgdkaa
namespace Go.Proofs.Ytejgcamogjgdkaa
open Go.RowKit
set_option linter.unusedVariables false
set_option maxHeartbeats 400000 in
theorem drawPrime_any (o : Option Addr) (len cap p : Nat) (w : World) (hs : Src w o len cap p) :
    Calls Try.prog 41 #[.pointer (some ⟨p, 0, none⟩)] w (DrawnPost (-3) 101 o len cap p w) := by
  have HS := Lib.hid hs
  clear hs
  go_enter Try.func41, Try.ntmps41
  go_wp2_with fail
  refine (next_any _ _ _ _ _ _ (by omega) HS.out).mono ?_
  rintro e w1 ⟨r1, rfl, r10, r11, hs1, hg1, hz1⟩
  have H1 := Lib.hid (And.intro hs1 hg1)
  clear hs1 hg1 hz1 r11
  by_cases hr : r1 = 0
  · subst hr
    go_wp2_with fail
    refine (pick_new [1, 4, 0, 97, 101, -3, 9] 2 7 o len cap p w1 H1.out.1 (by simp) (by simp)).mono ?_
    rintro e w2 ⟨x, rfl, hx, hs2, hg2⟩
    have hb : -3 ≤ x ∧ x ≤ 101 := by simp at hx; omega
    have H2 := Lib.hid (And.intro hb (And.intro hs2 (grownBy_tr H1.out.2 hg2)))
    clear hx hs2 hg2 hb
    go_wp2
    go_ret
    exact ⟨x, rfl, H2.out.1.1, H2.out.1.2, H2.out.2.1, H2.out.2.2⟩
  · have hr' : (r1 == 0) = false := by simpa using hr
    clear hr
    go_wp2_with fail
    refine (pick_new [2, 3, 5, 7, 2, 3, 5, 11, 13, 17, 31] 2 11 o len cap p w1 H1.out.1 (by simp) (by simp)).mono ?_
    rintro e w2 ⟨x, rfl, hx, hs2, hg2⟩
    have hb : -3 ≤ x ∧ x ≤ 101 := by simp at hx; omega
    have H2 := Lib.hid (And.intro hb (And.intro hs2 (grownBy_tr H1.out.2 hg2)))
    clear hx hs2 hg2 hb
    go_wp2
    go_ret
    exact ⟨x, rfl, H2.out.1.1, H2.out.1.2, H2.out.2.1, H2.out.2.2⟩
end Go.Proofs.Ytejgcamogjgdkaa
namespace Go.Proofs.Ytejgcamogjgdkaa
open Go.RowKit
set_option linter.unusedVariables false
/-- a slice of integers that came in, as the shells have it -/
def IsRowOf (k : IntKind) (w : World) (a : Option Addr) (len cap : Nat) (zs : List Int) : Prop :=
  (a = none ∧ len = 0 ∧ cap = 0 ∧ zs = []) ∨
  ∃ x, a = some x ∧ len ≤ cap ∧ cap ≤ maxLen ∧ zs.length = cap ∧ (∀ i, i < zs.length → w.cell? (x.add i) = some (.int k (zs.getD i 0))) ∧ ∀ n ∈ zs, (Lit.int k n).wf = true
theorem u8_bd {q : Int} (h : (Lit.int .u8 q).wf = true) : 0 ≤ q ∧ q ≤ 255 := by
  simp [Lit.wf, IntKind.min, IntKind.max, IntKind.signed, IntKind.bits] at h
  exact ⟨h.1, by omega⟩
theorem codeIn_of {w : World} {a : Option Addr} {len cap : Nat} {zs : List Int} (h : IsRowOf .u8 w a len cap zs) : CodeIn w a len ∧ len ≤ 9223372036854775807 := by
  rcases h with ⟨_, h, _, _⟩ | ⟨x, rfl, h1, h2, h3, h4, h5⟩
  · exact ⟨.inl h, by omega⟩
  · refine ⟨?_, by unfold maxLen at h2; omega⟩
    by_cases h0 : len = 0
    · exact .inl h0
    · obtain ⟨b, off, rfl, hc⟩ := ints_at h4 (by omega)
      refine .inr ⟨b, off, rfl, World.block_lt_of_cell? w _ (hc 0 (by omega)), fun i hi => ⟨_, hc i (by omega), ?_⟩⟩
      have hm : zs.getD i 0 ∈ zs := by
        have hlt : i < zs.length := by omega
        rw [show zs.getD i 0 = zs[i] by simp [List.getD, hlt]]; exact List.getElem_mem _
      exact u8_bd (h5 _ hm)
theorem gcd_dvd_tmod (a b : Int) (h : Int.gcd a b ≠ 0) : a.tmod (Int.gcd a b) = 0 ∧ b.tmod (Int.gcd a b) = 0 :=
  ⟨Int.tmod_eq_zero_of_dvd (Int.gcd_dvd_left ..), Int.tmod_eq_zero_of_dvd (Int.gcd_dvd_right ..)⟩
end Go.Proofs.Ytejgcamogjgdkaa
namespace Go.Proofs.Ytejgcamogjgdkaa
open Go.RowKit
set_option linter.unusedVariables false
/-- a ring, drawn -/
def RingPost (o : Option Addr) (len cap q : Nat) (w : World) (e : Ending) (w' : World) : Prop :=
  ∃ p n : Int, e = .returned (.agg #[.int .i64 p, .int .i64 n]) ∧ -3 ≤ p ∧ p ≤ 101 ∧ -1 ≤ n ∧ n ≤ 30 ∧ Src w' o len cap q ∧ w.grownBy w' (some q)
theorem valid_ring {p n : Int} (hp : p ∈ [2, 3, 5, 7, 2, 3, 5, 11, 13]) (h1 : 1 ≤ n) (h2 : n ≤ 6) : smallB p = true ∧ ringM p n ≠ 0 := by
  have hs : smallB p = true := by
    simp only [List.mem_cons, List.not_mem_nil, or_false] at hp
    rcases hp with rfl | rfl | rfl | rfl | rfl | rfl | rfl | rfl | rfl <;> decide
  have hb : 2 ≤ p ∧ p ≤ 13 := by simp at hp; omega
  refine ⟨hs, ?_⟩
  have e1 := pow_le hb.1 (show n.toNat ≤ 6 by omega)
  have e2 : p ^ 6 ≤ 4826809 := by
    simp only [List.mem_cons, List.not_mem_nil, or_false] at hp
    rcases hp with rfl | rfl | rfl | rfl | rfl | rfl | rfl | rfl | rfl <;> decide
  have e3 := pow_ge1 hb.1 n.toNat
  unfold ringM
  rw [hs, decide_eq_true h1, decide_eq_true (show p ^ n.toNat ≤ 1000000000 by omega)]
  simp; omega
theorem src_set {w : World} {o : Option Addr} {len cap q b i : Nat} {v : Value} (h : Src w o len cap q) (hb : q < b) : Src (w.setCell ⟨b, i, none⟩ v) o len cap q := by
  obtain ⟨t, s, h⟩ := h
  refine ⟨t, s, ?_, ?_, ?_, fun i => by rw [World.frozen?_setCell]; exact h.fz i, h.ht, h.hl, h.s0, h.s1, ?_⟩
  · rw [set_other (.inl (by omega))]; exact h.c0
  · rw [set_other (.inl (by omega))]; exact h.c1
  · rw [set_other (.inl (by omega))]; exact h.c2
  · rcases h.code with hz | ⟨b, off, ho, hbp, hc⟩
    · exact .inl hz
    · refine .inr ⟨b, off, ho, hbp, fun i hi => ?_⟩
      rw [set_other (.inl (by omega))]; exact hc i hi
theorem grown_set {w w' : World} {q b i : Nat} {v : Value} (h : w.grownBy w' (some q)) (hb : w.heap.size ≤ b) : w.grownBy (w'.setCell ⟨b, i, none⟩ v) (some q) :=
  ⟨h.os, h.tape, h.output, by simpa using h.size, fun k hk hn => by rw [Below.heap_setCell _ _ _ _ (by show k ≠ b; omega)]; exact h.block k hk hn⟩
/-- l01Pick over a list laid in a block whose number is written out -/
theorem pick_at (l : List Int) (T : TypeId) (c : Nat) (o : Option Addr) (len cap p g : Nat) (w : World) (hg : w.heap.size = g) (hs : Src w o len cap p) (h0 : 0 < l.length) (h1 : l.length ≤ 1000) :
    Calls Try.prog 43 #[.pointer (some ⟨p, 0, none⟩), .slice (some ⟨g, 0, none⟩) l.length c] (w.alloc (.cells (l.map (Value.int .i64)).toArray T)) fun e w' =>
      ∃ r : Int, e = .returned (.int .i64 r) ∧ r ∈ l ∧ Src w' o len cap p ∧ w.grownBy w' (some p) := by
  subst hg; exact pick_new l T c o len cap p w hs h0 h1
theorem ring_block {w w2 : World} {a b : Value} {T : TypeId} (h : w2.heap[w.heap.size]? = (w.alloc (.cells #[a, b] T)).heap[w.heap.size]?) :
    w2.cell? ⟨w.heap.size, 0, none⟩ = some a ∧ w2.cell? ⟨w.heap.size, 1, none⟩ = some b ∧ w2.frozen? ⟨w.heap.size, 0, none⟩ = false ∧ w2.frozen? ⟨w.heap.size, 1, none⟩ = false := by
  refine ⟨?_, ?_, ?_, ?_⟩
  · rw [World.cell?_of_block (w := w.alloc (.cells #[a, b] T)) (a := ⟨w.heap.size, 0, none⟩) h, World.cell?_alloc_new]; rfl
  · rw [World.cell?_of_block (w := w.alloc (.cells #[a, b] T)) (a := ⟨w.heap.size, 1, none⟩) h, World.cell?_alloc_new]; rfl
  · rw [World.frozen?_of_block (w := w.alloc (.cells #[a, b] T)) (a := ⟨w.heap.size, 0, none⟩) h]; exact World.frozen?_alloc_at _ _ _ _ rfl
  · rw [World.frozen?_of_block (w := w.alloc (.cells #[a, b] T)) (a := ⟨w.heap.size, 1, none⟩) h]; exact World.frozen?_alloc_at _ _ _ _ rfl
theorem block_alloc {w : World} (o : Obj) {k : Nat} (h : k < w.heap.size) : (w.alloc o).heap[k]? = w.heap[k]? := Below.heap_alloc w o k h
end Go.Proofs.Ytejgcamogjgdkaa
namespace Go.Proofs.Ytejgcamogjgdkaa
open Go.RowKit
set_option linter.unusedVariables false
end Go.Proofs.Ytejgcamogjgdkaa
namespace Go.Proofs.Ytejgcamogjgdkaa
open Go.RowKit
set_option linter.unusedVariables false
/-- a number for a prime, drawn -/
def ValPost (p : Int) (o : Option Addr) (len cap q : Nat) (w : World) (e : Ending) (w' : World) : Prop :=
  ∃ v u n : Int, e = .returned (.agg (P4 p v u n)) ∧ -6 ≤ v ∧ v ≤ 6 ∧ 0 ≤ u ∧ u ≤ 1000000000 ∧ 0 ≤ n ∧ n ≤ 8 ∧ Src w' o len cap q ∧ w.grownBy w' (some q)
/-- a source in use, and what is old but for the source's block -/
def GG (o : Option Addr) (len cap q : Nat) (w wz : World) : Prop := Src wz o len cap q ∧ w.grownBy wz (some q) ∧ q < w.heap.size
theorem gg_next {o : Option Addr} {len cap q : Nat} {w w1 w2 : World} (h : GG o len cap q w w1) (hs : Src w2 o len cap q) (hg : w1.grownBy w2 (some q)) : GG o len cap q w w2 := ⟨hs, grownBy_tr h.2.1 hg, h.2.2⟩
theorem gg_alloc {o : Option Addr} {len cap q : Nat} {w w1 : World} (h : GG o len cap q w w1) (ob : Obj) : GG o len cap q w (w1.alloc ob) := gg_next h (src_alloc h.1 ob) (World.grownBy_alloc w1 ob (some q))
theorem gg_set {o : Option Addr} {len cap q : Nat} {w w1 : World} (h : GG o len cap q w w1) {b i : Nat} (hb : w.heap.size ≤ b) (v : Value) : GG o len cap q w (w1.setCell ⟨b, i, none⟩ v) :=
  ⟨src_set h.1 (by have := h.2.2; omega), grown_set h.2.1 hb, h.2.2⟩
theorem gg_set4 {o : Option Addr} {len cap q : Nat} {w w1 : World} (h : GG o len cap q w w1) {b : Nat} (hb : w.heap.size ≤ b) (x0 x1 x2 x3 : Value) :
    GG o len cap q w ((((w1.setCell ⟨b, 0, none⟩ x0).setCell ⟨b, 1, none⟩ x1).setCell ⟨b, 2, none⟩ x2).setCell ⟨b, 3, none⟩ x3) := gg_set (gg_set (gg_set (gg_set h hb _) hb _) hb _) hb _
theorem gg_start {o : Option Addr} {len cap q : Nat} {w : World} (hs : Src w o len cap q) : GG o len cap q w w := ⟨hs, World.grownBy.refl _ _, src_lt hs⟩
theorem gg_lies {o : Option Addr} {len cap q : Nat} {w w1 w2 : World} {b : Nat} {vs : Array Value} (h : GG o len cap q w w1) (hb : w.heap.size ≤ b) (L : Lies w1 b vs) (hg : w1.grownBy w2 (some q)) : Lies w2 b vs :=
  lies_grown L hg (by have := h.2.2; omega)
theorem ringM_one {p : Int} (hs : smallB p = true) : ringM p 1 ≠ 0 := by
  obtain ⟨h1, h2⟩ := smallB_bd hs
  rw [ringM_pw hs (by omega) (by rw [pw_one]; omega), pw_one]; omega
set_option maxHeartbeats 1000000 in
theorem padValid_any (p : Int) (o : Option Addr) (len cap q : Nat) (w : World) (hp : smallB p = true) (hs : Src w o len cap q) :
    Calls Try.prog 61 #[.pointer (some ⟨q, 0, none⟩), .int .i64 p] w (ValPost p o len cap q w) := by
  obtain ⟨hp2, hp97⟩ := smallB_bd hp
  have HP := Lib.hid hp
  have G0 := Lib.hid (gg_alloc (gg_start hs) (.cells (P4 0 0 0 0) 25))
  have L0 := Lib.hid (lies_new w (P4 0 0 0 0) 25)
  have hp4 : ¬ p = 0 := by omega
  have hp5 : (p == 0) = false := by simp; omega
  clear hs hp
  go_enter Try.func61, Try.ntmps61
  go_wp2_with fail
  refine (next_any _ _ _ _ _ _ (by omega) G0.out.1).mono ?_
  rintro e w1 ⟨r1, rfl, r10, r11, hs1, hg1, hz1⟩
  have G1 := Lib.hid (gg_next G0.out hs1 hg1)
  have L1 := Lib.hid (gg_lies G0.out (Nat.le_refl _) L0.out hg1)
  clear hs1 hg1 hz1 r11 G0 L0
  by_cases hr : r1 = 0
  · subst hr
    go_wp2_with fail
    refine (next_any _ _ _ _ _ _ (by omega) G1.out.1).mono ?_
    rintro e w2 ⟨r2, rfl, r20, r21, hs2, hg2, hz2⟩
    have hr2 : r2 < 13 := by omega
    have G2 := Lib.hid (gg_next G1.out hs2 hg2)
    have L2 := gg_lies G1.out (Nat.le_refl _) L1.out hg2
    obtain ⟨d0, d1, d2, d3⟩ := lies_four L2
    obtain ⟨f0, f1, f2, f3⟩ := lies_ice L2
    have hw := IntWalk.i64_in (r2 - 6) (by omega)
    clear hs2 hg2 hz2 r21 L2
    go_wp2
    refine bodyPost_ret (v := .agg (P4 p (r2 - 6) 0 0)) (by simp [results, Try.results61, go_sem, d0, d1, d2, d3]) rfl ?_
    have G3 := gg_set4 G2.out (Nat.le_refl _) (.int .i64 p) (.int .i64 (r2 - 6)) (.int .i64 0) (.int .i64 0)
    exact ⟨_, _, _, rfl, by omega, by omega, by omega, by omega, by omega, by omega, G3.1, G3.2.1⟩
  · have hr' : (r1 == 0) = false := by simpa using hr
    clear hr
    go_wp2_with fail
    refine (next_any _ _ _ _ _ _ (by omega) G1.out.1).mono ?_
    rintro e w2 ⟨r2, rfl, r20, r21, hs2, hg2, hz2⟩
    have hr2 : r2 < 8 := by omega
    have G2 := Lib.hid (gg_next G1.out hs2 hg2)
    have L2 := Lib.hid (gg_lies G1.out (Nat.le_refl _) L1.out hg2)
    have hw := IntWalk.i64_in (1 + r2) (by omega)
    clear hs2 hg2 hz2 r21 G1 L1
    go_wp2_with fail
    go_loop [5] (fun i => ∃ n : Int, i = .int .i64 n ∧ 1 ≤ n ∧ n ≤ 8) (fun i => (intOf i).toNat)
    case atStart => exact ⟨_, rfl, by omega, by omega⟩
    case round =>
      obtain ⟨n, rfl, hn1, hn8⟩ := hrel
      have HM := Lib.hid fun w => l02Modulus_any p n w HP.out hn1 (by omega)
      by_cases h0 : ringM p n = 0
      · have h0' : (ringM p n == 0) = true := by simp [h0]
        have hn2 : 2 ≤ n := by
          apply Classical.byContradiction; intro hc
          obtain rfl : n = 1 := by omega
          exact ringM_one HP.out h0
        clear h0
        go_wp2_with (first | (go_at_call 51; refine (HM.out _).mono ?_; rintro e' wn ⟨rfl, rfl⟩))
        exact ⟨⟨_, rfl, by omega, by omega⟩, by simp only [intOf]; omega⟩
      · obtain ⟨_, _, _, _, hm1, hm2, _⟩ := ringM_bd h0
        have h0' : (ringM p n == 0) = false := by simpa using h0
        generalize ringM p n = m at *
        have hw2 := IntWalk.i64_in (m - 1) (by omega)
        clear h0
        go_wp2_with (first | (go_at_call 51; refine (HM.out _).mono ?_; rintro e' wn ⟨rfl, rfl⟩))
        refine (next_any _ _ _ _ _ _ (by omega) G2.out.1).mono ?_
        rintro e w3 ⟨r3, rfl, r30, r31, hs3, hg3, hz3⟩
        have hr3 : r3 ≤ 1000000000 - 2 := by omega
        have G3 := Lib.hid (gg_next G2.out hs3 hg3)
        have L3 := Lib.hid (gg_lies G2.out (Nat.le_refl _) L2.out hg3)
        have hw3 := IntWalk.i64_in (1 + r3) (by omega)
        clear hs3 hg3 hz3 r31 G2 L2 h0' hw2 HM
        go_wp2_with fail
        go_loop [6] (fun i => ∃ u : Int, i = .int .i64 u ∧ 1 ≤ u ∧ u ≤ 1000000000) (fun i => (intOf i).toNat)
        case atStart => exact ⟨_, rfl, by omega, by omega⟩
        case round =>
          obtain ⟨u, rfl, hu1, hu2⟩ := hrel
          have ht : u.tmod p = u % p := tmod_nonneg (by omega)
          have hq : u.tdiv p = u / p := Int.tdiv_eq_ediv_of_nonneg (by omega)
          have hd := Int.emod_add_mul_ediv u p
          have hm0 := Int.emod_nonneg u hp4
          have hq0 : 0 ≤ u / p := Int.ediv_nonneg (by omega) (by omega)
          have hq1 : u / p ≤ u := Int.ediv_le_self _ (by omega)
          by_cases hz : u % p = 0
          · have hz' : (u % p == 0) = true := by simp [hz]
            have hk1 : 1 ≤ u / p := by
              apply Classical.byContradiction; intro hc
              have : u / p = 0 := by omega
              rw [this, hz] at hd; omega
            have hk2 : u / p < u := by
              have := Int.mul_le_mul_of_nonneg_right hp2 hq0
              omega
            clear hd hz
            go_wp2
            exact ⟨⟨_, rfl, by omega, by omega⟩, by simp only [intOf]; omega⟩
          · have hz' : (u % p == 0) = false := by simpa using hz
            clear hd hz
            go_wp2_with fail
            refine (next_any _ _ _ _ _ _ (by omega) G3.out.1).mono ?_
            rintro e w4 ⟨r4, rfl, r40, r41, hs4, hg4, hz4⟩
            have hr4 : r4 < 9 := by omega
            have G4 := Lib.hid (gg_next G3.out hs4 hg4)
            have L4 := gg_lies G3.out (Nat.le_refl _) L3.out hg4
            obtain ⟨d0, d1, d2, d3⟩ := lies_four L4
            obtain ⟨f0, f1, f2, f3⟩ := lies_ice L4
            have hw4 := IntWalk.i64_in (r4 - 4) (by omega)
            clear hs4 hg4 hz4 r41 L4
            go_wp2
            refine bodyPost_ret (v := .agg (P4 p (r4 - 4) u n)) (by simp [results, Try.results61, go_sem, d0, d1, d2, d3]) rfl ?_
            have G5 := gg_set4 G4.out (Nat.le_refl _) (.int .i64 p) (.int .i64 (r4 - 4)) (.int .i64 u) (.int .i64 n)
            exact ⟨_, _, _, rfl, by omega, by omega, by omega, by omega, by omega, by omega, G5.1, G5.2.1⟩
/-- a number, drawn -/
def PadPost (o : Option Addr) (len cap q : Nat) (w : World) (e : Ending) (w' : World) : Prop :=
  ∃ p v u n : Int, e = .returned (.agg (P4 p v u n)) ∧ -3 ≤ p ∧ p ≤ 101 ∧ -61 ≤ v ∧ v ≤ 61 ∧ -1 ≤ u ∧ u ≤ 1000000000 ∧ -1 ≤ n ∧ n ≤ 30 ∧ Src w' o len cap q ∧ w.grownBy w' (some q)
theorem small_of {p : Int} (hp : p ∈ [2, 3, 5, 7, 13]) : smallB p = true ∧ 2 ≤ p ∧ p ≤ 13 := by
  simp only [List.mem_cons, List.not_mem_nil, or_false] at hp
  rcases hp with rfl | rfl | rfl | rfl | rfl <;> decide
set_option maxHeartbeats 2000000 in
theorem padDraw_any (o : Option Addr) (len cap q : Nat) (w : World) (hs : Src w o len cap q) :
    Calls Try.prog 35 #[.pointer (some ⟨q, 0, none⟩)] w (PadPost o len cap q w) := by
  have G0 := Lib.hid (gg_alloc (gg_start hs) (.cells (P4 0 0 0 0) 25))
  have L0 := Lib.hid (lies_new w (P4 0 0 0 0) 25)
  clear hs
  go_enter Try.func35, Try.ntmps35
  go_wp2_with fail
  refine (pick_at [2, 3, 5, 7, 13] 2 5 o len cap q _ _ (by simp) G0.out.1 (by simp) (by simp)).mono ?_
  rintro e w1 ⟨p, rfl, hp, hs1, hg1⟩
  have HP := small_of hp
  have hp2 := HP.2.1
  have hp13 := HP.2.2
  have HS := Lib.hid HP.1
  have G1 := Lib.hid (gg_next G0.out hs1 hg1)
  have L1 := Lib.hid (gg_lies G0.out (Nat.le_refl _) L0.out hg1)
  clear hs1 hg1 G0 L0 HP hp
  go_wp2_with fail
  refine (padValid_any p o len cap q _ HS.out G1.out.1).mono ?_
  rintro e w2 ⟨v, u, n, rfl, hv0, hv1, hu0, hu1, hn0, hn1, hs2, hg2⟩
  have G2 := gg_next G1.out hs2 hg2
  have L2 := gg_lies G1.out (Nat.le_refl _) L1.out hg2
  have hlt := lies_lt L2
  have hle : w.heap.size ≤ w2.heap.size := Nat.le_of_lt hlt
  have LX := lies_new w2 (P4 p v u n) 25
  have G3 := Lib.hid (gg_alloc G2 (.cells (P4 p v u n) 25))
  have L3 := Lib.hid (And.intro (lies_alloc L2 (.cells (P4 p v u n) 25)) LX)
  have hne : ¬ w2.heap.size = w.heap.size := by omega
  have HN := Lib.hid (And.intro hle hne)
  clear hs2 hg2 G1 L1 G2 L2 LX hlt hle hne
  go_wp2_with fail
  refine (next_any _ _ _ _ _ _ (by omega) G3.out.1).mono ?_
  rintro e w3 ⟨r, rfl, r0, r1, hs3, hg3, hz3⟩
  have G4 := Lib.hid (gg_next G3.out hs3 hg3)
  have L4 := Lib.hid (And.intro (gg_lies G3.out (Nat.le_refl _) L3.out.1 hg3) (gg_lies G3.out HN.out.1 L3.out.2 hg3))
  clear hs3 hg3 hz3 r1 G3 L3
  by_cases e0 : r = 0
  · subst e0
    go_wp2_with fail
    refine (drawPrime_any _ _ _ _ _ G4.out.1).mono ?_
    rintro e w4 ⟨x, rfl, hx0, hx1, hs4, hg4⟩
    skip
    have G5 := gg_next G4.out hs4 hg4
    have LR := gg_lies G4.out (Nat.le_refl _) L4.out.1 hg4
    have LX := gg_lies G4.out HN.out.1 L4.out.2 hg4
    obtain ⟨c0, c1, c2, c3⟩ := lies_four LR
    obtain ⟨cf0, cf1, cf2, cf3⟩ := lies_ice LR
    obtain ⟨d0, d1, d2, d3⟩ := lies_four LX
    obtain ⟨df0, df1, df2, df3⟩ := lies_ice LX
    have hne := HN.out.2
    have HG := Lib.hid (gg_set4 (gg_set G5 (b := w2.heap.size) (i := 0) HN.out.1 (.int .i64 x)) (Nat.le_refl _) (.int .i64 x) (.int .i64 v) (.int .i64 u) (.int .i64 n))
    clear hs4 hg4 G5 LR LX
    go_wp2
    refine bodyPost_ret (v := .agg (P4 x v u n)) (by simp [results, Try.results35, go_sem, c0, c1, c2, c3]) rfl ?_
    exact ⟨_, _, _, _, rfl, by omega, by omega, by omega, by omega, by omega, by omega, by omega, by omega, HG.out.1, HG.out.2.1⟩
  · have e0' : (r == 0) = false := by simpa using e0
    clear e0
    by_cases e1 : r = 1
    · subst e1
      obtain ⟨d0, d1, d2, d3⟩ := lies_four L4.out.2
      have hne := HN.out.2
      go_wp2_with fail
      refine (pick_new [0, p, -1, 1000000000] 2 4 o len cap q w3 G4.out.1 (by simp) (by simp)).mono ?_
      rintro e w4 ⟨x, rfl, hx, hs4, hg4⟩
      have hx0 : -1 ≤ x ∧ x ≤ 1000000000 := by simp at hx; omega
      have G5 := gg_next G4.out hs4 hg4
      have LR := gg_lies G4.out (Nat.le_refl _) L4.out.1 hg4
      have LX := gg_lies G4.out HN.out.1 L4.out.2 hg4
      obtain ⟨c0, c1, c2, c3⟩ := lies_four LR
      obtain ⟨cf0, cf1, cf2, cf3⟩ := lies_ice LR
      obtain ⟨d0, d1, d2, d3⟩ := lies_four LX
      obtain ⟨df0, df1, df2, df3⟩ := lies_ice LX
      have hne := HN.out.2
      have HG := Lib.hid (gg_set4 (gg_set G5 (b := w2.heap.size) (i := 2) HN.out.1 (.int .i64 x)) (Nat.le_refl _) (.int .i64 p) (.int .i64 v) (.int .i64 x) (.int .i64 n))
      clear hs4 hg4 G5 LR LX
      go_wp2
      refine bodyPost_ret (v := .agg (P4 p v x n)) (by simp [results, Try.results35, go_sem, c0, c1, c2, c3]) rfl ?_
      exact ⟨_, _, _, _, rfl, by omega, by omega, by omega, by omega, by omega, by omega, by omega, by omega, HG.out.1, HG.out.2.1⟩
    · have e1' : (r == 1) = false := by simpa using e1
      clear e1
      by_cases e2 : r = 2
      · subst e2
        go_wp2_with fail
        refine (pick_new [60, 61, -60, -61] 2 4 o len cap q w3 G4.out.1 (by simp) (by simp)).mono ?_
        rintro e w4 ⟨x, rfl, hx, hs4, hg4⟩
        have hx0 : -61 ≤ x ∧ x ≤ 61 := by simp at hx; omega
        have G5 := gg_next G4.out hs4 hg4
        have LR := gg_lies G4.out (Nat.le_refl _) L4.out.1 hg4
        have LX := gg_lies G4.out HN.out.1 L4.out.2 hg4
        obtain ⟨c0, c1, c2, c3⟩ := lies_four LR
        obtain ⟨cf0, cf1, cf2, cf3⟩ := lies_ice LR
        obtain ⟨d0, d1, d2, d3⟩ := lies_four LX
        obtain ⟨df0, df1, df2, df3⟩ := lies_ice LX
        have hne := HN.out.2
        have HG := Lib.hid (gg_set4 (gg_set G5 (b := w2.heap.size) (i := 1) HN.out.1 (.int .i64 x)) (Nat.le_refl _) (.int .i64 p) (.int .i64 x) (.int .i64 u) (.int .i64 n))
        clear hs4 hg4 G5 LR LX
        go_wp2
        refine bodyPost_ret (v := .agg (P4 p x u n)) (by simp [results, Try.results35, go_sem, c0, c1, c2, c3]) rfl ?_
        exact ⟨_, _, _, _, rfl, by omega, by omega, by omega, by omega, by omega, by omega, by omega, by omega, HG.out.1, HG.out.2.1⟩
      · have e2' : (r == 2) = false := by simpa using e2
        clear e2
        by_cases e3 : r = 3
        · subst e3
          go_wp2_with fail
          refine (pick_new [0, 30, -1] 2 3 o len cap q w3 G4.out.1 (by simp) (by simp)).mono ?_
          rintro e w4 ⟨x, rfl, hx, hs4, hg4⟩
          have hx0 : -1 ≤ x ∧ x ≤ 30 := by simp at hx; omega
          have G5 := gg_next G4.out hs4 hg4
          have LR := gg_lies G4.out (Nat.le_refl _) L4.out.1 hg4
          have LX := gg_lies G4.out HN.out.1 L4.out.2 hg4
          obtain ⟨c0, c1, c2, c3⟩ := lies_four LR
          obtain ⟨cf0, cf1, cf2, cf3⟩ := lies_ice LR
          obtain ⟨d0, d1, d2, d3⟩ := lies_four LX
          obtain ⟨df0, df1, df2, df3⟩ := lies_ice LX
          have hne := HN.out.2
          have HG := Lib.hid (gg_set4 (gg_set G5 (b := w2.heap.size) (i := 3) HN.out.1 (.int .i64 x)) (Nat.le_refl _) (.int .i64 p) (.int .i64 v) (.int .i64 u) (.int .i64 x))
          clear hs4 hg4 G5 LR LX
          go_wp2
          refine bodyPost_ret (v := .agg (P4 p v u x)) (by simp [results, Try.results35, go_sem, c0, c1, c2, c3]) rfl ?_
          exact ⟨_, _, _, _, rfl, by omega, by omega, by omega, by omega, by omega, by omega, by omega, by omega, HG.out.1, HG.out.2.1⟩
        · have e3' : (r == 3) = false := by simpa using e3
          clear e3
          obtain ⟨c0, c1, c2, c3⟩ := lies_four L4.out.1
          obtain ⟨cf0, cf1, cf2, cf3⟩ := lies_ice L4.out.1
          obtain ⟨d0, d1, d2, d3⟩ := lies_four L4.out.2
          have hne := HN.out.2
          have HG := Lib.hid (gg_set4 G4.out (Nat.le_refl _) (.int .i64 p) (.int .i64 v) (.int .i64 u) (.int .i64 n))
          go_wp2
          refine bodyPost_ret (v := .agg (P4 p v u n)) (by simp [results, Try.results35, go_sem, c0, c1, c2, c3]) rfl ?_
          exact ⟨_, _, _, _, rfl, by omega, by omega, by omega, by omega, by omega, by omega, by omega, by omega, HG.out.1, HG.out.2.1⟩
end Go.Proofs.Ytejgcamogjgdkaa
namespace Go.Proofs.Ytejgcamogjgdkaa
open Go.RowKit
set_option linter.unusedVariables false
set_option linter.unusedSimpArgs false
def OnePad (w : World) (e : Ending) (w' : World) : Prop := ∃ p v u n : Int, e = .returned (.agg (P4 p v u n)) ∧ Below w.heap.size w w'
def PadInt (w : World) (e : Ending) (w' : World) : Prop := ∃ p v u n k : Int, e = .returned (.tuple #[.agg (P4 p v u n), .int .i64 k]) ∧ Below w.heap.size w w'
def TwoPad (w : World) (e : Ending) (w' : World) : Prop := ∃ p v u n q v' u' n' : Int, e = .returned (.tuple #[.agg (P4 p v u n), .agg (P4 q v' u' n')]) ∧ Below w.heap.size w w'
def ThreeInt (w : World) (e : Ending) (w' : World) : Prop := ∃ a b c : Int, e = .returned (.tuple #[.int .i64 a, .int .i64 b, .int .i64 c]) ∧ Below w.heap.size w w'
/-- a source in use, and what is old; k blocks lie ahead of the source -/
def DD (o : Option Addr) (len cap q k : Nat) (w wz : World) : Prop := Src wz o len cap q ∧ Below w.heap.size w wz ∧ w.heap.size + k ≤ q
theorem dd_next {o : Option Addr} {len cap q k : Nat} {w w1 w2 : World} (h : DD o len cap q k w w1) (hs : Src w2 o len cap q) (hg : w1.grownBy w2 (some q)) : DD o len cap q k w w2 :=
  ⟨hs, below_draw h.2.1 hg (by have := h.2.2; omega) h.2.1.size, h.2.2⟩
theorem dd_alloc {o : Option Addr} {len cap q k : Nat} {w w1 : World} (h : DD o len cap q k w w1) (ob : Obj) : DD o len cap q k w (w1.alloc ob) := dd_next h (src_alloc h.1 ob) (World.grownBy_alloc w1 ob (some q))
theorem dd_drew {o : Option Addr} {len cap q k : Nat} {w w1 : World} (h : DD o len cap q k w w1) : DD o len cap q k w w1.drew := ⟨src_drewN h.1 1, below_drewN h.2.1 1, h.2.2⟩
theorem dd_drewN {o : Option Addr} {len cap q k : Nat} {w w1 : World} (h : DD o len cap q k w w1) (j : Nat) : DD o len cap q k w (w1.drewN j) := ⟨src_drewN h.1 j, below_drewN h.2.1 j, h.2.2⟩
theorem dd_below {o : Option Addr} {len cap q k : Nat} {w w1 w2 : World} (h : DD o len cap q k w w1) (hb : Below w1.heap.size w1 w2) : DD o len cap q k w w2 :=
  ⟨src_below h.1 hb (src_lt h.1), h.2.1.trans (hb.mono h.2.1.size), h.2.2⟩
theorem dd_set {o : Option Addr} {len cap q k : Nat} {w w1 : World} (h : DD o len cap q k w w1) {b i : Nat} (hb : q < b) (v : Value) : DD o len cap q k w (w1.setCell ⟨b, i, none⟩ v) :=
  ⟨src_set h.1 hb, h.2.1.setCell (show w.heap.size ≤ b by have := h.2.2; omega) _, h.2.2⟩
theorem k1_grown {w w1 w2 : World} {a : Array Value} {q : Nat} (h : K1 w a w1) (hg : w1.grownBy w2 (some q)) (hq : w.heap.size + 1 ≤ q) : K1 w a w2 := ⟨below_draw h.1 hg (by omega) h.1.size, lies_grown h.2 hg (by omega)⟩
theorem k2_grown {w w1 w2 : World} {a b : Array Value} {q : Nat} (h : K2 w a b w1) (hg : w1.grownBy w2 (some q)) (hq : w.heap.size + 2 ≤ q) : K2 w a b w2 :=
  ⟨below_draw h.1 hg (by omega) h.1.size, lies_grown h.2.1 hg (by omega), lies_grown h.2.2 hg (by omega)⟩
end Go.Proofs.Ytejgcamogjgdkaa
namespace Go.Proofs.Ytejgcamogjgdkaa
open Go.RowKit
set_option linter.unusedVariables false
set_option linter.unusedSimpArgs false
theorem drawDigits_any (o : Option Addr) (len cap : Nat) (w : World) (hl : len ≤ 4096) (hc : CodeIn w o len) :
    Calls Try.prog 11 #[.slice o len cap] w (OnePad w) := by
  have HC := Lib.hid (codeIn_below (B := w.heap.size) hc (show Below w.heap.size w (w.alloc (.cells (P4 0 0 0 0) 25)) from below_a1 w _))
  have HC0 := Lib.hid hc
  clear hc
  go_enter Try.func11, Try.ntmps11
  go_wp2_with fail
  refine (from_any _ _ _ _ hl HC.out).mono ?_
  rintro e w1 ⟨q, rfl, hq, hs1, hb1⟩
  have K := k1_next (k1_new w (P4 0 0 0 0)  25 ) hb1
  have D : DD o len cap q 1 w w1 := ⟨hs1, K.1, by simpa using hq⟩
  clear hs1 hb1 hq
  go_wp2_with fail
  refine (padDraw_any o len cap q _ D.1).mono ?_
  rintro e w2 ⟨p, v, u, n, rfl, _, _, _, _, _, _, _, _, hs2, hg2⟩
  have K2 := k1_grown K hg2 D.2.2
  obtain ⟨c0, c1, c2, c3⟩ := lies_four K2.2
  obtain ⟨cf0, cf1, cf2, cf3⟩ := lies_ice K2.2
  clear hs2 hg2 K D
  go_wp2
  refine bodyPost_ret (v := .agg (P4 p v u n)) (by simp [results, Try.results11, go_sem, c0, c1, c2, c3]) rfl ?_
  exact ⟨_, _, _, _, rfl, below_set4 K2.1 (by omega)⟩
theorem drawSumD_any (o : Option Addr) (len cap : Nat) (w : World) (hl : len ≤ 4096) (hc : CodeIn w o len) :
    Calls Try.prog 20 #[.slice o len cap] w (OnePad w) := by
  have HC := Lib.hid (codeIn_below (B := w.heap.size) hc (show Below w.heap.size w (w.alloc (.cells (P4 0 0 0 0) 25)) from below_a1 w _))
  have HC0 := Lib.hid hc
  clear hc
  go_enter Try.func20, Try.ntmps20
  go_wp2_with fail
  refine (from_any _ _ _ _ hl HC.out).mono ?_
  rintro e w1 ⟨q, rfl, hq, hs1, hb1⟩
  have K := k1_next (k1_new w (P4 0 0 0 0)  25 ) hb1
  have D : DD o len cap q 1 w w1 := ⟨hs1, K.1, by simpa using hq⟩
  clear hs1 hb1 hq
  go_wp2_with fail
  refine (padDraw_any o len cap q _ D.1).mono ?_
  rintro e w2 ⟨p, v, u, n, rfl, _, _, _, _, _, _, _, _, hs2, hg2⟩
  have K2 := k1_grown K hg2 D.2.2
  obtain ⟨c0, c1, c2, c3⟩ := lies_four K2.2
  obtain ⟨cf0, cf1, cf2, cf3⟩ := lies_ice K2.2
  clear hs2 hg2 K D
  go_wp2
  refine bodyPost_ret (v := .agg (P4 p v u n)) (by simp [results, Try.results20, go_sem, c0, c1, c2, c3]) rfl ?_
  exact ⟨_, _, _, _, rfl, below_set4 K2.1 (by omega)⟩
theorem drawShift_any (o : Option Addr) (len cap : Nat) (w : World) (hl : len ≤ 4096) (hc : CodeIn w o len) :
    Calls Try.prog 17 #[.slice o len cap] w (PadInt w) := by
  have HC := Lib.hid (codeIn_below (B := w.heap.size) hc (show Below w.heap.size w (w.alloc (.cells (P4 0 0 0 0) 25)) from below_a1 w _))
  have HC0 := Lib.hid hc
  clear hc
  go_enter Try.func17, Try.ntmps17
  go_wp2_with fail
  refine (from_any _ _ _ _ hl HC.out).mono ?_
  rintro e w1 ⟨q, rfl, hq, hs1, hb1⟩
  have K := k1_next (k1_new w (P4 0 0 0 0)  25 ) hb1
  have D : DD o len cap q 1 w w1 := ⟨hs1, K.1, by simpa using hq⟩
  clear hs1 hb1 hq
  go_wp2_with fail
  refine (padDraw_any o len cap q _ D.1).mono ?_
  rintro e w2 ⟨p, v, u, n, rfl, hp0, hp1, hv0, hv1, hu0, hu1, hn0, hn1, hs2, hg2⟩
  replace K := k1_grown K hg2 D.2.2
  replace D := dd_next D hs2 hg2
  clear hs2 hg2
  go_upto_region 3 with fail
  have Lx := lies_new w2 (P4 p v u n) 25
  have hlx : q < w2.heap.size := src_lt D.1
  replace D := dd_alloc D (.cells (P4 p v u n) 25)
  replace K := k1_next K (below_a1 w2 (.cells (P4 p v u n) 25))
  generalize w2.alloc (.cells (P4 p v u n) 25) = Wx at Lx D K ⊢
  obtain ⟨bx, hbx⟩ : ∃ b, w2.heap.size = b := ⟨_, rfl⟩
  rw [hbx] at Lx hlx ⊢
  clear hbx
  refine wp_region_held_drew (S := fun w' => Lies w' bx (P4 p v u n)) (by kernel_rfl) Lx (fun hHeld => ?_)
  replace D := dd_drew D
  replace K := k1_drew K
  generalize World.drew Wx = W1 at D K hHeld ⊢
  refine take_at (i := 0) (d := 10) (v := .agg #[.int .i64 p, .int .i64 v, .int .i64 u, .int .i64 n]) rfl rfl (by kernel_rfl) (by kernel_rfl) (by kernel_rfl) (fun _ _ _ h => h) (Or.inl ⟨by rfl, ?_⟩) hHeld ?_
  · intro w' hS
    obtain ⟨k0, k1, k2, k3⟩ := lies_four hS
    go_simp
  try simp only [Act.put, List.setIfInBounds_toArray, List.set_cons_zero, List.set_cons_succ]
  refine take_at (i := 1) (d := 11) (v := .pointer (some ⟨q, 0, none⟩)) rfl rfl (by kernel_rfl) (by kernel_rfl) (by kernel_rfl) (fun _ _ _ h => h) (Or.inl ⟨by rfl, ?_⟩) hHeld ?_
  · intro w' hS; go_simp
  try simp only [Act.put, List.setIfInBounds_toArray, List.set_cons_zero, List.set_cons_succ]
  refine take_at (i := 2) (d := 12) (v := .pointer (some ⟨q, 0, none⟩)) rfl rfl (by kernel_rfl) (by kernel_rfl) (by kernel_rfl) (fun _ _ _ h => h) (Or.inl ⟨by rfl, ?_⟩) hHeld ?_
  · intro w' hS; go_simp
  try simp only [Act.put, List.setIfInBounds_toArray, List.set_cons_zero, List.set_cons_succ]
  refine wpAnyH_ready (rs := [3]) (by kernel_rfl) (by simp) ?_
  refine AllReadyH.cons rfl (fun K' hK => ?_) AllReadyH.nil
  go_simp
  refine (next_any _ _ _ _ _ _ (by omega) D.1).mono ?_
  rintro e w3 ⟨r, rfl, r0, r1, hs3, hg3, hz3⟩
  go_simp
  refine hK.out _ _ (lies_grown hHeld hg3 (by omega)) (fun hHeld => ?_)
  clear hK K'
  try simp only [Act.put, List.setIfInBounds_toArray, List.set_cons_zero, List.set_cons_succ]
  have r2 : r < 21 := by omega
  have hw1 := IntWalk.i64_in (r - 10) (by omega)
  replace K := k1_grown K hg3 D.2.2
  replace D := dd_next D hs3 hg3
  clear hs3 hg3 hz3 r1
  refine take_at (i := 4) (d := 14) (v := .int .i64 (r - 10)) rfl rfl (by kernel_rfl) (by kernel_rfl) (by kernel_rfl) (fun _ _ _ h => h) (Or.inl ⟨by rfl, ?_⟩) hHeld ?_
  · intro w' hS; go_simp
  try simp only [Act.put, List.setIfInBounds_toArray, List.set_cons_zero, List.set_cons_succ]
  have HX := hHeld
  refine wpAnyH_ready (rs := [5]) (by kernel_rfl) (by simp) ?_
  refine AllReadyH.cons rfl (fun K' hK => ?_) AllReadyH.nil
  go_simp
  refine hK.out _ _ (lies_alloc hHeld _) (fun hHeld => ?_)
  clear hK K'
  try simp only [Act.put, List.setIfInBounds_toArray, List.set_cons_zero, List.set_cons_succ]
  refine wpAnyH_ready (rs := [6]) (by kernel_rfl) (by simp) ?_
  refine AllReadyH.cons rfl (fun K' hK => ?_) AllReadyH.nil
  go_simp
  refine (pick_new [r - 10, 58, -58, 60, 61] 2 5 o len cap q w3 D.1 (by simp) (by simp)).mono ?_
  rintro e w4 ⟨k, rfl, hk, hs4, hg4⟩
  go_simp
  refine hK.out _ _ (lies_grown HX hg4 (by omega)) (fun hHeld => ?_)
  clear hK K'
  try simp only [Act.put, List.setIfInBounds_toArray, List.set_cons_zero, List.set_cons_succ]
  have K2 := k1_grown K hg4 D.2.2
  obtain ⟨c0, c1, c2, c3⟩ := lies_four K2.2
  obtain ⟨cf0, cf1, cf2, cf3⟩ := lies_ice K2.2
  have hne : ¬ w.heap.size = bx := by have := D.2.2; omega
  clear hs4 hg4 hk K D HX
  refine wpAnyH_ready (rs := [7]) (by kernel_rfl) (by simp) ?_
  refine AllReadyH.cons rfl (fun K' hK => ?_) AllReadyH.nil
  go_simp
  refine hK.out _ _ (lies_other4 hHeld hne) (fun hHeld => ?_)
  clear hK K'
  try simp only [Act.put, List.setIfInBounds_toArray, List.set_cons_zero, List.set_cons_succ]
  refine take_at (i := 8) (d := 3) (v := .int .i64 k) rfl rfl (by kernel_rfl) (by kernel_rfl) (by kernel_rfl) (fun _ _ _ h => h) (Or.inl ⟨by rfl, ?_⟩) hHeld ?_
  · intro w' hS; go_simp
  try simp only [Act.put, List.setIfInBounds_toArray, List.set_cons_zero, List.set_cons_succ]
  refine wpAnyH_done (by kernel_rfl) ?_ _
  go_wp2
  refine bodyPost_ret (v := .tuple #[.agg (P4 p v u n), .int .i64 k]) (by simp [results, Try.results17, go_sem, c0, c1, c2, c3]) rfl ?_
  exact ⟨_, _, _, _, _, rfl, below_set4 K2.1 (by omega)⟩
/-- a list of digits or nearly such, drawn: a row in new memory -/
def DigsPost (w : World) (e : Ending) (w' : World) : Prop := ∃ (p k : Int) (v : Value) (l : List Int), e = .returned (.tuple #[.int .i64 p, .int .i64 k, v]) ∧ IntRow w.heap.size w' v l ∧ l.length ≤ 1000 ∧ Below w.heap.size w w'
theorem intRow_draw {w w' : World} {b p : Nat} {v : Value} {l : List Int} (h : IntRow b w v l) (hg : w.grownBy w' (some p)) (hp : p < b) : IntRow b w' v l := by
  refine World.ownsRow.kept h hg ?_
  cases hv : v.ownBlock with
  | none => exact .inl rfl
  | some k => right; intro e; have := World.ownsRow.lt h k hv; cases e; omega
/-- a row and a source in one world -/
def RS (o : Option Addr) (len cap q b : Nat) (w wz : World) (v : Value) (l : List Int) : Prop := DD o len cap q 0 w wz ∧ IntRow b wz v l ∧ q < b ∧ b ≤ wz.heap.size ∧ w.heap.size ≤ b
theorem rs_next {o : Option Addr} {len cap q b : Nat} {w w1 w2 : World} {v : Value} {l : List Int} (h : RS o len cap q b w w1 v l) (hs : Src w2 o len cap q) (hg : w1.grownBy w2 (some q)) : RS o len cap q b w w2 v l :=
  ⟨dd_next h.1 hs hg, intRow_draw h.2.1 hg h.2.2.1, h.2.2.1, Nat.le_trans h.2.2.2.1 hg.size, h.2.2.2.2⟩
theorem rs_app {o : Option Addr} {len cap q b : Nat} {w w1 w2 : World} {v v' : Value} {l : List Int} {x : Int} {ob : Obj} (h : RS o len cap q b w w1 v l) (hown : w2.ownsRow b 2 1 v' (l.length + 1) (l.map (Value.int .i64) ++ [.int .i64 x]))
    (hg : (w1.alloc ob).grownBy w2 v.ownBlock) : RS o len cap q b w w2 v' (l ++ [x]) := by
  have hB : Below b w1 w2 := ((Below.refl b w1).alloc h.2.2.2.1 ob).grown hg (by have := h.2.2.2.1; simp; omega) (fun k hk => (World.ownsRow.lt h.2.1 k hk).1)
  exact ⟨⟨src_below h.1.1 hB h.2.2.1, h.1.2.1.trans (hB.mono h.2.2.2.2), h.1.2.2⟩, intRow_snoc hown, h.2.2.1, Nat.le_trans h.2.2.2.1 hB.size, h.2.2.2.2⟩
def sliceLen (v : Value) : Nat := match v with
  | .slice _ n _ => n
  | _ => 0
set_option maxRecDepth 20000 in
set_option maxHeartbeats 3200000 in
theorem drawFrom_any (o : Option Addr) (len cap : Nat) (w : World) (hl : len ≤ 4096) (hc : CodeIn w o len) :
    Calls Try.prog 14 #[.slice o len cap] w (DigsPost w) := by
  obtain ⟨i0, hi, hz0, hz1, hz2⟩ := info_parts Try.infoInt64
  have HI := Lib.hid hi
  have HZ0 := Lib.hid hz0
  have HZ1 := Lib.hid hz1
  have HZ2 := Lib.hid hz2
  clear hi hz0 hz1 hz2
  have HC := Lib.hid (codeIn_below (B := w.heap.size) hc (show Below w.heap.size w w from Below.refl _ _))
  have HC0 := Lib.hid hc
  clear hc
  go_enter Try.func14, Try.ntmps14
  go_wp2_with fail
  refine (from_any _ _ _ _ hl HC.out).mono ?_
  rintro e w1 ⟨q, rfl, hq, hs1, hb1⟩
  have K := hb1
  have D : DD o len cap q 0 w w1 := ⟨hs1, K, by simpa using hq⟩
  clear hs1 hb1 hq
  go_wp2_with fail
  refine (drawPrime_any _ _ _ _ _ D.1).mono ?_
  rintro e w2 ⟨x, rfl, x0, x1, hs2, hg2⟩
  have D2 := dd_next D hs2 hg2
  clear hs2 hg2 K D
  have R0 : RS o len cap q w2.heap.size w (w2.alloc (.cells #[] 2)) (.slice (some ⟨w2.heap.size, 0, none⟩) 0 0) [] :=
    ⟨dd_alloc D2 _, intRow_made w2, src_lt D2.1, by simp, D2.2.1.size⟩
  go_wp2_with fail
  obtain ⟨b, hb⟩ : ∃ b, w2.heap.size = b := ⟨_, rfl⟩
  rw [hb] at R0 ⊢
  generalize w2.alloc (.cells #[] 2) = w3 at *
  clear hb D2
  refine (next_any _ _ _ _ _ _ (by omega) R0.1.1).mono ?_
  rintro e w4 ⟨r, rfl, r0, r1, hs4, hg4, hz4⟩
  have r2 : r < 8 := by omega
  have HR0 := Lib.hid (rs_next R0 hs4 hg4)
  have hx1 : 1 ≤ max 1 x := by omega
  have hx2 : max 1 x ≤ 101 := by omega
  clear hs4 hg4 hz4 r1 R0
  go_wp2_with fail
  go_loopw [7, 8] (fun s i wr => ∃ (N : Int) (l : List Int), i = .int .i64 N ∧ 0 ≤ N ∧ (l.length : Int) + N ≤ 7 ∧ RS o len cap q b w wr s l) (fun _ i _ => (intOf i).toNat)
  case atStart => exact ⟨r, [], rfl, r0, by simp; omega, HR0.out⟩
  case round =>
    obtain ⟨N, l, rfl, hN, hlN, R1⟩ := hrel
    clear HR0
    by_cases hpos : 0 < N
    · go_wp2_with fail
      refine (next_any _ _ _ _ _ _ (by omega) R1.1.1).mono ?_
      rintro e w5 ⟨y, rfl, y0, y1, hs5, hg5, hz5⟩
      have y2 : y ≤ 101 := by omega
      have R2 := rs_next R1 hs5 hg5
      clear hs5 hg5 hz5 y1 R1
      go_wp2_with fail
      refine (next_any _ _ _ _ _ _ (by omega) R2.1.1).mono ?_
      rintro e w6 ⟨z, rfl, z0, z1, hs6, hg6, hz6⟩
      have z2 : z = 0 ∨ z = 1 := by omega
      have R3 := rs_next R2 hs6 hg6
      have hw5 : IntKind.i64.wrap (y * z) = y * z := by
        rcases z2 with rfl | rfl
        · rw [Int.mul_zero]; exact IntWalk.i64_in _ (by omega)
        · rw [Int.mul_one]; exact IntWalk.i64_in _ (by omega)
      clear hs6 hg6 hz6 z1 z2 R2
      obtain ⟨o3, c3, hv⟩ := row_slice R3.2.1
      subst hv
      go_wp2_with (at_builtin; refine wpList_append_own _ rfl (.tmp 20) (.tmp 28) 27 rfl b 2 i0 (.int .i64 0) 1 8 Try.underlying27 HI.out HZ0.out HZ1.out HZ2.out rfl (by decide) _ _ _ rfl (R3.2.1.alloc _) ⟨w6.heap.size, 0, none⟩ 1 1 [.int .i64 (y * z)] rfl rfl ?c1 ?c2 ?c3 ?c4 ?c5 ?_)
      case c1 => first | exact news_one _ _ _ | simp [Addr.add]
      case c2 => first | exact one_one _ | rfl
      case c3 => unfold maxLen; omega
      case c4 => omega
      case c5 => have := R3.2.2.2.1; first | omega | (simp; omega)
      intro v' w7 hown hgrow _
      obtain ⟨oo, cc, hvv⟩ := row_slice hown
      subst hvv
      have R4 := rs_app R3 hown hgrow
      clear hown hgrow
      have HR4 := Lib.hid R4
      clear R3 R4
      go_wp2
      go_roundw
      case rel => exact ⟨N - 1, l ++ [y * z], rfl, by omega, by simp; omega, HR4.out⟩
      case measure => simp [intOf]; omega
    · have hl7 : l.length ≤ 7 := by omega
      clear hN hlN
      go_wp2_with fail
      refine (next_any _ _ _ _ _ _ (by omega) R1.1.1).mono ?_
      rintro e w5 ⟨t, rfl, t0, t1, hs5, hg5, hz5⟩
      have R2 := rs_next R1 hs5 hg5
      clear hs5 hg5 hz5 t1 R1
      by_cases ht0 : t = 0
      · subst ht0
        go_wp2_with fail
        refine (pick_new [x, -1, 0] 2 3 o len cap q w5 R2.1.1 (by simp) (by simp)).mono ?_
        rintro e w6 ⟨y, rfl, hy, hs6, hg6⟩
        have R3 := rs_next R2 hs6 hg6
        clear hs6 hg6 hy R2
        obtain ⟨o3, c3, hv⟩ := row_slice R3.2.1
        subst hv
        go_wp2_with (at_builtin; refine wpList_append_own _ rfl (.tmp 34) (.tmp 39) 27 rfl b 2 i0 (.int .i64 0) 1 8 Try.underlying27 HI.out HZ0.out HZ1.out HZ2.out rfl (by decide) _ _ _ rfl (R3.2.1.alloc _) ⟨w6.heap.size, 0, none⟩ 1 1 [.int .i64 y] rfl rfl ?c1 ?c2 ?c3 ?c4 ?c5 ?_)
        case c1 => first | exact news_one _ _ _ | simp [Addr.add]
        case c2 => first | exact one_one _ | rfl
        case c3 => unfold maxLen; omega
        case c4 => omega
        case c5 => have := R3.2.2.2.1; first | omega | (simp; omega)
        intro v' w7 hown hgrow _
        obtain ⟨oo, cc, hvv⟩ := row_slice hown
        subst hvv
        have R4 := rs_app R3 hown hgrow
        clear hown hgrow
        clear R3
        go_wp2_with fail
        refine (next_any _ _ _ _ _ _ (by omega) R4.1.1).mono ?_
        rintro e wa ⟨ra, rfl, ra0, ra1, hsa, hga, hza⟩
        have ra2 : ra < 13 := by omega
        have hwa := IntWalk.i64_in (ra - 6) (by omega)
        have Ra := rs_next R4 hsa hga
        clear hsa hga hza ra1
        go_wp2_with fail
        refine (next_any _ _ _ _ _ _ (by omega) Ra.1.1).mono ?_
        rintro e wb ⟨rb, rfl, rb0, rb1, hsb, hgb, hzb⟩
        have rb2 : rb < 13 := by omega
        have hwb := IntWalk.i64_in (rb - 6) (by omega)
        have Rb := rs_next Ra hsb hgb
        clear hsb hgb hzb rb1
        go_wp2_with fail
        refine (pick_new [0, ra - 6, rb - 6, 60, 61, -60] 2 6 o len cap q wb Rb.1.1 (by simp) (by simp)).mono ?_
        rintro e wc ⟨k, rfl, hk, hsc, hgc⟩
        have Rc := rs_next Rb hsc hgc
        clear hsc hgc hk
        go_wp2
        refine bodyPost_ret (v := .tuple #[.int .i64 x, .int .i64 k, .slice oo (l.length + 1) cc]) (by simp [results, Try.results14, go_sem]) rfl ?_
        exact ⟨_, _, _, l ++ [y], rfl, row_lower Rc.2.1 Rc.2.2.2.2, by first | omega | (simp; omega), Rc.1.2.1⟩
      · have ht0' : (t == 0) = false := by simpa using ht0
        by_cases ht1 : t = 1
        · subst ht1
          clear ht0
          have HR2 := Lib.hid R2
          clear R2
          go_wp2_with fail
          go_loopw [7] (fun s wr => ∃ l : List Int, l.length ≤ 31 ∧ RS o len cap q b w wr s l) (fun s _ => 40 - sliceLen s)
          case atStart => exact ⟨l, by omega, HR2.out⟩
          case round =>
            clear HR2 hl7
            obtain ⟨l, hl31, R5⟩ := hrel
            obtain ⟨o3, c3, hv⟩ := row_slice R5.2.1
            subst hv
            go_wp2_with fail
            refine (next_any _ _ _ _ _ _ (by omega) R5.1.1).mono ?_
            rintro e w6 ⟨z, rfl, z0, z1, hs6, hg6, hz6⟩
            have z2 : z < 2 := by omega
            have R6 := rs_next R5 hs6 hg6
            have hwz := IntWalk.i64_in (29 + z) (by omega)
            clear hs6 hg6 hz6 z1 R5
            by_cases hlz : (l.length : Int) < 29 + z
            · have hl30 : l.length ≤ 30 := by omega
              go_wp2_with (at_builtin; refine wpList_append_own _ rfl (.tmp 49) (.tmp 50) 27 rfl b 2 i0 (.int .i64 0) 1 8 Try.underlying27 HI.out HZ0.out HZ1.out HZ2.out rfl (by decide) _ _ _ rfl (R6.2.1.alloc _) ⟨w6.heap.size, 0, none⟩ 1 1 [.int .i64 1] rfl rfl ?c1 ?c2 ?c3 ?c4 ?c5 ?_)
              case c1 => first | exact news_one _ _ _ | simp [Addr.add]
              case c2 => first | exact one_one _ | rfl
              case c3 => unfold maxLen; omega
              case c4 => omega
              case c5 => have := R6.2.2.2.1; first | omega | (simp; omega)
              intro v' w7 hown hgrow _
              obtain ⟨oo, cc, hvv⟩ := row_slice hown
              subst hvv
              have R7 := rs_app R6 hown hgrow
              clear hown hgrow
              have HR7 := Lib.hid R7
              clear R6 R7
              go_wp2
              go_roundw
              case rel => exact ⟨l ++ [1], by simp; omega, HR7.out⟩
              case measure => simp [sliceLen]; omega
            · 
              go_wp2_with fail
              refine (next_any _ _ _ _ _ _ (by omega) R6.1.1).mono ?_
              rintro e wa ⟨ra, rfl, ra0, ra1, hsa, hga, hza⟩
              have ra2 : ra < 13 := by omega
              have hwa := IntWalk.i64_in (ra - 6) (by omega)
              have Ra := rs_next R6 hsa hga
              clear hsa hga hza ra1
              go_wp2_with fail
              refine (next_any _ _ _ _ _ _ (by omega) Ra.1.1).mono ?_
              rintro e wb ⟨rb, rfl, rb0, rb1, hsb, hgb, hzb⟩
              have rb2 : rb < 13 := by omega
              have hwb := IntWalk.i64_in (rb - 6) (by omega)
              have Rb := rs_next Ra hsb hgb
              clear hsb hgb hzb rb1
              go_wp2_with fail
              refine (pick_new [0, ra - 6, rb - 6, 60, 61, -60] 2 6 o len cap q wb Rb.1.1 (by simp) (by simp)).mono ?_
              rintro e wc ⟨k, rfl, hk, hsc, hgc⟩
              have Rc := rs_next Rb hsc hgc
              clear hsc hgc hk
              go_wp2
              refine bodyPost_ret (v := .tuple #[.int .i64 x, .int .i64 k, .slice o3 l.length c3]) (by simp [results, Try.results14, go_sem]) rfl ?_
              exact ⟨_, _, _, l, rfl, row_lower Rc.2.1 Rc.2.2.2.2, by first | omega | (simp; omega), Rc.1.2.1⟩
        · have ht1' : (t == 1) = false := by simpa using ht1
          clear ht0 ht1
          obtain ⟨o3, c3, hv⟩ := row_slice R2.2.1
          subst hv
          go_wp2_with fail
          refine (next_any _ _ _ _ _ _ (by omega) R2.1.1).mono ?_
          rintro e wa ⟨ra, rfl, ra0, ra1, hsa, hga, hza⟩
          have ra2 : ra < 13 := by omega
          have hwa := IntWalk.i64_in (ra - 6) (by omega)
          have Ra := rs_next R2 hsa hga
          clear hsa hga hza ra1
          go_wp2_with fail
          refine (next_any _ _ _ _ _ _ (by omega) Ra.1.1).mono ?_
          rintro e wb ⟨rb, rfl, rb0, rb1, hsb, hgb, hzb⟩
          have rb2 : rb < 13 := by omega
          have hwb := IntWalk.i64_in (rb - 6) (by omega)
          have Rb := rs_next Ra hsb hgb
          clear hsb hgb hzb rb1
          go_wp2_with fail
          refine (pick_new [0, ra - 6, rb - 6, 60, 61, -60] 2 6 o len cap q wb Rb.1.1 (by simp) (by simp)).mono ?_
          rintro e wc ⟨k, rfl, hk, hsc, hgc⟩
          have Rc := rs_next Rb hsc hgc
          clear hsc hgc hk
          go_wp2
          refine bodyPost_ret (v := .tuple #[.int .i64 x, .int .i64 k, .slice o3 l.length c3]) (by simp [results, Try.results14, go_sem]) rfl ?_
          exact ⟨_, _, _, l, rfl, row_lower Rc.2.1 Rc.2.2.2.2, by first | omega | (simp; omega), Rc.1.2.1⟩
end Go.Proofs.Ytejgcamogjgdkaa
namespace Go.Proofs.Ytejgcamogjgdkaa
open Go.RowKit
set_option linter.unusedVariables false
set_option linter.unusedSimpArgs false
/-- the sum of a list in a row -/
theorem lawSum_row (o : Option Addr) (g n c : Nat) (l : List Int) (w : World) (ho : 0 < n → o = some ⟨g, 0, none⟩) (hl : n = l.length) (hn : n ≤ 40) (hd : ∀ d ∈ l, 0 ≤ d ∧ d < 97)
    (hc : ∀ k, k < n → w.cell? ⟨g, k, none⟩ = some (.int .i64 (l.getD k 0))) :
    Calls Try.prog 24 #[.slice o n c] w fun e w' => e = .returned (.int .i64 (sumL l)) ∧ w = w' := by
  have HO := Lib.hid ho
  have HC := Lib.hid hc
  have HL := Lib.hid hl
  have HD := Lib.hid hd
  clear ho hc hl hd
  go_enter Try.func24, Try.ntmps24
  go_wp2
  go_loop [3, 4] (fun s i => ∃ k : Nat, k ≤ n ∧ i = .int .i64 k ∧ s = .int .i64 (sumL (l.take k))) (fun _ i => n - (intOf i).toNat)
  case atStart => exact ⟨0, Nat.zero_le _, rfl, rfl⟩
  case round =>
    obtain ⟨k, hk, rfl, rfl⟩ := hrel
    obtain ⟨a0, a1⟩ := sumL_bd (p := 97) (l := l.take k) (by omega) (by rw [List.length_take]; omega) fun d hd => HD.out d (List.mem_of_mem_take hd)
    by_cases hlt : k < n
    · have hkl : k < l.length := by have := HL.out; omega
      have hog := HO.out (by omega)
      subst hog
      have a2 := HC.out k hlt
      have hx := HD.out (l.getD k 0) (by simp [List.getD, hkl])
      have hs : sumL (l.take (k + 1)) = sumL (l.take k) + l.getD k 0 := by
        rw [List.take_succ_eq_append_getElem hkl, sumL_append]; simp [List.getD, hkl]
      have HS := Lib.hid hs
      generalize l.getD k 0 = x at *
      generalize sumL (l.take k) = s at *
      have hw : IntKind.i64.wrap (s + x) = s + x := IntWalk.i64_in _ (by omega)
      clear hs hkl
      go_wp2
      exact ⟨⟨k + 1, by omega, by go_num, by rw [HS.out]⟩, by simp [intOf]; omega⟩
    · have hkn : k = n := by omega
      have HE := Lib.hid (show sumL (l.take k) = sumL l by rw [List.take_of_length_le (by have := HL.out; omega)])
      clear hkn
      go_wp2
      go_ret
      exact ⟨ret_int HE.out, rfl⟩
theorem lawSum_any {base : Nat} {w : World} {v : Value} {l : List Int} (h : IntRow base w v l) (hn : l.length ≤ 40) (hd : ∀ d ∈ l, 0 ≤ d ∧ d < 97) :
    Calls Try.prog 24 #[v] w fun e w' => e = .returned (.int .i64 (sumL l)) ∧ w = w' := by
  obtain ⟨o, g, c, rfl, ho, hc⟩ := row_form h
  exact lawSum_row o g l.length c l w ho rfl hn hd hc
set_option maxHeartbeats 400000 in
theorem like_row (o1 o2 : Option Addr) (g1 g2 n c1 c2 : Nat) (l : List Int) (w : World) (h1 : 0 < n → o1 = some ⟨g1, 0, none⟩) (h2 : 0 < n → o2 = some ⟨g2, 0, none⟩) (hn : n ≤ 1000000)
    (hc1 : ∀ k, k < n → w.cell? ⟨g1, k, none⟩ = some (.int .i64 (l.getD k 0)))
    (hc2 : ∀ k, k < n → w.cell? ⟨g2, k, none⟩ = some (.int .i64 (l.getD k 0))) :
    Calls Try.prog 23 #[.slice o1 n c1, .slice o2 n c2] w fun e w' => e = .returned (.bool true) ∧ ∃ m, w' = w.drewN m := by
  have HC1 := Lib.hid hc1
  have HC2 := Lib.hid hc2
  have HO1 := Lib.hid h1
  have HO2 := Lib.hid h2
  clear hc1 hc2 h1 h2
  go_enter Try.func23, Try.ntmps23
  go_wp2
  go_loopw [5] (fun i wr => ∃ k : Nat, k ≤ n ∧ i = .int .i64 k ∧ ∃ nd, wr = w.drewN nd) (fun i _ => n - (intOf i).toNat)
  case atStart => exact ⟨0, Nat.zero_le _, rfl, 0, rfl⟩
  case round =>
    obtain ⟨k, hk, rfl, nd, rfl⟩ := hrel
    by_cases hlt : k < n
    · have e1 := HO1.out (by omega)
      have e2 := HO2.out (by omega)
      subst e1
      subst e2
      have a1 := HC1.out k hlt
      have b1 := HC2.out k hlt
      generalize l.getD k 0 = x at *
      go_wp2
      go_quiet (fail)
      go_wp2
      go_roundw
      case rel => exact ⟨k + 1, by omega, by go_num, nd + nq, by first | rfl | rw [World.drewN_drewN]⟩
      case measure => simp [intOf]; omega
    · have hkn : k = n := by omega
      clear hkn
      go_wp2
      go_ret
      exact ⟨rfl, nd, rfl⟩
theorem like_same {b1 b2 : Nat} {w : World} {v1 v2 : Value} {l : List Int} (h1 : IntRow b1 w v1 l) (h2 : IntRow b2 w v2 l) (hl : l.length ≤ 1000000) :
    Calls Try.prog 23 #[v1, v2] w fun e w' => e = .returned (.bool true) ∧ ∃ m, w' = w.drewN m := by
  obtain ⟨o1, g1, c1, rfl, p1, q1⟩ := row_form h1
  obtain ⟨o2, g2, c2, rfl, p2, q2⟩ := row_form h2
  exact like_row o1 o2 g1 g2 l.length c1 c2 l w p1 p2 hl q1 q2
set_option maxRecDepth 100000 in
set_option maxHeartbeats 4000000 in
theorem digs_core (o : Option Addr) (len cap : Nat) (w : World) (hl : len ≤ 4096) (hc : CodeIn w o len) :
    Calls Try.prog 3 #[.slice o len cap] w fun e w' => e = .returned (.bool true) ∧ Below w.heap.size w w' := by
  have HC := Lib.hid hc
  have HB : Below w.heap.size w w := Below.refl _ _
  clear hc
  go_enter Try.func3, Try.ntmps3
  go_upto_region 3 with (go_at_call 10; refine (big_no _ _ _ _ hl).mono ?_; rintro e w' ⟨rfl, rfl⟩)
  go_upto_region 4 with (first | (go_at_call 11; refine (drawDigits_any _ _ _ _ hl HC.out).mono ?_; rintro e w1 ⟨a1, a2, a3, a4, rfl, hb⟩; replace HB := HB.trans (hb.mono HB.size); replace HC := Lib.hid (codeIn_below (B := 0) HC.out hb)))
  clear hb
  have Lx := lies_new w1 (P4 a1 a2 a3 a4) 25
  replace HB := HB.trans ((below_a1 w1 (.cells (P4 a1 a2 a3 a4) 25)).mono HB.size)
  replace HC := Lib.hid (codeIn_below (B := 0) HC.out (below_a1 w1 (.cells (P4 a1 a2 a3 a4) 25)))
  generalize w1.alloc (.cells (P4 a1 a2 a3 a4) 25) = V1 at Lx  HB HC ⊢
  obtain ⟨qx, hqx⟩ : ∃ b, w1.heap.size = b := ⟨_, rfl⟩
  rw [hqx] at Lx ⊢
  clear hqx
  have A1 := fun w => implDigits_any a1 a2 a3 a4 w
  have A2 := fun w => specDigits_any a1 a2 a3 a4 w
  have hLl : (digsL a1 a2 a3 a4).length ≤ 40 := by
    unfold digsL
    split
    · rename_i hx; exact (digL_all (padB_ok hx)).1
    · simp
  obtain ⟨L, hL⟩ : ∃ L, digsL a1 a2 a3 a4 = L := ⟨_, rfl⟩
  obtain ⟨c, hC⟩ : ∃ c, negC a1 a2 a3 a4 = c := ⟨_, rfl⟩
  rw [hL, hC] at A1 A2
  rw [hL] at hLl
  have HM := Lib.hid (And.intro hL hC)
  replace A1 := Lib.hid A1
  replace A2 := Lib.hid A2
  clear hL hC
  obtain ⟨x0, x1, x2, x3⟩ := lies_four Lx
  go_upto_region 5 with (first | (go_at_call 12; refine (A1.out _).mono ?_; rintro e w2 ⟨vd, rfl, Rd, hb⟩; replace Lx := lies_next Lx hb; replace HB := HB.trans (hb.mono HB.size); replace HC := Lib.hid (codeIn_below (B := 0) HC.out hb)))
  clear x0 x1 x2 x3
  clear hb
  obtain ⟨x0, x1, x2, x3⟩ := lies_four Lx
  go_upto_region 6 with (first | (go_at_call 13; refine (A2.out _).mono ?_; rintro e w3 ⟨vm, rfl, Rm, hb⟩; replace Lx := lies_next Lx hb; replace HB := HB.trans (hb.mono HB.size); replace HC := Lib.hid (codeIn_below (B := 0) HC.out hb); replace Rd := row_below Rd hb (Nat.le_refl _)))
  clear x0 x1 x2 x3
  clear hb
  go_upto_region 7 with (first | (go_at_call 14; refine (drawFrom_any _ _ _ _ hl HC.out).mono ?_; rintro e w4 ⟨p, pl, vl, l, rfl, Rl, hll, hb⟩; replace Lx := lies_next Lx hb; replace HB := HB.trans (hb.mono HB.size); replace HC := Lib.hid (codeIn_below (B := 0) HC.out hb); replace Rd := row_below Rd hb (Nat.le_refl _); replace Rm := row_below Rm hb (Nat.le_refl _)))
  clear hb
  have F1 := fun (w : World) (v : Value) (b : Nat) (h : IntRow b w v l) => implFrom_any p pl h (by omega)
  have F2 := fun (w : World) (v : Value) (b : Nat) (h : IntRow b w v l) => specFrom_any p pl h (by omega)
  generalize fromQ p pl l = Q1 at F1 F2
  generalize fromC p pl l = C1 at F1 F2
  replace F1 := Lib.hid F1
  replace F2 := Lib.hid F2
  clear hll
  go_upto_region 8 with (first | (go_at_call 15; refine (F1.out _ _ _ Rl).mono ?_; rintro e w5 ⟨rfl, hb⟩; replace Lx := lies_next Lx hb; replace HB := HB.trans (hb.mono HB.size); replace HC := Lib.hid (codeIn_below (B := 0) HC.out hb); replace Rd := row_below Rd hb (Nat.le_refl _); replace Rm := row_below Rm hb (Nat.le_refl _); replace Rl := row_below Rl hb (Nat.le_refl _)))
  clear hb
  replace Lx := lies_alloc Lx (.cells (P4 Q1.1 Q1.2.1 Q1.2.2.1 Q1.2.2.2) 25)
  replace Rd := row_below Rd (below_a1 w5 (.cells (P4 Q1.1 Q1.2.1 Q1.2.2.1 Q1.2.2.2) 25)) (Nat.le_refl _)
  replace Rm := row_below Rm (below_a1 w5 (.cells (P4 Q1.1 Q1.2.1 Q1.2.2.1 Q1.2.2.2) 25)) (Nat.le_refl _)
  replace Rl := row_below Rl (below_a1 w5 (.cells (P4 Q1.1 Q1.2.1 Q1.2.2.1 Q1.2.2.2) 25)) (Nat.le_refl _)
  have Ly := lies_new w5 (P4 Q1.1 Q1.2.1 Q1.2.2.1 Q1.2.2.2) 25
  replace HB := HB.trans ((below_a1 w5 (.cells (P4 Q1.1 Q1.2.1 Q1.2.2.1 Q1.2.2.2) 25)).mono HB.size)
  replace HC := Lib.hid (codeIn_below (B := 0) HC.out (below_a1 w5 (.cells (P4 Q1.1 Q1.2.1 Q1.2.2.1 Q1.2.2.2) 25)))
  generalize w5.alloc (.cells (P4 Q1.1 Q1.2.1 Q1.2.2.1 Q1.2.2.2) 25) = V5 at Lx Ly Rd Rm Rl HB HC ⊢
  obtain ⟨qy, hqy⟩ : ∃ b, w5.heap.size = b := ⟨_, rfl⟩
  rw [hqy] at Ly ⊢
  clear hqy
  go_upto_region 9 with (first | (go_at_call 16; refine (F2.out _ _ _ Rl).mono ?_; rintro e w6 ⟨rfl, hb⟩; replace Lx := lies_next Lx hb; replace Ly := lies_next Ly hb; replace HB := HB.trans (hb.mono HB.size); replace HC := Lib.hid (codeIn_below (B := 0) HC.out hb); replace Rd := row_below Rd hb (Nat.le_refl _); replace Rm := row_below Rm hb (Nat.le_refl _); replace Rl := row_below Rl hb (Nat.le_refl _)))
  clear hb
  replace Lx := lies_alloc Lx (.cells (P4 Q1.1 Q1.2.1 Q1.2.2.1 Q1.2.2.2) 25)
  replace Ly := lies_alloc Ly (.cells (P4 Q1.1 Q1.2.1 Q1.2.2.1 Q1.2.2.2) 25)
  replace Rd := row_below Rd (below_a1 w6 (.cells (P4 Q1.1 Q1.2.1 Q1.2.2.1 Q1.2.2.2) 25)) (Nat.le_refl _)
  replace Rm := row_below Rm (below_a1 w6 (.cells (P4 Q1.1 Q1.2.1 Q1.2.2.1 Q1.2.2.2) 25)) (Nat.le_refl _)
  replace Rl := row_below Rl (below_a1 w6 (.cells (P4 Q1.1 Q1.2.1 Q1.2.2.1 Q1.2.2.2) 25)) (Nat.le_refl _)
  have Lf := lies_new w6 (P4 Q1.1 Q1.2.1 Q1.2.2.1 Q1.2.2.2) 25
  replace HB := HB.trans ((below_a1 w6 (.cells (P4 Q1.1 Q1.2.1 Q1.2.2.1 Q1.2.2.2) 25)).mono HB.size)
  replace HC := Lib.hid (codeIn_below (B := 0) HC.out (below_a1 w6 (.cells (P4 Q1.1 Q1.2.1 Q1.2.2.1 Q1.2.2.2) 25)))
  generalize w6.alloc (.cells (P4 Q1.1 Q1.2.1 Q1.2.2.1 Q1.2.2.2) 25) = V6 at Lx Ly Lf Rd Rm Rl HB HC ⊢
  obtain ⟨qf, hqf⟩ : ∃ b, w6.heap.size = b := ⟨_, rfl⟩
  rw [hqf] at Lf ⊢
  clear hqf
  clear Rl F1 F2
  go_upto_region 10 with (first | (go_at_call 17; refine (drawShift_any _ _ _ _ hl HC.out).mono ?_; rintro e w7 ⟨z1, z2, z3, z4, k, rfl, hb⟩; replace Lx := lies_next Lx hb; replace Ly := lies_next Ly hb; replace Lf := lies_next Lf hb; replace HB := HB.trans (hb.mono HB.size); replace HC := Lib.hid (codeIn_below (B := 0) HC.out hb); replace Rd := row_below Rd hb (Nat.le_refl _); replace Rm := row_below Rm hb (Nat.le_refl _)))
  clear hb
  replace Lx := lies_alloc Lx (.cells (P4 z1 z2 z3 z4) 25)
  replace Ly := lies_alloc Ly (.cells (P4 z1 z2 z3 z4) 25)
  replace Lf := lies_alloc Lf (.cells (P4 z1 z2 z3 z4) 25)
  replace Rd := row_below Rd (below_a1 w7 (.cells (P4 z1 z2 z3 z4) 25)) (Nat.le_refl _)
  replace Rm := row_below Rm (below_a1 w7 (.cells (P4 z1 z2 z3 z4) 25)) (Nat.le_refl _)
  have Lz := lies_new w7 (P4 z1 z2 z3 z4) 25
  replace HB := HB.trans ((below_a1 w7 (.cells (P4 z1 z2 z3 z4) 25)).mono HB.size)
  replace HC := Lib.hid (codeIn_below (B := 0) HC.out (below_a1 w7 (.cells (P4 z1 z2 z3 z4) 25)))
  generalize w7.alloc (.cells (P4 z1 z2 z3 z4) 25) = V7 at Lx Ly Lf Lz Rd Rm HB HC ⊢
  obtain ⟨qz, hqz⟩ : ∃ b, w7.heap.size = b := ⟨_, rfl⟩
  rw [hqz] at Lz ⊢
  clear hqz
  have G1 := fun w => implShift_any z1 z2 z3 z4 k w
  have G2 := fun w => specShift_any z1 z2 z3 z4 k w
  obtain ⟨Q2, hQ2⟩ : ∃ Q, shiftQ z1 z2 z3 z4 k = Q := ⟨_, rfl⟩
  obtain ⟨C2, hC2⟩ : ∃ c, shiftC z1 z2 z3 z4 k = c := ⟨_, rfl⟩
  rw [hQ2, hC2] at G1 G2
  have HS := Lib.hid (And.intro hQ2 hC2)
  replace G1 := Lib.hid G1
  replace G2 := Lib.hid G2
  clear hQ2 hC2
  obtain ⟨z0, z1, z2, z3⟩ := lies_four Lz
  go_upto_region 11 with (first | (go_at_call 18; refine (G1.out _).mono ?_; rintro e w8 ⟨rfl, hb⟩; replace Lx := lies_next Lx hb; replace Ly := lies_next Ly hb; replace Lf := lies_next Lf hb; replace Lz := lies_next Lz hb; replace HB := HB.trans (hb.mono HB.size); replace HC := Lib.hid (codeIn_below (B := 0) HC.out hb); replace Rd := row_below Rd hb (Nat.le_refl _); replace Rm := row_below Rm hb (Nat.le_refl _)))
  clear z0 z1 z2 z3
  clear hb
  replace Lx := lies_alloc Lx (.cells (P4 Q2.1 Q2.2.1 Q2.2.2.1 Q2.2.2.2) 25)
  replace Ly := lies_alloc Ly (.cells (P4 Q2.1 Q2.2.1 Q2.2.2.1 Q2.2.2.2) 25)
  replace Lf := lies_alloc Lf (.cells (P4 Q2.1 Q2.2.1 Q2.2.2.1 Q2.2.2.2) 25)
  replace Lz := lies_alloc Lz (.cells (P4 Q2.1 Q2.2.1 Q2.2.2.1 Q2.2.2.2) 25)
  replace Rd := row_below Rd (below_a1 w8 (.cells (P4 Q2.1 Q2.2.1 Q2.2.2.1 Q2.2.2.2) 25)) (Nat.le_refl _)
  replace Rm := row_below Rm (below_a1 w8 (.cells (P4 Q2.1 Q2.2.1 Q2.2.2.1 Q2.2.2.2) 25)) (Nat.le_refl _)
  have Ls := lies_new w8 (P4 Q2.1 Q2.2.1 Q2.2.2.1 Q2.2.2.2) 25
  replace HB := HB.trans ((below_a1 w8 (.cells (P4 Q2.1 Q2.2.1 Q2.2.2.1 Q2.2.2.2) 25)).mono HB.size)
  replace HC := Lib.hid (codeIn_below (B := 0) HC.out (below_a1 w8 (.cells (P4 Q2.1 Q2.2.1 Q2.2.2.1 Q2.2.2.2) 25)))
  generalize w8.alloc (.cells (P4 Q2.1 Q2.2.1 Q2.2.2.1 Q2.2.2.2) 25) = V8 at Lx Ly Lf Lz Ls Rd Rm HB HC ⊢
  obtain ⟨qs, hqs⟩ : ∃ b, w8.heap.size = b := ⟨_, rfl⟩
  rw [hqs] at Ls ⊢
  clear hqs
  obtain ⟨z0, z1, z2, z3⟩ := lies_four Lz
  go_upto_region 12 with (first | (go_at_call 19; refine (G2.out _).mono ?_; rintro e w9 ⟨rfl, hb⟩; replace Lx := lies_next Lx hb; replace Ly := lies_next Ly hb; replace Lf := lies_next Lf hb; replace Lz := lies_next Lz hb; replace Ls := lies_next Ls hb; replace HB := HB.trans (hb.mono HB.size); replace HC := Lib.hid (codeIn_below (B := 0) HC.out hb); replace Rd := row_below Rd hb (Nat.le_refl _); replace Rm := row_below Rm hb (Nat.le_refl _)))
  clear z0 z1 z2 z3
  clear hb
  replace Lx := lies_alloc Lx (.cells (P4 Q2.1 Q2.2.1 Q2.2.2.1 Q2.2.2.2) 25)
  replace Ly := lies_alloc Ly (.cells (P4 Q2.1 Q2.2.1 Q2.2.2.1 Q2.2.2.2) 25)
  replace Lf := lies_alloc Lf (.cells (P4 Q2.1 Q2.2.1 Q2.2.2.1 Q2.2.2.2) 25)
  replace Lz := lies_alloc Lz (.cells (P4 Q2.1 Q2.2.1 Q2.2.2.1 Q2.2.2.2) 25)
  replace Ls := lies_alloc Ls (.cells (P4 Q2.1 Q2.2.1 Q2.2.2.1 Q2.2.2.2) 25)
  replace Rd := row_below Rd (below_a1 w9 (.cells (P4 Q2.1 Q2.2.1 Q2.2.2.1 Q2.2.2.2) 25)) (Nat.le_refl _)
  replace Rm := row_below Rm (below_a1 w9 (.cells (P4 Q2.1 Q2.2.1 Q2.2.2.1 Q2.2.2.2) 25)) (Nat.le_refl _)
  have Lt := lies_new w9 (P4 Q2.1 Q2.2.1 Q2.2.2.1 Q2.2.2.2) 25
  replace HB := HB.trans ((below_a1 w9 (.cells (P4 Q2.1 Q2.2.1 Q2.2.2.1 Q2.2.2.2) 25)).mono HB.size)
  replace HC := Lib.hid (codeIn_below (B := 0) HC.out (below_a1 w9 (.cells (P4 Q2.1 Q2.2.1 Q2.2.2.1 Q2.2.2.2) 25)))
  generalize w9.alloc (.cells (P4 Q2.1 Q2.2.1 Q2.2.2.1 Q2.2.2.2) 25) = V9 at Lx Ly Lf Lz Ls Lt Rd Rm HB HC ⊢
  obtain ⟨qt, hqt⟩ : ∃ b, w9.heap.size = b := ⟨_, rfl⟩
  rw [hqt] at Lt ⊢
  clear hqt
  go_upto_region 13 with (first | (go_at_call 20; refine (drawSumD_any _ _ _ _ hl HC.out).mono ?_; rintro e w10 ⟨b1, b2, b3, b4, rfl, hb⟩; replace Lx := lies_next Lx hb; replace Ly := lies_next Ly hb; replace Lf := lies_next Lf hb; replace Lz := lies_next Lz hb; replace Ls := lies_next Ls hb; replace Lt := lies_next Lt hb; replace HB := HB.trans (hb.mono HB.size); replace HC := Lib.hid (codeIn_below (B := 0) HC.out hb); replace Rd := row_below Rd hb (Nat.le_refl _); replace Rm := row_below Rm hb (Nat.le_refl _)))
  clear hb
  replace Lx := lies_alloc Lx (.cells (P4 b1 b2 b3 b4) 25)
  replace Ly := lies_alloc Ly (.cells (P4 b1 b2 b3 b4) 25)
  replace Lf := lies_alloc Lf (.cells (P4 b1 b2 b3 b4) 25)
  replace Lz := lies_alloc Lz (.cells (P4 b1 b2 b3 b4) 25)
  replace Ls := lies_alloc Ls (.cells (P4 b1 b2 b3 b4) 25)
  replace Lt := lies_alloc Lt (.cells (P4 b1 b2 b3 b4) 25)
  replace Rd := row_below Rd (below_a1 w10 (.cells (P4 b1 b2 b3 b4) 25)) (Nat.le_refl _)
  replace Rm := row_below Rm (below_a1 w10 (.cells (P4 b1 b2 b3 b4) 25)) (Nat.le_refl _)
  have Lw := lies_new w10 (P4 b1 b2 b3 b4) 25
  replace HB := HB.trans ((below_a1 w10 (.cells (P4 b1 b2 b3 b4) 25)).mono HB.size)
  replace HC := Lib.hid (codeIn_below (B := 0) HC.out (below_a1 w10 (.cells (P4 b1 b2 b3 b4) 25)))
  generalize w10.alloc (.cells (P4 b1 b2 b3 b4) 25) = V10 at Lx Ly Lf Lz Ls Lt Lw Rd Rm HB HC ⊢
  obtain ⟨qw, hqw⟩ : ∃ b, w10.heap.size = b := ⟨_, rfl⟩
  rw [hqw] at Lw ⊢
  clear hqw
  clear HC
  obtain ⟨w0, w1, w2, w3⟩ := lies_four Lw
  go_upto_region 14 with (first | (go_at_call 21; refine (implSum_any _ _ _ _ _).mono ?_; rintro e w11 ⟨rfl, hb⟩; replace Lx := lies_next Lx hb; replace Ly := lies_next Ly hb; replace Lf := lies_next Lf hb; replace Lz := lies_next Lz hb; replace Ls := lies_next Ls hb; replace Lt := lies_next Lt hb; replace Lw := lies_next Lw hb; replace HB := HB.trans (hb.mono HB.size); replace Rd := row_below Rd hb (Nat.le_refl _); replace Rm := row_below Rm hb (Nat.le_refl _)))
  clear w0 w1 w2 w3
  clear hb
  obtain ⟨w0, w1, w2, w3⟩ := lies_four Lw
  go_upto_region 15 with (first | (go_at_call 22; refine (specSum_any _ _ _ _ _).mono ?_; rintro e w12 ⟨rfl, hb⟩; replace Lx := lies_next Lx hb; replace Ly := lies_next Ly hb; replace Lf := lies_next Lf hb; replace Lz := lies_next Lz hb; replace Ls := lies_next Ls hb; replace Lt := lies_next Lt hb; replace Lw := lies_next Lw hb; replace HB := HB.trans (hb.mono HB.size); replace Rd := row_below Rd hb (Nat.le_refl _); replace Rm := row_below Rm hb (Nat.le_refl _)))
  clear w0 w1 w2 w3
  clear hb
  generalize sumV b1 b2 b3 b4 = sv
  generalize negC b1 b2 b3 b4 = sc
  clear Lw
  obtain ⟨y0, y1, y2, y3⟩ := lies_four Ly
  obtain ⟨f0, f1, f2, f3⟩ := lies_four Lf
  obtain ⟨s0, s1, s2, s3⟩ := lies_four Ls
  obtain ⟨t0, t1, t2, t3⟩ := lies_four Lt
  go_upto_region 17 with (go_at_call 23; refine (like_same Rd Rm (by omega)).mono ?_; rintro e wl ⟨rfl, nd, rfl⟩)
  clear y0 y1 y2 y3 f0 f1 f2 f3 s0 s1 s2 s3 t0 t1 t2 t3 Ly Lf Lt Rm
  replace HB := below_drewN HB nd
  replace Lx := lies_drewN Lx nd
  replace Lz := lies_drewN Lz nd
  replace Ls := lies_drewN Ls nd
  replace Rd : IntRow _ (w12.drewN nd) vd L := Rd
  generalize w12.drewN nd = X at *
  by_cases h2 : C2 = 0
  · obtain ⟨hQ, hC2⟩ := HS.out
    obtain ⟨k0, k1, e1, e2, e3⟩ := shift_back (p := z1) (v := z2) (u := z3) (n := z4) (k := k) (by rw [hC2]; exact h2)
    have hq : Q2 = (z1, z2 + k, z3, z4) := by rw [← hQ]; exact e1
    have G3 := Lib.hid fun (w : World) => (show Calls Try.prog 18 #[.agg (P4 Q2.1 Q2.2.1 Q2.2.2.1 Q2.2.2.2), .int .i64 (-k)] w fun e w' => e = .returned (.tuple #[.agg (P4 z1 z2 z3 z4), .int .i64 0]) ∧ Below w.heap.size w w' by
      have := implShift_any z1 (z2 + k) z3 z4 (-k) w
      rw [e2, e3] at this
      rw [hq]
      exact this)
    have hwk : IntKind.i64.wrap (-k) = -k := IntWalk.i64_in _ (by omega)
    have h2' : (C2 == 0) = true := by simp [h2]
    clear hQ hC2 e1 e2 e3 hq h2
    obtain ⟨s0, s1, s2, s3⟩ := lies_four Ls
    go_upto_region 19 with (first | (go_at_call 18; refine (G3.out _).mono ?_; rintro e w33 ⟨rfl, hb⟩; replace Lx := lies_next Lx hb; replace Lz := lies_next Lz hb; replace Ls := lies_next Ls hb; replace HB := HB.trans (hb.mono HB.size); replace Rd := row_below Rd hb (Nat.le_refl _)))
    clear s0 s1 s2 s3
    clear hb
    replace Lx := lies_alloc Lx (.cells (P4 z1 z2 z3 z4) 25)
    replace Lz := lies_alloc Lz (.cells (P4 z1 z2 z3 z4) 25)
    replace Ls := lies_alloc Ls (.cells (P4 z1 z2 z3 z4) 25)
    replace Rd := row_below Rd (below_a1 w33 (.cells (P4 z1 z2 z3 z4) 25)) (Nat.le_refl _)
    have Lg := lies_new w33 (P4 z1 z2 z3 z4) 25
    replace HB := HB.trans ((below_a1 w33 (.cells (P4 z1 z2 z3 z4) 25)).mono HB.size)
    generalize w33.alloc (.cells (P4 z1 z2 z3 z4) 25) = V33 at Lx Lz Ls Lg Rd HB ⊢
    obtain ⟨qg, hqg⟩ : ∃ b, w33.heap.size = b := ⟨_, rfl⟩
    rw [hqg] at Lg ⊢
    clear hqg
    obtain ⟨g0, g1, g2, g3⟩ := lies_four Lg
    obtain ⟨z0, z1, z2, z3⟩ := lies_four Lz
    go_upto_region 21 with fail
    clear g0 g1 g2 g3
    clear Lg Ls Lz
    by_cases hc : c = 0
    · obtain ⟨hL, hC⟩ := HM.out
      have hx : padB a1 a2 a3 a4 = true := by
        unfold negC at hC
        split at hC
        · rename_i hb; exact hb
        · omega
      have hLe : L = digL a1 a3 a4.toNat := by rw [← hL]; simp [digsL, hx]
      obtain ⟨f1, f2⟩ := from_digits (padB_ok hx)
      rw [← hLe] at f1 f2
      have E1 := Lib.hid fun (w : World) (v : Value) (b : Nat) (h : IntRow b w v L) => (show Calls Try.prog 15 #[.int .i64 a1, .int .i64 a2, v] w fun e w' => e = .returned (.tuple #[.agg (P4 a1 a2 a3 a4), .int .i64 0]) ∧ Below w.heap.size w w' by
        have := implFrom_any a1 a2 h (by omega)
        rw [f1, f2] at this
        exact this)
      have E2 := Lib.hid fun (w : World) => (show Calls Try.prog 21 #[.agg (P4 a1 a2 a3 a4)] w fun e w' => e = .returned (.tuple #[.int .i64 (sumL L), .int .i64 0]) ∧ Below w.heap.size w w' by
        have := implSum_any a1 a2 a3 a4 w
        rw [show sumV a1 a2 a3 a4 = sumL L by simp [sumV, hx, hLe], show negC a1 a2 a3 a4 = 0 by simp [negC, hx]] at this
        exact this)
      have HD := Lib.hid (show ∀ d ∈ L, 0 ≤ d ∧ d < 97 by rw [hLe]; exact (digL_all (padB_ok hx)).2)
      have hc' : (c == 0) = true := by simp [hc]
      clear hL hC hx hLe f1 f2 hc
      obtain ⟨x0, x1, x2, x3⟩ := lies_four Lx
      go_upto_region 24 with (first | (go_at_call 15; refine (E1.out _ _ _ Rd).mono ?_; rintro e w34 ⟨rfl, hb⟩; replace Lx := lies_next Lx hb; replace HB := HB.trans (hb.mono HB.size); replace Rd := row_below Rd hb (Nat.le_refl _)))
      clear x0 x1 x2 x3
      clear hb
      replace Lx := lies_alloc Lx (.cells (P4 a1 a2 a3 a4) 25)
      replace Rd := row_below Rd (below_a1 w34 (.cells (P4 a1 a2 a3 a4) 25)) (Nat.le_refl _)
      have Lb := lies_new w34 (P4 a1 a2 a3 a4) 25
      replace HB := HB.trans ((below_a1 w34 (.cells (P4 a1 a2 a3 a4) 25)).mono HB.size)
      generalize w34.alloc (.cells (P4 a1 a2 a3 a4) 25) = V34 at Lx Lb Rd HB ⊢
      obtain ⟨qb, hqb⟩ : ∃ b, w34.heap.size = b := ⟨_, rfl⟩
      rw [hqb] at Lb ⊢
      clear hqb
      obtain ⟨x0, x1, x2, x3⟩ := lies_four Lx
      go_upto_region 25 with (first | (go_at_call 21; refine (E2.out _).mono ?_; rintro e w35 ⟨rfl, hb⟩; replace Lx := lies_next Lx hb; replace Lb := lies_next Lb hb; replace HB := HB.trans (hb.mono HB.size); replace Rd := row_below Rd hb (Nat.le_refl _)))
      clear x0 x1 x2 x3
      clear hb
      obtain ⟨x0, x1, x2, x3⟩ := lies_four Lx
      obtain ⟨b0, b1, b2, b3⟩ := lies_four Lb
      go_wp2_with (go_at_call 24; refine (lawSum_any Rd hLl HD.out).mono ?_; rintro e wl ⟨rfl, rfl⟩)
      go_ret
      exact ⟨rfl, HB⟩
    · have hc' : (c == 0) = false := by simpa using hc
      clear hc
      go_wp2_with fail
      go_ret
      exact ⟨rfl, HB⟩
  · have h2' : (C2 == 0) = false := by simpa using h2
    clear h2
    go_upto_region 21 with fail
    clear Ls Lz
    by_cases hc : c = 0
    · obtain ⟨hL, hC⟩ := HM.out
      have hx : padB a1 a2 a3 a4 = true := by
        unfold negC at hC
        split at hC
        · rename_i hb; exact hb
        · omega
      have hLe : L = digL a1 a3 a4.toNat := by rw [← hL]; simp [digsL, hx]
      obtain ⟨f1, f2⟩ := from_digits (padB_ok hx)
      rw [← hLe] at f1 f2
      have E1 := Lib.hid fun (w : World) (v : Value) (b : Nat) (h : IntRow b w v L) => (show Calls Try.prog 15 #[.int .i64 a1, .int .i64 a2, v] w fun e w' => e = .returned (.tuple #[.agg (P4 a1 a2 a3 a4), .int .i64 0]) ∧ Below w.heap.size w w' by
        have := implFrom_any a1 a2 h (by omega)
        rw [f1, f2] at this
        exact this)
      have E2 := Lib.hid fun (w : World) => (show Calls Try.prog 21 #[.agg (P4 a1 a2 a3 a4)] w fun e w' => e = .returned (.tuple #[.int .i64 (sumL L), .int .i64 0]) ∧ Below w.heap.size w w' by
        have := implSum_any a1 a2 a3 a4 w
        rw [show sumV a1 a2 a3 a4 = sumL L by simp [sumV, hx, hLe], show negC a1 a2 a3 a4 = 0 by simp [negC, hx]] at this
        exact this)
      have HD := Lib.hid (show ∀ d ∈ L, 0 ≤ d ∧ d < 97 by rw [hLe]; exact (digL_all (padB_ok hx)).2)
      have hc' : (c == 0) = true := by simp [hc]
      clear hL hC hx hLe f1 f2 hc
      obtain ⟨x0, x1, x2, x3⟩ := lies_four Lx
      go_upto_region 24 with (first | (go_at_call 15; refine (E1.out _ _ _ Rd).mono ?_; rintro e w33 ⟨rfl, hb⟩; replace Lx := lies_next Lx hb; replace HB := HB.trans (hb.mono HB.size); replace Rd := row_below Rd hb (Nat.le_refl _)))
      clear x0 x1 x2 x3
      clear hb
      replace Lx := lies_alloc Lx (.cells (P4 a1 a2 a3 a4) 25)
      replace Rd := row_below Rd (below_a1 w33 (.cells (P4 a1 a2 a3 a4) 25)) (Nat.le_refl _)
      have Lb := lies_new w33 (P4 a1 a2 a3 a4) 25
      replace HB := HB.trans ((below_a1 w33 (.cells (P4 a1 a2 a3 a4) 25)).mono HB.size)
      generalize w33.alloc (.cells (P4 a1 a2 a3 a4) 25) = V33 at Lx Lb Rd HB ⊢
      obtain ⟨qb, hqb⟩ : ∃ b, w33.heap.size = b := ⟨_, rfl⟩
      rw [hqb] at Lb ⊢
      clear hqb
      obtain ⟨x0, x1, x2, x3⟩ := lies_four Lx
      go_upto_region 25 with (first | (go_at_call 21; refine (E2.out _).mono ?_; rintro e w34 ⟨rfl, hb⟩; replace Lx := lies_next Lx hb; replace Lb := lies_next Lb hb; replace HB := HB.trans (hb.mono HB.size); replace Rd := row_below Rd hb (Nat.le_refl _)))
      clear x0 x1 x2 x3
      clear hb
      obtain ⟨x0, x1, x2, x3⟩ := lies_four Lx
      obtain ⟨b0, b1, b2, b3⟩ := lies_four Lb
      go_wp2_with (go_at_call 24; refine (lawSum_any Rd hLl HD.out).mono ?_; rintro e wl ⟨rfl, rfl⟩)
      go_ret
      exact ⟨rfl, HB⟩
    · have hc' : (c == 0) = false := by simpa using hc
      clear hc
      go_wp2_with fail
      go_ret
      exact ⟨rfl, HB⟩
set_option maxRecDepth 100000 in
theorem digs_walk (a : Option Addr) (len cap : Nat) (zs : List Int) (w : World) (h : IsRowOf .u8 w a len cap zs) :
    Calls Try.prog 3 #[.slice a len cap] w fun e w' => e = .returned (.bool true) ∧ Below w.heap.size w w' := by
  obtain ⟨hc, hm⟩ := codeIn_of h
  by_cases hl : len ≤ 4096
  · exact digs_core a len cap w hl hc
  · clear hc h
    go_enter Try.func3, Try.ntmps3
    go_wp2_with (go_at_call 10; refine (big_yes _ _ _ _ (by omega) (by omega)).mono ?_; rintro e w' ⟨rfl, rfl⟩)
    go_ret
    exact ⟨rfl, Below.refl _ _⟩
end Go.Proofs.Ytejgcamogjgdkaa
