/- The draws of chapter 12: what DivideInRing is given. (joined of several texts) -/
import Derived.Test.YtbjkcoajabcibaaRow
import Derived.Test.YtbjkcoajabcibaaPrime
import Derived.BigQuiet
import Derived.StillTailTactics
import Derived.Deep.AppendLies
import Derived.Test.YtbjkcoajabcibaaLfA
import Derived.Deep.RegionWith
import Derived.Test.YtbjkcoajabcibaaLftTopS
import Derived.Test.YtbjkcoajabcibaaHenPoly
import Derived.Test.YtbjkcoajabcibaaLfB
import Derived.Deep.RegionHeld3
namespace Go.Proofs.Ytbjkcoajabcibaa
open Go.RowKit
set_option linter.unusedVariables false
structure SrcAt (w : World) (o : Option Addr) (len cap p : Nat) (t : Nat) (s : Int) : Prop where
  c0 : w.cell? ⟨p, 0, none⟩ = some (.slice o len cap)
  c1 : w.cell? ⟨p, 1, none⟩ = some (.int .i64 t)
  c2 : w.cell? ⟨p, 2, none⟩ = some (.int .i64 s)
  fz : ∀ i, w.frozen? ⟨p, i, none⟩ = false
  ht : t ≤ len
  hl : len ≤ 4096
  s0 : 0 ≤ s
  s1 : s < 2147483647
  code : len = 0 ∨ ∃ b off, o = some ⟨b, off, none⟩ ∧ b < p ∧ ∀ i, i < len → ∃ z : Int, w.cell? ⟨b, off + i, none⟩ = some (.int .u8 z) ∧ 0 ≤ z ∧ z ≤ 255
theorem set_other {w : World} {b b' i j : Nat} {v : Value} (h : b ≠ b' ∨ i ≠ j) : (w.setCell ⟨b, i, none⟩ v).cell? ⟨b', j, none⟩ = w.cell? ⟨b', j, none⟩ :=
  World.cell?_setCell_other _ _ _ _ (by
    intro e
    have := (Addr.mk.injEq _ _ _ _ _ _).mp e
    rcases h with h | h
    · exact h this.1
    · exact h this.2.1)
theorem srcAt_seed {w : World} {o : Option Addr} {len cap p t : Nat} {s s' : Int} (h : SrcAt w o len cap p t s) (h0 : 0 ≤ s') (h1 : s' < 2147483647) :
    SrcAt (w.setCell ⟨p, 2, none⟩ (.int .i64 s')) o len cap p t s' := by
  refine ⟨?_, ?_, World.cell?_setCell_same _ _ _ h.c2, fun i => by rw [World.frozen?_setCell]; exact h.fz i, h.ht, h.hl, h0, h1, ?_⟩
  · rw [set_other (.inr (by decide))]; exact h.c0
  · rw [set_other (.inr (by decide))]; exact h.c1
  · rcases h.code with hz | ⟨b, off, ho, hb, hc⟩
    · exact .inl hz
    · refine .inr ⟨b, off, ho, hb, fun i hi => ?_⟩
      rw [set_other (.inl (by omega))]; exact hc i hi
theorem srcAt_at {w : World} {o : Option Addr} {len cap p t t' : Nat} {s : Int} (h : SrcAt w o len cap p t s) (ht : t' ≤ len) :
    SrcAt (w.setCell ⟨p, 1, none⟩ (.int .i64 t')) o len cap p t' s := by
  refine ⟨?_, World.cell?_setCell_same _ _ _ h.c1, ?_, fun i => by rw [World.frozen?_setCell]; exact h.fz i, ht, h.hl, h.s0, h.s1, ?_⟩
  · rw [set_other (.inr (by decide))]; exact h.c0
  · rw [set_other (.inr (by decide))]; exact h.c2
  · rcases h.code with hz | ⟨b, off, ho, hb, hc⟩
    · exact .inl hz
    · refine .inr ⟨b, off, ho, hb, fun i hi => ?_⟩
      rw [set_other (.inl (by omega))]; exact hc i hi
theorem srcAt_drewN {w : World} {o : Option Addr} {len cap p t : Nat} {s : Int} (h : SrcAt w o len cap p t s) (n : Nat) : SrcAt (w.drewN n) o len cap p t s :=
  ⟨h.c0, h.c1, h.c2, h.fz, h.ht, h.hl, h.s0, h.s1, h.code⟩
theorem srcAt_below {w w' : World} {B : Nat} {o : Option Addr} {len cap p t : Nat} {s : Int} (h : SrcAt w o len cap p t s) (hb : Below B w w') (hp : p < B) : SrcAt w' o len cap p t s := by
  refine ⟨?_, ?_, ?_, fun i => ?_, h.ht, h.hl, h.s0, h.s1, ?_⟩
  · rw [hb.cell (by exact hp)]; exact h.c0
  · rw [hb.cell (by exact hp)]; exact h.c1
  · rw [hb.cell (by exact hp)]; exact h.c2
  · rw [hb.frozen (by exact hp)]; exact h.fz i
  · rcases h.code with hz | ⟨b, off, ho, hbp, hc⟩
    · exact .inl hz
    · refine .inr ⟨b, off, ho, hbp, fun i hi => ?_⟩
      rw [hb.cell (by show b < B; omega)]; exact hc i hi
/-- the source of draws, wherever it stands by now -/
def Src (w : World) (o : Option Addr) (len cap p : Nat) : Prop := ∃ t s, SrcAt w o len cap p t s
theorem src_below {w w' : World} {B : Nat} {o : Option Addr} {len cap p : Nat} (h : Src w o len cap p) (hb : Below B w w') (hp : p < B) : Src w' o len cap p := by
  obtain ⟨t, s, h⟩ := h; exact ⟨t, s, srcAt_below h hb hp⟩
theorem src_drewN {w : World} {o : Option Addr} {len cap p : Nat} (h : Src w o len cap p) (n : Nat) : Src (w.drewN n) o len cap p := by
  obtain ⟨t, s, h⟩ := h; exact ⟨t, s, srcAt_drewN h n⟩
theorem src_alloc {w : World} {o : Option Addr} {len cap p : Nat} (h : Src w o len cap p) (ob : Obj) : Src (w.alloc ob) o len cap p := by
  have hp : p < w.heap.size := by obtain ⟨t, s, h⟩ := h; exact World.block_lt_of_cell? w _ h.c0
  exact src_below h ((Below.refl _ _).alloc (Nat.le_refl _) ob) hp
/-- what a draw below n answers -/
def NextPost (n : Int) (o : Option Addr) (len cap p : Nat) (w : World) (e : Ending) (w' : World) : Prop :=
  ∃ r : Int, e = .returned (.int .i64 r) ∧ 0 ≤ r ∧ (r < n ∨ r = 0) ∧ Src w' o len cap p ∧ w.grownBy w' (some p) ∧ w'.heap.size = w.heap.size
end Go.Proofs.Ytbjkcoajabcibaa
namespace Go.Proofs.Ytbjkcoajabcibaa
open Go.RowKit
set_option linter.unusedVariables false
theorem next_small (n : Int) (v : Value) (w : World) (h : n ≤ 1) :
    Calls Try.prog 71 #[v, .int .i64 n] w fun e w' => e = .returned (.int .i64 0) ∧ w = w' := by
  go_enter Try.func71, Try.ntmps71
  go_wp2
  go_ret
  exact ⟨rfl, rfl⟩
theorem nextPost_mk {n : Int} {o : Option Addr} {len cap p : Nat} {w w' : World} {x : Int} (h : 2 ≤ n) (hx : 0 ≤ x) (hs : Src w' o len cap p) (hg : w.grownBy w' (some p)) (hz : w'.heap.size = w.heap.size) {v : Value} (hv : v = .int .i64 (x % n)) :
    NextPost n o len cap p w (.returned v) w' :=
  ⟨x % n, by rw [hv], Int.emod_nonneg _ (by omega), .inl (Int.emod_lt_of_pos _ (by omega)), hs, hg, hz⟩
theorem src_end {w w1 w2 : World} {o : Option Addr} {len cap p k : Nat} {a : Addr} {v : Value} (e : w1.setCell a v = w2) (S : Src w2 o len cap p) (G : w.grownBy w2 (some p) ∧ w2.heap.size = w.heap.size) :
    Src ((w1.drewN k).setCell a v) o len cap p ∧ w.grownBy ((w1.drewN k).setCell a v) (some p) ∧ ((w1.drewN k).setCell a v).heap.size = w.heap.size := by
  subst e
  exact ⟨src_drewN S k, ⟨G.1.os, G.1.tape, G.1.output, G.1.size, G.1.block⟩, G.2⟩
theorem src_end2 {w w2 : World} {o : Option Addr} {len cap p k : Nat} (S : Src w2 o len cap p ∧ w.grownBy w2 (some p) ∧ w2.heap.size = w.heap.size) :
    Src (w2.drewN k) o len cap p ∧ w.grownBy (w2.drewN k) (some p) ∧ (w2.drewN k).heap.size = w.heap.size :=
  ⟨src_drewN S.1 k, ⟨S.2.1.os, S.2.1.tape, S.2.1.output, S.2.1.size, S.2.1.block⟩, S.2.2⟩
set_option maxHeartbeats 800000 in
theorem next_big (n : Int) (o : Option Addr) (len cap p t : Nat) (s : Int) (w : World) (h : 2 ≤ n) (hn : n ≤ 4611686018427387904) (hs : SrcAt w o len cap p t s) :
    Calls Try.prog 71 #[.pointer (some ⟨p, 0, none⟩), .int .i64 n] w (NextPost n o len cap p w) := by
  have s0 := hs.s0
  have s1 := hs.s1
  have ht := hs.ht
  have hl := hs.hl
  obtain ⟨q, hq⟩ : ∃ q, q = (s * 48271 + 29) % 2147483647 := ⟨_, rfl⟩
  have q0 : 0 ≤ q := by omega
  have q1 : q < 2147483647 := by omega
  obtain ⟨w1, hw1⟩ : ∃ w1, w1 = w.setCell ⟨p, 2, none⟩ (.int .i64 q) := ⟨_, rfl⟩
  have S1 : Hid (SrcAt w1 o len cap p t q) := by
    show SrcAt w1 o len cap p t q
    rw [hw1]; exact srcAt_seed hs q0 q1
  have G1 : Hid (w.grownBy w1 (some p) ∧ w1.heap.size = w.heap.size) := by
    show w.grownBy w1 (some p) ∧ w1.heap.size = w.heap.size
    rw [hw1]; exact ⟨grownBy_setCellAt _ _ _ _, by simp [World.setCell]⟩
  have a2 := hs.c2
  have az := hs.fz 2
  have b0 := S1.out.c0
  have b1 := S1.out.c1
  have b2 := S1.out.c2
  have bz := S1.out.fz 1
  clear hs
  have hq' := hq.symm
  clear hq
  have hw' := hw1.symm
  clear hw1
  by_cases htl : t < len
  · obtain ⟨b, off, rfl, hbp, hc⟩ : ∃ b off, o = some ⟨b, off, none⟩ ∧ b < p ∧ ∀ i, i < len → ∃ z : Int, w1.cell? ⟨b, off + i, none⟩ = some (.int .u8 z) ∧ 0 ≤ z ∧ z ≤ 255 := by
      rcases S1.out.code with h0 | h0
      · omega
      · exact h0
    obtain ⟨z, hz, z0, z1⟩ := hc t htl
    clear hc
    obtain ⟨w2, hw2⟩ : ∃ w2, w2 = w1.setCell ⟨p, 1, none⟩ (.int .i64 ((t : Int) + 1)) := ⟨_, rfl⟩
    have S2 : Hid (SrcAt w2 (some ⟨b, off, none⟩) len cap p (t + 1) q) := by
      show SrcAt w2 (some ⟨b, off, none⟩) len cap p (t + 1) q
      rw [hw2, show ((t : Int) + 1) = ((t + 1 : Nat) : Int) by omega]; exact srcAt_at S1.out (by omega)
    have G2 : Hid (w.grownBy w2 (some p) ∧ w2.heap.size = w.heap.size) := by
      show w.grownBy w2 (some p) ∧ w2.heap.size = w.heap.size
      rw [hw2]; exact ⟨grownBy_tr G1.out.1 (grownBy_setCellAt _ _ _ _), by simp [World.setCell, G1.out.2]⟩
    have d0 := S2.out.c0
    have d1 : w2.cell? ⟨p, 1, none⟩ = some (.int .i64 ((t : Int) + 1)) := S2.out.c1
    have dz : w2.cell? ⟨b, off + t, none⟩ = some (.int .u8 z) := by rw [hw2, set_other (.inl (by omega))]; exact hz
    have hw2' := hw2.symm
    clear hw2
    have n1 : decide (n ≤ 1) = false := by simp; omega
    by_cases h256 : n ≤ 256
    · by_cases hpar : ((t : Int) + 1) % 2 = 0
      · have hp' : (((t : Int) + 1) % 2 == 0) = true := by simp [hpar]
        go_enter Try.func71, Try.ntmps71
        go_wp2
        go_quiet (fail)
        go_wp2
        go_quiet (fail)
        go_wp2
        go_quiet (fail)
        go_wp2
        go_ret
        have E := fun k c => src_end2 (k := c) (src_end (k := k) hw2' ⟨_, _, S2.out⟩ G2.out)
        exact nextPost_mk (x := z) h z0 (E _ _).1 (E _ _).2.1 (E _ _).2.2 rfl
      · have hp' : (((t : Int) + 1) % 2 == 0) = false := by simp [hpar]
        go_enter Try.func71, Try.ntmps71
        go_wp2
        go_quiet (fail)
        go_wp2
        go_quiet (fail)
        go_wp2
        go_ret
        have E := fun k => src_end (k := k) hw2' ⟨_, _, S2.out⟩ G2.out
        exact nextPost_mk (x := q / 31 + z) h (by omega) (E _).1 (E _).2.1 (E _).2.2 rfl
    · go_enter Try.func71, Try.ntmps71
      go_wp2
      go_quiet (fail)
      go_wp2
      go_quiet (fail)
      go_wp2
      go_ret
      have E := fun k => src_end (k := k) hw2' ⟨_, _, S2.out⟩ G2.out
      exact nextPost_mk (x := q / 31 + z) h (by omega) (E _).1 (E _).2.1 (E _).2.2 rfl
  · have n1 : decide (n ≤ 1) = false := by simp; omega
    go_enter Try.func71, Try.ntmps71
    go_wp2
    go_quiet (fail)
    go_wp2
    go_ret
    have E := fun k => src_end2 (k := k) ⟨⟨_, _, S1.out⟩, G1.out.1, G1.out.2⟩
    exact nextPost_mk (x := q / 31) h (by omega) (E _).1 (E _).2.1 (E _).2.2 rfl
end Go.Proofs.Ytbjkcoajabcibaa
namespace Go.Proofs.Ytbjkcoajabcibaa
open Go.RowKit
set_option linter.unusedVariables false
theorem next_any (n : Int) (o : Option Addr) (len cap p : Nat) (w : World) (hn : n ≤ 4611686018427387904) (hs : Src w o len cap p) :
    Calls Try.prog 71 #[.pointer (some ⟨p, 0, none⟩), .int .i64 n] w (NextPost n o len cap p w) := by
  by_cases h : n ≤ 1
  · exact (next_small n _ w h).mono fun e w' ⟨he, hw⟩ => ⟨0, he, Int.le_refl _, .inr rfl, hw ▸ hs, hw ▸ World.grownBy.refl _ _, hw ▸ rfl⟩
  · obtain ⟨t, s, hs⟩ := hs
    exact next_big n o len cap p t s w (by omega) hn hs
/-- one of the numbers of a list -/
def PickPost (l : List Int) (o : Option Addr) (len cap p : Nat) (w : World) (e : Ending) (w' : World) : Prop :=
  ∃ r : Int, e = .returned (.int .i64 r) ∧ r ∈ l ∧ Src w' o len cap p ∧ w.grownBy w' (some p) ∧ w'.heap.size = w.heap.size
theorem pick_any (l : List Int) (g c : Nat) (o : Option Addr) (len cap p : Nat) (w : World) (hs : Src w o len cap p) (hgp : g ≠ p) (h0 : 0 < l.length) (h1 : l.length ≤ 1000)
    (hc : ∀ k, k < l.length → w.cell? ⟨g, k, none⟩ = some (.int .i64 (l.getD k 0))) :
    Calls Try.prog 128 #[.pointer (some ⟨p, 0, none⟩), .slice (some ⟨g, 0, none⟩) l.length c] w (PickPost l o len cap p w) := by
  have HS := Lib.hid hs
  have HC := Lib.hid hc
  clear hs hc
  go_enter Try.func128, Try.ntmps128
  go_wp2_with fail
  refine (next_any _ _ _ _ _ _ (by omega) HS.out).mono ?_
  rintro e w1 ⟨r, rfl, hr0, hr1, hsr, hgr, hzr⟩
  have hr2 : r < (l.length : Int) := by omega
  have hc := HC.out r.toNat (by omega)
  rw [← World.grownBy.cell_far hgr ⟨g, r.toNat, none⟩ (World.block_lt_of_cell? w _ hc) (by simpa using hgp)] at hc
  obtain ⟨x, hx⟩ : ∃ x, l.getD r.toNat 0 = x := ⟨_, rfl⟩
  rw [hx] at hc
  have HX : Hid (x ∈ l) := by
    show x ∈ l
    have hlt : r.toNat < l.length := by omega
    rw [← hx, show l.getD r.toNat 0 = l[r.toNat] by simp [List.getD, hlt]]; exact List.getElem_mem _
  have HR := Lib.hid (And.intro hsr (And.intro hgr hzr))
  clear hx hr1 hsr hgr hzr
  go_wp2
  go_ret
  exact ⟨x, rfl, HX.out, HR.out⟩
/-- a value or nearly one -/
def DrawnPost (lo hi : Int) (o : Option Addr) (len cap p : Nat) (w : World) (e : Ending) (w' : World) : Prop :=
  ∃ r : Int, e = .returned (.int .i64 r) ∧ lo ≤ r ∧ r ≤ hi ∧ Src w' o len cap p ∧ w.grownBy w' (some p)
/-- a literal list of numbers, laid in a new block -/
theorem cells_new (w : World) (l : List Int) (T : TypeId) : ∀ k, k < l.length → (w.alloc (.cells (l.map (Value.int .i64)).toArray T)).cell? ⟨w.heap.size, k, none⟩ = some (.int .i64 (l.getD k 0)) := by
  intro k hk
  rw [World.cell?_alloc_new]
  simp [hk]
theorem src_lt {w : World} {o : Option Addr} {len cap p : Nat} (h : Src w o len cap p) : p < w.heap.size := by
  obtain ⟨t, s, h⟩ := h; exact World.block_lt_of_cell? w _ h.c0
/-- l01Pick over a list that has just been laid -/
theorem pick_new (l : List Int) (T : TypeId) (c : Nat) (o : Option Addr) (len cap p : Nat) (w : World) (hs : Src w o len cap p) (h0 : 0 < l.length) (h1 : l.length ≤ 1000) :
    Calls Try.prog 128 #[.pointer (some ⟨p, 0, none⟩), .slice (some ⟨w.heap.size, 0, none⟩) l.length c] (w.alloc (.cells (l.map (Value.int .i64)).toArray T)) fun e w' =>
      ∃ r : Int, e = .returned (.int .i64 r) ∧ r ∈ l ∧ Src w' o len cap p ∧ w.grownBy w' (some p) := by
  refine (pick_any l w.heap.size c o len cap p _ (src_alloc hs _) (by have := src_lt hs; omega) h0 h1 (cells_new w l T)).mono fun e w' ⟨r, he, hr, h2, h3, h4⟩ => ⟨r, he, hr, h2, grownBy_tr (World.grownBy_alloc w _ _) h3⟩
end Go.Proofs.Ytbjkcoajabcibaa
namespace Go.Proofs.Ytbjkcoajabcibaa
open Go.RowKit
set_option linter.unusedVariables false
/-- a code that came in -/
def CodeIn (w : World) (o : Option Addr) (len : Nat) : Prop :=
  len = 0 ∨ ∃ b off, o = some ⟨b, off, none⟩ ∧ b < w.heap.size ∧ ∀ i, i < len → ∃ z : Int, w.cell? ⟨b, off + i, none⟩ = some (.int .u8 z) ∧ 0 ≤ z ∧ z ≤ 255
def FromPost (o : Option Addr) (len cap : Nat) (w : World) (e : Ending) (w' : World) : Prop :=
  ∃ p, e = .returned (.pointer (some ⟨p, 0, none⟩)) ∧ w.heap.size ≤ p ∧ Src w' o len cap p ∧ Below w.heap.size w w'
theorem srcAt_new (w : World) (o : Option Addr) (len cap : Nat) (T : TypeId) (hl : len ≤ 4096) (hc : CodeIn w o len) :
    SrcAt (w.alloc (.cells #[.slice o len cap, .int .i64 0, .int .i64 31019] T)) o len cap w.heap.size 0 31019 := by
  refine ⟨?_, ?_, ?_, fun i => World.frozen?_alloc_at _ _ _ _ rfl, Nat.zero_le _, hl, by omega, by omega, ?_⟩
  · rw [World.cell?_alloc_new]; rfl
  · rw [World.cell?_alloc_new]; rfl
  · rw [World.cell?_alloc_new]; rfl
  · rcases hc with h0 | ⟨b, off, ho, hb, hc⟩
    · exact .inl h0
    · refine .inr ⟨b, off, ho, hb, fun i hi => ?_⟩
      rw [World.cell?_alloc_past _ _ _ hb]; exact hc i hi
set_option maxRecDepth 20000 in
set_option maxHeartbeats 800000 in
theorem from_any (o : Option Addr) (len cap : Nat) (w : World) (hl : len ≤ 4096) (hc : CodeIn w o len) :
    Calls Try.prog 63 #[.slice o len cap] w (FromPost o len cap w) := by
  have HN := Lib.hid (srcAt_new w o len cap 119 hl hc)
  clear hc
  go_enter Try.func63, Try.ntmps63
  go_wp2
  go_loopw [4] (fun i wr => ∃ (k : Nat) (s : Int), k ≤ len ∧ i = .int .i64 k ∧ SrcAt wr o len cap w.heap.size 0 s ∧ Below w.heap.size w wr) (fun i _ => len - (intOf i).toNat)
  case atStart => exact ⟨0, 31019, Nat.zero_le _, rfl, HN.out, (Below.refl _ _).alloc (Nat.le_refl _) _⟩
  case round =>
    obtain ⟨k, s, hk, rfl, hs, hb⟩ := hrel
    have s0 := hs.s0
    have s1 := hs.s1
    have a2 := hs.c2
    have az := hs.fz 2
    have HS := Lib.hid hs
    have HB := Lib.hid hb
    clear hs hb HN
    by_cases hlt : k < len
    · by_cases h64 : k < 64
      · obtain ⟨b, off, rfl, hbp, hc⟩ : ∃ b off, o = some ⟨b, off, none⟩ ∧ b < w.heap.size ∧ ∀ i, i < len → ∃ z : Int, wr.cell? ⟨b, off + i, none⟩ = some (.int .u8 z) ∧ 0 ≤ z ∧ z ≤ 255 := by
          rcases HS.out.code with h0 | h0
          · omega
          · exact h0
        obtain ⟨z, hz, z0, z1⟩ := hc k hlt
        clear hc
        go_wp2
        go_still_tail 15, (by kernel_rfl)
        go_wp2
        exact ⟨⟨k + 1, (s * 61 + z) % 2147483647, by omega, by go_num, srcAt_drewN (srcAt_seed HS.out (by omega) (by omega)) 1, (HB.out.setCell (Nat.le_refl _) _).drew⟩, by simp only [intOf]; omega⟩
      · go_wp2
        go_ret
        exact ⟨_, rfl, Nat.le_refl _, ⟨_, _, HS.out⟩, HB.out⟩
    · go_wp2
      go_ret
      exact ⟨_, rfl, Nat.le_refl _, ⟨_, _, HS.out⟩, HB.out⟩
end Go.Proofs.Ytbjkcoajabcibaa
namespace Go.Proofs.Ytbjkcoajabcibaa
open Go.RowKit
set_option linter.unusedVariables false
theorem prod_bd {k r : Int} (h1 : 1 ≤ k) (h2 : k ≤ 40) (h3 : 0 ≤ r) (h4 : r ≤ 200) : -4000 ≤ k * (r - 100) ∧ k * (r - 100) ≤ 4000 := by
  have : (k * (r - 100)).natAbs ≤ 40 * 100 := by
    rw [Int.natAbs_mul]; exact Nat.mul_le_mul (by omega) (by omega)
  omega
/-- two numbers, drawn -/
def TwoPost (w : World) (e : Ending) (w' : World) : Prop := ∃ a b : Int, e = .returned (.tuple #[.int .i64 a, .int .i64 b]) ∧ Below w.heap.size w w'
def OnePost (w : World) (e : Ending) (w' : World) : Prop := ∃ a : Int, e = .returned (.int .i64 a) ∧ Below w.heap.size w w'
/-- a step of drawing, below the source's block -/
theorem below_draw {B p : Nat} {a w w' : World} (h : Below B a w) (hg : w.grownBy w' (some p)) (hp : B ≤ p) (hw : B ≤ w.heap.size) : Below B a w' :=
  h.grown hg hw (fun k hk => by cases hk; exact hp)
theorem big_no (o : Option Addr) (len cap : Nat) (w : World) (hl : len ≤ 4096) :
    Calls Try.prog 14 #[.slice o len cap] w fun e w' => e = .returned (.bool false) ∧ w = w' := by
  go_enter Try.func14, Try.ntmps14
  go_wp2
  go_ret
  exact ⟨ret_bool (decide_eq_false (by omega)), rfl⟩
theorem big_yes (o : Option Addr) (len cap : Nat) (w : World) (hl : 4096 < len) (hm : len ≤ 9223372036854775807) :
    Calls Try.prog 14 #[.slice o len cap] w fun e w' => e = .returned (.bool true) ∧ w = w' := by
  go_enter Try.func14, Try.ntmps14
  go_wp2
  go_ret
  exact ⟨ret_bool (decide_eq_true (by omega)), rfl⟩
theorem codeIn_below {w w' : World} {B : Nat} {o : Option Addr} {len : Nat} (h : CodeIn w o len) (hb : Below w.heap.size w w') : CodeIn w' o len := by
  rcases h with h | ⟨b, off, ho, hlt, hc⟩
  · exact .inl h
  · exact .inr ⟨b, off, ho, Nat.lt_of_lt_of_le hlt hb.size, fun i hi => by rw [hb.cell (by exact hlt)]; exact hc i hi⟩
end Go.Proofs.Ytbjkcoajabcibaa
namespace Go.Proofs.Ytbjkcoajabcibaa
open Go.RowKit
set_option linter.unusedVariables false
set_option maxHeartbeats 400000 in
theorem drawPrime_any (o : Option Addr) (len cap p : Nat) (w : World) (hs : Src w o len cap p) :
    Calls Try.prog 127 #[.pointer (some ⟨p, 0, none⟩)] w (DrawnPost (-3) 101 o len cap p w) := by
  have HS := Lib.hid hs
  clear hs
  go_enter Try.func127, Try.ntmps127
  go_wp2_with fail
  refine (next_any _ _ _ _ _ _ (by omega) HS.out).mono ?_
  rintro e w1 ⟨r1, rfl, r10, r11, hs1, hg1, hz1⟩
  have H1 := Lib.hid (And.intro hs1 hg1)
  clear hs1 hg1 hz1 r11
  by_cases hr : r1 = 0
  · subst hr
    go_wp2_with fail
    refine (pick_new [1, 4, 0, 97, 101, -3, 9] 2 7 o len cap p w1 H1.out.1 (by simp) (by simp)).mono ?_
    rintro e w2 ⟨x, rfl, hx, hs2, hg2⟩
    have hb : -3 ≤ x ∧ x ≤ 101 := by simp at hx; omega
    have H2 := Lib.hid (And.intro hb (And.intro hs2 (grownBy_tr H1.out.2 hg2)))
    clear hx hs2 hg2 hb
    go_wp2
    go_ret
    exact ⟨x, rfl, H2.out.1.1, H2.out.1.2, H2.out.2.1, H2.out.2.2⟩
  · have hr' : (r1 == 0) = false := by simpa using hr
    clear hr
    go_wp2_with fail
    refine (pick_new [2, 3, 5, 7, 2, 3, 5, 11, 13, 17, 31] 2 11 o len cap p w1 H1.out.1 (by simp) (by simp)).mono ?_
    rintro e w2 ⟨x, rfl, hx, hs2, hg2⟩
    have hb : -3 ≤ x ∧ x ≤ 101 := by simp at hx; omega
    have H2 := Lib.hid (And.intro hb (And.intro hs2 (grownBy_tr H1.out.2 hg2)))
    clear hx hs2 hg2 hb
    go_wp2
    go_ret
    exact ⟨x, rfl, H2.out.1.1, H2.out.1.2, H2.out.2.1, H2.out.2.2⟩
end Go.Proofs.Ytbjkcoajabcibaa
namespace Go.Proofs.Ytbjkcoajabcibaa
open Go.RowKit
set_option linter.unusedVariables false
/-- a ring, drawn -/
def RingPost (o : Option Addr) (len cap q : Nat) (w : World) (e : Ending) (w' : World) : Prop :=
  ∃ p n : Int, e = .returned (.agg #[.int .i64 p, .int .i64 n]) ∧ -3 ≤ p ∧ p ≤ 101 ∧ -1 ≤ n ∧ n ≤ 30 ∧ Src w' o len cap q ∧ w.grownBy w' (some q)
theorem valid_ring {p n : Int} (hp : p ∈ [2, 3, 5, 7, 2, 3, 5, 11, 13]) (h1 : 1 ≤ n) (h2 : n ≤ 6) : smallB p = true ∧ ringM p n ≠ 0 := by
  have hs : smallB p = true := by
    simp only [List.mem_cons, List.not_mem_nil, or_false] at hp
    rcases hp with rfl | rfl | rfl | rfl | rfl | rfl | rfl | rfl | rfl <;> decide
  have hb : 2 ≤ p ∧ p ≤ 13 := by simp at hp; omega
  refine ⟨hs, ?_⟩
  have e1 := pow_le hb.1 (show n.toNat ≤ 6 by omega)
  have e2 : p ^ 6 ≤ 4826809 := by
    simp only [List.mem_cons, List.not_mem_nil, or_false] at hp
    rcases hp with rfl | rfl | rfl | rfl | rfl | rfl | rfl | rfl | rfl <;> decide
  have e3 := pow_ge1 hb.1 n.toNat
  unfold ringM
  rw [hs, decide_eq_true h1, decide_eq_true (show p ^ n.toNat ≤ 1000000000 by omega)]
  simp; omega
theorem src_set {w : World} {o : Option Addr} {len cap q b i : Nat} {v : Value} (h : Src w o len cap q) (hb : q < b) : Src (w.setCell ⟨b, i, none⟩ v) o len cap q := by
  obtain ⟨t, s, h⟩ := h
  refine ⟨t, s, ?_, ?_, ?_, fun i => by rw [World.frozen?_setCell]; exact h.fz i, h.ht, h.hl, h.s0, h.s1, ?_⟩
  · rw [set_other (.inl (by omega))]; exact h.c0
  · rw [set_other (.inl (by omega))]; exact h.c1
  · rw [set_other (.inl (by omega))]; exact h.c2
  · rcases h.code with hz | ⟨b, off, ho, hbp, hc⟩
    · exact .inl hz
    · refine .inr ⟨b, off, ho, hbp, fun i hi => ?_⟩
      rw [set_other (.inl (by omega))]; exact hc i hi
theorem grown_set {w w' : World} {q b i : Nat} {v : Value} (h : w.grownBy w' (some q)) (hb : w.heap.size ≤ b) : w.grownBy (w'.setCell ⟨b, i, none⟩ v) (some q) :=
  ⟨h.os, h.tape, h.output, by simpa using h.size, fun k hk hn => by rw [Below.heap_setCell _ _ _ _ (by show k ≠ b; omega)]; exact h.block k hk hn⟩
/-- l01Pick over a list laid in a block whose number is written out -/
theorem pick_at (l : List Int) (T : TypeId) (c : Nat) (o : Option Addr) (len cap p g : Nat) (w : World) (hg : w.heap.size = g) (hs : Src w o len cap p) (h0 : 0 < l.length) (h1 : l.length ≤ 1000) :
    Calls Try.prog 128 #[.pointer (some ⟨p, 0, none⟩), .slice (some ⟨g, 0, none⟩) l.length c] (w.alloc (.cells (l.map (Value.int .i64)).toArray T)) fun e w' =>
      ∃ r : Int, e = .returned (.int .i64 r) ∧ r ∈ l ∧ Src w' o len cap p ∧ w.grownBy w' (some p) := by
  subst hg; exact pick_new l T c o len cap p w hs h0 h1
theorem ring_block {w w2 : World} {a b : Value} {T : TypeId} (h : w2.heap[w.heap.size]? = (w.alloc (.cells #[a, b] T)).heap[w.heap.size]?) :
    w2.cell? ⟨w.heap.size, 0, none⟩ = some a ∧ w2.cell? ⟨w.heap.size, 1, none⟩ = some b ∧ w2.frozen? ⟨w.heap.size, 0, none⟩ = false ∧ w2.frozen? ⟨w.heap.size, 1, none⟩ = false := by
  refine ⟨?_, ?_, ?_, ?_⟩
  · rw [World.cell?_of_block (w := w.alloc (.cells #[a, b] T)) (a := ⟨w.heap.size, 0, none⟩) h, World.cell?_alloc_new]; rfl
  · rw [World.cell?_of_block (w := w.alloc (.cells #[a, b] T)) (a := ⟨w.heap.size, 1, none⟩) h, World.cell?_alloc_new]; rfl
  · rw [World.frozen?_of_block (w := w.alloc (.cells #[a, b] T)) (a := ⟨w.heap.size, 0, none⟩) h]; exact World.frozen?_alloc_at _ _ _ _ rfl
  · rw [World.frozen?_of_block (w := w.alloc (.cells #[a, b] T)) (a := ⟨w.heap.size, 1, none⟩) h]; exact World.frozen?_alloc_at _ _ _ _ rfl
set_option maxHeartbeats 400000 in
theorem valid_any (o : Option Addr) (len cap q : Nat) (w : World) (hs : Src w o len cap q) :
    Calls Try.prog 126 #[.pointer (some ⟨q, 0, none⟩)] w (RingPost o len cap q w) := by
  have hq := src_lt hs
  have HS := Lib.hid (src_alloc hs (.cells #[.int .i64 0, .int .i64 0] 25))
  have HG := Lib.hid (World.grownBy_alloc w (.cells #[.int .i64 0, .int .i64 0] 25) (some q))
  have HQ := Lib.hid hq
  clear hs hq
  go_enter Try.func126, Try.ntmps126
  go_wp2_with fail
  refine (pick_at [2, 3, 5, 7, 2, 3, 5, 11, 13] 2 9 o len cap q _ _ (by simp) HS.out (by simp) (by simp)).mono ?_
  rintro e w1 ⟨p, rfl, hp, hs1, hg1⟩
  have HP := Lib.hid hp
  have H1 := Lib.hid (And.intro hs1 (grownBy_tr HG.out hg1))
  have hpb : 2 ≤ p ∧ p ≤ 13 := by simp at hp; omega
  have hb1 := hg1.block w.heap.size (by simp) (by have := HQ.out; simp; omega)
  have hlt : w.heap.size < w1.heap.size := Nat.lt_of_lt_of_le (by simp) hg1.size
  have C1 := Lib.hid (And.intro hlt hb1)
  clear hp hs1 hg1 hb1 hlt
  go_wp2_with fail
  refine (next_any _ _ _ _ _ _ (by omega) H1.out.1).mono ?_
  rintro e w2 ⟨r, rfl, r0, r1, hs2, hg2, hz2⟩
  have H2 := Lib.hid (And.intro hs2 (grownBy_tr H1.out.2 hg2))
  have C2 := Lib.hid ((hg2.block w.heap.size C1.out.1 (by have := HQ.out; simp; omega)).trans C1.out.2)
  have r2 : r < 6 := by omega
  have HV := Lib.hid (valid_ring (n := 1 + r) HP.out (by omega) (by omega))
  have hz : (ringM p (1 + r) == 0) = false := by simpa using HV.out.2
  obtain ⟨n, hn⟩ : ∃ n, 1 + r = n := ⟨_, rfl⟩
  have hn1 : 1 ≤ n := by omega
  have hn2 : n ≤ 6 := by omega
  have hn3 : n ≤ 1000 := by omega
  rw [hn] at HV hz
  clear hs2 hg2 hz2 r1
  go_wp2
  go_loop [4] (fun v => v = .int .i64 n) (fun _ => 0)
  case atStart => exact rfl
  case round =>
    subst hrel
    obtain ⟨d0, d1, f0, f1⟩ := ring_block C2.out
    go_wp2_with (go_at_call 70; refine (l02Modulus_any _ _ _ HV.out.1 hn1 hn3).mono ?_; rintro e w' ⟨rfl, rfl⟩)
    have hq := HQ.out
    refine bodyPost_ret (v := .agg #[.int .i64 p, .int .i64 n]) (by simp [results, Try.results126, go_sem, d0, d1]) rfl ?_
    exact ⟨_, _, rfl, by omega, by omega, by omega, by omega, src_set (src_set H2.out.1 hq) hq, grown_set (grown_set H2.out.2 (Nat.le_refl _)) (Nat.le_refl _)⟩
theorem block_alloc {w : World} (o : Obj) {k : Nat} (h : k < w.heap.size) : (w.alloc o).heap[k]? = w.heap[k]? := Below.heap_alloc w o k h
set_option maxHeartbeats 800000 in
theorem ringDraw_any (o : Option Addr) (len cap q : Nat) (w : World) (hs : Src w o len cap q) :
    Calls Try.prog 76 #[.pointer (some ⟨q, 0, none⟩)] w (RingPost o len cap q w) := by
  have hq := src_lt hs
  have HS := Lib.hid (src_alloc hs (.cells #[.int .i64 0, .int .i64 0] 25))
  have HG := Lib.hid (World.grownBy_alloc w (.cells #[.int .i64 0, .int .i64 0] 25) (some q))
  have HQ := Lib.hid hq
  clear hs hq
  go_enter Try.func76, Try.ntmps76
  go_wp2_with fail
  refine (valid_any o len cap q _ HS.out).mono ?_
  rintro e w1 ⟨p, n, rfl, hp1, hp2, hn1, hn2, hs1, hg1⟩
  have hb1 := hg1.block w.heap.size (by simp) (by have := HQ.out; simp; omega)
  have hlt : w.heap.size < w1.heap.size := Nat.lt_of_lt_of_le (by simp) hg1.size
  have C1 := Lib.hid (And.intro hlt hb1)
  have hq1 := src_lt hs1
  have HQ1 := Lib.hid hq1
  have H1 := Lib.hid (And.intro (src_alloc hs1 (.cells #[.int .i64 p, .int .i64 n] 25)) (grownBy_tr (grownBy_tr HG.out hg1) (World.grownBy_alloc w1 (.cells #[.int .i64 p, .int .i64 n] 25) (some q))))
  clear hs1 hg1 hb1 hlt hq1
  go_wp2_with fail
  refine (next_any _ _ _ _ _ _ (by omega) H1.out.1).mono ?_
  rintro e w2 ⟨r, rfl, r0, r1, hs2, hg2, hz2⟩
  have H2 := Lib.hid (And.intro hs2 (grownBy_tr H1.out.2 hg2))
  have C2 := Lib.hid ((hg2.block w.heap.size (by simp; have := C1.out.1; omega) (by have := HQ.out; simp; omega)).trans ((block_alloc _ C1.out.1).trans C1.out.2))
  have R2 := Lib.hid (hg2.block w1.heap.size (by simp) (by have := HQ1.out; simp; omega))
  have r2 : r < 20 := by omega
  have hz2b : w1.heap.size < w2.heap.size := Nat.lt_of_lt_of_le (by simp) hg2.size
  have hne : ¬ w1.heap.size = w.heap.size := by have := C1.out.1; omega
  have HN := Lib.hid (And.intro hne (And.intro hz2b (show w.heap.size < w2.heap.size by have := C1.out.1; omega)))
  have hqn : q < w1.heap.size := HQ1.out
  have HE := Lib.hid hqn
  clear hs2 hg2 hz2 r1 hz2b hqn
  by_cases e0 : r = 0
  · subst e0
    go_wp2_with fail
    refine (drawPrime_any _ _ _ _ _ H2.out.1).mono ?_
    rintro e w3 ⟨x, rfl, hx0, hx1, hs3, hg3⟩
    have H3 := Lib.hid (And.intro hs3 (grownBy_tr H2.out.2 hg3))
    have C3 := Lib.hid ((hg3.block w.heap.size HN.out.2.2 (by have := HQ.out; simp; omega)).trans C2.out)
    have R3 := Lib.hid ((hg3.block w1.heap.size HN.out.2.1 (by have := HE.out; simp; omega)).trans R2.out)
    clear hs3 hg3
    obtain ⟨d0, d1, f0, f1⟩ := ring_block C3.out
    obtain ⟨x0, x1, g0, g1⟩ := ring_block R3.out
    have hq := HQ.out
    have hq1 := HE.out
    have hw1 := Nat.le_of_lt C1.out.1
    go_wp2
    refine bodyPost_ret (v := .agg #[.int .i64 x, .int .i64 n]) (by simp [results, Try.results76, go_sem, d0, d1]) rfl ?_
    exact ⟨_, _, rfl, by omega, by omega, by omega, by omega, src_set (src_set (src_set H3.out.1 hq1) hq) hq, grown_set (grown_set (grown_set H3.out.2 hw1) (Nat.le_refl _)) (Nat.le_refl _)⟩
  · have e0' : (r == 0) = false := by simp [e0]
    by_cases e1 : r = 1
    · subst e1
      go_wp2_with fail
      refine (pick_new [0, 1, 29, 30, 12, -1] 2 6 o len cap q w2 H2.out.1 (by simp) (by simp)).mono ?_
      rintro e w3 ⟨x, rfl, hx, hs3, hg3⟩
      have hx0 : -1 ≤ x ∧ x ≤ 30 := by simp at hx; omega
      have H3 := Lib.hid (And.intro hs3 (grownBy_tr H2.out.2 hg3))
      have C3 := Lib.hid ((hg3.block w.heap.size HN.out.2.2 (by have := HQ.out; simp; omega)).trans C2.out)
      have R3 := Lib.hid ((hg3.block w1.heap.size HN.out.2.1 (by have := HE.out; simp; omega)).trans R2.out)
      clear hs3 hg3 hx
      obtain ⟨x0, x1, g0, g1⟩ := ring_block R3.out
      have hq := HQ.out
      have hq1 := HE.out
      have hw1 := Nat.le_of_lt C1.out.1
      obtain ⟨d0, d1, f0, f1⟩ := ring_block C3.out
      go_wp2
      refine bodyPost_ret (v := .agg #[.int .i64 p, .int .i64 x]) (by simp [results, Try.results76, go_sem, d0, d1]) rfl ?_
      exact ⟨_, _, rfl, by omega, by omega, by omega, by omega, src_set (src_set (src_set H3.out.1 hq1) hq) hq, grown_set (grown_set (grown_set H3.out.2 hw1) (Nat.le_refl _)) (Nat.le_refl _)⟩
    · have e1' : (r == 1) = false := by simp [e1]
      obtain ⟨d0, d1, f0, f1⟩ := ring_block C2.out
      obtain ⟨x0, x1, g0, g1⟩ := ring_block R2.out
      have hq := HQ.out
      go_wp2
      refine bodyPost_ret (v := .agg #[.int .i64 p, .int .i64 n]) (by simp [results, Try.results76, go_sem, d0, d1]) rfl ?_
      exact ⟨_, _, rfl, by omega, by omega, by omega, by omega, src_set (src_set H2.out.1 hq) hq, grown_set (grown_set H2.out.2 (Nat.le_refl _)) (Nat.le_refl _)⟩
end Go.Proofs.Ytbjkcoajabcibaa
namespace Go.Proofs.Ytbjkcoajabcibaa
open Go.RowKit
set_option linter.unusedVariables false
/-- a number, drawn -/
def SomePost (o : Option Addr) (len cap q : Nat) (w : World) (e : Ending) (w' : World) : Prop :=
  ∃ a : Int, e = .returned (.int .i64 a) ∧ Src w' o len cap q ∧ w.grownBy w' (some q)
theorem grown_below {w w' : World} {q : Nat} (h : Below w.heap.size w w') : w.grownBy w' (some q) :=
  ⟨h.os, h.tape, h.output, h.size, fun k hk _ => h.block k hk⟩
set_option maxHeartbeats 1000000 in
theorem resDraw_any (o : Option Addr) (len cap q : Nat) (p n : Int) (w : World) (hs : Src w o len cap q) :
    Calls Try.prog 77 #[.pointer (some ⟨q, 0, none⟩), .agg #[.int .i64 p, .int .i64 n]] w (SomePost o len cap q w) := by
  have hq := src_lt hs
  have HS := Lib.hid hs
  have HQ := Lib.hid hq
  clear hs hq
  by_cases h0 : ringM p n = 0
  · have hd := ringB_f h0
    clear h0
    go_enter Try.func77, Try.ntmps77
    go_wp2_with (go_at_call 66; refine (specIsRing_any _ _ _).mono ?_; rintro e wn ⟨rfl, hb⟩; have hB := below_one hb; have hS := src_below HS.out hB HQ.out)
    refine (next_any _ _ _ _ _ _ (by omega) hS).mono ?_
    rintro e w2 ⟨r, rfl, r0, r1, hs2, hg2, hz2⟩
    have H2 := Lib.hid (And.intro hs2 (grownBy_tr (grown_below hB) hg2))
    clear hs2 hg2 hz2
    go_wp2
    go_ret
    exact ⟨_, rfl, H2.out⟩
  · have hd := ringB_t h0
    obtain ⟨hp2, hp97, hn1, hn2, hm1, hm2, _⟩ := ringM_bd h0
    have H := Lib.hid (And.intro (ringM_in h0).1 (And.intro hn1 (show n ≤ 1000 by omega)))
    clear h0
    go_enter Try.func77, Try.ntmps77
    go_wp2_with (first | (go_at_call 66; refine (specIsRing_any _ _ _).mono ?_; rintro e wn ⟨rfl, hb⟩; have hH := keep_first hb; obtain ⟨hB, c0, c1⟩ := hH; have hS := src_below HS.out hB HQ.out) | (go_at_call 70; refine (l02Modulus_any _ _ _ H.out.1 H.out.2.1 H.out.2.2).mono ?_; rintro e w' ⟨rfl, rfl⟩))
    have H1 := Lib.hid (And.intro hS (grown_below (q := q) hB))
    clear hS hB hb c0 c1
    refine (next_any _ _ _ _ _ _ (by omega) H1.out.1).mono ?_
    rintro e w2 ⟨r2, rfl, r20, r21, hs2, hg2, hz2⟩
    have H2 := Lib.hid (And.intro hs2 (grownBy_tr H1.out.2 hg2))
    clear hs2 hg2 hz2 r21
    go_wp2_with fail
    refine (next_any _ _ _ _ _ _ (by omega) H2.out.1).mono ?_
    rintro e w3 ⟨r3, rfl, r30, r31, hs3, hg3, hz3⟩
    have H3 := Lib.hid (And.intro hs3 (grownBy_tr H2.out.2 hg3))
    clear hs3 hg3 hz3 r31
    go_wp2_with fail
    refine (next_any _ _ _ _ _ _ (by omega) H3.out.1).mono ?_
    rintro e w4 ⟨r4, rfl, r40, r41, hs4, hg4, hz4⟩
    have H4 := Lib.hid (And.intro hs4 (grownBy_tr H3.out.2 hg4))
    clear hs4 hg4 hz4 r41
    go_wp2_with fail
    refine (next_any _ _ _ _ _ _ (by omega) H4.out.1).mono ?_
    rintro e w5 ⟨r5, rfl, r50, r51, hs5, hg5, hz5⟩
    have H5 := Lib.hid (And.intro hs5 (grownBy_tr H4.out.2 hg5))
    clear hs5 hg5 hz5 r51
    go_wp2_with fail
    refine (next_any _ _ _ _ _ _ (by omega) H5.out.1).mono ?_
    rintro e w6 ⟨r6, rfl, r60, r61, hs6, hg6, hz6⟩
    have H6 := Lib.hid (And.intro hs6 (grownBy_tr H5.out.2 hg6))
    clear hs6 hg6 hz6 r61
    go_wp2_with fail
    refine (pick_new [r2, r3, r4, 0, 1, ringM p n - 1, ringM p n, -1, r5, r6] 2 10 o len cap q w6 H6.out.1 (by simp) (by simp)).mono ?_
    rintro e w7 ⟨x, rfl, hx, hs7, hg7⟩
    have H7 := Lib.hid (And.intro hs7 (grownBy_tr H6.out.2 hg7))
    clear hs7 hg7 hx
    go_wp2
    go_ret
    exact ⟨_, rfl, H7.out⟩
/-- a ring and a number, drawn -/
def RingTwoPost (w : World) (e : Ending) (w' : World) : Prop := ∃ p n a : Int, e = .returned (.tuple #[.agg #[.int .i64 p, .int .i64 n], .int .i64 a]) ∧ Below w.heap.size w w'
/-- between the draws: the source, what is old, the block of the result and that of a ring -/
def Mid (o : Option Addr) (len cap q : Nat) (w wz : World) : Prop :=
  w.heap.size < q ∧ Src wz o len cap q ∧ Below w.heap.size w wz ∧ w.heap.size < wz.heap.size ∧ wz.heap[w.heap.size]? = (w.alloc (.cells #[.int .i64 0, .int .i64 0] 25)).heap[w.heap.size]?
theorem mid_first {o : Option Addr} {len cap q : Nat} {w w1 : World} (hq : (w.alloc (.cells #[.int .i64 0, .int .i64 0] 25)).heap.size ≤ q) (hs : Src w1 o len cap q)
    (hb : Below (w.alloc (.cells #[.int .i64 0, .int .i64 0] 25)).heap.size (w.alloc (.cells #[.int .i64 0, .int .i64 0] 25)) w1) : Mid o len cap q w w1 := by
  have e : (w.alloc (.cells #[.int .i64 0, .int .i64 0] 25)).heap.size = w.heap.size + 1 := by simp
  exact ⟨by omega, hs, below_one hb, by have := hb.size; omega, hb.block _ (by omega)⟩
theorem mid_next {o : Option Addr} {len cap q : Nat} {w w1 w2 : World} (h : Mid o len cap q w w1) (hs : Src w2 o len cap q) (hg : w1.grownBy w2 (some q)) : Mid o len cap q w w2 := by
  obtain ⟨h1, h2, h3, h4, h5⟩ := h
  exact ⟨h1, hs, below_draw h3 hg (Nat.le_of_lt h1) (Nat.le_of_lt h4), Nat.lt_of_lt_of_le h4 hg.size, (hg.block _ h4 (by simp; omega)).trans h5⟩
theorem mid_alloc {o : Option Addr} {len cap q : Nat} {w w1 : World} (h : Mid o len cap q w w1) (ob : Obj) : Mid o len cap q w (w1.alloc ob) :=
  mid_next h (src_alloc h.2.1 ob) (World.grownBy_alloc w1 ob (some q))
theorem mid_drewN {o : Option Addr} {len cap q : Nat} {w w1 : World} (h : Mid o len cap q w w1) (n : Nat) : Mid o len cap q w (w1.drewN n) := ⟨h.1, src_drewN h.2.1 n, below_drewN h.2.2.1 n, h.2.2.2⟩
end Go.Proofs.Ytbjkcoajabcibaa
namespace Go.Proofs.Ytbjkcoajabcibaa
open Go.RowKit
set_option linter.unusedVariables false
set_option maxRecDepth 20000
set_option linter.unusedSimpArgs false
theorem grownBy_rest {p : Nat} {w w1 w2 : World} (h : w.grownBy w1 (some p)) (hb : Below w.heap.size w1 w2) : w.grownBy w2 (some p) :=
  ⟨hb.os.trans h.os, hb.tape.trans h.tape, hb.output.trans h.output, Nat.le_trans h.size hb.size, fun k hk hne => (hb.block k hk).trans (h.block k hk hne)⟩
theorem intRow_draw6 {w w' : World} {b p : Nat} {v : Value} {l : List Int} (h : IntRow b w v l) (hg : w.grownBy w' (some p)) (hp : p < b) : IntRow b w' v l := by
  refine World.ownsRow.kept h hg ?_
  cases hv : v.ownBlock with
  | none => exact .inl rfl
  | some k => right; intro e; have := World.ownsRow.lt h k hv; cases e; omega
/-- a row of the call's own, and the source that came in -/
def VS (o : Option Addr) (len cap p : Nat) (w wz : World) (v : Value) (l : List Int) : Prop := Src wz o len cap p ∧ w.grownBy wz (some p) ∧ IntRow w.heap.size wz v l ∧ p < w.heap.size
theorem vs_next {o : Option Addr} {len cap p : Nat} {w w1 w2 : World} {v : Value} {l : List Int} (h : VS o len cap p w w1 v l) (hs : Src w2 o len cap p) (hg : w1.grownBy w2 (some p)) : VS o len cap p w w2 v l :=
  ⟨hs, grownBy_tr h.2.1 hg, intRow_draw6 h.2.2.1 hg h.2.2.2, h.2.2.2⟩
theorem vs_app {o : Option Addr} {len cap p : Nat} {w w1 w2 : World} {v v' : Value} {l : List Int} {x : Int} {ob : Obj} (h : VS o len cap p w w1 v l) (hown : w2.ownsRow w.heap.size 2 1 v' (l.length + 1) (l.map (Value.int .i64) ++ [.int .i64 x]))
    (hg : (w1.alloc ob).grownBy w2 v.ownBlock) : VS o len cap p w w2 v' (l ++ [x]) := by
  have hB : Below w.heap.size w1 w2 := ((Below.refl w.heap.size w1).alloc h.2.1.size ob).grown hg (by have := h.2.1.size; simp; omega) (fun k hk => (World.ownsRow.lt h.2.2.1 k hk).1)
  exact ⟨src_below h.1 hB h.2.2.2, grownBy_rest h.2.1 hB, intRow_snoc hown, h.2.2.2⟩
theorem vs_made {o : Option Addr} {len cap p : Nat} {w : World} (h : Src w o len cap p) : VS o len cap p w (w.alloc (.cells #[] 2)) (.slice (some ⟨w.heap.size, 0, none⟩) 0 0) [] :=
  ⟨src_alloc h _, World.grownBy_alloc w _ _, intRow_made w, src_lt h⟩
theorem vs_lower {o : Option Addr} {len cap p : Nat} {w w1 w2 : World} {v : Value} {l : List Int} (h : VS o len cap p w1 w2 v l) (hg : w.grownBy w1 (some p)) (hp : p < w.heap.size) : VS o len cap p w w2 v l :=
  ⟨h.1, grownBy_tr hg h.2.1, intRow_lower h.2.2.1 hg.size, hp⟩
theorem vs_set {o : Option Addr} {len cap p g n c k : Nat} {w w1 : World} {l : List Int} (h : VS o len cap p w w1 (.slice (some ⟨g, 0, none⟩) n c) l) (hn : l.length = n) (hg : w.heap.size ≤ g) (x : Int) :
    VS o len cap p w (w1.setCell ⟨g, k, none⟩ (.int .i64 x)) (.slice (some ⟨g, 0, none⟩) n c) (l.set k x) := by
  have hB : Below w.heap.size w1 (w1.setCell ⟨g, k, none⟩ (.int .i64 x)) := (Below.refl _ _).setCell hg _
  exact ⟨src_below h.1 hB h.2.2.2, grownBy_rest h.2.1 hB, int_stored h.2.2.1 hn k x, h.2.2.2⟩
theorem below_oneP (w : World) (a : Obj) : Below w.heap.size w (w.alloc a) := (Below.refl _ _).alloc (Nat.le_refl _) _
theorem last_snoc {l : List Int} {x : Int} (h : x ≠ 0) : lastB (l ++ [x]) = true := by
  unfold lastB
  simp only [Bool.or_eq_true, Bool.not_eq_true', beq_eq_false_iff_ne]
  right
  simpa [List.getD] using h
def ValidP (d : Int) (l : List Int) : Prop := (l.length : Int) = d + 1 ∧ (∀ x ∈ l, -100 ≤ x ∧ x ≤ 100) ∧ lastB l = true
def DrawP (l : List Int) : Prop := l.length ≤ 10 ∧ ∀ x ∈ l, -1000001 ≤ x ∧ x ≤ 1000001
theorem valid_draw {d : Int} {l : List Int} (h : ValidP d l) (hd : d ≤ 9) : DrawP l := ⟨by have := h.1; omega, fun x hx => by have := h.2.1 x hx; omega⟩
theorem draw_get {l : List Int} (h : DrawP l) (k : Nat) : -1000001 ≤ l.getD k 0 ∧ l.getD k 0 ≤ 1000001 := by
  by_cases hk : k < l.length
  · rw [show l.getD k 0 = l[k] by simp [List.getD, hk]]; exact h.2 _ (List.getElem_mem _)
  · rw [getD_out (by omega)]; omega
theorem draw_set {l : List Int} (h : DrawP l) {k : Nat} {x : Int} (hx : -1000001 ≤ x ∧ x ≤ 1000001) : DrawP (l.set k x) :=
  ⟨by rw [List.length_set]; exact h.1, fun y hy => by rcases List.mem_or_eq_of_mem_set hy with hy | rfl; exact h.2 y hy; exact hx⟩
set_option maxRecDepth 20000 in
set_option maxHeartbeats 1600000 in
theorem l06Valid_any (d : Int) (o : Option Addr) (len cap p : Nat) (w : World) (d0 : 0 ≤ d) (d9 : d ≤ 9) (hs : Src w o len cap p) :
    Calls Try.prog 138 #[.pointer (some ⟨p, 0, none⟩), .int .i64 d] w fun e w' => ∃ v l, e = .returned v ∧ VS o len cap p w w' v l ∧ ValidP d l := by
  obtain ⟨i0, hi, hz0, hz1, hz2⟩ := info_parts Try.infoInt64
  have HI := Lib.hid hi
  have HZ0 := Lib.hid hz0
  have HZ1 := Lib.hid hz1
  have HZ2 := Lib.hid hz2
  clear hi hz0 hz1 hz2
  have HR := Lib.hid (vs_made hs)
  clear hs
  go_enter Try.func138, Try.ntmps138
  go_wp2_with fail
  go_loopw [5, 6] (fun s i wr => ∃ (N : Int) (l : List Int), i = .int .i64 N ∧ (l.length : Int) = N ∧ N ≤ d ∧ (∀ x ∈ l, -100 ≤ x ∧ x ≤ 100) ∧ VS o len cap p w wr s l) (fun _ i _ => (d - intOf i).toNat)
  case atStart => exact ⟨0, [], rfl, rfl, d0, by simp, HR.out⟩
  case round =>
    clear HR
    obtain ⟨N, l, rfl, hN, hNd, hall, R⟩ := hrel
    have HALL := Lib.hid hall
    clear hall
    have N0 : 0 ≤ N := by omega
    obtain ⟨o3, c3, hv⟩ := row_slice R.2.2.1
    subst hv
    by_cases hpos : N < d
    · have HN := Lib.hid hN
      clear hN
      go_wp2_with fail
      refine (next_any _ _ _ _ _ _ (by omega) R.1).mono ?_
      rintro e w1 ⟨ra, rfl, ra0, ra1, hs, hg, hz⟩
      have ra2 : ra < 13 := by omega
      replace R := vs_next R hs hg
      clear hs hg hz ra1
      have hwa := IntWalk.i64_in (ra - 6) (by omega)
      go_wp2_with fail
      refine (next_any _ _ _ _ _ _ (by omega) R.1).mono ?_
      rintro e w2 ⟨rb, rfl, rb0, rb1, hs, hg, hz⟩
      have rb2 : rb < 5 := by omega
      replace R := vs_next R hs hg
      clear hs hg hz rb1
      have hwb := IntWalk.i64_in (rb - 2) (by omega)
      go_wp2_with fail
      refine (next_any _ _ _ _ _ _ (by omega) R.1).mono ?_
      rintro e w3 ⟨rc, rfl, rc0, rc1, hs, hg, hz⟩
      have rc2 : rc < 201 := by omega
      replace R := vs_next R hs hg
      clear hs hg hz rc1
      have hwc := IntWalk.i64_in (rc - 100) (by omega)
      go_wp2_with fail
      refine (pick_new [ra - 6, rb - 2, 0, rc - 100] 2 4 o len cap p w3 R.1 (by simp) (by simp)).mono ?_
      rintro e w6 ⟨y, rfl, hy, hs6, hg6⟩
      have hyb : -100 ≤ y ∧ y ≤ 100 := by simp at hy; omega
      replace R := vs_next R hs6 hg6
      clear hs6 hg6 hy hwa hwb hwc ra0 ra2 rb0 rb2 rc0 rc2
      have hl9 : l.length ≤ 9 := by have := HN.out; omega
      go_wp2_with (at_builtin; refine wpList_append_own _ rfl (.tmp 13) (.tmp 26) 26 rfl w.heap.size 2 i0 (.int .i64 0) 1 8 Try.underlying26 HI.out HZ0.out HZ1.out HZ2.out rfl (by decide) _ _ _ rfl (R.2.2.1.alloc _) ⟨w6.heap.size, 0, none⟩ 1 1 [.int .i64 y] rfl rfl ?c1 ?c2 ?c3 ?c4 ?c5 ?_)
      case c1 => first | exact news_one _ _ _ | simp [Addr.add]
      case c2 => first | exact one_one _ | rfl
      case c3 => unfold maxLen; omega
      case c4 => omega
      case c5 => have := R.2.1.size; first | omega | (simp; omega)
      intro v' w7 hown hgrow _
      obtain ⟨oo, cc, hvv⟩ := row_slice hown
      subst hvv
      have R4 := vs_app R hown hgrow
      clear hown hgrow
      have HR4 := Lib.hid R4
      clear R R4
      have hw7 : IntKind.i64.wrap (N + 1) = N + 1 := IntWalk.i64_in _ (by omega)
      go_wp2_with fail
      exact ⟨⟨N + 1, l ++ [y], rfl, by have := HN.out; simp; omega, by omega, fun x hx => by rcases List.mem_append.1 hx with hx | hx; exact HALL.out x hx; (simp at hx; subst hx; exact hyb), HR4.out⟩, by simp only [intOf]; omega⟩
    · have HN := Lib.hid hN
      clear hN
      have hl9 : l.length ≤ 9 := by have := HN.out; omega
      go_wp2_with fail
      refine (next_any _ _ _ _ _ _ (by omega) R.1).mono ?_
      rintro e w1 ⟨ra, rfl, ra0, ra1, hs, hg, hz⟩
      have ra2 : ra < 6 := by omega
      replace R := vs_next R hs hg
      clear hs hg hz ra1
      have hwa := IntWalk.i64_in (1 + ra) (by omega)
      go_wp2_with fail
      refine (next_any _ _ _ _ _ _ (by omega) R.1).mono ?_
      rintro e w2 ⟨rb, rfl, rb0, rb1, hs, hg, hz⟩
      have rb2 : rb < 3 := by omega
      replace R := vs_next R hs hg
      clear hs hg hz rb1
      have hwb := IntWalk.i64_in (-1 - rb) (by omega)
      go_wp2_with fail
      refine (pick_new [1, 1, 1 + ra, -1 - rb] 2 4 o len cap p w2 R.1 (by simp) (by simp)).mono ?_
      rintro e w6 ⟨y, rfl, hy, hs6, hg6⟩
      have hyb : -100 ≤ y ∧ y ≤ 100 := by simp at hy; omega
      have hy0 : y ≠ 0 := by simp at hy; omega
      replace R := vs_next R hs6 hg6
      clear hs6 hg6 hy hwa hwb ra0 ra2 rb0 rb2
      go_wp2_with (at_builtin; refine wpList_append_own _ rfl (.tmp 28) (.tmp 38) 26 rfl w.heap.size 2 i0 (.int .i64 0) 1 8 Try.underlying26 HI.out HZ0.out HZ1.out HZ2.out rfl (by decide) _ _ _ rfl (R.2.2.1.alloc _) ⟨w6.heap.size, 0, none⟩ 1 1 [.int .i64 y] rfl rfl ?c1 ?c2 ?c3 ?c4 ?c5 ?_)
      case c1 => first | exact news_one _ _ _ | simp [Addr.add]
      case c2 => first | exact one_one _ | rfl
      case c3 => unfold maxLen; omega
      case c4 => omega
      case c5 => have := R.2.1.size; first | omega | (simp; omega)
      intro v' w7 hown hgrow _
      obtain ⟨oo, cc, hvv⟩ := row_slice hown
      subst hvv
      have R4 := vs_app R hown hgrow
      clear hown hgrow
      have HR4 := Lib.hid R4
      have HY0 := Lib.hid hy0
      clear R R4 hy0
      go_wp2_with fail
      go_ret
      exact ⟨_, l ++ [y], rfl, HR4.out, by have := HN.out; simp; omega, fun x hx => by rcases List.mem_append.1 hx with hx | hx; exact HALL.out x hx; (simp at hx; subst hx; exact hyb), last_snoc HY0.out⟩
set_option maxRecDepth 20000 in
set_option maxHeartbeats 1600000 in
theorem l06Draw_any (o : Option Addr) (len cap p : Nat) (w : World) (hs : Src w o len cap p) :
    Calls Try.prog 98 #[.pointer (some ⟨p, 0, none⟩)] w fun e w' => ∃ v l, e = .returned v ∧ VS o len cap p w w' v l ∧ DrawP l := by
  obtain ⟨i0, hi, hz0, hz1, hz2⟩ := info_parts Try.infoInt64
  have HI := Lib.hid hi
  have HZ0 := Lib.hid hz0
  have HZ1 := Lib.hid hz1
  have HZ2 := Lib.hid hz2
  clear hi hz0 hz1 hz2
  have HS := Lib.hid hs
  have hp := src_lt hs
  clear hs
  go_enter Try.func98, Try.ntmps98
  go_wp2_with fail
  refine (next_any _ _ _ _ _ _ (by omega) HS.out).mono ?_
  rintro e w1 ⟨r, rfl, r0, r1, hs1, hg1, hz1⟩
  have r2 : r < 6 := by omega
  clear hz1 r1
  go_wp2_with fail
  refine (l06Valid_any r o len cap p w1 r0 (by omega) hs1).mono ?_
  rintro e w2 ⟨v, l, rfl, R, hv⟩
  replace R := vs_lower R hg1 hp
  have HD := Lib.hid (valid_draw hv (by omega))
  have hl1 : 1 ≤ l.length ∧ l.length ≤ 6 := by have := hv.1; omega
  clear hs1 hg1 hv
  obtain ⟨o3, c3, hv⟩ := row_slice R.2.2.1
  subst hv
  go_wp2_with fail
  refine (next_any _ _ _ _ _ _ (by omega) R.1).mono ?_
  rintro e w3 ⟨t, rfl, t0, t1, hs, hg, hz⟩
  have t2 : t < 24 := by omega
  replace R := vs_next R hs hg
  clear hs hg hz t1
  by_cases h0 : t = 0
  · subst h0
    go_wp2_with (at_builtin; refine wpList_append_own _ rfl (.tmp 12) (.tmp 13) 26 rfl w.heap.size 2 i0 (.int .i64 0) 1 8 Try.underlying26 HI.out HZ0.out HZ1.out HZ2.out rfl (by decide) _ _ _ rfl (R.2.2.1.alloc _) ⟨w3.heap.size, 0, none⟩ 1 1 [.int .i64 0] rfl rfl ?c1 ?c2 ?c3 ?c4 ?c5 ?_)
    case c1 => first | exact news_one _ _ _ | simp [Addr.add]
    case c2 => first | exact one_one _ | rfl
    case c3 => unfold maxLen; omega
    case c4 => omega
    case c5 => have := R.2.1.size; first | omega | (simp; omega)
    intro v' w7 hown hgrow _
    obtain ⟨oo, cc, hvv⟩ := row_slice hown
    subst hvv
    have R4 := vs_app R hown hgrow
    clear hown hgrow
    have HR4 := Lib.hid R4
    clear R R4
    go_wp2_with fail
    go_ret
    exact ⟨_, l ++ [0], rfl, HR4.out, by simp; omega, fun x hx => by rcases List.mem_append.1 hx with hx | hx; exact HD.out.2 x hx; (simp at hx; omega)⟩
  · have h0' : (t == 0) = false := by simpa using h0
    by_cases h1 : t = 1
    · subst h1
      clear h0
      rcases row_shape R.2.2.1 with ⟨hz, _⟩ | ⟨_, g, c, hgc, hbg, hgl⟩
      · omega
      · injection hgc with e1 _ e2
        subst e1 e2
        go_wp2_with fail
        refine (pick_new [1000000, 1000001, -1000000] 2 3 o len cap p w3 R.1 (by simp) (by simp)).mono ?_
        rintro e w6 ⟨y, rfl, hy, hs6, hg6⟩
        have hyb : -1000001 ≤ y ∧ y ≤ 1000001 := by simp at hy; omega
        replace R := vs_next R hs6 hg6
        clear hs6 hg6 hy
        have c0 := int_at R.2.2.1 rfl (k := 0) (by omega)
        have f0 := int_frozen R.2.2.1 rfl 0
        have hlp : (0 : Int) < (l.length : Int) := by omega
        have HR4 := Lib.hid (vs_set R rfl hbg y (k := 0))
        clear R
        go_wp2_with fail
        go_ret
        exact ⟨_, l.set 0 y, rfl, HR4.out, draw_set HD.out hyb⟩
    · have h1' : (t == 1) = false := by simpa using h1
      by_cases h2 : t = 2
      · subst h2
        clear h0 h1
        go_wp2_with fail
        refine (next_any _ _ _ _ _ _ (by omega) R.1).mono ?_
        rintro e w4 ⟨q, rfl, q0, q1, hs, hg, hz⟩
        have q2 : q < 3 := by omega
        replace R := vs_next R hs hg
        clear hs hg hz q1
        have hwq := IntWalk.i64_in (7 + q) (by omega)
        go_wp2_with fail
        refine (l06Valid_any (7 + q) o len cap p w4 (by omega) (by omega) R.1).mono ?_
        rintro e w5 ⟨v, l2, rfl, R5, hv5⟩
        have HR5 := Lib.hid (vs_lower R5 R.2.1 hp)
        have HD5 := Lib.hid (valid_draw hv5 (by omega))
        clear R R5 hv5
        go_wp2_with fail
        go_ret
        exact ⟨_, l2, rfl, HR5.out, HD5.out⟩
      · have h2' : (t == 2) = false := by simpa using h2
        by_cases h3 : t = 3
        · subst h3
          clear h0 h1 h2
          have HR5 := Lib.hid (vs_lower (vs_made R.1) R.2.1 hp)
          clear R
          go_wp2_with fail
          go_ret
          exact ⟨_, [], rfl, HR5.out, by simp, by simp⟩
        · have h3' : (t == 3) = false := by simpa using h3
          clear h0 h1 h2 h3
          have HR5 := Lib.hid R
          clear R
          go_wp2_with fail
          go_ret
          exact ⟨_, l, rfl, HR5.out, HD.out⟩
end Go.Proofs.Ytbjkcoajabcibaa
namespace Go.Proofs.Ytbjkcoajabcibaa
open Go.RowKit
set_option linter.unusedVariables false
set_option linter.unusedSimpArgs false
set_option maxRecDepth 20000
theorem getD_mem {l : List Int} {P : Int → Prop} (h : ∀ x ∈ l, P x) (h0 : P 0) (i : Nat) : P (l.getD i 0) := by
  by_cases hi : i < l.length
  · rw [show l.getD i 0 = l[i] by simp [List.getD, hi]]; exact h _ (List.getElem_mem _)
  · rw [getD_out (by omega)]; exact h0
theorem mon_snoc (l : List Int) : mncB (l ++ [1]) = true := by
  refine mncB_mk (by simp) ?_
  simp [List.getD]
set_option maxHeartbeats 2000000 in
theorem l12Valid_any (d p n : Int) (o : Option Addr) (len cap q : Nat) (w : World) (d0 : 0 ≤ d) (d9 : d ≤ 9) (h0 : ringM p n ≠ 0) (hs : Src w o len cap q) :
    Calls Try.prog 92 #[.pointer (some ⟨q, 0, none⟩), .agg #[.int .i64 p, .int .i64 n], .int .i64 d] w fun e w' => ∃ v l, e = .returned v ∧ VS o len cap q w w' v l ∧ (l.length : Int) = d + 1 ∧ ModP (ringM p n) l ∧ mncB l = true := by
  obtain ⟨i0, hi, hz0, hz1, hz2⟩ := info_parts Try.infoInt64
  have HI := Lib.hid hi
  have HZ0 := Lib.hid hz0
  have HZ1 := Lib.hid hz1
  have HZ2 := Lib.hid hz2
  obtain ⟨_, _, hn1, hn2, m2, m9, _⟩ := ringM_bd h0
  have H := Lib.hid (And.intro (ringM_in h0).1 (And.intro hn1 (show n ≤ 1000 by omega)))
  obtain ⟨M, hM⟩ : ∃ M, ringM p n = M := ⟨_, rfl⟩
  have HMM := Lib.hid hM
  rw [hM] at m2 m9 ⊢
  have hq := src_lt hs
  have hca : (w.alloc (.cells #[.int .i64 p, .int .i64 n] 25)).cell? ⟨w.heap.size, 0, none⟩ = some (.int .i64 p) := World.cell?_alloc_new _ _ _ _ ▸ rfl
  have hcb : (w.alloc (.cells #[.int .i64 p, .int .i64 n] 25)).cell? ⟨w.heap.size, 1, none⟩ = some (.int .i64 n) := World.cell?_alloc_new _ _ _ _ ▸ rfl
  have hr5 := vs_made (src_alloc hs (.cells #[.int .i64 p, .int .i64 n] 25))
  rw [World.size_alloc] at hr5
  have HR := Lib.hid hr5
  clear hr5
  have HG0 := Lib.hid (World.grownBy_alloc w (.cells #[.int .i64 p, .int .i64 n] 25) (some q))
  clear hi hz0 hz1 hz2 hs h0 hM
  go_enter Try.func92, Try.ntmps92
  go_wp2_with (go_at_call 70; refine (l02Modulus_any _ _ _ H.out.1 H.out.2.1 H.out.2.2).mono ?_; rw [HMM.out]; rintro e wk ⟨rfl, rfl⟩)
  clear hca hcb
  generalize w.alloc (.cells #[.int .i64 p, .int .i64 n] 25) = W0 at *
  go_loopw [8, 9] (fun s i wr => ∃ (N : Int) (l : List Int), i = .int .i64 N ∧ (l.length : Int) = N ∧ N ≤ d ∧ (∀ x ∈ l, 0 ≤ x ∧ x < M) ∧ VS o len cap q W0 wr s l) (fun _ i _ => (d - intOf i).toNat)
  case atStart => exact ⟨0, [], rfl, rfl, d0, by simp, HR.out⟩
  case round =>
    clear HR
    obtain ⟨N, l, rfl, hN, hNd, hall, R⟩ := hrel
    have HALL := Lib.hid hall
    clear hall
    have N0 : 0 ≤ N := by omega
    obtain ⟨o3, c3, hv⟩ := row_slice R.2.2.1
    subst hv
    have HN := Lib.hid hN
    have hl9 : l.length ≤ 9 := by omega
    clear hN
    by_cases hpos : N < d
    · obtain ⟨mn, hmn⟩ : ∃ mn, min M 9 = mn := ⟨_, rfl⟩
      have hmn2 : 2 ≤ mn ∧ mn ≤ M ∧ mn ≤ 9 := by omega
      go_wp2_with fail
      refine (next_any _ _ _ _ _ _ (by omega) R.1).mono ?_
      rintro e w1 ⟨ra, rfl, ra0, ra1, hs, hg, hz⟩
      have ra2 : ra < M := by omega
      replace R := vs_next R hs hg
      clear hs hg hz ra1
      go_wp2_with fail
      refine (next_any _ _ _ _ _ _ (by omega) R.1).mono ?_
      rintro e w2 ⟨rb, rfl, rb0, rb1, hs, hg, hz⟩
      have rb2 : rb < M := by omega
      replace R := vs_next R hs hg
      clear hs hg hz rb1
      go_wp2_with fail
      refine (pick_new [ra, rb, 0] 2 3 o len cap q w2 R.1 (by simp) (by simp)).mono ?_
      rintro e w6 ⟨y, rfl, hy, hs6, hg6⟩
      have hyb : 0 ≤ y ∧ y < M := by simp at hy; omega
      replace R := vs_next R hs6 hg6
      clear hs6 hg6 hy ra0 ra2 rb0 rb2 hmn hmn2
      go_wp2_with (at_builtin; refine wpList_append_own _ rfl (.tmp 21) (.tmp 32) 26 rfl W0.heap.size 2 i0 (.int .i64 0) 1 8 Try.underlying26 HI.out HZ0.out HZ1.out HZ2.out rfl (by decide) _ _ _ rfl (R.2.2.1.alloc _) ⟨w6.heap.size, 0, none⟩ 1 1 [.int .i64 y] rfl rfl ?c1 ?c2 ?c3 ?c4 ?c5 ?_)
      case c1 => first | exact news_one _ _ _ | simp [Addr.add]
      case c2 => first | exact one_one _ | rfl
      case c3 => unfold maxLen; omega
      case c4 => omega
      case c5 => have := R.2.1.size; first | omega | (simp; omega)
      intro v' w7 hown hgrow _
      obtain ⟨oo, cc, hvv⟩ := row_slice hown
      subst hvv
      have R4 := vs_app R hown hgrow
      clear hown hgrow
      have HR4 := Lib.hid R4
      clear R R4
      have hw7 : IntKind.i64.wrap (N + 1) = N + 1 := IntWalk.i64_in _ (by omega)
      go_wp2_with fail
      exact ⟨⟨N + 1, l ++ [y], rfl, by have := HN.out; simp; omega, by omega, fun x hx => by rcases List.mem_append.1 hx with hx | hx; exact HALL.out x hx; (simp at hx; subst hx; exact hyb), HR4.out⟩, by simp only [intOf]; omega⟩
    · go_wp2_with (at_builtin; refine wpList_append_own _ rfl (.tmp 34) (.tmp 35) 26 rfl W0.heap.size 2 i0 (.int .i64 0) 1 8 Try.underlying26 HI.out HZ0.out HZ1.out HZ2.out rfl (by decide) _ _ _ rfl (R.2.2.1.alloc _) ⟨wr.heap.size, 0, none⟩ 1 1 [.int .i64 1] rfl rfl ?d1 ?d2 ?d3 ?d4 ?d5 ?_)
      try (case d1 => first | exact news_one _ _ _ | simp [Addr.add])
      try (case d2 => first | exact one_one _ | rfl)
      case d3 => unfold maxLen; omega
      case d4 => omega
      case d5 => have := R.2.1.size; first | omega | (simp; omega)
      intro v' w7 hown hgrow _
      obtain ⟨oo, cc, hvv⟩ := row_slice hown
      subst hvv
      have R4 := vs_app R hown hgrow
      clear hown hgrow
      have HR4 := Lib.hid (vs_lower R4 HG0.out hq)
      clear R R4
      have HMP := Lib.hid (show ModP M (l ++ [1]) from ⟨fun i => getD_mem (P := fun x => 0 ≤ x ∧ x < M) (fun x hx => by rcases List.mem_append.1 hx with hx | hx; exact HALL.out x hx; (simp at hx; subst hx; omega)) (by omega) i, last_snoc (by omega)⟩)
      go_wp2_with fail
      go_ret
      exact ⟨_, l ++ [1], rfl, HR4.out, by have := HN.out; simp; omega, HMP.out, mon_snoc l⟩
end Go.Proofs.Ytbjkcoajabcibaa
namespace Go.Proofs.Ytbjkcoajabcibaa
set_option linter.unusedVariables false
set_option linter.unusedSimpArgs false
/-- a root in the ring that has the remainder x by q -/
def RootAt (m : Int) (f : List Int) (q x y : Int) : Prop := 0 ≤ y ∧ y < m ∧ q ∣ y - x ∧ m ∣ pval f y
/-- .. whose next digit is less than d -/
def RootTo (m : Int) (f : List Int) (p q x : Int) (d : Nat) (y : Int) : Prop := 0 ≤ y ∧ y < m ∧ m ∣ pval f y ∧ ∃ e : Nat, e < d ∧ q * p ∣ y - (x + (e : Int) * q)
/-- l has just these, each once -/
def Each (l : List Int) (R : Int → Prop) : Prop := l.Nodup ∧ ∀ y, y ∈ l ↔ R y
/-- l has some of these, each once -/
def Some1 (l : List Int) (R : Int → Prop) : Prop := l.Nodup ∧ ∀ y, y ∈ l → R y
theorem Each.some {l : List Int} {R : Int → Prop} (h : Each l R) : Some1 l R := ⟨h.1, fun y hy => (h.2 y).1 hy⟩
theorem Each.congr {l : List Int} {R R' : Int → Prop} (h : Each l R) (e : ∀ y, R y ↔ R' y) : Each l R' := ⟨h.1, fun y => (h.2 y).trans (e y)⟩
theorem Some1.mono {l : List Int} {R R' : Int → Prop} (h : Some1 l R) (e : ∀ y, R y → R' y) : Some1 l R' := ⟨h.1, fun y hy => e y (h.2 y hy)⟩
theorem each_none : Each [] (fun _ => False) := ⟨List.nodup_nil, fun y => by simp⟩
theorem rootTo_zero (m : Int) (f : List Int) (p q x y : Int) : ¬ RootTo m f p q x 0 y := fun ⟨_, _, _, e, he, _⟩ => absurd he (Nat.not_lt_zero _)
/-- two digits do not meet -/
theorem digit_one {p q x y : Int} {a b : Nat} (hq : q ≠ 0) (ha : (a : Int) < p) (hb : (b : Int) < p) (h1 : q * p ∣ y - (x + (a : Int) * q)) (h2 : q * p ∣ y - (x + (b : Int) * q)) : a = b := by
  obtain ⟨s, hs⟩ := h1
  obtain ⟨t, ht⟩ := h2
  have e : q * ((b : Int) - a) = q * (p * (s - t)) := by grind
  have e2 := Int.eq_of_mul_eq_mul_left hq e
  have hd : p ∣ (b : Int) - a := ⟨s - t, e2⟩
  have := same_residue (m := p) (x := (a : Int)) (y := (b : Int)) (by omega) ha (by omega) hb hd
  omega
theorem rootTo_succ {m : Int} {f : List Int} {p q x : Int} {d : Nat} {y : Int} : RootTo m f p q x (d + 1) y ↔ RootTo m f p q x d y ∨ RootAt m f (q * p) (x + (d : Int) * q) y := by
  constructor
  · rintro ⟨h0, h1, h2, e, he, h3⟩
    rcases Nat.lt_or_ge e d with h | h
    · exact .inl ⟨h0, h1, h2, e, h, h3⟩
    · obtain rfl : e = d := by omega
      exact .inr ⟨h0, h1, h3, h2⟩
  · rintro (⟨h0, h1, h2, e, he, h3⟩ | ⟨h0, h1, h3, h2⟩)
    · exact ⟨h0, h1, h2, e, by omega, h3⟩
    · exact ⟨h0, h1, h2, d, by omega, h3⟩
theorem rootTo_all {m : Int} {f : List Int} {p q x : Int} (hp : 0 < p) {y : Int} : RootTo m f p q x p.toNat y ↔ RootAt m f q x y := by
  constructor
  · rintro ⟨h0, h1, h2, e, he, c, hc⟩
    exact ⟨h0, h1, ⟨p * c + e, by grind⟩, h2⟩
  · rintro ⟨h0, h1, ⟨t, ht⟩, h2⟩
    have r0 := Int.emod_nonneg t (show p ≠ 0 by omega)
    have r1 := Int.emod_lt_of_pos t hp
    refine ⟨h0, h1, h2, (t % p).toNat, by omega, ⟨t / p, ?_⟩⟩
    rw [Int.toNat_of_nonneg r0]
    have := Int.emod_add_mul_ediv t p
    grind
/-- a digit with no root: nothing is added -/
theorem digit_skip {m : Int} {f : List Int} {p q x : Int} {d : Nat} (hm : q * p ∣ m) (h : ¬ q * p ∣ pval f (x + (d : Int) * q)) {y : Int} : RootTo m f p q x (d + 1) y ↔ RootTo m f p q x d y := by
  rw [rootTo_succ]
  refine ⟨fun h2 => ?_, .inl⟩
  rcases h2 with h2 | ⟨_, _, h3, h4⟩
  · exact h2
  · exfalso
    apply h
    have e := pval_cong (m := q * p) (x := y) (y := x + (d : Int) * q) (by obtain ⟨c, hc⟩ := h3; exact ⟨-c, by grind⟩) f
    obtain ⟨a, ha⟩ := e
    obtain ⟨b, hb⟩ := Int.dvd_trans hm h4
    exact ⟨a + b, by grind⟩
theorem digit_each {m : Int} {f : List Int} {p q x : Int} {d : Nat} {l k : List Int} (hq : q ≠ 0) (hd : (d : Int) < p) (hl : Each l (RootTo m f p q x d)) (hk : Each k (RootAt m f (q * p) (x + (d : Int) * q))) : Each (l ++ k) (RootTo m f p q x (d + 1)) := by
  refine ⟨List.nodup_append.2 ⟨hl.1, hk.1, fun a ha b hb e => ?_⟩, fun y => ?_⟩
  · subst e
    obtain ⟨_, _, _, e, he, h3⟩ := (hl.2 a).1 ha
    obtain ⟨_, _, h4, _⟩ := (hk.2 a).1 hb
    have := digit_one hq (by omega) hd h3 h4
    omega
  · rw [List.mem_append, hl.2, hk.2, rootTo_succ]
theorem digit_some {m : Int} {f : List Int} {p q x : Int} {d : Nat} {l k : List Int} (hq : q ≠ 0) (hd : (d : Int) < p) (hl : Each l (RootTo m f p q x d)) (hk : Some1 k (RootAt m f (q * p) (x + (d : Int) * q))) : Some1 (l ++ k) (RootAt m f q x) := by
  refine ⟨List.nodup_append.2 ⟨hl.1, hk.1, fun a ha b hb e => ?_⟩, fun y hy => ?_⟩
  · subst e
    obtain ⟨_, _, _, e, he, h3⟩ := (hl.2 a).1 ha
    obtain ⟨_, _, h4, _⟩ := hk.2 a hb
    have := digit_one hq (by omega) hd h3 h4
    omega
  · have hp : 0 < p := by omega
    rw [← rootTo_all hp]
    rcases List.mem_append.1 hy with h | h
    · obtain ⟨h0, h1, h2, e, he, h3⟩ := (hl.2 y).1 h
      exact ⟨h0, h1, h2, e, by omega, h3⟩
    · obtain ⟨h0, h1, h3, h2⟩ := hk.2 y h
      exact ⟨h0, h1, h2, d, by omega, h3⟩
/-- the last level: the residue itself -/
theorem leaf_each {m : Int} {f : List Int} {x : Int} (h0 : 0 ≤ x) (h1 : x < m) : Each (if m ∣ pval f x then [x] else []) (RootAt m f m x) := by
  split
  · rename_i h
    refine ⟨by simp, fun y => ?_⟩
    rw [List.mem_singleton]
    constructor
    · rintro rfl; exact ⟨h0, h1, by rw [Int.sub_self]; exact Int.dvd_zero _, h⟩
    · rintro ⟨a, b, c, d⟩; exact (same_residue h0 h1 a b c).symm
  · rename_i h
    refine ⟨by simp, fun y => ?_⟩
    constructor
    · intro hy; simp at hy
    · rintro ⟨a, b, c, d⟩
      have := same_residue h0 h1 a b c
      subst this
      exact absurd d h
/-! in order -/
def Incr (l : List Int) : Prop := l.Pairwise (· < ·)
theorem incr_nodup {l : List Int} (h : Incr l) : l.Nodup := h.imp fun hab => by omega
theorem incr_unique : ∀ {l k : List Int}, Incr l → Incr k → (∀ y, y ∈ l ↔ y ∈ k) → l = k
  | [], [], _, _, _ => rfl
  | [], b :: k, _, _, h => by have := (h b).2 (by simp); simp at this
  | a :: l, [], _, _, h => by have := (h a).1 (by simp); simp at this
  | a :: l, b :: k, hl, hk, h => by
    obtain ⟨l1, l2⟩ := List.pairwise_cons.1 hl
    obtain ⟨k1, k2⟩ := List.pairwise_cons.1 hk
    have e : a = b := by
      have ha := (h a).1 (by simp)
      have hb := (h b).2 (by simp)
      rcases List.mem_cons.1 ha with e | e
      · exact e
      · rcases List.mem_cons.1 hb with e' | e'
        · exact e'.symm
        · have := k1 _ e; have := l1 _ e'; omega
    subst e
    congr 1
    refine incr_unique l2 k2 fun y => ?_
    have hy := h y
    rw [List.mem_cons, List.mem_cons] at hy
    constructor
    · intro h1
      rcases hy.1 (.inr h1) with e | e
      · subst e; exact absurd (l1 _ h1) (by omega)
      · exact e
    · intro h1
      rcases hy.2 (.inr h1) with e | e
      · subst e; exact absurd (k1 _ h1) (by omega)
      · exact e
/-- all roots in the ring, in order -/
def rootsM (m : Int) (f : List Int) : Nat → List Int
  | 0 => []
  | k + 1 => rootsM m f k ++ (if vM m f k = 0 then [(k : Int)] else [])
def rootsA (m : Int) (f : List Int) : List Int := rootsM m f m.toNat
theorem rootsM_mem {m : Int} (hm : 0 < m) (f : List Int) (y : Int) : ∀ k : Nat, y ∈ rootsM m f k ↔ 0 ≤ y ∧ y < k ∧ m ∣ pval f y
  | 0 => by simp [rootsM]; omega
  | k + 1 => by
    rw [rootsM, List.mem_append, rootsM_mem hm f y k]
    constructor
    · rintro (⟨a, b, c⟩ | h)
      · exact ⟨a, by omega, c⟩
      · split at h
        · rename_i hv
          rw [List.mem_singleton] at h
          subst h
          exact ⟨by omega, by omega, (vM_zero hm f k).1 hv⟩
        · simp at h
    · rintro ⟨a, b, c⟩
      by_cases e : y = k
      · subst e
        right
        rw [if_pos ((vM_zero hm f k).2 c)]; simp
      · exact .inl ⟨a, by omega, c⟩
theorem rootsM_incr {m : Int} (hm : 0 < m) (f : List Int) : ∀ k : Nat, Incr (rootsM m f k)
  | 0 => List.Pairwise.nil
  | k + 1 => by
    rw [rootsM]
    refine List.pairwise_append.2 ⟨rootsM_incr hm f k, ?_, fun a ha b hb => ?_⟩
    · split <;> simp
    · have h1 := (rootsM_mem hm f a k).1 ha
      split at hb
      · rw [List.mem_singleton] at hb; omega
      · simp at hb
theorem rootsA_mem {m : Int} (hm : 0 < m) (f : List Int) (y : Int) : y ∈ rootsA m f ↔ RootAt m f 1 0 y := by
  unfold rootsA RootAt
  rw [rootsM_mem hm]
  constructor
  · rintro ⟨a, b, c⟩; exact ⟨a, by omega, Int.one_dvd _, c⟩
  · rintro ⟨a, b, _, c⟩; exact ⟨a, by omega, c⟩
theorem rootsA_incr {m : Int} (hm : 0 < m) (f : List Int) : Incr (rootsA m f) := rootsM_incr hm f _
theorem each_perm {l : List Int} {m : Int} (hm : 0 < m) {f : List Int} (h : Each l (RootAt m f 1 0)) : l.Perm (rootsA m f) :=
  (List.perm_ext_iff_of_nodup h.1 (incr_nodup (rootsA_incr hm f))).2 fun y => (h.2 y).trans (rootsA_mem hm f y).symm
theorem each_len {l : List Int} {m : Int} (hm : 0 < m) {f : List Int} (h : Each l (RootAt m f 1 0)) : l.length = (rootsA m f).length := (each_perm hm h).length_eq
theorem each_sorted {l k : List Int} {m : Int} (hm : 0 < m) {f : List Int} (h : Each l (RootAt m f 1 0)) (hk : Incr k) (hp : ∀ y, y ∈ k ↔ y ∈ l) : k = rootsA m f :=
  incr_unique hk (rootsA_incr hm f) fun y => by rw [hp, h.2, rootsA_mem hm]
theorem nodup_le {l k : List Int} (h : l.Nodup) (hs : ∀ y ∈ l, y ∈ k) : l.length ≤ k.length := by
  induction l generalizing k with
  | nil => simp
  | cons a l ih =>
    obtain ⟨h1, h2⟩ := List.nodup_cons.1 h
    have ha := hs a (by simp)
    have := ih (k := k.erase a) h2 fun y hy => by
      have hne : y ≠ a := by rintro rfl; exact h1 hy
      exact (List.mem_erase_of_ne hne).2 (hs y (by simp [hy]))
    rw [List.length_erase_of_mem ha] at this
    have hpos := List.length_pos_of_mem ha
    rw [List.length_cons]; omega
/-- more than the limit on the way: more than the limit at all -/
theorem some_len {l : List Int} {m : Int} (hm : 0 < m) {f : List Int} (h : Some1 l (RootAt m f 1 0)) : l.length ≤ (rootsA m f).length :=
  nodup_le h.1 fun y hy => (rootsA_mem hm f y).2 (h.2 y hy)
end Go.Proofs.Ytbjkcoajabcibaa
namespace Go.Proofs.Ytbjkcoajabcibaa
set_option linter.unusedVariables false
set_option linter.unusedSimpArgs false
theorem vM_red {m : Int} (hm : 0 < m) (f : List Int) (x : Int) : vM m (redL m f) x = vM m f x := by
  rw [vM_is hm, vM_is hm]
  obtain ⟨h, hh⟩ := redL_cg m f
  rw [hh x, Int.add_mul_emod_self_left]
theorem vM_mod {m p : Int} (hm : 0 < m) (hp : 0 < p) (hd : p ∣ m) (f : List Int) (x : Int) : vM m f x % p = vM p f x := by
  rw [vM_is hm, vM_is hp, Int.emod_emod_of_dvd _ hd]
/-! divisors of powers of a prime -/
theorem pow_pos11 {p : Int} (hp : 2 ≤ p) : ∀ n : Nat, 0 < p ^ n
  | 0 => by simp
  | n + 1 => by rw [Int.pow_succ]; exact Int.mul_pos (pow_pos11 hp n) (by omega)
theorem pow_lt11 {p : Int} (hp : 2 ≤ p) {a b : Nat} (h : a < b) : p ^ a < p ^ b := by
  obtain ⟨c, rfl⟩ : ∃ c, b = a + c + 1 := ⟨b - a - 1, by omega⟩
  have h1 := pow_pos11 hp a
  have h2 := pow_pos11 hp c
  have e : p ^ (a + c + 1) = p ^ a * (p ^ c * p) := by rw [Int.pow_succ, Int.pow_add, Int.mul_assoc]
  have h3 : 1 * 2 ≤ p ^ c * p := Int.mul_le_mul (by omega) hp (by omega) (by omega)
  have h4 := Int.mul_le_mul_of_nonneg_left h3 (Int.le_of_lt h1)
  rw [e]; omega
theorem pow_lt_iff11 {p : Int} (hp : 2 ≤ p) {a b : Nat} : p ^ a < p ^ b ↔ a < b := by
  refine ⟨fun h => ?_, pow_lt11 hp⟩
  rcases Nat.lt_or_ge a b with h1 | h1
  · exact h1
  · rcases Nat.lt_or_eq_of_le h1 with h2 | h2
    · have := pow_lt11 hp h2; omega
    · subst h2; omega
theorem div_pow {p : Int} (hp : PrimeP p) : ∀ (n : Nat) (d : Int), 0 < d → d ∣ p ^ n → ∃ j, j ≤ n ∧ d = p ^ j
  | 0, d, h0, h => by
    rw [Int.pow_zero] at h
    exact ⟨0, Nat.le_refl _, by rw [Int.pow_zero]; exact Int.eq_one_of_dvd_one (by omega) h⟩
  | n + 1, d, h0, h => by
    obtain ⟨c, hc⟩ := h
    by_cases hd : p ∣ d
    · obtain ⟨e, rfl⟩ := hd
      have hp0 : p ≠ 0 := by have := hp.1; omega
      have he : p ^ n = e * c := by
        rw [Int.pow_succ] at hc
        exact Int.eq_of_mul_eq_mul_left hp0 (by grind)
      have he0 : 0 < e := by
        rcases (show 0 < e ∨ e ≤ 0 by omega) with h1 | h1
        · exact h1
        · have := Int.mul_le_mul_of_nonneg_left h1 (show 0 ≤ p by have := hp.1; omega)
          omega
      obtain ⟨j, hj, rfl⟩ := div_pow hp n e he0 ⟨c, he⟩
      exact ⟨j + 1, by omega, by rw [Int.pow_succ]; grind⟩
    · have h1 : p ^ (n + 1) ∣ c := pow_cancel hp hd (n + 1) c ⟨1, by rw [hc]; grind⟩
      obtain ⟨t, rfl⟩ := h1
      have hpp := pow_pos11 hp.1 (n + 1)
      have : d * t = 1 := by
        have e : p ^ (n + 1) * (d * t) = p ^ (n + 1) * 1 := by grind
        exact Int.eq_of_mul_eq_mul_left (by omega) e
      exact ⟨0, by omega, by rw [Int.pow_zero]; exact Int.eq_one_of_dvd_one (by omega) ⟨t, this.symm⟩⟩
/-! the greatest power that divides all the numbers -/
def gN (m : Int) (l : List Int) : Nat → Int
  | 0 => m
  | k + 1 => ((Int.gcd (gN m l k) (l.getD k 0) : Nat) : Int)
theorem gN_pos {m : Int} (hm : 0 < m) (l : List Int) : ∀ k, 0 < gN m l k
  | 0 => hm
  | k + 1 => by
    have h := gN_pos hm l k
    have : Int.gcd (gN m l k) (l.getD k 0) ≠ 0 := by
      intro h0
      have := (Int.gcd_eq_zero_iff.1 h0).1
      omega
    show 0 < ((Int.gcd (gN m l k) (l.getD k 0) : Nat) : Int)
    omega
theorem gN_dvd (m : Int) (l : List Int) : ∀ k, gN m l k ∣ m ∧ ∀ i, i < k → gN m l k ∣ l.getD i 0
  | 0 => ⟨Int.dvd_refl m, fun i hi => by omega⟩
  | k + 1 => by
    obtain ⟨h1, h2⟩ := gN_dvd m l k
    have hl : gN m l (k + 1) ∣ gN m l k := Int.gcd_dvd_left ..
    refine ⟨Int.dvd_trans hl h1, fun i hi => ?_⟩
    rcases Nat.lt_or_ge i k with h | h
    · exact Int.dvd_trans hl (h2 i h)
    · obtain rfl : i = k := by omega
      exact Int.gcd_dvd_right ..
theorem gN_great {m d : Int} {l : List Int} (hd : d ∣ m) : ∀ k, (∀ i, i < k → d ∣ l.getD i 0) → d ∣ gN m l k
  | 0, _ => hd
  | k + 1, h => Int.dvd_coe_gcd (gN_great hd k fun i hi => h i (by omega)) (h k (by omega))
theorem gN_le {m : Int} (hm : 0 < m) (l : List Int) (k : Nat) : gN m l k ≤ m := Int.le_of_dvd hm (gN_dvd m l k).1
theorem gN_pow {p : Int} (hp : PrimeP p) (n : Nat) (l : List Int) (k : Nat) : ∃ j, j ≤ n ∧ gN (p ^ n) l k = p ^ j :=
  div_pow hp n _ (gN_pos (pow_pos11 hp.1 n) l k) (gN_dvd _ l k).1
/-- of one residue -/
theorem gN_one {p v : Int} (hp : PrimeP p) {n a : Nat} (h1 : p ^ a ∣ v) (ha : a ≤ n) (h2 : a = n ∨ ¬ p ^ (a + 1) ∣ v) : gN (p ^ n) [v] 1 = p ^ a := by
  obtain ⟨j, hj, e⟩ := gN_pow hp n [v] 1
  have hd := (gN_dvd (p ^ n) [v] 1).2 0 (by omega)
  have hg := gN_great (m := p ^ n) (d := p ^ a) (l := [v]) (pow_div ha) 1 (fun i hi => by rw [show i = 0 by omega]; exact h1)
  rw [e] at hd hg ⊢
  have h3 : a ≤ j := by
    rcases Nat.lt_or_ge j a with h | h
    · have := pow_lt11 hp.1 h
      have := Int.le_of_dvd (pow_pos11 hp.1 j) hg
      omega
    · exact h
  have h4 : j ≤ a := by
    rcases h2 with h2 | h2
    · omega
    · rcases Nat.lt_or_ge a j with h | h
      · exact absurd (Int.dvd_trans (pow_div (show a + 1 ≤ j by omega)) hd) h2
      · exact h
  congr 1; omega
/-! classes of residues -/
def spanL (m a b : Int) : List Int := (List.range (m / b).toNat).map fun t : Nat => a + b * (t : Int)
def expL (m : Int) (L : List (Int × Int)) : List Int := L.flatMap fun c => spanL m c.1 c.2
def ClsOk (m : Int) (c : Int × Int) : Prop := 0 ≤ c.1 ∧ c.1 < c.2 ∧ c.2 ∣ m
theorem spanL_length (m a b : Int) : (spanL m a b).length = (m / b).toNat := by simp [spanL]
theorem expL_append (m : Int) (L K : List (Int × Int)) : expL m (L ++ K) = expL m L ++ expL m K := by simp [expL]
theorem expL_one (m : Int) (c : Int × Int) : expL m [c] = spanL m c.1 c.2 := by simp [expL]
theorem span_each {m a b : Int} {f : List Int} (hm : 0 < m) (h0 : 0 ≤ a) (h1 : a < b) (hb : b ∣ m) (h : ∀ y, b ∣ y - a → m ∣ pval f y) : Each (spanL m a b) (RootAt m f b a) := by
  obtain ⟨c, hc⟩ := hb
  have hb0 : 0 < b := by omega
  have hmb : m / b = c := by rw [hc, Int.mul_ediv_cancel_left _ (by omega)]
  have hc0 : 0 < c := by
    rcases (show 0 < c ∨ c ≤ 0 by omega) with h1 | h1
    · exact h1
    · have := Int.mul_le_mul_of_nonneg_left h1 (show 0 ≤ b by omega); omega
  refine ⟨?_, fun y => ?_⟩
  · unfold spanL
    refine List.pairwise_map.2 (List.nodup_range.imp fun {s t} hst e => hst ?_)
    have e2 : b * ((s : Int) - t) = b * 0 := by grind
    have := Int.eq_of_mul_eq_mul_left (by omega) e2
    omega
  · unfold spanL RootAt
    rw [List.mem_map, hmb]
    constructor
    · rintro ⟨t, ht, rfl⟩
      rw [List.mem_range] at ht
      have ht0 : (t : Int) < c := by omega
      have h2 : b * (t : Int) + b ≤ m := by
        have := Int.mul_le_mul_of_nonneg_left (show (t : Int) + 1 ≤ c by omega) (show 0 ≤ b by omega)
        rw [hc]; grind
      have h3 : 0 ≤ b * (t : Int) := Int.mul_nonneg (by omega) (by omega)
      have hd : b ∣ a + b * (t : Int) - a := ⟨t, by omega⟩
      exact ⟨by omega, by omega, hd, h _ hd⟩
    · rintro ⟨y0, y1, ⟨t, ht⟩, h2⟩
      have t0 : 0 ≤ t := by
        rcases (show t < 0 ∨ 0 ≤ t by omega) with h3 | h3
        · have := Int.mul_le_mul_of_nonneg_left (show t ≤ -1 by omega) (show 0 ≤ b by omega); omega
        · exact h3
      have t1 : t < c := by
        rcases (show t < c ∨ c ≤ t by omega) with h3 | h3
        · exact h3
        · have := Int.mul_le_mul_of_nonneg_left h3 (show 0 ≤ b by omega); omega
      exact ⟨t.toNat, by rw [List.mem_range]; omega, by rw [Int.toNat_of_nonneg t0]; omega⟩
theorem expL_len {m : Int} : ∀ {L : List (Int × Int)} (c : Int × Int), (expL m (L ++ [c])).length = (expL m L).length + (m / c.2).toNat := fun c => by
  rw [expL_append, expL_one, List.length_append, spanL_length]
/-! places of the tree -/
theorem list_div {D : Int} {g : List Int} (h : ∀ i, D ∣ g.getD i 0) : ∃ e : List Int, ∀ x, pval g x = D * pval e x := by
  obtain ⟨e, he⟩ := cgp_of (p := D) (f := g) (g := []) fun i => by simpa using h i
  exact ⟨e, fun x => by rw [he x, pval_nil, Int.zero_add]⟩
theorem comp_at (d p : Int) : ∀ h : List Int, ∃ S : List Int, ∀ y, pval h (d + p * y) = pval h d + p * pval S y
  | [] => ⟨[], fun y => by simp only [pval_nil]; omega⟩
  | c :: h => by
    obtain ⟨S, hS⟩ := comp_at d p h
    refine ⟨addL (addL [0, pval h d] S d) (0 :: S) p, fun y => ?_⟩
    rw [pval_cons, pval_cons, hS y, pval_add, pval_add, pval_cons, pval_cons, pval_nil, pval_cons]
    grind
structure TrI (p : Int) (n : Nat) (f g : List Int) (x q : Int) (k : Nat) : Prop where
  hk : k ≤ n
  hq : q = p ^ k
  x0 : 0 ≤ x
  x1 : x < q
  val : ∀ y, p ^ n ∣ pval g y - pval f (x + y * q)
  cof : ∀ i, p ^ k ∣ g.getD i 0
  mod : ModP (p ^ n) g
theorem tr_start {p : Int} (hp : 2 ≤ p) (n : Nat) (f : List Int) : TrI p n f (redL (p ^ n) f) 0 1 0 := by
  refine ⟨by omega, by simp, by omega, by omega, fun y => ?_, fun i => by rw [Int.pow_zero]; exact Int.one_dvd _, redL_mod (pow_pos11 hp n) f⟩
  obtain ⟨h, hh⟩ := redL_cg (p ^ n) f
  rw [hh y, Int.mul_one, Int.zero_add]
  exact ⟨pval h y, by omega⟩
theorem tr_ok {p x q : Int} {n k : Nat} {f g : List Int} (h : TrI p n f g x q k) : ClsOk (p ^ n) (x, q) := ⟨h.x0, h.x1, by rw [h.hq]; exact pow_div h.hk⟩
theorem tr_leaf {p x q : Int} {n k : Nat} {f : List Int} (hp : 2 ≤ p) (h : TrI p n f [] x q k) : Each (expL (p ^ n) [(x, q)]) (RootAt (p ^ n) f q x) := by
  rw [expL_one]
  refine span_each (pow_pos11 hp n) h.x0 h.x1 (tr_ok h).2.2 fun y hy => ?_
  obtain ⟨t, ht⟩ := hy
  have := h.val t
  rw [pval_nil, show x + t * q = y by grind] at this
  obtain ⟨c, hc⟩ := this
  exact ⟨-c, by grind⟩
theorem tr_low {p x q : Int} {n k : Nat} {f g : List Int} (hp : PrimeP p) (h : TrI p n f g x q k) (hg : g ≠ []) : ∃ j, k ≤ j ∧ j < n ∧ gN (p ^ n) g g.length = p ^ j := by
  obtain ⟨j, hj, e⟩ := gN_pow hp n g g.length
  have hd := (gN_dvd (p ^ n) g g.length).2
  have hge := gN_great (m := p ^ n) (d := p ^ k) (l := g) (pow_div h.hk) g.length fun i _ => h.cof i
  rw [e] at hd hge
  refine ⟨j, ?_, ?_, e⟩
  · rcases Nat.lt_or_ge j k with h1 | h1
    · have h2 := pow_lt11 hp.1 h1
      have := Int.le_of_dvd (pow_pos11 hp.1 j) hge
      omega
    · exact h1
  · rcases Nat.lt_or_eq_of_le hj with h1 | h1
    · exact h1
    · subst h1
      refine absurd (modP_zero h.mod fun i => ?_) hg
      rcases Nat.lt_or_ge i g.length with h2 | h2
      · exact hd i h2
      · rw [getD_out h2]; exact Int.dvd_zero _
theorem tr_part {p x q : Int} {n k j : Nat} {f g : List Int} (h : TrI p n f g x q k) (e : gN (p ^ n) g g.length = p ^ j) : ∃ h0 : List Int, ∀ y, pval g y = p ^ j * pval h0 y := by
  have hd := (gN_dvd (p ^ n) g g.length).2
  rw [e] at hd
  refine list_div fun i => ?_
  rcases Nat.lt_or_ge i g.length with h2 | h2
  · exact hd i h2
  · rw [getD_out h2]; exact Int.dvd_zero _
theorem tr_skip {p x q : Int} {n k j : Nat} {f g : List Int} (hp : 2 ≤ p) (h : TrI p n f g x q k) (hj : j < n) (e : gN (p ^ n) g g.length = p ^ j) {d : Int} (hd : ¬ p ^ (j + 1) ∣ pval g d) (y : Int) : ¬ RootAt (p ^ n) f (q * p) (x + d * q) y := by
  rintro ⟨_, _, ⟨t, ht⟩, hy⟩
  obtain ⟨h0, hh⟩ := tr_part h e
  have hv := h.val (d + p * t)
  rw [show x + (d + p * t) * q = y by grind] at hv
  obtain ⟨S, hS⟩ := comp_at d p h0
  apply hd
  have h1 : p ^ (j + 1) ∣ pval g (d + p * t) := by
    refine Int.dvd_trans (pow_div (show j + 1 ≤ n by omega)) ?_
    obtain ⟨a, ha⟩ := hv
    obtain ⟨b, hb⟩ := hy
    exact ⟨a + b, by grind⟩
  obtain ⟨c, hc⟩ := h1
  rw [hh, hS] at hc
  rw [hh]
  exact ⟨c - pval S t, by rw [Int.pow_succ] at hc ⊢; grind⟩
theorem tr_down {p x q : Int} {n k j : Nat} {f g g' : List Int} (hp : PrimeP p) (h : TrI p n f g x q k) (hkj : k ≤ j) (hj : j < n) (e : gN (p ^ n) g g.length = p ^ j) {d : Int} (d0 : 0 ≤ d) (d1 : d < p) (hd : p ^ (j + 1) ∣ pval g d)
    (hm : ModP (p ^ n) g') (hv : ∃ H : List Int, ∀ y, pval g' y = pval g (d + p * y) + p ^ n * pval H y) : TrI p n f g' (x + d * q) (q * p) (k + 1) := by
  obtain ⟨H, hH⟩ := hv
  have hq0 : 0 < q := by rw [h.hq]; exact pow_pos11 hp.1 k
  have x0 := h.x0
  have x1 := h.x1
  have e1 : 0 ≤ d * q := Int.mul_nonneg d0 (by omega)
  have e2 : d * q + q ≤ q * p := by
    have := Int.mul_le_mul_of_nonneg_left (show d + 1 ≤ p by omega) (show 0 ≤ q by omega)
    grind
  refine ⟨by omega, by rw [h.hq, Int.pow_succ], by omega, by omega, fun y => ?_, fun i => ?_, hm⟩
  · obtain ⟨a, ha⟩ := h.val (d + p * y)
    rw [show x + (d + p * y) * q = x + d * q + y * (q * p) by grind] at ha
    exact ⟨a + pval H y, by rw [hH y]; grind⟩
  · obtain ⟨h0, hh⟩ := tr_part h e
    obtain ⟨S, hS⟩ := comp_at d p h0
    obtain ⟨c, hc⟩ := hd
    have hpd : p ∣ pval h0 d := by
      rw [hh, Int.pow_succ] at hc
      have hpj := pow_pos11 hp.1 j
      exact ⟨c, Int.eq_of_mul_eq_mul_left (show p ^ j ≠ 0 by omega) (by grind)⟩
    obtain ⟨u, hu⟩ := hpd
    obtain ⟨w, hw⟩ : p ^ (j + 1) ∣ p ^ n := pow_div (by omega)
    have hcg : CgP (p ^ (j + 1)) g' [] := ⟨addL (addL [u] S 1) H w, fun y => by
      rw [hH y, hh, hS, hu, pval_nil, pval_add, pval_add, pval_cons, pval_nil, hw, Int.pow_succ]
      grind⟩
    have := cgp_coef hcg i
    have h2 : p ^ (j + 1) ∣ g'.getD i 0 := by simpa using this
    exact Int.dvd_trans (pow_div (show k + 1 ≤ j + 1 by omega)) h2
theorem to_skip {m : Int} {f : List Int} {p q x : Int} {d : Nat} {l : List Int} (h : Each l (RootTo m f p q x d)) (hs : ∀ y, ¬ RootAt m f (q * p) (x + (d : Int) * q) y) : Each l (RootTo m f p q x (d + 1)) :=
  h.congr fun y => by rw [rootTo_succ]; exact ⟨.inl, fun h2 => h2.elim id fun h3 => absurd h3 (hs y)⟩
end Go.Proofs.Ytbjkcoajabcibaa
namespace Go.Proofs.Ytbjkcoajabcibaa
open Go.RowKit Go.Shelf
attribute [local go_sem] Oper.semAt_some
set_option linter.unusedVariables false
set_option linter.unusedSimpArgs false
set_option maxRecDepth 20000
/-- Horner's rule with polynomials: f at d + p y -/
def bhL (M d p : Int) (f : List Int) : Nat → List Int
  | 0 => []
  | j + 1 => redL M (addL (prodL M (bhL M d p f j) [d, p]) [f.getD (f.length - 1 - j) 0] 1)
theorem bhL_mod {M : Int} (hM : 0 < M) (d p : Int) (f : List Int) : ∀ j, ModP M (bhL M d p f j)
  | 0 => modP_nil hM
  | j + 1 => redL_mod hM _
theorem bhL_len (M d p : Int) (f : List Int) : ∀ j, (bhL M d p f j).length ≤ j
  | 0 => Nat.le_refl _
  | j + 1 => by
    have h1 := bhL_len M d p f j
    have h2 := prodL_len M (bhL M d p f j) [d, p]
    have h3 := redL_le M (addL (prodL M (bhL M d p f j) [d, p]) [f.getD (f.length - 1 - j) 0] 1)
    have e2 : ([d, p] : List Int).length = 2 := rfl
    have e1 : ([f.getD (f.length - 1 - j) 0] : List Int).length = 1 := rfl
    have e3 : (addL (prodL M (bhL M d p f j) [d, p]) [f.getD (f.length - 1 - j) 0] 1).length = max (prodL M (bhL M d p f j) [d, p]).length ([f.getD (f.length - 1 - j) 0] : List Int).length := by rw [addL, tabL_length]
    rw [bhL]
    omega
theorem pval_two (d p y : Int) : pval [d, p] y = d + p * y := by rw [pval_cons, pval_cons, pval_nil]; grind
theorem bhL_val (M d p : Int) (f : List Int) : ∀ j, ∃ H : List Int, ∀ y, pval (bhL M d p f j) y = evalD f (d + p * y) j + M * pval H y
  | 0 => ⟨[], fun y => by rw [bhL, pval_nil]; show (0 : Int) = 0 + M * 0; omega⟩
  | j + 1 => by
    obtain ⟨H, hH⟩ := bhL_val M d p f j
    obtain ⟨h1, e1⟩ := redL_cg M (addL (prodL M (bhL M d p f j) [d, p]) [f.getD (f.length - 1 - j) 0] 1)
    obtain ⟨h2, e2⟩ := redL_cg M (mulL (bhL M d p f j) [d, p])
    refine ⟨addL (addL h1 h2 1) (mulL H [d, p]) 1, fun y => ?_⟩
    have e3 : evalD f (d + p * y) (j + 1) = evalD f (d + p * y) j * (d + p * y) + f.getD (f.length - 1 - j) 0 := rfl
    have e2' := e2 y
    rw [pval_mul, pval_two] at e2'
    rw [bhL, e1 y, pval_add, show prodL M (bhL M d p f j) [d, p] = redL M (mulL (bhL M d p f j) [d, p]) from rfl, e2', pval_one, e3, pval_add, pval_add, pval_mul, pval_two, hH y]
    grind
theorem bhL_all {M : Int} (d p : Int) (f : List Int) : ∃ H : List Int, ∀ y, pval (bhL M d p f f.length) y = pval f (d + p * y) + M * pval H y := by
  obtain ⟨H, hH⟩ := bhL_val M d p f f.length
  refine ⟨H, fun y => ?_⟩
  rw [hH y]
  congr 1
  rw [evalD_pv f _ f.length (Nat.le_refl _)]
  unfold pval
  exact pv_congr fun i _ => by rw [Nat.sub_self, Nat.zero_add]
/-! memory -/
def RingAt (W : World) (b : Nat) (p q : Int) : Prop := W.heap[b]? = some (.cells #[.int .i64 p, .int .i64 q] 25 (0, 0))
theorem ringAt_cells {W : World} {b : Nat} {p q : Int} (h : RingAt W b p q) : W.cell? ⟨b, 0, none⟩ = some (.int .i64 p) ∧ W.cell? ⟨b, 1, none⟩ = some (.int .i64 q) := by
  unfold RingAt at h
  constructor <;> (unfold World.cell?; rw [show W.heap[(⟨b, _, none⟩ : Addr).block]? = _ from h]; rfl)
theorem ringAt_lt {W : World} {b : Nat} {p q : Int} (h : RingAt W b p q) : b < W.heap.size := World.block_lt_of_cell? _ _ (ringAt_cells h).1
theorem ringAt_put {W : World} {b k : Nat} {p q : Int} {o o' : Obj} (h : RingAt W b p q) (hk : W.heap[k]? = some o) (ho : o.isCells = false) : RingAt (W.putObj k o') b p q := by
  have hne : b ≠ k := by
    rintro rfl
    unfold RingAt at h
    rw [h] at hk; cases hk; cases ho
  exact (World.putObj_heap_other hne).trans h
theorem ringAt_below {W W' : World} {b : Nat} {p q : Int} (h : RingAt W b p q) (hb : Below W.heap.size W W') : RingAt W' b p q := (hb.block b (ringAt_lt h)).trans h
theorem ringAt_set {W : World} {b : Nat} {p q : Int} (h : RingAt W b p q) {a : Addr} (ha : b ≠ a.block) (x : Value) : RingAt (W.setCell a x) b p q := by
  have e : (W.setCell a x).heap[b]? = W.heap[b]? := Below.heap_setCell _ _ _ _ ha
  exact e.trans h
theorem row_set11 {b : Nat} {w : World} {v : Value} {l : List Int} {a : Addr} (h : IntRow b w v l) (ha : a.block < b) (x : Value) : IntRow b (w.setCell a x) v l := by
  refine World.ownsRow.kept (row := some a.block) h ⟨rfl, rfl, rfl, Nat.le_of_eq (World.size_setCell _ _ _).symm, fun j hj hne => Below.heap_setCell _ _ _ _ (fun e => hne (by rw [e]))⟩ ?_
  cases hv : v.ownBlock with
  | none => exact .inl rfl
  | some k =>
    right
    intro he
    have h1 := h.lt k hv
    injection he with he
    omega
theorem seen_two11 (w : World) (x y : Int) (T : TypeId) : Seen (w.alloc (.cells #[.int .i64 x, .int .i64 y] T)) (some ⟨w.heap.size, 0, none⟩) 2 2 [x, y] := by
  refine ⟨rfl, by omega, (fun h => by cases h), Nat.le_refl _, w.heap.size, fun _ => ⟨rfl, by simp⟩, fun k hk => ?_⟩
  have : k = 0 ∨ k = 1 := by omega
  rcases this with rfl | rfl
  · rw [World.cell?_alloc_new]; rfl
  · rw [World.cell?_alloc_new]; rfl
theorem seen_one12 (w : World) (v : Int) (T : TypeId) : Seen (w.alloc (.cells #[.int .i64 v] T)) (some ⟨w.heap.size, 0, none⟩) 1 1 [v] := by
  refine ⟨rfl, by omega, (fun h => by cases h), Nat.le_refl _, w.heap.size, fun _ => ⟨rfl, by simp⟩, fun k hk => ?_⟩
  obtain rfl : k = 0 := by omega
  rw [World.cell?_alloc_new]; rfl
/-- what holds at the head of each round -/
def BdI (w : World) (M p q d : Int) (f : List Int) (pre : List (Nat × Int)) (W : World) : Prop :=
  RingAt W w.heap.size p q ∧ Boxed W (w.heap.size + 1) 2 (.int .i64 d) ∧ (∃ v, Boxed W (w.heap.size + 1 + 1) 26 v ∧ IntRow (w.heap.size + 1 + 1 + 1 + 1) W v (bhL M d p f pre.length)) ∧ Below w.heap.size w W ∧ w.heap.size + 1 + 1 + 1 + 1 ≤ W.heap.size
theorem bdI_put {w W : World} {M p q d : Int} {f : List Int} {pre : List (Nat × Int)} {k : Nat} {o o' : Obj} (h : BdI w M p q d f pre W) (hb : w.heap.size ≤ k) (hk : W.heap[k]? = some o) (ho : o.isCells = false) : BdI w M p q d f pre (W.putObj k o') := by
  obtain ⟨h1, h2, ⟨v, h3, h4⟩, h5⟩ := h
  exact ⟨ringAt_put h1 hk ho, boxed_put8 h2 hk ho, ⟨v, boxed_put8 h3 hk ho, row_put8 h4 hk ho⟩, below_put8 h5.1 hb, by have := h5.2; simp [World.putObj]; omega⟩
theorem bdI_below {w A B : World} {M p q d : Int} {f : List Int} {pre : List (Nat × Int)} (h : BdI w M p q d f pre A) (hs : StU8 A B) : BdI w M p q d f pre B := by
  obtain ⟨h1, h2, ⟨v, h3, h4⟩, h5⟩ := h
  exact ⟨ringAt_below h1 hs, boxed_below8 h2 hs, ⟨v, boxed_below8 h3 hs, row_below h4 hs (Nat.le_refl _)⟩, h5.1.trans (hs.mono h5.1.size), Nat.le_trans h5.2 hs.size⟩
theorem res_two {d p : Int} (d0 : 0 ≤ d) (d1 : d ≤ 1000000000) (p0 : 0 ≤ p) (p1 : p ≤ 1000000000) : Res9 [d, p] := fun i => by
  match i with
  | 0 => exact ⟨d0, d1⟩
  | 1 => exact ⟨p0, p1⟩
  | i + 2 => simp
theorem res_one {d : Int} (d0 : 0 ≤ d) (d1 : d ≤ 1000000000) : Res9 [d] := fun i => by
  match i with
  | 0 => exact ⟨d0, d1⟩
  | i + 1 => simp
set_option maxHeartbeats 4000000 in
theorem behind_any {p q M d : Int} (hR : ringM p q = M) (h0 : ringM p q ≠ 0) (d0 : 0 ≤ d) (d1 : d < p) {o : Option Addr} {n c : Nat} {f : List Int} {w : World} (h : Seen w o n c f) (hf : ModP M f) (hn9 : n ≤ 9) :
    Calls Try.prog 124 #[.agg #[.int .i64 p, .int .i64 q], .slice o n c, .int .i64 d] w (OwnPost (bhL M d p f f.length) w) := by
  obtain ⟨hp2, hp97, hn1, hn2, m2, m9, hpm⟩ := ringM_bd h0
  rw [hR] at m2 m9 hpm
  obtain ⟨hl, hn, hno, hnc, g, h1, h2⟩ := h
  subst hl
  obtain ⟨bf, hbl, hbo, hbc⟩ : ∃ b, b < w.heap.size + 1 ∧ (0 < f.length → o = some ⟨b, 0, none⟩) ∧ ∀ W, Below w.heap.size w W → ∀ k, k < f.length → W.cell? ⟨b, k, none⟩ = some (.int .i64 (f.getD k 0)) := by
    by_cases h0 : 0 < f.length
    · exact ⟨g, by have := (h1 h0).2; omega, fun _ => (h1 h0).1, fun W hb k hk => by rw [hb.cell (p := ⟨g, k, none⟩) (h1 h0).2]; exact h2 k hk⟩
    · exact ⟨w.heap.size, by omega, fun h => absurd h h0, fun _ _ k hk => absurd hk (by omega)⟩
  have HBF := Lib.hid (show 0 < f.length → bf < w.heap.size by
    intro hp
    have := (h1 hp).1
    have e := hbo hp
    rw [this] at e
    injection e with e
    injection e with e
    rw [← e]; exact (h1 hp).2)
  have HC := Lib.hid hbc
  have HO := Lib.hid hbo
  have HF := Lib.hid hf
  have HAG := Lib.hid hbl
  have HPR := Lib.hid fun (W : World) (o1 : Option Addr) (n1 c1 : Nat) (f1 : List Int) (h1 : Seen W o1 n1 c1 f1) (o2 : Option Addr) (n2 c2 : Nat) (f2 : List Int) (h2 : Seen W o2 n2 c2 f2) (r1 : Res9 f1) (r2 : Res9 f2) (k1 : n1 ≤ 20) (k2 : n2 ≤ 20) => productR_any hR m2 m9 h1 h2 r1 r2 k1 k2
  have HSU := Lib.hid fun (W : World) (o1 : Option Addr) (n1 c1 : Nat) (f1 : List Int) (h1 : Seen W o1 n1 c1 f1) (o2 : Option Addr) (n2 c2 : Nat) (f2 : List Int) (h2 : Seen W o2 n2 c2 f2) (r1 : Res9 f1) (r2 : Res9 f2) (k1 : n1 ≤ 20) (k2 : n2 ≤ 20) => sumR_any hR m2 m9 h1 h2 r1 r2 k1 k2
  have HN9 := Lib.hid hn
  clear hno hnc h1 h2 hf hn hbl hbo hbc g h0 hR
  refine (callsIn_wide (n := 4)).1 ?_
  refine callsIn_of_wp_marks Try.func124 rfl trivial ?_ rfl
  simp only [Try.ntmps124, List.size_toArray, List.length_cons, List.length_nil, Nat.reduceAdd, Nat.reduceSub, Array.replicate_succ, Array.replicate_zero, List.push_toArray, List.append_toArray, List.nil_append, List.cons_append]
  refine wpIn_wide.2 ?_
  go_wp2_with fail
  refine (backward8_made _ _ _ _).mono ?_
  rintro e W8 ⟨rfl, rfl⟩
  go_wp2_with fail
  obtain ⟨W9, hW9⟩ : ∃ W9, (((w.alloc (.cells #[.int .i64 p, .int .i64 q] 25)).alloc (.cells #[.int .i64 d] 2)).alloc (.cells #[.slice none 0 0] 26)).alloc (.cells #[.slice o f.length c] 26) = W9 := ⟨_, rfl⟩
  have b1 := below_a8 w (.cells #[.int .i64 p, .int .i64 q] 25)
  have b2 := b1.alloc (by simp) (.cells #[.int .i64 d] 2)
  have b3 := b2.alloc (by simp; omega) (.cells #[.slice none 0 0] 26)
  have b4 := b3.alloc (by simp; omega) (.cells #[.slice o f.length c] 26)
  have r1 : RingAt (w.alloc (.cells #[.int .i64 p, .int .i64 q] 25)) w.heap.size p q := World.alloc_heap_new w _
  have r4 := ringAt_below (ringAt_below (ringAt_below r1 (below_a8 _ (.cells #[.int .i64 d] 2))) (below_a8 _ (.cells #[.slice none 0 0] 26))) (below_a8 _ (.cells #[.slice o f.length c] 26))
  have x2 := Boxed.new (w.alloc (.cells #[.int .i64 p, .int .i64 q] 25)) 2 (.int .i64 d)
  have x4 := boxed_below8 (boxed_below8 x2 (below_a8 _ (.cells #[.slice none 0 0] 26))) (below_a8 _ (.cells #[.slice o f.length c] 26))
  have y3 := Boxed.new ((w.alloc (.cells #[.int .i64 p, .int .i64 q] 25)).alloc (.cells #[.int .i64 d] 2)) 26 (.slice none 0 0)
  have y4 := boxed_below8 y3 (below_a8 _ (.cells #[.slice o f.length c] 26))
  have z4 := Boxed.new (((w.alloc (.cells #[.int .i64 p, .int .i64 q] 25)).alloc (.cells #[.int .i64 d] 2)).alloc (.cells #[.slice none 0 0] 26)) 26 (.slice o f.length c)
  rw [World.size_alloc] at x4
  rw [World.size_alloc, World.size_alloc] at y4
  rw [World.size_alloc, World.size_alloc, World.size_alloc] at z4
  rw [hW9] at b4 r4 x4 y4 z4
  have HB := Lib.hid b4
  have HRA := Lib.hid r4
  have HX := Lib.hid x4
  have HY := Lib.hid y4
  have HKB := Lib.hid z4
  clear b1 b2 b3 b4 r1 r4 x2 x4 y3 y4 z4
  go_wp2_with fail
  rw [hW9]
  clear hW9
  refine (wpIn_wide (n := 4)).1 ?_
  have hsz := HB.out.size
  have hkl : w.heap.size + 1 + 1 + 1 < W9.heap.size := HKB.out.lt
  have hgl := HAG.out
  refine wpIn_rangeBb (F := Fence.wide) (n := 4) (P := Try.prog) (w := W9) rfl (by omega) (gf := 159) (ba := #[]) (lb := #[.pointer (some ⟨w.heap.size + 1 + 1 + 1, 0, none⟩)]) rfl trivial (enters_of Try.func159 (by kernel_rfl) rfl)
    (backwardO_by 3 (by omega) o bf (w.heap.size + 1 + 1 + 1) c f HO.out HN9.out) (fun _ => rfl)
    (BdI w M p q d f) (fun _ _ => False)
    (fun y => { tmps := #[.agg #[.int .i64 p, .int .i64 q], .slice o f.length c, .int .i64 d, .pointer (some ⟨w.heap.size, 0, none⟩), undef, .pointer (some ⟨w.heap.size + 1, 0, none⟩), .slice none 0 0, .pointer (some ⟨w.heap.size + 1 + 1, 0, none⟩), undef, .int .i64 y.2, .slice o f.length c, .func (.func 159) #[] #[.pointer (some ⟨w.heap.size + 1 + 1 + 1, 0, none⟩)], .int .i64 y.1, .int .i64 y.2, undef, undef, undef, undef, undef, undef, undef, undef, undef, undef, undef, undef, undef], defers := [] })
    ?ip ?xp ?fp ?fq ?ft ?is ?xs ?sk ?h0 ?s0 ?assign ?body ?done ?stop
  case ip => intro pre W k u u' h hk hu hc; exact bdI_put h (by omega) hu hc
  case xp => intro _ _ _ _ _ h; exact h.elim
  case fp => intro A W k u u' hf hk hu hc; exact fr8_put hf (by omega) (by omega)
  case fq => intro W k u u' hk hu hc; exact fr8_put (fun _ _ => rfl) (by omega) (by omega)
  case ft => intro A B C h k; exact fr8_trans h k
  case is => intro pre A B h hs; exact bdI_below h hs
  case xs => intro _ _ _ h; exact h.elim
  case sk => intro A B k u hs hk hu hc; exact (hs.block k (Array.getElem?_eq_some_iff.1 hu).1).trans hu
  case h0 =>
    intro oo oo'
    have hbb : Below W9.heap.size W9 ((W9.alloc oo).alloc oo') := (below_a8 W9 oo).alloc (by simp) oo'
    exact ⟨ringAt_below HRA.out hbb, boxed_below8 HX.out hbb, ⟨_, boxed_below8 HY.out hbb, intRow_nil _ _⟩, HB.out.trans (hbb.mono hsz), by have := hbb.size; omega⟩
  case s0 =>
    intro oo oo'
    have hbb : Below W9.heap.size W9 ((W9.alloc oo).alloc oo') := (below_a8 W9 oo).alloc (by simp) oo'
    exact ⟨boxed_below8 HKB.out hbb, fun k hk => HC.out _ (HB.out.trans (hbb.mono hsz)) k hk⟩
  case assign =>
    intro lp y W K hK
    gi_wp2
    exact hK
  case body =>
    rintro lp pre y W hsp ⟨hra, hx, ⟨v, hv, hrow⟩, hb, hWs⟩
    obtain ⟨hk, hy⟩ := bk8_last hsp
    have hpl : pre.length < f.length := hk
    have hyr := HF.out.rng (f.length - 1 - pre.length)
    rw [← hy] at hyr
    obtain ⟨z, hz⟩ : ∃ z, y.2 = z := ⟨_, rfl⟩
    rw [hz] at hyr hy ⊢
    have hbl := bhL_len M d p f pre.length
    have hbm := bhL_mod (M := M) (by omega) d p f pre.length
    have hnext : bhL M d p f (pre ++ [y]).length = redL M (addL (prodL M (bhL M d p f pre.length) [d, p]) [z] 1) := by rw [List.length_append, List.length_singleton, bhL, hy]
    have HNX := Lib.hid hnext
    obtain ⟨B, hB⟩ : ∃ B, bhL M d p f pre.length = B := ⟨_, rfl⟩
    rw [hB] at hrow hbl hbm HNX
    have hpl2 := prodL_len M B [d, p]
    have e2 : ([d, p] : List Int).length = 2 := rfl
    have hpm2 : ModP M (prodL M B [d, p]) := redL_mod (by omega) _
    obtain ⟨o1, c1, rfl⟩ := row_slice hrow
    obtain ⟨r0, r1⟩ := ringAt_cells hra
    have q2 := hx.cell
    have q3 := hv.cell
    have hbs := hb.size
    have HRA2 := Lib.hid hra
    have HX2 := Lib.hid hx
    have HV2 := Lib.hid hv
    have HB2 := Lib.hid hb
    have HSEEN := Lib.hid (row_seen hrow (by omega))
    have HRB := Lib.hid (modP_res9 m9 hbm)
    have HRB2 := Lib.hid (modP_res9 m9 hpm2)
    have HR2 := Lib.hid (res_two (d := d) (p := p) d0 (by omega) (by omega) (by omega))
    have HRZ := Lib.hid (res_one (d := z) hyr.1 (by omega))
    have HFB := Lib.hid (HBF.out (by omega))
    obtain ⟨B2, hB2⟩ : ∃ B2, prodL M B [d, p] = B2 := ⟨_, rfl⟩
    have HB2E := Lib.hid hB2
    rw [hB2] at hpl2 HNX HRB2
    have hl20 : B.length ≤ 20 := by omega
    have hl21 : B2.length ≤ 20 := by omega
    have hnc : w.heap.size + 1 + 1 < W.heap.size := by omega
    clear hsp hk hy hpl hnext hB hpm2 hbm hra hx hv hb hrow hz
    gi_wp2_with (first
      | (refine ⟨trivial, ?_⟩; gi_at_call 93; refine (CallsIn.inRound lp (callsIn_wide.2 (HPR.out _ _ _ _ _ (seen_al HSEEN.out _) _ _ _ _ (seen_two11 W d p 2) HRB.out HR2.out hl20 (by omega)))).mono ?_; rw [HB2E.out]; rintro e W2 ⟨v1, rfl, hr1, hb1⟩
         obtain ⟨o2, c2, rfl⟩ := row_slice hr1
         have hb1' := (below_a8 W (.cells #[.int .i64 d, .int .i64 p] 2)).trans (hb1.mono (by simp))
         have hv2 := boxed_below8 HV2.out hb1'
         have hv3 := hv2.set (.slice o2 B2.length c2)
         have hra3 := ringAt_set (ringAt_below HRA2.out hb1') (a := ⟨w.heap.size + 1 + 1, 0, none⟩) (by show w.heap.size ≠ w.heap.size + 1 + 1; omega) (.slice o2 B2.length c2)
         have hx3 := boxed_set8 (boxed_below8 HX2.out hb1') (a := ⟨w.heap.size + 1 + 1, 0, none⟩) (by show w.heap.size + 1 ≠ w.heap.size + 1 + 1; omega) (.slice o2 B2.length c2)
         have hseen3 := row_seen (row_set11 hr1 (a := ⟨w.heap.size + 1 + 1, 0, none⟩) (by show w.heap.size + 1 + 1 < (W.alloc _).heap.size; simp; omega) (.slice o2 B2.length c2)) (by omega)
         have hs1 := hb1'.size
         have hone := seen_one12 (W2.setCell ⟨w.heap.size + 1 + 1, 0, none⟩ (.slice o2 B2.length c2)) z 2
         rw [World.size_setCell] at hone
         have HONE := Lib.hid hone
         clear hone
         have p2 := hv2.cell
         have p2f := hv2.frozen
         have p3 := hv3.cell
         obtain ⟨s0, s1⟩ := ringAt_cells hra3
         have HST := Lib.hid (And.intro hb1' (And.intro hv3 (And.intro hra3 (And.intro hx3 hseen3))))
         clear hb1' hv2 hv3 hra3 hx3 hseen3 hb1 hr1 q2 q3 r0 r1)
      | (refine ⟨trivial, ?_⟩; gi_at_call 158; refine (CallsIn.inRound lp (callsIn_wide.2 (HSU.out _ _ _ _ _ (seen_al HST.out.2.2.2.2 _) _ _ _ _ HONE.out HRB2.out HRZ.out hl21 (by omega)))).mono ?_; rintro e W5 ⟨v2, rfl, hr2, hb2⟩
         obtain ⟨o3, c3, rfl⟩ := row_slice hr2
         obtain ⟨hb1', hv3, hra3, hx3, hseen3⟩ := HST.out
         obtain ⟨W3, hW3⟩ : ∃ W3, W2.setCell ⟨w.heap.size + 1 + 1, 0, none⟩ (.slice o2 B2.length c2) = W3 := ⟨_, rfl⟩
         have hk3 : KeepsOthers W2 W3 := by rw [← hW3]; exact KeepsOthers.setCell _ _ _
         have hh3 : ∀ j, j ≠ w.heap.size + 1 + 1 → W3.heap[j]? = W2.heap[j]? := fun j hj => by rw [← hW3]; exact Below.heap_setCell _ _ _ _ hj
         have hz3 : W3.heap.size = W2.heap.size := by rw [← hW3]; exact World.size_setCell _ _ _
         have hB3 : Below w.heap.size w W3 := by rw [← hW3]; exact (HB2.out.trans (hb1'.mono hbs)).setCell (p := ⟨w.heap.size + 1 + 1, 0, none⟩) (show w.heap.size ≤ w.heap.size + 1 + 1 by omega) _
         rw [hW3] at hr2 hb2 hv3 hra3 hx3 hseen3
         have hb2' := (below_a8 W3 (.cells #[.int .i64 z] 2)).trans (hb2.mono (by simp))
         have hv5 := boxed_below8 hv3 hb2'
         have hx5 := boxed_below8 hx3 hb2'
         have hra5 := ringAt_below hra3 hb2'
         have hB5 := hB3.trans (hb2'.mono hB3.size)
         have t2 := hv5.cell
         have t2f := hv5.frozen
         have hs5 := hb2'.size
         have hF5 : Fr8 bf (w.heap.size + 1 + 1 + 1) W W5 := by
           intro j hj
           have hj1 : j < W.heap.size := by have := HFB.out; rcases hj with rfl | rfl <;> omega
           have hj2 : j ≠ w.heap.size + 1 + 1 := by have := HFB.out; rcases hj with rfl | rfl <;> omega
           rw [hb2'.block j (by omega), hh3 j hj2, hb1'.block j hj1]
         have hK5 : KeepsOthers W W5 := (keeps_below8 hb1').trans (hk3.trans (keeps_below8 hb2'))
         have HFIN := Lib.hid (And.intro hF5 (And.intro hK5 (And.intro hv5 (And.intro hx5 (And.intro hra5 (And.intro hB5 hr2))))))
         have hQ5 : w.heap.size + 1 + 1 + 1 + 1 ≤ W5.heap.size := by omega
         clear hF5 hK5 hv5 hx5 hra5 hB5 hr2 hb2 hb2' hB3 hh3 hk3 hv3 hra3 hx3 hseen3 hb1' HST p3 p2 p2f s0 s1))
    obtain ⟨hF5, hK5, hv5, hx5, hra5, hB5, hr2⟩ := HFIN.out
    refine ⟨hK5.trans (KeepsOthers.setCell _ _ _), ?_, ringAt_set hra5 (by show w.heap.size ≠ w.heap.size + 1 + 1; omega) _, boxed_set8 hx5 (by show w.heap.size + 1 ≠ w.heap.size + 1 + 1; omega) _, ⟨_, hv5.set _, ?_⟩, hB5.setCell (p := ⟨w.heap.size + 1 + 1, 0, none⟩) (show w.heap.size ≤ w.heap.size + 1 + 1 by omega) _, by rw [World.size_setCell]; exact hQ5⟩
    · exact fr8_trans hF5 fun j hj => Below.heap_setCell _ _ _ _ (by show j ≠ w.heap.size + 1 + 1; have := HFB.out; rcases hj with rfl | rfl <;> omega)
    · rw [HNX.out]
      exact intRow_lower (row_set11 hr2 (a := ⟨w.heap.size + 1 + 1, 0, none⟩) (by show w.heap.size + 1 + 1 < (W3.alloc _).heap.size; simp; omega) _) (by simp; omega)
  case done =>
    rintro D xs W hD rfl ⟨hra, hx, ⟨v, hv, hrow⟩, hb, hWs⟩ hK
    rw [bk8_length] at hrow
    obtain ⟨o1, c1, rfl⟩ := row_slice hrow
    have q2 := hv.cell
    have HB9 := Lib.hid hb
    have HKD := Lib.hid hK
    have HRW := Lib.hid hrow
    have hDw : w.heap.size ≤ D := by omega
    clear hra hx hv hb hK hrow
    go_wp2_with fail
    refine ⟨by simp, .inl ⟨_, _, rfl, run_takeDeferred HKD.out, ?_⟩⟩
    refine ⟨.slice o1 (bhL M d p f f.length).length c1, by simp [results, Try.results124, go_sem], ?_⟩
    exact ⟨_, rfl, intRow_lower (row_put8 HRW.out HKD.out rfl) (by omega), below_put8 HB9.out hDw⟩
  case stop => intro _ _ _ _ _ h; exact h.elim
end Go.Proofs.Ytbjkcoajabcibaa
namespace Go.Proofs.Ytbjkcoajabcibaa
open Go.RowKit
set_option linter.unusedVariables false
set_option linter.unusedSimpArgs false
set_option maxRecDepth 20000
/-- a ring and a polynomial, drawn -/
def RingPolyP (o : Option Addr) (len cap q : Nat) (w : World) (e : Ending) (w' : World) : Prop :=
  ∃ (p n : Int) (v : Value) (l : List Int), e = .returned (.tuple #[.agg #[.int .i64 p, .int .i64 n], v]) ∧ VS o len cap q w w' v l ∧ l.length ≤ 1000
theorem seen_grown11 {A B : World} {q g n c : Nat} {l : List Int} (h : Seen A (some ⟨g, 0, none⟩) n c l) (hg : A.grownBy B (some q)) (hq : q ≠ g) (hlt : g < A.heap.size) : Seen B (some ⟨g, 0, none⟩) n c l := by
  obtain ⟨hl, hn, ho, hnc, g', h1, h2⟩ := h
  by_cases h0 : 0 < n
  · obtain ⟨e, h3⟩ := h1 h0
    injection e with e
    injection e with e
    subst e
    refine ⟨hl, hn, ho, hnc, g, fun _ => ⟨rfl, by have := hg.size; omega⟩, fun k hk => ?_⟩
    rw [World.cell?_of_block (w := A) (a := ⟨g, k, none⟩) (hg.block g hlt (by simp; omega))]; exact h2 k hk
  · exact ⟨hl, hn, ho, hnc, g, fun h => absurd h h0, fun k hk => absurd hk (by omega)⟩
theorem seen_three12 (w : World) (x y z : Int) (T : TypeId) : Seen (w.alloc (.cells #[.int .i64 x, .int .i64 y, .int .i64 z] T)) (some ⟨w.heap.size, 0, none⟩) 3 3 [x, y, z] := by
  refine ⟨rfl, by omega, (fun h => by cases h), Nat.le_refl _, w.heap.size, fun _ => ⟨rfl, by simp⟩, fun k hk => ?_⟩
  have : k = 0 ∨ k = 1 ∨ k = 2 := by omega
  rcases this with rfl | rfl | rfl
  · rw [World.cell?_alloc_new]; rfl
  · rw [World.cell?_alloc_new]; rfl
  · rw [World.cell?_alloc_new]; rfl
theorem poly_two11 {x : Int} (h : -1000 ≤ x ∧ x ≤ 1000) : polyB [x, 1] = true := by
  simp [polyB, cofB, lastB, inB]; omega
theorem poly_three11 {x y : Int} (h : -1000 ≤ x ∧ x ≤ 1000) (h2 : -1000 ≤ y ∧ y ≤ 1000) : polyB [x, y, 1] = true := by
  simp [polyB, cofB, lastB, inB]; omega
set_option maxHeartbeats 4000000 in
theorem l11Draw_any (o : Option Addr) (len cap q : Nat) (w : World) (hs : Src w o len cap q) :
    Calls Try.prog 62 #[.pointer (some ⟨q, 0, none⟩)] w (RingPolyP o len cap q w) := by
  have hq := src_lt hs
  have HS0 := Lib.hid (src_alloc hs (.cells #[.int .i64 0, .int .i64 0] 25))
  have HG0 := Lib.hid (World.grownBy_alloc w (.cells #[.int .i64 0, .int .i64 0] 25) (some q))
  clear hs
  go_enter Try.func62, Try.ntmps62
  go_wp2_with fail
  refine (ringDraw_any o len cap q _ HS0.out).mono ?_
  rintro e w1 ⟨p, n, rfl, hp1, hp2, hn1, hn2, hs1, hg1⟩
  have hz1 := hg1.size
  have hz0 : (w.alloc (.cells #[.int .i64 0, .int .i64 0] 25)).heap.size = w.heap.size + 1 := by simp
  have HRB := Lib.hid (show w1.heap[w.heap.size]? = (w.alloc (.cells #[.int .i64 0, .int .i64 0] 25)).heap[w.heap.size]? from hg1.block _ (by simp) (by simp; omega))
  have HGA := Lib.hid (grownBy_tr HG0.out hg1)
  obtain ⟨W1, hW1⟩ : ∃ W1, w1.alloc (.cells #[.int .i64 p, .int .i64 n] 25) = W1 := ⟨_, rfl⟩
  have hzW : W1.heap.size = w1.heap.size + 1 := by rw [← hW1]; simp
  have HS1 := Lib.hid (show Src W1 o len cap q by rw [← hW1]; exact src_alloc hs1 _)
  have HGB := Lib.hid (show w.grownBy W1 (some q) by rw [← hW1]; exact grownBy_tr HGA.out (World.grownBy_alloc w1 _ _))
  have HRA := Lib.hid (show RingAt W1 w1.heap.size p n by rw [← hW1]; exact World.alloc_heap_new w1 _)
  have HRC := Lib.hid (show W1.heap[w.heap.size]? = (w.alloc (.cells #[.int .i64 0, .int .i64 0] 25)).heap[w.heap.size]? by rw [← hW1, block_alloc _ (by omega)]; exact HRB.out)
  clear hs1 hg1 HRB HGA
  go_wp2_with fail
  refine (l06Draw_any o len cap q W1 HS1.out).mono ?_
  rintro e w2 ⟨v, l, rfl, R, hD⟩
  obtain ⟨o2, c2, rfl⟩ := row_slice R.2.2.1
  have HDL := Lib.hid hD.1
  clear hD
  go_wp2_with fail
  refine (next_any _ _ _ _ _ _ (by omega) R.1).mono ?_
  rintro e w3 ⟨t, rfl, t0, t1, hs3, hg3, hz3⟩
  replace R := vs_next R hs3 hg3
  clear hs3 hg3 hz3 t1
  by_cases h0 : t = 0
  · subst h0
    go_wp2_with fail
    refine (next_any _ _ _ _ _ _ (by omega) R.1).mono ?_
    rintro e w4 ⟨r1, rfl, r10, r11, hs4, hg4, hz4⟩
    replace R := vs_next R hs4 hg4
    have r12 : r1 < 13 := by omega
    have ww1 : IntKind.i64.wrap (r1 - 6) = r1 - 6 := IntWalk.i64_in _ (by omega)
    clear hs4 hg4 hz4 r11
    go_wp2_with fail
    refine (next_any _ _ _ _ _ _ (by omega) (src_alloc R.1 _)).mono ?_
    rintro e w5 ⟨r2, rfl, r20, r21, hs5, hg5, hz5⟩
    have r22 : r2 < 13 := by omega
    have ww2 : IntKind.i64.wrap (r2 - 6) = r2 - 6 := IntWalk.i64_in _ (by omega)
    have HS5 := Lib.hid hs5
    have HG5 := Lib.hid hg5
    clear hs5 hg5 hz5 r21
    go_wp2_with fail
    refine (next_any _ _ _ _ _ _ (by omega) HS5.out).mono ?_
    rintro e w6 ⟨r3, rfl, r30, r31, hs6, hg6, hz6⟩
    have r32 : r3 < 5 := by omega
    have ww3 : IntKind.i64.wrap (r3 - 2) = r3 - 2 := IntWalk.i64_in _ (by omega)
    have HG6 := Lib.hid (grownBy_tr HG5.out hg6)
    have HS6 := Lib.hid hs6
    have hq4 : q < w4.heap.size := by have := R.2.1.size; omega
    have HA2 := Lib.hid (seen_grown11 (seen_two11 w4 (r1 - 6) 1 2) HG6.out (by omega) (by simp))
    clear hs6 hg6 hz6 r31 HG5 HS5
    go_wp2_with fail
    refine (l06Mul_any (seen_al HA2.out _) (seen_three12 w6 (r2 - 6) (r3 - 2) 1 2) (poly_two11 (by omega)) (poly_three11 (by omega) (by omega))).mono ?_
    rintro e WZ ⟨v7, rfl, hr7, hb7⟩
    obtain ⟨o7, c7, rfl⟩ := row_slice hr7
    have hlm : (trimL (mulL [r1 - 6, 1] [r2 - 6, r3 - 2, 1])).length ≤ 1000 := by
      rw [trimL_length]
      have := trimN_le (mulL [r1 - 6, 1] [r2 - 6, r3 - 2, 1]) (mulL [r1 - 6, 1] [r2 - 6, r3 - 2, 1]).length
      have e : (mulL [r1 - 6, 1] [r2 - 6, r3 - 2, 1]).length = 4 := by simp [mulL, tabL]
      omega
    obtain ⟨l7, hl7⟩ : ∃ l7, trimL (mulL [r1 - 6, 1] [r2 - 6, r3 - 2, 1]) = l7 := ⟨_, rfl⟩
    rw [hl7] at hr7 hlm
    rw [hl7]
    clear hl7
    have hgz : W1.grownBy WZ (some q) := grownBy_tr (grownBy_tr (grownBy_tr R.2.1 (World.grownBy_alloc w4 _ (some q))) HG6.out) (grownBy_tr (World.grownBy_alloc w6 _ (some q)) (grown_below hb7))
    have hsz : Src WZ o len cap q := src_below (src_alloc HS6.out _) hb7 (by have := src_lt HS6.out; simp; omega)
    replace R : VS o len cap q W1 WZ (.slice o7 l7.length c7) l7 := ⟨hsz, hgz, intRow_lower hr7 (by have := R.2.1.size; have := HG6.out.size; simp at *; omega), R.2.2.2⟩
    clear hgz hsz hr7 hb7 HA2 HG6 HS6
    have hblk : ∀ k, k < W1.heap.size → k ≠ q → WZ.heap[k]? = W1.heap[k]? := fun k hk hne => R.2.1.block k hk (by simpa using hne)
    obtain ⟨c0, c1⟩ := ringAt_cells ((hblk w1.heap.size (by omega) (by omega)).trans HRA.out)
    obtain ⟨d0, d1, f0, f1⟩ := ring_block ((hblk w.heap.size (by omega) (by omega)).trans HRC.out)
    have HRR := Lib.hid R
    clear R hblk
    go_wp2_with fail
    refine bodyPost_ret (v := .tuple #[.agg #[.int .i64 p, .int .i64 n], .slice o7 l7.length c7]) (by simp [results, Try.results62, go_sem, d0, d1]) rfl ?_
    exact ⟨p, n, _, l7, rfl, ⟨src_set (src_set HRR.out.1 hq) hq, grown_set (grown_set (grownBy_tr HGB.out HRR.out.2.1) (Nat.le_refl _)) (Nat.le_refl _), intRow_lower (row_set11 (row_set11 HRR.out.2.2.1 (by show w.heap.size < W1.heap.size; omega) _) (by show w.heap.size < W1.heap.size; omega) _) (by omega), hq⟩, hlm⟩
  · have h0' : (t == 0) = false := by simpa using h0
    obtain ⟨WZ, hWZ⟩ : ∃ WZ, w3 = WZ := ⟨_, rfl⟩
    subst hWZ
    have hblk : ∀ k, k < W1.heap.size → k ≠ q → w3.heap[k]? = W1.heap[k]? := fun k hk hne => R.2.1.block k hk (by simpa using hne)
    obtain ⟨c0, c1⟩ := ringAt_cells ((hblk w1.heap.size (by omega) (by omega)).trans HRA.out)
    obtain ⟨d0, d1, f0, f1⟩ := ring_block ((hblk w.heap.size (by omega) (by omega)).trans HRC.out)
    have HRR := Lib.hid R
    clear R hblk
    go_wp2_with fail
    refine bodyPost_ret (v := .tuple #[.agg #[.int .i64 p, .int .i64 n], .slice o2 l.length c2]) (by simp [results, Try.results62, go_sem, d0, d1]) rfl ?_
    exact ⟨p, n, _, l, rfl, ⟨src_set (src_set HRR.out.1 hq) hq, grown_set (grown_set (grownBy_tr HGB.out HRR.out.2.1) (Nat.le_refl _)) (Nat.le_refl _), intRow_lower (row_set11 (row_set11 HRR.out.2.2.1 (by show w.heap.size < W1.heap.size; omega) _) (by show w.heap.size < W1.heap.size; omega) _) (by omega), hq⟩, by have := HDL.out; omega⟩
end Go.Proofs.Ytbjkcoajabcibaa
namespace Go.Proofs.Ytbjkcoajabcibaa
open Go.RowKit
set_option linter.unusedVariables false
set_option linter.unusedSimpArgs false
set_option maxRecDepth 20000
def RLPost (w : World) (e : Ending) (w' : World) : Prop := ∃ (p n : Int) (v : Value) (l : List Int), e = .returned (.tuple #[.agg #[.int .i64 p, .int .i64 n], v]) ∧ IntRow w.heap.size w' v l ∧ l.length ≤ 1000 ∧ Below w.heap.size w w'
def RLNPost (w : World) (e : Ending) (w' : World) : Prop := ∃ (p n a : Int) (v : Value) (l : List Int), e = .returned (.tuple #[.agg #[.int .i64 p, .int .i64 n], v, .int .i64 a]) ∧ IntRow w.heap.size w' v l ∧ l.length ≤ 1000 ∧ Below w.heap.size w w'
set_option maxHeartbeats 2000000 in
theorem drawValueR_any (o : Option Addr) (len cap : Nat) (w : World) (hl : len ≤ 4096) (hc : CodeIn w o len) :
    Calls Try.prog 27 #[.slice o len cap] w (RLNPost w) := by
  have HC := Lib.hid (codeIn_below (B := w.heap.size) hc ((Below.refl _ _).alloc (Nat.le_refl _) (.cells #[.int .i64 0, .int .i64 0] 25)))
  clear hc
  go_enter Try.func27, Try.ntmps27
  go_wp2_with fail
  refine (from_any _ _ _ _ hl HC.out).mono ?_
  rintro e w1 ⟨q, rfl, hq, hs1, hb1⟩
  have M1 := Lib.hid (mid_first hq hs1 hb1)
  clear hq hs1 hb1
  go_wp2_with fail
  refine (l11Draw_any o len cap q _ M1.out.2.1).mono ?_
  rintro e w2 ⟨p, n, v, l, rfl, R, hl2⟩
  obtain ⟨o2, c2, rfl⟩ := row_slice R.2.2.1
  have hlt := M1.out.2.2.2.1
  have M2 := Lib.hid (mid_alloc (mid_next M1.out R.1 R.2.1) (.cells #[.int .i64 p, .int .i64 n] 25))
  have hq2 := src_lt R.1
  have hq1 := R.2.2.2
  have HQ2 := Lib.hid hq2
  have HR := Lib.hid (show IntRow w1.heap.size (w2.alloc (.cells #[.int .i64 p, .int .i64 n] 25)) _ l from World.ownsRow.alloc R.2.2.1 _)
  have hz2 := R.2.1.size
  clear R hq2
  have HL2 := Lib.hid (show w.heap.size < w2.heap.size by omega)
  go_wp2_with fail
  go_region_with (go_at_call 77; refine (resDraw_any o len cap q p n (World.drew _) (src_drewN M2.out.2.1 1)).mono ?_; rintro e w3 ⟨a, rfl, hs3, hg3⟩; have M3 := mid_next (mid_drewN M2.out 1) hs3 hg3; have R3 := intRow_draw6 (w := (w2.alloc (.cells #[.int .i64 p, .int .i64 n] 25)).drew) HR.out hg3 hq1; obtain ⟨d0, d1, f0, f1⟩ := ring_block M3.2.2.2.2; obtain ⟨x0, x1, g0, g1⟩ := ring_block (w := w2) (hg3.block w2.heap.size (by have := M2.out.2.2.2.1; simp) (by have := HQ2.out; simp; omega)))
  all_goals go_wp2_with fail
  all_goals (refine bodyPost_ret (v := .tuple #[.agg #[.int .i64 p, .int .i64 n], .slice o2 l.length c2, .int .i64 a]) (by simp [results, Try.results27, go_sem, d0, d1, Act.put]) (by simp [Act.put]) ?_)
  all_goals exact ⟨p, n, a, _, l, rfl, intRow_lower (row_set11 (row_set11 R3 (by show w.heap.size < w1.heap.size; omega) _) (by show w.heap.size < w1.heap.size; omega) _) (by omega), hl2, (M3.2.2.1.setCell (Nat.le_refl _) _).setCell (Nat.le_refl _) _⟩
end Go.Proofs.Ytbjkcoajabcibaa
namespace Go.Proofs.Ytbjkcoajabcibaa
open Go.RowKit
set_option linter.unusedVariables false
set_option linter.unusedSimpArgs false
set_option maxRecDepth 20000
section
variable {P : Program} {ops : Array Oper} {Q : Exit → Act → World → Prop} {md : Region.Mode} {S : World → Prop}
theorem take_at13 {i d : Nat} {oi : Oper} {v : Value} {fuel : Nat} {listed : Array Bool} {a : Act} {w : World} (hi : ops[i]? = some oi) (hd : oi.dst = some d)
    (hs : Region.noSelect ops = true) (hf : Region.free md ops listed i = true) (hr : (Region.ready md ops listed).contains i = true)
    (hQ : ∀ c a w, Q (.panic c) (a.put oi.dst v) w → Q (.panic c) a w) (hy : YieldsIf P ops S oi v a) (hS : S w)
    (h : wpAnyH P md ops Q S fuel (listed.setIfInBounds i true) (a.put (some d) v) w) : wpAnyH P md ops Q S (fuel + 1) listed a w :=
  wpAnyH_take hi hs hf hr hQ hy hS (by rw [hd]; exact h)
end
/-- what loads need while operations draw their order: the ring's variable and a row -/
def LS (w1 w2 : World) (p n : Int) (v : Value) (l : List Int) (W : World) : Prop := RingAt W w2.heap.size p n ∧ IntRow w1.heap.size W v l
theorem ringAt_draw {A B : World} {b q : Nat} {p n : Int} (h : RingAt A b p n) (hg : A.grownBy B (some q)) (hq : q < b) : RingAt B b p n := (hg.block b (ringAt_lt h) (by simp; omega)).trans h
theorem ringAt_drew {A : World} {b : Nat} {p n : Int} (h : RingAt A b p n) : RingAt A.drew b p n := h
theorem intRow_drew {A : World} {b : Nat} {v : Value} {l : List Int} (h : IntRow b A v l) : IntRow b A.drew v l := h
theorem ls_draw {w1 w2 A B : World} {q : Nat} {p n : Int} {v : Value} {l : List Int} (h : LS w1 w2 p n v l A) (hg : A.grownBy B (some q)) (h1 : q < w1.heap.size) (h2 : q < w2.heap.size) : LS w1 w2 p n v l B := ⟨ringAt_draw h.1 hg h2, intRow_draw6 h.2 hg h1⟩
theorem ls_alloc {w1 w2 A : World} {p n : Int} {v : Value} {l : List Int} (h : LS w1 w2 p n v l A) (ob : Obj) : LS w1 w2 p n v l (A.alloc ob) := ⟨ringAt_below h.1 ((Below.refl _ _).alloc (Nat.le_refl _) ob), World.ownsRow.alloc h.2 ob⟩
theorem ls_set {w1 w2 A : World} {k i : Nat} {p n : Int} {v : Value} {l : List Int} (h : LS w1 w2 p n v l A) (h2 : k < w2.heap.size) (h1 : k < w1.heap.size) (x : Value) : LS w1 w2 p n v l (A.setCell ⟨k, i, none⟩ x) := ⟨ringAt_set h.1 (by show w2.heap.size ≠ k; omega) x, row_set11 h.2 (by show k < w1.heap.size; omega) x⟩
theorem row_some {b c : Nat} {o : Option Addr} {w : World} {l : List Int} (h : IntRow b w (.slice o l.length c) l) (h0 : 0 < l.length) : ∃ g, o = some ⟨g, 0, none⟩ := by
  rcases h.2 with ⟨_, hn⟩ | ⟨g, cap, cur, e, _⟩
  · omega
  · injection e with e1 e2 e3; exact ⟨g, e1⟩
theorem rootsN_len11 (p : Int) (f : List Int) : ∀ k : Nat, (rootsN p f k).length ≤ k
  | 0 => by simp [rootsN]
  | k + 1 => by
    have := rootsN_len11 p f k
    rw [rootsN, List.length_append]
    split <;> simp <;> omega
end Go.Proofs.Ytbjkcoajabcibaa
namespace Go.Proofs.Ytbjkcoajabcibaa
open Go.RowKit
set_option linter.unusedVariables false
set_option linter.unusedSimpArgs false
set_option maxRecDepth 20000
section
variable {P : Program} {ops : Array Oper} {Q : Exit → Act → World → Prop} {md : Region.Mode} {S : World → Prop}
theorem take_atD {i d : Nat} {oi : Oper} {v : Value} {fuel : Nat} {listed : Array Bool} {a : Act} {w : World} (hi : ops[i]? = some oi) (hd : oi.dst = some d)
    (hs : Region.noSelect ops = true) (hf : Region.free md ops listed i = true) (hr : (Region.ready md ops listed).contains i = true)
    (hQ : ∀ c a w, Q (.panic c) (a.put oi.dst v) w → Q (.panic c) a w) (hy : YieldsIf P ops S oi v a) (hS : S w)
    (h : wpAnyH P md ops Q S fuel (listed.setIfInBounds i true) (a.put (some d) v) w) : wpAnyH P md ops Q S (fuel + 1) listed a w :=
  wpAnyH_take hi hs hf hr hQ hy hS (by rw [hd]; exact h)
end

theorem grown_drew {A : World} {q : Nat} : A.grownBy A.drew (some q) := grown_below (below_drewN (Below.refl _ _) 1)
theorem intRow_lit12 (w : World) (l : List Int) (hl : l.length ≤ 1000) : IntRow w.heap.size (w.alloc (.cells (l.map (Value.int .i64)).toArray 2)) (.slice (some ⟨w.heap.size, 0, none⟩) l.length l.length) l :=
  ⟨by simp, .inr ⟨w.heap.size, l.length, _, rfl, Nat.le_refl _, heap_alloc_new w _, Nat.le_refl _, by unfold maxLen; omega, by simp, by simp; exact List.take_of_length_le (by simp)⟩⟩
theorem src_drew12 {A : World} {o : Option Addr} {len cap q : Nat} (h : Src A o len cap q) : Src A.drew o len cap q := src_drewN h 1
set_option maxHeartbeats 8000000 in
theorem l12Draw_any (o : Option Addr) (len cap q : Nat) (w : World) (hs : Src w o len cap q) :
    Calls Try.prog 91 #[.pointer (some ⟨q, 0, none⟩)] w (RingPolyP o len cap q w) := by
  obtain ⟨i0, hi, hz0, hz1, hz2⟩ := info_parts Try.infoInt64
  have HI := Lib.hid hi
  have HZ0 := Lib.hid hz0
  have HZ1 := Lib.hid hz1
  have HZ2 := Lib.hid hz2
  clear hi hz0 hz1 hz2
  have hq := src_lt hs
  have HS0 := Lib.hid (src_alloc hs (.cells #[.int .i64 0, .int .i64 0] 25))
  have HG0 := Lib.hid (World.grownBy_alloc w (.cells #[.int .i64 0, .int .i64 0] 25) (some q))
  clear hs
  go_enter Try.func91, Try.ntmps91
  go_wp2_with fail
  refine (ringDraw_any o len cap q _ HS0.out).mono ?_
  rintro e w1 ⟨p, n, rfl, hp1, hp2, hn1, hn2, hs1, hg1⟩
  have hz1 := hg1.size
  have hz0 : (w.alloc (.cells #[.int .i64 0, .int .i64 0] 25)).heap.size = w.heap.size + 1 := by simp
  have HRB := Lib.hid (show w1.heap[w.heap.size]? = (w.alloc (.cells #[.int .i64 0, .int .i64 0] 25)).heap[w.heap.size]? from hg1.block _ (by simp) (by simp; omega))
  have HGA := Lib.hid (grownBy_tr HG0.out hg1)
  obtain ⟨W1, hW1⟩ : ∃ W1, w1.alloc (.cells #[.int .i64 p, .int .i64 n] 25) = W1 := ⟨_, rfl⟩
  have hzW : W1.heap.size = w1.heap.size + 1 := by rw [← hW1]; simp
  have HS1 := Lib.hid (show Src W1 o len cap q by rw [← hW1]; exact src_alloc hs1 _)
  have HGB := Lib.hid (show w.grownBy W1 (some q) by rw [← hW1]; exact grownBy_tr HGA.out (World.grownBy_alloc w1 _ _))
  have HRA := Lib.hid (show RingAt W1 w1.heap.size p n by rw [← hW1]; exact World.alloc_heap_new w1 _)
  have HRC := Lib.hid (show W1.heap[w.heap.size]? = (w.alloc (.cells #[.int .i64 0, .int .i64 0] 25)).heap[w.heap.size]? by rw [← hW1, block_alloc _ (by omega)]; exact HRB.out)
  have HQB := Lib.hid (show q < w1.heap.size by omega)
  have HWB := Lib.hid (show w.heap.size < w1.heap.size by omega)
  have HQW := Lib.hid (show q < W1.heap.size by omega)
  have HFIN := Lib.hid fun (X : World) (hg : W1.grownBy X (some q)) => (show X.heap[w.heap.size]? = (w.alloc (.cells #[.int .i64 0, .int .i64 0] 25)).heap[w.heap.size]? from (hg.block w.heap.size (by omega) (by simp; omega)).trans HRC.out)
  have HOUT := Lib.hid fun (X : World) (v : Value) (l : List Int) (R : VS o len cap q W1 X v l) (hl : l.length ≤ 1000) (x y : Value) => (show RingPolyP o len cap q w (.returned (.tuple #[.agg #[.int .i64 p, .int .i64 n], v])) ((X.setCell ⟨w.heap.size, 0, none⟩ x).setCell ⟨w.heap.size, 1, none⟩ y) from
    ⟨p, n, v, l, rfl, ⟨src_set (src_set R.1 hq) hq, grown_set (grown_set (grownBy_tr HGB.out R.2.1) (Nat.le_refl _)) (Nat.le_refl _), intRow_lower (row_set11 (row_set11 R.2.2.1 (by show w.heap.size < W1.heap.size; omega) _) (by show w.heap.size < W1.heap.size; omega) _) (by omega), hq⟩, hl⟩)
  clear hs1 hg1 HRB HGA hz0 hz1 hzW
  by_cases h0 : ringM p n = 0
  · have hd := ringB_f h0
    obtain ⟨c0, c1⟩ := ringAt_cells HRA.out
    clear h0
    go_wp2_with fail
    refine (specIsRing_any _ _ _).mono ?_
    rw [hd]
    rintro e wn ⟨rfl, hb⟩
    clear hW1
    have hg := grownBy_tr (grown_below hb) (World.grownBy_alloc wn (.cells #[.int .i64 1, .int .i64 1] 2) (some q))
    have R2 : VS o len cap q W1 (wn.alloc (.cells #[.int .i64 1, .int .i64 1] 2)) (.slice (some ⟨wn.heap.size, 0, none⟩) 2 2) [1, 1] := ⟨src_alloc (src_below HS1.out hb HQW.out) _, hg, intRow_lower (intRow_lit12 wn [1, 1] (by simp)) hb.size, HQW.out⟩
    obtain ⟨b0, b1⟩ := ringAt_cells (ringAt_below HRA.out hb)
    obtain ⟨d0, d1, f0, f1⟩ := ring_block (HFIN.out _ hg)
    have HRR := Lib.hid (HOUT.out _ _ _ R2 (by simp) (.int .i64 p) (.int .i64 n))
    clear R2 hg hb c0 c1
    go_wp2_with fail
    refine bodyPost_ret (v := .tuple #[.agg #[.int .i64 p, .int .i64 n], .slice (some ⟨wn.heap.size, 0, none⟩) 2 2]) (by simp [results, Try.results91, go_sem, d0, d1]) rfl ?_
    exact HRR.out
  · have hd := ringB_t h0
    obtain ⟨_, _, hq1, hq2, m2, m9, _⟩ := ringM_bd h0
    have H := Lib.hid (And.intro (ringM_in h0).1 (And.intro hq1 (show n ≤ 1000 by omega)))
    obtain ⟨M, hM⟩ : ∃ M, ringM p n = M := ⟨_, rfl⟩
    have HMM := Lib.hid hM
    rw [hM] at m2 m9
    clear hM
    obtain ⟨c0, c1⟩ := ringAt_cells HRA.out
    go_wp2_with fail
    refine (specIsRing_any _ _ _).mono ?_
    rw [hd]
    rintro e wn ⟨rfl, hb⟩
    clear hW1
    obtain ⟨b0, b1⟩ := ringAt_cells (ringAt_below HRA.out hb)
    have HSI := Lib.hid (src_below HS1.out hb HQW.out)
    have HGI := Lib.hid (show W1.grownBy wn (some q) from grown_below hb)
    clear c0 c1 hb
    go_wp2_with fail
    refine (l02Modulus_any _ _ _ H.out.1 H.out.2.1 H.out.2.2).mono ?_
    rw [HMM.out]
    rintro e wk ⟨rfl, rfl⟩
    go_wp2_with fail
    refine wp_region_held_drew (S := fun W' => Src W' o len cap q ∧ W1.grownBy W' (some q)) (by kernel_rfl) (⟨src_drew12 HSI.out, grownBy_tr HGI.out grown_drew⟩) (fun hHeld => ?_)
    refine take_atD (i := 0) (d := 19) (v := .pointer (some ⟨q, 0, none⟩)) rfl rfl (by kernel_rfl) (by kernel_rfl) (by kernel_rfl) (fun _ _ _ h => h) (Or.inl ⟨by rfl, ?_⟩) hHeld ?_
    · intro w' hS; go_simp
    try simp only [Act.put, List.setIfInBounds_toArray, List.set_cons_zero, List.set_cons_succ]
    refine take_atD (i := 1) (d := 20) (v := .agg #[.int .i64 p, .int .i64 n]) rfl rfl (by kernel_rfl) (by kernel_rfl) (by kernel_rfl) (fun _ _ _ h => h) (Or.inl ⟨by rfl, ?_⟩) hHeld ?_
    · intro w' hS; obtain ⟨_, hg'⟩ := hS; obtain ⟨s0, s1⟩ := ringAt_cells (ringAt_draw HRA.out hg' HQB.out); go_simp
    try simp only [Act.put, List.setIfInBounds_toArray, List.set_cons_zero, List.set_cons_succ]
    refine take_atD (i := 2) (d := 21) (v := .pointer (some ⟨q, 0, none⟩)) rfl rfl (by kernel_rfl) (by kernel_rfl) (by kernel_rfl) (fun _ _ _ h => h) (Or.inl ⟨by rfl, ?_⟩) hHeld ?_
    · intro w' hS; go_simp
    try simp only [Act.put, List.setIfInBounds_toArray, List.set_cons_zero, List.set_cons_succ]
    refine wpAnyH_ready (rs := [3]) (by kernel_rfl) (by simp) ?_
    refine AllReadyH.cons rfl (fun K hK => ?_) AllReadyH.nil
    go_simp
    go_at_call 71; refine (next_any _ _ _ _ _ _ (by omega) hHeld.1).mono ?_; rintro e wa ⟨d, rfl, d0, d1, hswa, hgwa, hzwa⟩
    have d2 : d < 5 := by omega
    go_simp
    refine hK.out _ _ (⟨hswa, grownBy_tr hHeld.2 hgwa⟩) (fun hHeld => ?_)
    clear hK K
    try simp only [Act.put, List.setIfInBounds_toArray, List.set_cons_zero, List.set_cons_succ]
    refine wpAnyH_ready (rs := [4]) (by kernel_rfl) (by simp) ?_
    refine AllReadyH.cons rfl (fun K hK => ?_) AllReadyH.nil
    go_simp
    go_at_call 92; refine (l12Valid_any (d) p n _ _ _ _ _ (by omega) (by omega) h0 hHeld.1).mono ?_; rintro e wb ⟨v, l, rfl, Rl, nl, ml, kl⟩
    obtain ⟨ol, cl, rfl⟩ := row_slice Rl.2.2.1
    have R := vs_lower Rl hHeld.2 HQW.out
    go_simp
    refine hK.out _ _ (⟨Rl.1, grownBy_tr hHeld.2 Rl.2.1⟩) (fun hHeld => ?_)
    clear hK K
    try simp only [Act.put, List.setIfInBounds_toArray, List.set_cons_zero, List.set_cons_succ]
    refine take_atD (i := 5) (d := 6) (v := .slice ol l.length cl) rfl rfl (by kernel_rfl) (by kernel_rfl) (by kernel_rfl) (fun _ _ _ h => h) (Or.inl ⟨by rfl, ?_⟩) hHeld ?_
    · intro w' hS; go_simp
    try simp only [Act.put, List.setIfInBounds_toArray, List.set_cons_zero, List.set_cons_succ]
    refine wpAnyH_done (by kernel_rfl) ?_ _
    have hl1 : 1 ≤ l.length := by omega
    have hl9 : l.length ≤ 9 := by omega
    clear Rl nl ml kl hHeld hswa hgwa hzwa d0 d1 d2
    go_wp2_with fail
    refine (next_any _ _ _ _ _ _ (by omega) R.1).mono ?_
    rintro e X6 ⟨t, rfl, t0, t1, hs6, hg6, hz6⟩
    replace R := vs_next R hs6 hg6
    clear hs6 hg6 hz6 t1
    by_cases ht : t = 0
    · subst ht
      go_wp2_with fail
      refine wp_region_held_drew (S := fun W' => Src W' o len cap q ∧ W1.grownBy W' (some q)) (by kernel_rfl) (⟨src_drew12 R.1, grownBy_tr R.2.1 grown_drew⟩) (fun hHeld => ?_)
      refine take_atD (i := 0) (d := 27) (v := .pointer (some ⟨q, 0, none⟩)) rfl rfl (by kernel_rfl) (by kernel_rfl) (by kernel_rfl) (fun _ _ _ h => h) (Or.inl ⟨by rfl, ?_⟩) hHeld ?_
      · intro w' hS; go_simp
      try simp only [Act.put, List.setIfInBounds_toArray, List.set_cons_zero, List.set_cons_succ]
      refine take_atD (i := 1) (d := 28) (v := .agg #[.int .i64 p, .int .i64 n]) rfl rfl (by kernel_rfl) (by kernel_rfl) (by kernel_rfl) (fun _ _ _ h => h) (Or.inl ⟨by rfl, ?_⟩) hHeld ?_
      · intro w' hS; obtain ⟨_, hg'⟩ := hS; obtain ⟨s0, s1⟩ := ringAt_cells (ringAt_draw HRA.out hg' HQB.out); go_simp
      try simp only [Act.put, List.setIfInBounds_toArray, List.set_cons_zero, List.set_cons_succ]
      refine take_atD (i := 2) (d := 29) (v := .pointer (some ⟨q, 0, none⟩)) rfl rfl (by kernel_rfl) (by kernel_rfl) (by kernel_rfl) (fun _ _ _ h => h) (Or.inl ⟨by rfl, ?_⟩) hHeld ?_
      · intro w' hS; go_simp
      try simp only [Act.put, List.setIfInBounds_toArray, List.set_cons_zero, List.set_cons_succ]
      refine take_atD (i := 6) (d := 33) (v := .pointer (some ⟨q, 0, none⟩)) rfl rfl (by kernel_rfl) (by kernel_rfl) (by kernel_rfl) (fun _ _ _ h => h) (Or.inl ⟨by rfl, ?_⟩) hHeld ?_
      · intro w' hS; go_simp
      try simp only [Act.put, List.setIfInBounds_toArray, List.set_cons_zero, List.set_cons_succ]
      refine take_atD (i := 7) (d := 34) (v := .agg #[.int .i64 p, .int .i64 n]) rfl rfl (by kernel_rfl) (by kernel_rfl) (by kernel_rfl) (fun _ _ _ h => h) (Or.inl ⟨by rfl, ?_⟩) hHeld ?_
      · intro w' hS; obtain ⟨_, hg'⟩ := hS; obtain ⟨s0, s1⟩ := ringAt_cells (ringAt_draw HRA.out hg' HQB.out); go_simp
      try simp only [Act.put, List.setIfInBounds_toArray, List.set_cons_zero, List.set_cons_succ]
      refine take_atD (i := 8) (d := 35) (v := .pointer (some ⟨q, 0, none⟩)) rfl rfl (by kernel_rfl) (by kernel_rfl) (by kernel_rfl) (fun _ _ _ h => h) (Or.inl ⟨by rfl, ?_⟩) hHeld ?_
      · intro w' hS; go_simp
      try simp only [Act.put, List.setIfInBounds_toArray, List.set_cons_zero, List.set_cons_succ]
      refine take_atD (i := 12) (d := 39) (v := .int .i64 M) rfl rfl (by kernel_rfl) (by kernel_rfl) (by kernel_rfl) (fun _ _ _ h => h) (Or.inl ⟨by rfl, ?_⟩) hHeld ?_
      · intro w' hS; go_simp
      try simp only [Act.put, List.setIfInBounds_toArray, List.set_cons_zero, List.set_cons_succ]
      refine wpAnyH_ready (rs := [3]) (by kernel_rfl) (by simp) ?_
      refine AllReadyH.cons rfl (fun K hK => ?_) AllReadyH.nil
      go_simp
      go_at_call 71; refine (next_any _ _ _ _ _ _ (by omega) hHeld.1).mono ?_; rintro e wa ⟨d, rfl, d0, d1, hswa, hgwa, hzwa⟩
      have d2 : d < 2 := by omega
      have wd : IntKind.i64.wrap (1 + d) = 1 + d := IntWalk.i64_in _ (by omega)
      go_simp
      refine hK.out _ _ (⟨hswa, grownBy_tr hHeld.2 hgwa⟩) (fun hHeld => ?_)
      clear hK K
      try simp only [Act.put, List.setIfInBounds_toArray, List.set_cons_zero, List.set_cons_succ]
      refine take_atD (i := 4) (d := 31) (v := .int .i64 (1 + d)) rfl rfl (by kernel_rfl) (by kernel_rfl) (by kernel_rfl) (fun _ _ _ h => h) (Or.inl ⟨by rfl, ?_⟩) hHeld ?_
      · intro w' hS; go_simp
      try simp only [Act.put, List.setIfInBounds_toArray, List.set_cons_zero, List.set_cons_succ]
      refine wpAnyH_ready (rs := [5]) (by kernel_rfl) (by simp) ?_
      refine AllReadyH.cons rfl (fun K hK => ?_) AllReadyH.nil
      go_simp
      go_at_call 92; refine (l12Valid_any (1 + d) p n _ _ _ _ _ (by omega) (by omega) h0 hHeld.1).mono ?_; rintro e wb ⟨va, a, rfl, Ra, na, ma, ka⟩
      obtain ⟨oa, ca, rfl⟩ := row_slice Ra.2.2.1
      have RA := vs_lower Ra hHeld.2 HQW.out
      go_simp
      refine hK.out _ _ (⟨Ra.1, grownBy_tr hHeld.2 Ra.2.1⟩) (fun hHeld => ?_)
      clear hK K
      try simp only [Act.put, List.setIfInBounds_toArray, List.set_cons_zero, List.set_cons_succ]
      refine wpAnyH_ready (rs := [9]) (by kernel_rfl) (by simp) ?_
      refine AllReadyH.cons rfl (fun K hK => ?_) AllReadyH.nil
      go_simp
      go_at_call 71; refine (next_any _ _ _ _ _ _ (by omega) hHeld.1).mono ?_; rintro e wc ⟨d', rfl, d'0, d'1, hswc, hgwc, hzwc⟩
      have d'2 : d' < 3 := by omega
      have wd' : IntKind.i64.wrap (1 + d') = 1 + d' := IntWalk.i64_in _ (by omega)
      replace RA := vs_next RA hswc hgwc
      go_simp
      refine hK.out _ _ (⟨hswc, grownBy_tr hHeld.2 hgwc⟩) (fun hHeld => ?_)
      clear hK K
      try simp only [Act.put, List.setIfInBounds_toArray, List.set_cons_zero, List.set_cons_succ]
      refine take_atD (i := 10) (d := 37) (v := .int .i64 (1 + d')) rfl rfl (by kernel_rfl) (by kernel_rfl) (by kernel_rfl) (fun _ _ _ h => h) (Or.inl ⟨by rfl, ?_⟩) hHeld ?_
      · intro w' hS; go_simp
      try simp only [Act.put, List.setIfInBounds_toArray, List.set_cons_zero, List.set_cons_succ]
      refine wpAnyH_ready (rs := [11]) (by kernel_rfl) (by simp) ?_
      refine AllReadyH.cons rfl (fun K hK => ?_) AllReadyH.nil
      go_simp
      go_at_call 92; refine (l12Valid_any (1 + d') p n _ _ _ _ _ (by omega) (by omega) h0 hHeld.1).mono ?_; rintro e wd2 ⟨vb, b, rfl, Rb, nb, mb, kb⟩
      obtain ⟨ob, cb, rfl⟩ := row_slice Rb.2.2.1
      replace RA := vs_next RA Rb.1 Rb.2.1
      have RB := vs_lower Rb hHeld.2 HQW.out
      go_simp
      refine hK.out _ _ (⟨Rb.1, grownBy_tr hHeld.2 Rb.2.1⟩) (fun hHeld => ?_)
      clear hK K
      try simp only [Act.put, List.setIfInBounds_toArray, List.set_cons_zero, List.set_cons_succ]
      refine wpAnyH_ready (rs := [13]) (by kernel_rfl) (by simp) ?_
      refine AllReadyH.cons rfl (fun K hK => ?_) AllReadyH.nil
      go_simp
      go_at_call 94; refine (l12Mul_any M m2 m9 (row_seen RA.2.2.1 (by omega)) (row_seen RB.2.2.1 (by omega)) (mod_res9 m9 (HMM.out ▸ ma)) (mod_res9 m9 (HMM.out ▸ mb)) (by omega) (by omega)).mono ?_; rintro e we ⟨vf, rfl, hrf, hbf⟩
      obtain ⟨of, cf, rfl⟩ := row_slice hrf
      go_simp
      refine hK.out _ _ (⟨src_below hHeld.1 hbf (src_lt hHeld.1), grownBy_tr hHeld.2 (grown_below hbf)⟩) (fun hHeld => ?_)
      clear hK K
      try simp only [Act.put, List.setIfInBounds_toArray, List.set_cons_zero, List.set_cons_succ]
      refine take_atD (i := 14) (d := 6) (v := .slice of (prodL M a b).length cf) rfl rfl (by kernel_rfl) (by kernel_rfl) (by kernel_rfl) (fun _ _ _ h => h) (Or.inl ⟨by rfl, ?_⟩) hHeld ?_
      · intro w' hS; go_simp
      try simp only [Act.put, List.setIfInBounds_toArray, List.set_cons_zero, List.set_cons_succ]
      refine wpAnyH_done (by kernel_rfl) ?_ _
      have R : VS o len cap q W1 we (.slice of (prodL M a b).length cf) (prodL M a b) := ⟨hHeld.1, hHeld.2, intRow_lower hrf RB.2.1.size, HQW.out⟩
      have hpt := prod_top m2 ka kb
      have hl1 : 1 ≤ (prodL M a b).length := by have := (mncB_of ka).1; have := (mncB_of kb).1; omega
      have hl9 : (prodL M a b).length ≤ 9 := by omega
      generalize prodL M a b = l at *
      clear RA RB hpt hrf hbf Ra Rb ma mb na nb ka kb hHeld hswa hgwa hzwa hswc hgwc hzwc d0 d1 d2 d'0 d'1 d'2 wd wd'
      go_wp2_with fail
      refine (next_any _ _ _ _ _ _ (by omega) R.1).mono ?_
      rintro e X8 ⟨r, rfl, r0, r1, hs8, hg8, hz8⟩
      replace R := vs_next R hs8 hg8
      clear hs8 hg8 hz8 r1
      by_cases hr0 : r = 0
      · subst hr0
        go_wp2_with fail
        refine (next_any _ _ _ _ _ _ (by omega) R.1).mono ?_
        rintro e X9 ⟨x, rfl, x0, x1, hs9, hg9, hz9⟩
        replace R := vs_next R hs9 hg9
        clear hs9 hg9 hz9 x1
        obtain ⟨G, rfl, hG⟩ := row_own R.2.2.1 (by omega)
        obtain ⟨j, hj⟩ : ∃ j, l.length = j + 1 := ⟨l.length - 1, by omega⟩
        have hjI : (l.length : Int) - 1 = (j : Int) := by omega
        have hjlt : (j : Int) < (l.length : Int) := by omega
        have cc := int_at R.2.2.1 rfl (k := j) (by omega)
        have ff := int_frozen R.2.2.1 rfl j
        replace R := vs_set R rfl hG (k := j) x
        have HLS := Lib.hid (show (l.set j x).length = l.length by rw [List.length_set])
        have HR9 := Lib.hid R
        obtain ⟨y0, hy0⟩ : ∃ y, l.getD j 0 = y := ⟨_, rfl⟩
        rw [hy0] at cc
        clear R hy0 hj
        have R := HR9.out
        obtain ⟨c0, c1⟩ := ringAt_cells (ringAt_draw HRA.out R.2.1 HQB.out)
        obtain ⟨d0, d1, f0, f1⟩ := ring_block (HFIN.out _ R.2.1)
        have HRR := Lib.hid (HOUT.out _ _ _ R (by rw [HLS.out]; omega) (.int .i64 p) (.int .i64 n))
        clear R
        go_wp2_with fail
        refine bodyPost_ret (v := .tuple #[.agg #[.int .i64 p, .int .i64 n], (.slice (some ⟨G, 0, none⟩) l.length cf)]) (by simp [results, Try.results91, go_sem, d0, d1]) rfl ?_
        exact HRR.out
      · by_cases hr1 : r = 1
        · subst hr1
          go_wp2_with fail
          refine (pick_new [0, M, -1] 2 3 o len cap q X8 R.1 (by simp) (by simp)).mono ?_
          rintro e X9 ⟨y, rfl, hy, hs9, hg9⟩
          replace R := vs_next R hs9 hg9
          clear hs9 hg9 hy
          go_wp2_with (at_builtin; refine wpList_append_own _ rfl (.tmp 55) (.tmp 60) 26 rfl W1.heap.size 2 i0 (.int .i64 0) 1 8 Try.underlying26 HI.out HZ0.out HZ1.out HZ2.out rfl (by decide) _ _ _ rfl (R.2.2.1.alloc _) ⟨X9.heap.size, 0, none⟩ 1 1 [.int .i64 y] rfl rfl ?HO11 ?HO12 ?HO13 ?HO14 ?HO15 ?_)
          case HO11 => first | exact news_one _ _ _ | simp [Addr.add]
          case HO12 => first | exact one_one _ | rfl
          case HO13 => unfold maxLen; omega
          case HO14 => omega
          case HO15 => have := R.2.1.size; first | omega | (simp; omega)
          intro v' X10 hown hgrow _
          obtain ⟨oo, cc', hvv⟩ := row_slice hown
          subst hvv
          have R4 := vs_app R hown hgrow
          clear hown hgrow R
          have R := R4
          clear R4
          obtain ⟨c0, c1⟩ := ringAt_cells (ringAt_draw HRA.out R.2.1 HQB.out)
          obtain ⟨d0, d1, f0, f1⟩ := ring_block (HFIN.out _ R.2.1)
          have HRR := Lib.hid (HOUT.out _ _ _ R (by simp; omega) (.int .i64 p) (.int .i64 n))
          clear R
          go_wp2_with fail
          refine bodyPost_ret (v := .tuple #[.agg #[.int .i64 p, .int .i64 n], (.slice oo (l.length + 1) cc')]) (by simp [results, Try.results91, go_sem, d0, d1]) rfl ?_
          exact HRR.out
        · by_cases hr2 : r = 2
          · subst hr2
            obtain ⟨c0, c1⟩ := ringAt_cells (ringAt_draw HRA.out R.2.1 HQB.out)
            have R2 : VS o len cap q W1 (X8.alloc (.cells #[] 2)) (.slice (some ⟨X8.heap.size, 0, none⟩) 0 0) [] := ⟨src_alloc R.1 _, grownBy_tr R.2.1 (World.grownBy_alloc X8 _ _), intRow_lower (intRow_made X8) R.2.1.size, HQW.out⟩
            obtain ⟨d0, d1, f0, f1⟩ := ring_block (HFIN.out _ R2.2.1)
            have HRR := Lib.hid (HOUT.out _ _ _ R2 (by simp) (.int .i64 p) (.int .i64 n))
            clear R R2
            go_wp2_with fail
            refine bodyPost_ret (v := .tuple #[.agg #[.int .i64 p, .int .i64 n], .slice (some ⟨X8.heap.size, 0, none⟩) 0 0]) (by simp [results, Try.results91, go_sem, d0, d1]) rfl ?_
            exact HRR.out
          · by_cases hr3 : r = 3
            · subst hr3
              go_wp2_with fail
              refine wp_region_held_drew (S := fun W' => Src W' o len cap q ∧ RingAt W' w1.heap.size p n) (by kernel_rfl) (⟨src_drew12 R.1, ringAt_draw HRA.out (grownBy_tr R.2.1 grown_drew) HQB.out⟩) (fun hHeld => ?_)
              refine take_atD (i := 0) (d := 68) (v := .agg #[.int .i64 p, .int .i64 n]) rfl rfl (by kernel_rfl) (by kernel_rfl) (by kernel_rfl) (fun _ _ _ h => h) (Or.inl ⟨by rfl, ?_⟩) hHeld ?_
              · intro w' hS; obtain ⟨s0, s1⟩ := ringAt_cells hS.2; go_simp
              try simp only [Act.put, List.setIfInBounds_toArray, List.set_cons_zero, List.set_cons_succ]
              refine take_atD (i := 1) (d := 69) (v := .pointer (some ⟨q, 0, none⟩)) rfl rfl (by kernel_rfl) (by kernel_rfl) (by kernel_rfl) (fun _ _ _ h => h) (Or.inl ⟨by rfl, ?_⟩) hHeld ?_
              · intro w' hS; go_simp
              try simp only [Act.put, List.setIfInBounds_toArray, List.set_cons_zero, List.set_cons_succ]
              refine take_atD (i := 2) (d := 70) (v := .agg #[.int .i64 p, .int .i64 n]) rfl rfl (by kernel_rfl) (by kernel_rfl) (by kernel_rfl) (fun _ _ _ h => h) (Or.inl ⟨by rfl, ?_⟩) hHeld ?_
              · intro w' hS; obtain ⟨s0, s1⟩ := ringAt_cells hS.2; go_simp
              try simp only [Act.put, List.setIfInBounds_toArray, List.set_cons_zero, List.set_cons_succ]
              refine take_atD (i := 3) (d := 71) (v := .pointer (some ⟨q, 0, none⟩)) rfl rfl (by kernel_rfl) (by kernel_rfl) (by kernel_rfl) (fun _ _ _ h => h) (Or.inl ⟨by rfl, ?_⟩) hHeld ?_
              · intro w' hS; go_simp
              try simp only [Act.put, List.setIfInBounds_toArray, List.set_cons_zero, List.set_cons_succ]
              refine wpAnyH_ready (rs := [4]) (by kernel_rfl) (by simp) ?_
              refine AllReadyH.cons rfl (fun K hK => ?_) AllReadyH.nil
              go_simp
              go_at_call 71; refine (next_any _ _ _ _ _ _ (by omega) hHeld.1).mono ?_; rintro e wa ⟨d, rfl, d0, d1, hswa, hgwa, hzwa⟩
              have d2 : d < 3 := by omega
              have wd : IntKind.i64.wrap (7 + d) = 7 + d := IntWalk.i64_in _ (by omega)
              have HGW := Lib.hid (grownBy_tr (grownBy_tr R.2.1 grown_drew) hgwa)
              clear R
              go_simp
              refine hK.out _ _ (⟨hswa, ringAt_draw hHeld.2 hgwa HQB.out⟩) (fun hHeld => ?_)
              clear hK K
              try simp only [Act.put, List.setIfInBounds_toArray, List.set_cons_zero, List.set_cons_succ]
              refine take_atD (i := 5) (d := 73) (v := .int .i64 (7 + d)) rfl rfl (by kernel_rfl) (by kernel_rfl) (by kernel_rfl) (fun _ _ _ h => h) (Or.inl ⟨by rfl, ?_⟩) hHeld ?_
              · intro w' hS; go_simp
              try simp only [Act.put, List.setIfInBounds_toArray, List.set_cons_zero, List.set_cons_succ]
              refine wpAnyH_ready (rs := [6]) (by kernel_rfl) (by simp) ?_
              refine AllReadyH.cons rfl (fun K hK => ?_) AllReadyH.nil
              go_simp
              go_at_call 92; refine (l12Valid_any (7 + d) p n _ _ _ _ _ (by omega) (by omega) h0 hHeld.1).mono ?_; rintro e wb ⟨vz, z, rfl, Rz, nz, mz, kz⟩
              obtain ⟨oz, cz, rfl⟩ := row_slice Rz.2.2.1
              have R := vs_lower Rz HGW.out HQW.out
              go_simp
              refine hK.out _ _ (⟨Rz.1, ringAt_draw hHeld.2 Rz.2.1 HQB.out⟩) (fun hHeld => ?_)
              clear hK K
              try simp only [Act.put, List.setIfInBounds_toArray, List.set_cons_zero, List.set_cons_succ]
              have HRR := Lib.hid (HOUT.out _ _ _ R (by omega) (.int .i64 p) (.int .i64 n))
              obtain ⟨d0, d1, f0, f1⟩ := ring_block (HFIN.out _ R.2.1)
              clear R Rz mz nz
              refine wpAnyH_ready (rs := [7]) (by kernel_rfl) (by simp) ?_
              refine AllReadyH.cons rfl (fun K hK => ?_) AllReadyH.nil
              go_simp
              refine hK.out _ _ (⟨src_set (src_set hHeld.1 hq) hq, ringAt_set (ringAt_set hHeld.2 (by have := HWB.out; show w1.heap.size ≠ w.heap.size; omega) _) (by have := HWB.out; show w1.heap.size ≠ w.heap.size; omega) _⟩) (fun hHeld => ?_)
              clear hK K
              try simp only [Act.put, List.setIfInBounds_toArray, List.set_cons_zero, List.set_cons_succ]
              refine take_atD (i := 8) (d := 3) (v := .slice oz z.length cz) rfl rfl (by kernel_rfl) (by kernel_rfl) (by kernel_rfl) (fun _ _ _ h => h) (Or.inl ⟨by rfl, ?_⟩) hHeld ?_
              · intro w' hS; go_simp
              try simp only [Act.put, List.setIfInBounds_toArray, List.set_cons_zero, List.set_cons_succ]
              refine wpAnyH_done (by kernel_rfl) ?_ _
              clear hHeld
              go_wp2_with fail
              refine bodyPost_ret (v := .tuple #[.agg #[.int .i64 p, .int .i64 n], .slice oz z.length cz]) (by simp [results, Try.results91, go_sem, d0, d1, Act.put]) (by first | rfl | simp [Act.put]) ?_
              exact HRR.out
            · have hr0' : (r == 0) = false := by simpa using hr0
              have hr1' : (r == 1) = false := by simpa using hr1
              have hr2' : (r == 2) = false := by simpa using hr2
              have hr3' : (r == 3) = false := by simpa using hr3
              obtain ⟨c0, c1⟩ := ringAt_cells (ringAt_draw HRA.out R.2.1 HQB.out)
              obtain ⟨d0, d1, f0, f1⟩ := ring_block (HFIN.out _ R.2.1)
              have HRR := Lib.hid (HOUT.out _ _ _ R (by omega) (.int .i64 p) (.int .i64 n))
              clear R
              go_wp2_with fail
              refine bodyPost_ret (v := .tuple #[.agg #[.int .i64 p, .int .i64 n], (.slice of l.length cf)]) (by simp [results, Try.results91, go_sem, d0, d1]) rfl ?_
              exact HRR.out
    · have ht' : (t == 0) = false := by simpa using ht
      skip
      go_wp2_with fail
      refine (next_any _ _ _ _ _ _ (by omega) R.1).mono ?_
      rintro e X8 ⟨r, rfl, r0, r1, hs8, hg8, hz8⟩
      replace R := vs_next R hs8 hg8
      clear hs8 hg8 hz8 r1
      by_cases hr0 : r = 0
      · subst hr0
        go_wp2_with fail
        refine (next_any _ _ _ _ _ _ (by omega) R.1).mono ?_
        rintro e X9 ⟨x, rfl, x0, x1, hs9, hg9, hz9⟩
        replace R := vs_next R hs9 hg9
        clear hs9 hg9 hz9 x1
        obtain ⟨G, rfl, hG⟩ := row_own R.2.2.1 (by omega)
        obtain ⟨j, hj⟩ : ∃ j, l.length = j + 1 := ⟨l.length - 1, by omega⟩
        have hjI : (l.length : Int) - 1 = (j : Int) := by omega
        have hjlt : (j : Int) < (l.length : Int) := by omega
        have cc := int_at R.2.2.1 rfl (k := j) (by omega)
        have ff := int_frozen R.2.2.1 rfl j
        replace R := vs_set R rfl hG (k := j) x
        have HLS := Lib.hid (show (l.set j x).length = l.length by rw [List.length_set])
        have HR9 := Lib.hid R
        obtain ⟨y0, hy0⟩ : ∃ y, l.getD j 0 = y := ⟨_, rfl⟩
        rw [hy0] at cc
        clear R hy0 hj
        have R := HR9.out
        obtain ⟨c0, c1⟩ := ringAt_cells (ringAt_draw HRA.out R.2.1 HQB.out)
        obtain ⟨d0, d1, f0, f1⟩ := ring_block (HFIN.out _ R.2.1)
        have HRR := Lib.hid (HOUT.out _ _ _ R (by rw [HLS.out]; omega) (.int .i64 p) (.int .i64 n))
        clear R
        go_wp2_with fail
        refine bodyPost_ret (v := .tuple #[.agg #[.int .i64 p, .int .i64 n], (.slice (some ⟨G, 0, none⟩) l.length cl)]) (by simp [results, Try.results91, go_sem, d0, d1]) rfl ?_
        exact HRR.out
      · by_cases hr1 : r = 1
        · subst hr1
          go_wp2_with fail
          refine (pick_new [0, M, -1] 2 3 o len cap q X8 R.1 (by simp) (by simp)).mono ?_
          rintro e X9 ⟨y, rfl, hy, hs9, hg9⟩
          replace R := vs_next R hs9 hg9
          clear hs9 hg9 hy
          go_wp2_with (at_builtin; refine wpList_append_own _ rfl (.tmp 55) (.tmp 60) 26 rfl W1.heap.size 2 i0 (.int .i64 0) 1 8 Try.underlying26 HI.out HZ0.out HZ1.out HZ2.out rfl (by decide) _ _ _ rfl (R.2.2.1.alloc _) ⟨X9.heap.size, 0, none⟩ 1 1 [.int .i64 y] rfl rfl ?HO21 ?HO22 ?HO23 ?HO24 ?HO25 ?_)
          case HO21 => first | exact news_one _ _ _ | simp [Addr.add]
          case HO22 => first | exact one_one _ | rfl
          case HO23 => unfold maxLen; omega
          case HO24 => omega
          case HO25 => have := R.2.1.size; first | omega | (simp; omega)
          intro v' X10 hown hgrow _
          obtain ⟨oo, cc', hvv⟩ := row_slice hown
          subst hvv
          have R4 := vs_app R hown hgrow
          clear hown hgrow R
          have R := R4
          clear R4
          obtain ⟨c0, c1⟩ := ringAt_cells (ringAt_draw HRA.out R.2.1 HQB.out)
          obtain ⟨d0, d1, f0, f1⟩ := ring_block (HFIN.out _ R.2.1)
          have HRR := Lib.hid (HOUT.out _ _ _ R (by simp; omega) (.int .i64 p) (.int .i64 n))
          clear R
          go_wp2_with fail
          refine bodyPost_ret (v := .tuple #[.agg #[.int .i64 p, .int .i64 n], (.slice oo (l.length + 1) cc')]) (by simp [results, Try.results91, go_sem, d0, d1]) rfl ?_
          exact HRR.out
        · by_cases hr2 : r = 2
          · subst hr2
            obtain ⟨c0, c1⟩ := ringAt_cells (ringAt_draw HRA.out R.2.1 HQB.out)
            have R2 : VS o len cap q W1 (X8.alloc (.cells #[] 2)) (.slice (some ⟨X8.heap.size, 0, none⟩) 0 0) [] := ⟨src_alloc R.1 _, grownBy_tr R.2.1 (World.grownBy_alloc X8 _ _), intRow_lower (intRow_made X8) R.2.1.size, HQW.out⟩
            obtain ⟨d0, d1, f0, f1⟩ := ring_block (HFIN.out _ R2.2.1)
            have HRR := Lib.hid (HOUT.out _ _ _ R2 (by simp) (.int .i64 p) (.int .i64 n))
            clear R R2
            go_wp2_with fail
            refine bodyPost_ret (v := .tuple #[.agg #[.int .i64 p, .int .i64 n], .slice (some ⟨X8.heap.size, 0, none⟩) 0 0]) (by simp [results, Try.results91, go_sem, d0, d1]) rfl ?_
            exact HRR.out
          · by_cases hr3 : r = 3
            · subst hr3
              go_wp2_with fail
              refine wp_region_held_drew (S := fun W' => Src W' o len cap q ∧ RingAt W' w1.heap.size p n) (by kernel_rfl) (⟨src_drew12 R.1, ringAt_draw HRA.out (grownBy_tr R.2.1 grown_drew) HQB.out⟩) (fun hHeld => ?_)
              refine take_atD (i := 0) (d := 68) (v := .agg #[.int .i64 p, .int .i64 n]) rfl rfl (by kernel_rfl) (by kernel_rfl) (by kernel_rfl) (fun _ _ _ h => h) (Or.inl ⟨by rfl, ?_⟩) hHeld ?_
              · intro w' hS; obtain ⟨s0, s1⟩ := ringAt_cells hS.2; go_simp
              try simp only [Act.put, List.setIfInBounds_toArray, List.set_cons_zero, List.set_cons_succ]
              refine take_atD (i := 1) (d := 69) (v := .pointer (some ⟨q, 0, none⟩)) rfl rfl (by kernel_rfl) (by kernel_rfl) (by kernel_rfl) (fun _ _ _ h => h) (Or.inl ⟨by rfl, ?_⟩) hHeld ?_
              · intro w' hS; go_simp
              try simp only [Act.put, List.setIfInBounds_toArray, List.set_cons_zero, List.set_cons_succ]
              refine take_atD (i := 2) (d := 70) (v := .agg #[.int .i64 p, .int .i64 n]) rfl rfl (by kernel_rfl) (by kernel_rfl) (by kernel_rfl) (fun _ _ _ h => h) (Or.inl ⟨by rfl, ?_⟩) hHeld ?_
              · intro w' hS; obtain ⟨s0, s1⟩ := ringAt_cells hS.2; go_simp
              try simp only [Act.put, List.setIfInBounds_toArray, List.set_cons_zero, List.set_cons_succ]
              refine take_atD (i := 3) (d := 71) (v := .pointer (some ⟨q, 0, none⟩)) rfl rfl (by kernel_rfl) (by kernel_rfl) (by kernel_rfl) (fun _ _ _ h => h) (Or.inl ⟨by rfl, ?_⟩) hHeld ?_
              · intro w' hS; go_simp
              try simp only [Act.put, List.setIfInBounds_toArray, List.set_cons_zero, List.set_cons_succ]
              refine wpAnyH_ready (rs := [4]) (by kernel_rfl) (by simp) ?_
              refine AllReadyH.cons rfl (fun K hK => ?_) AllReadyH.nil
              go_simp
              go_at_call 71; refine (next_any _ _ _ _ _ _ (by omega) hHeld.1).mono ?_; rintro e wa ⟨d, rfl, d0, d1, hswa, hgwa, hzwa⟩
              have d2 : d < 3 := by omega
              have wd : IntKind.i64.wrap (7 + d) = 7 + d := IntWalk.i64_in _ (by omega)
              have HGW := Lib.hid (grownBy_tr (grownBy_tr R.2.1 grown_drew) hgwa)
              clear R
              go_simp
              refine hK.out _ _ (⟨hswa, ringAt_draw hHeld.2 hgwa HQB.out⟩) (fun hHeld => ?_)
              clear hK K
              try simp only [Act.put, List.setIfInBounds_toArray, List.set_cons_zero, List.set_cons_succ]
              refine take_atD (i := 5) (d := 73) (v := .int .i64 (7 + d)) rfl rfl (by kernel_rfl) (by kernel_rfl) (by kernel_rfl) (fun _ _ _ h => h) (Or.inl ⟨by rfl, ?_⟩) hHeld ?_
              · intro w' hS; go_simp
              try simp only [Act.put, List.setIfInBounds_toArray, List.set_cons_zero, List.set_cons_succ]
              refine wpAnyH_ready (rs := [6]) (by kernel_rfl) (by simp) ?_
              refine AllReadyH.cons rfl (fun K hK => ?_) AllReadyH.nil
              go_simp
              go_at_call 92; refine (l12Valid_any (7 + d) p n _ _ _ _ _ (by omega) (by omega) h0 hHeld.1).mono ?_; rintro e wb ⟨vz, z, rfl, Rz, nz, mz, kz⟩
              obtain ⟨oz, cz, rfl⟩ := row_slice Rz.2.2.1
              have R := vs_lower Rz HGW.out HQW.out
              go_simp
              refine hK.out _ _ (⟨Rz.1, ringAt_draw hHeld.2 Rz.2.1 HQB.out⟩) (fun hHeld => ?_)
              clear hK K
              try simp only [Act.put, List.setIfInBounds_toArray, List.set_cons_zero, List.set_cons_succ]
              have HRR := Lib.hid (HOUT.out _ _ _ R (by omega) (.int .i64 p) (.int .i64 n))
              obtain ⟨d0, d1, f0, f1⟩ := ring_block (HFIN.out _ R.2.1)
              clear R Rz mz nz
              refine wpAnyH_ready (rs := [7]) (by kernel_rfl) (by simp) ?_
              refine AllReadyH.cons rfl (fun K hK => ?_) AllReadyH.nil
              go_simp
              refine hK.out _ _ (⟨src_set (src_set hHeld.1 hq) hq, ringAt_set (ringAt_set hHeld.2 (by have := HWB.out; show w1.heap.size ≠ w.heap.size; omega) _) (by have := HWB.out; show w1.heap.size ≠ w.heap.size; omega) _⟩) (fun hHeld => ?_)
              clear hK K
              try simp only [Act.put, List.setIfInBounds_toArray, List.set_cons_zero, List.set_cons_succ]
              refine take_atD (i := 8) (d := 3) (v := .slice oz z.length cz) rfl rfl (by kernel_rfl) (by kernel_rfl) (by kernel_rfl) (fun _ _ _ h => h) (Or.inl ⟨by rfl, ?_⟩) hHeld ?_
              · intro w' hS; go_simp
              try simp only [Act.put, List.setIfInBounds_toArray, List.set_cons_zero, List.set_cons_succ]
              refine wpAnyH_done (by kernel_rfl) ?_ _
              clear hHeld
              go_wp2_with fail
              refine bodyPost_ret (v := .tuple #[.agg #[.int .i64 p, .int .i64 n], .slice oz z.length cz]) (by simp [results, Try.results91, go_sem, d0, d1, Act.put]) (by first | rfl | simp [Act.put]) ?_
              exact HRR.out
            · have hr0' : (r == 0) = false := by simpa using hr0
              have hr1' : (r == 1) = false := by simpa using hr1
              have hr2' : (r == 2) = false := by simpa using hr2
              have hr3' : (r == 3) = false := by simpa using hr3
              obtain ⟨c0, c1⟩ := ringAt_cells (ringAt_draw HRA.out R.2.1 HQB.out)
              obtain ⟨d0, d1, f0, f1⟩ := ring_block (HFIN.out _ R.2.1)
              have HRR := Lib.hid (HOUT.out _ _ _ R (by omega) (.int .i64 p) (.int .i64 n))
              clear R
              go_wp2_with fail
              refine bodyPost_ret (v := .tuple #[.agg #[.int .i64 p, .int .i64 n], (.slice ol l.length cl)]) (by simp [results, Try.results91, go_sem, d0, d1]) rfl ?_
              exact HRR.out
end Go.Proofs.Ytbjkcoajabcibaa
namespace Go.Proofs.Ytbjkcoajabcibaa
open Go.RowKit
set_option linter.unusedVariables false
set_option linter.unusedSimpArgs false
set_option maxRecDepth 20000
section
variable {P : Program} {ops : Array Oper} {Q : Exit → Act → World → Prop} {md : Region.Mode} {S : World → Prop}
theorem take_atE {i d : Nat} {oi : Oper} {v : Value} {fuel : Nat} {listed : Array Bool} {a : Act} {w : World} (hi : ops[i]? = some oi) (hd : oi.dst = some d)
    (hs : Region.noSelect ops = true) (hf : Region.free md ops listed i = true) (hr : (Region.ready md ops listed).contains i = true)
    (hQ : ∀ c a w, Q (.panic c) (a.put oi.dst v) w → Q (.panic c) a w) (hy : YieldsIf P ops S oi v a) (hS : S w)
    (h : wpAnyH P md ops Q S fuel (listed.setIfInBounds i true) (a.put (some d) v) w) : wpAnyH P md ops Q S (fuel + 1) listed a w :=
  wpAnyH_take hi hs hf hr hQ hy hS (by rw [hd]; exact h)
end
theorem intRow_below12 {b : Nat} {w w' : World} {v : Value} {l : List Int} (h : IntRow b w v l) (hb : Below w.heap.size w w') : IntRow b w' v l :=
  World.ownsRow.kept (row := none) h ⟨hb.os, hb.tape, hb.output, hb.size, fun j hj _ => hb.block j hj⟩ (by cases hv : v.ownBlock <;> simp)

theorem mid_below12 {o : Option Addr} {len cap q : Nat} {w w1 w2 : World} (h : Mid o len cap q w w1) (hb : Below w1.heap.size w1 w2) : Mid o len cap q w w2 :=
  ⟨h.1, src_below h.2.1 hb (src_lt h.2.1), h.2.2.1.trans (hb.mono (Nat.le_of_lt h.2.2.2.1)), Nat.lt_of_lt_of_le h.2.2.2.1 hb.size, (hb.block _ h.2.2.2.1).trans h.2.2.2.2⟩
def RLLPost (w : World) (e : Ending) (w' : World) : Prop := ∃ (p n : Int) (v1 v2 : Value) (f g : List Int), e = .returned (.tuple #[.agg #[.int .i64 p, .int .i64 n], v1, v2]) ∧ IntRow w.heap.size w' v1 f ∧ IntRow w.heap.size w' v2 g ∧ f.length ≤ 1000 ∧ g.length ≤ 1000 ∧ Below w.heap.size w w'
set_option maxHeartbeats 4000000 in
theorem drawImg_any (o : Option Addr) (len cap : Nat) (w : World) (hl : len ≤ 4096) (hc : CodeIn w o len) :
    Calls Try.prog 38 #[.slice o len cap] w (RLPost w) := by
  have HC := Lib.hid (codeIn_below (B := w.heap.size) hc ((Below.refl _ _).alloc (Nat.le_refl _) (.cells #[.int .i64 0, .int .i64 0] 25)))
  clear hc
  go_enter Try.func38, Try.ntmps38
  go_wp2_with fail
  refine (from_any _ _ _ _ hl HC.out).mono ?_
  rintro e w1 ⟨q, rfl, hq, hs1, hb1⟩
  have M1 := Lib.hid (mid_first hq hs1 hb1)
  clear hq hs1 hb1
  go_wp2_with fail
  refine (l12Draw_any o len cap q _ M1.out.2.1).mono ?_
  rintro e w2 ⟨p, n, v, l, rfl, R, hl2⟩
  obtain ⟨o2, c2, rfl⟩ := row_slice R.2.2.1
  have hlt := M1.out.2.2.2.1
  have M2 := Lib.hid (mid_next M1.out R.1 R.2.1)
  obtain ⟨d0, d1, f0, f1⟩ := ring_block M2.out.2.2.2.2
  have HR := Lib.hid R.2.2.1
  clear R
  go_wp2_with fail
  refine bodyPost_ret (v := .tuple #[.agg #[.int .i64 p, .int .i64 n], .slice o2 l.length c2]) (by simp [results, Try.results38, go_sem, d0, d1]) rfl ?_
  exact ⟨p, n, _, l, rfl, intRow_lower (row_set11 (row_set11 HR.out (by show w.heap.size < w1.heap.size; omega) _) (by show w.heap.size < w1.heap.size; omega) _) (by omega), hl2, (M2.out.2.2.1.setCell (Nat.le_refl _) _).setCell (Nat.le_refl _) _⟩
set_option maxHeartbeats 4000000 in
theorem drawRtr_any (o : Option Addr) (len cap : Nat) (w : World) (hl : len ≤ 4096) (hc : CodeIn w o len) :
    Calls Try.prog 41 #[.slice o len cap] w (RLPost w) := by
  have HC := Lib.hid (codeIn_below (B := w.heap.size) hc ((Below.refl _ _).alloc (Nat.le_refl _) (.cells #[.int .i64 0, .int .i64 0] 25)))
  clear hc
  go_enter Try.func41, Try.ntmps41
  go_wp2_with fail
  refine (from_any _ _ _ _ hl HC.out).mono ?_
  rintro e w1 ⟨q, rfl, hq, hs1, hb1⟩
  have M1 := Lib.hid (mid_first hq hs1 hb1)
  clear hq hs1 hb1
  go_wp2_with fail
  refine (ringDraw_any o len cap q _ M1.out.2.1).mono ?_
  rintro e w2 ⟨p, n, rfl, hp1, hp2, hn1, hn2, hs2, hg2⟩
  have HQ2 := Lib.hid (src_lt hs2)
  have HQW := Lib.hid M1.out.1
  have HLT := Lib.hid (Nat.lt_trans M1.out.1 HQ2.out)
  obtain ⟨W2, hW2⟩ : ∃ W, w2.alloc (.cells #[.int .i64 p, .int .i64 n] 25) = W := ⟨_, rfl⟩
  have hz2 : W2.heap.size = w2.heap.size + 1 := by rw [← hW2]; simp
  have MX := Lib.hid (show Mid o len cap q w W2 by rw [← hW2]; exact mid_alloc (mid_next M1.out hs2 hg2) _)
  have RAX := Lib.hid (show RingAt W2 w2.heap.size p n by rw [← hW2]; exact World.alloc_heap_new w2 _)
  clear hs2 hg2 hp1 hp2 hn1 hn2 M1
  go_wp2_with fail
  clear hW2
  refine wp_region_held_drew (S := fun W' => RingAt W' w2.heap.size p n) (by kernel_rfl) (ringAt_drew RAX.out) (fun hHeld => ?_)
  refine take_atE (i := 0) (d := 10) (v := .agg #[.int .i64 p, .int .i64 n]) rfl rfl (by kernel_rfl) (by kernel_rfl) (by kernel_rfl) (fun _ _ _ h => h) (Or.inl ⟨by rfl, ?_⟩) hHeld ?_
  · intro w' hS; obtain ⟨s0, s1⟩ := ringAt_cells hS; go_simp
  try simp only [Act.put, List.setIfInBounds_toArray, List.set_cons_zero, List.set_cons_succ]
  refine take_atE (i := 1) (d := 11) (v := .pointer (some ⟨q, 0, none⟩)) rfl rfl (by kernel_rfl) (by kernel_rfl) (by kernel_rfl) (fun _ _ _ h => h) (Or.inl ⟨by rfl, ?_⟩) hHeld ?_
  · intro w' hS; go_simp
  try simp only [Act.put, List.setIfInBounds_toArray, List.set_cons_zero, List.set_cons_succ]
  refine wpAnyH_ready (rs := [2]) (by kernel_rfl) (by simp) ?_
  refine AllReadyH.cons rfl (fun K hK => ?_) AllReadyH.nil
  go_simp
  go_at_call 98; refine (l06Draw_any o len cap q _ (src_drewN MX.out.2.1 1)).mono ?_; rintro e w3 ⟨v, l, rfl, R, hD⟩
  obtain ⟨ol, cl, rfl⟩ := row_slice R.2.2.1
  have hl2 : l.length ≤ 1000 := by have := hD.1; omega
  clear hD
  go_simp
  refine hK.out _ _ (ringAt_draw hHeld R.2.1 HQ2.out) (fun hHeld => ?_)
  clear hK K
  try simp only [Act.put, List.setIfInBounds_toArray, List.set_cons_zero, List.set_cons_succ]
  have M3 := Lib.hid (mid_next (mid_drewN MX.out 1) R.1 R.2.1)
  obtain ⟨d0, d1, f0, f1⟩ := ring_block M3.out.2.2.2.2
  have HR := Lib.hid (show IntRow W2.heap.size w3 _ l from R.2.2.1)
  clear R
  refine wpAnyH_ready (rs := [3]) (by kernel_rfl) (by simp) ?_
  refine AllReadyH.cons rfl (fun K hK => ?_) AllReadyH.nil
  go_simp
  refine hK.out _ _ (ringAt_set (ringAt_set hHeld (by show w2.heap.size ≠ w.heap.size; have := HLT.out; omega) _) (by show w2.heap.size ≠ w.heap.size; have := HLT.out; omega) _) (fun hHeld => ?_)
  clear hK K
  try simp only [Act.put, List.setIfInBounds_toArray, List.set_cons_zero, List.set_cons_succ]
  refine take_atE (i := 4) (d := 3) (v := .slice ol l.length cl) rfl rfl (by kernel_rfl) (by kernel_rfl) (by kernel_rfl) (fun _ _ _ h => h) (Or.inl ⟨by rfl, ?_⟩) hHeld ?_
  · intro w' hS; go_simp
  try simp only [Act.put, List.setIfInBounds_toArray, List.set_cons_zero, List.set_cons_succ]
  refine wpAnyH_done (by kernel_rfl) ?_ _
  clear hHeld
  go_wp2_with fail
  refine bodyPost_ret (v := .tuple #[.agg #[.int .i64 p, .int .i64 n], .slice ol l.length cl]) (by simp [results, Try.results41, go_sem, d0, d1, Act.put]) (by first | rfl | simp [Act.put]) ?_
  have hlt := HLT.out
  exact ⟨p, n, _, l, rfl, intRow_lower (row_set11 (row_set11 HR.out (by show w.heap.size < W2.heap.size; omega) _) (by show w.heap.size < W2.heap.size; omega) _) (by omega), hl2, (M3.out.2.2.1.setCell (Nat.le_refl _) _).setCell (Nat.le_refl _) _⟩
set_option maxHeartbeats 4000000 in
theorem drawMulRng_any (o : Option Addr) (len cap : Nat) (w : World) (hl : len ≤ 4096) (hc : CodeIn w o len) :
    Calls Try.prog 35 #[.slice o len cap] w (RLLPost w) := by
  have HC := Lib.hid (codeIn_below (B := w.heap.size) hc ((Below.refl _ _).alloc (Nat.le_refl _) (.cells #[.int .i64 0, .int .i64 0] 25)))
  clear hc
  go_enter Try.func35, Try.ntmps35
  go_wp2_with fail
  refine (from_any _ _ _ _ hl HC.out).mono ?_
  rintro e w1 ⟨q, rfl, hq, hs1, hb1⟩
  have M1 := Lib.hid (mid_first hq hs1 hb1)
  clear hq hs1 hb1
  go_wp2_with fail
  refine (l12Draw_any o len cap q _ M1.out.2.1).mono ?_
  rintro e w2 ⟨p, n, v, l, rfl, R, hl2⟩
  obtain ⟨o2, c2, rfl⟩ := row_slice R.2.2.1
  have HQ2 := Lib.hid (src_lt R.1)
  have HQ1 := Lib.hid R.2.2.2
  have HQW := Lib.hid M1.out.1
  have HLT := Lib.hid (Nat.lt_trans M1.out.1 HQ2.out)
  have HL1 := Lib.hid M1.out.2.2.2.1
  have HZ1 := Lib.hid R.2.1.size
  obtain ⟨W2, hW2⟩ : ∃ W, w2.alloc (.cells #[.int .i64 p, .int .i64 n] 25) = W := ⟨_, rfl⟩
  have hz2 : W2.heap.size = w2.heap.size + 1 := by rw [← hW2]; simp
  have MX := Lib.hid (show Mid o len cap q w W2 by rw [← hW2]; exact mid_alloc (mid_next M1.out R.1 R.2.1) _)
  have RAX := Lib.hid (show RingAt W2 w2.heap.size p n by rw [← hW2]; exact World.alloc_heap_new w2 _)
  have RWX := Lib.hid (show IntRow w1.heap.size W2 (.slice o2 l.length c2) l by rw [← hW2]; exact World.ownsRow.alloc R.2.2.1 _)
  clear R M1
  obtain ⟨c0, c1⟩ := ringAt_cells RAX.out
  by_cases h0 : ringM p n = 0
  · have hd := ringB_f h0
    clear h0
    go_wp2_with fail
    clear hW2
    refine (specIsRing_any _ _ _).mono ?_
    rw [hd]
    rintro e wn ⟨rfl, hb⟩
    have M3 := Lib.hid (mid_alloc (mid_below12 MX.out hb) (.cells #[.int .i64 1] 2))
    obtain ⟨d0, d1, f0, f1⟩ := ring_block M3.out.2.2.2.2
    obtain ⟨b0, b1⟩ := ringAt_cells (ringAt_below RAX.out hb)
    have hlt := HL1.out
    have hz1 := HZ1.out
    have HW1 := Lib.hid (show w.heap.size < W2.heap.size by omega)
    have HR := Lib.hid (show IntRow w1.heap.size (wn.alloc (.cells #[.int .i64 1] 2)) (.slice o2 l.length c2) l from World.ownsRow.alloc (intRow_below12 RWX.out hb) _)
    have HR1 := Lib.hid (intRow_lower (intRow_lit12 wn [1] (by simp)) hb.size)
    clear hb c0 c1 hz1 hz2 hlt
    go_wp2_with fail
    refine bodyPost_ret (v := .tuple #[.agg #[.int .i64 p, .int .i64 n], .slice o2 l.length c2, .slice (some ⟨wn.heap.size, 0, none⟩) 1 1]) (by simp [results, Try.results35, go_sem, d0, d1]) rfl ?_
    exact ⟨p, n, _, _, l, [1], rfl, intRow_lower (row_set11 (row_set11 HR.out HL1.out _) HL1.out _) (Nat.le_of_lt HL1.out), intRow_lower (row_set11 (row_set11 HR1.out HW1.out _) HW1.out _) (Nat.le_of_lt HW1.out), hl2, by simp, (M3.out.2.2.1.setCell (Nat.le_refl _) _).setCell (Nat.le_refl _) _⟩
  · have hd := ringB_t h0
    go_wp2_with fail
    clear hW2
    refine (specIsRing_any _ _ _).mono ?_
    rw [hd]
    rintro e wn ⟨rfl, hb⟩
    have hlt := HL1.out
    have hz1 := HZ1.out
    have HW1 := Lib.hid (show w.heap.size < W2.heap.size by omega)
    have HQX := Lib.hid (show q < W2.heap.size by have := HQ2.out; omega)
    have MN := Lib.hid (mid_below12 MX.out hb)
    have RAN := Lib.hid (ringAt_below RAX.out hb)
    have RWN := Lib.hid (intRow_below12 RWX.out hb)
    have HZN := Lib.hid hb.size
    clear hb c0 c1 hz1 hz2 hlt MX RAX RWX
    go_wp2_with fail
    refine wp_region_held_drew (S := fun W' => RingAt W' w2.heap.size p n) (by kernel_rfl) (ringAt_drew RAN.out) (fun hHeld => ?_)
    refine take_atE (i := 0) (d := 21) (v := .agg #[.int .i64 p, .int .i64 n]) rfl rfl (by kernel_rfl) (by kernel_rfl) (by kernel_rfl) (fun _ _ _ h => h) (Or.inl ⟨by rfl, ?_⟩) hHeld ?_
    · intro w' hS; obtain ⟨s0, s1⟩ := ringAt_cells hS; go_simp
    try simp only [Act.put, List.setIfInBounds_toArray, List.set_cons_zero, List.set_cons_succ]
    refine take_atE (i := 1) (d := 22) (v := .slice o2 l.length c2) rfl rfl (by kernel_rfl) (by kernel_rfl) (by kernel_rfl) (fun _ _ _ h => h) (Or.inl ⟨by rfl, ?_⟩) hHeld ?_
    · intro w' hS; go_simp
    try simp only [Act.put, List.setIfInBounds_toArray, List.set_cons_zero, List.set_cons_succ]
    refine take_atE (i := 2) (d := 23) (v := .pointer (some ⟨q, 0, none⟩)) rfl rfl (by kernel_rfl) (by kernel_rfl) (by kernel_rfl) (fun _ _ _ h => h) (Or.inl ⟨by rfl, ?_⟩) hHeld ?_
    · intro w' hS; go_simp
    try simp only [Act.put, List.setIfInBounds_toArray, List.set_cons_zero, List.set_cons_succ]
    refine take_atE (i := 3) (d := 24) (v := .agg #[.int .i64 p, .int .i64 n]) rfl rfl (by kernel_rfl) (by kernel_rfl) (by kernel_rfl) (fun _ _ _ h => h) (Or.inl ⟨by rfl, ?_⟩) hHeld ?_
    · intro w' hS; obtain ⟨s0, s1⟩ := ringAt_cells hS; go_simp
    try simp only [Act.put, List.setIfInBounds_toArray, List.set_cons_zero, List.set_cons_succ]
    refine take_atE (i := 4) (d := 25) (v := .pointer (some ⟨q, 0, none⟩)) rfl rfl (by kernel_rfl) (by kernel_rfl) (by kernel_rfl) (fun _ _ _ h => h) (Or.inl ⟨by rfl, ?_⟩) hHeld ?_
    · intro w' hS; go_simp
    try simp only [Act.put, List.setIfInBounds_toArray, List.set_cons_zero, List.set_cons_succ]
    refine wpAnyH_ready (rs := [5]) (by kernel_rfl) (by simp) ?_
    refine AllReadyH.cons rfl (fun K hK => ?_) AllReadyH.nil
    go_simp
    go_at_call 71; refine (next_any _ _ _ _ _ _ (by omega) (src_drewN MN.out.2.1 1)).mono ?_; rintro e wa ⟨d, rfl, d0, d1, hsa, hga, hza⟩
    have d2 : d < 5 := by omega
    have MA := Lib.hid (mid_next (mid_drewN MN.out 1) hsa hga)
    have RWA := Lib.hid (intRow_draw6 (intRow_drew RWN.out) hga HQ1.out)
    have HZA := Lib.hid (show wn.heap.size ≤ wa.heap.size from hga.size)
    clear hsa hza d1 RWN MN
    go_simp
    refine hK.out _ _ (ringAt_draw hHeld hga HQ2.out) (fun hHeld => ?_)
    clear hK K
    try simp only [Act.put, List.setIfInBounds_toArray, List.set_cons_zero, List.set_cons_succ]
    refine wpAnyH_ready (rs := [6]) (by kernel_rfl) (by simp) ?_
    refine AllReadyH.cons rfl (fun K hK => ?_) AllReadyH.nil
    go_simp
    go_at_call 92; refine (l12Valid_any d p n _ _ _ _ _ (by omega) (by omega) h0 MA.out.2.1).mono ?_; rintro e wb ⟨vz, z, rfl, Rz, nz, mz, kz⟩
    obtain ⟨oz, cz, rfl⟩ := row_slice Rz.2.2.1
    clear mz kz
    go_simp
    refine hK.out _ _ (ringAt_draw hHeld Rz.2.1 HQ2.out) (fun hHeld => ?_)
    clear hK K
    try simp only [Act.put, List.setIfInBounds_toArray, List.set_cons_zero, List.set_cons_succ]
    have MB := Lib.hid (mid_next MA.out Rz.1 Rz.2.1)
    have RWB := Lib.hid (intRow_draw6 RWA.out Rz.2.1 HQ1.out)
    have hza := HZA.out
    have hzn := HZN.out
    have HR1 := Lib.hid (intRow_lower (b := W2.heap.size) Rz.2.2.1 (by omega))
    have hlz : z.length ≤ 1000 := by omega
    clear Rz MA RWA hza hzn d0 d2 hga nz
    obtain ⟨d0, d1, f0, f1⟩ := ring_block MB.out.2.2.2.2
    refine wpAnyH_ready (rs := [7]) (by kernel_rfl) (by simp) ?_
    refine AllReadyH.cons rfl (fun K hK => ?_) AllReadyH.nil
    go_simp
    refine hK.out _ _ (ringAt_set (ringAt_set hHeld (by show w2.heap.size ≠ w.heap.size; have := HLT.out; omega) _) (by show w2.heap.size ≠ w.heap.size; have := HLT.out; omega) _) (fun hHeld => ?_)
    clear hK K
    try simp only [Act.put, List.setIfInBounds_toArray, List.set_cons_zero, List.set_cons_succ]
    refine take_atE (i := 8) (d := 3) (v := .slice o2 l.length c2) rfl rfl (by kernel_rfl) (by kernel_rfl) (by kernel_rfl) (fun _ _ _ h => h) (Or.inl ⟨by rfl, ?_⟩) hHeld ?_
    · intro w' hS; go_simp
    try simp only [Act.put, List.setIfInBounds_toArray, List.set_cons_zero, List.set_cons_succ]
    refine take_atE (i := 9) (d := 4) (v := .slice oz z.length cz) rfl rfl (by kernel_rfl) (by kernel_rfl) (by kernel_rfl) (fun _ _ _ h => h) (Or.inl ⟨by rfl, ?_⟩) hHeld ?_
    · intro w' hS; go_simp
    try simp only [Act.put, List.setIfInBounds_toArray, List.set_cons_zero, List.set_cons_succ]
    refine wpAnyH_done (by kernel_rfl) ?_ _
    clear hHeld
    go_wp2_with fail
    refine bodyPost_ret (v := .tuple #[.agg #[.int .i64 p, .int .i64 n], .slice o2 l.length c2, .slice oz z.length cz]) (by simp [results, Try.results35, go_sem, d0, d1, Act.put]) (by first | rfl | simp [Act.put]) ?_
    exact ⟨p, n, _, _, l, z, rfl, intRow_lower (row_set11 (row_set11 RWB.out HL1.out _) HL1.out _) (Nat.le_of_lt HL1.out), intRow_lower (row_set11 (row_set11 HR1.out HW1.out _) HW1.out _) (Nat.le_of_lt HW1.out), hl2, hlz, (MB.out.2.2.1.setCell (Nat.le_refl _) _).setCell (Nat.le_refl _) _⟩
end Go.Proofs.Ytbjkcoajabcibaa
namespace Go.Proofs.Ytbjkcoajabcibaa
open Go.RowKit
set_option linter.unusedVariables false
set_option linter.unusedSimpArgs false
set_option maxRecDepth 20000
set_option maxHeartbeats 4000000 in
theorem drawDivRng_any (o : Option Addr) (len cap : Nat) (w : World) (hl : len ≤ 4096) (hc : CodeIn w o len) :
    Calls Try.prog 32 #[.slice o len cap] w (RLLPost w) := by
  have HC := Lib.hid (codeIn_below (B := w.heap.size) hc ((Below.refl _ _).alloc (Nat.le_refl _) (.cells #[.int .i64 0, .int .i64 0] 25)))
  clear hc
  go_enter Try.func32, Try.ntmps32
  go_wp2_with fail
  refine (from_any _ _ _ _ hl HC.out).mono ?_
  rintro e w1 ⟨q, rfl, hq, hs1, hb1⟩
  have M1 := Lib.hid (mid_first hq hs1 hb1)
  have HC1 := Lib.hid (codeIn_below (B := 0) HC.out hb1)
  clear hq hs1 hb1
  go_wp2_with fail
  refine (drawMulRng_any o len cap w1 hl HC1.out).mono ?_
  rintro e w2 ⟨p, n, v1, v2, f, g, rfl, rf, rg, hf2, hg2, hb⟩
  obtain ⟨o1, c1, rfl⟩ := row_slice rf
  obtain ⟨o2, c2, rfl⟩ := row_slice rg
  have HQ1 := Lib.hid (src_lt M1.out.2.1)
  have HQ2 := Lib.hid (Nat.lt_of_lt_of_le HQ1.out hb.size)
  have HQW := Lib.hid M1.out.1
  have HLT := Lib.hid (Nat.lt_trans M1.out.1 HQ2.out)
  have HL1 := Lib.hid M1.out.2.2.2.1
  have HZ1 := Lib.hid hb.size
  obtain ⟨W2, hW2⟩ : ∃ W, w2.alloc (.cells #[.int .i64 p, .int .i64 n] 25) = W := ⟨_, rfl⟩
  have hz2 : W2.heap.size = w2.heap.size + 1 := by rw [← hW2]; simp
  have MX := Lib.hid (show Mid o len cap q w W2 by rw [← hW2]; exact mid_alloc (mid_below12 M1.out hb) _)
  have RAX := Lib.hid (show RingAt W2 w2.heap.size p n by rw [← hW2]; exact World.alloc_heap_new w2 _)
  have RFX := Lib.hid (show IntRow w1.heap.size W2 (.slice o1 f.length c1) f by rw [← hW2]; exact World.ownsRow.alloc rf _)
  have RGX := Lib.hid (show IntRow w1.heap.size W2 (.slice o2 g.length c2) g by rw [← hW2]; exact World.ownsRow.alloc rg _)
  clear rf rg hb M1 HC HC1
  go_wp2_with fail
  clear hW2
  refine (next_any _ _ _ _ _ _ (by omega) MX.out.2.1).mono ?_
  rintro e w3 ⟨t, rfl, t0, t1, hs3, hg3, hz3⟩
  have M3 := Lib.hid (mid_next MX.out hs3 hg3)
  have RA3 := Lib.hid (ringAt_draw RAX.out hg3 HQ2.out)
  have RF3 := Lib.hid (intRow_draw6 RFX.out hg3 HQ1.out)
  have RG3 := Lib.hid (intRow_draw6 RGX.out hg3 HQ1.out)
  have HZ3 := Lib.hid (show w2.heap.size < w3.heap.size by have := hg3.size; omega)
  clear hs3 hg3 hz3 t1 MX RAX RFX RGX hz2
  obtain ⟨k0, k1⟩ := ringAt_cells RA3.out
  by_cases ht : t = 0
  · subst ht
    clear t0
    go_wp2_with fail
    refine wp_region_held_drew (S := fun W' => RingAt W' w2.heap.size p n) (by kernel_rfl) (ringAt_drew RA3.out) (fun hHeld => ?_)
    refine take_atE (i := 0) (d := 20) (v := .agg #[.int .i64 p, .int .i64 n]) rfl rfl (by kernel_rfl) (by kernel_rfl) (by kernel_rfl) (fun _ _ _ h => h) (Or.inl ⟨by rfl, ?_⟩) hHeld ?_
    · intro w' hS; obtain ⟨s0, s1⟩ := ringAt_cells hS; go_simp
    try simp only [Act.put, List.setIfInBounds_toArray, List.set_cons_zero, List.set_cons_succ]
    refine take_atE (i := 1) (d := 21) (v := .slice o1 f.length c1) rfl rfl (by kernel_rfl) (by kernel_rfl) (by kernel_rfl) (fun _ _ _ h => h) (Or.inl ⟨by rfl, ?_⟩) hHeld ?_
    · intro w' hS; go_simp
    try simp only [Act.put, List.setIfInBounds_toArray, List.set_cons_zero, List.set_cons_succ]
    refine take_atE (i := 3) (d := 23) (v := .pointer (some ⟨q, 0, none⟩)) rfl rfl (by kernel_rfl) (by kernel_rfl) (by kernel_rfl) (fun _ _ _ h => h) (Or.inl ⟨by rfl, ?_⟩) hHeld ?_
    · intro w' hS; go_simp
    try simp only [Act.put, List.setIfInBounds_toArray, List.set_cons_zero, List.set_cons_succ]
    refine wpAnyH_ready (rs := [2, 4]) (by kernel_rfl) (by simp) ?_
    refine AllReadyH.cons rfl (fun K hK => ?_) (AllReadyH.cons rfl (fun K hK => ?_) AllReadyH.nil)
    · go_simp
      refine hK.out _ _ (ringAt_below hHeld ((Below.refl _ _).alloc (Nat.le_refl _) _)) (fun hHeld => ?_)
      clear hK K
      try simp only [Act.put, List.setIfInBounds_toArray, List.set_cons_zero, List.set_cons_succ]
      have MX := Lib.hid (mid_alloc (mid_drewN M3.out 1) (.cells #[.int .i64 1, .int .i64 2] 2))
      have RLX := Lib.hid (show IntRow w3.heap.size ((w3.drewN 1).alloc (.cells #[.int .i64 1, .int .i64 2] 2)) (.slice (some ⟨w3.heap.size, 0, none⟩) 2 2) [1, 2] from intRow_lit12 (w3.drewN 1) [1, 2] (by simp))
      have RFX := Lib.hid (show IntRow w1.heap.size ((w3.drewN 1).alloc (.cells #[.int .i64 1, .int .i64 2] 2)) (.slice o1 f.length c1) f from World.ownsRow.alloc (intRow_drew RF3.out) _)
      refine wpAnyH_ready (rs := [4]) (by kernel_rfl) (by simp) ?_
      refine AllReadyH.cons rfl (fun K hK => ?_) AllReadyH.nil
      go_simp
      go_at_call 71; refine (next_any _ _ _ _ _ _ (by omega) MX.out.2.1).mono ?_; rintro e wa ⟨d, rfl, z0, z1, hsa, hga, hza⟩
      go_simp
      refine hK.out _ _ (ringAt_draw hHeld hga HQ2.out) (fun hHeld => ?_)
      clear hK K
      try simp only [Act.put, List.setIfInBounds_toArray, List.set_cons_zero, List.set_cons_succ]
      have MZ := Lib.hid (mid_next MX.out hsa hga)
      have RLZ := Lib.hid (intRow_draw6 RLX.out hga (show q < w3.heap.size by have := HQ2.out; have := HZ3.out; omega))
      have RFZ := Lib.hid (intRow_draw6 RFX.out hga HQ1.out)
      clear MX RLX RFX hsa hga hza RG3 M3 RF3 RA3 k0 k1
      rcases (show d = 0 ∨ d = 1 ∨ d = 2 by omega) with rfl | rfl | rfl
      · obtain ⟨d0, d1, f0, f1⟩ := ring_block MZ.out.2.2.2.2
        refine take_atE (i := 5) (d := 25) (v := .slice (some ⟨w3.heap.size, 0, none⟩) 0 2) rfl rfl (by kernel_rfl) (by kernel_rfl) (by kernel_rfl) (fun _ _ _ h => h) (Or.inl ⟨by rfl, ?_⟩) hHeld ?_
        · intro w' hS; go_simp
        try simp only [Act.put, List.setIfInBounds_toArray, List.set_cons_zero, List.set_cons_succ]
        refine wpAnyH_ready (rs := [6]) (by kernel_rfl) (by simp) ?_
        refine AllReadyH.cons rfl (fun K hK => ?_) AllReadyH.nil
        go_simp
        refine hK.out _ _ (ringAt_set (ringAt_set hHeld (by show w2.heap.size ≠ w.heap.size; have := HLT.out; omega) _) (by show w2.heap.size ≠ w.heap.size; have := HLT.out; omega) _) (fun hHeld => ?_)
        clear hK K
        try simp only [Act.put, List.setIfInBounds_toArray, List.set_cons_zero, List.set_cons_succ]
        refine take_atE (i := 7) (d := 3) (v := .slice o1 f.length c1) rfl rfl (by kernel_rfl) (by kernel_rfl) (by kernel_rfl) (fun _ _ _ h => h) (Or.inl ⟨by rfl, ?_⟩) hHeld ?_
        · intro w' hS; go_simp
        try simp only [Act.put, List.setIfInBounds_toArray, List.set_cons_zero, List.set_cons_succ]
        refine take_atE (i := 8) (d := 4) (v := .slice (some ⟨w3.heap.size, 0, none⟩) 0 2) rfl rfl (by kernel_rfl) (by kernel_rfl) (by kernel_rfl) (fun _ _ _ h => h) (Or.inl ⟨by rfl, ?_⟩) hHeld ?_
        · intro w' hS; go_simp
        try simp only [Act.put, List.setIfInBounds_toArray, List.set_cons_zero, List.set_cons_succ]
        refine wpAnyH_done (by kernel_rfl) ?_ _
        clear hHeld
        go_wp2_with fail
        refine bodyPost_ret (v := .tuple #[.agg #[.int .i64 p, .int .i64 n], .slice o1 f.length c1, .slice (some ⟨w3.heap.size, 0, none⟩) 0 2]) (by simp [results, Try.results32, go_sem, d0, d1, Act.put]) (by first | rfl | simp [Act.put]) ?_
        exact ⟨p, n, _, _, f, [1, 2].take 0, rfl, intRow_lower (row_set11 (row_set11 RFZ.out HL1.out _) HL1.out _) (Nat.le_of_lt HL1.out), intRow_lower (row_set11 (row_set11 (row_cut RLZ.out (show 0 ≤ 2 by omega)) (by show w.heap.size < w3.heap.size; have := HLT.out; have := HZ3.out; omega) _) (by show w.heap.size < w3.heap.size; have := HLT.out; have := HZ3.out; omega) _) (Nat.le_of_lt (by show w.heap.size < w3.heap.size; have := HLT.out; have := HZ3.out; omega)), hf2, by simp, (MZ.out.2.2.1.setCell (Nat.le_refl _) _).setCell (Nat.le_refl _) _⟩
      · obtain ⟨d0, d1, f0, f1⟩ := ring_block MZ.out.2.2.2.2
        refine take_atE (i := 5) (d := 25) (v := .slice (some ⟨w3.heap.size, 0, none⟩) 1 2) rfl rfl (by kernel_rfl) (by kernel_rfl) (by kernel_rfl) (fun _ _ _ h => h) (Or.inl ⟨by rfl, ?_⟩) hHeld ?_
        · intro w' hS; go_simp
        try simp only [Act.put, List.setIfInBounds_toArray, List.set_cons_zero, List.set_cons_succ]
        refine wpAnyH_ready (rs := [6]) (by kernel_rfl) (by simp) ?_
        refine AllReadyH.cons rfl (fun K hK => ?_) AllReadyH.nil
        go_simp
        refine hK.out _ _ (ringAt_set (ringAt_set hHeld (by show w2.heap.size ≠ w.heap.size; have := HLT.out; omega) _) (by show w2.heap.size ≠ w.heap.size; have := HLT.out; omega) _) (fun hHeld => ?_)
        clear hK K
        try simp only [Act.put, List.setIfInBounds_toArray, List.set_cons_zero, List.set_cons_succ]
        refine take_atE (i := 7) (d := 3) (v := .slice o1 f.length c1) rfl rfl (by kernel_rfl) (by kernel_rfl) (by kernel_rfl) (fun _ _ _ h => h) (Or.inl ⟨by rfl, ?_⟩) hHeld ?_
        · intro w' hS; go_simp
        try simp only [Act.put, List.setIfInBounds_toArray, List.set_cons_zero, List.set_cons_succ]
        refine take_atE (i := 8) (d := 4) (v := .slice (some ⟨w3.heap.size, 0, none⟩) 1 2) rfl rfl (by kernel_rfl) (by kernel_rfl) (by kernel_rfl) (fun _ _ _ h => h) (Or.inl ⟨by rfl, ?_⟩) hHeld ?_
        · intro w' hS; go_simp
        try simp only [Act.put, List.setIfInBounds_toArray, List.set_cons_zero, List.set_cons_succ]
        refine wpAnyH_done (by kernel_rfl) ?_ _
        clear hHeld
        go_wp2_with fail
        refine bodyPost_ret (v := .tuple #[.agg #[.int .i64 p, .int .i64 n], .slice o1 f.length c1, .slice (some ⟨w3.heap.size, 0, none⟩) 1 2]) (by simp [results, Try.results32, go_sem, d0, d1, Act.put]) (by first | rfl | simp [Act.put]) ?_
        exact ⟨p, n, _, _, f, [1, 2].take 1, rfl, intRow_lower (row_set11 (row_set11 RFZ.out HL1.out _) HL1.out _) (Nat.le_of_lt HL1.out), intRow_lower (row_set11 (row_set11 (row_cut RLZ.out (show 1 ≤ 2 by omega)) (by show w.heap.size < w3.heap.size; have := HLT.out; have := HZ3.out; omega) _) (by show w.heap.size < w3.heap.size; have := HLT.out; have := HZ3.out; omega) _) (Nat.le_of_lt (by show w.heap.size < w3.heap.size; have := HLT.out; have := HZ3.out; omega)), hf2, by simp, (MZ.out.2.2.1.setCell (Nat.le_refl _) _).setCell (Nat.le_refl _) _⟩
      · obtain ⟨d0, d1, f0, f1⟩ := ring_block MZ.out.2.2.2.2
        refine take_atE (i := 5) (d := 25) (v := .slice (some ⟨w3.heap.size, 0, none⟩) 2 2) rfl rfl (by kernel_rfl) (by kernel_rfl) (by kernel_rfl) (fun _ _ _ h => h) (Or.inl ⟨by rfl, ?_⟩) hHeld ?_
        · intro w' hS; go_simp
        try simp only [Act.put, List.setIfInBounds_toArray, List.set_cons_zero, List.set_cons_succ]
        refine wpAnyH_ready (rs := [6]) (by kernel_rfl) (by simp) ?_
        refine AllReadyH.cons rfl (fun K hK => ?_) AllReadyH.nil
        go_simp
        refine hK.out _ _ (ringAt_set (ringAt_set hHeld (by show w2.heap.size ≠ w.heap.size; have := HLT.out; omega) _) (by show w2.heap.size ≠ w.heap.size; have := HLT.out; omega) _) (fun hHeld => ?_)
        clear hK K
        try simp only [Act.put, List.setIfInBounds_toArray, List.set_cons_zero, List.set_cons_succ]
        refine take_atE (i := 7) (d := 3) (v := .slice o1 f.length c1) rfl rfl (by kernel_rfl) (by kernel_rfl) (by kernel_rfl) (fun _ _ _ h => h) (Or.inl ⟨by rfl, ?_⟩) hHeld ?_
        · intro w' hS; go_simp
        try simp only [Act.put, List.setIfInBounds_toArray, List.set_cons_zero, List.set_cons_succ]
        refine take_atE (i := 8) (d := 4) (v := .slice (some ⟨w3.heap.size, 0, none⟩) 2 2) rfl rfl (by kernel_rfl) (by kernel_rfl) (by kernel_rfl) (fun _ _ _ h => h) (Or.inl ⟨by rfl, ?_⟩) hHeld ?_
        · intro w' hS; go_simp
        try simp only [Act.put, List.setIfInBounds_toArray, List.set_cons_zero, List.set_cons_succ]
        refine wpAnyH_done (by kernel_rfl) ?_ _
        clear hHeld
        go_wp2_with fail
        refine bodyPost_ret (v := .tuple #[.agg #[.int .i64 p, .int .i64 n], .slice o1 f.length c1, .slice (some ⟨w3.heap.size, 0, none⟩) 2 2]) (by simp [results, Try.results32, go_sem, d0, d1, Act.put]) (by first | rfl | simp [Act.put]) ?_
        exact ⟨p, n, _, _, f, [1, 2].take 2, rfl, intRow_lower (row_set11 (row_set11 RFZ.out HL1.out _) HL1.out _) (Nat.le_of_lt HL1.out), intRow_lower (row_set11 (row_set11 (row_cut RLZ.out (show 2 ≤ 2 by omega)) (by show w.heap.size < w3.heap.size; have := HLT.out; have := HZ3.out; omega) _) (by show w.heap.size < w3.heap.size; have := HLT.out; have := HZ3.out; omega) _) (Nat.le_of_lt (by show w.heap.size < w3.heap.size; have := HLT.out; have := HZ3.out; omega)), hf2, by simp, (MZ.out.2.2.1.setCell (Nat.le_refl _) _).setCell (Nat.le_refl _) _⟩
    · go_simp
      go_at_call 71; refine (next_any _ _ _ _ _ _ (by omega) (src_drewN M3.out.2.1 1)).mono ?_; rintro e wa ⟨d, rfl, z0, z1, hsa, hga, hza⟩
      go_simp
      refine hK.out _ _ (ringAt_draw hHeld hga HQ2.out) (fun hHeld => ?_)
      clear hK K
      try simp only [Act.put, List.setIfInBounds_toArray, List.set_cons_zero, List.set_cons_succ]
      have MA := Lib.hid (mid_next (mid_drewN M3.out 1) hsa hga)
      have RFA := Lib.hid (intRow_draw6 (intRow_drew RF3.out) hga HQ1.out)
      have HZA := Lib.hid (show w3.heap.size ≤ wa.heap.size from hga.size)
      clear hsa hga hza RG3 M3 RF3 RA3 k0 k1
      obtain ⟨d0, d1, f0, f1⟩ := ring_block MA.out.2.2.2.2
      refine wpAnyH_ready (rs := [2, 6]) (by kernel_rfl) (by simp) ?_
      refine AllReadyH.cons rfl (fun K hK => ?_) (AllReadyH.cons rfl (fun K hK => ?_) AllReadyH.nil)
      · go_simp
        refine hK.out _ _ (ringAt_below hHeld ((Below.refl _ _).alloc (Nat.le_refl _) _)) (fun hHeld => ?_)
        clear hK K
        try simp only [Act.put, List.setIfInBounds_toArray, List.set_cons_zero, List.set_cons_succ]
        clear d0 d1 f0 f1
        have MZ := Lib.hid (mid_alloc MA.out (.cells #[.int .i64 1, .int .i64 2] 2))
        have RLZ := Lib.hid (show IntRow w3.heap.size (wa.alloc (.cells #[.int .i64 1, .int .i64 2] 2)) (.slice (some ⟨wa.heap.size, 0, none⟩) 2 2) [1, 2] from intRow_lower (intRow_lit12 wa [1, 2] (by simp)) HZA.out)
        have RFZ := Lib.hid (show IntRow w1.heap.size (wa.alloc (.cells #[.int .i64 1, .int .i64 2] 2)) (.slice o1 f.length c1) f from World.ownsRow.alloc RFA.out _)
        clear MA RFA
        rcases (show d = 0 ∨ d = 1 ∨ d = 2 by omega) with rfl | rfl | rfl
        · obtain ⟨d0, d1, f0, f1⟩ := ring_block MZ.out.2.2.2.2
          refine take_atE (i := 5) (d := 25) (v := .slice (some ⟨wa.heap.size, 0, none⟩) 0 2) rfl rfl (by kernel_rfl) (by kernel_rfl) (by kernel_rfl) (fun _ _ _ h => h) (Or.inl ⟨by rfl, ?_⟩) hHeld ?_
          · intro w' hS; go_simp
          try simp only [Act.put, List.setIfInBounds_toArray, List.set_cons_zero, List.set_cons_succ]
          refine wpAnyH_ready (rs := [6]) (by kernel_rfl) (by simp) ?_
          refine AllReadyH.cons rfl (fun K hK => ?_) AllReadyH.nil
          go_simp
          refine hK.out _ _ (ringAt_set (ringAt_set hHeld (by show w2.heap.size ≠ w.heap.size; have := HLT.out; omega) _) (by show w2.heap.size ≠ w.heap.size; have := HLT.out; omega) _) (fun hHeld => ?_)
          clear hK K
          try simp only [Act.put, List.setIfInBounds_toArray, List.set_cons_zero, List.set_cons_succ]
          refine take_atE (i := 7) (d := 3) (v := .slice o1 f.length c1) rfl rfl (by kernel_rfl) (by kernel_rfl) (by kernel_rfl) (fun _ _ _ h => h) (Or.inl ⟨by rfl, ?_⟩) hHeld ?_
          · intro w' hS; go_simp
          try simp only [Act.put, List.setIfInBounds_toArray, List.set_cons_zero, List.set_cons_succ]
          refine take_atE (i := 8) (d := 4) (v := .slice (some ⟨wa.heap.size, 0, none⟩) 0 2) rfl rfl (by kernel_rfl) (by kernel_rfl) (by kernel_rfl) (fun _ _ _ h => h) (Or.inl ⟨by rfl, ?_⟩) hHeld ?_
          · intro w' hS; go_simp
          try simp only [Act.put, List.setIfInBounds_toArray, List.set_cons_zero, List.set_cons_succ]
          refine wpAnyH_done (by kernel_rfl) ?_ _
          clear hHeld
          go_wp2_with fail
          refine bodyPost_ret (v := .tuple #[.agg #[.int .i64 p, .int .i64 n], .slice o1 f.length c1, .slice (some ⟨wa.heap.size, 0, none⟩) 0 2]) (by simp [results, Try.results32, go_sem, d0, d1, Act.put]) (by first | rfl | simp [Act.put]) ?_
          exact ⟨p, n, _, _, f, [1, 2].take 0, rfl, intRow_lower (row_set11 (row_set11 RFZ.out HL1.out _) HL1.out _) (Nat.le_of_lt HL1.out), intRow_lower (row_set11 (row_set11 (row_cut RLZ.out (show 0 ≤ 2 by omega)) (by show w.heap.size < w3.heap.size; have := HLT.out; have := HZ3.out; omega) _) (by show w.heap.size < w3.heap.size; have := HLT.out; have := HZ3.out; omega) _) (Nat.le_of_lt (by show w.heap.size < w3.heap.size; have := HLT.out; have := HZ3.out; omega)), hf2, by simp, (MZ.out.2.2.1.setCell (Nat.le_refl _) _).setCell (Nat.le_refl _) _⟩
        · obtain ⟨d0, d1, f0, f1⟩ := ring_block MZ.out.2.2.2.2
          refine take_atE (i := 5) (d := 25) (v := .slice (some ⟨wa.heap.size, 0, none⟩) 1 2) rfl rfl (by kernel_rfl) (by kernel_rfl) (by kernel_rfl) (fun _ _ _ h => h) (Or.inl ⟨by rfl, ?_⟩) hHeld ?_
          · intro w' hS; go_simp
          try simp only [Act.put, List.setIfInBounds_toArray, List.set_cons_zero, List.set_cons_succ]
          refine wpAnyH_ready (rs := [6]) (by kernel_rfl) (by simp) ?_
          refine AllReadyH.cons rfl (fun K hK => ?_) AllReadyH.nil
          go_simp
          refine hK.out _ _ (ringAt_set (ringAt_set hHeld (by show w2.heap.size ≠ w.heap.size; have := HLT.out; omega) _) (by show w2.heap.size ≠ w.heap.size; have := HLT.out; omega) _) (fun hHeld => ?_)
          clear hK K
          try simp only [Act.put, List.setIfInBounds_toArray, List.set_cons_zero, List.set_cons_succ]
          refine take_atE (i := 7) (d := 3) (v := .slice o1 f.length c1) rfl rfl (by kernel_rfl) (by kernel_rfl) (by kernel_rfl) (fun _ _ _ h => h) (Or.inl ⟨by rfl, ?_⟩) hHeld ?_
          · intro w' hS; go_simp
          try simp only [Act.put, List.setIfInBounds_toArray, List.set_cons_zero, List.set_cons_succ]
          refine take_atE (i := 8) (d := 4) (v := .slice (some ⟨wa.heap.size, 0, none⟩) 1 2) rfl rfl (by kernel_rfl) (by kernel_rfl) (by kernel_rfl) (fun _ _ _ h => h) (Or.inl ⟨by rfl, ?_⟩) hHeld ?_
          · intro w' hS; go_simp
          try simp only [Act.put, List.setIfInBounds_toArray, List.set_cons_zero, List.set_cons_succ]
          refine wpAnyH_done (by kernel_rfl) ?_ _
          clear hHeld
          go_wp2_with fail
          refine bodyPost_ret (v := .tuple #[.agg #[.int .i64 p, .int .i64 n], .slice o1 f.length c1, .slice (some ⟨wa.heap.size, 0, none⟩) 1 2]) (by simp [results, Try.results32, go_sem, d0, d1, Act.put]) (by first | rfl | simp [Act.put]) ?_
          exact ⟨p, n, _, _, f, [1, 2].take 1, rfl, intRow_lower (row_set11 (row_set11 RFZ.out HL1.out _) HL1.out _) (Nat.le_of_lt HL1.out), intRow_lower (row_set11 (row_set11 (row_cut RLZ.out (show 1 ≤ 2 by omega)) (by show w.heap.size < w3.heap.size; have := HLT.out; have := HZ3.out; omega) _) (by show w.heap.size < w3.heap.size; have := HLT.out; have := HZ3.out; omega) _) (Nat.le_of_lt (by show w.heap.size < w3.heap.size; have := HLT.out; have := HZ3.out; omega)), hf2, by simp, (MZ.out.2.2.1.setCell (Nat.le_refl _) _).setCell (Nat.le_refl _) _⟩
        · obtain ⟨d0, d1, f0, f1⟩ := ring_block MZ.out.2.2.2.2
          refine take_atE (i := 5) (d := 25) (v := .slice (some ⟨wa.heap.size, 0, none⟩) 2 2) rfl rfl (by kernel_rfl) (by kernel_rfl) (by kernel_rfl) (fun _ _ _ h => h) (Or.inl ⟨by rfl, ?_⟩) hHeld ?_
          · intro w' hS; go_simp
          try simp only [Act.put, List.setIfInBounds_toArray, List.set_cons_zero, List.set_cons_succ]
          refine wpAnyH_ready (rs := [6]) (by kernel_rfl) (by simp) ?_
          refine AllReadyH.cons rfl (fun K hK => ?_) AllReadyH.nil
          go_simp
          refine hK.out _ _ (ringAt_set (ringAt_set hHeld (by show w2.heap.size ≠ w.heap.size; have := HLT.out; omega) _) (by show w2.heap.size ≠ w.heap.size; have := HLT.out; omega) _) (fun hHeld => ?_)
          clear hK K
          try simp only [Act.put, List.setIfInBounds_toArray, List.set_cons_zero, List.set_cons_succ]
          refine take_atE (i := 7) (d := 3) (v := .slice o1 f.length c1) rfl rfl (by kernel_rfl) (by kernel_rfl) (by kernel_rfl) (fun _ _ _ h => h) (Or.inl ⟨by rfl, ?_⟩) hHeld ?_
          · intro w' hS; go_simp
          try simp only [Act.put, List.setIfInBounds_toArray, List.set_cons_zero, List.set_cons_succ]
          refine take_atE (i := 8) (d := 4) (v := .slice (some ⟨wa.heap.size, 0, none⟩) 2 2) rfl rfl (by kernel_rfl) (by kernel_rfl) (by kernel_rfl) (fun _ _ _ h => h) (Or.inl ⟨by rfl, ?_⟩) hHeld ?_
          · intro w' hS; go_simp
          try simp only [Act.put, List.setIfInBounds_toArray, List.set_cons_zero, List.set_cons_succ]
          refine wpAnyH_done (by kernel_rfl) ?_ _
          clear hHeld
          go_wp2_with fail
          refine bodyPost_ret (v := .tuple #[.agg #[.int .i64 p, .int .i64 n], .slice o1 f.length c1, .slice (some ⟨wa.heap.size, 0, none⟩) 2 2]) (by simp [results, Try.results32, go_sem, d0, d1, Act.put]) (by first | rfl | simp [Act.put]) ?_
          exact ⟨p, n, _, _, f, [1, 2].take 2, rfl, intRow_lower (row_set11 (row_set11 RFZ.out HL1.out _) HL1.out _) (Nat.le_of_lt HL1.out), intRow_lower (row_set11 (row_set11 (row_cut RLZ.out (show 2 ≤ 2 by omega)) (by show w.heap.size < w3.heap.size; have := HLT.out; have := HZ3.out; omega) _) (by show w.heap.size < w3.heap.size; have := HLT.out; have := HZ3.out; omega) _) (Nat.le_of_lt (by show w.heap.size < w3.heap.size; have := HLT.out; have := HZ3.out; omega)), hf2, by simp, (MZ.out.2.2.1.setCell (Nat.le_refl _) _).setCell (Nat.le_refl _) _⟩
      · go_simp
        refine hK.out _ _ (ringAt_set (ringAt_set hHeld (by show w2.heap.size ≠ w.heap.size; have := HLT.out; omega) _) (by show w2.heap.size ≠ w.heap.size; have := HLT.out; omega) _) (fun hHeld => ?_)
        clear hK K
        try simp only [Act.put, List.setIfInBounds_toArray, List.set_cons_zero, List.set_cons_succ]
        refine take_atE (i := 7) (d := 3) (v := .slice o1 f.length c1) rfl rfl (by kernel_rfl) (by kernel_rfl) (by kernel_rfl) (fun _ _ _ h => h) (Or.inl ⟨by rfl, ?_⟩) hHeld ?_
        · intro w' hS; go_simp
        try simp only [Act.put, List.setIfInBounds_toArray, List.set_cons_zero, List.set_cons_succ]
        refine wpAnyH_ready (rs := [2]) (by kernel_rfl) (by simp) ?_
        refine AllReadyH.cons rfl (fun K hK => ?_) AllReadyH.nil
        go_simp
        refine hK.out _ _ (ringAt_below hHeld ((Below.refl _ _).alloc (Nat.le_refl _) _)) (fun hHeld => ?_)
        clear hK K
        try simp only [Act.put, List.setIfInBounds_toArray, List.set_cons_zero, List.set_cons_succ]
        have HQS := Lib.hid (show w.heap.size < wa.heap.size from MA.out.2.2.2.1)
        have e0 : ((wa.setCell ⟨w.heap.size, 0, none⟩ (.int .i64 p)).setCell ⟨w.heap.size, 1, none⟩ (.int .i64 n)).cell? ⟨w.heap.size, 0, none⟩ = some (.int .i64 p) := (set_other (.inr (by decide))).trans (World.cell?_setCell_same _ _ _ d0)
        have e1 : ((wa.setCell ⟨w.heap.size, 0, none⟩ (.int .i64 p)).setCell ⟨w.heap.size, 1, none⟩ (.int .i64 n)).cell? ⟨w.heap.size, 1, none⟩ = some (.int .i64 n) := World.cell?_setCell_same _ _ _ ((set_other (.inr (by decide))).trans d1)
        obtain ⟨WS, hWS⟩ : ∃ W, ((wa.setCell ⟨w.heap.size, 0, none⟩ (.int .i64 p)).setCell ⟨w.heap.size, 1, none⟩ (.int .i64 n)) = W := ⟨_, rfl⟩
        have hszS : WS.heap.size = wa.heap.size := by rw [← hWS]; simp
        have BS := Lib.hid (show Below w.heap.size w WS by rw [← hWS]; exact (MA.out.2.2.1.setCell (Nat.le_refl _) _).setCell (Nat.le_refl _) _)
        have RFS := Lib.hid (show IntRow w1.heap.size WS (.slice o1 f.length c1) f by rw [← hWS]; exact row_set11 (row_set11 RFA.out HL1.out _) HL1.out _)
        rw [hWS] at e0 e1
        try rw [hWS] at hHeld
        try rw [hWS]
        clear d0 d1 f0 f1 MA RFA
        have d0 : (WS.alloc (.cells #[.int .i64 1, .int .i64 2] 2)).cell? ⟨w.heap.size, 0, none⟩ = some (.int .i64 p) := by rw [World.cell?_of_block (w := WS) (a := ⟨w.heap.size, 0, none⟩) (block_alloc _ (by show w.heap.size < WS.heap.size; have := HQS.out; omega))]; exact e0
        have d1 : (WS.alloc (.cells #[.int .i64 1, .int .i64 2] 2)).cell? ⟨w.heap.size, 1, none⟩ = some (.int .i64 n) := by rw [World.cell?_of_block (w := WS) (a := ⟨w.heap.size, 1, none⟩) (block_alloc _ (by show w.heap.size < WS.heap.size; have := HQS.out; omega))]; exact e1
        have RLS := Lib.hid (show IntRow w.heap.size (WS.alloc (.cells #[.int .i64 1, .int .i64 2] 2)) (.slice (some ⟨wa.heap.size, 0, none⟩) 2 2) [1, 2] by rw [← hszS]; exact intRow_lower (intRow_lit12 WS [1, 2] (by simp)) (by have := HQS.out; omega))
        clear hszS e0 e1 hWS
        rcases (show d = 0 ∨ d = 1 ∨ d = 2 by omega) with rfl | rfl | rfl
        · refine take_atE (i := 5) (d := 25) (v := .slice (some ⟨wa.heap.size, 0, none⟩) 0 2) rfl rfl (by kernel_rfl) (by kernel_rfl) (by kernel_rfl) (fun _ _ _ h => h) (Or.inl ⟨by rfl, ?_⟩) hHeld ?_
          · intro w' hS; go_simp
          try simp only [Act.put, List.setIfInBounds_toArray, List.set_cons_zero, List.set_cons_succ]
          refine take_atE (i := 8) (d := 4) (v := .slice (some ⟨wa.heap.size, 0, none⟩) 0 2) rfl rfl (by kernel_rfl) (by kernel_rfl) (by kernel_rfl) (fun _ _ _ h => h) (Or.inl ⟨by rfl, ?_⟩) hHeld ?_
          · intro w' hS; go_simp
          try simp only [Act.put, List.setIfInBounds_toArray, List.set_cons_zero, List.set_cons_succ]
          refine wpAnyH_done (by kernel_rfl) ?_ _
          clear hHeld
          go_wp2_with fail
          refine bodyPost_ret (v := .tuple #[.agg #[.int .i64 p, .int .i64 n], .slice o1 f.length c1, .slice (some ⟨wa.heap.size, 0, none⟩) 0 2]) (by simp [results, Try.results32, go_sem, d0, d1, Act.put]) (by first | rfl | simp [Act.put]) ?_
          exact ⟨p, n, _, _, f, [1, 2].take 0, rfl, intRow_lower (World.ownsRow.alloc RFS.out _) (Nat.le_of_lt HL1.out), row_cut RLS.out (show 0 ≤ 2 by omega), hf2, by simp, BS.out.alloc BS.out.size _⟩
        · refine take_atE (i := 5) (d := 25) (v := .slice (some ⟨wa.heap.size, 0, none⟩) 1 2) rfl rfl (by kernel_rfl) (by kernel_rfl) (by kernel_rfl) (fun _ _ _ h => h) (Or.inl ⟨by rfl, ?_⟩) hHeld ?_
          · intro w' hS; go_simp
          try simp only [Act.put, List.setIfInBounds_toArray, List.set_cons_zero, List.set_cons_succ]
          refine take_atE (i := 8) (d := 4) (v := .slice (some ⟨wa.heap.size, 0, none⟩) 1 2) rfl rfl (by kernel_rfl) (by kernel_rfl) (by kernel_rfl) (fun _ _ _ h => h) (Or.inl ⟨by rfl, ?_⟩) hHeld ?_
          · intro w' hS; go_simp
          try simp only [Act.put, List.setIfInBounds_toArray, List.set_cons_zero, List.set_cons_succ]
          refine wpAnyH_done (by kernel_rfl) ?_ _
          clear hHeld
          go_wp2_with fail
          refine bodyPost_ret (v := .tuple #[.agg #[.int .i64 p, .int .i64 n], .slice o1 f.length c1, .slice (some ⟨wa.heap.size, 0, none⟩) 1 2]) (by simp [results, Try.results32, go_sem, d0, d1, Act.put]) (by first | rfl | simp [Act.put]) ?_
          exact ⟨p, n, _, _, f, [1, 2].take 1, rfl, intRow_lower (World.ownsRow.alloc RFS.out _) (Nat.le_of_lt HL1.out), row_cut RLS.out (show 1 ≤ 2 by omega), hf2, by simp, BS.out.alloc BS.out.size _⟩
        · refine take_atE (i := 5) (d := 25) (v := .slice (some ⟨wa.heap.size, 0, none⟩) 2 2) rfl rfl (by kernel_rfl) (by kernel_rfl) (by kernel_rfl) (fun _ _ _ h => h) (Or.inl ⟨by rfl, ?_⟩) hHeld ?_
          · intro w' hS; go_simp
          try simp only [Act.put, List.setIfInBounds_toArray, List.set_cons_zero, List.set_cons_succ]
          refine take_atE (i := 8) (d := 4) (v := .slice (some ⟨wa.heap.size, 0, none⟩) 2 2) rfl rfl (by kernel_rfl) (by kernel_rfl) (by kernel_rfl) (fun _ _ _ h => h) (Or.inl ⟨by rfl, ?_⟩) hHeld ?_
          · intro w' hS; go_simp
          try simp only [Act.put, List.setIfInBounds_toArray, List.set_cons_zero, List.set_cons_succ]
          refine wpAnyH_done (by kernel_rfl) ?_ _
          clear hHeld
          go_wp2_with fail
          refine bodyPost_ret (v := .tuple #[.agg #[.int .i64 p, .int .i64 n], .slice o1 f.length c1, .slice (some ⟨wa.heap.size, 0, none⟩) 2 2]) (by simp [results, Try.results32, go_sem, d0, d1, Act.put]) (by first | rfl | simp [Act.put]) ?_
          exact ⟨p, n, _, _, f, [1, 2].take 2, rfl, intRow_lower (World.ownsRow.alloc RFS.out _) (Nat.le_of_lt HL1.out), row_cut RLS.out (show 2 ≤ 2 by omega), hf2, by simp, BS.out.alloc BS.out.size _⟩
  · have ht' : (t == 0) = false := by simpa using ht
    clear ht
    obtain ⟨d0, d1, f0, f1⟩ := ring_block M3.out.2.2.2.2
    go_wp2_with fail
    refine bodyPost_ret (v := .tuple #[.agg #[.int .i64 p, .int .i64 n], .slice o1 f.length c1, .slice o2 g.length c2]) (by simp [results, Try.results32, go_sem, d0, d1]) rfl ?_
    exact ⟨p, n, _, _, f, g, rfl, intRow_lower (row_set11 (row_set11 RF3.out HL1.out _) HL1.out _) (Nat.le_of_lt HL1.out), intRow_lower (row_set11 (row_set11 RG3.out HL1.out _) HL1.out _) (Nat.le_of_lt HL1.out), hf2, hg2, (M3.out.2.2.1.setCell (Nat.le_refl _) _).setCell (Nat.le_refl _) _⟩
end Go.Proofs.Ytbjkcoajabcibaa
