/- The walk of the law FnLifts: true for every code; below the old memory nothing has turned. (joined of several texts) -/
import Derived.Test.YtckpeoadglkbgaaHnC
import Derived.Test.YtckpeoadglkbgaaRow
import Derived.Test.YtckpeoadglkbgaaPrime
import Derived.BigQuiet
import Derived.StillTailTactics
import Derived.Deep.AppendLies
import Derived.Test.YtckpeoadglkbgaaHnA
import Derived.Deep.RegionWith
import Derived.Deep.RegionHeld3
import Derived.OpenShut
import Derived.Deep.DeepCutAuto
namespace Go.Proofs.Ytckpeoadglkbgaa
open Go.RowKit
set_option linter.unusedVariables false
set_option linter.unusedSimpArgs false
theorem implLiftW_any (p n a : Int) {o : Option Addr} {k c : Nat} {f : List Int} {w : World} (h : Seen w o k c f) :
    Calls Try.prog 15 #[.agg #[.int .i64 p, .int .i64 n], .slice o k c, .int .i64 a] w fun e w' => e = .returned (.tuple #[.int .i64 (lifV p n f a), .int .i64 (lifC p n f a)]) ∧ (lifC p n f a = 0 → LiftOf p n.toNat f a (lifV p n f a)) ∧ Below w.heap.size w w' :=
  (implLiftRoot_any p n a h).mono fun e w' ⟨x, he, h1, h2, hb⟩ => ⟨by rw [he, lifV_of h1 h2], fun k => by rw [← lifV_of h1 h2]; exact h1 k, hb⟩
theorem implSimW_any (p n : Int) {o : Option Addr} {k c : Nat} {f : List Int} {w : World} (h : Seen w o k c f) :
    Calls Try.prog 18 #[.agg #[.int .i64 p, .int .i64 n], .slice o k c] w fun e w' => IntPost (simL p n f) (simC p n f) w e w' ∧ (simC p n f = 0 → LiftsTo p n f p.toNat (simL p n f)) :=
  (implSimple_any p n h).mono fun e w' ⟨v, l, he, hr, h1, h2, hb⟩ => ⟨⟨v, he, by rw [← simL_of h1 h2]; exact hr, hb⟩, fun k => by rw [← simL_of h1 h2]; exact h1 k⟩
theorem lifts_each {p n : Int} {f : List Int} : ∀ {k : Nat} {l : List Int}, LiftsTo p n f k l → ∀ i, i < l.length → ∃ a : Nat, a < k ∧ simB p f (a : Int) = true ∧ LiftOf p n.toNat f (a : Int) (l.getD i 0)
  | 0, l, h, i, hi => by rw [show l = [] from h] at hi; simp at hi
  | k + 1, l, h, i, hi => by
    unfold LiftsTo at h
    split at h
    · rename_i hs
      obtain ⟨l1, x, a1, a2, rfl⟩ := h
      by_cases hi1 : i < l1.length
      · obtain ⟨a, b1, b2, b3⟩ := lifts_each a1 i hi1
        refine ⟨a, by omega, b2, ?_⟩
        have : (l1 ++ [x]).getD i 0 = l1.getD i 0 := by simp [List.getD, List.getElem?_append_left hi1]
        rw [this]; exact b3
      · have hi2 : i = l1.length := by simp at hi; omega
        subst hi2
        refine ⟨k, by omega, hs, ?_⟩
        have : (l1 ++ [x]).getD l1.length 0 = x := by simp [List.getD]
        rw [this]; exact a2
    · obtain ⟨a, b1, b2, b3⟩ := lifts_each h i hi
      exact ⟨a, by omega, b2, b3⟩
theorem lift_good {p n a x : Int} {f : List Int} (h : lifC p n f a = 0) (k : LiftOf p n.toNat f a x) :
    henC p n f x = 0 ∧ valR p n f x = 0 ∧ newC p n f x = 0 ∧ newV p n f x = x ∧ x.tmod p = a ∧ 0 ≤ a ∧ a < p ∧ 2 ≤ p ∧ p ≤ 1000 := by
  obtain ⟨h0, h1, h2, h3, h4⟩ := lifC_zero h
  obtain ⟨hp2, hp9, hn1, hn2, m2, m9, _⟩ := ringM_bd h0
  have e := (ringM_in h0).2.2.2
  obtain ⟨k1, k2, k3, k4⟩ := k
  have hs := simple_of (by omega) h4
  have k2' : x < ringM p n := by rw [e]; exact k2
  have hh : henC p n f x = 0 := by
    unfold henC
    rw [if_pos h1]
    unfold rgC
    simp [h0, k1, k2']
    try omega
  have hv : vM (ringM p n) f x = 0 := by
    rw [vM_zero (by omega), e]; exact k4
  have hd : vM p (derL f) x ≠ 0 := by
    rw [Ne, vM_zero (by omega)]
    exact der_stays k3 hs.2
  have hc : newC p n f x = 0 := by
    unfold newC; rw [if_pos hh, if_neg hd]
  refine ⟨hh, by unfold valR; rw [if_pos hh, hv], hc, ?_, ?_, h2, h3, hp2, by omega⟩
  · unfold newV
    rw [if_pos hc]
    unfold stepV
    rw [e]
    exact lift_stays k1 k2 k4
  · rw [Int.tmod_eq_emod_of_nonneg k1]
    have := Int.emod_emod_of_dvd x (Int.dvd_refl p)
    have h6 : x % p = a % p := by
      rw [Int.emod_eq_emod_iff_emod_sub_eq_zero]
      exact Int.emod_eq_zero_of_dvd k3
    rw [h6]
    exact Int.emod_eq_of_lt h2 h3
theorem sims_good {p n : Int} {f l : List Int} (h : simC p n f = 0) (k : LiftsTo p n f p.toNat l) {i : Nat} (hi : i < l.length) : henC p n f (l.getD i 0) = 0 ∧ valR p n f (l.getD i 0) = 0 := by
  obtain ⟨a, h1, h2, h3⟩ := lifts_each k i hi
  obtain ⟨h4, h5⟩ := simC_zero h
  have hl : lifC p n f (a : Int) = 0 := by
    unfold lifC
    rw [if_neg h4, h5, if_neg (by simp), if_pos (by omega), if_pos h2]
  have := lift_good hl h3
  exact ⟨this.1, this.2.1⟩
end Go.Proofs.Ytckpeoadglkbgaa
namespace Go.Proofs.Ytckpeoadglkbgaa
open Go.RowKit
set_option linter.unusedVariables false
structure SrcAt (w : World) (o : Option Addr) (len cap p : Nat) (t : Nat) (s : Int) : Prop where
  c0 : w.cell? ⟨p, 0, none⟩ = some (.slice o len cap)
  c1 : w.cell? ⟨p, 1, none⟩ = some (.int .i64 t)
  c2 : w.cell? ⟨p, 2, none⟩ = some (.int .i64 s)
  fz : ∀ i, w.frozen? ⟨p, i, none⟩ = false
  ht : t ≤ len
  hl : len ≤ 4096
  s0 : 0 ≤ s
  s1 : s < 2147483647
  code : len = 0 ∨ ∃ b off, o = some ⟨b, off, none⟩ ∧ b < p ∧ ∀ i, i < len → ∃ z : Int, w.cell? ⟨b, off + i, none⟩ = some (.int .u8 z) ∧ 0 ≤ z ∧ z ≤ 255
theorem set_other {w : World} {b b' i j : Nat} {v : Value} (h : b ≠ b' ∨ i ≠ j) : (w.setCell ⟨b, i, none⟩ v).cell? ⟨b', j, none⟩ = w.cell? ⟨b', j, none⟩ :=
  World.cell?_setCell_other _ _ _ _ (by
    intro e
    have := (Addr.mk.injEq _ _ _ _ _ _).mp e
    rcases h with h | h
    · exact h this.1
    · exact h this.2.1)
theorem srcAt_seed {w : World} {o : Option Addr} {len cap p t : Nat} {s s' : Int} (h : SrcAt w o len cap p t s) (h0 : 0 ≤ s') (h1 : s' < 2147483647) :
    SrcAt (w.setCell ⟨p, 2, none⟩ (.int .i64 s')) o len cap p t s' := by
  refine ⟨?_, ?_, World.cell?_setCell_same _ _ _ h.c2, fun i => by rw [World.frozen?_setCell]; exact h.fz i, h.ht, h.hl, h0, h1, ?_⟩
  · rw [set_other (.inr (by decide))]; exact h.c0
  · rw [set_other (.inr (by decide))]; exact h.c1
  · rcases h.code with hz | ⟨b, off, ho, hb, hc⟩
    · exact .inl hz
    · refine .inr ⟨b, off, ho, hb, fun i hi => ?_⟩
      rw [set_other (.inl (by omega))]; exact hc i hi
theorem srcAt_at {w : World} {o : Option Addr} {len cap p t t' : Nat} {s : Int} (h : SrcAt w o len cap p t s) (ht : t' ≤ len) :
    SrcAt (w.setCell ⟨p, 1, none⟩ (.int .i64 t')) o len cap p t' s := by
  refine ⟨?_, World.cell?_setCell_same _ _ _ h.c1, ?_, fun i => by rw [World.frozen?_setCell]; exact h.fz i, ht, h.hl, h.s0, h.s1, ?_⟩
  · rw [set_other (.inr (by decide))]; exact h.c0
  · rw [set_other (.inr (by decide))]; exact h.c2
  · rcases h.code with hz | ⟨b, off, ho, hb, hc⟩
    · exact .inl hz
    · refine .inr ⟨b, off, ho, hb, fun i hi => ?_⟩
      rw [set_other (.inl (by omega))]; exact hc i hi
theorem srcAt_drewN {w : World} {o : Option Addr} {len cap p t : Nat} {s : Int} (h : SrcAt w o len cap p t s) (n : Nat) : SrcAt (w.drewN n) o len cap p t s :=
  ⟨h.c0, h.c1, h.c2, h.fz, h.ht, h.hl, h.s0, h.s1, h.code⟩
theorem srcAt_below {w w' : World} {B : Nat} {o : Option Addr} {len cap p t : Nat} {s : Int} (h : SrcAt w o len cap p t s) (hb : Below B w w') (hp : p < B) : SrcAt w' o len cap p t s := by
  refine ⟨?_, ?_, ?_, fun i => ?_, h.ht, h.hl, h.s0, h.s1, ?_⟩
  · rw [hb.cell (by exact hp)]; exact h.c0
  · rw [hb.cell (by exact hp)]; exact h.c1
  · rw [hb.cell (by exact hp)]; exact h.c2
  · rw [hb.frozen (by exact hp)]; exact h.fz i
  · rcases h.code with hz | ⟨b, off, ho, hbp, hc⟩
    · exact .inl hz
    · refine .inr ⟨b, off, ho, hbp, fun i hi => ?_⟩
      rw [hb.cell (by show b < B; omega)]; exact hc i hi
/-- the source of draws, wherever it stands by now -/
def Src (w : World) (o : Option Addr) (len cap p : Nat) : Prop := ∃ t s, SrcAt w o len cap p t s
theorem src_below {w w' : World} {B : Nat} {o : Option Addr} {len cap p : Nat} (h : Src w o len cap p) (hb : Below B w w') (hp : p < B) : Src w' o len cap p := by
  obtain ⟨t, s, h⟩ := h; exact ⟨t, s, srcAt_below h hb hp⟩
theorem src_drewN {w : World} {o : Option Addr} {len cap p : Nat} (h : Src w o len cap p) (n : Nat) : Src (w.drewN n) o len cap p := by
  obtain ⟨t, s, h⟩ := h; exact ⟨t, s, srcAt_drewN h n⟩
theorem src_alloc {w : World} {o : Option Addr} {len cap p : Nat} (h : Src w o len cap p) (ob : Obj) : Src (w.alloc ob) o len cap p := by
  have hp : p < w.heap.size := by obtain ⟨t, s, h⟩ := h; exact World.block_lt_of_cell? w _ h.c0
  exact src_below h ((Below.refl _ _).alloc (Nat.le_refl _) ob) hp
/-- what a draw below n answers -/
def NextPost (n : Int) (o : Option Addr) (len cap p : Nat) (w : World) (e : Ending) (w' : World) : Prop :=
  ∃ r : Int, e = .returned (.int .i64 r) ∧ 0 ≤ r ∧ (r < n ∨ r = 0) ∧ Src w' o len cap p ∧ w.grownBy w' (some p) ∧ w'.heap.size = w.heap.size
end Go.Proofs.Ytckpeoadglkbgaa
namespace Go.Proofs.Ytckpeoadglkbgaa
open Go.RowKit
set_option linter.unusedVariables false
theorem next_small (n : Int) (v : Value) (w : World) (h : n ≤ 1) :
    Calls Try.prog 49 #[v, .int .i64 n] w fun e w' => e = .returned (.int .i64 0) ∧ w = w' := by
  go_enter Try.func49, Try.ntmps49
  go_wp2
  go_ret
  exact ⟨rfl, rfl⟩
theorem nextPost_mk {n : Int} {o : Option Addr} {len cap p : Nat} {w w' : World} {x : Int} (h : 2 ≤ n) (hx : 0 ≤ x) (hs : Src w' o len cap p) (hg : w.grownBy w' (some p)) (hz : w'.heap.size = w.heap.size) {v : Value} (hv : v = .int .i64 (x % n)) :
    NextPost n o len cap p w (.returned v) w' :=
  ⟨x % n, by rw [hv], Int.emod_nonneg _ (by omega), .inl (Int.emod_lt_of_pos _ (by omega)), hs, hg, hz⟩
theorem src_end {w w1 w2 : World} {o : Option Addr} {len cap p k : Nat} {a : Addr} {v : Value} (e : w1.setCell a v = w2) (S : Src w2 o len cap p) (G : w.grownBy w2 (some p) ∧ w2.heap.size = w.heap.size) :
    Src ((w1.drewN k).setCell a v) o len cap p ∧ w.grownBy ((w1.drewN k).setCell a v) (some p) ∧ ((w1.drewN k).setCell a v).heap.size = w.heap.size := by
  subst e
  exact ⟨src_drewN S k, ⟨G.1.os, G.1.tape, G.1.output, G.1.size, G.1.block⟩, G.2⟩
theorem src_end2 {w w2 : World} {o : Option Addr} {len cap p k : Nat} (S : Src w2 o len cap p ∧ w.grownBy w2 (some p) ∧ w2.heap.size = w.heap.size) :
    Src (w2.drewN k) o len cap p ∧ w.grownBy (w2.drewN k) (some p) ∧ (w2.drewN k).heap.size = w.heap.size :=
  ⟨src_drewN S.1 k, ⟨S.2.1.os, S.2.1.tape, S.2.1.output, S.2.1.size, S.2.1.block⟩, S.2.2⟩
set_option maxHeartbeats 800000 in
theorem next_big (n : Int) (o : Option Addr) (len cap p t : Nat) (s : Int) (w : World) (h : 2 ≤ n) (hn : n ≤ 4611686018427387904) (hs : SrcAt w o len cap p t s) :
    Calls Try.prog 49 #[.pointer (some ⟨p, 0, none⟩), .int .i64 n] w (NextPost n o len cap p w) := by
  have s0 := hs.s0
  have s1 := hs.s1
  have ht := hs.ht
  have hl := hs.hl
  obtain ⟨q, hq⟩ : ∃ q, q = (s * 48271 + 29) % 2147483647 := ⟨_, rfl⟩
  have q0 : 0 ≤ q := by omega
  have q1 : q < 2147483647 := by omega
  obtain ⟨w1, hw1⟩ : ∃ w1, w1 = w.setCell ⟨p, 2, none⟩ (.int .i64 q) := ⟨_, rfl⟩
  have S1 : Hid (SrcAt w1 o len cap p t q) := by
    show SrcAt w1 o len cap p t q
    rw [hw1]; exact srcAt_seed hs q0 q1
  have G1 : Hid (w.grownBy w1 (some p) ∧ w1.heap.size = w.heap.size) := by
    show w.grownBy w1 (some p) ∧ w1.heap.size = w.heap.size
    rw [hw1]; exact ⟨grownBy_setCellAt _ _ _ _, by simp [World.setCell]⟩
  have a2 := hs.c2
  have az := hs.fz 2
  have b0 := S1.out.c0
  have b1 := S1.out.c1
  have b2 := S1.out.c2
  have bz := S1.out.fz 1
  clear hs
  have hq' := hq.symm
  clear hq
  have hw' := hw1.symm
  clear hw1
  by_cases htl : t < len
  · obtain ⟨b, off, rfl, hbp, hc⟩ : ∃ b off, o = some ⟨b, off, none⟩ ∧ b < p ∧ ∀ i, i < len → ∃ z : Int, w1.cell? ⟨b, off + i, none⟩ = some (.int .u8 z) ∧ 0 ≤ z ∧ z ≤ 255 := by
      rcases S1.out.code with h0 | h0
      · omega
      · exact h0
    obtain ⟨z, hz, z0, z1⟩ := hc t htl
    clear hc
    obtain ⟨w2, hw2⟩ : ∃ w2, w2 = w1.setCell ⟨p, 1, none⟩ (.int .i64 ((t : Int) + 1)) := ⟨_, rfl⟩
    have S2 : Hid (SrcAt w2 (some ⟨b, off, none⟩) len cap p (t + 1) q) := by
      show SrcAt w2 (some ⟨b, off, none⟩) len cap p (t + 1) q
      rw [hw2, show ((t : Int) + 1) = ((t + 1 : Nat) : Int) by omega]; exact srcAt_at S1.out (by omega)
    have G2 : Hid (w.grownBy w2 (some p) ∧ w2.heap.size = w.heap.size) := by
      show w.grownBy w2 (some p) ∧ w2.heap.size = w.heap.size
      rw [hw2]; exact ⟨grownBy_tr G1.out.1 (grownBy_setCellAt _ _ _ _), by simp [World.setCell, G1.out.2]⟩
    have d0 := S2.out.c0
    have d1 : w2.cell? ⟨p, 1, none⟩ = some (.int .i64 ((t : Int) + 1)) := S2.out.c1
    have dz : w2.cell? ⟨b, off + t, none⟩ = some (.int .u8 z) := by rw [hw2, set_other (.inl (by omega))]; exact hz
    have hw2' := hw2.symm
    clear hw2
    have n1 : decide (n ≤ 1) = false := by simp; omega
    by_cases h256 : n ≤ 256
    · by_cases hpar : ((t : Int) + 1) % 2 = 0
      · have hp' : (((t : Int) + 1) % 2 == 0) = true := by simp [hpar]
        go_enter Try.func49, Try.ntmps49
        go_wp2
        go_quiet (fail)
        go_wp2
        go_quiet (fail)
        go_wp2
        go_quiet (fail)
        go_wp2
        go_ret
        have E := fun k c => src_end2 (k := c) (src_end (k := k) hw2' ⟨_, _, S2.out⟩ G2.out)
        exact nextPost_mk (x := z) h z0 (E _ _).1 (E _ _).2.1 (E _ _).2.2 rfl
      · have hp' : (((t : Int) + 1) % 2 == 0) = false := by simp [hpar]
        go_enter Try.func49, Try.ntmps49
        go_wp2
        go_quiet (fail)
        go_wp2
        go_quiet (fail)
        go_wp2
        go_ret
        have E := fun k => src_end (k := k) hw2' ⟨_, _, S2.out⟩ G2.out
        exact nextPost_mk (x := q / 31 + z) h (by omega) (E _).1 (E _).2.1 (E _).2.2 rfl
    · go_enter Try.func49, Try.ntmps49
      go_wp2
      go_quiet (fail)
      go_wp2
      go_quiet (fail)
      go_wp2
      go_ret
      have E := fun k => src_end (k := k) hw2' ⟨_, _, S2.out⟩ G2.out
      exact nextPost_mk (x := q / 31 + z) h (by omega) (E _).1 (E _).2.1 (E _).2.2 rfl
  · have n1 : decide (n ≤ 1) = false := by simp; omega
    go_enter Try.func49, Try.ntmps49
    go_wp2
    go_quiet (fail)
    go_wp2
    go_ret
    have E := fun k => src_end2 (k := k) ⟨⟨_, _, S1.out⟩, G1.out.1, G1.out.2⟩
    exact nextPost_mk (x := q / 31) h (by omega) (E _).1 (E _).2.1 (E _).2.2 rfl
end Go.Proofs.Ytckpeoadglkbgaa
namespace Go.Proofs.Ytckpeoadglkbgaa
open Go.RowKit
set_option linter.unusedVariables false
theorem next_any (n : Int) (o : Option Addr) (len cap p : Nat) (w : World) (hn : n ≤ 4611686018427387904) (hs : Src w o len cap p) :
    Calls Try.prog 49 #[.pointer (some ⟨p, 0, none⟩), .int .i64 n] w (NextPost n o len cap p w) := by
  by_cases h : n ≤ 1
  · exact (next_small n _ w h).mono fun e w' ⟨he, hw⟩ => ⟨0, he, Int.le_refl _, .inr rfl, hw ▸ hs, hw ▸ World.grownBy.refl _ _, hw ▸ rfl⟩
  · obtain ⟨t, s, hs⟩ := hs
    exact next_big n o len cap p t s w (by omega) hn hs
/-- one of the numbers of a list -/
def PickPost (l : List Int) (o : Option Addr) (len cap p : Nat) (w : World) (e : Ending) (w' : World) : Prop :=
  ∃ r : Int, e = .returned (.int .i64 r) ∧ r ∈ l ∧ Src w' o len cap p ∧ w.grownBy w' (some p) ∧ w'.heap.size = w.heap.size
theorem pick_any (l : List Int) (g c : Nat) (o : Option Addr) (len cap p : Nat) (w : World) (hs : Src w o len cap p) (hgp : g ≠ p) (h0 : 0 < l.length) (h1 : l.length ≤ 1000)
    (hc : ∀ k, k < l.length → w.cell? ⟨g, k, none⟩ = some (.int .i64 (l.getD k 0))) :
    Calls Try.prog 52 #[.pointer (some ⟨p, 0, none⟩), .slice (some ⟨g, 0, none⟩) l.length c] w (PickPost l o len cap p w) := by
  have HS := Lib.hid hs
  have HC := Lib.hid hc
  clear hs hc
  go_enter Try.func52, Try.ntmps52
  go_wp2_with fail
  refine (next_any _ _ _ _ _ _ (by omega) HS.out).mono ?_
  rintro e w1 ⟨r, rfl, hr0, hr1, hsr, hgr, hzr⟩
  have hr2 : r < (l.length : Int) := by omega
  have hc := HC.out r.toNat (by omega)
  rw [← World.grownBy.cell_far hgr ⟨g, r.toNat, none⟩ (World.block_lt_of_cell? w _ hc) (by simpa using hgp)] at hc
  obtain ⟨x, hx⟩ : ∃ x, l.getD r.toNat 0 = x := ⟨_, rfl⟩
  rw [hx] at hc
  have HX : Hid (x ∈ l) := by
    show x ∈ l
    have hlt : r.toNat < l.length := by omega
    rw [← hx, show l.getD r.toNat 0 = l[r.toNat] by simp [List.getD, hlt]]; exact List.getElem_mem _
  have HR := Lib.hid (And.intro hsr (And.intro hgr hzr))
  clear hx hr1 hsr hgr hzr
  go_wp2
  go_ret
  exact ⟨x, rfl, HX.out, HR.out⟩
/-- a value or nearly one -/
def DrawnPost (lo hi : Int) (o : Option Addr) (len cap p : Nat) (w : World) (e : Ending) (w' : World) : Prop :=
  ∃ r : Int, e = .returned (.int .i64 r) ∧ lo ≤ r ∧ r ≤ hi ∧ Src w' o len cap p ∧ w.grownBy w' (some p)
/-- a literal list of numbers, laid in a new block -/
theorem cells_new (w : World) (l : List Int) (T : TypeId) : ∀ k, k < l.length → (w.alloc (.cells (l.map (Value.int .i64)).toArray T)).cell? ⟨w.heap.size, k, none⟩ = some (.int .i64 (l.getD k 0)) := by
  intro k hk
  rw [World.cell?_alloc_new]
  simp [hk]
theorem src_lt {w : World} {o : Option Addr} {len cap p : Nat} (h : Src w o len cap p) : p < w.heap.size := by
  obtain ⟨t, s, h⟩ := h; exact World.block_lt_of_cell? w _ h.c0
/-- l01Pick over a list that has just been laid -/
theorem pick_new (l : List Int) (T : TypeId) (c : Nat) (o : Option Addr) (len cap p : Nat) (w : World) (hs : Src w o len cap p) (h0 : 0 < l.length) (h1 : l.length ≤ 1000) :
    Calls Try.prog 52 #[.pointer (some ⟨p, 0, none⟩), .slice (some ⟨w.heap.size, 0, none⟩) l.length c] (w.alloc (.cells (l.map (Value.int .i64)).toArray T)) fun e w' =>
      ∃ r : Int, e = .returned (.int .i64 r) ∧ r ∈ l ∧ Src w' o len cap p ∧ w.grownBy w' (some p) := by
  refine (pick_any l w.heap.size c o len cap p _ (src_alloc hs _) (by have := src_lt hs; omega) h0 h1 (cells_new w l T)).mono fun e w' ⟨r, he, hr, h2, h3, h4⟩ => ⟨r, he, hr, h2, grownBy_tr (World.grownBy_alloc w _ _) h3⟩
end Go.Proofs.Ytckpeoadglkbgaa
namespace Go.Proofs.Ytckpeoadglkbgaa
open Go.RowKit
set_option linter.unusedVariables false
/-- a code that came in -/
def CodeIn (w : World) (o : Option Addr) (len : Nat) : Prop :=
  len = 0 ∨ ∃ b off, o = some ⟨b, off, none⟩ ∧ b < w.heap.size ∧ ∀ i, i < len → ∃ z : Int, w.cell? ⟨b, off + i, none⟩ = some (.int .u8 z) ∧ 0 ≤ z ∧ z ≤ 255
def FromPost (o : Option Addr) (len cap : Nat) (w : World) (e : Ending) (w' : World) : Prop :=
  ∃ p, e = .returned (.pointer (some ⟨p, 0, none⟩)) ∧ w.heap.size ≤ p ∧ Src w' o len cap p ∧ Below w.heap.size w w'
theorem srcAt_new (w : World) (o : Option Addr) (len cap : Nat) (T : TypeId) (hl : len ≤ 4096) (hc : CodeIn w o len) :
    SrcAt (w.alloc (.cells #[.slice o len cap, .int .i64 0, .int .i64 31019] T)) o len cap w.heap.size 0 31019 := by
  refine ⟨?_, ?_, ?_, fun i => World.frozen?_alloc_at _ _ _ _ rfl, Nat.zero_le _, hl, by omega, by omega, ?_⟩
  · rw [World.cell?_alloc_new]; rfl
  · rw [World.cell?_alloc_new]; rfl
  · rw [World.cell?_alloc_new]; rfl
  · rcases hc with h0 | ⟨b, off, ho, hb, hc⟩
    · exact .inl h0
    · refine .inr ⟨b, off, ho, hb, fun i hi => ?_⟩
      rw [World.cell?_alloc_past _ _ _ hb]; exact hc i hi
set_option maxRecDepth 20000 in
set_option maxHeartbeats 800000 in
theorem from_any (o : Option Addr) (len cap : Nat) (w : World) (hl : len ≤ 4096) (hc : CodeIn w o len) :
    Calls Try.prog 45 #[.slice o len cap] w (FromPost o len cap w) := by
  have HN := Lib.hid (srcAt_new w o len cap 79 hl hc)
  clear hc
  go_enter Try.func45, Try.ntmps45
  go_wp2
  go_loopw [4] (fun i wr => ∃ (k : Nat) (s : Int), k ≤ len ∧ i = .int .i64 k ∧ SrcAt wr o len cap w.heap.size 0 s ∧ Below w.heap.size w wr) (fun i _ => len - (intOf i).toNat)
  case atStart => exact ⟨0, 31019, Nat.zero_le _, rfl, HN.out, (Below.refl _ _).alloc (Nat.le_refl _) _⟩
  case round =>
    obtain ⟨k, s, hk, rfl, hs, hb⟩ := hrel
    have s0 := hs.s0
    have s1 := hs.s1
    have a2 := hs.c2
    have az := hs.fz 2
    have HS := Lib.hid hs
    have HB := Lib.hid hb
    clear hs hb HN
    by_cases hlt : k < len
    · by_cases h64 : k < 64
      · obtain ⟨b, off, rfl, hbp, hc⟩ : ∃ b off, o = some ⟨b, off, none⟩ ∧ b < w.heap.size ∧ ∀ i, i < len → ∃ z : Int, wr.cell? ⟨b, off + i, none⟩ = some (.int .u8 z) ∧ 0 ≤ z ∧ z ≤ 255 := by
          rcases HS.out.code with h0 | h0
          · omega
          · exact h0
        obtain ⟨z, hz, z0, z1⟩ := hc k hlt
        clear hc
        go_wp2
        go_still_tail 15, (by kernel_rfl)
        go_wp2
        exact ⟨⟨k + 1, (s * 61 + z) % 2147483647, by omega, by go_num, srcAt_drewN (srcAt_seed HS.out (by omega) (by omega)) 1, (HB.out.setCell (Nat.le_refl _) _).drew⟩, by simp only [intOf]; omega⟩
      · go_wp2
        go_ret
        exact ⟨_, rfl, Nat.le_refl _, ⟨_, _, HS.out⟩, HB.out⟩
    · go_wp2
      go_ret
      exact ⟨_, rfl, Nat.le_refl _, ⟨_, _, HS.out⟩, HB.out⟩
end Go.Proofs.Ytckpeoadglkbgaa
namespace Go.Proofs.Ytckpeoadglkbgaa
open Go.RowKit
set_option linter.unusedVariables false
theorem prod_bd {k r : Int} (h1 : 1 ≤ k) (h2 : k ≤ 40) (h3 : 0 ≤ r) (h4 : r ≤ 200) : -4000 ≤ k * (r - 100) ∧ k * (r - 100) ≤ 4000 := by
  have : (k * (r - 100)).natAbs ≤ 40 * 100 := by
    rw [Int.natAbs_mul]; exact Nat.mul_le_mul (by omega) (by omega)
  omega
/-- two numbers, drawn -/
def TwoPost (w : World) (e : Ending) (w' : World) : Prop := ∃ a b : Int, e = .returned (.tuple #[.int .i64 a, .int .i64 b]) ∧ Below w.heap.size w w'
def OnePost (w : World) (e : Ending) (w' : World) : Prop := ∃ a : Int, e = .returned (.int .i64 a) ∧ Below w.heap.size w w'
/-- a step of drawing, below the source's block -/
theorem below_draw {B p : Nat} {a w w' : World} (h : Below B a w) (hg : w.grownBy w' (some p)) (hp : B ≤ p) (hw : B ≤ w.heap.size) : Below B a w' :=
  h.grown hg hw (fun k hk => by cases hk; exact hp)
theorem big_no (o : Option Addr) (len cap : Nat) (w : World) (hl : len ≤ 4096) :
    Calls Try.prog 13 #[.slice o len cap] w fun e w' => e = .returned (.bool false) ∧ w = w' := by
  go_enter Try.func13, Try.ntmps13
  go_wp2
  go_ret
  exact ⟨ret_bool (decide_eq_false (by omega)), rfl⟩
theorem big_yes (o : Option Addr) (len cap : Nat) (w : World) (hl : 4096 < len) (hm : len ≤ 9223372036854775807) :
    Calls Try.prog 13 #[.slice o len cap] w fun e w' => e = .returned (.bool true) ∧ w = w' := by
  go_enter Try.func13, Try.ntmps13
  go_wp2
  go_ret
  exact ⟨ret_bool (decide_eq_true (by omega)), rfl⟩
theorem codeIn_below {w w' : World} {B : Nat} {o : Option Addr} {len : Nat} (h : CodeIn w o len) (hb : Below w.heap.size w w') : CodeIn w' o len := by
  rcases h with h | ⟨b, off, ho, hlt, hc⟩
  · exact .inl h
  · exact .inr ⟨b, off, ho, Nat.lt_of_lt_of_le hlt hb.size, fun i hi => by rw [hb.cell (by exact hlt)]; exact hc i hi⟩
end Go.Proofs.Ytckpeoadglkbgaa
namespace Go.Proofs.Ytckpeoadglkbgaa
open Go.RowKit
set_option linter.unusedVariables false
set_option maxHeartbeats 400000 in
theorem drawPrime_any (o : Option Addr) (len cap p : Nat) (w : World) (hs : Src w o len cap p) :
    Calls Try.prog 100 #[.pointer (some ⟨p, 0, none⟩)] w (DrawnPost (-3) 101 o len cap p w) := by
  have HS := Lib.hid hs
  clear hs
  go_enter Try.func100, Try.ntmps100
  go_wp2_with fail
  refine (next_any _ _ _ _ _ _ (by omega) HS.out).mono ?_
  rintro e w1 ⟨r1, rfl, r10, r11, hs1, hg1, hz1⟩
  have H1 := Lib.hid (And.intro hs1 hg1)
  clear hs1 hg1 hz1 r11
  by_cases hr : r1 = 0
  · subst hr
    go_wp2_with fail
    refine (pick_new [1, 4, 0, 97, 101, -3, 9] 2 7 o len cap p w1 H1.out.1 (by simp) (by simp)).mono ?_
    rintro e w2 ⟨x, rfl, hx, hs2, hg2⟩
    have hb : -3 ≤ x ∧ x ≤ 101 := by simp at hx; omega
    have H2 := Lib.hid (And.intro hb (And.intro hs2 (grownBy_tr H1.out.2 hg2)))
    clear hx hs2 hg2 hb
    go_wp2
    go_ret
    exact ⟨x, rfl, H2.out.1.1, H2.out.1.2, H2.out.2.1, H2.out.2.2⟩
  · have hr' : (r1 == 0) = false := by simpa using hr
    clear hr
    go_wp2_with fail
    refine (pick_new [2, 3, 5, 7, 2, 3, 5, 11, 13, 17, 31] 2 11 o len cap p w1 H1.out.1 (by simp) (by simp)).mono ?_
    rintro e w2 ⟨x, rfl, hx, hs2, hg2⟩
    have hb : -3 ≤ x ∧ x ≤ 101 := by simp at hx; omega
    have H2 := Lib.hid (And.intro hb (And.intro hs2 (grownBy_tr H1.out.2 hg2)))
    clear hx hs2 hg2 hb
    go_wp2
    go_ret
    exact ⟨x, rfl, H2.out.1.1, H2.out.1.2, H2.out.2.1, H2.out.2.2⟩
end Go.Proofs.Ytckpeoadglkbgaa
namespace Go.Proofs.Ytckpeoadglkbgaa
open Go.RowKit
set_option linter.unusedVariables false
/-- a ring, drawn -/
def RingPost (o : Option Addr) (len cap q : Nat) (w : World) (e : Ending) (w' : World) : Prop :=
  ∃ p n : Int, e = .returned (.agg #[.int .i64 p, .int .i64 n]) ∧ -3 ≤ p ∧ p ≤ 101 ∧ -1 ≤ n ∧ n ≤ 30 ∧ Src w' o len cap q ∧ w.grownBy w' (some q)
theorem valid_ring {p n : Int} (hp : p ∈ [2, 3, 5, 7, 2, 3, 5, 11, 13]) (h1 : 1 ≤ n) (h2 : n ≤ 6) : smallB p = true ∧ ringM p n ≠ 0 := by
  have hs : smallB p = true := by
    simp only [List.mem_cons, List.not_mem_nil, or_false] at hp
    rcases hp with rfl | rfl | rfl | rfl | rfl | rfl | rfl | rfl | rfl <;> decide
  have hb : 2 ≤ p ∧ p ≤ 13 := by simp at hp; omega
  refine ⟨hs, ?_⟩
  have e1 := pow_le hb.1 (show n.toNat ≤ 6 by omega)
  have e2 : p ^ 6 ≤ 4826809 := by
    simp only [List.mem_cons, List.not_mem_nil, or_false] at hp
    rcases hp with rfl | rfl | rfl | rfl | rfl | rfl | rfl | rfl | rfl <;> decide
  have e3 := pow_ge1 hb.1 n.toNat
  unfold ringM
  rw [hs, decide_eq_true h1, decide_eq_true (show p ^ n.toNat ≤ 1000000000 by omega)]
  simp; omega
theorem src_set {w : World} {o : Option Addr} {len cap q b i : Nat} {v : Value} (h : Src w o len cap q) (hb : q < b) : Src (w.setCell ⟨b, i, none⟩ v) o len cap q := by
  obtain ⟨t, s, h⟩ := h
  refine ⟨t, s, ?_, ?_, ?_, fun i => by rw [World.frozen?_setCell]; exact h.fz i, h.ht, h.hl, h.s0, h.s1, ?_⟩
  · rw [set_other (.inl (by omega))]; exact h.c0
  · rw [set_other (.inl (by omega))]; exact h.c1
  · rw [set_other (.inl (by omega))]; exact h.c2
  · rcases h.code with hz | ⟨b, off, ho, hbp, hc⟩
    · exact .inl hz
    · refine .inr ⟨b, off, ho, hbp, fun i hi => ?_⟩
      rw [set_other (.inl (by omega))]; exact hc i hi
theorem grown_set {w w' : World} {q b i : Nat} {v : Value} (h : w.grownBy w' (some q)) (hb : w.heap.size ≤ b) : w.grownBy (w'.setCell ⟨b, i, none⟩ v) (some q) :=
  ⟨h.os, h.tape, h.output, by simpa using h.size, fun k hk hn => by rw [Below.heap_setCell _ _ _ _ (by show k ≠ b; omega)]; exact h.block k hk hn⟩
/-- l01Pick over a list laid in a block whose number is written out -/
theorem pick_at (l : List Int) (T : TypeId) (c : Nat) (o : Option Addr) (len cap p g : Nat) (w : World) (hg : w.heap.size = g) (hs : Src w o len cap p) (h0 : 0 < l.length) (h1 : l.length ≤ 1000) :
    Calls Try.prog 52 #[.pointer (some ⟨p, 0, none⟩), .slice (some ⟨g, 0, none⟩) l.length c] (w.alloc (.cells (l.map (Value.int .i64)).toArray T)) fun e w' =>
      ∃ r : Int, e = .returned (.int .i64 r) ∧ r ∈ l ∧ Src w' o len cap p ∧ w.grownBy w' (some p) := by
  subst hg; exact pick_new l T c o len cap p w hs h0 h1
theorem ring_block {w w2 : World} {a b : Value} {T : TypeId} (h : w2.heap[w.heap.size]? = (w.alloc (.cells #[a, b] T)).heap[w.heap.size]?) :
    w2.cell? ⟨w.heap.size, 0, none⟩ = some a ∧ w2.cell? ⟨w.heap.size, 1, none⟩ = some b ∧ w2.frozen? ⟨w.heap.size, 0, none⟩ = false ∧ w2.frozen? ⟨w.heap.size, 1, none⟩ = false := by
  refine ⟨?_, ?_, ?_, ?_⟩
  · rw [World.cell?_of_block (w := w.alloc (.cells #[a, b] T)) (a := ⟨w.heap.size, 0, none⟩) h, World.cell?_alloc_new]; rfl
  · rw [World.cell?_of_block (w := w.alloc (.cells #[a, b] T)) (a := ⟨w.heap.size, 1, none⟩) h, World.cell?_alloc_new]; rfl
  · rw [World.frozen?_of_block (w := w.alloc (.cells #[a, b] T)) (a := ⟨w.heap.size, 0, none⟩) h]; exact World.frozen?_alloc_at _ _ _ _ rfl
  · rw [World.frozen?_of_block (w := w.alloc (.cells #[a, b] T)) (a := ⟨w.heap.size, 1, none⟩) h]; exact World.frozen?_alloc_at _ _ _ _ rfl
set_option maxHeartbeats 400000 in
theorem valid_any (o : Option Addr) (len cap q : Nat) (w : World) (hs : Src w o len cap q) :
    Calls Try.prog 99 #[.pointer (some ⟨q, 0, none⟩)] w (RingPost o len cap q w) := by
  have hq := src_lt hs
  have HS := Lib.hid (src_alloc hs (.cells #[.int .i64 0, .int .i64 0] 25))
  have HG := Lib.hid (World.grownBy_alloc w (.cells #[.int .i64 0, .int .i64 0] 25) (some q))
  have HQ := Lib.hid hq
  clear hs hq
  go_enter Try.func99, Try.ntmps99
  go_wp2_with fail
  refine (pick_at [2, 3, 5, 7, 2, 3, 5, 11, 13] 2 9 o len cap q _ _ (by simp) HS.out (by simp) (by simp)).mono ?_
  rintro e w1 ⟨p, rfl, hp, hs1, hg1⟩
  have HP := Lib.hid hp
  have H1 := Lib.hid (And.intro hs1 (grownBy_tr HG.out hg1))
  have hpb : 2 ≤ p ∧ p ≤ 13 := by simp at hp; omega
  have hb1 := hg1.block w.heap.size (by simp) (by have := HQ.out; simp; omega)
  have hlt : w.heap.size < w1.heap.size := Nat.lt_of_lt_of_le (by simp) hg1.size
  have C1 := Lib.hid (And.intro hlt hb1)
  clear hp hs1 hg1 hb1 hlt
  go_wp2_with fail
  refine (next_any _ _ _ _ _ _ (by omega) H1.out.1).mono ?_
  rintro e w2 ⟨r, rfl, r0, r1, hs2, hg2, hz2⟩
  have H2 := Lib.hid (And.intro hs2 (grownBy_tr H1.out.2 hg2))
  have C2 := Lib.hid ((hg2.block w.heap.size C1.out.1 (by have := HQ.out; simp; omega)).trans C1.out.2)
  have r2 : r < 6 := by omega
  have HV := Lib.hid (valid_ring (n := 1 + r) HP.out (by omega) (by omega))
  have hz : (ringM p (1 + r) == 0) = false := by simpa using HV.out.2
  obtain ⟨n, hn⟩ : ∃ n, 1 + r = n := ⟨_, rfl⟩
  have hn1 : 1 ≤ n := by omega
  have hn2 : n ≤ 6 := by omega
  have hn3 : n ≤ 1000 := by omega
  rw [hn] at HV hz
  clear hs2 hg2 hz2 r1
  go_wp2
  go_loop [4] (fun v => v = .int .i64 n) (fun _ => 0)
  case atStart => exact rfl
  case round =>
    subst hrel
    obtain ⟨d0, d1, f0, f1⟩ := ring_block C2.out
    go_wp2_with (go_at_call 66; refine (l02Modulus_any _ _ _ HV.out.1 hn1 hn3).mono ?_; rintro e w' ⟨rfl, rfl⟩)
    have hq := HQ.out
    refine bodyPost_ret (v := .agg #[.int .i64 p, .int .i64 n]) (by simp [results, Try.results99, go_sem, d0, d1]) rfl ?_
    exact ⟨_, _, rfl, by omega, by omega, by omega, by omega, src_set (src_set H2.out.1 hq) hq, grown_set (grown_set H2.out.2 (Nat.le_refl _)) (Nat.le_refl _)⟩
theorem block_alloc {w : World} (o : Obj) {k : Nat} (h : k < w.heap.size) : (w.alloc o).heap[k]? = w.heap[k]? := Below.heap_alloc w o k h
set_option maxHeartbeats 800000 in
theorem ringDraw_any (o : Option Addr) (len cap q : Nat) (w : World) (hs : Src w o len cap q) :
    Calls Try.prog 74 #[.pointer (some ⟨q, 0, none⟩)] w (RingPost o len cap q w) := by
  have hq := src_lt hs
  have HS := Lib.hid (src_alloc hs (.cells #[.int .i64 0, .int .i64 0] 25))
  have HG := Lib.hid (World.grownBy_alloc w (.cells #[.int .i64 0, .int .i64 0] 25) (some q))
  have HQ := Lib.hid hq
  clear hs hq
  go_enter Try.func74, Try.ntmps74
  go_wp2_with fail
  refine (valid_any o len cap q _ HS.out).mono ?_
  rintro e w1 ⟨p, n, rfl, hp1, hp2, hn1, hn2, hs1, hg1⟩
  have hb1 := hg1.block w.heap.size (by simp) (by have := HQ.out; simp; omega)
  have hlt : w.heap.size < w1.heap.size := Nat.lt_of_lt_of_le (by simp) hg1.size
  have C1 := Lib.hid (And.intro hlt hb1)
  have hq1 := src_lt hs1
  have HQ1 := Lib.hid hq1
  have H1 := Lib.hid (And.intro (src_alloc hs1 (.cells #[.int .i64 p, .int .i64 n] 25)) (grownBy_tr (grownBy_tr HG.out hg1) (World.grownBy_alloc w1 (.cells #[.int .i64 p, .int .i64 n] 25) (some q))))
  clear hs1 hg1 hb1 hlt hq1
  go_wp2_with fail
  refine (next_any _ _ _ _ _ _ (by omega) H1.out.1).mono ?_
  rintro e w2 ⟨r, rfl, r0, r1, hs2, hg2, hz2⟩
  have H2 := Lib.hid (And.intro hs2 (grownBy_tr H1.out.2 hg2))
  have C2 := Lib.hid ((hg2.block w.heap.size (by simp; have := C1.out.1; omega) (by have := HQ.out; simp; omega)).trans ((block_alloc _ C1.out.1).trans C1.out.2))
  have R2 := Lib.hid (hg2.block w1.heap.size (by simp) (by have := HQ1.out; simp; omega))
  have r2 : r < 20 := by omega
  have hz2b : w1.heap.size < w2.heap.size := Nat.lt_of_lt_of_le (by simp) hg2.size
  have hne : ¬ w1.heap.size = w.heap.size := by have := C1.out.1; omega
  have HN := Lib.hid (And.intro hne (And.intro hz2b (show w.heap.size < w2.heap.size by have := C1.out.1; omega)))
  have hqn : q < w1.heap.size := HQ1.out
  have HE := Lib.hid hqn
  clear hs2 hg2 hz2 r1 hz2b hqn
  by_cases e0 : r = 0
  · subst e0
    go_wp2_with fail
    refine (drawPrime_any _ _ _ _ _ H2.out.1).mono ?_
    rintro e w3 ⟨x, rfl, hx0, hx1, hs3, hg3⟩
    have H3 := Lib.hid (And.intro hs3 (grownBy_tr H2.out.2 hg3))
    have C3 := Lib.hid ((hg3.block w.heap.size HN.out.2.2 (by have := HQ.out; simp; omega)).trans C2.out)
    have R3 := Lib.hid ((hg3.block w1.heap.size HN.out.2.1 (by have := HE.out; simp; omega)).trans R2.out)
    clear hs3 hg3
    obtain ⟨d0, d1, f0, f1⟩ := ring_block C3.out
    obtain ⟨x0, x1, g0, g1⟩ := ring_block R3.out
    have hq := HQ.out
    have hq1 := HE.out
    have hw1 := Nat.le_of_lt C1.out.1
    go_wp2
    refine bodyPost_ret (v := .agg #[.int .i64 x, .int .i64 n]) (by simp [results, Try.results74, go_sem, d0, d1]) rfl ?_
    exact ⟨_, _, rfl, by omega, by omega, by omega, by omega, src_set (src_set (src_set H3.out.1 hq1) hq) hq, grown_set (grown_set (grown_set H3.out.2 hw1) (Nat.le_refl _)) (Nat.le_refl _)⟩
  · have e0' : (r == 0) = false := by simp [e0]
    by_cases e1 : r = 1
    · subst e1
      go_wp2_with fail
      refine (pick_new [0, 1, 29, 30, 12, -1] 2 6 o len cap q w2 H2.out.1 (by simp) (by simp)).mono ?_
      rintro e w3 ⟨x, rfl, hx, hs3, hg3⟩
      have hx0 : -1 ≤ x ∧ x ≤ 30 := by simp at hx; omega
      have H3 := Lib.hid (And.intro hs3 (grownBy_tr H2.out.2 hg3))
      have C3 := Lib.hid ((hg3.block w.heap.size HN.out.2.2 (by have := HQ.out; simp; omega)).trans C2.out)
      have R3 := Lib.hid ((hg3.block w1.heap.size HN.out.2.1 (by have := HE.out; simp; omega)).trans R2.out)
      clear hs3 hg3 hx
      obtain ⟨x0, x1, g0, g1⟩ := ring_block R3.out
      have hq := HQ.out
      have hq1 := HE.out
      have hw1 := Nat.le_of_lt C1.out.1
      obtain ⟨d0, d1, f0, f1⟩ := ring_block C3.out
      go_wp2
      refine bodyPost_ret (v := .agg #[.int .i64 p, .int .i64 x]) (by simp [results, Try.results74, go_sem, d0, d1]) rfl ?_
      exact ⟨_, _, rfl, by omega, by omega, by omega, by omega, src_set (src_set (src_set H3.out.1 hq1) hq) hq, grown_set (grown_set (grown_set H3.out.2 hw1) (Nat.le_refl _)) (Nat.le_refl _)⟩
    · have e1' : (r == 1) = false := by simp [e1]
      obtain ⟨d0, d1, f0, f1⟩ := ring_block C2.out
      obtain ⟨x0, x1, g0, g1⟩ := ring_block R2.out
      have hq := HQ.out
      go_wp2
      refine bodyPost_ret (v := .agg #[.int .i64 p, .int .i64 n]) (by simp [results, Try.results74, go_sem, d0, d1]) rfl ?_
      exact ⟨_, _, rfl, by omega, by omega, by omega, by omega, src_set (src_set H2.out.1 hq) hq, grown_set (grown_set H2.out.2 (Nat.le_refl _)) (Nat.le_refl _)⟩
end Go.Proofs.Ytckpeoadglkbgaa
namespace Go.Proofs.Ytckpeoadglkbgaa
open Go.RowKit
set_option linter.unusedVariables false
/-- a number, drawn -/
def SomePost (o : Option Addr) (len cap q : Nat) (w : World) (e : Ending) (w' : World) : Prop :=
  ∃ a : Int, e = .returned (.int .i64 a) ∧ Src w' o len cap q ∧ w.grownBy w' (some q)
theorem grown_below {w w' : World} {q : Nat} (h : Below w.heap.size w w') : w.grownBy w' (some q) :=
  ⟨h.os, h.tape, h.output, h.size, fun k hk _ => h.block k hk⟩
set_option maxHeartbeats 1000000 in
theorem resDraw_any (o : Option Addr) (len cap q : Nat) (p n : Int) (w : World) (hs : Src w o len cap q) :
    Calls Try.prog 75 #[.pointer (some ⟨q, 0, none⟩), .agg #[.int .i64 p, .int .i64 n]] w (SomePost o len cap q w) := by
  have hq := src_lt hs
  have HS := Lib.hid hs
  have HQ := Lib.hid hq
  clear hs hq
  by_cases h0 : ringM p n = 0
  · have hd := ringB_f h0
    clear h0
    go_enter Try.func75, Try.ntmps75
    go_wp2_with (go_at_call 47; refine (specIsRing_any _ _ _).mono ?_; rintro e wn ⟨rfl, hb⟩; have hB := below_one hb; have hS := src_below HS.out hB HQ.out)
    refine (next_any _ _ _ _ _ _ (by omega) hS).mono ?_
    rintro e w2 ⟨r, rfl, r0, r1, hs2, hg2, hz2⟩
    have H2 := Lib.hid (And.intro hs2 (grownBy_tr (grown_below hB) hg2))
    clear hs2 hg2 hz2
    go_wp2
    go_ret
    exact ⟨_, rfl, H2.out⟩
  · have hd := ringB_t h0
    obtain ⟨hp2, hp97, hn1, hn2, hm1, hm2, _⟩ := ringM_bd h0
    have H := Lib.hid (And.intro (ringM_in h0).1 (And.intro hn1 (show n ≤ 1000 by omega)))
    clear h0
    go_enter Try.func75, Try.ntmps75
    go_wp2_with (first | (go_at_call 47; refine (specIsRing_any _ _ _).mono ?_; rintro e wn ⟨rfl, hb⟩; have hH := keep_first hb; obtain ⟨hB, c0, c1⟩ := hH; have hS := src_below HS.out hB HQ.out) | (go_at_call 66; refine (l02Modulus_any _ _ _ H.out.1 H.out.2.1 H.out.2.2).mono ?_; rintro e w' ⟨rfl, rfl⟩))
    have H1 := Lib.hid (And.intro hS (grown_below (q := q) hB))
    clear hS hB hb c0 c1
    refine (next_any _ _ _ _ _ _ (by omega) H1.out.1).mono ?_
    rintro e w2 ⟨r2, rfl, r20, r21, hs2, hg2, hz2⟩
    have H2 := Lib.hid (And.intro hs2 (grownBy_tr H1.out.2 hg2))
    clear hs2 hg2 hz2 r21
    go_wp2_with fail
    refine (next_any _ _ _ _ _ _ (by omega) H2.out.1).mono ?_
    rintro e w3 ⟨r3, rfl, r30, r31, hs3, hg3, hz3⟩
    have H3 := Lib.hid (And.intro hs3 (grownBy_tr H2.out.2 hg3))
    clear hs3 hg3 hz3 r31
    go_wp2_with fail
    refine (next_any _ _ _ _ _ _ (by omega) H3.out.1).mono ?_
    rintro e w4 ⟨r4, rfl, r40, r41, hs4, hg4, hz4⟩
    have H4 := Lib.hid (And.intro hs4 (grownBy_tr H3.out.2 hg4))
    clear hs4 hg4 hz4 r41
    go_wp2_with fail
    refine (next_any _ _ _ _ _ _ (by omega) H4.out.1).mono ?_
    rintro e w5 ⟨r5, rfl, r50, r51, hs5, hg5, hz5⟩
    have H5 := Lib.hid (And.intro hs5 (grownBy_tr H4.out.2 hg5))
    clear hs5 hg5 hz5 r51
    go_wp2_with fail
    refine (next_any _ _ _ _ _ _ (by omega) H5.out.1).mono ?_
    rintro e w6 ⟨r6, rfl, r60, r61, hs6, hg6, hz6⟩
    have H6 := Lib.hid (And.intro hs6 (grownBy_tr H5.out.2 hg6))
    clear hs6 hg6 hz6 r61
    go_wp2_with fail
    refine (pick_new [r2, r3, r4, 0, 1, ringM p n - 1, ringM p n, -1, r5, r6] 2 10 o len cap q w6 H6.out.1 (by simp) (by simp)).mono ?_
    rintro e w7 ⟨x, rfl, hx, hs7, hg7⟩
    have H7 := Lib.hid (And.intro hs7 (grownBy_tr H6.out.2 hg7))
    clear hs7 hg7 hx
    go_wp2
    go_ret
    exact ⟨_, rfl, H7.out⟩
/-- a ring and a number, drawn -/
def RingTwoPost (w : World) (e : Ending) (w' : World) : Prop := ∃ p n a : Int, e = .returned (.tuple #[.agg #[.int .i64 p, .int .i64 n], .int .i64 a]) ∧ Below w.heap.size w w'
/-- between the draws: the source, what is old, the block of the result and that of a ring -/
def Mid (o : Option Addr) (len cap q : Nat) (w wz : World) : Prop :=
  w.heap.size < q ∧ Src wz o len cap q ∧ Below w.heap.size w wz ∧ w.heap.size < wz.heap.size ∧ wz.heap[w.heap.size]? = (w.alloc (.cells #[.int .i64 0, .int .i64 0] 25)).heap[w.heap.size]?
theorem mid_first {o : Option Addr} {len cap q : Nat} {w w1 : World} (hq : (w.alloc (.cells #[.int .i64 0, .int .i64 0] 25)).heap.size ≤ q) (hs : Src w1 o len cap q)
    (hb : Below (w.alloc (.cells #[.int .i64 0, .int .i64 0] 25)).heap.size (w.alloc (.cells #[.int .i64 0, .int .i64 0] 25)) w1) : Mid o len cap q w w1 := by
  have e : (w.alloc (.cells #[.int .i64 0, .int .i64 0] 25)).heap.size = w.heap.size + 1 := by simp
  exact ⟨by omega, hs, below_one hb, by have := hb.size; omega, hb.block _ (by omega)⟩
theorem mid_next {o : Option Addr} {len cap q : Nat} {w w1 w2 : World} (h : Mid o len cap q w w1) (hs : Src w2 o len cap q) (hg : w1.grownBy w2 (some q)) : Mid o len cap q w w2 := by
  obtain ⟨h1, h2, h3, h4, h5⟩ := h
  exact ⟨h1, hs, below_draw h3 hg (Nat.le_of_lt h1) (Nat.le_of_lt h4), Nat.lt_of_lt_of_le h4 hg.size, (hg.block _ h4 (by simp; omega)).trans h5⟩
theorem mid_alloc {o : Option Addr} {len cap q : Nat} {w w1 : World} (h : Mid o len cap q w w1) (ob : Obj) : Mid o len cap q w (w1.alloc ob) :=
  mid_next h (src_alloc h.2.1 ob) (World.grownBy_alloc w1 ob (some q))
theorem mid_drewN {o : Option Addr} {len cap q : Nat} {w w1 : World} (h : Mid o len cap q w w1) (n : Nat) : Mid o len cap q w (w1.drewN n) := ⟨h.1, src_drewN h.2.1 n, below_drewN h.2.2.1 n, h.2.2.2⟩
end Go.Proofs.Ytckpeoadglkbgaa
namespace Go.Proofs.Ytckpeoadglkbgaa
open Go.RowKit
set_option linter.unusedVariables false
set_option maxRecDepth 20000
set_option linter.unusedSimpArgs false
theorem grownBy_rest {p : Nat} {w w1 w2 : World} (h : w.grownBy w1 (some p)) (hb : Below w.heap.size w1 w2) : w.grownBy w2 (some p) :=
  ⟨hb.os.trans h.os, hb.tape.trans h.tape, hb.output.trans h.output, Nat.le_trans h.size hb.size, fun k hk hne => (hb.block k hk).trans (h.block k hk hne)⟩
theorem intRow_draw6 {w w' : World} {b p : Nat} {v : Value} {l : List Int} (h : IntRow b w v l) (hg : w.grownBy w' (some p)) (hp : p < b) : IntRow b w' v l := by
  refine World.ownsRow.kept h hg ?_
  cases hv : v.ownBlock with
  | none => exact .inl rfl
  | some k => right; intro e; have := World.ownsRow.lt h k hv; cases e; omega
/-- a row of the call's own, and the source that came in -/
def VS (o : Option Addr) (len cap p : Nat) (w wz : World) (v : Value) (l : List Int) : Prop := Src wz o len cap p ∧ w.grownBy wz (some p) ∧ IntRow w.heap.size wz v l ∧ p < w.heap.size
theorem vs_next {o : Option Addr} {len cap p : Nat} {w w1 w2 : World} {v : Value} {l : List Int} (h : VS o len cap p w w1 v l) (hs : Src w2 o len cap p) (hg : w1.grownBy w2 (some p)) : VS o len cap p w w2 v l :=
  ⟨hs, grownBy_tr h.2.1 hg, intRow_draw6 h.2.2.1 hg h.2.2.2, h.2.2.2⟩
theorem vs_app {o : Option Addr} {len cap p : Nat} {w w1 w2 : World} {v v' : Value} {l : List Int} {x : Int} {ob : Obj} (h : VS o len cap p w w1 v l) (hown : w2.ownsRow w.heap.size 2 1 v' (l.length + 1) (l.map (Value.int .i64) ++ [.int .i64 x]))
    (hg : (w1.alloc ob).grownBy w2 v.ownBlock) : VS o len cap p w w2 v' (l ++ [x]) := by
  have hB : Below w.heap.size w1 w2 := ((Below.refl w.heap.size w1).alloc h.2.1.size ob).grown hg (by have := h.2.1.size; simp; omega) (fun k hk => (World.ownsRow.lt h.2.2.1 k hk).1)
  exact ⟨src_below h.1 hB h.2.2.2, grownBy_rest h.2.1 hB, intRow_snoc hown, h.2.2.2⟩
theorem vs_made {o : Option Addr} {len cap p : Nat} {w : World} (h : Src w o len cap p) : VS o len cap p w (w.alloc (.cells #[] 2)) (.slice (some ⟨w.heap.size, 0, none⟩) 0 0) [] :=
  ⟨src_alloc h _, World.grownBy_alloc w _ _, intRow_made w, src_lt h⟩
theorem vs_lower {o : Option Addr} {len cap p : Nat} {w w1 w2 : World} {v : Value} {l : List Int} (h : VS o len cap p w1 w2 v l) (hg : w.grownBy w1 (some p)) (hp : p < w.heap.size) : VS o len cap p w w2 v l :=
  ⟨h.1, grownBy_tr hg h.2.1, intRow_lower h.2.2.1 hg.size, hp⟩
theorem vs_set {o : Option Addr} {len cap p g n c k : Nat} {w w1 : World} {l : List Int} (h : VS o len cap p w w1 (.slice (some ⟨g, 0, none⟩) n c) l) (hn : l.length = n) (hg : w.heap.size ≤ g) (x : Int) :
    VS o len cap p w (w1.setCell ⟨g, k, none⟩ (.int .i64 x)) (.slice (some ⟨g, 0, none⟩) n c) (l.set k x) := by
  have hB : Below w.heap.size w1 (w1.setCell ⟨g, k, none⟩ (.int .i64 x)) := (Below.refl _ _).setCell hg _
  exact ⟨src_below h.1 hB h.2.2.2, grownBy_rest h.2.1 hB, int_stored h.2.2.1 hn k x, h.2.2.2⟩
theorem below_oneP (w : World) (a : Obj) : Below w.heap.size w (w.alloc a) := (Below.refl _ _).alloc (Nat.le_refl _) _
theorem last_snoc {l : List Int} {x : Int} (h : x ≠ 0) : lastB (l ++ [x]) = true := by
  unfold lastB
  simp only [Bool.or_eq_true, Bool.not_eq_true', beq_eq_false_iff_ne]
  right
  simpa [List.getD] using h
def ValidP (d : Int) (l : List Int) : Prop := (l.length : Int) = d + 1 ∧ (∀ x ∈ l, -100 ≤ x ∧ x ≤ 100) ∧ lastB l = true
def DrawP (l : List Int) : Prop := l.length ≤ 10 ∧ ∀ x ∈ l, -1000001 ≤ x ∧ x ≤ 1000001
theorem valid_draw {d : Int} {l : List Int} (h : ValidP d l) (hd : d ≤ 9) : DrawP l := ⟨by have := h.1; omega, fun x hx => by have := h.2.1 x hx; omega⟩
theorem draw_get {l : List Int} (h : DrawP l) (k : Nat) : -1000001 ≤ l.getD k 0 ∧ l.getD k 0 ≤ 1000001 := by
  by_cases hk : k < l.length
  · rw [show l.getD k 0 = l[k] by simp [List.getD, hk]]; exact h.2 _ (List.getElem_mem _)
  · rw [getD_out (by omega)]; omega
theorem draw_set {l : List Int} (h : DrawP l) {k : Nat} {x : Int} (hx : -1000001 ≤ x ∧ x ≤ 1000001) : DrawP (l.set k x) :=
  ⟨by rw [List.length_set]; exact h.1, fun y hy => by rcases List.mem_or_eq_of_mem_set hy with hy | rfl; exact h.2 y hy; exact hx⟩
set_option maxRecDepth 20000 in
set_option maxHeartbeats 1600000 in
theorem l06Valid_any (d : Int) (o : Option Addr) (len cap p : Nat) (w : World) (d0 : 0 ≤ d) (d9 : d ≤ 9) (hs : Src w o len cap p) :
    Calls Try.prog 103 #[.pointer (some ⟨p, 0, none⟩), .int .i64 d] w fun e w' => ∃ v l, e = .returned v ∧ VS o len cap p w w' v l ∧ ValidP d l := by
  obtain ⟨i0, hi, hz0, hz1, hz2⟩ := info_parts Try.infoInt64
  have HI := Lib.hid hi
  have HZ0 := Lib.hid hz0
  have HZ1 := Lib.hid hz1
  have HZ2 := Lib.hid hz2
  clear hi hz0 hz1 hz2
  have HR := Lib.hid (vs_made hs)
  clear hs
  go_enter Try.func103, Try.ntmps103
  go_wp2_with fail
  go_loopw [5, 6] (fun s i wr => ∃ (N : Int) (l : List Int), i = .int .i64 N ∧ (l.length : Int) = N ∧ N ≤ d ∧ (∀ x ∈ l, -100 ≤ x ∧ x ≤ 100) ∧ VS o len cap p w wr s l) (fun _ i _ => (d - intOf i).toNat)
  case atStart => exact ⟨0, [], rfl, rfl, d0, by simp, HR.out⟩
  case round =>
    clear HR
    obtain ⟨N, l, rfl, hN, hNd, hall, R⟩ := hrel
    have HALL := Lib.hid hall
    clear hall
    have N0 : 0 ≤ N := by omega
    obtain ⟨o3, c3, hv⟩ := row_slice R.2.2.1
    subst hv
    by_cases hpos : N < d
    · have HN := Lib.hid hN
      clear hN
      go_wp2_with fail
      refine (next_any _ _ _ _ _ _ (by omega) R.1).mono ?_
      rintro e w1 ⟨ra, rfl, ra0, ra1, hs, hg, hz⟩
      have ra2 : ra < 13 := by omega
      replace R := vs_next R hs hg
      clear hs hg hz ra1
      have hwa := IntWalk.i64_in (ra - 6) (by omega)
      go_wp2_with fail
      refine (next_any _ _ _ _ _ _ (by omega) R.1).mono ?_
      rintro e w2 ⟨rb, rfl, rb0, rb1, hs, hg, hz⟩
      have rb2 : rb < 5 := by omega
      replace R := vs_next R hs hg
      clear hs hg hz rb1
      have hwb := IntWalk.i64_in (rb - 2) (by omega)
      go_wp2_with fail
      refine (next_any _ _ _ _ _ _ (by omega) R.1).mono ?_
      rintro e w3 ⟨rc, rfl, rc0, rc1, hs, hg, hz⟩
      have rc2 : rc < 201 := by omega
      replace R := vs_next R hs hg
      clear hs hg hz rc1
      have hwc := IntWalk.i64_in (rc - 100) (by omega)
      go_wp2_with fail
      refine (pick_new [ra - 6, rb - 2, 0, rc - 100] 2 4 o len cap p w3 R.1 (by simp) (by simp)).mono ?_
      rintro e w6 ⟨y, rfl, hy, hs6, hg6⟩
      have hyb : -100 ≤ y ∧ y ≤ 100 := by simp at hy; omega
      replace R := vs_next R hs6 hg6
      clear hs6 hg6 hy hwa hwb hwc ra0 ra2 rb0 rb2 rc0 rc2
      have hl9 : l.length ≤ 9 := by have := HN.out; omega
      go_wp2_with (at_builtin; refine wpList_append_own _ rfl (.tmp 13) (.tmp 26) 26 rfl w.heap.size 2 i0 (.int .i64 0) 1 8 Try.underlying26 HI.out HZ0.out HZ1.out HZ2.out rfl (by decide) _ _ _ rfl (R.2.2.1.alloc _) ⟨w6.heap.size, 0, none⟩ 1 1 [.int .i64 y] rfl rfl ?c1 ?c2 ?c3 ?c4 ?c5 ?_)
      case c1 => first | exact news_one _ _ _ | simp [Addr.add]
      case c2 => first | exact one_one _ | rfl
      case c3 => unfold maxLen; omega
      case c4 => omega
      case c5 => have := R.2.1.size; first | omega | (simp; omega)
      intro v' w7 hown hgrow _
      obtain ⟨oo, cc, hvv⟩ := row_slice hown
      subst hvv
      have R4 := vs_app R hown hgrow
      clear hown hgrow
      have HR4 := Lib.hid R4
      clear R R4
      have hw7 : IntKind.i64.wrap (N + 1) = N + 1 := IntWalk.i64_in _ (by omega)
      go_wp2_with fail
      exact ⟨⟨N + 1, l ++ [y], rfl, by have := HN.out; simp; omega, by omega, fun x hx => by rcases List.mem_append.1 hx with hx | hx; exact HALL.out x hx; (simp at hx; subst hx; exact hyb), HR4.out⟩, by simp only [intOf]; omega⟩
    · have HN := Lib.hid hN
      clear hN
      have hl9 : l.length ≤ 9 := by have := HN.out; omega
      go_wp2_with fail
      refine (next_any _ _ _ _ _ _ (by omega) R.1).mono ?_
      rintro e w1 ⟨ra, rfl, ra0, ra1, hs, hg, hz⟩
      have ra2 : ra < 6 := by omega
      replace R := vs_next R hs hg
      clear hs hg hz ra1
      have hwa := IntWalk.i64_in (1 + ra) (by omega)
      go_wp2_with fail
      refine (next_any _ _ _ _ _ _ (by omega) R.1).mono ?_
      rintro e w2 ⟨rb, rfl, rb0, rb1, hs, hg, hz⟩
      have rb2 : rb < 3 := by omega
      replace R := vs_next R hs hg
      clear hs hg hz rb1
      have hwb := IntWalk.i64_in (-1 - rb) (by omega)
      go_wp2_with fail
      refine (pick_new [1, 1, 1 + ra, -1 - rb] 2 4 o len cap p w2 R.1 (by simp) (by simp)).mono ?_
      rintro e w6 ⟨y, rfl, hy, hs6, hg6⟩
      have hyb : -100 ≤ y ∧ y ≤ 100 := by simp at hy; omega
      have hy0 : y ≠ 0 := by simp at hy; omega
      replace R := vs_next R hs6 hg6
      clear hs6 hg6 hy hwa hwb ra0 ra2 rb0 rb2
      go_wp2_with (at_builtin; refine wpList_append_own _ rfl (.tmp 28) (.tmp 38) 26 rfl w.heap.size 2 i0 (.int .i64 0) 1 8 Try.underlying26 HI.out HZ0.out HZ1.out HZ2.out rfl (by decide) _ _ _ rfl (R.2.2.1.alloc _) ⟨w6.heap.size, 0, none⟩ 1 1 [.int .i64 y] rfl rfl ?c1 ?c2 ?c3 ?c4 ?c5 ?_)
      case c1 => first | exact news_one _ _ _ | simp [Addr.add]
      case c2 => first | exact one_one _ | rfl
      case c3 => unfold maxLen; omega
      case c4 => omega
      case c5 => have := R.2.1.size; first | omega | (simp; omega)
      intro v' w7 hown hgrow _
      obtain ⟨oo, cc, hvv⟩ := row_slice hown
      subst hvv
      have R4 := vs_app R hown hgrow
      clear hown hgrow
      have HR4 := Lib.hid R4
      have HY0 := Lib.hid hy0
      clear R R4 hy0
      go_wp2_with fail
      go_ret
      exact ⟨_, l ++ [y], rfl, HR4.out, by have := HN.out; simp; omega, fun x hx => by rcases List.mem_append.1 hx with hx | hx; exact HALL.out x hx; (simp at hx; subst hx; exact hyb), last_snoc HY0.out⟩
set_option maxRecDepth 20000 in
set_option maxHeartbeats 1600000 in
theorem l06Draw_any (o : Option Addr) (len cap p : Nat) (w : World) (hs : Src w o len cap p) :
    Calls Try.prog 80 #[.pointer (some ⟨p, 0, none⟩)] w fun e w' => ∃ v l, e = .returned v ∧ VS o len cap p w w' v l ∧ DrawP l := by
  obtain ⟨i0, hi, hz0, hz1, hz2⟩ := info_parts Try.infoInt64
  have HI := Lib.hid hi
  have HZ0 := Lib.hid hz0
  have HZ1 := Lib.hid hz1
  have HZ2 := Lib.hid hz2
  clear hi hz0 hz1 hz2
  have HS := Lib.hid hs
  have hp := src_lt hs
  clear hs
  go_enter Try.func80, Try.ntmps80
  go_wp2_with fail
  refine (next_any _ _ _ _ _ _ (by omega) HS.out).mono ?_
  rintro e w1 ⟨r, rfl, r0, r1, hs1, hg1, hz1⟩
  have r2 : r < 6 := by omega
  clear hz1 r1
  go_wp2_with fail
  refine (l06Valid_any r o len cap p w1 r0 (by omega) hs1).mono ?_
  rintro e w2 ⟨v, l, rfl, R, hv⟩
  replace R := vs_lower R hg1 hp
  have HD := Lib.hid (valid_draw hv (by omega))
  have hl1 : 1 ≤ l.length ∧ l.length ≤ 6 := by have := hv.1; omega
  clear hs1 hg1 hv
  obtain ⟨o3, c3, hv⟩ := row_slice R.2.2.1
  subst hv
  go_wp2_with fail
  refine (next_any _ _ _ _ _ _ (by omega) R.1).mono ?_
  rintro e w3 ⟨t, rfl, t0, t1, hs, hg, hz⟩
  have t2 : t < 24 := by omega
  replace R := vs_next R hs hg
  clear hs hg hz t1
  by_cases h0 : t = 0
  · subst h0
    go_wp2_with (at_builtin; refine wpList_append_own _ rfl (.tmp 12) (.tmp 13) 26 rfl w.heap.size 2 i0 (.int .i64 0) 1 8 Try.underlying26 HI.out HZ0.out HZ1.out HZ2.out rfl (by decide) _ _ _ rfl (R.2.2.1.alloc _) ⟨w3.heap.size, 0, none⟩ 1 1 [.int .i64 0] rfl rfl ?c1 ?c2 ?c3 ?c4 ?c5 ?_)
    case c1 => first | exact news_one _ _ _ | simp [Addr.add]
    case c2 => first | exact one_one _ | rfl
    case c3 => unfold maxLen; omega
    case c4 => omega
    case c5 => have := R.2.1.size; first | omega | (simp; omega)
    intro v' w7 hown hgrow _
    obtain ⟨oo, cc, hvv⟩ := row_slice hown
    subst hvv
    have R4 := vs_app R hown hgrow
    clear hown hgrow
    have HR4 := Lib.hid R4
    clear R R4
    go_wp2_with fail
    go_ret
    exact ⟨_, l ++ [0], rfl, HR4.out, by simp; omega, fun x hx => by rcases List.mem_append.1 hx with hx | hx; exact HD.out.2 x hx; (simp at hx; omega)⟩
  · have h0' : (t == 0) = false := by simpa using h0
    by_cases h1 : t = 1
    · subst h1
      clear h0
      rcases row_shape R.2.2.1 with ⟨hz, _⟩ | ⟨_, g, c, hgc, hbg, hgl⟩
      · omega
      · injection hgc with e1 _ e2
        subst e1 e2
        go_wp2_with fail
        refine (pick_new [1000000, 1000001, -1000000] 2 3 o len cap p w3 R.1 (by simp) (by simp)).mono ?_
        rintro e w6 ⟨y, rfl, hy, hs6, hg6⟩
        have hyb : -1000001 ≤ y ∧ y ≤ 1000001 := by simp at hy; omega
        replace R := vs_next R hs6 hg6
        clear hs6 hg6 hy
        have c0 := int_at R.2.2.1 rfl (k := 0) (by omega)
        have f0 := int_frozen R.2.2.1 rfl 0
        have hlp : (0 : Int) < (l.length : Int) := by omega
        have HR4 := Lib.hid (vs_set R rfl hbg y (k := 0))
        clear R
        go_wp2_with fail
        go_ret
        exact ⟨_, l.set 0 y, rfl, HR4.out, draw_set HD.out hyb⟩
    · have h1' : (t == 1) = false := by simpa using h1
      by_cases h2 : t = 2
      · subst h2
        clear h0 h1
        go_wp2_with fail
        refine (next_any _ _ _ _ _ _ (by omega) R.1).mono ?_
        rintro e w4 ⟨q, rfl, q0, q1, hs, hg, hz⟩
        have q2 : q < 3 := by omega
        replace R := vs_next R hs hg
        clear hs hg hz q1
        have hwq := IntWalk.i64_in (7 + q) (by omega)
        go_wp2_with fail
        refine (l06Valid_any (7 + q) o len cap p w4 (by omega) (by omega) R.1).mono ?_
        rintro e w5 ⟨v, l2, rfl, R5, hv5⟩
        have HR5 := Lib.hid (vs_lower R5 R.2.1 hp)
        have HD5 := Lib.hid (valid_draw hv5 (by omega))
        clear R R5 hv5
        go_wp2_with fail
        go_ret
        exact ⟨_, l2, rfl, HR5.out, HD5.out⟩
      · have h2' : (t == 2) = false := by simpa using h2
        by_cases h3 : t = 3
        · subst h3
          clear h0 h1 h2
          have HR5 := Lib.hid (vs_lower (vs_made R.1) R.2.1 hp)
          clear R
          go_wp2_with fail
          go_ret
          exact ⟨_, [], rfl, HR5.out, by simp, by simp⟩
        · have h3' : (t == 3) = false := by simpa using h3
          clear h0 h1 h2 h3
          have HR5 := Lib.hid R
          clear R
          go_wp2_with fail
          go_ret
          exact ⟨_, l, rfl, HR5.out, HD.out⟩
end Go.Proofs.Ytckpeoadglkbgaa
namespace Go.Proofs.Ytckpeoadglkbgaa
open Go.RowKit
set_option linter.unusedVariables false
set_option linter.unusedSimpArgs false
set_option maxRecDepth 20000
/-- a ring and a polynomial, drawn -/
def RingPolyP (o : Option Addr) (len cap q : Nat) (w : World) (e : Ending) (w' : World) : Prop :=
  ∃ (p n : Int) (v : Value) (l : List Int), e = .returned (.tuple #[.agg #[.int .i64 p, .int .i64 n], v]) ∧ VS o len cap q w w' v l ∧ l.length ≤ 1000
theorem seen_grown11 {A B : World} {q g n c : Nat} {l : List Int} (h : Seen A (some ⟨g, 0, none⟩) n c l) (hg : A.grownBy B (some q)) (hq : q ≠ g) (hlt : g < A.heap.size) : Seen B (some ⟨g, 0, none⟩) n c l := by
  obtain ⟨hl, hn, ho, hnc, g', h1, h2⟩ := h
  by_cases h0 : 0 < n
  · obtain ⟨e, h3⟩ := h1 h0
    injection e with e
    injection e with e
    subst e
    refine ⟨hl, hn, ho, hnc, g, fun _ => ⟨rfl, by have := hg.size; omega⟩, fun k hk => ?_⟩
    rw [World.cell?_of_block (w := A) (a := ⟨g, k, none⟩) (hg.block g hlt (by simp; omega))]; exact h2 k hk
  · exact ⟨hl, hn, ho, hnc, g, fun h => absurd h h0, fun k hk => absurd hk (by omega)⟩
theorem seen_three12 (w : World) (x y z : Int) (T : TypeId) : Seen (w.alloc (.cells #[.int .i64 x, .int .i64 y, .int .i64 z] T)) (some ⟨w.heap.size, 0, none⟩) 3 3 [x, y, z] := by
  refine ⟨rfl, by omega, (fun h => by cases h), Nat.le_refl _, w.heap.size, fun _ => ⟨rfl, by simp⟩, fun k hk => ?_⟩
  have : k = 0 ∨ k = 1 ∨ k = 2 := by omega
  rcases this with rfl | rfl | rfl
  · rw [World.cell?_alloc_new]; rfl
  · rw [World.cell?_alloc_new]; rfl
  · rw [World.cell?_alloc_new]; rfl
theorem poly_two11 {x : Int} (h : -1000 ≤ x ∧ x ≤ 1000) : polyB [x, 1] = true := by
  simp [polyB, cofB, lastB, inB]; omega
theorem poly_three11 {x y : Int} (h : -1000 ≤ x ∧ x ≤ 1000) (h2 : -1000 ≤ y ∧ y ≤ 1000) : polyB [x, y, 1] = true := by
  simp [polyB, cofB, lastB, inB]; omega
set_option maxHeartbeats 4000000 in
theorem l11Draw_any (o : Option Addr) (len cap q : Nat) (w : World) (hs : Src w o len cap q) :
    Calls Try.prog 46 #[.pointer (some ⟨q, 0, none⟩)] w (RingPolyP o len cap q w) := by
  have hq := src_lt hs
  have HS0 := Lib.hid (src_alloc hs (.cells #[.int .i64 0, .int .i64 0] 25))
  have HG0 := Lib.hid (World.grownBy_alloc w (.cells #[.int .i64 0, .int .i64 0] 25) (some q))
  clear hs
  go_enter Try.func46, Try.ntmps46
  go_wp2_with fail
  refine (ringDraw_any o len cap q _ HS0.out).mono ?_
  rintro e w1 ⟨p, n, rfl, hp1, hp2, hn1, hn2, hs1, hg1⟩
  have hz1 := hg1.size
  have hz0 : (w.alloc (.cells #[.int .i64 0, .int .i64 0] 25)).heap.size = w.heap.size + 1 := by simp
  have HRB := Lib.hid (show w1.heap[w.heap.size]? = (w.alloc (.cells #[.int .i64 0, .int .i64 0] 25)).heap[w.heap.size]? from hg1.block _ (by simp) (by simp; omega))
  have HGA := Lib.hid (grownBy_tr HG0.out hg1)
  obtain ⟨W1, hW1⟩ : ∃ W1, w1.alloc (.cells #[.int .i64 p, .int .i64 n] 25) = W1 := ⟨_, rfl⟩
  have hzW : W1.heap.size = w1.heap.size + 1 := by rw [← hW1]; simp
  have HS1 := Lib.hid (show Src W1 o len cap q by rw [← hW1]; exact src_alloc hs1 _)
  have HGB := Lib.hid (show w.grownBy W1 (some q) by rw [← hW1]; exact grownBy_tr HGA.out (World.grownBy_alloc w1 _ _))
  have HRA := Lib.hid (show RingAt W1 w1.heap.size p n by rw [← hW1]; exact World.alloc_heap_new w1 _)
  have HRC := Lib.hid (show W1.heap[w.heap.size]? = (w.alloc (.cells #[.int .i64 0, .int .i64 0] 25)).heap[w.heap.size]? by rw [← hW1, block_alloc _ (by omega)]; exact HRB.out)
  clear hs1 hg1 HRB HGA
  go_wp2_with fail
  refine (l06Draw_any o len cap q W1 HS1.out).mono ?_
  rintro e w2 ⟨v, l, rfl, R, hD⟩
  obtain ⟨o2, c2, rfl⟩ := row_slice R.2.2.1
  have HDL := Lib.hid hD.1
  clear hD
  go_wp2_with fail
  refine (next_any _ _ _ _ _ _ (by omega) R.1).mono ?_
  rintro e w3 ⟨t, rfl, t0, t1, hs3, hg3, hz3⟩
  replace R := vs_next R hs3 hg3
  clear hs3 hg3 hz3 t1
  by_cases h0 : t = 0
  · subst h0
    go_wp2_with fail
    refine (next_any _ _ _ _ _ _ (by omega) R.1).mono ?_
    rintro e w4 ⟨r1, rfl, r10, r11, hs4, hg4, hz4⟩
    replace R := vs_next R hs4 hg4
    have r12 : r1 < 13 := by omega
    have ww1 : IntKind.i64.wrap (r1 - 6) = r1 - 6 := IntWalk.i64_in _ (by omega)
    clear hs4 hg4 hz4 r11
    go_wp2_with fail
    refine (next_any _ _ _ _ _ _ (by omega) (src_alloc R.1 _)).mono ?_
    rintro e w5 ⟨r2, rfl, r20, r21, hs5, hg5, hz5⟩
    have r22 : r2 < 13 := by omega
    have ww2 : IntKind.i64.wrap (r2 - 6) = r2 - 6 := IntWalk.i64_in _ (by omega)
    have HS5 := Lib.hid hs5
    have HG5 := Lib.hid hg5
    clear hs5 hg5 hz5 r21
    go_wp2_with fail
    refine (next_any _ _ _ _ _ _ (by omega) HS5.out).mono ?_
    rintro e w6 ⟨r3, rfl, r30, r31, hs6, hg6, hz6⟩
    have r32 : r3 < 5 := by omega
    have ww3 : IntKind.i64.wrap (r3 - 2) = r3 - 2 := IntWalk.i64_in _ (by omega)
    have HG6 := Lib.hid (grownBy_tr HG5.out hg6)
    have HS6 := Lib.hid hs6
    have hq4 : q < w4.heap.size := by have := R.2.1.size; omega
    have HA2 := Lib.hid (seen_grown11 (seen_two11 w4 (r1 - 6) 1 2) HG6.out (by omega) (by simp))
    clear hs6 hg6 hz6 r31 HG5 HS5
    go_wp2_with fail
    refine (l06Mul_any (seen_al HA2.out _) (seen_three12 w6 (r2 - 6) (r3 - 2) 1 2) (poly_two11 (by omega)) (poly_three11 (by omega) (by omega))).mono ?_
    rintro e WZ ⟨v7, rfl, hr7, hb7⟩
    obtain ⟨o7, c7, rfl⟩ := row_slice hr7
    have hlm : (trimL (mulL [r1 - 6, 1] [r2 - 6, r3 - 2, 1])).length ≤ 1000 := by
      rw [trimL_length]
      have := trimN_le (mulL [r1 - 6, 1] [r2 - 6, r3 - 2, 1]) (mulL [r1 - 6, 1] [r2 - 6, r3 - 2, 1]).length
      have e : (mulL [r1 - 6, 1] [r2 - 6, r3 - 2, 1]).length = 4 := by simp [mulL, tabL]
      omega
    obtain ⟨l7, hl7⟩ : ∃ l7, trimL (mulL [r1 - 6, 1] [r2 - 6, r3 - 2, 1]) = l7 := ⟨_, rfl⟩
    rw [hl7] at hr7 hlm
    rw [hl7]
    clear hl7
    have hgz : W1.grownBy WZ (some q) := grownBy_tr (grownBy_tr (grownBy_tr R.2.1 (World.grownBy_alloc w4 _ (some q))) HG6.out) (grownBy_tr (World.grownBy_alloc w6 _ (some q)) (grown_below hb7))
    have hsz : Src WZ o len cap q := src_below (src_alloc HS6.out _) hb7 (by have := src_lt HS6.out; simp; omega)
    replace R : VS o len cap q W1 WZ (.slice o7 l7.length c7) l7 := ⟨hsz, hgz, intRow_lower hr7 (by have := R.2.1.size; have := HG6.out.size; simp at *; omega), R.2.2.2⟩
    clear hgz hsz hr7 hb7 HA2 HG6 HS6
    have hblk : ∀ k, k < W1.heap.size → k ≠ q → WZ.heap[k]? = W1.heap[k]? := fun k hk hne => R.2.1.block k hk (by simpa using hne)
    obtain ⟨c0, c1⟩ := ringAt_cells ((hblk w1.heap.size (by omega) (by omega)).trans HRA.out)
    obtain ⟨d0, d1, f0, f1⟩ := ring_block ((hblk w.heap.size (by omega) (by omega)).trans HRC.out)
    have HRR := Lib.hid R
    clear R hblk
    go_wp2_with fail
    refine bodyPost_ret (v := .tuple #[.agg #[.int .i64 p, .int .i64 n], .slice o7 l7.length c7]) (by simp [results, Try.results46, go_sem, d0, d1]) rfl ?_
    exact ⟨p, n, _, l7, rfl, ⟨src_set (src_set HRR.out.1 hq) hq, grown_set (grown_set (grownBy_tr HGB.out HRR.out.2.1) (Nat.le_refl _)) (Nat.le_refl _), intRow_lower (row_set11 (row_set11 HRR.out.2.2.1 (by show w.heap.size < W1.heap.size; omega) _) (by show w.heap.size < W1.heap.size; omega) _) (by omega), hq⟩, hlm⟩
  · have h0' : (t == 0) = false := by simpa using h0
    obtain ⟨WZ, hWZ⟩ : ∃ WZ, w3 = WZ := ⟨_, rfl⟩
    subst hWZ
    have hblk : ∀ k, k < W1.heap.size → k ≠ q → w3.heap[k]? = W1.heap[k]? := fun k hk hne => R.2.1.block k hk (by simpa using hne)
    obtain ⟨c0, c1⟩ := ringAt_cells ((hblk w1.heap.size (by omega) (by omega)).trans HRA.out)
    obtain ⟨d0, d1, f0, f1⟩ := ring_block ((hblk w.heap.size (by omega) (by omega)).trans HRC.out)
    have HRR := Lib.hid R
    clear R hblk
    go_wp2_with fail
    refine bodyPost_ret (v := .tuple #[.agg #[.int .i64 p, .int .i64 n], .slice o2 l.length c2]) (by simp [results, Try.results46, go_sem, d0, d1]) rfl ?_
    exact ⟨p, n, _, l, rfl, ⟨src_set (src_set HRR.out.1 hq) hq, grown_set (grown_set (grownBy_tr HGB.out HRR.out.2.1) (Nat.le_refl _)) (Nat.le_refl _), intRow_lower (row_set11 (row_set11 HRR.out.2.2.1 (by show w.heap.size < W1.heap.size; omega) _) (by show w.heap.size < W1.heap.size; omega) _) (by omega), hq⟩, by have := HDL.out; omega⟩
end Go.Proofs.Ytckpeoadglkbgaa
namespace Go.Proofs.Ytckpeoadglkbgaa
open Go.RowKit
set_option linter.unusedVariables false
set_option linter.unusedSimpArgs false
set_option maxRecDepth 20000
def RLPost (w : World) (e : Ending) (w' : World) : Prop := ∃ (p n : Int) (v : Value) (l : List Int), e = .returned (.tuple #[.agg #[.int .i64 p, .int .i64 n], v]) ∧ IntRow w.heap.size w' v l ∧ l.length ≤ 1000 ∧ Below w.heap.size w w'
def RLNPost (w : World) (e : Ending) (w' : World) : Prop := ∃ (p n a : Int) (v : Value) (l : List Int), e = .returned (.tuple #[.agg #[.int .i64 p, .int .i64 n], v, .int .i64 a]) ∧ IntRow w.heap.size w' v l ∧ l.length ≤ 1000 ∧ Below w.heap.size w w'
set_option maxHeartbeats 1000000 in
theorem drawSimpleR_any (o : Option Addr) (len cap : Nat) (w : World) (hl : len ≤ 4096) (hc : CodeIn w o len) :
    Calls Try.prog 17 #[.slice o len cap] w (RLPost w) := by
  have HC := Lib.hid (codeIn_below (B := w.heap.size) hc ((Below.refl _ _).alloc (Nat.le_refl _) (.cells #[.int .i64 0, .int .i64 0] 25)))
  clear hc
  go_enter Try.func17, Try.ntmps17
  go_wp2_with fail
  refine (from_any _ _ _ _ hl HC.out).mono ?_
  rintro e w1 ⟨q, rfl, hq, hs1, hb1⟩
  have M1 := Lib.hid (mid_first hq hs1 hb1)
  clear hq hs1 hb1
  go_wp2_with fail
  refine (l11Draw_any o len cap q _ M1.out.2.1).mono ?_
  rintro e w2 ⟨p, n, v, l, rfl, R, hl2⟩
  obtain ⟨o2, c2, rfl⟩ := row_slice R.2.2.1
  have hlt := M1.out.2.2.2.1
  have M2 := Lib.hid (mid_next M1.out R.1 R.2.1)
  obtain ⟨d0, d1, f0, f1⟩ := ring_block M2.out.2.2.2.2
  have HR := Lib.hid R.2.2.1
  clear R
  go_wp2_with fail
  refine bodyPost_ret (v := .tuple #[.agg #[.int .i64 p, .int .i64 n], .slice o2 l.length c2]) (by simp [results, Try.results17, go_sem, d0, d1]) rfl ?_
  exact ⟨p, n, _, l, rfl, intRow_lower (row_set11 (row_set11 HR.out (by show w.heap.size < w1.heap.size; omega) _) (by show w.heap.size < w1.heap.size; omega) _) (by omega), hl2, (M2.out.2.2.1.setCell (Nat.le_refl _) _).setCell (Nat.le_refl _) _⟩
set_option maxHeartbeats 2000000 in
theorem drawValueR_any (o : Option Addr) (len cap : Nat) (w : World) (hl : len ≤ 4096) (hc : CodeIn w o len) :
    Calls Try.prog 37 #[.slice o len cap] w (RLNPost w) := by
  have HC := Lib.hid (codeIn_below (B := w.heap.size) hc ((Below.refl _ _).alloc (Nat.le_refl _) (.cells #[.int .i64 0, .int .i64 0] 25)))
  clear hc
  go_enter Try.func37, Try.ntmps37
  go_wp2_with fail
  refine (from_any _ _ _ _ hl HC.out).mono ?_
  rintro e w1 ⟨q, rfl, hq, hs1, hb1⟩
  have M1 := Lib.hid (mid_first hq hs1 hb1)
  clear hq hs1 hb1
  go_wp2_with fail
  refine (l11Draw_any o len cap q _ M1.out.2.1).mono ?_
  rintro e w2 ⟨p, n, v, l, rfl, R, hl2⟩
  obtain ⟨o2, c2, rfl⟩ := row_slice R.2.2.1
  have hlt := M1.out.2.2.2.1
  have M2 := Lib.hid (mid_alloc (mid_next M1.out R.1 R.2.1) (.cells #[.int .i64 p, .int .i64 n] 25))
  have hq2 := src_lt R.1
  have hq1 := R.2.2.2
  have HQ2 := Lib.hid hq2
  have HR := Lib.hid (show IntRow w1.heap.size (w2.alloc (.cells #[.int .i64 p, .int .i64 n] 25)) _ l from World.ownsRow.alloc R.2.2.1 _)
  have hz2 := R.2.1.size
  clear R hq2
  have HL2 := Lib.hid (show w.heap.size < w2.heap.size by omega)
  go_wp2_with fail
  go_region_with (go_at_call 75; refine (resDraw_any o len cap q p n (World.drew _) (src_drewN M2.out.2.1 1)).mono ?_; rintro e w3 ⟨a, rfl, hs3, hg3⟩; have M3 := mid_next (mid_drewN M2.out 1) hs3 hg3; have R3 := intRow_draw6 (w := (w2.alloc (.cells #[.int .i64 p, .int .i64 n] 25)).drew) HR.out hg3 hq1; obtain ⟨d0, d1, f0, f1⟩ := ring_block M3.2.2.2.2; obtain ⟨x0, x1, g0, g1⟩ := ring_block (w := w2) (hg3.block w2.heap.size (by have := M2.out.2.2.2.1; simp) (by have := HQ2.out; simp; omega)))
  all_goals go_wp2_with fail
  all_goals (refine bodyPost_ret (v := .tuple #[.agg #[.int .i64 p, .int .i64 n], .slice o2 l.length c2, .int .i64 a]) (by simp [results, Try.results37, go_sem, d0, d1, Act.put]) (by simp [Act.put]) ?_)
  all_goals exact ⟨p, n, a, _, l, rfl, intRow_lower (row_set11 (row_set11 R3 (by show w.heap.size < w1.heap.size; omega) _) (by show w.heap.size < w1.heap.size; omega) _) (by omega), hl2, (M3.2.2.1.setCell (Nat.le_refl _) _).setCell (Nat.le_refl _) _⟩
set_option maxHeartbeats 1000000 in
theorem drawNewton_any (o : Option Addr) (len cap : Nat) (w : World) (hl : len ≤ 4096) (hc : CodeIn w o len) :
    Calls Try.prog 20 #[.slice o len cap] w (RLNPost w) := by
  have hb0 := (Below.refl w.heap.size w).alloc (Nat.le_refl _) (.cells #[.int .i64 0, .int .i64 0] 25)
  have HC := Lib.hid (codeIn_below (B := w.heap.size) hc hb0)
  have HB0 := Lib.hid hb0
  clear hc hb0
  go_enter Try.func20, Try.ntmps20
  go_wp2_with fail
  refine (drawValueR_any o len cap _ hl HC.out).mono ?_
  rintro e w2 ⟨p, n, a, v, l, rfl, R, hl2, hb⟩
  obtain ⟨o2, c2, rfl⟩ := row_slice R
  have hz : (w.alloc (.cells #[.int .i64 0, .int .i64 0] 25)).heap.size = w.heap.size + 1 := by simp
  obtain ⟨d0, d1, f0, f1⟩ := ring_block (hb.block w.heap.size (by omega))
  have HR := Lib.hid R
  have HB := Lib.hid (HB0.out.trans (hb.mono (by omega)))
  clear R hb
  go_wp2_with fail
  refine bodyPost_ret (v := .tuple #[.agg #[.int .i64 p, .int .i64 n], .slice o2 l.length c2, .int .i64 a]) (by simp [results, Try.results20, go_sem, d0, d1]) rfl ?_
  exact ⟨p, n, a, _, l, rfl, intRow_lower (row_set11 (row_set11 HR.out (by show w.heap.size < (World.alloc _ _).heap.size; omega) _) (by show w.heap.size < (World.alloc _ _).heap.size; omega) _) (by omega), hl2, (HB.out.setCell (Nat.le_refl _) _).setCell (Nat.le_refl _) _⟩
end Go.Proofs.Ytckpeoadglkbgaa
namespace Go.Proofs.Ytckpeoadglkbgaa
open Go.RowKit
set_option linter.unusedVariables false
set_option linter.unusedSimpArgs false
set_option maxRecDepth 20000
section
variable {P : Program} {ops : Array Oper} {Q : Exit → Act → World → Prop} {md : Region.Mode} {S : World → Prop}
theorem take_at13 {i d : Nat} {oi : Oper} {v : Value} {fuel : Nat} {listed : Array Bool} {a : Act} {w : World} (hi : ops[i]? = some oi) (hd : oi.dst = some d)
    (hs : Region.noSelect ops = true) (hf : Region.free md ops listed i = true) (hr : (Region.ready md ops listed).contains i = true)
    (hQ : ∀ c a w, Q (.panic c) (a.put oi.dst v) w → Q (.panic c) a w) (hy : YieldsIf P ops S oi v a) (hS : S w)
    (h : wpAnyH P md ops Q S fuel (listed.setIfInBounds i true) (a.put (some d) v) w) : wpAnyH P md ops Q S (fuel + 1) listed a w :=
  wpAnyH_take hi hs hf hr hQ hy hS (by rw [hd]; exact h)
end
/-- what loads need while operations draw their order: the ring's variable and a row -/
def LS (w1 w2 : World) (p n : Int) (v : Value) (l : List Int) (W : World) : Prop := RingAt W w2.heap.size p n ∧ IntRow w1.heap.size W v l
theorem ringAt_draw {A B : World} {b q : Nat} {p n : Int} (h : RingAt A b p n) (hg : A.grownBy B (some q)) (hq : q < b) : RingAt B b p n := (hg.block b (ringAt_lt h) (by simp; omega)).trans h
theorem ringAt_drew {A : World} {b : Nat} {p n : Int} (h : RingAt A b p n) : RingAt A.drew b p n := h
theorem intRow_drew {A : World} {b : Nat} {v : Value} {l : List Int} (h : IntRow b A v l) : IntRow b A.drew v l := h
theorem ls_draw {w1 w2 A B : World} {q : Nat} {p n : Int} {v : Value} {l : List Int} (h : LS w1 w2 p n v l A) (hg : A.grownBy B (some q)) (h1 : q < w1.heap.size) (h2 : q < w2.heap.size) : LS w1 w2 p n v l B := ⟨ringAt_draw h.1 hg h2, intRow_draw6 h.2 hg h1⟩
theorem ls_alloc {w1 w2 A : World} {p n : Int} {v : Value} {l : List Int} (h : LS w1 w2 p n v l A) (ob : Obj) : LS w1 w2 p n v l (A.alloc ob) := ⟨ringAt_below h.1 ((Below.refl _ _).alloc (Nat.le_refl _) ob), World.ownsRow.alloc h.2 ob⟩
theorem ls_set {w1 w2 A : World} {k i : Nat} {p n : Int} {v : Value} {l : List Int} (h : LS w1 w2 p n v l A) (h2 : k < w2.heap.size) (h1 : k < w1.heap.size) (x : Value) : LS w1 w2 p n v l (A.setCell ⟨k, i, none⟩ x) := ⟨ringAt_set h.1 (by show w2.heap.size ≠ k; omega) x, row_set11 h.2 (by show k < w1.heap.size; omega) x⟩
theorem row_some {b c : Nat} {o : Option Addr} {w : World} {l : List Int} (h : IntRow b w (.slice o l.length c) l) (h0 : 0 < l.length) : ∃ g, o = some ⟨g, 0, none⟩ := by
  rcases h.2 with ⟨_, hn⟩ | ⟨g, cap, cur, e, _⟩
  · omega
  · injection e with e1 e2 e3; exact ⟨g, e1⟩
theorem rootsN_len11 (p : Int) (f : List Int) : ∀ k : Nat, (rootsN p f k).length ≤ k
  | 0 => by simp [rootsN]
  | k + 1 => by
    have := rootsN_len11 p f k
    rw [rootsN, List.length_append]
    split <;> simp <;> omega
set_option maxHeartbeats 8000000 in
theorem drawLiftR_any (o : Option Addr) (len cap : Nat) (w : World) (hl : len ≤ 4096) (hc : CodeIn w o len) :
    Calls Try.prog 14 #[.slice o len cap] w (RLNPost w) := by
  have HC := Lib.hid (codeIn_below (B := w.heap.size) hc ((Below.refl _ _).alloc (Nat.le_refl _) (.cells #[.int .i64 0, .int .i64 0] 25)))
  clear hc
  go_enter Try.func14, Try.ntmps14
  go_wp2_with fail
  refine (from_any _ _ _ _ hl HC.out).mono ?_
  rintro e w1 ⟨q, rfl, hq, hs1, hb1⟩
  have M1 := Lib.hid (mid_first hq hs1 hb1)
  clear hq hs1 hb1
  go_wp2_with fail
  refine (l11Draw_any o len cap q _ M1.out.2.1).mono ?_
  rintro e w2 ⟨p, n, v, l, rfl, R, hl2⟩
  obtain ⟨o2, c2, rfl⟩ := row_slice R.2.2.1
  have HW1 := Lib.hid M1.out.2.2.2.1
  have HQ1 := Lib.hid R.2.2.2
  have HQ2 := Lib.hid (src_lt R.1)
  have hz2 := R.2.1.size
  have HWL := Lib.hid (show w.heap.size < w2.heap.size by have := HW1.out; omega)
  obtain ⟨WX, hWX⟩ : ∃ WX, w2.alloc (.cells #[.int .i64 p, .int .i64 n] 25) = WX := ⟨_, rfl⟩
  have MX := Lib.hid (show Mid o len cap q w WX by rw [← hWX]; exact mid_alloc (mid_next M1.out R.1 R.2.1) _)
  have RAX := Lib.hid (show RingAt WX w2.heap.size p n by rw [← hWX]; exact World.alloc_heap_new w2 _)
  have RWX := Lib.hid (show IntRow w1.heap.size WX (.slice o2 l.length c2) l by rw [← hWX]; exact World.ownsRow.alloc R.2.2.1 _)
  clear R M1
  by_cases h0 : ringM p n = 0
  · have hd := ringB_f h0
    obtain ⟨c0, c1⟩ := ringAt_cells RAX.out
    clear h0
    go_wp2_with (go_at_call 47; refine (specIsRing_any _ _ _).mono ?_; rintro e wn ⟨rfl, hb⟩)
    clear hWX c0 c1
    have MN := Lib.hid (mid_next MX.out (src_below MX.out.2.1 hb (src_lt MX.out.2.1)) (grown_below hb))
    have RAN := Lib.hid (ringAt_below RAX.out hb)
    have RWN := Lib.hid (row_below RWX.out hb (Nat.le_refl _))
    clear MX RAX RWX
    have MX := MN
    have RAX := RAN
    have RWX := RWN
    clear MN RAN RWN
    clear hb
    have MN := Lib.hid (mid_drewN MX.out 1)
    have RAN := Lib.hid (ringAt_drew RAX.out)
    have RWN := Lib.hid (intRow_drew RWX.out)
    clear MX RAX RWX
    have MX := MN
    have RAX := RAN
    have RWX := RWN
    clear MN RAN RWN
    refine wp_region_held_drew (S := LS w1 w2 p n (.slice o2 l.length c2) l) (by kernel_rfl) ⟨RAX.out, RWX.out⟩ (fun hHeld => ?_)
    refine take_at13 (i := 0) (d := 46) (v := .agg #[.int .i64 p, .int .i64 n]) rfl rfl (by kernel_rfl) (by kernel_rfl) (by kernel_rfl) (fun _ _ _ h => h) (Or.inl ⟨by rfl, ?_⟩) hHeld ?_
    · intro w' hS; obtain ⟨hra, hrw⟩ := hS; obtain ⟨k0, k1⟩ := ringAt_cells hra; go_simp
    try simp only [Act.put, List.setIfInBounds_toArray, List.set_cons_zero, List.set_cons_succ]
    refine take_at13 (i := 1) (d := 47) (v := .slice o2 l.length c2) rfl rfl (by kernel_rfl) (by kernel_rfl) (by kernel_rfl) (fun _ _ _ h => h) (Or.inl ⟨by rfl, ?_⟩) hHeld ?_
    · intro w' hS; go_simp
    try simp only [Act.put, List.setIfInBounds_toArray, List.set_cons_zero, List.set_cons_succ]
    refine take_at13 (i := 2) (d := 48) (v := .pointer (some ⟨q, 0, none⟩)) rfl rfl (by kernel_rfl) (by kernel_rfl) (by kernel_rfl) (fun _ _ _ h => h) (Or.inl ⟨by rfl, ?_⟩) hHeld ?_
    · intro w' hS; go_simp
    try simp only [Act.put, List.setIfInBounds_toArray, List.set_cons_zero, List.set_cons_succ]
    refine take_at13 (i := 3) (d := 49) (v := .pointer (some ⟨q, 0, none⟩)) rfl rfl (by kernel_rfl) (by kernel_rfl) (by kernel_rfl) (fun _ _ _ h => h) (Or.inl ⟨by rfl, ?_⟩) hHeld ?_
    · intro w' hS; go_simp
    try simp only [Act.put, List.setIfInBounds_toArray, List.set_cons_zero, List.set_cons_succ]
    refine take_at13 (i := 5) (d := 51) (v := .pointer (some ⟨w2.heap.size, 0, none⟩)) rfl rfl (by kernel_rfl) (by kernel_rfl) (by kernel_rfl) (fun _ _ _ h => h) (Or.inl ⟨by rfl, ?_⟩) hHeld ?_
    · intro w' hS; go_simp
    try simp only [Act.put, List.setIfInBounds_toArray, List.set_cons_zero, List.set_cons_succ]
    refine take_at13 (i := 6) (d := 52) (v := .int .i64 p) rfl rfl (by kernel_rfl) (by kernel_rfl) (by kernel_rfl) (fun _ _ _ h => h) (Or.inl ⟨by rfl, ?_⟩) hHeld ?_
    · intro w' hS; obtain ⟨hra, hrw⟩ := hS; obtain ⟨k0, k1⟩ := ringAt_cells hra; go_simp
    try simp only [Act.put, List.setIfInBounds_toArray, List.set_cons_zero, List.set_cons_succ]
    refine wpAnyH_ready (rs := [4]) (by kernel_rfl) (by simp) ?_
    refine AllReadyH.cons rfl (fun K hK => ?_) AllReadyH.nil
    go_simp
    go_at_call 49; refine (next_any _ _ _ _ _ _ (by omega) MX.out.2.1).mono ?_; rintro e w8 ⟨r8, rfl, r80, r81, hs8, hg8, hz8⟩; clear hz8
    go_simp
    refine hK.out _ _ (ls_draw hHeld hg8 HQ1.out (by have := HQ2.out; omega)) (fun hHeld => ?_)
    clear hK K
    try simp only [Act.put, List.setIfInBounds_toArray, List.set_cons_zero, List.set_cons_succ]
    have MN := Lib.hid (mid_next MX.out hs8 hg8)
    have RAN := Lib.hid (ringAt_draw RAX.out hg8 (by have := HQ2.out; omega))
    have RWN := Lib.hid (intRow_draw6 RWX.out hg8 HQ1.out)
    clear MX RAX RWX
    have MX := MN
    have RAX := RAN
    have RWX := RWN
    clear MN RAN RWN
    refine wpAnyH_ready (rs := [7]) (by kernel_rfl) (by simp) ?_
    refine AllReadyH.cons rfl (fun K hK => ?_) AllReadyH.nil
    go_simp
    refine hK.out _ _ (ls_alloc hHeld _) (fun hHeld => ?_)
    clear hK K
    try simp only [Act.put, List.setIfInBounds_toArray, List.set_cons_zero, List.set_cons_succ]
    refine wpAnyH_ready (rs := [8]) (by kernel_rfl) (by simp) ?_
    refine AllReadyH.cons rfl (fun K hK => ?_) AllReadyH.nil
    go_simp
    go_at_call 52
    have HPK := pick_new [r8, p, -1] 2 3 o len cap q w8 hs8 (by simp) (by simp)
    simp only [List.map_cons, List.map_nil, List.length_cons, List.length_nil] at HPK
    refine HPK.mono ?_
    clear HPK
    rintro e w9 ⟨a, rfl, ha, hs9, hg9⟩
    go_simp
    refine hK.out _ _ (ls_draw ⟨RAX.out, RWX.out⟩ hg9 HQ1.out (by have := HQ2.out; omega)) (fun hHeld => ?_)
    clear hK K
    try simp only [Act.put, List.setIfInBounds_toArray, List.set_cons_zero, List.set_cons_succ]
    have MN := Lib.hid (mid_next MX.out hs9 hg9)
    have RAN := Lib.hid (ringAt_draw RAX.out hg9 (by have := HQ2.out; omega))
    have RWN := Lib.hid (intRow_draw6 RWX.out hg9 HQ1.out)
    clear MX RAX RWX
    have MX := MN
    have RAX := RAN
    have RWX := RWN
    clear MN RAN RWN
    clear hs8 hg8 hs9 hg9 ha
    obtain ⟨d0, d1, f0, f1⟩ := ring_block MX.out.2.2.2.2
    refine wpAnyH_ready (rs := [9]) (by kernel_rfl) (by simp) ?_
    refine AllReadyH.cons rfl (fun K hK => ?_) AllReadyH.nil
    go_simp
    refine hK.out _ _ (ls_set (ls_set hHeld HWL.out HW1.out _) HWL.out HW1.out _) (fun hHeld => ?_)
    clear hK K
    try simp only [Act.put, List.setIfInBounds_toArray, List.set_cons_zero, List.set_cons_succ]
    refine take_at13 (i := 10) (d := 3) (v := .slice o2 l.length c2) rfl rfl (by kernel_rfl) (by kernel_rfl) (by kernel_rfl) (fun _ _ _ h => h) (Or.inl ⟨by rfl, ?_⟩) hHeld ?_
    · intro w' hS; go_simp
    try simp only [Act.put, List.setIfInBounds_toArray, List.set_cons_zero, List.set_cons_succ]
    refine take_at13 (i := 11) (d := 4) (v := .int .i64 a) rfl rfl (by kernel_rfl) (by kernel_rfl) (by kernel_rfl) (fun _ _ _ h => h) (Or.inl ⟨by rfl, ?_⟩) hHeld ?_
    · intro w' hS; go_simp
    try simp only [Act.put, List.setIfInBounds_toArray, List.set_cons_zero, List.set_cons_succ]
    refine wpAnyH_done (by kernel_rfl) ?_ _
    clear hHeld
    go_wp2_with fail
    refine bodyPost_ret (v := .tuple #[.agg #[.int .i64 p, .int .i64 n], .slice o2 l.length c2, .int .i64 a]) (by simp [results, Try.results14, go_sem, d0, d1, Act.put]) (by first | rfl | simp [Act.put]) ?_
    exact ⟨p, n, a, _, l, rfl, intRow_lower (row_set11 (row_set11 RWX.out (by show w.heap.size < w1.heap.size; exact HW1.out) _) (by show w.heap.size < w1.heap.size; exact HW1.out) _) (Nat.le_of_lt HW1.out), hl2, (MX.out.2.2.1.setCell (Nat.le_refl _) _).setCell (Nat.le_refl _) _⟩
  have hd := ringB_t h0
  obtain ⟨hp2, hp97, _, _, hm1, hm2, _⟩ := ringM_bd h0
  obtain ⟨c0, c1⟩ := ringAt_cells RAX.out
  clear h0
  cases hp : polyB l
  · go_wp2_with (first | (go_at_call 47; refine (specIsRing_any _ _ _).mono ?_; rintro e wn ⟨rfl, hb⟩) | (go_at_call 48; refine (specIsPoly_any (row_seen (row_below RWX.out hb (Nat.le_refl _)) (by omega))).mono ?_; rw [hp]; rintro e w2' ⟨rfl, rfl⟩))
    clear hWX c0 c1
    have MN := Lib.hid (mid_next MX.out (src_below MX.out.2.1 hb (src_lt MX.out.2.1)) (grown_below hb))
    have RAN := Lib.hid (ringAt_below RAX.out hb)
    have RWN := Lib.hid (row_below RWX.out hb (Nat.le_refl _))
    clear MX RAX RWX
    have MX := MN
    have RAX := RAN
    have RWX := RWN
    clear MN RAN RWN
    clear hb
    have MN := Lib.hid (mid_drewN MX.out 1)
    have RAN := Lib.hid (ringAt_drew RAX.out)
    have RWN := Lib.hid (intRow_drew RWX.out)
    clear MX RAX RWX
    have MX := MN
    have RAX := RAN
    have RWX := RWN
    clear MN RAN RWN
    refine wp_region_held_drew (S := LS w1 w2 p n (.slice o2 l.length c2) l) (by kernel_rfl) ⟨RAX.out, RWX.out⟩ (fun hHeld => ?_)
    refine take_at13 (i := 0) (d := 46) (v := .agg #[.int .i64 p, .int .i64 n]) rfl rfl (by kernel_rfl) (by kernel_rfl) (by kernel_rfl) (fun _ _ _ h => h) (Or.inl ⟨by rfl, ?_⟩) hHeld ?_
    · intro w' hS; obtain ⟨hra, hrw⟩ := hS; obtain ⟨k0, k1⟩ := ringAt_cells hra; go_simp
    try simp only [Act.put, List.setIfInBounds_toArray, List.set_cons_zero, List.set_cons_succ]
    refine take_at13 (i := 1) (d := 47) (v := .slice o2 l.length c2) rfl rfl (by kernel_rfl) (by kernel_rfl) (by kernel_rfl) (fun _ _ _ h => h) (Or.inl ⟨by rfl, ?_⟩) hHeld ?_
    · intro w' hS; go_simp
    try simp only [Act.put, List.setIfInBounds_toArray, List.set_cons_zero, List.set_cons_succ]
    refine take_at13 (i := 2) (d := 48) (v := .pointer (some ⟨q, 0, none⟩)) rfl rfl (by kernel_rfl) (by kernel_rfl) (by kernel_rfl) (fun _ _ _ h => h) (Or.inl ⟨by rfl, ?_⟩) hHeld ?_
    · intro w' hS; go_simp
    try simp only [Act.put, List.setIfInBounds_toArray, List.set_cons_zero, List.set_cons_succ]
    refine take_at13 (i := 3) (d := 49) (v := .pointer (some ⟨q, 0, none⟩)) rfl rfl (by kernel_rfl) (by kernel_rfl) (by kernel_rfl) (fun _ _ _ h => h) (Or.inl ⟨by rfl, ?_⟩) hHeld ?_
    · intro w' hS; go_simp
    try simp only [Act.put, List.setIfInBounds_toArray, List.set_cons_zero, List.set_cons_succ]
    refine take_at13 (i := 5) (d := 51) (v := .pointer (some ⟨w2.heap.size, 0, none⟩)) rfl rfl (by kernel_rfl) (by kernel_rfl) (by kernel_rfl) (fun _ _ _ h => h) (Or.inl ⟨by rfl, ?_⟩) hHeld ?_
    · intro w' hS; go_simp
    try simp only [Act.put, List.setIfInBounds_toArray, List.set_cons_zero, List.set_cons_succ]
    refine take_at13 (i := 6) (d := 52) (v := .int .i64 p) rfl rfl (by kernel_rfl) (by kernel_rfl) (by kernel_rfl) (fun _ _ _ h => h) (Or.inl ⟨by rfl, ?_⟩) hHeld ?_
    · intro w' hS; obtain ⟨hra, hrw⟩ := hS; obtain ⟨k0, k1⟩ := ringAt_cells hra; go_simp
    try simp only [Act.put, List.setIfInBounds_toArray, List.set_cons_zero, List.set_cons_succ]
    refine wpAnyH_ready (rs := [4]) (by kernel_rfl) (by simp) ?_
    refine AllReadyH.cons rfl (fun K hK => ?_) AllReadyH.nil
    go_simp
    go_at_call 49; refine (next_any _ _ _ _ _ _ (by omega) MX.out.2.1).mono ?_; rintro e w8 ⟨r8, rfl, r80, r81, hs8, hg8, hz8⟩; clear hz8
    go_simp
    refine hK.out _ _ (ls_draw hHeld hg8 HQ1.out (by have := HQ2.out; omega)) (fun hHeld => ?_)
    clear hK K
    try simp only [Act.put, List.setIfInBounds_toArray, List.set_cons_zero, List.set_cons_succ]
    have MN := Lib.hid (mid_next MX.out hs8 hg8)
    have RAN := Lib.hid (ringAt_draw RAX.out hg8 (by have := HQ2.out; omega))
    have RWN := Lib.hid (intRow_draw6 RWX.out hg8 HQ1.out)
    clear MX RAX RWX
    have MX := MN
    have RAX := RAN
    have RWX := RWN
    clear MN RAN RWN
    refine wpAnyH_ready (rs := [7]) (by kernel_rfl) (by simp) ?_
    refine AllReadyH.cons rfl (fun K hK => ?_) AllReadyH.nil
    go_simp
    refine hK.out _ _ (ls_alloc hHeld _) (fun hHeld => ?_)
    clear hK K
    try simp only [Act.put, List.setIfInBounds_toArray, List.set_cons_zero, List.set_cons_succ]
    refine wpAnyH_ready (rs := [8]) (by kernel_rfl) (by simp) ?_
    refine AllReadyH.cons rfl (fun K hK => ?_) AllReadyH.nil
    go_simp
    go_at_call 52
    have HPK := pick_new [r8, p, -1] 2 3 o len cap q w8 hs8 (by simp) (by simp)
    simp only [List.map_cons, List.map_nil, List.length_cons, List.length_nil] at HPK
    refine HPK.mono ?_
    clear HPK
    rintro e w9 ⟨a, rfl, ha, hs9, hg9⟩
    go_simp
    refine hK.out _ _ (ls_draw ⟨RAX.out, RWX.out⟩ hg9 HQ1.out (by have := HQ2.out; omega)) (fun hHeld => ?_)
    clear hK K
    try simp only [Act.put, List.setIfInBounds_toArray, List.set_cons_zero, List.set_cons_succ]
    have MN := Lib.hid (mid_next MX.out hs9 hg9)
    have RAN := Lib.hid (ringAt_draw RAX.out hg9 (by have := HQ2.out; omega))
    have RWN := Lib.hid (intRow_draw6 RWX.out hg9 HQ1.out)
    clear MX RAX RWX
    have MX := MN
    have RAX := RAN
    have RWX := RWN
    clear MN RAN RWN
    clear hs8 hg8 hs9 hg9 ha
    obtain ⟨d0, d1, f0, f1⟩ := ring_block MX.out.2.2.2.2
    refine wpAnyH_ready (rs := [9]) (by kernel_rfl) (by simp) ?_
    refine AllReadyH.cons rfl (fun K hK => ?_) AllReadyH.nil
    go_simp
    refine hK.out _ _ (ls_set (ls_set hHeld HWL.out HW1.out _) HWL.out HW1.out _) (fun hHeld => ?_)
    clear hK K
    try simp only [Act.put, List.setIfInBounds_toArray, List.set_cons_zero, List.set_cons_succ]
    refine take_at13 (i := 10) (d := 3) (v := .slice o2 l.length c2) rfl rfl (by kernel_rfl) (by kernel_rfl) (by kernel_rfl) (fun _ _ _ h => h) (Or.inl ⟨by rfl, ?_⟩) hHeld ?_
    · intro w' hS; go_simp
    try simp only [Act.put, List.setIfInBounds_toArray, List.set_cons_zero, List.set_cons_succ]
    refine take_at13 (i := 11) (d := 4) (v := .int .i64 a) rfl rfl (by kernel_rfl) (by kernel_rfl) (by kernel_rfl) (fun _ _ _ h => h) (Or.inl ⟨by rfl, ?_⟩) hHeld ?_
    · intro w' hS; go_simp
    try simp only [Act.put, List.setIfInBounds_toArray, List.set_cons_zero, List.set_cons_succ]
    refine wpAnyH_done (by kernel_rfl) ?_ _
    clear hHeld
    go_wp2_with fail
    refine bodyPost_ret (v := .tuple #[.agg #[.int .i64 p, .int .i64 n], .slice o2 l.length c2, .int .i64 a]) (by simp [results, Try.results14, go_sem, d0, d1, Act.put]) (by first | rfl | simp [Act.put]) ?_
    exact ⟨p, n, a, _, l, rfl, intRow_lower (row_set11 (row_set11 RWX.out (by show w.heap.size < w1.heap.size; exact HW1.out) _) (by show w.heap.size < w1.heap.size; exact HW1.out) _) (Nat.le_of_lt HW1.out), hl2, (MX.out.2.2.1.setCell (Nat.le_refl _) _).setCell (Nat.le_refl _) _⟩
  go_wp2_with (first | (go_at_call 47; refine (specIsRing_any _ _ _).mono ?_; rintro e wn ⟨rfl, hb⟩) | (go_at_call 48; refine (specIsPoly_any (row_seen (row_below RWX.out hb (Nat.le_refl _)) (by omega))).mono ?_; rw [hp]; rintro e w2' ⟨rfl, rfl⟩))
  clear hWX c0 c1
  have MN := Lib.hid (mid_next MX.out (src_below MX.out.2.1 hb (src_lt MX.out.2.1)) (grown_below hb))
  have RAN := Lib.hid (ringAt_below RAX.out hb)
  have RWN := Lib.hid (row_below RWX.out hb (Nat.le_refl _))
  clear MX RAX RWX
  have MX := MN
  have RAX := RAN
  have RWX := RWN
  clear MN RAN RWN
  clear hb
  refine (next_any _ _ _ _ _ _ (by omega) MX.out.2.1).mono ?_
  rintro e w4 ⟨t, rfl, t0, t1, hs4, hg4, hz4⟩
  have MN := Lib.hid (mid_next MX.out hs4 hg4)
  have RAN := Lib.hid (ringAt_draw RAX.out hg4 (by have := HQ2.out; omega))
  have RWN := Lib.hid (intRow_draw6 RWX.out hg4 HQ1.out)
  clear MX RAX RWX
  have MX := MN
  have RAX := RAN
  have RWX := RWN
  clear MN RAN RWN
  clear hs4 hg4 hz4 t1
  by_cases ht : t = 0
  · subst ht
    go_wp2_with fail
    have MN := Lib.hid (mid_drewN MX.out 1)
    have RAN := Lib.hid (ringAt_drew RAX.out)
    have RWN := Lib.hid (intRow_drew RWX.out)
    clear MX RAX RWX
    have MX := MN
    have RAX := RAN
    have RWX := RWN
    clear MN RAN RWN
    refine wp_region_held_drew (S := LS w1 w2 p n (.slice o2 l.length c2) l) (by kernel_rfl) ⟨RAX.out, RWX.out⟩ (fun hHeld => ?_)
    refine take_at13 (i := 0) (d := 46) (v := .agg #[.int .i64 p, .int .i64 n]) rfl rfl (by kernel_rfl) (by kernel_rfl) (by kernel_rfl) (fun _ _ _ h => h) (Or.inl ⟨by rfl, ?_⟩) hHeld ?_
    · intro w' hS; obtain ⟨hra, hrw⟩ := hS; obtain ⟨k0, k1⟩ := ringAt_cells hra; go_simp
    try simp only [Act.put, List.setIfInBounds_toArray, List.set_cons_zero, List.set_cons_succ]
    refine take_at13 (i := 1) (d := 47) (v := .slice o2 l.length c2) rfl rfl (by kernel_rfl) (by kernel_rfl) (by kernel_rfl) (fun _ _ _ h => h) (Or.inl ⟨by rfl, ?_⟩) hHeld ?_
    · intro w' hS; go_simp
    try simp only [Act.put, List.setIfInBounds_toArray, List.set_cons_zero, List.set_cons_succ]
    refine take_at13 (i := 2) (d := 48) (v := .pointer (some ⟨q, 0, none⟩)) rfl rfl (by kernel_rfl) (by kernel_rfl) (by kernel_rfl) (fun _ _ _ h => h) (Or.inl ⟨by rfl, ?_⟩) hHeld ?_
    · intro w' hS; go_simp
    try simp only [Act.put, List.setIfInBounds_toArray, List.set_cons_zero, List.set_cons_succ]
    refine take_at13 (i := 3) (d := 49) (v := .pointer (some ⟨q, 0, none⟩)) rfl rfl (by kernel_rfl) (by kernel_rfl) (by kernel_rfl) (fun _ _ _ h => h) (Or.inl ⟨by rfl, ?_⟩) hHeld ?_
    · intro w' hS; go_simp
    try simp only [Act.put, List.setIfInBounds_toArray, List.set_cons_zero, List.set_cons_succ]
    refine take_at13 (i := 5) (d := 51) (v := .pointer (some ⟨w2.heap.size, 0, none⟩)) rfl rfl (by kernel_rfl) (by kernel_rfl) (by kernel_rfl) (fun _ _ _ h => h) (Or.inl ⟨by rfl, ?_⟩) hHeld ?_
    · intro w' hS; go_simp
    try simp only [Act.put, List.setIfInBounds_toArray, List.set_cons_zero, List.set_cons_succ]
    refine take_at13 (i := 6) (d := 52) (v := .int .i64 p) rfl rfl (by kernel_rfl) (by kernel_rfl) (by kernel_rfl) (fun _ _ _ h => h) (Or.inl ⟨by rfl, ?_⟩) hHeld ?_
    · intro w' hS; obtain ⟨hra, hrw⟩ := hS; obtain ⟨k0, k1⟩ := ringAt_cells hra; go_simp
    try simp only [Act.put, List.setIfInBounds_toArray, List.set_cons_zero, List.set_cons_succ]
    refine wpAnyH_ready (rs := [4]) (by kernel_rfl) (by simp) ?_
    refine AllReadyH.cons rfl (fun K hK => ?_) AllReadyH.nil
    go_simp
    go_at_call 49; refine (next_any _ _ _ _ _ _ (by omega) MX.out.2.1).mono ?_; rintro e w8 ⟨r8, rfl, r80, r81, hs8, hg8, hz8⟩; clear hz8
    go_simp
    refine hK.out _ _ (ls_draw hHeld hg8 HQ1.out (by have := HQ2.out; omega)) (fun hHeld => ?_)
    clear hK K
    try simp only [Act.put, List.setIfInBounds_toArray, List.set_cons_zero, List.set_cons_succ]
    have MN := Lib.hid (mid_next MX.out hs8 hg8)
    have RAN := Lib.hid (ringAt_draw RAX.out hg8 (by have := HQ2.out; omega))
    have RWN := Lib.hid (intRow_draw6 RWX.out hg8 HQ1.out)
    clear MX RAX RWX
    have MX := MN
    have RAX := RAN
    have RWX := RWN
    clear MN RAN RWN
    refine wpAnyH_ready (rs := [7]) (by kernel_rfl) (by simp) ?_
    refine AllReadyH.cons rfl (fun K hK => ?_) AllReadyH.nil
    go_simp
    refine hK.out _ _ (ls_alloc hHeld _) (fun hHeld => ?_)
    clear hK K
    try simp only [Act.put, List.setIfInBounds_toArray, List.set_cons_zero, List.set_cons_succ]
    refine wpAnyH_ready (rs := [8]) (by kernel_rfl) (by simp) ?_
    refine AllReadyH.cons rfl (fun K hK => ?_) AllReadyH.nil
    go_simp
    go_at_call 52
    have HPK := pick_new [r8, p, -1] 2 3 o len cap q w8 hs8 (by simp) (by simp)
    simp only [List.map_cons, List.map_nil, List.length_cons, List.length_nil] at HPK
    refine HPK.mono ?_
    clear HPK
    rintro e w9 ⟨a, rfl, ha, hs9, hg9⟩
    go_simp
    refine hK.out _ _ (ls_draw ⟨RAX.out, RWX.out⟩ hg9 HQ1.out (by have := HQ2.out; omega)) (fun hHeld => ?_)
    clear hK K
    try simp only [Act.put, List.setIfInBounds_toArray, List.set_cons_zero, List.set_cons_succ]
    have MN := Lib.hid (mid_next MX.out hs9 hg9)
    have RAN := Lib.hid (ringAt_draw RAX.out hg9 (by have := HQ2.out; omega))
    have RWN := Lib.hid (intRow_draw6 RWX.out hg9 HQ1.out)
    clear MX RAX RWX
    have MX := MN
    have RAX := RAN
    have RWX := RWN
    clear MN RAN RWN
    clear hs8 hg8 hs9 hg9 ha
    obtain ⟨d0, d1, f0, f1⟩ := ring_block MX.out.2.2.2.2
    refine wpAnyH_ready (rs := [9]) (by kernel_rfl) (by simp) ?_
    refine AllReadyH.cons rfl (fun K hK => ?_) AllReadyH.nil
    go_simp
    refine hK.out _ _ (ls_set (ls_set hHeld HWL.out HW1.out _) HWL.out HW1.out _) (fun hHeld => ?_)
    clear hK K
    try simp only [Act.put, List.setIfInBounds_toArray, List.set_cons_zero, List.set_cons_succ]
    refine take_at13 (i := 10) (d := 3) (v := .slice o2 l.length c2) rfl rfl (by kernel_rfl) (by kernel_rfl) (by kernel_rfl) (fun _ _ _ h => h) (Or.inl ⟨by rfl, ?_⟩) hHeld ?_
    · intro w' hS; go_simp
    try simp only [Act.put, List.setIfInBounds_toArray, List.set_cons_zero, List.set_cons_succ]
    refine take_at13 (i := 11) (d := 4) (v := .int .i64 a) rfl rfl (by kernel_rfl) (by kernel_rfl) (by kernel_rfl) (fun _ _ _ h => h) (Or.inl ⟨by rfl, ?_⟩) hHeld ?_
    · intro w' hS; go_simp
    try simp only [Act.put, List.setIfInBounds_toArray, List.set_cons_zero, List.set_cons_succ]
    refine wpAnyH_done (by kernel_rfl) ?_ _
    clear hHeld
    go_wp2_with fail
    refine bodyPost_ret (v := .tuple #[.agg #[.int .i64 p, .int .i64 n], .slice o2 l.length c2, .int .i64 a]) (by simp [results, Try.results14, go_sem, d0, d1, Act.put]) (by first | rfl | simp [Act.put]) ?_
    exact ⟨p, n, a, _, l, rfl, intRow_lower (row_set11 (row_set11 RWX.out (by show w.heap.size < w1.heap.size; exact HW1.out) _) (by show w.heap.size < w1.heap.size; exact HW1.out) _) (Nat.le_of_lt HW1.out), hl2, (MX.out.2.2.1.setCell (Nat.le_refl _) _).setCell (Nat.le_refl _) _⟩
  have htp : 0 < t := by omega
  clear ht
  go_wp2_with fail
  have hst : Below w4.heap.size w4 w4.drew ∧ w4.drew.cell? ⟨w2.heap.size, 0, none⟩ = some (.int .i64 p) ∧ w4.drew.cell? ⟨w2.heap.size, 1, none⟩ = some (.int .i64 n) := ⟨below_drewN (Below.refl _ _) 1, (ringAt_cells RAX.out).1, (ringAt_cells RAX.out).2⟩
  have HRD := Lib.hid fun (W : World) (hw : Below w4.heap.size w4 W) => l08Reduce_any p hp2 hp97 (row_seen (row_below RWX.out hw (Nat.le_refl _)) (show l.length ≤ 1100000 by omega)) (by omega)
  have hrm : ModP p (redL p l) := redL_mod (by omega) l
  have hrd : (redL p l).length ≤ 1100000 := Nat.le_trans (redL_le p l) (by omega)
  have HW4 := Lib.hid (show w1.heap.size ≤ w4.heap.size by have := ringAt_lt RAX.out; omega)
  go_region_held3 (fun W' => Below w4.heap.size w4 W' ∧ W'.cell? ⟨w2.heap.size, 0, none⟩ = some (.int .i64 p) ∧ W'.cell? ⟨w2.heap.size, 1, none⟩ = some (.int .i64 n)) (first | exact hst | exact keep11 ‹_› hq1 | exact keep11 ‹_› hq2 | assumption)
    (first | (go_at_call 51; refine (HRD.out _ (And.left ‹_›)).mono ?_; rintro e w5 ⟨v5, rfl, hr5, hq1⟩; obtain ⟨o6, c6, rfl, HS6⟩ := seen_row hr5 hrd) | (go_at_call 50; refine (l08Roots_any p hp2 hp97 HS6 hrm).mono ?_; rintro e w6 ⟨v6, rfl, hr6, hq2⟩))
  obtain ⟨hb5, _, _⟩ := ‹Below w4.heap.size w4 w6 ∧ _›
  have HB5 := Lib.hid hb5
  obtain ⟨rl, hrl0⟩ : ∃ rl, rootsN p (redL p l) p.toNat = rl := ⟨_, rfl⟩
  rw [hrl0] at hr6
  obtain ⟨o5, c5, rfl⟩ := row_slice hr6
  have hrll : rl.length ≤ 1000 := by rw [← hrl0]; exact Nat.le_trans (rootsN_len11 p (redL p l) p.toNat) (by omega)
  have RL5 := Lib.hid (show IntRow w1.heap.size w6 (.slice o5 rl.length c5) rl from intRow_lower hr6 (by have := HW4.out; have h7 : w4.heap.size ≤ w5.heap.size := hq1.size; omega))
  clear hb5 hr6 hst hq1 hq2 hr5 HS6 hrl0
  have MN := Lib.hid (mid_next MX.out (src_below MX.out.2.1 HB5.out (src_lt MX.out.2.1)) (grown_below HB5.out))
  have RAN := Lib.hid (ringAt_below RAX.out HB5.out)
  have RWN := Lib.hid (row_below RWX.out HB5.out (Nat.le_refl _))
  clear MX RAX RWX
  have MX := MN
  have RAX := RAN
  have RWX := RWN
  clear MN RAN RWN
  by_cases hrz : rl.length = 0
  · have hrz' : ¬ (0 : Int) < (rl.length : Int) := by omega
    go_wp2_with fail
    have MN := Lib.hid (mid_drewN MX.out 1)
    have RAN := Lib.hid (ringAt_drew RAX.out)
    have RWN := Lib.hid (intRow_drew RWX.out)
    clear MX RAX RWX
    have MX := MN
    have RAX := RAN
    have RWX := RWN
    clear MN RAN RWN
    refine wp_region_held_drew (S := LS w1 w2 p n (.slice o2 l.length c2) l) (by kernel_rfl) ⟨RAX.out, RWX.out⟩ (fun hHeld => ?_)
    refine take_at13 (i := 0) (d := 46) (v := .agg #[.int .i64 p, .int .i64 n]) rfl rfl (by kernel_rfl) (by kernel_rfl) (by kernel_rfl) (fun _ _ _ h => h) (Or.inl ⟨by rfl, ?_⟩) hHeld ?_
    · intro w' hS; obtain ⟨hra, hrw⟩ := hS; obtain ⟨k0, k1⟩ := ringAt_cells hra; go_simp
    try simp only [Act.put, List.setIfInBounds_toArray, List.set_cons_zero, List.set_cons_succ]
    refine take_at13 (i := 1) (d := 47) (v := .slice o2 l.length c2) rfl rfl (by kernel_rfl) (by kernel_rfl) (by kernel_rfl) (fun _ _ _ h => h) (Or.inl ⟨by rfl, ?_⟩) hHeld ?_
    · intro w' hS; go_simp
    try simp only [Act.put, List.setIfInBounds_toArray, List.set_cons_zero, List.set_cons_succ]
    refine take_at13 (i := 2) (d := 48) (v := .pointer (some ⟨q, 0, none⟩)) rfl rfl (by kernel_rfl) (by kernel_rfl) (by kernel_rfl) (fun _ _ _ h => h) (Or.inl ⟨by rfl, ?_⟩) hHeld ?_
    · intro w' hS; go_simp
    try simp only [Act.put, List.setIfInBounds_toArray, List.set_cons_zero, List.set_cons_succ]
    refine take_at13 (i := 3) (d := 49) (v := .pointer (some ⟨q, 0, none⟩)) rfl rfl (by kernel_rfl) (by kernel_rfl) (by kernel_rfl) (fun _ _ _ h => h) (Or.inl ⟨by rfl, ?_⟩) hHeld ?_
    · intro w' hS; go_simp
    try simp only [Act.put, List.setIfInBounds_toArray, List.set_cons_zero, List.set_cons_succ]
    refine take_at13 (i := 5) (d := 51) (v := .pointer (some ⟨w2.heap.size, 0, none⟩)) rfl rfl (by kernel_rfl) (by kernel_rfl) (by kernel_rfl) (fun _ _ _ h => h) (Or.inl ⟨by rfl, ?_⟩) hHeld ?_
    · intro w' hS; go_simp
    try simp only [Act.put, List.setIfInBounds_toArray, List.set_cons_zero, List.set_cons_succ]
    refine take_at13 (i := 6) (d := 52) (v := .int .i64 p) rfl rfl (by kernel_rfl) (by kernel_rfl) (by kernel_rfl) (fun _ _ _ h => h) (Or.inl ⟨by rfl, ?_⟩) hHeld ?_
    · intro w' hS; obtain ⟨hra, hrw⟩ := hS; obtain ⟨k0, k1⟩ := ringAt_cells hra; go_simp
    try simp only [Act.put, List.setIfInBounds_toArray, List.set_cons_zero, List.set_cons_succ]
    refine wpAnyH_ready (rs := [4]) (by kernel_rfl) (by simp) ?_
    refine AllReadyH.cons rfl (fun K hK => ?_) AllReadyH.nil
    go_simp
    go_at_call 49; refine (next_any _ _ _ _ _ _ (by omega) MX.out.2.1).mono ?_; rintro e w8 ⟨r8, rfl, r80, r81, hs8, hg8, hz8⟩; clear hz8
    go_simp
    refine hK.out _ _ (ls_draw hHeld hg8 HQ1.out (by have := HQ2.out; omega)) (fun hHeld => ?_)
    clear hK K
    try simp only [Act.put, List.setIfInBounds_toArray, List.set_cons_zero, List.set_cons_succ]
    have MN := Lib.hid (mid_next MX.out hs8 hg8)
    have RAN := Lib.hid (ringAt_draw RAX.out hg8 (by have := HQ2.out; omega))
    have RWN := Lib.hid (intRow_draw6 RWX.out hg8 HQ1.out)
    clear MX RAX RWX
    have MX := MN
    have RAX := RAN
    have RWX := RWN
    clear MN RAN RWN
    refine wpAnyH_ready (rs := [7]) (by kernel_rfl) (by simp) ?_
    refine AllReadyH.cons rfl (fun K hK => ?_) AllReadyH.nil
    go_simp
    refine hK.out _ _ (ls_alloc hHeld _) (fun hHeld => ?_)
    clear hK K
    try simp only [Act.put, List.setIfInBounds_toArray, List.set_cons_zero, List.set_cons_succ]
    refine wpAnyH_ready (rs := [8]) (by kernel_rfl) (by simp) ?_
    refine AllReadyH.cons rfl (fun K hK => ?_) AllReadyH.nil
    go_simp
    go_at_call 52
    have HPK := pick_new [r8, p, -1] 2 3 o len cap q w8 hs8 (by simp) (by simp)
    simp only [List.map_cons, List.map_nil, List.length_cons, List.length_nil] at HPK
    refine HPK.mono ?_
    clear HPK
    rintro e w9 ⟨a, rfl, ha, hs9, hg9⟩
    go_simp
    refine hK.out _ _ (ls_draw ⟨RAX.out, RWX.out⟩ hg9 HQ1.out (by have := HQ2.out; omega)) (fun hHeld => ?_)
    clear hK K
    try simp only [Act.put, List.setIfInBounds_toArray, List.set_cons_zero, List.set_cons_succ]
    have MN := Lib.hid (mid_next MX.out hs9 hg9)
    have RAN := Lib.hid (ringAt_draw RAX.out hg9 (by have := HQ2.out; omega))
    have RWN := Lib.hid (intRow_draw6 RWX.out hg9 HQ1.out)
    clear MX RAX RWX
    have MX := MN
    have RAX := RAN
    have RWX := RWN
    clear MN RAN RWN
    clear hs8 hg8 hs9 hg9 ha
    obtain ⟨d0, d1, f0, f1⟩ := ring_block MX.out.2.2.2.2
    refine wpAnyH_ready (rs := [9]) (by kernel_rfl) (by simp) ?_
    refine AllReadyH.cons rfl (fun K hK => ?_) AllReadyH.nil
    go_simp
    refine hK.out _ _ (ls_set (ls_set hHeld HWL.out HW1.out _) HWL.out HW1.out _) (fun hHeld => ?_)
    clear hK K
    try simp only [Act.put, List.setIfInBounds_toArray, List.set_cons_zero, List.set_cons_succ]
    refine take_at13 (i := 10) (d := 3) (v := .slice o2 l.length c2) rfl rfl (by kernel_rfl) (by kernel_rfl) (by kernel_rfl) (fun _ _ _ h => h) (Or.inl ⟨by rfl, ?_⟩) hHeld ?_
    · intro w' hS; go_simp
    try simp only [Act.put, List.setIfInBounds_toArray, List.set_cons_zero, List.set_cons_succ]
    refine take_at13 (i := 11) (d := 4) (v := .int .i64 a) rfl rfl (by kernel_rfl) (by kernel_rfl) (by kernel_rfl) (fun _ _ _ h => h) (Or.inl ⟨by rfl, ?_⟩) hHeld ?_
    · intro w' hS; go_simp
    try simp only [Act.put, List.setIfInBounds_toArray, List.set_cons_zero, List.set_cons_succ]
    refine wpAnyH_done (by kernel_rfl) ?_ _
    clear hHeld
    go_wp2_with fail
    refine bodyPost_ret (v := .tuple #[.agg #[.int .i64 p, .int .i64 n], .slice o2 l.length c2, .int .i64 a]) (by simp [results, Try.results14, go_sem, d0, d1, Act.put]) (by first | rfl | simp [Act.put]) ?_
    exact ⟨p, n, a, _, l, rfl, intRow_lower (row_set11 (row_set11 RWX.out (by show w.heap.size < w1.heap.size; exact HW1.out) _) (by show w.heap.size < w1.heap.size; exact HW1.out) _) (Nat.le_of_lt HW1.out), hl2, (MX.out.2.2.1.setCell (Nat.le_refl _) _).setCell (Nat.le_refl _) _⟩
  have hrz' : (0 : Int) < (rl.length : Int) := by omega
  go_wp2_with fail
  have MN := Lib.hid (mid_drewN MX.out 1)
  have RAN := Lib.hid (ringAt_drew RAX.out)
  have RWN := Lib.hid (intRow_drew RWX.out)
  clear MX RAX RWX
  have MX := MN
  have RAX := RAN
  have RWX := RWN
  clear MN RAN RWN
  refine wp_region_held_drew (S := LS w1 w2 p n (.slice o5 rl.length c5) rl) (by kernel_rfl) ⟨RAX.out, intRow_drew RL5.out⟩ (fun hHeld => ?_)
  refine take_at13 (i := 0) (d := 37) (v := .agg #[.int .i64 p, .int .i64 n]) rfl rfl (by kernel_rfl) (by kernel_rfl) (by kernel_rfl) (fun _ _ _ h => h) (Or.inl ⟨by rfl, ?_⟩) hHeld ?_
  · intro w' hS; obtain ⟨hra, hrw⟩ := hS; obtain ⟨k0, k1⟩ := ringAt_cells hra; go_simp
  try simp only [Act.put, List.setIfInBounds_toArray, List.set_cons_zero, List.set_cons_succ]
  refine take_at13 (i := 1) (d := 38) (v := .slice o2 l.length c2) rfl rfl (by kernel_rfl) (by kernel_rfl) (by kernel_rfl) (fun _ _ _ h => h) (Or.inl ⟨by rfl, ?_⟩) hHeld ?_
  · intro w' hS; go_simp
  try simp only [Act.put, List.setIfInBounds_toArray, List.set_cons_zero, List.set_cons_succ]
  refine take_at13 (i := 2) (d := 39) (v := .slice o5 rl.length c5) rfl rfl (by kernel_rfl) (by kernel_rfl) (by kernel_rfl) (fun _ _ _ h => h) (Or.inl ⟨by rfl, ?_⟩) hHeld ?_
  · intro w' hS; go_simp
  try simp only [Act.put, List.setIfInBounds_toArray, List.set_cons_zero, List.set_cons_succ]
  refine take_at13 (i := 3) (d := 40) (v := .pointer (some ⟨q, 0, none⟩)) rfl rfl (by kernel_rfl) (by kernel_rfl) (by kernel_rfl) (fun _ _ _ h => h) (Or.inl ⟨by rfl, ?_⟩) hHeld ?_
  · intro w' hS; go_simp
  try simp only [Act.put, List.setIfInBounds_toArray, List.set_cons_zero, List.set_cons_succ]
  refine take_at13 (i := 4) (d := 41) (v := .slice o5 rl.length c5) rfl rfl (by kernel_rfl) (by kernel_rfl) (by kernel_rfl) (fun _ _ _ h => h) (Or.inl ⟨by rfl, ?_⟩) hHeld ?_
  · intro w' hS; go_simp
  try simp only [Act.put, List.setIfInBounds_toArray, List.set_cons_zero, List.set_cons_succ]
  refine take_at13 (i := 5) (d := 42) (v := .int .i64 (rl.length : Int)) rfl rfl (by kernel_rfl) (by kernel_rfl) (by kernel_rfl) (fun _ _ _ h => h) (Or.inl ⟨by rfl, ?_⟩) hHeld ?_
  · intro w' hS; go_simp
  try simp only [Act.put, List.setIfInBounds_toArray, List.set_cons_zero, List.set_cons_succ]
  refine wpAnyH_ready (rs := [6]) (by kernel_rfl) (by simp) ?_
  refine AllReadyH.cons rfl (fun K hK => ?_) AllReadyH.nil
  go_simp
  go_at_call 49; refine (next_any _ _ _ _ _ _ (by omega) MX.out.2.1).mono ?_; rintro e w8 ⟨r8, rfl, r80, r81, hs8, hg8, hz8⟩; clear hz8
  go_simp
  refine hK.out _ _ (ls_draw hHeld hg8 HQ1.out (by have := HQ2.out; omega)) (fun hHeld => ?_)
  clear hK K
  try simp only [Act.put, List.setIfInBounds_toArray, List.set_cons_zero, List.set_cons_succ]
  have MN := Lib.hid (mid_next MX.out hs8 hg8)
  have RAN := Lib.hid (ringAt_draw RAX.out hg8 (by have := HQ2.out; omega))
  have RWN := Lib.hid (intRow_draw6 RWX.out hg8 HQ1.out)
  clear MX RAX RWX
  have MX := MN
  have RAX := RAN
  have RWX := RWN
  clear MN RAN RWN
  obtain ⟨R8, hR8⟩ : ∃ R8 : Nat, r8 = R8 := ⟨r8.toNat, by omega⟩
  subst hR8
  have hrl : R8 < rl.length := by omega
  have hrl' : (R8 : Int) < (rl.length : Int) := by omega
  obtain ⟨g5, hg5⟩ := row_some RL5.out (by omega)
  subst hg5
  refine take_at13 (i := 7) (d := 44) (v := .pointer (some ⟨g5, R8, none⟩)) rfl rfl (by kernel_rfl) (by kernel_rfl) (by kernel_rfl) (fun _ _ _ h => h) (Or.inl ⟨by rfl, ?_⟩) hHeld ?_
  · intro w' hS; go_simp
  try simp only [Act.put, List.setIfInBounds_toArray, List.set_cons_zero, List.set_cons_succ]
  obtain ⟨a, hav⟩ : ∃ a, rl.getD R8 0 = a := ⟨_, rfl⟩
  refine take_at13 (i := 8) (d := 45) (v := .int .i64 a) rfl rfl (by kernel_rfl) (by kernel_rfl) (by kernel_rfl) (fun _ _ _ h => h) (Or.inl ⟨by rfl, ?_⟩) hHeld ?_
  · intro w' hS; obtain ⟨hra, hrw⟩ := hS; have k8 := int_at hrw rfl hrl; rw [hav] at k8; go_simp
  try simp only [Act.put, List.setIfInBounds_toArray, List.set_cons_zero, List.set_cons_succ]
  clear hs8 hg8
  obtain ⟨d0, d1, f0, f1⟩ := ring_block MX.out.2.2.2.2
  refine wpAnyH_ready (rs := [9]) (by kernel_rfl) (by simp) ?_
  refine AllReadyH.cons rfl (fun K hK => ?_) AllReadyH.nil
  go_simp
  refine hK.out _ _ (ls_set (ls_set hHeld HWL.out HW1.out _) HWL.out HW1.out _) (fun hHeld => ?_)
  clear hK K
  try simp only [Act.put, List.setIfInBounds_toArray, List.set_cons_zero, List.set_cons_succ]
  refine take_at13 (i := 10) (d := 3) (v := .slice o2 l.length c2) rfl rfl (by kernel_rfl) (by kernel_rfl) (by kernel_rfl) (fun _ _ _ h => h) (Or.inl ⟨by rfl, ?_⟩) hHeld ?_
  · intro w' hS; go_simp
  try simp only [Act.put, List.setIfInBounds_toArray, List.set_cons_zero, List.set_cons_succ]
  refine take_at13 (i := 11) (d := 4) (v := .int .i64 a) rfl rfl (by kernel_rfl) (by kernel_rfl) (by kernel_rfl) (fun _ _ _ h => h) (Or.inl ⟨by rfl, ?_⟩) hHeld ?_
  · intro w' hS; go_simp
  try simp only [Act.put, List.setIfInBounds_toArray, List.set_cons_zero, List.set_cons_succ]
  refine wpAnyH_done (by kernel_rfl) ?_ _
  clear hHeld
  go_wp2_with fail
  refine bodyPost_ret (v := .tuple #[.agg #[.int .i64 p, .int .i64 n], .slice o2 l.length c2, .int .i64 a]) (by simp [results, Try.results14, go_sem, d0, d1, Act.put]) (by first | rfl | simp [Act.put]) ?_
  exact ⟨p, n, a, _, l, rfl, intRow_lower (row_set11 (row_set11 RWX.out (by show w.heap.size < w1.heap.size; exact HW1.out) _) (by show w.heap.size < w1.heap.size; exact HW1.out) _) (Nat.le_of_lt HW1.out), hl2, (MX.out.2.2.1.setCell (Nat.le_refl _) _).setCell (Nat.le_refl _) _⟩
end Go.Proofs.Ytckpeoadglkbgaa
namespace Go.Proofs.Ytckpeoadglkbgaa
open Go.RowKit
set_option linter.unusedVariables false
set_option maxRecDepth 20000
theorem likeInts_nil (o1 o2 : Option Addr) (c1 c2 : Nat) (w : World) :
    Calls Try.prog 23 #[.slice o1 0 c1, .slice o2 0 c2] w fun e w' => e = .returned (.bool true) ∧ w = w' := by
  go_enter Try.func23, Try.ntmps23
  go_wp2
  refine wp_loop_rounds 1 ?_
  rw [rounds_succ]
  go_wp2
  go_ret
  exact ⟨rfl, rfl⟩
set_option maxHeartbeats 400000 in
theorem likeInts_row (g1 g2 n c1 c2 : Nat) (l : List Int) (w : World) (hn : n ≤ 1100000)
    (hc1 : ∀ k, k < n → w.cell? ⟨g1, k, none⟩ = some (.int .i64 (l.getD k 0)))
    (hc2 : ∀ k, k < n → w.cell? ⟨g2, k, none⟩ = some (.int .i64 (l.getD k 0))) :
    Calls Try.prog 23 #[.slice (some ⟨g1, 0, none⟩) n c1, .slice (some ⟨g2, 0, none⟩) n c2] w fun e w' => e = .returned (.bool true) ∧ ∃ m, w' = w.drewN m := by
  have HC1 := Lib.hid hc1
  have HC2 := Lib.hid hc2
  clear hc1 hc2
  go_enter Try.func23, Try.ntmps23
  go_wp2
  go_loopw [5] (fun i wr => ∃ k : Nat, k ≤ n ∧ i = .int .i64 k ∧ ∃ nd, wr = w.drewN nd) (fun i _ => n - (intOf i).toNat)
  case atStart => exact ⟨0, Nat.zero_le _, rfl, 0, rfl⟩
  case round =>
    obtain ⟨k, hk, rfl, nd, rfl⟩ := hrel
    by_cases hlt : k < n
    · have a1 := HC1.out k hlt
      have b1 := HC2.out k hlt
      obtain ⟨x1, e1⟩ : ∃ x, l.getD k 0 = x := ⟨_, rfl⟩
      rw [e1] at a1 b1
      clear e1
      go_wp2
      go_quiet (fail)
      go_wp2
      go_roundw
      case rel => exact ⟨k + 1, by omega, by go_num, nd + nq, by first | rfl | rw [World.drewN_drewN]⟩
      case measure => simp [intOf]; omega
    · go_wp2
      go_ret
      exact ⟨rfl, nd, rfl⟩
theorem likeInts_same {b1 b2 : Nat} {w : World} {v1 v2 : Value} {l : List Int} (h1 : IntRow b1 w v1 l) (h2 : IntRow b2 w v2 l) (hl : l.length ≤ 1100000) :
    Calls Try.prog 23 #[v1, v2] w fun e w' => e = .returned (.bool true) ∧ ∃ m, w' = w.drewN m := by
  rcases row_shape h1 with ⟨h0, o, c, rfl⟩ | ⟨h0, g, c, rfl, hb, hg⟩
  · rcases row_shape h2 with ⟨_, o', c', rfl⟩ | ⟨h0', _⟩
    · exact (likeInts_nil o o' c c' w).mono fun e w' ⟨he, hw⟩ => ⟨he, 0, hw.symm⟩
    · omega
  · rcases row_shape h2 with ⟨h0', _⟩ | ⟨_, g', c', rfl, hb', hg'⟩
    · omega
    · exact likeInts_row g g' l.length c c' l w hl (int_cells h1) (int_cells h2)
end Go.Proofs.Ytckpeoadglkbgaa
namespace Go.Proofs.Ytckpeoadglkbgaa
open Go.RowKit
set_option linter.unusedVariables false
/-- a slice of integers that came in, as the shells have it -/
def IsRowOf (k : IntKind) (w : World) (a : Option Addr) (len cap : Nat) (zs : List Int) : Prop :=
  (a = none ∧ len = 0 ∧ cap = 0 ∧ zs = []) ∨
  ∃ x, a = some x ∧ len ≤ cap ∧ cap ≤ maxLen ∧ zs.length = cap ∧ (∀ i, i < zs.length → w.cell? (x.add i) = some (.int k (zs.getD i 0))) ∧ ∀ n ∈ zs, (Lit.int k n).wf = true
theorem u8_bd {q : Int} (h : (Lit.int .u8 q).wf = true) : 0 ≤ q ∧ q ≤ 255 := by
  simp [Lit.wf, IntKind.min, IntKind.max, IntKind.signed, IntKind.bits] at h
  exact ⟨h.1, by omega⟩
theorem codeIn_of {w : World} {a : Option Addr} {len cap : Nat} {zs : List Int} (h : IsRowOf .u8 w a len cap zs) : CodeIn w a len ∧ len ≤ 9223372036854775807 := by
  rcases h with ⟨_, h, _, _⟩ | ⟨x, rfl, h1, h2, h3, h4, h5⟩
  · exact ⟨.inl h, by omega⟩
  · refine ⟨?_, by unfold maxLen at h2; omega⟩
    by_cases h0 : len = 0
    · exact .inl h0
    · obtain ⟨b, off, rfl, hc⟩ := ints_at h4 (by omega)
      refine .inr ⟨b, off, rfl, World.block_lt_of_cell? w _ (hc 0 (by omega)), fun i hi => ⟨_, hc i (by omega), ?_⟩⟩
      have hm : zs.getD i 0 ∈ zs := by
        have hlt : i < zs.length := by omega
        rw [show zs.getD i 0 = zs[i] by simp [List.getD, hlt]]; exact List.getElem_mem _
      exact u8_bd (h5 _ hm)
theorem gcd_dvd_tmod (a b : Int) (h : Int.gcd a b ≠ 0) : a.tmod (Int.gcd a b) = 0 ∧ b.tmod (Int.gcd a b) = 0 :=
  ⟨Int.tmod_eq_zero_of_dvd (Int.gcd_dvd_left ..), Int.tmod_eq_zero_of_dvd (Int.gcd_dvd_right ..)⟩
end Go.Proofs.Ytckpeoadglkbgaa
namespace Go.Proofs.Ytckpeoadglkbgaa
open Go.RowKit
set_option linter.unusedVariables false
set_option linter.unusedSimpArgs false
theorem ringAt_new (W : World) (p n : Int) : RingAt (W.alloc (.cells #[.int .i64 p, .int .i64 n] 25)) W.heap.size p n := World.alloc_heap_new W _
set_option maxRecDepth 100000 in
set_option maxHeartbeats 4000000 in
theorem lifts_core (o : Option Addr) (len cap : Nat) (w : World) (hl : len ≤ 4096) (hc : CodeIn w o len) :
    Calls Try.prog 3 #[.slice o len cap] w fun e w' => e = .returned (.bool true) ∧ Below w.heap.size w w' := by
  have HC := Lib.hid hc
  have B0 := Lib.hid (Below.refl w.heap.size w)
  clear hc
  go_enter Try.func3, Try.ntmps3
  go_wp2_with fail
  refine (big_no _ _ _ _ hl).mono ?_
  rintro e w' ⟨rfl, rfl⟩
  go_wp2_with fail
  refine (drawLiftR_any o len cap _ hl (codeIn_below (B := 0) HC.out B0.out)).mono ?_
  rintro e W1 ⟨p1, n1, a, v1, f, rfl, r9, hl1, b9⟩
  obtain ⟨o_f, c_f, rfl⟩ := row_slice r9
  have r9a := World.ownsRow.alloc r9 (.cells #[.int .i64 p1, .int .i64 n1] 25)
  have b9a := b9.alloc b9.size (.cells #[.int .i64 p1, .int .i64 n1] 25)
  have g9a := ringAt_new W1 p1 n1
  have B1 := Lib.hid (B0.out.trans (b9a.mono B0.out.size))
  have R_f_1 := Lib.hid r9a
  have G_r_1 := Lib.hid g9a
  clear r9 b9 r9a b9a g9a
  go_wp2_with fail
  refine (implLiftW_any p1 n1 a (row_seen R_f_1.out (show f.length ≤ 1100000 by omega))).mono ?_
  rintro e W2 ⟨rfl, hL, b9⟩
  have B2 := Lib.hid (B1.out.trans (b9.mono B1.out.size))
  have R_f_2 := Lib.hid (row_below R_f_1.out b9 (Nat.le_refl _))
  have G_r_2 := Lib.hid (ringAt_below G_r_1.out b9)
  clear b9
  obtain ⟨r0, r1⟩ := ringAt_cells G_r_2.out
  go_wp2_with fail
  clear r0 r1
  refine (specLiftV_any p1 n1 a (row_seen R_f_2.out (show f.length ≤ 1100000 by omega))).mono ?_
  rintro e W3 ⟨rfl, b9⟩
  have B3 := Lib.hid (B2.out.trans (b9.mono B2.out.size))
  have R_f_3 := Lib.hid (row_below R_f_2.out b9 (Nat.le_refl _))
  have G_r_3 := Lib.hid (ringAt_below G_r_2.out b9)
  clear b9
  have HG := Lib.hid (fun h => lift_good h (hL h))
  clear hL
  have HVI := Lib.hid fun (w : World) (b : Nat) (k : IntRow b w (.slice o_f f.length c_f) f) => implValueIn_any p1 n1 (lifV p1 n1 f a) (row_seen k (show f.length ≤ 1100000 by omega))
  have HNI := Lib.hid fun (w : World) (b : Nat) (k : IntRow b w (.slice o_f f.length c_f) f) => implNewton_any p1 n1 (lifV p1 n1 f a) (row_seen k (show f.length ≤ 1100000 by omega))
  generalize lifV p1 n1 f a = x at *
  generalize lifC p1 n1 f a = bad at *
  go_wp2_with fail
  refine (drawSimpleR_any o len cap _ hl (codeIn_below (B := 0) HC.out B3.out)).mono ?_
  rintro e W4 ⟨p2, n2, v2, g, rfl, r9, hl2, b9⟩
  obtain ⟨o_g, c_g, rfl⟩ := row_slice r9
  have r9a := World.ownsRow.alloc r9 (.cells #[.int .i64 p2, .int .i64 n2] 25)
  have b9a := b9.alloc b9.size (.cells #[.int .i64 p2, .int .i64 n2] 25)
  have g9a := ringAt_new W4 p2 n2
  have B4 := Lib.hid (B3.out.trans (b9a.mono B3.out.size))
  have R_f_4 := Lib.hid (row_below R_f_3.out b9a (Nat.le_refl _))
  have G_r_4 := Lib.hid (ringAt_below G_r_3.out b9a)
  have R_g_4 := Lib.hid r9a
  have G_s_4 := Lib.hid g9a
  clear r9 b9 r9a b9a g9a
  go_wp2_with fail
  refine (implSimW_any p2 n2 (row_seen R_g_4.out (show g.length ≤ 1100000 by omega))).mono ?_
  rintro e W5 ⟨⟨v9, rfl, r9, b9⟩, hL⟩
  obtain ⟨o_l, c_l, rfl⟩ := row_slice r9
  have B5 := Lib.hid (B4.out.trans (b9.mono B4.out.size))
  have R_f_5 := Lib.hid (row_below R_f_4.out b9 (Nat.le_refl _))
  have R_g_5 := Lib.hid (row_below R_g_4.out b9 (Nat.le_refl _))
  have G_r_5 := Lib.hid (ringAt_below G_r_4.out b9)
  have G_s_5 := Lib.hid (ringAt_below G_s_4.out b9)
  have R_l_5 := Lib.hid r9
  clear r9 b9
  have HSG := Lib.hid (fun (h : simC p2 n2 g = 0) (i : Nat) (hi : i < (simL p2 n2 g).length) => sims_good h (hL h) hi)
  have hll := simL_len p2 n2 g
  clear hL
  obtain ⟨s0, s1⟩ := ringAt_cells G_s_5.out
  go_wp2_with fail
  clear s0 s1
  refine (specSimL_any p2 n2 (row_seen R_g_5.out (show g.length ≤ 1100000 by omega))).mono ?_
  rintro e W6 ⟨v9, rfl, r9, b9⟩
  obtain ⟨o_m, c_m, rfl⟩ := row_slice r9
  have B6 := Lib.hid (B5.out.trans (b9.mono B5.out.size))
  have R_f_6 := Lib.hid (row_below R_f_5.out b9 (Nat.le_refl _))
  have R_g_6 := Lib.hid (row_below R_g_5.out b9 (Nat.le_refl _))
  have R_l_6 := Lib.hid (row_below R_l_5.out b9 (Nat.le_refl _))
  have G_r_6 := Lib.hid (ringAt_below G_r_5.out b9)
  have G_s_6 := Lib.hid (ringAt_below G_s_5.out b9)
  have R_m_6 := Lib.hid r9
  clear r9 b9
  generalize simL p2 n2 g = l at *
  generalize simC p2 n2 g = one at *
  go_wp2_with fail
  refine (drawNewton_any o len cap _ hl (codeIn_below (B := 0) HC.out B6.out)).mono ?_
  rintro e W7 ⟨p3, n3, y, v3, h, rfl, r9, hl3, b9⟩
  obtain ⟨o_h, c_h, rfl⟩ := row_slice r9
  have r9a := World.ownsRow.alloc r9 (.cells #[.int .i64 p3, .int .i64 n3] 25)
  have b9a := b9.alloc b9.size (.cells #[.int .i64 p3, .int .i64 n3] 25)
  have g9a := ringAt_new W7 p3 n3
  have B7 := Lib.hid (B6.out.trans (b9a.mono B6.out.size))
  have R_f_7 := Lib.hid (row_below R_f_6.out b9a (Nat.le_refl _))
  have R_g_7 := Lib.hid (row_below R_g_6.out b9a (Nat.le_refl _))
  have R_l_7 := Lib.hid (row_below R_l_6.out b9a (Nat.le_refl _))
  have R_m_7 := Lib.hid (row_below R_m_6.out b9a (Nat.le_refl _))
  have G_r_7 := Lib.hid (ringAt_below G_r_6.out b9a)
  have G_s_7 := Lib.hid (ringAt_below G_s_6.out b9a)
  have R_h_7 := Lib.hid r9a
  have G_u_7 := Lib.hid g9a
  clear r9 b9 r9a b9a g9a
  go_wp2_with fail
  refine (implNewton_any p3 n3 y (row_seen R_h_7.out (show h.length ≤ 1100000 by omega))).mono ?_
  rintro e W8 ⟨rfl, b9⟩
  have B8 := Lib.hid (B7.out.trans (b9.mono B7.out.size))
  have R_f_8 := Lib.hid (row_below R_f_7.out b9 (Nat.le_refl _))
  have R_g_8 := Lib.hid (row_below R_g_7.out b9 (Nat.le_refl _))
  have R_l_8 := Lib.hid (row_below R_l_7.out b9 (Nat.le_refl _))
  have R_m_8 := Lib.hid (row_below R_m_7.out b9 (Nat.le_refl _))
  have R_h_8 := Lib.hid (row_below R_h_7.out b9 (Nat.le_refl _))
  have G_r_8 := Lib.hid (ringAt_below G_r_7.out b9)
  have G_s_8 := Lib.hid (ringAt_below G_s_7.out b9)
  have G_u_8 := Lib.hid (ringAt_below G_u_7.out b9)
  clear b9
  obtain ⟨u0, u1⟩ := ringAt_cells G_u_8.out
  go_wp2_with fail
  clear u0 u1
  refine (specNewton_any p3 n3 y (row_seen R_h_8.out (show h.length ≤ 1100000 by omega))).mono ?_
  rintro e W9 ⟨rfl, b9⟩
  have B9 := Lib.hid (B8.out.trans (b9.mono B8.out.size))
  have R_f_9 := Lib.hid (row_below R_f_8.out b9 (Nat.le_refl _))
  have R_g_9 := Lib.hid (row_below R_g_8.out b9 (Nat.le_refl _))
  have R_l_9 := Lib.hid (row_below R_l_8.out b9 (Nat.le_refl _))
  have R_m_9 := Lib.hid (row_below R_m_8.out b9 (Nat.le_refl _))
  have G_r_9 := Lib.hid (ringAt_below G_r_8.out b9)
  have G_s_9 := Lib.hid (ringAt_below G_s_8.out b9)
  clear b9
  generalize newV p3 n3 h y = z at *
  generalize newC p3 n3 h y = three at *
  go_wp2_with fail
  refine (likeInts_same R_l_9.out R_m_9.out (by omega)).mono ?_
  rintro e W10 ⟨rfl, nd, hw⟩
  have b9 : Below W9.heap.size W9 W10 := by rw [hw]; exact below_drewN (Below.refl _ _) nd
  clear hw nd
  have B10 := Lib.hid (B9.out.trans (b9.mono B9.out.size))
  have R_f_10 := Lib.hid (row_below R_f_9.out b9 (Nat.le_refl _))
  have R_g_10 := Lib.hid (row_below R_g_9.out b9 (Nat.le_refl _))
  have R_l_10 := Lib.hid (row_below R_l_9.out b9 (Nat.le_refl _))
  have G_r_10 := Lib.hid (ringAt_below G_r_9.out b9)
  have G_s_10 := Lib.hid (ringAt_below G_s_9.out b9)
  clear b9
  go_wp2_with fail
  go_loopw [23] (fun i wr => ∃ j : Nat, j ≤ l.length ∧ i = .int .i64 j ∧ Below W10.heap.size W10 wr) (fun i _ => l.length - (intOf i).toNat)
  case atStart => exact ⟨0, Nat.zero_le _, rfl, Below.refl _ _⟩
  case round =>
    obtain ⟨j, hj, rfl, hb⟩ := hrel
    have HB := Lib.hid hb
    have hbs := hb.size
    have RL := Lib.hid (row_below R_l_10.out hb (Nat.le_refl _))
    have RG := Lib.hid (row_below R_g_10.out hb (Nat.le_refl _))
    have RF := Lib.hid (row_below R_f_10.out hb (Nat.le_refl _))
    have GR := Lib.hid (ringAt_below G_r_10.out hb)
    have GS := Lib.hid (ringAt_below G_s_10.out hb)
    have BW := Lib.hid (B10.out.trans (hb.mono B10.out.size))
    clear hb
    by_cases h1 : one = 0
    · by_cases hlt : j < l.length
      · have hltI : (j : Int) < (l.length : Int) := by omega
        obtain ⟨e1, e2⟩ := HSG.out h1 j hlt
        have HV := Lib.hid fun (w : World) (b : Nat) (k : IntRow b w (.slice o_g g.length c_g) g) => implValueIn_any p2 n2 (l.getD j 0) (row_seen k (show g.length ≤ 1100000 by omega))
        rw [e1, e2] at HV
        clear e1 e2
        rcases row_shape RL.out with ⟨hz9, _⟩ | ⟨_, gr, cr, hgr, _, _⟩
        · omega
        · injection hgr with g1 _ g2
          subst g1 g2
          have c0 := int_cells RL.out j hlt
          generalize l.getD j 0 = q at *
          obtain ⟨s0, s1⟩ := ringAt_cells GS.out
          subst h1
          go_wp2_with fail
          go_region_with (go_at_call 24; refine (HV.out (World.drew _) _ (intRow_drew RG.out)).mono ?_; rintro e w9 ⟨rfl, b9⟩; have HBN := Lib.hid ((below_drewN HB.out 1).trans (b9.mono hbs)))
          all_goals go_wp2_with fail
          all_goals exact ⟨⟨j + 1, by omega, by go_num, HBN.out⟩, by simp only [intOf]; omega⟩
      · have hltI : ¬ (j : Int) < (l.length : Int) := by omega
        clear hj hlt
        subst h1
        by_cases hb0 : bad = 0
        · obtain ⟨e1, e2, e3, e4, e5, a0, a1, q0, q1⟩ := HG.out hb0
          rw [e1, e2] at HVI
          rw [e3, e4] at HNI
          clear e1 e2 e3 e4
          subst hb0
          obtain ⟨r0, r1⟩ := ringAt_cells GR.out
          go_wp2_with fail
          refine (HVI.out _ _ RF.out).mono ?_
          rintro e w9 ⟨rfl, b9⟩
          have RF9 := Lib.hid (row_below RF.out b9 (Nat.le_refl _))
          have GR9 := Lib.hid (ringAt_below GR.out b9)
          have B9 := Lib.hid (BW.out.trans (b9.mono BW.out.size))
          clear b9 r0 r1
          obtain ⟨r0, r1⟩ := ringAt_cells GR9.out
          go_wp2_with fail
          refine (HNI.out _ _ RF9.out).mono ?_
          rintro e wA ⟨rfl, b9⟩
          have GRA := Lib.hid (ringAt_below GR9.out b9)
          have BA := Lib.hid (B9.out.trans (b9.mono B9.out.size))
          clear b9 r0 r1
          obtain ⟨r0, r1⟩ := ringAt_cells GRA.out
          have hp0 : (p1 == 0) = false := by simp; omega
          have hwx : IntKind.i64.wrap (x.tmod p1) = a := by rw [e5]; exact IntWalk.i64_in _ (by omega)
          have hwa : IntKind.i64.wrap a = a := IntWalk.i64_in _ (by omega)
          go_wp2_with fail
          go_ret
          exact ⟨rfl, BA.out⟩
        · have hb1 : (bad != 0) = true := by simpa using hb0
          clear hb0
          go_wp2_with fail
          go_ret
          exact ⟨rfl, BW.out⟩
    · have h1' : (one == 0) = false := by simpa using h1
      clear h1 hj
      by_cases hb0 : bad = 0
      · obtain ⟨e1, e2, e3, e4, e5, a0, a1, q0, q1⟩ := HG.out hb0
        rw [e1, e2] at HVI
        rw [e3, e4] at HNI
        clear e1 e2 e3 e4
        subst hb0
        obtain ⟨r0, r1⟩ := ringAt_cells GR.out
        go_wp2_with fail
        refine (HVI.out _ _ RF.out).mono ?_
        rintro e w9 ⟨rfl, b9⟩
        have RF9 := Lib.hid (row_below RF.out b9 (Nat.le_refl _))
        have GR9 := Lib.hid (ringAt_below GR.out b9)
        have B9 := Lib.hid (BW.out.trans (b9.mono BW.out.size))
        clear b9 r0 r1
        obtain ⟨r0, r1⟩ := ringAt_cells GR9.out
        go_wp2_with fail
        refine (HNI.out _ _ RF9.out).mono ?_
        rintro e wA ⟨rfl, b9⟩
        have GRA := Lib.hid (ringAt_below GR9.out b9)
        have BA := Lib.hid (B9.out.trans (b9.mono B9.out.size))
        clear b9 r0 r1
        obtain ⟨r0, r1⟩ := ringAt_cells GRA.out
        have hp0 : (p1 == 0) = false := by simp; omega
        have hwx : IntKind.i64.wrap (x.tmod p1) = a := by rw [e5]; exact IntWalk.i64_in _ (by omega)
        have hwa : IntKind.i64.wrap a = a := IntWalk.i64_in _ (by omega)
        go_wp2_with fail
        go_ret
        exact ⟨rfl, BA.out⟩
      · have hb1 : (bad != 0) = true := by simpa using hb0
        clear hb0
        go_wp2_with fail
        go_ret
        exact ⟨rfl, BW.out⟩
set_option maxRecDepth 100000 in
theorem lifts_walk (a : Option Addr) (len cap : Nat) (zs : List Int) (w : World) (h : IsRowOf .u8 w a len cap zs) :
    Calls Try.prog 3 #[.slice a len cap] w fun e w' => e = .returned (.bool true) ∧ Below w.heap.size w w' := by
  obtain ⟨hc, hm⟩ := codeIn_of h
  by_cases hl : len ≤ 4096
  · exact lifts_core a len cap w hl hc
  · clear hc h
    go_enter Try.func3, Try.ntmps3
    go_wp2_with (go_at_call 13; refine (big_yes _ _ _ _ (by omega) (by omega)).mono ?_; rintro e w' ⟨rfl, rfl⟩)
    go_ret
    exact ⟨rfl, Below.refl _ _⟩
end Go.Proofs.Ytckpeoadglkbgaa
