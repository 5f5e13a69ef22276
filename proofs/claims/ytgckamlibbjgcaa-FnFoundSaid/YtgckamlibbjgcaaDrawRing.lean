/- The draws of chapter 2's laws: rings, residues, exponents. -/
import Derived.Test.YtgckamlibbjgcaaDrawPrime
import Derived.Test.YtgckamlibbjgcaaRingLaw
namespace Go.Proofs.Ytgckamlibbjgcaa
open Go.RowKit
set_option linter.unusedVariables false
/-- a ring, drawn -/
def RingPost (o : Option Addr) (len cap q : Nat) (w : World) (e : Ending) (w' : World) : Prop :=
  ∃ p n : Int, e = .returned (.agg #[.int .i64 p, .int .i64 n]) ∧ -3 ≤ p ∧ p ≤ 101 ∧ -1 ≤ n ∧ n ≤ 30 ∧ Src w' o len cap q ∧ w.grownBy w' (some q)
theorem valid_ring {p n : Int} (hp : p ∈ [2, 3, 5, 7, 2, 3, 5, 11, 13]) (h1 : 1 ≤ n) (h2 : n ≤ 6) : smallB p = true ∧ ringM p n ≠ 0 := by
  have hs : smallB p = true := by
    simp only [List.mem_cons, List.not_mem_nil, or_false] at hp
    rcases hp with rfl | rfl | rfl | rfl | rfl | rfl | rfl | rfl | rfl <;> decide
  have hb : 2 ≤ p ∧ p ≤ 13 := by simp at hp; omega
  refine ⟨hs, ?_⟩
  have e1 := pow_le hb.1 (show n.toNat ≤ 6 by omega)
  have e2 : p ^ 6 ≤ 4826809 := by
    simp only [List.mem_cons, List.not_mem_nil, or_false] at hp
    rcases hp with rfl | rfl | rfl | rfl | rfl | rfl | rfl | rfl | rfl <;> decide
  have e3 := pow_ge1 hb.1 n.toNat
  unfold ringM
  rw [hs, decide_eq_true h1, decide_eq_true (show p ^ n.toNat ≤ 1000000000 by omega)]
  simp; omega
theorem src_set {w : World} {o : Option Addr} {len cap q b i : Nat} {v : Value} (h : Src w o len cap q) (hb : q < b) : Src (w.setCell ⟨b, i, none⟩ v) o len cap q := by
  obtain ⟨t, s, h⟩ := h
  refine ⟨t, s, ?_, ?_, ?_, fun i => by rw [World.frozen?_setCell]; exact h.fz i, h.ht, h.hl, h.s0, h.s1, ?_⟩
  · rw [set_other (.inl (by omega))]; exact h.c0
  · rw [set_other (.inl (by omega))]; exact h.c1
  · rw [set_other (.inl (by omega))]; exact h.c2
  · rcases h.code with hz | ⟨b, off, ho, hbp, hc⟩
    · exact .inl hz
    · refine .inr ⟨b, off, ho, hbp, fun i hi => ?_⟩
      rw [set_other (.inl (by omega))]; exact hc i hi
theorem grown_set {w w' : World} {q b i : Nat} {v : Value} (h : w.grownBy w' (some q)) (hb : w.heap.size ≤ b) : w.grownBy (w'.setCell ⟨b, i, none⟩ v) (some q) :=
  ⟨h.os, h.tape, h.output, by simpa using h.size, fun k hk hn => by rw [Below.heap_setCell _ _ _ _ (by show k ≠ b; omega)]; exact h.block k hk hn⟩
/-- l01Pick over a list laid in a block whose number is written out -/
theorem pick_at (l : List Int) (T : TypeId) (c : Nat) (o : Option Addr) (len cap p g : Nat) (w : World) (hg : w.heap.size = g) (hs : Src w o len cap p) (h0 : 0 < l.length) (h1 : l.length ≤ 1000) :
    Calls Try.prog 84 #[.pointer (some ⟨p, 0, none⟩), .slice (some ⟨g, 0, none⟩) l.length c] (w.alloc (.cells (l.map (Value.int .i64)).toArray T)) fun e w' =>
      ∃ r : Int, e = .returned (.int .i64 r) ∧ r ∈ l ∧ Src w' o len cap p ∧ w.grownBy w' (some p) := by
  subst hg; exact pick_new l T c o len cap p w hs h0 h1
theorem ring_block {w w2 : World} {a b : Value} {T : TypeId} (h : w2.heap[w.heap.size]? = (w.alloc (.cells #[a, b] T)).heap[w.heap.size]?) :
    w2.cell? ⟨w.heap.size, 0, none⟩ = some a ∧ w2.cell? ⟨w.heap.size, 1, none⟩ = some b ∧ w2.frozen? ⟨w.heap.size, 0, none⟩ = false ∧ w2.frozen? ⟨w.heap.size, 1, none⟩ = false := by
  refine ⟨?_, ?_, ?_, ?_⟩
  · rw [World.cell?_of_block (w := w.alloc (.cells #[a, b] T)) (a := ⟨w.heap.size, 0, none⟩) h, World.cell?_alloc_new]; rfl
  · rw [World.cell?_of_block (w := w.alloc (.cells #[a, b] T)) (a := ⟨w.heap.size, 1, none⟩) h, World.cell?_alloc_new]; rfl
  · rw [World.frozen?_of_block (w := w.alloc (.cells #[a, b] T)) (a := ⟨w.heap.size, 0, none⟩) h]; exact World.frozen?_alloc_at _ _ _ _ rfl
  · rw [World.frozen?_of_block (w := w.alloc (.cells #[a, b] T)) (a := ⟨w.heap.size, 1, none⟩) h]; exact World.frozen?_alloc_at _ _ _ _ rfl
set_option maxHeartbeats 400000 in
theorem valid_any (o : Option Addr) (len cap q : Nat) (w : World) (hs : Src w o len cap q) :
    Calls Try.prog 108 #[.pointer (some ⟨q, 0, none⟩)] w (RingPost o len cap q w) := by
  have hq := src_lt hs
  have HS := Lib.hid (src_alloc hs (.cells #[.int .i64 0, .int .i64 0] 25))
  have HG := Lib.hid (World.grownBy_alloc w (.cells #[.int .i64 0, .int .i64 0] 25) (some q))
  have HQ := Lib.hid hq
  clear hs hq
  go_enter Try.func108, Try.ntmps108
  go_wp2_with fail
  refine (pick_at [2, 3, 5, 7, 2, 3, 5, 11, 13] 2 9 o len cap q _ _ (by simp) HS.out (by simp) (by simp)).mono ?_
  rintro e w1 ⟨p, rfl, hp, hs1, hg1⟩
  have HP := Lib.hid hp
  have H1 := Lib.hid (And.intro hs1 (grownBy_tr HG.out hg1))
  have hpb : 2 ≤ p ∧ p ≤ 13 := by simp at hp; omega
  have hb1 := hg1.block w.heap.size (by simp) (by have := HQ.out; simp; omega)
  have hlt : w.heap.size < w1.heap.size := Nat.lt_of_lt_of_le (by simp) hg1.size
  have C1 := Lib.hid (And.intro hlt hb1)
  clear hp hs1 hg1 hb1 hlt
  go_wp2_with fail
  refine (next_any _ _ _ _ _ _ (by omega) H1.out.1).mono ?_
  rintro e w2 ⟨r, rfl, r0, r1, hs2, hg2, hz2⟩
  have H2 := Lib.hid (And.intro hs2 (grownBy_tr H1.out.2 hg2))
  have C2 := Lib.hid ((hg2.block w.heap.size C1.out.1 (by have := HQ.out; simp; omega)).trans C1.out.2)
  have r2 : r < 6 := by omega
  have HV := Lib.hid (valid_ring (n := 1 + r) HP.out (by omega) (by omega))
  have hz : (ringM p (1 + r) == 0) = false := by simpa using HV.out.2
  obtain ⟨n, hn⟩ : ∃ n, 1 + r = n := ⟨_, rfl⟩
  have hn1 : 1 ≤ n := by omega
  have hn2 : n ≤ 6 := by omega
  have hn3 : n ≤ 1000 := by omega
  rw [hn] at HV hz
  clear hs2 hg2 hz2 r1
  go_wp2
  go_loop [4] (fun v => v = .int .i64 n) (fun _ => 0)
  case atStart => exact rfl
  case round =>
    subst hrel
    obtain ⟨d0, d1, f0, f1⟩ := ring_block C2.out
    go_wp2_with (go_at_call 64; refine (l02Modulus_any _ _ _ HV.out.1 hn1 hn3).mono ?_; rintro e w' ⟨rfl, rfl⟩)
    have hq := HQ.out
    refine bodyPost_ret (v := .agg #[.int .i64 p, .int .i64 n]) (by simp [results, Try.results108, go_sem, d0, d1]) rfl ?_
    exact ⟨_, _, rfl, by omega, by omega, by omega, by omega, src_set (src_set H2.out.1 hq) hq, grown_set (grown_set H2.out.2 (Nat.le_refl _)) (Nat.le_refl _)⟩
theorem block_alloc {w : World} (o : Obj) {k : Nat} (h : k < w.heap.size) : (w.alloc o).heap[k]? = w.heap[k]? := Below.heap_alloc w o k h
set_option maxHeartbeats 800000 in
theorem ringDraw_any (o : Option Addr) (len cap q : Nat) (w : World) (hs : Src w o len cap q) :
    Calls Try.prog 56 #[.pointer (some ⟨q, 0, none⟩)] w (RingPost o len cap q w) := by
  have hq := src_lt hs
  have HS := Lib.hid (src_alloc hs (.cells #[.int .i64 0, .int .i64 0] 25))
  have HG := Lib.hid (World.grownBy_alloc w (.cells #[.int .i64 0, .int .i64 0] 25) (some q))
  have HQ := Lib.hid hq
  clear hs hq
  go_enter Try.func56, Try.ntmps56
  go_wp2_with fail
  refine (valid_any o len cap q _ HS.out).mono ?_
  rintro e w1 ⟨p, n, rfl, hp1, hp2, hn1, hn2, hs1, hg1⟩
  have hb1 := hg1.block w.heap.size (by simp) (by have := HQ.out; simp; omega)
  have hlt : w.heap.size < w1.heap.size := Nat.lt_of_lt_of_le (by simp) hg1.size
  have C1 := Lib.hid (And.intro hlt hb1)
  have hq1 := src_lt hs1
  have HQ1 := Lib.hid hq1
  have H1 := Lib.hid (And.intro (src_alloc hs1 (.cells #[.int .i64 p, .int .i64 n] 25)) (grownBy_tr (grownBy_tr HG.out hg1) (World.grownBy_alloc w1 (.cells #[.int .i64 p, .int .i64 n] 25) (some q))))
  clear hs1 hg1 hb1 hlt hq1
  go_wp2_with fail
  refine (next_any _ _ _ _ _ _ (by omega) H1.out.1).mono ?_
  rintro e w2 ⟨r, rfl, r0, r1, hs2, hg2, hz2⟩
  have H2 := Lib.hid (And.intro hs2 (grownBy_tr H1.out.2 hg2))
  have C2 := Lib.hid ((hg2.block w.heap.size (by simp; have := C1.out.1; omega) (by have := HQ.out; simp; omega)).trans ((block_alloc _ C1.out.1).trans C1.out.2))
  have R2 := Lib.hid (hg2.block w1.heap.size (by simp) (by have := HQ1.out; simp; omega))
  have r2 : r < 20 := by omega
  have hz2b : w1.heap.size < w2.heap.size := Nat.lt_of_lt_of_le (by simp) hg2.size
  have hne : ¬ w1.heap.size = w.heap.size := by have := C1.out.1; omega
  have HN := Lib.hid (And.intro hne (And.intro hz2b (show w.heap.size < w2.heap.size by have := C1.out.1; omega)))
  have hqn : q < w1.heap.size := HQ1.out
  have HE := Lib.hid hqn
  clear hs2 hg2 hz2 r1 hz2b hqn
  by_cases e0 : r = 0
  · subst e0
    go_wp2_with fail
    refine (drawPrime_any _ _ _ _ _ H2.out.1).mono ?_
    rintro e w3 ⟨x, rfl, hx0, hx1, hs3, hg3⟩
    have H3 := Lib.hid (And.intro hs3 (grownBy_tr H2.out.2 hg3))
    have C3 := Lib.hid ((hg3.block w.heap.size HN.out.2.2 (by have := HQ.out; simp; omega)).trans C2.out)
    have R3 := Lib.hid ((hg3.block w1.heap.size HN.out.2.1 (by have := HE.out; simp; omega)).trans R2.out)
    clear hs3 hg3
    obtain ⟨d0, d1, f0, f1⟩ := ring_block C3.out
    obtain ⟨x0, x1, g0, g1⟩ := ring_block R3.out
    have hq := HQ.out
    have hq1 := HE.out
    have hw1 := Nat.le_of_lt C1.out.1
    go_wp2
    refine bodyPost_ret (v := .agg #[.int .i64 x, .int .i64 n]) (by simp [results, Try.results56, go_sem, d0, d1]) rfl ?_
    exact ⟨_, _, rfl, by omega, by omega, by omega, by omega, src_set (src_set (src_set H3.out.1 hq1) hq) hq, grown_set (grown_set (grown_set H3.out.2 hw1) (Nat.le_refl _)) (Nat.le_refl _)⟩
  · have e0' : (r == 0) = false := by simp [e0]
    by_cases e1 : r = 1
    · subst e1
      go_wp2_with fail
      refine (pick_new [0, 1, 29, 30, 12, -1] 2 6 o len cap q w2 H2.out.1 (by simp) (by simp)).mono ?_
      rintro e w3 ⟨x, rfl, hx, hs3, hg3⟩
      have hx0 : -1 ≤ x ∧ x ≤ 30 := by simp at hx; omega
      have H3 := Lib.hid (And.intro hs3 (grownBy_tr H2.out.2 hg3))
      have C3 := Lib.hid ((hg3.block w.heap.size HN.out.2.2 (by have := HQ.out; simp; omega)).trans C2.out)
      have R3 := Lib.hid ((hg3.block w1.heap.size HN.out.2.1 (by have := HE.out; simp; omega)).trans R2.out)
      clear hs3 hg3 hx
      obtain ⟨x0, x1, g0, g1⟩ := ring_block R3.out
      have hq := HQ.out
      have hq1 := HE.out
      have hw1 := Nat.le_of_lt C1.out.1
      obtain ⟨d0, d1, f0, f1⟩ := ring_block C3.out
      go_wp2
      refine bodyPost_ret (v := .agg #[.int .i64 p, .int .i64 x]) (by simp [results, Try.results56, go_sem, d0, d1]) rfl ?_
      exact ⟨_, _, rfl, by omega, by omega, by omega, by omega, src_set (src_set (src_set H3.out.1 hq1) hq) hq, grown_set (grown_set (grown_set H3.out.2 hw1) (Nat.le_refl _)) (Nat.le_refl _)⟩
    · have e1' : (r == 1) = false := by simp [e1]
      obtain ⟨d0, d1, f0, f1⟩ := ring_block C2.out
      obtain ⟨x0, x1, g0, g1⟩ := ring_block R2.out
      have hq := HQ.out
      go_wp2
      refine bodyPost_ret (v := .agg #[.int .i64 p, .int .i64 n]) (by simp [results, Try.results56, go_sem, d0, d1]) rfl ?_
      exact ⟨_, _, rfl, by omega, by omega, by omega, by omega, src_set (src_set H2.out.1 hq) hq, grown_set (grown_set H2.out.2 (Nat.le_refl _)) (Nat.le_refl _)⟩
end Go.Proofs.Ytgckamlibbjgcaa
