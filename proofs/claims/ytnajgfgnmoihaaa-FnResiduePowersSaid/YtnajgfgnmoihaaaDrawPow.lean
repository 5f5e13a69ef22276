/- The drawn arguments of ReduceTo, TeichmuellerOf and PowerOf. -/
import Derived.Test.YtnajgfgnmoihaaaDrawRes
namespace Go.Proofs.Ytnajgfgnmoihaaa
open Go.RowKit
set_option linter.unusedVariables false
set_option maxHeartbeats 1000000 in
theorem drawReduce_any (o : Option Addr) (len cap : Nat) (w : World) (hl : len ≤ 4096) (hc : CodeIn w o len) :
    Calls Try.prog 34 #[.slice o len cap] w (RingTwoPost w) := by
  have HC := Lib.hid (codeIn_below (B := w.heap.size) hc ((Below.refl _ _).alloc (Nat.le_refl _) (.cells #[.int .i64 0, .int .i64 0] 25)))
  clear hc
  go_enter Try.func34, Try.ntmps34
  go_wp2_with fail
  refine (from_any _ _ _ _ hl HC.out).mono ?_
  rintro e w1 ⟨q, rfl, hq, hs1, hb1⟩
  have M1 := Lib.hid (mid_first hq hs1 hb1)
  clear hq hs1 hb1
  go_wp2_with fail
  refine (ringDraw_any o len cap q _ M1.out.2.1).mono ?_
  rintro e w2 ⟨p, n, rfl, hp1, hp2, hn1, hn2, hs2, hg2⟩
  have M2 := Lib.hid (mid_alloc (mid_next M1.out hs2 hg2) (.cells #[.int .i64 p, .int .i64 n] 25))
  have hq2 := src_lt hs2
  have HQ2 := Lib.hid hq2
  clear hs2 hg2 hq2
  have HL2 := Lib.hid (show w.heap.size < w2.heap.size by have := M2.out.1; have := HQ2.out; omega)
  go_wp2_with fail
  go_region_with (go_at_call 68; refine (drawValue_any o len cap q (World.drew _) (src_drewN M2.out.2.1 1)).mono ?_; rintro e w3 ⟨a, rfl, ha0, ha1, hs3, hg3⟩; have M3 := mid_next (mid_drewN M2.out 1) hs3 hg3; obtain ⟨d0, d1, f0, f1⟩ := ring_block M3.2.2.2.2; obtain ⟨x0, x1, g0, g1⟩ := ring_block (w := w2) (hg3.block w2.heap.size (by have := M2.out.2.2.2.1; simp) (by have := HQ2.out; simp; omega)))
  all_goals go_wp2_with fail
  all_goals (refine bodyPost_ret (v := .tuple #[.agg #[.int .i64 p, .int .i64 n], .int .i64 a]) (by simp [results, Try.results34, go_sem, d0, d1, Act.put]) (by simp [Act.put]) ?_)
  all_goals exact ⟨_, _, _, rfl, (M3.2.2.1.setCell (Nat.le_refl _) _).setCell (Nat.le_refl _) _⟩
set_option maxHeartbeats 1000000 in
theorem drawTei_any (o : Option Addr) (len cap : Nat) (w : World) (hl : len ≤ 4096) (hc : CodeIn w o len) :
    Calls Try.prog 31 #[.slice o len cap] w (RingTwoPost w) := by
  have e1 : (w.alloc (.cells #[.int .i64 0, .int .i64 0] 25)).heap.size = w.heap.size + 1 := by simp
  have HC := Lib.hid (codeIn_below (B := w.heap.size) hc ((Below.refl _ _).alloc (Nat.le_refl _) (.cells #[.int .i64 0, .int .i64 0] 25)))
  have E1 := Lib.hid e1
  clear hc e1
  go_enter Try.func31, Try.ntmps31
  go_wp2_with fail
  refine (drawInverse_any _ _ _ _ hl HC.out).mono ?_
  rintro e w2 ⟨p, n, a, rfl, hb⟩
  obtain ⟨d0, d1, f0, f1⟩ := ring_block (hb.block w.heap.size (by rw [E1.out]; omega))
  have HB := Lib.hid (below_one hb)
  clear hb
  go_wp2
  refine bodyPost_ret (v := .tuple #[.agg #[.int .i64 p, .int .i64 n], .int .i64 a]) (by simp [results, Try.results31, go_sem, d0, d1]) rfl ?_
  exact ⟨_, _, _, rfl, (HB.out.setCell (Nat.le_refl _) _).setCell (Nat.le_refl _) _⟩
/-- a ring and two numbers, drawn -/
def RingThreePost (w : World) (e : Ending) (w' : World) : Prop := ∃ p n a b : Int, e = .returned (.tuple #[.agg #[.int .i64 p, .int .i64 n], .int .i64 a, .int .i64 b]) ∧ Below w.heap.size w w'
/-- Mid, and a ring laid in a variable -/
def Mid2 (o : Option Addr) (len cap q : Nat) (p n : Int) (w wv wz : World) : Prop :=
  Mid o len cap q w wz ∧ q < wv.heap.size ∧ wv.heap.size < wz.heap.size ∧ wz.heap[wv.heap.size]? = (wv.alloc (.cells #[.int .i64 p, .int .i64 n] 25)).heap[wv.heap.size]?
theorem mid2_next {o : Option Addr} {len cap q : Nat} {p n : Int} {w wv w1 w2 : World} (h : Mid2 o len cap q p n w wv w1) (hs : Src w2 o len cap q) (hg : w1.grownBy w2 (some q)) : Mid2 o len cap q p n w wv w2 :=
  ⟨mid_next h.1 hs hg, h.2.1, Nat.lt_of_lt_of_le h.2.2.1 hg.size, (hg.block _ h.2.2.1 (by have := h.2.1; simp; omega)).trans h.2.2.2⟩
theorem mid2_drewN {o : Option Addr} {len cap q : Nat} {p n : Int} {w wv w1 : World} (h : Mid2 o len cap q p n w wv w1) (k : Nat) : Mid2 o len cap q p n w wv (w1.drewN k) := ⟨mid_drewN h.1 k, h.2⟩
theorem mid2_make {o : Option Addr} {len cap q : Nat} {p n : Int} {w wv : World} (h : Mid o len cap q w wv) : Mid2 o len cap q p n w wv (wv.alloc (.cells #[.int .i64 p, .int .i64 n] 25)) :=
  ⟨mid_alloc h _, src_lt h.2.1, by simp, rfl⟩
theorem mid_below {o : Option Addr} {len cap q : Nat} {w w1 w2 : World} (h : Mid o len cap q w w1) (hb : Below w1.heap.size w1 w2) : Mid o len cap q w w2 :=
  ⟨h.1, src_below h.2.1 hb (src_lt h.2.1), h.2.2.1.trans (hb.mono (Nat.le_of_lt h.2.2.2.1)), Nat.lt_of_lt_of_le h.2.2.2.1 hb.size, (hb.block _ h.2.2.2.1).trans h.2.2.2.2⟩
/-- what a cell holds, as a letter -/
def cellV (w : World) (a : Addr) : Value := (w.cell? a).getD undef
structure K3 (o : Option Addr) (len cap q : Nat) (w : World) (b1 : Nat) (wz : World) : Prop where
  src : Src wz o len cap q
  bel : Below w.heap.size w wz
  q0 : w.heap.size < q
  q1 : q < b1
  b1 : b1 < wz.heap.size
  oc : len = 0 ∨ ∀ b' off, o = some ⟨b', off, none⟩ → b' < w.heap.size
abbrev S3 (o : Option Addr) (len cap q : Nat) (p n : Int) (w : World) (b1 : Nat) (wz : World) : Prop :=
  K3 o len cap q w b1 wz ∧ wz.cell? ⟨b1, 0, none⟩ = some (.int .i64 p) ∧ wz.cell? ⟨b1, 1, none⟩ = some (.int .i64 n) ∧
  wz.cell? ⟨w.heap.size, 0, none⟩ = some (cellV wz ⟨w.heap.size, 0, none⟩) ∧ wz.cell? ⟨w.heap.size, 1, none⟩ = some (cellV wz ⟨w.heap.size, 1, none⟩) ∧
  wz.frozen? ⟨w.heap.size, 0, none⟩ = false ∧ wz.frozen? ⟨w.heap.size, 1, none⟩ = false
theorem cellV_some {w : World} {a : Addr} {v : Value} (h : w.cell? a = some v) : w.cell? a = some (cellV w a) := by unfold cellV; rw [h]; rfl
theorem s3_start {o : Option Addr} {len cap q : Nat} {p n : Int} {w wv wz : World} (h : Mid2 o len cap q p n w wv wz) (hq : len = 0 ∨ ∀ b' off, o = some ⟨b', off, none⟩ → b' < w.heap.size) : S3 o len cap q p n w wv.heap.size wz := by
  obtain ⟨d0, d1, f0, f1⟩ := ring_block h.1.2.2.2.2
  obtain ⟨x0, x1, _, _⟩ := ring_block h.2.2.2
  exact ⟨⟨h.1.2.1, h.1.2.2.1, h.1.1, h.2.1, h.2.2.1, hq⟩, x0, x1, cellV_some d0, cellV_some d1, f0, f1⟩
theorem s3_next {o : Option Addr} {len cap q : Nat} {p n : Int} {w w1 w2 : World} {b1 : Nat} (h : S3 o len cap q p n w b1 w1) (hs : Src w2 o len cap q) (hg : w1.grownBy w2 (some q)) : S3 o len cap q p n w b1 w2 := by
  obtain ⟨k, x0, x1, d0, d1, f0, f1⟩ := h
  have q0 := k.q0
  have q1 := k.q1
  have kb := k.b1
  have hb := hg.block w.heap.size (by omega) (by simp; omega)
  have hb1 := hg.block b1 (by omega) (by simp; omega)
  refine ⟨⟨hs, below_draw k.bel hg (by omega) (by omega), q0, q1, Nat.lt_of_lt_of_le kb hg.size, k.oc⟩, ?_, ?_, ?_, ?_, ?_, ?_⟩
  · rw [World.cell?_of_block (w := w1) (a := ⟨b1, 0, none⟩) hb1]; exact x0
  · rw [World.cell?_of_block (w := w1) (a := ⟨b1, 1, none⟩) hb1]; exact x1
  · apply cellV_some (v := cellV w1 ⟨w.heap.size, 0, none⟩); rw [World.cell?_of_block (w := w1) (a := ⟨w.heap.size, 0, none⟩) hb]; exact d0
  · apply cellV_some (v := cellV w1 ⟨w.heap.size, 1, none⟩); rw [World.cell?_of_block (w := w1) (a := ⟨w.heap.size, 1, none⟩) hb]; exact d1
  · rw [World.frozen?_of_block (w := w1) (a := ⟨w.heap.size, 0, none⟩) hb]; exact f0
  · rw [World.frozen?_of_block (w := w1) (a := ⟨w.heap.size, 1, none⟩) hb]; exact f1
theorem s3_alloc {o : Option Addr} {len cap q : Nat} {p n : Int} {w w1 : World} {b1 : Nat} (h : S3 o len cap q p n w b1 w1) (ob : Obj) : S3 o len cap q p n w b1 (w1.alloc ob) :=
  s3_next h (src_alloc h.1.src ob) (World.grownBy_alloc w1 ob (some q))
theorem s3_store {o : Option Addr} {len cap q : Nat} {p n : Int} {w w1 : World} {b1 : Nat} (h : S3 o len cap q p n w b1 w1) (u v : Value) :
    S3 o len cap q p n w b1 ((w1.setCell ⟨w.heap.size, 0, none⟩ u).setCell ⟨w.heap.size, 1, none⟩ v) := by
  obtain ⟨k, x0, x1, d0, d1, f0, f1⟩ := h
  have q0 := k.q0
  have q1 := k.q1
  refine ⟨⟨?_, (k.bel.setCell (Nat.le_refl _) _).setCell (Nat.le_refl _) _, q0, q1, by simpa using k.b1, k.oc⟩, ?_, ?_, ?_, ?_, ?_, ?_⟩
  · obtain ⟨t, s, hs⟩ := k.src
    refine ⟨t, s, ?_, ?_, ?_, fun i => by rw [World.frozen?_setCell, World.frozen?_setCell]; exact hs.fz i, hs.ht, hs.hl, hs.s0, hs.s1, ?_⟩
    · rw [set_other (.inl (by omega)), set_other (.inl (by omega))]; exact hs.c0
    · rw [set_other (.inl (by omega)), set_other (.inl (by omega))]; exact hs.c1
    · rw [set_other (.inl (by omega)), set_other (.inl (by omega))]; exact hs.c2
    · rcases k.oc with hz | hoc
      · exact .inl hz
      · rcases hs.code with hz | ⟨b, off, ho, hbp, hc⟩
        · exact .inl hz
        · have hlt := hoc b off ho
          refine .inr ⟨b, off, ho, hbp, fun i hi => ?_⟩
          rw [set_other (.inl (by omega)), set_other (.inl (by omega))]; exact hc i hi
  · rw [set_other (.inl (by omega)), set_other (.inl (by omega))]; exact x0
  · rw [set_other (.inl (by omega)), set_other (.inl (by omega))]; exact x1
  · refine cellV_some (v := u) ?_
    rw [set_other (.inr (by decide))]; exact World.cell?_setCell_same _ _ _ d0
  · refine cellV_some (v := v) ?_
    exact World.cell?_setCell_same _ _ _ (show (w1.setCell ⟨w.heap.size, 0, none⟩ u).cell? ⟨w.heap.size, 1, none⟩ = some (cellV w1 ⟨w.heap.size, 1, none⟩) by rw [set_other (.inr (by decide))]; exact d1)
  · rw [World.frozen?_setCell, World.frozen?_setCell]; exact f0
  · rw [World.frozen?_setCell, World.frozen?_setCell]; exact f1
theorem codeIn_block {w : World} {o : Option Addr} {len : Nat} (h : CodeIn w o len) : len = 0 ∨ ∀ b' off, o = some ⟨b', off, none⟩ → b' < w.heap.size := by
  rcases h with h | ⟨b, off, ho, hb, _⟩
  · exact .inl h
  · right; intro b' off' h'; rw [ho] at h'; cases h'; exact hb
set_option maxRecDepth 20000 in
set_option maxHeartbeats 4000000 in
theorem drawPower_any (o : Option Addr) (len cap : Nat) (w : World) (hl : len ≤ 4096) (hc : CodeIn w o len) :
    Calls Try.prog 29 #[.slice o len cap] w (RingThreePost w) := by
  have HC := Lib.hid (codeIn_below (B := w.heap.size) hc ((Below.refl _ _).alloc (Nat.le_refl _) (.cells #[.int .i64 0, .int .i64 0] 25)))
  have HC0 := Lib.hid hc
  clear hc
  go_enter Try.func29, Try.ntmps29
  go_wp2_with fail
  refine (from_any _ _ _ _ hl HC.out).mono ?_
  rintro e w1 ⟨q, rfl, hq, hs1, hb1⟩
  have M1 := Lib.hid (mid_first hq hs1 hb1)
  clear hq hs1 hb1
  go_wp2_with fail
  refine (drawInverse_any _ _ _ _ hl (codeIn_below (B := w.heap.size) HC0.out M1.out.2.2.1)).mono ?_
  rintro e w2 ⟨p, n, a, rfl, hb2⟩
  have M2 := Lib.hid (mid2_make (p := p) (n := n) (mid_below M1.out hb2))
  have HS := Lib.hid (s3_start (mid2_drewN M2.out 1) (codeIn_block HC0.out))
  clear hb2 M1 M2 HC HC0
  go_wp2_with fail
  have hS0 : S3 o len cap q p n w w2.heap.size (World.drew (w2.alloc (.cells #[.int .i64 p, .int .i64 n] 25))) := HS.out
  go_region_held3 (fun w' => K3 o len cap q w w2.heap.size w' ∧ w'.cell? ⟨w2.heap.size, 0, none⟩ = some (.int .i64 p) ∧ w'.cell? ⟨w2.heap.size, 1, none⟩ = some (.int .i64 n) ∧
      w'.cell? ⟨w.heap.size, 0, none⟩ = some (cellV w' ⟨w.heap.size, 0, none⟩) ∧ w'.cell? ⟨w.heap.size, 1, none⟩ = some (cellV w' ⟨w.heap.size, 1, none⟩) ∧
      w'.frozen? ⟨w.heap.size, 0, none⟩ = false ∧ w'.frozen? ⟨w.heap.size, 1, none⟩ = false)
    (first | with_reducible assumption | with_reducible exact s3_alloc (by assumption) _ | with_reducible exact s3_store (by assumption) _ _)
    (first
      | (go_at_call 66; refine (next_any 100 o len cap q _ (by omega) hS0.1.src).mono ?_; rintro e w3 ⟨r3, rfl, k0, k1, hs', hg', hz3⟩; have hS3 := s3_next hS0 hs' hg'; clear k1 hz3 hs' hg' hS0)
      | (go_at_call 66; refine (next_any 1000000 o len cap q _ (by omega) hS3.1.src).mono ?_; rintro e w4 ⟨r4, rfl, j0, j1, hs', hg', hz4⟩; have hS4 := s3_next hS3 hs' hg'; clear j1 hz4 hs' hg' hS3)
      | (go_at_call 65; refine (pick_at [0, 1, 2, r3, r4, 1000000000000, 1000000000001, -1] 2 8 o len cap q w4.heap.size w4 rfl hS4.1.src (by simp) (by simp)).mono ?_; rintro e w5 ⟨x, rfl, hx, hs', hg'⟩; have hS5 := s3_next hS4 hs' hg'; clear hx hs' hg' hS4))
  all_goals (obtain ⟨k5, _, _, d0, d1, _, _⟩ := hS5)
  all_goals go_wp2_with fail
  all_goals (refine bodyPost_ret (v := .tuple #[.agg #[.int .i64 p, .int .i64 n], .int .i64 a, .int .i64 x]) (by simp [results, Try.results29, go_sem, d0, d1]) rfl ?_)
  all_goals exact ⟨_, _, _, _, rfl, (k5.bel.setCell (Nat.le_refl _) _).setCell (Nat.le_refl _) _⟩
end Go.Proofs.Ytnajgfgnmoihaaa
