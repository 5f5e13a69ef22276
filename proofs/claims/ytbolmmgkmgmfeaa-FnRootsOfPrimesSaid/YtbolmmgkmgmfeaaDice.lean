/- The laws' own dice: roll and below. -/
import Derived.Test.YtbolmmgkmgmfeaaFrom
import Derived.Lib.VarintBits
import Derived.Test.YtbolmmgkmgmfeaaBezMath
namespace Go.Proofs.Ytbolmmgkmgmfeaa
open Go.RowKit
set_option linter.unusedVariables false
structure DiceAt (w : World) (o : Option Addr) (len cap b : Nat) (t : Nat) (z : Int) : Prop where
  c0 : w.cell? ⟨b, 0, none⟩ = some (.slice o len cap)
  c1 : w.cell? ⟨b, 1, none⟩ = some (.int .i64 t)
  c2 : w.cell? ⟨b, 2, none⟩ = some (.int .u64 z)
  fz : ∀ i, w.frozen? ⟨b, i, none⟩ = false
  ht : t ≤ len
  hl : len ≤ 4096
  z0 : 0 ≤ z
  z1 : z ≤ 18446744073709551615
  code : len = 0 ∨ ∃ b' off, o = some ⟨b', off, none⟩ ∧ b' < b ∧ ∀ i, i < len → ∃ x : Int, w.cell? ⟨b', off + i, none⟩ = some (.int .u8 x) ∧ 0 ≤ x ∧ x ≤ 255
theorem u64_bd (n : Int) : 0 ≤ IntKind.u64.wrap n ∧ IntKind.u64.wrap n ≤ 18446744073709551615 := by rw [IntKind.wrap_u64]; omega
theorem dice_cell {w : World} {o : Option Addr} {len cap b t : Nat} {z : Int} (h : DiceAt w o len cap b t z) (z' : Int) (h0 : 0 ≤ z') (h1 : z' ≤ 18446744073709551615) :
    DiceAt (w.setCell ⟨b, 2, none⟩ (.int .u64 z')) o len cap b t z' := by
  refine ⟨?_, ?_, World.cell?_setCell_same _ _ _ h.c2, fun i => by rw [World.frozen?_setCell]; exact h.fz i, h.ht, h.hl, h0, h1, ?_⟩
  · rw [set_other (.inr (by decide))]; exact h.c0
  · rw [set_other (.inr (by decide))]; exact h.c1
  · rcases h.code with hz | ⟨b', off, ho, hb, hc⟩
    · exact .inl hz
    · refine .inr ⟨b', off, ho, hb, fun i hi => ?_⟩
      rw [set_other (.inl (by omega))]; exact hc i hi
theorem dice_drewN {w : World} {o : Option Addr} {len cap b t : Nat} {z : Int} (h : DiceAt w o len cap b t z) (n : Nat) : DiceAt (w.drewN n) o len cap b t z :=
  ⟨h.c0, h.c1, h.c2, h.fz, h.ht, h.hl, h.z0, h.z1, h.code⟩
theorem dice_new (w : World) (o : Option Addr) (len cap : Nat) (z : Int) (T : TypeId) (hl : len ≤ 4096) (hc : CodeIn w o len) (h0 : 0 ≤ z) (h1 : z ≤ 18446744073709551615) :
    DiceAt (w.alloc (.cells #[.slice o len cap, .int .i64 0, .int .u64 z] T)) o len cap w.heap.size 0 z := by
  refine ⟨?_, ?_, ?_, fun i => World.frozen?_alloc_at _ _ _ _ rfl, Nat.zero_le _, hl, h0, h1, ?_⟩
  · rw [World.cell?_alloc_new]; rfl
  · rw [World.cell?_alloc_new]; rfl
  · rw [World.cell?_alloc_new]; rfl
  · rcases hc with h0 | ⟨b, off, ho, hb, hc⟩
    · exact .inl h0
    · refine .inr ⟨b, off, ho, hb, fun i hi => ?_⟩
      rw [World.cell?_alloc_past _ _ _ hb]; exact hc i hi
theorem roll_bits (E : Int) : ∃ X : Int, wrap64 (bits BinOp.and IntKind.u64 (IntKind.u64.wrap E / 8589934592) 16777215) = X ∧ 0 ≤ X ∧ X ≤ 16777215 := by
  obtain ⟨h0, h1⟩ := u64_bd E
  have h := bits_mask .u64 64 (by decide) wraps_u64 24 (by decide) (IntKind.u64.wrap E / 8589934592) (by omega) (by omega)
  have e : ((2 : Int) ^ 24 - 1) = 16777215 := by decide
  rw [e] at h
  refine ⟨_, rfl, ?_⟩
  rw [h, show ((2 : Int) ^ 24) = 16777216 by decide, wrap64_small (by omega)]
  omega
def RollPost (o : Option Addr) (len cap : Nat) (w : World) (e : Ending) (w' : World) : Prop :=
  ∃ b z, e = .returned (.pointer (some ⟨b, 0, none⟩)) ∧ w.heap.size ≤ b ∧ DiceAt w' o len cap b 0 z ∧ Below w.heap.size w w'
set_option maxHeartbeats 800000 in
set_option maxRecDepth 20000 in
theorem roll_any (o : Option Addr) (len cap : Nat) (w : World) (hl : len ≤ 4096) (hc : CodeIn w o len) :
    Calls Try.prog 18 #[.slice o len cap, .int .u64 203] w (RollPost o len cap w) := by
  have HN := Lib.hid (dice_new w o len cap (1607557 + (len : Int)) 65 hl hc (by omega) (by omega))
  clear hc
  go_enter Try.func18, Try.ntmps18
  go_wp2
  go_loopw [6] (fun iv wr => ∃ (k : Nat) (z : Int), k ≤ len ∧ iv = .int .i64 k ∧ DiceAt wr o len cap w.heap.size 0 z ∧ Below w.heap.size w wr) (fun iv _ => len - (intOf iv).toNat)
  case atStart => exact ⟨0, _, Nat.zero_le _, rfl, HN.out, (Below.refl _ _).alloc (Nat.le_refl _) _⟩
  case round =>
    obtain ⟨k, z, hk, rfl, hd, hb⟩ := hrel
    have a2 := hd.c2
    have az := hd.fz 2
    have HD := Lib.hid hd
    have HB := Lib.hid hb
    clear hd hb HN
    by_cases hlt : k < len
    · obtain ⟨b, off, rfl, hbp, hc⟩ : ∃ b off, o = some ⟨b, off, none⟩ ∧ b < w.heap.size ∧ ∀ i, i < len → ∃ z : Int, wr.cell? ⟨b, off + i, none⟩ = some (.int .u8 z) ∧ 0 ≤ z ∧ z ≤ 255 := by
        rcases HD.out.code with h0 | h0
        · omega
        · exact h0
      obtain ⟨x, hx, x0, x1⟩ := hc k hlt
      clear hc
      go_wp2
      go_still_tail 15, (by kernel_rfl)
      go_wp2
      exact ⟨⟨k + 1, _, by omega, by go_num, dice_drewN (dice_cell HD.out _ (u64_bd _).1 (u64_bd _).2) 1, (HB.out.setCell (Nat.le_refl _) _).drew⟩, by simp only [intOf]; omega⟩
    · go_wp2
      go_ret
      exact ⟨_, _, rfl, Nat.le_refl _, HD.out, HB.out⟩
set_option maxHeartbeats 800000 in
theorem below_any (o : Option Addr) (len cap b t : Nat) (z n : Int) (w : World) (h1 : 2 ≤ n) (h2 : n ≤ 97) (hd : DiceAt w o len cap b t z) :
    Calls Try.prog 19 #[.pointer (some ⟨b, 0, none⟩), .int .i64 n] w fun e w' => ∃ r : Int, e = .returned (.int .i64 r) ∧ 0 ≤ r ∧ r < n ∧ Below b w w' := by
  have c0 := hd.c0
  have c1 := hd.c1
  have c2 := hd.c2
  have f1 := hd.fz 1
  have f2 := hd.fz 2
  obtain ⟨X, hX, hX0, hX1⟩ := roll_bits (IntKind.u64.wrap (z * 6364136223846793005) + 1442695040888963407)
  obtain ⟨z', hz'⟩ : ∃ z', IntKind.u64.wrap (IntKind.u64.wrap (z * 6364136223846793005) + 1442695040888963407) = z' := ⟨_, rfl⟩
  rw [hz'] at hX
  have hz0 := hz' ▸ u64_bd (IntKind.u64.wrap (z * 6364136223846793005) + 1442695040888963407)
  have HD := Lib.hid (dice_cell hd z' hz0.1 hz0.2)
  clear hd
  have ht := HD.out.ht
  have hl := HD.out.hl
  go_enter Try.func19, Try.ntmps19
  go_wp2
  have HB : Hid (Below b w (w.setCell ⟨b, 2, none⟩ (.int .u64 z'))) := (Below.refl b w).setCell (Nat.le_refl _) _
  obtain ⟨W, hW⟩ : ∃ W, w.setCell ⟨b, 2, none⟩ (.int .u64 z') = W := ⟨_, rfl⟩
  rw [hW] at HD HB ⊢
  clear c0 c1 c2 f1 f2 hW
  have c0 := HD.out.c0
  have c1 := HD.out.c1
  have f1 := HD.out.fz 1
  have hn0 : (n == 0) = false := by simp; omega
  go_quiet (fail)
  simp only [hX]
  clear hX hz' hz0
  by_cases hlt : t < len
  · obtain ⟨b', off, rfl, hbp, hc⟩ : ∃ b' off, o = some ⟨b', off, none⟩ ∧ b' < b ∧ ∀ i, i < len → ∃ z : Int, W.cell? ⟨b', off + i, none⟩ = some (.int .u8 z) ∧ 0 ≤ z ∧ z ≤ 255 := by
      rcases HD.out.code with h0 | h0
      · omega
      · exact h0
    obtain ⟨x, hx, x0, x1⟩ := hc t hlt
    clear hc
    have hr0 := Int.emod_nonneg (X + x) (show n ≠ 0 by omega)
    have hr1 := Int.emod_lt_of_pos (X + x) (show 0 < n by omega)
    have hlt' : (t : Int) < (len : Int) := by omega
    have ht0 : (0 : Int) ≤ (t : Int) := by omega
    have hw : IntKind.i64.wrap (X + x) = X + x := IntWalk.i64_in _ ⟨by omega, by omega⟩
    go_wp2
    go_quiet (fail)
    go_wp2
    go_ret
    exact ⟨_, rfl, hr0, hr1, (below_drewN HB.out _).setCell (Nat.le_refl _) _⟩
  · have hr0 := Int.emod_nonneg X (show n ≠ 0 by omega)
    have hr1 := Int.emod_lt_of_pos X (show 0 < n by omega)
    go_wp2
    go_ret
    exact ⟨_, rfl, hr0, hr1, below_drewN HB.out _⟩
end Go.Proofs.Ytbolmmgkmgmfeaa
