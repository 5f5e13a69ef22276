/- Contract of the walk: l01From lays a source of draws over a code of at most 4096 bytes, in a new block. -/
import Derived.Test.YtmkelfkbbdfjdaaPick
namespace Go.Proofs.Ytmkelfkbbdfjdaa
open Go.RowKit
set_option linter.unusedVariables false
/-- a code that came in -/
def CodeIn (w : World) (o : Option Addr) (len : Nat) : Prop :=
  len = 0 ∨ ∃ b off, o = some ⟨b, off, none⟩ ∧ b < w.heap.size ∧ ∀ i, i < len → ∃ z : Int, w.cell? ⟨b, off + i, none⟩ = some (.int .u8 z) ∧ 0 ≤ z ∧ z ≤ 255
def FromPost (o : Option Addr) (len cap : Nat) (w : World) (e : Ending) (w' : World) : Prop :=
  ∃ p, e = .returned (.pointer (some ⟨p, 0, none⟩)) ∧ w.heap.size ≤ p ∧ Src w' o len cap p ∧ Below w.heap.size w w'
theorem srcAt_new (w : World) (o : Option Addr) (len cap : Nat) (T : TypeId) (hl : len ≤ 4096) (hc : CodeIn w o len) :
    SrcAt (w.alloc (.cells #[.slice o len cap, .int .i64 0, .int .i64 31019] T)) o len cap w.heap.size 0 31019 := by
  refine ⟨?_, ?_, ?_, fun i => World.frozen?_alloc_at _ _ _ _ rfl, Nat.zero_le _, hl, by omega, by omega, ?_⟩
  · rw [World.cell?_alloc_new]; rfl
  · rw [World.cell?_alloc_new]; rfl
  · rw [World.cell?_alloc_new]; rfl
  · rcases hc with h0 | ⟨b, off, ho, hb, hc⟩
    · exact .inl h0
    · refine .inr ⟨b, off, ho, hb, fun i hi => ?_⟩
      rw [World.cell?_alloc_past _ _ _ hb]; exact hc i hi
set_option maxRecDepth 20000 in
set_option maxHeartbeats 800000 in
theorem from_any (o : Option Addr) (len cap : Nat) (w : World) (hl : len ≤ 4096) (hc : CodeIn w o len) :
    Calls Try.prog 25 #[.slice o len cap] w (FromPost o len cap w) := by
  have HN := Lib.hid (srcAt_new w o len cap 68 hl hc)
  clear hc
  go_enter Try.func25, Try.ntmps25
  go_wp2
  go_loopw [4] (fun i wr => ∃ (k : Nat) (s : Int), k ≤ len ∧ i = .int .i64 k ∧ SrcAt wr o len cap w.heap.size 0 s ∧ Below w.heap.size w wr) (fun i _ => len - (intOf i).toNat)
  case atStart => exact ⟨0, 31019, Nat.zero_le _, rfl, HN.out, (Below.refl _ _).alloc (Nat.le_refl _) _⟩
  case round =>
    obtain ⟨k, s, hk, rfl, hs, hb⟩ := hrel
    have s0 := hs.s0
    have s1 := hs.s1
    have a2 := hs.c2
    have az := hs.fz 2
    have HS := Lib.hid hs
    have HB := Lib.hid hb
    clear hs hb HN
    by_cases hlt : k < len
    · by_cases h64 : k < 64
      · obtain ⟨b, off, rfl, hbp, hc⟩ : ∃ b off, o = some ⟨b, off, none⟩ ∧ b < w.heap.size ∧ ∀ i, i < len → ∃ z : Int, wr.cell? ⟨b, off + i, none⟩ = some (.int .u8 z) ∧ 0 ≤ z ∧ z ≤ 255 := by
          rcases HS.out.code with h0 | h0
          · omega
          · exact h0
        obtain ⟨z, hz, z0, z1⟩ := hc k hlt
        clear hc
        go_wp2
        go_still_tail 15, (by kernel_rfl)
        go_wp2
        exact ⟨⟨k + 1, (s * 61 + z) % 2147483647, by omega, by go_num, srcAt_drewN (srcAt_seed HS.out (by omega) (by omega)) 1, (HB.out.setCell (Nat.le_refl _) _).drew⟩, by simp only [intOf]; omega⟩
      · go_wp2
        go_ret
        exact ⟨_, rfl, Nat.le_refl _, ⟨_, _, HS.out⟩, HB.out⟩
    · go_wp2
      go_ret
      exact ⟨_, rfl, Nat.le_refl _, ⟨_, _, HS.out⟩, HB.out⟩
end Go.Proofs.Ytmkelfkbbdfjdaa
