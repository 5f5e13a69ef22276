/- Contract of the walk: l01Damage answers a text with at most two bytes more than its own. -/
import Derived.Test.YtghhjeebcpcepaaDoorCommonFn
import Derived.IntWalk
import Derived.Test.YtghhjeebcpcepaaDoorDec
import Derived.Deep.QuietTactic
namespace Go.Proofs.YtghhjeebcpcepaaDoor
open Go.RowKit
set_option linter.unusedVariables false
/-- a text with at most two bytes more -/
def DamPost (n : Nat) (o : Option Addr) (len cap p : Nat) (w : World) (e : Ending) (w' : World) : Prop :=
  ∃ t : ByteArray, e = .returned (.string t) ∧ t.size ≤ n + 2 ∧ Src w' o len cap p ∧ w.grownBy w' (some p)
theorem lit8 (w : World) (T : TypeId) (r : Nat) (h : r < 8) : ∃ c : ByteArray, c.size = 1 ∧
    (w.alloc (.cells #[.string ⟨#[48]⟩, .string ⟨#[35]⟩, .string ⟨#[46]⟩, .string ⟨#[47]⟩, .string ⟨#[32]⟩, .string ⟨#[97]⟩, .string ⟨#[45]⟩, .string ⟨#[10]⟩] T)).cell? ⟨w.heap.size, r, none⟩ = some (.string c) := by
  rw [World.cell?_alloc_new]
  match r, h with
  | 0, _ => exact ⟨⟨#[48]⟩, rfl, rfl⟩
  | 1, _ => exact ⟨⟨#[35]⟩, rfl, rfl⟩
  | 2, _ => exact ⟨⟨#[46]⟩, rfl, rfl⟩
  | 3, _ => exact ⟨⟨#[47]⟩, rfl, rfl⟩
  | 4, _ => exact ⟨⟨#[32]⟩, rfl, rfl⟩
  | 5, _ => exact ⟨⟨#[97]⟩, rfl, rfl⟩
  | 6, _ => exact ⟨⟨#[45]⟩, rfl, rfl⟩
  | 7, _ => exact ⟨⟨#[10]⟩, rfl, rfl⟩
def litT : Array Value := #[.string ⟨#[48]⟩, .string ⟨#[35]⟩, .string ⟨#[46]⟩, .string ⟨#[47]⟩, .string ⟨#[32]⟩, .string ⟨#[97]⟩, .string ⟨#[45]⟩, .string ⟨#[10]⟩]
theorem dam_a {w w2 w3 : World} {o : Option Addr} {len cap p : Nat} {q : Int} {T : TypeId} (S2 : Src w2 o len cap p) (G2 : w.grownBy w2 (some p)) (q0 : 0 ≤ q) (q1 : q < 8 ∨ q = 0) (hs : Src w3 o len cap p)
    (hg : ((w2.drewN 1).alloc (.cells #[.string ⟨#[48]⟩, .string ⟨#[35]⟩, .string ⟨#[46]⟩, .string ⟨#[47]⟩, .string ⟨#[32]⟩, .string ⟨#[97]⟩, .string ⟨#[45]⟩, .string ⟨#[10]⟩] T)).grownBy w3 (some p)) :
    q < 8 ∧ ∃ c : ByteArray, c.size = 1 ∧ w3.cell? ⟨w2.heap.size, q.toNat, none⟩ = some (.string c) ∧ Hid (Src w3 o len cap p ∧ w.grownBy w3 (some p)) := by
  have q2 : q < 8 := by omega
  obtain ⟨c, hc1, hc⟩ := lit8 (w2.drewN 1) T q.toNat (by omega)
  refine ⟨q2, c, hc1, ?_, ⟨hs, grownBy_tr G2 (grownBy_tr (b := w2.drewN 1) ⟨rfl, rfl, rfl, Nat.le_refl _, fun _ _ _ => rfl⟩ (grownBy_tr (World.grownBy_alloc _ _ _) hg))⟩⟩
  have h := World.grownBy.cell_far hg ⟨w2.heap.size, q.toNat, none⟩ (World.block_lt_of_cell? _ _ hc) (by have := src_lt S2; simp; omega)
  rw [h]; exact hc
theorem dam_b {w w2 w3 : World} {o : Option Addr} {len cap p : Nat} {q : Int} (G2 : w.grownBy w2 (some p)) (q0 : 0 ≤ q) (q1 : q < 8 ∨ q = 0) (hs : Src w3 o len cap p)
    (hg : (w2.drewN 1).grownBy w3 (some p)) :
    q < 8 ∧ ∃ c : ByteArray, c.size = 1 ∧ (w3.alloc (.cells #[.string ⟨#[48]⟩, .string ⟨#[35]⟩, .string ⟨#[46]⟩, .string ⟨#[47]⟩, .string ⟨#[32]⟩, .string ⟨#[97]⟩, .string ⟨#[45]⟩, .string ⟨#[10]⟩] 9)).cell? ⟨w3.heap.size, q.toNat, none⟩ = some (.string c) ∧ Hid (Src w3 o len cap p ∧ w.grownBy w3 (some p)) := by
  have q2 : q < 8 := by omega
  obtain ⟨c, hc1, hc⟩ := lit8 w3 9 q.toNat (by omega)
  exact ⟨q2, c, hc1, hc, ⟨hs, grownBy_tr G2 (grownBy_tr (b := w2.drewN 1) ⟨rfl, rfl, rfl, Nat.le_refl _, fun _ _ _ => rfl⟩ hg)⟩⟩
theorem cut_len (t : ByteArray) (i j : Nat) : (t.extract i j).size ≤ t.size := by rw [ByteArray.size_extract]; omega
theorem app_len (a b : ByteArray) : (a ++ b).size = a.size + b.size := ByteArray.size_append
theorem dam_size {t c : ByteArray} {k : Int} (hk : k.toNat ≤ t.size) (_ : (t.extract 0 k.toNat).size ≤ t.size) (_ : (t.extract k.toNat t.size).size ≤ t.size) (hc : c.size = 1) :
    (t.extract 0 k.toNat ++ c ++ t.extract k.toNat t.size).size ≤ t.size + 2 := by
  rw [app_len, app_len, ByteArray.size_extract, ByteArray.size_extract]; omega
set_option maxHeartbeats 1600000 in
theorem damage_any (t : ByteArray) (o : Option Addr) (len cap p : Nat) (w : World) (ht : t.size ≤ 10000) (hs : Src w o len cap p) :
    Calls Tryd.prog 39 #[.pointer (some ⟨p, 0, none⟩), .string t] w (DamPost t.size o len cap p w) := by
  have HS := Lib.hid hs
  clear hs
  go_enter Tryd.func39, Tryd.ntmps39
  go_wp2_with fail
  refine (next_any _ _ _ _ _ _ (by omega) HS.out).mono ?_
  rintro e w1 ⟨k, rfl, k0, k1, hs1, hg1, hz1⟩
  have H1 := Lib.hid (And.intro hs1 hg1)
  have k2 : k ≤ (t.size : Int) := by omega
  have cl := cut_len t 0 k.toNat
  have cr := cut_len t k.toNat t.size
  clear hs1 hg1 hz1 k1
  go_wp2_with fail
  refine (next_any _ _ _ _ _ _ (by omega) H1.out.1).mono ?_
  rintro e w2 ⟨r, rfl, r0, r1, hs2, hg2, hz2⟩
  have H2 := Lib.hid (And.intro hs2 (grownBy_tr H1.out.2 hg2))
  have r2 : r < 8 := by omega
  clear hs2 hg2 hz2 r1
  by_cases e0 : r = 0
  · subst e0
    go_wp2
    go_ret
    exact ⟨_, rfl, by omega, H2.out.1, H2.out.2⟩
  · have e0' : (r == 0) = false := by simpa using e0
    by_cases e1 : r = 1
    · subst e1
      clear e0 e0'
      go_wp2_with fail
      go_region_with (first
        | (go_at_call 32; refine (next_any 8 o len cap p (World.alloc _ _) (by omega) (src_alloc (src_drewN H2.out.1 1) _)).mono ?_; rintro e w3 ⟨q, rfl, q0, q1, hs3, hg3, hz3⟩; obtain ⟨q2, c, hc1, hc, H3⟩ := dam_a H2.out.1 H2.out.2 q0 q1 hs3 hg3; have al := app_len (t.extract 0 k.toNat) c; clear hs3 hg3 hz3 q1)
        | (go_at_call 32; refine (next_any 8 o len cap p (World.drew _) (by omega) (src_drewN H2.out.1 1)).mono ?_; rintro e w3 ⟨q, rfl, q0, q1, hs3, hg3, hz3⟩; obtain ⟨q2, c, hc1, hc, H3⟩ := dam_b H2.out.2 q0 q1 hs3 hg3; have al := app_len (t.extract 0 k.toNat) c; clear hs3 hg3 hz3 q1))
      all_goals go_wp2
      all_goals go_ret
      · exact ⟨_, rfl, dam_size (by omega) cl cr hc1, H3.out⟩
      · exact ⟨_, rfl, dam_size (by omega) cl cr hc1, src_alloc H3.out.1 _, grownBy_tr H3.out.2 (World.grownBy_alloc _ _ _)⟩
    · have e1' : (r == 1) = false := by simpa using e1
      by_cases e2 : r = 2
      · subst e2
        clear e0 e0' e1 e1'
        by_cases hk : k < (t.size : Int)
        · have cr2 := cut_len t (k + 1).toNat t.size
          have hw : IntKind.i64.wrap (k + 1) = k + 1 := IntWalk.i64_in _ (by omega)
          have hk1 : (0 : Int) ≤ k + 1 := by omega
          have hk2 : k + 1 ≤ (t.size : Int) := by omega
          go_wp2
          go_quiet (fail)
          go_wp2
          go_ret
          exact ⟨_, rfl, by rw [app_len, ByteArray.size_extract, ByteArray.size_extract]; omega, src_drewN H2.out.1 _, grownBy_tr H2.out.2 ⟨rfl, rfl, rfl, Nat.le_refl _, fun _ _ _ => rfl⟩⟩
        · go_wp2
          go_ret
          exact ⟨_, rfl, by omega, H2.out.1, H2.out.2⟩
      · have e2' : (r == 2) = false := by simpa using e2
        clear e0 e1 e2
        go_wp2
        go_ret
        exact ⟨_, rfl, by omega, H2.out.1, H2.out.2⟩
end Go.Proofs.YtghhjeebcpcepaaDoor
