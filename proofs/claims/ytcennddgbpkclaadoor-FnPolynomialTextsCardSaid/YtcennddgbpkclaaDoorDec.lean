/- Contract of the walk: spec.l01Dec answers the decimal digits of a number of at least 0. -/
import Derived.Test.YtcennddgbpkclaaDoorPrime
import Derived.Lib.ItoaNum
import Derived.Deep.QuietTactic
import Derived.BigQuiet
import Derived.Below
import Derived.WalkSpells
import Derived.Deep.RegionWith
import Derived.WalkLawsBesides
namespace Go.Proofs.YtcennddgbpkclaaDoor
open Go.RowKit
set_option linter.unusedVariables false
def bsOf (l : List UInt8) : ByteArray := ⟨l.toArray⟩
theorem conv_at (W : World) (g : Nat) (v : Int) (h : W.cell? ⟨g, 0, none⟩ = some (.int .u8 v)) : (convert 22 9 (.slice (some ⟨g, 0, none⟩) 1 1)).run Tryd.prog W = .ok (.string ⟨#[UInt8.ofNat v.toNat]⟩) W := by
  rw [run_convert_bytes_string _ 22 9 5 _ 1 1 Tryd.underlying22 Tryd.underlying5 Tryd.underlying9]
  have hl := run_loadCells_list (P := Tryd.prog) W ⟨g, 0, none⟩ ([v].map (Value.int .u8)) (fun j u hj => by
    match j, hj with
    | 0, hj => simp at hj; subst hj; simpa [Addr.add] using h)
  simp only [List.length_map, List.length_singleton] at hl
  rw [run_bytesToString _ _ 1 1 [v] hl]
  rfl
theorem ret_str {a b : ByteArray} (h : a = b) : Ending.returned (.string a) = .returned (.string b) := by rw [h]
theorem itoa_small {n : Int} (h0 : 0 ≤ n) (h : n < 10) : bsOf (Lib.itoa n) = ⟨#[UInt8.ofNat (48 + n).toNat]⟩ := by
  unfold bsOf Lib.itoa
  rw [if_neg (by omega), Lib.decDigits, dif_pos (by omega), show (48 + n).toNat = 48 + n.toNat by omega]
theorem itoa_big {n : Int} (h0 : 10 ≤ n) : bsOf (Lib.itoa n) = bsOf (Lib.itoa (n / 10)) ++ ⟨#[UInt8.ofNat (48 + n % 10).toNat]⟩ := by
  unfold bsOf Lib.itoa
  rw [if_neg (by omega), if_neg (by omega), Lib.decDigits, dif_neg (by omega), show (n / 10).toNat = n.toNat / 10 by omega, show (48 + n % 10).toNat = 48 + n.toNat % 10 by omega]
  apply ByteArray.ext
  simp
theorem decDigits_len : ∀ (k u : Nat), u < 10 ^ (k + 1) → (Lib.decDigits u).length ≤ k + 1
  | 0, u, h => by rw [Lib.decDigits, dif_pos (by omega)]; simp
  | k + 1, u, h => by
    rw [Lib.decDigits]
    split
    · simp
    · have h10 : u / 10 < 10 ^ (k + 1) := by
        rw [Nat.pow_succ] at h
        exact Nat.div_lt_of_lt_mul (by omega)
      have := decDigits_len k (u / 10) h10
      simp; omega
theorem itoa_size {n : Int} (h0 : 0 ≤ n) (h1 : n ≤ 4611686018427387904) : (bsOf (Lib.itoa n)).size ≤ 20 := by
  unfold bsOf Lib.itoa
  rw [if_neg (by omega)]
  have := decDigits_len 18 n.toNat (by omega)
  show (Lib.decDigits n.toNat).toArray.size ≤ 20
  simp; omega
theorem bcell {W w1 : World} (hb : Below W.heap.size W w1) : (∀ b o, b < W.heap.size → w1.cell? ⟨b, o, none⟩ = W.cell? ⟨b, o, none⟩) ∧ (∀ b o, b < W.heap.size → w1.frozen? ⟨b, o, none⟩ = W.frozen? ⟨b, o, none⟩) :=
  ⟨fun b o h => hb.cell (p := ⟨b, o, none⟩) h, fun b o h => hb.frozen (p := ⟨b, o, none⟩) h⟩
theorem dec_small (n : Int) (w : World) (h0 : 0 ≤ n) (h : n < 10) :
    Calls Tryd.prog 43 #[.int .i64 n] w fun e w' => e = .returned (.string (bsOf (Lib.itoa n))) ∧ Below w.heap.size w w' := by
  have hcv := conv_at
  have HE := Lib.hid (itoa_small h0 h)
  go_enter Tryd.func43, Tryd.ntmps43
  go_wp2_with fail
  go_ret
  exact ⟨ret_str HE.out.symm, (Below.refl _ _).alloc (Nat.le_refl _) _⟩
theorem dec_any (f : Nat) : ∀ (n : Int) (w : World), 0 ≤ n → n ≤ 4611686018427387904 → n.toNat < f →
    Calls Tryd.prog 43 #[.int .i64 n] w fun e w' => e = .returned (.string (bsOf (Lib.itoa n))) ∧ Below w.heap.size w w' := by
  induction f with
  | zero => intro n w _ _ h; omega
  | succ f ih =>
    intro n w h0 h1 hf
    by_cases h : n < 10
    · exact dec_small n w h0 h
    · have hcv := conv_at
      have h10 : 10 ≤ n := by omega
      have HE := Lib.hid (itoa_big h10)
      have IH := Lib.hid ih
      clear ih
      have e0 : n.tdiv 10 = n / 10 := Int.tdiv_eq_ediv_of_nonneg h0
      have e1 : IntKind.i64.wrap (n / 10) = n / 10 := IntWalk.i64_in _ (by omega)
      have e2 : n.tmod 10 = n % 10 := Int.tmod_eq_emod_of_nonneg h0
      have e3 : IntKind.i64.wrap (48 + n % 10) = 48 + n % 10 := IntWalk.i64_in _ (by omega)
      have e4 : IntKind.u8.wrap (48 + n % 10) = 48 + n % 10 := by
        simp only [IntKind.wrap, IntKind.bits, IntKind.signed]; simp; omega
      have hadd : ∀ wx, (Op.stringOp .add (bsOf (Lib.itoa (n / 10))) ⟨#[UInt8.ofNat (48 + n % 10).toNat]⟩).run Tryd.prog wx = .ok (.string (bsOf (Lib.itoa n))) wx := fun wx => by
        rw [HE.out]
        refine run_string_add_sum wx _ _ ?_
        have := itoa_size (n := n / 10) (by omega) (by omega)
        show (bsOf (Lib.itoa (n / 10))).size + 1 ≤ 9223372036854775807
        omega
      go_enter Tryd.func43, Tryd.ntmps43
      go_wp2_with fail
      go_region_with (go_at_call 43; refine (IH.out _ _ (by omega) (by omega) (by omega)).mono ?_; rintro e w' ⟨rfl, hb⟩; obtain ⟨hc, hf⟩ := bcell hb)
      all_goals
        go_wp2
        go_ret
        refine ⟨rfl, ?_⟩
        first
          | exact ((Below.refl _ _).drew.trans hb).alloc hb.size _
          | exact (((Below.refl _ _).alloc (Nat.le_refl _) _).drew).trans (hb.mono (by simp))
end Go.Proofs.YtcennddgbpkclaaDoor
