/- Contracts of the walk: chapter 8: remainders and inverses, lists cut and copied. -/
import Derived.Test.YtidcpmhbkldpeaaModAux
import Derived.Test.YtidcpmhbkldpeaaRing
import Derived.Test.YtidcpmhbkldpeaaBezPos
import Derived.Test.YtidcpmhbkldpeaaPolyBase
import Derived.Test.YtidcpmhbkldpeaaPolyLaw0
namespace Go.Proofs.Ytidcpmhbkldpeaa
open Go.RowKit
set_option linter.unusedVariables false
set_option maxRecDepth 20000
set_option linter.unusedSimpArgs false
theorem ringM_8 {p : Int} (hs : smallB p = true) : ringM p 1 = p := by
  obtain ⟨_, hp⟩ := smallB_bd hs
  have : p ^ (1 : Int).toNat = p := by simp [Int.pow_succ]
  unfold ringM
  rw [this, hs]
  simp [show p ≤ 1000000000 by omega]
theorem remainder8_any (x m : Int) (w : World) (h1 : 2 ≤ m) (h2 : m ≤ 1000000000) :
    Calls Try.prog 99 #[.int .i64 x, .int .i64 m] w fun e w' => e = .returned (.int .i64 (x % m)) ∧ w = w' := by
  have hm : (m == 0) = false := by simp; omega
  have hb := tmod_bd (x := x) (show 0 < m by omega)
  by_cases h : x.tmod m < 0
  · have HE := Lib.hid (rem_neg (by omega) h)
    go_enter Try.func99, Try.ntmps99
    go_wp2
    go_ret
    exact ⟨ret_int HE.out, rfl⟩
  · have HE := Lib.hid (rem_pos (by omega) h)
    go_enter Try.func99, Try.ntmps99
    go_wp2
    go_ret
    exact ⟨ret_int HE.out, rfl⟩
theorem mod8_any (x m : Int) (w : World) (h1 : 2 ≤ m) (h2 : m ≤ 1000000000) :
    Calls Try.prog 83 #[.int .i64 x, .int .i64 m] w fun e w' => e = .returned (.int .i64 (x % m)) ∧ w = w' := by
  have hm : (m == 0) = false := by simp; omega
  have hb := tmod_bd (x := x) (show 0 < m by omega)
  have HE := Lib.hid (mod_twice2 (x := x) (show 0 < m by omega))
  go_enter Try.func83, Try.ntmps83
  go_wp2
  go_ret
  exact ⟨ret_int HE.out, rfl⟩
theorem inverse8_any (a m : Int) (w : World) (h1 : 0 ≤ a) (h2 : a < m) (hm1 : 2 ≤ m) (hm2 : m ≤ 1000000000) :
    Calls Try.prog 97 #[.int .i64 a, .int .i64 m] w fun e w' => e = .returned (.int .i64 (bezX a m % m)) ∧ w = w' := by
  have hva : valueB a = true := valueB_t (by omega) (by omega)
  have hvm : valueB m = true := valueB_t (by omega) (by omega)
  go_enter Try.func97, Try.ntmps97
  go_wp2_with (first | (go_at_call 116; refine (implBez_val _ _ _ hva hvm).mono ?_; rintro e wn ⟨rfl, rfl⟩) | (go_at_call 99; refine (remainder8_any _ _ _ hm1 hm2).mono ?_; rintro e wn ⟨rfl, rfl⟩))
  go_ret
  exact ⟨rfl, rfl⟩
theorem l02Inv8_any (a m : Int) (w : World) (h1 : 0 ≤ a) (h2 : a < m) (hm1 : 2 ≤ m) (hm2 : m ≤ 1000000000) :
    Calls Try.prog 82 #[.int .i64 a, .int .i64 m] w fun e w' => e = .returned (.int .i64 (bezX a m % m)) ∧ w = w' := by
  have hv1 : -1000000000000 ≤ a := by omega
  have hv2 : a ≤ 1000000000000 := by omega
  have hv3 : -1000000000000 ≤ m := by omega
  have hv4 : m ≤ 1000000000000 := by omega
  go_enter Try.func82, Try.ntmps82
  go_wp2_with (first | (go_at_call 104; refine (l01Bez_any _ _ _ hv1 hv2 hv3 hv4).mono ?_; rintro e wn ⟨rfl, rfl⟩) | (go_at_call 83; refine (mod8_any _ _ _ hm1 hm2).mono ?_; rintro e wn ⟨rfl, rfl⟩))
  go_ret
  exact ⟨rfl, rfl⟩
/-- the ring by p: its two numbers -/
abbrev R1 (p : Int) : Value := .agg #[.int .i64 p, .int .i64 1]
theorem modulus8_any (p : Int) (hs : smallB p = true) (w : World) :
    Calls Try.prog 85 #[R1 p] w fun e w' => e = .returned (.int .i64 p) ∧ Below w.heap.size w w' := by
  have h := implModulus_any p 1 w
  rw [ringM_8 hs] at h
  exact h
theorem ringBy_any (p : Int) (w : World) :
    Calls Try.prog 38 #[.int .i64 p] w fun e w' => e = .returned (R1 p) ∧ Below w.heap.size w w' := by
  have hb : Below w.heap.size w (w.alloc (.cells #[.int .i64 p, .int .i64 1] 47)) := (Below.refl _ _).alloc (Nat.le_refl _) _
  go_enter Try.func38, Try.ntmps38
  go_wp2
  exact bodyPost_ret (v := R1 p) (by simp [results, Try.results38, go_sem]) rfl ⟨rfl, hb⟩
/-! lists -/
/-- a list that lies in a row from some place on -/
def SeenD (w : World) (o : Option Addr) (n c : Nat) (l : List Int) : Prop :=
  n = l.length ∧ n ≤ 1100000 ∧ (o = none → c = 0) ∧ n ≤ c ∧ ∃ g d, (0 < n → o = some ⟨g, d, none⟩ ∧ g < w.heap.size) ∧ ∀ k, k < n → w.cell? ⟨g, d + k, none⟩ = some (.int .i64 (l.getD k 0))
theorem seen_d {w : World} {o : Option Addr} {n c : Nat} {l : List Int} (h : Seen w o n c l) : SeenD w o n c l := by
  obtain ⟨hl, hn, ho, hnc, g, h1, h2⟩ := h
  exact ⟨hl, hn, ho, hnc, g, 0, h1, fun k hk => by rw [Nat.zero_add]; exact h2 k hk⟩
theorem seenD_below {w w' : World} {o : Option Addr} {n c : Nat} {l : List Int} (h : SeenD w o n c l) (hb : Below w.heap.size w w') : SeenD w' o n c l := by
  obtain ⟨hl, hn, ho, hnc, g, d, h1, h2⟩ := h
  refine ⟨hl, hn, ho, hnc, g, d, fun h0 => ⟨(h1 h0).1, by have := (h1 h0).2; have := hb.size; omega⟩, fun i hi => ?_⟩
  rw [hb.cell (p := ⟨g, d + i, none⟩) (h1 (by omega)).2]; exact h2 i hi
end Go.Proofs.Ytidcpmhbkldpeaa
