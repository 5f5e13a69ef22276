/- Contract of the walk: spec.l01PowersText answers the text of a list of prime powers that is as described. -/
import Derived.Test.YtghhjeebcpcepaaDoorPowText
import Derived.Test.YtghhjeebcpcepaaDoorArePow
import Derived.Lib.Join
namespace Go.Proofs.YtghhjeebcpcepaaDoor
open Go.RowKit
set_option linter.unusedVariables false
def accT (l : List (Int × Int)) (k : Nat) : List UInt8 := Lib.join ((l.take k).map pwT) [42]
def psT (l : List (Int × Int)) : List UInt8 := if l = [] then [49] else accT l l.length
theorem join_snoc (xs : List (List UInt8)) (x sep : List UInt8) (h : xs ≠ []) : Lib.join (xs ++ [x]) sep = Lib.join xs sep ++ sep ++ x := by
  match xs, h with
  | a :: r, _ =>
    rw [List.cons_append, Lib.join_cons, Lib.join_cons]
    simp [Lib.joinTail]
theorem accT_one {l : List (Int × Int)} {p : Int × Int} (h : 0 < l.length) (e : l.getD 0 (0, 0) = p) : accT l 1 = pwT p := by
  match l, h, e with
  | a :: r, _, e =>
    simp at e; subst e
    simp [accT, Lib.join_one]
theorem accT_succ {l : List (Int × Int)} {p : Int × Int} {k : Nat} (hk : 0 < k) (h : k < l.length) (e : l.getD k (0, 0) = p) : accT l (k + 1) = accT l k ++ [42] ++ pwT p := by
  unfold accT
  have e2 : l[k] = p := by rw [← e]; simp [List.getD, h]
  rw [List.take_succ_eq_append_getElem h, List.map_append, List.map_singleton, e2, join_snoc]
  intro hn
  have := congrArg List.length hn
  rw [List.length_map, List.length_take, List.length_nil] at this; omega
theorem pwT_len {a b : Int} (a0 : 0 ≤ a) (a1 : a ≤ 1000000) (b0 : 1 ≤ b) (b1 : b ≤ 40) : (pwT (a, b)).length ≤ 41 := by
  have h1 := itoa_size a0 (by omega)
  have h2 := itoa_size (n := b) (by omega) (by omega)
  rw [bs_size] at h1 h2
  unfold pwT; split
  · simp only; omega
  · simp; omega
/-- what a list as described has at each place -/
theorem arePow_at {l : List (Int × Int)} (h : arePowB l = true) {i : Nat} (hi : i < l.length) {x y : Int} (e : l.getD i (0, 0) = (x, y)) : 2 ≤ x ∧ x ≤ 1000000 ∧ 1 ≤ y ∧ y ≤ 40 := by
  have hok : okAt l i = true := by
    cases hb : okAt l i
    · rw [arePowB_bad hi hb] at h; cases h
    · rfl
  rw [okAt_last e] at hok
  simp only [Bool.and_eq_true] at hok
  have h1 : 2 ≤ x ∧ x ≤ 1000000 := by
    have := hok.1.2
    unfold isPrimeB inB at this; simp at this; exact ⟨this.1.1, this.1.2⟩
  have h2 : 1 ≤ y ∧ y ≤ 40 := by
    have := hok.2
    unfold inB at this; simpa using this
  exact ⟨h1.1, h1.2, h2.1, h2.2⟩
theorem arePow_len {l : List (Int × Int)} (h : arePowB l = true) : l.length ≤ 60 := by
  unfold arePowB at h; simp at h; exact h.1
theorem accT_len {l : List (Int × Int)} (h : arePowB l = true) : ∀ k, k ≤ l.length → (accT l k).length ≤ 42 * k := by
  intro k
  induction k with
  | zero => intro _; simp [accT, Lib.join_nil]
  | succ k ih =>
    intro hk
    obtain ⟨x, y, e⟩ : ∃ x y, l.getD k (0, 0) = (x, y) := ⟨_, _, rfl⟩
    obtain ⟨h1, h2, h3, h4⟩ := arePow_at h (by omega : k < l.length) e
    have hl := pwT_len (by omega) h2 h3 h4
    by_cases h0 : k = 0
    · subst h0; rw [accT_one (by omega) e]; omega
    · rw [accT_succ (by omega) (by omega) e]
      have := ih (by omega)
      simp; omega
theorem step_first_one {l : List (Int × Int)} {x : Int} (h : accT l 1 = pwT (x, 1)) : bsOf (accT l 0) ++ bsOf (Lib.itoa x) = bsOf (accT l 1) := by
  rw [h, bs_append]; rfl
theorem step_first_more {l : List (Int × Int)} {x y : Int} (h : accT l 1 = pwT (x, y)) (hy : y ≠ 1) : bsOf (accT l 0) ++ bsOf (Lib.itoa x) ++ bsOf [94] ++ bsOf (Lib.itoa y) = bsOf (accT l 1) := by
  rw [h, pwT_more hy, bs_append (accT l 0)]; rfl
theorem step_next_one {l : List (Int × Int)} {x : Int} {k : Nat} (h : accT l (k + 1) = accT l k ++ [42] ++ pwT (x, 1)) : bsOf (accT l k) ++ bsOf [42] ++ bsOf (Lib.itoa x) = bsOf (accT l (k + 1)) := by
  rw [h, bs_append, bs_append]; rfl
theorem step_next_more {l : List (Int × Int)} {x y : Int} {k : Nat} (h : accT l (k + 1) = accT l k ++ [42] ++ pwT (x, y)) (hy : y ≠ 1) : bsOf (accT l k) ++ bsOf [42] ++ bsOf (Lib.itoa x) ++ bsOf [94] ++ bsOf (Lib.itoa y) = bsOf (accT l (k + 1)) := by
  rw [h, bs_append, bs_append, bs_append, bs_append]
  unfold pwT; rw [if_neg hy]; simp
theorem str_eq {a b : ByteArray} (h : a = b) : Value.string a = Value.string b := by rw [h]
theorem bs_pwT_one (x : Int) : bsOf (pwT (x, 1)) = bsOf (Lib.itoa x) := rfl
set_option maxHeartbeats 1600000 in
theorem l01PowersText_any (base : Nat) (o : Option Addr) (c : Nat) (l : List (Int × Int)) (w : World) (hl : arePowB l = true) (hr : PowRow base w (.slice o l.length c) l) :
    Calls Tryd.prog 38 #[.slice o l.length c] w fun e w' => e = .returned (.string (bsOf (psT l))) ∧ Below w.heap.size w w' := by
  have HR := Lib.hid hr
  have HL := Lib.hid hl
  have h60 := arePow_len hl
  clear hr hl
  by_cases h0 : l.length = 0
  · have hnil : l = [] := List.length_eq_zero_iff.1 h0
    subst hnil
    go_enter Tryd.func38, Tryd.ntmps38
    go_wp2
    go_ret
    exact ⟨rfl, Below.refl _ _⟩
  · have HE : Hid (psT l = accT l l.length) := by
      show psT l = accT l l.length
      unfold psT; rw [if_neg (by intro h; apply h0; rw [h]; rfl)]
    have h0' : 0 < l.length := by omega
    have h0'' : ((l.length : Int) == 0) = false := beq_eq_false_iff_ne.2 (by omega)
    clear h0
    go_enter Tryd.func38, Tryd.ntmps38
    go_wp2
    go_loopw [3, 4] (fun s i wr => ∃ k : Nat, k ≤ l.length ∧ i = .int .i64 k ∧ s = .string (bsOf (accT l k)) ∧ Below w.heap.size w wr) (fun _ i _ => l.length - (intOf i).toNat)
    case atStart => exact ⟨0, Nat.zero_le _, rfl, rfl, Below.refl _ _⟩
    case round =>
      obtain ⟨k, hk, rfl, rfl, hb⟩ := hrel
      by_cases hlt : k < l.length
      · rcases row_shape HR.out with ⟨hz, _⟩ | ⟨_, g, c', hv, hbg, hg⟩
        · omega
        · cases hv
          obtain ⟨a1, a2⟩ := pow_cells HR.out k hlt
          rw [← hb.cell (by exact hg)] at a1 a2
          obtain ⟨x1, y1, e1⟩ : ∃ x y, l.getD k (0, 0) = (x, y) := ⟨_, _, rfl⟩
          rw [e1] at a1 a2
          simp only at a1 a2
          obtain ⟨x0, x2, y0, y2⟩ := arePow_at HL.out hlt e1
          have s0 := accT_len HL.out k hk
          rw [← bs_size] at s0
          have s1 := itoa_size (n := x1) (by omega) (by omega)
          have s2 := itoa_size (n := y1) (by omega) (by omega)
          have hgw : g < wr.heap.size := by have := hb.size; omega
          have HB := Lib.hid hb
          clear hb
          by_cases hk0 : k = 0
          · subst hk0
            have ha := accT_one h0' e1
            clear e1
            by_cases hy : y1 = 1
            · have HA := Lib.hid (step_first_one (hy ▸ ha))
              clear ha
              subst hy
              go_wp2_with fail
              refine (dec_any 1000001 _ _ (by omega) (by omega) (by omega)).mono ?_
              rintro e w1 ⟨rfl, hb1⟩
              obtain ⟨hc1, hf1⟩ := bcell hb1
              have HB1 := Lib.hid (HB.out.trans (hb1.mono HB.out.size))
              have hs1 := hb1.size
              clear hb1
              go_wp2
              exact ⟨⟨0 + 1, by omega, by go_num, str_eq HA.out, HB1.out⟩, by simp only [intOf]; omega⟩
            · have HA := Lib.hid (step_first_more ha hy)
              clear ha
              have hy' : (y1 != 1) = true := by simpa using hy
              clear hy
              go_wp2_with fail
              refine (dec_any 1000001 _ _ (by omega) (by omega) (by omega)).mono ?_
              rintro e w1 ⟨rfl, hb1⟩
              obtain ⟨hc1, hf1⟩ := bcell hb1
              have HB1 := Lib.hid (HB.out.trans (hb1.mono HB.out.size))
              have hs1 := hb1.size
              clear hb1
              go_wp2_with fail
              refine (dec_any 1000001 _ _ (by omega) (by omega) (by omega)).mono ?_
              rintro e w2 ⟨rfl, hb2⟩
              obtain ⟨hc2, hf2⟩ := bcell hb2
              have HB2 := Lib.hid (HB1.out.trans (hb2.mono HB1.out.size))
              have hs2 := hb2.size
              clear hb2
              go_wp2
              exact ⟨⟨0 + 1, by omega, by go_num, str_eq HA.out, HB2.out⟩, by simp only [intOf]; omega⟩
          · have ha := accT_succ (by omega) hlt e1
            have hkp : 0 < k := by omega
            clear e1 hk0
            by_cases hy : y1 = 1
            · have HA := Lib.hid (step_next_one (hy ▸ ha))
              clear ha
              subst hy
              go_wp2_with fail
              refine (dec_any 1000001 _ _ (by omega) (by omega) (by omega)).mono ?_
              rintro e w1 ⟨rfl, hb1⟩
              obtain ⟨hc1, hf1⟩ := bcell hb1
              have HB1 := Lib.hid (HB.out.trans (hb1.mono HB.out.size))
              have hs1 := hb1.size
              clear hb1
              go_wp2
              exact ⟨⟨k + 1, by omega, by go_num, str_eq HA.out, HB1.out⟩, by simp only [intOf]; omega⟩
            · have HA := Lib.hid (step_next_more ha hy)
              clear ha
              have hy' : (y1 != 1) = true := by simpa using hy
              clear hy
              go_wp2_with fail
              refine (dec_any 1000001 _ _ (by omega) (by omega) (by omega)).mono ?_
              rintro e w1 ⟨rfl, hb1⟩
              obtain ⟨hc1, hf1⟩ := bcell hb1
              have HB1 := Lib.hid (HB.out.trans (hb1.mono HB.out.size))
              have hs1 := hb1.size
              clear hb1
              go_wp2_with fail
              refine (dec_any 1000001 _ _ (by omega) (by omega) (by omega)).mono ?_
              rintro e w2 ⟨rfl, hb2⟩
              obtain ⟨hc2, hf2⟩ := bcell hb2
              have HB2 := Lib.hid (HB1.out.trans (hb2.mono HB1.out.size))
              have hs2 := hb2.size
              clear hb2
              go_wp2
              exact ⟨⟨k + 1, by omega, by go_num, str_eq HA.out, HB2.out⟩, by simp only [intOf]; omega⟩
      · have hkl : k = l.length := by omega
        have HK := Lib.hid hkl
        clear hkl
        go_wp2
        go_ret
        exact ⟨ret_str (by rw [HE.out, HK.out]), hb⟩
end Go.Proofs.YtghhjeebcpcepaaDoor
