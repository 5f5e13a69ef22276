/- Contract of the walk: impl.powerText answers the text of one prime power. -/
import Derived.Test.YtohncnihgfmfkaaDoorDec
import Derived.Test.YtohncnihgfmfkaaDoorShelf
import Derived.Test.YtohncnihgfmfkaaDoorPowRow
import Derived.WalkSmall
import Derived.Sort.Grow
namespace Go.Proofs.YtohncnihgfmfkaaDoor
open Go.RowKit Go.Sort
set_option linter.unusedVariables false
/-- the table of powers of ten that strconv reads -/
def Tab (w : World) : Prop := Lib.TabIs Tryd.prog w "internal/strconv.uint64pow10" .u64 Lib.pow10Tab
theorem below_grow (w : World) (k : Nat) (os : Array Obj) : Below w.heap.size w (grow (w.drewN k) os) :=
  ⟨rfl, rfl, rfl, by simp [grow, World.drewN], fun i hi => by
    show (w.heap ++ os)[i]? = w.heap[i]?
    rw [Array.getElem?_append_left hi]⟩
theorem format_any (n : Int) (w : World) (h0 : -9223372036854775808 ≤ n) (h1 : n ≤ 9223372036854775807) (ht : Tab w) :
    Calls Tryd.prog 32 #[.int .i64 n, .int .i64 10] w fun e w' => e = .returned (.string (bsOf (Lib.itoa n))) ∧ Below w.heap.size w w' :=
  (Tryd.strconv_FormatInt_10 n h0 h1 w ht).mono fun e w' ⟨he, k, os, hw⟩ => ⟨he, hw ▸ below_grow w k os⟩
theorem gTab : Tryd.prog.globalNamed "internal/strconv.uint64pow10" = some 0 := by kernel_rfl
theorem tab_below {w w' : World} {B : Nat} (h : Tab w) (hb : Below B w w') (hB : w.heap.size ≤ B) : Tab w' := by
  have h0 := h
  unfold Tab Lib.TabIs World.var? at h0
  simp only [gTab, Option.bind_some] at h0
  have hlt : 0 < w.heap.size := by
    refine Nat.lt_of_not_le fun hle => ?_
    rw [Array.getElem?_eq_none hle] at h0
    simp at h0
  exact var?_below hb gTab (by omega) h
def pwT (p : Int × Int) : List UInt8 := if p.2 = 1 then Lib.itoa p.1 else Lib.itoa p.1 ++ (94 :: Lib.itoa p.2)
theorem bs_append (a b : List UInt8) : bsOf a ++ bsOf b = bsOf (a ++ b) := by
  unfold bsOf; apply ByteArray.ext; simp
theorem bs_size (a : List UInt8) : (bsOf a).size = a.length := by unfold bsOf; simp [ByteArray.size]
theorem add_any (a b : ByteArray) (h : a.size + b.size ≤ 100000) (wx : World) : (Op.stringOp .add a b).run Tryd.prog wx = .ok (.string (a ++ b)) wx := run_string_add_sum wx a b (by omega)
theorem pwT_one (a : Int) : pwT (a, 1) = Lib.itoa a := rfl
theorem pwT_more {a b : Int} (h : b ≠ 1) : bsOf (pwT (a, b)) = bsOf (Lib.itoa a) ++ bsOf [94] ++ bsOf (Lib.itoa b) := by
  unfold pwT; rw [if_neg h, bs_append, bs_append]; simp
set_option maxHeartbeats 400000 in
theorem powerText_any (a b : Int) (w : World) (ht : Tab w) (a0 : 0 ≤ a) (a1 : a ≤ 1000000) (b0 : 1 ≤ b) (b1 : b ≤ 40) :
    Calls Tryd.prog 21 #[.agg #[.int .i64 a, .int .i64 b]] w fun e w' => e = .returned (.string (bsOf (pwT (a, b)))) ∧ Below w.heap.size w w' := by
  have HT := Lib.hid (tab_below ht ((Below.refl w.heap.size w).alloc (Nat.le_refl _) (.cells #[.int .i64 a, .int .i64 b] 40)) (Nat.le_refl _))
  clear ht
  by_cases h1 : b = 1
  · subst h1
    go_enter Tryd.func21, Tryd.ntmps21
    go_wp2_with fail
    refine (format_any _ _ (by omega) (by omega) HT.out).mono ?_
    rintro e w1 ⟨rfl, hb⟩
    obtain ⟨hc, hf⟩ := bcell hb
    have HB := Lib.hid hb
    clear hb
    go_wp2
    go_ret
    exact ⟨rfl, ((Below.refl _ _).alloc (Nat.le_refl _) _).trans (HB.out.mono (by simp))⟩
  · have h1' : (b == 1) = false := by simpa using h1
    have HE := Lib.hid (pwT_more (a := a) h1)
    have s1 := itoa_size a0 (by omega)
    have s2 := itoa_size (n := b) (by omega) (by omega)
    have A1 := Lib.hid (add_any (bsOf (Lib.itoa a)) (bsOf [94]) (by rw [bs_size [94]]; simp; omega))
    have A2 := Lib.hid (add_any (bsOf (Lib.itoa a) ++ bsOf [94]) (bsOf (Lib.itoa b)) (by
      have : (bsOf (Lib.itoa a) ++ bsOf [94]).size = (bsOf (Lib.itoa a)).size + 1 := by rw [bs_append, bs_size, bs_size]; simp
      omega))
    clear h1
    go_enter Tryd.func21, Tryd.ntmps21
    go_wp2_with fail
    refine (format_any _ _ (by omega) (by omega) HT.out).mono ?_
    rintro e w1 ⟨rfl, hb⟩
    obtain ⟨hc, hf⟩ := bcell hb
    have HB := Lib.hid hb
    have HT1 := Lib.hid (tab_below HT.out hb (Nat.le_refl _))
    clear hb
    have a1' := A1.out
    have a2' := A2.out
    go_wp2_with fail
    refine (format_any _ _ (by omega) (by omega) HT1.out).mono ?_
    rintro e w2 ⟨rfl, hb2⟩
    have HB2 := Lib.hid hb2
    clear hb2
    go_wp2
    go_ret
    exact ⟨ret_str HE.out.symm, (((Below.refl _ _).alloc (Nat.le_refl _) _).trans (HB.out.mono (by simp))).trans (HB2.out.mono (by have := HB.out.size; simp at this; omega))⟩
end Go.Proofs.YtohncnihgfmfkaaDoor
