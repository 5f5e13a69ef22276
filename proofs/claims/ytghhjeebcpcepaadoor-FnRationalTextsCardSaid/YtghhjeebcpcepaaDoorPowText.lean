/- Contract of the walk: impl.pairText answers the text of two numbers with a mark between them, the text of one prime power among them. -/
import Derived.Test.YtghhjeebcpcepaaDoorDec
import Derived.Test.YtghhjeebcpcepaaDoorShelf
import Derived.Test.YtghhjeebcpcepaaDoorPowRow
import Derived.WalkSmall
import Derived.Sort.Grow
namespace Go.Proofs.YtghhjeebcpcepaaDoor
open Go.RowKit Go.Sort
set_option linter.unusedVariables false
/-- the table of powers of ten that strconv reads -/
def Tab (w : World) : Prop := Lib.TabIs Tryd.prog w "internal/strconv.uint64pow10" .u64 Lib.pow10Tab
theorem below_grow (w : World) (k : Nat) (os : Array Obj) : Below w.heap.size w (grow (w.drewN k) os) :=
  ⟨rfl, rfl, rfl, by simp [grow, World.drewN], fun i hi => by
    show (w.heap ++ os)[i]? = w.heap[i]?
    rw [Array.getElem?_append_left hi]⟩
theorem format_any (n : Int) (w : World) (h0 : -9223372036854775808 ≤ n) (h1 : n ≤ 9223372036854775807) (ht : Tab w) :
    Calls Tryd.prog 54 #[.int .i64 n, .int .i64 10] w fun e w' => e = .returned (.string (bsOf (Lib.itoa n))) ∧ Below w.heap.size w w' :=
  (Tryd.strconv_FormatInt_10 n h0 h1 w ht).mono fun e w' ⟨he, k, os, hw⟩ => ⟨he, hw ▸ below_grow w k os⟩
theorem gTab : Tryd.prog.globalNamed "internal/strconv.uint64pow10" = some 0 := by kernel_rfl
theorem tab_below {w w' : World} {B : Nat} (h : Tab w) (hb : Below B w w') (hB : w.heap.size ≤ B) : Tab w' := by
  have h0 := h
  unfold Tab Lib.TabIs World.var? at h0
  simp only [gTab, Option.bind_some] at h0
  have hlt : 0 < w.heap.size := by
    refine Nat.lt_of_not_le fun hle => ?_
    rw [Array.getElem?_eq_none hle] at h0
    simp at h0
  exact var?_below hb gTab (by omega) h
def pwT (p : Int × Int) : List UInt8 := if p.2 = 1 then Lib.itoa p.1 else Lib.itoa p.1 ++ (94 :: Lib.itoa p.2)
theorem bs_append (a b : List UInt8) : bsOf a ++ bsOf b = bsOf (a ++ b) := by
  unfold bsOf; apply ByteArray.ext; simp
theorem bs_size (a : List UInt8) : (bsOf a).size = a.length := by unfold bsOf; simp [ByteArray.size]
theorem add_any (a b : ByteArray) (h : a.size + b.size ≤ 100000) (wx : World) : (Op.stringOp .add a b).run Tryd.prog wx = .ok (.string (a ++ b)) wx := run_string_add_sum wx a b (by omega)
theorem pwT_one (a : Int) : pwT (a, 1) = Lib.itoa a := rfl
theorem pwT_more {a b : Int} (h : b ≠ 1) : bsOf (pwT (a, b)) = bsOf (Lib.itoa a) ++ bsOf [94] ++ bsOf (Lib.itoa b) := by
  unfold pwT; rw [if_neg h, bs_append, bs_append]; simp
/-- two numbers with a mark between them -/
def pairT (m : UInt8) (a b : Int) : List UInt8 := if b = 1 then Lib.itoa a else Lib.itoa a ++ (m :: Lib.itoa b)
theorem pairT_more {m : UInt8} {a b : Int} (h : b ≠ 1) : bsOf (pairT m a b) = bsOf (Lib.itoa a) ++ ⟨#[m]⟩ ++ bsOf (Lib.itoa b) := by
  show _ = bsOf (Lib.itoa a) ++ bsOf [m] ++ bsOf (Lib.itoa b)
  unfold pairT; rw [if_neg h, bs_append, bs_append]; simp
set_option maxHeartbeats 400000 in
theorem pairText_any (m : UInt8) (a b : Int) (w : World) (ht : Tab w) (a0 : -1000000000000 ≤ a) (a1 : a ≤ 1000000000000) (b0 : 0 ≤ b) (b1 : b ≤ 1000000000000) (s1 : (bsOf (Lib.itoa a)).size ≤ 1000) (s2 : (bsOf (Lib.itoa b)).size ≤ 1000) :
    Calls Tryd.prog 35 #[.int .i64 a, .string ⟨#[m]⟩, .int .i64 b] w fun e w' => e = .returned (.string (bsOf (pairT m a b))) ∧ Below w.heap.size w w' := by
  have HT := Lib.hid ht
  clear ht
  by_cases h1 : b = 1
  · subst h1
    go_enter Tryd.func35, Tryd.ntmps35
    go_wp2_with fail
    refine (format_any _ _ (by omega) (by omega) HT.out).mono ?_
    rintro e w1 ⟨rfl, hb⟩
    have HB := Lib.hid hb
    clear hb
    go_wp2
    go_ret
    exact ⟨rfl, HB.out⟩
  · have h1' : (b == 1) = false := by simpa using h1
    have HE := Lib.hid (pairT_more (m := m) (a := a) h1)
    have sm : (⟨#[m]⟩ : ByteArray).size = 1 := rfl
    have A1 := Lib.hid (add_any (bsOf (Lib.itoa a)) ⟨#[m]⟩ (by omega))
    have A2 := Lib.hid (add_any (bsOf (Lib.itoa a) ++ ⟨#[m]⟩) (bsOf (Lib.itoa b)) (by
      have : (bsOf (Lib.itoa a) ++ ⟨#[m]⟩).size = (bsOf (Lib.itoa a)).size + 1 := by rw [ByteArray.size_append, sm]
      omega))
    clear h1 sm
    go_enter Tryd.func35, Tryd.ntmps35
    go_wp2_with fail
    refine (format_any _ _ (by omega) (by omega) HT.out).mono ?_
    rintro e w1 ⟨rfl, hb⟩
    have HB := Lib.hid hb
    have HT1 := Lib.hid (tab_below HT.out hb (Nat.le_refl _))
    clear hb
    have a1' := A1.out
    have a2' := A2.out
    go_wp2_with fail
    refine (format_any _ _ (by omega) (by omega) HT1.out).mono ?_
    rintro e w2 ⟨rfl, hb2⟩
    have HB2 := Lib.hid hb2
    clear hb2
    go_wp2
    go_ret
    exact ⟨ret_str HE.out.symm, HB.out.trans (HB2.out.mono HB.out.size)⟩
theorem powerPair_any (a b : Int) (w : World) (ht : Tab w) (a0 : 0 ≤ a) (a1 : a ≤ 1000000) (b0 : 1 ≤ b) (b1 : b ≤ 40) :
    Calls Tryd.prog 35 #[.int .i64 a, .string ⟨#[94]⟩, .int .i64 b] w fun e w' => e = .returned (.string (bsOf (pwT (a, b)))) ∧ Below w.heap.size w w' := by
  have s1 := itoa_size a0 (by omega)
  have s2 := itoa_size (n := b) (by omega) (by omega)
  exact pairText_any 94 a b w ht (by omega) (by omega) (by omega) (by omega) (by omega) (by omega)
end Go.Proofs.YtghhjeebcpcepaaDoor
