/- Contracts of the walk: impl.FactorOf, spec.l01Factor and spec.FactorOf answer the list of prime powers of the plain mathematics, in a row of their own memory. -/
import Derived.Test.YtjmecidbnoimnaaPowRow
import Derived.Test.YtjmecidbnoimnaaPowMark
import Derived.Test.YtjmecidbnoimnaaVal
import Derived.Test.YtjmecidbnoimnaaFactMath
namespace Go.Proofs.Ytjmecidbnoimnaa
open Go.RowKit
set_option linter.unusedVariables false
set_option maxRecDepth 20000
/-- a list of prime powers in new memory, and a code -/
def PowPost (l : List (Int × Int)) (c : Int) (w : World) (e : Ending) (w' : World) : Prop :=
  ∃ v, e = .returned (.tuple #[v, .int .i64 c]) ∧ PowRow w.heap.size w' v l ∧ Below w.heap.size w w'
def PowPost1 (l : List (Int × Int)) (w : World) (e : Ending) (w' : World) : Prop :=
  ∃ v, e = .returned v ∧ PowRow w.heap.size w' v l ∧ Below w.heap.size w w'
theorem below_append {W wr w' : World} {v : Value} {o : Obj} {acc : List (Int × Int)} (hb : Below W.heap.size W wr) (hW : PowRow W.heap.size wr v acc) (hg : (wr.alloc o).grownBy w' v.ownBlock) : Below W.heap.size W w' :=
  (hb.alloc hb.size o).grown hg (by simp; have := hb.size; omega) (fun k hk => (World.ownsRow.lt hW k hk).1)
set_option maxHeartbeats 800000 in
theorem implFact_val (n : Int) (w : World) (h1 : 1 ≤ n) (h2 : n ≤ 1000000) :
    Calls Try.prog 67 #[.int .i64 n] w (PowPost (factT n) 0 w) := by
  obtain ⟨i0, hi, hz0, hz1, hz2⟩ := info_parts Try.infoPower
  have HS := Lib.hid (fRel_start h1 h2)
  have HI := Lib.hid hi
  have HZ0 := Lib.hid hz0
  have HZ1 := Lib.hid hz1
  have HZ2 := Lib.hid hz2
  clear hi hz0 hz1 hz2
  go_enter Try.func67, Try.ntmps67
  go_wp2
  clear h1 h2
  go_loopw [0, 4, 5] (fun a v d wr => ∃ (m : Int) (k : Nat) (acc : List (Int × Int)), a = .int .i64 m ∧ d = .int .i64 k ∧ FRel n m k acc ∧ PowRow w.heap.size wr v acc ∧ Below w.heap.size w wr) (fun _ _ d _ => 2000 - (intOf d).toNat)
  case atStart => exact ⟨n, 2, [], rfl, rfl, HS.out, powRow_nil _ _, Below.refl _ _⟩
  case round =>
    obtain ⟨m, k, acc, rfl, rfl, hr, hrow, hb⟩ := hrel
    have b1 := hr.1
    have b2 := hr.2.1
    have b3 := hr.2.2.1
    have b4 := hr.2.2.2.1
    have b5 := hr.2.2.2.2.1
    have bs := hb.size
    have bk := sq_bd b4
    have HR := Lib.hid hr
    have HW := Lib.hid hrow
    have HB := Lib.hid hb
    clear hr hrow hb HS
    by_cases hle : (k : Int) * k ≤ m
    · obtain ⟨c1, c2, c3, c4⟩ := vT_props (p := k) (by omega) b1 b2
      have H := Lib.hid (fRel_step HR.out hle)
      have C4 := Lib.hid c4
      clear c4
      by_cases hc : 0 < valCount m k
      · have C5 : Hid ((if 0 < valCount m k then acc ++ [((k : Int), valCount m k)] else acc) = acc ++ [((k : Int), valCount m k)]) := if_pos hc
        go_wp2_with (first
          | (go_at_call 95; refine (divideOut_any _ _ _ (by omega) (by omega) (by omega)).mono ?_; rintro e w' ⟨rfl, rfl⟩)
          | (at_builtin; refine wpList_append_own _ rfl (.tmp 29) (.tmp 33) 68 rfl w.heap.size 72 i0 (.agg #[.int .i64 0, .int .i64 0]) 2 16 Try.underlying68 HI.out HZ0.out HZ1.out HZ2.out rfl (by decide) _ _ _ rfl (HW.out.alloc _) ⟨wr.heap.size, 0, none⟩ 1 1 [.int .i64 k, .int .i64 (valCount m k)] rfl rfl ?c1 ?c2 ?c3 ?c4 ?c5 ?_))
        case c1 => exact news_two _ _ _ _
        case c2 => exact one_two _ _
        case c3 => unfold maxLen; omega
        case c4 => omega
        case c5 => simp; omega
        intro v' w1 hown hgrow _
        have HO := Lib.hid (powRow_snoc hown)
        have HG := Lib.hid (below_append HB.out HW.out hgrow)
        clear hown hgrow
        go_wp2
        go_roundw
        case rel => exact ⟨valRest m k, k + 1, acc ++ [((k : Int), valCount m k)], rfl, by go_num, C5.out ▸ H.out, HO.out, HG.out⟩
        case measure => simp [intOf]; omega
      · have hz : valCount m k = 0 := by omega
        have C5 : Hid ((if 0 < valCount m k then acc ++ [((k : Int), valCount m k)] else acc) = acc) := if_neg hc
        have CZ := Lib.hid hz
        have hd : decide (0 < valCount m (k : Int)) = false := by simpa using hc
        clear hc hz
        go_wp2_with (go_at_call 95; refine (divideOut_any _ _ _ (by omega) (by omega) (by omega)).mono ?_; rintro e w' ⟨rfl, rfl⟩)
        go_roundw
        case rel => exact ⟨m, k + 1, acc, rfl, by go_num, by have h := H.out; rw [C5.out, C4.out CZ.out] at h; exact h, HW.out, HB.out⟩
        case measure => simp [intOf]; omega
    · have HE := Lib.hid (fRel_end HR.out hle)
      by_cases hm : 1 < m
      · have C5 : Hid ((if 1 < m then acc ++ [(m, 1)] else acc) = acc ++ [(m, 1)]) := if_pos hm
        go_wp2_with (at_builtin; refine wpList_append_own _ rfl (.tmp 38) (.tmp 41) 68 rfl w.heap.size 72 i0 (.agg #[.int .i64 0, .int .i64 0]) 2 16 Try.underlying68 HI.out HZ0.out HZ1.out HZ2.out rfl (by decide) _ _ _ rfl (HW.out.alloc _) ⟨wr.heap.size, 0, none⟩ 1 1 [.int .i64 m, .int .i64 1] rfl rfl ?d1 ?d2 ?d3 ?d4 ?d5 ?_)
        case d2 => first | exact one_two _ _ | exact ⟨rfl, rfl⟩
        case d3 => unfold maxLen; omega
        case d4 => omega
        case d5 => first | omega | (simp; omega)
        intro v' w1 hown hgrow _
        have HO := Lib.hid (powRow_snoc hown)
        have HG := Lib.hid (below_append HB.out HW.out hgrow)
        clear hown hgrow
        go_wp2
        go_ret2
        exact ⟨_, rfl, by rw [HE.out, C5.out]; exact HO.out, HG.out⟩
      · have C5 : Hid ((if 1 < m then acc ++ [(m, 1)] else acc) = acc) := if_neg hm
        go_wp2
        go_ret2
        exact ⟨_, rfl, by rw [HE.out, C5.out]; exact HW.out, HB.out⟩
theorem implFact_no (n : Int) (w : World) (h : n < 1 ∨ 1000000 < n) :
    Calls Try.prog 67 #[.int .i64 n] w (PowPost [] 2 w) := by
  by_cases h1 : n < 1
  · clear h
    go_enter Try.func67, Try.ntmps67
    go_wp2
    go_ret2
    exact ⟨_, rfl, powRow_nil _ _, Below.refl _ _⟩
  · have h2 : 1000000 < n := by omega
    clear h
    go_enter Try.func67, Try.ntmps67
    go_wp2
    go_ret2
    exact ⟨_, rfl, powRow_nil _ _, Below.refl _ _⟩
set_option maxHeartbeats 800000 in
theorem l01Factor_any (n : Int) (w : World) (h1 : 1 ≤ n) (h2 : n ≤ 1000000) :
    Calls Try.prog 96 #[.int .i64 n] w (PowPost1 (factT n) w) := by
  obtain ⟨i0, hi, hz0, hz1, hz2⟩ := info_parts Try.infoPower
  have HS := Lib.hid (fRel_start h1 h2)
  have HI := Lib.hid hi
  have HZ0 := Lib.hid hz0
  have HZ1 := Lib.hid hz1
  have HZ2 := Lib.hid hz2
  clear hi hz0 hz1 hz2 h1 h2
  go_enter Try.func96, Try.ntmps96
  go_wp2
  go_loopw [0, 3, 4] (fun a v d wr => ∃ (m : Int) (k : Nat) (acc : List (Int × Int)), a = .int .i64 m ∧ d = .int .i64 k ∧ FRel n m k acc ∧ PowRow w.heap.size wr v acc ∧ Below w.heap.size w wr) (fun _ _ d _ => 2000 - (intOf d).toNat)
  case atStart => exact ⟨n, 2, [], rfl, rfl, HS.out, powRow_made _ 0, (Below.refl _ _).alloc (Nat.le_refl _) _⟩
  case round =>
    obtain ⟨m, k, acc, rfl, rfl, hr, hrow, hb⟩ := hrel
    have b1 := hr.1
    have b2 := hr.2.1
    have b3 := hr.2.2.1
    have b4 := hr.2.2.2.1
    have b5 := hr.2.2.2.2.1
    have bs := hb.size
    have bk := sq_bd b4
    have HR := Lib.hid hr
    have HW := Lib.hid hrow
    have HB := Lib.hid hb
    clear hr hrow hb HS
    by_cases hle : (k : Int) * k ≤ m
    · obtain ⟨c1, c2, c3, c4⟩ := vT_props (p := k) (by omega) b1 b2
      have H := Lib.hid (fRel_step HR.out hle)
      have C4 := Lib.hid c4
      have HV := Lib.hid (vRel_start (n := m) (p := k) (by omega) (by omega))
      have hk0 : ((k : Int) == 0) = false := by simp; omega
      clear c4
      go_wp2
      go_loop [0, 5] (fun a c => ∃ x y : Int, a = .int .i64 x ∧ c = .int .i64 y ∧ VRel m k x y) (fun a _ => (intOf a).natAbs)
      case atStart => exact ⟨m, 0, rfl, rfl, HV.out⟩
      case round =>
        obtain ⟨x, y, rfl, rfl, hv⟩ := hrel
        have g1 : 0 < x := hv.2.2.2.2.1 (by omega)
        have g2 := hv.2.1
        have g3 := hv.2.2.1
        have HV2 := Lib.hid hv
        clear hv HV
        have et : x.tmod (k : Int) = x % (k : Int) := Int.tmod_eq_emod_of_nonneg (by omega)
        have ed : x.tdiv (k : Int) = x / (k : Int) := Int.tdiv_eq_ediv_of_nonneg (by omega)
        have ET := Lib.hid et
        have ED := Lib.hid ed
        clear et ed
        by_cases hm : x % (k : Int) = 0
        · have hm' : (x % (k : Int) == 0) = true := by simp [hm]
          have HN := Lib.hid (vRel_step (by omega) HV2.out (by rw [ET.out]; exact hm))
          clear hm
          go_wp2
          exact ⟨⟨_, _, rfl, rfl, by have h := HN.out.1; rw [ED.out] at h; exact h⟩, by have h := HN.out.2; rw [ED.out] at h; simpa only [intOf] using h⟩
        · have hm' : (x % (k : Int) == 0) = false := by simp [hm]
          have HN := Lib.hid (vRel_end HV2.out (by rw [ET.out]; exact hm))
          clear hm
          obtain ⟨n1, n2⟩ := HN.out
          subst n1
          subst n2
          by_cases hc : 0 < valCount m k
          · have C5 : Hid ((if 0 < valCount m k then acc ++ [((k : Int), valCount m k)] else acc) = acc ++ [((k : Int), valCount m k)]) := if_pos hc
            go_wp2_with (at_builtin; refine wpList_append_own _ rfl (.tmp 25) (.tmp 29) 68 rfl w.heap.size 72 i0 (.agg #[.int .i64 0, .int .i64 0]) 2 16 Try.underlying68 HI.out HZ0.out HZ1.out HZ2.out rfl (by decide) _ _ _ rfl (HW.out.alloc _) ⟨wr.heap.size, 0, none⟩ 1 1 [.int .i64 k, .int .i64 (valCount m k)] rfl rfl ?c1 ?c2 ?c3 ?c4 ?c5 ?_)
            case c2 => first | exact one_two _ _ | exact ⟨rfl, rfl⟩
            case c3 => unfold maxLen; omega
            case c4 => omega
            case c5 => first | omega | (simp; omega)
            intro v' w1 hown hgrow _
            have HO := Lib.hid (powRow_snoc hown)
            have HG := Lib.hid (below_append HB.out HW.out hgrow)
            clear hown hgrow
            go_wp2
            go_roundw
            case rel => exact ⟨valRest m k, k + 1, acc ++ [((k : Int), valCount m k)], rfl, by go_num, C5.out ▸ H.out, HO.out, HG.out⟩
            case measure => simp [intOf]; omega
          · have hz : valCount m k = 0 := by omega
            have C5 : Hid ((if 0 < valCount m k then acc ++ [((k : Int), valCount m k)] else acc) = acc) := if_neg hc
            have CZ := Lib.hid hz
            have hd : decide (0 < valCount m (k : Int)) = false := by simpa using hc
            clear hc hz
            go_wp2
            go_roundw
            case rel => exact ⟨valRest m k, k + 1, acc, rfl, by go_num, by have h := H.out; rw [C5.out] at h; exact h, HW.out, HB.out⟩
            case measure => simp [intOf]; omega
    · have HE := Lib.hid (fRel_end HR.out hle)
      by_cases hm : 1 < m
      · have C5 : Hid ((if 1 < m then acc ++ [(m, 1)] else acc) = acc ++ [(m, 1)]) := if_pos hm
        go_wp2_with (at_builtin; refine wpList_append_own _ rfl (.tmp 33) (.tmp 36) 68 rfl w.heap.size 72 i0 (.agg #[.int .i64 0, .int .i64 0]) 2 16 Try.underlying68 HI.out HZ0.out HZ1.out HZ2.out rfl (by decide) _ _ _ rfl (HW.out.alloc _) ⟨wr.heap.size, 0, none⟩ 1 1 [.int .i64 m, .int .i64 1] rfl rfl ?d1 ?d2 ?d3 ?d4 ?d5 ?_)
        case d2 => first | exact one_two _ _ | exact ⟨rfl, rfl⟩
        case d3 => unfold maxLen; omega
        case d4 => omega
        case d5 => first | omega | (simp; omega)
        intro v' w1 hown hgrow _
        have HO := Lib.hid (powRow_snoc hown)
        have HG := Lib.hid (below_append HB.out HW.out hgrow)
        clear hown hgrow
        go_wp2
        go_ret
        exact ⟨_, rfl, by rw [HE.out, C5.out]; exact HO.out, HG.out⟩
      · have C5 : Hid ((if 1 < m then acc ++ [(m, 1)] else acc) = acc) := if_neg hm
        go_wp2
        go_ret
        exact ⟨_, rfl, by rw [HE.out, C5.out]; exact HW.out, HB.out⟩
end Go.Proofs.Ytjmecidbnoimnaa
