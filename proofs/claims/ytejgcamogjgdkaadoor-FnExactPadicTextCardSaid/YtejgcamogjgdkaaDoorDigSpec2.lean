/- Contracts of the walk: chapter 4 in spec: the digits of a number, their sum, and both functions that answer them. -/
import Derived.Test.YtejgcamogjgdkaaDoorDigList
import Derived.Test.YtejgcamogjgdkaaDoorDigSum
import Derived.Test.YtejgcamogjgdkaaDoorDigSpec
namespace Go.Proofs.YtejgcamogjgdkaaDoor
open Go.RowKit
set_option linter.unusedVariables false
set_option linter.unusedSimpArgs false
theorem padAt_keep {A B : World} {b : Nat} {p v u n : Int} (h : PadAt A b p v u n) (hf : FrP A B) : PadAt B b p v u n := (hf _ _ _ h).trans h
theorem row_lower {w : World} {b b' : Nat} {T : TypeId} {sz : Nat} {v : Value} {n : Nat} {xs : List Value} (h : w.ownsRow b' T sz v n xs) (hle : b ≤ b') : w.ownsRow b T sz v n xs :=
  ⟨h.1, h.2.imp id fun ⟨g, cap, cur, e, hb, rest⟩ => ⟨g, cap, cur, e, Nat.le_trans hle hb, rest⟩⟩
set_option maxHeartbeats 800000 in
theorem l04Digits_any (p v u n : Int) (w : World) (h : POk p v u n) :
    Calls Tryd.prog 17 #[.agg (P4 p v u n)] w fun e w' => ∃ vl, e = .returned vl ∧ IntRow w.heap.size w' vl (digL p u n.toNat) ∧ Below w.heap.size w w' := by
  obtain ⟨i0, hi, hz0, hz1, hz2⟩ := info_parts Tryd.infoInt64
  have HI := Lib.hid hi
  have HZ0 := Lib.hid hz0
  have HZ1 := Lib.hid hz1
  have HZ2 := Lib.hid hz2
  have HK := Lib.hid h
  obtain ⟨hp2, hp97, hn0, hn1, _, _, hu0, _, hu2⟩ := pok_bd h
  have hv0 := h.2.1
  have hv1 := h.2.2.1
  have hb0 : PadAt (w.alloc (.cells (P4 p v u n) 26)) w.heap.size p v u n := World.alloc_heap_new w _
  have HB0 := Lib.hid (padAt_keep hb0 (frP_below (below_a1 (w.alloc (.cells (P4 p v u n) 26)) (.cells #[] 2))))
  have hr0 := intRow_made (w.alloc (.cells (P4 p v u n) 26))
  have hr1 := row_lower (b := w.heap.size) hr0 (by simp)
  rw [World.size_alloc] at hr1
  have HR0 := Lib.hid hr1
  clear hi hz0 hz1 hz2 h hb0 hr0 hr1
  go_enter Tryd.func17, Tryd.ntmps17
  go_wp2
  go_loopw [3, 4] (fun s i wr => ∃ I : Nat, i = .int .i64 I ∧ (I : Int) ≤ n ∧ PadAt wr w.heap.size p v u n ∧ IntRow w.heap.size wr s (digL p u I) ∧ Below w.heap.size w wr) (fun _ i _ => n.toNat - (intOf i).toNat)
  case atStart => exact ⟨0, rfl, hn0, HB0.out, HR0.out, below_a2 w _ _⟩
  case round =>
    obtain ⟨I, rfl, hI, hb, hrow, hbel⟩ := hrel
    obtain ⟨c0, c1, c2, c3⟩ := padAt_four hb
    have HB := Lib.hid hb
    have HW := Lib.hid hrow
    have HL := Lib.hid hbel
    clear hb hrow hbel HB0 HR0
    by_cases hlt : (I : Int) < n
    · have HS := Lib.hid (digL_succ p u I)
      have hlen : (digL p u I).length ≤ 30 := by rw [digL_length]; omega
      have HD := Lib.hid (fun w => (l03Digit_any p v u n (v + I) w HK.out (by omega)).mono fun e w' (h : e = .returned (.int .i64 (if v + (I : Int) < v then 0 else u / pw p (v + I - v) % p)) ∧ _) => (show e = .returned (.int .i64 (u / pw p (I : Int) % p)) ∧ Below w.heap.size w w' by
        rw [if_neg (by omega), show v + (I : Int) - v = I by omega] at h; exact h))
      have hw1 : IntKind.i64.wrap (v + (I : Int)) = v + I := IntWalk.i64_in _ (by omega)
      generalize u / pw p (I : Int) % p = y at *
      clear HK
      go_wp2_with (first
        | (go_at_call 30; refine (HD.out _).mono ?_; rintro e w2 ⟨rfl, hb2⟩; have hrw : IntRow w.heap.size w2 _ _ := row_below HW.out hb2 (Nat.le_refl _); have hbl := HL.out.trans (hb2.mono HL.out.size); have hpd := padAt_keep HB.out (frP_below hb2); have hsz := hb2.size; have hsz0 := HL.out.size)
        | (at_builtin; refine wpList_append_own _ rfl (.tmp 12) (.tmp 19) 41 rfl w.heap.size 2 i0 (.int .i64 0) 1 8 Tryd.underlying41 HI.out HZ0.out HZ1.out HZ2.out rfl (by decide) _ _ _ rfl (hrw.alloc _) ⟨w2.heap.size, 0, none⟩ 1 1 [.int .i64 y] rfl rfl ?c1 ?c2 ?c3 ?c4 ?c5 ?_))
      case c1 => first | exact news_one _ _ _ | simp [Addr.add]
      case c2 => first | exact one_one _ | rfl
      case c3 => unfold maxLen; omega
      case c4 => omega
      case c5 => first | omega | (simp; omega)
      intro v' w3 hown hgrow _
      have hF := frP_trans (frP_below (below_a1 w2 (.cells #[.int .i64 y] 2))) (frP_row (hrw.alloc _) (by decide) hgrow)
      have hpd3 := Lib.hid (padAt_keep hpd hF)
      have HO := Lib.hid (intRow_snoc hown)
      have HG := Lib.hid (((hbl.alloc (by omega) (.cells #[.int .i64 y] 2)).grown hgrow (by simp; omega) (fun k hk => (World.ownsRow.lt hrw k hk).1) : Below w.heap.size w w3))
      clear hown hgrow hF hpd hrw hbl
      go_wp2
      go_roundw
      case rel => exact ⟨I + 1, by go_num, by omega, hpd3.out, by rw [HS.out]; exact HO.out, HG.out⟩
      case measure => simp [intOf]; omega
    · have hk2 : I = n.toNat := by omega
      have HI2 := Lib.hid hk2
      clear hk2
      obtain ⟨o, c, hv⟩ := row_slice HW.out
      subst hv
      go_wp2
      go_ret
      exact ⟨_, rfl, by rw [← HI2.out]; exact HW.out, HL.out⟩
theorem row_form {base : Nat} {w : World} {v : Value} {l : List Int} (h : IntRow base w v l) :
    ∃ o g c, v = .slice o l.length c ∧ (0 < l.length → o = some ⟨g, 0, none⟩) ∧ ∀ k, k < l.length → w.cell? ⟨g, k, none⟩ = some (.int .i64 (l.getD k 0)) := by
  rcases row_shape h with ⟨h0, o, c, rfl⟩ | ⟨h0, g, c, rfl, hb, hg⟩
  · exact ⟨o, 0, c, by rw [h0], fun h => by omega, fun k hk => by omega⟩
  · exact ⟨_, g, c, rfl, fun _ => rfl, int_cells h⟩
theorem digL_all {p v u n : Int} (h : POk p v u n) : (digL p u n.toNat).length ≤ 40 ∧ ∀ d ∈ digL p u n.toNat, 0 ≤ d ∧ d < 97 := by
  obtain ⟨hp2, hp97, hn0, hn1, _⟩ := pok_bd h
  refine ⟨by rw [digL_length]; omega, fun d hd => ?_⟩
  have := digL_bd hp2 hd
  omega
end Go.Proofs.YtejgcamogjgdkaaDoor
