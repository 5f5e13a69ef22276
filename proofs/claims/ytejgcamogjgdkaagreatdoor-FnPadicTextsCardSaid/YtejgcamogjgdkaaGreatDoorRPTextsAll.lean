/- Proved here: the Go law FnPadicTexts of this seat answers true at every input and leaves its argument as it was; the card ties the listed variables of Go's library (tables and the two errors of strconv) to the program's text. No further condition. (joined of several texts) -/
import Derived.Test.YtejgcamogjgdkaaGreatDoorDigList
import Derived.Test.YtejgcamogjgdkaaGreatDoorDigSum
import Derived.Test.YtejgcamogjgdkaaGreatDoorDigSpec
import Derived.Test.YtejgcamogjgdkaaGreatDoorTxtBase
import Derived.OrdersIn
import Derived.TacticsIn
import Derived.TacticsInMore
import Derived.KernelRfl
import Derived.Test.YtejgcamogjgdkaaGreatDoorDigSeq
import Derived.Stop.RegionWithIn
import Derived.Deep.RegionWith
import Derived.Shelf.Abstract
import Derived.Test.YtejgcamogjgdkaaGreatDoorPadSpec
import Derived.Test.YtejgcamogjgdkaaGreatDoorTxtSeq
import Derived.RangeFuncBox
import Derived.Test.YtejgcamogjgdkaaGreatDoorRows
import Derived.WalkKit
import Derived.ProofKit
import Derived.OpenShut
import Derived.Deep.DeepHandedRow
import Derived.Lib.LaidTab
import Derived.Stop.LaidErr
import Derived.Stop.Texts
import Derived.WideShapes
import Derived.HandedShaped
import Derived.Test.YtejgcamogjgdkaaGreatDoorDraw
import Derived.StillTailTactics
import Derived.Deep.AppendLies
import Derived.Test.YtejgcamogjgdkaaGreatDoorBez
import Derived.Test.YtejgcamogjgdkaaGreatDoorRingLaw
import Derived.Test.YtejgcamogjgdkaaGreatDoorPadSpec2
import Derived.Test.YtejgcamogjgdkaaGreatDoorPadExp3
import Derived.Test.YtejgcamogjgdkaaGreatDoorPadSpec3
import Derived.Deep.DeepCutAuto
import Derived.IntWalk
import Derived.Test.YtejgcamogjgdkaaGreatDoorDec
import Derived.Deep.QuietTactic
import Derived.Test.YtejgcamogjgdkaaGreatDoorCards
import Derived.Test.YtejgcamogjgdkaaGreatDoorTie
import Derived.ChangeOld
import Derived.ShutString
import Derived.Below
namespace Go.Proofs.YtejgcamogjgdkaaGreatDoor
open Go.RowKit
set_option linter.unusedVariables false
set_option linter.unusedSimpArgs false
theorem padAt_keep {A B : World} {b : Nat} {p v u n : Int} (h : PadAt A b p v u n) (hf : FrP A B) : PadAt B b p v u n := (hf _ _ _ h).trans h
theorem row_lower {w : World} {b b' : Nat} {T : TypeId} {sz : Nat} {v : Value} {n : Nat} {xs : List Value} (h : w.ownsRow b' T sz v n xs) (hle : b ≤ b') : w.ownsRow b T sz v n xs :=
  ⟨h.1, h.2.imp id fun ⟨g, cap, cur, e, hb, rest⟩ => ⟨g, cap, cur, e, Nat.le_trans hle hb, rest⟩⟩
set_option maxHeartbeats 800000 in
theorem l04Digits_any (p v u n : Int) (w : World) (h : POk p v u n) :
    Calls Tryz.prog 48 #[.agg (P4 p v u n)] w fun e w' => ∃ vl, e = .returned vl ∧ IntRow w.heap.size w' vl (digL p u n.toNat) ∧ Below w.heap.size w w' := by
  obtain ⟨i0, hi, hz0, hz1, hz2⟩ := info_parts Tryz.infoInt64
  have HI := Lib.hid hi
  have HZ0 := Lib.hid hz0
  have HZ1 := Lib.hid hz1
  have HZ2 := Lib.hid hz2
  have HK := Lib.hid h
  obtain ⟨hp2, hp97, hn0, hn1, _, _, hu0, _, hu2⟩ := pok_bd h
  have hv0 := h.2.1
  have hv1 := h.2.2.1
  have hb0 : PadAt (w.alloc (.cells (P4 p v u n) 25)) w.heap.size p v u n := World.alloc_heap_new w _
  have HB0 := Lib.hid (padAt_keep hb0 (frP_below (below_a1 (w.alloc (.cells (P4 p v u n) 25)) (.cells #[] 2))))
  have hr0 := intRow_made (w.alloc (.cells (P4 p v u n) 25))
  have hr1 := row_lower (b := w.heap.size) hr0 (by simp)
  rw [World.size_alloc] at hr1
  have HR0 := Lib.hid hr1
  clear hi hz0 hz1 hz2 h hb0 hr0 hr1
  go_enter Tryz.func48, Tryz.ntmps48
  go_wp2
  go_loopw [3, 4] (fun s i wr => ∃ I : Nat, i = .int .i64 I ∧ (I : Int) ≤ n ∧ PadAt wr w.heap.size p v u n ∧ IntRow w.heap.size wr s (digL p u I) ∧ Below w.heap.size w wr) (fun _ i _ => n.toNat - (intOf i).toNat)
  case atStart => exact ⟨0, rfl, hn0, HB0.out, HR0.out, below_a2 w _ _⟩
  case round =>
    obtain ⟨I, rfl, hI, hb, hrow, hbel⟩ := hrel
    obtain ⟨c0, c1, c2, c3⟩ := padAt_four hb
    have HB := Lib.hid hb
    have HW := Lib.hid hrow
    have HL := Lib.hid hbel
    clear hb hrow hbel HB0 HR0
    by_cases hlt : (I : Int) < n
    · have HS := Lib.hid (digL_succ p u I)
      have hlen : (digL p u I).length ≤ 30 := by rw [digL_length]; omega
      have HD := Lib.hid (fun w => (l03Digit_any p v u n (v + I) w HK.out (by omega)).mono fun e w' (h : e = .returned (.int .i64 (if v + (I : Int) < v then 0 else u / pw p (v + I - v) % p)) ∧ _) => (show e = .returned (.int .i64 (u / pw p (I : Int) % p)) ∧ Below w.heap.size w w' by
        rw [if_neg (by omega), show v + (I : Int) - v = I by omega] at h; exact h))
      have hw1 : IntKind.i64.wrap (v + (I : Int)) = v + I := IntWalk.i64_in _ (by omega)
      generalize u / pw p (I : Int) % p = y at *
      clear HK
      go_wp2_with (first
        | (go_at_call 68; refine (HD.out _).mono ?_; rintro e w2 ⟨rfl, hb2⟩; have hrw : IntRow w.heap.size w2 _ _ := row_below HW.out hb2 (Nat.le_refl _); have hbl := HL.out.trans (hb2.mono HL.out.size); have hpd := padAt_keep HB.out (frP_below hb2); have hsz := hb2.size; have hsz0 := HL.out.size)
        | (at_builtin; refine wpList_append_own _ rfl (.tmp 12) (.tmp 19) 51 rfl w.heap.size 2 i0 (.int .i64 0) 1 8 Tryz.underlying51 HI.out HZ0.out HZ1.out HZ2.out rfl (by decide) _ _ _ rfl (hrw.alloc _) ⟨w2.heap.size, 0, none⟩ 1 1 [.int .i64 y] rfl rfl ?c1 ?c2 ?c3 ?c4 ?c5 ?_))
      case c1 => first | exact news_one _ _ _ | simp [Addr.add]
      case c2 => first | exact one_one _ | rfl
      case c3 => unfold maxLen; omega
      case c4 => omega
      case c5 => first | omega | (simp; omega)
      intro v' w3 hown hgrow _
      have hF := frP_trans (frP_below (below_a1 w2 (.cells #[.int .i64 y] 2))) (frP_row (hrw.alloc _) (by decide) hgrow)
      have hpd3 := Lib.hid (padAt_keep hpd hF)
      have HO := Lib.hid (intRow_snoc hown)
      have HG := Lib.hid (((hbl.alloc (by omega) (.cells #[.int .i64 y] 2)).grown hgrow (by simp; omega) (fun k hk => (World.ownsRow.lt hrw k hk).1) : Below w.heap.size w w3))
      clear hown hgrow hF hpd hrw hbl
      go_wp2
      go_roundw
      case rel => exact ⟨I + 1, by go_num, by omega, hpd3.out, by rw [HS.out]; exact HO.out, HG.out⟩
      case measure => simp [intOf]; omega
    · have hk2 : I = n.toNat := by omega
      have HI2 := Lib.hid hk2
      clear hk2
      obtain ⟨o, c, hv⟩ := row_slice HW.out
      subst hv
      go_wp2
      go_ret
      exact ⟨_, rfl, by rw [← HI2.out]; exact HW.out, HL.out⟩
theorem row_form {base : Nat} {w : World} {v : Value} {l : List Int} (h : IntRow base w v l) :
    ∃ o g c, v = .slice o l.length c ∧ (0 < l.length → o = some ⟨g, 0, none⟩) ∧ ∀ k, k < l.length → w.cell? ⟨g, k, none⟩ = some (.int .i64 (l.getD k 0)) := by
  rcases row_shape h with ⟨h0, o, c, rfl⟩ | ⟨h0, g, c, rfl, hb, hg⟩
  · exact ⟨o, 0, c, by rw [h0], fun h => by omega, fun k hk => by omega⟩
  · exact ⟨_, g, c, rfl, fun _ => rfl, int_cells h⟩
theorem digL_all {p v u n : Int} (h : POk p v u n) : (digL p u n.toNat).length ≤ 40 ∧ ∀ d ∈ digL p u n.toNat, 0 ≤ d ∧ d < 97 := by
  obtain ⟨hp2, hp97, hn0, hn1, _⟩ := pok_bd h
  refine ⟨by rw [digL_length]; omega, fun d hd => ?_⟩
  have := digL_bd hp2 hd
  omega
end Go.Proofs.YtejgcamogjgdkaaGreatDoor
namespace Go.Proofs.YtejgcamogjgdkaaGreatDoor
open Go.RowKit
set_option linter.unusedVariables false
set_option linter.unusedSimpArgs false
theorem all_take {f : Int → Bool} {l : List Int} {k : Nat} (hk : k < l.length) : (l.take (k + 1)).all f = ((l.take k).all f && f (l.getD k 0)) := by
  rw [List.take_succ_eq_append_getElem hk, List.all_append]
  simp [List.getD, hk]
/-- the modulus for a number of digits, 0 if there are too many -/
def manyM (p : Int) (n : Nat) : Int := if pw p n ≤ 1000000000 then pw p n else 0
theorem l02Many_any (p : Int) (n : Nat) (w : World) (hs : smallB p = true) (hn : n ≤ 40) :
    Calls Tryz.prog 46 #[.int .i64 p, .int .i64 n] w fun e w' => e = .returned (.int .i64 (manyM p n)) ∧ w = w' := by
  obtain ⟨hp2, hp97⟩ := smallB_bd hs
  by_cases h0 : n = 0
  · subst h0
    have e : manyM p 0 = pw p ((0 : Nat) : Int) := by unfold manyM; rw [if_pos]; simp [pw]
    rw [e]
    exact l02Pow_any p _ w hp2 hp97 (by omega) (by simp [pw])
  · refine (l02Modulus_any p n w hs (by omega) (by omega)).mono fun e w' h => ⟨?_, h.2⟩
    rw [h.1]
    unfold manyM
    by_cases h1 : pw p n ≤ 1000000000
    · rw [if_pos h1, ringM_pw hs (by omega) h1]
    · rw [if_neg h1]
      congr 2
      refine Classical.byContradiction fun hr => ?_
      have e := pw_ringM hr
      obtain ⟨_, _, _, _, _, h2, _⟩ := ringM_bd hr
      omega
set_option maxHeartbeats 1600000 in
theorem specFrom_row (p place : Int) (o : Option Addr) (g n c : Nat) (l : List Int) (w : World) (ho : 0 < n → o = some ⟨g, 0, none⟩) (hl : n = l.length) (hn : n ≤ 1100000) (hg : 0 < n → g < w.heap.size)
    (hc : ∀ k, k < n → w.cell? ⟨g, k, none⟩ = some (.int .i64 (l.getD k 0))) :
    Calls Tryz.prog 31 #[.int .i64 p, .int .i64 place, .slice o n c] w fun e w' => e = .returned (.tuple #[.agg (A4 (fromQ p place l)), .int .i64 (fromC p place l)]) ∧ Below w.heap.size w w' := by
  cases hs : smallB p
  · rw [show fromQ p place l = (0, 0, 0, 0) by simp [fromQ, hs], show fromC p place l = 1 by simp [fromC, hs]]
    go_enter Tryz.func31, Tryz.ntmps31
    go_wp2_with (go_at_call 42; refine (l01Small_any _ _).mono ?_; rw [hs]; rintro e w' ⟨rfl, rfl⟩)
    refine bodyPost_ret (v := .tuple #[.agg (P4 0 0 0 0), .int .i64 1]) (by simp [results, Tryz.results31, go_sem]) rfl ?_
    exact ⟨rfl, below_a1 _ _⟩
  · obtain ⟨hp2, hp97⟩ := smallB_bd hs
    have HO := Lib.hid ho
    have HL := Lib.hid hl
    have HC : Hid (∀ k, k < n → (w.alloc (.cells (P4 0 0 0 0) 25)).cell? ⟨g, k, none⟩ = some (.int .i64 (l.getD k 0))) :=
      Lib.hid fun k hk => by rw [(below_a1 w (.cells (P4 0 0 0 0) 25)).cell (p := ⟨g, k, none⟩) (hg (by omega))]; exact hc k hk
    clear ho hl hc hg
    go_enter Tryz.func31, Tryz.ntmps31
    go_wp2_with (first | (go_at_call 42; refine (l01Small_any _ _).mono ?_; rw [hs]; rintro e w' ⟨rfl, rfl⟩) | (go_at_call 43; refine (in_any _ _ _ _).mono ?_; rintro e w' ⟨rfl, rfl⟩))
    go_loop [8, 9] (fun b i => ∃ k : Nat, k ≤ n ∧ i = .int .i64 k ∧ b = .bool (inB place (-60) 60 && (l.take k).all (digB p))) (fun _ i => n - (intOf i).toNat)
    case atStart => exact ⟨0, Nat.zero_le _, rfl, by simp⟩
    case round =>
      obtain ⟨k, hk, rfl, rfl⟩ := hrel
      by_cases hlt : k < n
      · have hkl : k < l.length := by have := HL.out; omega
        have hog := HO.out (by omega)
        subst hog
        have a2 := HC.out k hlt
        have HS := Lib.hid (all_take (f := digB p) hkl)
        generalize l.getD k 0 = x at *
        generalize (l.take k).all (digB p) = t at *
        clear hkl
        cases ht : (inB place (-60) 60 && t)
        · have HE := Lib.hid (show (inB place (-60) 60 && (l.take (k + 1)).all (digB p)) = false by rw [HS.out, ← Bool.and_assoc, ht, Bool.false_and])
          clear ht
          go_wp2
          exact ⟨⟨k + 1, by omega, by go_num, by rw [HE.out]⟩, by simp [intOf]; omega⟩
        · have HE := Lib.hid (show (inB place (-60) 60 && (l.take (k + 1)).all (digB p)) = inB x 0 (p - 1) by rw [HS.out, ← Bool.and_assoc, ht, Bool.true_and]; rfl)
          clear ht
          go_wp2_with (go_at_call 43; refine (in_any _ _ _ _).mono ?_; rintro e w' ⟨rfl, rfl⟩)
          exact ⟨⟨k + 1, by omega, by go_num, by rw [HE.out]⟩, by simp [intOf]; omega⟩
      · have hkn : k = n := by omega
        have hta : (inB place (-60) 60 && (l.take k).all (digB p)) = digsB p place l := by
          rw [List.take_of_length_le (by have := HL.out; omega)]; rfl
        rw [hta]
        clear hkn hta
        cases hd : digsB p place l
        · have HQ := Lib.hid (And.intro (show fromQ p place l = (0, 0, 0, 0) by simp [fromQ, hd]) (show fromC p place l = 2 by simp [fromC, hs, hd]))
          go_wp2
          refine bodyPost_ret (v := .tuple #[.agg (P4 0 0 0 0), .int .i64 2]) (by simp [results, Tryz.results31, go_sem]) rfl ?_
          rw [HQ.out.1, HQ.out.2]
          exact ⟨rfl, below_a1 _ _⟩
        · have hk60 : -60 ≤ place ∧ place ≤ 60 := by
            unfold digsB at hd
            simp only [Bool.and_eq_true] at hd
            simpa [inB] using hd.1
          obtain ⟨hk0, hk1⟩ := hk60
          have hall : l.all (digB p) = true := by
            unfold digsB at hd
            simp only [Bool.and_eq_true] at hd
            exact hd.2
          by_cases h40 : 40 < n
          · have hm : ¬ pw p (l.length : Int) ≤ 1000000000 := fun h => by have := pw_29 hp2 h; have := HL.out; omega
            have HQ := Lib.hid (And.intro (show fromQ p place l = (0, 0, 0, 0) by simp [fromQ, hm]) (show fromC p place l = 3 by simp [fromC, hs, hd, hm]))
            clear hd hall hm
            go_wp2
            refine bodyPost_ret (v := .tuple #[.agg (P4 0 0 0 0), .int .i64 3]) (by simp [results, Tryz.results31, go_sem]) rfl ?_
            rw [HQ.out.1, HQ.out.2]
            exact ⟨rfl, below_a1 _ _⟩
          · by_cases hm : pw p (l.length : Int) ≤ 1000000000
            · have hpos := pw_ge1 (p := p) (a := (l.length : Int)) hp2
              have hmm : manyM p n = pw p (l.length : Int) := by unfold manyM; rw [HL.out, if_pos hm]
              have HMM := Lib.hid fun w => (l02Many_any p n w hs (by omega)).mono fun e w' h => (show e = .returned (.int .i64 (pw p (l.length : Int))) ∧ w = w' by rw [← hmm]; exact h)
              have HD := Lib.hid hall
              have HM := Lib.hid hm
              have HQ : Hid (fromQ p place l = resQ p (makeT p place (horner p l) (place + l.length)).1 (makeT p place (horner p l) (place + l.length)).2.1 (makeT p place (horner p l) (place + l.length)).2.2 ∧ fromC p place l = limC p (makeT p place (horner p l) (place + l.length)).1 (makeT p place (horner p l) (place + l.length)).2.1 (makeT p place (horner p l) (place + l.length)).2.2) := Lib.hid (by
                simp [fromQ, fromC, hs, hd, hm])
              clear hd hall hmm
              have hz : (pw p (l.length : Int) == 0) = false := by simp; omega
              generalize hM : pw p (l.length : Int) = M at *
              have HMe := Lib.hid hM
              clear hM
              go_wp2_with (go_at_call 46; refine (HMM.out _).mono ?_; rintro e w' ⟨rfl, rfl⟩)
              go_loop [10, 11] (fun a i => ∃ (j : Nat) (x : Int), j ≤ n ∧ i = .int .i64 x ∧ x = (n : Int) - 1 - j ∧ a = .int .i64 (horner p (l.drop (l.length - j)))) (fun _ i => (intOf i + 1).toNat)
              case atStart => exact ⟨0, (n : Int) - 1, Nat.zero_le _, rfl, by omega, by simp [horner]⟩
              case round =>
                obtain ⟨j, x, hj, rfl, hx, rfl⟩ := hrel
                by_cases hjn : j < n
                · have hjl : j < l.length := by have := HL.out; omega
                  obtain ⟨m, hm2⟩ : ∃ m : Nat, x = m := ⟨x.toNat, by omega⟩
                  subst hm2
                  have hmn : m < n := by omega
                  have hme : m = l.length - 1 - j := by have := HL.out; omega
                  have hog := HO.out (by omega)
                  subst hog
                  have a2 := HC.out m hmn
                  have hh := horner_drop p hjl
                  rw [← hme] at hh
                  obtain ⟨b0, b1⟩ := horner_drop_bd (k := j) hp2 HD.out (by omega) (by rw [HMe.out]; omega)
                  obtain ⟨b2, b3⟩ := horner_drop_bd (k := j + 1) hp2 HD.out (by omega) (by rw [HMe.out]; omega)
                  rw [hh] at b2 b3
                  have hd0 : 0 ≤ l.getD m 0 ∧ l.getD m 0 < p := by
                    have := List.all_eq_true.1 HD.out (l.getD m 0) (by simp [List.getD, show m < l.length by omega])
                    simp only [digB, inB, Bool.and_eq_true, decide_eq_true_eq] at this
                    omega
                  have HH := Lib.hid hh
                  generalize horner p (l.drop (l.length - j)) = a at *
                  generalize l.getD m 0 = y at *
                  have hm0 := Int.mul_nonneg b0 (show 0 ≤ p by omega)
                  rw [Int.mul_comm a p] at *
                  have hw1 : IntKind.i64.wrap (p * a) = p * a := IntWalk.i64_in _ (by omega)
                  have hw2 : IntKind.i64.wrap (p * a + y) = p * a + y := IntWalk.i64_in _ (by omega)
                  have hge : (0 : Int) ≤ (m : Int) := by omega
                  have hm1 : (m : Int) ≤ 1100000 := by omega
                  have HX := Lib.hid hx
                  clear hx hme hh hjl
                  go_wp2
                  exact ⟨⟨j + 1, (m : Int) - 1, by omega, rfl, by have := HX.out; omega, by rw [HH.out, Int.mul_comm]⟩, by simp [intOf]⟩
                · have hjn2 : j = n := by omega
                  have hx1 : x < 0 := by omega
                  have he : horner p (l.drop (l.length - j)) = horner p l := by rw [show l.length - j = 0 by have := HL.out; omega, List.drop_zero]
                  rw [he]
                  obtain ⟨b0, b1⟩ := horner_drop_bd (k := l.length) hp2 HD.out (Nat.le_refl _) (by rw [HMe.out]; omega)
                  rw [Nat.sub_self, List.drop_zero] at b0 b1
                  have hnl : (n : Int) = l.length := by have := HL.out; omega
                  have HT := fun w => l03Make_any p place (horner p l) (place + l.length) w hp2 hp97 (by omega) (by omega) (by omega) (by rw [show place + (l.length : Int) - place = l.length by omega, HMe.out]; omega) b0
                  rw [← hnl] at HT
                  have hQ2 := HQ.out
                  rw [← hnl] at hQ2
                  generalize makeT p place (horner p l) (place + n) = z at *
                  generalize horner p l = h at *
                  replace HT := Lib.hid HT
                  replace HQ := Lib.hid hQ2
                  have hw1 : IntKind.i64.wrap (place + (n : Int)) = place + n := IntWalk.i64_in _ (by omega)
                  clear hjn2 he hnl hQ2
                  go_wp2_with (first | (go_at_call 59; refine (HT.out _).mono ?_; rintro e wn ⟨rfl, hb⟩; have K := k1_first hb) | (go_at_call 58; refine (l03Result_any _ _ _ _ _).mono ?_; rintro e wn ⟨rfl, hb⟩; have K := k1_next K hb; obtain ⟨c0, c1, c2, c3⟩ := lies_four K.2; obtain ⟨cf0, cf1, cf2, cf3⟩ := lies_ice K.2))
                  refine bodyPost_ret (v := .tuple #[.agg (A4 (resQ p z.1 z.2.1 z.2.2)), .int .i64 (limC p z.1 z.2.1 z.2.2)]) (by simp [results, Tryz.results31, go_sem, c0, c1, c2, c3]) rfl ?_
                  rw [HQ.out.1, HQ.out.2]
                  exact ⟨rfl, below_set4 K.1 (by omega)⟩
            · have HMM := Lib.hid fun w => (l02Many_any p n w hs (by omega)).mono fun e w' h => (show e = .returned (.int .i64 0) ∧ w = w' by
                rw [show manyM p n = 0 by unfold manyM; rw [HL.out, if_neg hm]] at h; exact h)
              have HQ := Lib.hid (And.intro (show fromQ p place l = (0, 0, 0, 0) by simp [fromQ, hm]) (show fromC p place l = 3 by simp [fromC, hs, hd, hm]))
              clear hd hall hm
              go_wp2_with (go_at_call 46; refine (HMM.out _).mono ?_; rintro e w' ⟨rfl, rfl⟩)
              refine bodyPost_ret (v := .tuple #[.agg (P4 0 0 0 0), .int .i64 3]) (by simp [results, Tryz.results31, go_sem]) rfl ?_
              rw [HQ.out.1, HQ.out.2]
              exact ⟨rfl, below_a1 _ _⟩
theorem specFrom_any {base : Nat} {w : World} {v : Value} {l : List Int} (p place : Int) (h : IntRow base w v l) (hl : l.length ≤ 1100000) :
    Calls Tryz.prog 31 #[.int .i64 p, .int .i64 place, v] w fun e w' => e = .returned (.tuple #[.agg (A4 (fromQ p place l)), .int .i64 (fromC p place l)]) ∧ Below w.heap.size w w' := by
  rcases row_shape h with ⟨h0, o, c, rfl⟩ | ⟨h0, g, c, rfl, hb, hg⟩
  · exact specFrom_row p place o 0 0 c l w (fun h => by omega) h0.symm (by omega) (fun h => by omega) (fun k hk => by omega)
  · exact specFrom_row p place _ g l.length c l w (fun _ => rfl) rfl hl (fun _ => hg) (int_cells h)
end Go.Proofs.YtejgcamogjgdkaaGreatDoor
namespace Go.Proofs.YtejgcamogjgdkaaGreatDoor
open Go.RowKit
set_option linter.unusedVariables false
theorem itoa_char {n : Int} {c : UInt8} (h : c ∈ Lib.itoa n) : isDig c = true ∨ c = 45 := by
  unfold Lib.itoa at h
  split at h
  · rcases List.mem_cons.1 h with rfl | h
    · exact .inr rfl
    · exact .inl (List.all_eq_true.1 (decDigits_val _).1 c h)
  · exact .inl (List.all_eq_true.1 (decDigits_val _).1 c h)
theorem itoa_no (n : Int) {b : UInt8} (h1 : isDig b = false) (h2 : b ≠ 45) : b ∉ Lib.itoa n := by
  intro h
  rcases itoa_char h with h | h
  · rw [h] at h1; cases h1
  · exact h2 h
theorem parseU_dec (k : Nat) (h : k ≤ 1000000) : Lib.parseUintB 64 (Lib.decDigits k) = .ok k := by
  obtain ⟨d1, d2⟩ := decDigits_val k
  have hl := decDigits_len 12 k (by omega)
  obtain ⟨l, hL⟩ : ∃ l, Lib.decDigits k = l := ⟨_, rfl⟩
  have hne : l ≠ [] := by rw [← hL, Lib.decDigits]; split <;> simp
  rw [hL] at d1 d2 hl ⊢
  have hpow : (0 + 1) * 10 ^ l.length ≤ 1000000000000000000 := by
    rw [Nat.zero_add, Nat.one_mul]
    exact Nat.le_trans (Nat.pow_le_pow_right (by decide) hl) (by decide)
  obtain ⟨u, e1, e2, e3⟩ := uintM_dig (2 ^ 64 - 1) (by decide) l 0 d1 hpow
  have hu : (u : Int) = k := by rw [e2]; exact d2
  have : u = k := by omega
  subst this
  unfold Lib.parseUintB
  rw [if_neg hne]
  exact e1
theorem pI_itoaS (n : Int) (h0 : -1000000 ≤ n) (h1 : n ≤ 1000000) : pI (Lib.itoa n) = some n := by
  by_cases hn : 0 ≤ n
  · exact pI_itoa n hn h1
  · have e : Lib.itoa n = 45 :: Lib.decDigits n.natAbs := by unfold Lib.itoa; rw [if_pos (by omega)]
    have hp := parseU_dec n.natAbs (by omega)
    have hi : Lib.parseIntB 64 (45 :: Lib.decDigits n.natAbs) = .ok n := by
      unfold Lib.parseIntB
      simp only
      rw [if_pos (.inr (by decide)), hp]
      simp only
      rw [if_neg (by simp), if_neg (by simp; omega), if_pos (by decide)]
      congr 1
      omega
    rw [e]
    unfold pI
    rw [hi]
/-- the digits' text, and the text of a number -/
def digT (l : List Int) : List UInt8 := Lib.join (l.map Lib.itoa) [44]
def lastT (p u n : Int) : List UInt8 := if n = 0 then [45] else digT (digL p u n.toNat)
def textL (p v u n : Int) : List UInt8 := Lib.itoa p ++ 58 :: (Lib.itoa v ++ 58 :: lastT p u n)
theorem mem_joinTail {sep : List UInt8} {c : UInt8} : ∀ {r : List (List UInt8)}, c ∈ Lib.joinTail sep r → (∃ x ∈ r, c ∈ x) ∨ c ∈ sep := by
  intro r h
  unfold Lib.joinTail at h
  rw [List.mem_flatten] at h
  obtain ⟨x, hx, hc⟩ := h
  obtain ⟨y, hy, rfl⟩ := List.mem_map.1 hx
  rcases List.mem_append.1 hc with h | h
  · exact .inr h
  · exact .inl ⟨y, hy, h⟩
theorem mem_join {sep : List UInt8} {c : UInt8} {ls : List (List UInt8)} (h : c ∈ Lib.join ls sep) : (∃ x ∈ ls, c ∈ x) ∨ c ∈ sep := by
  cases ls with
  | nil => rw [Lib.join_nil] at h; cases h
  | cons a r =>
    rw [Lib.join_cons] at h
    rcases List.mem_append.1 h with h | h
    · exact .inl ⟨a, by simp, h⟩
    · rcases mem_joinTail h with ⟨x, hx, hc⟩ | h
      · exact .inl ⟨x, by simp [hx], hc⟩
      · exact .inr h
theorem digT_no (l : List Int) : (58 : UInt8) ∉ digT l := by
  intro h
  rcases mem_join h with ⟨x, hx, hc⟩ | h
  · obtain ⟨d, _, rfl⟩ := List.mem_map.1 hx
    exact itoa_no d (by decide) (by decide) hc
  · simp at h
theorem lastT_no (p u n : Int) : (58 : UInt8) ∉ lastT p u n := by
  unfold lastT
  split
  · simp
  · exact digT_no _
theorem split_text (p v u n : Int) : splitL (bsOf (textL p v u n)) 58 = [bsOf (Lib.itoa p), bsOf (Lib.itoa v), bsOf (lastT p u n)] := by
  rw [splitL_eq]
  show (spL 58 (textL p v u n)).map bsOf = _
  unfold textL
  rw [spL_more 58 _ _ (itoa_no p (by decide) (by decide)), spL_more 58 _ _ (itoa_no v (by decide) (by decide)), spL_one 58 _ (lastT_no p u n)]
  rfl
theorem cut_text (p v u n : Int) : Lib.cut (textL p v u n) [58] = (Lib.itoa p, Lib.itoa v ++ 58 :: lastT p u n, true) ∧ Lib.cut (Lib.itoa v ++ 58 :: lastT p u n) [58] = (Lib.itoa v, lastT p u n, true) :=
  ⟨cut_byte 58 _ _ (itoa_no p (by decide) (by decide)), cut_byte 58 _ _ (itoa_no v (by decide) (by decide))⟩
theorem split_digT {l : List Int} (h : l ≠ []) : splitL (bsOf (digT l)) 44 = l.map fun d => bsOf (Lib.itoa d) := by
  rw [splitL_eq]
  show (spL 44 (digT l)).map bsOf = _
  unfold digT
  rw [spL_of_join 44 (l.map Lib.itoa) (by simpa using h) (fun x hx => by
    obtain ⟨d, _, rfl⟩ := List.mem_map.1 hx
    exact itoa_no d (by decide) (by decide)), List.map_map]
  rfl
theorem bsOf_inj {a b : List UInt8} (h : bsOf a = bsOf b) : a = b := by
  have := congrArg (fun x : ByteArray => x.data.toList) h
  simpa [bsOf] using this
theorem digT_ne {l : List Int} (h : l ≠ []) (hd : ∀ d ∈ l, 0 ≤ d ∧ d < 97) : ¬ bsOf (digT l) = ⟨#[45]⟩ := by
  intro e
  have hs := split_digT h
  rw [e, show splitL (⟨#[45]⟩ : ByteArray) 44 = [⟨#[45]⟩] by decide] at hs
  cases l with
  | nil => exact h rfl
  | cons d r =>
    simp only [List.map_cons] at hs
    have h1 : (⟨#[45]⟩ : ByteArray) = bsOf (Lib.itoa d) := (List.cons.inj hs).1
    have h2 : Lib.itoa d = [45] := (bsOf_inj (show bsOf [45] = bsOf (Lib.itoa d) from h1)).symm
    have h3 := hd d (by simp)
    have h4 := pI_itoaS d (by omega) (by omega)
    rw [h2] at h4
    have h5 : pI [45] = none := by decide
    rw [h5] at h4; cases h4
/-- a text of a valid number -/
def IsText (s : ByteArray) (q : Q4) : Prop := POk q.1 q.2.1 q.2.2.1 q.2.2.2 ∧ bsOf (textL q.1 q.2.1 q.2.2.1 q.2.2.2) = s
/-- what readDigits takes -/
def RdD (c : ByteArray) (l : List Int) : Prop := (c = ⟨#[45]⟩ ∧ l = []) ∨ (¬ c = ⟨#[45]⟩ ∧ (splitL c 44).map (fun x => pI x.data.toList) = l.map some)
theorem digs_ne {p v u n : Int} (h : POk p v u n) (hn : n ≠ 0) : digL p u n.toNat ≠ [] ∧ ∀ d ∈ digL p u n.toNat, 0 ≤ d ∧ d < 97 := by
  refine ⟨?_, (digL_all h).2⟩
  intro e
  have := congrArg List.length e
  rw [digL_length] at this
  have := (pok_bd h).2.2.1
  simp at *; omega
theorem last_rd {p v u n : Int} (h : POk p v u n) : RdD (bsOf (lastT p u n)) (digL p u n.toNat) := by
  unfold lastT
  by_cases hn : n = 0
  · rw [if_pos hn, hn]; exact .inl ⟨rfl, rfl⟩
  · rw [if_neg hn]
    obtain ⟨h1, h2⟩ := digs_ne h hn
    refine .inr ⟨digT_ne h1 h2, ?_⟩
    rw [split_digT h1, List.map_map]
    apply List.map_congr_left
    intro d hd
    obtain ⟨a, b⟩ := h2 d hd
    exact pI_itoaS d (by omega) (by omega)
theorem map_some_inj {α : Type} : ∀ {a b : List α}, a.map some = b.map some → a = b
  | [], [], _ => rfl
  | [], _ :: _, h => by simp at h
  | _ :: _, [], h => by simp at h
  | x :: a, y :: b, h => by
    rw [List.map_cons, List.map_cons] at h
    obtain ⟨h1, h2⟩ := List.cons.inj h
    rw [Option.some.inj h1, map_some_inj h2]
theorem rdD_inj {c : ByteArray} {a b : List Int} (ha : RdD c a) (hb : RdD c b) : a = b := by
  rcases ha with ⟨e1, rfl⟩ | ⟨e1, h1⟩
  · rcases hb with ⟨_, rfl⟩ | ⟨e2, _⟩
    · rfl
    · exact absurd e1 e2
  · rcases hb with ⟨e2, _⟩ | ⟨_, h2⟩
    · exact absurd e2 e1
    · exact map_some_inj (h1.symm.trans h2)
/-- what is read off a text -/
theorem text_reads {s : ByteArray} {q : Q4} (h : IsText s q) :
    pI (Lib.cut s.data.toList [58]).1 = some q.1 ∧ pI (Lib.cut (Lib.cut s.data.toList [58]).2.1 [58]).1 = some q.2.1 ∧
    RdD (bsOf (Lib.cut (Lib.cut s.data.toList [58]).2.1 [58]).2.1) (digL q.1 q.2.2.1 q.2.2.2.toNat) ∧ fromC q.1 q.2.1 (digL q.1 q.2.2.1 q.2.2.2.toNat) = 0 ∧ fromQ q.1 q.2.1 (digL q.1 q.2.2.1 q.2.2.2.toNat) = q := by
  obtain ⟨hk, rfl⟩ := h
  have e : (bsOf (textL q.1 q.2.1 q.2.2.1 q.2.2.2)).data.toList = textL q.1 q.2.1 q.2.2.1 q.2.2.2 := by simp [bsOf]
  obtain ⟨c1, c2⟩ := cut_text q.1 q.2.1 q.2.2.1 q.2.2.2
  obtain ⟨hp2, hp97, _⟩ := pok_bd hk
  have hv0 := hk.2.1
  have hv1 := hk.2.2.1
  obtain ⟨f1, f2⟩ := from_digits hk
  rw [e, c1]
  simp only
  rw [c2]
  exact ⟨pI_itoaS _ (by omega) (by omega), pI_itoaS _ (by omega) (by omega), last_rd hk, f1, f2⟩
theorem text_inj {s : ByteArray} {q q' : Q4} (h : IsText s q) (h' : IsText s q') : q = q' := by
  obtain ⟨a1, a2, a3, _, a5⟩ := text_reads h
  obtain ⟨b1, b2, b3, _, b5⟩ := text_reads h'
  rw [a1] at b1
  rw [a2] at b2
  have e := rdD_inj a3 b3
  rw [← a5, ← b5, ← e, Option.some.inj b1, Option.some.inj b2]
/-- a number that FromDigits answers is valid -/
theorem from_ok {p k : Int} {l : List Int} (h : fromC p k l = 0) : POk (fromQ p k l).1 (fromQ p k l).2.1 (fromQ p k l).2.2.1 (fromQ p k l).2.2.2 := by
  unfold fromC at h
  unfold fromQ
  split at h
  · rename_i hs
    split at h
    · rename_i hd
      split at h
      · rename_i hm
        have hb := lim_zero h
        rw [hs, hd, decide_eq_true hm]
        simp only [Bool.and_self, if_true, resQ, hb]
        exact padB_ok hb
      · omega
    · omega
  · omega
/-- the answer of both ReadPadic -/
def ReadPost (s : ByteArray) (w : World) (e : Ending) (w' : World) : Prop :=
  ∃ (q : Q4) (c : Int), e = .returned (.tuple #[.agg (A4 q), .int .i64 c]) ∧ Below w.heap.size w w' ∧ ((c = 0 ∧ IsText s q) ∨ (c = 6 ∧ q = (0, 0, 0, 0) ∧ ¬ ∃ q, IsText s q))
theorem read_agree {s : ByteArray} {q q' : Q4} {c c' : Int} (h : (c = 0 ∧ IsText s q) ∨ (c = 6 ∧ q = (0, 0, 0, 0) ∧ ¬ ∃ q, IsText s q)) (h' : (c' = 0 ∧ IsText s q') ∨ (c' = 6 ∧ q' = (0, 0, 0, 0) ∧ ¬ ∃ q, IsText s q)) : q = q' ∧ c = c' := by
  rcases h with ⟨rfl, h1⟩ | ⟨rfl, rfl, h1⟩
  · rcases h' with ⟨rfl, h2⟩ | ⟨rfl, rfl, h2⟩
    · exact ⟨text_inj h1 h2, rfl⟩
    · exact absurd ⟨q, h1⟩ h2
  · rcases h' with ⟨rfl, h2⟩ | ⟨rfl, rfl, h2⟩
    · exact absurd ⟨q', h2⟩ h1
    · exact ⟨rfl, rfl⟩
end Go.Proofs.YtejgcamogjgdkaaGreatDoor
namespace Go.Proofs.YtejgcamogjgdkaaGreatDoor
open Go
set_option linter.unusedVariables false
def ordersOf (md : Region.Mode) (ops : Array Oper) : Nat → Array Bool → List (List Nat)
  | 0, _ => [[]]
  | fuel + 1, listed => if (Region.ready md ops listed).isEmpty then [[]] else (Region.ready md ops listed).flatMap fun i => (ordersOf md ops fuel (listed.setIfInBounds i true)).map (i :: ·)
theorem linearise_in (md : Region.Mode) (ops : Array Oper) : ∀ (fuel t : Nat) (listed : Array Bool), Region.linearise.go md ops fuel t listed [] ∈ ordersOf md ops fuel listed := by
  intro fuel
  induction fuel with
  | zero => intro t listed; simp [Region.linearise.go, ordersOf]
  | succ fuel ih =>
    intro t listed
    simp only [Region.linearise.go]
    change (match (Region.ready md ops listed)[t % (Region.ready md ops listed).length]? with
      | some i => Region.linearise.go md ops fuel (t / (Region.ready md ops listed).length) (listed.setIfInBounds i true) [i]
      | none => [].reverse) ∈ _
    cases hi : (Region.ready md ops listed)[t % (Region.ready md ops listed).length]? with
    | none =>
      have hnil : Region.ready md ops listed = [] := by
        cases hr : Region.ready md ops listed with
        | nil => rfl
        | cons x xs =>
          rw [hr] at hi
          have hlt : t % (x :: xs).length < (x :: xs).length := Nat.mod_lt _ (by simp)
          simp at hi
          simp at hlt
          omega
      simp [ordersOf, hnil]
    | some i =>
      have hm := List.mem_of_getElem? hi
      have hne : (Region.ready md ops listed).isEmpty = false := by
        cases hr : Region.ready md ops listed with
        | nil => rw [hr] at hm; cases hm
        | cons x xs => rfl
      simp only []
      rw [linearise_go_acc, List.reverse_singleton, List.singleton_append]
      simp only [ordersOf, hne, if_false, Bool.false_eq_true]
      exact List.mem_flatMap.2 ⟨i, hm, List.mem_map.2 ⟨_, ih _ _, rfl⟩⟩
theorem wpIn_region_orders {F : Fence} {n : Nat} {P : Program} {id : Nat} {ops : Array Oper} {Q : Exit → Act → World → Prop} {a : Act} {w : World} {L : List (List Nat)} (hm : P.follows .mixedOrders = true)
    (hL : ordersOf .any ops ops.size (Array.replicate ops.size false) = L) (h : ∀ l ∈ L, wpOpsIn F n P ops Q l a w.drew) : (Code.region id ops true).wpIn F n P Q a w :=
  wpIn_region_draw fun t => by
    have := h (Region.linearise.go .any ops ops.size t (Array.replicate ops.size false) []) (hL ▸ linearise_in _ _ _ _ _)
    simp only [Region.schedule, hm, Bool.true_or, if_true]
    exact this
theorem wpOpsIn_list {F : Fence} {n : Nat} {P : Program} {ops : Array Oper} {Q : Exit → Act → World → Prop} : ∀ (idx : List Nat) (a : Act) (w : World), (∀ i ∈ idx, i < ops.size) →
    wpListIn F n P ops Q (idx.filterMap fun i => ops[i]?) a w → wpOpsIn F n P ops Q idx a w := by
  intro idx
  induction idx with
  | nil => intro a w _ h; exact h
  | cons i idx ih =>
    intro a w hi h
    have hlt := hi i (by simp)
    have e : ops[i]? = some ops[i] := Array.getElem?_eq_getElem hlt
    rw [List.filterMap_cons_some e] at h
    unfold wpOpsIn
    simp only [e]
    unfold wpListIn at h
    split
    · rename_i hw
      rw [if_pos hw] at h
      exact Oper.wpIn_mono (fun a w => ih a w fun j hj => hi j (by simp [hj])) h
    · rename_i hw
      rw [if_neg hw] at h
      exact ⟨h.1, ih _ _ (fun j hj => hi j (by simp [hj])) h.2⟩
end Go.Proofs.YtejgcamogjgdkaaGreatDoor
namespace Go.Proofs.YtejgcamogjgdkaaGreatDoor
open Go.RowKit Go.Shelf
attribute [local go_sem] Oper.semAt_some
set_option linter.unusedVariables false
set_option linter.unusedSimpArgs false
theorem itoa_len {n : Int} (h0 : -1000000 ≤ n) (h1 : n ≤ 1000000) : (Lib.itoa n).length ≤ 20 := by
  unfold Lib.itoa
  split
  · have := decDigits_len 10 n.natAbs (by omega)
    simp; omega
  · have := decDigits_len 10 n.toNat (by omega)
    omega
theorem joinTail_len {sep : List UInt8} {m : Nat} : ∀ {r : List (List UInt8)}, (∀ x ∈ r, x.length ≤ m) → (Lib.joinTail sep r).length ≤ (m + sep.length) * r.length := by
  intro r
  induction r with
  | nil => intro _; simp [Lib.joinTail]
  | cons a r ih =>
    intro h
    have h1 := ih fun x hx => h x (List.mem_cons_of_mem _ hx)
    have h2 := h a List.mem_cons_self
    have e : Lib.joinTail sep (a :: r) = sep ++ a ++ Lib.joinTail sep r := by simp [Lib.joinTail]
    rw [e, List.length_append, List.length_append, List.length_cons, Nat.mul_succ]
    omega
theorem digT_len {l : List Int} (hl : l.length ≤ 40) (hd : ∀ d ∈ l, 0 ≤ d ∧ d < 97) : (digT l).length ≤ 1000 := by
  unfold digT
  cases l with
  | nil => simp [Lib.join_nil]
  | cons a r =>
    rw [List.map_cons, Lib.join_cons, List.length_append]
    have ha := hd a List.mem_cons_self
    have h1 := itoa_len (n := a) (by omega) (by omega)
    have h2 : (Lib.joinTail [44] (r.map Lib.itoa)).length ≤ (20 + [44].length) * (r.map Lib.itoa).length := joinTail_len fun x hx => by
      obtain ⟨d, hd', rfl⟩ := List.mem_map.1 hx
      have := hd d (List.mem_cons_of_mem _ hd')
      exact itoa_len (by omega) (by omega)
    rw [List.length_map] at h2
    simp at h2 hl
    omega
theorem lastT_len {p v u n : Int} (h : POk p v u n) : (lastT p u n).length ≤ 1000 := by
  unfold lastT
  split
  · simp
  · exact digT_len (digL_all h).1 (digL_all h).2
/-- joined digits -/
theorem join_row {base : Nat} {w : World} {v : Value} {l : List Int} (h : StrRow base w v (l.map fun d => bsOf (Lib.itoa d))) (h0 : l ≠ []) (hl : l.length ≤ 40) (hd : ∀ d ∈ l, 0 ≤ d ∧ d < 97) :
    Calls Tryz.prog 41 #[v, .string ⟨#[44]⟩] w fun e w' => e = .returned (.string (bsOf (digT l))) ∧ Below w.heap.size w w' := by
  have hlen : (l.map fun d => bsOf (Lib.itoa d)).length = l.length := by rw [List.length_map]
  rcases h.2 with ⟨_, hz⟩ | ⟨g, cap, cur, rfl, hb, hg, hc, _, _, _⟩
  · rw [hlen] at hz; exact absurd (List.length_eq_zero_iff.1 hz) h0
  · have hm : (l.map fun d => bsOf (Lib.itoa d)).map (·.data.toList) = l.map Lib.itoa := by
      rw [List.map_map]; exact List.map_congr_left fun d _ => by simp [bsOf]
    have hdl := digT_len hl hd
    have hj := Tryz.strings_Join g 0 cap (l.map fun d => bsOf (Lib.itoa d)) ⟨#[44]⟩ w (fun j x hjx => by
        rw [Nat.zero_add, World.ownsRow.cellAt h j (by have := (List.getElem?_eq_some_iff.1 hjx).1; omega), List.getElem?_map, hjx]; rfl) (Array.getElem?_eq_some_iff.1 hg).1 (by rw [hlen]; omega) hc (by
        rw [hm]; show (digT l).length ≤ _; omega)
    rw [hm] at hj
    exact hj
/-- what holds at the head of each round: the box b holds the row of the digits' texts so far -/
def TI (w : World) (p v u n : Int) (b : Nat) (pre : List Int) (W : World) : Prop :=
  ∃ vl, Boxed W b 55 vl ∧ StrRow w.heap.size W vl (pre.map fun d => bsOf (Lib.itoa d)) ∧ Below w.heap.size w W ∧ PadAt W w.heap.size p v u n
theorem padAt_put {W : World} {b k : Nat} {p v u n : Int} {o o' : Obj} (h : PadAt W b p v u n) (hk : W.heap[k]? = some o) (ho : o.isCells = false) : PadAt (W.putObj k o') b p v u n := by
  refine (World.putObj_heap_other ?_).trans h
  rintro rfl
  have h' : W.heap[b]? = _ := h
  rw [h'] at hk; cases hk; cases ho
theorem ti_put {w W : World} {p v u n : Int} {b k : Nat} {pre : List Int} {o o' : Obj} (h : TI w p v u n b pre W) (hb : w.heap.size ≤ k) (hk : W.heap[k]? = some o) (ho : o.isCells = false) : TI w p v u n b pre (W.putObj k o') := by
  obtain ⟨vl, h1, h2, h3, h4⟩ := h
  exact ⟨vl, boxed_putB h1 hk ho, ownsRow_putObj h2 _ hk ho, below_putB h3 hb, padAt_put h4 hk ho⟩
theorem ti_below {w A B : World} {p v u n : Int} {b : Nat} {pre : List Int} (h : TI w p v u n b pre A) (hs : StU A B) : TI w p v u n b pre B := by
  obtain ⟨vl, h1, h2, h3, h4⟩ := h
  exact ⟨vl, boxed_belowB h1 hs, row_below h2 hs (Nat.le_refl _), h3.trans (hs.mono h3.size), padAt_keep h4 (frP_below hs)⟩
theorem text_sum (a b d : List UInt8) : bsOf a ++ ⟨#[58]⟩ ++ bsOf b ++ ⟨#[58]⟩ ++ bsOf d = bsOf (a ++ 58 :: (b ++ 58 :: d)) := by
  rw [show (⟨#[58]⟩ : ByteArray) = bsOf [58] from rfl, bs_append, bs_append, bs_append, bs_append]
  congr 1
  simp
/-- the sums of strings in a text -/
theorem text_adds {a b d : List UInt8} (ha : a.length ≤ 1000) (hb : b.length ≤ 1000) (hd : d.length ≤ 1000) :
    (∀ wx, (Op.stringOp .add (bsOf a) ⟨#[58]⟩).run Tryz.prog wx = .ok (.string (bsOf a ++ ⟨#[58]⟩)) wx) ∧
    (∀ wx, (Op.stringOp .add (bsOf a ++ ⟨#[58]⟩) (bsOf b)).run Tryz.prog wx = .ok (.string (bsOf a ++ ⟨#[58]⟩ ++ bsOf b)) wx) ∧
    (∀ wx, (Op.stringOp .add (bsOf a ++ ⟨#[58]⟩ ++ bsOf b) ⟨#[58]⟩).run Tryz.prog wx = .ok (.string (bsOf a ++ ⟨#[58]⟩ ++ bsOf b ++ ⟨#[58]⟩)) wx) ∧
    (∀ wx, (Op.stringOp .add (bsOf a ++ ⟨#[58]⟩ ++ bsOf b ++ ⟨#[58]⟩) (bsOf d)).run Tryz.prog wx = .ok (.string (bsOf a ++ ⟨#[58]⟩ ++ bsOf b ++ ⟨#[58]⟩ ++ bsOf d)) wx) := by
  have e : (⟨#[58]⟩ : ByteArray) = bsOf [58] := rfl
  refine ⟨fun wx => add_any _ _ ?_ wx, fun wx => add_any _ _ ?_ wx, fun wx => add_any _ _ ?_ wx, fun wx => add_any _ _ ?_ wx⟩
  all_goals simp only [e, bs_append, bs_size, List.length_append, List.length_cons, List.length_nil]
  all_goals omega
theorem ret_str2 {a b : ByteArray} (h : a = b) : Ending.returned (.string a) = .returned (.string b) := by rw [h]
set_option maxRecDepth 20000 in
set_option maxHeartbeats 1600000 in
theorem text_zero (p v u n : Int) (w : World) (h : POk p v u n) (hn : n = 0) (ht : Tab w) :
    Calls Tryz.prog 16 #[.agg (P4 p v u n)] w fun e w' => e = .returned (.string (bsOf (textL p v u n))) ∧ Below w.heap.size w w' := by
  have hu := pok_zero h hn
  obtain ⟨hp2, hp97, _⟩ := pok_bd h
  have hv0 := h.2.1
  have hv1 := h.2.2.1
  have HZ := Lib.hid (show (u == 0 && n == 0) = true by simp [hn, hu])
  have HE := Lib.hid (show bsOf (Lib.itoa p) ++ ⟨#[58]⟩ ++ bsOf (Lib.itoa v) ++ ⟨#[58]⟩ ++ bsOf [45] = bsOf (textL p v u n) by rw [text_sum]; unfold textL lastT; rw [if_pos hn])
  obtain ⟨a1, a2, a3, a4⟩ := text_adds (Nat.le_trans (itoa_len (n := p) (by omega) (by omega)) (by omega)) (Nat.le_trans (itoa_len (n := v) (by omega) (by omega)) (by omega)) (show [45].length ≤ 1000 by simp)
  have e45 : bsOf [45] = ⟨#[45]⟩ := rfl
  rw [e45] at a4 HE
  have HT := Lib.hid ht
  have F1 := Lib.hid fun (w : World) (h : Tab w) => format_any p w (by omega) (by omega) h
  have F2 := Lib.hid fun (w : World) (h : Tab w) => format_any v w (by omega) (by omega) h
  generalize bsOf (Lib.itoa p) = sp at *
  generalize bsOf (Lib.itoa v) = sv at *
  clear h ht hu hn e45
  go_enter Tryz.func16, Tryz.ntmps16
  go_wp2_with (go_at_call 35; refine (isZero_any _ _ _ _ _).mono ?_; rw [HZ.out]; rintro e w1 ⟨rfl, hb⟩; have K := k1_first hb; obtain ⟨c0, c1, c2, c3⟩ := lies_four K.2)
  have K := k1_drew K
  have T := tab_below HT.out K.1 (Nat.le_refl _)
  clear c0 c1 c2 c3 hb
  obtain ⟨c0, c1, c2, c3⟩ := lies_four K.2
  go_region_with (first
    | (go_at_call 40; refine (F1.out _ T).mono ?_; rintro e wn ⟨rfl, hb⟩; have T := tab_below T hb (Nat.le_refl _); have K := k1_next K hb; obtain ⟨c0, c1, c2, c3⟩ := lies_four K.2)
    | (go_at_call 40; refine (F2.out _ T).mono ?_; rintro e wn ⟨rfl, hb⟩; have T := tab_below T hb (Nat.le_refl _); have K := k1_next K hb; obtain ⟨c0, c1, c2, c3⟩ := lies_four K.2))
  all_goals go_wp2
  all_goals go_ret
  all_goals exact ⟨ret_str2 HE.out, K.1⟩
end Go.Proofs.YtejgcamogjgdkaaGreatDoor
namespace Go.Proofs.YtejgcamogjgdkaaGreatDoor
open Go.RowKit Go.Shelf
attribute [local go_sem] Oper.semAt_some
set_option linter.unusedVariables false
set_option linter.unusedSimpArgs false
theorem strRow_grow {b : Nat} {w3 : World} {v : Value} {pre : List Int} {x : Int} (hown : w3.ownsRow b 9 1 v (pre.length + 1) ((pre.map fun d => bsOf (Lib.itoa d)).map Value.string ++ [.string (bsOf (Lib.itoa x))])) : StrRow b w3 v ((pre ++ [x]).map fun d => bsOf (Lib.itoa d)) := by
  unfold StrRow
  rw [List.length_map, List.length_append, List.length_singleton, List.map_append, List.map_append]
  exact hown
set_option maxRecDepth 20000 in
set_option maxHeartbeats 3200000 in
theorem text_some (p v u n : Int) (w : World) (h : POk p v u n) (hn : n ≠ 0) (ht : Tab w) :
    Calls Tryz.prog 16 #[.agg (P4 p v u n)] w fun e w' => e = .returned (.string (bsOf (textL p v u n))) ∧ Below w.heap.size w w' := by
  obtain ⟨i0, hi, hz0, hz1, hz2⟩ := info_parts Tryz.infoString
  have HI := Lib.hid hi
  have HZ0 := Lib.hid hz0
  have HZ1 := Lib.hid hz1
  have HZ2 := Lib.hid hz2
  obtain ⟨hp2, hp97, _⟩ := pok_bd h
  have hv0 := h.2.1
  have hv1 := h.2.2.1
  have HZ := Lib.hid (show (u == 0 && n == 0) = false by simp [hn])
  have HK := Lib.hid h
  have HNE := Lib.hid (digs_ne h hn)
  have HLL := Lib.hid (digL_all h).1
  have HE := Lib.hid (show bsOf (Lib.itoa p) ++ ⟨#[58]⟩ ++ bsOf (Lib.itoa v) ++ ⟨#[58]⟩ ++ bsOf (digT (digL p u n.toNat)) = bsOf (textL p v u n) by rw [text_sum]; unfold textL lastT; rw [if_neg hn])
  obtain ⟨a1, a2, a3, a4⟩ := text_adds (Nat.le_trans (itoa_len (n := p) (by omega) (by omega)) (by omega)) (Nat.le_trans (itoa_len (n := v) (by omega) (by omega)) (by omega)) (digT_len (digL_all h).1 (digL_all h).2)
  have HT := Lib.hid ht
  have F1 := Lib.hid fun (w : World) (h : Tab w) => format_any p w (by omega) (by omega) h
  have F2 := Lib.hid fun (w : World) (h : Tab w) => format_any v w (by omega) (by omega) h
  have HA := Lib.hid (And.intro a1 (And.intro a2 (And.intro a3 a4)))
  generalize bsOf (Lib.itoa p) = sp at *
  generalize bsOf (Lib.itoa v) = sv at *
  have hpd0 : PadAt (w.alloc (.cells (P4 p v u n) 25)) w.heap.size p v u n := World.alloc_heap_new w _
  have HPD0 := Lib.hid hpd0
  clear h ht hn hi hz0 hz1 hz2 a1 a2 a3 a4 hpd0
  refine (callsIn_wide (n := 4)).1 ?_
  refine callsIn_of_wp_marks Tryz.func16 rfl trivial ?_ rfl
  simp only [Tryz.ntmps16, List.size_toArray, List.length_cons, List.length_nil, Nat.reduceAdd, Nat.reduceSub, Array.replicate_succ, Array.replicate_zero, List.push_toArray, List.append_toArray, List.nil_append, List.cons_append]
  gi_wp2_with (refine ⟨trivial, ?_⟩; gi_at_call 35; refine (callsIn_wide.2 (isZero_any _ _ _ _ _)).mono ?_; rw [HZ.out]; rintro e w' ⟨rfl, hb⟩; have K := k1_first hb; have hpd := padAt_keep HPD0.out (frP_below hb); obtain ⟨c0, c1, c2, c3⟩ := lies_four (lies_alloc K.2 (.cells #[.slice none 0 0] 55)))
  have hsz := K.1.size
  have hB6 : Below w.heap.size w (w'.alloc (.cells #[.slice none 0 0] 55)) := K.1.alloc hsz _
  have hbox := Boxed.new w' 55 (.slice none 0 0)
  have hpd6 := padAt_keep hpd (frP_below (below_a1 w' (.cells #[.slice none 0 0] 55)))
  obtain ⟨B, hB⟩ : ∃ B, w'.heap.size = B := ⟨_, rfl⟩
  have h6s : (w'.alloc (.cells #[.slice none 0 0] 55)).heap.size = B + 1 := by rw [← hB]; simp
  rw [hB] at hbox ⊢
  generalize w'.alloc (.cells #[.slice none 0 0] 55) = W6 at *
  have hBw : w.heap.size ≤ B := by omega
  clear K c0 c1 c2 c3 hb hsz hB hpd HPD0
  refine wpIn_rangeBb (F := Fence.wide) (n := 4) (P := Tryz.prog) (w := W6) rfl (by omega) (gf := 39) (ba := #[.agg (P4 p v u n)]) (lb := #[]) rfl trivial (enters_of Tryz.func39 (by kernel_rfl) rfl)
    (digits_by 3 (by omega) p v u n HK.out) (fun _ => rfl)
    (TI w p v u n B) (fun _ _ => False) (fun x => { tmps := #[.agg (P4 p v u n), .pointer (some ⟨w.heap.size, 0, none⟩), .string ⟨#[]⟩, .string ⟨#[45]⟩, .pointer (some ⟨B, 0, none⟩), .int .i64 x, .agg (P4 p v u n), .bool false, .bool true, .agg (P4 p v u n), .func (.func 39) #[.agg (P4 p v u n)] #[], .int .i64 x, undef, undef, undef, undef, undef, undef, undef, undef, undef, undef, undef, undef, undef, undef, undef, undef, undef, undef], defers := [] })
    ?ip ?xp ?fp ?fq ?ft ?is ?xs ?sk ?h0 ?s0 ?assign ?body ?done ?stop
  case ip => intro pre W k o o' h hk ho hc; exact ti_put h (by omega) ho hc
  case xp => intro _ _ _ _ _ h; exact h.elim
  case fp => intro A W k o o' hf hk ho hc; exact frP_put hf ho hc
  case fq => intro W k o o' hk ho hc; exact frP_put (frP_refl W) ho hc
  case ft => intro A B C h k; exact frP_trans h k
  case is => intro pre A B h hs; exact ti_below h hs
  case xs => intro _ _ _ h; exact h.elim
  case sk => intro A B k o hs hk ho hc; exact (hs.block k (Array.getElem?_eq_some_iff.1 ho).1).trans ho
  case h0 =>
    intro o o'
    exact ⟨_, (hbox.alloc _).alloc _, World.ownsRow_nil _ _ _ _, (hB6.alloc (by omega) _).alloc (by simp; omega) _, padAt_keep hpd6 (frP_trans (frP_below (below_a1 _ _)) (frP_below (below_a1 _ _)))⟩
  case s0 => intro o o'; trivial
  case assign =>
    intro l x W K hK
    gi_wp2
    exact hK
  case body =>
    rintro l pre x W hsp ⟨vl, hv, hrow, hbel, hpad⟩
    have hlen : pre.length ≤ 28 := by
      have := hsp.length_le
      rw [digL_length, List.length_append] at this
      have := (pok_bd HK.out).2.2.2.1
      simp at *; omega
    have hx : 0 ≤ x ∧ x < 97 := (digL_all HK.out).2 x (hsp.subset (by simp))
    have hT := tab_below HT.out hbel (Nat.le_refl _)
    have hD : Below W.heap.size W W.drew := below_drewN (Below.refl _ _) 1
    obtain ⟨o, c, hvl⟩ := strRow_slice hrow
    rw [List.length_map] at hvl
    subst hvl
    have hvD := boxed_belowB hv hD
    have hrowD : StrRow w.heap.size W.drew _ _ := row_below hrow hD (Nat.le_refl _)
    have hTD := tab_below hT hD (Nat.le_refl _)
    have hs1 := hbel.size
    have hs2 := hD.size
    clear hsp HNE HLL HK HA HE hT hv hrow
    gi_wp2_with fail
    refine wpIn_region_orders (L := [[0, 1, 2, 3, 4, 5], [1, 0, 2, 3, 4, 5], [1, 2, 0, 3, 4, 5], [1, 2, 3, 0, 4, 5]]) (by kernel_rfl) (by kernel_rfl) ?_
    intro ll hll
    simp only [List.mem_cons, List.not_mem_nil, or_false] at hll
    have F3 := Lib.hid (format_any x W.drew (by omega) (by omega) hTD)
    have q2 := hvD.cell
    generalize W.drew = WD at *
    rcases hll with rfl | rfl | rfl | rfl
    · refine wpOpsIn_list _ _ _ (by decide) ?_
      simp only [List.filterMap_cons, List.filterMap_nil, List.getElem?_toArray, List.getElem?_cons_zero, List.getElem?_cons_succ]
      refine wpListIn_plain rfl (fun K hK => ?_)
      go_simp
      refine hK _ _ ?_
      clear hK K
      refine wpListIn_plain rfl (fun K hK => ?_)
      go_simp
      refine hK _ _ ?_
      clear hK K
      refine wpListIn_plain rfl (fun K hK => ?_)
      go_simp
      refine ⟨trivial, ?_⟩
      gi_at_call 40
      refine (CallsIn.inRound l (callsIn_wide.2 F3.out)).mono ?_
      rintro e w2 ⟨rfl, hb2⟩
      have r1 := (boxed_belowB hvD hb2)
      have q3 := r1.cell
      have r2 := r1.alloc (.cells #[.string (bsOf (Lib.itoa x))] 9)
      have q4 := r2.cell
      have hrw : StrRow w.heap.size w2 (.slice o pre.length c) (pre.map fun d => bsOf (Lib.itoa d)) := row_below hrowD hb2 (Nat.le_refl _)
      simp only []
      refine hK _ _ ?_
      clear hK K
      refine wpListIn_plain rfl (fun K hK => ?_)
      go_simp
      refine hK _ _ ?_
      clear hK K
      refine wpListIn_append_own _ rfl (.tmp 12) (.tmp 15) 55 rfl w.heap.size 9 i0 (.string ⟨#[]⟩) 1 16 Tryz.underlying55 HI.out HZ0.out HZ1.out HZ2.out rfl (by decide) _ _ _ rfl (hrw.alloc _) ⟨w2.heap.size, 0, none⟩ 1 1 [.string (bsOf (Lib.itoa x))] rfl rfl (by first | exact newsS _ _ _ | simp [Addr.add]) (by first | exact oneS _ | rfl) (by rw [List.length_map]; unfold maxLen; omega) (by rw [List.length_map]; omega) (by have := hb2.size; simp; omega) ?_
      intro v' w3 hown hgrow _
      rw [List.length_map] at hown
      obtain ⟨o2, c2, rfl⟩ := row_slice hown
      have hown' := strRow_grow hown
      obtain ⟨e1, e2, e3, e4, e5⟩ := r1.appended (by decide) hrw (by have := hb2.size; omega) (show w.heap.size ≤ B by omega) hown' hgrow
      have hF := frP_trans (frP_trans (frP_trans (frP_trans (frP_below hD) (frP_below hb2)) (frP_below (below_a1 w2 (.cells #[.string (bsOf (Lib.itoa x))] 9)))) (frP_row (hrw.alloc _) (by decide) hgrow)) (frP_set (.slice o2 (pre.length + 1) c2) e1 (by decide))
      have hKO := ((keeps_belowB hD).trans (keeps_belowB hb2)).trans e4
      have hBL := (hbel.trans (hD.mono hs1)).trans ((hb2.mono (Nat.le_trans hs1 hs2)).trans e5)
      have q5 := e1.cell
      have q5f := e1.frozen
      clear hown hgrow
      gi_wp2
      exact ⟨hKO, hF, _, e2, e3, hBL, padAt_keep hpad hF⟩
    · refine wpOpsIn_list _ _ _ (by decide) ?_
      simp only [List.filterMap_cons, List.filterMap_nil, List.getElem?_toArray, List.getElem?_cons_zero, List.getElem?_cons_succ]
      refine wpListIn_plain rfl (fun K hK => ?_)
      go_simp
      refine hK _ _ ?_
      clear hK K
      refine wpListIn_plain rfl (fun K hK => ?_)
      go_simp
      refine hK _ _ ?_
      clear hK K
      refine wpListIn_plain rfl (fun K hK => ?_)
      go_simp
      refine ⟨trivial, ?_⟩
      gi_at_call 40
      refine (CallsIn.inRound l (callsIn_wide.2 F3.out)).mono ?_
      rintro e w2 ⟨rfl, hb2⟩
      have r1 := (boxed_belowB hvD hb2)
      have q3 := r1.cell
      have r2 := r1.alloc (.cells #[.string (bsOf (Lib.itoa x))] 9)
      have q4 := r2.cell
      have hrw : StrRow w.heap.size w2 (.slice o pre.length c) (pre.map fun d => bsOf (Lib.itoa d)) := row_below hrowD hb2 (Nat.le_refl _)
      simp only []
      refine hK _ _ ?_
      clear hK K
      refine wpListIn_plain rfl (fun K hK => ?_)
      go_simp
      refine hK _ _ ?_
      clear hK K
      refine wpListIn_append_own _ rfl (.tmp 12) (.tmp 15) 55 rfl w.heap.size 9 i0 (.string ⟨#[]⟩) 1 16 Tryz.underlying55 HI.out HZ0.out HZ1.out HZ2.out rfl (by decide) _ _ _ rfl (hrw.alloc _) ⟨w2.heap.size, 0, none⟩ 1 1 [.string (bsOf (Lib.itoa x))] rfl rfl (by first | exact newsS _ _ _ | simp [Addr.add]) (by first | exact oneS _ | rfl) (by rw [List.length_map]; unfold maxLen; omega) (by rw [List.length_map]; omega) (by have := hb2.size; simp; omega) ?_
      intro v' w3 hown hgrow _
      rw [List.length_map] at hown
      obtain ⟨o2, c2, rfl⟩ := row_slice hown
      have hown' := strRow_grow hown
      obtain ⟨e1, e2, e3, e4, e5⟩ := r1.appended (by decide) hrw (by have := hb2.size; omega) (show w.heap.size ≤ B by omega) hown' hgrow
      have hF := frP_trans (frP_trans (frP_trans (frP_trans (frP_below hD) (frP_below hb2)) (frP_below (below_a1 w2 (.cells #[.string (bsOf (Lib.itoa x))] 9)))) (frP_row (hrw.alloc _) (by decide) hgrow)) (frP_set (.slice o2 (pre.length + 1) c2) e1 (by decide))
      have hKO := ((keeps_belowB hD).trans (keeps_belowB hb2)).trans e4
      have hBL := (hbel.trans (hD.mono hs1)).trans ((hb2.mono (Nat.le_trans hs1 hs2)).trans e5)
      have q5 := e1.cell
      have q5f := e1.frozen
      clear hown hgrow
      gi_wp2
      exact ⟨hKO, hF, _, e2, e3, hBL, padAt_keep hpad hF⟩
    · refine wpOpsIn_list _ _ _ (by decide) ?_
      simp only [List.filterMap_cons, List.filterMap_nil, List.getElem?_toArray, List.getElem?_cons_zero, List.getElem?_cons_succ]
      refine wpListIn_plain rfl (fun K hK => ?_)
      go_simp
      refine hK _ _ ?_
      clear hK K
      refine wpListIn_plain rfl (fun K hK => ?_)
      go_simp
      refine ⟨trivial, ?_⟩
      gi_at_call 40
      refine (CallsIn.inRound l (callsIn_wide.2 F3.out)).mono ?_
      rintro e w2 ⟨rfl, hb2⟩
      have r1 := (boxed_belowB hvD hb2)
      have q3 := r1.cell
      have r2 := r1.alloc (.cells #[.string (bsOf (Lib.itoa x))] 9)
      have q4 := r2.cell
      have hrw : StrRow w.heap.size w2 (.slice o pre.length c) (pre.map fun d => bsOf (Lib.itoa d)) := row_below hrowD hb2 (Nat.le_refl _)
      simp only []
      refine hK _ _ ?_
      clear hK K
      refine wpListIn_plain rfl (fun K hK => ?_)
      go_simp
      refine hK _ _ ?_
      clear hK K
      refine wpListIn_plain rfl (fun K hK => ?_)
      go_simp
      refine hK _ _ ?_
      clear hK K
      refine wpListIn_append_own _ rfl (.tmp 12) (.tmp 15) 55 rfl w.heap.size 9 i0 (.string ⟨#[]⟩) 1 16 Tryz.underlying55 HI.out HZ0.out HZ1.out HZ2.out rfl (by decide) _ _ _ rfl (hrw.alloc _) ⟨w2.heap.size, 0, none⟩ 1 1 [.string (bsOf (Lib.itoa x))] rfl rfl (by first | exact newsS _ _ _ | simp [Addr.add]) (by first | exact oneS _ | rfl) (by rw [List.length_map]; unfold maxLen; omega) (by rw [List.length_map]; omega) (by have := hb2.size; simp; omega) ?_
      intro v' w3 hown hgrow _
      rw [List.length_map] at hown
      obtain ⟨o2, c2, rfl⟩ := row_slice hown
      have hown' := strRow_grow hown
      obtain ⟨e1, e2, e3, e4, e5⟩ := r1.appended (by decide) hrw (by have := hb2.size; omega) (show w.heap.size ≤ B by omega) hown' hgrow
      have hF := frP_trans (frP_trans (frP_trans (frP_trans (frP_below hD) (frP_below hb2)) (frP_below (below_a1 w2 (.cells #[.string (bsOf (Lib.itoa x))] 9)))) (frP_row (hrw.alloc _) (by decide) hgrow)) (frP_set (.slice o2 (pre.length + 1) c2) e1 (by decide))
      have hKO := ((keeps_belowB hD).trans (keeps_belowB hb2)).trans e4
      have hBL := (hbel.trans (hD.mono hs1)).trans ((hb2.mono (Nat.le_trans hs1 hs2)).trans e5)
      have q5 := e1.cell
      have q5f := e1.frozen
      clear hown hgrow
      gi_wp2
      exact ⟨hKO, hF, _, e2, e3, hBL, padAt_keep hpad hF⟩
    · refine wpOpsIn_list _ _ _ (by decide) ?_
      simp only [List.filterMap_cons, List.filterMap_nil, List.getElem?_toArray, List.getElem?_cons_zero, List.getElem?_cons_succ]
      refine wpListIn_plain rfl (fun K hK => ?_)
      go_simp
      refine hK _ _ ?_
      clear hK K
      refine wpListIn_plain rfl (fun K hK => ?_)
      go_simp
      refine ⟨trivial, ?_⟩
      gi_at_call 40
      refine (CallsIn.inRound l (callsIn_wide.2 F3.out)).mono ?_
      rintro e w2 ⟨rfl, hb2⟩
      have r1 := (boxed_belowB hvD hb2)
      have q3 := r1.cell
      have r2 := r1.alloc (.cells #[.string (bsOf (Lib.itoa x))] 9)
      have q4 := r2.cell
      have hrw : StrRow w.heap.size w2 (.slice o pre.length c) (pre.map fun d => bsOf (Lib.itoa d)) := row_below hrowD hb2 (Nat.le_refl _)
      simp only []
      refine hK _ _ ?_
      clear hK K
      refine wpListIn_plain rfl (fun K hK => ?_)
      go_simp
      refine hK _ _ ?_
      clear hK K
      refine wpListIn_plain rfl (fun K hK => ?_)
      go_simp
      refine hK _ _ ?_
      clear hK K
      refine wpListIn_append_own _ rfl (.tmp 12) (.tmp 15) 55 rfl w.heap.size 9 i0 (.string ⟨#[]⟩) 1 16 Tryz.underlying55 HI.out HZ0.out HZ1.out HZ2.out rfl (by decide) _ _ _ rfl (hrw.alloc _) ⟨w2.heap.size, 0, none⟩ 1 1 [.string (bsOf (Lib.itoa x))] rfl rfl (by first | exact newsS _ _ _ | simp [Addr.add]) (by first | exact oneS _ | rfl) (by rw [List.length_map]; unfold maxLen; omega) (by rw [List.length_map]; omega) (by have := hb2.size; simp; omega) ?_
      intro v' w3 hown hgrow _
      rw [List.length_map] at hown
      obtain ⟨o2, c2, rfl⟩ := row_slice hown
      have hown' := strRow_grow hown
      obtain ⟨e1, e2, e3, e4, e5⟩ := r1.appended (by decide) hrw (by have := hb2.size; omega) (show w.heap.size ≤ B by omega) hown' hgrow
      have hF := frP_trans (frP_trans (frP_trans (frP_trans (frP_below hD) (frP_below hb2)) (frP_below (below_a1 w2 (.cells #[.string (bsOf (Lib.itoa x))] 9)))) (frP_row (hrw.alloc _) (by decide) hgrow)) (frP_set (.slice o2 (pre.length + 1) c2) e1 (by decide))
      have hKO := ((keeps_belowB hD).trans (keeps_belowB hb2)).trans e4
      have hBL := (hbel.trans (hD.mono hs1)).trans ((hb2.mono (Nat.le_trans hs1 hs2)).trans e5)
      have q5 := e1.cell
      have q5f := e1.frozen
      clear hown hgrow
      gi_wp2
      exact ⟨hKO, hF, _, e2, e3, hBL, padAt_keep hpad hF⟩
  case done =>
    rintro D xs W hD rfl ⟨vl, hv, hrow, hbel, hpad⟩ hKD
    have hT := tab_below HT.out hbel (Nat.le_refl _)
    obtain ⟨o, c, hvl⟩ := strRow_slice hrow
    rw [List.length_map] at hvl
    subst hvl
    have HJ := Lib.hid (join_row hrow HNE.out.1 HLL.out HNE.out.2)
    have q2 := hv.cell
    have hDw : w.heap.size ≤ D := by omega
    clear HNE HLL HK HI HZ0 HZ1 HZ2
    gi_wp2_with (refine ⟨trivial, ?_⟩; gi_at_call 41; refine (callsIn_wide.2 HJ.out).mono ?_; rintro e w4 ⟨rfl, hb4⟩)
    have hKD := (keeps_belowB hb4).same D _ hKD rfl
    have HB := below_drewN (hbel.trans (hb4.mono hbel.size)) 1
    have T := tab_below HT.out HB (Nat.le_refl _)
    have hpd : PadAt w4.drew w.heap.size p v u n := padAt_keep hpad (frP_below (below_drewN hb4 1))
    have hKD : w4.drew.heap[D]? = some (.deferred (some [])) := hKD
    obtain ⟨c0, c1, c2, c3⟩ := padAt_four hpd
    obtain ⟨a1, a2, a3, a4⟩ := HA.out
    clear q2 hb4 hv hrow hpad hbel HJ
    change Below w.heap.size w w4.drew at HB
    change Tab w4.drew at T
    refine wpIn_mono (Q := NoPanic _) ?_ (fun e a w h => NoPanic.imp e a w h)
    gi_region_with (first
      | (refine ⟨trivial, ?_⟩; gi_at_call 40; refine (callsIn_wide.2 (F1.out _ T)).mono ?_; rintro e wn ⟨rfl, hb⟩; have T := tab_below T hb (Nat.le_refl _); have hKD := (keeps_belowB hb).same D _ hKD rfl; have HB := HB.trans (hb.mono HB.size); have hpd := padAt_keep hpd (frP_below hb); obtain ⟨c0, c1, c2, c3⟩ := padAt_four hpd)
      | (refine ⟨trivial, ?_⟩; gi_at_call 40; refine (callsIn_wide.2 (F2.out _ T)).mono ?_; rintro e wn ⟨rfl, hb⟩; have T := tab_below T hb (Nat.le_refl _); have hKD := (keeps_belowB hb).same D _ hKD rfl; have HB := HB.trans (hb.mono HB.size); have hpd := padAt_keep hpd (frP_below hb); obtain ⟨c0, c1, c2, c3⟩ := padAt_four hpd))
    all_goals refine NoPanic.normal ?_
    all_goals gi_wp2
    all_goals refine ⟨by simp, .inl ⟨_, _, rfl, run_takeDeferred hKD, ?_⟩⟩
    all_goals refine ⟨.string (sp ++ ⟨#[58]⟩ ++ sv ++ ⟨#[58]⟩ ++ bsOf (digT (digL p u n.toNat))), by simp [results, Tryz.results16, go_sem], ?_⟩
    all_goals exact ⟨ret_str2 HE.out, below_putB HB hDw⟩
  case stop => intro _ _ _ _ _ h; exact h.elim
theorem text_any (p v u n : Int) (w : World) (h : POk p v u n) (ht : Tab w) :
    Calls Tryz.prog 16 #[.agg (P4 p v u n)] w fun e w' => e = .returned (.string (bsOf (textL p v u n))) ∧ Below w.heap.size w w' := by
  by_cases hn : n = 0
  · exact text_zero p v u n w h hn ht
  · exact text_some p v u n w h hn ht
end Go.Proofs.YtejgcamogjgdkaaGreatDoor
namespace Go.Proofs.YtejgcamogjgdkaaGreatDoor
open Go.RowKit Go.Shelf
set_option linter.unusedVariables false
set_option linter.unusedSimpArgs false
theorem decS_any (n : Int) (w : World) (h0 : 0 ≤ n) (h1 : n ≤ 1000000) : Calls Tryz.prog 49 #[.int .i64 n] w fun e w' => e = .returned (.string (bsOf (Lib.itoa n))) ∧ Below w.heap.size w w' :=
  dec_any (n.toNat + 1) n w h0 (by omega) (by omega)
theorem itoa_neg {n : Int} (h : n < 0) : bsOf [45] ++ bsOf (Lib.itoa (-n)) = bsOf (Lib.itoa n) := by
  rw [bs_append]
  congr 1
  unfold Lib.itoa
  rw [if_pos h, if_neg (by omega), show (-n).toNat = n.natAbs by omega]
  rfl
theorem l01Number_any (n : Int) (w : World) (h0 : -1000000 ≤ n) (h1 : n ≤ 1000000) :
    Calls Tryz.prog 50 #[.int .i64 n] w fun e w' => e = .returned (.string (bsOf (Lib.itoa n))) ∧ Below w.heap.size w w' := by
  by_cases hn : n < 0
  · have hl := itoa_len (n := -n) (by omega) (by omega)
    have hadd : ∀ wx, (Op.stringOp .add ⟨#[45]⟩ (bsOf (Lib.itoa (-n)))).run Tryz.prog wx = .ok (.string (bsOf (Lib.itoa n))) wx := fun wx => by
      rw [← itoa_neg hn]
      exact add_any ⟨#[45]⟩ _ (by rw [bs_size]; show 1 + _ ≤ _; omega) wx
    have hw : IntKind.i64.wrap (-n) = -n := IntWalk.i64_in _ (by omega)
    have HD := Lib.hid fun w => decS_any (-n) w (by omega) (by omega)
    clear hl
    go_enter Tryz.func50, Tryz.ntmps50
    go_wp2_with (go_at_call 49; refine (HD.out _).mono ?_; rintro e wn ⟨rfl, hb⟩)
    go_ret
    exact ⟨rfl, hb⟩
  · have HD := Lib.hid fun w => decS_any n w (by omega) h1
    go_enter Tryz.func50, Tryz.ntmps50
    go_wp2_with (go_at_call 49; refine (HD.out _).mono ?_; rintro e wn ⟨rfl, hb⟩)
    go_ret
    exact ⟨rfl, hb⟩
def jT (l : List Int) (k : Nat) : List UInt8 := digT (l.take k)
theorem jT_one {l : List Int} {d : Int} (h : 0 < l.length) (e : l.getD 0 0 = d) : jT l 1 = Lib.itoa d := by
  match l, h, e with
  | a :: r, _, e =>
    simp at e; subst e
    simp [jT, digT, Lib.join_one]
theorem jT_succ {l : List Int} {d : Int} {k : Nat} (hk : 0 < k) (h : k < l.length) (e : l.getD k 0 = d) : jT l (k + 1) = jT l k ++ [44] ++ Lib.itoa d := by
  unfold jT digT
  have e2 : l[k] = d := by rw [← e]; simp [List.getD, h]
  rw [List.take_succ_eq_append_getElem h, List.map_append, List.map_singleton, e2, join_snoc]
  intro hn
  have := congrArg List.length hn
  rw [List.length_map, List.length_take, List.length_nil] at this; omega
theorem jstep_one {l : List Int} {x : Int} (h : jT l 1 = Lib.itoa x) : bsOf (jT l 0) ++ bsOf (Lib.itoa x) = bsOf (jT l 1) := by
  rw [h, bs_append]; rfl
theorem jstep_next {l : List Int} {x : Int} {k : Nat} (h : jT l (k + 1) = jT l k ++ [44] ++ Lib.itoa x) : bsOf (jT l k) ++ ⟨#[44]⟩ ++ bsOf (Lib.itoa x) = bsOf (jT l (k + 1)) := by
  rw [h, show (⟨#[44]⟩ : ByteArray) = bsOf [44] from rfl, bs_append, bs_append]
theorem str_eq {a b : ByteArray} (h : a = b) : Value.string a = Value.string b := by rw [h]
theorem bcellT {W w1 : World} (hb : Below W.heap.size W w1) : (∀ b o, b < W.heap.size → w1.cell? ⟨b, o, none⟩ = W.cell? ⟨b, o, none⟩) ∧ (∀ b o, b < W.heap.size → w1.frozen? ⟨b, o, none⟩ = W.frozen? ⟨b, o, none⟩) :=
  ⟨fun b o h => hb.cell (p := ⟨b, o, none⟩) h, fun b o h => hb.frozen (p := ⟨b, o, none⟩) h⟩
set_option maxHeartbeats 1600000 in
theorem l01Join_any (base : Nat) (o : Option Addr) (c : Nat) (l : List Int) (w : World) (hl : l.length ≤ 40) (hd : ∀ d ∈ l, 0 ≤ d ∧ d < 97) (hr : IntRow base w (.slice o l.length c) l) :
    Calls Tryz.prog 47 #[.slice o l.length c, .string ⟨#[44]⟩] w fun e w' => e = .returned (.string (bsOf (digT l))) ∧ Below w.heap.size w w' := by
  have HR := Lib.hid hr
  have HD := Lib.hid hd
  have HE : Hid (jT l l.length = digT l) := by
    show jT l l.length = digT l
    unfold jT; rw [List.take_length]
  have HS : Hid (∀ k, (bsOf (jT l k)).size ≤ 1000) := by
    show ∀ k, (bsOf (jT l k)).size ≤ 1000
    intro k
    rw [bs_size]
    exact digT_len (Nat.le_trans (by rw [List.length_take]; omega) hl) (fun d h => hd d (List.mem_of_mem_take h))
  clear hr hd
  go_enter Tryz.func47, Tryz.ntmps47
  go_wp2
  go_loopw [5, 6] (fun s i wr => ∃ k : Nat, k ≤ l.length ∧ i = .int .i64 k ∧ s = .string (bsOf (jT l k)) ∧ Below w.heap.size w wr) (fun _ i _ => l.length - (intOf i).toNat)
  case atStart => exact ⟨0, Nat.zero_le _, rfl, rfl, Below.refl _ _⟩
  case round =>
    obtain ⟨k, hk, rfl, rfl, hb⟩ := hrel
    by_cases hlt : k < l.length
    · rcases row_shape HR.out with ⟨hz, _⟩ | ⟨_, g, c', hv, hbg, hg⟩
      · omega
      · cases hv
        have a1 := int_cells HR.out k hlt
        rw [← hb.cell (by exact hg)] at a1
        obtain ⟨x, e1⟩ : ∃ x, l.getD k 0 = x := ⟨_, rfl⟩
        have hx : 0 ≤ x ∧ x < 97 := HD.out x (by rw [← e1]; simp [List.getD, hlt])
        rw [e1] at a1
        obtain ⟨hx0, hx1⟩ := hx
        have s0 := HS.out k
        have s1 : (bsOf (Lib.itoa x)).size ≤ 20 := by rw [bs_size]; exact itoa_len (by omega) (by omega)
        have hgw : g < wr.heap.size := by have := hb.size; omega
        have HB := Lib.hid hb
        clear hb
        by_cases hk0 : k = 0
        · subst hk0
          have HA := Lib.hid (jstep_one (jT_one hlt e1))
          have A1 := add_any (bsOf (jT l 0)) (bsOf (Lib.itoa x)) (by omega)
          clear e1
          go_wp2_with fail
          refine (l01Number_any _ _ (by omega) (by omega)).mono ?_
          rintro e w1 ⟨rfl, hb1⟩
          have HB1 := Lib.hid (HB.out.trans (hb1.mono HB.out.size))
          clear hb1
          go_wp2
          exact ⟨⟨0 + 1, by omega, by go_num, str_eq HA.out, HB1.out⟩, by simp only [intOf]; omega⟩
        · have HA := Lib.hid (jstep_next (jT_succ (by omega) hlt e1))
          have hkp : 0 < k := by omega
          have A1 := add_any (bsOf (jT l k)) ⟨#[44]⟩ (by show _ + 1 ≤ _; omega)
          have A2 := add_any (bsOf (jT l k) ++ ⟨#[44]⟩) (bsOf (Lib.itoa x)) (by
            have : (bsOf (jT l k) ++ (⟨#[44]⟩ : ByteArray)).size = (bsOf (jT l k)).size + 1 := by rw [show (⟨#[44]⟩ : ByteArray) = bsOf [44] from rfl, bs_append, bs_size, bs_size]; simp
            omega)
          clear e1 hk0
          go_wp2_with fail
          refine (l01Number_any _ _ (by omega) (by omega)).mono ?_
          rintro e w1 ⟨rfl, hb1⟩
          have HB1 := Lib.hid (HB.out.trans (hb1.mono HB.out.size))
          clear hb1
          go_wp2
          exact ⟨⟨k + 1, by omega, by go_num, str_eq HA.out, HB1.out⟩, by simp only [intOf]; omega⟩
    · have hkn : k = l.length := by omega
      have HK := Lib.hid hkn
      clear hkn
      go_wp2
      go_ret
      exact ⟨ret_str2 (by rw [HK.out, HE.out]), hb⟩
set_option maxRecDepth 20000 in
set_option maxHeartbeats 1600000 in
theorem l04Text_zero (p v u n : Int) (w : World) (h : POk p v u n) (hn : n = 0) :
    Calls Tryz.prog 18 #[.agg (P4 p v u n)] w fun e w' => e = .returned (.string (bsOf (textL p v u n))) ∧ Below w.heap.size w w' := by
  obtain ⟨hp2, hp97, _⟩ := pok_bd h
  have hv0 := h.2.1
  have hv1 := h.2.2.1
  have HE := Lib.hid (show bsOf (Lib.itoa p) ++ ⟨#[58]⟩ ++ bsOf (Lib.itoa v) ++ ⟨#[58]⟩ ++ bsOf [45] = bsOf (textL p v u n) by rw [text_sum]; unfold textL lastT; rw [if_pos hn])
  obtain ⟨a1, a2, a3, a4⟩ := text_adds (Nat.le_trans (itoa_len (n := p) (by omega) (by omega)) (by omega)) (Nat.le_trans (itoa_len (n := v) (by omega) (by omega)) (by omega)) (show [45].length ≤ 1000 by simp)
  have e45 : bsOf [45] = ⟨#[45]⟩ := rfl
  rw [e45] at a4 HE
  have F1 := Lib.hid fun (w : World) => decS_any p w (by omega) (by omega)
  have F2 := Lib.hid fun (w : World) => l01Number_any v w (by omega) (by omega)
  generalize bsOf (Lib.itoa p) = sp at *
  generalize bsOf (Lib.itoa v) = sv at *
  clear h e45
  subst hn
  have K := k1_new w (P4 p v u 0) 25
  go_enter Tryz.func18, Tryz.ntmps18
  go_wp2_with fail
  generalize w.alloc (.cells (P4 p v u 0) 25) = W0 at *
  have K := k1_drew K
  obtain ⟨c0, c1, c2, c3⟩ := lies_four K.2
  go_region_with (first
    | (go_at_call 49; refine (F1.out _).mono ?_; rintro e wn ⟨rfl, hb⟩; have K := k1_next K hb; obtain ⟨c0, c1, c2, c3⟩ := lies_four K.2)
    | (go_at_call 50; refine (F2.out _).mono ?_; rintro e wn ⟨rfl, hb⟩; have K := k1_next K hb; obtain ⟨c0, c1, c2, c3⟩ := lies_four K.2))
  all_goals go_wp2
  all_goals go_ret
  all_goals exact ⟨ret_str2 HE.out, K.1⟩
set_option maxRecDepth 20000 in
set_option maxHeartbeats 1600000 in
theorem l04Text_some (p v u n : Int) (w : World) (h : POk p v u n) (hn : n ≠ 0) :
    Calls Tryz.prog 18 #[.agg (P4 p v u n)] w fun e w' => e = .returned (.string (bsOf (textL p v u n))) ∧ Below w.heap.size w w' := by
  obtain ⟨hp2, hp97, hn0, _⟩ := pok_bd h
  have hv0 := h.2.1
  have hv1 := h.2.2.1
  have HE := Lib.hid (show bsOf (Lib.itoa p) ++ ⟨#[58]⟩ ++ bsOf (Lib.itoa v) ++ ⟨#[58]⟩ ++ bsOf (digT (digL p u n.toNat)) = bsOf (textL p v u n) by rw [text_sum]; unfold textL lastT; rw [if_neg hn])
  obtain ⟨a1, a2, a3, a4⟩ := text_adds (Nat.le_trans (itoa_len (n := p) (by omega) (by omega)) (by omega)) (Nat.le_trans (itoa_len (n := v) (by omega) (by omega)) (by omega)) (digT_len (digL_all h).1 (digL_all h).2)
  have F1 := Lib.hid fun (w : World) => decS_any p w (by omega) (by omega)
  have F2 := Lib.hid fun (w : World) => l01Number_any v w (by omega) (by omega)
  have F3 := Lib.hid fun (w : World) => l04Digits_any p v u n w h
  have F4 := Lib.hid fun (base : Nat) (o : Option Addr) (c : Nat) (w : World) => l01Join_any base o c (digL p u n.toNat) w (digL_all h).1 (digL_all h).2
  generalize bsOf (Lib.itoa p) = sp at *
  generalize bsOf (Lib.itoa v) = sv at *
  generalize digL p u n.toNat = dl at *
  have hn1 : 0 < n := by omega
  clear h hn
  have K := k1_new w (P4 p v u n) 25
  obtain ⟨c0, c1, c2, c3⟩ := lies_four K.2
  go_enter Tryz.func18, Tryz.ntmps18
  go_wp2_with (first
    | (go_at_call 48; refine (F3.out _).mono ?_; rintro e w1 ⟨vl, rfl, hrow, hb⟩; obtain ⟨o, c, rfl⟩ := row_slice hrow; have K := k1_next K hb; obtain ⟨c0, c1, c2, c3⟩ := lies_four K.2)
    | (go_at_call 47; refine (F4.out _ _ _ _ hrow).mono ?_; rintro e w2 ⟨rfl, hb⟩; have K := k1_next K hb; obtain ⟨c0, c1, c2, c3⟩ := lies_four K.2))
  have K := k1_drew K
  obtain ⟨c0, c1, c2, c3⟩ := lies_four K.2
  go_region_with (first
    | (go_at_call 49; refine (F1.out _).mono ?_; rintro e wn ⟨rfl, hb⟩; have K := k1_next K hb; obtain ⟨c0, c1, c2, c3⟩ := lies_four K.2)
    | (go_at_call 50; refine (F2.out _).mono ?_; rintro e wn ⟨rfl, hb⟩; have K := k1_next K hb; obtain ⟨c0, c1, c2, c3⟩ := lies_four K.2))
  all_goals go_wp2
  all_goals go_ret
  all_goals exact ⟨ret_str2 HE.out, K.1⟩
theorem l04Text_any (p v u n : Int) (w : World) (h : POk p v u n) :
    Calls Tryz.prog 18 #[.agg (P4 p v u n)] w fun e w' => e = .returned (.string (bsOf (textL p v u n))) ∧ Below w.heap.size w w' := by
  by_cases hn : n = 0
  · exact l04Text_zero p v u n w h hn
  · exact l04Text_some p v u n w h hn
/-- what both PadicText answer -/
def ptL (p v u n : Int) : List UInt8 := if padB p v u n then textL p v u n else []
def ptC (p v u n : Int) : Int := if padB p v u n then 0 else 1
theorem specPadicText_any (p v u n : Int) (w : World) :
    Calls Tryz.prog 8 #[.agg (P4 p v u n)] w fun e w' => e = .returned (.tuple #[.string (bsOf (ptL p v u n)), .int .i64 (ptC p v u n)]) ∧ Below w.heap.size w w' := by
  cases hx : padB p v u n
  · rw [show ptL p v u n = [] by simp [ptL, hx], show ptC p v u n = 1 by simp [ptC, hx]]
    go_enter Tryz.func8, Tryz.ntmps8
    go_wp2_with (go_at_call 17; refine (specIsPadic_any _ _ _ _ _).mono ?_; rw [hx]; rintro e wn ⟨rfl, hb⟩; have K := k1_first hb)
    go_ret2
    exact ⟨rfl, K.1⟩
  · rw [show ptL p v u n = textL p v u n by simp [ptL, hx], show ptC p v u n = 0 by simp [ptC, hx]]
    have HT := Lib.hid fun w => l04Text_any p v u n w (padB_ok hx)
    go_enter Tryz.func8, Tryz.ntmps8
    go_wp2_with (first
      | (go_at_call 17; refine (specIsPadic_any _ _ _ _ _).mono ?_; rw [hx]; rintro e wn ⟨rfl, hb⟩; have K := k1_first hb; obtain ⟨c0, c1, c2, c3⟩ := lies_four K.2)
      | (go_at_call 18; refine (HT.out _).mono ?_; rintro e wn ⟨rfl, hb⟩; have K := k1_next K hb; obtain ⟨c0, c1, c2, c3⟩ := lies_four K.2))
    go_ret2
    exact ⟨rfl, K.1⟩
theorem implPadicText_any (p v u n : Int) (w : World) (ht : Tab w) :
    Calls Tryz.prog 7 #[.agg (P4 p v u n)] w fun e w' => e = .returned (.tuple #[.string (bsOf (ptL p v u n)), .int .i64 (ptC p v u n)]) ∧ Below w.heap.size w w' := by
  cases hx : padB p v u n
  · rw [show ptL p v u n = [] by simp [ptL, hx], show ptC p v u n = 1 by simp [ptC, hx]]
    clear ht
    go_enter Tryz.func7, Tryz.ntmps7
    go_wp2_with (go_at_call 15; refine (isValid_any _ _ _ _ _).mono ?_; rw [hx]; rintro e wn ⟨rfl, hb⟩; have K := k1_first hb)
    go_ret2
    exact ⟨rfl, K.1⟩
  · rw [show ptL p v u n = textL p v u n by simp [ptL, hx], show ptC p v u n = 0 by simp [ptC, hx]]
    have HT := Lib.hid fun w (h : Tab w) => text_any p v u n w (padB_ok hx) h
    have HH := Lib.hid ht
    clear ht
    go_enter Tryz.func7, Tryz.ntmps7
    go_wp2_with (first
      | (go_at_call 15; refine (isValid_any _ _ _ _ _).mono ?_; rw [hx]; rintro e wn ⟨rfl, hb⟩; have K := k1_first hb; have T := tab_below HH.out K.1 (Nat.le_refl _); obtain ⟨c0, c1, c2, c3⟩ := lies_four K.2)
      | (go_at_call 16; refine (HT.out _ T).mono ?_; rintro e wn ⟨rfl, hb⟩; have K := k1_next K hb; obtain ⟨c0, c1, c2, c3⟩ := lies_four K.2))
    go_ret2
    exact ⟨rfl, K.1⟩
end Go.Proofs.YtejgcamogjgdkaaGreatDoor
namespace Go.Proofs.YtejgcamogjgdkaaGreatDoor
open Go.RowKit Go.Shelf
set_option linter.unusedVariables false
/-- what ParseInt reads off a piece -/
def pB (x : ByteArray) : Option Int := pI x.data.toList
structure RBase (w W : World) : Prop where
  res : Boxed W w.heap.size 51 (.slice none 0 0)
  code : Boxed W (w.heap.size + 1) 4 (.bool false)
  bel : Below w.heap.size w W
structure RBox (b : Nat) (W : World) : Prop where
  sb : ∃ u, Boxed W (b + 1 + 1 + 1) 9 u
  pb : Boxed W (b + 1 + 1 + 1 + 1) 9 (.string ⟨#[44]⟩)
  vb : Boxed W (b + 1 + 1 + 1 + 2) 3 (.int .i64 0)
def RRow (b : Nat) (W : World) (pre : List ByteArray) : Prop :=
  ∃ v l, Boxed W (b + 1 + 1) 51 v ∧ IntRow b W v l ∧ pre.map pB = l.map some
def RI (w : World) (pre : List ByteArray) (W : World) : Prop := RRow w.heap.size W pre ∧ RBase w W ∧ RBox w.heap.size W
def RX (w : World) (pre : List ByteArray) (W : World) : Prop := RBase w W ∧ ¬ ∃ l : List Int, pre.map pB = l.map some
theorem boxed_put {W : World} {j k : Nat} {t : TypeId} {v : Value} {o o' : Obj} (h : Boxed W j t v) (hk : W.heap[k]? = some o) (ho : o.isCells = false) : Boxed (W.putObj k o') j t v := by
  have hne : j ≠ k := by
    rintro rfl
    have h' : W.heap[j]? = some (.cells #[v] t (0, 0)) := h
    rw [h'] at hk; cases hk; cases ho
  exact (World.putObj_heap_other hne).trans h
theorem below_put {b k : Nat} {w W : World} {o' : Obj} (h : Below b w W) (hk : b ≤ k) : Below b w (W.putObj k o') :=
  ⟨h.os, h.tape, h.output, by have := h.size; simp [World.putObj]; omega, fun j hj => (World.putObj_heap_other (by omega)).trans (h.block j hj)⟩
theorem rbase_put {w W : World} {k : Nat} {o o' : Obj} (h : RBase w W) (hb : w.heap.size ≤ k) (hk : W.heap[k]? = some o) (ho : o.isCells = false) : RBase w (W.putObj k o') :=
  ⟨boxed_put h.res hk ho, boxed_put h.code hk ho, below_put h.bel hb⟩
theorem rbox_put {b : Nat} {W : World} {k : Nat} {o o' : Obj} (h : RBox b W) (hk : W.heap[k]? = some o) (ho : o.isCells = false) : RBox b (W.putObj k o') :=
  ⟨by obtain ⟨u, hu⟩ := h.sb; exact ⟨u, boxed_put hu hk ho⟩, boxed_put h.pb hk ho, boxed_put h.vb hk ho⟩
theorem rrow_put {b : Nat} {W : World} {pre : List ByteArray} {k : Nat} {o o' : Obj} (h : RRow b W pre) (hk : W.heap[k]? = some o) (ho : o.isCells = false) : RRow b (W.putObj k o') pre := by
  obtain ⟨v, l, h1, h2, h3⟩ := h
  exact ⟨v, l, boxed_put h1 hk ho, ownsRow_putObj h2 _ hk ho, h3⟩
theorem boxed_st {A B : World} {sb j : Nat} {t : TypeId} {v : Value} (h : Boxed A j t v) (hs : StB sb A B) (hj : j ≠ sb) : Boxed B j t v := by
  rcases hs with ⟨u, rfl⟩ | ⟨k, rfl⟩
  · exact h.kept (grownBy_setCell' A sb u) (by simpa using hj)
  · exact h
theorem below_st {A B w : World} {sb b : Nat} (h : Below b w A) (hs : StB sb A B) (hb : b ≤ sb) : Below b w B := by
  rcases hs with ⟨u, rfl⟩ | ⟨k, rfl⟩
  · exact h.setCell (p := ⟨sb, 0, none⟩) hb u
  · exact below_drewN h k
theorem rbase_st {w A B : World} (h : RBase w A) (hs : StB (w.heap.size + 1 + 1 + 1) A B) : RBase w B :=
  ⟨boxed_st h.res hs (by omega), boxed_st h.code hs (by omega), below_st h.bel hs (by omega)⟩
theorem ri_st {w A B : World} {pre : List ByteArray} (h : RI w pre A) (hs : StB (w.heap.size + 1 + 1 + 1) A B) : RI w pre B := by
  obtain ⟨⟨v, l, h1, h2, h3⟩, h4, ⟨u, hu⟩, h5, h6⟩ := h
  refine ⟨⟨v, l, boxed_st h1 hs (by omega), ?_, h3⟩, rbase_st h4 hs, ?_, boxed_st h5 hs (by omega), boxed_st h6 hs (by omega)⟩
  · rcases hs with ⟨z, rfl⟩ | ⟨k, rfl⟩
    · exact World.ownsRow.kept h2 (grownBy_setCell' A _ z) (.inr (hu.not_row (by decide) h2).symm)
    · exact h2
  · rcases hs with ⟨z, rfl⟩ | ⟨k, rfl⟩
    · exact ⟨z, hu.set z⟩
    · exact ⟨u, hu⟩
theorem rx_st {w A B : World} {pre : List ByteArray} (h : RX w pre A) (hs : StB (w.heap.size + 1 + 1 + 1) A B) : RX w pre B := ⟨rbase_st h.1 hs, h.2⟩
theorem fr_blocks {sb pb vb : Nat} {A B : World} (h : ∀ b, b = sb ∨ b = pb ∨ b = vb → B.heap[b]? = A.heap[b]?) : FrB sb pb vb A B :=
  fun b hb => ⟨World.cell?_of_block (a := ⟨b, 0, none⟩) (h b hb), World.frozen?_of_block (a := ⟨b, 0, none⟩) (h b hb)⟩
theorem fr_put {sb pb vb k : Nat} {A W : World} {o' : Obj} (h : FrB sb pb vb A W) (h1 : sb < k) (h2 : pb < k) (h3 : vb < k) : FrB sb pb vb A (W.putObj k o') := by
  intro b hb
  have hne : b ≠ k := by rcases hb with rfl | rfl | rfl <;> omega
  have e : (W.putObj k o').heap[b]? = W.heap[b]? := World.putObj_heap_other hne
  rw [World.cell?_of_block (a := ⟨b, 0, none⟩) e, World.frozen?_of_block (a := ⟨b, 0, none⟩) e]
  exact h b hb
theorem fr_refl {sb pb vb : Nat} (A : World) : FrB sb pb vb A A := fun _ _ => ⟨rfl, rfl⟩
theorem fr_trans {sb pb vb : Nat} {A B C : World} (h : FrB sb pb vb A B) (k : FrB sb pb vb B C) : FrB sb pb vb A C :=
  fun b hb => ⟨(k b hb).1.trans (h b hb).1, (k b hb).2.trans (h b hb).2⟩
theorem st_keeps {A B : World} {sb k : Nat} {o : Obj} (hs : StB sb A B) (hk : A.heap[k]? = some o) (hne : sb < k) : B.heap[k]? = some o := by
  rcases hs with ⟨u, rfl⟩ | ⟨n, rfl⟩
  · rw [Below.heap_setCell _ _ _ _ (by show k ≠ sb; omega)]; exact hk
  · exact hk
theorem boxed_below {W w2 : World} {j : Nat} {t : TypeId} {v : Value} (h : Boxed W j t v) (hb : Below W.heap.size W w2) : Boxed w2 j t v := (hb.block j h.lt).trans h
theorem prefix_size {s x : ByteArray} {pre : List ByteArray} {c : UInt8} (h : pre ++ [x] <+: splitL s c) : x.size ≤ s.size := by
  obtain ⟨t, ht⟩ := h
  have e : (splitL s c).getD pre.length ⟨#[]⟩ = x := by
    rw [← ht, List.getD_eq_getElem?_getD]
    simp
  rw [← e]; exact split_size s c pre.length
theorem map_snoc {pre : List ByteArray} {x : ByteArray} {l : List Int} {d : Int} (h : pre.map pB = l.map some) (hx : pB x = some d) : (pre ++ [x]).map pB = (l ++ [d]).map some := by
  rw [List.map_append, List.map_append, h]; simp [hx]
theorem map_none {pre : List ByteArray} {x : ByteArray} (hx : pB x = none) : ¬ ∃ l : List Int, (pre ++ [x]).map pB = l.map some := by
  rintro ⟨l, h⟩
  have hm : none ∈ l.map some := by rw [← h]; simp [hx]
  simp at hm
theorem boxed_app {Wp w3 : World} {base b j n : Nat} {t : TypeId} {u v v' : Value} {xs : List Value} {tmp : Obj} (h : Boxed Wp j t u) (ht : t ≠ 2) (hrow : Wp.ownsRow base 2 1 v n xs)
    (hg : (Wp.alloc tmp).grownBy w3 v.ownBlock) (hj : j ≠ b) : Boxed (w3.setCell ⟨b, 0, none⟩ v') j t u :=
  ((h.alloc tmp).kept hg (h.not_row ht hrow)).kept (grownBy_setCell' w3 b v') (by simpa using hj)
theorem keeps_below {W w2 : World} (hb : Below W.heap.size W w2) : KeepsOthers W w2 :=
  ⟨hb.size, fun k o hk _ => (hb.block k (Array.getElem?_eq_some_iff.1 hk).1).trans hk⟩
theorem fr_boxed {sb pb vb : Nat} {A B : World} {t1 t2 t3 : TypeId} {u1 u2 u3 : Value} (a1 : Boxed A sb t1 u1) (b1 : Boxed B sb t1 u1) (a2 : Boxed A pb t2 u2) (b2 : Boxed B pb t2 u2) (a3 : Boxed A vb t3 u3) (b3 : Boxed B vb t3 u3) : FrB sb pb vb A B := by
  apply fr_blocks
  rintro b (rfl | rfl | rfl)
  · exact (show B.heap[b]? = _ from b1).trans (show A.heap[b]? = _ from a1).symm
  · exact (show B.heap[b]? = _ from b2).trans (show A.heap[b]? = _ from a2).symm
  · exact (show B.heap[b]? = _ from b3).trans (show A.heap[b]? = _ from a3).symm
/-- behind the append of a round -/
theorem ri_next {w W w2 w3 : World} {tmp : Obj} {pre : List ByteArray} {v v' : Value} {L : List Int} {d : Int} (hb : RBase w W) (hx : RBox w.heap.size W) (hv : Boxed W (w.heap.size + 1 + 1) 51 v)
    (hb2 : Below W.heap.size W w2) (hrow : IntRow w.heap.size w2 v L) (hm : pre.map pB = (L ++ [d]).map some)
    (hown : w3.ownsRow w.heap.size 2 1 v' (L.length + 1) (L.map (Value.int .i64) ++ [.int .i64 d])) (hgrow : (w2.alloc tmp).grownBy w3 v.ownBlock) :
    Boxed w3 (w.heap.size + 1 + 1) 51 v ∧ KeepsOthers W (w3.setCell ⟨w.heap.size + 1 + 1, 0, none⟩ v') ∧
    FrB (w.heap.size + 1 + 1 + 1) (w.heap.size + 1 + 1 + 1 + 1) (w.heap.size + 1 + 1 + 1 + 2) W (w3.setCell ⟨w.heap.size + 1 + 1, 0, none⟩ v') ∧ RI w pre (w3.setCell ⟨w.heap.size + 1 + 1, 0, none⟩ v') := by
  have hs := hb.bel.size
  have hs2 := hb2.size
  have r2 := (boxed_below hv hb2)
  obtain ⟨a1, a2, a3, a4, a5⟩ := r2.appended (t := 51) (by decide) hrow (show w.heap.size ≤ w2.heap.size by omega) (show w.heap.size ≤ w.heap.size + 1 + 1 by omega) hown hgrow
  obtain ⟨u, hu⟩ := hx.sb
  have c0 := boxed_app (b := w.heap.size + 1 + 1) (v' := v') (boxed_below hb.res hb2) (by decide) hrow hgrow (by omega)
  have c1 := boxed_app (b := w.heap.size + 1 + 1) (v' := v') (boxed_below hb.code hb2) (by decide) hrow hgrow (by omega)
  have c3 := boxed_app (b := w.heap.size + 1 + 1) (v' := v') (boxed_below hu hb2) (by decide) hrow hgrow (by omega)
  have c4 := boxed_app (b := w.heap.size + 1 + 1) (v' := v') (boxed_below hx.pb hb2) (by decide) hrow hgrow (by omega)
  have c5 := boxed_app (b := w.heap.size + 1 + 1) (v' := v') (boxed_below hx.vb hb2) (by decide) hrow hgrow (by omega)
  refine ⟨a1, (keeps_below hb2).trans a4, fr_boxed hu c3 hx.pb c4 hx.vb c5, ⟨v', L ++ [d], a2, intRow_snoc a3, hm⟩, ⟨c0, c1, ?_⟩, ⟨u, c3⟩, c4, c5⟩
  exact (hb.bel.trans (hb2.mono hs)).trans a5
theorem row_st2 {w W : World} {v u1 u2 : Value} {L : List Int} (hb : RBase w W) (hrow : IntRow w.heap.size W v L) :
    IntRow w.heap.size ((W.setCell ⟨w.heap.size, 0, none⟩ u1).setCell ⟨w.heap.size + 1, 0, none⟩ u2) v L := by
  have h1 : IntRow w.heap.size (W.setCell ⟨w.heap.size, 0, none⟩ u1) v L := World.ownsRow.kept hrow (grownBy_setCell' W _ u1) (.inr (hb.res.not_row (by decide) hrow).symm)
  have c1 := hb.code.kept (grownBy_setCell' W w.heap.size u1) (by simp)
  exact World.ownsRow.kept h1 (grownBy_setCell' _ _ u2) (.inr (c1.not_row (by decide) h1).symm)
/-- a return out of a round -/
theorem rx_ret {w W w2 : World} {pre : List ByteArray} (hb : RBase w W) (hb2 : Below W.heap.size W w2) (hm : ¬ ∃ l : List Int, pre.map pB = l.map some) :
    KeepsOthers W ((w2.setCell ⟨w.heap.size, 0, none⟩ (.slice none 0 0)).setCell ⟨w.heap.size + 1, 0, none⟩ (.bool false)) ∧
    RX w pre ((w2.setCell ⟨w.heap.size, 0, none⟩ (.slice none 0 0)).setCell ⟨w.heap.size + 1, 0, none⟩ (.bool false)) := by
  have r0 := boxed_below hb.res hb2
  have r1 := boxed_below hb.code hb2
  have hs := hb.bel.size
  have hs2 := hb2.size
  refine ⟨(keeps_below hb2).trans ((KeepsOthers.setCell _ _ _).trans (KeepsOthers.setCell _ _ _)), ⟨?_, ?_, ?_⟩, hm⟩
  · exact (r0.set _).kept (grownBy_setCell' _ _ _) (by simp)
  · exact (r1.kept (grownBy_setCell' _ w.heap.size _) (by simp)).set _
  · exact ((hb.bel.trans (hb2.mono hs)).setCell (p := ⟨w.heap.size, 0, none⟩) (Nat.le_refl _) _).setCell (p := ⟨w.heap.size + 1, 0, none⟩) (by simp) _
/-- the deferred calls' block still stands behind the stores of the results -/
theorem def_keeps {W w4 : World} {D : Nat} {a1 a2 : Addr} {u1 u2 : Value} (hK : W.heap[D]? = some (.deferred (some []))) (hb4 : Below W.heap.size W w4) :
    ((w4.setCell a1 u1).setCell a2 u2).heap[D]? = some (.deferred (some [])) :=
  ((KeepsOthers.setCell _ a1 u1).trans (KeepsOthers.setCell _ a2 u2)).same D _ ((keeps_below hb4).same D _ hK rfl) rfl
/-- the results' cells behind the stores, the deferred calls taken -/
theorem leave_cells {w W w4 : World} {D : Nat} {u1 u2 : Value} {o' : Obj} (hb : RBase w W) (hb4 : Below W.heap.size W w4) (hK : W.heap[D]? = some (.deferred (some []))) (hD : w.heap.size ≤ D) :
    (((w4.setCell ⟨w.heap.size, 0, none⟩ u1).setCell ⟨w.heap.size + 1, 0, none⟩ u2).putObj D o').cell? ⟨w.heap.size, 0, none⟩ = some u1 ∧
    (((w4.setCell ⟨w.heap.size, 0, none⟩ u1).setCell ⟨w.heap.size + 1, 0, none⟩ u2).putObj D o').cell? ⟨w.heap.size + 1, 0, none⟩ = some u2 ∧
    Below w.heap.size w (((w4.setCell ⟨w.heap.size, 0, none⟩ u1).setCell ⟨w.heap.size + 1, 0, none⟩ u2).putObj D o') := by
  have r0 := boxed_below hb.res hb4
  have r1 := boxed_below hb.code hb4
  have k := def_keeps (a1 := ⟨w.heap.size, 0, none⟩) (u1 := u1) (a2 := ⟨w.heap.size + 1, 0, none⟩) (u2 := u2) hK hb4
  have s0 := (r0.set u1).kept (grownBy_setCell' _ (w.heap.size + 1) u2) (by simp)
  have s1 := (r1.kept (grownBy_setCell' _ w.heap.size u1) (by simp)).set u2
  refine ⟨(boxed_put s0 k rfl).cell, (boxed_put s1 k rfl).cell, below_put ?_ hD⟩
  exact ((hb.bel.trans (hb4.mono hb.bel.size)).setCell (p := ⟨w.heap.size, 0, none⟩) (Nat.le_refl _) _).setCell (p := ⟨w.heap.size + 1, 0, none⟩) (by simp) _
/-- a part of the pieces that does not read: the whole does not -/
theorem part_none {ps pre : List ByteArray} (hp : pre <+: ps) (h : ¬ ∃ l : List Int, pre.map pB = l.map some) : ¬ ∃ l : List Int, ps.map pB = l.map some := by
  obtain ⟨t, rfl⟩ := hp
  rintro ⟨l, hl⟩
  apply h
  refine ⟨l.take pre.length, ?_⟩
  rw [List.map_append] at hl
  have := congrArg (List.take pre.length) hl
  rw [List.take_append_of_le_length (by simp), List.take_of_length_le (by simp)] at this
  rw [this, List.map_take]
end Go.Proofs.YtejgcamogjgdkaaGreatDoor
namespace Go.Proofs.YtejgcamogjgdkaaGreatDoor
open Go.RowKit Go.Shelf
attribute [local go_sem] Oper.semAt_some
set_option linter.unusedVariables false
set_option linter.unusedSimpArgs false
theorem parse_some {x : ByteArray} {d : Int} (w : World) (hx : x.size ≤ 2000000) (he : Env w) (h : pB x = some d) :
    Calls Tryz.prog 24 #[.string x, .int .i64 10, .int .i64 64] w fun e w' => e = .returned (.tuple #[.int .i64 d, .nilIface]) ∧ Below w.heap.size w w' := by
  refine (parse_any x w hx he).mono ?_
  rintro e w' ⟨v, er, rfl, hb, (⟨h1, rfl⟩ | ⟨h1, _⟩)⟩
  · unfold pB at h; rw [h1] at h; cases h; exact ⟨rfl, hb⟩
  · unfold pB at h; rw [h1] at h; cases h
theorem parse_none {x : ByteArray} (w : World) (hx : x.size ≤ 2000000) (he : Env w) (h : pB x = none) :
    Calls Tryz.prog 24 #[.string x, .int .i64 10, .int .i64 64] w fun e w' => ∃ v t p, e = .returned (.tuple #[.int .i64 v, .iface t p]) ∧ Below w.heap.size w w' := by
  refine (parse_any x w hx he).mono ?_
  rintro e w' ⟨v, er, rfl, hb, (⟨h1, rfl⟩ | ⟨h1, t, p, rfl⟩)⟩
  · unfold pB at h; rw [h1] at h; cases h
  · exact ⟨v, t, p, rfl, hb⟩
def RdPost (s : ByteArray) (w : World) (e : Ending) (w' : World) : Prop :=
  Below w.heap.size w w' ∧ ((∃ v l, e = .returned (.tuple #[v, .bool true]) ∧ IntRow w.heap.size w' v l ∧ RdD s l ∧ l.length ≤ s.size + 1) ∨ (e = .returned (.tuple #[.slice none 0 0, .bool false]) ∧ ¬ ∃ l, RdD s l))
theorem rd_all {s : ByteArray} {l : List Int} (h1 : ¬ s = ⟨#[45]⟩) (h : (splitL s 44).map pB = l.map some) : RdD s l ∧ l.length ≤ s.size + 1 := by
  refine ⟨.inr ⟨h1, h⟩, ?_⟩
  have := congrArg List.length h
  rw [List.length_map, List.length_map] at this
  have := split_length s 44
  omega
theorem rd_none {s : ByteArray} (h1 : ¬ s = ⟨#[45]⟩) (h : ¬ ∃ l : List Int, (splitL s 44).map pB = l.map some) : ¬ ∃ l, RdD s l := by
  rintro ⟨l, ⟨e, _⟩ | ⟨_, e⟩⟩
  · exact h1 e
  · exact h ⟨l, e⟩
set_option maxRecDepth 20000 in
set_option maxHeartbeats 3200000 in
theorem readDigits_more (s : ByteArray) (w : World) (hs0 : s.size ≤ 1090000) (h1 : ¬ s = ⟨#[45]⟩) (he : Env w) :
    Calls Tryz.prog 25 #[.string s] w (RdPost s w) := by
  have hne : (s.toList == [45]) = false := by
    have h := str_ne h1
    rw [ByteArray.toList_eq ⟨#[45]⟩] at h
    exact h
  obtain ⟨i0, hi, hz0, hz1, hz2⟩ := info_parts Tryz.infoInt64
  have HI := Lib.hid hi
  have HZ0 := Lib.hid hz0
  have HZ1 := Lib.hid hz1
  have HZ2 := Lib.hid hz2
  have HS := Lib.hid hs0
  have HE := Lib.hid he
  have H1 := Lib.hid h1
  clear hs0 he h1 hi hz0 hz1 hz2
  refine (callsIn_wide (n := 4)).1 ?_
  refine callsIn_of_wp_marks Tryz.func25 rfl trivial ?_ rfl
  simp only [Tryz.ntmps25, List.size_toArray, List.length_cons, List.length_nil, Nat.reduceAdd, Nat.reduceSub, Array.replicate_succ, Array.replicate_zero, List.push_toArray, List.append_toArray, List.nil_append, List.cons_append]
  gi_wp2_with (refine ⟨trivial, ?_⟩; gi_at_call 54; refine (callsIn_wide.2 (seq_made s ⟨#[44]⟩ _)).mono ?_; rintro e w' ⟨rfl, rfl⟩)
  obtain ⟨W6, hW6⟩ : ∃ W6, ((((((w.alloc (.cells #[.slice none 0 0] 51)).alloc (.cells #[.bool false] 4)).alloc (.cells #[.slice none 0 0] 51)).alloc (.cells #[.string s] 9)).alloc (.cells #[.string ⟨#[44]⟩] 9)).alloc (.cells #[.int .i64 0] 3)) = W6 := ⟨_, rfl⟩
  have h6s : W6.heap.size = w.heap.size + 6 := by rw [← hW6]; simp
  have b0 : Boxed W6 w.heap.size 51 (.slice none 0 0) := by
    rw [← hW6]; exact (((((Boxed.new w 51 (.slice none 0 0)).alloc _).alloc _).alloc _).alloc _).alloc _
  have b1 : Boxed W6 (w.heap.size + 1) 4 (.bool false) := by
    have h := Boxed.new (w.alloc (.cells #[.slice none 0 0] 51)) 4 (.bool false)
    rw [World.size_alloc] at h
    rw [← hW6]; exact (((h.alloc _).alloc _).alloc _).alloc _
  have b2 : Boxed W6 (w.heap.size + 1 + 1) 51 (.slice none 0 0) := by
    have h := Boxed.new ((w.alloc (.cells #[.slice none 0 0] 51)).alloc (.cells #[.bool false] 4)) 51 (.slice none 0 0)
    rw [World.size_alloc, World.size_alloc] at h
    rw [← hW6]; exact ((h.alloc _).alloc _).alloc _
  have b3 : Boxed W6 (w.heap.size + 1 + 1 + 1) 9 (.string s) := by
    have h := Boxed.new (((w.alloc (.cells #[.slice none 0 0] 51)).alloc (.cells #[.bool false] 4)).alloc (.cells #[.slice none 0 0] 51)) 9 (.string s)
    rw [World.size_alloc, World.size_alloc, World.size_alloc] at h
    rw [← hW6]; exact (h.alloc _).alloc _
  have b4 : Boxed W6 (w.heap.size + 1 + 1 + 1 + 1) 9 (.string ⟨#[44]⟩) := by
    have h := Boxed.new ((((w.alloc (.cells #[.slice none 0 0] 51)).alloc (.cells #[.bool false] 4)).alloc (.cells #[.slice none 0 0] 51)).alloc (.cells #[.string s] 9)) 9 (.string ⟨#[44]⟩)
    rw [World.size_alloc, World.size_alloc, World.size_alloc, World.size_alloc] at h
    rw [← hW6]; exact h.alloc _
  have b5 : Boxed W6 (w.heap.size + 1 + 1 + 1 + 2) 3 (.int .i64 0) := by
    have h := Boxed.new (((((w.alloc (.cells #[.slice none 0 0] 51)).alloc (.cells #[.bool false] 4)).alloc (.cells #[.slice none 0 0] 51)).alloc (.cells #[.string s] 9)).alloc (.cells #[.string ⟨#[44]⟩] 9)) 3 (.int .i64 0)
    rw [World.size_alloc, World.size_alloc, World.size_alloc, World.size_alloc, World.size_alloc] at h
    rw [← hW6]; exact h
  have hB6 : Below w.heap.size w W6 := by
    rw [← hW6]
    exact ((((((Below.refl _ w).alloc (Nat.le_refl _) _).alloc (by simp) _).alloc (by simp; omega) _).alloc (by simp; omega) _).alloc (by simp; omega) _).alloc (by simp; omega) _
  rw [hW6]
  clear hW6
  have hsz : s.size ≤ 2000000 := Nat.le_trans HS.out (by omega)
  refine wpIn_rangeBy (F := Fence.wide) (n := 4) (P := Tryz.prog) (w := W6) rfl (by omega) (gf := 95) rfl trivial (enters_of Tryz.func95 (by kernel_rfl) rfl)
    (splitSeq_by 3 (by omega) (w.heap.size + 1 + 1 + 1) (w.heap.size + 1 + 1 + 1 + 1) (w.heap.size + 1 + 1 + 1 + 2) 44 s (by omega) (by omega) hsz) (fun _ => rfl)
    (RI w) (RX w) (fun x => { tmps := #[.string s, undef, .pointer (some ⟨w.heap.size, 0, none⟩), .pointer (some ⟨w.heap.size + 1, 0, none⟩), .pointer (some ⟨w.heap.size + 1 + 1, 0, none⟩), .string x, undef, undef, .string s, .bool false, .string s, .func (.func 95) #[] #[.pointer (some ⟨w.heap.size + 1 + 1 + 1 + 1, 0, none⟩), .pointer (some ⟨w.heap.size + 1 + 1 + 1, 0, none⟩), .pointer (some ⟨w.heap.size + 1 + 1 + 1 + 2, 0, none⟩)], .string x, undef, undef, undef, undef, undef, undef, undef, undef, undef, undef, undef, undef], defers := [] })
    ?ip ?xp ?fp ?fq ?ft ?is ?xs ?sk ?h0 ?s0 ?assign ?body ?done ?stop
  case ip => rintro pre W k o o' ⟨hr, hb, hx⟩ hk ho hc; exact ⟨rrow_put hr ho hc, rbase_put hb (by omega) ho hc, rbox_put hx ho hc⟩
  case xp => rintro pre W k o o' ⟨hb, hx⟩ hk ho hc; exact ⟨rbase_put hb (by omega) ho hc, hx⟩
  case fp => intro A W k o o' hf hk ho hc; exact fr_put hf (by omega) (by omega) (by omega)
  case fq => intro W k o o' hk ho hc; exact fr_put (fr_refl W) (by omega) (by omega) (by omega)
  case ft => intro A B C h k; exact fr_trans h k
  case is => intro pre A B h hs; exact ri_st h hs
  case xs => intro pre A B h hs; exact rx_st h hs
  case sk => intro A B k o hs hk ho hc; exact st_keeps hs ho (by omega)
  case h0 =>
    intro o o'
    exact ⟨⟨_, [], (b2.alloc _).alloc _, intRow_nil _ _, rfl⟩, ⟨(b0.alloc _).alloc _, (b1.alloc _).alloc _, (hB6.alloc (by omega) _).alloc (by simp; omega) _⟩, ⟨_, (b3.alloc _).alloc _⟩, (b4.alloc _).alloc _, (b5.alloc _).alloc _⟩
  case s0 =>
    intro o o'
    exact ⟨((b3.alloc _).alloc _).cell, ((b3.alloc _).alloc _).frozen, ((b4.alloc _).alloc _).cell, ((b5.alloc _).alloc _).cell⟩
  case assign =>
    intro l x W K hK
    gi_wp2
    exact hK
  case body =>
    rintro l pre x W hsp ⟨⟨v, L, hv, hrow, hm⟩, hb, hx⟩
    have hxs : x.size ≤ 2000000 := Nat.le_trans (prefix_size hsp) hsz
    have hE := env_below HE.out hb.bel (Nat.le_refl _)
    have hlen : L.length ≤ 2000001 := by
      have e := congrArg List.length hm
      rw [List.length_map, List.length_map] at e
      have := hsp.length_le
      rw [List.length_append] at this
      have := split_length s 44
      omega
    obtain ⟨o, c, rfl⟩ := row_slice hrow
    have r0 := hb.res
    have r1 := hb.code
    cases hr : pB x with
    | none =>
      have HM := Lib.hid (map_none (pre := pre) hr)
      clear HI HZ0 HZ1 HZ2 H1 HE hm hsp hlen
      gi_wp2_with (refine ⟨trivial, ?_⟩; gi_at_call 24; refine (CallsIn.inRound l (callsIn_wide.2 (parse_none W hxs hE hr))).mono ?_; rintro e w2 ⟨v0, t0, p0, rfl, hb2⟩; have r0 := boxed_below r0 hb2; have r1 := boxed_below r1 hb2; have q0 := r0.cell; have q0f := r0.frozen; have q1 := r1.cell; have q1f := r1.frozen)
      exact rx_ret hb hb2 HM.out
    | some d =>
      have HM := Lib.hid (map_snoc hm hr)
      clear H1 HE hm hsp
      gi_wp2_with (first
        | (refine ⟨trivial, ?_⟩; gi_at_call 24; refine (CallsIn.inRound l (callsIn_wide.2 (parse_some W hxs hE hr))).mono ?_; rintro e w2 ⟨rfl, hb2⟩; have r2 := boxed_below hv hb2; have q2 := r2.cell; have hrw : IntRow w.heap.size w2 (.slice o L.length c) L := row_below hrow hb2 (Nat.le_refl _))
        | (gi_at_builtin; refine wpListIn_append_own _ rfl (.tmp 20) (.tmp 22) 51 rfl w.heap.size 2 i0 (.int .i64 0) 1 8 Tryz.underlying51 HI.out HZ0.out HZ1.out HZ2.out rfl (by decide) _ _ _ rfl (hrw.alloc _) ⟨w2.heap.size, 0, none⟩ 1 1 [.int .i64 d] rfl rfl ?c1 ?c2 ?c3 ?c4 ?c5 ?_))
      case c1 => first | exact news_one _ _ _ | simp [Addr.add]
      case c2 => first | exact one_one _ | rfl
      case c3 => unfold maxLen; omega
      case c4 => omega
      case c5 => have h1 := hb.bel.size; have h2 := hb2.size; first | omega | (simp; omega)
      intro v' w3 hown hgrow _
      obtain ⟨o2, c2, rfl⟩ := row_slice hown
      obtain ⟨e1, e2, e3, e4⟩ := ri_next hb hx hv hb2 hrw HM.out hown hgrow
      have q3 := e1.cell
      have q3f := e1.frozen
      clear hown hgrow
      gi_wp2
      exact ⟨e2, e3, e4⟩
  case done =>
    rintro D xs W hD rfl ⟨⟨v, L, hv, hrow, hm⟩, hb, hx⟩ hK
    obtain ⟨o, c, rfl⟩ := row_slice hrow
    have HR := Lib.hid (rd_all H1.out hm)
    have hDb : w.heap.size ≤ D := by omega
    have q2 := hv.cell
    have q0 := hb.res.cell
    have q0f := hb.res.frozen
    have q1 := hb.code.cell
    have q1f := hb.code.frozen
    have hb4 := Below.refl W.heap.size W
    clear HI HZ0 HZ1 HZ2 HE hx hsz hm
    gi_wp2
    refine ⟨by simp, .inl ⟨_, _, rfl, run_takeDeferred (def_keeps hK hb4), ?_⟩⟩
    obtain ⟨z0, z1, z2⟩ := leave_cells (u1 := .slice o L.length c) (u2 := .bool true) (o' := .deferred none) hb hb4 hK hDb
    refine ⟨.tuple #[.slice o L.length c, .bool true], by simp [results, Tryz.results25, go_sem, z0, z1], ?_⟩
    exact ⟨z2, .inl ⟨_, L, rfl, ownsRow_putObj (row_st2 hb hrow) _ (def_keeps hK hb4) rfl, HR.out⟩⟩
  case stop =>
    rintro D pre W hD hsp ⟨hb, hx⟩ hK
    have hN := rd_none H1.out (part_none hsp hx)
    have hb' := rbase_put (o' := .deferred none) hb (by omega) hK rfl
    have z0 := hb'.res.cell
    have z1 := hb'.code.cell
    gi_wp2
    refine ⟨by simp, .inl ⟨_, _, rfl, run_takeDeferred hK, ?_⟩⟩
    refine ⟨.tuple #[.slice none 0 0, .bool false], by simp [results, Tryz.results25, go_sem, z0, z1], ?_⟩
    exact ⟨hb'.bel, .inr ⟨rfl, hN⟩⟩
end Go.Proofs.YtejgcamogjgdkaaGreatDoor
namespace Go.Proofs.YtejgcamogjgdkaaGreatDoor
open Go.RowKit
set_option linter.unusedVariables false
set_option linter.unusedSimpArgs false
theorem rdV_bd (s : ByteArray) : 0 ≤ rdV s ∧ rdV s ≤ 10000000000000 := by
  unfold rdV
  split
  · rename_i h
    have e : s.data.toList.take s.size = s.data.toList := List.take_of_length_le (by simp)
    have := dig_bd s s.size h.2.1 (by rw [e]; exact h.2.2)
    rw [e] at this; exact this
  · omega
def negS (s : ByteArray) : Bool := if h : 0 < s.size then s[0] == 45 else false
def sgV (s : ByteArray) : Int := if negS s then -(rdV (s.extract 1 s.size)) else rdV s
def sgOk (s : ByteArray) : Bool := if negS s then rdOk (s.extract 1 s.size) && decide (0 < rdV (s.extract 1 s.size)) else rdOk s
theorem l01Signed_any (s : ByteArray) (w : World) (hs : s.size ≤ 2000000) :
    Calls Tryz.prog 29 #[.string s] w fun e w' => e = .returned (.tuple #[.int .i64 (sgV s), .bool (sgOk s)]) ∧ Below w.heap.size w w' := by
  by_cases h0 : 0 < s.size
  · by_cases h1 : s[0] = 45
    · have e1 : negS s = true := by simp [negS, h0, h1]
      have hV : sgV s = -(rdV (s.extract 1 s.size)) := by simp [sgV, e1]
      have hO : sgOk s = (rdOk (s.extract 1 s.size) && decide (0 < rdV (s.extract 1 s.size))) := by simp [sgOk, e1]
      rw [hV, hO]
      have hb := rdV_bd (s.extract 1 s.size)
      have HV := Lib.hid fun w => l01Value_any (s.extract 1 s.size) w (by rw [ByteArray.size_extract]; omega)
      have h1' : ((s[0].toNat : Int) == 45) = true := u8_eq (b := 45) h1
      clear hV hO e1 h1
      generalize rdV (s.extract 1 s.size) = x at *
      generalize rdOk (s.extract 1 s.size) = b at *
      obtain ⟨hx0, hx1⟩ := hb
      have hw : IntKind.i64.wrap (-x) = -x := IntWalk.i64_in _ (by omega)
      cases b
      · go_enter Tryz.func29, Tryz.ntmps29
        go_wp2_with (go_at_call 28; refine (HV.out _).mono ?_; rintro e wn ⟨rfl, hb⟩)
        go_ret2
        exact ⟨rfl, hb⟩
      · by_cases hx : 0 < x
        · go_enter Tryz.func29, Tryz.ntmps29
          go_wp2_with (go_at_call 28; refine (HV.out _).mono ?_; rintro e wn ⟨rfl, hb⟩)
          go_ret2
          exact ⟨by simp [hx], hb⟩
        · go_enter Tryz.func29, Tryz.ntmps29
          go_wp2_with (go_at_call 28; refine (HV.out _).mono ?_; rintro e wn ⟨rfl, hb⟩)
          go_ret2
          exact ⟨by simp [hx], hb⟩
    · have e1 : negS s = false := by simp [negS, h0, h1]
      have hV : sgV s = rdV s := by simp [sgV, e1]
      have hO : sgOk s = rdOk s := by simp [sgOk, e1]
      rw [hV, hO]
      have HV := Lib.hid fun w => l01Value_any s w (by omega)
      have h1' : ((s[0].toNat : Int) == 45) = false := u8_ne (b := 45) h1
      clear hV hO e1 h1
      generalize rdV s = x at *
      generalize rdOk s = b at *
      go_enter Tryz.func29, Tryz.ntmps29
      go_wp2_with (go_at_call 28; refine (HV.out _).mono ?_; rintro e wn ⟨rfl, hb⟩)
      go_ret2
      exact ⟨rfl, hb⟩
  · have e1 : negS s = false := by simp [negS, h0]
    have hV : sgV s = rdV s := by simp [sgV, e1]
    have hO : sgOk s = rdOk s := by simp [sgOk, e1]
    rw [hV, hO]
    have HV := Lib.hid fun w => l01Value_any s w (by omega)
    have h0' : (s.size : Int) = 0 := by omega
    clear hV hO e1
    generalize rdV s = x at *
    generalize rdOk s = b at *
    go_enter Tryz.func29, Tryz.ntmps29
    go_wp2_with (go_at_call 28; refine (HV.out _).mono ?_; rintro e wn ⟨rfl, hb⟩)
    go_ret2
    exact ⟨rfl, hb⟩
/-- what l01Numbers answers -/
def numsL (ws : List ByteArray) : List Int := if ws.all sgOk then ws.map sgV else []
def tkW (ws : List ByteArray) (k : Nat) : List Int := (ws.take k).map sgV
theorem tkW_succ {ws : List ByteArray} {k : Nat} {x : ByteArray} (h : k < ws.length) (e : ws.getD k ⟨#[]⟩ = x) : tkW ws (k + 1) = tkW ws k ++ [sgV x] := by
  unfold tkW
  have e2 : ws[k] = x := by rw [← e]; simp [List.getD, h]
  rw [List.take_succ_eq_append_getElem h, List.map_append, List.map_singleton, e2]
theorem nums_succ {ws : List ByteArray} {k : Nat} {x : ByteArray} (h : k < ws.length) (e : ws.getD k ⟨#[]⟩ = x) (h1 : (ws.take k).all sgOk = true) (h2 : sgOk x = true) : (ws.take (k + 1)).all sgOk = true := by
  have e2 : ws[k] = x := by rw [← e]; simp [List.getD, h]
  rw [List.take_succ_eq_append_getElem h, List.all_append, h1, e2]; simp [h2]
theorem nums_bad {ws : List ByteArray} {k : Nat} {x : ByteArray} (h : k < ws.length) (e : ws.getD k ⟨#[]⟩ = x) (h2 : sgOk x = false) : ws.all sgOk = false ∧ numsL ws = [] := by
  have e2 : ws[k] = x := by rw [← e]; simp [List.getD, h]
  have hn : ¬ ws.all sgOk = true := by
    intro ha
    rw [List.all_eq_true] at ha
    have := ha _ (List.getElem_mem h)
    rw [e2, h2] at this; cases this
  refine ⟨by simpa using hn, ?_⟩
  unfold numsL; rw [if_neg hn]
theorem nums_good {ws : List ByteArray} {k : Nat} (h : k = ws.length) (h1 : (ws.take k).all sgOk = true) : ws.all sgOk = true ∧ numsL ws = tkW ws k := by
  subst h
  have h2 : ws.all sgOk = true := by rw [List.take_length] at h1; exact h1
  refine ⟨h2, ?_⟩
  unfold numsL tkW; rw [if_pos h2, List.take_length]
set_option maxRecDepth 20000 in
set_option maxHeartbeats 1600000 in
theorem l01Numbers_any (base : Nat) (g c : Nat) (ws : List ByteArray) (w : World) (hn : ws.length ≤ 1100001) (hs : ∀ k, (ws.getD k ⟨#[]⟩).size ≤ 2000000) (hg : g < w.heap.size) (hr : StrRow base w (.slice (some ⟨g, 0, none⟩) ws.length c) ws) :
    Calls Tryz.prog 30 #[.slice (some ⟨g, 0, none⟩) ws.length c] w fun e w' => ∃ v, e = .returned (.tuple #[v, .bool (ws.all sgOk)]) ∧ IntRow w.heap.size w' v (numsL ws) ∧ Below w.heap.size w w' := by
  obtain ⟨i0, hi, hz0, hz1, hz2⟩ := info_parts Tryz.infoInt64
  have HI := Lib.hid hi
  have HZ0 := Lib.hid hz0
  have HZ1 := Lib.hid hz1
  have HZ2 := Lib.hid hz2
  have HR := Lib.hid (strRow_cells hr rfl)
  have HS := Lib.hid hs
  have HR0 := Lib.hid (intRow_made w)
  have HB0 := Lib.hid (below_a1 w (.cells #[] 2))
  clear hi hz0 hz1 hz2 hr hs
  obtain ⟨m, hm⟩ : ∃ m, ws.length = m := ⟨_, rfl⟩
  rw [hm] at HR hn ⊢
  have HM := Lib.hid hm
  clear hm
  go_enter Tryz.func30, Tryz.ntmps30
  go_wp2
  go_loopw [4, 5] (fun s i wr => ∃ k : Nat, i = .int .i64 k ∧ k ≤ m ∧ IntRow w.heap.size wr s (tkW ws k) ∧ (ws.take k).all sgOk = true ∧ Below w.heap.size w wr) (fun _ i _ => m - (intOf i).toNat)
  case atStart => exact ⟨0, rfl, Nat.zero_le _, HR0.out, rfl, HB0.out⟩
  case round =>
    obtain ⟨k, rfl, hk, hrow, hall, hbel⟩ := hrel
    have hkl : (tkW ws k).length = k := by unfold tkW; rw [List.length_map, List.length_take, HM.out]; omega
    have HW := Lib.hid hrow
    have HL := Lib.hid hbel
    have HA := Lib.hid hall
    have hsz0 := hbel.size
    clear hrow hbel hall HR0 HB0
    by_cases hlt : k < m
    · have hcell := HR.out k hlt
      rw [← HL.out.cell (by exact hg)] at hcell
      obtain ⟨x, hx⟩ : ∃ x, ws.getD k ⟨#[]⟩ = x := ⟨_, rfl⟩
      have hxs : x.size ≤ 2000000 := by rw [← hx]; exact HS.out k
      have hgw : g < wr.heap.size := by omega
      rw [hx] at hcell
      have HX := Lib.hid hx
      have HF := Lib.hid fun w => l01Signed_any x w hxs
      have hlt' : k < ws.length := by rw [HM.out]; exact hlt
      clear hx hxs
      cases hok : sgOk x
      · have HE := Lib.hid (nums_bad hlt' HX.out hok)
        rw [hok] at HF
        generalize sgV x = y at *
        clear hok hlt'
        go_wp2_with (go_at_call 29; refine (HF.out _).mono ?_; rintro e w2 ⟨rfl, hb2⟩)
        go_ret2
        rw [HE.out.1, HE.out.2]
        exact ⟨_, rfl, intRow_nil _ _, HL.out.trans (hb2.mono HL.out.size)⟩
      · have HT := Lib.hid (tkW_succ hlt' HX.out)
        have HA2 := Lib.hid (nums_succ hlt' HX.out HA.out hok)
        rw [hok] at HF
        generalize sgV x = y at *
        clear hok hlt'
        go_wp2_with (first
          | (go_at_call 29; refine (HF.out _).mono ?_; rintro e w2 ⟨rfl, hb2⟩; have hrw : IntRow w.heap.size w2 _ _ := row_below HW.out hb2 (Nat.le_refl _); have hbl := HL.out.trans (hb2.mono HL.out.size); have hsz := hb2.size)
          | (at_builtin; refine wpList_append_own _ rfl (.tmp 25) (.tmp 27) 51 rfl w.heap.size 2 i0 (.int .i64 0) 1 8 Tryz.underlying51 HI.out HZ0.out HZ1.out HZ2.out rfl (by decide) _ _ _ rfl (hrw.alloc _) ⟨w2.heap.size, 0, none⟩ 1 1 [.int .i64 y] rfl rfl ?c1 ?c2 ?c3 ?c4 ?c5 ?_))
        case c1 => first | exact news_one _ _ _ | simp [Addr.add]
        case c2 => first | exact one_one _ | rfl
        case c3 => rw [hkl]; unfold maxLen; omega
        case c4 => rw [hkl]; omega
        case c5 => first | omega | (simp; omega)
        intro v' w3 hown hgrow _
        have HO := Lib.hid (intRow_snoc (acc := tkW ws k) (a := y) (by rw [hkl]; exact hown))
        have HG := Lib.hid (((hbl.alloc (by omega) (.cells #[.int .i64 y] 2)).grown hgrow (by simp; omega) (fun k hk => (World.ownsRow.lt hrw k hk).1) : Below w.heap.size w w3))
        clear hown hgrow hrw hbl
        go_wp2
        go_roundw
        case rel => exact ⟨k + 1, by go_num, by omega, by rw [HT.out]; exact HO.out, HA2.out, HG.out⟩
        case measure => simp [intOf]; omega
    · have hk2 : k = ws.length := by rw [HM.out]; omega
      have HG := Lib.hid (nums_good hk2 HA.out)
      clear hk2
      obtain ⟨o, c', hv⟩ := row_slice HW.out
      subst hv
      go_wp2
      go_ret2
      rw [HG.out.1, HG.out.2]
      exact ⟨_, rfl, HW.out, HL.out⟩
/-- the digits that spec reads off the last piece -/
def dgS (x : ByteArray) : List Int := if x = ⟨#[45]⟩ then [] else numsL (splitL x 44)
theorem neg_dig {l : List UInt8} (h : l.all isDig = true) : negS (bsOf l) = false := by
  unfold negS
  split
  · rename_i h0
    rw [List.all_eq_true] at h
    have hm : (bsOf l).data[0] ∈ (bsOf l).data.toList := by simp
    have e : (bsOf l).data.toList = l := by simp [bsOf]
    rw [e] at hm
    have := h _ hm
    change isDig (bsOf l)[0] = true at this
    cases hb : (bsOf l)[0] == 45
    · rfl
    · have e : (bsOf l)[0] = 45 := by simpa using hb
      rw [e] at this; cases this
  · rfl
theorem sg_nat {n : Int} (h0 : 0 ≤ n) (h1 : n < 10000000000000) : sgV (bsOf (Lib.itoa n)) = n ∧ sgOk (bsOf (Lib.itoa n)) = true := by
  obtain ⟨d1, d2⟩ := decDigits_val n.toNat
  have hl := decDigits_len 12 n.toNat (by omega)
  have hp : 1 ≤ (Lib.decDigits n.toNat).length := by rw [Lib.decDigits]; split <;> simp
  have hn : negS (bsOf (Lib.itoa n)) = false := by rw [itoa_nat h0]; exact neg_dig d1
  unfold sgV sgOk
  rw [hn]
  refine ⟨rdV_itoa h0 h1, ?_⟩
  show rdOk (bsOf (Lib.itoa n)) = true
  rw [itoa_nat h0, (rd_good (s := bsOf (Lib.decDigits n.toNat)) (by rw [bs_size]; exact hp) (by rw [bs_size]; exact hl) d1).2]
  refine decide_eq_true ?_
  rw [show valL (bsOf (Lib.decDigits n.toNat)).data.toList = n by
    show valL (Lib.decDigits n.toNat) = n
    rw [d2]; omega, itoa_nat h0]
theorem sg_itoa {n : Int} (h0 : -1000000 ≤ n) (h1 : n ≤ 1000000) : sgV (bsOf (Lib.itoa n)) = n := by
  by_cases hn : 0 ≤ n
  · exact (sg_nat hn (by omega)).1
  · have e : Lib.itoa n = 45 :: Lib.itoa (-n) := by
      unfold Lib.itoa; rw [if_pos (by omega), if_neg (by omega), show (-n).toNat = n.natAbs by omega]
    have hx : (bsOf (Lib.itoa n)).extract 1 (bsOf (Lib.itoa n)).size = bsOf (Lib.itoa (-n)) := by
      rw [e]; apply ByteArray.ext; simp [bsOf, ByteArray.size]
    have hs : negS (bsOf (Lib.itoa n)) = true := by
      rw [e]; unfold negS; rw [dif_pos (by rw [bs_size]; simp)]; rfl
    unfold sgV
    rw [hs, if_pos rfl, hx, rdV_itoa (by omega) (by omega)]
    omega
theorem nums_itoa {l : List Int} (hd : ∀ d ∈ l, 0 ≤ d ∧ d < 97) : numsL (l.map fun d => bsOf (Lib.itoa d)) = l := by
  have h1 : (l.map fun d => bsOf (Lib.itoa d)).all sgOk = true := by
    rw [List.all_eq_true]
    intro x hx
    obtain ⟨d, hd', rfl⟩ := List.mem_map.1 hx
    have := hd d hd'
    exact (sg_nat (by omega) (by omega)).2
  unfold numsL
  rw [if_pos h1, List.map_map]
  conv => rhs; rw [← List.map_id l]
  apply List.map_congr_left
  intro d hd'
  have := hd d hd'
  exact (sg_nat (by omega) (by omega)).1
theorem dg_last {p v u n : Int} (h : POk p v u n) : dgS (bsOf (lastT p u n)) = digL p u n.toNat := by
  unfold lastT
  by_cases hn : n = 0
  · rw [if_pos hn, hn]; rfl
  · obtain ⟨h1, h2⟩ := digs_ne h hn
    rw [if_neg hn]
    unfold dgS
    rw [if_neg (digT_ne h1 h2), split_digT h1, nums_itoa h2]
/-- what spec reads off a text -/
theorem spec_reads {s : ByteArray} {q : Q4} (h : IsText s q) : (splitL s 58).length = 3 ∧
    fromC (rdV ((splitL s 58).getD 0 ⟨#[]⟩)) (sgV ((splitL s 58).getD 1 ⟨#[]⟩)) (dgS ((splitL s 58).getD 2 ⟨#[]⟩)) = 0 ∧
    fromQ (rdV ((splitL s 58).getD 0 ⟨#[]⟩)) (sgV ((splitL s 58).getD 1 ⟨#[]⟩)) (dgS ((splitL s 58).getD 2 ⟨#[]⟩)) = q := by
  obtain ⟨hk, rfl⟩ := h
  obtain ⟨hp2, hp97, _⟩ := pok_bd hk
  have hv0 := hk.2.1
  have hv1 := hk.2.2.1
  rw [split_text]
  refine ⟨rfl, ?_⟩
  show fromC (rdV (bsOf (Lib.itoa q.1))) (sgV (bsOf (Lib.itoa q.2.1))) (dgS (bsOf (lastT q.1 q.2.2.1 q.2.2.2))) = 0 ∧ fromQ (rdV (bsOf (Lib.itoa q.1))) (sgV (bsOf (Lib.itoa q.2.1))) (dgS (bsOf (lastT q.1 q.2.2.1 q.2.2.2))) = q
  rw [rdV_itoa (by omega) (by omega), sg_itoa (by omega) (by omega), dg_last hk]
  exact from_digits hk
end Go.Proofs.YtejgcamogjgdkaaGreatDoor
namespace Go.Proofs.YtejgcamogjgdkaaGreatDoor
open Go.RowKit
set_option linter.unusedVariables false
set_option linter.unusedSimpArgs false
/-- the three pieces of a text, as they lie in memory -/
def C3 (W : World) (g : Nat) (x0 x1 x2 : ByteArray) : Prop :=
  g < W.heap.size ∧ W.cell? ⟨g, 0, none⟩ = some (.string x0) ∧ W.cell? ⟨g, 1, none⟩ = some (.string x1) ∧ W.cell? ⟨g, 2, none⟩ = some (.string x2)
theorem c3_next {A B : World} {g : Nat} {x0 x1 x2 : ByteArray} (h : C3 A g x0 x1 x2) (hb : Below A.heap.size A B) : C3 B g x0 x1 x2 := by
  obtain ⟨h0, h1, h2, h3⟩ := h
  exact ⟨Nat.lt_of_lt_of_le h0 hb.size, by rw [hb.cell (by exact h0)]; exact h1, by rw [hb.cell (by exact h0)]; exact h2, by rw [hb.cell (by exact h0)]; exact h3⟩
theorem below_al (w : World) (o : Obj) : Below w.heap.size w (w.alloc o) := below_a1 w o
theorem c3_len {s : ByteArray} (h3 : (splitL s 58).length = 3) {w : World} {base g c : Nat} (hr : StrRow base w (.slice (some ⟨g, 0, none⟩) (splitL s 58).length c) (splitL s 58)) (hg : g < w.heap.size) :
    C3 w g ((splitL s 58).getD 0 ⟨#[]⟩) ((splitL s 58).getD 1 ⟨#[]⟩) ((splitL s 58).getD 2 ⟨#[]⟩) := by
  have hc := strRow_cells hr rfl
  exact ⟨hg, hc 0 (by omega), hc 1 (by omega), hc 2 (by omega)⟩
theorem rp_no {s : ByteArray} {w w' : World} (h : ¬ ∃ q, IsText s q) (hb : Below w.heap.size w w') : ReadPost s w (.returned (.tuple #[.agg (P4 0 0 0 0), .int .i64 6])) w' :=
  ⟨(0, 0, 0, 0), 6, rfl, hb, .inr ⟨rfl, rfl, h⟩⟩
theorem rp_yes {s : ByteArray} {w w' : World} {a b c d : Int} (h : IsText s (a, b, c, d)) (hb : Below w.heap.size w w') : ReadPost s w (.returned (.tuple #[.agg (P4 a b c d), .int .i64 0])) w' :=
  ⟨(a, b, c, d), 0, rfl, hb, .inl ⟨rfl, h⟩⟩
theorem dgS_len (x : ByteArray) (hx : x.size ≤ 1099999) : (dgS x).length ≤ 1100000 := by
  unfold dgS numsL
  split
  · simp
  · split
    · rw [List.length_map]; have := split_length x 44; omega
    · simp
/-- what follows the reading: there is no text, or the number is valid and has the text or not -/
theorem read_end {s : ByteArray} {P V : Int} {D : List Int} {q : Q4} {c : Int} (hc : fromC P V D = c) (hq : fromQ P V D = q) (hr : ∀ q', IsText s q' → fromC P V D = 0 ∧ fromQ P V D = q') :
    (¬ c = 0 ∧ ¬ ∃ q, IsText s q) ∨ (c = 0 ∧ POk q.1 q.2.1 q.2.2.1 q.2.2.2 ∧ ((bsOf (textL q.1 q.2.1 q.2.2.1 q.2.2.2) = s ∧ IsText s q) ∨ (¬ bsOf (textL q.1 q.2.1 q.2.2.1 q.2.2.2) = s ∧ ¬ ∃ q, IsText s q))) := by
  by_cases h : c = 0
  · right
    have hp := from_ok (hc.trans h)
    rw [hq] at hp
    refine ⟨h, hp, ?_⟩
    by_cases ht : bsOf (textL q.1 q.2.1 q.2.2.1 q.2.2.2) = s
    · exact .inl ⟨ht, hp, ht⟩
    · refine .inr ⟨ht, ?_⟩
      rintro ⟨q', hq'⟩
      have := (hr q' hq').2
      rw [hq] at this
      subst this
      exact ht hq'.2
  · left
    refine ⟨h, ?_⟩
    rintro ⟨q', hq'⟩
    exact h (hc.symm.trans (hr q' hq').1)
set_option maxRecDepth 20000 in
set_option maxHeartbeats 3200000 in
theorem specReadPadic_any (s : ByteArray) (w : World) (hs : s.size ≤ 1090000) :
    Calls Tryz.prog 11 #[.string s] w (ReadPost s w) := by
  have HS := Lib.hid hs
  have h2 : s.size ≤ 2000000 := by omega
  have HR := Lib.hid fun q (h : IsText s q) => spec_reads h
  clear hs
  go_enter Tryz.func11, Tryz.ntmps11
  go_wp2_with fail
  refine (l01Split_any s 58 _ h2).mono ?_
  rintro e w1 ⟨v1, rfl, r1, b1⟩
  have K := k1_first b1
  obtain ⟨c0, c1, c2, c3⟩ := lies_four K.2
  obtain ⟨cf0, cf1, cf2, cf3⟩ := lies_ice K.2
  obtain ⟨g, cp, rfl, hg, hgw⟩ := strRow_some r1 (split_pos s 58)
  by_cases h3 : (splitL s 58).length = 3
  · have C := c3_len h3 r1 hgw
    have HR2 := Lib.hid fun q (h : IsText s q) => (HR.out q h).2
    have z0 := split_size s 58 0
    have z1 := split_size s 58 1
    have z2 := split_size s 58 2
    rw [h3]
    clear r1 b1 hgw hg h3 HR
    obtain ⟨x0, hx0⟩ : ∃ x, (splitL s 58).getD 0 ⟨#[]⟩ = x := ⟨_, rfl⟩
    obtain ⟨x1, hx1⟩ : ∃ x, (splitL s 58).getD 1 ⟨#[]⟩ = x := ⟨_, rfl⟩
    obtain ⟨x2, hx2⟩ : ∃ x, (splitL s 58).getD 2 ⟨#[]⟩ = x := ⟨_, rfl⟩
    rw [hx0, hx1, hx2] at C HR2
    rw [hx0] at z0
    rw [hx1] at z1
    rw [hx2] at z2
    have hs := HS.out
    have D0 := Lib.hid fun w => l01Value_any x0 w (by omega)
    have D1 := Lib.hid fun w => l01Signed_any x1 w (by omega)
    have D2 := Lib.hid fun w => l01Split_any x2 44 w (by omega)
    have hdl := dgS_len x2 (by omega)
    have HZ : Hid (∀ k, ((splitL x2 44).getD k ⟨#[]⟩).size ≤ 2000000 ∧ (splitL x2 44).length ≤ 1100001) := by
      show ∀ k, ((splitL x2 44).getD k ⟨#[]⟩).size ≤ 2000000 ∧ (splitL x2 44).length ≤ 1100001
      intro k
      have a := split_size x2 44 k
      have b := split_length x2 44
      omega
    clear hx0 hx1 hx2 z0 z1 z2 hs h2
    generalize rdV x0 = P at *
    generalize sgV x1 = V at *
    generalize rdOk x0 = ok0 at *
    generalize sgOk x1 = ok1 at *
    obtain ⟨hg, q0, q1, q2⟩ := C
    by_cases hm : x2 = ⟨#[45]⟩
    · have hD : dgS x2 = [] := by unfold dgS; rw [if_pos hm]
      have hm' := str_eq' hm
      rw [ByteArray.toList_eq ⟨#[45]⟩] at hm'
      change (x2.toList == [45]) = true at hm'
      rw [hD] at HR2
      have HF := Lib.hid fun base w v (h : IntRow base w v []) => specFrom_any P V h (by simp)
      clear hD hm D2 HZ hdl
      have hend := read_end (s := s) (P := P) (V := V) (D := []) rfl rfl HR2.out
      obtain ⟨q, hq⟩ : ∃ q, fromQ P V [] = q := ⟨_, rfl⟩
      obtain ⟨cc, hcc⟩ : ∃ c, fromC P V [] = c := ⟨_, rfl⟩
      rw [hq, hcc] at HF hend
      clear hq hcc HR2
      rcases hend with ⟨hc, hn⟩ | ⟨hc, hp, ⟨ht, hi⟩ | ⟨ht, hn⟩⟩
      · have HN := Lib.hid hn
        have hcn : (cc != 0) = true := by simpa using hc
        clear hn hc
        go_wp2_with (first
                | (go_at_call 28; refine (D0.out _).mono ?_; rintro e wn ⟨rfl, hb⟩; have K := k1_next K hb; have C := c3_next ⟨hg, q0, q1, q2⟩ hb; obtain ⟨c0, c1, c2, c3⟩ := lies_four K.2; obtain ⟨cf0, cf1, cf2, cf3⟩ := lies_ice K.2; obtain ⟨hg, q0, q1, q2⟩ := C)
                | (go_at_call 29; refine (D1.out _).mono ?_; rintro e wm ⟨rfl, hb⟩; have K := k1_next K hb; have C := c3_next ⟨hg, q0, q1, q2⟩ hb; obtain ⟨c0, c1, c2, c3⟩ := lies_four K.2; obtain ⟨cf0, cf1, cf2, cf3⟩ := lies_ice K.2; obtain ⟨hg, q0, q1, q2⟩ := C; have K := k1_next K (below_al wm (.cells #[] 2)); have C := c3_next ⟨hg, q0, q1, q2⟩ (below_al wm (.cells #[] 2)); have hrow := intRow_made wm; obtain ⟨c0, c1, c2, c3⟩ := lies_four K.2; obtain ⟨cf0, cf1, cf2, cf3⟩ := lies_ice K.2; obtain ⟨hg, q0, q1, q2⟩ := C)
                | (go_at_call 31; refine (HF.out _ _ _ hrow).mono ?_; rintro e wf ⟨rfl, hb⟩; have K := k1_next K hb; obtain ⟨c0, c1, c2, c3⟩ := lies_four K.2; obtain ⟨cf0, cf1, cf2, cf3⟩ := lies_ice K.2; have K := k1_next K (below_al wf (.cells (P4 q.1 q.2.1 q.2.2.1 q.2.2.2) 25)); have L := lies_new wf (P4 q.1 q.2.1 q.2.2.1 q.2.2.2) 25; obtain ⟨l0, l1, l2, l3⟩ := lies_four L; obtain ⟨c0, c1, c2, c3⟩ := lies_four K.2; obtain ⟨cf0, cf1, cf2, cf3⟩ := lies_ice K.2))
        refine bodyPost_ret (v := .tuple #[.agg (P4 0 0 0 0), .int .i64 6]) (by simp [results, Tryz.results11, go_sem, c0, c1, c2, c3]) rfl ?_
        exact rp_no HN.out (below_set4 K.1 (by omega))
      · subst hc
        have HI := Lib.hid hi
        have HT := Lib.hid fun w => l04Text_any q.1 q.2.1 q.2.2.1 q.2.2.2 w hp
        have ht' := str_eq' ht
        clear hp hi
        go_wp2_with (first
                | (go_at_call 28; refine (D0.out _).mono ?_; rintro e wn ⟨rfl, hb⟩; have K := k1_next K hb; have C := c3_next ⟨hg, q0, q1, q2⟩ hb; obtain ⟨c0, c1, c2, c3⟩ := lies_four K.2; obtain ⟨cf0, cf1, cf2, cf3⟩ := lies_ice K.2; obtain ⟨hg, q0, q1, q2⟩ := C)
                | (go_at_call 29; refine (D1.out _).mono ?_; rintro e wm ⟨rfl, hb⟩; have K := k1_next K hb; have C := c3_next ⟨hg, q0, q1, q2⟩ hb; obtain ⟨c0, c1, c2, c3⟩ := lies_four K.2; obtain ⟨cf0, cf1, cf2, cf3⟩ := lies_ice K.2; obtain ⟨hg, q0, q1, q2⟩ := C; have K := k1_next K (below_al wm (.cells #[] 2)); have C := c3_next ⟨hg, q0, q1, q2⟩ (below_al wm (.cells #[] 2)); have hrow := intRow_made wm; obtain ⟨c0, c1, c2, c3⟩ := lies_four K.2; obtain ⟨cf0, cf1, cf2, cf3⟩ := lies_ice K.2; obtain ⟨hg, q0, q1, q2⟩ := C)
                | (go_at_call 31; refine (HF.out _ _ _ hrow).mono ?_; rintro e wf ⟨rfl, hb⟩; have K := k1_next K hb; obtain ⟨c0, c1, c2, c3⟩ := lies_four K.2; obtain ⟨cf0, cf1, cf2, cf3⟩ := lies_ice K.2; have K := k1_next K (below_al wf (.cells (P4 q.1 q.2.1 q.2.2.1 q.2.2.2) 25)); have L := lies_new wf (P4 q.1 q.2.1 q.2.2.1 q.2.2.2) 25; obtain ⟨l0, l1, l2, l3⟩ := lies_four L; obtain ⟨c0, c1, c2, c3⟩ := lies_four K.2; obtain ⟨cf0, cf1, cf2, cf3⟩ := lies_ice K.2)
                | (go_at_call 18; refine (HT.out _).mono ?_; rintro e wt ⟨rfl, hb⟩; have K := k1_next K hb; obtain ⟨c0, c1, c2, c3⟩ := lies_four K.2; obtain ⟨cf0, cf1, cf2, cf3⟩ := lies_ice K.2; have L := lies_next L hb; obtain ⟨l0, l1, l2, l3⟩ := lies_four L))
        refine bodyPost_ret (v := .tuple #[.agg (P4 q.1 q.2.1 q.2.2.1 q.2.2.2), .int .i64 0]) (by simp [results, Tryz.results11, go_sem, c0, c1, c2, c3]) rfl ?_
        exact rp_yes HI.out (below_set4 K.1 (by omega))
      · subst hc
        have HN := Lib.hid hn
        have HT := Lib.hid fun w => l04Text_any q.1 q.2.1 q.2.2.1 q.2.2.2 w hp
        have ht' := str_ne ht
        clear hp hn
        go_wp2_with (first
                | (go_at_call 28; refine (D0.out _).mono ?_; rintro e wn ⟨rfl, hb⟩; have K := k1_next K hb; have C := c3_next ⟨hg, q0, q1, q2⟩ hb; obtain ⟨c0, c1, c2, c3⟩ := lies_four K.2; obtain ⟨cf0, cf1, cf2, cf3⟩ := lies_ice K.2; obtain ⟨hg, q0, q1, q2⟩ := C)
                | (go_at_call 29; refine (D1.out _).mono ?_; rintro e wm ⟨rfl, hb⟩; have K := k1_next K hb; have C := c3_next ⟨hg, q0, q1, q2⟩ hb; obtain ⟨c0, c1, c2, c3⟩ := lies_four K.2; obtain ⟨cf0, cf1, cf2, cf3⟩ := lies_ice K.2; obtain ⟨hg, q0, q1, q2⟩ := C; have K := k1_next K (below_al wm (.cells #[] 2)); have C := c3_next ⟨hg, q0, q1, q2⟩ (below_al wm (.cells #[] 2)); have hrow := intRow_made wm; obtain ⟨c0, c1, c2, c3⟩ := lies_four K.2; obtain ⟨cf0, cf1, cf2, cf3⟩ := lies_ice K.2; obtain ⟨hg, q0, q1, q2⟩ := C)
                | (go_at_call 31; refine (HF.out _ _ _ hrow).mono ?_; rintro e wf ⟨rfl, hb⟩; have K := k1_next K hb; obtain ⟨c0, c1, c2, c3⟩ := lies_four K.2; obtain ⟨cf0, cf1, cf2, cf3⟩ := lies_ice K.2; have K := k1_next K (below_al wf (.cells (P4 q.1 q.2.1 q.2.2.1 q.2.2.2) 25)); have L := lies_new wf (P4 q.1 q.2.1 q.2.2.1 q.2.2.2) 25; obtain ⟨l0, l1, l2, l3⟩ := lies_four L; obtain ⟨c0, c1, c2, c3⟩ := lies_four K.2; obtain ⟨cf0, cf1, cf2, cf3⟩ := lies_ice K.2)
                | (go_at_call 18; refine (HT.out _).mono ?_; rintro e wt ⟨rfl, hb⟩; have K := k1_next K hb; obtain ⟨c0, c1, c2, c3⟩ := lies_four K.2; obtain ⟨cf0, cf1, cf2, cf3⟩ := lies_ice K.2; have L := lies_next L hb; obtain ⟨l0, l1, l2, l3⟩ := lies_four L))
        refine bodyPost_ret (v := .tuple #[.agg (P4 0 0 0 0), .int .i64 6]) (by simp [results, Tryz.results11, go_sem, c0, c1, c2, c3]) rfl ?_
        exact rp_no HN.out (below_set4 K.1 (by omega))
    · have hD : dgS x2 = numsL (splitL x2 44) := by unfold dgS; rw [if_neg hm]
      have hm' := str_ne hm
      rw [ByteArray.toList_eq ⟨#[45]⟩] at hm'
      change (x2.toList == [45]) = false at hm'
      rw [hD] at HR2 hdl
      have D3 := Lib.hid fun base g c w hg h => l01Numbers_any base g c (splitL x2 44) w (HZ.out 0).2 (fun k => (HZ.out k).1) hg h
      have hpos := split_pos x2 44
      have HF := Lib.hid fun base w v (h : IntRow base w v (numsL (splitL x2 44))) => specFrom_any P V h (by omega)
      clear hD hm HZ hdl
      generalize numsL (splitL x2 44) = D at *
      generalize (splitL x2 44).all sgOk = ok2 at *
      have hend := read_end (s := s) (P := P) (V := V) (D := D) rfl rfl HR2.out
      obtain ⟨q, hq⟩ : ∃ q, fromQ P V D = q := ⟨_, rfl⟩
      obtain ⟨cc, hcc⟩ : ∃ c, fromC P V D = c := ⟨_, rfl⟩
      rw [hq, hcc] at HF hend
      clear hq hcc HR2
      rcases hend with ⟨hc, hn⟩ | ⟨hc, hp, ⟨ht, hi⟩ | ⟨ht, hn⟩⟩
      · have HN := Lib.hid hn
        have hcn : (cc != 0) = true := by simpa using hc
        clear hn hc
        go_wp2_with (first
                | (go_at_call 28; refine (D0.out _).mono ?_; rintro e wn ⟨rfl, hb⟩; have K := k1_next K hb; have C := c3_next ⟨hg, q0, q1, q2⟩ hb; obtain ⟨c0, c1, c2, c3⟩ := lies_four K.2; obtain ⟨cf0, cf1, cf2, cf3⟩ := lies_ice K.2; obtain ⟨hg, q0, q1, q2⟩ := C)
                | (go_at_call 29; refine (D1.out _).mono ?_; rintro e wm ⟨rfl, hb⟩; have K := k1_next K hb; have C := c3_next ⟨hg, q0, q1, q2⟩ hb; obtain ⟨c0, c1, c2, c3⟩ := lies_four K.2; obtain ⟨cf0, cf1, cf2, cf3⟩ := lies_ice K.2; obtain ⟨hg, q0, q1, q2⟩ := C; have K := k1_next K (below_al wm (.cells #[] 2)); have C := c3_next ⟨hg, q0, q1, q2⟩ (below_al wm (.cells #[] 2)); have hrow := intRow_made wm; obtain ⟨c0, c1, c2, c3⟩ := lies_four K.2; obtain ⟨cf0, cf1, cf2, cf3⟩ := lies_ice K.2; obtain ⟨hg, q0, q1, q2⟩ := C)
                | (go_at_call 27; refine (D2.out _).mono ?_; rintro e wk ⟨v2, rfl, r2, hb⟩; obtain ⟨g2, cp2, rfl, hg2, hgw2⟩ := strRow_some r2 hpos; have K := k1_next K hb; have C := c3_next ⟨hg, q0, q1, q2⟩ hb; obtain ⟨c0, c1, c2, c3⟩ := lies_four K.2; obtain ⟨cf0, cf1, cf2, cf3⟩ := lies_ice K.2; obtain ⟨hg, q0, q1, q2⟩ := C)
                | (go_at_call 30; refine (D3.out _ _ _ _ hgw2 r2).mono ?_; rintro e wj ⟨v3, rfl, hrow, hb⟩; have K := k1_next K hb; have C := c3_next ⟨hg, q0, q1, q2⟩ hb; obtain ⟨c0, c1, c2, c3⟩ := lies_four K.2; obtain ⟨cf0, cf1, cf2, cf3⟩ := lies_ice K.2; obtain ⟨hg, q0, q1, q2⟩ := C)
                | (go_at_call 31; refine (HF.out _ _ _ hrow).mono ?_; rintro e wf ⟨rfl, hb⟩; have K := k1_next K hb; obtain ⟨c0, c1, c2, c3⟩ := lies_four K.2; obtain ⟨cf0, cf1, cf2, cf3⟩ := lies_ice K.2; have K := k1_next K (below_al wf (.cells (P4 q.1 q.2.1 q.2.2.1 q.2.2.2) 25)); have L := lies_new wf (P4 q.1 q.2.1 q.2.2.1 q.2.2.2) 25; obtain ⟨l0, l1, l2, l3⟩ := lies_four L; obtain ⟨c0, c1, c2, c3⟩ := lies_four K.2; obtain ⟨cf0, cf1, cf2, cf3⟩ := lies_ice K.2))
        refine bodyPost_ret (v := .tuple #[.agg (P4 0 0 0 0), .int .i64 6]) (by simp [results, Tryz.results11, go_sem, c0, c1, c2, c3]) rfl ?_
        exact rp_no HN.out (below_set4 K.1 (by omega))
      · subst hc
        have HI := Lib.hid hi
        have HT := Lib.hid fun w => l04Text_any q.1 q.2.1 q.2.2.1 q.2.2.2 w hp
        have ht' := str_eq' ht
        clear hp hi
        go_wp2_with (first
                | (go_at_call 28; refine (D0.out _).mono ?_; rintro e wn ⟨rfl, hb⟩; have K := k1_next K hb; have C := c3_next ⟨hg, q0, q1, q2⟩ hb; obtain ⟨c0, c1, c2, c3⟩ := lies_four K.2; obtain ⟨cf0, cf1, cf2, cf3⟩ := lies_ice K.2; obtain ⟨hg, q0, q1, q2⟩ := C)
                | (go_at_call 29; refine (D1.out _).mono ?_; rintro e wm ⟨rfl, hb⟩; have K := k1_next K hb; have C := c3_next ⟨hg, q0, q1, q2⟩ hb; obtain ⟨c0, c1, c2, c3⟩ := lies_four K.2; obtain ⟨cf0, cf1, cf2, cf3⟩ := lies_ice K.2; obtain ⟨hg, q0, q1, q2⟩ := C; have K := k1_next K (below_al wm (.cells #[] 2)); have C := c3_next ⟨hg, q0, q1, q2⟩ (below_al wm (.cells #[] 2)); have hrow := intRow_made wm; obtain ⟨c0, c1, c2, c3⟩ := lies_four K.2; obtain ⟨cf0, cf1, cf2, cf3⟩ := lies_ice K.2; obtain ⟨hg, q0, q1, q2⟩ := C)
                | (go_at_call 27; refine (D2.out _).mono ?_; rintro e wk ⟨v2, rfl, r2, hb⟩; obtain ⟨g2, cp2, rfl, hg2, hgw2⟩ := strRow_some r2 hpos; have K := k1_next K hb; have C := c3_next ⟨hg, q0, q1, q2⟩ hb; obtain ⟨c0, c1, c2, c3⟩ := lies_four K.2; obtain ⟨cf0, cf1, cf2, cf3⟩ := lies_ice K.2; obtain ⟨hg, q0, q1, q2⟩ := C)
                | (go_at_call 30; refine (D3.out _ _ _ _ hgw2 r2).mono ?_; rintro e wj ⟨v3, rfl, hrow, hb⟩; have K := k1_next K hb; have C := c3_next ⟨hg, q0, q1, q2⟩ hb; obtain ⟨c0, c1, c2, c3⟩ := lies_four K.2; obtain ⟨cf0, cf1, cf2, cf3⟩ := lies_ice K.2; obtain ⟨hg, q0, q1, q2⟩ := C)
                | (go_at_call 31; refine (HF.out _ _ _ hrow).mono ?_; rintro e wf ⟨rfl, hb⟩; have K := k1_next K hb; obtain ⟨c0, c1, c2, c3⟩ := lies_four K.2; obtain ⟨cf0, cf1, cf2, cf3⟩ := lies_ice K.2; have K := k1_next K (below_al wf (.cells (P4 q.1 q.2.1 q.2.2.1 q.2.2.2) 25)); have L := lies_new wf (P4 q.1 q.2.1 q.2.2.1 q.2.2.2) 25; obtain ⟨l0, l1, l2, l3⟩ := lies_four L; obtain ⟨c0, c1, c2, c3⟩ := lies_four K.2; obtain ⟨cf0, cf1, cf2, cf3⟩ := lies_ice K.2)
                | (go_at_call 18; refine (HT.out _).mono ?_; rintro e wt ⟨rfl, hb⟩; have K := k1_next K hb; obtain ⟨c0, c1, c2, c3⟩ := lies_four K.2; obtain ⟨cf0, cf1, cf2, cf3⟩ := lies_ice K.2; have L := lies_next L hb; obtain ⟨l0, l1, l2, l3⟩ := lies_four L))
        refine bodyPost_ret (v := .tuple #[.agg (P4 q.1 q.2.1 q.2.2.1 q.2.2.2), .int .i64 0]) (by simp [results, Tryz.results11, go_sem, c0, c1, c2, c3]) rfl ?_
        exact rp_yes HI.out (below_set4 K.1 (by omega))
      · subst hc
        have HN := Lib.hid hn
        have HT := Lib.hid fun w => l04Text_any q.1 q.2.1 q.2.2.1 q.2.2.2 w hp
        have ht' := str_ne ht
        clear hp hn
        go_wp2_with (first
                | (go_at_call 28; refine (D0.out _).mono ?_; rintro e wn ⟨rfl, hb⟩; have K := k1_next K hb; have C := c3_next ⟨hg, q0, q1, q2⟩ hb; obtain ⟨c0, c1, c2, c3⟩ := lies_four K.2; obtain ⟨cf0, cf1, cf2, cf3⟩ := lies_ice K.2; obtain ⟨hg, q0, q1, q2⟩ := C)
                | (go_at_call 29; refine (D1.out _).mono ?_; rintro e wm ⟨rfl, hb⟩; have K := k1_next K hb; have C := c3_next ⟨hg, q0, q1, q2⟩ hb; obtain ⟨c0, c1, c2, c3⟩ := lies_four K.2; obtain ⟨cf0, cf1, cf2, cf3⟩ := lies_ice K.2; obtain ⟨hg, q0, q1, q2⟩ := C; have K := k1_next K (below_al wm (.cells #[] 2)); have C := c3_next ⟨hg, q0, q1, q2⟩ (below_al wm (.cells #[] 2)); have hrow := intRow_made wm; obtain ⟨c0, c1, c2, c3⟩ := lies_four K.2; obtain ⟨cf0, cf1, cf2, cf3⟩ := lies_ice K.2; obtain ⟨hg, q0, q1, q2⟩ := C)
                | (go_at_call 27; refine (D2.out _).mono ?_; rintro e wk ⟨v2, rfl, r2, hb⟩; obtain ⟨g2, cp2, rfl, hg2, hgw2⟩ := strRow_some r2 hpos; have K := k1_next K hb; have C := c3_next ⟨hg, q0, q1, q2⟩ hb; obtain ⟨c0, c1, c2, c3⟩ := lies_four K.2; obtain ⟨cf0, cf1, cf2, cf3⟩ := lies_ice K.2; obtain ⟨hg, q0, q1, q2⟩ := C)
                | (go_at_call 30; refine (D3.out _ _ _ _ hgw2 r2).mono ?_; rintro e wj ⟨v3, rfl, hrow, hb⟩; have K := k1_next K hb; have C := c3_next ⟨hg, q0, q1, q2⟩ hb; obtain ⟨c0, c1, c2, c3⟩ := lies_four K.2; obtain ⟨cf0, cf1, cf2, cf3⟩ := lies_ice K.2; obtain ⟨hg, q0, q1, q2⟩ := C)
                | (go_at_call 31; refine (HF.out _ _ _ hrow).mono ?_; rintro e wf ⟨rfl, hb⟩; have K := k1_next K hb; obtain ⟨c0, c1, c2, c3⟩ := lies_four K.2; obtain ⟨cf0, cf1, cf2, cf3⟩ := lies_ice K.2; have K := k1_next K (below_al wf (.cells (P4 q.1 q.2.1 q.2.2.1 q.2.2.2) 25)); have L := lies_new wf (P4 q.1 q.2.1 q.2.2.1 q.2.2.2) 25; obtain ⟨l0, l1, l2, l3⟩ := lies_four L; obtain ⟨c0, c1, c2, c3⟩ := lies_four K.2; obtain ⟨cf0, cf1, cf2, cf3⟩ := lies_ice K.2)
                | (go_at_call 18; refine (HT.out _).mono ?_; rintro e wt ⟨rfl, hb⟩; have K := k1_next K hb; obtain ⟨c0, c1, c2, c3⟩ := lies_four K.2; obtain ⟨cf0, cf1, cf2, cf3⟩ := lies_ice K.2; have L := lies_next L hb; obtain ⟨l0, l1, l2, l3⟩ := lies_four L))
        refine bodyPost_ret (v := .tuple #[.agg (P4 0 0 0 0), .int .i64 6]) (by simp [results, Tryz.results11, go_sem, c0, c1, c2, c3]) rfl ?_
        exact rp_no HN.out (below_set4 K.1 (by omega))
  · have HN : Hid (¬ ∃ q, IsText s q) := by
      show ¬ ∃ q, IsText s q
      rintro ⟨q, h⟩
      exact h3 (HR.out q h).1
    have hne : (((splitL s 58).length : Int) == 3) = false := by simp; omega
    clear h3 HR
    go_wp2
    refine bodyPost_ret (v := .tuple #[.agg (P4 0 0 0 0), .int .i64 6]) (by simp [results, Tryz.results11, go_sem, c0, c1, c2, c3]) rfl ?_
    exact rp_no HN.out (below_set4 K.1 (by omega))
end Go.Proofs.YtejgcamogjgdkaaGreatDoor
namespace Go.Proofs.YtejgcamogjgdkaaGreatDoor
open Go.RowKit
set_option linter.unusedVariables false
set_option linter.unusedSimpArgs false
def cutA (s : ByteArray) : ByteArray := bsOf (Lib.cut s.data.toList [58]).1
def cutB (s : ByteArray) : ByteArray := bsOf (Lib.cut s.data.toList [58]).2.1
def cutF (s : ByteArray) : Bool := (Lib.cut s.data.toList [58]).2.2
theorem cut_sizes (s : ByteArray) : (cutA s).size ≤ s.size ∧ (cutB s).size ≤ s.size := by
  have e : s.size = s.data.toList.length := by rw [Array.length_toList]; rfl
  unfold cutA cutB
  rw [bs_size, bs_size, e]
  unfold Lib.cut
  split
  · exact ⟨by rw [List.length_take]; omega, by rw [List.length_drop]; omega⟩
  · exact ⟨Nat.le_refl _, Nat.zero_le _⟩
theorem cut_any (s : ByteArray) (w : World) (hs : s.size ≤ 2000000) (he : Env w) :
    Calls Tryz.prog 23 #[.string s, .string ⟨#[58]⟩] w fun e w' => e = .returned (.tuple #[.string (cutA s), .string (cutB s), .bool (cutF s)]) ∧ Below w.heap.size w w' := by
  obtain ⟨_, _, m, h3⟩ := he
  exact (Tryz.strings_Cut s ⟨#[58]⟩ m w (by omega) h3).mono fun e w' ⟨he, n, hw⟩ => ⟨he, hw ▸ below_drewN (Below.refl _ _) n⟩
theorem impl_reads {s : ByteArray} {q : Q4} (h : IsText s q) : pB (cutA s) = some q.1 ∧ pB (cutA (cutB s)) = some q.2.1 ∧ ∃ l, RdD (cutB (cutB s)) l ∧ fromC q.1 q.2.1 l = 0 ∧ fromQ q.1 q.2.1 l = q := by
  obtain ⟨h1, h2, h3, h4, h5⟩ := text_reads h
  have e : (cutB s).data.toList = (Lib.cut s.data.toList [58]).2.1 := by simp [cutB, bsOf]
  refine ⟨by simpa [pB, cutA, bsOf] using h1, ?_, _, ?_, h4, h5⟩
  · unfold pB cutA
    rw [e]
    simpa [bsOf] using h2
  · unfold cutB at e ⊢
    rw [e]
    exact h3
theorem readDigits_dash (w : World) : Calls Tryz.prog 25 #[.string ⟨#[45]⟩] w fun e w' => e = .returned (.tuple #[.slice none 0 0, .bool true]) ∧ Below w.heap.size w w' := by
  have h45 : ((⟨#[45]⟩ : ByteArray).toList == [45]) = true := by rw [ByteArray.toList_eq]; decide
  go_enter Tryz.func25, Tryz.ntmps25
  go_wp2
  refine bodyPost_ret (v := .tuple #[.slice none 0 0, .bool true]) (by simp [results, Tryz.results25, go_sem]) rfl ?_
  exact ⟨rfl, below_a2 w _ _⟩
theorem readDigits_any (s : ByteArray) (w : World) (hs : s.size ≤ 1090000) (he : Env w) : Calls Tryz.prog 25 #[.string s] w (RdPost s w) := by
  by_cases h : s = ⟨#[45]⟩
  · subst h
    exact (readDigits_dash w).mono fun e w' ⟨h1, h2⟩ => ⟨h2, .inl ⟨_, [], h1, intRow_nil _ _, .inl ⟨rfl, rfl⟩, by simp⟩⟩
  · exact readDigits_more s w hs h he
set_option maxRecDepth 20000 in
set_option maxHeartbeats 800000 in
theorem implReadPadic_any (s : ByteArray) (w : World) (hs : s.size ≤ 1090000) (he : Env w) (ht : Tab w) :
    Calls Tryz.prog 10 #[.string s] w (ReadPost s w) := by
  have HR := Lib.hid fun q (h : IsText s q) => impl_reads h
  obtain ⟨s1, s2⟩ := cut_sizes s
  obtain ⟨s3, s4⟩ := cut_sizes (cutB s)
  have CA := Lib.hid fun w he => cut_any s w (by omega) he
  have CB := Lib.hid fun w he => cut_any (cutB s) w (by omega) he
  have HE := Lib.hid he
  have HT := Lib.hid ht
  have sa : (cutA s).size ≤ 2000000 := by omega
  have sb : (cutA (cutB s)).size ≤ 2000000 := by omega
  have sd : (cutB (cutB s)).size ≤ 1090000 := by omega
  have K := k1_new w (P4 0 0 0 0) 25
  have E := env_below he K.1 (Nat.le_refl _)
  obtain ⟨c0, c1, c2, c3⟩ := lies_four K.2
  obtain ⟨cf0, cf1, cf2, cf3⟩ := lies_ice K.2
  clear he ht s1 s2 s3 s4
  generalize cutF (cutB s) = fb at *
  generalize cutF s = fa at *
  generalize cutA (cutB s) = b at *
  generalize cutB (cutB s) = d at *
  generalize cutB s = r at *
  generalize cutA s = a at *
  cases hpa : pB a with
  | none =>
    have HN : Hid (¬ ∃ q, IsText s q) := by
      show ¬ ∃ q, IsText s q
      rintro ⟨q, h⟩
      have := (HR.out q h).1
      rw [hpa] at this; cases this
    have PA := Lib.hid fun w he => parse_none w sa he hpa
    clear HR hpa sb sd HT
    go_enter Tryz.func10, Tryz.ntmps10
    go_wp2_with (first
      | (go_at_call 23; with_reducible refine (CA.out _ E).mono ?_; rintro e wn ⟨rfl, hb⟩; have K := k1_next K hb; have E := env_below HE.out K.1 (Nat.le_refl _); obtain ⟨c0, c1, c2, c3⟩ := lies_four K.2; obtain ⟨cf0, cf1, cf2, cf3⟩ := lies_ice K.2)
      | (go_at_call 23; with_reducible refine (CB.out _ E).mono ?_; rintro e wn ⟨rfl, hb⟩; have K := k1_next K hb; have E := env_below HE.out K.1 (Nat.le_refl _); obtain ⟨c0, c1, c2, c3⟩ := lies_four K.2; obtain ⟨cf0, cf1, cf2, cf3⟩ := lies_ice K.2)
      | (go_at_call 24; with_reducible refine (PA.out _ E).mono ?_; rintro e wn ⟨v0, t0, p0, rfl, hb⟩; have K := k1_next K hb; have E := env_below HE.out K.1 (Nat.le_refl _); obtain ⟨c0, c1, c2, c3⟩ := lies_four K.2; obtain ⟨cf0, cf1, cf2, cf3⟩ := lies_ice K.2))
    refine bodyPost_ret (v := .tuple #[.agg (P4 0 0 0 0), .int .i64 6]) (by simp [results, Tryz.results10, go_sem, c0, c1, c2, c3]) rfl ?_
    exact rp_no HN.out (below_set4 K.1 (by omega))
  | some P =>
    have PA := Lib.hid fun w he => parse_some w sa he hpa
    cases hpb : pB b with
    | none =>
      have HN : Hid (¬ ∃ q, IsText s q) := by
        show ¬ ∃ q, IsText s q
        rintro ⟨q, h⟩
        have := (HR.out q h).2.1
        rw [hpb] at this; cases this
      have PB := Lib.hid fun w he => parse_none w sb he hpb
      clear HR hpa hpb sa sd HT
      go_enter Tryz.func10, Tryz.ntmps10
      go_wp2_with (first
      | (go_at_call 23; with_reducible refine (CA.out _ E).mono ?_; rintro e wn ⟨rfl, hb⟩; have K := k1_next K hb; have E := env_below HE.out K.1 (Nat.le_refl _); obtain ⟨c0, c1, c2, c3⟩ := lies_four K.2; obtain ⟨cf0, cf1, cf2, cf3⟩ := lies_ice K.2)
      | (go_at_call 23; with_reducible refine (CB.out _ E).mono ?_; rintro e wn ⟨rfl, hb⟩; have K := k1_next K hb; have E := env_below HE.out K.1 (Nat.le_refl _); obtain ⟨c0, c1, c2, c3⟩ := lies_four K.2; obtain ⟨cf0, cf1, cf2, cf3⟩ := lies_ice K.2)
      | (go_at_call 24; with_reducible refine (PA.out _ E).mono ?_; rintro e wn ⟨rfl, hb⟩; have K := k1_next K hb; have E := env_below HE.out K.1 (Nat.le_refl _); obtain ⟨c0, c1, c2, c3⟩ := lies_four K.2; obtain ⟨cf0, cf1, cf2, cf3⟩ := lies_ice K.2)
      | (go_at_call 24; with_reducible refine (PB.out _ E).mono ?_; rintro e wn ⟨v0, t0, p0, rfl, hb⟩; have K := k1_next K hb; have E := env_below HE.out K.1 (Nat.le_refl _); obtain ⟨c0, c1, c2, c3⟩ := lies_four K.2; obtain ⟨cf0, cf1, cf2, cf3⟩ := lies_ice K.2))
      refine bodyPost_ret (v := .tuple #[.agg (P4 0 0 0 0), .int .i64 6]) (by simp [results, Tryz.results10, go_sem, c0, c1, c2, c3]) rfl ?_
      exact rp_no HN.out (below_set4 K.1 (by omega))
    | some V =>
      have PB := Lib.hid fun w he => parse_some w sb he hpb
      have RD := Lib.hid fun w he => readDigits_any d w sd he
      have HR2 : Hid (∀ D, RdD d D → ∀ q, IsText s q → fromC P V D = 0 ∧ fromQ P V D = q) := by
        show ∀ D, RdD d D → ∀ q, IsText s q → fromC P V D = 0 ∧ fromQ P V D = q
        intro D hD q h
        obtain ⟨h1, h2, l, h3, h4, h5⟩ := HR.out q h
        rw [hpa] at h1
        rw [hpb] at h2
        rw [rdD_inj hD h3, Option.some.inj h1, Option.some.inj h2]
        exact ⟨h4, h5⟩
      have HN2 : Hid ((¬ ∃ l, RdD d l) → ¬ ∃ q, IsText s q) := by
        show (¬ ∃ l, RdD d l) → ¬ ∃ q, IsText s q
        rintro hno ⟨q, h⟩
        obtain ⟨_, _, l, h3, _⟩ := HR.out q h
        exact hno ⟨l, h3⟩
      have SD := Lib.hid sd
      clear HR hpa hpb sa sb sd
      go_enter Tryz.func10, Tryz.ntmps10
      go_wp2_with (first
      | (go_at_call 23; with_reducible refine (CA.out _ E).mono ?_; rintro e wn ⟨rfl, hb⟩; have K := k1_next K hb; have E := env_below HE.out K.1 (Nat.le_refl _); obtain ⟨c0, c1, c2, c3⟩ := lies_four K.2; obtain ⟨cf0, cf1, cf2, cf3⟩ := lies_ice K.2)
      | (go_at_call 23; with_reducible refine (CB.out _ E).mono ?_; rintro e wn ⟨rfl, hb⟩; have K := k1_next K hb; have E := env_below HE.out K.1 (Nat.le_refl _); obtain ⟨c0, c1, c2, c3⟩ := lies_four K.2; obtain ⟨cf0, cf1, cf2, cf3⟩ := lies_ice K.2)
      | (go_at_call 24; with_reducible refine (PA.out _ E).mono ?_; rintro e wn ⟨rfl, hb⟩; have K := k1_next K hb; have E := env_below HE.out K.1 (Nat.le_refl _); obtain ⟨c0, c1, c2, c3⟩ := lies_four K.2; obtain ⟨cf0, cf1, cf2, cf3⟩ := lies_ice K.2)
      | (go_at_call 24; with_reducible refine (PB.out _ E).mono ?_; rintro e wn ⟨rfl, hb⟩; have K := k1_next K hb; have E := env_below HE.out K.1 (Nat.le_refl _); obtain ⟨c0, c1, c2, c3⟩ := lies_four K.2; obtain ⟨cf0, cf1, cf2, cf3⟩ := lies_ice K.2))
      refine (RD.out _ E).mono ?_
      rintro e wr ⟨hb, ⟨vl, D, rfl, hrow, hrd, hdl⟩ | ⟨rfl, hno⟩⟩
      · have K := k1_next K hb; have E := env_below HE.out K.1 (Nat.le_refl _); obtain ⟨c0, c1, c2, c3⟩ := lies_four K.2; obtain ⟨cf0, cf1, cf2, cf3⟩ := lies_ice K.2
        have hend := read_end (s := s) (P := P) (V := V) (D := D) rfl rfl (HR2.out D hrd)
        have HF := Lib.hid fun base w v (h : IntRow base w v D) => implFrom_any P V h (by have := SD.out; omega)
        obtain ⟨q, hq⟩ : ∃ q, fromQ P V D = q := ⟨_, rfl⟩
        obtain ⟨cc, hcc⟩ : ∃ c, fromC P V D = c := ⟨_, rfl⟩
        rw [hq, hcc] at HF hend
        clear hq hcc HR2 HN2 hrd hdl RD CA CB PA PB
        rcases hend with ⟨hc, hn⟩ | ⟨hc, hp, ⟨ht, hi⟩ | ⟨ht, hn⟩⟩
        · have HN := Lib.hid hn
          have hcn : (cc != 0) = true := by simpa using hc
          clear hn hc
          go_wp2_with (first
      | (go_at_call 26; refine (HF.out _ _ _ hrow).mono ?_; rintro e wf ⟨rfl, hb⟩; have K := k1_next K hb; obtain ⟨c0, c1, c2, c3⟩ := lies_four K.2; obtain ⟨cf0, cf1, cf2, cf3⟩ := lies_ice K.2; have K := k1_next K (below_al wf (.cells (P4 q.1 q.2.1 q.2.2.1 q.2.2.2) 25)); have T := tab_below HT.out K.1 (Nat.le_refl _); have L := lies_new wf (P4 q.1 q.2.1 q.2.2.1 q.2.2.2) 25; obtain ⟨l0, l1, l2, l3⟩ := lies_four L; obtain ⟨c0, c1, c2, c3⟩ := lies_four K.2; obtain ⟨cf0, cf1, cf2, cf3⟩ := lies_ice K.2))
          refine bodyPost_ret (v := .tuple #[.agg (P4 0 0 0 0), .int .i64 6]) (by simp [results, Tryz.results10, go_sem, c0, c1, c2, c3]) rfl ?_
          exact rp_no HN.out (below_set4 K.1 (by omega))
        · subst hc
          have HI := Lib.hid hi
          have HX := Lib.hid fun w h => text_any q.1 q.2.1 q.2.2.1 q.2.2.2 w hp h
          have ht' := str_eq' ht
          clear hp hi
          go_wp2_with (first
      | (go_at_call 26; refine (HF.out _ _ _ hrow).mono ?_; rintro e wf ⟨rfl, hb⟩; have K := k1_next K hb; obtain ⟨c0, c1, c2, c3⟩ := lies_four K.2; obtain ⟨cf0, cf1, cf2, cf3⟩ := lies_ice K.2; have K := k1_next K (below_al wf (.cells (P4 q.1 q.2.1 q.2.2.1 q.2.2.2) 25)); have T := tab_below HT.out K.1 (Nat.le_refl _); have L := lies_new wf (P4 q.1 q.2.1 q.2.2.1 q.2.2.2) 25; obtain ⟨l0, l1, l2, l3⟩ := lies_four L; obtain ⟨c0, c1, c2, c3⟩ := lies_four K.2; obtain ⟨cf0, cf1, cf2, cf3⟩ := lies_ice K.2)
      | (go_at_call 16; refine (HX.out _ T).mono ?_; rintro e wt ⟨rfl, hb⟩; have K := k1_next K hb; obtain ⟨c0, c1, c2, c3⟩ := lies_four K.2; obtain ⟨cf0, cf1, cf2, cf3⟩ := lies_ice K.2; have L := lies_next L hb; obtain ⟨l0, l1, l2, l3⟩ := lies_four L))
          refine bodyPost_ret (v := .tuple #[.agg (P4 q.1 q.2.1 q.2.2.1 q.2.2.2), .int .i64 0]) (by simp [results, Tryz.results10, go_sem, c0, c1, c2, c3]) rfl ?_
          exact rp_yes HI.out (below_set4 K.1 (by omega))
        · subst hc
          have HN := Lib.hid hn
          have HX := Lib.hid fun w h => text_any q.1 q.2.1 q.2.2.1 q.2.2.2 w hp h
          have ht' := str_ne ht
          clear hp hn
          go_wp2_with (first
      | (go_at_call 26; refine (HF.out _ _ _ hrow).mono ?_; rintro e wf ⟨rfl, hb⟩; have K := k1_next K hb; obtain ⟨c0, c1, c2, c3⟩ := lies_four K.2; obtain ⟨cf0, cf1, cf2, cf3⟩ := lies_ice K.2; have K := k1_next K (below_al wf (.cells (P4 q.1 q.2.1 q.2.2.1 q.2.2.2) 25)); have T := tab_below HT.out K.1 (Nat.le_refl _); have L := lies_new wf (P4 q.1 q.2.1 q.2.2.1 q.2.2.2) 25; obtain ⟨l0, l1, l2, l3⟩ := lies_four L; obtain ⟨c0, c1, c2, c3⟩ := lies_four K.2; obtain ⟨cf0, cf1, cf2, cf3⟩ := lies_ice K.2)
      | (go_at_call 16; refine (HX.out _ T).mono ?_; rintro e wt ⟨rfl, hb⟩; have K := k1_next K hb; obtain ⟨c0, c1, c2, c3⟩ := lies_four K.2; obtain ⟨cf0, cf1, cf2, cf3⟩ := lies_ice K.2; have L := lies_next L hb; obtain ⟨l0, l1, l2, l3⟩ := lies_four L))
          refine bodyPost_ret (v := .tuple #[.agg (P4 0 0 0 0), .int .i64 6]) (by simp [results, Tryz.results10, go_sem, c0, c1, c2, c3]) rfl ?_
          exact rp_no HN.out (below_set4 K.1 (by omega))
      · have K := k1_next K hb; have E := env_below HE.out K.1 (Nat.le_refl _); obtain ⟨c0, c1, c2, c3⟩ := lies_four K.2; obtain ⟨cf0, cf1, cf2, cf3⟩ := lies_ice K.2
        have HN := Lib.hid (HN2.out hno)
        clear HR2 HN2 hno
        go_wp2
        refine bodyPost_ret (v := .tuple #[.agg (P4 0 0 0 0), .int .i64 6]) (by simp [results, Tryz.results10, go_sem, c0, c1, c2, c3]) rfl ?_
        exact rp_no HN.out (below_set4 K.1 (by omega))
end Go.Proofs.YtejgcamogjgdkaaGreatDoor
namespace Go.Proofs.YtejgcamogjgdkaaGreatDoor
open Go.RowKit
set_option linter.unusedVariables false
set_option linter.unusedSimpArgs false
theorem eqPadicT_any (p v u n : Int) (w : World) :
    Calls Tryz.prog 12 #[.agg (P4 p v u n), .agg (P4 p v u n)] w fun e w' => e = .returned (.bool true) ∧ Below w.heap.size w w' := by
  go_enter Tryz.func12, Tryz.ntmps12
  go_wp2
  go_ret
  exact ⟨rfl, below_a2 w _ _⟩
set_option maxRecDepth 20000 in
set_option maxHeartbeats 800000 in
theorem rpad_core (s : ByteArray) (w : World) (hs : s.size ≤ 1048576) (he : Env w) (ht : Tab w) :
    Calls Tryz.prog 4 #[.string s] w fun e w' => e = .returned (.bool true) ∧ Below w.heap.size w w' := by
  have HSpec := Lib.hid (fun w => specReadPadic_any s w (by omega))
  have HImpl := Lib.hid (fun w he ht => implReadPadic_any s w (by omega) he ht)
  have HE := Lib.hid he
  have HT := Lib.hid ht
  clear he ht
  go_enter Tryz.func4, Tryz.ntmps4
  go_wp2_with fail
  refine (HSpec.out _).mono ?_
  rintro e w1 ⟨⟨p, v, u, n⟩, c, rfl, b1, h1⟩
  have B1 := b1.trans ((below_al w1 (.cells (P4 p v u n) 25)).mono b1.size)
  have L1 := lies_new w1 (P4 p v u n) 25
  have E := env_below HE.out B1 (Nat.le_refl _)
  have T := tab_below HT.out B1 (Nat.le_refl _)
  clear b1
  go_wp2_with fail
  refine (HImpl.out _ E T).mono ?_
  rintro e w2 ⟨q, c', rfl, b2, h2⟩
  obtain ⟨rfl, rfl⟩ := read_agree h2 h1
  have L2 := lies_next L1 b2
  have B2 := B1.trans (b2.mono B1.size)
  have B3 := B2.trans ((below_al w2 (.cells (P4 p v u n) 25)).mono B2.size)
  have L3 := lies_alloc L2 (.cells (P4 p v u n) 25)
  have L4 := lies_new w2 (P4 p v u n) 25
  obtain ⟨g0, g1, g2, g3⟩ := lies_four L3
  obtain ⟨k0, k1, k2, k3⟩ := lies_four L4
  clear L1 L2 b2 h1 h2 E T HSpec HImpl HE HT B1 B2
  go_wp2_with (go_at_call 12; refine (eqPadicT_any _ _ _ _ _).mono ?_; rintro e we ⟨rfl, hb⟩)
  go_ret
  exact ⟨rfl, B3.trans (hb.mono B3.size)⟩
theorem rpad_big (s : ByteArray) (w : World) (hs : 1048576 < s.size) :
    Calls Tryz.prog 4 #[.string s] w fun e w' => e = .returned (.bool true) ∧ Below w.heap.size w w' := by
  go_enter Tryz.func4, Tryz.ntmps4
  go_wp2
  go_ret
  exact ⟨rfl, Below.refl _ _⟩
theorem exactRPad_walk (s : ByteArray) (w : World) (he : Env w) (ht : Tab w) :
    Calls Tryz.prog 4 #[.string s] w fun e w' => e = .returned (.bool true) ∧ Below w.heap.size w w' :=
  (Nat.lt_or_ge 1048576 s.size).elim (fun h => rpad_big s w h) (fun h => rpad_core s w h he ht)
end Go.Proofs.YtejgcamogjgdkaaGreatDoor
namespace Go.Proofs.YtejgcamogjgdkaaGreatDoor
open Go.ChangeShapes Go.WideShapes Go.ChangeAt Go.RowKit
set_option linter.unusedVariables false
theorem gTabType : (Tryz.prog.globals[3]?).map (·.type) = some 129 := by kernel_rfl
theorem cellsTab : Tryz.prog.cellsOf 129 = 20 := by kernel_rfl
theorem cellsU : Tryz.prog.cellsOf 98 = 1 := by kernel_rfl
theorem gRange : Tryz.prog.globalNamed "strconv.ErrRange" = some 2 := by kernel_rfl
theorem gRangeType : (Tryz.prog.globals[2]?).map (·.type) = some 48 := by kernel_rfl
theorem gSyntax : Tryz.prog.globalNamed "strconv.ErrSyntax" = some 1 := by kernel_rfl
theorem gSyntaxType : (Tryz.prog.globals[1]?).map (·.type) = some 48 := by kernel_rfl
theorem cellsErr : Tryz.prog.cellsOf 141 = 1 := by kernel_rfl
theorem cellsStr : Tryz.prog.cellsOf 9 = 1 := by kernel_rfl
theorem starErr : "*" ++ "errors.errorString" = "*errors.errorString" := by decide
theorem rowErr (u : TypeId) (h : Tryz.prog.typeName? 3 u = some "*errors.errorString") : u = 139 :=
  typeName_ptr_named (nm := "errors.errorString") (by rw [starErr]; kernel_rfl) (by kernel_rfl) (by decide) u (by rw [starErr]; exact h)
theorem tab_of_laid {W : World} (h : laidMetH Tryz.prog Rows.fnExactReadPadicRow.laid W) : Tab W := by
  have h0 : laidMet Tryz.prog Rows.fnExactReadPadicRow.laid W := h
  exact Lib.tabIs_of_head (rest := _) gTab gTabType Tryz.underlying129 Tryz.underlying98 cellsU cellsTab h0.tail.tail
theorem env_of_laid {W : World} (h : laidMetH Tryz.prog Rows.fnExactReadPadicRow.laid W) (hS : W.ShapedOpen Tryz.prog) : Env W := by
  have h0 : laidMet Tryz.prog Rows.fnExactReadPadicRow.laid W := h
  obtain ⟨a1, s1, hv1, _⟩ := laid_sentinel h0.tail.tail.tail.tail gRange gRangeType Tryz.underlying48 rowErr Tryz.underlying139 Tryz.underlying141 rfl rfl Tryz.underlying9 cellsErr cellsStr
  obtain ⟨a2, s2, hv2, _⟩ := laid_sentinel h0.tail.tail.tail.tail.tail gSyntax gSyntaxType Tryz.underlying48 rowErr Tryz.underlying139 Tryz.underlying141 rfl rfl Tryz.underlying9 cellsErr cellsStr
  have c1 : W.cell? ⟨2, 0, none⟩ = some (.iface 139 (.pointer (some a1))) := by simpa using World.var?_cell gRange hv1 0
  have c2 : W.cell? ⟨1, 0, none⟩ = some (.iface 139 (.pointer (some a2))) := by simpa using World.var?_cell gSyntax hv2 0
  exact ⟨⟨_, c2, .inr ⟨_, _, rfl⟩⟩, ⟨_, c1, .inr ⟨_, _, rfl⟩⟩, cell_of_shapedOpen_int (zero := #[.int .i64 0]) (t := 3) hS (of_decide_eq_true (by kernel_rfl)) (by kernel_rfl) rfl (by kernel_rfl) (by kernel_rfl) Tryz.underlying3⟩
/-- block g holding the cells cs -/
def layAt (g : Nat) (cs : Array Value) (h : Array Obj) : Array Obj := h.modify g fun o => match o with
  | .cells _ t frozen => .cells cs t frozen
  | o => o
def layAll (l : List (Nat × Array Value)) (h : Array Obj) : Array Obj := l.foldl (fun h x => layAt x.1 x.2 h) h
def u8s (l : List Nat) : Array Value := (l.map fun n : Nat => Value.int .u8 (n : Int)).toArray
noncomputable def lowBlock : Nat := (World.holding Tryz.prog default ⟨#[], #[], []⟩).heap.size
/-- a world for the witness: the settled one, the listed variables holding what their initialisers lay -/
noncomputable def laidWorld (os : Os) : World :=
  let w0 := World.holding Tryz.prog os ⟨#[.cells #[.string ⟨#[118, 97, 108, 117, 101, 32, 111, 117, 116, 32, 111, 102, 32, 114, 97, 110, 103, 101]⟩] 141, .cells #[.string ⟨#[105, 110, 118, 97, 108, 105, 100, 32, 115, 121, 110, 116, 97, 120]⟩] 141], #[], []⟩
  { w0 with heap := layAll [
    (2, #[.iface 139 (.pointer (some ⟨lowBlock, 0, none⟩))]),
    (1, #[.iface 139 (.pointer (some ⟨lowBlock + 1, 0, none⟩))]),
    (4, (u8s Go.Pinned.utf8FirstZ)),
    (5, (u8s [128, 191, 160, 191, 128, 159, 144, 191, 128, 143, 0, 0, 0, 0, 0, 0, 0, 0, 0, 0, 0, 0, 0, 0, 0, 0, 0, 0, 0, 0, 0, 0])),
    (7, (u8s [0, 1, 56, 2, 57, 49, 28, 3, 61, 58, 42, 50, 38, 29, 17, 4, 62, 47, 59, 36, 45, 43, 51, 22, 53, 39, 33, 30, 24, 18, 12, 5, 63, 55, 48, 27, 60, 41, 37, 16, 46, 35, 44, 21, 52, 32, 23, 11, 54, 26, 40, 15, 34, 20, 31, 10, 25, 14, 19, 9, 13, 8, 7, 6])),
    (6, (u8s [0, 1, 28, 2, 29, 14, 24, 3, 30, 22, 20, 15, 25, 17, 4, 8, 31, 27, 13, 23, 21, 19, 16, 7, 26, 12, 18, 6, 11, 5, 10, 9])),
    (3, #[.int .u64 1, .int .u64 10, .int .u64 100, .int .u64 1000, .int .u64 10000, .int .u64 100000, .int .u64 1000000, .int .u64 10000000, .int .u64 100000000, .int .u64 1000000000, .int .u64 10000000000, .int .u64 100000000000, .int .u64 1000000000000, .int .u64 10000000000000, .int .u64 100000000000000, .int .u64 1000000000000000, .int .u64 10000000000000000, .int .u64 100000000000000000, .int .u64 1000000000000000000, .int .u64 10000000000000000000])] w0.heap }
end Go.Proofs.YtejgcamogjgdkaaGreatDoor
namespace Go.Proofs.YtejgcamogjgdkaaGreatDoor
open Go.RowKit
set_option linter.unusedVariables false
theorem next_small (n : Int) (v : Value) (w : World) (h : n ≤ 1) :
    Calls Tryz.prog 21 #[v, .int .i64 n] w fun e w' => e = .returned (.int .i64 0) ∧ w = w' := by
  go_enter Tryz.func21, Tryz.ntmps21
  go_wp2
  go_ret
  exact ⟨rfl, rfl⟩
theorem nextPost_mk {n : Int} {o : Option Addr} {len cap p : Nat} {w w' : World} {x : Int} (h : 2 ≤ n) (hx : 0 ≤ x) (hs : Src w' o len cap p) (hg : w.grownBy w' (some p)) (hz : w'.heap.size = w.heap.size) {v : Value} (hv : v = .int .i64 (x % n)) :
    NextPost n o len cap p w (.returned v) w' :=
  ⟨x % n, by rw [hv], Int.emod_nonneg _ (by omega), .inl (Int.emod_lt_of_pos _ (by omega)), hs, hg, hz⟩
theorem src_end {w w1 w2 : World} {o : Option Addr} {len cap p k : Nat} {a : Addr} {v : Value} (e : w1.setCell a v = w2) (S : Src w2 o len cap p) (G : w.grownBy w2 (some p) ∧ w2.heap.size = w.heap.size) :
    Src ((w1.drewN k).setCell a v) o len cap p ∧ w.grownBy ((w1.drewN k).setCell a v) (some p) ∧ ((w1.drewN k).setCell a v).heap.size = w.heap.size := by
  subst e
  exact ⟨src_drewN S k, ⟨G.1.os, G.1.tape, G.1.output, G.1.size, G.1.block⟩, G.2⟩
theorem src_end2 {w w2 : World} {o : Option Addr} {len cap p k : Nat} (S : Src w2 o len cap p ∧ w.grownBy w2 (some p) ∧ w2.heap.size = w.heap.size) :
    Src (w2.drewN k) o len cap p ∧ w.grownBy (w2.drewN k) (some p) ∧ (w2.drewN k).heap.size = w.heap.size :=
  ⟨src_drewN S.1 k, ⟨S.2.1.os, S.2.1.tape, S.2.1.output, S.2.1.size, S.2.1.block⟩, S.2.2⟩
set_option maxHeartbeats 800000 in
theorem next_big (n : Int) (o : Option Addr) (len cap p t : Nat) (s : Int) (w : World) (h : 2 ≤ n) (hn : n ≤ 4611686018427387904) (hs : SrcAt w o len cap p t s) :
    Calls Tryz.prog 21 #[.pointer (some ⟨p, 0, none⟩), .int .i64 n] w (NextPost n o len cap p w) := by
  have s0 := hs.s0
  have s1 := hs.s1
  have ht := hs.ht
  have hl := hs.hl
  obtain ⟨q, hq⟩ : ∃ q, q = (s * 48271 + 29) % 2147483647 := ⟨_, rfl⟩
  have q0 : 0 ≤ q := by omega
  have q1 : q < 2147483647 := by omega
  obtain ⟨w1, hw1⟩ : ∃ w1, w1 = w.setCell ⟨p, 2, none⟩ (.int .i64 q) := ⟨_, rfl⟩
  have S1 : Hid (SrcAt w1 o len cap p t q) := by
    show SrcAt w1 o len cap p t q
    rw [hw1]; exact srcAt_seed hs q0 q1
  have G1 : Hid (w.grownBy w1 (some p) ∧ w1.heap.size = w.heap.size) := by
    show w.grownBy w1 (some p) ∧ w1.heap.size = w.heap.size
    rw [hw1]; exact ⟨grownBy_setCellAt _ _ _ _, by simp [World.setCell]⟩
  have a2 := hs.c2
  have az := hs.fz 2
  have b0 := S1.out.c0
  have b1 := S1.out.c1
  have b2 := S1.out.c2
  have bz := S1.out.fz 1
  clear hs
  have hq' := hq.symm
  clear hq
  have hw' := hw1.symm
  clear hw1
  by_cases htl : t < len
  · obtain ⟨b, off, rfl, hbp, hc⟩ : ∃ b off, o = some ⟨b, off, none⟩ ∧ b < p ∧ ∀ i, i < len → ∃ z : Int, w1.cell? ⟨b, off + i, none⟩ = some (.int .u8 z) ∧ 0 ≤ z ∧ z ≤ 255 := by
      rcases S1.out.code with h0 | h0
      · omega
      · exact h0
    obtain ⟨z, hz, z0, z1⟩ := hc t htl
    clear hc
    obtain ⟨w2, hw2⟩ : ∃ w2, w2 = w1.setCell ⟨p, 1, none⟩ (.int .i64 ((t : Int) + 1)) := ⟨_, rfl⟩
    have S2 : Hid (SrcAt w2 (some ⟨b, off, none⟩) len cap p (t + 1) q) := by
      show SrcAt w2 (some ⟨b, off, none⟩) len cap p (t + 1) q
      rw [hw2, show ((t : Int) + 1) = ((t + 1 : Nat) : Int) by omega]; exact srcAt_at S1.out (by omega)
    have G2 : Hid (w.grownBy w2 (some p) ∧ w2.heap.size = w.heap.size) := by
      show w.grownBy w2 (some p) ∧ w2.heap.size = w.heap.size
      rw [hw2]; exact ⟨grownBy_tr G1.out.1 (grownBy_setCellAt _ _ _ _), by simp [World.setCell, G1.out.2]⟩
    have d0 := S2.out.c0
    have d1 : w2.cell? ⟨p, 1, none⟩ = some (.int .i64 ((t : Int) + 1)) := S2.out.c1
    have dz : w2.cell? ⟨b, off + t, none⟩ = some (.int .u8 z) := by rw [hw2, set_other (.inl (by omega))]; exact hz
    have hw2' := hw2.symm
    clear hw2
    have n1 : decide (n ≤ 1) = false := by simp; omega
    by_cases h256 : n ≤ 256
    · by_cases hpar : ((t : Int) + 1) % 2 = 0
      · have hp' : (((t : Int) + 1) % 2 == 0) = true := by simp [hpar]
        go_enter Tryz.func21, Tryz.ntmps21
        go_wp2
        go_quiet (fail)
        go_wp2
        go_quiet (fail)
        go_wp2
        go_quiet (fail)
        go_wp2
        go_ret
        have E := fun k c => src_end2 (k := c) (src_end (k := k) hw2' ⟨_, _, S2.out⟩ G2.out)
        exact nextPost_mk (x := z) h z0 (E _ _).1 (E _ _).2.1 (E _ _).2.2 rfl
      · have hp' : (((t : Int) + 1) % 2 == 0) = false := by simp [hpar]
        go_enter Tryz.func21, Tryz.ntmps21
        go_wp2
        go_quiet (fail)
        go_wp2
        go_quiet (fail)
        go_wp2
        go_ret
        have E := fun k => src_end (k := k) hw2' ⟨_, _, S2.out⟩ G2.out
        exact nextPost_mk (x := q / 31 + z) h (by omega) (E _).1 (E _).2.1 (E _).2.2 rfl
    · go_enter Tryz.func21, Tryz.ntmps21
      go_wp2
      go_quiet (fail)
      go_wp2
      go_quiet (fail)
      go_wp2
      go_ret
      have E := fun k => src_end (k := k) hw2' ⟨_, _, S2.out⟩ G2.out
      exact nextPost_mk (x := q / 31 + z) h (by omega) (E _).1 (E _).2.1 (E _).2.2 rfl
  · have n1 : decide (n ≤ 1) = false := by simp; omega
    go_enter Tryz.func21, Tryz.ntmps21
    go_wp2
    go_quiet (fail)
    go_wp2
    go_ret
    have E := fun k => src_end2 (k := k) ⟨⟨_, _, S1.out⟩, G1.out.1, G1.out.2⟩
    exact nextPost_mk (x := q / 31) h (by omega) (E _).1 (E _).2.1 (E _).2.2 rfl
end Go.Proofs.YtejgcamogjgdkaaGreatDoor
namespace Go.Proofs.YtejgcamogjgdkaaGreatDoor
open Go.RowKit
set_option linter.unusedVariables false
theorem next_any (n : Int) (o : Option Addr) (len cap p : Nat) (w : World) (hn : n ≤ 4611686018427387904) (hs : Src w o len cap p) :
    Calls Tryz.prog 21 #[.pointer (some ⟨p, 0, none⟩), .int .i64 n] w (NextPost n o len cap p w) := by
  by_cases h : n ≤ 1
  · exact (next_small n _ w h).mono fun e w' ⟨he, hw⟩ => ⟨0, he, Int.le_refl _, .inr rfl, hw ▸ hs, hw ▸ World.grownBy.refl _ _, hw ▸ rfl⟩
  · obtain ⟨t, s, hs⟩ := hs
    exact next_big n o len cap p t s w (by omega) hn hs
/-- one of the numbers of a list -/
def PickPost (l : List Int) (o : Option Addr) (len cap p : Nat) (w : World) (e : Ending) (w' : World) : Prop :=
  ∃ r : Int, e = .returned (.int .i64 r) ∧ r ∈ l ∧ Src w' o len cap p ∧ w.grownBy w' (some p) ∧ w'.heap.size = w.heap.size
theorem pick_any (l : List Int) (g c : Nat) (o : Option Addr) (len cap p : Nat) (w : World) (hs : Src w o len cap p) (hgp : g ≠ p) (h0 : 0 < l.length) (h1 : l.length ≤ 1000)
    (hc : ∀ k, k < l.length → w.cell? ⟨g, k, none⟩ = some (.int .i64 (l.getD k 0))) :
    Calls Tryz.prog 20 #[.pointer (some ⟨p, 0, none⟩), .slice (some ⟨g, 0, none⟩) l.length c] w (PickPost l o len cap p w) := by
  have HS := Lib.hid hs
  have HC := Lib.hid hc
  clear hs hc
  go_enter Tryz.func20, Tryz.ntmps20
  go_wp2_with fail
  refine (next_any _ _ _ _ _ _ (by omega) HS.out).mono ?_
  rintro e w1 ⟨r, rfl, hr0, hr1, hsr, hgr, hzr⟩
  have hr2 : r < (l.length : Int) := by omega
  have hc := HC.out r.toNat (by omega)
  rw [← World.grownBy.cell_far hgr ⟨g, r.toNat, none⟩ (World.block_lt_of_cell? w _ hc) (by simpa using hgp)] at hc
  obtain ⟨x, hx⟩ : ∃ x, l.getD r.toNat 0 = x := ⟨_, rfl⟩
  rw [hx] at hc
  have HX : Hid (x ∈ l) := by
    show x ∈ l
    have hlt : r.toNat < l.length := by omega
    rw [← hx, show l.getD r.toNat 0 = l[r.toNat] by simp [List.getD, hlt]]; exact List.getElem_mem _
  have HR := Lib.hid (And.intro hsr (And.intro hgr hzr))
  clear hx hr1 hsr hgr hzr
  go_wp2
  go_ret
  exact ⟨x, rfl, HX.out, HR.out⟩
/-- a value or nearly one -/
def DrawnPost (lo hi : Int) (o : Option Addr) (len cap p : Nat) (w : World) (e : Ending) (w' : World) : Prop :=
  ∃ r : Int, e = .returned (.int .i64 r) ∧ lo ≤ r ∧ r ≤ hi ∧ Src w' o len cap p ∧ w.grownBy w' (some p)
/-- a literal list of numbers, laid in a new block -/
theorem cells_new (w : World) (l : List Int) (T : TypeId) : ∀ k, k < l.length → (w.alloc (.cells (l.map (Value.int .i64)).toArray T)).cell? ⟨w.heap.size, k, none⟩ = some (.int .i64 (l.getD k 0)) := by
  intro k hk
  rw [World.cell?_alloc_new]
  simp [hk]
theorem src_lt {w : World} {o : Option Addr} {len cap p : Nat} (h : Src w o len cap p) : p < w.heap.size := by
  obtain ⟨t, s, h⟩ := h; exact World.block_lt_of_cell? w _ h.c0
/-- l01Pick over a list that has just been laid -/
theorem pick_new (l : List Int) (T : TypeId) (c : Nat) (o : Option Addr) (len cap p : Nat) (w : World) (hs : Src w o len cap p) (h0 : 0 < l.length) (h1 : l.length ≤ 1000) :
    Calls Tryz.prog 20 #[.pointer (some ⟨p, 0, none⟩), .slice (some ⟨w.heap.size, 0, none⟩) l.length c] (w.alloc (.cells (l.map (Value.int .i64)).toArray T)) fun e w' =>
      ∃ r : Int, e = .returned (.int .i64 r) ∧ r ∈ l ∧ Src w' o len cap p ∧ w.grownBy w' (some p) := by
  refine (pick_any l w.heap.size c o len cap p _ (src_alloc hs _) (by have := src_lt hs; omega) h0 h1 (cells_new w l T)).mono fun e w' ⟨r, he, hr, h2, h3, h4⟩ => ⟨r, he, hr, h2, grownBy_tr (World.grownBy_alloc w _ _) h3⟩
end Go.Proofs.YtejgcamogjgdkaaGreatDoor
namespace Go.Proofs.YtejgcamogjgdkaaGreatDoor
open Go.RowKit
set_option linter.unusedVariables false
/-- a code that came in -/
def CodeIn (w : World) (o : Option Addr) (len : Nat) : Prop :=
  len = 0 ∨ ∃ b off, o = some ⟨b, off, none⟩ ∧ b < w.heap.size ∧ ∀ i, i < len → ∃ z : Int, w.cell? ⟨b, off + i, none⟩ = some (.int .u8 z) ∧ 0 ≤ z ∧ z ≤ 255
def FromPost (o : Option Addr) (len cap : Nat) (w : World) (e : Ending) (w' : World) : Prop :=
  ∃ p, e = .returned (.pointer (some ⟨p, 0, none⟩)) ∧ w.heap.size ≤ p ∧ Src w' o len cap p ∧ Below w.heap.size w w'
theorem srcAt_new (w : World) (o : Option Addr) (len cap : Nat) (T : TypeId) (hl : len ≤ 4096) (hc : CodeIn w o len) :
    SrcAt (w.alloc (.cells #[.slice o len cap, .int .i64 0, .int .i64 31019] T)) o len cap w.heap.size 0 31019 := by
  refine ⟨?_, ?_, ?_, fun i => World.frozen?_alloc_at _ _ _ _ rfl, Nat.zero_le _, hl, by omega, by omega, ?_⟩
  · rw [World.cell?_alloc_new]; rfl
  · rw [World.cell?_alloc_new]; rfl
  · rw [World.cell?_alloc_new]; rfl
  · rcases hc with h0 | ⟨b, off, ho, hb, hc⟩
    · exact .inl h0
    · refine .inr ⟨b, off, ho, hb, fun i hi => ?_⟩
      rw [World.cell?_alloc_past _ _ _ hb]; exact hc i hi
set_option maxRecDepth 20000 in
set_option maxHeartbeats 800000 in
theorem from_any (o : Option Addr) (len cap : Nat) (w : World) (hl : len ≤ 4096) (hc : CodeIn w o len) :
    Calls Tryz.prog 14 #[.slice o len cap] w (FromPost o len cap w) := by
  have HN := Lib.hid (srcAt_new w o len cap 62 hl hc)
  clear hc
  go_enter Tryz.func14, Tryz.ntmps14
  go_wp2
  go_loopw [4] (fun i wr => ∃ (k : Nat) (s : Int), k ≤ len ∧ i = .int .i64 k ∧ SrcAt wr o len cap w.heap.size 0 s ∧ Below w.heap.size w wr) (fun i _ => len - (intOf i).toNat)
  case atStart => exact ⟨0, 31019, Nat.zero_le _, rfl, HN.out, (Below.refl _ _).alloc (Nat.le_refl _) _⟩
  case round =>
    obtain ⟨k, s, hk, rfl, hs, hb⟩ := hrel
    have s0 := hs.s0
    have s1 := hs.s1
    have a2 := hs.c2
    have az := hs.fz 2
    have HS := Lib.hid hs
    have HB := Lib.hid hb
    clear hs hb HN
    by_cases hlt : k < len
    · by_cases h64 : k < 64
      · obtain ⟨b, off, rfl, hbp, hc⟩ : ∃ b off, o = some ⟨b, off, none⟩ ∧ b < w.heap.size ∧ ∀ i, i < len → ∃ z : Int, wr.cell? ⟨b, off + i, none⟩ = some (.int .u8 z) ∧ 0 ≤ z ∧ z ≤ 255 := by
          rcases HS.out.code with h0 | h0
          · omega
          · exact h0
        obtain ⟨z, hz, z0, z1⟩ := hc k hlt
        clear hc
        go_wp2
        go_still_tail 15, (by kernel_rfl)
        go_wp2
        exact ⟨⟨k + 1, (s * 61 + z) % 2147483647, by omega, by go_num, srcAt_drewN (srcAt_seed HS.out (by omega) (by omega)) 1, (HB.out.setCell (Nat.le_refl _) _).drew⟩, by simp only [intOf]; omega⟩
      · go_wp2
        go_ret
        exact ⟨_, rfl, Nat.le_refl _, ⟨_, _, HS.out⟩, HB.out⟩
    · go_wp2
      go_ret
      exact ⟨_, rfl, Nat.le_refl _, ⟨_, _, HS.out⟩, HB.out⟩
end Go.Proofs.YtejgcamogjgdkaaGreatDoor
namespace Go.Proofs.YtejgcamogjgdkaaGreatDoor
open Go.RowKit
set_option linter.unusedVariables false
theorem prod_bd {k r : Int} (h1 : 1 ≤ k) (h2 : k ≤ 40) (h3 : 0 ≤ r) (h4 : r ≤ 200) : -4000 ≤ k * (r - 100) ∧ k * (r - 100) ≤ 4000 := by
  have : (k * (r - 100)).natAbs ≤ 40 * 100 := by
    rw [Int.natAbs_mul]; exact Nat.mul_le_mul (by omega) (by omega)
  omega
/-- two numbers, drawn -/
def TwoPost (w : World) (e : Ending) (w' : World) : Prop := ∃ a b : Int, e = .returned (.tuple #[.int .i64 a, .int .i64 b]) ∧ Below w.heap.size w w'
def OnePost (w : World) (e : Ending) (w' : World) : Prop := ∃ a : Int, e = .returned (.int .i64 a) ∧ Below w.heap.size w w'
/-- a step of drawing, below the source's block -/
theorem below_draw {B p : Nat} {a w w' : World} (h : Below B a w) (hg : w.grownBy w' (some p)) (hp : B ≤ p) (hw : B ≤ w.heap.size) : Below B a w' :=
  h.grown hg hw (fun k hk => by cases hk; exact hp)
theorem big_no (o : Option Addr) (len cap : Nat) (w : World) (hl : len ≤ 4096) :
    Calls Tryz.prog 5 #[.slice o len cap] w fun e w' => e = .returned (.bool false) ∧ w = w' := by
  go_enter Tryz.func5, Tryz.ntmps5
  go_wp2
  go_ret
  exact ⟨ret_bool (decide_eq_false (by omega)), rfl⟩
theorem big_yes (o : Option Addr) (len cap : Nat) (w : World) (hl : 4096 < len) (hm : len ≤ 9223372036854775807) :
    Calls Tryz.prog 5 #[.slice o len cap] w fun e w' => e = .returned (.bool true) ∧ w = w' := by
  go_enter Tryz.func5, Tryz.ntmps5
  go_wp2
  go_ret
  exact ⟨ret_bool (decide_eq_true (by omega)), rfl⟩
theorem codeIn_below {w w' : World} {B : Nat} {o : Option Addr} {len : Nat} (h : CodeIn w o len) (hb : Below w.heap.size w w') : CodeIn w' o len := by
  rcases h with h | ⟨b, off, ho, hlt, hc⟩
  · exact .inl h
  · exact .inr ⟨b, off, ho, Nat.lt_of_lt_of_le hlt hb.size, fun i hi => by rw [hb.cell (by exact hlt)]; exact hc i hi⟩
end Go.Proofs.YtejgcamogjgdkaaGreatDoor
namespace Go.Proofs.YtejgcamogjgdkaaGreatDoor
open Go.RowKit
set_option linter.unusedVariables false
set_option maxHeartbeats 400000 in
theorem drawPrime_any (o : Option Addr) (len cap p : Nat) (w : World) (hs : Src w o len cap p) :
    Calls Tryz.prog 32 #[.pointer (some ⟨p, 0, none⟩)] w (DrawnPost (-3) 101 o len cap p w) := by
  have HS := Lib.hid hs
  clear hs
  go_enter Tryz.func32, Tryz.ntmps32
  go_wp2_with fail
  refine (next_any _ _ _ _ _ _ (by omega) HS.out).mono ?_
  rintro e w1 ⟨r1, rfl, r10, r11, hs1, hg1, hz1⟩
  have H1 := Lib.hid (And.intro hs1 hg1)
  clear hs1 hg1 hz1 r11
  by_cases hr : r1 = 0
  · subst hr
    go_wp2_with fail
    refine (pick_new [1, 4, 0, 97, 101, -3, 9] 2 7 o len cap p w1 H1.out.1 (by simp) (by simp)).mono ?_
    rintro e w2 ⟨x, rfl, hx, hs2, hg2⟩
    have hb : -3 ≤ x ∧ x ≤ 101 := by simp at hx; omega
    have H2 := Lib.hid (And.intro hb (And.intro hs2 (grownBy_tr H1.out.2 hg2)))
    clear hx hs2 hg2 hb
    go_wp2
    go_ret
    exact ⟨x, rfl, H2.out.1.1, H2.out.1.2, H2.out.2.1, H2.out.2.2⟩
  · have hr' : (r1 == 0) = false := by simpa using hr
    clear hr
    go_wp2_with fail
    refine (pick_new [2, 3, 5, 7, 2, 3, 5, 11, 13, 17, 31] 2 11 o len cap p w1 H1.out.1 (by simp) (by simp)).mono ?_
    rintro e w2 ⟨x, rfl, hx, hs2, hg2⟩
    have hb : -3 ≤ x ∧ x ≤ 101 := by simp at hx; omega
    have H2 := Lib.hid (And.intro hb (And.intro hs2 (grownBy_tr H1.out.2 hg2)))
    clear hx hs2 hg2 hb
    go_wp2
    go_ret
    exact ⟨x, rfl, H2.out.1.1, H2.out.1.2, H2.out.2.1, H2.out.2.2⟩
end Go.Proofs.YtejgcamogjgdkaaGreatDoor
namespace Go.Proofs.YtejgcamogjgdkaaGreatDoor
open Go.RowKit
set_option linter.unusedVariables false
/-- a ring, drawn -/
def RingPost (o : Option Addr) (len cap q : Nat) (w : World) (e : Ending) (w' : World) : Prop :=
  ∃ p n : Int, e = .returned (.agg #[.int .i64 p, .int .i64 n]) ∧ -3 ≤ p ∧ p ≤ 101 ∧ -1 ≤ n ∧ n ≤ 30 ∧ Src w' o len cap q ∧ w.grownBy w' (some q)
theorem valid_ring {p n : Int} (hp : p ∈ [2, 3, 5, 7, 2, 3, 5, 11, 13]) (h1 : 1 ≤ n) (h2 : n ≤ 6) : smallB p = true ∧ ringM p n ≠ 0 := by
  have hs : smallB p = true := by
    simp only [List.mem_cons, List.not_mem_nil, or_false] at hp
    rcases hp with rfl | rfl | rfl | rfl | rfl | rfl | rfl | rfl | rfl <;> decide
  have hb : 2 ≤ p ∧ p ≤ 13 := by simp at hp; omega
  refine ⟨hs, ?_⟩
  have e1 := pow_le hb.1 (show n.toNat ≤ 6 by omega)
  have e2 : p ^ 6 ≤ 4826809 := by
    simp only [List.mem_cons, List.not_mem_nil, or_false] at hp
    rcases hp with rfl | rfl | rfl | rfl | rfl | rfl | rfl | rfl | rfl <;> decide
  have e3 := pow_ge1 hb.1 n.toNat
  unfold ringM
  rw [hs, decide_eq_true h1, decide_eq_true (show p ^ n.toNat ≤ 1000000000 by omega)]
  simp; omega
theorem src_set {w : World} {o : Option Addr} {len cap q b i : Nat} {v : Value} (h : Src w o len cap q) (hb : q < b) : Src (w.setCell ⟨b, i, none⟩ v) o len cap q := by
  obtain ⟨t, s, h⟩ := h
  refine ⟨t, s, ?_, ?_, ?_, fun i => by rw [World.frozen?_setCell]; exact h.fz i, h.ht, h.hl, h.s0, h.s1, ?_⟩
  · rw [set_other (.inl (by omega))]; exact h.c0
  · rw [set_other (.inl (by omega))]; exact h.c1
  · rw [set_other (.inl (by omega))]; exact h.c2
  · rcases h.code with hz | ⟨b, off, ho, hbp, hc⟩
    · exact .inl hz
    · refine .inr ⟨b, off, ho, hbp, fun i hi => ?_⟩
      rw [set_other (.inl (by omega))]; exact hc i hi
theorem grown_set {w w' : World} {q b i : Nat} {v : Value} (h : w.grownBy w' (some q)) (hb : w.heap.size ≤ b) : w.grownBy (w'.setCell ⟨b, i, none⟩ v) (some q) :=
  ⟨h.os, h.tape, h.output, by simpa using h.size, fun k hk hn => by rw [Below.heap_setCell _ _ _ _ (by show k ≠ b; omega)]; exact h.block k hk hn⟩
/-- l01Pick over a list laid in a block whose number is written out -/
theorem pick_at (l : List Int) (T : TypeId) (c : Nat) (o : Option Addr) (len cap p g : Nat) (w : World) (hg : w.heap.size = g) (hs : Src w o len cap p) (h0 : 0 < l.length) (h1 : l.length ≤ 1000) :
    Calls Tryz.prog 20 #[.pointer (some ⟨p, 0, none⟩), .slice (some ⟨g, 0, none⟩) l.length c] (w.alloc (.cells (l.map (Value.int .i64)).toArray T)) fun e w' =>
      ∃ r : Int, e = .returned (.int .i64 r) ∧ r ∈ l ∧ Src w' o len cap p ∧ w.grownBy w' (some p) := by
  subst hg; exact pick_new l T c o len cap p w hs h0 h1
theorem ring_block {w w2 : World} {a b : Value} {T : TypeId} (h : w2.heap[w.heap.size]? = (w.alloc (.cells #[a, b] T)).heap[w.heap.size]?) :
    w2.cell? ⟨w.heap.size, 0, none⟩ = some a ∧ w2.cell? ⟨w.heap.size, 1, none⟩ = some b ∧ w2.frozen? ⟨w.heap.size, 0, none⟩ = false ∧ w2.frozen? ⟨w.heap.size, 1, none⟩ = false := by
  refine ⟨?_, ?_, ?_, ?_⟩
  · rw [World.cell?_of_block (w := w.alloc (.cells #[a, b] T)) (a := ⟨w.heap.size, 0, none⟩) h, World.cell?_alloc_new]; rfl
  · rw [World.cell?_of_block (w := w.alloc (.cells #[a, b] T)) (a := ⟨w.heap.size, 1, none⟩) h, World.cell?_alloc_new]; rfl
  · rw [World.frozen?_of_block (w := w.alloc (.cells #[a, b] T)) (a := ⟨w.heap.size, 0, none⟩) h]; exact World.frozen?_alloc_at _ _ _ _ rfl
  · rw [World.frozen?_of_block (w := w.alloc (.cells #[a, b] T)) (a := ⟨w.heap.size, 1, none⟩) h]; exact World.frozen?_alloc_at _ _ _ _ rfl
theorem block_alloc {w : World} (o : Obj) {k : Nat} (h : k < w.heap.size) : (w.alloc o).heap[k]? = w.heap[k]? := Below.heap_alloc w o k h
end Go.Proofs.YtejgcamogjgdkaaGreatDoor
namespace Go.Proofs.YtejgcamogjgdkaaGreatDoor
open Go.RowKit
set_option linter.unusedVariables false
/-- a number for a prime, drawn -/
def ValPost (p : Int) (o : Option Addr) (len cap q : Nat) (w : World) (e : Ending) (w' : World) : Prop :=
  ∃ v u n : Int, e = .returned (.agg (P4 p v u n)) ∧ -6 ≤ v ∧ v ≤ 6 ∧ 0 ≤ u ∧ u ≤ 1000000000 ∧ 0 ≤ n ∧ n ≤ 8 ∧ Src w' o len cap q ∧ w.grownBy w' (some q)
/-- a source in use, and what is old but for the source's block -/
def GG (o : Option Addr) (len cap q : Nat) (w wz : World) : Prop := Src wz o len cap q ∧ w.grownBy wz (some q) ∧ q < w.heap.size
theorem gg_next {o : Option Addr} {len cap q : Nat} {w w1 w2 : World} (h : GG o len cap q w w1) (hs : Src w2 o len cap q) (hg : w1.grownBy w2 (some q)) : GG o len cap q w w2 := ⟨hs, grownBy_tr h.2.1 hg, h.2.2⟩
theorem gg_alloc {o : Option Addr} {len cap q : Nat} {w w1 : World} (h : GG o len cap q w w1) (ob : Obj) : GG o len cap q w (w1.alloc ob) := gg_next h (src_alloc h.1 ob) (World.grownBy_alloc w1 ob (some q))
theorem gg_set {o : Option Addr} {len cap q : Nat} {w w1 : World} (h : GG o len cap q w w1) {b i : Nat} (hb : w.heap.size ≤ b) (v : Value) : GG o len cap q w (w1.setCell ⟨b, i, none⟩ v) :=
  ⟨src_set h.1 (by have := h.2.2; omega), grown_set h.2.1 hb, h.2.2⟩
theorem gg_set4 {o : Option Addr} {len cap q : Nat} {w w1 : World} (h : GG o len cap q w w1) {b : Nat} (hb : w.heap.size ≤ b) (x0 x1 x2 x3 : Value) :
    GG o len cap q w ((((w1.setCell ⟨b, 0, none⟩ x0).setCell ⟨b, 1, none⟩ x1).setCell ⟨b, 2, none⟩ x2).setCell ⟨b, 3, none⟩ x3) := gg_set (gg_set (gg_set (gg_set h hb _) hb _) hb _) hb _
theorem gg_start {o : Option Addr} {len cap q : Nat} {w : World} (hs : Src w o len cap q) : GG o len cap q w w := ⟨hs, World.grownBy.refl _ _, src_lt hs⟩
theorem gg_lies {o : Option Addr} {len cap q : Nat} {w w1 w2 : World} {b : Nat} {vs : Array Value} (h : GG o len cap q w w1) (hb : w.heap.size ≤ b) (L : Lies w1 b vs) (hg : w1.grownBy w2 (some q)) : Lies w2 b vs :=
  lies_grown L hg (by have := h.2.2; omega)
theorem ringM_one {p : Int} (hs : smallB p = true) : ringM p 1 ≠ 0 := by
  obtain ⟨h1, h2⟩ := smallB_bd hs
  rw [ringM_pw hs (by omega) (by rw [pw_one]; omega), pw_one]; omega
set_option maxHeartbeats 1000000 in
theorem padValid_any (p : Int) (o : Option Addr) (len cap q : Nat) (w : World) (hp : smallB p = true) (hs : Src w o len cap q) :
    Calls Tryz.prog 19 #[.pointer (some ⟨q, 0, none⟩), .int .i64 p] w (ValPost p o len cap q w) := by
  obtain ⟨hp2, hp97⟩ := smallB_bd hp
  have HP := Lib.hid hp
  have G0 := Lib.hid (gg_alloc (gg_start hs) (.cells (P4 0 0 0 0) 25))
  have L0 := Lib.hid (lies_new w (P4 0 0 0 0) 25)
  have hp4 : ¬ p = 0 := by omega
  have hp5 : (p == 0) = false := by simp; omega
  clear hs hp
  go_enter Tryz.func19, Tryz.ntmps19
  go_wp2_with fail
  refine (next_any _ _ _ _ _ _ (by omega) G0.out.1).mono ?_
  rintro e w1 ⟨r1, rfl, r10, r11, hs1, hg1, hz1⟩
  have G1 := Lib.hid (gg_next G0.out hs1 hg1)
  have L1 := Lib.hid (gg_lies G0.out (Nat.le_refl _) L0.out hg1)
  clear hs1 hg1 hz1 r11 G0 L0
  by_cases hr : r1 = 0
  · subst hr
    go_wp2_with fail
    refine (next_any _ _ _ _ _ _ (by omega) G1.out.1).mono ?_
    rintro e w2 ⟨r2, rfl, r20, r21, hs2, hg2, hz2⟩
    have hr2 : r2 < 13 := by omega
    have G2 := Lib.hid (gg_next G1.out hs2 hg2)
    have L2 := gg_lies G1.out (Nat.le_refl _) L1.out hg2
    obtain ⟨d0, d1, d2, d3⟩ := lies_four L2
    obtain ⟨f0, f1, f2, f3⟩ := lies_ice L2
    have hw := IntWalk.i64_in (r2 - 6) (by omega)
    clear hs2 hg2 hz2 r21 L2
    go_wp2
    refine bodyPost_ret (v := .agg (P4 p (r2 - 6) 0 0)) (by simp [results, Tryz.results19, go_sem, d0, d1, d2, d3]) rfl ?_
    have G3 := gg_set4 G2.out (Nat.le_refl _) (.int .i64 p) (.int .i64 (r2 - 6)) (.int .i64 0) (.int .i64 0)
    exact ⟨_, _, _, rfl, by omega, by omega, by omega, by omega, by omega, by omega, G3.1, G3.2.1⟩
  · have hr' : (r1 == 0) = false := by simpa using hr
    clear hr
    go_wp2_with fail
    refine (next_any _ _ _ _ _ _ (by omega) G1.out.1).mono ?_
    rintro e w2 ⟨r2, rfl, r20, r21, hs2, hg2, hz2⟩
    have hr2 : r2 < 8 := by omega
    have G2 := Lib.hid (gg_next G1.out hs2 hg2)
    have L2 := Lib.hid (gg_lies G1.out (Nat.le_refl _) L1.out hg2)
    have hw := IntWalk.i64_in (1 + r2) (by omega)
    clear hs2 hg2 hz2 r21 G1 L1
    go_wp2_with fail
    go_loop [5] (fun i => ∃ n : Int, i = .int .i64 n ∧ 1 ≤ n ∧ n ≤ 8) (fun i => (intOf i).toNat)
    case atStart => exact ⟨_, rfl, by omega, by omega⟩
    case round =>
      obtain ⟨n, rfl, hn1, hn8⟩ := hrel
      have HM := Lib.hid fun w => l02Modulus_any p n w HP.out hn1 (by omega)
      by_cases h0 : ringM p n = 0
      · have h0' : (ringM p n == 0) = true := by simp [h0]
        have hn2 : 2 ≤ n := by
          apply Classical.byContradiction; intro hc
          obtain rfl : n = 1 := by omega
          exact ringM_one HP.out h0
        clear h0
        go_wp2_with (first | (go_at_call 46; refine (HM.out _).mono ?_; rintro e' wn ⟨rfl, rfl⟩))
        exact ⟨⟨_, rfl, by omega, by omega⟩, by simp only [intOf]; omega⟩
      · obtain ⟨_, _, _, _, hm1, hm2, _⟩ := ringM_bd h0
        have h0' : (ringM p n == 0) = false := by simpa using h0
        generalize ringM p n = m at *
        have hw2 := IntWalk.i64_in (m - 1) (by omega)
        clear h0
        go_wp2_with (first | (go_at_call 46; refine (HM.out _).mono ?_; rintro e' wn ⟨rfl, rfl⟩))
        refine (next_any _ _ _ _ _ _ (by omega) G2.out.1).mono ?_
        rintro e w3 ⟨r3, rfl, r30, r31, hs3, hg3, hz3⟩
        have hr3 : r3 ≤ 1000000000 - 2 := by omega
        have G3 := Lib.hid (gg_next G2.out hs3 hg3)
        have L3 := Lib.hid (gg_lies G2.out (Nat.le_refl _) L2.out hg3)
        have hw3 := IntWalk.i64_in (1 + r3) (by omega)
        clear hs3 hg3 hz3 r31 G2 L2 h0' hw2 HM
        go_wp2_with fail
        go_loop [6] (fun i => ∃ u : Int, i = .int .i64 u ∧ 1 ≤ u ∧ u ≤ 1000000000) (fun i => (intOf i).toNat)
        case atStart => exact ⟨_, rfl, by omega, by omega⟩
        case round =>
          obtain ⟨u, rfl, hu1, hu2⟩ := hrel
          have ht : u.tmod p = u % p := tmod_nonneg (by omega)
          have hq : u.tdiv p = u / p := Int.tdiv_eq_ediv_of_nonneg (by omega)
          have hd := Int.emod_add_mul_ediv u p
          have hm0 := Int.emod_nonneg u hp4
          have hq0 : 0 ≤ u / p := Int.ediv_nonneg (by omega) (by omega)
          have hq1 : u / p ≤ u := Int.ediv_le_self _ (by omega)
          by_cases hz : u % p = 0
          · have hz' : (u % p == 0) = true := by simp [hz]
            have hk1 : 1 ≤ u / p := by
              apply Classical.byContradiction; intro hc
              have : u / p = 0 := by omega
              rw [this, hz] at hd; omega
            have hk2 : u / p < u := by
              have := Int.mul_le_mul_of_nonneg_right hp2 hq0
              omega
            clear hd hz
            go_wp2
            exact ⟨⟨_, rfl, by omega, by omega⟩, by simp only [intOf]; omega⟩
          · have hz' : (u % p == 0) = false := by simpa using hz
            clear hd hz
            go_wp2_with fail
            refine (next_any _ _ _ _ _ _ (by omega) G3.out.1).mono ?_
            rintro e w4 ⟨r4, rfl, r40, r41, hs4, hg4, hz4⟩
            have hr4 : r4 < 9 := by omega
            have G4 := Lib.hid (gg_next G3.out hs4 hg4)
            have L4 := gg_lies G3.out (Nat.le_refl _) L3.out hg4
            obtain ⟨d0, d1, d2, d3⟩ := lies_four L4
            obtain ⟨f0, f1, f2, f3⟩ := lies_ice L4
            have hw4 := IntWalk.i64_in (r4 - 4) (by omega)
            clear hs4 hg4 hz4 r41 L4
            go_wp2
            refine bodyPost_ret (v := .agg (P4 p (r4 - 4) u n)) (by simp [results, Tryz.results19, go_sem, d0, d1, d2, d3]) rfl ?_
            have G5 := gg_set4 G4.out (Nat.le_refl _) (.int .i64 p) (.int .i64 (r4 - 4)) (.int .i64 u) (.int .i64 n)
            exact ⟨_, _, _, rfl, by omega, by omega, by omega, by omega, by omega, by omega, G5.1, G5.2.1⟩
/-- a number, drawn -/
def PadPost (o : Option Addr) (len cap q : Nat) (w : World) (e : Ending) (w' : World) : Prop :=
  ∃ p v u n : Int, e = .returned (.agg (P4 p v u n)) ∧ -3 ≤ p ∧ p ≤ 101 ∧ -61 ≤ v ∧ v ≤ 61 ∧ -1 ≤ u ∧ u ≤ 1000000000 ∧ -1 ≤ n ∧ n ≤ 30 ∧ Src w' o len cap q ∧ w.grownBy w' (some q)
theorem small_of {p : Int} (hp : p ∈ [2, 3, 5, 7, 13]) : smallB p = true ∧ 2 ≤ p ∧ p ≤ 13 := by
  simp only [List.mem_cons, List.not_mem_nil, or_false] at hp
  rcases hp with rfl | rfl | rfl | rfl | rfl <;> decide
set_option maxHeartbeats 2000000 in
theorem padDraw_any (o : Option Addr) (len cap q : Nat) (w : World) (hs : Src w o len cap q) :
    Calls Tryz.prog 13 #[.pointer (some ⟨q, 0, none⟩)] w (PadPost o len cap q w) := by
  have G0 := Lib.hid (gg_alloc (gg_start hs) (.cells (P4 0 0 0 0) 25))
  have L0 := Lib.hid (lies_new w (P4 0 0 0 0) 25)
  clear hs
  go_enter Tryz.func13, Tryz.ntmps13
  go_wp2_with fail
  refine (pick_at [2, 3, 5, 7, 13] 2 5 o len cap q _ _ (by simp) G0.out.1 (by simp) (by simp)).mono ?_
  rintro e w1 ⟨p, rfl, hp, hs1, hg1⟩
  have HP := small_of hp
  have hp2 := HP.2.1
  have hp13 := HP.2.2
  have HS := Lib.hid HP.1
  have G1 := Lib.hid (gg_next G0.out hs1 hg1)
  have L1 := Lib.hid (gg_lies G0.out (Nat.le_refl _) L0.out hg1)
  clear hs1 hg1 G0 L0 HP hp
  go_wp2_with fail
  refine (padValid_any p o len cap q _ HS.out G1.out.1).mono ?_
  rintro e w2 ⟨v, u, n, rfl, hv0, hv1, hu0, hu1, hn0, hn1, hs2, hg2⟩
  have G2 := gg_next G1.out hs2 hg2
  have L2 := gg_lies G1.out (Nat.le_refl _) L1.out hg2
  have hlt := lies_lt L2
  have hle : w.heap.size ≤ w2.heap.size := Nat.le_of_lt hlt
  have LX := lies_new w2 (P4 p v u n) 25
  have G3 := Lib.hid (gg_alloc G2 (.cells (P4 p v u n) 25))
  have L3 := Lib.hid (And.intro (lies_alloc L2 (.cells (P4 p v u n) 25)) LX)
  have hne : ¬ w2.heap.size = w.heap.size := by omega
  have HN := Lib.hid (And.intro hle hne)
  clear hs2 hg2 G1 L1 G2 L2 LX hlt hle hne
  go_wp2_with fail
  refine (next_any _ _ _ _ _ _ (by omega) G3.out.1).mono ?_
  rintro e w3 ⟨r, rfl, r0, r1, hs3, hg3, hz3⟩
  have G4 := Lib.hid (gg_next G3.out hs3 hg3)
  have L4 := Lib.hid (And.intro (gg_lies G3.out (Nat.le_refl _) L3.out.1 hg3) (gg_lies G3.out HN.out.1 L3.out.2 hg3))
  clear hs3 hg3 hz3 r1 G3 L3
  by_cases e0 : r = 0
  · subst e0
    go_wp2_with fail
    refine (drawPrime_any _ _ _ _ _ G4.out.1).mono ?_
    rintro e w4 ⟨x, rfl, hx0, hx1, hs4, hg4⟩
    skip
    have G5 := gg_next G4.out hs4 hg4
    have LR := gg_lies G4.out (Nat.le_refl _) L4.out.1 hg4
    have LX := gg_lies G4.out HN.out.1 L4.out.2 hg4
    obtain ⟨c0, c1, c2, c3⟩ := lies_four LR
    obtain ⟨cf0, cf1, cf2, cf3⟩ := lies_ice LR
    obtain ⟨d0, d1, d2, d3⟩ := lies_four LX
    obtain ⟨df0, df1, df2, df3⟩ := lies_ice LX
    have hne := HN.out.2
    have HG := Lib.hid (gg_set4 (gg_set G5 (b := w2.heap.size) (i := 0) HN.out.1 (.int .i64 x)) (Nat.le_refl _) (.int .i64 x) (.int .i64 v) (.int .i64 u) (.int .i64 n))
    clear hs4 hg4 G5 LR LX
    go_wp2
    refine bodyPost_ret (v := .agg (P4 x v u n)) (by simp [results, Tryz.results13, go_sem, c0, c1, c2, c3]) rfl ?_
    exact ⟨_, _, _, _, rfl, by omega, by omega, by omega, by omega, by omega, by omega, by omega, by omega, HG.out.1, HG.out.2.1⟩
  · have e0' : (r == 0) = false := by simpa using e0
    clear e0
    by_cases e1 : r = 1
    · subst e1
      obtain ⟨d0, d1, d2, d3⟩ := lies_four L4.out.2
      have hne := HN.out.2
      go_wp2_with fail
      refine (pick_new [0, p, -1, 1000000000] 2 4 o len cap q w3 G4.out.1 (by simp) (by simp)).mono ?_
      rintro e w4 ⟨x, rfl, hx, hs4, hg4⟩
      have hx0 : -1 ≤ x ∧ x ≤ 1000000000 := by simp at hx; omega
      have G5 := gg_next G4.out hs4 hg4
      have LR := gg_lies G4.out (Nat.le_refl _) L4.out.1 hg4
      have LX := gg_lies G4.out HN.out.1 L4.out.2 hg4
      obtain ⟨c0, c1, c2, c3⟩ := lies_four LR
      obtain ⟨cf0, cf1, cf2, cf3⟩ := lies_ice LR
      obtain ⟨d0, d1, d2, d3⟩ := lies_four LX
      obtain ⟨df0, df1, df2, df3⟩ := lies_ice LX
      have hne := HN.out.2
      have HG := Lib.hid (gg_set4 (gg_set G5 (b := w2.heap.size) (i := 2) HN.out.1 (.int .i64 x)) (Nat.le_refl _) (.int .i64 p) (.int .i64 v) (.int .i64 x) (.int .i64 n))
      clear hs4 hg4 G5 LR LX
      go_wp2
      refine bodyPost_ret (v := .agg (P4 p v x n)) (by simp [results, Tryz.results13, go_sem, c0, c1, c2, c3]) rfl ?_
      exact ⟨_, _, _, _, rfl, by omega, by omega, by omega, by omega, by omega, by omega, by omega, by omega, HG.out.1, HG.out.2.1⟩
    · have e1' : (r == 1) = false := by simpa using e1
      clear e1
      by_cases e2 : r = 2
      · subst e2
        go_wp2_with fail
        refine (pick_new [60, 61, -60, -61] 2 4 o len cap q w3 G4.out.1 (by simp) (by simp)).mono ?_
        rintro e w4 ⟨x, rfl, hx, hs4, hg4⟩
        have hx0 : -61 ≤ x ∧ x ≤ 61 := by simp at hx; omega
        have G5 := gg_next G4.out hs4 hg4
        have LR := gg_lies G4.out (Nat.le_refl _) L4.out.1 hg4
        have LX := gg_lies G4.out HN.out.1 L4.out.2 hg4
        obtain ⟨c0, c1, c2, c3⟩ := lies_four LR
        obtain ⟨cf0, cf1, cf2, cf3⟩ := lies_ice LR
        obtain ⟨d0, d1, d2, d3⟩ := lies_four LX
        obtain ⟨df0, df1, df2, df3⟩ := lies_ice LX
        have hne := HN.out.2
        have HG := Lib.hid (gg_set4 (gg_set G5 (b := w2.heap.size) (i := 1) HN.out.1 (.int .i64 x)) (Nat.le_refl _) (.int .i64 p) (.int .i64 x) (.int .i64 u) (.int .i64 n))
        clear hs4 hg4 G5 LR LX
        go_wp2
        refine bodyPost_ret (v := .agg (P4 p x u n)) (by simp [results, Tryz.results13, go_sem, c0, c1, c2, c3]) rfl ?_
        exact ⟨_, _, _, _, rfl, by omega, by omega, by omega, by omega, by omega, by omega, by omega, by omega, HG.out.1, HG.out.2.1⟩
      · have e2' : (r == 2) = false := by simpa using e2
        clear e2
        by_cases e3 : r = 3
        · subst e3
          go_wp2_with fail
          refine (pick_new [0, 30, -1] 2 3 o len cap q w3 G4.out.1 (by simp) (by simp)).mono ?_
          rintro e w4 ⟨x, rfl, hx, hs4, hg4⟩
          have hx0 : -1 ≤ x ∧ x ≤ 30 := by simp at hx; omega
          have G5 := gg_next G4.out hs4 hg4
          have LR := gg_lies G4.out (Nat.le_refl _) L4.out.1 hg4
          have LX := gg_lies G4.out HN.out.1 L4.out.2 hg4
          obtain ⟨c0, c1, c2, c3⟩ := lies_four LR
          obtain ⟨cf0, cf1, cf2, cf3⟩ := lies_ice LR
          obtain ⟨d0, d1, d2, d3⟩ := lies_four LX
          obtain ⟨df0, df1, df2, df3⟩ := lies_ice LX
          have hne := HN.out.2
          have HG := Lib.hid (gg_set4 (gg_set G5 (b := w2.heap.size) (i := 3) HN.out.1 (.int .i64 x)) (Nat.le_refl _) (.int .i64 p) (.int .i64 v) (.int .i64 u) (.int .i64 x))
          clear hs4 hg4 G5 LR LX
          go_wp2
          refine bodyPost_ret (v := .agg (P4 p v u x)) (by simp [results, Tryz.results13, go_sem, c0, c1, c2, c3]) rfl ?_
          exact ⟨_, _, _, _, rfl, by omega, by omega, by omega, by omega, by omega, by omega, by omega, by omega, HG.out.1, HG.out.2.1⟩
        · have e3' : (r == 3) = false := by simpa using e3
          clear e3
          obtain ⟨c0, c1, c2, c3⟩ := lies_four L4.out.1
          obtain ⟨cf0, cf1, cf2, cf3⟩ := lies_ice L4.out.1
          obtain ⟨d0, d1, d2, d3⟩ := lies_four L4.out.2
          have hne := HN.out.2
          have HG := Lib.hid (gg_set4 G4.out (Nat.le_refl _) (.int .i64 p) (.int .i64 v) (.int .i64 u) (.int .i64 n))
          go_wp2
          refine bodyPost_ret (v := .agg (P4 p v u n)) (by simp [results, Tryz.results13, go_sem, c0, c1, c2, c3]) rfl ?_
          exact ⟨_, _, _, _, rfl, by omega, by omega, by omega, by omega, by omega, by omega, by omega, by omega, HG.out.1, HG.out.2.1⟩
end Go.Proofs.YtejgcamogjgdkaaGreatDoor
namespace Go.Proofs.YtejgcamogjgdkaaGreatDoor
open Go.RowKit
set_option linter.unusedVariables false
end Go.Proofs.YtejgcamogjgdkaaGreatDoor
namespace Go.Proofs.YtejgcamogjgdkaaGreatDoor
open Go.RowKit
set_option linter.unusedVariables false
set_option linter.unusedSimpArgs false
def OnePad (w : World) (e : Ending) (w' : World) : Prop := ∃ p v u n : Int, e = .returned (.agg (P4 p v u n)) ∧ Below w.heap.size w w'
def PadInt (w : World) (e : Ending) (w' : World) : Prop := ∃ p v u n k : Int, e = .returned (.tuple #[.agg (P4 p v u n), .int .i64 k]) ∧ Below w.heap.size w w'
def TwoPad (w : World) (e : Ending) (w' : World) : Prop := ∃ p v u n q v' u' n' : Int, e = .returned (.tuple #[.agg (P4 p v u n), .agg (P4 q v' u' n')]) ∧ Below w.heap.size w w'
def ThreeInt (w : World) (e : Ending) (w' : World) : Prop := ∃ a b c : Int, e = .returned (.tuple #[.int .i64 a, .int .i64 b, .int .i64 c]) ∧ Below w.heap.size w w'
/-- a source in use, and what is old; k blocks lie ahead of the source -/
def DD (o : Option Addr) (len cap q k : Nat) (w wz : World) : Prop := Src wz o len cap q ∧ Below w.heap.size w wz ∧ w.heap.size + k ≤ q
theorem dd_next {o : Option Addr} {len cap q k : Nat} {w w1 w2 : World} (h : DD o len cap q k w w1) (hs : Src w2 o len cap q) (hg : w1.grownBy w2 (some q)) : DD o len cap q k w w2 :=
  ⟨hs, below_draw h.2.1 hg (by have := h.2.2; omega) h.2.1.size, h.2.2⟩
theorem dd_alloc {o : Option Addr} {len cap q k : Nat} {w w1 : World} (h : DD o len cap q k w w1) (ob : Obj) : DD o len cap q k w (w1.alloc ob) := dd_next h (src_alloc h.1 ob) (World.grownBy_alloc w1 ob (some q))
theorem dd_drew {o : Option Addr} {len cap q k : Nat} {w w1 : World} (h : DD o len cap q k w w1) : DD o len cap q k w w1.drew := ⟨src_drewN h.1 1, below_drewN h.2.1 1, h.2.2⟩
theorem dd_drewN {o : Option Addr} {len cap q k : Nat} {w w1 : World} (h : DD o len cap q k w w1) (j : Nat) : DD o len cap q k w (w1.drewN j) := ⟨src_drewN h.1 j, below_drewN h.2.1 j, h.2.2⟩
theorem dd_below {o : Option Addr} {len cap q k : Nat} {w w1 w2 : World} (h : DD o len cap q k w w1) (hb : Below w1.heap.size w1 w2) : DD o len cap q k w w2 :=
  ⟨src_below h.1 hb (src_lt h.1), h.2.1.trans (hb.mono h.2.1.size), h.2.2⟩
theorem dd_set {o : Option Addr} {len cap q k : Nat} {w w1 : World} (h : DD o len cap q k w w1) {b i : Nat} (hb : q < b) (v : Value) : DD o len cap q k w (w1.setCell ⟨b, i, none⟩ v) :=
  ⟨src_set h.1 hb, h.2.1.setCell (show w.heap.size ≤ b by have := h.2.2; omega) _, h.2.2⟩
theorem k1_grown {w w1 w2 : World} {a : Array Value} {q : Nat} (h : K1 w a w1) (hg : w1.grownBy w2 (some q)) (hq : w.heap.size + 1 ≤ q) : K1 w a w2 := ⟨below_draw h.1 hg (by omega) h.1.size, lies_grown h.2 hg (by omega)⟩
theorem k2_grown {w w1 w2 : World} {a b : Array Value} {q : Nat} (h : K2 w a b w1) (hg : w1.grownBy w2 (some q)) (hq : w.heap.size + 2 ≤ q) : K2 w a b w2 :=
  ⟨below_draw h.1 hg (by omega) h.1.size, lies_grown h.2.1 hg (by omega), lies_grown h.2.2 hg (by omega)⟩
end Go.Proofs.YtejgcamogjgdkaaGreatDoor
namespace Go.Proofs.YtejgcamogjgdkaaGreatDoor
open Go.RowKit
set_option linter.unusedVariables false
/-- a slice of integers that came in, as the shells have it -/
def IsRowOf (k : IntKind) (w : World) (a : Option Addr) (len cap : Nat) (zs : List Int) : Prop :=
  (a = none ∧ len = 0 ∧ cap = 0 ∧ zs = []) ∨
  ∃ x, a = some x ∧ len ≤ cap ∧ cap ≤ maxLen ∧ zs.length = cap ∧ (∀ i, i < zs.length → w.cell? (x.add i) = some (.int k (zs.getD i 0))) ∧ ∀ n ∈ zs, (Lit.int k n).wf = true
theorem u8_bd {q : Int} (h : (Lit.int .u8 q).wf = true) : 0 ≤ q ∧ q ≤ 255 := by
  simp [Lit.wf, IntKind.min, IntKind.max, IntKind.signed, IntKind.bits] at h
  exact ⟨h.1, by omega⟩
theorem codeIn_of {w : World} {a : Option Addr} {len cap : Nat} {zs : List Int} (h : IsRowOf .u8 w a len cap zs) : CodeIn w a len ∧ len ≤ 9223372036854775807 := by
  rcases h with ⟨_, h, _, _⟩ | ⟨x, rfl, h1, h2, h3, h4, h5⟩
  · exact ⟨.inl h, by omega⟩
  · refine ⟨?_, by unfold maxLen at h2; omega⟩
    by_cases h0 : len = 0
    · exact .inl h0
    · obtain ⟨b, off, rfl, hc⟩ := ints_at h4 (by omega)
      refine .inr ⟨b, off, rfl, World.block_lt_of_cell? w _ (hc 0 (by omega)), fun i hi => ⟨_, hc i (by omega), ?_⟩⟩
      have hm : zs.getD i 0 ∈ zs := by
        have hlt : i < zs.length := by omega
        rw [show zs.getD i 0 = zs[i] by simp [List.getD, hlt]]; exact List.getElem_mem _
      exact u8_bd (h5 _ hm)
theorem gcd_dvd_tmod (a b : Int) (h : Int.gcd a b ≠ 0) : a.tmod (Int.gcd a b) = 0 ∧ b.tmod (Int.gcd a b) = 0 :=
  ⟨Int.tmod_eq_zero_of_dvd (Int.gcd_dvd_left ..), Int.tmod_eq_zero_of_dvd (Int.gcd_dvd_right ..)⟩
end Go.Proofs.YtejgcamogjgdkaaGreatDoor
namespace Go.Proofs.YtejgcamogjgdkaaGreatDoor
open Go.RowKit
set_option linter.unusedVariables false
/-- a text with at most two bytes more -/
def DamPost (n : Nat) (o : Option Addr) (len cap p : Nat) (w : World) (e : Ending) (w' : World) : Prop :=
  ∃ t : ByteArray, e = .returned (.string t) ∧ t.size ≤ n + 2 ∧ Src w' o len cap p ∧ w.grownBy w' (some p)
theorem lit8 (w : World) (T : TypeId) (r : Nat) (h : r < 8) : ∃ c : ByteArray, c.size = 1 ∧
    (w.alloc (.cells #[.string ⟨#[48]⟩, .string ⟨#[35]⟩, .string ⟨#[46]⟩, .string ⟨#[47]⟩, .string ⟨#[32]⟩, .string ⟨#[97]⟩, .string ⟨#[45]⟩, .string ⟨#[10]⟩] T)).cell? ⟨w.heap.size, r, none⟩ = some (.string c) := by
  rw [World.cell?_alloc_new]
  match r, h with
  | 0, _ => exact ⟨⟨#[48]⟩, rfl, rfl⟩
  | 1, _ => exact ⟨⟨#[35]⟩, rfl, rfl⟩
  | 2, _ => exact ⟨⟨#[46]⟩, rfl, rfl⟩
  | 3, _ => exact ⟨⟨#[47]⟩, rfl, rfl⟩
  | 4, _ => exact ⟨⟨#[32]⟩, rfl, rfl⟩
  | 5, _ => exact ⟨⟨#[97]⟩, rfl, rfl⟩
  | 6, _ => exact ⟨⟨#[45]⟩, rfl, rfl⟩
  | 7, _ => exact ⟨⟨#[10]⟩, rfl, rfl⟩
def litT : Array Value := #[.string ⟨#[48]⟩, .string ⟨#[35]⟩, .string ⟨#[46]⟩, .string ⟨#[47]⟩, .string ⟨#[32]⟩, .string ⟨#[97]⟩, .string ⟨#[45]⟩, .string ⟨#[10]⟩]
theorem dam_a {w w2 w3 : World} {o : Option Addr} {len cap p : Nat} {q : Int} {T : TypeId} (S2 : Src w2 o len cap p) (G2 : w.grownBy w2 (some p)) (q0 : 0 ≤ q) (q1 : q < 8 ∨ q = 0) (hs : Src w3 o len cap p)
    (hg : ((w2.drewN 1).alloc (.cells #[.string ⟨#[48]⟩, .string ⟨#[35]⟩, .string ⟨#[46]⟩, .string ⟨#[47]⟩, .string ⟨#[32]⟩, .string ⟨#[97]⟩, .string ⟨#[45]⟩, .string ⟨#[10]⟩] T)).grownBy w3 (some p)) :
    q < 8 ∧ ∃ c : ByteArray, c.size = 1 ∧ w3.cell? ⟨w2.heap.size, q.toNat, none⟩ = some (.string c) ∧ Hid (Src w3 o len cap p ∧ w.grownBy w3 (some p)) := by
  have q2 : q < 8 := by omega
  obtain ⟨c, hc1, hc⟩ := lit8 (w2.drewN 1) T q.toNat (by omega)
  refine ⟨q2, c, hc1, ?_, ⟨hs, grownBy_tr G2 (grownBy_tr (b := w2.drewN 1) ⟨rfl, rfl, rfl, Nat.le_refl _, fun _ _ _ => rfl⟩ (grownBy_tr (World.grownBy_alloc _ _ _) hg))⟩⟩
  have h := World.grownBy.cell_far hg ⟨w2.heap.size, q.toNat, none⟩ (World.block_lt_of_cell? _ _ hc) (by have := src_lt S2; simp; omega)
  rw [h]; exact hc
theorem dam_b {w w2 w3 : World} {o : Option Addr} {len cap p : Nat} {q : Int} (G2 : w.grownBy w2 (some p)) (q0 : 0 ≤ q) (q1 : q < 8 ∨ q = 0) (hs : Src w3 o len cap p)
    (hg : (w2.drewN 1).grownBy w3 (some p)) :
    q < 8 ∧ ∃ c : ByteArray, c.size = 1 ∧ (w3.alloc (.cells #[.string ⟨#[48]⟩, .string ⟨#[35]⟩, .string ⟨#[46]⟩, .string ⟨#[47]⟩, .string ⟨#[32]⟩, .string ⟨#[97]⟩, .string ⟨#[45]⟩, .string ⟨#[10]⟩] 9)).cell? ⟨w3.heap.size, q.toNat, none⟩ = some (.string c) ∧ Hid (Src w3 o len cap p ∧ w.grownBy w3 (some p)) := by
  have q2 : q < 8 := by omega
  obtain ⟨c, hc1, hc⟩ := lit8 w3 9 q.toNat (by omega)
  exact ⟨q2, c, hc1, hc, ⟨hs, grownBy_tr G2 (grownBy_tr (b := w2.drewN 1) ⟨rfl, rfl, rfl, Nat.le_refl _, fun _ _ _ => rfl⟩ hg)⟩⟩
theorem cut_len (t : ByteArray) (i j : Nat) : (t.extract i j).size ≤ t.size := by rw [ByteArray.size_extract]; omega
theorem app_len (a b : ByteArray) : (a ++ b).size = a.size + b.size := ByteArray.size_append
theorem dam_size {t c : ByteArray} {k : Int} (hk : k.toNat ≤ t.size) (_ : (t.extract 0 k.toNat).size ≤ t.size) (_ : (t.extract k.toNat t.size).size ≤ t.size) (hc : c.size = 1) :
    (t.extract 0 k.toNat ++ c ++ t.extract k.toNat t.size).size ≤ t.size + 2 := by
  rw [app_len, app_len, ByteArray.size_extract, ByteArray.size_extract]; omega
set_option maxHeartbeats 1600000 in
theorem damage_any (t : ByteArray) (o : Option Addr) (len cap p : Nat) (w : World) (ht : t.size ≤ 10000) (hs : Src w o len cap p) :
    Calls Tryz.prog 22 #[.pointer (some ⟨p, 0, none⟩), .string t] w (DamPost t.size o len cap p w) := by
  have HS := Lib.hid hs
  clear hs
  go_enter Tryz.func22, Tryz.ntmps22
  go_wp2_with fail
  refine (next_any _ _ _ _ _ _ (by omega) HS.out).mono ?_
  rintro e w1 ⟨k, rfl, k0, k1, hs1, hg1, hz1⟩
  have H1 := Lib.hid (And.intro hs1 hg1)
  have k2 : k ≤ (t.size : Int) := by omega
  have cl := cut_len t 0 k.toNat
  have cr := cut_len t k.toNat t.size
  clear hs1 hg1 hz1 k1
  go_wp2_with fail
  refine (next_any _ _ _ _ _ _ (by omega) H1.out.1).mono ?_
  rintro e w2 ⟨r, rfl, r0, r1, hs2, hg2, hz2⟩
  have H2 := Lib.hid (And.intro hs2 (grownBy_tr H1.out.2 hg2))
  have r2 : r < 8 := by omega
  clear hs2 hg2 hz2 r1
  by_cases e0 : r = 0
  · subst e0
    go_wp2
    go_ret
    exact ⟨_, rfl, by omega, H2.out.1, H2.out.2⟩
  · have e0' : (r == 0) = false := by simpa using e0
    by_cases e1 : r = 1
    · subst e1
      clear e0 e0'
      go_wp2_with fail
      go_region_with (first
        | (go_at_call 21; refine (next_any 8 o len cap p (World.alloc _ _) (by omega) (src_alloc (src_drewN H2.out.1 1) _)).mono ?_; rintro e w3 ⟨q, rfl, q0, q1, hs3, hg3, hz3⟩; obtain ⟨q2, c, hc1, hc, H3⟩ := dam_a H2.out.1 H2.out.2 q0 q1 hs3 hg3; have al := app_len (t.extract 0 k.toNat) c; clear hs3 hg3 hz3 q1)
        | (go_at_call 21; refine (next_any 8 o len cap p (World.drew _) (by omega) (src_drewN H2.out.1 1)).mono ?_; rintro e w3 ⟨q, rfl, q0, q1, hs3, hg3, hz3⟩; obtain ⟨q2, c, hc1, hc, H3⟩ := dam_b H2.out.2 q0 q1 hs3 hg3; have al := app_len (t.extract 0 k.toNat) c; clear hs3 hg3 hz3 q1))
      all_goals go_wp2
      all_goals go_ret
      · exact ⟨_, rfl, dam_size (by omega) cl cr hc1, H3.out⟩
      · exact ⟨_, rfl, dam_size (by omega) cl cr hc1, src_alloc H3.out.1 _, grownBy_tr H3.out.2 (World.grownBy_alloc _ _ _)⟩
    · have e1' : (r == 1) = false := by simpa using e1
      by_cases e2 : r = 2
      · subst e2
        clear e0 e0' e1 e1'
        by_cases hk : k < (t.size : Int)
        · have cr2 := cut_len t (k + 1).toNat t.size
          have hw : IntKind.i64.wrap (k + 1) = k + 1 := IntWalk.i64_in _ (by omega)
          have hk1 : (0 : Int) ≤ k + 1 := by omega
          have hk2 : k + 1 ≤ (t.size : Int) := by omega
          go_wp2
          go_quiet (fail)
          go_wp2
          go_ret
          exact ⟨_, rfl, by rw [app_len, ByteArray.size_extract, ByteArray.size_extract]; omega, src_drewN H2.out.1 _, grownBy_tr H2.out.2 ⟨rfl, rfl, rfl, Nat.le_refl _, fun _ _ _ => rfl⟩⟩
        · go_wp2
          go_ret
          exact ⟨_, rfl, by omega, H2.out.1, H2.out.2⟩
      · have e2' : (r == 2) = false := by simpa using e2
        clear e0 e1 e2
        go_wp2
        go_ret
        exact ⟨_, rfl, by omega, H2.out.1, H2.out.2⟩
end Go.Proofs.YtejgcamogjgdkaaGreatDoor
namespace Go.Proofs.YtejgcamogjgdkaaGreatDoor
open Go.RowKit
set_option linter.unusedVariables false
set_option linter.unusedSimpArgs false
/-- a valid number for a prime, drawn -/
def ValPostP (p : Int) (o : Option Addr) (len cap q : Nat) (w : World) (e : Ending) (w' : World) : Prop :=
  ∃ v u n : Int, e = .returned (.agg (P4 p v u n)) ∧ POk p v u n ∧ Src w' o len cap q ∧ w.grownBy w' (some q)
set_option maxHeartbeats 1000000 in
theorem padValidP_any (p : Int) (o : Option Addr) (len cap q : Nat) (w : World) (hp : smallB p = true) (hs : Src w o len cap q) :
    Calls Tryz.prog 19 #[.pointer (some ⟨q, 0, none⟩), .int .i64 p] w (ValPostP p o len cap q w) := by
  obtain ⟨hp2, hp97⟩ := smallB_bd hp
  have HP := Lib.hid hp
  have G0 := Lib.hid (gg_alloc (gg_start hs) (.cells (P4 0 0 0 0) 25))
  have L0 := Lib.hid (lies_new w (P4 0 0 0 0) 25)
  have hp4 : ¬ p = 0 := by omega
  have hp5 : (p == 0) = false := by simp; omega
  clear hs hp
  go_enter Tryz.func19, Tryz.ntmps19
  go_wp2_with fail
  refine (next_any _ _ _ _ _ _ (by omega) G0.out.1).mono ?_
  rintro e w1 ⟨r1, rfl, r10, r11, hs1, hg1, hz1⟩
  have G1 := Lib.hid (gg_next G0.out hs1 hg1)
  have L1 := Lib.hid (gg_lies G0.out (Nat.le_refl _) L0.out hg1)
  clear hs1 hg1 hz1 r11 G0 L0
  by_cases hr : r1 = 0
  · subst hr
    go_wp2_with fail
    refine (next_any _ _ _ _ _ _ (by omega) G1.out.1).mono ?_
    rintro e w2 ⟨r2, rfl, r20, r21, hs2, hg2, hz2⟩
    have hr2 : r2 < 13 := by omega
    have G2 := Lib.hid (gg_next G1.out hs2 hg2)
    have L2 := gg_lies G1.out (Nat.le_refl _) L1.out hg2
    obtain ⟨d0, d1, d2, d3⟩ := lies_four L2
    obtain ⟨f0, f1, f2, f3⟩ := lies_ice L2
    have hw := IntWalk.i64_in (r2 - 6) (by omega)
    clear hs2 hg2 hz2 r21 L2
    go_wp2
    refine bodyPost_ret (v := .agg (P4 p (r2 - 6) 0 0)) (by simp [results, Tryz.results19, go_sem, d0, d1, d2, d3]) rfl ?_
    have G3 := gg_set4 G2.out (Nat.le_refl _) (.int .i64 p) (.int .i64 (r2 - 6)) (.int .i64 0) (.int .i64 0)
    exact ⟨_, _, _, rfl, ⟨HP.out, by omega, by omega, by omega, by simp [pw], .inl ⟨rfl, rfl⟩⟩, G3.1, G3.2.1⟩
  · have hr' : (r1 == 0) = false := by simpa using hr
    clear hr
    go_wp2_with fail
    refine (next_any _ _ _ _ _ _ (by omega) G1.out.1).mono ?_
    rintro e w2 ⟨r2, rfl, r20, r21, hs2, hg2, hz2⟩
    have hr2 : r2 < 8 := by omega
    have G2 := Lib.hid (gg_next G1.out hs2 hg2)
    have L2 := Lib.hid (gg_lies G1.out (Nat.le_refl _) L1.out hg2)
    have hw := IntWalk.i64_in (1 + r2) (by omega)
    clear hs2 hg2 hz2 r21 G1 L1
    go_wp2_with fail
    go_loop [5] (fun i => ∃ n : Int, i = .int .i64 n ∧ 1 ≤ n ∧ n ≤ 8) (fun i => (intOf i).toNat)
    case atStart => exact ⟨_, rfl, by omega, by omega⟩
    case round =>
      obtain ⟨n, rfl, hn1, hn8⟩ := hrel
      have HM := Lib.hid fun w => l02Modulus_any p n w HP.out hn1 (by omega)
      by_cases h0 : ringM p n = 0
      · have h0' : (ringM p n == 0) = true := by simp [h0]
        have hn2 : 2 ≤ n := by
          apply Classical.byContradiction; intro hc
          obtain rfl : n = 1 := by omega
          exact ringM_one HP.out h0
        clear h0
        go_wp2_with (first | (go_at_call 46; refine (HM.out _).mono ?_; rintro e' wn ⟨rfl, rfl⟩))
        exact ⟨⟨_, rfl, by omega, by omega⟩, by simp only [intOf]; omega⟩
      · obtain ⟨_, _, _, _, hm1, hm2, _⟩ := ringM_bd h0
        have h0' : (ringM p n == 0) = false := by simpa using h0
        have HPW := Lib.hid (pw_ringM h0)
        generalize ringM p n = m at *
        have hw2 := IntWalk.i64_in (m - 1) (by omega)
        clear h0
        go_wp2_with (first | (go_at_call 46; refine (HM.out _).mono ?_; rintro e' wn ⟨rfl, rfl⟩))
        refine (next_any _ _ _ _ _ _ (by omega) G2.out.1).mono ?_
        rintro e w3 ⟨r3, rfl, r30, r31, hs3, hg3, hz3⟩
        have hr3 : r3 ≤ 1000000000 - 2 := by omega
        have hrm : 1 + r3 < m := by omega
        have G3 := Lib.hid (gg_next G2.out hs3 hg3)
        have L3 := Lib.hid (gg_lies G2.out (Nat.le_refl _) L2.out hg3)
        have hw3 := IntWalk.i64_in (1 + r3) (by omega)
        clear hs3 hg3 hz3 r31 G2 L2 h0' hw2 HM
        go_wp2_with fail
        go_loop [6] (fun i => ∃ u : Int, i = .int .i64 u ∧ 1 ≤ u ∧ u ≤ 1000000000 ∧ u < m) (fun i => (intOf i).toNat)
        case atStart => exact ⟨_, rfl, by omega, by omega, by omega⟩
        case round =>
          obtain ⟨u, rfl, hu1, hu2, hu3⟩ := hrel
          have ht : u.tmod p = u % p := tmod_nonneg (by omega)
          have hq : u.tdiv p = u / p := Int.tdiv_eq_ediv_of_nonneg (by omega)
          have hd := Int.emod_add_mul_ediv u p
          have hm0 := Int.emod_nonneg u hp4
          have hq0 : 0 ≤ u / p := Int.ediv_nonneg (by omega) (by omega)
          have hq1 : u / p ≤ u := Int.ediv_le_self _ (by omega)
          by_cases hz : u % p = 0
          · have hz' : (u % p == 0) = true := by simp [hz]
            have hk1 : 1 ≤ u / p := by
              apply Classical.byContradiction; intro hc
              have : u / p = 0 := by omega
              rw [this, hz] at hd; omega
            have hk2 : u / p < u := by
              have := Int.mul_le_mul_of_nonneg_right hp2 hq0
              omega
            clear hd hz
            go_wp2
            exact ⟨⟨_, rfl, by omega, by omega, by omega⟩, by simp only [intOf]; omega⟩
          · have hz' : (u % p == 0) = false := by simpa using hz
            have HZ := Lib.hid hz
            clear hd hz
            go_wp2_with fail
            refine (next_any _ _ _ _ _ _ (by omega) G3.out.1).mono ?_
            rintro e w4 ⟨r4, rfl, r40, r41, hs4, hg4, hz4⟩
            have hr4 : r4 < 9 := by omega
            have G4 := Lib.hid (gg_next G3.out hs4 hg4)
            have L4 := gg_lies G3.out (Nat.le_refl _) L3.out hg4
            obtain ⟨d0, d1, d2, d3⟩ := lies_four L4
            obtain ⟨f0, f1, f2, f3⟩ := lies_ice L4
            have hw4 := IntWalk.i64_in (r4 - 4) (by omega)
            clear hs4 hg4 hz4 r41 L4
            go_wp2
            refine bodyPost_ret (v := .agg (P4 p (r4 - 4) u n)) (by simp [results, Tryz.results19, go_sem, d0, d1, d2, d3]) rfl ?_
            have G5 := gg_set4 G4.out (Nat.le_refl _) (.int .i64 p) (.int .i64 (r4 - 4)) (.int .i64 u) (.int .i64 n)
            exact ⟨_, _, _, rfl, ⟨HP.out, by omega, by omega, by omega, by rw [← HPW.out]; omega, .inr ⟨hn1, hu1, by rw [← HPW.out]; exact hu3, HZ.out⟩⟩, G5.1, G5.2.1⟩
theorem drawPText_any (o : Option Addr) (len cap : Nat) (w : World) (hl : len ≤ 4096) (hc : CodeIn w o len) :
    Calls Tryz.prog 6 #[.slice o len cap] w (OnePad w) := by
  have HC := Lib.hid (codeIn_below (B := w.heap.size) hc (show Below w.heap.size w (w.alloc (.cells (P4 0 0 0 0) 25)) from below_a1 w _))
  have HC0 := Lib.hid hc
  clear hc
  go_enter Tryz.func6, Tryz.ntmps6
  go_wp2_with fail
  refine (from_any _ _ _ _ hl HC.out).mono ?_
  rintro e w1 ⟨q, rfl, hq, hs1, hb1⟩
  have K := k1_next (k1_new w (P4 0 0 0 0)  25 ) hb1
  have D : DD o len cap q 1 w w1 := ⟨hs1, K.1, by simpa using hq⟩
  clear hs1 hb1 hq
  go_wp2_with fail
  refine (padDraw_any o len cap q _ D.1).mono ?_
  rintro e w2 ⟨p, v, u, n, rfl, _, _, _, _, _, _, _, _, hs2, hg2⟩
  have K2 := k1_grown K hg2 D.2.2
  obtain ⟨c0, c1, c2, c3⟩ := lies_four K2.2
  obtain ⟨cf0, cf1, cf2, cf3⟩ := lies_ice K2.2
  clear hs2 hg2 K D
  go_wp2
  refine bodyPost_ret (v := .agg (P4 p v u n)) (by simp [results, Tryz.results6, go_sem, c0, c1, c2, c3]) rfl ?_
  exact ⟨_, _, _, _, rfl, below_set4 K2.1 (by omega)⟩
theorem small_four {p : Int} (hp : p ∈ [2, 3, 5, 11]) : smallB p = true := by
  simp only [List.mem_cons, List.not_mem_nil, or_false] at hp
  rcases hp with rfl | rfl | rfl | rfl <;> decide
theorem textL_size {p v u n : Int} (h : POk p v u n) : (bsOf (textL p v u n)).size ≤ 1100 := by
  rw [bs_size]
  unfold textL
  obtain ⟨hp2, hp97, _⟩ := pok_bd h
  have hv0 := h.2.1
  have hv1 := h.2.2.1
  have a := itoa_len (n := p) (by omega) (by omega)
  have b := itoa_len (n := v) (by omega) (by omega)
  have c := lastT_len h
  simp only [List.length_append, List.length_cons]
  omega
/-- a text, drawn -/
def TextPost (w : World) (e : Ending) (w' : World) : Prop := ∃ t : ByteArray, e = .returned (.string t) ∧ t.size ≤ 3000 ∧ Below w.heap.size w w'
set_option maxHeartbeats 1600000 in
theorem drawRPad_any (o : Option Addr) (len cap : Nat) (w : World) (hl : len ≤ 4096) (hc : CodeIn w o len) :
    Calls Tryz.prog 9 #[.slice o len cap] w (TextPost w) := by
  have HC := Lib.hid hc
  clear hc
  go_enter Tryz.func9, Tryz.ntmps9
  go_wp2_with fail
  refine (from_any _ _ _ _ hl HC.out).mono ?_
  rintro e w1 ⟨p, rfl, hp, hs1, hb1⟩
  have H1 := Lib.hid (And.intro hs1 hb1)
  have HP := Lib.hid hp
  clear hs1 hb1 hp
  go_wp2_with fail
  refine (pick_at [2, 3, 5, 11] 2 4 o len cap p _ _ (by simp) H1.out.1 (by simp) (by simp)).mono ?_
  rintro e w2 ⟨r, rfl, hr, hs2, hg2⟩
  have HR := Lib.hid (small_four hr)
  have H2 := Lib.hid (And.intro hs2 (below_draw H1.out.2 hg2 HP.out H1.out.2.size))
  clear hs2 hg2 hr
  go_wp2_with fail
  refine (padValidP_any r o len cap p _ HR.out H2.out.1).mono ?_
  rintro e w3 ⟨v, u, n, rfl, hk, hs3, hg3⟩
  have HK := Lib.hid hk
  have H3 := Lib.hid (And.intro hs3 (below_draw H2.out.2 hg3 HP.out H2.out.2.size))
  clear hs3 hg3 hk
  have hsz := textL_size HK.out
  have HX := Lib.hid fun w => l04Text_any r v u n w HK.out
  obtain ⟨tx, htx⟩ : ∃ tx, bsOf (textL r v u n) = tx := ⟨_, rfl⟩
  rw [htx] at HX hsz
  clear htx
  go_wp2_with fail
  refine (HX.out _).mono ?_
  rintro e w4 ⟨rfl, hb4⟩
  have H4 := Lib.hid (And.intro (src_below H3.out.1 hb4 (src_lt H3.out.1)) (H3.out.2.trans (hb4.mono H3.out.2.size)))
  clear hb4
  go_wp2_with fail
  refine (next_any _ _ _ _ _ _ (by omega) H4.out.1).mono ?_
  rintro e w5 ⟨q, rfl, q0, q1, hs5, hg5, hz5⟩
  have H5 := Lib.hid (And.intro hs5 (below_draw H4.out.2 hg5 HP.out H4.out.2.size))
  clear hs5 hg5 hz5 q1
  by_cases hq : q = 0
  · subst hq
    go_wp2_with fail
    refine (damage_any _ _ _ _ _ _ (by omega) H5.out.1).mono ?_
    rintro e w6 ⟨t, rfl, ht, hs6, hg6⟩
    have H6 := Lib.hid (And.intro ht (below_draw H5.out.2 hg6 HP.out H5.out.2.size))
    clear hs6 hg6 ht
    go_wp2
    go_ret
    exact ⟨_, rfl, by have := H6.out.1; omega, H6.out.2⟩
  · have hq' : (q == 0) = false := by simpa using hq
    clear hq
    go_wp2
    go_ret
    exact ⟨_, rfl, by omega, H5.out.2⟩
end Go.Proofs.YtejgcamogjgdkaaGreatDoor
namespace Go.Proofs.YtejgcamogjgdkaaGreatDoor
open Go.RowKit
set_option linter.unusedVariables false
set_option linter.unusedSimpArgs false
/-- both texts: of a number that is valid, or not -/
theorem pt_cases (p v u n : Int) : (ptC p v u n = 0 ∧ IsText (bsOf (ptL p v u n)) (p, v, u, n) ∧ (bsOf (ptL p v u n)).size ≤ 1100) ∨ ptC p v u n = 1 := by
  cases hx : padB p v u n
  · right; simp [ptC, hx]
  · left
    have hk := padB_ok hx
    refine ⟨by simp [ptC, hx], ⟨hk, by simp [ptL, hx]⟩, ?_⟩
    rw [show ptL p v u n = textL p v u n by simp [ptL, hx]]
    exact textL_size hk
theorem pt_text {s : ByteArray} {p v u n : Int} (h : IsText s (p, v, u, n)) : bsOf (ptL p v u n) = s ∧ ptC p v u n = 0 := by
  have hx := ok_padB h.1
  refine ⟨?_, by simp [ptC, hx]⟩
  rw [show ptL p v u n = textL p v u n by simp [ptL, hx]]
  exact h.2
theorem read_text {tx : ByteArray} {p v u n : Int} (h : IsText tx (p, v, u, n)) (hs : tx.size ≤ 1100) (w : World) (he : Env w) (ht : Tab w) :
    Calls Tryz.prog 10 #[.string tx] w fun e w' => e = .returned (.tuple #[.agg (P4 p v u n), .int .i64 0]) ∧ Below w.heap.size w w' := by
  refine (implReadPadic_any tx w (by omega) he ht).mono ?_
  rintro e w' ⟨q, c, rfl, hb, hr⟩
  obtain ⟨rfl, rfl⟩ := read_agree hr (.inl ⟨rfl, h⟩)
  exact ⟨rfl, hb⟩
set_option maxRecDepth 100000 in
set_option maxHeartbeats 4000000 in
theorem ptexts_core (o : Option Addr) (len cap : Nat) (w : World) (hl : len ≤ 4096) (hc : CodeIn w o len) (he : Env w) (ht : Tab w) :
    Calls Tryz.prog 3 #[.slice o len cap] w fun e w' => e = .returned (.bool true) ∧ Below w.heap.size w w' := by
  have HC := Lib.hid hc
  have HE := Lib.hid he
  have HT := Lib.hid ht
  have HB : Below w.heap.size w w := Below.refl _ _
  clear hc he ht
  go_enter Tryz.func3, Tryz.ntmps3
  go_upto_region 3 with (go_at_call 5; refine (big_no _ _ _ _ hl).mono ?_; rintro e w' ⟨rfl, rfl⟩)
  go_upto_region 4 with (first | (go_at_call 6; refine (drawPText_any _ _ _ _ hl HC.out).mono ?_; rintro e w1 ⟨a1, a2, a3, a4, rfl, hb⟩; replace HB := HB.trans (hb.mono HB.size); replace HC := Lib.hid (codeIn_below (B := 0) HC.out hb)))
  clear hb
  have Lx := lies_new w1 (P4 a1 a2 a3 a4) 25
  replace HB := HB.trans ((below_a1 w1 (.cells (P4 a1 a2 a3 a4) 25)).mono HB.size)
  replace HC := Lib.hid (codeIn_below (B := 0) HC.out (below_a1 w1 (.cells (P4 a1 a2 a3 a4) 25)))
  generalize w1.alloc (.cells (P4 a1 a2 a3 a4) 25) = V1 at Lx HB HC ⊢
  obtain ⟨qx, hqx⟩ : ∃ b, w1.heap.size = b := ⟨_, rfl⟩
  rw [hqx] at Lx ⊢
  clear hqx
  have A1 := fun w h => implPadicText_any a1 a2 a3 a4 w h
  have A2 := fun w => specPadicText_any a1 a2 a3 a4 w
  have hpt := pt_cases a1 a2 a3 a4
  generalize bsOf (ptL a1 a2 a3 a4) = tx at A1 A2 hpt
  generalize ptC a1 a2 a3 a4 = tc at A1 A2 hpt
  replace A1 := Lib.hid A1
  replace A2 := Lib.hid A2
  replace hpt := Lib.hid hpt
  have T := tab_below HT.out HB (Nat.le_refl _)
  obtain ⟨x0, x1, x2, x3⟩ := lies_four Lx
  go_upto_region 5 with (first | (go_at_call 7; refine (A1.out _ T).mono ?_; rintro e w2 ⟨rfl, hb⟩; replace Lx := lies_next Lx hb; replace HB := HB.trans (hb.mono HB.size); replace HC := Lib.hid (codeIn_below (B := 0) HC.out hb)))
  clear x0 x1 x2 x3
  clear hb T
  obtain ⟨x0, x1, x2, x3⟩ := lies_four Lx
  go_upto_region 6 with (first | (go_at_call 8; refine (A2.out _).mono ?_; rintro e w3 ⟨rfl, hb⟩; replace Lx := lies_next Lx hb; replace HB := HB.trans (hb.mono HB.size); replace HC := Lib.hid (codeIn_below (B := 0) HC.out hb)))
  clear x0 x1 x2 x3
  clear hb A1 A2
  go_upto_region 7 with (first | (go_at_call 9; refine (drawRPad_any _ _ _ _ hl HC.out).mono ?_; rintro e w4 ⟨s, rfl, hsz, hb⟩; replace Lx := lies_next Lx hb; replace HB := HB.trans (hb.mono HB.size)))
  clear hb HC
  have F1 := Lib.hid fun w he ht => implReadPadic_any s w (by omega) he ht
  have F2 := Lib.hid fun w => specReadPadic_any s w (by omega)
  have E := env_below HE.out HB (Nat.le_refl _)
  have T := tab_below HT.out HB (Nat.le_refl _)
  clear hsz
  go_upto_region 8 with (first | (go_at_call 10; refine (F1.out _ E T).mono ?_; rintro e w5 ⟨⟨q1, q2, q3, q4⟩, cr, rfl, hb, hr⟩; replace Lx := lies_next Lx hb; replace HB := HB.trans (hb.mono HB.size)))
  clear hb E T F1
  replace Lx := lies_alloc Lx (.cells (P4 q1 q2 q3 q4) 25)
  have Ly := lies_new w5 (P4 q1 q2 q3 q4) 25
  replace HB := HB.trans ((below_a1 w5 (.cells (P4 q1 q2 q3 q4) 25)).mono HB.size)
  generalize w5.alloc (.cells (P4 q1 q2 q3 q4) 25) = V5 at Lx Ly HB ⊢
  obtain ⟨qy, hqy⟩ : ∃ b, w5.heap.size = b := ⟨_, rfl⟩
  rw [hqy] at Ly ⊢
  clear hqy
  have HR := Lib.hid hr
  clear hr
  go_upto_region 9 with (first | (go_at_call 11; refine (F2.out _).mono ?_; rintro e w6 ⟨q', cr', rfl, hb, hr'⟩; obtain ⟨rfl, rfl⟩ := read_agree hr' HR.out; replace Lx := lies_next Lx hb; replace Ly := lies_next Ly hb; replace HB := HB.trans (hb.mono HB.size)))
  clear hb F2 hr'
  replace Lx := lies_alloc Lx (.cells (P4 q1 q2 q3 q4) 25)
  replace Ly := lies_alloc Ly (.cells (P4 q1 q2 q3 q4) 25)
  have Lr := lies_new w6 (P4 q1 q2 q3 q4) 25
  replace HB := HB.trans ((below_a1 w6 (.cells (P4 q1 q2 q3 q4) 25)).mono HB.size)
  generalize w6.alloc (.cells (P4 q1 q2 q3 q4) 25) = V6 at Lx Ly Lr HB ⊢
  obtain ⟨qr, hqr⟩ : ∃ b, w6.heap.size = b := ⟨_, rfl⟩
  rw [hqr] at Lr ⊢
  clear hqr
  obtain ⟨x0, x1, x2, x3⟩ := lies_four Lx
  obtain ⟨y0, y1, y2, y3⟩ := lies_four Ly
  obtain ⟨r0, r1, r2, r3⟩ := lies_four Lr
  have T := tab_below HT.out HB (Nat.le_refl _)
  have E := env_below HE.out HB (Nat.le_refl _)
  rcases HR.out with ⟨rfl, hi⟩ | ⟨rfl, _, _⟩
  · obtain ⟨e1, e2⟩ := pt_text hi
    have A3 := fun w h => implPadicText_any q1 q2 q3 q4 w h
    rw [e1, e2] at A3
    replace A3 := Lib.hid A3
    clear hi e1 e2 HR
    rcases hpt.out with ⟨rfl, hx, hxs⟩ | rfl
    · have B1 := Lib.hid fun w he ht => read_text hx hxs w he ht
      clear hx hxs hpt
      go_wp2_with (first
        | (go_at_call 7; refine (A3.out _ T).mono ?_; rintro e w7 ⟨rfl, hb⟩; replace Lx := lies_next Lx hb; replace HB := HB.trans (hb.mono HB.size); have T := tab_below HT.out HB (Nat.le_refl _); have E := env_below HE.out HB (Nat.le_refl _); clear x0 x1 x2 x3 y0 y1 y2 y3 r0 r1 r2 r3; obtain ⟨x0, x1, x2, x3⟩ := lies_four Lx)
        | (go_at_call 10; refine (B1.out _ E T).mono ?_; rintro e w8 ⟨rfl, hb⟩; replace Lx := lies_next Lx hb; replace HB := HB.trans (hb.mono HB.size); have L9 := lies_alloc Lx (.cells (P4 a1 a2 a3 a4) 25); have Lb := lies_new w8 (P4 a1 a2 a3 a4) 25; clear x0 x1 x2 x3; obtain ⟨x0, x1, x2, x3⟩ := lies_four L9; obtain ⟨b0, b1, b2, b3⟩ := lies_four Lb; replace HB := HB.trans ((below_a1 w8 (.cells (P4 a1 a2 a3 a4) 25)).mono HB.size)))
      go_ret
      exact ⟨rfl, HB⟩
    · clear hpt
      go_wp2_with (first
        | (go_at_call 7; refine (A3.out _ T).mono ?_; rintro e w7 ⟨rfl, hb⟩; replace HB := HB.trans (hb.mono HB.size)))
      go_ret
      exact ⟨rfl, HB⟩
  · clear HR
    rcases hpt.out with ⟨rfl, hx, hxs⟩ | rfl
    · have B1 := Lib.hid fun w he ht => read_text hx hxs w he ht
      clear hx hxs hpt
      go_wp2_with (first
        | (go_at_call 10; refine (B1.out _ E T).mono ?_; rintro e w8 ⟨rfl, hb⟩; replace Lx := lies_next Lx hb; replace HB := HB.trans (hb.mono HB.size); have L9 := lies_alloc Lx (.cells (P4 a1 a2 a3 a4) 25); have Lb := lies_new w8 (P4 a1 a2 a3 a4) 25; clear x0 x1 x2 x3; obtain ⟨x0, x1, x2, x3⟩ := lies_four L9; obtain ⟨b0, b1, b2, b3⟩ := lies_four Lb; replace HB := HB.trans ((below_a1 w8 (.cells (P4 a1 a2 a3 a4) 25)).mono HB.size)))
      go_ret
      exact ⟨rfl, HB⟩
    · clear hpt
      go_wp2_with fail
      go_ret
      exact ⟨rfl, HB⟩
theorem ptexts_walk (a : Option Addr) (len cap : Nat) (zs : List Int) (w : World) (h : IsRowOf .u8 w a len cap zs) (he : Env w) (ht : Tab w) :
    Calls Tryz.prog 3 #[.slice a len cap] w fun e w' => e = .returned (.bool true) ∧ Below w.heap.size w w' := by
  obtain ⟨hc, hm⟩ := codeIn_of h
  by_cases hl : len ≤ 4096
  · exact ptexts_core a len cap w hl hc he ht
  · clear hc h
    go_enter Tryz.func3, Tryz.ntmps3
    go_wp2_with (go_at_call 5; refine (big_yes _ _ _ _ (by omega) (by omega)).mono ?_; rintro e w' ⟨rfl, rfl⟩)
    go_ret
    exact ⟨rfl, Below.refl _ _⟩
end Go.Proofs.YtejgcamogjgdkaaGreatDoor
namespace Go.Proofs.YtejgcamogjgdkaaGreatDoor.fnPadicTexts
open Go.ChangeShapes Go.WideShapes Go.ChangeAt Go.RowKit
open Go.ChangeMaps (open_string shut_string)
set_option linter.unusedVariables false
theorem laidOut : laidOutB Tryz.prog = true := by kernel_rfl
theorem own : ownKnob Tryz.prog.godebug = none := by kernel_rfl
set_option maxRecDepth 100000 in
theorem contract (H : Type) (enc : TypeId × Value → H) (W : World) (base : Nat) (args : Array Value) (ds gs : List (DataW H)) (before : List MemPlace)
    (hval : ∀ (j : Nat) t v, Tryz.f3.params[j]? = some t → args[j]? = some v → Value.okWide Tryz.prog W .any base t v)
    (hW : DataW.Whole enc Tryz.prog Tryz.f3.params.toList Rows.fnPadicTextsSpec.vars false W args.toList ds gs before) (hL : laidMetH Tryz.prog Rows.fnPadicTextsRow.laid W) (hS : W.ShapedOpen Tryz.prog) :
    Calls Tryz.prog 3 args W fun e W' => ∃ v, e = .returned v ∧ Rows.fnPadicTextsSpec.post enc Tryz.prog Tryz.f3 false true false false W args v W' := by
  have hW' := hW
  obtain ⟨p, q, hA0, hV, rfl, hfz, hnd⟩ := hW
  have hA : DataW.TrodAll enc Tryz.prog W 0 (fun _ => true) true Tryz.f3.params.toList args.toList ds p := hA0
  rw [Tryz.params3] at hA hval
  obtain ⟨v0, vs0, d0, ds0, p0, q0, hargs, rfl, rfl, h0, r0⟩ := trodAll_cons hA
  obtain ⟨rfl, rfl, rfl⟩ := trodAll_nil r0
  obtain rfl : args = #[v0] := by cases args; simp_all
  obtain ⟨rfl, rfl⟩ := trodVars_none hV
  obtain ⟨a0, len0, cap0, rfl⟩ := okWide_slice Tryz.underlying22 (hval 0 22 v0 rfl rfl)
  have k0 := h0
  have lt0 : ∀ x ∈ p0, x.block < W.heap.size := by obtain ⟨m, hm⟩ := k0; exact DataW.trod_lt m _ _ _ hm
  obtain ⟨z0, w0⟩ : ∃ zs, IsRowOf .u8 W a0 len0 cap0 zs := by
    obtain ⟨fuel, hf⟩ := h0
    rcases open_ints Tryz.underlying22 Tryz.underlying5 (by kernel_rfl) hf with ⟨hcs, _⟩ | ⟨x, l, c, zs, hcs, _, hl, hm, hz, _, hcell, hwz⟩
    · simp [Value.cells] at hcs
      obtain ⟨rfl, rfl, rfl⟩ := hcs
      exact ⟨[], .inl ⟨rfl, rfl, rfl, rfl⟩⟩
    · simp [Value.cells] at hcs
      obtain ⟨rfl, rfl, rfl⟩ := hcs
      exact ⟨zs, .inr ⟨_, rfl, hl, hm, by simpa using hz, hcell, hwz⟩⟩
  clear hA0
  refine (ptexts_walk a0 len0 cap0 z0 W w0 (env_of_laid hL hS) (tab_of_laid hL)).mono fun e W' ⟨he, bel⟩ => ?_
  subst he
  exact ⟨_, rfl, _, _, _, [], _, [], hW', trodAll_mk1 (shut_bool Tryz.underlying4 _), (trodAll_cons_mk (Below.trod laidOut (by kernel_rfl) (of_decide_eq_true (by kernel_rfl)) k0 bel lt0) trodAll_mk0), rfl, bel.frame _, fun h => by cases h⟩
theorem laid_met (os : Os) : laidMet Tryz.prog Rows.fnPadicTextsRow.laid ((laidWorld os).forCall (fun _ _ => 0) ⟨#[], #[.slice none 0 0], []⟩).memory :=
  laidMet_of_run' 8 (by kernel_rfl) (by kernel_rfl)
theorem reads (os : Os) {H : Type} (enc : TypeId × Value → H) : ∃ places, DataW.whole enc Tryz.prog ((laidWorld os).forCall (fun _ _ => 0) ⟨#[], #[.slice none 0 0], []⟩).memory Tryz.f3.params.toList Rows.fnPadicTextsSpec.vars false #[Value.slice none 0 0].toList 8 = some ([.nil], [], places) :=
  ⟨[], by kernel_rfl⟩
set_option maxRecDepth 100000 in
theorem lifted (os : Os) (started : os.Started) (H : Type) (enc : TypeId × Value → H) (F : Stop.Interp) :
    ReturnsInHanded {} Tryz.checked os 3 .any ((OpenSpec.ofChange Rows.fnPadicTextsSpec).preRow enc Tryz.prog Tryz.f3 Rows.fnPadicTextsRow.domain false Rows.fnPadicTextsRow.laid) (((OpenSpec.ofChange Rows.fnPadicTextsSpec).at F).post enc Tryz.prog Tryz.f3 false true false false) := by
  obtain ⟨places, hx⟩ := reads os enc
  refine returnsInHanded_of_row (C := Tryz.checked) (s := OpenSpec.ofChange Rows.fnPadicTextsSpec) own started (by kernel_rfl) Tryz.func3
    (witness_row_at (enc := enc) (C := Tryz.checked) false (laidWorld os) #[.slice none 0 0] rfl (by kernel_rfl) (by kernel_rfl) (by kernel_rfl)
      (OpenSpec.preRow_of_cond 8 hx (by kernel_rfl) (fun k hk => by cases hk) (by kernel_rfl) (laid_met os))) ?_
  intro W base args ds gs before hval hW _ _ _ hL hS _
  exact contract H enc W base args ds gs before hval hW hL hS
theorem said : Rows.FnPadicTextsSaid :=
  OpenClaim.holds_of_cond 3 Tryz.f3 rfl rfl rfl rfl rfl rfl rfl ⟨rfl, rfl, rfl, rfl, rfl⟩ rfl rfl rfl rfl rfl (by kernel_rfl) Tryz.func3 (by kernel_rfl)
    (of_decide_eq_true (by kernel_rfl)) (by unfold Func.isWrapper; first | (rw [if_pos (by decide +kernel)]; kernel_rfl) | (rw [if_neg (by decide +kernel)]; exact ⟨rfl, rfl⟩))
    (fun os started H enc _ F => by rw [OpenClaim.pre_eq_preRow]; exact lifted os started H enc F)
theorem plain (f : FuncId) (fn : Func) (hf : Tryz.pinned.checked.prog.funcNamed "loop.example/g01000/laws.FnPadicTexts" = some f) (hfn : Tryz.pinned.checked.prog.funcs[f]? = some fn) :
    true = Tryz.pinned.checked.prog.looks [] ∧ ∀ (j : Nat) t, fn.params[j]? = some t → Tryz.pinned.checked.prog.wantsStandIn t = false := by
  obtain rfl : f = 3 := Option.some.inj ((show Tryz.prog.funcNamed "loop.example/g01000/laws.FnPadicTexts" = some 3 by kernel_rfl).symm.trans hf) |>.symm
  obtain rfl : fn = Tryz.f3 := (Option.some.inj (Tryz.func3.symm.trans hfn)).symm
  refine ⟨by kernel_rfl, fun j t ht => ?_⟩
  rw [Tryz.params3] at ht
  obtain rfl : t = 22 := by simpa using Array.mem_of_getElem? ht
  exact (show Tryz.prog.wantsStandIn 22 = false by kernel_rfl)
/-- THE CARD -/
theorem card : Rows.FnPadicTextsCardSaid :=
  Claim7.holds_tied_plain_at .later [] _ _ _ _ said (fun _ h => by cases h) (by kernel_rfl) (fun _ h => by cases h) fnPadicTexts_row_tie rfl ⟨rfl, rfl⟩ (by kernel_rfl) rfl plain (by kernel_rfl)
#print axioms card
end Go.Proofs.YtejgcamogjgdkaaGreatDoor.fnPadicTexts
