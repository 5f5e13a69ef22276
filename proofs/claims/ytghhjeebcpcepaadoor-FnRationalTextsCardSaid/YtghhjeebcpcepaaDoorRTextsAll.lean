/- Proved here: the Go law FnRationalTexts of this seat answers true at every input and leaves its argument as it was; the card ties the listed variables of Go's library (tables and the two errors of strconv) to the program's text. No further condition. (joined of several texts) -/
import Derived.Test.YtghhjeebcpcepaaDoorRatLow
import Derived.Test.YtghhjeebcpcepaaDoorPadExp2
import Derived.RegionTactic
import Derived.Test.YtghhjeebcpcepaaDoorReadMath2
import Derived.Deep.RegionWith
import Derived.Deep.DeepCutAuto
import Derived.Test.YtghhjeebcpcepaaDoorRows
import Derived.WalkKit
import Derived.ProofKit
import Derived.OpenShut
import Derived.Deep.DeepHandedRow
import Derived.Lib.LaidTab
import Derived.Stop.LaidErr
import Derived.Stop.Texts
import Derived.WideShapes
import Derived.HandedShaped
import Derived.Test.YtghhjeebcpcepaaDoorDraw
import Derived.StillTailTactics
import Derived.Deep.AppendLies
import Derived.Test.YtghhjeebcpcepaaDoorBez
import Derived.Test.YtghhjeebcpcepaaDoorRingLaw
import Derived.Test.YtghhjeebcpcepaaDoorPadExp
import Derived.IntWalk
import Derived.Test.YtghhjeebcpcepaaDoorDec
import Derived.Deep.QuietTactic
import Derived.Test.YtghhjeebcpcepaaDoorCards
import Derived.Test.YtghhjeebcpcepaaDoorTie
import Derived.ChangeOld
import Derived.ShutString
import Derived.Below
namespace Go.Proofs.YtghhjeebcpcepaaDoor
open Go.RowKit
set_option linter.unusedVariables false
set_option linter.unusedSimpArgs false
set_option maxRecDepth 20000
set_option maxHeartbeats 400000 in
theorem gdW_any (a b : Int) (w : World) (ha1 : -4000000000000000000 ≤ a) (ha2 : a ≤ 4000000000000000000) (hb1 : -4000000000000000000 ≤ b) (hb2 : b ≤ 4000000000000000000) :
    Calls Tryd.prog 65 #[.int .i64 a, .int .i64 b] w fun e w' => e = .returned (.int .i64 (Int.gcd a b)) ∧ ∃ n, w' = w.drewN n := by
  go_enter Tryd.func65, Tryd.ntmps65
  go_wp2
  go_loopw [0, 1] (fun s t wr => ∃ x y : Int, -4000000000000000000 ≤ x ∧ x ≤ 4000000000000000000 ∧ -4000000000000000000 ≤ y ∧ y ≤ 4000000000000000000 ∧ s = .int .i64 x ∧ t = .int .i64 y ∧ Int.gcd x y = Int.gcd a b ∧ ∃ n, wr = w.drewN n) (fun _ t _ => (intOf t).natAbs)
  case atStart => exact ⟨a, b, ha1, ha2, hb1, hb2, rfl, rfl, rfl, 0, rfl⟩
  case round =>
    obtain ⟨x, y, hx1, hx2, hy1, hy2, rfl, rfl, hg, n, rfl⟩ := hrel
    have HG := Lib.hid hg
    clear hg ha1 ha2 hb1 hb2
    by_cases hy : y = 0
    · subst hy
      go_wp2
      · go_ret
        exact ⟨ret_int (by have h := HG.out; rw [Int.gcd_zero_right] at h; rw [← h]; omega), n, rfl⟩
      · go_ret
        exact ⟨ret_int (by have h := HG.out; rw [Int.gcd_zero_right] at h; rw [← h]; omega), n, rfl⟩
    · have hy' : (y == 0) = false := by simpa using hy
      have hy'' : (y != 0) = true := by simpa using hy
      go_wp2
      go_quiet (fail)
      go_wp2
      have h1 := tmod_lt x hy
      have h2 := tmod_le x y
      refine ⟨⟨y, x.tmod y, by omega, by omega, by omega, by omega, rfl, rfl, by rw [gcd_tmod, HG.out], n + nq, by rw [World.drewN_drewN]⟩, by simpa [intOf] using h1⟩
theorem l01AbsW_any (a : Int) (w : World) (h1 : -4000000000000000000 ≤ a) (h2 : a ≤ 4000000000000000000) :
    Calls Tryd.prog 80 #[.int .i64 a] w fun e w' => e = .returned (.int .i64 (a.natAbs : Int)) ∧ w = w' := by
  by_cases h : 0 ≤ a
  all_goals
    go_enter Tryd.func80, Tryd.ntmps80
    go_wp2
    go_ret
    exact ⟨ret_int (by omega), rfl⟩
set_option maxHeartbeats 400000 in
theorem l01GcdW_any (a b : Int) (w : World) (ha1 : -4000000000000000000 ≤ a) (ha2 : a ≤ 4000000000000000000) (hb1 : -4000000000000000000 ≤ b) (hb2 : b ≤ 4000000000000000000) :
    Calls Tryd.prog 67 #[.int .i64 a, .int .i64 b] w fun e w' => e = .returned (.int .i64 (Int.gcd a b)) ∧ ∃ n, w' = w.drewN n := by
  go_enter Tryd.func67, Tryd.ntmps67
  go_wp2_with (go_at_call 80; refine (l01AbsW_any _ _ (by omega) (by omega)).mono ?_; rintro e w' ⟨rfl, rfl⟩)
  go_loopw [0, 1] (fun s t wr => ∃ x y : Nat, x ≤ 4000000000000000000 ∧ y ≤ 4000000000000000000 ∧ s = .int .i64 x ∧ t = .int .i64 y ∧ Int.gcd x y = Int.gcd a b ∧ ∃ n, wr = w.drewN n) (fun _ t _ => (intOf t).natAbs)
  case atStart => exact ⟨a.natAbs, b.natAbs, by omega, by omega, rfl, rfl, rfl, 0, rfl⟩
  case round =>
    obtain ⟨x, y, hx2, hy2, rfl, rfl, hg, n, rfl⟩ := hrel
    have HG := Lib.hid hg
    clear hg ha1 ha2 hb1 hb2
    by_cases hy : y = 0
    · subst hy
      go_wp2
      go_ret
      exact ⟨ret_int (by rw [← HG.out, Int.natCast_zero, Int.gcd_zero_right]; omega), n, rfl⟩
    · have hy' : ((y : Int) == 0) = false := by simpa using hy
      have hy'' : ((y : Int) != 0) = true := by simpa using hy
      go_wp2
      go_quiet (fail)
      go_wp2
      have h1 : x % y < y := Nat.mod_lt _ (by omega)
      exact ⟨⟨y, x % y, by omega, by omega, rfl, by rw [Int.natCast_emod], by rw [← HG.out]; exact gcd_nmod x y, n + nq, by rw [World.drewN_drewN]⟩, by simp only [intOf]; omega⟩
theorem ratValid_any (n d : Int) (w : World) :
    Calls Tryd.prog 45 #[.agg (P2 n d)] w fun e w' => e = .returned (.bool (isRatB n d)) ∧ Below w.heap.size w w' := by
  cases hn : valueB n
  · have HE := Lib.hid (isRat_val (d := d) hn)
    go_enter Tryd.func45, Tryd.ntmps45
    go_wp2_with (first | (go_at_call 64; refine (isValue_any _ _).mono ?_; rintro e w' ⟨rfl, rfl⟩))
    go_ret
    exact ⟨ret_bool HE.out.symm, by first | exact below_a1 w _ | exact below_drewN (below_a1 w _) _⟩
  · cases hd : valueB d
    · have HE := Lib.hid (show isRatB n d = false by
        cases h : isRatB n d
        · rfl
        · obtain ⟨_, _, h3, h4, _⟩ := isRat_of h
          rw [valueB_t (by omega) h4] at hd; cases hd)
      go_enter Tryd.func45, Tryd.ntmps45
      go_wp2_with (first | (go_at_call 64; refine (isValue_any _ _).mono ?_; rintro e w' ⟨rfl, rfl⟩))
      go_ret
      exact ⟨ret_bool HE.out.symm, by first | exact below_a1 w _ | exact below_drewN (below_a1 w _) _⟩
    · by_cases h0 : 0 < d
      · have bn := valueB_bd hn
        have bd := valueB_bd hd
        have HE := Lib.hid (show isRatB n d = ((Int.gcd n d : Int) == 1) by
          rw [isRatB, hn, inB_t (by omega) bd.2]
          cases hg : ((Int.gcd n d : Int) == 1)
          · rw [decide_eq_false (by simp at hg; omega)]; rfl
          · rw [decide_eq_true (by simp at hg; omega)]; rfl)
        obtain ⟨bn1, bn2⟩ := bn
        obtain ⟨bd1, bd2⟩ := bd
        go_enter Tryd.func45, Tryd.ntmps45
        go_wp2_with (first | (go_at_call 64; refine (isValue_any _ _).mono ?_; rintro e w' ⟨rfl, rfl⟩) | (go_at_call 65; refine (gdW_any _ _ _ (by omega) (by omega) (by omega) (by omega)).mono ?_; rintro e w' ⟨rfl, nd, rfl⟩))
        go_ret
        exact ⟨ret_bool HE.out.symm, by first | exact below_a1 w _ | exact below_drewN (below_a1 w _) _⟩
      · have HE := Lib.hid (show isRatB n d = false by
          cases h : isRatB n d
          · rfl
          · obtain ⟨_, _, h3, h4, _⟩ := isRat_of h
            omega)
        go_enter Tryd.func45, Tryd.ntmps45
        go_wp2_with (first | (go_at_call 64; refine (isValue_any _ _).mono ?_; rintro e w' ⟨rfl, rfl⟩))
        go_ret
        exact ⟨ret_bool HE.out.symm, by first | exact below_a1 w _ | exact below_drewN (below_a1 w _) _⟩
theorem specIsRational_any (n d : Int) (w : World) :
    Calls Tryd.prog 47 #[.agg (P2 n d)] w fun e w' => e = .returned (.bool (isRatB n d)) ∧ Below w.heap.size w w' := by
  cases hn : valueB n
  · have HE := Lib.hid (isRat_val (d := d) hn)
    go_enter Tryd.func47, Tryd.ntmps47
    go_wp2_with (first | (go_at_call 66; refine (l01Is_any _ _).mono ?_; rintro e w' ⟨rfl, rfl⟩))
    go_ret
    exact ⟨ret_bool HE.out.symm, by first | exact below_a1 w _ | exact below_drewN (below_a1 w _) _⟩
  · cases hd : inB d 1 1000000000000
    · have HE := Lib.hid (show isRatB n d = false by simp [isRatB, hd])
      go_enter Tryd.func47, Tryd.ntmps47
      go_wp2_with (first | (go_at_call 66; refine (l01Is_any _ _).mono ?_; rintro e w' ⟨rfl, rfl⟩) | (go_at_call 59; refine (in_any _ _ _ _).mono ?_; rintro e w' ⟨rfl, rfl⟩))
      go_ret
      exact ⟨ret_bool HE.out.symm, by first | exact below_a1 w _ | exact below_drewN (below_a1 w _) _⟩
    · obtain ⟨bn1, bn2⟩ := valueB_bd hn
      have bd : 1 ≤ d ∧ d ≤ 1000000000000 := by simpa [inB] using hd
      obtain ⟨bd1, bd2⟩ := bd
      have HE := Lib.hid (show isRatB n d = ((Int.gcd n d : Int) == 1) by
        rw [isRatB, hn, hd]
        cases hg : ((Int.gcd n d : Int) == 1)
        · rw [decide_eq_false (by simp at hg; omega)]; rfl
        · rw [decide_eq_true (by simp at hg; omega)]; rfl)
      go_enter Tryd.func47, Tryd.ntmps47
      go_wp2_with (first | (go_at_call 66; refine (l01Is_any _ _).mono ?_; rintro e w' ⟨rfl, rfl⟩) | (go_at_call 59; refine (in_any _ _ _ _).mono ?_; rintro e w' ⟨rfl, rfl⟩) | (go_at_call 67; refine (l01GcdW_any _ _ _ (by omega) (by omega) (by omega) (by omega)).mono ?_; rintro e w' ⟨rfl, nd, rfl⟩))
      go_ret
      exact ⟨ret_bool HE.out.symm, by first | exact below_a1 w _ | exact below_drewN (below_a1 w _) _⟩
end Go.Proofs.YtghhjeebcpcepaaDoor
namespace Go.Proofs.YtghhjeebcpcepaaDoor
open Go.RowKit
set_option linter.unusedVariables false
set_option linter.unusedSimpArgs false
set_option maxRecDepth 20000
theorem below_set2 {w w1 : World} {b : Nat} {x0 x1 : Value} (h : Below w.heap.size w w1) (hb : w.heap.size ≤ b) :
    Below w.heap.size w ((w1.setCell ⟨b, 0, none⟩ x0).setCell ⟨b, 1, none⟩ x1) := (h.setCell hb _).setCell hb _
/-- what the two divisions need -/
theorem quo_facts {n d G : Int} (hd : d ≠ 0) (hG : rlG n d = G) (n0 : -4000000000000000000 ≤ n) (n1 : n ≤ 4000000000000000000) (d0 : -4000000000000000000 ≤ d) (d1 : d ≤ 4000000000000000000) :
    ¬ G = 0 ∧ (G == 0) = false ∧ n.tdiv G = rlN n d ∧ d.tdiv G = rlD n d ∧ IntKind.i64.wrap (rlN n d) = rlN n d ∧ IntKind.i64.wrap (rlD n d) = rlD n d := by
  subst hG
  have h := rlG_ne (n := n) hd
  obtain ⟨b1, b2⟩ := low_bd n d
  exact ⟨h, by simpa using h, rfl, rfl, IntWalk.i64_in _ (by omega), IntWalk.i64_in _ (by omega)⟩
theorem k2_drewnew (w : World) (a b : Array Value) (T T' : TypeId) (k : Nat) : K2 w a b (((w.alloc (.cells a T)).drewN k).alloc (.cells b T')) :=
  ⟨(below_drewN (below_a1 w _) k).alloc (by simp) _, lies_alloc (lies_drewN lies_one k) _, by have := lies_new ((w.alloc (.cells a T)).drewN k) b T'; simpa using this⟩
set_option maxHeartbeats 1000000 in
theorem l05Make_any (n d : Int) (w : World) (hd : d ≠ 0) (n0 : -4000000000000000000 ≤ n) (n1 : n ≤ 4000000000000000000) (d0 : -4000000000000000000 ≤ d) (d1 : d ≤ 4000000000000000000) :
    Calls Tryd.prog 69 #[.int .i64 n, .int .i64 d] w fun e w' => e = .returned (.tuple #[.agg (A2 (rresQ (rlN n d) (rlD n d))), .int .i64 (rlimC (rlN n d) (rlD n d))]) ∧ Below w.heap.size w w' := by
  obtain ⟨G, hG⟩ : ∃ G, rlG n d = G := ⟨_, rfl⟩
  have HQ := Lib.hid (quo_facts hd hG n0 n1 d0 d1)
  have g0 := gcd_ge1 (n := n) hd
  have g1 := gcd_le (n := n) hd d0 d1
  cases hx : isRatB (rlN n d) (rlD n d)
  · rw [show rresQ (rlN n d) (rlD n d) = (0, 0) by simp [rresQ, hx], show rlimC (rlN n d) (rlD n d) = 3 by simp [rlimC, hx]]
    by_cases hs : d < 0
    · have HG := Lib.hid (show -(Int.gcd n d : Int) = G by rw [← hG, rlG, if_pos hs])
      clear hG
      go_enter Tryd.func69, Tryd.ntmps69
      go_wp2_with (go_at_call 67; refine (l01GcdW_any _ _ _ (by omega) (by omega) (by omega) (by omega)).mono ?_; rintro e w' ⟨rfl, nd, rfl⟩)
      rw [HG.out]
      clear g0 g1 HG hd
      obtain ⟨q0, q1, q2, q3, q4, q5⟩ := HQ.out
      clear n0 n1 d0 d1 hs HQ
      go_region
      clear q0 q1 q2 q3 q4 q5
      go_wp2_with (go_at_call 47; refine (specIsRational_any _ _ _).mono ?_; rintro e wn ⟨rfl, hb⟩; have K := k2_next (k2_drewnew w (P2 0 0) (P2 (rlN n d) (rlD n d)) _ _ _) hb; obtain ⟨c0, c1⟩ := lies_pair K.2.1; obtain ⟨d0, d1⟩ := lies_pair K.2.2; have cf0 := lies_frozen K.2.1 0; have cf1 := lies_frozen K.2.1 1)
      refine bodyPost_ret (v := .tuple #[.agg (P2 0 0), .int .i64 3]) (by simp [results, Tryd.results69, go_sem, c0, c1, d0, d1]) rfl ?_
      exact ⟨rfl, below_set2 K.1 (by omega)⟩
    · have HG := Lib.hid (show (Int.gcd n d : Int) = G by rw [← hG, rlG, if_neg hs])
      clear hG
      go_enter Tryd.func69, Tryd.ntmps69
      go_wp2_with (go_at_call 67; refine (l01GcdW_any _ _ _ (by omega) (by omega) (by omega) (by omega)).mono ?_; rintro e w' ⟨rfl, nd, rfl⟩)
      rw [HG.out]
      clear g0 g1 HG hd
      obtain ⟨q0, q1, q2, q3, q4, q5⟩ := HQ.out
      clear n0 n1 d0 d1 hs HQ
      go_region
      clear q0 q1 q2 q3 q4 q5
      go_wp2_with (go_at_call 47; refine (specIsRational_any _ _ _).mono ?_; rintro e wn ⟨rfl, hb⟩; have K := k2_next (k2_drewnew w (P2 0 0) (P2 (rlN n d) (rlD n d)) _ _ _) hb; obtain ⟨c0, c1⟩ := lies_pair K.2.1; obtain ⟨d0, d1⟩ := lies_pair K.2.2; have cf0 := lies_frozen K.2.1 0; have cf1 := lies_frozen K.2.1 1)
      refine bodyPost_ret (v := .tuple #[.agg (P2 0 0), .int .i64 3]) (by simp [results, Tryd.results69, go_sem, c0, c1, d0, d1]) rfl ?_
      exact ⟨rfl, below_set2 K.1 (by omega)⟩
  · rw [show rresQ (rlN n d) (rlD n d) = (rlN n d, rlD n d) by simp [rresQ, hx], show rlimC (rlN n d) (rlD n d) = 0 by simp [rlimC, hx]]
    by_cases hs : d < 0
    · have HG := Lib.hid (show -(Int.gcd n d : Int) = G by rw [← hG, rlG, if_pos hs])
      clear hG
      go_enter Tryd.func69, Tryd.ntmps69
      go_wp2_with (go_at_call 67; refine (l01GcdW_any _ _ _ (by omega) (by omega) (by omega) (by omega)).mono ?_; rintro e w' ⟨rfl, nd, rfl⟩)
      rw [HG.out]
      clear g0 g1 HG hd
      obtain ⟨q0, q1, q2, q3, q4, q5⟩ := HQ.out
      clear n0 n1 d0 d1 hs HQ
      go_region
      clear q0 q1 q2 q3 q4 q5
      go_wp2_with (go_at_call 47; refine (specIsRational_any _ _ _).mono ?_; rintro e wn ⟨rfl, hb⟩; have K := k2_next (k2_drewnew w (P2 0 0) (P2 (rlN n d) (rlD n d)) _ _ _) hb; obtain ⟨c0, c1⟩ := lies_pair K.2.1; obtain ⟨d0, d1⟩ := lies_pair K.2.2; have cf0 := lies_frozen K.2.1 0; have cf1 := lies_frozen K.2.1 1)
      refine bodyPost_ret (v := .tuple #[.agg (P2 (rlN n d) (rlD n d)), .int .i64 0]) (by simp [results, Tryd.results69, go_sem, c0, c1, d0, d1]) rfl ?_
      exact ⟨rfl, below_set2 K.1 (by omega)⟩
    · have HG := Lib.hid (show (Int.gcd n d : Int) = G by rw [← hG, rlG, if_neg hs])
      clear hG
      go_enter Tryd.func69, Tryd.ntmps69
      go_wp2_with (go_at_call 67; refine (l01GcdW_any _ _ _ (by omega) (by omega) (by omega) (by omega)).mono ?_; rintro e w' ⟨rfl, nd, rfl⟩)
      rw [HG.out]
      clear g0 g1 HG hd
      obtain ⟨q0, q1, q2, q3, q4, q5⟩ := HQ.out
      clear n0 n1 d0 d1 hs HQ
      go_region
      clear q0 q1 q2 q3 q4 q5
      go_wp2_with (go_at_call 47; refine (specIsRational_any _ _ _).mono ?_; rintro e wn ⟨rfl, hb⟩; have K := k2_next (k2_drewnew w (P2 0 0) (P2 (rlN n d) (rlD n d)) _ _ _) hb; obtain ⟨c0, c1⟩ := lies_pair K.2.1; obtain ⟨d0, d1⟩ := lies_pair K.2.2; have cf0 := lies_frozen K.2.1 0; have cf1 := lies_frozen K.2.1 1)
      refine bodyPost_ret (v := .tuple #[.agg (P2 (rlN n d) (rlD n d)), .int .i64 0]) (by simp [results, Tryd.results69, go_sem, c0, c1, d0, d1]) rfl ?_
      exact ⟨rfl, below_set2 K.1 (by omega)⟩
end Go.Proofs.YtghhjeebcpcepaaDoor
namespace Go.Proofs.YtghhjeebcpcepaaDoor
open Go.RowKit Go.Shelf
set_option linter.unusedVariables false
set_option linter.unusedSimpArgs false
theorem itoa_char {n : Int} {c : UInt8} (h : c ∈ Lib.itoa n) : isDig c = true ∨ c = 45 := by
  unfold Lib.itoa at h
  split at h
  · rcases List.mem_cons.1 h with rfl | h
    · exact .inr rfl
    · exact .inl (List.all_eq_true.1 (decDigits_val _).1 c h)
  · exact .inl (List.all_eq_true.1 (decDigits_val _).1 c h)
theorem itoa_no (n : Int) {b : UInt8} (h1 : isDig b = false) (h2 : b ≠ 45) : b ∉ Lib.itoa n := by
  intro h
  rcases itoa_char h with h | h
  · rw [h] at h1; cases h1
  · exact h2 h
theorem ret_str2 {a b : ByteArray} (h : a = b) : Ending.returned (.string a) = .returned (.string b) := by rw [h]
theorem itoa_neg {n : Int} (h : n < 0) : bsOf [45] ++ bsOf (Lib.itoa (-n)) = bsOf (Lib.itoa n) := by
  rw [bs_append]
  congr 1
  unfold Lib.itoa
  rw [if_pos h, if_neg (by omega), show (-n).toNat = n.natAbs by omega]
  rfl
theorem rdV_bd (s : ByteArray) : 0 ≤ rdV s ∧ rdV s ≤ 10000000000000 := by
  unfold rdV
  split
  · rename_i h
    have e : s.data.toList.take s.size = s.data.toList := List.take_of_length_le (by simp)
    have := dig_bd s s.size h.2.1 (by rw [e]; exact h.2.2)
    rw [e] at this; exact this
  · omega
def negS (s : ByteArray) : Bool := if h : 0 < s.size then s[0] == 45 else false
def sgV (s : ByteArray) : Int := if negS s then -(rdV (s.extract 1 s.size)) else rdV s
def sgOk (s : ByteArray) : Bool := if negS s then rdOk (s.extract 1 s.size) && decide (0 < rdV (s.extract 1 s.size)) else rdOk s
theorem l01Signed_any (s : ByteArray) (w : World) (hs : s.size ≤ 2000000) :
    Calls Tryd.prog 50 #[.string s] w fun e w' => e = .returned (.tuple #[.int .i64 (sgV s), .bool (sgOk s)]) ∧ Below w.heap.size w w' := by
  by_cases h0 : 0 < s.size
  · by_cases h1 : s[0] = 45
    · have e1 : negS s = true := by simp [negS, h0, h1]
      have hV : sgV s = -(rdV (s.extract 1 s.size)) := by simp [sgV, e1]
      have hO : sgOk s = (rdOk (s.extract 1 s.size) && decide (0 < rdV (s.extract 1 s.size))) := by simp [sgOk, e1]
      rw [hV, hO]
      have hb := rdV_bd (s.extract 1 s.size)
      have HV := Lib.hid fun w => l01Value_any (s.extract 1 s.size) w (by rw [ByteArray.size_extract]; omega)
      have h1' : ((s[0].toNat : Int) == 45) = true := u8_eq (b := 45) h1
      clear hV hO e1 h1
      generalize rdV (s.extract 1 s.size) = x at *
      generalize rdOk (s.extract 1 s.size) = b at *
      obtain ⟨hx0, hx1⟩ := hb
      have hw : IntKind.i64.wrap (-x) = -x := IntWalk.i64_in _ (by omega)
      cases b
      · go_enter Tryd.func50, Tryd.ntmps50
        go_wp2_with (go_at_call 43; refine (HV.out _).mono ?_; rintro e wn ⟨rfl, hb⟩)
        go_ret2
        exact ⟨rfl, hb⟩
      · by_cases hx : 0 < x
        · go_enter Tryd.func50, Tryd.ntmps50
          go_wp2_with (go_at_call 43; refine (HV.out _).mono ?_; rintro e wn ⟨rfl, hb⟩)
          go_ret2
          exact ⟨by simp [hx], hb⟩
        · go_enter Tryd.func50, Tryd.ntmps50
          go_wp2_with (go_at_call 43; refine (HV.out _).mono ?_; rintro e wn ⟨rfl, hb⟩)
          go_ret2
          exact ⟨by simp [hx], hb⟩
    · have e1 : negS s = false := by simp [negS, h0, h1]
      have hV : sgV s = rdV s := by simp [sgV, e1]
      have hO : sgOk s = rdOk s := by simp [sgOk, e1]
      rw [hV, hO]
      have HV := Lib.hid fun w => l01Value_any s w (by omega)
      have h1' : ((s[0].toNat : Int) == 45) = false := u8_ne (b := 45) h1
      clear hV hO e1 h1
      generalize rdV s = x at *
      generalize rdOk s = b at *
      go_enter Tryd.func50, Tryd.ntmps50
      go_wp2_with (go_at_call 43; refine (HV.out _).mono ?_; rintro e wn ⟨rfl, hb⟩)
      go_ret2
      exact ⟨rfl, hb⟩
  · have e1 : negS s = false := by simp [negS, h0]
    have hV : sgV s = rdV s := by simp [sgV, e1]
    have hO : sgOk s = rdOk s := by simp [sgOk, e1]
    rw [hV, hO]
    have HV := Lib.hid fun w => l01Value_any s w (by omega)
    have h0' : (s.size : Int) = 0 := by omega
    clear hV hO e1
    generalize rdV s = x at *
    generalize rdOk s = b at *
    go_enter Tryd.func50, Tryd.ntmps50
    go_wp2_with (go_at_call 43; refine (HV.out _).mono ?_; rintro e wn ⟨rfl, hb⟩)
    go_ret2
    exact ⟨rfl, hb⟩
theorem neg_dig {l : List UInt8} (h : l.all isDig = true) : negS (bsOf l) = false := by
  unfold negS
  split
  · rename_i h0
    rw [List.all_eq_true] at h
    have hm : (bsOf l).data[0] ∈ (bsOf l).data.toList := by simp
    have e : (bsOf l).data.toList = l := by simp [bsOf]
    rw [e] at hm
    have := h _ hm
    change isDig (bsOf l)[0] = true at this
    cases hb : (bsOf l)[0] == 45
    · rfl
    · have e : (bsOf l)[0] = 45 := by simpa using hb
      rw [e] at this; cases this
  · rfl
theorem sg_nat {n : Int} (h0 : 0 ≤ n) (h1 : n < 10000000000000) : sgV (bsOf (Lib.itoa n)) = n ∧ sgOk (bsOf (Lib.itoa n)) = true := by
  obtain ⟨d1, d2⟩ := decDigits_val n.toNat
  have hl := decDigits_len 12 n.toNat (by omega)
  have hp : 1 ≤ (Lib.decDigits n.toNat).length := by rw [Lib.decDigits]; split <;> simp
  have hn : negS (bsOf (Lib.itoa n)) = false := by rw [itoa_nat h0]; exact neg_dig d1
  unfold sgV sgOk
  rw [hn]
  refine ⟨rdV_itoa h0 h1, ?_⟩
  show rdOk (bsOf (Lib.itoa n)) = true
  rw [itoa_nat h0, (rd_good (s := bsOf (Lib.decDigits n.toNat)) (by rw [bs_size]; exact hp) (by rw [bs_size]; exact hl) d1).2]
  refine decide_eq_true ?_
  rw [show valL (bsOf (Lib.decDigits n.toNat)).data.toList = n by
    show valL (Lib.decDigits n.toNat) = n
    rw [d2]; omega, itoa_nat h0]
theorem itoa_lenV {n : Int} (h0 : -1000000000000 ≤ n) (h1 : n ≤ 1000000000000) : (Lib.itoa n).length ≤ 20 := by
  unfold Lib.itoa
  split
  · have := decDigits_len 12 n.natAbs (by omega)
    simp; omega
  · have := decDigits_len 12 n.toNat (by omega)
    omega
theorem parseU_decV (k : Nat) (h : k ≤ 1000000000000) : Lib.parseUintB 64 (Lib.decDigits k) = .ok k := by
  obtain ⟨d1, d2⟩ := decDigits_val k
  have hl := decDigits_len 12 k (by omega)
  obtain ⟨l, hL⟩ : ∃ l, Lib.decDigits k = l := ⟨_, rfl⟩
  have hne : l ≠ [] := by rw [← hL, Lib.decDigits]; split <;> simp
  rw [hL] at d1 d2 hl ⊢
  have hpow : (0 + 1) * 10 ^ l.length ≤ 1000000000000000000 := by
    rw [Nat.zero_add, Nat.one_mul]
    exact Nat.le_trans (Nat.pow_le_pow_right (by decide) hl) (by decide)
  obtain ⟨u, e1, e2, e3⟩ := uintM_dig (2 ^ 64 - 1) (by decide) l 0 d1 hpow
  have hu : (u : Int) = k := by rw [e2]; exact d2
  have : u = k := by omega
  subst this
  unfold Lib.parseUintB
  rw [if_neg hne]
  exact e1
theorem dec_head (k : Nat) : ∃ c r, Lib.decDigits k = c :: r ∧ isDig c = true := by
  obtain ⟨d1, _⟩ := decDigits_val k
  obtain ⟨l, hL⟩ : ∃ l, Lib.decDigits k = l := ⟨_, rfl⟩
  have hne : l ≠ [] := by rw [← hL, Lib.decDigits]; split <;> simp
  rw [hL] at d1 ⊢
  cases l with
  | nil => exact absurd rfl hne
  | cons c r =>
    rw [List.all_cons, Bool.and_eq_true] at d1
    exact ⟨c, r, rfl, d1.1⟩
theorem pI_itoaW (n : Int) (h0 : 0 ≤ n) (h1 : n ≤ 1000000000000) : pI (Lib.itoa n) = some n := by
  obtain ⟨d1, d2⟩ := decDigits_val n.toNat
  have hl := decDigits_len 12 n.toNat (by omega)
  rw [itoa_nat h0]
  obtain ⟨l, hL⟩ : ∃ l, Lib.decDigits n.toNat = l := ⟨_, rfl⟩
  have hne : l ≠ [] := by rw [← hL, Lib.decDigits]; split <;> simp
  rw [hL] at d1 d2 hl ⊢
  match l, hne with
  | c :: r, _ =>
    have hc := d1
    rw [List.all_cons, Bool.and_eq_true] at hc
    have hc2 := hc.1
    simp only [isDig, decide_eq_true_eq] at hc2
    have hpow : (0 + 1) * 10 ^ (c :: r).length ≤ 1000000000000000000 := by
      rw [Nat.zero_add, Nat.one_mul]
      exact Nat.le_trans (Nat.pow_le_pow_right (by decide) hl) (by decide)
    obtain ⟨u, e1, e2, e3⟩ := uintM_dig (2 ^ 64 - 1) (by decide) (c :: r) 0 d1 hpow
    have hu : (u : Int) = n := by rw [e2]; show valL (c :: r) = n; rw [d2]; omega
    have hpu : Lib.parseUintB 64 (c :: r) = .ok u := by unfold Lib.parseUintB; rw [if_neg (by simp)]; exact e1
    have hpi : Lib.parseIntB 64 (c :: r) = .ok n := by
      unfold Lib.parseIntB
      simp only
      rw [if_neg (by omega), hpu]
      simp only
      rw [if_neg (by omega), if_neg (by omega), if_neg (by omega), hu]
    unfold pI
    rw [hpi]
theorem pI_itoaV {n : Int} (h0 : -1000000000000 ≤ n) (h1 : n ≤ 1000000000000) : pI (Lib.itoa n) = some n := by
  by_cases hn : 0 ≤ n
  · exact pI_itoaW n hn h1
  · have e : Lib.itoa n = 45 :: Lib.decDigits n.natAbs := by unfold Lib.itoa; rw [if_pos (by omega)]
    have hp := parseU_decV n.natAbs (by omega)
    have hi : Lib.parseIntB 64 (45 :: Lib.decDigits n.natAbs) = .ok n := by
      unfold Lib.parseIntB
      simp only
      rw [if_pos (.inr (by decide)), hp]
      simp only
      rw [if_neg (by simp), if_neg (by simp; omega), if_pos (by decide)]
      congr 1
      omega
    rw [e]
    unfold pI
    rw [hi]
theorem sg_itoaV {n : Int} (h0 : -1000000000000 ≤ n) (h1 : n ≤ 1000000000000) : sgV (bsOf (Lib.itoa n)) = n := by
  by_cases hn : 0 ≤ n
  · exact (sg_nat hn (by omega)).1
  · have e : Lib.itoa n = 45 :: Lib.itoa (-n) := by
      unfold Lib.itoa; rw [if_pos (by omega), if_neg (by omega), show (-n).toNat = n.natAbs by omega]
    have hx : (bsOf (Lib.itoa n)).extract 1 (bsOf (Lib.itoa n)).size = bsOf (Lib.itoa (-n)) := by
      rw [e]; apply ByteArray.ext; simp [bsOf, ByteArray.size]
    have hs : negS (bsOf (Lib.itoa n)) = true := by
      rw [e]; unfold negS; rw [dif_pos (by rw [bs_size]; simp)]; rfl
    unfold sgV
    rw [hs, if_pos rfl, hx, rdV_itoa (by omega) (by omega)]
    omega
/-- its text -/
def ratL (n d : Int) : List UInt8 := if d = 1 then Lib.itoa n else Lib.itoa n ++ 47 :: Lib.itoa d
def IsRText (s : ByteArray) (q : Int × Int) : Prop := isRatB q.1 q.2 = true ∧ bsOf (ratL q.1 q.2) = s
/-- what is read off a text by cutting at the slash -/
theorem rat_split {n d : Int} : splitL (bsOf (ratL n d)) 47 = if d = 1 then [bsOf (Lib.itoa n)] else [bsOf (Lib.itoa n), bsOf (Lib.itoa d)] := by
  rw [splitL_eq]
  show (spL 47 (ratL n d)).map bsOf = _
  unfold ratL
  split
  · rw [spL_one 47 _ (itoa_no n (by decide) (by decide))]; rfl
  · rw [spL_more 47 _ _ (itoa_no n (by decide) (by decide)), spL_one 47 _ (itoa_no d (by decide) (by decide))]; rfl
theorem rat_cut {n d : Int} : Lib.cut (ratL n d) [47] = if d = 1 then (Lib.itoa n, [], false) else (Lib.itoa n, Lib.itoa d, true) := by
  unfold ratL
  split
  · exact cut_no_byte 47 _ (itoa_no n (by decide) (by decide))
  · exact cut_byte 47 _ _ (itoa_no n (by decide) (by decide))
/-- what spec reads: the numerator, and the denominator or 1 -/
def spN (s : ByteArray) : Int := sgV ((splitL s 47).getD 0 ⟨#[]⟩)
def spD (s : ByteArray) : Int := if 1 < (splitL s 47).length then rdV ((splitL s 47).getD 1 ⟨#[]⟩) else 1
theorem rspec_reads {s : ByteArray} {q : Int × Int} (h : IsRText s q) : spN s = q.1 ∧ spD s = q.2 := by
  obtain ⟨hk, rfl⟩ := h
  obtain ⟨n0, n1, d0, d1, g⟩ := isRat_of hk
  unfold spN spD
  rw [rat_split]
  by_cases h1 : q.2 = 1
  · rw [if_pos h1]
    exact ⟨sg_itoaV n0 n1, h1.symm⟩
  · rw [if_neg h1]
    exact ⟨sg_itoaV n0 n1, rdV_itoa (by omega) (by omega)⟩
theorem rtext_inj {s : ByteArray} {q q' : Int × Int} (h : IsRText s q) (h' : IsRText s q') : q = q' := by
  obtain ⟨a1, a2⟩ := rspec_reads h
  obtain ⟨b1, b2⟩ := rspec_reads h'
  exact Prod.ext (a1.symm.trans b1) (a2.symm.trans b2)
/-- the answer of both ReadRational, and that two such answers agree -/
def RReadPost (s : ByteArray) (w : World) (e : Ending) (w' : World) : Prop :=
  ∃ (q : Int × Int) (c : Int), e = .returned (.tuple #[.agg #[.int .i64 q.1, .int .i64 q.2], .int .i64 c]) ∧ Below w.heap.size w w' ∧ ((c = 0 ∧ IsRText s q) ∨ (c = 6 ∧ q = (0, 0) ∧ ¬ ∃ q, IsRText s q))
theorem rread_agree {s : ByteArray} {q q' : Int × Int} {c c' : Int} (h : (c = 0 ∧ IsRText s q) ∨ (c = 6 ∧ q = (0, 0) ∧ ¬ ∃ q, IsRText s q)) (h' : (c' = 0 ∧ IsRText s q') ∨ (c' = 6 ∧ q' = (0, 0) ∧ ¬ ∃ q, IsRText s q)) : q = q' ∧ c = c' := by
  rcases h with ⟨rfl, h1⟩ | ⟨rfl, rfl, h1⟩
  · rcases h' with ⟨rfl, h2⟩ | ⟨rfl, rfl, h2⟩
    · exact ⟨rtext_inj h1 h2, rfl⟩
    · exact absurd ⟨q, h1⟩ h2
  · rcases h' with ⟨rfl, h2⟩ | ⟨rfl, rfl, h2⟩
    · exact absurd ⟨q', h2⟩ h1
    · exact ⟨rfl, rfl⟩
theorem decV_any (n : Int) (w : World) (h0 : 0 ≤ n) (h1 : n ≤ 1000000000000) : Calls Tryd.prog 60 #[.int .i64 n] w fun e w' => e = .returned (.string (bsOf (Lib.itoa n))) ∧ Below w.heap.size w w' :=
  dec_any (n.toNat + 1) n w h0 (by omega) (by omega)
theorem numberV_any (n : Int) (w : World) (h0 : -1000000000000 ≤ n) (h1 : n ≤ 1000000000000) :
    Calls Tryd.prog 68 #[.int .i64 n] w fun e w' => e = .returned (.string (bsOf (Lib.itoa n))) ∧ Below w.heap.size w w' := by
  by_cases hn : n < 0
  · have hl := itoa_lenV (n := -n) (by omega) (by omega)
    have hadd : ∀ wx, (Op.stringOp .add ⟨#[45]⟩ (bsOf (Lib.itoa (-n)))).run Tryd.prog wx = .ok (.string (bsOf (Lib.itoa n))) wx := fun wx => by
      rw [← itoa_neg hn]
      exact add_any ⟨#[45]⟩ _ (by rw [bs_size]; show 1 + _ ≤ _; omega) wx
    have hw : IntKind.i64.wrap (-n) = -n := IntWalk.i64_in _ (by omega)
    have HD := Lib.hid fun w => decV_any (-n) w (by omega) (by omega)
    clear hl
    go_enter Tryd.func68, Tryd.ntmps68
    go_wp2_with (go_at_call 60; refine (HD.out _).mono ?_; rintro e wn ⟨rfl, hb⟩)
    go_ret
    exact ⟨rfl, hb⟩
  · have HD := Lib.hid fun w => decV_any n w (by omega) h1
    go_enter Tryd.func68, Tryd.ntmps68
    go_wp2_with (go_at_call 60; refine (HD.out _).mono ?_; rintro e wn ⟨rfl, hb⟩)
    go_ret
    exact ⟨rfl, hb⟩
theorem rat_sum {n d : Int} (h : d ≠ 1) : bsOf (Lib.itoa n) ++ ⟨#[47]⟩ ++ bsOf (Lib.itoa d) = bsOf (ratL n d) := by
  show bsOf (Lib.itoa n) ++ bsOf [47] ++ bsOf (Lib.itoa d) = _
  rw [bs_append, bs_append]
  unfold ratL; rw [if_neg h]; simp
theorem rat_pair (n d : Int) : pairT 47 n d = ratL n d := rfl
theorem rat_sizes {n d : Int} (h : isRatB n d = true) : (bsOf (Lib.itoa n)).size ≤ 20 ∧ (bsOf (Lib.itoa d)).size ≤ 20 := by
  obtain ⟨n0, n1, d0, d1, _⟩ := isRat_of h
  rw [bs_size, bs_size]
  exact ⟨itoa_lenV n0 n1, itoa_lenV (by omega) d1⟩
set_option maxHeartbeats 400000 in
theorem specRText_val (n d : Int) (w : World) (h : isRatB n d = true) :
    Calls Tryd.prog 48 #[.agg (P2 n d)] w fun e w' => e = .returned (.string (bsOf (ratL n d))) ∧ Below w.heap.size w w' := by
  obtain ⟨n0, n1, d0, d1, _⟩ := isRat_of h
  obtain ⟨s1, s2⟩ := rat_sizes h
  have F2 := Lib.hid fun (w : World) => numberV_any n w n0 n1
  have F1 := Lib.hid fun (w : World) => decV_any d w (by omega) d1
  have K := k1_new w (P2 n d) 33
  obtain ⟨c0, c1⟩ := lies_pair K.2
  by_cases h1 : d = 1
  · have HE := Lib.hid (show bsOf (Lib.itoa n) = bsOf (ratL n d) by unfold ratL; rw [if_pos h1])
    have hz : (d == 1) = true := by simp [h1]
    clear h1
    go_enter Tryd.func48, Tryd.ntmps48
    go_wp2_with (go_at_call 68; refine (F2.out _).mono ?_; rintro e wn ⟨rfl, hb⟩; have K := k1_next K hb)
    go_ret
    exact ⟨ret_str2 HE.out, K.1⟩
  · have HE := Lib.hid (rat_sum (n := n) h1)
    have hz : (d == 1) = false := by simpa using h1
    have sm : (⟨#[47]⟩ : ByteArray).size = 1 := rfl
    have a1 := add_any (bsOf (Lib.itoa n)) ⟨#[47]⟩ (by omega)
    have a2 := add_any (bsOf (Lib.itoa n) ++ ⟨#[47]⟩) (bsOf (Lib.itoa d)) (by
      have : (bsOf (Lib.itoa n) ++ ⟨#[47]⟩).size = (bsOf (Lib.itoa n)).size + 1 := by rw [ByteArray.size_append, sm]
      omega)
    clear h1 sm s1 s2 h
    generalize bsOf (Lib.itoa n) = sn at *
    generalize bsOf (Lib.itoa d) = sd at *
    go_enter Tryd.func48, Tryd.ntmps48
    go_wp2_with fail
    have K := k1_drew K
    obtain ⟨c0, c1⟩ := lies_pair K.2
    go_region_with (first
      | (go_at_call 60; refine (F1.out _).mono ?_; rintro e wn ⟨rfl, hb⟩; have K := k1_next K hb; obtain ⟨c0, c1⟩ := lies_pair K.2)
      | (go_at_call 68; refine (F2.out _).mono ?_; rintro e wn ⟨rfl, hb⟩; have K := k1_next K hb; obtain ⟨c0, c1⟩ := lies_pair K.2))
    all_goals go_wp2
    all_goals go_ret
    all_goals exact ⟨ret_str2 HE.out, K.1⟩
theorem implRText_val (n d : Int) (w : World) (h : isRatB n d = true) (ht : Tab w) :
    Calls Tryd.prog 46 #[.agg (P2 n d)] w fun e w' => e = .returned (.string (bsOf (ratL n d))) ∧ Below w.heap.size w w' := by
  obtain ⟨n0, n1, d0, d1, _⟩ := isRat_of h
  obtain ⟨s1, s2⟩ := rat_sizes h
  have K := k1_new w (P2 n d) 33
  have F := Lib.hid (pairText_any 47 n d (w.alloc (.cells (P2 n d) 33)) (tab_below ht K.1 (Nat.le_refl _)) n0 n1 (by omega) d1 (by omega) (by omega))
  clear h ht s1 s2
  go_enter Tryd.func46, Tryd.ntmps46
  go_wp2_with (go_at_call 35; refine F.out.mono ?_; rintro e wn ⟨rfl, hb⟩; have K := k1_next K hb)
  go_ret
  exact ⟨ret_str2 rfl, K.1⟩
/-- what both RationalText answer -/
def rtL (n d : Int) : List UInt8 := if isRatB n d then ratL n d else []
def rtC (n d : Int) : Int := if isRatB n d then 0 else 1
theorem specRText_any (n d : Int) (w : World) :
    Calls Tryd.prog 19 #[.agg (P2 n d)] w fun e w' => e = .returned (.tuple #[.string (bsOf (rtL n d)), .int .i64 (rtC n d)]) ∧ Below w.heap.size w w' := by
  cases hx : isRatB n d
  · rw [show rtL n d = [] by simp [rtL, hx], show rtC n d = 1 by simp [rtC, hx]]
    go_enter Tryd.func19, Tryd.ntmps19
    go_wp2_with (go_at_call 47; refine (specIsRational_any _ _ _).mono ?_; rw [hx]; rintro e wn ⟨rfl, hb⟩; have K := k1_first hb)
    go_ret2
    exact ⟨rfl, K.1⟩
  · rw [show rtL n d = ratL n d by simp [rtL, hx], show rtC n d = 0 by simp [rtC, hx]]
    have HT := Lib.hid fun w => specRText_val n d w hx
    go_enter Tryd.func19, Tryd.ntmps19
    go_wp2_with (first
      | (go_at_call 47; refine (specIsRational_any _ _ _).mono ?_; rw [hx]; rintro e wn ⟨rfl, hb⟩; have K := k1_first hb; obtain ⟨c0, c1⟩ := lies_pair K.2)
      | (go_at_call 48; refine (HT.out _).mono ?_; rintro e wn ⟨rfl, hb⟩; have K := k1_next K hb; obtain ⟨c0, c1⟩ := lies_pair K.2))
    go_ret2
    exact ⟨rfl, K.1⟩
theorem implRText_any (n d : Int) (w : World) (ht : Tab w) :
    Calls Tryd.prog 18 #[.agg (P2 n d)] w fun e w' => e = .returned (.tuple #[.string (bsOf (rtL n d)), .int .i64 (rtC n d)]) ∧ Below w.heap.size w w' := by
  cases hx : isRatB n d
  · rw [show rtL n d = [] by simp [rtL, hx], show rtC n d = 1 by simp [rtC, hx]]
    clear ht
    go_enter Tryd.func18, Tryd.ntmps18
    go_wp2_with (go_at_call 45; refine (ratValid_any _ _ _).mono ?_; rw [hx]; rintro e wn ⟨rfl, hb⟩; have K := k1_first hb)
    go_ret2
    exact ⟨rfl, K.1⟩
  · rw [show rtL n d = ratL n d by simp [rtL, hx], show rtC n d = 0 by simp [rtC, hx]]
    have HT := Lib.hid fun (w : World) (h : Tab w) => implRText_val n d w hx h
    have HTab := Lib.hid ht
    clear ht
    go_enter Tryd.func18, Tryd.ntmps18
    go_wp2_with (first
      | (go_at_call 45; refine (ratValid_any _ _ _).mono ?_; rw [hx]; rintro e wn ⟨rfl, hb⟩; have K := k1_first hb; have T := tab_below HTab.out K.1 (Nat.le_refl _); obtain ⟨c0, c1⟩ := lies_pair K.2)
      | (go_at_call 46; refine (HT.out _ T).mono ?_; rintro e wn ⟨rfl, hb⟩; have K := k1_next K hb; obtain ⟨c0, c1⟩ := lies_pair K.2))
    go_ret2
    exact ⟨rfl, K.1⟩
theorem toRationalT_any (n d : Int) (w : World) :
    Calls Tryd.prog 28 #[.agg (P2 n d)] w fun e w' => e = .returned (.agg (P2 n d)) ∧ Below w.heap.size w w' := by
  go_enter Tryd.func28, Tryd.ntmps28
  go_wp2
  refine bodyPost_ret (v := .agg (P2 n d)) (by simp [results, Tryd.results28, go_sem]) rfl ?_
  exact ⟨rfl, below_a3 w _ _ _⟩
theorem exactRText_walk (n d : Int) (w : World) (ht : Tab w) :
    Calls Tryd.prog 7 #[.agg (P2 n d)] w fun e w' => e = .returned (.bool true) ∧ Below w.heap.size w w' := by
  have HT := Lib.hid ht
  have HI := Lib.hid fun (w : World) (h : Tab w) => implRText_any n d w h
  have HS := Lib.hid fun (w : World) => specRText_any n d w
  generalize bsOf (rtL n d) = t at *
  generalize rtC n d = c at *
  clear ht
  go_enter Tryd.func7, Tryd.ntmps7
  go_wp2_with (first
    | (go_at_call 28; refine (toRationalT_any _ _ _).mono ?_; rintro e wn ⟨rfl, hb⟩; (first | have K := k1_first hb | have K := k1_next K hb); have T := tab_below HT.out K.1 (Nat.le_refl _); obtain ⟨c0, c1⟩ := lies_pair K.2)
    | (go_at_call 19; refine (HS.out _).mono ?_; rintro e wn ⟨rfl, hb⟩; have K := k1_next K hb; obtain ⟨c0, c1⟩ := lies_pair K.2)
    | (go_at_call 18; refine (HI.out _ T).mono ?_; rintro e wn ⟨rfl, hb⟩; have K := k1_next K hb; obtain ⟨c0, c1⟩ := lies_pair K.2))
  go_ret
  exact ⟨rfl, K.1⟩
end Go.Proofs.YtghhjeebcpcepaaDoor
namespace Go.Proofs.YtghhjeebcpcepaaDoor
open Go.RowKit Go.Shelf
set_option linter.unusedVariables false
set_option linter.unusedSimpArgs false
set_option maxRecDepth 20000
theorem strR_eq {a b : ByteArray} (h : a = b) : (a.toList == b.toList) = true := by rw [bs_beq]; simpa using h
theorem rimpl_reads {s : ByteArray} {q : Int × Int} (h : IsRText s q) : rdQ 47 s = some q := by
  obtain ⟨hk, rfl⟩ := h
  obtain ⟨n0, n1, d0, d1, g⟩ := isRat_of hk
  have e : (bsOf (ratL q.1 q.2)).data.toList = ratL q.1 q.2 := by simp [bsOf]
  unfold rdQ
  rw [e, rat_cut]
  by_cases h1 : q.2 = 1
  · rw [if_pos h1]
    simp only [pI_itoaV n0 n1]
    rw [if_neg (by simp), ← h1]
  · rw [if_neg h1]
    simp only [pI_itoaV n0 n1, pI_itoaV (show -1000000000000 ≤ q.2 by omega) d1]
    simp
theorem rr_no {s : ByteArray} {w w' : World} (h : ¬ ∃ q, IsRText s q) (hb : Below w.heap.size w w') : RReadPost s w (.returned (.tuple #[.agg (P2 0 0), .int .i64 6])) w' :=
  ⟨(0, 0), 6, rfl, hb, .inr ⟨rfl, rfl, h⟩⟩
theorem rr_yes {s : ByteArray} {w w' : World} {a b : Int} (h : IsRText s (a, b)) (hb : Below w.heap.size w w') : RReadPost s w (.returned (.tuple #[.agg (P2 a b), .int .i64 0])) w' :=
  ⟨(a, b), 0, rfl, hb, .inl ⟨rfl, h⟩⟩
theorem rread_none {s : ByteArray} (h : rdQ 47 s = none) : ¬ ∃ q, IsRText s q := by
  rintro ⟨q, hq⟩
  rw [rimpl_reads hq] at h; cases h
theorem rread_bad {s : ByteArray} {a b : Int} (h : ∀ q, IsRText s q → q = (a, b)) (hx : isRatB a b = false) : ¬ ∃ q, IsRText s q := by
  rintro ⟨q, hq⟩
  have e := h q hq
  subst e
  rw [hq.1] at hx; cases hx
theorem rread_ne {s : ByteArray} {a b : Int} (h : ∀ q, IsRText s q → q = (a, b)) (hx : ¬ bsOf (ratL a b) = s) : ¬ ∃ q, IsRText s q := by
  rintro ⟨q, hq⟩
  have e := h q hq
  subst e
  exact hx hq.2
set_option maxHeartbeats 1000000 in
theorem implRRead_any (s : ByteArray) (w : World) (hs : s.size ≤ 2000000) (he : Env w) (ht : Tab w) :
    Calls Tryd.prog 21 #[.string s] w (RReadPost s w) := by
  have HE := Lib.hid (env_below he (below_a1 w (.cells (P2 0 0) 33)) (Nat.le_refl _))
  have HT := Lib.hid ht
  have HS := Lib.hid hs
  clear he ht hs
  go_enter Tryd.func21, Tryd.ntmps21
  go_wp2_with fail
  refine (readPair_any 47 s _ HS.out HE.out).mono ?_
  rintro e w1 ⟨hb, (⟨a, b, hr, rfl⟩ | ⟨hr, rfl⟩)⟩
  · have K := k1_first hb
    have HR := Lib.hid fun q (h : IsRText s q) => (Option.some.inj ((rimpl_reads h).symm.trans hr))
    clear hr
    go_upto_region 3 with fail
    have X := lies_new w1 (P2 a b) 33
    replace K := k1_next K (below_a1 w1 (.cells (P2 a b) 33))
    generalize w1.alloc (.cells (P2 a b) 33) = V at K X ⊢
    obtain ⟨bx, hbx⟩ : ∃ b, w1.heap.size = b := ⟨_, rfl⟩
    rw [hbx] at X ⊢
    clear hbx hb
    obtain ⟨c0, c1⟩ := lies_pair X
    obtain ⟨d0, d1⟩ := lies_pair K.2
    have df0 := lies_frozen K.2 0
    have df1 := lies_frozen K.2 1
    cases hx : isRatB a b
    · have HN := Lib.hid (rread_bad HR.out hx)
      go_wp2_with (go_at_call 45; refine (ratValid_any _ _ _).mono ?_; rw [hx]; rintro e wn ⟨rfl, hb⟩; replace K := k1_next K hb; replace X := lies_next X hb; obtain ⟨c0, c1⟩ := lies_pair X; obtain ⟨d0, d1⟩ := lies_pair K.2; have df0 := lies_frozen K.2 0; have df1 := lies_frozen K.2 1)
      refine bodyPost_ret (v := .tuple #[.agg (P2 0 0), .int .i64 6]) (by simp [results, Tryd.results21, go_sem, d0, d1]) rfl ?_
      exact rr_no HN.out (below_set2 K.1 (Nat.le_refl _))
    · have HX := Lib.hid fun (w : World) (h : Tab w) => implRText_val a b w hx h
      have HK := Lib.hid hx
      by_cases hq : bsOf (ratL a b) = s
      · have HY := Lib.hid (show IsRText s (a, b) from ⟨hx, hq⟩)
        have hq' := strR_eq hq
        clear hq
        generalize bsOf (ratL a b) = t at *
        go_wp2_with (first | (go_at_call 45; refine (ratValid_any _ _ _).mono ?_; rw [hx]; rintro e wn ⟨rfl, hb⟩; replace K := k1_next K hb; replace X := lies_next X hb; obtain ⟨c0, c1⟩ := lies_pair X; obtain ⟨d0, d1⟩ := lies_pair K.2; have df0 := lies_frozen K.2 0; have df1 := lies_frozen K.2 1; have T := tab_below HT.out K.1 (Nat.le_refl _)) | (go_at_call 46; refine (HX.out _ T).mono ?_; rintro e wn ⟨rfl, hb⟩; replace K := k1_next K hb; replace X := lies_next X hb; obtain ⟨c0, c1⟩ := lies_pair X; obtain ⟨d0, d1⟩ := lies_pair K.2; have df0 := lies_frozen K.2 0; have df1 := lies_frozen K.2 1))
        refine bodyPost_ret (v := .tuple #[.agg (P2 a b), .int .i64 0]) (by simp [results, Tryd.results21, go_sem, d0, d1]) rfl ?_
        exact rr_yes HY.out (below_set2 K.1 (Nat.le_refl _))
      · have HN := Lib.hid (rread_ne HR.out hq)
        have hq' := str_ne hq
        clear hq
        generalize bsOf (ratL a b) = t at *
        go_wp2_with (first | (go_at_call 45; refine (ratValid_any _ _ _).mono ?_; rw [hx]; rintro e wn ⟨rfl, hb⟩; replace K := k1_next K hb; replace X := lies_next X hb; obtain ⟨c0, c1⟩ := lies_pair X; obtain ⟨d0, d1⟩ := lies_pair K.2; have df0 := lies_frozen K.2 0; have df1 := lies_frozen K.2 1; have T := tab_below HT.out K.1 (Nat.le_refl _)) | (go_at_call 46; refine (HX.out _ T).mono ?_; rintro e wn ⟨rfl, hb⟩; replace K := k1_next K hb; replace X := lies_next X hb; obtain ⟨c0, c1⟩ := lies_pair X; obtain ⟨d0, d1⟩ := lies_pair K.2; have df0 := lies_frozen K.2 0; have df1 := lies_frozen K.2 1))
        refine bodyPost_ret (v := .tuple #[.agg (P2 0 0), .int .i64 6]) (by simp [results, Tryd.results21, go_sem, d0, d1]) rfl ?_
        exact rr_no HN.out (below_set2 K.1 (Nat.le_refl _))
  · have K := k1_first hb
    have HN := Lib.hid (rread_none hr)
    clear hr
    go_upto_region 3 with fail
    have X := lies_new w1 (P2 0 0) 33
    replace K := k1_next K (below_a1 w1 (.cells (P2 0 0) 33))
    generalize w1.alloc (.cells (P2 0 0) 33) = V at K X ⊢
    obtain ⟨bx, hbx⟩ : ∃ b, w1.heap.size = b := ⟨_, rfl⟩
    rw [hbx] at X ⊢
    clear hbx hb
    obtain ⟨c0, c1⟩ := lies_pair X
    obtain ⟨d0, d1⟩ := lies_pair K.2
    have df0 := lies_frozen K.2 0
    have df1 := lies_frozen K.2 1
    go_wp2_with fail
    refine bodyPost_ret (v := .tuple #[.agg (P2 0 0), .int .i64 6]) (by simp [results, Tryd.results21, go_sem, d0, d1]) rfl ?_
    exact rr_no HN.out (below_set2 K.1 (Nat.le_refl _))
set_option maxHeartbeats 1000000 in
theorem specRRead_any (s : ByteArray) (w : World) (hs : s.size ≤ 1900000) :
    Calls Tryd.prog 22 #[.string s] w (RReadPost s w) := by
  have h2 : s.size ≤ 2000000 := by omega
  have HR0 := Lib.hid fun q (h : IsRText s q) => rspec_reads h
  go_enter Tryd.func22, Tryd.ntmps22
  go_wp2_with fail
  refine (l01Split_any s 47 _ h2).mono ?_
  rintro e w1 ⟨v1, rfl, r1, b1⟩
  have K := k1_first b1
  obtain ⟨g, cp, rfl, hg, hgw⟩ := strRow_some r1 (split_pos s 47)
  have hcl := strRow_cells r1 rfl
  have q0 := hcl 0 (split_pos s 47)
  have z0 := split_size s 47 0
  have hp := split_pos s 47
  obtain ⟨x0, hx0⟩ : ∃ x, (splitL s 47).getD 0 ⟨#[]⟩ = x := ⟨_, rfl⟩
  rw [hx0] at q0 z0
  have D0 := Lib.hid fun w => l01Signed_any x0 w (by omega)
  by_cases hlen : 1 < (splitL s 47).length
  · have q1 := hcl 1 hlen
    have z1 := split_size s 47 1
    obtain ⟨x1, hx1⟩ : ∃ x, (splitL s 47).getD 1 ⟨#[]⟩ = x := ⟨_, rfl⟩
    rw [hx1] at q1 z1
    have D1 := Lib.hid fun w => l01Value_any x1 w (by omega)
    have HR : Hid (∀ q, IsRText s q → q = (sgV x0, rdV x1)) := Lib.hid fun q h => by
      obtain ⟨e1, e2⟩ := HR0.out q h
      unfold spN at e1
      unfold spD at e2
      rw [hx0] at e1
      rw [if_pos hlen, hx1] at e2
      exact Prod.ext e1.symm e2.symm
    have hln : (splitL s 47).length ≤ 2000001 := by have := split_length s 47; omega
    generalize (splitL s 47).length = ln at *
    generalize sgV x0 = N at *
    generalize rdV x1 = M at *
    generalize sgOk x0 = ok0 at *
    generalize rdOk x1 = ok1 at *
    clear hx0 hx1 z0 z1 hcl r1 HR0 hg b1 h2
    have hlc : (1 : Int) < (ln : Int) := by omega
    go_upto_region 4 with (go_at_call 50; refine (D0.out _).mono ?_; rintro e wa ⟨rfl, hb⟩; replace K := k1_next K hb; have q1 : wa.cell? ⟨g, 1, none⟩ = some (.string x1) := (by rw [hb.cell (by exact hgw)]; exact q1))
    go_upto_region 7 with (go_at_call 43; refine (D1.out _).mono ?_; rintro e w2 ⟨rfl, hb⟩; replace K := k1_next K hb)
    have X := lies_new w2 (P2 N M) 33
    replace K := k1_next K (below_a1 w2 (.cells (P2 N M) 33))
    generalize w2.alloc (.cells (P2 N M) 33) = V at K X ⊢
    obtain ⟨bx, hbx⟩ : ∃ b, w2.heap.size = b := ⟨_, rfl⟩
    rw [hbx] at X ⊢
    clear hbx
    obtain ⟨c0, c1⟩ := lies_pair X
    obtain ⟨d0, d1⟩ := lies_pair K.2
    have df0 := lies_frozen K.2 0
    have df1 := lies_frozen K.2 1
    cases hx : isRatB N M
    · have HN := Lib.hid (rread_bad HR.out hx)
      go_wp2_with (go_at_call 47; refine (specIsRational_any _ _ _).mono ?_; rw [hx]; rintro e wn ⟨rfl, hb⟩; replace K := k1_next K hb; replace X := lies_next X hb; obtain ⟨c0, c1⟩ := lies_pair X; obtain ⟨d0, d1⟩ := lies_pair K.2; have df0 := lies_frozen K.2 0; have df1 := lies_frozen K.2 1)
      refine bodyPost_ret (v := .tuple #[.agg (P2 0 0), .int .i64 6]) (by simp [results, Tryd.results22, go_sem, d0, d1]) rfl ?_
      exact rr_no HN.out (below_set2 K.1 (Nat.le_refl _))
    · have HX := Lib.hid fun (w : World) => specRText_val N M w hx
      by_cases hq : bsOf (ratL N M) = s
      · have HY := Lib.hid (show IsRText s (N, M) from ⟨hx, hq⟩)
        have hq' := strR_eq hq
        clear hq
        generalize bsOf (ratL N M) = t at *
        go_wp2_with (first | (go_at_call 47; refine (specIsRational_any _ _ _).mono ?_; rw [hx]; rintro e wn ⟨rfl, hb⟩; replace K := k1_next K hb; replace X := lies_next X hb; obtain ⟨c0, c1⟩ := lies_pair X; obtain ⟨d0, d1⟩ := lies_pair K.2; have df0 := lies_frozen K.2 0; have df1 := lies_frozen K.2 1) | (go_at_call 48; refine (HX.out _).mono ?_; rintro e wn ⟨rfl, hb⟩; replace K := k1_next K hb; replace X := lies_next X hb; obtain ⟨c0, c1⟩ := lies_pair X; obtain ⟨d0, d1⟩ := lies_pair K.2; have df0 := lies_frozen K.2 0; have df1 := lies_frozen K.2 1))
        refine bodyPost_ret (v := .tuple #[.agg (P2 N M), .int .i64 0]) (by simp [results, Tryd.results22, go_sem, d0, d1]) rfl ?_
        exact rr_yes HY.out (below_set2 K.1 (Nat.le_refl _))
      · have HN := Lib.hid (rread_ne HR.out hq)
        have hq' := str_ne hq
        clear hq
        generalize bsOf (ratL N M) = t at *
        go_wp2_with (first | (go_at_call 47; refine (specIsRational_any _ _ _).mono ?_; rw [hx]; rintro e wn ⟨rfl, hb⟩; replace K := k1_next K hb; replace X := lies_next X hb; obtain ⟨c0, c1⟩ := lies_pair X; obtain ⟨d0, d1⟩ := lies_pair K.2; have df0 := lies_frozen K.2 0; have df1 := lies_frozen K.2 1) | (go_at_call 48; refine (HX.out _).mono ?_; rintro e wn ⟨rfl, hb⟩; replace K := k1_next K hb; replace X := lies_next X hb; obtain ⟨c0, c1⟩ := lies_pair X; obtain ⟨d0, d1⟩ := lies_pair K.2; have df0 := lies_frozen K.2 0; have df1 := lies_frozen K.2 1))
        refine bodyPost_ret (v := .tuple #[.agg (P2 0 0), .int .i64 6]) (by simp [results, Tryd.results22, go_sem, d0, d1]) rfl ?_
        exact rr_no HN.out (below_set2 K.1 (Nat.le_refl _))
  · have HR : Hid (∀ q, IsRText s q → q = (sgV x0, 1)) := Lib.hid fun q h => by
      obtain ⟨e1, e2⟩ := HR0.out q h
      unfold spN at e1
      unfold spD at e2
      rw [hx0] at e1
      rw [if_neg hlen] at e2
      exact Prod.ext e1.symm e2.symm
    have hl1 : (splitL s 47).length = 1 := by omega
    rw [hl1]
    generalize sgV x0 = N at *
    generalize sgOk x0 = ok0 at *
    clear hx0 z0 hcl r1 HR0 hg b1 h2 hlen hl1 hp
    go_upto_region 7 with (go_at_call 50; refine (D0.out _).mono ?_; rintro e w2 ⟨rfl, hb⟩; replace K := k1_next K hb)
    have X := lies_new w2 (P2 N 1) 33
    replace K := k1_next K (below_a1 w2 (.cells (P2 N 1) 33))
    generalize w2.alloc (.cells (P2 N 1) 33) = V at K X ⊢
    obtain ⟨bx, hbx⟩ : ∃ b, w2.heap.size = b := ⟨_, rfl⟩
    rw [hbx] at X ⊢
    clear hbx
    obtain ⟨c0, c1⟩ := lies_pair X
    obtain ⟨d0, d1⟩ := lies_pair K.2
    have df0 := lies_frozen K.2 0
    have df1 := lies_frozen K.2 1
    cases hx : isRatB N 1
    · have HN := Lib.hid (rread_bad HR.out hx)
      go_wp2_with (go_at_call 47; refine (specIsRational_any _ _ _).mono ?_; rw [hx]; rintro e wn ⟨rfl, hb⟩; replace K := k1_next K hb; replace X := lies_next X hb; obtain ⟨c0, c1⟩ := lies_pair X; obtain ⟨d0, d1⟩ := lies_pair K.2; have df0 := lies_frozen K.2 0; have df1 := lies_frozen K.2 1)
      refine bodyPost_ret (v := .tuple #[.agg (P2 0 0), .int .i64 6]) (by simp [results, Tryd.results22, go_sem, d0, d1]) rfl ?_
      exact rr_no HN.out (below_set2 K.1 (Nat.le_refl _))
    · have HX := Lib.hid fun (w : World) => specRText_val N 1 w hx
      by_cases hq : bsOf (ratL N 1) = s
      · have HY := Lib.hid (show IsRText s (N, 1) from ⟨hx, hq⟩)
        have hq' := strR_eq hq
        clear hq
        generalize bsOf (ratL N 1) = t at *
        go_wp2_with (first | (go_at_call 47; refine (specIsRational_any _ _ _).mono ?_; rw [hx]; rintro e wn ⟨rfl, hb⟩; replace K := k1_next K hb; replace X := lies_next X hb; obtain ⟨c0, c1⟩ := lies_pair X; obtain ⟨d0, d1⟩ := lies_pair K.2; have df0 := lies_frozen K.2 0; have df1 := lies_frozen K.2 1) | (go_at_call 48; refine (HX.out _).mono ?_; rintro e wn ⟨rfl, hb⟩; replace K := k1_next K hb; replace X := lies_next X hb; obtain ⟨c0, c1⟩ := lies_pair X; obtain ⟨d0, d1⟩ := lies_pair K.2; have df0 := lies_frozen K.2 0; have df1 := lies_frozen K.2 1))
        refine bodyPost_ret (v := .tuple #[.agg (P2 N 1), .int .i64 0]) (by simp [results, Tryd.results22, go_sem, d0, d1]) rfl ?_
        exact rr_yes HY.out (below_set2 K.1 (Nat.le_refl _))
      · have HN := Lib.hid (rread_ne HR.out hq)
        have hq' := str_ne hq
        clear hq
        generalize bsOf (ratL N 1) = t at *
        go_wp2_with (first | (go_at_call 47; refine (specIsRational_any _ _ _).mono ?_; rw [hx]; rintro e wn ⟨rfl, hb⟩; replace K := k1_next K hb; replace X := lies_next X hb; obtain ⟨c0, c1⟩ := lies_pair X; obtain ⟨d0, d1⟩ := lies_pair K.2; have df0 := lies_frozen K.2 0; have df1 := lies_frozen K.2 1) | (go_at_call 48; refine (HX.out _).mono ?_; rintro e wn ⟨rfl, hb⟩; replace K := k1_next K hb; replace X := lies_next X hb; obtain ⟨c0, c1⟩ := lies_pair X; obtain ⟨d0, d1⟩ := lies_pair K.2; have df0 := lies_frozen K.2 0; have df1 := lies_frozen K.2 1))
        refine bodyPost_ret (v := .tuple #[.agg (P2 0 0), .int .i64 6]) (by simp [results, Tryd.results22, go_sem, d0, d1]) rfl ?_
        exact rr_no HN.out (below_set2 K.1 (Nat.le_refl _))
theorem eqRationalT_any (n d : Int) (w : World) :
    Calls Tryd.prog 29 #[.agg (P2 n d), .agg (P2 n d)] w fun e w' => e = .returned (.bool true) ∧ Below w.heap.size w w' := by
  go_enter Tryd.func29, Tryd.ntmps29
  go_wp2
  go_ret
  exact ⟨rfl, below_a2 w _ _⟩
theorem rrat_core (s : ByteArray) (w : World) (hs : s.size ≤ 1048576) (he : Env w) (ht : Tab w) :
    Calls Tryd.prog 8 #[.string s] w fun e w' => e = .returned (.bool true) ∧ Below w.heap.size w w' := by
  have HSpec := Lib.hid (fun w => specRRead_any s w (by omega))
  have HImpl := Lib.hid (fun w he ht => implRRead_any s w (by omega) he ht)
  have HE := Lib.hid he
  have HT := Lib.hid ht
  clear he ht
  go_enter Tryd.func8, Tryd.ntmps8
  go_wp2_with fail
  refine (HSpec.out _).mono ?_
  rintro e w1 ⟨⟨n, d⟩, c, rfl, b1, h1⟩
  have B1 := b1.trans ((below_a1 w1 (.cells (P2 n d) 33)).mono b1.size)
  have L1 := lies_new w1 (P2 n d) 33
  have E := env_below HE.out B1 (Nat.le_refl _)
  have T := tab_below HT.out B1 (Nat.le_refl _)
  clear b1
  go_wp2_with fail
  refine (HImpl.out _ E T).mono ?_
  rintro e w2 ⟨q, c', rfl, b2, h2⟩
  obtain ⟨rfl, rfl⟩ := rread_agree h2 h1
  have L2 := lies_next L1 b2
  have B2 := B1.trans (b2.mono B1.size)
  have B3 := B2.trans ((below_a1 w2 (.cells (P2 n d) 33)).mono B2.size)
  have L3 := lies_alloc L2 (.cells (P2 n d) 33)
  have L4 := lies_new w2 (P2 n d) 33
  obtain ⟨g0, g1⟩ := lies_pair L3
  obtain ⟨k0, k1⟩ := lies_pair L4
  clear L1 L2 b2 h1 h2 E T HSpec HImpl HE HT B1 B2
  go_wp2_with (go_at_call 29; refine (eqRationalT_any _ _ _).mono ?_; rintro e we ⟨rfl, hb⟩)
  go_ret
  exact ⟨rfl, B3.trans (hb.mono B3.size)⟩
theorem rrat_big (s : ByteArray) (w : World) (hs : 1048576 < s.size) :
    Calls Tryd.prog 8 #[.string s] w fun e w' => e = .returned (.bool true) ∧ Below w.heap.size w w' := by
  go_enter Tryd.func8, Tryd.ntmps8
  go_wp2
  go_ret
  exact ⟨rfl, Below.refl _ _⟩
theorem exactRRat_walk (s : ByteArray) (w : World) (he : Env w) (ht : Tab w) :
    Calls Tryd.prog 8 #[.string s] w fun e w' => e = .returned (.bool true) ∧ Below w.heap.size w w' :=
  (Nat.lt_or_ge 1048576 s.size).elim (fun h => rrat_big s w h) (fun h => rrat_core s w h he ht)
end Go.Proofs.YtghhjeebcpcepaaDoor
namespace Go.Proofs.YtghhjeebcpcepaaDoor
open Go.ChangeShapes Go.WideShapes Go.ChangeAt Go.RowKit
set_option linter.unusedVariables false
theorem gTabType : (Tryd.prog.globals[0]?).map (·.type) = some 124 := by kernel_rfl
theorem cellsTab : Tryd.prog.cellsOf 124 = 20 := by kernel_rfl
theorem cellsU : Tryd.prog.cellsOf 107 = 1 := by kernel_rfl
theorem gRange : Tryd.prog.globalNamed "strconv.ErrRange" = some 5 := by kernel_rfl
theorem gRangeType : (Tryd.prog.globals[5]?).map (·.type) = some 87 := by kernel_rfl
theorem gSyntax : Tryd.prog.globalNamed "strconv.ErrSyntax" = some 4 := by kernel_rfl
theorem gSyntaxType : (Tryd.prog.globals[4]?).map (·.type) = some 87 := by kernel_rfl
theorem cellsErr : Tryd.prog.cellsOf 144 = 1 := by kernel_rfl
theorem cellsStr : Tryd.prog.cellsOf 9 = 1 := by kernel_rfl
theorem starErr : "*" ++ "errors.errorString" = "*errors.errorString" := by decide
theorem rowErr (u : TypeId) (h : Tryd.prog.typeName? 3 u = some "*errors.errorString") : u = 142 :=
  typeName_ptr_named (nm := "errors.errorString") (by rw [starErr]; kernel_rfl) (by kernel_rfl) (by decide) u (by rw [starErr]; exact h)
theorem tab_of_laid {W : World} (h : laidMetH Tryd.prog Rows.fnExactReadRationalRow.laid W) : Tab W := by
  have h0 : laidMet Tryd.prog Rows.fnExactReadRationalRow.laid W := h
  exact Lib.tabIs_of_head (rest := _) gTab gTabType Tryd.underlying124 Tryd.underlying107 cellsU cellsTab h0.tail.tail
theorem env_of_laid {W : World} (h : laidMetH Tryd.prog Rows.fnExactReadRationalRow.laid W) (hS : W.ShapedOpen Tryd.prog) : Env W := by
  have h0 : laidMet Tryd.prog Rows.fnExactReadRationalRow.laid W := h
  obtain ⟨a1, s1, hv1, _⟩ := laid_sentinel h0.tail.tail.tail gRange gRangeType Tryd.underlying87 rowErr Tryd.underlying142 Tryd.underlying144 rfl rfl Tryd.underlying9 cellsErr cellsStr
  obtain ⟨a2, s2, hv2, _⟩ := laid_sentinel h0.tail.tail.tail.tail gSyntax gSyntaxType Tryd.underlying87 rowErr Tryd.underlying142 Tryd.underlying144 rfl rfl Tryd.underlying9 cellsErr cellsStr
  have c1 : W.cell? ⟨5, 0, none⟩ = some (.iface 142 (.pointer (some a1))) := by simpa using World.var?_cell gRange hv1 0
  have c2 : W.cell? ⟨4, 0, none⟩ = some (.iface 142 (.pointer (some a2))) := by simpa using World.var?_cell gSyntax hv2 0
  exact ⟨⟨_, c2, .inr ⟨_, _, rfl⟩⟩, ⟨_, c1, .inr ⟨_, _, rfl⟩⟩, cell_of_shapedOpen_int (zero := #[.int .i64 0]) (t := 3) hS (of_decide_eq_true (by kernel_rfl)) (by kernel_rfl) rfl (by kernel_rfl) (by kernel_rfl) Tryd.underlying3⟩
/-- block g holding the cells cs -/
def layAt (g : Nat) (cs : Array Value) (h : Array Obj) : Array Obj := h.modify g fun o => match o with
  | .cells _ t frozen => .cells cs t frozen
  | o => o
def layAll (l : List (Nat × Array Value)) (h : Array Obj) : Array Obj := l.foldl (fun h x => layAt x.1 x.2 h) h
def u8s (l : List Nat) : Array Value := (l.map fun n : Nat => Value.int .u8 (n : Int)).toArray
noncomputable def lowBlock : Nat := (World.holding Tryd.prog default ⟨#[], #[], []⟩).heap.size
/-- a world for the witness: the settled one, the listed variables holding what their initialisers lay -/
noncomputable def laidWorld (os : Os) : World :=
  let w0 := World.holding Tryd.prog os ⟨#[.cells #[.string ⟨#[118, 97, 108, 117, 101, 32, 111, 117, 116, 32, 111, 102, 32, 114, 97, 110, 103, 101]⟩] 144, .cells #[.string ⟨#[105, 110, 118, 97, 108, 105, 100, 32, 115, 121, 110, 116, 97, 120]⟩] 144], #[], []⟩
  { w0 with heap := layAll [
    (5, #[.iface 142 (.pointer (some ⟨lowBlock, 0, none⟩))]),
    (4, #[.iface 142 (.pointer (some ⟨lowBlock + 1, 0, none⟩))]),
    (7, (u8s [0, 1, 56, 2, 57, 49, 28, 3, 61, 58, 42, 50, 38, 29, 17, 4, 62, 47, 59, 36, 45, 43, 51, 22, 53, 39, 33, 30, 24, 18, 12, 5, 63, 55, 48, 27, 60, 41, 37, 16, 46, 35, 44, 21, 52, 32, 23, 11, 54, 26, 40, 15, 34, 20, 31, 10, 25, 14, 19, 9, 13, 8, 7, 6])),
    (6, (u8s [0, 1, 28, 2, 29, 14, 24, 3, 30, 22, 20, 15, 25, 17, 4, 8, 31, 27, 13, 23, 21, 19, 16, 7, 26, 12, 18, 6, 11, 5, 10, 9])),
    (0, #[.int .u64 1, .int .u64 10, .int .u64 100, .int .u64 1000, .int .u64 10000, .int .u64 100000, .int .u64 1000000, .int .u64 10000000, .int .u64 100000000, .int .u64 1000000000, .int .u64 10000000000, .int .u64 100000000000, .int .u64 1000000000000, .int .u64 10000000000000, .int .u64 100000000000000, .int .u64 1000000000000000, .int .u64 10000000000000000, .int .u64 100000000000000000, .int .u64 1000000000000000000, .int .u64 10000000000000000000])] w0.heap }
end Go.Proofs.YtghhjeebcpcepaaDoor
namespace Go.Proofs.YtghhjeebcpcepaaDoor
open Go.RowKit
set_option linter.unusedVariables false
theorem next_small (n : Int) (v : Value) (w : World) (h : n ≤ 1) :
    Calls Tryd.prog 32 #[v, .int .i64 n] w fun e w' => e = .returned (.int .i64 0) ∧ w = w' := by
  go_enter Tryd.func32, Tryd.ntmps32
  go_wp2
  go_ret
  exact ⟨rfl, rfl⟩
theorem nextPost_mk {n : Int} {o : Option Addr} {len cap p : Nat} {w w' : World} {x : Int} (h : 2 ≤ n) (hx : 0 ≤ x) (hs : Src w' o len cap p) (hg : w.grownBy w' (some p)) (hz : w'.heap.size = w.heap.size) {v : Value} (hv : v = .int .i64 (x % n)) :
    NextPost n o len cap p w (.returned v) w' :=
  ⟨x % n, by rw [hv], Int.emod_nonneg _ (by omega), .inl (Int.emod_lt_of_pos _ (by omega)), hs, hg, hz⟩
theorem src_end {w w1 w2 : World} {o : Option Addr} {len cap p k : Nat} {a : Addr} {v : Value} (e : w1.setCell a v = w2) (S : Src w2 o len cap p) (G : w.grownBy w2 (some p) ∧ w2.heap.size = w.heap.size) :
    Src ((w1.drewN k).setCell a v) o len cap p ∧ w.grownBy ((w1.drewN k).setCell a v) (some p) ∧ ((w1.drewN k).setCell a v).heap.size = w.heap.size := by
  subst e
  exact ⟨src_drewN S k, ⟨G.1.os, G.1.tape, G.1.output, G.1.size, G.1.block⟩, G.2⟩
theorem src_end2 {w w2 : World} {o : Option Addr} {len cap p k : Nat} (S : Src w2 o len cap p ∧ w.grownBy w2 (some p) ∧ w2.heap.size = w.heap.size) :
    Src (w2.drewN k) o len cap p ∧ w.grownBy (w2.drewN k) (some p) ∧ (w2.drewN k).heap.size = w.heap.size :=
  ⟨src_drewN S.1 k, ⟨S.2.1.os, S.2.1.tape, S.2.1.output, S.2.1.size, S.2.1.block⟩, S.2.2⟩
set_option maxHeartbeats 800000 in
theorem next_big (n : Int) (o : Option Addr) (len cap p t : Nat) (s : Int) (w : World) (h : 2 ≤ n) (hn : n ≤ 4611686018427387904) (hs : SrcAt w o len cap p t s) :
    Calls Tryd.prog 32 #[.pointer (some ⟨p, 0, none⟩), .int .i64 n] w (NextPost n o len cap p w) := by
  have s0 := hs.s0
  have s1 := hs.s1
  have ht := hs.ht
  have hl := hs.hl
  obtain ⟨q, hq⟩ : ∃ q, q = (s * 48271 + 29) % 2147483647 := ⟨_, rfl⟩
  have q0 : 0 ≤ q := by omega
  have q1 : q < 2147483647 := by omega
  obtain ⟨w1, hw1⟩ : ∃ w1, w1 = w.setCell ⟨p, 2, none⟩ (.int .i64 q) := ⟨_, rfl⟩
  have S1 : Hid (SrcAt w1 o len cap p t q) := by
    show SrcAt w1 o len cap p t q
    rw [hw1]; exact srcAt_seed hs q0 q1
  have G1 : Hid (w.grownBy w1 (some p) ∧ w1.heap.size = w.heap.size) := by
    show w.grownBy w1 (some p) ∧ w1.heap.size = w.heap.size
    rw [hw1]; exact ⟨grownBy_setCellAt _ _ _ _, by simp [World.setCell]⟩
  have a2 := hs.c2
  have az := hs.fz 2
  have b0 := S1.out.c0
  have b1 := S1.out.c1
  have b2 := S1.out.c2
  have bz := S1.out.fz 1
  clear hs
  have hq' := hq.symm
  clear hq
  have hw' := hw1.symm
  clear hw1
  by_cases htl : t < len
  · obtain ⟨b, off, rfl, hbp, hc⟩ : ∃ b off, o = some ⟨b, off, none⟩ ∧ b < p ∧ ∀ i, i < len → ∃ z : Int, w1.cell? ⟨b, off + i, none⟩ = some (.int .u8 z) ∧ 0 ≤ z ∧ z ≤ 255 := by
      rcases S1.out.code with h0 | h0
      · omega
      · exact h0
    obtain ⟨z, hz, z0, z1⟩ := hc t htl
    clear hc
    obtain ⟨w2, hw2⟩ : ∃ w2, w2 = w1.setCell ⟨p, 1, none⟩ (.int .i64 ((t : Int) + 1)) := ⟨_, rfl⟩
    have S2 : Hid (SrcAt w2 (some ⟨b, off, none⟩) len cap p (t + 1) q) := by
      show SrcAt w2 (some ⟨b, off, none⟩) len cap p (t + 1) q
      rw [hw2, show ((t : Int) + 1) = ((t + 1 : Nat) : Int) by omega]; exact srcAt_at S1.out (by omega)
    have G2 : Hid (w.grownBy w2 (some p) ∧ w2.heap.size = w.heap.size) := by
      show w.grownBy w2 (some p) ∧ w2.heap.size = w.heap.size
      rw [hw2]; exact ⟨grownBy_tr G1.out.1 (grownBy_setCellAt _ _ _ _), by simp [World.setCell, G1.out.2]⟩
    have d0 := S2.out.c0
    have d1 : w2.cell? ⟨p, 1, none⟩ = some (.int .i64 ((t : Int) + 1)) := S2.out.c1
    have dz : w2.cell? ⟨b, off + t, none⟩ = some (.int .u8 z) := by rw [hw2, set_other (.inl (by omega))]; exact hz
    have hw2' := hw2.symm
    clear hw2
    have n1 : decide (n ≤ 1) = false := by simp; omega
    by_cases h256 : n ≤ 256
    · by_cases hpar : ((t : Int) + 1) % 2 = 0
      · have hp' : (((t : Int) + 1) % 2 == 0) = true := by simp [hpar]
        go_enter Tryd.func32, Tryd.ntmps32
        go_wp2
        go_quiet (fail)
        go_wp2
        go_quiet (fail)
        go_wp2
        go_quiet (fail)
        go_wp2
        go_ret
        have E := fun k c => src_end2 (k := c) (src_end (k := k) hw2' ⟨_, _, S2.out⟩ G2.out)
        exact nextPost_mk (x := z) h z0 (E _ _).1 (E _ _).2.1 (E _ _).2.2 rfl
      · have hp' : (((t : Int) + 1) % 2 == 0) = false := by simp [hpar]
        go_enter Tryd.func32, Tryd.ntmps32
        go_wp2
        go_quiet (fail)
        go_wp2
        go_quiet (fail)
        go_wp2
        go_ret
        have E := fun k => src_end (k := k) hw2' ⟨_, _, S2.out⟩ G2.out
        exact nextPost_mk (x := q / 31 + z) h (by omega) (E _).1 (E _).2.1 (E _).2.2 rfl
    · go_enter Tryd.func32, Tryd.ntmps32
      go_wp2
      go_quiet (fail)
      go_wp2
      go_quiet (fail)
      go_wp2
      go_ret
      have E := fun k => src_end (k := k) hw2' ⟨_, _, S2.out⟩ G2.out
      exact nextPost_mk (x := q / 31 + z) h (by omega) (E _).1 (E _).2.1 (E _).2.2 rfl
  · have n1 : decide (n ≤ 1) = false := by simp; omega
    go_enter Tryd.func32, Tryd.ntmps32
    go_wp2
    go_quiet (fail)
    go_wp2
    go_ret
    have E := fun k => src_end2 (k := k) ⟨⟨_, _, S1.out⟩, G1.out.1, G1.out.2⟩
    exact nextPost_mk (x := q / 31) h (by omega) (E _).1 (E _).2.1 (E _).2.2 rfl
end Go.Proofs.YtghhjeebcpcepaaDoor
namespace Go.Proofs.YtghhjeebcpcepaaDoor
open Go.RowKit
set_option linter.unusedVariables false
theorem next_any (n : Int) (o : Option Addr) (len cap p : Nat) (w : World) (hn : n ≤ 4611686018427387904) (hs : Src w o len cap p) :
    Calls Tryd.prog 32 #[.pointer (some ⟨p, 0, none⟩), .int .i64 n] w (NextPost n o len cap p w) := by
  by_cases h : n ≤ 1
  · exact (next_small n _ w h).mono fun e w' ⟨he, hw⟩ => ⟨0, he, Int.le_refl _, .inr rfl, hw ▸ hs, hw ▸ World.grownBy.refl _ _, hw ▸ rfl⟩
  · obtain ⟨t, s, hs⟩ := hs
    exact next_big n o len cap p t s w (by omega) hn hs
/-- one of the numbers of a list -/
def PickPost (l : List Int) (o : Option Addr) (len cap p : Nat) (w : World) (e : Ending) (w' : World) : Prop :=
  ∃ r : Int, e = .returned (.int .i64 r) ∧ r ∈ l ∧ Src w' o len cap p ∧ w.grownBy w' (some p) ∧ w'.heap.size = w.heap.size
theorem pick_any (l : List Int) (g c : Nat) (o : Option Addr) (len cap p : Nat) (w : World) (hs : Src w o len cap p) (hgp : g ≠ p) (h0 : 0 < l.length) (h1 : l.length ≤ 1000)
    (hc : ∀ k, k < l.length → w.cell? ⟨g, k, none⟩ = some (.int .i64 (l.getD k 0))) :
    Calls Tryd.prog 33 #[.pointer (some ⟨p, 0, none⟩), .slice (some ⟨g, 0, none⟩) l.length c] w (PickPost l o len cap p w) := by
  have HS := Lib.hid hs
  have HC := Lib.hid hc
  clear hs hc
  go_enter Tryd.func33, Tryd.ntmps33
  go_wp2_with fail
  refine (next_any _ _ _ _ _ _ (by omega) HS.out).mono ?_
  rintro e w1 ⟨r, rfl, hr0, hr1, hsr, hgr, hzr⟩
  have hr2 : r < (l.length : Int) := by omega
  have hc := HC.out r.toNat (by omega)
  rw [← World.grownBy.cell_far hgr ⟨g, r.toNat, none⟩ (World.block_lt_of_cell? w _ hc) (by simpa using hgp)] at hc
  obtain ⟨x, hx⟩ : ∃ x, l.getD r.toNat 0 = x := ⟨_, rfl⟩
  rw [hx] at hc
  have HX : Hid (x ∈ l) := by
    show x ∈ l
    have hlt : r.toNat < l.length := by omega
    rw [← hx, show l.getD r.toNat 0 = l[r.toNat] by simp [List.getD, hlt]]; exact List.getElem_mem _
  have HR := Lib.hid (And.intro hsr (And.intro hgr hzr))
  clear hx hr1 hsr hgr hzr
  go_wp2
  go_ret
  exact ⟨x, rfl, HX.out, HR.out⟩
/-- a value or nearly one -/
def DrawnPost (lo hi : Int) (o : Option Addr) (len cap p : Nat) (w : World) (e : Ending) (w' : World) : Prop :=
  ∃ r : Int, e = .returned (.int .i64 r) ∧ lo ≤ r ∧ r ≤ hi ∧ Src w' o len cap p ∧ w.grownBy w' (some p)
/-- a literal list of numbers, laid in a new block -/
theorem cells_new (w : World) (l : List Int) (T : TypeId) : ∀ k, k < l.length → (w.alloc (.cells (l.map (Value.int .i64)).toArray T)).cell? ⟨w.heap.size, k, none⟩ = some (.int .i64 (l.getD k 0)) := by
  intro k hk
  rw [World.cell?_alloc_new]
  simp [hk]
theorem src_lt {w : World} {o : Option Addr} {len cap p : Nat} (h : Src w o len cap p) : p < w.heap.size := by
  obtain ⟨t, s, h⟩ := h; exact World.block_lt_of_cell? w _ h.c0
/-- l01Pick over a list that has just been laid -/
theorem pick_new (l : List Int) (T : TypeId) (c : Nat) (o : Option Addr) (len cap p : Nat) (w : World) (hs : Src w o len cap p) (h0 : 0 < l.length) (h1 : l.length ≤ 1000) :
    Calls Tryd.prog 33 #[.pointer (some ⟨p, 0, none⟩), .slice (some ⟨w.heap.size, 0, none⟩) l.length c] (w.alloc (.cells (l.map (Value.int .i64)).toArray T)) fun e w' =>
      ∃ r : Int, e = .returned (.int .i64 r) ∧ r ∈ l ∧ Src w' o len cap p ∧ w.grownBy w' (some p) := by
  refine (pick_any l w.heap.size c o len cap p _ (src_alloc hs _) (by have := src_lt hs; omega) h0 h1 (cells_new w l T)).mono fun e w' ⟨r, he, hr, h2, h3, h4⟩ => ⟨r, he, hr, h2, grownBy_tr (World.grownBy_alloc w _ _) h3⟩
end Go.Proofs.YtghhjeebcpcepaaDoor
namespace Go.Proofs.YtghhjeebcpcepaaDoor
open Go.RowKit
set_option linter.unusedVariables false
/-- a code that came in -/
def CodeIn (w : World) (o : Option Addr) (len : Nat) : Prop :=
  len = 0 ∨ ∃ b off, o = some ⟨b, off, none⟩ ∧ b < w.heap.size ∧ ∀ i, i < len → ∃ z : Int, w.cell? ⟨b, off + i, none⟩ = some (.int .u8 z) ∧ 0 ≤ z ∧ z ≤ 255
def FromPost (o : Option Addr) (len cap : Nat) (w : World) (e : Ending) (w' : World) : Prop :=
  ∃ p, e = .returned (.pointer (some ⟨p, 0, none⟩)) ∧ w.heap.size ≤ p ∧ Src w' o len cap p ∧ Below w.heap.size w w'
theorem srcAt_new (w : World) (o : Option Addr) (len cap : Nat) (T : TypeId) (hl : len ≤ 4096) (hc : CodeIn w o len) :
    SrcAt (w.alloc (.cells #[.slice o len cap, .int .i64 0, .int .i64 31019] T)) o len cap w.heap.size 0 31019 := by
  refine ⟨?_, ?_, ?_, fun i => World.frozen?_alloc_at _ _ _ _ rfl, Nat.zero_le _, hl, by omega, by omega, ?_⟩
  · rw [World.cell?_alloc_new]; rfl
  · rw [World.cell?_alloc_new]; rfl
  · rw [World.cell?_alloc_new]; rfl
  · rcases hc with h0 | ⟨b, off, ho, hb, hc⟩
    · exact .inl h0
    · refine .inr ⟨b, off, ho, hb, fun i hi => ?_⟩
      rw [World.cell?_alloc_past _ _ _ hb]; exact hc i hi
set_option maxRecDepth 20000 in
set_option maxHeartbeats 800000 in
theorem from_any (o : Option Addr) (len cap : Nat) (w : World) (hl : len ≤ 4096) (hc : CodeIn w o len) :
    Calls Tryd.prog 30 #[.slice o len cap] w (FromPost o len cap w) := by
  have HN := Lib.hid (srcAt_new w o len cap 78 hl hc)
  clear hc
  go_enter Tryd.func30, Tryd.ntmps30
  go_wp2
  go_loopw [4] (fun i wr => ∃ (k : Nat) (s : Int), k ≤ len ∧ i = .int .i64 k ∧ SrcAt wr o len cap w.heap.size 0 s ∧ Below w.heap.size w wr) (fun i _ => len - (intOf i).toNat)
  case atStart => exact ⟨0, 31019, Nat.zero_le _, rfl, HN.out, (Below.refl _ _).alloc (Nat.le_refl _) _⟩
  case round =>
    obtain ⟨k, s, hk, rfl, hs, hb⟩ := hrel
    have s0 := hs.s0
    have s1 := hs.s1
    have a2 := hs.c2
    have az := hs.fz 2
    have HS := Lib.hid hs
    have HB := Lib.hid hb
    clear hs hb HN
    by_cases hlt : k < len
    · by_cases h64 : k < 64
      · obtain ⟨b, off, rfl, hbp, hc⟩ : ∃ b off, o = some ⟨b, off, none⟩ ∧ b < w.heap.size ∧ ∀ i, i < len → ∃ z : Int, wr.cell? ⟨b, off + i, none⟩ = some (.int .u8 z) ∧ 0 ≤ z ∧ z ≤ 255 := by
          rcases HS.out.code with h0 | h0
          · omega
          · exact h0
        obtain ⟨z, hz, z0, z1⟩ := hc k hlt
        clear hc
        go_wp2
        go_still_tail 15, (by kernel_rfl)
        go_wp2
        exact ⟨⟨k + 1, (s * 61 + z) % 2147483647, by omega, by go_num, srcAt_drewN (srcAt_seed HS.out (by omega) (by omega)) 1, (HB.out.setCell (Nat.le_refl _) _).drew⟩, by simp only [intOf]; omega⟩
      · go_wp2
        go_ret
        exact ⟨_, rfl, Nat.le_refl _, ⟨_, _, HS.out⟩, HB.out⟩
    · go_wp2
      go_ret
      exact ⟨_, rfl, Nat.le_refl _, ⟨_, _, HS.out⟩, HB.out⟩
end Go.Proofs.YtghhjeebcpcepaaDoor
namespace Go.Proofs.YtghhjeebcpcepaaDoor
open Go.RowKit
set_option linter.unusedVariables false
theorem prod_bd {k r : Int} (h1 : 1 ≤ k) (h2 : k ≤ 40) (h3 : 0 ≤ r) (h4 : r ≤ 200) : -4000 ≤ k * (r - 100) ∧ k * (r - 100) ≤ 4000 := by
  have : (k * (r - 100)).natAbs ≤ 40 * 100 := by
    rw [Int.natAbs_mul]; exact Nat.mul_le_mul (by omega) (by omega)
  omega
/-- two numbers, drawn -/
def TwoPost (w : World) (e : Ending) (w' : World) : Prop := ∃ a b : Int, e = .returned (.tuple #[.int .i64 a, .int .i64 b]) ∧ Below w.heap.size w w'
def OnePost (w : World) (e : Ending) (w' : World) : Prop := ∃ a : Int, e = .returned (.int .i64 a) ∧ Below w.heap.size w w'
/-- a step of drawing, below the source's block -/
theorem below_draw {B p : Nat} {a w w' : World} (h : Below B a w) (hg : w.grownBy w' (some p)) (hp : B ≤ p) (hw : B ≤ w.heap.size) : Below B a w' :=
  h.grown hg hw (fun k hk => by cases hk; exact hp)
theorem big_no (o : Option Addr) (len cap : Nat) (w : World) (hl : len ≤ 4096) :
    Calls Tryd.prog 9 #[.slice o len cap] w fun e w' => e = .returned (.bool false) ∧ w = w' := by
  go_enter Tryd.func9, Tryd.ntmps9
  go_wp2
  go_ret
  exact ⟨ret_bool (decide_eq_false (by omega)), rfl⟩
theorem big_yes (o : Option Addr) (len cap : Nat) (w : World) (hl : 4096 < len) (hm : len ≤ 9223372036854775807) :
    Calls Tryd.prog 9 #[.slice o len cap] w fun e w' => e = .returned (.bool true) ∧ w = w' := by
  go_enter Tryd.func9, Tryd.ntmps9
  go_wp2
  go_ret
  exact ⟨ret_bool (decide_eq_true (by omega)), rfl⟩
theorem codeIn_below {w w' : World} {B : Nat} {o : Option Addr} {len : Nat} (h : CodeIn w o len) (hb : Below w.heap.size w w') : CodeIn w' o len := by
  rcases h with h | ⟨b, off, ho, hlt, hc⟩
  · exact .inl h
  · exact .inr ⟨b, off, ho, Nat.lt_of_lt_of_le hlt hb.size, fun i hi => by rw [hb.cell (by exact hlt)]; exact hc i hi⟩
end Go.Proofs.YtghhjeebcpcepaaDoor
namespace Go.Proofs.YtghhjeebcpcepaaDoor
open Go.RowKit
set_option linter.unusedVariables false
end Go.Proofs.YtghhjeebcpcepaaDoor
namespace Go.Proofs.YtghhjeebcpcepaaDoor
open Go.RowKit
set_option linter.unusedVariables false
/-- a ring, drawn -/
def RingPost (o : Option Addr) (len cap q : Nat) (w : World) (e : Ending) (w' : World) : Prop :=
  ∃ p n : Int, e = .returned (.agg #[.int .i64 p, .int .i64 n]) ∧ -3 ≤ p ∧ p ≤ 101 ∧ -1 ≤ n ∧ n ≤ 30 ∧ Src w' o len cap q ∧ w.grownBy w' (some q)
theorem valid_ring {p n : Int} (hp : p ∈ [2, 3, 5, 7, 2, 3, 5, 11, 13]) (h1 : 1 ≤ n) (h2 : n ≤ 6) : smallB p = true ∧ ringM p n ≠ 0 := by
  have hs : smallB p = true := by
    simp only [List.mem_cons, List.not_mem_nil, or_false] at hp
    rcases hp with rfl | rfl | rfl | rfl | rfl | rfl | rfl | rfl | rfl <;> decide
  have hb : 2 ≤ p ∧ p ≤ 13 := by simp at hp; omega
  refine ⟨hs, ?_⟩
  have e1 := pow_le hb.1 (show n.toNat ≤ 6 by omega)
  have e2 : p ^ 6 ≤ 4826809 := by
    simp only [List.mem_cons, List.not_mem_nil, or_false] at hp
    rcases hp with rfl | rfl | rfl | rfl | rfl | rfl | rfl | rfl | rfl <;> decide
  have e3 := pow_ge1 hb.1 n.toNat
  unfold ringM
  rw [hs, decide_eq_true h1, decide_eq_true (show p ^ n.toNat ≤ 1000000000 by omega)]
  simp; omega
theorem src_set {w : World} {o : Option Addr} {len cap q b i : Nat} {v : Value} (h : Src w o len cap q) (hb : q < b) : Src (w.setCell ⟨b, i, none⟩ v) o len cap q := by
  obtain ⟨t, s, h⟩ := h
  refine ⟨t, s, ?_, ?_, ?_, fun i => by rw [World.frozen?_setCell]; exact h.fz i, h.ht, h.hl, h.s0, h.s1, ?_⟩
  · rw [set_other (.inl (by omega))]; exact h.c0
  · rw [set_other (.inl (by omega))]; exact h.c1
  · rw [set_other (.inl (by omega))]; exact h.c2
  · rcases h.code with hz | ⟨b, off, ho, hbp, hc⟩
    · exact .inl hz
    · refine .inr ⟨b, off, ho, hbp, fun i hi => ?_⟩
      rw [set_other (.inl (by omega))]; exact hc i hi
theorem grown_set {w w' : World} {q b i : Nat} {v : Value} (h : w.grownBy w' (some q)) (hb : w.heap.size ≤ b) : w.grownBy (w'.setCell ⟨b, i, none⟩ v) (some q) :=
  ⟨h.os, h.tape, h.output, by simpa using h.size, fun k hk hn => by rw [Below.heap_setCell _ _ _ _ (by show k ≠ b; omega)]; exact h.block k hk hn⟩
/-- l01Pick over a list laid in a block whose number is written out -/
theorem pick_at (l : List Int) (T : TypeId) (c : Nat) (o : Option Addr) (len cap p g : Nat) (w : World) (hg : w.heap.size = g) (hs : Src w o len cap p) (h0 : 0 < l.length) (h1 : l.length ≤ 1000) :
    Calls Tryd.prog 33 #[.pointer (some ⟨p, 0, none⟩), .slice (some ⟨g, 0, none⟩) l.length c] (w.alloc (.cells (l.map (Value.int .i64)).toArray T)) fun e w' =>
      ∃ r : Int, e = .returned (.int .i64 r) ∧ r ∈ l ∧ Src w' o len cap p ∧ w.grownBy w' (some p) := by
  subst hg; exact pick_new l T c o len cap p w hs h0 h1
theorem ring_block {w w2 : World} {a b : Value} {T : TypeId} (h : w2.heap[w.heap.size]? = (w.alloc (.cells #[a, b] T)).heap[w.heap.size]?) :
    w2.cell? ⟨w.heap.size, 0, none⟩ = some a ∧ w2.cell? ⟨w.heap.size, 1, none⟩ = some b ∧ w2.frozen? ⟨w.heap.size, 0, none⟩ = false ∧ w2.frozen? ⟨w.heap.size, 1, none⟩ = false := by
  refine ⟨?_, ?_, ?_, ?_⟩
  · rw [World.cell?_of_block (w := w.alloc (.cells #[a, b] T)) (a := ⟨w.heap.size, 0, none⟩) h, World.cell?_alloc_new]; rfl
  · rw [World.cell?_of_block (w := w.alloc (.cells #[a, b] T)) (a := ⟨w.heap.size, 1, none⟩) h, World.cell?_alloc_new]; rfl
  · rw [World.frozen?_of_block (w := w.alloc (.cells #[a, b] T)) (a := ⟨w.heap.size, 0, none⟩) h]; exact World.frozen?_alloc_at _ _ _ _ rfl
  · rw [World.frozen?_of_block (w := w.alloc (.cells #[a, b] T)) (a := ⟨w.heap.size, 1, none⟩) h]; exact World.frozen?_alloc_at _ _ _ _ rfl
theorem block_alloc {w : World} (o : Obj) {k : Nat} (h : k < w.heap.size) : (w.alloc o).heap[k]? = w.heap[k]? := Below.heap_alloc w o k h
end Go.Proofs.YtghhjeebcpcepaaDoor
namespace Go.Proofs.YtghhjeebcpcepaaDoor
open Go.RowKit
set_option linter.unusedVariables false
set_option maxRecDepth 20000
set_option linter.unusedSimpArgs false
end Go.Proofs.YtghhjeebcpcepaaDoor
namespace Go.Proofs.YtghhjeebcpcepaaDoor
open Go.RowKit
set_option linter.unusedVariables false
set_option maxRecDepth 20000
set_option linter.unusedSimpArgs false
def makeT (p v s e : Int) : Int × Int × Int :=
  if s % pw p (e - v) = 0 then (e, 0, 0) else (v + valCount (s % pw p (e - v)) p, valRest (s % pw p (e - v)) p, e - v - valCount (s % pw p (e - v)) p)
theorem make_eq {p v u n v' u' n' s : Int} (hs : s % pw p (addE v n v' n' - v) = addR p v u n v' u' n') : makeT p v s (addE v n v' n') = add0 p v u n v' u' n' := by
  unfold makeT add0; rw [hs, Int.sub_sub]
abbrev K4 (w : World) (a b c d : Array Value) (w1 : World) : Prop := K3 w a b c w1 ∧ Lies w1 (w.heap.size + 3) d
theorem lies_fourth {w : World} {o o' o'' : Obj} {vs : Array Value} {T : TypeId} : Lies ((((w.alloc o).alloc o').alloc o'').alloc (.cells vs T)) (w.heap.size + 3) vs := by
  have := lies_new (((w.alloc o).alloc o').alloc o'') vs T; rw [size1, size1, size1] at this; exact this
theorem k4_new (w : World) (a b c d : Array Value) (T T' T'' T3 : TypeId) : K4 w a b c d ((((w.alloc (.cells a T)).alloc (.cells b T')).alloc (.cells c T'')).alloc (.cells d T3)) :=
  ⟨k3_next (k3_new w a b c T T' T'') (below_a1 _ _), lies_fourth⟩
theorem k4_drew {w w1 : World} {a b c d : Array Value} (h : K4 w a b c d w1) : K4 w a b c d w1.drew := ⟨k3_drew h.1, h.2⟩
end Go.Proofs.YtghhjeebcpcepaaDoor
namespace Go.Proofs.YtghhjeebcpcepaaDoor
open Go.RowKit
set_option linter.unusedVariables false
set_option maxRecDepth 20000
/-- a number for a prime, drawn -/
def ValPost (p : Int) (o : Option Addr) (len cap q : Nat) (w : World) (e : Ending) (w' : World) : Prop :=
  ∃ v u n : Int, e = .returned (.agg (P4 p v u n)) ∧ -6 ≤ v ∧ v ≤ 6 ∧ 0 ≤ u ∧ u ≤ 1000000000 ∧ 0 ≤ n ∧ n ≤ 8 ∧ Src w' o len cap q ∧ w.grownBy w' (some q)
/-- a source in use, and what is old but for the source's block -/
def GG (o : Option Addr) (len cap q : Nat) (w wz : World) : Prop := Src wz o len cap q ∧ w.grownBy wz (some q) ∧ q < w.heap.size
theorem gg_next {o : Option Addr} {len cap q : Nat} {w w1 w2 : World} (h : GG o len cap q w w1) (hs : Src w2 o len cap q) (hg : w1.grownBy w2 (some q)) : GG o len cap q w w2 := ⟨hs, grownBy_tr h.2.1 hg, h.2.2⟩
theorem gg_alloc {o : Option Addr} {len cap q : Nat} {w w1 : World} (h : GG o len cap q w w1) (ob : Obj) : GG o len cap q w (w1.alloc ob) := gg_next h (src_alloc h.1 ob) (World.grownBy_alloc w1 ob (some q))
theorem gg_set {o : Option Addr} {len cap q : Nat} {w w1 : World} (h : GG o len cap q w w1) {b i : Nat} (hb : w.heap.size ≤ b) (v : Value) : GG o len cap q w (w1.setCell ⟨b, i, none⟩ v) :=
  ⟨src_set h.1 (by have := h.2.2; omega), grown_set h.2.1 hb, h.2.2⟩
theorem gg_set4 {o : Option Addr} {len cap q : Nat} {w w1 : World} (h : GG o len cap q w w1) {b : Nat} (hb : w.heap.size ≤ b) (x0 x1 x2 x3 : Value) :
    GG o len cap q w ((((w1.setCell ⟨b, 0, none⟩ x0).setCell ⟨b, 1, none⟩ x1).setCell ⟨b, 2, none⟩ x2).setCell ⟨b, 3, none⟩ x3) := gg_set (gg_set (gg_set (gg_set h hb _) hb _) hb _) hb _
theorem gg_start {o : Option Addr} {len cap q : Nat} {w : World} (hs : Src w o len cap q) : GG o len cap q w w := ⟨hs, World.grownBy.refl _ _, src_lt hs⟩
theorem gg_lies {o : Option Addr} {len cap q : Nat} {w w1 w2 : World} {b : Nat} {vs : Array Value} (h : GG o len cap q w w1) (hb : w.heap.size ≤ b) (L : Lies w1 b vs) (hg : w1.grownBy w2 (some q)) : Lies w2 b vs :=
  lies_grown L hg (by have := h.2.2; omega)
theorem ringM_one {p : Int} (hs : smallB p = true) : ringM p 1 ≠ 0 := by
  obtain ⟨h1, h2⟩ := smallB_bd hs
  rw [ringM_pw hs (by omega) (by rw [pw_one]; omega), pw_one]; omega
/-- a number, drawn -/
def PadPost (o : Option Addr) (len cap q : Nat) (w : World) (e : Ending) (w' : World) : Prop :=
  ∃ p v u n : Int, e = .returned (.agg (P4 p v u n)) ∧ -3 ≤ p ∧ p ≤ 101 ∧ -61 ≤ v ∧ v ≤ 61 ∧ -1 ≤ u ∧ u ≤ 1000000000 ∧ -1 ≤ n ∧ n ≤ 30 ∧ Src w' o len cap q ∧ w.grownBy w' (some q)
theorem small_of {p : Int} (hp : p ∈ [2, 3, 5, 7, 13]) : smallB p = true ∧ 2 ≤ p ∧ p ≤ 13 := by
  simp only [List.mem_cons, List.not_mem_nil, or_false] at hp
  rcases hp with rfl | rfl | rfl | rfl | rfl <;> decide
end Go.Proofs.YtghhjeebcpcepaaDoor
namespace Go.Proofs.YtghhjeebcpcepaaDoor
open Go.RowKit
set_option linter.unusedVariables false
set_option maxRecDepth 20000
set_option linter.unusedSimpArgs false
/-- two blocks that hold numbers that are read -/
abbrev SR (w : World) (p v u n q v' u' n' : Int) (w1 : World) : Prop :=
  K2 w (P4 p v u n) (P4 q v' u' n') w1 ∧ w1.cell? ⟨w.heap.size, 0, none⟩ = some (.int .i64 p) ∧ w1.cell? ⟨w.heap.size, 1, none⟩ = some (.int .i64 v) ∧ w1.cell? ⟨w.heap.size, 2, none⟩ = some (.int .i64 u) ∧ w1.cell? ⟨w.heap.size, 3, none⟩ = some (.int .i64 n) ∧
  w1.cell? ⟨w.heap.size + 1, 0, none⟩ = some (.int .i64 q) ∧ w1.cell? ⟨w.heap.size + 1, 1, none⟩ = some (.int .i64 v') ∧ w1.cell? ⟨w.heap.size + 1, 2, none⟩ = some (.int .i64 u') ∧ w1.cell? ⟨w.heap.size + 1, 3, none⟩ = some (.int .i64 n')
theorem sr_of {w : World} {p v u n q v' u' n' : Int} {w1 : World} (K : K2 w (P4 p v u n) (P4 q v' u' n') w1) : SR w p v u n q v' u' n' w1 := by
  obtain ⟨c0, c1, c2, c3⟩ := lies_four K.2.1
  obtain ⟨d0, d1, d2, d3⟩ := lies_four K.2.2
  exact ⟨K, c0, c1, c2, c3, d0, d1, d2, d3⟩
theorem sr_next {w : World} {p v u n q v' u' n' : Int} {w1 w2 : World} (h : SR w p v u n q v' u' n' w1) (hb : Below w1.heap.size w1 w2) : SR w p v u n q v' u' n' w2 := sr_of (k2_next h.1 hb)
theorem k2_alloc {w w1 : World} {a b : Array Value} (h : K2 w a b w1) (o : Obj) : K2 w a b (w1.alloc o) := k2_next h (below_a1 w1 o)
theorem sr_set {w : World} {p v u n q v' u' n' : Int} {w1 : World} {b : Nat} (h : SR w p v u n q v' u' n' w1) (x0 x1 x2 x3 : Value) (hb : w.heap.size + 1 < b) :
    SR w p v u n q v' u' n' ((((w1.setCell ⟨b, 0, none⟩ x0).setCell ⟨b, 1, none⟩ x1).setCell ⟨b, 2, none⟩ x2).setCell ⟨b, 3, none⟩ x3) :=
  sr_of ⟨below_set4 h.1.1 (by omega), lies_other4 h.1.2.1 (by omega), lies_other4 h.1.2.2 (by omega)⟩
theorem sr_alloc {w : World} {p v u n q v' u' n' : Int} {w1 : World} (h : SR w p v u n q v' u' n' w1) (o : Obj) : SR w p v u n q v' u' n' (w1.alloc o) := sr_of (k2_alloc h.1 o)
end Go.Proofs.YtghhjeebcpcepaaDoor
namespace Go.Proofs.YtghhjeebcpcepaaDoor
open Go.RowKit
set_option linter.unusedVariables false
set_option maxRecDepth 20000
set_option linter.unusedSimpArgs false
end Go.Proofs.YtghhjeebcpcepaaDoor
namespace Go.Proofs.YtghhjeebcpcepaaDoor
open Go.RowKit
set_option linter.unusedVariables false
end Go.Proofs.YtghhjeebcpcepaaDoor
namespace Go.Proofs.YtghhjeebcpcepaaDoor
open Go.RowKit
set_option linter.unusedVariables false
set_option maxRecDepth 20000
set_option linter.unusedSimpArgs false
def OnePad (w : World) (e : Ending) (w' : World) : Prop := ∃ p v u n : Int, e = .returned (.agg (P4 p v u n)) ∧ Below w.heap.size w w'
def PadInt (w : World) (e : Ending) (w' : World) : Prop := ∃ p v u n k : Int, e = .returned (.tuple #[.agg (P4 p v u n), .int .i64 k]) ∧ Below w.heap.size w w'
def TwoPad (w : World) (e : Ending) (w' : World) : Prop := ∃ p v u n q v' u' n' : Int, e = .returned (.tuple #[.agg (P4 p v u n), .agg (P4 q v' u' n')]) ∧ Below w.heap.size w w'
def ThreeInt (w : World) (e : Ending) (w' : World) : Prop := ∃ a b c : Int, e = .returned (.tuple #[.int .i64 a, .int .i64 b, .int .i64 c]) ∧ Below w.heap.size w w'
/-- a source in use, and what is old; k blocks lie ahead of the source -/
def DD (o : Option Addr) (len cap q k : Nat) (w wz : World) : Prop := Src wz o len cap q ∧ Below w.heap.size w wz ∧ w.heap.size + k ≤ q
theorem dd_next {o : Option Addr} {len cap q k : Nat} {w w1 w2 : World} (h : DD o len cap q k w w1) (hs : Src w2 o len cap q) (hg : w1.grownBy w2 (some q)) : DD o len cap q k w w2 :=
  ⟨hs, below_draw h.2.1 hg (by have := h.2.2; omega) h.2.1.size, h.2.2⟩
theorem dd_alloc {o : Option Addr} {len cap q k : Nat} {w w1 : World} (h : DD o len cap q k w w1) (ob : Obj) : DD o len cap q k w (w1.alloc ob) := dd_next h (src_alloc h.1 ob) (World.grownBy_alloc w1 ob (some q))
theorem dd_drew {o : Option Addr} {len cap q k : Nat} {w w1 : World} (h : DD o len cap q k w w1) : DD o len cap q k w w1.drew := ⟨src_drewN h.1 1, below_drewN h.2.1 1, h.2.2⟩
theorem dd_drewN {o : Option Addr} {len cap q k : Nat} {w w1 : World} (h : DD o len cap q k w w1) (j : Nat) : DD o len cap q k w (w1.drewN j) := ⟨src_drewN h.1 j, below_drewN h.2.1 j, h.2.2⟩
theorem dd_below {o : Option Addr} {len cap q k : Nat} {w w1 w2 : World} (h : DD o len cap q k w w1) (hb : Below w1.heap.size w1 w2) : DD o len cap q k w w2 :=
  ⟨src_below h.1 hb (src_lt h.1), h.2.1.trans (hb.mono h.2.1.size), h.2.2⟩
theorem dd_set {o : Option Addr} {len cap q k : Nat} {w w1 : World} (h : DD o len cap q k w w1) {b i : Nat} (hb : q < b) (v : Value) : DD o len cap q k w (w1.setCell ⟨b, i, none⟩ v) :=
  ⟨src_set h.1 hb, h.2.1.setCell (show w.heap.size ≤ b by have := h.2.2; omega) _, h.2.2⟩
theorem k1_grown {w w1 w2 : World} {a : Array Value} {q : Nat} (h : K1 w a w1) (hg : w1.grownBy w2 (some q)) (hq : w.heap.size + 1 ≤ q) : K1 w a w2 := ⟨below_draw h.1 hg (by omega) h.1.size, lies_grown h.2 hg (by omega)⟩
theorem k2_grown {w w1 w2 : World} {a b : Array Value} {q : Nat} (h : K2 w a b w1) (hg : w1.grownBy w2 (some q)) (hq : w.heap.size + 2 ≤ q) : K2 w a b w2 :=
  ⟨below_draw h.1 hg (by omega) h.1.size, lies_grown h.2.1 hg (by omega), lies_grown h.2.2 hg (by omega)⟩
end Go.Proofs.YtghhjeebcpcepaaDoor
namespace Go.Proofs.YtghhjeebcpcepaaDoor
open Go.RowKit
set_option linter.unusedVariables false
set_option linter.unusedSimpArgs false
set_option maxRecDepth 20000
theorem l05Make_val (n d : Int) (w : World) (hd : d ≠ 0) (n0 : -1000000000000 ≤ n) (n1 : n ≤ 1000000000000) (d0 : -1000000000000 ≤ d) (d1 : d ≤ 1000000000000) :
    Calls Tryd.prog 69 #[.int .i64 n, .int .i64 d] w fun e w' => e = .returned (.tuple #[.agg (P2 (rlN n d) (rlD n d)), .int .i64 0]) ∧ Below w.heap.size w w' := by
  have hv := isRat_low hd ⟨n0, n1⟩ ⟨d0, d1⟩
  have h := l05Make_any n d w hd (by omega) (by omega) (by omega) (by omega)
  rw [show rresQ (rlN n d) (rlD n d) = (rlN n d, rlD n d) by simp [rresQ, hv], show rlimC (rlN n d) (rlD n d) = 0 by simp [rlimC, hv]] at h
  exact h
/-- a valid rational number, drawn -/
def RatVPost (o : Option Addr) (len cap q : Nat) (w : World) (e : Ending) (w' : World) : Prop :=
  ∃ n d : Int, e = .returned (.agg (P2 n d)) ∧ -1000 ≤ n ∧ n ≤ 1000 ∧ 1 ≤ d ∧ d ≤ 500 ∧ isRatB n d = true ∧ Src w' o len cap q ∧ w.grownBy w' (some q)
theorem gg_below {o : Option Addr} {len cap q : Nat} {w w1 w2 : World} (h : GG o len cap q w w1) (hb : Below w1.heap.size w1 w2) : GG o len cap q w w2 :=
  gg_next h (src_below h.1 hb (src_lt h.1)) ⟨hb.os, hb.tape, hb.output, hb.size, fun b hlt _ => hb.block b hlt⟩
set_option maxHeartbeats 1000000 in
theorem ratValidDraw_any (o : Option Addr) (len cap q : Nat) (w : World) (hs : Src w o len cap q) :
    Calls Tryd.prog 49 #[.pointer (some ⟨q, 0, none⟩)] w (RatVPost o len cap q w) := by
  have G := gg_alloc (gg_start hs) (.cells (P2 0 0) 33)
  have L := lies_new w (P2 0 0) 33
  clear hs
  go_enter Tryd.func49, Tryd.ntmps49
  go_wp2_with fail
  refine (next_any _ _ _ _ _ _ (by omega) G.1).mono ?_
  rintro e w1 ⟨r1, rfl, a0, a1, hs1, hg1, hz⟩
  have a2 : r1 < 41 := by omega
  replace L := gg_lies G (Nat.le_refl _) L hg1
  replace G := gg_next G hs1 hg1
  clear a1 hs1 hg1 hz
  go_wp2_with fail
  refine (next_any _ _ _ _ _ _ (by omega) G.1).mono ?_
  rintro e w2 ⟨r2, rfl, b0, b1, hs1, hg1, hz⟩
  have b2 : r2 < 2001 := by omega
  replace L := gg_lies G (Nat.le_refl _) L hg1
  replace G := gg_next G hs1 hg1
  clear b1 hs1 hg1 hz
  go_wp2_with fail
  refine (next_any _ _ _ _ _ _ (by omega) G.1).mono ?_
  rintro e w3 ⟨r3, rfl, c0, c1, hs1, hg1, hz⟩
  have c2 : r3 < 21 := by omega
  replace L := gg_lies G (Nat.le_refl _) L hg1
  replace G := gg_next G hs1 hg1
  clear c1 hs1 hg1 hz
  go_wp2_with fail
  refine (pick_new [r1 - 20, r2 - 1000, 0, 27 * (r3 - 10)] 2 4 o len cap q w3 G.1 (by simp) (by simp)).mono ?_
  rintro e w4 ⟨n, rfl, hn, hs1, hg1⟩
  have hnb : -1000 ≤ n ∧ n ≤ 1000 := by simp at hn; omega
  obtain ⟨n0, n1⟩ := hnb
  replace L := gg_lies G (Nat.le_refl _) L hg1
  replace G := gg_next G hs1 hg1
  clear hn hs1 hg1 a0 a2 b0 b2 c0 c2
  go_wp2_with fail
  refine (next_any _ _ _ _ _ _ (by omega) G.1).mono ?_
  rintro e w5 ⟨r4, rfl, a0, a1, hs1, hg1, hz⟩
  have a2 : r4 < 20 := by omega
  replace L := gg_lies G (Nat.le_refl _) L hg1
  replace G := gg_next G hs1 hg1
  clear a1 hs1 hg1 hz
  go_wp2_with fail
  refine (next_any _ _ _ _ _ _ (by omega) G.1).mono ?_
  rintro e w6 ⟨r5, rfl, b0, b1, hs1, hg1, hz⟩
  have b2 : r5 < 500 := by omega
  replace L := gg_lies G (Nat.le_refl _) L hg1
  replace G := gg_next G hs1 hg1
  clear b1 hs1 hg1 hz
  go_wp2_with fail
  refine (pick_new [1, 1 + r4, 1 + r5, 8, 9, 25] 2 6 o len cap q w6 G.1 (by simp) (by simp)).mono ?_
  rintro e w7 ⟨d, rfl, hd, hs1, hg1⟩
  have hdb : 1 ≤ d ∧ d ≤ 500 := by simp at hd; omega
  obtain ⟨d0, d1⟩ := hdb
  replace L := gg_lies G (Nat.le_refl _) L hg1
  replace G := gg_next G hs1 hg1
  clear hd hs1 hg1 a0 a2 b0 b2
  have hd0 : d ≠ 0 := by omega
  have hv := isRat_low (n := n) hd0 (by omega) (by omega)
  have hp := low_pos (n := n) hd0
  obtain ⟨l1, l2⟩ := low_bd n d
  have HV := Lib.hid hv
  have HM := Lib.hid fun w => l05Make_val n d w hd0 (by omega) (by omega) (by omega) (by omega)
  have e0 : -1000 ≤ rlN n d ∧ rlN n d ≤ 1000 ∧ rlD n d ≤ 500 := by omega
  obtain ⟨e1, e2, e3⟩ := e0
  clear hd0 hv l1 l2
  generalize rlN n d = x at *
  generalize rlD n d = y at *
  go_wp2_with fail
  refine (HM.out _).mono ?_
  rintro e w8 ⟨rfl, hb⟩
  replace L := lies_next L hb
  replace G := gg_below G hb
  clear hb
  go_upto_region 2 with fail
  have X := lies_new w8 (P2 x y) 33
  replace L := lies_alloc L (.cells (P2 x y) 33)
  replace G := gg_alloc G (.cells (P2 x y) 33)
  generalize w8.alloc (.cells (P2 x y) 33) = V at X L G ⊢
  obtain ⟨x0, x1⟩ := lies_pair X
  obtain ⟨z0, z1⟩ := lies_pair L
  have zf0 := lies_frozen L 0
  have zf1 := lies_frozen L 1
  go_wp2
  refine bodyPost_ret (v := .agg (P2 x y)) (by simp [results, Tryd.results49, go_sem, z0, z1]) rfl ?_
  have G2 := gg_set (gg_set G (b := w.heap.size) (i := 0) (Nat.le_refl _) (.int .i64 x)) (b := w.heap.size) (i := 1) (Nat.le_refl _) (.int .i64 y)
  exact ⟨x, y, rfl, e1, e2, hp, e3, HV.out, G2.1, G2.2.1⟩
/-- a rational number, drawn -/
def RatDPost (o : Option Addr) (len cap q : Nat) (w : World) (e : Ending) (w' : World) : Prop :=
  ∃ n d : Int, e = .returned (.agg (P2 n d)) ∧ -1000 ≤ n ∧ n ≤ 1000000000001 ∧ -1 ≤ d ∧ d ≤ 1000000000001 ∧ Src w' o len cap q ∧ w.grownBy w' (some q)
set_option maxHeartbeats 1000000 in
theorem ratDraw_any (o : Option Addr) (len cap q : Nat) (w : World) (hs : Src w o len cap q) :
    Calls Tryd.prog 44 #[.pointer (some ⟨q, 0, none⟩)] w (RatDPost o len cap q w) := by
  have G := gg_alloc (gg_start hs) (.cells (P2 0 0) 33)
  have L := lies_new w (P2 0 0) 33
  clear hs
  go_enter Tryd.func44, Tryd.ntmps44
  go_wp2_with fail
  refine (ratValidDraw_any o len cap q _ G.1).mono ?_
  rintro e w1 ⟨n, d, rfl, n0, n1, d0, d1, _, hs1, hg1⟩
  replace L := gg_lies G (Nat.le_refl _) L hg1
  replace G := gg_next G hs1 hg1
  clear hs1 hg1
  go_upto_region 2 with fail
  have X := lies_new w1 (P2 n d) 33
  have hx : q < w1.heap.size := src_lt G.1
  have hx2 : w.heap.size < w1.heap.size := lies_lt L
  replace L := lies_alloc L (.cells (P2 n d) 33)
  replace G := gg_alloc G (.cells (P2 n d) 33)
  generalize w1.alloc (.cells (P2 n d) 33) = V at X L G ⊢
  obtain ⟨bx, hbx⟩ : ∃ b, w1.heap.size = b := ⟨_, rfl⟩
  rw [hbx] at X hx hx2 ⊢
  clear hbx
  go_wp2_with fail
  refine (next_any _ _ _ _ _ _ (by omega) G.1).mono ?_
  rintro e w2 ⟨r, rfl, r0, r1, hs1, hg1, hz⟩
  have r2 : r < 24 := by omega
  replace X := lies_grown X hg1 (by omega)
  replace L := gg_lies G (Nat.le_refl _) L hg1
  replace G := gg_next G hs1 hg1
  clear r1 hs1 hg1 hz
  by_cases h0 : r = 0
  · subst h0
    go_wp2_with fail
    refine (pick_new [0, -1, 1000001, 1000000000000, 1000000000001] 2 5 o len cap q w2 G.1 (by simp) (by simp)).mono ?_
    rintro e w3 ⟨k, rfl, hk, hs1, hg1⟩
    have hkb : -1 ≤ k ∧ k ≤ 1000000000001 := by simp at hk; omega
    replace X := lies_grown X hg1 (by omega)
    replace L := gg_lies G (Nat.le_refl _) L hg1
    replace G := gg_next G hs1 hg1
    obtain ⟨x0, x1⟩ := lies_pair X
    have xf := lies_frozen X 1
    clear hk hs1 hg1
    go_upto_region 7 with fail
    replace X := lies_set X (i := 1) (v := .int .i64 k) (by simp)
    replace X : Lies _ bx (P2 n k) := X
    replace L := lies_other (i := 1) (v := .int .i64 k) L (show bx ≠ w.heap.size by omega)
    replace G := gg_set G (b := bx) (i := 1) (by omega) (.int .i64 k)
    clear x0 x1 xf
    generalize w3.setCell ⟨bx, 1, none⟩ (.int .i64 k) = V3 at X L G ⊢
    obtain ⟨x0, x1⟩ := lies_pair X
    obtain ⟨z0, z1⟩ := lies_pair L
    have zf0 := lies_frozen L 0
    have zf1 := lies_frozen L 1
    go_wp2
    refine bodyPost_ret (v := .agg (P2 n k)) (by simp [results, Tryd.results44, go_sem, z0, z1]) rfl ?_
    have G2 := gg_set (gg_set G (b := w.heap.size) (i := 0) (Nat.le_refl _) (.int .i64 n)) (b := w.heap.size) (i := 1) (Nat.le_refl _) (.int .i64 k)
    exact ⟨n, k, rfl, by omega, by omega, by omega, by omega, G2.1, G2.2.1⟩
  · by_cases h1 : r = 1
    · subst h1
      obtain ⟨x0, x1⟩ := lies_pair X
      go_wp2_with fail
      clear x0 x1
      refine (pick_new [2 * d, 1000000000000, 1000000000001, 999999] 2 4 o len cap q w2 G.1 (by simp) (by simp)).mono ?_
      rintro e w3 ⟨k, rfl, hk, hs1, hg1⟩
      have hkb : -1 ≤ k ∧ k ≤ 1000000000001 := by simp at hk; omega
      replace X := lies_grown X hg1 (by omega)
      replace L := gg_lies G (Nat.le_refl _) L hg1
      replace G := gg_next G hs1 hg1
      obtain ⟨x0, x1⟩ := lies_pair X
      have xf := lies_frozen X 0
      clear hk hs1 hg1
      go_upto_region 7 with fail
      replace X := lies_set X (i := 0) (v := .int .i64 k) (by simp)
      replace X : Lies _ bx (P2 k d) := X
      replace L := lies_other (i := 0) (v := .int .i64 k) L (show bx ≠ w.heap.size by omega)
      replace G := gg_set G (b := bx) (i := 0) (by omega) (.int .i64 k)
      clear x0 x1 xf
      generalize w3.setCell ⟨bx, 0, none⟩ (.int .i64 k) = V3 at X L G ⊢
      obtain ⟨x0, x1⟩ := lies_pair X
      obtain ⟨z0, z1⟩ := lies_pair L
      have zf0 := lies_frozen L 0
      have zf1 := lies_frozen L 1
      go_wp2
      refine bodyPost_ret (v := .agg (P2 k d)) (by simp [results, Tryd.results44, go_sem, z0, z1]) rfl ?_
      have G2 := gg_set (gg_set G (b := w.heap.size) (i := 0) (Nat.le_refl _) (.int .i64 k)) (b := w.heap.size) (i := 1) (Nat.le_refl _) (.int .i64 d)
      exact ⟨k, d, rfl, by omega, by omega, by omega, by omega, G2.1, G2.2.1⟩
    · have h0' : (r == 0) = false := by simpa using h0
      have h1' : (r == 1) = false := by simpa using h1
      clear h0 h1
      obtain ⟨x0, x1⟩ := lies_pair X
      obtain ⟨z0, z1⟩ := lies_pair L
      have zf0 := lies_frozen L 0
      have zf1 := lies_frozen L 1
      go_wp2
      refine bodyPost_ret (v := .agg (P2 n d)) (by simp [results, Tryd.results44, go_sem, z0, z1]) rfl ?_
      have G2 := gg_set (gg_set G (b := w.heap.size) (i := 0) (Nat.le_refl _) (.int .i64 n)) (b := w.heap.size) (i := 1) (Nat.le_refl _) (.int .i64 d)
      exact ⟨n, d, rfl, by omega, by omega, by omega, by omega, G2.1, G2.2.1⟩
end Go.Proofs.YtghhjeebcpcepaaDoor
namespace Go.Proofs.YtghhjeebcpcepaaDoor
open Go.RowKit
set_option linter.unusedVariables false
/-- a slice of integers that came in, as the shells have it -/
def IsRowOf (k : IntKind) (w : World) (a : Option Addr) (len cap : Nat) (zs : List Int) : Prop :=
  (a = none ∧ len = 0 ∧ cap = 0 ∧ zs = []) ∨
  ∃ x, a = some x ∧ len ≤ cap ∧ cap ≤ maxLen ∧ zs.length = cap ∧ (∀ i, i < zs.length → w.cell? (x.add i) = some (.int k (zs.getD i 0))) ∧ ∀ n ∈ zs, (Lit.int k n).wf = true
theorem u8_bd {q : Int} (h : (Lit.int .u8 q).wf = true) : 0 ≤ q ∧ q ≤ 255 := by
  simp [Lit.wf, IntKind.min, IntKind.max, IntKind.signed, IntKind.bits] at h
  exact ⟨h.1, by omega⟩
theorem codeIn_of {w : World} {a : Option Addr} {len cap : Nat} {zs : List Int} (h : IsRowOf .u8 w a len cap zs) : CodeIn w a len ∧ len ≤ 9223372036854775807 := by
  rcases h with ⟨_, h, _, _⟩ | ⟨x, rfl, h1, h2, h3, h4, h5⟩
  · exact ⟨.inl h, by omega⟩
  · refine ⟨?_, by unfold maxLen at h2; omega⟩
    by_cases h0 : len = 0
    · exact .inl h0
    · obtain ⟨b, off, rfl, hc⟩ := ints_at h4 (by omega)
      refine .inr ⟨b, off, rfl, World.block_lt_of_cell? w _ (hc 0 (by omega)), fun i hi => ⟨_, hc i (by omega), ?_⟩⟩
      have hm : zs.getD i 0 ∈ zs := by
        have hlt : i < zs.length := by omega
        rw [show zs.getD i 0 = zs[i] by simp [List.getD, hlt]]; exact List.getElem_mem _
      exact u8_bd (h5 _ hm)
theorem gcd_dvd_tmod (a b : Int) (h : Int.gcd a b ≠ 0) : a.tmod (Int.gcd a b) = 0 ∧ b.tmod (Int.gcd a b) = 0 :=
  ⟨Int.tmod_eq_zero_of_dvd (Int.gcd_dvd_left ..), Int.tmod_eq_zero_of_dvd (Int.gcd_dvd_right ..)⟩
end Go.Proofs.YtghhjeebcpcepaaDoor
namespace Go.Proofs.YtghhjeebcpcepaaDoor
open Go.RowKit
set_option linter.unusedVariables false
/-- a text with at most two bytes more -/
def DamPost (n : Nat) (o : Option Addr) (len cap p : Nat) (w : World) (e : Ending) (w' : World) : Prop :=
  ∃ t : ByteArray, e = .returned (.string t) ∧ t.size ≤ n + 2 ∧ Src w' o len cap p ∧ w.grownBy w' (some p)
theorem lit8 (w : World) (T : TypeId) (r : Nat) (h : r < 8) : ∃ c : ByteArray, c.size = 1 ∧
    (w.alloc (.cells #[.string ⟨#[48]⟩, .string ⟨#[35]⟩, .string ⟨#[46]⟩, .string ⟨#[47]⟩, .string ⟨#[32]⟩, .string ⟨#[97]⟩, .string ⟨#[45]⟩, .string ⟨#[10]⟩] T)).cell? ⟨w.heap.size, r, none⟩ = some (.string c) := by
  rw [World.cell?_alloc_new]
  match r, h with
  | 0, _ => exact ⟨⟨#[48]⟩, rfl, rfl⟩
  | 1, _ => exact ⟨⟨#[35]⟩, rfl, rfl⟩
  | 2, _ => exact ⟨⟨#[46]⟩, rfl, rfl⟩
  | 3, _ => exact ⟨⟨#[47]⟩, rfl, rfl⟩
  | 4, _ => exact ⟨⟨#[32]⟩, rfl, rfl⟩
  | 5, _ => exact ⟨⟨#[97]⟩, rfl, rfl⟩
  | 6, _ => exact ⟨⟨#[45]⟩, rfl, rfl⟩
  | 7, _ => exact ⟨⟨#[10]⟩, rfl, rfl⟩
def litT : Array Value := #[.string ⟨#[48]⟩, .string ⟨#[35]⟩, .string ⟨#[46]⟩, .string ⟨#[47]⟩, .string ⟨#[32]⟩, .string ⟨#[97]⟩, .string ⟨#[45]⟩, .string ⟨#[10]⟩]
theorem dam_a {w w2 w3 : World} {o : Option Addr} {len cap p : Nat} {q : Int} {T : TypeId} (S2 : Src w2 o len cap p) (G2 : w.grownBy w2 (some p)) (q0 : 0 ≤ q) (q1 : q < 8 ∨ q = 0) (hs : Src w3 o len cap p)
    (hg : ((w2.drewN 1).alloc (.cells #[.string ⟨#[48]⟩, .string ⟨#[35]⟩, .string ⟨#[46]⟩, .string ⟨#[47]⟩, .string ⟨#[32]⟩, .string ⟨#[97]⟩, .string ⟨#[45]⟩, .string ⟨#[10]⟩] T)).grownBy w3 (some p)) :
    q < 8 ∧ ∃ c : ByteArray, c.size = 1 ∧ w3.cell? ⟨w2.heap.size, q.toNat, none⟩ = some (.string c) ∧ Hid (Src w3 o len cap p ∧ w.grownBy w3 (some p)) := by
  have q2 : q < 8 := by omega
  obtain ⟨c, hc1, hc⟩ := lit8 (w2.drewN 1) T q.toNat (by omega)
  refine ⟨q2, c, hc1, ?_, ⟨hs, grownBy_tr G2 (grownBy_tr (b := w2.drewN 1) ⟨rfl, rfl, rfl, Nat.le_refl _, fun _ _ _ => rfl⟩ (grownBy_tr (World.grownBy_alloc _ _ _) hg))⟩⟩
  have h := World.grownBy.cell_far hg ⟨w2.heap.size, q.toNat, none⟩ (World.block_lt_of_cell? _ _ hc) (by have := src_lt S2; simp; omega)
  rw [h]; exact hc
theorem dam_b {w w2 w3 : World} {o : Option Addr} {len cap p : Nat} {q : Int} (G2 : w.grownBy w2 (some p)) (q0 : 0 ≤ q) (q1 : q < 8 ∨ q = 0) (hs : Src w3 o len cap p)
    (hg : (w2.drewN 1).grownBy w3 (some p)) :
    q < 8 ∧ ∃ c : ByteArray, c.size = 1 ∧ (w3.alloc (.cells #[.string ⟨#[48]⟩, .string ⟨#[35]⟩, .string ⟨#[46]⟩, .string ⟨#[47]⟩, .string ⟨#[32]⟩, .string ⟨#[97]⟩, .string ⟨#[45]⟩, .string ⟨#[10]⟩] 9)).cell? ⟨w3.heap.size, q.toNat, none⟩ = some (.string c) ∧ Hid (Src w3 o len cap p ∧ w.grownBy w3 (some p)) := by
  have q2 : q < 8 := by omega
  obtain ⟨c, hc1, hc⟩ := lit8 w3 9 q.toNat (by omega)
  exact ⟨q2, c, hc1, hc, ⟨hs, grownBy_tr G2 (grownBy_tr (b := w2.drewN 1) ⟨rfl, rfl, rfl, Nat.le_refl _, fun _ _ _ => rfl⟩ hg)⟩⟩
theorem cut_len (t : ByteArray) (i j : Nat) : (t.extract i j).size ≤ t.size := by rw [ByteArray.size_extract]; omega
theorem app_len (a b : ByteArray) : (a ++ b).size = a.size + b.size := ByteArray.size_append
theorem dam_size {t c : ByteArray} {k : Int} (hk : k.toNat ≤ t.size) (_ : (t.extract 0 k.toNat).size ≤ t.size) (_ : (t.extract k.toNat t.size).size ≤ t.size) (hc : c.size = 1) :
    (t.extract 0 k.toNat ++ c ++ t.extract k.toNat t.size).size ≤ t.size + 2 := by
  rw [app_len, app_len, ByteArray.size_extract, ByteArray.size_extract]; omega
set_option maxHeartbeats 1600000 in
theorem damage_any (t : ByteArray) (o : Option Addr) (len cap p : Nat) (w : World) (ht : t.size ≤ 10000) (hs : Src w o len cap p) :
    Calls Tryd.prog 39 #[.pointer (some ⟨p, 0, none⟩), .string t] w (DamPost t.size o len cap p w) := by
  have HS := Lib.hid hs
  clear hs
  go_enter Tryd.func39, Tryd.ntmps39
  go_wp2_with fail
  refine (next_any _ _ _ _ _ _ (by omega) HS.out).mono ?_
  rintro e w1 ⟨k, rfl, k0, k1, hs1, hg1, hz1⟩
  have H1 := Lib.hid (And.intro hs1 hg1)
  have k2 : k ≤ (t.size : Int) := by omega
  have cl := cut_len t 0 k.toNat
  have cr := cut_len t k.toNat t.size
  clear hs1 hg1 hz1 k1
  go_wp2_with fail
  refine (next_any _ _ _ _ _ _ (by omega) H1.out.1).mono ?_
  rintro e w2 ⟨r, rfl, r0, r1, hs2, hg2, hz2⟩
  have H2 := Lib.hid (And.intro hs2 (grownBy_tr H1.out.2 hg2))
  have r2 : r < 8 := by omega
  clear hs2 hg2 hz2 r1
  by_cases e0 : r = 0
  · subst e0
    go_wp2
    go_ret
    exact ⟨_, rfl, by omega, H2.out.1, H2.out.2⟩
  · have e0' : (r == 0) = false := by simpa using e0
    by_cases e1 : r = 1
    · subst e1
      clear e0 e0'
      go_wp2_with fail
      go_region_with (first
        | (go_at_call 32; refine (next_any 8 o len cap p (World.alloc _ _) (by omega) (src_alloc (src_drewN H2.out.1 1) _)).mono ?_; rintro e w3 ⟨q, rfl, q0, q1, hs3, hg3, hz3⟩; obtain ⟨q2, c, hc1, hc, H3⟩ := dam_a H2.out.1 H2.out.2 q0 q1 hs3 hg3; have al := app_len (t.extract 0 k.toNat) c; clear hs3 hg3 hz3 q1)
        | (go_at_call 32; refine (next_any 8 o len cap p (World.drew _) (by omega) (src_drewN H2.out.1 1)).mono ?_; rintro e w3 ⟨q, rfl, q0, q1, hs3, hg3, hz3⟩; obtain ⟨q2, c, hc1, hc, H3⟩ := dam_b H2.out.2 q0 q1 hs3 hg3; have al := app_len (t.extract 0 k.toNat) c; clear hs3 hg3 hz3 q1))
      all_goals go_wp2
      all_goals go_ret
      · exact ⟨_, rfl, dam_size (by omega) cl cr hc1, H3.out⟩
      · exact ⟨_, rfl, dam_size (by omega) cl cr hc1, src_alloc H3.out.1 _, grownBy_tr H3.out.2 (World.grownBy_alloc _ _ _)⟩
    · have e1' : (r == 1) = false := by simpa using e1
      by_cases e2 : r = 2
      · subst e2
        clear e0 e0' e1 e1'
        by_cases hk : k < (t.size : Int)
        · have cr2 := cut_len t (k + 1).toNat t.size
          have hw : IntKind.i64.wrap (k + 1) = k + 1 := IntWalk.i64_in _ (by omega)
          have hk1 : (0 : Int) ≤ k + 1 := by omega
          have hk2 : k + 1 ≤ (t.size : Int) := by omega
          go_wp2
          go_quiet (fail)
          go_wp2
          go_ret
          exact ⟨_, rfl, by rw [app_len, ByteArray.size_extract, ByteArray.size_extract]; omega, src_drewN H2.out.1 _, grownBy_tr H2.out.2 ⟨rfl, rfl, rfl, Nat.le_refl _, fun _ _ _ => rfl⟩⟩
        · go_wp2
          go_ret
          exact ⟨_, rfl, by omega, H2.out.1, H2.out.2⟩
      · have e2' : (r == 2) = false := by simpa using e2
        clear e0 e1 e2
        go_wp2
        go_ret
        exact ⟨_, rfl, by omega, H2.out.1, H2.out.2⟩
end Go.Proofs.YtghhjeebcpcepaaDoor
namespace Go.Proofs.YtghhjeebcpcepaaDoor
open Go.RowKit
set_option linter.unusedVariables false
set_option linter.unusedSimpArgs false
def OneRat (w : World) (e : Ending) (w' : World) : Prop := ∃ n d : Int, e = .returned (.agg (P2 n d)) ∧ Below w.heap.size w w'
theorem drawRatText_any (o : Option Addr) (len cap : Nat) (w : World) (hl : len ≤ 4096) (hc : CodeIn w o len) :
    Calls Tryd.prog 17 #[.slice o len cap] w (OneRat w) := by
  have HC := Lib.hid (codeIn_below (B := w.heap.size) hc (show Below w.heap.size w (w.alloc (.cells (P2 0 0) 33)) from below_a1 w _))
  have HC0 := Lib.hid hc
  clear hc
  go_enter Tryd.func17, Tryd.ntmps17
  go_wp2_with fail
  refine (from_any _ _ _ _ hl HC.out).mono ?_
  rintro e w1 ⟨q, rfl, hq, hs1, hb1⟩
  have K := k1_next (k1_new w (P2 0 0) 33) hb1
  have G : DD o len cap q 1 w w1 := ⟨hs1, K.1, by simpa using hq⟩
  clear hs1 hb1 hq
  go_wp2_with fail
  refine (ratDraw_any o len cap q _ G.1).mono ?_
  rintro e w2 ⟨n, d, rfl, _, _, _, _, hs2, hg2⟩
  have K2 := k1_grown K hg2 G.2.2
  obtain ⟨c0, c1⟩ := lies_pair K2.2
  have cf0 := lies_frozen K2.2 0
  have cf1 := lies_frozen K2.2 1
  clear hs2 hg2 K G
  go_wp2
  refine bodyPost_ret (v := .agg (P2 n d)) (by simp [results, Tryd.results17, go_sem, c0, c1]) rfl ?_
  exact ⟨_, _, rfl, below_set2 K2.1 (by omega)⟩
theorem ratL_size {n d : Int} (h : isRatB n d = true) : (bsOf (ratL n d)).size ≤ 60 := by
  obtain ⟨s1, s2⟩ := rat_sizes h
  rw [bs_size] at *
  unfold ratL
  split
  · omega
  · rw [List.length_append, List.length_cons]; omega
/-- a text, drawn -/
def TextPost (w : World) (e : Ending) (w' : World) : Prop := ∃ t : ByteArray, e = .returned (.string t) ∧ t.size ≤ 3000 ∧ Below w.heap.size w w'
set_option maxHeartbeats 1600000 in
theorem drawRRat_any (o : Option Addr) (len cap : Nat) (w : World) (hl : len ≤ 4096) (hc : CodeIn w o len) :
    Calls Tryd.prog 20 #[.slice o len cap] w (TextPost w) := by
  have HC := Lib.hid hc
  clear hc
  go_enter Tryd.func20, Tryd.ntmps20
  go_wp2_with fail
  refine (from_any _ _ _ _ hl HC.out).mono ?_
  rintro e w1 ⟨p, rfl, hp, hs1, hb1⟩
  have H2 := Lib.hid (And.intro hs1 hb1)
  have HP := Lib.hid hp
  clear hs1 hb1 hp
  go_wp2_with fail
  refine (ratValidDraw_any o len cap p _ H2.out.1).mono ?_
  rintro e w3 ⟨n, d, rfl, _, _, _, _, hk, hs3, hg3⟩
  have HK := Lib.hid hk
  have H3 := Lib.hid (And.intro hs3 (below_draw H2.out.2 hg3 HP.out H2.out.2.size))
  clear hs3 hg3 hk
  have hsz := ratL_size HK.out
  have HX := Lib.hid fun w => specRText_val n d w HK.out
  obtain ⟨tx, htx⟩ : ∃ tx, bsOf (ratL n d) = tx := ⟨_, rfl⟩
  rw [htx] at HX hsz
  clear htx
  go_wp2_with fail
  refine (HX.out _).mono ?_
  rintro e w4 ⟨rfl, hb4⟩
  have H4 := Lib.hid (And.intro (src_below H3.out.1 hb4 (src_lt H3.out.1)) (H3.out.2.trans (hb4.mono H3.out.2.size)))
  clear hb4
  go_wp2_with fail
  refine (next_any _ _ _ _ _ _ (by omega) H4.out.1).mono ?_
  rintro e w5 ⟨q, rfl, q0, q1, hs5, hg5, hz5⟩
  have H5 := Lib.hid (And.intro hs5 (below_draw H4.out.2 hg5 HP.out H4.out.2.size))
  clear hs5 hg5 hz5 q1
  by_cases hq : q = 0
  · subst hq
    go_wp2_with fail
    refine (damage_any _ _ _ _ _ _ (by omega) H5.out.1).mono ?_
    rintro e w6 ⟨t, rfl, ht, hs6, hg6⟩
    have H6 := Lib.hid (And.intro ht (below_draw H5.out.2 hg6 HP.out H5.out.2.size))
    clear hs6 hg6 ht
    go_wp2
    go_ret
    exact ⟨_, rfl, by have := H6.out.1; omega, H6.out.2⟩
  · have hq' : (q == 0) = false := by simpa using hq
    clear hq
    go_wp2
    go_ret
    exact ⟨_, rfl, by omega, H5.out.2⟩
end Go.Proofs.YtghhjeebcpcepaaDoor
namespace Go.Proofs.YtghhjeebcpcepaaDoor
open Go.RowKit
set_option linter.unusedVariables false
set_option linter.unusedSimpArgs false
/-- both texts: of a number that is valid, or not -/
theorem rt_cases (n d : Int) : (rtC n d = 0 ∧ IsRText (bsOf (rtL n d)) (n, d) ∧ (bsOf (rtL n d)).size ≤ 1100) ∨ rtC n d = 1 := by
  cases hx : isRatB n d
  · right; simp [rtC, hx]
  · left
    refine ⟨by simp [rtC, hx], ⟨hx, by simp [rtL, hx]⟩, ?_⟩
    rw [show rtL n d = ratL n d by simp [rtL, hx]]
    have := ratL_size hx
    omega
theorem rt_text {s : ByteArray} {n d : Int} (h : IsRText s (n, d)) : bsOf (rtL n d) = s ∧ rtC n d = 0 := by
  have hx : isRatB n d = true := h.1
  refine ⟨?_, by simp [rtC, hx]⟩
  rw [show rtL n d = ratL n d by simp [rtL, hx]]
  exact h.2
theorem rread_text {tx : ByteArray} {n d : Int} (h : IsRText tx (n, d)) (hs : tx.size ≤ 1100) (w : World) (he : Env w) (ht : Tab w) :
    Calls Tryd.prog 21 #[.string tx] w fun e w' => e = .returned (.tuple #[.agg (P2 n d), .int .i64 0]) ∧ Below w.heap.size w w' := by
  refine (implRRead_any tx w (by omega) he ht).mono ?_
  rintro e w' ⟨q, c, rfl, hb, hr⟩
  obtain ⟨rfl, rfl⟩ := rread_agree hr (.inl ⟨rfl, h⟩)
  exact ⟨rfl, hb⟩
set_option maxRecDepth 100000 in
set_option maxHeartbeats 4000000 in
theorem rtexts_core (o : Option Addr) (len cap : Nat) (w : World) (hl : len ≤ 4096) (hc : CodeIn w o len) (he : Env w) (ht : Tab w) :
    Calls Tryd.prog 4 #[.slice o len cap] w fun e w' => e = .returned (.bool true) ∧ Below w.heap.size w w' := by
  have HC := Lib.hid hc
  have HE := Lib.hid he
  have HT := Lib.hid ht
  have HB : Below w.heap.size w w := Below.refl _ _
  clear hc he ht
  go_enter Tryd.func4, Tryd.ntmps4
  go_upto_region 3 with (go_at_call 9; refine (big_no _ _ _ _ hl).mono ?_; rintro e w' ⟨rfl, rfl⟩)
  go_upto_region 4 with (first | (go_at_call 17; refine (drawRatText_any _ _ _ _ hl HC.out).mono ?_; rintro e w1 ⟨a1, a2, rfl, hb⟩; replace HB := HB.trans (hb.mono HB.size); replace HC := Lib.hid (codeIn_below (B := 0) HC.out hb)))
  clear hb
  have Lx := lies_new w1 (P2 a1 a2) 33
  replace HB := HB.trans ((below_a1 w1 (.cells (P2 a1 a2) 33)).mono HB.size)
  replace HC := Lib.hid (codeIn_below (B := 0) HC.out (below_a1 w1 (.cells (P2 a1 a2) 33)))
  generalize w1.alloc (.cells (P2 a1 a2) 33) = V1 at Lx HB HC ⊢
  obtain ⟨qx, hqx⟩ : ∃ b, w1.heap.size = b := ⟨_, rfl⟩
  rw [hqx] at Lx ⊢
  clear hqx
  have A1 := fun w h => implRText_any a1 a2 w h
  have A2 := fun w => specRText_any a1 a2 w
  have hpt := rt_cases a1 a2
  generalize bsOf (rtL a1 a2) = tx at A1 A2 hpt
  generalize rtC a1 a2 = tc at A1 A2 hpt
  replace A1 := Lib.hid A1
  replace A2 := Lib.hid A2
  replace hpt := Lib.hid hpt
  have T := tab_below HT.out HB (Nat.le_refl _)
  obtain ⟨x0, x1⟩ := lies_pair Lx
  go_upto_region 5 with (first | (go_at_call 18; refine (A1.out _ T).mono ?_; rintro e w2 ⟨rfl, hb⟩; replace Lx := lies_next Lx hb; replace HB := HB.trans (hb.mono HB.size); replace HC := Lib.hid (codeIn_below (B := 0) HC.out hb)))
  clear x0 x1
  clear hb T
  obtain ⟨x0, x1⟩ := lies_pair Lx
  go_upto_region 6 with (first | (go_at_call 19; refine (A2.out _).mono ?_; rintro e w3 ⟨rfl, hb⟩; replace Lx := lies_next Lx hb; replace HB := HB.trans (hb.mono HB.size); replace HC := Lib.hid (codeIn_below (B := 0) HC.out hb)))
  clear x0 x1
  clear hb A1 A2
  go_upto_region 7 with (first | (go_at_call 20; refine (drawRRat_any _ _ _ _ hl HC.out).mono ?_; rintro e w4 ⟨s, rfl, hsz, hb⟩; replace Lx := lies_next Lx hb; replace HB := HB.trans (hb.mono HB.size)))
  clear hb HC
  have F1 := Lib.hid fun w he ht => implRRead_any s w (by omega) he ht
  have F2 := Lib.hid fun w => specRRead_any s w (by omega)
  have E := env_below HE.out HB (Nat.le_refl _)
  have T := tab_below HT.out HB (Nat.le_refl _)
  clear hsz
  go_upto_region 8 with (first | (go_at_call 21; refine (F1.out _ E T).mono ?_; rintro e w5 ⟨⟨q1, q2⟩, cr, rfl, hb, hr⟩; replace Lx := lies_next Lx hb; replace HB := HB.trans (hb.mono HB.size)))
  clear hb E T F1
  replace Lx := lies_alloc Lx (.cells (P2 q1 q2) 33)
  have Ly := lies_new w5 (P2 q1 q2) 33
  replace HB := HB.trans ((below_a1 w5 (.cells (P2 q1 q2) 33)).mono HB.size)
  generalize w5.alloc (.cells (P2 q1 q2) 33) = V5 at Lx Ly HB ⊢
  obtain ⟨qy, hqy⟩ : ∃ b, w5.heap.size = b := ⟨_, rfl⟩
  rw [hqy] at Ly ⊢
  clear hqy
  have HR := Lib.hid hr
  clear hr
  go_upto_region 9 with (first | (go_at_call 22; refine (F2.out _).mono ?_; rintro e w6 ⟨q', cr', rfl, hb, hr'⟩; obtain ⟨rfl, rfl⟩ := rread_agree hr' HR.out; replace Lx := lies_next Lx hb; replace Ly := lies_next Ly hb; replace HB := HB.trans (hb.mono HB.size)))
  clear hb F2 hr'
  replace Lx := lies_alloc Lx (.cells (P2 q1 q2) 33)
  replace Ly := lies_alloc Ly (.cells (P2 q1 q2) 33)
  have Lr := lies_new w6 (P2 q1 q2) 33
  replace HB := HB.trans ((below_a1 w6 (.cells (P2 q1 q2) 33)).mono HB.size)
  generalize w6.alloc (.cells (P2 q1 q2) 33) = V6 at Lx Ly Lr HB ⊢
  obtain ⟨qr, hqr⟩ : ∃ b, w6.heap.size = b := ⟨_, rfl⟩
  rw [hqr] at Lr ⊢
  clear hqr
  obtain ⟨x0, x1⟩ := lies_pair Lx
  obtain ⟨y0, y1⟩ := lies_pair Ly
  obtain ⟨r0, r1⟩ := lies_pair Lr
  have T := tab_below HT.out HB (Nat.le_refl _)
  have E := env_below HE.out HB (Nat.le_refl _)
  rcases HR.out with ⟨rfl, hi⟩ | ⟨rfl, _, _⟩
  · obtain ⟨e1, e2⟩ := rt_text hi
    have A3 := fun w h => implRText_any q1 q2 w h
    rw [e1, e2] at A3
    replace A3 := Lib.hid A3
    clear hi e1 e2 HR
    rcases hpt.out with ⟨rfl, hx, hxs⟩ | rfl
    · have B1 := Lib.hid fun w he ht => rread_text hx hxs w he ht
      clear hx hxs hpt
      go_wp2_with (first
        | (go_at_call 18; refine (A3.out _ T).mono ?_; rintro e w7 ⟨rfl, hb⟩; replace Lx := lies_next Lx hb; replace HB := HB.trans (hb.mono HB.size); have T := tab_below HT.out HB (Nat.le_refl _); have E := env_below HE.out HB (Nat.le_refl _); clear x0 x1 y0 y1 r0 r1; obtain ⟨x0, x1⟩ := lies_pair Lx)
        | (go_at_call 21; refine (B1.out _ E T).mono ?_; rintro e w8 ⟨rfl, hb⟩; replace Lx := lies_next Lx hb; replace HB := HB.trans (hb.mono HB.size); have L9 := lies_alloc Lx (.cells (P2 a1 a2) 33); have Lb := lies_new w8 (P2 a1 a2) 33; clear x0 x1; obtain ⟨x0, x1⟩ := lies_pair L9; obtain ⟨b0, b1⟩ := lies_pair Lb; replace HB := HB.trans ((below_a1 w8 (.cells (P2 a1 a2) 33)).mono HB.size)))
      go_ret
      exact ⟨rfl, HB⟩
    · clear hpt
      go_wp2_with (first
        | (go_at_call 18; refine (A3.out _ T).mono ?_; rintro e w7 ⟨rfl, hb⟩; replace HB := HB.trans (hb.mono HB.size)))
      go_ret
      exact ⟨rfl, HB⟩
  · clear HR
    rcases hpt.out with ⟨rfl, hx, hxs⟩ | rfl
    · have B1 := Lib.hid fun w he ht => rread_text hx hxs w he ht
      clear hx hxs hpt
      go_wp2_with (first
        | (go_at_call 21; refine (B1.out _ E T).mono ?_; rintro e w8 ⟨rfl, hb⟩; replace Lx := lies_next Lx hb; replace HB := HB.trans (hb.mono HB.size); have L9 := lies_alloc Lx (.cells (P2 a1 a2) 33); have Lb := lies_new w8 (P2 a1 a2) 33; clear x0 x1; obtain ⟨x0, x1⟩ := lies_pair L9; obtain ⟨b0, b1⟩ := lies_pair Lb; replace HB := HB.trans ((below_a1 w8 (.cells (P2 a1 a2) 33)).mono HB.size)))
      go_ret
      exact ⟨rfl, HB⟩
    · clear hpt
      go_wp2_with fail
      go_ret
      exact ⟨rfl, HB⟩
theorem rtexts_walk (a : Option Addr) (len cap : Nat) (zs : List Int) (w : World) (h : IsRowOf .u8 w a len cap zs) (he : Env w) (ht : Tab w) :
    Calls Tryd.prog 4 #[.slice a len cap] w fun e w' => e = .returned (.bool true) ∧ Below w.heap.size w w' := by
  obtain ⟨hc, hm⟩ := codeIn_of h
  by_cases hl : len ≤ 4096
  · exact rtexts_core a len cap w hl hc he ht
  · clear hc h
    go_enter Tryd.func4, Tryd.ntmps4
    go_wp2_with (go_at_call 9; refine (big_yes _ _ _ _ (by omega) (by omega)).mono ?_; rintro e w' ⟨rfl, rfl⟩)
    go_ret
    exact ⟨rfl, Below.refl _ _⟩
end Go.Proofs.YtghhjeebcpcepaaDoor
namespace Go.Proofs.YtghhjeebcpcepaaDoor.fnRationalTexts
open Go.ChangeShapes Go.WideShapes Go.ChangeAt Go.RowKit
open Go.ChangeMaps (open_string shut_string)
set_option linter.unusedVariables false
theorem laidOut : laidOutB Tryd.prog = true := by kernel_rfl
theorem own : ownKnob Tryd.prog.godebug = none := by kernel_rfl
set_option maxRecDepth 100000 in
theorem contract (H : Type) (enc : TypeId × Value → H) (W : World) (base : Nat) (args : Array Value) (ds gs : List (DataW H)) (before : List MemPlace)
    (hval : ∀ (j : Nat) t v, Tryd.f4.params[j]? = some t → args[j]? = some v → Value.okWide Tryd.prog W .any base t v)
    (hW : DataW.Whole enc Tryd.prog Tryd.f4.params.toList Rows.fnRationalTextsSpec.vars false W args.toList ds gs before) (hL : laidMetH Tryd.prog Rows.fnRationalTextsRow.laid W) (hS : W.ShapedOpen Tryd.prog) :
    Calls Tryd.prog 4 args W fun e W' => ∃ v, e = .returned v ∧ Rows.fnRationalTextsSpec.post enc Tryd.prog Tryd.f4 false true false false W args v W' := by
  have hW' := hW
  obtain ⟨p, q, hA0, hV, rfl, hfz, hnd⟩ := hW
  have hA : DataW.TrodAll enc Tryd.prog W 0 (fun _ => true) true Tryd.f4.params.toList args.toList ds p := hA0
  rw [Tryd.params4] at hA hval
  obtain ⟨v0, vs0, d0, ds0, p0, q0, hargs, rfl, rfl, h0, r0⟩ := trodAll_cons hA
  obtain ⟨rfl, rfl, rfl⟩ := trodAll_nil r0
  obtain rfl : args = #[v0] := by cases args; simp_all
  obtain ⟨rfl, rfl⟩ := trodVars_none hV
  obtain ⟨a0, len0, cap0, rfl⟩ := okWide_slice Tryd.underlying22 (hval 0 22 v0 rfl rfl)
  have k0 := h0
  have lt0 : ∀ x ∈ p0, x.block < W.heap.size := by obtain ⟨m, hm⟩ := k0; exact DataW.trod_lt m _ _ _ hm
  obtain ⟨z0, w0⟩ : ∃ zs, IsRowOf .u8 W a0 len0 cap0 zs := by
    obtain ⟨fuel, hf⟩ := h0
    rcases open_ints Tryd.underlying22 Tryd.underlying5 (by kernel_rfl) hf with ⟨hcs, _⟩ | ⟨x, l, c, zs, hcs, _, hl, hm, hz, _, hcell, hwz⟩
    · simp [Value.cells] at hcs
      obtain ⟨rfl, rfl, rfl⟩ := hcs
      exact ⟨[], .inl ⟨rfl, rfl, rfl, rfl⟩⟩
    · simp [Value.cells] at hcs
      obtain ⟨rfl, rfl, rfl⟩ := hcs
      exact ⟨zs, .inr ⟨_, rfl, hl, hm, by simpa using hz, hcell, hwz⟩⟩
  clear hA0
  refine (rtexts_walk a0 len0 cap0 z0 W w0 (env_of_laid hL hS) (tab_of_laid hL)).mono fun e W' ⟨he, bel⟩ => ?_
  subst he
  exact ⟨_, rfl, _, _, _, [], _, [], hW', trodAll_mk1 (shut_bool Tryd.underlying4 _), (trodAll_cons_mk (Below.trod laidOut (by kernel_rfl) (of_decide_eq_true (by kernel_rfl)) k0 bel lt0) trodAll_mk0), rfl, bel.frame _, fun h => by cases h⟩
theorem laid_met (os : Os) : laidMet Tryd.prog Rows.fnRationalTextsRow.laid ((laidWorld os).forCall (fun _ _ => 0) ⟨#[], #[.slice none 0 0], []⟩).memory :=
  laidMet_of_run' 8 (by kernel_rfl) (by kernel_rfl)
theorem reads (os : Os) {H : Type} (enc : TypeId × Value → H) : ∃ places, DataW.whole enc Tryd.prog ((laidWorld os).forCall (fun _ _ => 0) ⟨#[], #[.slice none 0 0], []⟩).memory Tryd.f4.params.toList Rows.fnRationalTextsSpec.vars false #[Value.slice none 0 0].toList 8 = some ([.nil], [], places) :=
  ⟨[], by kernel_rfl⟩
set_option maxRecDepth 100000 in
theorem lifted (os : Os) (started : os.Started) (H : Type) (enc : TypeId × Value → H) (F : Stop.Interp) :
    ReturnsInHanded {} Tryd.checked os 4 .any ((OpenSpec.ofChange Rows.fnRationalTextsSpec).preRow enc Tryd.prog Tryd.f4 Rows.fnRationalTextsRow.domain false Rows.fnRationalTextsRow.laid) (((OpenSpec.ofChange Rows.fnRationalTextsSpec).at F).post enc Tryd.prog Tryd.f4 false true false false) := by
  obtain ⟨places, hx⟩ := reads os enc
  refine returnsInHanded_of_row (C := Tryd.checked) (s := OpenSpec.ofChange Rows.fnRationalTextsSpec) own started (by kernel_rfl) Tryd.func4
    (witness_row_at (enc := enc) (C := Tryd.checked) false (laidWorld os) #[.slice none 0 0] rfl (by kernel_rfl) (by kernel_rfl) (by kernel_rfl)
      (OpenSpec.preRow_of_cond 8 hx (by kernel_rfl) (fun k hk => by cases hk) (by kernel_rfl) (laid_met os))) ?_
  intro W base args ds gs before hval hW _ _ _ hL hS _
  exact contract H enc W base args ds gs before hval hW hL hS
theorem said : Rows.FnRationalTextsSaid :=
  OpenClaim.holds_of_cond 4 Tryd.f4 rfl rfl rfl rfl rfl rfl rfl ⟨rfl, rfl, rfl, rfl, rfl⟩ rfl rfl rfl rfl rfl (by kernel_rfl) Tryd.func4 (by kernel_rfl)
    (of_decide_eq_true (by kernel_rfl)) (by unfold Func.isWrapper; first | (rw [if_pos (by decide +kernel)]; kernel_rfl) | (rw [if_neg (by decide +kernel)]; exact ⟨rfl, rfl⟩))
    (fun os started H enc _ F => by rw [OpenClaim.pre_eq_preRow]; exact lifted os started H enc F)
theorem plain (f : FuncId) (fn : Func) (hf : Tryd.pinned.checked.prog.funcNamed "loop.example/g01000/laws.FnRationalTexts" = some f) (hfn : Tryd.pinned.checked.prog.funcs[f]? = some fn) :
    true = Tryd.pinned.checked.prog.looks [] ∧ ∀ (j : Nat) t, fn.params[j]? = some t → Tryd.pinned.checked.prog.wantsStandIn t = false := by
  obtain rfl : f = 4 := Option.some.inj ((show Tryd.prog.funcNamed "loop.example/g01000/laws.FnRationalTexts" = some 4 by kernel_rfl).symm.trans hf) |>.symm
  obtain rfl : fn = Tryd.f4 := (Option.some.inj (Tryd.func4.symm.trans hfn)).symm
  refine ⟨by kernel_rfl, fun j t ht => ?_⟩
  rw [Tryd.params4] at ht
  obtain rfl : t = 22 := by simpa using Array.mem_of_getElem? ht
  exact (show Tryd.prog.wantsStandIn 22 = false by kernel_rfl)
/-- THE CARD -/
theorem card : Rows.FnRationalTextsCardSaid :=
  Claim7.holds_tied_plain_at .later [] _ _ _ _ said (fun _ h => by cases h) (by kernel_rfl) (fun _ h => by cases h) fnRationalTexts_row_tie rfl ⟨rfl, rfl⟩ (by kernel_rfl) rfl plain (by kernel_rfl)
#print axioms card
end Go.Proofs.YtghhjeebcpcepaaDoor.fnRationalTexts
