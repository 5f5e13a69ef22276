/- Contracts of the walk: spec.DivisorsOf answers the list of divisors in a row of its own memory, or the code. -/
import Derived.Test.YtbhhnnnghdmhgaaInts
import Derived.Test.YtbhhnnnghdmhgaaDivMath
import Derived.Test.YtbhhnnnghdmhgaaFact
namespace Go.Proofs.Ytbhhnnnghdmhgaa
open Go.RowKit
set_option linter.unusedVariables false
theorem Try.infoInt64 : (Try.prog.info? 2).map (fun i => (i.zero, i.size, i.bytes)) = some (some (.int .i64 0), 1, 8) := by kernel_rfl
theorem row_slice {w : World} {base : Nat} {T : TypeId} {sz : Nat} {v : Value} {n : Nat} {xs : List Value} (h : w.ownsRow base T sz v n xs) : ∃ o c, v = .slice o n c := by
  rcases row_shape h with ⟨h0, o, c, rfl⟩ | ⟨_, g, c, rfl, _⟩
  · exact ⟨o, c, by rw [h0]⟩
  · exact ⟨_, c, rfl⟩
def IntPost (l : List Int) (c : Int) (w : World) (e : Ending) (w' : World) : Prop :=
  ∃ v, e = .returned (.tuple #[v, .int .i64 c]) ∧ IntRow w.heap.size w' v l ∧ Below w.heap.size w w'
theorem intRow_nil (base : Nat) (w : World) : IntRow base w (.slice none 0 0) [] := World.ownsRow_nil _ _ _ _
theorem intRow_made (w : World) : IntRow w.heap.size (w.alloc (.cells #[] 2)) (.slice (some ⟨w.heap.size, 0, none⟩) 0 0) [] :=
  World.ownsRow_made w #[] 0 (Nat.le_refl _) (Nat.zero_le _) rfl
theorem intRow_snoc {base : Nat} {w' : World} {v' : Value} {acc : List Int} {a : Int} (h : w'.ownsRow base 2 1 v' (acc.length + 1) (acc.map (Value.int .i64) ++ [.int .i64 a])) : IntRow base w' v' (acc ++ [a]) := by
  unfold IntRow; rw [List.map_append, List.length_append]; exact h
theorem below_appendI {W wr w' : World} {v : Value} {o : Obj} {acc : List Int} (hb : Below W.heap.size W wr) (hW : IntRow W.heap.size wr v acc) (hg : (wr.alloc o).grownBy w' v.ownBlock) : Below W.heap.size W w' :=
  (hb.alloc hb.size o).grown hg (by simp; have := hb.size; omega) (fun k hk => (World.ownsRow.lt hW k hk).1)
theorem news_one (w : World) (a : Value) (T : TypeId) : ∀ j u, [a][j]? = some u → (w.alloc (.cells #[a] T)).cell? ((⟨w.heap.size, 0, none⟩ : Addr).add j) = some u := by
  intro j u h
  match j, h with
  | 0, h => simp at h; subst h; simp [Addr.add]
theorem one_one {k : IntKind} (a : Int) : ∀ u ∈ [Value.int k a], u.oneCell' = true := by
  intro u hu; simp at hu; subst hu; rfl
/-- what both DivisorsOf answer for N from 1 to 1000000 -/
def divL (N : Nat) : List Int := if 60 < (specL N N).length then [] else ints (specL N N)
def divC (N : Nat) : Int := if 60 < (specL N N).length then 3 else 0
theorem divL_length (N : Nat) : (divL N).length ≤ 60 := by
  unfold divL; split
  · simp
  · rw [ints_length]; omega
theorem ints_snoc (l : List Nat) (a : Nat) : ints (l ++ [a]) = ints l ++ [(a : Int)] := by simp [ints]
set_option maxHeartbeats 800000 in
theorem specDiv_val (N : Nat) (w : World) (h1 : 1 ≤ N) (h2 : N ≤ 1000000) :
    Calls Try.prog 25 #[.int .i64 (N : Int)] w (IntPost (divL N) (divC N) w) := by
  have e := inB_t (n := (N : Int)) (lo := 1) (hi := 1000000) (by omega) (by omega)
  obtain ⟨i0, hi, hz0, hz1, hz2⟩ := info_parts Try.infoInt64
  have HI := Lib.hid hi
  have HZ0 := Lib.hid hz0
  have HZ1 := Lib.hid hz1
  have HZ2 := Lib.hid hz2
  clear hi hz0 hz1 hz2
  go_enter Try.func25, Try.ntmps25
  go_wp2_with (go_at_call 46; refine (in_any _ _ _ _).mono ?_; rintro e w' ⟨rfl, rfl⟩)
  go_loopw [4, 5] (fun v d wr => ∃ (x k : Nat), d = .int .i64 x ∧ x = k + 1 ∧ k ≤ N ∧ IntRow w.heap.size wr v (ints (specL N k)) ∧ Below w.heap.size w wr) (fun _ d _ => N + 1 - (intOf d).toNat)
  case atStart => exact ⟨1, 0, rfl, rfl, Nat.zero_le _, intRow_made _, (Below.refl _ _).alloc (Nat.le_refl _) _⟩
  case round =>
    obtain ⟨x, k, rfl, hx, hk, hrow, hb⟩ := hrel
    have bx : 1 ≤ x := by omega
    have bx2 : x ≤ N + 1 := by omega
    have bl : (ints (specL N k)).length ≤ 1000000 := by rw [ints_length]; have := specL_length N k; omega
    have bs := hb.size
    have HX := Lib.hid hx
    have HW := Lib.hid hrow
    have HB := Lib.hid hb
    have hx0 : ((x : Int) == 0) = false := by simp; omega
    clear hx hrow hb e
    by_cases hle : x ≤ N
    · by_cases hm : N % x = 0
      · have hm' : (((N : Int) % (x : Int)) == 0) = true := by simp; exact_mod_cast hm
        have HS : Hid (ints (specL N (k + 1)) = ints (specL N k) ++ [(x : Int)]) := by
          show ints (specL N (k + 1)) = ints (specL N k) ++ [(x : Int)]
          rw [specL_yes (by rw [← HX.out]; exact hm), ints_snoc, HX.out]
        clear hm
        go_wp2_with (at_builtin; refine wpList_append_own _ rfl (.tmp 19) (.tmp 21) 34 rfl w.heap.size 2 i0 (.int .i64 0) 1 8 Try.underlying34 HI.out HZ0.out HZ1.out HZ2.out rfl (by decide) _ _ _ rfl (HW.out.alloc _) ⟨wr.heap.size, 0, none⟩ 1 1 [.int .i64 x] rfl rfl ?c1 ?c2 ?c3 ?c4 ?c5 ?_)
        case c1 => first | exact news_one _ _ _ | simp [Addr.add]
        case c2 => first | exact one_one _ | rfl
        case c3 => unfold maxLen; omega
        case c4 => omega
        case c5 => first | omega | (simp; omega)
        intro v' w1 hown hgrow _
        have HO := Lib.hid (intRow_snoc hown)
        have HG := Lib.hid (below_appendI HB.out HW.out hgrow)
        clear hown hgrow
        go_wp2
        go_roundw
        case rel => exact ⟨x + 1, k + 1, by go_num, by have := HX.out; omega, by have := HX.out; omega, by rw [HS.out]; exact HO.out, HG.out⟩
        case measure => simp [intOf]; omega
      · have hm' : (((N : Int) % (x : Int)) == 0) = false := by simp; intro h; apply hm; exact_mod_cast h
        have HS : Hid (ints (specL N (k + 1)) = ints (specL N k)) := by
          show ints (specL N (k + 1)) = ints (specL N k)
          rw [specL_no (by rw [← HX.out]; exact hm)]
        clear hm
        go_wp2
        go_roundw
        case rel => exact ⟨x + 1, k + 1, by go_num, by have := HX.out; omega, by have := HX.out; omega, by rw [HS.out]; exact HW.out, HB.out⟩
        case measure => simp [intOf]; omega
    · have hkN : k = N := by have := HX.out; omega
      have HK := Lib.hid hkN
      clear hkN
      have hL : (ints (specL N k)).length = (specL N N).length := by rw [ints_length, HK.out]
      have HL := Lib.hid hL
      obtain ⟨o, cp, hv⟩ := row_slice HW.out
      subst hv
      by_cases h60 : 60 < (ints (specL N k)).length
      · have HD : Hid (divL N = [] ∧ divC N = 3) := by
          show divL N = [] ∧ divC N = 3
          rw [hL] at h60; simp [divL, divC, h60]
        clear hL
        go_wp2
        go_ret2
        rw [HD.out.1, HD.out.2]
        exact ⟨_, rfl, intRow_nil _ _, HB.out⟩
      · have HD : Hid (divL N = ints (specL N k) ∧ divC N = 0) := by
          show divL N = ints (specL N k) ∧ divC N = 0
          rw [hL] at h60; simp [divL, divC, h60, HK.out]
        clear hL
        go_wp2
        go_ret2
        rw [HD.out.1, HD.out.2]
        exact ⟨_, rfl, HW.out, HB.out⟩
theorem specDiv_no (n : Int) (w : World) (h : n < 1 ∨ 1000000 < n) :
    Calls Try.prog 25 #[.int .i64 n] w (IntPost [] 2 w) := by
  have e := inB_f h
  clear h
  go_enter Try.func25, Try.ntmps25
  go_wp2_with (go_at_call 46; refine (in_any _ _ _ _).mono ?_; rintro e w' ⟨rfl, rfl⟩)
  go_ret2
  exact ⟨_, rfl, intRow_nil _ _, Below.refl _ _⟩
theorem implDiv_no (n : Int) (w : World) (h : n < 1 ∨ 1000000 < n) :
    Calls Try.prog 24 #[.int .i64 n] w (IntPost [] 2 w) := by
  by_cases h1 : n < 1
  · clear h
    go_enter Try.func24, Try.ntmps24
    go_wp2_with fail
    go_ret2
    exact ⟨_, rfl, intRow_nil _ _, Below.refl _ _⟩
  · have h2 : 1000000 < n := by omega
    clear h
    go_enter Try.func24, Try.ntmps24
    go_wp2_with fail
    go_ret2
    exact ⟨_, rfl, intRow_nil _ _, Below.refl _ _⟩
end Go.Proofs.Ytbhhnnnghdmhgaa
