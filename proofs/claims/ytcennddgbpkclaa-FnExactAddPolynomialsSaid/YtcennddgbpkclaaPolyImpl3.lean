/- Contracts of the walk: chapter 6 in impl: division by x - a, values, shifted polynomials. -/
import Derived.Test.YtcennddgbpkclaaPolyImpl2
namespace Go.Proofs.Ytcennddgbpkclaa
open Go.RowKit
set_option linter.unusedVariables false
set_option linter.unusedSimpArgs false
theorem isArg_any (x : Int) (w : World) : Calls Try.prog 53 #[.int .i64 x] w fun e w' => e = .returned (.bool (inB x (-1000) 1000)) ∧ w = w' := by
  rcases inB_cases x (-1000) 1000 with ⟨hx, h0, h1⟩ | ⟨hx, h⟩
  · rw [hx]
    clear hx
    go_enter Try.func53, Try.ntmps53
    go_wp2
    go_ret
    exact ⟨rfl, rfl⟩
  · rw [hx]
    clear hx
    by_cases h0 : x < -1000
    · have h0' : ¬ (-1000 : Int) ≤ x := by omega
      go_enter Try.func53, Try.ntmps53
      go_wp2
      go_ret
      exact ⟨rfl, rfl⟩
    · have h0' : (-1000 : Int) ≤ x := by omega
      have h1 : (1000 : Int) < x := by omega
      go_enter Try.func53, Try.ntmps53
      go_wp2
      go_ret
      exact ⟨by show Ending.returned (.bool (decide (x ≤ 1000))) = _; rw [decide_eq_false (by omega)], rfl⟩
def VBd (l : List Int) : Prop := ∀ i, -1000000000000 ≤ l.getD i 0 ∧ l.getD i 0 ≤ 1000000000000
def KeepB (B : Nat) (W W' : World) : Prop := ∀ w0 : World, w0.heap.size ≤ B → Below w0.heap.size w0 W → Below w0.heap.size w0 W'
theorem keepB_refl (B : Nat) (W : World) : KeepB B W W := fun _ _ h => h
theorem keepB_trans {B : Nat} {W1 W2 W3 : World} (h : KeepB B W1 W2) (h' : KeepB B W2 W3) : KeepB B W1 W3 := fun w0 hw h0 => h' w0 hw (h w0 hw h0)
theorem keepB_set (B k : Nat) (W : World) (v : Value) : KeepB B W (W.setCell ⟨B, k, none⟩ v) := fun w0 hw h => h.setCell hw v
theorem keepB_drew (B : Nat) (W : World) : KeepB B W W.drew := fun w0 hw h => below_drewN h 1
def DivP (F : List Int) (a : Int) (k B : Nat) (W : World) (e : Ending) (W' : World) : Prop :=
  KeepB B W W' ∧ (e = .returned (.bool true) ∧ Nine W' B (shiftP F a (k + 1)) ∧ VBd (shiftP F a (k + 1)) ∨
    e = .returned (.bool false) ∧ ∃ i, k ≤ i ∧ i < 9 ∧ (evalD (shiftP F a k) a (9 - i) < -1000000000000 ∨ 1000000000000 < evalD (shiftP F a k) a (9 - i)))
set_option maxRecDepth 20000
set_option maxHeartbeats 2000000 in
theorem divide_any {F : List Int} {a : Int} {k B : Nat} {W : World} (hF : F.length = 9) (hN : Nine W B (shiftP F a k)) (hv : VBd (shiftP F a k)) (hk : k ≤ 8) (a0 : -1000 ≤ a) (a1 : a ≤ 1000) :
    Calls Try.prog 54 #[.pointer (some ⟨B, 0, none⟩), .int .i64 k, .int .i64 a] W (DivP F a k B W) := by
  have HN := Lib.hid hN
  have HV := Lib.hid hv
  have HF := Lib.hid hF
  clear hN hv hF
  go_enter Try.func54, Try.ntmps54
  go_wp2_with fail
  go_loopw [7] (fun s wr => ∃ (q : Nat) (y : Int), k + q ≤ 8 ∧ s = .int .i64 y ∧ y = 7 - (q : Int) ∧ Nine wr B (shV F a k q) ∧ VBd (shV F a k q) ∧ KeepB B W wr) (fun s _ => (intOf s + 2).toNat)
  case atStart => exact ⟨0, 7, by omega, rfl, rfl, by rw [shV_zero]; exact HN.out, by rw [shV_zero]; exact HV.out, keepB_refl _ _⟩
  case round =>
    obtain ⟨q, y, hq, rfl, hy, hrow, hvb, hkb⟩ := hrel
    have HW := Lib.hid hrow
    have HVB := Lib.hid hvb
    have HKB := Lib.hid hkb
    clear hrow hvb hkb
    by_cases hlt : k + q ≤ 7
    · obtain ⟨i, hi⟩ : ∃ i : Nat, y = i := ⟨y.toNat, by omega⟩
      subst hi
      have hi9 : i < 9 := by omega
      have hi19 : i + 1 < 9 := by omega
      have hki : k ≤ i := by omega
      obtain ⟨e1, e2, e3⟩ := shV_at (f := F) (a := a) (k := k) (q := q) (i := i) (by rw [HF.out]; omega) (by rw [HF.out]; omega) hki
      rw [HF.out] at e2 e3
      have c3 := nine_at HW.out hi9
      have c4 := nine_at HW.out hi19
      have f3 := nine_frozen HW.out hi9
      have b3 := HVB.out i
      have b4 := HVB.out (i + 1)
      rw [e1] at c3 b3
      rw [e2] at c4 b4
      have HSET := Lib.hid (shV_step (f := F) (a := a) (k := k) (q := q) (i := i) (by rw [HF.out]; omega) (by rw [HF.out]; omega) hki (show evalD (shiftP F a k) a (F.length - i) = evalD (shiftP F a k) a (9 - i) by rw [HF.out]))
      rw [e3] at HSET
      have HE3 := Lib.hid e3
      clear e1 e2 e3
      generalize (shiftP F a k).getD i 0 = x at *
      generalize evalD (shiftP F a k) a (9 - (i + 1)) = z at *
      have m1 : -1000000000000000 ≤ a * z ∧ a * z ≤ 1000000000000000 := by
        have p1 : a.natAbs * z.natAbs ≤ 1000 * 1000000000000 := Nat.mul_le_mul (by omega) (by omega)
        rw [← Int.natAbs_mul] at p1; omega
      have w1 : IntKind.i64.wrap (a * z) = a * z := IntWalk.i64_in _ (by omega)
      have w2 : IntKind.i64.wrap (x + a * z) = x + a * z := IntWalk.i64_in _ (by omega)
      obtain ⟨m, hm⟩ : ∃ m, i + 1 = m := ⟨_, rfl⟩
      have hi1 : (i : Int) + 1 = (m : Int) := by omega
      have wi1 : IntKind.i64.wrap (m : Int) = (m : Int) := IntWalk.i64_in _ (by omega)
      have hil : (i : Int) < 9 := by omega
      have hil1 : (m : Int) < 9 := by omega
      rw [hm] at c4
      clear hm
      have hki2 : (k : Int) ≤ (i : Int) := by omega
      have HY := Lib.hid hy
      clear hy
      go_upto_region 4 with fail
      refine wp_region_still_tail 16 (by kernel_rfl) (by kernel_rfl) ?_
      simp only [List.take_succ_cons, List.take_zero, List.drop_succ_cons, List.drop_zero]
      repeat still_step
      refine wpStill_nil ?_
      change wpList _ _ _ _ _ wr.drew
      have HW1 := Lib.hid (nine_drew HW.out)
      have HKB1 := Lib.hid (keepB_trans HKB.out (keepB_drew B wr))
      replace f3 : wr.drew.frozen? ⟨B, i, none⟩ = false := f3
      replace c3 : wr.drew.cell? ⟨B, i, none⟩ = _ := c3
      clear HW HKB c4
      generalize wr.drew = W2 at HW1 HKB1 c3 f3 ⊢
      have hs := nine_set HW1.out hi9 (x + a * z)
      rw [HSET.out] at hs
      have c5 := World.cell?_setCell_same _ _ (.int .i64 (x + a * z)) c3
      have HW3 := Lib.hid hs
      have HKB3 := Lib.hid (keepB_trans HKB1.out (keepB_set B i W2 (.int .i64 (x + a * z))))
      clear hs HW1 HKB1
      generalize hE : x + a * z = E at *
      rcases inB_cases E (-1000000000000) 1000000000000 with ⟨hx, h0, h1⟩ | ⟨hx, hout⟩
      · have HVN : Hid (VBd (shV F a k (q + 1))) := Lib.hid (by
          rw [← HSET.out]
          exact set_bd (B := 1000000000000) HVB.out ⟨h0, h1⟩)
        clear HVB b3 b4 m1 w1 hE
        go_upto_region 5 with fail
        generalize W2.setCell ⟨B, i, none⟩ (.int .i64 E) = W3 at HW3 HKB3 c5 ⊢
        clear c3 f3
        go_wp2_with fail
        refine (isValue_any _ _).mono ?_
        rw [show valueB E = true from hx]
        rintro e w' ⟨rfl, rfl⟩
        go_wp2_with fail
        exact ⟨⟨q + 1, (i : Int) - 1, by omega, by go_num, by have := HY.out; omega, HW3.out, HVN.out, HKB3.out⟩, by simp only [intOf]; omega⟩
      · have HOUT := Lib.hid (show ∃ i, k ≤ i ∧ i < 9 ∧ (evalD (shiftP F a k) a (9 - i) < -1000000000000 ∨ 1000000000000 < evalD (shiftP F a k) a (9 - i)) from ⟨i, hki, hi9, by rw [HE3.out]; exact hout⟩)
        clear HVB b3 b4 m1 w1 hE hout
        go_upto_region 5 with fail
        generalize W2.setCell ⟨B, i, none⟩ (.int .i64 E) = W3 at HW3 HKB3 c5 ⊢
        clear c3 f3
        go_wp2_with fail
        refine (isValue_any _ _).mono ?_
        rw [show valueB E = false from hx]
        rintro e w' ⟨rfl, rfl⟩
        go_wp2_with fail
        go_ret
        exact ⟨HKB3.out, .inr ⟨rfl, HOUT.out⟩⟩
    · have he : shV F a k q = shiftP F a (k + 1) := shV_end (by rw [HF.out]; omega)
      have H1 := Lib.hid (show Nine wr B (shiftP F a (k + 1)) by rw [← he]; exact HW.out)
      have H2 := Lib.hid (show VBd (shiftP F a (k + 1)) by rw [← he]; exact HVB.out)
      have hyk : y < (k : Int) := by omega
      clear he HW HVB hy
      go_wp2_with fail
      go_ret
      exact ⟨HKB.out, .inl ⟨rfl, H1.out, H2.out⟩⟩
theorem vbd_of {l : List Int} (h : ∀ i, -1000000 ≤ l.getD i 0 ∧ l.getD i 0 ≤ 1000000) : VBd l := fun i => by have := h i; omega
theorem shiftP_one {F : List Int} {x : Int} (h : F.length = 9) : (shiftP F x 1).getD 0 0 = evalD F x 9 := by
  show (tabL F.length _).getD 0 0 = _
  rw [tabL_getD (show 0 < F.length by omega), if_neg (Nat.lt_irrefl 0), h]
  rfl
set_option maxHeartbeats 1000000 in
theorem implEval_any (x : Int) {o : Option Addr} {n c : Nat} {l : List Int} {w : World} (h : Seen w o n c l) :
    Calls Try.prog 20 #[.slice o n c, .int .i64 x] w fun e w' => e = .returned (.tuple #[.int .i64 (valueQ l x), .int .i64 (valueC l x)]) ∧ Below w.heap.size w w' := by
  have HS := Lib.hid h
  cases hp : polyB l
  · clear h
    rw [show valueQ l x = 0 by simp [valueQ, valueC, hp], show valueC l x = 1 by simp [valueC, hp]]
    go_enter Try.func20, Try.ntmps20
    go_wp2_with fail
    refine (implIsPoly_any HS.out).mono ?_
    rw [hp]
    rintro e w2 ⟨rfl, rfl⟩
    go_wp2_with fail
    go_ret2
    exact ⟨rfl, Below.refl _ _⟩
  · rcases inB_cases x (-1000) 1000 with ⟨hx, hx0, hx1⟩ | ⟨hx, _⟩
    · have hn9 : n ≤ 9 := by rw [h.1]; exact (polyB_of hp).1
      have HP := Lib.hid hp
      clear h
      go_enter Try.func20, Try.ntmps20
      go_wp2_with fail
      refine (implIsPoly_any HS.out).mono ?_
      rw [hp]
      rintro e w2 ⟨rfl, rfl⟩
      go_wp2_with fail
      refine (isArg_any _ _).mono ?_
      rw [hx]
      rintro e w2 ⟨rfl, rfl⟩
      go_wp2_with fail
      refine (coefOf_any HS.out hn9).mono ?_
      rintro e W1 ⟨rfl, hb1⟩
      have hst := store_new W1 (padL_length l)
      go_upto_region 6 with fail
      have hN := nine_new W1 (padL l) 46 (padL_length l)
      have hB : Below w.heap.size w (W1.alloc (.cells (arrV (padL l)) 46)) := hb1.alloc hb1.size _
      have hsz := hb1.size
      generalize W1.alloc (.cells (arrV (padL l)) 46) = W2 at hN hB ⊢
      generalize W1.heap.size = B at hN hsz ⊢
      have HN := Lib.hid hN
      have HB := Lib.hid hB
      clear hst hN hB hb1
      go_wp2_with fail
      refine (divide_any (F := padL l) (k := 0) (padL_length l) HN.out (vbd_of (pad_bd HP.out)) (by omega) hx0 hx1).mono ?_
      rintro e W3 ⟨hk, ⟨rfl, hn3, hv3⟩ | ⟨rfl, i, _, hi9, hout⟩⟩
      · have hB3 := hk w hsz HB.out
        have c0 := nine_at hn3 (k := 0) (by omega)
        have hv0 := hv3 0
        rw [shiftP_one (padL_length l)] at c0 hv0
        obtain ⟨e1, e2⟩ := eval_done6 HP.out hx hv0.1 hv0.2
        have HE := Lib.hid (And.intro e1 e2)
        have HB3 := Lib.hid hB3
        clear hk hn3 hv3 hv0 e1 e2 hB3
        generalize evalD (padL l) x 9 = z at *
        go_wp2_with fail
        go_ret2
        rw [HE.out.1, HE.out.2]
        exact ⟨rfl, HB3.out⟩
      · have hB3 := hk w hsz HB.out
        obtain ⟨e1, e2⟩ := eval_stop6 HP.out hx (show 9 - i ≤ 9 by omega) hout
        have HE := Lib.hid (And.intro e1 e2)
        have HB3 := Lib.hid hB3
        clear hk hout e1 e2 hB3
        go_wp2_with fail
        go_ret2
        rw [HE.out.1, HE.out.2]
        exact ⟨rfl, HB3.out⟩
    · rw [show valueQ l x = 0 by simp [valueQ, valueC, hp, hx], show valueC l x = 2 by simp [valueC, hp, hx]]
      clear h
      go_enter Try.func20, Try.ntmps20
      go_wp2_with fail
      refine (implIsPoly_any HS.out).mono ?_
      rw [hp]
      rintro e w2 ⟨rfl, rfl⟩
      go_wp2_with fail
      refine (isArg_any _ _).mono ?_
      rw [hx]
      rintro e w2 ⟨rfl, rfl⟩
      go_wp2_with fail
      go_ret2
      exact ⟨rfl, Below.refl _ _⟩
set_option maxHeartbeats 1000000 in
theorem implShift_any (a : Int) {o : Option Addr} {n c : Nat} {l : List Int} {w : World} (h : Seen w o n c l) :
    Calls Try.prog 28 #[.slice o n c, .int .i64 a] w (IntPost (shiftQ l a) (shiftC l a) w) := by
  have HS := Lib.hid h
  cases hp : polyB l
  · clear h
    rw [show shiftQ l a = [] by simp [shiftQ, hp], show shiftC l a = 1 by simp [shiftC, hp]]
    go_enter Try.func28, Try.ntmps28
    go_wp2_with fail
    refine (implIsPoly_any HS.out).mono ?_
    rw [hp]
    rintro e w2 ⟨rfl, rfl⟩
    go_wp2_with fail
    go_ret2
    exact ⟨_, rfl, intRow_nil _ _, Below.refl _ _⟩
  · rcases inB_cases a (-1000) 1000 with ⟨hx, hx0, hx1⟩ | ⟨hx, _⟩
    · have hl9 := (polyB_of hp).1
      have hn9 : n ≤ 9 := by rw [h.1]; exact hl9
      have HE := Lib.hid (res_same (shift_pad a hl9))
      rw [show shiftQ l a = resL (shiftL l a) by simp [shiftQ, hp, hx], show shiftC l a = resC (shiftL l a) by simp [shiftC, hp, hx], ← HE.out.1, ← HE.out.2]
      have HBD := Lib.hid (pad_bd hp)
      have HF := Lib.hid (padL_length l)
      clear h hl9
      go_enter Try.func28, Try.ntmps28
      go_wp2_with fail
      refine (implIsPoly_any HS.out).mono ?_
      rw [hp]
      rintro e w2 ⟨rfl, rfl⟩
      go_wp2_with fail
      refine (isArg_any _ _).mono ?_
      rw [hx]
      rintro e w2 ⟨rfl, rfl⟩
      go_wp2_with fail
      refine (coefOf_any HS.out hn9).mono ?_
      rintro e W1 ⟨rfl, hb1⟩
      clear HE
      generalize padL l = F at *
      have hst := store_new W1 HF.out
      have h9s : (arrV F).size = 9 := by rw [arrV_size, HF.out]
      go_upto_region 6 with fail
      have hN := nine_new W1 F 46 HF.out
      have hB : Below w.heap.size w (W1.alloc (.cells (arrV F) 46)) := hb1.alloc hb1.size _
      have hsz := hb1.size
      generalize W1.alloc (.cells (arrV F) 46) = W2 at hN hB ⊢
      generalize W1.heap.size = B at hN hsz ⊢
      have HN := Lib.hid hN
      have HB := Lib.hid hB
      clear hst hN hB hb1
      go_wp2_with fail
      go_loopw [16] (fun s wr => ∃ k : Nat, k ≤ 8 ∧ s = .int .i64 k ∧ Nine wr B (shiftP F a k) ∧ VBd (shiftP F a k) ∧ Below w.heap.size w wr) (fun s _ => 8 - (intOf s).toNat)
      case atStart => exact ⟨0, Nat.zero_le _, rfl, HN.out, vbd_of HBD.out, HB.out⟩
      case round =>
        obtain ⟨k, hk, rfl, hrow, hvb, hb⟩ := hrel
        have HW := Lib.hid hrow
        have HVB := Lib.hid hvb
        have HBr := Lib.hid hb
        clear hrow hvb hb HN HB
        by_cases hlt : k < 8
        · go_wp2_with fail
          refine (divide_any HF.out HW.out HVB.out hk hx0 hx1).mono ?_
          rintro e W3 ⟨hkp, ⟨rfl, hn3, hv3⟩ | ⟨rfl, i, hki, hi9, hout⟩⟩
          · have HB3 := Lib.hid (hkp w hsz HBr.out)
            have HN3 := Lib.hid hn3
            have HV3 := Lib.hid hv3
            clear hkp hn3 hv3
            go_wp2_with fail
            exact ⟨⟨k + 1, by omega, by go_num, HN3.out, HV3.out, HB3.out⟩, by simp only [intOf]; omega⟩
          · have HB3 := Lib.hid (hkp w hsz HBr.out)
            obtain ⟨e1, e2⟩ := shift_stop6 HF.out HBD.out HVB.out hk hki hi9 hout
            have HE := Lib.hid (And.intro e1 e2)
            clear hkp hout e1 e2
            go_wp2_with fail
            go_ret2
            rw [HE.out.1, HE.out.2]
            exact ⟨_, rfl, intRow_nil _ _, HB3.out⟩
        · have hk8 : k = 8 := by omega
          subst hk8
          have hR := HW.out
          rw [shift_eight a HF.out] at hR
          have HR := Lib.hid hR
          clear hR HW
          go_upto_region 12 with fail
          refine wp_region_lit ?_
          refine wpList_load_nine rfl (.tmp 6) rfl B rfl HR.out ?_
          go_wp2_with fail
          refine (asResult_any (F := shiftL F a) (by rw [shiftL_length, HF.out]) _).mono ?_
          rintro e w3 ⟨v, rfl, hr3, hb3⟩
          go_wp2_with fail
          go_ret2
          exact ⟨v, rfl, intRow_lower hr3 HBr.out.size, HBr.out.trans (hb3.mono HBr.out.size)⟩
    · rw [show shiftQ l a = [] by simp [shiftQ, hp, hx], show shiftC l a = 2 by simp [shiftC, hp, hx]]
      clear h
      go_enter Try.func28, Try.ntmps28
      go_wp2_with fail
      refine (implIsPoly_any HS.out).mono ?_
      rw [hp]
      rintro e w2 ⟨rfl, rfl⟩
      go_wp2_with fail
      refine (isArg_any _ _).mono ?_
      rw [hx]
      rintro e w2 ⟨rfl, rfl⟩
      go_wp2_with fail
      go_ret2
      exact ⟨_, rfl, intRow_nil _ _, Below.refl _ _⟩
end Go.Proofs.Ytcennddgbpkclaa
