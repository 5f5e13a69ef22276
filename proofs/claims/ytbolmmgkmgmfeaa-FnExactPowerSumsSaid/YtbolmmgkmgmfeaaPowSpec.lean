/- Contracts of the walk: chapter 7 in spec: sums of powers. -/
import Derived.Test.YtbolmmgkmgmfeaaPowImpl
import Derived.Test.YtbolmmgkmgmfeaaPolyLaw0
namespace Go.Proofs.Ytbolmmgkmgmfeaa
open Go.RowKit
set_option linter.unusedVariables false
set_option linter.unusedSimpArgs false
set_option maxRecDepth 20000
theorem psN_parts (f : List Int) {k : Nat} (h1 : 1 ≤ k) : psL f k = psL f (k - 1) ++ [psN f (psL f (k - 1)) k] := by
  obtain ⟨m, rfl⟩ : ∃ m, k = m + 1 := ⟨k - 1, by omega⟩
  rfl
set_option maxHeartbeats 4000000 in
theorem specPS_any (x : Int) {o : Option Addr} {n c : Nat} {f : List Int} {w : World} (h : Seen w o n c f) :
    Calls Try.prog 38 #[.slice o n c, .int .i64 x] w (IntPost (psQ f x) (psC f x) w) := by
  have HK := Lib.hid (l07Code1 (mono_seen h (.cells #[.slice o n c] 37)) (new_cell w (.slice o n c) 37))
  have HB1 := Lib.hid ((Below.refl w.heap.size w).alloc (Nat.le_refl _) (.cells #[.slice o n c] 37))
  have HS1 := Lib.hid (mono_seen h (.cells #[.slice o n c] 37))
  have HS := Lib.hid h
  by_cases hc : codS f = 0
  · rw [hc] at HK
    have hsm : smlB f = true := by
      unfold codS at hc
      split at hc
      · split at hc
        · assumption
        · cases hc
      · cases hc
    obtain ⟨_, hl2, hl5, hbf⟩ := smlB_of hsm
    obtain ⟨hl, hn, hno, hnc, a, h1, h2⟩ := h
    obtain ⟨rfl, hag⟩ := h1 (by omega)
    have HF := Lib.hid hbf
    have HL := Lib.hid hl
    have HC' := Lib.hid h2
    have hn5 : n ≤ 5 := by omega
    have hn2 : 2 ≤ n := by omega
    obtain ⟨d, hd⟩ : ∃ d : Nat, d + 1 = n := ⟨n - 1, by omega⟩
    have hdn : (n : Int) - 1 = (d : Int) := by omega
    have HD := Lib.hid hd
    have hm0 : monB f = (f.getD d 0 == 1) := by
      unfold monB; rw [show f.length - 1 = d by omega, decide_eq_false (by omega)]; rfl
    have b1 := h2 d (by omega)
    rw [← HB1.out.cell (p := ⟨a, d, none⟩) hag] at b1
    have HM0 := Lib.hid hm0
    have hdn2 : d < n := by omega
    clear hno hnc h1 h2 hl hn hl2 hl5 hbf hm0 hd
    by_cases hx : 1 ≤ x ∧ x ≤ 6
    · obtain ⟨hx1, hx6⟩ := hx
      have hin : inB x 1 6 = true := inB_t hx1 hx6
      cases hm : monB f
      · have HC := Lib.hid (show psC f x = 5 by simp [psC, hc, hin, hm])
        have e1 := ps_none (f := f) (x := x) (by rw [HC.out]; omega)
        rw [e1, HC.out]
        have hy : f.getD d 0 ≠ 1 := by have := HM0.out; rw [hm] at this; simpa using this.symm
        generalize f.getD d 0 = y at *
        have hy' : (y == 1) = false := by simpa using hy
        clear e1 HM0
        go_enter Try.func38, Try.ntmps38
        go_wp2_with fail
        refine HK.out.mono ?_
        rintro e w2 ⟨rfl, rfl⟩
        go_wp2_with fail
        refine (in_any x 1 6 _).mono ?_
        rw [hin]
        rintro e w2 ⟨rfl, rfl⟩
        go_wp2_with fail
        go_ret2
        exact ⟨_, rfl, intRow_nil _ _, HB1.out⟩
      · have HC := Lib.hid (show psC f x = 0 by simp [psC, hc, hin, hm])
        have HQ := Lib.hid (show psQ f x = psL f x.toNat by simp [psQ, HC.out])
        have hy : f.getD d 0 = 1 := by have := HM0.out; rw [hm] at this; simpa using this.symm
        rw [hy] at b1
        obtain ⟨i0, hi, hz0, hz1, hz2⟩ := info_parts Try.infoInt64
        have HI := Lib.hid hi
        have HZ0 := Lib.hid hz0
        have HZ1 := Lib.hid hz1
        have HZ2 := Lib.hid hz2
        clear hy HM0 hi hz0 hz1 hz2
        go_enter Try.func38, Try.ntmps38
        go_wp2_with fail
        refine HK.out.mono ?_
        rintro e w2 ⟨rfl, rfl⟩
        go_wp2_with fail
        refine (in_any x 1 6 _).mono ?_
        rw [hin]
        rintro e w2 ⟨rfl, rfl⟩
        go_upto_region 9 with fail
        generalize w.alloc (.cells #[.slice (some ⟨a, 0, none⟩) n c] 37) = W1 at *
        clear HK b1 HS1
        have HB2 := Lib.hid (HB1.out.alloc HB1.out.size (.cells #[] 2))
        have HR2 := Lib.hid (intRow_made W1)
        have hq2 : W1.heap.size ≤ (W1.alloc (.cells #[] 2)).heap.size := by simp
        go_upto_region 10 with fail
        generalize W1.alloc (.cells #[] 2) = W2 at *
        obtain ⟨Q, hQ⟩ : ∃ Q, W1.heap.size = Q := ⟨_, rfl⟩
        have hQ0 : w.heap.size ≤ Q := by have := HB1.out.size; omega
        rw [hQ] at HR2 hq2 ⊢
        clear hQ HB1
        obtain ⟨m, rfl⟩ : ∃ m : Nat, x = m := ⟨x.toNat, by omega⟩
        go_wp2_with fail
        go_loopw [8, 9] (fun s t wr => ∃ k : Nat, 1 ≤ k ∧ k ≤ m + 1 ∧ t = .int .i64 k ∧ IntRow Q wr s (psL f (k - 1)) ∧ Q ≤ wr.heap.size ∧ Below w.heap.size w wr) (fun _ t _ => m + 1 - (intOf t).toNat)
        case atStart => exact ⟨1, by omega, by omega, rfl, HR2.out, hq2, HB2.out⟩
        case round =>
          clear HR2 HB2 hq2
          obtain ⟨k, hk1, hk7, rfl, hrow, hqw, hb⟩ := hrel
          have HR := Lib.hid hrow
          have HB := Lib.hid hb
          clear hrow hb
          by_cases hlt : k ≤ m
          · go_wp2_with fail
            go_loopw [10, 11] (fun s t wr2 => ∃ (i nd : Nat), 1 ≤ i ∧ i ≤ min (k - 1) d + 1 ∧ s = .int .i64 (psT f (psL f (k - 1)) k (i - 1)) ∧ t = .int .i64 i ∧ wr2 = wr.drewN nd) (fun _ t _ => 6 - (intOf t).toNat)
            case atStart => exact ⟨1, 0, by omega, by omega, rfl, rfl, rfl⟩
            case round =>
              obtain ⟨i, nd, hi1, hi2, rfl, rfl, rfl⟩ := hrel
              have hpb := psT_small HF.out (j := i - 1) (k := k) (by omega) (by omega)
              by_cases hik : i < k
              · by_cases hid : i ≤ d
                · obtain ⟨p, hp⟩ : ∃ p, p + i = d := ⟨d - i, by omega⟩
                  obtain ⟨e, he⟩ : ∃ e, e + i = k := ⟨k - i, by omega⟩
                  obtain ⟨e2, he2⟩ : ∃ e2, e2 + 1 = e := ⟨e - 1, by omega⟩
                  have hdp : (d : Int) - (i : Int) = (p : Int) := by omega
                  have hke : (k : Int) - (i : Int) = (e : Int) := by omega
                  have hee : (e : Int) - 1 = (e2 : Int) := by omega
                  have wp : IntKind.i64.wrap (p : Int) = (p : Int) := IntWalk.i64_in _ (by omega)
                  have we : IntKind.i64.wrap (e : Int) = (e : Int) := IntWalk.i64_in _ (by omega)
                  have we2 : IntKind.i64.wrap (e2 : Int) = (e2 : Int) := IntWalk.i64_in _ (by omega)
                  have hpn : p < n := by omega
                  have b2 := HC'.out p hpn
                  rw [← HB.out.cell (p := ⟨a, p, none⟩) hag] at b2
                  have hlen := psL_length f (k - 1)
                  rcases row_shape HR.out with ⟨hz, _⟩ | ⟨_, G, cap, rfl, _, _⟩
                  · rw [hlen] at hz; omega
                  have c5 := int_at HR.out rfl (k := e2) (by rw [hlen]; omega)
                  have he2l : e2 < (psL f (k - 1)).length := by rw [hlen]; omega
                  have hstep : psT f (psL f (k - 1)) k (i + 1 - 1) = psT f (psL f (k - 1)) k (i - 1) + f.getD p 0 * (psL f (k - 1)).getD e2 0 := by
                    obtain ⟨j, rfl⟩ : ∃ j, i = j + 1 := ⟨i - 1, by omega⟩
                    rw [show j + 1 + 1 - 1 = j + 1 by omega, show j + 1 - 1 = j by omega]
                    simp only [psT]
                    rw [show f.length - 1 - (j + 1) = p by have := HL.out; have := HD.out; omega, show k - (j + 1) - 1 = e2 by omega]
                  have hnb := psT_small HF.out (j := i + 1 - 1) (k := k) (by omega) (by omega)
                  rw [hstep] at hnb
                  have HST := Lib.hid hstep
                  obtain ⟨z, hzz⟩ : ∃ z, f.getD p 0 = z := ⟨_, rfl⟩
                  obtain ⟨v, hv⟩ : ∃ v, (psL f (k - 1)).getD e2 0 = v := ⟨_, rfl⟩
                  obtain ⟨y, hy⟩ : ∃ y, psT f (psL f (k - 1)) k (i - 1) = y := ⟨_, rfl⟩
                  rw [hzz, hv, hy] at HST hnb
                  rw [hzz] at b2
                  rw [hv] at c5
                  rw [hy] at hpb ⊢
                  generalize (psL f (k - 1)).length = L at *
                  have w1 : IntKind.i64.wrap (z * v) = z * v := IntWalk.i64_in _ (by omega)
                  have w2 : IntKind.i64.wrap (y + z * v) = y + z * v := IntWalk.i64_in _ (by omega)
                  clear hzz hv hy hstep hnb hpb hp he he2 hlen
                  go_wp2
                  go_quiet (fail)
                  go_wp2
                  go_roundw
                  case rel => exact ⟨i + 1, nd + nq, by omega, by omega, by rw [HST.out], by go_num, by first | rfl | rw [World.drewN_drewN]⟩
                  case measure => simp [intOf]; omega
                · have hid' : ¬ (i : Int) ≤ (d : Int) := by omega
                  have HR5 := Lib.hid (show IntRow Q (wr.drewN nd) _ (psL f (k - 1)) from HR.out)
                  have HB5 := Lib.hid (below_drewN HB.out nd)
                  have hkd : ¬ (k : Int) ≤ (d : Int) := by omega
                  have hN : psN f (psL f (k - 1)) k = -(psT f (psL f (k - 1)) k (i - 1)) := by
                    unfold psN
                    rw [if_neg (by have := HL.out; have := HD.out; omega), show min (k - 1) (f.length - 1) = i - 1 by have := HL.out; have := HD.out; omega, Int.add_zero]
                  obtain ⟨y, hy⟩ : ∃ y, psT f (psL f (k - 1)) k (i - 1) = y := ⟨_, rfl⟩
                  rw [hy] at hN hpb ⊢
                  have w3 : IntKind.i64.wrap (-y) = -y := IntWalk.i64_in _ (by omega)
                  have HP := Lib.hid (show psL f k = psL f (k - 1) ++ [-y] by rw [psN_parts f hk1, hN])
                  clear hy hpb hN
                  have hlen := psL_length f (k - 1)
                  generalize psL f (k - 1) = L at *
                  have HLEN := Lib.hid hlen
                  clear hlen
                  obtain ⟨oo, cc, hvv⟩ := row_slice HR5.out
                  subst hvv
                  have rowg := HR5.out
                  have hqw5 : Q ≤ (wr.drewN nd).heap.size := hqw
                  generalize wr.drewN nd = W5 at *
                  clear HR HB HR5
                  go_wp2_with (at_builtin; refine wpList_append_own _ rfl (.tmp 85) (.tmp 88) 37 rfl Q 2 i0 (.int .i64 0) 1 8 Try.underlying37 HI.out HZ0.out HZ1.out HZ2.out rfl (by decide) _ _ _ rfl (rowg.alloc _) ⟨W5.heap.size, 0, none⟩ 1 1 [.int .i64 (-y)] rfl rfl ?c1 ?c2 ?c3 ?c4 ?c5 ?_)
                  case c2 => first | exact one_one _ | rfl
                  case c3 => have := HLEN.out; unfold maxLen; omega
                  case c4 => have := HLEN.out; omega
                  case c5 => have := HLEN.out; first | omega | (simp; omega)
                  intro v' w7 hown hgrow _
                  have R4 := Lib.hid (intRow_snoc hown)
                  have B4 := Lib.hid ((HB5.out.alloc HB5.out.size (.cells #[.int .i64 (-y)] 2)).grown hgrow (by have := HB5.out.size; simp; omega) (fun k hk => by have := (World.ownsRow.lt rowg k hk).1; omega))
                  have hqw7 : Q ≤ w7.heap.size := by have := hgrow.size; simp at this; omega
                  clear hown hgrow rowg
                  go_wp2_with fail
                  exact ⟨⟨k + 1, by omega, by omega, by go_num, by rw [show k + 1 - 1 = k by omega, HP.out]; exact R4.out, hqw7, B4.out⟩, by simp only [intOf]; omega⟩
              · have hik' : ¬ (i : Int) < (k : Int) := by omega
                have HR5 := Lib.hid (show IntRow Q (wr.drewN nd) _ (psL f (k - 1)) from HR.out)
                have HB5 := Lib.hid (below_drewN HB.out nd)
                by_cases hkd0 : k ≤ d
                · obtain ⟨p, hp⟩ : ∃ p, p + k = d := ⟨d - k, by omega⟩
                  have hdp : (d : Int) - (k : Int) = (p : Int) := by omega
                  have hkd : (k : Int) ≤ (d : Int) := by omega
                  have wp : IntKind.i64.wrap (p : Int) = (p : Int) := IntWalk.i64_in _ (by omega)
                  have hpn : p < n := by omega
                  have b2 := HC'.out p hpn
                  rw [← HB5.out.cell (p := ⟨a, p, none⟩) hag] at b2
                  have hN : psN f (psL f (k - 1)) k = -(psT f (psL f (k - 1)) k (i - 1) + (k : Int) * f.getD p 0) := by
                    unfold psN
                    rw [if_pos (by have := HL.out; have := HD.out; omega), show min (k - 1) (f.length - 1) = i - 1 by have := HL.out; have := HD.out; omega, show f.length - 1 - k = p by have := HL.out; have := HD.out; omega]
                  have hbp := mul60 (B := 6) (HF.out p) (y := (k : Int)) (by omega)
                  rw [Int.mul_comm (f.getD p 0) _] at hbp
                  obtain ⟨z, hzz⟩ : ∃ z, f.getD p 0 = z := ⟨_, rfl⟩
                  obtain ⟨y, hy⟩ : ∃ y, psT f (psL f (k - 1)) k (i - 1) = y := ⟨_, rfl⟩
                  rw [hzz, hy] at hN
                  rw [hzz] at b2 hbp
                  rw [hy] at hpb ⊢
                  have w1 : IntKind.i64.wrap ((k : Int) * z) = (k : Int) * z := IntWalk.i64_in _ (by omega)
                  have w2 : IntKind.i64.wrap (y + (k : Int) * z) = y + (k : Int) * z := IntWalk.i64_in _ (by omega)
                  have w3 : IntKind.i64.wrap (-(y + (k : Int) * z)) = -(y + (k : Int) * z) := IntWalk.i64_in _ (by omega)
                  have HP := Lib.hid (show psL f k = psL f (k - 1) ++ [-(y + (k : Int) * z)] by rw [psN_parts f hk1, hN])
                  clear hzz hy hbp hpb hp hN
                  have hlen := psL_length f (k - 1)
                  generalize psL f (k - 1) = L at *
                  have HLEN := Lib.hid hlen
                  clear hlen
                  obtain ⟨oo, cc, hvv⟩ := row_slice HR5.out
                  subst hvv
                  have rowg := HR5.out
                  have hqw5 : Q ≤ (wr.drewN nd).heap.size := hqw
                  generalize wr.drewN nd = W5 at *
                  clear HR HB HR5
                  go_wp2_with (at_builtin; refine wpList_append_own _ rfl (.tmp 85) (.tmp 88) 37 rfl Q 2 i0 (.int .i64 0) 1 8 Try.underlying37 HI.out HZ0.out HZ1.out HZ2.out rfl (by decide) _ _ _ rfl (rowg.alloc _) ⟨W5.heap.size, 0, none⟩ 1 1 [.int .i64 (-(y + (k : Int) * z))] rfl rfl ?d1 ?d2 ?d3 ?d4 ?d5 ?_)
                  case d2 => first | exact one_one _ | rfl
                  case d3 => have := HLEN.out; unfold maxLen; omega
                  case d4 => have := HLEN.out; omega
                  case d5 => have := HLEN.out; first | omega | (simp; omega)
                  intro v' w7 hown hgrow _
                  have R4 := Lib.hid (intRow_snoc hown)
                  have B4 := Lib.hid ((HB5.out.alloc HB5.out.size (.cells #[.int .i64 (-(y + (k : Int) * z))] 2)).grown hgrow (by have := HB5.out.size; simp; omega) (fun k hk => by have := (World.ownsRow.lt rowg k hk).1; omega))
                  have hqw7 : Q ≤ w7.heap.size := by have := hgrow.size; simp at this; omega
                  clear hown hgrow rowg
                  go_wp2_with fail
                  exact ⟨⟨k + 1, by omega, by omega, by go_num, by rw [show k + 1 - 1 = k by omega, HP.out]; exact R4.out, hqw7, B4.out⟩, by simp only [intOf]; omega⟩
                · have hkd : ¬ (k : Int) ≤ (d : Int) := by omega
                  have hN : psN f (psL f (k - 1)) k = -(psT f (psL f (k - 1)) k (i - 1)) := by
                    unfold psN
                    rw [if_neg (by have := HL.out; have := HD.out; omega), show min (k - 1) (f.length - 1) = i - 1 by have := HL.out; have := HD.out; omega, Int.add_zero]
                  obtain ⟨y, hy⟩ : ∃ y, psT f (psL f (k - 1)) k (i - 1) = y := ⟨_, rfl⟩
                  rw [hy] at hN hpb ⊢
                  have w3 : IntKind.i64.wrap (-y) = -y := IntWalk.i64_in _ (by omega)
                  have HP := Lib.hid (show psL f k = psL f (k - 1) ++ [-y] by rw [psN_parts f hk1, hN])
                  clear hy hpb hN
                  have hlen := psL_length f (k - 1)
                  generalize psL f (k - 1) = L at *
                  have HLEN := Lib.hid hlen
                  clear hlen
                  obtain ⟨oo, cc, hvv⟩ := row_slice HR5.out
                  subst hvv
                  have rowg := HR5.out
                  have hqw5 : Q ≤ (wr.drewN nd).heap.size := hqw
                  generalize wr.drewN nd = W5 at *
                  clear HR HB HR5
                  go_wp2_with (at_builtin; refine wpList_append_own _ rfl (.tmp 85) (.tmp 88) 37 rfl Q 2 i0 (.int .i64 0) 1 8 Try.underlying37 HI.out HZ0.out HZ1.out HZ2.out rfl (by decide) _ _ _ rfl (rowg.alloc _) ⟨W5.heap.size, 0, none⟩ 1 1 [.int .i64 (-y)] rfl rfl ?e1 ?e2 ?e3 ?e4 ?e5 ?_)
                  case e2 => first | exact one_one _ | rfl
                  case e3 => have := HLEN.out; unfold maxLen; omega
                  case e4 => have := HLEN.out; omega
                  case e5 => have := HLEN.out; first | omega | (simp; omega)
                  intro v' w7 hown hgrow _
                  have R4 := Lib.hid (intRow_snoc hown)
                  have B4 := Lib.hid ((HB5.out.alloc HB5.out.size (.cells #[.int .i64 (-y)] 2)).grown hgrow (by have := HB5.out.size; simp; omega) (fun k hk => by have := (World.ownsRow.lt rowg k hk).1; omega))
                  have hqw7 : Q ≤ w7.heap.size := by have := hgrow.size; simp at this; omega
                  clear hown hgrow rowg
                  go_wp2_with fail
                  exact ⟨⟨k + 1, by omega, by omega, by go_num, by rw [show k + 1 - 1 = k by omega, HP.out]; exact R4.out, hqw7, B4.out⟩, by simp only [intOf]; omega⟩
          · have hkm : k - 1 = m := by omega
            rw [hkm] at HR
            have hkm' : ¬ (k : Int) ≤ (m : Int) := by omega
            obtain ⟨oo, cc, hvv⟩ := row_slice HR.out
            subst hvv
            have HLEN := Lib.hid (psL_length f m)
            have HRF := Lib.hid (show IntRow w.heap.size wr (.slice oo (psL f m).length cc) (psQ f m) by rw [HQ.out, Int.toNat_natCast]; exact intRow_lower HR.out hQ0)
            go_wp2_with fail
            go_loop [12] (fun s => ∃ t : Nat, t ≤ m ∧ s = .int .i64 t) (fun s => m - (intOf s).toNat)
            case atStart => exact ⟨0, Nat.zero_le _, rfl⟩
            case round =>
              obtain ⟨t, ht, rfl⟩ := hrel
              by_cases htm : t < m
              · have hsv := ps_small HF.out htm (by omega)
                have htl : t < (psL f m).length := by have := HLEN.out; omega
                rcases row_shape HR.out with ⟨hz, _⟩ | ⟨_, G, cap, hgc, _, _⟩
                · have := HLEN.out; omega
                injection hgc with e1 _ e2
                subst e1 e2
                have c5 := int_at HR.out rfl htl
                have hvt : inB ((psL f m).getD t 0) (-1000000000000) 1000000000000 = true := inB_t hsv.1 hsv.2
                obtain ⟨v, hv⟩ : ∃ v, (psL f m).getD t 0 = v := ⟨_, rfl⟩
                rw [hv] at c5 hvt
                clear hv hsv
                go_wp2_with fail
                refine (specIs6_any v _).mono ?_
                rw [hvt]
                rintro e w2 ⟨rfl, rfl⟩
                go_wp2_with fail
                exact ⟨⟨t + 1, by omega, by go_num⟩, by simp only [intOf]; omega⟩
              · have htl : ¬ (t : Int) < ((psL f m).length : Int) := by have := HLEN.out; omega
                go_wp2_with fail
                go_ret2
                have hc0 := HC.out
                exact ⟨_, congrArg (fun c => Ending.returned (.tuple #[.slice oo (psL f m).length cc, .int .i64 c])) hc0.symm, HRF.out, HB.out⟩
    · have hin : inB x 1 6 = false := inB_f (by omega)
      have HC := Lib.hid (show psC f x = 2 by simp [psC, hc, hin])
      have e1 := ps_none (f := f) (x := x) (by rw [HC.out]; omega)
      rw [e1, HC.out]
      clear e1
      go_enter Try.func38, Try.ntmps38
      go_wp2_with fail
      refine HK.out.mono ?_
      rintro e w2 ⟨rfl, rfl⟩
      go_wp2_with fail
      refine (in_any x 1 6 _).mono ?_
      rw [hin]
      rintro e w2 ⟨rfl, rfl⟩
      go_wp2_with fail
      go_ret2
      exact ⟨_, rfl, intRow_nil _ _, HB1.out⟩
  · have HC := Lib.hid (show psC f x = codS f by simp [psC, hc])
    have e1 := ps_none (f := f) (x := x) (by rw [HC.out]; exact hc)
    rw [e1, HC.out]
    generalize codS f = y at *
    have hc' : (y == 0) = false := by simpa using hc
    clear e1 h
    go_enter Try.func38, Try.ntmps38
    go_wp2_with fail
    refine HK.out.mono ?_
    rintro e w2 ⟨rfl, rfl⟩
    go_wp2_with fail
    go_ret2
    exact ⟨_, rfl, intRow_nil _ _, HB1.out⟩
end Go.Proofs.Ytbolmmgkmgmfeaa
