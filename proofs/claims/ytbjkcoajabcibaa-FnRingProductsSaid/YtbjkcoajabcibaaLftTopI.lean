/- Contracts of the walk: chapter 12: the exported functions, in impl. -/
import Derived.Test.YtbjkcoajabcibaaLftTopS
namespace Go.Proofs.Ytbjkcoajabcibaa
open Go.RowKit
set_option linter.unusedVariables false
set_option linter.unusedSimpArgs false
set_option maxRecDepth 20000
theorem box_list (w : World) (a b : Value) (T T1 : TypeId) (cs : Array Value) :
    Below w.heap.size w ((w.alloc (.cells #[a, b] T)).alloc (.cells cs T1)) ∧ ((w.alloc (.cells #[a, b] T)).alloc (.cells cs T1)).cell? ⟨w.heap.size, 0, none⟩ = some a ∧ ((w.alloc (.cells #[a, b] T)).alloc (.cells cs T1)).cell? ⟨w.heap.size, 1, none⟩ = some b ∧
    w.heap.size + 1 < ((w.alloc (.cells #[a, b] T)).alloc (.cells cs T1)).heap.size := by
  have h1 := below_a8 w (.cells #[a, b] T)
  have h2 := below_a8 (w.alloc (.cells #[a, b] T)) (.cells cs T1)
  have c0 : (w.alloc (.cells #[a, b] T)).cell? ⟨w.heap.size, 0, none⟩ = some a := World.cell?_alloc_new _ _ _ _ ▸ rfl
  have c1 : (w.alloc (.cells #[a, b] T)).cell? ⟨w.heap.size, 1, none⟩ = some b := World.cell?_alloc_new _ _ _ _ ▸ rfl
  exact ⟨h1.trans (h2.mono (by simp)), cell_below c0 h2, cell_below c1 h2, by simp⟩
theorem okR2_val {p n : Int} {f g : List Int} (b : Bool) (h : twoR p n f g = b) : okR2 p n f g = if b then 0 else 1 := by rw [okR2, h]
set_option maxHeartbeats 2000000 in
theorem checkMonic2_any (p n : Int) {o1 o2 o3 : Option Addr} {k1 k2 k3 c1 c2 c3 : Nat} {f g h : List Int} {w : World} (sf : Seen w o1 k1 c1 f) (sg : Seen w o2 k2 c2 g) (sh : Seen w o3 k3 c3 h) {b : Nat} (dg : w.cell? ⟨b, 0, none⟩ = some (.slice o2 k2 c2)) (dh : w.cell? ⟨b, 1, none⟩ = some (.slice o3 k3 c3)) (hlt : b < w.heap.size) :
    Calls Try.prog 104 #[.agg #[.int .i64 p, .int .i64 n], .slice o1 k1 c1, .slice (some ⟨b, 0, none⟩) 2 2] w (fun e w' => e = .returned (.int .i64 (lftC p n f g h)) ∧ Below w.heap.size w w') := by
  have SF := Lib.hid sf
  have SG := Lib.hid sg
  have SH := Lib.hid sh
  clear sf sg sh
  have DG := Lib.hid dg
  have DH := Lib.hid dh
  clear dg dh
  cases hf : inrB p n f
  · rw [show lftC p n f g h = 1 by simp [lftC, hf]]
    go_enter Try.func104, Try.ntmps104
    go_wp2_with (go_at_call 101; refine (hasPolyR_any p n (seen_al SF.out _)).mono ?_; rw [hf]; rintro e w1 ⟨rfl, hb1⟩; obtain ⟨hB, d0, d1⟩ := keep_first hb1)
    go_ret
    exact ⟨rfl, hB⟩
  · cases ht : twoM p g h
    · rw [show lftC p n f g h = 1 by have h5 := ht; unfold twoM at h5; simp only [lftC, hf, h5]; rfl]
      go_enter Try.func104, Try.ntmps104
      go_wp2_with (first | (go_at_call 101; refine (hasPolyR_any p n (seen_al SF.out _)).mono ?_; rw [hf]; rintro e w1 ⟨rfl, hb1⟩; obtain ⟨hB, d0, d1⟩ := keep_first hb1) | (go_at_call 95; refine (ringBy_any p _).mono ?_; rintro e w2 ⟨rfl, hb2⟩; obtain ⟨hB, d0, d1⟩ := keep_next ⟨hB, d0, d1⟩ hb2) | (go_at_call 86; refine (checkPoly2 p (seen_below SG.out hB) (cell_below DG.out hB) (seen_below SH.out hB) (cell_below DH.out hB) (by have := hB.size; omega)).mono ?_; rw [okC2_val _ ht]; simp only [if_true, if_false, Bool.false_eq_true]; rintro e w3 ⟨rfl, hb3⟩; obtain ⟨hB, d0, d1⟩ := keep_next ⟨hB, d0, d1⟩ hb3))
      go_ret
      exact ⟨rfl, hB⟩
    · cases hm : mncB f
      · rw [show lftC p n f g h = 5 by have h5 := ht; unfold twoM at h5; simp only [lftC, hf, h5, hm]; rfl]
        go_enter Try.func104, Try.ntmps104
        go_wp2_with (first | (go_at_call 101; refine (hasPolyR_any p n (seen_al SF.out _)).mono ?_; rw [hf]; rintro e w1 ⟨rfl, hb1⟩; obtain ⟨hB, d0, d1⟩ := keep_first hb1) | (go_at_call 95; refine (ringBy_any p _).mono ?_; rintro e w2 ⟨rfl, hb2⟩; obtain ⟨hB, d0, d1⟩ := keep_next ⟨hB, d0, d1⟩ hb2) | (go_at_call 86; refine (checkPoly2 p (seen_below SG.out hB) (cell_below DG.out hB) (seen_below SH.out hB) (cell_below DH.out hB) (by have := hB.size; omega)).mono ?_; rw [okC2_val _ ht]; simp only [if_true, if_false, Bool.false_eq_true]; rintro e w3 ⟨rfl, hb3⟩; obtain ⟨hB, d0, d1⟩ := keep_next ⟨hB, d0, d1⟩ hb3) | (go_at_call 87; refine (isMonicR_any (seen_below SF.out hB)).mono ?_; rw [hm]; rintro e wk ⟨rfl, rfl⟩))
        go_ret
        exact ⟨rfl, hB⟩
      · rw [show lftC p n f g h = 0 by have h5 := ht; unfold twoM at h5; simp only [lftC, hf, h5, hm]; rfl]
        go_enter Try.func104, Try.ntmps104
        go_wp2_with (first | (go_at_call 101; refine (hasPolyR_any p n (seen_al SF.out _)).mono ?_; rw [hf]; rintro e w1 ⟨rfl, hb1⟩; obtain ⟨hB, d0, d1⟩ := keep_first hb1) | (go_at_call 95; refine (ringBy_any p _).mono ?_; rintro e w2 ⟨rfl, hb2⟩; obtain ⟨hB, d0, d1⟩ := keep_next ⟨hB, d0, d1⟩ hb2) | (go_at_call 86; refine (checkPoly2 p (seen_below SG.out hB) (cell_below DG.out hB) (seen_below SH.out hB) (cell_below DH.out hB) (by have := hB.size; omega)).mono ?_; rw [okC2_val _ ht]; simp only [if_true, if_false, Bool.false_eq_true]; rintro e w3 ⟨rfl, hb3⟩; obtain ⟨hB, d0, d1⟩ := keep_next ⟨hB, d0, d1⟩ hb3) | (go_at_call 87; refine (isMonicR_any (seen_below SF.out hB)).mono ?_; rw [hm]; rintro e wk ⟨rfl, rfl⟩))
        go_ret
        exact ⟨rfl, hB⟩
set_option maxHeartbeats 2000000 in
theorem implInR_any (p n : Int) {o1 : Option Addr} {k1 c1 : Nat} {f : List Int} {w : World} (sf : Seen w o1 k1 c1 f) :
    Calls Try.prog 44 #[.agg #[.int .i64 p, .int .i64 n], .slice o1 k1 c1] w (fun e w' => e = .returned (.bool (inrB p n f)) ∧ Below w.heap.size w w') := by
  have SF := Lib.hid sf
  clear sf
  have HK := Lib.hid (hasPolyR_any p n (seen_al SF.out (.cells #[.int .i64 p, .int .i64 n] 25)))
  go_enter Try.func44, Try.ntmps44
  go_wp2_with (go_at_call 101; refine HK.out.mono ?_; rintro e w1 ⟨rfl, hb1⟩; obtain ⟨hB, d0, d1⟩ := keep_first hb1)
  go_ret
  exact ⟨rfl, hB⟩
set_option maxHeartbeats 2000000 in
theorem implMulRng_any (p n : Int) {o1 o2 : Option Addr} {k1 k2 c1 c2 : Nat} {f g : List Int} {w : World} (sf : Seen w o1 k1 c1 f) (sg : Seen w o2 k2 c2 g) :
    Calls Try.prog 36 #[.agg #[.int .i64 p, .int .i64 n], .slice o1 k1 c1, .slice o2 k2 c2] w (IntPost (mirQ p n f g) (mirC p n f g) w) := by
  have SF := Lib.hid sf
  have SG := Lib.hid sg
  clear sf sg
  have hbx := box_list w (.int .i64 p) (.int .i64 n) 25 26 #[.slice o1 k1 c1, .slice o2 k2 c2]
  have HBX := Lib.hid hbx
  have SF2 := Lib.hid (seen_below SF.out hbx.1)
  have SG2 := Lib.hid (seen_below SG.out hbx.1)
  have HCK := Lib.hid (checkPolyR2 p n (b := w.heap.size + 1) SF2.out (cell8_second w (.cells #[.int .i64 p, .int .i64 n] 25) _ _ 0) SG2.out (cell8_second w (.cells #[.int .i64 p, .int .i64 n] 25) _ _ 1) hbx.2.2.2)
  have b0 := hbx.2.1
  have b1 := hbx.2.2.1
  clear hbx
  cases hm : twoR p n f g
  · rw [show mirC p n f g = 1 by simp [mirC, hm], show mirQ p n f g = [] by simp [mirQ, mirC, hm]]
    go_enter Try.func36, Try.ntmps36
    go_wp2_with (go_at_call 86; refine HCK.out.mono ?_; rw [okR2_val _ hm]; simp only [if_true, if_false, Bool.false_eq_true]; rintro e w4 ⟨rfl, hb4⟩; obtain ⟨hB, d0, d1⟩ := keep11 (w0 := w) ⟨HBX.out.1, HBX.out.2.1, HBX.out.2.2.1⟩ hb4)
    go_ret2
    exact ⟨_, rfl, intRow_nil _ _, hB⟩
  · skip
    obtain ⟨F, G⟩ := twoR_of hm
    have e1 := SF.out.1
    have e2 := SG.out.1
    have hmf : mirC p n f g = if (prodL (ringM p n) f g).length ≤ 9 then 0 else 3 := by simp [mirC, hm]
    obtain ⟨p2, p97, hn1, hn2, m2, m9, hpm⟩ := ringM_bd F.ring
    have hl18 := prodL_le (ringM p n) f g
    have hl1 := F.len
    have hl2 := G.len
    have HMU := Lib.hid fun (W : World) (hw : Below w.heap.size w W) => productR_any (p := p) (q := n) rfl m2 m9 (seen_below SF.out hw) (seen_below SG.out hw) (mod_res9 m9 F.mod) (mod_res9 m9 G.mod) (by omega) (by omega)
    clear F G e1 e2
    by_cases hl : (prodL (ringM p n) f g).length ≤ 9
    · have hl' : ¬ (9 : Int) < ((prodL (ringM p n) f g).length : Int) := by omega
      rw [show mirC p n f g = 0 by rw [hmf, if_pos hl], show mirQ p n f g = prodL (ringM p n) f g by rw [mirQ, hmf, if_pos hl]; rfl]
      clear hmf hl hl1 hl2 hl18
      go_enter Try.func36, Try.ntmps36
      go_wp2_with (first | (go_at_call 86; refine HCK.out.mono ?_; rw [okR2_val _ hm]; simp only [if_true, if_false, Bool.false_eq_true]; rintro e w4 ⟨rfl, hb4⟩; obtain ⟨hB, d0, d1⟩ := keep11 (w0 := w) ⟨HBX.out.1, HBX.out.2.1, HBX.out.2.2.1⟩ hb4) | (go_at_call 93; refine (HMU.out _ hB).mono ?_; rintro e w5 ⟨v5, rfl, hr5, hb5⟩; obtain ⟨o5, c5, rfl⟩ := row_slice hr5))
      go_ret2
      exact ⟨_, rfl, intRow_lower hr5 hB.size, hB.trans (hb5.mono hB.size)⟩
    · have hl' : (9 : Int) < ((prodL (ringM p n) f g).length : Int) := by omega
      rw [show mirC p n f g = 3 by rw [hmf, if_neg hl], show mirQ p n f g = [] by rw [mirQ, hmf, if_neg hl]; rfl]
      clear hmf hl hl1 hl2 hl18
      go_enter Try.func36, Try.ntmps36
      go_wp2_with (first | (go_at_call 86; refine HCK.out.mono ?_; rw [okR2_val _ hm]; simp only [if_true, if_false, Bool.false_eq_true]; rintro e w4 ⟨rfl, hb4⟩; obtain ⟨hB, d0, d1⟩ := keep11 (w0 := w) ⟨HBX.out.1, HBX.out.2.1, HBX.out.2.2.1⟩ hb4) | (go_at_call 93; refine (HMU.out _ hB).mono ?_; rintro e w5 ⟨v5, rfl, hr5, hb5⟩; obtain ⟨o5, c5, rfl⟩ := row_slice hr5))
      go_ret2
      exact ⟨_, rfl, intRow_nil _ _, hB.trans (hb5.mono hB.size)⟩
set_option maxHeartbeats 2000000 in
theorem implDivRng_any (p n : Int) {o1 o2 : Option Addr} {k1 k2 c1 c2 : Nat} {f g : List Int} {w : World} (sf : Seen w o1 k1 c1 f) (sg : Seen w o2 k2 c2 g) :
    Calls Try.prog 33 #[.agg #[.int .i64 p, .int .i64 n], .slice o1 k1 c1, .slice o2 k2 c2] w (Int2P (dirQ p n f g) (dirR p n f g) (dirC p n f g) w) := by
  have SF := Lib.hid sf
  have SG := Lib.hid sg
  clear sf sg
  have hbx := box_list w (.int .i64 p) (.int .i64 n) 25 26 #[.slice o1 k1 c1, .slice o2 k2 c2]
  have HBX := Lib.hid hbx
  have SF2 := Lib.hid (seen_below SF.out hbx.1)
  have SG2 := Lib.hid (seen_below SG.out hbx.1)
  have HCK := Lib.hid (checkPolyR2 p n (b := w.heap.size + 1) SF2.out (cell8_second w (.cells #[.int .i64 p, .int .i64 n] 25) _ _ 0) SG2.out (cell8_second w (.cells #[.int .i64 p, .int .i64 n] 25) _ _ 1) hbx.2.2.2)
  have b0 := hbx.2.1
  have b1 := hbx.2.2.1
  clear hbx
  cases hm : twoR p n f g
  · rw [show dirC p n f g = 1 by simp [dirC, hm], show dirQ p n f g = [] by simp [dirQ, dirC, hm], show dirR p n f g = [] by simp [dirR, dirC, hm]]
    go_enter Try.func33, Try.ntmps33
    go_wp2_with (go_at_call 86; refine HCK.out.mono ?_; rw [okR2_val _ hm]; simp only [if_true, if_false, Bool.false_eq_true]; rintro e w4 ⟨rfl, hb4⟩; obtain ⟨hB, d0, d1⟩ := keep11 (w0 := w) ⟨HBX.out.1, HBX.out.2.1, HBX.out.2.2.1⟩ hb4)
    go_ret3
    exact ⟨_, _, rfl, intRow_nil _ _, intRow_nil _ _, hB, .inl rfl⟩
  · cases hq : mncB g
    · rw [show dirC p n f g = 5 by simp [dirC, hm, hq], show dirQ p n f g = [] by simp [dirQ, dirC, hm, hq], show dirR p n f g = [] by simp [dirR, dirC, hm, hq]]
      go_enter Try.func33, Try.ntmps33
      go_wp2_with (first | (go_at_call 86; refine HCK.out.mono ?_; rw [okR2_val _ hm]; simp only [if_true, if_false, Bool.false_eq_true]; rintro e w4 ⟨rfl, hb4⟩; obtain ⟨hB, d0, d1⟩ := keep11 (w0 := w) ⟨HBX.out.1, HBX.out.2.1, HBX.out.2.2.1⟩ hb4) | (go_at_call 87; refine (isMonicR_any (seen_below SG.out hB)).mono ?_; rw [hq]; rintro e wk ⟨rfl, rfl⟩))
      go_ret3
      exact ⟨_, _, rfl, intRow_nil _ _, intRow_nil _ _, hB, .inl rfl⟩
    · skip
      obtain ⟨F, G⟩ := twoR_of hm
      have e1 := SF.out.1
      have e2 := SG.out.1
      have hl1 := F.len
      have hl2 := G.len
      have hc0 : dirC p n f g = 0 := by simp [dirC, hm, hq]
      rw [hc0, show dirQ p n f g = quoP (ringM p n) f g by simp [dirQ, hc0], show dirR p n f g = remP (ringM p n) f g by simp [dirR, hc0]]
      obtain ⟨p2, p97, hn1, hn2, m2, m9, hpm⟩ := ringM_bd F.ring
      have HDV := Lib.hid fun (W : World) (hw : Below w.heap.size w W) => divideR_any (rp := p) (rn := n) rfl m2 m9 (seen_below SF.out hw) (seen_d (seen_below SG.out hw)) F.mod G.mod hq (by omega) (by omega)
      clear F G e1 e2 hc0
      go_enter Try.func33, Try.ntmps33
      go_wp2_with (first | (go_at_call 86; refine HCK.out.mono ?_; rw [okR2_val _ hm]; simp only [if_true, if_false, Bool.false_eq_true]; rintro e w4 ⟨rfl, hb4⟩; obtain ⟨hB, d0, d1⟩ := keep11 (w0 := w) ⟨HBX.out.1, HBX.out.2.1, HBX.out.2.2.1⟩ hb4) | (go_at_call 87; refine (isMonicR_any (seen_below SG.out hB)).mono ?_; rw [hq]; rintro e wk ⟨rfl, rfl⟩) | (go_at_call 88; refine (HDV.out _ hB).mono ?_; rintro e w5 ⟨v5, u5, rfl, hr5, hs5, hb5, hap⟩))
      go_ret3
      exact ⟨_, _, rfl, intRow_lower hr5 hB.size, intRow_lower hs5 hB.size, hB.trans (hb5.mono hB.size), hap⟩
set_option maxHeartbeats 2000000 in
theorem implImg_any (p n : Int) {o1 : Option Addr} {k1 c1 : Nat} {f : List Int} {w : World} (sf : Seen w o1 k1 c1 f) :
    Calls Try.prog 39 #[.agg #[.int .i64 p, .int .i64 n], .slice o1 k1 c1] w (IntPost (imgQ p n f) (okR p n f) w) := by
  have SF := Lib.hid sf
  clear sf
  have hbx := box_list w (.int .i64 p) (.int .i64 n) 25 26 #[.slice o1 k1 c1]
  have HBX := Lib.hid hbx
  have SF2 := Lib.hid (seen_below SF.out hbx.1)
  have HCK := Lib.hid (checkPolyR1 p n (b := w.heap.size + 1) SF2.out (cell8_second w (.cells #[.int .i64 p, .int .i64 n] 25) _ _ 0) hbx.2.2.2)
  have b0 := hbx.2.1
  have b1 := hbx.2.2.1
  clear hbx
  cases hf : inrB p n f
  · have hv : okR p n f = 1 := by simp [okR, hf]
    rw [hv, show imgQ p n f = [] by simp [imgQ, hf]]
    go_enter Try.func39, Try.ntmps39
    go_wp2_with (go_at_call 86; refine HCK.out.mono ?_; rw [hv]; rintro e w4 ⟨rfl, hb4⟩; obtain ⟨hB, d0, d1⟩ := keep11 (w0 := w) ⟨HBX.out.1, HBX.out.2.1, HBX.out.2.2.1⟩ hb4)
    go_ret2
    exact ⟨_, rfl, intRow_nil _ _, hB⟩
  · skip
    have F := inrB_of hf
    have e1 := SF.out.1
    have hl1 := F.len
    have hsm := (ringM_in F.ring).1
    have hv : okR p n f = 0 := by simp [okR, hf]
    rw [hv, show imgQ p n f = redL p f by simp [imgQ, hf]]
    have HRD := Lib.hid fun (W : World) (hw : Below w.heap.size w W) => reduced_any p hsm (seen_below SF.out hw) (by omega)
    clear F e1 hsm
    go_enter Try.func39, Try.ntmps39
    go_wp2_with (first | (go_at_call 86; refine HCK.out.mono ?_; rw [hv]; rintro e w4 ⟨rfl, hb4⟩; obtain ⟨hB, d0, d1⟩ := keep11 (w0 := w) ⟨HBX.out.1, HBX.out.2.1, HBX.out.2.2.1⟩ hb4) | (go_at_call 95; refine (ringBy_any p _).mono ?_; rintro e w2 ⟨rfl, hb2⟩; obtain ⟨hB, d0, d1⟩ := keep11 (w0 := w) ⟨hB, d0, d1⟩ hb2) | (go_at_call 96; refine (HRD.out _ hB).mono ?_; rintro e w5 ⟨v5, rfl, hr5, hb5⟩))
    go_ret2
    exact ⟨_, rfl, intRow_lower hr5 hB.size, hB.trans (hb5.mono hB.size)⟩
set_option maxHeartbeats 2000000 in
theorem implRtr_any (p n : Int) {o1 : Option Addr} {k1 c1 : Nat} {f : List Int} {w : World} (sf : Seen w o1 k1 c1 f) :
    Calls Try.prog 42 #[.agg #[.int .i64 p, .int .i64 n], .slice o1 k1 c1] w (IntPost (rtrQ p n f) (rtrC p n f) w) := by
  have SF := Lib.hid sf
  clear sf
  by_cases h0 : ringM p n = 0
  · have hr := ringB_f h0
    rw [show rtrC p n f = 1 by simp [rtrC, h0], show rtrQ p n f = [] by simp [rtrQ, rtrC, h0]]
    clear h0
    go_enter Try.func42, Try.ntmps42
    go_wp2_with (go_at_call 99; refine (implIsRing_any _ _ _).mono ?_; rw [hr]; rintro e wn ⟨rfl, hb⟩; obtain ⟨hB, d0, d1⟩ := keep_first hb)
    go_ret2
    exact ⟨_, rfl, intRow_nil _ _, hB⟩
  · have hr := ringB_t h0
    cases hp : polyB f
    · rw [show rtrC p n f = 1 by simp [rtrC, hp], show rtrQ p n f = [] by simp [rtrQ, rtrC, hp]]
      clear h0
      go_enter Try.func42, Try.ntmps42
      go_wp2_with (first | (go_at_call 99; refine (implIsRing_any _ _ _).mono ?_; rw [hr]; rintro e wn ⟨rfl, hb⟩; obtain ⟨hB, d0, d1⟩ := keep_first hb) | (go_at_call 100; refine (implIsPoly_any (seen_below SF.out hB)).mono ?_; rw [hp]; rintro e wk ⟨rfl, rfl⟩))
      go_ret2
      exact ⟨_, rfl, intRow_nil _ _, hB⟩
    · rw [show rtrC p n f = 0 by simp [rtrC, hp, h0], show rtrQ p n f = redL (ringM p n) f by simp [rtrQ, rtrC, hp, h0]]
      have e1 := SF.out.1
      have hl1 := (polyB_of hp).1
      obtain ⟨p2, p97, hn1, hn2, m2, m9, hpm⟩ := ringM_bd h0
      have HRD := Lib.hid fun (W : World) (hw : Below w.heap.size w W) => reducedR_any (p := p) (q := n) rfl m2 m9 (seen_below SF.out hw) (by omega)
      clear h0 e1
      go_enter Try.func42, Try.ntmps42
      go_wp2_with (first | (go_at_call 99; refine (implIsRing_any _ _ _).mono ?_; rw [hr]; rintro e wn ⟨rfl, hb⟩; obtain ⟨hB, d0, d1⟩ := keep_first hb) | (go_at_call 100; refine (implIsPoly_any (seen_below SF.out hB)).mono ?_; rw [hp]; rintro e wk ⟨rfl, rfl⟩) | (go_at_call 96; refine (HRD.out _ hB).mono ?_; rintro e w5 ⟨v5, rfl, hr5, hb5⟩))
      go_ret2
      exact ⟨_, rfl, intRow_lower hr5 hB.size, hB.trans (hb5.mono hB.size)⟩
set_option maxHeartbeats 2000000 in
theorem implArp_any (p n : Int) {o1 o2 o3 : Option Addr} {k1 k2 k3 c1 c2 c3 : Nat} {f g h : List Int} {w : World} (sf : Seen w o1 k1 c1 f) (sg : Seen w o2 k2 c2 g) (sh : Seen w o3 k3 c3 h) :
    Calls Try.prog 49 #[.agg #[.int .i64 p, .int .i64 n], .slice o1 k1 c1, .slice o2 k2 c2, .slice o3 k3 c3] w (fun e w' => e = .returned (.tuple #[.bool (arpB p n f g h), .int .i64 (lftC p n f g h)]) ∧ Below w.heap.size w w') := by
  have SF := Lib.hid sf
  have SG := Lib.hid sg
  have SH := Lib.hid sh
  clear sf sg sh
  have hbx := box_list w (.int .i64 p) (.int .i64 n) 25 26 #[.slice o2 k2 c2, .slice o3 k3 c3]
  have HBX := Lib.hid hbx
  have HCK := Lib.hid (checkMonic2_any p n (b := w.heap.size + 1) (seen_below SF.out hbx.1) (seen_below SG.out hbx.1) (seen_below SH.out hbx.1) (cell8_second w (.cells #[.int .i64 p, .int .i64 n] 25) _ _ 0) (cell8_second w (.cells #[.int .i64 p, .int .i64 n] 25) _ _ 1) hbx.2.2.2)
  have b0 := hbx.2.1
  have b1 := hbx.2.2.1
  clear hbx
  by_cases hc : lftC p n f g h = 0
  · rw [show arpB p n f g h = twinB p f g h by simp [arpB, hc], hc]
    obtain ⟨F, G, H', hmo⟩ := lftC_zero hc
    have hsm := (ringM_in F.ring).1
    have HPA := Lib.hid fun (W : World) (hw : Below w.heap.size w W) => isPair_any p n (seen_below SF.out hw) (seen_below SG.out hw) (seen_below SH.out hw) hsm G.mod H'.mod F.len G.len H'.len
    have HC := Lib.hid hc
    clear F G H' hmo hsm
    clear hc
    go_enter Try.func49, Try.ntmps49
    go_wp2_with (first | (go_at_call 104; refine HCK.out.mono ?_; rw [HC.out]; rintro e w4 ⟨rfl, hb4⟩; obtain ⟨hB, d0, d1⟩ := keep11 (w0 := w) ⟨HBX.out.1, HBX.out.2.1, HBX.out.2.2.1⟩ hb4) | (go_at_call 105; refine (HPA.out _ hB).mono ?_; rintro e wm ⟨rfl, hbm⟩; obtain ⟨hB, d0, d1⟩ := keep11 (w0 := w) ⟨hB, d0, d1⟩ hbm))
    go_ret2
    exact ⟨rfl, hB⟩
  · rw [show arpB p n f g h = false by simp [arpB, hc]]
    have k1' : (lftC p n f g h != 0) = true := by simp [hc]
    have k2' : (lftC p n f g h == 0) = false := by simp [hc]
    clear hc
    go_enter Try.func49, Try.ntmps49
    go_wp2_with (go_at_call 104; refine HCK.out.mono ?_; rintro e w4 ⟨rfl, hb4⟩; obtain ⟨hB, d0, d1⟩ := keep11 (w0 := w) ⟨HBX.out.1, HBX.out.2.1, HBX.out.2.2.1⟩ hb4)
    go_ret2
    exact ⟨rfl, hB⟩
set_option maxHeartbeats 2000000 in
theorem implLip_any (p n : Int) {o1 o2 o3 : Option Addr} {k1 k2 k3 c1 c2 c3 : Nat} {f g h : List Int} {w : World} (sf : Seen w o1 k1 c1 f) (sg : Seen w o2 k2 c2 g) (sh : Seen w o3 k3 c3 h) :
    Calls Try.prog 47 #[.agg #[.int .i64 p, .int .i64 n], .slice o1 k1 c1, .slice o2 k2 c2, .slice o3 k3 c3] w (Int2P (lipA p n f g h) (lipB p n f g h) (lipC p n f g h) w) := by
  have SF := Lib.hid sf
  have SG := Lib.hid sg
  have SH := Lib.hid sh
  clear sf sg sh
  have hbx := box_list w (.int .i64 p) (.int .i64 n) 25 26 #[.slice o2 k2 c2, .slice o3 k3 c3]
  have HBX := Lib.hid hbx
  have HCK := Lib.hid (checkMonic2_any p n (b := w.heap.size + 1) (seen_below SF.out hbx.1) (seen_below SG.out hbx.1) (seen_below SH.out hbx.1) (cell8_second w (.cells #[.int .i64 p, .int .i64 n] 25) _ _ 0) (cell8_second w (.cells #[.int .i64 p, .int .i64 n] 25) _ _ 1) hbx.2.2.2)
  have b0 := hbx.2.1
  have b1 := hbx.2.2.1
  clear hbx
  by_cases hc : lftC p n f g h = 0
  · skip
    obtain ⟨F, G, H', hmo⟩ := lftC_zero hc
    have hsm := (ringM_in F.ring).1
    have HPA := Lib.hid fun (W : World) (hw : Below w.heap.size w W) => isPair_any p n (seen_below SF.out hw) (seen_below SG.out hw) (seen_below SH.out hw) hsm G.mod H'.mod F.len G.len H'.len
    have HC := Lib.hid hc
    clear F G H' hmo hsm
    cases ht : twinB p f g h
    · rw [show lipA p n f g h = [] by simp [lipA, lipC, hc, ht], show lipB p n f g h = [] by simp [lipB, lipC, hc, ht], show lipC p n f g h = 5 by simp [lipC, hc, ht]]
      clear hc
      go_enter Try.func47, Try.ntmps47
      go_wp2_with (first | (go_at_call 104; refine HCK.out.mono ?_; rw [HC.out]; rintro e w4 ⟨rfl, hb4⟩; obtain ⟨hB, d0, d1⟩ := keep11 (w0 := w) ⟨HBX.out.1, HBX.out.2.1, HBX.out.2.2.1⟩ hb4) | (go_at_call 105; refine (HPA.out _ hB).mono ?_; rw [ht]; rintro e wm ⟨rfl, hbm⟩; obtain ⟨hB, d0, d1⟩ := keep11 (w0 := w) ⟨hB, d0, d1⟩ hbm))
      go_ret3
      exact ⟨_, _, rfl, intRow_nil _ _, intRow_nil _ _, hB, .inl rfl⟩
    · have HOK := Lib.hid (liftOk_of hc ht)
      rw [show lipA p n f g h = liftA p n f g h by simp [lipA, lipC, hc, ht], show lipB p n f g h = liftB p n f g h by simp [lipB, lipC, hc, ht], show lipC p n f g h = 0 by simp [lipC, hc, ht]]
      clear hc
      go_enter Try.func47, Try.ntmps47
      go_wp2_with (first | (go_at_call 104; refine HCK.out.mono ?_; rw [HC.out]; rintro e w4 ⟨rfl, hb4⟩; obtain ⟨hB, d0, d1⟩ := keep11 (w0 := w) ⟨HBX.out.1, HBX.out.2.1, HBX.out.2.2.1⟩ hb4) | (go_at_call 105; refine (HPA.out _ hB).mono ?_; rw [ht]; rintro e wm ⟨rfl, hbm⟩; obtain ⟨hB, d0, d1⟩ := keep11 (w0 := w) ⟨hB, d0, d1⟩ hbm) | (go_at_call 106; refine (liftPair_any p n (seen_below SF.out hB) (seen_below SG.out hB) (seen_below SH.out hB) HOK.out).mono ?_; rintro e w5 ⟨v5, u5, rfl, hr5, hs5, hb5, hap⟩))
      go_ret3
      exact ⟨_, _, rfl, intRow_lower hr5 hB.size, intRow_lower hs5 hB.size, hB.trans (hb5.mono hB.size), hap⟩
  · rw [show lipA p n f g h = [] by simp [lipA, lipC, hc], show lipB p n f g h = [] by simp [lipB, lipC, hc], show lipC p n f g h = lftC p n f g h by simp [lipC, hc]]
    have k1' : (lftC p n f g h != 0) = true := by simp [hc]
    have k2' : (lftC p n f g h == 0) = false := by simp [hc]
    clear hc
    go_enter Try.func47, Try.ntmps47
    go_wp2_with (go_at_call 104; refine HCK.out.mono ?_; rintro e w4 ⟨rfl, hb4⟩; obtain ⟨hB, d0, d1⟩ := keep11 (w0 := w) ⟨HBX.out.1, HBX.out.2.1, HBX.out.2.2.1⟩ hb4)
    go_ret3
    exact ⟨_, _, rfl, intRow_nil _ _, intRow_nil _ _, hB, .inl rfl⟩
end Go.Proofs.Ytbjkcoajabcibaa
