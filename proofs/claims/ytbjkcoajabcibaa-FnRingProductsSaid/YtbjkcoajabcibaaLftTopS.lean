/- Contracts of the walk: chapter 12: the exported functions, in spec. -/
import Derived.Test.YtbjkcoajabcibaaLftPairI
import Derived.Test.YtbjkcoajabcibaaLftLiftI
namespace Go.Proofs.Ytbjkcoajabcibaa
open Go.RowKit
set_option linter.unusedVariables false
set_option linter.unusedSimpArgs false
set_option maxRecDepth 20000
def mirC (p n : Int) (f g : List Int) : Int := if twoR p n f g then (if (prodL (ringM p n) f g).length ≤ 9 then 0 else 3) else 1
def mirQ (p n : Int) (f g : List Int) : List Int := if mirC p n f g = 0 then prodL (ringM p n) f g else []
def dirC (p n : Int) (f g : List Int) : Int := if twoR p n f g then (if mncB g then 0 else 5) else 1
def dirQ (p n : Int) (f g : List Int) : List Int := if dirC p n f g = 0 then quoP (ringM p n) f g else []
def dirR (p n : Int) (f g : List Int) : List Int := if dirC p n f g = 0 then remP (ringM p n) f g else []
def imgQ (p n : Int) (f : List Int) : List Int := if inrB p n f then redL p f else []
def arpB (p n : Int) (f g h : List Int) : Bool := (lftC p n f g h == 0) && twinB p f g h
def lipC (p n : Int) (f g h : List Int) : Int := if lftC p n f g h = 0 then (if twinB p f g h then 0 else 5) else lftC p n f g h
noncomputable def lipA (p n : Int) (f g h : List Int) : List Int := if lipC p n f g h = 0 then liftA p n f g h else []
noncomputable def lipB (p n : Int) (f g h : List Int) : List Int := if lipC p n f g h = 0 then liftB p n f g h else []
def rtrC (p n : Int) (f : List Int) : Int := if ringM p n ≠ 0 ∧ polyB f = true then 0 else 1
def rtrQ (p n : Int) (f : List Int) : List Int := if rtrC p n f = 0 then redL (ringM p n) f else []
theorem lftC_zero {p n : Int} {f g h : List Int} (e : lftC p n f g h = 0) : InrOk p n f ∧ ModOk p g ∧ ModOk p h ∧ mncB f = true := by
  unfold lftC at e
  split at e
  · rename_i h1
    simp only [Bool.and_eq_true] at h1
    split at e
    · exact ⟨inrB_of h1.1, modB_of h1.2.1, modB_of h1.2.2, by assumption⟩
    · omega
  · omega
theorem liftOk_of {p n : Int} {f g h : List Int} (e : lftC p n f g h = 0) (t : twinB p f g h = true) : LiftOk p n f g h := by
  obtain ⟨F, G, H, m⟩ := lftC_zero e
  exact ⟨F.ring, F.mod, m, F.len, G.mod, H.mod, twinB_of t⟩
theorem twoR_of {p n : Int} {f g : List Int} (h : twoR p n f g = true) : InrOk p n f ∧ InrOk p n g := by
  simp only [twoR, Bool.and_eq_true] at h
  exact ⟨inrB_of h.1, inrB_of h.2⟩
set_option maxHeartbeats 1000000 in
theorem l08ReduceM_any (p : Int) (p2 : 2 ≤ p) (p9 : p ≤ 1000000000) {o : Option Addr} {n c : Nat} {l : List Int} {w : World} (h : Seen w o n c l) (hn9 : n ≤ 1000) :
    Calls Try.prog 97 #[.int .i64 p, .slice o n c] w (OwnPost (redL p l) w) := by
  obtain ⟨hl, hn, hno, hnc, g, h1, h2⟩ := h
  obtain ⟨i0, hi, hz0, hz1, hz2⟩ := info_parts Try.infoInt64
  have HI := Lib.hid hi
  have HZ0 := Lib.hid hz0
  have HZ1 := Lib.hid hz1
  have HZ2 := Lib.hid hz2
  have HO := Lib.hid fun h => (h1 h).1
  have HG := Lib.hid fun h => (h1 h).2
  have HL := Lib.hid hl
  have HC := Lib.hid h2
  clear hi hz0 hz1 hz2 h1 h2 hl hno hnc
  go_enter Try.func97, Try.ntmps97
  go_wp2_with fail
  go_loopw [5, 6] (fun v d wr => ∃ k : Nat, d = .int .i64 k ∧ k ≤ n ∧ IntRow w.heap.size wr v (tabL k fun i => l.getD i 0 % p) ∧ Below w.heap.size w wr) (fun _ d _ => n - (intOf d).toNat)
  case atStart => exact ⟨0, rfl, Nat.zero_le _, intRow_made _, (Below.refl _ _).alloc (Nat.le_refl _) _⟩
  case round =>
    obtain ⟨k, rfl, hk, hrow, hb⟩ := hrel
    have bl : (tabL k fun i => l.getD i 0 % p).length ≤ 1000000 := by rw [tabL_length]; omega
    have bs := hb.size
    have HW := Lib.hid hrow
    have HB := Lib.hid hb
    clear hrow hb
    by_cases hlt : k < n
    · have hog := HO.out (by omega)
      subst hog
      have a2 := HC.out k hlt
      rw [← HB.out.cell (p := ⟨g, k, none⟩) (HG.out (by omega))] at a2
      have HS := Lib.hid (show (tabL (k + 1) fun i => l.getD i 0 % p) = (tabL k fun i => l.getD i 0 % p) ++ [l.getD k 0 % p] from tabL_succ _ _)
      generalize l.getD k 0 = z at *
      generalize (tabL k fun i => l.getD i 0 % p) = acc at *
      go_wp2_with fail
      refine (mod8_any z p wr p2 p9).mono ?_
      rintro e w2 ⟨rfl, rfl⟩
      go_wp2_with (at_builtin; refine wpList_append_own _ rfl (.tmp 14) (.tmp 21) 26 rfl w.heap.size 2 i0 (.int .i64 0) 1 8 Try.underlying26 HI.out HZ0.out HZ1.out HZ2.out rfl (by decide) _ _ _ rfl (HW.out.alloc _) ⟨wr.heap.size, 0, none⟩ 1 1 [.int .i64 (z % p)] rfl rfl ?c1 ?c2 ?c3 ?c4 ?c5 ?_)
      try (case c1 => first | exact news_one _ _ _ | simp [Addr.add])
      try (case c2 => first | exact one_one _ | rfl)
      case c3 => unfold maxLen; omega
      case c4 => omega
      case c5 => first | omega | (simp; omega)
      intro v' w1 hown hgrow _
      have HO2 := Lib.hid (intRow_snoc hown)
      have HG2 := Lib.hid (below_appendI HB.out HW.out hgrow)
      clear hown hgrow
      go_wp2_with fail
      go_roundw
      case rel => exact ⟨k + 1, by first | rfl | go_num, by omega, by rw [HS.out]; exact HO2.out, HG2.out⟩
      case measure => simp [intOf]; omega
    · have hkn : k = l.length := by have := HL.out; omega
      have HT := Lib.hid (show trimL (tabL k fun i => l.getD i 0 % p) = redL p l by rw [hkn]; rfl)
      obtain ⟨o2, c2, rfl, HS2⟩ := seen_row HW.out (by omega)
      have hsz : HS2 = HS2 := rfl
      generalize (tabL k fun i => l.getD i 0 % p) = acc at *
      clear hkn hsz
      go_wp2_with fail
      refine (specTrim_any HS2).mono ?_
      rintro e w2 ⟨v, rfl, hr, hb⟩
      have HR := Lib.hid (intRow_lower hr HB.out.size)
      have HB2 := Lib.hid (HB.out.trans (hb.mono HB.out.size))
      clear hr hb
      go_wp2_with fail
      go_ret
      rw [← HT.out]
      exact ⟨_, rfl, HR.out, HB2.out⟩
set_option maxHeartbeats 2000000 in
theorem specMulRng_any (p n : Int) {o1 o2 : Option Addr} {k1 k2 c1 c2 : Nat} {f g : List Int} {w : World} (sf : Seen w o1 k1 c1 f) (sg : Seen w o2 k2 c2 g) :
    Calls Try.prog 37 #[.agg #[.int .i64 p, .int .i64 n], .slice o1 k1 c1, .slice o2 k2 c2] w (IntPost (mirQ p n f g) (mirC p n f g) w) := by
  have SF := Lib.hid sf
  have SG := Lib.hid sg
  clear sf sg
  cases hf : inrB p n f
  · rw [show mirC p n f g = 1 by simp [mirC, twoR, hf], show mirQ p n f g = [] by simp [mirQ, mirC, twoR, hf]]
    go_enter Try.func37, Try.ntmps37
    go_wp2_with (go_at_call 45; with_reducible refine (specInR_any p n (seen_al SF.out _)).mono ?_; rw [hf]; rintro e wn ⟨rfl, hb⟩; obtain ⟨hB, d0, d1⟩ := keep_first hb)
    go_ret2
    exact ⟨_, rfl, intRow_nil _ _, hB⟩
  · cases hg : inrB p n g
    · rw [show mirC p n f g = 1 by simp [mirC, twoR, hg], show mirQ p n f g = [] by simp [mirQ, mirC, twoR, hg]]
      go_enter Try.func37, Try.ntmps37
      go_wp2_with (first | (go_at_call 45; with_reducible refine (specInR_any p n (seen_al SF.out _)).mono ?_; rw [hf]; rintro e wn ⟨rfl, hb⟩; obtain ⟨hB, d0, d1⟩ := keep_first hb) | (go_at_call 45; with_reducible refine (specInR_any p n (seen_below SG.out hB)).mono ?_; rw [hg]; rintro e wm ⟨rfl, hbm⟩; obtain ⟨hB, d0, d1⟩ := keep_next ⟨hB, d0, d1⟩ hbm))
      go_ret2
      exact ⟨_, rfl, intRow_nil _ _, hB⟩
    · skip
      have F := inrB_of hf
      have G := inrB_of hg
      have e1 := SF.out.1
      have e2 := SG.out.1
      have hmf : mirC p n f g = if (prodL (ringM p n) f g).length ≤ 9 then 0 else 3 := by simp [mirC, twoR, hf, hg]
      obtain ⟨p2, p97, hn1, hn2, m2, m9, hpm⟩ := ringM_bd F.ring
      have H := Lib.hid (And.intro (ringM_in F.ring).1 (And.intro hn1 (show n ≤ 1000 by omega)))
      have hl18 := prodL_le (ringM p n) f g
      have hl1 := F.len
      have hl2 := G.len
      have HMU := Lib.hid fun (W : World) (hw : Below w.heap.size w W) => l12Mul_any (ringM p n) m2 m9 (seen_below SF.out hw) (seen_below SG.out hw) (mod_res9 m9 F.mod) (mod_res9 m9 G.mod) (by omega) (by omega)
      clear F G e1 e2
      by_cases hl : (prodL (ringM p n) f g).length ≤ 9
      · have hl' : ¬ (9 : Int) < ((prodL (ringM p n) f g).length : Int) := by omega
        rw [show mirC p n f g = 0 by rw [hmf, if_pos hl], show mirQ p n f g = prodL (ringM p n) f g by rw [mirQ, hmf, if_pos hl]; rfl]
        clear hmf hl hl1 hl2 hl18
        go_enter Try.func37, Try.ntmps37
        go_wp2_with (first | (go_at_call 45; with_reducible refine (specInR_any p n (seen_al SF.out _)).mono ?_; rw [hf]; rintro e wn ⟨rfl, hb⟩; obtain ⟨hB, d0, d1⟩ := keep_first hb) | (go_at_call 45; with_reducible refine (specInR_any p n (seen_below SG.out hB)).mono ?_; rw [hg]; rintro e wm ⟨rfl, hbm⟩; obtain ⟨hB, d0, d1⟩ := keep_next ⟨hB, d0, d1⟩ hbm) | (go_at_call 70; refine (l02Modulus_any _ _ _ H.out.1 H.out.2.1 H.out.2.2).mono ?_; rintro e wk ⟨rfl, rfl⟩) | (go_at_call 94; refine (HMU.out _ hB).mono ?_; rintro e w5 ⟨v5, rfl, hr5, hb5⟩; obtain ⟨o5, c5, rfl⟩ := row_slice hr5))
        go_ret2
        exact ⟨_, rfl, intRow_lower hr5 hB.size, hB.trans (hb5.mono hB.size)⟩
      · have hl' : (9 : Int) < ((prodL (ringM p n) f g).length : Int) := by omega
        rw [show mirC p n f g = 3 by rw [hmf, if_neg hl], show mirQ p n f g = [] by rw [mirQ, hmf, if_neg hl]; rfl]
        clear hmf hl hl1 hl2 hl18
        go_enter Try.func37, Try.ntmps37
        go_wp2_with (first | (go_at_call 45; with_reducible refine (specInR_any p n (seen_al SF.out _)).mono ?_; rw [hf]; rintro e wn ⟨rfl, hb⟩; obtain ⟨hB, d0, d1⟩ := keep_first hb) | (go_at_call 45; with_reducible refine (specInR_any p n (seen_below SG.out hB)).mono ?_; rw [hg]; rintro e wm ⟨rfl, hbm⟩; obtain ⟨hB, d0, d1⟩ := keep_next ⟨hB, d0, d1⟩ hbm) | (go_at_call 70; refine (l02Modulus_any _ _ _ H.out.1 H.out.2.1 H.out.2.2).mono ?_; rintro e wk ⟨rfl, rfl⟩) | (go_at_call 94; refine (HMU.out _ hB).mono ?_; rintro e w5 ⟨v5, rfl, hr5, hb5⟩; obtain ⟨o5, c5, rfl⟩ := row_slice hr5))
        go_ret2
        exact ⟨_, rfl, intRow_nil _ _, hB.trans (hb5.mono hB.size)⟩
set_option maxHeartbeats 2000000 in
theorem specDivRng_any (p n : Int) {o1 o2 : Option Addr} {k1 k2 c1 c2 : Nat} {f g : List Int} {w : World} (sf : Seen w o1 k1 c1 f) (sg : Seen w o2 k2 c2 g) :
    Calls Try.prog 34 #[.agg #[.int .i64 p, .int .i64 n], .slice o1 k1 c1, .slice o2 k2 c2] w (Int2P (dirQ p n f g) (dirR p n f g) (dirC p n f g) w) := by
  have SF := Lib.hid sf
  have SG := Lib.hid sg
  clear sf sg
  cases hf : inrB p n f
  · rw [show dirC p n f g = 1 by simp [dirC, twoR, hf], show dirQ p n f g = [] by simp [dirQ, dirC, twoR, hf], show dirR p n f g = [] by simp [dirR, dirC, twoR, hf]]
    go_enter Try.func34, Try.ntmps34
    go_wp2_with (go_at_call 45; with_reducible refine (specInR_any p n (seen_al SF.out _)).mono ?_; rw [hf]; rintro e wn ⟨rfl, hb⟩; obtain ⟨hB, d0, d1⟩ := keep_first hb)
    go_ret3
    exact ⟨_, _, rfl, intRow_nil _ _, intRow_nil _ _, hB, .inl rfl⟩
  · cases hg : inrB p n g
    · rw [show dirC p n f g = 1 by simp [dirC, twoR, hg], show dirQ p n f g = [] by simp [dirQ, dirC, twoR, hg], show dirR p n f g = [] by simp [dirR, dirC, twoR, hg]]
      go_enter Try.func34, Try.ntmps34
      go_wp2_with (first | (go_at_call 45; with_reducible refine (specInR_any p n (seen_al SF.out _)).mono ?_; rw [hf]; rintro e wn ⟨rfl, hb⟩; obtain ⟨hB, d0, d1⟩ := keep_first hb) | (go_at_call 45; with_reducible refine (specInR_any p n (seen_below SG.out hB)).mono ?_; rw [hg]; rintro e wm ⟨rfl, hbm⟩; obtain ⟨hB, d0, d1⟩ := keep_next ⟨hB, d0, d1⟩ hbm))
      go_ret3
      exact ⟨_, _, rfl, intRow_nil _ _, intRow_nil _ _, hB, .inl rfl⟩
    · cases hm : mncB g
      · rw [show dirC p n f g = 5 by simp [dirC, twoR, hf, hg, hm], show dirQ p n f g = [] by simp [dirQ, dirC, twoR, hf, hg, hm], show dirR p n f g = [] by simp [dirR, dirC, twoR, hf, hg, hm]]
        go_enter Try.func34, Try.ntmps34
        go_wp2_with (first | (go_at_call 45; with_reducible refine (specInR_any p n (seen_al SF.out _)).mono ?_; rw [hf]; rintro e wn ⟨rfl, hb⟩; obtain ⟨hB, d0, d1⟩ := keep_first hb) | (go_at_call 45; with_reducible refine (specInR_any p n (seen_below SG.out hB)).mono ?_; rw [hg]; rintro e wm ⟨rfl, hbm⟩; obtain ⟨hB, d0, d1⟩ := keep_next ⟨hB, d0, d1⟩ hbm) | (go_at_call 89; refine (l12Monic_any (seen_below SG.out hB)).mono ?_; rw [hm]; rintro e wk ⟨rfl, rfl⟩))
        go_ret3
        exact ⟨_, _, rfl, intRow_nil _ _, intRow_nil _ _, hB, .inl rfl⟩
      · skip
        have F := inrB_of hf
        have G := inrB_of hg
        have e1 := SF.out.1
        have e2 := SG.out.1
        have hl1 := F.len
        have hl2 := G.len
        have hc0 : dirC p n f g = 0 := by simp [dirC, twoR, hf, hg, hm]
        rw [hc0, show dirQ p n f g = quoP (ringM p n) f g by simp [dirQ, hc0], show dirR p n f g = remP (ringM p n) f g by simp [dirR, hc0]]
        obtain ⟨p2, p97, hn1, hn2, m2, m9, hpm⟩ := ringM_bd F.ring
        have H := Lib.hid (And.intro (ringM_in F.ring).1 (And.intro hn1 (show n ≤ 1000 by omega)))
        have HDV := Lib.hid fun (W : World) (hw : Below w.heap.size w W) => l12Div_any (ringM p n) m2 m9 (seen_below SF.out hw) (seen_below SG.out hw) F.mod G.mod hm (by omega) (by omega)
        clear F G e1 e2 hc0
        go_enter Try.func34, Try.ntmps34
        go_wp2_with (first | (go_at_call 45; with_reducible refine (specInR_any p n (seen_al SF.out _)).mono ?_; rw [hf]; rintro e wn ⟨rfl, hb⟩; obtain ⟨hB, d0, d1⟩ := keep_first hb) | (go_at_call 45; with_reducible refine (specInR_any p n (seen_below SG.out hB)).mono ?_; rw [hg]; rintro e wm ⟨rfl, hbm⟩; obtain ⟨hB, d0, d1⟩ := keep_next ⟨hB, d0, d1⟩ hbm) | (go_at_call 89; refine (l12Monic_any (seen_below SG.out hB)).mono ?_; rw [hm]; rintro e wk ⟨rfl, rfl⟩) | (go_at_call 70; refine (l02Modulus_any _ _ _ H.out.1 H.out.2.1 H.out.2.2).mono ?_; rintro e wk ⟨rfl, rfl⟩) | (go_at_call 90; refine (HDV.out _ hB).mono ?_; rintro e w5 ⟨v5, u5, rfl, hr5, hs5, hb5, hap⟩))
        go_ret3
        exact ⟨_, _, rfl, intRow_lower hr5 hB.size, intRow_lower hs5 hB.size, hB.trans (hb5.mono hB.size), hap⟩
set_option maxHeartbeats 2000000 in
theorem specImg_any (p n : Int) {o1 : Option Addr} {k1 c1 : Nat} {f : List Int} {w : World} (sf : Seen w o1 k1 c1 f) :
    Calls Try.prog 40 #[.agg #[.int .i64 p, .int .i64 n], .slice o1 k1 c1] w (IntPost (imgQ p n f) (okR p n f) w) := by
  have SF := Lib.hid sf
  clear sf
  cases hf : inrB p n f
  · rw [show okR p n f = 1 by simp [okR, hf], show imgQ p n f = [] by simp [imgQ, hf]]
    go_enter Try.func40, Try.ntmps40
    go_wp2_with (go_at_call 45; with_reducible refine (specInR_any p n (seen_al SF.out _)).mono ?_; rw [hf]; rintro e wn ⟨rfl, hb⟩; obtain ⟨hB, d0, d1⟩ := keep_first hb)
    go_ret2
    exact ⟨_, rfl, intRow_nil _ _, hB⟩
  · skip
    have F := inrB_of hf
    have e1 := SF.out.1
    have hl1 := F.len
    rw [show okR p n f = 0 by simp [okR, hf], show imgQ p n f = redL p f by simp [imgQ, hf]]
    obtain ⟨p2, p97, _⟩ := ringM_bd F.ring
    have HRD := Lib.hid fun (W : World) (hw : Below w.heap.size w W) => l08Reduce_any p p2 p97 (seen_below SF.out hw) (by omega)
    clear F e1
    go_enter Try.func40, Try.ntmps40
    go_wp2_with (first | (go_at_call 45; with_reducible refine (specInR_any p n (seen_al SF.out _)).mono ?_; rw [hf]; rintro e wn ⟨rfl, hb⟩; obtain ⟨hB, d0, d1⟩ := keep_first hb) | (go_at_call 97; refine (HRD.out _ hB).mono ?_; rintro e w5 ⟨v5, rfl, hr5, hb5⟩))
    go_ret2
    exact ⟨_, rfl, intRow_lower hr5 hB.size, hB.trans (hb5.mono hB.size)⟩
set_option maxHeartbeats 2000000 in
theorem specRtr_any (p n : Int) {o1 : Option Addr} {k1 c1 : Nat} {f : List Int} {w : World} (sf : Seen w o1 k1 c1 f) :
    Calls Try.prog 43 #[.agg #[.int .i64 p, .int .i64 n], .slice o1 k1 c1] w (IntPost (rtrQ p n f) (rtrC p n f) w) := by
  have SF := Lib.hid sf
  clear sf
  by_cases h0 : ringM p n = 0
  · have hr := ringB_f h0
    rw [show rtrC p n f = 1 by simp [rtrC, h0], show rtrQ p n f = [] by simp [rtrQ, rtrC, h0]]
    clear h0
    go_enter Try.func43, Try.ntmps43
    go_wp2_with (go_at_call 66; refine (specIsRing_any _ _ _).mono ?_; rw [hr]; rintro e wn ⟨rfl, hb⟩; obtain ⟨hB, d0, d1⟩ := keep_first hb)
    go_ret2
    exact ⟨_, rfl, intRow_nil _ _, hB⟩
  · have hr := ringB_t h0
    cases hp : polyB f
    · rw [show rtrC p n f = 1 by simp [rtrC, hp], show rtrQ p n f = [] by simp [rtrQ, rtrC, hp]]
      clear h0
      go_enter Try.func43, Try.ntmps43
      go_wp2_with (first | (go_at_call 66; refine (specIsRing_any _ _ _).mono ?_; rw [hr]; rintro e wn ⟨rfl, hb⟩; obtain ⟨hB, d0, d1⟩ := keep_first hb) | (go_at_call 67; refine (specIsPoly_any (seen_below SF.out hB)).mono ?_; rw [hp]; rintro e wk ⟨rfl, rfl⟩))
      go_ret2
      exact ⟨_, rfl, intRow_nil _ _, hB⟩
    · rw [show rtrC p n f = 0 by simp [rtrC, hp, h0], show rtrQ p n f = redL (ringM p n) f by simp [rtrQ, rtrC, hp, h0]]
      have e1 := SF.out.1
      have hl1 := (polyB_of hp).1
      obtain ⟨p2, p97, hn1, hn2, m2, m9, hpm⟩ := ringM_bd h0
      have H := Lib.hid (And.intro (ringM_in h0).1 (And.intro hn1 (show n ≤ 1000 by omega)))
      have HRD := Lib.hid fun (W : World) (hw : Below w.heap.size w W) => l08ReduceM_any (ringM p n) m2 m9 (seen_below SF.out hw) (by omega)
      clear h0 e1
      go_enter Try.func43, Try.ntmps43
      go_wp2_with (first | (go_at_call 66; refine (specIsRing_any _ _ _).mono ?_; rw [hr]; rintro e wn ⟨rfl, hb⟩; obtain ⟨hB, d0, d1⟩ := keep_first hb) | (go_at_call 67; refine (specIsPoly_any (seen_below SF.out hB)).mono ?_; rw [hp]; rintro e wk ⟨rfl, rfl⟩) | (go_at_call 70; refine (l02Modulus_any _ _ _ H.out.1 H.out.2.1 H.out.2.2).mono ?_; rintro e wk ⟨rfl, rfl⟩) | (go_at_call 97; refine (HRD.out _ hB).mono ?_; rintro e w5 ⟨v5, rfl, hr5, hb5⟩))
      go_ret2
      exact ⟨_, rfl, intRow_lower hr5 hB.size, hB.trans (hb5.mono hB.size)⟩
set_option maxHeartbeats 2000000 in
theorem specArp_any (p n : Int) {o1 o2 o3 : Option Addr} {k1 k2 k3 c1 c2 c3 : Nat} {f g h : List Int} {w : World} (sf : Seen w o1 k1 c1 f) (sg : Seen w o2 k2 c2 g) (sh : Seen w o3 k3 c3 h) :
    Calls Try.prog 50 #[.agg #[.int .i64 p, .int .i64 n], .slice o1 k1 c1, .slice o2 k2 c2, .slice o3 k3 c3] w (fun e w' => e = .returned (.tuple #[.bool (arpB p n f g h), .int .i64 (lftC p n f g h)]) ∧ Below w.heap.size w w') := by
  have SF := Lib.hid sf
  have SG := Lib.hid sg
  have SH := Lib.hid sh
  clear sf sg sh
  by_cases hc : lftC p n f g h = 0
  · rw [show arpB p n f g h = twinB p f g h by simp [arpB, hc], hc]
    obtain ⟨F, G, H', hmo⟩ := lftC_zero hc
    have hsm := (ringM_in F.ring).1
    have HPA := Lib.hid fun (W : World) (hw : Below w.heap.size w W) => l12Pair_any p n (seen_below SF.out hw) (seen_below SG.out hw) (seen_below SH.out hw) hsm G.mod H'.mod F.len G.len H'.len
    have HC := Lib.hid hc
    clear F G H' hmo hsm
    clear hc
    go_enter Try.func50, Try.ntmps50
    go_wp2_with (first | (go_at_call 107; refine (l12Code_any p n (seen_al SF.out _) (seen_al SG.out _) (seen_al SH.out _)).mono ?_; rw [HC.out]; rintro e wn ⟨rfl, hb⟩; obtain ⟨hB, d0, d1⟩ := keep_first hb) | (go_at_call 108; refine (HPA.out _ hB).mono ?_; rintro e wm ⟨rfl, hbm⟩; obtain ⟨hB, d0, d1⟩ := keep_next ⟨hB, d0, d1⟩ hbm))
    go_ret2
    exact ⟨rfl, hB⟩
  · rw [show arpB p n f g h = false by simp [arpB, hc]]
    have k1' : (lftC p n f g h != 0) = true := by simp [hc]
    have k2' : (lftC p n f g h == 0) = false := by simp [hc]
    clear hc
    go_enter Try.func50, Try.ntmps50
    go_wp2_with (go_at_call 107; refine (l12Code_any p n (seen_al SF.out _) (seen_al SG.out _) (seen_al SH.out _)).mono ?_; rintro e wn ⟨rfl, hb⟩; obtain ⟨hB, d0, d1⟩ := keep_first hb)
    go_ret2
    exact ⟨rfl, hB⟩
set_option maxHeartbeats 2000000 in
theorem specLip_any (p n : Int) {o1 o2 o3 : Option Addr} {k1 k2 k3 c1 c2 c3 : Nat} {f g h : List Int} {w : World} (sf : Seen w o1 k1 c1 f) (sg : Seen w o2 k2 c2 g) (sh : Seen w o3 k3 c3 h) :
    Calls Try.prog 48 #[.agg #[.int .i64 p, .int .i64 n], .slice o1 k1 c1, .slice o2 k2 c2, .slice o3 k3 c3] w (Int2P (lipA p n f g h) (lipB p n f g h) (lipC p n f g h) w) := by
  have SF := Lib.hid sf
  have SG := Lib.hid sg
  have SH := Lib.hid sh
  clear sf sg sh
  by_cases hc : lftC p n f g h = 0
  · skip
    obtain ⟨F, G, H', hmo⟩ := lftC_zero hc
    have hsm := (ringM_in F.ring).1
    have HPA := Lib.hid fun (W : World) (hw : Below w.heap.size w W) => l12Pair_any p n (seen_below SF.out hw) (seen_below SG.out hw) (seen_below SH.out hw) hsm G.mod H'.mod F.len G.len H'.len
    have HC := Lib.hid hc
    clear F G H' hmo hsm
    cases ht : twinB p f g h
    · rw [show lipA p n f g h = [] by simp [lipA, lipC, hc, ht], show lipB p n f g h = [] by simp [lipB, lipC, hc, ht], show lipC p n f g h = 5 by simp [lipC, hc, ht]]
      clear hc
      go_enter Try.func48, Try.ntmps48
      go_wp2_with (first | (go_at_call 107; refine (l12Code_any p n (seen_al SF.out _) (seen_al SG.out _) (seen_al SH.out _)).mono ?_; rw [HC.out]; rintro e wn ⟨rfl, hb⟩; obtain ⟨hB, d0, d1⟩ := keep_first hb) | (go_at_call 108; refine (HPA.out _ hB).mono ?_; rw [ht]; rintro e wm ⟨rfl, hbm⟩; obtain ⟨hB, d0, d1⟩ := keep_next ⟨hB, d0, d1⟩ hbm))
      go_ret3
      exact ⟨_, _, rfl, intRow_nil _ _, intRow_nil _ _, hB, .inl rfl⟩
    · have HOK := Lib.hid (liftOk_of hc ht)
      rw [show lipA p n f g h = liftA p n f g h by simp [lipA, lipC, hc, ht], show lipB p n f g h = liftB p n f g h by simp [lipB, lipC, hc, ht], show lipC p n f g h = 0 by simp [lipC, hc, ht]]
      clear hc
      go_enter Try.func48, Try.ntmps48
      go_wp2_with (first | (go_at_call 107; refine (l12Code_any p n (seen_al SF.out _) (seen_al SG.out _) (seen_al SH.out _)).mono ?_; rw [HC.out]; rintro e wn ⟨rfl, hb⟩; obtain ⟨hB, d0, d1⟩ := keep_first hb) | (go_at_call 108; refine (HPA.out _ hB).mono ?_; rw [ht]; rintro e wm ⟨rfl, hbm⟩; obtain ⟨hB, d0, d1⟩ := keep_next ⟨hB, d0, d1⟩ hbm) | (go_at_call 109; refine (l12Lift_any p n (seen_below SF.out hB) (seen_below SG.out hB) (seen_below SH.out hB) HOK.out).mono ?_; rintro e w5 ⟨v5, u5, rfl, hr5, hs5, hb5, hap⟩))
      go_ret3
      exact ⟨_, _, rfl, intRow_lower hr5 hB.size, intRow_lower hs5 hB.size, hB.trans (hb5.mono hB.size), hap⟩
  · rw [show lipA p n f g h = [] by simp [lipA, lipC, hc], show lipB p n f g h = [] by simp [lipB, lipC, hc], show lipC p n f g h = lftC p n f g h by simp [lipC, hc]]
    have k1' : (lftC p n f g h != 0) = true := by simp [hc]
    have k2' : (lftC p n f g h == 0) = false := by simp [hc]
    clear hc
    go_enter Try.func48, Try.ntmps48
    go_wp2_with (go_at_call 107; refine (l12Code_any p n (seen_al SF.out _) (seen_al SG.out _) (seen_al SH.out _)).mono ?_; rintro e wn ⟨rfl, hb⟩; obtain ⟨hB, d0, d1⟩ := keep_first hb)
    go_ret3
    exact ⟨_, _, rfl, intRow_nil _ _, intRow_nil _ _, hB, .inl rfl⟩
end Go.Proofs.Ytbjkcoajabcibaa
