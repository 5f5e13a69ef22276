/- Contracts of the walk: both ReadRational answer the number of which a string is the text, or that there is none; the walk of the law FnExactReadRational. -/
import Derived.Test.YtghhjeebcpcepaaDoorRatTxt0
import Derived.Deep.DeepCutAuto
namespace Go.Proofs.YtghhjeebcpcepaaDoor
open Go.RowKit Go.Shelf
set_option linter.unusedVariables false
set_option linter.unusedSimpArgs false
set_option maxRecDepth 20000
theorem strR_eq {a b : ByteArray} (h : a = b) : (a.toList == b.toList) = true := by rw [bs_beq]; simpa using h
theorem rimpl_reads {s : ByteArray} {q : Int × Int} (h : IsRText s q) : rdQ 47 s = some q := by
  obtain ⟨hk, rfl⟩ := h
  obtain ⟨n0, n1, d0, d1, g⟩ := isRat_of hk
  have e : (bsOf (ratL q.1 q.2)).data.toList = ratL q.1 q.2 := by simp [bsOf]
  unfold rdQ
  rw [e, rat_cut]
  by_cases h1 : q.2 = 1
  · rw [if_pos h1]
    simp only [pI_itoaV n0 n1]
    rw [if_neg (by simp), ← h1]
  · rw [if_neg h1]
    simp only [pI_itoaV n0 n1, pI_itoaV (show -1000000000000 ≤ q.2 by omega) d1]
    simp
theorem rr_no {s : ByteArray} {w w' : World} (h : ¬ ∃ q, IsRText s q) (hb : Below w.heap.size w w') : RReadPost s w (.returned (.tuple #[.agg (P2 0 0), .int .i64 6])) w' :=
  ⟨(0, 0), 6, rfl, hb, .inr ⟨rfl, rfl, h⟩⟩
theorem rr_yes {s : ByteArray} {w w' : World} {a b : Int} (h : IsRText s (a, b)) (hb : Below w.heap.size w w') : RReadPost s w (.returned (.tuple #[.agg (P2 a b), .int .i64 0])) w' :=
  ⟨(a, b), 0, rfl, hb, .inl ⟨rfl, h⟩⟩
theorem rread_none {s : ByteArray} (h : rdQ 47 s = none) : ¬ ∃ q, IsRText s q := by
  rintro ⟨q, hq⟩
  rw [rimpl_reads hq] at h; cases h
theorem rread_bad {s : ByteArray} {a b : Int} (h : ∀ q, IsRText s q → q = (a, b)) (hx : isRatB a b = false) : ¬ ∃ q, IsRText s q := by
  rintro ⟨q, hq⟩
  have e := h q hq
  subst e
  rw [hq.1] at hx; cases hx
theorem rread_ne {s : ByteArray} {a b : Int} (h : ∀ q, IsRText s q → q = (a, b)) (hx : ¬ bsOf (ratL a b) = s) : ¬ ∃ q, IsRText s q := by
  rintro ⟨q, hq⟩
  have e := h q hq
  subst e
  exact hx hq.2
set_option maxHeartbeats 1000000 in
theorem implRRead_any (s : ByteArray) (w : World) (hs : s.size ≤ 2000000) (he : Env w) (ht : Tab w) :
    Calls Tryd.prog 21 #[.string s] w (RReadPost s w) := by
  have HE := Lib.hid (env_below he (below_a1 w (.cells (P2 0 0) 33)) (Nat.le_refl _))
  have HT := Lib.hid ht
  have HS := Lib.hid hs
  clear he ht hs
  go_enter Tryd.func21, Tryd.ntmps21
  go_wp2_with fail
  refine (readPair_any 47 s _ HS.out HE.out).mono ?_
  rintro e w1 ⟨hb, (⟨a, b, hr, rfl⟩ | ⟨hr, rfl⟩)⟩
  · have K := k1_first hb
    have HR := Lib.hid fun q (h : IsRText s q) => (Option.some.inj ((rimpl_reads h).symm.trans hr))
    clear hr
    go_upto_region 3 with fail
    have X := lies_new w1 (P2 a b) 33
    replace K := k1_next K (below_a1 w1 (.cells (P2 a b) 33))
    generalize w1.alloc (.cells (P2 a b) 33) = V at K X ⊢
    obtain ⟨bx, hbx⟩ : ∃ b, w1.heap.size = b := ⟨_, rfl⟩
    rw [hbx] at X ⊢
    clear hbx hb
    obtain ⟨c0, c1⟩ := lies_pair X
    obtain ⟨d0, d1⟩ := lies_pair K.2
    have df0 := lies_frozen K.2 0
    have df1 := lies_frozen K.2 1
    cases hx : isRatB a b
    · have HN := Lib.hid (rread_bad HR.out hx)
      go_wp2_with (go_at_call 45; refine (ratValid_any _ _ _).mono ?_; rw [hx]; rintro e wn ⟨rfl, hb⟩; replace K := k1_next K hb; replace X := lies_next X hb; obtain ⟨c0, c1⟩ := lies_pair X; obtain ⟨d0, d1⟩ := lies_pair K.2; have df0 := lies_frozen K.2 0; have df1 := lies_frozen K.2 1)
      refine bodyPost_ret (v := .tuple #[.agg (P2 0 0), .int .i64 6]) (by simp [results, Tryd.results21, go_sem, d0, d1]) rfl ?_
      exact rr_no HN.out (below_set2 K.1 (Nat.le_refl _))
    · have HX := Lib.hid fun (w : World) (h : Tab w) => implRText_val a b w hx h
      have HK := Lib.hid hx
      by_cases hq : bsOf (ratL a b) = s
      · have HY := Lib.hid (show IsRText s (a, b) from ⟨hx, hq⟩)
        have hq' := strR_eq hq
        clear hq
        generalize bsOf (ratL a b) = t at *
        go_wp2_with (first | (go_at_call 45; refine (ratValid_any _ _ _).mono ?_; rw [hx]; rintro e wn ⟨rfl, hb⟩; replace K := k1_next K hb; replace X := lies_next X hb; obtain ⟨c0, c1⟩ := lies_pair X; obtain ⟨d0, d1⟩ := lies_pair K.2; have df0 := lies_frozen K.2 0; have df1 := lies_frozen K.2 1; have T := tab_below HT.out K.1 (Nat.le_refl _)) | (go_at_call 46; refine (HX.out _ T).mono ?_; rintro e wn ⟨rfl, hb⟩; replace K := k1_next K hb; replace X := lies_next X hb; obtain ⟨c0, c1⟩ := lies_pair X; obtain ⟨d0, d1⟩ := lies_pair K.2; have df0 := lies_frozen K.2 0; have df1 := lies_frozen K.2 1))
        refine bodyPost_ret (v := .tuple #[.agg (P2 a b), .int .i64 0]) (by simp [results, Tryd.results21, go_sem, d0, d1]) rfl ?_
        exact rr_yes HY.out (below_set2 K.1 (Nat.le_refl _))
      · have HN := Lib.hid (rread_ne HR.out hq)
        have hq' := str_ne hq
        clear hq
        generalize bsOf (ratL a b) = t at *
        go_wp2_with (first | (go_at_call 45; refine (ratValid_any _ _ _).mono ?_; rw [hx]; rintro e wn ⟨rfl, hb⟩; replace K := k1_next K hb; replace X := lies_next X hb; obtain ⟨c0, c1⟩ := lies_pair X; obtain ⟨d0, d1⟩ := lies_pair K.2; have df0 := lies_frozen K.2 0; have df1 := lies_frozen K.2 1; have T := tab_below HT.out K.1 (Nat.le_refl _)) | (go_at_call 46; refine (HX.out _ T).mono ?_; rintro e wn ⟨rfl, hb⟩; replace K := k1_next K hb; replace X := lies_next X hb; obtain ⟨c0, c1⟩ := lies_pair X; obtain ⟨d0, d1⟩ := lies_pair K.2; have df0 := lies_frozen K.2 0; have df1 := lies_frozen K.2 1))
        refine bodyPost_ret (v := .tuple #[.agg (P2 0 0), .int .i64 6]) (by simp [results, Tryd.results21, go_sem, d0, d1]) rfl ?_
        exact rr_no HN.out (below_set2 K.1 (Nat.le_refl _))
  · have K := k1_first hb
    have HN := Lib.hid (rread_none hr)
    clear hr
    go_upto_region 3 with fail
    have X := lies_new w1 (P2 0 0) 33
    replace K := k1_next K (below_a1 w1 (.cells (P2 0 0) 33))
    generalize w1.alloc (.cells (P2 0 0) 33) = V at K X ⊢
    obtain ⟨bx, hbx⟩ : ∃ b, w1.heap.size = b := ⟨_, rfl⟩
    rw [hbx] at X ⊢
    clear hbx hb
    obtain ⟨c0, c1⟩ := lies_pair X
    obtain ⟨d0, d1⟩ := lies_pair K.2
    have df0 := lies_frozen K.2 0
    have df1 := lies_frozen K.2 1
    go_wp2_with fail
    refine bodyPost_ret (v := .tuple #[.agg (P2 0 0), .int .i64 6]) (by simp [results, Tryd.results21, go_sem, d0, d1]) rfl ?_
    exact rr_no HN.out (below_set2 K.1 (Nat.le_refl _))
set_option maxHeartbeats 1000000 in
theorem specRRead_any (s : ByteArray) (w : World) (hs : s.size ≤ 1900000) :
    Calls Tryd.prog 22 #[.string s] w (RReadPost s w) := by
  have h2 : s.size ≤ 2000000 := by omega
  have HR0 := Lib.hid fun q (h : IsRText s q) => rspec_reads h
  go_enter Tryd.func22, Tryd.ntmps22
  go_wp2_with fail
  refine (l01Split_any s 47 _ h2).mono ?_
  rintro e w1 ⟨v1, rfl, r1, b1⟩
  have K := k1_first b1
  obtain ⟨g, cp, rfl, hg, hgw⟩ := strRow_some r1 (split_pos s 47)
  have hcl := strRow_cells r1 rfl
  have q0 := hcl 0 (split_pos s 47)
  have z0 := split_size s 47 0
  have hp := split_pos s 47
  obtain ⟨x0, hx0⟩ : ∃ x, (splitL s 47).getD 0 ⟨#[]⟩ = x := ⟨_, rfl⟩
  rw [hx0] at q0 z0
  have D0 := Lib.hid fun w => l01Signed_any x0 w (by omega)
  by_cases hlen : 1 < (splitL s 47).length
  · have q1 := hcl 1 hlen
    have z1 := split_size s 47 1
    obtain ⟨x1, hx1⟩ : ∃ x, (splitL s 47).getD 1 ⟨#[]⟩ = x := ⟨_, rfl⟩
    rw [hx1] at q1 z1
    have D1 := Lib.hid fun w => l01Value_any x1 w (by omega)
    have HR : Hid (∀ q, IsRText s q → q = (sgV x0, rdV x1)) := Lib.hid fun q h => by
      obtain ⟨e1, e2⟩ := HR0.out q h
      unfold spN at e1
      unfold spD at e2
      rw [hx0] at e1
      rw [if_pos hlen, hx1] at e2
      exact Prod.ext e1.symm e2.symm
    have hln : (splitL s 47).length ≤ 2000001 := by have := split_length s 47; omega
    generalize (splitL s 47).length = ln at *
    generalize sgV x0 = N at *
    generalize rdV x1 = M at *
    generalize sgOk x0 = ok0 at *
    generalize rdOk x1 = ok1 at *
    clear hx0 hx1 z0 z1 hcl r1 HR0 hg b1 h2
    have hlc : (1 : Int) < (ln : Int) := by omega
    go_upto_region 4 with (go_at_call 50; refine (D0.out _).mono ?_; rintro e wa ⟨rfl, hb⟩; replace K := k1_next K hb; have q1 : wa.cell? ⟨g, 1, none⟩ = some (.string x1) := (by rw [hb.cell (by exact hgw)]; exact q1))
    go_upto_region 7 with (go_at_call 43; refine (D1.out _).mono ?_; rintro e w2 ⟨rfl, hb⟩; replace K := k1_next K hb)
    have X := lies_new w2 (P2 N M) 33
    replace K := k1_next K (below_a1 w2 (.cells (P2 N M) 33))
    generalize w2.alloc (.cells (P2 N M) 33) = V at K X ⊢
    obtain ⟨bx, hbx⟩ : ∃ b, w2.heap.size = b := ⟨_, rfl⟩
    rw [hbx] at X ⊢
    clear hbx
    obtain ⟨c0, c1⟩ := lies_pair X
    obtain ⟨d0, d1⟩ := lies_pair K.2
    have df0 := lies_frozen K.2 0
    have df1 := lies_frozen K.2 1
    cases hx : isRatB N M
    · have HN := Lib.hid (rread_bad HR.out hx)
      go_wp2_with (go_at_call 47; refine (specIsRational_any _ _ _).mono ?_; rw [hx]; rintro e wn ⟨rfl, hb⟩; replace K := k1_next K hb; replace X := lies_next X hb; obtain ⟨c0, c1⟩ := lies_pair X; obtain ⟨d0, d1⟩ := lies_pair K.2; have df0 := lies_frozen K.2 0; have df1 := lies_frozen K.2 1)
      refine bodyPost_ret (v := .tuple #[.agg (P2 0 0), .int .i64 6]) (by simp [results, Tryd.results22, go_sem, d0, d1]) rfl ?_
      exact rr_no HN.out (below_set2 K.1 (Nat.le_refl _))
    · have HX := Lib.hid fun (w : World) => specRText_val N M w hx
      by_cases hq : bsOf (ratL N M) = s
      · have HY := Lib.hid (show IsRText s (N, M) from ⟨hx, hq⟩)
        have hq' := strR_eq hq
        clear hq
        generalize bsOf (ratL N M) = t at *
        go_wp2_with (first | (go_at_call 47; refine (specIsRational_any _ _ _).mono ?_; rw [hx]; rintro e wn ⟨rfl, hb⟩; replace K := k1_next K hb; replace X := lies_next X hb; obtain ⟨c0, c1⟩ := lies_pair X; obtain ⟨d0, d1⟩ := lies_pair K.2; have df0 := lies_frozen K.2 0; have df1 := lies_frozen K.2 1) | (go_at_call 48; refine (HX.out _).mono ?_; rintro e wn ⟨rfl, hb⟩; replace K := k1_next K hb; replace X := lies_next X hb; obtain ⟨c0, c1⟩ := lies_pair X; obtain ⟨d0, d1⟩ := lies_pair K.2; have df0 := lies_frozen K.2 0; have df1 := lies_frozen K.2 1))
        refine bodyPost_ret (v := .tuple #[.agg (P2 N M), .int .i64 0]) (by simp [results, Tryd.results22, go_sem, d0, d1]) rfl ?_
        exact rr_yes HY.out (below_set2 K.1 (Nat.le_refl _))
      · have HN := Lib.hid (rread_ne HR.out hq)
        have hq' := str_ne hq
        clear hq
        generalize bsOf (ratL N M) = t at *
        go_wp2_with (first | (go_at_call 47; refine (specIsRational_any _ _ _).mono ?_; rw [hx]; rintro e wn ⟨rfl, hb⟩; replace K := k1_next K hb; replace X := lies_next X hb; obtain ⟨c0, c1⟩ := lies_pair X; obtain ⟨d0, d1⟩ := lies_pair K.2; have df0 := lies_frozen K.2 0; have df1 := lies_frozen K.2 1) | (go_at_call 48; refine (HX.out _).mono ?_; rintro e wn ⟨rfl, hb⟩; replace K := k1_next K hb; replace X := lies_next X hb; obtain ⟨c0, c1⟩ := lies_pair X; obtain ⟨d0, d1⟩ := lies_pair K.2; have df0 := lies_frozen K.2 0; have df1 := lies_frozen K.2 1))
        refine bodyPost_ret (v := .tuple #[.agg (P2 0 0), .int .i64 6]) (by simp [results, Tryd.results22, go_sem, d0, d1]) rfl ?_
        exact rr_no HN.out (below_set2 K.1 (Nat.le_refl _))
  · have HR : Hid (∀ q, IsRText s q → q = (sgV x0, 1)) := Lib.hid fun q h => by
      obtain ⟨e1, e2⟩ := HR0.out q h
      unfold spN at e1
      unfold spD at e2
      rw [hx0] at e1
      rw [if_neg hlen] at e2
      exact Prod.ext e1.symm e2.symm
    have hl1 : (splitL s 47).length = 1 := by omega
    rw [hl1]
    generalize sgV x0 = N at *
    generalize sgOk x0 = ok0 at *
    clear hx0 z0 hcl r1 HR0 hg b1 h2 hlen hl1 hp
    go_upto_region 7 with (go_at_call 50; refine (D0.out _).mono ?_; rintro e w2 ⟨rfl, hb⟩; replace K := k1_next K hb)
    have X := lies_new w2 (P2 N 1) 33
    replace K := k1_next K (below_a1 w2 (.cells (P2 N 1) 33))
    generalize w2.alloc (.cells (P2 N 1) 33) = V at K X ⊢
    obtain ⟨bx, hbx⟩ : ∃ b, w2.heap.size = b := ⟨_, rfl⟩
    rw [hbx] at X ⊢
    clear hbx
    obtain ⟨c0, c1⟩ := lies_pair X
    obtain ⟨d0, d1⟩ := lies_pair K.2
    have df0 := lies_frozen K.2 0
    have df1 := lies_frozen K.2 1
    cases hx : isRatB N 1
    · have HN := Lib.hid (rread_bad HR.out hx)
      go_wp2_with (go_at_call 47; refine (specIsRational_any _ _ _).mono ?_; rw [hx]; rintro e wn ⟨rfl, hb⟩; replace K := k1_next K hb; replace X := lies_next X hb; obtain ⟨c0, c1⟩ := lies_pair X; obtain ⟨d0, d1⟩ := lies_pair K.2; have df0 := lies_frozen K.2 0; have df1 := lies_frozen K.2 1)
      refine bodyPost_ret (v := .tuple #[.agg (P2 0 0), .int .i64 6]) (by simp [results, Tryd.results22, go_sem, d0, d1]) rfl ?_
      exact rr_no HN.out (below_set2 K.1 (Nat.le_refl _))
    · have HX := Lib.hid fun (w : World) => specRText_val N 1 w hx
      by_cases hq : bsOf (ratL N 1) = s
      · have HY := Lib.hid (show IsRText s (N, 1) from ⟨hx, hq⟩)
        have hq' := strR_eq hq
        clear hq
        generalize bsOf (ratL N 1) = t at *
        go_wp2_with (first | (go_at_call 47; refine (specIsRational_any _ _ _).mono ?_; rw [hx]; rintro e wn ⟨rfl, hb⟩; replace K := k1_next K hb; replace X := lies_next X hb; obtain ⟨c0, c1⟩ := lies_pair X; obtain ⟨d0, d1⟩ := lies_pair K.2; have df0 := lies_frozen K.2 0; have df1 := lies_frozen K.2 1) | (go_at_call 48; refine (HX.out _).mono ?_; rintro e wn ⟨rfl, hb⟩; replace K := k1_next K hb; replace X := lies_next X hb; obtain ⟨c0, c1⟩ := lies_pair X; obtain ⟨d0, d1⟩ := lies_pair K.2; have df0 := lies_frozen K.2 0; have df1 := lies_frozen K.2 1))
        refine bodyPost_ret (v := .tuple #[.agg (P2 N 1), .int .i64 0]) (by simp [results, Tryd.results22, go_sem, d0, d1]) rfl ?_
        exact rr_yes HY.out (below_set2 K.1 (Nat.le_refl _))
      · have HN := Lib.hid (rread_ne HR.out hq)
        have hq' := str_ne hq
        clear hq
        generalize bsOf (ratL N 1) = t at *
        go_wp2_with (first | (go_at_call 47; refine (specIsRational_any _ _ _).mono ?_; rw [hx]; rintro e wn ⟨rfl, hb⟩; replace K := k1_next K hb; replace X := lies_next X hb; obtain ⟨c0, c1⟩ := lies_pair X; obtain ⟨d0, d1⟩ := lies_pair K.2; have df0 := lies_frozen K.2 0; have df1 := lies_frozen K.2 1) | (go_at_call 48; refine (HX.out _).mono ?_; rintro e wn ⟨rfl, hb⟩; replace K := k1_next K hb; replace X := lies_next X hb; obtain ⟨c0, c1⟩ := lies_pair X; obtain ⟨d0, d1⟩ := lies_pair K.2; have df0 := lies_frozen K.2 0; have df1 := lies_frozen K.2 1))
        refine bodyPost_ret (v := .tuple #[.agg (P2 0 0), .int .i64 6]) (by simp [results, Tryd.results22, go_sem, d0, d1]) rfl ?_
        exact rr_no HN.out (below_set2 K.1 (Nat.le_refl _))
theorem eqRationalT_any (n d : Int) (w : World) :
    Calls Tryd.prog 29 #[.agg (P2 n d), .agg (P2 n d)] w fun e w' => e = .returned (.bool true) ∧ Below w.heap.size w w' := by
  go_enter Tryd.func29, Tryd.ntmps29
  go_wp2
  go_ret
  exact ⟨rfl, below_a2 w _ _⟩
theorem rrat_core (s : ByteArray) (w : World) (hs : s.size ≤ 1048576) (he : Env w) (ht : Tab w) :
    Calls Tryd.prog 8 #[.string s] w fun e w' => e = .returned (.bool true) ∧ Below w.heap.size w w' := by
  have HSpec := Lib.hid (fun w => specRRead_any s w (by omega))
  have HImpl := Lib.hid (fun w he ht => implRRead_any s w (by omega) he ht)
  have HE := Lib.hid he
  have HT := Lib.hid ht
  clear he ht
  go_enter Tryd.func8, Tryd.ntmps8
  go_wp2_with fail
  refine (HSpec.out _).mono ?_
  rintro e w1 ⟨⟨n, d⟩, c, rfl, b1, h1⟩
  have B1 := b1.trans ((below_a1 w1 (.cells (P2 n d) 33)).mono b1.size)
  have L1 := lies_new w1 (P2 n d) 33
  have E := env_below HE.out B1 (Nat.le_refl _)
  have T := tab_below HT.out B1 (Nat.le_refl _)
  clear b1
  go_wp2_with fail
  refine (HImpl.out _ E T).mono ?_
  rintro e w2 ⟨q, c', rfl, b2, h2⟩
  obtain ⟨rfl, rfl⟩ := rread_agree h2 h1
  have L2 := lies_next L1 b2
  have B2 := B1.trans (b2.mono B1.size)
  have B3 := B2.trans ((below_a1 w2 (.cells (P2 n d) 33)).mono B2.size)
  have L3 := lies_alloc L2 (.cells (P2 n d) 33)
  have L4 := lies_new w2 (P2 n d) 33
  obtain ⟨g0, g1⟩ := lies_pair L3
  obtain ⟨k0, k1⟩ := lies_pair L4
  clear L1 L2 b2 h1 h2 E T HSpec HImpl HE HT B1 B2
  go_wp2_with (go_at_call 29; refine (eqRationalT_any _ _ _).mono ?_; rintro e we ⟨rfl, hb⟩)
  go_ret
  exact ⟨rfl, B3.trans (hb.mono B3.size)⟩
theorem rrat_big (s : ByteArray) (w : World) (hs : 1048576 < s.size) :
    Calls Tryd.prog 8 #[.string s] w fun e w' => e = .returned (.bool true) ∧ Below w.heap.size w w' := by
  go_enter Tryd.func8, Tryd.ntmps8
  go_wp2
  go_ret
  exact ⟨rfl, Below.refl _ _⟩
theorem exactRRat_walk (s : ByteArray) (w : World) (he : Env w) (ht : Tab w) :
    Calls Tryd.prog 8 #[.string s] w fun e w' => e = .returned (.bool true) ∧ Below w.heap.size w w' :=
  (Nat.lt_or_ge 1048576 s.size).elim (fun h => rrat_big s w h) (fun h => rrat_core s w h he ht)
end Go.Proofs.YtghhjeebcpcepaaDoor
