/- The walk of the law FnRingProducts: true for every code; below the old memory nothing has turned. (joined of several texts) -/
import Derived.Test.YtbjkcoajabcibaaLftLaw0
import Derived.Test.YtbjkcoajabcibaaLfA
import Derived.Test.YtbjkcoajabcibaaLfD
import Derived.OpenShut
import Derived.Deep.DeepCutAuto
namespace Go.Proofs.Ytbjkcoajabcibaa
open Go.RowKit
set_option linter.unusedVariables false
theorem rp_quo {p n : Int} {f g : List Int} (h : dirC p n f g = 0) :
    mirC p n g (dirQ p n f g) = 0 ∧ trimL (tabL (max (mirQ p n g (dirQ p n f g)).length (dirR p n f g).length) fun i => ((mirQ p n g (dirQ p n f g)).getD i 0 + (dirR p n f g).getD i 0) % ringM p n) = f ∧
    (dirR p n f g).length < g.length ∧ (2 ≤ ringM p n ∧ ringM p n ≤ 1000000000) ∧ (∀ i, 0 ≤ (mirQ p n g (dirQ p n f g)).getD i 0 ∧ (mirQ p n g (dirQ p n f g)).getD i 0 ≤ 1000000000) ∧ (∀ i, 0 ≤ (dirR p n f g).getD i 0 ∧ (dirR p n f g).getD i 0 ≤ 1000000000) ∧ ringC p n = 0 ∧ (mirQ p n g (dirQ p n f g)).length ≤ 100 ∧ (dirR p n f g).length ≤ 100 := by
  have ht : twoR p n f g = true := by
    cases ht : twoR p n f g
    · rw [dirC, ht] at h; cases h
    · rfl
  have hm : mncB g = true := by
    cases hm : mncB g
    · rw [dirC, ht, hm] at h; cases h
    · rfl
  obtain ⟨F, G⟩ := twoR_of ht
  obtain ⟨_, _, _, _, m2, m9, _⟩ := ringM_bd F.ring
  have hd := divM_is m2 m9 F.mod hm
  have eq : dirQ p n f g = quoP (ringM p n) f g := if_pos h
  have er : dirR p n f g = remP (ringM p n) f g := if_pos h
  rw [eq, er]
  have hq := quoP_len (ringM p n) f g
  have hlf := F.len
  have hlg := G.len
  have hpl := prodL_len (ringM p n) g (quoP (ringM p n) f g)
  have hpl9 : (prodL (ringM p n) g (quoP (ringM p n) f g)).length ≤ 9 := by omega
  have hg : inrB p n g = true := by have := ht; simp only [twoR, Bool.and_eq_true] at this; exact this.2
  have hqr : inrB p n (quoP (ringM p n) f g) = true := inrB_mk F.ring (by have := (mncB_of hm).1; omega) hd.mq
  have htw : twoR p n g (quoP (ringM p n) f g) = true := by rw [twoR, hg, hqr]; rfl
  have hc : mirC p n g (quoP (ringM p n) f g) = 0 := by rw [mirC, htw, if_pos rfl, if_pos hpl9]
  have e : mirQ p n g (quoP (ringM p n) f g) = prodL (ringM p n) g (quoP (ringM p n) f g) := if_pos hc
  rw [e]
  have hM : ModP (ringM p n) (prodL (ringM p n) g (quoP (ringM p n) f g)) := redL_mod (by omega) _
  have hrl := hd.deg
  refine ⟨hc, div_back (by omega) F.mod hd, hd.deg, ⟨m2, m9⟩, fun i => by have := hM.rng i; omega, fun i => by have := hd.mr.rng i; omega, by rw [ringC, if_neg F.ring], by omega, by omega⟩
theorem rp_red {p n : Int} {f : List Int} (h : rtrC p n f = 0) : inrB p n (rtrQ p n f) = true := by
  have e : rtrQ p n f = redL (ringM p n) f := if_pos h
  unfold rtrC at h
  split at h
  · rename_i h1
    obtain ⟨_, _, _, _, m2, _, _⟩ := ringM_bd h1.1
    rw [e]
    refine inrB_mk h1.1 ?_ (redL_mod (by omega) _)
    have := redL_le (ringM p n) f; have := (polyB_of h1.2).1; omega
  · omega
theorem dirQ_len9 (p n : Int) (f g : List Int) : (dirQ p n f g).length ≤ 100 := by
  unfold dirQ
  split
  · rename_i h; have := quoP_len (ringM p n) f g; have := dirC_zero h; omega
  · simp
theorem dirR_len9 (p n : Int) (f g : List Int) : (dirR p n f g).length ≤ 100 := by
  unfold dirR
  split
  · rename_i h; have := remP_len (ringM p n) f g; have := dirC_zero h; omega
  · simp
end Go.Proofs.Ytbjkcoajabcibaa
namespace Go.Proofs.Ytbjkcoajabcibaa
open Go.RowKit
set_option linter.unusedVariables false
set_option maxRecDepth 20000
theorem likeInts_nil (o1 o2 : Option Addr) (c1 c2 : Nat) (w : World) :
    Calls Try.prog 30 #[.slice o1 0 c1, .slice o2 0 c2] w fun e w' => e = .returned (.bool true) ∧ w = w' := by
  go_enter Try.func30, Try.ntmps30
  go_wp2
  refine wp_loop_rounds 1 ?_
  rw [rounds_succ]
  go_wp2
  go_ret
  exact ⟨rfl, rfl⟩
set_option maxHeartbeats 400000 in
theorem likeInts_row (g1 g2 n c1 c2 : Nat) (l : List Int) (w : World) (hn : n ≤ 1100000)
    (hc1 : ∀ k, k < n → w.cell? ⟨g1, k, none⟩ = some (.int .i64 (l.getD k 0)))
    (hc2 : ∀ k, k < n → w.cell? ⟨g2, k, none⟩ = some (.int .i64 (l.getD k 0))) :
    Calls Try.prog 30 #[.slice (some ⟨g1, 0, none⟩) n c1, .slice (some ⟨g2, 0, none⟩) n c2] w fun e w' => e = .returned (.bool true) ∧ ∃ m, w' = w.drewN m := by
  have HC1 := Lib.hid hc1
  have HC2 := Lib.hid hc2
  clear hc1 hc2
  go_enter Try.func30, Try.ntmps30
  go_wp2
  go_loopw [5] (fun i wr => ∃ k : Nat, k ≤ n ∧ i = .int .i64 k ∧ ∃ nd, wr = w.drewN nd) (fun i _ => n - (intOf i).toNat)
  case atStart => exact ⟨0, Nat.zero_le _, rfl, 0, rfl⟩
  case round =>
    obtain ⟨k, hk, rfl, nd, rfl⟩ := hrel
    by_cases hlt : k < n
    · have a1 := HC1.out k hlt
      have b1 := HC2.out k hlt
      obtain ⟨x1, e1⟩ : ∃ x, l.getD k 0 = x := ⟨_, rfl⟩
      rw [e1] at a1 b1
      clear e1
      go_wp2
      go_quiet (fail)
      go_wp2
      go_roundw
      case rel => exact ⟨k + 1, by omega, by go_num, nd + nq, by first | rfl | rw [World.drewN_drewN]⟩
      case measure => simp [intOf]; omega
    · go_wp2
      go_ret
      exact ⟨rfl, nd, rfl⟩
theorem likeInts_same {b1 b2 : Nat} {w : World} {v1 v2 : Value} {l : List Int} (h1 : IntRow b1 w v1 l) (h2 : IntRow b2 w v2 l) (hl : l.length ≤ 1100000) :
    Calls Try.prog 30 #[v1, v2] w fun e w' => e = .returned (.bool true) ∧ ∃ m, w' = w.drewN m := by
  rcases row_shape h1 with ⟨h0, o, c, rfl⟩ | ⟨h0, g, c, rfl, hb, hg⟩
  · rcases row_shape h2 with ⟨_, o', c', rfl⟩ | ⟨h0', _⟩
    · exact (likeInts_nil o o' c c' w).mono fun e w' ⟨he, hw⟩ => ⟨he, 0, hw.symm⟩
    · omega
  · rcases row_shape h2 with ⟨h0', _⟩ | ⟨_, g', c', rfl, hb', hg'⟩
    · omega
    · exact likeInts_row g g' l.length c c' l w hl (int_cells h1) (int_cells h2)
end Go.Proofs.Ytbjkcoajabcibaa
namespace Go.Proofs.Ytbjkcoajabcibaa
open Go.RowKit
set_option linter.unusedVariables false
/-- a slice of integers that came in, as the shells have it -/
def IsRowOf (k : IntKind) (w : World) (a : Option Addr) (len cap : Nat) (zs : List Int) : Prop :=
  (a = none ∧ len = 0 ∧ cap = 0 ∧ zs = []) ∨
  ∃ x, a = some x ∧ len ≤ cap ∧ cap ≤ maxLen ∧ zs.length = cap ∧ (∀ i, i < zs.length → w.cell? (x.add i) = some (.int k (zs.getD i 0))) ∧ ∀ n ∈ zs, (Lit.int k n).wf = true
theorem u8_bd {q : Int} (h : (Lit.int .u8 q).wf = true) : 0 ≤ q ∧ q ≤ 255 := by
  simp [Lit.wf, IntKind.min, IntKind.max, IntKind.signed, IntKind.bits] at h
  exact ⟨h.1, by omega⟩
theorem codeIn_of {w : World} {a : Option Addr} {len cap : Nat} {zs : List Int} (h : IsRowOf .u8 w a len cap zs) : CodeIn w a len ∧ len ≤ 9223372036854775807 := by
  rcases h with ⟨_, h, _, _⟩ | ⟨x, rfl, h1, h2, h3, h4, h5⟩
  · exact ⟨.inl h, by omega⟩
  · refine ⟨?_, by unfold maxLen at h2; omega⟩
    by_cases h0 : len = 0
    · exact .inl h0
    · obtain ⟨b, off, rfl, hc⟩ := ints_at h4 (by omega)
      refine .inr ⟨b, off, rfl, World.block_lt_of_cell? w _ (hc 0 (by omega)), fun i hi => ⟨_, hc i (by omega), ?_⟩⟩
      have hm : zs.getD i 0 ∈ zs := by
        have hlt : i < zs.length := by omega
        rw [show zs.getD i 0 = zs[i] by simp [List.getD, hlt]]; exact List.getElem_mem _
      exact u8_bd (h5 _ hm)
theorem gcd_dvd_tmod (a b : Int) (h : Int.gcd a b ≠ 0) : a.tmod (Int.gcd a b) = 0 ∧ b.tmod (Int.gcd a b) = 0 :=
  ⟨Int.tmod_eq_zero_of_dvd (Int.gcd_dvd_left ..), Int.tmod_eq_zero_of_dvd (Int.gcd_dvd_right ..)⟩
end Go.Proofs.Ytbjkcoajabcibaa
namespace Go.Proofs.Ytbjkcoajabcibaa
open Go.RowKit
set_option linter.unusedVariables false
set_option linter.unusedSimpArgs false
theorem ringAt_newP (W : World) (p n : Int) : RingAt (W.alloc (.cells #[.int .i64 p, .int .i64 n] 25)) W.heap.size p n := World.alloc_heap_new W _
section
variable {P : Program} {ops : Array Oper} {Q : Exit → Act → World → Prop} {md : Region.Mode} {S : World → Prop}
theorem take_atF {i d : Nat} {oi : Oper} {v : Value} {fuel : Nat} {listed : Array Bool} {a : Act} {w : World} (hi : ops[i]? = some oi) (hd : oi.dst = some d)
    (hs : Region.noSelect ops = true) (hf : Region.free md ops listed i = true) (hr : (Region.ready md ops listed).contains i = true)
    (hQ : ∀ c a w, Q (.panic c) (a.put oi.dst v) w → Q (.panic c) a w) (hy : YieldsIf P ops S oi v a) (hS : S w)
    (h : wpAnyH P md ops Q S fuel (listed.setIfInBounds i true) (a.put (some d) v) w) : wpAnyH P md ops Q S (fuel + 1) listed a w :=
  wpAnyH_take hi hs hf hr hQ hy hS (by rw [hd]; exact h)
end
theorem tmod_pos {x m : Int} (h : 0 ≤ x) : x.tmod m = x % m := Int.tmod_eq_emod_of_nonneg h
theorem take_trim {l : List Int} {n : Nat} (hn : n + 1 ≤ l.length) (h : l.getD n 0 = 0) (ht : trimL (l.take (n + 1)) = trimL l) : trimL (l.take n) = trimL l := by
  rw [← ht]
  refine last_unique (trimL_last _) (trimL_last _) fun i => ?_
  rw [trimL_getD, trimL_getD]
  simp only [List.getD, List.getElem?_take]
  by_cases h1 : i < n
  · rw [if_pos h1, if_pos (by omega)]
  · rw [if_neg h1]
    by_cases h2 : i < n + 1
    · rw [if_pos h2, show i = n by omega]; simpa [List.getD] using h.symm
    · rw [if_neg h2]
theorem trim_end {l : List Int} (h : l.length = 0 ∨ l.getD (l.length - 1) 0 ≠ 0) : trimL l = l := by
  refine last_unique (trimL_last _) ?_ fun i => trimL_getD _ _
  unfold lastB
  rcases h with h | h
  · simp [h]
  · simp; right; simpa [List.getD] using h
set_option maxRecDepth 100000 in
set_option maxHeartbeats 40000000 in
theorem ringprods_core (o : Option Addr) (len cap : Nat) (w : World) (hl : len ≤ 4096) (hc : CodeIn w o len) :
    Calls Try.prog 4 #[.slice o len cap] w fun e w' => e = .returned (.bool true) ∧ Below w.heap.size w w' := by
  have HC := Lib.hid hc
  have B0 := Lib.hid (Below.refl w.heap.size w)
  clear hc
  go_enter Try.func4, Try.ntmps4
  go_wp2_with fail
  refine (big_no _ _ _ _ hl).mono ?_
  rintro e w' ⟨rfl, rfl⟩
  go_wp2_with fail
  refine (drawDivRng_any o len cap _ hl (codeIn_below (B := 0) HC.out B0.out)).mono ?_
  rintro e W1 ⟨p1, n1, v_f, v_g, f, g, rfl, r_f, r_g, h_f, h_g, b9⟩
  obtain ⟨o_f, c_f, rfl⟩ := row_slice r_f
  obtain ⟨o_g, c_g, rfl⟩ := row_slice r_g
  have b9a := b9.alloc b9.size (.cells #[.int .i64 p1, .int .i64 n1] 25)
  have g9a := ringAt_newP W1 p1 n1
  have q_f := World.ownsRow.alloc r_f (.cells #[.int .i64 p1, .int .i64 n1] 25)
  have q_g := World.ownsRow.alloc r_g (.cells #[.int .i64 p1, .int .i64 n1] 25)
  have hz9 : W1.heap.size = W1.heap.size := rfl
  clear hz9 b9 r_f r_g
  have B1 := Lib.hid (B0.out.trans (b9a.mono B0.out.size))
  have R_f_1 := Lib.hid q_f
  have R_g_1 := Lib.hid q_g
  have G_A_1 := Lib.hid g9a
  clear b9a g9a q_f q_g
  have HV := Lib.hid (rp_quo (p := p1) (n := n1) (f := f) (g := g))
  have hq100 := dirQ_len9 p1 n1 f g
  have hr100 := dirR_len9 p1 n1 f g
  have HDI := Lib.hid fun (w : World) (bb0 : Nat) (hy0 : IntRow bb0 w (.slice o_f f.length c_f) f) (bb1 : Nat) (hy1 : IntRow bb1 w (.slice o_g g.length c_g) g) => implDivRng_any p1 n1 (row_seen hy0 (show f.length ≤ 1100000 by omega)) (row_seen hy1 (show g.length ≤ 1100000 by omega))
  have HDS := Lib.hid fun (w : World) (bb0 : Nat) (hy0 : IntRow bb0 w (.slice o_f f.length c_f) f) (bb1 : Nat) (hy1 : IntRow bb1 w (.slice o_g g.length c_g) g) => specDivRng_any p1 n1 (row_seen hy0 (show f.length ≤ 1100000 by omega)) (row_seen hy1 (show g.length ≤ 1100000 by omega))
  generalize dirQ p1 n1 f g = q at *
  generalize dirR p1 n1 f g = r at *
  generalize dirC p1 n1 f g = k at *
  go_wp2_with fail
  refine (HDI.out _ _ R_f_1.out _ R_g_1.out).mono ?_
  rintro e W2 ⟨v2, u2, rfl, r2, t2, b2, -⟩
  obtain ⟨o_q, c_q, rfl⟩ := row_slice r2
  obtain ⟨o_r, c_r, rfl⟩ := row_slice t2
  have B2 := Lib.hid (B1.out.trans (b2.mono B1.out.size))
  have R_f_2 := Lib.hid (row_below R_f_1.out b2 (Nat.le_refl _))
  have R_g_2 := Lib.hid (row_below R_g_1.out b2 (Nat.le_refl _))
  have G_A_2 := Lib.hid (ringAt_below G_A_1.out b2)
  have R_q_2 := Lib.hid r2
  have R_r_2 := Lib.hid t2
  clear r2 t2 b2
  obtain ⟨A0, A1⟩ := ringAt_cells G_A_2.out
  go_wp2_with fail
  refine (HDS.out _ _ R_f_2.out _ R_g_2.out).mono ?_
  rintro e W3 ⟨v3, u3, rfl, r3, t3, b3, -⟩
  obtain ⟨o_m, c_m, rfl⟩ := row_slice r3
  obtain ⟨o_n, c_n, rfl⟩ := row_slice t3
  have B3 := Lib.hid (B2.out.trans (b3.mono B2.out.size))
  have R_f_3 := Lib.hid (row_below R_f_2.out b3 (Nat.le_refl _))
  have R_g_3 := Lib.hid (row_below R_g_2.out b3 (Nat.le_refl _))
  have R_q_3 := Lib.hid (row_below R_q_2.out b3 (Nat.le_refl _))
  have R_r_3 := Lib.hid (row_below R_r_2.out b3 (Nat.le_refl _))
  have G_A_3 := Lib.hid (ringAt_below G_A_2.out b3)
  have R_m_3 := Lib.hid r3
  have R_n_3 := Lib.hid t3
  clear r3 t3 b3
  clear A0 A1
  clear HDI HDS
  go_wp2_with fail
  refine (drawMulRng_any o len cap _ hl (codeIn_below (B := 0) HC.out B3.out)).mono ?_
  rintro e W4 ⟨p2, n2, v_a, v_b, a, b, rfl, r_a, r_b, h_a, h_b, b9⟩
  obtain ⟨o_a, c_a, rfl⟩ := row_slice r_a
  obtain ⟨o_b, c_b, rfl⟩ := row_slice r_b
  have b9a := b9.alloc b9.size (.cells #[.int .i64 p2, .int .i64 n2] 25)
  have g9a := ringAt_newP W4 p2 n2
  have q_a := World.ownsRow.alloc r_a (.cells #[.int .i64 p2, .int .i64 n2] 25)
  have q_b := World.ownsRow.alloc r_b (.cells #[.int .i64 p2, .int .i64 n2] 25)
  have hz9 : W4.heap.size = W4.heap.size := rfl
  clear hz9 b9 r_a r_b
  have B4 := Lib.hid (B3.out.trans (b9a.mono B3.out.size))
  have R_f_4 := Lib.hid (row_below R_f_3.out b9a (Nat.le_refl _))
  have R_g_4 := Lib.hid (row_below R_g_3.out b9a (Nat.le_refl _))
  have R_q_4 := Lib.hid (row_below R_q_3.out b9a (Nat.le_refl _))
  have R_r_4 := Lib.hid (row_below R_r_3.out b9a (Nat.le_refl _))
  have R_m_4 := Lib.hid (row_below R_m_3.out b9a (Nat.le_refl _))
  have R_n_4 := Lib.hid (row_below R_n_3.out b9a (Nat.le_refl _))
  have G_A_4 := Lib.hid (ringAt_below G_A_3.out b9a)
  have R_a_4 := Lib.hid q_a
  have R_b_4 := Lib.hid q_b
  have G_S_4 := Lib.hid g9a
  clear b9a g9a q_a q_b
  have hy100 := mirQ_len p2 n2 a b
  have HMI := Lib.hid fun (w : World) (bb0 : Nat) (hy0 : IntRow bb0 w (.slice o_a a.length c_a) a) (bb1 : Nat) (hy1 : IntRow bb1 w (.slice o_b b.length c_b) b) => implMulRng_any p2 n2 (row_seen hy0 (show a.length ≤ 1100000 by omega)) (row_seen hy1 (show b.length ≤ 1100000 by omega))
  have HMS := Lib.hid fun (w : World) (bb0 : Nat) (hy0 : IntRow bb0 w (.slice o_a a.length c_a) a) (bb1 : Nat) (hy1 : IntRow bb1 w (.slice o_b b.length c_b) b) => specMulRng_any p2 n2 (row_seen hy0 (show a.length ≤ 1100000 by omega)) (row_seen hy1 (show b.length ≤ 1100000 by omega))
  generalize mirQ p2 n2 a b = y at *
  generalize mirC p2 n2 a b = k1 at *
  go_wp2_with fail
  refine (HMI.out _ _ R_a_4.out _ R_b_4.out).mono ?_
  rintro e W5 ⟨v5, rfl, r5, b5⟩
  obtain ⟨o_y, c_y, rfl⟩ := row_slice r5
  have B5 := Lib.hid (B4.out.trans (b5.mono B4.out.size))
  have R_f_5 := Lib.hid (row_below R_f_4.out b5 (Nat.le_refl _))
  have R_g_5 := Lib.hid (row_below R_g_4.out b5 (Nat.le_refl _))
  have R_q_5 := Lib.hid (row_below R_q_4.out b5 (Nat.le_refl _))
  have R_r_5 := Lib.hid (row_below R_r_4.out b5 (Nat.le_refl _))
  have R_m_5 := Lib.hid (row_below R_m_4.out b5 (Nat.le_refl _))
  have R_n_5 := Lib.hid (row_below R_n_4.out b5 (Nat.le_refl _))
  have R_a_5 := Lib.hid (row_below R_a_4.out b5 (Nat.le_refl _))
  have R_b_5 := Lib.hid (row_below R_b_4.out b5 (Nat.le_refl _))
  have G_A_5 := Lib.hid (ringAt_below G_A_4.out b5)
  have G_S_5 := Lib.hid (ringAt_below G_S_4.out b5)
  have R_y_5 := Lib.hid r5
  clear r5 b5
  obtain ⟨S0, S1⟩ := ringAt_cells G_S_5.out
  go_wp2_with fail
  refine (HMS.out _ _ R_a_5.out _ R_b_5.out).mono ?_
  rintro e W6 ⟨v6, rfl, r6, b6⟩
  obtain ⟨o_z, c_z, rfl⟩ := row_slice r6
  have B6 := Lib.hid (B5.out.trans (b6.mono B5.out.size))
  have R_f_6 := Lib.hid (row_below R_f_5.out b6 (Nat.le_refl _))
  have R_g_6 := Lib.hid (row_below R_g_5.out b6 (Nat.le_refl _))
  have R_q_6 := Lib.hid (row_below R_q_5.out b6 (Nat.le_refl _))
  have R_r_6 := Lib.hid (row_below R_r_5.out b6 (Nat.le_refl _))
  have R_m_6 := Lib.hid (row_below R_m_5.out b6 (Nat.le_refl _))
  have R_n_6 := Lib.hid (row_below R_n_5.out b6 (Nat.le_refl _))
  have R_a_6 := Lib.hid (row_below R_a_5.out b6 (Nat.le_refl _))
  have R_b_6 := Lib.hid (row_below R_b_5.out b6 (Nat.le_refl _))
  have R_y_6 := Lib.hid (row_below R_y_5.out b6 (Nat.le_refl _))
  have G_A_6 := Lib.hid (ringAt_below G_A_5.out b6)
  have G_S_6 := Lib.hid (ringAt_below G_S_5.out b6)
  have R_z_6 := Lib.hid r6
  clear r6 b6
  clear S0 S1
  clear HMI HMS
  go_wp2_with fail
  refine (drawImg_any o len cap _ hl (codeIn_below (B := 0) HC.out B6.out)).mono ?_
  rintro e W7 ⟨p3, n3, v_h, h, rfl, r_h, h_h, b9⟩
  obtain ⟨o_h, c_h, rfl⟩ := row_slice r_h
  have b9a := b9.alloc b9.size (.cells #[.int .i64 p3, .int .i64 n3] 25)
  have g9a := ringAt_newP W7 p3 n3
  have q_h := World.ownsRow.alloc r_h (.cells #[.int .i64 p3, .int .i64 n3] 25)
  have hz9 : W7.heap.size = W7.heap.size := rfl
  clear hz9 b9 r_h
  have B7 := Lib.hid (B6.out.trans (b9a.mono B6.out.size))
  have R_f_7 := Lib.hid (row_below R_f_6.out b9a (Nat.le_refl _))
  have R_g_7 := Lib.hid (row_below R_g_6.out b9a (Nat.le_refl _))
  have R_q_7 := Lib.hid (row_below R_q_6.out b9a (Nat.le_refl _))
  have R_r_7 := Lib.hid (row_below R_r_6.out b9a (Nat.le_refl _))
  have R_m_7 := Lib.hid (row_below R_m_6.out b9a (Nat.le_refl _))
  have R_n_7 := Lib.hid (row_below R_n_6.out b9a (Nat.le_refl _))
  have R_y_7 := Lib.hid (row_below R_y_6.out b9a (Nat.le_refl _))
  have R_z_7 := Lib.hid (row_below R_z_6.out b9a (Nat.le_refl _))
  have G_A_7 := Lib.hid (ringAt_below G_A_6.out b9a)
  have R_h_7 := Lib.hid q_h
  have G_U_7 := Lib.hid g9a
  clear b9a g9a q_h
  have hi100 := imgQ_len p3 n3 h
  have HII := Lib.hid fun (w : World) (bb0 : Nat) (hy0 : IntRow bb0 w (.slice o_h h.length c_h) h) => implImg_any p3 n3 (row_seen hy0 (show h.length ≤ 1100000 by omega))
  have HIS := Lib.hid fun (w : World) (bb0 : Nat) (hy0 : IntRow bb0 w (.slice o_h h.length c_h) h) => specImg_any p3 n3 (row_seen hy0 (show h.length ≤ 1100000 by omega))
  have HNI := Lib.hid fun (w : World) (bb0 : Nat) (hy0 : IntRow bb0 w (.slice o_h h.length c_h) h) => implInR_any p3 n3 (row_seen hy0 (show h.length ≤ 1100000 by omega))
  have HNS := Lib.hid fun (w : World) (bb0 : Nat) (hy0 : IntRow bb0 w (.slice o_h h.length c_h) h) => specInR_any p3 n3 (row_seen hy0 (show h.length ≤ 1100000 by omega))
  generalize imgQ p3 n3 h = i at *
  generalize okR p3 n3 h = k2 at *
  generalize inrB p3 n3 h = mb at *
  go_wp2_with fail
  refine (HII.out _ _ R_h_7.out).mono ?_
  rintro e W8 ⟨v8, rfl, r8, b8⟩
  obtain ⟨o_i, c_i, rfl⟩ := row_slice r8
  have B8 := Lib.hid (B7.out.trans (b8.mono B7.out.size))
  have R_f_8 := Lib.hid (row_below R_f_7.out b8 (Nat.le_refl _))
  have R_g_8 := Lib.hid (row_below R_g_7.out b8 (Nat.le_refl _))
  have R_q_8 := Lib.hid (row_below R_q_7.out b8 (Nat.le_refl _))
  have R_r_8 := Lib.hid (row_below R_r_7.out b8 (Nat.le_refl _))
  have R_m_8 := Lib.hid (row_below R_m_7.out b8 (Nat.le_refl _))
  have R_n_8 := Lib.hid (row_below R_n_7.out b8 (Nat.le_refl _))
  have R_y_8 := Lib.hid (row_below R_y_7.out b8 (Nat.le_refl _))
  have R_z_8 := Lib.hid (row_below R_z_7.out b8 (Nat.le_refl _))
  have R_h_8 := Lib.hid (row_below R_h_7.out b8 (Nat.le_refl _))
  have G_A_8 := Lib.hid (ringAt_below G_A_7.out b8)
  have G_U_8 := Lib.hid (ringAt_below G_U_7.out b8)
  have R_i_8 := Lib.hid r8
  clear r8 b8
  obtain ⟨U0, U1⟩ := ringAt_cells G_U_8.out
  go_wp2_with fail
  refine (HIS.out _ _ R_h_8.out).mono ?_
  rintro e W9 ⟨v9, rfl, r9, b9⟩
  obtain ⟨o_j, c_j, rfl⟩ := row_slice r9
  have B9 := Lib.hid (B8.out.trans (b9.mono B8.out.size))
  have R_f_9 := Lib.hid (row_below R_f_8.out b9 (Nat.le_refl _))
  have R_g_9 := Lib.hid (row_below R_g_8.out b9 (Nat.le_refl _))
  have R_q_9 := Lib.hid (row_below R_q_8.out b9 (Nat.le_refl _))
  have R_r_9 := Lib.hid (row_below R_r_8.out b9 (Nat.le_refl _))
  have R_m_9 := Lib.hid (row_below R_m_8.out b9 (Nat.le_refl _))
  have R_n_9 := Lib.hid (row_below R_n_8.out b9 (Nat.le_refl _))
  have R_y_9 := Lib.hid (row_below R_y_8.out b9 (Nat.le_refl _))
  have R_z_9 := Lib.hid (row_below R_z_8.out b9 (Nat.le_refl _))
  have R_h_9 := Lib.hid (row_below R_h_8.out b9 (Nat.le_refl _))
  have R_i_9 := Lib.hid (row_below R_i_8.out b9 (Nat.le_refl _))
  have G_A_9 := Lib.hid (ringAt_below G_A_8.out b9)
  have G_U_9 := Lib.hid (ringAt_below G_U_8.out b9)
  have R_j_9 := Lib.hid r9
  clear r9 b9
  clear U0 U1
  clear HII HIS
  go_wp2_with fail
  refine (drawRtr_any o len cap _ hl (codeIn_below (B := 0) HC.out B9.out)).mono ?_
  rintro e W10 ⟨p4, n4, v_v, v, rfl, r_v, h_v, b9⟩
  obtain ⟨o_v, c_v, rfl⟩ := row_slice r_v
  have b9a := b9.alloc b9.size (.cells #[.int .i64 p4, .int .i64 n4] 25)
  have g9a := ringAt_newP W10 p4 n4
  have q_v := World.ownsRow.alloc r_v (.cells #[.int .i64 p4, .int .i64 n4] 25)
  have hz9 : W10.heap.size = W10.heap.size := rfl
  clear hz9 b9 r_v
  have B10 := Lib.hid (B9.out.trans (b9a.mono B9.out.size))
  have R_f_10 := Lib.hid (row_below R_f_9.out b9a (Nat.le_refl _))
  have R_g_10 := Lib.hid (row_below R_g_9.out b9a (Nat.le_refl _))
  have R_q_10 := Lib.hid (row_below R_q_9.out b9a (Nat.le_refl _))
  have R_r_10 := Lib.hid (row_below R_r_9.out b9a (Nat.le_refl _))
  have R_m_10 := Lib.hid (row_below R_m_9.out b9a (Nat.le_refl _))
  have R_n_10 := Lib.hid (row_below R_n_9.out b9a (Nat.le_refl _))
  have R_y_10 := Lib.hid (row_below R_y_9.out b9a (Nat.le_refl _))
  have R_z_10 := Lib.hid (row_below R_z_9.out b9a (Nat.le_refl _))
  have R_h_10 := Lib.hid (row_below R_h_9.out b9a (Nat.le_refl _))
  have R_i_10 := Lib.hid (row_below R_i_9.out b9a (Nat.le_refl _))
  have R_j_10 := Lib.hid (row_below R_j_9.out b9a (Nat.le_refl _))
  have G_A_10 := Lib.hid (ringAt_below G_A_9.out b9a)
  have G_U_10 := Lib.hid (ringAt_below G_U_9.out b9a)
  have R_v_10 := Lib.hid q_v
  have G_T_10 := Lib.hid g9a
  clear b9a g9a q_v
  have hx100 := rtrQ_len p4 n4 v
  have HT := Lib.hid (rp_red (p := p4) (n := n4) (f := v))
  have HRI := Lib.hid fun (w : World) (bb0 : Nat) (hy0 : IntRow bb0 w (.slice o_v v.length c_v) v) => implRtr_any p4 n4 (row_seen hy0 (show v.length ≤ 1100000 by omega))
  have HRS := Lib.hid fun (w : World) (bb0 : Nat) (hy0 : IntRow bb0 w (.slice o_v v.length c_v) v) => specRtr_any p4 n4 (row_seen hy0 (show v.length ≤ 1100000 by omega))
  generalize rtrQ p4 n4 v = x at *
  generalize rtrC p4 n4 v = k3 at *
  go_wp2_with fail
  refine (HRI.out _ _ R_v_10.out).mono ?_
  rintro e W11 ⟨v11, rfl, r11, b11⟩
  obtain ⟨o_x, c_x, rfl⟩ := row_slice r11
  have B11 := Lib.hid (B10.out.trans (b11.mono B10.out.size))
  have R_f_11 := Lib.hid (row_below R_f_10.out b11 (Nat.le_refl _))
  have R_g_11 := Lib.hid (row_below R_g_10.out b11 (Nat.le_refl _))
  have R_q_11 := Lib.hid (row_below R_q_10.out b11 (Nat.le_refl _))
  have R_r_11 := Lib.hid (row_below R_r_10.out b11 (Nat.le_refl _))
  have R_m_11 := Lib.hid (row_below R_m_10.out b11 (Nat.le_refl _))
  have R_n_11 := Lib.hid (row_below R_n_10.out b11 (Nat.le_refl _))
  have R_y_11 := Lib.hid (row_below R_y_10.out b11 (Nat.le_refl _))
  have R_z_11 := Lib.hid (row_below R_z_10.out b11 (Nat.le_refl _))
  have R_h_11 := Lib.hid (row_below R_h_10.out b11 (Nat.le_refl _))
  have R_i_11 := Lib.hid (row_below R_i_10.out b11 (Nat.le_refl _))
  have R_j_11 := Lib.hid (row_below R_j_10.out b11 (Nat.le_refl _))
  have R_v_11 := Lib.hid (row_below R_v_10.out b11 (Nat.le_refl _))
  have G_A_11 := Lib.hid (ringAt_below G_A_10.out b11)
  have G_U_11 := Lib.hid (ringAt_below G_U_10.out b11)
  have G_T_11 := Lib.hid (ringAt_below G_T_10.out b11)
  have R_x_11 := Lib.hid r11
  clear r11 b11
  obtain ⟨T0, T1⟩ := ringAt_cells G_T_11.out
  go_wp2_with fail
  refine (HRS.out _ _ R_v_11.out).mono ?_
  rintro e W12 ⟨v12, rfl, r12, b12⟩
  obtain ⟨o_xx, c_xx, rfl⟩ := row_slice r12
  have B12 := Lib.hid (B11.out.trans (b12.mono B11.out.size))
  have R_f_12 := Lib.hid (row_below R_f_11.out b12 (Nat.le_refl _))
  have R_g_12 := Lib.hid (row_below R_g_11.out b12 (Nat.le_refl _))
  have R_q_12 := Lib.hid (row_below R_q_11.out b12 (Nat.le_refl _))
  have R_r_12 := Lib.hid (row_below R_r_11.out b12 (Nat.le_refl _))
  have R_m_12 := Lib.hid (row_below R_m_11.out b12 (Nat.le_refl _))
  have R_n_12 := Lib.hid (row_below R_n_11.out b12 (Nat.le_refl _))
  have R_y_12 := Lib.hid (row_below R_y_11.out b12 (Nat.le_refl _))
  have R_z_12 := Lib.hid (row_below R_z_11.out b12 (Nat.le_refl _))
  have R_h_12 := Lib.hid (row_below R_h_11.out b12 (Nat.le_refl _))
  have R_i_12 := Lib.hid (row_below R_i_11.out b12 (Nat.le_refl _))
  have R_j_12 := Lib.hid (row_below R_j_11.out b12 (Nat.le_refl _))
  have R_v_12 := Lib.hid (row_below R_v_11.out b12 (Nat.le_refl _))
  have R_x_12 := Lib.hid (row_below R_x_11.out b12 (Nat.le_refl _))
  have G_A_12 := Lib.hid (ringAt_below G_A_11.out b12)
  have G_U_12 := Lib.hid (ringAt_below G_U_11.out b12)
  have G_T_12 := Lib.hid (ringAt_below G_T_11.out b12)
  have R_xx_12 := Lib.hid r12
  clear r12 b12
  clear T0 T1
  clear HRI HRS
  clear B1 R_f_1 R_g_1 G_A_1 B2 R_f_2 R_g_2 G_A_2 R_q_2 R_r_2 B3 R_f_3 R_g_3 R_q_3 R_r_3 G_A_3 R_m_3 R_n_3 B4 R_f_4 R_g_4 R_q_4 R_r_4 R_m_4 R_n_4 G_A_4 R_a_4 R_b_4 G_S_4 B5 R_f_5 R_g_5 R_q_5 R_r_5 R_m_5 R_n_5 R_a_5 R_b_5 G_A_5 G_S_5 R_y_5 B6 R_f_6 R_g_6 R_q_6 R_r_6 R_m_6 R_n_6 R_a_6 R_b_6 R_y_6 G_A_6 G_S_6 R_z_6 B7 R_f_7 R_g_7 R_q_7 R_r_7 R_m_7 R_n_7 R_y_7 R_z_7 G_A_7 R_h_7 G_U_7 B8 R_f_8 R_g_8 R_q_8 R_r_8 R_m_8 R_n_8 R_y_8 R_z_8 R_h_8 G_A_8 G_U_8 R_i_8 B9 R_f_9 R_g_9 R_q_9 R_r_9 R_m_9 R_n_9 R_y_9 R_z_9 R_h_9 R_i_9 G_A_9 G_U_9 R_j_9 B10 R_f_10 R_g_10 R_q_10 R_r_10 R_m_10 R_n_10 R_y_10 R_z_10 R_h_10 R_i_10 R_j_10 G_A_10 G_U_10 R_v_10 G_T_10 B11 R_f_11 R_g_11 R_q_11 R_r_11 R_m_11 R_n_11 R_y_11 R_z_11 R_h_11 R_i_11 R_j_11 R_v_11 G_A_11 G_U_11 G_T_11 R_x_11 R_v_12
  have b13 : Below W12.heap.size W12 W12.drew := below_drewN (Below.refl _ _) 1
  go_wp2_with fail
  have B13 := Lib.hid (B12.out.trans (b13.mono B12.out.size))
  have R_f_13 := Lib.hid (row_below R_f_12.out b13 (Nat.le_refl _))
  have R_g_13 := Lib.hid (row_below R_g_12.out b13 (Nat.le_refl _))
  have R_q_13 := Lib.hid (row_below R_q_12.out b13 (Nat.le_refl _))
  have R_r_13 := Lib.hid (row_below R_r_12.out b13 (Nat.le_refl _))
  have R_m_13 := Lib.hid (row_below R_m_12.out b13 (Nat.le_refl _))
  have R_n_13 := Lib.hid (row_below R_n_12.out b13 (Nat.le_refl _))
  have R_y_13 := Lib.hid (row_below R_y_12.out b13 (Nat.le_refl _))
  have R_z_13 := Lib.hid (row_below R_z_12.out b13 (Nat.le_refl _))
  have R_h_13 := Lib.hid (row_below R_h_12.out b13 (Nat.le_refl _))
  have R_i_13 := Lib.hid (row_below R_i_12.out b13 (Nat.le_refl _))
  have R_j_13 := Lib.hid (row_below R_j_12.out b13 (Nat.le_refl _))
  have R_x_13 := Lib.hid (row_below R_x_12.out b13 (Nat.le_refl _))
  have R_xx_13 := Lib.hid (row_below R_xx_12.out b13 (Nat.le_refl _))
  have G_A_13 := Lib.hid (ringAt_below G_A_12.out b13)
  have G_U_13 := Lib.hid (ringAt_below G_U_12.out b13)
  have G_T_13 := Lib.hid (ringAt_below G_T_12.out b13)
  refine wp_region_held_drew (S := fun W' => RingAt W' W7.heap.size p3 n3) (by kernel_rfl) (ringAt_drew G_U_12.out) (fun hHeld => ?_)
  refine take_atF (i := 0) (d := 116) (v := .int .i64 k) rfl rfl (by kernel_rfl) (by kernel_rfl) (by kernel_rfl) (fun _ _ _ h => h) (Or.inl ⟨by rfl, ?_⟩) hHeld ?_
  · intro w' hS; go_simp
  try simp only [Act.put, List.setIfInBounds_toArray, List.set_cons_zero, List.set_cons_succ]
  refine take_atF (i := 1) (d := 117) (v := .int .i64 k) rfl rfl (by kernel_rfl) (by kernel_rfl) (by kernel_rfl) (fun _ _ _ h => h) (Or.inl ⟨by rfl, ?_⟩) hHeld ?_
  · intro w' hS; go_simp
  try simp only [Act.put, List.setIfInBounds_toArray, List.set_cons_zero, List.set_cons_succ]
  refine take_atF (i := 2) (d := 118) (v := .bool false) rfl rfl (by kernel_rfl) (by kernel_rfl) (by kernel_rfl) (fun _ _ _ h => h) (Or.inl ⟨by rfl, ?_⟩) hHeld ?_
  · intro w' hS; go_simp
  try simp only [Act.put, List.setIfInBounds_toArray, List.set_cons_zero, List.set_cons_succ]
  refine take_atF (i := 3) (d := 119) (v := .bool false) rfl rfl (by kernel_rfl) (by kernel_rfl) (by kernel_rfl) (fun _ _ _ h => h) (Or.inl ⟨by rfl, ?_⟩) hHeld ?_
  · intro w' hS; go_simp
  try simp only [Act.put, List.setIfInBounds_toArray, List.set_cons_zero, List.set_cons_succ]
  refine take_atF (i := 4) (d := 120) (v := .slice o_q q.length c_q) rfl rfl (by kernel_rfl) (by kernel_rfl) (by kernel_rfl) (fun _ _ _ h => h) (Or.inl ⟨by rfl, ?_⟩) hHeld ?_
  · intro w' hS; go_simp
  try simp only [Act.put, List.setIfInBounds_toArray, List.set_cons_zero, List.set_cons_succ]
  refine take_atF (i := 5) (d := 121) (v := .slice o_m q.length c_m) rfl rfl (by kernel_rfl) (by kernel_rfl) (by kernel_rfl) (fun _ _ _ h => h) (Or.inl ⟨by rfl, ?_⟩) hHeld ?_
  · intro w' hS; go_simp
  try simp only [Act.put, List.setIfInBounds_toArray, List.set_cons_zero, List.set_cons_succ]
  refine wpAnyH_ready (rs := [6]) (by kernel_rfl) (by simp) ?_
  refine AllReadyH.cons rfl (fun K hK => ?_) AllReadyH.nil
  go_simp
  go_at_call 30; refine (likeInts_same R_q_13.out R_m_13.out (by omega)).mono ?_; rintro e W14 ⟨rfl, nd, hw⟩
  have b14 : Below W12.drew.heap.size W12.drew W14 := by rw [hw]; exact below_drewN (Below.refl _ _) nd
  clear hw nd
  have B14 := Lib.hid (B13.out.trans (b14.mono B13.out.size))
  have R_f_14 := Lib.hid (row_below R_f_13.out b14 (Nat.le_refl _))
  have R_g_14 := Lib.hid (row_below R_g_13.out b14 (Nat.le_refl _))
  have R_q_14 := Lib.hid (row_below R_q_13.out b14 (Nat.le_refl _))
  have R_r_14 := Lib.hid (row_below R_r_13.out b14 (Nat.le_refl _))
  have R_n_14 := Lib.hid (row_below R_n_13.out b14 (Nat.le_refl _))
  have R_y_14 := Lib.hid (row_below R_y_13.out b14 (Nat.le_refl _))
  have R_z_14 := Lib.hid (row_below R_z_13.out b14 (Nat.le_refl _))
  have R_h_14 := Lib.hid (row_below R_h_13.out b14 (Nat.le_refl _))
  have R_i_14 := Lib.hid (row_below R_i_13.out b14 (Nat.le_refl _))
  have R_j_14 := Lib.hid (row_below R_j_13.out b14 (Nat.le_refl _))
  have R_x_14 := Lib.hid (row_below R_x_13.out b14 (Nat.le_refl _))
  have R_xx_14 := Lib.hid (row_below R_xx_13.out b14 (Nat.le_refl _))
  have G_A_14 := Lib.hid (ringAt_below G_A_13.out b14)
  have G_U_14 := Lib.hid (ringAt_below G_U_13.out b14)
  have G_T_14 := Lib.hid (ringAt_below G_T_13.out b14)
  go_simp
  refine hK.out _ _ (ringAt_below hHeld b14) (fun hHeld => ?_)
  clear hK K
  try simp only [Act.put, List.setIfInBounds_toArray, List.set_cons_zero, List.set_cons_succ]
  refine take_atF (i := 7) (d := 123) (v := .bool false) rfl rfl (by kernel_rfl) (by kernel_rfl) (by kernel_rfl) (fun _ _ _ h => h) (Or.inl ⟨by rfl, ?_⟩) hHeld ?_
  · intro w' hS; go_simp
  try simp only [Act.put, List.setIfInBounds_toArray, List.set_cons_zero, List.set_cons_succ]
  refine take_atF (i := 8) (d := 124) (v := .bool false) rfl rfl (by kernel_rfl) (by kernel_rfl) (by kernel_rfl) (fun _ _ _ h => h) (Or.inl ⟨by rfl, ?_⟩) hHeld ?_
  · intro w' hS; go_simp
  try simp only [Act.put, List.setIfInBounds_toArray, List.set_cons_zero, List.set_cons_succ]
  refine take_atF (i := 9) (d := 125) (v := .bool false) rfl rfl (by kernel_rfl) (by kernel_rfl) (by kernel_rfl) (fun _ _ _ h => h) (Or.inl ⟨by rfl, ?_⟩) hHeld ?_
  · intro w' hS; go_simp
  try simp only [Act.put, List.setIfInBounds_toArray, List.set_cons_zero, List.set_cons_succ]
  refine take_atF (i := 10) (d := 126) (v := .slice o_r r.length c_r) rfl rfl (by kernel_rfl) (by kernel_rfl) (by kernel_rfl) (fun _ _ _ h => h) (Or.inl ⟨by rfl, ?_⟩) hHeld ?_
  · intro w' hS; go_simp
  try simp only [Act.put, List.setIfInBounds_toArray, List.set_cons_zero, List.set_cons_succ]
  refine take_atF (i := 11) (d := 127) (v := .slice o_n r.length c_n) rfl rfl (by kernel_rfl) (by kernel_rfl) (by kernel_rfl) (fun _ _ _ h => h) (Or.inl ⟨by rfl, ?_⟩) hHeld ?_
  · intro w' hS; go_simp
  try simp only [Act.put, List.setIfInBounds_toArray, List.set_cons_zero, List.set_cons_succ]
  refine wpAnyH_ready (rs := [12]) (by kernel_rfl) (by simp) ?_
  refine AllReadyH.cons rfl (fun K hK => ?_) AllReadyH.nil
  go_simp
  go_at_call 30; refine (likeInts_same R_r_14.out R_n_14.out (by omega)).mono ?_; rintro e W15 ⟨rfl, nd, hw⟩
  have b15 : Below W14.heap.size W14 W15 := by rw [hw]; exact below_drewN (Below.refl _ _) nd
  clear hw nd
  have B15 := Lib.hid (B14.out.trans (b15.mono B14.out.size))
  have R_f_15 := Lib.hid (row_below R_f_14.out b15 (Nat.le_refl _))
  have R_g_15 := Lib.hid (row_below R_g_14.out b15 (Nat.le_refl _))
  have R_q_15 := Lib.hid (row_below R_q_14.out b15 (Nat.le_refl _))
  have R_r_15 := Lib.hid (row_below R_r_14.out b15 (Nat.le_refl _))
  have R_y_15 := Lib.hid (row_below R_y_14.out b15 (Nat.le_refl _))
  have R_z_15 := Lib.hid (row_below R_z_14.out b15 (Nat.le_refl _))
  have R_h_15 := Lib.hid (row_below R_h_14.out b15 (Nat.le_refl _))
  have R_i_15 := Lib.hid (row_below R_i_14.out b15 (Nat.le_refl _))
  have R_j_15 := Lib.hid (row_below R_j_14.out b15 (Nat.le_refl _))
  have R_x_15 := Lib.hid (row_below R_x_14.out b15 (Nat.le_refl _))
  have R_xx_15 := Lib.hid (row_below R_xx_14.out b15 (Nat.le_refl _))
  have G_A_15 := Lib.hid (ringAt_below G_A_14.out b15)
  have G_U_15 := Lib.hid (ringAt_below G_U_14.out b15)
  have G_T_15 := Lib.hid (ringAt_below G_T_14.out b15)
  go_simp
  refine hK.out _ _ (ringAt_below hHeld b15) (fun hHeld => ?_)
  clear hK K
  try simp only [Act.put, List.setIfInBounds_toArray, List.set_cons_zero, List.set_cons_succ]
  refine take_atF (i := 13) (d := 129) (v := .bool false) rfl rfl (by kernel_rfl) (by kernel_rfl) (by kernel_rfl) (fun _ _ _ h => h) (Or.inl ⟨by rfl, ?_⟩) hHeld ?_
  · intro w' hS; go_simp
  try simp only [Act.put, List.setIfInBounds_toArray, List.set_cons_zero, List.set_cons_succ]
  refine take_atF (i := 14) (d := 130) (v := .bool false) rfl rfl (by kernel_rfl) (by kernel_rfl) (by kernel_rfl) (fun _ _ _ h => h) (Or.inl ⟨by rfl, ?_⟩) hHeld ?_
  · intro w' hS; go_simp
  try simp only [Act.put, List.setIfInBounds_toArray, List.set_cons_zero, List.set_cons_succ]
  refine take_atF (i := 15) (d := 131) (v := .bool false) rfl rfl (by kernel_rfl) (by kernel_rfl) (by kernel_rfl) (fun _ _ _ h => h) (Or.inl ⟨by rfl, ?_⟩) hHeld ?_
  · intro w' hS; go_simp
  try simp only [Act.put, List.setIfInBounds_toArray, List.set_cons_zero, List.set_cons_succ]
  refine take_atF (i := 16) (d := 132) (v := .int .i64 k1) rfl rfl (by kernel_rfl) (by kernel_rfl) (by kernel_rfl) (fun _ _ _ h => h) (Or.inl ⟨by rfl, ?_⟩) hHeld ?_
  · intro w' hS; go_simp
  try simp only [Act.put, List.setIfInBounds_toArray, List.set_cons_zero, List.set_cons_succ]
  refine take_atF (i := 17) (d := 133) (v := .int .i64 k1) rfl rfl (by kernel_rfl) (by kernel_rfl) (by kernel_rfl) (fun _ _ _ h => h) (Or.inl ⟨by rfl, ?_⟩) hHeld ?_
  · intro w' hS; go_simp
  try simp only [Act.put, List.setIfInBounds_toArray, List.set_cons_zero, List.set_cons_succ]
  refine take_atF (i := 18) (d := 134) (v := .bool false) rfl rfl (by kernel_rfl) (by kernel_rfl) (by kernel_rfl) (fun _ _ _ h => h) (Or.inl ⟨by rfl, ?_⟩) hHeld ?_
  · intro w' hS; go_simp
  try simp only [Act.put, List.setIfInBounds_toArray, List.set_cons_zero, List.set_cons_succ]
  refine take_atF (i := 19) (d := 135) (v := .bool false) rfl rfl (by kernel_rfl) (by kernel_rfl) (by kernel_rfl) (fun _ _ _ h => h) (Or.inl ⟨by rfl, ?_⟩) hHeld ?_
  · intro w' hS; go_simp
  try simp only [Act.put, List.setIfInBounds_toArray, List.set_cons_zero, List.set_cons_succ]
  refine take_atF (i := 20) (d := 136) (v := .bool false) rfl rfl (by kernel_rfl) (by kernel_rfl) (by kernel_rfl) (fun _ _ _ h => h) (Or.inl ⟨by rfl, ?_⟩) hHeld ?_
  · intro w' hS; go_simp
  try simp only [Act.put, List.setIfInBounds_toArray, List.set_cons_zero, List.set_cons_succ]
  refine take_atF (i := 21) (d := 137) (v := .slice o_y y.length c_y) rfl rfl (by kernel_rfl) (by kernel_rfl) (by kernel_rfl) (fun _ _ _ h => h) (Or.inl ⟨by rfl, ?_⟩) hHeld ?_
  · intro w' hS; go_simp
  try simp only [Act.put, List.setIfInBounds_toArray, List.set_cons_zero, List.set_cons_succ]
  refine take_atF (i := 22) (d := 138) (v := .slice o_z y.length c_z) rfl rfl (by kernel_rfl) (by kernel_rfl) (by kernel_rfl) (fun _ _ _ h => h) (Or.inl ⟨by rfl, ?_⟩) hHeld ?_
  · intro w' hS; go_simp
  try simp only [Act.put, List.setIfInBounds_toArray, List.set_cons_zero, List.set_cons_succ]
  refine wpAnyH_ready (rs := [23]) (by kernel_rfl) (by simp) ?_
  refine AllReadyH.cons rfl (fun K hK => ?_) AllReadyH.nil
  go_simp
  go_at_call 30; refine (likeInts_same R_y_15.out R_z_15.out (by omega)).mono ?_; rintro e W16 ⟨rfl, nd, hw⟩
  have b16 : Below W15.heap.size W15 W16 := by rw [hw]; exact below_drewN (Below.refl _ _) nd
  clear hw nd
  have B16 := Lib.hid (B15.out.trans (b16.mono B15.out.size))
  have R_f_16 := Lib.hid (row_below R_f_15.out b16 (Nat.le_refl _))
  have R_g_16 := Lib.hid (row_below R_g_15.out b16 (Nat.le_refl _))
  have R_q_16 := Lib.hid (row_below R_q_15.out b16 (Nat.le_refl _))
  have R_r_16 := Lib.hid (row_below R_r_15.out b16 (Nat.le_refl _))
  have R_h_16 := Lib.hid (row_below R_h_15.out b16 (Nat.le_refl _))
  have R_i_16 := Lib.hid (row_below R_i_15.out b16 (Nat.le_refl _))
  have R_j_16 := Lib.hid (row_below R_j_15.out b16 (Nat.le_refl _))
  have R_x_16 := Lib.hid (row_below R_x_15.out b16 (Nat.le_refl _))
  have R_xx_16 := Lib.hid (row_below R_xx_15.out b16 (Nat.le_refl _))
  have G_A_16 := Lib.hid (ringAt_below G_A_15.out b16)
  have G_U_16 := Lib.hid (ringAt_below G_U_15.out b16)
  have G_T_16 := Lib.hid (ringAt_below G_T_15.out b16)
  go_simp
  refine hK.out _ _ (ringAt_below hHeld b16) (fun hHeld => ?_)
  clear hK K
  try simp only [Act.put, List.setIfInBounds_toArray, List.set_cons_zero, List.set_cons_succ]
  refine take_atF (i := 24) (d := 140) (v := .bool false) rfl rfl (by kernel_rfl) (by kernel_rfl) (by kernel_rfl) (fun _ _ _ h => h) (Or.inl ⟨by rfl, ?_⟩) hHeld ?_
  · intro w' hS; go_simp
  try simp only [Act.put, List.setIfInBounds_toArray, List.set_cons_zero, List.set_cons_succ]
  refine take_atF (i := 25) (d := 141) (v := .bool false) rfl rfl (by kernel_rfl) (by kernel_rfl) (by kernel_rfl) (fun _ _ _ h => h) (Or.inl ⟨by rfl, ?_⟩) hHeld ?_
  · intro w' hS; go_simp
  try simp only [Act.put, List.setIfInBounds_toArray, List.set_cons_zero, List.set_cons_succ]
  refine take_atF (i := 26) (d := 142) (v := .bool false) rfl rfl (by kernel_rfl) (by kernel_rfl) (by kernel_rfl) (fun _ _ _ h => h) (Or.inl ⟨by rfl, ?_⟩) hHeld ?_
  · intro w' hS; go_simp
  try simp only [Act.put, List.setIfInBounds_toArray, List.set_cons_zero, List.set_cons_succ]
  refine take_atF (i := 27) (d := 143) (v := .int .i64 k2) rfl rfl (by kernel_rfl) (by kernel_rfl) (by kernel_rfl) (fun _ _ _ h => h) (Or.inl ⟨by rfl, ?_⟩) hHeld ?_
  · intro w' hS; go_simp
  try simp only [Act.put, List.setIfInBounds_toArray, List.set_cons_zero, List.set_cons_succ]
  refine take_atF (i := 28) (d := 144) (v := .int .i64 k2) rfl rfl (by kernel_rfl) (by kernel_rfl) (by kernel_rfl) (fun _ _ _ h => h) (Or.inl ⟨by rfl, ?_⟩) hHeld ?_
  · intro w' hS; go_simp
  try simp only [Act.put, List.setIfInBounds_toArray, List.set_cons_zero, List.set_cons_succ]
  refine take_atF (i := 29) (d := 145) (v := .bool false) rfl rfl (by kernel_rfl) (by kernel_rfl) (by kernel_rfl) (fun _ _ _ h => h) (Or.inl ⟨by rfl, ?_⟩) hHeld ?_
  · intro w' hS; go_simp
  try simp only [Act.put, List.setIfInBounds_toArray, List.set_cons_zero, List.set_cons_succ]
  refine take_atF (i := 30) (d := 146) (v := .bool false) rfl rfl (by kernel_rfl) (by kernel_rfl) (by kernel_rfl) (fun _ _ _ h => h) (Or.inl ⟨by rfl, ?_⟩) hHeld ?_
  · intro w' hS; go_simp
  try simp only [Act.put, List.setIfInBounds_toArray, List.set_cons_zero, List.set_cons_succ]
  refine take_atF (i := 31) (d := 147) (v := .bool false) rfl rfl (by kernel_rfl) (by kernel_rfl) (by kernel_rfl) (fun _ _ _ h => h) (Or.inl ⟨by rfl, ?_⟩) hHeld ?_
  · intro w' hS; go_simp
  try simp only [Act.put, List.setIfInBounds_toArray, List.set_cons_zero, List.set_cons_succ]
  refine take_atF (i := 32) (d := 148) (v := .slice o_i i.length c_i) rfl rfl (by kernel_rfl) (by kernel_rfl) (by kernel_rfl) (fun _ _ _ h => h) (Or.inl ⟨by rfl, ?_⟩) hHeld ?_
  · intro w' hS; go_simp
  try simp only [Act.put, List.setIfInBounds_toArray, List.set_cons_zero, List.set_cons_succ]
  refine take_atF (i := 33) (d := 149) (v := .slice o_j i.length c_j) rfl rfl (by kernel_rfl) (by kernel_rfl) (by kernel_rfl) (fun _ _ _ h => h) (Or.inl ⟨by rfl, ?_⟩) hHeld ?_
  · intro w' hS; go_simp
  try simp only [Act.put, List.setIfInBounds_toArray, List.set_cons_zero, List.set_cons_succ]
  refine wpAnyH_ready (rs := [34]) (by kernel_rfl) (by simp) ?_
  refine AllReadyH.cons rfl (fun K hK => ?_) AllReadyH.nil
  go_simp
  go_at_call 30; refine (likeInts_same R_i_16.out R_j_16.out (by omega)).mono ?_; rintro e W17 ⟨rfl, nd, hw⟩
  have b17 : Below W16.heap.size W16 W17 := by rw [hw]; exact below_drewN (Below.refl _ _) nd
  clear hw nd
  have B17 := Lib.hid (B16.out.trans (b17.mono B16.out.size))
  have R_f_17 := Lib.hid (row_below R_f_16.out b17 (Nat.le_refl _))
  have R_g_17 := Lib.hid (row_below R_g_16.out b17 (Nat.le_refl _))
  have R_q_17 := Lib.hid (row_below R_q_16.out b17 (Nat.le_refl _))
  have R_r_17 := Lib.hid (row_below R_r_16.out b17 (Nat.le_refl _))
  have R_h_17 := Lib.hid (row_below R_h_16.out b17 (Nat.le_refl _))
  have R_x_17 := Lib.hid (row_below R_x_16.out b17 (Nat.le_refl _))
  have R_xx_17 := Lib.hid (row_below R_xx_16.out b17 (Nat.le_refl _))
  have G_A_17 := Lib.hid (ringAt_below G_A_16.out b17)
  have G_U_17 := Lib.hid (ringAt_below G_U_16.out b17)
  have G_T_17 := Lib.hid (ringAt_below G_T_16.out b17)
  go_simp
  refine hK.out _ _ (ringAt_below hHeld b17) (fun hHeld => ?_)
  clear hK K
  try simp only [Act.put, List.setIfInBounds_toArray, List.set_cons_zero, List.set_cons_succ]
  refine take_atF (i := 35) (d := 151) (v := .bool false) rfl rfl (by kernel_rfl) (by kernel_rfl) (by kernel_rfl) (fun _ _ _ h => h) (Or.inl ⟨by rfl, ?_⟩) hHeld ?_
  · intro w' hS; go_simp
  try simp only [Act.put, List.setIfInBounds_toArray, List.set_cons_zero, List.set_cons_succ]
  refine take_atF (i := 36) (d := 152) (v := .bool false) rfl rfl (by kernel_rfl) (by kernel_rfl) (by kernel_rfl) (fun _ _ _ h => h) (Or.inl ⟨by rfl, ?_⟩) hHeld ?_
  · intro w' hS; go_simp
  try simp only [Act.put, List.setIfInBounds_toArray, List.set_cons_zero, List.set_cons_succ]
  refine take_atF (i := 37) (d := 153) (v := .bool false) rfl rfl (by kernel_rfl) (by kernel_rfl) (by kernel_rfl) (fun _ _ _ h => h) (Or.inl ⟨by rfl, ?_⟩) hHeld ?_
  · intro w' hS; go_simp
  try simp only [Act.put, List.setIfInBounds_toArray, List.set_cons_zero, List.set_cons_succ]
  refine take_atF (i := 38) (d := 154) (v := .int .i64 k3) rfl rfl (by kernel_rfl) (by kernel_rfl) (by kernel_rfl) (fun _ _ _ h => h) (Or.inl ⟨by rfl, ?_⟩) hHeld ?_
  · intro w' hS; go_simp
  try simp only [Act.put, List.setIfInBounds_toArray, List.set_cons_zero, List.set_cons_succ]
  refine take_atF (i := 39) (d := 155) (v := .int .i64 k3) rfl rfl (by kernel_rfl) (by kernel_rfl) (by kernel_rfl) (fun _ _ _ h => h) (Or.inl ⟨by rfl, ?_⟩) hHeld ?_
  · intro w' hS; go_simp
  try simp only [Act.put, List.setIfInBounds_toArray, List.set_cons_zero, List.set_cons_succ]
  refine take_atF (i := 40) (d := 156) (v := .bool false) rfl rfl (by kernel_rfl) (by kernel_rfl) (by kernel_rfl) (fun _ _ _ h => h) (Or.inl ⟨by rfl, ?_⟩) hHeld ?_
  · intro w' hS; go_simp
  try simp only [Act.put, List.setIfInBounds_toArray, List.set_cons_zero, List.set_cons_succ]
  refine take_atF (i := 41) (d := 157) (v := .bool false) rfl rfl (by kernel_rfl) (by kernel_rfl) (by kernel_rfl) (fun _ _ _ h => h) (Or.inl ⟨by rfl, ?_⟩) hHeld ?_
  · intro w' hS; go_simp
  try simp only [Act.put, List.setIfInBounds_toArray, List.set_cons_zero, List.set_cons_succ]
  refine take_atF (i := 42) (d := 158) (v := .bool false) rfl rfl (by kernel_rfl) (by kernel_rfl) (by kernel_rfl) (fun _ _ _ h => h) (Or.inl ⟨by rfl, ?_⟩) hHeld ?_
  · intro w' hS; go_simp
  try simp only [Act.put, List.setIfInBounds_toArray, List.set_cons_zero, List.set_cons_succ]
  refine take_atF (i := 43) (d := 159) (v := .slice o_x x.length c_x) rfl rfl (by kernel_rfl) (by kernel_rfl) (by kernel_rfl) (fun _ _ _ h => h) (Or.inl ⟨by rfl, ?_⟩) hHeld ?_
  · intro w' hS; go_simp
  try simp only [Act.put, List.setIfInBounds_toArray, List.set_cons_zero, List.set_cons_succ]
  refine take_atF (i := 44) (d := 160) (v := .slice o_xx x.length c_xx) rfl rfl (by kernel_rfl) (by kernel_rfl) (by kernel_rfl) (fun _ _ _ h => h) (Or.inl ⟨by rfl, ?_⟩) hHeld ?_
  · intro w' hS; go_simp
  try simp only [Act.put, List.setIfInBounds_toArray, List.set_cons_zero, List.set_cons_succ]
  refine wpAnyH_ready (rs := [45]) (by kernel_rfl) (by simp) ?_
  refine AllReadyH.cons rfl (fun K hK => ?_) AllReadyH.nil
  go_simp
  go_at_call 30; refine (likeInts_same R_x_17.out R_xx_17.out (by omega)).mono ?_; rintro e W18 ⟨rfl, nd, hw⟩
  have b18 : Below W17.heap.size W17 W18 := by rw [hw]; exact below_drewN (Below.refl _ _) nd
  clear hw nd
  have B18 := Lib.hid (B17.out.trans (b18.mono B17.out.size))
  have R_f_18 := Lib.hid (row_below R_f_17.out b18 (Nat.le_refl _))
  have R_g_18 := Lib.hid (row_below R_g_17.out b18 (Nat.le_refl _))
  have R_q_18 := Lib.hid (row_below R_q_17.out b18 (Nat.le_refl _))
  have R_r_18 := Lib.hid (row_below R_r_17.out b18 (Nat.le_refl _))
  have R_h_18 := Lib.hid (row_below R_h_17.out b18 (Nat.le_refl _))
  have R_x_18 := Lib.hid (row_below R_x_17.out b18 (Nat.le_refl _))
  have G_A_18 := Lib.hid (ringAt_below G_A_17.out b18)
  have G_U_18 := Lib.hid (ringAt_below G_U_17.out b18)
  have G_T_18 := Lib.hid (ringAt_below G_T_17.out b18)
  go_simp
  refine hK.out _ _ (ringAt_below hHeld b18) (fun hHeld => ?_)
  clear hK K
  try simp only [Act.put, List.setIfInBounds_toArray, List.set_cons_zero, List.set_cons_succ]
  refine take_atF (i := 46) (d := 162) (v := .bool false) rfl rfl (by kernel_rfl) (by kernel_rfl) (by kernel_rfl) (fun _ _ _ h => h) (Or.inl ⟨by rfl, ?_⟩) hHeld ?_
  · intro w' hS; go_simp
  try simp only [Act.put, List.setIfInBounds_toArray, List.set_cons_zero, List.set_cons_succ]
  refine take_atF (i := 47) (d := 163) (v := .bool false) rfl rfl (by kernel_rfl) (by kernel_rfl) (by kernel_rfl) (fun _ _ _ h => h) (Or.inl ⟨by rfl, ?_⟩) hHeld ?_
  · intro w' hS; go_simp
  try simp only [Act.put, List.setIfInBounds_toArray, List.set_cons_zero, List.set_cons_succ]
  refine take_atF (i := 48) (d := 164) (v := .bool false) rfl rfl (by kernel_rfl) (by kernel_rfl) (by kernel_rfl) (fun _ _ _ h => h) (Or.inl ⟨by rfl, ?_⟩) hHeld ?_
  · intro w' hS; go_simp
  try simp only [Act.put, List.setIfInBounds_toArray, List.set_cons_zero, List.set_cons_succ]
  refine take_atF (i := 49) (d := 165) (v := .agg #[.int .i64 p3, .int .i64 n3]) rfl rfl (by kernel_rfl) (by kernel_rfl) (by kernel_rfl) (fun _ _ _ h => h) (Or.inl ⟨by rfl, ?_⟩) hHeld ?_
  · intro w' hS; obtain ⟨s0, s1⟩ := ringAt_cells hS; go_simp
  try simp only [Act.put, List.setIfInBounds_toArray, List.set_cons_zero, List.set_cons_succ]
  refine take_atF (i := 50) (d := 166) (v := .slice o_h h.length c_h) rfl rfl (by kernel_rfl) (by kernel_rfl) (by kernel_rfl) (fun _ _ _ h => h) (Or.inl ⟨by rfl, ?_⟩) hHeld ?_
  · intro w' hS; go_simp
  try simp only [Act.put, List.setIfInBounds_toArray, List.set_cons_zero, List.set_cons_succ]
  refine take_atF (i := 52) (d := 168) (v := .agg #[.int .i64 p3, .int .i64 n3]) rfl rfl (by kernel_rfl) (by kernel_rfl) (by kernel_rfl) (fun _ _ _ h => h) (Or.inl ⟨by rfl, ?_⟩) hHeld ?_
  · intro w' hS; obtain ⟨s0, s1⟩ := ringAt_cells hS; go_simp
  try simp only [Act.put, List.setIfInBounds_toArray, List.set_cons_zero, List.set_cons_succ]
  refine take_atF (i := 53) (d := 169) (v := .slice o_h h.length c_h) rfl rfl (by kernel_rfl) (by kernel_rfl) (by kernel_rfl) (fun _ _ _ h => h) (Or.inl ⟨by rfl, ?_⟩) hHeld ?_
  · intro w' hS; go_simp
  try simp only [Act.put, List.setIfInBounds_toArray, List.set_cons_zero, List.set_cons_succ]
  refine wpAnyH_ready (rs := [51]) (by kernel_rfl) (by simp) ?_
  refine AllReadyH.cons rfl (fun K hK => ?_) AllReadyH.nil
  go_simp
  go_at_call 44; refine (HNI.out _ _ R_h_18.out).mono ?_; rintro e W19 ⟨rfl, b19⟩
  have B19 := Lib.hid (B18.out.trans (b19.mono B18.out.size))
  have R_f_19 := Lib.hid (row_below R_f_18.out b19 (Nat.le_refl _))
  have R_g_19 := Lib.hid (row_below R_g_18.out b19 (Nat.le_refl _))
  have R_q_19 := Lib.hid (row_below R_q_18.out b19 (Nat.le_refl _))
  have R_r_19 := Lib.hid (row_below R_r_18.out b19 (Nat.le_refl _))
  have R_h_19 := Lib.hid (row_below R_h_18.out b19 (Nat.le_refl _))
  have R_x_19 := Lib.hid (row_below R_x_18.out b19 (Nat.le_refl _))
  have G_A_19 := Lib.hid (ringAt_below G_A_18.out b19)
  have G_U_19 := Lib.hid (ringAt_below G_U_18.out b19)
  have G_T_19 := Lib.hid (ringAt_below G_T_18.out b19)
  go_simp
  refine hK.out _ _ (ringAt_below hHeld b19) (fun hHeld => ?_)
  clear hK K
  try simp only [Act.put, List.setIfInBounds_toArray, List.set_cons_zero, List.set_cons_succ]
  refine wpAnyH_ready (rs := [54]) (by kernel_rfl) (by simp) ?_
  refine AllReadyH.cons rfl (fun K hK => ?_) AllReadyH.nil
  go_simp
  go_at_call 45; refine (HNS.out _ _ R_h_19.out).mono ?_; rintro e W20 ⟨rfl, b20⟩
  have B20 := Lib.hid (B19.out.trans (b20.mono B19.out.size))
  have R_f_20 := Lib.hid (row_below R_f_19.out b20 (Nat.le_refl _))
  have R_g_20 := Lib.hid (row_below R_g_19.out b20 (Nat.le_refl _))
  have R_q_20 := Lib.hid (row_below R_q_19.out b20 (Nat.le_refl _))
  have R_r_20 := Lib.hid (row_below R_r_19.out b20 (Nat.le_refl _))
  have R_h_20 := Lib.hid (row_below R_h_19.out b20 (Nat.le_refl _))
  have R_x_20 := Lib.hid (row_below R_x_19.out b20 (Nat.le_refl _))
  have G_A_20 := Lib.hid (ringAt_below G_A_19.out b20)
  have G_U_20 := Lib.hid (ringAt_below G_U_19.out b20)
  have G_T_20 := Lib.hid (ringAt_below G_T_19.out b20)
  go_simp
  refine hK.out _ _ (ringAt_below hHeld b20) (fun hHeld => ?_)
  clear hK K
  try simp only [Act.put, List.setIfInBounds_toArray, List.set_cons_zero, List.set_cons_succ]
  refine take_atF (i := 55) (d := 171) (v := .bool false) rfl rfl (by kernel_rfl) (by kernel_rfl) (by kernel_rfl) (fun _ _ _ h => h) (Or.inl ⟨by rfl, ?_⟩) hHeld ?_
  · intro w' hS; go_simp
  try simp only [Act.put, List.setIfInBounds_toArray, List.set_cons_zero, List.set_cons_succ]
  refine take_atF (i := 56) (d := 172) (v := .bool false) rfl rfl (by kernel_rfl) (by kernel_rfl) (by kernel_rfl) (fun _ _ _ h => h) (Or.inl ⟨by rfl, ?_⟩) hHeld ?_
  · intro w' hS; go_simp
  try simp only [Act.put, List.setIfInBounds_toArray, List.set_cons_zero, List.set_cons_succ]
  refine wpAnyH_done (by kernel_rfl) ?_ _
  clear hHeld
  clear HNI HNS
  clear b13 b14 b15 b16 b17 b18 b19 b20
  clear B12 R_f_12 R_g_12 R_q_12 R_r_12 R_m_12 R_n_12 R_y_12 R_z_12 R_h_12 R_i_12 R_j_12 R_x_12 G_A_12 G_U_12 G_T_12 R_xx_12 B13 R_f_13 R_g_13 R_q_13 R_r_13 R_m_13 R_n_13 R_y_13 R_z_13 R_h_13 R_i_13 R_j_13 R_x_13 R_xx_13 G_A_13 G_U_13 G_T_13 B14 R_f_14 R_g_14 R_q_14 R_r_14 R_n_14 R_y_14 R_z_14 R_h_14 R_i_14 R_j_14 R_x_14 R_xx_14 G_A_14 G_U_14 G_T_14 B15 R_f_15 R_g_15 R_q_15 R_r_15 R_y_15 R_z_15 R_h_15 R_i_15 R_j_15 R_x_15 R_xx_15 G_A_15 G_U_15 G_T_15 B16 R_f_16 R_g_16 R_q_16 R_r_16 R_h_16 R_i_16 R_j_16 R_x_16 R_xx_16 G_A_16 G_U_16 G_T_16 B17 R_f_17 R_g_17 R_q_17 R_r_17 R_h_17 R_x_17 R_xx_17 G_A_17 G_U_17 G_T_17 B18 R_f_18 R_g_18 R_q_18 R_r_18 R_h_18 R_x_18 G_A_18 G_U_18 G_T_18 B19 R_f_19 R_g_19 R_q_19 R_r_19 R_h_19 R_x_19 G_A_19 G_U_19 G_T_19 R_h_20 G_U_20
  by_cases hk3 : k3 = 0
  · have e1 := HT.out hk3
    subst hk3
    clear HT
    have HX := Lib.hid fun (w : World) (bb0 : Nat) (hy0 : IntRow bb0 w (.slice o_x x.length c_x) x) => implInR_any p4 n4 (row_seen hy0 (show x.length ≤ 1100000 by omega))
    rw [e1] at HX
    clear e1
    obtain ⟨T0, T1⟩ := ringAt_cells G_T_20.out
    go_wp2_with fail
    refine (HX.out _ _ R_x_20.out).mono ?_
    rintro e W21 ⟨rfl, b21⟩
    have B21 := Lib.hid (B20.out.trans (b21.mono B20.out.size))
    have R_f_21 := Lib.hid (row_below R_f_20.out b21 (Nat.le_refl _))
    have R_g_21 := Lib.hid (row_below R_g_20.out b21 (Nat.le_refl _))
    have R_q_21 := Lib.hid (row_below R_q_20.out b21 (Nat.le_refl _))
    have R_r_21 := Lib.hid (row_below R_r_20.out b21 (Nat.le_refl _))
    have R_x_21 := Lib.hid (row_below R_x_20.out b21 (Nat.le_refl _))
    have G_A_21 := Lib.hid (ringAt_below G_A_20.out b21)
    have G_T_21 := Lib.hid (ringAt_below G_T_20.out b21)
    clear b21
    clear T0 T1
    clear HX
    by_cases h1 : k = 0
    · obtain ⟨e1, e2, e3, ⟨M2, M97⟩, e5, e6, e7, hs100, _⟩ := HV.out h1
      subst h1
      clear HV
      have e3I : (r.length : Int) < (g.length : Int) := by omega
      have HS := Lib.hid fun (w : World) (bb0 : Nat) (hy0 : IntRow bb0 w (.slice o_g g.length c_g) g) (bb1 : Nat) (hy1 : IntRow bb1 w (.slice o_q q.length c_q) q) => implMulRng_any p1 n1 (row_seen hy0 (show g.length ≤ 1100000 by omega)) (row_seen hy1 (show q.length ≤ 1100000 by omega))
      have HMD := Lib.hid fun (w : World) => specModulusOf_any p1 n1 w
      rw [e1] at HS
      rw [e7] at HMD
      generalize mirQ p1 n1 g q = s at *
      generalize ringM p1 n1 = M at *
      clear e1 e7
      obtain ⟨A0, A1⟩ := ringAt_cells G_A_21.out
      go_wp2_with fail
      refine (HS.out _ _ R_g_21.out _ R_q_21.out).mono ?_
      rintro e W22 ⟨v22, rfl, r22, b22⟩
      obtain ⟨o_s, c_s, rfl⟩ := row_slice r22
      have B22 := Lib.hid (B21.out.trans (b22.mono B21.out.size))
      have R_f_22 := Lib.hid (row_below R_f_21.out b22 (Nat.le_refl _))
      have R_g_22 := Lib.hid (row_below R_g_21.out b22 (Nat.le_refl _))
      have R_q_22 := Lib.hid (row_below R_q_21.out b22 (Nat.le_refl _))
      have R_r_22 := Lib.hid (row_below R_r_21.out b22 (Nat.le_refl _))
      have G_A_22 := Lib.hid (ringAt_below G_A_21.out b22)
      have R_s_22 := Lib.hid r22
      clear r22 b22
      clear A0 A1
      obtain ⟨A0, A1⟩ := ringAt_cells G_A_22.out
      go_wp2_with fail
      refine (HMD.out _).mono ?_
      rintro e W23 ⟨rfl, b23⟩
      have B23 := Lib.hid (B22.out.trans (b23.mono B22.out.size))
      have R_f_23 := Lib.hid (row_below R_f_22.out b23 (Nat.le_refl _))
      have R_g_23 := Lib.hid (row_below R_g_22.out b23 (Nat.le_refl _))
      have R_q_23 := Lib.hid (row_below R_q_22.out b23 (Nat.le_refl _))
      have R_r_23 := Lib.hid (row_below R_r_22.out b23 (Nat.le_refl _))
      have R_s_23 := Lib.hid (row_below R_s_22.out b23 (Nat.le_refl _))
      have G_A_23 := Lib.hid (ringAt_below G_A_22.out b23)
      clear b23
      clear A0 A1
      clear HS HMD
      obtain ⟨i0, hi, hz0, hz1, hz2⟩ := info_parts Try.infoInt64
      have HI := Lib.hid hi
      have HZ0 := Lib.hid hz0
      have HZ1 := Lib.hid hz1
      have HZ2 := Lib.hid hz2
      clear hi hz0 hz1 hz2
      obtain ⟨L, hL⟩ : ∃ L, max s.length r.length = L := ⟨_, rfl⟩
      rw [hL] at e2
      have hLs : s.length ≤ L := by omega
      have hLr : r.length ≤ L := by omega
      have hL100 : L ≤ 100 := by omega
      have hmax : max (s.length : Int) (r.length : Int) = (L : Int) := by omega
      have HE := Lib.hid e2
      have HSB := Lib.hid e5
      have HRB := Lib.hid e6
      clear e2 e5 e6 hL
      have hP0 : (M == 0) = false := by simp; omega
      have HT0 := Lib.hid (intRow_made W23)
      have HTB := Lib.hid (below_oneP W23 (.cells #[] 2))
      go_wp2_with fail
      go_loopw [35, 36] (fun t i wr => ∃ (k : Nat) (l : List Int), k ≤ L ∧ i = .int .i64 k ∧ l = tabL k (fun i => (s.getD i 0 + r.getD i 0) % M) ∧ IntRow W23.heap.size wr t l ∧ Below W23.heap.size W23 wr) (fun _ i _ => L - (intOf i).toNat)
      case atStart => exact ⟨0, [], Nat.zero_le _, rfl, rfl, HT0.out, HTB.out⟩
      case round =>
        clear HT0 HTB
        obtain ⟨k, l, hk, rfl, hlk, rowg, hbg⟩ := hrel
        have hl : l.length = k := by rw [hlk, tabL_length]
        have HLK := Lib.hid hlk
        obtain ⟨o5, c5, hv⟩ := row_slice rowg
        subst hv
        have RS := Lib.hid (row_below R_s_23.out hbg (Nat.le_refl _))
        have RR := Lib.hid (row_below R_r_23.out hbg (Nat.le_refl _))
        have hb5 := hbg.size
        clear hlk
        by_cases hlt : k < L
        · have hltI : (k : Int) < (L : Int) := by omega
          obtain ⟨x, hx, x0, x1⟩ : ∃ x, s.getD k 0 = x ∧ 0 ≤ x ∧ x ≤ 1000000000 := ⟨_, rfl, HSB.out k⟩
          obtain ⟨y, hy, y0, y1⟩ : ∃ y, r.getD k 0 = y ∧ 0 ≤ y ∧ y ≤ 1000000000 := ⟨_, rfl, HRB.out k⟩
          obtain ⟨z, hz⟩ : ∃ z, (x + y) % M = z := ⟨_, rfl⟩
          have htm : (x + y).tmod M = z := by rw [tmod_pos (by omega), hz]
          have hz97 : 0 ≤ z ∧ z < M := by rw [← hz]; exact ⟨Int.emod_nonneg _ (by omega), Int.emod_lt_of_pos _ (by omega)⟩
          have hwz : IntKind.i64.wrap z = z := IntWalk.i64_in _ (by omega)
          have hwn : IntKind.i64.wrap (x + y) = x + y := IntWalk.i64_in _ (by omega)
          have HST := Lib.hid (show l ++ [z] = tabL (k + 1) (fun i => (s.getD i 0 + r.getD i 0) % M) by rw [HLK.out, tabL_succ]; simp only [hx, hy, hz])
          clear HLK hz
          by_cases hs : k < s.length
          · by_cases hr : k < r.length
            · have hsI : (k : Int) < (s.length : Int) := by omega
              rcases row_shape RS.out with ⟨hz9, _⟩ | ⟨_, gs, cs, hgs, _, _⟩
              · omega
              · injection hgs with g1 _ g2
                subst g1 g2
                have c0 := int_cells RS.out k hs
                rw [hx] at c0
                have hrI : (k : Int) < (r.length : Int) := by omega
                rcases row_shape RR.out with ⟨hz9, _⟩ | ⟨_, gr, cr, hgr, _, _⟩
                · omega
                · injection hgr with g3 _ g4
                  subst g3 g4
                  have c1 := int_cells RR.out k hr
                  rw [hy] at c1
                  go_wp2_with (at_builtin; refine wpList_append_own _ rfl (.tmp 223) (.tmp 227) 26 rfl W23.heap.size 2 i0 (.int .i64 0) 1 8 Try.underlying26 HI.out HZ0.out HZ1.out HZ2.out rfl (by decide) _ _ _ rfl (rowg.alloc _) ⟨wr.heap.size, 0, none⟩ 1 1 [.int .i64 z] rfl rfl ?c1 ?c2 ?c3 ?c4 ?c5 ?_)
                  case c2 => first | exact one_one _ | rfl
                  case c3 => unfold maxLen; omega
                  case c4 => omega
                  case c5 => first | omega | (simp; omega)
                  intro v' w7 hown hgrow _
                  obtain ⟨oo, cc, hvv⟩ := row_slice hown
                  subst hvv
                  have HR4 : Hid (IntRow W23.heap.size w7 (.slice oo (k + 1) cc) (l ++ [z])) := Lib.hid (by have h9 := hown; unfold IntRow; rw [List.map_append, List.length_append, hl]; exact h9)
                  have HB4 := Lib.hid ((hbg.alloc hb5 (.cells #[.int .i64 z] 2)).grown hgrow (by simp; omega) (fun kk hkk => (World.ownsRow.lt (show IntRow W23.heap.size wr (.slice o5 k c5) l by rw [← hl]; exact rowg) kk hkk).1))
                  clear hown hgrow rowg
                  go_wp2_with fail
                  exact ⟨⟨k + 1, l ++ [z], by omega, by go_num, HST.out, HR4.out, HB4.out⟩, by simp only [intOf]; omega⟩
            · have hsI : (k : Int) < (s.length : Int) := by omega
              rcases row_shape RS.out with ⟨hz9, _⟩ | ⟨_, gs, cs, hgs, _, _⟩
              · omega
              · injection hgs with g1 _ g2
                subst g1 g2
                have c0 := int_cells RS.out k hs
                rw [hx] at c0
                have hrI : ¬ (k : Int) < (r.length : Int) := by omega
                have hy0 : y = 0 := by rw [← hy, getD_out (by omega)]
                subst hy0
                rw [Int.add_zero] at htm hwn
                go_wp2_with (at_builtin; refine wpList_append_own _ rfl (.tmp 223) (.tmp 227) 26 rfl W23.heap.size 2 i0 (.int .i64 0) 1 8 Try.underlying26 HI.out HZ0.out HZ1.out HZ2.out rfl (by decide) _ _ _ rfl (rowg.alloc _) ⟨wr.heap.size, 0, none⟩ 1 1 [.int .i64 z] rfl rfl ?c1 ?c2 ?c3 ?c4 ?c5 ?_)
                case c2 => first | exact one_one _ | rfl
                case c3 => unfold maxLen; omega
                case c4 => omega
                case c5 => first | omega | (simp; omega)
                intro v' w7 hown hgrow _
                obtain ⟨oo, cc, hvv⟩ := row_slice hown
                subst hvv
                have HR4 : Hid (IntRow W23.heap.size w7 (.slice oo (k + 1) cc) (l ++ [z])) := Lib.hid (by have h9 := hown; unfold IntRow; rw [List.map_append, List.length_append, hl]; exact h9)
                have HB4 := Lib.hid ((hbg.alloc hb5 (.cells #[.int .i64 z] 2)).grown hgrow (by simp; omega) (fun kk hkk => (World.ownsRow.lt (show IntRow W23.heap.size wr (.slice o5 k c5) l by rw [← hl]; exact rowg) kk hkk).1))
                clear hown hgrow rowg
                go_wp2_with fail
                exact ⟨⟨k + 1, l ++ [z], by omega, by go_num, HST.out, HR4.out, HB4.out⟩, by simp only [intOf]; omega⟩
          · by_cases hr : k < r.length
            · have hsI : ¬ (k : Int) < (s.length : Int) := by omega
              have hx0 : x = 0 := by rw [← hx, getD_out (by omega)]
              subst hx0
              have hrI : (k : Int) < (r.length : Int) := by omega
              rcases row_shape RR.out with ⟨hz9, _⟩ | ⟨_, gr, cr, hgr, _, _⟩
              · omega
              · injection hgr with g3 _ g4
                subst g3 g4
                have c1 := int_cells RR.out k hr
                rw [hy] at c1
                rw [Int.zero_add] at htm
                have hwn2 : IntKind.i64.wrap (0 + y) = y := by rw [Int.zero_add]; exact IntWalk.i64_in _ (by omega)
                go_wp2_with (at_builtin; refine wpList_append_own _ rfl (.tmp 223) (.tmp 227) 26 rfl W23.heap.size 2 i0 (.int .i64 0) 1 8 Try.underlying26 HI.out HZ0.out HZ1.out HZ2.out rfl (by decide) _ _ _ rfl (rowg.alloc _) ⟨wr.heap.size, 0, none⟩ 1 1 [.int .i64 z] rfl rfl ?c1 ?c2 ?c3 ?c4 ?c5 ?_)
                case c2 => first | exact one_one _ | rfl
                case c3 => unfold maxLen; omega
                case c4 => omega
                case c5 => first | omega | (simp; omega)
                intro v' w7 hown hgrow _
                obtain ⟨oo, cc, hvv⟩ := row_slice hown
                subst hvv
                have HR4 : Hid (IntRow W23.heap.size w7 (.slice oo (k + 1) cc) (l ++ [z])) := Lib.hid (by have h9 := hown; unfold IntRow; rw [List.map_append, List.length_append, hl]; exact h9)
                have HB4 := Lib.hid ((hbg.alloc hb5 (.cells #[.int .i64 z] 2)).grown hgrow (by simp; omega) (fun kk hkk => (World.ownsRow.lt (show IntRow W23.heap.size wr (.slice o5 k c5) l by rw [← hl]; exact rowg) kk hkk).1))
                clear hown hgrow rowg
                go_wp2_with fail
                exact ⟨⟨k + 1, l ++ [z], by omega, by go_num, HST.out, HR4.out, HB4.out⟩, by simp only [intOf]; omega⟩
            · exfalso
              omega
        · have hltI : ¬ (k : Int) < (L : Int) := by omega
          have hkL : k = L := by omega
          subst hkL
          have HE' := Lib.hid (show trimL l = f by rw [HLK.out]; exact HE.out)
          have HRG := Lib.hid rowg
          have HBG := Lib.hid hbg
          have RF := Lib.hid (row_below R_f_23.out hbg (Nat.le_refl _))
          have HBT := Lib.hid (B23.out.trans (hbg.mono B23.out.size))
          clear rowg hbg HLK HE RS RR
          have hl1 : l.length = k := hl
          go_wp2_with fail
          go_loop [35] (fun t => ∃ n : Nat, n ≤ k ∧ t = .slice o5 n c5 ∧ trimL (l.take n) = trimL l) (fun t => lenV t)
          case atStart => exact ⟨k, Nat.le_refl _, rfl, by rw [List.take_of_length_le (by omega)]⟩
          case round =>
            obtain ⟨n, hn, rfl, ht⟩ := hrel
            have HT := Lib.hid ht
            clear ht
            have RC := Lib.hid (row_cut HRG.out (show n ≤ l.length by omega))
            by_cases h0 : n = 0
            · subst h0
              have hfe : l.take 0 = f := by rw [← HE'.out, ← HT.out, trim_end (.inl (by simp))]
              rw [hfe] at RC
              have hfl : f.length ≤ 1100000 := by rw [← hfe, List.length_take]; omega
              clear hfe HT HE' HRG
              go_wp2_with fail
              refine (likeInts_same RC.out RF.out hfl).mono ?_
              rintro e w9 ⟨rfl, nd, hw⟩
              have HBE : Hid (Below w.heap.size w w9) := by rw [hw]; exact below_drewN HBT.out nd
              clear hw nd
              go_wp2_with fail
              go_ret
              exact ⟨rfl, HBE.out⟩
            · obtain ⟨m, hm⟩ : ∃ m, n = m + 1 := ⟨n - 1, by omega⟩
              rcases row_shape HRG.out with ⟨hz9, _⟩ | ⟨_, gt, ct, hgt, _, _⟩
              · omega
              · injection hgt with g1 _ g2
                subst g1 g2
                have c0 := int_at HRG.out (by first | exact hl | rfl) (k := m) (by omega)
                have hkc := (row_seen HRG.out (by omega)).2.2.2.1
                obtain ⟨x, hx⟩ : ∃ x, l.getD m 0 = x := ⟨_, rfl⟩
                rw [hx] at c0
                have hm1 : IntKind.i64.wrap ((n : Int) - 1) = (m : Int) := by rw [show (n : Int) - 1 = (m : Int) by omega]; exact IntWalk.i64_in _ (by omega)
                have hmp : (0 : Int) < (n : Int) := by omega
                have hm0 : (0 : Int) ≤ (m : Int) := by omega
                have hml : (m : Int) < (n : Int) := by omega
                have hmc : (m : Int) ≤ (c5 : Int) := by omega
                have HMN := Lib.hid hm
                by_cases hx0 : x = 0
                · have HT2 := Lib.hid (take_trim (n := m) (by omega) (hx.trans hx0) (by rw [← hm]; exact HT.out))
                  have hx' : (x == 0) = true := by simp [hx0]
                  clear hx0 hm hkc HT RC HE' RF HRG hx
                  go_wp2_with fail
                  exact ⟨⟨m, by have := HMN.out; omega, by first | rfl | go_num, HT2.out⟩, by have := HMN.out; simp [lenV]; omega⟩
                · have hx' : (x == 0) = false := by simpa using hx0
                  have hle : (l.take n).length = n := by rw [List.length_take]; omega
                  have hfe : l.take n = f := by rw [← HE'.out, ← HT.out, trim_end (.inr (by rw [hle]; simp only [List.getD, List.getElem?_take, if_pos (show n - 1 < n by omega)]; rw [show n - 1 = m by omega]; simpa [List.getD] using (show l.getD m 0 ≠ 0 by rw [hx]; exact hx0)))]
                  rw [hfe] at RC
                  have hfl : f.length ≤ 1100000 := by rw [← hfe, List.length_take]; omega
                  clear hm hx0 hx hfe HT HE' HRG hkc
                  go_wp2_with fail
                  refine (likeInts_same RC.out RF.out hfl).mono ?_
                  rintro e w9 ⟨rfl, nd, hw⟩
                  have HBE : Hid (Below w.heap.size w w9) := by rw [hw]; exact below_drewN HBT.out nd
                  clear hw nd
                  go_wp2_with fail
                  go_ret
                  exact ⟨rfl, HBE.out⟩
    · have h1' : (k != 0) = true := by simpa using h1
      clear h1 HV
      have HBE := Lib.hid B21.out
      go_wp2_with fail
      go_ret
      exact ⟨rfl, HBE.out⟩
  · have hk3' : (k3 == 0) = false := by simpa using hk3
    clear hk3 HT
    by_cases h1 : k = 0
    · obtain ⟨e1, e2, e3, ⟨M2, M97⟩, e5, e6, e7, hs100, _⟩ := HV.out h1
      subst h1
      clear HV
      have e3I : (r.length : Int) < (g.length : Int) := by omega
      have HS := Lib.hid fun (w : World) (bb0 : Nat) (hy0 : IntRow bb0 w (.slice o_g g.length c_g) g) (bb1 : Nat) (hy1 : IntRow bb1 w (.slice o_q q.length c_q) q) => implMulRng_any p1 n1 (row_seen hy0 (show g.length ≤ 1100000 by omega)) (row_seen hy1 (show q.length ≤ 1100000 by omega))
      have HMD := Lib.hid fun (w : World) => specModulusOf_any p1 n1 w
      rw [e1] at HS
      rw [e7] at HMD
      generalize mirQ p1 n1 g q = s at *
      generalize ringM p1 n1 = M at *
      clear e1 e7
      obtain ⟨A0, A1⟩ := ringAt_cells G_A_20.out
      go_wp2_with fail
      refine (HS.out _ _ R_g_20.out _ R_q_20.out).mono ?_
      rintro e W24 ⟨v24, rfl, r24, b24⟩
      obtain ⟨o_s, c_s, rfl⟩ := row_slice r24
      have B24 := Lib.hid (B20.out.trans (b24.mono B20.out.size))
      have R_f_24 := Lib.hid (row_below R_f_20.out b24 (Nat.le_refl _))
      have R_g_24 := Lib.hid (row_below R_g_20.out b24 (Nat.le_refl _))
      have R_q_24 := Lib.hid (row_below R_q_20.out b24 (Nat.le_refl _))
      have R_r_24 := Lib.hid (row_below R_r_20.out b24 (Nat.le_refl _))
      have G_A_24 := Lib.hid (ringAt_below G_A_20.out b24)
      have R_s_24 := Lib.hid r24
      clear r24 b24
      clear A0 A1
      obtain ⟨A0, A1⟩ := ringAt_cells G_A_24.out
      go_wp2_with fail
      refine (HMD.out _).mono ?_
      rintro e W25 ⟨rfl, b25⟩
      have B25 := Lib.hid (B24.out.trans (b25.mono B24.out.size))
      have R_f_25 := Lib.hid (row_below R_f_24.out b25 (Nat.le_refl _))
      have R_g_25 := Lib.hid (row_below R_g_24.out b25 (Nat.le_refl _))
      have R_q_25 := Lib.hid (row_below R_q_24.out b25 (Nat.le_refl _))
      have R_r_25 := Lib.hid (row_below R_r_24.out b25 (Nat.le_refl _))
      have R_s_25 := Lib.hid (row_below R_s_24.out b25 (Nat.le_refl _))
      have G_A_25 := Lib.hid (ringAt_below G_A_24.out b25)
      clear b25
      clear A0 A1
      clear HS HMD
      obtain ⟨i0, hi, hz0, hz1, hz2⟩ := info_parts Try.infoInt64
      have HI := Lib.hid hi
      have HZ0 := Lib.hid hz0
      have HZ1 := Lib.hid hz1
      have HZ2 := Lib.hid hz2
      clear hi hz0 hz1 hz2
      obtain ⟨L, hL⟩ : ∃ L, max s.length r.length = L := ⟨_, rfl⟩
      rw [hL] at e2
      have hLs : s.length ≤ L := by omega
      have hLr : r.length ≤ L := by omega
      have hL100 : L ≤ 100 := by omega
      have hmax : max (s.length : Int) (r.length : Int) = (L : Int) := by omega
      have HE := Lib.hid e2
      have HSB := Lib.hid e5
      have HRB := Lib.hid e6
      clear e2 e5 e6 hL
      have hP0 : (M == 0) = false := by simp; omega
      have HT0 := Lib.hid (intRow_made W25)
      have HTB := Lib.hid (below_oneP W25 (.cells #[] 2))
      go_wp2_with fail
      go_loopw [35, 36] (fun t i wr => ∃ (k : Nat) (l : List Int), k ≤ L ∧ i = .int .i64 k ∧ l = tabL k (fun i => (s.getD i 0 + r.getD i 0) % M) ∧ IntRow W25.heap.size wr t l ∧ Below W25.heap.size W25 wr) (fun _ i _ => L - (intOf i).toNat)
      case atStart => exact ⟨0, [], Nat.zero_le _, rfl, rfl, HT0.out, HTB.out⟩
      case round =>
        clear HT0 HTB
        obtain ⟨k, l, hk, rfl, hlk, rowg, hbg⟩ := hrel
        have hl : l.length = k := by rw [hlk, tabL_length]
        have HLK := Lib.hid hlk
        obtain ⟨o5, c5, hv⟩ := row_slice rowg
        subst hv
        have RS := Lib.hid (row_below R_s_25.out hbg (Nat.le_refl _))
        have RR := Lib.hid (row_below R_r_25.out hbg (Nat.le_refl _))
        have hb5 := hbg.size
        clear hlk
        by_cases hlt : k < L
        · have hltI : (k : Int) < (L : Int) := by omega
          obtain ⟨x, hx, x0, x1⟩ : ∃ x, s.getD k 0 = x ∧ 0 ≤ x ∧ x ≤ 1000000000 := ⟨_, rfl, HSB.out k⟩
          obtain ⟨y, hy, y0, y1⟩ : ∃ y, r.getD k 0 = y ∧ 0 ≤ y ∧ y ≤ 1000000000 := ⟨_, rfl, HRB.out k⟩
          obtain ⟨z, hz⟩ : ∃ z, (x + y) % M = z := ⟨_, rfl⟩
          have htm : (x + y).tmod M = z := by rw [tmod_pos (by omega), hz]
          have hz97 : 0 ≤ z ∧ z < M := by rw [← hz]; exact ⟨Int.emod_nonneg _ (by omega), Int.emod_lt_of_pos _ (by omega)⟩
          have hwz : IntKind.i64.wrap z = z := IntWalk.i64_in _ (by omega)
          have hwn : IntKind.i64.wrap (x + y) = x + y := IntWalk.i64_in _ (by omega)
          have HST := Lib.hid (show l ++ [z] = tabL (k + 1) (fun i => (s.getD i 0 + r.getD i 0) % M) by rw [HLK.out, tabL_succ]; simp only [hx, hy, hz])
          clear HLK hz
          by_cases hs : k < s.length
          · by_cases hr : k < r.length
            · have hsI : (k : Int) < (s.length : Int) := by omega
              rcases row_shape RS.out with ⟨hz9, _⟩ | ⟨_, gs, cs, hgs, _, _⟩
              · omega
              · injection hgs with g1 _ g2
                subst g1 g2
                have c0 := int_cells RS.out k hs
                rw [hx] at c0
                have hrI : (k : Int) < (r.length : Int) := by omega
                rcases row_shape RR.out with ⟨hz9, _⟩ | ⟨_, gr, cr, hgr, _, _⟩
                · omega
                · injection hgr with g3 _ g4
                  subst g3 g4
                  have c1 := int_cells RR.out k hr
                  rw [hy] at c1
                  go_wp2_with (at_builtin; refine wpList_append_own _ rfl (.tmp 223) (.tmp 227) 26 rfl W25.heap.size 2 i0 (.int .i64 0) 1 8 Try.underlying26 HI.out HZ0.out HZ1.out HZ2.out rfl (by decide) _ _ _ rfl (rowg.alloc _) ⟨wr.heap.size, 0, none⟩ 1 1 [.int .i64 z] rfl rfl ?d1 ?d2 ?d3 ?d4 ?d5 ?_)
                  case d2 => first | exact one_one _ | rfl
                  case d3 => unfold maxLen; omega
                  case d4 => omega
                  case d5 => first | omega | (simp; omega)
                  intro v' w7 hown hgrow _
                  obtain ⟨oo, cc, hvv⟩ := row_slice hown
                  subst hvv
                  have HR4 : Hid (IntRow W25.heap.size w7 (.slice oo (k + 1) cc) (l ++ [z])) := Lib.hid (by have h9 := hown; unfold IntRow; rw [List.map_append, List.length_append, hl]; exact h9)
                  have HB4 := Lib.hid ((hbg.alloc hb5 (.cells #[.int .i64 z] 2)).grown hgrow (by simp; omega) (fun kk hkk => (World.ownsRow.lt (show IntRow W25.heap.size wr (.slice o5 k c5) l by rw [← hl]; exact rowg) kk hkk).1))
                  clear hown hgrow rowg
                  go_wp2_with fail
                  exact ⟨⟨k + 1, l ++ [z], by omega, by go_num, HST.out, HR4.out, HB4.out⟩, by simp only [intOf]; omega⟩
            · have hsI : (k : Int) < (s.length : Int) := by omega
              rcases row_shape RS.out with ⟨hz9, _⟩ | ⟨_, gs, cs, hgs, _, _⟩
              · omega
              · injection hgs with g1 _ g2
                subst g1 g2
                have c0 := int_cells RS.out k hs
                rw [hx] at c0
                have hrI : ¬ (k : Int) < (r.length : Int) := by omega
                have hy0 : y = 0 := by rw [← hy, getD_out (by omega)]
                subst hy0
                rw [Int.add_zero] at htm hwn
                go_wp2_with (at_builtin; refine wpList_append_own _ rfl (.tmp 223) (.tmp 227) 26 rfl W25.heap.size 2 i0 (.int .i64 0) 1 8 Try.underlying26 HI.out HZ0.out HZ1.out HZ2.out rfl (by decide) _ _ _ rfl (rowg.alloc _) ⟨wr.heap.size, 0, none⟩ 1 1 [.int .i64 z] rfl rfl ?d1 ?d2 ?d3 ?d4 ?d5 ?_)
                case d2 => first | exact one_one _ | rfl
                case d3 => unfold maxLen; omega
                case d4 => omega
                case d5 => first | omega | (simp; omega)
                intro v' w7 hown hgrow _
                obtain ⟨oo, cc, hvv⟩ := row_slice hown
                subst hvv
                have HR4 : Hid (IntRow W25.heap.size w7 (.slice oo (k + 1) cc) (l ++ [z])) := Lib.hid (by have h9 := hown; unfold IntRow; rw [List.map_append, List.length_append, hl]; exact h9)
                have HB4 := Lib.hid ((hbg.alloc hb5 (.cells #[.int .i64 z] 2)).grown hgrow (by simp; omega) (fun kk hkk => (World.ownsRow.lt (show IntRow W25.heap.size wr (.slice o5 k c5) l by rw [← hl]; exact rowg) kk hkk).1))
                clear hown hgrow rowg
                go_wp2_with fail
                exact ⟨⟨k + 1, l ++ [z], by omega, by go_num, HST.out, HR4.out, HB4.out⟩, by simp only [intOf]; omega⟩
          · by_cases hr : k < r.length
            · have hsI : ¬ (k : Int) < (s.length : Int) := by omega
              have hx0 : x = 0 := by rw [← hx, getD_out (by omega)]
              subst hx0
              have hrI : (k : Int) < (r.length : Int) := by omega
              rcases row_shape RR.out with ⟨hz9, _⟩ | ⟨_, gr, cr, hgr, _, _⟩
              · omega
              · injection hgr with g3 _ g4
                subst g3 g4
                have c1 := int_cells RR.out k hr
                rw [hy] at c1
                rw [Int.zero_add] at htm
                have hwn2 : IntKind.i64.wrap (0 + y) = y := by rw [Int.zero_add]; exact IntWalk.i64_in _ (by omega)
                go_wp2_with (at_builtin; refine wpList_append_own _ rfl (.tmp 223) (.tmp 227) 26 rfl W25.heap.size 2 i0 (.int .i64 0) 1 8 Try.underlying26 HI.out HZ0.out HZ1.out HZ2.out rfl (by decide) _ _ _ rfl (rowg.alloc _) ⟨wr.heap.size, 0, none⟩ 1 1 [.int .i64 z] rfl rfl ?d1 ?d2 ?d3 ?d4 ?d5 ?_)
                case d2 => first | exact one_one _ | rfl
                case d3 => unfold maxLen; omega
                case d4 => omega
                case d5 => first | omega | (simp; omega)
                intro v' w7 hown hgrow _
                obtain ⟨oo, cc, hvv⟩ := row_slice hown
                subst hvv
                have HR4 : Hid (IntRow W25.heap.size w7 (.slice oo (k + 1) cc) (l ++ [z])) := Lib.hid (by have h9 := hown; unfold IntRow; rw [List.map_append, List.length_append, hl]; exact h9)
                have HB4 := Lib.hid ((hbg.alloc hb5 (.cells #[.int .i64 z] 2)).grown hgrow (by simp; omega) (fun kk hkk => (World.ownsRow.lt (show IntRow W25.heap.size wr (.slice o5 k c5) l by rw [← hl]; exact rowg) kk hkk).1))
                clear hown hgrow rowg
                go_wp2_with fail
                exact ⟨⟨k + 1, l ++ [z], by omega, by go_num, HST.out, HR4.out, HB4.out⟩, by simp only [intOf]; omega⟩
            · exfalso
              omega
        · have hltI : ¬ (k : Int) < (L : Int) := by omega
          have hkL : k = L := by omega
          subst hkL
          have HE' := Lib.hid (show trimL l = f by rw [HLK.out]; exact HE.out)
          have HRG := Lib.hid rowg
          have HBG := Lib.hid hbg
          have RF := Lib.hid (row_below R_f_25.out hbg (Nat.le_refl _))
          have HBT := Lib.hid (B25.out.trans (hbg.mono B25.out.size))
          clear rowg hbg HLK HE RS RR
          have hl1 : l.length = k := hl
          go_wp2_with fail
          go_loop [35] (fun t => ∃ n : Nat, n ≤ k ∧ t = .slice o5 n c5 ∧ trimL (l.take n) = trimL l) (fun t => lenV t)
          case atStart => exact ⟨k, Nat.le_refl _, rfl, by rw [List.take_of_length_le (by omega)]⟩
          case round =>
            obtain ⟨n, hn, rfl, ht⟩ := hrel
            have HT := Lib.hid ht
            clear ht
            have RC := Lib.hid (row_cut HRG.out (show n ≤ l.length by omega))
            by_cases h0 : n = 0
            · subst h0
              have hfe : l.take 0 = f := by rw [← HE'.out, ← HT.out, trim_end (.inl (by simp))]
              rw [hfe] at RC
              have hfl : f.length ≤ 1100000 := by rw [← hfe, List.length_take]; omega
              clear hfe HT HE' HRG
              go_wp2_with fail
              refine (likeInts_same RC.out RF.out hfl).mono ?_
              rintro e w9 ⟨rfl, nd, hw⟩
              have HBE : Hid (Below w.heap.size w w9) := by rw [hw]; exact below_drewN HBT.out nd
              clear hw nd
              go_wp2_with fail
              go_ret
              exact ⟨rfl, HBE.out⟩
            · obtain ⟨m, hm⟩ : ∃ m, n = m + 1 := ⟨n - 1, by omega⟩
              rcases row_shape HRG.out with ⟨hz9, _⟩ | ⟨_, gt, ct, hgt, _, _⟩
              · omega
              · injection hgt with g1 _ g2
                subst g1 g2
                have c0 := int_at HRG.out (by first | exact hl | rfl) (k := m) (by omega)
                have hkc := (row_seen HRG.out (by omega)).2.2.2.1
                obtain ⟨x, hx⟩ : ∃ x, l.getD m 0 = x := ⟨_, rfl⟩
                rw [hx] at c0
                have hm1 : IntKind.i64.wrap ((n : Int) - 1) = (m : Int) := by rw [show (n : Int) - 1 = (m : Int) by omega]; exact IntWalk.i64_in _ (by omega)
                have hmp : (0 : Int) < (n : Int) := by omega
                have hm0 : (0 : Int) ≤ (m : Int) := by omega
                have hml : (m : Int) < (n : Int) := by omega
                have hmc : (m : Int) ≤ (c5 : Int) := by omega
                have HMN := Lib.hid hm
                by_cases hx0 : x = 0
                · have HT2 := Lib.hid (take_trim (n := m) (by omega) (hx.trans hx0) (by rw [← hm]; exact HT.out))
                  have hx' : (x == 0) = true := by simp [hx0]
                  clear hx0 hm hkc HT RC HE' RF HRG hx
                  go_wp2_with fail
                  exact ⟨⟨m, by have := HMN.out; omega, by first | rfl | go_num, HT2.out⟩, by have := HMN.out; simp [lenV]; omega⟩
                · have hx' : (x == 0) = false := by simpa using hx0
                  have hle : (l.take n).length = n := by rw [List.length_take]; omega
                  have hfe : l.take n = f := by rw [← HE'.out, ← HT.out, trim_end (.inr (by rw [hle]; simp only [List.getD, List.getElem?_take, if_pos (show n - 1 < n by omega)]; rw [show n - 1 = m by omega]; simpa [List.getD] using (show l.getD m 0 ≠ 0 by rw [hx]; exact hx0)))]
                  rw [hfe] at RC
                  have hfl : f.length ≤ 1100000 := by rw [← hfe, List.length_take]; omega
                  clear hm hx0 hx hfe HT HE' HRG hkc
                  go_wp2_with fail
                  refine (likeInts_same RC.out RF.out hfl).mono ?_
                  rintro e w9 ⟨rfl, nd, hw⟩
                  have HBE : Hid (Below w.heap.size w w9) := by rw [hw]; exact below_drewN HBT.out nd
                  clear hw nd
                  go_wp2_with fail
                  go_ret
                  exact ⟨rfl, HBE.out⟩
    · have h1' : (k != 0) = true := by simpa using h1
      clear h1 HV
      have HBE := Lib.hid B20.out
      go_wp2_with fail
      go_ret
      exact ⟨rfl, HBE.out⟩
set_option maxRecDepth 100000 in
theorem ringprods_walk (a : Option Addr) (len cap : Nat) (zs : List Int) (w : World) (h : IsRowOf .u8 w a len cap zs) :
    Calls Try.prog 4 #[.slice a len cap] w fun e w' => e = .returned (.bool true) ∧ Below w.heap.size w w' := by
  obtain ⟨hc, hm⟩ := codeIn_of h
  by_cases hl : len ≤ 4096
  · exact ringprods_core a len cap w hl hc
  · clear hc h
    go_enter Try.func4, Try.ntmps4
    go_wp2_with (go_at_call 14; refine (big_yes _ _ _ _ (by omega) (by omega)).mono ?_; rintro e w' ⟨rfl, rfl⟩)
    go_ret
    exact ⟨rfl, Below.refl _ _⟩
end Go.Proofs.Ytbjkcoajabcibaa
