/- Contracts of the walk: chapter 10: CountWithDegrees in spec. -/
import Derived.Test.YtjmecidbnoimnaaCntWay2
import Derived.Deep.DeepHandedRow
import Derived.BigQuiet
import Derived.Deep.QuietTactic
namespace Go.Proofs.Ytjmecidbnoimnaa
open Go.RowKit Go.Maps
set_option linter.unusedVariables false
set_option linter.unusedSimpArgs false
set_option maxRecDepth 20000
theorem inB_in {n lo hi : Int} (h : inB n lo hi = true) : lo ≤ n ∧ n ≤ hi := by
  rcases (by omega : n < lo ∨ (lo ≤ n ∧ n ≤ hi) ∨ hi < n) with h3 | h3 | h3
  · rw [inB_f (.inl h3)] at h; cases h
  · exact h3
  · rw [inB_f (.inr h3)] at h; cases h
section
variable {P : Program} {ops : Array Oper} {Q : Exit → Act → World → Prop} {md : Region.Mode} {S : World → Prop}
theorem take_at10 {i d : Nat} {oi : Oper} {v : Value} {fuel : Nat} {listed : Array Bool} {a : Act} {w : World} (hi : ops[i]? = some oi) (hd : oi.dst = some d)
    (hs : Region.noSelect ops = true) (hf : Region.free md ops listed i = true) (hr : (Region.ready md ops listed).contains i = true)
    (hQ : ∀ c a w, Q (.panic c) (a.put oi.dst v) w → Q (.panic c) a w) (hy : YieldsIf P ops S oi v a) (hS : S w)
    (h : wpAnyH P md ops Q S fuel (listed.setIfInBounds i true) (a.put (some d) v) w) : wpAnyH P md ops Q S (fuel + 1) listed a w :=
  wpAnyH_take hi hs hf hr hQ hy hS (by rw [hd]; exact h)
end
theorem min_cap (r : Int) : (if 1000000001 < r then 1000000001 else r) = capI r := by unfold capI; split <;> split <;> omega
theorem cap_step {x r : Int} (h0 : 0 ≤ x) (h1 : x ≤ 1000000001) (hr : 0 ≤ r) :
    (if wrap64 (x * if 1000000001 < r then 1000000001 else r) < 1000000001 then wrap64 (x * if 1000000001 < r then 1000000001 else r) else 1000000001) = capI (x * capI r) := by
  rw [min_cap]
  have hc := capI_bd hr
  have hm : 0 ≤ x * capI r := Int.mul_nonneg h0 hc.1
  have hm2 : x * capI r ≤ 1000000001 * 1000000001 := Int.mul_le_mul h1 hc.2 hc.1 (by omega)
  have hw : wrap64 (x * capI r) = x * capI r := IntWalk.wrap64_in _ ⟨by omega, by omega⟩
  rw [hw]
  generalize x * capI r = y at *
  unfold capI
  split <;> split <;> omega
def AtW10 (W0 W : World) : Prop := W = W0
theorem degOk_more {l : List Int} (h : ¬ DegOk l) : l.length ≤ 8 → DegU l l.length → 8 < sumP l l.length := by
  intro h8 hu
  rcases Int.lt_or_le 8 (sumP l l.length) with h2 | h2
  · exact h2
  · exact absurd ⟨hu, h2⟩ h
theorem degU_not {l : List Int} {k : Nat} (hk : k < l.length) (h : ¬ (1 ≤ l.getD k 0 ∧ l.getD k 0 ≤ 8 ∧ (0 < k → l.getD (k - 1) 0 ≤ l.getD k 0))) : ¬ DegOk l := fun hd => h (hd.1 k hk)
/-- the choices of the degrees up to d: how spec keeps them -/
def OutR (P : Int) (z : Bool) (o : Int) : Prop := 0 ≤ o ∧ o ≤ 1000000001 ∧ 0 ≤ P ∧ (z = true → P = 0) ∧ (z = false → 1 ≤ P ∧ o = capI P)
theorem outR_start : OutR 1 false 1 := ⟨by omega, by omega, by omega, (fun h => by cases h), fun _ => ⟨by omega, rfl⟩⟩
theorem outR_next {P B r o : Int} {z : Bool} (h : OutR P z o) (hB : 0 ≤ B) (hr : 0 ≤ r) (hc : capI r = capI B) : OutR (P * B) (z || r == 0) (capI (o * capI r)) := by
  obtain ⟨h0, h1, hP, ht, hf⟩ := h
  have hcr := capI_bd hr
  have hz : r = 0 ↔ B = 0 := by rw [← capI_zero hr, ← capI_zero hB, hc]
  have hm : 0 ≤ o * capI r := Int.mul_nonneg h0 hcr.1
  refine ⟨(capI_bd hm).1, (capI_bd hm).2, Int.mul_nonneg hP hB, fun e => ?_, fun e => ?_⟩
  · rw [Bool.or_eq_true] at e
    rcases e with e | e
    · rw [ht e, Int.zero_mul]
    · rw [hz.1 (by simpa using e), Int.mul_zero]
  · rw [Bool.or_eq_false_iff] at e
    obtain ⟨p1, p2⟩ := hf e.1
    have hr1 : ¬ r = 0 := by simpa using e.2
    have hB1 : 1 ≤ B := by have : ¬ B = 0 := fun e => hr1 (hz.2 e); omega
    have h2 : 1 * 1 ≤ P * B := Int.mul_le_mul p1 hB1 (by omega) (by omega)
    exact ⟨by omega, by rw [p2, hc]; exact capI_mul p1 hB1⟩
set_option maxHeartbeats 4000000 in
theorem specCw_any (p : Int) {o : Option Addr} {n c : Nat} {l : List Int} {w : World} (h : Seen w o n c l) :
    Calls Try.prog 23 #[.int .i64 p, .slice o n c] w fun e w' => e = .returned (.tuple #[.int .i64 (cwQ p l), .int .i64 (cwC p l)]) ∧ Below w.heap.size w w' := by
  obtain ⟨hl, hn, hno, hnc, g, h1, h2⟩ := h
  cases hs : smallB p
  · rw [show cwQ p l = 0 by simp [cwQ, hs], show cwC p l = 1 by simp [cwC, hs]]
    clear h1 h2 hno hnc hl
    go_enter Try.func23, Try.ntmps23
    go_wp2_with fail
    refine (l01Small_any p w).mono ?_
    rw [hs]
    rintro e w2 ⟨rfl, rfl⟩
    go_wp2_with fail
    go_ret2
    exact ⟨rfl, Below.refl _ _⟩
  · obtain ⟨p2, p97⟩ := smallB_bd hs
    have HN := Lib.hid fun (hd : ¬ DegOk l) => (show cwQ p l = 0 ∧ cwC p l = 2 by simp [cwQ, cwC, hs, hd])
    have HY := Lib.hid fun (hd : DegOk l) => (show cwQ p l = limQ (wayL p l l.length) ∧ cwC p l = limC (wayL p l l.length) by simp [cwQ, cwC, hs, hd])
    by_cases h9 : 8 < n
    · obtain ⟨e1, e2⟩ := HN.out (fun hd => by have := degOk_len hd; omega)
      have h9' : (8 : Int) < (n : Int) := by omega
      rw [e1, e2]
      clear h1 h2 hno hnc hl
      go_enter Try.func23, Try.ntmps23
      go_wp2_with fail
      refine (l01Small_any p w).mono ?_
      rw [hs]
      rintro e w2 ⟨rfl, rfl⟩
      go_wp2_with fail
      go_ret2
      exact ⟨rfl, Below.refl _ _⟩
    · have h9' : ¬ (8 : Int) < (n : Int) := by omega
      have HO := Lib.hid fun h => (h1 h).1
      have HC := Lib.hid h2
      have HB := Lib.hid fun (W : World) (hb : Below w.heap.size w W) (k : Nat) (hk : k < n) => (show W.cell? ⟨g, k, none⟩ = some (.int .i64 (l.getD k 0)) by rw [hb.cell (p := ⟨g, k, none⟩) (h1 (by omega)).2]; exact h2 k hk)
      have HL := Lib.hid hl
      clear h1 h2 hno hnc hl
      go_enter Try.func23, Try.ntmps23
      go_wp2_with fail
      refine (l01Small_any p w).mono ?_
      rw [hs]
      rintro e w2 ⟨rfl, rfl⟩
      go_wp2_with fail
      go_loopw [6, 7] (fun t i wr => ∃ (k nd : Nat), k ≤ n ∧ i = .int .i64 k ∧ t = .int .i64 (sumP l k) ∧ DegU l k ∧ wr = w.drewN nd) (fun _ i _ => n - (intOf i).toNat)
      case atStart => exact ⟨0, 0, Nat.zero_le _, rfl, rfl, degU_zero l, rfl⟩
      case round =>
        obtain ⟨k, nd, hk, rfl, rfl, hu, rfl⟩ := hrel
        by_cases hlt : k < n
        · have hkl : k < l.length := by have := HL.out; omega
          have hog := HO.out (by omega)
          subst hog
          have a2 : w.cell? ⟨g, k, none⟩ = some (.int .i64 (l.getD k 0)) := HC.out k hlt
          have hkn : (k : Int) < (n : Int) := by omega
          have hk8 : (k : Int) ≤ 8 := by omega
          have HNO := Lib.hid fun h => HN.out (degU_not (l := l) hkl h)
          have HU := Lib.hid fun a b d => degU_succ (l := l) (k := k) hu a b d
          have hs0 := sumP_ge hu
          have hs8 := sumP_le hu
          have HSS := Lib.hid (show sumP l (k + 1) = sumP l k + l.getD k 0 from rfl)
          generalize sumP l k = s at *
          obtain ⟨x, hx⟩ : ∃ x, l.getD k 0 = x := ⟨_, rfl⟩
          rw [hx] at a2 HNO HU HSS
          have hbs : 0 ≤ s ∧ s ≤ 64 := by omega
          clear hu hx hs0 hs8 hkl
          have hdw : (w.drewN nd).drew = w.drewN (nd + 1) := by first | rfl | rw [World.drewN_drewN]
          have HDW := Lib.hid hdw
          clear hdw
          cases hin : inB x 1 8
          · have HE := Lib.hid (HNO.out (fun hh => by rw [inB_t hh.1 hh.2.1] at hin; cases hin))
            go_upto_region 9 with fail
            refine wp_region_held_drew (S := AtW10 (w.drewN nd).drew) (by kernel_rfl) (show AtW10 _ _ from rfl) (fun hHeld => ?_)
            refine take_at10 (i := 0) (d := 26) (v := .slice (some ⟨g, 0, none⟩) n c) rfl rfl (by kernel_rfl) (by kernel_rfl) (by kernel_rfl) (fun _ _ _ h => h) (Or.inl ⟨by rfl, ?_⟩) hHeld ?_
            · intro w' hS; obtain rfl : w' = (w.drewN nd).drew := hS; go_simp; all_goals (try omega)
            try simp only [Act.put, List.setIfInBounds_toArray, List.set_cons_zero, List.set_cons_succ]
            refine take_at10 (i := 1) (d := 27) (v := .int .i64 k) rfl rfl (by kernel_rfl) (by kernel_rfl) (by kernel_rfl) (fun _ _ _ h => h) (Or.inl ⟨by rfl, ?_⟩) hHeld ?_
            · intro w' hS; obtain rfl : w' = (w.drewN nd).drew := hS; go_simp; all_goals (try omega)
            try simp only [Act.put, List.setIfInBounds_toArray, List.set_cons_zero, List.set_cons_succ]
            refine take_at10 (i := 2) (d := 28) (v := .pointer (some ⟨g, k, none⟩)) rfl rfl (by kernel_rfl) (by kernel_rfl) (by kernel_rfl) (fun _ _ _ h => h) (Or.inl ⟨by rfl, ?_⟩) hHeld ?_
            · intro w' hS; obtain rfl : w' = (w.drewN nd).drew := hS; go_simp; all_goals (try omega)
            try simp only [Act.put, List.setIfInBounds_toArray, List.set_cons_zero, List.set_cons_succ]
            refine take_at10 (i := 3) (d := 29) (v := .int .i64 x) rfl rfl (by kernel_rfl) (by kernel_rfl) (by kernel_rfl) (fun _ _ _ h => h) (Or.inl ⟨by rfl, ?_⟩) hHeld ?_
            · intro w' hS; obtain rfl : w' = (w.drewN nd).drew := hS; go_simp; all_goals (try omega)
            try simp only [Act.put, List.setIfInBounds_toArray, List.set_cons_zero, List.set_cons_succ]
            refine wpAnyH_ready (rs := [4]) (by kernel_rfl) (by simp) ?_
            refine AllReadyH.cons rfl (fun K hK => ?_) AllReadyH.nil
            go_simp
            go_at_call 64
            refine (in_any x 1 8 _).mono ?_
            rw [hin]
            rintro e w3 ⟨rfl, rfl⟩
            go_simp
            refine hK.out _ _ (show AtW10 _ _ from rfl) (fun hHeld => ?_)
            clear hK K
            try simp only [Act.put, List.setIfInBounds_toArray, List.set_cons_zero, List.set_cons_succ]
            refine take_at10 (i := 5) (d := 31) (v := .bool true) rfl rfl (by kernel_rfl) (by kernel_rfl) (by kernel_rfl) (fun _ _ _ h => h) (Or.inl ⟨by rfl, ?_⟩) hHeld ?_
            · intro w' hS; obtain rfl : w' = (w.drewN nd).drew := hS; go_simp; all_goals (try omega)
            try simp only [Act.put, List.setIfInBounds_toArray, List.set_cons_zero, List.set_cons_succ]
            refine take_at10 (i := 6) (d := 32) (v := .bool true) rfl rfl (by kernel_rfl) (by kernel_rfl) (by kernel_rfl) (fun _ _ _ h => h) (Or.inl ⟨by rfl, ?_⟩) hHeld ?_
            · intro w' hS; obtain rfl : w' = (w.drewN nd).drew := hS; go_simp; all_goals (try omega)
            try simp only [Act.put, List.setIfInBounds_toArray, List.set_cons_zero, List.set_cons_succ]
            refine take_at10 (i := 7) (d := 33) (v := undef) rfl rfl (by kernel_rfl) (by kernel_rfl) (by kernel_rfl) (fun _ _ _ h => h) (Or.inr ⟨by kernel_rfl, rfl⟩) hHeld ?_
            try simp only [Act.put, List.setIfInBounds_toArray, List.set_cons_zero, List.set_cons_succ]
            refine take_at10 (i := 8) (d := 34) (v := undef) rfl rfl (by kernel_rfl) (by kernel_rfl) (by kernel_rfl) (fun _ _ _ h => h) (Or.inr ⟨by kernel_rfl, rfl⟩) hHeld ?_
            try simp only [Act.put, List.setIfInBounds_toArray, List.set_cons_zero, List.set_cons_succ]
            refine take_at10 (i := 9) (d := 35) (v := undef) rfl rfl (by kernel_rfl) (by kernel_rfl) (by kernel_rfl) (fun _ _ _ h => h) (Or.inr ⟨by kernel_rfl, rfl⟩) hHeld ?_
            try simp only [Act.put, List.setIfInBounds_toArray, List.set_cons_zero, List.set_cons_succ]
            refine take_at10 (i := 10) (d := 36) (v := undef) rfl rfl (by kernel_rfl) (by kernel_rfl) (by kernel_rfl) (fun _ _ _ h => h) (Or.inr ⟨by kernel_rfl, rfl⟩) hHeld ?_
            try simp only [Act.put, List.setIfInBounds_toArray, List.set_cons_zero, List.set_cons_succ]
            refine take_at10 (i := 11) (d := 37) (v := undef) rfl rfl (by kernel_rfl) (by kernel_rfl) (by kernel_rfl) (fun _ _ _ h => h) (Or.inr ⟨by kernel_rfl, rfl⟩) hHeld ?_
            try simp only [Act.put, List.setIfInBounds_toArray, List.set_cons_zero, List.set_cons_succ]
            refine take_at10 (i := 12) (d := 38) (v := undef) rfl rfl (by kernel_rfl) (by kernel_rfl) (by kernel_rfl) (fun _ _ _ h => h) (Or.inr ⟨by kernel_rfl, rfl⟩) hHeld ?_
            try simp only [Act.put, List.setIfInBounds_toArray, List.set_cons_zero, List.set_cons_succ]
            refine take_at10 (i := 13) (d := 39) (v := undef) rfl rfl (by kernel_rfl) (by kernel_rfl) (by kernel_rfl) (fun _ _ _ h => h) (Or.inr ⟨by kernel_rfl, rfl⟩) hHeld ?_
            try simp only [Act.put, List.setIfInBounds_toArray, List.set_cons_zero, List.set_cons_succ]
            refine take_at10 (i := 14) (d := 40) (v := undef) rfl rfl (by kernel_rfl) (by kernel_rfl) (by kernel_rfl) (fun _ _ _ h => h) (Or.inr ⟨by kernel_rfl, rfl⟩) hHeld ?_
            try simp only [Act.put, List.setIfInBounds_toArray, List.set_cons_zero, List.set_cons_succ]
            refine take_at10 (i := 15) (d := 41) (v := undef) rfl rfl (by kernel_rfl) (by kernel_rfl) (by kernel_rfl) (fun _ _ _ h => h) (Or.inr ⟨by kernel_rfl, rfl⟩) hHeld ?_
            try simp only [Act.put, List.setIfInBounds_toArray, List.set_cons_zero, List.set_cons_succ]
            refine take_at10 (i := 16) (d := 42) (v := undef) rfl rfl (by kernel_rfl) (by kernel_rfl) (by kernel_rfl) (fun _ _ _ h => h) (Or.inr ⟨by kernel_rfl, rfl⟩) hHeld ?_
            try simp only [Act.put, List.setIfInBounds_toArray, List.set_cons_zero, List.set_cons_succ]
            refine take_at10 (i := 17) (d := 43) (v := undef) rfl rfl (by kernel_rfl) (by kernel_rfl) (by kernel_rfl) (fun _ _ _ h => h) (Or.inr ⟨by kernel_rfl, rfl⟩) hHeld ?_
            try simp only [Act.put, List.setIfInBounds_toArray, List.set_cons_zero, List.set_cons_succ]
            refine take_at10 (i := 18) (d := 44) (v := undef) rfl rfl (by kernel_rfl) (by kernel_rfl) (by kernel_rfl) (fun _ _ _ h => h) (Or.inr ⟨by kernel_rfl, rfl⟩) hHeld ?_
            try simp only [Act.put, List.setIfInBounds_toArray, List.set_cons_zero, List.set_cons_succ]
            refine take_at10 (i := 19) (d := 45) (v := undef) rfl rfl (by kernel_rfl) (by kernel_rfl) (by kernel_rfl) (fun _ _ _ h => h) (Or.inr ⟨by kernel_rfl, rfl⟩) hHeld ?_
            try simp only [Act.put, List.setIfInBounds_toArray, List.set_cons_zero, List.set_cons_succ]
            refine take_at10 (i := 20) (d := 46) (v := undef) rfl rfl (by kernel_rfl) (by kernel_rfl) (by kernel_rfl) (fun _ _ _ h => h) (Or.inr ⟨by kernel_rfl, rfl⟩) hHeld ?_
            try simp only [Act.put, List.setIfInBounds_toArray, List.set_cons_zero, List.set_cons_succ]
            refine take_at10 (i := 21) (d := 47) (v := .bool true) rfl rfl (by kernel_rfl) (by kernel_rfl) (by kernel_rfl) (fun _ _ _ h => h) (Or.inl ⟨by rfl, ?_⟩) hHeld ?_
            · intro w' hS; obtain rfl : w' = (w.drewN nd).drew := hS; go_simp; all_goals (try omega)
            try simp only [Act.put, List.setIfInBounds_toArray, List.set_cons_zero, List.set_cons_succ]
            refine wpAnyH_done (by kernel_rfl) ?_ _
            go_wp2
            go_ret2
            obtain ⟨e1, e2⟩ := HE.out
            rw [e1, e2]
            exact ⟨rfl, below_drewN (Below.refl _ _) _⟩
          · have hxb := inB_in hin
            rcases Nat.eq_zero_or_pos k with h0 | h0
            · have hk3 : ¬ (0 : Int) < (k : Int) := by omega
              have HX := Lib.hid (HU.out hxb.1 hxb.2 (fun h => by omega))
              clear h0
              go_upto_region 9 with fail
              refine wp_region_held_drew (S := AtW10 (w.drewN nd).drew) (by kernel_rfl) (show AtW10 _ _ from rfl) (fun hHeld => ?_)
              refine take_at10 (i := 0) (d := 26) (v := .slice (some ⟨g, 0, none⟩) n c) rfl rfl (by kernel_rfl) (by kernel_rfl) (by kernel_rfl) (fun _ _ _ h => h) (Or.inl ⟨by rfl, ?_⟩) hHeld ?_
              · intro w' hS; obtain rfl : w' = (w.drewN nd).drew := hS; go_simp; all_goals (try omega)
              try simp only [Act.put, List.setIfInBounds_toArray, List.set_cons_zero, List.set_cons_succ]
              refine take_at10 (i := 1) (d := 27) (v := .int .i64 k) rfl rfl (by kernel_rfl) (by kernel_rfl) (by kernel_rfl) (fun _ _ _ h => h) (Or.inl ⟨by rfl, ?_⟩) hHeld ?_
              · intro w' hS; obtain rfl : w' = (w.drewN nd).drew := hS; go_simp; all_goals (try omega)
              try simp only [Act.put, List.setIfInBounds_toArray, List.set_cons_zero, List.set_cons_succ]
              refine take_at10 (i := 2) (d := 28) (v := .pointer (some ⟨g, k, none⟩)) rfl rfl (by kernel_rfl) (by kernel_rfl) (by kernel_rfl) (fun _ _ _ h => h) (Or.inl ⟨by rfl, ?_⟩) hHeld ?_
              · intro w' hS; obtain rfl : w' = (w.drewN nd).drew := hS; go_simp; all_goals (try omega)
              try simp only [Act.put, List.setIfInBounds_toArray, List.set_cons_zero, List.set_cons_succ]
              refine take_at10 (i := 3) (d := 29) (v := .int .i64 x) rfl rfl (by kernel_rfl) (by kernel_rfl) (by kernel_rfl) (fun _ _ _ h => h) (Or.inl ⟨by rfl, ?_⟩) hHeld ?_
              · intro w' hS; obtain rfl : w' = (w.drewN nd).drew := hS; go_simp; all_goals (try omega)
              try simp only [Act.put, List.setIfInBounds_toArray, List.set_cons_zero, List.set_cons_succ]
              refine wpAnyH_ready (rs := [4]) (by kernel_rfl) (by simp) ?_
              refine AllReadyH.cons rfl (fun K hK => ?_) AllReadyH.nil
              go_simp
              go_at_call 64
              refine (in_any x 1 8 _).mono ?_
              rw [hin]
              rintro e w3 ⟨rfl, rfl⟩
              go_simp
              refine hK.out _ _ (show AtW10 _ _ from rfl) (fun hHeld => ?_)
              clear hK K
              try simp only [Act.put, List.setIfInBounds_toArray, List.set_cons_zero, List.set_cons_succ]
              refine take_at10 (i := 5) (d := 31) (v := .bool false) rfl rfl (by kernel_rfl) (by kernel_rfl) (by kernel_rfl) (fun _ _ _ h => h) (Or.inl ⟨by rfl, ?_⟩) hHeld ?_
              · intro w' hS; obtain rfl : w' = (w.drewN nd).drew := hS; go_simp; all_goals (try omega)
              try simp only [Act.put, List.setIfInBounds_toArray, List.set_cons_zero, List.set_cons_succ]
              refine take_at10 (i := 6) (d := 32) (v := .bool false) rfl rfl (by kernel_rfl) (by kernel_rfl) (by kernel_rfl) (fun _ _ _ h => h) (Or.inl ⟨by rfl, ?_⟩) hHeld ?_
              · intro w' hS; obtain rfl : w' = (w.drewN nd).drew := hS; go_simp; all_goals (try omega)
              try simp only [Act.put, List.setIfInBounds_toArray, List.set_cons_zero, List.set_cons_succ]
              refine take_at10 (i := 7) (d := 33) (v := .int .i64 k) rfl rfl (by kernel_rfl) (by kernel_rfl) (by kernel_rfl) (fun _ _ _ h => h) (Or.inl ⟨by rfl, ?_⟩) hHeld ?_
              · intro w' hS; obtain rfl : w' = (w.drewN nd).drew := hS; go_simp; all_goals (try omega)
              try simp only [Act.put, List.setIfInBounds_toArray, List.set_cons_zero, List.set_cons_succ]
              refine take_at10 (i := 8) (d := 34) (v := .bool false) rfl rfl (by kernel_rfl) (by kernel_rfl) (by kernel_rfl) (fun _ _ _ h => h) (Or.inl ⟨by rfl, ?_⟩) hHeld ?_
              · intro w' hS; obtain rfl : w' = (w.drewN nd).drew := hS; go_simp; all_goals (try omega)
              try simp only [Act.put, List.setIfInBounds_toArray, List.set_cons_zero, List.set_cons_succ]
              refine take_at10 (i := 9) (d := 35) (v := .bool false) rfl rfl (by kernel_rfl) (by kernel_rfl) (by kernel_rfl) (fun _ _ _ h => h) (Or.inl ⟨by rfl, ?_⟩) hHeld ?_
              · intro w' hS; obtain rfl : w' = (w.drewN nd).drew := hS; go_simp; all_goals (try omega)
              try simp only [Act.put, List.setIfInBounds_toArray, List.set_cons_zero, List.set_cons_succ]
              refine take_at10 (i := 10) (d := 36) (v := undef) rfl rfl (by kernel_rfl) (by kernel_rfl) (by kernel_rfl) (fun _ _ _ h => h) (Or.inr ⟨by kernel_rfl, rfl⟩) hHeld ?_
              try simp only [Act.put, List.setIfInBounds_toArray, List.set_cons_zero, List.set_cons_succ]
              refine take_at10 (i := 11) (d := 37) (v := undef) rfl rfl (by kernel_rfl) (by kernel_rfl) (by kernel_rfl) (fun _ _ _ h => h) (Or.inr ⟨by kernel_rfl, rfl⟩) hHeld ?_
              try simp only [Act.put, List.setIfInBounds_toArray, List.set_cons_zero, List.set_cons_succ]
              refine take_at10 (i := 12) (d := 38) (v := undef) rfl rfl (by kernel_rfl) (by kernel_rfl) (by kernel_rfl) (fun _ _ _ h => h) (Or.inr ⟨by kernel_rfl, rfl⟩) hHeld ?_
              try simp only [Act.put, List.setIfInBounds_toArray, List.set_cons_zero, List.set_cons_succ]
              refine take_at10 (i := 13) (d := 39) (v := undef) rfl rfl (by kernel_rfl) (by kernel_rfl) (by kernel_rfl) (fun _ _ _ h => h) (Or.inr ⟨by kernel_rfl, rfl⟩) hHeld ?_
              try simp only [Act.put, List.setIfInBounds_toArray, List.set_cons_zero, List.set_cons_succ]
              refine take_at10 (i := 14) (d := 40) (v := undef) rfl rfl (by kernel_rfl) (by kernel_rfl) (by kernel_rfl) (fun _ _ _ h => h) (Or.inr ⟨by kernel_rfl, rfl⟩) hHeld ?_
              try simp only [Act.put, List.setIfInBounds_toArray, List.set_cons_zero, List.set_cons_succ]
              refine take_at10 (i := 15) (d := 41) (v := undef) rfl rfl (by kernel_rfl) (by kernel_rfl) (by kernel_rfl) (fun _ _ _ h => h) (Or.inr ⟨by kernel_rfl, rfl⟩) hHeld ?_
              try simp only [Act.put, List.setIfInBounds_toArray, List.set_cons_zero, List.set_cons_succ]
              refine take_at10 (i := 16) (d := 42) (v := undef) rfl rfl (by kernel_rfl) (by kernel_rfl) (by kernel_rfl) (fun _ _ _ h => h) (Or.inr ⟨by kernel_rfl, rfl⟩) hHeld ?_
              try simp only [Act.put, List.setIfInBounds_toArray, List.set_cons_zero, List.set_cons_succ]
              refine take_at10 (i := 17) (d := 43) (v := undef) rfl rfl (by kernel_rfl) (by kernel_rfl) (by kernel_rfl) (fun _ _ _ h => h) (Or.inr ⟨by kernel_rfl, rfl⟩) hHeld ?_
              try simp only [Act.put, List.setIfInBounds_toArray, List.set_cons_zero, List.set_cons_succ]
              refine take_at10 (i := 18) (d := 44) (v := undef) rfl rfl (by kernel_rfl) (by kernel_rfl) (by kernel_rfl) (fun _ _ _ h => h) (Or.inr ⟨by kernel_rfl, rfl⟩) hHeld ?_
              try simp only [Act.put, List.setIfInBounds_toArray, List.set_cons_zero, List.set_cons_succ]
              refine take_at10 (i := 19) (d := 45) (v := undef) rfl rfl (by kernel_rfl) (by kernel_rfl) (by kernel_rfl) (fun _ _ _ h => h) (Or.inr ⟨by kernel_rfl, rfl⟩) hHeld ?_
              try simp only [Act.put, List.setIfInBounds_toArray, List.set_cons_zero, List.set_cons_succ]
              refine take_at10 (i := 20) (d := 46) (v := .bool false) rfl rfl (by kernel_rfl) (by kernel_rfl) (by kernel_rfl) (fun _ _ _ h => h) (Or.inl ⟨by rfl, ?_⟩) hHeld ?_
              · intro w' hS; obtain rfl : w' = (w.drewN nd).drew := hS; go_simp; all_goals (try omega)
              try simp only [Act.put, List.setIfInBounds_toArray, List.set_cons_zero, List.set_cons_succ]
              refine take_at10 (i := 21) (d := 47) (v := .bool false) rfl rfl (by kernel_rfl) (by kernel_rfl) (by kernel_rfl) (fun _ _ _ h => h) (Or.inl ⟨by rfl, ?_⟩) hHeld ?_
              · intro w' hS; obtain rfl : w' = (w.drewN nd).drew := hS; go_simp; all_goals (try omega)
              try simp only [Act.put, List.setIfInBounds_toArray, List.set_cons_zero, List.set_cons_succ]
              refine wpAnyH_done (by kernel_rfl) ?_ _
              go_wp2
              go_roundw
              case rel => exact ⟨k + 1, nd + 1, by omega, rfl, by rw [HSS.out], HX.out, HDW.out⟩
              case measure => simp only [intOf]; omega
            · obtain ⟨y, hy⟩ : ∃ y, l.getD (k - 1) 0 = y := ⟨_, rfl⟩
              have a3 : w.cell? ⟨g, k - 1, none⟩ = some (.int .i64 y) := by rw [← hy]; exact HC.out (k - 1) (by omega)
              have hk1 : (k : Int) - 1 = ((k - 1 : Nat) : Int) := by omega
              have hk2 : ((k - 1 : Nat) : Int) < (n : Int) := by omega
              have hk3 : (0 : Int) < (k : Int) := by omega
              have hwk : IntKind.i64.wrap ((k - 1 : Nat) : Int) = ((k - 1 : Nat) : Int) := IntWalk.i64_in _ (by omega)
              rw [hy] at HNO HU
              by_cases hxy : x < y
              · have HE := Lib.hid (HNO.out (fun hh => by have := hh.2.2 h0; omega))
                clear hy
                go_upto_region 9 with fail
                refine wp_region_held_drew (S := AtW10 (w.drewN nd).drew) (by kernel_rfl) (show AtW10 _ _ from rfl) (fun hHeld => ?_)
                refine take_at10 (i := 0) (d := 26) (v := .slice (some ⟨g, 0, none⟩) n c) rfl rfl (by kernel_rfl) (by kernel_rfl) (by kernel_rfl) (fun _ _ _ h => h) (Or.inl ⟨by rfl, ?_⟩) hHeld ?_
                · intro w' hS; obtain rfl : w' = (w.drewN nd).drew := hS; go_simp; all_goals (try omega)
                try simp only [Act.put, List.setIfInBounds_toArray, List.set_cons_zero, List.set_cons_succ]
                refine take_at10 (i := 1) (d := 27) (v := .int .i64 k) rfl rfl (by kernel_rfl) (by kernel_rfl) (by kernel_rfl) (fun _ _ _ h => h) (Or.inl ⟨by rfl, ?_⟩) hHeld ?_
                · intro w' hS; obtain rfl : w' = (w.drewN nd).drew := hS; go_simp; all_goals (try omega)
                try simp only [Act.put, List.setIfInBounds_toArray, List.set_cons_zero, List.set_cons_succ]
                refine take_at10 (i := 2) (d := 28) (v := .pointer (some ⟨g, k, none⟩)) rfl rfl (by kernel_rfl) (by kernel_rfl) (by kernel_rfl) (fun _ _ _ h => h) (Or.inl ⟨by rfl, ?_⟩) hHeld ?_
                · intro w' hS; obtain rfl : w' = (w.drewN nd).drew := hS; go_simp; all_goals (try omega)
                try simp only [Act.put, List.setIfInBounds_toArray, List.set_cons_zero, List.set_cons_succ]
                refine take_at10 (i := 3) (d := 29) (v := .int .i64 x) rfl rfl (by kernel_rfl) (by kernel_rfl) (by kernel_rfl) (fun _ _ _ h => h) (Or.inl ⟨by rfl, ?_⟩) hHeld ?_
                · intro w' hS; obtain rfl : w' = (w.drewN nd).drew := hS; go_simp; all_goals (try omega)
                try simp only [Act.put, List.setIfInBounds_toArray, List.set_cons_zero, List.set_cons_succ]
                refine wpAnyH_ready (rs := [4]) (by kernel_rfl) (by simp) ?_
                refine AllReadyH.cons rfl (fun K hK => ?_) AllReadyH.nil
                go_simp
                go_at_call 64
                refine (in_any x 1 8 _).mono ?_
                rw [hin]
                rintro e w3 ⟨rfl, rfl⟩
                go_simp
                refine hK.out _ _ (show AtW10 _ _ from rfl) (fun hHeld => ?_)
                clear hK K
                try simp only [Act.put, List.setIfInBounds_toArray, List.set_cons_zero, List.set_cons_succ]
                refine take_at10 (i := 5) (d := 31) (v := .bool false) rfl rfl (by kernel_rfl) (by kernel_rfl) (by kernel_rfl) (fun _ _ _ h => h) (Or.inl ⟨by rfl, ?_⟩) hHeld ?_
                · intro w' hS; obtain rfl : w' = (w.drewN nd).drew := hS; go_simp; all_goals (try omega)
                try simp only [Act.put, List.setIfInBounds_toArray, List.set_cons_zero, List.set_cons_succ]
                refine take_at10 (i := 6) (d := 32) (v := .bool false) rfl rfl (by kernel_rfl) (by kernel_rfl) (by kernel_rfl) (fun _ _ _ h => h) (Or.inl ⟨by rfl, ?_⟩) hHeld ?_
                · intro w' hS; obtain rfl : w' = (w.drewN nd).drew := hS; go_simp; all_goals (try omega)
                try simp only [Act.put, List.setIfInBounds_toArray, List.set_cons_zero, List.set_cons_succ]
                refine take_at10 (i := 7) (d := 33) (v := .int .i64 k) rfl rfl (by kernel_rfl) (by kernel_rfl) (by kernel_rfl) (fun _ _ _ h => h) (Or.inl ⟨by rfl, ?_⟩) hHeld ?_
                · intro w' hS; obtain rfl : w' = (w.drewN nd).drew := hS; go_simp; all_goals (try omega)
                try simp only [Act.put, List.setIfInBounds_toArray, List.set_cons_zero, List.set_cons_succ]
                refine take_at10 (i := 8) (d := 34) (v := .bool true) rfl rfl (by kernel_rfl) (by kernel_rfl) (by kernel_rfl) (fun _ _ _ h => h) (Or.inl ⟨by rfl, ?_⟩) hHeld ?_
                · intro w' hS; obtain rfl : w' = (w.drewN nd).drew := hS; go_simp; all_goals (try omega)
                try simp only [Act.put, List.setIfInBounds_toArray, List.set_cons_zero, List.set_cons_succ]
                refine take_at10 (i := 9) (d := 35) (v := .bool true) rfl rfl (by kernel_rfl) (by kernel_rfl) (by kernel_rfl) (fun _ _ _ h => h) (Or.inl ⟨by rfl, ?_⟩) hHeld ?_
                · intro w' hS; obtain rfl : w' = (w.drewN nd).drew := hS; go_simp; all_goals (try omega)
                try simp only [Act.put, List.setIfInBounds_toArray, List.set_cons_zero, List.set_cons_succ]
                refine take_at10 (i := 10) (d := 36) (v := .slice (some ⟨g, 0, none⟩) n c) rfl rfl (by kernel_rfl) (by kernel_rfl) (by kernel_rfl) (fun _ _ _ h => h) (Or.inl ⟨by rfl, ?_⟩) hHeld ?_
                · intro w' hS; obtain rfl : w' = (w.drewN nd).drew := hS; go_simp; all_goals (try omega)
                try simp only [Act.put, List.setIfInBounds_toArray, List.set_cons_zero, List.set_cons_succ]
                refine take_at10 (i := 11) (d := 37) (v := .int .i64 k) rfl rfl (by kernel_rfl) (by kernel_rfl) (by kernel_rfl) (fun _ _ _ h => h) (Or.inl ⟨by rfl, ?_⟩) hHeld ?_
                · intro w' hS; obtain rfl : w' = (w.drewN nd).drew := hS; go_simp; all_goals (try omega)
                try simp only [Act.put, List.setIfInBounds_toArray, List.set_cons_zero, List.set_cons_succ]
                refine take_at10 (i := 12) (d := 38) (v := .pointer (some ⟨g, k, none⟩)) rfl rfl (by kernel_rfl) (by kernel_rfl) (by kernel_rfl) (fun _ _ _ h => h) (Or.inl ⟨by rfl, ?_⟩) hHeld ?_
                · intro w' hS; obtain rfl : w' = (w.drewN nd).drew := hS; go_simp; all_goals (try omega)
                try simp only [Act.put, List.setIfInBounds_toArray, List.set_cons_zero, List.set_cons_succ]
                refine take_at10 (i := 13) (d := 39) (v := .int .i64 x) rfl rfl (by kernel_rfl) (by kernel_rfl) (by kernel_rfl) (fun _ _ _ h => h) (Or.inl ⟨by rfl, ?_⟩) hHeld ?_
                · intro w' hS; obtain rfl : w' = (w.drewN nd).drew := hS; go_simp; all_goals (try omega)
                try simp only [Act.put, List.setIfInBounds_toArray, List.set_cons_zero, List.set_cons_succ]
                refine take_at10 (i := 14) (d := 40) (v := .slice (some ⟨g, 0, none⟩) n c) rfl rfl (by kernel_rfl) (by kernel_rfl) (by kernel_rfl) (fun _ _ _ h => h) (Or.inl ⟨by rfl, ?_⟩) hHeld ?_
                · intro w' hS; obtain rfl : w' = (w.drewN nd).drew := hS; go_simp; all_goals (try omega)
                try simp only [Act.put, List.setIfInBounds_toArray, List.set_cons_zero, List.set_cons_succ]
                refine take_at10 (i := 15) (d := 41) (v := .int .i64 k) rfl rfl (by kernel_rfl) (by kernel_rfl) (by kernel_rfl) (fun _ _ _ h => h) (Or.inl ⟨by rfl, ?_⟩) hHeld ?_
                · intro w' hS; obtain rfl : w' = (w.drewN nd).drew := hS; go_simp; all_goals (try omega)
                try simp only [Act.put, List.setIfInBounds_toArray, List.set_cons_zero, List.set_cons_succ]
                refine take_at10 (i := 16) (d := 42) (v := .int .i64 ((k - 1 : Nat) : Int)) rfl rfl (by kernel_rfl) (by kernel_rfl) (by kernel_rfl) (fun _ _ _ h => h) (Or.inl ⟨by rfl, ?_⟩) hHeld ?_
                · intro w' hS; obtain rfl : w' = (w.drewN nd).drew := hS; go_simp; all_goals (try omega)
                try simp only [Act.put, List.setIfInBounds_toArray, List.set_cons_zero, List.set_cons_succ]
                refine take_at10 (i := 17) (d := 43) (v := .pointer (some ⟨g, k - 1, none⟩)) rfl rfl (by kernel_rfl) (by kernel_rfl) (by kernel_rfl) (fun _ _ _ h => h) (Or.inl ⟨by rfl, ?_⟩) hHeld ?_
                · intro w' hS; obtain rfl : w' = (w.drewN nd).drew := hS; go_simp; all_goals (try omega)
                try simp only [Act.put, List.setIfInBounds_toArray, List.set_cons_zero, List.set_cons_succ]
                refine take_at10 (i := 18) (d := 44) (v := .int .i64 y) rfl rfl (by kernel_rfl) (by kernel_rfl) (by kernel_rfl) (fun _ _ _ h => h) (Or.inl ⟨by rfl, ?_⟩) hHeld ?_
                · intro w' hS; obtain rfl : w' = (w.drewN nd).drew := hS; go_simp; all_goals (try omega)
                try simp only [Act.put, List.setIfInBounds_toArray, List.set_cons_zero, List.set_cons_succ]
                refine take_at10 (i := 19) (d := 45) (v := .bool (decide (x < y))) rfl rfl (by kernel_rfl) (by kernel_rfl) (by kernel_rfl) (fun _ _ _ h => h) (Or.inl ⟨by rfl, ?_⟩) hHeld ?_
                · intro w' hS; obtain rfl : w' = (w.drewN nd).drew := hS; go_simp; all_goals (try omega)
                try simp only [Act.put, List.setIfInBounds_toArray, List.set_cons_zero, List.set_cons_succ]
                refine take_at10 (i := 20) (d := 46) (v := .bool (decide (x < y))) rfl rfl (by kernel_rfl) (by kernel_rfl) (by kernel_rfl) (fun _ _ _ h => h) (Or.inl ⟨by rfl, ?_⟩) hHeld ?_
                · intro w' hS; obtain rfl : w' = (w.drewN nd).drew := hS; go_simp; all_goals (try omega)
                try simp only [Act.put, List.setIfInBounds_toArray, List.set_cons_zero, List.set_cons_succ]
                refine take_at10 (i := 21) (d := 47) (v := .bool (decide (x < y))) rfl rfl (by kernel_rfl) (by kernel_rfl) (by kernel_rfl) (fun _ _ _ h => h) (Or.inl ⟨by rfl, ?_⟩) hHeld ?_
                · intro w' hS; obtain rfl : w' = (w.drewN nd).drew := hS; go_simp; all_goals (try omega)
                try simp only [Act.put, List.setIfInBounds_toArray, List.set_cons_zero, List.set_cons_succ]
                refine wpAnyH_done (by kernel_rfl) ?_ _
                go_wp2
                go_ret2
                obtain ⟨e1, e2⟩ := HE.out
                rw [e1, e2]
                exact ⟨rfl, below_drewN (Below.refl _ _) _⟩
              · have HX := Lib.hid (HU.out hxb.1 hxb.2 (fun h => by omega))
                clear hy
                go_upto_region 9 with fail
                refine wp_region_held_drew (S := AtW10 (w.drewN nd).drew) (by kernel_rfl) (show AtW10 _ _ from rfl) (fun hHeld => ?_)
                refine take_at10 (i := 0) (d := 26) (v := .slice (some ⟨g, 0, none⟩) n c) rfl rfl (by kernel_rfl) (by kernel_rfl) (by kernel_rfl) (fun _ _ _ h => h) (Or.inl ⟨by rfl, ?_⟩) hHeld ?_
                · intro w' hS; obtain rfl : w' = (w.drewN nd).drew := hS; go_simp; all_goals (try omega)
                try simp only [Act.put, List.setIfInBounds_toArray, List.set_cons_zero, List.set_cons_succ]
                refine take_at10 (i := 1) (d := 27) (v := .int .i64 k) rfl rfl (by kernel_rfl) (by kernel_rfl) (by kernel_rfl) (fun _ _ _ h => h) (Or.inl ⟨by rfl, ?_⟩) hHeld ?_
                · intro w' hS; obtain rfl : w' = (w.drewN nd).drew := hS; go_simp; all_goals (try omega)
                try simp only [Act.put, List.setIfInBounds_toArray, List.set_cons_zero, List.set_cons_succ]
                refine take_at10 (i := 2) (d := 28) (v := .pointer (some ⟨g, k, none⟩)) rfl rfl (by kernel_rfl) (by kernel_rfl) (by kernel_rfl) (fun _ _ _ h => h) (Or.inl ⟨by rfl, ?_⟩) hHeld ?_
                · intro w' hS; obtain rfl : w' = (w.drewN nd).drew := hS; go_simp; all_goals (try omega)
                try simp only [Act.put, List.setIfInBounds_toArray, List.set_cons_zero, List.set_cons_succ]
                refine take_at10 (i := 3) (d := 29) (v := .int .i64 x) rfl rfl (by kernel_rfl) (by kernel_rfl) (by kernel_rfl) (fun _ _ _ h => h) (Or.inl ⟨by rfl, ?_⟩) hHeld ?_
                · intro w' hS; obtain rfl : w' = (w.drewN nd).drew := hS; go_simp; all_goals (try omega)
                try simp only [Act.put, List.setIfInBounds_toArray, List.set_cons_zero, List.set_cons_succ]
                refine wpAnyH_ready (rs := [4]) (by kernel_rfl) (by simp) ?_
                refine AllReadyH.cons rfl (fun K hK => ?_) AllReadyH.nil
                go_simp
                go_at_call 64
                refine (in_any x 1 8 _).mono ?_
                rw [hin]
                rintro e w3 ⟨rfl, rfl⟩
                go_simp
                refine hK.out _ _ (show AtW10 _ _ from rfl) (fun hHeld => ?_)
                clear hK K
                try simp only [Act.put, List.setIfInBounds_toArray, List.set_cons_zero, List.set_cons_succ]
                refine take_at10 (i := 5) (d := 31) (v := .bool false) rfl rfl (by kernel_rfl) (by kernel_rfl) (by kernel_rfl) (fun _ _ _ h => h) (Or.inl ⟨by rfl, ?_⟩) hHeld ?_
                · intro w' hS; obtain rfl : w' = (w.drewN nd).drew := hS; go_simp; all_goals (try omega)
                try simp only [Act.put, List.setIfInBounds_toArray, List.set_cons_zero, List.set_cons_succ]
                refine take_at10 (i := 6) (d := 32) (v := .bool false) rfl rfl (by kernel_rfl) (by kernel_rfl) (by kernel_rfl) (fun _ _ _ h => h) (Or.inl ⟨by rfl, ?_⟩) hHeld ?_
                · intro w' hS; obtain rfl : w' = (w.drewN nd).drew := hS; go_simp; all_goals (try omega)
                try simp only [Act.put, List.setIfInBounds_toArray, List.set_cons_zero, List.set_cons_succ]
                refine take_at10 (i := 7) (d := 33) (v := .int .i64 k) rfl rfl (by kernel_rfl) (by kernel_rfl) (by kernel_rfl) (fun _ _ _ h => h) (Or.inl ⟨by rfl, ?_⟩) hHeld ?_
                · intro w' hS; obtain rfl : w' = (w.drewN nd).drew := hS; go_simp; all_goals (try omega)
                try simp only [Act.put, List.setIfInBounds_toArray, List.set_cons_zero, List.set_cons_succ]
                refine take_at10 (i := 8) (d := 34) (v := .bool true) rfl rfl (by kernel_rfl) (by kernel_rfl) (by kernel_rfl) (fun _ _ _ h => h) (Or.inl ⟨by rfl, ?_⟩) hHeld ?_
                · intro w' hS; obtain rfl : w' = (w.drewN nd).drew := hS; go_simp; all_goals (try omega)
                try simp only [Act.put, List.setIfInBounds_toArray, List.set_cons_zero, List.set_cons_succ]
                refine take_at10 (i := 9) (d := 35) (v := .bool true) rfl rfl (by kernel_rfl) (by kernel_rfl) (by kernel_rfl) (fun _ _ _ h => h) (Or.inl ⟨by rfl, ?_⟩) hHeld ?_
                · intro w' hS; obtain rfl : w' = (w.drewN nd).drew := hS; go_simp; all_goals (try omega)
                try simp only [Act.put, List.setIfInBounds_toArray, List.set_cons_zero, List.set_cons_succ]
                refine take_at10 (i := 10) (d := 36) (v := .slice (some ⟨g, 0, none⟩) n c) rfl rfl (by kernel_rfl) (by kernel_rfl) (by kernel_rfl) (fun _ _ _ h => h) (Or.inl ⟨by rfl, ?_⟩) hHeld ?_
                · intro w' hS; obtain rfl : w' = (w.drewN nd).drew := hS; go_simp; all_goals (try omega)
                try simp only [Act.put, List.setIfInBounds_toArray, List.set_cons_zero, List.set_cons_succ]
                refine take_at10 (i := 11) (d := 37) (v := .int .i64 k) rfl rfl (by kernel_rfl) (by kernel_rfl) (by kernel_rfl) (fun _ _ _ h => h) (Or.inl ⟨by rfl, ?_⟩) hHeld ?_
                · intro w' hS; obtain rfl : w' = (w.drewN nd).drew := hS; go_simp; all_goals (try omega)
                try simp only [Act.put, List.setIfInBounds_toArray, List.set_cons_zero, List.set_cons_succ]
                refine take_at10 (i := 12) (d := 38) (v := .pointer (some ⟨g, k, none⟩)) rfl rfl (by kernel_rfl) (by kernel_rfl) (by kernel_rfl) (fun _ _ _ h => h) (Or.inl ⟨by rfl, ?_⟩) hHeld ?_
                · intro w' hS; obtain rfl : w' = (w.drewN nd).drew := hS; go_simp; all_goals (try omega)
                try simp only [Act.put, List.setIfInBounds_toArray, List.set_cons_zero, List.set_cons_succ]
                refine take_at10 (i := 13) (d := 39) (v := .int .i64 x) rfl rfl (by kernel_rfl) (by kernel_rfl) (by kernel_rfl) (fun _ _ _ h => h) (Or.inl ⟨by rfl, ?_⟩) hHeld ?_
                · intro w' hS; obtain rfl : w' = (w.drewN nd).drew := hS; go_simp; all_goals (try omega)
                try simp only [Act.put, List.setIfInBounds_toArray, List.set_cons_zero, List.set_cons_succ]
                refine take_at10 (i := 14) (d := 40) (v := .slice (some ⟨g, 0, none⟩) n c) rfl rfl (by kernel_rfl) (by kernel_rfl) (by kernel_rfl) (fun _ _ _ h => h) (Or.inl ⟨by rfl, ?_⟩) hHeld ?_
                · intro w' hS; obtain rfl : w' = (w.drewN nd).drew := hS; go_simp; all_goals (try omega)
                try simp only [Act.put, List.setIfInBounds_toArray, List.set_cons_zero, List.set_cons_succ]
                refine take_at10 (i := 15) (d := 41) (v := .int .i64 k) rfl rfl (by kernel_rfl) (by kernel_rfl) (by kernel_rfl) (fun _ _ _ h => h) (Or.inl ⟨by rfl, ?_⟩) hHeld ?_
                · intro w' hS; obtain rfl : w' = (w.drewN nd).drew := hS; go_simp; all_goals (try omega)
                try simp only [Act.put, List.setIfInBounds_toArray, List.set_cons_zero, List.set_cons_succ]
                refine take_at10 (i := 16) (d := 42) (v := .int .i64 ((k - 1 : Nat) : Int)) rfl rfl (by kernel_rfl) (by kernel_rfl) (by kernel_rfl) (fun _ _ _ h => h) (Or.inl ⟨by rfl, ?_⟩) hHeld ?_
                · intro w' hS; obtain rfl : w' = (w.drewN nd).drew := hS; go_simp; all_goals (try omega)
                try simp only [Act.put, List.setIfInBounds_toArray, List.set_cons_zero, List.set_cons_succ]
                refine take_at10 (i := 17) (d := 43) (v := .pointer (some ⟨g, k - 1, none⟩)) rfl rfl (by kernel_rfl) (by kernel_rfl) (by kernel_rfl) (fun _ _ _ h => h) (Or.inl ⟨by rfl, ?_⟩) hHeld ?_
                · intro w' hS; obtain rfl : w' = (w.drewN nd).drew := hS; go_simp; all_goals (try omega)
                try simp only [Act.put, List.setIfInBounds_toArray, List.set_cons_zero, List.set_cons_succ]
                refine take_at10 (i := 18) (d := 44) (v := .int .i64 y) rfl rfl (by kernel_rfl) (by kernel_rfl) (by kernel_rfl) (fun _ _ _ h => h) (Or.inl ⟨by rfl, ?_⟩) hHeld ?_
                · intro w' hS; obtain rfl : w' = (w.drewN nd).drew := hS; go_simp; all_goals (try omega)
                try simp only [Act.put, List.setIfInBounds_toArray, List.set_cons_zero, List.set_cons_succ]
                refine take_at10 (i := 19) (d := 45) (v := .bool (decide (x < y))) rfl rfl (by kernel_rfl) (by kernel_rfl) (by kernel_rfl) (fun _ _ _ h => h) (Or.inl ⟨by rfl, ?_⟩) hHeld ?_
                · intro w' hS; obtain rfl : w' = (w.drewN nd).drew := hS; go_simp; all_goals (try omega)
                try simp only [Act.put, List.setIfInBounds_toArray, List.set_cons_zero, List.set_cons_succ]
                refine take_at10 (i := 20) (d := 46) (v := .bool (decide (x < y))) rfl rfl (by kernel_rfl) (by kernel_rfl) (by kernel_rfl) (fun _ _ _ h => h) (Or.inl ⟨by rfl, ?_⟩) hHeld ?_
                · intro w' hS; obtain rfl : w' = (w.drewN nd).drew := hS; go_simp; all_goals (try omega)
                try simp only [Act.put, List.setIfInBounds_toArray, List.set_cons_zero, List.set_cons_succ]
                refine take_at10 (i := 21) (d := 47) (v := .bool (decide (x < y))) rfl rfl (by kernel_rfl) (by kernel_rfl) (by kernel_rfl) (fun _ _ _ h => h) (Or.inl ⟨by rfl, ?_⟩) hHeld ?_
                · intro w' hS; obtain rfl : w' = (w.drewN nd).drew := hS; go_simp; all_goals (try omega)
                try simp only [Act.put, List.setIfInBounds_toArray, List.set_cons_zero, List.set_cons_succ]
                refine wpAnyH_done (by kernel_rfl) ?_ _
                go_wp2
                go_roundw
                case rel => exact ⟨k + 1, nd + 1, by omega, rfl, by rw [HSS.out], HX.out, HDW.out⟩
                case measure => simp only [intOf]; omega
        · obtain rfl : k = n := by omega
          have hs0 := sumP_ge hu
          have hs8 := sumP_le hu
          have hkl : k = l.length := HL.out
          by_cases h8 : 8 < sumP l k
          · obtain ⟨e1, e2⟩ := HN.out (fun hd => by have := hd.2; rw [← hkl] at this; omega)
            have HE := Lib.hid (And.intro e1 e2)
            clear e1 e2
            generalize sumP l k = s at *
            clear hu hkl
            go_wp2
            go_ret2
            obtain ⟨e1, e2⟩ := HE.out
            rw [e1, e2]
            exact ⟨rfl, below_drewN (Below.refl _ _) _⟩
          · have HD := Lib.hid (show DegOk l from ⟨by rw [← hkl]; exact hu, by rw [← hkl]; omega⟩)
            have HQ := Lib.hid (HY.out HD.out)
            have HB0 := Lib.hid (below_drewN (Below.refl w.heap.size w) nd)
            generalize sumP l k = s at *
            clear hu hkl
            generalize w.drewN nd = W at *
            go_wp2_with fail
            go_loopw [8, 9, 10] (fun ov zv dv wr => ∃ (d : Nat) (D : Int) (z : Bool) (x : Int), d ≤ 8 ∧ D = (d : Int) + 1 ∧ dv = .int .i64 D ∧ ov = .int .i64 x ∧ zv = .bool z ∧ OutR (prT p (cntP l k) d) z x ∧ Below w.heap.size w wr) (fun _ _ dv _ => 9 - (intOf dv).toNat)
            case atStart => exact ⟨0, 1, false, 1, by omega, rfl, rfl, rfl, rfl, outR_start, HB0.out⟩
            case round =>
              obtain ⟨d, D, z, x, hd8, hD, rfl, rfl, rfl, hr, hb⟩ := hrel
              have HR := Lib.hid hr
              have HBW := Lib.hid hb
              have hx0 := hr.1
              have hx1 := hr.2.1
              clear hr hb
              by_cases hlt8 : d < 8
              · have hD8 : D ≤ 8 := by omega
                obtain ⟨E, rfl⟩ : ∃ E : Nat, D = E := ⟨d + 1, by omega⟩
                obtain rfl : E = d + 1 := by omega
                have hD1 : 1 ≤ ((d + 1 : Nat) : Int) := by omega
                have HI := Lib.hid fun w => l10Irr_any p (d + 1) w p2 p97 (by omega) (by omega)
                rw [← nI_is p2 (by omega) (by omega)] at HI
                have hN := (irrN_bd p2 (n := d + 1) (by omega) (by omega)).2
                rw [← nI_is p2 (by omega) (by omega)] at hN
                have hNp := pow_97 p2 p97 (k := d + 1) (by omega)
                have HCH := Lib.hid fun w => l10Choose_any (nI p (d + 1)) (cntP l k (d + 1)) w (by omega) (by have := cntP_le l (d + 1) k; omega)
                have HP := Lib.hid (show prT p (cntP l k) (d + 1) = prT p (cntP l k) d * binZ (nI p (d + 1)) (cntP l k (d + 1)) from rfl)
                have HBZ := Lib.hid (bin_pos (nI p (d + 1)) (cntP l k (d + 1)))
                have hcl := cntP_le l (d + 1) k
                obtain ⟨N, hNN⟩ : ∃ N : Int, (nI p (d + 1) : Int) = N := ⟨_, rfl⟩
                rw [hNN] at HI HCH hN
                clear hNN hD hNp hN
                obtain ⟨K, hK⟩ : ∃ K : Int, ((d + 1 : Nat) : Int) = K := ⟨_, rfl⟩
                have HKK := Lib.hid hK
                rw [hK] at HI hD1 hD8 ⊢
                clear hK
                go_wp2_with fail
                go_loop [11, 12] (fun kv iv => ∃ j : Nat, j ≤ k ∧ iv = .int .i64 j ∧ kv = .int .i64 (cntP l j (d + 1) : Nat)) (fun _ iv => k - (intOf iv).toNat)
                case atStart => exact ⟨0, Nat.zero_le _, rfl, rfl⟩
                case round =>
                  obtain ⟨j, hj, rfl, rfl⟩ := hrel
                  by_cases hjk : j < k
                  · have hog := HO.out (by omega)
                    subst hog
                    have a2 := HB.out _ HBW.out j hjk
                    have HCP := Lib.hid (show cntP l (j + 1) (d + 1) = cntP l j (d + 1) + (if l.getD j 0 = ((d + 1 : Nat) : Int) then 1 else 0) from rfl)
                    have hcb := cntP_le l (d + 1) j
                    rw [HKK.out] at HCP
                    generalize l.getD j 0 = y at *
                    obtain ⟨C, hC⟩ : ∃ C : Int, ((cntP l j (d + 1) : Nat) : Int) = C := ⟨_, rfl⟩
                    have hCb : 0 ≤ C ∧ C ≤ 8 := by omega
                    have HCC := Lib.hid hC
                    rw [hC]
                    clear hC hcb
                    have hjk' : (j : Int) < (k : Int) := by omega
                    by_cases hy : y = K
                    · have hy2 : (y == K) = true := by simp [hy]
                      have HCN := Lib.hid (show ((cntP l (j + 1) (d + 1) : Nat) : Int) = C + 1 by rw [HCP.out, if_pos hy]; have := HCC.out; omega)
                      clear hy
                      go_wp2
                      exact ⟨⟨j + 1, by omega, rfl, by rw [HCN.out]⟩, by simp only [intOf]; omega⟩
                    · have hy2 : (y == K) = false := by simpa using hy
                      have HCN := Lib.hid (show ((cntP l (j + 1) (d + 1) : Nat) : Int) = C by rw [HCP.out, if_neg hy]; have := HCC.out; omega)
                      clear hy
                      go_wp2
                      exact ⟨⟨j + 1, by omega, rfl, by rw [HCN.out]⟩, by simp only [intOf]; omega⟩
                  · obtain rfl : j = k := by omega
                    obtain ⟨C, hC⟩ : ∃ C : Int, ((cntP l j (d + 1) : Nat) : Int) = C := ⟨_, rfl⟩
                    rw [hC] at HCH ⊢
                    clear hC hcl
                    go_wp2_with fail
                    refine (HI.out _).mono ?_
                    rintro e W2 ⟨rfl, hb2⟩
                    have HBW2 := Lib.hid (HBW.out.trans (hb2.mono HBW.out.size))
                    clear hb2
                    go_wp2_with fail
                    refine (HCH.out _).mono ?_
                    rintro e W3 ⟨⟨r, rfl, hr0, hr1, hrc⟩, rfl⟩
                    have HRC := Lib.hid hrc
                    clear hrc
                    have HNX := Lib.hid (outR_next HR.out HBZ.out hr0 HRC.out)
                    have HCS := Lib.hid (cap_step hx0 hx1 hr0)
                    cases z
                    · go_wp2_with fail
                      go_roundw
                      case rel => exact ⟨d + 1, K + 1, (r == 0), _, by omega, by have := HKK.out; push_cast; omega, rfl, by rw [HCS.out], rfl, by rw [HP.out]; simpa using HNX.out, HBW2.out⟩
                      case measure => simp only [intOf]; have := HKK.out; omega
                    · go_wp2_with fail
                      go_roundw
                      case rel => exact ⟨d + 1, K + 1, true, _, by omega, by have := HKK.out; push_cast; omega, rfl, by rw [HCS.out], rfl, by rw [HP.out]; simpa using HNX.out, HBW2.out⟩
                      case measure => simp only [intOf]; have := HKK.out; omega
              · obtain rfl : d = 8 := by omega
                have HWL := Lib.hid (show wayL p l l.length = prT p (cntP l k) 8 by rw [wayL, ← HL.out])
                have hDn : ¬ D ≤ 8 := by omega
                obtain ⟨q, hq⟩ : ∃ q, prT p (cntP l k) 8 = q := ⟨_, rfl⟩
                rw [hq] at HR HWL
                clear hq hD
                cases z
                · obtain ⟨q1, q2⟩ := HR.out.2.2.2.2 rfl
                  have HLR := Lib.hid fun w => l10Result_any x w
                  have HLQ := Lib.hid (show limQ x = cwQ p l ∧ limC x = cwC p l by
                    obtain ⟨e1, e2⟩ := HQ.out
                    rw [e1, e2, HWL.out, q2, lim_cap.1, lim_cap.2]; exact ⟨rfl, rfl⟩)
                  clear q1 q2
                  go_wp2_with fail
                  refine (HLR.out _).mono ?_
                  rintro e W4 ⟨rfl, rfl⟩
                  go_wp2_with fail
                  go_ret2
                  rw [HLQ.out.1, HLQ.out.2]
                  exact ⟨rfl, HBW.out⟩
                · have q0 := HR.out.2.2.2.1 rfl
                  have HLQ := Lib.hid (show cwQ p l = 0 ∧ cwC p l = 0 by
                    obtain ⟨e1, e2⟩ := HQ.out
                    rw [e1, e2, HWL.out, q0]; exact ⟨rfl, rfl⟩)
                  clear q0
                  go_wp2_with fail
                  go_ret2
                  rw [HLQ.out.1, HLQ.out.2]
                  exact ⟨rfl, HBW.out⟩
end Go.Proofs.Ytjmecidbnoimnaa
