/- Contracts of the walk: chapter 7 in spec: the rows of Sylvester's matrix. -/
import Derived.Test.YtbolmmgkmgmfeaaMat
import Derived.Test.YtbolmmgkmgmfeaaResSmall
import Derived.Test.YtbolmmgkmgmfeaaDivM
import Derived.Test.YtbolmmgkmgmfeaaPolyDraw
namespace Go.Proofs.Ytbolmmgkmgmfeaa
open Go.RowKit
set_option linter.unusedVariables false
set_option linter.unusedSimpArgs false
set_option maxRecDepth 20000
theorem Try.infoSl : (Try.prog.info? 37).map (fun i => (i.zero, i.size, i.bytes)) = some (some (.slice none 0 0), 1, 24) := by kernel_rfl
def rowLn (f : List Int) (N k : Nat) : List Int := tabL N (rowS (fnL f) (f.length - 1) k)
def rowsL (f : List Int) (N : Nat) : Nat → List (List Int)
  | 0 => []
  | k + 1 => rowsL f N k ++ [rowLn f N k]
theorem rowsL_length (f : List Int) (N : Nat) : ∀ k, (rowsL f N k).length = k
  | 0 => rfl
  | k + 1 => by rw [rowsL, List.length_append, rowsL_length f N k]; rfl
theorem line_old {M : List (List Int)} {l : List Int} {i : Nat} (h : i < M.length) : lineAt (M ++ [l]) i = lineAt M i := by
  simp [lineAt, List.getD, List.getElem?_append_left h]
theorem line_new {M : List (List Int)} {l : List Int} : lineAt (M ++ [l]) M.length = l := by simp [lineAt, List.getD]
theorem getD_old {G : List Nat} {g i : Nat} (h : i < G.length) : (G ++ [g]).getD i 0 = G.getD i 0 := by simp [List.getD, List.getElem?_append_left h]
theorem getD_new {G : List Nat} {g : Nat} : (G ++ [g]).getD G.length 0 = g := by simp [List.getD]
theorem matG_snoc {base g : Nat} {W w' : World} {v v' : Value} {N : Nat} {G : List Nat} {M : List (List Int)} {l : List Int} (h : MatG base W v N G M) (hr : IntRow base W (rowV N g) l) (hl : l.length = N)
    (hne : ∀ i, i < M.length → G.getD i 0 ≠ g) (hv : v.ownBlock ≠ some g) (hown : w'.ownsRow base 37 1 v' (G.length + 1) (G.map (rowV N) ++ [rowV N g])) (hg : W.grownBy w' v.ownBlock) : MatG base w' v' N (G ++ [g]) (M ++ [l]) := by
  have hlen := h.len
  refine ⟨by simp [hlen], fun i hi => ?_, fun i hi => ?_, fun i j hi hj hij => ?_, by simpa using hown⟩
  · rw [List.length_append, List.length_singleton] at hi
    by_cases e : i < M.length
    · rw [line_old e]; exact h.width i e
    · rw [show i = M.length by omega, line_new]; exact hl
  · rw [List.length_append, List.length_singleton] at hi
    by_cases e : i < M.length
    · rw [line_old e, getD_old (by omega)]
      exact World.ownsRow.kept (h.row i e) hg (.inr (fun e2 => matG_out_ne h e e2.symm))
    · have e2 : i = M.length := by omega
      rw [e2, line_new, ← hlen, getD_new]
      exact World.ownsRow.kept hr hg (.inr (fun e2 => hv e2.symm))
  · rw [List.length_append, List.length_singleton] at hi hj
    by_cases e : i < M.length
    · by_cases e' : j < M.length
      · rw [getD_old (by omega), getD_old (by omega)]; exact h.apart i j e e' hij
      · rw [getD_old (by omega), show j = G.length by omega, getD_new]; exact hne i e
    · by_cases e' : j < M.length
      · rw [getD_old (i := j) (by omega), show i = G.length by omega, getD_new]; exact Ne.symm (hne j e')
      · omega
/-- the row on its way -/
def rowW (f : List Int) (N k i : Nat) : List Int := tabL N fun c => if k ≤ c ∧ c < k + i then f.getD (f.length - 1 - (c - k)) 0 else 0
theorem rowW_length (f : List Int) (N k i : Nat) : (rowW f N k i).length = N := tabL_length _ _
theorem rowW_zero (f : List Int) (N k : Nat) : rowW f N k 0 = tabL N fun _ => 0 := tabL_ext fun c hc => by rw [if_neg (by omega)]
theorem rowW_step {f : List Int} {N k i t p : Nat} (ht : k + i = t) (hN : t < N) (hp : p + i = f.length - 1) : (rowW f N k i).set t (f.getD p 0) = rowW f N k (i + 1) := by
  unfold rowW
  rw [tab_set _ hN]
  refine tabL_ext fun c hc => ?_
  by_cases e : c = t
  · rw [if_pos e, if_pos (by omega), show f.length - 1 - (c - k) = p by omega]
  · rw [if_neg e]
    by_cases h : k ≤ c ∧ c < k + i
    · rw [if_pos h, if_pos (by omega)]
    · rw [if_neg h, if_neg (by omega)]
theorem rowW_end {f : List Int} {N k : Nat} (h : 1 ≤ f.length) : rowW f N k f.length = rowLn f N k := by
  unfold rowW rowLn rowS
  refine tabL_ext fun c hc => ?_
  by_cases e : k ≤ c ∧ c < k + f.length
  · rw [if_pos e, if_pos (by omega)]; rfl
  · rw [if_neg e, if_neg (by omega)]
theorem own_grown {base g n c k : Nat} {w : World} {l : List Int} (h : IntRow base w (.slice (some ⟨g, 0, none⟩) n c) l) (hl : l.length = n) (x : Value) : w.grownBy (w.setCell ⟨g, k, none⟩ x) (some g) := by
  subst hl; exact (World.ownsRow.stored h k x).2
set_option maxHeartbeats 2000000 in
theorem l07Rows_any {o : Option Addr} {n c0 count N : Nat} {f : List Int} {w0 w : World} {v : Value} {G : List Nat} {M : List (List Int)} (hS : Seen w0 o n c0 f) (hb : Below w0.heap.size w0 w) (hM : MatG w0.heap.size w v N G M)
    (hf : 1 ≤ f.length) (hsz : count + n ≤ N + 1) (hN : N ≤ 100) (hm : M.length ≤ 100) (hcn : count ≤ 100) :
    Calls Try.prog 87 #[v, .slice o n c0, .int .i64 count, .int .i64 N] w fun e w' => ∃ v' G', e = .returned v' ∧ MatG w0.heap.size w' v' N G' (M ++ rowsL f N count) ∧ Below w0.heap.size w0 w' := by
  obtain ⟨hl, hn, hno, hnc, a, h1, h2⟩ := hS
  obtain ⟨rfl, hag⟩ := h1 (by omega)
  obtain ⟨i0, hi, hz0, hz1, hz2⟩ := info_parts Try.infoInt64
  obtain ⟨i1, hi1, hy0, hy1, hy2⟩ := info_parts Try.infoSl
  have HI := Lib.hid hi
  have HZ0 := Lib.hid hz0
  have HZ1 := Lib.hid hz1
  have HZ2 := Lib.hid hz2
  have HJ := Lib.hid hi1
  have HY0 := Lib.hid hy0
  have HY1 := Lib.hid hy1
  have HY2 := Lib.hid hy2
  have HL := Lib.hid hl
  have HC := Lib.hid h2
  have HM0 := Lib.hid hM
  have HB0 := Lib.hid hb
  obtain ⟨d, hd⟩ : ∃ d : Nat, d + 1 = n := ⟨n - 1, by omega⟩
  have HD := Lib.hid hd
  have hdn : (n : Int) - 1 = (d : Int) := by omega
  have hn102 : n ≤ 101 := by omega
  have HML := Lib.hid hm
  have HF1 := Lib.hid hf
  clear hno hnc h1 h2 hl hn hM hb hi hz0 hz1 hz2 hi1 hy0 hy1 hy2 hm hf
  go_enter Try.func87, Try.ntmps87
  go_wp2_with fail
  go_loopw [0, 9] (fun s t wr => ∃ (k : Nat) (Gk : List Nat), k ≤ count ∧ t = .int .i64 k ∧ MatG w0.heap.size wr s N Gk (M ++ rowsL f N k) ∧ Below w0.heap.size w0 wr) (fun _ t _ => count - (intOf t).toNat)
  case atStart => exact ⟨0, G, Nat.zero_le _, rfl, by show MatG _ _ _ _ _ (M ++ []); rw [List.append_nil]; exact HM0.out, HB0.out⟩
  case round =>
    obtain ⟨k, Gk, hk, rfl, hmat, hb⟩ := hrel
    have HM := Lib.hid hmat
    have HB := Lib.hid hb
    clear HM0 HB0
    by_cases hlt : k < count
    · have hlen : (M ++ rowsL f N k).length ≤ 200 := by have := HML.out; rw [List.length_append, rowsL_length]; omega
      have HLEN := Lib.hid hlen
      generalize hMk : M ++ rowsL f N k = Mk at *
      have HMK := Lib.hid hMk
      obtain ⟨oo, cc, rfl, _⟩ := matG_shape hmat
      have hbs := HB.out.size
      clear hmat hb hMk hlen
      go_wp2_with (at_make; refine wpList_make_full _ rfl (.tmp 17) (.tmp 17) 37 rfl w0.heap.size 2 i0 (.int .i64 0) 1 Try.underlying37 HI.out HZ0.out HZ1.out .i64 .i64 _ _ N rfl rfl rfl rfl (by rw [HZ2.out]; omega) (by unfold maxLen; omega) hbs ?_; intro w2 hown hgrow)
      have HGN := Lib.hid (fun (i : Nat) (hi : i < Mk.length) => (by have := (matG_row_block HM.out hi).2; omega : Gk.getD i 0 ≠ wr.heap.size))
      have HVN := Lib.hid (show (Value.slice oo Mk.length cc).ownBlock ≠ some wr.heap.size from fun e => absurd (World.ownsRow.lt HM.out.out _ e).2 (Nat.lt_irrefl _))
      have hbg : w0.heap.size ≤ wr.heap.size := hbs
      have HM2 := Lib.hid (matG_none HM.out hgrow)
      have HB2 := Lib.hid (HB.out.grown hgrow hbs (fun k h => by cases h))
      have HR2 := Lib.hid (show IntRow w0.heap.size w2 (rowV N wr.heap.size) (rowW f N k 0) by
        rw [rowW_zero]
        have e : (madeCells (Value.int .i64 0).cells (N * 1)).toList = List.replicate N (Value.int .i64 0) := by
          rw [Nat.mul_one]; exact toList_madeCells_one _ _
        rw [e] at hown
        unfold IntRow
        rw [tabL_length, ← tab_zero, List.map_replicate]; exact hown)
      generalize wr.heap.size = g at *
      clear hown hgrow HM HB
      go_wp2_with fail
      go_loopw [11] (fun s wr2 => ∃ i : Nat, i ≤ n ∧ s = .int .i64 i ∧ MatG w0.heap.size wr2 (.slice oo Mk.length cc) N Gk Mk ∧ IntRow w0.heap.size wr2 (rowV N g) (rowW f N k i) ∧ Below w0.heap.size w0 wr2) (fun s _ => n - (intOf s).toNat)
      case atStart => exact ⟨0, Nat.zero_le _, rfl, HM2.out, HR2.out, HB2.out⟩
      case round =>
        obtain ⟨i, hi, rfl, hmat, hrow, hb⟩ := hrel
        have HM := Lib.hid hmat
        have HR := Lib.hid hrow
        have HB := Lib.hid hb
        clear hmat hrow hb HM2 HR2 HB2
        by_cases hlti : i < n
        · obtain ⟨t, ht⟩ : ∃ t, k + i = t := ⟨_, rfl⟩
          obtain ⟨p, hp⟩ : ∃ p, p + i = d := ⟨d - i, by omega⟩
          have hkt : (k : Int) + (i : Int) = (t : Int) := by omega
          have hdp : (d : Int) - (i : Int) = (p : Int) := by omega
          have htN : t < N := by omega
          have hpn : p < n := by omega
          have wt : IntKind.i64.wrap (t : Int) = (t : Int) := IntWalk.i64_in _ (by omega)
          have wp : IntKind.i64.wrap (p : Int) = (p : Int) := IntWalk.i64_in _ (by omega)
          have b2 := HC.out p hpn
          rw [← HB.out.cell (p := ⟨a, p, none⟩) hag] at b2
          have hrow := HR.out
          unfold rowV at hrow
          have c4 := int_at hrow (rowW_length f N k i) htN
          have f4 := int_frozen hrow (rowW_length f N k i) t
          obtain ⟨y4, hy4⟩ : ∃ y4, (rowW f N k i).getD t 0 = y4 := ⟨_, rfl⟩
          rw [hy4] at c4
          have HR3 := Lib.hid (show IntRow w0.heap.size (wr.setCell ⟨g, t, none⟩ (.int .i64 (f.getD p 0))) (rowV N g) (rowW f N k (i + 1)) by
            rw [← rowW_step (p := p) ht htN (by have := HL.out; have := HD.out; omega)]; exact int_stored hrow (rowW_length f N k i) t _)
          have HM3 := Lib.hid (matG_kept HM.out (own_grown (k := t) hrow (rowW_length f N k i) (.int .i64 (f.getD p 0))) (.inr (fun e => HVN.out e)) (fun j hj e => by injection e with e; exact HGN.out j hj e))
          have HB3 := Lib.hid (HB.out.setCell (p := ⟨g, t, none⟩) hbg (.int .i64 (f.getD p 0)))
          generalize f.getD p 0 = z at *
          clear hrow HM HR HB ht hp hy4
          go_wp2_with fail
          exact ⟨⟨i + 1, by omega, by go_num, HM3.out, HR3.out, HB3.out⟩, by simp only [intOf]; omega⟩
        · have hin : i = f.length := by have := HL.out; omega
          have HR3 := Lib.hid (show IntRow w0.heap.size wr (rowV N g) (rowLn f N k) by rw [← rowW_end HF1.out, ← hin]; exact HR.out)
          have hrw : (rowLn f N k).length = N := tabL_length _ _
          have HRW := Lib.hid hrw
          have hGl := HM.out.len
          have hMl := HLEN.out
          have HMA := Lib.hid (matG_below HM.out (below_one wr (.cells #[rowV N g] 37)))
          have HRA := Lib.hid (row_below HR3.out (below_one wr (.cells #[rowV N g] 37)) (Nat.le_refl _))
          have hbs2 := HB.out.size
          have hout := HMA.out.out
          unfold rowV at hout
          clear HM HR HR3 hrw
          go_wp2_with (at_builtin; refine wpList_append_own _ rfl (.tmp 38) (.tmp 40) 47 rfl w0.heap.size 37 i1 (.slice none 0 0) 1 24 Try.underlying47 HJ.out HY0.out HY1.out HY2.out rfl (by decide) _ _ _ rfl hout ⟨wr.heap.size, 0, none⟩ 1 1 [.slice (some ⟨g, 0, none⟩) N N] rfl rfl ?c1 ?c2 ?c3 ?c4 ?c5 ?_)
          case c1 => exact news_one wr _ _
          case c2 => intro u hu; simp at hu; subst hu; rfl
          case c3 => unfold maxLen; omega
          case c4 => omega
          case c5 => first | omega | (simp; omega)
          intro v' w7 hown hgrow _
          have hown2 : w7.ownsRow w0.heap.size 37 1 v' (Gk.length + 1) (Gk.map (rowV N) ++ [rowV N g]) := by rw [hGl]; exact hown
          have R4 := Lib.hid (matG_snoc HMA.out HRA.out HRW.out HGN.out HVN.out hown2 hgrow)
          have B4 := Lib.hid ((HB.out.alloc hbs2 (.cells #[rowV N g] 37)).grown hgrow (by simp; omega) (fun k hk => (World.ownsRow.lt HMA.out.out k hk).1))
          clear hown hown2 hgrow hout HMA HRA
          go_wp2_with fail
          exact ⟨⟨k + 1, Gk ++ [g], by omega, by go_num, by rw [rowsL, ← List.append_assoc, HMK.out]; exact R4.out, B4.out⟩, by simp only [intOf]; omega⟩
    · have hkc : k = count := by omega
      subst hkc
      have HM2 := Lib.hid hmat
      have HB2 := Lib.hid hb
      clear hmat hb
      go_wp2_with fail
      go_ret
      exact ⟨_, Gk, rfl, HM2.out, HB2.out⟩
def sylL (f g : List Int) : List (List Int) := rowsL f (f.length - 1 + (g.length - 1)) (g.length - 1) ++ rowsL g (f.length - 1 + (g.length - 1)) (f.length - 1)
set_option maxHeartbeats 1000000 in
theorem l07Matrix_any {o o' : Option Addr} {n n' c c' : Nat} {f g : List Int} {w0 w : World} (hS : Seen w0 o n c f) (hS' : Seen w0 o' n' c' g) (hb : Below w0.heap.size w0 w) (hf : 1 ≤ n) (hf9 : n ≤ 9) (hg : 1 ≤ n') (hg9 : n' ≤ 9) :
    Calls Try.prog 68 #[.slice o n c, .slice o' n' c'] w fun e w' => ∃ v G, e = .returned v ∧ MatG w0.heap.size w' v (f.length - 1 + (g.length - 1)) G (sylL f g) ∧ Below w0.heap.size w0 w' := by
  have HS := Lib.hid hS
  have HS' := Lib.hid hS'
  have HL := Lib.hid (And.intro hS.1 hS'.1)
  obtain ⟨d, hd⟩ : ∃ d : Nat, d + 1 = n := ⟨n - 1, by omega⟩
  obtain ⟨d', hd'⟩ : ∃ d' : Nat, d' + 1 = n' := ⟨n' - 1, by omega⟩
  have hdn : (n : Int) - 1 = (d : Int) := by omega
  have hdn' : (n' : Int) - 1 = (d' : Int) := by omega
  obtain ⟨N, hN⟩ : ∃ N, d + d' = N := ⟨_, rfl⟩
  have hdd : (d : Int) + (d' : Int) = (N : Int) := by omega
  have wN : IntKind.i64.wrap (N : Int) = (N : Int) := IntWalk.i64_in _ (by omega)
  have hNe : f.length - 1 + (g.length - 1) = N := by have := hS.1; have := hS'.1; omega
  have hMe : sylL f g = ([] ++ rowsL f N d') ++ rowsL g N d := by
    unfold sylL; rw [hNe, List.nil_append, show g.length - 1 = d' by have := hS'.1; omega, show f.length - 1 = d by have := hS.1; omega]
  rw [hNe, hMe]
  have hM0 : MatG w0.heap.size (w.alloc (.cells #[] 37)) (.slice (some ⟨w.heap.size, 0, none⟩) 0 0) N [] [] :=
    ⟨rfl, fun i h => absurd h (Nat.not_lt_zero _), fun i h => absurd h (Nat.not_lt_zero _), fun i j h => absurd h (Nat.not_lt_zero _), World.ownsRow_made w #[] 0 hb.size (Nat.zero_le _) rfl⟩
  have HK1 := Lib.hid (l07Rows_any (count := d') hS (hb.alloc hb.size (.cells #[] 37)) hM0 (by have := hS.1; omega) (by omega) (by omega) (by simp) (by omega))
  have HD := Lib.hid (And.intro hd hd')
  clear hS hS' hb hd hd' hM0 hNe hMe
  go_enter Try.func68, Try.ntmps68
  go_wp2_with fail
  refine HK1.out.mono ?_
  rintro e W1 ⟨v1, G1, rfl, hm1, hb1⟩
  have HK2 := Lib.hid (l07Rows_any (count := d) HS'.out hb1 hm1 (by have := HL.out; have := HD.out; omega) (by have := HD.out; omega) (by omega) (by rw [List.length_append, rowsL_length]; simp; omega) (by omega))
  obtain ⟨oo, cc, rfl, _⟩ := matG_shape hm1
  clear hm1 hb1 HK1
  go_wp2_with fail
  refine HK2.out.mono ?_
  rintro e W2 ⟨v2, G2, rfl, hm2, hb2⟩
  have HM2 := Lib.hid hm2
  have HB2 := Lib.hid hb2
  clear hm2 hb2
  go_wp2_with fail
  go_ret
  exact ⟨v2, G2, rfl, HM2.out, HB2.out⟩
def sylC (f g : List Int) : Int := codS2 f g
def sylQ (f g : List Int) : List (List Int) := if codS2 f g = 0 then sylL f g else []
def sylN (f g : List Int) : Nat := if codS2 f g = 0 then f.length - 1 + (g.length - 1) else 0
def MatPost (N : Nat) (M : List (List Int)) (c : Int) (w : World) (e : Ending) (w' : World) : Prop :=
  ∃ v G, e = .returned (.tuple #[v, .int .i64 c]) ∧ MatG w.heap.size w' v N G M ∧ Below w.heap.size w w'
theorem codS2_small {f g : List Int} (h : codS2 f g = 0) : smlB f = true ∧ smlB g = true := by
  unfold codS2 at h
  split at h
  · split at h
    · rename_i h2; rw [Bool.and_eq_true] at h2; exact h2
    · cases h
  · cases h
theorem sylN_le (f g : List Int) : sylN f g ≤ 8 := by
  unfold sylN
  split
  · rename_i h
    obtain ⟨s1, s2⟩ := codS2_small h
    have := (smlB_of s1).2.2.1; have := (smlB_of s2).2.2.1
    omega
  · omega
theorem sylQ_len (f g : List Int) : (sylQ f g).length ≤ 8 := by
  unfold sylQ
  split
  · rename_i h
    obtain ⟨s1, s2⟩ := codS2_small h
    have := (smlB_of s1).2.2.1; have := (smlB_of s2).2.2.1
    unfold sylL
    rw [List.length_append, rowsL_length, rowsL_length]; omega
  · simp
theorem two_cell (w : World) (v u : Value) (T : TypeId) : (w.alloc (.cells #[v, u] T)).cell? ⟨w.heap.size, 0, none⟩ = some v ∧ (w.alloc (.cells #[v, u] T)).cell? ⟨w.heap.size, 1, none⟩ = some u := ⟨by rw [World.cell?_alloc_new]; rfl, by rw [World.cell?_alloc_new]; rfl⟩
set_option maxHeartbeats 1000000 in
theorem specSyl_any {o o' : Option Addr} {n n' c c' : Nat} {f g : List Int} {w : World} (h : Seen w o n c f) (h' : Seen w o' n' c' g) :
    Calls Try.prog 31 #[.slice o n c, .slice o' n' c'] w (MatPost (sylN f g) (sylQ f g) (codS2 f g) w) := by
  have HK := Lib.hid (l07Code2 (seen_below h (below_one w (.cells #[.slice o n c, .slice o' n' c'] 37))) (two_cell w (.slice o n c) (.slice o' n' c') 37).1 (seen_below h' (below_one w (.cells #[.slice o n c, .slice o' n' c'] 37))) (two_cell w (.slice o n c) (.slice o' n' c') 37).2)
  have HB1 := Lib.hid (below_one w (.cells #[.slice o n c, .slice o' n' c'] 37))
  by_cases hc : codS2 f g = 0
  · rw [show sylN f g = f.length - 1 + (g.length - 1) by simp [sylN, hc]]
    obtain ⟨s1, s2⟩ := codS2_small hc
    obtain ⟨_, l1, l2, _⟩ := smlB_of s1
    obtain ⟨_, l3, l4, _⟩ := smlB_of s2
    have HM := Lib.hid (l07Matrix_any h h' HB1.out (by have := h.1; omega) (by have := h.1; omega) (by have := h'.1; omega) (by have := h'.1; omega))
    have HQ := Lib.hid (show sylQ f g = sylL f g by simp [sylQ, hc])
    have HC := Lib.hid hc
    rw [hc] at HK
    clear h h' hc s1 s2 l1 l2 l3 l4
    go_enter Try.func31, Try.ntmps31
    go_wp2_with fail
    refine HK.out.mono ?_
    rintro e w2 ⟨rfl, rfl⟩
    go_wp2_with fail
    refine HM.out.mono ?_
    rintro e W2 ⟨v2, G2, rfl, hm2, hb2⟩
    have HM2 := Lib.hid hm2
    have HB2 := Lib.hid hb2
    clear hm2 hb2
    go_wp2_with fail
    go_ret2
    have hc0 := HC.out
    exact ⟨v2, G2, congrArg (fun c => Ending.returned (.tuple #[v2, .int .i64 c])) hc0.symm, by rw [HQ.out]; exact HM2.out, HB2.out⟩
  · have HQ := Lib.hid (show sylQ f g = [] by simp [sylQ, hc])
    generalize codS2 f g = y at *
    have hc' : (y != 0) = true := by simpa using hc
    clear h h'
    go_enter Try.func31, Try.ntmps31
    go_wp2_with fail
    refine HK.out.mono ?_
    rintro e w2 ⟨rfl, rfl⟩
    go_wp2_with fail
    go_ret2
    exact ⟨_, [], rfl, by rw [HQ.out]; exact matG_nil _ _ _, HB1.out⟩
end Go.Proofs.Ytbolmmgkmgmfeaa
