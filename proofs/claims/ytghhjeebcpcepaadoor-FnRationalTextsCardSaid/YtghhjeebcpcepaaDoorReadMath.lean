/- Plain mathematics: what ReadPowers reads off the text of a list of prime powers is that list. -/
import Derived.Test.YtghhjeebcpcepaaDoorSpecRead
namespace Go.Proofs.YtghhjeebcpcepaaDoor
open Go.RowKit
set_option linter.unusedVariables false
def spL (b : UInt8) : List UInt8 → List (List UInt8)
  | [] => [[]]
  | c :: r => if c = b then [] :: spL b r else (match spL b r with
    | [] => [[c]]
    | h :: t => (c :: h) :: t)
def glue (p : List UInt8) : List (List UInt8) → List (List UInt8)
  | [] => [p]
  | h :: t => (p ++ h) :: t
theorem spL_ne (b : UInt8) (l : List UInt8) : spL b l ≠ [] := by
  cases l with
  | nil => simp [spL]
  | cons c r => unfold spL; split; simp; split <;> simp
theorem spL_no (b c : UInt8) (r : List UInt8) (h : ¬ c = b) : spL b (c :: r) = glue [c] (spL b r) := by
  unfold glue; rw [spL, if_neg h]; cases spL b r <;> rfl
theorem glue_glue (p q : List UInt8) (l : List (List UInt8)) (h : l ≠ []) : glue p (glue q l) = glue (p ++ q) l := by
  cases l with
  | nil => exact absurd rfl h
  | cons a t => simp [glue]
theorem glue_nil (l : List (List UInt8)) (h : l ≠ []) : glue [] l = l := by
  cases l with
  | nil => exact absurd rfl h
  | cons a t => simp [glue]
def seg (l : List UInt8) (j k : Nat) : List UInt8 := (l.drop j).take (k - j)
theorem ext_seg (s : ByteArray) (j k : Nat) : (s.extract j k).data.toList = seg s.data.toList j k := by
  rw [ByteArray.data_extract, Array.toList_extract]; rfl
theorem seg_succ {l : List UInt8} {j k : Nat} (hj : j ≤ k) (hk : k < l.length) : seg l j (k + 1) = seg l j k ++ [l[k]] := by
  unfold seg
  rw [show k + 1 - j = (k - j) + 1 by omega, List.take_succ_eq_append_getElem (by rw [List.length_drop]; omega), List.getElem_drop]
  simp [show j + (k - j) = k by omega]
theorem don_spL (s : ByteArray) (b : UInt8) : ∀ k, k ≤ s.size →
    (don s b k).map (·.data.toList) ++ glue (seg s.data.toList (frm s b k) k) (spL b (s.data.toList.drop k)) = spL b s.data.toList := by
  intro k
  have hsz : s.data.toList.length = s.size := by rw [Array.length_toList]; rfl
  induction k with
  | zero =>
    intro _
    rw [show seg s.data.toList (frm s b 0) 0 = [] by simp [seg], glue_nil _ (spL_ne _ _)]
    simp [don]
  | succ k ih =>
    intro hk
    have h := ih (by omega)
    have hkl : k < s.data.toList.length := by omega
    rw [List.drop_eq_getElem_cons hkl] at h
    have hc : s.data.toList[k] = s[k] := by simp; rfl
    by_cases he : s[k] = b
    · obtain ⟨d1, d2⟩ := split_yes (cut_yes (by omega) he) rfl
      rw [d1, d2, ← h, List.map_append, List.append_assoc, show seg s.data.toList (k + 1) (k + 1) = [] by simp [seg], glue_nil _ (spL_ne _ _), spL, if_pos (by rw [hc]; exact he)]
      simp [glue, seg]
    · obtain ⟨d1, d2⟩ := split_no (cut_no (by omega) he)
      rw [d1, d2, ← h, spL_no _ _ _ (by rw [hc]; exact he), glue_glue _ _ _ (spL_ne _ _), ← seg_succ (frm_le s b k) hkl]
theorem bs_of_toList (x : ByteArray) : bsOf x.data.toList = x := by cases x; simp [bsOf]
theorem splitL_eq (s : ByteArray) (b : UInt8) : splitL s b = (spL b s.data.toList).map bsOf := by
  have h := don_spL s b s.size (Nat.le_refl _)
  have hsz : s.data.toList.length = s.size := by rw [Array.length_toList]; rfl
  have h2 : (splitL s b).map (·.data.toList) = spL b s.data.toList := by
    unfold splitL
    rw [(split_yes (cut_end s b) rfl).1, ← h, List.drop_eq_nil_of_le (by omega), List.map_append]
    simp [spL, glue, seg]
  rw [← h2, List.map_map]
  conv => lhs; rw [← List.map_id (splitL s b)]
  apply List.map_congr_left
  intro x _
  simp [bs_of_toList]
theorem spL_one (b : UInt8) (x : List UInt8) (h : b ∉ x) : spL b x = [x] := by
  induction x with
  | nil => rfl
  | cons c r ih =>
    simp at h
    rw [spL_no _ _ _ (fun e => h.1 e.symm), ih h.2]; rfl
theorem spL_more (b : UInt8) (x r : List UInt8) (h : b ∉ x) : spL b (x ++ b :: r) = x :: spL b r := by
  induction x with
  | nil => simp [spL]
  | cons c x ih =>
    simp at h
    rw [List.cons_append, spL_no _ _ _ (fun e => h.1 e.symm), ih h.2]; rfl
theorem spL_join (b : UInt8) : ∀ (ls : List (List UInt8)) (a : List UInt8), b ∉ a → (∀ x ∈ ls, b ∉ x) → spL b (a ++ Lib.joinTail [b] ls) = a :: ls
  | [], a, ha, _ => by simp [Lib.joinTail, spL_one b a ha]
  | c :: r, a, ha, h => by
    have ih := spL_join b r c (h c (by simp)) (fun x hx => h x (by simp [hx]))
    have e : Lib.joinTail [b] (c :: r) = b :: (c ++ Lib.joinTail [b] r) := by simp [Lib.joinTail]
    rw [e, spL_more b a _ ha, ih]
theorem spL_of_join (b : UInt8) (ls : List (List UInt8)) (h0 : ls ≠ []) (h : ∀ x ∈ ls, b ∉ x) : spL b (Lib.join ls [b]) = ls := by
  cases ls with
  | nil => exact absurd rfl h0
  | cons a r => rw [Lib.join_cons]; exact spL_join b r a (h a (by simp)) (fun x hx => h x (by simp [hx]))
theorem dig_of {u : Nat} (h : u < 10) : isDig (UInt8.ofNat (48 + u)) = true ∧ ((UInt8.ofNat (48 + u)).toNat : Int) - 48 = u := by
  have : (UInt8.ofNat (48 + u)).toNat = 48 + u := by simp [UInt8.toNat_ofNat']; omega
  unfold isDig
  rw [this]
  exact ⟨by simp; omega, by omega⟩
theorem decDigits_val (u : Nat) : (Lib.decDigits u).all isDig = true ∧ valL (Lib.decDigits u) = u := by
  induction u using Nat.strongRecOn with
  | _ u ih =>
    rw [Lib.decDigits]
    split
    · rename_i h
      obtain ⟨d1, d2⟩ := dig_of h
      refine ⟨by simpa using d1, ?_⟩
      unfold valL
      rw [List.foldl_cons, List.foldl_nil]
      omega
    · rename_i h
      obtain ⟨i1, i2⟩ := ih (u / 10) (by omega)
      obtain ⟨d1, d2⟩ := dig_of (show u % 10 < 10 by omega)
      refine ⟨by rw [List.all_append, i1]; simpa using d1, ?_⟩
      rw [valL_snoc, i2, d2]; omega
theorem itoa_nat {n : Int} (h0 : 0 ≤ n) : Lib.itoa n = Lib.decDigits n.toNat := by unfold Lib.itoa; rw [if_neg (by omega)]
theorem dig_not {l : List UInt8} (h : l.all isDig = true) (b : UInt8) (hb : isDig b = false) : b ∉ l := by
  intro hm
  rw [List.all_eq_true] at h
  rw [h b hm] at hb; cases hb
theorem rdV_itoa {n : Int} (h0 : 0 ≤ n) (h1 : n < 10000000000000) : rdV (bsOf (Lib.itoa n)) = n := by
  obtain ⟨d1, d2⟩ := decDigits_val n.toNat
  have hl := decDigits_len 12 n.toNat (by omega)
  have hp : 1 ≤ (Lib.decDigits n.toNat).length := by rw [Lib.decDigits]; split <;> simp
  rw [itoa_nat h0]
  rw [(rd_good (s := bsOf (Lib.decDigits n.toNat)) (by rw [bs_size]; exact hp) (by rw [bs_size]; exact hl) d1).1]
  show valL (Lib.decDigits n.toNat) = n
  rw [d2]; omega
theorem partOf_pwT {a k : Int} (a0 : 0 ≤ a) (a1 : a ≤ 1000000) (k0 : 1 ≤ k) (k1 : k ≤ 40) : partOf (bsOf (pwT (a, k))) = (a, k) := by
  have na : (94 : UInt8) ∉ Lib.itoa a := by rw [itoa_nat a0]; exact dig_not (decDigits_val _).1 94 (by decide)
  have nk : (94 : UInt8) ∉ Lib.itoa k := by rw [itoa_nat (by omega)]; exact dig_not (decDigits_val _).1 94 (by decide)
  unfold partOf
  rw [splitL_eq]
  show (rdV (((spL 94 (pwT (a, k))).map bsOf).getD 0 ⟨#[]⟩), if 1 < ((spL 94 (pwT (a, k))).map bsOf).length then rdV (((spL 94 (pwT (a, k))).map bsOf).getD 1 ⟨#[]⟩) else 1) = (a, k)
  by_cases h : k = 1
  · subst h
    rw [pwT_one, spL_one 94 _ na]
    simp [rdV_itoa a0 (show a < 10000000000000 by omega)]
  · have e : pwT (a, k) = Lib.itoa a ++ 94 :: Lib.itoa k := by unfold pwT; rw [if_neg h]
    rw [e, spL_more 94 _ _ na, spL_one 94 _ nk]
    simp [rdV_itoa a0 (show a < 10000000000000 by omega), rdV_itoa (show 0 ≤ k by omega) (show k < 10000000000000 by omega)]
theorem star_pwT {a k : Int} (a0 : 0 ≤ a) (k0 : 1 ≤ k) : (42 : UInt8) ∉ pwT (a, k) := by
  have na : (42 : UInt8) ∉ Lib.itoa a := by rw [itoa_nat a0]; exact dig_not (decDigits_val _).1 42 (by decide)
  have nk : (42 : UInt8) ∉ Lib.itoa k := by rw [itoa_nat (by omega)]; exact dig_not (decDigits_val _).1 42 (by decide)
  unfold pwT
  split
  · exact na
  · intro h
    rw [List.mem_append] at h
    rcases h with h | h
    · exact na h
    · simp at h; exact nk h
theorem psT_ne_one {l : List (Int × Int)} (h : arePowB l = true) (h0 : l ≠ []) : ∃ a k r, l = (a, k) :: r ∧ 2 ≤ a ∧ a ≤ 1000000 ∧ 1 ≤ k ∧ k ≤ 40 := by
  match l, h0 with
  | (a, k) :: r, _ =>
    obtain ⟨h1, h2, h3, h4⟩ := arePow_at h (i := 0) (by simp) (x := a) (y := k) rfl
    exact ⟨a, k, r, rfl, h1, h2, h3, h4⟩
theorem mem_bd {l : List (Int × Int)} (h : arePowB l = true) {p : Int × Int} (hp : p ∈ l) : 2 ≤ p.1 ∧ p.1 ≤ 1000000 ∧ 1 ≤ p.2 ∧ p.2 ≤ 40 := by
  obtain ⟨i, hi, e⟩ := List.getElem_of_mem hp
  exact arePow_at h hi (x := p.1) (y := p.2) (by rw [List.getD, List.getElem?_eq_getElem hi, e]; rfl)
theorem pieces_psT {l : List (Int × Int)} (h : arePowB l = true) (h0 : l ≠ []) : splitL (bsOf (psT l)) 42 = l.map fun p => bsOf (pwT p) := by
  rw [splitL_eq]
  show (spL 42 (psT l)).map bsOf = _
  unfold psT
  rw [if_neg h0]
  unfold accT
  rw [List.take_length, spL_of_join 42 (l.map pwT) (by simpa using h0) (fun x hx => by
    obtain ⟨p, hp, rfl⟩ := List.mem_map.1 hx
    have := mem_bd h hp
    exact star_pwT (a := p.1) (k := p.2) (by omega) this.2.2.1), List.map_map]
  rfl
theorem psT_not_one {l : List (Int × Int)} (h : arePowB l = true) (h0 : l ≠ []) : ¬ bsOf (psT l) = ⟨#[49]⟩ := by
  intro e
  have hp := pieces_psT h h0
  rw [e] at hp
  obtain ⟨a, k, r, rfl, h1, h2, h3, h4⟩ := psT_ne_one h h0
  have e1 : splitL (⟨#[49]⟩ : ByteArray) 42 = [⟨#[49]⟩] := by decide
  rw [e1] at hp
  simp only [List.map_cons] at hp
  have hq : (⟨#[49]⟩ : ByteArray) = bsOf (pwT (a, k)) := (List.cons.inj hp).1
  have hr := partOf_pwT (a := a) (k := k) (by omega) h2 h3 h4
  rw [← hq] at hr
  have hv : (partOf ⟨#[49]⟩).1 = 1 := by decide
  rw [hr] at hv
  simp at hv; omega
/-- what is read off the text of a list is the list -/
theorem parse_psT {l : List (Int × Int)} (h : arePowB l = true) : parseS (bsOf (psT l)) = l := by
  by_cases h0 : l = []
  · subst h0; unfold parseS; rw [if_pos (show bsOf (psT []) = ⟨#[49]⟩ from rfl)]
  · unfold parseS
    rw [if_neg (psT_not_one h h0), pieces_psT h h0, List.map_map]
    conv => rhs; rw [← List.map_id l]
    apply List.map_congr_left
    intro p hp
    have := mem_bd h hp
    exact partOf_pwT (a := p.1) (k := p.2) (by omega) this.2.1 this.2.2.1 this.2.2.2
end Go.Proofs.YtghhjeebcpcepaaDoor
