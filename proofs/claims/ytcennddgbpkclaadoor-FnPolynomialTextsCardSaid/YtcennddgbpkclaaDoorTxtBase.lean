/- Texts: what the walks of texts need of numbers in decimal, of pieces between separators, of joined pieces, and of strconv. -/
import Derived.Test.YtcennddgbpkclaaDoorDec
import Derived.Test.YtcennddgbpkclaaDoorShelf
import Derived.Test.YtcennddgbpkclaaDoorSplit
import Derived.Test.YtcennddgbpkclaaDoorValue
import Derived.WalkSmall
import Derived.Sort.Grow
import Derived.Lib.Join
import Derived.Lib.SmallJoins
import Derived.Lib.IndexBytes
import Derived.Laws.OwnMore
import Derived.RangeFuncBox
namespace Go.Proofs.YtcennddgbpkclaaDoor
open Go.RowKit Go.Sort
set_option linter.unusedVariables false
/-- the table of powers of ten that strconv reads -/
def Tab (w : World) : Prop := Lib.TabIs Tryd.prog w "internal/strconv.uint64pow10" .u64 Lib.pow10Tab
theorem below_grow (w : World) (k : Nat) (os : Array Obj) : Below w.heap.size w (grow (w.drewN k) os) :=
  ⟨rfl, rfl, rfl, by simp [grow, World.drewN], fun i hi => by
    show (w.heap ++ os)[i]? = w.heap[i]?
    rw [Array.getElem?_append_left hi]⟩
theorem format_any (n : Int) (w : World) (h0 : -9223372036854775808 ≤ n) (h1 : n ≤ 9223372036854775807) (ht : Tab w) :
    Calls Tryd.prog 51 #[.int .i64 n, .int .i64 10] w fun e w' => e = .returned (.string (bsOf (Lib.itoa n))) ∧ Below w.heap.size w w' :=
  (Tryd.strconv_FormatInt_10 n h0 h1 w ht).mono fun e w' ⟨he, k, os, hw⟩ => ⟨he, hw ▸ below_grow w k os⟩
theorem gTab : Tryd.prog.globalNamed "internal/strconv.uint64pow10" = some 0 := by kernel_rfl
theorem tab_below {w w' : World} {B : Nat} (h : Tab w) (hb : Below B w w') (hB : w.heap.size ≤ B) : Tab w' := by
  have h0 := h
  unfold Tab Lib.TabIs World.var? at h0
  simp only [gTab, Option.bind_some] at h0
  have hlt : 0 < w.heap.size := by
    refine Nat.lt_of_not_le fun hle => ?_
    rw [Array.getElem?_eq_none hle] at h0
    simp at h0
  exact var?_below hb gTab (by omega) h
theorem bs_append (a b : List UInt8) : bsOf a ++ bsOf b = bsOf (a ++ b) := by
  unfold bsOf; apply ByteArray.ext; simp
theorem bs_size (a : List UInt8) : (bsOf a).size = a.length := by unfold bsOf; simp [ByteArray.size]
theorem add_any (a b : ByteArray) (h : a.size + b.size ≤ 100000) (wx : World) : (Op.stringOp .add a b).run Tryd.prog wx = .ok (.string (a ++ b)) wx := run_string_add_sum wx a b (by omega)
theorem join_snoc (xs : List (List UInt8)) (x sep : List UInt8) (h : xs ≠ []) : Lib.join (xs ++ [x]) sep = Lib.join xs sep ++ sep ++ x := by
  match xs, h with
  | a :: r, _ =>
    rw [List.cons_append, Lib.join_cons, Lib.join_cons]
    simp [Lib.joinTail]
theorem ret_strint {a b : ByteArray} {k : IntKind} {c d : Int} (h : a = b) (h' : c = d) : Ending.returned (.tuple #[.string a, .int k c]) = .returned (.tuple #[.string b, .int k d]) := by rw [h, h']
/-- what the memory holds that strings.Cut and strconv.ParseInt read -/
def Env (w : World) : Prop :=
  (∃ ev, w.cell? ⟨2, 0, none⟩ = some ev ∧ (ev = .nilIface ∨ ∃ te pe, ev = .iface te pe)) ∧
  (∃ ev, w.cell? ⟨3, 0, none⟩ = some ev ∧ (ev = .nilIface ∨ ∃ te pe, ev = .iface te pe)) ∧
  ∃ m, w.cell? ⟨1, 0, none⟩ = some (.int .i64 m)
theorem env_below {w w' : World} {B : Nat} (h : Env w) (hb : Below B w w') (hB : w.heap.size ≤ B) : Env w' := by
  obtain ⟨⟨e1, h1, k1⟩, ⟨e2, h2, k2⟩, m, h3⟩ := h
  have l1 := World.block_lt_of_cell? w _ h1
  have l2 := World.block_lt_of_cell? w _ h2
  have l3 := World.block_lt_of_cell? w _ h3
  exact ⟨⟨e1, by rw [hb.cell (by show _ < B; omega)]; exact h1, k1⟩, ⟨e2, by rw [hb.cell (by show _ < B; omega)]; exact h2, k2⟩, m, by rw [hb.cell (by show _ < B; omega)]; exact h3⟩
def pI (l : List UInt8) : Option Int := match Lib.parseIntB 64 l with
  | .ok v => some v
  | _ => none
theorem below_bytes {w w' : World} (h : w' = w ∨ ∃ t, w' = Lib.bytesWorld w 5 t) : Below w.heap.size w w' := by
  rcases h with rfl | ⟨t, rfl⟩
  · exact Below.refl _ _
  · exact Go.Joins.below_bytesWorld _ _ _ _ (Nat.le_refl _)
theorem parse_any (x : ByteArray) (w : World) (hx : x.size ≤ 2000000) (h : Env w) :
    Calls Tryd.prog 55 #[.string x, .int .i64 10, .int .i64 64] w fun e w' => ∃ v er, e = .returned (.tuple #[.int .i64 v, er]) ∧ Below w.heap.size w w' ∧
      ((pI x.data.toList = some v ∧ er = .nilIface) ∨ (pI x.data.toList = none ∧ ∃ t p, er = .iface t p)) := by
  obtain ⟨⟨e1, h1, k1⟩, ⟨e2, h2, k2⟩, _⟩ := h
  cases hp : Lib.parseIntB 64 x.data.toList
  case ok v => exact (Tryd.strconv_ParseInt_10_at64_ok x (by omega) v hp w).mono fun e w' ⟨he, hw⟩ => ⟨v, _, he, below_bytes hw, .inl ⟨by simp [pI, hp], rfl⟩⟩
  all_goals first
    | exact (Tryd.strconv_ParseInt_10_at64_syntax x (by omega) (hp.trans rfl) e1 w h1 k1).mono fun e w' ⟨N, he, _, _, hb⟩ => ⟨_, _, he, hb, .inr ⟨by simp [pI, hp], _, _, rfl⟩⟩
    | exact (Tryd.strconv_ParseInt_10_at64_range x (by omega) hp e2 w h2 k2).mono fun e w' ⟨N, he, _, _, hb⟩ => ⟨_, _, he, hb, .inr ⟨by simp [pI, hp], _, _, rfl⟩⟩
theorem strRow_cells {base : Nat} {w : World} {g c n : Nat} {l : List ByteArray} (h : StrRow base w (.slice (some ⟨g, 0, none⟩) n c) l) (hn : n = l.length) :
    ∀ k, k < n → w.cell? ⟨g, k, none⟩ = some (.string (l.getD k ⟨#[]⟩)) := by
  intro k hk
  subst hn
  rw [World.ownsRow.cellAt h k (by omega), List.getElem?_map, List.getD]
  simp [hk]
theorem strRow_some {base : Nat} {w : World} {v : Value} {l : List ByteArray} (h : StrRow base w v l) (h0 : 0 < l.length) : ∃ g c, v = .slice (some ⟨g, 0, none⟩) l.length c ∧ base ≤ g ∧ g < w.heap.size := by
  rcases row_shape h with ⟨e, _⟩ | ⟨_, g, c, e⟩
  · omega
  · exact ⟨g, c, e⟩
theorem split_pos (s : ByteArray) (b : UInt8) : 0 < (splitL s b).length := by
  unfold splitL; rw [(split_yes (cut_end s b) rfl).1]; simp
theorem don_size (s : ByteArray) (b : UInt8) : ∀ k x, x ∈ don s b k → x.size ≤ s.size
  | 0, x, h => by simp [don] at h
  | k + 1, x, h => by
    unfold don at h
    split at h
    · rcases List.mem_append.1 h with h | h
      · exact don_size s b k x h
      · simp at h; subst h; rw [ByteArray.size_extract]; omega
    · exact don_size s b k x h
theorem split_size (s : ByteArray) (b : UInt8) (k : Nat) : ((splitL s b).getD k ⟨#[]⟩).size ≤ s.size := by
  rw [List.getD]
  cases h : (splitL s b)[k]? with
  | none => exact Nat.zero_le _
  | some x => exact don_size s b _ x (List.mem_of_getElem? h)
theorem split_length (s : ByteArray) (b : UInt8) : (splitL s b).length ≤ s.size + 1 := don_length s b _
theorem str_ne {a b : ByteArray} (h : ¬ a = b) : (a.toList == b.toList) = false := by rw [bs_beq]; simpa using h
theorem str_eq' {a b : ByteArray} (h : a = b) : (a.toList == b.toList) = true := by rw [bs_beq]; simpa using h
def spL (b : UInt8) : List UInt8 → List (List UInt8)
  | [] => [[]]
  | c :: r => if c = b then [] :: spL b r else (match spL b r with
    | [] => [[c]]
    | h :: t => (c :: h) :: t)
def glue (p : List UInt8) : List (List UInt8) → List (List UInt8)
  | [] => [p]
  | h :: t => (p ++ h) :: t
theorem spL_ne (b : UInt8) (l : List UInt8) : spL b l ≠ [] := by
  cases l with
  | nil => simp [spL]
  | cons c r => unfold spL; split; simp; split <;> simp
theorem spL_no (b c : UInt8) (r : List UInt8) (h : ¬ c = b) : spL b (c :: r) = glue [c] (spL b r) := by
  unfold glue; rw [spL, if_neg h]; cases spL b r <;> rfl
theorem glue_glue (p q : List UInt8) (l : List (List UInt8)) (h : l ≠ []) : glue p (glue q l) = glue (p ++ q) l := by
  cases l with
  | nil => exact absurd rfl h
  | cons a t => simp [glue]
theorem glue_nil (l : List (List UInt8)) (h : l ≠ []) : glue [] l = l := by
  cases l with
  | nil => exact absurd rfl h
  | cons a t => simp [glue]
def seg (l : List UInt8) (j k : Nat) : List UInt8 := (l.drop j).take (k - j)
theorem ext_seg (s : ByteArray) (j k : Nat) : (s.extract j k).data.toList = seg s.data.toList j k := by
  rw [ByteArray.data_extract, Array.toList_extract]; rfl
theorem seg_succ {l : List UInt8} {j k : Nat} (hj : j ≤ k) (hk : k < l.length) : seg l j (k + 1) = seg l j k ++ [l[k]] := by
  unfold seg
  rw [show k + 1 - j = (k - j) + 1 by omega, List.take_succ_eq_append_getElem (by rw [List.length_drop]; omega), List.getElem_drop]
  simp [show j + (k - j) = k by omega]
theorem don_spL (s : ByteArray) (b : UInt8) : ∀ k, k ≤ s.size →
    (don s b k).map (·.data.toList) ++ glue (seg s.data.toList (frm s b k) k) (spL b (s.data.toList.drop k)) = spL b s.data.toList := by
  intro k
  have hsz : s.data.toList.length = s.size := by rw [Array.length_toList]; rfl
  induction k with
  | zero =>
    intro _
    rw [show seg s.data.toList (frm s b 0) 0 = [] by simp [seg], glue_nil _ (spL_ne _ _)]
    simp [don]
  | succ k ih =>
    intro hk
    have h := ih (by omega)
    have hkl : k < s.data.toList.length := by omega
    rw [List.drop_eq_getElem_cons hkl] at h
    have hc : s.data.toList[k] = s[k] := by simp; rfl
    by_cases he : s[k] = b
    · obtain ⟨d1, d2⟩ := split_yes (cut_yes (by omega) he) rfl
      rw [d1, d2, ← h, List.map_append, List.append_assoc, show seg s.data.toList (k + 1) (k + 1) = [] by simp [seg], glue_nil _ (spL_ne _ _), spL, if_pos (by rw [hc]; exact he)]
      simp [glue, seg]
    · obtain ⟨d1, d2⟩ := split_no (cut_no (by omega) he)
      rw [d1, d2, ← h, spL_no _ _ _ (by rw [hc]; exact he), glue_glue _ _ _ (spL_ne _ _), ← seg_succ (frm_le s b k) hkl]
theorem bs_of_toList (x : ByteArray) : bsOf x.data.toList = x := by cases x; simp [bsOf]
theorem splitL_eq (s : ByteArray) (b : UInt8) : splitL s b = (spL b s.data.toList).map bsOf := by
  have h := don_spL s b s.size (Nat.le_refl _)
  have hsz : s.data.toList.length = s.size := by rw [Array.length_toList]; rfl
  have h2 : (splitL s b).map (·.data.toList) = spL b s.data.toList := by
    unfold splitL
    rw [(split_yes (cut_end s b) rfl).1, ← h, List.drop_eq_nil_of_le (by omega), List.map_append]
    simp [spL, glue, seg]
  rw [← h2, List.map_map]
  conv => lhs; rw [← List.map_id (splitL s b)]
  apply List.map_congr_left
  intro x _
  simp [bs_of_toList]
theorem spL_one (b : UInt8) (x : List UInt8) (h : b ∉ x) : spL b x = [x] := by
  induction x with
  | nil => rfl
  | cons c r ih =>
    simp at h
    rw [spL_no _ _ _ (fun e => h.1 e.symm), ih h.2]; rfl
theorem spL_more (b : UInt8) (x r : List UInt8) (h : b ∉ x) : spL b (x ++ b :: r) = x :: spL b r := by
  induction x with
  | nil => simp [spL]
  | cons c x ih =>
    simp at h
    rw [List.cons_append, spL_no _ _ _ (fun e => h.1 e.symm), ih h.2]; rfl
theorem spL_join (b : UInt8) : ∀ (ls : List (List UInt8)) (a : List UInt8), b ∉ a → (∀ x ∈ ls, b ∉ x) → spL b (a ++ Lib.joinTail [b] ls) = a :: ls
  | [], a, ha, _ => by simp [Lib.joinTail, spL_one b a ha]
  | c :: r, a, ha, h => by
    have ih := spL_join b r c (h c (by simp)) (fun x hx => h x (by simp [hx]))
    have e : Lib.joinTail [b] (c :: r) = b :: (c ++ Lib.joinTail [b] r) := by simp [Lib.joinTail]
    rw [e, spL_more b a _ ha, ih]
theorem spL_of_join (b : UInt8) (ls : List (List UInt8)) (h0 : ls ≠ []) (h : ∀ x ∈ ls, b ∉ x) : spL b (Lib.join ls [b]) = ls := by
  cases ls with
  | nil => exact absurd rfl h0
  | cons a r => rw [Lib.join_cons]; exact spL_join b r a (h a (by simp)) (fun x hx => h x (by simp [hx]))
theorem dig_of {u : Nat} (h : u < 10) : isDig (UInt8.ofNat (48 + u)) = true ∧ ((UInt8.ofNat (48 + u)).toNat : Int) - 48 = u := by
  have : (UInt8.ofNat (48 + u)).toNat = 48 + u := by simp [UInt8.toNat_ofNat']; omega
  unfold isDig
  rw [this]
  exact ⟨by simp; omega, by omega⟩
theorem decDigits_val (u : Nat) : (Lib.decDigits u).all isDig = true ∧ valL (Lib.decDigits u) = u := by
  induction u using Nat.strongRecOn with
  | _ u ih =>
    rw [Lib.decDigits]
    split
    · rename_i h
      obtain ⟨d1, d2⟩ := dig_of h
      refine ⟨by simpa using d1, ?_⟩
      unfold valL
      rw [List.foldl_cons, List.foldl_nil]
      omega
    · rename_i h
      obtain ⟨i1, i2⟩ := ih (u / 10) (by omega)
      obtain ⟨d1, d2⟩ := dig_of (show u % 10 < 10 by omega)
      refine ⟨by rw [List.all_append, i1]; simpa using d1, ?_⟩
      rw [valL_snoc, i2, d2]; omega
theorem itoa_nat {n : Int} (h0 : 0 ≤ n) : Lib.itoa n = Lib.decDigits n.toNat := by unfold Lib.itoa; rw [if_neg (by omega)]
theorem dig_not {l : List UInt8} (h : l.all isDig = true) (b : UInt8) (hb : isDig b = false) : b ∉ l := by
  intro hm
  rw [List.all_eq_true] at h
  rw [h b hm] at hb; cases hb
theorem rdV_itoa {n : Int} (h0 : 0 ≤ n) (h1 : n < 10000000000000) : rdV (bsOf (Lib.itoa n)) = n := by
  obtain ⟨d1, d2⟩ := decDigits_val n.toNat
  have hl := decDigits_len 12 n.toNat (by omega)
  have hp : 1 ≤ (Lib.decDigits n.toNat).length := by rw [Lib.decDigits]; split <;> simp
  rw [itoa_nat h0]
  rw [(rd_good (s := bsOf (Lib.decDigits n.toNat)) (by rw [bs_size]; exact hp) (by rw [bs_size]; exact hl) d1).1]
  show valL (Lib.decDigits n.toNat) = n
  rw [d2]; omega
theorem indexByte_no (b : UInt8) : ∀ (l : List UInt8), b ∉ l → Lib.indexByte l b = -1
  | [], _ => rfl
  | c :: r, h => by
    simp at h
    have ih := indexByte_no b r h.2
    unfold Lib.indexByte
    rw [if_neg (by simpa using fun e => h.1 e.symm), ih]; rfl
theorem indexByte_yes (b : UInt8) (r : List UInt8) : ∀ (l : List UInt8), b ∉ l → Lib.indexByte (l ++ b :: r) b = l.length
  | [], _ => by simp [Lib.indexByte]
  | c :: l, h => by
    simp at h
    have ih := indexByte_yes b r l h.2
    rw [List.cons_append]
    unfold Lib.indexByte
    rw [if_neg (by simpa using fun e => h.1 e.symm), ih, if_neg (by simp)]
    simp
theorem cut_no_byte (b : UInt8) (l : List UInt8) (h : b ∉ l) : Lib.cut l [b] = (l, [], false) := by
  unfold Lib.cut
  rw [Lib.index_one, indexByte_no b l h]; rfl
theorem cut_byte (b : UInt8) (l r : List UInt8) (h : b ∉ l) : Lib.cut (l ++ b :: r) [b] = (l, r, true) := by
  unfold Lib.cut
  rw [Lib.index_one, indexByte_yes b r l h, if_pos (by omega)]
  simp
theorem uintM_dig (M : Nat) (hM : 1000000000000000000 ≤ M) : ∀ (l : List UInt8) (acc : Nat), l.all isDig = true → (acc + 1) * 10 ^ l.length ≤ 1000000000000000000 →
    ∃ u, Lib.parseUintM M acc l = .ok u ∧ (u : Int) = l.foldl (fun n c => 10 * n + ((c.toNat : Int) - 48)) (acc : Int) ∧ u < 1000000000000000000
  | [], acc, _, h => ⟨acc, rfl, rfl, by simp at h; omega⟩
  | c :: r, acc, hd, h => by
    rw [List.all_cons, Bool.and_eq_true] at hd
    obtain ⟨hc, hr⟩ := hd
    simp only [isDig, decide_eq_true_eq] at hc
    rw [List.length_cons, Nat.pow_succ] at h
    have hp : 1 ≤ 10 ^ r.length := Nat.one_le_pow _ _ (by decide)
    have h2 : (acc + 1) * 10 * 10 ^ r.length ≤ 1000000000000000000 := by rw [Nat.mul_assoc, Nat.mul_comm 10]; exact h
    have h3 : (acc + 1) * 10 ≤ (acc + 1) * 10 * 10 ^ r.length := Nat.le_mul_of_pos_right _ hp
    have h4 : (acc * 10 + (c.toNat - 48) + 1) * 10 ^ r.length ≤ (acc + 1) * 10 * 10 ^ r.length := Nat.mul_le_mul_right _ (by omega)
    obtain ⟨u, e1, e2, e3⟩ := uintM_dig M hM r (acc * 10 + (c.toNat - 48)) hr (Nat.le_trans h4 h2)
    refine ⟨u, ?_, ?_, e3⟩
    · unfold Lib.parseUintM
      rw [if_pos (by omega), if_neg (by omega), if_neg (by omega)]; exact e1
    · rw [e2, List.foldl_cons]
      congr 1
      omega
theorem pI_itoa (n : Int) (h0 : 0 ≤ n) (h1 : n ≤ 1000000) : pI (Lib.itoa n) = some n := by
  obtain ⟨d1, d2⟩ := decDigits_val n.toNat
  have hl := decDigits_len 12 n.toNat (by omega)
  rw [itoa_nat h0]
  obtain ⟨l, hL⟩ : ∃ l, Lib.decDigits n.toNat = l := ⟨_, rfl⟩
  have hne : l ≠ [] := by rw [← hL, Lib.decDigits]; split <;> simp
  rw [hL] at d1 d2 hl ⊢
  match l, hne with
  | c :: r, _ =>
    have hc := d1
    rw [List.all_cons, Bool.and_eq_true] at hc
    have hc2 := hc.1
    simp only [isDig, decide_eq_true_eq] at hc2
    have hpow : (0 + 1) * 10 ^ (c :: r).length ≤ 1000000000000000000 := by
      rw [Nat.zero_add, Nat.one_mul]
      exact Nat.le_trans (Nat.pow_le_pow_right (by decide) hl) (by decide)
    obtain ⟨u, e1, e2, e3⟩ := uintM_dig (2 ^ 64 - 1) (by decide) (c :: r) 0 d1 hpow
    have hu : (u : Int) = n := by rw [e2]; show valL (c :: r) = n; rw [d2]; omega
    have hpu : Lib.parseUintB 64 (c :: r) = .ok u := by unfold Lib.parseUintB; rw [if_neg (by simp)]; exact e1
    have hpi : Lib.parseIntB 64 (c :: r) = .ok n := by
      unfold Lib.parseIntB
      simp only
      rw [if_neg (by omega), hpu]
      simp only
      rw [if_neg (by omega), if_neg (by omega), if_neg (by omega), hu]
    unfold pI
    rw [hpi]
end Go.Proofs.YtcennddgbpkclaaDoor
