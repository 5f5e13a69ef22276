/- Proved here: the Go law FnExactPadicText of this seat answers true at every input and leaves its argument as it was; the card ties the three listed tables of Go's library to the program's text. No further condition. (joined of several texts) -/
import Derived.Test.YtejgcamogjgdkaaDoorTxtBase
import Derived.Test.YtejgcamogjgdkaaDoorDigSpec3
import Derived.OrdersIn
import Derived.TacticsIn
import Derived.TacticsInMore
import Derived.KernelRfl
import Derived.Test.YtejgcamogjgdkaaDoorDigSeq
import Derived.Stop.RegionWithIn
import Derived.Deep.RegionWith
import Derived.Shelf.Abstract
import Derived.Test.YtejgcamogjgdkaaDoorPadSpec
import Derived.Test.YtejgcamogjgdkaaDoorCards
import Derived.Test.YtejgcamogjgdkaaDoorTie
import Derived.WalkKit
import Derived.ProofKit
import Derived.OpenShut
import Derived.Deep.DeepHandedRow
import Derived.ShutString
import Derived.Lib.SmallJoins
import Derived.Lib.LaidTab
import Derived.ChangeOld
import Derived.Stop.LaidErr
namespace Go.Proofs.YtejgcamogjgdkaaDoor
open Go.RowKit
set_option linter.unusedVariables false
theorem itoa_char {n : Int} {c : UInt8} (h : c ∈ Lib.itoa n) : isDig c = true ∨ c = 45 := by
  unfold Lib.itoa at h
  split at h
  · rcases List.mem_cons.1 h with rfl | h
    · exact .inr rfl
    · exact .inl (List.all_eq_true.1 (decDigits_val _).1 c h)
  · exact .inl (List.all_eq_true.1 (decDigits_val _).1 c h)
theorem itoa_no (n : Int) {b : UInt8} (h1 : isDig b = false) (h2 : b ≠ 45) : b ∉ Lib.itoa n := by
  intro h
  rcases itoa_char h with h | h
  · rw [h] at h1; cases h1
  · exact h2 h
theorem parseU_dec (k : Nat) (h : k ≤ 1000000) : Lib.parseUintB 64 (Lib.decDigits k) = .ok k := by
  obtain ⟨d1, d2⟩ := decDigits_val k
  have hl := decDigits_len 12 k (by omega)
  obtain ⟨l, hL⟩ : ∃ l, Lib.decDigits k = l := ⟨_, rfl⟩
  have hne : l ≠ [] := by rw [← hL, Lib.decDigits]; split <;> simp
  rw [hL] at d1 d2 hl ⊢
  have hpow : (0 + 1) * 10 ^ l.length ≤ 1000000000000000000 := by
    rw [Nat.zero_add, Nat.one_mul]
    exact Nat.le_trans (Nat.pow_le_pow_right (by decide) hl) (by decide)
  obtain ⟨u, e1, e2, e3⟩ := uintM_dig (2 ^ 64 - 1) (by decide) l 0 d1 hpow
  have hu : (u : Int) = k := by rw [e2]; exact d2
  have : u = k := by omega
  subst this
  unfold Lib.parseUintB
  rw [if_neg hne]
  exact e1
theorem pI_itoaS (n : Int) (h0 : -1000000 ≤ n) (h1 : n ≤ 1000000) : pI (Lib.itoa n) = some n := by
  by_cases hn : 0 ≤ n
  · exact pI_itoa n hn h1
  · have e : Lib.itoa n = 45 :: Lib.decDigits n.natAbs := by unfold Lib.itoa; rw [if_pos (by omega)]
    have hp := parseU_dec n.natAbs (by omega)
    have hi : Lib.parseIntB 64 (45 :: Lib.decDigits n.natAbs) = .ok n := by
      unfold Lib.parseIntB
      simp only
      rw [if_pos (.inr (by decide)), hp]
      simp only
      rw [if_neg (by simp), if_neg (by simp; omega), if_pos (by decide)]
      congr 1
      omega
    rw [e]
    unfold pI
    rw [hi]
/-- the digits' text, and the text of a number -/
def digT (l : List Int) : List UInt8 := Lib.join (l.map Lib.itoa) [44]
def lastT (p u n : Int) : List UInt8 := if n = 0 then [45] else digT (digL p u n.toNat)
def textL (p v u n : Int) : List UInt8 := Lib.itoa p ++ 58 :: (Lib.itoa v ++ 58 :: lastT p u n)
theorem mem_joinTail {sep : List UInt8} {c : UInt8} : ∀ {r : List (List UInt8)}, c ∈ Lib.joinTail sep r → (∃ x ∈ r, c ∈ x) ∨ c ∈ sep := by
  intro r h
  unfold Lib.joinTail at h
  rw [List.mem_flatten] at h
  obtain ⟨x, hx, hc⟩ := h
  obtain ⟨y, hy, rfl⟩ := List.mem_map.1 hx
  rcases List.mem_append.1 hc with h | h
  · exact .inr h
  · exact .inl ⟨y, hy, h⟩
theorem mem_join {sep : List UInt8} {c : UInt8} {ls : List (List UInt8)} (h : c ∈ Lib.join ls sep) : (∃ x ∈ ls, c ∈ x) ∨ c ∈ sep := by
  cases ls with
  | nil => rw [Lib.join_nil] at h; cases h
  | cons a r =>
    rw [Lib.join_cons] at h
    rcases List.mem_append.1 h with h | h
    · exact .inl ⟨a, by simp, h⟩
    · rcases mem_joinTail h with ⟨x, hx, hc⟩ | h
      · exact .inl ⟨x, by simp [hx], hc⟩
      · exact .inr h
theorem digT_no (l : List Int) : (58 : UInt8) ∉ digT l := by
  intro h
  rcases mem_join h with ⟨x, hx, hc⟩ | h
  · obtain ⟨d, _, rfl⟩ := List.mem_map.1 hx
    exact itoa_no d (by decide) (by decide) hc
  · simp at h
theorem lastT_no (p u n : Int) : (58 : UInt8) ∉ lastT p u n := by
  unfold lastT
  split
  · simp
  · exact digT_no _
theorem split_text (p v u n : Int) : splitL (bsOf (textL p v u n)) 58 = [bsOf (Lib.itoa p), bsOf (Lib.itoa v), bsOf (lastT p u n)] := by
  rw [splitL_eq]
  show (spL 58 (textL p v u n)).map bsOf = _
  unfold textL
  rw [spL_more 58 _ _ (itoa_no p (by decide) (by decide)), spL_more 58 _ _ (itoa_no v (by decide) (by decide)), spL_one 58 _ (lastT_no p u n)]
  rfl
theorem cut_text (p v u n : Int) : Lib.cut (textL p v u n) [58] = (Lib.itoa p, Lib.itoa v ++ 58 :: lastT p u n, true) ∧ Lib.cut (Lib.itoa v ++ 58 :: lastT p u n) [58] = (Lib.itoa v, lastT p u n, true) :=
  ⟨cut_byte 58 _ _ (itoa_no p (by decide) (by decide)), cut_byte 58 _ _ (itoa_no v (by decide) (by decide))⟩
theorem split_digT {l : List Int} (h : l ≠ []) : splitL (bsOf (digT l)) 44 = l.map fun d => bsOf (Lib.itoa d) := by
  rw [splitL_eq]
  show (spL 44 (digT l)).map bsOf = _
  unfold digT
  rw [spL_of_join 44 (l.map Lib.itoa) (by simpa using h) (fun x hx => by
    obtain ⟨d, _, rfl⟩ := List.mem_map.1 hx
    exact itoa_no d (by decide) (by decide)), List.map_map]
  rfl
theorem bsOf_inj {a b : List UInt8} (h : bsOf a = bsOf b) : a = b := by
  have := congrArg (fun x : ByteArray => x.data.toList) h
  simpa [bsOf] using this
theorem digT_ne {l : List Int} (h : l ≠ []) (hd : ∀ d ∈ l, 0 ≤ d ∧ d < 97) : ¬ bsOf (digT l) = ⟨#[45]⟩ := by
  intro e
  have hs := split_digT h
  rw [e, show splitL (⟨#[45]⟩ : ByteArray) 44 = [⟨#[45]⟩] by decide] at hs
  cases l with
  | nil => exact h rfl
  | cons d r =>
    simp only [List.map_cons] at hs
    have h1 : (⟨#[45]⟩ : ByteArray) = bsOf (Lib.itoa d) := (List.cons.inj hs).1
    have h2 : Lib.itoa d = [45] := (bsOf_inj (show bsOf [45] = bsOf (Lib.itoa d) from h1)).symm
    have h3 := hd d (by simp)
    have h4 := pI_itoaS d (by omega) (by omega)
    rw [h2] at h4
    have h5 : pI [45] = none := by decide
    rw [h5] at h4; cases h4
/-- a text of a valid number -/
def IsText (s : ByteArray) (q : Q4) : Prop := POk q.1 q.2.1 q.2.2.1 q.2.2.2 ∧ bsOf (textL q.1 q.2.1 q.2.2.1 q.2.2.2) = s
/-- what readDigits takes -/
def RdD (c : ByteArray) (l : List Int) : Prop := (c = ⟨#[45]⟩ ∧ l = []) ∨ (¬ c = ⟨#[45]⟩ ∧ (splitL c 44).map (fun x => pI x.data.toList) = l.map some)
theorem digs_ne {p v u n : Int} (h : POk p v u n) (hn : n ≠ 0) : digL p u n.toNat ≠ [] ∧ ∀ d ∈ digL p u n.toNat, 0 ≤ d ∧ d < 97 := by
  refine ⟨?_, (digL_all h).2⟩
  intro e
  have := congrArg List.length e
  rw [digL_length] at this
  have := (pok_bd h).2.2.1
  simp at *; omega
theorem last_rd {p v u n : Int} (h : POk p v u n) : RdD (bsOf (lastT p u n)) (digL p u n.toNat) := by
  unfold lastT
  by_cases hn : n = 0
  · rw [if_pos hn, hn]; exact .inl ⟨rfl, rfl⟩
  · rw [if_neg hn]
    obtain ⟨h1, h2⟩ := digs_ne h hn
    refine .inr ⟨digT_ne h1 h2, ?_⟩
    rw [split_digT h1, List.map_map]
    apply List.map_congr_left
    intro d hd
    obtain ⟨a, b⟩ := h2 d hd
    exact pI_itoaS d (by omega) (by omega)
theorem map_some_inj {α : Type} : ∀ {a b : List α}, a.map some = b.map some → a = b
  | [], [], _ => rfl
  | [], _ :: _, h => by simp at h
  | _ :: _, [], h => by simp at h
  | x :: a, y :: b, h => by
    rw [List.map_cons, List.map_cons] at h
    obtain ⟨h1, h2⟩ := List.cons.inj h
    rw [Option.some.inj h1, map_some_inj h2]
theorem rdD_inj {c : ByteArray} {a b : List Int} (ha : RdD c a) (hb : RdD c b) : a = b := by
  rcases ha with ⟨e1, rfl⟩ | ⟨e1, h1⟩
  · rcases hb with ⟨_, rfl⟩ | ⟨e2, _⟩
    · rfl
    · exact absurd e1 e2
  · rcases hb with ⟨e2, _⟩ | ⟨_, h2⟩
    · exact absurd e2 e1
    · exact map_some_inj (h1.symm.trans h2)
/-- what is read off a text -/
theorem text_reads {s : ByteArray} {q : Q4} (h : IsText s q) :
    pI (Lib.cut s.data.toList [58]).1 = some q.1 ∧ pI (Lib.cut (Lib.cut s.data.toList [58]).2.1 [58]).1 = some q.2.1 ∧
    RdD (bsOf (Lib.cut (Lib.cut s.data.toList [58]).2.1 [58]).2.1) (digL q.1 q.2.2.1 q.2.2.2.toNat) ∧ fromC q.1 q.2.1 (digL q.1 q.2.2.1 q.2.2.2.toNat) = 0 ∧ fromQ q.1 q.2.1 (digL q.1 q.2.2.1 q.2.2.2.toNat) = q := by
  obtain ⟨hk, rfl⟩ := h
  have e : (bsOf (textL q.1 q.2.1 q.2.2.1 q.2.2.2)).data.toList = textL q.1 q.2.1 q.2.2.1 q.2.2.2 := by simp [bsOf]
  obtain ⟨c1, c2⟩ := cut_text q.1 q.2.1 q.2.2.1 q.2.2.2
  obtain ⟨hp2, hp97, _⟩ := pok_bd hk
  have hv0 := hk.2.1
  have hv1 := hk.2.2.1
  obtain ⟨f1, f2⟩ := from_digits hk
  rw [e, c1]
  simp only
  rw [c2]
  exact ⟨pI_itoaS _ (by omega) (by omega), pI_itoaS _ (by omega) (by omega), last_rd hk, f1, f2⟩
theorem text_inj {s : ByteArray} {q q' : Q4} (h : IsText s q) (h' : IsText s q') : q = q' := by
  obtain ⟨a1, a2, a3, _, a5⟩ := text_reads h
  obtain ⟨b1, b2, b3, _, b5⟩ := text_reads h'
  rw [a1] at b1
  rw [a2] at b2
  have e := rdD_inj a3 b3
  rw [← a5, ← b5, ← e, Option.some.inj b1, Option.some.inj b2]
/-- a number that FromDigits answers is valid -/
theorem from_ok {p k : Int} {l : List Int} (h : fromC p k l = 0) : POk (fromQ p k l).1 (fromQ p k l).2.1 (fromQ p k l).2.2.1 (fromQ p k l).2.2.2 := by
  unfold fromC at h
  unfold fromQ
  split at h
  · rename_i hs
    split at h
    · rename_i hd
      split at h
      · rename_i hm
        have hb := lim_zero h
        rw [hs, hd, decide_eq_true hm]
        simp only [Bool.and_self, if_true, resQ, hb]
        exact padB_ok hb
      · omega
    · omega
  · omega
/-- the answer of both ReadPadic -/
def ReadPost (s : ByteArray) (w : World) (e : Ending) (w' : World) : Prop :=
  ∃ (q : Q4) (c : Int), e = .returned (.tuple #[.agg (A4 q), .int .i64 c]) ∧ Below w.heap.size w w' ∧ ((c = 0 ∧ IsText s q) ∨ (c = 6 ∧ q = (0, 0, 0, 0) ∧ ¬ ∃ q, IsText s q))
theorem read_agree {s : ByteArray} {q q' : Q4} {c c' : Int} (h : (c = 0 ∧ IsText s q) ∨ (c = 6 ∧ q = (0, 0, 0, 0) ∧ ¬ ∃ q, IsText s q)) (h' : (c' = 0 ∧ IsText s q') ∨ (c' = 6 ∧ q' = (0, 0, 0, 0) ∧ ¬ ∃ q, IsText s q)) : q = q' ∧ c = c' := by
  rcases h with ⟨rfl, h1⟩ | ⟨rfl, rfl, h1⟩
  · rcases h' with ⟨rfl, h2⟩ | ⟨rfl, rfl, h2⟩
    · exact ⟨text_inj h1 h2, rfl⟩
    · exact absurd ⟨q, h1⟩ h2
  · rcases h' with ⟨rfl, h2⟩ | ⟨rfl, rfl, h2⟩
    · exact absurd ⟨q', h2⟩ h1
    · exact ⟨rfl, rfl⟩
end Go.Proofs.YtejgcamogjgdkaaDoor
namespace Go.Proofs.YtejgcamogjgdkaaDoor
open Go
set_option linter.unusedVariables false
def ordersOf (md : Region.Mode) (ops : Array Oper) : Nat → Array Bool → List (List Nat)
  | 0, _ => [[]]
  | fuel + 1, listed => if (Region.ready md ops listed).isEmpty then [[]] else (Region.ready md ops listed).flatMap fun i => (ordersOf md ops fuel (listed.setIfInBounds i true)).map (i :: ·)
theorem linearise_in (md : Region.Mode) (ops : Array Oper) : ∀ (fuel t : Nat) (listed : Array Bool), Region.linearise.go md ops fuel t listed [] ∈ ordersOf md ops fuel listed := by
  intro fuel
  induction fuel with
  | zero => intro t listed; simp [Region.linearise.go, ordersOf]
  | succ fuel ih =>
    intro t listed
    simp only [Region.linearise.go]
    change (match (Region.ready md ops listed)[t % (Region.ready md ops listed).length]? with
      | some i => Region.linearise.go md ops fuel (t / (Region.ready md ops listed).length) (listed.setIfInBounds i true) [i]
      | none => [].reverse) ∈ _
    cases hi : (Region.ready md ops listed)[t % (Region.ready md ops listed).length]? with
    | none =>
      have hnil : Region.ready md ops listed = [] := by
        cases hr : Region.ready md ops listed with
        | nil => rfl
        | cons x xs =>
          rw [hr] at hi
          have hlt : t % (x :: xs).length < (x :: xs).length := Nat.mod_lt _ (by simp)
          simp at hi
          simp at hlt
          omega
      simp [ordersOf, hnil]
    | some i =>
      have hm := List.mem_of_getElem? hi
      have hne : (Region.ready md ops listed).isEmpty = false := by
        cases hr : Region.ready md ops listed with
        | nil => rw [hr] at hm; cases hm
        | cons x xs => rfl
      simp only []
      rw [linearise_go_acc, List.reverse_singleton, List.singleton_append]
      simp only [ordersOf, hne, if_false, Bool.false_eq_true]
      exact List.mem_flatMap.2 ⟨i, hm, List.mem_map.2 ⟨_, ih _ _, rfl⟩⟩
theorem wpIn_region_orders {F : Fence} {n : Nat} {P : Program} {id : Nat} {ops : Array Oper} {Q : Exit → Act → World → Prop} {a : Act} {w : World} {L : List (List Nat)} (hm : P.follows .mixedOrders = true)
    (hL : ordersOf .any ops ops.size (Array.replicate ops.size false) = L) (h : ∀ l ∈ L, wpOpsIn F n P ops Q l a w.drew) : (Code.region id ops true).wpIn F n P Q a w :=
  wpIn_region_draw fun t => by
    have := h (Region.linearise.go .any ops ops.size t (Array.replicate ops.size false) []) (hL ▸ linearise_in _ _ _ _ _)
    simp only [Region.schedule, hm, Bool.true_or, if_true]
    exact this
theorem wpOpsIn_list {F : Fence} {n : Nat} {P : Program} {ops : Array Oper} {Q : Exit → Act → World → Prop} : ∀ (idx : List Nat) (a : Act) (w : World), (∀ i ∈ idx, i < ops.size) →
    wpListIn F n P ops Q (idx.filterMap fun i => ops[i]?) a w → wpOpsIn F n P ops Q idx a w := by
  intro idx
  induction idx with
  | nil => intro a w _ h; exact h
  | cons i idx ih =>
    intro a w hi h
    have hlt := hi i (by simp)
    have e : ops[i]? = some ops[i] := Array.getElem?_eq_getElem hlt
    rw [List.filterMap_cons_some e] at h
    unfold wpOpsIn
    simp only [e]
    unfold wpListIn at h
    split
    · rename_i hw
      rw [if_pos hw] at h
      exact Oper.wpIn_mono (fun a w => ih a w fun j hj => hi j (by simp [hj])) h
    · rename_i hw
      rw [if_neg hw] at h
      exact ⟨h.1, ih _ _ (fun j hj => hi j (by simp [hj])) h.2⟩
end Go.Proofs.YtejgcamogjgdkaaDoor
namespace Go.Proofs.YtejgcamogjgdkaaDoor
open Go.RowKit Go.Shelf
attribute [local go_sem] Oper.semAt_some
set_option linter.unusedVariables false
set_option linter.unusedSimpArgs false
theorem itoa_len {n : Int} (h0 : -1000000 ≤ n) (h1 : n ≤ 1000000) : (Lib.itoa n).length ≤ 20 := by
  unfold Lib.itoa
  split
  · have := decDigits_len 10 n.natAbs (by omega)
    simp; omega
  · have := decDigits_len 10 n.toNat (by omega)
    omega
theorem joinTail_len {sep : List UInt8} {m : Nat} : ∀ {r : List (List UInt8)}, (∀ x ∈ r, x.length ≤ m) → (Lib.joinTail sep r).length ≤ (m + sep.length) * r.length := by
  intro r
  induction r with
  | nil => intro _; simp [Lib.joinTail]
  | cons a r ih =>
    intro h
    have h1 := ih fun x hx => h x (List.mem_cons_of_mem _ hx)
    have h2 := h a List.mem_cons_self
    have e : Lib.joinTail sep (a :: r) = sep ++ a ++ Lib.joinTail sep r := by simp [Lib.joinTail]
    rw [e, List.length_append, List.length_append, List.length_cons, Nat.mul_succ]
    omega
theorem digT_len {l : List Int} (hl : l.length ≤ 40) (hd : ∀ d ∈ l, 0 ≤ d ∧ d < 97) : (digT l).length ≤ 1000 := by
  unfold digT
  cases l with
  | nil => simp [Lib.join_nil]
  | cons a r =>
    rw [List.map_cons, Lib.join_cons, List.length_append]
    have ha := hd a List.mem_cons_self
    have h1 := itoa_len (n := a) (by omega) (by omega)
    have h2 : (Lib.joinTail [44] (r.map Lib.itoa)).length ≤ (20 + [44].length) * (r.map Lib.itoa).length := joinTail_len fun x hx => by
      obtain ⟨d, hd', rfl⟩ := List.mem_map.1 hx
      have := hd d (List.mem_cons_of_mem _ hd')
      exact itoa_len (by omega) (by omega)
    rw [List.length_map] at h2
    simp at h2 hl
    omega
theorem lastT_len {p v u n : Int} (h : POk p v u n) : (lastT p u n).length ≤ 1000 := by
  unfold lastT
  split
  · simp
  · exact digT_len (digL_all h).1 (digL_all h).2
/-- joined digits -/
theorem join_row {base : Nat} {w : World} {v : Value} {l : List Int} (h : StrRow base w v (l.map fun d => bsOf (Lib.itoa d))) (h0 : l ≠ []) (hl : l.length ≤ 40) (hd : ∀ d ∈ l, 0 ≤ d ∧ d < 97) :
    Calls Tryd.prog 28 #[v, .string ⟨#[44]⟩] w fun e w' => e = .returned (.string (bsOf (digT l))) ∧ Below w.heap.size w w' := by
  have hlen : (l.map fun d => bsOf (Lib.itoa d)).length = l.length := by rw [List.length_map]
  rcases h.2 with ⟨_, hz⟩ | ⟨g, cap, cur, rfl, hb, hg, hc, _, _, _⟩
  · rw [hlen] at hz; exact absurd (List.length_eq_zero_iff.1 hz) h0
  · have hm : (l.map fun d => bsOf (Lib.itoa d)).map (·.data.toList) = l.map Lib.itoa := by
      rw [List.map_map]; exact List.map_congr_left fun d _ => by simp [bsOf]
    have hdl := digT_len hl hd
    have hj := Tryd.strings_Join g 0 cap (l.map fun d => bsOf (Lib.itoa d)) ⟨#[44]⟩ w (fun j x hjx => by
        rw [Nat.zero_add, World.ownsRow.cellAt h j (by have := (List.getElem?_eq_some_iff.1 hjx).1; omega), List.getElem?_map, hjx]; rfl) (Array.getElem?_eq_some_iff.1 hg).1 (by rw [hlen]; omega) hc (by
        rw [hm]; show (digT l).length ≤ _; omega)
    rw [hm] at hj
    exact hj
/-- what holds at the head of each round: the box b holds the row of the digits' texts so far -/
def TI (w : World) (p v u n : Int) (b : Nat) (pre : List Int) (W : World) : Prop :=
  ∃ vl, Boxed W b 46 vl ∧ StrRow w.heap.size W vl (pre.map fun d => bsOf (Lib.itoa d)) ∧ Below w.heap.size w W ∧ PadAt W w.heap.size p v u n
theorem padAt_put {W : World} {b k : Nat} {p v u n : Int} {o o' : Obj} (h : PadAt W b p v u n) (hk : W.heap[k]? = some o) (ho : o.isCells = false) : PadAt (W.putObj k o') b p v u n := by
  refine (World.putObj_heap_other ?_).trans h
  rintro rfl
  have h' : W.heap[b]? = _ := h
  rw [h'] at hk; cases hk; cases ho
theorem ti_put {w W : World} {p v u n : Int} {b k : Nat} {pre : List Int} {o o' : Obj} (h : TI w p v u n b pre W) (hb : w.heap.size ≤ k) (hk : W.heap[k]? = some o) (ho : o.isCells = false) : TI w p v u n b pre (W.putObj k o') := by
  obtain ⟨vl, h1, h2, h3, h4⟩ := h
  exact ⟨vl, boxed_putB h1 hk ho, ownsRow_putObj h2 _ hk ho, below_putB h3 hb, padAt_put h4 hk ho⟩
theorem ti_below {w A B : World} {p v u n : Int} {b : Nat} {pre : List Int} (h : TI w p v u n b pre A) (hs : StU A B) : TI w p v u n b pre B := by
  obtain ⟨vl, h1, h2, h3, h4⟩ := h
  exact ⟨vl, boxed_belowB h1 hs, row_below h2 hs (Nat.le_refl _), h3.trans (hs.mono h3.size), padAt_keep h4 (frP_below hs)⟩
theorem text_sum (a b d : List UInt8) : bsOf a ++ ⟨#[58]⟩ ++ bsOf b ++ ⟨#[58]⟩ ++ bsOf d = bsOf (a ++ 58 :: (b ++ 58 :: d)) := by
  rw [show (⟨#[58]⟩ : ByteArray) = bsOf [58] from rfl, bs_append, bs_append, bs_append, bs_append]
  congr 1
  simp
/-- the sums of strings in a text -/
theorem text_adds {a b d : List UInt8} (ha : a.length ≤ 1000) (hb : b.length ≤ 1000) (hd : d.length ≤ 1000) :
    (∀ wx, (Op.stringOp .add (bsOf a) ⟨#[58]⟩).run Tryd.prog wx = .ok (.string (bsOf a ++ ⟨#[58]⟩)) wx) ∧
    (∀ wx, (Op.stringOp .add (bsOf a ++ ⟨#[58]⟩) (bsOf b)).run Tryd.prog wx = .ok (.string (bsOf a ++ ⟨#[58]⟩ ++ bsOf b)) wx) ∧
    (∀ wx, (Op.stringOp .add (bsOf a ++ ⟨#[58]⟩ ++ bsOf b) ⟨#[58]⟩).run Tryd.prog wx = .ok (.string (bsOf a ++ ⟨#[58]⟩ ++ bsOf b ++ ⟨#[58]⟩)) wx) ∧
    (∀ wx, (Op.stringOp .add (bsOf a ++ ⟨#[58]⟩ ++ bsOf b ++ ⟨#[58]⟩) (bsOf d)).run Tryd.prog wx = .ok (.string (bsOf a ++ ⟨#[58]⟩ ++ bsOf b ++ ⟨#[58]⟩ ++ bsOf d)) wx) := by
  have e : (⟨#[58]⟩ : ByteArray) = bsOf [58] := rfl
  refine ⟨fun wx => add_any _ _ ?_ wx, fun wx => add_any _ _ ?_ wx, fun wx => add_any _ _ ?_ wx, fun wx => add_any _ _ ?_ wx⟩
  all_goals simp only [e, bs_append, bs_size, List.length_append, List.length_cons, List.length_nil]
  all_goals omega
theorem ret_str2 {a b : ByteArray} (h : a = b) : Ending.returned (.string a) = .returned (.string b) := by rw [h]
set_option maxRecDepth 20000 in
set_option maxHeartbeats 1600000 in
theorem text_zero (p v u n : Int) (w : World) (h : POk p v u n) (hn : n = 0) (ht : Tab w) :
    Calls Tryd.prog 10 #[.agg (P4 p v u n)] w fun e w' => e = .returned (.string (bsOf (textL p v u n))) ∧ Below w.heap.size w w' := by
  have hu := pok_zero h hn
  obtain ⟨hp2, hp97, _⟩ := pok_bd h
  have hv0 := h.2.1
  have hv1 := h.2.2.1
  have HZ := Lib.hid (show (u == 0 && n == 0) = true by simp [hn, hu])
  have HE := Lib.hid (show bsOf (Lib.itoa p) ++ ⟨#[58]⟩ ++ bsOf (Lib.itoa v) ++ ⟨#[58]⟩ ++ bsOf [45] = bsOf (textL p v u n) by rw [text_sum]; unfold textL lastT; rw [if_pos hn])
  obtain ⟨a1, a2, a3, a4⟩ := text_adds (Nat.le_trans (itoa_len (n := p) (by omega) (by omega)) (by omega)) (Nat.le_trans (itoa_len (n := v) (by omega) (by omega)) (by omega)) (show [45].length ≤ 1000 by simp)
  have e45 : bsOf [45] = ⟨#[45]⟩ := rfl
  rw [e45] at a4 HE
  have HT := Lib.hid ht
  have F1 := Lib.hid fun (w : World) (h : Tab w) => format_any p w (by omega) (by omega) h
  have F2 := Lib.hid fun (w : World) (h : Tab w) => format_any v w (by omega) (by omega) h
  generalize bsOf (Lib.itoa p) = sp at *
  generalize bsOf (Lib.itoa v) = sv at *
  clear h ht hu hn e45
  go_enter Tryd.func10, Tryd.ntmps10
  go_wp2_with (go_at_call 22; refine (isZero_any _ _ _ _ _).mono ?_; rw [HZ.out]; rintro e w1 ⟨rfl, hb⟩; have K := k1_first hb; obtain ⟨c0, c1, c2, c3⟩ := lies_four K.2)
  have K := k1_drew K
  have T := tab_below HT.out K.1 (Nat.le_refl _)
  clear c0 c1 c2 c3 hb
  obtain ⟨c0, c1, c2, c3⟩ := lies_four K.2
  go_region_with (first
    | (go_at_call 27; refine (F1.out _ T).mono ?_; rintro e wn ⟨rfl, hb⟩; have T := tab_below T hb (Nat.le_refl _); have K := k1_next K hb; obtain ⟨c0, c1, c2, c3⟩ := lies_four K.2)
    | (go_at_call 27; refine (F2.out _ T).mono ?_; rintro e wn ⟨rfl, hb⟩; have T := tab_below T hb (Nat.le_refl _); have K := k1_next K hb; obtain ⟨c0, c1, c2, c3⟩ := lies_four K.2))
  all_goals go_wp2
  all_goals go_ret
  all_goals exact ⟨ret_str2 HE.out, K.1⟩
end Go.Proofs.YtejgcamogjgdkaaDoor
namespace Go.Proofs.YtejgcamogjgdkaaDoor
open Go.RowKit Go.Shelf
attribute [local go_sem] Oper.semAt_some
set_option linter.unusedVariables false
set_option linter.unusedSimpArgs false
theorem strRow_grow {b : Nat} {w3 : World} {v : Value} {pre : List Int} {x : Int} (hown : w3.ownsRow b 9 1 v (pre.length + 1) ((pre.map fun d => bsOf (Lib.itoa d)).map Value.string ++ [.string (bsOf (Lib.itoa x))])) : StrRow b w3 v ((pre ++ [x]).map fun d => bsOf (Lib.itoa d)) := by
  unfold StrRow
  rw [List.length_map, List.length_append, List.length_singleton, List.map_append, List.map_append]
  exact hown
set_option maxRecDepth 20000 in
set_option maxHeartbeats 3200000 in
theorem text_some (p v u n : Int) (w : World) (h : POk p v u n) (hn : n ≠ 0) (ht : Tab w) :
    Calls Tryd.prog 10 #[.agg (P4 p v u n)] w fun e w' => e = .returned (.string (bsOf (textL p v u n))) ∧ Below w.heap.size w w' := by
  obtain ⟨i0, hi, hz0, hz1, hz2⟩ := info_parts Tryd.infoString
  have HI := Lib.hid hi
  have HZ0 := Lib.hid hz0
  have HZ1 := Lib.hid hz1
  have HZ2 := Lib.hid hz2
  obtain ⟨hp2, hp97, _⟩ := pok_bd h
  have hv0 := h.2.1
  have hv1 := h.2.2.1
  have HZ := Lib.hid (show (u == 0 && n == 0) = false by simp [hn])
  have HK := Lib.hid h
  have HNE := Lib.hid (digs_ne h hn)
  have HLL := Lib.hid (digL_all h).1
  have HE := Lib.hid (show bsOf (Lib.itoa p) ++ ⟨#[58]⟩ ++ bsOf (Lib.itoa v) ++ ⟨#[58]⟩ ++ bsOf (digT (digL p u n.toNat)) = bsOf (textL p v u n) by rw [text_sum]; unfold textL lastT; rw [if_neg hn])
  obtain ⟨a1, a2, a3, a4⟩ := text_adds (Nat.le_trans (itoa_len (n := p) (by omega) (by omega)) (by omega)) (Nat.le_trans (itoa_len (n := v) (by omega) (by omega)) (by omega)) (digT_len (digL_all h).1 (digL_all h).2)
  have HT := Lib.hid ht
  have F1 := Lib.hid fun (w : World) (h : Tab w) => format_any p w (by omega) (by omega) h
  have F2 := Lib.hid fun (w : World) (h : Tab w) => format_any v w (by omega) (by omega) h
  have HA := Lib.hid (And.intro a1 (And.intro a2 (And.intro a3 a4)))
  generalize bsOf (Lib.itoa p) = sp at *
  generalize bsOf (Lib.itoa v) = sv at *
  have hpd0 : PadAt (w.alloc (.cells (P4 p v u n) 26)) w.heap.size p v u n := World.alloc_heap_new w _
  have HPD0 := Lib.hid hpd0
  clear h ht hn hi hz0 hz1 hz2 a1 a2 a3 a4 hpd0
  refine (callsIn_wide (n := 4)).1 ?_
  refine callsIn_of_wp_marks Tryd.func10 rfl trivial ?_ rfl
  simp only [Tryd.ntmps10, List.size_toArray, List.length_cons, List.length_nil, Nat.reduceAdd, Nat.reduceSub, Array.replicate_succ, Array.replicate_zero, List.push_toArray, List.append_toArray, List.nil_append, List.cons_append]
  gi_wp2_with (refine ⟨trivial, ?_⟩; gi_at_call 22; refine (callsIn_wide.2 (isZero_any _ _ _ _ _)).mono ?_; rw [HZ.out]; rintro e w' ⟨rfl, hb⟩; have K := k1_first hb; have hpd := padAt_keep HPD0.out (frP_below hb); obtain ⟨c0, c1, c2, c3⟩ := lies_four (lies_alloc K.2 (.cells #[.slice none 0 0] 46)))
  have hsz := K.1.size
  have hB6 : Below w.heap.size w (w'.alloc (.cells #[.slice none 0 0] 46)) := K.1.alloc hsz _
  have hbox := Boxed.new w' 46 (.slice none 0 0)
  have hpd6 := padAt_keep hpd (frP_below (below_a1 w' (.cells #[.slice none 0 0] 46)))
  obtain ⟨B, hB⟩ : ∃ B, w'.heap.size = B := ⟨_, rfl⟩
  have h6s : (w'.alloc (.cells #[.slice none 0 0] 46)).heap.size = B + 1 := by rw [← hB]; simp
  rw [hB] at hbox ⊢
  generalize w'.alloc (.cells #[.slice none 0 0] 46) = W6 at *
  have hBw : w.heap.size ≤ B := by omega
  clear K c0 c1 c2 c3 hb hsz hB hpd HPD0
  refine wpIn_rangeBb (F := Fence.wide) (n := 4) (P := Tryd.prog) (w := W6) rfl (by omega) (gf := 26) (ba := #[.agg (P4 p v u n)]) (lb := #[]) rfl trivial (enters_of Tryd.func26 (by kernel_rfl) rfl)
    (digits_by 3 (by omega) p v u n HK.out) (fun _ => rfl)
    (TI w p v u n B) (fun _ _ => False) (fun x => { tmps := #[.agg (P4 p v u n), .pointer (some ⟨w.heap.size, 0, none⟩), .string ⟨#[]⟩, .string ⟨#[45]⟩, .pointer (some ⟨B, 0, none⟩), .int .i64 x, .agg (P4 p v u n), .bool false, .bool true, .agg (P4 p v u n), .func (.func 26) #[.agg (P4 p v u n)] #[], .int .i64 x, undef, undef, undef, undef, undef, undef, undef, undef, undef, undef, undef, undef, undef, undef, undef, undef, undef, undef], defers := [] })
    ?ip ?xp ?fp ?fq ?ft ?is ?xs ?sk ?h0 ?s0 ?assign ?body ?done ?stop
  case ip => intro pre W k o o' h hk ho hc; exact ti_put h (by omega) ho hc
  case xp => intro _ _ _ _ _ h; exact h.elim
  case fp => intro A W k o o' hf hk ho hc; exact frP_put hf ho hc
  case fq => intro W k o o' hk ho hc; exact frP_put (frP_refl W) ho hc
  case ft => intro A B C h k; exact frP_trans h k
  case is => intro pre A B h hs; exact ti_below h hs
  case xs => intro _ _ _ h; exact h.elim
  case sk => intro A B k o hs hk ho hc; exact (hs.block k (Array.getElem?_eq_some_iff.1 ho).1).trans ho
  case h0 =>
    intro o o'
    exact ⟨_, (hbox.alloc _).alloc _, World.ownsRow_nil _ _ _ _, (hB6.alloc (by omega) _).alloc (by simp; omega) _, padAt_keep hpd6 (frP_trans (frP_below (below_a1 _ _)) (frP_below (below_a1 _ _)))⟩
  case s0 => intro o o'; trivial
  case assign =>
    intro l x W K hK
    gi_wp2
    exact hK
  case body =>
    rintro l pre x W hsp ⟨vl, hv, hrow, hbel, hpad⟩
    have hlen : pre.length ≤ 28 := by
      have := hsp.length_le
      rw [digL_length, List.length_append] at this
      have := (pok_bd HK.out).2.2.2.1
      simp at *; omega
    have hx : 0 ≤ x ∧ x < 97 := (digL_all HK.out).2 x (hsp.subset (by simp))
    have hT := tab_below HT.out hbel (Nat.le_refl _)
    have hD : Below W.heap.size W W.drew := below_drewN (Below.refl _ _) 1
    obtain ⟨o, c, hvl⟩ := strRow_slice hrow
    rw [List.length_map] at hvl
    subst hvl
    have hvD := boxed_belowB hv hD
    have hrowD : StrRow w.heap.size W.drew _ _ := row_below hrow hD (Nat.le_refl _)
    have hTD := tab_below hT hD (Nat.le_refl _)
    have hs1 := hbel.size
    have hs2 := hD.size
    clear hsp HNE HLL HK HA HE hT hv hrow
    gi_wp2_with fail
    refine wpIn_region_orders (L := [[0, 1, 2, 3, 4, 5], [1, 0, 2, 3, 4, 5], [1, 2, 0, 3, 4, 5], [1, 2, 3, 0, 4, 5]]) (by kernel_rfl) (by kernel_rfl) ?_
    intro ll hll
    simp only [List.mem_cons, List.not_mem_nil, or_false] at hll
    have F3 := Lib.hid (format_any x W.drew (by omega) (by omega) hTD)
    have q2 := hvD.cell
    generalize W.drew = WD at *
    rcases hll with rfl | rfl | rfl | rfl
    · refine wpOpsIn_list _ _ _ (by decide) ?_
      simp only [List.filterMap_cons, List.filterMap_nil, List.getElem?_toArray, List.getElem?_cons_zero, List.getElem?_cons_succ]
      refine wpListIn_plain rfl (fun K hK => ?_)
      go_simp
      refine hK _ _ ?_
      clear hK K
      refine wpListIn_plain rfl (fun K hK => ?_)
      go_simp
      refine hK _ _ ?_
      clear hK K
      refine wpListIn_plain rfl (fun K hK => ?_)
      go_simp
      refine ⟨trivial, ?_⟩
      gi_at_call 27
      refine (CallsIn.inRound l (callsIn_wide.2 F3.out)).mono ?_
      rintro e w2 ⟨rfl, hb2⟩
      have r1 := (boxed_belowB hvD hb2)
      have q3 := r1.cell
      have r2 := r1.alloc (.cells #[.string (bsOf (Lib.itoa x))] 9)
      have q4 := r2.cell
      have hrw : StrRow w.heap.size w2 (.slice o pre.length c) (pre.map fun d => bsOf (Lib.itoa d)) := row_below hrowD hb2 (Nat.le_refl _)
      simp only []
      refine hK _ _ ?_
      clear hK K
      refine wpListIn_plain rfl (fun K hK => ?_)
      go_simp
      refine hK _ _ ?_
      clear hK K
      refine wpListIn_append_own _ rfl (.tmp 12) (.tmp 15) 46 rfl w.heap.size 9 i0 (.string ⟨#[]⟩) 1 16 Tryd.underlying46 HI.out HZ0.out HZ1.out HZ2.out rfl (by decide) _ _ _ rfl (hrw.alloc _) ⟨w2.heap.size, 0, none⟩ 1 1 [.string (bsOf (Lib.itoa x))] rfl rfl (by first | exact newsS _ _ _ | simp [Addr.add]) (by first | exact oneS _ | rfl) (by rw [List.length_map]; unfold maxLen; omega) (by rw [List.length_map]; omega) (by have := hb2.size; simp; omega) ?_
      intro v' w3 hown hgrow _
      rw [List.length_map] at hown
      obtain ⟨o2, c2, rfl⟩ := row_slice hown
      have hown' := strRow_grow hown
      obtain ⟨e1, e2, e3, e4, e5⟩ := r1.appended (by decide) hrw (by have := hb2.size; omega) (show w.heap.size ≤ B by omega) hown' hgrow
      have hF := frP_trans (frP_trans (frP_trans (frP_trans (frP_below hD) (frP_below hb2)) (frP_below (below_a1 w2 (.cells #[.string (bsOf (Lib.itoa x))] 9)))) (frP_row (hrw.alloc _) (by decide) hgrow)) (frP_set (.slice o2 (pre.length + 1) c2) e1 (by decide))
      have hKO := ((keeps_belowB hD).trans (keeps_belowB hb2)).trans e4
      have hBL := (hbel.trans (hD.mono hs1)).trans ((hb2.mono (Nat.le_trans hs1 hs2)).trans e5)
      have q5 := e1.cell
      have q5f := e1.frozen
      clear hown hgrow
      gi_wp2
      exact ⟨hKO, hF, _, e2, e3, hBL, padAt_keep hpad hF⟩
    · refine wpOpsIn_list _ _ _ (by decide) ?_
      simp only [List.filterMap_cons, List.filterMap_nil, List.getElem?_toArray, List.getElem?_cons_zero, List.getElem?_cons_succ]
      refine wpListIn_plain rfl (fun K hK => ?_)
      go_simp
      refine hK _ _ ?_
      clear hK K
      refine wpListIn_plain rfl (fun K hK => ?_)
      go_simp
      refine hK _ _ ?_
      clear hK K
      refine wpListIn_plain rfl (fun K hK => ?_)
      go_simp
      refine ⟨trivial, ?_⟩
      gi_at_call 27
      refine (CallsIn.inRound l (callsIn_wide.2 F3.out)).mono ?_
      rintro e w2 ⟨rfl, hb2⟩
      have r1 := (boxed_belowB hvD hb2)
      have q3 := r1.cell
      have r2 := r1.alloc (.cells #[.string (bsOf (Lib.itoa x))] 9)
      have q4 := r2.cell
      have hrw : StrRow w.heap.size w2 (.slice o pre.length c) (pre.map fun d => bsOf (Lib.itoa d)) := row_below hrowD hb2 (Nat.le_refl _)
      simp only []
      refine hK _ _ ?_
      clear hK K
      refine wpListIn_plain rfl (fun K hK => ?_)
      go_simp
      refine hK _ _ ?_
      clear hK K
      refine wpListIn_append_own _ rfl (.tmp 12) (.tmp 15) 46 rfl w.heap.size 9 i0 (.string ⟨#[]⟩) 1 16 Tryd.underlying46 HI.out HZ0.out HZ1.out HZ2.out rfl (by decide) _ _ _ rfl (hrw.alloc _) ⟨w2.heap.size, 0, none⟩ 1 1 [.string (bsOf (Lib.itoa x))] rfl rfl (by first | exact newsS _ _ _ | simp [Addr.add]) (by first | exact oneS _ | rfl) (by rw [List.length_map]; unfold maxLen; omega) (by rw [List.length_map]; omega) (by have := hb2.size; simp; omega) ?_
      intro v' w3 hown hgrow _
      rw [List.length_map] at hown
      obtain ⟨o2, c2, rfl⟩ := row_slice hown
      have hown' := strRow_grow hown
      obtain ⟨e1, e2, e3, e4, e5⟩ := r1.appended (by decide) hrw (by have := hb2.size; omega) (show w.heap.size ≤ B by omega) hown' hgrow
      have hF := frP_trans (frP_trans (frP_trans (frP_trans (frP_below hD) (frP_below hb2)) (frP_below (below_a1 w2 (.cells #[.string (bsOf (Lib.itoa x))] 9)))) (frP_row (hrw.alloc _) (by decide) hgrow)) (frP_set (.slice o2 (pre.length + 1) c2) e1 (by decide))
      have hKO := ((keeps_belowB hD).trans (keeps_belowB hb2)).trans e4
      have hBL := (hbel.trans (hD.mono hs1)).trans ((hb2.mono (Nat.le_trans hs1 hs2)).trans e5)
      have q5 := e1.cell
      have q5f := e1.frozen
      clear hown hgrow
      gi_wp2
      exact ⟨hKO, hF, _, e2, e3, hBL, padAt_keep hpad hF⟩
    · refine wpOpsIn_list _ _ _ (by decide) ?_
      simp only [List.filterMap_cons, List.filterMap_nil, List.getElem?_toArray, List.getElem?_cons_zero, List.getElem?_cons_succ]
      refine wpListIn_plain rfl (fun K hK => ?_)
      go_simp
      refine hK _ _ ?_
      clear hK K
      refine wpListIn_plain rfl (fun K hK => ?_)
      go_simp
      refine ⟨trivial, ?_⟩
      gi_at_call 27
      refine (CallsIn.inRound l (callsIn_wide.2 F3.out)).mono ?_
      rintro e w2 ⟨rfl, hb2⟩
      have r1 := (boxed_belowB hvD hb2)
      have q3 := r1.cell
      have r2 := r1.alloc (.cells #[.string (bsOf (Lib.itoa x))] 9)
      have q4 := r2.cell
      have hrw : StrRow w.heap.size w2 (.slice o pre.length c) (pre.map fun d => bsOf (Lib.itoa d)) := row_below hrowD hb2 (Nat.le_refl _)
      simp only []
      refine hK _ _ ?_
      clear hK K
      refine wpListIn_plain rfl (fun K hK => ?_)
      go_simp
      refine hK _ _ ?_
      clear hK K
      refine wpListIn_plain rfl (fun K hK => ?_)
      go_simp
      refine hK _ _ ?_
      clear hK K
      refine wpListIn_append_own _ rfl (.tmp 12) (.tmp 15) 46 rfl w.heap.size 9 i0 (.string ⟨#[]⟩) 1 16 Tryd.underlying46 HI.out HZ0.out HZ1.out HZ2.out rfl (by decide) _ _ _ rfl (hrw.alloc _) ⟨w2.heap.size, 0, none⟩ 1 1 [.string (bsOf (Lib.itoa x))] rfl rfl (by first | exact newsS _ _ _ | simp [Addr.add]) (by first | exact oneS _ | rfl) (by rw [List.length_map]; unfold maxLen; omega) (by rw [List.length_map]; omega) (by have := hb2.size; simp; omega) ?_
      intro v' w3 hown hgrow _
      rw [List.length_map] at hown
      obtain ⟨o2, c2, rfl⟩ := row_slice hown
      have hown' := strRow_grow hown
      obtain ⟨e1, e2, e3, e4, e5⟩ := r1.appended (by decide) hrw (by have := hb2.size; omega) (show w.heap.size ≤ B by omega) hown' hgrow
      have hF := frP_trans (frP_trans (frP_trans (frP_trans (frP_below hD) (frP_below hb2)) (frP_below (below_a1 w2 (.cells #[.string (bsOf (Lib.itoa x))] 9)))) (frP_row (hrw.alloc _) (by decide) hgrow)) (frP_set (.slice o2 (pre.length + 1) c2) e1 (by decide))
      have hKO := ((keeps_belowB hD).trans (keeps_belowB hb2)).trans e4
      have hBL := (hbel.trans (hD.mono hs1)).trans ((hb2.mono (Nat.le_trans hs1 hs2)).trans e5)
      have q5 := e1.cell
      have q5f := e1.frozen
      clear hown hgrow
      gi_wp2
      exact ⟨hKO, hF, _, e2, e3, hBL, padAt_keep hpad hF⟩
    · refine wpOpsIn_list _ _ _ (by decide) ?_
      simp only [List.filterMap_cons, List.filterMap_nil, List.getElem?_toArray, List.getElem?_cons_zero, List.getElem?_cons_succ]
      refine wpListIn_plain rfl (fun K hK => ?_)
      go_simp
      refine hK _ _ ?_
      clear hK K
      refine wpListIn_plain rfl (fun K hK => ?_)
      go_simp
      refine ⟨trivial, ?_⟩
      gi_at_call 27
      refine (CallsIn.inRound l (callsIn_wide.2 F3.out)).mono ?_
      rintro e w2 ⟨rfl, hb2⟩
      have r1 := (boxed_belowB hvD hb2)
      have q3 := r1.cell
      have r2 := r1.alloc (.cells #[.string (bsOf (Lib.itoa x))] 9)
      have q4 := r2.cell
      have hrw : StrRow w.heap.size w2 (.slice o pre.length c) (pre.map fun d => bsOf (Lib.itoa d)) := row_below hrowD hb2 (Nat.le_refl _)
      simp only []
      refine hK _ _ ?_
      clear hK K
      refine wpListIn_plain rfl (fun K hK => ?_)
      go_simp
      refine hK _ _ ?_
      clear hK K
      refine wpListIn_plain rfl (fun K hK => ?_)
      go_simp
      refine hK _ _ ?_
      clear hK K
      refine wpListIn_append_own _ rfl (.tmp 12) (.tmp 15) 46 rfl w.heap.size 9 i0 (.string ⟨#[]⟩) 1 16 Tryd.underlying46 HI.out HZ0.out HZ1.out HZ2.out rfl (by decide) _ _ _ rfl (hrw.alloc _) ⟨w2.heap.size, 0, none⟩ 1 1 [.string (bsOf (Lib.itoa x))] rfl rfl (by first | exact newsS _ _ _ | simp [Addr.add]) (by first | exact oneS _ | rfl) (by rw [List.length_map]; unfold maxLen; omega) (by rw [List.length_map]; omega) (by have := hb2.size; simp; omega) ?_
      intro v' w3 hown hgrow _
      rw [List.length_map] at hown
      obtain ⟨o2, c2, rfl⟩ := row_slice hown
      have hown' := strRow_grow hown
      obtain ⟨e1, e2, e3, e4, e5⟩ := r1.appended (by decide) hrw (by have := hb2.size; omega) (show w.heap.size ≤ B by omega) hown' hgrow
      have hF := frP_trans (frP_trans (frP_trans (frP_trans (frP_below hD) (frP_below hb2)) (frP_below (below_a1 w2 (.cells #[.string (bsOf (Lib.itoa x))] 9)))) (frP_row (hrw.alloc _) (by decide) hgrow)) (frP_set (.slice o2 (pre.length + 1) c2) e1 (by decide))
      have hKO := ((keeps_belowB hD).trans (keeps_belowB hb2)).trans e4
      have hBL := (hbel.trans (hD.mono hs1)).trans ((hb2.mono (Nat.le_trans hs1 hs2)).trans e5)
      have q5 := e1.cell
      have q5f := e1.frozen
      clear hown hgrow
      gi_wp2
      exact ⟨hKO, hF, _, e2, e3, hBL, padAt_keep hpad hF⟩
  case done =>
    rintro D xs W hD rfl ⟨vl, hv, hrow, hbel, hpad⟩ hKD
    have hT := tab_below HT.out hbel (Nat.le_refl _)
    obtain ⟨o, c, hvl⟩ := strRow_slice hrow
    rw [List.length_map] at hvl
    subst hvl
    have HJ := Lib.hid (join_row hrow HNE.out.1 HLL.out HNE.out.2)
    have q2 := hv.cell
    have hDw : w.heap.size ≤ D := by omega
    clear HNE HLL HK HI HZ0 HZ1 HZ2
    gi_wp2_with (refine ⟨trivial, ?_⟩; gi_at_call 28; refine (callsIn_wide.2 HJ.out).mono ?_; rintro e w4 ⟨rfl, hb4⟩)
    have hKD := (keeps_belowB hb4).same D _ hKD rfl
    have HB := below_drewN (hbel.trans (hb4.mono hbel.size)) 1
    have T := tab_below HT.out HB (Nat.le_refl _)
    have hpd : PadAt w4.drew w.heap.size p v u n := padAt_keep hpad (frP_below (below_drewN hb4 1))
    have hKD : w4.drew.heap[D]? = some (.deferred (some [])) := hKD
    obtain ⟨c0, c1, c2, c3⟩ := padAt_four hpd
    obtain ⟨a1, a2, a3, a4⟩ := HA.out
    clear q2 hb4 hv hrow hpad hbel HJ
    change Below w.heap.size w w4.drew at HB
    change Tab w4.drew at T
    refine wpIn_mono (Q := NoPanic _) ?_ (fun e a w h => NoPanic.imp e a w h)
    gi_region_with (first
      | (refine ⟨trivial, ?_⟩; gi_at_call 27; refine (callsIn_wide.2 (F1.out _ T)).mono ?_; rintro e wn ⟨rfl, hb⟩; have T := tab_below T hb (Nat.le_refl _); have hKD := (keeps_belowB hb).same D _ hKD rfl; have HB := HB.trans (hb.mono HB.size); have hpd := padAt_keep hpd (frP_below hb); obtain ⟨c0, c1, c2, c3⟩ := padAt_four hpd)
      | (refine ⟨trivial, ?_⟩; gi_at_call 27; refine (callsIn_wide.2 (F2.out _ T)).mono ?_; rintro e wn ⟨rfl, hb⟩; have T := tab_below T hb (Nat.le_refl _); have hKD := (keeps_belowB hb).same D _ hKD rfl; have HB := HB.trans (hb.mono HB.size); have hpd := padAt_keep hpd (frP_below hb); obtain ⟨c0, c1, c2, c3⟩ := padAt_four hpd))
    all_goals refine NoPanic.normal ?_
    all_goals gi_wp2
    all_goals refine ⟨by simp, .inl ⟨_, _, rfl, run_takeDeferred hKD, ?_⟩⟩
    all_goals refine ⟨.string (sp ++ ⟨#[58]⟩ ++ sv ++ ⟨#[58]⟩ ++ bsOf (digT (digL p u n.toNat))), by simp [results, Tryd.results10, go_sem], ?_⟩
    all_goals exact ⟨ret_str2 HE.out, below_putB HB hDw⟩
  case stop => intro _ _ _ _ _ h; exact h.elim
theorem text_any (p v u n : Int) (w : World) (h : POk p v u n) (ht : Tab w) :
    Calls Tryd.prog 10 #[.agg (P4 p v u n)] w fun e w' => e = .returned (.string (bsOf (textL p v u n))) ∧ Below w.heap.size w w' := by
  by_cases hn : n = 0
  · exact text_zero p v u n w h hn ht
  · exact text_some p v u n w h hn ht
end Go.Proofs.YtejgcamogjgdkaaDoor
namespace Go.Proofs.YtejgcamogjgdkaaDoor
open Go.RowKit Go.Shelf
set_option linter.unusedVariables false
set_option linter.unusedSimpArgs false
theorem decS_any (n : Int) (w : World) (h0 : 0 ≤ n) (h1 : n ≤ 1000000) : Calls Tryd.prog 18 #[.int .i64 n] w fun e w' => e = .returned (.string (bsOf (Lib.itoa n))) ∧ Below w.heap.size w w' :=
  dec_any (n.toNat + 1) n w h0 (by omega) (by omega)
theorem itoa_neg {n : Int} (h : n < 0) : bsOf [45] ++ bsOf (Lib.itoa (-n)) = bsOf (Lib.itoa n) := by
  rw [bs_append]
  congr 1
  unfold Lib.itoa
  rw [if_pos h, if_neg (by omega), show (-n).toNat = n.natAbs by omega]
  rfl
theorem l01Number_any (n : Int) (w : World) (h0 : -1000000 ≤ n) (h1 : n ≤ 1000000) :
    Calls Tryd.prog 19 #[.int .i64 n] w fun e w' => e = .returned (.string (bsOf (Lib.itoa n))) ∧ Below w.heap.size w w' := by
  by_cases hn : n < 0
  · have hl := itoa_len (n := -n) (by omega) (by omega)
    have hadd : ∀ wx, (Op.stringOp .add ⟨#[45]⟩ (bsOf (Lib.itoa (-n)))).run Tryd.prog wx = .ok (.string (bsOf (Lib.itoa n))) wx := fun wx => by
      rw [← itoa_neg hn]
      exact add_any ⟨#[45]⟩ _ (by rw [bs_size]; show 1 + _ ≤ _; omega) wx
    have hw : IntKind.i64.wrap (-n) = -n := IntWalk.i64_in _ (by omega)
    have HD := Lib.hid fun w => decS_any (-n) w (by omega) (by omega)
    clear hl
    go_enter Tryd.func19, Tryd.ntmps19
    go_wp2_with (go_at_call 18; refine (HD.out _).mono ?_; rintro e wn ⟨rfl, hb⟩)
    go_ret
    exact ⟨rfl, hb⟩
  · have HD := Lib.hid fun w => decS_any n w (by omega) h1
    go_enter Tryd.func19, Tryd.ntmps19
    go_wp2_with (go_at_call 18; refine (HD.out _).mono ?_; rintro e wn ⟨rfl, hb⟩)
    go_ret
    exact ⟨rfl, hb⟩
def jT (l : List Int) (k : Nat) : List UInt8 := digT (l.take k)
theorem jT_one {l : List Int} {d : Int} (h : 0 < l.length) (e : l.getD 0 0 = d) : jT l 1 = Lib.itoa d := by
  match l, h, e with
  | a :: r, _, e =>
    simp at e; subst e
    simp [jT, digT, Lib.join_one]
theorem jT_succ {l : List Int} {d : Int} {k : Nat} (hk : 0 < k) (h : k < l.length) (e : l.getD k 0 = d) : jT l (k + 1) = jT l k ++ [44] ++ Lib.itoa d := by
  unfold jT digT
  have e2 : l[k] = d := by rw [← e]; simp [List.getD, h]
  rw [List.take_succ_eq_append_getElem h, List.map_append, List.map_singleton, e2, join_snoc]
  intro hn
  have := congrArg List.length hn
  rw [List.length_map, List.length_take, List.length_nil] at this; omega
theorem jstep_one {l : List Int} {x : Int} (h : jT l 1 = Lib.itoa x) : bsOf (jT l 0) ++ bsOf (Lib.itoa x) = bsOf (jT l 1) := by
  rw [h, bs_append]; rfl
theorem jstep_next {l : List Int} {x : Int} {k : Nat} (h : jT l (k + 1) = jT l k ++ [44] ++ Lib.itoa x) : bsOf (jT l k) ++ ⟨#[44]⟩ ++ bsOf (Lib.itoa x) = bsOf (jT l (k + 1)) := by
  rw [h, show (⟨#[44]⟩ : ByteArray) = bsOf [44] from rfl, bs_append, bs_append]
theorem str_eq {a b : ByteArray} (h : a = b) : Value.string a = Value.string b := by rw [h]
theorem bcellT {W w1 : World} (hb : Below W.heap.size W w1) : (∀ b o, b < W.heap.size → w1.cell? ⟨b, o, none⟩ = W.cell? ⟨b, o, none⟩) ∧ (∀ b o, b < W.heap.size → w1.frozen? ⟨b, o, none⟩ = W.frozen? ⟨b, o, none⟩) :=
  ⟨fun b o h => hb.cell (p := ⟨b, o, none⟩) h, fun b o h => hb.frozen (p := ⟨b, o, none⟩) h⟩
set_option maxHeartbeats 1600000 in
theorem l01Join_any (base : Nat) (o : Option Addr) (c : Nat) (l : List Int) (w : World) (hl : l.length ≤ 40) (hd : ∀ d ∈ l, 0 ≤ d ∧ d < 97) (hr : IntRow base w (.slice o l.length c) l) :
    Calls Tryd.prog 16 #[.slice o l.length c, .string ⟨#[44]⟩] w fun e w' => e = .returned (.string (bsOf (digT l))) ∧ Below w.heap.size w w' := by
  have HR := Lib.hid hr
  have HD := Lib.hid hd
  have HE : Hid (jT l l.length = digT l) := by
    show jT l l.length = digT l
    unfold jT; rw [List.take_length]
  have HS : Hid (∀ k, (bsOf (jT l k)).size ≤ 1000) := by
    show ∀ k, (bsOf (jT l k)).size ≤ 1000
    intro k
    rw [bs_size]
    exact digT_len (Nat.le_trans (by rw [List.length_take]; omega) hl) (fun d h => hd d (List.mem_of_mem_take h))
  clear hr hd
  go_enter Tryd.func16, Tryd.ntmps16
  go_wp2
  go_loopw [5, 6] (fun s i wr => ∃ k : Nat, k ≤ l.length ∧ i = .int .i64 k ∧ s = .string (bsOf (jT l k)) ∧ Below w.heap.size w wr) (fun _ i _ => l.length - (intOf i).toNat)
  case atStart => exact ⟨0, Nat.zero_le _, rfl, rfl, Below.refl _ _⟩
  case round =>
    obtain ⟨k, hk, rfl, rfl, hb⟩ := hrel
    by_cases hlt : k < l.length
    · rcases row_shape HR.out with ⟨hz, _⟩ | ⟨_, g, c', hv, hbg, hg⟩
      · omega
      · cases hv
        have a1 := int_cells HR.out k hlt
        rw [← hb.cell (by exact hg)] at a1
        obtain ⟨x, e1⟩ : ∃ x, l.getD k 0 = x := ⟨_, rfl⟩
        have hx : 0 ≤ x ∧ x < 97 := HD.out x (by rw [← e1]; simp [List.getD, hlt])
        rw [e1] at a1
        obtain ⟨hx0, hx1⟩ := hx
        have s0 := HS.out k
        have s1 : (bsOf (Lib.itoa x)).size ≤ 20 := by rw [bs_size]; exact itoa_len (by omega) (by omega)
        have hgw : g < wr.heap.size := by have := hb.size; omega
        have HB := Lib.hid hb
        clear hb
        by_cases hk0 : k = 0
        · subst hk0
          have HA := Lib.hid (jstep_one (jT_one hlt e1))
          have A1 := add_any (bsOf (jT l 0)) (bsOf (Lib.itoa x)) (by omega)
          clear e1
          go_wp2_with fail
          refine (l01Number_any _ _ (by omega) (by omega)).mono ?_
          rintro e w1 ⟨rfl, hb1⟩
          have HB1 := Lib.hid (HB.out.trans (hb1.mono HB.out.size))
          clear hb1
          go_wp2
          exact ⟨⟨0 + 1, by omega, by go_num, str_eq HA.out, HB1.out⟩, by simp only [intOf]; omega⟩
        · have HA := Lib.hid (jstep_next (jT_succ (by omega) hlt e1))
          have hkp : 0 < k := by omega
          have A1 := add_any (bsOf (jT l k)) ⟨#[44]⟩ (by show _ + 1 ≤ _; omega)
          have A2 := add_any (bsOf (jT l k) ++ ⟨#[44]⟩) (bsOf (Lib.itoa x)) (by
            have : (bsOf (jT l k) ++ (⟨#[44]⟩ : ByteArray)).size = (bsOf (jT l k)).size + 1 := by rw [show (⟨#[44]⟩ : ByteArray) = bsOf [44] from rfl, bs_append, bs_size, bs_size]; simp
            omega)
          clear e1 hk0
          go_wp2_with fail
          refine (l01Number_any _ _ (by omega) (by omega)).mono ?_
          rintro e w1 ⟨rfl, hb1⟩
          have HB1 := Lib.hid (HB.out.trans (hb1.mono HB.out.size))
          clear hb1
          go_wp2
          exact ⟨⟨k + 1, by omega, by go_num, str_eq HA.out, HB1.out⟩, by simp only [intOf]; omega⟩
    · have hkn : k = l.length := by omega
      have HK := Lib.hid hkn
      clear hkn
      go_wp2
      go_ret
      exact ⟨ret_str2 (by rw [HK.out, HE.out]), hb⟩
set_option maxRecDepth 20000 in
set_option maxHeartbeats 1600000 in
theorem l04Text_zero (p v u n : Int) (w : World) (h : POk p v u n) (hn : n = 0) :
    Calls Tryd.prog 8 #[.agg (P4 p v u n)] w fun e w' => e = .returned (.string (bsOf (textL p v u n))) ∧ Below w.heap.size w w' := by
  obtain ⟨hp2, hp97, _⟩ := pok_bd h
  have hv0 := h.2.1
  have hv1 := h.2.2.1
  have HE := Lib.hid (show bsOf (Lib.itoa p) ++ ⟨#[58]⟩ ++ bsOf (Lib.itoa v) ++ ⟨#[58]⟩ ++ bsOf [45] = bsOf (textL p v u n) by rw [text_sum]; unfold textL lastT; rw [if_pos hn])
  obtain ⟨a1, a2, a3, a4⟩ := text_adds (Nat.le_trans (itoa_len (n := p) (by omega) (by omega)) (by omega)) (Nat.le_trans (itoa_len (n := v) (by omega) (by omega)) (by omega)) (show [45].length ≤ 1000 by simp)
  have e45 : bsOf [45] = ⟨#[45]⟩ := rfl
  rw [e45] at a4 HE
  have F1 := Lib.hid fun (w : World) => decS_any p w (by omega) (by omega)
  have F2 := Lib.hid fun (w : World) => l01Number_any v w (by omega) (by omega)
  generalize bsOf (Lib.itoa p) = sp at *
  generalize bsOf (Lib.itoa v) = sv at *
  clear h e45
  subst hn
  have K := k1_new w (P4 p v u 0) 26
  go_enter Tryd.func8, Tryd.ntmps8
  go_wp2_with fail
  generalize w.alloc (.cells (P4 p v u 0) 26) = W0 at *
  have K := k1_drew K
  obtain ⟨c0, c1, c2, c3⟩ := lies_four K.2
  go_region_with (first
    | (go_at_call 18; refine (F1.out _).mono ?_; rintro e wn ⟨rfl, hb⟩; have K := k1_next K hb; obtain ⟨c0, c1, c2, c3⟩ := lies_four K.2)
    | (go_at_call 19; refine (F2.out _).mono ?_; rintro e wn ⟨rfl, hb⟩; have K := k1_next K hb; obtain ⟨c0, c1, c2, c3⟩ := lies_four K.2))
  all_goals go_wp2
  all_goals go_ret
  all_goals exact ⟨ret_str2 HE.out, K.1⟩
set_option maxRecDepth 20000 in
set_option maxHeartbeats 1600000 in
theorem l04Text_some (p v u n : Int) (w : World) (h : POk p v u n) (hn : n ≠ 0) :
    Calls Tryd.prog 8 #[.agg (P4 p v u n)] w fun e w' => e = .returned (.string (bsOf (textL p v u n))) ∧ Below w.heap.size w w' := by
  obtain ⟨hp2, hp97, hn0, _⟩ := pok_bd h
  have hv0 := h.2.1
  have hv1 := h.2.2.1
  have HE := Lib.hid (show bsOf (Lib.itoa p) ++ ⟨#[58]⟩ ++ bsOf (Lib.itoa v) ++ ⟨#[58]⟩ ++ bsOf (digT (digL p u n.toNat)) = bsOf (textL p v u n) by rw [text_sum]; unfold textL lastT; rw [if_neg hn])
  obtain ⟨a1, a2, a3, a4⟩ := text_adds (Nat.le_trans (itoa_len (n := p) (by omega) (by omega)) (by omega)) (Nat.le_trans (itoa_len (n := v) (by omega) (by omega)) (by omega)) (digT_len (digL_all h).1 (digL_all h).2)
  have F1 := Lib.hid fun (w : World) => decS_any p w (by omega) (by omega)
  have F2 := Lib.hid fun (w : World) => l01Number_any v w (by omega) (by omega)
  have F3 := Lib.hid fun (w : World) => l04Digits_any p v u n w h
  have F4 := Lib.hid fun (base : Nat) (o : Option Addr) (c : Nat) (w : World) => l01Join_any base o c (digL p u n.toNat) w (digL_all h).1 (digL_all h).2
  generalize bsOf (Lib.itoa p) = sp at *
  generalize bsOf (Lib.itoa v) = sv at *
  generalize digL p u n.toNat = dl at *
  have hn1 : 0 < n := by omega
  clear h hn
  have K := k1_new w (P4 p v u n) 26
  obtain ⟨c0, c1, c2, c3⟩ := lies_four K.2
  go_enter Tryd.func8, Tryd.ntmps8
  go_wp2_with (first
    | (go_at_call 17; refine (F3.out _).mono ?_; rintro e w1 ⟨vl, rfl, hrow, hb⟩; obtain ⟨o, c, rfl⟩ := row_slice hrow; have K := k1_next K hb; obtain ⟨c0, c1, c2, c3⟩ := lies_four K.2)
    | (go_at_call 16; refine (F4.out _ _ _ _ hrow).mono ?_; rintro e w2 ⟨rfl, hb⟩; have K := k1_next K hb; obtain ⟨c0, c1, c2, c3⟩ := lies_four K.2))
  have K := k1_drew K
  obtain ⟨c0, c1, c2, c3⟩ := lies_four K.2
  go_region_with (first
    | (go_at_call 18; refine (F1.out _).mono ?_; rintro e wn ⟨rfl, hb⟩; have K := k1_next K hb; obtain ⟨c0, c1, c2, c3⟩ := lies_four K.2)
    | (go_at_call 19; refine (F2.out _).mono ?_; rintro e wn ⟨rfl, hb⟩; have K := k1_next K hb; obtain ⟨c0, c1, c2, c3⟩ := lies_four K.2))
  all_goals go_wp2
  all_goals go_ret
  all_goals exact ⟨ret_str2 HE.out, K.1⟩
theorem l04Text_any (p v u n : Int) (w : World) (h : POk p v u n) :
    Calls Tryd.prog 8 #[.agg (P4 p v u n)] w fun e w' => e = .returned (.string (bsOf (textL p v u n))) ∧ Below w.heap.size w w' := by
  by_cases hn : n = 0
  · exact l04Text_zero p v u n w h hn
  · exact l04Text_some p v u n w h hn
/-- what both PadicText answer -/
def ptL (p v u n : Int) : List UInt8 := if padB p v u n then textL p v u n else []
def ptC (p v u n : Int) : Int := if padB p v u n then 0 else 1
theorem specPadicText_any (p v u n : Int) (w : World) :
    Calls Tryd.prog 4 #[.agg (P4 p v u n)] w fun e w' => e = .returned (.tuple #[.string (bsOf (ptL p v u n)), .int .i64 (ptC p v u n)]) ∧ Below w.heap.size w w' := by
  cases hx : padB p v u n
  · rw [show ptL p v u n = [] by simp [ptL, hx], show ptC p v u n = 1 by simp [ptC, hx]]
    go_enter Tryd.func4, Tryd.ntmps4
    go_wp2_with (go_at_call 7; refine (specIsPadic_any _ _ _ _ _).mono ?_; rw [hx]; rintro e wn ⟨rfl, hb⟩; have K := k1_first hb)
    go_ret2
    exact ⟨rfl, K.1⟩
  · rw [show ptL p v u n = textL p v u n by simp [ptL, hx], show ptC p v u n = 0 by simp [ptC, hx]]
    have HT := Lib.hid fun w => l04Text_any p v u n w (padB_ok hx)
    go_enter Tryd.func4, Tryd.ntmps4
    go_wp2_with (first
      | (go_at_call 7; refine (specIsPadic_any _ _ _ _ _).mono ?_; rw [hx]; rintro e wn ⟨rfl, hb⟩; have K := k1_first hb; obtain ⟨c0, c1, c2, c3⟩ := lies_four K.2)
      | (go_at_call 8; refine (HT.out _).mono ?_; rintro e wn ⟨rfl, hb⟩; have K := k1_next K hb; obtain ⟨c0, c1, c2, c3⟩ := lies_four K.2))
    go_ret2
    exact ⟨rfl, K.1⟩
theorem implPadicText_any (p v u n : Int) (w : World) (ht : Tab w) :
    Calls Tryd.prog 6 #[.agg (P4 p v u n)] w fun e w' => e = .returned (.tuple #[.string (bsOf (ptL p v u n)), .int .i64 (ptC p v u n)]) ∧ Below w.heap.size w w' := by
  cases hx : padB p v u n
  · rw [show ptL p v u n = [] by simp [ptL, hx], show ptC p v u n = 1 by simp [ptC, hx]]
    clear ht
    go_enter Tryd.func6, Tryd.ntmps6
    go_wp2_with (go_at_call 9; refine (isValid_any _ _ _ _ _).mono ?_; rw [hx]; rintro e wn ⟨rfl, hb⟩; have K := k1_first hb)
    go_ret2
    exact ⟨rfl, K.1⟩
  · rw [show ptL p v u n = textL p v u n by simp [ptL, hx], show ptC p v u n = 0 by simp [ptC, hx]]
    have HT := Lib.hid fun w (h : Tab w) => text_any p v u n w (padB_ok hx) h
    have HH := Lib.hid ht
    clear ht
    go_enter Tryd.func6, Tryd.ntmps6
    go_wp2_with (first
      | (go_at_call 9; refine (isValid_any _ _ _ _ _).mono ?_; rw [hx]; rintro e wn ⟨rfl, hb⟩; have K := k1_first hb; have T := tab_below HH.out K.1 (Nat.le_refl _); obtain ⟨c0, c1, c2, c3⟩ := lies_four K.2)
      | (go_at_call 10; refine (HT.out _ T).mono ?_; rintro e wn ⟨rfl, hb⟩; have K := k1_next K hb; obtain ⟨c0, c1, c2, c3⟩ := lies_four K.2))
    go_ret2
    exact ⟨rfl, K.1⟩
end Go.Proofs.YtejgcamogjgdkaaDoor
namespace Go.Proofs.YtejgcamogjgdkaaDoor
open Go.RowKit
set_option linter.unusedVariables false
set_option linter.unusedSimpArgs false
theorem toPadicT_any (p v u n : Int) (w : World) :
    Calls Tryd.prog 5 #[.agg (P4 p v u n)] w fun e w' => e = .returned (.agg (P4 p v u n)) ∧ Below w.heap.size w w' := by
  go_enter Tryd.func5, Tryd.ntmps5
  go_wp2
  refine bodyPost_ret (v := .agg (P4 p v u n)) (by simp [results, Tryd.results5, go_sem]) rfl ?_
  exact ⟨rfl, below_a3 w _ _ _⟩
theorem exactPText_walk (p v u n : Int) (w : World) (ht : Tab w) :
    Calls Tryd.prog 3 #[.agg (P4 p v u n)] w fun e w' => e = .returned (.bool true) ∧ Below w.heap.size w w' := by
  have HT := Lib.hid ht
  have HI := Lib.hid fun (w : World) (h : Tab w) => implPadicText_any p v u n w h
  have HS := Lib.hid fun (w : World) => specPadicText_any p v u n w
  generalize bsOf (ptL p v u n) = t at *
  generalize ptC p v u n = c at *
  clear ht
  go_enter Tryd.func3, Tryd.ntmps3
  go_wp2_with (first
    | (go_at_call 5; refine (toPadicT_any _ _ _ _ _).mono ?_; rintro e wn ⟨rfl, hb⟩; (first | have K := k1_first hb | have K := k1_next K hb); have T := tab_below HT.out K.1 (Nat.le_refl _); obtain ⟨c0, c1, c2, c3⟩ := lies_four K.2)
    | (go_at_call 4; refine (HS.out _).mono ?_; rintro e wn ⟨rfl, hb⟩; have K := k1_next K hb; obtain ⟨c0, c1, c2, c3⟩ := lies_four K.2)
    | (go_at_call 6; refine (HI.out _ T).mono ?_; rintro e wn ⟨rfl, hb⟩; have K := k1_next K hb; obtain ⟨c0, c1, c2, c3⟩ := lies_four K.2))
  go_ret
  exact ⟨rfl, K.1⟩
end Go.Proofs.YtejgcamogjgdkaaDoor
namespace Go.Proofs.YtejgcamogjgdkaaDoor.fnExactPadicText
open Go.ChangeShapes Go.WideShapes Go.ChangeAt Go.RowKit Go.Joins
set_option linter.unusedVariables false
theorem own : ownKnob Tryd.prog.godebug = none := by kernel_rfl
theorem laidOut : laidOutB Tryd.prog = true := by kernel_rfl
theorem gTabType : (Tryd.prog.globals[0]?).map (·.type) = some 72 := by kernel_rfl
theorem cellsTab : Tryd.prog.cellsOf 72 = 20 := by kernel_rfl
theorem cellsU : Tryd.prog.cellsOf 64 = 1 := by kernel_rfl
theorem table {W : World} (h : laidMetH Tryd.prog Rows.fnExactPadicTextRow.laid W) : Tab W := by
  have h0 : laidMet Tryd.prog Rows.fnExactPadicTextRow.laid W := h
  have h2 : laidMet Tryd.prog [("internal/strconv.uint64pow10", Rows.laid_internal_strconv_uint64pow10)] W := h0.tail.tail
  exact Lib.tabIs_of_head (rest := []) gTab gTabType Tryd.underlying72 Tryd.underlying64 cellsU cellsTab h2
theorem cellsP : Tryd.prog.cellsOf 23 = 4 := by kernel_rfl
set_option maxRecDepth 100000 in
theorem contract (H : Type) (enc : TypeId × Value → H) (W : World) (base : Nat) (args : Array Value) (ds gs : List (DataW H)) (before : List MemPlace)
    (hval : ∀ (j : Nat) t v, Tryd.f3.params[j]? = some t → args[j]? = some v → Value.okWide Tryd.prog W .any base t v)
    (hW : DataW.Whole enc Tryd.prog Tryd.f3.params.toList Rows.fnExactPadicTextSpec.vars false W args.toList ds gs before) (hL : laidMetH Tryd.prog Rows.fnExactPadicTextRow.laid W) :
    Calls Tryd.prog 3 args W fun e W' => ∃ v, e = .returned v ∧ Rows.fnExactPadicTextSpec.post enc Tryd.prog Tryd.f3 false true false false W args v W' := by
  have hW' := hW
  obtain ⟨p, q, hA0, hV, rfl, hfz, hnd⟩ := hW
  have hA : DataW.TrodAll enc Tryd.prog W 0 (fun _ => true) true Tryd.f3.params.toList args.toList ds p := hA0
  rw [Tryd.params3] at hA hval
  obtain ⟨v0, vs0, d0, ds0, p0, q0, hargs, rfl, rfl, h0, r0⟩ := trodAll_cons hA
  obtain ⟨rfl, rfl, rfl⟩ := trodAll_nil r0
  obtain rfl : args = #[v0] := by cases args; simp_all
  obtain ⟨rfl, rfl⟩ := trodVars_none hV
  obtain ⟨c0_0, c0_1, c0_2, c0_3, y0_0, y0_1, y0_2, y0_3, m0, rfl, rfl, rfl, hy0_0, hy0_1, hy0_2, hy0_3⟩ := open_agg4 Tryd.underlying23 (by kernel_rfl) cellsP (hval 0 23 v0 rfl rfl) h0
  obtain ⟨a0x, e0_0, rfl, wa0x⟩ := DataW.trod_int Tryd.underlying2 hy0_0
  obtain ⟨a0y, e0_1, rfl, wa0y⟩ := DataW.trod_int Tryd.underlying2 hy0_1
  obtain ⟨a0z, e0_2, rfl, wa0z⟩ := DataW.trod_int Tryd.underlying2 hy0_2
  obtain ⟨a0u, e0_3, rfl, wa0u⟩ := DataW.trod_int Tryd.underlying2 hy0_3
  simp at e0_0 e0_1 e0_2 e0_3
  subst e0_0 e0_1 e0_2 e0_3
  clear hA0
  simp only [List.append_nil] at hW'
  refine (exactPText_walk a0x a0y a0z a0u W (table hL)).mono fun e W' ⟨he, bel⟩ => ?_
  subst he
  exact ⟨_, rfl, _, _, _, [], [], [], hW', (trodAll_cons_mk (shut_bool Tryd.underlying4 _) trodAll_mk0), (trodAll_cons_mk (shut_agg4 (y0 := (.lit (.int .i64 a0x), [])) (y1 := (.lit (.int .i64 a0y), [])) (y2 := (.lit (.int .i64 a0z), [])) (y3 := (.lit (.int .i64 a0u), [])) Tryd.underlying23 (by kernel_rfl) cellsP ⟨1, by simp [DataW.trod, Tryd.underlying2, wa0x]⟩ ⟨1, by simp [DataW.trod, Tryd.underlying2, wa0y]⟩ ⟨1, by simp [DataW.trod, Tryd.underlying2, wa0z]⟩ ⟨1, by simp [DataW.trod, Tryd.underlying2, wa0u]⟩) trodAll_mk0), rfl, bel.frame _, fun h => by cases h⟩
/-- block g holding the cells cs -/
def layAt (g : Nat) (cs : Array Value) (h : Array Obj) : Array Obj := h.modify g fun o => match o with
  | .cells _ t frozen => .cells cs t frozen
  | o => o
/-- a world for the witness: the settled one, the three tables holding what their initialisers lay -/
noncomputable def laidWorld (os : Os) : World :=
  { World.holding Tryd.prog os ⟨#[], #[], []⟩ with heap := layAt 3 #[.int .u8 0, .int .u8 1, .int .u8 56, .int .u8 2, .int .u8 57, .int .u8 49, .int .u8 28, .int .u8 3, .int .u8 61, .int .u8 58, .int .u8 42, .int .u8 50, .int .u8 38, .int .u8 29, .int .u8 17, .int .u8 4, .int .u8 62, .int .u8 47, .int .u8 59, .int .u8 36, .int .u8 45, .int .u8 43, .int .u8 51, .int .u8 22, .int .u8 53, .int .u8 39, .int .u8 33, .int .u8 30, .int .u8 24, .int .u8 18, .int .u8 12, .int .u8 5, .int .u8 63, .int .u8 55, .int .u8 48, .int .u8 27, .int .u8 60, .int .u8 41, .int .u8 37, .int .u8 16, .int .u8 46, .int .u8 35, .int .u8 44, .int .u8 21, .int .u8 52, .int .u8 32, .int .u8 23, .int .u8 11, .int .u8 54, .int .u8 26, .int .u8 40, .int .u8 15, .int .u8 34, .int .u8 20, .int .u8 31, .int .u8 10, .int .u8 25, .int .u8 14, .int .u8 19, .int .u8 9, .int .u8 13, .int .u8 8, .int .u8 7, .int .u8 6] (layAt 2 #[.int .u8 0, .int .u8 1, .int .u8 28, .int .u8 2, .int .u8 29, .int .u8 14, .int .u8 24, .int .u8 3, .int .u8 30, .int .u8 22, .int .u8 20, .int .u8 15, .int .u8 25, .int .u8 17, .int .u8 4, .int .u8 8, .int .u8 31, .int .u8 27, .int .u8 13, .int .u8 23, .int .u8 21, .int .u8 19, .int .u8 16, .int .u8 7, .int .u8 26, .int .u8 12, .int .u8 18, .int .u8 6, .int .u8 11, .int .u8 5, .int .u8 10, .int .u8 9] (layAt 0 #[.int .u64 1, .int .u64 10, .int .u64 100, .int .u64 1000, .int .u64 10000, .int .u64 100000, .int .u64 1000000, .int .u64 10000000, .int .u64 100000000, .int .u64 1000000000, .int .u64 10000000000, .int .u64 100000000000, .int .u64 1000000000000, .int .u64 10000000000000, .int .u64 100000000000000, .int .u64 1000000000000000, .int .u64 10000000000000000, .int .u64 100000000000000000, .int .u64 1000000000000000000, .int .u64 10000000000000000000] (World.holding Tryd.prog os ⟨#[], #[], []⟩).heap)) }
theorem laid_met (os : Os) : laidMet Tryd.prog Rows.fnExactPadicTextRow.laid ((laidWorld os).forCall (fun _ _ => 0) ⟨#[], #[.agg #[.int .i64 0, .int .i64 0, .int .i64 0, .int .i64 0]], []⟩).memory :=
  laidMet_of_run' 8 (by kernel_rfl) (by kernel_rfl)
theorem reads (os : Os) {H : Type} (enc : TypeId × Value → H) : ∃ places, DataW.whole enc Tryd.prog ((laidWorld os).forCall (fun _ _ => 0) ⟨#[], #[.agg #[.int .i64 0, .int .i64 0, .int .i64 0, .int .i64 0]], []⟩).memory Tryd.f3.params.toList Rows.fnExactPadicTextSpec.vars false #[.agg #[.int .i64 0, .int .i64 0, .int .i64 0, .int .i64 0]].toList 8 = some ([.agg [.lit (.int .i64 0), .lit (.int .i64 0), .lit (.int .i64 0), .lit (.int .i64 0)]], [], places) :=
  ⟨[], by kernel_rfl⟩
set_option maxRecDepth 100000 in
theorem lifted (os : Os) (started : os.Started) (H : Type) (enc : TypeId × Value → H) (F : Stop.Interp) :
    ReturnsInHanded {} Tryd.checked os 3 .any ((OpenSpec.ofChange Rows.fnExactPadicTextSpec).preRow enc Tryd.prog Tryd.f3 Rows.fnExactPadicTextRow.domain false Rows.fnExactPadicTextRow.laid) (((OpenSpec.ofChange Rows.fnExactPadicTextSpec).at F).post enc Tryd.prog Tryd.f3 false true false false) := by
  obtain ⟨places, hx⟩ := reads os enc
  refine returnsInHanded_of_row (C := Tryd.checked) (s := OpenSpec.ofChange Rows.fnExactPadicTextSpec) own started (by kernel_rfl) Tryd.func3
    (witness_row_at (enc := enc) (C := Tryd.checked) false (laidWorld os) #[.agg #[.int .i64 0, .int .i64 0, .int .i64 0, .int .i64 0]] rfl (by kernel_rfl) (by kernel_rfl) (by kernel_rfl)
      (OpenSpec.preRow_of_cond 8 hx (by kernel_rfl) (fun k hk => by cases hk) (by kernel_rfl) (laid_met os))) ?_
  intro W base args ds gs before hval hW _ _ _ hL _ _
  exact contract H enc W base args ds gs before hval hW hL
theorem said : Rows.FnExactPadicTextSaid :=
  OpenClaim.holds_of_cond 3 Tryd.f3 rfl rfl rfl rfl rfl rfl rfl ⟨rfl, rfl, rfl, rfl, rfl⟩ rfl rfl rfl rfl rfl (by kernel_rfl) Tryd.func3 (by kernel_rfl)
    (of_decide_eq_true (by kernel_rfl)) (by unfold Func.isWrapper; first | (rw [if_pos (by decide +kernel)]; kernel_rfl) | (rw [if_neg (by decide +kernel)]; exact ⟨rfl, rfl⟩))
    (fun os started H enc _ F => by rw [OpenClaim.pre_eq_preRow]; exact lifted os started H enc F)
theorem plain (f : FuncId) (fn : Func) (hf : Tryd.pinned.checked.prog.funcNamed "loop.example/g01000/laws.FnExactPadicText" = some f) (hfn : Tryd.pinned.checked.prog.funcs[f]? = some fn) :
    false = Tryd.pinned.checked.prog.looks [] ∧ ∀ (j : Nat) t, fn.params[j]? = some t → Tryd.pinned.checked.prog.wantsStandIn t = false := by
  obtain rfl : f = 3 := Option.some.inj ((show Tryd.prog.funcNamed "loop.example/g01000/laws.FnExactPadicText" = some 3 by kernel_rfl).symm.trans hf) |>.symm
  obtain rfl : fn = Tryd.f3 := (Option.some.inj (Tryd.func3.symm.trans hfn)).symm
  refine ⟨by kernel_rfl, fun j t ht => ?_⟩
  rw [Tryd.params3] at ht
  obtain rfl : t = 23 := by simpa using Array.mem_of_getElem? ht
  exact (show Tryd.prog.wantsStandIn 23 = false by kernel_rfl)
/-- THE CARD -/
theorem card : Rows.FnExactPadicTextCardSaid :=
  Claim7.holds_tied_plain_at .later [] _ _ _ _ said (fun _ h => by cases h) (by kernel_rfl) (fun _ h => by cases h) fnExactPadicText_row_tie rfl ⟨rfl, rfl⟩ (by kernel_rfl) rfl plain (by kernel_rfl)
#print axioms card
end Go.Proofs.YtejgcamogjgdkaaDoor.fnExactPadicText
