/- Plain mathematics of chapter 6's texts: the text of a polynomial, term by term; what a reader makes of a term. -/
import Derived.Test.YtcennddgbpkclaaDoorTxtBase
import Derived.Test.YtcennddgbpkclaaDoorPolyPad
namespace Go.Proofs.YtcennddgbpkclaaDoor
open Go.RowKit Go.Shelf
set_option linter.unusedVariables false
set_option linter.unusedSimpArgs false
def rdQ (m : UInt8) (s : ByteArray) : Option (Int × Int) :=
  match pI (Lib.cut s.data.toList [m]).1 with
  | none => none
  | some p => if (Lib.cut s.data.toList [m]).2.2 = true then (match pI (Lib.cut s.data.toList [m]).2.1 with
      | none => none
      | some k => some (p, k)) else some (p, 1)
theorem cut_size (m : UInt8) (s : ByteArray) : (⟨(Lib.cut s.data.toList [m]).1.toArray⟩ : ByteArray).size ≤ s.size ∧ (⟨(Lib.cut s.data.toList [m]).2.1.toArray⟩ : ByteArray).size ≤ s.size := by
  have e : s.size = s.data.toList.length := by rw [Array.length_toList]; rfl
  show (bsOf _).size ≤ s.size ∧ (bsOf _).size ≤ s.size
  rw [bs_size, bs_size, e]
  unfold Lib.cut
  split
  · exact ⟨by rw [List.length_take]; omega, by rw [List.length_drop]; omega⟩
  · exact ⟨Nat.le_refl _, Nat.zero_le _⟩
def RdPost (m : UInt8) (s : ByteArray) (w : World) (e : Ending) (w' : World) : Prop :=
  Below w.heap.size w w' ∧ ((∃ a b, rdQ m s = some (a, b) ∧ e = .returned (.tuple #[.int .i64 a, .int .i64 b, .bool true])) ∨ (rdQ m s = none ∧ e = .returned (.tuple #[.int .i64 0, .int .i64 0, .bool false])))
theorem ret_iib {a b c d : Int} {x y : Bool} (h : a = c) (h' : b = d) (h'' : x = y) : Ending.returned (.tuple #[.int .i64 a, .int .i64 b, .bool x]) = .returned (.tuple #[.int .i64 c, .int .i64 d, .bool y]) := by rw [h, h', h'']
set_option maxRecDepth 20000 in
set_option maxHeartbeats 1600000 in
theorem readPair_any (m : UInt8) (s : ByteArray) (w : World) (hs : s.size ≤ 2000000) (h : Env w) :
    Calls Tryd.prog 56 #[.string s, .string ⟨#[m]⟩] w (RdPost m s w) := by
  obtain ⟨c1, c2⟩ := cut_size m s
  obtain ⟨p1, hp1⟩ : ∃ p1, (Lib.cut s.data.toList [m]).1 = p1 := ⟨_, rfl⟩
  obtain ⟨p2, hp2⟩ : ∃ p2, (Lib.cut s.data.toList [m]).2.1 = p2 := ⟨_, rfl⟩
  obtain ⟨b, hb⟩ : ∃ b, (Lib.cut s.data.toList [m]).2.2 = b := ⟨_, rfl⟩
  rw [hp1] at c1
  rw [hp2] at c2
  have HR : Hid (rdQ m s = match pI p1 with
      | none => none
      | some p => if b = true then (match pI p2 with
        | none => none
        | some k => some (p, k)) else some (p, 1)) := by
    show rdQ m s = _
    unfold rdQ; rw [hp1, hp2, hb]
  have HC : Hid ((Lib.cut s.data.toList [m]).1 = p1 ∧ (Lib.cut s.data.toList [m]).2.1 = p2 ∧ (Lib.cut s.data.toList [m]).2.2 = b) := ⟨hp1, hp2, hb⟩
  have C1 : Hid ((⟨p1.toArray⟩ : ByteArray).size ≤ 2000000) := Nat.le_trans c1 hs
  have C2 : Hid ((⟨p2.toArray⟩ : ByteArray).size ≤ 2000000) := Nat.le_trans c2 hs
  have E0 := Lib.hid h
  have HS := Lib.hid hs
  clear hp1 hp2 hb c1 c2 hs h
  go_enter Tryd.func56, Tryd.ntmps56
  go_wp2_with fail
  obtain ⟨mx, hm⟩ := E0.out.2.2
  refine (Tryd.strings_Cut s ⟨#[m]⟩ mx _ (by have := HS.out; omega) hm).mono ?_
  clear hm
  rintro e w1 ⟨rfl, nd, rfl⟩
  rw [show (⟨#[m]⟩ : ByteArray).data.toList = [m] from rfl, HC.out.1, HC.out.2.1, HC.out.2.2]
  go_wp2_with fail
  refine (parse_any _ _ C1.out (env_below E0.out (below_drewN (Below.refl _ _) nd) (Nat.le_refl _))).mono ?_
  rintro e w2 ⟨v, er, rfl, b2, hcase⟩
  have B2 := Lib.hid ((below_drewN (Below.refl w.heap.size w) nd).trans (b2.mono (Nat.le_refl _)))
  have E2 := Lib.hid (env_below (env_below E0.out (below_drewN (Below.refl _ _) nd) (Nat.le_refl _)) b2 (Nat.le_refl _))
  clear b2
  rcases hcase with ⟨hp, rfl⟩ | ⟨hp, t, p, rfl⟩
  · cases b
    · have HD : Hid (rdQ m s = some (v, 1)) := by
        show rdQ m s = some (v, 1)
        rw [HR.out, hp]; rfl
      clear hp
      go_wp2
      go_ret3
      exact ⟨B2.out, .inl ⟨_, _, HD.out, rfl⟩⟩
    · have HP := Lib.hid hp
      clear hp
      go_wp2_with fail
      refine (parse_any _ _ C2.out E2.out).mono ?_
      rintro e w3 ⟨v3, er3, rfl, b3, hcase3⟩
      have B3 := Lib.hid (B2.out.trans (b3.mono B2.out.size))
      clear b3
      rcases hcase3 with ⟨hp, rfl⟩ | ⟨hp, t, p, rfl⟩
      · have HD : Hid (rdQ m s = some (v, v3)) := by
          show rdQ m s = some (v, v3)
          rw [HR.out, HP.out]; simp [hp]
        clear hp
        go_wp2
        go_ret3
        exact ⟨B3.out, .inl ⟨_, _, HD.out, rfl⟩⟩
      · have HD : Hid (rdQ m s = none) := by
          show rdQ m s = none
          rw [HR.out, HP.out]; simp [hp]
        clear hp
        go_wp2
        go_ret3
        exact ⟨B3.out, .inr ⟨HD.out, rfl⟩⟩
  · have HD : Hid (rdQ m s = none) := by
      show rdQ m s = none
      rw [HR.out, hp]
    clear hp
    go_wp2
    go_ret3
    exact ⟨B2.out, .inr ⟨HD.out, rfl⟩⟩
theorem itoa_neg {n : Int} (h : n < 0) : bsOf [45] ++ bsOf (Lib.itoa (-n)) = bsOf (Lib.itoa n) := by
  rw [bs_append]
  congr 1
  unfold Lib.itoa
  rw [if_pos h, if_neg (by omega), show (-n).toNat = n.natAbs by omega]
  rfl
theorem parseU_decV (k : Nat) (h : k ≤ 1000000000000) : Lib.parseUintB 64 (Lib.decDigits k) = .ok k := by
  obtain ⟨d1, d2⟩ := decDigits_val k
  have hl := decDigits_len 12 k (by omega)
  obtain ⟨l, hL⟩ : ∃ l, Lib.decDigits k = l := ⟨_, rfl⟩
  have hne : l ≠ [] := by rw [← hL, Lib.decDigits]; split <;> simp
  rw [hL] at d1 d2 hl ⊢
  have hpow : (0 + 1) * 10 ^ l.length ≤ 1000000000000000000 := by
    rw [Nat.zero_add, Nat.one_mul]
    exact Nat.le_trans (Nat.pow_le_pow_right (by decide) hl) (by decide)
  obtain ⟨u, e1, e2, e3⟩ := uintM_dig (2 ^ 64 - 1) (by decide) l 0 d1 hpow
  have hu : (u : Int) = k := by rw [e2]; exact d2
  have : u = k := by omega
  subst this
  unfold Lib.parseUintB
  rw [if_neg hne]
  exact e1
theorem dec_head (k : Nat) : ∃ c r, Lib.decDigits k = c :: r ∧ isDig c = true := by
  obtain ⟨d1, _⟩ := decDigits_val k
  obtain ⟨l, hL⟩ : ∃ l, Lib.decDigits k = l := ⟨_, rfl⟩
  have hne : l ≠ [] := by rw [← hL, Lib.decDigits]; split <;> simp
  rw [hL] at d1 ⊢
  cases l with
  | nil => exact absurd rfl hne
  | cons c r =>
    rw [List.all_cons, Bool.and_eq_true] at d1
    exact ⟨c, r, rfl, d1.1⟩
theorem pI_itoaW (n : Int) (h0 : 0 ≤ n) (h1 : n ≤ 1000000000000) : pI (Lib.itoa n) = some n := by
  obtain ⟨d1, d2⟩ := decDigits_val n.toNat
  have hl := decDigits_len 12 n.toNat (by omega)
  rw [itoa_nat h0]
  obtain ⟨l, hL⟩ : ∃ l, Lib.decDigits n.toNat = l := ⟨_, rfl⟩
  have hne : l ≠ [] := by rw [← hL, Lib.decDigits]; split <;> simp
  rw [hL] at d1 d2 hl ⊢
  match l, hne with
  | c :: r, _ =>
    have hc := d1
    rw [List.all_cons, Bool.and_eq_true] at hc
    have hc2 := hc.1
    simp only [isDig, decide_eq_true_eq] at hc2
    have hpow : (0 + 1) * 10 ^ (c :: r).length ≤ 1000000000000000000 := by
      rw [Nat.zero_add, Nat.one_mul]
      exact Nat.le_trans (Nat.pow_le_pow_right (by decide) hl) (by decide)
    obtain ⟨u, e1, e2, e3⟩ := uintM_dig (2 ^ 64 - 1) (by decide) (c :: r) 0 d1 hpow
    have hu : (u : Int) = n := by rw [e2]; show valL (c :: r) = n; rw [d2]; omega
    have hpu : Lib.parseUintB 64 (c :: r) = .ok u := by unfold Lib.parseUintB; rw [if_neg (by simp)]; exact e1
    have hpi : Lib.parseIntB 64 (c :: r) = .ok n := by
      unfold Lib.parseIntB
      simp only
      rw [if_neg (by omega), hpu]
      simp only
      rw [if_neg (by omega), if_neg (by omega), if_neg (by omega), hu]
    unfold pI
    rw [hpi]
theorem rdV_bd (s : ByteArray) : 0 ≤ rdV s ∧ rdV s ≤ 10000000000000 := by
  unfold rdV
  split
  · rename_i h
    have e : s.data.toList.take s.size = s.data.toList := List.take_of_length_le (by simp)
    have := dig_bd s s.size h.2.1 (by rw [e]; exact h.2.2)
    rw [e] at this; exact this
  · omega
def sgB (b : UInt8) : Bool := b == 43 || b == 45
def bodyT (a m : Nat) : List UInt8 :=
  if m = 0 then Lib.decDigits a else (if a = 1 then [] else Lib.decDigits a) ++ (120 :: (if m = 1 then [] else 94 :: Lib.decDigits m))
def sgnT (first : Bool) (c : Int) : List UInt8 := if c < 0 then [45] else if first = true then [] else [43]
def termT (first : Bool) (c : Int) (m : Nat) : List UInt8 := sgnT first c ++ bodyT c.natAbs m
def restT (f : List Int) : Bool → Nat → List UInt8
  | _, 0 => []
  | b, n + 1 => if f.getD n 0 = 0 then restT f b n else termT b (f.getD n 0) n ++ restT f false n
/-- the text of a polynomial -/
def polyT (f : List Int) : List UInt8 := if restT f true f.length = [] then [48] else restT f true f.length
theorem dec_ne (k : Nat) : Lib.decDigits k ≠ [] := by
  obtain ⟨c, r, h, _⟩ := dec_head k
  rw [h]; simp
theorem dig_noSg {b : UInt8} (h : isDig b = true) : sgB b = false := by
  cases hs : sgB b
  · rfl
  · unfold sgB at hs
    simp only [Bool.or_eq_true, beq_iff_eq] at hs
    rcases hs with rfl | rfl <;> cases h
theorem dec_noSg (k : Nat) : ∀ b ∈ Lib.decDigits k, sgB b = false := fun b hb => dig_noSg (List.all_eq_true.1 (decDigits_val k).1 b hb)
theorem body_ne (a m : Nat) : bodyT a m ≠ [] := by
  unfold bodyT
  split
  · exact dec_ne a
  · simp
theorem body_noSg (a m : Nat) : ∀ b ∈ bodyT a m, sgB b = false := by
  intro b hb
  unfold bodyT at hb
  split at hb
  · exact dec_noSg a b hb
  · rcases List.mem_append.1 hb with hb | hb
    · split at hb
      · cases hb
      · exact dec_noSg a b hb
    · rcases List.mem_cons.1 hb with rfl | hb
      · rfl
      · split at hb
        · cases hb
        · rcases List.mem_cons.1 hb with rfl | hb
          · rfl
          · exact dec_noSg m b hb
/-- a piece: no sign behind its first byte -/
def PieceL (l : List UInt8) : Prop := ∃ h t, l = h :: t ∧ ∀ b ∈ t, sgB b = false
/-- what follows a piece: nothing, or a sign -/
def TailL (l : List UInt8) : Prop := l = [] ∨ ∃ h t, l = h :: t ∧ sgB h = true
theorem term_piece (b : Bool) (c : Int) (m : Nat) : PieceL (termT b c m) := by
  obtain ⟨h, t, e⟩ : ∃ h t, bodyT c.natAbs m = h :: t := by
    cases hb : bodyT c.natAbs m with
    | nil => exact absurd hb (body_ne _ _)
    | cons h t => exact ⟨h, t, rfl⟩
  have hn := body_noSg c.natAbs m
  unfold termT sgnT
  split
  · exact ⟨45, _, rfl, hn⟩
  · split
    · refine ⟨h, t, by rw [e]; rfl, fun x hx => hn x ?_⟩
      rw [e]; exact List.mem_cons_of_mem _ hx
    · exact ⟨43, _, rfl, hn⟩
theorem term_tail (c : Int) (m : Nat) (r : List UInt8) : TailL (termT false c m ++ r) := by
  unfold termT sgnT
  split
  · exact .inr ⟨45, _, rfl, rfl⟩
  · exact .inr ⟨43, _, rfl, rfl⟩
theorem rest_tail (f : List Int) : ∀ n, TailL (restT f false n)
  | 0 => .inl rfl
  | n + 1 => by
    unfold restT
    split
    · exact rest_tail f n
    · exact term_tail _ _ _
theorem piece_ne {l : List UInt8} (h : PieceL l) : l ≠ [] := by obtain ⟨a, t, rfl, _⟩ := h; simp
theorem rest_nil {f : List Int} : ∀ {n : Nat} {b : Bool}, restT f b n = [] → ∀ i, i < n → f.getD i 0 = 0
  | 0, _, _, i, hi => by omega
  | n + 1, b, h, i, hi => by
    unfold restT at h
    split at h
    · rename_i h0
      by_cases e : i = n
      · rw [e]; exact h0
      · exact rest_nil h i (by omega)
    · exact absurd (List.append_eq_nil_iff.1 h).1 (piece_ne (term_piece _ _ _))
theorem rest_head {f : List Int} : ∀ {n : Nat} {b : Bool}, restT f b n ≠ [] → ∃ m, m < n ∧ f.getD m 0 ≠ 0 ∧ restT f b n = termT b (f.getD m 0) m ++ restT f false m ∧ ∀ i, m < i → i < n → f.getD i 0 = 0
  | 0, _, h => absurd rfl h
  | n + 1, b, h => by
    by_cases h0 : f.getD n 0 = 0
    · have e : restT f b (n + 1) = restT f b n := by rw [restT, if_pos h0]
      rw [e] at h ⊢
      obtain ⟨m, h1, h2, h3, h4⟩ := rest_head h
      refine ⟨m, by omega, h2, h3, fun i hi hn => ?_⟩
      by_cases e : i = n
      · rw [e]; exact h0
      · exact h4 i hi (by omega)
    · exact ⟨n, by omega, h0, by rw [restT, if_neg h0], fun i hi hn => by omega⟩
theorem rest_more {f : List Int} {b : Bool} {n : Nat} : ∀ k, (∀ i, n ≤ i → f.getD i 0 = 0) → restT f b (n + k) = restT f b n
  | 0, _ => rfl
  | k + 1, h => by
    show restT f b (n + k + 1) = _
    rw [restT, if_pos (h (n + k) (by omega))]
    exact rest_more k h
theorem rest_nine {f : List Int} {b : Bool} (h : f.length ≤ 9) : restT f b 9 = restT f b f.length := by
  have := rest_more (f := f) (b := b) (n := f.length) (9 - f.length) (fun i hi => getD_out hi)
  rwa [show f.length + (9 - f.length) = 9 by omega] at this
theorem rest_same {f g : List Int} (h : ∀ i, f.getD i 0 = g.getD i 0) : ∀ n b, restT f b n = restT g b n
  | 0, _ => rfl
  | n + 1, b => by unfold restT; rw [h n, rest_same h n, rest_same h n]
/-- pieces are told apart -/
theorem piece_unique {p q t r : List UInt8} (hp : PieceL p) (ht : PieceL t) (hq : TailL q) (hr : TailL r) (e : p ++ q = t ++ r) : p = t ∧ q = r := by
  obtain ⟨a, p, rfl, np⟩ := hp
  obtain ⟨b, t, rfl, nt⟩ := ht
  have e2 : a = b ∧ p ++ q = t ++ r := by simpa using e
  obtain ⟨rfl, e2⟩ := e2
  clear e
  have key : ∀ (p t : List UInt8), (∀ b ∈ p, sgB b = false) → (∀ b ∈ t, sgB b = false) → p ++ q = t ++ r → p = t ∧ q = r := by
    intro p
    induction p with
    | nil =>
      intro t _ nt e
      cases t with
      | nil => exact ⟨rfl, by simpa using e⟩
      | cons x t =>
        exfalso
        rcases hq with rfl | ⟨h, s, rfl, hs⟩
        · simp at e
        · have : h = x := by simp at e; exact e.1
          subst this
          rw [nt h (by simp)] at hs; cases hs
    | cons y p ih =>
      intro t np nt e
      cases t with
      | nil =>
        exfalso
        rcases hr with rfl | ⟨h, s, rfl, hs⟩
        · simp at e
        · have : y = h := by simp at e; exact e.1
          subst this
          rw [np y (by simp)] at hs; cases hs
      | cons x t =>
        have e3 : y = x ∧ p ++ q = t ++ r := by simpa using e
        obtain ⟨rfl, e3⟩ := e3
        obtain ⟨h1, h2⟩ := ih t (fun b hb => np b (List.mem_cons_of_mem _ hb)) (fun b hb => nt b (List.mem_cons_of_mem _ hb)) e3
        exact ⟨by rw [h1], h2⟩
  obtain ⟨h1, h2⟩ := key p t np nt e2
  exact ⟨by rw [h1], h2⟩
/-- the coefficients from n on -/
def highL (f : List Int) (n : Nat) : List Int := tabL 9 fun i => if n ≤ i then f.getD i 0 else 0
theorem high_length (f : List Int) (n : Nat) : (highL f n).length = 9 := tabL_length _ _
theorem high_nine {f : List Int} : highL f 9 = tabL 9 fun _ => 0 := tabL_ext fun i hi => by rw [if_neg (by omega)]
theorem high_zero (f : List Int) : highL f 0 = padL f := tabL_ext fun i hi => by rw [if_pos (by omega)]
theorem high_done {f : List Int} {n : Nat} (h : ∀ i, i < n → f.getD i 0 = 0) : highL f n = padL f := tabL_ext fun i hi => by
  by_cases e : n ≤ i
  · rw [if_pos e]
  · rw [if_neg e, h i (by omega)]
theorem high_set {f : List Int} {n m : Nat} (hm : m < 9) (hmn : m < n) (h : ∀ i, m < i → i < n → f.getD i 0 = 0) : (highL f n).set m (f.getD m 0) = highL f m := by
  unfold highL
  rw [tab_set _ hm]
  refine tabL_ext fun i hi => ?_
  by_cases e : i = m
  · subst e; rw [if_pos rfl, if_pos (Nat.le_refl _)]
  · rw [if_neg e]
    by_cases h1 : n ≤ i
    · rw [if_pos h1, if_pos (by omega)]
    · rw [if_neg h1]
      by_cases h2 : m ≤ i
      · rw [if_pos h2, h i (by omega) (by omega)]
      · rw [if_neg h2]
/-- what impl's reader makes of a piece: a number, its power, and whether it has an x -/
def rdX (num : List UInt8) (exp : List UInt8) : Option (Int × Int × Bool) :=
  match rdQ 94 (bsOf (num ++ exp)) with
  | none => none
  | some p => some (p.1, p.2, true)
def numX (l : List UInt8) : List UInt8 := if l = [] ∨ l = [43] ∨ l = [45] then l ++ [49] else l
def ftV (l : List UInt8) : Option (Int × Int × Bool) :=
  if (Lib.cut l [120]).2.2 = true then rdX (numX (Lib.cut l [120]).1) (Lib.cut l [120]).2.1 else
    match pI l with
    | none => none
    | some v => some (v, 0, false)
theorem pI_sgn {c : Int} (b : Bool) (h0 : -1000000 ≤ c) (h1 : c ≤ 1000000) : pI (sgnT b c ++ Lib.decDigits c.natAbs) = some c := by
  have hp := parseU_decV c.natAbs (by omega)
  unfold sgnT
  split
  · rename_i hc
    have hi : Lib.parseIntB 64 (45 :: Lib.decDigits c.natAbs) = .ok c := by
      unfold Lib.parseIntB
      simp only
      rw [if_pos (.inr (by decide)), hp]
      simp only
      rw [if_neg (by simp), if_neg (by simp; omega), if_pos (by decide)]
      congr 1
      omega
    show pI (45 :: Lib.decDigits c.natAbs) = _
    unfold pI
    rw [hi]
  · rename_i hc
    split
    · have := pI_itoaW c (by omega) (by omega)
      rw [itoa_nat (by omega), show c.toNat = c.natAbs by omega] at this
      exact this
    · have hi : Lib.parseIntB 64 (43 :: Lib.decDigits c.natAbs) = .ok c := by
        unfold Lib.parseIntB
        simp only
        rw [if_pos (.inl (by decide)), hp]
        simp only
        rw [if_neg (by simp; omega), if_neg (by simp), if_neg (by decide)]
        congr 1
        omega
      show pI (43 :: Lib.decDigits c.natAbs) = _
      unfold pI
      rw [hi]
theorem pI_dec {m : Nat} (h : m ≤ 1000000) : pI (Lib.decDigits m) = some (m : Int) := by
  have := pI_itoaW (m : Int) (by omega) (by omega)
  rwa [itoa_nat (by omega), show ((m : Int)).toNat = m by omega] at this
theorem sgn_no (b : Bool) (c : Int) {x : UInt8} (h1 : x ≠ 43) (h2 : x ≠ 45) : x ∉ sgnT b c := by
  unfold sgnT
  split
  · simpa using h2
  · split
    · simp
    · simpa using h1
theorem dec_no (k : Nat) {x : UInt8} (h : isDig x = false) : x ∉ Lib.decDigits k := dig_not (decDigits_val k).1 x h
theorem num_dec (b : Bool) (c : Int) : numX (sgnT b c ++ (if c.natAbs = 1 then [] else Lib.decDigits c.natAbs)) = sgnT b c ++ Lib.decDigits c.natAbs := by
  obtain ⟨d, r, hd, hdig⟩ := dec_head c.natAbs
  by_cases h1 : c.natAbs = 1
  · rw [if_pos h1, List.append_nil]
    unfold numX
    rw [if_pos, h1]
    · congr 1
      rw [Lib.decDigits]; rfl
    · unfold sgnT
      split
      · exact .inr (.inr rfl)
      · split
        · exact .inl rfl
        · exact .inr (.inl rfl)
  · rw [if_neg h1]
    unfold numX
    rw [if_neg]
    rw [hd]
    unfold sgnT
    split
    · rintro (h | h | h) <;> simp at h
    · split
      · rintro (h | h | h)
        · simp at h
        · have e : d = 43 := by simp at h; exact h.1
          rw [e] at hdig; cases hdig
        · have e : d = 45 := by simp at h; exact h.1
          rw [e] at hdig; cases hdig
      · rintro (h | h | h) <;> simp at h
theorem rdQ_num (b : Bool) {c : Int} {m : Nat} (h0 : -1000000 ≤ c) (h1 : c ≤ 1000000) (hm1 : 1 ≤ m) (hm : m ≤ 8) :
    rdQ 94 (bsOf (sgnT b c ++ Lib.decDigits c.natAbs ++ (if m = 1 then [] else 94 :: Lib.decDigits m))) = some (c, (m : Int)) := by
  have hno : (94 : UInt8) ∉ sgnT b c ++ Lib.decDigits c.natAbs := by
    intro h
    rcases List.mem_append.1 h with h | h
    · exact sgn_no b c (by decide) (by decide) h
    · exact dec_no _ (by decide) h
  unfold rdQ
  rw [show (bsOf (sgnT b c ++ Lib.decDigits c.natAbs ++ (if m = 1 then [] else 94 :: Lib.decDigits m))).data.toList = sgnT b c ++ Lib.decDigits c.natAbs ++ (if m = 1 then [] else 94 :: Lib.decDigits m) by simp [bsOf]]
  by_cases e : m = 1
  · rw [if_pos e, List.append_nil, cut_no_byte 94 _ hno]
    simp only [pI_sgn b h0 h1]
    simp [e]
  · rw [if_neg e, cut_byte 94 _ _ hno]
    simp only [pI_sgn b h0 h1, pI_dec (show m ≤ 1000000 by omega)]
    simp
theorem ft_canon (b : Bool) {c : Int} {m : Nat} (h0 : -1000000 ≤ c) (h1 : c ≤ 1000000) (hm : m ≤ 8) : ftV (termT b c m) = some (c, (m : Int), decide (1 ≤ m)) := by
  by_cases e : m = 0
  · subst e
    have hno : (120 : UInt8) ∉ sgnT b c ++ Lib.decDigits c.natAbs := by
      intro h
      rcases List.mem_append.1 h with h | h
      · exact sgn_no b c (by decide) (by decide) h
      · exact dec_no _ (by decide) h
    show ftV (sgnT b c ++ Lib.decDigits c.natAbs) = _
    unfold ftV
    rw [cut_no_byte 120 _ hno]
    simp [pI_sgn b h0 h1]
  · have hno : (120 : UInt8) ∉ sgnT b c ++ (if c.natAbs = 1 then [] else Lib.decDigits c.natAbs) := by
      intro h
      rcases List.mem_append.1 h with h | h
      · exact sgn_no b c (by decide) (by decide) h
      · split at h
        · cases h
        · exact dec_no _ (by decide) h
    have et : termT b c m = (sgnT b c ++ (if c.natAbs = 1 then [] else Lib.decDigits c.natAbs)) ++ 120 :: (if m = 1 then [] else 94 :: Lib.decDigits m) := by
      unfold termT bodyT
      rw [if_neg e, List.append_assoc]
    rw [et]
    unfold ftV
    rw [cut_byte 120 _ _ hno]
    rw [if_pos rfl]
    show rdX (numX _) _ = _
    rw [num_dec]
    unfold rdX
    rw [rdQ_num b h0 h1 (by omega) hm]
    simp [show 1 ≤ m by omega]
theorem ft_zero : ftV [48] = some (0, 0, false) := by
  have := ft_canon true (c := 0) (m := 0) (by omega) (by omega) (by omega)
  have e : termT true 0 0 = [48] := by
    show sgnT true 0 ++ Lib.decDigits 0 = _
    rw [Lib.decDigits]; rfl
  rwa [e] at this
end Go.Proofs.YtcennddgbpkclaaDoor
