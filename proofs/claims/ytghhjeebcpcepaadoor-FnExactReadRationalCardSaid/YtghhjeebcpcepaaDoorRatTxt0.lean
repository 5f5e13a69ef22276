/- Contracts and plain mathematics that chapter 5's texts lean on: numbers with a sign, written and read. -/
import Derived.Test.YtghhjeebcpcepaaDoorReadMath2
import Derived.Test.YtghhjeebcpcepaaDoorRatImpl2
import Derived.Deep.RegionWith
namespace Go.Proofs.YtghhjeebcpcepaaDoor
open Go.RowKit Go.Shelf
set_option linter.unusedVariables false
set_option linter.unusedSimpArgs false
theorem itoa_char {n : Int} {c : UInt8} (h : c ∈ Lib.itoa n) : isDig c = true ∨ c = 45 := by
  unfold Lib.itoa at h
  split at h
  · rcases List.mem_cons.1 h with rfl | h
    · exact .inr rfl
    · exact .inl (List.all_eq_true.1 (decDigits_val _).1 c h)
  · exact .inl (List.all_eq_true.1 (decDigits_val _).1 c h)
theorem itoa_no (n : Int) {b : UInt8} (h1 : isDig b = false) (h2 : b ≠ 45) : b ∉ Lib.itoa n := by
  intro h
  rcases itoa_char h with h | h
  · rw [h] at h1; cases h1
  · exact h2 h
theorem ret_str2 {a b : ByteArray} (h : a = b) : Ending.returned (.string a) = .returned (.string b) := by rw [h]
theorem itoa_neg {n : Int} (h : n < 0) : bsOf [45] ++ bsOf (Lib.itoa (-n)) = bsOf (Lib.itoa n) := by
  rw [bs_append]
  congr 1
  unfold Lib.itoa
  rw [if_pos h, if_neg (by omega), show (-n).toNat = n.natAbs by omega]
  rfl
theorem rdV_bd (s : ByteArray) : 0 ≤ rdV s ∧ rdV s ≤ 10000000000000 := by
  unfold rdV
  split
  · rename_i h
    have e : s.data.toList.take s.size = s.data.toList := List.take_of_length_le (by simp)
    have := dig_bd s s.size h.2.1 (by rw [e]; exact h.2.2)
    rw [e] at this; exact this
  · omega
def negS (s : ByteArray) : Bool := if h : 0 < s.size then s[0] == 45 else false
def sgV (s : ByteArray) : Int := if negS s then -(rdV (s.extract 1 s.size)) else rdV s
def sgOk (s : ByteArray) : Bool := if negS s then rdOk (s.extract 1 s.size) && decide (0 < rdV (s.extract 1 s.size)) else rdOk s
theorem l01Signed_any (s : ByteArray) (w : World) (hs : s.size ≤ 2000000) :
    Calls Tryd.prog 50 #[.string s] w fun e w' => e = .returned (.tuple #[.int .i64 (sgV s), .bool (sgOk s)]) ∧ Below w.heap.size w w' := by
  by_cases h0 : 0 < s.size
  · by_cases h1 : s[0] = 45
    · have e1 : negS s = true := by simp [negS, h0, h1]
      have hV : sgV s = -(rdV (s.extract 1 s.size)) := by simp [sgV, e1]
      have hO : sgOk s = (rdOk (s.extract 1 s.size) && decide (0 < rdV (s.extract 1 s.size))) := by simp [sgOk, e1]
      rw [hV, hO]
      have hb := rdV_bd (s.extract 1 s.size)
      have HV := Lib.hid fun w => l01Value_any (s.extract 1 s.size) w (by rw [ByteArray.size_extract]; omega)
      have h1' : ((s[0].toNat : Int) == 45) = true := u8_eq (b := 45) h1
      clear hV hO e1 h1
      generalize rdV (s.extract 1 s.size) = x at *
      generalize rdOk (s.extract 1 s.size) = b at *
      obtain ⟨hx0, hx1⟩ := hb
      have hw : IntKind.i64.wrap (-x) = -x := IntWalk.i64_in _ (by omega)
      cases b
      · go_enter Tryd.func50, Tryd.ntmps50
        go_wp2_with (go_at_call 43; refine (HV.out _).mono ?_; rintro e wn ⟨rfl, hb⟩)
        go_ret2
        exact ⟨rfl, hb⟩
      · by_cases hx : 0 < x
        · go_enter Tryd.func50, Tryd.ntmps50
          go_wp2_with (go_at_call 43; refine (HV.out _).mono ?_; rintro e wn ⟨rfl, hb⟩)
          go_ret2
          exact ⟨by simp [hx], hb⟩
        · go_enter Tryd.func50, Tryd.ntmps50
          go_wp2_with (go_at_call 43; refine (HV.out _).mono ?_; rintro e wn ⟨rfl, hb⟩)
          go_ret2
          exact ⟨by simp [hx], hb⟩
    · have e1 : negS s = false := by simp [negS, h0, h1]
      have hV : sgV s = rdV s := by simp [sgV, e1]
      have hO : sgOk s = rdOk s := by simp [sgOk, e1]
      rw [hV, hO]
      have HV := Lib.hid fun w => l01Value_any s w (by omega)
      have h1' : ((s[0].toNat : Int) == 45) = false := u8_ne (b := 45) h1
      clear hV hO e1 h1
      generalize rdV s = x at *
      generalize rdOk s = b at *
      go_enter Tryd.func50, Tryd.ntmps50
      go_wp2_with (go_at_call 43; refine (HV.out _).mono ?_; rintro e wn ⟨rfl, hb⟩)
      go_ret2
      exact ⟨rfl, hb⟩
  · have e1 : negS s = false := by simp [negS, h0]
    have hV : sgV s = rdV s := by simp [sgV, e1]
    have hO : sgOk s = rdOk s := by simp [sgOk, e1]
    rw [hV, hO]
    have HV := Lib.hid fun w => l01Value_any s w (by omega)
    have h0' : (s.size : Int) = 0 := by omega
    clear hV hO e1
    generalize rdV s = x at *
    generalize rdOk s = b at *
    go_enter Tryd.func50, Tryd.ntmps50
    go_wp2_with (go_at_call 43; refine (HV.out _).mono ?_; rintro e wn ⟨rfl, hb⟩)
    go_ret2
    exact ⟨rfl, hb⟩
theorem neg_dig {l : List UInt8} (h : l.all isDig = true) : negS (bsOf l) = false := by
  unfold negS
  split
  · rename_i h0
    rw [List.all_eq_true] at h
    have hm : (bsOf l).data[0] ∈ (bsOf l).data.toList := by simp
    have e : (bsOf l).data.toList = l := by simp [bsOf]
    rw [e] at hm
    have := h _ hm
    change isDig (bsOf l)[0] = true at this
    cases hb : (bsOf l)[0] == 45
    · rfl
    · have e : (bsOf l)[0] = 45 := by simpa using hb
      rw [e] at this; cases this
  · rfl
theorem sg_nat {n : Int} (h0 : 0 ≤ n) (h1 : n < 10000000000000) : sgV (bsOf (Lib.itoa n)) = n ∧ sgOk (bsOf (Lib.itoa n)) = true := by
  obtain ⟨d1, d2⟩ := decDigits_val n.toNat
  have hl := decDigits_len 12 n.toNat (by omega)
  have hp : 1 ≤ (Lib.decDigits n.toNat).length := by rw [Lib.decDigits]; split <;> simp
  have hn : negS (bsOf (Lib.itoa n)) = false := by rw [itoa_nat h0]; exact neg_dig d1
  unfold sgV sgOk
  rw [hn]
  refine ⟨rdV_itoa h0 h1, ?_⟩
  show rdOk (bsOf (Lib.itoa n)) = true
  rw [itoa_nat h0, (rd_good (s := bsOf (Lib.decDigits n.toNat)) (by rw [bs_size]; exact hp) (by rw [bs_size]; exact hl) d1).2]
  refine decide_eq_true ?_
  rw [show valL (bsOf (Lib.decDigits n.toNat)).data.toList = n by
    show valL (Lib.decDigits n.toNat) = n
    rw [d2]; omega, itoa_nat h0]
theorem itoa_lenV {n : Int} (h0 : -1000000000000 ≤ n) (h1 : n ≤ 1000000000000) : (Lib.itoa n).length ≤ 20 := by
  unfold Lib.itoa
  split
  · have := decDigits_len 12 n.natAbs (by omega)
    simp; omega
  · have := decDigits_len 12 n.toNat (by omega)
    omega
theorem parseU_decV (k : Nat) (h : k ≤ 1000000000000) : Lib.parseUintB 64 (Lib.decDigits k) = .ok k := by
  obtain ⟨d1, d2⟩ := decDigits_val k
  have hl := decDigits_len 12 k (by omega)
  obtain ⟨l, hL⟩ : ∃ l, Lib.decDigits k = l := ⟨_, rfl⟩
  have hne : l ≠ [] := by rw [← hL, Lib.decDigits]; split <;> simp
  rw [hL] at d1 d2 hl ⊢
  have hpow : (0 + 1) * 10 ^ l.length ≤ 1000000000000000000 := by
    rw [Nat.zero_add, Nat.one_mul]
    exact Nat.le_trans (Nat.pow_le_pow_right (by decide) hl) (by decide)
  obtain ⟨u, e1, e2, e3⟩ := uintM_dig (2 ^ 64 - 1) (by decide) l 0 d1 hpow
  have hu : (u : Int) = k := by rw [e2]; exact d2
  have : u = k := by omega
  subst this
  unfold Lib.parseUintB
  rw [if_neg hne]
  exact e1
theorem dec_head (k : Nat) : ∃ c r, Lib.decDigits k = c :: r ∧ isDig c = true := by
  obtain ⟨d1, _⟩ := decDigits_val k
  obtain ⟨l, hL⟩ : ∃ l, Lib.decDigits k = l := ⟨_, rfl⟩
  have hne : l ≠ [] := by rw [← hL, Lib.decDigits]; split <;> simp
  rw [hL] at d1 ⊢
  cases l with
  | nil => exact absurd rfl hne
  | cons c r =>
    rw [List.all_cons, Bool.and_eq_true] at d1
    exact ⟨c, r, rfl, d1.1⟩
theorem pI_itoaW (n : Int) (h0 : 0 ≤ n) (h1 : n ≤ 1000000000000) : pI (Lib.itoa n) = some n := by
  obtain ⟨d1, d2⟩ := decDigits_val n.toNat
  have hl := decDigits_len 12 n.toNat (by omega)
  rw [itoa_nat h0]
  obtain ⟨l, hL⟩ : ∃ l, Lib.decDigits n.toNat = l := ⟨_, rfl⟩
  have hne : l ≠ [] := by rw [← hL, Lib.decDigits]; split <;> simp
  rw [hL] at d1 d2 hl ⊢
  match l, hne with
  | c :: r, _ =>
    have hc := d1
    rw [List.all_cons, Bool.and_eq_true] at hc
    have hc2 := hc.1
    simp only [isDig, decide_eq_true_eq] at hc2
    have hpow : (0 + 1) * 10 ^ (c :: r).length ≤ 1000000000000000000 := by
      rw [Nat.zero_add, Nat.one_mul]
      exact Nat.le_trans (Nat.pow_le_pow_right (by decide) hl) (by decide)
    obtain ⟨u, e1, e2, e3⟩ := uintM_dig (2 ^ 64 - 1) (by decide) (c :: r) 0 d1 hpow
    have hu : (u : Int) = n := by rw [e2]; show valL (c :: r) = n; rw [d2]; omega
    have hpu : Lib.parseUintB 64 (c :: r) = .ok u := by unfold Lib.parseUintB; rw [if_neg (by simp)]; exact e1
    have hpi : Lib.parseIntB 64 (c :: r) = .ok n := by
      unfold Lib.parseIntB
      simp only
      rw [if_neg (by omega), hpu]
      simp only
      rw [if_neg (by omega), if_neg (by omega), if_neg (by omega), hu]
    unfold pI
    rw [hpi]
theorem pI_itoaV {n : Int} (h0 : -1000000000000 ≤ n) (h1 : n ≤ 1000000000000) : pI (Lib.itoa n) = some n := by
  by_cases hn : 0 ≤ n
  · exact pI_itoaW n hn h1
  · have e : Lib.itoa n = 45 :: Lib.decDigits n.natAbs := by unfold Lib.itoa; rw [if_pos (by omega)]
    have hp := parseU_decV n.natAbs (by omega)
    have hi : Lib.parseIntB 64 (45 :: Lib.decDigits n.natAbs) = .ok n := by
      unfold Lib.parseIntB
      simp only
      rw [if_pos (.inr (by decide)), hp]
      simp only
      rw [if_neg (by simp), if_neg (by simp; omega), if_pos (by decide)]
      congr 1
      omega
    rw [e]
    unfold pI
    rw [hi]
theorem sg_itoaV {n : Int} (h0 : -1000000000000 ≤ n) (h1 : n ≤ 1000000000000) : sgV (bsOf (Lib.itoa n)) = n := by
  by_cases hn : 0 ≤ n
  · exact (sg_nat hn (by omega)).1
  · have e : Lib.itoa n = 45 :: Lib.itoa (-n) := by
      unfold Lib.itoa; rw [if_pos (by omega), if_neg (by omega), show (-n).toNat = n.natAbs by omega]
    have hx : (bsOf (Lib.itoa n)).extract 1 (bsOf (Lib.itoa n)).size = bsOf (Lib.itoa (-n)) := by
      rw [e]; apply ByteArray.ext; simp [bsOf, ByteArray.size]
    have hs : negS (bsOf (Lib.itoa n)) = true := by
      rw [e]; unfold negS; rw [dif_pos (by rw [bs_size]; simp)]; rfl
    unfold sgV
    rw [hs, if_pos rfl, hx, rdV_itoa (by omega) (by omega)]
    omega
/-- its text -/
def ratL (n d : Int) : List UInt8 := if d = 1 then Lib.itoa n else Lib.itoa n ++ 47 :: Lib.itoa d
def IsRText (s : ByteArray) (q : Int × Int) : Prop := isRatB q.1 q.2 = true ∧ bsOf (ratL q.1 q.2) = s
/-- what is read off a text by cutting at the slash -/
theorem rat_split {n d : Int} : splitL (bsOf (ratL n d)) 47 = if d = 1 then [bsOf (Lib.itoa n)] else [bsOf (Lib.itoa n), bsOf (Lib.itoa d)] := by
  rw [splitL_eq]
  show (spL 47 (ratL n d)).map bsOf = _
  unfold ratL
  split
  · rw [spL_one 47 _ (itoa_no n (by decide) (by decide))]; rfl
  · rw [spL_more 47 _ _ (itoa_no n (by decide) (by decide)), spL_one 47 _ (itoa_no d (by decide) (by decide))]; rfl
theorem rat_cut {n d : Int} : Lib.cut (ratL n d) [47] = if d = 1 then (Lib.itoa n, [], false) else (Lib.itoa n, Lib.itoa d, true) := by
  unfold ratL
  split
  · exact cut_no_byte 47 _ (itoa_no n (by decide) (by decide))
  · exact cut_byte 47 _ _ (itoa_no n (by decide) (by decide))
/-- what spec reads: the numerator, and the denominator or 1 -/
def spN (s : ByteArray) : Int := sgV ((splitL s 47).getD 0 ⟨#[]⟩)
def spD (s : ByteArray) : Int := if 1 < (splitL s 47).length then rdV ((splitL s 47).getD 1 ⟨#[]⟩) else 1
theorem rspec_reads {s : ByteArray} {q : Int × Int} (h : IsRText s q) : spN s = q.1 ∧ spD s = q.2 := by
  obtain ⟨hk, rfl⟩ := h
  obtain ⟨n0, n1, d0, d1, g⟩ := isRat_of hk
  unfold spN spD
  rw [rat_split]
  by_cases h1 : q.2 = 1
  · rw [if_pos h1]
    exact ⟨sg_itoaV n0 n1, h1.symm⟩
  · rw [if_neg h1]
    exact ⟨sg_itoaV n0 n1, rdV_itoa (by omega) (by omega)⟩
theorem rtext_inj {s : ByteArray} {q q' : Int × Int} (h : IsRText s q) (h' : IsRText s q') : q = q' := by
  obtain ⟨a1, a2⟩ := rspec_reads h
  obtain ⟨b1, b2⟩ := rspec_reads h'
  exact Prod.ext (a1.symm.trans b1) (a2.symm.trans b2)
/-- the answer of both ReadRational, and that two such answers agree -/
def RReadPost (s : ByteArray) (w : World) (e : Ending) (w' : World) : Prop :=
  ∃ (q : Int × Int) (c : Int), e = .returned (.tuple #[.agg #[.int .i64 q.1, .int .i64 q.2], .int .i64 c]) ∧ Below w.heap.size w w' ∧ ((c = 0 ∧ IsRText s q) ∨ (c = 6 ∧ q = (0, 0) ∧ ¬ ∃ q, IsRText s q))
theorem rread_agree {s : ByteArray} {q q' : Int × Int} {c c' : Int} (h : (c = 0 ∧ IsRText s q) ∨ (c = 6 ∧ q = (0, 0) ∧ ¬ ∃ q, IsRText s q)) (h' : (c' = 0 ∧ IsRText s q') ∨ (c' = 6 ∧ q' = (0, 0) ∧ ¬ ∃ q, IsRText s q)) : q = q' ∧ c = c' := by
  rcases h with ⟨rfl, h1⟩ | ⟨rfl, rfl, h1⟩
  · rcases h' with ⟨rfl, h2⟩ | ⟨rfl, rfl, h2⟩
    · exact ⟨rtext_inj h1 h2, rfl⟩
    · exact absurd ⟨q, h1⟩ h2
  · rcases h' with ⟨rfl, h2⟩ | ⟨rfl, rfl, h2⟩
    · exact absurd ⟨q', h2⟩ h1
    · exact ⟨rfl, rfl⟩
theorem decV_any (n : Int) (w : World) (h0 : 0 ≤ n) (h1 : n ≤ 1000000000000) : Calls Tryd.prog 60 #[.int .i64 n] w fun e w' => e = .returned (.string (bsOf (Lib.itoa n))) ∧ Below w.heap.size w w' :=
  dec_any (n.toNat + 1) n w h0 (by omega) (by omega)
theorem numberV_any (n : Int) (w : World) (h0 : -1000000000000 ≤ n) (h1 : n ≤ 1000000000000) :
    Calls Tryd.prog 68 #[.int .i64 n] w fun e w' => e = .returned (.string (bsOf (Lib.itoa n))) ∧ Below w.heap.size w w' := by
  by_cases hn : n < 0
  · have hl := itoa_lenV (n := -n) (by omega) (by omega)
    have hadd : ∀ wx, (Op.stringOp .add ⟨#[45]⟩ (bsOf (Lib.itoa (-n)))).run Tryd.prog wx = .ok (.string (bsOf (Lib.itoa n))) wx := fun wx => by
      rw [← itoa_neg hn]
      exact add_any ⟨#[45]⟩ _ (by rw [bs_size]; show 1 + _ ≤ _; omega) wx
    have hw : IntKind.i64.wrap (-n) = -n := IntWalk.i64_in _ (by omega)
    have HD := Lib.hid fun w => decV_any (-n) w (by omega) (by omega)
    clear hl
    go_enter Tryd.func68, Tryd.ntmps68
    go_wp2_with (go_at_call 60; refine (HD.out _).mono ?_; rintro e wn ⟨rfl, hb⟩)
    go_ret
    exact ⟨rfl, hb⟩
  · have HD := Lib.hid fun w => decV_any n w (by omega) h1
    go_enter Tryd.func68, Tryd.ntmps68
    go_wp2_with (go_at_call 60; refine (HD.out _).mono ?_; rintro e wn ⟨rfl, hb⟩)
    go_ret
    exact ⟨rfl, hb⟩
theorem rat_sum {n d : Int} (h : d ≠ 1) : bsOf (Lib.itoa n) ++ ⟨#[47]⟩ ++ bsOf (Lib.itoa d) = bsOf (ratL n d) := by
  show bsOf (Lib.itoa n) ++ bsOf [47] ++ bsOf (Lib.itoa d) = _
  rw [bs_append, bs_append]
  unfold ratL; rw [if_neg h]; simp
theorem rat_pair (n d : Int) : pairT 47 n d = ratL n d := rfl
theorem rat_sizes {n d : Int} (h : isRatB n d = true) : (bsOf (Lib.itoa n)).size ≤ 20 ∧ (bsOf (Lib.itoa d)).size ≤ 20 := by
  obtain ⟨n0, n1, d0, d1, _⟩ := isRat_of h
  rw [bs_size, bs_size]
  exact ⟨itoa_lenV n0 n1, itoa_lenV (by omega) d1⟩
set_option maxHeartbeats 400000 in
theorem specRText_val (n d : Int) (w : World) (h : isRatB n d = true) :
    Calls Tryd.prog 48 #[.agg (P2 n d)] w fun e w' => e = .returned (.string (bsOf (ratL n d))) ∧ Below w.heap.size w w' := by
  obtain ⟨n0, n1, d0, d1, _⟩ := isRat_of h
  obtain ⟨s1, s2⟩ := rat_sizes h
  have F2 := Lib.hid fun (w : World) => numberV_any n w n0 n1
  have F1 := Lib.hid fun (w : World) => decV_any d w (by omega) d1
  have K := k1_new w (P2 n d) 33
  obtain ⟨c0, c1⟩ := lies_pair K.2
  by_cases h1 : d = 1
  · have HE := Lib.hid (show bsOf (Lib.itoa n) = bsOf (ratL n d) by unfold ratL; rw [if_pos h1])
    have hz : (d == 1) = true := by simp [h1]
    clear h1
    go_enter Tryd.func48, Tryd.ntmps48
    go_wp2_with (go_at_call 68; refine (F2.out _).mono ?_; rintro e wn ⟨rfl, hb⟩; have K := k1_next K hb)
    go_ret
    exact ⟨ret_str2 HE.out, K.1⟩
  · have HE := Lib.hid (rat_sum (n := n) h1)
    have hz : (d == 1) = false := by simpa using h1
    have sm : (⟨#[47]⟩ : ByteArray).size = 1 := rfl
    have a1 := add_any (bsOf (Lib.itoa n)) ⟨#[47]⟩ (by omega)
    have a2 := add_any (bsOf (Lib.itoa n) ++ ⟨#[47]⟩) (bsOf (Lib.itoa d)) (by
      have : (bsOf (Lib.itoa n) ++ ⟨#[47]⟩).size = (bsOf (Lib.itoa n)).size + 1 := by rw [ByteArray.size_append, sm]
      omega)
    clear h1 sm s1 s2 h
    generalize bsOf (Lib.itoa n) = sn at *
    generalize bsOf (Lib.itoa d) = sd at *
    go_enter Tryd.func48, Tryd.ntmps48
    go_wp2_with fail
    have K := k1_drew K
    obtain ⟨c0, c1⟩ := lies_pair K.2
    go_region_with (first
      | (go_at_call 60; refine (F1.out _).mono ?_; rintro e wn ⟨rfl, hb⟩; have K := k1_next K hb; obtain ⟨c0, c1⟩ := lies_pair K.2)
      | (go_at_call 68; refine (F2.out _).mono ?_; rintro e wn ⟨rfl, hb⟩; have K := k1_next K hb; obtain ⟨c0, c1⟩ := lies_pair K.2))
    all_goals go_wp2
    all_goals go_ret
    all_goals exact ⟨ret_str2 HE.out, K.1⟩
theorem implRText_val (n d : Int) (w : World) (h : isRatB n d = true) (ht : Tab w) :
    Calls Tryd.prog 46 #[.agg (P2 n d)] w fun e w' => e = .returned (.string (bsOf (ratL n d))) ∧ Below w.heap.size w w' := by
  obtain ⟨n0, n1, d0, d1, _⟩ := isRat_of h
  obtain ⟨s1, s2⟩ := rat_sizes h
  have K := k1_new w (P2 n d) 33
  have F := Lib.hid (pairText_any 47 n d (w.alloc (.cells (P2 n d) 33)) (tab_below ht K.1 (Nat.le_refl _)) n0 n1 (by omega) d1 (by omega) (by omega))
  clear h ht s1 s2
  go_enter Tryd.func46, Tryd.ntmps46
  go_wp2_with (go_at_call 35; refine F.out.mono ?_; rintro e wn ⟨rfl, hb⟩; have K := k1_next K hb)
  go_ret
  exact ⟨ret_str2 rfl, K.1⟩
/-- what both RationalText answer -/
def rtL (n d : Int) : List UInt8 := if isRatB n d then ratL n d else []
def rtC (n d : Int) : Int := if isRatB n d then 0 else 1
theorem specRText_any (n d : Int) (w : World) :
    Calls Tryd.prog 19 #[.agg (P2 n d)] w fun e w' => e = .returned (.tuple #[.string (bsOf (rtL n d)), .int .i64 (rtC n d)]) ∧ Below w.heap.size w w' := by
  cases hx : isRatB n d
  · rw [show rtL n d = [] by simp [rtL, hx], show rtC n d = 1 by simp [rtC, hx]]
    go_enter Tryd.func19, Tryd.ntmps19
    go_wp2_with (go_at_call 47; refine (specIsRational_any _ _ _).mono ?_; rw [hx]; rintro e wn ⟨rfl, hb⟩; have K := k1_first hb)
    go_ret2
    exact ⟨rfl, K.1⟩
  · rw [show rtL n d = ratL n d by simp [rtL, hx], show rtC n d = 0 by simp [rtC, hx]]
    have HT := Lib.hid fun w => specRText_val n d w hx
    go_enter Tryd.func19, Tryd.ntmps19
    go_wp2_with (first
      | (go_at_call 47; refine (specIsRational_any _ _ _).mono ?_; rw [hx]; rintro e wn ⟨rfl, hb⟩; have K := k1_first hb; obtain ⟨c0, c1⟩ := lies_pair K.2)
      | (go_at_call 48; refine (HT.out _).mono ?_; rintro e wn ⟨rfl, hb⟩; have K := k1_next K hb; obtain ⟨c0, c1⟩ := lies_pair K.2))
    go_ret2
    exact ⟨rfl, K.1⟩
theorem implRText_any (n d : Int) (w : World) (ht : Tab w) :
    Calls Tryd.prog 18 #[.agg (P2 n d)] w fun e w' => e = .returned (.tuple #[.string (bsOf (rtL n d)), .int .i64 (rtC n d)]) ∧ Below w.heap.size w w' := by
  cases hx : isRatB n d
  · rw [show rtL n d = [] by simp [rtL, hx], show rtC n d = 1 by simp [rtC, hx]]
    clear ht
    go_enter Tryd.func18, Tryd.ntmps18
    go_wp2_with (go_at_call 45; refine (ratValid_any _ _ _).mono ?_; rw [hx]; rintro e wn ⟨rfl, hb⟩; have K := k1_first hb)
    go_ret2
    exact ⟨rfl, K.1⟩
  · rw [show rtL n d = ratL n d by simp [rtL, hx], show rtC n d = 0 by simp [rtC, hx]]
    have HT := Lib.hid fun (w : World) (h : Tab w) => implRText_val n d w hx h
    have HTab := Lib.hid ht
    clear ht
    go_enter Tryd.func18, Tryd.ntmps18
    go_wp2_with (first
      | (go_at_call 45; refine (ratValid_any _ _ _).mono ?_; rw [hx]; rintro e wn ⟨rfl, hb⟩; have K := k1_first hb; have T := tab_below HTab.out K.1 (Nat.le_refl _); obtain ⟨c0, c1⟩ := lies_pair K.2)
      | (go_at_call 46; refine (HT.out _ T).mono ?_; rintro e wn ⟨rfl, hb⟩; have K := k1_next K hb; obtain ⟨c0, c1⟩ := lies_pair K.2))
    go_ret2
    exact ⟨rfl, K.1⟩
theorem toRationalT_any (n d : Int) (w : World) :
    Calls Tryd.prog 28 #[.agg (P2 n d)] w fun e w' => e = .returned (.agg (P2 n d)) ∧ Below w.heap.size w w' := by
  go_enter Tryd.func28, Tryd.ntmps28
  go_wp2
  refine bodyPost_ret (v := .agg (P2 n d)) (by simp [results, Tryd.results28, go_sem]) rfl ?_
  exact ⟨rfl, below_a3 w _ _ _⟩
theorem exactRText_walk (n d : Int) (w : World) (ht : Tab w) :
    Calls Tryd.prog 7 #[.agg (P2 n d)] w fun e w' => e = .returned (.bool true) ∧ Below w.heap.size w w' := by
  have HT := Lib.hid ht
  have HI := Lib.hid fun (w : World) (h : Tab w) => implRText_any n d w h
  have HS := Lib.hid fun (w : World) => specRText_any n d w
  generalize bsOf (rtL n d) = t at *
  generalize rtC n d = c at *
  clear ht
  go_enter Tryd.func7, Tryd.ntmps7
  go_wp2_with (first
    | (go_at_call 28; refine (toRationalT_any _ _ _).mono ?_; rintro e wn ⟨rfl, hb⟩; (first | have K := k1_first hb | have K := k1_next K hb); have T := tab_below HT.out K.1 (Nat.le_refl _); obtain ⟨c0, c1⟩ := lies_pair K.2)
    | (go_at_call 19; refine (HS.out _).mono ?_; rintro e wn ⟨rfl, hb⟩; have K := k1_next K hb; obtain ⟨c0, c1⟩ := lies_pair K.2)
    | (go_at_call 18; refine (HI.out _ T).mono ?_; rintro e wn ⟨rfl, hb⟩; have K := k1_next K hb; obtain ⟨c0, c1⟩ := lies_pair K.2))
  go_ret
  exact ⟨rfl, K.1⟩
end Go.Proofs.YtghhjeebcpcepaaDoor
