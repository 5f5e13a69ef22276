/- Contract of the walk: spec.l01Value answers the number that a string writes, and whether it is written as l01Dec does. -/
import Derived.Test.YtcennddgbpkclaaDoorDec
namespace Go.Proofs.YtcennddgbpkclaaDoor
open Go.RowKit
set_option linter.unusedVariables false
def isDig (c : UInt8) : Bool := decide (48 ≤ (c.toNat : Int) ∧ (c.toNat : Int) ≤ 57)
def valL (l : List UInt8) : Int := l.foldl (fun n c => 10 * n + ((c.toNat : Int) - 48)) 0
theorem valL_snoc (l : List UInt8) (c : UInt8) : valL (l ++ [c]) = 10 * valL l + ((c.toNat : Int) - 48) := by simp [valL]
theorem fold_bd : ∀ (l : List UInt8) (n : Int), 0 ≤ n → l.all isDig = true → 0 ≤ l.foldl (fun n c => 10 * n + ((c.toNat : Int) - 48)) n ∧ l.foldl (fun n c => 10 * n + ((c.toNat : Int) - 48)) n < (n + 1) * 10 ^ l.length
  | [], n, h0, _ => by simp; omega
  | c :: r, n, h0, h => by
    rw [List.all_cons, Bool.and_eq_true] at h
    obtain ⟨hc, hr⟩ := h
    simp only [isDig, decide_eq_true_eq] at hc
    have ih := fold_bd r (10 * n + ((c.toNat : Int) - 48)) (by omega) hr
    refine ⟨ih.1, Int.lt_of_lt_of_le ih.2 ?_⟩
    rw [List.length_cons, Int.pow_succ, Int.mul_comm ((10 : Int) ^ r.length) 10, ← Int.mul_assoc]
    exact Int.mul_le_mul_of_nonneg_right (by omega) (Int.le_of_lt (Int.pow_pos (by decide)))
theorem valL_bd (l : List UInt8) (h : l.all isDig = true) : 0 ≤ valL l ∧ valL l < 10 ^ l.length := by
  have := fold_bd l 0 (Int.le_refl _) h
  unfold valL; simpa using this
theorem takeS (s : ByteArray) (k : Nat) (h : k < s.size) : s.data.toList.take (k + 1) = s.data.toList.take k ++ [s[k]] := by
  rw [List.take_succ_eq_append_getElem (by simpa using h)]; rfl
theorem dig_bd (s : ByteArray) (k : Nat) (hk : k ≤ 13) (h : (s.data.toList.take k).all isDig = true) : 0 ≤ valL (s.data.toList.take k) ∧ valL (s.data.toList.take k) ≤ 10000000000000 := by
  have hb := valL_bd _ h
  have hl : (s.data.toList.take k).length ≤ 13 := Nat.le_trans (List.length_take_le _ _) hk
  have hp : (10 : Int) ^ (s.data.toList.take k).length ≤ 10 ^ 13 := by
    have h2 : (10 : Nat) ^ (s.data.toList.take k).length ≤ 10 ^ 13 := Nat.pow_le_pow_right (by decide) hl
    exact_mod_cast h2
  omega
theorem bs_beq (a b : ByteArray) : (a.toList == b.toList) = decide (a = b) := by
  rw [ByteArray.toList_eq, ByteArray.toList_eq]
  by_cases h : a = b
  · simp [h]
  · have : ¬ a.data = b.data := fun e => h (by cases a; cases b; simp at e; rw [e])
    simp [h, this]
/-- the value and whether the text is the number's own -/
def rdV (s : ByteArray) : Int := if 1 ≤ s.size ∧ s.size ≤ 13 ∧ s.data.toList.all isDig = true then valL s.data.toList else 0
def rdOk (s : ByteArray) : Bool := if 1 ≤ s.size ∧ s.size ≤ 13 ∧ s.data.toList.all isDig = true then decide (bsOf (Lib.itoa (valL s.data.toList)) = s) else false
theorem rd_len {s : ByteArray} (h : s.size < 1 ∨ 13 < s.size) : rdV s = 0 ∧ rdOk s = false := by
  unfold rdV rdOk
  rw [if_neg (by omega), if_neg (by omega)]; exact ⟨rfl, rfl⟩
theorem rd_bad {s : ByteArray} {k : Nat} (hk : k < s.size) (h : isDig s[k] = false) : rdV s = 0 ∧ rdOk s = false := by
  have hn : ¬ (s.data.toList.all isDig = true) := by
    intro ha
    rw [List.all_eq_true] at ha
    have := ha s[k] (by show s.data[k] ∈ s.data.toList; simp)
    rw [h] at this; cases this
  unfold rdV rdOk
  rw [if_neg (fun x => hn x.2.2), if_neg (fun x => hn x.2.2)]; exact ⟨rfl, rfl⟩
theorem rd_good {s : ByteArray} (h1 : 1 ≤ s.size) (h2 : s.size ≤ 13) (h : s.data.toList.all isDig = true) : rdV s = valL s.data.toList ∧ rdOk s = decide (bsOf (Lib.itoa (valL s.data.toList)) = s) := by
  unfold rdV rdOk
  rw [if_pos ⟨h1, h2, h⟩, if_pos ⟨h1, h2, h⟩]; exact ⟨rfl, rfl⟩
theorem ret_intbool {k : IntKind} {a b : Int} {c d : Bool} (h : a = b) (h' : c = d) : Ending.returned (.tuple #[.int k a, .bool c]) = .returned (.tuple #[.int k b, .bool d]) := by rw [h, h']
theorem value_len (s : ByteArray) (w : World) (hs : s.size ≤ 9223372036854775807) (h : s.size < 1 ∨ 13 < s.size) :
    Calls Tryd.prog 47 #[.string s] w fun e w' => e = .returned (.tuple #[.int .i64 (rdV s), .bool (rdOk s)]) ∧ Below w.heap.size w w' := by
  have HE := Lib.hid (rd_len h)
  rcases h with h | h
  · have h' : (s.size : Int) < 1 := by omega
    go_enter Tryd.func47, Tryd.ntmps47
    go_wp2
    go_ret2
    exact ⟨ret_intbool HE.out.1.symm HE.out.2.symm, Below.refl _ _⟩
  · have h' : (13 : Int) < (s.size : Int) := by omega
    have h1 : ¬ (s.size : Int) < 1 := by omega
    have h2 : ¬ s.size < 1 := by omega
    go_enter Tryd.func47, Tryd.ntmps47
    go_wp2
    go_ret2
    exact ⟨ret_intbool HE.out.1.symm HE.out.2.symm, Below.refl _ _⟩
set_option maxRecDepth 20000 in
set_option maxHeartbeats 1600000 in
theorem l01Value_any (s : ByteArray) (w : World) (hs : s.size ≤ 9223372036854775807) :
    Calls Tryd.prog 47 #[.string s] w fun e w' => e = .returned (.tuple #[.int .i64 (rdV s), .bool (rdOk s)]) ∧ Below w.heap.size w w' := by
  by_cases hl : s.size < 1 ∨ 13 < s.size
  · exact value_len s w hs hl
  have h1 : 1 ≤ s.size := by omega
  have h2 : s.size ≤ 13 := by omega
  have H1 := Lib.hid h1
  clear hl hs
  go_enter Tryd.func47, Tryd.ntmps47
  go_wp2
  go_loop [4, 5] (fun n i => ∃ (k : Nat) (x : Int), k ≤ s.size ∧ i = .int .i64 k ∧ n = .int .i64 x ∧ x = valL (s.data.toList.take k) ∧ (s.data.toList.take k).all isDig = true) (fun _ i => s.size - (intOf i).toNat)
  case atStart => exact ⟨0, 0, Nat.zero_le _, rfl, rfl, rfl, rfl⟩
  case round =>
    obtain ⟨k, x, hk, rfl, rfl, hx, hall⟩ := hrel
    have hb := dig_bd s k (by omega) hall
    rw [← hx] at hb
    obtain ⟨hb0, hb1⟩ := hb
    have HX := Lib.hid hx
    have HA := Lib.hid hall
    clear hx hall
    by_cases hlt : k < s.size
    · obtain ⟨c, hc⟩ : ∃ c, s[k] = c := ⟨_, rfl⟩
      have hts := takeS s k hlt
      rw [hc] at hts
      have HT := Lib.hid hts
      by_cases hd : isDig c = true
      · have hd' := hd
        simp only [isDig, decide_eq_true_eq] at hd'
        obtain ⟨d0, d1⟩ := hd'
        have HD := Lib.hid hd
        clear hd hts
        have w1 : IntKind.u8.wrap ((c.toNat : Int) - 48) = (c.toNat : Int) - 48 := IntWalk.u8_in _ (by omega)
        have HS : Hid (10 * x + ((c.toNat : Int) - 48) = valL (s.data.toList.take (k + 1)) ∧ (s.data.toList.take (k + 1)).all isDig = true) := by
          show 10 * x + ((c.toNat : Int) - 48) = valL (s.data.toList.take (k + 1)) ∧ (s.data.toList.take (k + 1)).all isDig = true
          rw [HT.out, valL_snoc, ← HX.out, List.all_append, HA.out]; exact ⟨rfl, by simp [HD.out]⟩
        go_wp2
        go_round
        case rel => exact ⟨k + 1, _, by omega, by go_num, rfl, HS.out.1, HS.out.2⟩
        case measure => simp [intOf]; omega
      · have HE := Lib.hid (rd_bad hlt (by rw [hc]; simpa using hd))
        have hd' : (c.toNat : Int) < 48 ∨ 57 < (c.toNat : Int) := by
          simp [isDig] at hd; omega
        clear hd hts
        go_wp2
        all_goals
          go_ret2
          exact ⟨ret_intbool HE.out.1.symm HE.out.2.symm, Below.refl _ _⟩
    · have HK : Hid (k = s.size) := by show k = s.size; omega
      have HG : Hid (x = valL s.data.toList ∧ s.data.toList.all isDig = true) := by
        have a := HX.out; have b := HA.out
        rw [HK.out, show s.data.toList.take s.size = s.data.toList from List.take_of_length_le (by simp)] at a b
        exact ⟨a, b⟩
      go_wp2_with (go_at_call 43; refine (dec_any (x.toNat + 1) x _ (by omega) (by omega) (by omega)).mono ?_; rintro e w' ⟨rfl, hbw⟩)
      go_ret2
      exact ⟨ret_intbool (HG.out.1.trans (rd_good H1.out h2 HG.out.2).1.symm) (by rw [(rd_good H1.out h2 HG.out.2).2, ← HG.out.1]; exact bs_beq _ _), hbw⟩
end Go.Proofs.YtcennddgbpkclaaDoor
