/- Contract of the walk: spec.ReadPowers answers the list that a text writes, in a row of its own memory, or the code. -/
import Derived.Test.YtghhjeebcpcepaaDoorPowersText
import Derived.Test.YtghhjeebcpcepaaDoorSplit
import Derived.Test.YtghhjeebcpcepaaDoorValue
namespace Go.Proofs.YtghhjeebcpcepaaDoor
open Go.RowKit
set_option linter.unusedVariables false
def partOf (x : ByteArray) : Int × Int := (rdV ((splitL x 94).getD 0 ⟨#[]⟩), if 1 < (splitL x 94).length then rdV ((splitL x 94).getD 1 ⟨#[]⟩) else 1)
def parseS (s : ByteArray) : List (Int × Int) := if s = ⟨#[49]⟩ then [] else (splitL s 42).map partOf
def readB (s : ByteArray) : Bool := arePowB (parseS s) && decide (bsOf (psT (parseS s)) = s)
def readL (s : ByteArray) : List (Int × Int) := if readB s then parseS s else []
def readC (s : ByteArray) : Int := if readB s then 0 else 6
theorem strRow_cells {base : Nat} {w : World} {g c n : Nat} {l : List ByteArray} (h : StrRow base w (.slice (some ⟨g, 0, none⟩) n c) l) (hn : n = l.length) :
    ∀ k, k < n → w.cell? ⟨g, k, none⟩ = some (.string (l.getD k ⟨#[]⟩)) := by
  intro k hk
  subst hn
  rw [World.ownsRow.cellAt h k (by omega), List.getElem?_map, List.getD]
  simp [hk]
theorem strRow_some {base : Nat} {w : World} {v : Value} {l : List ByteArray} (h : StrRow base w v l) (h0 : 0 < l.length) : ∃ g c, v = .slice (some ⟨g, 0, none⟩) l.length c ∧ base ≤ g ∧ g < w.heap.size := by
  rcases row_shape h with ⟨e, _⟩ | ⟨_, g, c, e⟩
  · omega
  · exact ⟨g, c, e⟩
theorem split_pos (s : ByteArray) (b : UInt8) : 0 < (splitL s b).length := by
  unfold splitL; rw [(split_yes (cut_end s b) rfl).1]; simp
theorem don_size (s : ByteArray) (b : UInt8) : ∀ k x, x ∈ don s b k → x.size ≤ s.size
  | 0, x, h => by simp [don] at h
  | k + 1, x, h => by
    unfold don at h
    split at h
    · rcases List.mem_append.1 h with h | h
      · exact don_size s b k x h
      · simp at h; subst h; rw [ByteArray.size_extract]; omega
    · exact don_size s b k x h
theorem split_size (s : ByteArray) (b : UInt8) (k : Nat) : ((splitL s b).getD k ⟨#[]⟩).size ≤ s.size := by
  rw [List.getD]
  cases h : (splitL s b)[k]? with
  | none => exact Nat.zero_le _
  | some x => exact don_size s b _ x (List.mem_of_getElem? h)
theorem split_length (s : ByteArray) (b : UInt8) : (splitL s b).length ≤ s.size + 1 := don_length s b _
/-- two rows of different kinds lie apart -/
def RPost (l : List (Int × Int)) (c : Int) (w : World) (e : Ending) (w' : World) : Prop :=
  ∃ v, e = .returned (.tuple #[v, .int .i64 c]) ∧ PowRow w.heap.size w' v l ∧ Below w.heap.size w w'
theorem str_ne {a b : ByteArray} (h : ¬ a = b) : (a.toList == b.toList) = false := by rw [bs_beq]; simpa using h
theorem below_appendP {W wr w' : World} {v : Value} {o : Obj} {acc : List (Int × Int)} (hb : Below W.heap.size W wr) (hW : PowRow W.heap.size wr v acc) (hg : (wr.alloc o).grownBy w' v.ownBlock) : Below W.heap.size W w' :=
  (hb.alloc hb.size o).grown hg (by simp; have := hb.size; omega) (fun k hk => (World.ownsRow.lt hW k hk).1)
theorem read_bad {s : ByteArray} (h : arePowB (parseS s) = false) : readL s = [] ∧ readC s = 6 := by simp [readL, readC, readB, h]
theorem read_ne {s : ByteArray} (h : arePowB (parseS s) = true) (e : ¬ bsOf (psT (parseS s)) = s) : readL s = [] ∧ readC s = 6 := by simp [readL, readC, readB, h, e]
theorem read_eq {s : ByteArray} (h : arePowB (parseS s) = true) (e : bsOf (psT (parseS s)) = s) : readL s = parseS s ∧ readC s = 0 := by simp [readL, readC, readB, h, e]
theorem str_eq' {a b : ByteArray} (h : a = b) : (a.toList == b.toList) = true := by rw [bs_beq]; simpa using h
theorem powRow_slice {w : World} {base : Nat} {v : Value} {l : List (Int × Int)} (h : PowRow base w v l) : ∃ o c, v = .slice o l.length c := by
  rcases row_shape h with ⟨h0, o, c, rfl⟩ | ⟨_, g, c, rfl, _⟩
  · exact ⟨o, c, by rw [h0]⟩
  · exact ⟨_, c, rfl⟩
theorem powRow_nilR (base : Nat) (w : World) : PowRow base w (.slice none 0 0) [] := World.ownsRow_nil _ _ _ _
def tkS (s : ByteArray) (k : Nat) : List (Int × Int) := ((splitL s 42).take k).map partOf
theorem tkS_succ {s : ByteArray} {k : Nat} (h : k < (splitL s 42).length) {x : ByteArray} (hx : (splitL s 42).getD k ⟨#[]⟩ = x) : tkS s (k + 1) = tkS s k ++ [partOf x] := by
  unfold tkS
  have e : (splitL s 42)[k] = x := by rw [← hx]; simp [List.getD, h]
  rw [List.take_succ_eq_append_getElem h, List.map_append, List.map_singleton, e]
theorem tkS_length {s : ByteArray} {k : Nat} (h : k ≤ (splitL s 42).length) : (tkS s k).length = k := by
  unfold tkS; rw [List.length_map, List.length_take]; omega
theorem tkS_all (s : ByteArray) (k : Nat) (h : (splitL s 42).length ≤ k) : tkS s k = (splitL s 42).map partOf := by
  unfold tkS; rw [List.take_of_length_le h]
set_option maxRecDepth 20000 in
set_option maxHeartbeats 1600000 in
theorem specRead_more (s : ByteArray) (w : World) (hs0 : s.size ≤ 1100000) (h1 : ¬ s = ⟨#[49]⟩) :
    Calls Tryd.prog 15 #[.string s] w (RPost (readL s) (readC s) w) := by
  obtain ⟨i0, hi, hz0, hz1, hz2⟩ := info_parts Tryd.infoPower
  have HI := Lib.hid hi
  have HZ0 := Lib.hid hz0
  have HZ1 := Lib.hid hz1
  have HZ2 := Lib.hid hz2
  have hne : (s.toList == [49]) = false := by
    have h := str_ne h1
    rw [ByteArray.toList_eq ⟨#[49]⟩] at h
    exact h
  have H1 := Lib.hid h1
  have hs : s.size ≤ 2000000 := by omega
  have HS := Lib.hid hs
  have HS0 := Lib.hid hs0
  clear hi hz0 hz1 hz2 h1
  go_enter Tryd.func15, Tryd.ntmps15
  go_wp2_with fail
  refine (l01Split_any s 42 _ hs).mono ?_
  rintro e w1 ⟨v1, rfl, r1, b1⟩
  clear hs hs0
  obtain ⟨g, c, rfl, hg, hgw⟩ := strRow_some r1 (split_pos s 42)
  obtain ⟨m, hm⟩ : ∃ m, (splitL s 42).length = m := ⟨_, rfl⟩
  rw [hm] at r1 ⊢
  have bm : m ≤ 2000001 := by rw [← hm]; have := split_length s 42; have := HS.out; omega
  have HM := Lib.hid hm
  have R1 := Lib.hid r1
  have B1 := Lib.hid b1
  clear r1 b1 hm
  go_wp2
  go_loopw [4, 6] (fun v i wr => ∃ k : Nat, i = .int .i64 k ∧ k ≤ m ∧ PowRow w.heap.size wr v (tkS s k) ∧ StrRow (w.heap.size + 1) wr (.slice (some ⟨g, 0, none⟩) m c) (splitL s 42) ∧ Below w.heap.size w wr) (fun _ i _ => m - (intOf i).toNat)
  case atStart =>
    refine ⟨0, rfl, Nat.zero_le _, ?_, ?_, ?_⟩
    · exact row_below (powRow_made w 0) B1.out (Nat.le_refl _)
    · have h := R1.out
      rw [World.size_alloc] at h
      exact h
    · exact ((Below.refl _ _).alloc (Nat.le_refl _) _).trans (B1.out.mono (by simp))
  case round =>
    obtain ⟨k, rfl, hk, hrow, hst, hb⟩ := hrel
    have hkl : (tkS s k).length ≤ 2000001 := by rw [tkS_length (by rw [HM.out]; exact hk)]; omega
    have bs := hb.size
    have HL := Lib.hid hkl
    have HW := Lib.hid hrow
    have HT := Lib.hid hst
    have HB := Lib.hid hb
    clear hrow hst hb hkl
    by_cases hlt : k < m
    · have hcell := strRow_cells HT.out HM.out.symm k hlt
      obtain ⟨x, hx⟩ : ∃ x, (splitL s 42).getD k ⟨#[]⟩ = x := ⟨_, rfl⟩
      have hxs : x.size ≤ 2000000 := by rw [← hx]; exact Nat.le_trans (split_size s 42 k) HS.out
      have HX := Lib.hid (tkS_succ (by rw [HM.out]; exact hlt) hx)
      rw [hx] at hcell
      have HXS := Lib.hid hxs
      clear hx hxs
      go_wp2_with fail
      refine (l01Split_any x 94 _ HXS.out).mono ?_
      rintro e w2 ⟨v2, rfl, r2, b2⟩
      obtain ⟨g2, c2, rfl, hg2, hgw2⟩ := strRow_some r2 (split_pos x 94)
      obtain ⟨m2, hm2⟩ : ∃ m2, (splitL x 94).length = m2 := ⟨_, rfl⟩
      rw [hm2] at r2 ⊢
      have p2 : 0 < m2 := by rw [← hm2]; exact split_pos x 94
      have bm2 : m2 ≤ 2000001 := by rw [← hm2]; have := split_length x 94; have := HXS.out; omega
      have W2 := Lib.hid (row_below HW.out b2 (Nat.le_refl _))
      have T2 := Lib.hid (row_below HT.out b2 (Nat.le_refl _))
      have B2 := Lib.hid (HB.out.trans (b2.mono HB.out.size))
      have R2 := Lib.hid r2
      have hc0 := strRow_cells r2 hm2.symm 0 p2
      have HM2 := Lib.hid hm2
      obtain ⟨y, hy⟩ : ∃ y, (splitL x 94).getD 0 ⟨#[]⟩ = y := ⟨_, rfl⟩
      rw [hy] at hc0
      have hys : y.size ≤ 2000000 := by rw [← hy]; exact Nat.le_trans (split_size x 94 0) HXS.out
      have HY := Lib.hid hy
      have HYS := Lib.hid hys
      clear r2 b2 hm2 hy hys
      go_wp2_with fail
      refine (l01Value_any y _ (by have := HYS.out; omega)).mono ?_
      rintro e w3 ⟨rfl, b3⟩
      have W3 := Lib.hid (row_below W2.out b3 (Nat.le_refl _))
      have T3 := Lib.hid (row_below T2.out b3 (Nat.le_refl _))
      have B3 := Lib.hid (B2.out.trans (b3.mono B2.out.size))
      have R3 := Lib.hid (row_below R2.out b3 (Nat.le_refl _))
      clear b3
      by_cases h2 : 1 < m2
      · have hc1 := strRow_cells R3.out HM2.out.symm 1 h2
        obtain ⟨z, hz⟩ : ∃ z, (splitL x 94).getD 1 ⟨#[]⟩ = z := ⟨_, rfl⟩
        rw [hz] at hc1
        have hzs : z.size ≤ 2000000 := by rw [← hz]; exact Nat.le_trans (split_size x 94 1) HXS.out
        have HP : Hid (partOf x = (rdV y, rdV z)) := by
          show partOf x = (rdV y, rdV z)
          unfold partOf; rw [HY.out, hz, if_pos (by rw [HM2.out]; exact h2)]
        have HZS := Lib.hid hzs
        clear hz hzs
        go_wp2_with fail
        refine (l01Value_any z _ (by have := HZS.out; omega)).mono ?_
        rintro e w4 ⟨rfl, b4⟩
        have W4 := Lib.hid (row_below W3.out b4 (Nat.le_refl _))
        have T4 := Lib.hid (row_below T3.out b4 (Nat.le_refl _))
        have B4 := Lib.hid (B3.out.trans (b4.mono B3.out.size))
        clear b4
        go_wp2_with (at_builtin; refine wpList_append_own _ rfl (.tmp 46) (.tmp 50) 24 rfl w.heap.size 54 i0 (.agg #[.int .i64 0, .int .i64 0]) 2 16 Tryd.underlying24 HI.out HZ0.out HZ1.out HZ2.out rfl (by decide) _ _ _ rfl (W4.out.alloc _) ⟨w4.heap.size, 0, none⟩ 1 1 [.int .i64 (rdV y), .int .i64 (rdV z)] rfl rfl ?c1 ?c2 ?c3 ?c4 ?c5 ?_)
        case c1 => first | exact news_two _ _ _ _ | simp [Addr.add]
        case c2 => first | exact one_two _ _ | rfl
        case c3 => unfold maxLen; have := HL.out; omega
        case c4 => have := HL.out; omega
        case c5 => have := B4.out.size; first | omega | (simp; omega)
        intro v' w5 hown hgrow _
        have HO := Lib.hid (powRow_snoc hown)
        have HG := Lib.hid (below_appendP B4.out W4.out hgrow)
        have HT5 := Lib.hid (World.ownsRow.kept (T4.out.alloc _) hgrow (rows_apart T4.out W4.out (by decide)))
        clear hown hgrow
        go_wp2
        go_roundw
        case rel => exact ⟨k + 1, by go_num, by omega, by rw [HX.out, HP.out]; exact HO.out, HT5.out, HG.out⟩
        case measure => simp [intOf]; omega
      · have HP : Hid (partOf x = (rdV y, 1)) := by
          show partOf x = (rdV y, 1)
          unfold partOf; rw [HY.out, if_neg (by rw [HM2.out]; exact h2)]
        go_wp2_with (at_builtin; refine wpList_append_own _ rfl (.tmp 46) (.tmp 50) 24 rfl w.heap.size 54 i0 (.agg #[.int .i64 0, .int .i64 0]) 2 16 Tryd.underlying24 HI.out HZ0.out HZ1.out HZ2.out rfl (by decide) _ _ _ rfl (W3.out.alloc _) ⟨w3.heap.size, 0, none⟩ 1 1 [.int .i64 (rdV y), .int .i64 1] rfl rfl ?d1 ?d2 ?d3 ?d4 ?d5 ?_)
        case d1 => first | exact news_two _ _ _ _ | simp [Addr.add]
        case d2 => first | exact one_two _ _ | rfl
        case d3 => unfold maxLen; have := HL.out; omega
        case d4 => have := HL.out; omega
        case d5 => have := B3.out.size; first | omega | (simp; omega)
        intro v' w5 hown hgrow _
        have HO := Lib.hid (powRow_snoc hown)
        have HG := Lib.hid (below_appendP B3.out W3.out hgrow)
        have HT5 := Lib.hid (World.ownsRow.kept (T3.out.alloc _) hgrow (rows_apart T3.out W3.out (by decide)))
        clear hown hgrow
        go_wp2
        go_roundw
        case rel => exact ⟨k + 1, by go_num, by omega, by rw [HX.out, HP.out]; exact HO.out, HT5.out, HG.out⟩
        case measure => simp [intOf]; omega
    · have hkm : k = m := by omega
      have HK : Hid (tkS s k = parseS s) := by
        show tkS s k = parseS s
        unfold parseS; rw [if_neg H1.out]; exact tkS_all s k (by rw [HM.out]; omega)
      obtain ⟨l, hl⟩ : ∃ l, parseS s = l := ⟨_, rfl⟩
      have hrow : PowRow w.heap.size wr u4 l := by have h := HW.out; rw [HK.out, hl] at h; exact h
      have hll : l.length ≤ 2000000 := by
        rw [← hl, ← HK.out, tkS_length (by rw [HM.out]; exact hk)]
        have := split_length s 42; have := HS0.out; have := HM.out; omega
      obtain ⟨oo, co, hv⟩ := powRow_slice hrow
      subst hv
      have R := Lib.hid hrow
      have HP := Lib.hid hl
      have hkm' := Lib.hid hkm
      clear hrow hl
      cases ha : arePowB l
      · have HE := Lib.hid (read_bad (by rw [HP.out]; exact ha : arePowB (parseS s) = false))
        have HA := Lib.hid ha
        have HLL := Lib.hid hll
        clear ha hll
        go_wp2_with fail
        refine (l01Powers_any w.heap.size _ _ l _ HLL.out R.out).mono ?_
        rintro e w' ⟨rfl, nd, rfl⟩
        rw [HA.out]
        go_wp2
        go_ret2
        rw [HE.out.1, HE.out.2]
        exact ⟨_, rfl, powRow_nilR _ _, below_drewN HB.out _⟩
      · have hap : arePowB (parseS s) = true := by rw [HP.out]; exact ha
        have HA := Lib.hid ha
        have HLL := Lib.hid hll
        by_cases he : bsOf (psT l) = s
        · have HE := Lib.hid (read_eq hap (by rw [HP.out]; exact he))
          have hq : ((bsOf (psT l)).toList == s.toList) = true := str_eq' he
          clear ha hll hap he
          go_wp2_with fail
          refine (l01Powers_any w.heap.size _ _ l _ HLL.out R.out).mono ?_
          rintro e w' ⟨rfl, nd, rfl⟩
          rw [HA.out]
          go_wp2_with fail
          refine (l01PowersText_any w.heap.size _ _ l (wr.drewN nd) HA.out R.out).mono ?_
          rintro e w6 ⟨rfl, b6⟩
          have B6 := Lib.hid ((below_drewN HB.out nd).trans (b6.mono HB.out.size))
          have R6 := Lib.hid (row_below (w := wr.drewN nd) R.out b6 (Nat.le_refl _))
          clear b6
          go_wp2
          go_ret2
          rw [HE.out.1, HE.out.2, HP.out]
          exact ⟨_, rfl, R6.out, B6.out⟩
        · have HE := Lib.hid (read_ne hap (by rw [HP.out]; exact he))
          have hq : ((bsOf (psT l)).toList == s.toList) = false := str_ne he
          clear ha hll hap he
          go_wp2_with fail
          refine (l01Powers_any w.heap.size _ _ l _ HLL.out R.out).mono ?_
          rintro e w' ⟨rfl, nd, rfl⟩
          rw [HA.out]
          go_wp2_with fail
          refine (l01PowersText_any w.heap.size _ _ l (wr.drewN nd) HA.out R.out).mono ?_
          rintro e w6 ⟨rfl, b6⟩
          have B6 := Lib.hid ((below_drewN HB.out nd).trans (b6.mono HB.out.size))
          clear b6
          go_wp2
          go_ret2
          rw [HE.out.1, HE.out.2]
          exact ⟨_, rfl, powRow_nilR _ _, B6.out⟩
theorem read_one : readL ⟨#[49]⟩ = [] ∧ readC ⟨#[49]⟩ = 0 := by
  have h : parseS ⟨#[49]⟩ = [] := by unfold parseS; rw [if_pos rfl]
  have := read_eq (s := ⟨#[49]⟩) (by rw [h]; rfl) (by rw [h]; rfl)
  rw [h] at this; exact this
set_option maxRecDepth 20000 in
set_option maxHeartbeats 1600000 in
theorem specRead_one (w : World) : Calls Tryd.prog 15 #[.string ⟨#[49]⟩] w (RPost (readL ⟨#[49]⟩) (readC ⟨#[49]⟩) w) := by
  have hnil : ([49] : List UInt8) == [49] := by decide
  rw [read_one.1, read_one.2]
  go_enter Tryd.func15, Tryd.ntmps15
  go_wp2_with fail
  refine (l01Split_any ⟨#[49]⟩ 42 _ (by decide)).mono ?_
  rintro e w1 ⟨v1, rfl, r1, b1⟩
  obtain ⟨g, c, rfl, hg, hgw⟩ := strRow_some r1 (split_pos _ 42)
  obtain ⟨m, hm⟩ : ∃ m, (splitL ⟨#[49]⟩ 42).length = m := ⟨_, rfl⟩
  rw [hm] at r1 ⊢
  have p2 : 0 < m := by rw [← hm]; exact split_pos _ 42
  have B1 := Lib.hid b1
  clear r1 b1 hm
  go_wp2
  refine wp_loop_rounds 1 ?_
  rw [rounds_succ]
  have R := Lib.hid (row_below (powRow_made w 0) B1.out (Nat.le_refl _))
  have BB := Lib.hid (((Below.refl w.heap.size w).alloc (Nat.le_refl _) (.cells #[] 54)).trans (B1.out.mono (by simp)))
  have HA : Hid (arePowB [] = true) := rfl
  go_wp2_with fail
  refine (l01Powers_any w.heap.size _ _ [] _ (by decide) R.out).mono ?_
  rintro e w' ⟨rfl, nd, rfl⟩
  rw [HA.out]
  go_wp2_with fail
  refine (l01PowersText_any w.heap.size _ _ [] (w1.drewN nd) HA.out R.out).mono ?_
  rintro e w6 ⟨rfl, b6⟩
  have B6 := Lib.hid ((below_drewN BB.out nd).trans (b6.mono BB.out.size))
  have R6 := Lib.hid (row_below (w := w1.drewN nd) R.out b6 (Nat.le_refl _))
  have hq : ((bsOf (psT [])).toList == [49]) = true := by
    rw [ByteArray.toList_eq]; rfl
  clear b6
  go_wp2
  go_ret2
  exact ⟨_, rfl, R6.out, B6.out⟩
theorem specRead_any (s : ByteArray) (w : World) (hs : s.size ≤ 1100000) :
    Calls Tryd.prog 15 #[.string s] w (RPost (readL s) (readC s) w) := by
  by_cases h : s = ⟨#[49]⟩
  · subst h; exact specRead_one w
  · exact specRead_more s w hs h
end Go.Proofs.YtghhjeebcpcepaaDoor
