/- Contracts of the walk: both PowersText answer the text and the code of a list of prime powers. -/
import Derived.Test.YtghhjeebcpcepaaDoorPowsText
import Derived.Laws.OwnMore
namespace Go.Proofs.YtghhjeebcpcepaaDoor
open Go.RowKit
set_option linter.unusedVariables false
def textOf (l : List (Int × Int)) : List UInt8 := if arePowB l then psT l else []
def textC (l : List (Int × Int)) : Int := if arePowB l then 0 else 1
theorem ret_strint {a b : ByteArray} {k : IntKind} {c d : Int} (h : a = b) (h' : c = d) : Ending.returned (.tuple #[.string a, .int k c]) = .returned (.tuple #[.string b, .int k d]) := by rw [h, h']
theorem specText_any (base : Nat) (o : Option Addr) (c : Nat) (l : List (Int × Int)) (w : World) (hn : l.length ≤ 2000000) (hr : PowRow base w (.slice o l.length c) l) :
    Calls Tryd.prog 12 #[.slice o l.length c] w fun e w' => e = .returned (.tuple #[.string (bsOf (textOf l)), .int .i64 (textC l)]) ∧ Below w.heap.size w w' := by
  have HR := Lib.hid hr
  clear hr
  cases h : arePowB l
  · have HE : Hid (textOf l = [] ∧ textC l = 1) := by
      show textOf l = [] ∧ textC l = 1
      simp [textOf, textC, h]
    go_enter Tryd.func12, Tryd.ntmps12
    go_wp2_with fail
    refine (l01Powers_any base _ _ l _ hn HR.out).mono ?_
    rintro e w' ⟨rfl, nd, rfl⟩
    go_wp2
    go_ret2
    exact ⟨ret_strint (by rw [HE.out.1]; rfl) (by rw [HE.out.2]), below_drewN (Below.refl _ _) _⟩
  · have HE : Hid (textOf l = psT l ∧ textC l = 0) := by
      show textOf l = psT l ∧ textC l = 0
      simp [textOf, textC, h]
    have HH := Lib.hid h
    go_enter Tryd.func12, Tryd.ntmps12
    go_wp2_with fail
    refine (l01Powers_any base _ _ l _ hn HR.out).mono ?_
    rintro e w' ⟨rfl, nd, rfl⟩
    go_wp2_with fail
    refine (l01PowersText_any base _ _ l (w.drewN nd) HH.out HR.out).mono ?_
    rintro e w1 ⟨rfl, hb⟩
    have HB := Lib.hid hb
    clear hb
    go_wp2
    go_ret2
    exact ⟨ret_strint (by rw [HE.out.1]) (by rw [HE.out.2]), (below_drewN (Below.refl _ _) _).trans HB.out⟩
theorem join_own {base g : Nat} {w : World} {l : List (Int × Int)} {xs : List Value}
    (h : w.ownsRow base 9 1 (.slice (some ⟨g, 0, none⟩) l.length l.length) l.length xs)
    (hx : ∀ j, j < l.length → xs[j]? = some (.string (bsOf (pwT (l.getD j (0, 0)))))) (hl : arePowB l = true) :
    Calls Tryd.prog 36 #[.slice (some ⟨g, 0, none⟩) l.length l.length, .string ⟨#[42]⟩] w fun e w' => e = .returned (.string (bsOf (accT l l.length))) ∧ Below w.heap.size w w' := by
  have hm : (l.map fun p => bsOf (pwT p)).map (·.data.toList) = l.map pwT := by
    rw [List.map_map]; exact List.map_congr_left fun p _ => by simp [bsOf]
  have hacc : Lib.join (l.map pwT) [42] = accT l l.length := by unfold accT; rw [List.take_length]
  have hlen := accT_len hl l.length (Nat.le_refl _)
  have h60 := arePow_len hl
  have hj := Tryd.strings_Join g 0 l.length (l.map fun p => bsOf (pwT p)) ⟨#[42]⟩ w (fun j x hjx => by
      rw [List.getElem?_map] at hjx
      have hlt : j < l.length := by
        refine Nat.lt_of_not_le fun hle => ?_
        rw [List.getElem?_eq_none hle] at hjx; cases hjx
      rw [List.getElem?_eq_getElem hlt] at hjx
      simp at hjx
      rw [Nat.zero_add, World.ownsRow.cellAt h j (by omega), hx j hlt, ← hjx]
      simp [List.getD, hlt]) (h.lt g rfl).2 (by rw [List.length_map]; omega) (by rw [List.length_map]; exact Nat.le_refl _) (by
      rw [hm]
      show (Lib.join (l.map pwT) [42]).length ≤ _
      rw [hacc]; omega)
  rw [List.length_map, hm] at hj
  refine hj.mono fun e w' ⟨he, hb⟩ => ⟨?_, hb⟩
  rw [he, ← hacc]; rfl
theorem Tryd.infoString : (Tryd.prog.info? 9).map (fun i => (i.zero, i.size, i.bytes)) = some (some (.string ⟨#[]⟩), 1, 16) := by kernel_rfl
set_option maxHeartbeats 1600000 in
theorem implText_any (base : Nat) (o : Option Addr) (c : Nat) (l : List (Int × Int)) (w : World) (hn : l.length ≤ 2000000) (hr : PowRow base w (.slice o l.length c) l) (ht : Tab w) :
    Calls Tryd.prog 11 #[.slice o l.length c] w fun e w' => e = .returned (.tuple #[.string (bsOf (textOf l)), .int .i64 (textC l)]) ∧ Below w.heap.size w w' := by
  have HR := Lib.hid hr
  have HT := Lib.hid ht
  clear hr ht
  cases h : arePowB l
  · have HE : Hid (textOf l = [] ∧ textC l = 1) := by
      show textOf l = [] ∧ textC l = 1
      simp [textOf, textC, h]
    go_enter Tryd.func11, Tryd.ntmps11
    go_wp2_with fail
    refine (arePowers_any base _ _ l _ hn HR.out).mono ?_
    rintro e w' ⟨rfl, hb⟩
    have HB := Lib.hid hb
    clear hb
    go_wp2
    go_ret2
    exact ⟨ret_strint (by rw [HE.out.1]; rfl) (by rw [HE.out.2]), HB.out⟩
  · have HE : Hid (textOf l = psT l ∧ textC l = 0) := by
      show textOf l = psT l ∧ textC l = 0
      simp [textOf, textC, h]
    have HH := Lib.hid h
    have h60 := arePow_len h
    by_cases h0 : l.length = 0
    · have hnil : l = [] := List.length_eq_zero_iff.1 h0
      subst hnil
      go_enter Tryd.func11, Tryd.ntmps11
      go_wp2_with fail
      refine (arePowers_any base _ _ [] _ hn HR.out).mono ?_
      rintro e w' ⟨rfl, hb⟩
      have HB := Lib.hid hb
      clear hb
      go_wp2
      go_ret2
      exact ⟨rfl, HB.out⟩
    · have h0'' : ((l.length : Int) == 0) = false := beq_eq_false_iff_ne.2 (by omega)
      have hpos : 0 < l.length := by omega
      clear h0
      go_enter Tryd.func11, Tryd.ntmps11
      go_wp2_with fail
      refine (arePowers_any base _ _ l _ hn HR.out).mono ?_
      rintro e w1 ⟨rfl, hb⟩
      have HB := Lib.hid hb
      clear hb
      have HT1 := Lib.hid (tab_below HT.out HB.out (Nat.le_refl _))
      have G1 : Hid (∃ G, G = w1.heap.size) := ⟨_, rfl⟩
      obtain ⟨G, hG⟩ := G1.out
      have HG := Lib.hid hG
      clear hG G1
      obtain ⟨i0, hi, hz0, hz1, hz2⟩ := info_parts Tryd.infoString
      have HI := Lib.hid hi
      have HZ0 := Lib.hid hz0
      have HZ1 := Lib.hid hz1
      have HZ2 := Lib.hid hz2
      clear hi hz0 hz1 hz2
      go_wp2_with (at_make; refine wpList_make_full _ rfl (.tmp 14) (.tmp 14) 56 rfl w.heap.size 9 i0 (.string ⟨#[]⟩) 1 Tryd.underlying56 HI.out HZ0.out HZ1.out .i64 .i64 _ _ l.length rfl rfl rfl rfl ?m1 ?m2 HB.out.size ?_)
      case m1 => rw [HZ2.out]; omega
      case m2 => unfold maxLen; omega
      intro w2 hown hgrow
      have HO := Lib.hid hown
      have HB2 := Lib.hid (HB.out.grown hgrow HB.out.size (fun k h => by cases h))
      have HT2 := Lib.hid (tab_below (B := w1.heap.size) HT1.out ((Below.refl _ _).grown hgrow (Nat.le_refl _) (fun k h => by cases h)) (Nat.le_refl _))
      clear hown hgrow
      have G0 := HB.out.size
      go_wp2
      go_loopw [18] (fun i wr => ∃ (k : Nat) (xs : List Value), k ≤ l.length ∧ i = .int .i64 k ∧ wr.ownsRow w.heap.size 9 1 (.slice (some ⟨w1.heap.size, 0, none⟩) l.length l.length) l.length xs ∧ (∀ j, j < k → xs[j]? = some (.string (bsOf (pwT (l.getD j (0, 0)))))) ∧ Below w.heap.size w wr ∧ Tab wr) (fun i _ => l.length - (intOf i).toNat)
      case atStart => exact ⟨0, _, Nat.zero_le _, rfl, HO.out, fun j h => absurd h (Nat.not_lt_zero _), HB2.out, HT2.out⟩
      case round =>
        obtain ⟨k, xs, hk, rfl, hrow, hxs, hb, htab⟩ := hrel
        have HW := Lib.hid hrow
        have HX := Lib.hid hxs
        have HBr := Lib.hid hb
        have HTr := Lib.hid htab
        have bs := hb.size
        have hxl : xs.length = l.length * 1 := hrow.1
        have HXL := Lib.hid hxl
        clear hrow hxs htab hxl
        by_cases hlt : k < l.length
        · rcases row_shape HR.out with ⟨hz, _⟩ | ⟨_, g, c', hv, hbg, hg⟩
          · omega
          · cases hv
            obtain ⟨a1, a2⟩ := pow_cells HR.out k hlt
            rw [← hb.cell (by exact hg)] at a1 a2
            clear hb
            obtain ⟨x1, y1, e1⟩ : ∃ x y, l.getD k (0, 0) = (x, y) := ⟨_, _, rfl⟩
            rw [e1] at a1 a2
            simp only at a1 a2
            obtain ⟨x0, x2, y0, y2⟩ := arePow_at HH.out hlt e1
            have HE1 := Lib.hid e1
            clear e1
            go_wp2_with fail
            refine (powerPair_any _ _ _ (tab_below HTr.out ((Below.refl wr.heap.size wr).alloc (Nat.le_refl _) _) (Nat.le_refl _)) (by omega) (by omega) (by omega) (by omega)).mono ?_
            rintro e w3 ⟨rfl, hb3⟩
            have hba : Below wr.heap.size wr w3 := ((Below.refl wr.heap.size wr).alloc (Nat.le_refl _) _).trans (hb3.mono (by simp))
            have R3 := Lib.hid (row_below HW.out hba (Nat.le_refl _))
            have T3 := Lib.hid (tab_below HTr.out hba (Nat.le_refl _))
            have B3 := Lib.hid (HBr.out.trans (hba.mono bs))
            have c3 := World.ownsRow.cellAt R3.out k (by omega)
            have f3 := World.ownsRow.frozenAt R3.out k
            obtain ⟨u3, hu3⟩ : ∃ u, xs[k]? = some u := ⟨_, List.getElem?_eq_getElem (by have := HXL.out; omega)⟩
            rw [hu3] at c3
            clear hb3 hba hu3
            have ST := Lib.hid (World.ownsRow.stored R3.out k (.string (bsOf (pwT (x1, y1)))))
            have HN : Hid (∀ j, j < k + 1 → (xs.set k (.string (bsOf (pwT (x1, y1)))))[j]? = some (.string (bsOf (pwT (l.getD j (0, 0)))))) := by
              intro j hj
              by_cases e : j = k
              · subst e
                rw [List.getElem?_set_self (by have := HXL.out; omega), HE1.out]
              · rw [List.getElem?_set_ne (by omega)]; exact HX.out j (by omega)
            go_wp2
            exact ⟨⟨k + 1, _, by omega, by go_num, ST.out.1, HN.out, B3.out.setCell G0 _, tab_below HT.out (B3.out.setCell G0 _) (Nat.le_refl _)⟩, by simp only [intOf]; omega⟩
        · have hkl : k = l.length := by omega
          have hj := join_own HW.out (fun j h => HX.out j (by omega)) HH.out
          have HJ := Lib.hid hj
          clear hkl hj hb
          have hps : psT l = accT l l.length := by
            unfold psT; rw [if_neg (by intro h; rw [h] at hpos; simp at hpos)]
          have HPS := Lib.hid hps
          clear hps
          go_wp2_with fail
          refine HJ.out.mono ?_
          rintro e w4 ⟨rfl, hb4⟩
          have HB4 := Lib.hid (HBr.out.trans (hb4.mono bs))
          clear hb4
          go_wp2
          go_ret2
          exact ⟨ret_strint (by rw [HE.out.1, HPS.out]) (by rw [HE.out.2]), HB4.out⟩
end Go.Proofs.YtghhjeebcpcepaaDoor
