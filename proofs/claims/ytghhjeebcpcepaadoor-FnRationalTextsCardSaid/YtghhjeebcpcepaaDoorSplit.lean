/- Contract of the walk: spec.l01Split answers the pieces of a string between the occurrences of a byte, in a row of its own memory. -/
import Derived.Test.YtghhjeebcpcepaaDoorRow
import Derived.Test.YtghhjeebcpcepaaDoorFactMath
import Derived.Deep.QuietTactic
import Derived.BigQuiet
namespace Go.Proofs.YtghhjeebcpcepaaDoor
open Go.RowKit
set_option linter.unusedVariables false
theorem Tryd.infoString : (Tryd.prog.info? 9).map (fun i => (i.zero, i.size, i.bytes)) = some (some (.string ⟨#[]⟩), 1, 16) := by kernel_rfl
/-- a row of strings of the call's own memory -/
def StrRow (base : Nat) (w : World) (v : Value) (l : List ByteArray) : Prop := w.ownsRow base 9 1 v l.length (l.map Value.string)
theorem strRow_made (w : World) : StrRow w.heap.size (w.alloc (.cells #[] 9)) (.slice (some ⟨w.heap.size, 0, none⟩) 0 0) [] :=
  World.ownsRow_made w #[] 0 (Nat.le_refl _) (Nat.zero_le _) rfl
theorem strRow_snoc {base : Nat} {w' : World} {v' : Value} {acc : List ByteArray} {a : ByteArray} (h : w'.ownsRow base 9 1 v' (acc.length + 1) (acc.map Value.string ++ [.string a])) : StrRow base w' v' (acc ++ [a]) := by
  unfold StrRow; rw [List.map_append, List.length_append]; exact h
theorem strRow_slice {w : World} {base : Nat} {v : Value} {l : List ByteArray} (h : StrRow base w v l) : ∃ o c, v = .slice o l.length c := by
  rcases row_shape h with ⟨h0, o, c, rfl⟩ | ⟨_, g, c, rfl, _⟩
  · exact ⟨o, c, by rw [h0]⟩
  · exact ⟨_, c, rfl⟩
theorem below_appendS {W wr w' : World} {v : Value} {o : Obj} {acc : List ByteArray} (hb : Below W.heap.size W wr) (hW : StrRow W.heap.size wr v acc) (hg : (wr.alloc o).grownBy w' v.ownBlock) : Below W.heap.size W w' :=
  (hb.alloc hb.size o).grown hg (by simp; have := hb.size; omega) (fun k hk => (World.ownsRow.lt hW k hk).1)
theorem newsS (w : World) (a : Value) (T : TypeId) : ∀ j u, [a][j]? = some u → (w.alloc (.cells #[a] T)).cell? ((⟨w.heap.size, 0, none⟩ : Addr).add j) = some u := by
  intro j u h
  match j, h with
  | 0, h => simp at h; subst h; simp [Addr.add]
theorem oneS (a : ByteArray) : ∀ u ∈ [Value.string a], u.oneCell' = true := by
  intro u hu; simp at hu; subst hu; rfl
/-- is a piece over at place k? -/
def isCut (s : ByteArray) (b : UInt8) (k : Nat) : Bool := if h : k < s.size then s[k] == b else true
/-- where the piece begins that goes on at place k -/
def frm (s : ByteArray) (b : UInt8) : Nat → Nat
  | 0 => 0
  | k + 1 => if isCut s b k then k + 1 else frm s b k
/-- the pieces that are over ahead of place k -/
def don (s : ByteArray) (b : UInt8) : Nat → List ByteArray
  | 0 => []
  | k + 1 => if isCut s b k then don s b k ++ [s.extract (frm s b k) k] else don s b k
def splitL (s : ByteArray) (b : UInt8) : List ByteArray := don s b (s.size + 1)
theorem frm_le (s : ByteArray) (b : UInt8) : ∀ k, frm s b k ≤ k
  | 0 => Nat.le_refl _
  | k + 1 => by unfold frm; split; exact Nat.le_refl _; have := frm_le s b k; omega
theorem don_length (s : ByteArray) (b : UInt8) : ∀ k, (don s b k).length ≤ k
  | 0 => Nat.le_refl _
  | k + 1 => by unfold don; split; (have := don_length s b k; simp; omega); have := don_length s b k; omega
theorem cut_end (s : ByteArray) (b : UInt8) : isCut s b s.size = true := by simp [isCut]
theorem cut_yes {s : ByteArray} {b : UInt8} {k : Nat} (h : k < s.size) (e : s[k] = b) : isCut s b k = true := by simp [isCut, h, e]
theorem cut_no {s : ByteArray} {b : UInt8} {k : Nat} (h : k < s.size) (e : ¬ s[k] = b) : isCut s b k = false := by simp [isCut, h, e]
theorem split_yes {s : ByteArray} {b : UInt8} {k j : Nat} (h : isCut s b k = true) (hj : j = frm s b k) : don s b (k + 1) = don s b k ++ [s.extract j k] ∧ frm s b (k + 1) = k + 1 := by
  rw [hj]; simp [don, frm, h]
theorem split_no {s : ByteArray} {b : UInt8} {k : Nat} (h : isCut s b k = false) : don s b (k + 1) = don s b k ∧ frm s b (k + 1) = frm s b k := by simp [don, frm, h]
theorem u8_eq {a b : UInt8} (h : a = b) : ((a.toNat : Int) == (b.toNat : Int)) = true := by rw [h]; simp
theorem u8_ne {a b : UInt8} (h : ¬ a = b) : ((a.toNat : Int) == (b.toNat : Int)) = false := by
  simp; intro e; apply h; exact UInt8.toNat_inj.1 (by exact_mod_cast e)
set_option maxRecDepth 20000 in
set_option maxHeartbeats 1600000 in
theorem l01Split_any (s : ByteArray) (b : UInt8) (w : World) (hs : s.size ≤ 2000000) :
    Calls Tryd.prog 42 #[.string s, .int .u8 (b.toNat : Int)] w fun e w' =>
      ∃ v, e = .returned v ∧ StrRow w.heap.size w' v (splitL s b) ∧ Below w.heap.size w w' := by
  obtain ⟨i0, hi, hz0, hz1, hz2⟩ := info_parts Tryd.infoString
  have HI := Lib.hid hi
  have HZ0 := Lib.hid hz0
  have HZ1 := Lib.hid hz1
  have HZ2 := Lib.hid hz2
  clear hi hz0 hz1 hz2
  have hs9 : s.size ≤ 9223372036854775807 := by omega
  have HS2 := Lib.hid hs
  clear hs
  go_enter Tryd.func42, Tryd.ntmps42
  go_wp2
  go_loopw [5, 6, 7] (fun v f i wr => ∃ (k j : Nat), i = .int .i64 k ∧ f = .int .i64 j ∧ k ≤ s.size + 1 ∧ j = frm s b k ∧ StrRow w.heap.size wr v (don s b k) ∧ Below w.heap.size w wr) (fun _ _ i _ => s.size + 1 - (intOf i).toNat)
  case atStart => exact ⟨0, 0, rfl, rfl, Nat.zero_le _, rfl, strRow_made _, (Below.refl _ _).alloc (Nat.le_refl _) _⟩
  case round =>
    obtain ⟨k, j, rfl, rfl, hk, hj, hrow, hb⟩ := hrel
    have bj : j ≤ k := by rw [hj]; exact frm_le s b k
    have bl : (don s b k).length ≤ 2000001 := by have := don_length s b k; have := HS2.out; omega
    have bs := hb.size
    have HJ := Lib.hid hj
    have HW := Lib.hid hrow
    have HB := Lib.hid hb
    have hs := HS2.out
    have bk : (k : Int) ≤ 2000001 := by omega
    have bl := Lib.hid bl
    have bk2 : (j : Int) ≤ 2000001 := by omega
    have HK := Lib.hid hk
    clear hs hj hrow hb hk
    by_cases hlt : k < s.size
    · have hne : ((k : Int) == (s.size : Int)) = false := by simp; omega
      by_cases hm : s[k] = b
      · have hm' := u8_eq hm
        have HS := Lib.hid (split_yes (cut_yes hlt hm) HJ.out)
        clear hm
        go_wp2_with (at_builtin; refine wpList_append_own _ rfl (.tmp 26) (.tmp 31) 56 rfl w.heap.size 9 i0 (.string ⟨#[]⟩) 1 16 Tryd.underlying56 HI.out HZ0.out HZ1.out HZ2.out rfl (by decide) _ _ _ rfl (HW.out.alloc _) ⟨wr.heap.size, 0, none⟩ 1 1 [.string (s.extract j k)] rfl rfl ?c1 ?c2 ?c3 ?c4 ?c5 ?_)
        case c1 => first | exact newsS _ _ _ | simp [Addr.add]
        case c2 => first | exact oneS _ | rfl
        case c3 => unfold maxLen; have := bl.out; omega
        case c4 => have := bl.out; omega
        case c5 => first | omega | (simp; omega)
        intro v' w1 hown hgrow _
        have HO := Lib.hid (strRow_snoc hown)
        have HG := Lib.hid (below_appendS HB.out HW.out hgrow)
        clear hown hgrow
        go_wp2
        go_roundw
        case rel => exact ⟨k + 1, k + 1, by go_num, by go_num, by have := HK.out; omega, HS.out.2.symm, by rw [HS.out.1]; exact HO.out, HG.out⟩
        case measure => simp [intOf]; omega
      · have hm' := u8_ne hm
        have HS := Lib.hid (split_no (cut_no hlt hm))
        clear hm
        go_wp2
        go_roundw
        case rel => exact ⟨k + 1, j, by go_num, rfl, by have := HK.out; omega, by rw [HS.out.2]; exact HJ.out, by rw [HS.out.1]; exact HW.out, HB.out⟩
        case measure => simp [intOf]; omega
    · by_cases hend : k = s.size
      · have hne : ((k : Int) == (s.size : Int)) = true := by simp; omega
        have HS := Lib.hid (split_yes (hend ▸ cut_end s b : isCut s b k = true) HJ.out)
        have HN := Lib.hid hend
        have hle : k ≤ s.size := by omega
        clear hend hlt
        go_wp2_with (at_builtin; refine wpList_append_own _ rfl (.tmp 26) (.tmp 31) 56 rfl w.heap.size 9 i0 (.string ⟨#[]⟩) 1 16 Tryd.underlying56 HI.out HZ0.out HZ1.out HZ2.out rfl (by decide) _ _ _ rfl (HW.out.alloc _) ⟨wr.heap.size, 0, none⟩ 1 1 [.string (s.extract j k)] rfl rfl ?c1 ?c2 ?c3 ?c4 ?c5 ?_)
        case c1 => first | exact newsS _ _ _ | simp [Addr.add]
        case c2 => first | exact oneS _ | rfl
        case c3 => unfold maxLen; have := bl.out; omega
        case c4 => have := bl.out; omega
        case c5 => first | omega | (simp; omega)
        intro v' w1 hown hgrow _
        have HO := Lib.hid (strRow_snoc hown)
        have HG := Lib.hid (below_appendS HB.out HW.out hgrow)
        clear hown hgrow
        go_wp2
        go_roundw
        case rel => exact ⟨k + 1, k + 1, by go_num, by go_num, by have := HK.out; omega, HS.out.2.symm, by rw [HS.out.1]; exact HO.out, HG.out⟩
        case measure => simp [intOf]; omega
      · have HE : Hid (k = s.size + 1) := by show k = s.size + 1; have := HK.out; omega
        have hgt : (s.size : Int) < (k : Int) := by omega
        clear hend hlt
        go_wp2
        go_ret
        exact ⟨_, rfl, by have h := HW.out; rw [HE.out] at h; exact h, HB.out⟩
end Go.Proofs.YtghhjeebcpcepaaDoor
