/- Contract of the walk: spec.l01Split answers the pieces of a string between the occurrences of a byte, in a row of its own memory. -/
import Derived.Test.YtcennddgbpkclaaDoorRow
import Derived.Test.YtcennddgbpkclaaDoorFactMath
import Derived.Deep.QuietTactic
import Derived.BigQuiet
namespace Go.Proofs.YtcennddgbpkclaaDoor
open Go.RowKit
set_option linter.unusedVariables false
theorem Tryd.infoString : (Tryd.prog.info? 9).map (fun i => (i.zero, i.size, i.bytes)) = some (some (.string ⟨#[]⟩), 1, 16) := by kernel_rfl
/-- a row of strings of the call's own memory -/
def StrRow (base : Nat) (w : World) (v : Value) (l : List ByteArray) : Prop := w.ownsRow base 9 1 v l.length (l.map Value.string)
theorem strRow_made (w : World) : StrRow w.heap.size (w.alloc (.cells #[] 9)) (.slice (some ⟨w.heap.size, 0, none⟩) 0 0) [] :=
  World.ownsRow_made w #[] 0 (Nat.le_refl _) (Nat.zero_le _) rfl
theorem strRow_snoc {base : Nat} {w' : World} {v' : Value} {acc : List ByteArray} {a : ByteArray} (h : w'.ownsRow base 9 1 v' (acc.length + 1) (acc.map Value.string ++ [.string a])) : StrRow base w' v' (acc ++ [a]) := by
  unfold StrRow; rw [List.map_append, List.length_append]; exact h
theorem strRow_slice {w : World} {base : Nat} {v : Value} {l : List ByteArray} (h : StrRow base w v l) : ∃ o c, v = .slice o l.length c := by
  rcases row_shape h with ⟨h0, o, c, rfl⟩ | ⟨_, g, c, rfl, _⟩
  · exact ⟨o, c, by rw [h0]⟩
  · exact ⟨_, c, rfl⟩
theorem below_appendS {W wr w' : World} {v : Value} {o : Obj} {acc : List ByteArray} (hb : Below W.heap.size W wr) (hW : StrRow W.heap.size wr v acc) (hg : (wr.alloc o).grownBy w' v.ownBlock) : Below W.heap.size W w' :=
  (hb.alloc hb.size o).grown hg (by simp; have := hb.size; omega) (fun k hk => (World.ownsRow.lt hW k hk).1)
theorem newsS (w : World) (a : Value) (T : TypeId) : ∀ j u, [a][j]? = some u → (w.alloc (.cells #[a] T)).cell? ((⟨w.heap.size, 0, none⟩ : Addr).add j) = some u := by
  intro j u h
  match j, h with
  | 0, h => simp at h; subst h; simp [Addr.add]
theorem oneS (a : ByteArray) : ∀ u ∈ [Value.string a], u.oneCell' = true := by
  intro u hu; simp at hu; subst hu; rfl
/-- is a piece over at place k? -/
def isCut (s : ByteArray) (b : UInt8) (k : Nat) : Bool := if h : k < s.size then s[k] == b else true
/-- where the piece begins that goes on at place k -/
def frm (s : ByteArray) (b : UInt8) : Nat → Nat
  | 0 => 0
  | k + 1 => if isCut s b k then k + 1 else frm s b k
/-- the pieces that are over ahead of place k -/
def don (s : ByteArray) (b : UInt8) : Nat → List ByteArray
  | 0 => []
  | k + 1 => if isCut s b k then don s b k ++ [s.extract (frm s b k) k] else don s b k
def splitL (s : ByteArray) (b : UInt8) : List ByteArray := don s b (s.size + 1)
theorem frm_le (s : ByteArray) (b : UInt8) : ∀ k, frm s b k ≤ k
  | 0 => Nat.le_refl _
  | k + 1 => by unfold frm; split; exact Nat.le_refl _; have := frm_le s b k; omega
theorem don_length (s : ByteArray) (b : UInt8) : ∀ k, (don s b k).length ≤ k
  | 0 => Nat.le_refl _
  | k + 1 => by unfold don; split; (have := don_length s b k; simp; omega); have := don_length s b k; omega
theorem cut_end (s : ByteArray) (b : UInt8) : isCut s b s.size = true := by simp [isCut]
theorem cut_yes {s : ByteArray} {b : UInt8} {k : Nat} (h : k < s.size) (e : s[k] = b) : isCut s b k = true := by simp [isCut, h, e]
theorem cut_no {s : ByteArray} {b : UInt8} {k : Nat} (h : k < s.size) (e : ¬ s[k] = b) : isCut s b k = false := by simp [isCut, h, e]
theorem split_yes {s : ByteArray} {b : UInt8} {k j : Nat} (h : isCut s b k = true) (hj : j = frm s b k) : don s b (k + 1) = don s b k ++ [s.extract j k] ∧ frm s b (k + 1) = k + 1 := by
  rw [hj]; simp [don, frm, h]
theorem split_no {s : ByteArray} {b : UInt8} {k : Nat} (h : isCut s b k = false) : don s b (k + 1) = don s b k ∧ frm s b (k + 1) = frm s b k := by simp [don, frm, h]
theorem u8_eq {a b : UInt8} (h : a = b) : ((a.toNat : Int) == (b.toNat : Int)) = true := by rw [h]; simp
theorem u8_ne {a b : UInt8} (h : ¬ a = b) : ((a.toNat : Int) == (b.toNat : Int)) = false := by
  simp; intro e; apply h; exact UInt8.toNat_inj.1 (by exact_mod_cast e)
end Go.Proofs.YtcennddgbpkclaaDoor
