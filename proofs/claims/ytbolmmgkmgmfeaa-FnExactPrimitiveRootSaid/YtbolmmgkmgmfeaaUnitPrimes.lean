/- Contract of the walk: Ring.unitPrimes hands out the prime and the primes of its predecessor. -/
import Derived.Test.YtbolmmgkmgmfeaaFact
import Derived.Test.YtbolmmgkmgmfeaaDiv
import Derived.Test.YtbolmmgkmgmfeaaUnits
namespace Go.Proofs.Ytbolmmgkmgmfeaa
open Go.RowKit
set_option linter.unusedVariables false
theorem row_base {w : World} {b b' : Nat} {T : TypeId} {sz : Nat} {v : Value} {n : Nat} {xs : List Value} (h : w.ownsRow b T sz v n xs) (hb : b' ≤ b) : w.ownsRow b' T sz v n xs := by
  refine ⟨h.1, ?_⟩
  rcases h.2 with h | ⟨g, cap, cur, e, hbg, rest⟩
  · exact .inl h
  · exact .inr ⟨g, cap, cur, e, Nat.le_trans hb hbg, rest⟩
theorem news_second (w : World) (o : Obj) (a : Value) (T : TypeId) : ∀ j u, [a][j]? = some u → ((w.alloc o).alloc (.cells #[a] T)).cell? ((⟨w.heap.size + 1, 0, none⟩ : Addr).add j) = some u := by
  intro j u h
  have e : (w.alloc o).heap.size = w.heap.size + 1 := by simp
  have := news_one (w.alloc o) a T j u h
  rw [e] at this
  exact this
theorem below_append2 {W wr w' : World} {v : Value} {o o' : Obj} {acc : List Int} (hb : Below W.heap.size W wr) (hW : IntRow W.heap.size wr v acc) (hg : ((wr.alloc o).alloc o').grownBy w' v.ownBlock) : Below W.heap.size W w' :=
  ((hb.alloc hb.size o).alloc (by simp; have := hb.size; omega) o').grown hg (by simp; have := hb.size; omega) (fun k hk => (World.ownsRow.lt hW k hk).1)
theorem powRow_form {base : Nat} {w : World} {v : Value} {l : List (Int × Int)} (h : PowRow base w v l) : ∃ o c, v = .slice o l.length c := by
  rcases row_shape h with ⟨h0, o, c, rfl⟩ | ⟨h0, g, c, rfl, hb, hg⟩
  · exact ⟨o, c, by rw [h0]⟩
  · exact ⟨_, c, rfl⟩
theorem powRow_some {base : Nat} {w : World} {o : Option Addr} {c : Nat} {l : List (Int × Int)} (h : PowRow base w (.slice o l.length c) l) (h0 : 0 < l.length) : ∃ g, o = some ⟨g, 0, none⟩ := by
  rcases row_shape h with ⟨h1, _⟩ | ⟨_, g, c', hv, hb, hg⟩
  · omega
  · cases hv; exact ⟨g, rfl⟩
theorem intRow_one (w : World) (o : Obj) (a : Int) : IntRow w.heap.size ((w.alloc o).alloc (.cells #[.int .i64 a] 2)) (.slice (some ⟨w.heap.size + 1, 0, none⟩) 1 1) [a] := by
  have e : (w.alloc o).heap.size = w.heap.size + 1 := by simp
  have h := heap_alloc_new (w.alloc o) (.cells #[.int .i64 a] 2)
  rw [e] at h
  exact ⟨by simp, .inr ⟨w.heap.size + 1, 1, #[.int .i64 a], rfl, by omega, h, Nat.le_refl _, by unfold maxLen; omega, rfl, rfl⟩⟩
def upL (l : List (Int × Int)) (p : Int) (k : Nat) : List Int := p :: (l.take k).map (·.1)
theorem upL_zero (l : List (Int × Int)) (p : Int) : upL l p 0 = [p] := rfl
theorem upL_succ {l : List (Int × Int)} {p : Int} {k : Nat} (h : k < l.length) : upL l p (k + 1) = upL l p k ++ [(l.getD k (0, 0)).1] := by
  unfold upL
  rw [List.take_add_one, List.getElem?_eq_getElem h, List.getD_eq_getElem?_getD, List.getElem?_eq_getElem h]
  show p :: List.map _ (List.take k l ++ [l[k]]) = _
  rw [List.map_append]; rfl
theorem upL_length {l : List (Int × Int)} {p : Int} {k : Nat} : (upL l p k).length ≤ l.length + 1 := by
  unfold upL; simp; omega
theorem upL_all (l : List (Int × Int)) (p : Int) : upL l p l.length = p :: l.map (·.1) := by unfold upL; rw [List.take_length]
set_option maxHeartbeats 800000 in
theorem unitPrimes_any (p n : Int) (w : World) (hs : smallB p = true) :
    Calls Try.prog 75 #[.agg #[.int .i64 p, .int .i64 n]] w fun e w' => ∃ v, e = .returned v ∧ IntRow w.heap.size w' v (p :: (factT (p - 1)).map (·.1)) ∧ Below w.heap.size w w' := by
  obtain ⟨i0, hi, hz0, hz1, hz2⟩ := info_parts Try.infoInt64
  have HI := Lib.hid hi
  have HZ0 := Lib.hid hz0
  have HZ1 := Lib.hid hz1
  have HZ2 := Lib.hid hz2
  clear hi hz0 hz1 hz2
  obtain ⟨hp2, hp97⟩ := smallB_bd hs
  have hf1 : 1 ≤ p - 1 := by omega
  have hf2 : p - 1 ≤ 1000000 := by omega
  have hlen := factT_length hf1 hf2
  obtain ⟨l, hl⟩ : ∃ l, factT (p - 1) = l := ⟨_, rfl⟩
  rw [hl] at hlen
  rw [hl]
  have HL := Lib.hid hl
  go_enter Try.func75, Try.ntmps75
  go_wp2_with (go_at_call 90; refine (implFact_val _ _ hf1 hf2).mono ?_; rintro e wn ⟨v, rfl, hrow, hb⟩; obtain ⟨o, c, rfl⟩ := powRow_form hrow)
  rw [HL.out] at hrow
  have HP := Lib.hid (show PowRow w.heap.size wn (.slice o l.length c) l from row_base hrow (by simp; omega))
  have HR := Lib.hid (show IntRow w.heap.size wn (.slice (some ⟨w.heap.size + 1, 0, none⟩) 1 1) [p] from row_below (intRow_one w _ p) hb (Nat.le_refl _))
  have HB := Lib.hid ((((Below.refl w.heap.size w).alloc (Nat.le_refl _) _).alloc (by simp) _).trans (hb.mono (by simp; omega)))
  clear hrow hb hl
  go_wp2
  go_loopw [3, 20] (fun pv iv wr => ∃ k : Nat, iv = .int .i64 k ∧ k ≤ l.length ∧ IntRow w.heap.size wr pv (upL l p k) ∧ PowRow w.heap.size wr (.slice o l.length c) l ∧ Below w.heap.size w wr) (fun _ iv _ => l.length - (intOf iv).toNat)
  case atStart => exact ⟨0, rfl, Nat.zero_le _, HR.out, HP.out, HB.out⟩
  case round =>
    obtain ⟨k, rfl, hk, hr, hp, hb⟩ := hrel
    have bs := hb.size
    have bl := upL_length (l := l) (p := p) (k := k)
    have HW := Lib.hid hr
    have HQ := Lib.hid hp
    have HB2 := Lib.hid hb
    clear hr hp hb HP HR HB
    by_cases hlt : k < l.length
    · obtain ⟨g, rfl⟩ := powRow_some HQ.out (by omega)
      obtain ⟨d0, d1⟩ := pow_cells HQ.out k hlt
      obtain ⟨x, hx⟩ : ∃ x, (l.getD k (0, 0)).1 = x := ⟨_, rfl⟩
      obtain ⟨y, hy⟩ : ∃ y, (l.getD k (0, 0)).2 = y := ⟨_, rfl⟩
      rw [hx] at d0
      rw [hy] at d1
      have HX := Lib.hid hx
      clear hx hy
      go_wp2_with (at_builtin; refine wpList_append_own _ rfl (.tmp 24) (.tmp 27) 37 rfl w.heap.size 2 i0 (.int .i64 0) 1 8 Try.underlying37 HI.out HZ0.out HZ1.out HZ2.out rfl (by decide) _ _ _ rfl ((HW.out.alloc _).alloc _) ⟨wr.heap.size + 1, 0, none⟩ 1 1 [.int .i64 x] rfl rfl ?c1 ?c2 ?c3 ?c4 ?c5 ?_)
      case c1 => first | exact news_second _ _ _ _ | simp [Addr.add]
      case c2 => first | exact one_one _ | rfl
      case c3 => unfold maxLen; omega
      case c4 => omega
      case c5 => first | omega | (simp; omega)
      intro v' w1 hown hgrow _
      have HO := Lib.hid (intRow_snoc hown)
      have HG := Lib.hid (below_append2 HB2.out HW.out hgrow)
      have HT := Lib.hid (World.ownsRow.kept ((HQ.out.alloc _).alloc _) hgrow (rows_apart HQ.out HW.out (by decide)))
      clear hown hgrow
      go_wp2
      go_roundw
      case rel => exact ⟨k + 1, by go_num, by omega, by rw [upL_succ hlt, HX.out]; exact HO.out, HT.out, HG.out⟩
      case measure => simp [intOf]; omega
    · have hkm : k = l.length := by omega
      subst hkm
      go_wp2
      go_ret
      exact ⟨_, rfl, by have := HW.out; rw [upL_all] at this; exact this, HB2.out⟩
end Go.Proofs.Ytbolmmgkmgmfeaa
