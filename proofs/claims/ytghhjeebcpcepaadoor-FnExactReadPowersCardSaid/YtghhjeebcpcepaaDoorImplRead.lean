/- Contract of the walk: impl.ReadPowers answers the list that a text writes, in a row of its own memory, or the code. -/
import Derived.Test.YtghhjeebcpcepaaDoorReadInv
import Derived.Test.YtghhjeebcpcepaaDoorPowersText
namespace Go.Proofs.YtghhjeebcpcepaaDoor
open Go.RowKit Go.Shelf
attribute [local go_sem] Oper.semAt_some
set_option linter.unusedVariables false
set_option maxRecDepth 20000 in
set_option maxHeartbeats 3200000 in
theorem implRead_more (s : ByteArray) (w : World) (hs0 : s.size ≤ 1100000) (h1 : ¬ s = ⟨#[49]⟩) (he : Env w) (ht : Tab w) :
    Calls Tryd.prog 14 #[.string s] w (RPost (readL s) (readC s) w) := by
  have hne : (s.toList == [49]) = false := by
    have h := str_ne h1
    rw [ByteArray.toList_eq ⟨#[49]⟩] at h
    exact h
  obtain ⟨i0, hi, hz0, hz1, hz2⟩ := info_parts Tryd.infoPower
  have HI := Lib.hid hi
  have HZ0 := Lib.hid hz0
  have HZ1 := Lib.hid hz1
  have HZ2 := Lib.hid hz2
  have HS := Lib.hid hs0
  have HE := Lib.hid he
  have HT := Lib.hid ht
  have H1 := Lib.hid h1
  clear hs0 he ht h1 hi hz0 hz1 hz2
  refine (callsIn_wide (n := 4)).1 ?_
  refine callsIn_of_wp_marks Tryd.func14 rfl trivial ?_ rfl
  simp only [Tryd.ntmps14, List.size_toArray, List.length_cons, List.length_nil, Nat.reduceAdd, Nat.reduceSub, Array.replicate_succ, Array.replicate_zero, List.push_toArray, List.append_toArray, List.nil_append, List.cons_append]
  gi_wp2_with (refine ⟨trivial, ?_⟩; gi_at_call 40; refine (callsIn_wide.2 (seq_made s _)).mono ?_; rintro e w' ⟨rfl, rfl⟩)
  obtain ⟨W6, hW6⟩ : ∃ W6, ((((((w.alloc (.cells #[.slice none 0 0] 24)).alloc (.cells #[.int .i64 0] 2)).alloc (.cells #[.slice none 0 0] 24)).alloc (.cells #[.string s] 9)).alloc (.cells #[.string ⟨#[42]⟩] 9)).alloc (.cells #[.int .i64 0] 3)) = W6 := ⟨_, rfl⟩
  have h6s : W6.heap.size = w.heap.size + 6 := by rw [← hW6]; simp
  have b0 : Boxed W6 w.heap.size 24 (.slice none 0 0) := by
    rw [← hW6]; exact (((((Boxed.new w 24 (.slice none 0 0)).alloc _).alloc _).alloc _).alloc _).alloc _
  have b1 : Boxed W6 (w.heap.size + 1) 2 (.int .i64 0) := by
    have h := Boxed.new (w.alloc (.cells #[.slice none 0 0] 24)) 2 (.int .i64 0)
    rw [World.size_alloc] at h
    rw [← hW6]; exact (((h.alloc _).alloc _).alloc _).alloc _
  have b2 : Boxed W6 (w.heap.size + 1 + 1) 24 (.slice none 0 0) := by
    have h := Boxed.new ((w.alloc (.cells #[.slice none 0 0] 24)).alloc (.cells #[.int .i64 0] 2)) 24 (.slice none 0 0)
    rw [World.size_alloc, World.size_alloc] at h
    rw [← hW6]; exact ((h.alloc _).alloc _).alloc _
  have b3 : Boxed W6 (w.heap.size + 1 + 1 + 1) 9 (.string s) := by
    have h := Boxed.new (((w.alloc (.cells #[.slice none 0 0] 24)).alloc (.cells #[.int .i64 0] 2)).alloc (.cells #[.slice none 0 0] 24)) 9 (.string s)
    rw [World.size_alloc, World.size_alloc, World.size_alloc] at h
    rw [← hW6]; exact (h.alloc _).alloc _
  have b4 : Boxed W6 (w.heap.size + 1 + 1 + 1 + 1) 9 (.string ⟨#[42]⟩) := by
    have h := Boxed.new ((((w.alloc (.cells #[.slice none 0 0] 24)).alloc (.cells #[.int .i64 0] 2)).alloc (.cells #[.slice none 0 0] 24)).alloc (.cells #[.string s] 9)) 9 (.string ⟨#[42]⟩)
    rw [World.size_alloc, World.size_alloc, World.size_alloc, World.size_alloc] at h
    rw [← hW6]; exact h.alloc _
  have b5 : Boxed W6 (w.heap.size + 1 + 1 + 1 + 2) 3 (.int .i64 0) := by
    have h := Boxed.new (((((w.alloc (.cells #[.slice none 0 0] 24)).alloc (.cells #[.int .i64 0] 2)).alloc (.cells #[.slice none 0 0] 24)).alloc (.cells #[.string s] 9)).alloc (.cells #[.string ⟨#[42]⟩] 9)) 3 (.int .i64 0)
    rw [World.size_alloc, World.size_alloc, World.size_alloc, World.size_alloc, World.size_alloc] at h
    rw [← hW6]; exact h
  have hB6 : Below w.heap.size w W6 := by
    rw [← hW6]
    exact ((((((Below.refl _ w).alloc (Nat.le_refl _) _).alloc (by simp) _).alloc (by simp; omega) _).alloc (by simp; omega) _).alloc (by simp; omega) _).alloc (by simp; omega) _
  rw [hW6]
  clear hW6
  have hsz : s.size ≤ 2000000 := Nat.le_trans HS.out (by omega)
  refine wpIn_rangeBy (F := Fence.wide) (n := 4) (P := Tryd.prog) (w := W6) rfl (by omega) (gf := 74) rfl trivial (enters_of Tryd.func74 (by kernel_rfl) rfl)
    (splitSeq_by 3 (by omega) (w.heap.size + 1 + 1 + 1) (w.heap.size + 1 + 1 + 1 + 1) (w.heap.size + 1 + 1 + 1 + 2) 42 s (by omega) (by omega) hsz) (fun _ => rfl)
    (RI w) (RX w) (fun x => { tmps := #[.string s, undef, .pointer (some ⟨w.heap.size, 0, none⟩), .pointer (some ⟨w.heap.size + 1, 0, none⟩), .pointer (some ⟨w.heap.size + 1 + 1, 0, none⟩), .string x, undef, undef, undef, undef, undef, .string s, .bool false, .string s, .func (.func 74) #[] #[.pointer (some ⟨w.heap.size + 1 + 1 + 1 + 1, 0, none⟩), .pointer (some ⟨w.heap.size + 1 + 1 + 1, 0, none⟩), .pointer (some ⟨w.heap.size + 1 + 1 + 1 + 2, 0, none⟩)], .string x, undef, undef, undef, undef, undef, undef, undef, undef, undef, undef, undef, undef, undef, undef, undef, undef, undef, undef, undef, undef, undef, undef, undef, undef, undef, undef, undef, undef, undef, undef, undef, undef], defers := [] })
    ?ip ?xp ?fp ?fq ?ft ?is ?xs ?sk ?h0 ?s0 ?assign ?body ?done ?stop
  case ip => rintro pre W k o o' ⟨hr, hb, hx⟩ hk ho hc; exact ⟨rrow_put hr ho hc, rbase_put hb (by omega) ho hc, rbox_put hx ho hc⟩
  case xp => rintro pre W k o o' ⟨hb, hx⟩ hk ho hc; exact ⟨rbase_put hb (by omega) ho hc, hx⟩
  case fp => intro A W k o o' hf hk ho hc; exact fr_put hf (by omega) (by omega) (by omega)
  case fq => intro W k o o' hk ho hc; exact fr_put (fr_refl W) (by omega) (by omega) (by omega)
  case ft => intro A B C h k; exact fr_trans h k
  case is => intro pre A B h hs; exact ri_st h hs
  case xs => intro pre A B h hs; exact rx_st h hs
  case sk => intro A B k o hs hk ho hc; exact st_keeps hs ho (by omega)
  case h0 =>
    intro o o'
    exact ⟨⟨_, [], (b2.alloc _).alloc _, powRow_nil _ _, rfl, by simp⟩, ⟨(b0.alloc _).alloc _, (b1.alloc _).alloc _, (hB6.alloc (by omega) _).alloc (by simp; omega) _⟩, ⟨_, (b3.alloc _).alloc _⟩, (b4.alloc _).alloc _, (b5.alloc _).alloc _⟩
  case s0 =>
    intro o o'
    exact ⟨((b3.alloc _).alloc _).cell, ((b3.alloc _).alloc _).frozen, ((b4.alloc _).alloc _).cell, ((b5.alloc _).alloc _).cell⟩
  case assign =>
    intro l x W K hK
    gi_wp2
    exact hK
  case body =>
    rintro l pre x W hsp ⟨⟨v, L, hv, hrow, hm, hL⟩, hb, hx⟩
    have hxs : x.size ≤ 2000000 := Nat.le_trans (prefix_size hsp) hsz
    have hE := env_below HE.out hb.bel (Nat.le_refl _)
    obtain ⟨o, c, rfl⟩ := powRow_slice hrow
    cases hr : rdP x with
    | none =>
      have HM := Lib.hid (map_none (pre := pre) hr)
      clear HI HZ0 HZ1 HZ2 HT H1 HE hm hsp
      gi_wp2_with (refine ⟨trivial, ?_⟩; gi_at_call 41; refine (CallsIn.inRound l (callsIn_wide.2 (readPair_none W hxs hE hr))).mono ?_; rintro e w2 ⟨rfl, hb2⟩; have r0 := (boxed_below hb.res hb2); have r1 := (boxed_below hb.code hb2); have r2 := (boxed_below hv hb2); have q0 := r0.cell; have q0f := r0.frozen; have q1 := r1.cell; have q1f := r1.frozen; have q2 := r2.cell)
      exact rx_ret hb hb2 (fun l _ => HM.out l)
    | some pk =>
      obtain ⟨p, k⟩ := pk
      obtain ⟨u, hu⟩ := hx.sb
      by_cases h60 : L.length = 60
      · have HM := Lib.hid (map_full (x := x) hm h60)
        have h60' : ((L.length : Int) == 60) = true := by simp; omega
        clear HI HZ0 HZ1 HZ2 HT H1 HE hm hsp h60
        gi_wp2_with (refine ⟨trivial, ?_⟩; gi_at_call 41; refine (CallsIn.inRound l (callsIn_wide.2 (readPair_some W hxs hE hr))).mono ?_; rintro e w2 ⟨rfl, hb2⟩; have r0 := (boxed_below hb.res hb2); have r1 := (boxed_below hb.code hb2); have r2 := (boxed_below hv hb2); have q0 := r0.cell; have q0f := r0.frozen; have q1 := r1.cell; have q1f := r1.frozen; have q2 := r2.cell)
        exact rx_ret hb hb2 HM.out
      · have HM := Lib.hid (map_snoc hm hr)
        have h60' : ((L.length : Int) == 60) = false := by simp; omega
        have hL59 : L.length ≤ 59 := by omega
        clear HT H1 HE hm hsp h60
        gi_wp2_with (first
          | (refine ⟨trivial, ?_⟩; gi_at_call 41; refine (CallsIn.inRound l (callsIn_wide.2 (readPair_some W hxs hE hr))).mono ?_; rintro e w2 ⟨rfl, hb2⟩; have r2 := (boxed_below hv hb2); have q2 := r2.cell; have hrw : PowRow w.heap.size w2 (.slice o L.length c) L := row_below hrow hb2 (Nat.le_refl _))
          | (gi_at_builtin; refine wpListIn_append_own _ rfl (.tmp 29) (.tmp 33) 24 rfl w.heap.size 54 i0 (.agg #[.int .i64 0, .int .i64 0]) 2 16 Tryd.underlying24 HI.out HZ0.out HZ1.out HZ2.out rfl (by decide) _ _ _ rfl (hrw.alloc _) ⟨w2.heap.size, 0, none⟩ 1 1 [.int .i64 p, .int .i64 k] rfl rfl ?c1 ?c2 ?c3 ?c4 ?c5 ?_))
        case c1 => first | exact news_two _ _ _ _ | simp [Addr.add]
        case c2 => first | exact one_two _ _ | rfl
        case c3 => unfold maxLen; omega
        case c4 => omega
        case c5 => have h1 := hb.bel.size; have h2 := hb2.size; first | omega | (simp; omega)
        intro v' w3 hown hgrow _
        obtain ⟨g', cap', rfl⟩ := ownsRow_succ hown
        obtain ⟨e1, e2, e3, e4⟩ := ri_next hb hx hv hb2 hrw hL59 HM.out hown hgrow
        have q3 := e1.cell
        have q3f := e1.frozen
        clear hown hgrow
        gi_wp2
        exact ⟨e2, e3, e4⟩
  case done =>
    rintro D xs W hD rfl ⟨⟨v, L, hv, hrow, hm, hL⟩, hb, hx⟩ hK
    have hT := tab_below HT.out hb.bel (Nat.le_refl _)
    obtain ⟨o, c, rfl⟩ := powRow_slice hrow
    have HR := Lib.hid (read_all H1.out hm)
    have hDb : w.heap.size ≤ D := by omega
    have q2w := hv.cell
    clear HI HZ0 HZ1 HZ2 HE hx hsz hm
    by_cases hA : arePowB L = true ∧ bsOf (psT L) = s
    · obtain ⟨hA1, hA2⟩ := hA
      have hR := HR.out
      rw [if_pos ⟨hA1, hA2⟩, if_pos ⟨hA1, hA2⟩] at hR
      have HR2 := Lib.hid hR
      have hc0 : textC L = 0 := by simp [textC, hA1]
      have ht : bsOf (textOf L) = s := by simp [textOf, hA1, hA2]
      clear HR hR hA1 hA2
      gi_wp2_with (refine ⟨trivial, ?_⟩; gi_at_call 11; refine (callsIn_wide.2 (implText_any w.heap.size o c L W (by omega) hrow hT)).mono ?_; rintro e w4 ⟨rfl, hb4⟩; rw [hc0, ht]; have q0 := (boxed_below hb.res hb4).cell; have q0f := (boxed_below hb.res hb4).frozen; have q1 := (boxed_below hb.code hb4).cell; have q1f := (boxed_below hb.code hb4).frozen; have q2 := (boxed_below hv hb4).cell)
      refine ⟨by simp, .inl ⟨_, _, rfl, run_takeDeferred (def_keeps hK hb4), ?_⟩⟩
      obtain ⟨z0, z1, z2⟩ := leave_cells (u1 := .slice o L.length c) (u2 := .int .i64 0) (o' := .deferred none) hb hb4 hK hDb
      refine ⟨.tuple #[.slice o L.length c, .int .i64 0], by simp [results, Tryd.results14, go_sem, z0, z1], ?_⟩
      rw [HR2.out.1, HR2.out.2]
      exact ⟨_, rfl, ownsRow_putObj (row_st2 ⟨boxed_below hb.res hb4, boxed_below hb.code hb4, hb.bel.trans (hb4.mono hb.bel.size)⟩ (row_below hrow hb4 (Nat.le_refl _))) _ (def_keeps hK hb4) rfl, z2⟩
    · have hR := HR.out
      rw [if_neg hA, if_neg hA] at hR
      have HR2 := Lib.hid hR
      clear HR hR
      cases hA1 : arePowB L
      · have hc1 : textC L = 1 := by simp [textC, hA1]
        clear hA hA1
        gi_wp2_with (refine ⟨trivial, ?_⟩; gi_at_call 11; refine (callsIn_wide.2 (implText_any w.heap.size o c L W (by omega) hrow hT)).mono ?_; rintro e w4 ⟨rfl, hb4⟩; rw [hc1]; have q0 := (boxed_below hb.res hb4).cell; have q0f := (boxed_below hb.res hb4).frozen; have q1 := (boxed_below hb.code hb4).cell; have q1f := (boxed_below hb.code hb4).frozen)
        refine ⟨by simp, .inl ⟨_, _, rfl, run_takeDeferred (def_keeps hK hb4), ?_⟩⟩
        obtain ⟨z0, z1, z2⟩ := leave_cells (u1 := .slice none 0 0) (u2 := .int .i64 6) (o' := .deferred none) hb hb4 hK hDb
        refine ⟨.tuple #[.slice none 0 0, .int .i64 6], by simp [results, Tryd.results14, go_sem, z0, z1], ?_⟩
        rw [HR2.out.1, HR2.out.2]
        exact ⟨_, rfl, powRow_nil _ _, z2⟩
      · have hc0 : textC L = 0 := by simp [textC, hA1]
        have hts : ¬ bsOf (textOf L) = s := by
          have e : textOf L = psT L := by simp [textOf, hA1]
          rw [e]; exact fun h => hA ⟨hA1, h⟩
        have hts' := str_ne hts
        clear hA hA1 hts
        gi_wp2_with (refine ⟨trivial, ?_⟩; gi_at_call 11; refine (callsIn_wide.2 (implText_any w.heap.size o c L W (by omega) hrow hT)).mono ?_; rintro e w4 ⟨rfl, hb4⟩; rw [hc0]; have q0 := (boxed_below hb.res hb4).cell; have q0f := (boxed_below hb.res hb4).frozen; have q1 := (boxed_below hb.code hb4).cell; have q1f := (boxed_below hb.code hb4).frozen)
        refine ⟨by simp, .inl ⟨_, _, rfl, run_takeDeferred (def_keeps hK hb4), ?_⟩⟩
        obtain ⟨z0, z1, z2⟩ := leave_cells (u1 := .slice none 0 0) (u2 := .int .i64 6) (o' := .deferred none) hb hb4 hK hDb
        refine ⟨.tuple #[.slice none 0 0, .int .i64 6], by simp [results, Tryd.results14, go_sem, z0, z1], ?_⟩
        rw [HR2.out.1, HR2.out.2]
        exact ⟨_, rfl, powRow_nil _ _, z2⟩
  case stop =>
    rintro D pre W hD hsp ⟨hb, hx⟩ hK
    have hN := read_none H1.out hsp hx
    have hb' := rbase_put (o' := .deferred none) hb (by omega) hK rfl
    have z0 := hb'.res.cell
    have z1 := hb'.code.cell
    gi_wp2
    refine ⟨by simp, .inl ⟨_, _, rfl, run_takeDeferred hK, ?_⟩⟩
    refine ⟨.tuple #[.slice none 0 0, .int .i64 6], by simp [results, Tryd.results14, go_sem, z0, z1], ?_⟩
    rw [hN.1, hN.2]
    exact ⟨_, rfl, powRow_nil _ _, hb'.bel⟩
end Go.Proofs.YtghhjeebcpcepaaDoor
