/- A law of my own, for iterators with bound arguments (method values) as well, for 'for x := range seq': the iterator may take steps of its own (St) between two rounds, a store into a captured variable among them, which the shelf's laws do not let it; the body keeps (Fr) what the iterator reads. -/
import Derived.RangeFuncNested
import Derived.RangeFuncBound
import Derived.RangeFuncCalls
import Derived.RangeFuncLeaves
namespace Go.Proofs.Ytmkelfkbbdfjdaa
open Go.RowKit
set_option linter.unusedVariables false
variable {F : Fence} {n : Nat} {P : Program} {α : Type}
/-- the call of an iterator value, at the yield of any loop l, for any two invariants that abide the iterator's own steps -/
def SeqBb (F : Fence) (n : Nat) (P : Program) (g : Nat) (ba lb : Array Value) (encs : α → Array Value) (St Fr : World → World → Prop) (S Sp : List α → Prop) (Start : World → Prop) : Prop :=
  ∀ (l : Nat) (J Jx : List α → World → Prop) (W : World), Start W →
    (∀ s A B, J s A → St A B → J s B) → (∀ s A B, Jx s A → St A B → Jx s B) → J [] W →
    (∀ pre x A, Sp (pre ++ [x]) → J pre A → YieldAt F (n - 1) P l (encs x) A fun e B => (e = .returned (.bool true) ∧ J (pre ++ [x]) B ∧ Fr A B) ∨ (e = .returned (.bool false) ∧ Jx (pre ++ [x]) B)) →
    CallsIn F n P g (ba ++ #[.func (.yield l) #[] #[]] ++ lb) W fun e B => ∃ v, e = .returned v ∧ ((∃ xs, S xs ∧ J xs B) ∨ ∃ pre, Sp pre ∧ Jx pre B)
/-- how a body may be left -/
def LeftBb (Fr : World → World → Prop) (I Ix : List α → World → Prop) (xs : List α) (W : World) : Exit → Act → World → Prop
  | .normal, _, B => KeepsOthers W B ∧ Fr W B ∧ I xs B
  | .ret, _, B => KeepsOthers W B ∧ Ix xs B
  | _, _, _ => False
/-- the loop's record and the block for deferred calls stand in W -/
def StandsB (K : Nat) (r : Loop) (W : World) : Prop := W.heap[K + 1]? = some (.loop r) ∧ W.heap[K]? = some (.deferred (some []))
theorem StandsB.put {K : Nat} {r r' : Loop} {W : World} (h : StandsB K r W) : StandsB K r' (W.putObj (K + 1) (.loop r')) :=
  ⟨World.putObj_heap_same (Array.getElem?_eq_some_iff.1 h.1).1, (World.putObj_heap_other (by omega)).trans h.2⟩
theorem StandsB.keeps {K : Nat} {r : Loop} {W B : World} (h : StandsB K r W) (hk : KeepsOthers W B) : StandsB K r B := ⟨hk.same _ _ h.1 rfl, hk.same _ _ h.2 rfl⟩
theorem wpIn_rangeBb {g : Operand} {ps : Array Tmp} {assign body : Code} {Q : Exit → Act → World → Prop} {a : Act} {w : World}
    (hro : F.round = none) (h1 : 1 ≤ n) {gf : Nat} {ba lb : Array Value} (hg : a.eval g = .func (.func gf) ba lb) (hFg : F.fn gf) (eg : ∀ args w, (callFunc gf args).run P w = .ok (.enter gf args) w)
    {encs : α → Array Value} {St Fr : World → World → Prop} {S Sp : List α → Prop} {Start : World → Prop} (hseq : SeqBb F (n - 1) P gf ba lb encs St Fr S Sp Start) (hps : ∀ x, (encs x).size = ps.size)
    (I Ix : List α → World → Prop) (a₁ : α → Act)
    (hIp : ∀ s W k o o', I s W → w.heap.size ≤ k → W.heap[k]? = some o → o.isCells = false → I s (W.putObj k o'))
    (hXp : ∀ s W k o o', Ix s W → w.heap.size ≤ k → W.heap[k]? = some o → o.isCells = false → Ix s (W.putObj k o'))
    (hFp : ∀ A W k o o', Fr A W → w.heap.size ≤ k → W.heap[k]? = some o → o.isCells = false → Fr A (W.putObj k o'))
    (hFq : ∀ W k o o', w.heap.size ≤ k → W.heap[k]? = some o → o.isCells = false → Fr W (W.putObj k o')) (hFt : ∀ {A B C : World}, Fr A B → Fr B C → Fr A C)
    (hIs : ∀ s A B, I s A → St A B → I s B) (hXs : ∀ s A B, Ix s A → St A B → Ix s B) (hSk : ∀ A B k o, St A B → w.heap.size ≤ k → A.heap[k]? = some o → o.isCells = false → B.heap[k]? = some o)
    (h0 : ∀ o o', I [] ((w.alloc o).alloc o')) (hS0 : ∀ o o', Start ((w.alloc o).alloc o'))
    (hassign : ∀ (l : Nat) (x : α) (W : World) (K : Act → World → Prop), K (a₁ x) W →
      assign.wpIn (F.inRound l) (n - 1 - 1) P (Exit.then K (fun _ _ _ => False)) { tmps := (ps.zip (encs x)).foldl (fun t (p, v) => t.setIfInBounds p v) a.tmps, defers := [] } W)
    (hbody : ∀ (l : Nat) (pre : List α) (x : α) (W : World), Sp (pre ++ [x]) → I pre W → body.wpIn (F.inRound l) (n - 1 - 1) P (LeftBb Fr I Ix (pre ++ [x]) W) (a₁ x) W)
    (hdone : ∀ (D : Nat) (xs : List α) (W : World), w.heap.size ≤ D → S xs → I xs W → W.heap[D]? = some (.deferred (some [])) → Q .normal { a with defers := { target := .collected D, args := #[] } :: a.defers } W)
    (hstop : ∀ (D : Nat) (pre : List α) (W : World), w.heap.size ≤ D → Sp pre → Ix pre W → W.heap[D]? = some (.deferred (some [])) → Code.ret.wpIn F n P Q { a with defers := { target := .collected D, args := #[] } :: a.defers } W) :
    (Code.rangeFunc g ps assign body).wpIn F n P Q a w := by
  refine wpIn_rangeFunc fun fn hfn => ?_
  rw [hro]
  let mk : LoopState → Option Code → Loop := fun st pe => { state := st, pending := pe, fn, tmps := a.tmps, params := ps, assign, body, defers := w.heap.size }
  refine ⟨w.heap.size + 1, [{ target := .collected w.heap.size, args := #[] }], (w.alloc (.deferred (some []))).alloc (.loop (mk .ready none)), { target := .fn (.func gf) lb, args := ba ++ #[.func (.yield (w.heap.size + 1)) #[] #[]] },
    (w.alloc (.deferred (some []))).alloc (.loop (mk .ready none)), gf, ba ++ #[.func (.yield (w.heap.size + 1)) #[] #[]] ++ lb, (w.alloc (.deferred (some []))).alloc (.loop (mk .ready none)),
    run_enterLoop_outer _ _ _ _ _, ?_, ?_, ?_, fun _ => h1, ?_⟩
  · simp only [resolve, hg]
    simp [go_sem]
  · intro f' hf'; simp [Target.leads] at hf'; subst hf'; exact hFg
  · simp [invoke, go_sem, eg]
  have st0 : StandsB w.heap.size (mk .ready none) ((w.alloc (.deferred (some []))).alloc (.loop (mk .ready none))) := by
    refine ⟨?_, ?_⟩
    · have := World.alloc_heap_new (w.alloc (.deferred (some []))) (.loop (mk .ready none)); rwa [World.size_alloc] at this
    · exact (Below.heap_alloc _ _ _ (by simp)).trans (World.alloc_heap_new w _)
  have stS : ∀ r A B, StandsB w.heap.size r A → St A B → StandsB w.heap.size r B := fun r A B h hs => ⟨hSk A B _ _ hs (by omega) h.1 rfl, hSk A B _ _ hs (by omega) h.2 rfl⟩
  refine (hseq (w.heap.size + 1) (fun s W => I s W ∧ StandsB w.heap.size (mk .ready none) W) (fun s W => Ix s W ∧ StandsB w.heap.size (mk .done (some .ret)) W) _ (hS0 _ _)
    (fun s A B h hs => ⟨hIs s A B h.1 hs, stS _ A B h.2 hs⟩) (fun s A B h hs => ⟨hXs s A B h.1 hs, stS _ A B h.2 hs⟩) ⟨h0 _ _, st0⟩ ?_).mono ?_
  · rintro pre x W hsp ⟨hi, hst⟩
    refine ⟨fn, _, assign, body, run_yield (P := P) (args := encs x) hst.1 (hps x), roundIn_of_wpIn hfn (hassign _ x W _ ⟨_, run_beginRound hst.1 rfl, ?_⟩)⟩
    have hb2 : StandsB w.heap.size (mk .busy none) (W.putObj (w.heap.size + 1) (.loop (mk .busy none))) := hst.put
    refine wpIn_mono (hbody _ pre x _ hsp (hIp _ _ _ _ _ hi (by omega) hst.1 rfl)) ?_
    rintro e a3 W3 hp
    cases e with
    | normal =>
      obtain ⟨hk, hf, hi3⟩ := hp
      have hs3 := hb2.keeps hk
      exact ⟨_, _, run_endRound (P := P) none hs3.1, .inl ⟨rfl, ⟨hIp _ _ _ _ _ hi3 (by omega) hs3.1 rfl, hs3.put⟩, hFp _ _ _ _ _ (hFt (hFq _ _ _ _ (by omega) hst.1 rfl) hf) (by omega) hs3.1 rfl⟩⟩
    | ret =>
      obtain ⟨hk, hi3⟩ := hp
      have hs3 := hb2.keeps hk
      exact ⟨_, _, run_endRound (P := P) (some .ret) hs3.1, .inr ⟨rfl, hXp _ _ _ _ _ hi3 (by omega) hs3.1 rfl, hs3.put⟩⟩
    | exit id => exact hp.elim
    | goto t => exact hp.elim
    | panic ch => exact hp.elim
    | outgrown => exact hp.elim
  · rintro e W2 ⟨v, rfl, (⟨xs, hS, hi, hst⟩ | ⟨pre, hSp, hi, hst⟩)⟩
    · exact ⟨none, _, run_endLoop (P := P) hst.1 (by simp [mk]), hdone _ xs _ (Nat.le_refl _) hS (hIp _ _ _ _ _ hi (by omega) hst.1 rfl) ((World.putObj_heap_other (by omega)).trans hst.2)⟩
    · exact ⟨some .ret, _, run_endLoop (P := P) hst.1 (by simp [mk]), hstop _ pre _ (Nat.le_refl _) hSp (hXp _ _ _ _ _ hi (by omega) hst.1 rfl) ((World.putObj_heap_other (by omega)).trans hst.2)⟩
end Go.Proofs.Ytmkelfkbbdfjdaa
