/- Ranges over a function, where a round is told what comes, and what it lies in: what such a function promises, and the law of the statement. -/
import Derived.Test.YtcicpgiljceioaaZRangeB
namespace Go.Proofs.Ytcicpgiljceioaa.Pk
open Go.RowKit Go.Shelf
set_option linter.unusedVariables false

/-- A function behind bound arguments pb that goes over things: its caller's word may speak of all but the blocks that it makes itself (no cells, new); a round leaves those alone. -/
def GoesW {α : Type} (m : Nat) (P : Program) (g : Nat) (pb lb : Array Value) (encs : α → Array Value) (Kp : World → World → Prop) (S Sp : List α → Prop) (Ok : Nat → List α → α → World → Prop) (w : World) : Prop :=
  ∀ (l : Nat) (J Jx : List α → World → Prop) (W : World), Below w.heap.size w W → OwnFrom W.heap.size J → OwnFrom W.heap.size Jx →
    (∀ pre x W1, J pre W1 → Ok W.heap.size pre x W1 → YieldAt Fence.wide (m - 1) P l (encs x) W1 fun e W' => KeepsAll W.heap.size W1 W' ∧
      ((e = .returned (.bool true) ∧ J (pre ++ [x]) W' ∧ Kp W1 W') ∨ (e = .returned (.bool false) ∧ Jx (pre ++ [x]) W'))) →
    J [] W →
    CallsIn Fence.wide m P g (pb ++ #[.func (.yield l) #[] #[]] ++ lb) W fun e W' => (∃ v, e = .returned v) ∧ ((∃ xs, S xs ∧ J xs W') ∨ (∃ pre, Sp pre ∧ Jx pre W'))

section
variable {n : Nat} {P : Program} {α : Type} {g : Operand} {ps : Array Tmp} {assign body : Code} {Q : Exit → Act → World → Prop} {a : Act} {w : World}
theorem range_boundW {gf : Nat} {pb lb : Array Value} (hg : a.eval g = .func (.func gf) pb lb) (eg : ∀ args w, (callFunc gf args).run P w = .ok (.enter gf args) w)
    {encs : α → Array Value} {Kp : World → World → Prop} {S Sp : List α → Prop} {Ok : Nat → List α → α → World → Prop} (hseq : GoesW (n - 1) P gf pb lb encs Kp S Sp Ok w)
    (hKt : ∀ {A B C : World}, Kp A B → Kp B C → Kp A C) (hKb : ∀ (W : World) (l : Nat) (o o' : Obj), w.heap.size ≤ l → W.heap[l]? = some o → o.isCells = false → o.isWalk = false → Kp W (W.putObj l o')) (hps : ∀ x, (encs x).size = ps.size)
    (hOk : ∀ (B : Nat) (pre : List α) (x : α) (W : World) (l : Nat) (o o' : Obj), W.heap[l]? = some o → o.isCells = false → Ok B pre x W → Ok B pre x (W.putObj l o'))
    (I : List α → World → Prop) (Ix : Code → List α → World → Prop) (hI : OwnFrom w.heap.size I) (hIx : ∀ c, OwnFrom w.heap.size (Ix c)) (h0 : I [] w) (a₁ : α → Act)
    (hassign : ∀ (l : Nat) (x : α) (W : World) (K : Act → World → Prop), K (a₁ x) W →
      assign.wpIn (Fence.wide.inRound l) (n - 1 - 1) P (Exit.then K (fun _ _ _ => False)) { tmps := (ps.zip (encs x)).foldl (fun t (p, v) => t.setIfInBounds p v) a.tmps, defers := [] } W)
    (hbody : ∀ (l : Nat) (pre : List α) (x : α) (W : World), w.heap.size ≤ l → (∃ r, W.heap[l]? = some (.loop r)) → I pre W → (∃ B, w.heap.size ≤ B ∧ Ok B pre x W) → body.wpIn (Fence.wide.inRound l) (n - 1 - 1) P (postB w.heap.size Kp I Ix (pre ++ [x]) W) (a₁ x) W)
    (hdone : ∀ (D : Nat) (xs : List α) (W : World), w.heap.size ≤ D → S xs → I xs W → W.heap[D]? = some (.deferred (some [])) → Q .normal { a with defers := { target := .collected D, args := #[] } :: a.defers } W)
    (hstop : ∀ (D : Nat) (c : Code) (pre : List α) (W : World), w.heap.size ≤ D → Sp pre → Ix c pre W → W.heap[D]? = some (.deferred (some [])) → c.wpIn Fence.wide n P Q { a with defers := { target := .collected D, args := #[] } :: a.defers } W) :
    (Code.rangeFunc g ps assign body).wpIn Fence.wide n P Q a w := by
  refine wpIn_rangeFunc (fun fn hfn => ?_)
  -- D: the mark's block; L: the record's
  generalize hD : w.heap.size = D at *
  obtain ⟨rc, hrc⟩ : ∃ rc : LoopState → Option Code → Loop, rc = fun st pe => { state := st, pending := pe, fn, tmps := a.tmps, params := ps, assign, body, defers := D } := ⟨_, rfl⟩
  obtain ⟨V, hV⟩ : ∃ V, V = (w.alloc (.deferred (some []))).alloc (.loop (rc .ready none)) := ⟨_, rfl⟩
  have hVs : V.heap.size = D + 2 := by rw [hV, World.size_alloc, World.size_alloc, hD]
  have hVL : V.heap[D + 1]? = some (.loop (rc .ready none)) := by
    have := World.alloc_heap_new (w.alloc (.deferred (some []))) (.loop (rc .ready none))
    rwa [World.size_alloc, hD, ← hV] at this
  have hVD : V.heap[D]? = some (.deferred (some [])) := by
    have h1 := World.alloc_heap_new w (.deferred (some []))
    rw [hD] at h1
    rw [hV]
    exact (Below.heap_alloc _ _ _ (by rw [World.size_alloc]; omega)).trans h1
  have hbV : Below D w V := by rw [hV]; exact ((Below.refl D w).alloc (by omega) _).alloc (by rw [World.size_alloc]; omega) _
  have hIV : I [] V := by rw [hV]; exact hI.alloc _ (hI.alloc _ h0)
  -- the law's own two blocks, at a state of the record
  obtain ⟨Two, hTwo⟩ : ∃ Two : LoopState → Option Code → World → Prop, Two = fun st pe W => W.heap[D + 1]? = some (.loop (rc st pe)) ∧ W.heap[D]? = some (.deferred (some [])) := ⟨_, rfl⟩
  have two_grown : ∀ {st pe} {A B : World} {row : Option Nat}, Two st pe A → A.grownBy B row → (∀ r, row = some r → V.heap.size ≤ r) → Two st pe B := by
    intro st pe A B row h hg hr
    rw [hTwo] at h ⊢
    have key : ∀ k o, k < D + 2 → A.heap[k]? = some o → B.heap[k]? = some o := fun k o hk hh => (hg.block k (Array.getElem?_eq_some_iff.1 hh).1 (fun e => by have := hr k e.symm; omega)).trans hh
    exact ⟨key _ _ (by omega) h.1, key _ _ (by omega) h.2⟩
  have two_put : ∀ {st pe} {A : World} (st' : LoopState) (pe' : Option Code), Two st pe A → Two st' pe' (A.putObj (D + 1) (.loop (rc st' pe'))) := by
    intro st pe A st' pe' h
    rw [hTwo] at h ⊢
    exact ⟨World.putObj_heap_same (Array.getElem?_eq_some_iff.1 h.1).1, (World.putObj_heap_other (by omega)).trans h.2⟩
  have two_keeps : ∀ {st pe} {A B : World}, Two st pe A → KeepsAll D A B → Two st pe B := by
    intro st pe A B h hk
    rw [hTwo] at h ⊢
    exact ⟨(hk.same _ (by omega) (Array.getElem?_eq_some_iff.1 h.1).1).trans h.1, (hk.same _ (Nat.le_refl _) (Array.getElem?_eq_some_iff.1 h.2).1).trans h.2⟩
  have own_two : ∀ {I' : List α → World → Prop} {st pe}, OwnFrom D I' → OwnFrom V.heap.size (fun pre W => I' pre W ∧ Two st pe W) := by
    intro I' st pe h s A B row hs hg hr
    exact ⟨h s A B row hs.1 hg (fun r e => ⟨by have := (hr r e).1; omega, (hr r e).2⟩), two_grown hs.2 hg (fun r e => (hr r e).1)⟩
  refine ⟨D + 1, [{ target := .collected D, args := #[] }], V, { target := .fn (.func gf) lb, args := pb ++ #[.func (.yield (D + 1)) #[] #[]] }, V, gf, pb ++ #[.func (.yield (D + 1)) #[] #[]] ++ lb, V, ?_, ?_, ?_, ?_, fun h => (by cases h), ?_⟩
  · have := run_enterLoop_outer (P := P) (w := w) fn a.tmps ps assign body
    rw [hD] at this
    rw [hV, hrc]; exact this
  · simp only [resolve, hg]
    simp [go_sem]
  · intro f' _; trivial
  · simp [invoke, go_sem, eg]
  · refine (hseq (D + 1) (fun pre W => I pre W ∧ Two .ready none W) (fun pre W => ∃ c, Ix c pre W ∧ Two .done (some c) W) V (hD.symm ▸ hbV) (own_two hI) ?_ ?_ ⟨hIV, by rw [hTwo]; exact ⟨hVL, hVD⟩⟩).mono ?_
    · rintro s A B row ⟨c, hc⟩ hg hr
      exact ⟨c, own_two (hIx c) s A B row hc hg hr⟩
    · rintro pre x W ⟨hi, ht⟩ hlen
      have ht' := ht
      rw [hTwo] at ht'
      have hy := run_yield (P := P) (args := encs x) ht'.1 (by rw [hrc]; exact hps x)
      rw [hrc] at hy
      refine ⟨fn, _, assign, body, hy, roundIn_of_wpIn hfn (hassign _ x W _ ⟨_, run_beginRound ht'.1 (by rw [hrc]), ?_⟩)⟩
      have hb2 : Two .busy none (W.putObj (D + 1) (.loop (rc .busy none))) := two_put .busy none ht
      have hrb : ({ rc .ready none with state := .busy } : Loop) = rc .busy none := by rw [hrc]
      rw [hrb]
      have hw2 : Kp W (W.putObj (D + 1) (.loop (rc .busy none))) := hKb _ _ _ _ (by omega) ht'.1 rfl rfl
      have hb2' := hb2
      rw [hTwo] at hb2'
      refine wpIn_mono (hbody _ pre x _ (by omega) ⟨_, hb2'.1⟩ (hI.putObj _ hi (by omega) ht'.1 rfl) ⟨V.heap.size, by omega, hOk _ _ _ _ _ _ _ ht'.1 rfl hlen⟩) ?_
      -- behind the body: the round's end by its jump
      have fin : ∀ (jump : Option Code) (W3 : World), KeepsAll D (W.putObj (D + 1) (.loop (rc .busy none))) W3 →
          (Instr.endRound (D + 1) jump).run P W3 = .ok (.bool jump.isNone) (W3.putObj (D + 1) (.loop (rc (if jump.isNone then .ready else .done) jump))) ∧ Two (if jump.isNone then .ready else .done) jump (W3.putObj (D + 1) (.loop (rc (if jump.isNone then .ready else .done) jump))) ∧
          KeepsAll V.heap.size W (W3.putObj (D + 1) (.loop (rc (if jump.isNone then .ready else .done) jump))) ∧ W3.heap[D + 1]? = some (.loop (rc .busy none)) := by
        intro jump W3 hk
        have h3 := two_keeps hb2 hk
        have h3' := h3
        rw [hTwo] at h3'
        have he := run_endRound (P := P) jump h3'.1
        have hre : ({ rc .busy none with state := if jump.isNone then LoopState.ready else LoopState.done, pending := jump } : Loop) = rc (if jump.isNone then .ready else .done) jump := by rw [hrc]
        rw [hre] at he
        refine ⟨he, two_put _ _ h3, ?_, h3'.1⟩
        exact ((KeepsAll.put W _ (by omega)).trans (hk.more (by omega))).trans (KeepsAll.put W3 _ (by omega))
      have leave : ∀ (c : Code) (W3 : World), KeepsAll D (W.putObj (D + 1) (.loop (rc .busy none))) W3 → Ix c (pre ++ [x]) W3 → ∃ v w', (Instr.endRound (D + 1) (some c)).run P W3 = .ok v w' ∧ (KeepsAll V.heap.size W w' ∧
          ((Ending.returned v = .returned (.bool true) ∧ (I (pre ++ [x]) w' ∧ Two .ready none w') ∧ Kp W w') ∨ (Ending.returned v = .returned (.bool false) ∧ ∃ c, Ix c (pre ++ [x]) w' ∧ Two .done (some c) w'))) := by
        intro c W3 hk hx
        obtain ⟨f1, f2, f3, f4⟩ := fin (some c) W3 hk
        exact ⟨_, _, f1, f3, .inr ⟨rfl, c, (hIx c).putObj _ hx (by omega) f4 rfl, f2⟩⟩
      rintro e a3 W3 hp
      cases e with
      | normal =>
        obtain ⟨hk3, hkp3, hi3⟩ := hp
        obtain ⟨f1, f2, f3, f4⟩ := fin none W3 hk3
        exact ⟨_, _, f1, f3, .inl ⟨rfl, ⟨hI.putObj _ hi3 (by omega) f4 rfl, f2⟩, hKt (hKt hw2 hkp3) (hKb _ _ _ _ (by omega) f4 rfl rfl)⟩⟩
      | ret => exact leave .ret W3 hp.1 hp.2
      | exit id => exact leave (.exit id) W3 hp.1 hp.2
      | goto t => exact leave (.goto t) W3 hp.1 hp.2
      | panic ch => exact hp.elim
      | outgrown => exact hp.elim
    · rintro e W2 ⟨⟨v, rfl⟩, (⟨xs, hS, hi, ht⟩ | ⟨pre, hSp, c, hi, ht⟩)⟩
      · rw [hTwo] at ht
        have he := run_endLoop (P := P) ht.1 (by rw [hrc]; simp)
        have hpe : (rc .ready none).pending = none := by rw [hrc]
        rw [hpe] at he
        exact ⟨none, _, he, hdone _ xs _ (Nat.le_refl _) hS (hI.putObj _ hi (by omega) ht.1 rfl) ((World.putObj_heap_other (by omega)).trans ht.2)⟩
      · rw [hTwo] at ht
        have he := run_endLoop (P := P) ht.1 (by rw [hrc]; simp)
        have hpe : (rc .done (some c)).pending = some c := by rw [hrc]
        rw [hpe] at he
        exact ⟨some c, _, he, hstop _ c pre _ (Nat.le_refl _) hSp ((hIx c).putObj _ hi (by omega) ht.1 rfl) ((World.putObj_heap_other (by omega)).trans ht.2)⟩
end
end Go.Proofs.Ytcicpgiljceioaa.Pk
