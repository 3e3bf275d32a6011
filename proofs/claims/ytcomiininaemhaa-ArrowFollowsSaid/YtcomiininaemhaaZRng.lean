/- Ranges over functions: who turns which block, what a return takes with it; needs no package. -/
import Derived.RangeFuncNested
import Derived.RangeFuncBound
import Derived.RangeFuncCalls
import Derived.RangeFuncLeaves
import Derived.RangeFuncBox
import Derived.RangeFuncWrites
import Derived.Shelf.Abstract
import Derived.Shelf.RegionOpen
import Derived.OwnWalkIn
import Derived.TacticsInMore
import Derived.LoopNIn
import Derived.LoopIn
import Derived.LoopTactic
import Derived.Outline
import Derived.Lib.Hide
import Derived.Test.YtcomiininaemhaaZMem
import Derived.Test.YtcomiininaemhaaProg
import Derived.Sort.QuietIn
namespace Go.Proofs.Ytcomiininaemhaa.Pk
open Go.RowKit Go.Shelf
set_option linter.unusedVariables false
attribute [local go_sem] Oper.semAt_some

/-- Only block R may have turned, and new blocks are there. -/
def Only (w w' : World) (R : Nat) : Prop := w.grownBy w' (some R)
theorem Only.refl (w : World) (R : Nat) : Only w w R := ⟨rfl, rfl, rfl, Nat.le_refl _, fun _ _ _ => rfl⟩
theorem Only.trans {a b c : World} {R : Nat} (h : Only a b R) (k : Only b c R) : Only a c R :=
  ⟨k.os.trans h.os, k.tape.trans h.tape, k.output.trans h.output, Nat.le_trans h.size k.size, fun i hi hn => (k.block i (Nat.lt_of_lt_of_le hi h.size) hn).trans (h.block i hi hn)⟩
theorem Only.of {w w' : World} (h : Below w.heap.size w w') (R : Nat) : Only w w' R := ⟨h.os, h.tape, h.output, h.size, fun i hi _ => h.block i hi⟩
theorem Only.drewN {a w : World} {R : Nat} (h : Only a w R) (n : Nat) : Only a (w.drewN n) R := ⟨h.os, h.tape, h.output, h.size, h.block⟩
theorem Only.set {w w' : World} {R : Nat} (h : Only w w' R) (o : Nat) (u : Value) : Only w (w'.setCell ⟨R, o, none⟩ u) R :=
  ⟨h.os, h.tape, h.output, by simpa [World.setCell] using h.size, fun i hi hn => (Below.heap_setCell w' ⟨R, o, none⟩ u i (by rintro rfl; exact hn rfl)).trans (h.block i hi hn)⟩
theorem Only.below {B : Nat} {a w w' : World} {R : Nat} (h : Below B a w) (k : Only w w' R) (hR : B ≤ R) (hB : B ≤ w.heap.size) : Below B a w' :=
  h.grown k hB (fun g e => by injection e with e; omega)

theorem blk_kept {A B : World} {row : Option Nat} {g : Nat} {t : TypeId} {cs : Array Value} (h : Blk A g t cs) (hg : A.grownBy B row) (hr : ∀ r, row = some r → ∃ o, A.heap[r]? = some o ∧ o.isCells = false) : Blk B g t cs := by
  refine (hg.block g h.lt (fun e => ?_)).trans h
  obtain ⟨o, h1, h2⟩ := hr g e.symm
  unfold Blk at h
  rw [h] at h1
  injection h1 with h1
  subst h1
  simp [Obj.isCells] at h2

theorem own_only {β : Type} (W1 : World) (x : Nat) : OwnFrom (β := β) W1.heap.size (fun _ W => Only W1 W x) := by
  intro s A B row h hg hr
  refine ⟨hg.os.trans h.os, hg.tape.trans h.tape, hg.output.trans h.output, Nat.le_trans h.size hg.size, fun k hk hne => ?_⟩
  refine (hg.block k (Nat.lt_of_lt_of_le hk h.size) (fun e => ?_)).trans (h.block k hk hne)
  have := (hr k e.symm).1
  omega
theorem blk_put {W : World} {g : Nat} {t : TypeId} {u : Value} (h : Blk W g t #[u]) (v : Value) : Blk (W.setCell ⟨g, 0, none⟩ v) g t #[v] := by
  have := h.set_ 0 v
  simpa using this
def Marks (B : Nat) : List Deferred → World → Prop
  | [], _ => True
  | d :: ds, W => ∃ D, d = { target := .collected D, args := #[] } ∧ B ≤ D ∧ D < W.heap.size ∧ W.heap[D]? = some (.deferred (some [])) ∧ (∀ d' ∈ ds, d' ≠ d) ∧ Marks B ds W
theorem Marks.mem {B : Nat} {ds : List Deferred} {W : World} (h : Marks B ds W) : ∀ d ∈ ds, ∃ D, d = { target := .collected D, args := #[] } ∧ B ≤ D ∧ D < W.heap.size ∧ W.heap[D]? = some (.deferred (some [])) := by
  induction ds with
  | nil => intro d hd; cases hd
  | cons x r ih =>
    obtain ⟨D, e, h1, h2, h3, h4, h5⟩ := h
    intro d hd
    rcases List.mem_cons.1 hd with rfl | hd
    · exact ⟨D, e, h1, h2, h3⟩
    · exact ih h5 d hd
theorem Marks.keep {B : Nat} {ds : List Deferred} {W W' : World} (h : Marks B ds W) (hs : W.heap.size ≤ W'.heap.size) (hk : ∀ k, (∃ d ∈ ds, d = { target := .collected k, args := #[] }) → W'.heap[k]? = W.heap[k]?) : Marks B ds W' := by
  induction ds with
  | nil => trivial
  | cons x r ih =>
    obtain ⟨D, e, h1, h2, h3, h4, h5⟩ := h
    exact ⟨D, e, h1, by omega, (hk D ⟨x, by simp, e⟩).trans h3, h4, ih h5 (fun k ⟨d, hd, he⟩ => hk k ⟨d, by simp [hd], he⟩)⟩
/-- Blocks of cells are none of them. -/
theorem Marks.only {B : Nat} {ds : List Deferred} {W W' : World} {g : Nat} {t : TypeId} {cs : Array Value} (h : Marks B ds W) (ho : Only W W' g) (hg : Blk W g t cs) : Marks B ds W' := by
  refine h.keep ho.size (fun k ⟨d, hd, he⟩ => ho.block k ?_ (fun e => ?_))
  · obtain ⟨D, e1, _, h2, _⟩ := h.mem d hd
    rw [e1] at he
    injection he with he
    injection he with he
    omega
  · injection e with e
    subst e
    obtain ⟨D, e1, _, h2, h3⟩ := h.mem d hd
    rw [e1] at he
    injection he with he
    injection he with he
    subst he
    unfold Blk at hg
    rw [hg] at h3; cases h3
theorem Marks.below {B : Nat} {ds : List Deferred} {W W' : World} (h : Marks B ds W) (hb : Below W.heap.size W W') : Marks B ds W' :=
  h.keep hb.size (fun k ⟨d, hd, he⟩ => hb.block k (by
    obtain ⟨D, e1, _, h2, _⟩ := h.mem d hd
    rw [e1] at he
    injection he with he
    injection he with he
    omega))
theorem Marks.cons {B D : Nat} {ds : List Deferred} {W : World} (h : Marks B ds W) (hlt : ∀ d ∈ ds, ∀ k, d = { target := .collected k, args := #[] } → k < D) (hB : B ≤ D) (hD : W.heap[D]? = some (.deferred (some []))) : Marks B ({ target := .collected D, args := #[] } :: ds) W := by
  refine ⟨D, rfl, hB, ?_, hD, fun d' hd' e => ?_, h⟩
  · rcases Nat.lt_or_ge D W.heap.size with h1 | h1
    · exact h1
    · rw [Array.getElem?_eq_none h1] at hD; cases hD
  · have := hlt d' hd' D e
    omega
/-- All below the heap's size as it was. -/
theorem Marks.lt {B : Nat} {ds : List Deferred} {W : World} (h : Marks B ds W) : ∀ d ∈ ds, ∀ k, d = { target := .collected k, args := #[] } → k < W.heap.size := by
  intro d hd k e
  obtain ⟨D, e1, _, h2, _⟩ := h.mem d hd
  rw [e1] at e
  injection e with e
  injection e with e
  omega

theorem below_putObj {B D : Nat} (W : World) (o : Obj) (h : B ≤ D) : Below B W (W.putObj D o) :=
  ⟨rfl, rfl, rfl, by simp [World.putObj], fun k hk => World.putObj_heap_other (by omega)⟩

/-- At the return each is taken. -/
theorem Marks.leave {F : Fence} {n : Nat} {P : Program} {fn : Func} {tmps : Array Value} {R : Ending → World → Prop} {B : Nat} : ∀ (ds : List Deferred) (W : World), Marks B ds W →
    (∀ W', Below B W W' → LeavesIn F n P fn tmps R [] .returning W') → LeavesInM F n P fn tmps R ds .returning W := by
  intro ds
  induction ds with
  | nil => intro W _ h; exact h W (Below.refl _ _)
  | cons d ds ih =>
    intro W hm h
    obtain ⟨D, rfl, h1, h2, h3, h4, h5⟩ := hm
    refine ⟨by simp, .inl ⟨D, W.putObj D (.deferred none), rfl, run_takeDeferred h3, ?_⟩⟩
    have hb := below_putObj W (.deferred none) h1
    refine ih _ (h5.keep (by simp [World.putObj]) (fun k ⟨d, hd, he⟩ => World.putObj_heap_other (fun e => ?_))) (fun W' hW' => h W' (hb.trans hW'))
    exact h4 d hd (by rw [he, e])
end Go.Proofs.Ytcomiininaemhaa.Pk

/- Ranges over a method value, whose function may hold ranges of its own: what such a function promises, and the law of the statement; needs no package. -/
namespace Go.Proofs.Ytcomiininaemhaa.Pk
open Go.RowKit Go.Shelf
set_option linter.unusedVariables false

/-- What lay at or beyond B lies as it lay. -/
structure KeepsAll (B : Nat) (W W' : World) : Prop where
  size : W.heap.size ≤ W'.heap.size
  same : ∀ k, B ≤ k → k < W.heap.size → W'.heap[k]? = W.heap[k]?
theorem KeepsAll.refl (B : Nat) (W : World) : KeepsAll B W W := ⟨Nat.le_refl _, fun _ _ _ => rfl⟩
theorem KeepsAll.trans {B : Nat} {X Y Z : World} (h : KeepsAll B X Y) (k : KeepsAll B Y Z) : KeepsAll B X Z := ⟨Nat.le_trans h.size k.size, fun i hB hi => (k.same i hB (Nat.lt_of_lt_of_le hi h.size)).trans (h.same i hB hi)⟩
theorem KeepsAll.more {B B' : Nat} {W W' : World} (h : KeepsAll B W W') (hB : B ≤ B') : KeepsAll B' W W' := ⟨h.size, fun k hk h1 => h.same k (by omega) h1⟩
theorem KeepsAll.put {B l : Nat} (W : World) (o : Obj) (h : l < B) : KeepsAll B W (W.putObj l o) := ⟨by simp [World.putObj], fun k hB hk => World.putObj_heap_other (by omega)⟩
theorem KeepsAll.of_only {B x : Nat} {W W' : World} (h : Only W W' x) (hx : x < B) : KeepsAll B W W' := ⟨h.size, fun k hB hk => h.block k hk (fun e => by injection e with e; omega)⟩
theorem KeepsAll.of_below {B : Nat} {W W' : World} (h : Below W.heap.size W W') : KeepsAll B W W' := ⟨h.size, fun k _ hk => h.block k hk⟩
theorem KeepsAll.drewN {B : Nat} {W W' : World} (h : KeepsAll B W W') (n : Nat) : KeepsAll B W (W'.drewN n) := ⟨h.size, h.same⟩
theorem KeepsAll.setCell {B x : Nat} (W : World) (hx : x < B) (u : Value) : KeepsAll B W (W.setCell ⟨x, 0, none⟩ u) :=
  ⟨by simp [World.setCell], fun k hB hk => Below.heap_setCell W ⟨x, 0, none⟩ u k (by show ¬ k = x; omega)⟩
/-- How the body of a round may be left. -/
def postB {α : Type} (B : Nat) (Kp : World → World → Prop) (I : List α → World → Prop) (Ix : Code → List α → World → Prop) (xs : List α) (W : World) : Exit → Act → World → Prop
  | .normal, _, W' => KeepsAll B W W' ∧ Kp W W' ∧ I xs W'
  | .ret, _, W' => KeepsAll B W W' ∧ Ix .ret xs W'
  | .exit id, _, W' => KeepsAll B W W' ∧ Ix (.exit id) xs W'
  | .goto t, _, W' => KeepsAll B W W' ∧ Ix (.goto t) xs W'
  | .panic _, _, _ => False
  | .outgrown, _, _ => False

/-- A function behind bound arguments pb that goes over things: its caller's word may speak of all but the blocks that it makes itself (no cells, new); a round leaves those alone. -/
def GoesB {α : Type} (m : Nat) (P : Program) (g : Nat) (pb lb : Array Value) (encs : α → Array Value) (Kp : World → World → Prop) (S Sp : List α → Prop) (N : Nat) (w : World) : Prop :=
  ∀ (l : Nat) (J Jx : List α → World → Prop) (W : World), Below w.heap.size w W → OwnFrom W.heap.size J → OwnFrom W.heap.size Jx →
    (∀ pre x W1, J pre W1 → pre.length < N → YieldAt Fence.wide (m - 1) P l (encs x) W1 fun e W' => KeepsAll W.heap.size W1 W' ∧
      ((e = .returned (.bool true) ∧ J (pre ++ [x]) W' ∧ Kp W1 W') ∨ (e = .returned (.bool false) ∧ Jx (pre ++ [x]) W'))) →
    J [] W →
    CallsIn Fence.wide m P g (pb ++ #[.func (.yield l) #[] #[]] ++ lb) W fun e W' => (∃ v, e = .returned v) ∧ ((∃ xs, S xs ∧ J xs W') ∨ (∃ pre, Sp pre ∧ Jx pre W'))

section
variable {n : Nat} {P : Program} {α : Type} {g : Operand} {ps : Array Tmp} {assign body : Code} {Q : Exit → Act → World → Prop} {a : Act} {w : World}
theorem range_bound {gf : Nat} {pb lb : Array Value} (hg : a.eval g = .func (.func gf) pb lb) (eg : ∀ args w, (callFunc gf args).run P w = .ok (.enter gf args) w)
    {encs : α → Array Value} {Kp : World → World → Prop} {S Sp : List α → Prop} {N : Nat} (hseq : GoesB (n - 1) P gf pb lb encs Kp S Sp N w)
    (hKt : ∀ {A B C : World}, Kp A B → Kp B C → Kp A C) (hKb : ∀ (W : World) (l : Nat) (o o' : Obj), w.heap.size ≤ l → W.heap[l]? = some o → o.isCells = false → o.isWalk = false → Kp W (W.putObj l o')) (hps : ∀ x, (encs x).size = ps.size)
    (I : List α → World → Prop) (Ix : Code → List α → World → Prop) (hI : OwnFrom w.heap.size I) (hIx : ∀ c, OwnFrom w.heap.size (Ix c)) (h0 : I [] w) (a₁ : α → Act)
    (hassign : ∀ (l : Nat) (x : α) (W : World) (K : Act → World → Prop), K (a₁ x) W →
      assign.wpIn (Fence.wide.inRound l) (n - 1 - 1) P (Exit.then K (fun _ _ _ => False)) { tmps := (ps.zip (encs x)).foldl (fun t (p, v) => t.setIfInBounds p v) a.tmps, defers := [] } W)
    (hbody : ∀ (l : Nat) (pre : List α) (x : α) (W : World), w.heap.size ≤ l → (∃ r, W.heap[l]? = some (.loop r)) → I pre W → pre.length < N → body.wpIn (Fence.wide.inRound l) (n - 1 - 1) P (postB w.heap.size Kp I Ix (pre ++ [x]) W) (a₁ x) W)
    (hdone : ∀ (D : Nat) (xs : List α) (W : World), w.heap.size ≤ D → S xs → I xs W → W.heap[D]? = some (.deferred (some [])) → Q .normal { a with defers := { target := .collected D, args := #[] } :: a.defers } W)
    (hstop : ∀ (D : Nat) (c : Code) (pre : List α) (W : World), w.heap.size ≤ D → Sp pre → Ix c pre W → W.heap[D]? = some (.deferred (some [])) → c.wpIn Fence.wide n P Q { a with defers := { target := .collected D, args := #[] } :: a.defers } W) :
    (Code.rangeFunc g ps assign body).wpIn Fence.wide n P Q a w := by
  refine wpIn_rangeFunc (fun fn hfn => ?_)
  -- D: the mark's block; L: the record's
  generalize hD : w.heap.size = D at *
  obtain ⟨rc, hrc⟩ : ∃ rc : LoopState → Option Code → Loop, rc = fun st pe => { state := st, pending := pe, fn, tmps := a.tmps, params := ps, assign, body, defers := D } := ⟨_, rfl⟩
  obtain ⟨V, hV⟩ : ∃ V, V = (w.alloc (.deferred (some []))).alloc (.loop (rc .ready none)) := ⟨_, rfl⟩
  have hVs : V.heap.size = D + 2 := by rw [hV, World.size_alloc, World.size_alloc, hD]
  have hVL : V.heap[D + 1]? = some (.loop (rc .ready none)) := by
    have := World.alloc_heap_new (w.alloc (.deferred (some []))) (.loop (rc .ready none))
    rwa [World.size_alloc, hD, ← hV] at this
  have hVD : V.heap[D]? = some (.deferred (some [])) := by
    have h1 := World.alloc_heap_new w (.deferred (some []))
    rw [hD] at h1
    rw [hV]
    exact (Below.heap_alloc _ _ _ (by rw [World.size_alloc]; omega)).trans h1
  have hbV : Below D w V := by rw [hV]; exact ((Below.refl D w).alloc (by omega) _).alloc (by rw [World.size_alloc]; omega) _
  have hIV : I [] V := by rw [hV]; exact hI.alloc _ (hI.alloc _ h0)
  -- the law's own two blocks, at a state of the record
  obtain ⟨Two, hTwo⟩ : ∃ Two : LoopState → Option Code → World → Prop, Two = fun st pe W => W.heap[D + 1]? = some (.loop (rc st pe)) ∧ W.heap[D]? = some (.deferred (some [])) := ⟨_, rfl⟩
  have two_grown : ∀ {st pe} {A B : World} {row : Option Nat}, Two st pe A → A.grownBy B row → (∀ r, row = some r → V.heap.size ≤ r) → Two st pe B := by
    intro st pe A B row h hg hr
    rw [hTwo] at h ⊢
    have key : ∀ k o, k < D + 2 → A.heap[k]? = some o → B.heap[k]? = some o := fun k o hk hh => (hg.block k (Array.getElem?_eq_some_iff.1 hh).1 (fun e => by have := hr k e.symm; omega)).trans hh
    exact ⟨key _ _ (by omega) h.1, key _ _ (by omega) h.2⟩
  have two_put : ∀ {st pe} {A : World} (st' : LoopState) (pe' : Option Code), Two st pe A → Two st' pe' (A.putObj (D + 1) (.loop (rc st' pe'))) := by
    intro st pe A st' pe' h
    rw [hTwo] at h ⊢
    exact ⟨World.putObj_heap_same (Array.getElem?_eq_some_iff.1 h.1).1, (World.putObj_heap_other (by omega)).trans h.2⟩
  have two_keeps : ∀ {st pe} {A B : World}, Two st pe A → KeepsAll D A B → Two st pe B := by
    intro st pe A B h hk
    rw [hTwo] at h ⊢
    exact ⟨(hk.same _ (by omega) (Array.getElem?_eq_some_iff.1 h.1).1).trans h.1, (hk.same _ (Nat.le_refl _) (Array.getElem?_eq_some_iff.1 h.2).1).trans h.2⟩
  have own_two : ∀ {I' : List α → World → Prop} {st pe}, OwnFrom D I' → OwnFrom V.heap.size (fun pre W => I' pre W ∧ Two st pe W) := by
    intro I' st pe h s A B row hs hg hr
    exact ⟨h s A B row hs.1 hg (fun r e => ⟨by have := (hr r e).1; omega, (hr r e).2⟩), two_grown hs.2 hg (fun r e => (hr r e).1)⟩
  refine ⟨D + 1, [{ target := .collected D, args := #[] }], V, { target := .fn (.func gf) lb, args := pb ++ #[.func (.yield (D + 1)) #[] #[]] }, V, gf, pb ++ #[.func (.yield (D + 1)) #[] #[]] ++ lb, V, ?_, ?_, ?_, ?_, fun h => (by cases h), ?_⟩
  · have := run_enterLoop_outer (P := P) (w := w) fn a.tmps ps assign body
    rw [hD] at this
    rw [hV, hrc]; exact this
  · simp only [resolve, hg]
    simp [go_sem]
  · intro f' _; trivial
  · simp [invoke, go_sem, eg]
  · refine (hseq (D + 1) (fun pre W => I pre W ∧ Two .ready none W) (fun pre W => ∃ c, Ix c pre W ∧ Two .done (some c) W) V (hD.symm ▸ hbV) (own_two hI) ?_ ?_ ⟨hIV, by rw [hTwo]; exact ⟨hVL, hVD⟩⟩).mono ?_
    · rintro s A B row ⟨c, hc⟩ hg hr
      exact ⟨c, own_two (hIx c) s A B row hc hg hr⟩
    · rintro pre x W ⟨hi, ht⟩ hlen
      have ht' := ht
      rw [hTwo] at ht'
      have hy := run_yield (P := P) (args := encs x) ht'.1 (by rw [hrc]; exact hps x)
      rw [hrc] at hy
      refine ⟨fn, _, assign, body, hy, roundIn_of_wpIn hfn (hassign _ x W _ ⟨_, run_beginRound ht'.1 (by rw [hrc]), ?_⟩)⟩
      have hb2 : Two .busy none (W.putObj (D + 1) (.loop (rc .busy none))) := two_put .busy none ht
      have hrb : ({ rc .ready none with state := .busy } : Loop) = rc .busy none := by rw [hrc]
      rw [hrb]
      have hw2 : Kp W (W.putObj (D + 1) (.loop (rc .busy none))) := hKb _ _ _ _ (by omega) ht'.1 rfl rfl
      have hb2' := hb2
      rw [hTwo] at hb2'
      refine wpIn_mono (hbody _ pre x _ (by omega) ⟨_, hb2'.1⟩ (hI.putObj _ hi (by omega) ht'.1 rfl) hlen) ?_
      -- behind the body: the round's end by its jump
      have fin : ∀ (jump : Option Code) (W3 : World), KeepsAll D (W.putObj (D + 1) (.loop (rc .busy none))) W3 →
          (Instr.endRound (D + 1) jump).run P W3 = .ok (.bool jump.isNone) (W3.putObj (D + 1) (.loop (rc (if jump.isNone then .ready else .done) jump))) ∧ Two (if jump.isNone then .ready else .done) jump (W3.putObj (D + 1) (.loop (rc (if jump.isNone then .ready else .done) jump))) ∧
          KeepsAll V.heap.size W (W3.putObj (D + 1) (.loop (rc (if jump.isNone then .ready else .done) jump))) ∧ W3.heap[D + 1]? = some (.loop (rc .busy none)) := by
        intro jump W3 hk
        have h3 := two_keeps hb2 hk
        have h3' := h3
        rw [hTwo] at h3'
        have he := run_endRound (P := P) jump h3'.1
        have hre : ({ rc .busy none with state := if jump.isNone then LoopState.ready else LoopState.done, pending := jump } : Loop) = rc (if jump.isNone then .ready else .done) jump := by rw [hrc]
        rw [hre] at he
        refine ⟨he, two_put _ _ h3, ?_, h3'.1⟩
        exact ((KeepsAll.put W _ (by omega)).trans (hk.more (by omega))).trans (KeepsAll.put W3 _ (by omega))
      have leave : ∀ (c : Code) (W3 : World), KeepsAll D (W.putObj (D + 1) (.loop (rc .busy none))) W3 → Ix c (pre ++ [x]) W3 → ∃ v w', (Instr.endRound (D + 1) (some c)).run P W3 = .ok v w' ∧ (KeepsAll V.heap.size W w' ∧
          ((Ending.returned v = .returned (.bool true) ∧ (I (pre ++ [x]) w' ∧ Two .ready none w') ∧ Kp W w') ∨ (Ending.returned v = .returned (.bool false) ∧ ∃ c, Ix c (pre ++ [x]) w' ∧ Two .done (some c) w'))) := by
        intro c W3 hk hx
        obtain ⟨f1, f2, f3, f4⟩ := fin (some c) W3 hk
        exact ⟨_, _, f1, f3, .inr ⟨rfl, c, (hIx c).putObj _ hx (by omega) f4 rfl, f2⟩⟩
      rintro e a3 W3 hp
      cases e with
      | normal =>
        obtain ⟨hk3, hkp3, hi3⟩ := hp
        obtain ⟨f1, f2, f3, f4⟩ := fin none W3 hk3
        exact ⟨_, _, f1, f3, .inl ⟨rfl, ⟨hI.putObj _ hi3 (by omega) f4 rfl, f2⟩, hKt (hKt hw2 hkp3) (hKb _ _ _ _ (by omega) f4 rfl rfl)⟩⟩
      | ret => exact leave .ret W3 hp.1 hp.2
      | exit id => exact leave (.exit id) W3 hp.1 hp.2
      | goto t => exact leave (.goto t) W3 hp.1 hp.2
      | panic ch => exact hp.elim
      | outgrown => exact hp.elim
    · rintro e W2 ⟨⟨v, rfl⟩, (⟨xs, hS, hi, ht⟩ | ⟨pre, hSp, c, hi, ht⟩)⟩
      · rw [hTwo] at ht
        have he := run_endLoop (P := P) ht.1 (by rw [hrc]; simp)
        have hpe : (rc .ready none).pending = none := by rw [hrc]
        rw [hpe] at he
        exact ⟨none, _, he, hdone _ xs _ (Nat.le_refl _) hS (hI.putObj _ hi (by omega) ht.1 rfl) ((World.putObj_heap_other (by omega)).trans ht.2)⟩
      · rw [hTwo] at ht
        have he := run_endLoop (P := P) ht.1 (by rw [hrc]; simp)
        have hpe : (rc .done (some c)).pending = some c := by rw [hrc]
        rw [hpe] at he
        exact ⟨some c, _, he, hstop _ c pre _ (Nat.le_refl _) hSp ((hIx c).putObj _ hi (by omega) ht.1 rfl) ((World.putObj_heap_other (by omega)).trans ht.2)⟩
end
end Go.Proofs.Ytcomiininaemhaa.Pk

/- Ranges over a function, where a round is told what comes, and what it lies in: what such a function promises, and the law of the statement. -/
namespace Go.Proofs.Ytcomiininaemhaa.Pk
open Go.RowKit Go.Shelf
set_option linter.unusedVariables false

/-- A function behind bound arguments pb that goes over things: its caller's word may speak of all but the blocks that it makes itself (no cells, new); a round leaves those alone. -/
def GoesW {α : Type} (m : Nat) (P : Program) (g : Nat) (pb lb : Array Value) (encs : α → Array Value) (Kp : World → World → Prop) (S Sp : List α → Prop) (Ok : Nat → List α → α → World → Prop) (w : World) : Prop :=
  ∀ (l : Nat) (J Jx : List α → World → Prop) (W : World), Below w.heap.size w W → OwnFrom W.heap.size J → OwnFrom W.heap.size Jx →
    (∀ pre x W1, J pre W1 → Ok W.heap.size pre x W1 → YieldAt Fence.wide (m - 1) P l (encs x) W1 fun e W' => KeepsAll W.heap.size W1 W' ∧
      ((e = .returned (.bool true) ∧ J (pre ++ [x]) W' ∧ Kp W1 W') ∨ (e = .returned (.bool false) ∧ Jx (pre ++ [x]) W'))) →
    J [] W →
    CallsIn Fence.wide m P g (pb ++ #[.func (.yield l) #[] #[]] ++ lb) W fun e W' => (∃ v, e = .returned v) ∧ ((∃ xs, S xs ∧ J xs W') ∨ (∃ pre, Sp pre ∧ Jx pre W'))

section
variable {n : Nat} {P : Program} {α : Type} {g : Operand} {ps : Array Tmp} {assign body : Code} {Q : Exit → Act → World → Prop} {a : Act} {w : World}
theorem range_boundW {gf : Nat} {pb lb : Array Value} (hg : a.eval g = .func (.func gf) pb lb) (eg : ∀ args w, (callFunc gf args).run P w = .ok (.enter gf args) w)
    {encs : α → Array Value} {Kp : World → World → Prop} {S Sp : List α → Prop} {Ok : Nat → List α → α → World → Prop} (hseq : GoesW (n - 1) P gf pb lb encs Kp S Sp Ok w)
    (hKt : ∀ {A B C : World}, Kp A B → Kp B C → Kp A C) (hKb : ∀ (W : World) (l : Nat) (o o' : Obj), w.heap.size ≤ l → W.heap[l]? = some o → o.isCells = false → o.isWalk = false → Kp W (W.putObj l o')) (hps : ∀ x, (encs x).size = ps.size)
    (hOk : ∀ (B : Nat) (pre : List α) (x : α) (W : World) (l : Nat) (o o' : Obj), W.heap[l]? = some o → o.isCells = false → Ok B pre x W → Ok B pre x (W.putObj l o'))
    (I : List α → World → Prop) (Ix : Code → List α → World → Prop) (hI : OwnFrom w.heap.size I) (hIx : ∀ c, OwnFrom w.heap.size (Ix c)) (h0 : I [] w) (a₁ : α → Act)
    (hassign : ∀ (l : Nat) (x : α) (W : World) (K : Act → World → Prop), K (a₁ x) W →
      assign.wpIn (Fence.wide.inRound l) (n - 1 - 1) P (Exit.then K (fun _ _ _ => False)) { tmps := (ps.zip (encs x)).foldl (fun t (p, v) => t.setIfInBounds p v) a.tmps, defers := [] } W)
    (hbody : ∀ (l : Nat) (pre : List α) (x : α) (W : World), w.heap.size ≤ l → (∃ r, W.heap[l]? = some (.loop r)) → I pre W → (∃ B, w.heap.size ≤ B ∧ Ok B pre x W) → body.wpIn (Fence.wide.inRound l) (n - 1 - 1) P (postB w.heap.size Kp I Ix (pre ++ [x]) W) (a₁ x) W)
    (hdone : ∀ (D : Nat) (xs : List α) (W : World), w.heap.size ≤ D → S xs → I xs W → W.heap[D]? = some (.deferred (some [])) → Q .normal { a with defers := { target := .collected D, args := #[] } :: a.defers } W)
    (hstop : ∀ (D : Nat) (c : Code) (pre : List α) (W : World), w.heap.size ≤ D → Sp pre → Ix c pre W → W.heap[D]? = some (.deferred (some [])) → c.wpIn Fence.wide n P Q { a with defers := { target := .collected D, args := #[] } :: a.defers } W) :
    (Code.rangeFunc g ps assign body).wpIn Fence.wide n P Q a w := by
  refine wpIn_rangeFunc (fun fn hfn => ?_)
  -- D: the mark's block; L: the record's
  generalize hD : w.heap.size = D at *
  obtain ⟨rc, hrc⟩ : ∃ rc : LoopState → Option Code → Loop, rc = fun st pe => { state := st, pending := pe, fn, tmps := a.tmps, params := ps, assign, body, defers := D } := ⟨_, rfl⟩
  obtain ⟨V, hV⟩ : ∃ V, V = (w.alloc (.deferred (some []))).alloc (.loop (rc .ready none)) := ⟨_, rfl⟩
  have hVs : V.heap.size = D + 2 := by rw [hV, World.size_alloc, World.size_alloc, hD]
  have hVL : V.heap[D + 1]? = some (.loop (rc .ready none)) := by
    have := World.alloc_heap_new (w.alloc (.deferred (some []))) (.loop (rc .ready none))
    rwa [World.size_alloc, hD, ← hV] at this
  have hVD : V.heap[D]? = some (.deferred (some [])) := by
    have h1 := World.alloc_heap_new w (.deferred (some []))
    rw [hD] at h1
    rw [hV]
    exact (Below.heap_alloc _ _ _ (by rw [World.size_alloc]; omega)).trans h1
  have hbV : Below D w V := by rw [hV]; exact ((Below.refl D w).alloc (by omega) _).alloc (by rw [World.size_alloc]; omega) _
  have hIV : I [] V := by rw [hV]; exact hI.alloc _ (hI.alloc _ h0)
  -- the law's own two blocks, at a state of the record
  obtain ⟨Two, hTwo⟩ : ∃ Two : LoopState → Option Code → World → Prop, Two = fun st pe W => W.heap[D + 1]? = some (.loop (rc st pe)) ∧ W.heap[D]? = some (.deferred (some [])) := ⟨_, rfl⟩
  have two_grown : ∀ {st pe} {A B : World} {row : Option Nat}, Two st pe A → A.grownBy B row → (∀ r, row = some r → V.heap.size ≤ r) → Two st pe B := by
    intro st pe A B row h hg hr
    rw [hTwo] at h ⊢
    have key : ∀ k o, k < D + 2 → A.heap[k]? = some o → B.heap[k]? = some o := fun k o hk hh => (hg.block k (Array.getElem?_eq_some_iff.1 hh).1 (fun e => by have := hr k e.symm; omega)).trans hh
    exact ⟨key _ _ (by omega) h.1, key _ _ (by omega) h.2⟩
  have two_put : ∀ {st pe} {A : World} (st' : LoopState) (pe' : Option Code), Two st pe A → Two st' pe' (A.putObj (D + 1) (.loop (rc st' pe'))) := by
    intro st pe A st' pe' h
    rw [hTwo] at h ⊢
    exact ⟨World.putObj_heap_same (Array.getElem?_eq_some_iff.1 h.1).1, (World.putObj_heap_other (by omega)).trans h.2⟩
  have two_keeps : ∀ {st pe} {A B : World}, Two st pe A → KeepsAll D A B → Two st pe B := by
    intro st pe A B h hk
    rw [hTwo] at h ⊢
    exact ⟨(hk.same _ (by omega) (Array.getElem?_eq_some_iff.1 h.1).1).trans h.1, (hk.same _ (Nat.le_refl _) (Array.getElem?_eq_some_iff.1 h.2).1).trans h.2⟩
  have own_two : ∀ {I' : List α → World → Prop} {st pe}, OwnFrom D I' → OwnFrom V.heap.size (fun pre W => I' pre W ∧ Two st pe W) := by
    intro I' st pe h s A B row hs hg hr
    exact ⟨h s A B row hs.1 hg (fun r e => ⟨by have := (hr r e).1; omega, (hr r e).2⟩), two_grown hs.2 hg (fun r e => (hr r e).1)⟩
  refine ⟨D + 1, [{ target := .collected D, args := #[] }], V, { target := .fn (.func gf) lb, args := pb ++ #[.func (.yield (D + 1)) #[] #[]] }, V, gf, pb ++ #[.func (.yield (D + 1)) #[] #[]] ++ lb, V, ?_, ?_, ?_, ?_, fun h => (by cases h), ?_⟩
  · have := run_enterLoop_outer (P := P) (w := w) fn a.tmps ps assign body
    rw [hD] at this
    rw [hV, hrc]; exact this
  · simp only [resolve, hg]
    simp [go_sem]
  · intro f' _; trivial
  · simp [invoke, go_sem, eg]
  · refine (hseq (D + 1) (fun pre W => I pre W ∧ Two .ready none W) (fun pre W => ∃ c, Ix c pre W ∧ Two .done (some c) W) V (hD.symm ▸ hbV) (own_two hI) ?_ ?_ ⟨hIV, by rw [hTwo]; exact ⟨hVL, hVD⟩⟩).mono ?_
    · rintro s A B row ⟨c, hc⟩ hg hr
      exact ⟨c, own_two (hIx c) s A B row hc hg hr⟩
    · rintro pre x W ⟨hi, ht⟩ hlen
      have ht' := ht
      rw [hTwo] at ht'
      have hy := run_yield (P := P) (args := encs x) ht'.1 (by rw [hrc]; exact hps x)
      rw [hrc] at hy
      refine ⟨fn, _, assign, body, hy, roundIn_of_wpIn hfn (hassign _ x W _ ⟨_, run_beginRound ht'.1 (by rw [hrc]), ?_⟩)⟩
      have hb2 : Two .busy none (W.putObj (D + 1) (.loop (rc .busy none))) := two_put .busy none ht
      have hrb : ({ rc .ready none with state := .busy } : Loop) = rc .busy none := by rw [hrc]
      rw [hrb]
      have hw2 : Kp W (W.putObj (D + 1) (.loop (rc .busy none))) := hKb _ _ _ _ (by omega) ht'.1 rfl rfl
      have hb2' := hb2
      rw [hTwo] at hb2'
      refine wpIn_mono (hbody _ pre x _ (by omega) ⟨_, hb2'.1⟩ (hI.putObj _ hi (by omega) ht'.1 rfl) ⟨V.heap.size, by omega, hOk _ _ _ _ _ _ _ ht'.1 rfl hlen⟩) ?_
      -- behind the body: the round's end by its jump
      have fin : ∀ (jump : Option Code) (W3 : World), KeepsAll D (W.putObj (D + 1) (.loop (rc .busy none))) W3 →
          (Instr.endRound (D + 1) jump).run P W3 = .ok (.bool jump.isNone) (W3.putObj (D + 1) (.loop (rc (if jump.isNone then .ready else .done) jump))) ∧ Two (if jump.isNone then .ready else .done) jump (W3.putObj (D + 1) (.loop (rc (if jump.isNone then .ready else .done) jump))) ∧
          KeepsAll V.heap.size W (W3.putObj (D + 1) (.loop (rc (if jump.isNone then .ready else .done) jump))) ∧ W3.heap[D + 1]? = some (.loop (rc .busy none)) := by
        intro jump W3 hk
        have h3 := two_keeps hb2 hk
        have h3' := h3
        rw [hTwo] at h3'
        have he := run_endRound (P := P) jump h3'.1
        have hre : ({ rc .busy none with state := if jump.isNone then LoopState.ready else LoopState.done, pending := jump } : Loop) = rc (if jump.isNone then .ready else .done) jump := by rw [hrc]
        rw [hre] at he
        refine ⟨he, two_put _ _ h3, ?_, h3'.1⟩
        exact ((KeepsAll.put W _ (by omega)).trans (hk.more (by omega))).trans (KeepsAll.put W3 _ (by omega))
      have leave : ∀ (c : Code) (W3 : World), KeepsAll D (W.putObj (D + 1) (.loop (rc .busy none))) W3 → Ix c (pre ++ [x]) W3 → ∃ v w', (Instr.endRound (D + 1) (some c)).run P W3 = .ok v w' ∧ (KeepsAll V.heap.size W w' ∧
          ((Ending.returned v = .returned (.bool true) ∧ (I (pre ++ [x]) w' ∧ Two .ready none w') ∧ Kp W w') ∨ (Ending.returned v = .returned (.bool false) ∧ ∃ c, Ix c (pre ++ [x]) w' ∧ Two .done (some c) w'))) := by
        intro c W3 hk hx
        obtain ⟨f1, f2, f3, f4⟩ := fin (some c) W3 hk
        exact ⟨_, _, f1, f3, .inr ⟨rfl, c, (hIx c).putObj _ hx (by omega) f4 rfl, f2⟩⟩
      rintro e a3 W3 hp
      cases e with
      | normal =>
        obtain ⟨hk3, hkp3, hi3⟩ := hp
        obtain ⟨f1, f2, f3, f4⟩ := fin none W3 hk3
        exact ⟨_, _, f1, f3, .inl ⟨rfl, ⟨hI.putObj _ hi3 (by omega) f4 rfl, f2⟩, hKt (hKt hw2 hkp3) (hKb _ _ _ _ (by omega) f4 rfl rfl)⟩⟩
      | ret => exact leave .ret W3 hp.1 hp.2
      | exit id => exact leave (.exit id) W3 hp.1 hp.2
      | goto t => exact leave (.goto t) W3 hp.1 hp.2
      | panic ch => exact hp.elim
      | outgrown => exact hp.elim
    · rintro e W2 ⟨⟨v, rfl⟩, (⟨xs, hS, hi, ht⟩ | ⟨pre, hSp, c, hi, ht⟩)⟩
      · rw [hTwo] at ht
        have he := run_endLoop (P := P) ht.1 (by rw [hrc]; simp)
        have hpe : (rc .ready none).pending = none := by rw [hrc]
        rw [hpe] at he
        exact ⟨none, _, he, hdone _ xs _ (Nat.le_refl _) hS (hI.putObj _ hi (by omega) ht.1 rfl) ((World.putObj_heap_other (by omega)).trans ht.2)⟩
      · rw [hTwo] at ht
        have he := run_endLoop (P := P) ht.1 (by rw [hrc]; simp)
        have hpe : (rc .done (some c)).pending = some c := by rw [hrc]
        rw [hpe] at he
        exact ⟨some c, _, he, hstop _ c pre _ (Nat.le_refl _) hSp ((hIx c).putObj _ hi (by omega) ht.1 rfl) ((World.putObj_heap_other (by omega)).trans ht.2)⟩
end
end Go.Proofs.Ytcomiininaemhaa.Pk

/- The same where a round may change memory of what came to it (Fr). -/
namespace Go.Proofs.Ytcomiininaemhaa.Pk
open Go.RowKit Go.Shelf
set_option linter.unusedVariables false
/-- All blocks from B on, but those of F, lie as they lay. -/
structure KeepsF (B : Nat) (F : Nat → Prop) (W W' : World) : Prop where
  size : W.heap.size ≤ W'.heap.size
  same : ∀ k, B ≤ k → k < W.heap.size → ¬ F k → W'.heap[k]? = W.heap[k]?
theorem KeepsAll.but {B : Nat} {W W' : World} (h : KeepsAll B W W') (F : Nat → Prop) : KeepsF B F W W' := ⟨h.size, fun k h1 h2 _ => h.same k h1 h2⟩
theorem KeepsF.refl (B : Nat) (F : Nat → Prop) (W : World) : KeepsF B F W W := (KeepsAll.refl B W).but F
theorem KeepsF.trans {B : Nat} {F : Nat → Prop} {X Y Z : World} (h : KeepsF B F X Y) (k : KeepsF B F Y Z) : KeepsF B F X Z := ⟨Nat.le_trans h.size k.size, fun i hB hi hf => (k.same i hB (Nat.lt_of_lt_of_le hi h.size) hf).trans (h.same i hB hi hf)⟩
theorem KeepsF.more {B B' : Nat} {F : Nat → Prop} {W W' : World} (h : KeepsF B F W W') (hB : B ≤ B') : KeepsF B' F W W' := ⟨h.size, fun k hk h1 => h.same k (by omega) h1⟩
theorem KeepsF.put {B l : Nat} {F : Nat → Prop} (W : World) (o : Obj) (h : l < B) : KeepsF B F W (W.putObj l o) := (KeepsAll.put W o h).but F
/-- How the body of a round may be left. -/
def postF {α : Type} (B : Nat) (F : Nat → Prop) (Kp : World → World → Prop) (I : List α → World → Prop) (Ix : Code → List α → World → Prop) (xs : List α) (W : World) : Exit → Act → World → Prop
  | .normal, _, W' => KeepsF B F W W' ∧ Kp W W' ∧ I xs W'
  | .ret, _, W' => KeepsF B F W W' ∧ Ix .ret xs W'
  | .exit id, _, W' => KeepsF B F W W' ∧ Ix (.exit id) xs W'
  | .goto t, _, W' => KeepsF B F W W' ∧ Ix (.goto t) xs W'
  | .panic _, _, _ => False
  | .outgrown, _, _ => False

/-- A function behind bound arguments pb that goes over things: its caller's word may speak of all but the blocks that it makes itself (no cells, new); a round leaves those alone. -/
def GoesF {α : Type} (m : Nat) (P : Program) (g : Nat) (pb lb : Array Value) (encs : α → Array Value) (Kp : World → World → Prop) (S Sp : List α → Prop) (Ok : Nat → List α → α → World → Prop) (Fr : Nat → α → Nat → Prop) (w : World) : Prop :=
  ∀ (l : Nat) (J Jx : List α → World → Prop) (W : World), Below w.heap.size w W → OwnFrom W.heap.size J → OwnFrom W.heap.size Jx →
    (∀ pre x W1, J pre W1 → Ok W.heap.size pre x W1 → YieldAt Fence.wide (m - 1) P l (encs x) W1 fun e W' => KeepsF W.heap.size (Fr W.heap.size x) W1 W' ∧
      ((e = .returned (.bool true) ∧ J (pre ++ [x]) W' ∧ Kp W1 W') ∨ (e = .returned (.bool false) ∧ Jx (pre ++ [x]) W'))) →
    J [] W →
    CallsIn Fence.wide m P g (pb ++ #[.func (.yield l) #[] #[]] ++ lb) W fun e W' => (∃ v, e = .returned v) ∧ ((∃ xs, S xs ∧ J xs W') ∨ (∃ pre, Sp pre ∧ Jx pre W'))

section
variable {n : Nat} {P : Program} {α : Type} {g : Operand} {ps : Array Tmp} {assign body : Code} {Q : Exit → Act → World → Prop} {a : Act} {w : World}
theorem range_boundF {gf : Nat} {pb lb : Array Value} (hg : a.eval g = .func (.func gf) pb lb) (eg : ∀ args w, (callFunc gf args).run P w = .ok (.enter gf args) w)
    {encs : α → Array Value} {Kp : World → World → Prop} {S Sp : List α → Prop} {Ok : Nat → List α → α → World → Prop} {Fr : Nat → α → Nat → Prop} (hseq : GoesF (n - 1) P gf pb lb encs Kp S Sp Ok Fr w)
    (hFr : ∀ (B : Nat) (pre : List α) (x : α) (W : World) (k : Nat), Ok B pre x W → Fr B x k → B ≤ k)
    (hKt : ∀ {A B C : World}, Kp A B → Kp B C → Kp A C) (hKb : ∀ (W : World) (l : Nat) (o o' : Obj), w.heap.size ≤ l → W.heap[l]? = some o → o.isCells = false → o.isWalk = false → Kp W (W.putObj l o')) (hps : ∀ x, (encs x).size = ps.size)
    (hOk : ∀ (B : Nat) (pre : List α) (x : α) (W : World) (l : Nat) (o o' : Obj), W.heap[l]? = some o → o.isCells = false → Ok B pre x W → Ok B pre x (W.putObj l o'))
    (I : List α → World → Prop) (Ix : Code → List α → World → Prop) (hI : OwnFrom w.heap.size I) (hIx : ∀ c, OwnFrom w.heap.size (Ix c)) (h0 : I [] w) (a₁ : α → Act)
    (hassign : ∀ (l : Nat) (x : α) (W : World) (K : Act → World → Prop), K (a₁ x) W →
      assign.wpIn (Fence.wide.inRound l) (n - 1 - 1) P (Exit.then K (fun _ _ _ => False)) { tmps := (ps.zip (encs x)).foldl (fun t (p, v) => t.setIfInBounds p v) a.tmps, defers := [] } W)
    (hbody : ∀ (l : Nat) (pre : List α) (x : α) (W : World), w.heap.size ≤ l → (∃ r, W.heap[l]? = some (.loop r)) → I pre W → (∃ B, w.heap.size + 2 ≤ B ∧ B ≤ W.heap.size ∧ Ok B pre x W) → body.wpIn (Fence.wide.inRound l) (n - 1 - 1) P (postF w.heap.size (Fr (w.heap.size + 2) x) Kp I Ix (pre ++ [x]) W) (a₁ x) W)
    (hdone : ∀ (D : Nat) (xs : List α) (W : World), w.heap.size ≤ D → S xs → I xs W → W.heap[D]? = some (.deferred (some [])) → Q .normal { a with defers := { target := .collected D, args := #[] } :: a.defers } W)
    (hstop : ∀ (D : Nat) (c : Code) (pre : List α) (W : World), w.heap.size ≤ D → Sp pre → Ix c pre W → W.heap[D]? = some (.deferred (some [])) → c.wpIn Fence.wide n P Q { a with defers := { target := .collected D, args := #[] } :: a.defers } W) :
    (Code.rangeFunc g ps assign body).wpIn Fence.wide n P Q a w := by
  refine wpIn_rangeFunc (fun fn hfn => ?_)
  -- D: the mark's block; L: the record's
  generalize hD : w.heap.size = D at *
  obtain ⟨rc, hrc⟩ : ∃ rc : LoopState → Option Code → Loop, rc = fun st pe => { state := st, pending := pe, fn, tmps := a.tmps, params := ps, assign, body, defers := D } := ⟨_, rfl⟩
  obtain ⟨V, hV⟩ : ∃ V, V = (w.alloc (.deferred (some []))).alloc (.loop (rc .ready none)) := ⟨_, rfl⟩
  have hVs : V.heap.size = D + 2 := by rw [hV, World.size_alloc, World.size_alloc, hD]
  have hVL : V.heap[D + 1]? = some (.loop (rc .ready none)) := by
    have := World.alloc_heap_new (w.alloc (.deferred (some []))) (.loop (rc .ready none))
    rwa [World.size_alloc, hD, ← hV] at this
  have hVD : V.heap[D]? = some (.deferred (some [])) := by
    have h1 := World.alloc_heap_new w (.deferred (some []))
    rw [hD] at h1
    rw [hV]
    exact (Below.heap_alloc _ _ _ (by rw [World.size_alloc]; omega)).trans h1
  have hbV : Below D w V := by rw [hV]; exact ((Below.refl D w).alloc (by omega) _).alloc (by rw [World.size_alloc]; omega) _
  have hIV : I [] V := by rw [hV]; exact hI.alloc _ (hI.alloc _ h0)
  -- the law's own two blocks, at a state of the record
  obtain ⟨Two, hTwo⟩ : ∃ Two : LoopState → Option Code → World → Prop, Two = fun st pe W => W.heap[D + 1]? = some (.loop (rc st pe)) ∧ W.heap[D]? = some (.deferred (some [])) := ⟨_, rfl⟩
  have two_grown : ∀ {st pe} {A B : World} {row : Option Nat}, Two st pe A → A.grownBy B row → (∀ r, row = some r → V.heap.size ≤ r) → Two st pe B := by
    intro st pe A B row h hg hr
    rw [hTwo] at h ⊢
    have key : ∀ k o, k < D + 2 → A.heap[k]? = some o → B.heap[k]? = some o := fun k o hk hh => (hg.block k (Array.getElem?_eq_some_iff.1 hh).1 (fun e => by have := hr k e.symm; omega)).trans hh
    exact ⟨key _ _ (by omega) h.1, key _ _ (by omega) h.2⟩
  have two_put : ∀ {st pe} {A : World} (st' : LoopState) (pe' : Option Code), Two st pe A → Two st' pe' (A.putObj (D + 1) (.loop (rc st' pe'))) := by
    intro st pe A st' pe' h
    rw [hTwo] at h ⊢
    exact ⟨World.putObj_heap_same (Array.getElem?_eq_some_iff.1 h.1).1, (World.putObj_heap_other (by omega)).trans h.2⟩
  have two_keeps : ∀ {st pe} {A B : World} {F : Nat → Prop}, (∀ k, F k → D + 2 ≤ k) → Two st pe A → KeepsF D F A B → Two st pe B := by
    intro st pe A B F hF h hk
    rw [hTwo] at h ⊢
    exact ⟨(hk.same _ (by omega) (Array.getElem?_eq_some_iff.1 h.1).1 (fun e => by have := hF _ e; omega)).trans h.1, (hk.same _ (Nat.le_refl _) (Array.getElem?_eq_some_iff.1 h.2).1 (fun e => by have := hF _ e; omega)).trans h.2⟩
  have own_two : ∀ {I' : List α → World → Prop} {st pe}, OwnFrom D I' → OwnFrom V.heap.size (fun pre W => I' pre W ∧ Two st pe W) := by
    intro I' st pe h s A B row hs hg hr
    exact ⟨h s A B row hs.1 hg (fun r e => ⟨by have := (hr r e).1; omega, (hr r e).2⟩), two_grown hs.2 hg (fun r e => (hr r e).1)⟩
  refine ⟨D + 1, [{ target := .collected D, args := #[] }], V, { target := .fn (.func gf) lb, args := pb ++ #[.func (.yield (D + 1)) #[] #[]] }, V, gf, pb ++ #[.func (.yield (D + 1)) #[] #[]] ++ lb, V, ?_, ?_, ?_, ?_, fun h => (by cases h), ?_⟩
  · have := run_enterLoop_outer (P := P) (w := w) fn a.tmps ps assign body
    rw [hD] at this
    rw [hV, hrc]; exact this
  · simp only [resolve, hg]
    simp [go_sem]
  · intro f' _; trivial
  · simp [invoke, go_sem, eg]
  · refine (hseq (D + 1) (fun pre W => I pre W ∧ Two .ready none W) (fun pre W => ∃ c, Ix c pre W ∧ Two .done (some c) W) V (hD.symm ▸ hbV) (own_two hI) ?_ ?_ ⟨hIV, by rw [hTwo]; exact ⟨hVL, hVD⟩⟩).mono ?_
    · rintro s A B row ⟨c, hc⟩ hg hr
      exact ⟨c, own_two (hIx c) s A B row hc hg hr⟩
    · rintro pre x W ⟨hi, ht⟩ hlen
      have hFx : ∀ k, Fr (D + 2) x k → D + 2 ≤ k := fun k hk => by have := hFr V.heap.size _ _ _ k hlen (by rw [hVs]; exact hk); omega
      rw [show Fr V.heap.size x = Fr (D + 2) x by rw [hVs]]
      have ht' := ht
      rw [hTwo] at ht'
      have hy := run_yield (P := P) (args := encs x) ht'.1 (by rw [hrc]; exact hps x)
      rw [hrc] at hy
      refine ⟨fn, _, assign, body, hy, roundIn_of_wpIn hfn (hassign _ x W _ ⟨_, run_beginRound ht'.1 (by rw [hrc]), ?_⟩)⟩
      have hb2 : Two .busy none (W.putObj (D + 1) (.loop (rc .busy none))) := two_put .busy none ht
      have hrb : ({ rc .ready none with state := .busy } : Loop) = rc .busy none := by rw [hrc]
      rw [hrb]
      have hw2 : Kp W (W.putObj (D + 1) (.loop (rc .busy none))) := hKb _ _ _ _ (by omega) ht'.1 rfl rfl
      have hb2' := hb2
      rw [hTwo] at hb2'
      refine wpIn_mono (hbody _ pre x _ (by omega) ⟨_, hb2'.1⟩ (hI.putObj _ hi (by omega) ht'.1 rfl) ⟨V.heap.size, by omega, (by have := (Array.getElem?_eq_some_iff.1 hb2'.1).1; omega), hOk _ _ _ _ _ _ _ ht'.1 rfl hlen⟩) ?_
      -- behind the body: the round's end by its jump
      have fin : ∀ (jump : Option Code) (W3 : World), KeepsF D (Fr (D + 2) x) (W.putObj (D + 1) (.loop (rc .busy none))) W3 →
          (Instr.endRound (D + 1) jump).run P W3 = .ok (.bool jump.isNone) (W3.putObj (D + 1) (.loop (rc (if jump.isNone then .ready else .done) jump))) ∧ Two (if jump.isNone then .ready else .done) jump (W3.putObj (D + 1) (.loop (rc (if jump.isNone then .ready else .done) jump))) ∧
          KeepsF V.heap.size (Fr (D + 2) x) W (W3.putObj (D + 1) (.loop (rc (if jump.isNone then .ready else .done) jump))) ∧ W3.heap[D + 1]? = some (.loop (rc .busy none)) := by
        intro jump W3 hk
        have h3 := two_keeps hFx hb2 hk
        have h3' := h3
        rw [hTwo] at h3'
        have he := run_endRound (P := P) jump h3'.1
        have hre : ({ rc .busy none with state := if jump.isNone then LoopState.ready else LoopState.done, pending := jump } : Loop) = rc (if jump.isNone then .ready else .done) jump := by rw [hrc]
        rw [hre] at he
        refine ⟨he, two_put _ _ h3, ?_, h3'.1⟩
        exact ((KeepsF.put W _ (by omega)).trans (hk.more (by omega))).trans (KeepsF.put W3 _ (by omega))
      have leave : ∀ (c : Code) (W3 : World), KeepsF D (Fr (D + 2) x) (W.putObj (D + 1) (.loop (rc .busy none))) W3 → Ix c (pre ++ [x]) W3 → ∃ v w', (Instr.endRound (D + 1) (some c)).run P W3 = .ok v w' ∧ (KeepsF V.heap.size (Fr (D + 2) x) W w' ∧
          ((Ending.returned v = .returned (.bool true) ∧ (I (pre ++ [x]) w' ∧ Two .ready none w') ∧ Kp W w') ∨ (Ending.returned v = .returned (.bool false) ∧ ∃ c, Ix c (pre ++ [x]) w' ∧ Two .done (some c) w'))) := by
        intro c W3 hk hx
        obtain ⟨f1, f2, f3, f4⟩ := fin (some c) W3 hk
        exact ⟨_, _, f1, f3, .inr ⟨rfl, c, (hIx c).putObj _ hx (by omega) f4 rfl, f2⟩⟩
      rintro e a3 W3 hp
      cases e with
      | normal =>
        obtain ⟨hk3, hkp3, hi3⟩ := hp
        obtain ⟨f1, f2, f3, f4⟩ := fin none W3 hk3
        exact ⟨_, _, f1, f3, .inl ⟨rfl, ⟨hI.putObj _ hi3 (by omega) f4 rfl, f2⟩, hKt (hKt hw2 hkp3) (hKb _ _ _ _ (by omega) f4 rfl rfl)⟩⟩
      | ret => exact leave .ret W3 hp.1 hp.2
      | exit id => exact leave (.exit id) W3 hp.1 hp.2
      | goto t => exact leave (.goto t) W3 hp.1 hp.2
      | panic ch => exact hp.elim
      | outgrown => exact hp.elim
    · rintro e W2 ⟨⟨v, rfl⟩, (⟨xs, hS, hi, ht⟩ | ⟨pre, hSp, c, hi, ht⟩)⟩
      · rw [hTwo] at ht
        have he := run_endLoop (P := P) ht.1 (by rw [hrc]; simp)
        have hpe : (rc .ready none).pending = none := by rw [hrc]
        rw [hpe] at he
        exact ⟨none, _, he, hdone _ xs _ (Nat.le_refl _) hS (hI.putObj _ hi (by omega) ht.1 rfl) ((World.putObj_heap_other (by omega)).trans ht.2)⟩
      · rw [hTwo] at ht
        have he := run_endLoop (P := P) ht.1 (by rw [hrc]; simp)
        have hpe : (rc .done (some c)).pending = some c := by rw [hrc]
        rw [hpe] at he
        exact ⟨some c, _, he, hstop _ c pre _ (Nat.le_refl _) hSp ((hIx c).putObj _ hi (by omega) ht.1 rfl) ((World.putObj_heap_other (by omega)).trans ht.2)⟩
end
/-- What bears rounds that change what came bears rounds that don't. -/
theorem GoesF.toW {α : Type} {m : Nat} {P : Program} {g : Nat} {pb lb : Array Value} {encs : α → Array Value} {Kp : World → World → Prop} {S Sp : List α → Prop} {Ok : Nat → List α → α → World → Prop} {Fr : Nat → α → Nat → Prop} {w : World}
    (h : GoesF m P g pb lb encs Kp S Sp Ok Fr w) : GoesW m P g pb lb encs Kp S Sp Ok w := by
  intro l J Jx W hb hJ hJx hy h0
  refine h l J Jx W hb hJ hJx (fun pre x W1 hj ho => ?_) h0
  exact (hy pre x W1 hj ho).mono (fun e W' ⟨hk, hr⟩ => ⟨hk.but _, hr⟩)
end Go.Proofs.Ytcomiininaemhaa.Pk

/- Ranges over functions within ranges over functions, for a loop whose variables need no box: the walker's two forms; needs no package. -/
namespace Go.Proofs.Ytcomiininaemhaa.Pk
open Go.RowKit Go.Shelf
set_option linter.unusedVariables false

/-- The outer one: its body is told of the loop's own record. -/
theorem range_outer {F : Fence} {n : Nat} {P : Program} {α : Type} {g : Operand} {ps : Array Tmp} {assign body : Code} {Q : Exit → Act → World → Prop} {a : Act} {w : World}
    (hro : F.round = none) (h1 : 1 ≤ n) {gf : Nat} {lb : Array Value} (hg : a.eval g = .func (.func gf) #[] lb) (hFg : F.fn gf) (eg : ∀ args w, (callFunc gf args).run P w = .ok (.enter gf args) w)
    {encs : α → Array Value} {Kp : World → World → Prop} {S Sp : List α → Prop} {N : Nat} {w0 : World} (hseq : SeqStopsK F (n - 1) P gf lb encs Kp S Sp N w0)
    (hKt : ∀ {A B C : World}, Kp A B → Kp B C → Kp A C) (hKb : ∀ (W : World) (l : Nat) (o o' : Obj), w.heap.size ≤ l → W.heap[l]? = some o → o.isCells = false → o.isWalk = false → Kp W (W.putObj l o')) (hb0 : Below w0.heap.size w0 w) (hps : ∀ x, (encs x).size = ps.size)
    (I : List α → World → Prop) (Ix : Code → List α → World → Prop) (hI : OwnFrom w.heap.size I) (hIx : ∀ c, OwnFrom w.heap.size (Ix c)) (h0 : I [] w) (hKr : ∀ W, Kp W W) (a₁ : α → Act)
    (hassign : ∀ (l : Nat) (x : α) (W : World) (K : Act → World → Prop), K (a₁ x) W →
      assign.wpIn (F.inRound l) (n - 1 - 1) P (Exit.then K (fun _ _ _ => False)) { tmps := (ps.zip (encs x)).foldl (fun t (p, v) => t.setIfInBounds p v) a.tmps, defers := [] } W)
    (hbody : ∀ (l : Nat) (pre : List α) (x : α) (W : World), w.heap.size ≤ l → (∃ r, W.heap[l]? = some (.loop r)) → I pre W → pre.length < N → body.wpIn (F.inRound l) (n - 1 - 1) P (ownPostG w.heap.size Kp I Ix (pre ++ [x]) W) (a₁ x) W)
    (hdone : ∀ (D : Nat) (xs : List α) (W : World), w.heap.size ≤ D → S xs → I xs W → W.heap[D]? = some (.deferred (some [])) → Q .normal { a with defers := { target := .collected D, args := #[] } :: a.defers } W)
    (hstop : ∀ (D : Nat) (c : Code) (pre : List α) (W : World), w.heap.size ≤ D → Sp pre → Ix c pre W → W.heap[D]? = some (.deferred (some [])) → c.wpIn F n P Q { a with defers := { target := .collected D, args := #[] } :: a.defers } W) :
    (Code.rangeFunc g ps assign body).wpIn F n P Q a w :=
  wpIn_rangeFunc_ownH hro h1 hg hFg eg hseq (fun h k => hKt h k) hKb hb0 hps I Ix hI hIx h0 (fun x a' _ => a' = a₁ x) (fun _ _ _ _ _ _ hs _ _ => hs)
    (fun l pre x W K hi hK => hassign l x W K (hK _ _ (KeepsFrom.refl _ _) (hKr W) hi rfl)) (fun l pre x a' W hl hr hi e => by subst e; exact hbody l pre x W hl hr hi) hdone hstop

/-- The inner one, in a round of the loop l₀. -/
theorem range_inner {F : Fence} {n : Nat} {P : Program} {α : Type} {g : Operand} {ps : Array Tmp} {assign body : Code} {Q : Exit → Act → World → Prop} {a : Act} {w : World}
    {l₀ : Nat} {r₀ : Loop} (hro : F.round = some l₀) (hl₀ : w.heap[l₀]? = some (.loop r₀)) (h1 : 1 ≤ n) {gf : Nat} {lb : Array Value} (hg : a.eval g = .func (.func gf) #[] lb) (hFg : F.fn gf) (eg : ∀ args w, (callFunc gf args).run P w = .ok (.enter gf args) w)
    {encs : α → Array Value} {Kp : World → World → Prop} {S Sp : List α → Prop} {N : Nat} {w0 : World} (hseq : SeqStopsK F (n - 1) P gf lb encs Kp S Sp N w0)
    (hKt : ∀ {A B C : World}, Kp A B → Kp B C → Kp A C) (hKb : ∀ (W : World) (l : Nat) (o o' : Obj), w.heap.size ≤ l → W.heap[l]? = some o → o.isCells = false → o.isWalk = false → Kp W (W.putObj l o')) (hb0 : Below w0.heap.size w0 w) (hps : ∀ x, (encs x).size = ps.size)
    (I : List α → World → Prop) (Ix : Code → List α → World → Prop) (hI : OwnFrom w.heap.size I) (hIx : ∀ c, OwnFrom w.heap.size (Ix c)) (h0 : I [] w) (hKr : ∀ W, Kp W W) (a₁ : α → Act)
    (hassign : ∀ (l : Nat) (x : α) (W : World) (K : Act → World → Prop), K (a₁ x) W →
      assign.wpIn (F.inRound l) (n - 1 - 1) P (Exit.then K (fun _ _ _ => False)) { tmps := (ps.zip (encs x)).foldl (fun t (p, v) => t.setIfInBounds p v) a.tmps, defers := [] } W)
    (hbody : ∀ (l : Nat) (pre : List α) (x : α) (W : World), I pre W → pre.length < N → body.wpIn (F.inRound l) (n - 1 - 1) P (ownPostG w.heap.size Kp I Ix (pre ++ [x]) W) (a₁ x) W)
    (hdone : ∀ (xs : List α) (W : World), S xs → I xs W → Q .normal a W)
    (hstop : ∀ (c : Code) (pre : List α) (W : World), Sp pre → Ix c pre W → c.wpIn F n P Q a W) :
    (Code.rangeFunc g ps assign body).wpIn F n P Q a w :=
  wpIn_rangeFunc_ownN hro hl₀ h1 hg hFg eg hseq (fun h k => hKt h k) hKb hb0 hps I Ix hI hIx h0 (fun x a' _ => a' = a₁ x) (fun _ _ _ _ _ _ hs _ _ => hs)
    (fun l pre x W K hi hK => hassign l x W K (hK _ _ (KeepsFrom.refl _ _) (hKr W) hi rfl)) (fun l pre x a' W hl hr hi e => by subst e; exact hbody l pre x W hi) hdone hstop
end Go.Proofs.Ytcomiininaemhaa.Pk

/- Ranges over a function, where a round is told what may come: what such a function promises, and the law of the statement. -/
namespace Go.Proofs.Ytcomiininaemhaa.Pk
open Go.RowKit Go.Shelf
set_option linter.unusedVariables false

/-- A function behind bound arguments pb that goes over things: its caller's word may speak of all but the blocks that it makes itself (no cells, new); a round leaves those alone. -/
def GoesO {α : Type} (m : Nat) (P : Program) (g : Nat) (pb lb : Array Value) (encs : α → Array Value) (Kp : World → World → Prop) (S Sp : List α → Prop) (Ok : List α → α → Prop) (w : World) : Prop :=
  ∀ (l : Nat) (J Jx : List α → World → Prop) (W : World), Below w.heap.size w W → OwnFrom W.heap.size J → OwnFrom W.heap.size Jx →
    (∀ pre x W1, J pre W1 → Ok pre x → YieldAt Fence.wide (m - 1) P l (encs x) W1 fun e W' => KeepsAll W.heap.size W1 W' ∧
      ((e = .returned (.bool true) ∧ J (pre ++ [x]) W' ∧ Kp W1 W') ∨ (e = .returned (.bool false) ∧ Jx (pre ++ [x]) W'))) →
    J [] W →
    CallsIn Fence.wide m P g (pb ++ #[.func (.yield l) #[] #[]] ++ lb) W fun e W' => (∃ v, e = .returned v) ∧ ((∃ xs, S xs ∧ J xs W') ∨ (∃ pre, Sp pre ∧ Jx pre W'))

section
variable {n : Nat} {P : Program} {α : Type} {g : Operand} {ps : Array Tmp} {assign body : Code} {Q : Exit → Act → World → Prop} {a : Act} {w : World}
theorem range_boundO {gf : Nat} {pb lb : Array Value} (hg : a.eval g = .func (.func gf) pb lb) (eg : ∀ args w, (callFunc gf args).run P w = .ok (.enter gf args) w)
    {encs : α → Array Value} {Kp : World → World → Prop} {S Sp : List α → Prop} {Ok : List α → α → Prop} (hseq : GoesO (n - 1) P gf pb lb encs Kp S Sp Ok w)
    (hKt : ∀ {A B C : World}, Kp A B → Kp B C → Kp A C) (hKb : ∀ (W : World) (l : Nat) (o o' : Obj), w.heap.size ≤ l → W.heap[l]? = some o → o.isCells = false → o.isWalk = false → Kp W (W.putObj l o')) (hps : ∀ x, (encs x).size = ps.size)
    (I : List α → World → Prop) (Ix : Code → List α → World → Prop) (hI : OwnFrom w.heap.size I) (hIx : ∀ c, OwnFrom w.heap.size (Ix c)) (h0 : I [] w) (a₁ : α → Act)
    (hassign : ∀ (l : Nat) (x : α) (W : World) (K : Act → World → Prop), K (a₁ x) W →
      assign.wpIn (Fence.wide.inRound l) (n - 1 - 1) P (Exit.then K (fun _ _ _ => False)) { tmps := (ps.zip (encs x)).foldl (fun t (p, v) => t.setIfInBounds p v) a.tmps, defers := [] } W)
    (hbody : ∀ (l : Nat) (pre : List α) (x : α) (W : World), w.heap.size ≤ l → (∃ r, W.heap[l]? = some (.loop r)) → I pre W → Ok pre x → body.wpIn (Fence.wide.inRound l) (n - 1 - 1) P (postB w.heap.size Kp I Ix (pre ++ [x]) W) (a₁ x) W)
    (hdone : ∀ (D : Nat) (xs : List α) (W : World), w.heap.size ≤ D → S xs → I xs W → W.heap[D]? = some (.deferred (some [])) → Q .normal { a with defers := { target := .collected D, args := #[] } :: a.defers } W)
    (hstop : ∀ (D : Nat) (c : Code) (pre : List α) (W : World), w.heap.size ≤ D → Sp pre → Ix c pre W → W.heap[D]? = some (.deferred (some [])) → c.wpIn Fence.wide n P Q { a with defers := { target := .collected D, args := #[] } :: a.defers } W) :
    (Code.rangeFunc g ps assign body).wpIn Fence.wide n P Q a w := by
  refine wpIn_rangeFunc (fun fn hfn => ?_)
  -- D: the mark's block; L: the record's
  generalize hD : w.heap.size = D at *
  obtain ⟨rc, hrc⟩ : ∃ rc : LoopState → Option Code → Loop, rc = fun st pe => { state := st, pending := pe, fn, tmps := a.tmps, params := ps, assign, body, defers := D } := ⟨_, rfl⟩
  obtain ⟨V, hV⟩ : ∃ V, V = (w.alloc (.deferred (some []))).alloc (.loop (rc .ready none)) := ⟨_, rfl⟩
  have hVs : V.heap.size = D + 2 := by rw [hV, World.size_alloc, World.size_alloc, hD]
  have hVL : V.heap[D + 1]? = some (.loop (rc .ready none)) := by
    have := World.alloc_heap_new (w.alloc (.deferred (some []))) (.loop (rc .ready none))
    rwa [World.size_alloc, hD, ← hV] at this
  have hVD : V.heap[D]? = some (.deferred (some [])) := by
    have h1 := World.alloc_heap_new w (.deferred (some []))
    rw [hD] at h1
    rw [hV]
    exact (Below.heap_alloc _ _ _ (by rw [World.size_alloc]; omega)).trans h1
  have hbV : Below D w V := by rw [hV]; exact ((Below.refl D w).alloc (by omega) _).alloc (by rw [World.size_alloc]; omega) _
  have hIV : I [] V := by rw [hV]; exact hI.alloc _ (hI.alloc _ h0)
  -- the law's own two blocks, at a state of the record
  obtain ⟨Two, hTwo⟩ : ∃ Two : LoopState → Option Code → World → Prop, Two = fun st pe W => W.heap[D + 1]? = some (.loop (rc st pe)) ∧ W.heap[D]? = some (.deferred (some [])) := ⟨_, rfl⟩
  have two_grown : ∀ {st pe} {A B : World} {row : Option Nat}, Two st pe A → A.grownBy B row → (∀ r, row = some r → V.heap.size ≤ r) → Two st pe B := by
    intro st pe A B row h hg hr
    rw [hTwo] at h ⊢
    have key : ∀ k o, k < D + 2 → A.heap[k]? = some o → B.heap[k]? = some o := fun k o hk hh => (hg.block k (Array.getElem?_eq_some_iff.1 hh).1 (fun e => by have := hr k e.symm; omega)).trans hh
    exact ⟨key _ _ (by omega) h.1, key _ _ (by omega) h.2⟩
  have two_put : ∀ {st pe} {A : World} (st' : LoopState) (pe' : Option Code), Two st pe A → Two st' pe' (A.putObj (D + 1) (.loop (rc st' pe'))) := by
    intro st pe A st' pe' h
    rw [hTwo] at h ⊢
    exact ⟨World.putObj_heap_same (Array.getElem?_eq_some_iff.1 h.1).1, (World.putObj_heap_other (by omega)).trans h.2⟩
  have two_keeps : ∀ {st pe} {A B : World}, Two st pe A → KeepsAll D A B → Two st pe B := by
    intro st pe A B h hk
    rw [hTwo] at h ⊢
    exact ⟨(hk.same _ (by omega) (Array.getElem?_eq_some_iff.1 h.1).1).trans h.1, (hk.same _ (Nat.le_refl _) (Array.getElem?_eq_some_iff.1 h.2).1).trans h.2⟩
  have own_two : ∀ {I' : List α → World → Prop} {st pe}, OwnFrom D I' → OwnFrom V.heap.size (fun pre W => I' pre W ∧ Two st pe W) := by
    intro I' st pe h s A B row hs hg hr
    exact ⟨h s A B row hs.1 hg (fun r e => ⟨by have := (hr r e).1; omega, (hr r e).2⟩), two_grown hs.2 hg (fun r e => (hr r e).1)⟩
  refine ⟨D + 1, [{ target := .collected D, args := #[] }], V, { target := .fn (.func gf) lb, args := pb ++ #[.func (.yield (D + 1)) #[] #[]] }, V, gf, pb ++ #[.func (.yield (D + 1)) #[] #[]] ++ lb, V, ?_, ?_, ?_, ?_, fun h => (by cases h), ?_⟩
  · have := run_enterLoop_outer (P := P) (w := w) fn a.tmps ps assign body
    rw [hD] at this
    rw [hV, hrc]; exact this
  · simp only [resolve, hg]
    simp [go_sem]
  · intro f' _; trivial
  · simp [invoke, go_sem, eg]
  · refine (hseq (D + 1) (fun pre W => I pre W ∧ Two .ready none W) (fun pre W => ∃ c, Ix c pre W ∧ Two .done (some c) W) V (hD.symm ▸ hbV) (own_two hI) ?_ ?_ ⟨hIV, by rw [hTwo]; exact ⟨hVL, hVD⟩⟩).mono ?_
    · rintro s A B row ⟨c, hc⟩ hg hr
      exact ⟨c, own_two (hIx c) s A B row hc hg hr⟩
    · rintro pre x W ⟨hi, ht⟩ hlen
      have ht' := ht
      rw [hTwo] at ht'
      have hy := run_yield (P := P) (args := encs x) ht'.1 (by rw [hrc]; exact hps x)
      rw [hrc] at hy
      refine ⟨fn, _, assign, body, hy, roundIn_of_wpIn hfn (hassign _ x W _ ⟨_, run_beginRound ht'.1 (by rw [hrc]), ?_⟩)⟩
      have hb2 : Two .busy none (W.putObj (D + 1) (.loop (rc .busy none))) := two_put .busy none ht
      have hrb : ({ rc .ready none with state := .busy } : Loop) = rc .busy none := by rw [hrc]
      rw [hrb]
      have hw2 : Kp W (W.putObj (D + 1) (.loop (rc .busy none))) := hKb _ _ _ _ (by omega) ht'.1 rfl rfl
      have hb2' := hb2
      rw [hTwo] at hb2'
      refine wpIn_mono (hbody _ pre x _ (by omega) ⟨_, hb2'.1⟩ (hI.putObj _ hi (by omega) ht'.1 rfl) hlen) ?_
      -- behind the body: the round's end by its jump
      have fin : ∀ (jump : Option Code) (W3 : World), KeepsAll D (W.putObj (D + 1) (.loop (rc .busy none))) W3 →
          (Instr.endRound (D + 1) jump).run P W3 = .ok (.bool jump.isNone) (W3.putObj (D + 1) (.loop (rc (if jump.isNone then .ready else .done) jump))) ∧ Two (if jump.isNone then .ready else .done) jump (W3.putObj (D + 1) (.loop (rc (if jump.isNone then .ready else .done) jump))) ∧
          KeepsAll V.heap.size W (W3.putObj (D + 1) (.loop (rc (if jump.isNone then .ready else .done) jump))) ∧ W3.heap[D + 1]? = some (.loop (rc .busy none)) := by
        intro jump W3 hk
        have h3 := two_keeps hb2 hk
        have h3' := h3
        rw [hTwo] at h3'
        have he := run_endRound (P := P) jump h3'.1
        have hre : ({ rc .busy none with state := if jump.isNone then LoopState.ready else LoopState.done, pending := jump } : Loop) = rc (if jump.isNone then .ready else .done) jump := by rw [hrc]
        rw [hre] at he
        refine ⟨he, two_put _ _ h3, ?_, h3'.1⟩
        exact ((KeepsAll.put W _ (by omega)).trans (hk.more (by omega))).trans (KeepsAll.put W3 _ (by omega))
      have leave : ∀ (c : Code) (W3 : World), KeepsAll D (W.putObj (D + 1) (.loop (rc .busy none))) W3 → Ix c (pre ++ [x]) W3 → ∃ v w', (Instr.endRound (D + 1) (some c)).run P W3 = .ok v w' ∧ (KeepsAll V.heap.size W w' ∧
          ((Ending.returned v = .returned (.bool true) ∧ (I (pre ++ [x]) w' ∧ Two .ready none w') ∧ Kp W w') ∨ (Ending.returned v = .returned (.bool false) ∧ ∃ c, Ix c (pre ++ [x]) w' ∧ Two .done (some c) w'))) := by
        intro c W3 hk hx
        obtain ⟨f1, f2, f3, f4⟩ := fin (some c) W3 hk
        exact ⟨_, _, f1, f3, .inr ⟨rfl, c, (hIx c).putObj _ hx (by omega) f4 rfl, f2⟩⟩
      rintro e a3 W3 hp
      cases e with
      | normal =>
        obtain ⟨hk3, hkp3, hi3⟩ := hp
        obtain ⟨f1, f2, f3, f4⟩ := fin none W3 hk3
        exact ⟨_, _, f1, f3, .inl ⟨rfl, ⟨hI.putObj _ hi3 (by omega) f4 rfl, f2⟩, hKt (hKt hw2 hkp3) (hKb _ _ _ _ (by omega) f4 rfl rfl)⟩⟩
      | ret => exact leave .ret W3 hp.1 hp.2
      | exit id => exact leave (.exit id) W3 hp.1 hp.2
      | goto t => exact leave (.goto t) W3 hp.1 hp.2
      | panic ch => exact hp.elim
      | outgrown => exact hp.elim
    · rintro e W2 ⟨⟨v, rfl⟩, (⟨xs, hS, hi, ht⟩ | ⟨pre, hSp, c, hi, ht⟩)⟩
      · rw [hTwo] at ht
        have he := run_endLoop (P := P) ht.1 (by rw [hrc]; simp)
        have hpe : (rc .ready none).pending = none := by rw [hrc]
        rw [hpe] at he
        exact ⟨none, _, he, hdone _ xs _ (Nat.le_refl _) hS (hI.putObj _ hi (by omega) ht.1 rfl) ((World.putObj_heap_other (by omega)).trans ht.2)⟩
      · rw [hTwo] at ht
        have he := run_endLoop (P := P) ht.1 (by rw [hrc]; simp)
        have hpe : (rc .done (some c)).pending = some c := by rw [hrc]
        rw [hpe] at he
        exact ⟨some c, _, he, hstop _ c pre _ (Nat.le_refl _) hSp ((hIx c).putObj _ hi (by omega) ht.1 rfl) ((World.putObj_heap_other (by omega)).trans ht.2)⟩
end
end Go.Proofs.Ytcomiininaemhaa.Pk

/- A region that draws its order and only reads, inside a round of a range over a function: one walk serves every order there too; needs no package. -/
namespace Go.Proofs.Ytcomiininaemhaa.Pk
open Go.RowKit Go.Shelf
set_option linter.unusedVariables false
variable {F : Fence} {n : Nat} {P : Program}

def plainOp : Op → Bool
  | .defer _ => false
  | _ => true
theorem plainOp_ne {o : Oper} (h : plainOp o.op = true) : ∀ c, o.op ≠ .defer c := by
  intro c e
  rw [e] at h
  cases h
theorem operIn_round {o : Oper} {a : Act} {w : World} {K : Act → World → Prop} {Q : Exit → Act → World → Prop} (l : Nat) (ho : plainOp o.op = true) (h : o.wpIn F n P a w K Q) : o.wpIn (F.inRound l) n P a w K Q := by
  unfold Oper.wpIn at *
  rw [Oper.semAt_plain F _ _ (plainOp_ne ho)] at h
  rw [Oper.semAt_plain (F.inRound l) _ _ (plainOp_ne ho)]
  exact h
theorem opIn_round {ops : Array Oper} (hp : ∀ (i : Nat) (o : Oper), ops[i]? = some o → plainOp o.op = true) {Q : Exit → Act → World → Prop} (l : Nat) {i : Nat} {K : Act → World → Prop} {a : Act} {w : World} (h : wpOpIn F n P ops Q i K a w) : wpOpIn (F.inRound l) n P ops Q i K a w := by
  unfold wpOpIn at *
  cases ho : ops[i]? with
  | none => simp only [ho] at h ⊢; exact h
  | some o =>
    simp only [ho] at h ⊢
    split
    · rename_i hw; simp only [hw, if_true] at h; exact operIn_round l (hp i o ho) h
    · rename_i hw; simp only [hw] at h; exact h
theorem anyIn_round {md : Region.Mode} {ops : Array Oper} (hp : ∀ (i : Nat) (o : Oper), ops[i]? = some o → plainOp o.op = true) {Q : Exit → Act → World → Prop} (l : Nat) :
    ∀ (fuel : Nat) (listed : Array Bool) (a : Act) (w : World), wpAnyIn F n P md ops Q fuel listed a w → wpAnyIn (F.inRound l) n P md ops Q fuel listed a w
  | 0, _, _, _, h => h
  | fuel + 1, _, _, _, h => ⟨h.1, fun i hi => wpOpIn_mono (fun a w h => anyIn_round hp l fuel _ a w h) (opIn_round hp l (h.2 i hi))⟩
/-- One walk of the lexical order serves every order, in a round. -/
theorem region_quiet_round {id lp : Nat} {Q : Exit → Act → World → Prop} {a : Act} {w : World} {l : List Oper} (hro : F.round = none) (hm : P.follows .mixedOrders = true) (hB : Region.lexB .any l.toArray = true) (hpl : (l.all fun o => plainOp o.op) = true)
    (h : wpQuietIn F n P l.toArray (fun w' => ∃ n, w' = w.drewN n) (fun a' => ∀ w', (∃ n, w' = w.drewN n) → Q .normal a' w') l a) : (Code.region id l.toArray true).wpIn (F.inRound lp) n P Q a w := by
  have hp : ∀ (i : Nat) (o : Oper), l.toArray[i]? = some o → plainOp o.op = true := fun i o ho => by
    have h1 : o ∈ l := by
      rw [List.getElem?_toArray] at ho
      exact List.mem_of_getElem? ho
    exact List.all_eq_true.1 hpl o h1
  simp only [Region.lexB, Bool.and_eq_true] at hB
  refine wpIn_region_any hm (anyIn_round hp lp _ _ _ _ (wpAnyIn_of_quiet (C := fun w' => ∃ n, w' = w.drewN n) (Q := fun a' => ∀ w', (∃ n, w' = w.drewN n) → Q .normal a' w') hro (fun _ w' hw' h => h w' hw') _ _ _ _ ⟨1, rfl⟩ ?_))
  have := wpAnyQIn_lex (F := F) (n := n) (C := fun w' => ∃ n, w' = w.drewN n) (md := .any) hB.1 l 0 (Array.replicate l.toArray.size false) a (by simp) (by simpa using hB.2) h
  simpa using this
end Go.Proofs.Ytcomiininaemhaa.Pk
