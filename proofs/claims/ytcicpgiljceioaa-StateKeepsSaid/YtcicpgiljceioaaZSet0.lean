/- The same where a round may change memory of what came to it (Fr). -/
import Derived.Test.YtcicpgiljceioaaZRangeW
import Derived.Test.YtcicpgiljceioaaZWords
import Derived.Test.YtcicpgiljceioaaZRange
import Derived.Test.YtcicpgiljceioaaProg
namespace Go.Proofs.Ytcicpgiljceioaa.Pk
open Go.RowKit Go.Shelf
set_option linter.unusedVariables false
/-- All blocks from B on, but those of F, lie as they lay. -/
structure KeepsF (B : Nat) (F : Nat → Prop) (W W' : World) : Prop where
  size : W.heap.size ≤ W'.heap.size
  same : ∀ k, B ≤ k → k < W.heap.size → ¬ F k → W'.heap[k]? = W.heap[k]?
theorem KeepsAll.but {B : Nat} {W W' : World} (h : KeepsAll B W W') (F : Nat → Prop) : KeepsF B F W W' := ⟨h.size, fun k h1 h2 _ => h.same k h1 h2⟩
theorem KeepsF.refl (B : Nat) (F : Nat → Prop) (W : World) : KeepsF B F W W := (KeepsAll.refl B W).but F
theorem KeepsF.trans {B : Nat} {F : Nat → Prop} {X Y Z : World} (h : KeepsF B F X Y) (k : KeepsF B F Y Z) : KeepsF B F X Z := ⟨Nat.le_trans h.size k.size, fun i hB hi hf => (k.same i hB (Nat.lt_of_lt_of_le hi h.size) hf).trans (h.same i hB hi hf)⟩
theorem KeepsF.more {B B' : Nat} {F : Nat → Prop} {W W' : World} (h : KeepsF B F W W') (hB : B ≤ B') : KeepsF B' F W W' := ⟨h.size, fun k hk h1 => h.same k (by omega) h1⟩
theorem KeepsF.put {B l : Nat} {F : Nat → Prop} (W : World) (o : Obj) (h : l < B) : KeepsF B F W (W.putObj l o) := (KeepsAll.put W o h).but F
/-- How the body of a round may be left. -/
def postF {α : Type} (B : Nat) (F : Nat → Prop) (Kp : World → World → Prop) (I : List α → World → Prop) (Ix : Code → List α → World → Prop) (xs : List α) (W : World) : Exit → Act → World → Prop
  | .normal, _, W' => KeepsF B F W W' ∧ Kp W W' ∧ I xs W'
  | .ret, _, W' => KeepsF B F W W' ∧ Ix .ret xs W'
  | .exit id, _, W' => KeepsF B F W W' ∧ Ix (.exit id) xs W'
  | .goto t, _, W' => KeepsF B F W W' ∧ Ix (.goto t) xs W'
  | .panic _, _, _ => False
  | .outgrown, _, _ => False

/-- A function behind bound arguments pb that goes over things: its caller's word may speak of all but the blocks that it makes itself (no cells, new); a round leaves those alone. -/
def GoesF {α : Type} (m : Nat) (P : Program) (g : Nat) (pb lb : Array Value) (encs : α → Array Value) (Kp : World → World → Prop) (S Sp : List α → Prop) (Ok : Nat → List α → α → World → Prop) (Fr : Nat → α → Nat → Prop) (w : World) : Prop :=
  ∀ (l : Nat) (J Jx : List α → World → Prop) (W : World), Below w.heap.size w W → OwnFrom W.heap.size J → OwnFrom W.heap.size Jx →
    (∀ pre x W1, J pre W1 → Ok W.heap.size pre x W1 → YieldAt Fence.wide (m - 1) P l (encs x) W1 fun e W' => KeepsF W.heap.size (Fr W.heap.size x) W1 W' ∧
      ((e = .returned (.bool true) ∧ J (pre ++ [x]) W' ∧ Kp W1 W') ∨ (e = .returned (.bool false) ∧ Jx (pre ++ [x]) W'))) →
    J [] W →
    CallsIn Fence.wide m P g (pb ++ #[.func (.yield l) #[] #[]] ++ lb) W fun e W' => (∃ v, e = .returned v) ∧ ((∃ xs, S xs ∧ J xs W') ∨ (∃ pre, Sp pre ∧ Jx pre W'))

section
variable {n : Nat} {P : Program} {α : Type} {g : Operand} {ps : Array Tmp} {assign body : Code} {Q : Exit → Act → World → Prop} {a : Act} {w : World}
theorem range_boundF {gf : Nat} {pb lb : Array Value} (hg : a.eval g = .func (.func gf) pb lb) (eg : ∀ args w, (callFunc gf args).run P w = .ok (.enter gf args) w)
    {encs : α → Array Value} {Kp : World → World → Prop} {S Sp : List α → Prop} {Ok : Nat → List α → α → World → Prop} {Fr : Nat → α → Nat → Prop} (hseq : GoesF (n - 1) P gf pb lb encs Kp S Sp Ok Fr w)
    (hFr : ∀ (B : Nat) (pre : List α) (x : α) (W : World) (k : Nat), Ok B pre x W → Fr B x k → B ≤ k)
    (hKt : ∀ {A B C : World}, Kp A B → Kp B C → Kp A C) (hKb : ∀ (W : World) (l : Nat) (o o' : Obj), w.heap.size ≤ l → W.heap[l]? = some o → o.isCells = false → o.isWalk = false → Kp W (W.putObj l o')) (hps : ∀ x, (encs x).size = ps.size)
    (hOk : ∀ (B : Nat) (pre : List α) (x : α) (W : World) (l : Nat) (o o' : Obj), W.heap[l]? = some o → o.isCells = false → Ok B pre x W → Ok B pre x (W.putObj l o'))
    (I : List α → World → Prop) (Ix : Code → List α → World → Prop) (hI : OwnFrom w.heap.size I) (hIx : ∀ c, OwnFrom w.heap.size (Ix c)) (h0 : I [] w) (a₁ : α → Act)
    (hassign : ∀ (l : Nat) (x : α) (W : World) (K : Act → World → Prop), K (a₁ x) W →
      assign.wpIn (Fence.wide.inRound l) (n - 1 - 1) P (Exit.then K (fun _ _ _ => False)) { tmps := (ps.zip (encs x)).foldl (fun t (p, v) => t.setIfInBounds p v) a.tmps, defers := [] } W)
    (hbody : ∀ (l : Nat) (pre : List α) (x : α) (W : World), w.heap.size ≤ l → (∃ r, W.heap[l]? = some (.loop r)) → I pre W → (∃ B, w.heap.size + 2 ≤ B ∧ B ≤ W.heap.size ∧ Ok B pre x W) → body.wpIn (Fence.wide.inRound l) (n - 1 - 1) P (postF w.heap.size (Fr (w.heap.size + 2) x) Kp I Ix (pre ++ [x]) W) (a₁ x) W)
    (hdone : ∀ (D : Nat) (xs : List α) (W : World), w.heap.size ≤ D → S xs → I xs W → W.heap[D]? = some (.deferred (some [])) → Q .normal { a with defers := { target := .collected D, args := #[] } :: a.defers } W)
    (hstop : ∀ (D : Nat) (c : Code) (pre : List α) (W : World), w.heap.size ≤ D → Sp pre → Ix c pre W → W.heap[D]? = some (.deferred (some [])) → c.wpIn Fence.wide n P Q { a with defers := { target := .collected D, args := #[] } :: a.defers } W) :
    (Code.rangeFunc g ps assign body).wpIn Fence.wide n P Q a w := by
  refine wpIn_rangeFunc (fun fn hfn => ?_)
  -- D: the mark's block; L: the record's
  generalize hD : w.heap.size = D at *
  obtain ⟨rc, hrc⟩ : ∃ rc : LoopState → Option Code → Loop, rc = fun st pe => { state := st, pending := pe, fn, tmps := a.tmps, params := ps, assign, body, defers := D } := ⟨_, rfl⟩
  obtain ⟨V, hV⟩ : ∃ V, V = (w.alloc (.deferred (some []))).alloc (.loop (rc .ready none)) := ⟨_, rfl⟩
  have hVs : V.heap.size = D + 2 := by rw [hV, World.size_alloc, World.size_alloc, hD]
  have hVL : V.heap[D + 1]? = some (.loop (rc .ready none)) := by
    have := World.alloc_heap_new (w.alloc (.deferred (some []))) (.loop (rc .ready none))
    rwa [World.size_alloc, hD, ← hV] at this
  have hVD : V.heap[D]? = some (.deferred (some [])) := by
    have h1 := World.alloc_heap_new w (.deferred (some []))
    rw [hD] at h1
    rw [hV]
    exact (Below.heap_alloc _ _ _ (by rw [World.size_alloc]; omega)).trans h1
  have hbV : Below D w V := by rw [hV]; exact ((Below.refl D w).alloc (by omega) _).alloc (by rw [World.size_alloc]; omega) _
  have hIV : I [] V := by rw [hV]; exact hI.alloc _ (hI.alloc _ h0)
  -- the law's own two blocks, at a state of the record
  obtain ⟨Two, hTwo⟩ : ∃ Two : LoopState → Option Code → World → Prop, Two = fun st pe W => W.heap[D + 1]? = some (.loop (rc st pe)) ∧ W.heap[D]? = some (.deferred (some [])) := ⟨_, rfl⟩
  have two_grown : ∀ {st pe} {A B : World} {row : Option Nat}, Two st pe A → A.grownBy B row → (∀ r, row = some r → V.heap.size ≤ r) → Two st pe B := by
    intro st pe A B row h hg hr
    rw [hTwo] at h ⊢
    have key : ∀ k o, k < D + 2 → A.heap[k]? = some o → B.heap[k]? = some o := fun k o hk hh => (hg.block k (Array.getElem?_eq_some_iff.1 hh).1 (fun e => by have := hr k e.symm; omega)).trans hh
    exact ⟨key _ _ (by omega) h.1, key _ _ (by omega) h.2⟩
  have two_put : ∀ {st pe} {A : World} (st' : LoopState) (pe' : Option Code), Two st pe A → Two st' pe' (A.putObj (D + 1) (.loop (rc st' pe'))) := by
    intro st pe A st' pe' h
    rw [hTwo] at h ⊢
    exact ⟨World.putObj_heap_same (Array.getElem?_eq_some_iff.1 h.1).1, (World.putObj_heap_other (by omega)).trans h.2⟩
  have two_keeps : ∀ {st pe} {A B : World} {F : Nat → Prop}, (∀ k, F k → D + 2 ≤ k) → Two st pe A → KeepsF D F A B → Two st pe B := by
    intro st pe A B F hF h hk
    rw [hTwo] at h ⊢
    exact ⟨(hk.same _ (by omega) (Array.getElem?_eq_some_iff.1 h.1).1 (fun e => by have := hF _ e; omega)).trans h.1, (hk.same _ (Nat.le_refl _) (Array.getElem?_eq_some_iff.1 h.2).1 (fun e => by have := hF _ e; omega)).trans h.2⟩
  have own_two : ∀ {I' : List α → World → Prop} {st pe}, OwnFrom D I' → OwnFrom V.heap.size (fun pre W => I' pre W ∧ Two st pe W) := by
    intro I' st pe h s A B row hs hg hr
    exact ⟨h s A B row hs.1 hg (fun r e => ⟨by have := (hr r e).1; omega, (hr r e).2⟩), two_grown hs.2 hg (fun r e => (hr r e).1)⟩
  refine ⟨D + 1, [{ target := .collected D, args := #[] }], V, { target := .fn (.func gf) lb, args := pb ++ #[.func (.yield (D + 1)) #[] #[]] }, V, gf, pb ++ #[.func (.yield (D + 1)) #[] #[]] ++ lb, V, ?_, ?_, ?_, ?_, fun h => (by cases h), ?_⟩
  · have := run_enterLoop_outer (P := P) (w := w) fn a.tmps ps assign body
    rw [hD] at this
    rw [hV, hrc]; exact this
  · simp only [resolve, hg]
    simp [go_sem]
  · intro f' _; trivial
  · simp [invoke, go_sem, eg]
  · refine (hseq (D + 1) (fun pre W => I pre W ∧ Two .ready none W) (fun pre W => ∃ c, Ix c pre W ∧ Two .done (some c) W) V (hD.symm ▸ hbV) (own_two hI) ?_ ?_ ⟨hIV, by rw [hTwo]; exact ⟨hVL, hVD⟩⟩).mono ?_
    · rintro s A B row ⟨c, hc⟩ hg hr
      exact ⟨c, own_two (hIx c) s A B row hc hg hr⟩
    · rintro pre x W ⟨hi, ht⟩ hlen
      have hFx : ∀ k, Fr (D + 2) x k → D + 2 ≤ k := fun k hk => by have := hFr V.heap.size _ _ _ k hlen (by rw [hVs]; exact hk); omega
      rw [show Fr V.heap.size x = Fr (D + 2) x by rw [hVs]]
      have ht' := ht
      rw [hTwo] at ht'
      have hy := run_yield (P := P) (args := encs x) ht'.1 (by rw [hrc]; exact hps x)
      rw [hrc] at hy
      refine ⟨fn, _, assign, body, hy, roundIn_of_wpIn hfn (hassign _ x W _ ⟨_, run_beginRound ht'.1 (by rw [hrc]), ?_⟩)⟩
      have hb2 : Two .busy none (W.putObj (D + 1) (.loop (rc .busy none))) := two_put .busy none ht
      have hrb : ({ rc .ready none with state := .busy } : Loop) = rc .busy none := by rw [hrc]
      rw [hrb]
      have hw2 : Kp W (W.putObj (D + 1) (.loop (rc .busy none))) := hKb _ _ _ _ (by omega) ht'.1 rfl rfl
      have hb2' := hb2
      rw [hTwo] at hb2'
      refine wpIn_mono (hbody _ pre x _ (by omega) ⟨_, hb2'.1⟩ (hI.putObj _ hi (by omega) ht'.1 rfl) ⟨V.heap.size, by omega, (by have := (Array.getElem?_eq_some_iff.1 hb2'.1).1; omega), hOk _ _ _ _ _ _ _ ht'.1 rfl hlen⟩) ?_
      -- behind the body: the round's end by its jump
      have fin : ∀ (jump : Option Code) (W3 : World), KeepsF D (Fr (D + 2) x) (W.putObj (D + 1) (.loop (rc .busy none))) W3 →
          (Instr.endRound (D + 1) jump).run P W3 = .ok (.bool jump.isNone) (W3.putObj (D + 1) (.loop (rc (if jump.isNone then .ready else .done) jump))) ∧ Two (if jump.isNone then .ready else .done) jump (W3.putObj (D + 1) (.loop (rc (if jump.isNone then .ready else .done) jump))) ∧
          KeepsF V.heap.size (Fr (D + 2) x) W (W3.putObj (D + 1) (.loop (rc (if jump.isNone then .ready else .done) jump))) ∧ W3.heap[D + 1]? = some (.loop (rc .busy none)) := by
        intro jump W3 hk
        have h3 := two_keeps hFx hb2 hk
        have h3' := h3
        rw [hTwo] at h3'
        have he := run_endRound (P := P) jump h3'.1
        have hre : ({ rc .busy none with state := if jump.isNone then LoopState.ready else LoopState.done, pending := jump } : Loop) = rc (if jump.isNone then .ready else .done) jump := by rw [hrc]
        rw [hre] at he
        refine ⟨he, two_put _ _ h3, ?_, h3'.1⟩
        exact ((KeepsF.put W _ (by omega)).trans (hk.more (by omega))).trans (KeepsF.put W3 _ (by omega))
      have leave : ∀ (c : Code) (W3 : World), KeepsF D (Fr (D + 2) x) (W.putObj (D + 1) (.loop (rc .busy none))) W3 → Ix c (pre ++ [x]) W3 → ∃ v w', (Instr.endRound (D + 1) (some c)).run P W3 = .ok v w' ∧ (KeepsF V.heap.size (Fr (D + 2) x) W w' ∧
          ((Ending.returned v = .returned (.bool true) ∧ (I (pre ++ [x]) w' ∧ Two .ready none w') ∧ Kp W w') ∨ (Ending.returned v = .returned (.bool false) ∧ ∃ c, Ix c (pre ++ [x]) w' ∧ Two .done (some c) w'))) := by
        intro c W3 hk hx
        obtain ⟨f1, f2, f3, f4⟩ := fin (some c) W3 hk
        exact ⟨_, _, f1, f3, .inr ⟨rfl, c, (hIx c).putObj _ hx (by omega) f4 rfl, f2⟩⟩
      rintro e a3 W3 hp
      cases e with
      | normal =>
        obtain ⟨hk3, hkp3, hi3⟩ := hp
        obtain ⟨f1, f2, f3, f4⟩ := fin none W3 hk3
        exact ⟨_, _, f1, f3, .inl ⟨rfl, ⟨hI.putObj _ hi3 (by omega) f4 rfl, f2⟩, hKt (hKt hw2 hkp3) (hKb _ _ _ _ (by omega) f4 rfl rfl)⟩⟩
      | ret => exact leave .ret W3 hp.1 hp.2
      | exit id => exact leave (.exit id) W3 hp.1 hp.2
      | goto t => exact leave (.goto t) W3 hp.1 hp.2
      | panic ch => exact hp.elim
      | outgrown => exact hp.elim
    · rintro e W2 ⟨⟨v, rfl⟩, (⟨xs, hS, hi, ht⟩ | ⟨pre, hSp, c, hi, ht⟩)⟩
      · rw [hTwo] at ht
        have he := run_endLoop (P := P) ht.1 (by rw [hrc]; simp)
        have hpe : (rc .ready none).pending = none := by rw [hrc]
        rw [hpe] at he
        exact ⟨none, _, he, hdone _ xs _ (Nat.le_refl _) hS (hI.putObj _ hi (by omega) ht.1 rfl) ((World.putObj_heap_other (by omega)).trans ht.2)⟩
      · rw [hTwo] at ht
        have he := run_endLoop (P := P) ht.1 (by rw [hrc]; simp)
        have hpe : (rc .done (some c)).pending = some c := by rw [hrc]
        rw [hpe] at he
        exact ⟨some c, _, he, hstop _ c pre _ (Nat.le_refl _) hSp ((hIx c).putObj _ hi (by omega) ht.1 rfl) ((World.putObj_heap_other (by omega)).trans ht.2)⟩
end
/-- What bears rounds that change what came bears rounds that don't. -/
theorem GoesF.toW {α : Type} {m : Nat} {P : Program} {g : Nat} {pb lb : Array Value} {encs : α → Array Value} {Kp : World → World → Prop} {S Sp : List α → Prop} {Ok : Nat → List α → α → World → Prop} {Fr : Nat → α → Nat → Prop} {w : World}
    (h : GoesF m P g pb lb encs Kp S Sp Ok Fr w) : GoesW m P g pb lb encs Kp S Sp Ok w := by
  intro l J Jx W hb hJ hJx hy h0
  refine h l J Jx W hb hJ hJx (fun pre x W1 hj ho => ?_) h0
  exact (hy pre x W1 hj ho).mono (fun e W' ⟨hk, hr⟩ => ⟨hk.but _, hr⟩)
end Go.Proofs.Ytcicpgiljceioaa.Pk

/- Blocks that stay. -/
namespace Go.Proofs.Ytcicpgiljceioaa.Pk
open Go.RowKit
set_option linter.unusedVariables false
def Stay (D : Nat → Prop) (w w' : World) : Prop := w.heap.size ≤ w'.heap.size ∧ ∀ b, D b → w'.heap[b]? = w.heap[b]?
theorem Stay.refl (D : Nat → Prop) (w : World) : Stay D w w := ⟨Nat.le_refl _, fun _ _ => rfl⟩
theorem Stay.trans {D : Nat → Prop} {a b c : World} (h : Stay D a b) (k : Stay D b c) : Stay D a c := ⟨Nat.le_trans h.1 k.1, fun i hi => (k.2 i hi).trans (h.2 i hi)⟩
theorem Stay.sub {D E : Nat → Prop} {a b : World} (h : Stay D a b) (hs : ∀ b, E b → D b) : Stay E a b := ⟨h.1, fun i hi => h.2 i (hs i hi)⟩
theorem Stay.below {D : Nat → Prop} {B : Nat} {w w' : World} (h : Below B w w') (hD : ∀ b, D b → b < B) : Stay D w w' := ⟨h.size, fun b hb => h.block b (hD b hb)⟩
theorem stay_b {D : Nat → Prop} {w : World} (hD : ∀ b, D b → b < w.heap.size) : ∀ (W : World) (l : Nat) (o o' : Obj), w.heap.size ≤ l → W.heap[l]? = some o → o.isCells = false → o.isWalk = false → Stay D W (W.putObj l o') := by
  intro W l o o' hl _ _ _
  exact ⟨by simp [World.putObj], fun b hb => World.putObj_heap_other (by have := hD b hb; omega)⟩
end Go.Proofs.Ytcicpgiljceioaa.Pk

/- Sets of blocks: those that a call may turn, those that stay, those that come to be. -/
namespace Go.Proofs.Ytcicpgiljceioaa.Pk
open Go.RowKit
set_option linter.unusedVariables false

/-- Only blocks of S, and new ones, may have turned. -/
structure Turned (S : Nat → Prop) (w w' : World) : Prop where
  os : w'.os = w.os
  tape : w'.tape = w.tape
  output : w'.output = w.output
  size : w.heap.size ≤ w'.heap.size
  block : ∀ i, i < w.heap.size → ¬ S i → w'.heap[i]? = w.heap[i]?
theorem Turned.of {B : Nat} {w w' : World} (h : Below B w w') (hB : w.heap.size ≤ B) (S : Nat → Prop) : Turned S w w' := ⟨h.os, h.tape, h.output, h.size, fun i hi _ => h.block i (by omega)⟩
theorem Turned.refl (S : Nat → Prop) (w : World) : Turned S w w := ⟨rfl, rfl, rfl, Nat.le_refl _, fun _ _ _ => rfl⟩
theorem Turned.below {S : Nat → Prop} {B : Nat} {u w w' : World} (h : Turned S w w') (hu : Below B u w) (hB : B ≤ w.heap.size) (hS : ∀ b, S b → B ≤ b) : Below B u w' :=
  ⟨h.os.trans hu.os, h.tape.trans hu.tape, h.output.trans hu.output, Nat.le_trans hu.size h.size, fun i hi => (h.block i (by omega) (fun hs => by have := hS i hs; omega)).trans (hu.block i hi)⟩
theorem Turned.trans {S S' : Nat → Prop} {w w' w2 : World} (h : Turned S w w') (k : Turned S' w' w2) (hS : ∀ b, b < w.heap.size → S' b → S b) : Turned S w w2 :=
  ⟨k.os.trans h.os, k.tape.trans h.tape, k.output.trans h.output, Nat.le_trans h.size k.size, fun i hi hn => (k.block i (Nat.lt_of_lt_of_le hi h.size) (fun hs => hn (hS i hi hs))).trans (h.block i hi hn)⟩
theorem Turned.drewN {S : Nat → Prop} {w w' : World} (h : Turned S w w') (n : Nat) : Turned S w (w'.drewN n) := ⟨h.os, h.tape, h.output, h.size, h.block⟩
theorem Turned.drew {S : Nat → Prop} {w w' : World} (h : Turned S w w') : Turned S w w'.drew := ⟨h.os, h.tape, h.output, h.size, h.block⟩
theorem Turned.set {S : Nat → Prop} {w w' : World} (h : Turned S w w') {p : Addr} (hp : S p.block) (u : Value) : Turned S w (w'.setCell p u) :=
  ⟨h.os, h.tape, h.output, by simpa [World.setCell] using h.size, fun i hi hn => (Below.heap_setCell w' p u i (by rintro rfl; exact hn hp)).trans (h.block i hi hn)⟩
theorem Turned.alloc {S : Nat → Prop} {w w' : World} (h : Turned S w w') (o : Obj) : Turned S w (w'.alloc o) :=
  h.trans (Turned.of ((Below.refl w'.heap.size w').alloc (Nat.le_refl _) o) (Nat.le_refl _) S) (fun _ _ h => h)
theorem Turned.next {S : Nat → Prop} {w w' w2 : World} (h : Turned S w w') (k : Below w'.heap.size w' w2) : Turned S w w2 := h.trans (Turned.of k (Nat.le_refl _) S) (fun _ _ h => h)
theorem Turned.grown {S : Nat → Prop} {w w' w2 : World} (h : Turned S w w') {row : Option Nat} (k : w'.grownBy w2 row) (hr : ∀ g, row = some g → g < w.heap.size → S g) : Turned S w w2 :=
  ⟨k.os.trans h.os, k.tape.trans h.tape, k.output.trans h.output, Nat.le_trans h.size k.size, fun i hi hn => (k.block i (Nat.lt_of_lt_of_le hi h.size) (fun e => hn (hr i e.symm hi))).trans (h.block i hi hn)⟩
/-- The blocks of D stay. -/
theorem Stay.drewN (D : Nat → Prop) (w : World) (n : Nat) : Stay D w (w.drewN n) := ⟨Nat.le_refl _, fun _ _ => rfl⟩
theorem Stay.turned {D S : Nat → Prop} {w w' : World} (h : Turned S w w') (hD : ∀ b, D b → b < w.heap.size ∧ ¬ S b) : Stay D w w' := ⟨h.size, fun b hb => h.block b (hD b hb).1 (hD b hb).2⟩
/-- Blocks of a set are old ones or new ones. -/
def From (S S' : Nat → Prop) (w : World) : Prop := ∀ b, S' b → S b ∨ w.heap.size ≤ b
theorem From.refl (S : Nat → Prop) (w : World) : From S S w := fun b h => .inl h
theorem From.trans {S S' S'' : Nat → Prop} {w w' : World} (h : From S S' w) (k : From S' S'' w') (hs : w.heap.size ≤ w'.heap.size) : From S S'' w := fun b hb => by
  rcases k b hb with h1 | h1
  · exact h b h1
  · exact .inr (by omega)
theorem From.back {S S' : Nat → Prop} {w w' : World} (h : From S S' w') (hs : w.heap.size ≤ w'.heap.size) : From S S' w := fun b hb => by
  rcases h b hb with h1 | h1
  · exact .inl h1
  · exact .inr (by omega)
theorem Turned.also {S S' : Nat → Prop} {w w' w2 : World} (h : Turned S w w') (hf : From S S' w) (k : Turned S' w' w2) : Turned S w w2 :=
  h.trans k (fun b hb hs => by rcases hf b hs with h1 | h1; exact h1; omega)
theorem from_base {S S' : Nat → Prop} {w : World} {B : Nat} (h : From S S' w) (hS : ∀ b, S b → B ≤ b) (hB : B ≤ w.heap.size) : ∀ b, S' b → B ≤ b := fun b hb => by
  rcases h b hb with h1 | h1
  · exact hS b h1
  · omega
theorem from_apart {S S' T : Nat → Prop} {w : World} (h : From S S' w) (hd : ∀ b, S b → ¬ T b) (hT : ∀ b, T b → b < w.heap.size) : ∀ b, S' b → ¬ T b := fun b hb ht => by
  rcases h b hb with h1 | h1
  · exact hd b h1 ht
  · have := hT b ht; omega
/-- A slice none of whose blocks lies in S. -/
def Free (S : Nat → Prop) (A : Option Addr) (n : Nat) : Prop := 0 < n → ∀ ad, A = some ad → ¬ S ad.block
theorem Reads.turned {S : Nat → Prop} {w w' : World} {size n : Nat} {A : Option Addr} {xs : List Value} (h : Reads w w.heap.size size A n xs) (hf : Free S A n) (ht : Turned S w w') : Reads w' w'.heap.size size A n xs :=
  ⟨h.1, fun hn => by
    obtain ⟨ad, e, hb, hc⟩ := h.2 hn
    exact ⟨ad, e, Nat.lt_of_lt_of_le hb ht.size, fun j u hu => (World.cell?_of_block (by rw [block_of_add]; exact ht.block _ hb (hf hn ad e))).trans (hc j u hu)⟩⟩
theorem Free.next {S S' : Nat → Prop} {w : World} {size n : Nat} {A : Option Addr} {xs : List Value} (hf : Free S A n) (h : Reads w w.heap.size size A n xs) (hS : From S S' w) : Free S' A n := fun hn ad e hs => by
  obtain ⟨ad', e', hb, _⟩ := h.2 hn
  rw [e] at e'; injection e' with e'; subst e'
  rcases hS _ hs with h1 | h1
  · exact hf hn ad e h1
  · omega
theorem free_base {S : Nat → Prop} {w : World} {B size n : Nat} {A : Option Addr} {xs : List Value} (h : Reads w B size A n xs) (hS : ∀ b, S b → B ≤ b) : Free S A n := fun hn ad e hs => by
  obtain ⟨ad', e', hb, _⟩ := h.2 hn
  rw [e] at e'; injection e' with e'; subst e'
  have := hS _ hs; omega
end Go.Proofs.Ytcicpgiljceioaa.Pk
