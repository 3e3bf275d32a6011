/- Blocks that stay. -/
import Derived.Test.YtcomiininaemhaaZMem
import Derived.Test.YtcomiininaemhaaZRng
import Derived.Test.YtcomiininaemhaaProg
namespace Go.Proofs.Ytcomiininaemhaa.Pk
open Go.RowKit
set_option linter.unusedVariables false
def Stay (D : Nat → Prop) (w w' : World) : Prop := w.heap.size ≤ w'.heap.size ∧ ∀ b, D b → w'.heap[b]? = w.heap[b]?
theorem Stay.refl (D : Nat → Prop) (w : World) : Stay D w w := ⟨Nat.le_refl _, fun _ _ => rfl⟩
theorem Stay.trans {D : Nat → Prop} {a b c : World} (h : Stay D a b) (k : Stay D b c) : Stay D a c := ⟨Nat.le_trans h.1 k.1, fun i hi => (k.2 i hi).trans (h.2 i hi)⟩
theorem Stay.sub {D E : Nat → Prop} {a b : World} (h : Stay D a b) (hs : ∀ b, E b → D b) : Stay E a b := ⟨h.1, fun i hi => h.2 i (hs i hi)⟩
theorem Stay.below {D : Nat → Prop} {B : Nat} {w w' : World} (h : Below B w w') (hD : ∀ b, D b → b < B) : Stay D w w' := ⟨h.size, fun b hb => h.block b (hD b hb)⟩
theorem stay_b {D : Nat → Prop} {w : World} (hD : ∀ b, D b → b < w.heap.size) : ∀ (W : World) (l : Nat) (o o' : Obj), w.heap.size ≤ l → W.heap[l]? = some o → o.isCells = false → o.isWalk = false → Stay D W (W.putObj l o') := by
  intro W l o o' hl _ _ _
  exact ⟨by simp [World.putObj], fun b hb => World.putObj_heap_other (by have := hD b hb; omega)⟩
end Go.Proofs.Ytcomiininaemhaa.Pk

/- Sets of blocks: those that a call may turn, those that stay, those that come to be. -/
namespace Go.Proofs.Ytcomiininaemhaa.Pk
open Go.RowKit
set_option linter.unusedVariables false

/-- Only blocks of S, and new ones, may have turned. -/
structure Turned (S : Nat → Prop) (w w' : World) : Prop where
  os : w'.os = w.os
  tape : w'.tape = w.tape
  output : w'.output = w.output
  size : w.heap.size ≤ w'.heap.size
  block : ∀ i, i < w.heap.size → ¬ S i → w'.heap[i]? = w.heap[i]?
theorem Turned.of {B : Nat} {w w' : World} (h : Below B w w') (hB : w.heap.size ≤ B) (S : Nat → Prop) : Turned S w w' := ⟨h.os, h.tape, h.output, h.size, fun i hi _ => h.block i (by omega)⟩
theorem Turned.refl (S : Nat → Prop) (w : World) : Turned S w w := ⟨rfl, rfl, rfl, Nat.le_refl _, fun _ _ _ => rfl⟩
theorem Turned.below {S : Nat → Prop} {B : Nat} {u w w' : World} (h : Turned S w w') (hu : Below B u w) (hB : B ≤ w.heap.size) (hS : ∀ b, S b → B ≤ b) : Below B u w' :=
  ⟨h.os.trans hu.os, h.tape.trans hu.tape, h.output.trans hu.output, Nat.le_trans hu.size h.size, fun i hi => (h.block i (by omega) (fun hs => by have := hS i hs; omega)).trans (hu.block i hi)⟩
theorem Turned.trans {S S' : Nat → Prop} {w w' w2 : World} (h : Turned S w w') (k : Turned S' w' w2) (hS : ∀ b, b < w.heap.size → S' b → S b) : Turned S w w2 :=
  ⟨k.os.trans h.os, k.tape.trans h.tape, k.output.trans h.output, Nat.le_trans h.size k.size, fun i hi hn => (k.block i (Nat.lt_of_lt_of_le hi h.size) (fun hs => hn (hS i hi hs))).trans (h.block i hi hn)⟩
theorem Turned.drewN {S : Nat → Prop} {w w' : World} (h : Turned S w w') (n : Nat) : Turned S w (w'.drewN n) := ⟨h.os, h.tape, h.output, h.size, h.block⟩
theorem Turned.drew {S : Nat → Prop} {w w' : World} (h : Turned S w w') : Turned S w w'.drew := ⟨h.os, h.tape, h.output, h.size, h.block⟩
theorem Turned.set {S : Nat → Prop} {w w' : World} (h : Turned S w w') {p : Addr} (hp : S p.block) (u : Value) : Turned S w (w'.setCell p u) :=
  ⟨h.os, h.tape, h.output, by simpa [World.setCell] using h.size, fun i hi hn => (Below.heap_setCell w' p u i (by rintro rfl; exact hn hp)).trans (h.block i hi hn)⟩
theorem Turned.alloc {S : Nat → Prop} {w w' : World} (h : Turned S w w') (o : Obj) : Turned S w (w'.alloc o) :=
  h.trans (Turned.of ((Below.refl w'.heap.size w').alloc (Nat.le_refl _) o) (Nat.le_refl _) S) (fun _ _ h => h)
theorem Turned.next {S : Nat → Prop} {w w' w2 : World} (h : Turned S w w') (k : Below w'.heap.size w' w2) : Turned S w w2 := h.trans (Turned.of k (Nat.le_refl _) S) (fun _ _ h => h)
theorem Turned.grown {S : Nat → Prop} {w w' w2 : World} (h : Turned S w w') {row : Option Nat} (k : w'.grownBy w2 row) (hr : ∀ g, row = some g → g < w.heap.size → S g) : Turned S w w2 :=
  ⟨k.os.trans h.os, k.tape.trans h.tape, k.output.trans h.output, Nat.le_trans h.size k.size, fun i hi hn => (k.block i (Nat.lt_of_lt_of_le hi h.size) (fun e => hn (hr i e.symm hi))).trans (h.block i hi hn)⟩
/-- The blocks of D stay. -/
theorem Stay.drewN (D : Nat → Prop) (w : World) (n : Nat) : Stay D w (w.drewN n) := ⟨Nat.le_refl _, fun _ _ => rfl⟩
theorem Stay.turned {D S : Nat → Prop} {w w' : World} (h : Turned S w w') (hD : ∀ b, D b → b < w.heap.size ∧ ¬ S b) : Stay D w w' := ⟨h.size, fun b hb => h.block b (hD b hb).1 (hD b hb).2⟩
/-- Blocks of a set are old ones or new ones. -/
def From (S S' : Nat → Prop) (w : World) : Prop := ∀ b, S' b → S b ∨ w.heap.size ≤ b
theorem From.refl (S : Nat → Prop) (w : World) : From S S w := fun b h => .inl h
theorem From.trans {S S' S'' : Nat → Prop} {w w' : World} (h : From S S' w) (k : From S' S'' w') (hs : w.heap.size ≤ w'.heap.size) : From S S'' w := fun b hb => by
  rcases k b hb with h1 | h1
  · exact h b h1
  · exact .inr (by omega)
theorem From.back {S S' : Nat → Prop} {w w' : World} (h : From S S' w') (hs : w.heap.size ≤ w'.heap.size) : From S S' w := fun b hb => by
  rcases h b hb with h1 | h1
  · exact .inl h1
  · exact .inr (by omega)
theorem Turned.also {S S' : Nat → Prop} {w w' w2 : World} (h : Turned S w w') (hf : From S S' w) (k : Turned S' w' w2) : Turned S w w2 :=
  h.trans k (fun b hb hs => by rcases hf b hs with h1 | h1; exact h1; omega)
theorem from_base {S S' : Nat → Prop} {w : World} {B : Nat} (h : From S S' w) (hS : ∀ b, S b → B ≤ b) (hB : B ≤ w.heap.size) : ∀ b, S' b → B ≤ b := fun b hb => by
  rcases h b hb with h1 | h1
  · exact hS b h1
  · omega
theorem from_apart {S S' T : Nat → Prop} {w : World} (h : From S S' w) (hd : ∀ b, S b → ¬ T b) (hT : ∀ b, T b → b < w.heap.size) : ∀ b, S' b → ¬ T b := fun b hb ht => by
  rcases h b hb with h1 | h1
  · exact hd b h1 ht
  · have := hT b ht; omega
/-- A slice none of whose blocks lies in S. -/
def Free (S : Nat → Prop) (A : Option Addr) (n : Nat) : Prop := 0 < n → ∀ ad, A = some ad → ¬ S ad.block
theorem Reads.turned {S : Nat → Prop} {w w' : World} {size n : Nat} {A : Option Addr} {xs : List Value} (h : Reads w w.heap.size size A n xs) (hf : Free S A n) (ht : Turned S w w') : Reads w' w'.heap.size size A n xs :=
  ⟨h.1, fun hn => by
    obtain ⟨ad, e, hb, hc⟩ := h.2 hn
    exact ⟨ad, e, Nat.lt_of_lt_of_le hb ht.size, fun j u hu => (World.cell?_of_block (by rw [block_of_add]; exact ht.block _ hb (hf hn ad e))).trans (hc j u hu)⟩⟩
theorem Free.next {S S' : Nat → Prop} {w : World} {size n : Nat} {A : Option Addr} {xs : List Value} (hf : Free S A n) (h : Reads w w.heap.size size A n xs) (hS : From S S' w) : Free S' A n := fun hn ad e hs => by
  obtain ⟨ad', e', hb, _⟩ := h.2 hn
  rw [e] at e'; injection e' with e'; subst e'
  rcases hS _ hs with h1 | h1
  · exact hf hn ad e h1
  · omega
theorem free_base {S : Nat → Prop} {w : World} {B size n : Nat} {A : Option Addr} {xs : List Value} (h : Reads w B size A n xs) (hS : ∀ b, S b → B ≤ b) : Free S A n := fun hn ad e hs => by
  obtain ⟨ad', e', hb, _⟩ := h.2 hn
  rw [e] at e'; injection e' with e'; subst e'
  have := hS _ hs; omega
end Go.Proofs.Ytcomiininaemhaa.Pk

/- What lies where while a function is ranged over. -/
namespace Go.Proofs.Ytcomiininaemhaa.Pk
open Go.RowKit Go.Shelf
set_option linter.unusedVariables false
theorem Stay.refl_ (D : Nat → Prop) (w : World) : Stay D w w := ⟨Nat.le_refl _, fun _ _ => rfl⟩
theorem stay_setAt {D : Nat → Prop} {V : World} {x o : Nat} {u : Value} (hx : ¬ D x) : Stay D V (V.setCell ⟨x, o, none⟩ u) :=
  ⟨by simp [World.setCell], fun b hb => Below.heap_setCell _ ⟨x, o, none⟩ _ b (fun e => hx (by simp at e; subst e; exact hb))⟩
theorem keepsAll_setAt {B x i : Nat} (W : World) (hx : x < B) (u : Value) : KeepsAll B W (W.setCell ⟨x, i, none⟩ u) :=
  ⟨by simp [World.setCell], fun k hB hk => Below.heap_setCell W ⟨x, i, none⟩ u k (by show ¬ k = x; omega)⟩
/-- What lies below, but some blocks, lies as it lay. -/
structure OnlyS (S : Nat → Prop) (w V : World) : Prop where
  os : V.os = w.os
  tape : V.tape = w.tape
  output : V.output = w.output
  size : w.heap.size ≤ V.heap.size
  block : ∀ i, i < w.heap.size → ¬ S i → V.heap[i]? = w.heap[i]?
section
variable {S : Nat → Prop} {w V : World}
theorem OnlyS.refl (S : Nat → Prop) (w : World) : OnlyS S w w := ⟨rfl, rfl, rfl, Nat.le_refl _, fun _ _ _ => rfl⟩
theorem OnlyS.set (h : OnlyS S w V) {x : Nat} (hx : S x) (u : Value) : OnlyS S w (V.setCell ⟨x, 0, none⟩ u) :=
  ⟨h.os, h.tape, h.output, by have := h.size; simpa [World.setCell] using this, fun i hi hn => (Below.heap_setCell V ⟨x, 0, none⟩ u i (fun e => by simp at e; subst e; exact hn hx)).trans (h.block i hi hn)⟩
theorem OnlyS.drewN (h : OnlyS S w V) (k : Nat) : OnlyS S w (V.drewN k) := ⟨h.os, h.tape, h.output, h.size, h.block⟩
theorem OnlyS.below {W' : World} (h : OnlyS S w V) (hb : Below V.heap.size V W') : OnlyS S w W' :=
  ⟨hb.os.trans h.os, hb.tape.trans h.tape, hb.output.trans h.output, Nat.le_trans h.size hb.size, fun i hi hn => (hb.block i (Nat.lt_of_lt_of_le hi h.size)).trans (h.block i hi hn)⟩
theorem OnlyS.blk {g : Nat} {t : TypeId} {cs : Array Value} (h : OnlyS S w V) (hg : Blk w g t cs) (hx : ¬ S g) : Blk V g t cs := (h.block g hg.lt hx).trans hg
theorem OnlyS.reads {B size n : Nat} {A : Option Addr} {xs : List Value} (h : OnlyS S w V) (hr : Reads w B size A n xs) (hB : B ≤ w.heap.size) (hx : 0 < n → ∀ ad, A = some ad → ¬ S ad.block) : Reads V B size A n xs := by
  refine ⟨hr.1, fun hn => ?_⟩
  obtain ⟨ad, e, hb, hc⟩ := hr.2 hn
  refine ⟨ad, e, hb, fun j u hu => (World.cell?_of_block (h.block _ (by rw [block_of_add]; omega) (by rw [block_of_add]; exact hx hn ad e))).trans (hc j u hu)⟩
theorem OnlyS.stay {D : Nat → Prop} (h : OnlyS S w V) (hD : ∀ b, D b → b < w.heap.size ∧ ¬ S b) : Stay D w V := ⟨h.size, fun b hb => h.block b (hD b hb).1 (hD b hb).2⟩
theorem OnlyS.bel {B : Nat} {a : World} (h : Below B a w) (k : OnlyS S w V) (hS : ∀ b, S b → B ≤ b) (hB : B ≤ w.heap.size) : Below B a V :=
  ⟨k.os.trans h.os, k.tape.trans h.tape, k.output.trans h.output, Nat.le_trans h.size k.size, fun i hi => (k.block i (by omega) (fun e => by have := hS i e; omega)).trans (h.block i hi)⟩
theorem OnlyS.marks {B : Nat} {ds : List Deferred} (h : Marks B ds w) (k : OnlyS S w V) (hS : ∀ b, S b → ∃ t cs, Blk w b t cs) : Marks B ds V :=
  h.keep k.size (fun q ⟨d, hd, he⟩ => k.block q (h.lt d hd q he) (fun hs => by
    obtain ⟨t, cs, hb⟩ := hS q hs
    obtain ⟨D, e1, _, h2, h3⟩ := h.mem d hd
    rw [e1] at he
    injection he with he
    injection he with he
    subst he
    unfold Blk at hb
    rw [hb] at h3; cases h3))
theorem own_onlyS {β : Type} (W1 : World) (S : Nat → Prop) : OwnFrom (β := β) W1.heap.size (fun _ W => OnlyS S W1 W) := by
  intro s A B row h hg hr
  refine ⟨hg.os.trans h.os, hg.tape.trans h.tape, hg.output.trans h.output, Nat.le_trans h.size hg.size, fun k hk hne => ?_⟩
  refine (hg.block k (Nat.lt_of_lt_of_le hk h.size) (fun e => ?_)).trans (h.block k hk hne)
  have := (hr k e.symm).1
  omega
end

end Go.Proofs.Ytcomiininaemhaa.Pk

/- Ranges over a function that may keep memory of its own from round to round: its caller's word speaks of no block from the iterator's own on (Std). -/
namespace Go.Proofs.Ytcomiininaemhaa.Pk
open Go.RowKit Go.Shelf
set_option linter.unusedVariables false
/-- A word that speaks of no block from B on. -/
def Std {β : Type} (B : Nat) (I : β → World → Prop) : Prop := ∀ s W W', I s W → Turned (fun b => B ≤ b) W W' → I s W'
theorem Std.and {β : Type} {B : Nat} {I I' : β → World → Prop} (h : Std B I) (h' : Std B I') : Std B (fun s W => I s W ∧ I' s W) := fun s W W' hs ht => ⟨h s W W' hs.1 ht, h' s W W' hs.2 ht⟩
theorem Std.mono {β : Type} {B B' : Nat} {I : β → World → Prop} (h : Std B I) (hB : B ≤ B') : Std B' I := fun s W W' hs ht => h s W W' hs ⟨ht.os, ht.tape, ht.output, ht.size, fun i hi hn => ht.block i hi (fun e => hn (by omega))⟩
theorem Std.own {β : Type} {B : Nat} {I : β → World → Prop} (h : Std B I) : OwnFrom B I := fun s W W' row hs hg hr => h s W W' hs ⟨hg.os, hg.tape, hg.output, hg.size, fun i hi hn => hg.block i hi (fun e => hn (hr i e.symm).1)⟩
theorem Std.alloc {β : Type} {B : Nat} {I : β → World → Prop} (h : Std B I) {s : β} {W : World} (o : Obj) (hs : I s W) : I s (W.alloc o) := h s W _ hs ((Turned.refl _ W).alloc o)
theorem Std.putObj {β : Type} {B : Nat} {I : β → World → Prop} (h : Std B I) {s : β} {W : World} {l : Nat} {o : Obj} (o' : Obj) (hs : I s W) (hB : B ≤ l) (hl : W.heap[l]? = some o) (ho : o.isCells = false) : I s (W.putObj l o') := h.own.putObj o' hs hB hl ho
theorem Blk.std {B x : Nat} {W W' : World} {t : TypeId} {cs : Array Value} (h : Blk W x t cs) (ht : Turned (fun b => B ≤ b) W W') (hx : x < B) : Blk W' x t cs := (ht.block x h.lt (fun e => by omega)).trans h
theorem std_blk {β : Type} {B x : Nat} {t : TypeId} {f : β → Array Value} (hx : x < B) : Std B (fun s W => Blk W x t (f s)) := fun s W W' hs ht => Blk.std hs ht hx
theorem std_onlyS {β : Type} (W1 : World) (S : Nat → Prop) : Std (β := β) W1.heap.size (fun _ W => OnlyS S W1 W) := fun s W W' hs ht =>
  ⟨ht.os.trans hs.os, ht.tape.trans hs.tape, ht.output.trans hs.output, Nat.le_trans hs.size ht.size, fun i hi hn => (ht.block i (Nat.lt_of_lt_of_le hi hs.size) (fun e => by have : W1.heap.size ≤ i := e; omega)).trans (hs.block i hi hn)⟩
/-- A function behind bound arguments pb that goes over things: its caller's word may speak of all but the blocks that it makes itself (no cells, new); a round leaves those alone. -/
def GoesWS {α : Type} (m : Nat) (P : Program) (g : Nat) (pb lb : Array Value) (encs : α → Array Value) (Kp : World → World → Prop) (S Sp : List α → Prop) (Ok : Nat → List α → α → World → Prop) (w : World) : Prop :=
  ∀ (l : Nat) (J Jx : List α → World → Prop) (W : World), Below w.heap.size w W → Std W.heap.size J → Std W.heap.size Jx →
    (∀ pre x W1, J pre W1 → Ok W.heap.size pre x W1 → YieldAt Fence.wide (m - 1) P l (encs x) W1 fun e W' => KeepsAll W.heap.size W1 W' ∧
      ((e = .returned (.bool true) ∧ J (pre ++ [x]) W' ∧ Kp W1 W') ∨ (e = .returned (.bool false) ∧ Jx (pre ++ [x]) W'))) →
    J [] W →
    CallsIn Fence.wide m P g (pb ++ #[.func (.yield l) #[] #[]] ++ lb) W fun e W' => (∃ v, e = .returned v) ∧ ((∃ xs, S xs ∧ J xs W') ∨ (∃ pre, Sp pre ∧ Jx pre W'))

section
variable {n : Nat} {P : Program} {α : Type} {g : Operand} {ps : Array Tmp} {assign body : Code} {Q : Exit → Act → World → Prop} {a : Act} {w : World}
theorem range_boundWS {gf : Nat} {pb lb : Array Value} (hg : a.eval g = .func (.func gf) pb lb) (eg : ∀ args w, (callFunc gf args).run P w = .ok (.enter gf args) w)
    {encs : α → Array Value} {Kp : World → World → Prop} {S Sp : List α → Prop} {Ok : Nat → List α → α → World → Prop} (hseq : GoesWS (n - 1) P gf pb lb encs Kp S Sp Ok w)
    (hKt : ∀ {A B C : World}, Kp A B → Kp B C → Kp A C) (hKb : ∀ (W : World) (l : Nat) (o o' : Obj), w.heap.size ≤ l → W.heap[l]? = some o → o.isCells = false → o.isWalk = false → Kp W (W.putObj l o')) (hps : ∀ x, (encs x).size = ps.size)
    (hOk : ∀ (B : Nat) (pre : List α) (x : α) (W : World) (l : Nat) (o o' : Obj), W.heap[l]? = some o → o.isCells = false → Ok B pre x W → Ok B pre x (W.putObj l o'))
    (I : List α → World → Prop) (Ix : Code → List α → World → Prop) (hI : Std w.heap.size I) (hIx : ∀ c, Std w.heap.size (Ix c)) (h0 : I [] w) (a₁ : α → Act)
    (hassign : ∀ (l : Nat) (x : α) (W : World) (K : Act → World → Prop), K (a₁ x) W →
      assign.wpIn (Fence.wide.inRound l) (n - 1 - 1) P (Exit.then K (fun _ _ _ => False)) { tmps := (ps.zip (encs x)).foldl (fun t (p, v) => t.setIfInBounds p v) a.tmps, defers := [] } W)
    (hbody : ∀ (l : Nat) (pre : List α) (x : α) (W : World), w.heap.size ≤ l → (∃ r, W.heap[l]? = some (.loop r)) → I pre W → (∃ B, w.heap.size ≤ B ∧ Ok B pre x W) → body.wpIn (Fence.wide.inRound l) (n - 1 - 1) P (postB w.heap.size Kp I Ix (pre ++ [x]) W) (a₁ x) W)
    (hdone : ∀ (D : Nat) (xs : List α) (W : World), w.heap.size ≤ D → S xs → I xs W → W.heap[D]? = some (.deferred (some [])) → Q .normal { a with defers := { target := .collected D, args := #[] } :: a.defers } W)
    (hstop : ∀ (D : Nat) (c : Code) (pre : List α) (W : World), w.heap.size ≤ D → Sp pre → Ix c pre W → W.heap[D]? = some (.deferred (some [])) → c.wpIn Fence.wide n P Q { a with defers := { target := .collected D, args := #[] } :: a.defers } W) :
    (Code.rangeFunc g ps assign body).wpIn Fence.wide n P Q a w := by
  refine wpIn_rangeFunc (fun fn hfn => ?_)
  -- D: the mark's block; L: the record's
  generalize hD : w.heap.size = D at *
  obtain ⟨rc, hrc⟩ : ∃ rc : LoopState → Option Code → Loop, rc = fun st pe => { state := st, pending := pe, fn, tmps := a.tmps, params := ps, assign, body, defers := D } := ⟨_, rfl⟩
  obtain ⟨V, hV⟩ : ∃ V, V = (w.alloc (.deferred (some []))).alloc (.loop (rc .ready none)) := ⟨_, rfl⟩
  have hVs : V.heap.size = D + 2 := by rw [hV, World.size_alloc, World.size_alloc, hD]
  have hVL : V.heap[D + 1]? = some (.loop (rc .ready none)) := by
    have := World.alloc_heap_new (w.alloc (.deferred (some []))) (.loop (rc .ready none))
    rwa [World.size_alloc, hD, ← hV] at this
  have hVD : V.heap[D]? = some (.deferred (some [])) := by
    have h1 := World.alloc_heap_new w (.deferred (some []))
    rw [hD] at h1
    rw [hV]
    exact (Below.heap_alloc _ _ _ (by rw [World.size_alloc]; omega)).trans h1
  have hbV : Below D w V := by rw [hV]; exact ((Below.refl D w).alloc (by omega) _).alloc (by rw [World.size_alloc]; omega) _
  have hIV : I [] V := by rw [hV]; exact hI.alloc _ (hI.alloc _ h0)
  -- the law's own two blocks, at a state of the record
  obtain ⟨Two, hTwo⟩ : ∃ Two : LoopState → Option Code → World → Prop, Two = fun st pe W => W.heap[D + 1]? = some (.loop (rc st pe)) ∧ W.heap[D]? = some (.deferred (some [])) := ⟨_, rfl⟩
  have two_grown : ∀ {st pe} {A B : World}, Two st pe A → Turned (fun b => V.heap.size ≤ b) A B → Two st pe B := by
    intro st pe A B h ht
    rw [hTwo] at h ⊢
    have key : ∀ k o, k < D + 2 → A.heap[k]? = some o → B.heap[k]? = some o := fun k o hk hh => (ht.block k (Array.getElem?_eq_some_iff.1 hh).1 (fun e => by have : V.heap.size ≤ k := e; omega)).trans hh
    exact ⟨key _ _ (by omega) h.1, key _ _ (by omega) h.2⟩
  have two_put : ∀ {st pe} {A : World} (st' : LoopState) (pe' : Option Code), Two st pe A → Two st' pe' (A.putObj (D + 1) (.loop (rc st' pe'))) := by
    intro st pe A st' pe' h
    rw [hTwo] at h ⊢
    exact ⟨World.putObj_heap_same (Array.getElem?_eq_some_iff.1 h.1).1, (World.putObj_heap_other (by omega)).trans h.2⟩
  have two_keeps : ∀ {st pe} {A B : World}, Two st pe A → KeepsAll D A B → Two st pe B := by
    intro st pe A B h hk
    rw [hTwo] at h ⊢
    exact ⟨(hk.same _ (by omega) (Array.getElem?_eq_some_iff.1 h.1).1).trans h.1, (hk.same _ (Nat.le_refl _) (Array.getElem?_eq_some_iff.1 h.2).1).trans h.2⟩
  have own_two : ∀ {I' : List α → World → Prop} {st pe}, Std D I' → Std V.heap.size (fun pre W => I' pre W ∧ Two st pe W) := by
    intro I' st pe h s A B hs ht
    exact ⟨(h.mono (by omega)) s A B hs.1 ht, two_grown hs.2 ht⟩
  refine ⟨D + 1, [{ target := .collected D, args := #[] }], V, { target := .fn (.func gf) lb, args := pb ++ #[.func (.yield (D + 1)) #[] #[]] }, V, gf, pb ++ #[.func (.yield (D + 1)) #[] #[]] ++ lb, V, ?_, ?_, ?_, ?_, fun h => (by cases h), ?_⟩
  · have := run_enterLoop_outer (P := P) (w := w) fn a.tmps ps assign body
    rw [hD] at this
    rw [hV, hrc]; exact this
  · simp only [resolve, hg]
    simp [go_sem]
  · intro f' _; trivial
  · simp [invoke, go_sem, eg]
  · refine (hseq (D + 1) (fun pre W => I pre W ∧ Two .ready none W) (fun pre W => ∃ c, Ix c pre W ∧ Two .done (some c) W) V (hD.symm ▸ hbV) (own_two hI) ?_ ?_ ⟨hIV, by rw [hTwo]; exact ⟨hVL, hVD⟩⟩).mono ?_
    · rintro s A B ⟨c, hc⟩ ht
      exact ⟨c, own_two (hIx c) s A B hc ht⟩
    · rintro pre x W ⟨hi, ht⟩ hlen
      have ht' := ht
      rw [hTwo] at ht'
      have hy := run_yield (P := P) (args := encs x) ht'.1 (by rw [hrc]; exact hps x)
      rw [hrc] at hy
      refine ⟨fn, _, assign, body, hy, roundIn_of_wpIn hfn (hassign _ x W _ ⟨_, run_beginRound ht'.1 (by rw [hrc]), ?_⟩)⟩
      have hb2 : Two .busy none (W.putObj (D + 1) (.loop (rc .busy none))) := two_put .busy none ht
      have hrb : ({ rc .ready none with state := .busy } : Loop) = rc .busy none := by rw [hrc]
      rw [hrb]
      have hw2 : Kp W (W.putObj (D + 1) (.loop (rc .busy none))) := hKb _ _ _ _ (by omega) ht'.1 rfl rfl
      have hb2' := hb2
      rw [hTwo] at hb2'
      refine wpIn_mono (hbody _ pre x _ (by omega) ⟨_, hb2'.1⟩ (hI.putObj _ hi (by omega) ht'.1 rfl) ⟨V.heap.size, by omega, hOk _ _ _ _ _ _ _ ht'.1 rfl hlen⟩) ?_
      -- behind the body: the round's end by its jump
      have fin : ∀ (jump : Option Code) (W3 : World), KeepsAll D (W.putObj (D + 1) (.loop (rc .busy none))) W3 →
          (Instr.endRound (D + 1) jump).run P W3 = .ok (.bool jump.isNone) (W3.putObj (D + 1) (.loop (rc (if jump.isNone then .ready else .done) jump))) ∧ Two (if jump.isNone then .ready else .done) jump (W3.putObj (D + 1) (.loop (rc (if jump.isNone then .ready else .done) jump))) ∧
          KeepsAll V.heap.size W (W3.putObj (D + 1) (.loop (rc (if jump.isNone then .ready else .done) jump))) ∧ W3.heap[D + 1]? = some (.loop (rc .busy none)) := by
        intro jump W3 hk
        have h3 := two_keeps hb2 hk
        have h3' := h3
        rw [hTwo] at h3'
        have he := run_endRound (P := P) jump h3'.1
        have hre : ({ rc .busy none with state := if jump.isNone then LoopState.ready else LoopState.done, pending := jump } : Loop) = rc (if jump.isNone then .ready else .done) jump := by rw [hrc]
        rw [hre] at he
        refine ⟨he, two_put _ _ h3, ?_, h3'.1⟩
        exact ((KeepsAll.put W _ (by omega)).trans (hk.more (by omega))).trans (KeepsAll.put W3 _ (by omega))
      have leave : ∀ (c : Code) (W3 : World), KeepsAll D (W.putObj (D + 1) (.loop (rc .busy none))) W3 → Ix c (pre ++ [x]) W3 → ∃ v w', (Instr.endRound (D + 1) (some c)).run P W3 = .ok v w' ∧ (KeepsAll V.heap.size W w' ∧
          ((Ending.returned v = .returned (.bool true) ∧ (I (pre ++ [x]) w' ∧ Two .ready none w') ∧ Kp W w') ∨ (Ending.returned v = .returned (.bool false) ∧ ∃ c, Ix c (pre ++ [x]) w' ∧ Two .done (some c) w'))) := by
        intro c W3 hk hx
        obtain ⟨f1, f2, f3, f4⟩ := fin (some c) W3 hk
        exact ⟨_, _, f1, f3, .inr ⟨rfl, c, (hIx c).putObj _ hx (by omega) f4 rfl, f2⟩⟩
      rintro e a3 W3 hp
      cases e with
      | normal =>
        obtain ⟨hk3, hkp3, hi3⟩ := hp
        obtain ⟨f1, f2, f3, f4⟩ := fin none W3 hk3
        exact ⟨_, _, f1, f3, .inl ⟨rfl, ⟨hI.putObj _ hi3 (by omega) f4 rfl, f2⟩, hKt (hKt hw2 hkp3) (hKb _ _ _ _ (by omega) f4 rfl rfl)⟩⟩
      | ret => exact leave .ret W3 hp.1 hp.2
      | exit id => exact leave (.exit id) W3 hp.1 hp.2
      | goto t => exact leave (.goto t) W3 hp.1 hp.2
      | panic ch => exact hp.elim
      | outgrown => exact hp.elim
    · rintro e W2 ⟨⟨v, rfl⟩, (⟨xs, hS, hi, ht⟩ | ⟨pre, hSp, c, hi, ht⟩)⟩
      · rw [hTwo] at ht
        have he := run_endLoop (P := P) ht.1 (by rw [hrc]; simp)
        have hpe : (rc .ready none).pending = none := by rw [hrc]
        rw [hpe] at he
        exact ⟨none, _, he, hdone _ xs _ (Nat.le_refl _) hS (hI.putObj _ hi (by omega) ht.1 rfl) ((World.putObj_heap_other (by omega)).trans ht.2)⟩
      · rw [hTwo] at ht
        have he := run_endLoop (P := P) ht.1 (by rw [hrc]; simp)
        have hpe : (rc .done (some c)).pending = some c := by rw [hrc]
        rw [hpe] at he
        exact ⟨some c, _, he, hstop _ c pre _ (Nat.le_refl _) hSp ((hIx c).putObj _ hi (by omega) ht.1 rfl) ((World.putObj_heap_other (by omega)).trans ht.2)⟩
end
/-- A function behind bound arguments pb that goes over things: its caller's word may speak of all but the blocks that it makes itself (no cells, new); a round leaves those alone. -/
def GoesFS {α : Type} (m : Nat) (P : Program) (g : Nat) (pb lb : Array Value) (encs : α → Array Value) (Kp : World → World → Prop) (S Sp : List α → Prop) (Ok : Nat → List α → α → World → Prop) (Fr : Nat → α → Nat → Prop) (w : World) : Prop :=
  ∀ (l : Nat) (J Jx : List α → World → Prop) (W : World), Below w.heap.size w W → Std W.heap.size J → Std W.heap.size Jx →
    (∀ pre x W1, J pre W1 → Ok W.heap.size pre x W1 → YieldAt Fence.wide (m - 1) P l (encs x) W1 fun e W' => KeepsF W.heap.size (Fr W.heap.size x) W1 W' ∧
      ((e = .returned (.bool true) ∧ J (pre ++ [x]) W' ∧ Kp W1 W') ∨ (e = .returned (.bool false) ∧ Jx (pre ++ [x]) W'))) →
    J [] W →
    CallsIn Fence.wide m P g (pb ++ #[.func (.yield l) #[] #[]] ++ lb) W fun e W' => (∃ v, e = .returned v) ∧ ((∃ xs, S xs ∧ J xs W') ∨ (∃ pre, Sp pre ∧ Jx pre W'))

section
variable {n : Nat} {P : Program} {α : Type} {g : Operand} {ps : Array Tmp} {assign body : Code} {Q : Exit → Act → World → Prop} {a : Act} {w : World}
theorem range_boundFS {gf : Nat} {pb lb : Array Value} (hg : a.eval g = .func (.func gf) pb lb) (eg : ∀ args w, (callFunc gf args).run P w = .ok (.enter gf args) w)
    {encs : α → Array Value} {Kp : World → World → Prop} {S Sp : List α → Prop} {Ok : Nat → List α → α → World → Prop} {Fr : Nat → α → Nat → Prop} (hseq : GoesFS (n - 1) P gf pb lb encs Kp S Sp Ok Fr w)
    (hFr : ∀ (B : Nat) (pre : List α) (x : α) (W : World) (k : Nat), Ok B pre x W → Fr B x k → B ≤ k)
    (hKt : ∀ {A B C : World}, Kp A B → Kp B C → Kp A C) (hKb : ∀ (W : World) (l : Nat) (o o' : Obj), w.heap.size ≤ l → W.heap[l]? = some o → o.isCells = false → o.isWalk = false → Kp W (W.putObj l o')) (hps : ∀ x, (encs x).size = ps.size)
    (hOk : ∀ (B : Nat) (pre : List α) (x : α) (W : World) (l : Nat) (o o' : Obj), W.heap[l]? = some o → o.isCells = false → Ok B pre x W → Ok B pre x (W.putObj l o'))
    (I : List α → World → Prop) (Ix : Code → List α → World → Prop) (hI : Std w.heap.size I) (hIx : ∀ c, Std w.heap.size (Ix c)) (h0 : I [] w) (a₁ : α → Act)
    (hassign : ∀ (l : Nat) (x : α) (W : World) (K : Act → World → Prop), K (a₁ x) W →
      assign.wpIn (Fence.wide.inRound l) (n - 1 - 1) P (Exit.then K (fun _ _ _ => False)) { tmps := (ps.zip (encs x)).foldl (fun t (p, v) => t.setIfInBounds p v) a.tmps, defers := [] } W)
    (hbody : ∀ (l : Nat) (pre : List α) (x : α) (W : World), w.heap.size ≤ l → (∃ r, W.heap[l]? = some (.loop r)) → I pre W → (∃ B, w.heap.size + 2 ≤ B ∧ B ≤ W.heap.size ∧ Ok B pre x W) → body.wpIn (Fence.wide.inRound l) (n - 1 - 1) P (postF w.heap.size (Fr (w.heap.size + 2) x) Kp I Ix (pre ++ [x]) W) (a₁ x) W)
    (hdone : ∀ (D : Nat) (xs : List α) (W : World), w.heap.size ≤ D → S xs → I xs W → W.heap[D]? = some (.deferred (some [])) → Q .normal { a with defers := { target := .collected D, args := #[] } :: a.defers } W)
    (hstop : ∀ (D : Nat) (c : Code) (pre : List α) (W : World), w.heap.size ≤ D → Sp pre → Ix c pre W → W.heap[D]? = some (.deferred (some [])) → c.wpIn Fence.wide n P Q { a with defers := { target := .collected D, args := #[] } :: a.defers } W) :
    (Code.rangeFunc g ps assign body).wpIn Fence.wide n P Q a w := by
  refine wpIn_rangeFunc (fun fn hfn => ?_)
  -- D: the mark's block; L: the record's
  generalize hD : w.heap.size = D at *
  obtain ⟨rc, hrc⟩ : ∃ rc : LoopState → Option Code → Loop, rc = fun st pe => { state := st, pending := pe, fn, tmps := a.tmps, params := ps, assign, body, defers := D } := ⟨_, rfl⟩
  obtain ⟨V, hV⟩ : ∃ V, V = (w.alloc (.deferred (some []))).alloc (.loop (rc .ready none)) := ⟨_, rfl⟩
  have hVs : V.heap.size = D + 2 := by rw [hV, World.size_alloc, World.size_alloc, hD]
  have hVL : V.heap[D + 1]? = some (.loop (rc .ready none)) := by
    have := World.alloc_heap_new (w.alloc (.deferred (some []))) (.loop (rc .ready none))
    rwa [World.size_alloc, hD, ← hV] at this
  have hVD : V.heap[D]? = some (.deferred (some [])) := by
    have h1 := World.alloc_heap_new w (.deferred (some []))
    rw [hD] at h1
    rw [hV]
    exact (Below.heap_alloc _ _ _ (by rw [World.size_alloc]; omega)).trans h1
  have hbV : Below D w V := by rw [hV]; exact ((Below.refl D w).alloc (by omega) _).alloc (by rw [World.size_alloc]; omega) _
  have hIV : I [] V := by rw [hV]; exact hI.alloc _ (hI.alloc _ h0)
  -- the law's own two blocks, at a state of the record
  obtain ⟨Two, hTwo⟩ : ∃ Two : LoopState → Option Code → World → Prop, Two = fun st pe W => W.heap[D + 1]? = some (.loop (rc st pe)) ∧ W.heap[D]? = some (.deferred (some [])) := ⟨_, rfl⟩
  have two_grown : ∀ {st pe} {A B : World}, Two st pe A → Turned (fun b => V.heap.size ≤ b) A B → Two st pe B := by
    intro st pe A B h ht
    rw [hTwo] at h ⊢
    have key : ∀ k o, k < D + 2 → A.heap[k]? = some o → B.heap[k]? = some o := fun k o hk hh => (ht.block k (Array.getElem?_eq_some_iff.1 hh).1 (fun e => by have : V.heap.size ≤ k := e; omega)).trans hh
    exact ⟨key _ _ (by omega) h.1, key _ _ (by omega) h.2⟩
  have two_put : ∀ {st pe} {A : World} (st' : LoopState) (pe' : Option Code), Two st pe A → Two st' pe' (A.putObj (D + 1) (.loop (rc st' pe'))) := by
    intro st pe A st' pe' h
    rw [hTwo] at h ⊢
    exact ⟨World.putObj_heap_same (Array.getElem?_eq_some_iff.1 h.1).1, (World.putObj_heap_other (by omega)).trans h.2⟩
  have two_keeps : ∀ {st pe} {A B : World} {F : Nat → Prop}, (∀ k, F k → D + 2 ≤ k) → Two st pe A → KeepsF D F A B → Two st pe B := by
    intro st pe A B F hF h hk
    rw [hTwo] at h ⊢
    exact ⟨(hk.same _ (by omega) (Array.getElem?_eq_some_iff.1 h.1).1 (fun e => by have := hF _ e; omega)).trans h.1, (hk.same _ (Nat.le_refl _) (Array.getElem?_eq_some_iff.1 h.2).1 (fun e => by have := hF _ e; omega)).trans h.2⟩
  have own_two : ∀ {I' : List α → World → Prop} {st pe}, Std D I' → Std V.heap.size (fun pre W => I' pre W ∧ Two st pe W) := by
    intro I' st pe h s A B hs ht
    exact ⟨(h.mono (by omega)) s A B hs.1 ht, two_grown hs.2 ht⟩
  refine ⟨D + 1, [{ target := .collected D, args := #[] }], V, { target := .fn (.func gf) lb, args := pb ++ #[.func (.yield (D + 1)) #[] #[]] }, V, gf, pb ++ #[.func (.yield (D + 1)) #[] #[]] ++ lb, V, ?_, ?_, ?_, ?_, fun h => (by cases h), ?_⟩
  · have := run_enterLoop_outer (P := P) (w := w) fn a.tmps ps assign body
    rw [hD] at this
    rw [hV, hrc]; exact this
  · simp only [resolve, hg]
    simp [go_sem]
  · intro f' _; trivial
  · simp [invoke, go_sem, eg]
  · refine (hseq (D + 1) (fun pre W => I pre W ∧ Two .ready none W) (fun pre W => ∃ c, Ix c pre W ∧ Two .done (some c) W) V (hD.symm ▸ hbV) (own_two hI) ?_ ?_ ⟨hIV, by rw [hTwo]; exact ⟨hVL, hVD⟩⟩).mono ?_
    · rintro s A B ⟨c, hc⟩ ht
      exact ⟨c, own_two (hIx c) s A B hc ht⟩
    · rintro pre x W ⟨hi, ht⟩ hlen
      have hFx : ∀ k, Fr (D + 2) x k → D + 2 ≤ k := fun k hk => by have := hFr V.heap.size _ _ _ k hlen (by rw [hVs]; exact hk); omega
      rw [show Fr V.heap.size x = Fr (D + 2) x by rw [hVs]]
      have ht' := ht
      rw [hTwo] at ht'
      have hy := run_yield (P := P) (args := encs x) ht'.1 (by rw [hrc]; exact hps x)
      rw [hrc] at hy
      refine ⟨fn, _, assign, body, hy, roundIn_of_wpIn hfn (hassign _ x W _ ⟨_, run_beginRound ht'.1 (by rw [hrc]), ?_⟩)⟩
      have hb2 : Two .busy none (W.putObj (D + 1) (.loop (rc .busy none))) := two_put .busy none ht
      have hrb : ({ rc .ready none with state := .busy } : Loop) = rc .busy none := by rw [hrc]
      rw [hrb]
      have hw2 : Kp W (W.putObj (D + 1) (.loop (rc .busy none))) := hKb _ _ _ _ (by omega) ht'.1 rfl rfl
      have hb2' := hb2
      rw [hTwo] at hb2'
      refine wpIn_mono (hbody _ pre x _ (by omega) ⟨_, hb2'.1⟩ (hI.putObj _ hi (by omega) ht'.1 rfl) ⟨V.heap.size, by omega, (by have := (Array.getElem?_eq_some_iff.1 hb2'.1).1; omega), hOk _ _ _ _ _ _ _ ht'.1 rfl hlen⟩) ?_
      -- behind the body: the round's end by its jump
      have fin : ∀ (jump : Option Code) (W3 : World), KeepsF D (Fr (D + 2) x) (W.putObj (D + 1) (.loop (rc .busy none))) W3 →
          (Instr.endRound (D + 1) jump).run P W3 = .ok (.bool jump.isNone) (W3.putObj (D + 1) (.loop (rc (if jump.isNone then .ready else .done) jump))) ∧ Two (if jump.isNone then .ready else .done) jump (W3.putObj (D + 1) (.loop (rc (if jump.isNone then .ready else .done) jump))) ∧
          KeepsF V.heap.size (Fr (D + 2) x) W (W3.putObj (D + 1) (.loop (rc (if jump.isNone then .ready else .done) jump))) ∧ W3.heap[D + 1]? = some (.loop (rc .busy none)) := by
        intro jump W3 hk
        have h3 := two_keeps hFx hb2 hk
        have h3' := h3
        rw [hTwo] at h3'
        have he := run_endRound (P := P) jump h3'.1
        have hre : ({ rc .busy none with state := if jump.isNone then LoopState.ready else LoopState.done, pending := jump } : Loop) = rc (if jump.isNone then .ready else .done) jump := by rw [hrc]
        rw [hre] at he
        refine ⟨he, two_put _ _ h3, ?_, h3'.1⟩
        exact ((KeepsF.put W _ (by omega)).trans (hk.more (by omega))).trans (KeepsF.put W3 _ (by omega))
      have leave : ∀ (c : Code) (W3 : World), KeepsF D (Fr (D + 2) x) (W.putObj (D + 1) (.loop (rc .busy none))) W3 → Ix c (pre ++ [x]) W3 → ∃ v w', (Instr.endRound (D + 1) (some c)).run P W3 = .ok v w' ∧ (KeepsF V.heap.size (Fr (D + 2) x) W w' ∧
          ((Ending.returned v = .returned (.bool true) ∧ (I (pre ++ [x]) w' ∧ Two .ready none w') ∧ Kp W w') ∨ (Ending.returned v = .returned (.bool false) ∧ ∃ c, Ix c (pre ++ [x]) w' ∧ Two .done (some c) w'))) := by
        intro c W3 hk hx
        obtain ⟨f1, f2, f3, f4⟩ := fin (some c) W3 hk
        exact ⟨_, _, f1, f3, .inr ⟨rfl, c, (hIx c).putObj _ hx (by omega) f4 rfl, f2⟩⟩
      rintro e a3 W3 hp
      cases e with
      | normal =>
        obtain ⟨hk3, hkp3, hi3⟩ := hp
        obtain ⟨f1, f2, f3, f4⟩ := fin none W3 hk3
        exact ⟨_, _, f1, f3, .inl ⟨rfl, ⟨hI.putObj _ hi3 (by omega) f4 rfl, f2⟩, hKt (hKt hw2 hkp3) (hKb _ _ _ _ (by omega) f4 rfl rfl)⟩⟩
      | ret => exact leave .ret W3 hp.1 hp.2
      | exit id => exact leave (.exit id) W3 hp.1 hp.2
      | goto t => exact leave (.goto t) W3 hp.1 hp.2
      | panic ch => exact hp.elim
      | outgrown => exact hp.elim
    · rintro e W2 ⟨⟨v, rfl⟩, (⟨xs, hS, hi, ht⟩ | ⟨pre, hSp, c, hi, ht⟩)⟩
      · rw [hTwo] at ht
        have he := run_endLoop (P := P) ht.1 (by rw [hrc]; simp)
        have hpe : (rc .ready none).pending = none := by rw [hrc]
        rw [hpe] at he
        exact ⟨none, _, he, hdone _ xs _ (Nat.le_refl _) hS (hI.putObj _ hi (by omega) ht.1 rfl) ((World.putObj_heap_other (by omega)).trans ht.2)⟩
      · rw [hTwo] at ht
        have he := run_endLoop (P := P) ht.1 (by rw [hrc]; simp)
        have hpe : (rc .done (some c)).pending = some c := by rw [hrc]
        rw [hpe] at he
        exact ⟨some c, _, he, hstop _ c pre _ (Nat.le_refl _) hSp ((hIx c).putObj _ hi (by omega) ht.1 rfl) ((World.putObj_heap_other (by omega)).trans ht.2)⟩
end
/-- What bears rounds that change what came bears rounds that don't. -/
theorem GoesFS.toWS {α : Type} {m : Nat} {P : Program} {g : Nat} {pb lb : Array Value} {encs : α → Array Value} {Kp : World → World → Prop} {S Sp : List α → Prop} {Ok : Nat → List α → α → World → Prop} {Fr : Nat → α → Nat → Prop} {w : World}
    (h : GoesFS m P g pb lb encs Kp S Sp Ok Fr w) : GoesWS m P g pb lb encs Kp S Sp Ok w := by
  intro l J Jx W hb hJ hJx hy h0
  refine h l J Jx W hb hJ hJx (fun pre x W1 hj ho => ?_) h0
  exact (hy pre x W1 hj ho).mono (fun e W' ⟨hk, hr⟩ => ⟨hk.but _, hr⟩)
end Go.Proofs.Ytcomiininaemhaa.Pk

/- A range over a function that may keep memory of its own, whose loop variables lie in boxes that each round lays anew. -/
namespace Go.Proofs.Ytcomiininaemhaa.Pk
open Go.RowKit Go.Shelf
set_option linter.unusedVariables false
theorem with_fun {α : Type} {p : Prop} (G : α) (h : ∀ F : α, F = G → p) : p := h G rfl
section
variable {n : Nat} {P : Program} {α : Type} {g : Operand} {ps : Array Tmp} {assign body : Code} {Q : Exit → Act → World → Prop} {a : Act} {w : World}
theorem range_boundWA {gf : Nat} {pb lb : Array Value} (hg : a.eval g = .func (.func gf) pb lb) (eg : ∀ args w, (callFunc gf args).run P w = .ok (.enter gf args) w)
    {encs : α → Array Value} {Kp : World → World → Prop} {S Sp : List α → Prop} {Ok : Nat → List α → α → World → Prop} (hseq : GoesWS (n - 1) P gf pb lb encs Kp S Sp Ok w)
    (hKt : ∀ {A B C : World}, Kp A B → Kp B C → Kp A C) (hKb : ∀ (W : World) (l : Nat) (o o' : Obj), w.heap.size ≤ l → W.heap[l]? = some o → o.isCells = false → o.isWalk = false → Kp W (W.putObj l o')) (hps : ∀ x, (encs x).size = ps.size)
    (hOk : ∀ (B : Nat) (pre : List α) (x : α) (W : World) (l : Nat) (o o' : Obj), W.heap[l]? = some o → o.isCells = false → Ok B pre x W → Ok B pre x (W.putObj l o'))
    (I : List α → World → Prop) (Ix : Code → List α → World → Prop) (hI : Std w.heap.size I) (hIx : ∀ c, Std w.heap.size (Ix c)) (h0 : I [] w) (Ia : List α × α × Act → World → Prop) (hIa : OwnFrom w.heap.size Ia)
    (hassign : ∀ (l : Nat) (pre : List α) (x : α) (W : World) (K : Act → World → Prop), I pre W → (∃ B, w.heap.size ≤ B ∧ Ok B pre x W) → (∀ a' W', KeepsAll w.heap.size W W' → Kp W W' → Ia (pre, x, a') W' → K a' W') →
      assign.wpIn (Fence.wide.inRound l) (n - 1 - 1) P (Exit.then K (fun _ _ _ => False)) { tmps := (ps.zip (encs x)).foldl (fun t (p, v) => t.setIfInBounds p v) a.tmps, defers := [] } W)
    (hbody : ∀ (l : Nat) (pre : List α) (x : α) (a' : Act) (W : World), w.heap.size ≤ l → (∃ r, W.heap[l]? = some (.loop r)) → Ia (pre, x, a') W → body.wpIn (Fence.wide.inRound l) (n - 1 - 1) P (postB w.heap.size Kp I Ix (pre ++ [x]) W) a' W)
    (hdone : ∀ (D : Nat) (xs : List α) (W : World), w.heap.size ≤ D → S xs → I xs W → W.heap[D]? = some (.deferred (some [])) → Q .normal { a with defers := { target := .collected D, args := #[] } :: a.defers } W)
    (hstop : ∀ (D : Nat) (c : Code) (pre : List α) (W : World), w.heap.size ≤ D → Sp pre → Ix c pre W → W.heap[D]? = some (.deferred (some [])) → c.wpIn Fence.wide n P Q { a with defers := { target := .collected D, args := #[] } :: a.defers } W) :
    (Code.rangeFunc g ps assign body).wpIn Fence.wide n P Q a w := by
  refine wpIn_rangeFunc (fun fn hfn => ?_)
  -- D: the mark's block; L: the record's
  generalize hD : w.heap.size = D at *
  obtain ⟨rc, hrc⟩ : ∃ rc : LoopState → Option Code → Loop, rc = fun st pe => { state := st, pending := pe, fn, tmps := a.tmps, params := ps, assign, body, defers := D } := ⟨_, rfl⟩
  obtain ⟨V, hV⟩ : ∃ V, V = (w.alloc (.deferred (some []))).alloc (.loop (rc .ready none)) := ⟨_, rfl⟩
  have hVs : V.heap.size = D + 2 := by rw [hV, World.size_alloc, World.size_alloc, hD]
  have hVL : V.heap[D + 1]? = some (.loop (rc .ready none)) := by
    have := World.alloc_heap_new (w.alloc (.deferred (some []))) (.loop (rc .ready none))
    rwa [World.size_alloc, hD, ← hV] at this
  have hVD : V.heap[D]? = some (.deferred (some [])) := by
    have h1 := World.alloc_heap_new w (.deferred (some []))
    rw [hD] at h1
    rw [hV]
    exact (Below.heap_alloc _ _ _ (by rw [World.size_alloc]; omega)).trans h1
  have hbV : Below D w V := by rw [hV]; exact ((Below.refl D w).alloc (by omega) _).alloc (by rw [World.size_alloc]; omega) _
  have hIV : I [] V := by rw [hV]; exact hI.alloc _ (hI.alloc _ h0)
  -- the law's own two blocks, at a state of the record
  obtain ⟨Two, hTwo⟩ : ∃ Two : LoopState → Option Code → World → Prop, Two = fun st pe W => W.heap[D + 1]? = some (.loop (rc st pe)) ∧ W.heap[D]? = some (.deferred (some [])) := ⟨_, rfl⟩
  have two_grown : ∀ {st pe} {A B : World}, Two st pe A → Turned (fun b => V.heap.size ≤ b) A B → Two st pe B := by
    intro st pe A B h ht
    rw [hTwo] at h ⊢
    have key : ∀ k o, k < D + 2 → A.heap[k]? = some o → B.heap[k]? = some o := fun k o hk hh => (ht.block k (Array.getElem?_eq_some_iff.1 hh).1 (fun e => by have : V.heap.size ≤ k := e; omega)).trans hh
    exact ⟨key _ _ (by omega) h.1, key _ _ (by omega) h.2⟩
  have two_put : ∀ {st pe} {A : World} (st' : LoopState) (pe' : Option Code), Two st pe A → Two st' pe' (A.putObj (D + 1) (.loop (rc st' pe'))) := by
    intro st pe A st' pe' h
    rw [hTwo] at h ⊢
    exact ⟨World.putObj_heap_same (Array.getElem?_eq_some_iff.1 h.1).1, (World.putObj_heap_other (by omega)).trans h.2⟩
  have two_keeps : ∀ {st pe} {A B : World}, Two st pe A → KeepsAll D A B → Two st pe B := by
    intro st pe A B h hk
    rw [hTwo] at h ⊢
    exact ⟨(hk.same _ (by omega) (Array.getElem?_eq_some_iff.1 h.1).1).trans h.1, (hk.same _ (Nat.le_refl _) (Array.getElem?_eq_some_iff.1 h.2).1).trans h.2⟩
  have own_two : ∀ {I' : List α → World → Prop} {st pe}, Std D I' → Std V.heap.size (fun pre W => I' pre W ∧ Two st pe W) := by
    intro I' st pe h s A B hs ht
    exact ⟨(h.mono (by omega)) s A B hs.1 ht, two_grown hs.2 ht⟩
  refine ⟨D + 1, [{ target := .collected D, args := #[] }], V, { target := .fn (.func gf) lb, args := pb ++ #[.func (.yield (D + 1)) #[] #[]] }, V, gf, pb ++ #[.func (.yield (D + 1)) #[] #[]] ++ lb, V, ?_, ?_, ?_, ?_, fun h => (by cases h), ?_⟩
  · have := run_enterLoop_outer (P := P) (w := w) fn a.tmps ps assign body
    rw [hD] at this
    rw [hV, hrc]; exact this
  · simp only [resolve, hg]
    simp [go_sem]
  · intro f' _; trivial
  · simp [invoke, go_sem, eg]
  · refine (hseq (D + 1) (fun pre W => I pre W ∧ Two .ready none W) (fun pre W => ∃ c, Ix c pre W ∧ Two .done (some c) W) V (hD.symm ▸ hbV) (own_two hI) ?_ ?_ ⟨hIV, by rw [hTwo]; exact ⟨hVL, hVD⟩⟩).mono ?_
    · rintro s A B ⟨c, hc⟩ ht
      exact ⟨c, own_two (hIx c) s A B hc ht⟩
    · rintro pre x W ⟨hi, ht⟩ hlen
      have ht' := ht
      rw [hTwo] at ht'
      have hy := run_yield (P := P) (args := encs x) ht'.1 (by rw [hrc]; exact hps x)
      rw [hrc] at hy
      refine ⟨fn, _, assign, body, hy, roundIn_of_wpIn hfn (hassign _ pre x W _ hi ⟨V.heap.size, by omega, hlen⟩ (fun a4 Wa hka hkp hia => ?_))⟩
      have hta := two_keeps ht hka
      have hta' := hta
      rw [hTwo] at hta'
      refine ⟨_, run_beginRound hta'.1 (by rw [hrc]), ?_⟩
      have hb2 : Two .busy none (Wa.putObj (D + 1) (.loop (rc .busy none))) := two_put .busy none hta
      have hrb : ({ rc .ready none with state := .busy } : Loop) = rc .busy none := by rw [hrc]
      rw [hrb]
      have hw2 : Kp W (Wa.putObj (D + 1) (.loop (rc .busy none))) := hKt hkp (hKb _ _ _ _ (by omega) hta'.1 rfl rfl)
      have hb2' := hb2
      rw [hTwo] at hb2'
      refine wpIn_mono (hbody _ pre x a4 _ (by omega) ⟨_, hb2'.1⟩ (hIa.putObj _ hia (by omega) hta'.1 rfl)) ?_
      -- behind the body: the round's end by its jump
      have fin : ∀ (jump : Option Code) (W3 : World), KeepsAll D (Wa.putObj (D + 1) (.loop (rc .busy none))) W3 →
          (Instr.endRound (D + 1) jump).run P W3 = .ok (.bool jump.isNone) (W3.putObj (D + 1) (.loop (rc (if jump.isNone then .ready else .done) jump))) ∧ Two (if jump.isNone then .ready else .done) jump (W3.putObj (D + 1) (.loop (rc (if jump.isNone then .ready else .done) jump))) ∧
          KeepsAll V.heap.size W (W3.putObj (D + 1) (.loop (rc (if jump.isNone then .ready else .done) jump))) ∧ W3.heap[D + 1]? = some (.loop (rc .busy none)) := by
        intro jump W3 hk
        have h3 := two_keeps hb2 hk
        have h3' := h3
        rw [hTwo] at h3'
        have he := run_endRound (P := P) jump h3'.1
        have hre : ({ rc .busy none with state := if jump.isNone then LoopState.ready else LoopState.done, pending := jump } : Loop) = rc (if jump.isNone then .ready else .done) jump := by rw [hrc]
        rw [hre] at he
        refine ⟨he, two_put _ _ h3, ?_, h3'.1⟩
        exact (((hka.more (by omega)).trans (KeepsAll.put Wa _ (by omega))).trans (hk.more (by omega))).trans (KeepsAll.put W3 _ (by omega))
      have leave : ∀ (c : Code) (W3 : World), KeepsAll D (Wa.putObj (D + 1) (.loop (rc .busy none))) W3 → Ix c (pre ++ [x]) W3 → ∃ v w', (Instr.endRound (D + 1) (some c)).run P W3 = .ok v w' ∧ (KeepsAll V.heap.size W w' ∧
          ((Ending.returned v = .returned (.bool true) ∧ (I (pre ++ [x]) w' ∧ Two .ready none w') ∧ Kp W w') ∨ (Ending.returned v = .returned (.bool false) ∧ ∃ c, Ix c (pre ++ [x]) w' ∧ Two .done (some c) w'))) := by
        intro c W3 hk hx
        obtain ⟨f1, f2, f3, f4⟩ := fin (some c) W3 hk
        exact ⟨_, _, f1, f3, .inr ⟨rfl, c, (hIx c).putObj _ hx (by omega) f4 rfl, f2⟩⟩
      rintro e a3 W3 hp
      cases e with
      | normal =>
        obtain ⟨hk3, hkp3, hi3⟩ := hp
        obtain ⟨f1, f2, f3, f4⟩ := fin none W3 hk3
        exact ⟨_, _, f1, f3, .inl ⟨rfl, ⟨hI.putObj _ hi3 (by omega) f4 rfl, f2⟩, hKt (hKt hw2 hkp3) (hKb _ _ _ _ (by omega) f4 rfl rfl)⟩⟩
      | ret => exact leave .ret W3 hp.1 hp.2
      | exit id => exact leave (.exit id) W3 hp.1 hp.2
      | goto t => exact leave (.goto t) W3 hp.1 hp.2
      | panic ch => exact hp.elim
      | outgrown => exact hp.elim
    · rintro e W2 ⟨⟨v, rfl⟩, (⟨xs, hS, hi, ht⟩ | ⟨pre, hSp, c, hi, ht⟩)⟩
      · rw [hTwo] at ht
        have he := run_endLoop (P := P) ht.1 (by rw [hrc]; simp)
        have hpe : (rc .ready none).pending = none := by rw [hrc]
        rw [hpe] at he
        exact ⟨none, _, he, hdone _ xs _ (Nat.le_refl _) hS (hI.putObj _ hi (by omega) ht.1 rfl) ((World.putObj_heap_other (by omega)).trans ht.2)⟩
      · rw [hTwo] at ht
        have he := run_endLoop (P := P) ht.1 (by rw [hrc]; simp)
        have hpe : (rc .done (some c)).pending = some c := by rw [hrc]
        rw [hpe] at he
        exact ⟨some c, _, he, hstop _ c pre _ (Nat.le_refl _) hSp ((hIx c).putObj _ hi (by omega) ht.1 rfl) ((World.putObj_heap_other (by omega)).trans ht.2)⟩
end
end Go.Proofs.Ytcomiininaemhaa.Pk

/- Ranges over a function that may turn memory of its own between the rounds, where the rounds may make memory and speak of it: a word with a footprint. -/
namespace Go.Proofs.Ytcomiininaemhaa.Pk
open Go.RowKit Go.Shelf
set_option linter.unusedVariables false
theorem Turned.wider {S S' : Nat → Prop} {w w' : World} (h : Turned S w w') (hS : ∀ b, S b → S' b) : Turned S' w w' := ⟨h.os, h.tape, h.output, h.size, fun i hi hn => h.block i hi (fun e => hn (hS i e))⟩
/-- A word that speaks, of the blocks from B on, of those of F alone. -/
def FootB {β : Type} (B : Nat) (I : (Nat → Prop) → β → World → Prop) : Prop := ∀ F s W W', I F s W → Turned (fun b => B ≤ b ∧ ¬ F b) W W' → I F s W'
theorem Std.foot {β : Type} {B : Nat} {I : β → World → Prop} (h : Std B I) : FootB B (fun _ s W => I s W) := fun F s W W' hs ht => h s W W' hs (ht.wider fun b hb => hb.1)
/-- Of the blocks from B on, those of F alone are turned; what is F's afterwards is F's or new. -/
structure KeepsG (B : Nat) (F F' : Nat → Prop) (W W' : World) : Prop where
  size : W.heap.size ≤ W'.heap.size
  same : ∀ k, B ≤ k → k < W.heap.size → ¬ F k → W'.heap[k]? = W.heap[k]?
  new : ∀ k, F' k → F k ∨ W.heap.size ≤ k
theorem KeepsAll.foot {B : Nat} {W W' : World} (h : KeepsAll B W W') (F : Nat → Prop) : KeepsG B F F W W' := ⟨h.size, fun k h1 h2 _ => h.same k h1 h2, fun k hk => .inl hk⟩
/-- How the body of a round may be left. -/
def postG {α : Type} (B : Nat) (Kp : World → World → Prop) (F : Nat → Prop) (I : (Nat → Prop) → List α → World → Prop) (Ix : Code → (Nat → Prop) → List α → World → Prop) (xs : List α) (W : World) : Exit → Act → World → Prop
  | .normal, _, W' => ∃ F', KeepsG B F F' W W' ∧ (∀ b, F' b → b < W'.heap.size) ∧ Kp W W' ∧ I F' xs W'
  | .ret, _, W' => ∃ F', KeepsG B F F' W W' ∧ (∀ b, F' b → b < W'.heap.size) ∧ Ix .ret F' xs W'
  | .exit id, _, W' => ∃ F', KeepsG B F F' W W' ∧ (∀ b, F' b → b < W'.heap.size) ∧ Ix (.exit id) F' xs W'
  | .goto t, _, W' => ∃ F', KeepsG B F F' W W' ∧ (∀ b, F' b → b < W'.heap.size) ∧ Ix (.goto t) F' xs W'
  | .panic _, _, _ => False
  | .outgrown, _, _ => False
/-- A function behind bound arguments pb that goes over things: its caller's word may speak of all but the blocks that it makes itself; a round turns of what is new its own alone. -/
def GoesG {α : Type} (m : Nat) (P : Program) (g : Nat) (pb lb : Array Value) (encs : α → Array Value) (Kp : World → World → Prop) (S Sp : List α → Prop) (Ok : Nat → List α → α → World → Prop) (w : World) : Prop :=
  ∀ (l : Nat) (J Jx : (Nat → Prop) → List α → World → Prop) (W : World), Below w.heap.size w W → FootB W.heap.size J → FootB W.heap.size Jx →
    (∀ F pre x W1, J F pre W1 → (∀ b, F b → b < W1.heap.size) → Ok W.heap.size pre x W1 → YieldAt Fence.wide (m - 1) P l (encs x) W1 fun e W' => ∃ F', KeepsG W.heap.size F F' W1 W' ∧ (∀ b, F' b → b < W'.heap.size) ∧
      ((e = .returned (.bool true) ∧ J F' (pre ++ [x]) W' ∧ Kp W1 W') ∨ (e = .returned (.bool false) ∧ Jx F' (pre ++ [x]) W'))) →
    J (fun _ => False) [] W →
    CallsIn Fence.wide m P g (pb ++ #[.func (.yield l) #[] #[]] ++ lb) W fun e W' => (∃ v, e = .returned v) ∧ ((∃ F xs, S xs ∧ (∀ b, F b → b < W'.heap.size) ∧ J F xs W') ∨ (∃ F pre, Sp pre ∧ (∀ b, F b → b < W'.heap.size) ∧ Jx F pre W'))
/-- Such a function serves those whose word speaks of nothing new, too. -/
theorem GoesG.std {α : Type} {m : Nat} {P : Program} {g : Nat} {pb lb : Array Value} {encs : α → Array Value} {Kp : World → World → Prop} {S Sp : List α → Prop} {Ok : Nat → List α → α → World → Prop} {w : World} (h : GoesG m P g pb lb encs Kp S Sp Ok w) : GoesWS m P g pb lb encs Kp S Sp Ok w := by
  intro l J Jx W hb hJ hJx hY h0
  refine (h l (fun F pre W => (∀ b, ¬ F b) ∧ J pre W) (fun F pre W => (∀ b, ¬ F b) ∧ Jx pre W) W hb (fun F s A B hs ht => ⟨hs.1, hJ.foot F s A B hs.2 ht⟩) (fun F s A B hs ht => ⟨hs.1, hJx.foot F s A B hs.2 ht⟩) ?_ ⟨fun _ h => h, h0⟩).mono ?_
  · rintro F pre x W1 ⟨hF, hj⟩ _ hok
    refine (hY pre x W1 hj hok).mono ?_
    rintro e W' ⟨hk, ⟨h1, h2, h3⟩ | ⟨h1, h2⟩⟩
    · exact ⟨F, hk.foot F, fun b hb => (hF b hb).elim, .inl ⟨h1, ⟨hF, h2⟩, h3⟩⟩
    · exact ⟨F, hk.foot F, fun b hb => (hF b hb).elim, .inr ⟨h1, hF, h2⟩⟩
  · rintro e W' ⟨hv, ⟨F, xs, h1, _, _, h2⟩ | ⟨F, pre, h1, _, _, h2⟩⟩
    · exact ⟨hv, .inl ⟨xs, h1, h2⟩⟩
    · exact ⟨hv, .inr ⟨pre, h1, h2⟩⟩

section
variable {n : Nat} {P : Program} {α : Type} {g : Operand} {ps : Array Tmp} {assign body : Code} {Q : Exit → Act → World → Prop} {a : Act} {w : World}
theorem range_boundG {gf : Nat} {pb lb : Array Value} (hg : a.eval g = .func (.func gf) pb lb) (eg : ∀ args w, (callFunc gf args).run P w = .ok (.enter gf args) w)
    {encs : α → Array Value} {Kp : World → World → Prop} {S Sp : List α → Prop} {Ok : Nat → List α → α → World → Prop} (hseq : GoesG (n - 1) P gf pb lb encs Kp S Sp Ok w)
    (hKt : ∀ {A B C : World}, Kp A B → Kp B C → Kp A C) (hKb : ∀ (W : World) (l : Nat) (o o' : Obj), w.heap.size ≤ l → W.heap[l]? = some o → o.isCells = false → o.isWalk = false → Kp W (W.putObj l o')) (hps : ∀ x, (encs x).size = ps.size)
    (hOk : ∀ (B : Nat) (pre : List α) (x : α) (W : World) (l : Nat) (o o' : Obj), W.heap[l]? = some o → o.isCells = false → Ok B pre x W → Ok B pre x (W.putObj l o'))
    (I : (Nat → Prop) → List α → World → Prop) (Ix : Code → (Nat → Prop) → List α → World → Prop) (hI : FootB w.heap.size I) (hIx : ∀ c, FootB w.heap.size (Ix c)) (h0 : I (fun _ => False) [] w) (a₁ : α → Act)
    (hassign : ∀ (l : Nat) (x : α) (W : World) (K : Act → World → Prop), K (a₁ x) W →
      assign.wpIn (Fence.wide.inRound l) (n - 1 - 1) P (Exit.then K (fun _ _ _ => False)) { tmps := (ps.zip (encs x)).foldl (fun t (p, v) => t.setIfInBounds p v) a.tmps, defers := [] } W)
    (hbody : ∀ (l : Nat) (F : Nat → Prop) (pre : List α) (x : α) (W : World), w.heap.size ≤ l → (∃ r, W.heap[l]? = some (.loop r)) → (∀ b, F b → w.heap.size + 2 ≤ b ∧ b < W.heap.size) → I F pre W → (∃ B, w.heap.size ≤ B ∧ Ok B pre x W) → body.wpIn (Fence.wide.inRound l) (n - 1 - 1) P (postG w.heap.size Kp F I Ix (pre ++ [x]) W) (a₁ x) W)
    (hdone : ∀ (D : Nat) (F : Nat → Prop) (xs : List α) (W : World), w.heap.size ≤ D → S xs → (∀ b, F b → D + 2 ≤ b ∧ b < W.heap.size) → I F xs W → W.heap[D]? = some (.deferred (some [])) → Q .normal { a with defers := { target := .collected D, args := #[] } :: a.defers } W)
    (hstop : ∀ (D : Nat) (c : Code) (F : Nat → Prop) (pre : List α) (W : World), w.heap.size ≤ D → Sp pre → (∀ b, F b → D + 2 ≤ b ∧ b < W.heap.size) → Ix c F pre W → W.heap[D]? = some (.deferred (some [])) → c.wpIn Fence.wide n P Q { a with defers := { target := .collected D, args := #[] } :: a.defers } W) :
    (Code.rangeFunc g ps assign body).wpIn Fence.wide n P Q a w := by
  refine wpIn_rangeFunc (fun fn hfn => ?_)
  -- D: the mark's block; L: the record's
  generalize hD : w.heap.size = D at *
  obtain ⟨rc, hrc⟩ : ∃ rc : LoopState → Option Code → Loop, rc = fun st pe => { state := st, pending := pe, fn, tmps := a.tmps, params := ps, assign, body, defers := D } := ⟨_, rfl⟩
  obtain ⟨V, hV⟩ : ∃ V, V = (w.alloc (.deferred (some []))).alloc (.loop (rc .ready none)) := ⟨_, rfl⟩
  have hVs : V.heap.size = D + 2 := by rw [hV, World.size_alloc, World.size_alloc, hD]
  have hVL : V.heap[D + 1]? = some (.loop (rc .ready none)) := by
    have := World.alloc_heap_new (w.alloc (.deferred (some []))) (.loop (rc .ready none))
    rwa [World.size_alloc, hD, ← hV] at this
  have hVD : V.heap[D]? = some (.deferred (some [])) := by
    have h1 := World.alloc_heap_new w (.deferred (some []))
    rw [hD] at h1
    rw [hV]
    exact (Below.heap_alloc _ _ _ (by rw [World.size_alloc]; omega)).trans h1
  have hbV : Below D w V := by rw [hV]; exact ((Below.refl D w).alloc (by omega) _).alloc (by rw [World.size_alloc]; omega) _
  have hIV : I (fun _ => False) [] V := hI _ _ _ _ h0 (by rw [hV]; exact ((Turned.refl _ w).alloc _).alloc _)
  -- the law's own two blocks, at a state of the record
  obtain ⟨Two, hTwo⟩ : ∃ Two : LoopState → Option Code → World → Prop, Two = fun st pe W => W.heap[D + 1]? = some (.loop (rc st pe)) ∧ W.heap[D]? = some (.deferred (some [])) := ⟨_, rfl⟩
  have two_grown : ∀ {st pe} {A B : World}, ∀ {F : Nat → Prop}, Two st pe A → Turned (fun b => V.heap.size ≤ b ∧ ¬ F b) A B → Two st pe B := by
    intro st pe A B F h ht
    rw [hTwo] at h ⊢
    have key : ∀ k o, k < D + 2 → A.heap[k]? = some o → B.heap[k]? = some o := fun k o hk hh => (ht.block k (Array.getElem?_eq_some_iff.1 hh).1 (fun e => by have : V.heap.size ≤ k := e.1; omega)).trans hh
    exact ⟨key _ _ (by omega) h.1, key _ _ (by omega) h.2⟩
  have two_put : ∀ {st pe} {A : World} (st' : LoopState) (pe' : Option Code), Two st pe A → Two st' pe' (A.putObj (D + 1) (.loop (rc st' pe'))) := by
    intro st pe A st' pe' h
    rw [hTwo] at h ⊢
    exact ⟨World.putObj_heap_same (Array.getElem?_eq_some_iff.1 h.1).1, (World.putObj_heap_other (by omega)).trans h.2⟩
  have two_keeps : ∀ {st pe} {A B : World}, ∀ {F F' : Nat → Prop}, (∀ b, F b → D + 2 ≤ b) → Two st pe A → KeepsG D F F' A B → Two st pe B := by
    intro st pe A B F F' hF h hk
    rw [hTwo] at h ⊢
    exact ⟨(hk.same _ (by omega) (Array.getElem?_eq_some_iff.1 h.1).1 (fun e => by have := hF _ e; omega)).trans h.1, (hk.same _ (Nat.le_refl _) (Array.getElem?_eq_some_iff.1 h.2).1 (fun e => by have := hF _ e; omega)).trans h.2⟩
  have own_two : ∀ {I' : (Nat → Prop) → List α → World → Prop} {st pe}, FootB D I' → FootB V.heap.size (fun F pre W => (∀ b, F b → D + 2 ≤ b) ∧ I' F pre W ∧ Two st pe W) := by
    intro I' st pe h F s A B hs ht
    exact ⟨hs.1, h F s A B hs.2.1 (ht.wider (fun b hb => ⟨by have := hb.1; omega, hb.2⟩)), two_grown hs.2.2 ht⟩
  have put_I : ∀ {I' : (Nat → Prop) → List α → World → Prop} {F : Nat → Prop} {pre : List α} {A : World} {o o' : Obj}, FootB D I' → (∀ b, F b → D + 2 ≤ b) → A.heap[D + 1]? = some o → I' F pre A → I' F pre (A.putObj (D + 1) o') := by
    intro I' F pre A o o' h hF hl hi
    exact h F pre A _ hi ⟨rfl, rfl, rfl, by simp [World.putObj], fun i _ hn => World.putObj_heap_other (fun e => hn ⟨by omega, fun e2 => by have := hF _ e2; omega⟩)⟩
  refine ⟨D + 1, [{ target := .collected D, args := #[] }], V, { target := .fn (.func gf) lb, args := pb ++ #[.func (.yield (D + 1)) #[] #[]] }, V, gf, pb ++ #[.func (.yield (D + 1)) #[] #[]] ++ lb, V, ?_, ?_, ?_, ?_, fun h => (by cases h), ?_⟩
  · have := run_enterLoop_outer (P := P) (w := w) fn a.tmps ps assign body
    rw [hD] at this
    rw [hV, hrc]; exact this
  · simp only [resolve, hg]
    simp [go_sem]
  · intro f' _; trivial
  · simp [invoke, go_sem, eg]
  · refine (hseq (D + 1) (fun F pre W => (∀ b, F b → D + 2 ≤ b) ∧ I F pre W ∧ Two .ready none W) (fun F pre W => ∃ c, (∀ b, F b → D + 2 ≤ b) ∧ Ix c F pre W ∧ Two .done (some c) W) V (hD.symm ▸ hbV) (own_two hI) ?_ ?_ ⟨fun _ h => h.elim, hIV, by rw [hTwo]; exact ⟨hVL, hVD⟩⟩).mono ?_
    · rintro F s A B ⟨c, hc⟩ ht
      exact ⟨c, own_two (hIx c) F s A B hc ht⟩
    · rintro F pre x W ⟨hF, hi, ht⟩ hFl hlen
      have ht' := ht
      rw [hTwo] at ht'
      have hy := run_yield (P := P) (args := encs x) ht'.1 (by rw [hrc]; exact hps x)
      rw [hrc] at hy
      refine ⟨fn, _, assign, body, hy, roundIn_of_wpIn hfn (hassign _ x W _ ⟨_, run_beginRound ht'.1 (by rw [hrc]), ?_⟩)⟩
      have hb2 : Two .busy none (W.putObj (D + 1) (.loop (rc .busy none))) := two_put .busy none ht
      have hrb : ({ rc .ready none with state := .busy } : Loop) = rc .busy none := by rw [hrc]
      rw [hrb]
      have hw2 : Kp W (W.putObj (D + 1) (.loop (rc .busy none))) := hKb _ _ _ _ (by omega) ht'.1 rfl rfl
      have hb2' := hb2
      rw [hTwo] at hb2'
      refine wpIn_mono (hbody _ F pre x _ (by omega) ⟨_, hb2'.1⟩ (fun b hb => ⟨hF b hb, by have := hFl b hb; simpa [World.putObj] using this⟩) (put_I hI hF ht'.1 hi) ⟨V.heap.size, by omega, hOk _ _ _ _ _ _ _ ht'.1 rfl hlen⟩) ?_
      -- behind the body: the round's end by its jump
      have fin : ∀ (jump : Option Code) (W3 : World) (F' : Nat → Prop), KeepsG D F F' (W.putObj (D + 1) (.loop (rc .busy none))) W3 →
          (Instr.endRound (D + 1) jump).run P W3 = .ok (.bool jump.isNone) (W3.putObj (D + 1) (.loop (rc (if jump.isNone then .ready else .done) jump))) ∧ Two (if jump.isNone then .ready else .done) jump (W3.putObj (D + 1) (.loop (rc (if jump.isNone then .ready else .done) jump))) ∧
          KeepsG V.heap.size F F' W (W3.putObj (D + 1) (.loop (rc (if jump.isNone then .ready else .done) jump))) ∧ (∀ b, F' b → D + 2 ≤ b) ∧ W3.heap[D + 1]? = some (.loop (rc .busy none)) := by
        intro jump W3 F' hk
        have h3 := two_keeps hF hb2 hk
        have h3' := h3
        rw [hTwo] at h3'
        have he := run_endRound (P := P) jump h3'.1
        have hre : ({ rc .busy none with state := if jump.isNone then LoopState.ready else LoopState.done, pending := jump } : Loop) = rc (if jump.isNone then .ready else .done) jump := by rw [hrc]
        rw [hre] at he
        refine ⟨he, two_put _ _ h3, ⟨?_, ?_, ?_⟩, ?_, h3'.1⟩
        · have := hk.size; simpa [World.putObj] using this
        · intro k hB hk2 hn
          exact (World.putObj_heap_other (by omega)).trans ((hk.same k (by omega) (by simpa [World.putObj] using hk2) hn).trans (World.putObj_heap_other (by omega)))
        · intro b hb
          have := hk.new b hb
          simpa [World.putObj] using this
        · intro b hb
          rcases hk.new b hb with h | h
          · exact hF b h
          · have h5 := (Array.getElem?_eq_some_iff.1 hb2'.1).1
            omega
      have leave : ∀ (c : Code) (W3 : World) (F' : Nat → Prop), KeepsG D F F' (W.putObj (D + 1) (.loop (rc .busy none))) W3 → (∀ b, F' b → b < W3.heap.size) → Ix c F' (pre ++ [x]) W3 → ∃ v w', (Instr.endRound (D + 1) (some c)).run P W3 = .ok v w' ∧ (∃ F', KeepsG V.heap.size F F' W w' ∧ (∀ b, F' b → b < w'.heap.size) ∧
          ((Ending.returned v = .returned (.bool true) ∧ ((∀ b, F' b → D + 2 ≤ b) ∧ I F' (pre ++ [x]) w' ∧ Two .ready none w') ∧ Kp W w') ∨ (Ending.returned v = .returned (.bool false) ∧ ∃ c, (∀ b, F' b → D + 2 ≤ b) ∧ Ix c F' (pre ++ [x]) w' ∧ Two .done (some c) w'))) := by
        intro c W3 F' hk hFs hx
        obtain ⟨f1, f2, f3, f5, f4⟩ := fin (some c) W3 F' hk
        exact ⟨_, _, f1, F', f3, fun b hb => by have := hFs b hb; simpa [World.putObj] using this, .inr ⟨rfl, c, f5, put_I (hIx c) f5 f4 hx, f2⟩⟩
      rintro e a3 W3 hp
      cases e with
      | normal =>
        obtain ⟨F', hk3, hFs, hkp3, hi3⟩ := hp
        obtain ⟨f1, f2, f3, f5, f4⟩ := fin none W3 F' hk3
        exact ⟨_, _, f1, F', f3, fun b hb => by have := hFs b hb; simpa [World.putObj] using this, .inl ⟨rfl, ⟨f5, put_I hI f5 f4 hi3, f2⟩, hKt (hKt hw2 hkp3) (hKb _ _ _ _ (by omega) f4 rfl rfl)⟩⟩
      | ret => obtain ⟨F', h1, h2, h3⟩ := hp; exact leave .ret W3 F' h1 h2 h3
      | exit id => obtain ⟨F', h1, h2, h3⟩ := hp; exact leave (.exit id) W3 F' h1 h2 h3
      | goto t => obtain ⟨F', h1, h2, h3⟩ := hp; exact leave (.goto t) W3 F' h1 h2 h3
      | panic ch => exact hp.elim
      | outgrown => exact hp.elim
    · rintro e W2 ⟨⟨v, rfl⟩, (⟨F, xs, hS, hFl, hF, hi, ht⟩ | ⟨F, pre, hSp, hFl, c, hF, hi, ht⟩)⟩
      · rw [hTwo] at ht
        have he := run_endLoop (P := P) ht.1 (by rw [hrc]; simp)
        have hpe : (rc .ready none).pending = none := by rw [hrc]
        rw [hpe] at he
        exact ⟨none, _, he, hdone _ F xs _ (Nat.le_refl _) hS (fun b hb => ⟨hF b hb, by have := hFl b hb; simpa [World.putObj] using this⟩) (put_I hI hF ht.1 hi) ((World.putObj_heap_other (by omega)).trans ht.2)⟩
      · rw [hTwo] at ht
        have he := run_endLoop (P := P) ht.1 (by rw [hrc]; simp)
        have hpe : (rc .done (some c)).pending = some c := by rw [hrc]
        rw [hpe] at he
        exact ⟨some c, _, he, hstop _ c F pre _ (Nat.le_refl _) hSp (fun b hb => ⟨hF b hb, by have := hFl b hb; simpa [World.putObj] using this⟩) (put_I (hIx c) hF ht.1 hi) ((World.putObj_heap_other (by omega)).trans ht.2)⟩
end
end Go.Proofs.Ytcomiininaemhaa.Pk
