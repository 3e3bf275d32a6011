/- Sets of blocks: those that a call may turn, those that stay, those that come to be. -/
import Derived.Test.YtiaafhcfeeekeaaZRange
import Derived.Test.YtiaafhcfeeekeaaZStay0
import Derived.Test.YtiaafhcfeeekeaaProg
import Derived.LoopTactic
import Derived.Outline
import Derived.Lib.Hide
import Derived.Maps.AppendAt
import Derived.OwnWalk
import Derived.Deep.AppendLies
import Derived.Deep.RegionLaw
import Derived.Deep.RegionLawGrows
import Derived.Lib.SmallJoins
import Derived.Deep.Slices
import Derived.Deep.Fields
import Derived.Deep.Grids
import Derived.ChangeSame
namespace Go.Proofs.Ytiaafhcfeeekeaa.Pk
open Go.RowKit
set_option linter.unusedVariables false

/-- Only blocks of S, and new ones, may have turned. -/
structure Turned (S : Nat → Prop) (w w' : World) : Prop where
  os : w'.os = w.os
  tape : w'.tape = w.tape
  output : w'.output = w.output
  size : w.heap.size ≤ w'.heap.size
  block : ∀ i, i < w.heap.size → ¬ S i → w'.heap[i]? = w.heap[i]?
theorem Turned.of {B : Nat} {w w' : World} (h : Below B w w') (hB : w.heap.size ≤ B) (S : Nat → Prop) : Turned S w w' := ⟨h.os, h.tape, h.output, h.size, fun i hi _ => h.block i (by omega)⟩
theorem Turned.refl (S : Nat → Prop) (w : World) : Turned S w w := ⟨rfl, rfl, rfl, Nat.le_refl _, fun _ _ _ => rfl⟩
theorem Turned.below {S : Nat → Prop} {B : Nat} {u w w' : World} (h : Turned S w w') (hu : Below B u w) (hB : B ≤ w.heap.size) (hS : ∀ b, S b → B ≤ b) : Below B u w' :=
  ⟨h.os.trans hu.os, h.tape.trans hu.tape, h.output.trans hu.output, Nat.le_trans hu.size h.size, fun i hi => (h.block i (by omega) (fun hs => by have := hS i hs; omega)).trans (hu.block i hi)⟩
theorem Turned.trans {S S' : Nat → Prop} {w w' w2 : World} (h : Turned S w w') (k : Turned S' w' w2) (hS : ∀ b, b < w.heap.size → S' b → S b) : Turned S w w2 :=
  ⟨k.os.trans h.os, k.tape.trans h.tape, k.output.trans h.output, Nat.le_trans h.size k.size, fun i hi hn => (k.block i (Nat.lt_of_lt_of_le hi h.size) (fun hs => hn (hS i hi hs))).trans (h.block i hi hn)⟩
theorem Turned.drewN {S : Nat → Prop} {w w' : World} (h : Turned S w w') (n : Nat) : Turned S w (w'.drewN n) := ⟨h.os, h.tape, h.output, h.size, h.block⟩
theorem Turned.drew {S : Nat → Prop} {w w' : World} (h : Turned S w w') : Turned S w w'.drew := ⟨h.os, h.tape, h.output, h.size, h.block⟩
theorem Turned.set {S : Nat → Prop} {w w' : World} (h : Turned S w w') {p : Addr} (hp : S p.block) (u : Value) : Turned S w (w'.setCell p u) :=
  ⟨h.os, h.tape, h.output, by simpa [World.setCell] using h.size, fun i hi hn => (Below.heap_setCell w' p u i (by rintro rfl; exact hn hp)).trans (h.block i hi hn)⟩
theorem Turned.alloc {S : Nat → Prop} {w w' : World} (h : Turned S w w') (o : Obj) : Turned S w (w'.alloc o) :=
  h.trans (Turned.of ((Below.refl w'.heap.size w').alloc (Nat.le_refl _) o) (Nat.le_refl _) S) (fun _ _ h => h)
theorem Turned.next {S : Nat → Prop} {w w' w2 : World} (h : Turned S w w') (k : Below w'.heap.size w' w2) : Turned S w w2 := h.trans (Turned.of k (Nat.le_refl _) S) (fun _ _ h => h)
theorem Turned.grown {S : Nat → Prop} {w w' w2 : World} (h : Turned S w w') {row : Option Nat} (k : w'.grownBy w2 row) (hr : ∀ g, row = some g → g < w.heap.size → S g) : Turned S w w2 :=
  ⟨k.os.trans h.os, k.tape.trans h.tape, k.output.trans h.output, Nat.le_trans h.size k.size, fun i hi hn => (k.block i (Nat.lt_of_lt_of_le hi h.size) (fun e => hn (hr i e.symm hi))).trans (h.block i hi hn)⟩
/-- The blocks of D stay. -/
theorem Stay.drewN (D : Nat → Prop) (w : World) (n : Nat) : Stay D w (w.drewN n) := ⟨Nat.le_refl _, fun _ _ => rfl⟩
theorem Stay.turned {D S : Nat → Prop} {w w' : World} (h : Turned S w w') (hD : ∀ b, D b → b < w.heap.size ∧ ¬ S b) : Stay D w w' := ⟨h.size, fun b hb => h.block b (hD b hb).1 (hD b hb).2⟩
/-- Blocks of a set are old ones or new ones. -/
def From (S S' : Nat → Prop) (w : World) : Prop := ∀ b, S' b → S b ∨ w.heap.size ≤ b
theorem From.refl (S : Nat → Prop) (w : World) : From S S w := fun b h => .inl h
theorem From.trans {S S' S'' : Nat → Prop} {w w' : World} (h : From S S' w) (k : From S' S'' w') (hs : w.heap.size ≤ w'.heap.size) : From S S'' w := fun b hb => by
  rcases k b hb with h1 | h1
  · exact h b h1
  · exact .inr (by omega)
theorem From.back {S S' : Nat → Prop} {w w' : World} (h : From S S' w') (hs : w.heap.size ≤ w'.heap.size) : From S S' w := fun b hb => by
  rcases h b hb with h1 | h1
  · exact .inl h1
  · exact .inr (by omega)
/-- A slice none of whose blocks lies in S. -/
def Free (S : Nat → Prop) (A : Option Addr) (n : Nat) : Prop := 0 < n → ∀ ad, A = some ad → ¬ S ad.block
theorem Reads.turned {S : Nat → Prop} {w w' : World} {size n : Nat} {A : Option Addr} {xs : List Value} (h : Reads w w.heap.size size A n xs) (hf : Free S A n) (ht : Turned S w w') : Reads w' w'.heap.size size A n xs :=
  ⟨h.1, fun hn => by
    obtain ⟨ad, e, hb, hc⟩ := h.2 hn
    exact ⟨ad, e, Nat.lt_of_lt_of_le hb ht.size, fun j u hu => (World.cell?_of_block (by rw [block_of_add]; exact ht.block _ hb (hf hn ad e))).trans (hc j u hu)⟩⟩
theorem Free.next {S S' : Nat → Prop} {w : World} {size n : Nat} {A : Option Addr} {xs : List Value} (hf : Free S A n) (h : Reads w w.heap.size size A n xs) (hS : From S S' w) : Free S' A n := fun hn ad e hs => by
  obtain ⟨ad', e', hb, _⟩ := h.2 hn
  rw [e] at e'; injection e' with e'; subst e'
  rcases hS _ hs with h1 | h1
  · exact hf hn ad e h1
  · omega
end Go.Proofs.Ytiaafhcfeeekeaa.Pk

/- What lies where while a function is ranged over. -/
namespace Go.Proofs.Ytiaafhcfeeekeaa.Pk
open Go.RowKit Go.Shelf
set_option linter.unusedVariables false
/-- What lies below, but some blocks, lies as it lay. -/
structure OnlyS (S : Nat → Prop) (w V : World) : Prop where
  os : V.os = w.os
  tape : V.tape = w.tape
  output : V.output = w.output
  size : w.heap.size ≤ V.heap.size
  block : ∀ i, i < w.heap.size → ¬ S i → V.heap[i]? = w.heap[i]?
section
variable {S : Nat → Prop} {w V : World}
theorem OnlyS.refl (S : Nat → Prop) (w : World) : OnlyS S w w := ⟨rfl, rfl, rfl, Nat.le_refl _, fun _ _ _ => rfl⟩
theorem OnlyS.set (h : OnlyS S w V) {x : Nat} (hx : S x) (u : Value) : OnlyS S w (V.setCell ⟨x, 0, none⟩ u) :=
  ⟨h.os, h.tape, h.output, by have := h.size; simpa [World.setCell] using this, fun i hi hn => (Below.heap_setCell V ⟨x, 0, none⟩ u i (fun e => by simp at e; subst e; exact hn hx)).trans (h.block i hi hn)⟩
theorem OnlyS.drewN (h : OnlyS S w V) (k : Nat) : OnlyS S w (V.drewN k) := ⟨h.os, h.tape, h.output, h.size, h.block⟩
theorem OnlyS.below {W' : World} (h : OnlyS S w V) (hb : Below V.heap.size V W') : OnlyS S w W' :=
  ⟨hb.os.trans h.os, hb.tape.trans h.tape, hb.output.trans h.output, Nat.le_trans h.size hb.size, fun i hi hn => (hb.block i (Nat.lt_of_lt_of_le hi h.size)).trans (h.block i hi hn)⟩
theorem OnlyS.blk {g : Nat} {t : TypeId} {cs : Array Value} (h : OnlyS S w V) (hg : Blk w g t cs) (hx : ¬ S g) : Blk V g t cs := (h.block g hg.lt hx).trans hg
theorem OnlyS.reads {B size n : Nat} {A : Option Addr} {xs : List Value} (h : OnlyS S w V) (hr : Reads w B size A n xs) (hB : B ≤ w.heap.size) (hx : 0 < n → ∀ ad, A = some ad → ¬ S ad.block) : Reads V B size A n xs := by
  refine ⟨hr.1, fun hn => ?_⟩
  obtain ⟨ad, e, hb, hc⟩ := hr.2 hn
  refine ⟨ad, e, hb, fun j u hu => (World.cell?_of_block (h.block _ (by rw [block_of_add]; omega) (by rw [block_of_add]; exact hx hn ad e))).trans (hc j u hu)⟩
theorem OnlyS.stay {D : Nat → Prop} (h : OnlyS S w V) (hD : ∀ b, D b → b < w.heap.size ∧ ¬ S b) : Stay D w V := ⟨h.size, fun b hb => h.block b (hD b hb).1 (hD b hb).2⟩
theorem OnlyS.bel {B : Nat} {a : World} (h : Below B a w) (k : OnlyS S w V) (hS : ∀ b, S b → B ≤ b) (hB : B ≤ w.heap.size) : Below B a V :=
  ⟨k.os.trans h.os, k.tape.trans h.tape, k.output.trans h.output, Nat.le_trans h.size k.size, fun i hi => (k.block i (by omega) (fun e => by have := hS i e; omega)).trans (h.block i hi)⟩
end

end Go.Proofs.Ytiaafhcfeeekeaa.Pk

/- Rows of any kind of element: what lies, what is owned, what grows, what is put in. -/
namespace Go.Proofs.Ytiaafhcfeeekeaa.Pk
open Go.RowKit
set_option linter.unusedVariables false
/-- A kind of element. -/
structure Row (α : Type) where
  enc : α → List Value
  k : Nat
  T : TypeId
  S : TypeId
  z : Value
  by_ : Nat
  len : ∀ x, (enc x).length = k
  one : ∀ x, ∀ u ∈ enc x, u.oneCell' = true
  und : Try.prog.underlying S = some (.slice T)
  info : (Try.prog.info? T).map (fun i => (i.zero, i.size, i.bytes)) = some (some z, k, by_)
  zc : z.cells.size = k
  pos : 0 < k
  bpos : 0 < by_
namespace Row
variable {α : Type} (R : Row α)
def cells (l : List α) : List Value := l.flatMap R.enc
theorem cells_cons (r : α) (l : List α) : R.cells (r :: l) = R.enc r ++ R.cells l := rfl
theorem cells_append (l m : List α) : R.cells (l ++ m) = R.cells l ++ R.cells m := List.flatMap_append ..
@[simp] theorem cells_length (l : List α) : (R.cells l).length = l.length * R.k := by
  induction l with
  | nil => simp [cells]
  | cons r l ih => rw [cells_cons, List.length_append, R.len, ih, List.length_cons, Nat.add_mul]; omega
theorem cells_get {l : List α} {i : Nat} {r : α} (h : l[i]? = some r) {j : Nat} (hj : j < R.k) : (R.cells l)[i * R.k + j]? = (R.enc r)[j]? := by
  induction l generalizing i with
  | nil => simp at h
  | cons x l ih =>
    rw [cells_cons]
    match i, h with
    | 0, h =>
      simp at h; subst h
      rw [Nat.zero_mul, Nat.zero_add, List.getElem?_append_left (by rw [R.len]; exact hj)]
    | i + 1, h =>
      have := ih (i := i) (by simpa using h)
      rw [List.getElem?_append_right (by rw [R.len, Nat.add_mul]; omega), R.len, show (i + 1) * R.k + j - R.k = i * R.k + j by rw [Nat.add_mul]; omega]
      exact this
theorem cells_ones (l : List α) : ∀ u ∈ R.cells l, u.oneCell' = true := by
  intro u hu
  obtain ⟨r, _, h⟩ := List.mem_flatMap.1 hu
  exact R.one r u h
theorem klen {w : World} {B : Nat} {A : Option Addr} {n : Nat} {l : List α} (h : Reads w B R.k A n (R.cells l)) : l.length = n := by
  have h1 := h.1
  rw [R.cells_length] at h1
  exact Nat.eq_of_mul_eq_mul_right R.pos h1
/-- The cells of what is read. -/
theorem spots {w : World} {B : Nat} {A : Option Addr} {n : Nat} {l : List α} (h : Reads w B R.k A n (R.cells l)) (hn : 0 < n) :
    ∃ b off, A = some ⟨b, off, none⟩ ∧ b < B ∧ ∀ i r, l[i]? = some r → ∀ j u, (R.enc r)[j]? = some u → w.cell? ⟨b, off + (i * R.k + j), none⟩ = some u := by
  obtain ⟨ad, rfl, hb, hc⟩ := h.2 hn
  have hl : 0 < (R.cells l).length := by rw [h.1]; exact Nat.mul_pos hn R.pos
  have h0 := hc 0 _ (List.getElem?_eq_getElem hl)
  obtain ⟨b, off, spot⟩ := ad
  have hs : spot = none := by simpa [Addr.add] using World.cell?_spot h0
  subst hs
  refine ⟨b, off, rfl, hb, fun i r hr j u hu => ?_⟩
  have hj : j < R.k := by
    have := (List.getElem?_eq_some_iff.1 hu).1
    rw [R.len] at this
    exact this
  have := hc (i * R.k + j) u (by rw [R.cells_get hr hj]; exact hu)
  generalize i * R.k + j = m at this ⊢
  unfold Addr.add at this
  by_cases hz : m = 0
  · subst hz; simpa using this
  · simpa [hz] using this
/-- The block that a value may turn: that of a slice with room or cells. -/
def _root_.Go.Proofs.Ytiaafhcfeeekeaa.Pk.ownB : Value → Option Nat
  | .slice (some a) _ c => if c = 0 then none else some a.block
  | _ => none
/-- The value owns the row; an empty one without room owns nothing, wherever it points. -/
def Own (w : World) (B : Nat) (v : Value) (l : List α) : Prop := (w.ownsRow B R.T R.k v l.length (R.cells l) ∧ v.ownBlock = ownB v) ∨ (l = [] ∧ ∃ A, v = .slice A 0 0)
variable {R}
theorem ownB_zero (A : Option Addr) : ownB (.slice A 0 0) = none := by cases A <;> rfl
theorem Own.zero (w : World) (B : Nat) (A : Option Addr) : R.Own w B (.slice A 0 0) [] := .inr ⟨rfl, A, rfl⟩
theorem Own.none_ (w : World) (B : Nat) : R.Own w B (.slice none 0 0) [] := .inr ⟨rfl, none, rfl⟩
/-- What the library's rows are. -/
theorem own_of {w : World} {B n : Nat} {v : Value} {l : List α} (hn : n = l.length) (h : w.ownsRow B R.T R.k v n (R.cells l)) : R.Own w B v l := by
  subst hn
  obtain ⟨h1, h2 | ⟨g, cap, cur, e, hr⟩⟩ := h
  · exact .inr ⟨List.length_eq_zero_iff.1 h2.2, none, by rw [h2.1]⟩
  · by_cases hc : cap = 0
    · subst hc
      have hl : l.length = 0 := by have := hr.2.2.1; omega
      have hl2 := List.length_eq_zero_iff.1 hl
      subst hl2
      exact .inr ⟨rfl, some ⟨g, 0, none⟩, e⟩
    · subst e
      exact .inl ⟨⟨h1, .inr ⟨g, cap, cur, rfl, hr⟩⟩, by simp [Value.ownBlock, ownB, hc]⟩
theorem Own.alloc {w : World} {B : Nat} {v : Value} {l : List α} (h : R.Own w B v l) (o : Obj) : R.Own (w.alloc o) B v l := h.imp (fun h => ⟨World.ownsRow.alloc h.1 o, h.2⟩) id
theorem Own.base {w : World} {B : Nat} {v : Value} {l : List α} (h : R.Own w B v l) : ∀ k, ownB v = some k → B ≤ k := by
  intro k hk
  rcases h with ⟨h, e⟩ | ⟨_, A, rfl⟩
  · rw [← e] at hk
    rcases h.2 with ⟨rfl, _⟩ | ⟨g, cap, cur, rfl, hb, _⟩
    · simp [Value.ownBlock] at hk
    · simp [Value.ownBlock] at hk; omega
  · rw [ownB_zero] at hk; cases hk
theorem Own.lt {w : World} {B : Nat} {v : Value} {l : List α} (h : R.Own w B v l) : ∀ g, ownB v = some g → g < w.heap.size := by
  intro g hg
  rcases h with ⟨h, e⟩ | ⟨_, A, rfl⟩
  · rw [← e] at hg
    rcases h.2 with ⟨rfl, _⟩ | ⟨g', cap, cur, rfl, _, hh, _⟩
    · simp [Value.ownBlock] at hg
    · simp [Value.ownBlock] at hg
      subst hg
      rcases Nat.lt_or_ge g' w.heap.size with h' | h'
      · exact h'
      · rw [Array.getElem?_eq_none h'] at hh; cases hh
  · rw [ownB_zero] at hg; cases hg
theorem Own.stay {w w' : World} {B : Nat} {v : Value} {l : List α} (h : R.Own w B v l) (hk : ∀ g, ownB v = some g → w'.heap[g]? = w.heap[g]?) : R.Own w' B v l := by
  rcases h with ⟨⟨h1, h2⟩, e⟩ | h
  · refine .inl ⟨⟨h1, ?_⟩, e⟩
    rcases h2 with h2 | ⟨g, cap, cur, rfl, hg, hh, hr⟩
    · exact .inl h2
    · exact .inr ⟨g, cap, cur, rfl, hg, (hk g (by rw [← e]; rfl)).trans hh, hr⟩
  · exact .inr h
theorem Own.below {w w' : World} {B : Nat} {v : Value} {l : List α} (h : R.Own w B v l) (hb : Below w.heap.size w w') : R.Own w' B v l := h.stay fun g e => hb.block g (h.lt g e)
theorem Own.low {w : World} {B B' : Nat} {v : Value} {l : List α} (h : R.Own w B v l) (hB : B' ≤ B) : R.Own w B' v l := by
  rcases h with ⟨⟨h1, h2⟩, e⟩ | h
  · refine .inl ⟨⟨h1, ?_⟩, e⟩
    rcases h2 with h2 | ⟨g, cap, cur, rfl, hg, hr⟩
    · exact .inl h2
    · exact .inr ⟨g, cap, cur, rfl, by omega, hr⟩
  · exact .inr h
theorem reads_zero (w : World) (B : Nat) (A : Option Addr) : Reads w B R.k A 0 (R.cells []) := ⟨by simp [cells], fun h => absurd h (Nat.lt_irrefl 0)⟩
theorem Own.reads {w : World} {B : Nat} {v : Value} {l : List α} (h : R.Own w B v l) : ∃ A c, v = .slice A l.length c ∧ l.length ≤ c ∧ Reads w w.heap.size R.k A l.length (R.cells l) := by
  rcases h with ⟨h, e⟩ | ⟨rfl, A, rfl⟩
  · have h2 := h
    obtain ⟨h1, ⟨rfl, e0⟩ | ⟨g, cap, cur, rfl, _, _, hc, _⟩⟩ := h2
    · obtain rfl : l = [] := List.length_eq_zero_iff.1 e0
      exact ⟨none, 0, rfl, by simp, Reads.none_⟩
    · exact ⟨_, cap, rfl, hc, Reads.of_own h⟩
  · exact ⟨A, 0, rfl, Nat.le_refl _, reads_zero _ _ _⟩
theorem Own.sl {w : World} {B : Nat} {v : Value} {l : List α} (h : R.Own w B v l) : ∃ A c, v = .slice A l.length c := by
  obtain ⟨A, c, e, _⟩ := h.reads
  exact ⟨A, c, e⟩
theorem Own.slk {w : World} {B k : Nat} {v : Value} {l : List α} (h : R.Own w B v l) (hk : l.length = k) : ∃ A c, v = .slice A k c := by
  obtain ⟨A, c, e⟩ := h.sl
  exact ⟨A, c, by rw [e, hk]⟩
theorem Own.rd {w : World} {B n c : Nat} {A : Option Addr} {l : List α} (h : R.Own w B (.slice A n c) l) : l.length = n ∧ n ≤ c ∧ Reads w w.heap.size R.k A n (R.cells l) := by
  obtain ⟨A', c', e, hc, hr⟩ := h.reads
  injection e with e1 e2 e3
  subst e1; subst e2; subst e3
  exact ⟨rfl, hc, hr⟩
theorem _root_.Go.Proofs.Ytiaafhcfeeekeaa.Pk.append_zero {P : Program} (w : World) (t ty e : TypeId) (i : TypeInfo) (ht : P.underlying t = some (.slice e)) (hi : P.info? e = some i) (A A' : Option Addr) (n c c' : Nat) (hnc : n ≤ c) :
    (Builtin.append_ #[t, t] ty #[.slice A n c, .slice A' 0 c']).run P w = .ok (.slice A n c) w := by
  cases A <;> cases A' <;> simp [Builtin.append_, run_underlying ht, sizeOf, typeInfo, hi, Builtin.lenOf, Builtin.firstCells, hnc, storeCells, loadCells, loadCellsFrom]
/-- Where an appended slice lies. -/
def _root_.Go.Proofs.Ytiaafhcfeeekeaa.Pk.LiesB (w : World) (v v' : Value) : Prop := ownB v' = ownB v ∨ ownB v' = none ∨ ∃ g, ownB v' = some g ∧ w.heap.size ≤ g
theorem ownB_block (v : Value) : ownB v = none ∨ ownB v = v.ownBlock := by
  cases v with
  | slice A n c =>
    cases A with
    | none => exact .inl rfl
    | some a =>
      by_cases hc : c = 0
      · left; simp [ownB, hc]
      · right; simp [ownB, Value.ownBlock, hc]
  | _ => exact .inl rfl
set_option maxHeartbeats 1000000 in
/-- Elements of any list behind those that are owned. -/
theorem wpApp {o : Oper} {a : Act} {K : Act → World → Prop} {Q : Exit → Act → World → Prop} (R : Row α) (w : World) (s x : Operand)
    (ho : o.op = .call { callee := .builtin .append, args := #[s, x], argTypes := #[R.S, R.S] }) (B : Nat) (v : Value) (l : List α) (hs : a.eval s = v) (hown : R.Own w B v l)
    (B' : Nat) (A : Option Addr) (c : Nat) (r : List α) (n : Nat) (hx : a.eval x = .slice A n c) (hr : Reads w B' R.k A n (R.cells r)) (hlen : (l.length + n) * R.by_ ≤ 140737488355328) (hB : B ≤ w.heap.size)
    (h : ∀ v' w', R.Own w' B v' (l ++ r) → w.grownBy w' (ownB v) → LiesB w v v' → K (a.put o.dst v') w') : Oper.wp Try.prog o a w K Q := by
  obtain ⟨i0, hi0, hz0, hz1, hz2⟩ := info_parts R.info
  have hnr : n = r.length := (R.klen hr).symm
  have hmax : l.length + n ≤ maxLen := by
    have := Nat.le_mul_of_pos_right (l.length + n) R.bpos
    unfold maxLen; omega
  by_cases hn : n = 0
  · subst hn
    have hr0 : r = [] := List.length_eq_zero_iff.1 hnr.symm
    subst hr0
    obtain ⟨A1, c1, e1, hc1, _⟩ := hown.reads
    have hrun := append_zero (P := Try.prog) w R.S o.type R.T i0 R.und hi0 A1 A l.length c1 c hc1
    rw [← e1] at hrun
    unfold Oper.wp
    simp [execOp, ho, resolve, invoke, builtin, hs, hx, hrun, Result.andThen, Oper.upon]
    exact h _ _ (by simpa using hown) ⟨rfl, rfl, rfl, Nat.le_refl _, fun _ _ _ => rfl⟩ (.inl rfl)
  · obtain ⟨ad, rfl, _, hc⟩ := hr.2 (by omega)
    rcases hown with ⟨hown, hob⟩ | ⟨rfl, A1, rfl⟩
    · refine wp_append_any w s x R.S ho B R.T i0 _ R.k R.by_ R.und hi0 hz0 hz1 hz2 R.zc R.pos v l.length (R.cells l) hs hown B' (some ad) n c (R.cells r) hx hr (R.cells_ones r) hmax hlen hB ?_
      intro v' w' h1 h2 h3
      refine h v' w' (own_of (n := l.length + n) (by rw [List.length_append, hnr]) (by rw [cells_append]; exact h1)) (by rw [← hob]; exact h2) ?_
      rcases ownB_block v' with e | e
      · exact .inr (.inl e)
      · rcases h3 with h3 | h3
        · exact .inl (by rw [e, h3, hob])
        · exact .inr (.inr ⟨_, by rw [e, h3], Nat.le_refl _⟩)
    · have hzero : ∃ v' w', (Builtin.append_ #[R.S, R.S] o.type #[.slice A1 0 0, .slice (some ad) n c]).run Try.prog w = .ok v' w' ∧ w'.ownsRow w.heap.size R.T R.k v' (0 + n) ([] ++ R.cells r) ∧ w.grownBy w' none := by
        cases A1 with
        | none =>
          obtain ⟨v', w', g1, g2, g3, _⟩ := run_append_own (P := Try.prog) w w.heap.size R.S o.type R.T i0 R.z R.k R.by_ R.und hi0 hz0 hz1 hz2 R.zc R.pos (.slice none 0 0) 0 [] (World.ownsRow_nil w _ R.T R.k) ad n c (R.cells r) hr.1 hc (R.cells_ones r) (by simpa using hmax) (by simpa using hlen) (Nat.le_refl _)
          exact ⟨v', w', g1, g2, g3⟩
        | some b =>
          obtain ⟨v', w', g1, g2, g3⟩ := run_append_arg_grows (P := Try.prog) w R.S o.type R.T i0 R.z R.k R.by_ R.und hi0 hz0 hz1 hz2 R.zc R.pos b 0 0 [] (by simp) (fun j u hj => by simp at hj) ad n c (R.cells r) hr.1 hc (by omega) (by simpa using hmax) (by simpa using hlen)
          exact ⟨v', w', g1, g2, g3⟩
      obtain ⟨v', w', hrun, g2, g3⟩ := hzero
      unfold Oper.wp
      simp [execOp, ho, resolve, invoke, builtin, hs, hx, hrun, Result.andThen, Oper.upon]
      have hw := own_of (R := R) (l := r) (n := 0 + n) (by omega) (by simpa using g2)
      refine h v' w' (by simpa using hw.low hB) (by rw [ownB_zero]; exact g3) ?_
      cases e : ownB v' with
      | none => exact .inr (.inl e)
      | some g => exact .inr (.inr ⟨g, e, hw.base g e⟩)
theorem app {ops : Array Oper} {rest : List Oper} {o : Oper} {a : Act} {Q : Exit → Act → World → Prop} (R : Row α) (w : World) (hgd : o.guard = none) (s x : Operand)
    (ho : o.op = .call { callee := .builtin .append, args := #[s, x], argTypes := #[R.S, R.S] }) (B : Nat) (v : Value) (l : List α) (hs : a.eval s = v) (hown : R.Own w B v l)
    (B' : Nat) (A : Option Addr) (c : Nat) (r : List α) (n : Nat) (hx : a.eval x = .slice A n c) (hr : Reads w B' R.k A n (R.cells r)) (hlen : (l.length + n) * R.by_ ≤ 140737488355328) (hB : B ≤ w.heap.size)
    (h : ∀ v' w', R.Own w' B v' (l ++ r) → w.grownBy w' (ownB v) → LiesB w v v' → wpList Try.prog ops Q rest (a.put o.dst v') w') : wpList Try.prog ops Q (o :: rest) a w :=
  wpList_plain hgd fun _ hK => wpApp R w s x ho B v l hs hown B' A c r n hx hr hlen hB fun v' w' h1 h2 h3 => hK _ _ (h v' w' h1 h2 h3)
theorem stepApp {ops : Array Oper} {o : Oper} {a : Act} {K : Act → World → Prop} {Q : Exit → Act → World → Prop} {E : Prop} (R : Row α) (w : World) (hgd : o.guard = none) (s x : Operand)
    (ho : o.op = .call { callee := .builtin .append, args := #[s, x], argTypes := #[R.S, R.S] }) (B : Nat) (v : Value) (l : List α) (hs : a.eval s = v) (hown : R.Own w B v l)
    (B' : Nat) (A : Option Addr) (c : Nat) (r : List α) (n : Nat) (hx : a.eval x = .slice A n c) (hr : Reads w B' R.k A n (R.cells r)) (hlen : (l.length + n) * R.by_ ≤ 140737488355328) (hB : B ≤ w.heap.size)
    (h : ∀ A' n' c' w', R.Own w' B (.slice A' n' c') (l ++ r) → w.grownBy w' (ownB v) → LiesB w v (.slice A' n' c') → K (a.put o.dst (.slice A' n' c')) w') :
    if Region.wanted o (yielded ops a.tmps) = true then Oper.wp Try.prog o a w K Q else E := by
  have hw : Region.wanted o (yielded ops a.tmps) = true := by simp [Region.wanted, hgd]
  rw [if_pos hw]
  refine wpApp R w s x ho B v l hs hown B' A c r n hx hr hlen hB fun v' w' h1 h2 h3 => ?_
  obtain ⟨A', c', e⟩ := h1.sl
  subst e
  exact h A' _ c' w' h1 h2 h3
/-- A new block that holds just these elements. -/
theorem reads_new (R : Row α) (w : World) (cs : Array Value) (T : TypeId) (l : List α) (h : cs.toList = R.cells l) : Reads (w.alloc (.cells cs T)) (w.heap.size + 1) R.k (some ⟨w.heap.size, 0, none⟩) l.length (R.cells l) := by
  refine ⟨by rw [R.cells_length], fun _ => ⟨_, rfl, by simp, fun j u hj => ?_⟩⟩
  have h0 : (w.alloc (.cells cs T)).cell? ⟨w.heap.size, j, none⟩ = cs[j]? := (Blk.new w T cs).cell j
  have e : (⟨w.heap.size, 0, none⟩ : Addr).add j = ⟨w.heap.size, j, none⟩ := by unfold Addr.add; by_cases hj : j = 0 <;> simp [hj]
  rw [e, h0, ← hj, ← h]
  simp
/-- One cell of a row that is owned. -/
theorem Own.cell {w : World} {B n c : Nat} {A : Option Addr} {l : List α} (h : R.Own w B (.slice A n c) l) (hn : 0 < n) : ∃ g, A = some ⟨g, 0, none⟩ ∧ B ≤ g ∧ g < w.heap.size ∧ c ≠ 0 ∧ (∀ j, w.frozen? ⟨g, j, none⟩ = false) ∧
    ∀ i r, l[i]? = some r → ∀ j u, (R.enc r)[j]? = some u → w.cell? ⟨g, i * R.k + j, none⟩ = some u := by
  obtain ⟨hl, hc, hr⟩ := h.rd
  have hc0 : c ≠ 0 := by omega
  rcases h with ⟨h, hob⟩ | ⟨rfl, A1, e⟩
  · have h0 := h
    obtain ⟨h1, ⟨e, e0⟩ | ⟨g, cap, cur, e, hg, hh, hrest⟩⟩ := h0
    · omega
    injection e with e1 e2 e3
    subst e1
    obtain ⟨b, off, e4, hb, hcs⟩ := R.spots hr hn
    injection e4 with e4
    injection e4 with e4 e5
    subst e4; subst e5
    exact ⟨g, rfl, hg, Blk.lt (t := R.T) (cs := cur) hh, hc0, fun j => by simp [World.frozen?, hh], fun i r hi j u hu => by have := hcs i r hi j u hu; rwa [Nat.zero_add] at this⟩
  · simp at hl; omega
end Row
end Go.Proofs.Ytiaafhcfeeekeaa.Pk

/- How rows of any kind that come in are opened. -/
namespace Go.Proofs.Ytiaafhcfeeekeaa.Ar
open Go.ChangeShapes Go.WideShapes Go.ChangeAt Go.RowKit Go.Deep Go.Joins Go.Proofs.Ytiaafhcfeeekeaa.Pk
set_option linter.unusedVariables false
theorem weightsAll_mem {H : Type} {P : Program} {e : TypeId} {d : DataW H} {l : List (DataW H)} {x : Nat} (h : d ∈ l) (hx : x ∈ d.weights P e) : x ∈ DataW.weightsAll P e l := by
  induction l with
  | nil => cases h
  | cons y r ih =>
    simp only [DataW.weightsAll, List.mem_append]
    rcases List.mem_cons.1 h with rfl | h
    · exact .inl hx
    · exact .inr (ih h)
/-- No part of an argument is longer than a machine reaches. -/
def WtsOk {H : Type} (t : TypeId) (d : DataW H) : Prop := ∀ x ∈ d.weights Try.prog t, x ≤ 140737488351232
theorem wts_arg {H : Type} {ts : List TypeId} {ds : List (DataW H)} (h : (DataW.weightsEach Try.prog ts ds).all (· ≤ reachBytes) = true) {j : Nat} {t : TypeId} {d : DataW H} (ht : ts[j]? = some t) (hd : ds[j]? = some d) : WtsOk t d := fun x hx => by
  have := List.all_eq_true.1 h _ (DataW.weights_mem_each ht hd x hx)
  have h2 : x ≤ reachBytes := by simpa using this
  exact h2
section
variable {H : Type} {enc : TypeId × Value → H} {W : World}
theorem open_slice_fields {P : Program} {w : World} {base : Nat} {spare : Nat → Bool} {held : Bool} {t e : TypeId} {fs : Array Field} {fuel : Nat} {cs : List Value} {x : DataW H × List MemPlace} (ht : P.underlying t = some (.slice e)) (he : P.underlying e = some (.struct fs))
    (hone : oneCellFields P fs = true) (hC : P.cellsOf e = fs.size) (h : DataW.trod enc P w base spare held fuel t cs = some x) :
    (cs = [.slice none 0 0] ∧ x = (.nil, [])) ∨
    ∃ (a : Addr) (len cap m : Nat) (D : Nat → DataW H) (Pl : Nat → List MemPlace), cs = [.slice (some a) len cap] ∧ base ≤ a.block ∧ len ≤ cap ∧ cap ≤ maxLen ∧ m = (if spare a.block then cap else len) ∧
      x = (.slice ((List.range len).map D) ((List.range (m - len)).map fun j => D (len + j)), MemPlace.row a (m * fs.size) ++ (List.range m).flatMap Pl) ∧
      ∀ i, i < m → ∃ (ys : List (DataW H × List MemPlace)) (n : Nat), D i = .agg (ys.map (·.1)) ∧ Pl i = ys.flatMap (·.2) ∧ ys.length = fs.size ∧
        ∀ (j : Nat) (f : Field), fs[j]? = some f → ∃ (v : Value) (y : DataW H × List MemPlace), w.cell? (a.add (i * fs.size + j)) = some v ∧ ys[j]? = some y ∧ DataW.trod enc P w base spare held n f.type [v] = some y := by
  rcases open_slice ht h with h0 | ⟨a, len, cap, m, n, D, Pl, hcs, hb, hl, hm, hmm, hx, hi⟩
  · exact .inl h0
  · refine .inr ⟨a, len, cap, m, D, Pl, hcs, hb, hl, hm, hmm, by rw [hC] at hx; exact hx, fun i him => ?_⟩
    obtain ⟨cs', hc, ht'⟩ := hi i him
    rw [hC] at hc
    obtain ⟨ys, n', hn', hy, hlen, hyl, hf⟩ := DataW.trod_struct he ht'
    obtain ⟨_, hcl, hat⟩ := World.cells?_some hc
    simp only [Prod.mk.injEq] at hy
    refine ⟨ys, n', hy.1, hy.2, hyl, fun j f hj => ?_⟩
    obtain ⟨ho, hk⟩ := hone_of hone j f hj
    have hjl : j < fs.size := (Array.getElem?_eq_some_iff.1 hj).1
    have hcell := hat j hjl
    have hv : cs'[j]? = some (cs'[j]'(by omega)) := List.getElem?_eq_getElem (by omega)
    have h1 := hf j f hj
    rw [ho, hk] at h1
    have hone' : (cs'.drop j).take 1 = [cs'[j]'(by omega)] := by
      rw [List.drop_eq_getElem_cons (by omega)]
      rfl
    rw [hone'] at h1
    have hys : ys[j]? = some (ys[j]'(by omega)) := List.getElem?_eq_getElem (by omega)
    refine ⟨_, _, ?_, hys, h1.trans hys⟩
    rw [← Go.Deep.add_add, hcell, hv]
/-- What one element's fields say. -/
def ElemOk {α : Type} (enc : TypeId × Value → H) (W : World) (R : Row α) (P : α → Prop) (fs : Array Field) : Prop :=
  ∀ (d : DataW H) (ys : List (DataW H × List MemPlace)) (n : Nat) (u : Nat → Value), WtsOk R.T d → d = .agg (ys.map (·.1)) →
    (∀ j f, fs[j]? = some f → ∃ y, ys[j]? = some y ∧ DataW.trod enc Try.prog W 0 (fun _ => true) true n f.type [u j] = some y) → ∃ r : α, P r ∧ ∀ j, j < R.k → (R.enc r)[j]? = some (u j)
theorem open_row {α : Type} [Inhabited α] (R : Row α) (P : α → Prop) {fs : Array Field} (hs : Try.prog.underlying R.T = some (.struct fs)) (hone : oneCellFields Try.prog fs = true) (hC : Try.prog.cellsOf R.T = fs.size) (hk : fs.size = R.k) (hbo : Try.prog.bytesOf R.T = R.by_)
    (elem : ElemOk enc W R P fs) {fuel : Nat} {v : Value} {y : DataW H × List MemPlace} (hf : DataW.trod enc Try.prog W 0 (fun _ => true) true fuel R.S [v] = some y) (hb : WtsOk R.S y.1) :
    ∃ a n c l, v = .slice a n c ∧ Reads W W.heap.size R.k a n (R.cells l) ∧ n ≤ c ∧ n * R.by_ ≤ 140737488351232 ∧ ∀ r ∈ l, P r := by
  rcases open_slice_fields R.und hs hone hC hf with ⟨hcs, _⟩ | ⟨x, len, cap, m, D, Pl, hcs, _, hl, hm, hmm, hx, hi⟩
  · simp at hcs
    subst hcs
    exact ⟨none, 0, 0, [], rfl, Reads.none_, Nat.le_refl _, by omega, fun x hx => by cases hx⟩
  · simp at hcs
    subst hcs
    obtain ⟨n, hn⟩ : ∃ n, n = len := ⟨_, rfl⟩
    subst hn
    simp only [if_true] at hmm
    subst hmm
    have hd : y.1 = .slice ((List.range n).map D) ((List.range (m - n)).map fun j => D (n + j)) := by rw [hx]
    have hbs := hb ((((List.range n).map D).length + ((List.range (m - n)).map fun j => D (n + j)).length) * Try.prog.bytesOf R.T) (by rw [hd]; simp [DataW.weights, R.und])
    have hbe : ∀ i, i < n → WtsOk R.T (D i) := fun i hi x hx => hb x (by
      rw [hd]
      simp only [DataW.weights, R.und]
      exact List.mem_cons_of_mem _ (List.mem_append_left _ (weightsAll_mem (List.mem_map.2 ⟨i, List.mem_range.2 hi, rfl⟩) hx)))
    rw [hbo] at hbs
    simp only [List.length_map, List.length_range] at hbs
    have hbn : n * R.by_ ≤ 140737488351232 := Nat.le_trans (Nat.mul_le_mul_right _ (by omega)) hbs
    have each : ∀ i, i < n → ∃ r : α, P r ∧ ∀ j, j < R.k → W.cell? (x.add (i * R.k + j)) = (R.enc r)[j]? := by
      intro i hin
      obtain ⟨ys, n', hD, _, hyl, hall⟩ := hi i (by omega)
      obtain ⟨u, hu⟩ := choose_lt (α := Value) (n := fs.size) (p := fun j v => ∀ f, fs[j]? = some f → ∃ y, W.cell? (x.add (i * fs.size + j)) = some v ∧ ys[j]? = some y ∧ DataW.trod enc Try.prog W 0 (fun _ => true) true n' f.type [v] = some y)
        (fun j hj => by
          obtain ⟨v, y, h1, h2, h3⟩ := hall j fs[j] (Array.getElem?_eq_getElem hj)
          exact ⟨v, fun f hf => by rw [Array.getElem?_eq_getElem hj] at hf; injection hf with hf; subst hf; exact ⟨y, h1, h2, h3⟩⟩)
      obtain ⟨r, hP, hr⟩ := elem (D i) ys n' u (hbe i hin) hD (fun j f hj => by
        obtain ⟨y, _, h2, h3⟩ := hu j (Array.getElem?_eq_some_iff.1 hj).1 f hj
        exact ⟨y, h2, h3⟩)
      refine ⟨r, hP, fun j hj => ?_⟩
      obtain ⟨y, h1, _, _⟩ := hu j (by omega) fs[j] (Array.getElem?_eq_getElem (by omega))
      rw [hr j hj, ← hk, h1]
    obtain ⟨g, hg⟩ := choose_lt (α := α) (p := fun i r => P r ∧ ∀ j, j < R.k → W.cell? (x.add (i * R.k + j)) = (R.enc r)[j]?) each
    refine ⟨some x, n, m, (List.range n).map g, rfl, ⟨by simp, fun hn => ⟨x, rfl, ?_, fun j u hj => ?_⟩⟩, hl, hbn, fun r hr' => ?_⟩
    · have h0 := (hg 0 (by omega)).2 0 R.pos
      rw [List.getElem?_eq_getElem (by rw [R.len]; exact R.pos)] at h0
      have := lt_heap h0
      simpa [block_of_add] using this
    · have hjn : j < n * R.k := by
        have := (List.getElem?_eq_some_iff.1 hj).1
        simpa using this
      have hdj : j / R.k < n := (Nat.div_lt_iff_lt_mul R.pos).2 hjn
      have hmj : j % R.k < R.k := Nat.mod_lt _ R.pos
      have hq : ((List.range n).map g)[j / R.k]? = some (g (j / R.k)) := by rw [List.getElem?_map, List.getElem?_range hdj]; rfl
      have he : j / R.k * R.k + j % R.k = j := by rw [Nat.mul_comm]; exact Nat.div_add_mod j R.k
      have hc := R.cells_get hq hmj
      rw [he] at hc
      have := (hg (j / R.k) hdj).2 _ hmj
      rw [he] at this
      rw [this, ← hc, hj]
    · obtain ⟨i, hi, rfl⟩ := List.mem_map.1 hr'
      exact (hg i (by simpa using hi)).1
end
end Go.Proofs.Ytiaafhcfeeekeaa.Ar

/- Cells as they lie: four ints. -/
namespace Go.Proofs.Ytiaafhcfeeekeaa.Pk
open Go.RowKit
set_option linter.unusedVariables false
/-- A request: its number, its state, its successor's node and number. -/
structure Ce where
  n : Int
  s : Int
  d : Int
  x : Int
  deriving DecidableEq
def Ce.zero : Ce := ⟨0, 0, 0, 0⟩
def Ce.val (m : Ce) : Value := .agg #[.int .i64 m.n, .int .i64 m.s, .int .i64 m.d, .int .i64 m.x]
structure Ce.I (m : Ce) : Prop where
  n : -9223372036854775808 ≤ m.n ∧ m.n ≤ 9223372036854775807
  s : -9223372036854775808 ≤ m.s ∧ m.s ≤ 9223372036854775807
  d : -9223372036854775808 ≤ m.d ∧ m.d ≤ 9223372036854775807
  x : -9223372036854775808 ≤ m.x ∧ m.x ≤ 9223372036854775807
end Go.Proofs.Ytiaafhcfeeekeaa.Pk
