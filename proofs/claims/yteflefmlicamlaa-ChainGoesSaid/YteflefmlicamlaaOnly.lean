/- What lies where while a function is ranged over. -/
import Derived.Test.YteflefmlicamlaaRangeF
import Derived.Test.YteflefmlicamlaaSet0
namespace Go.Proofs.Yteflefmlicamlaa.Pk
open Go.RowKit Go.Shelf
set_option linter.unusedVariables false
theorem Stay.refl_ (D : Nat → Prop) (w : World) : Stay D w w := ⟨Nat.le_refl _, fun _ _ => rfl⟩
theorem stay_setAt {D : Nat → Prop} {V : World} {x o : Nat} {u : Value} (hx : ¬ D x) : Stay D V (V.setCell ⟨x, o, none⟩ u) :=
  ⟨by simp [World.setCell], fun b hb => Below.heap_setCell _ ⟨x, o, none⟩ _ b (fun e => hx (by simp at e; subst e; exact hb))⟩
theorem keepsAll_setAt {B x i : Nat} (W : World) (hx : x < B) (u : Value) : KeepsAll B W (W.setCell ⟨x, i, none⟩ u) :=
  ⟨by simp [World.setCell], fun k hB hk => Below.heap_setCell W ⟨x, i, none⟩ u k (by show ¬ k = x; omega)⟩
/-- What lies below, but some blocks, lies as it lay. -/
structure OnlyS (S : Nat → Prop) (w V : World) : Prop where
  os : V.os = w.os
  tape : V.tape = w.tape
  output : V.output = w.output
  size : w.heap.size ≤ V.heap.size
  block : ∀ i, i < w.heap.size → ¬ S i → V.heap[i]? = w.heap[i]?
section
variable {S : Nat → Prop} {w V : World}
theorem OnlyS.refl (S : Nat → Prop) (w : World) : OnlyS S w w := ⟨rfl, rfl, rfl, Nat.le_refl _, fun _ _ _ => rfl⟩
theorem OnlyS.set (h : OnlyS S w V) {x : Nat} (hx : S x) (u : Value) : OnlyS S w (V.setCell ⟨x, 0, none⟩ u) :=
  ⟨h.os, h.tape, h.output, by have := h.size; simpa [World.setCell] using this, fun i hi hn => (Below.heap_setCell V ⟨x, 0, none⟩ u i (fun e => by simp at e; subst e; exact hn hx)).trans (h.block i hi hn)⟩
theorem OnlyS.drewN (h : OnlyS S w V) (k : Nat) : OnlyS S w (V.drewN k) := ⟨h.os, h.tape, h.output, h.size, h.block⟩
theorem OnlyS.below {W' : World} (h : OnlyS S w V) (hb : Below V.heap.size V W') : OnlyS S w W' :=
  ⟨hb.os.trans h.os, hb.tape.trans h.tape, hb.output.trans h.output, Nat.le_trans h.size hb.size, fun i hi hn => (hb.block i (Nat.lt_of_lt_of_le hi h.size)).trans (h.block i hi hn)⟩
theorem OnlyS.blk {g : Nat} {t : TypeId} {cs : Array Value} (h : OnlyS S w V) (hg : Blk w g t cs) (hx : ¬ S g) : Blk V g t cs := (h.block g hg.lt hx).trans hg
theorem OnlyS.reads {B size n : Nat} {A : Option Addr} {xs : List Value} (h : OnlyS S w V) (hr : Reads w B size A n xs) (hB : B ≤ w.heap.size) (hx : 0 < n → ∀ ad, A = some ad → ¬ S ad.block) : Reads V B size A n xs := by
  refine ⟨hr.1, fun hn => ?_⟩
  obtain ⟨ad, e, hb, hc⟩ := hr.2 hn
  refine ⟨ad, e, hb, fun j u hu => (World.cell?_of_block (h.block _ (by rw [block_of_add]; omega) (by rw [block_of_add]; exact hx hn ad e))).trans (hc j u hu)⟩
theorem OnlyS.stay {D : Nat → Prop} (h : OnlyS S w V) (hD : ∀ b, D b → b < w.heap.size ∧ ¬ S b) : Stay D w V := ⟨h.size, fun b hb => h.block b (hD b hb).1 (hD b hb).2⟩
theorem OnlyS.bel {B : Nat} {a : World} (h : Below B a w) (k : OnlyS S w V) (hS : ∀ b, S b → B ≤ b) (hB : B ≤ w.heap.size) : Below B a V :=
  ⟨k.os.trans h.os, k.tape.trans h.tape, k.output.trans h.output, Nat.le_trans h.size k.size, fun i hi => (k.block i (by omega) (fun e => by have := hS i e; omega)).trans (h.block i hi)⟩
theorem OnlyS.marks {B : Nat} {ds : List Deferred} (h : Marks B ds w) (k : OnlyS S w V) (hS : ∀ b, S b → ∃ t cs, Blk w b t cs) : Marks B ds V :=
  h.keep k.size (fun q ⟨d, hd, he⟩ => k.block q (h.lt d hd q he) (fun hs => by
    obtain ⟨t, cs, hb⟩ := hS q hs
    obtain ⟨D, e1, _, h2, h3⟩ := h.mem d hd
    rw [e1] at he
    injection he with he
    injection he with he
    subst he
    unfold Blk at hb
    rw [hb] at h3; cases h3))
theorem own_onlyS {β : Type} (W1 : World) (S : Nat → Prop) : OwnFrom (β := β) W1.heap.size (fun _ W => OnlyS S W1 W) := by
  intro s A B row h hg hr
  refine ⟨hg.os.trans h.os, hg.tape.trans h.tape, hg.output.trans h.output, Nat.le_trans h.size hg.size, fun k hk hne => ?_⟩
  refine (hg.block k (Nat.lt_of_lt_of_le hk h.size) (fun e => ?_)).trans (h.block k hk hne)
  have := (hr k e.symm).1
  omega
end

end Go.Proofs.Yteflefmlicamlaa.Pk
