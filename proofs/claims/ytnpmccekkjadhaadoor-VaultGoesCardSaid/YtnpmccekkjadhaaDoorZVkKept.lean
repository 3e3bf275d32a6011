/- What a law keeps by itself beside a vault: a snapshot and records. -/
import Derived.Test.YtnpmccekkjadhaaDoorZEnc
import Derived.Test.YtnpmccekkjadhaaDoorZMem
import Derived.Test.YtnpmccekkjadhaaDoorZVkHeavy
namespace Go.Proofs.YtnpmccekkjadhaaDoor.Pk
open Go.RowKit Go.Proofs.YtnpmccekkjadhaaDoor.Ar Go.Proofs.YtnpmccekkjadhaaDoor.Crc Go.Proofs.YtnpmccekkjadhaaDoor.Fr
set_option linter.unusedVariables false

/-- A piece more, and where the list lies then. -/
theorem appL2 {ops : Array Oper} {rest : List Oper} {o : Oper} {a : Act} {Q : Exit → Act → World → Prop} (w : World) (y : Piece) (T : TypeId) (hgd : o.guard = none) (s x : Operand)
    (ho : o.op = .call { callee := .builtin .append, args := #[s, x], argTypes := #[41, 41] }) (B : Nat) (v : Value) (ps : List Piece) (hs : a.eval s = v) (hown : OwnP w B v ps)
    (hx : a.eval x = .slice (some ⟨w.heap.size, 0, none⟩) 1 1) (hlen : (ps.length + 1) * 24 ≤ 140737488355328) (hB : B ≤ w.heap.size)
    (h : ∀ v' w', OwnP w' B v' (ps ++ [y]) → w.grownBy w' v.ownBlock → (v'.ownBlock = v.ownBlock ∨ v'.ownBlock = some (w.heap.size + 1)) → wpList Tryd.prog ops Q rest (a.put o.dst v') w') : wpList Tryd.prog ops Q (o :: rest) a (w.alloc (.cells #[.slice y.a y.n y.c] T)) := by
  obtain ⟨i0, hi0, hz0, hz1, hz2⟩ := info_parts sl_info
  refine wpList_append_any _ hgd s x _ ho B 22 i0 _ 1 24 Tryd.underlying41 hi0 hz0 hz1 hz2 rfl (by omega) v ps.length (ps.map Piece.val) hs (World.ownsRow.alloc hown _) (w.heap.size + 1) (some ⟨w.heap.size, 0, none⟩) 1 1 ([y].map Piece.val) hx
    ⟨rfl, fun _ => ⟨_, rfl, Nat.lt_succ_self _, ?_⟩⟩ (pieces_one [y]) (by unfold maxLen; omega) (by omega) (by simp; omega) ?_
  · intro j u hj
    match j, hj with
    | 0, hj => simp [Piece.val] at hj; subst hj; simp [Addr.add]
    | j + 1, hj => simp at hj
  · intro v' w' ho hg hat
    refine h v' w' ?_ ⟨hg.os, hg.tape, hg.output, by have := hg.size; simp at this; omega, fun i hi hn => (hg.block i (by simp; omega) hn).trans (Below.heap_alloc w _ i hi)⟩ (by simpa using hat)
    unfold OwnP
    rw [List.map_append, List.length_append]; exact ho
theorem ArgV.next {w w' : World} {a : Option Addr} {n c : Nat} {l : List OpV} (h : ArgV w a n c l) (hb : Below w.heap.size w w') : ArgV w' a n c l :=
  ⟨(h.1.below hb).more hb.size, h.2.1, h.2.2.1, fun o ho => ⟨((h.2.2.2 o ho).1.below hb).more hb.size, (h.2.2.2 o ho).2⟩⟩

/-- A snapshot and records beside a vault made of the blocks U. -/
structure Kpt (B : Nat) (U : Nat → Prop) (A : Option Addr) (n : Nat) (vr : Value) (s : List Int) (ps : List Piece) (w : World) : Prop where
  snap : Reads w w.heap.size 1 A n (bts s)
  free : Free U A n
  off : Free (fun b => vr.ownBlock = some b) A n
  recs : OwnL w B vr ps
  a2 : ∀ g, vr.ownBlock = some g → ¬ U g
  a3 : ∀ p ∈ ps, ∀ g, p.val.ownBlock = some g → ¬ U g
section
variable {B n : Nat} {U U' : Nat → Prop} {A : Option Addr} {vr : Value} {s : List Int} {ps : List Piece} {w w' : World}
theorem Kpt.next (h : Kpt B U A n vr s ps w) (hb : Below w.heap.size w w') : Kpt B U A n vr s ps w' := ⟨(h.snap.below hb).more hb.size, h.free, h.off, h.recs.next hb, h.a2, h.a3⟩
theorem Kpt.sub (h : Kpt B U A n vr s ps w) (hu : ∀ b, U' b → U b) : Kpt B U' A n vr s ps w := ⟨h.snap, fun h0 ad e hs => h.free h0 ad e (hu _ hs), h.off, h.recs, fun g e hb => h.a2 g e (hu g hb), fun p hp g e hb => h.a3 p hp g e (hu g hb)⟩
theorem Kpt.turn (h : Kpt B U A n vr s ps w) (t : Turned U w w') (f : From U U' w) : Kpt B U' A n vr s ps w' := by
  have l2 := h.recs.row.lt
  have l3 := h.recs.lt
  refine ⟨h.snap.turned h.free t, h.free.next h.snap f, h.off, ⟨h.recs.row.stay fun g e => t.block g (l2 g e) (h.a2 g e), fun p hp => (h.recs.each p hp).stay fun g e => t.block g (l3 p hp g e) (h.a3 p hp g e), h.recs.apart⟩, fun g e hb => ?_, fun p hp g e hb => ?_⟩
  · rcases f g hb with h1 | h1
    · exact h.a2 g e h1
    · have := l2 g e; omega
  · rcases f g hb with h1 | h1
    · exact h.a3 p hp g e h1
    · have := l3 p hp g e; omega
theorem Kpt.slices (h : Kpt B U A n vr s ps w) : ∃ A' n' c', vr = .slice A' n' c' ∧ s.length = n ∧ ps.length = n' := by
  obtain ⟨A', c', e, _, _⟩ := reads_own h.recs.row
  exact ⟨A', _, c', e, by have := h.snap.1; simpa using this, rfl⟩
/-- A new snapshot, no records. -/
theorem Kpt.fresh (h : Reads w w.heap.size 1 A n (bts s)) (hf : Free U A n) (w0 : Nat) : Kpt w0 U A n (.slice none 0 0) s [] w :=
  ⟨h, hf, fun _ ad _ e => by simp [Value.ownBlock] at e, OwnL.none_ _ _, fun g e => by simp [Value.ownBlock] at e, fun p hp => by cases hp⟩
/-- A record more. -/
theorem Kpt.push {y : Piece} {B' : Nat} {v' : Value} (h : Kpt B U A n vr s ps w) (hy : OwnB w B' y.val y.l) (hB : B ≤ B') (hU : ∀ g, U g → g < B') (hn : ∀ p ∈ ps, ∀ g, p.val.ownBlock = some g → g < B')
    (hp : OwnP w' B v' (ps ++ [y])) (hg : w.grownBy w' vr.ownBlock) (hat : v'.ownBlock = vr.ownBlock ∨ v'.ownBlock = some (w.heap.size + 1)) (hS : ∀ b, U b → b < w.heap.size) : Kpt B U A n v' s (ps ++ [y]) w' := by
  have ht : Turned (fun b => vr.ownBlock = some b) w w' := (Turned.refl _ w).grown hg (fun g e _ => e)
  refine ⟨h.snap.turned h.off ht, h.free, fun h0 ad e hs => ?_, h.recs.push (hy.mono hB) (fun p hp g e1 e2 => by have := hn p hp g e1; have := hy.base g e2; omega) hp hg, fun g e hb => ?_, fun p hpm g e hb => ?_⟩
  · rcases hat with h1 | h1
    · exact h.off h0 ad e (h1 ▸ hs)
    · have hs : v'.ownBlock = some ad.block := hs
      rw [h1] at hs
      injection hs with hs
      obtain ⟨ad', e', hlt, _⟩ := h.snap.2 h0
      rw [e] at e'; injection e' with e'; subst e'
      omega
  · rcases hat with h1 | h1
    · exact h.a2 g (h1 ▸ e) hb
    · rw [h1] at e
      injection e with e
      have := hS g hb
      omega
  · rcases List.mem_append.1 hpm with h1 | h1
    · exact h.a3 p h1 g e hb
    · obtain rfl : p = y := by simpa using h1
      have := hy.base g e
      have := hU g hb
      omega
end
end Go.Proofs.YtnpmccekkjadhaaDoor.Pk
