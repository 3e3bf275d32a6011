/- Cells of any list behind cells of one's own; behind an empty literal. -/
import Derived.Test.YteflefmlicamlaaCeOwn
import Derived.Deep.AppendLies
import Derived.Deep.RegionLaw
import Derived.Deep.RegionLawGrows
namespace Go.Proofs.Yteflefmlicamlaa.Pk
open Go.RowKit
set_option linter.unusedVariables false
theorem OwnK.app_ {w : World} {B n k : Nat} {v : Value} {l r : List Ce} (hn : n = l.length) (hk : k = r.length) (h : w.ownsRow B 36 4 v (n + k) (ces l ++ ces r)) : OwnK w B v (l ++ r) := by
  unfold OwnK
  rw [ces_append, List.length_append, ← hn, ← hk]
  exact h
theorem appKs {ops : Array Oper} {rest : List Oper} {o : Oper} {a : Act} {Q : Exit → Act → World → Prop} (w : World) (hgd : o.guard = none) (s x : Operand)
    (ho : o.op = .call { callee := .builtin .append, args := #[s, x], argTypes := #[22, 22] }) (B : Nat) (v : Value) (l : List Ce) (hs : a.eval s = v) (hown : OwnK w B v l)
    (B' : Nat) (A : Option Addr) (c : Nat) (r : List Ce) (n : Nat) (hx : a.eval x = .slice A n c) (hr : Reads w B' 4 A n (ces r)) (hlen : (l.length + n) * 32 ≤ 140737488355328) (hB : B ≤ w.heap.size)
    (h : ∀ v' w', OwnK w' B v' (l ++ r) → Below B w w' → (v'.ownBlock = v.ownBlock ∨ v'.ownBlock = some w.heap.size) → w.grownBy w' v.ownBlock → wpList Try.prog ops Q rest (a.put o.dst v') w') : wpList Try.prog ops Q (o :: rest) a w := by
  obtain ⟨i0, hi0, hz0, hz1, hz2⟩ := info_parts cell_info
  have hnr : n = r.length := hr.klen.symm
  refine wpList_append_any _ hgd s x _ ho B 36 i0 _ 4 32 Try.underlying22 hi0 hz0 hz1 hz2 rfl (by omega) v l.length (ces l) hs hown B' A n c (ces r) hx hr (ces_one r)
    (by unfold maxLen; omega) (by omega) hB ?_
  intro v' w' ho hg hat
  exact h v' w' (OwnK.app_ rfl hnr ho) ((Below.refl _ _).grown hg hB (ownK_base hown)) hat hg
theorem OwnK.fresh (w : World) (B : Nat) (hB : B ≤ w.heap.size) : OwnK (w.alloc (.cells #[] 36)) B (.slice (some ⟨w.heap.size, 0, none⟩) 0 0) [] :=
  ⟨rfl, .inr ⟨w.heap.size, 0, #[], rfl, hB, heap_alloc_new w _, Nat.le_refl _, by unfold maxLen; omega, rfl, rfl⟩⟩
/-- Cells of any list behind an empty literal. -/
theorem appKE {ops : Array Oper} {rest : List Oper} {o : Oper} {a : Act} {Q : Exit → Act → World → Prop} (w : World) (hgd : o.guard = none) (s x : Operand)
    (ho : o.op = .call { callee := .builtin .append, args := #[s, x], argTypes := #[22, 22] }) (B : Nat) (hs : a.eval s = .slice (some ⟨w.heap.size, 0, none⟩) 0 0)
    (B' : Nat) (A : Option Addr) (c : Nat) (r : List Ce) (n : Nat) (hx : a.eval x = .slice A n c) (hr : Reads w B' 4 A n (ces r)) (hB' : B' ≤ w.heap.size) (hlen : n * 32 ≤ 140737488355328) (hB : B ≤ w.heap.size)
    (h : ∀ v' w', OwnK w' B v' r → Below B w w' → wpList Try.prog ops Q rest (a.put o.dst v') w') : wpList Try.prog ops Q (o :: rest) a (w.alloc (.cells #[] 36)) := by
  refine appKs _ hgd s x ho B _ [] hs (OwnK.fresh w B hB) B' A c r n hx (hr.alloc hB' _) (by simp; omega) (by simp; omega) ?_
  intro v' w' ho' hb' _ _
  exact h v' w' (by simpa using ho') (((Below.refl _ _).alloc hB _).trans hb')
/-- Cells of any list behind those that are owned, as one step of a region. -/
theorem stepK {ops : Array Oper} {o : Oper} {a : Act} {K : Act → World → Prop} {Q : Exit → Act → World → Prop} {E : Prop} (w : World) (hgd : o.guard = none) (s x : Operand)
    (ho : o.op = .call { callee := .builtin .append, args := #[s, x], argTypes := #[22, 22] }) (B : Nat) (v : Value) (l : List Ce) (hs : a.eval s = v) (hown : OwnK w B v l)
    (B' : Nat) (A : Option Addr) (c : Nat) (r : List Ce) (n : Nat) (hx : a.eval x = .slice A n c) (hr : Reads w B' 4 A n (ces r)) (hlen : (l.length + n) * 32 ≤ 140737488355328) (hB : B ≤ w.heap.size)
    (h : ∀ A' n' c' w', OwnK w' B (.slice A' n' c') (l ++ r) → w.grownBy w' v.ownBlock → ((Value.slice A' n' c').ownBlock = v.ownBlock ∨ (Value.slice A' n' c').ownBlock = some w.heap.size) → K (a.put o.dst (.slice A' n' c')) w') :
    if Region.wanted o (yielded ops a.tmps) = true then Oper.wp Try.prog o a w K Q else E := by
  obtain ⟨i0, hi0, hz0, hz1, hz2⟩ := info_parts cell_info
  have hnr : n = r.length := hr.klen.symm
  refine step_append_any (P := Try.prog) w hgd s x _ ho B 36 i0 _ 4 32 Try.underlying22 hi0 hz0 hz1 hz2 rfl (by omega) v l.length (ces l) hs hown B' A n c (ces r) hx hr (ces_one r)
    (by unfold maxLen; omega) (by omega) hB ?_
  intro v' w' ho hg hat
  have hv := OwnK.app_ rfl hnr ho
  obtain ⟨A', n', c', rfl⟩ := ownK_slice hv
  exact h A' n' c' w' hv hg hat
/-- Bytes behind an empty literal, as one step of a region. -/
theorem stepKE {ops : Array Oper} {o : Oper} {a : Act} {K : Act → World → Prop} {Q : Exit → Act → World → Prop} {E : Prop} (w : World) (k : Nat) (hgd : o.guard = none) (s x : Operand)
    (ho : o.op = .call { callee := .builtin .append, args := #[s, x], argTypes := #[22, 22] }) (hs : a.eval s = .slice (some ⟨k, 0, none⟩) 0 0) (hk : OwnK w k (.slice (some ⟨k, 0, none⟩) 0 0) [])
    (B' : Nat) (A : Option Addr) (c : Nat) (r : List Ce) (n : Nat) (hx : a.eval x = .slice A n c) (hr : Reads w B' 4 A n (ces r)) (hlen : n * 32 ≤ 140737488355328) (hB : k ≤ w.heap.size)
    (h : ∀ A' n' c' w', OwnK w' k (.slice A' n' c') r → Below k w w' → K (a.put o.dst (.slice A' n' c')) w') :
    if Region.wanted o (yielded ops a.tmps) = true then Oper.wp Try.prog o a w K Q else E := by
  refine stepK w hgd s x ho k _ [] hs hk B' A c r n hx hr (by simp; omega) hB ?_
  intro A' n' c' w' hown hg hat
  exact h A' n' c' w' (by simpa using hown) ((Below.refl _ _).grown hg hB (ownK_base hk))
theorem below_drew_allocK (w : World) (o : Obj) : Below w.heap.size w (w.drew.alloc o) := (⟨rfl, rfl, rfl, Nat.le_refl _, fun _ _ => rfl⟩ : Below w.heap.size w w.drew).alloc (Nat.le_refl _) o
theorem below_setK {B : Nat} {w V : World} (h : Below B w V) {x : Nat} (hx : B ≤ x) (o : Nat) (u : Value) : Below B w (V.setCell ⟨x, o, none⟩ u) := h.setCell (p := ⟨x, o, none⟩) hx u
theorem reads_cell (w : World) (T : TypeId) (m : Ce) : Reads (w.alloc (.cells #[.int .i64 m.n, .int .i64 m.s, .int .i64 m.d, .int .i64 m.x] T)) (w.heap.size + 1) 4 (some ⟨w.heap.size, 0, none⟩) 1 (ces [m]) := by
  refine ⟨rfl, fun _ => ⟨_, rfl, by simp, fun j u hj => ?_⟩⟩
  match j, hj with
  | 0, hj => simp [ces, Ce.cells] at hj; subst hj; simp [Addr.add]
  | 1, hj => simp [ces, Ce.cells] at hj; subst hj; simp [Addr.add]
  | 2, hj => simp [ces, Ce.cells] at hj; subst hj; simp [Addr.add]
  | 3, hj => simp [ces, Ce.cells] at hj; subst hj; simp [Addr.add]
  | j + 4, hj => simp [ces, Ce.cells] at hj
theorem reads_blkK {w : World} {g : Nat} {T : TypeId} {m : Ce} (h : Blk w g T #[.int .i64 m.n, .int .i64 m.s, .int .i64 m.d, .int .i64 m.x]) : Reads w (g + 1) 4 (some ⟨g, 0, none⟩) 1 (ces [m]) := by
  refine ⟨rfl, fun _ => ⟨_, rfl, by simp, fun j u hj => ?_⟩⟩
  match j, hj with
  | 0, hj => simp [ces, Ce.cells] at hj; subst hj; exact h.cell 0
  | 1, hj => simp [ces, Ce.cells] at hj; subst hj; exact h.cell 1
  | 2, hj => simp [ces, Ce.cells] at hj; subst hj; exact h.cell 2
  | 3, hj => simp [ces, Ce.cells] at hj; subst hj; exact h.cell 3
  | j + 4, hj => simp [ces, Ce.cells] at hj
theorem below_drewK {B : Nat} {w w' : World} (h : Below B w w') (n : Nat) : Below B w (w'.drewN n) := ⟨h.os, h.tape, h.output, h.size, h.block⟩
/-- A list of cells that is handed over. -/
structure InK (w : World) (l : List Ce) (A : Option Addr) (n c : Nat) : Prop where
  rd : Reads w w.heap.size 4 A n (ces l)
  cap : n ≤ c
  few : n ≤ 4398046511000
  i : ∀ m ∈ l, m.I
theorem InK.len {w : World} {l : List Ce} {A : Option Addr} {n c : Nat} (h : InK w l A n c) : l.length = n := h.rd.klen
theorem InK.next {w w' : World} {l : List Ce} {A : Option Addr} {n c : Nat} (h : InK w l A n c) (hb : Below w.heap.size w w') : InK w' l A n c := ⟨(h.rd.below hb).more hb.size, h.cap, h.few, h.i⟩
end Go.Proofs.Yteflefmlicamlaa.Pk
