/- Messages of any list behind messages of one's own; behind an empty literal. -/
import Derived.Test.YtneijohbmphheaaMgOwn
import Derived.Deep.AppendLies
import Derived.Deep.RegionLaw
import Derived.Deep.RegionLawGrows
namespace Go.Proofs.Ytneijohbmphheaa.Pk
open Go.RowKit
set_option linter.unusedVariables false
theorem OwnG.app_ {w : World} {B n k : Nat} {v : Value} {l r : List Mg} (hn : n = l.length) (hk : k = r.length) (h : w.ownsRow B 26 5 v (n + k) (mgs l ++ mgs r)) : OwnG w B v (l ++ r) := by
  unfold OwnG
  rw [mgs_append, List.length_append, ← hn, ← hk]
  exact h
theorem appM {ops : Array Oper} {rest : List Oper} {o : Oper} {a : Act} {Q : Exit → Act → World → Prop} (w : World) (hgd : o.guard = none) (s x : Operand)
    (ho : o.op = .call { callee := .builtin .append, args := #[s, x], argTypes := #[22, 22] }) (B : Nat) (v : Value) (l : List Mg) (hs : a.eval s = v) (hown : OwnG w B v l)
    (B' : Nat) (A : Option Addr) (c : Nat) (r : List Mg) (n : Nat) (hx : a.eval x = .slice A n c) (hr : Reads w B' 5 A n (mgs r)) (hlen : (l.length + n) * 40 ≤ 140737488355328) (hB : B ≤ w.heap.size)
    (h : ∀ v' w', OwnG w' B v' (l ++ r) → Below B w w' → (v'.ownBlock = v.ownBlock ∨ v'.ownBlock = some w.heap.size) → w.grownBy w' v.ownBlock → wpList Try.prog ops Q rest (a.put o.dst v') w') : wpList Try.prog ops Q (o :: rest) a w := by
  obtain ⟨i0, hi0, hz0, hz1, hz2⟩ := info_parts msg_info
  have hnr : n = r.length := hr.mlen.symm
  refine wpList_append_any _ hgd s x _ ho B 26 i0 _ 5 40 Try.underlying22 hi0 hz0 hz1 hz2 rfl (by omega) v l.length (mgs l) hs hown B' A n c (mgs r) hx hr (mgs_one r)
    (by unfold maxLen; omega) (by omega) hB ?_
  intro v' w' ho hg hat
  exact h v' w' (OwnG.app_ rfl hnr ho) ((Below.refl _ _).grown hg hB (ownG_base hown)) hat hg
theorem OwnG.fresh (w : World) (B : Nat) (hB : B ≤ w.heap.size) : OwnG (w.alloc (.cells #[] 26)) B (.slice (some ⟨w.heap.size, 0, none⟩) 0 0) [] :=
  ⟨rfl, .inr ⟨w.heap.size, 0, #[], rfl, hB, heap_alloc_new w _, Nat.le_refl _, by unfold maxLen; omega, rfl, rfl⟩⟩
/-- Messages of any list behind an empty literal. -/
theorem appME {ops : Array Oper} {rest : List Oper} {o : Oper} {a : Act} {Q : Exit → Act → World → Prop} (w : World) (hgd : o.guard = none) (s x : Operand)
    (ho : o.op = .call { callee := .builtin .append, args := #[s, x], argTypes := #[22, 22] }) (B : Nat) (hs : a.eval s = .slice (some ⟨w.heap.size, 0, none⟩) 0 0)
    (B' : Nat) (A : Option Addr) (c : Nat) (r : List Mg) (n : Nat) (hx : a.eval x = .slice A n c) (hr : Reads w B' 5 A n (mgs r)) (hB' : B' ≤ w.heap.size) (hlen : n * 40 ≤ 140737488355328) (hB : B ≤ w.heap.size)
    (h : ∀ v' w', OwnG w' B v' r → Below B w w' → wpList Try.prog ops Q rest (a.put o.dst v') w') : wpList Try.prog ops Q (o :: rest) a (w.alloc (.cells #[] 26)) := by
  refine appM _ hgd s x ho B _ [] hs (OwnG.fresh w B hB) B' A c r n hx (hr.alloc hB' _) (by simp; omega) (by simp; omega) ?_
  intro v' w' ho' hb' _ _
  exact h v' w' (by simpa using ho') (((Below.refl _ _).alloc hB _).trans hb')
/-- Messages of any list behind those that are owned, as one step of a region. -/
theorem stepM {ops : Array Oper} {o : Oper} {a : Act} {K : Act → World → Prop} {Q : Exit → Act → World → Prop} {E : Prop} (w : World) (hgd : o.guard = none) (s x : Operand)
    (ho : o.op = .call { callee := .builtin .append, args := #[s, x], argTypes := #[22, 22] }) (B : Nat) (v : Value) (l : List Mg) (hs : a.eval s = v) (hown : OwnG w B v l)
    (B' : Nat) (A : Option Addr) (c : Nat) (r : List Mg) (n : Nat) (hx : a.eval x = .slice A n c) (hr : Reads w B' 5 A n (mgs r)) (hlen : (l.length + n) * 40 ≤ 140737488355328) (hB : B ≤ w.heap.size)
    (h : ∀ A' n' c' w', OwnG w' B (.slice A' n' c') (l ++ r) → w.grownBy w' v.ownBlock → ((Value.slice A' n' c').ownBlock = v.ownBlock ∨ (Value.slice A' n' c').ownBlock = some w.heap.size) → K (a.put o.dst (.slice A' n' c')) w') :
    if Region.wanted o (yielded ops a.tmps) = true then Oper.wp Try.prog o a w K Q else E := by
  obtain ⟨i0, hi0, hz0, hz1, hz2⟩ := info_parts msg_info
  have hnr : n = r.length := hr.mlen.symm
  refine step_append_any (P := Try.prog) w hgd s x _ ho B 26 i0 _ 5 40 Try.underlying22 hi0 hz0 hz1 hz2 rfl (by omega) v l.length (mgs l) hs hown B' A n c (mgs r) hx hr (mgs_one r)
    (by unfold maxLen; omega) (by omega) hB ?_
  intro v' w' ho hg hat
  have hv := OwnG.app_ rfl hnr ho
  obtain ⟨A', n', c', rfl⟩ := ownG_slice hv
  exact h A' n' c' w' hv hg hat
/-- Bytes behind an empty literal, as one step of a region. -/
theorem stepME {ops : Array Oper} {o : Oper} {a : Act} {K : Act → World → Prop} {Q : Exit → Act → World → Prop} {E : Prop} (w : World) (k : Nat) (hgd : o.guard = none) (s x : Operand)
    (ho : o.op = .call { callee := .builtin .append, args := #[s, x], argTypes := #[22, 22] }) (hs : a.eval s = .slice (some ⟨k, 0, none⟩) 0 0) (hk : OwnG w k (.slice (some ⟨k, 0, none⟩) 0 0) [])
    (B' : Nat) (A : Option Addr) (c : Nat) (r : List Mg) (n : Nat) (hx : a.eval x = .slice A n c) (hr : Reads w B' 5 A n (mgs r)) (hlen : n * 40 ≤ 140737488355328) (hB : k ≤ w.heap.size)
    (h : ∀ A' n' c' w', OwnG w' k (.slice A' n' c') r → Below k w w' → K (a.put o.dst (.slice A' n' c')) w') :
    if Region.wanted o (yielded ops a.tmps) = true then Oper.wp Try.prog o a w K Q else E := by
  refine stepM w hgd s x ho k _ [] hs hk B' A c r n hx hr (by simp; omega) hB ?_
  intro A' n' c' w' hown hg hat
  exact h A' n' c' w' (by simpa using hown) ((Below.refl _ _).grown hg hB (ownG_base hk))
theorem below_drew_allocG (w : World) (o : Obj) : Below w.heap.size w (w.drew.alloc o) := (⟨rfl, rfl, rfl, Nat.le_refl _, fun _ _ => rfl⟩ : Below w.heap.size w w.drew).alloc (Nat.le_refl _) o
theorem below_setG {B : Nat} {w V : World} (h : Below B w V) {x : Nat} (hx : B ≤ x) (o : Nat) (u : Value) : Below B w (V.setCell ⟨x, o, none⟩ u) := h.setCell (p := ⟨x, o, none⟩) hx u
theorem reads_msg (w : World) (T : TypeId) (m : Mg) : Reads (w.alloc (.cells #[.int .i64 m.k, .int .i64 m.o, .int .i64 m.n, .int .i64 m.u, .int .i64 m.v] T)) (w.heap.size + 1) 5 (some ⟨w.heap.size, 0, none⟩) 1 (mgs [m]) := by
  refine ⟨rfl, fun _ => ⟨_, rfl, by simp, fun j u hj => ?_⟩⟩
  match j, hj with
  | 0, hj => simp [mgs, Mg.cells] at hj; subst hj; simp [Addr.add]
  | 1, hj => simp [mgs, Mg.cells] at hj; subst hj; simp [Addr.add]
  | 2, hj => simp [mgs, Mg.cells] at hj; subst hj; simp [Addr.add]
  | 3, hj => simp [mgs, Mg.cells] at hj; subst hj; simp [Addr.add]
  | 4, hj => simp [mgs, Mg.cells] at hj; subst hj; simp [Addr.add]
  | j + 5, hj => simp [mgs, Mg.cells] at hj
theorem reads_blkM {w : World} {g : Nat} {T : TypeId} {m : Mg} (h : Blk w g T #[.int .i64 m.k, .int .i64 m.o, .int .i64 m.n, .int .i64 m.u, .int .i64 m.v]) : Reads w (g + 1) 5 (some ⟨g, 0, none⟩) 1 (mgs [m]) := by
  refine ⟨rfl, fun _ => ⟨_, rfl, by simp, fun j u hj => ?_⟩⟩
  match j, hj with
  | 0, hj => simp [mgs, Mg.cells] at hj; subst hj; exact h.cell 0
  | 1, hj => simp [mgs, Mg.cells] at hj; subst hj; exact h.cell 1
  | 2, hj => simp [mgs, Mg.cells] at hj; subst hj; exact h.cell 2
  | 3, hj => simp [mgs, Mg.cells] at hj; subst hj; exact h.cell 3
  | 4, hj => simp [mgs, Mg.cells] at hj; subst hj; exact h.cell 4
  | j + 5, hj => simp [mgs, Mg.cells] at hj
theorem below_drewG {B : Nat} {w w' : World} (h : Below B w w') (n : Nat) : Below B w (w'.drewN n) := ⟨h.os, h.tape, h.output, h.size, h.block⟩
end Go.Proofs.Ytneijohbmphheaa.Pk
