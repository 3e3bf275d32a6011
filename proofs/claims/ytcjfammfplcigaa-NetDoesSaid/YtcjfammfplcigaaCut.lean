/- Owned bytes, slices of slices, appends as steps of a region: what many packages lean on. -/
import Derived.Test.YtcjfammfplcigaaBytes
import Derived.Deep.RegionLaw
import Derived.Deep.RegionLawGrows
namespace Go.Proofs.Ytcjfammfplcigaa.Pk
open Go.RowKit
set_option linter.unusedVariables false

theorem own_slice {w : World} {B : Nat} {v : Value} {l : List Int} (h : OwnB w B v l) : ∃ A n c, v = .slice A n c := by
  obtain ⟨A, c, rfl, _, _⟩ := h.reads
  exact ⟨A, _, c, rfl⟩
theorem own_len {w : World} {B : Nat} {A : Option Addr} {n c : Nat} {l : List Int} (h : OwnB w B (.slice A n c) l) : l.length = n ∧ n ≤ c := by
  obtain ⟨A', c', e, hc, _⟩ := h.reads
  injection e with e1 e2 e3
  omega
theorem own_reads {w : World} {B : Nat} {A : Option Addr} {n c : Nat} {l : List Int} (h : OwnB w B (.slice A n c) l) : Reads w w.heap.size 1 A n (bts l) := by
  obtain ⟨A', c', e, _, hr⟩ := h.reads
  have := (own_len h).1
  injection e with e1 e2 e3
  rw [e1]; rw [this] at hr; exact hr
theorem OwnB.lit {w : World} {B : Nat} {cs : Array Value} {l : List Int} (h : cs.toList = bts l) (hB : B ≤ w.heap.size) (hl : l.length ≤ 1048576) : OwnB (w.alloc (.cells cs 5)) B (.slice (some ⟨w.heap.size, 0, none⟩) l.length l.length) l := by
  have hs : cs.size = l.length := by rw [← Array.length_toList, h]; simp
  refine ⟨by simp, .inr ⟨w.heap.size, l.length, cs, by rfl, hB, heap_alloc_new w _, Nat.le_refl _, by unfold maxLen; omega, by omega, ?_⟩⟩
  rw [h, List.take_of_length_le (by simp)]
def cutA (a : Option Addr) (c k : Nat) : Option Addr := if c = k then a else a.map (·.add k)
theorem run_cut1 {P : Program} {t e : TypeId} (ht : P.underlying t = some (.slice e)) (hi : (P.info? e).map (·.size) = some 1) (a : Option Addr) (n c i : Nat) (h1 : i ≤ n) (w : World) :
    (Instr.slice t (.slice a n c) (some (.int .i64 (i : Int))) none none).run P w = .ok (.slice (cutA a c i) (n - i) (c - i)) w := by
  obtain ⟨f, hi1, hi2⟩ := Option.map_eq_some_iff.1 hi
  simp [Instr.slice, run_underlying ht, go_sem, Instr.sliceBounds, sizeOf, typeInfo, hi1, hi2, cutA, h1]
theorem run_cut2 {P : Program} {t e : TypeId} (ht : P.underlying t = some (.slice e)) (hi : (P.info? e).map (·.size) = some 1) (a : Option Addr) (n c i j : Nat) (h1 : i ≤ j) (h2 : j ≤ c) (w : World) :
    (Instr.slice t (.slice a n c) (some (.int .i64 (i : Int))) (some (.int .i64 (j : Int))) none).run P w = .ok (.slice (cutA a c i) (j - i) (c - i)) w := by
  obtain ⟨f, hi1, hi2⟩ := Option.map_eq_some_iff.1 hi
  have e1 : (0 : Int) ≤ (i : Int) := by omega
  have e2 : (i : Int) ≤ (j : Int) := by omega
  have e3 : (0 : Int) ≤ (j : Int) := by omega
  have e4 : (j : Int) ≤ (c : Int) := by omega
  simp [Instr.slice, run_underlying ht, go_sem, Instr.sliceBounds, sizeOf, typeInfo, hi1, hi2, cutA, h1, h2]
theorem run_cut3 {P : Program} {t e : TypeId} (ht : P.underlying t = some (.slice e)) (hi : (P.info? e).map (·.size) = some 1) (a : Option Addr) (n c j : Nat) (h2 : j ≤ c) (w : World) :
    (Instr.slice t (.slice a n c) none (some (.int .i64 (j : Int))) (some (.int .i64 (j : Int)))).run P w = .ok (.slice a j j) w := by
  obtain ⟨f, hi1, hi2⟩ := Option.map_eq_some_iff.1 hi
  have e3 : (0 : Int) ≤ (j : Int) := by omega
  have e4 : (j : Int) ≤ (c : Int) := by omega
  cases a <;> simp [Instr.slice, run_underlying ht, go_sem, Instr.sliceBounds, sizeOf, typeInfo, hi1, h2, Addr.add]
theorem reads_cut {w : World} {B n c i j : Nat} {a : Option Addr} {l : List Int} (h : Reads w B 1 a n (bts l)) (h1 : i ≤ j) (h2 : j ≤ n) (h3 : n ≤ c) : Reads w B 1 (cutA a c i) (j - i) (bts ((l.take j).drop i)) := by
  have := (h.take h2).cut (k := i) (cap := c) h1 (by omega)
  unfold bts at this ⊢
  rw [Nat.mul_one, ← List.map_drop] at this
  exact this
theorem run_head {P : Program} {t e : TypeId} (ht : P.underlying t = some (.slice e)) (hi : (P.info? e).map (·.size) = some 1) (a : Option Addr) (n c j : Nat) (h2 : j ≤ c) (w : World) :
    (Instr.slice t (.slice a n c) none (some (.int .i64 (j : Int))) none).run P w = .ok (.slice a j c) w := by
  obtain ⟨f, hi1, hi2⟩ := Option.map_eq_some_iff.1 hi
  have e3 : (0 : Int) ≤ (j : Int) := by omega
  have e4 : (j : Int) ≤ (c : Int) := by omega
  cases a <;> simp [Instr.slice, run_underlying ht, go_sem, Instr.sliceBounds, sizeOf, typeInfo, hi1, h2, Addr.add]
/-- A row with a mark behind it reads as what it was made of. -/
theorem reads_marked (w : World) (cs : Array Value) (T : TypeId) (f : Nat × Nat) (B n : Nat) (xs : List Value) (h : cs.toList = xs) (hn : xs.length = n) (hB : w.heap.size < B) : Reads (w.alloc (.cells cs T f)) B 1 (some ⟨w.heap.size, 0, none⟩) n xs := by
  subst h
  refine ⟨by rw [hn]; omega, fun _ => ⟨_, rfl, hB, fun j u hu => ?_⟩⟩
  have h0 : (w.alloc (.cells cs T f)).cell? ⟨w.heap.size, j, none⟩ = cs[j]? := cell_of_row _ _ j cs T f (heap_alloc_new w _)
  have e : (⟨w.heap.size, 0, none⟩ : Addr).add j = ⟨w.heap.size, j, none⟩ := by unfold Addr.add; by_cases hj : j = 0 <;> simp [hj]
  rw [e, h0]
  simpa using hu
theorem below_drew_alloc (w : World) (o : Obj) : Below w.heap.size w (w.drew.alloc o) := (⟨rfl, rfl, rfl, Nat.le_refl _, fun _ _ => rfl⟩ : Below w.heap.size w w.drew).alloc (Nat.le_refl _) o
/-- Bytes of any slice behind those that are owned, as one step of a region. -/
theorem stepB {ops : Array Oper} {o : Oper} {a : Act} {K : Act → World → Prop} {Q : Exit → Act → World → Prop} {E : Prop} (w : World) (hgd : o.guard = none) (s x : Operand)
    (ho : o.op = .call { callee := .builtin .append, args := #[s, x], argTypes := #[31, 31] }) (B : Nat) (v : Value) (l : List Int) (hs : a.eval s = v) (hown : OwnB w B v l)
    (B' : Nat) (A : Option Addr) (c : Nat) (r : List Int) (n : Nat) (hx : a.eval x = .slice A n c) (hr : Reads w B' 1 A n (bts r)) (hlen : l.length + n ≤ 140737488355328) (hB : B ≤ w.heap.size)
    (h : ∀ A' n' c' w', OwnB w' B (.slice A' n' c') (l ++ r) → w.grownBy w' v.ownBlock → ((Value.slice A' n' c').ownBlock = v.ownBlock ∨ (Value.slice A' n' c').ownBlock = some w.heap.size) → K (a.put o.dst (.slice A' n' c')) w') :
    if Region.wanted o (yielded ops a.tmps) = true then Oper.wp Try.prog o a w K Q else E := by
  obtain ⟨i0, hi0, hz0, hz1, hz2⟩ := info_parts u8_info
  refine step_append_any (P := Try.prog) w hgd s x _ ho B 5 i0 _ 1 1 Try.underlying31 hi0 hz0 hz1 hz2 rfl (by omega) v l.length (bts l) hs hown B' A n c (bts r) hx hr (bts_one r)
    (by unfold maxLen; omega) (by omega) hB ?_
  intro v' w' ho hg hat
  have hv := OwnB.app ho
  obtain ⟨A', n', c', rfl⟩ := own_slice hv
  exact h A' n' c' w' hv hg hat
/-- Bytes behind an empty literal, as one step of a region. -/
theorem stepE {ops : Array Oper} {o : Oper} {a : Act} {K : Act → World → Prop} {Q : Exit → Act → World → Prop} {E : Prop} (w : World) (k : Nat) (hgd : o.guard = none) (s x : Operand)
    (ho : o.op = .call { callee := .builtin .append, args := #[s, x], argTypes := #[31, 31] }) (hs : a.eval s = .slice (some ⟨k, 0, none⟩) 0 0) (hk : OwnB w k (.slice (some ⟨k, 0, none⟩) 0 0) [])
    (B' : Nat) (A : Option Addr) (c : Nat) (r : List Int) (n : Nat) (hx : a.eval x = .slice A n c) (hr : Reads w B' 1 A n (bts r)) (hlen : n ≤ 140737488355328) (hB : k ≤ w.heap.size)
    (h : ∀ A' n' c' w', OwnB w' k (.slice A' n' c') r → Below k w w' → K (a.put o.dst (.slice A' n' c')) w') :
    if Region.wanted o (yielded ops a.tmps) = true then Oper.wp Try.prog o a w K Q else E := by
  refine stepB w hgd s x ho k _ [] hs hk B' A c r n hx hr (by simp; omega) hB ?_
  intro A' n' c' w' hown hg hat
  exact h A' n' c' w' (by simpa using hown) ((Below.refl _ _).grown hg hB (own_base hk))
end Go.Proofs.Ytcjfammfplcigaa.Pk
