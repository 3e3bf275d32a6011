/- Bytes of the call's own: what owns them, and how they are appended to. -/
import Derived.Test.YtcjfammfplcigaaWords
import Derived.Test.YtcjfammfplcigaaProg
namespace Go.Proofs.Ytcjfammfplcigaa.Pk
open Go.RowKit
set_option linter.unusedVariables false

theorem u8_info : (Try.prog.info? 5).map (fun i => (i.zero, i.size, i.bytes)) = some (some (.int .u8 0), 1, 1) := by kernel_rfl

theorem own_base {w : World} {base : Nat} {e : TypeId} {size n : Nat} {v : Value} {xs : List Value} (h : w.ownsRow base e size v n xs) : ∀ k, v.ownBlock = some k → base ≤ k := by
  intro k hk
  rcases h.2 with ⟨rfl, _⟩ | ⟨g, cap, cur, rfl, hb, _⟩
  · simp [Value.ownBlock] at hk
  · simp [Value.ownBlock] at hk; omega

/-- The value owns the bytes l, in new memory from block B on. -/
def OwnB (w : World) (B : Nat) (v : Value) (l : List Int) : Prop := w.ownsRow B 5 1 v l.length (bts l)
theorem OwnB.of {w : World} {B n k : Nat} {v : Value} {l r : List Int} {xs : List Value} (h : w.ownsRow B 5 1 v n xs) (e : xs = bts l) : OwnB w B v l := by
  subst e
  have h1 := h.1
  simp at h1
  unfold OwnB
  rw [h1]; exact h
theorem OwnB.app {w : World} {B n k : Nat} {v : Value} {l r : List Int} (h : w.ownsRow B 5 1 v (n + k) (bts l ++ bts r)) : OwnB w B v (l ++ r) :=
  OwnB.of (k := 0) (r := []) h (bts_append l r)

theorem OwnB.alloc {w : World} {B : Nat} {v : Value} {l : List Int} (h : OwnB w B v l) (o : Obj) : OwnB (w.alloc o) B v l := World.ownsRow.alloc h o
theorem OwnB.keep {w w' : World} {B B' : Nat} {v : Value} {l : List Int} (h : OwnB w B v l) (hb : Below B' w w') (hB' : w.heap.size ≤ B') : OwnB w' B v l := by
  obtain ⟨h1, h2⟩ := h
  refine ⟨h1, ?_⟩
  rcases h2 with h2 | ⟨g, cap, cur, e, hg, hh, hr⟩
  · exact .inl h2
  · refine .inr ⟨g, cap, cur, e, hg, ?_, hr⟩
    have hlt : g < w.heap.size := by
      rcases Nat.lt_or_ge g w.heap.size with hlt | hge
      · exact hlt
      · rw [Array.getElem?_eq_none hge] at hh; cases hh
    rw [hb.block g (by omega)]; exact hh
theorem OwnB.mono {w : World} {B B' : Nat} {v : Value} {l : List Int} (h : OwnB w B v l) (hB : B' ≤ B) : OwnB w B' v l := by
  obtain ⟨h1, h2⟩ := h
  refine ⟨h1, ?_⟩
  rcases h2 with h2 | ⟨g, cap, cur, e, hg, hr⟩
  · exact .inl h2
  · exact .inr ⟨g, cap, cur, e, by omega, hr⟩

theorem below_drewN {B : Nat} {a w : World} (h : Below B a w) (n : Nat) : Below B a (w.drewN n) := ⟨h.os, h.tape, h.output, h.size, h.block⟩
theorem OwnB.reads {w : World} {B : Nat} {v : Value} {l : List Int} (h : OwnB w B v l) : ∃ A c, v = .slice A l.length c ∧ l.length ≤ c ∧ Reads w w.heap.size 1 A l.length (bts l) := reads_own h
/-- A slice value that reads as the bytes l. -/
def ValB (w : World) (v : Value) (l : List Int) : Prop := ∃ A n c, v = .slice A n c ∧ n ≤ c ∧ l.length = n ∧ Reads w w.heap.size 1 A n (bts l)
theorem OwnB.val {w : World} {B : Nat} {v : Value} {l : List Int} (h : OwnB w B v l) : ValB w v l := by
  obtain ⟨A, c, rfl, hc, hr⟩ := h.reads
  exact ⟨A, _, c, rfl, hc, rfl, hr⟩

/-- One byte more, out of a new box. -/
theorem app1 {ops : Array Oper} {rest : List Oper} {o : Oper} {a : Act} {Q : Exit → Act → World → Prop} (w : World) (y : Int) (T : TypeId) (hgd : o.guard = none) (s x : Operand)
    (ho : o.op = .call { callee := .builtin .append, args := #[s, x], argTypes := #[31, 31] }) (B : Nat) (v : Value) (l : List Int) (hs : a.eval s = v) (hown : OwnB w B v l)
    (hx : a.eval x = .slice (some ⟨w.heap.size, 0, none⟩) 1 1) (hlen : l.length + 1 ≤ 140737488355328) (hB : B ≤ w.heap.size)
    (h : ∀ v' w', OwnB w' B v' (l ++ [y]) → Below B w w' → wpList Try.prog ops Q rest (a.put o.dst v') w') : wpList Try.prog ops Q (o :: rest) a (w.alloc (.cells #[.int .u8 y] T)) := by
  obtain ⟨i0, hi0, hz0, hz1, hz2⟩ := info_parts u8_info
  refine wpList_append_own _ hgd s x _ ho B 5 i0 _ 1 1 Try.underlying31 hi0 hz0 hz1 hz2 rfl (by omega) v l.length (bts l) hs (World.ownsRow.alloc hown _) ⟨w.heap.size, 0, none⟩ 1 1 (bts [y]) hx rfl ?_ (bts_one [y])
    (by unfold maxLen; omega) (by omega) (by simp; omega) ?_
  · intro j u hj
    match j, hj with
    | 0, hj => simp [bts] at hj; subst hj; simp [Addr.add]
    | j + 1, hj => simp [bts] at hj
  · intro v' w' ho hg _
    exact h v' w' (OwnB.app ho) (((Below.refl _ _).alloc hB _).grown hg (by simp; omega) (own_base hown))

/-- Bytes of any slice behind those of the call's own. -/
theorem appB {ops : Array Oper} {rest : List Oper} {o : Oper} {a : Act} {Q : Exit → Act → World → Prop} (w : World) (hgd : o.guard = none) (s x : Operand)
    (ho : o.op = .call { callee := .builtin .append, args := #[s, x], argTypes := #[31, 31] }) (B : Nat) (v : Value) (l : List Int) (hs : a.eval s = v) (hown : OwnB w B v l)
    (B' : Nat) (A : Option Addr) (c : Nat) (r : List Int) (n : Nat) (hx : a.eval x = .slice A n c) (hr : Reads w B' 1 A n (bts r)) (hlen : l.length + n ≤ 140737488355328) (hB : B ≤ w.heap.size)
    (h : ∀ v' w', OwnB w' B v' (l ++ r) → Below B w w' → (v'.ownBlock = v.ownBlock ∨ v'.ownBlock = some w.heap.size) → w.grownBy w' v.ownBlock → wpList Try.prog ops Q rest (a.put o.dst v') w') : wpList Try.prog ops Q (o :: rest) a w := by
  obtain ⟨i0, hi0, hz0, hz1, hz2⟩ := info_parts u8_info
  refine wpList_append_any _ hgd s x _ ho B 5 i0 _ 1 1 Try.underlying31 hi0 hz0 hz1 hz2 rfl (by omega) v l.length (bts l) hs hown B' A n c (bts r) hx hr (bts_one r)
    (by unfold maxLen; omega) (by omega) hB ?_
  intro v' w' ho hg hat
  exact h v' w' (OwnB.app ho) ((Below.refl _ _).grown hg hB (own_base hown)) hat hg

theorem OwnB.fresh (w : World) (B : Nat) (hB : B ≤ w.heap.size) : OwnB (w.alloc (.cells #[] 5)) B (.slice (some ⟨w.heap.size, 0, none⟩) 0 0) [] :=
  ⟨rfl, .inr ⟨w.heap.size, 0, #[], rfl, hB, heap_alloc_new w _, Nat.le_refl _, by unfold maxLen; omega, rfl, rfl⟩⟩

/-- Bytes of any slice behind an empty literal. -/
theorem appE {ops : Array Oper} {rest : List Oper} {o : Oper} {a : Act} {Q : Exit → Act → World → Prop} (w : World) (hgd : o.guard = none) (s x : Operand)
    (ho : o.op = .call { callee := .builtin .append, args := #[s, x], argTypes := #[31, 31] }) (B : Nat) (hs : a.eval s = .slice (some ⟨w.heap.size, 0, none⟩) 0 0)
    (B' : Nat) (A : Option Addr) (c : Nat) (r : List Int) (n : Nat) (hx : a.eval x = .slice A n c) (hr : Reads w B' 1 A n (bts r)) (hB' : B' ≤ w.heap.size) (hlen : n ≤ 140737488355328) (hB : B ≤ w.heap.size)
    (h : ∀ v' w', OwnB w' B v' r → Below B w w' → wpList Try.prog ops Q rest (a.put o.dst v') w') : wpList Try.prog ops Q (o :: rest) a (w.alloc (.cells #[] 5)) := by
  refine appB _ hgd s x ho B _ [] hs (OwnB.fresh w B hB) B' A c r n hx (hr.alloc hB' _) (by simp; omega) (by simp; omega) ?_
  intro v' w' ho' hb' _ _
  exact h v' w' (by simpa using ho') (((Below.refl _ _).alloc hB _).trans hb')

theorem run_append_zero {P : Program} (w : World) (t ty e : TypeId) (i : TypeInfo) (ht : P.underlying t = some (.slice e)) (hi : P.info? e = some i) (A A' : Option Addr) (n c c' : Nat) (hnc : n ≤ c) :
    (Builtin.append_ #[t, t] ty #[.slice A n c, .slice A' 0 c']).run P w = .ok (.slice A n c) w := by
  cases A <;> cases A' <;> simp [Builtin.append_, run_underlying ht, sizeOf, typeInfo, hi, Builtin.lenOf, Builtin.firstCells, hnc, storeCells, loadCells, loadCellsFrom]

set_option maxRecDepth 100000 in
/-- Bytes of any slice behind a slice without room. -/
theorem appCut {ops : Array Oper} {rest : List Oper} {o : Oper} {a : Act} {Q : Exit → Act → World → Prop} (w : World) (hgd : o.guard = none) (s x : Operand)
    (ho : o.op = .call { callee := .builtin .append, args := #[s, x], argTypes := #[31, 31] }) (B : Nat) (A : Option Addr) (n : Nat) (l : List Int) (hs : a.eval s = .slice A n n) (hl : Reads w B 1 A n (bts l)) (hnil : A = none → n = 0)
    (B' : Nat) (A' : Option Addr) (m c : Nat) (r : List Int) (hx : a.eval x = .slice A' m c) (hr : Reads w B' 1 A' m (bts r)) (hlen : n + m ≤ 140737488355328) (hB : B ≤ w.heap.size)
    (h : ∀ v' w', ValB w' v' (l ++ r) → Below w.heap.size w w' → wpList Try.prog ops Q rest (a.put o.dst v') w') : wpList Try.prog ops Q (o :: rest) a w := by
  obtain ⟨i0, hi0, hz0, hz1, hz2⟩ := info_parts u8_info
  have hll : l.length = n := by have := hl.1; simp at this; exact this
  by_cases hm : m = 0
  · subst hm
    have hr0 : r = [] := by have := hr.1; simpa using this
    subst hr0
    refine wpList_plain hgd fun K hK => ?_
    have hrun := run_append_zero (P := Try.prog) w 31 o.type 5 i0 Try.underlying31 hi0 A A' n n c (Nat.le_refl _)
    unfold Oper.wp
    simp [execOp, ho, resolve, invoke, builtin, hs, hx, hrun, Result.andThen]
    exact hK _ _ (h _ _ ⟨A, n, n, rfl, Nat.le_refl _, by simpa using hll, by simpa using hl.more hB⟩ (Below.refl _ _))
  · obtain ⟨ad, rfl, _, hc⟩ := hr.2 (by omega)
    refine wpList_append_grows w hgd s x _ ho 5 i0 _ 1 1 Try.underlying31 hi0 hz0 hz1 hz2 rfl (by omega) A n n (bts l) hs (fun e => ⟨hnil e, hnil e⟩) hl.1 ?_ ad m c (bts r) hx hr.1 hc (bts_one r) (by omega) (by unfold maxLen; omega) (by omega) ?_
    · intro b hb j u hu
      by_cases hn : 0 < n
      · obtain ⟨ad', e, _, hcell⟩ := hl.2 hn
        rw [hb] at e
        injection e with e
        subst e
        exact hcell j u hu
      · have : l = [] := List.length_eq_zero_iff.1 (by omega)
        subst this
        simp [bts] at hu
    · intro v' w' hown hg
      exact h v' w' (OwnB.val (OwnB.of (k := 0) (r := []) hown (bts_append l r))) ((Below.refl _ _).grown hg (Nat.le_refl _) (by simp))

/-- New memory for bytes. -/
theorem makeB {ops : Array Oper} {rest : List Oper} {o : Oper} {a : Act} {Q : Exit → Act → World → Prop} (w : World) (hg : o.guard = none) (l c : Operand) (hop : o.op = Op.makeSlice 31 l c)
    (B : Nat) (kl kc : IntKind) (C : Int) (n : Nat) (hl : a.eval l = .int kl 0) (hc : a.eval c = .int kc C) (hC : C = (n : Int)) (b2 : n ≤ 281474976710656) (b4 : B ≤ w.heap.size)
    (hK : ∀ w', OwnB w' B (.slice (some ⟨w.heap.size, 0, none⟩) 0 n) [] → Below B w w' → wpList Try.prog ops Q rest (a.put o.dst (.slice (some ⟨w.heap.size, 0, none⟩) 0 n)) w') :
    wpList Try.prog ops Q (o :: rest) a w := by
  obtain ⟨i0, hi0, hz0, hz1, hz2⟩ := info_parts u8_info
  exact wpList_make_own w hg l c _ hop B 5 i0 _ 1 Try.underlying31 hi0 hz0 hz1 kl kc C n hl hc hC (by rw [hz2]; omega) (by unfold maxLen; omega) b4 (fun w' ho hg => hK w' ho ((Below.refl _ _).grown hg b4 (by simp)))
end Go.Proofs.Ytcjfammfplcigaa.Pk
