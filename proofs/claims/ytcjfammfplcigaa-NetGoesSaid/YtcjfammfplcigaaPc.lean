/- Lists of lists of bytes, of the call's own: how they grow. -/
import Derived.Test.YtcjfammfplcigaaBytes
import Derived.Test.YtcjfammfplcigaaCut
import Derived.Test.YtcjfammfplcigaaSets
namespace Go.Proofs.Ytcjfammfplcigaa.Pk
open Go.RowKit
set_option linter.unusedVariables false
/-- A slice of bytes, with the bytes that it reads as. -/
structure Piece where
  a : Option Addr
  n : Nat
  c : Nat
  l : List Int
def Piece.val (p : Piece) : Value := .slice p.a p.n p.c
def Piece.bytes (ps : List Piece) : List (List Int) := ps.map (·.l)
theorem sl_info : (Try.prog.info? 31).map (fun i => (i.zero, i.size, i.bytes)) = some (some (.slice none 0 0), 1, 24) := by kernel_rfl
/-- The value owns the pieces. -/
def OwnP (w : World) (B : Nat) (v : Value) (ps : List Piece) : Prop := w.ownsRow B 31 1 v ps.length (ps.map Piece.val)
theorem OwnP.none_ (w : World) (B : Nat) : OwnP w B (.slice none 0 0) [] := ⟨rfl, .inl ⟨rfl, rfl⟩⟩
theorem pieces_one (ps : List Piece) : ∀ u ∈ ps.map Piece.val, u.oneCell' = true := by
  intro u hu
  obtain ⟨x, _, rfl⟩ := List.mem_map.1 hu
  rfl
theorem own_ltP {w : World} {B n : Nat} {e : TypeId} {v : Value} {xs : List Value} (h : w.ownsRow B e 1 v n xs) : ∀ g, v.ownBlock = some g → g < w.heap.size := by
  intro g hg
  rcases h.2 with ⟨rfl, _⟩ | ⟨g', cap, cur, rfl, _, hh, _⟩
  · simp [Value.ownBlock] at hg
  · simp [Value.ownBlock] at hg
    subst hg
    rcases Nat.lt_or_ge g' w.heap.size with h' | h'
    · exact h'
    · rw [Array.getElem?_eq_none h'] at hh; cases hh
theorem OwnP.lt {w : World} {B : Nat} {v : Value} {ps : List Piece} (h : OwnP w B v ps) : ∀ g, v.ownBlock = some g → g < w.heap.size := own_ltP h
theorem OwnP.stay {w w' : World} {B : Nat} {v : Value} {ps : List Piece} (h : OwnP w B v ps) (hk : ∀ g, v.ownBlock = some g → w'.heap[g]? = w.heap[g]?) : OwnP w' B v ps := by
  obtain ⟨h1, h2⟩ := h
  refine ⟨h1, ?_⟩
  rcases h2 with h2 | ⟨g, cap, cur, rfl, hg, hh, hr⟩
  · exact .inl h2
  · exact .inr ⟨g, cap, cur, rfl, hg, (hk g rfl).trans hh, hr⟩
theorem OwnP.mono {w : World} {B B' : Nat} {v : Value} {ps : List Piece} (h : OwnP w B v ps) (hB : B' ≤ B) : OwnP w B' v ps := by
  obtain ⟨h1, h2⟩ := h
  refine ⟨h1, ?_⟩
  rcases h2 with h2 | ⟨g, cap, cur, e, hg, hr⟩
  · exact .inl h2
  · exact .inr ⟨g, cap, cur, e, by omega, hr⟩
theorem OwnP.reads {w : World} {B : Nat} {v : Value} {ps : List Piece} (h : OwnP w B v ps) : ∃ A c, v = .slice A ps.length c ∧ ps.length ≤ c ∧ Reads w w.heap.size 1 A ps.length (ps.map Piece.val) := reads_own h
theorem own_kind {w : World} {B : Nat} {v : Value} {e : TypeId} {n : Nat} {xs : List Value} (h : w.ownsRow B e 1 v n xs) : ∀ g, v.ownBlock = some g → ∃ cs, w.heap[g]? = some (.cells cs e (0, 0)) := by
  intro g hg
  rcases h.2 with ⟨rfl, _⟩ | ⟨g', cap, cur, rfl, _, hh, _⟩
  · simp [Value.ownBlock] at hg
  · simp [Value.ownBlock] at hg
    subst hg
    exact ⟨cur, hh⟩
theorem kinds_ne {w : World} {B B' : Nat} {v v' : Value} {e e' : TypeId} {n n' : Nat} {xs xs' : List Value} (h : w.ownsRow B e 1 v n xs) (h' : w.ownsRow B' e' 1 v' n' xs') (hne : e ≠ e') : ∀ g, v.ownBlock = some g → v'.ownBlock = some g → False := fun g h1 h2 => by
  obtain ⟨c1, e1⟩ := own_kind h g h1
  obtain ⟨c2, e2⟩ := own_kind h' g h2
  rw [e1] at e2
  injection e2 with e2
  injection e2 with _ e2 _
  exact hne e2
theorem u8_ne_sl : 5 ≠ 31 := by decide
/-- Pieces of any slice behind those of the call's own. -/
theorem appP {ops : Array Oper} {rest : List Oper} {o : Oper} {a : Act} {Q : Exit → Act → World → Prop} (w : World) (hgd : o.guard = none) (s x : Operand)
    (ho : o.op = .call { callee := .builtin .append, args := #[s, x], argTypes := #[28, 28] }) (B : Nat) (v : Value) (ps : List Piece) (hs : a.eval s = v) (hown : OwnP w B v ps)
    (B' : Nat) (A : Option Addr) (c : Nat) (qs : List Piece) (n : Nat) (hx : a.eval x = .slice A n c) (hr : Reads w B' 1 A n (qs.map Piece.val)) (hlen : (ps.length + n) * 24 ≤ 140737488355328) (hB : B ≤ w.heap.size)
    (h : ∀ v' w', OwnP w' B v' (ps ++ qs) → Below B w w' → (v'.ownBlock = v.ownBlock ∨ v'.ownBlock = some w.heap.size) → w.grownBy w' v.ownBlock → wpList Try.prog ops Q rest (a.put o.dst v') w') : wpList Try.prog ops Q (o :: rest) a w := by
  obtain ⟨i0, hi0, hz0, hz1, hz2⟩ := info_parts sl_info
  refine wpList_append_any _ hgd s x _ ho B 31 i0 _ 1 24 Try.underlying28 hi0 hz0 hz1 hz2 rfl (by omega) v ps.length (ps.map Piece.val) hs hown B' A n c (qs.map Piece.val) hx hr (pieces_one qs)
    (by unfold maxLen; omega) (by omega) hB ?_
  intro v' w' ho hg hat
  refine h v' w' ?_ ((Below.refl _ _).grown hg hB (own_base hown)) hat hg
  have hq : qs.length = n := by have := hr.1; simpa using this
  unfold OwnP
  rw [List.map_append, List.length_append, hq]; exact ho
theorem OwnP.fresh (w : World) (B : Nat) (hB : B ≤ w.heap.size) : OwnP (w.alloc (.cells #[] 31)) B (.slice (some ⟨w.heap.size, 0, none⟩) 0 0) [] :=
  ⟨rfl, .inr ⟨w.heap.size, 0, #[], rfl, hB, heap_alloc_new w _, Nat.le_refl _, by unfold maxLen; omega, rfl, rfl⟩⟩
/-- Pieces of any slice behind an empty literal. -/
theorem appPE {ops : Array Oper} {rest : List Oper} {o : Oper} {a : Act} {Q : Exit → Act → World → Prop} (w : World) (hgd : o.guard = none) (s x : Operand)
    (ho : o.op = .call { callee := .builtin .append, args := #[s, x], argTypes := #[28, 28] }) (B : Nat) (hs : a.eval s = .slice (some ⟨w.heap.size, 0, none⟩) 0 0)
    (B' : Nat) (A : Option Addr) (c : Nat) (qs : List Piece) (n : Nat) (hx : a.eval x = .slice A n c) (hr : Reads w B' 1 A n (qs.map Piece.val)) (hB' : B' ≤ w.heap.size) (hlen : n * 24 ≤ 140737488355328) (hB : B ≤ w.heap.size)
    (h : ∀ v' w', OwnP w' B v' qs → Below B w w' → wpList Try.prog ops Q rest (a.put o.dst v') w') : wpList Try.prog ops Q (o :: rest) a (w.alloc (.cells #[] 31)) := by
  refine appP _ hgd s x ho B _ [] hs (OwnP.fresh w B hB) B' A c qs n hx (hr.alloc hB' _) (by simp; omega) (by simp; omega) ?_
  intro v' w' ho' hb' _ _
  exact h v' w' (by simpa using ho') (((Below.refl _ _).alloc hB _).trans hb')
/-- Pieces behind those that are owned, as one step of a region. -/
theorem stepP {ops : Array Oper} {o : Oper} {a : Act} {K : Act → World → Prop} {Q : Exit → Act → World → Prop} {E : Prop} (w : World) (hgd : o.guard = none) (s x : Operand)
    (ho : o.op = .call { callee := .builtin .append, args := #[s, x], argTypes := #[28, 28] }) (B : Nat) (v : Value) (ps : List Piece) (hs : a.eval s = v) (hown : OwnP w B v ps)
    (B' : Nat) (A : Option Addr) (c : Nat) (qs : List Piece) (n : Nat) (hx : a.eval x = .slice A n c) (hr : Reads w B' 1 A n (qs.map Piece.val)) (hlen : (ps.length + n) * 24 ≤ 140737488355328) (hB : B ≤ w.heap.size)
    (h : ∀ A' n' c' w', OwnP w' B (.slice A' n' c') (ps ++ qs) → w.grownBy w' v.ownBlock → ((Value.slice A' n' c').ownBlock = v.ownBlock ∨ (Value.slice A' n' c').ownBlock = some w.heap.size) → K (a.put o.dst (.slice A' n' c')) w') :
    if Region.wanted o (yielded ops a.tmps) = true then Oper.wp Try.prog o a w K Q else E := by
  obtain ⟨i0, hi0, hz0, hz1, hz2⟩ := info_parts sl_info
  refine step_append_any (P := Try.prog) w hgd s x _ ho B 31 i0 _ 1 24 Try.underlying28 hi0 hz0 hz1 hz2 rfl (by omega) v ps.length (ps.map Piece.val) hs hown B' A n c (qs.map Piece.val) hx hr (pieces_one qs)
    (by unfold maxLen; omega) (by omega) hB ?_
  intro v' w' ho hg hat
  have hq : qs.length = n := by have := hr.1; simpa using this
  have hv : OwnP w' B v' (ps ++ qs) := by
    unfold OwnP
    rw [List.map_append, List.length_append, hq]; exact ho
  obtain ⟨A', c', rfl, _⟩ := hv.reads
  exact h A' _ c' w' hv hg hat
theorem grown_from {w w1 w2 : World} {r : Option Nat} (h : Below w.heap.size w w1) (k : w1.grownBy w2 r) : w.grownBy w2 r :=
  ⟨k.os.trans h.os, k.tape.trans h.tape, k.output.trans h.output, Nat.le_trans h.size k.size, fun g hg hr => (k.block g (Nat.lt_of_lt_of_le hg h.size) hr).trans (h.block g hg)⟩
section
variable {w w' : World} {B : Nat} {v v' : Value} {ps : List Piece}
/-- How lists of bytes are read. -/
def RdL (w : World) (B : Nat) (A : Option Addr) (n : Nat) (ps : List Piece) : Prop := Reads w B 1 A n (ps.map Piece.val) ∧ ∀ p ∈ ps, Reads w B 1 p.a p.n (bts p.l) ∧ p.n ≤ 4611686018427387904
theorem RdL.len {A : Option Addr} {n : Nat} (h : RdL w B A n ps) : ps.length = n := by have := h.1.1; simpa using this
theorem RdL.below {A : Option Addr} {n : Nat} (h : RdL w B A n ps) (hb : Below B w w') : RdL w' B A n ps := ⟨h.1.below hb, fun p hp => ⟨(h.2 p hp).1.below hb, (h.2 p hp).2⟩⟩
theorem RdL.more {A : Option Addr} {n B' : Nat} (h : RdL w B A n ps) (hB : B ≤ B') : RdL w B' A n ps := ⟨h.1.more hB, fun p hp => ⟨(h.2 p hp).1.more hB, (h.2 p hp).2⟩⟩
/-- A piece in a list. -/
theorem RdL.at_ {A : Option Addr} {n k : Nat} (h : RdL w B A n ps) (hk : k < n) :
    ∃ b off p, A = some ⟨b, off, none⟩ ∧ ps[k]? = some p ∧ p ∈ ps ∧ b < B ∧ w.cell? ⟨b, off + k, none⟩ = some (.slice p.a p.n p.c) := by
  obtain ⟨b, off, e, hb, hc⟩ := h.1.flat (by omega)
  have hl := h.len
  have hg : ps[k]? = some ps[k] := List.getElem?_eq_getElem (by omega)
  exact ⟨b, off, ps[k], e, hg, List.getElem_mem _, hb, hc k _ (by rw [List.getElem?_map, hg]; rfl)⟩
end
/-- How much a list of lists holds. -/
def sumN : List Piece → Nat
  | [] => 0
  | p :: r => p.n + 1 + sumN r
theorem sumN_mem {p : Piece} {ps : List Piece} (h : p ∈ ps) : p.n + 1 ≤ sumN ps := by
  induction ps with
  | nil => cases h
  | cons q r ih =>
    simp only [sumN]
    rcases List.mem_cons.1 h with rfl | h
    · omega
    · have := ih h; omega
theorem sumN_len (ps : List Piece) : ps.length ≤ sumN ps := by
  induction ps with
  | nil => exact Nat.le_refl _
  | cons q r ih => simp only [sumN, List.length_cons]; omega
theorem reads_takeV {w : World} {B n k : Nat} {A : Option Addr} {xs : List Value} (h : Reads w B 1 A n xs) (hk : k ≤ n) : Reads w B 1 A k (xs.take k) := by
  refine ⟨by have := h.1; simp; omega, fun h0 => ?_⟩
  obtain ⟨ad, e, hb, hc⟩ := h.2 (by omega)
  refine ⟨ad, e, hb, fun j u hu => hc j u ?_⟩
  rw [List.getElem?_take] at hu
  split at hu
  · exact hu
  · cases hu
theorem reads_dropV {w : World} {B n k c : Nat} {A : Option Addr} {xs : List Value} (h : Reads w B 1 A n xs) (hk : k ≤ n) (hc : n ≤ c) : Reads w B 1 (cutA A c k) (n - k) (xs.drop k) := by
  have h1 := h.cut hk hc
  rw [Nat.mul_one] at h1
  exact h1
theorem OwnP.drew {w : World} {B : Nat} {v : Value} {ps : List Piece} (h : OwnP w B v ps) : OwnP w.drew B v ps := h
theorem OwnP.next {w w' : World} {B : Nat} {v : Value} {ps : List Piece} (h : OwnP w B v ps) (hb : Below w.heap.size w w') : OwnP w' B v ps := h.stay (fun g hg => hb.block g (h.lt g hg))
end Go.Proofs.Ytcjfammfplcigaa.Pk
