/- The table's tree: what a node's blocks read as; the calls that only read it. -/
import Derived.Test.YtcjfammfplcigaaSeqC
import Derived.LoopTactic
namespace Go.Proofs.Ytcjfammfplcigaa.Pk
open Go.RowKit Go.Proofs.Ytcjfammfplcigaa.Tb
set_option linter.unusedVariables false

/-- A tree, each node with the block that it lies in. -/
inductive Tr where
  | leaf
  | node (b : Nat) (l : Tr) (k : Int) (v : ByteArray) (r : Tr)
namespace Tr
def rows : Tr → List Rw
  | .leaf => []
  | .node _ l k v r => l.rows ++ (k, v) :: r.rows
def p : Tr → Option Addr
  | .leaf => none
  | .node b _ _ _ _ => some ⟨b, 0, none⟩
def has : Tr → Nat → Prop
  | .leaf, _ => False
  | .node b l _ _ r, x => x = b ∨ l.has x ∨ r.has x
def len (T : Tr) : Nat := T.rows.length
end Tr
theorem len_leaf : Tr.leaf.len = 0 := rfl
theorem len_node (b : Nat) (l : Tr) (k : Int) (v : ByteArray) (r : Tr) : (Tr.node b l k v r).len = l.len + 1 + r.len := by
  simp [Tr.len, Tr.rows]; omega
theorem rows_node (b : Nat) (l : Tr) (k : Int) (v : ByteArray) (r : Tr) : (Tr.node b l k v r).rows = l.rows ++ (k, v) :: r.rows := rfl
/-- A node's cells. -/
def ncells (l : Tr) (k : Int) (v : ByteArray) (r : Tr) : Array Value := #[.int .i64 k, .string v, .pointer l.p, .pointer r.p, .int .i64 ((l.len : Int) + 1 + (r.len : Int))]
/-- The tree lies at its blocks. -/
def IsT (w : World) : Tr → Prop
  | .leaf => True
  | .node b l k v r => Blk w b 64 (ncells l k v r) ∧ (-9223372036854775808 ≤ k ∧ k ≤ 9223372036854775807) ∧ IsT w l ∧ IsT w r
theorem IsT.stay {w w' : World} : ∀ {T : Tr}, IsT w T → (∀ b, T.has b → w'.heap[b]? = w.heap[b]?) → IsT w' T
  | .leaf, _, _ => trivial
  | .node b l k v r, ⟨h, hk, hl, hr⟩, hs => ⟨(hs b (.inl rfl)).trans h, hk, hl.stay fun x hx => hs x (.inr (.inl hx)), hr.stay fun x hx => hs x (.inr (.inr hx))⟩
theorem IsT.lt {w : World} : ∀ {T : Tr}, IsT w T → ∀ b, T.has b → b < w.heap.size
  | .leaf, _, _, h => h.elim
  | .node b l k v r, ⟨h, hk, hl, hr⟩, x, hx => by
    rcases hx with rfl | hx | hx
    · exact h.lt
    · exact hl.lt x hx
    · exact hr.lt x hx
theorem IsT.below {w w' : World} {T : Tr} (h : IsT w T) (hb : Below w.heap.size w w') : IsT w' T := h.stay fun b hx => hb.block b (h.lt b hx)
theorem IsT.drewN {w : World} {T : Tr} (h : IsT w T) (n : Nat) : IsT (w.drewN n) T := h.stay fun _ _ => rfl
theorem IsT.drew {w : World} {T : Tr} (h : IsT w T) : IsT w.drew T := h.stay fun _ _ => rfl
theorem IsT.alloc {w : World} {T : Tr} (h : IsT w T) (o : Obj) : IsT (w.alloc o) T := h.below ((Below.refl _ w).alloc (Nat.le_refl _) o)
theorem below_dn {B : Nat} {w w1 : World} (h : Below B w w1) (n : Nat) : Below B w (w1.drewN n) := ⟨h.os, h.tape, h.output, h.size, h.block⟩
/-- No tree of one node or more is nil. -/
theorem Tr.of_len {T : Tr} (h : 0 < T.len) : ∃ b l k v r, T = .node b l k v r := by
  cases T with
  | leaf => simp [len_leaf] at h
  | node b l k v r => exact ⟨b, l, k, v, r, rfl⟩

theorem count_any (T : Tr) (w : World) (h : IsT w T) :
    Calls Try.prog 35 #[.pointer T.p] w fun e w' => e = .returned (.int .i64 (T.len : Int)) ∧ w' = w := by
  cases T with
  | leaf =>
    go_enter Try.func35, Try.ntmps35
    have hp : Tr.leaf.p = none := rfl
    rw [hp]
    go_wp2_with fail
    go_ret
    exact ⟨by rw [len_leaf]; rfl, rfl⟩
  | node b l k v r =>
    have X4 := h.1.cell 4
    have hp : (Tr.node b l k v r).p = some ⟨b, 0, none⟩ := rfl
    have hz : (Tr.node b l k v r).len = l.len + 1 + r.len := len_node b l k v r
    simp only [ncells] at X4
    rw [hp, hz]
    go_enter Try.func35, Try.ntmps35
    go_wp2_with fail
    go_ret
    exact ⟨by congr, rfl⟩
theorem weight_any (T : Tr) (w : World) (h : IsT w T) (hn : T.len ≤ 1000000000000000000) :
    Calls Try.prog 40 #[.pointer T.p] w fun e w' => e = .returned (.int .i64 ((T.len : Int) + 1)) ∧ w' = w := by
  have hc := count_any T w h
  go_enter Try.func40, Try.ntmps40
  go_wp2_with fail
  refine hc.mono ?_
  rintro e w' ⟨rfl, rfl⟩
  go_wp2
  go_ret
  exact ⟨rfl, rfl⟩
end Go.Proofs.Ytcjfammfplcigaa.Pk
