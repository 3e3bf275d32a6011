/- A list of marks in memory. -/
import Derived.Test.YtcjfammfplcigaaNtAll
import Derived.Test.YtcjfammfplcigaaNtSel
namespace Go.Proofs.Ytcjfammfplcigaa.Pk
open Go.RowKit Go.Shelf Go.Proofs.Ytcjfammfplcigaa.Nt
set_option linter.unusedVariables false
theorem bool_info : (Try.prog.info? 4).map (fun i => (i.zero, i.size, i.bytes)) = some (some (.bool false), 1, 1) := by kernel_rfl
def blB (l : List Bool) : List Value := l.map Value.bool
/-- A block of marks. -/
def BlkB (w : World) (g : Nat) (l : List Bool) : Prop := Blk w g 4 (blB l).toArray
theorem BlkB.at_ {w : World} {g : Nat} {l : List Bool} (h : BlkB w g l) {t : Nat} {b : Bool} (ht : l[t]? = some b) : w.cell? ⟨g, t, none⟩ = some (.bool b) := by
  rw [Blk.cell h, List.getElem?_toArray]
  simp [blB, ht]
theorem BlkB.set_ {w : World} {g : Nat} {l : List Bool} (h : BlkB w g l) (i : Nat) (x : Bool) : BlkB (w.setCell ⟨g, i, none⟩ (.bool x)) g (l.set i x) := by
  have := Blk.set_ h i (.bool x)
  unfold BlkB
  have e : (blB (l.set i x)).toArray = (blB l).toArray.setIfInBounds i (.bool x) := by simp [blB]
  rw [e]; exact this
theorem makeBl {ops : Array Oper} {rest : List Oper} {o : Oper} {a : Act} {Q : Exit → Act → World → Prop} (w : World) (hg : o.guard = none) (l c : Operand) (hop : o.op = Op.makeSlice 45 l c)
    (kl kc : IntKind) (L C : Int) (n : Nat) (hl : a.eval l = .int kl L) (hc : a.eval c = .int kc C) (hL : L = (n : Int)) (hC : C = (n : Int)) (b2 : n ≤ 1099511627776)
    (hK : ∀ w', BlkB w' w.heap.size (List.replicate n false) → Below w.heap.size w w' → wpList Try.prog ops Q rest (a.put o.dst (.slice (some ⟨w.heap.size, 0, none⟩) n n)) w') :
    wpList Try.prog ops Q (o :: rest) a w := by
  obtain ⟨i0, hi0, hz0, hz1, hz2⟩ := info_parts bool_info
  refine wpList_make_full w hg l c _ hop w.heap.size 4 i0 _ 1 Try.underlying45 hi0 hz0 hz1 kl kc L C n hl hc hL hC (by rw [hz2]; omega) (by unfold maxLen; omega) (Nat.le_refl _) (fun w' ho hg => hK w' ?_ ((Below.refl _ _).grown hg (Nat.le_refl _) (by simp)))
  have e : (madeCells (Value.bool false).cells (n * 1)).toList = blB (List.replicate n false) := by
    rw [Nat.mul_one]
    show (madeCells #[Value.bool false] n).toList = _
    rw [toList_madeCells_one]
    simp [blB]
  rw [e] at ho
  rcases ho.2 with ⟨h1, _⟩ | ⟨g, cap, cur, he, hb, hh, h3, h4, h5, h6⟩
  · cases h1
  · simp only [Value.slice.injEq, Option.some.injEq, Addr.mk.injEq] at he
    obtain ⟨⟨rfl, _⟩, _, rfl⟩ := he
    have hc : cur = (blB (List.replicate n false)).toArray := by
      apply Array.ext'
      rw [← h6, List.take_of_length_le (by simp [h5])]
    unfold BlkB Blk
    rw [← hc]; exact hh
end Go.Proofs.Ytcjfammfplcigaa.Pk
