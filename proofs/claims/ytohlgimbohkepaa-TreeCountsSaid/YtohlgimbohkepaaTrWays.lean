/- What the law TreeWays wants: a list of marks in memory, a number laid in a box beside it, the way back. -/
import Derived.Test.YtohlgimbohkepaaTrMeet
import Derived.Test.YtohlgimbohkepaaTrPairs
import Derived.Deep.RegionHeld3
import Derived.Deep.QuietTactic
import Derived.BigQuiet
import Derived.BigRegion
namespace Go.Proofs.Ytohlgimbohkepaa.Gr
set_option linter.unusedVariables false
theorem Good.path_back {ps : List Int} (G : Good ps) {a b : Nat} (ha : a < ps.length) (hb : b < ps.length) : pathN ps b a = (pathN ps a b).reverse :=
  G.rt.way_only ha (G.way_path hb ha) ((G.way_path ha hb).back G.rt ha hb)
theorem pathI_nodup {ps : List Int} (G : Good ps) {a b : Nat} (ha : a < ps.length) (hb : b < ps.length) : (pathI ps (a : Int) (b : Int)).Nodup := by
  rw [pathI_nat ha hb]; exact ints_nodup (G.way_path ha hb).nodup
/-- Which nodes stand in a list. -/
def seenB (n : Nat) (pre : List Int) : List Bool := (List.range n).map fun v : Nat => decide ((v : Int) ∈ pre)
@[simp] theorem seenB_length (n : Nat) (pre : List Int) : (seenB n pre).length = n := by simp [seenB]
theorem seenB_set {n t : Nat} {pre : List Int} (h : t < n) : (seenB n pre).set t true = seenB n (pre ++ [(t : Int)]) := by
  apply List.ext_getElem (by simp)
  intro i h1 h2
  rw [List.getElem_set]
  simp only [seenB, List.getElem_map, List.getElem_range]
  by_cases e : t = i
  · subst e; simp
  · rw [if_neg e]
    congr 1
    simp only [List.mem_append, List.mem_singleton]
    apply propext
    constructor
    · intro h; exact .inl h
    · rintro (h | h)
      · exact h
      · omega
theorem seenB_nil (n : Nat) : seenB n [] = List.replicate n false := by
  apply List.ext_getElem (by simp)
  intro i h1 h2
  simp [seenB]
end Go.Proofs.Ytohlgimbohkepaa.Gr
namespace Go.Proofs.Ytohlgimbohkepaa.Pk
open Go.RowKit Go.Shelf Go.Proofs.Ytohlgimbohkepaa.Gr
set_option linter.unusedVariables false
theorem bool_info : (Try.prog.info? 4).map (fun i => (i.zero, i.size, i.bytes)) = some (some (.bool false), 1, 1) := by kernel_rfl
def blB (l : List Bool) : List Value := l.map Value.bool
/-- A block of marks. -/
def BlkB (w : World) (g : Nat) (l : List Bool) : Prop := Blk w g 4 (blB l).toArray
theorem BlkB.at_ {w : World} {g n : Nat} {pre : List Int} (h : BlkB w g (seenB n pre)) {t : Nat} (ht : t < n) : w.cell? ⟨g, t, none⟩ = some (.bool (decide ((t : Int) ∈ pre))) := by
  rw [Blk.cell h, List.getElem?_toArray]
  simp [blB, seenB, ht]
theorem BlkB.set_ {w : World} {g : Nat} {l : List Bool} (h : BlkB w g l) (i : Nat) (x : Bool) : BlkB (w.setCell ⟨g, i, none⟩ (.bool x)) g (l.set i x) := by
  have := Blk.set_ h i (.bool x)
  unfold BlkB
  have e : (blB (l.set i x)).toArray = (blB l).toArray.setIfInBounds i (.bool x) := by simp [blB]
  rw [e]; exact this
theorem makeBl {ops : Array Oper} {rest : List Oper} {o : Oper} {a : Act} {Q : Exit → Act → World → Prop} (w : World) (hg : o.guard = none) (l c : Operand) (hop : o.op = Op.makeSlice 52 l c)
    (kl kc : IntKind) (L C : Int) (n : Nat) (hl : a.eval l = .int kl L) (hc : a.eval c = .int kc C) (hL : L = (n : Int)) (hC : C = (n : Int)) (b2 : n ≤ 1099511627776)
    (hK : ∀ w', BlkB w' w.heap.size (List.replicate n false) → Below w.heap.size w w' → wpList Try.prog ops Q rest (a.put o.dst (.slice (some ⟨w.heap.size, 0, none⟩) n n)) w') :
    wpList Try.prog ops Q (o :: rest) a w := by
  obtain ⟨i0, hi0, hz0, hz1, hz2⟩ := info_parts bool_info
  refine wpList_make_full w hg l c _ hop w.heap.size 4 i0 _ 1 Try.underlying52 hi0 hz0 hz1 kl kc L C n hl hc hL hC (by rw [hz2]; omega) (by unfold maxLen; omega) (Nat.le_refl _) (fun w' ho hg => hK w' ?_ ((Below.refl _ _).grown hg (Nat.le_refl _) (by simp)))
  have e : (madeCells (Value.bool false).cells (n * 1)).toList = blB (List.replicate n false) := by
    rw [Nat.mul_one]
    show (madeCells #[Value.bool false] n).toList = _
    rw [toList_madeCells_one]
    simp [blB]
  rw [e] at ho
  rcases ho.2 with ⟨h1, _⟩ | ⟨g, cap, cur, he, hb, hh, h3, h4, h5, h6⟩
  · cases h1
  · simp only [Value.slice.injEq, Option.some.injEq, Addr.mk.injEq] at he
    obtain ⟨⟨rfl, _⟩, _, rfl⟩ := he
    have hc : cur = (blB (List.replicate n false)).toArray := by
      apply Array.ext'
      rw [← h6, List.take_of_length_le (by simp [h5])]
    unfold BlkB Blk
    rw [← hc]; exact hh
/-- A number more in a box, where other blocks are turned beside it. -/
theorem push_boxS {S : Nat → Prop} {w V V3 : World} {x : Nat} {v v3 : Value} {pre : List Int} {k : Int} (C : Nat) (hO : OnlyS S w V) (hS : S x) (hb : Blk V x 22 #[v]) (hx : x < w.heap.size) (hown : OwnN V w.heap.size v pre) (hown3 : OwnN V3 w.heap.size v3 (pre ++ [k]))
    (hg : (V.alloc (.cells #[.int .i64 k] 3)).grownBy V3 v.ownBlock) :
    (∀ i, i < w.heap.size → V3.heap[i]? = V.heap[i]?) ∧ KeepsFrom C V (V3.setCell ⟨x, 0, none⟩ v3) ∧ OnlyS S w (V3.setCell ⟨x, 0, none⟩ v3) ∧ BoxN (V3.setCell ⟨x, 0, none⟩ v3) x w.heap.size (pre ++ [k]) ∧ (∀ R : Nat → Prop, (∀ b, R b → b < w.heap.size ∧ b ≠ x) → Stay R V (V3.setCell ⟨x, 0, none⟩ v3)) ∧
      ∀ i, i < w.heap.size → i ≠ x → (V3.setCell ⟨x, 0, none⟩ v3).heap[i]? = V.heap[i]? := by
  have hbase := ownN_base hown
  have hs : V.heap.size + 1 ≤ V3.heap.size := by have := hg.size; simpa using this
  have hk : ∀ i, i < w.heap.size → V3.heap[i]? = V.heap[i]? := fun i hi => by
    have h1 := hO.size
    refine (hg.block i (by simp; omega) (fun e => by have := hbase i e.symm; omega)).trans (Below.heap_alloc V _ i (by omega))
  have hO3 : OnlyS S w V3 := ⟨hg.os.trans hO.os, hg.tape.trans hO.tape, hg.output.trans hO.output, by have := hO.size; omega, fun i hi hn => (hk i hi).trans (hO.block i hi hn)⟩
  have hb3 : Blk V3 x 22 #[v] := (hk x hx).trans hb
  have hk3 : ∀ i, i < w.heap.size → i ≠ x → (V3.setCell ⟨x, 0, none⟩ v3).heap[i]? = V.heap[i]? := fun i hi hn => (Below.heap_setCell V3 ⟨x, 0, none⟩ v3 i (by simpa using hn)).trans (hk i hi)
  refine ⟨hk, ?_, hO3.set hS _, ⟨v3, blk_put hb3 v3, ?_⟩, fun R hR => ⟨by simp [World.setCell]; omega, fun b hb' => hk3 b (hR b hb').1 (hR b hb').2⟩, hk3⟩
  · exact (((KeepsOthers.alloc V _).trans (KeepsOthers.of_grownBy hg (fun j o hj ho => ownN_cells (hown.alloc (.cells #[.int .i64 k] 3)) j o hj ho))).trans (KeepsOthers.setCell _ _ _)).from _
  · have hne : ∀ g, v3.ownBlock = some g → g ≠ x := fun g hg' => by have := ownN_base hown3 g hg'; omega
    obtain ⟨h1, h2⟩ := hown3
    refine ⟨h1, ?_⟩
    rcases h2 with h2 | ⟨g, cap, cur, rfl, hbb, hh, hrest⟩
    · exact .inl h2
    · exact .inr ⟨g, cap, cur, rfl, hbb, (Below.heap_setCell V3 ⟨x, 0, none⟩ _ g (by have := hne g rfl; simpa using this)).trans hh, hrest⟩
theorem OwnN.setFar {w : World} {B x i : Nat} {v : Value} {l : List Int} (h : OwnN w B v l) (hx : x < B) (u : Value) : OwnN (w.setCell ⟨x, i, none⟩ u) B v l := by
  obtain ⟨h1, h2⟩ := h
  refine ⟨h1, ?_⟩
  rcases h2 with h2 | ⟨g, cap, cur, rfl, hb, hh, hr⟩
  · exact .inl h2
  · exact .inr ⟨g, cap, cur, rfl, hb, (Below.heap_setCell w ⟨x, i, none⟩ _ g (by simp; omega)).trans hh, hr⟩
theorem OnlyS.setAt {S : Nat → Prop} {w V : World} (h : OnlyS S w V) {x : Nat} (hx : S x) (i : Nat) (u : Value) : OnlyS S w (V.setCell ⟨x, i, none⟩ u) :=
  ⟨h.os, h.tape, h.output, by have := h.size; simpa [World.setCell] using this, fun k hk hn => (Below.heap_setCell V ⟨x, i, none⟩ u k (fun e => by simp at e; subst e; exact hn hx)).trans (h.block k hk hn)⟩
end Go.Proofs.Ytohlgimbohkepaa.Pk
