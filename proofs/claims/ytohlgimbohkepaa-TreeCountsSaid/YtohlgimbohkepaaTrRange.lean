/- Ranges over a tree's functions: rounds that lay numbers in a box; what stays. -/
import Derived.Test.YtohlgimbohkepaaTrWakes
import Derived.Test.YtohlgimbohkepaaRangeIn
namespace Go.Proofs.Ytohlgimbohkepaa.Pk
open Go.RowKit Go.Shelf Go.Proofs.Ytohlgimbohkepaa.Gr
set_option linter.unusedVariables false
attribute [local go_sem] Oper.semAt_some

/-- One number more, out of a new box, inside a fence. -/
theorem appNIn {F : Fence} {n : Nat} {ops : Array Oper} {rest : List Oper} {o : Oper} {a : Act} {Q : Exit → Act → World → Prop} (w : World) (k : Int) (hgd : o.guard = none) (so x : Operand)
    (ho : o.op = .call { callee := .builtin .append, args := #[so, x], argTypes := #[22, 22] }) (B : Nat) (v : Value) (l : List Int) (hs : a.eval so = v) (hown : OwnN w B v l)
    (hx : a.eval x = .slice (some ⟨w.heap.size, 0, none⟩) 1 1) (hlen : (l.length + 1) * 8 ≤ 140737488355328) (hB : B ≤ w.heap.size)
    (h : ∀ v' w', OwnN w' B v' (l ++ [k]) → (w.alloc (.cells #[.int .i64 k] 3)).grownBy w' v.ownBlock → wpListIn F n Try.prog ops Q rest (a.put o.dst v') w') : wpListIn F n Try.prog ops Q (o :: rest) a (w.alloc (.cells #[.int .i64 k] 3)) := by
  obtain ⟨i0, hi0, hz0, hz1, hz2⟩ := info_parts int_info
  refine wpListIn_append_own _ hgd so x _ ho B 3 i0 _ 1 8 Try.underlying22 hi0 hz0 hz1 hz2 rfl (by omega) v l.length (nms l) hs (World.ownsRow.alloc hown _) ⟨w.heap.size, 0, none⟩ 1 1 (nms [k]) hx rfl ?_ (nms_one _)
    (by unfold maxLen; omega) (by omega) (by simp; omega) ?_
  · intro j u hj
    match j, hj with
    | 0, hj => simp [nms] at hj; subst hj; simp [Addr.add]
    | j + 1, hj => simp [nms] at hj
  · intro v' w' ho hg _
    refine h v' w' ?_ hg
    unfold OwnN
    rw [← nms_append, List.length_append]; exact ho
theorem ownN_cells {w : World} {B : Nat} {v : Value} {l : List Int} (h : OwnN w B v l) : ∀ (j : Nat) (o : Obj), v.ownBlock = some j → w.heap[j]? = some o → o.isCells = true := by
  intro j o hj ho
  rcases h.2 with ⟨rfl, _⟩ | ⟨g, cap, cur, rfl, _, hh, _⟩
  · simp [Value.ownBlock] at hj
  · simp [Value.ownBlock] at hj
    subst hj
    rw [hh] at ho
    injection ho with ho
    subst ho
    rfl
theorem OwnN.kept {A B : World} {row : Option Nat} {b : Nat} {v : Value} {l : List Int} (h : OwnN A b v l) (hg : A.grownBy B row) (hr : ∀ r, row = some r → ∃ o, A.heap[r]? = some o ∧ o.isCells = false) : OwnN B b v l := by
  have hc := ownN_cells h
  have hlt := ownN_lt h
  obtain ⟨h1, h2⟩ := h
  refine ⟨h1, ?_⟩
  rcases h2 with h2 | ⟨g, cap, cur, rfl, hb, hh, hrest⟩
  · exact .inl h2
  · refine .inr ⟨g, cap, cur, rfl, hb, ?_, hrest⟩
    refine (hg.block g (hlt g rfl) (fun e => ?_)).trans hh
    obtain ⟨o, h1, h2⟩ := hr g e.symm
    rw [hh] at h1
    injection h1 with h1
    subst h1
    simp [Obj.isCells] at h2
/-- A box that holds numbers of the call's own. -/
def BoxN (W : World) (x B : Nat) (l : List Int) : Prop := ∃ v, Blk W x 22 #[v] ∧ OwnN W B v l
theorem own_boxN (C x B : Nat) : OwnFrom C (fun (l : List Int) W => BoxN W x B l) := Own.from (I := fun (l : List Int) W => BoxN W x B l) (fun s A W row hs hg hr => by
  obtain ⟨v, h1, h2⟩ := hs
  exact ⟨v, blk_kept h1 hg hr, h2.kept hg hr⟩) C
/-- What lies below N, but block x, lies as it lay. -/
theorem Only.at_ {w V : World} {x : Nat} (h : Only w V x) {b : Nat} (hb : b < w.heap.size) (hx : b ≠ x) : V.heap[b]? = w.heap[b]? := h.block b hb (fun e => by injection e with e; exact hx e)
theorem Only.blk {w V : World} {x g : Nat} {t : TypeId} {cs : Array Value} (h : Only w V x) (hg : Blk w g t cs) (hx : g ≠ x) : Blk V g t cs := (h.at_ hg.lt hx).trans hg
theorem Only.reads {w V : World} {x B size n : Nat} {A : Option Addr} {xs : List Value} (h : Only w V x) (hr : Reads w B size A n xs) (hB : B ≤ w.heap.size) (hx : 0 < n → ∀ ad, A = some ad → ad.block ≠ x) : Reads V B size A n xs := by
  refine ⟨hr.1, fun hn => ?_⟩
  obtain ⟨ad, e, hb, hc⟩ := hr.2 hn
  refine ⟨ad, e, hb, fun j u hu => (World.cell?_of_block (h.at_ (by rw [block_of_add]; omega) (by rw [block_of_add]; exact hx hn ad e))).trans (hc j u hu)⟩
theorem Only.reads_up {w V : World} {x B size n : Nat} {A : Option Addr} {xs : List Value} (h : Only w V x) (hr : Reads w B size A n xs) (hB : B ≤ w.heap.size) (hx : B ≤ x) : Reads V B size A n xs :=
  h.reads hr hB (fun h0 ad e => by
    obtain ⟨ad', e', h1, _⟩ := hr.2 h0
    rw [e] at e'
    injection e' with e'
    subst e'
    omega)
theorem Only.tr {w V : World} {x T g : Nat} {ps : List Int} (h : Only w V x) (ht : IsTr w T g ps) (hx : ∀ b, TrB T g b → b ≠ x) : IsTr V T g ps := ht.stay ⟨h.size, fun b hb => h.at_ (ht.lt b hb) (hx b hb)⟩
theorem Only.seqn {w V : World} {x : Nat} {v : Value} {l : List Int} {R : Nat → Prop} (h : Only w V x) (hs : SeqN v l R w) (hx : ∀ b, R b → b ≠ x) : SeqN v l R V := hs.stay ⟨h.size, fun b hb => h.at_ (hs.lt b hb) (hx b hb)⟩
/-- A number more in the box. -/
theorem push_box {w V V3 : World} {x : Nat} {v v3 : Value} {pre : List Int} {k : Int} (C : Nat) (hO : Only w V x) (hb : Blk V x 22 #[v]) (hx : x < w.heap.size) (hown : OwnN V w.heap.size v pre) (hown3 : OwnN V3 w.heap.size v3 (pre ++ [k]))
    (hg : (V.alloc (.cells #[.int .i64 k] 3)).grownBy V3 v.ownBlock) :
    (Only w V3 x ∧ Blk V3 x 22 #[v]) ∧ KeepsFrom C V (V3.setCell ⟨x, 0, none⟩ v3) ∧ Only w (V3.setCell ⟨x, 0, none⟩ v3) x ∧ BoxN (V3.setCell ⟨x, 0, none⟩ v3) x w.heap.size (pre ++ [k]) ∧ ∀ R : Nat → Prop, (∀ b, R b → b < w.heap.size ∧ b ≠ x) → Stay R V (V3.setCell ⟨x, 0, none⟩ v3) := by
  have hbase := ownN_base hown
  have hs : V.heap.size + 1 ≤ V3.heap.size := by have := hg.size; simpa using this
  have hk : ∀ i, i < w.heap.size → V3.heap[i]? = V.heap[i]? := fun i hi => by
    have h1 := hO.size
    refine (hg.block i (by simp; omega) (fun e => by have := hbase i e.symm; omega)).trans (Below.heap_alloc V _ i (by omega))
  have hO3 : Only w V3 x := ⟨hg.os.trans hO.os, hg.tape.trans hO.tape, hg.output.trans hO.output, by have := hO.size; omega, fun i hi hn => (hk i hi).trans (hO.block i hi hn)⟩
  have hb3 : Blk V3 x 22 #[v] := (hk x hx).trans hb
  refine ⟨⟨hO3, hb3⟩, ?_, hO3.set _ _, ⟨v3, blk_put hb3 v3, ?_⟩, fun R hR => ⟨by simp [World.setCell]; omega, fun b hb' => ?_⟩⟩
  · exact (((KeepsOthers.alloc V _).trans (KeepsOthers.of_grownBy hg (fun j o hj ho => ownN_cells (hown.alloc (.cells #[.int .i64 k] 3)) j o hj ho))).trans (KeepsOthers.setCell _ _ _)).from _
  · have hne : ∀ g, v3.ownBlock = some g → g ≠ x := fun g hg' => by have := ownN_base hown3 g hg'; omega
    obtain ⟨h1, h2⟩ := hown3
    refine ⟨h1, ?_⟩
    rcases h2 with h2 | ⟨g, cap, cur, rfl, hbb, hh, hrest⟩
    · exact .inl h2
    · exact .inr ⟨g, cap, cur, rfl, hbb, (Below.heap_setCell V3 ⟨x, 0, none⟩ _ g (by have := hne g rfl; simpa using this)).trans hh, hrest⟩
  · obtain ⟨h1, h2⟩ := hR b hb'
    exact (Below.heap_setCell V3 ⟨x, 0, none⟩ v3 b (by simpa using h2)).trans (hk b h1)
/-- The mark of a range's rounds, at the return. -/
theorem mark1 {B D : Nat} {V : World} (hD : B ≤ D) (hK : V.heap[D]? = some (.deferred (some []))) : Marks B [{ target := .collected D, args := #[] }] V := by
  refine ⟨D, rfl, hD, ?_, hK, by simp, trivial⟩
  rcases Nat.lt_or_ge D V.heap.size with h1 | h1
  · exact h1
  · rw [Array.getElem?_eq_none h1] at hK; cases hK
theorem Marks.keepB {B B' : Nat} {ds : List Deferred} {W : World} (h : Marks B ds W) (hB : B' ≤ B) : Marks B' ds W := by
  induction ds with
  | nil => trivial
  | cons x r ih =>
    obtain ⟨D, e, h1, h2⟩ := h
    exact ⟨D, e, Nat.le_trans hB h1, h2.1, h2.2.1, h2.2.2.1, ih h2.2.2.2⟩
end Go.Proofs.Ytohlgimbohkepaa.Pk
