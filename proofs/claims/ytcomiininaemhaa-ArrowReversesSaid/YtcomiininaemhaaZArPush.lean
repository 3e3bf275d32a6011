/- Numbers appended, round by round, to a row in a box: the rounds' footprint. -/
import Derived.Test.YtcomiininaemhaaZArSpecG
import Derived.Test.YtcomiininaemhaaZWArrowFollows
import Derived.Maps.OwnIn
namespace Go.Proofs.Ytcomiininaemhaa.Pk
open Go.RowKit Go.Shelf Go.Proofs.Ytcomiininaemhaa.Gr
set_option linter.unusedVariables false
theorem appNAt {F : Fence} {n : Nat} {ops : Array Oper} {rest : List Oper} {o : Oper} {a : Act} {Q : Exit → Act → World → Prop} (w : World) (k : Int) (hgd : o.guard = none) (so x : Operand)
    (ho : o.op = .call { callee := .builtin .append, args := #[so, x], argTypes := #[26, 26] }) (B : Nat) (v : Value) (l : List Int) (hs : a.eval so = v) (hown : OwnN w B v l)
    (hx : a.eval x = .slice (some ⟨w.heap.size, 0, none⟩) 1 1) (hlen : (l.length + 1) * 8 ≤ 140737488355328) (hB : B ≤ w.heap.size)
    (h : ∀ v' w', OwnN w' B v' (l ++ [k]) → (w.alloc (.cells #[.int .i64 k] 3)).grownBy w' v.ownBlock → (v'.ownBlock = v.ownBlock ∨ v'.ownBlock = some (w.heap.size + 1)) → wpListIn F n Try.prog ops Q rest (a.put o.dst v') w') : wpListIn F n Try.prog ops Q (o :: rest) a (w.alloc (.cells #[.int .i64 k] 3)) := by
  obtain ⟨i0, hi0, hz0, hz1, hz2⟩ := info_parts int_info
  refine wpListIn_append_own_at _ hgd so x _ ho B 3 i0 _ 1 8 Try.underlying26 hi0 hz0 hz1 hz2 rfl (by omega) v l.length (nms l) hs (World.ownsRow.alloc hown _) ⟨w.heap.size, 0, none⟩ 1 1 (nms [k]) hx rfl ?_ (nms_one _)
    (by unfold maxLen; omega) (by omega) (by simp; omega) ?_
  · intro j u hj
    match j, hj with
    | 0, hj => simp [nms] at hj; subst hj; simp [Addr.add]
    | j + 1, hj => simp [nms] at hj
  · intro v' w' ho hg _ hat
    refine h v' w' ?_ hg (by simpa using hat)
    unfold OwnN
    rw [← nms_append, List.length_append]; exact ho
theorem OwnN.turned {S : Nat → Prop} {w w' : World} {B : Nat} {v : Value} {l : List Int} (h : OwnN w B v l) (ht : Turned S w w') (hs : ∀ b, v.ownBlock = some b → ¬ S b) : OwnN w' B v l := by
  have hlt := ownN_lt h
  obtain ⟨h1, h2⟩ := h
  refine ⟨h1, ?_⟩
  rcases h2 with h2 | ⟨g, cap, cur, rfl, hg, hh, hr⟩
  · exact .inl h2
  · exact .inr ⟨g, cap, cur, rfl, hg, (ht.block g (hlt g rfl) (hs g rfl)).trans hh, hr⟩
def BoxF (W1 : World) (x : Nat) (F : Nat → Prop) (pre : List Int) (V : World) : Prop :=
  (∃ A n c, Blk V x 26 #[.slice A n c] ∧ OwnN V W1.heap.size (.slice A n c) pre ∧ ∀ b, (Value.slice A n c).ownBlock = some b → F b) ∧ OnlyS (fun b => b = x) W1 V
theorem BoxF.foot {W1 : World} {x : Nat} (hx : x < W1.heap.size) : FootB W1.heap.size (BoxF W1 x) := by
  rintro F pre V V' ⟨⟨A, n, c, h1, h2, h3⟩, hO⟩ ht
  refine ⟨⟨A, n, c, (ht.block x h1.lt (fun e => by have := e.1; omega)).trans h1, h2.turned ht (fun b hb e => e.2 (h3 b hb)), h3⟩, ?_⟩
  exact ⟨ht.os.trans hO.os, ht.tape.trans hO.tape, ht.output.trans hO.output, Nat.le_trans hO.size ht.size, fun i hi hn => (ht.block i (Nat.lt_of_lt_of_le hi hO.size) (fun e => by have := e.1; omega)).trans (hO.block i hi hn)⟩
theorem BoxF.push {W1 V V3 : World} {x n c : Nat} {A : Option Addr} {F R : Nat → Prop} {pre : List Int} {k : Int} {v3 : Value} (hx : x < W1.heap.size) (h1 : Blk V x 26 #[.slice A n c]) (h2 : OwnN V W1.heap.size (.slice A n c) pre) (h3 : ∀ b, (Value.slice A n c).ownBlock = some b → F b) (hO : OnlyS (fun b => b = x) W1 V) (hF : ∀ b, F b → b < V.heap.size)
    (hown : OwnN V3 W1.heap.size v3 (pre ++ [k])) (hg : (V.alloc (.cells #[.int .i64 k] 3)).grownBy V3 (Value.slice A n c).ownBlock) (hat : v3.ownBlock = (Value.slice A n c).ownBlock ∨ v3.ownBlock = some (V.heap.size + 1)) (hR : ∀ b, R b → b < W1.heap.size ∧ b ≠ x) :
    ∃ F', KeepsG W1.heap.size F F' V (V3.setCell ⟨x, 0, none⟩ v3) ∧ (∀ b, F' b → b < (V3.setCell ⟨x, 0, none⟩ v3).heap.size) ∧ Stay R V (V3.setCell ⟨x, 0, none⟩ v3) ∧ BoxF W1 x F' (pre ++ [k]) (V3.setCell ⟨x, 0, none⟩ v3) := by
  have hs : V.heap.size + 1 ≤ V3.heap.size := by have := hg.size; simpa using this
  have hss : (V3.setCell ⟨x, 0, none⟩ v3).heap.size = V3.heap.size := by simp [World.setCell]
  have hlt := ownN_lt hown
  have hb2 := ownN_base h2
  have hb3 := ownN_base hown
  have keep : ∀ i, i < V.heap.size → (Value.slice A n c).ownBlock ≠ some i → V3.heap[i]? = V.heap[i]? := fun i hi hn => (hg.block i (by simp; omega) (fun e => hn e.symm)).trans (Below.heap_alloc V _ i (by omega))
  have kx : V3.heap[x]? = V.heap[x]? := keep x h1.lt (fun e => by have := hb2 x e; omega)
  have hset : ∀ i, i ≠ x → (V3.setCell ⟨x, 0, none⟩ v3).heap[i]? = V3.heap[i]? := fun i hi => Below.heap_setCell V3 ⟨x, 0, none⟩ v3 i hi
  obtain ⟨A3, n3, c3, rfl⟩ := ownN_slice' hown
  refine ⟨fun b => F b ∨ (V.heap.size ≤ b ∧ b < V3.heap.size), ⟨by omega, fun i hB hi hn => ?_, fun i hi => ?_⟩, fun b hb => ?_, ⟨by omega, fun b hb => ?_⟩, ⟨A3, n3, c3, blk_put (kx.trans h1) _, ?_, fun b hb => ?_⟩, ?_⟩
  · exact (hset i (by omega)).trans (keep i hi (fun e => hn (h3 i e)))
  · rcases hi with hi | hi
    · exact .inl hi
    · exact .inr hi.1
  · rw [hss]
    rcases hb with hb | hb
    · have := hF b hb; omega
    · exact hb.2
  · obtain ⟨r1, r2⟩ := hR b hb
    have := hO.size
    exact (hset b r2).trans (keep b (by omega) (fun e => by have := hb2 b e; omega))
  · exact hown.setBox' (fun e => by have := hb3 x e; omega) _
  · rcases hat with e | e
    · exact .inl (h3 b (by rw [← e]; exact hb))
    · rw [hb] at e
      injection e with e
      have := hlt b hb
      exact .inr ⟨by omega, this⟩
  · have hO2 := hO.size
    exact OnlyS.set (S := fun b => b = x) ⟨hg.os.trans hO.os, hg.tape.trans hO.tape, hg.output.trans hO.output, by omega, fun i hi hn => (keep i (by omega) (fun e => by have := hb2 i e; omega)).trans (hO.block i hi hn)⟩ rfl _
end Go.Proofs.Ytcomiininaemhaa.Pk
