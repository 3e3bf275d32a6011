/- Pairs of numbers in memory: what a slice of them reads, a box that holds them, when two are the same; the law's own list of edges. -/
import Derived.Test.YtohlgimbohkepaaTrWalk
import Derived.Test.YtohlgimbohkepaaRangeB2
import Derived.ChangeKeysEq
namespace Go.Proofs.Ytohlgimbohkepaa.Gr
set_option linter.unusedVariables false
/-- The edges of a to the nodes below j that are greater, as the law lays them. -/
def rowL (ps : List Int) (a j : Nat) : List (Int × Int) := ((List.range j).filter fun b : Nat => decide (a < b) && nearL ps a b).map fun b : Nat => ((a : Int), (b : Int))
theorem rowL_start (ps : List Int) (a : Nat) : rowL ps a (a + 1) = [] := by
  unfold rowL
  rw [List.map_eq_nil_iff, List.filter_eq_nil_iff]
  intro b hb
  have := List.mem_range.1 hb
  simp; omega
theorem rowL_succ (ps : List Int) {a j : Nat} (h : a < j) : rowL ps a (j + 1) = if nearL ps a j = true then rowL ps a j ++ [((a : Int), (j : Int))] else rowL ps a j := by
  unfold rowL
  rw [List.range_succ, List.filter_append, List.map_append]
  by_cases hn : nearL ps a j = true
  · rw [if_pos hn]; simp [h, hn]
  · rw [if_neg hn]; simp [hn]
theorem rowL_len (ps : List Int) (a j : Nat) : (rowL ps a j).length ≤ j := by
  unfold rowL
  rw [List.length_map]
  exact Nat.le_trans (List.length_filter_le _ _) (by simp)
theorem nearL_symm (ps : List Int) (a b : Nat) : nearL ps a b = nearL ps b a := by unfold nearL; rw [Bool.or_comm]
end Go.Proofs.Ytohlgimbohkepaa.Gr
namespace Go.Proofs.Ytohlgimbohkepaa.Pk
open Go.RowKit Go.Shelf Go.Proofs.Ytohlgimbohkepaa.Gr
set_option linter.unusedVariables false
theorem rowL_all (ps : List Int) (a : Nat) : rowL ps a ps.length = rowE a (nbs ps a ps.length) := by
  unfold rowL rowE nbs
  rw [List.filter_map, List.map_map, List.filter_filter]
  congr 1
  apply List.filter_congr
  intro b hb
  simp only [Function.comp]
  rw [nearL_symm ps a b]
  congr 1
  simp
theorem edgesTo_len (ps : List Int) (k : Nat) : (edgesTo ps k).length ≤ k * ps.length := by
  induction k with
  | zero => simp [edgesTo]
  | succ k ih =>
    rw [edgesTo_succ, List.length_append, ← rowL_all]
    have := rowL_len ps k ps.length
    rw [Nat.succ_mul]
    omega
theorem prs_get {l : List (Int × Int)} {k : Nat} {p : Int × Int} (h : l[k]? = some p) : (prs l)[k * 2]? = some (.int .i64 p.1) ∧ (prs l)[k * 2 + 1]? = some (.int .i64 p.2) := by
  induction l generalizing k with
  | nil => simp at h
  | cons x l ih =>
    have e : prs (x :: l) = .int .i64 x.1 :: .int .i64 x.2 :: prs l := rfl
    rw [e]
    match k, h with
    | 0, h => simp at h; subst h; exact ⟨rfl, rfl⟩
    | k + 1, h =>
      have := ih (k := k) (by simpa using h)
      rw [show (k + 1) * 2 = k * 2 + 1 + 1 by omega]
      simpa using this
theorem Reads.pairs {w : World} {B : Nat} {A : Option Addr} {n : Nat} {l : List (Int × Int)} (h : Reads w B 2 A n (prs l)) (hn : 0 < n) :
    ∃ b off, A = some ⟨b, off, none⟩ ∧ b < B ∧ ∀ i p, l[i]? = some p → w.cell? ⟨b, off + i * 2, none⟩ = some (.int .i64 p.1) ∧ w.cell? ⟨b, off + i * 2 + 1, none⟩ = some (.int .i64 p.2) := by
  obtain ⟨ad, rfl, hb, hc⟩ := h.2 hn
  have hl : 0 < (prs l).length := by rw [h.1]; omega
  have h0 := hc 0 _ (List.getElem?_eq_getElem hl)
  obtain ⟨b, off, spot⟩ := ad
  have hs : spot = none := by simpa [Addr.add] using World.cell?_spot h0
  subst hs
  have hat : ∀ j u, (prs l)[j]? = some u → w.cell? ⟨b, off + j, none⟩ = some u := by
    intro j u hu
    have := hc j u hu
    unfold Addr.add at this
    by_cases hj : j = 0
    · subst hj; simpa using this
    · simpa [hj] using this
  refine ⟨b, off, rfl, hb, fun i p hp => ?_⟩
  obtain ⟨h1, h2⟩ := prs_get hp
  exact ⟨hat _ _ h1, by rw [Nat.add_assoc]; exact hat _ _ h2⟩
theorem OwnQ.none_ (w : World) (B : Nat) : OwnQ w B (.slice none 0 0) [] := ⟨rfl, .inl ⟨rfl, rfl⟩⟩
theorem OwnQ.alloc {w : World} {B : Nat} {v : Value} {l : List (Int × Int)} (h : OwnQ w B v l) (o : Obj) : OwnQ (w.alloc o) B v l := World.ownsRow.alloc h o
theorem OwnQ.setFar {w : World} {B x : Nat} {v : Value} {l : List (Int × Int)} (h : OwnQ w B v l) (hx : x < B) (u : Value) : OwnQ (w.setCell ⟨x, 0, none⟩ u) B v l := by
  obtain ⟨h1, h2⟩ := h
  refine ⟨h1, ?_⟩
  rcases h2 with h2 | ⟨g, cap, cur, rfl, hb, hh, hr⟩
  · exact .inl h2
  · exact .inr ⟨g, cap, cur, rfl, hb, (Below.heap_setCell w ⟨x, 0, none⟩ _ g (by simp; omega)).trans hh, hr⟩
section
attribute [local go_sem] Oper.semAt_some
theorem eq_pair (a b c d : Int) (w : World) : (Op.equalIn 10000 50 (.agg #[.int .i64 a, .int .i64 b]) (.agg #[.int .i64 c, .int .i64 d])).run Try.prog w = .ok (a == c && b == d) w := by
  have u3 := Try.underlying3
  have a3 := Try.isAgg3
  have z3 := Try.sizeOf3
  rw [show (10000 : Nat) = 9999 + 1 from rfl, Op.equalIn]
  simp only [Sem.run_bind, run_underlying Try.underlying50, Result.andThen_ok]
  simp only [Std.Legacy.Range.forIn_eq_forIn_range', Std.Legacy.Range.size, Nat.sub_zero, Nat.add_sub_cancel, Nat.div_one, List.range'_succ, List.range'_zero, List.forIn_cons, List.forIn_nil]
  go_simp
  by_cases h1 : a = c <;> by_cases h2 : b = d <;> simp [h1, h2]
end
theorem build_pair (a b : Int) (w : World) : (Instr.build 50 #[(0, .int .i64 a), (1, .int .i64 b)]).run Try.prog w = .ok (.agg #[.int .i64 a, .int .i64 b]) w := run_build w 50 _ _ (by kernel_rfl)

theorem ownQ_lt {w : World} {B : Nat} {v : Value} {l : List (Int × Int)} (h : OwnQ w B v l) : ∀ g, v.ownBlock = some g → g < w.heap.size := by
  intro g hg
  rcases h.2 with ⟨rfl, _⟩ | ⟨g', cap, cur, rfl, _, hh, _⟩
  · simp [Value.ownBlock] at hg
  · simp [Value.ownBlock] at hg
    subst hg
    rcases Nat.lt_or_ge g' w.heap.size with h' | h'
    · exact h'
    · rw [Array.getElem?_eq_none h'] at hh; cases hh
/-- A pair more in the box. -/
theorem push_boxQ {w V V3 : World} {x : Nat} {v v3 : Value} {L M : List (Int × Int)} {o : Obj} (hO : Only w V x) (hb : Blk V x 49 #[v]) (hx : x < w.heap.size) (hown : OwnQ V w.heap.size v L) (hown3 : OwnQ V3 w.heap.size v3 M)
    (hg : (V.alloc o).grownBy V3 v.ownBlock) :
    (Only w V3 x ∧ Blk V3 x 49 #[v]) ∧ Only w (V3.setCell ⟨x, 0, none⟩ v3) x ∧ Blk (V3.setCell ⟨x, 0, none⟩ v3) x 49 #[v3] ∧ OwnQ (V3.setCell ⟨x, 0, none⟩ v3) w.heap.size v3 M := by
  have hbase := ownQ_base hown
  have hs : V.heap.size + 1 ≤ V3.heap.size := by have := hg.size; simpa using this
  have hk : ∀ i, i < w.heap.size → V3.heap[i]? = V.heap[i]? := fun i hi => by
    have h1 := hO.size
    refine (hg.block i (by simp; omega) (fun e => by have := hbase i e.symm; omega)).trans (Below.heap_alloc V _ i (by omega))
  have hO3 : Only w V3 x := ⟨hg.os.trans hO.os, hg.tape.trans hO.tape, hg.output.trans hO.output, by have := hO.size; omega, fun i hi hn => (hk i hi).trans (hO.block i hi hn)⟩
  have hb3 : Blk V3 x 49 #[v] := (hk x hx).trans hb
  exact ⟨⟨hO3, hb3⟩, hO3.set _ _, blk_put hb3 v3, hown3.setFar hx _⟩
theorem reads_pair (w : World) (x y : Int) (T : TypeId) : Reads (w.alloc (.cells #[.int .i64 x, .int .i64 y] T)) (w.heap.size + 1) 2 (some ⟨w.heap.size, 0, none⟩) 1 (prs [(x, y)]) := by
  refine ⟨rfl, fun _ => ⟨_, rfl, Nat.lt_succ_self _, fun j u hu => ?_⟩⟩
  have h0 : (w.alloc (.cells #[.int .i64 x, .int .i64 y] T)).cell? ⟨w.heap.size, j, none⟩ = (#[Value.int .i64 x, .int .i64 y] : Array Value)[j]? := cell_of_row _ _ j _ T (0, 0) (heap_alloc_new w _)
  have e : (⟨w.heap.size, 0, none⟩ : Addr).add j = ⟨w.heap.size, j, none⟩ := by unfold Addr.add; by_cases hj : j = 0 <;> simp [hj]
  rw [e, h0]
  simpa [prs] using hu
/-- What lies below, but some blocks, lies as it lay. -/
structure OnlyS (S : Nat → Prop) (w V : World) : Prop where
  os : V.os = w.os
  tape : V.tape = w.tape
  output : V.output = w.output
  size : w.heap.size ≤ V.heap.size
  block : ∀ i, i < w.heap.size → ¬ S i → V.heap[i]? = w.heap[i]?
section
variable {S : Nat → Prop} {w V : World}
theorem OnlyS.refl (S : Nat → Prop) (w : World) : OnlyS S w w := ⟨rfl, rfl, rfl, Nat.le_refl _, fun _ _ _ => rfl⟩
theorem OnlyS.set (h : OnlyS S w V) {x : Nat} (hx : S x) (u : Value) : OnlyS S w (V.setCell ⟨x, 0, none⟩ u) :=
  ⟨h.os, h.tape, h.output, by have := h.size; simpa [World.setCell] using this, fun i hi hn => (Below.heap_setCell V ⟨x, 0, none⟩ u i (fun e => by simp at e; subst e; exact hn hx)).trans (h.block i hi hn)⟩
theorem OnlyS.drewN (h : OnlyS S w V) (k : Nat) : OnlyS S w (V.drewN k) := ⟨h.os, h.tape, h.output, h.size, h.block⟩
theorem OnlyS.below {W' : World} (h : OnlyS S w V) (hb : Below V.heap.size V W') : OnlyS S w W' :=
  ⟨hb.os.trans h.os, hb.tape.trans h.tape, hb.output.trans h.output, Nat.le_trans h.size hb.size, fun i hi hn => (hb.block i (Nat.lt_of_lt_of_le hi h.size)).trans (h.block i hi hn)⟩
theorem OnlyS.blk {g : Nat} {t : TypeId} {cs : Array Value} (h : OnlyS S w V) (hg : Blk w g t cs) (hx : ¬ S g) : Blk V g t cs := (h.block g hg.lt hx).trans hg
theorem OnlyS.reads {B size n : Nat} {A : Option Addr} {xs : List Value} (h : OnlyS S w V) (hr : Reads w B size A n xs) (hB : B ≤ w.heap.size) (hx : 0 < n → ∀ ad, A = some ad → ¬ S ad.block) : Reads V B size A n xs := by
  refine ⟨hr.1, fun hn => ?_⟩
  obtain ⟨ad, e, hb, hc⟩ := hr.2 hn
  refine ⟨ad, e, hb, fun j u hu => (World.cell?_of_block (h.block _ (by rw [block_of_add]; omega) (by rw [block_of_add]; exact hx hn ad e))).trans (hc j u hu)⟩
theorem OnlyS.stay {D : Nat → Prop} (h : OnlyS S w V) (hD : ∀ b, D b → b < w.heap.size ∧ ¬ S b) : Stay D w V := ⟨h.size, fun b hb => h.block b (hD b hb).1 (hD b hb).2⟩
theorem OnlyS.bel {B : Nat} {a : World} (h : Below B a w) (k : OnlyS S w V) (hS : ∀ b, S b → B ≤ b) (hB : B ≤ w.heap.size) : Below B a V :=
  ⟨k.os.trans h.os, k.tape.trans h.tape, k.output.trans h.output, Nat.le_trans h.size k.size, fun i hi => (k.block i (by omega) (fun e => by have := hS i e; omega)).trans (h.block i hi)⟩
theorem OnlyS.marks {B : Nat} {ds : List Deferred} (h : Marks B ds w) (k : OnlyS S w V) (hS : ∀ b, S b → ∃ t cs, Blk w b t cs) : Marks B ds V :=
  h.keep k.size (fun q ⟨d, hd, he⟩ => k.block q (h.lt d hd q he) (fun hs => by
    obtain ⟨t, cs, hb⟩ := hS q hs
    obtain ⟨D, e1, _, h2, h3⟩ := h.mem d hd
    rw [e1] at he
    injection he with he
    injection he with he
    subst he
    unfold Blk at hb
    rw [hb] at h3; cases h3))
theorem own_onlyS {β : Type} (W1 : World) (S : Nat → Prop) : OwnFrom (β := β) W1.heap.size (fun _ W => OnlyS S W1 W) := by
  intro s A B row h hg hr
  refine ⟨hg.os.trans h.os, hg.tape.trans h.tape, hg.output.trans h.output, Nat.le_trans h.size hg.size, fun k hk hne => ?_⟩
  refine (hg.block k (Nat.lt_of_lt_of_le hk h.size) (fun e => ?_)).trans (h.block k hk hne)
  have := (hr k e.symm).1
  omega
end
theorem run_min2 (P : Program) (ts : Array TypeId) (t : TypeId) (a b M : Int) (hM : M = min a b) (w : World) :
    (Builtin.min_ ts t #[.int .i64 a, .int .i64 b]).run P w = .ok (.int .i64 M) w := by
  subst hM
  have e1 : (if b < a then b else a) = min a b := by split <;> omega
  simp only [Builtin.min_, List.foldlM, Builtin.min2, e1, pure_bind]
  rfl
end Go.Proofs.Ytohlgimbohkepaa.Pk
