/- What every row of statements needs of its arguments: their size, their ranges, how a list of numbers is opened. -/
import Derived.Test.YtcicpgiljceioaaRows
import Derived.Test.YtcicpgiljceioaaZWords
import Derived.WalkKit
import Derived.ProofKit
import Derived.OpenShut
import Derived.ShutString
import Derived.ChangeOld
import Derived.Below
import Derived.SizedLaws
import Derived.Deep.CondSized
import Derived.JoinedCond
import Derived.RangeFuncNested
import Derived.RangeFuncBound
import Derived.RangeFuncCalls
import Derived.RangeFuncLeaves
import Derived.RangeFuncBox
import Derived.RangeFuncWrites
import Derived.Shelf.Abstract
import Derived.Shelf.RegionOpen
import Derived.OwnWalkIn
import Derived.TacticsInMore
import Derived.LoopNIn
import Derived.LoopIn
import Derived.LoopTactic
import Derived.Outline
import Derived.Lib.Hide
import Derived.Test.YtcicpgiljceioaaProg
namespace Go.Proofs.Ytcicpgiljceioaa.Ar
open Go.ChangeShapes Go.WideShapes Go.ChangeAt Go.RowKit Go.Proofs.Ytcicpgiljceioaa.Pk
set_option linter.unusedVariables false

theorem own : ownKnob Try.prog.godebug = none := by kernel_rfl
theorem laidOut : laidOutB Try.prog = true := by kernel_rfl
theorem bulk_one {H : Type} (d : DataW H) : 1 ≤ Rows.uptoBulk d := by
  cases d with
  | lit l => cases l <;> simp [Rows.uptoBulk]
  | nil => simp [Rows.uptoBulk]
  | ptr d => simp [Rows.uptoBulk]
  | slice elems spare => simp [Rows.uptoBulk]
  | agg parts => simp [Rows.uptoBulk]
  | iface t d => simp [Rows.uptoBulk]
  | map entries => simp [Rows.uptoBulk]
  | held h => simp [Rows.uptoBulk]
theorem bulk_length {H : Type} (l : List (DataW H)) : l.length ≤ Rows.uptoBulkAll l := by
  induction l with
  | nil => simp [Rows.uptoBulkAll]
  | cons x r ih => have := bulk_one x; simp only [Rows.uptoBulkAll, List.length_cons]; omega
theorem bulk_slice {H : Type} (elems spare : List (DataW H)) : elems.length + spare.length + 1 ≤ Rows.uptoBulk (.slice elems spare) := by
  have h1 := bulk_length elems
  have h2 := bulk_length spare
  simp only [Rows.uptoBulk]
  omega
theorem bulk_all {H : Type} {l : List (DataW H)} (hk : Rows.uptoSmall H l = true) : Rows.uptoBulkAll l ≤ 1048576 := of_decide_eq_true hk

section
variable {H : Type} {enc : TypeId × Value → H} {W : World} {d : DataW H} {ps : List MemPlace}

theorem u8_rng {n : Int} (h : (Lit.int .u8 n).wf = true) : 0 ≤ n ∧ n ≤ 255 := by
  simpa [Lit.wf, IntKind.min, IntKind.max, IntKind.signed, IntKind.bits] using h
theorem i64_rng {n : Int} (h : (Lit.int .i64 n).wf = true) : -9223372036854775808 ≤ n ∧ n ≤ 9223372036854775807 := by
  simpa [Lit.wf, IntKind.min, IntKind.max, IntKind.signed, IntKind.bits] using h

theorem u32_rng {n : Int} (h : (Lit.int .u32 n).wf = true) : 0 ≤ n ∧ n ≤ 4294967295 := by
  simpa [Lit.wf, IntKind.min, IntKind.max, IntKind.signed, IntKind.bits] using h

theorem lt_heap {w : World} {a : Addr} {u : Value} (h : w.cell? a = some u) : a.block < w.heap.size := by
  rcases Nat.lt_or_ge a.block w.heap.size with h1 | h1
  · exact h1
  · unfold World.cell? at h
    rw [Array.getElem?_eq_none h1] at h
    simp at h

theorem open_raw {t e : TypeId} {k : IntKind} {a : Option Addr} {n c : Nat} (ht : Try.prog.underlying t = some (.slice e)) (he : Try.prog.underlying e = some (.int k)) (hc : Try.prog.cellsOf e = 1)
    (h : DataW.Trod enc Try.prog W 0 (fun _ => true) true t (.slice a n c) d ps) (hsz : ∀ elems spare, d = .slice elems spare → (elems.length + spare.length) * Try.prog.bytesOf e ≤ reachBytes) :
    ∃ l : List Int, Reads W W.heap.size 1 a n (l.map (Value.int k)) ∧ n ≤ c ∧ c * Try.prog.bytesOf e ≤ reachBytes ∧ (∀ x ∈ l, (Lit.int k x).wf = true) ∧ (n < Rows.uptoBulk d) := by
  obtain ⟨fuel, hf⟩ := h
  rcases open_ints ht he hc hf with ⟨hcs, hx⟩ | ⟨x, l, c', zs, hcs, _, hl, hm, hz, hx, hcell, hwz⟩
  · simp [Value.cells] at hcs
    obtain ⟨rfl, rfl, rfl⟩ := hcs
    exact ⟨[], Reads.none_, Nat.le_refl _, by simp, by simp, bulk_one d⟩
  · simp [Value.cells] at hcs
    obtain ⟨rfl, rfl, rfl⟩ := hcs
    simp only [if_true] at hz
    have hd : d = .slice (lits k (zs.take n)) (lits k (zs.drop n)) := by
      simp only [Prod.mk.injEq] at hx; exact hx.1
    have hr := hsz _ _ hd
    have hbu := bulk_slice (H := H) (lits k (zs.take n)) (lits k (zs.drop n))
    rw [← hd] at hbu
    simp only [lits, List.length_map, List.length_take, List.length_drop] at hr hbu
    rw [show min n zs.length + (zs.length - n) = c by omega] at hr
    refine ⟨zs.take n, ⟨by simp; omega, fun hn => ⟨x, rfl, ?_, fun j u hj => ?_⟩⟩, hl, hr, fun y hy => hwz y (List.mem_of_mem_take hy), by omega⟩
    · have := lt_heap (hcell 0 (by omega))
      simpa [Pk.block_of_add] using this
    · rw [List.getElem?_map] at hj
      have hjn : j < n := by
        rcases Nat.lt_or_ge j n with h1 | h1
        · exact h1
        · rw [List.getElem?_eq_none (by simp; omega)] at hj; simp at hj
      rw [List.getElem?_take_of_lt hjn, List.getElem?_eq_getElem (by omega)] at hj
      simp at hj
      rw [hcell j (by omega), ← hj, List.getD_eq_getElem?_getD, List.getElem?_eq_getElem (by omega)]; rfl

end
end Go.Proofs.Ytcicpgiljceioaa.Ar

/- Ranges over functions: who turns which block, what a return takes with it; needs no package. -/
namespace Go.Proofs.Ytcicpgiljceioaa.Pk
open Go.RowKit Go.Shelf
set_option linter.unusedVariables false
attribute [local go_sem] Oper.semAt_some

/-- Only block R may have turned, and new blocks are there. -/
def Only (w w' : World) (R : Nat) : Prop := w.grownBy w' (some R)
theorem Only.refl (w : World) (R : Nat) : Only w w R := ⟨rfl, rfl, rfl, Nat.le_refl _, fun _ _ _ => rfl⟩
theorem Only.trans {a b c : World} {R : Nat} (h : Only a b R) (k : Only b c R) : Only a c R :=
  ⟨k.os.trans h.os, k.tape.trans h.tape, k.output.trans h.output, Nat.le_trans h.size k.size, fun i hi hn => (k.block i (Nat.lt_of_lt_of_le hi h.size) hn).trans (h.block i hi hn)⟩
theorem Only.of {w w' : World} (h : Below w.heap.size w w') (R : Nat) : Only w w' R := ⟨h.os, h.tape, h.output, h.size, fun i hi _ => h.block i hi⟩
theorem Only.drewN {a w : World} {R : Nat} (h : Only a w R) (n : Nat) : Only a (w.drewN n) R := ⟨h.os, h.tape, h.output, h.size, h.block⟩
theorem Only.set {w w' : World} {R : Nat} (h : Only w w' R) (o : Nat) (u : Value) : Only w (w'.setCell ⟨R, o, none⟩ u) R :=
  ⟨h.os, h.tape, h.output, by simpa [World.setCell] using h.size, fun i hi hn => (Below.heap_setCell w' ⟨R, o, none⟩ u i (by rintro rfl; exact hn rfl)).trans (h.block i hi hn)⟩
theorem Only.below {B : Nat} {a w w' : World} {R : Nat} (h : Below B a w) (k : Only w w' R) (hR : B ≤ R) (hB : B ≤ w.heap.size) : Below B a w' :=
  h.grown k hB (fun g e => by injection e with e; omega)

theorem blk_kept {A B : World} {row : Option Nat} {g : Nat} {t : TypeId} {cs : Array Value} (h : Blk A g t cs) (hg : A.grownBy B row) (hr : ∀ r, row = some r → ∃ o, A.heap[r]? = some o ∧ o.isCells = false) : Blk B g t cs := by
  refine (hg.block g h.lt (fun e => ?_)).trans h
  obtain ⟨o, h1, h2⟩ := hr g e.symm
  unfold Blk at h
  rw [h] at h1
  injection h1 with h1
  subst h1
  simp [Obj.isCells] at h2

theorem own_only {β : Type} (W1 : World) (x : Nat) : OwnFrom (β := β) W1.heap.size (fun _ W => Only W1 W x) := by
  intro s A B row h hg hr
  refine ⟨hg.os.trans h.os, hg.tape.trans h.tape, hg.output.trans h.output, Nat.le_trans h.size hg.size, fun k hk hne => ?_⟩
  refine (hg.block k (Nat.lt_of_lt_of_le hk h.size) (fun e => ?_)).trans (h.block k hk hne)
  have := (hr k e.symm).1
  omega
theorem blk_put {W : World} {g : Nat} {t : TypeId} {u : Value} (h : Blk W g t #[u]) (v : Value) : Blk (W.setCell ⟨g, 0, none⟩ v) g t #[v] := by
  have := h.set_ 0 v
  simpa using this
def Marks (B : Nat) : List Deferred → World → Prop
  | [], _ => True
  | d :: ds, W => ∃ D, d = { target := .collected D, args := #[] } ∧ B ≤ D ∧ D < W.heap.size ∧ W.heap[D]? = some (.deferred (some [])) ∧ (∀ d' ∈ ds, d' ≠ d) ∧ Marks B ds W
theorem Marks.mem {B : Nat} {ds : List Deferred} {W : World} (h : Marks B ds W) : ∀ d ∈ ds, ∃ D, d = { target := .collected D, args := #[] } ∧ B ≤ D ∧ D < W.heap.size ∧ W.heap[D]? = some (.deferred (some [])) := by
  induction ds with
  | nil => intro d hd; cases hd
  | cons x r ih =>
    obtain ⟨D, e, h1, h2, h3, h4, h5⟩ := h
    intro d hd
    rcases List.mem_cons.1 hd with rfl | hd
    · exact ⟨D, e, h1, h2, h3⟩
    · exact ih h5 d hd
theorem Marks.keep {B : Nat} {ds : List Deferred} {W W' : World} (h : Marks B ds W) (hs : W.heap.size ≤ W'.heap.size) (hk : ∀ k, (∃ d ∈ ds, d = { target := .collected k, args := #[] }) → W'.heap[k]? = W.heap[k]?) : Marks B ds W' := by
  induction ds with
  | nil => trivial
  | cons x r ih =>
    obtain ⟨D, e, h1, h2, h3, h4, h5⟩ := h
    exact ⟨D, e, h1, by omega, (hk D ⟨x, by simp, e⟩).trans h3, h4, ih h5 (fun k ⟨d, hd, he⟩ => hk k ⟨d, by simp [hd], he⟩)⟩
/-- Blocks of cells are none of them. -/
theorem Marks.only {B : Nat} {ds : List Deferred} {W W' : World} {g : Nat} {t : TypeId} {cs : Array Value} (h : Marks B ds W) (ho : Only W W' g) (hg : Blk W g t cs) : Marks B ds W' := by
  refine h.keep ho.size (fun k ⟨d, hd, he⟩ => ho.block k ?_ (fun e => ?_))
  · obtain ⟨D, e1, _, h2, _⟩ := h.mem d hd
    rw [e1] at he
    injection he with he
    injection he with he
    omega
  · injection e with e
    subst e
    obtain ⟨D, e1, _, h2, h3⟩ := h.mem d hd
    rw [e1] at he
    injection he with he
    injection he with he
    subst he
    unfold Blk at hg
    rw [hg] at h3; cases h3
theorem Marks.below {B : Nat} {ds : List Deferred} {W W' : World} (h : Marks B ds W) (hb : Below W.heap.size W W') : Marks B ds W' :=
  h.keep hb.size (fun k ⟨d, hd, he⟩ => hb.block k (by
    obtain ⟨D, e1, _, h2, _⟩ := h.mem d hd
    rw [e1] at he
    injection he with he
    injection he with he
    omega))
theorem Marks.cons {B D : Nat} {ds : List Deferred} {W : World} (h : Marks B ds W) (hlt : ∀ d ∈ ds, ∀ k, d = { target := .collected k, args := #[] } → k < D) (hB : B ≤ D) (hD : W.heap[D]? = some (.deferred (some []))) : Marks B ({ target := .collected D, args := #[] } :: ds) W := by
  refine ⟨D, rfl, hB, ?_, hD, fun d' hd' e => ?_, h⟩
  · rcases Nat.lt_or_ge D W.heap.size with h1 | h1
    · exact h1
    · rw [Array.getElem?_eq_none h1] at hD; cases hD
  · have := hlt d' hd' D e
    omega
/-- All below the heap's size as it was. -/
theorem Marks.lt {B : Nat} {ds : List Deferred} {W : World} (h : Marks B ds W) : ∀ d ∈ ds, ∀ k, d = { target := .collected k, args := #[] } → k < W.heap.size := by
  intro d hd k e
  obtain ⟨D, e1, _, h2, _⟩ := h.mem d hd
  rw [e1] at e
  injection e with e
  injection e with e
  omega

theorem below_putObj {B D : Nat} (W : World) (o : Obj) (h : B ≤ D) : Below B W (W.putObj D o) :=
  ⟨rfl, rfl, rfl, by simp [World.putObj], fun k hk => World.putObj_heap_other (by omega)⟩

/-- At the return each is taken. -/
theorem Marks.leave {F : Fence} {n : Nat} {P : Program} {fn : Func} {tmps : Array Value} {R : Ending → World → Prop} {B : Nat} : ∀ (ds : List Deferred) (W : World), Marks B ds W →
    (∀ W', Below B W W' → LeavesIn F n P fn tmps R [] .returning W') → LeavesInM F n P fn tmps R ds .returning W := by
  intro ds
  induction ds with
  | nil => intro W _ h; exact h W (Below.refl _ _)
  | cons d ds ih =>
    intro W hm h
    obtain ⟨D, rfl, h1, h2, h3, h4, h5⟩ := hm
    refine ⟨by simp, .inl ⟨D, W.putObj D (.deferred none), rfl, run_takeDeferred h3, ?_⟩⟩
    have hb := below_putObj W (.deferred none) h1
    refine ih _ (h5.keep (by simp [World.putObj]) (fun k ⟨d, hd, he⟩ => World.putObj_heap_other (fun e => ?_))) (fun W' hW' => h W' (hb.trans hW'))
    exact h4 d hd (by rw [he, e])
end Go.Proofs.Ytcicpgiljceioaa.Pk
