/- The walks of pack.Numbers and of the function that it answers. -/
import Derived.RangeFuncNested
import Derived.RangeFuncBound
import Derived.RangeFuncCalls
import Derived.RangeFuncLeaves
import Derived.RangeFuncBox
import Derived.Shelf.Abstract
import Derived.Shelf.RegionOpen
import Derived.OwnWalkIn
import Derived.TacticsInMore
import Derived.LoopNIn
import Derived.LoopIn
import Derived.Test.YtkgkiplidjoamaaPackReader
import Derived.Test.YtkgkiplidjoamaaPackNumsMath
namespace Go.Proofs.Ytkgkiplidjoamaa.Pk
open Go.RowKit Go.Shelf
set_option linter.unusedVariables false
attribute [local go_sem] Oper.semAt_some

theorem blk_kept {A B : World} {row : Option Nat} {g : Nat} {t : TypeId} {cs : Array Value} (h : Blk A g t cs) (hg : A.grownBy B row) (hr : ∀ r, row = some r → ∃ o, A.heap[r]? = some o ∧ o.isCells = false) : Blk B g t cs := by
  refine (hg.block g h.lt (fun e => ?_)).trans h
  obtain ⟨o, h1, h2⟩ := hr g e.symm
  unfold Blk at h
  rw [h] at h1
  injection h1 with h1
  subst h1
  simp [Obj.isCells] at h2

/-- What an iterator reads: its box, and the bytes in it. -/
def Src (W : World) (Bs g : Nat) (A : Option Addr) (n c : Nat) (l : List Int) : Prop :=
  W.cell? ⟨Bs, 0, none⟩ = some (.slice A n c) ∧ Reads W W.heap.size 1 A n (bts l) ∧ (0 < n → ∀ ad, A = some ad → ad.block = g)
/-- A round that goes on leaves both. -/
def KeepB (Bs g : Nat) (W W' : World) : Prop := W.heap.size ≤ W'.heap.size ∧ W'.heap[Bs]? = W.heap[Bs]? ∧ W'.heap[g]? = W.heap[g]?
theorem KeepB.refl (Bs g : Nat) (W : World) : KeepB Bs g W W := ⟨Nat.le_refl _, rfl, rfl⟩
theorem KeepB.trans {Bs g : Nat} {A B C : World} (h : KeepB Bs g A B) (k : KeepB Bs g B C) : KeepB Bs g A C := ⟨Nat.le_trans h.1 k.1, k.2.1.trans h.2.1, k.2.2.trans h.2.2⟩
theorem Src.keep {W W' : World} {Bs g : Nat} {A : Option Addr} {n c : Nat} {l : List Int} (h : Src W Bs g A n c l) (hk : KeepB Bs g W W') : Src W' Bs g A n c l := by
  obtain ⟨h1, h2, h3⟩ := h
  refine ⟨(World.cell?_of_block (a := ⟨Bs, 0, none⟩) hk.2.1).trans h1, ⟨h2.1, fun hn => ?_⟩, h3⟩
  obtain ⟨ad, e, hb, hc⟩ := h2.2 hn
  have hg := h3 hn ad e
  refine ⟨ad, e, by have := hk.1; omega, fun j u hu => ?_⟩
  rw [← hc j u hu]
  exact World.cell?_of_block (by rw [block_of_add, hg]; exact hk.2.2)

set_option maxRecDepth 100000 in
set_option maxHeartbeats 2000000 in
theorem iter_in (m : Nat) (hm : 1 ≤ m) (l Bs g : Nat) (A : Option Addr) (n c : Nat) (bs : List Int) (hn : n ≤ 140737488355328) (hnc : n ≤ c) (hB : isB bs) (J Jx : List (Nat × Int) → World → Prop)
    (hY : ∀ pre (x : Nat × Int) W, J pre W → pre.length < bs.length → YieldAt Fence.wide (m - 1) Try.prog l #[.int .i64 (x.1 : Int), .int .i64 x.2] W fun e W' =>
      (e = .returned (.bool true) ∧ J (pre ++ [x]) W' ∧ KeepB Bs g W W') ∨ (e = .returned (.bool false) ∧ Jx (pre ++ [x]) W'))
    (W : World) (hS : Src W Bs g A n c bs) (h0 : J [] W) :
    CallsIn Fence.wide m Try.prog 30 #[.func (.yield l) #[] #[], .pointer (some ⟨Bs, 0, none⟩)] W fun e W' => (∃ v, e = .returned v) ∧
      ((∃ ys, ys = nums bs ∧ J ys W') ∨ (∃ pre, pre <+: nums bs ∧ Jx pre W')) := by
  refine callsIn_of_wp Try.func30 rfl trivial ?_ rfl
  simp only [Try.ntmps30, List.size_toArray, List.length_cons, List.length_nil, Nat.reduceAdd, Nat.reduceSub, Array.replicate_succ, Array.replicate_zero, List.push_toArray, List.append_toArray, List.nil_append, List.cons_append]
  gi_wp2
  gi_loopw [3] (fun p wr => ∃ (o : Nat) (pre : List (Nat × Int)), p = .int .i64 o ∧ o ≤ n ∧ pre.length ≤ o ∧ Ahead bs pre o ∧ J pre wr ∧ Src wr Bs g A n c bs) (fun p _ => n - (intOf p).toNat)
  case atStart => exact ⟨0, [], rfl, Nat.zero_le _, Nat.le_refl _, ahead_start bs, h0, hS⟩
  case round =>
    obtain ⟨o, pre, rfl, hon, hpl, hA, hJ, hSr⟩ := hrel
    obtain ⟨hcell, hread, hgg⟩ := hSr
    have HL : Hid (bs.length = n) := by have := hread.1; simp at this; exact this
    have HA := Lib.hid hA
    have HB := Lib.hid hB
    have HS : Hid (Src wr Bs g A n c bs) := ⟨hcell, hread, hgg⟩
    have HR := Lib.hid hread
    have HJ := Lib.hid hJ
    have HY := Lib.hid hY
    clear hA hread hgg hJ hY hS h0 hB
    by_cases hco : c = o
    · subst hco
      have HT := Lib.hid (take_empty A 0 wr)
      have HT0 : Hid ((tkv (bs.drop c)).2 = 0) := by
        show (tkv (bs.drop c)).2 = 0
        rw [List.drop_eq_nil_iff.2 (by rw [HL.out]; omega)]; decide
      have hz : n - c = 0 := by omega
      gi_wp2_with (refine ⟨trivial, ?_⟩; gi_at_call 16; refine (callsIn_wide.2 HT.out).mono ?_; rintro e w' ⟨rfl, rfl⟩)
      refine ⟨fun _ h => (by cases h), ?_⟩
      gi_wp2
      refine bodyPost_ret (results_none rfl _ _ _) rfl ?_
      exact ⟨⟨_, rfl⟩, .inl ⟨_, ahead_end HA.out HT0.out, HJ.out⟩⟩
    · have HT := Lib.hid (take_any (A.map fun x => x.add o) (n - o) (c - o) (bs.drop o) wr wr.heap.size (HR.out.cutA hon) (isB_drop HB.out o) (by omega) (by omega))
      rcases tkv_cases (bs.drop o) (isB_drop HB.out o) with ht | ⟨y, k, ht, hy0, hy1, hk1, hk2, hk9, hyk⟩
      · have HT0 : Hid ((tkv (bs.drop o)).2 = 0) := by show (tkv (bs.drop o)).2 = 0; rw [ht]
        rw [ht] at HT
        clear ht
        gi_wp2_with (refine ⟨trivial, ?_⟩; gi_at_call 16; refine (callsIn_wide.2 HT.out).mono ?_; rintro e w' ⟨rfl, rfl⟩)
        refine ⟨fun _ h => (by cases h), ?_⟩
        gi_wp2
        refine bodyPost_ret (results_none rfl _ _ _) rfl ?_
        exact ⟨⟨_, rfl⟩, .inl ⟨_, ahead_end HA.out HT0.out, HJ.out⟩⟩
      · have HT0 := Lib.hid ht
        rw [ht] at HT
        have hk3 : k ≤ n - o := by rw [List.length_drop, HL.out] at hk2; exact hk2
        have hk0 : ((k : Int) == 0) = false := beq_eq_false_iff_ne.2 (by omega)
        have hAm : Hid (Ahead bs (pre ++ [(o, y)]) (o + k)) := by
          have := ahead_more HA.out (by rw [ht]; show k ≠ 0; omega) (by rw [ht]; exact hk2)
          rw [ht] at this; exact this
        obtain ⟨fn, tmps, assign, body, hy, hR⟩ := HY.out pre (o, y) wr HJ.out (by rw [HL.out]; omega)
        dsimp only at hy
        have HRR := Lib.hid hR
        clear ht hyk hk2 hR
        gi_wp2_with (refine ⟨trivial, ?_⟩; gi_at_call 16; refine (callsIn_wide.2 HT.out).mono ?_; rintro e w' ⟨rfl, rfl⟩)
        refine HRR.out.mono ?_
        rintro e W3 (⟨rfl, hJ3, hk3⟩ | ⟨rfl, hJx3⟩)
        · gi_wp2
          go_roundw
          case rel => exact ⟨o + k, pre ++ [(o, y)], by go_num, by omega, by simp; omega, hAm.out, hJ3, HS.out.keep hk3⟩
          case measure => simp only [intOf]; omega
        · gi_wp2
          refine bodyPost_ret (results_none rfl _ _ _) rfl ?_
          exact ⟨⟨_, rfl⟩, .inr ⟨_, ahead_prefix hAm.out, hJx3⟩⟩

/-- What Numbers answers goes over the numbers that stand there. -/
theorem iter_stops (m : Nat) (hm : 1 ≤ m) (Bs g : Nat) (A : Option Addr) (n c : Nat) (bs : List Int) (hn : n ≤ 140737488355328) (hnc : n ≤ c) (hB : isB bs) (w : World) (hBs : Bs < w.heap.size) (hg : g < w.heap.size) (hS : Src w Bs g A n c bs) :
    SeqStopsK Fence.wide m Try.prog 30 #[.pointer (some ⟨Bs, 0, none⟩)] (fun x : Nat × Int => #[Value.int .i64 (x.1 : Int), Value.int .i64 x.2]) (KeepB Bs g) (fun ys => ys = nums bs) (fun pre => pre <+: nums bs) bs.length w :=
  fun l J Jx W hW _ _ hY h0 => iter_in m hm l Bs g A n c bs hn hnc hB J Jx hY W (hS.keep ⟨hW.size, hW.block Bs hBs, hW.block g hg⟩) h0

theorem keepB_b {w : World} {Bs g : Nat} (hBs : Bs < w.heap.size) (hg : g < w.heap.size) : ∀ (W : World) (l : Nat) (o o' : Obj), w.heap.size ≤ l → W.heap[l]? = some o → o.isCells = false → o.isWalk = false → KeepB Bs g W (W.putObj l o') := by
  intro W l o o' hl _ _ _
  exact ⟨by simp [World.putObj], World.putObj_heap_other (by omega), World.putObj_heap_other (by omega)⟩

/-- Numbers: a copy of the bytes, in a box, and the function over it. -/
theorem numbers_any (A : Option Addr) (n c : Nat) (l : List Int) (w : World) (h : Reads w w.heap.size 1 A n (bts l)) (hB : isB l) (hn : n ≤ 140737488355328) :
    Calls Try.prog 18 #[.slice A n c] w fun e w' => ∃ Bs g A' n' c', e = .returned (.func (.func 30) #[] #[.pointer (some ⟨Bs, 0, none⟩)]) ∧ w.heap.size ≤ Bs ∧ Bs < w'.heap.size ∧ g < w'.heap.size ∧ w.heap.size ≤ g ∧ l.length = n' ∧ n' ≤ c' ∧ Src w' Bs g A' n' c' l ∧ Below w.heap.size w w' := by
  have HC := Lib.hid (clone_any A n c l w h hn)
  clear h
  go_enter Try.func18, Try.ntmps18
  go_wp2_with fail
  refine HC.out.mono ?_
  rintro e w1 ⟨v1, rfl, hown1, hb1⟩
  obtain ⟨A1, n1, c1, rfl, hc1, hn1, hr1⟩ := hown1.val
  have hsz := hb1.size
  have hgx : ∃ g, w.heap.size ≤ g ∧ g < w1.heap.size + 1 ∧ (0 < n1 → ∀ ad, A1 = some ad → ad.block = g) := by
    rcases hown1.2 with ⟨e, h0⟩ | ⟨g, cap, cur, e, hg, hh, _⟩
    · exact ⟨w1.heap.size, hsz, by omega, fun hp => by omega⟩
    · injection e with e1 e2 e3
      refine ⟨g, hg, ?_, fun _ ad had => ?_⟩
      · rcases Nat.lt_or_ge g w1.heap.size with h | h
        · omega
        · rw [Array.getElem?_eq_none h] at hh; cases hh
      · rw [had] at e1; injection e1 with e1; rw [e1]
  clear hown1
  obtain ⟨g, hg1, hg2, hg3⟩ := hgx
  go_wp2
  go_ret
  exact ⟨w1.heap.size, g, A1, n1, c1, rfl, hsz, by simp, by simpa using hg2, hg1, hn1, hc1, ⟨by simp, (hr1.alloc (Nat.le_refl _) _).more (by simp), hg3⟩, hb1.alloc hsz _⟩
end Go.Proofs.Ytkgkiplidjoamaa.Pk
