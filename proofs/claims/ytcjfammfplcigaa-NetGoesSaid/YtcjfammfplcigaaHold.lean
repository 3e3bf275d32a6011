/- Parts of memory that a call leaves alone: what lies from one block to another, and who turns it; memory that is made of zeros. -/
import Derived.Test.YtcjfammfplcigaaBytes
import Derived.OwnWalk
namespace Go.Proofs.Ytcjfammfplcigaa.Pk
open Go.RowKit
set_option linter.unusedVariables false

/-- Only blocks from lo up to hi may have turned, and new blocks are there. -/
structure Mod (lo hi : Nat) (w w' : World) : Prop where
  os : w'.os = w.os
  tape : w'.tape = w.tape
  output : w'.output = w.output
  size : w.heap.size ≤ w'.heap.size
  block : ∀ i, i < w.heap.size → (i < lo ∨ hi ≤ i) → w'.heap[i]? = w.heap[i]?

section
variable {lo hi a b B : Nat} {w w' w2 : World} {p : World → Prop}
theorem Mod.of (h : Below w.heap.size w w') (lo hi : Nat) : Mod lo hi w w' := ⟨h.os, h.tape, h.output, h.size, fun i hi _ => h.block i hi⟩
theorem Mod.row {row : Option Nat} (h : w.grownBy w' row) (hr : ∀ g, row = some g → lo ≤ g ∧ g < hi) : Mod lo hi w w' :=
  ⟨h.os, h.tape, h.output, h.size, fun i hi' hn => h.block i hi' (fun e => by have := hr i e.symm; omega)⟩
theorem Mod.refl (lo hi : Nat) (w : World) : Mod lo hi w w := ⟨rfl, rfl, rfl, Nat.le_refl _, fun _ _ _ => rfl⟩
theorem Mod.trans (h : Mod lo hi w w') (k : Mod lo hi w' w2) : Mod lo hi w w2 :=
  ⟨k.os.trans h.os, k.tape.trans h.tape, k.output.trans h.output, Nat.le_trans h.size k.size, fun i h1 h2 => (k.block i (Nat.lt_of_lt_of_le h1 h.size) h2).trans (h.block i h1 h2)⟩
theorem Mod.below (h : Mod lo hi w w') {u : World} (hb : Below B u w) (h1 : B ≤ lo) (hB : B ≤ w.heap.size) : Below B u w' :=
  ⟨h.os.trans hb.os, h.tape.trans hb.tape, h.output.trans hb.output, Nat.le_trans hb.size h.size, fun i hi => (h.block i (by omega) (.inl (by omega))).trans (hb.block i hi)⟩
theorem Mod.drewN (h : Mod lo hi w w') (n : Nat) : Mod lo hi w (w'.drewN n) := ⟨h.os, h.tape, h.output, h.size, h.block⟩
theorem Mod.drew (h : Mod lo hi w w') : Mod lo hi w w'.drew := ⟨h.os, h.tape, h.output, h.size, h.block⟩
theorem Mod.drawn (lo hi : Nat) (w : World) (n : Nat) : Mod lo hi w (w.drewN n) := (Mod.refl lo hi w).drewN n
theorem Mod.drawn1 (lo hi : Nat) (w : World) : Mod lo hi w w.drew := (Mod.refl lo hi w).drew
/-- What the call's own and later blocks may turn to. -/
theorem Mod.late {row : Option Nat} (h : Mod lo hi w w') (k : w'.grownBy w2 row) (hr : ∀ g, row = some g → (lo ≤ g ∧ g < hi) ∨ w.heap.size ≤ g) : Mod lo hi w w2 :=
  ⟨k.os.trans h.os, k.tape.trans h.tape, k.output.trans h.output, Nat.le_trans h.size k.size, fun i h1 h2 =>
    (k.block i (Nat.lt_of_lt_of_le h1 h.size) (fun e => by have := hr i e.symm; omega)).trans (h.block i h1 h2)⟩

/-- p holds, and holds as long as the blocks from lo up to hi stay. -/
def Held (lo hi : Nat) (p : World → Prop) (w : World) : Prop := hi ≤ w.heap.size ∧ ∀ w', w.heap.size ≤ w'.heap.size → (∀ i, lo ≤ i → i < hi → w'.heap[i]? = w.heap[i]?) → p w'
theorem Held.out (h : Held lo hi p w) : p w := h.2 w (Nat.le_refl _) (fun _ _ _ => rfl)
theorem Held.mod (h : Held lo hi p w) (m : Mod a b w w') (hd : b ≤ lo ∨ hi ≤ a) : Held lo hi p w' :=
  ⟨Nat.le_trans h.1 m.size, fun w2 hs hk => h.2 w2 (Nat.le_trans m.size hs) (fun i h1 h2 => (hk i h1 h2).trans (m.block i (by have := h.1; omega) (by omega)))⟩
theorem Held.below (h : Held lo hi p w) (m : Below w.heap.size w w') : Held lo hi p w' := h.mod (Mod.of m 0 0) (.inl (Nat.zero_le _))
theorem Held.drewN (h : Held lo hi p w) (n : Nat) : Held lo hi p (w.drewN n) := h
theorem Held.drew (h : Held lo hi p w) : Held lo hi p w.drew := h
theorem Held.alloc (h : Held lo hi p w) (o : Obj) : Held lo hi p (w.alloc o) := h.below ((Below.refl _ _).alloc (Nat.le_refl _) _)
end

/-- The slice reads as xs, between the blocks lo and hi. -/
def RowI (lo hi : Nat) (A : Option Addr) (n : Nat) (xs : List Value) (w : World) : Prop := Reads w hi 1 A n xs ∧ (0 < n → ∀ ad, A = some ad → lo ≤ ad.block)
theorem RowI.held {lo hi n : Nat} {A : Option Addr} {xs : List Value} {w : World} (h : RowI lo hi A n xs w) (hh : hi ≤ w.heap.size) : Held lo hi (RowI lo hi A n xs) w := by
  refine ⟨hh, fun w' hs hk => ⟨⟨h.1.1, fun hn => ?_⟩, h.2⟩⟩
  obtain ⟨ad, e, hb, hc⟩ := h.1.2 hn
  refine ⟨ad, e, hb, fun j u hu => ?_⟩
  rw [← hc j u hu]
  exact World.cell?_of_block (hk _ (by rw [block_of_add]; exact h.2 hn ad e) (by rw [block_of_add]; exact hb))
theorem RowI.of {n : Nat} {A : Option Addr} {xs : List Value} {w : World} (h : Reads w w.heap.size 1 A n xs) : Held 0 w.heap.size (RowI 0 w.heap.size A n xs) w :=
  RowI.held ⟨h, fun _ _ _ => Nat.zero_le _⟩ (Nat.le_refl _)
theorem RowI.reads {lo hi n : Nat} {A : Option Addr} {xs : List Value} {w : World} (h : Held lo hi (RowI lo hi A n xs) w) : Reads w w.heap.size 1 A n xs := h.out.1.more h.1
theorem RowI.take {lo hi n k : Nat} {A : Option Addr} {l : List Int} {w : World} (h : RowI lo hi A n (bts l) w) (hk : k ≤ n) : RowI lo hi A k (bts (l.take k)) w :=
  ⟨h.1.take hk, fun h0 => h.2 (by omega)⟩

/-- The slice owns the bytes l, between the blocks lo and hi. -/
def OwnI (lo hi : Nat) (v : Value) (l : List Int) (w : World) : Prop := OwnB w lo v l ∧ ∀ g, v.ownBlock = some g → g < hi
theorem own_lt {w : World} {B n : Nat} {e : TypeId} {v : Value} {xs : List Value} (h : w.ownsRow B e 1 v n xs) : ∀ g, v.ownBlock = some g → g < w.heap.size := by
  intro g hg
  rcases h.2 with ⟨rfl, _⟩ | ⟨g', cap, cur, rfl, _, hh, _⟩
  · simp [Value.ownBlock] at hg
  · simp [Value.ownBlock] at hg
    subst hg
    rcases Nat.lt_or_ge g' w.heap.size with h' | h'
    · exact h'
    · rw [Array.getElem?_eq_none h'] at hh; cases hh
theorem OwnI.held {lo hi : Nat} {v : Value} {l : List Int} {w : World} (h : OwnI lo hi v l w) (hh : hi ≤ w.heap.size) : Held lo hi (OwnI lo hi v l) w := by
  refine ⟨hh, fun w' hs hk => ⟨?_, h.2⟩⟩
  obtain ⟨⟨h1, h2⟩, h3⟩ := h
  refine ⟨h1, ?_⟩
  rcases h2 with h2 | ⟨g, cap, cur, rfl, hg, hh', hr⟩
  · exact .inl h2
  · exact .inr ⟨g, cap, cur, rfl, hg, (hk g hg (h3 g rfl)).trans hh', hr⟩
theorem OwnI.of {lo : Nat} {v : Value} {l : List Int} {w : World} (h : OwnB w lo v l) : Held lo w.heap.size (OwnI lo w.heap.size v l) w :=
  OwnI.held ⟨h, own_lt h⟩ (Nat.le_refl _)
theorem OwnI.row {lo hi : Nat} {A : Option Addr} {n c : Nat} {l : List Int} {w : World} (h : OwnI lo hi (.slice A n c) l w) : l.length = n ∧ n ≤ c ∧ c ≤ maxLen ∧ RowI lo hi A n (bts l) w := by
  have hb := h.1
  obtain ⟨A', c', e, hc, hr⟩ := hb.reads
  injection e with e1 e2 e3
  subst e1; subst e2; subst e3
  refine ⟨rfl, hc, ?_, ?_⟩
  · rcases hb.2 with ⟨e, _⟩ | ⟨g, cap, cur, e, _, _, _, hm, _⟩
    · injection e with _ _ e; subst e; exact Nat.zero_le _
    · injection e with _ _ e; subst e; exact hm
  · rcases hb.2 with ⟨e, _⟩ | ⟨g, cap, cur, e, hg, _⟩
    · injection e with e1 e2 e3; rw [e2] at hr ⊢
      exact ⟨⟨hr.1, fun h0 => absurd h0 (by omega)⟩, fun h0 => absurd h0 (by omega)⟩
    · injection e with e1 e2 e3
      subst e1
      refine ⟨⟨hr.1, fun h0 => ?_⟩, fun _ ad e => by injection e with e; subst e; exact hg⟩
      obtain ⟨ad, e, hb', hc'⟩ := hr.2 h0
      injection e with e; subst e
      exact ⟨_, rfl, h.2 g rfl, hc'⟩
theorem OwnI.rowHeld {lo hi : Nat} {A : Option Addr} {n c : Nat} {l : List Int} {w : World} (h : Held lo hi (OwnI lo hi (.slice A n c) l) w) : Held lo hi (RowI lo hi A n (bts l)) w := h.out.row.2.2.2.held h.1

/-- A byte is stored into an owned slice. -/
theorem OwnI.store {lo hi : Nat} {A : Option Addr} {n c i : Nat} {l : List Int} {w : World} (h : OwnI lo hi (.slice A n c) l w) (hin : i < n) :
    ∃ g, A = some ⟨g, 0, none⟩ ∧ lo ≤ g ∧ g < hi ∧ g < w.heap.size ∧ w.cell? ⟨g, i, none⟩ = some (.int .u8 (l.getD i 0)) ∧ w.frozen? ⟨g, i, none⟩ = false ∧
      ∀ x, OwnI lo hi (.slice A n c) (l.set i x) (w.setCell ⟨g, i, none⟩ (.int .u8 x)) ∧ Mod lo hi w (w.setCell ⟨g, i, none⟩ (.int .u8 x)) := by
  have hl := h.row.1
  have hr := h.row.2.2.2.1
  obtain ⟨hb, h3⟩ := h
  have hlt := own_lt hb
  rcases hb.2 with ⟨e, e0⟩ | ⟨g, cap, cur, e, hg, hh, hn, hm, hs, ht⟩
  · omega
  · injection e with e1 e2 e3
    subst e1; subst e3
    obtain ⟨b, off, e4, hbb, hc⟩ := hr.u8 (by omega)
    injection e4 with e4
    injection e4 with e4 e5
    subst e4; subst e5
    simp only [Nat.zero_add] at hc
    refine ⟨g, rfl, hg, h3 g rfl, hlt g rfl, hc i hin, by simp [World.frozen?, hh], fun x => ⟨⟨⟨by simp, .inr ⟨g, c, cur.setIfInBounds i (.int .u8 x), by simp [hl], hg, by simp [World.setCell, Array.getElem?_modify, hh], by simp; omega, hm, by simpa using hs, ?_⟩⟩, h3⟩, ?_⟩⟩
    · apply List.ext_getElem?
      intro j
      have hj := congrArg (fun (z : List Value) => z[j]?) ht
      simp only [bts, List.getElem?_take, List.getElem?_map, Array.getElem?_toList, Nat.mul_one, hl] at hj
      simp only [bts, List.getElem?_take, List.getElem?_map, Array.getElem?_toList, List.length_set, Nat.mul_one, hl, Array.getElem?_setIfInBounds, List.getElem?_set]
      by_cases hji : j < n
      · rw [if_pos hji] at hj ⊢
        by_cases hij : i = j
        · subst hij
          rw [if_pos rfl, if_pos rfl, if_pos (by omega), if_pos (by omega)]; rfl
        · rw [if_neg hij, if_neg hij]; exact hj
      · rw [if_neg hji] at hj ⊢
        rw [if_neg (by omega)]
        exact hj
    · refine ⟨rfl, rfl, rfl, by simp [World.setCell], fun k hk hn => Below.heap_setCell w ⟨g, i, none⟩ _ k ?_⟩
      have := h3 g rfl
      simp only
      omega

theorem rowI_own {w : World} {lo n : Nat} {e : TypeId} {v : Value} {xs : List Value} (h : w.ownsRow lo e 1 v n xs) : ∃ A c, v = .slice A n c ∧ n ≤ c ∧ Held lo w.heap.size (RowI lo w.heap.size A n xs) w := by
  obtain ⟨A, c, rfl, hc, hr⟩ := reads_own h
  refine ⟨A, c, rfl, hc, RowI.held ⟨hr, fun hn ad e => ?_⟩ (Nat.le_refl _)⟩
  subst e
  exact own_base h ad.block rfl

/-- The bytes that a slice begins with. -/
theorem app_take (l r : List Int) (n : Nat) (h : l.length = n) : (l ++ r).take n = l := by subst h; simp

/-- New memory of n zeros. -/
theorem makeF {ops : Array Oper} {rest : List Oper} {o : Oper} {a : Act} {Q : Exit → Act → World → Prop} (w : World) (hg : o.guard = none) (l c : Operand) (hop : o.op = Op.makeSlice 31 l c)
    (B : Nat) (kl kc : IntKind) (L C : Int) (n : Nat) (hl : a.eval l = .int kl L) (hc : a.eval c = .int kc C) (hL : L = (n : Int)) (hC : C = (n : Int)) (b2 : n ≤ 281474976710656) (b4 : B ≤ w.heap.size)
    (hK : ∀ w', OwnB w' B (.slice (some ⟨w.heap.size, 0, none⟩) n n) (List.replicate n 0) → Below B w w' → wpList Try.prog ops Q rest (a.put o.dst (.slice (some ⟨w.heap.size, 0, none⟩) n n)) w') :
    wpList Try.prog ops Q (o :: rest) a w := by
  obtain ⟨i0, hi0, hz0, hz1, hz2⟩ := info_parts u8_info
  refine wpList_make_full w hg l c _ hop B 5 i0 _ 1 Try.underlying31 hi0 hz0 hz1 kl kc L C n hl hc hL hC (by rw [hz2]; omega) (by unfold maxLen; omega) b4 (fun w' ho hg => hK w' ?_ ((Below.refl _ _).grown hg b4 (by simp)))
  have e : (madeCells (Value.int .u8 0).cells (n * 1)).toList = bts (List.replicate n 0) := by
    rw [Nat.mul_one]
    show (madeCells #[Value.int .u8 0] n).toList = _
    rw [toList_madeCells_one]
    simp [bts]
  rw [e] at ho
  exact OwnB.of (k := 0) (r := []) ho rfl
end Go.Proofs.Ytcjfammfplcigaa.Pk
