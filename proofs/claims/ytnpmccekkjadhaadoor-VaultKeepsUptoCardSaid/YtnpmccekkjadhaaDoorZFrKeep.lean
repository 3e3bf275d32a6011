/- What FrameKeeps' walk leans on besides: the two bytes behind; a list of lists while it is written over. -/
import Derived.Test.YtnpmccekkjadhaaDoorZEnc
import Derived.LoopIn
import Derived.LoopNIn
import Derived.TacticsInMore
namespace Go.Proofs.YtnpmccekkjadhaaDoor.Pk
open Go.RowKit Go.Shelf Go.Proofs.YtnpmccekkjadhaaDoor.Crc Go.Proofs.YtnpmccekkjadhaaDoor.Fr
set_option linter.unusedVariables false

theorem two_ {lo hi n c : Nat} {A : Option Addr} {l : List Int} {x y : Int} {w : World} (h : OwnI lo hi (.slice A (n + 2) c) (l ++ [x, y]) w) (hl : l.length = n) :
    ∃ g, A = some ⟨g, 0, none⟩ ∧ w.cell? ⟨g, n, none⟩ = some (.int .u8 x) ∧ w.cell? ⟨g, n + 1, none⟩ = some (.int .u8 y) := by
  subst hl
  obtain ⟨g, e, _, _, _, c1, _⟩ := h.store (i := l.length) (by omega)
  obtain ⟨g2, e2, _, _, _, c2, _⟩ := h.store (i := l.length + 1) (by omega)
  subst e
  injection e2 with e2; injection e2 with e2; subst e2
  refine ⟨g, rfl, by rw [c1]; simp, by rw [c2]; simp⟩
section
variable {S : Nat → Prop} {w V W : World} {lo hi : Nat}
theorem OnlyS.setAt (h : OnlyS S w V) {x o : Nat} (hx : S x) (u : Value) : OnlyS S w (V.setCell ⟨x, o, none⟩ u) :=
  ⟨h.os, h.tape, h.output, by have := h.size; simpa [World.setCell] using this, fun i hi hn => (Below.heap_setCell V ⟨x, o, none⟩ u i (fun e => by simp at e; subst e; exact hn hx)).trans (h.block i hi hn)⟩
theorem OnlyS.mod (h : OnlyS S w V) (hS : ∀ b, S b → lo ≤ b ∧ b < hi) : Mod lo hi w V := ⟨h.os, h.tape, h.output, h.size, fun i h1 hn => h.block i h1 (fun hs => by have := hS i hs; omega)⟩
theorem OnlyS.grown {row : Option Nat} (h : OnlyS S w V) (hg : V.grownBy W row) (hr : ∀ g, row = some g → S g) : OnlyS S w W :=
  ⟨hg.os.trans h.os, hg.tape.trans h.tape, hg.output.trans h.output, Nat.le_trans h.size hg.size, fun i h1 hn => (hg.block i (Nat.lt_of_lt_of_le h1 h.size) (fun e => hn (hr i e.symm))).trans (h.block i h1 hn)⟩
theorem OnlyS.trans (h : OnlyS S w V) (k : OnlyS S V W) : OnlyS S w W :=
  ⟨k.os.trans h.os, k.tape.trans h.tape, k.output.trans h.output, Nat.le_trans h.size k.size, fun i h1 hn => (k.block i (Nat.lt_of_lt_of_le h1 h.size) hn).trans (h.block i h1 hn)⟩
theorem OnlyS.weak {S' : Nat → Prop} (h : OnlyS S w V) (hS : ∀ b, S b → S' b) : OnlyS S' w V := ⟨h.os, h.tape, h.output, h.size, fun i h1 hn => h.block i h1 (fun hs => hn (hS i hs))⟩
end
/-- Lists in memory, none in another's, none in the list of them. -/
structure StatL (A : Option Addr) (ps : List Piece) : Prop where
  off : ∀ (i : Nat) (p : Piece), ps[i]? = some p → ∀ g, p.val.ownBlock = some g → ∀ o s, A = some ⟨g, o, s⟩ → False
  apart : ∀ (i j : Nat) (p q : Piece), i < j → ps[i]? = some p → ps[j]? = some q → ∀ g, p.val.ownBlock = some g → q.val.ownBlock = some g → False
theorem StatL.of {w : World} {B n c : Nat} {A : Option Addr} {ps : List Piece} (h : OwnL w B (.slice A n c) ps) : StatL A ps := by
  refine ⟨fun i p hp g hg o s e => ?_, fun i j p q hij hp hq g h1 h2 => ?_⟩
  · subst e
    exact h.off p (List.mem_of_getElem? hp) g hg rfl
  · obtain ⟨h3, rfl⟩ := List.getElem?_eq_some_iff.1 hp
    obtain ⟨h4, rfl⟩ := List.getElem?_eq_some_iff.1 hq
    exact List.pairwise_iff_getElem.1 h.apart i j h3 h4 hij g h1 h2
/-- From place i on a list of lists lies as it lay; it and they lie between lo and hi. -/
structure RemL (lo hi : Nat) (A : Option Addr) (ps : List Piece) (i : Nat) (w : World) : Prop where
  cell : ∀ (j : Nat) (p : Piece), i ≤ j → ps[j]? = some p → ∃ g, A = some ⟨g, 0, none⟩ ∧ lo ≤ g ∧ g < hi ∧ g < w.heap.size ∧ w.cell? ⟨g, j, none⟩ = some p.val ∧ w.frozen? ⟨g, j, none⟩ = false
  each : ∀ (j : Nat) (p : Piece), i ≤ j → ps[j]? = some p → OwnI lo hi p.val p.l w
section
variable {lo hi i : Nat} {A : Option Addr} {ps : List Piece} {w V : World}
theorem RemL.of {n c : Nat} (h : OwnL w lo (.slice A n c) ps) : RemL lo w.heap.size A ps 0 w := by
  refine ⟨fun j p _ hp => ?_, fun j p _ hp => ⟨h.each p (List.mem_of_getElem? hp), own_lt (h.each p (List.mem_of_getElem? hp))⟩⟩
  have hj := (List.getElem?_eq_some_iff.1 hp).1
  obtain ⟨A', c', e, hc, hr⟩ := reads_own h.row
  injection e with e1 e2 e3
  subst e1
  obtain ⟨b, off, e4, hb, hcs⟩ := hr.flat (by omega)
  have hb2 := own_base h.row b (by rw [e4]; rfl)
  obtain ⟨cur, hh⟩ := own_kind h.row b (by rw [e4]; rfl)
  have h0 : off = 0 := by
    rcases h.row.2 with ⟨e5, _⟩ | ⟨g, cap, cur', e5, _⟩
    · injection e5 with e5; rw [e4] at e5; cases e5
    · injection e5 with e5; rw [e4] at e5; injection e5 with e5; injection e5
  subst h0
  have h5 := hcs j p.val (by rw [List.getElem?_map, hp]; rfl)
  rw [Nat.zero_add] at h5
  exact ⟨b, e4, hb2, hb, hb, h5, by simp [World.frozen?, hh]⟩
theorem RemL.stay (h : RemL lo hi A ps i w) (hs : w.heap.size ≤ V.heap.size) (hk : ∀ g, lo ≤ g → g < hi → g < w.heap.size → V.heap[g]? = w.heap[g]?) : RemL lo hi A ps i V := by
  refine ⟨fun j p hj hp => ?_, fun j p hj hp => ?_⟩
  · obtain ⟨g, e, h1, h2, h3, h4, h5⟩ := h.cell j p hj hp
    have hb := hk g h1 h2 h3
    exact ⟨g, e, h1, h2, by omega, (World.cell?_of_block (a := ⟨g, j, none⟩) hb).trans h4, (World.frozen?_of_block (a := ⟨g, j, none⟩) hb).trans h5⟩
  · have h1 := h.each j p hj hp
    exact ⟨h1.1.stay fun g e => hk g (own_base h1.1 g e) (h1.2 g e) (own_lt h1.1 g e), h1.2⟩
theorem RemL.mod {a b : Nat} (h : RemL lo hi A ps i w) (m : Mod a b w V) (hd : b ≤ lo ∨ hi ≤ a) : RemL lo hi A ps i V :=
  h.stay m.size (fun g h1 h2 h3 => m.block g h3 (by omega))
/-- The list at place i was written over, and its place. -/
theorem RemL.step (h : RemL lo hi A ps i w) (st : StatL A ps) {p : Piece} (hp : ps[i]? = some p) (ho : OnlyS (fun b => p.val.ownBlock = some b) w V) {g : Nat} (hA : A = some ⟨g, 0, none⟩) (u : Value) :
    RemL lo hi A ps (i + 1) (V.setCell ⟨g, i, none⟩ u) := by
  have hsz : (V.setCell ⟨g, i, none⟩ u).heap.size = V.heap.size := by simp [World.setCell]
  refine ⟨fun j q hj hq => ?_, fun j q hj hq => ?_⟩
  · obtain ⟨g', e, h1, h2, h3, h4, h5⟩ := h.cell j q (by omega) hq
    have hg : g' = g := by rw [hA] at e; injection e with e; injection e with e; exact e.symm
    subst hg
    have hb := ho.block g' h3 (fun e => st.off i p hp g' e _ _ hA)
    refine ⟨g', hA, h1, h2, by have := ho.size; omega, ?_, ?_⟩
    · have hne : (⟨g', i, none⟩ : Addr) ≠ ⟨g', j, none⟩ := by
        intro e2
        injection e2 with _ e2
        omega
      rw [World.cell?_setCell_other V _ _ _ hne]
      exact (World.cell?_of_block (a := ⟨g', j, none⟩) hb).trans h4
    · rw [World.frozen?_setCell]
      exact (World.frozen?_of_block (a := ⟨g', j, none⟩) hb).trans h5
  · have h1 := h.each j q (by omega) hq
    refine ⟨h1.1.stay fun g' e => ?_, h1.2⟩
    rw [Below.heap_setCell V ⟨g, i, none⟩ u g' (fun e2 => by simp at e2; subst e2; exact st.off j q hq _ e _ _ hA)]
    exact ho.block g' (own_lt h1.1 g' e) (fun e2 => st.apart i j p q (by omega) hp hq g' e2 e)
end
end Go.Proofs.YtnpmccekkjadhaaDoor.Pk
