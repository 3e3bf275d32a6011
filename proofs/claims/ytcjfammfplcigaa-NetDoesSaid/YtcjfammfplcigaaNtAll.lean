/- What a net's All gives behind other calls; lists that are sent. -/
import Derived.Test.YtcjfammfplcigaaNtWakes
import Derived.Test.YtcjfammfplcigaaNtArgs
import Derived.Test.YtcjfammfplcigaaNtSeq
namespace Go.Proofs.Ytcjfammfplcigaa.Pk
open Go.RowKit Go.Shelf Go.Proofs.Ytcjfammfplcigaa.Ar Go.Proofs.Ytcjfammfplcigaa.Nt
set_option linter.unusedVariables false
theorem bytes_next {ps : List Piece} {k : Nat} {p : Piece} (h : ps[k]? = some p) : Piece.bytes (ps.take (k + 1)) = Piece.bytes (ps.take k) ++ [p.l] := by
  obtain ⟨h1, h2⟩ := List.getElem?_eq_some_iff.1 h
  rw [List.take_succ_eq_append_getElem h1, h2]
  simp [Piece.bytes]
theorem bytes_get {ps : List Piece} {k : Nat} {p : Piece} (h : ps[k]? = some p) : (Piece.bytes ps)[k]? = some p.l := by
  unfold Piece.bytes
  rw [List.getElem?_map, h]; rfl
theorem bytes_at {ps : List Piece} {k : Nat} {p : Piece} (h : ps[k]? = some p) : atN (Piece.bytes ps) (k : Int) = p.l := by
  obtain ⟨h1, h2⟩ := List.getElem?_eq_some_iff.1 h
  unfold atN
  rw [if_pos (by unfold inN; simp [Piece.bytes]; omega), Int.toNat_natCast, List.getD_eq_getElem?_getD, bytes_get h]; rfl
theorem short_take {w : World} {B n : Nat} {A : Option Addr} {ps : List Piece} (h : RdL w B A n ps) (hp : ∀ p ∈ ps, p.n ≤ 140737488351232) (k : Nat) : Short LM (Piece.bytes (ps.take k)) := by
  intro x hx
  obtain ⟨p, hpm, rfl⟩ := List.mem_map.1 hx
  have hpm := List.mem_of_mem_take hpm
  have h1 := (h.2 p hpm).1.1
  have h2 := hp p hpm
  simp at h1
  show p.l.length ≤ 140737488355328
  omega
theorem send_few {l : Li} (h : l.length < 512) (x : List Int) : sendN l x = l ++ [x] := if_pos h
theorem AtNt.all {Nb : Nat → World → Nat → Li → (Nat → Prop) → (Nat → Prop) → Prop} {kc : Nat} {w0 w W : World} {T : Nat} {l : Li} (h : AtNt (Nb kc) w0 T l w) (C : NetC Nb) (hs : Short LM l) (hb : Below w.heap.size w W) :
    Calls Try.prog 20 #[.pointer (some ⟨T, 0, none⟩)] W fun e w' => ∃ v R, e = .returned v ∧ SeqNt v l R w' ∧ Below W.heap.size W w' ∧ ∀ g, R g → g < w.heap.size ∨ W.heap.size ≤ g := by
  obtain ⟨S, D, h1, h2, h3⟩ := h
  refine (C.all kc W T l S D (C.next h1 hb) hs).mono ?_
  rintro e w' ⟨v, R, rfl, k1, k2, k3⟩
  exact ⟨v, R, rfl, k1, k2, fun g hg => (k3 g hg).imp (fun h => C.lt h1 g h.1) id⟩
/-- A list in a box grows: what was appended is stored. -/
theorem want_push {w5 Wa w7 : World} {B xb : Nat} {v v' : Value} {ps qs : List Piece} (hb : Below B w5 Wa) (hB : B ≤ Wa.heap.size) (ho : OwnP Wa B v ps) (hk : Blk Wa xb 28 #[v]) (hx : B ≤ xb) (hg : Wa.grownBy w7 v.ownBlock) (ho' : OwnP w7 B v' qs) :
    Blk (w7.setCell ⟨xb, 0, none⟩ v') xb 28 #[v'] ∧ OwnP (w7.setCell ⟨xb, 0, none⟩ v') B v' qs ∧ Below B w5 (w7.setCell ⟨xb, 0, none⟩ v') := by
  have hne : v.ownBlock ≠ some xb := own_blk_ne ho hk (by decide)
  have hk7 : Blk w7 xb 28 #[v] := hk.grown hg (fun e => hne e.symm)
  have hne7 : v'.ownBlock ≠ some xb := own_blk_ne ho' hk7 (by decide)
  refine ⟨blk_put hk7 v', ho'.stay (fun g e => Below.heap_setCell w7 ⟨xb, 0, none⟩ v' g (fun e2 => hne7 (by rw [e, e2]))), ?_⟩
  exact (hb.grown hg hB (own_base ho)).setCell (p := ⟨xb, 0, none⟩) hx v'
/-- What is owned, as pieces that are read. -/
theorem own_rdl {w W : World} {B : Nat} {A : Option Addr} {n c : Nat} {ps qs : List Piece} {a : Option Addr} {m : Nat} (ho : OwnP W B (.slice A n c) qs) (hr : RdL w w.heap.size a m ps) (hb : Below w.heap.size w W) (hq : ∀ p ∈ qs, p ∈ ps) : RdL W W.heap.size A n qs ∧ qs.length = n ∧ n ≤ c := by
  obtain ⟨A', c', e, h1, h2⟩ := ho.reads
  injection e with e1 e2 e3
  subst e1; subst e2; subst e3
  exact ⟨⟨h2, fun p hp => ⟨((hr.2 p (hq p hp)).1.below hb).more hb.size, (hr.2 p (hq p hp)).2⟩⟩, rfl, h1⟩
end Go.Proofs.Ytcjfammfplcigaa.Pk
