/- What package net promises (to be proved of the code that lands): the blocks that a net's calls may turn (S), those that it reads (D). -/
import Derived.Test.YtcjfammfplcigaaNtRef2
import Derived.Test.YtcjfammfplcigaaRangeS
import Derived.Test.YtcjfammfplcigaaHold
import Derived.Test.YtcjfammfplcigaaOwnR
namespace Go.Proofs.Ytcjfammfplcigaa.Pk
open Go.RowKit Go.Shelf Go.Proofs.Ytcjfammfplcigaa.Nt
set_option linter.unusedVariables false
/-- What comes in a round over what is under way: the place, the bytes as they lie. -/
structure NtX where
  at_ : Nat
  A : Option Addr
  n : Nat
  c : Nat
  p : List Int
def encN (x : NtX) : Array Value := #[.int .i64 (x.at_ : Int), .slice x.A x.n x.c]
def keyN (x : NtX) : Nat × List Int := (x.at_, x.p)
def nseq (l : Li) : List (Nat × List Int) := (List.range l.length).map fun i => (i, l.getD i [])
@[simp] theorem nseq_length (l : Li) : (nseq l).length = l.length := by simp [nseq]
theorem nseq_get {l : Li} {i : Nat} {p : List Int} (h : l[i]? = some p) : (nseq l)[i]? = some (i, p) := by
  obtain ⟨h1, h2⟩ := List.getElem?_eq_some_iff.1 h
  rw [nseq, List.getElem?_map, List.getElem?_range h1]
  simp [List.getD, h]
/-- The block of the bytes that came. -/
def frN (x : NtX) (k : Nat) : Prop := (Value.slice x.A x.n x.c).ownBlock = some k
/-- What may come: the next one, its bytes in memory of its own, from block B on, none of the blocks R, none of those that came before. -/
def OkN (l : Li) (R : Nat → Prop) (B : Nat) (pre : List NtX) (x : NtX) (W : World) : Prop :=
  (pre ++ [x]).map keyN <+: nseq l ∧ OwnR W B (.slice x.A x.n x.c) x.p ∧ ∀ g, (Value.slice x.A x.n x.c).ownBlock = some g → ¬ R g ∧ ∀ y ∈ pre, ¬ frN y g
theorem OkN.next {l : Li} {R : Nat → Prop} {B : Nat} {pre : List NtX} {x : NtX} {W : World} (h : OkN l R B pre x W) : pre.length < l.length ∧ x.at_ = pre.length ∧ l[pre.length]? = some x.p := by
  obtain ⟨t, ht⟩ := h.1
  have hl := congrArg List.length ht
  simp only [List.length_append, List.length_map, List.length_singleton, nseq_length] at hl
  have hlt : pre.length < l.length := by omega
  have hg : l[pre.length]? = some l[pre.length] := List.getElem?_eq_getElem hlt
  have h1 := nseq_get hg
  rw [← ht] at h1
  simp [keyN] at h1
  refine ⟨hlt, h1.1, by rw [hg, h1.2]⟩
theorem OkN.put {l : Li} {R : Nat → Prop} (B : Nat) (pre : List NtX) (x : NtX) (W : World) (q : Nat) (o o' : Obj) (hl : W.heap[q]? = some o) (ho : o.isCells = false) (h : OkN l R B pre x W) : OkN l R B pre x (W.putObj q o') := by
  refine ⟨h.1, h.2.1.stay fun g e => World.putObj_heap_other (fun e2 => ?_), h.2.2⟩
  obtain ⟨cs, mk, hh⟩ := owr_kind h.2.1 g e
  subst e2
  rw [hh] at hl
  injection hl with hl
  subst hl
  simp [Obj.isCells] at ho
def frNB (B : Nat) (x : NtX) (k : Nat) : Prop := frN x k
theorem OkN.fr {l : Li} {R : Nat → Prop} (B : Nat) (pre : List NtX) (x : NtX) (W : World) (k : Nat) (h : OkN l R B pre x W) (hk : frNB B x k) : B ≤ k := owr_base h.2.1 k hk
/-- A function that goes over places and bytes of l. -/
def SeqNt (v : Value) (l : Li) (R : Nat → Prop) (w : World) : Prop :=
  ∃ gf pb lb, v = .func (.func gf) pb lb ∧ (∀ args u, (callFunc gf args).run Try.prog u = .ok (.enter gf args) u) ∧ (∀ g, R g → g < w.heap.size) ∧
    ∀ m W, Stay R w W → GoesFS m Try.prog gf pb lb encN (Stay R) (fun ys => ys.map keyN = nseq l) (fun pre => pre.map keyN <+: nseq l) (OkN l R) frNB W
theorem SeqNt.stay {v : Value} {l : Li} {R : Nat → Prop} {w W : World} (h : SeqNt v l R w) (hs : Stay R w W) : SeqNt v l R W := by
  obtain ⟨gf, pb, lb, e, h1, h2, h3⟩ := h
  exact ⟨gf, pb, lb, e, h1, fun g hg => Nat.lt_of_lt_of_le (h2 g hg) hs.1, fun m W' hW => h3 m W' (hs.trans hW)⟩
theorem SeqNt.lt {v : Value} {l : Li} {R : Nat → Prop} {w : World} (h : SeqNt v l R w) : ∀ g, R g → g < w.heap.size := by
  obtain ⟨_, _, _, _, _, h2, _⟩ := h
  exact h2
theorem SeqNt.atF {gf : Nat} {pb lb : Array Value} {l : Li} {R : Nat → Prop} {w : World} (h : SeqNt (.func (.func gf) pb lb) l R w) (m : Nat) :
    GoesFS m Try.prog gf pb lb encN (Stay R) (fun ys => ys.map keyN = nseq l) (fun pre => pre.map keyN <+: nseq l) (OkN l R) frNB w := by
  obtain ⟨gf', pb', lb', e, _, _, h3⟩ := h
  injection e with e1 e3 e2
  injection e1 with e1
  subst e1; subst e2; subst e3
  exact h3 m w (Stay.refl_ _ _)
theorem SeqNt.at_ {gf : Nat} {pb lb : Array Value} {l : Li} {R : Nat → Prop} {w : World} (h : SeqNt (.func (.func gf) pb lb) l R w) (m : Nat) :
    GoesWS m Try.prog gf pb lb encN (Stay R) (fun ys => ys.map keyN = nseq l) (fun pre => pre.map keyN <+: nseq l) (OkN l R) w := (h.atF m).toWS
/-- What a call that may turn a net leaves. -/
def AftN (Nb : World → Nat → Li → (Nat → Prop) → (Nat → Prop) → Prop) (T : Nat) (l : Li) (S D : Nat → Prop) (w w' : World) (E : (Nat → Prop) → Prop) : Prop := ∃ S' D', Nb w' T l S' D' ∧ Turned S w w' ∧ From S S' w ∧ From D D' w ∧ E D'
/-- The bound of a datagram's length. -/
abbrev LM : Nat := 140737488355328
/-- How many sendings and doublings a net may have known. -/
abbrev KM : Nat := 4611686018427387904
theorem km {k : Nat} (h : k < 4611686018427387904) : k < KM := h
/-- The promises of a net that has known at most kc sendings and doublings. -/
structure NetC (Nb : Nat → World → Nat → Li → (Nat → Prop) → (Nat → Prop) → Prop) : Prop where
  up : ∀ {kc kd w T l S D}, Nb kc w T l S D → kc ≤ kd → Nb kd w T l S D
  stay : ∀ {kc w w' T l S D}, Nb kc w T l S D → Stay D w w' → Nb kc w' T l S D
  lt : ∀ {kc w T l S D}, Nb kc w T l S D → ∀ b, D b → b < w.heap.size
  sub : ∀ {kc w T l S D}, Nb kc w T l S D → ∀ b, S b → D b
  few : ∀ {kc w T l S D}, Nb kc w T l S D → l.length ≤ 512
  new : ∀ w, Calls Try.prog 9 #[] w fun e w' => ∃ T S D, e = .returned (.pointer (some ⟨T, 0, none⟩)) ∧ Nb 0 w' T [] S D ∧ Below w.heap.size w w' ∧ ∀ b, D b → w.heap.size ≤ b
  send : ∀ kc w T l S D A n c x, Nb kc w T l S D → kc < KM → Short LM l → Reads w w.heap.size 1 A n (bts x) → n ≤ c → n ≤ LM → (∀ y ∈ x, 0 ≤ y ∧ y ≤ 255) →
    Calls Try.prog 10 #[.pointer (some ⟨T, 0, none⟩), .slice A n c] w fun e w' => e = .returned (.bool (decide (l.length < 512))) ∧ AftN (Nb (kc + 1)) T (sendN l x) S D w w' fun _ => True
  len : ∀ kc w T l S D, Nb kc w T l S D → Calls Try.prog 19 #[.pointer (some ⟨T, 0, none⟩)] w fun e w' => e = .returned (.int .i64 (l.length : Int)) ∧ Below w.heap.size w w'
  at_ : ∀ kc w T l S D (i : Int), Nb kc w T l S D → Short LM l → -9223372036854775808 ≤ i → i ≤ 9223372036854775807 →
    Calls Try.prog 12 #[.pointer (some ⟨T, 0, none⟩), .int .i64 i] w fun e w' => ∃ v, e = .returned (.tuple #[v, .bool (inN l i)]) ∧ OwnR w' w.heap.size v (atN l i) ∧ Below w.heap.size w w'
  take : ∀ kc w T l S D (i : Int), Nb kc w T l S D → Short LM l → -9223372036854775808 ≤ i → i ≤ 9223372036854775807 →
    Calls Try.prog 14 #[.pointer (some ⟨T, 0, none⟩), .int .i64 i] w fun e w' => ∃ v, e = .returned (.tuple #[v, .bool (inN l i)]) ∧ OwnR w' w.heap.size v (atN l i) ∧ AftN (Nb kc) T (takeN l i) S D w w' fun D' => ∀ g, v.ownBlock = some g → ¬ D' g
  double : ∀ kc w T l S D (i : Int), Nb kc w T l S D → kc < KM → Short LM l → -9223372036854775808 ≤ i → i ≤ 9223372036854775807 →
    Calls Try.prog 17 #[.pointer (some ⟨T, 0, none⟩), .int .i64 i] w fun e w' => e = .returned (.bool (dblB l i)) ∧ AftN (Nb (kc + 1)) T (dblN l i) S D w w' fun _ => True
  all : ∀ kc w T l S D, Nb kc w T l S D → Short LM l → Calls Try.prog 20 #[.pointer (some ⟨T, 0, none⟩)] w fun e w' => ∃ v R, e = .returned v ∧ SeqNt v l R w' ∧ Below w.heap.size w w' ∧ ∀ g, R g → (D g ∧ ¬ S g) ∨ w.heap.size ≤ g
  nsend : ∀ w A n c x, Reads w w.heap.size 1 A n (bts x) → n ≤ c → n ≤ LM → Calls Try.prog 10 #[.pointer none, .slice A n c] w fun e w' => e = .returned (.bool false) ∧ Below w.heap.size w w'
  nlen : ∀ w, Calls Try.prog 19 #[.pointer none] w fun e w' => e = .returned (.int .i64 0) ∧ Below w.heap.size w w'
  nat_ : ∀ w (i : Int), -9223372036854775808 ≤ i → i ≤ 9223372036854775807 → Calls Try.prog 12 #[.pointer none, .int .i64 i] w fun e w' => ∃ v, e = .returned (.tuple #[v, .bool false]) ∧ OwnR w' w.heap.size v [] ∧ Below w.heap.size w w'
  ntake : ∀ w (i : Int), -9223372036854775808 ≤ i → i ≤ 9223372036854775807 → Calls Try.prog 14 #[.pointer none, .int .i64 i] w fun e w' => ∃ v, e = .returned (.tuple #[v, .bool false]) ∧ OwnR w' w.heap.size v [] ∧ Below w.heap.size w w'
  ndouble : ∀ w (i : Int), -9223372036854775808 ≤ i → i ≤ 9223372036854775807 → Calls Try.prog 17 #[.pointer none, .int .i64 i] w fun e w' => e = .returned (.bool false) ∧ Below w.heap.size w w'
  nall : ∀ w, Calls Try.prog 20 #[.pointer none] w fun e w' => ∃ v R, e = .returned v ∧ SeqNt v [] R w' ∧ Below w.heap.size w w' ∧ ∀ g, R g → w.heap.size ≤ g
section
variable {Nb : Nat → World → Nat → Li → (Nat → Prop) → (Nat → Prop) → Prop} {kc kd : Nat} {w w' w2 : World} {T : Nat} {l l' : Li} {S D : Nat → Prop}
theorem NetC.next (C : NetC Nb) (h : Nb kc w T l S D) (hb : Below w.heap.size w w') : Nb kc w' T l S D := C.stay h (Stay.below hb (C.lt h))
/-- A call's leaving, with the memory that it may not touch: all that is below B, or of another's. -/
theorem AftN.out (C : NetC Nb) {E : (Nat → Prop) → Prop} (h : AftN (Nb kd) T l' S D w w' E) (hlt : ∀ b, D b → b < w.heap.size) {u : World} {B : Nat} (hu : Below B u w) (hB : B ≤ w.heap.size) (hD : ∀ b, D b → B ≤ b) (hS : ∀ b, S b → D b) :
    ∃ S' D', Nb kd w' T l' S' D' ∧ Turned S w w' ∧ From S S' w ∧ From D D' w ∧ Below B u w' ∧ (∀ b, D' b → B ≤ b) ∧ E D' := by
  obtain ⟨S', D', h1, h2, h3, h4, h5⟩ := h
  exact ⟨S', D', h1, h2, h3, h4, h2.below hu hB (fun b hb => hD b (hS b hb)), fun b hb => (h4 b hb).elim (hD b) (fun h => Nat.le_trans hB h), h5⟩
end
end Go.Proofs.Ytcjfammfplcigaa.Pk
