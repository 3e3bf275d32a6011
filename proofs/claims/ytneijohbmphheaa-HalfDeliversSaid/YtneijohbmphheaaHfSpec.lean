/- What package half promises (to be proved of the code that lands), and sides as they lie. -/
import Derived.Test.YtneijohbmphheaaHfMath
import Derived.Test.YtneijohbmphheaaMgOwn
import Derived.Test.YtneijohbmphheaaRangeS
namespace Go.Proofs.Ytneijohbmphheaa.Pk
open Go.RowKit Go.Shelf
set_option linter.unusedVariables false
def Hf.val (h : Hf) (v : Value) : Value := .agg #[.int .i64 h.p, .int .i64 h.b, v, .int .i64 h.s]
/-- Ints of 64 bits. -/
structure Hf.I (h : Hf) : Prop where
  p : -9223372036854775808 ≤ h.p ∧ h.p ≤ 9223372036854775807
  b : -9223372036854775808 ≤ h.b ∧ h.b ≤ 9223372036854775807
  s : -9223372036854775808 ≤ h.s ∧ h.s ≤ 9223372036854775807
  o : ∀ m ∈ h.o, m.I
theorem Hf.Be.i {h : Hf} (hb : h.Be) : h.I := by
  obtain ⟨h1, h2, h3, h4, h5, h6, h7, h8⟩ := hb
  exact ⟨by omega, by omega, by omega, fun m hm => (h8 m hm).i⟩
/-- A side as it is handed over: its list is read. -/
structure InH (w : World) (h : Hf) (A : Option Addr) (n c : Nat) : Prop where
  rd : Reads w w.heap.size 5 A n (mgs h.o)
  cap : n ≤ c
  few : n ≤ 3518437208883
  i : h.I
theorem InH.len {w : World} {h : Hf} {A : Option Addr} {n c : Nat} (k : InH w h A n c) : h.o.length = n := k.rd.mlen
theorem InH.next {w w' : World} {h : Hf} {A : Option Addr} {n c : Nat} (k : InH w h A n c) (hb : Below w.heap.size w w') : InH w' h A n c := ⟨(k.rd.below hb).more hb.size, k.cap, k.few, k.i⟩
/-- A side that is answered: its list is its own. -/
def OutH (w' : World) (B : Nat) (h : Hf) (v : Value) : Prop := OwnG w' B v h.o
/-- What comes in a round over Left: the next number and its message. -/
def encH (x : Int × Mg) : Array Value := #[.int .i64 x.1, .agg #[.int .i64 x.2.k, .int .i64 x.2.o, .int .i64 x.2.n, .int .i64 x.2.u, .int .i64 x.2.v]]
def OkH (l : List (Int × Mg)) (B : Nat) (pre : List (Int × Mg)) (x : Int × Mg) (W : World) : Prop := pre ++ [x] <+: l
theorem OkH.put {l : List (Int × Mg)} (B : Nat) (pre : List (Int × Mg)) (x : Int × Mg) (W : World) (q : Nat) (o o' : Obj) (hl : W.heap[q]? = some o) (ho : o.isCells = false) (h : OkH l B pre x W) : OkH l B pre x (W.putObj q o') := h
theorem OkH.next {l : List (Int × Mg)} {B : Nat} {pre : List (Int × Mg)} {x : Int × Mg} {W : World} (h : OkH l B pre x W) : pre.length < l.length ∧ l[pre.length]? = some x := by
  obtain ⟨t, ht⟩ := h
  subst ht
  simp
theorem StayH.refl (D : Nat → Prop) (w : World) : Stay D w w := ⟨Nat.le_refl _, fun _ _ => rfl⟩
theorem StayH.trans {D : Nat → Prop} {a b c : World} (h : Stay D a b) (k : Stay D b c) : Stay D a c := ⟨Nat.le_trans h.1 k.1, fun g hg => (k.2 g hg).trans (h.2 g hg)⟩
/-- A function that goes over numbers and messages. -/
def SeqH (v : Value) (l : List (Int × Mg)) (R : Nat → Prop) (w : World) : Prop :=
  ∃ gf pb lb, v = .func (.func gf) pb lb ∧ (∀ args u, (callFunc gf args).run Try.prog u = .ok (.enter gf args) u) ∧ (∀ g, R g → g < w.heap.size) ∧
    ∀ m W, Stay R w W → GoesWS m Try.prog gf pb lb encH (Stay R) (fun ys => ys = l) (fun pre => pre <+: l) (OkH l) W
theorem SeqH.stay {v : Value} {l : List (Int × Mg)} {R : Nat → Prop} {w W : World} (h : SeqH v l R w) (hs : Stay R w W) : SeqH v l R W := by
  obtain ⟨gf, pb, lb, e, h1, h2, h3⟩ := h
  exact ⟨gf, pb, lb, e, h1, fun g hg => Nat.lt_of_lt_of_le (h2 g hg) hs.1, fun m W' hW => h3 m W' (StayH.trans hs hW)⟩
theorem SeqH.lt {v : Value} {l : List (Int × Mg)} {R : Nat → Prop} {w : World} (h : SeqH v l R w) : ∀ g, R g → g < w.heap.size := by
  obtain ⟨_, _, _, _, _, h2, _⟩ := h
  exact h2
theorem SeqH.at_ {gf : Nat} {pb lb : Array Value} {l : List (Int × Mg)} {R : Nat → Prop} {w : World} (h : SeqH (.func (.func gf) pb lb) l R w) (m : Nat) :
    GoesWS m Try.prog gf pb lb encH (Stay R) (fun ys => ys = l) (fun pre => pre <+: l) (OkH l) w := by
  obtain ⟨gf', pb', lb', e, _, _, h3⟩ := h
  injection e with e1 e3 e2
  injection e1 with e1
  subst e1; subst e2; subst e3
  exact h3 m w (StayH.refl _ _)
def GoodH : Prop := ∀ (h : Hf) (A : Option Addr) (n c : Nat) (w : World), InH w h A n c →
  Calls Try.prog 13 #[h.val (.slice A n c)] w fun e w' => e = .returned (.bool (decide h.Be)) ∧ Below w.heap.size w w'
def PushH : Prop := ∀ (h : Hf) (m : Mg) (A : Option Addr) (n c : Nat) (w : World), InH w h A n c → m.I →
  Calls Try.prog 11 #[h.val (.slice A n c), m.val] w fun e w' => ∃ v, e = .returned (.tuple #[(hpush h m).1.val v, .int .i64 (hpush h m).2]) ∧ OutH w' w.heap.size (hpush h m).1 v ∧ Below w.heap.size w w'
def HeardH : Prop := ∀ (h : Hf) (a : Int) (A : Option Addr) (n c : Nat) (w : World), InH w h A n c → -9223372036854775808 ≤ a → a ≤ 9223372036854775807 →
  Calls Try.prog 16 #[h.val (.slice A n c), .int .i64 a] w fun e w' => ∃ v, e = .returned (.tuple #[(hheard h a).1.val v, .int .i64 (hheard h a).2]) ∧ OutH w' w.heap.size (hheard h a).1 v ∧ Below w.heap.size w w'
def FitsH : Prop := ∀ (h : Hf) (q : Int) (A : Option Addr) (n c : Nat) (w : World), InH w h A n c → -9223372036854775808 ≤ q → q ≤ 9223372036854775807 →
  Calls Try.prog 20 #[h.val (.slice A n c), .int .i64 q] w fun e w' => e = .returned (.bool (hfits h q)) ∧ Below w.heap.size w w'
def TookH : Prop := ∀ (h : Hf) (A : Option Addr) (n c : Nat) (w : World), InH w h A n c →
  Calls Try.prog 18 #[h.val (.slice A n c)] w fun e w' => ∃ v, e = .returned (.tuple #[(htake h).1.val v, .int .i64 (htake h).2]) ∧ OutH w' w.heap.size (htake h).1 v ∧ Below w.heap.size w w'
def LeftH : Prop := ∀ (h : Hf) (seen : Int) (A : Option Addr) (n c : Nat) (w : World), InH w h A n c → -9223372036854775808 ≤ seen → seen ≤ 9223372036854775807 →
  Calls Try.prog 22 #[h.val (.slice A n c), .int .i64 seen] w fun e w' => ∃ v R, e = .returned v ∧ SeqH v (hleft h seen) R w' ∧ Below w.heap.size w w' ∧ ∀ g, R g → w.heap.size ≤ g
end Go.Proofs.Ytneijohbmphheaa.Pk
