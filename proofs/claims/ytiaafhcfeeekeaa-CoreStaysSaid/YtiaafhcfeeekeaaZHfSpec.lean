/- Ranges over a function that may keep memory of its own from round to round: its caller's word speaks of no block from the iterator's own on (Std). -/
import Derived.Test.YtiaafhcfeeekeaaZStay0
import Derived.Test.YtiaafhcfeeekeaaZCeVal
import Derived.Test.YtiaafhcfeeekeaaZHfCodeA
namespace Go.Proofs.Ytiaafhcfeeekeaa.Pk
open Go.RowKit Go.Shelf
set_option linter.unusedVariables false
/-- A word that speaks of no block from B on. -/
def Std {β : Type} (B : Nat) (I : β → World → Prop) : Prop := ∀ s W W', I s W → Turned (fun b => B ≤ b) W W' → I s W'
theorem Std.and {β : Type} {B : Nat} {I I' : β → World → Prop} (h : Std B I) (h' : Std B I') : Std B (fun s W => I s W ∧ I' s W) := fun s W W' hs ht => ⟨h s W W' hs.1 ht, h' s W W' hs.2 ht⟩
theorem Std.mono {β : Type} {B B' : Nat} {I : β → World → Prop} (h : Std B I) (hB : B ≤ B') : Std B' I := fun s W W' hs ht => h s W W' hs ⟨ht.os, ht.tape, ht.output, ht.size, fun i hi hn => ht.block i hi (fun e => hn (by omega))⟩
theorem Std.own {β : Type} {B : Nat} {I : β → World → Prop} (h : Std B I) : OwnFrom B I := fun s W W' row hs hg hr => h s W W' hs ⟨hg.os, hg.tape, hg.output, hg.size, fun i hi hn => hg.block i hi (fun e => hn (hr i e.symm).1)⟩
theorem Std.alloc {β : Type} {B : Nat} {I : β → World → Prop} (h : Std B I) {s : β} {W : World} (o : Obj) (hs : I s W) : I s (W.alloc o) := h s W _ hs ((Turned.refl _ W).alloc o)
theorem Std.putObj {β : Type} {B : Nat} {I : β → World → Prop} (h : Std B I) {s : β} {W : World} {l : Nat} {o : Obj} (o' : Obj) (hs : I s W) (hB : B ≤ l) (hl : W.heap[l]? = some o) (ho : o.isCells = false) : I s (W.putObj l o') := h.own.putObj o' hs hB hl ho
/-- A function behind bound arguments pb that goes over things: its caller's word may speak of all but the blocks that it makes itself (no cells, new); a round leaves those alone. -/
def GoesWS {α : Type} (m : Nat) (P : Program) (g : Nat) (pb lb : Array Value) (encs : α → Array Value) (Kp : World → World → Prop) (S Sp : List α → Prop) (Ok : Nat → List α → α → World → Prop) (w : World) : Prop :=
  ∀ (l : Nat) (J Jx : List α → World → Prop) (W : World), Below w.heap.size w W → Std W.heap.size J → Std W.heap.size Jx →
    (∀ pre x W1, J pre W1 → Ok W.heap.size pre x W1 → YieldAt Fence.wide (m - 1) P l (encs x) W1 fun e W' => KeepsAll W.heap.size W1 W' ∧
      ((e = .returned (.bool true) ∧ J (pre ++ [x]) W' ∧ Kp W1 W') ∨ (e = .returned (.bool false) ∧ Jx (pre ++ [x]) W'))) →
    J [] W →
    CallsIn Fence.wide m P g (pb ++ #[.func (.yield l) #[] #[]] ++ lb) W fun e W' => (∃ v, e = .returned v) ∧ ((∃ xs, S xs ∧ J xs W') ∨ (∃ pre, Sp pre ∧ Jx pre W'))

section
variable {n : Nat} {P : Program} {α : Type} {g : Operand} {ps : Array Tmp} {assign body : Code} {Q : Exit → Act → World → Prop} {a : Act} {w : World}
end
/-- A function behind bound arguments pb that goes over things: its caller's word may speak of all but the blocks that it makes itself (no cells, new); a round leaves those alone. -/
def GoesFS {α : Type} (m : Nat) (P : Program) (g : Nat) (pb lb : Array Value) (encs : α → Array Value) (Kp : World → World → Prop) (S Sp : List α → Prop) (Ok : Nat → List α → α → World → Prop) (Fr : Nat → α → Nat → Prop) (w : World) : Prop :=
  ∀ (l : Nat) (J Jx : List α → World → Prop) (W : World), Below w.heap.size w W → Std W.heap.size J → Std W.heap.size Jx →
    (∀ pre x W1, J pre W1 → Ok W.heap.size pre x W1 → YieldAt Fence.wide (m - 1) P l (encs x) W1 fun e W' => KeepsF W.heap.size (Fr W.heap.size x) W1 W' ∧
      ((e = .returned (.bool true) ∧ J (pre ++ [x]) W' ∧ Kp W1 W') ∨ (e = .returned (.bool false) ∧ Jx (pre ++ [x]) W'))) →
    J [] W →
    CallsIn Fence.wide m P g (pb ++ #[.func (.yield l) #[] #[]] ++ lb) W fun e W' => (∃ v, e = .returned v) ∧ ((∃ xs, S xs ∧ J xs W') ∨ (∃ pre, Sp pre ∧ Jx pre W'))

section
variable {n : Nat} {P : Program} {α : Type} {g : Operand} {ps : Array Tmp} {assign body : Code} {Q : Exit → Act → World → Prop} {a : Act} {w : World}
end
end Go.Proofs.Ytiaafhcfeeekeaa.Pk

/- What package half promises (to be proved of the code that lands). -/
namespace Go.Proofs.Ytiaafhcfeeekeaa.Pk
open Go.RowKit Go.Shelf
set_option linter.unusedVariables false
/-- What comes in a round over Left: the next number and its message. -/
def encH (x : Int × Mg) : Array Value := #[.int .i64 x.1, .agg #[.int .i64 x.2.k, .int .i64 x.2.o, .int .i64 x.2.n, .int .i64 x.2.u, .int .i64 x.2.v]]
def OkH (l : List (Int × Mg)) (B : Nat) (pre : List (Int × Mg)) (x : Int × Mg) (W : World) : Prop := pre ++ [x] <+: l
theorem OkH.put {l : List (Int × Mg)} (B : Nat) (pre : List (Int × Mg)) (x : Int × Mg) (W : World) (q : Nat) (o o' : Obj) (hl : W.heap[q]? = some o) (ho : o.isCells = false) (h : OkH l B pre x W) : OkH l B pre x (W.putObj q o') := h
theorem OkH.next {l : List (Int × Mg)} {B : Nat} {pre : List (Int × Mg)} {x : Int × Mg} {W : World} (h : OkH l B pre x W) : pre.length < l.length ∧ l[pre.length]? = some x := by
  obtain ⟨t, ht⟩ := h
  subst ht
  simp
theorem StayH.refl (D : Nat → Prop) (w : World) : Stay D w w := ⟨Nat.le_refl _, fun _ _ => rfl⟩
theorem StayH.trans {D : Nat → Prop} {a b c : World} (h : Stay D a b) (k : Stay D b c) : Stay D a c := ⟨Nat.le_trans h.1 k.1, fun g hg => (k.2 g hg).trans (h.2 g hg)⟩
/-- A function that goes over numbers and messages. -/
def SeqH (v : Value) (l : List (Int × Mg)) (R : Nat → Prop) (w : World) : Prop :=
  ∃ gf pb lb, v = .func (.func gf) pb lb ∧ (∀ args u, (callFunc gf args).run Try.prog u = .ok (.enter gf args) u) ∧ (∀ g, R g → g < w.heap.size) ∧
    ∀ m W, Stay R w W → GoesWS m Try.prog gf pb lb encH (Stay R) (fun ys => ys = l) (fun pre => pre <+: l) (OkH l) W
theorem SeqH.stay {v : Value} {l : List (Int × Mg)} {R : Nat → Prop} {w W : World} (h : SeqH v l R w) (hs : Stay R w W) : SeqH v l R W := by
  obtain ⟨gf, pb, lb, e, h1, h2, h3⟩ := h
  exact ⟨gf, pb, lb, e, h1, fun g hg => Nat.lt_of_lt_of_le (h2 g hg) hs.1, fun m W' hW => h3 m W' (StayH.trans hs hW)⟩
theorem SeqH.lt {v : Value} {l : List (Int × Mg)} {R : Nat → Prop} {w : World} (h : SeqH v l R w) : ∀ g, R g → g < w.heap.size := by
  obtain ⟨_, _, _, _, _, h2, _⟩ := h
  exact h2
theorem SeqH.at_ {gf : Nat} {pb lb : Array Value} {l : List (Int × Mg)} {R : Nat → Prop} {w : World} (h : SeqH (.func (.func gf) pb lb) l R w) (m : Nat) :
    GoesWS m Try.prog gf pb lb encH (Stay R) (fun ys => ys = l) (fun pre => pre <+: l) (OkH l) w := by
  obtain ⟨gf', pb', lb', e, _, _, h3⟩ := h
  injection e with e1 e3 e2
  injection e1 with e1
  subst e1; subst e2; subst e3
  exact h3 m w (StayH.refl _ _)
def PushH : Prop := ∀ (h : Hf) (m : Mg) (A : Option Addr) (n c : Nat) (w : World), InH w h A n c → m.I →
  Calls Try.prog 95 #[h.val (.slice A n c), m.val] w fun e w' => ∃ v, e = .returned (.tuple #[(hpush h m).1.val v, .int .i64 (hpush h m).2]) ∧ OutH w' w.heap.size (hpush h m).1 v ∧ Below w.heap.size w w'
def HeardH : Prop := ∀ (h : Hf) (a : Int) (A : Option Addr) (n c : Nat) (w : World), InH w h A n c → -9223372036854775808 ≤ a → a ≤ 9223372036854775807 →
  Calls Try.prog 65 #[h.val (.slice A n c), .int .i64 a] w fun e w' => ∃ v, e = .returned (.tuple #[(hheard h a).1.val v, .int .i64 (hheard h a).2]) ∧ OutH w' w.heap.size (hheard h a).1 v ∧ Below w.heap.size w w'
def FitsH : Prop := ∀ (h : Hf) (q : Int) (A : Option Addr) (n c : Nat) (w : World), InH w h A n c → -9223372036854775808 ≤ q → q ≤ 9223372036854775807 →
  Calls Try.prog 66 #[h.val (.slice A n c), .int .i64 q] w fun e w' => e = .returned (.bool (hfits h q)) ∧ Below w.heap.size w w'
def TookH : Prop := ∀ (h : Hf) (A : Option Addr) (n c : Nat) (w : World), InH w h A n c →
  Calls Try.prog 67 #[h.val (.slice A n c)] w fun e w' => ∃ v, e = .returned (.tuple #[(htake h).1.val v, .int .i64 (htake h).2]) ∧ OutH w' w.heap.size (htake h).1 v ∧ Below w.heap.size w w'


end Go.Proofs.Ytiaafhcfeeekeaa.Pk
