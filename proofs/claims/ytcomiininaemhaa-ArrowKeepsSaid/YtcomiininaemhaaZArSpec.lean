/- What package arrow promises (to be proved of the code that lands). -/
import Derived.Test.YtcomiininaemhaaZArl
import Derived.Test.YtcomiininaemhaaZTrb
import Derived.Test.YtcomiininaemhaaZRs
namespace Go.Proofs.Ytcomiininaemhaa.Gr
set_option linter.unusedVariables false
/-- The way along the arrows: what is met is not gone over again. -/
def folF (ar : List Int) : Nat → List Int → Int → List Int
  | 0, _, _ => []
  | k + 1, met, x => if 0 ≤ x ∧ x < (ar.length : Int) ∧ x ∉ met then x :: folF ar k (x :: met) (at_ ar x.toNat) else []
def followI (ar : List Int) (f : Int) : List Int := folF ar (ar.length + 1) [] f
end Go.Proofs.Ytcomiininaemhaa.Gr
namespace Go.Proofs.Ytcomiininaemhaa.Pk
open Go.RowKit Go.Shelf Go.Proofs.Ytcomiininaemhaa.Gr
set_option linter.unusedVariables false
def I64 (x : Int) : Prop := -9223372036854775808 ≤ x ∧ x ≤ 9223372036854775807
/-- A list of arrows that is handed over. -/
structure InA (w : World) (ar : List Int) (A : Option Addr) (n c : Nat) : Prop where
  rd : Reads w w.heap.size 1 A n (nms ar)
  cap : n ≤ c
  few : n ≤ 17592186044416
  i : Ints ar
theorem InA.len {w : World} {ar : List Int} {A : Option Addr} {n c : Nat} (h : InA w ar A n c) : ar.length = n := h.rd.plen
theorem InA.next {w w' : World} {ar : List Int} {A : Option Addr} {n c : Nat} (h : InA w ar A n c) (hb : Below w.heap.size w w') : InA w' ar A n c := ⟨(h.rd.below hb).more hb.size, h.cap, h.few, h.i⟩
/-- What comes in a round over Follow. -/
def encA (x : Int) : Array Value := #[.int .i64 x]
def OkA (l : List Int) (B : Nat) (pre : List Int) (x : Int) (W : World) : Prop := pre ++ [x] <+: l
theorem OkA.put {l : List Int} (B : Nat) (pre : List Int) (x : Int) (W : World) (q : Nat) (o o' : Obj) (hl : W.heap[q]? = some o) (ho : o.isCells = false) (h : OkA l B pre x W) : OkA l B pre x (W.putObj q o') := h
theorem OkA.next {l : List Int} {B : Nat} {pre : List Int} {x : Int} {W : World} (h : OkA l B pre x W) : pre.length < l.length ∧ l[pre.length]? = some x := by
  obtain ⟨t, ht⟩ := h
  subst ht
  simp
/-- A function that goes over numbers, each the next one. -/
def SeqA (v : Value) (l : List Int) (R : Nat → Prop) (w : World) : Prop :=
  ∃ gf pb lb, v = .func (.func gf) pb lb ∧ (∀ args u, (callFunc gf args).run Try.prog u = .ok (.enter gf args) u) ∧ (∀ g, R g → g < w.heap.size) ∧
    ∀ m W, Stay R w W → GoesWS m Try.prog gf pb lb encA (Stay R) (fun ys => ys = l) (fun pre => pre <+: l) (OkA l) W
theorem SeqA.stay {v : Value} {l : List Int} {R : Nat → Prop} {w W : World} (h : SeqA v l R w) (hs : Stay R w W) : SeqA v l R W := by
  obtain ⟨gf, pb, lb, e, h1, h2, h3⟩ := h
  exact ⟨gf, pb, lb, e, h1, fun g hg => Nat.lt_of_lt_of_le (h2 g hg) hs.1, fun m W' hW => h3 m W' (Stay.trans hs hW)⟩
theorem SeqA.lt {v : Value} {l : List Int} {R : Nat → Prop} {w : World} (h : SeqA v l R w) : ∀ g, R g → g < w.heap.size := by
  obtain ⟨_, _, _, _, _, h2, _⟩ := h
  exact h2
theorem SeqA.at_ {gf : Nat} {pb lb : Array Value} {l : List Int} {R : Nat → Prop} {w : World} (h : SeqA (.func (.func gf) pb lb) l R w) (m : Nat) :
    GoesWS m Try.prog gf pb lb encA (Stay R) (fun ys => ys = l) (fun pre => pre <+: l) (OkA l) w := by
  obtain ⟨gf', pb', lb', e, _, _, h3⟩ := h
  injection e with e1 e3 e2
  injection e1 with e1
  subst e1; subst e2; subst e3
  exact h3 m w (Stay.refl _ _)
def StepA : Prop := ∀ (me a f : Int) (w : World), I64 me → I64 a → I64 f → Calls Try.prog 11 #[.int .i64 me, .int .i64 a, .int .i64 f] w fun e w' => e = .returned (.tuple #[.int .i64 f, .int .i64 (if a = me then -1 else a)]) ∧ Below w.heap.size w w'
def TowardA : Prop := ∀ (T g : Nat) (ps : List Int) (h : Int) (w : World), IsTr w T g ps → Gr.Good ps → I64 h →
  Calls Try.prog 13 #[.pointer (some ⟨T, 0, none⟩), .int .i64 h] w fun e w' => ∃ v, e = .returned v ∧ OwnN w' w.heap.size v (towardI ps h) ∧ Below w.heap.size w w'
def TowardZ : Prop := ∀ (h : Int) (w : World), I64 h → Calls Try.prog 13 #[.pointer none, .int .i64 h] w fun e w' => ∃ v, e = .returned v ∧ OwnN w' w.heap.size v [] ∧ Below w.heap.size w w'
def LegalA : Prop := ∀ (T g : Nat) (ps : List Int) (A : Option Addr) (n c : Nat) (ar : List Int) (w : World), IsTr w T g ps → Gr.Good ps → InA w ar A n c →
  Calls Try.prog 14 #[.pointer (some ⟨T, 0, none⟩), .slice A n c] w fun e w' => e = .returned (.bool (decide (LegalL ps ar))) ∧ Below w.heap.size w w'
def LegalZ : Prop := ∀ (A : Option Addr) (n c : Nat) (ar : List Int) (w : World), InA w ar A n c → Calls Try.prog 14 #[.pointer none, .slice A n c] w fun e w' => e = .returned (.bool false) ∧ Below w.heap.size w w'
def QuietA : Prop := ∀ (T g : Nat) (ps : List Int) (A : Option Addr) (n c : Nat) (ar : List Int) (w : World), IsTr w T g ps → Gr.Good ps → InA w ar A n c →
  Calls Try.prog 15 #[.pointer (some ⟨T, 0, none⟩), .slice A n c] w fun e w' => e = .returned (.bool (decide (QuietL ps ar))) ∧ Below w.heap.size w w'
def QuietZ : Prop := ∀ (A : Option Addr) (n c : Nat) (ar : List Int) (w : World), InA w ar A n c → Calls Try.prog 15 #[.pointer none, .slice A n c] w fun e w' => e = .returned (.bool false) ∧ Below w.heap.size w w'
def SinksA : Prop := ∀ (A : Option Addr) (n c : Nat) (ar : List Int) (w : World), InA w ar A n c → Calls Try.prog 17 #[.slice A n c] w fun e w' => ∃ v, e = .returned v ∧ OwnN w' w.heap.size v (sinksI ar) ∧ Below w.heap.size w w'
def RunA : Prop := ∀ (T g : Nat) (ps : List Int) (A : Option Addr) (n c : Nat) (ar : List Int) (f : Int) (w : World), IsTr w T g ps → Gr.Good ps → InA w ar A n c → I64 f →
  Calls Try.prog 22 #[.pointer (some ⟨T, 0, none⟩), .slice A n c, .int .i64 f] w fun e w' => ∃ v, e = .returned (.tuple #[v, .int .i64 (runI ps ar f).2]) ∧ OwnN w' w.heap.size v (runI ps ar f).1 ∧ Below w.heap.size w w'
def FollowA : Prop := ∀ (A : Option Addr) (n c : Nat) (ar : List Int) (f : Int) (w : World), InA w ar A n c → I64 f →
  Calls Try.prog 24 #[.slice A n c, .int .i64 f] w fun e w' => ∃ v R, e = .returned v ∧ SeqA v (followI ar f) R w' ∧ Below w.heap.size w w' ∧ ∀ g, R g → w.heap.size ≤ g
end Go.Proofs.Ytcomiininaemhaa.Pk
