/- Plain mathematics of numbers as bytes: what a number's bytes are, and what bytes begin with. -/
import Derived.WalkKit
import Derived.Test.YtiaafhcfeeekeaaZRange
import Derived.Test.YtiaafhcfeeekeaaProg
import Derived.LoopTactic
import Derived.Outline
import Derived.Lib.Hide
namespace Go.Proofs.Ytiaafhcfeeekeaa.Pk

/-- The bytes of a number (fuel first): seven bits each, the lowest first. -/
def enc : Nat → Int → List Int
  | 0, x => [x]
  | n + 1, x => if x < 128 then [x] else (x % 128 + 128) :: enc n (x / 128)

/-- What bytes begin with: the number and how many bytes, within n bytes. -/
def tk : Nat → List Int → Option (Int × Nat)
  | 0, _ => none
  | _ + 1, [] => none
  | n + 1, c :: r => if c < 128 then some (c, 1) else
      match tk n r with
      | some (x, k) => if x = 0 then none else some (c - 128 + 128 * x, k + 1)
      | none => none

def isB (l : List Int) : Prop := ∀ c ∈ l, 0 ≤ c ∧ c ≤ 255

/-- y fits in m + 1 sevens of bits. -/
def fits (m : Nat) (y : Int) : Prop := y < 128 ^ (m + 1)

/-- What Take answers. -/
def tkv (l : List Int) : Int × Nat := (tk 9 l).getD (0, 0)

/-- Take's own loop: at place i, x gathered, n rounds left, r the bytes that are left. -/
def tgo : Nat → Nat → Int → List Int → Int × Nat
  | 0, _, _, _ => (0, 0)
  | _ + 1, _, _, [] => (0, 0)
  | n + 1, i, x, c :: r => if 128 ≤ c then tgo n (i + 1) (x + (c - 128) * 128 ^ i) r else if c = 0 ∧ 0 < i then (0, 0) else (x + c * 128 ^ i, i + 1)

/-- The bytes of numbers, one behind the other. -/
def encs (xs : List Int) : List Int := xs.flatMap fun x => enc 8 (max x 0)
theorem encs_nil : encs [] = [] := rfl
end Go.Proofs.Ytiaafhcfeeekeaa.Pk

/- Plain mathematics: the numbers that stand one behind the other from the front of bytes on. -/
namespace Go.Proofs.Ytiaafhcfeeekeaa.Pk

/-- From place o on (fuel first): the place of each number, and itself. -/
def numsF : Nat → Nat → List Int → List (Nat × Int)
  | 0, _, _ => []
  | f + 1, o, l => if (tkv l).2 = 0 then [] else (o, (tkv l).1) :: numsF f (o + (tkv l).2) (l.drop (tkv l).2)
def nums (l : List Int) : List (Nat × Int) := numsF (l.length + 1) 0 l

/-- What is still to come at place o, whatever the fuel. -/
def Ahead (l : List Int) (pre : List (Nat × Int)) (o : Nat) : Prop := ∃ f, (l.drop o).length < f ∧ nums l = pre ++ numsF f o (l.drop o)
end Go.Proofs.Ytiaafhcfeeekeaa.Pk

/- Plain mathematics: numbers that are put one behind the other are gone over in their order. -/
namespace Go.Proofs.Ytiaafhcfeeekeaa.Pk

/-- How many bytes the first k numbers have. -/
def tot (xs : List Int) (k : Nat) : Nat := (encs (xs.take k)).length
def chain (xs : List Int) (k : Nat) : List (Nat × Int) := (List.range k).map fun i => (tot xs i, max (xs.getD i 0) 0)
end Go.Proofs.Ytiaafhcfeeekeaa.Pk

/- Plain mathematics of messages as bytes: what can be, a message's bytes, what bytes begin with. -/
namespace Go.Proofs.Ytiaafhcfeeekeaa.Pk

/-- A message's five numbers. -/
structure Mg where
  k : Int
  o : Int
  n : Int
  u : Int
  v : Int
deriving DecidableEq
def Mg.zero : Mg := ⟨0, 0, 0, 0, 0⟩
def Mg.Be (m : Mg) : Prop := 1 ≤ m.k ∧ m.k ≤ 4 ∧ 0 ≤ m.o ∧ m.o ≤ 7 ∧ 0 ≤ m.n ∧ m.n ≤ 31 ∧ 1 ≤ m.u ∧ m.u ≤ 1099511627776 ∧ (m.k = 4 → 0 ≤ m.v ∧ m.v ≤ 31) ∧ (m.k ≠ 4 → m.v = 0)
instance (m : Mg) : Decidable m.Be := by unfold Mg.Be; exact inferInstance
def Mg.nums (m : Mg) : List Int := if m.k = 4 then [m.k, m.o, m.n, m.u, m.v] else [m.k, m.o, m.n, m.u]
def Mg.bytes (m : Mg) : List Int := encs m.nums
/-- What Put lays behind. -/
def Mg.put (m : Mg) : List Int := if m.Be then m.bytes else []
def Mg.of (xs : List Int) : Mg := ⟨xs.getD 0 0, xs.getD 1 0, xs.getD 2 0, xs.getD 3 0, xs.getD 4 0⟩
/-- Why bytes begin with no number: 30 too short, 31 another form. -/
def fault (l : List Int) : Int := if l.length ≤ 8 ∧ ∀ c ∈ l, 128 ≤ c then 30 else 31
/-- Are more numbers read? -/
def more (xs : List Int) : Prop := xs.length < 4 ∨ (xs.length = 4 ∧ xs.getD 0 0 = 4)
instance (xs : List Int) : Decidable (more xs) := by unfold more; exact inferInstance
/-- Take's rounds (fuel first): the numbers so far, the place. -/
def wgo : Nat → List Int → Nat → List Int → Mg × Nat × Int
  | 0, _, _, _ => (Mg.zero, 0, 0)
  | f + 1, xs, at_, l => if more xs then (if (tkv (l.drop at_)).2 = 0 then (Mg.zero, 0, fault (l.drop at_)) else wgo f (xs ++ [(tkv (l.drop at_)).1]) (at_ + (tkv (l.drop at_)).2) l)
    else if (Mg.of xs).Be then (Mg.of xs, at_, 0) else (Mg.zero, 0, 31)
/-- What Take answers. -/
def wtake (l : List Int) : Mg × Nat × Int := wgo 6 [] 0 l

end Go.Proofs.Ytiaafhcfeeekeaa.Pk

/- Messages as they lie: five ints. -/
namespace Go.Proofs.Ytiaafhcfeeekeaa.Pk
open Go.RowKit
set_option linter.unusedVariables false
def Mg.val (m : Mg) : Value := .agg #[.int .i64 m.k, .int .i64 m.o, .int .i64 m.n, .int .i64 m.u, .int .i64 m.v]
/-- Five ints. -/
structure Mg.I (m : Mg) : Prop where
  k : -9223372036854775808 ≤ m.k ∧ m.k ≤ 9223372036854775807
  o : -9223372036854775808 ≤ m.o ∧ m.o ≤ 9223372036854775807
  n : -9223372036854775808 ≤ m.n ∧ m.n ≤ 9223372036854775807
  u : -9223372036854775808 ≤ m.u ∧ m.u ≤ 9223372036854775807
  v : -9223372036854775808 ≤ m.v ∧ m.v ≤ 9223372036854775807
theorem Mg.Be.i {m : Mg} (h : m.Be) : m.I := by
  obtain ⟨h1, h2, h3, h4, h5, h6, h7, h8, h9, h10⟩ := h
  have : -9223372036854775808 ≤ m.v ∧ m.v ≤ 9223372036854775807 := by
    by_cases hk : m.k = 4
    · have := h9 hk; omega
    · have := h10 hk; omega
  exact ⟨by omega, by omega, by omega, by omega, this⟩
end Go.Proofs.Ytiaafhcfeeekeaa.Pk

/- Plain mathematics of one side of an edge: what was pushed and not heard, what was heard of the peer's. -/
namespace Go.Proofs.Ytiaafhcfeeekeaa.Pk
set_option linter.unusedVariables false
/-- A side: the peer, how many it heard, the messages behind them, how many of the peer's were heard. -/
structure Hf where
  p : Int
  b : Int
  o : List Mg
  s : Int
deriving DecidableEq
def Hf.zero : Hf := ⟨0, 0, [], 0⟩
def allBe (l : List Mg) : Prop := ∀ m ∈ l, m.Be
instance (l : List Mg) : Decidable (allBe l) := by unfold allBe; exact inferInstance
def Hf.Be (h : Hf) : Prop := 0 ≤ h.p ∧ h.p ≤ 31 ∧ 0 ≤ h.b ∧ 0 ≤ h.s ∧ h.s ≤ 1099511627776 ∧ h.o.length ≤ 1024 ∧ h.b + (h.o.length : Int) ≤ 1099511627776 ∧ allBe h.o
instance (h : Hf) : Decidable h.Be := by unfold Hf.Be; exact inferInstance
/-- No room for a message more. -/
def Hf.Full (h : Hf) : Prop := h.o.length = 1024 ∨ h.b + (h.o.length : Int) = 1099511627776
instance (h : Hf) : Decidable h.Full := by unfold Hf.Full; exact inferInstance
/-- A number that is word of more. -/
def Hf.News (h : Hf) (a : Int) : Prop := h.b < a ∧ a ≤ h.b + (h.o.length : Int)
instance (h : Hf) (a : Int) : Decidable (h.News a) := by unfold Hf.News; exact inferInstance
def Hf.add (h : Hf) (m : Mg) : Hf := ⟨h.p, h.b, h.o ++ [m], h.s⟩
def Hf.cut (h : Hf) (a : Int) : Hf := ⟨h.p, a, h.o.drop (a - h.b).toNat, h.s⟩
def Hf.one (h : Hf) : Hf := ⟨h.p, h.b, h.o, h.s + 1⟩
def hpush (h : Hf) (m : Mg) : Hf × Int := if h.Be then (if m.Be then (if h.Full then (Hf.zero, 23) else (h.add m, 0)) else (Hf.zero, 1)) else (Hf.zero, 24)
def hheard (h : Hf) (a : Int) : Hf × Int := if h.Be then (if h.News a then (h.cut a, 0) else (h, 0)) else (Hf.zero, 24)
def hfits (h : Hf) (q : Int) : Bool := decide (h.Be ∧ h.s < 1099511627776 ∧ q = h.s + 1)
def htake (h : Hf) : Hf × Int := if h.Be then (if h.s = 1099511627776 then (Hf.zero, 23) else (h.one, 0)) else (Hf.zero, 24)
/-- The messages with their numbers, from number b + 1 on. -/
def hnum : Int → List Mg → List (Int × Mg)
  | _, [] => []
  | b, m :: r => (b + 1, m) :: hnum (b + 1) r
/-- What Left goes over. -/
def hleft (h : Hf) (seen : Int) : List (Int × Mg) := if h.Be then (hnum h.b h.o).filter (fun x => decide (seen < x.1)) else []
theorem Hf.Be.add {h : Hf} (hb : h.Be) {m : Mg} (hm : m.Be) (hf : ¬ h.Full) : (h.add m).Be := by
  obtain ⟨h1, h2, h3, h4, h5, h6, h7, h8⟩ := hb
  unfold Hf.Full at hf
  refine ⟨h1, h2, h3, h4, h5, ?_, ?_, ?_⟩
  · show (h.o ++ [m]).length ≤ 1024
    rw [List.length_append]
    simp
    omega
  · show h.b + ((h.o ++ [m]).length : Int) ≤ _
    rw [List.length_append]
    simp
    omega
  · intro x hx
    rcases List.mem_append.1 (show x ∈ h.o ++ [m] from hx) with hx | hx
    · exact h8 x hx
    · obtain rfl : x = m := by simpa using hx
      exact hm
theorem Hf.Be.cut {h : Hf} (hb : h.Be) {a : Int} (hn : h.News a) : (h.cut a).Be := by
  obtain ⟨h1, h2, h3, h4, h5, h6, h7, h8⟩ := hb
  obtain ⟨n1, n2⟩ := hn
  refine ⟨h1, h2, ?_, h4, h5, ?_, ?_, fun x hx => h8 x (List.mem_of_mem_drop hx)⟩
  · show 0 ≤ a; omega
  · show (h.o.drop _).length ≤ 1024
    rw [List.length_drop]; omega
  · show a + ((h.o.drop (a - h.b).toNat).length : Int) ≤ _
    rw [List.length_drop]; omega
theorem Hf.Be.one {h : Hf} (hb : h.Be) (hs : h.s ≠ 1099511627776) : h.one.Be := by
  obtain ⟨h1, h2, h3, h4, h5, h6, h7, h8⟩ := hb
  exact ⟨h1, h2, h3, by show 0 ≤ h.s + 1; omega, by show h.s + 1 ≤ _; omega, h6, h7, h8⟩
end Go.Proofs.Ytiaafhcfeeekeaa.Pk
