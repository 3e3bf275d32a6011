/- The mathematics of the sum: one shift, eight shifts, the sum of a list of bytes; it is linear and loses nothing. -/
namespace Go.Proofs.Ytiaafhcfeeekeaa.Crc
set_option linter.unusedVariables false

/-- One shift: what falls out turns the rest. -/
def sh (r : Nat) : Nat := r / 2 ^^^ (if r % 2 = 1 then 3988292384 else 0)

def sh4 (r : Nat) : Nat := sh (sh (sh (sh r)))
def sh8 (r : Nat) : Nat := sh4 (sh4 r)
/-- The table's numbers. -/
def tab : List Int := [0, 498536548, 997073096, 651767980, 1994146192, 1802195444, 1303535960, 1342533948, 3988292384, 4027552580, 3604390888, 3412177804, 2607071920, 2262029012, 2685067896, 3183342108]
def tabN (i : Nat) : Nat := (tab.getD i 0).toNat
/-- The register behind the bytes of a list. -/
def run : Nat → List Int → Nat
  | r, [] => r
  | r, c :: l => run (sh8 (r ^^^ c.toNat)) l
/-- The number with all its bits turned. -/
def inv (r : Nat) : Nat := 4294967295 ^^^ r
/-- The sum s, gone on with the bytes l. -/
def crc (s : Nat) (l : List Int) : Nat := inv (run (inv s) l)
/-- A list of bytes. -/
def Bytes (l : List Int) : Prop := ∀ x ∈ l, 0 ≤ x ∧ x ≤ 255

theorem Bytes.tail {c : Int} {l : List Int} (h : Bytes (c :: l)) : Bytes l := fun x hx => h x (List.mem_cons_of_mem _ hx)
theorem Bytes.head {c : Int} {l : List Int} (h : Bytes (c :: l)) : 0 ≤ c ∧ c ≤ 255 := h c (List.mem_cons_self ..)
theorem Bytes.app {l r : List Int} (h : Bytes l) (h' : Bytes r) : Bytes (l ++ r) := fun x hx => by
  rcases List.mem_append.1 hx with hx | hx
  · exact h x hx
  · exact h' x hx
theorem Bytes.take {l : List Int} (h : Bytes l) (k : Nat) : Bytes (l.take k) := fun x hx => h x (List.mem_of_mem_take hx)
theorem Bytes.drop {l : List Int} (h : Bytes l) (k : Nat) : Bytes (l.drop k) := fun x hx => h x (List.mem_of_mem_drop hx)
/-- Two lists of one length, place by place. -/
def mix (l r : List Int) : List Int := List.zipWith (fun x y => ((x.toNat ^^^ y.toNat : Nat) : Int)) l r
/-- No bit of a list's bytes is one. -/
def Clear (l : List Int) : Prop := ∀ x ∈ l, x = 0
/-- The number whose bytes the list is, the first one the least. -/
def le : List Int → Nat
  | [] => 0
  | c :: l => c.toNat ^^^ 256 * le l
def sh8n : Nat → Nat → Nat
  | 0, r => r
  | n + 1, r => sh8n n (sh8 r)
/-- What the first of the masks, laid from a place on, turn in a list of n bytes. -/
def turns (n p : Nat) (ms : List Int) : List Int := (List.range n).map fun j => if p ≤ j then ms.getD (j - p) 0 else 0
/-- Some byte isn't none. -/
def some1 (l : List Int) : Bool := l.any (· != 0)
/-- The sum of all lists, one behind the other. -/
def sums : Nat → List (List Int) → Nat
  | s, [] => s
  | s, l :: ls => sums (crc s l) ls
end Go.Proofs.Ytiaafhcfeeekeaa.Crc

/- Frames: a payload's bytes, what bytes begin with, the good frames of bytes; plain mathematics. -/
namespace Go.Proofs.Ytiaafhcfeeekeaa.Fr
open Go.Proofs.Ytiaafhcfeeekeaa.Crc
set_option linter.unusedVariables false

/-- A number in four bytes, the lowest first. -/
def le4 (n : Nat) : List Int := [((n % 256 : Nat) : Int), ((n / 256 % 256 : Nat) : Int), ((n / 65536 % 256 : Nat) : Int), ((n / 16777216 % 256 : Nat) : Int)]
/-- The number of the first four bytes. -/
def num4 (b : List Int) : Nat := (b.getD 0 0).toNat + 256 * ((b.getD 1 0).toNat + 256 * ((b.getD 2 0).toNat + 256 * (b.getD 3 0).toNat))
@[simp] theorem le4_length (n : Nat) : (le4 n).length = 4 := rfl
/-- A frame's sum; the frame. -/
def fsum (p : List Int) : Nat := crc 0 (le4 p.length ++ p)
def enc (p : List Int) : List Int := le4 p.length ++ (le4 (fsum p) ++ p)
@[simp] theorem enc_length (p : List Int) : (enc p).length = 8 + p.length := by simp [enc]; omega
/-- The payload of the frame with which bytes begin. -/
def fst (b : List Int) : Option (List Int) :=
  if 8 ≤ b.length ∧ num4 b ≤ 1048576 ∧ num4 b + 8 ≤ b.length ∧ b.take (8 + num4 b) = enc ((b.drop 8).take (num4 b)) then some ((b.drop 8).take (num4 b)) else none
/-- Frames one behind the other. -/
def encs (ps : List (List Int)) : List Int := ps.flatMap enc
def Fit (ps : List (List Int)) : Prop := ∀ p ∈ ps, p.length ≤ 1048576
@[simp] theorem encs_nil : encs [] = [] := rfl
/-- The good frames of bytes. -/
def frN : Nat → List Int → List (List Int)
  | 0, _ => []
  | k + 1, b => match fst b with
    | none => []
    | some p => p :: frN k (b.drop (8 + p.length))
def frames (b : List Int) : List (List Int) := frN b.length b
def fend (b : List Int) : Nat := (encs (frames b)).length
/-- Where the frame at a place begins. -/
def atN (b : List Int) (i : Nat) : Nat := (encs ((frames b).take i)).length
end Go.Proofs.Ytiaafhcfeeekeaa.Fr
