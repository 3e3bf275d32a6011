/- Plain mathematics of what is under way: lists of bytes, in the order of sending. -/
namespace Go.Proofs.Ytcjfammfplcigaa.Nt
set_option linter.unusedVariables false
abbrev Li := List (List Int)
def inN (l : Li) (i : Int) : Bool := decide (0 ≤ i ∧ i < (l.length : Int))
/-- The one at place i, or none. -/
def atN (l : Li) (i : Int) : List Int := if inN l i then l.getD i.toNat [] else []
def sendN (l : Li) (x : List Int) : Li := if l.length < 512 then l ++ [x] else l
def takeN (l : Li) (i : Int) : Li := if inN l i then l.eraseIdx i.toNat else l
def dblN (l : Li) (i : Int) : Li := if inN l i then sendN l (atN l i) else l
def dblB (l : Li) (i : Int) : Bool := inN l i && decide (l.length < 512)
theorem inN_iff {l : Li} {i : Int} : inN l i = true ↔ ∃ k : Nat, i = (k : Int) ∧ k < l.length := by
  unfold inN
  rw [decide_eq_true_eq]
  constructor
  · rintro ⟨h1, h2⟩; exact ⟨i.toNat, by omega, by omega⟩
  · rintro ⟨k, rfl, h⟩; omega
theorem sendN_len (l : Li) (x : List Int) (h : l.length ≤ 512) : (sendN l x).length ≤ 512 := by
  unfold sendN; split
  · simp; omega
  · exact h
theorem takeN_len (l : Li) (i : Int) : (takeN l i).length ≤ l.length := by
  unfold takeN; split
  · exact (List.length_eraseIdx_le ..)
  · exact Nat.le_refl _
theorem dblN_len (l : Li) (i : Int) (h : l.length ≤ 512) : (dblN l i).length ≤ 512 := by
  unfold dblN; split
  · exact sendN_len l _ h
  · exact h
/-- No datagram is longer than M. -/
def Short (M : Nat) (l : Li) : Prop := ∀ x ∈ l, x.length ≤ M
def Bys (l : Li) : Prop := ∀ x ∈ l, ∀ c ∈ x, 0 ≤ c ∧ c ≤ 255
theorem atN_mem {l : Li} {i : Int} (h : inN l i = true) : atN l i ∈ l := by
  obtain ⟨k, rfl, hk⟩ := inN_iff.1 h
  unfold atN
  rw [if_pos h, Int.toNat_natCast, List.getD_eq_getElem?_getD, List.getElem?_eq_getElem hk]
  exact List.getElem_mem _
theorem atN_len {M : Nat} {l : Li} (h : Short M l) (i : Int) : (atN l i).length ≤ M := by
  by_cases hi : inN l i = true
  · exact h _ (atN_mem hi)
  · unfold atN; rw [if_neg hi]; simp
theorem Short.send {M : Nat} {l : Li} (h : Short M l) {x : List Int} (hx : x.length ≤ M) : Short M (sendN l x) := by
  unfold sendN; split
  · intro y hy
    rcases List.mem_append.1 hy with hy | hy
    · exact h y hy
    · obtain rfl : y = x := by simpa using hy
      exact hx
  · exact h
theorem Short.take {M : Nat} {l : Li} (h : Short M l) (i : Int) : Short M (takeN l i) := by
  unfold takeN; split
  · exact fun y hy => h y (List.mem_of_mem_eraseIdx hy)
  · exact h
theorem Short.dbl {M : Nat} {l : Li} (h : Short M l) (i : Int) : Short M (dblN l i) := by
  unfold dblN; split
  · exact h.send (atN_len h i)
  · exact h
end Go.Proofs.Ytcjfammfplcigaa.Nt
