/- Slices with known bytes that lie apart from a disk. -/
import Derived.Test.YtgocfkjibcokjaaDkSafeM
import Derived.Test.YtgocfkjibcokjaaArgD
import Derived.Test.YtgocfkjibcokjaaSameD
namespace Go.Proofs.Ytgocfkjibcokjaa.Pk
open Go.RowKit Go.Proofs.Ytgocfkjibcokjaa.Dk Go.Proofs.Ytgocfkjibcokjaa.Ar
set_option linter.unusedVariables false

/-- A value that owns its bytes, in none of the blocks S. -/
def Kp (w : World) (S : Nat → Prop) (v : Value) (l : List Int) : Prop := OwnB w 0 v l ∧ ∀ g, v.ownBlock = some g → ¬ S g
theorem Kp.turn {w w' : World} {S S' : Nat → Prop} {v : Value} {l : List Int} (h : Kp w S v l) (t : Turned S w w') (f : From S S' w) : Kp w' S' v l :=
  ⟨h.1.stay fun g e => t.block g (h.1.lt g e) (h.2 g e), fun g e hs => by
    rcases f g hs with h1 | h1
    · exact h.2 g e h1
    · have := h.1.lt g e; omega⟩
theorem Kp.next {w w' : World} {S : Nat → Prop} {v : Value} {l : List Int} (h : Kp w S v l) (hb : Below w.heap.size w w') : Kp w' S v l := ⟨h.1.keep hb (Nat.le_refl _), h.2⟩
theorem Kp.drewN {w : World} {S : Nat → Prop} {v : Value} {l : List Int} (h : Kp w S v l) (n : Nat) : Kp (w.drewN n) S v l := h.next (below_drewN (Below.refl _ _) n)
theorem Kp.new {w w' : World} {S : Nat → Prop} {v : Value} {l : List Int} (h : OwnB w' w.heap.size v l) (hS : ∀ b, S b → b < w.heap.size) : Kp w' S v l :=
  ⟨h.mono (Nat.zero_le _), fun g e hs => by have := h.base g e; have := hS g hs; omega⟩
theorem Kp.len {w : World} {S : Nat → Prop} {A : Option Addr} {n c : Nat} {l : List Int} (h : Kp w S (.slice A n c) l) : l.length = n ∧ n ≤ c := own_len h.1
theorem Kp.reads {w : World} {S : Nat → Prop} {A : Option Addr} {n c : Nat} {l : List Int} (h : Kp w S (.slice A n c) l) : Reads w w.heap.size 1 A n (bts l) := by
  obtain ⟨A', c', e, _, hr⟩ := h.1.reads
  have := h.len.1
  injection e with e1 e2 e3
  rw [e1]; rw [this] at hr; exact hr
theorem Kp.take {w : World} {S : Nat → Prop} {A : Option Addr} {n c k : Nat} {l : List Int} (h : Kp w S (.slice A n c) l) (hk : k ≤ n) : Kp w S (.slice A k c) (l.take k) :=
  ⟨h.1.cut hk, fun g e => h.2 g (by
    cases A with
    | none => simp [Value.ownBlock] at e
    | some x => simpa [Value.ownBlock] using e)⟩
/-- Bytes behind an empty literal, as one step of a region. -/
theorem stepE {ops : Array Oper} {o : Oper} {a : Act} {K : Act → World → Prop} {Q : Exit → Act → World → Prop} {E : Prop} (w : World) (k : Nat) (hgd : o.guard = none) (s x : Operand)
    (ho : o.op = .call { callee := .builtin .append, args := #[s, x], argTypes := #[46, 46] }) (hs : a.eval s = .slice (some ⟨k, 0, none⟩) 0 0) (hk : OwnB w k (.slice (some ⟨k, 0, none⟩) 0 0) [])
    (B' : Nat) (A : Option Addr) (c : Nat) (r : List Int) (n : Nat) (hx : a.eval x = .slice A n c) (hr : Reads w B' 1 A n (bts r)) (hlen : n ≤ 140737488355328) (hB : k ≤ w.heap.size)
    (h : ∀ A' n' c' w', OwnB w' k (.slice A' n' c') r → Below k w w' → K (a.put o.dst (.slice A' n' c')) w') :
    if Region.wanted o (yielded ops a.tmps) = true then Oper.wp Try.prog o a w K Q else E := by
  refine stepB w hgd s x ho k _ [] hs hk B' A c r n hx hr (by simp; omega) hB ?_
  intro A' n' c' w' hown hg hat
  exact h A' n' c' w' (by simpa using hown) ((Below.refl _ _).grown hg hB (own_base hk))
end Go.Proofs.Ytgocfkjibcokjaa.Pk
