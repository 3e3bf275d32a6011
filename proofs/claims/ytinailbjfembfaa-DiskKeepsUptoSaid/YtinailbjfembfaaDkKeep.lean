/- Two disks, two arguments: what stays while the call turns memory of its own. -/
import Derived.Test.YtinailbjfembfaaDkTwo
import Derived.Test.YtinailbjfembfaaHold
namespace Go.Proofs.Ytinailbjfembfaa.Pk
open Go.RowKit Go.Proofs.Ytinailbjfembfaa.Dk Go.Proofs.Ytinailbjfembfaa.Ar
set_option linter.unusedVariables false

structure KEnv (w0 : World) (s t : Nat) (a : Option Addr) (n : Nat) (l : List Int) (b : Option Addr) (m : Nat) (r : List Int) (R : Nat) (d : DK) (S : Nat → Prop) (R' : Nat) (o : DK) (S' : Nat → Prop) (w : World) : Prop where
  bel : Below w0.heap.size w0 w
  ra : Reads w w0.heap.size 1 a n (bts l)
  rb : Reads w w0.heap.size 1 b m (bts r)
  d : DkP w R d S
  o : DkP w R' o S'
  sd : ∀ b, S b → s ≤ b ∧ b < t
  so : ∀ b, S' b → s ≤ b ∧ b < t
  sz : t ≤ w.heap.size
  lo : w0.heap.size ≤ s
section
variable {w0 : World} {s t : Nat} {a : Option Addr} {n : Nat} {l : List Int} {b : Option Addr} {m : Nat} {r : List Int} {R : Nat} {d : DK} {S : Nat → Prop} {R' : Nat} {o : DK} {S' : Nat → Prop} {w w' : World}
theorem KEnv.mod {lo hi : Nat} (h : KEnv w0 s t a n l b m r R d S R' o S' w) (k : Mod lo hi w w') (hlo : w0.heap.size ≤ lo) (hd : hi ≤ s ∨ t ≤ lo) : KEnv w0 s t a n l b m r R d S R' o S' w' where
  bel := k.below h.bel hlo h.bel.size
  ra := h.ra.keep fun p hp => World.cell?_of_block (k.block p.block (Nat.lt_of_lt_of_le hp h.bel.size) (.inl (by omega)))
  rb := h.rb.keep fun p hp => World.cell?_of_block (k.block p.block (Nat.lt_of_lt_of_le hp h.bel.size) (.inl (by omega)))
  d := h.d.stay ⟨k.size, fun b hb => k.block b (h.d.lt b hb) (by have := h.sd b hb; omega)⟩
  o := h.o.stay ⟨k.size, fun b hb => k.block b (h.o.lt b hb) (by have := h.so b hb; omega)⟩
  sd := h.sd
  so := h.so
  sz := Nat.le_trans h.sz k.size
  lo := h.lo
theorem KEnv.next (h : KEnv w0 s t a n l b m r R d S R' o S' w) (k : Below w.heap.size w w') : KEnv w0 s t a n l b m r R d S R' o S' w' :=
  h.mod (Mod.of k w0.heap.size s) (Nat.le_refl _) (.inl (Nat.le_refl _))
theorem KEnv.drewN (h : KEnv w0 s t a n l b m r R d S R' o S' w) (k : Nat) : KEnv w0 s t a n l b m r R d S R' o S' (w.drewN k) := h.next (below_drewN (Below.refl _ _) k)
theorem KEnv.rA (h : KEnv w0 s t a n l b m r R d S R' o S' w) : Reads w w.heap.size 1 a n (bts l) := h.ra.more h.bel.size
theorem KEnv.rB (h : KEnv w0 s t a n l b m r R d S R' o S' w) : Reads w w.heap.size 1 b m (bts r) := h.rb.more h.bel.size
end
theorem two_ {lo hi n c : Nat} {A : Option Addr} {l : List Int} {x y : Int} {w : World} (h : OwnI lo hi (.slice A (n + 2) c) (l ++ [x, y]) w) (hl : l.length = n) :
    ∃ g, A = some ⟨g, 0, none⟩ ∧ w.cell? ⟨g, n, none⟩ = some (.int .u8 x) ∧ w.cell? ⟨g, n + 1, none⟩ = some (.int .u8 y) := by
  subst hl
  obtain ⟨g, e, _, _, _, c1, _⟩ := h.store (i := l.length) (by omega)
  obtain ⟨g2, e2, _, _, _, c2, _⟩ := h.store (i := l.length + 1) (by omega)
  subst e
  injection e2 with e2; injection e2 with e2; subst e2
  refine ⟨g, rfl, by rw [c1]; simp, by rw [c2]; simp⟩
theorem below_via {w w' : World} (h : Below w.heap.size (w.drewN 1) w') : Below w.heap.size w w' := ⟨h.os, h.tape, h.output, h.size, h.block⟩
/-- A disk that came of two lists, its file 0 appended to. -/
theorem new_app (l r : List Int) : (DK.new l r).appE 0 = 0 ∧ ((DK.new l r).app 0 r).rd 0 = l ++ r ∧ ((DK.new l r).app 0 r).no 0 = 0 ∧ ((DK.new l r).app 0 r).sf 1 = r := ⟨rfl, rfl, rfl, rfl⟩
theorem new_rd (l r : List Int) : (DK.new l r).rd 0 = l ∧ (DK.new l r).no 0 = 0 ∧ (DK.new l r).rd 1 = r ∧ (DK.new l r).no 1 = 0 := ⟨List.append_nil l, rfl, List.append_nil r, rfl⟩
end Go.Proofs.Ytinailbjfembfaa.Pk
