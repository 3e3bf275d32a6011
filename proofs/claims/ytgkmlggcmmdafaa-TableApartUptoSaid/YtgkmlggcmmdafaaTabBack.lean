/- What a table's Back promises: a method value that goes over the rows. -/
import Derived.Test.YtgkmlggcmmdafaaTabSeq
import Derived.Test.YtgkmlggcmmdafaaRangeB
namespace Go.Proofs.Ytgkmlggcmmdafaa.Pk
open Go.RowKit Go.Shelf Go.Proofs.Ytgkmlggcmmdafaa.Tb
set_option linter.unusedVariables false

def SeqB (v : Value) (rows : List Rw) (R : Nat → Prop) (w : World) : Prop :=
  ∃ gf pb, v = .func (.func gf) pb #[] ∧ (∀ args u, (callFunc gf args).run Try.prog u = .ok (.enter gf args) u) ∧ (∀ b, R b → b < w.heap.size) ∧
    ∀ m W, Stay R w W → GoesB m Try.prog gf pb #[] (fun x : Rw => #[Value.int .i64 x.1, Value.string x.2]) (Stay R) (fun ys => ys = rows) (fun pre => pre <+: rows) rows.length W
theorem SeqB.stay {v : Value} {rows : List Rw} {R : Nat → Prop} {w W : World} (h : SeqB v rows R w) (hs : Stay R w W) : SeqB v rows R W := by
  obtain ⟨gf, pb, e, h1, h2, h3⟩ := h
  exact ⟨gf, pb, e, h1, fun b hb => Nat.lt_of_lt_of_le (h2 b hb) hs.1, fun m W' hW => h3 m W' (hs.trans hW)⟩
theorem SeqB.at_ {gf : Nat} {pb : Array Value} {rows : List Rw} {R : Nat → Prop} {w : World} (h : SeqB (.func (.func gf) pb #[]) rows R w) (m : Nat) :
    GoesB m Try.prog gf pb #[] (fun x : Rw => #[Value.int .i64 x.1, Value.string x.2]) (Stay R) (fun ys => ys = rows) (fun pre => pre <+: rows) rows.length w := by
  obtain ⟨gf', pb', e, _, _, h3⟩ := h
  injection e with e1 e2 _
  injection e1 with e1
  subst e1; subst e2
  exact h3 m w (Stay.refl _ _)
theorem SeqB.lt {v : Value} {rows : List Rw} {R : Nat → Prop} {w : World} (h : SeqB v rows R w) : ∀ b, R b → b < w.heap.size := by
  obtain ⟨_, _, _, _, h2, _⟩ := h
  exact h2
structure SeqK (Tb : World → Nat → List Rw → (Nat → Prop) → (Nat → Prop) → Prop) : Prop where
  qback : ∀ w T l S D, Tb w T l S D → l.length ≤ 4398046511104 → Calls Try.prog 14 #[.pointer (some ⟨T, 0, none⟩)] w fun e w' =>
    ∃ v R, e = .returned v ∧ SeqB v l.reverse R w' ∧ Below w.heap.size w w' ∧ From D R w ∧ ∀ b, R b → ¬ S b
theorem SeqK.back {Tb : World → Nat → List Rw → (Nat → Prop) → (Nat → Prop) → Prop} (K : SeqK Tb) (C : TableC Tb) (w : World) (T : Nat) (l : List Rw) (S D : Nat → Prop) (h : Tb w T l S D) (hl : l.length ≤ 4398046511104) :
    Calls Try.prog 14 #[.pointer (some ⟨T, 0, none⟩)] w fun e w' =>
      ∃ v R S' D', e = .returned v ∧ SeqB v l.reverse R w' ∧ Tb w' T l S' D' ∧ Turned S w w' ∧ From S S' w ∧ From D D' w ∧ From D R w ∧ ∀ b, R b → ¬ S' b :=
  (K.qback w T l S D h hl).mono fun e w' ⟨v, R, he, hs, hb, hf, hr⟩ => ⟨v, R, S, D, he, hs, C.next h hb, Turned.of hb (Nat.le_refl _) S, From.refl _ _, From.refl _ _, hf, hr⟩
end Go.Proofs.Ytgkmlggcmmdafaa.Pk
