/- A script of calls: what a slice of them reads as, and how such an argument is opened. -/
import Derived.Test.YtgkmlggcmmdafaaArg0
import Derived.Test.YtgkmlggcmmdafaaRowWords
import Derived.Deep.Slices
import Derived.Deep.Fields
import Derived.ChangeSame
namespace Go.Proofs.Ytgkmlggcmmdafaa.Pk
open Go.RowKit
set_option linter.unusedVariables false

/-- A call: its kind, its number, its text. -/
abbrev Cl := Int × Int × ByteArray
def ccell (r : Cl) : List Value := [.int .i64 r.1, .int .i64 r.2.1, .string r.2.2]
def cls (l : List Cl) : List Value := l.flatMap ccell
theorem cls_cons (r : Cl) (l : List Cl) : cls (r :: l) = .int .i64 r.1 :: .int .i64 r.2.1 :: .string r.2.2 :: cls l := rfl
@[simp] theorem cls_length (l : List Cl) : (cls l).length = l.length * 3 := by
  induction l with
  | nil => rfl
  | cons r l ih => rw [cls_cons]; simp [ih]; omega
theorem cls_get {l : List Cl} {k : Nat} {r : Cl} (h : l[k]? = some r) : (cls l)[k * 3]? = some (.int .i64 r.1) ∧ (cls l)[k * 3 + 1]? = some (.int .i64 r.2.1) ∧ (cls l)[k * 3 + 2]? = some (.string r.2.2) := by
  induction l generalizing k with
  | nil => simp at h
  | cons x l ih =>
    rw [cls_cons]
    match k, h with
    | 0, h => simp at h; subst h; exact ⟨rfl, rfl, rfl⟩
    | k + 1, h =>
      have := ih (k := k) (by simpa using h)
      rw [show (k + 1) * 3 = k * 3 + 1 + 1 + 1 by omega]
      simpa using this
theorem Reads.calls {w : World} {B : Nat} {A : Option Addr} {n : Nat} {l : List Cl} (h : Reads w B 3 A n (cls l)) (hn : 0 < n) :
    ∃ b off, A = some ⟨b, off, none⟩ ∧ b < B ∧ ∀ i r, l[i]? = some r → w.cell? ⟨b, off + i * 3, none⟩ = some (.int .i64 r.1) ∧ w.cell? ⟨b, off + i * 3 + 1, none⟩ = some (.int .i64 r.2.1) ∧ w.cell? ⟨b, off + i * 3 + 2, none⟩ = some (.string r.2.2) := by
  obtain ⟨ad, rfl, hb, hc⟩ := h.2 hn
  have hl : 0 < (cls l).length := by rw [h.1]; omega
  have h0 := hc 0 _ (List.getElem?_eq_getElem hl)
  obtain ⟨b, off, spot⟩ := ad
  have hs : spot = none := by simpa [Addr.add] using World.cell?_spot h0
  subst hs
  have hat : ∀ j u, (cls l)[j]? = some u → w.cell? ⟨b, off + j, none⟩ = some u := by
    intro j u hu
    have := hc j u hu
    unfold Addr.add at this
    by_cases hj : j = 0
    · subst hj; simpa using this
    · simpa [hj] using this
  refine ⟨b, off, rfl, hb, fun i r hr => ?_⟩
  obtain ⟨h1, h2, h3⟩ := cls_get hr
  exact ⟨hat _ _ h1, by rw [Nat.add_assoc]; exact hat _ _ h2, by rw [Nat.add_assoc]; exact hat _ _ h3⟩
theorem Reads.clen {w : World} {B : Nat} {A : Option Addr} {n : Nat} {l : List Cl} (h : Reads w B 3 A n (cls l)) : l.length = n := by
  have := h.1; simp at this; omega
end Go.Proofs.Ytgkmlggcmmdafaa.Pk
namespace Go.Proofs.Ytgkmlggcmmdafaa.Ar
open Go.ChangeShapes Go.WideShapes Go.ChangeAt Go.RowKit Go.Proofs.Ytgkmlggcmmdafaa.Pk Go.Deep
set_option linter.unusedVariables false

/-- A script that came in. -/
def ArgC (w : World) (a : Option Addr) (n c : Nat) (l : List Cl) : Prop := Reads w w.heap.size 3 a n (cls l) ∧ n ≤ c ∧ c * 32 ≤ 140737488351232 ∧ ∀ x ∈ l, -9223372036854775808 ≤ x.2.1 ∧ x.2.1 ≤ 9223372036854775807

theorem bytesOp : Try.prog.bytesOf 28 = 32 := by kernel_rfl
theorem cellsOp : Try.prog.cellsOf 28 = 3 := by kernel_rfl

section
variable {H : Type} {enc : TypeId × Value → H} {P : Program} {w : World} {base : Nat} {spare : Nat → Bool} {held : Bool}
/-- A slice of structs of one-cell fields, field by field. -/
theorem open_fields {t e : TypeId} {fs : Array Field} {fuel : Nat} {cs : List Value} {x : DataW H × List MemPlace} (ht : P.underlying t = some (.slice e)) (he : P.underlying e = some (.struct fs))
    (hone : oneCellFields P fs = true) (hC : P.cellsOf e = fs.size) (h : DataW.trod enc P w base spare held fuel t cs = some x) :
    (cs = [.slice none 0 0]) ∨
    ∃ (a : Addr) (len cap m : Nat) (els rest : List (DataW H)), cs = [.slice (some a) len cap] ∧ len ≤ cap ∧ m = (if spare a.block then cap else len) ∧ x.1 = .slice els rest ∧ els.length = len ∧ rest.length = m - len ∧
      ∀ i, i < m → ∀ (j : Nat) (f : Field), fs[j]? = some f → ∃ (v : Value) (y : DataW H × List MemPlace) (n : Nat), w.cell? (a.add (i * fs.size + j)) = some v ∧ DataW.trod enc P w base spare held n f.type [v] = some y := by
  rcases open_slice ht h with h0 | ⟨a, len, cap, m, n, D, Pl, hcs, hb, hl, hm, hmm, hx, hi⟩
  · exact .inl h0.1
  · refine .inr ⟨a, len, cap, m, _, _, hcs, hl, hmm, by rw [hx], by simp, by simp, fun i him j f hj => ?_⟩
    obtain ⟨cs', hc, ht'⟩ := hi i him
    rw [hC] at hc
    obtain ⟨ys, n', hn', hy, hlen, hyl, hf⟩ := DataW.trod_struct he ht'
    obtain ⟨_, hcl, hat⟩ := World.cells?_some hc
    obtain ⟨ho, hk⟩ := hone_of hone j f hj
    have hjl : j < fs.size := (Array.getElem?_eq_some_iff.1 hj).1
    have hcell := hat j hjl
    have hv : cs'[j]? = some (cs'[j]'(by omega)) := List.getElem?_eq_getElem (by omega)
    have h1 := hf j f hj
    rw [ho, hk] at h1
    have hone' : (cs'.drop j).take 1 = [cs'[j]'(by omega)] := by
      rw [List.drop_eq_getElem_cons (by omega)]
      rfl
    rw [hone'] at h1
    have hys : ys[j]? = some (ys[j]'(by omega)) := List.getElem?_eq_getElem (by omega)
    refine ⟨_, _, _, ?_, h1.trans hys⟩
    rw [← Go.Deep.add_add, hcell, hv]
end
theorem open_c {H : Type} {enc : TypeId × Value → H} {W : World} {d : DataW H} {ps : List MemPlace} {a : Option Addr} {n c : Nat} (h : DataW.Trod enc Try.prog W 0 (fun _ => true) true 22 (.slice a n c) d ps)
    (hsz : ∀ elems spare, d = .slice elems spare → (elems.length + spare.length) * Try.prog.bytesOf 28 ≤ reachBytes) : ∃ l, ArgC W a n c l := by
  obtain ⟨fuel, hf⟩ := h
  have hst : ∃ fs, Try.prog.underlying 28 = some (.struct fs) ∧ fs.size = 3 ∧ oneCellFields Try.prog fs = true ∧ (fs[0]?).map (·.type) = some 3 ∧ (fs[1]?).map (·.type) = some 3 ∧ (fs[2]?).map (·.type) = some 9 :=
    ⟨_, Try.underlying28, by kernel_rfl, by kernel_rfl, by kernel_rfl, by kernel_rfl, by kernel_rfl⟩
  obtain ⟨fs, hs, h3, hone, t0, t1, t2⟩ := hst
  rcases open_fields Try.underlying22 hs hone (by rw [cellsOp, h3]) hf with hcs | ⟨x, len, cap, m, els, rest, hcs, hl, hmm, hd, he, hr, hall⟩
  · simp [Value.cells] at hcs
    obtain ⟨rfl, rfl, rfl⟩ := hcs
    exact ⟨[], Reads.none_, Nat.le_refl _, by omega, fun x hx => by cases hx⟩
  · simp [Value.cells] at hcs
    obtain ⟨rfl, rfl, rfl⟩ := hcs
    simp only [if_true] at hmm
    subst hmm
    have hb := hsz els rest hd
    rw [he, hr, bytesOp] at hb
    unfold reachBytes at hb
    have each : ∀ i, i < m → ∃ r : Cl, W.cell? (x.add (i * 3)) = some (.int .i64 r.1) ∧ W.cell? (x.add (i * 3 + 1)) = some (.int .i64 r.2.1) ∧ W.cell? (x.add (i * 3 + 2)) = some (.string r.2.2) ∧ -9223372036854775808 ≤ r.2.1 ∧ r.2.1 ≤ 9223372036854775807 := by
      intro i hi
      obtain ⟨f0, g0, e0⟩ := Option.map_eq_some_iff.1 t0
      obtain ⟨f1, g1, e1⟩ := Option.map_eq_some_iff.1 t1
      obtain ⟨f2, g2, e2⟩ := Option.map_eq_some_iff.1 t2
      obtain ⟨v0, y0, n0, c0, u0⟩ := hall i hi 0 f0 g0
      obtain ⟨v1, y1, n1, c1, u1⟩ := hall i hi 1 f1 g1
      obtain ⟨v2, y2, n2, c2, u2⟩ := hall i hi 2 f2 g2
      rw [e0] at u0; rw [e1] at u1; rw [e2] at u2
      rw [h3] at c0 c1 c2
      obtain ⟨z0, q0, _, _⟩ := DataW.trod_int Try.underlying3 u0
      obtain ⟨z1, q1, _, w1⟩ := DataW.trod_int Try.underlying3 u1
      obtain ⟨s2, q2, _, _⟩ := DataW.trod_string Try.underlying9 u2
      simp at q0 q1 q2
      subst q0; subst q1; subst q2
      exact ⟨(z0, z1, s2), by simpa using c0, c1, c2, (i64_rng w1).1, (i64_rng w1).2⟩
    obtain ⟨g, hg⟩ := choose_lt (α := Cl) (p := fun i r => W.cell? (x.add (i * 3)) = some (.int .i64 r.1) ∧ W.cell? (x.add (i * 3 + 1)) = some (.int .i64 r.2.1) ∧ W.cell? (x.add (i * 3 + 2)) = some (.string r.2.2) ∧ -9223372036854775808 ≤ r.2.1 ∧ r.2.1 ≤ 9223372036854775807) each
    refine ⟨(List.range n).map g, ⟨by simp, fun hn => ⟨x, rfl, ?_, fun j u hj => ?_⟩⟩, hl, by omega, fun r hr' => ?_⟩
    · have := lt_heap (hg 0 (by omega)).1
      simpa [block_of_add] using this
    · have hjn : j < n * 3 := by
        have := (List.getElem?_eq_some_iff.1 hj).1
        simpa using this
      have hq : ((List.range n).map g)[j / 3]? = some (g (j / 3)) := by rw [List.getElem?_map, List.getElem?_range (by omega)]; rfl
      obtain ⟨e0, e1, e2⟩ := cls_get hq
      obtain ⟨c0, c1, c2, _⟩ := hg (j / 3) (by omega)
      have h012 : j = j / 3 * 3 ∨ j = j / 3 * 3 + 1 ∨ j = j / 3 * 3 + 2 := by omega
      rcases h012 with h | h | h
      · rw [h] at hj ⊢; rw [e0] at hj; injection hj with hj; rw [← hj]; exact c0
      · rw [h] at hj ⊢; rw [e1] at hj; injection hj with hj; rw [← hj]; exact c1
      · rw [h] at hj ⊢; rw [e2] at hj; injection hj with hj; rw [← hj]; exact c2
    · obtain ⟨i, hi, rfl⟩ := List.mem_map.1 hr'
      have hi' : i < n := by simpa using hi
      exact ⟨(hg i (by omega)).2.2.2.1, (hg i (by omega)).2.2.2.2⟩
end Go.Proofs.Ytgkmlggcmmdafaa.Ar
