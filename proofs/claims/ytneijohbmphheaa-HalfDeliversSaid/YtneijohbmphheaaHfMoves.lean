/- Moves that come in: three cells each; how a list of them is opened. -/
import Derived.Test.YtneijohbmphheaaHfArgs
namespace Go.Proofs.Ytneijohbmphheaa.Pk
open Go.RowKit
set_option linter.unusedVariables false
structure Mv where
  k : Int
  i : Int
  n : Int
structure Mv.I (m : Mv) : Prop where
  k : -9223372036854775808 ≤ m.k ∧ m.k ≤ 9223372036854775807
  i : -9223372036854775808 ≤ m.i ∧ m.i ≤ 9223372036854775807
  n : -9223372036854775808 ≤ m.n ∧ m.n ≤ 9223372036854775807
def Mv.cells (m : Mv) : List Value := [.int .i64 m.k, .int .i64 m.i, .int .i64 m.n]
def mvs (l : List Mv) : List Value := l.flatMap Mv.cells
theorem mvs_cons (r : Mv) (l : List Mv) : mvs (r :: l) = .int .i64 r.k :: .int .i64 r.i :: .int .i64 r.n :: mvs l := rfl
@[simp] theorem mvs_length (l : List Mv) : (mvs l).length = l.length * 3 := by
  induction l with
  | nil => rfl
  | cons r l ih => rw [mvs_cons]; simp [ih]; omega
theorem mvs_get {l : List Mv} {k : Nat} {r : Mv} (h : l[k]? = some r) : (mvs l)[k * 3]? = some (.int .i64 r.k) ∧ (mvs l)[k * 3 + 1]? = some (.int .i64 r.i) ∧ (mvs l)[k * 3 + 2]? = some (.int .i64 r.n) := by
  induction l generalizing k with
  | nil => simp at h
  | cons x l ih =>
    rw [mvs_cons]
    match k, h with
    | 0, h => simp at h; subst h; exact ⟨rfl, rfl, rfl⟩
    | k + 1, h =>
      have := ih (k := k) (by simpa using h)
      rw [show (k + 1) * 3 = k * 3 + 1 + 1 + 1 by omega]
      simpa using this
theorem Reads.mvs_ {w : World} {B : Nat} {A : Option Addr} {n : Nat} {l : List Mv} (h : Reads w B 3 A n (mvs l)) (hn : 0 < n) :
    ∃ b off, A = some ⟨b, off, none⟩ ∧ b < B ∧ ∀ i r, l[i]? = some r → w.cell? ⟨b, off + i * 3, none⟩ = some (.int .i64 r.k) ∧ w.cell? ⟨b, off + i * 3 + 1, none⟩ = some (.int .i64 r.i) ∧ w.cell? ⟨b, off + i * 3 + 2, none⟩ = some (.int .i64 r.n) := by
  obtain ⟨ad, rfl, hb, hc⟩ := h.2 hn
  have hl : 0 < (mvs l).length := by rw [h.1]; omega
  have h0 := hc 0 _ (List.getElem?_eq_getElem hl)
  obtain ⟨b, off, spot⟩ := ad
  have hs : spot = none := by simpa [Addr.add] using World.cell?_spot h0
  subst hs
  have hat : ∀ j u, (mvs l)[j]? = some u → w.cell? ⟨b, off + j, none⟩ = some u := by
    intro j u hu
    have := hc j u hu
    unfold Addr.add at this
    by_cases hj : j = 0
    · subst hj; simpa using this
    · simpa [hj] using this
  refine ⟨b, off, rfl, hb, fun i r hr => ?_⟩
  obtain ⟨h1, h2, h3⟩ := mvs_get hr
  exact ⟨hat _ _ h1, by rw [Nat.add_assoc]; exact hat _ _ h2, by rw [Nat.add_assoc]; exact hat _ _ h3⟩
theorem Reads.vlen {w : World} {B : Nat} {A : Option Addr} {n : Nat} {l : List Mv} (h : Reads w B 3 A n (mvs l)) : l.length = n := by
  have := h.1; simp at this; omega
end Go.Proofs.Ytneijohbmphheaa.Pk
namespace Go.Proofs.Ytneijohbmphheaa.Ar
open Go.ChangeShapes Go.WideShapes Go.ChangeAt Go.RowKit Go.Deep Go.Joins Go.Proofs.Ytneijohbmphheaa.Pk
set_option linter.unusedVariables false
/-- Moves that came in. -/
def ArgM (w : World) (a : Option Addr) (n c : Nat) (l : List Mv) : Prop := Reads w w.heap.size 3 a n (mvs l) ∧ n ≤ c ∧ n ≤ 140737488351232 ∧ ∀ m ∈ l, m.I
section
variable {H : Type} {enc : TypeId × Value → H} {W : World}
set_option maxRecDepth 100000 in
theorem open_m {d : DataW H} {ps : List MemPlace} {a : Option Addr} {n c : Nat} (h : DataW.Trod enc Try.prog W 0 (fun _ => true) true 42 (.slice a n c) d ps) (hb : WtsOk 42 d) : ∃ l, ArgM W a n c l := by
  obtain ⟨fuel, hf⟩ := h
  have hst : ∃ fs, Try.prog.underlying 45 = some (.struct fs) ∧ fs.size = 3 ∧ oneCellFields Try.prog fs = true ∧ (fs[0]?).map (·.type) = some 3 ∧ (fs[1]?).map (·.type) = some 3 ∧ (fs[2]?).map (·.type) = some 3 :=
    ⟨_, Try.underlying45, by kernel_rfl, by kernel_rfl, by kernel_rfl, by kernel_rfl, by kernel_rfl⟩
  obtain ⟨fs, hs, h5, hone, t0, t1, t2⟩ := hst
  rcases open_slice_fields Try.underlying42 hs hone (by rw [h5]; kernel_rfl) hf with ⟨hcs, _⟩ | ⟨x, len, cap, m, D, Pl, hcs, _, hl, hm, hmm, hx, hi⟩
  · simp [Value.cells] at hcs
    obtain ⟨rfl, rfl, rfl⟩ := hcs
    exact ⟨[], Reads.none_, Nat.le_refl _, by omega, fun x hx => by cases hx⟩
  · simp [Value.cells] at hcs
    obtain ⟨rfl, rfl, rfl⟩ := hcs
    simp only [if_true] at hmm
    subst hmm
    have hd : d = .slice ((List.range n).map D) ((List.range (m - n)).map fun j => D (n + j)) := by simp only [Prod.mk.injEq] at hx; exact hx.1
    have hbs := hb ((((List.range n).map D).length + ((List.range (m - n)).map fun j => D (n + j)).length) * Try.prog.bytesOf 45) (by rw [hd]; simp [DataW.weights, Try.underlying42])
    rw [show Try.prog.bytesOf 45 = 24 by kernel_rfl] at hbs
    simp only [List.length_map, List.length_range] at hbs
    have each : ∀ i, i < n → ∃ r : Mv, W.cell? (x.add (i * 3)) = some (.int .i64 r.k) ∧ W.cell? (x.add (i * 3 + 1)) = some (.int .i64 r.i) ∧ W.cell? (x.add (i * 3 + 2)) = some (.int .i64 r.n) ∧ r.I := by
      intro i hin
      obtain ⟨f0, g0, e0⟩ := Option.map_eq_some_iff.1 t0
      obtain ⟨f1, g1, e1⟩ := Option.map_eq_some_iff.1 t1
      obtain ⟨f2, g2, e2⟩ := Option.map_eq_some_iff.1 t2
      obtain ⟨ys, n', hD, _, hyl, hall⟩ := hi i (by omega)
      obtain ⟨v0, y0, c0, _, u0⟩ := hall 0 f0 g0
      obtain ⟨v1, y1, c1, _, u1⟩ := hall 1 f1 g1
      obtain ⟨v2, y2, c2, _, u2⟩ := hall 2 f2 g2
      rw [e0] at u0; rw [e1] at u1; rw [e2] at u2
      rw [h5] at c0 c1 c2
      obtain ⟨z0, q0, _, w0⟩ := DataW.trod_int Try.underlying3 u0
      obtain ⟨z1, q1, _, w1⟩ := DataW.trod_int Try.underlying3 u1
      obtain ⟨z2, q2, _, w2⟩ := DataW.trod_int Try.underlying3 u2
      simp at q0 q1 q2
      subst q0; subst q1; subst q2
      exact ⟨⟨z0, z1, z2⟩, by simpa using c0, c1, c2, i64_rng w0, i64_rng w1, i64_rng w2⟩
    have inh : Inhabited Mv := ⟨⟨0, 0, 0⟩⟩
    obtain ⟨g, hg⟩ := choose_lt (α := Mv) (p := fun i r => W.cell? (x.add (i * 3)) = some (.int .i64 r.k) ∧ W.cell? (x.add (i * 3 + 1)) = some (.int .i64 r.i) ∧ W.cell? (x.add (i * 3 + 2)) = some (.int .i64 r.n) ∧ r.I) each
    refine ⟨(List.range n).map g, ⟨by simp, fun hn => ⟨x, rfl, ?_, fun j u hj => ?_⟩⟩, hl, by omega, fun r hr' => ?_⟩
    · have := lt_heap (hg 0 (by omega)).1
      simpa [block_of_add] using this
    · have hjn : j < n * 3 := by
        have := (List.getElem?_eq_some_iff.1 hj).1
        simpa using this
      have hq : ((List.range n).map g)[j / 3]? = some (g (j / 3)) := by rw [List.getElem?_map, List.getElem?_range (by omega)]; rfl
      obtain ⟨e0, e1, e2⟩ := mvs_get hq
      obtain ⟨c0, c1, c2, _⟩ := hg (j / 3) (by omega)
      have h012 : j = j / 3 * 3 ∨ j = j / 3 * 3 + 1 ∨ j = j / 3 * 3 + 2 := by omega
      rcases h012 with h | h | h
      · rw [h] at hj ⊢; rw [e0] at hj; injection hj with hj; rw [← hj]; exact c0
      · rw [h] at hj ⊢; rw [e1] at hj; injection hj with hj; rw [← hj]; exact c1
      · rw [h] at hj ⊢; rw [e2] at hj; injection hj with hj; rw [← hj]; exact c2
    · obtain ⟨i, hi, rfl⟩ := List.mem_map.1 hr'
      have hi' : i < n := by simpa using hi
      exact (hg i hi').2.2.2
end
end Go.Proofs.Ytneijohbmphheaa.Ar
