/- How cells that come in are opened, and a list of truths. -/
import Derived.Test.YteflefmlicamlaaArg0
import Derived.Test.YteflefmlicamlaaCeApp
import Derived.Lib.SmallJoins
import Derived.Deep.Slices
import Derived.Deep.Fields
import Derived.Deep.Grids
import Derived.ChangeSame
namespace Go.Proofs.Yteflefmlicamlaa.Pk
open Go.RowKit
set_option linter.unusedVariables false
end Go.Proofs.Yteflefmlicamlaa.Pk
namespace Go.Proofs.Yteflefmlicamlaa.Ar
open Go.ChangeShapes Go.WideShapes Go.ChangeAt Go.RowKit Go.Deep Go.Joins Go.Proofs.Yteflefmlicamlaa.Pk
set_option linter.unusedVariables false
theorem weightsAll_mem {H : Type} {P : Program} {e : TypeId} {d : DataW H} {l : List (DataW H)} {x : Nat} (h : d ∈ l) (hx : x ∈ d.weights P e) : x ∈ DataW.weightsAll P e l := by
  induction l with
  | nil => cases h
  | cons y r ih =>
    simp only [DataW.weightsAll, List.mem_append]
    rcases List.mem_cons.1 h with rfl | h
    · exact .inl hx
    · exact .inr (ih h)
/-- No part of an argument is longer than a machine reaches. -/
def WtsOk {H : Type} (t : TypeId) (d : DataW H) : Prop := ∀ x ∈ d.weights Try.prog t, x ≤ 140737488351232
theorem wts_arg {H : Type} {ts : List TypeId} {ds : List (DataW H)} (h : (DataW.weightsEach Try.prog ts ds).all (· ≤ reachBytes) = true) {j : Nat} {t : TypeId} {d : DataW H} (ht : ts[j]? = some t) (hd : ds[j]? = some d) : WtsOk t d := fun x hx => by
  have := List.all_eq_true.1 h _ (DataW.weights_mem_each ht hd x hx)
  have h2 : x ≤ reachBytes := by simpa using this
  exact h2

section
variable {H : Type} {enc : TypeId × Value → H} {W : World} {d : DataW H} {ps : List MemPlace}
theorem open_slice_fields {P : Program} {w : World} {base : Nat} {spare : Nat → Bool} {held : Bool} {t e : TypeId} {fs : Array Field} {fuel : Nat} {cs : List Value} {x : DataW H × List MemPlace} (ht : P.underlying t = some (.slice e)) (he : P.underlying e = some (.struct fs))
    (hone : oneCellFields P fs = true) (hC : P.cellsOf e = fs.size) (h : DataW.trod enc P w base spare held fuel t cs = some x) :
    (cs = [.slice none 0 0] ∧ x = (.nil, [])) ∨
    ∃ (a : Addr) (len cap m : Nat) (D : Nat → DataW H) (Pl : Nat → List MemPlace), cs = [.slice (some a) len cap] ∧ base ≤ a.block ∧ len ≤ cap ∧ cap ≤ maxLen ∧ m = (if spare a.block then cap else len) ∧
      x = (.slice ((List.range len).map D) ((List.range (m - len)).map fun j => D (len + j)), MemPlace.row a (m * fs.size) ++ (List.range m).flatMap Pl) ∧
      ∀ i, i < m → ∃ (ys : List (DataW H × List MemPlace)) (n : Nat), D i = .agg (ys.map (·.1)) ∧ Pl i = ys.flatMap (·.2) ∧ ys.length = fs.size ∧
        ∀ (j : Nat) (f : Field), fs[j]? = some f → ∃ (v : Value) (y : DataW H × List MemPlace), w.cell? (a.add (i * fs.size + j)) = some v ∧ ys[j]? = some y ∧ DataW.trod enc P w base spare held n f.type [v] = some y := by
  rcases open_slice ht h with h0 | ⟨a, len, cap, m, n, D, Pl, hcs, hb, hl, hm, hmm, hx, hi⟩
  · exact .inl h0
  · refine .inr ⟨a, len, cap, m, D, Pl, hcs, hb, hl, hm, hmm, by rw [hC] at hx; exact hx, fun i him => ?_⟩
    obtain ⟨cs', hc, ht'⟩ := hi i him
    rw [hC] at hc
    obtain ⟨ys, n', hn', hy, hlen, hyl, hf⟩ := DataW.trod_struct he ht'
    obtain ⟨_, hcl, hat⟩ := World.cells?_some hc
    simp only [Prod.mk.injEq] at hy
    refine ⟨ys, n', hy.1, hy.2, hyl, fun j f hj => ?_⟩
    obtain ⟨ho, hk⟩ := hone_of hone j f hj
    have hjl : j < fs.size := (Array.getElem?_eq_some_iff.1 hj).1
    have hcell := hat j hjl
    have hv : cs'[j]? = some (cs'[j]'(by omega)) := List.getElem?_eq_getElem (by omega)
    have h1 := hf j f hj
    rw [ho, hk] at h1
    have hone' : (cs'.drop j).take 1 = [cs'[j]'(by omega)] := by
      rw [List.drop_eq_getElem_cons (by omega)]
      rfl
    rw [hone'] at h1
    have hys : ys[j]? = some (ys[j]'(by omega)) := List.getElem?_eq_getElem (by omega)
    refine ⟨_, _, ?_, hys, h1.trans hys⟩
    rw [← Go.Deep.add_add, hcell, hv]

set_option maxRecDepth 100000 in
theorem open_ks {d : DataW H} {ps : List MemPlace} {a : Option Addr} {n c : Nat} (h : DataW.Trod enc Try.prog W 0 (fun _ => true) true 22 (.slice a n c) d ps) (hb : WtsOk 22 d) : ∃ l, InK W l a n c := by
  obtain ⟨fuel, hf⟩ := h
  have hst : ∃ fs, Try.prog.underlying 36 = some (.struct fs) ∧ fs.size = 4 ∧ oneCellFields Try.prog fs = true ∧ (fs[0]?).map (·.type) = some 3 ∧ (fs[1]?).map (·.type) = some 3 ∧ (fs[2]?).map (·.type) = some 3 ∧ (fs[3]?).map (·.type) = some 3 :=
    ⟨_, Try.underlying36, by kernel_rfl, by kernel_rfl, by kernel_rfl, by kernel_rfl, by kernel_rfl, by kernel_rfl⟩
  obtain ⟨fs, hs, h5, hone, t0, t1, t2, t3⟩ := hst
  rcases open_slice_fields Try.underlying22 hs hone (by rw [h5]; kernel_rfl) hf with ⟨hcs, _⟩ | ⟨x, len, cap, m, D, Pl, hcs, _, hl, hm, hmm, hx, hi⟩
  · simp [Value.cells] at hcs
    obtain ⟨rfl, rfl, rfl⟩ := hcs
    exact ⟨[], Reads.none_, Nat.le_refl _, by omega, fun x hx => by cases hx⟩
  · simp [Value.cells] at hcs
    obtain ⟨rfl, rfl, rfl⟩ := hcs
    simp only [if_true] at hmm
    subst hmm
    have hd : d = .slice ((List.range n).map D) ((List.range (m - n)).map fun j => D (n + j)) := by simp only [Prod.mk.injEq] at hx; exact hx.1
    have hbs := hb ((((List.range n).map D).length + ((List.range (m - n)).map fun j => D (n + j)).length) * Try.prog.bytesOf 36) (by rw [hd]; simp [DataW.weights, Try.underlying22])
    rw [show Try.prog.bytesOf 36 = 32 by kernel_rfl] at hbs
    simp only [List.length_map, List.length_range] at hbs
    have each : ∀ i, i < n → ∃ r : Ce, W.cell? (x.add (i * 4)) = some (.int .i64 r.n) ∧ W.cell? (x.add (i * 4 + 1)) = some (.int .i64 r.s) ∧ W.cell? (x.add (i * 4 + 2)) = some (.int .i64 r.d) ∧ W.cell? (x.add (i * 4 + 3)) = some (.int .i64 r.x) ∧ r.I := by
      intro i hin
      obtain ⟨f0, g0, e0⟩ := Option.map_eq_some_iff.1 t0
      obtain ⟨f1, g1, e1⟩ := Option.map_eq_some_iff.1 t1
      obtain ⟨f2, g2, e2⟩ := Option.map_eq_some_iff.1 t2
      obtain ⟨f3, g3, e3⟩ := Option.map_eq_some_iff.1 t3
      obtain ⟨ys, n', hD, _, hyl, hall⟩ := hi i (by omega)
      obtain ⟨v0, y0, c0, _, u0⟩ := hall 0 f0 g0
      obtain ⟨v1, y1, c1, _, u1⟩ := hall 1 f1 g1
      obtain ⟨v2, y2, c2, _, u2⟩ := hall 2 f2 g2
      obtain ⟨v3, y3, c3, _, u3⟩ := hall 3 f3 g3
      rw [e0] at u0; rw [e1] at u1; rw [e2] at u2; rw [e3] at u3
      rw [h5] at c0 c1 c2 c3
      obtain ⟨z0, q0, _, w0⟩ := DataW.trod_int Try.underlying3 u0
      obtain ⟨z1, q1, _, w1⟩ := DataW.trod_int Try.underlying3 u1
      obtain ⟨z2, q2, _, w2⟩ := DataW.trod_int Try.underlying3 u2
      obtain ⟨z3, q3, _, w3⟩ := DataW.trod_int Try.underlying3 u3
      simp at q0 q1 q2 q3
      subst q0; subst q1; subst q2; subst q3
      exact ⟨⟨z0, z1, z2, z3⟩, by simpa using c0, c1, c2, c3, i64_rng w0, i64_rng w1, i64_rng w2, i64_rng w3⟩
    have inh : Inhabited Ce := ⟨Ce.zero⟩
    obtain ⟨g, hg⟩ := choose_lt (α := Ce) (p := fun i r => W.cell? (x.add (i * 4)) = some (.int .i64 r.n) ∧ W.cell? (x.add (i * 4 + 1)) = some (.int .i64 r.s) ∧ W.cell? (x.add (i * 4 + 2)) = some (.int .i64 r.d) ∧ W.cell? (x.add (i * 4 + 3)) = some (.int .i64 r.x) ∧ r.I) each
    refine ⟨(List.range n).map g, ⟨by simp, fun hn => ⟨x, rfl, ?_, fun j u hj => ?_⟩⟩, hl, by omega, fun r hr' => ?_⟩
    · have := lt_heap (hg 0 (by omega)).1
      simpa [block_of_add] using this
    · have hjn : j < n * 4 := by
        have := (List.getElem?_eq_some_iff.1 hj).1
        simpa using this
      have hq : ((List.range n).map g)[j / 4]? = some (g (j / 4)) := by rw [List.getElem?_map, List.getElem?_range (by omega)]; rfl
      obtain ⟨e0, e1, e2, e3⟩ := ces_get hq
      obtain ⟨c0, c1, c2, c3, _⟩ := hg (j / 4) (by omega)
      have h012 : j = j / 4 * 4 ∨ j = j / 4 * 4 + 1 ∨ j = j / 4 * 4 + 2 ∨ j = j / 4 * 4 + 3 := by omega
      rcases h012 with h | h | h | h
      · rw [h] at hj ⊢; rw [e0] at hj; injection hj with hj; rw [← hj]; exact c0
      · rw [h] at hj ⊢; rw [e1] at hj; injection hj with hj; rw [← hj]; exact c1
      · rw [h] at hj ⊢; rw [e2] at hj; injection hj with hj; rw [← hj]; exact c2
      · rw [h] at hj ⊢; rw [e3] at hj; injection hj with hj; rw [← hj]; exact c3
    · obtain ⟨i, hi, rfl⟩ := List.mem_map.1 hr'
      have hi' : i < n := by simpa using hi
      exact (hg i hi').2.2.2.2
end
end Go.Proofs.Yteflefmlicamlaa.Ar
