/- How a side that comes in is opened, a message, a list of moves. -/
import Derived.Test.YtneijohbmphheaaArg0
import Derived.Test.YtneijohbmphheaaHfSpec
import Derived.Test.YtneijohbmphheaaMgs
import Derived.Lib.SmallJoins
import Derived.Deep.Slices
import Derived.Deep.Fields
import Derived.ChangeSame
namespace Go.Proofs.Ytneijohbmphheaa.Pk
open Go.RowKit
set_option linter.unusedVariables false
end Go.Proofs.Ytneijohbmphheaa.Pk
namespace Go.Proofs.Ytneijohbmphheaa.Ar
open Go.ChangeShapes Go.WideShapes Go.ChangeAt Go.RowKit Go.Deep Go.Joins Go.Proofs.Ytneijohbmphheaa.Pk
set_option linter.unusedVariables false
/-- Messages that came in. -/
def ArgG (w : World) (a : Option Addr) (n c : Nat) (l : List Mg) : Prop := Reads w w.heap.size 5 a n (mgs l) ∧ n ≤ c ∧ n ≤ 140737488351232 ∧ ∀ m ∈ l, m.I
theorem weightsAll_mem {H : Type} {P : Program} {e : TypeId} {d : DataW H} {l : List (DataW H)} {x : Nat} (h : d ∈ l) (hx : x ∈ d.weights P e) : x ∈ DataW.weightsAll P e l := by
  induction l with
  | nil => cases h
  | cons y r ih =>
    simp only [DataW.weightsAll, List.mem_append]
    rcases List.mem_cons.1 h with rfl | h
    · exact .inl hx
    · exact .inr (ih h)
/-- No part of an argument is longer than a machine reaches. -/
def WtsOk {H : Type} (t : TypeId) (d : DataW H) : Prop := ∀ x ∈ d.weights Try.prog t, x ≤ 140737488351232
theorem wts_arg {H : Type} {ts : List TypeId} {ds : List (DataW H)} (h : (DataW.weightsEach Try.prog ts ds).all (· ≤ reachBytes) = true) {j : Nat} {t : TypeId} {d : DataW H} (ht : ts[j]? = some t) (hd : ds[j]? = some d) : WtsOk t d := fun x hx => by
  have := List.all_eq_true.1 h _ (DataW.weights_mem_each ht hd x hx)
  have h2 : x ≤ reachBytes := by simpa using this
  exact h2

section
variable {H : Type} {enc : TypeId × Value → H} {W : World} {d : DataW H} {ps : List MemPlace}
theorem open_g {r : Reach} {b0 : Nat} {v : Value} (hv : Value.okWide Try.prog W r b0 26 v) (h : DataW.Trod enc Try.prog W 0 (fun _ => true) true 26 v d ps) : ∃ m : Mg, v = m.val ∧ m.I := by
  have hst : ∃ f0 f1 f2 f3 f4, Try.prog.underlying 26 = some (.struct #[f0, f1, f2, f3, f4]) ∧ oneCellFields Try.prog #[f0, f1, f2, f3, f4] = true ∧ Try.prog.cellsOf 26 = 5 ∧ f0.type = 3 ∧ f1.type = 3 ∧ f2.type = 3 ∧ f3.type = 3 ∧ f4.type = 3 :=
    ⟨_, _, _, _, _, Try.underlying26, by kernel_rfl, by kernel_rfl, rfl, rfl, rfl, rfl, rfl⟩
  obtain ⟨f0, f1, f2, f3, f4, hs, hone, hc, t0, t1, t2, t3, t4⟩ := hst
  obtain ⟨cs, rfl, hsz⟩ := okWide_struct hs hv
  obtain ⟨c0, c1, c2, c3, c4, rfl⟩ : ∃ c0 c1 c2 c3 c4, cs = #[c0, c1, c2, c3, c4] := by
    have h5 := hsz.trans hc
    obtain ⟨l⟩ := cs
    match l, h5 with
    | [c0, c1, c2, c3, c4], _ => exact ⟨c0, c1, c2, c3, c4, rfl⟩
  obtain ⟨fuel, hf⟩ := h
  obtain ⟨xs, n, _, _, _, hlen, hff⟩ := DataW.trod_struct hs hf
  obtain ⟨o0, k0⟩ := hone_of hone 0 f0 rfl
  obtain ⟨o1, k1⟩ := hone_of hone 1 f1 rfl
  obtain ⟨o2, k2⟩ := hone_of hone 2 f2 rfl
  obtain ⟨o3, k3⟩ := hone_of hone 3 f3 rfl
  obtain ⟨o4, k4⟩ := hone_of hone 4 f4 rfl
  have h0 := hff 0 f0 rfl
  rw [t0] at k0 h0
  have h1 := hff 1 f1 rfl
  rw [t1] at k1 h1
  have h2 := hff 2 f2 rfl
  rw [t2] at k2 h2
  have h3 := hff 3 f3 rfl
  rw [t3] at k3 h3
  have h4 := hff 4 f4 rfl
  rw [t4] at k4 h4
  match xs, hlen with
  | [x0, x1, x2, x3, x4], _ =>
  obtain ⟨z0, q0, _, w0⟩ := DataW.trod_int Try.underlying3 (show DataW.trod enc Try.prog W 0 (fun _ => true) true n 3 [c0] = some x0 by simpa [Value.cells, o0, k0] using h0)
  obtain ⟨z1, q1, _, w1⟩ := DataW.trod_int Try.underlying3 (show DataW.trod enc Try.prog W 0 (fun _ => true) true n 3 [c1] = some x1 by simpa [Value.cells, o1, k1] using h1)
  obtain ⟨z2, q2, _, w2⟩ := DataW.trod_int Try.underlying3 (show DataW.trod enc Try.prog W 0 (fun _ => true) true n 3 [c2] = some x2 by simpa [Value.cells, o2, k2] using h2)
  obtain ⟨z3, q3, _, w3⟩ := DataW.trod_int Try.underlying3 (show DataW.trod enc Try.prog W 0 (fun _ => true) true n 3 [c3] = some x3 by simpa [Value.cells, o3, k3] using h3)
  obtain ⟨z4, q4, _, w4⟩ := DataW.trod_int Try.underlying3 (show DataW.trod enc Try.prog W 0 (fun _ => true) true n 3 [c4] = some x4 by simpa [Value.cells, o4, k4] using h4)
  simp at q0 q1 q2 q3 q4
  subst q0; subst q1; subst q2; subst q3; subst q4
  exact ⟨⟨z0, z1, z2, z3, z4⟩, rfl, i64_rng w0, i64_rng w1, i64_rng w2, i64_rng w3, i64_rng w4⟩
theorem open_slice_fields {P : Program} {w : World} {base : Nat} {spare : Nat → Bool} {held : Bool} {t e : TypeId} {fs : Array Field} {fuel : Nat} {cs : List Value} {x : DataW H × List MemPlace} (ht : P.underlying t = some (.slice e)) (he : P.underlying e = some (.struct fs))
    (hone : oneCellFields P fs = true) (hC : P.cellsOf e = fs.size) (h : DataW.trod enc P w base spare held fuel t cs = some x) :
    (cs = [.slice none 0 0] ∧ x = (.nil, [])) ∨
    ∃ (a : Addr) (len cap m : Nat) (D : Nat → DataW H) (Pl : Nat → List MemPlace), cs = [.slice (some a) len cap] ∧ base ≤ a.block ∧ len ≤ cap ∧ cap ≤ maxLen ∧ m = (if spare a.block then cap else len) ∧
      x = (.slice ((List.range len).map D) ((List.range (m - len)).map fun j => D (len + j)), MemPlace.row a (m * fs.size) ++ (List.range m).flatMap Pl) ∧
      ∀ i, i < m → ∃ (ys : List (DataW H × List MemPlace)) (n : Nat), D i = .agg (ys.map (·.1)) ∧ Pl i = ys.flatMap (·.2) ∧ ys.length = fs.size ∧
        ∀ (j : Nat) (f : Field), fs[j]? = some f → ∃ (v : Value) (y : DataW H × List MemPlace), w.cell? (a.add (i * fs.size + j)) = some v ∧ ys[j]? = some y ∧ DataW.trod enc P w base spare held n f.type [v] = some y := by
  rcases open_slice ht h with h0 | ⟨a, len, cap, m, n, D, Pl, hcs, hb, hl, hm, hmm, hx, hi⟩
  · exact .inl h0
  · refine .inr ⟨a, len, cap, m, D, Pl, hcs, hb, hl, hm, hmm, by rw [hC] at hx; exact hx, fun i him => ?_⟩
    obtain ⟨cs', hc, ht'⟩ := hi i him
    rw [hC] at hc
    obtain ⟨ys, n', hn', hy, hlen, hyl, hf⟩ := DataW.trod_struct he ht'
    obtain ⟨_, hcl, hat⟩ := World.cells?_some hc
    simp only [Prod.mk.injEq] at hy
    refine ⟨ys, n', hy.1, hy.2, hyl, fun j f hj => ?_⟩
    obtain ⟨ho, hk⟩ := hone_of hone j f hj
    have hjl : j < fs.size := (Array.getElem?_eq_some_iff.1 hj).1
    have hcell := hat j hjl
    have hv : cs'[j]? = some (cs'[j]'(by omega)) := List.getElem?_eq_getElem (by omega)
    have h1 := hf j f hj
    rw [ho, hk] at h1
    have hone' : (cs'.drop j).take 1 = [cs'[j]'(by omega)] := by
      rw [List.drop_eq_getElem_cons (by omega)]
      rfl
    rw [hone'] at h1
    have hys : ys[j]? = some (ys[j]'(by omega)) := List.getElem?_eq_getElem (by omega)
    refine ⟨_, _, ?_, hys, h1.trans hys⟩
    rw [← Go.Deep.add_add, hcell, hv]

set_option maxRecDepth 100000 in
theorem open_gf {fuel : Nat} {v : Value} {y : DataW H × List MemPlace} (hf : DataW.trod enc Try.prog W 0 (fun _ => true) true fuel 22 [v] = some y) (hb : WtsOk 22 y.1) :
    ∃ a n c l, v = .slice a n c ∧ Reads W W.heap.size 5 a n (mgs l) ∧ n ≤ c ∧ n ≤ 3518437208780 ∧ ∀ m ∈ l, m.I := by
  have hst : ∃ fs, Try.prog.underlying 26 = some (.struct fs) ∧ fs.size = 5 ∧ oneCellFields Try.prog fs = true ∧ (fs[0]?).map (·.type) = some 3 ∧ (fs[1]?).map (·.type) = some 3 ∧ (fs[2]?).map (·.type) = some 3 ∧ (fs[3]?).map (·.type) = some 3 ∧ (fs[4]?).map (·.type) = some 3 :=
    ⟨_, Try.underlying26, by kernel_rfl, by kernel_rfl, by kernel_rfl, by kernel_rfl, by kernel_rfl, by kernel_rfl, by kernel_rfl⟩
  obtain ⟨fs, hs, h5, hone, t0, t1, t2, t3, t4⟩ := hst
  rcases open_slice_fields Try.underlying22 hs hone (by rw [h5]; kernel_rfl) hf with ⟨hcs, _⟩ | ⟨x, len, cap, m, D, Pl, hcs, _, hl, hm, hmm, hx, hi⟩
  · simp at hcs
    subst hcs
    exact ⟨none, 0, 0, [], rfl, Reads.none_, Nat.le_refl _, by omega, fun x hx => by cases hx⟩
  · simp at hcs
    subst hcs
    obtain ⟨n, hn⟩ : ∃ n, n = len := ⟨_, rfl⟩
    subst hn
    simp only [if_true] at hmm
    subst hmm
    have hd : y.1 = .slice ((List.range n).map D) ((List.range (m - n)).map fun j => D (n + j)) := by rw [hx]
    have hbs := hb ((((List.range n).map D).length + ((List.range (m - n)).map fun j => D (n + j)).length) * Try.prog.bytesOf 26) (by rw [hd]; simp [DataW.weights, Try.underlying22])
    rw [show Try.prog.bytesOf 26 = 40 by kernel_rfl] at hbs
    simp only [List.length_map, List.length_range] at hbs
    have each : ∀ i, i < n → ∃ r : Mg, W.cell? (x.add (i * 5)) = some (.int .i64 r.k) ∧ W.cell? (x.add (i * 5 + 1)) = some (.int .i64 r.o) ∧ W.cell? (x.add (i * 5 + 2)) = some (.int .i64 r.n) ∧ W.cell? (x.add (i * 5 + 3)) = some (.int .i64 r.u) ∧ W.cell? (x.add (i * 5 + 4)) = some (.int .i64 r.v) ∧ r.I := by
      intro i hin
      obtain ⟨f0, g0, e0⟩ := Option.map_eq_some_iff.1 t0
      obtain ⟨f1, g1, e1⟩ := Option.map_eq_some_iff.1 t1
      obtain ⟨f2, g2, e2⟩ := Option.map_eq_some_iff.1 t2
      obtain ⟨f3, g3, e3⟩ := Option.map_eq_some_iff.1 t3
      obtain ⟨f4, g4, e4⟩ := Option.map_eq_some_iff.1 t4
      obtain ⟨ys, n', hD, _, hyl, hall⟩ := hi i (by omega)
      obtain ⟨v0, y0, c0, _, u0⟩ := hall 0 f0 g0
      obtain ⟨v1, y1, c1, _, u1⟩ := hall 1 f1 g1
      obtain ⟨v2, y2, c2, _, u2⟩ := hall 2 f2 g2
      obtain ⟨v3, y3, c3, _, u3⟩ := hall 3 f3 g3
      obtain ⟨v4, y4, c4, _, u4⟩ := hall 4 f4 g4
      rw [e0] at u0; rw [e1] at u1; rw [e2] at u2; rw [e3] at u3; rw [e4] at u4
      rw [h5] at c0 c1 c2 c3 c4
      obtain ⟨z0, q0, _, w0⟩ := DataW.trod_int Try.underlying3 u0
      obtain ⟨z1, q1, _, w1⟩ := DataW.trod_int Try.underlying3 u1
      obtain ⟨z2, q2, _, w2⟩ := DataW.trod_int Try.underlying3 u2
      obtain ⟨z3, q3, _, w3⟩ := DataW.trod_int Try.underlying3 u3
      obtain ⟨z4, q4, _, w4⟩ := DataW.trod_int Try.underlying3 u4
      simp at q0 q1 q2 q3 q4
      subst q0; subst q1; subst q2; subst q3; subst q4
      exact ⟨⟨z0, z1, z2, z3, z4⟩, by simpa using c0, c1, c2, c3, c4, i64_rng w0, i64_rng w1, i64_rng w2, i64_rng w3, i64_rng w4⟩
    have inh : Inhabited Mg := ⟨Mg.zero⟩
    obtain ⟨g, hg⟩ := choose_lt (α := Mg) (p := fun i r => W.cell? (x.add (i * 5)) = some (.int .i64 r.k) ∧ W.cell? (x.add (i * 5 + 1)) = some (.int .i64 r.o) ∧ W.cell? (x.add (i * 5 + 2)) = some (.int .i64 r.n) ∧ W.cell? (x.add (i * 5 + 3)) = some (.int .i64 r.u) ∧ W.cell? (x.add (i * 5 + 4)) = some (.int .i64 r.v) ∧ r.I) each
    refine ⟨some x, n, m, (List.range n).map g, rfl, ⟨by simp, fun hn => ⟨x, rfl, ?_, fun j u hj => ?_⟩⟩, hl, by omega, fun r hr' => ?_⟩
    · have := lt_heap (hg 0 (by omega)).1
      simpa [block_of_add] using this
    · have hjn : j < n * 5 := by
        have := (List.getElem?_eq_some_iff.1 hj).1
        simpa using this
      have hq : ((List.range n).map g)[j / 5]? = some (g (j / 5)) := by rw [List.getElem?_map, List.getElem?_range (by omega)]; rfl
      obtain ⟨e0, e1, e2, e3, e4⟩ := mgs_get hq
      obtain ⟨c0, c1, c2, c3, c4, _⟩ := hg (j / 5) (by omega)
      have h012 : j = j / 5 * 5 ∨ j = j / 5 * 5 + 1 ∨ j = j / 5 * 5 + 2 ∨ j = j / 5 * 5 + 3 ∨ j = j / 5 * 5 + 4 := by omega
      rcases h012 with h | h | h | h | h
      · rw [h] at hj ⊢; rw [e0] at hj; injection hj with hj; rw [← hj]; exact c0
      · rw [h] at hj ⊢; rw [e1] at hj; injection hj with hj; rw [← hj]; exact c1
      · rw [h] at hj ⊢; rw [e2] at hj; injection hj with hj; rw [← hj]; exact c2
      · rw [h] at hj ⊢; rw [e3] at hj; injection hj with hj; rw [← hj]; exact c3
      · rw [h] at hj ⊢; rw [e4] at hj; injection hj with hj; rw [← hj]; exact c4
    · obtain ⟨i, hi, rfl⟩ := List.mem_map.1 hr'
      have hi' : i < n := by simpa using hi
      exact (hg i hi').2.2.2.2.2
/-- A side that came in. -/
structure ArgH (w : World) (h : Hf) (A : Option Addr) (n c : Nat) : Prop extends InH w h A n c where
  small : n ≤ 3518437208780
set_option maxRecDepth 100000 in
theorem open_h {r : Reach} {b0 : Nat} {v : Value} (hv : Value.okWide Try.prog W r b0 24 v) (h : DataW.Trod enc Try.prog W 0 (fun _ => true) true 24 v d ps) (hb : WtsOk 24 d) : ∃ (h : Hf) (A : Option Addr) (n c : Nat), v = h.val (.slice A n c) ∧ ArgH W h A n c := by
  have hst : ∃ f0 f1 f2 f3, Try.prog.underlying 24 = some (.struct #[f0, f1, f2, f3]) ∧ oneCellFields Try.prog #[f0, f1, f2, f3] = true ∧ Try.prog.cellsOf 24 = 4 ∧ f0.type = 3 ∧ f1.type = 3 ∧ f2.type = 22 ∧ f3.type = 3 :=
    ⟨_, _, _, _, Try.underlying24, by kernel_rfl, by kernel_rfl, rfl, rfl, rfl, rfl⟩
  obtain ⟨f0, f1, f2, f3, hs, hone, hc, t0, t1, t2, t3⟩ := hst
  obtain ⟨cs, rfl, hsz⟩ := okWide_struct hs hv
  obtain ⟨c0, c1, c2, c3, rfl⟩ : ∃ c0 c1 c2 c3, cs = #[c0, c1, c2, c3] := by
    have h5 := hsz.trans hc
    obtain ⟨l⟩ := cs
    match l, h5 with
    | [c0, c1, c2, c3], _ => exact ⟨c0, c1, c2, c3, rfl⟩
  obtain ⟨fuel, hf⟩ := h
  obtain ⟨xs, n, _, hx, _, hlen, hff⟩ := DataW.trod_struct hs hf
  obtain ⟨o0, k0⟩ := hone_of hone 0 f0 rfl
  obtain ⟨o1, k1⟩ := hone_of hone 1 f1 rfl
  obtain ⟨o2, k2⟩ := hone_of hone 2 f2 rfl
  obtain ⟨o3, k3⟩ := hone_of hone 3 f3 rfl
  have h0 := hff 0 f0 rfl
  rw [t0] at k0 h0
  have h1 := hff 1 f1 rfl
  rw [t1] at k1 h1
  have h2 := hff 2 f2 rfl
  rw [t2] at k2 h2
  have h3 := hff 3 f3 rfl
  rw [t3] at k3 h3
  match xs, hlen with
  | [x0, x1, x2, x3], _ =>
  obtain ⟨z0, q0, _, w0⟩ := DataW.trod_int Try.underlying3 (show DataW.trod enc Try.prog W 0 (fun _ => true) true n 3 [c0] = some x0 by simpa [Value.cells, o0, k0] using h0)
  obtain ⟨z1, q1, _, w1⟩ := DataW.trod_int Try.underlying3 (show DataW.trod enc Try.prog W 0 (fun _ => true) true n 3 [c1] = some x1 by simpa [Value.cells, o1, k1] using h1)
  obtain ⟨z3, q3, _, w3⟩ := DataW.trod_int Try.underlying3 (show DataW.trod enc Try.prog W 0 (fun _ => true) true n 3 [c3] = some x3 by simpa [Value.cells, o3, k3] using h3)
  have hb2 : WtsOk 22 x2.1 := fun x hm => hb x (by
    have hd : d = .agg ([x0, x1, x2, x3].map (·.1)) := by simp only [Prod.mk.injEq] at hx; exact hx.1
    rw [hd]
    simp only [DataW.weights, hs]
    exact DataW.weights_mem_each (j := 2) (by simp [t2]) (by simp) x hm)
  obtain ⟨A, k, c, l, q2, r1, r2, r3, r4⟩ := open_gf (show DataW.trod enc Try.prog W 0 (fun _ => true) true n 22 [c2] = some x2 by simpa [Value.cells, o2, k2] using h2) hb2
  simp at q0 q1 q3
  subst q0; subst q1; subst q2; subst q3
  exact ⟨⟨z0, z1, l, z3⟩, A, k, c, rfl, ⟨r1, r2, by omega, i64_rng w0, i64_rng w1, i64_rng w3, r4⟩, r3⟩
end
end Go.Proofs.Ytneijohbmphheaa.Ar
