/- How a script of a net's calls is opened (written by mkargt.py out of XArgV). -/
import Derived.Test.YtcjfammfplcigaaNtArgs
import Derived.Deep.Slices
import Derived.Deep.Fields
import Derived.ChangeSame
namespace Go.Proofs.Ytcjfammfplcigaa.Pk
open Go.RowKit
set_option linter.unusedVariables false

/-- A call as it lies in memory: the bytes are a slice. -/
structure OpT where
  kind : Int
  i : Int
  b : List Int
  A : Option Addr
  m : Nat
  q : Nat
def OpT.cells (o : OpT) : List Value := [.int .i64 o.kind, .int .i64 o.i, .slice o.A o.m o.q]
def ops (l : List OpT) : List Value := l.flatMap OpT.cells
theorem ops_cons (r : OpT) (l : List OpT) : ops (r :: l) = .int .i64 r.kind :: .int .i64 r.i :: .slice r.A r.m r.q :: ops l := rfl
@[simp] theorem ops_length (l : List OpT) : (ops l).length = l.length * 3 := by
  induction l with
  | nil => rfl
  | cons r l ih => rw [ops_cons]; simp [ih]; omega
theorem ops_get {l : List OpT} {k : Nat} {r : OpT} (h : l[k]? = some r) : (ops l)[k * 3]? = some (.int .i64 r.kind) ∧ (ops l)[k * 3 + 1]? = some (.int .i64 r.i) ∧ (ops l)[k * 3 + 2]? = some (.slice r.A r.m r.q) := by
  induction l generalizing k with
  | nil => simp at h
  | cons x l ih =>
    rw [ops_cons]
    match k, h with
    | 0, h => simp at h; subst h; exact ⟨rfl, rfl, rfl⟩
    | k + 1, h =>
      have := ih (k := k) (by simpa using h)
      rw [show (k + 1) * 3 = k * 3 + 1 + 1 + 1 by omega]
      simpa using this
theorem Reads.ops_ {w : World} {B : Nat} {A : Option Addr} {n : Nat} {l : List OpT} (h : Reads w B 3 A n (ops l)) (hn : 0 < n) :
    ∃ b off, A = some ⟨b, off, none⟩ ∧ b < B ∧ ∀ i r, l[i]? = some r → w.cell? ⟨b, off + i * 3, none⟩ = some (.int .i64 r.kind) ∧ w.cell? ⟨b, off + i * 3 + 1, none⟩ = some (.int .i64 r.i) ∧
      w.cell? ⟨b, off + i * 3 + 2, none⟩ = some (.slice r.A r.m r.q) := by
  obtain ⟨ad, rfl, hb, hc⟩ := h.2 hn
  have hl : 0 < (ops l).length := by rw [h.1]; omega
  have h0 := hc 0 _ (List.getElem?_eq_getElem hl)
  obtain ⟨b, off, spot⟩ := ad
  have hs : spot = none := by simpa [Addr.add] using World.cell?_spot h0
  subst hs
  have hat : ∀ j u, (ops l)[j]? = some u → w.cell? ⟨b, off + j, none⟩ = some u := by
    intro j u hu
    have := hc j u hu
    unfold Addr.add at this
    by_cases hj : j = 0
    · subst hj; simpa using this
    · simpa [hj] using this
  refine ⟨b, off, rfl, hb, fun i r hr => ?_⟩
  obtain ⟨h1, h2, h3⟩ := ops_get hr
  exact ⟨hat _ _ h1, by rw [Nat.add_assoc]; exact hat _ _ h2, by rw [Nat.add_assoc]; exact hat _ _ h3⟩
theorem Reads.olen {w : World} {B : Nat} {A : Option Addr} {n : Nat} {l : List OpT} (h : Reads w B 3 A n (ops l)) : l.length = n := by
  have := h.1; simp at this; omega
/-- What is known of a call that came in. -/
def OpT.Ok (o : OpT) (w : World) : Prop := Reads w w.heap.size 1 o.A o.m (bts o.b) ∧ o.m ≤ 140737488351232 ∧ o.m ≤ o.q ∧ (∀ x ∈ o.b, 0 ≤ x ∧ x ≤ 255) ∧ -9223372036854775808 ≤ o.i ∧ o.i ≤ 9223372036854775807 ∧ -9223372036854775808 ≤ o.kind ∧ o.kind ≤ 9223372036854775807
end Go.Proofs.Ytcjfammfplcigaa.Pk
namespace Go.Proofs.Ytcjfammfplcigaa.Ar
open Go.ChangeShapes Go.WideShapes Go.ChangeAt Go.RowKit Go.Proofs.Ytcjfammfplcigaa.Pk Go.Deep
set_option linter.unusedVariables false

/-- A script that came in. -/
def ArgT (w : World) (a : Option Addr) (n c : Nat) (l : List OpT) : Prop := Reads w w.heap.size 3 a n (ops l) ∧ n ≤ c ∧ n ≤ 140737488351232 ∧ ∀ o ∈ l, o.Ok w

section
variable {H : Type} {enc : TypeId × Value → H} {W : World}
theorem open_slice_fields {P : Program} {w : World} {base : Nat} {spare : Nat → Bool} {held : Bool} {t e : TypeId} {fs : Array Field} {fuel : Nat} {cs : List Value} {x : DataW H × List MemPlace} (ht : P.underlying t = some (.slice e)) (he : P.underlying e = some (.struct fs))
    (hone : oneCellFields P fs = true) (hC : P.cellsOf e = fs.size) (h : DataW.trod enc P w base spare held fuel t cs = some x) :
    (cs = [.slice none 0 0] ∧ x = (.nil, [])) ∨
    ∃ (a : Addr) (len cap m : Nat) (D : Nat → DataW H) (Pl : Nat → List MemPlace), cs = [.slice (some a) len cap] ∧ base ≤ a.block ∧ len ≤ cap ∧ cap ≤ maxLen ∧ m = (if spare a.block then cap else len) ∧
      x = (.slice ((List.range len).map D) ((List.range (m - len)).map fun j => D (len + j)), MemPlace.row a (m * fs.size) ++ (List.range m).flatMap Pl) ∧
      ∀ i, i < m → ∃ (ys : List (DataW H × List MemPlace)) (n : Nat), D i = .agg (ys.map (·.1)) ∧ Pl i = ys.flatMap (·.2) ∧ ys.length = fs.size ∧
        ∀ (j : Nat) (f : Field), fs[j]? = some f → ∃ (v : Value) (y : DataW H × List MemPlace), w.cell? (a.add (i * fs.size + j)) = some v ∧ ys[j]? = some y ∧ DataW.trod enc P w base spare held n f.type [v] = some y := by
  rcases open_slice ht h with h0 | ⟨a, len, cap, m, n, D, Pl, hcs, hb, hl, hm, hmm, hx, hi⟩
  · exact .inl h0
  · refine .inr ⟨a, len, cap, m, D, Pl, hcs, hb, hl, hm, hmm, by rw [hC] at hx; exact hx, fun i him => ?_⟩
    obtain ⟨cs', hc, ht'⟩ := hi i him
    rw [hC] at hc
    obtain ⟨ys, n', hn', hy, hlen, hyl, hf⟩ := DataW.trod_struct he ht'
    obtain ⟨_, hcl, hat⟩ := World.cells?_some hc
    simp only [Prod.mk.injEq] at hy
    refine ⟨ys, n', hy.1, hy.2, hyl, fun j f hj => ?_⟩
    obtain ⟨ho, hk⟩ := hone_of hone j f hj
    have hjl : j < fs.size := (Array.getElem?_eq_some_iff.1 hj).1
    have hcell := hat j hjl
    have hv : cs'[j]? = some (cs'[j]'(by omega)) := List.getElem?_eq_getElem (by omega)
    have h1 := hf j f hj
    rw [ho, hk] at h1
    have hone' : (cs'.drop j).take 1 = [cs'[j]'(by omega)] := by
      rw [List.drop_eq_getElem_cons (by omega)]
      rfl
    rw [hone'] at h1
    have hys : ys[j]? = some (ys[j]'(by omega)) := List.getElem?_eq_getElem (by omega)
    refine ⟨_, _, ?_, hys, h1.trans hys⟩
    rw [← Go.Deep.add_add, hcell, hv]

/-- Bytes in a field. -/
theorem open_field {fuel : Nat} {v : Value} {y : DataW H × List MemPlace} (hf : DataW.trod enc Try.prog W 0 (fun _ => true) true fuel 31 [v] = some y) (hb : WtsOk 31 y.1) :
    ∃ A m q l, v = .slice A m q ∧ Reads W W.heap.size 1 A m (bts l) ∧ m ≤ 140737488351232 ∧ m ≤ q ∧ ∀ x ∈ l, 0 ≤ x ∧ x ≤ 255 := by
  rcases open_ints Try.underlying31 Try.underlying5 (by kernel_rfl) hf with ⟨hcs, hx⟩ | ⟨x, l, c', zs, hcs, _, hl, hm, hz, hx, hcell, hwz⟩
  · simp at hcs
    subst hcs
    exact ⟨none, 0, 0, [], rfl, Reads.none_, by omega, Nat.le_refl _, fun x hx => by simp at hx⟩
  · simp at hcs
    subst hcs
    simp only [if_true] at hz
    have hd : y.1 = .slice (lits .u8 (zs.take l)) (lits .u8 (zs.drop l)) := by rw [hx]
    have hbu := hb (((lits (H := H) .u8 (zs.take l)).length + (lits (H := H) .u8 (zs.drop l)).length) * Try.prog.bytesOf 5) (by rw [hd]; simp [DataW.weights, Try.underlying31])
    rw [show Try.prog.bytesOf 5 = 1 by kernel_rfl] at hbu
    simp only [lits, List.length_map, List.length_take, List.length_drop] at hbu
    refine ⟨some x, l, c', zs.take l, rfl, ⟨by simp; omega, fun hn => ⟨x, rfl, ?_, fun j u hj => ?_⟩⟩, by omega, hl, fun y hy => u8_rng (hwz y (List.mem_of_mem_take hy))⟩
    · have := lt_heap (hcell 0 (by omega))
      simpa [Pk.block_of_add] using this
    · unfold bts at hj
      rw [List.getElem?_map] at hj
      have hjn : j < l := by
        rcases Nat.lt_or_ge j l with h1 | h1
        · exact h1
        · rw [List.getElem?_eq_none (by simp; omega)] at hj; simp at hj
      rw [List.getElem?_take_of_lt hjn, List.getElem?_eq_getElem (by omega)] at hj
      simp at hj
      rw [hcell j (by omega), ← hj, List.getD_eq_getElem?_getD, List.getElem?_eq_getElem (by omega)]; rfl

set_option maxRecDepth 100000 in
theorem open_t {d : DataW H} {ps : List MemPlace} {a : Option Addr} {n c : Nat} (h : DataW.Trod enc Try.prog W 0 (fun _ => true) true 22 (.slice a n c) d ps) (hb : WtsOk 22 d) : ∃ l, ArgT W a n c l := by
  obtain ⟨fuel, hf⟩ := h
  have hst : ∃ fs, Try.prog.underlying 33 = some (.struct fs) ∧ fs.size = 3 ∧ oneCellFields Try.prog fs = true ∧ (fs[0]?).map (·.type) = some 3 ∧ (fs[1]?).map (·.type) = some 3 ∧ (fs[2]?).map (·.type) = some 31 :=
    ⟨_, Try.underlying33, by kernel_rfl, by kernel_rfl, by kernel_rfl, by kernel_rfl, by kernel_rfl⟩
  obtain ⟨fs, hs, h5, hone, t0, t1, t4⟩ := hst
  rcases open_slice_fields Try.underlying22 hs hone (by rw [h5]; kernel_rfl) hf with ⟨hcs, _⟩ | ⟨x, len, cap, m, D, Pl, hcs, _, hl, hm, hmm, hx, hi⟩
  · simp [Value.cells] at hcs
    obtain ⟨rfl, rfl, rfl⟩ := hcs
    exact ⟨[], Reads.none_, Nat.le_refl _, by omega, fun x hx => by cases hx⟩
  · simp [Value.cells] at hcs
    obtain ⟨rfl, rfl, rfl⟩ := hcs
    simp only [if_true] at hmm
    subst hmm
    have hd : d = .slice ((List.range n).map D) ((List.range (m - n)).map fun j => D (n + j)) := by simp only [Prod.mk.injEq] at hx; exact hx.1
    have hbs := hb ((((List.range n).map D).length + ((List.range (m - n)).map fun j => D (n + j)).length) * Try.prog.bytesOf 33) (by rw [hd]; simp [DataW.weights, Try.underlying22])
    rw [show Try.prog.bytesOf 33 = 40 by kernel_rfl] at hbs
    have hbe : ∀ i, i < n → WtsOk 33 (D i) := fun i hi x hx => hb x (by
      rw [hd]
      simp only [DataW.weights, Try.underlying22]
      exact List.mem_cons_of_mem _ (List.mem_append_left _ (weightsAll_mem (List.mem_map.2 ⟨i, List.mem_range.2 hi, rfl⟩) hx)))
    simp only [List.length_map, List.length_range] at hbs
    have each : ∀ i, i < n → ∃ r : OpT, W.cell? (x.add (i * 3)) = some (.int .i64 r.kind) ∧ W.cell? (x.add (i * 3 + 1)) = some (.int .i64 r.i) ∧ W.cell? (x.add (i * 3 + 2)) = some (.slice r.A r.m r.q) ∧ r.Ok W := by
      intro i hin
      obtain ⟨f0, g0, e0⟩ := Option.map_eq_some_iff.1 t0
      obtain ⟨f1, g1, e1⟩ := Option.map_eq_some_iff.1 t1
      obtain ⟨f4, g4, e4⟩ := Option.map_eq_some_iff.1 t4
      obtain ⟨ys, n', hD, _, hyl, hall⟩ := hi i (by omega)
      obtain ⟨v0, y0, c0, _, u0⟩ := hall 0 f0 g0
      obtain ⟨v1, y1, c1, _, u1⟩ := hall 1 f1 g1
      obtain ⟨v4, y4, c4, m4, u4⟩ := hall 2 f4 g4
      rw [e0] at u0; rw [e1] at u1; rw [e4] at u4
      rw [h5] at c0 c1 c4
      obtain ⟨z0, q0, _, w1⟩ := DataW.trod_int Try.underlying3 u0
      obtain ⟨z1, q1, _, w2⟩ := DataW.trod_int Try.underlying3 u1
      have hb4 : WtsOk 31 y4.1 := fun x hx => hbe i hin x (by
        rw [hD]
        simp only [DataW.weights, hs]
        exact DataW.weights_mem_each (j := 2) (by rw [List.getElem?_map, Array.getElem?_toList, g4]; exact congrArg some e4) (by rw [List.getElem?_map, m4]; rfl) x hx)
      obtain ⟨A4, k4, p4, b4, q4, r4, s4, s5, s6⟩ := open_field u4 hb4
      simp at q0 q1
      subst q0; subst q1; subst q4
      exact ⟨⟨z0, z1, b4, A4, k4, p4⟩, by simpa using c0, c1, c4, r4, s4, s5, s6, (i64_rng w2).1, (i64_rng w2).2, (i64_rng w1).1, (i64_rng w1).2⟩
    have inh : Inhabited OpT := ⟨⟨0, 0, [], none, 0, 0⟩⟩
    obtain ⟨g, hg⟩ := choose_lt (α := OpT) (p := fun i r => W.cell? (x.add (i * 3)) = some (.int .i64 r.kind) ∧ W.cell? (x.add (i * 3 + 1)) = some (.int .i64 r.i) ∧ W.cell? (x.add (i * 3 + 2)) = some (.slice r.A r.m r.q) ∧ r.Ok W) each
    refine ⟨(List.range n).map g, ⟨by simp, fun hn => ⟨x, rfl, ?_, fun j u hj => ?_⟩⟩, hl, by omega, fun r hr' => ?_⟩
    · have := lt_heap (hg 0 (by omega)).1
      simpa [block_of_add] using this
    · have hjn : j < n * 3 := by
        have := (List.getElem?_eq_some_iff.1 hj).1
        simpa using this
      have hq : ((List.range n).map g)[j / 3]? = some (g (j / 3)) := by rw [List.getElem?_map, List.getElem?_range (by omega)]; rfl
      obtain ⟨e0, e1, e4⟩ := ops_get hq
      obtain ⟨c0, c1, c4, _⟩ := hg (j / 3) (by omega)
      have h012 : j = j / 3 * 3 ∨ j = j / 3 * 3 + 1 ∨ j = j / 3 * 3 + 2 := by omega
      rcases h012 with h | h | h
      · rw [h] at hj ⊢; rw [e0] at hj; injection hj with hj; rw [← hj]; exact c0
      · rw [h] at hj ⊢; rw [e1] at hj; injection hj with hj; rw [← hj]; exact c1
      · rw [h] at hj ⊢; rw [e4] at hj; injection hj with hj; rw [← hj]; exact c4
    · obtain ⟨i, hi, rfl⟩ := List.mem_map.1 hr'
      have hi' : i < n := by simpa using hi
      exact (hg i hi').2.2.2
end
end Go.Proofs.Ytcjfammfplcigaa.Ar
