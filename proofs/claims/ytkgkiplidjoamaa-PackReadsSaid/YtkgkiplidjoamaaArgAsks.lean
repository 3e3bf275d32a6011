/- How a script of asks is opened. -/
import Derived.Test.YtkgkiplidjoamaaArgs
import Derived.Test.YtkgkiplidjoamaaWPackReads
import Derived.Deep.Slices
import Derived.Deep.Fields
import Derived.ChangeSame
namespace Go.Proofs.Ytkgkiplidjoamaa.Ar
open Go.ChangeShapes Go.WideShapes Go.ChangeAt Go.RowKit Go.Deep Go.Proofs.Ytkgkiplidjoamaa.Pk
set_option linter.unusedVariables false

section
variable {H : Type} {enc : TypeId × Value → H} {P : Program} {w : World} {base : Nat} {spare : Nat → Bool} {held : Bool}
theorem open_slice_fields {t e : TypeId} {fs : Array Field} {fuel : Nat} {cs : List Value} {x : DataW H × List MemPlace} (ht : P.underlying t = some (.slice e)) (he : P.underlying e = some (.struct fs))
    (hone : oneCellFields P fs = true) (hC : P.cellsOf e = fs.size) (h : DataW.trod enc P w base spare held fuel t cs = some x) :
    (cs = [.slice none 0 0] ∧ x = (.nil, [])) ∨
    ∃ (a : Addr) (len cap m : Nat) (D : Nat → DataW H) (Pl : Nat → List MemPlace), cs = [.slice (some a) len cap] ∧ base ≤ a.block ∧ len ≤ cap ∧ cap ≤ maxLen ∧ m = (if spare a.block then cap else len) ∧
      x = (.slice ((List.range len).map D) ((List.range (m - len)).map fun j => D (len + j)), MemPlace.row a (m * fs.size) ++ (List.range m).flatMap Pl) ∧
      ∀ i, i < m → ∃ (ys : List (DataW H × List MemPlace)) (n : Nat), D i = .agg (ys.map (·.1)) ∧ Pl i = ys.flatMap (·.2) ∧ ys.length = fs.size ∧
        ∀ (j : Nat) (f : Field), fs[j]? = some f → ∃ (v : Value) (y : DataW H × List MemPlace), w.cell? (a.add (i * fs.size + j)) = some v ∧ ys[j]? = some y ∧ DataW.trod enc P w base spare held n f.type [v] = some y := by
  rcases open_slice ht h with h0 | ⟨a, len, cap, m, n, D, Pl, hcs, hb, hl, hm, hmm, hx, hi⟩
  · exact .inl h0
  · refine .inr ⟨a, len, cap, m, D, Pl, hcs, hb, hl, hm, hmm, by rw [hC] at hx; exact hx, fun i him => ?_⟩
    obtain ⟨cs', hc, ht'⟩ := hi i him
    rw [hC] at hc
    obtain ⟨ys, n', hn', hy, hlen, hyl, hf⟩ := DataW.trod_struct he ht'
    obtain ⟨_, hcl, hat⟩ := World.cells?_some hc
    simp only [Prod.mk.injEq] at hy
    refine ⟨ys, n', hy.1, hy.2, hyl, fun j f hj => ?_⟩
    obtain ⟨ho, hk⟩ := hone_of hone j f hj
    have hjl : j < fs.size := (Array.getElem?_eq_some_iff.1 hj).1
    have hcell := hat j hjl
    have hv : cs'[j]? = some (cs'[j]'(by omega)) := List.getElem?_eq_getElem (by omega)
    have h1 := hf j f hj
    rw [ho, hk] at h1
    have hone' : (cs'.drop j).take 1 = [cs'[j]'(by omega)] := by
      rw [List.drop_eq_getElem_cons (by omega)]
      rfl
    rw [hone'] at h1
    have hys : ys[j]? = some (ys[j]'(by omega)) := List.getElem?_eq_getElem (by omega)
    refine ⟨_, _, ?_, hys, h1.trans hys⟩
    rw [← Go.Deep.add_add, hcell, hv]
end

theorem cell_add {w : World} {b off x : Nat} {spot} {u : Value} (h : w.cell? ((⟨b, off, spot⟩ : Addr).add x) = some u) : (x = 0 → spot = none) ∧ w.cell? ⟨b, off + x, none⟩ = some u := by
  cases spot with
  | none =>
    refine ⟨fun _ => rfl, ?_⟩
    have e : ((⟨b, off, none⟩ : Addr).add x) = ⟨b, off + x, none⟩ := by
      unfold Addr.add
      by_cases hx : x = 0 <;> simp [hx]
    rw [e] at h
    exact h
  | some s =>
    have hs := World.cell?_spot h
    by_cases hx : x = 0
    · exfalso
      unfold Addr.add at hs
      simp [hx] at hs
    · have e : ((⟨b, off, some s⟩ : Addr).add x) = ⟨b, off + x, none⟩ := by
        unfold Addr.add
        simp [hx]
      rw [e] at h
      exact ⟨fun e => absurd e hx, h⟩

theorem bytesA : Try.prog.bytesOf 45 = 16 := by kernel_rfl
/-- The number in a cell. -/
def numAt (w : World) (a : Addr) : Int := match w.cell? a with | some (.int _ x) => x | _ => 0

theorem open_a {H : Type} {enc : TypeId × Value → H} {W : World} {d : DataW H} {ps : List MemPlace} {a : Option Addr} {n c : Nat} (h : DataW.Trod enc Try.prog W 0 (fun _ => true) true 38 (.slice a n c) d ps)
    (hsz : ∀ elems spare, d = .slice elems spare → (elems.length + spare.length) * Try.prog.bytesOf 45 ≤ reachBytes) : ∃ ks, ArgA W a n c ks := by
  obtain ⟨fuel, hf⟩ := h
  rcases open_slice_fields Try.underlying38 (Try.underlying45) (by kernel_rfl) (by kernel_rfl) hf with ⟨hcs, _⟩ | ⟨x, len, cap, m, D, Pl, hcs, _, hl, hm, hmm, hx, hi⟩
  · simp [Value.cells] at hcs
    obtain ⟨rfl, rfl, rfl⟩ := hcs
    exact ⟨[], rfl, Nat.le_refl _, by omega, fun k hk => by omega, fun k hk => by omega⟩
  · simp [Value.cells] at hcs
    obtain ⟨rfl, rfl, rfl⟩ := hcs
    simp only [if_true] at hmm
    subst hmm
    have hd := hsz _ _ (show d = _ by simp only [Prod.mk.injEq] at hx; exact hx.1)
    rw [bytesA] at hd
    simp only [List.length_map, List.length_range] at hd
    unfold reachBytes at hd
    obtain ⟨b, off, spot⟩ := x
    have key : ∀ k, k < n → (k = 0 → spot = none) ∧ b < W.heap.size ∧ W.cell? ⟨b, off + k * 2, none⟩ = some (.int .i64 (numAt W ⟨b, off + k * 2, none⟩)) ∧ W.cell? ⟨b, off + k * 2 + 1, none⟩ = some (.int .i64 (numAt W ⟨b, off + k * 2 + 1, none⟩)) ∧
        (Lit.int .i64 (numAt W ⟨b, off + k * 2, none⟩)).wf = true ∧ (Lit.int .i64 (numAt W ⟨b, off + k * 2 + 1, none⟩)).wf = true := by
      intro k hk
      obtain ⟨ys, n', _, _, _, hfl⟩ := hi k (by omega)
      obtain ⟨v0, y0, c0, _, t0⟩ := hfl 0 _ rfl
      obtain ⟨v1, y1, c1, _, t1⟩ := hfl 1 _ rfl
      obtain ⟨z0, e0, _, w0⟩ := DataW.trod_int Try.underlying3 t0
      obtain ⟨z1, e1, _, w1⟩ := DataW.trod_int Try.underlying3 t1
      simp at e0 e1
      subst e0
      subst e1
      obtain ⟨hs, d0⟩ := cell_add c0
      obtain ⟨_, d1⟩ := cell_add c1
      simp only [List.size_toArray, List.length_cons, List.length_nil, Nat.reduceAdd, Nat.add_zero] at d0 d1
      rw [← Nat.add_assoc] at d1
      have n0 : numAt W ⟨b, off + k * 2, none⟩ = z0 := by unfold numAt; rw [d0]
      have n1 : numAt W ⟨b, off + k * 2 + 1, none⟩ = z1 := by unfold numAt; rw [d1]
      rw [n0, n1]
      exact ⟨fun e => hs (by subst e; simp), lt_heap d0, d0, d1, w0, w1⟩
    refine ⟨(List.range n).map fun k => (numAt W ⟨b, off + k * 2, none⟩, numAt W ⟨b, off + k * 2 + 1, none⟩), by simp, hl, by omega, fun k hk => ?_, fun k hk => ?_⟩
    · obtain ⟨_, h1, h2, h3, h4, h5⟩ := key k hk
      obtain rfl := (key 0 (by omega)).1 rfl
      refine ⟨b, off, rfl, h1, ?_, ?_⟩
      · rw [h2]; simp [List.getD, hk]
      · rw [h3]; simp [List.getD, hk]
    · obtain ⟨_, h1, h2, h3, h4, h5⟩ := key k hk
      have r1 := i64_rng h4
      have r2 := i64_rng h5
      simp [List.getD, hk]
      exact ⟨r1, r2⟩
end Go.Proofs.Ytkgkiplidjoamaa.Ar
