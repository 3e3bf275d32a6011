/- What a round over the edges, and one over a walk, is told; the law's list of distances. -/
import Derived.Test.YtohlgimbohkepaaTrCount
import Derived.Test.YtohlgimbohkepaaTrSeqO
namespace Go.Proofs.Ytohlgimbohkepaa.Gr
open Go.Proofs.Ytohlgimbohkepaa.Pk
set_option linter.unusedVariables false

/-- What a round over the edges is told. -/
theorem Good.edge_round {ps : List Int} (G : Good ps) {pre : List (Int × Int)} {y : Int × Int} (h : pre ++ [y] <+: edgesTo ps ps.length) : ∃ u v : Nat, y = ((u : Int), (v : Int)) ∧ u < v ∧ v < ps.length ∧ (pa ps u = (v : Int) ∨ pa ps v = (u : Int)) := by
  have hm : y ∈ edgesTo ps ps.length := h.subset (by simp)
  unfold edgesTo at hm
  obtain ⟨u, hu, hy⟩ := List.mem_flatMap.1 hm
  unfold rowE at hy
  obtain ⟨x, hx, rfl⟩ := List.mem_map.1 hy
  obtain ⟨hx1, hx2⟩ := List.mem_filter.1 hx
  obtain ⟨v, rfl, hv, hn⟩ := nbs_in hx1
  refine ⟨u, v, rfl, by simpa using hx2, hv, ?_⟩
  unfold nearL at hn
  simp at hn
  rcases hn with h1 | h1
  · exact .inr h1
  · exact .inl h1

/-- The distances of the nodes that stand in a list; -1 elsewhere. -/
def farL (ps : List Int) (f : Nat) (P : List Int) : List Int := (List.range ps.length).map fun v : Nat => if (v : Int) ∈ P then (distL ps f v : Int) else -1
@[simp] theorem farL_length (ps : List Int) (f : Nat) (P : List Int) : (farL ps f P).length = ps.length := by simp [farL]
theorem farL_nil (ps : List Int) (f : Nat) : farL ps f [] = List.replicate ps.length (-1) := by
  apply List.ext_getElem (by simp)
  intro i h1 h2
  simp [farL]
theorem farL_get {ps : List Int} {f : Nat} {P : List Int} {t : Nat} (h : t < ps.length) : (farL ps f P).getD t 0 = if (t : Int) ∈ P then (distL ps f t : Int) else -1 := by
  rw [List.getD_eq_getElem?_getD, List.getElem?_eq_getElem (by simpa using h)]
  simp [farL]
theorem farL_set {ps : List Int} {f t : Nat} {P : List Int} (h : t < ps.length) : (farL ps f P).set t (distL ps f t : Int) = farL ps f (P ++ [(t : Int)]) := by
  apply List.ext_getElem (by simp)
  intro i h1 h2
  rw [List.getElem_set]
  simp only [farL, List.getElem_map, List.getElem_range]
  by_cases e : t = i
  · subst e; simp
  · rw [if_neg e]
    have : ((i : Int) ∈ P ++ [(t : Int)]) ↔ ((i : Int) ∈ P) := by
      simp only [List.mem_append, List.mem_singleton]
      constructor
      · rintro (h | h)
        · exact h
        · omega
      · exact .inl
    by_cases hm : (i : Int) ∈ P
    · rw [if_pos hm, if_pos (this.2 hm)]
    · rw [if_neg hm, if_neg (fun h => hm (this.1 h))]

theorem walkI_nat {ps : List Int} {f : Nat} (hf : f < ps.length) : walkI ps (f : Int) = (walkN (Gr.kids ps f) ps.length f).map fun x : Nat => ((x : Int), (distL ps f x : Int)) := by
  unfold walkI
  rw [if_pos (by omega), Int.toNat_natCast]
  rfl
/-- What a round over a walk is told. -/
theorem Good.walk_round {ps : List Int} (G : Good ps) {f : Nat} (hf : f < ps.length) {pre : List (Int × Int)} {y : Int × Int} (h : pre ++ [y] <+: walkI ps (f : Int)) :
    ∃ v : Nat, v < ps.length ∧ y = ((v : Int), (distL ps f v : Int)) ∧ (v : Int) ∉ pre.map (·.1) ∧
      (v = f ∨ (v ≠ f ∧ nextN ps v f < ps.length ∧ ((nextN ps v f : Nat) : Int) ∈ pre.map (·.1) ∧ distL ps f (nextN ps v f) + 1 = distL ps f v)) := by
  rw [walkI_nat hf] at h
  obtain ⟨t, ht⟩ := h
  rw [List.append_assoc] at ht
  obtain ⟨N1, N2, hN, h1, h2⟩ := List.map_eq_append_iff.1 ht.symm
  cases N2 with
  | nil => simp at h2
  | cons v N2 =>
    rw [List.map_cons, List.singleton_append] at h2
    injection h2 with h3 h4
    have hnd : (walkN (Gr.kids ps f) ps.length f).Nodup := G.rt.walk_nodup hf (G.kids f) ps.length f hf (by omega)
    have hall : ∀ x, x ∈ walkN (Gr.kids ps f) ps.length f → x < ps.length := fun x hx => (G.rt.walk_all hf (G.kids f) x).1 hx
    have hv : v < ps.length := hall v (by rw [hN]; simp)
    have hlt : ∀ u ∈ N1, u < ps.length := fun u hu => hall u (by rw [hN]; simp [hu])
    have hP : pre.map (·.1) = N1.map fun x : Nat => (x : Int) := by rw [← h1, List.map_map]; rfl
    have hmem : ∀ x : Nat, ((x : Int) ∈ pre.map (·.1)) ↔ x ∈ N1 := fun x => by
      rw [hP, List.mem_map]
      constructor
      · rintro ⟨z, hz, e⟩
        obtain rfl : z = x := by omega
        exact hz
      · intro hx; exact ⟨x, hx, rfl⟩
    refine ⟨v, hv, h3.symm, ?_, ?_⟩
    · rw [hmem]
      rw [hN, List.nodup_append] at hnd
      exact fun hx => hnd.2.2 v hx v (by simp) rfl
    · by_cases e : v = f
      · exact .inl e
      · obtain ⟨q1, q2⟩ := G.walk_behind hf hN hv hlt e
        exact .inr ⟨e, hlt _ q1, (hmem _).2 q1, q2⟩
theorem Good.walk_total {ps : List Int} (G : Good ps) {f : Nat} (hf : f < ps.length) : (walkI ps (f : Int)).length = ps.length := by
  rw [walkI_nat hf, List.length_map]
  have hnd : (walkN (Gr.kids ps f) ps.length f).Nodup := G.rt.walk_nodup hf (G.kids f) ps.length f hf (by omega)
  have hp : (walkN (Gr.kids ps f) ps.length f).Perm (List.range ps.length) := (List.perm_ext_iff_of_nodup hnd List.nodup_range).2 fun x => by
    rw [G.rt.walk_all hf (G.kids f) x, List.mem_range]
  have := hp.length_eq
  simpa using this
end Go.Proofs.Ytohlgimbohkepaa.Gr
