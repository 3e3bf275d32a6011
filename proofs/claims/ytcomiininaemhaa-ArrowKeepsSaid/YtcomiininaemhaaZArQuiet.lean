/- Legal arrows of which over each edge just one points have just one sink. -/
import Derived.Test.YtcomiininaemhaaZArl
import Derived.Test.YtcomiininaemhaaZTe
namespace Go.Proofs.Ytcomiininaemhaa.Gr
set_option linter.unusedVariables false
section
variable {n r : Nat} {par dep : Nat → Nat}
theorem sink_is (T : RT n r par dep) {f : Nat → Nat} (lt : ∀ v, v < n → f v < n) (lg : ∀ v, v < n → f v = v ∨ near r par (f v) v)
    (edge : ∀ u v, u < n → v < n → near r par u v → (f u = v ↔ ¬ f v = u)) : ∃ s, s < n ∧ f s = s := by
  refine Classical.byContradiction fun hno => ?_
  have no : ∀ v, v < n → f v ≠ v := fun v hv e => hno ⟨v, hv, e⟩
  have key : ∀ k, ∃ v, v < n ∧ dist par dep v r = k ∧ f v ≠ r ∧ par (f v) = v := by
    intro k
    induction k with
    | zero =>
      refine ⟨r, T.hr, dist_self r, no r T.hr, ?_⟩
      rcases (lg r T.hr).resolve_left (no r T.hr) with ⟨_, h⟩ | ⟨h, _⟩
      · exact h
      · exact absurd rfl h
    | succ k ih =>
      obtain ⟨v, hv, hd, h1, h2⟩ := ih
      have hc := lt v hv
      have hd2 := (T.e1 hc T.hr h1 (by have := T.d0; omega)).2
      rw [h2] at hd2
      have hn : near r par (f v) v := .inl ⟨h1, h2⟩
      have hne : f (f v) ≠ v := fun e => (edge (f v) v hc hv hn).1 e rfl
      rcases (lg (f v) hc).resolve_left (no (f v) hc) with ⟨h3, h4⟩ | ⟨h3, h4⟩
      · exact ⟨f v, hc, by omega, h3, h4⟩
      · exact absurd (h4.symm.trans h2) hne
  obtain ⟨v, hv, hd, _⟩ := key n
  have := T.dist_lt hv T.hr
  omega
theorem toward_is {N : Nat → Nat → Nat} (T : RT n r par dep) (X : Nx n r par dep N) {f : Nat → Nat} {s : Nat} (lt : ∀ v, v < n → f v < n) (hs : s < n) (sink : f s = s)
    (edge : ∀ u v, u < n → v < n → near r par u v → (f u = v ↔ ¬ f v = u)) : ∀ v, v < n → f v = N v s := by
  have key : ∀ k v, v < n → dist par dep v s = k → f v = N v s := by
    intro k
    induction k with
    | zero =>
      intro v hv hd
      have e := T.dist_zero hv hs hd
      rw [e, X.self s hs, sink]
    | succ k ih =>
      intro v hv hd
      have hvs : v ≠ s := fun e => by rw [e, dist_self] at hd; omega
      have hp := X.lt v s hv hs
      have hpd := X.dn v s hv hs hvs
      have hf := ih _ hp (by omega)
      have hne : f (N v s) ≠ v := by
        rw [hf]
        intro e
        by_cases h : N v s = s
        · rw [h, X.self s hs] at e; exact hvs e.symm
        · have h1 := X.dn _ s hp hs h
          rw [e] at h1
          omega
      exact (edge v (N v s) hv hp (near_symm (X.nr v s hv hs hvs))).2 hne
  exact fun v hv => key _ v hv rfl
end
variable {ps : List Int}
theorem Good.quiet_of (G : Good ps) {ar : List Int} (hl : LegalL ps ar) (he : EdgesL ps ar) : QuietL ps ar := by
  obtain ⟨hln, hok⟩ := hl
  have hfn : ∀ v, v < ps.length → (((at_ ar v).toNat : Nat) : Int) = at_ ar v := fun v hv => by have := (hok v hv).1; omega
  have lt : ∀ v, v < ps.length → (at_ ar v).toNat < ps.length := fun v hv => by have := hok v hv; omega
  have lg : ∀ v, v < ps.length → (at_ ar v).toNat = v ∨ near (root ps) (par ps) (at_ ar v).toNat v := fun v hv => by
    obtain ⟨h3, h4, h5⟩ := hok v hv
    rcases h5 with h5 | h5
    · left; omega
    · right; exact (G.near_iff (by omega) hv).1 (nearL_symm h5)
  have edge : ∀ u v, u < ps.length → v < ps.length → near (root ps) (par ps) u v → ((at_ ar u).toNat = v ↔ ¬ (at_ ar v).toNat = u) := fun u v hu hv hn => by
    have h3 := (G.near_iff hu hv).2 hn
    have hu' := hfn u hu
    have hv' := hfn v hv
    have hne : u ≠ v := fun e => by
      subst e
      rcases G.rt.step hu hv hu hn with h | h <;> omega
    rcases Nat.lt_or_gt_of_ne hne with h | h
    · have h4 := he u hu v hv h h3
      constructor
      · intro h5 h6; exact h4 ⟨fun _ => by omega, fun _ => by omega⟩
      · intro h5
        exact Classical.byContradiction fun h6 => h4 ⟨fun h7 => absurd (by omega) h6, fun h7 => absurd (by omega) h5⟩
    · have h4 := he v hv u hu h (nearL_symm h3)
      constructor
      · intro h5 h6; exact h4 ⟨fun _ => by omega, fun _ => by omega⟩
      · intro h5
        exact Classical.byContradiction fun h6 => h4 ⟨fun h7 => absurd (by omega) h5, fun h7 => absurd (by omega) h6⟩
  obtain ⟨s, hs, hsink⟩ := sink_is (f := fun v => (at_ ar v).toNat) G.rt lt lg edge
  have ht := toward_is (f := fun v => (at_ ar v).toNat) G.rt G.nx_is lt hs hsink edge
  refine G.quiet_iff.2 ⟨s, hs, at_ext hln fun v hv => ?_⟩
  have h3 : (at_ ar v).toNat = nx ps v s := ht v hv
  rw [← h3, hfn v hv]
end Go.Proofs.Ytcomiininaemhaa.Gr
namespace Go.Proofs.Ytcomiininaemhaa.Pk
open Go.RowKit Go.Proofs.Ytcomiininaemhaa.Gr
set_option linter.unusedVariables false
/-- Over each of these edges just one of the two arrows points. -/
def EdgeOn (ar : List Int) (y : Int × Int) : Prop := ¬ (Gr.at_ ar y.1.toNat = y.2 ↔ Gr.at_ ar y.2.toNat = y.1)
theorem edge_rnd {ps : List Int} {pre : List (Int × Int)} {y : Int × Int} (h : pre ++ [y] <+: edgesTo ps ps.length) : ∃ u v : Nat, y = ((u : Int), (v : Int)) ∧ u < v ∧ v < ps.length ∧ nearL ps u v = true := by
  have hm : y ∈ edgesTo ps ps.length := h.subset (by simp)
  unfold edgesTo at hm
  obtain ⟨u, hu, hy⟩ := List.mem_flatMap.1 hm
  unfold rowE at hy
  obtain ⟨x, hx, rfl⟩ := List.mem_map.1 hy
  obtain ⟨hx1, hx2⟩ := List.mem_filter.1 hx
  obtain ⟨v, rfl, hv, hn⟩ := nbs_in hx1
  exact ⟨u, v, rfl, by simpa using hx2, hv, Gr.nearL_symm hn⟩
theorem edges_mem {ps : List Int} {u v : Nat} (hu : u < ps.length) (hv : v < ps.length) (huv : u < v) (hn : nearL ps u v = true) : ((u : Int), (v : Int)) ∈ edgesTo ps ps.length := by
  unfold edgesTo
  refine List.mem_flatMap.2 ⟨u, List.mem_range.2 hu, ?_⟩
  unfold rowE
  refine List.mem_map.2 ⟨(v : Int), List.mem_filter.2 ⟨?_, by simpa using huv⟩, rfl⟩
  unfold nbs
  exact List.mem_map.2 ⟨v, List.mem_filter.2 ⟨List.mem_range.2 hv, Gr.nearL_symm hn⟩, rfl⟩
theorem edgesL_of {ps ar : List Int} (h : ∀ y ∈ edgesTo ps ps.length, EdgeOn ar y) : EdgesL ps ar := fun u hu v hv huv hn => by
  have := h _ (edges_mem hu hv huv hn)
  unfold EdgeOn at this
  simpa using this
end Go.Proofs.Ytcomiininaemhaa.Pk
