/- How many edges and neighbours a tree has; how a walk stands: plain mathematics. -/
import Derived.Test.YtohlgimbohkepaaTrWays2
import Derived.Test.YtohlgimbohkepaaTrEdges
namespace Go.Proofs.Ytohlgimbohkepaa.Gr
open Go.Proofs.Ytohlgimbohkepaa.Pk
set_option linter.unusedVariables false

def sm (f : Nat → Nat) : Nat → Nat
  | 0 => 0
  | k + 1 => sm f k + f k
def b2 (b : Bool) : Nat := if b = true then 1 else 0
theorem sm_add (f g : Nat → Nat) : ∀ n, sm (fun i => f i + g i) n = sm f n + sm g n
  | 0 => rfl
  | n + 1 => by simp only [sm, sm_add f g n]; omega
theorem sm_zero : ∀ n, sm (fun _ => 0) n = 0
  | 0 => rfl
  | n + 1 => by simp only [sm, sm_zero n]
theorem sm_congr {f g : Nat → Nat} : ∀ {n : Nat}, (∀ i, i < n → f i = g i) → sm f n = sm g n
  | 0, _ => rfl
  | n + 1, h => by simp only [sm]; rw [sm_congr (fun i hi => h i (by omega)), h n (by omega)]
theorem sm_swap (f : Nat → Nat → Nat) (m : Nat) : ∀ n, sm (fun u => sm (fun v => f u v) m) n = sm (fun v => sm (fun u => f u v) n) m
  | 0 => by simp only [sm]; exact (sm_zero m).symm
  | n + 1 => by simp only [sm]; rw [sm_swap f m n, sm_add]
theorem sm_none {x : Nat} : ∀ n, n ≤ x → sm (fun i => b2 (decide (x = i))) n = 0
  | 0, _ => rfl
  | n + 1, h => by
    simp only [sm]
    rw [sm_none n (by omega), decide_eq_false (by omega : ¬ x = n)]
    rfl
theorem sm_one {x : Nat} : ∀ n, x < n → sm (fun i => b2 (decide (x = i))) n = 1
  | 0, h => by omega
  | n + 1, h => by
    simp only [sm]
    by_cases e : x = n
    · rw [sm_none n (by omega), decide_eq_true e]; rfl
    · rw [sm_one n (by omega), decide_eq_false e]; rfl
theorem len_filter (p : Nat → Bool) : ∀ n, ((List.range n).filter p).length = sm (fun i => b2 (p i)) n
  | 0 => rfl
  | n + 1 => by
    rw [List.range_succ, List.filter_append, List.length_append, len_filter p n]
    simp only [sm, b2]
    by_cases h : p n = true
    · simp [h]
    · simp [h]
theorem len_flat {α : Type} (f : Nat → List α) : ∀ n, ((List.range n).flatMap f).length = sm (fun i => (f i).length) n
  | 0 => rfl
  | n + 1 => by
    rw [List.range_succ, List.flatMap_append, List.length_append, len_flat f n]
    simp [sm]

section
variable {ps : List Int}
theorem nbs_len2 (v : Nat) : (nbs ps v ps.length).length = sm (fun u => b2 (nearL ps u v)) ps.length := by
  unfold nbs
  rw [List.length_map, len_filter]
/-- Two nodes beside each other: just one is the other's parent. -/
theorem Good.near_split (G : Good ps) {u v : Nat} (hu : u < ps.length) (hv : v < ps.length) : b2 (nearL ps u v) = b2 (decide (pa ps u = (v : Int))) + b2 (decide (pa ps v = (u : Int))) := by
  unfold nearL
  by_cases h1 : pa ps u = (v : Int)
  · by_cases h2 : pa ps v = (u : Int)
    · exfalso
      have hd : ∀ x y : Nat, x < ps.length → pa ps x = (y : Int) → dep ps x = dep ps y + 1 := fun x y hx h => by
        have h3 := G.anc 1 y x hx (by rw [climb_succ, h]; rfl)
        exact h3.2.1
      have a := hd u v hu h1
      have b := hd v u hv h2
      omega
    · simp [h1, h2, b2]
  · by_cases h2 : pa ps v = (u : Int)
    · simp [h1, h2, b2]
    · simp [h1, h2, b2]
/-- Each node but the root has one parent. -/
theorem Good.parent_sum (G : Good ps) {u : Nat} (hu : u < ps.length) : sm (fun v => b2 (decide (pa ps u = (v : Int)))) ps.length = b2 (!decide (root ps = u)) := by
  by_cases h : u = root ps
  · have h1 := (G.root_iff hu).2 h
    rw [sm_congr (g := fun _ => 0) (fun i _ => by rw [decide_eq_false (by omega)]; rfl), sm_zero, decide_eq_true h.symm]
    rfl
  · have h1 : pa ps u ≠ -1 := fun e => h ((G.root_iff hu).1 e)
    obtain ⟨h2, h3, _⟩ := G.pa_par hu h1
    rw [sm_congr (g := fun i => b2 (decide (par ps u = i))) (fun i _ => by congr 1; exact decide_eq_decide.2 (by omega)), sm_one _ h3, decide_eq_false (fun e => h e.symm)]
    rfl
theorem Good.parents_all (G : Good ps) : sm (fun u => sm (fun v => b2 (decide (pa ps u = (v : Int)))) ps.length) ps.length + 1 = ps.length := by
  rw [sm_congr (g := fun u => b2 (!decide (root ps = u))) (fun u hu => G.parent_sum hu)]
  have h1 := sm_one ps.length G.root_ok.1
  have h2 : sm (fun i => b2 (!decide (root ps = i)) + b2 (decide (root ps = i))) ps.length = ps.length := by
    have : ∀ n, sm (fun _ => 1) n = n := fun n => by
      induction n with
      | zero => rfl
      | succ n ih => simp only [sm, ih]
    rw [sm_congr (g := fun _ => 1) (fun i _ => by by_cases e : root ps = i <;> simp [e, b2]), this]
  rw [sm_add, h1] at h2
  exact h2
/-- All neighbours of all nodes. -/
def nearAll (ps : List Int) (k : Nat) : Nat := sm (fun v => (nbs ps v ps.length).length) k
theorem Good.near_all (G : Good ps) : nearAll ps ps.length = 2 * (ps.length - 1) := by
  unfold nearAll
  rw [sm_congr (g := fun v => sm (fun u => b2 (decide (pa ps u = (v : Int)))) ps.length + sm (fun u => b2 (decide (pa ps v = (u : Int)))) ps.length) (fun v hv => by
    rw [nbs_len2, ← sm_add]
    exact sm_congr fun u hu => G.near_split hu hv), sm_add, sm_swap (fun v u => b2 (decide (pa ps u = (v : Int))))]
  have := G.parents_all
  omega
theorem rowE_len (u : Nat) : (rowE u (nbs ps u ps.length)).length = sm (fun v => b2 (nearL ps v u && decide (u < v))) ps.length := by
  unfold rowE nbs
  rw [List.length_map, List.filter_map, List.length_map, List.filter_filter, len_filter]
  refine sm_congr fun v _ => ?_
  congr 1
  simp [Bool.and_comm]
theorem Good.edges_len (G : Good ps) : (edgesTo ps ps.length).length = ps.length - 1 := by
  have h1 : (edgesTo ps ps.length).length = sm (fun u => sm (fun v => b2 (nearL ps v u && decide (u < v))) ps.length) ps.length := by
    unfold edgesTo
    rw [len_flat]
    exact sm_congr fun u _ => rowE_len u
  have h2 : sm (fun u => sm (fun v => b2 (nearL ps v u && decide (u < v))) ps.length) ps.length = sm (fun u => sm (fun v => b2 (nearL ps v u && decide (v < u))) ps.length) ps.length := by
    rw [sm_swap (fun u v => b2 (nearL ps v u && decide (u < v)))]
    refine sm_congr fun u _ => sm_congr fun v _ => ?_
    rw [nearL_symm]
  have h3 : nearAll ps ps.length = sm (fun u => sm (fun v => b2 (nearL ps v u && decide (u < v))) ps.length) ps.length + sm (fun u => sm (fun v => b2 (nearL ps v u && decide (v < u))) ps.length) ps.length := by
    unfold nearAll
    rw [← sm_add]
    refine sm_congr fun u hu => ?_
    rw [nbs_len2, ← sm_add]
    refine sm_congr fun v hv => ?_
    by_cases e : u = v
    · subst e
      have hn : nearL ps u u = false := by
        unfold nearL
        have := (G.rng u hu).2.2
        simp [this]
      rw [hn]; rfl
    · by_cases hlt : u < v
      · have h4 : ¬ v < u := by omega
        simp [hlt, h4, b2]
      · have h4 : v < u := by omega
        simp [hlt, h4, b2]
  have := G.near_all
  omega

/-- A place in lists that are laid one behind the other. -/
theorem split_flat {α β : Type} (F : α → List β) : ∀ (l : List α) (pre : List β) (v : β) (post : List β), l.flatMap F = pre ++ v :: post → ∃ c ∈ l, ∃ p1 p2, F c = p1 ++ v :: p2 ∧ ∀ x ∈ p1, x ∈ pre
  | [], pre, v, post, h => by simp at h
  | c :: l, pre, v, post, h => by
    rw [List.flatMap_cons] at h
    rcases List.append_eq_append_iff.1 h with ⟨a, h1, h2⟩ | ⟨a, h1, h2⟩
    · obtain ⟨c', hc', p1, p2, h3, h4⟩ := split_flat F l a v post h2
      exact ⟨c', by simp [hc'], p1, p2, h3, fun x hx => by rw [h1]; exact List.mem_append.2 (.inr (h4 x hx))⟩
    · cases a with
      | nil =>
        rw [List.nil_append] at h2
        obtain ⟨c', hc', p1, p2, h3, h4⟩ := split_flat F l [] v post h2.symm
        exact ⟨c', by simp [hc'], p1, p2, h3, fun x hx => by have := h4 x hx; simp at this⟩
      | cons y a =>
        rw [List.cons_append] at h2
        injection h2 with h2 h3
        exact ⟨c, by simp, pre, a, by rw [h1, h2], fun x hx => hx⟩
theorem walkN_behind (kids : Nat → List Nat) : ∀ (k a : Nat) (pre : List Nat) (v : Nat) (post : List Nat), walkN kids k a = pre ++ v :: post → v = a ∨ ∃ u ∈ pre, v ∈ kids u
  | 0, a, pre, v, post, h => by
    rw [walkN] at h
    cases pre with
    | nil => rw [List.nil_append] at h; injection h with h1 h2; exact .inl h1.symm
    | cons y pre => simp at h
  | k + 1, a, pre, v, post, h => by
    rw [walkN] at h
    cases pre with
    | nil =>
      rw [List.nil_append] at h
      injection h with h1 h2
      exact .inl h1.symm
    | cons y pre =>
      rw [List.cons_append] at h
      injection h with h1 h2
      subst h1
      obtain ⟨c, hc, p1, p2, h3, h4⟩ := split_flat (walkN kids k) _ pre v post h2
      rcases walkN_behind kids k c p1 v p2 h3 with rfl | ⟨u, hu, hv⟩
      · exact .inr ⟨a, by simp, hc⟩
      · exact .inr ⟨u, by simp [h4 u hu], hv⟩
/-- In a walk from f each other node comes behind the next one on its way to f. -/
theorem Good.walk_behind (G : Good ps) {f : Nat} (hf : f < ps.length) {k : Nat} {pre : List Nat} {v : Nat} {post : List Nat} (h : walkN (Gr.kids ps f) k f = pre ++ v :: post) (hv : v < ps.length) (hlt : ∀ u ∈ pre, u < ps.length) (hne : v ≠ f) :
    nextN ps v f ∈ pre ∧ distL ps f (nextN ps v f) + 1 = distL ps f v := by
  rcases walkN_behind _ _ _ _ _ _ h with rfl | ⟨u, hu, hk⟩
  · exact absurd rfl hne
  · unfold Gr.kids at hk
    rw [List.mem_filter, Bool.and_eq_true, decide_eq_true_eq] at hk
    obtain ⟨_, hn, hd⟩ := hk
    have hul := hlt u hu
    have s1 : distL ps v f = distL ps f v := G.rt.dist_symm hv hf
    have s2 : distL ps u f = distL ps f u := G.rt.dist_symm hul hf
    have e := G.nextN_only hv hf hne hul (by rw [nearL_symm]; exact hn) (by omega)
    rw [← e]
    exact ⟨hu, hd.symm⟩
end
end Go.Proofs.Ytohlgimbohkepaa.Gr
