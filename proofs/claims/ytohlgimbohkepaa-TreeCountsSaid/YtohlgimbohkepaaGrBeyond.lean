/- Nodes beyond a node, seen from another: a walk meets each once. -/
import Derived.Test.YtohlgimbohkepaaGrMeet
namespace Go.Proofs.Ytohlgimbohkepaa.Gr
set_option linter.unusedVariables false
variable {n r : Nat} {par dep : Nat → Nat}

/-- From f one comes to x by way of a. -/
def beyond (par dep : Nat → Nat) (f a x : Nat) : Prop := dist par dep f x = dist par dep f a + dist par dep a x
theorem near_dist (T : RT n r par dep) {u v : Nat} (hu : u < n) (hv : v < n) (h : near r par u v) : dist par dep u v = 1 := by
  rcases T.step hu hv hv h with h1 | h1
  · rw [dist_self] at h1; exact h1
  · rw [dist_self] at h1; omega
theorem RT.beyond_kid (T : RT n r par dep) {f a x : Nat} (hf : f < n) (ha : a < n) (hx : x < n) (h : beyond par dep f a x) (hne : a ≠ x) :
    ∃ v, v < n ∧ near r par v a ∧ dist par dep f v = dist par dep f a + 1 ∧ beyond par dep f v x := by
  obtain ⟨v, hv, hn, hd⟩ := T.nearer _ a x ha hx hne (Nat.le_refl _)
  have h1 := T.triangle _ f v x hf hv hx (Nat.le_refl _)
  have h2 := T.step hv ha hf hn
  rw [T.dist_symm hv hf, T.dist_symm ha hf] at h2
  unfold beyond at h ⊢
  exact ⟨v, hv, hn, by omega, by omega⟩
theorem RT.kid_beyond (T : RT n r par dep) {f a v x : Nat} (hf : f < n) (ha : a < n) (hv : v < n) (hx : x < n) (hn : near r par v a) (hd : dist par dep f v = dist par dep f a + 1) (h : beyond par dep f v x) :
    beyond par dep f a x ∧ dist par dep v x + 1 = dist par dep a x := by
  have h1 := T.triangle _ f a x hf ha hx (Nat.le_refl _)
  have h2 := T.triangle _ a v x ha hv hx (Nat.le_refl _)
  have h3 := near_dist T ha hv (near_symm hn)
  unfold beyond at h ⊢
  omega
theorem RT.kid_only (T : RT n r par dep) {f a v w x : Nat} (hf : f < n) (ha : a < n) (hv : v < n) (hw : w < n) (hx : x < n) (hn : near r par v a) (hm : near r par w a)
    (hd : dist par dep f v = dist par dep f a + 1) (he : dist par dep f w = dist par dep f a + 1) (h : beyond par dep f v x) (k : beyond par dep f w x) : v = w :=
  T.only _ a x v w ha hx hv hw (Nat.le_refl _) hn hm (T.kid_beyond hf ha hv hx hn hd h).2 (T.kid_beyond hf ha hw hx hm he k).2

/-- A walk: kids a are the neighbours of a that lie farther from f. -/
def walkN (kids : Nat → List Nat) : Nat → Nat → List Nat
  | 0, a => [a]
  | k + 1, a => a :: (kids a).flatMap (walkN kids k)
structure Kids (n r f : Nat) (par dep : Nat → Nat) (kids : Nat → List Nat) : Prop where
  mem : ∀ a v, a < n → (v ∈ kids a ↔ v < n ∧ near r par v a ∧ dist par dep f v = dist par dep f a + 1)
  nodup : ∀ a, a < n → (kids a).Nodup
theorem RT.walk_mem (T : RT n r par dep) {f : Nat} {kids : Nat → List Nat} (hf : f < n) (K : Kids n r f par dep kids) : ∀ (k a x : Nat), a < n → n ≤ dist par dep f a + k →
    (x ∈ walkN kids k a ↔ x < n ∧ beyond par dep f a x) := by
  intro k
  induction k with
  | zero => intro a x ha h; have := T.dist_lt hf ha; omega
  | succ k ih =>
    intro a x ha h
    rw [walkN, List.mem_cons, List.mem_flatMap]
    constructor
    · rintro (rfl | ⟨v, hv, hx⟩)
      · exact ⟨ha, by unfold beyond; rw [dist_self]; rfl⟩
      · obtain ⟨v1, v2, v3⟩ := (K.mem a v ha).1 hv
        obtain ⟨x1, x2⟩ := (ih v x v1 (by omega)).1 hx
        exact ⟨x1, (T.kid_beyond hf ha v1 x1 v2 v3 x2).1⟩
    · rintro ⟨x1, x2⟩
      by_cases e : a = x
      · exact .inl e.symm
      · obtain ⟨v, v1, v2, v3, v4⟩ := T.beyond_kid hf ha x1 x2 e
        exact .inr ⟨v, (K.mem a v ha).2 ⟨v1, v2, v3⟩, (ih v x v1 (by omega)).2 ⟨x1, v4⟩⟩
theorem RT.walk_nodup (T : RT n r par dep) {f : Nat} {kids : Nat → List Nat} (hf : f < n) (K : Kids n r f par dep kids) : ∀ (k a : Nat), a < n → n ≤ dist par dep f a + k → (walkN kids k a).Nodup := by
  intro k
  induction k with
  | zero => intro a ha h; have := T.dist_lt hf ha; omega
  | succ k ih =>
    intro a ha h
    rw [walkN, List.nodup_cons]
    refine ⟨fun hm => ?_, ?_⟩
    · obtain ⟨v, hv, hx⟩ := List.mem_flatMap.1 hm
      obtain ⟨v1, v2, v3⟩ := (K.mem a v ha).1 hv
      have h1 := ((T.walk_mem hf K k v a v1 (by omega)).1 hx).2
      unfold beyond at h1
      omega
    · unfold List.Nodup
      rw [List.pairwise_flatMap]
      refine ⟨fun v hv => ?_, ?_⟩
      · obtain ⟨v1, v2, v3⟩ := (K.mem a v ha).1 hv
        exact ih v v1 (by omega)
      · refine List.Pairwise.imp_of_mem ?_ (K.nodup a ha)
        intro v w hv hw hne x hx y hy e
        subst e
        obtain ⟨v1, v2, v3⟩ := (K.mem a v ha).1 hv
        obtain ⟨w1, w2, w3⟩ := (K.mem a w ha).1 hw
        obtain ⟨x1, x2⟩ := (T.walk_mem hf K k v x v1 (by omega)).1 hx
        obtain ⟨y1, y2⟩ := (T.walk_mem hf K k w x w1 (by omega)).1 hy
        exact hne (T.kid_only hf ha v1 w1 x1 v2 w2 v3 w3 x2 y2)
/-- A walk from f itself comes to each node once. -/
theorem RT.walk_all (T : RT n r par dep) {f : Nat} {kids : Nat → List Nat} (hf : f < n) (K : Kids n r f par dep kids) (x : Nat) : x ∈ walkN kids n f ↔ x < n := by
  rw [T.walk_mem hf K n f x hf (by omega)]
  unfold beyond
  rw [dist_self]
  exact ⟨fun h => h.1, fun h => ⟨h, by omega⟩⟩
theorem RT.walk_len (T : RT n r par dep) {f : Nat} {kids : Nat → List Nat} (hf : f < n) (K : Kids n r f par dep kids) {k a : Nat} (ha : a < n) (h : n ≤ dist par dep f a + k) : (walkN kids k a).length ≤ n :=
  pigeon n _ (T.walk_nodup hf K k a ha h) fun x hx => ((T.walk_mem hf K k a x ha h).1 hx).1
end Go.Proofs.Ytohlgimbohkepaa.Gr
