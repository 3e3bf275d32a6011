/- Arrows over a rooted tree: quiet ones lead to one node; a find turns them towards its sender. -/
import Derived.Test.YtcomiininaemhaaGrMeet
namespace Go.Proofs.Ytcomiininaemhaa.Gr
set_option linter.unusedVariables false
section
variable {n r : Nat} {par dep : Nat → Nat}
/-- Where the next node towards b stands. -/
structure Nx (n r : Nat) (par dep : Nat → Nat) (N : Nat → Nat → Nat) : Prop where
  self : ∀ b, b < n → N b b = b
  lt : ∀ a b, a < n → b < n → N a b < n
  nr : ∀ a b, a < n → b < n → a ≠ b → near r par (N a b) a
  dn : ∀ a b, a < n → b < n → a ≠ b → dist par dep (N a b) b + 1 = dist par dep a b
theorem Nx.only {N : Nat → Nat → Nat} (T : RT n r par dep) (X : Nx n r par dep N) {a b v : Nat} (ha : a < n) (hb : b < n) (hab : a ≠ b) (hv : v < n) (hn : near r par v a) (hd : dist par dep v b + 1 = dist par dep a b) : v = N a b :=
  T.only _ a b v _ ha hb hv (X.lt a b ha hb) (Nat.le_refl _) hn (X.nr a b ha hb hab) hd (X.dn a b ha hb hab)
/-- Arrows that are quiet. -/
structure Qt (n r : Nat) (par : Nat → Nat) (f : Nat → Nat) (s : Nat) : Prop where
  lt : ∀ v, v < n → f v < n
  lg : ∀ v, v < n → f v = v ∨ near r par (f v) v
  hs : s < n
  sink : f s = s
  one : ∀ v, v < n → f v = v → v = s
  edge : ∀ u v, u < n → v < n → near r par u v → (f u = v ↔ ¬ f v = u)
/-- Quiet arrows lead to their sink. -/
theorem Qt.toward {N : Nat → Nat → Nat} (T : RT n r par dep) (X : Nx n r par dep N) {f : Nat → Nat} {s : Nat} (Q : Qt n r par f s) : ∀ v, v < n → f v = N v s := by
  have key : ∀ k v, v < n → v ≠ s → n ≤ dist par dep v s + k → f v = N v s := by
    intro k
    induction k with
    | zero => intro v hv _ h; have := T.dist_lt hv Q.hs; omega
    | succ k ih =>
      intro v hv hne h
      have hfn : f v ≠ v := fun e => hne (Q.one v hv e)
      have hnr : near r par (f v) v := (Q.lg v hv).resolve_left hfn
      rcases T.step (Q.lt v hv) hv Q.hs hnr with h1 | h1
      · exfalso
        have hws : f v ≠ s := fun e => by rw [e, dist_self] at h1; omega
        have h2 := ih (f v) (Q.lt v hv) hws (by omega)
        have h3 : v = N (f v) s := X.only T (Q.lt v hv) Q.hs hws hv (near_symm hnr) h1.symm
        exact (Q.edge v (f v) hv (Q.lt v hv) (near_symm hnr)).1 rfl (by rw [h2, ← h3])
      · exact X.only T hv Q.hs hne (Q.lt v hv) hnr h1.symm
  intro v hv
  by_cases e : v = s
  · rw [e, X.self s Q.hs]; exact Q.sink
  · exact key n v hv e (by omega)
/-- The arrows towards one node are quiet. -/
theorem Nx.quiet {N : Nat → Nat → Nat} (T : RT n r par dep) (X : Nx n r par dep N) {s : Nat} (hs : s < n) : Qt n r par (fun v => N v s) s where
  lt := fun v hv => X.lt v s hv hs
  lg := fun v hv => by
    by_cases e : v = s
    · left; rw [e]; exact X.self s hs
    · right; exact X.nr v s hv hs e
  hs := hs
  sink := X.self s hs
  one := fun v hv h => by
    by_cases e : v = s
    · exact e
    · have h1 := X.dn v s hv hs e
      have h2 : N v s = v := h
      rw [h2] at h1
      omega
  edge := fun u v hu hv hn => by
    have huv : ∀ x y, x < n → y < n → near r par x y → dist par dep x s = dist par dep y s + 1 → N x s = y ∧ ¬ N y s = x := by
      intro x y hx hy hxy h
      have hxs : x ≠ s := fun e => by rw [e, dist_self] at h; omega
      refine ⟨(X.only T hx hs hxs hy (near_symm hxy) h.symm).symm, fun e => ?_⟩
      by_cases ey : y = s
      · rw [ey, X.self s hs] at e; exact hxs e.symm
      · have h1 := X.dn y s hy hs ey
        rw [e] at h1
        omega
    show (N u s = v ↔ ¬ N v s = u)
    rcases T.step hu hv hs hn with h | h
    · obtain ⟨h1, h2⟩ := huv u v hu hv hn h
      exact ⟨fun _ => h2, fun _ => h1⟩
    · obtain ⟨h1, h2⟩ := huv v u hv hu (near_symm hn) h
      exact ⟨fun h3 => absurd h3 h2, fun h3 => absurd h1 h3⟩
/-- Off the way between a and b both lie in one direction. -/
theorem Nx.off {N : Nat → Nat → Nat} (T : RT n r par dep) (X : Nx n r par dep N) {a b v : Nat} (ha : a < n) (hb : b < n) (hv : v < n) (h : ¬ dist par dep a v + dist par dep v b = dist par dep a b) : N v a = N v b := by
  obtain ⟨m, hm, ⟨h1, h2, h3⟩, -⟩ := T.meet ha hb hv
  have hvm : v ≠ m := fun e => h (by rw [e]; exact h1)
  have sv : ∀ x, x < n → dist par dep v x = dist par dep x v := fun x hx => T.dist_symm hv hx
  have hx := X.lt v m hv hm
  have hn := X.nr v m hv hm hvm
  have hd := X.dn v m hv hm hvm
  have tr : ∀ x, x < n → dist par dep (N v m) x ≤ dist par dep (N v m) m + dist par dep m x := fun x hx' => T.triangle _ (N v m) m x hx hm hx' (Nat.le_refl _)
  have toA : dist par dep v a = dist par dep v m + dist par dep m a := by omega
  have toB : dist par dep v b = dist par dep v m + dist par dep m b := by
    have := sv b hb
    have := T.dist_symm hm hb
    have := T.dist_symm hm hv
    omega
  have hva : v ≠ a := fun e => by
    rw [e] at toA; rw [dist_self] at toA
    have h0 : dist par dep a m = 0 := by omega
    exact hvm (by rw [e]; exact T.dist_zero ha hm h0)
  have hvb : v ≠ b := fun e => by
    rw [e] at toB; rw [dist_self] at toB
    have h0 : dist par dep b m = 0 := by omega
    exact hvm (by rw [e]; exact T.dist_zero hb hm h0)
  have stepA := T.step hx hv ha hn
  have stepB := T.step hx hv hb hn
  have trA := tr a ha
  have trB := tr b hb
  exact (X.only T hv ha hva hx hn (by omega)).symm.trans (X.only T hv hb hvb hx hn (by omega))
/-- On the way between them they lie in two. -/
theorem Nx.on {N : Nat → Nat → Nat} (T : RT n r par dep) (X : Nx n r par dep N) {a b v : Nat} (ha : a < n) (hb : b < n) (hab : a ≠ b) (hv : v < n) (h : dist par dep a v + dist par dep v b = dist par dep a b) : N v a ≠ N v b := by
  intro e
  have hx := X.lt v a hv ha
  have tr := T.triangle _ a (N v a) b ha hx hb (Nat.le_refl _)
  have s1 := T.dist_symm ha hx
  have s2 := T.dist_symm ha hv
  by_cases e1 : v = a
  · rw [e1, X.self a ha] at e
    have h1 := X.dn a b ha hb hab
    rw [← e] at h1
    omega
  by_cases e2 : v = b
  · rw [e2, X.self b hb] at e
    have h1 := X.dn b a hb ha (Ne.symm hab)
    rw [e] at h1
    omega
  have h1 := X.dn v a hv ha e1
  have h2 := X.dn v b hv hb e2
  rw [← e] at h2
  omega
/-- A find's step: where it goes on, and that what it leaves behind is as it is towards the sender. -/
theorem Nx.hop {N : Nat → Nat → Nat} (T : RT n r par dep) (X : Nx n r par dep N) {a b v : Nat} (ha : a < n) (hb : b < n) (hv : v < n) (h : dist par dep a v + dist par dep v b = dist par dep a b) (hvb : v ≠ b) :
    N v b < n ∧ dist par dep a (N v b) = dist par dep a v + 1 ∧ dist par dep a (N v b) + dist par dep (N v b) b = dist par dep a b ∧ N (N v b) a = v := by
  have hx := X.lt v b hv hb
  have hn := X.nr v b hv hb hvb
  have hd := X.dn v b hv hb hvb
  have tr := T.triangle _ a (N v b) b ha hx hb (Nat.le_refl _)
  have s1 := T.dist_symm ha hx
  have s2 := T.dist_symm ha hv
  have st := T.step hx hv ha hn
  have h1 : dist par dep (N v b) a = dist par dep v a + 1 := by omega
  have hxa : N v b ≠ a := fun e => by rw [e, dist_self] at h1; omega
  exact ⟨hx, by omega, by omega, (X.only T hx ha hxa hv (near_symm hn) h1.symm).symm⟩
end
end Go.Proofs.Ytcomiininaemhaa.Gr
