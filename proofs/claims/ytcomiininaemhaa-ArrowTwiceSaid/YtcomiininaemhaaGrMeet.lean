/- Rooted trees: what stands on a way; three ways between three nodes meet in one. -/
import Derived.Test.YtcomiininaemhaaGrWay
namespace Go.Proofs.Ytcomiininaemhaa.Gr
set_option linter.unusedVariables false
section
variable {n r : Nat} {par dep : Nat → Nat}
/-- Two ways, one behind the other, where nothing is lost. -/
theorem Way.join (T : RT n r par dep) {a v b : Nat} {l m : List Nat} (ha : a < n) (hv : v < n) (hb : b < n) (h : Way n r par dep a v l) (k : Way n r par dep v b (v :: m)) (hd : dist par dep a v + dist par dep v b = dist par dep a b) :
    Way n r par dep a b (l ++ m) where
  len := by
    have h1 := h.len
    have h2 := k.len
    rw [List.length_cons] at h2
    rw [List.length_append]; omega
  head := by
    rw [List.getElem?_append_left (by rw [h.len]; omega)]
    exact h.head
  get := by
    intro i x hx
    have h1 := h.len
    rcases Nat.lt_or_ge i l.length with hi | hi
    · rw [List.getElem?_append_left hi] at hx
      have g := h.get _ _ hx
      have e := h.dist_from T ha hv _ _ hx
      have t1 := T.triangle _ x v b g.1 hv hb (Nat.le_refl _)
      have t2 := T.triangle _ a x b ha g.1 hb (Nat.le_refl _)
      exact ⟨g.1, by omega⟩
    · rw [List.getElem?_append_right hi] at hx
      have g := k.get (i - l.length + 1) x (by simpa using hx)
      exact ⟨g.1, by omega⟩
  next := by
    intro i x y hx hy
    have h1 := h.len
    rcases Nat.lt_or_ge (i + 1) l.length with hi | hi
    · rw [List.getElem?_append_left (by omega)] at hx
      rw [List.getElem?_append_left hi] at hy
      exact h.next _ _ _ hx hy
    · rw [List.getElem?_append_right hi] at hy
      rcases Nat.lt_or_ge i l.length with hj | hj
      · rw [List.getElem?_append_left hj] at hx
        have hx' := h.last T hv
        rw [show i = dist par dep a v by omega, hx'] at hx
        injection hx with hx
        subst hx
        exact k.next 0 v y (by simp) (by rw [show i + 1 - l.length = 0 by omega] at hy; simpa using hy)
      · rw [List.getElem?_append_right hj] at hx
        exact k.next (i - l.length + 1) x y (by simpa using hx) (by rw [show i + 1 - l.length = i - l.length + 1 by omega] at hy; simpa using hy)
theorem Way.mem (T : RT n r par dep) {a b : Nat} {l : List Nat} (ha : a < n) (hb : b < n) (h : Way n r par dep a b l) (v : Nat) : v ∈ l ↔ v < n ∧ dist par dep a v + dist par dep v b = dist par dep a b := by
  constructor
  · intro hv
    obtain ⟨i, hi⟩ := List.getElem?_of_mem hv
    have g := h.get _ _ hi
    have e := h.dist_from T ha hb _ _ hi
    exact ⟨g.1, by omega⟩
  · rintro ⟨hv, hd⟩
    obtain ⟨l1, h1⟩ := T.way _ a v ha hv (Nat.le_refl _)
    obtain ⟨l2, h2⟩ := T.way _ v b hv hb (Nat.le_refl _)
    cases l2 with
    | nil => have := h2.len; simp at this
    | cons x m =>
      have hx := h2.head
      simp at hx
      subst hx
      rw [T.way_only hb h (h1.join T ha hv hb h2 hd)]
      have := List.mem_of_getElem? (h1.last T hv)
      simp [this]
/-- Once away from a on the way to c, away all along. -/
theorem RT.away (T : RT n r par dep) : ∀ (f a c v w : Nat), a < n → c < n → v < n → w < n → dist par dep w c ≤ f → near r par w v → dist par dep a w = dist par dep a v + 1 → dist par dep w c + 1 = dist par dep v c →
    dist par dep a c = dist par dep a v + dist par dep v c := by
  intro f
  induction f with
  | zero =>
    intro a c v w ha hc hv hw hf hn h1 h2
    have := T.dist_zero hw hc (by omega)
    subst this
    omega
  | succ f ih =>
    intro a c v w ha hc hv hw hf hn h1 h2
    rcases Nat.decEq w c with hwc | hwc
    · obtain ⟨x, x1, x2, x3⟩ := T.nearer _ w c hw hc hwc (Nat.le_refl _)
      have s := T.step x1 hw ha x2
      have y1 := T.dist_symm ha x1
      have y2 := T.dist_symm ha hw
      have y3 := T.dist_symm ha hv
      rcases Nat.lt_or_ge (dist par dep x a) (dist par dep w a) with hlt | hge
      · have e := T.only _ w a x v hw ha x1 hv (Nat.le_refl _) x2 (near_symm hn) (by omega) (by omega)
        subst e
        omega
      · have := ih a c w x ha hc hw x1 (by omega) x2 (by omega) x3
        omega
    · subst hwc
      rw [dist_self] at h2
      omega
/-- The node of a list that is nearest to c. -/
theorem nearest (g : Nat → Nat) : ∀ (l : List Nat), l ≠ [] → ∃ v ∈ l, ∀ x ∈ l, g v ≤ g x
  | [], h => absurd rfl h
  | x :: l, _ => by
    by_cases hl : l = []
    · subst hl
      exact ⟨x, by simp, by intro y hy; simp at hy; subst hy; exact Nat.le_refl _⟩
    · obtain ⟨v, hv, h⟩ := nearest g l hl
      rcases Nat.le_total (g x) (g v) with h1 | h1
      · refine ⟨x, by simp, ?_⟩
        intro y hy
        rcases List.mem_cons.1 hy with rfl | hy
        · exact Nat.le_refl _
        · exact Nat.le_trans h1 (h y hy)
      · refine ⟨v, by simp [hv], ?_⟩
        intro y hy
        rcases List.mem_cons.1 hy with rfl | hy
        · exact h1
        · exact h y hy
/-- A node on the way from a to b, nearest to c: the ways to c go over it. -/
theorem RT.gate (T : RT n r par dep) {a b c v : Nat} (ha : a < n) (hb : b < n) (hc : c < n) (hv : v < n) (hab : dist par dep a v + dist par dep v b = dist par dep a b)
    (hmin : ∀ x, x < n → dist par dep a x + dist par dep x b = dist par dep a b → dist par dep v c ≤ dist par dep x c) : dist par dep a v + dist par dep v c = dist par dep a c := by
  rcases Nat.decEq v c with hvc | hvc
  · obtain ⟨w, w1, w2, w3⟩ := T.nearer _ v c hv hc hvc (Nat.le_refl _)
    have s := T.step w1 hv ha w2
    have y1 := T.dist_symm ha w1
    have y2 := T.dist_symm ha hv
    rcases Nat.lt_or_ge (dist par dep w a) (dist par dep v a) with hlt | hge
    · exfalso
      have t1 := T.triangle _ a w b ha w1 hb (Nat.le_refl _)
      have t2 := T.step w1 hv hb w2
      have := hmin w w1 (by omega)
      omega
    · exact (T.away _ a c v w ha hc hv w1 (Nat.le_refl _) w2 (by omega) w3).symm
  · subst hvc
    rw [dist_self]; omega
/-- Just one node stands on all three ways. -/
theorem RT.meet (T : RT n r par dep) {a b c : Nat} (ha : a < n) (hb : b < n) (hc : c < n) :
    ∃ v, v < n ∧ (dist par dep a v + dist par dep v b = dist par dep a b ∧ dist par dep b v + dist par dep v c = dist par dep b c ∧ dist par dep c v + dist par dep v a = dist par dep c a) ∧
      ∀ x, x < n → (dist par dep a x + dist par dep x b = dist par dep a b ∧ dist par dep b x + dist par dep x c = dist par dep b c ∧ dist par dep c x + dist par dep x a = dist par dep c a) → x = v := by
  obtain ⟨l, hl⟩ := T.way _ a b ha hb (Nat.le_refl _)
  obtain ⟨v, hv, hmin⟩ := nearest (fun x => dist par dep x c) l (fun e => by have := hl.len; rw [e] at this; simp at this)
  obtain ⟨v1, v2⟩ := (hl.mem T ha hb v).1 hv
  have hm : ∀ x, x < n → dist par dep a x + dist par dep x b = dist par dep a b → dist par dep v c ≤ dist par dep x c := fun x h1 h2 => hmin x ((hl.mem T ha hb x).2 ⟨h1, h2⟩)
  have g1 := T.gate ha hb hc v1 v2 hm
  have sab := T.dist_symm ha hb
  have sav := T.dist_symm ha v1
  have sbv := T.dist_symm hb v1
  have scv := T.dist_symm hc v1
  have sca := T.dist_symm hc ha
  have sbc := T.dist_symm hb hc
  have g2 := T.gate hb ha hc v1 (by omega) (fun x h1 h2 => by
    have s1 := T.dist_symm ha h1
    have s2 := T.dist_symm hb h1
    exact hm x h1 (by omega))
  refine ⟨v, v1, ⟨v2, g2, by omega⟩, ?_⟩
  rintro x x1 ⟨e1, e2, e3⟩
  have s1 := T.dist_symm ha x1
  have s2 := T.dist_symm hb x1
  have s3 := T.dist_symm hc x1
  have hx : x ∈ l := (hl.mem T ha hb x).2 ⟨x1, e1⟩
  obtain ⟨i, hi⟩ := List.getElem?_of_mem hx
  obtain ⟨j, hj⟩ := List.getElem?_of_mem hv
  have d1 := hl.dist_from T ha hb _ _ hi
  have d2 := hl.dist_from T ha hb _ _ hj
  have hij : i = j := by omega
  rw [hij, hj] at hi
  injection hi with hi
  exact hi.symm
end
end Go.Proofs.Ytcomiininaemhaa.Gr
