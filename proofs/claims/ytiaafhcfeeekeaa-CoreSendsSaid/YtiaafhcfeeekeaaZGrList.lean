/- Rooted trees: distances over neighbours, the one neighbour that is nearer. -/
import Derived.Below
namespace Go.Proofs.Ytiaafhcfeeekeaa.Gr
set_option linter.unusedVariables false

/-- n nodes below a root r: each other one stands one deeper than its parent. -/
structure RT (n r : Nat) (par dep : Nat → Nat) : Prop where
  hr : r < n
  d0 : dep r = 0
  up : ∀ v, v < n → v ≠ r → par v < n ∧ dep v = dep (par v) + 1
def near (r : Nat) (par : Nat → Nat) (a b : Nat) : Prop := (a ≠ r ∧ par a = b) ∨ (b ≠ r ∧ par b = a)
theorem near_symm {r : Nat} {par : Nat → Nat} {a b : Nat} (h : near r par a b) : near r par b a := h.symm

def distF (par dep : Nat → Nat) : Nat → Nat → Nat → Nat
  | 0, _, _ => 0
  | f + 1, a, b => if a = b then 0 else if dep b ≤ dep a then 1 + distF par dep f (par a) b else 1 + distF par dep f a (par b)
theorem distF_succ (par dep : Nat → Nat) (f a b : Nat) : distF par dep (f + 1) a b = if a = b then 0 else if dep b ≤ dep a then 1 + distF par dep f (par a) b else 1 + distF par dep f a (par b) := rfl
/-- How many edges lie between. -/
def dist (par dep : Nat → Nat) (a b : Nat) : Nat := distF par dep (dep a + dep b + 1) a b

section
variable {n r : Nat} {par dep : Nat → Nat}
theorem RT.root (T : RT n r par dep) {v : Nat} (hv : v < n) (h : dep v = 0) : v = r := by
  rcases Nat.decEq v r with hne | he
  · have := (T.up v hv hne).2; omega
  · exact he
theorem distF_more (T : RT n r par dep) : ∀ (f g a b : Nat), a < n → b < n → dep a + dep b < f → dep a + dep b < g → distF par dep f a b = distF par dep g a b := by
  intro f
  induction f with
  | zero => intro g a b _ _ h; omega
  | succ f ih =>
    intro g a b ha hb hf hg
    cases g with
    | zero => omega
    | succ g =>
      unfold distF
      by_cases hab : a = b
      · rw [if_pos hab, if_pos hab]
      · rw [if_neg hab, if_neg hab]
        by_cases hd : dep b ≤ dep a
        · rw [if_pos hd, if_pos hd]
          have har : a ≠ r := fun e => by
            subst e
            have := T.d0
            exact hab (T.root hb (by omega)).symm
          obtain ⟨h1, h2⟩ := T.up a ha har
          rw [ih g (par a) b h1 hb (by omega) (by omega)]
        · rw [if_neg hd, if_neg hd]
          have hbr : b ≠ r := fun e => by
            subst e
            have := T.d0
            omega
          obtain ⟨h1, h2⟩ := T.up b hb hbr
          rw [ih g a (par b) ha h1 (by omega) (by omega)]
theorem dist_self (a : Nat) : dist par dep a a = 0 := by unfold dist distF; rw [if_pos rfl]
theorem RT.e1 (T : RT n r par dep) {a b : Nat} (ha : a < n) (hb : b < n) (hab : a ≠ b) (hd : dep b ≤ dep a) : a ≠ r ∧ dist par dep a b = 1 + dist par dep (par a) b := by
  have har : a ≠ r := fun e => by
    subst e
    have := T.d0
    exact hab (T.root hb (by omega)).symm
  obtain ⟨h1, h2⟩ := T.up a ha har
  refine ⟨har, ?_⟩
  have e : dist par dep a b = 1 + distF par dep (dep a + dep b) (par a) b := by
    unfold dist
    rw [distF_succ, if_neg hab, if_pos hd]
  rw [e]
  unfold dist
  rw [distF_more T (dep a + dep b) (dep (par a) + dep b + 1) (par a) b h1 hb (by omega) (by omega)]
theorem RT.e2' (T : RT n r par dep) {a b : Nat} (ha : a < n) (hb : b < n) (hd : dep a < dep b) : b ≠ r ∧ dist par dep a b = 1 + dist par dep a (par b) := by
  have hbr : b ≠ r := fun e => by
    subst e
    have := T.d0
    omega
  have hab : a ≠ b := fun e => by subst e; omega
  obtain ⟨h1, h2⟩ := T.up b hb hbr
  refine ⟨hbr, ?_⟩
  have e : dist par dep a b = 1 + distF par dep (dep a + dep b) a (par b) := by
    unfold dist
    rw [distF_succ, if_neg hab, if_neg (by omega)]
  rw [e]
  unfold dist
  rw [distF_more T (dep a + dep b) (dep a + dep (par b) + 1) a (par b) ha h1 (by omega) (by omega)]
theorem RT.e2 (T : RT n r par dep) {a b : Nat} (ha : a < n) (hb : b < n) (hab : a ≠ b) (hd : dep a ≤ dep b) : b ≠ r ∧ dist par dep a b = 1 + dist par dep a (par b) := by
  rcases Nat.lt_or_ge (dep a) (dep b) with h | h
  · exact T.e2' ha hb h
  · have he : dep a = dep b := by omega
    obtain ⟨har, e1⟩ := T.e1 ha hb hab h
    obtain ⟨p1, p2⟩ := T.up a ha har
    have hbr : b ≠ r := fun e => by
      subst e
      have := T.d0
      exact hab (T.root ha (by omega))
    obtain ⟨q1, q2⟩ := T.up b hb hbr
    refine ⟨hbr, ?_⟩
    have e3 := (T.e2' p1 hb (by omega)).2
    have e4 := (T.e1 ha q1 (fun e => by subst e; omega) (by omega)).2
    rw [e1, e3, e4]
theorem RT.dist_zero (T : RT n r par dep) {a b : Nat} (ha : a < n) (hb : b < n) (h : dist par dep a b = 0) : a = b := by
  rcases Nat.decEq a b with hab | hab
  · rcases Nat.le_total (dep b) (dep a) with hd | hd
    · have := (T.e1 ha hb hab hd).2; omega
    · have := (T.e2 ha hb hab hd).2; omega
  · exact hab
theorem RT.symm (T : RT n r par dep) : ∀ (f a b : Nat), a < n → b < n → dep a + dep b ≤ f → dist par dep a b = dist par dep b a := by
  intro f
  induction f with
  | zero =>
    intro a b ha hb h
    have h1 := T.root ha (by omega)
    have h2 := T.root hb (by omega)
    rw [h1, h2]
  | succ f ih =>
    intro a b ha hb h
    rcases Nat.decEq a b with hab | hab
    · rcases Nat.le_total (dep b) (dep a) with hd | hd
      · obtain ⟨har, e1⟩ := T.e1 ha hb hab hd
        obtain ⟨p1, p2⟩ := T.up a ha har
        rw [e1, (T.e2 hb ha (Ne.symm hab) hd).2, ih (par a) b p1 hb (by omega)]
      · obtain ⟨hbr, e1⟩ := T.e2 ha hb hab hd
        obtain ⟨p1, p2⟩ := T.up b hb hbr
        rw [e1, (T.e1 hb ha (Ne.symm hab) hd).2, ih a (par b) ha p1 (by omega)]
    · rw [hab]
theorem RT.dist_symm (T : RT n r par dep) {a b : Nat} (ha : a < n) (hb : b < n) : dist par dep a b = dist par dep b a := T.symm _ a b ha hb (Nat.le_refl _)
/-- Over an edge the distance turns by one. -/
theorem RT.step' (T : RT n r par dep) : ∀ (f u t : Nat), u < n → t < n → u ≠ r → dep t ≤ f →
    dist par dep u t = dist par dep (par u) t + 1 ∨ dist par dep (par u) t = dist par dep u t + 1 := by
  intro f
  induction f with
  | zero =>
    intro u t hu ht hur h
    obtain ⟨p1, p2⟩ := T.up u hu hur
    have hut : u ≠ t := fun e => by subst e; omega
    have := (T.e1 hu ht hut (by omega)).2
    exact .inl (by omega)
  | succ f ih =>
    intro u t hu ht hur h
    obtain ⟨p1, p2⟩ := T.up u hu hur
    rcases Nat.decEq u t with hut | hut
    · rcases Nat.lt_or_ge (dep u) (dep t) with hd | hd
      · obtain ⟨htr, e1⟩ := T.e2' hu ht hd
        have e2 := (T.e2' p1 ht (by omega)).2
        obtain ⟨q1, q2⟩ := T.up t ht htr
        have := ih u (par t) hu q1 hur (by omega)
        omega
      · have := (T.e1 hu ht hut hd).2
        exact .inl (by omega)
    · subst hut
      have e1 := (T.e2' p1 hu (by omega)).2
      rw [dist_self, e1, dist_self]
      exact .inr rfl
theorem RT.step (T : RT n r par dep) {u v t : Nat} (hu : u < n) (hv : v < n) (ht : t < n) (h : near r par u v) : dist par dep u t = dist par dep v t + 1 ∨ dist par dep v t = dist par dep u t + 1 := by
  rcases h with ⟨h1, h2⟩ | ⟨h1, h2⟩
  · subst h2; exact T.step' _ u t hu ht h1 (Nat.le_refl _)
  · subst h2; exact (T.step' _ v t hv ht h1 (Nat.le_refl _)).symm
/-- One neighbour is nearer. -/
theorem RT.nearer (T : RT n r par dep) : ∀ (f a t : Nat), a < n → t < n → a ≠ t → dep t ≤ f → ∃ v, v < n ∧ near r par v a ∧ dist par dep v t + 1 = dist par dep a t := by
  intro f
  induction f with
  | zero =>
    intro a t ha ht hat h
    obtain ⟨har, e⟩ := T.e1 ha ht hat (by omega)
    exact ⟨par a, (T.up a ha har).1, .inr ⟨har, rfl⟩, by omega⟩
  | succ f ih =>
    intro a t ha ht hat h
    rcases Nat.lt_or_ge (dep a) (dep t) with hd | hd
    · obtain ⟨htr, e1⟩ := T.e2' ha ht hd
      obtain ⟨q1, q2⟩ := T.up t ht htr
      rcases Nat.decEq a (par t) with hap | hap
      · obtain ⟨v, v1, v2, v3⟩ := ih a (par t) ha q1 hap (by omega)
        refine ⟨v, v1, v2, ?_⟩
        have hvd : dep v ≤ dep a + 1 := by
          rcases v2 with ⟨w1, w2⟩ | ⟨w1, w2⟩
          · have := (T.up v v1 w1).2; rw [w2] at this; omega
          · have := (T.up a ha w1).2; rw [w2] at this; omega
        have hvt : v ≠ t := fun e => by
          subst e
          rcases v2 with ⟨w1, w2⟩ | ⟨w1, w2⟩
          · exact hap w2.symm
          · have := (T.up a ha w1).2; rw [w2] at this; omega
        have := (T.e2 v1 ht hvt (by omega)).2
        omega
      · refine ⟨t, ht, .inl ⟨htr, hap.symm⟩, ?_⟩
        rw [e1, hap, dist_self, dist_self]
    · obtain ⟨har, e⟩ := T.e1 ha ht hat hd
      exact ⟨par a, (T.up a ha har).1, .inr ⟨har, rfl⟩, by omega⟩
/-- And it is the only one. -/
theorem RT.only (T : RT n r par dep) : ∀ (f a t v w : Nat), a < n → t < n → v < n → w < n → dep t ≤ f → near r par v a → near r par w a →
    dist par dep v t + 1 = dist par dep a t → dist par dep w t + 1 = dist par dep a t → v = w := by
  intro f
  induction f with
  | zero =>
    intro a t v w ha ht hv hw h nv nw dv dw
    have up : ∀ x, x < n → near r par x a → dist par dep x t + 1 = dist par dep a t → a ≠ r ∧ x = par a := by
      intro x hx nx dx
      rcases nx with ⟨w1, w2⟩ | ⟨w1, w2⟩
      · have h1 := (T.up x hx w1).2
        rw [w2] at h1
        have hxt : x ≠ t := fun e => by subst e; omega
        have := (T.e1 hx ht hxt (by omega)).2
        rw [w2] at this; omega
      · exact ⟨w1, w2.symm⟩
    rw [(up v hv nv dv).2, (up w hw nw dw).2]
  | succ f ih =>
    intro a t v w ha ht hv hw h nv nw dv dw
    have depn : ∀ x, x < n → near r par x a → dep x ≤ dep a + 1 := by
      intro x hx nx
      rcases nx with ⟨w1, w2⟩ | ⟨w1, w2⟩
      · have := (T.up x hx w1).2; rw [w2] at this; omega
      · have := (T.up a ha w1).2; rw [w2] at this; omega
    rcases Nat.lt_or_ge (dep a) (dep t) with hd | hd
    · obtain ⟨htr, e1⟩ := T.e2' ha ht hd
      obtain ⟨q1, q2⟩ := T.up t ht htr
      have ex : ∀ x, x < n → near r par x a → x ≠ t → dist par dep x t = 1 + dist par dep x (par t) := fun x hx nx hxt => (T.e2 hx ht hxt (by have := depn x hx nx; omega)).2
      rcases Nat.decEq a (par t) with hap | hap
      · have nt : ∀ x, near r par x a → x ≠ t := fun x nx e => by
          subst e
          rcases nx with ⟨w1, w2⟩ | ⟨w1, w2⟩
          · exact hap w2.symm
          · have := (T.up a ha w1).2; rw [w2] at this; omega
        have e2 := ex v hv nv (nt v nv)
        have e3 := ex w hw nw (nt w nw)
        exact ih a (par t) v w ha q1 hv hw (by omega) nv nw (by omega) (by omega)
      · have : dist par dep a t = 1 := by rw [e1, hap, dist_self]
        rw [T.dist_zero hv ht (by omega), T.dist_zero hw ht (by omega)]
    · have up : ∀ x, x < n → near r par x a → dist par dep x t + 1 = dist par dep a t → x = par a := by
        intro x hx nx dx
        rcases nx with ⟨w1, w2⟩ | ⟨w1, w2⟩
        · have h1 := (T.up x hx w1).2
          rw [w2] at h1
          have hxt : x ≠ t := fun e => by subst e; omega
          have := (T.e1 hx ht hxt (by omega)).2
          rw [w2] at this; omega
        · exact w2.symm
      rw [up v hv nv dv, up w hw nw dw]
end
end Go.Proofs.Ytiaafhcfeeekeaa.Gr

/- Rooted trees: the way from one node to another. -/
namespace Go.Proofs.Ytiaafhcfeeekeaa.Gr
set_option linter.unusedVariables false
section
variable {n r : Nat} {par dep : Nat → Nat}
theorem RT.triangle (T : RT n r par dep) : ∀ (f a c b : Nat), a < n → c < n → b < n → dist par dep c b ≤ f → dist par dep a b ≤ dist par dep a c + dist par dep c b := by
  intro f
  induction f with
  | zero =>
    intro a c b ha hc hb h
    have := T.dist_zero hc hb (by omega)
    subst this
    omega
  | succ f ih =>
    intro a c b ha hc hb h
    rcases Nat.decEq c b with hcb | hcb
    · obtain ⟨v, h1, h2, h3⟩ := T.nearer _ c b hc hb hcb (Nat.le_refl _)
      have e := ih a v b ha h1 hb (by omega)
      have s := T.step h1 hc ha h2
      have y1 := T.dist_symm ha h1
      have y2 := T.dist_symm ha hc
      omega
    · subst hcb
      omega

/-- l goes from a to b, each next one nearer by one. -/
structure Way (n r : Nat) (par dep : Nat → Nat) (a b : Nat) (l : List Nat) : Prop where
  len : l.length = dist par dep a b + 1
  head : l[0]? = some a
  get : ∀ i v, l[i]? = some v → v < n ∧ dist par dep v b + i = dist par dep a b
  next : ∀ i v w, l[i]? = some v → l[i + 1]? = some w → near r par w v
theorem way_self (b : Nat) (hb : b < n) : Way n r par dep b b [b] where
  len := by rw [dist_self]; rfl
  head := rfl
  get := by
    intro i v h
    cases i with
    | zero => simp at h; subst h; exact ⟨hb, by omega⟩
    | succ i => simp at h
  next := by
    intro i v w h1 h2
    simp at h2
theorem Way.cons {a v b : Nat} {l : List Nat} (h : Way n r par dep v b l) (ha : a < n) (hn : near r par v a) (hd : dist par dep v b + 1 = dist par dep a b) : Way n r par dep a b (a :: l) where
  len := by rw [List.length_cons, h.len]; omega
  head := rfl
  get := by
    intro i x hx
    cases i with
    | zero => simp at hx; subst hx; exact ⟨ha, by omega⟩
    | succ i =>
      have := h.get i x (by simpa using hx)
      exact ⟨this.1, by omega⟩
  next := by
    intro i x y h1 h2
    cases i with
    | zero =>
      simp at h1
      have h3 := h.head
      simp at h2
      rw [h3] at h2
      injection h2 with h2
      subst h1; subst h2
      exact hn
    | succ i => exact h.next i x y (by simpa using h1) (by simpa using h2)
theorem RT.way (T : RT n r par dep) : ∀ (f a b : Nat), a < n → b < n → dist par dep a b ≤ f → ∃ l, Way n r par dep a b l := by
  intro f
  induction f with
  | zero =>
    intro a b ha hb h
    have := T.dist_zero ha hb (by omega)
    subst this
    exact ⟨[a], way_self a ha⟩
  | succ f ih =>
    intro a b ha hb h
    rcases Nat.decEq a b with hab | hab
    · obtain ⟨v, h1, h2, h3⟩ := T.nearer _ a b ha hb hab (Nat.le_refl _)
      obtain ⟨l, hl⟩ := ih v b h1 hb (by omega)
      exact ⟨a :: l, hl.cons ha h2 h3⟩
    · subst hab
      exact ⟨[a], way_self a ha⟩
theorem RT.way_only (T : RT n r par dep) {a b : Nat} {l m : List Nat} (hb : b < n) (h : Way n r par dep a b l) (k : Way n r par dep a b m) : l = m := by
  have key : ∀ i, i ≤ dist par dep a b → l[i]? = m[i]? := by
    intro i
    induction i with
    | zero => intro _; rw [h.head, k.head]
    | succ i ih =>
      intro hi
      have e := ih (by omega)
      obtain ⟨v, hv⟩ : ∃ v, l[i]? = some v := ⟨_, List.getElem?_eq_getElem (by rw [h.len]; omega)⟩
      obtain ⟨x, hx⟩ : ∃ x, l[i + 1]? = some x := ⟨_, List.getElem?_eq_getElem (by rw [h.len]; omega)⟩
      obtain ⟨y, hy⟩ : ∃ y, m[i + 1]? = some y := ⟨_, List.getElem?_eq_getElem (by rw [k.len]; omega)⟩
      have g1 := h.get _ _ hv
      have g2 := h.get _ _ hx
      have g3 := k.get _ _ hy
      have n1 := h.next _ _ _ hv hx
      have n2 := k.next _ _ _ (by rw [← e]; exact hv) hy
      rw [hx, hy, T.only _ v b x y g1.1 hb g2.1 g3.1 (Nat.le_refl _) n1 n2 (by omega) (by omega)]
  apply List.ext_getElem?
  intro i
  rcases Nat.lt_or_ge (dist par dep a b) i with hi | hi
  · rw [List.getElem?_eq_none (by rw [h.len]; omega), List.getElem?_eq_none (by rw [k.len]; omega)]
  · exact key i hi
theorem Way.last (T : RT n r par dep) {a b : Nat} {l : List Nat} (hb : b < n) (h : Way n r par dep a b l) : l[dist par dep a b]? = some b := by
  obtain ⟨v, hv⟩ : ∃ v, l[dist par dep a b]? = some v := ⟨_, List.getElem?_eq_getElem (by rw [h.len]; omega)⟩
  have g := h.get _ _ hv
  rw [hv, T.dist_zero g.1 hb (by omega)]
/-- From the other end. -/
theorem Way.dist_from (T : RT n r par dep) {a b : Nat} {l : List Nat} (ha : a < n) (hb : b < n) (h : Way n r par dep a b l) : ∀ i v, l[i]? = some v → dist par dep a v = i := by
  have up : ∀ i v, l[i]? = some v → dist par dep a v ≤ i := by
    intro i
    induction i with
    | zero =>
      intro v hv
      rw [h.head] at hv
      injection hv with hv
      subst hv
      rw [dist_self]; omega
    | succ i ih =>
      intro v hv
      have hil : i + 1 < l.length := (List.getElem?_eq_some_iff.1 hv).1
      obtain ⟨x, hx⟩ : ∃ x, l[i]? = some x := ⟨_, List.getElem?_eq_getElem (by omega)⟩
      have e := ih x hx
      have g1 := h.get _ _ hx
      have g2 := h.get _ _ hv
      have s := T.step g2.1 g1.1 ha (h.next _ _ _ hx hv)
      have y1 := T.dist_symm ha g1.1
      have y2 := T.dist_symm ha g2.1
      omega
  intro i v hv
  have h1 := up i v hv
  have g := h.get _ _ hv
  have := T.triangle _ a v b ha g.1 hb (Nat.le_refl _)
  omega
theorem Way.back (T : RT n r par dep) {a b : Nat} {l : List Nat} (ha : a < n) (hb : b < n) (h : Way n r par dep a b l) : Way n r par dep b a l.reverse where
  len := by rw [List.length_reverse, h.len, T.dist_symm ha hb]
  head := by
    rw [List.getElem?_reverse (by rw [h.len]; omega), h.len]
    exact h.last T hb
  get := by
    intro i v hv
    have hil : i < l.length := by
      have := (List.getElem?_eq_some_iff.1 hv).1
      rwa [List.length_reverse] at this
    rw [List.getElem?_reverse hil] at hv
    have g := h.get _ _ hv
    have e := h.dist_from T ha hb _ _ hv
    have hl := h.len
    have y := T.dist_symm ha g.1
    have z := T.dist_symm ha hb
    exact ⟨g.1, by omega⟩
  next := by
    intro i v w hv hw
    have hil : i + 1 < l.length := by
      have := (List.getElem?_eq_some_iff.1 hw).1
      rwa [List.length_reverse] at this
    rw [List.getElem?_reverse (by omega)] at hv
    rw [List.getElem?_reverse hil] at hw
    have := h.next (l.length - 1 - (i + 1)) w v hw (by rw [show l.length - 1 - (i + 1) + 1 = l.length - 1 - i by omega]; exact hv)
    exact near_symm this
theorem Way.nodup {a b : Nat} {l : List Nat} (h : Way n r par dep a b l) : l.Nodup := by
  rw [List.nodup_iff_pairwise_ne, List.pairwise_iff_getElem]
  intro i j hi hj hij e
  have g1 := h.get i _ (List.getElem?_eq_getElem hi)
  have g2 := h.get j _ (List.getElem?_eq_getElem hj)
  rw [e] at g1
  omega
theorem pigeon : ∀ (n : Nat) (l : List Nat), l.Nodup → (∀ x ∈ l, x < n) → l.length ≤ n
  | 0, l, _, h => by
    cases l with
    | nil => simp
    | cons x l => have := h x (by simp); omega
  | n + 1, l, hn, h => by
    by_cases hm : n ∈ l
    · have h1 := List.length_erase_of_mem hm
      have h2 := pigeon n (l.erase n) (hn.erase n) (fun x hx => by
        have h3 := (hn.mem_erase_iff).1 hx
        have := h x h3.2
        have := h3.1
        omega)
      have : 0 < l.length := List.length_pos_of_mem hm
      omega
    · have := pigeon n l hn (fun x hx => by
        have := h x hx
        have : x ≠ n := fun e => hm (e ▸ hx)
        omega)
      omega
theorem RT.dist_lt (T : RT n r par dep) {a b : Nat} (ha : a < n) (hb : b < n) : dist par dep a b < n := by
  obtain ⟨l, hl⟩ := T.way _ a b ha hb (Nat.le_refl _)
  have := pigeon n l hl.nodup (fun x hx => by
    obtain ⟨i, hi⟩ := List.getElem?_of_mem hx
    exact (hl.get i x hi).1)
  rw [hl.len] at this
  omega
end
end Go.Proofs.Ytiaafhcfeeekeaa.Gr

/- Rooted trees: what stands on a way; three ways between three nodes meet in one. -/
namespace Go.Proofs.Ytiaafhcfeeekeaa.Gr
set_option linter.unusedVariables false
section
variable {n r : Nat} {par dep : Nat → Nat}
/-- Two ways, one behind the other, where nothing is lost. -/
theorem Way.join (T : RT n r par dep) {a v b : Nat} {l m : List Nat} (ha : a < n) (hv : v < n) (hb : b < n) (h : Way n r par dep a v l) (k : Way n r par dep v b (v :: m)) (hd : dist par dep a v + dist par dep v b = dist par dep a b) :
    Way n r par dep a b (l ++ m) where
  len := by
    have h1 := h.len
    have h2 := k.len
    rw [List.length_cons] at h2
    rw [List.length_append]; omega
  head := by
    rw [List.getElem?_append_left (by rw [h.len]; omega)]
    exact h.head
  get := by
    intro i x hx
    have h1 := h.len
    rcases Nat.lt_or_ge i l.length with hi | hi
    · rw [List.getElem?_append_left hi] at hx
      have g := h.get _ _ hx
      have e := h.dist_from T ha hv _ _ hx
      have t1 := T.triangle _ x v b g.1 hv hb (Nat.le_refl _)
      have t2 := T.triangle _ a x b ha g.1 hb (Nat.le_refl _)
      exact ⟨g.1, by omega⟩
    · rw [List.getElem?_append_right hi] at hx
      have g := k.get (i - l.length + 1) x (by simpa using hx)
      exact ⟨g.1, by omega⟩
  next := by
    intro i x y hx hy
    have h1 := h.len
    rcases Nat.lt_or_ge (i + 1) l.length with hi | hi
    · rw [List.getElem?_append_left (by omega)] at hx
      rw [List.getElem?_append_left hi] at hy
      exact h.next _ _ _ hx hy
    · rw [List.getElem?_append_right hi] at hy
      rcases Nat.lt_or_ge i l.length with hj | hj
      · rw [List.getElem?_append_left hj] at hx
        have hx' := h.last T hv
        rw [show i = dist par dep a v by omega, hx'] at hx
        injection hx with hx
        subst hx
        exact k.next 0 v y (by simp) (by rw [show i + 1 - l.length = 0 by omega] at hy; simpa using hy)
      · rw [List.getElem?_append_right hj] at hx
        exact k.next (i - l.length + 1) x y (by simpa using hx) (by rw [show i + 1 - l.length = i - l.length + 1 by omega] at hy; simpa using hy)
theorem Way.mem (T : RT n r par dep) {a b : Nat} {l : List Nat} (ha : a < n) (hb : b < n) (h : Way n r par dep a b l) (v : Nat) : v ∈ l ↔ v < n ∧ dist par dep a v + dist par dep v b = dist par dep a b := by
  constructor
  · intro hv
    obtain ⟨i, hi⟩ := List.getElem?_of_mem hv
    have g := h.get _ _ hi
    have e := h.dist_from T ha hb _ _ hi
    exact ⟨g.1, by omega⟩
  · rintro ⟨hv, hd⟩
    obtain ⟨l1, h1⟩ := T.way _ a v ha hv (Nat.le_refl _)
    obtain ⟨l2, h2⟩ := T.way _ v b hv hb (Nat.le_refl _)
    cases l2 with
    | nil => have := h2.len; simp at this
    | cons x m =>
      have hx := h2.head
      simp at hx
      subst hx
      rw [T.way_only hb h (h1.join T ha hv hb h2 hd)]
      have := List.mem_of_getElem? (h1.last T hv)
      simp [this]
/-- Once away from a on the way to c, away all along. -/
theorem RT.away (T : RT n r par dep) : ∀ (f a c v w : Nat), a < n → c < n → v < n → w < n → dist par dep w c ≤ f → near r par w v → dist par dep a w = dist par dep a v + 1 → dist par dep w c + 1 = dist par dep v c →
    dist par dep a c = dist par dep a v + dist par dep v c := by
  intro f
  induction f with
  | zero =>
    intro a c v w ha hc hv hw hf hn h1 h2
    have := T.dist_zero hw hc (by omega)
    subst this
    omega
  | succ f ih =>
    intro a c v w ha hc hv hw hf hn h1 h2
    rcases Nat.decEq w c with hwc | hwc
    · obtain ⟨x, x1, x2, x3⟩ := T.nearer _ w c hw hc hwc (Nat.le_refl _)
      have s := T.step x1 hw ha x2
      have y1 := T.dist_symm ha x1
      have y2 := T.dist_symm ha hw
      have y3 := T.dist_symm ha hv
      rcases Nat.lt_or_ge (dist par dep x a) (dist par dep w a) with hlt | hge
      · have e := T.only _ w a x v hw ha x1 hv (Nat.le_refl _) x2 (near_symm hn) (by omega) (by omega)
        subst e
        omega
      · have := ih a c w x ha hc hw x1 (by omega) x2 (by omega) x3
        omega
    · subst hwc
      rw [dist_self] at h2
      omega
/-- The node of a list that is nearest to c. -/
theorem nearest (g : Nat → Nat) : ∀ (l : List Nat), l ≠ [] → ∃ v ∈ l, ∀ x ∈ l, g v ≤ g x
  | [], h => absurd rfl h
  | x :: l, _ => by
    by_cases hl : l = []
    · subst hl
      exact ⟨x, by simp, by intro y hy; simp at hy; subst hy; exact Nat.le_refl _⟩
    · obtain ⟨v, hv, h⟩ := nearest g l hl
      rcases Nat.le_total (g x) (g v) with h1 | h1
      · refine ⟨x, by simp, ?_⟩
        intro y hy
        rcases List.mem_cons.1 hy with rfl | hy
        · exact Nat.le_refl _
        · exact Nat.le_trans h1 (h y hy)
      · refine ⟨v, by simp [hv], ?_⟩
        intro y hy
        rcases List.mem_cons.1 hy with rfl | hy
        · exact h1
        · exact h y hy
/-- A node on the way from a to b, nearest to c: the ways to c go over it. -/
theorem RT.gate (T : RT n r par dep) {a b c v : Nat} (ha : a < n) (hb : b < n) (hc : c < n) (hv : v < n) (hab : dist par dep a v + dist par dep v b = dist par dep a b)
    (hmin : ∀ x, x < n → dist par dep a x + dist par dep x b = dist par dep a b → dist par dep v c ≤ dist par dep x c) : dist par dep a v + dist par dep v c = dist par dep a c := by
  rcases Nat.decEq v c with hvc | hvc
  · obtain ⟨w, w1, w2, w3⟩ := T.nearer _ v c hv hc hvc (Nat.le_refl _)
    have s := T.step w1 hv ha w2
    have y1 := T.dist_symm ha w1
    have y2 := T.dist_symm ha hv
    rcases Nat.lt_or_ge (dist par dep w a) (dist par dep v a) with hlt | hge
    · exfalso
      have t1 := T.triangle _ a w b ha w1 hb (Nat.le_refl _)
      have t2 := T.step w1 hv hb w2
      have := hmin w w1 (by omega)
      omega
    · exact (T.away _ a c v w ha hc hv w1 (Nat.le_refl _) w2 (by omega) w3).symm
  · subst hvc
    rw [dist_self]; omega
/-- Just one node stands on all three ways. -/
theorem RT.meet (T : RT n r par dep) {a b c : Nat} (ha : a < n) (hb : b < n) (hc : c < n) :
    ∃ v, v < n ∧ (dist par dep a v + dist par dep v b = dist par dep a b ∧ dist par dep b v + dist par dep v c = dist par dep b c ∧ dist par dep c v + dist par dep v a = dist par dep c a) ∧
      ∀ x, x < n → (dist par dep a x + dist par dep x b = dist par dep a b ∧ dist par dep b x + dist par dep x c = dist par dep b c ∧ dist par dep c x + dist par dep x a = dist par dep c a) → x = v := by
  obtain ⟨l, hl⟩ := T.way _ a b ha hb (Nat.le_refl _)
  obtain ⟨v, hv, hmin⟩ := nearest (fun x => dist par dep x c) l (fun e => by have := hl.len; rw [e] at this; simp at this)
  obtain ⟨v1, v2⟩ := (hl.mem T ha hb v).1 hv
  have hm : ∀ x, x < n → dist par dep a x + dist par dep x b = dist par dep a b → dist par dep v c ≤ dist par dep x c := fun x h1 h2 => hmin x ((hl.mem T ha hb x).2 ⟨h1, h2⟩)
  have g1 := T.gate ha hb hc v1 v2 hm
  have sab := T.dist_symm ha hb
  have sav := T.dist_symm ha v1
  have sbv := T.dist_symm hb v1
  have scv := T.dist_symm hc v1
  have sca := T.dist_symm hc ha
  have sbc := T.dist_symm hb hc
  have g2 := T.gate hb ha hc v1 (by omega) (fun x h1 h2 => by
    have s1 := T.dist_symm ha h1
    have s2 := T.dist_symm hb h1
    exact hm x h1 (by omega))
  refine ⟨v, v1, ⟨v2, g2, by omega⟩, ?_⟩
  rintro x x1 ⟨e1, e2, e3⟩
  have s1 := T.dist_symm ha x1
  have s2 := T.dist_symm hb x1
  have s3 := T.dist_symm hc x1
  have hx : x ∈ l := (hl.mem T ha hb x).2 ⟨x1, e1⟩
  obtain ⟨i, hi⟩ := List.getElem?_of_mem hx
  obtain ⟨j, hj⟩ := List.getElem?_of_mem hv
  have d1 := hl.dist_from T ha hb _ _ hi
  have d2 := hl.dist_from T ha hb _ _ hj
  have hij : i = j := by omega
  rw [hij, hj] at hi
  injection hi with hi
  exact hi.symm
end
end Go.Proofs.Ytiaafhcfeeekeaa.Gr

/- Arrows over a rooted tree: quiet ones lead to one node; a find turns them towards its sender. -/
namespace Go.Proofs.Ytiaafhcfeeekeaa.Gr
set_option linter.unusedVariables false
section
variable {n r : Nat} {par dep : Nat → Nat}
/-- Where the next node towards b stands. -/
structure Nx (n r : Nat) (par dep : Nat → Nat) (N : Nat → Nat → Nat) : Prop where
  self : ∀ b, b < n → N b b = b
  lt : ∀ a b, a < n → b < n → N a b < n
  nr : ∀ a b, a < n → b < n → a ≠ b → near r par (N a b) a
  dn : ∀ a b, a < n → b < n → a ≠ b → dist par dep (N a b) b + 1 = dist par dep a b
theorem Nx.only {N : Nat → Nat → Nat} (T : RT n r par dep) (X : Nx n r par dep N) {a b v : Nat} (ha : a < n) (hb : b < n) (hab : a ≠ b) (hv : v < n) (hn : near r par v a) (hd : dist par dep v b + 1 = dist par dep a b) : v = N a b :=
  T.only _ a b v _ ha hb hv (X.lt a b ha hb) (Nat.le_refl _) hn (X.nr a b ha hb hab) hd (X.dn a b ha hb hab)
/-- Arrows that are quiet. -/
structure Qt (n r : Nat) (par : Nat → Nat) (f : Nat → Nat) (s : Nat) : Prop where
  lt : ∀ v, v < n → f v < n
  lg : ∀ v, v < n → f v = v ∨ near r par (f v) v
  hs : s < n
  sink : f s = s
  one : ∀ v, v < n → f v = v → v = s
  edge : ∀ u v, u < n → v < n → near r par u v → (f u = v ↔ ¬ f v = u)
/-- The arrows towards one node are quiet. -/
theorem Nx.quiet {N : Nat → Nat → Nat} (T : RT n r par dep) (X : Nx n r par dep N) {s : Nat} (hs : s < n) : Qt n r par (fun v => N v s) s where
  lt := fun v hv => X.lt v s hv hs
  lg := fun v hv => by
    by_cases e : v = s
    · left; rw [e]; exact X.self s hs
    · right; exact X.nr v s hv hs e
  hs := hs
  sink := X.self s hs
  one := fun v hv h => by
    by_cases e : v = s
    · exact e
    · have h1 := X.dn v s hv hs e
      have h2 : N v s = v := h
      rw [h2] at h1
      omega
  edge := fun u v hu hv hn => by
    have huv : ∀ x y, x < n → y < n → near r par x y → dist par dep x s = dist par dep y s + 1 → N x s = y ∧ ¬ N y s = x := by
      intro x y hx hy hxy h
      have hxs : x ≠ s := fun e => by rw [e, dist_self] at h; omega
      refine ⟨(X.only T hx hs hxs hy (near_symm hxy) h.symm).symm, fun e => ?_⟩
      by_cases ey : y = s
      · rw [ey, X.self s hs] at e; exact hxs e.symm
      · have h1 := X.dn y s hy hs ey
        rw [e] at h1
        omega
    show (N u s = v ↔ ¬ N v s = u)
    rcases T.step hu hv hs hn with h | h
    · obtain ⟨h1, h2⟩ := huv u v hu hv hn h
      exact ⟨fun _ => h2, fun _ => h1⟩
    · obtain ⟨h1, h2⟩ := huv v u hv hu (near_symm hn) h
      exact ⟨fun h3 => absurd h3 h2, fun h3 => absurd h1 h3⟩
/-- Off the way between a and b both lie in one direction. -/
theorem Nx.off {N : Nat → Nat → Nat} (T : RT n r par dep) (X : Nx n r par dep N) {a b v : Nat} (ha : a < n) (hb : b < n) (hv : v < n) (h : ¬ dist par dep a v + dist par dep v b = dist par dep a b) : N v a = N v b := by
  obtain ⟨m, hm, ⟨h1, h2, h3⟩, -⟩ := T.meet ha hb hv
  have hvm : v ≠ m := fun e => h (by rw [e]; exact h1)
  have sv : ∀ x, x < n → dist par dep v x = dist par dep x v := fun x hx => T.dist_symm hv hx
  have hx := X.lt v m hv hm
  have hn := X.nr v m hv hm hvm
  have hd := X.dn v m hv hm hvm
  have tr : ∀ x, x < n → dist par dep (N v m) x ≤ dist par dep (N v m) m + dist par dep m x := fun x hx' => T.triangle _ (N v m) m x hx hm hx' (Nat.le_refl _)
  have toA : dist par dep v a = dist par dep v m + dist par dep m a := by omega
  have toB : dist par dep v b = dist par dep v m + dist par dep m b := by
    have := sv b hb
    have := T.dist_symm hm hb
    have := T.dist_symm hm hv
    omega
  have hva : v ≠ a := fun e => by
    rw [e] at toA; rw [dist_self] at toA
    have h0 : dist par dep a m = 0 := by omega
    exact hvm (by rw [e]; exact T.dist_zero ha hm h0)
  have hvb : v ≠ b := fun e => by
    rw [e] at toB; rw [dist_self] at toB
    have h0 : dist par dep b m = 0 := by omega
    exact hvm (by rw [e]; exact T.dist_zero hb hm h0)
  have stepA := T.step hx hv ha hn
  have stepB := T.step hx hv hb hn
  have trA := tr a ha
  have trB := tr b hb
  exact (X.only T hv ha hva hx hn (by omega)).symm.trans (X.only T hv hb hvb hx hn (by omega))
/-- On the way between them they lie in two. -/
theorem Nx.on {N : Nat → Nat → Nat} (T : RT n r par dep) (X : Nx n r par dep N) {a b v : Nat} (ha : a < n) (hb : b < n) (hab : a ≠ b) (hv : v < n) (h : dist par dep a v + dist par dep v b = dist par dep a b) : N v a ≠ N v b := by
  intro e
  have hx := X.lt v a hv ha
  have tr := T.triangle _ a (N v a) b ha hx hb (Nat.le_refl _)
  have s1 := T.dist_symm ha hx
  have s2 := T.dist_symm ha hv
  by_cases e1 : v = a
  · rw [e1, X.self a ha] at e
    have h1 := X.dn a b ha hb hab
    rw [← e] at h1
    omega
  by_cases e2 : v = b
  · rw [e2, X.self b hb] at e
    have h1 := X.dn b a hb ha (Ne.symm hab)
    rw [e] at h1
    omega
  have h1 := X.dn v a hv ha e1
  have h2 := X.dn v b hv hb e2
  rw [← e] at h2
  omega
/-- A find's step: where it goes on, and that what it leaves behind is as it is towards the sender. -/
theorem Nx.hop {N : Nat → Nat → Nat} (T : RT n r par dep) (X : Nx n r par dep N) {a b v : Nat} (ha : a < n) (hb : b < n) (hv : v < n) (h : dist par dep a v + dist par dep v b = dist par dep a b) (hvb : v ≠ b) :
    N v b < n ∧ dist par dep a (N v b) = dist par dep a v + 1 ∧ dist par dep a (N v b) + dist par dep (N v b) b = dist par dep a b ∧ N (N v b) a = v := by
  have hx := X.lt v b hv hb
  have hn := X.nr v b hv hb hvb
  have hd := X.dn v b hv hb hvb
  have tr := T.triangle _ a (N v b) b ha hx hb (Nat.le_refl _)
  have s1 := T.dist_symm ha hx
  have s2 := T.dist_symm ha hv
  have st := T.step hx hv ha hn
  have h1 : dist par dep (N v b) a = dist par dep v a + 1 := by omega
  have hxa : N v b ≠ a := fun e => by rw [e, dist_self] at h1; omega
  exact ⟨hx, by omega, by omega, (X.only T hx ha hxa hv (near_symm hn) h1.symm).symm⟩
end
end Go.Proofs.Ytiaafhcfeeekeaa.Gr

/- A list of parents that makes a tree. -/
namespace Go.Proofs.Ytiaafhcfeeekeaa.Gr
set_option linter.unusedVariables false

/-- A node's parent; -1: none. -/
def pa (ps : List Int) (v : Nat) : Int := ps.getD v (-1)
/-- Where k steps from parent to parent lead. -/
def climb (ps : List Int) : Nat → Int → Int
  | 0, x => x
  | k + 1, x => if x = -1 then -1 else climb ps k (pa ps x.toNat)
/-- What a tree's list must be. -/
structure Good (ps : List Int) : Prop where
  pos : 0 < ps.length
  few : ps.length ≤ 32
  rng : ∀ v, v < ps.length → -1 ≤ pa ps v ∧ pa ps v < (ps.length : Int) ∧ pa ps v ≠ (v : Int)
  one : ∀ u v, u < ps.length → v < ps.length → pa ps u = -1 → pa ps v = -1 → u = v
  all : ∀ v, v < ps.length → climb ps ps.length (v : Int) = -1
def depF (ps : List Int) : Nat → Nat → Nat
  | 0, _ => 0
  | k + 1, v => if pa ps v = -1 then 0 else 1 + depF ps k (pa ps v).toNat
def par (ps : List Int) (v : Nat) : Nat := (pa ps v).toNat
def dep (ps : List Int) (v : Nat) : Nat := depF ps ps.length v
/-- The root's place. -/
def rootF (ps : List Int) : Nat → Nat → Nat
  | 0, v => v
  | k + 1, v => if pa ps v = -1 then v else rootF ps k (pa ps v).toNat
def root (ps : List Int) : Nat := rootF ps ps.length 0

theorem climb_neg (ps : List Int) : ∀ k, climb ps k (-1) = -1
  | 0 => rfl
  | k + 1 => rfl
theorem climb_succ (ps : List Int) (k v : Nat) : climb ps (k + 1) (v : Int) = climb ps k (pa ps v) := by
  unfold climb
  rw [if_neg (by omega), Int.toNat_natCast]
  cases k <;> rfl
theorem nat_of {ps : List Int} {x : Int} (h1 : -1 ≤ x) (h2 : x ≠ -1) : ((x.toNat : Nat) : Int) = x := by omega
section
variable {ps : List Int}
theorem depF_more (h : ∀ v, v < ps.length → -1 ≤ pa ps v ∧ pa ps v < (ps.length : Int)) : ∀ (k f v : Nat), v < ps.length → climb ps k (v : Int) = -1 → k ≤ f → depF ps f v = depF ps k v := by
  intro k
  induction k with
  | zero => intro f v hv hc; simp only [climb] at hc; omega
  | succ k ih =>
    intro f v hv hc hf
    cases f with
    | zero => omega
    | succ f =>
      rw [climb_succ] at hc
      unfold depF
      by_cases hp : pa ps v = -1
      · rw [if_pos hp, if_pos hp]
      · rw [if_neg hp, if_neg hp]
        have hr := h v hv
        have e := nat_of (ps := ps) hr.1 hp
        rw [ih f (pa ps v).toNat (by omega) (by rw [e]; exact hc) (by omega)]
theorem rootF_root (h : ∀ v, v < ps.length → -1 ≤ pa ps v ∧ pa ps v < (ps.length : Int)) : ∀ (k v : Nat), v < ps.length → climb ps k (v : Int) = -1 → rootF ps k v < ps.length ∧ pa ps (rootF ps k v) = -1 := by
  intro k
  induction k with
  | zero => intro v hv hc; simp only [climb] at hc; omega
  | succ k ih =>
    intro v hv hc
    rw [climb_succ] at hc
    unfold rootF
    by_cases hp : pa ps v = -1
    · rw [if_pos hp]; exact ⟨hv, hp⟩
    · rw [if_neg hp]
      have hr := h v hv
      have e := nat_of (ps := ps) hr.1 hp
      exact ih (pa ps v).toNat (by omega) (by rw [e]; exact hc)
theorem Good.root_ok (G : Good ps) : root ps < ps.length ∧ pa ps (root ps) = -1 := rootF_root (fun v hv => ⟨(G.rng v hv).1, (G.rng v hv).2.1⟩) _ 0 G.pos (G.all 0 G.pos)
theorem Good.root_iff (G : Good ps) {v : Nat} (hv : v < ps.length) : pa ps v = -1 ↔ v = root ps :=
  ⟨fun h => G.one v _ hv G.root_ok.1 h G.root_ok.2, fun h => by rw [h]; exact G.root_ok.2⟩
theorem Good.rt (G : Good ps) : RT ps.length (root ps) (par ps) (dep ps) where
  hr := G.root_ok.1
  d0 := by
    unfold dep
    cases hn : ps.length with
    | zero => rfl
    | succ m => unfold depF; rw [if_pos G.root_ok.2]
  up := by
    intro v hv hne
    have hp : pa ps v ≠ -1 := fun e => hne ((G.root_iff hv).1 e)
    have hr := G.rng v hv
    have e := nat_of (ps := ps) hr.1 hp
    have hlt : par ps v < ps.length := by unfold par; omega
    refine ⟨hlt, ?_⟩
    obtain ⟨m, hm⟩ : ∃ m, ps.length = m + 1 := ⟨ps.length - 1, by omega⟩
    have hc := G.all v hv
    rw [hm, climb_succ] at hc
    have h1 : dep ps v = 1 + depF ps m (par ps v) := by
      unfold dep
      rw [hm]
      show (if pa ps v = -1 then 0 else 1 + depF ps m (pa ps v).toNat) = _
      rw [if_neg hp]; rfl
    have h2 : dep ps (par ps v) = depF ps m (par ps v) := depF_more (fun v hv => ⟨(G.rng v hv).1, (G.rng v hv).2.1⟩) m ps.length (par ps v) hlt (by unfold par; rw [e]; exact hc) (by omega)
    omega
/-- The document's neighbours, by the list. -/
def nearL (ps : List Int) (a b : Nat) : Bool := pa ps a == (b : Int) || pa ps b == (a : Int)
theorem Good.near_iff (G : Good ps) {a b : Nat} (ha : a < ps.length) (hb : b < ps.length) : nearL ps a b = true ↔ near (root ps) (par ps) a b := by
  have key : ∀ (x y : Nat), x < ps.length → (pa ps x = (y : Int) ↔ x ≠ root ps ∧ par ps x = y) := by
    intro x y hx
    have hr := G.rng x hx
    constructor
    · intro h
      refine ⟨fun e => ?_, by unfold par; omega⟩
      have := (G.root_iff hx).2 e
      omega
    · rintro ⟨h1, h2⟩
      have hp : pa ps x ≠ -1 := fun e => h1 ((G.root_iff hx).1 e)
      unfold par at h2
      omega
  unfold nearL near
  rw [Bool.or_eq_true, beq_iff_eq, beq_iff_eq, key a b ha, key b a hb]
/-- A list of good numbers in which a node climbs for ever is none of a tree. -/
theorem climb_more : ∀ (k j : Nat) (x : Int), climb ps k x = -1 → k ≤ j → climb ps j x = -1 := by
  intro k
  induction k with
  | zero => intro j x h _; simp [climb] at h; rw [h]; exact climb_neg ps j
  | succ k ih =>
    intro j x h hj
    cases j with
    | zero => omega
    | succ j =>
      unfold climb at h ⊢
      by_cases hx : x = -1
      · rw [if_pos hx]
      · rw [if_neg hx] at h ⊢
        exact ih j _ h (by omega)
end
end Go.Proofs.Ytiaafhcfeeekeaa.Gr
