/- Rooted trees: distances over neighbours, the one neighbour that is nearer. -/
import Derived.Below
namespace Go.Proofs.Ytcicpgiljceioaa.Gr
set_option linter.unusedVariables false

/-- n nodes below a root r: each other one stands one deeper than its parent. -/
structure RT (n r : Nat) (par dep : Nat → Nat) : Prop where
  hr : r < n
  d0 : dep r = 0
  up : ∀ v, v < n → v ≠ r → par v < n ∧ dep v = dep (par v) + 1
def near (r : Nat) (par : Nat → Nat) (a b : Nat) : Prop := (a ≠ r ∧ par a = b) ∨ (b ≠ r ∧ par b = a)
theorem near_symm {r : Nat} {par : Nat → Nat} {a b : Nat} (h : near r par a b) : near r par b a := h.symm

def distF (par dep : Nat → Nat) : Nat → Nat → Nat → Nat
  | 0, _, _ => 0
  | f + 1, a, b => if a = b then 0 else if dep b ≤ dep a then 1 + distF par dep f (par a) b else 1 + distF par dep f a (par b)
theorem distF_succ (par dep : Nat → Nat) (f a b : Nat) : distF par dep (f + 1) a b = if a = b then 0 else if dep b ≤ dep a then 1 + distF par dep f (par a) b else 1 + distF par dep f a (par b) := rfl
/-- How many edges lie between. -/
def dist (par dep : Nat → Nat) (a b : Nat) : Nat := distF par dep (dep a + dep b + 1) a b

section
variable {n r : Nat} {par dep : Nat → Nat}
theorem RT.root (T : RT n r par dep) {v : Nat} (hv : v < n) (h : dep v = 0) : v = r := by
  rcases Nat.decEq v r with hne | he
  · have := (T.up v hv hne).2; omega
  · exact he
theorem distF_more (T : RT n r par dep) : ∀ (f g a b : Nat), a < n → b < n → dep a + dep b < f → dep a + dep b < g → distF par dep f a b = distF par dep g a b := by
  intro f
  induction f with
  | zero => intro g a b _ _ h; omega
  | succ f ih =>
    intro g a b ha hb hf hg
    cases g with
    | zero => omega
    | succ g =>
      unfold distF
      by_cases hab : a = b
      · rw [if_pos hab, if_pos hab]
      · rw [if_neg hab, if_neg hab]
        by_cases hd : dep b ≤ dep a
        · rw [if_pos hd, if_pos hd]
          have har : a ≠ r := fun e => by
            subst e
            have := T.d0
            exact hab (T.root hb (by omega)).symm
          obtain ⟨h1, h2⟩ := T.up a ha har
          rw [ih g (par a) b h1 hb (by omega) (by omega)]
        · rw [if_neg hd, if_neg hd]
          have hbr : b ≠ r := fun e => by
            subst e
            have := T.d0
            omega
          obtain ⟨h1, h2⟩ := T.up b hb hbr
          rw [ih g a (par b) ha h1 (by omega) (by omega)]
theorem dist_self (a : Nat) : dist par dep a a = 0 := by unfold dist distF; rw [if_pos rfl]
theorem RT.e1 (T : RT n r par dep) {a b : Nat} (ha : a < n) (hb : b < n) (hab : a ≠ b) (hd : dep b ≤ dep a) : a ≠ r ∧ dist par dep a b = 1 + dist par dep (par a) b := by
  have har : a ≠ r := fun e => by
    subst e
    have := T.d0
    exact hab (T.root hb (by omega)).symm
  obtain ⟨h1, h2⟩ := T.up a ha har
  refine ⟨har, ?_⟩
  have e : dist par dep a b = 1 + distF par dep (dep a + dep b) (par a) b := by
    unfold dist
    rw [distF_succ, if_neg hab, if_pos hd]
  rw [e]
  unfold dist
  rw [distF_more T (dep a + dep b) (dep (par a) + dep b + 1) (par a) b h1 hb (by omega) (by omega)]
theorem RT.e2' (T : RT n r par dep) {a b : Nat} (ha : a < n) (hb : b < n) (hd : dep a < dep b) : b ≠ r ∧ dist par dep a b = 1 + dist par dep a (par b) := by
  have hbr : b ≠ r := fun e => by
    subst e
    have := T.d0
    omega
  have hab : a ≠ b := fun e => by subst e; omega
  obtain ⟨h1, h2⟩ := T.up b hb hbr
  refine ⟨hbr, ?_⟩
  have e : dist par dep a b = 1 + distF par dep (dep a + dep b) a (par b) := by
    unfold dist
    rw [distF_succ, if_neg hab, if_neg (by omega)]
  rw [e]
  unfold dist
  rw [distF_more T (dep a + dep b) (dep a + dep (par b) + 1) a (par b) ha h1 (by omega) (by omega)]
theorem RT.e2 (T : RT n r par dep) {a b : Nat} (ha : a < n) (hb : b < n) (hab : a ≠ b) (hd : dep a ≤ dep b) : b ≠ r ∧ dist par dep a b = 1 + dist par dep a (par b) := by
  rcases Nat.lt_or_ge (dep a) (dep b) with h | h
  · exact T.e2' ha hb h
  · have he : dep a = dep b := by omega
    obtain ⟨har, e1⟩ := T.e1 ha hb hab h
    obtain ⟨p1, p2⟩ := T.up a ha har
    have hbr : b ≠ r := fun e => by
      subst e
      have := T.d0
      exact hab (T.root ha (by omega))
    obtain ⟨q1, q2⟩ := T.up b hb hbr
    refine ⟨hbr, ?_⟩
    have e3 := (T.e2' p1 hb (by omega)).2
    have e4 := (T.e1 ha q1 (fun e => by subst e; omega) (by omega)).2
    rw [e1, e3, e4]
theorem RT.dist_zero (T : RT n r par dep) {a b : Nat} (ha : a < n) (hb : b < n) (h : dist par dep a b = 0) : a = b := by
  rcases Nat.decEq a b with hab | hab
  · rcases Nat.le_total (dep b) (dep a) with hd | hd
    · have := (T.e1 ha hb hab hd).2; omega
    · have := (T.e2 ha hb hab hd).2; omega
  · exact hab
theorem RT.symm (T : RT n r par dep) : ∀ (f a b : Nat), a < n → b < n → dep a + dep b ≤ f → dist par dep a b = dist par dep b a := by
  intro f
  induction f with
  | zero =>
    intro a b ha hb h
    have h1 := T.root ha (by omega)
    have h2 := T.root hb (by omega)
    rw [h1, h2]
  | succ f ih =>
    intro a b ha hb h
    rcases Nat.decEq a b with hab | hab
    · rcases Nat.le_total (dep b) (dep a) with hd | hd
      · obtain ⟨har, e1⟩ := T.e1 ha hb hab hd
        obtain ⟨p1, p2⟩ := T.up a ha har
        rw [e1, (T.e2 hb ha (Ne.symm hab) hd).2, ih (par a) b p1 hb (by omega)]
      · obtain ⟨hbr, e1⟩ := T.e2 ha hb hab hd
        obtain ⟨p1, p2⟩ := T.up b hb hbr
        rw [e1, (T.e1 hb ha (Ne.symm hab) hd).2, ih a (par b) ha p1 (by omega)]
    · rw [hab]
theorem RT.dist_symm (T : RT n r par dep) {a b : Nat} (ha : a < n) (hb : b < n) : dist par dep a b = dist par dep b a := T.symm _ a b ha hb (Nat.le_refl _)
/-- Over an edge the distance turns by one. -/
theorem RT.step' (T : RT n r par dep) : ∀ (f u t : Nat), u < n → t < n → u ≠ r → dep t ≤ f →
    dist par dep u t = dist par dep (par u) t + 1 ∨ dist par dep (par u) t = dist par dep u t + 1 := by
  intro f
  induction f with
  | zero =>
    intro u t hu ht hur h
    obtain ⟨p1, p2⟩ := T.up u hu hur
    have hut : u ≠ t := fun e => by subst e; omega
    have := (T.e1 hu ht hut (by omega)).2
    exact .inl (by omega)
  | succ f ih =>
    intro u t hu ht hur h
    obtain ⟨p1, p2⟩ := T.up u hu hur
    rcases Nat.decEq u t with hut | hut
    · rcases Nat.lt_or_ge (dep u) (dep t) with hd | hd
      · obtain ⟨htr, e1⟩ := T.e2' hu ht hd
        have e2 := (T.e2' p1 ht (by omega)).2
        obtain ⟨q1, q2⟩ := T.up t ht htr
        have := ih u (par t) hu q1 hur (by omega)
        omega
      · have := (T.e1 hu ht hut hd).2
        exact .inl (by omega)
    · subst hut
      have e1 := (T.e2' p1 hu (by omega)).2
      rw [dist_self, e1, dist_self]
      exact .inr rfl
theorem RT.step (T : RT n r par dep) {u v t : Nat} (hu : u < n) (hv : v < n) (ht : t < n) (h : near r par u v) : dist par dep u t = dist par dep v t + 1 ∨ dist par dep v t = dist par dep u t + 1 := by
  rcases h with ⟨h1, h2⟩ | ⟨h1, h2⟩
  · subst h2; exact T.step' _ u t hu ht h1 (Nat.le_refl _)
  · subst h2; exact (T.step' _ v t hv ht h1 (Nat.le_refl _)).symm
/-- One neighbour is nearer. -/
theorem RT.nearer (T : RT n r par dep) : ∀ (f a t : Nat), a < n → t < n → a ≠ t → dep t ≤ f → ∃ v, v < n ∧ near r par v a ∧ dist par dep v t + 1 = dist par dep a t := by
  intro f
  induction f with
  | zero =>
    intro a t ha ht hat h
    obtain ⟨har, e⟩ := T.e1 ha ht hat (by omega)
    exact ⟨par a, (T.up a ha har).1, .inr ⟨har, rfl⟩, by omega⟩
  | succ f ih =>
    intro a t ha ht hat h
    rcases Nat.lt_or_ge (dep a) (dep t) with hd | hd
    · obtain ⟨htr, e1⟩ := T.e2' ha ht hd
      obtain ⟨q1, q2⟩ := T.up t ht htr
      rcases Nat.decEq a (par t) with hap | hap
      · obtain ⟨v, v1, v2, v3⟩ := ih a (par t) ha q1 hap (by omega)
        refine ⟨v, v1, v2, ?_⟩
        have hvd : dep v ≤ dep a + 1 := by
          rcases v2 with ⟨w1, w2⟩ | ⟨w1, w2⟩
          · have := (T.up v v1 w1).2; rw [w2] at this; omega
          · have := (T.up a ha w1).2; rw [w2] at this; omega
        have hvt : v ≠ t := fun e => by
          subst e
          rcases v2 with ⟨w1, w2⟩ | ⟨w1, w2⟩
          · exact hap w2.symm
          · have := (T.up a ha w1).2; rw [w2] at this; omega
        have := (T.e2 v1 ht hvt (by omega)).2
        omega
      · refine ⟨t, ht, .inl ⟨htr, hap.symm⟩, ?_⟩
        rw [e1, hap, dist_self, dist_self]
    · obtain ⟨har, e⟩ := T.e1 ha ht hat hd
      exact ⟨par a, (T.up a ha har).1, .inr ⟨har, rfl⟩, by omega⟩
/-- And it is the only one. -/
theorem RT.only (T : RT n r par dep) : ∀ (f a t v w : Nat), a < n → t < n → v < n → w < n → dep t ≤ f → near r par v a → near r par w a →
    dist par dep v t + 1 = dist par dep a t → dist par dep w t + 1 = dist par dep a t → v = w := by
  intro f
  induction f with
  | zero =>
    intro a t v w ha ht hv hw h nv nw dv dw
    have up : ∀ x, x < n → near r par x a → dist par dep x t + 1 = dist par dep a t → a ≠ r ∧ x = par a := by
      intro x hx nx dx
      rcases nx with ⟨w1, w2⟩ | ⟨w1, w2⟩
      · have h1 := (T.up x hx w1).2
        rw [w2] at h1
        have hxt : x ≠ t := fun e => by subst e; omega
        have := (T.e1 hx ht hxt (by omega)).2
        rw [w2] at this; omega
      · exact ⟨w1, w2.symm⟩
    rw [(up v hv nv dv).2, (up w hw nw dw).2]
  | succ f ih =>
    intro a t v w ha ht hv hw h nv nw dv dw
    have depn : ∀ x, x < n → near r par x a → dep x ≤ dep a + 1 := by
      intro x hx nx
      rcases nx with ⟨w1, w2⟩ | ⟨w1, w2⟩
      · have := (T.up x hx w1).2; rw [w2] at this; omega
      · have := (T.up a ha w1).2; rw [w2] at this; omega
    rcases Nat.lt_or_ge (dep a) (dep t) with hd | hd
    · obtain ⟨htr, e1⟩ := T.e2' ha ht hd
      obtain ⟨q1, q2⟩ := T.up t ht htr
      have ex : ∀ x, x < n → near r par x a → x ≠ t → dist par dep x t = 1 + dist par dep x (par t) := fun x hx nx hxt => (T.e2 hx ht hxt (by have := depn x hx nx; omega)).2
      rcases Nat.decEq a (par t) with hap | hap
      · have nt : ∀ x, near r par x a → x ≠ t := fun x nx e => by
          subst e
          rcases nx with ⟨w1, w2⟩ | ⟨w1, w2⟩
          · exact hap w2.symm
          · have := (T.up a ha w1).2; rw [w2] at this; omega
        have e2 := ex v hv nv (nt v nv)
        have e3 := ex w hw nw (nt w nw)
        exact ih a (par t) v w ha q1 hv hw (by omega) nv nw (by omega) (by omega)
      · have : dist par dep a t = 1 := by rw [e1, hap, dist_self]
        rw [T.dist_zero hv ht (by omega), T.dist_zero hw ht (by omega)]
    · have up : ∀ x, x < n → near r par x a → dist par dep x t + 1 = dist par dep a t → x = par a := by
        intro x hx nx dx
        rcases nx with ⟨w1, w2⟩ | ⟨w1, w2⟩
        · have h1 := (T.up x hx w1).2
          rw [w2] at h1
          have hxt : x ≠ t := fun e => by subst e; omega
          have := (T.e1 hx ht hxt (by omega)).2
          rw [w2] at this; omega
        · exact w2.symm
      rw [up v hv nv dv, up w hw nw dw]
end
end Go.Proofs.Ytcicpgiljceioaa.Gr

/- Rooted trees: the way from one node to another. -/
namespace Go.Proofs.Ytcicpgiljceioaa.Gr
set_option linter.unusedVariables false
section
variable {n r : Nat} {par dep : Nat → Nat}
theorem near_lt (T : RT n r par dep) {a v : Nat} (ha : a < n) (hv : v < n) (h : near r par v a) : True := trivial
theorem RT.triangle (T : RT n r par dep) : ∀ (f a c b : Nat), a < n → c < n → b < n → dist par dep c b ≤ f → dist par dep a b ≤ dist par dep a c + dist par dep c b := by
  intro f
  induction f with
  | zero =>
    intro a c b ha hc hb h
    have := T.dist_zero hc hb (by omega)
    subst this
    omega
  | succ f ih =>
    intro a c b ha hc hb h
    rcases Nat.decEq c b with hcb | hcb
    · obtain ⟨v, h1, h2, h3⟩ := T.nearer _ c b hc hb hcb (Nat.le_refl _)
      have e := ih a v b ha h1 hb (by omega)
      have s := T.step h1 hc ha h2
      have y1 := T.dist_symm ha h1
      have y2 := T.dist_symm ha hc
      omega
    · subst hcb
      omega

/-- l goes from a to b, each next one nearer by one. -/
structure Way (n r : Nat) (par dep : Nat → Nat) (a b : Nat) (l : List Nat) : Prop where
  len : l.length = dist par dep a b + 1
  head : l[0]? = some a
  get : ∀ i v, l[i]? = some v → v < n ∧ dist par dep v b + i = dist par dep a b
  next : ∀ i v w, l[i]? = some v → l[i + 1]? = some w → near r par w v
theorem way_self (b : Nat) (hb : b < n) : Way n r par dep b b [b] where
  len := by rw [dist_self]; rfl
  head := rfl
  get := by
    intro i v h
    cases i with
    | zero => simp at h; subst h; exact ⟨hb, by omega⟩
    | succ i => simp at h
  next := by
    intro i v w h1 h2
    simp at h2
theorem Way.cons {a v b : Nat} {l : List Nat} (h : Way n r par dep v b l) (ha : a < n) (hn : near r par v a) (hd : dist par dep v b + 1 = dist par dep a b) : Way n r par dep a b (a :: l) where
  len := by rw [List.length_cons, h.len]; omega
  head := rfl
  get := by
    intro i x hx
    cases i with
    | zero => simp at hx; subst hx; exact ⟨ha, by omega⟩
    | succ i =>
      have := h.get i x (by simpa using hx)
      exact ⟨this.1, by omega⟩
  next := by
    intro i x y h1 h2
    cases i with
    | zero =>
      simp at h1
      have h3 := h.head
      simp at h2
      rw [h3] at h2
      injection h2 with h2
      subst h1; subst h2
      exact hn
    | succ i => exact h.next i x y (by simpa using h1) (by simpa using h2)
theorem RT.way (T : RT n r par dep) : ∀ (f a b : Nat), a < n → b < n → dist par dep a b ≤ f → ∃ l, Way n r par dep a b l := by
  intro f
  induction f with
  | zero =>
    intro a b ha hb h
    have := T.dist_zero ha hb (by omega)
    subst this
    exact ⟨[a], way_self a ha⟩
  | succ f ih =>
    intro a b ha hb h
    rcases Nat.decEq a b with hab | hab
    · obtain ⟨v, h1, h2, h3⟩ := T.nearer _ a b ha hb hab (Nat.le_refl _)
      obtain ⟨l, hl⟩ := ih v b h1 hb (by omega)
      exact ⟨a :: l, hl.cons ha h2 h3⟩
    · subst hab
      exact ⟨[a], way_self a ha⟩
theorem RT.way_only (T : RT n r par dep) {a b : Nat} {l m : List Nat} (hb : b < n) (h : Way n r par dep a b l) (k : Way n r par dep a b m) : l = m := by
  have key : ∀ i, i ≤ dist par dep a b → l[i]? = m[i]? := by
    intro i
    induction i with
    | zero => intro _; rw [h.head, k.head]
    | succ i ih =>
      intro hi
      have e := ih (by omega)
      obtain ⟨v, hv⟩ : ∃ v, l[i]? = some v := ⟨_, List.getElem?_eq_getElem (by rw [h.len]; omega)⟩
      obtain ⟨x, hx⟩ : ∃ x, l[i + 1]? = some x := ⟨_, List.getElem?_eq_getElem (by rw [h.len]; omega)⟩
      obtain ⟨y, hy⟩ : ∃ y, m[i + 1]? = some y := ⟨_, List.getElem?_eq_getElem (by rw [k.len]; omega)⟩
      have g1 := h.get _ _ hv
      have g2 := h.get _ _ hx
      have g3 := k.get _ _ hy
      have n1 := h.next _ _ _ hv hx
      have n2 := k.next _ _ _ (by rw [← e]; exact hv) hy
      rw [hx, hy, T.only _ v b x y g1.1 hb g2.1 g3.1 (Nat.le_refl _) n1 n2 (by omega) (by omega)]
  apply List.ext_getElem?
  intro i
  rcases Nat.lt_or_ge (dist par dep a b) i with hi | hi
  · rw [List.getElem?_eq_none (by rw [h.len]; omega), List.getElem?_eq_none (by rw [k.len]; omega)]
  · exact key i hi
theorem Way.last (T : RT n r par dep) {a b : Nat} {l : List Nat} (hb : b < n) (h : Way n r par dep a b l) : l[dist par dep a b]? = some b := by
  obtain ⟨v, hv⟩ : ∃ v, l[dist par dep a b]? = some v := ⟨_, List.getElem?_eq_getElem (by rw [h.len]; omega)⟩
  have g := h.get _ _ hv
  rw [hv, T.dist_zero g.1 hb (by omega)]
/-- From the other end. -/
theorem Way.dist_from (T : RT n r par dep) {a b : Nat} {l : List Nat} (ha : a < n) (hb : b < n) (h : Way n r par dep a b l) : ∀ i v, l[i]? = some v → dist par dep a v = i := by
  have up : ∀ i v, l[i]? = some v → dist par dep a v ≤ i := by
    intro i
    induction i with
    | zero =>
      intro v hv
      rw [h.head] at hv
      injection hv with hv
      subst hv
      rw [dist_self]; omega
    | succ i ih =>
      intro v hv
      have hil : i + 1 < l.length := (List.getElem?_eq_some_iff.1 hv).1
      obtain ⟨x, hx⟩ : ∃ x, l[i]? = some x := ⟨_, List.getElem?_eq_getElem (by omega)⟩
      have e := ih x hx
      have g1 := h.get _ _ hx
      have g2 := h.get _ _ hv
      have s := T.step g2.1 g1.1 ha (h.next _ _ _ hx hv)
      have y1 := T.dist_symm ha g1.1
      have y2 := T.dist_symm ha g2.1
      omega
  intro i v hv
  have h1 := up i v hv
  have g := h.get _ _ hv
  have := T.triangle _ a v b ha g.1 hb (Nat.le_refl _)
  omega
theorem Way.back (T : RT n r par dep) {a b : Nat} {l : List Nat} (ha : a < n) (hb : b < n) (h : Way n r par dep a b l) : Way n r par dep b a l.reverse where
  len := by rw [List.length_reverse, h.len, T.dist_symm ha hb]
  head := by
    rw [List.getElem?_reverse (by rw [h.len]; omega), h.len]
    exact h.last T hb
  get := by
    intro i v hv
    have hil : i < l.length := by
      have := (List.getElem?_eq_some_iff.1 hv).1
      rwa [List.length_reverse] at this
    rw [List.getElem?_reverse hil] at hv
    have g := h.get _ _ hv
    have e := h.dist_from T ha hb _ _ hv
    have hl := h.len
    have y := T.dist_symm ha g.1
    have z := T.dist_symm ha hb
    exact ⟨g.1, by omega⟩
  next := by
    intro i v w hv hw
    have hil : i + 1 < l.length := by
      have := (List.getElem?_eq_some_iff.1 hw).1
      rwa [List.length_reverse] at this
    rw [List.getElem?_reverse (by omega)] at hv
    rw [List.getElem?_reverse hil] at hw
    have := h.next (l.length - 1 - (i + 1)) w v hw (by rw [show l.length - 1 - (i + 1) + 1 = l.length - 1 - i by omega]; exact hv)
    exact near_symm this
theorem Way.nodup {a b : Nat} {l : List Nat} (h : Way n r par dep a b l) : l.Nodup := by
  rw [List.nodup_iff_pairwise_ne, List.pairwise_iff_getElem]
  intro i j hi hj hij e
  have g1 := h.get i _ (List.getElem?_eq_getElem hi)
  have g2 := h.get j _ (List.getElem?_eq_getElem hj)
  rw [e] at g1
  omega
theorem pigeon : ∀ (n : Nat) (l : List Nat), l.Nodup → (∀ x ∈ l, x < n) → l.length ≤ n
  | 0, l, _, h => by
    cases l with
    | nil => simp
    | cons x l => have := h x (by simp); omega
  | n + 1, l, hn, h => by
    by_cases hm : n ∈ l
    · have h1 := List.length_erase_of_mem hm
      have h2 := pigeon n (l.erase n) (hn.erase n) (fun x hx => by
        have h3 := (hn.mem_erase_iff).1 hx
        have := h x h3.2
        have := h3.1
        omega)
      have : 0 < l.length := List.length_pos_of_mem hm
      omega
    · have := pigeon n l hn (fun x hx => by
        have := h x hx
        have : x ≠ n := fun e => hm (e ▸ hx)
        omega)
      omega
theorem RT.dist_lt (T : RT n r par dep) {a b : Nat} (ha : a < n) (hb : b < n) : dist par dep a b < n := by
  obtain ⟨l, hl⟩ := T.way _ a b ha hb (Nat.le_refl _)
  have := pigeon n l hl.nodup (fun x hx => by
    obtain ⟨i, hi⟩ := List.getElem?_of_mem hx
    exact (hl.get i x hi).1)
  rw [hl.len] at this
  omega
end
end Go.Proofs.Ytcicpgiljceioaa.Gr
