/- Rooted trees: the way from one node to another. -/
import Derived.Test.YtcomiininaemhaaGrMath
namespace Go.Proofs.Ytcomiininaemhaa.Gr
set_option linter.unusedVariables false
section
variable {n r : Nat} {par dep : Nat → Nat}
theorem near_lt (T : RT n r par dep) {a v : Nat} (ha : a < n) (hv : v < n) (h : near r par v a) : True := trivial
theorem RT.triangle (T : RT n r par dep) : ∀ (f a c b : Nat), a < n → c < n → b < n → dist par dep c b ≤ f → dist par dep a b ≤ dist par dep a c + dist par dep c b := by
  intro f
  induction f with
  | zero =>
    intro a c b ha hc hb h
    have := T.dist_zero hc hb (by omega)
    subst this
    omega
  | succ f ih =>
    intro a c b ha hc hb h
    rcases Nat.decEq c b with hcb | hcb
    · obtain ⟨v, h1, h2, h3⟩ := T.nearer _ c b hc hb hcb (Nat.le_refl _)
      have e := ih a v b ha h1 hb (by omega)
      have s := T.step h1 hc ha h2
      have y1 := T.dist_symm ha h1
      have y2 := T.dist_symm ha hc
      omega
    · subst hcb
      omega

/-- l goes from a to b, each next one nearer by one. -/
structure Way (n r : Nat) (par dep : Nat → Nat) (a b : Nat) (l : List Nat) : Prop where
  len : l.length = dist par dep a b + 1
  head : l[0]? = some a
  get : ∀ i v, l[i]? = some v → v < n ∧ dist par dep v b + i = dist par dep a b
  next : ∀ i v w, l[i]? = some v → l[i + 1]? = some w → near r par w v
theorem way_self (b : Nat) (hb : b < n) : Way n r par dep b b [b] where
  len := by rw [dist_self]; rfl
  head := rfl
  get := by
    intro i v h
    cases i with
    | zero => simp at h; subst h; exact ⟨hb, by omega⟩
    | succ i => simp at h
  next := by
    intro i v w h1 h2
    simp at h2
theorem Way.cons {a v b : Nat} {l : List Nat} (h : Way n r par dep v b l) (ha : a < n) (hn : near r par v a) (hd : dist par dep v b + 1 = dist par dep a b) : Way n r par dep a b (a :: l) where
  len := by rw [List.length_cons, h.len]; omega
  head := rfl
  get := by
    intro i x hx
    cases i with
    | zero => simp at hx; subst hx; exact ⟨ha, by omega⟩
    | succ i =>
      have := h.get i x (by simpa using hx)
      exact ⟨this.1, by omega⟩
  next := by
    intro i x y h1 h2
    cases i with
    | zero =>
      simp at h1
      have h3 := h.head
      simp at h2
      rw [h3] at h2
      injection h2 with h2
      subst h1; subst h2
      exact hn
    | succ i => exact h.next i x y (by simpa using h1) (by simpa using h2)
theorem RT.way (T : RT n r par dep) : ∀ (f a b : Nat), a < n → b < n → dist par dep a b ≤ f → ∃ l, Way n r par dep a b l := by
  intro f
  induction f with
  | zero =>
    intro a b ha hb h
    have := T.dist_zero ha hb (by omega)
    subst this
    exact ⟨[a], way_self a ha⟩
  | succ f ih =>
    intro a b ha hb h
    rcases Nat.decEq a b with hab | hab
    · obtain ⟨v, h1, h2, h3⟩ := T.nearer _ a b ha hb hab (Nat.le_refl _)
      obtain ⟨l, hl⟩ := ih v b h1 hb (by omega)
      exact ⟨a :: l, hl.cons ha h2 h3⟩
    · subst hab
      exact ⟨[a], way_self a ha⟩
theorem RT.way_only (T : RT n r par dep) {a b : Nat} {l m : List Nat} (hb : b < n) (h : Way n r par dep a b l) (k : Way n r par dep a b m) : l = m := by
  have key : ∀ i, i ≤ dist par dep a b → l[i]? = m[i]? := by
    intro i
    induction i with
    | zero => intro _; rw [h.head, k.head]
    | succ i ih =>
      intro hi
      have e := ih (by omega)
      obtain ⟨v, hv⟩ : ∃ v, l[i]? = some v := ⟨_, List.getElem?_eq_getElem (by rw [h.len]; omega)⟩
      obtain ⟨x, hx⟩ : ∃ x, l[i + 1]? = some x := ⟨_, List.getElem?_eq_getElem (by rw [h.len]; omega)⟩
      obtain ⟨y, hy⟩ : ∃ y, m[i + 1]? = some y := ⟨_, List.getElem?_eq_getElem (by rw [k.len]; omega)⟩
      have g1 := h.get _ _ hv
      have g2 := h.get _ _ hx
      have g3 := k.get _ _ hy
      have n1 := h.next _ _ _ hv hx
      have n2 := k.next _ _ _ (by rw [← e]; exact hv) hy
      rw [hx, hy, T.only _ v b x y g1.1 hb g2.1 g3.1 (Nat.le_refl _) n1 n2 (by omega) (by omega)]
  apply List.ext_getElem?
  intro i
  rcases Nat.lt_or_ge (dist par dep a b) i with hi | hi
  · rw [List.getElem?_eq_none (by rw [h.len]; omega), List.getElem?_eq_none (by rw [k.len]; omega)]
  · exact key i hi
theorem Way.last (T : RT n r par dep) {a b : Nat} {l : List Nat} (hb : b < n) (h : Way n r par dep a b l) : l[dist par dep a b]? = some b := by
  obtain ⟨v, hv⟩ : ∃ v, l[dist par dep a b]? = some v := ⟨_, List.getElem?_eq_getElem (by rw [h.len]; omega)⟩
  have g := h.get _ _ hv
  rw [hv, T.dist_zero g.1 hb (by omega)]
/-- From the other end. -/
theorem Way.dist_from (T : RT n r par dep) {a b : Nat} {l : List Nat} (ha : a < n) (hb : b < n) (h : Way n r par dep a b l) : ∀ i v, l[i]? = some v → dist par dep a v = i := by
  have up : ∀ i v, l[i]? = some v → dist par dep a v ≤ i := by
    intro i
    induction i with
    | zero =>
      intro v hv
      rw [h.head] at hv
      injection hv with hv
      subst hv
      rw [dist_self]; omega
    | succ i ih =>
      intro v hv
      have hil : i + 1 < l.length := (List.getElem?_eq_some_iff.1 hv).1
      obtain ⟨x, hx⟩ : ∃ x, l[i]? = some x := ⟨_, List.getElem?_eq_getElem (by omega)⟩
      have e := ih x hx
      have g1 := h.get _ _ hx
      have g2 := h.get _ _ hv
      have s := T.step g2.1 g1.1 ha (h.next _ _ _ hx hv)
      have y1 := T.dist_symm ha g1.1
      have y2 := T.dist_symm ha g2.1
      omega
  intro i v hv
  have h1 := up i v hv
  have g := h.get _ _ hv
  have := T.triangle _ a v b ha g.1 hb (Nat.le_refl _)
  omega
theorem Way.back (T : RT n r par dep) {a b : Nat} {l : List Nat} (ha : a < n) (hb : b < n) (h : Way n r par dep a b l) : Way n r par dep b a l.reverse where
  len := by rw [List.length_reverse, h.len, T.dist_symm ha hb]
  head := by
    rw [List.getElem?_reverse (by rw [h.len]; omega), h.len]
    exact h.last T hb
  get := by
    intro i v hv
    have hil : i < l.length := by
      have := (List.getElem?_eq_some_iff.1 hv).1
      rwa [List.length_reverse] at this
    rw [List.getElem?_reverse hil] at hv
    have g := h.get _ _ hv
    have e := h.dist_from T ha hb _ _ hv
    have hl := h.len
    have y := T.dist_symm ha g.1
    have z := T.dist_symm ha hb
    exact ⟨g.1, by omega⟩
  next := by
    intro i v w hv hw
    have hil : i + 1 < l.length := by
      have := (List.getElem?_eq_some_iff.1 hw).1
      rwa [List.length_reverse] at this
    rw [List.getElem?_reverse (by omega)] at hv
    rw [List.getElem?_reverse hil] at hw
    have := h.next (l.length - 1 - (i + 1)) w v hw (by rw [show l.length - 1 - (i + 1) + 1 = l.length - 1 - i by omega]; exact hv)
    exact near_symm this
theorem Way.nodup {a b : Nat} {l : List Nat} (h : Way n r par dep a b l) : l.Nodup := by
  rw [List.nodup_iff_pairwise_ne, List.pairwise_iff_getElem]
  intro i j hi hj hij e
  have g1 := h.get i _ (List.getElem?_eq_getElem hi)
  have g2 := h.get j _ (List.getElem?_eq_getElem hj)
  rw [e] at g1
  omega
theorem pigeon : ∀ (n : Nat) (l : List Nat), l.Nodup → (∀ x ∈ l, x < n) → l.length ≤ n
  | 0, l, _, h => by
    cases l with
    | nil => simp
    | cons x l => have := h x (by simp); omega
  | n + 1, l, hn, h => by
    by_cases hm : n ∈ l
    · have h1 := List.length_erase_of_mem hm
      have h2 := pigeon n (l.erase n) (hn.erase n) (fun x hx => by
        have h3 := (hn.mem_erase_iff).1 hx
        have := h x h3.2
        have := h3.1
        omega)
      have : 0 < l.length := List.length_pos_of_mem hm
      omega
    · have := pigeon n l hn (fun x hx => by
        have := h x hx
        have : x ≠ n := fun e => hm (e ▸ hx)
        omega)
      omega
theorem RT.dist_lt (T : RT n r par dep) {a b : Nat} (ha : a < n) (hb : b < n) : dist par dep a b < n := by
  obtain ⟨l, hl⟩ := T.way _ a b ha hb (Nat.le_refl _)
  have := pigeon n l hl.nodup (fun x hx => by
    obtain ⟨i, hi⟩ := List.getElem?_of_mem hx
    exact (hl.get i x hi).1)
  rw [hl.len] at this
  omega
end
end Go.Proofs.Ytcomiininaemhaa.Gr
