/- Plain mathematics: messages one behind the other. -/
import Derived.Test.YtdfjgfonbbgfcaaWiMath
namespace Go.Proofs.Ytdfjgfonbbgfcaa.Pk
/-- Those that can be. -/
def goods (l : List Mg) : List Mg := l.filter fun m => decide m.Be
/-- The bytes of all that can be. -/
def mputs (l : List Mg) : List Int := l.flatMap Mg.put
theorem goods_next {l : List Mg} {k : Nat} {m : Mg} (h : l[k]? = some m) : goods (l.take (k + 1)) = goods (l.take k) ++ (if m.Be then [m] else []) := by
  unfold goods
  rw [List.take_add_one, h, List.filter_append]
  congr 1
  by_cases hm : m.Be <;> simp [hm]
theorem mputs_next {l : List Mg} {k : Nat} {m : Mg} (h : l[k]? = some m) : mputs (l.take (k + 1)) = mputs (l.take k) ++ m.put := by
  unfold mputs
  rw [List.take_add_one, h, List.flatMap_append]
  simp
theorem mputs_len (l : List Mg) : (mputs l).length ≤ 45 * l.length := by
  induction l with
  | nil => simp [mputs]
  | cons m r ih =>
    have e : mputs (m :: r) = m.put ++ mputs r := rfl
    have := m.put_len
    rw [e, List.length_append, List.length_cons]; omega
theorem goods_len (l : List Mg) : (goods l).length ≤ l.length := List.length_filter_le _ _
theorem goods_be {l : List Mg} : ∀ m ∈ goods l, m.Be := fun m hm => by
  have := (List.mem_filter.1 hm).2
  exact of_decide_eq_true this
theorem mputs_goods (l : List Mg) : mputs l = mputs (goods l) := by
  induction l with
  | nil => rfl
  | cons m r ih =>
    have e : mputs (m :: r) = m.put ++ mputs r := rfl
    rw [e, ih]
    unfold goods
    by_cases hm : m.Be
    · rw [List.filter_cons_of_pos (by simpa using hm)]; rfl
    · rw [List.filter_cons_of_neg (by simpa using hm)]
      unfold Mg.put
      rw [if_neg hm]; rfl
theorem isB_puts (l : List Mg) : isB (mputs l) := fun c hc => by
  obtain ⟨m, _, h⟩ := List.mem_flatMap.1 hc
  exact isB_put m c h
theorem mputs_drop {g : List Mg} {k : Nat} {m : Mg} (h : g[k]? = some m) (hm : m.Be) : mputs (g.drop k) = m.bytes ++ mputs (g.drop (k + 1)) := by
  obtain ⟨hk, rfl⟩ := List.getElem?_eq_some_iff.1 h
  rw [List.drop_eq_getElem_cons hk]
  show (g[k]).put ++ _ = _
  unfold Mg.put
  rw [if_pos hm]; rfl
end Go.Proofs.Ytdfjgfonbbgfcaa.Pk
