/- Lists of cells that a call answered, handed over again. -/
import Derived.Test.YteflefmlicamlaaChSpec
import Derived.Test.YteflefmlicamlaaChStay
namespace Go.Proofs.Yteflefmlicamlaa.Pk
open Go.RowKit
set_option linter.unusedVariables false
theorem OwnK.inK {w : World} {B n c : Nat} {A : Option Addr} {l : List Ce} (h : OwnK w B (.slice A n c) l) (hf : l.length ≤ 4398046511000) (hi : ∀ m ∈ l, m.I) : InK w l A n c := by
  obtain ⟨A', c', e, hc, hr⟩ := OwnK.reads h
  injection e with e1 e2 e3
  subst e1; subst e2; subst e3
  exact ⟨hr, hc, hf, hi⟩
theorem InK.cells {w : World} {l : List Ce} {A : Option Addr} {n c : Nat} (h : InK w l A n c) (hn : 0 < n) : ∃ b off, A = some ⟨b, off, none⟩ ∧ ∀ W, Below w.heap.size w W → ∀ i r, l[i]? = some r →
    W.cell? ⟨b, off + i * 4, none⟩ = some (.int .i64 r.n) ∧ W.cell? ⟨b, off + i * 4 + 1, none⟩ = some (.int .i64 r.s) ∧ W.cell? ⟨b, off + i * 4 + 2, none⟩ = some (.int .i64 r.d) ∧ W.cell? ⟨b, off + i * 4 + 3, none⟩ = some (.int .i64 r.x) := by
  obtain ⟨b, off, e, _, hc⟩ := h.rd.ces_ hn
  refine ⟨b, off, e, fun W hW => ?_⟩
  obtain ⟨b', off', e', _, hc'⟩ := (h.next hW).rd.ces_ hn
  rw [e] at e'
  injection e' with e'
  injection e' with e1 e2 _
  subst e1; subst e2
  exact hc'
theorem ceA_I {l : List Ce} (h : ∀ m ∈ l, m.I) {i : Nat} (hi : i < l.length) : (ceA l i).I := h _ (List.mem_of_getElem? (ceA_get hi))
theorem j64 {x : Int} (h : -9223372036854775808 ≤ x) (h2 : x ≤ 9223372036854775807) : J64 x := ⟨h, h2⟩
theorem addK_i {l : List Ce} {x : Int} (h : ∀ m ∈ l, m.I) (hx : J64 x) : ∀ m ∈ addK l x, m.I := by
  intro m hm
  unfold addK at hm
  rcases List.mem_append.1 hm with hm | hm
  · exact h m hm
  · rw [List.mem_singleton.1 hm]
    exact ⟨hx, by constructor <;> simp, by constructor <;> simp, by constructor <;> simp⟩
theorem set_i {l : List Ce} {k : Nat} {c : Ce} (h : ∀ m ∈ l, m.I) (hc : c.I) : ∀ m ∈ l.set k c, m.I := by
  intro m hm
  rcases List.mem_or_eq_of_mem_set hm with hm | rfl
  · exact h m hm
  · exact hc
theorem succK_i {l : List Ce} {d x : Int} (h : ∀ m ∈ l, m.I) (hd : J64 d) (hx : J64 x) : ∀ m ∈ (succK l d x).1, m.I := by
  rcases Nat.eq_zero_or_pos l.length with h0 | h0
  · rw [succK_nil h0]; intro m hm; cases hm
  · obtain ⟨k, hk⟩ : ∃ k, l.length = k + 1 := ⟨l.length - 1, by omega⟩
    by_cases hs : (ceA l k).s = 3
    · rw [succK_rest hk hs]
      exact fun m hm => h m (List.mem_of_mem_take hm)
    · rw [succK_set hk hs]
      have := ceA_I h (i := k) (by omega)
      exact set_i h ⟨this.n, this.s, hd, hx⟩
theorem grantK_i {l : List Ce} {x : Int} (h : ∀ m ∈ l, m.I) : ∀ m ∈ (grantK l x).1, m.I := by
  cases hg : grantAt l x with
  | none => rw [(grant_none hg).1]; exact h
  | some k =>
    obtain ⟨e, hk, _⟩ := grant_some hg
    rw [e]
    have := ceA_I h hk
    exact set_i h ⟨this.n, by constructor <;> simp, this.d, this.x⟩
theorem relK_i {l : List Ce} (h : ∀ m ∈ l, m.I) : ∀ m ∈ (relK l).1, m.I := by
  cases hg : heldAt l with
  | none => rw [(held_none hg).1]; intro m hm; cases hm
  | some k =>
    obtain ⟨e, hk, _⟩ := held_some hg
    rw [e]
    have := ceA_I h hk
    split
    · exact set_i h ⟨this.n, by constructor <;> simp, this.d, this.x⟩
    · exact fun m hm => h m (List.mem_of_mem_eraseIdx hm)
theorem succK_len (l : List Ce) (d x : Int) : (succK l d x).1.length ≤ l.length := by
  rcases Nat.eq_zero_or_pos l.length with h | h
  · rw [succK_nil h]; simp
  · obtain ⟨k, hk⟩ : ∃ k, l.length = k + 1 := ⟨l.length - 1, by omega⟩
    by_cases hs : (ceA l k).s = 3
    · rw [succK_rest hk hs]; simp; omega
    · rw [succK_on hk hs]; simp; omega
theorem grantK_len (l : List Ce) (x : Int) : (grantK l x).1.length ≤ l.length := by
  cases hg : grantAt l x with
  | none => rw [(grant_none hg).1]; exact Nat.le_refl _
  | some k => rw [(grant_some hg).1]; simp
theorem relK_len (l : List Ce) : (relK l).1.length ≤ l.length := by
  cases hg : heldAt l with
  | none => rw [(held_none hg).1]; simp
  | some k =>
    rw [(held_some hg).1]
    split
    · simp
    · simp only; rw [List.length_eraseIdx]; split <;> omega
/-- Numbers that rise are few. -/
theorem GoodK.few {l : List Ce} {me : Int} {sink : Bool} (h : GoodK l me sink) : l.length ≤ 1099511627777 := by
  have up : ∀ i, i < l.length → (i : Int) ≤ (ceA l i).n := by
    intro i
    induction i with
    | zero => intro hi; exact (h.2 0 hi).1.1
    | succ i ih =>
      intro hi
      have h1 := ih (by omega)
      have h2 := ((h.2 (i + 1) hi).2.1 (by omega)).1
      rw [Nat.add_sub_cancel] at h2
      omega
  rcases Nat.eq_zero_or_pos l.length with h0 | h0
  · omega
  · have h1 := up (l.length - 1) (by omega)
    have h2 := (h.2 (l.length - 1) (by omega)).1.2.1
    omega
end Go.Proofs.Yteflefmlicamlaa.Pk
