/- Rows of a number and a text: what a slice of them reads as, and how one is appended. -/
import Derived.Test.YtgkmlggcmmdafaaWords
import Derived.Test.YtgkmlggcmmdafaaProg
namespace Go.Proofs.Ytgkmlggcmmdafaa.Pk
open Go.RowKit
set_option linter.unusedVariables false

/-- A number with a text. -/
abbrev Rw := Int × ByteArray
def rcell (r : Rw) : List Value := [.int .i64 r.1, .string r.2]
/-- Rows, as cells. -/
def rws (l : List Rw) : List Value := l.flatMap rcell
theorem rws_cons (r : Rw) (l : List Rw) : rws (r :: l) = .int .i64 r.1 :: .string r.2 :: rws l := rfl
theorem rws_append (l m : List Rw) : rws (l ++ m) = rws l ++ rws m := List.flatMap_append ..
@[simp] theorem rws_length (l : List Rw) : (rws l).length = l.length * 2 := by
  induction l with
  | nil => rfl
  | cons r l ih => rw [rws_cons]; simp [ih]; omega
theorem rws_one (l : List Rw) : ∀ u ∈ rws l, u.oneCell' = true := by
  intro u hu
  obtain ⟨r, _, h⟩ := List.mem_flatMap.1 hu
  simp [rcell] at h
  rcases h with rfl | rfl <;> rfl
theorem rws_get {l : List Rw} {k : Nat} {r : Rw} (h : l[k]? = some r) : (rws l)[k * 2]? = some (.int .i64 r.1) ∧ (rws l)[k * 2 + 1]? = some (.string r.2) := by
  induction l generalizing k with
  | nil => simp at h
  | cons x l ih =>
    rw [rws_cons]
    match k, h with
    | 0, h => simp at h; subst h; exact ⟨rfl, rfl⟩
    | k + 1, h =>
      have := ih (k := k) (by simpa using h)
      rw [show (k + 1) * 2 = k * 2 + 1 + 1 by omega]
      simpa using this
theorem rws_take (l : List Rw) (k : Nat) : (rws l).take (k * 2) = rws (l.take k) := by
  induction l generalizing k with
  | nil => simp [rws]
  | cons x l ih =>
    match k with
    | 0 => simp [rws]
    | k + 1 =>
      rw [rws_cons, List.take_succ_cons, rws_cons, show (k + 1) * 2 = k * 2 + 1 + 1 by omega, List.take_succ_cons, List.take_succ_cons, ih]
theorem rws_drop (l : List Rw) (k : Nat) : (rws l).drop (k * 2) = rws (l.drop k) := by
  induction l generalizing k with
  | nil => simp [rws]
  | cons x l ih =>
    match k with
    | 0 => simp [rws]
    | k + 1 =>
      rw [rws_cons, List.drop_succ_cons, show (k + 1) * 2 = k * 2 + 1 + 1 by omega, List.drop_succ_cons, List.drop_succ_cons, ih]

/-- A slice with elements leads to a plain place; its rows. -/
theorem Reads.rows {w : World} {B : Nat} {A : Option Addr} {n : Nat} {l : List Rw} (h : Reads w B 2 A n (rws l)) (hn : 0 < n) :
    ∃ b off, A = some ⟨b, off, none⟩ ∧ b < B ∧ ∀ i r, l[i]? = some r → w.cell? ⟨b, off + i * 2, none⟩ = some (.int .i64 r.1) ∧ w.cell? ⟨b, off + i * 2 + 1, none⟩ = some (.string r.2) := by
  obtain ⟨ad, rfl, hb, hc⟩ := h.2 hn
  have hl : 0 < (rws l).length := by rw [h.1]; omega
  have h0 := hc 0 _ (List.getElem?_eq_getElem hl)
  obtain ⟨b, off, spot⟩ := ad
  have hs : spot = none := by simpa [Addr.add] using World.cell?_spot h0
  subst hs
  have hat : ∀ j u, (rws l)[j]? = some u → w.cell? ⟨b, off + j, none⟩ = some u := by
    intro j u hu
    have := hc j u hu
    unfold Addr.add at this
    by_cases hj : j = 0
    · subst hj; simpa using this
    · simpa [hj] using this
  refine ⟨b, off, rfl, hb, fun i r hr => ?_⟩
  obtain ⟨h1, h2⟩ := rws_get hr
  exact ⟨hat _ _ h1, by rw [Nat.add_assoc]; exact hat _ _ h2⟩
theorem Reads.rlen {w : World} {B : Nat} {A : Option Addr} {n : Nat} {l : List Rw} (h : Reads w B 2 A n (rws l)) : l.length = n := by
  have := h.1; simp at this; omega

theorem row_info : (Try.prog.info? 34).map (fun i => (i.zero, i.size, i.bytes)) = some (some (.agg #[.int .i64 0, .string ByteArray.empty]), 2, 24) := by kernel_rfl
/-- The value owns the rows. -/
def OwnR (w : World) (B : Nat) (v : Value) (l : List Rw) : Prop := w.ownsRow B 34 2 v l.length (rws l)
theorem OwnR.none_ (w : World) (B : Nat) : OwnR w B (.slice none 0 0) [] := ⟨rfl, .inl ⟨rfl, rfl⟩⟩
theorem OwnR.alloc {w : World} {B : Nat} {v : Value} {l : List Rw} (h : OwnR w B v l) (o : Obj) : OwnR (w.alloc o) B v l := World.ownsRow.alloc h o
theorem OwnR.below {w w' : World} {B : Nat} {v : Value} {l : List Rw} (h : OwnR w B v l) (hb : Below w.heap.size w w') : OwnR w' B v l := by
  obtain ⟨h1, h2⟩ := h
  refine ⟨h1, ?_⟩
  rcases h2 with h2 | ⟨g, cap, cur, e, hg, hh, hr⟩
  · exact .inl h2
  · refine .inr ⟨g, cap, cur, e, hg, ?_, hr⟩
    have hlt : g < w.heap.size := by
      rcases Nat.lt_or_ge g w.heap.size with hlt | hge
      · exact hlt
      · rw [Array.getElem?_eq_none hge] at hh; cases hh
    rw [hb.block g hlt]; exact hh
theorem OwnR.reads {w : World} {B : Nat} {v : Value} {l : List Rw} (h : OwnR w B v l) : ∃ A c, v = .slice A l.length c ∧ l.length ≤ c ∧ Reads w w.heap.size 2 A l.length (rws l) := by
  have h2 := h
  obtain ⟨h1, ⟨rfl, e⟩ | ⟨g, cap, cur, rfl, _, _, hc, _⟩⟩ := h2
  · obtain rfl : l = [] := List.length_eq_zero_iff.1 e
    exact ⟨none, 0, rfl, by simp, Reads.none_⟩
  · exact ⟨_, cap, rfl, hc, Reads.of_own h⟩
theorem ownR_base {w : World} {base : Nat} {v : Value} {l : List Rw} (h : OwnR w base v l) : ∀ k, v.ownBlock = some k → base ≤ k := by
  intro k hk
  rcases h.2 with ⟨rfl, _⟩ | ⟨g, cap, cur, rfl, hb, _⟩
  · simp [Value.ownBlock] at hk
  · simp [Value.ownBlock] at hk; omega
theorem ownR_lt {w : World} {B : Nat} {v : Value} {l : List Rw} (h : OwnR w B v l) : ∀ g, v.ownBlock = some g → g < w.heap.size := by
  intro g hg
  rcases h.2 with ⟨rfl, _⟩ | ⟨g', cap, cur, rfl, _, hh, _⟩
  · simp [Value.ownBlock] at hg
  · simp [Value.ownBlock] at hg
    subst hg
    rcases Nat.lt_or_ge g' w.heap.size with h' | h'
    · exact h'
    · rw [Array.getElem?_eq_none h'] at hh; cases hh
/-- One row more, out of a new box. -/
theorem appR {ops : Array Oper} {rest : List Oper} {o : Oper} {a : Act} {Q : Exit → Act → World → Prop} (w : World) (k : Int) (s : ByteArray) (T : TypeId) (hgd : o.guard = none) (so x : Operand)
    (ho : o.op = .call { callee := .builtin .append, args := #[so, x], argTypes := #[26, 26] }) (B : Nat) (v : Value) (l : List Rw) (hs : a.eval so = v) (hown : OwnR w B v l)
    (g : Nat) (hg : g = w.heap.size) (hx : a.eval x = .slice (some ⟨g, 0, none⟩) 1 1) (hlen : (l.length + 1) * 24 ≤ 140737488355328) (hB : B ≤ w.heap.size)
    (h : ∀ v' w', OwnR w' B v' (l ++ [(k, s)]) → Below B w w' → (w.alloc (.cells #[.int .i64 k, .string s] T)).grownBy w' v.ownBlock → wpList Try.prog ops Q rest (a.put o.dst v') w') : wpList Try.prog ops Q (o :: rest) a (w.alloc (.cells #[.int .i64 k, .string s] T)) := by
  subst hg
  obtain ⟨i0, hi0, hz0, hz1, hz2⟩ := info_parts row_info
  refine wpList_append_own _ hgd so x _ ho B 34 i0 _ 2 24 Try.underlying26 hi0 hz0 hz1 hz2 rfl (by omega) v l.length (rws l) hs (World.ownsRow.alloc hown _) ⟨w.heap.size, 0, none⟩ 1 1 (rws [(k, s)]) hx rfl ?_ (rws_one _)
    (by unfold maxLen; omega) (by omega) (by simp; omega) ?_
  · intro j u hj
    match j, hj with
    | 0, hj => simp [rws, rcell] at hj; subst hj; simp [Addr.add]
    | 1, hj => simp [rws, rcell] at hj; subst hj; simp [Addr.add]
    | j + 2, hj => simp [rws, rcell] at hj
  · intro v' w' ho hg _
    refine h v' w' ?_ (((Below.refl _ _).alloc hB _).grown hg (by simp; omega) (ownR_base hown)) hg
    unfold OwnR
    rw [rws_append, List.length_append]; exact ho
end Go.Proofs.Ytgkmlggcmmdafaa.Pk
