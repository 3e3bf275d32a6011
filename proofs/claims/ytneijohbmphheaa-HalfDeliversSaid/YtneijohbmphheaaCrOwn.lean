/- Things under way in memory: seven cells each; rows of them of the law's own. -/
import Derived.Test.YtneijohbmphheaaHfDlv
import Derived.Test.YtneijohbmphheaaMgApp
namespace Go.Proofs.Ytneijohbmphheaa.Pk
open Go.RowKit
set_option linter.unusedVariables false
def Cr.cells (c : Cr) : List Value := [.int .i64 c.q, .int .i64 c.m.k, .int .i64 c.m.o, .int .i64 c.m.n, .int .i64 c.m.u, .int .i64 c.m.v, .int .i64 c.a]
def crs (l : List Cr) : List Value := l.flatMap Cr.cells
theorem crs_cons (r : Cr) (l : List Cr) : crs (r :: l) = .int .i64 r.q :: .int .i64 r.m.k :: .int .i64 r.m.o :: .int .i64 r.m.n :: .int .i64 r.m.u :: .int .i64 r.m.v :: .int .i64 r.a :: crs l := rfl
@[simp] theorem crs_length (l : List Cr) : (crs l).length = l.length * 7 := by
  induction l with
  | nil => rfl
  | cons r l ih => rw [crs_cons]; simp [ih]; omega
theorem crs_append (l m : List Cr) : crs (l ++ m) = crs l ++ crs m := List.flatMap_append ..
theorem crs_one (l : List Cr) : ∀ u ∈ crs l, u.oneCell' = true := by
  intro u hu
  obtain ⟨r, _, h⟩ := List.mem_flatMap.1 hu
  simp [Cr.cells] at h
  rcases h with rfl | rfl | rfl | rfl | rfl | rfl | rfl <;> rfl
theorem crs_get {l : List Cr} {k : Nat} {r : Cr} (h : l[k]? = some r) : (crs l)[k * 7]? = some (.int .i64 r.q) ∧ (crs l)[k * 7 + 1]? = some (.int .i64 r.m.k) ∧ (crs l)[k * 7 + 2]? = some (.int .i64 r.m.o) ∧ (crs l)[k * 7 + 3]? = some (.int .i64 r.m.n) ∧ (crs l)[k * 7 + 4]? = some (.int .i64 r.m.u) ∧ (crs l)[k * 7 + 5]? = some (.int .i64 r.m.v) ∧ (crs l)[k * 7 + 6]? = some (.int .i64 r.a) := by
  induction l generalizing k with
  | nil => simp at h
  | cons x l ih =>
    rw [crs_cons]
    match k, h with
    | 0, h => simp at h; subst h; exact ⟨rfl, rfl, rfl, rfl, rfl, rfl, rfl⟩
    | k + 1, h =>
      have := ih (k := k) (by simpa using h)
      rw [show (k + 1) * 7 = k * 7 + 1 + 1 + 1 + 1 + 1 + 1 + 1 by omega]
      simpa using this
theorem Reads.crs_ {w : World} {B : Nat} {A : Option Addr} {n : Nat} {l : List Cr} (h : Reads w B 7 A n (crs l)) (hn : 0 < n) :
    ∃ b off, A = some ⟨b, off, none⟩ ∧ b < B ∧ ∀ i r, l[i]? = some r → w.cell? ⟨b, off + i * 7, none⟩ = some (.int .i64 r.q) ∧ w.cell? ⟨b, off + i * 7 + 1, none⟩ = some (.int .i64 r.m.k) ∧ w.cell? ⟨b, off + i * 7 + 2, none⟩ = some (.int .i64 r.m.o) ∧
      w.cell? ⟨b, off + i * 7 + 3, none⟩ = some (.int .i64 r.m.n) ∧ w.cell? ⟨b, off + i * 7 + 4, none⟩ = some (.int .i64 r.m.u) ∧ w.cell? ⟨b, off + i * 7 + 5, none⟩ = some (.int .i64 r.m.v) ∧ w.cell? ⟨b, off + i * 7 + 6, none⟩ = some (.int .i64 r.a) := by
  obtain ⟨ad, rfl, hb, hc⟩ := h.2 hn
  have hl : 0 < (crs l).length := by rw [h.1]; omega
  have h0 := hc 0 _ (List.getElem?_eq_getElem hl)
  obtain ⟨b, off, spot⟩ := ad
  have hs : spot = none := by simpa [Addr.add] using World.cell?_spot h0
  subst hs
  have hat : ∀ j u, (crs l)[j]? = some u → w.cell? ⟨b, off + j, none⟩ = some u := by
    intro j u hu
    have := hc j u hu
    unfold Addr.add at this
    by_cases hj : j = 0
    · subst hj; simpa using this
    · simpa [hj] using this
  refine ⟨b, off, rfl, hb, fun i r hr => ?_⟩
  obtain ⟨h1, h2, h3, h4, h5, h6, h7⟩ := crs_get hr
  exact ⟨hat _ _ h1, by rw [Nat.add_assoc]; exact hat _ _ h2, by rw [Nat.add_assoc]; exact hat _ _ h3, by rw [Nat.add_assoc]; exact hat _ _ h4, by rw [Nat.add_assoc]; exact hat _ _ h5, by rw [Nat.add_assoc]; exact hat _ _ h6, by rw [Nat.add_assoc]; exact hat _ _ h7⟩
theorem Reads.clen {w : World} {B : Nat} {A : Option Addr} {n : Nat} {l : List Cr} (h : Reads w B 7 A n (crs l)) : l.length = n := by
  have := h.1; simp at this; omega
theorem cr_info : (Try.prog.info? 47).map (fun i => (i.zero, i.size, i.bytes)) = some (some (.agg #[.int .i64 0, .int .i64 0, .int .i64 0, .int .i64 0, .int .i64 0, .int .i64 0, .int .i64 0]), 7, 56) := by kernel_rfl
/-- The value owns the things under way. -/
def OwnC (w : World) (B : Nat) (v : Value) (l : List Cr) : Prop := w.ownsRow B 47 7 v l.length (crs l)
theorem OwnC.none_ (w : World) (B : Nat) : OwnC w B (.slice none 0 0) [] := ⟨rfl, .inl ⟨rfl, rfl⟩⟩
theorem OwnC.alloc {w : World} {B : Nat} {v : Value} {l : List Cr} (h : OwnC w B v l) (o : Obj) : OwnC (w.alloc o) B v l := World.ownsRow.alloc h o
theorem ownC_base {w : World} {base : Nat} {v : Value} {l : List Cr} (h : OwnC w base v l) : ∀ k, v.ownBlock = some k → base ≤ k := by
  intro k hk
  rcases h.2 with ⟨rfl, _⟩ | ⟨g, cap, cur, rfl, hb, _⟩
  · simp [Value.ownBlock] at hk
  · simp [Value.ownBlock] at hk; omega
theorem ownC_lt {w : World} {B : Nat} {v : Value} {l : List Cr} (h : OwnC w B v l) : ∀ g, v.ownBlock = some g → g < w.heap.size := by
  intro g hg
  rcases h.2 with ⟨rfl, _⟩ | ⟨g', cap, cur, rfl, _, hh, _⟩
  · simp [Value.ownBlock] at hg
  · simp [Value.ownBlock] at hg
    subst hg
    rcases Nat.lt_or_ge g' w.heap.size with h' | h'
    · exact h'
    · rw [Array.getElem?_eq_none h'] at hh; cases hh
theorem OwnC.stay {w w' : World} {B : Nat} {v : Value} {l : List Cr} (h : OwnC w B v l) (hk : ∀ g, v.ownBlock = some g → w'.heap[g]? = w.heap[g]?) : OwnC w' B v l := by
  obtain ⟨h1, h2⟩ := h
  refine ⟨h1, ?_⟩
  rcases h2 with h2 | ⟨g, cap, cur, rfl, hg, hh, hr⟩
  · exact .inl h2
  · exact .inr ⟨g, cap, cur, rfl, hg, (hk g rfl).trans hh, hr⟩
theorem OwnC.below {w w' : World} {B : Nat} {v : Value} {l : List Cr} (h : OwnC w B v l) (hb : Below w.heap.size w w') : OwnC w' B v l := h.stay fun g e => hb.block g (ownC_lt h g e)
theorem OwnC.reads {w : World} {B : Nat} {v : Value} {l : List Cr} (h : OwnC w B v l) : ∃ A c, v = .slice A l.length c ∧ l.length ≤ c ∧ Reads w w.heap.size 7 A l.length (crs l) := by
  have h2 := h
  obtain ⟨h1, ⟨rfl, e⟩ | ⟨g, cap, cur, rfl, _, _, hc, _⟩⟩ := h2
  · obtain rfl : l = [] := List.length_eq_zero_iff.1 e
    exact ⟨none, 0, rfl, by simp, Reads.none_⟩
  · exact ⟨_, cap, rfl, hc, Reads.of_own h⟩
theorem ownC_slice {w : World} {B : Nat} {v : Value} {l : List Cr} (h : OwnC w B v l) : ∃ A n c, v = .slice A n c := by
  obtain ⟨A, c, e, _, _⟩ := h.reads
  exact ⟨A, _, c, e⟩
theorem ownC_reads {w : World} {B : Nat} {A : Option Addr} {n c : Nat} {l : List Cr} (h : OwnC w B (.slice A n c) l) : l.length = n ∧ n ≤ c ∧ Reads w w.heap.size 7 A n (crs l) := by
  obtain ⟨A', c', e, hc, hr⟩ := OwnC.reads h
  injection e with e1 e2 e3
  subst e1; subst e2; subst e3
  exact ⟨rfl, hc, hr⟩
theorem OwnC.app_ {w : World} {B n k : Nat} {v : Value} {l r : List Cr} (hn : n = l.length) (hk : k = r.length) (h : w.ownsRow B 47 7 v (n + k) (crs l ++ crs r)) : OwnC w B v (l ++ r) := by
  unfold OwnC
  rw [crs_append, List.length_append, ← hn, ← hk]
  exact h
/-- Things of any list behind those that are owned. -/
theorem appC {ops : Array Oper} {rest : List Oper} {o : Oper} {a : Act} {Q : Exit → Act → World → Prop} (w : World) (hgd : o.guard = none) (s x : Operand)
    (ho : o.op = .call { callee := .builtin .append, args := #[s, x], argTypes := #[43, 43] }) (B : Nat) (v : Value) (l : List Cr) (hs : a.eval s = v) (hown : OwnC w B v l)
    (B' : Nat) (A : Option Addr) (c : Nat) (r : List Cr) (n : Nat) (hx : a.eval x = .slice A n c) (hr : Reads w B' 7 A n (crs r)) (hlen : (l.length + n) * 56 ≤ 140737488355328) (hB : B ≤ w.heap.size)
    (h : ∀ v' w', OwnC w' B v' (l ++ r) → Below B w w' → (v'.ownBlock = v.ownBlock ∨ v'.ownBlock = some w.heap.size) → w.grownBy w' v.ownBlock → wpList Try.prog ops Q rest (a.put o.dst v') w') : wpList Try.prog ops Q (o :: rest) a w := by
  obtain ⟨i0, hi0, hz0, hz1, hz2⟩ := info_parts cr_info
  have hnr : n = r.length := hr.clen.symm
  refine wpList_append_any _ hgd s x _ ho B 47 i0 _ 7 56 Try.underlying43 hi0 hz0 hz1 hz2 rfl (by omega) v l.length (crs l) hs hown B' A n c (crs r) hx hr (crs_one r)
    (by unfold maxLen; omega) (by omega) hB ?_
  intro v' w' ho hg hat
  exact h v' w' (OwnC.app_ rfl hnr ho) ((Below.refl _ _).grown hg hB (ownC_base hown)) hat hg
theorem OwnC.fresh (w : World) (B : Nat) (hB : B ≤ w.heap.size) : OwnC (w.alloc (.cells #[] 47)) B (.slice (some ⟨w.heap.size, 0, none⟩) 0 0) [] :=
  ⟨rfl, .inr ⟨w.heap.size, 0, #[], rfl, hB, heap_alloc_new w _, Nat.le_refl _, by unfold maxLen; omega, rfl, rfl⟩⟩
/-- Things of any list behind an empty literal. -/
theorem appCE {ops : Array Oper} {rest : List Oper} {o : Oper} {a : Act} {Q : Exit → Act → World → Prop} (w : World) (hgd : o.guard = none) (s x : Operand)
    (ho : o.op = .call { callee := .builtin .append, args := #[s, x], argTypes := #[43, 43] }) (B : Nat) (hs : a.eval s = .slice (some ⟨w.heap.size, 0, none⟩) 0 0)
    (B' : Nat) (A : Option Addr) (c : Nat) (r : List Cr) (n : Nat) (hx : a.eval x = .slice A n c) (hr : Reads w B' 7 A n (crs r)) (hB' : B' ≤ w.heap.size) (hlen : n * 56 ≤ 140737488355328) (hB : B ≤ w.heap.size)
    (h : ∀ v' w', OwnC w' B v' r → Below B w w' → wpList Try.prog ops Q rest (a.put o.dst v') w') : wpList Try.prog ops Q (o :: rest) a (w.alloc (.cells #[] 47)) := by
  refine appC _ hgd s x ho B _ [] hs (OwnC.fresh w B hB) B' A c r n hx (hr.alloc hB' _) (by simp; omega) (by simp; omega) ?_
  intro v' w' ho' hb' _ _
  exact h v' w' (by simpa using ho') (((Below.refl _ _).alloc hB _).trans hb')
/-- The first ones, and those behind one. -/
theorem readsC_take {w : World} {B n k : Nat} {A : Option Addr} {l : List Cr} (h : Reads w B 7 A k (crs l)) (hn : n ≤ k) : Reads w B 7 A n (crs (l.take n)) := by
  have hk := h.clen
  refine ⟨by simp; omega, fun h0 => ?_⟩
  obtain ⟨ad, e, hb, hc⟩ := h.2 (by omega)
  refine ⟨ad, e, hb, fun j u hj => hc j u ?_⟩
  have hs := List.take_append_drop n l
  rw [← hs, crs_append, List.getElem?_append_left (List.getElem?_eq_some_iff.1 hj).1]
  exact hj
theorem readsC_drop {w : World} {B n k g off : Nat} {l : List Cr} (h : Reads w B 7 (some ⟨g, off, none⟩) k (crs l)) (hn : n ≤ k) : Reads w B 7 (some ⟨g, off + n * 7, none⟩) (k - n) (crs (l.drop n)) := by
  have hk := h.clen
  refine ⟨by simp; omega, fun h0 => ?_⟩
  obtain ⟨ad, e, hb, hc⟩ := h.2 (by omega)
  injection e with e
  subst e
  refine ⟨_, rfl, hb, fun j u hj => ?_⟩
  have hs := List.take_append_drop n l
  have hl : (crs (l.take n)).length = n * 7 := by simp; omega
  have := hc (n * 7 + j) u (by
    conv => lhs; rw [← hs, crs_append, List.getElem?_append_right (by omega), hl, Nat.add_sub_cancel_left]
    exact hj)
  unfold Addr.add at this ⊢
  by_cases hj0 : j = 0
  · subst hj0
    by_cases hn0 : n = 0
    · subst hn0; simpa using this
    · simp only [Nat.add_zero] at this
      rw [if_neg (by omega)] at this
      simpa using this
  · have h2 : ¬ (n * 7 + j = 0) := by omega
    simp only [h2, if_false] at this
    simp only [hj0, if_false]
    rw [Nat.add_assoc]; exact this
end Go.Proofs.Ytneijohbmphheaa.Pk
