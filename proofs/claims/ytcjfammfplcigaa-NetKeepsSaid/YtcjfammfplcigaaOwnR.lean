/- Bytes that a call answers in memory of its own, as they may be read and written in place: also the bytes of a text, whose row bears a mark behind its end. -/
import Derived.Test.YtcjfammfplcigaaSets
import Derived.Test.YtcjfammfplcigaaHold
import Derived.Test.YtcjfammfplcigaaCut
import Derived.Lib.ConvBytes
namespace Go.Proofs.Ytcjfammfplcigaa.Pk
open Go.RowKit
set_option linter.unusedVariables false
def OwnR (w : World) (B : Nat) (v : Value) (l : List Int) : Prop :=
  ∃ A n c, v = .slice A n c ∧ l.length = n ∧ n ≤ c ∧ ((A = none ∧ n = 0) ∨ ∃ g cur mk, A = some ⟨g, 0, none⟩ ∧ B ≤ g ∧ w.heap[g]? = some (.cells cur 5 mk) ∧ (∀ j, j < n → mk.2 ≤ j ∨ j < mk.1) ∧ n ≤ cur.size ∧ cur.toList.take n = bts l)
theorem OwnB.r {w : World} {B : Nat} {v : Value} {l : List Int} (h : OwnB w B v l) : OwnR w B v l := by
  obtain ⟨h1, h2⟩ := h
  rcases h2 with ⟨rfl, h0⟩ | ⟨g, cap, cur, rfl, hg, hh, hn, hm, hs, ht⟩
  · exact ⟨none, 0, 0, rfl, h0, Nat.le_refl _, .inl ⟨rfl, rfl⟩⟩
  · exact ⟨_, _, _, rfl, rfl, hn, .inr ⟨g, cur, (0, 0), rfl, hg, hh, fun j hj => .inl (Nat.zero_le _), by omega, by rw [Nat.mul_one] at ht; exact ht⟩⟩
theorem OwnR.nil_ (w : World) (B : Nat) : OwnR w B (.slice none 0 0) [] := ⟨none, 0, 0, rfl, rfl, Nat.le_refl _, .inl ⟨rfl, rfl⟩⟩
theorem owr_slice {w : World} {B : Nat} {v : Value} {l : List Int} (h : OwnR w B v l) : ∃ A n c, v = .slice A n c := by
  obtain ⟨A, n, c, e, _⟩ := h
  exact ⟨A, n, c, e⟩
section
variable {w w' : World} {B : Nat} {A : Option Addr} {n c : Nat} {l : List Int}
theorem OwnR.parts (h : OwnR w B (.slice A n c) l) : l.length = n ∧ n ≤ c ∧ ((A = none ∧ n = 0) ∨ ∃ g cur mk, A = some ⟨g, 0, none⟩ ∧ B ≤ g ∧ w.heap[g]? = some (.cells cur 5 mk) ∧ (∀ j, j < n → mk.2 ≤ j ∨ j < mk.1) ∧ n ≤ cur.size ∧ cur.toList.take n = bts l) := by
  obtain ⟨A', n', c', e, h2⟩ := h
  injection e with e1 e2 e3
  subst e1; subst e2; subst e3
  exact h2
theorem owr_len (h : OwnR w B (.slice A n c) l) : l.length = n ∧ n ≤ c := ⟨h.parts.1, h.parts.2.1⟩
theorem owr_base {v : Value} (h : OwnR w B v l) : ∀ g, v.ownBlock = some g → B ≤ g := by
  obtain ⟨A', n', c', rfl, _, _, h2⟩ := h
  intro g hg
  rcases h2 with ⟨rfl, _⟩ | ⟨g', cur, mk, rfl, hb, _⟩
  · simp [Value.ownBlock] at hg
  · simp [Value.ownBlock] at hg; omega
theorem owr_kind {v : Value} (h : OwnR w B v l) : ∀ g, v.ownBlock = some g → ∃ cs mk, w.heap[g]? = some (.cells cs 5 mk) := by
  obtain ⟨A', n', c', rfl, _, _, h2⟩ := h
  intro g hg
  rcases h2 with ⟨rfl, _⟩ | ⟨g', cur, mk, rfl, hb, hh, _⟩
  · simp [Value.ownBlock] at hg
  · simp [Value.ownBlock] at hg; subst hg; exact ⟨cur, mk, hh⟩
theorem owr_ltP {v : Value} (h : OwnR w B v l) : ∀ g, v.ownBlock = some g → g < w.heap.size := by
  intro g hg
  obtain ⟨cs, mk, hh⟩ := owr_kind h g hg
  rcases Nat.lt_or_ge g w.heap.size with h' | h'
  · exact h'
  · rw [Array.getElem?_eq_none h'] at hh; cases hh
theorem OwnR.stay {v : Value} (h : OwnR w B v l) (hk : ∀ g, v.ownBlock = some g → w'.heap[g]? = w.heap[g]?) : OwnR w' B v l := by
  obtain ⟨A', n', c', rfl, h1, h2, h3⟩ := h
  refine ⟨A', n', c', rfl, h1, h2, ?_⟩
  rcases h3 with h3 | ⟨g, cur, mk, rfl, hb, hh, hr⟩
  · exact .inl h3
  · exact .inr ⟨g, cur, mk, rfl, hb, (hk g rfl).trans hh, hr⟩
theorem OwnR.mono {B' : Nat} {v : Value} (h : OwnR w B v l) (hB : B' ≤ B) : OwnR w B' v l := by
  obtain ⟨A', n', c', rfl, h1, h2, h3⟩ := h
  refine ⟨A', n', c', rfl, h1, h2, ?_⟩
  rcases h3 with h3 | ⟨g, cur, mk, rfl, hb, hr⟩
  · exact .inl h3
  · exact .inr ⟨g, cur, mk, rfl, by omega, hr⟩
theorem OwnR.keep {B' : Nat} {v : Value} (h : OwnR w B v l) (hb : Below B' w w') (hB' : w.heap.size ≤ B') : OwnR w' B v l :=
  h.stay fun g hg => hb.block g (by have := owr_ltP h g hg; omega)
theorem OwnR.cell (h : OwnR w B (.slice A n c) l) {i : Nat} (hin : i < n) : ∃ g, A = some ⟨g, 0, none⟩ ∧ w.cell? ⟨g, i, none⟩ = some (.int .u8 (l.getD i 0)) ∧ w.frozen? ⟨g, i, none⟩ = false := by
  obtain ⟨h1, h2, h3⟩ := h.parts
  rcases h3 with ⟨_, h0⟩ | ⟨g, cur, mk, rfl, hb, hh, hf, hs, ht⟩
  · omega
  · refine ⟨g, rfl, ?_, ?_⟩
    · have hj := congrArg (fun (z : List Value) => z[i]?) ht
      simp only [bts, List.getElem?_take, List.getElem?_map, Array.getElem?_toList] at hj
      rw [if_pos hin] at hj
      have hl : l[i]? = some (l[i]'(by omega)) := List.getElem?_eq_getElem (by omega)
      simp only [World.cell?, hh]
      rw [List.getD_eq_getElem?_getD, hl]
      rw [hl] at hj
      simpa using hj
    · have := hf i hin
      simp only [World.frozen?, hh]
      simp
      omega
theorem owr_reads (h : OwnR w B (.slice A n c) l) : Reads w w.heap.size 1 A n (bts l) := by
  have h1 := h.parts.1
  refine ⟨by simp; exact h1, fun hn => ?_⟩
  obtain ⟨g, rfl, _⟩ := h.cell hn
  refine ⟨_, rfl, owr_ltP h g rfl, fun j u hu => ?_⟩
  have hj : j < n := by have := (List.getElem?_eq_some_iff.1 hu).1; simp at this; omega
  obtain ⟨g', e, hc, _⟩ := h.cell hj
  injection e with e
  injection e with e
  subst e
  rw [show (⟨g, 0, none⟩ : Addr).add j = ⟨g, j, none⟩ by unfold Addr.add; split <;> simp_all]
  rw [hc]
  simp only [bts, List.getElem?_map] at hu
  have hl : l[j]? = some (l[j]'(by omega)) := List.getElem?_eq_getElem (by omega)
  rw [hl] at hu
  rw [List.getD_eq_getElem?_getD, hl]
  simpa using hu
end
/-- The same, with a bound of the block. -/
def OwnJ (lo hi : Nat) (v : Value) (l : List Int) (w : World) : Prop := OwnR w lo v l ∧ ∀ g, v.ownBlock = some g → g < hi
/-- A byte is stored. -/
theorem OwnJ.store {lo hi : Nat} {A : Option Addr} {n c i : Nat} {l : List Int} {w : World} (h : OwnJ lo hi (.slice A n c) l w) (hin : i < n) :
    ∃ g, A = some ⟨g, 0, none⟩ ∧ lo ≤ g ∧ g < hi ∧ g < w.heap.size ∧ w.cell? ⟨g, i, none⟩ = some (.int .u8 (l.getD i 0)) ∧ w.frozen? ⟨g, i, none⟩ = false ∧
      ∀ x, OwnJ lo hi (.slice A n c) (l.set i x) (w.setCell ⟨g, i, none⟩ (.int .u8 x)) ∧ Mod lo hi w (w.setCell ⟨g, i, none⟩ (.int .u8 x)) := by
  obtain ⟨g, rfl, hc, hf⟩ := h.1.cell hin
  have hlo := owr_base h.1 g rfl
  have hhi := h.2 g rfl
  have hlt := owr_ltP h.1 g rfl
  refine ⟨g, rfl, hlo, hhi, hlt, hc, hf, fun x => ⟨⟨?_, h.2⟩, ?_⟩⟩
  · obtain ⟨h1, h2, h3⟩ := h.1.parts
    rcases h3 with ⟨e, _⟩ | ⟨g', cur, mk, e, hb, hh, hf, hs, ht⟩
    · cases e
    · injection e with e
      injection e with e
      subst e
      refine ⟨_, _, _, rfl, by simpa using h1, h2, .inr ⟨g, cur.setIfInBounds i (.int .u8 x), mk, rfl, hb, by simp [World.setCell, Array.getElem?_modify, hh], hf, by simpa using hs, ?_⟩⟩
      apply List.ext_getElem?
      intro j
      have hj := congrArg (fun (z : List Value) => z[j]?) ht
      simp only [bts, List.getElem?_take, List.getElem?_map, Array.getElem?_toList] at hj
      simp only [bts, List.getElem?_take, List.getElem?_map, Array.getElem?_toList, Array.getElem?_setIfInBounds, List.getElem?_set]
      by_cases hji : j < n
      · rw [if_pos hji] at hj ⊢
        by_cases hij : i = j
        · subst hij
          rw [if_pos rfl, if_pos rfl, if_pos (by omega), if_pos (by omega)]
          rfl
        · rw [if_neg hij, if_neg hij]; exact hj
      · rw [if_neg hji] at hj ⊢
        by_cases hij : i = j
        · omega
        · rw [if_neg hij]; exact hj
  · exact ⟨rfl, rfl, rfl, by simp [World.setCell], fun k hk hn => Below.heap_setCell w ⟨g, i, none⟩ _ k (fun e => by simp at e; omega)⟩
/-- What a text's bytes lie in, where the text is bytes made a text. -/
theorem OwnR.conv (w : World) (l : List Int) (hl : ∀ y ∈ l, 0 ≤ y ∧ y ≤ 255) : OwnR (Lib.bytesWorld w 5 (strOfNums l)) w.heap.size (.slice (some ⟨w.heap.size, 0, none⟩) l.length (grownCap w l.length 0 5)) l ∧ Below w.heap.size w (Lib.bytesWorld w 5 (strOfNums l)) := by
  have hs : (strOfNums l).size = l.length := by simp [strOfNums, ByteArray.size]
  have hge := grownCap_ge w l.length 0 5
  refine ⟨⟨_, _, _, rfl, rfl, hge, .inr ⟨w.heap.size, _, _, rfl, Nat.le_refl _, Lib.bytesWorld_at_new w _ _, fun j hj => .inr ?_, ?_, ?_⟩⟩, ?_⟩
  · simp only [Lib.bytesCells, Array.size_append, Array.size_map, Array.size_replicate]
    have h1 : (strOfNums l).data.size = l.length := hs
    omega
  · simp only [Lib.bytesCells, Array.size_append, Array.size_map, Array.size_replicate]
    have h1 : (strOfNums l).data.size = l.length := hs
    omega
  · simp only [Lib.bytesCells, Array.toList_append, Array.toList_map]
    rw [List.take_append_of_le_length (by have h1 : (strOfNums l).data.size = l.length := hs; simp; omega)]
    rw [List.take_of_length_le (by have h1 : (strOfNums l).data.size = l.length := hs; simp; omega)]
    simp only [strOfNums, bts]
    rw [List.map_map]
    apply List.map_congr_left
    intro y hy
    have h1 := hl y hy
    simp only [Function.comp_apply, UInt8.toNat_ofNat']
    rw [Nat.mod_eq_of_lt (by omega), Int.toNat_of_nonneg h1.1]
  · refine ⟨rfl, rfl, rfl, ?_, fun i hi => Lib.bytesWorld_at_old w _ _ i hi⟩
    rw [Lib.bytesWorld_size]; omega
end Go.Proofs.Ytcjfammfplcigaa.Pk
