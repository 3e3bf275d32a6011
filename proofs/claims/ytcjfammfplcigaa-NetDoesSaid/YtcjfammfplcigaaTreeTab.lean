/- The table over its tree: New, Put, Get, Delete, Len, Nth; the promises of TableC. -/
import Derived.Test.YtcjfammfplcigaaTreeWithout
namespace Go.Proofs.Ytcjfammfplcigaa.Pk
open Go.RowKit Go.Proofs.Ytcjfammfplcigaa.Tb
set_option linter.unusedVariables false

theorem IsT.seek {w : World} (k : Int) : ∀ {T : Tr}, IsT w T → IsT w (T.seek k)
  | .leaf, _ => trivial
  | .node b l x v r, h => by
    rw [seek_node]
    split
    · exact h
    · split
      · exact IsT.seek k h.2.2.1
      · exact IsT.seek k h.2.2.2
theorem seek_under (k : Int) : ∀ (T : Tr), Rises T.rows → (T.seek k = .leaf ∧ under k T.rows = none) ∨ (∃ b l v r, T.seek k = .node b l k v r ∧ under k T.rows = some v)
  | .leaf, _ => .inl ⟨rfl, rfl⟩
  | .node b l x v r, h => by
    obtain ⟨h1, h2, h3, h4⟩ := Rises.parts (by rw [rows_node] at h; exact h)
    rw [seek_node, rows_node]
    by_cases he : x = k
    · subst he
      exact .inr ⟨b, l, v, r, by rw [if_pos rfl], under_here _ _ h3⟩
    · rw [if_neg he]
      by_cases hl : k < x
      · rw [if_pos hl, under_left (x := (x, v)) hl _ h4]
        exact seek_under k l h1
      · rw [if_neg hl, under_right (x := (x, v)) (show x < k by omega) _ _ h3]
        exact seek_under k r h2
theorem pick_rows : ∀ (T : Tr) (i : Nat), i < T.len → ∃ b l x v r, T.pick i = .node b l x v r ∧ T.rows[i]? = some (x, v)
  | .leaf, i, h => by simp [len_leaf] at h
  | .node b l x v r, i, h => by
    rw [len_node] at h
    rw [pick_node, rows_node]
    by_cases h1 : i < l.len
    · rw [if_pos h1]
      obtain ⟨b', l', x', v', r', e, e2⟩ := pick_rows l i h1
      exact ⟨b', l', x', v', r', e, by rw [List.getElem?_append_left (by rw [← len_rows]; exact h1)]; exact e2⟩
    · rw [if_neg h1]
      by_cases h2 : l.len < i
      · rw [if_pos h2]
        obtain ⟨b', l', x', v', r', e, e2⟩ := pick_rows r (i - l.len - 1) (by omega)
        refine ⟨b', l', x', v', r', e, ?_⟩
        rw [List.getElem?_append_right (by rw [← len_rows]; omega), ← len_rows, show i - l.len = (i - l.len - 1) + 1 by omega, List.getElem?_cons_succ]
        exact e2
      · rw [if_neg h2]
        refine ⟨b, l, x, v, r, rfl, ?_⟩
        have h3 : i = l.len := by omega
        rw [List.getElem?_append_right (by rw [← len_rows]; omega), ← len_rows, h3, Nat.sub_self]; rfl

/-- The table in block T holds the tree t. -/
def IsTab (w : World) (T : Nat) (t : Tr) : Prop := Blk w T 62 #[.pointer t.p] ∧ IsT w t ∧ Rises t.rows
/-- The promises' word for it. -/
def TbT (w : World) (T : Nat) (l : List Rw) (S D : Nat → Prop) : Prop := ∃ t : Tr, IsTab w T t ∧ t.rows = l ∧ S = (fun b => b = T) ∧ D = fun b => b = T ∨ t.has b
theorem IsTab.stay {w w' : World} {T : Nat} {t : Tr} (h : IsTab w T t) (hs : ∀ b, b = T ∨ t.has b → w'.heap[b]? = w.heap[b]?) : IsTab w' T t :=
  ⟨(hs T (.inl rfl)).trans h.1, h.2.1.stay fun b hb => hs b (.inr hb), h.2.2⟩
theorem IsTab.below {w w' : World} {T : Nat} {t : Tr} (h : IsTab w T t) (hb : Below w.heap.size w w') : IsTab w' T t := ⟨h.1.below hb h.1.lt, h.2.1.below hb, h.2.2⟩
theorem IsT.not_has {w : World} {g : Nat} {t' : TypeId} {cs : Array Value} (hg : Blk w g t' cs) (hne : t' ≠ 64) : ∀ {t : Tr}, IsT w t → ¬ t.has g
  | .leaf, _, h => h
  | .node b l k v r, ht, h => by
    rcases h with rfl | h | h
    · exact hg.ne_ ht.1 hne rfl
    · exact IsT.not_has hg hne ht.2.2.1 h
    · exact IsT.not_has hg hne ht.2.2.2 h

theorem root_any (T : Nat) (t : Tr) (w : World) (h : Blk w T 62 #[.pointer t.p]) :
    Calls Try.prog 32 #[.pointer (some ⟨T, 0, none⟩)] w fun e w' => e = .returned (.pointer t.p) ∧ w' = w := by
  have X := h.cell 0
  go_enter Try.func32, Try.ntmps32
  go_wp2_with fail
  go_ret
  exact ⟨rfl, rfl⟩
theorem root_nil (w : World) :
    Calls Try.prog 32 #[.pointer none] w fun e w' => e = .returned (.pointer none) ∧ w' = w := by
  go_enter Try.func32, Try.ntmps32
  go_wp2_with fail
  go_ret
  exact ⟨rfl, rfl⟩
theorem len_any (T : Nat) (t : Tr) (w : World) (h : IsTab w T t) :
    Calls Try.prog 27 #[.pointer (some ⟨T, 0, none⟩)] w fun e w' => e = .returned (.int .i64 (t.len : Int)) ∧ w' = w := by
  have H1 := Lib.hid (root_any T t w h.1)
  have H2 := Lib.hid (count_any t w h.2.1)
  clear h
  go_enter Try.func27, Try.ntmps27
  go_wp2_with fail
  refine H1.out.mono ?_
  rintro e w' ⟨rfl, rfl⟩
  go_wp2_with fail
  refine H2.out.mono ?_
  rintro e w' ⟨rfl, rfl⟩
  go_wp2
  go_ret
  exact ⟨rfl, rfl⟩
theorem get_any (T : Nat) (t : Tr) (k : Int) (w : World) (h : IsTab w T t) :
    Calls Try.prog 25 #[.pointer (some ⟨T, 0, none⟩), .int .i64 k] w fun e w' => e = .returned (.tuple #[.string ((under k t.rows).getD ByteArray.empty), .bool (under k t.rows).isSome]) ∧ w' = w := by
  have H1 := Lib.hid (root_any T t w h.1)
  have hf := find_tree t k w h.2.1
  rcases seek_under k t h.2.2 with ⟨e1, e2⟩ | ⟨b, l, v, r, e1, e2⟩
  · have hp : (t.seek k).p = none := by rw [e1]; rfl
    rw [hp] at hf
    have H2 := Lib.hid hf
    rw [e2]
    clear h e1 e2 hf hp
    go_enter Try.func25, Try.ntmps25
    go_wp2_with fail
    refine H1.out.mono ?_
    rintro e w' ⟨rfl, rfl⟩
    go_wp2_with fail
    refine H2.out.mono ?_
    rintro e w' ⟨rfl, rfl⟩
    go_wp2
    go_ret2
    exact ⟨rfl, rfl⟩
  · have hp : (t.seek k).p = some ⟨b, 0, none⟩ := by rw [e1]; rfl
    have hs := IsT.seek k h.2.1
    rw [e1] at hs
    have X1 := hs.1.cell 1
    simp only [ncells] at X1
    rw [hp] at hf
    have H2 := Lib.hid hf
    rw [e2]
    clear h e1 e2 hf hp hs
    go_enter Try.func25, Try.ntmps25
    go_wp2_with fail
    refine H1.out.mono ?_
    rintro e w' ⟨rfl, rfl⟩
    go_wp2_with fail
    refine H2.out.mono ?_
    rintro e w' ⟨rfl, rfl⟩
    go_wp2
    go_ret2
    exact ⟨rfl, rfl⟩
theorem nth_any (T : Nat) (t : Tr) (i : Int) (w : World) (h : IsTab w T t) (hn : t.len ≤ 10000000000000) :
    Calls Try.prog 23 #[.pointer (some ⟨T, 0, none⟩), .int .i64 i] w fun e w' => e = .returned (.tuple #[.int .i64 (if 0 ≤ i ∧ i < (t.len : Int) then ((t.rows[i.toNat]?.map (·.1)).getD 0) else 0), .bool (decide (0 ≤ i ∧ i < (t.len : Int)))]) ∧ w' = w := by
  have H0 := Lib.hid (len_any T t w h)
  by_cases h0 : 0 ≤ i
  · by_cases h1 : i < (t.len : Int)
    · obtain ⟨j, rfl⟩ : ∃ j : Nat, i = (j : Int) := ⟨i.toNat, by omega⟩
      obtain ⟨b, l, x, v, r, e1, e2⟩ := pick_rows t j (by omega)
      have hp : (t.pick j).p = some ⟨b, 0, none⟩ := by rw [e1]; rfl
      have hs := IsT.pick j h.2.1
      rw [e1] at hs
      have X := h.1.cell 0
      have X0 := hs.1.cell 0
      simp only [ncells] at X0
      have hf := nth_tree t j w h.2.1 (by omega) (by omega)
      rw [hp] at hf
      have H2 := Lib.hid hf
      have HE := Lib.hid (show (t.rows[(j : Int).toNat]?.map (·.1)).getD 0 = x by rw [Int.toNat_natCast, e2]; rfl)
      rw [if_pos ⟨h0, h1⟩, decide_eq_true (show 0 ≤ (j : Int) ∧ (j : Int) < (t.len : Int) from ⟨h0, h1⟩), HE.out]
      clear h e1 e2 hf hp hs
      go_enter Try.func23, Try.ntmps23
      go_wp2_with fail
      refine H0.out.mono ?_
      rintro e w' ⟨rfl, rfl⟩
      go_wp2_with fail
      refine H2.out.mono ?_
      rintro e w' ⟨rfl, rfl⟩
      go_wp2
      go_ret2
      exact ⟨rfl, rfl⟩
    · have h2 : (t.len : Int) ≤ i := by omega
      rw [if_neg (fun hh => h1 hh.2), decide_eq_false (fun hh => h1 hh.2)]
      clear h h1
      go_enter Try.func23, Try.ntmps23
      go_wp2_with fail
      refine H0.out.mono ?_
      rintro e w' ⟨rfl, rfl⟩
      go_wp2
      go_ret2
      exact ⟨rfl, rfl⟩
  · have h2 : i < 0 := by omega
    rw [if_neg (fun hh => h0 hh.1), decide_eq_false (fun hh => h0 hh.1)]
    clear h h0
    go_enter Try.func23, Try.ntmps23
    go_wp2_with fail
    go_ret2
    exact ⟨rfl, rfl⟩
theorem new_any (w : World) :
    Calls Try.prog 21 #[] w fun e w' => ∃ T, e = .returned (.pointer (some ⟨T, 0, none⟩)) ∧ T = w.heap.size ∧ IsTab w' T .leaf ∧ Below w.heap.size w w' := by
  go_enter Try.func21, Try.ntmps21
  go_wp2_with fail
  go_ret
  exact ⟨w.heap.size, rfl, rfl, ⟨Blk.new w _ _, trivial, List.Pairwise.nil⟩, (Below.refl _ w).alloc (Nat.le_refl _) _⟩
theorem put_tree (T : Nat) (t : Tr) (k : Int) (s : ByteArray) (hk : -9223372036854775808 ≤ k ∧ k ≤ 9223372036854775807) (w : World) (h : IsTab w T t) (hn : t.len ≤ 5000000000000) :
    Calls Try.prog 24 #[.pointer (some ⟨T, 0, none⟩), .int .i64 k, .string s] w fun e w' =>
      e = .returned (.bool (at_ k t.rows).isNone) ∧ ∃ t', IsTab w' T t' ∧ t'.rows = ins k s t.rows ∧ Turned (fun b => b = T) w w' ∧ ∀ b, t'.has b → t.has b ∨ w.heap.size ≤ b := by
  have H0 := Lib.hid (len_any T t w h)
  have H1 := Lib.hid (with_any k s hk t w h.2.1 h.2.2 (by omega))
  have X := h.1.cell 0
  have XF := h.1.frozen 0
  have HH := Lib.hid h
  have HLn := Lib.hid (ins_length (k := k) (v := s) t.rows h.2.2)
  clear h
  go_enter Try.func24, Try.ntmps24
  go_wp2_with fail
  refine H0.out.mono ?_
  rintro e w' ⟨rfl, rfl⟩
  go_wp2_with fail
  refine H1.out.mono ?_
  rintro e w1 ⟨t1, rfl, ht1, hr1, bel1, hx1⟩
  have HB := Lib.hid (HH.out.1.below bel1 HH.out.1.lt)
  have X1 := HB.out.cell 0
  have XF1 := HB.out.frozen 0
  have HT1 := Lib.hid ht1
  have HX1 := Lib.hid hx1
  have HR1 := Lib.hid hr1
  have HL1 := Lib.hid bel1
  clear X XF ht1 hx1 hr1 bel1 H1
  go_wp2_with fail
  have hnT : ¬ t1.has T := IsT.not_has HB.out (by decide) HT1.out
  have hT2 : IsTab (w1.setCell ⟨T, 0, none⟩ (.pointer t1.p)) T t1 := ⟨blk_put HB.out _, HT1.out.stay fun b hb => Below.heap_setCell w1 ⟨T, 0, none⟩ _ b (fun e => hnT (by simp at e; subst e; exact hb)), by rw [HR1.out]; exact ins_rises HH.out.2.2⟩
  have H2 := Lib.hid (len_any T t1 _ hT2)
  refine H2.out.mono ?_
  rintro e w2 ⟨rfl, hw2⟩
  have HT2 := Lib.hid hT2
  have HL2 : Hid (Turned (fun b => b = T) w' w2) := by
    rw [hw2]
    have hb := HL1.out
    exact ⟨hb.os, hb.tape, hb.output, by simpa [World.setCell] using hb.size, fun i hi hn => (Below.heap_setCell w1 ⟨T, 0, none⟩ _ i (fun e => hn e)).trans (hb.block i hi)⟩
  rw [← hw2] at HT2
  have hlen : t1.len = t.len + if (at_ k t.rows).isNone then 1 else 0 := by rw [len_rows, HR1.out]; exact HLn.out
  have HN := Lib.hid hlen
  clear hT2 hnT hw2 hlen X1 XF1
  go_wp2
  go_ret
  refine ⟨?_, t1, HT2.out, HR1.out, HL2.out, HX1.out⟩
  have := HN.out
  cases hq : (at_ k t.rows).isNone with
  | false => rw [hq] at this; simp at this; rw [this]; simp
  | true => rw [hq] at this; simp at this; rw [this]; simp

theorem delete_tree (T : Nat) (t : Tr) (k : Int) (w : World) (h : IsTab w T t) (hn : t.len ≤ 5000000000000) :
    Calls Try.prog 26 #[.pointer (some ⟨T, 0, none⟩), .int .i64 k] w fun e w' =>
      e = .returned (.bool (at_ k t.rows).isSome) ∧ ∃ t', IsTab w' T t' ∧ t'.rows = del k t.rows ∧ Turned (fun b => b = T) w w' ∧ ∀ b, t'.has b → t.has b ∨ w.heap.size ≤ b := by
  have H1 := Lib.hid (root_any T t w h.1)
  have hf := find_tree t k w h.2.1
  rcases seek_under k t h.2.2 with ⟨e1, e2⟩ | ⟨b, l, v, r, e1, e2⟩
  · have hp : (t.seek k).p = none := by rw [e1]; rfl
    rw [hp] at hf
    have H2 := Lib.hid hf
    have HE := Lib.hid (look_at.1 e2)
    have HH := Lib.hid h
    clear h e1 e2 hf hp
    go_enter Try.func26, Try.ntmps26
    go_wp2_with fail
    refine H1.out.mono ?_
    rintro e w' ⟨rfl, rfl⟩
    go_wp2_with fail
    refine H2.out.mono ?_
    rintro e w' ⟨rfl, rfl⟩
    go_wp2
    go_ret
    exact ⟨by rw [HE.out]; rfl, t, HH.out, (del_none HE.out).symm, Turned.of (Below.refl _ _) (Nat.le_refl _) _, fun b hb => .inl hb⟩
  · have hp : (t.seek k).p = some ⟨b, 0, none⟩ := by rw [e1]; rfl
    rw [hp] at hf
    have H2 := Lib.hid hf
    have HE := Lib.hid (show (at_ k t.rows).isSome = true by rw [at_isSome, e2]; rfl)
    have H3 := Lib.hid (without_any t k w h.2.1 h.2.2 (by omega) (by rw [e2]; rfl))
    have X := h.1.cell 0
    have XF := h.1.frozen 0
    have HH := Lib.hid h
    clear h e1 e2 hf hp
    go_enter Try.func26, Try.ntmps26
    go_wp2_with fail
    refine H1.out.mono ?_
    rintro e w' ⟨rfl, rfl⟩
    go_wp2_with fail
    refine H2.out.mono ?_
    rintro e w' ⟨rfl, rfl⟩
    go_wp2_with fail
    refine H3.out.mono ?_
    rintro e w1 ⟨t1, rfl, ht1, hr1, bel1, hx1⟩
    have HB := Lib.hid (HH.out.1.below bel1 HH.out.1.lt)
    have X1 := HB.out.cell 0
    have XF1 := HB.out.frozen 0
    have HT1 := Lib.hid ht1
    have HX1 := Lib.hid hx1
    have HR1 := Lib.hid hr1
    have HL1 := Lib.hid bel1
    clear X XF ht1 hx1 hr1 bel1 H1 H2 H3
    go_wp2
    go_ret
    have hnT : ¬ t1.has T := IsT.not_has HB.out (by decide) HT1.out
    have hb := HL1.out
    exact ⟨by rw [HE.out]; rfl, t1, ⟨blk_put HB.out _, HT1.out.stay fun b hb => Below.heap_setCell w1 ⟨T, 0, none⟩ _ b (fun e => hnT (by simp at e; subst e; exact hb)), by rw [HR1.out]; exact del_rises HH.out.2.2⟩, HR1.out,
      ⟨hb.os, hb.tape, hb.output, by simpa [World.setCell] using hb.size, fun i hi hn => (Below.heap_setCell w1 ⟨T, 0, none⟩ _ i (fun e => hn e)).trans (hb.block i hi)⟩, HX1.out⟩

end Go.Proofs.Ytcjfammfplcigaa.Pk
