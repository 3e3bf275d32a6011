/- The tree's with: a row more, or another text. -/
import Derived.Test.YtcjfammfplcigaaTreeLevel
import Derived.Test.YtcjfammfplcigaaTreeMath
namespace Go.Proofs.Ytcjfammfplcigaa.Pk
open Go.RowKit Go.Proofs.Ytcjfammfplcigaa.Tb
set_option linter.unusedVariables false

theorem len_rows (T : Tr) : T.len = T.rows.length := rfl
set_option maxHeartbeats 4000000 in
theorem with_any (k : Int) (s : ByteArray) (hk : -9223372036854775808 ≤ k ∧ k ≤ 9223372036854775807) (T : Tr) : ∀ (w : World), IsT w T → Rises T.rows → T.len ≤ 10000000000000 →
    Calls Try.prog 31 #[.pointer T.p, .int .i64 k, .string s] w (Made w T.has (ins k s T.rows)) := by
  induction T with
  | leaf =>
    intro w _ _ _
    have hp : Tr.leaf.p = none := rfl
    rw [hp]
    go_enter Try.func31, Try.ntmps31
    go_wp2_with fail
    go_ret
    exact ⟨.node w.heap.size .leaf k s .leaf, rfl, ⟨Blk.new w _ _, hk, trivial, trivial⟩, rfl, (Below.refl _ w).alloc (Nat.le_refl _) _, fun x hx => by
      rcases hx with rfl | hx | hx
      · exact .inr (Nat.le_refl _)
      · exact hx.elim
      · exact hx.elim⟩
  | node b l x v r ihl ihr =>
    intro w hT hR hn
    have hp : (Tr.node b l x v r).p = some ⟨b, 0, none⟩ := rfl
    obtain ⟨hRl, hRr, hll, hlr⟩ := Rises.parts (by rw [rows_node] at hR; exact hR)
    have HLL := Lib.hid hll
    have X0 := hT.1.cell 0
    have X2 := hT.1.cell 2
    have X3 := hT.1.cell 3
    have X4 := hT.1.cell 4
    simp only [ncells] at X0 X2 X3 X4
    rw [len_node] at hn
    rw [hp]
    by_cases h1 : k < x
    · have HI := Lib.hid (fun w1 (hb : Below w.heap.size w w1) => ihl w1 (hT.below hb).2.2.1 hRl (by omega))
      have HV := Lib.hid (fun w1 (hb : Below w.heap.size w w1) (T1 : Tr) (h1 : IsT w1 T1) (hl : T1.len ≤ l.len + 1) => level_any b x v T1 r w1 (hT.below hb).top h1 (hT.below hb).2.2.2 (by omega))
      have HY := Lib.hid (show ∀ w1, Below w.heap.size w w1 → w1.cell? ⟨b, 2, none⟩ = some (.pointer l.p) ∧ w1.cell? ⟨b, 3, none⟩ = some (.pointer r.p) from fun w1 hb => ⟨(hT.below hb).1.cell 2, (hT.below hb).1.cell 3⟩)
      have HM := Lib.hid (ins_left (k := k) (v := s) (x := (x, v)) h1 r.rows l.rows)
      clear ihl ihr hT hR hRl hRr hll hlr X4
      go_enter Try.func31, Try.ntmps31
      go_wp2_with fail
      go_region_held3 (fun w' => w'.cell? ⟨b, 2, none⟩ = some (.pointer l.p) ∧ w'.cell? ⟨b, 3, none⟩ = some (.pointer r.p)) (first | exact ⟨X2, X3⟩ | exact Z1 | exact Z2 | go_keep) (first
        | (go_at_call 31; go_must (refine (HI.out _ (below_dn (Below.refl _ w) 1)).mono ?_); rintro e w1 ⟨T1, rfl, ht1, hr1, bel1, hx1⟩; have Z1 := HY.out w1 ((below_dn (Below.refl _ w) 1).trans bel1); have Y3 := Z1.2)
        | (go_at_call 37; go_must (refine (HV.out w1 ((below_dn (Below.refl _ w) 1).trans bel1) T1 ht1 (by rw [len_rows, hr1]; exact ins_len _)).mono ?_); rintro e w2 ⟨T2, rfl, ht2, hr2, bel2, hx2⟩; have Z2 := HY.out w2 (((below_dn (Below.refl _ w) 1).trans bel1).trans (bel2.mono bel1.size))))
      all_goals go_wp2
      all_goals go_ret
      refine ⟨T2, rfl, ht2, by rw [hr2, hr1, rows_node]; exact HM.out.symm, ((below_dn (Below.refl _ w) 1).trans bel1).trans (bel2.mono bel1.size), fun y hy => ?_⟩
      have s1 := bel1.size
      rcases hx2 y hy with h | h
      · rcases h with h | h
        · rcases hx1 y h with h | h
          · exact .inl (.inr (.inl h))
          · exact .inr h
        · exact .inl (.inr (.inr h))
      · exact .inr (Nat.le_trans s1 h)
    · by_cases h2 : x < k
      · have HI := Lib.hid (fun w1 (hb : Below w.heap.size w w1) => ihr w1 (hT.below hb).2.2.2 hRr (by omega))
        have HV := Lib.hid (fun w1 (hb : Below w.heap.size w w1) (T1 : Tr) (h1 : IsT w1 T1) (hl : T1.len ≤ r.len + 1) => level_any b x v l T1 w1 (hT.below hb).top (hT.below hb).2.2.1 h1 (by omega))
        have HY := Lib.hid (show ∀ w1, Below w.heap.size w w1 → w1.cell? ⟨b, 2, none⟩ = some (.pointer l.p) ∧ w1.cell? ⟨b, 3, none⟩ = some (.pointer r.p) from fun w1 hb => ⟨(hT.below hb).1.cell 2, (hT.below hb).1.cell 3⟩)
        have HM := Lib.hid (ins_right (k := k) (v := s) (x := (x, v)) h2 r.rows l.rows HLL.out)
        clear ihl ihr hT hR hRl hRr hll hlr X4
        go_enter Try.func31, Try.ntmps31
        go_wp2_with fail
        go_region_held3 (fun w' => w'.cell? ⟨b, 2, none⟩ = some (.pointer l.p) ∧ w'.cell? ⟨b, 3, none⟩ = some (.pointer r.p)) (first | exact ⟨X2, X3⟩ | exact Z1 | exact Z2 | go_keep) (first
          | (go_at_call 31; go_must (refine (HI.out _ (below_dn (Below.refl _ w) 1)).mono ?_); rintro e w1 ⟨T1, rfl, ht1, hr1, bel1, hx1⟩; have Z1 := HY.out w1 ((below_dn (Below.refl _ w) 1).trans bel1); have Y3 := Z1.1)
          | (go_at_call 37; go_must (refine (HV.out w1 ((below_dn (Below.refl _ w) 1).trans bel1) T1 ht1 (by rw [len_rows, hr1]; exact ins_len _)).mono ?_); rintro e w2 ⟨T2, rfl, ht2, hr2, bel2, hx2⟩; have Z2 := HY.out w2 (((below_dn (Below.refl _ w) 1).trans bel1).trans (bel2.mono bel1.size))))
        all_goals go_wp2
        all_goals go_ret
        refine ⟨T2, rfl, ht2, by rw [hr2, hr1, rows_node]; exact HM.out.symm, ((below_dn (Below.refl _ w) 1).trans bel1).trans (bel2.mono bel1.size), fun y hy => ?_⟩
        have s1 := bel1.size
        rcases hx2 y hy with h | h
        · rcases h with h | h
          · exact .inl (.inr (.inl h))
          · rcases hx1 y h with h | h
            · exact .inl (.inr (.inr h))
            · exact .inr h
        · exact .inr (Nat.le_trans s1 h)
      · have he : x = k := by omega
        subst he
        have HM := Lib.hid (ins_here (k := x) (v := s) (u := v) r.rows l.rows HLL.out)
        have HT := Lib.hid hT
        clear ihl ihr hT hR hRl hRr hll hlr h1 h2
        have hxx : ¬ x < x := by omega
        go_enter Try.func31, Try.ntmps31
        go_wp2_with fail
        go_region
        all_goals go_wp2
        all_goals go_ret
        refine ⟨.node w.heap.size l x s r, rfl, ⟨(Blk.new w _ _).drew, hk, (HT.out.2.2.1.alloc _).drew, (HT.out.2.2.2.alloc _).drew⟩, by rw [rows_node, rows_node]; exact HM.out.symm, below_dn ((Below.refl _ w).alloc (Nat.le_refl _) _) 1, fun y hy => ?_⟩
        rcases hy with rfl | hy | hy
        · exact .inr (Nat.le_refl _)
        · exact .inl (.inr (.inl hy))
        · exact .inl (.inr (.inr hy))
end Go.Proofs.Ytcjfammfplcigaa.Pk
