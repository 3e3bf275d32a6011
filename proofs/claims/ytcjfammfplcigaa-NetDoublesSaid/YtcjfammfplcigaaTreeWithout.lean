/- The tree's without: a row less. -/
import Derived.Test.YtcjfammfplcigaaTreeWith
namespace Go.Proofs.Ytcjfammfplcigaa.Pk
open Go.RowKit Go.Proofs.Ytcjfammfplcigaa.Tb
set_option linter.unusedVariables false

/-- The first of a tree's rows. -/
theorem pick_zero : ∀ (T : Tr), 0 < T.len → ∃ b l k v r, T.pick 0 = .node b l k v r ∧ ∃ rest, T.rows = (k, v) :: rest
  | .leaf, h => by simp [len_leaf] at h
  | .node b l k v r, _ => by
    by_cases h : 0 < l.len
    · obtain ⟨b', l', k', v', r', e, rest, h2⟩ := pick_zero l h
      exact ⟨b', l', k', v', r', by rw [pick_node, if_pos h]; exact e, rest ++ (k, v) :: r.rows, by rw [rows_node, h2]; rfl⟩
    · have h0 : l.rows = [] := by
        have : l.rows.length = 0 := by have := len_rows l; omega
        exact List.length_eq_zero_iff.1 this
      exact ⟨b, l, k, v, r, by rw [pick_node, if_neg h, if_neg (by omega)], r.rows, by rw [rows_node, h0]; rfl⟩
theorem IsT.pick {w : World} : ∀ {T : Tr} (i : Nat), IsT w T → IsT w (T.pick i)
  | .leaf, _, _ => trivial
  | .node b l k v r, i, h => by
    rw [pick_node]
    split
    · exact IsT.pick i h.2.2.1
    · split
      · exact IsT.pick _ h.2.2.2
      · exact h
theorem IsT.keys {w : World} : ∀ {T : Tr}, IsT w T → ∀ y ∈ T.rows, -9223372036854775808 ≤ y.1 ∧ y.1 ≤ 9223372036854775807
  | .leaf, _, _, hy => by cases hy
  | .node b l k v r, h, y, hy => by
    rw [rows_node] at hy
    rcases List.mem_append.1 hy with hy | hy
    · exact IsT.keys h.2.2.1 y hy
    · rcases List.mem_cons.1 hy with rfl | hy
      · exact h.2.1
      · exact IsT.keys h.2.2.2 y hy
theorem Tr.of_p {T : Tr} (h : T.p = none) : T = .leaf := by
  cases T with
  | leaf => rfl
  | node b l k v r => cases h

set_option maxHeartbeats 4000000 in
theorem without_any (T : Tr) : ∀ (k : Int) (w : World), IsT w T → Rises T.rows → T.len ≤ 10000000000000 → (under k T.rows).isSome = true →
    Calls Try.prog 34 #[.pointer T.p, .int .i64 k] w (Made w T.has (del k T.rows)) := by
  induction T with
  | leaf => intro k w _ _ _ h; cases h
  | node b l x v r ihl ihr =>
    intro k w hT hR hn hu
    have hp : (Tr.node b l x v r).p = some ⟨b, 0, none⟩ := rfl
    obtain ⟨hRl, hRr, hll, hlr⟩ := Rises.parts (by rw [rows_node] at hR; exact hR)
    have HLL := Lib.hid hll
    have HLR := Lib.hid hlr
    have X0 := hT.1.cell 0
    have X2 := hT.1.cell 2
    have X3 := hT.1.cell 3
    simp only [ncells] at X0 X2 X3
    rw [len_node] at hn
    rw [hp]
    rw [rows_node] at hu
    by_cases h1 : k < x
    · rw [under_left h1 _ hlr] at hu
      have HI := Lib.hid (fun w1 (hb : Below w.heap.size w w1) => ihl k w1 (hT.below hb).2.2.1 hRl (by omega) hu)
      have HV := Lib.hid (fun w1 (hb : Below w.heap.size w w1) (T1 : Tr) (h1 : IsT w1 T1) (hl : T1.len ≤ l.len) => level_any b x v T1 r w1 (hT.below hb).top h1 (hT.below hb).2.2.2 (by omega))
      have HY := Lib.hid (show ∀ w1, Below w.heap.size w w1 → w1.cell? ⟨b, 2, none⟩ = some (.pointer l.p) ∧ w1.cell? ⟨b, 3, none⟩ = some (.pointer r.p) from fun w1 hb => ⟨(hT.below hb).1.cell 2, (hT.below hb).1.cell 3⟩)
      have HM := Lib.hid (del_left (k := k) (x := (x, v)) h1 r.rows hlr l.rows)
      clear ihl ihr hT hR hRl hRr hll hlr hu
      go_enter Try.func34, Try.ntmps34
      go_wp2_with fail
      go_region_held3 (fun w' => w'.cell? ⟨b, 2, none⟩ = some (.pointer l.p) ∧ w'.cell? ⟨b, 3, none⟩ = some (.pointer r.p)) (first | exact ⟨X2, X3⟩ | exact Z1 | exact Z2 | go_keep) (first
        | (go_at_call 34; go_must (refine (HI.out _ (below_dn (Below.refl _ w) 1)).mono ?_); rintro e w1 ⟨T1, rfl, ht1, hr1, bel1, hx1⟩; have Z1 := HY.out w1 ((below_dn (Below.refl _ w) 1).trans bel1); have Y3 := Z1.2)
        | (go_at_call 37; go_must (refine (HV.out w1 ((below_dn (Below.refl _ w) 1).trans bel1) T1 ht1 (by rw [len_rows, hr1]; exact del_len _)).mono ?_); rintro e w2 ⟨T2, rfl, ht2, hr2, bel2, hx2⟩; have Z2 := HY.out w2 (((below_dn (Below.refl _ w) 1).trans bel1).trans (bel2.mono bel1.size))))
      all_goals go_wp2
      all_goals go_ret
      refine ⟨T2, rfl, ht2, by rw [hr2, hr1, rows_node]; exact HM.out.symm, ((below_dn (Below.refl _ w) 1).trans bel1).trans (bel2.mono bel1.size), fun y hy => ?_⟩
      have s1 := bel1.size
      rcases hx2 y hy with h | h
      · rcases h with h | h
        · rcases hx1 y h with h | h
          · exact .inl (.inr (.inl h))
          · exact .inr h
        · exact .inl (.inr (.inr h))
      · exact .inr (Nat.le_trans s1 h)
    · by_cases h2 : x < k
      · rw [under_right (x := (x, v)) h2 _ _ hll] at hu
        have HI := Lib.hid (fun w1 (hb : Below w.heap.size w w1) => ihr k w1 (hT.below hb).2.2.2 hRr (by omega) hu)
        have HV := Lib.hid (fun w1 (hb : Below w.heap.size w w1) (T1 : Tr) (h1 : IsT w1 T1) (hl : T1.len ≤ r.len) => level_any b x v l T1 w1 (hT.below hb).top (hT.below hb).2.2.1 h1 (by omega))
        have HY := Lib.hid (show ∀ w1, Below w.heap.size w w1 → w1.cell? ⟨b, 2, none⟩ = some (.pointer l.p) ∧ w1.cell? ⟨b, 3, none⟩ = some (.pointer r.p) from fun w1 hb => ⟨(hT.below hb).1.cell 2, (hT.below hb).1.cell 3⟩)
        have HM := Lib.hid (del_right (k := k) (x := (x, v)) h2 r.rows l.rows hll)
        clear ihl ihr hT hR hRl hRr hll hlr hu
        go_enter Try.func34, Try.ntmps34
        go_wp2_with fail
        go_region_held3 (fun w' => w'.cell? ⟨b, 2, none⟩ = some (.pointer l.p) ∧ w'.cell? ⟨b, 3, none⟩ = some (.pointer r.p)) (first | exact ⟨X2, X3⟩ | exact Z1 | exact Z2 | go_keep) (first
          | (go_at_call 34; go_must (refine (HI.out _ (below_dn (Below.refl _ w) 1)).mono ?_); rintro e w1 ⟨T1, rfl, ht1, hr1, bel1, hx1⟩; have Z1 := HY.out w1 ((below_dn (Below.refl _ w) 1).trans bel1); have Y3 := Z1.1)
          | (go_at_call 37; go_must (refine (HV.out w1 ((below_dn (Below.refl _ w) 1).trans bel1) T1 ht1 (by rw [len_rows, hr1]; exact del_len _)).mono ?_); rintro e w2 ⟨T2, rfl, ht2, hr2, bel2, hx2⟩; have Z2 := HY.out w2 (((below_dn (Below.refl _ w) 1).trans bel1).trans (bel2.mono bel1.size))))
        all_goals go_wp2
        all_goals go_ret
        refine ⟨T2, rfl, ht2, by rw [hr2, hr1, rows_node]; exact HM.out.symm, ((below_dn (Below.refl _ w) 1).trans bel1).trans (bel2.mono bel1.size), fun y hy => ?_⟩
        have s1 := bel1.size
        rcases hx2 y hy with h | h
        · rcases h with h | h
          · exact .inl (.inr (.inl h))
          · rcases hx1 y h with h | h
            · exact .inl (.inr (.inr h))
            · exact .inr h
        · exact .inr (Nat.le_trans s1 h)
      · have he : x = k := by omega
        subst he
        have HM := Lib.hid (del_here (k := x) (u := v) r.rows l.rows hll)
        have hxx : ¬ x < x := by omega
        by_cases hl0 : l = .leaf
        · subst hl0
          have HT := Lib.hid hT
          have hp0 : Tr.leaf.p = none := rfl
          rw [hp0] at X2
          clear ihl ihr hT hR hRl hRr hll hlr hu h1 h2
          go_enter Try.func34, Try.ntmps34
          go_wp2_with fail
          go_ret
          exact ⟨r, rfl, HT.out.2.2.2, by rw [rows_node]; exact HM.out.symm, Below.refl _ _, fun y hy => .inl (.inr (.inr hy))⟩
        · by_cases hr0 : r = .leaf
          · subst hr0
            obtain ⟨bl, ll, kl, vl, rl, rfl⟩ : ∃ a b c d e, l = .node a b c d e := by
              cases l with
              | leaf => exact absurd rfl hl0
              | node a b c d e => exact ⟨a, b, c, d, e, rfl⟩
            have HT := Lib.hid hT
            have hp0 : Tr.leaf.p = none := rfl
            have hp1 : (Tr.node bl ll kl vl rl).p = some ⟨bl, 0, none⟩ := rfl
            rw [hp0] at X3
            rw [hp1] at X2
            clear ihl ihr hT hR hRl hRr hll hlr hu h1 h2 hl0
            go_enter Try.func34, Try.ntmps34
            go_wp2_with fail
            go_ret
            exact ⟨.node bl ll kl vl rl, rfl, HT.out.2.2.1, by rw [rows_node]; exact (HM.out.trans (List.append_nil _)).symm, Below.refl _ _, fun y hy => .inl (.inr (.inl hy))⟩
          · have hr1 : 0 < r.len := by
              cases r with
              | leaf => exact absurd rfl hr0
              | node a b c d e => rw [len_node]; omega
            obtain ⟨bl, ll, kl, vl, rl, rfl⟩ : ∃ a b c d e, l = .node a b c d e := by
              cases l with
              | leaf => exact absurd rfl hl0
              | node a b c d e => exact ⟨a, b, c, d, e, rfl⟩
            obtain ⟨br, lr, kr, vr, rr, rfl⟩ := Tr.of_len hr1
            obtain ⟨l, hl⟩ : ∃ l, l = Tr.node bl ll kl vl rl := ⟨_, rfl⟩
            obtain ⟨r, hr⟩ : ∃ r, r = Tr.node br lr kr vr rr := ⟨_, rfl⟩
            have hp2 : l.p = some ⟨bl, 0, none⟩ := by rw [hl]; rfl
            have hp3 : r.p = some ⟨br, 0, none⟩ := by rw [hr]; rfl
            rw [← hl] at hT hRl hn X2 HM
            rw [← hr] at hT hRr hn X3 HM hr1 ihr
            obtain ⟨b2, l2, k2, v2, r2, hpk, rest, hrest⟩ := pick_zero r hr1
            have hT2 := hT.2.2.2.pick 0
            rw [hpk] at hT2
            have hN := nth_tree r 0 w hT.2.2.2 hr1 (by omega)
            have hp4 : (r.pick 0).p = some ⟨b2, 0, none⟩ := by rw [hpk]; rfl
            rw [hp4, hp3] at hN
            have hu2 : (under k2 r.rows).isSome = true := by rw [hrest, look_cons, if_pos rfl]; rfl
            have hd2 : del k2 r.rows = rest := by rw [hrest, del_cons, if_pos rfl]
            have HN := Lib.hid hN
            have HI : Hid (∀ w1, Below w.heap.size w w1 → Calls Try.prog 34 #[.pointer (some ⟨br, 0, none⟩), .int .i64 k2] w1 (Made w1 r.has (del k2 r.rows))) := Lib.hid (fun w1 hb => by
              have := ihr k2 w1 (hT.below hb).2.2.2 hRr (by omega) hu2
              rwa [hp3] at this)
            have HV : Hid (∀ w1, Below w.heap.size w w1 → ∀ T1 : Tr, IsT w1 T1 → T1.len ≤ r.len → Calls Try.prog 37 #[.pointer (some ⟨b2, 0, none⟩), .pointer (some ⟨bl, 0, none⟩), .pointer T1.p] w1 (Made w1 (fun x => l.has x ∨ T1.has x) (l.rows ++ (k2, v2) :: T1.rows))) := Lib.hid (fun w1 hb T1 h1 hl => by
              have := level_any b2 k2 v2 l T1 w1 (hT2.top.below hb) (hT.below hb).2.2.1 h1 (by omega)
              rwa [hp2] at this)
            have HY := Lib.hid (show ∀ w1, Below w.heap.size w w1 → w1.cell? ⟨b, 2, none⟩ = some (.pointer (some ⟨bl, 0, none⟩)) ∧ w1.cell? ⟨b, 3, none⟩ = some (.pointer (some ⟨br, 0, none⟩)) ∧ w1.cell? ⟨b2, 0, none⟩ = some (.int .i64 k2) from fun w1 hb => by
              have e1 := (hT.below hb).1.cell 2
              have e2 := (hT.below hb).1.cell 3
              simp only [ncells, hp2, hp3] at e1 e2
              exact ⟨e1, e2, (hT2.below hb).1.cell 0⟩)
            have HE := Lib.hid (show l.rows ++ (k2, v2) :: del k2 r.rows = del x (l.rows ++ (x, v) :: r.rows) by rw [HM.out, hd2, hrest])
            obtain ⟨X2', X3', Y0⟩ := HY.out w (Below.refl _ _)
            have HLR2 := Lib.hid (And.intro hl hr)
            clear ihl ihr hT hR hRl hRr hll hlr hu hp2 hp3 hp4 hT2 hN hu2 hd2 hrest hpk hl hr hl0 hr0 h1 h2 X2 X3
            go_enter Try.func34, Try.ntmps34
            go_wp2_with fail
            refine HN.out.mono ?_
            rintro e w' ⟨rfl, rfl⟩
            go_wp2_with fail
            go_region_held3 (fun w1 => w1.cell? ⟨b, 2, none⟩ = some (.pointer (some ⟨bl, 0, none⟩)) ∧ w1.cell? ⟨b, 3, none⟩ = some (.pointer (some ⟨br, 0, none⟩)) ∧ w1.cell? ⟨b2, 0, none⟩ = some (.int .i64 k2)) (first | exact ⟨X2', X3', Y0⟩ | exact Z1 | exact Z2 | go_keep) (first
              | (go_at_call 34; go_must (refine (HI.out _ (below_dn (Below.refl _ w') 1)).mono ?_); rintro e w1 ⟨T1, rfl, ht1, hr1, bel1, hx1⟩; have Z1 := HY.out w1 ((below_dn (Below.refl _ w') 1).trans bel1); have Y3 := Z1.1)
              | (go_at_call 37; go_must (refine (HV.out w1 ((below_dn (Below.refl _ w') 1).trans bel1) T1 ht1 (by rw [len_rows, hr1]; exact del_len _)).mono ?_); rintro e w2 ⟨T2, rfl, ht2, hr2, bel2, hx2⟩; have Z2 := HY.out w2 (((below_dn (Below.refl _ w') 1).trans bel1).trans (bel2.mono bel1.size))))
            all_goals go_wp2
            all_goals go_ret
            obtain ⟨hl, hr⟩ := HLR2.out
            refine ⟨T2, rfl, ht2, by rw [hr2, hr1, rows_node, HE.out, hl, hr], ((below_dn (Below.refl _ w') 1).trans bel1).trans (bel2.mono bel1.size), fun y hy => ?_⟩
            have s1 := bel1.size
            rw [← hl, ← hr]
            rcases hx2 y hy with h | h
            · rcases h with h | h
              · exact .inl (.inr (.inl h))
              · rcases hx1 y h with h | h
                · exact .inl (.inr (.inr h))
                · exact .inr h
            · exact .inr (Nat.le_trans s1 h)
end Go.Proofs.Ytcjfammfplcigaa.Pk
