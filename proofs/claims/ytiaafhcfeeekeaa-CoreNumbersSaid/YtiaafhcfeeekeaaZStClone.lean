/- fault: why an event can't be one of a state. -/
import Derived.Test.YtiaafhcfeeekeaaZCoComes
import Derived.Test.YtiaafhcfeeekeaaZCoSpec
import Derived.Test.YtiaafhcfeeekeaaZChSpec
import Derived.Test.YtiaafhcfeeekeaaZCeEq
import Derived.Lib.SliceRun
namespace Go.Proofs.Ytiaafhcfeeekeaa.Pk
open Go.RowKit Go.Proofs.Ytiaafhcfeeekeaa.Gr
set_option linter.unusedVariables false
open Classical in
noncomputable def faultS (ps : List Int) (s : St) (ev : Ev) : Int :=
  if ¬ GoodS ps s then 24 else if ev.k < 1 ∨ 4 < ev.k then 25 else if ev.k = 4 then (if ComesS ps s ev.g then 0 else 25) else if ev.o < 0 ∨ (s.os.length : Int) ≤ ev.o then 20 else 0
set_option maxRecDepth 100000 in
set_option maxHeartbeats 8000000 in
theorem faultC_any (T g : Nat) (ps : List Int) (s : StL) (ev : Ev) (w : World) (htr : IsTr w T g ps) (G : Gr.Good ps) (hin : InS w s) (hI : ev.I) :
    Calls Try.prog 22 #[.pointer (some ⟨T, 0, none⟩), s.val, ev.val] w fun e w' => e = .returned (.int .i64 (faultS ps s.v ev)) ∧ Below w.heap.size w w' := by
  have HGd := Lib.hid (fun W (hW : Below w.heap.size w W) => goodS T g ps s W (htr.below_ hW) G (hin.next hW))
  have HCm := Lib.hid (fun W (hW : Below w.heap.size w W) => comes_any T g ps s ev.g W (htr.below_ hW) G (hin.next hW) hI.g)
  obtain ⟨t, ht⟩ : ∃ t, t = faultS ps s.v ev := ⟨_, rfl⟩
  have HTt := Lib.hid ht
  rw [← ht]
  have hol : s.v.os.length = s.os.length := by simp [StL.v]
  have hos : s.os.length = s.so.n := hin.os.len
  have HOl : Hid ((s.v.os.length : Int) = (s.so.n : Int)) := Lib.hid (by rw [hol, hos])
  clear htr G hin hI ht hol hos
  obtain ⟨cm, hcm⟩ : ∃ c, c = decide (ComesS ps s.v ev.g) := ⟨_, rfl⟩
  have HCd := Lib.hid hcm
  rw [← hcm] at HCm
  clear hcm
  obtain ⟨me, os, ⟨D1, d1, k1⟩, es, ⟨D2, d2, k2⟩, q0, as_, ⟨D3, d3, k3⟩, gs, ⟨D4, d4, k4⟩⟩ := s
  obtain ⟨ek, eo, ⟨gf, gt, ga, gs_, ⟨mk, mo, mn, mu, mv⟩⟩⟩ := ev
  simp only [StL.val, Sl.val, Gm.val] at HGd HCm HOl
  show Calls Try.prog 22 #[.pointer (some ⟨T, 0, none⟩), .agg #[.int .i64 me, .slice D1 d1 k1, .slice D2 d2 k2, .int .i64 q0, .slice D3 d3 k3, .slice D4 d4 k4], .agg #[.int .i64 ek, .int .i64 eo, .int .i64 gf, .int .i64 gt, .int .i64 ga, .int .i64 gs_, .int .i64 mk, .int .i64 mo, .int .i64 mn, .int .i64 mu, .int .i64 mv]] w _
  obtain ⟨p, hp⟩ : ∃ p, p = w.heap.size := ⟨_, rfl⟩
  obtain ⟨q, hq⟩ : ∃ q, q = p + 1 := ⟨_, rfl⟩
  obtain ⟨wa, hwa⟩ : ∃ W, W = w.alloc (.cells #[.int .i64 me, .slice D1 d1 k1, .slice D2 d2 k2, .int .i64 q0, .slice D3 d3 k3, .slice D4 d4 k4] 28) := ⟨_, rfl⟩
  obtain ⟨W1, hW1⟩ : ∃ W, W = wa.alloc (.cells #[.int .i64 ek, .int .i64 eo, .int .i64 gf, .int .i64 gt, .int .i64 ga, .int .i64 gs_, .int .i64 mk, .int .i64 mo, .int .i64 mn, .int .i64 mu, .int .i64 mv] 34) := ⟨_, rfl⟩
  have hsa : wa.heap.size = p + 1 := by rw [hwa, World.size_alloc, hp]
  have hba : Below w.heap.size w wa := hwa ▸ (Below.refl _ _).alloc (Nat.le_refl _) _
  have HB1 : Hid (Below w.heap.size w W1) := Lib.hid (hW1 ▸ hba.alloc (by omega) _)
  have HP : Hid (Blk W1 p 28 #[.int .i64 me, .slice D1 d1 k1, .slice D2 d2 k2, .int .i64 q0, .slice D3 d3 k3, .slice D4 d4 k4]) := Lib.hid (by rw [hW1, hwa, hp]; exact (Blk.new w _ _).alloc _)
  have HQ : Hid (Blk W1 q 34 #[.int .i64 ek, .int .i64 eo, .int .i64 gf, .int .i64 gt, .int .i64 ga, .int .i64 gs_, .int .i64 mk, .int .i64 mo, .int .i64 mn, .int .i64 mu, .int .i64 mv]) := Lib.hid (by rw [hW1, hq, ← hsa]; exact Blk.new wa _ _)
  have HX : Hid (∀ W, Below W1.heap.size W1 W → W.cell? ⟨p, 0, none⟩ = some (.int .i64 me) ∧ W.cell? ⟨p, 1, none⟩ = some (.slice D1 d1 k1) ∧ W.cell? ⟨p, 2, none⟩ = some (.slice D2 d2 k2) ∧ W.cell? ⟨p, 3, none⟩ = some (.int .i64 q0) ∧ W.cell? ⟨p, 4, none⟩ = some (.slice D3 d3 k3) ∧ W.cell? ⟨p, 5, none⟩ = some (.slice D4 d4 k4) ∧ W.cell? ⟨q, 0, none⟩ = some (.int .i64 ek) ∧ W.cell? ⟨q, 1, none⟩ = some (.int .i64 eo) ∧ W.cell? ⟨q, 2, none⟩ = some (.int .i64 gf) ∧ W.cell? ⟨q, 3, none⟩ = some (.int .i64 gt) ∧ W.cell? ⟨q, 4, none⟩ = some (.int .i64 ga) ∧ W.cell? ⟨q, 5, none⟩ = some (.int .i64 gs_) ∧ W.cell? ⟨q, 6, none⟩ = some (.int .i64 mk) ∧ W.cell? ⟨q, 7, none⟩ = some (.int .i64 mo) ∧ W.cell? ⟨q, 8, none⟩ = some (.int .i64 mn) ∧ W.cell? ⟨q, 9, none⟩ = some (.int .i64 mu) ∧ W.cell? ⟨q, 10, none⟩ = some (.int .i64 mv)) := Lib.hid (fun W hW => by
    have h1 := HP.out.below hW HP.out.lt
    have h2 := HQ.out.below hW HQ.out.lt
    exact ⟨h1.cell 0, h1.cell 1, h1.cell 2, h1.cell 3, h1.cell 4, h1.cell 5, h2.cell 0, h2.cell 1, h2.cell 2, h2.cell 3, h2.cell 4, h2.cell 5, h2.cell 6, h2.cell 7, h2.cell 8, h2.cell 9, h2.cell 10⟩)
  obtain ⟨x0, x1, x2, x3, x4, x5, y0, y1, y2, y3, y4, y5, y6, y7, y8, y9, y10⟩ := HX.out W1 (Below.refl _ _)
  have HW1 := Lib.hid hW1
  rw [hW1, hwa] at x0 x1 x2 x3 x4 x5 y0 y1 y2 y3 y4 y5 y6 y7 y8 y9 y10
  have HWa := Lib.hid hwa
  clear hsa hba
  go_enter Try.func22, Try.ntmps22
  go_wp2_with fail
  rw [← HWa.out, ← HW1.out, ← hp, ← hq]
  clear hwa hW1 hp hq x0 x1 x2 x3 x4 x5 y0 y1 y2 y3 y4 y5 y6 y7 y8 y9 y10
  refine (HGd.out W1 HB1.out).mono ?_
  rintro e w2 ⟨bg, rfl, hbg, hb2⟩
  have HBg := Lib.hid hbg
  have HB2 := Lib.hid hb2
  have HBw : Hid (Below w.heap.size w w2) := Lib.hid (HB1.out.trans (hb2.mono HB1.out.size))
  obtain ⟨x0, x1, x2, x3, x4, x5, y0, y1, y2, y3, y4, y5, y6, y7, y8, y9, y10⟩ := HX.out w2 hb2
  clear hbg hb2
  cases bg with
  | false =>
    have hg : ¬ GoodS ps _ := fun h => by have := HBg.out.2 h; cases this
    have HE : Hid (t = 24) := Lib.hid (by rw [HTt.out]; unfold faultS; rw [if_pos hg])
    clear hg
    go_wp2
    go_ret
    exact ⟨by rw [HE.out]; rfl, HBw.out⟩
  | true =>
    have hg := HBg.out.1 rfl
    by_cases h1 : ek < 1 ∨ 4 < ek
    · have HE : Hid (t = 25) := Lib.hid (by rw [HTt.out]; unfold faultS; rw [if_neg (fun h => h hg), if_pos h1])
      clear hg
      by_cases h2 : ek < 1
      · have t1 : decide (ek < 1) = true := by simpa using h2
        clear h1 h2
        go_wp2
        go_ret
        exact ⟨by rw [HE.out]; rfl, HBw.out⟩
      · have t1 : decide (ek < 1) = false := by simpa using h2
        have t2 : decide (4 < ek) = true := by simp; omega
        clear h1 h2
        go_wp2
        go_ret
        exact ⟨by rw [HE.out]; rfl, HBw.out⟩
    · have t1 : decide (ek < 1) = false := by simp; omega
      have t2 : decide (4 < ek) = false := by simp; omega
      by_cases h4 : ek = 4
      · have t4 : (ek == 4) = true := by simpa using h4
        cases cm with
        | true =>
          have hc : ComesS ps _ _ := of_decide_eq_true HCd.out.symm
          have HE : Hid (t = 0) := Lib.hid (by rw [HTt.out]; unfold faultS; rw [if_neg (fun h => h hg), if_neg h1, if_pos h4, if_pos hc])
          clear hg h1 h4 hc
          go_wp2_with fail
          refine (HCm.out w2 HBw.out).mono ?_
          rintro e w3 ⟨rfl, hb3⟩
          have HB3 := Lib.hid hb3
          clear hb3 x0 x1 x2 x3 x4 x5 y0 y1 y2 y3 y4 y5 y6 y7 y8 y9 y10
          go_wp2
          go_ret
          exact ⟨by rw [HE.out]; rfl, HBw.out.trans (HB3.out.mono HBw.out.size)⟩
        | false =>
          have hc : ¬ ComesS ps _ _ := of_decide_eq_false HCd.out.symm
          have HE : Hid (t = 25) := Lib.hid (by rw [HTt.out]; unfold faultS; rw [if_neg (fun h => h hg), if_neg h1, if_pos h4, if_neg hc])
          clear hg h1 h4 hc
          go_wp2_with fail
          refine (HCm.out w2 HBw.out).mono ?_
          rintro e w3 ⟨rfl, hb3⟩
          have HB3 := Lib.hid hb3
          clear hb3 x0 x1 x2 x3 x4 x5 y0 y1 y2 y3 y4 y5 y6 y7 y8 y9 y10
          go_wp2
          go_ret
          exact ⟨by rw [HE.out]; rfl, HBw.out.trans (HB3.out.mono HBw.out.size)⟩
      · have t4 : (ek == 4) = false := by simpa using h4
        by_cases h5 : eo < 0
        · have t5 : decide (eo < 0) = true := by simpa using h5
          have HE : Hid (t = 20) := Lib.hid (by rw [HTt.out]; unfold faultS; rw [if_neg (fun h => h hg), if_neg h1, if_neg h4, if_pos (.inl h5)])
          clear hg h1 h4 h5
          go_wp2
          go_ret
          exact ⟨by rw [HE.out]; rfl, HBw.out⟩
        · have t5 : decide (eo < 0) = false := by simp; omega
          by_cases h6 : (d1 : Int) ≤ eo
          · have t6 : decide ((d1 : Int) ≤ eo) = true := by simpa using h6
            have HE : Hid (t = 20) := Lib.hid (by rw [HTt.out]; unfold faultS; rw [if_neg (fun h => h hg), if_neg h1, if_neg h4, if_pos (.inr (by rw [HOl.out]; exact h6))])
            clear hg h1 h4 h5 h6
            go_wp2
            go_ret
            exact ⟨by rw [HE.out]; rfl, HBw.out⟩
          · have t6 : decide ((d1 : Int) ≤ eo) = false := by simp; omega
            have HE : Hid (t = 0) := Lib.hid (by rw [HTt.out]; unfold faultS; rw [if_neg (fun h => h hg), if_neg h1, if_neg h4, if_neg (fun h => h.elim h5 (fun h => h6 (by rw [HOl.out] at h; exact h)))])
            clear hg h1 h4 h5 h6
            go_wp2
            go_ret
            exact ⟨by rw [HE.out]; rfl, HBw.out⟩
end Go.Proofs.Ytiaafhcfeeekeaa.Pk

/- The library's slices.Clone, of each kind of row that a state has. -/
namespace Go.Proofs.Ytiaafhcfeeekeaa.Pk
open Go.RowKit
set_option linter.unusedVariables false
theorem below_grown_none {w w' : World} {v : Value} (hv : ownB v = none) (h : w.grownBy w' (ownB v)) : Below w.heap.size w w' := by
  rw [hv] at h
  exact (Below.refl w.heap.size w).grown h (Nat.le_refl _) (fun k e => by cases e)
theorem below_alloc_none {w w' : World} {o : Obj} {v : Value} (hv : ownB v = none) (h : (w.alloc o).grownBy w' (ownB v)) : Below w.heap.size w w' :=
  ((Below.refl _ w).alloc (Nat.le_refl _) o).trans ((below_grown_none hv h).mono (by rw [World.size_alloc]; omega))
set_option maxRecDepth 100000 in
set_option maxHeartbeats 1600000 in
theorem clone_ceR (s : Sl) (l : List Ce) (w : World) (h : InR ceR w s l) :
    Calls Try.prog 38 #[s.val] w fun e w' => ∃ s2 : Sl, e = .returned s2.val ∧ ceR.Own w' w.heap.size s2.val l ∧ Below w.heap.size w w' := by
  obtain ⟨A, n, c⟩ := s
  have HR := Lib.hid h.rd
  have HL : Hid ((0 + n) * ceR.by_ ≤ 140737488355328) := Lib.hid (by have := h.few; simp only [Nat.zero_add]; exact Nat.le_trans this (by decide))
  have hlen : l.length = n := h.len
  clear h
  show Calls Try.prog 38 #[.slice A n c] w _
  cases A with
  | none =>
    have hn0 : n = 0 := by
      rcases Nat.eq_zero_or_pos n with h | h
      · exact h
      · obtain ⟨b, off, e, _⟩ := Row.spots _ HR.out h
        cases e
    subst hn0
    have hl : l = [] := List.length_eq_zero_iff.1 hlen
    subst hl
    clear hlen
    go_enter Try.func38, Try.ntmps38
    have E0 : (binOp .eql 53 (.slice none 0 c) (.slice none 0 0)).run Try.prog w = .ok (.bool true) w := Lib.run_eql_slice_nil w _ _ none 0 c 0 0 ceR.und
    go_wp2_with fail
    go_ret
    exact ⟨⟨none, 0, 0⟩, rfl, Row.Own.none_ _ _, Below.refl _ _⟩
  | some ad =>
    clear hlen
    go_enter Try.func38, Try.ntmps38
    have E0 : (binOp .eql 53 (.slice (some ad) n c) (.slice none 0 0)).run Try.prog w = .ok (.bool false) w := Lib.run_eql_slice_nil w _ _ (some ad) n c 0 0 ceR.und
    go_wp2_with (at_builtin; refine Row.app ceR (w.alloc (.cells #[] ceR.T)) rfl (.tmp 5) (.tmp 6) rfl w.heap.size (.slice (some ⟨w.heap.size, 0, none⟩) 0 0) [] rfl (Row.Own.zero _ _ _) w.heap.size (some ad) c l n rfl (HR.out.alloc (Nat.le_refl _) _) HL.out (by rw [World.size_alloc]; omega) ?_; intro v2 w2 hown2 hg2 hl2; have HO := Lib.hid hown2; have HB := Lib.hid (below_alloc_none (Row.ownB_zero _) hg2); clear hown2 hg2 hl2)
    go_ret
    have HO2 := HO.out
    rw [List.nil_append] at HO2
    obtain ⟨A2, c2, e⟩ := HO2.sl
    subst e
    exact ⟨⟨A2, l.length, c2⟩, rfl, HO2, HB.out⟩
set_option maxRecDepth 100000 in
set_option maxHeartbeats 1600000 in
theorem clone_mgR (s : Sl) (l : List Mg) (w : World) (h : InR mgR w s l) :
    Calls Try.prog 40 #[s.val] w fun e w' => ∃ s2 : Sl, e = .returned s2.val ∧ mgR.Own w' w.heap.size s2.val l ∧ Below w.heap.size w w' := by
  obtain ⟨A, n, c⟩ := s
  have HR := Lib.hid h.rd
  have HL : Hid ((0 + n) * mgR.by_ ≤ 140737488355328) := Lib.hid (by have := h.few; simp only [Nat.zero_add]; exact Nat.le_trans this (by decide))
  have hlen : l.length = n := h.len
  clear h
  show Calls Try.prog 40 #[.slice A n c] w _
  cases A with
  | none =>
    have hn0 : n = 0 := by
      rcases Nat.eq_zero_or_pos n with h | h
      · exact h
      · obtain ⟨b, off, e, _⟩ := Row.spots _ HR.out h
        cases e
    subst hn0
    have hl : l = [] := List.length_eq_zero_iff.1 hlen
    subst hl
    clear hlen
    go_enter Try.func40, Try.ntmps40
    have E0 : (binOp .eql 48 (.slice none 0 c) (.slice none 0 0)).run Try.prog w = .ok (.bool true) w := Lib.run_eql_slice_nil w _ _ none 0 c 0 0 mgR.und
    go_wp2_with fail
    go_ret
    exact ⟨⟨none, 0, 0⟩, rfl, Row.Own.none_ _ _, Below.refl _ _⟩
  | some ad =>
    clear hlen
    go_enter Try.func40, Try.ntmps40
    have E0 : (binOp .eql 48 (.slice (some ad) n c) (.slice none 0 0)).run Try.prog w = .ok (.bool false) w := Lib.run_eql_slice_nil w _ _ (some ad) n c 0 0 mgR.und
    go_wp2_with (at_builtin; refine Row.app mgR (w.alloc (.cells #[] mgR.T)) rfl (.tmp 5) (.tmp 6) rfl w.heap.size (.slice (some ⟨w.heap.size, 0, none⟩) 0 0) [] rfl (Row.Own.zero _ _ _) w.heap.size (some ad) c l n rfl (HR.out.alloc (Nat.le_refl _) _) HL.out (by rw [World.size_alloc]; omega) ?_; intro v2 w2 hown2 hg2 hl2; have HO := Lib.hid hown2; have HB := Lib.hid (below_alloc_none (Row.ownB_zero _) hg2); clear hown2 hg2 hl2)
    go_ret
    have HO2 := HO.out
    rw [List.nil_append] at HO2
    obtain ⟨A2, c2, e⟩ := HO2.sl
    subst e
    exact ⟨⟨A2, l.length, c2⟩, rfl, HO2, HB.out⟩
set_option maxRecDepth 100000 in
set_option maxHeartbeats 1600000 in
theorem clone_owR (s : Sl) (l : List OwL) (w : World) (h : InR owR w s l) :
    Calls Try.prog 37 #[s.val] w fun e w' => ∃ s2 : Sl, e = .returned s2.val ∧ owR.Own w' w.heap.size s2.val l ∧ Below w.heap.size w w' := by
  obtain ⟨A, n, c⟩ := s
  have HR := Lib.hid h.rd
  have HL : Hid ((0 + n) * owR.by_ ≤ 140737488355328) := Lib.hid (by have := h.few; simp only [Nat.zero_add]; exact Nat.le_trans this (by decide))
  have hlen : l.length = n := h.len
  clear h
  show Calls Try.prog 37 #[.slice A n c] w _
  cases A with
  | none =>
    have hn0 : n = 0 := by
      rcases Nat.eq_zero_or_pos n with h | h
      · exact h
      · obtain ⟨b, off, e, _⟩ := Row.spots _ HR.out h
        cases e
    subst hn0
    have hl : l = [] := List.length_eq_zero_iff.1 hlen
    subst hl
    clear hlen
    go_enter Try.func37, Try.ntmps37
    have E0 : (binOp .eql 23 (.slice none 0 c) (.slice none 0 0)).run Try.prog w = .ok (.bool true) w := Lib.run_eql_slice_nil w _ _ none 0 c 0 0 owR.und
    go_wp2_with fail
    go_ret
    exact ⟨⟨none, 0, 0⟩, rfl, Row.Own.none_ _ _, Below.refl _ _⟩
  | some ad =>
    clear hlen
    go_enter Try.func37, Try.ntmps37
    have E0 : (binOp .eql 23 (.slice (some ad) n c) (.slice none 0 0)).run Try.prog w = .ok (.bool false) w := Lib.run_eql_slice_nil w _ _ (some ad) n c 0 0 owR.und
    go_wp2_with (at_builtin; refine Row.app owR (w.alloc (.cells #[] owR.T)) rfl (.tmp 5) (.tmp 6) rfl w.heap.size (.slice (some ⟨w.heap.size, 0, none⟩) 0 0) [] rfl (Row.Own.zero _ _ _) w.heap.size (some ad) c l n rfl (HR.out.alloc (Nat.le_refl _) _) HL.out (by rw [World.size_alloc]; omega) ?_; intro v2 w2 hown2 hg2 hl2; have HO := Lib.hid hown2; have HB := Lib.hid (below_alloc_none (Row.ownB_zero _) hg2); clear hown2 hg2 hl2)
    go_ret
    have HO2 := HO.out
    rw [List.nil_append] at HO2
    obtain ⟨A2, c2, e⟩ := HO2.sl
    subst e
    exact ⟨⟨A2, l.length, c2⟩, rfl, HO2, HB.out⟩
set_option maxRecDepth 100000 in
set_option maxHeartbeats 1600000 in
theorem clone_sdR (s : Sl) (l : List SdL) (w : World) (h : InR sdR w s l) :
    Calls Try.prog 39 #[s.val] w fun e w' => ∃ s2 : Sl, e = .returned s2.val ∧ sdR.Own w' w.heap.size s2.val l ∧ Below w.heap.size w w' := by
  obtain ⟨A, n, c⟩ := s
  have HR := Lib.hid h.rd
  have HL : Hid ((0 + n) * sdR.by_ ≤ 140737488355328) := Lib.hid (by have := h.few; simp only [Nat.zero_add]; exact Nat.le_trans this (by decide))
  have hlen : l.length = n := h.len
  clear h
  show Calls Try.prog 39 #[.slice A n c] w _
  cases A with
  | none =>
    have hn0 : n = 0 := by
      rcases Nat.eq_zero_or_pos n with h | h
      · exact h
      · obtain ⟨b, off, e, _⟩ := Row.spots _ HR.out h
        cases e
    subst hn0
    have hl : l = [] := List.length_eq_zero_iff.1 hlen
    subst hl
    clear hlen
    go_enter Try.func39, Try.ntmps39
    have E0 : (binOp .eql 24 (.slice none 0 c) (.slice none 0 0)).run Try.prog w = .ok (.bool true) w := Lib.run_eql_slice_nil w _ _ none 0 c 0 0 sdR.und
    go_wp2_with fail
    go_ret
    exact ⟨⟨none, 0, 0⟩, rfl, Row.Own.none_ _ _, Below.refl _ _⟩
  | some ad =>
    clear hlen
    go_enter Try.func39, Try.ntmps39
    have E0 : (binOp .eql 24 (.slice (some ad) n c) (.slice none 0 0)).run Try.prog w = .ok (.bool false) w := Lib.run_eql_slice_nil w _ _ (some ad) n c 0 0 sdR.und
    go_wp2_with (at_builtin; refine Row.app sdR (w.alloc (.cells #[] sdR.T)) rfl (.tmp 5) (.tmp 6) rfl w.heap.size (.slice (some ⟨w.heap.size, 0, none⟩) 0 0) [] rfl (Row.Own.zero _ _ _) w.heap.size (some ad) c l n rfl (HR.out.alloc (Nat.le_refl _) _) HL.out (by rw [World.size_alloc]; omega) ?_; intro v2 w2 hown2 hg2 hl2; have HO := Lib.hid hown2; have HB := Lib.hid (below_alloc_none (Row.ownB_zero _) hg2); clear hown2 hg2 hl2)
    go_ret
    have HO2 := HO.out
    rw [List.nil_append] at HO2
    obtain ⟨A2, c2, e⟩ := HO2.sl
    subst e
    exact ⟨⟨A2, l.length, c2⟩, rfl, HO2, HB.out⟩
set_option maxRecDepth 100000 in
set_option maxHeartbeats 1600000 in
theorem clone_akR (s : Sl) (l : List Ak) (w : World) (h : InR akR w s l) :
    Calls Try.prog 41 #[s.val] w fun e w' => ∃ s2 : Sl, e = .returned s2.val ∧ akR.Own w' w.heap.size s2.val l ∧ Below w.heap.size w w' := by
  obtain ⟨A, n, c⟩ := s
  have HR := Lib.hid h.rd
  have HL : Hid ((0 + n) * akR.by_ ≤ 140737488355328) := Lib.hid (by have := h.few; simp only [Nat.zero_add]; exact Nat.le_trans this (by decide))
  have hlen : l.length = n := h.len
  clear h
  show Calls Try.prog 41 #[.slice A n c] w _
  cases A with
  | none =>
    have hn0 : n = 0 := by
      rcases Nat.eq_zero_or_pos n with h | h
      · exact h
      · obtain ⟨b, off, e, _⟩ := Row.spots _ HR.out h
        cases e
    subst hn0
    have hl : l = [] := List.length_eq_zero_iff.1 hlen
    subst hl
    clear hlen
    go_enter Try.func41, Try.ntmps41
    have E0 : (binOp .eql 25 (.slice none 0 c) (.slice none 0 0)).run Try.prog w = .ok (.bool true) w := Lib.run_eql_slice_nil w _ _ none 0 c 0 0 akR.und
    go_wp2_with fail
    go_ret
    exact ⟨⟨none, 0, 0⟩, rfl, Row.Own.none_ _ _, Below.refl _ _⟩
  | some ad =>
    clear hlen
    go_enter Try.func41, Try.ntmps41
    have E0 : (binOp .eql 25 (.slice (some ad) n c) (.slice none 0 0)).run Try.prog w = .ok (.bool false) w := Lib.run_eql_slice_nil w _ _ (some ad) n c 0 0 akR.und
    go_wp2_with (at_builtin; refine Row.app akR (w.alloc (.cells #[] akR.T)) rfl (.tmp 5) (.tmp 6) rfl w.heap.size (.slice (some ⟨w.heap.size, 0, none⟩) 0 0) [] rfl (Row.Own.zero _ _ _) w.heap.size (some ad) c l n rfl (HR.out.alloc (Nat.le_refl _) _) HL.out (by rw [World.size_alloc]; omega) ?_; intro v2 w2 hown2 hg2 hl2; have HO := Lib.hid hown2; have HB := Lib.hid (below_alloc_none (Row.ownB_zero _) hg2); clear hown2 hg2 hl2)
    go_ret
    have HO2 := HO.out
    rw [List.nil_append] at HO2
    obtain ⟨A2, c2, e⟩ := HO2.sl
    subst e
    exact ⟨⟨A2, l.length, c2⟩, rfl, HO2, HB.out⟩
set_option maxRecDepth 100000 in
set_option maxHeartbeats 1600000 in
theorem clone_fdR (s : Sl) (l : List Fnd) (w : World) (h : InR fdR w s l) :
    Calls Try.prog 42 #[s.val] w fun e w' => ∃ s2 : Sl, e = .returned s2.val ∧ fdR.Own w' w.heap.size s2.val l ∧ Below w.heap.size w w' := by
  obtain ⟨A, n, c⟩ := s
  have HR := Lib.hid h.rd
  have HL : Hid ((0 + n) * fdR.by_ ≤ 140737488355328) := Lib.hid (by have := h.few; simp only [Nat.zero_add]; exact Nat.le_trans this (by decide))
  have hlen : l.length = n := h.len
  clear h
  show Calls Try.prog 42 #[.slice A n c] w _
  cases A with
  | none =>
    have hn0 : n = 0 := by
      rcases Nat.eq_zero_or_pos n with h | h
      · exact h
      · obtain ⟨b, off, e, _⟩ := Row.spots _ HR.out h
        cases e
    subst hn0
    have hl : l = [] := List.length_eq_zero_iff.1 hlen
    subst hl
    clear hlen
    go_enter Try.func42, Try.ntmps42
    have E0 : (binOp .eql 26 (.slice none 0 c) (.slice none 0 0)).run Try.prog w = .ok (.bool true) w := Lib.run_eql_slice_nil w _ _ none 0 c 0 0 fdR.und
    go_wp2_with fail
    go_ret
    exact ⟨⟨none, 0, 0⟩, rfl, Row.Own.none_ _ _, Below.refl _ _⟩
  | some ad =>
    clear hlen
    go_enter Try.func42, Try.ntmps42
    have E0 : (binOp .eql 26 (.slice (some ad) n c) (.slice none 0 0)).run Try.prog w = .ok (.bool false) w := Lib.run_eql_slice_nil w _ _ (some ad) n c 0 0 fdR.und
    go_wp2_with (at_builtin; refine Row.app fdR (w.alloc (.cells #[] fdR.T)) rfl (.tmp 5) (.tmp 6) rfl w.heap.size (.slice (some ⟨w.heap.size, 0, none⟩) 0 0) [] rfl (Row.Own.zero _ _ _) w.heap.size (some ad) c l n rfl (HR.out.alloc (Nat.le_refl _) _) HL.out (by rw [World.size_alloc]; omega) ?_; intro v2 w2 hown2 hg2 hl2; have HO := Lib.hid hown2; have HB := Lib.hid (below_alloc_none (Row.ownB_zero _) hg2); clear hown2 hg2 hl2)
    go_ret
    have HO2 := HO.out
    rw [List.nil_append] at HO2
    obtain ⟨A2, c2, e⟩ := HO2.sl
    subst e
    exact ⟨⟨A2, l.length, c2⟩, rfl, HO2, HB.out⟩
end Go.Proofs.Ytiaafhcfeeekeaa.Pk
