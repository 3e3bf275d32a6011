/- comes: can the datagram come to the node? -/
import Derived.Test.YtiaafhcfeeekeaaZMgApp
import Derived.Test.YtiaafhcfeeekeaaZCeEq
import Derived.Test.YtiaafhcfeeekeaaZTrPath
import Derived.Test.YtiaafhcfeeekeaaZTrMath
import Derived.Test.YtiaafhcfeeekeaaZGmValidP
import Derived.Test.YtiaafhcfeeekeaaZCoSeek
namespace Go.Proofs.Ytiaafhcfeeekeaa.Pk
open Go.RowKit Go.Proofs.Ytiaafhcfeeekeaa.Gr
set_option linter.unusedVariables false
/-- Does a number stand in a list? -/
theorem contains_co (A : Option Addr) (n c : Nat) (l : List Int) (x : Int) (w : World) (B : Nat) (hr : Reads w B 1 A n (nms l)) (hbig : n ≤ 4611686018427387904) :
    Calls Try.prog 57 #[.slice A n c, .int .i64 x] w fun e w' => e = .returned (.bool (decide (x ∈ l))) ∧ w' = w := by
  have HL := Lib.hid hr.plen
  have HX := Lib.hid (idx_any A n c l x w B hr hbig)
  clear hr
  go_enter Try.func57, Try.ntmps57
  go_wp2_with fail
  refine HX.out.mono ?_
  rintro e w2 ⟨i, rfl, hi, hw⟩
  rw [hw]
  clear hw w2
  rcases hi with ⟨u, hu, rfl, h1, _⟩ | ⟨rfl, h1⟩
  · have HE : Hid (decide (x ∈ l) = true) := Lib.hid (decide_eq_true (by
      unfold pa at h1
      rw [List.getD_eq_getElem?_getD, List.getElem?_eq_getElem hu] at h1
      have h2 : l[u] = x := h1
      rw [← h2]; exact List.getElem_mem hu))
    clear h1
    go_wp2
    go_ret
    exact ⟨by rw [HE.out]; first | rfl | simp, rfl⟩
  · have HE : Hid (decide (x ∈ l) = false) := Lib.hid (decide_eq_false (fun h => by
      obtain ⟨u, hu⟩ := List.getElem?_of_mem h
      have hl : u < l.length := (List.getElem?_eq_some_iff.1 hu).1
      refine h1 u hl ?_
      unfold pa
      rw [List.getD_eq_getElem?_getD, hu]
      rfl))
    clear h1
    go_wp2
    go_ret
    exact ⟨by rw [HE.out]; first | rfl | simp, rfl⟩
set_option maxRecDepth 100000 in
set_option maxHeartbeats 16000000 in
theorem comes_any (T g : Nat) (ps : List Int) (s : StL) (d : Gm) (w : World) (htr : IsTr w T g ps) (G : Gr.Good ps) (hin : InS w s) (hI : d.I) :
    Calls Try.prog 36 #[.pointer (some ⟨T, 0, none⟩), s.val, d.val] w fun e w' => e = .returned (.bool (decide (ComesS ps s.v d))) ∧ Below w.heap.size w w' := by
  have HI := Lib.hid hin
  have HT := Lib.hid htr
  have HG := Lib.hid G
  have HId := Lib.hid hI
  obtain ⟨t, ht⟩ : ∃ t, t = decide (ComesS ps s.v d) := ⟨_, rfl⟩
  have HTt := Lib.hid ht
  rw [← ht]
  have hol : s.v.os.length = s.os.length := by simp [StL.v]
  have hos : s.os.length = s.so.n := hin.os.len
  have HOl : Hid ((s.v.os.length : Int) = (s.so.n : Int)) := Lib.hid (by rw [hol, hos])
  have hfew : s.so.n * 40 ≤ 140737488351232 := hin.os.few
  clear htr G hin hI ht hol hos
  obtain ⟨me, os, ⟨D1, d1, k1⟩, es, ⟨D2, d2, k2⟩, q0, as_, ⟨D3, d3, k3⟩, gs, ⟨D4, d4, k4⟩⟩ := s
  obtain ⟨gf, gt, ga, gs_, ⟨mk, mo, mn, mu, mv⟩⟩ := d
  simp only at HOl hfew
  show Calls Try.prog 36 #[.pointer (some ⟨T, 0, none⟩), .agg #[.int .i64 me, .slice D1 d1 k1, .slice D2 d2 k2, .int .i64 q0, .slice D3 d3 k3, .slice D4 d4 k4], .agg #[.int .i64 gf, .int .i64 gt, .int .i64 ga, .int .i64 gs_, .int .i64 mk, .int .i64 mo, .int .i64 mn, .int .i64 mu, .int .i64 mv]] w _
  obtain ⟨p, hp⟩ : ∃ p, p = w.heap.size := ⟨_, rfl⟩
  obtain ⟨q, hq⟩ : ∃ q, q = p + 1 := ⟨_, rfl⟩
  obtain ⟨wa, hwa⟩ : ∃ W, W = w.alloc (.cells #[.int .i64 me, .slice D1 d1 k1, .slice D2 d2 k2, .int .i64 q0, .slice D3 d3 k3, .slice D4 d4 k4] 28) := ⟨_, rfl⟩
  obtain ⟨W1, hW1⟩ : ∃ W, W = wa.alloc (.cells #[.int .i64 gf, .int .i64 gt, .int .i64 ga, .int .i64 gs_, .int .i64 mk, .int .i64 mo, .int .i64 mn, .int .i64 mu, .int .i64 mv] 32) := ⟨_, rfl⟩
  have hsa : wa.heap.size = p + 1 := by rw [hwa, World.size_alloc, hp]
  have hba : Below w.heap.size w wa := hwa ▸ (Below.refl _ _).alloc (Nat.le_refl _) _
  have HB1 : Hid (Below w.heap.size w W1) := Lib.hid (hW1 ▸ hba.alloc (by omega) _)
  have HP : Hid (Blk W1 p 28 #[.int .i64 me, .slice D1 d1 k1, .slice D2 d2 k2, .int .i64 q0, .slice D3 d3 k3, .slice D4 d4 k4]) := Lib.hid (by rw [hW1, hwa, hp]; exact (Blk.new w _ _).alloc _)
  have HQ : Hid (Blk W1 q 32 #[.int .i64 gf, .int .i64 gt, .int .i64 ga, .int .i64 gs_, .int .i64 mk, .int .i64 mo, .int .i64 mn, .int .i64 mu, .int .i64 mv]) := Lib.hid (by rw [hW1, hq, ← hsa]; exact Blk.new wa _ _)
  have HX : Hid (∀ W, Below W1.heap.size W1 W → W.cell? ⟨p, 0, none⟩ = some (.int .i64 me) ∧ W.cell? ⟨p, 1, none⟩ = some (.slice D1 d1 k1) ∧ W.cell? ⟨q, 0, none⟩ = some (.int .i64 gf) ∧ W.cell? ⟨q, 1, none⟩ = some (.int .i64 gt) ∧ W.cell? ⟨q, 2, none⟩ = some (.int .i64 ga) ∧ W.cell? ⟨q, 3, none⟩ = some (.int .i64 gs_) ∧ W.cell? ⟨q, 4, none⟩ = some (.int .i64 mk) ∧ W.cell? ⟨q, 5, none⟩ = some (.int .i64 mo) ∧ W.cell? ⟨q, 6, none⟩ = some (.int .i64 mn) ∧ W.cell? ⟨q, 7, none⟩ = some (.int .i64 mu) ∧ W.cell? ⟨q, 8, none⟩ = some (.int .i64 mv)) := Lib.hid (fun W hW => by
    have h1 := HP.out.below hW HP.out.lt
    have h2 := HQ.out.below hW HQ.out.lt
    exact ⟨h1.cell 0, h1.cell 1, h2.cell 0, h2.cell 1, h2.cell 2, h2.cell 3, h2.cell 4, h2.cell 5, h2.cell 6, h2.cell 7, h2.cell 8⟩)
  have HD1 : Hid (Below W1.heap.size W1 W1.drew) := Lib.hid (below_drewC (Below.refl _ _) 1)
  have hS0 := HX.out W1.drew HD1.out
  obtain ⟨bv, hbv⟩ : ∃ b, b = decide (Gm.Be ⟨gf, gt, ga, gs_, ⟨mk, mo, mn, mu, mv⟩⟩) := ⟨_, rfl⟩
  have HBv := Lib.hid hbv
  have HVa : Hid (∀ W, Below W1.heap.size W1 W → Calls Try.prog 56 #[.agg #[.int .i64 gf, .int .i64 gt, .int .i64 ga, .int .i64 gs_, .int .i64 mk, .int .i64 mo, .int .i64 mn, .int .i64 mu, .int .i64 mv]] W fun e w' => e = .returned (.bool bv) ∧ Below W1.heap.size W1 w') := Lib.hid (fun W hW => by
    have := validG ⟨gf, gt, ga, gs_, ⟨mk, mo, mn, mu, mv⟩⟩ W HId.out
    rw [← HBv.out] at this
    exact this.mono fun e w' ⟨e1, e2⟩ => ⟨e1, hW.trans (e2.mono hW.size)⟩)
  have HNb : Hid (∀ W, Below W1.heap.size W1 W → Calls Try.prog 34 #[.pointer (some ⟨T, 0, none⟩), .int .i64 me] W fun e w' => ∃ A2 c2, e = .returned (.slice A2 (nbsI ps me).length c2) ∧ Reads w' w'.heap.size 1 A2 (nbsI ps me).length (nms (nbsI ps me)) ∧ Below W1.heap.size W1 w') := Lib.hid (fun W hW => by
    refine (nbrs_any T g ps me W (HT.out.below_ (HB1.out.trans (hW.mono HB1.out.size))) HG.out.few).mono ?_
    rintro e w' ⟨x, rfl, hown, hb⟩
    obtain ⟨A2, c2, rfl, _, hr2⟩ := hown.reads
    exact ⟨A2, c2, rfl, hr2, hW.trans (hb.mono hW.size)⟩)
  obtain ⟨nn, hnn⟩ : ∃ nn, nn = (nbsI ps me).length := ⟨_, rfl⟩
  have HNn : Hid (nn ≤ 32) := Lib.hid (by
    rw [hnn]
    unfold nbsI
    split
    · exact Nat.le_trans (nbs_len ps _ _) HG.out.few
    · simp)
  rw [← hnn] at HNb
  have hnn32 := HNn.out
  obtain ⟨bn, hbn⟩ : ∃ b, b = decide (gf ∈ nbsI ps me) := ⟨_, rfl⟩
  have HBn := Lib.hid hbn
  have HCn : Hid (∀ (A2 : Option Addr) (c2 : Nat) (W : World), Reads W W.heap.size 1 A2 nn (nms (nbsI ps me)) → Calls Try.prog 57 #[.slice A2 nn c2, .int .i64 gf] W fun e w' => e = .returned (.bool bn) ∧ w' = W) := Lib.hid (fun A2 c2 W hr => by
    have := contains_co A2 nn c2 (nbsI ps me) gf W W.heap.size hr (by have := HNn.out; omega)
    rw [← HBn.out] at this
    exact this)
  obtain ⟨bm, hbm⟩ : ∃ b, b = decide (MeantS (ps.length : Int) (d1 : Int) ⟨mk, mo, mn, mu, mv⟩) := ⟨_, rfl⟩
  have HBm := Lib.hid hbm
  have HMe : Hid (∀ W, Below W1.heap.size W1 W → Calls Try.prog 52 #[.pointer (some ⟨T, 0, none⟩), .int .i64 (d1 : Int), .agg #[.int .i64 mk, .int .i64 mo, .int .i64 mn, .int .i64 mu, .int .i64 mv]] W fun e w' => e = .returned (.bool bm) ∧ Below W1.heap.size W1 w') := Lib.hid (fun W hW => by
    have := meantS T g ps (d1 : Int) ⟨mk, mo, mn, mu, mv⟩ W (HT.out.below_ (HB1.out.trans (hW.mono HB1.out.size))) HG.out (by unfold I64; omega) HId.out.m
    rw [← HBm.out] at this
    exact this.mono fun e w' ⟨e1, e2⟩ => ⟨e1, hW.trans (e2.mono hW.size)⟩)
  have HIff : Hid (t = (bv && (decide (gt = me)) && bn && (decide (gs_ = 0) || bm))) := Lib.hid (by
    rw [HTt.out, HBv.out, HBn.out, HBm.out, ← HOl.out]
    rw [Bool.eq_iff_iff]
    simp only [decide_eq_true_eq, Bool.and_eq_true, Bool.or_eq_true]
    unfold ComesS
    exact ⟨fun ⟨a, b, c, d⟩ => ⟨⟨⟨a, b⟩, c⟩, d⟩, fun ⟨⟨⟨a, b⟩, c⟩, d⟩ => ⟨a, b, c, d⟩⟩)
  have HW1 := Lib.hid hW1
  have hb2p : d1 ≤ 9223372036854775807 := by omega
  clear hsa hba hbv hnn hbn hbm hfew
  go_enter Try.func36, Try.ntmps36
  go_wp2_with fail
  rw [← hwa, ← hW1, ← hp, ← hq]
  clear hwa hW1 hp hq
  cases bv with
  | false =>
    have HRf : Hid (t = false) := Lib.hid (by rw [HIff.out]; rfl)
    refine wp_region_noPanic ?_
    refine region_lastM 32 (fun W : World => W.cell? ⟨p, 0, none⟩ = some (.int .i64 me) ∧ W.cell? ⟨p, 1, none⟩ = some (.slice D1 d1 k1) ∧ W.cell? ⟨q, 0, none⟩ = some (.int .i64 gf) ∧ W.cell? ⟨q, 1, none⟩ = some (.int .i64 gt) ∧ W.cell? ⟨q, 2, none⟩ = some (.int .i64 ga) ∧ W.cell? ⟨q, 3, none⟩ = some (.int .i64 gs_) ∧ W.cell? ⟨q, 4, none⟩ = some (.int .i64 mk) ∧ W.cell? ⟨q, 5, none⟩ = some (.int .i64 mo) ∧ W.cell? ⟨q, 6, none⟩ = some (.int .i64 mn) ∧ W.cell? ⟨q, 7, none⟩ = some (.int .i64 mu) ∧ W.cell? ⟨q, 8, none⟩ = some (.int .i64 mv)) (by kernel_rfl) ?_
    refine AnyM.takeC [1, 2, 9, 17, 18, 31, 32] 0 (.agg #[.int .i64 gf, .int .i64 gt, .int .i64 ga, .int .i64 gs_, .int .i64 mk, .int .i64 mo, .int .i64 mn, .int .i64 mu, .int .i64 mv]) rfl (by kernel_rfl) (by kernel_rfl) (by kernel_rfl) (by kernel_rfl) (fun _ _ _ h => h) (Or.inl ⟨by kernel_rfl, fun W hW => ?_⟩) hS0 ?_
    · obtain ⟨hW0, hW1, hW2, hW3, hW4, hW5, hW6, hW7, hW8, hW9, hW10⟩ := hW
      go_simp
    simp only [Act.put, List.setIfInBounds_toArray]
    refine AnyM.one 1 (by kernel_rfl) rfl ?_
    intro K' hK
    rw [if_pos (by kernel_rfl)]
    go_wp2_with fail
    refine (HVa.out W1.drew HD1.out).mono ?_
    rintro e w2 ⟨rfl, hb2⟩
    have hS2 := HX.out w2 hb2
    have HB2 := Lib.hid hb2
    clear hb2
    refine hK.out _ _ (fun _ _ => hS2) ?_
    clear hK
    refine AnyM.takeC [9, 17, 18, 31, 32] 2 (.bool false) rfl (by kernel_rfl) (by kernel_rfl) (by kernel_rfl) (by kernel_rfl) (fun _ _ _ h => h) (Or.inl ⟨by kernel_rfl, fun W hW => ?_⟩) hS2 ?_
    · obtain ⟨hW0, hW1, hW2, hW3, hW4, hW5, hW6, hW7, hW8, hW9, hW10⟩ := hW
      go_simp
    simp only [Act.put]
    refine AnyM.takeC [4, 7, 8, 9, 17, 18, 31, 32] 3 (undef) rfl (by kernel_rfl) (by kernel_rfl) (by kernel_rfl) (by kernel_rfl) (fun _ _ _ h => h) (Or.inr ⟨by kernel_rfl, rfl⟩) hS2 ?_
    simp only [Act.put]
    refine AnyM.takeC [7, 8, 9, 17, 18, 31, 32] 4 (undef) rfl (by kernel_rfl) (by kernel_rfl) (by kernel_rfl) (by kernel_rfl) (fun _ _ _ h => h) (Or.inr ⟨by kernel_rfl, rfl⟩) hS2 ?_
    simp only [Act.put]
    refine AnyM.takeC [6, 7, 8, 9, 17, 18, 31, 32] 5 (undef) rfl (by kernel_rfl) (by kernel_rfl) (by kernel_rfl) (by kernel_rfl) (fun _ _ _ h => h) (Or.inr ⟨by kernel_rfl, rfl⟩) hS2 ?_
    simp only [Act.put]
    refine AnyM.takeC [7, 8, 9, 17, 18, 31, 32] 6 (undef) rfl (by kernel_rfl) (by kernel_rfl) (by kernel_rfl) (by kernel_rfl) (fun _ _ _ h => h) (Or.inr ⟨by kernel_rfl, rfl⟩) hS2 ?_
    simp only [Act.put]
    refine AnyM.takeC [8, 9, 17, 18, 31, 32] 7 (undef) rfl (by kernel_rfl) (by kernel_rfl) (by kernel_rfl) (by kernel_rfl) (fun _ _ _ h => h) (Or.inr ⟨by kernel_rfl, rfl⟩) hS2 ?_
    simp only [Act.put]
    refine AnyM.takeC [9, 17, 18, 31, 32] 8 (.bool false) rfl (by kernel_rfl) (by kernel_rfl) (by kernel_rfl) (by kernel_rfl) (fun _ _ _ h => h) (Or.inl ⟨by kernel_rfl, fun W hW => ?_⟩) hS2 ?_
    · obtain ⟨hW0, hW1, hW2, hW3, hW4, hW5, hW6, hW7, hW8, hW9, hW10⟩ := hW
      go_simp
    simp only [Act.put]
    refine AnyM.takeC [17, 18, 31, 32] 9 (.bool false) rfl (by kernel_rfl) (by kernel_rfl) (by kernel_rfl) (by kernel_rfl) (fun _ _ _ h => h) (Or.inl ⟨by kernel_rfl, fun W hW => ?_⟩) hS2 ?_
    · obtain ⟨hW0, hW1, hW2, hW3, hW4, hW5, hW6, hW7, hW8, hW9, hW10⟩ := hW
      go_simp
    simp only [Act.put]
    refine AnyM.takeC [13, 16, 18, 31, 32] 10 (undef) rfl (by kernel_rfl) (by kernel_rfl) (by kernel_rfl) (by kernel_rfl) (fun _ _ _ h => h) (Or.inr ⟨by kernel_rfl, rfl⟩) hS2 ?_
    simp only [Act.put]
    refine AnyM.takeC [12, 13, 16, 18, 31, 32] 11 (undef) rfl (by kernel_rfl) (by kernel_rfl) (by kernel_rfl) (by kernel_rfl) (fun _ _ _ h => h) (Or.inr ⟨by kernel_rfl, rfl⟩) hS2 ?_
    simp only [Act.put]
    refine AnyM.takeC [13, 16, 18, 31, 32] 12 (undef) rfl (by kernel_rfl) (by kernel_rfl) (by kernel_rfl) (by kernel_rfl) (fun _ _ _ h => h) (Or.inr ⟨by kernel_rfl, rfl⟩) hS2 ?_
    simp only [Act.put]
    refine AnyM.takeC [16, 18, 31, 32] 13 (undef) rfl (by kernel_rfl) (by kernel_rfl) (by kernel_rfl) (by kernel_rfl) (fun _ _ _ h => h) (Or.inr ⟨by kernel_rfl, rfl⟩) hS2 ?_
    simp only [Act.put]
    refine AnyM.takeC [15, 16, 18, 31, 32] 14 (undef) rfl (by kernel_rfl) (by kernel_rfl) (by kernel_rfl) (by kernel_rfl) (fun _ _ _ h => h) (Or.inr ⟨by kernel_rfl, rfl⟩) hS2 ?_
    simp only [Act.put]
    refine AnyM.takeC [16, 18, 31, 32] 15 (undef) rfl (by kernel_rfl) (by kernel_rfl) (by kernel_rfl) (by kernel_rfl) (fun _ _ _ h => h) (Or.inr ⟨by kernel_rfl, rfl⟩) hS2 ?_
    simp only [Act.put]
    refine AnyM.takeC [18, 31, 32] 16 (undef) rfl (by kernel_rfl) (by kernel_rfl) (by kernel_rfl) (by kernel_rfl) (fun _ _ _ h => h) (Or.inr ⟨by kernel_rfl, rfl⟩) hS2 ?_
    simp only [Act.put]
    refine AnyM.takeC [18, 31, 32] 17 (.bool false) rfl (by kernel_rfl) (by kernel_rfl) (by kernel_rfl) (by kernel_rfl) (fun _ _ _ h => h) (Or.inl ⟨by kernel_rfl, fun W hW => ?_⟩) hS2 ?_
    · obtain ⟨hW0, hW1, hW2, hW3, hW4, hW5, hW6, hW7, hW8, hW9, hW10⟩ := hW
      go_simp
    simp only [Act.put]
    refine AnyM.takeC [31, 32] 18 (.bool false) rfl (by kernel_rfl) (by kernel_rfl) (by kernel_rfl) (by kernel_rfl) (fun _ _ _ h => h) (Or.inl ⟨by kernel_rfl, fun W hW => ?_⟩) hS2 ?_
    · obtain ⟨hW0, hW1, hW2, hW3, hW4, hW5, hW6, hW7, hW8, hW9, hW10⟩ := hW
      go_simp
    simp only [Act.put]
    refine AnyM.takeC [20, 21, 22, 29, 32] 19 (undef) rfl (by kernel_rfl) (by kernel_rfl) (by kernel_rfl) (by kernel_rfl) (fun _ _ _ h => h) (Or.inr ⟨by kernel_rfl, rfl⟩) hS2 ?_
    simp only [Act.put]
    refine AnyM.takeC [21, 22, 29, 32] 20 (undef) rfl (by kernel_rfl) (by kernel_rfl) (by kernel_rfl) (by kernel_rfl) (fun _ _ _ h => h) (Or.inr ⟨by kernel_rfl, rfl⟩) hS2 ?_
    simp only [Act.put]
    refine AnyM.takeC [22, 29, 32] 21 (undef) rfl (by kernel_rfl) (by kernel_rfl) (by kernel_rfl) (by kernel_rfl) (fun _ _ _ h => h) (Or.inr ⟨by kernel_rfl, rfl⟩) hS2 ?_
    simp only [Act.put]
    refine AnyM.takeC [29, 32] 22 (undef) rfl (by kernel_rfl) (by kernel_rfl) (by kernel_rfl) (by kernel_rfl) (fun _ _ _ h => h) (Or.inr ⟨by kernel_rfl, rfl⟩) hS2 ?_
    simp only [Act.put]
    refine AnyM.takeC [29, 32] 23 (undef) rfl (by kernel_rfl) (by kernel_rfl) (by kernel_rfl) (by kernel_rfl) (fun _ _ _ h => h) (Or.inr ⟨by kernel_rfl, rfl⟩) hS2 ?_
    simp only [Act.put]
    refine AnyM.takeC [25, 26, 29, 32] 24 (undef) rfl (by kernel_rfl) (by kernel_rfl) (by kernel_rfl) (by kernel_rfl) (fun _ _ _ h => h) (Or.inr ⟨by kernel_rfl, rfl⟩) hS2 ?_
    simp only [Act.put]
    refine AnyM.takeC [26, 29, 32] 25 (undef) rfl (by kernel_rfl) (by kernel_rfl) (by kernel_rfl) (by kernel_rfl) (fun _ _ _ h => h) (Or.inr ⟨by kernel_rfl, rfl⟩) hS2 ?_
    simp only [Act.put]
    refine AnyM.takeC [29, 32] 26 (undef) rfl (by kernel_rfl) (by kernel_rfl) (by kernel_rfl) (by kernel_rfl) (fun _ _ _ h => h) (Or.inr ⟨by kernel_rfl, rfl⟩) hS2 ?_
    simp only [Act.put]
    refine AnyM.takeC [28, 29, 32] 27 (undef) rfl (by kernel_rfl) (by kernel_rfl) (by kernel_rfl) (by kernel_rfl) (fun _ _ _ h => h) (Or.inr ⟨by kernel_rfl, rfl⟩) hS2 ?_
    simp only [Act.put]
    refine AnyM.takeC [29, 32] 28 (undef) rfl (by kernel_rfl) (by kernel_rfl) (by kernel_rfl) (by kernel_rfl) (fun _ _ _ h => h) (Or.inr ⟨by kernel_rfl, rfl⟩) hS2 ?_
    simp only [Act.put]
    refine AnyM.takeC [32] 29 (undef) rfl (by kernel_rfl) (by kernel_rfl) (by kernel_rfl) (by kernel_rfl) (fun _ _ _ h => h) (Or.inr ⟨by kernel_rfl, rfl⟩) hS2 ?_
    simp only [Act.put]
    refine AnyM.takeC [31, 32] 30 (undef) rfl (by kernel_rfl) (by kernel_rfl) (by kernel_rfl) (by kernel_rfl) (fun _ _ _ h => h) (Or.inr ⟨by kernel_rfl, rfl⟩) hS2 ?_
    simp only [Act.put]
    refine AnyM.takeC [32] 31 (.bool false) rfl (by kernel_rfl) (by kernel_rfl) (by kernel_rfl) (by kernel_rfl) (fun _ _ _ h => h) (Or.inl ⟨by kernel_rfl, fun W hW => ?_⟩) hS2 ?_
    · obtain ⟨hW0, hW1, hW2, hW3, hW4, hW5, hW6, hW7, hW8, hW9, hW10⟩ := hW
      go_simp
    simp only [Act.put]
    refine AnyM.one 32 (by kernel_rfl) rfl ?_
    intro K' hK
    rw [if_pos (by kernel_rfl)]
    go_wp2_with fail
    refine hK.out _ _ (fun h => absurd rfl h) ?_
    clear hK
    refine AnyM.done (by kernel_rfl) ?_ _
    refine NoPanic.normal ?_
    go_wp2
    go_ret
    exact ⟨by rw [HRf.out]; rfl, HB1.out.trans (HB2.out.mono HB1.out.size)⟩
  | true =>
    by_cases h1 : gt = me
    · have t1 : (gt == me) = true := by simpa using h1
      cases bn with
      | false =>
        have HRf : Hid (t = false) := Lib.hid (by rw [HIff.out]; simp)
        clear h1
        refine wp_region_noPanic ?_
        refine region_lastM 32 (fun W : World => W.cell? ⟨p, 0, none⟩ = some (.int .i64 me) ∧ W.cell? ⟨p, 1, none⟩ = some (.slice D1 d1 k1) ∧ W.cell? ⟨q, 0, none⟩ = some (.int .i64 gf) ∧ W.cell? ⟨q, 1, none⟩ = some (.int .i64 gt) ∧ W.cell? ⟨q, 2, none⟩ = some (.int .i64 ga) ∧ W.cell? ⟨q, 3, none⟩ = some (.int .i64 gs_) ∧ W.cell? ⟨q, 4, none⟩ = some (.int .i64 mk) ∧ W.cell? ⟨q, 5, none⟩ = some (.int .i64 mo) ∧ W.cell? ⟨q, 6, none⟩ = some (.int .i64 mn) ∧ W.cell? ⟨q, 7, none⟩ = some (.int .i64 mu) ∧ W.cell? ⟨q, 8, none⟩ = some (.int .i64 mv)) (by kernel_rfl) ?_
        refine AnyM.takeC [1, 2, 9, 17, 18, 31, 32] 0 (.agg #[.int .i64 gf, .int .i64 gt, .int .i64 ga, .int .i64 gs_, .int .i64 mk, .int .i64 mo, .int .i64 mn, .int .i64 mu, .int .i64 mv]) rfl (by kernel_rfl) (by kernel_rfl) (by kernel_rfl) (by kernel_rfl) (fun _ _ _ h => h) (Or.inl ⟨by kernel_rfl, fun W hW => ?_⟩) hS0 ?_
        · obtain ⟨hW0, hW1, hW2, hW3, hW4, hW5, hW6, hW7, hW8, hW9, hW10⟩ := hW
          go_simp
        simp only [Act.put, List.setIfInBounds_toArray]
        refine AnyM.one 1 (by kernel_rfl) rfl ?_
        intro K' hK
        rw [if_pos (by kernel_rfl)]
        go_wp2_with fail
        refine (HVa.out W1.drew HD1.out).mono ?_
        rintro e w2 ⟨rfl, hb2⟩
        have hS2 := HX.out w2 hb2
        have HB2 := Lib.hid hb2
        clear hb2
        refine hK.out _ _ (fun _ _ => hS2) ?_
        clear hK
        refine AnyM.takeC [9, 17, 18, 31, 32] 2 (.bool true) rfl (by kernel_rfl) (by kernel_rfl) (by kernel_rfl) (by kernel_rfl) (fun _ _ _ h => h) (Or.inl ⟨by kernel_rfl, fun W hW => ?_⟩) hS2 ?_
        · obtain ⟨hW0, hW1, hW2, hW3, hW4, hW5, hW6, hW7, hW8, hW9, hW10⟩ := hW
          go_simp
        simp only [Act.put]
        refine AnyM.takeC [4, 7, 8, 9, 17, 18, 31, 32] 3 (.pointer (some ⟨q, 1, none⟩)) rfl (by kernel_rfl) (by kernel_rfl) (by kernel_rfl) (by kernel_rfl) (fun _ _ _ h => h) (Or.inl ⟨by kernel_rfl, fun W hW => ?_⟩) hS2 ?_
        · obtain ⟨hW0, hW1, hW2, hW3, hW4, hW5, hW6, hW7, hW8, hW9, hW10⟩ := hW
          go_simp
        simp only [Act.put]
        refine AnyM.takeC [7, 8, 9, 17, 18, 31, 32] 4 (.int .i64 gt) rfl (by kernel_rfl) (by kernel_rfl) (by kernel_rfl) (by kernel_rfl) (fun _ _ _ h => h) (Or.inl ⟨by kernel_rfl, fun W hW => ?_⟩) hS2 ?_
        · obtain ⟨hW0, hW1, hW2, hW3, hW4, hW5, hW6, hW7, hW8, hW9, hW10⟩ := hW
          go_simp
        simp only [Act.put]
        refine AnyM.takeC [6, 7, 8, 9, 17, 18, 31, 32] 5 (.pointer (some ⟨p, 0, none⟩)) rfl (by kernel_rfl) (by kernel_rfl) (by kernel_rfl) (by kernel_rfl) (fun _ _ _ h => h) (Or.inl ⟨by kernel_rfl, fun W hW => ?_⟩) hS2 ?_
        · obtain ⟨hW0, hW1, hW2, hW3, hW4, hW5, hW6, hW7, hW8, hW9, hW10⟩ := hW
          go_simp
        simp only [Act.put]
        refine AnyM.takeC [7, 8, 9, 17, 18, 31, 32] 6 (.int .i64 me) rfl (by kernel_rfl) (by kernel_rfl) (by kernel_rfl) (by kernel_rfl) (fun _ _ _ h => h) (Or.inl ⟨by kernel_rfl, fun W hW => ?_⟩) hS2 ?_
        · obtain ⟨hW0, hW1, hW2, hW3, hW4, hW5, hW6, hW7, hW8, hW9, hW10⟩ := hW
          go_simp
        simp only [Act.put]
        refine AnyM.takeC [8, 9, 17, 18, 31, 32] 7 (.bool true) rfl (by kernel_rfl) (by kernel_rfl) (by kernel_rfl) (by kernel_rfl) (fun _ _ _ h => h) (Or.inl ⟨by kernel_rfl, fun W hW => ?_⟩) hS2 ?_
        · obtain ⟨hW0, hW1, hW2, hW3, hW4, hW5, hW6, hW7, hW8, hW9, hW10⟩ := hW
          go_simp
        simp only [Act.put]
        refine AnyM.takeC [9, 17, 18, 31, 32] 8 (.bool true) rfl (by kernel_rfl) (by kernel_rfl) (by kernel_rfl) (by kernel_rfl) (fun _ _ _ h => h) (Or.inl ⟨by kernel_rfl, fun W hW => ?_⟩) hS2 ?_
        · obtain ⟨hW0, hW1, hW2, hW3, hW4, hW5, hW6, hW7, hW8, hW9, hW10⟩ := hW
          go_simp
        simp only [Act.put]
        refine AnyM.takeC [17, 18, 31, 32] 9 (.bool true) rfl (by kernel_rfl) (by kernel_rfl) (by kernel_rfl) (by kernel_rfl) (fun _ _ _ h => h) (Or.inl ⟨by kernel_rfl, fun W hW => ?_⟩) hS2 ?_
        · obtain ⟨hW0, hW1, hW2, hW3, hW4, hW5, hW6, hW7, hW8, hW9, hW10⟩ := hW
          go_simp
        simp only [Act.put]
        refine AnyM.takeC [13, 16, 18, 31, 32] 10 (.pointer (some ⟨T, 0, none⟩)) rfl (by kernel_rfl) (by kernel_rfl) (by kernel_rfl) (by kernel_rfl) (fun _ _ _ h => h) (Or.inl ⟨by kernel_rfl, fun W hW => ?_⟩) hS2 ?_
        · obtain ⟨hW0, hW1, hW2, hW3, hW4, hW5, hW6, hW7, hW8, hW9, hW10⟩ := hW
          go_simp
        simp only [Act.put]
        refine AnyM.takeC [12, 13, 16, 18, 31, 32] 11 (.pointer (some ⟨p, 0, none⟩)) rfl (by kernel_rfl) (by kernel_rfl) (by kernel_rfl) (by kernel_rfl) (fun _ _ _ h => h) (Or.inl ⟨by kernel_rfl, fun W hW => ?_⟩) hS2 ?_
        · obtain ⟨hW0, hW1, hW2, hW3, hW4, hW5, hW6, hW7, hW8, hW9, hW10⟩ := hW
          go_simp
        simp only [Act.put]
        refine AnyM.takeC [13, 16, 18, 31, 32] 12 (.int .i64 me) rfl (by kernel_rfl) (by kernel_rfl) (by kernel_rfl) (by kernel_rfl) (fun _ _ _ h => h) (Or.inl ⟨by kernel_rfl, fun W hW => ?_⟩) hS2 ?_
        · obtain ⟨hW0, hW1, hW2, hW3, hW4, hW5, hW6, hW7, hW8, hW9, hW10⟩ := hW
          go_simp
        simp only [Act.put]
        refine AnyM.takeC [15, 16, 18, 31, 32] 14 (.pointer (some ⟨q, 0, none⟩)) rfl (by kernel_rfl) (by kernel_rfl) (by kernel_rfl) (by kernel_rfl) (fun _ _ _ h => h) (Or.inl ⟨by kernel_rfl, fun W hW => ?_⟩) hS2 ?_
        · obtain ⟨hW0, hW1, hW2, hW3, hW4, hW5, hW6, hW7, hW8, hW9, hW10⟩ := hW
          go_simp
        simp only [Act.put]
        refine AnyM.takeC [16, 18, 31, 32] 15 (.int .i64 gf) rfl (by kernel_rfl) (by kernel_rfl) (by kernel_rfl) (by kernel_rfl) (fun _ _ _ h => h) (Or.inl ⟨by kernel_rfl, fun W hW => ?_⟩) hS2 ?_
        · obtain ⟨hW0, hW1, hW2, hW3, hW4, hW5, hW6, hW7, hW8, hW9, hW10⟩ := hW
          go_simp
        simp only [Act.put]
        refine AnyM.one 13 (by kernel_rfl) rfl ?_
        intro K' hK
        rw [if_pos (by kernel_rfl)]
        go_wp2_with fail
        refine (HNb.out w2 HB2.out).mono ?_
        rintro e w3 ⟨A2, c2, rfl, hr2, hb3⟩
        have hS3 := HX.out w3 hb3
        have HB3 := Lib.hid hb3
        have HR2 := Lib.hid hr2
        clear hb3 hr2
        refine hK.out _ _ (fun _ _ => hS3) ?_
        clear hK
        refine AnyM.one 16 (by kernel_rfl) rfl ?_
        intro K' hK
        rw [if_pos (by kernel_rfl)]
        go_wp2_with fail
        refine (HCn.out A2 c2 w3 HR2.out).mono ?_
        rintro e w4 ⟨rfl, hw4⟩
        rw [hw4]
        clear hw4 w4
        refine hK.out _ _ (fun _ _ => hS3) ?_
        clear hK
        refine AnyM.takeC [18, 31, 32] 17 (.bool false) rfl (by kernel_rfl) (by kernel_rfl) (by kernel_rfl) (by kernel_rfl) (fun _ _ _ h => h) (Or.inl ⟨by kernel_rfl, fun W hW => ?_⟩) hS3 ?_
        · obtain ⟨hW0, hW1, hW2, hW3, hW4, hW5, hW6, hW7, hW8, hW9, hW10⟩ := hW
          go_simp
        simp only [Act.put]
        refine AnyM.takeC [31, 32] 18 (.bool false) rfl (by kernel_rfl) (by kernel_rfl) (by kernel_rfl) (by kernel_rfl) (fun _ _ _ h => h) (Or.inl ⟨by kernel_rfl, fun W hW => ?_⟩) hS3 ?_
        · obtain ⟨hW0, hW1, hW2, hW3, hW4, hW5, hW6, hW7, hW8, hW9, hW10⟩ := hW
          go_simp
        simp only [Act.put]
        refine AnyM.takeC [20, 21, 22, 29, 32] 19 (undef) rfl (by kernel_rfl) (by kernel_rfl) (by kernel_rfl) (by kernel_rfl) (fun _ _ _ h => h) (Or.inr ⟨by kernel_rfl, rfl⟩) hS3 ?_
        simp only [Act.put]
        refine AnyM.takeC [21, 22, 29, 32] 20 (undef) rfl (by kernel_rfl) (by kernel_rfl) (by kernel_rfl) (by kernel_rfl) (fun _ _ _ h => h) (Or.inr ⟨by kernel_rfl, rfl⟩) hS3 ?_
        simp only [Act.put]
        refine AnyM.takeC [22, 29, 32] 21 (undef) rfl (by kernel_rfl) (by kernel_rfl) (by kernel_rfl) (by kernel_rfl) (fun _ _ _ h => h) (Or.inr ⟨by kernel_rfl, rfl⟩) hS3 ?_
        simp only [Act.put]
        refine AnyM.takeC [29, 32] 22 (undef) rfl (by kernel_rfl) (by kernel_rfl) (by kernel_rfl) (by kernel_rfl) (fun _ _ _ h => h) (Or.inr ⟨by kernel_rfl, rfl⟩) hS3 ?_
        simp only [Act.put]
        refine AnyM.takeC [29, 32] 23 (undef) rfl (by kernel_rfl) (by kernel_rfl) (by kernel_rfl) (by kernel_rfl) (fun _ _ _ h => h) (Or.inr ⟨by kernel_rfl, rfl⟩) hS3 ?_
        simp only [Act.put]
        refine AnyM.takeC [25, 26, 29, 32] 24 (undef) rfl (by kernel_rfl) (by kernel_rfl) (by kernel_rfl) (by kernel_rfl) (fun _ _ _ h => h) (Or.inr ⟨by kernel_rfl, rfl⟩) hS3 ?_
        simp only [Act.put]
        refine AnyM.takeC [26, 29, 32] 25 (undef) rfl (by kernel_rfl) (by kernel_rfl) (by kernel_rfl) (by kernel_rfl) (fun _ _ _ h => h) (Or.inr ⟨by kernel_rfl, rfl⟩) hS3 ?_
        simp only [Act.put]
        refine AnyM.takeC [29, 32] 26 (undef) rfl (by kernel_rfl) (by kernel_rfl) (by kernel_rfl) (by kernel_rfl) (fun _ _ _ h => h) (Or.inr ⟨by kernel_rfl, rfl⟩) hS3 ?_
        simp only [Act.put]
        refine AnyM.takeC [28, 29, 32] 27 (undef) rfl (by kernel_rfl) (by kernel_rfl) (by kernel_rfl) (by kernel_rfl) (fun _ _ _ h => h) (Or.inr ⟨by kernel_rfl, rfl⟩) hS3 ?_
        simp only [Act.put]
        refine AnyM.takeC [29, 32] 28 (undef) rfl (by kernel_rfl) (by kernel_rfl) (by kernel_rfl) (by kernel_rfl) (fun _ _ _ h => h) (Or.inr ⟨by kernel_rfl, rfl⟩) hS3 ?_
        simp only [Act.put]
        refine AnyM.takeC [32] 29 (undef) rfl (by kernel_rfl) (by kernel_rfl) (by kernel_rfl) (by kernel_rfl) (fun _ _ _ h => h) (Or.inr ⟨by kernel_rfl, rfl⟩) hS3 ?_
        simp only [Act.put]
        refine AnyM.takeC [31, 32] 30 (undef) rfl (by kernel_rfl) (by kernel_rfl) (by kernel_rfl) (by kernel_rfl) (fun _ _ _ h => h) (Or.inr ⟨by kernel_rfl, rfl⟩) hS3 ?_
        simp only [Act.put]
        refine AnyM.takeC [32] 31 (.bool false) rfl (by kernel_rfl) (by kernel_rfl) (by kernel_rfl) (by kernel_rfl) (fun _ _ _ h => h) (Or.inl ⟨by kernel_rfl, fun W hW => ?_⟩) hS3 ?_
        · obtain ⟨hW0, hW1, hW2, hW3, hW4, hW5, hW6, hW7, hW8, hW9, hW10⟩ := hW
          go_simp
        simp only [Act.put]
        refine AnyM.one 32 (by kernel_rfl) rfl ?_
        intro K' hK
        rw [if_pos (by kernel_rfl)]
        go_wp2_with fail
        refine hK.out _ _ (fun h => absurd rfl h) ?_
        clear hK
        refine AnyM.done (by kernel_rfl) ?_ _
        refine NoPanic.normal ?_
        go_wp2
        go_ret
        exact ⟨by rw [HRf.out]; rfl, HB1.out.trans (HB3.out.mono HB1.out.size)⟩
      | true =>
        by_cases h2 : gs_ = 0
        · have t2 : (gs_ == 0) = true := by simpa using h2
          have HRf : Hid (t = true) := Lib.hid (by rw [HIff.out]; simp [h1, h2])
          clear h1 h2
          refine wp_region_noPanic ?_
          refine region_lastM 32 (fun W : World => W.cell? ⟨p, 0, none⟩ = some (.int .i64 me) ∧ W.cell? ⟨p, 1, none⟩ = some (.slice D1 d1 k1) ∧ W.cell? ⟨q, 0, none⟩ = some (.int .i64 gf) ∧ W.cell? ⟨q, 1, none⟩ = some (.int .i64 gt) ∧ W.cell? ⟨q, 2, none⟩ = some (.int .i64 ga) ∧ W.cell? ⟨q, 3, none⟩ = some (.int .i64 gs_) ∧ W.cell? ⟨q, 4, none⟩ = some (.int .i64 mk) ∧ W.cell? ⟨q, 5, none⟩ = some (.int .i64 mo) ∧ W.cell? ⟨q, 6, none⟩ = some (.int .i64 mn) ∧ W.cell? ⟨q, 7, none⟩ = some (.int .i64 mu) ∧ W.cell? ⟨q, 8, none⟩ = some (.int .i64 mv)) (by kernel_rfl) ?_
          refine AnyM.takeC [1, 2, 9, 17, 18, 31, 32] 0 (.agg #[.int .i64 gf, .int .i64 gt, .int .i64 ga, .int .i64 gs_, .int .i64 mk, .int .i64 mo, .int .i64 mn, .int .i64 mu, .int .i64 mv]) rfl (by kernel_rfl) (by kernel_rfl) (by kernel_rfl) (by kernel_rfl) (fun _ _ _ h => h) (Or.inl ⟨by kernel_rfl, fun W hW => ?_⟩) hS0 ?_
          · obtain ⟨hW0, hW1, hW2, hW3, hW4, hW5, hW6, hW7, hW8, hW9, hW10⟩ := hW
            go_simp
          simp only [Act.put, List.setIfInBounds_toArray]
          refine AnyM.one 1 (by kernel_rfl) rfl ?_
          intro K' hK
          rw [if_pos (by kernel_rfl)]
          go_wp2_with fail
          refine (HVa.out W1.drew HD1.out).mono ?_
          rintro e w2 ⟨rfl, hb2⟩
          have hS2 := HX.out w2 hb2
          have HB2 := Lib.hid hb2
          clear hb2
          refine hK.out _ _ (fun _ _ => hS2) ?_
          clear hK
          refine AnyM.takeC [9, 17, 18, 31, 32] 2 (.bool true) rfl (by kernel_rfl) (by kernel_rfl) (by kernel_rfl) (by kernel_rfl) (fun _ _ _ h => h) (Or.inl ⟨by kernel_rfl, fun W hW => ?_⟩) hS2 ?_
          · obtain ⟨hW0, hW1, hW2, hW3, hW4, hW5, hW6, hW7, hW8, hW9, hW10⟩ := hW
            go_simp
          simp only [Act.put]
          refine AnyM.takeC [4, 7, 8, 9, 17, 18, 31, 32] 3 (.pointer (some ⟨q, 1, none⟩)) rfl (by kernel_rfl) (by kernel_rfl) (by kernel_rfl) (by kernel_rfl) (fun _ _ _ h => h) (Or.inl ⟨by kernel_rfl, fun W hW => ?_⟩) hS2 ?_
          · obtain ⟨hW0, hW1, hW2, hW3, hW4, hW5, hW6, hW7, hW8, hW9, hW10⟩ := hW
            go_simp
          simp only [Act.put]
          refine AnyM.takeC [7, 8, 9, 17, 18, 31, 32] 4 (.int .i64 gt) rfl (by kernel_rfl) (by kernel_rfl) (by kernel_rfl) (by kernel_rfl) (fun _ _ _ h => h) (Or.inl ⟨by kernel_rfl, fun W hW => ?_⟩) hS2 ?_
          · obtain ⟨hW0, hW1, hW2, hW3, hW4, hW5, hW6, hW7, hW8, hW9, hW10⟩ := hW
            go_simp
          simp only [Act.put]
          refine AnyM.takeC [6, 7, 8, 9, 17, 18, 31, 32] 5 (.pointer (some ⟨p, 0, none⟩)) rfl (by kernel_rfl) (by kernel_rfl) (by kernel_rfl) (by kernel_rfl) (fun _ _ _ h => h) (Or.inl ⟨by kernel_rfl, fun W hW => ?_⟩) hS2 ?_
          · obtain ⟨hW0, hW1, hW2, hW3, hW4, hW5, hW6, hW7, hW8, hW9, hW10⟩ := hW
            go_simp
          simp only [Act.put]
          refine AnyM.takeC [7, 8, 9, 17, 18, 31, 32] 6 (.int .i64 me) rfl (by kernel_rfl) (by kernel_rfl) (by kernel_rfl) (by kernel_rfl) (fun _ _ _ h => h) (Or.inl ⟨by kernel_rfl, fun W hW => ?_⟩) hS2 ?_
          · obtain ⟨hW0, hW1, hW2, hW3, hW4, hW5, hW6, hW7, hW8, hW9, hW10⟩ := hW
            go_simp
          simp only [Act.put]
          refine AnyM.takeC [8, 9, 17, 18, 31, 32] 7 (.bool true) rfl (by kernel_rfl) (by kernel_rfl) (by kernel_rfl) (by kernel_rfl) (fun _ _ _ h => h) (Or.inl ⟨by kernel_rfl, fun W hW => ?_⟩) hS2 ?_
          · obtain ⟨hW0, hW1, hW2, hW3, hW4, hW5, hW6, hW7, hW8, hW9, hW10⟩ := hW
            go_simp
          simp only [Act.put]
          refine AnyM.takeC [9, 17, 18, 31, 32] 8 (.bool true) rfl (by kernel_rfl) (by kernel_rfl) (by kernel_rfl) (by kernel_rfl) (fun _ _ _ h => h) (Or.inl ⟨by kernel_rfl, fun W hW => ?_⟩) hS2 ?_
          · obtain ⟨hW0, hW1, hW2, hW3, hW4, hW5, hW6, hW7, hW8, hW9, hW10⟩ := hW
            go_simp
          simp only [Act.put]
          refine AnyM.takeC [17, 18, 31, 32] 9 (.bool true) rfl (by kernel_rfl) (by kernel_rfl) (by kernel_rfl) (by kernel_rfl) (fun _ _ _ h => h) (Or.inl ⟨by kernel_rfl, fun W hW => ?_⟩) hS2 ?_
          · obtain ⟨hW0, hW1, hW2, hW3, hW4, hW5, hW6, hW7, hW8, hW9, hW10⟩ := hW
            go_simp
          simp only [Act.put]
          refine AnyM.takeC [13, 16, 18, 31, 32] 10 (.pointer (some ⟨T, 0, none⟩)) rfl (by kernel_rfl) (by kernel_rfl) (by kernel_rfl) (by kernel_rfl) (fun _ _ _ h => h) (Or.inl ⟨by kernel_rfl, fun W hW => ?_⟩) hS2 ?_
          · obtain ⟨hW0, hW1, hW2, hW3, hW4, hW5, hW6, hW7, hW8, hW9, hW10⟩ := hW
            go_simp
          simp only [Act.put]
          refine AnyM.takeC [12, 13, 16, 18, 31, 32] 11 (.pointer (some ⟨p, 0, none⟩)) rfl (by kernel_rfl) (by kernel_rfl) (by kernel_rfl) (by kernel_rfl) (fun _ _ _ h => h) (Or.inl ⟨by kernel_rfl, fun W hW => ?_⟩) hS2 ?_
          · obtain ⟨hW0, hW1, hW2, hW3, hW4, hW5, hW6, hW7, hW8, hW9, hW10⟩ := hW
            go_simp
          simp only [Act.put]
          refine AnyM.takeC [13, 16, 18, 31, 32] 12 (.int .i64 me) rfl (by kernel_rfl) (by kernel_rfl) (by kernel_rfl) (by kernel_rfl) (fun _ _ _ h => h) (Or.inl ⟨by kernel_rfl, fun W hW => ?_⟩) hS2 ?_
          · obtain ⟨hW0, hW1, hW2, hW3, hW4, hW5, hW6, hW7, hW8, hW9, hW10⟩ := hW
            go_simp
          simp only [Act.put]
          refine AnyM.takeC [15, 16, 18, 31, 32] 14 (.pointer (some ⟨q, 0, none⟩)) rfl (by kernel_rfl) (by kernel_rfl) (by kernel_rfl) (by kernel_rfl) (fun _ _ _ h => h) (Or.inl ⟨by kernel_rfl, fun W hW => ?_⟩) hS2 ?_
          · obtain ⟨hW0, hW1, hW2, hW3, hW4, hW5, hW6, hW7, hW8, hW9, hW10⟩ := hW
            go_simp
          simp only [Act.put]
          refine AnyM.takeC [16, 18, 31, 32] 15 (.int .i64 gf) rfl (by kernel_rfl) (by kernel_rfl) (by kernel_rfl) (by kernel_rfl) (fun _ _ _ h => h) (Or.inl ⟨by kernel_rfl, fun W hW => ?_⟩) hS2 ?_
          · obtain ⟨hW0, hW1, hW2, hW3, hW4, hW5, hW6, hW7, hW8, hW9, hW10⟩ := hW
            go_simp
          simp only [Act.put]
          refine AnyM.one 13 (by kernel_rfl) rfl ?_
          intro K' hK
          rw [if_pos (by kernel_rfl)]
          go_wp2_with fail
          refine (HNb.out w2 HB2.out).mono ?_
          rintro e w3 ⟨A2, c2, rfl, hr2, hb3⟩
          have hS3 := HX.out w3 hb3
          have HB3 := Lib.hid hb3
          have HR2 := Lib.hid hr2
          clear hb3 hr2
          refine hK.out _ _ (fun _ _ => hS3) ?_
          clear hK
          refine AnyM.one 16 (by kernel_rfl) rfl ?_
          intro K' hK
          rw [if_pos (by kernel_rfl)]
          go_wp2_with fail
          refine (HCn.out A2 c2 w3 HR2.out).mono ?_
          rintro e w4 ⟨rfl, hw4⟩
          rw [hw4]
          clear hw4 w4
          refine hK.out _ _ (fun _ _ => hS3) ?_
          clear hK
          refine AnyM.takeC [18, 31, 32] 17 (.bool true) rfl (by kernel_rfl) (by kernel_rfl) (by kernel_rfl) (by kernel_rfl) (fun _ _ _ h => h) (Or.inl ⟨by kernel_rfl, fun W hW => ?_⟩) hS3 ?_
          · obtain ⟨hW0, hW1, hW2, hW3, hW4, hW5, hW6, hW7, hW8, hW9, hW10⟩ := hW
            go_simp
          simp only [Act.put]
          refine AnyM.takeC [31, 32] 18 (.bool true) rfl (by kernel_rfl) (by kernel_rfl) (by kernel_rfl) (by kernel_rfl) (fun _ _ _ h => h) (Or.inl ⟨by kernel_rfl, fun W hW => ?_⟩) hS3 ?_
          · obtain ⟨hW0, hW1, hW2, hW3, hW4, hW5, hW6, hW7, hW8, hW9, hW10⟩ := hW
            go_simp
          simp only [Act.put]
          refine AnyM.takeC [20, 21, 22, 29, 32] 19 (.pointer (some ⟨q, 3, none⟩)) rfl (by kernel_rfl) (by kernel_rfl) (by kernel_rfl) (by kernel_rfl) (fun _ _ _ h => h) (Or.inl ⟨by kernel_rfl, fun W hW => ?_⟩) hS3 ?_
          · obtain ⟨hW0, hW1, hW2, hW3, hW4, hW5, hW6, hW7, hW8, hW9, hW10⟩ := hW
            go_simp
          simp only [Act.put]
          refine AnyM.takeC [21, 22, 29, 32] 20 (.int .i64 gs_) rfl (by kernel_rfl) (by kernel_rfl) (by kernel_rfl) (by kernel_rfl) (fun _ _ _ h => h) (Or.inl ⟨by kernel_rfl, fun W hW => ?_⟩) hS3 ?_
          · obtain ⟨hW0, hW1, hW2, hW3, hW4, hW5, hW6, hW7, hW8, hW9, hW10⟩ := hW
            go_simp
          simp only [Act.put]
          refine AnyM.takeC [22, 29, 32] 21 (.bool true) rfl (by kernel_rfl) (by kernel_rfl) (by kernel_rfl) (by kernel_rfl) (fun _ _ _ h => h) (Or.inl ⟨by kernel_rfl, fun W hW => ?_⟩) hS3 ?_
          · obtain ⟨hW0, hW1, hW2, hW3, hW4, hW5, hW6, hW7, hW8, hW9, hW10⟩ := hW
            go_simp
          simp only [Act.put]
          refine AnyM.takeC [29, 32] 22 (.bool true) rfl (by kernel_rfl) (by kernel_rfl) (by kernel_rfl) (by kernel_rfl) (fun _ _ _ h => h) (Or.inl ⟨by kernel_rfl, fun W hW => ?_⟩) hS3 ?_
          · obtain ⟨hW0, hW1, hW2, hW3, hW4, hW5, hW6, hW7, hW8, hW9, hW10⟩ := hW
            go_simp
          simp only [Act.put]
          refine AnyM.takeC [29, 32] 23 (undef) rfl (by kernel_rfl) (by kernel_rfl) (by kernel_rfl) (by kernel_rfl) (fun _ _ _ h => h) (Or.inr ⟨by kernel_rfl, rfl⟩) hS3 ?_
          simp only [Act.put]
          refine AnyM.takeC [25, 26, 29, 32] 24 (undef) rfl (by kernel_rfl) (by kernel_rfl) (by kernel_rfl) (by kernel_rfl) (fun _ _ _ h => h) (Or.inr ⟨by kernel_rfl, rfl⟩) hS3 ?_
          simp only [Act.put]
          refine AnyM.takeC [26, 29, 32] 25 (undef) rfl (by kernel_rfl) (by kernel_rfl) (by kernel_rfl) (by kernel_rfl) (fun _ _ _ h => h) (Or.inr ⟨by kernel_rfl, rfl⟩) hS3 ?_
          simp only [Act.put]
          refine AnyM.takeC [29, 32] 26 (undef) rfl (by kernel_rfl) (by kernel_rfl) (by kernel_rfl) (by kernel_rfl) (fun _ _ _ h => h) (Or.inr ⟨by kernel_rfl, rfl⟩) hS3 ?_
          simp only [Act.put]
          refine AnyM.takeC [28, 29, 32] 27 (undef) rfl (by kernel_rfl) (by kernel_rfl) (by kernel_rfl) (by kernel_rfl) (fun _ _ _ h => h) (Or.inr ⟨by kernel_rfl, rfl⟩) hS3 ?_
          simp only [Act.put]
          refine AnyM.takeC [29, 32] 28 (undef) rfl (by kernel_rfl) (by kernel_rfl) (by kernel_rfl) (by kernel_rfl) (fun _ _ _ h => h) (Or.inr ⟨by kernel_rfl, rfl⟩) hS3 ?_
          simp only [Act.put]
          refine AnyM.takeC [32] 29 (undef) rfl (by kernel_rfl) (by kernel_rfl) (by kernel_rfl) (by kernel_rfl) (fun _ _ _ h => h) (Or.inr ⟨by kernel_rfl, rfl⟩) hS3 ?_
          simp only [Act.put]
          refine AnyM.takeC [31, 32] 30 (.bool true) rfl (by kernel_rfl) (by kernel_rfl) (by kernel_rfl) (by kernel_rfl) (fun _ _ _ h => h) (Or.inl ⟨by kernel_rfl, fun W hW => ?_⟩) hS3 ?_
          · obtain ⟨hW0, hW1, hW2, hW3, hW4, hW5, hW6, hW7, hW8, hW9, hW10⟩ := hW
            go_simp
          simp only [Act.put]
          refine AnyM.takeC [32] 31 (.bool true) rfl (by kernel_rfl) (by kernel_rfl) (by kernel_rfl) (by kernel_rfl) (fun _ _ _ h => h) (Or.inl ⟨by kernel_rfl, fun W hW => ?_⟩) hS3 ?_
          · obtain ⟨hW0, hW1, hW2, hW3, hW4, hW5, hW6, hW7, hW8, hW9, hW10⟩ := hW
            go_simp
          simp only [Act.put]
          refine AnyM.one 32 (by kernel_rfl) rfl ?_
          intro K' hK
          rw [if_pos (by kernel_rfl)]
          go_wp2_with fail
          refine hK.out _ _ (fun h => absurd rfl h) ?_
          clear hK
          refine AnyM.done (by kernel_rfl) ?_ _
          refine NoPanic.normal ?_
          go_wp2
          go_ret
          exact ⟨by rw [HRf.out]; rfl, HB1.out.trans (HB3.out.mono HB1.out.size)⟩
        · have t2 : (gs_ == 0) = false := by simpa using h2
          have HRf : Hid (t = bm) := Lib.hid (by rw [HIff.out]; simp [h1, h2])
          clear h1 h2
          refine wp_region_noPanic ?_
          refine region_lastM 32 (fun W : World => W.cell? ⟨p, 0, none⟩ = some (.int .i64 me) ∧ W.cell? ⟨p, 1, none⟩ = some (.slice D1 d1 k1) ∧ W.cell? ⟨q, 0, none⟩ = some (.int .i64 gf) ∧ W.cell? ⟨q, 1, none⟩ = some (.int .i64 gt) ∧ W.cell? ⟨q, 2, none⟩ = some (.int .i64 ga) ∧ W.cell? ⟨q, 3, none⟩ = some (.int .i64 gs_) ∧ W.cell? ⟨q, 4, none⟩ = some (.int .i64 mk) ∧ W.cell? ⟨q, 5, none⟩ = some (.int .i64 mo) ∧ W.cell? ⟨q, 6, none⟩ = some (.int .i64 mn) ∧ W.cell? ⟨q, 7, none⟩ = some (.int .i64 mu) ∧ W.cell? ⟨q, 8, none⟩ = some (.int .i64 mv)) (by kernel_rfl) ?_
          refine AnyM.takeC [1, 2, 9, 17, 18, 31, 32] 0 (.agg #[.int .i64 gf, .int .i64 gt, .int .i64 ga, .int .i64 gs_, .int .i64 mk, .int .i64 mo, .int .i64 mn, .int .i64 mu, .int .i64 mv]) rfl (by kernel_rfl) (by kernel_rfl) (by kernel_rfl) (by kernel_rfl) (fun _ _ _ h => h) (Or.inl ⟨by kernel_rfl, fun W hW => ?_⟩) hS0 ?_
          · obtain ⟨hW0, hW1, hW2, hW3, hW4, hW5, hW6, hW7, hW8, hW9, hW10⟩ := hW
            go_simp
          simp only [Act.put, List.setIfInBounds_toArray]
          refine AnyM.one 1 (by kernel_rfl) rfl ?_
          intro K' hK
          rw [if_pos (by kernel_rfl)]
          go_wp2_with fail
          refine (HVa.out W1.drew HD1.out).mono ?_
          rintro e w2 ⟨rfl, hb2⟩
          have hS2 := HX.out w2 hb2
          have HB2 := Lib.hid hb2
          clear hb2
          refine hK.out _ _ (fun _ _ => hS2) ?_
          clear hK
          refine AnyM.takeC [9, 17, 18, 31, 32] 2 (.bool true) rfl (by kernel_rfl) (by kernel_rfl) (by kernel_rfl) (by kernel_rfl) (fun _ _ _ h => h) (Or.inl ⟨by kernel_rfl, fun W hW => ?_⟩) hS2 ?_
          · obtain ⟨hW0, hW1, hW2, hW3, hW4, hW5, hW6, hW7, hW8, hW9, hW10⟩ := hW
            go_simp
          simp only [Act.put]
          refine AnyM.takeC [4, 7, 8, 9, 17, 18, 31, 32] 3 (.pointer (some ⟨q, 1, none⟩)) rfl (by kernel_rfl) (by kernel_rfl) (by kernel_rfl) (by kernel_rfl) (fun _ _ _ h => h) (Or.inl ⟨by kernel_rfl, fun W hW => ?_⟩) hS2 ?_
          · obtain ⟨hW0, hW1, hW2, hW3, hW4, hW5, hW6, hW7, hW8, hW9, hW10⟩ := hW
            go_simp
          simp only [Act.put]
          refine AnyM.takeC [7, 8, 9, 17, 18, 31, 32] 4 (.int .i64 gt) rfl (by kernel_rfl) (by kernel_rfl) (by kernel_rfl) (by kernel_rfl) (fun _ _ _ h => h) (Or.inl ⟨by kernel_rfl, fun W hW => ?_⟩) hS2 ?_
          · obtain ⟨hW0, hW1, hW2, hW3, hW4, hW5, hW6, hW7, hW8, hW9, hW10⟩ := hW
            go_simp
          simp only [Act.put]
          refine AnyM.takeC [6, 7, 8, 9, 17, 18, 31, 32] 5 (.pointer (some ⟨p, 0, none⟩)) rfl (by kernel_rfl) (by kernel_rfl) (by kernel_rfl) (by kernel_rfl) (fun _ _ _ h => h) (Or.inl ⟨by kernel_rfl, fun W hW => ?_⟩) hS2 ?_
          · obtain ⟨hW0, hW1, hW2, hW3, hW4, hW5, hW6, hW7, hW8, hW9, hW10⟩ := hW
            go_simp
          simp only [Act.put]
          refine AnyM.takeC [7, 8, 9, 17, 18, 31, 32] 6 (.int .i64 me) rfl (by kernel_rfl) (by kernel_rfl) (by kernel_rfl) (by kernel_rfl) (fun _ _ _ h => h) (Or.inl ⟨by kernel_rfl, fun W hW => ?_⟩) hS2 ?_
          · obtain ⟨hW0, hW1, hW2, hW3, hW4, hW5, hW6, hW7, hW8, hW9, hW10⟩ := hW
            go_simp
          simp only [Act.put]
          refine AnyM.takeC [8, 9, 17, 18, 31, 32] 7 (.bool true) rfl (by kernel_rfl) (by kernel_rfl) (by kernel_rfl) (by kernel_rfl) (fun _ _ _ h => h) (Or.inl ⟨by kernel_rfl, fun W hW => ?_⟩) hS2 ?_
          · obtain ⟨hW0, hW1, hW2, hW3, hW4, hW5, hW6, hW7, hW8, hW9, hW10⟩ := hW
            go_simp
          simp only [Act.put]
          refine AnyM.takeC [9, 17, 18, 31, 32] 8 (.bool true) rfl (by kernel_rfl) (by kernel_rfl) (by kernel_rfl) (by kernel_rfl) (fun _ _ _ h => h) (Or.inl ⟨by kernel_rfl, fun W hW => ?_⟩) hS2 ?_
          · obtain ⟨hW0, hW1, hW2, hW3, hW4, hW5, hW6, hW7, hW8, hW9, hW10⟩ := hW
            go_simp
          simp only [Act.put]
          refine AnyM.takeC [17, 18, 31, 32] 9 (.bool true) rfl (by kernel_rfl) (by kernel_rfl) (by kernel_rfl) (by kernel_rfl) (fun _ _ _ h => h) (Or.inl ⟨by kernel_rfl, fun W hW => ?_⟩) hS2 ?_
          · obtain ⟨hW0, hW1, hW2, hW3, hW4, hW5, hW6, hW7, hW8, hW9, hW10⟩ := hW
            go_simp
          simp only [Act.put]
          refine AnyM.takeC [13, 16, 18, 31, 32] 10 (.pointer (some ⟨T, 0, none⟩)) rfl (by kernel_rfl) (by kernel_rfl) (by kernel_rfl) (by kernel_rfl) (fun _ _ _ h => h) (Or.inl ⟨by kernel_rfl, fun W hW => ?_⟩) hS2 ?_
          · obtain ⟨hW0, hW1, hW2, hW3, hW4, hW5, hW6, hW7, hW8, hW9, hW10⟩ := hW
            go_simp
          simp only [Act.put]
          refine AnyM.takeC [12, 13, 16, 18, 31, 32] 11 (.pointer (some ⟨p, 0, none⟩)) rfl (by kernel_rfl) (by kernel_rfl) (by kernel_rfl) (by kernel_rfl) (fun _ _ _ h => h) (Or.inl ⟨by kernel_rfl, fun W hW => ?_⟩) hS2 ?_
          · obtain ⟨hW0, hW1, hW2, hW3, hW4, hW5, hW6, hW7, hW8, hW9, hW10⟩ := hW
            go_simp
          simp only [Act.put]
          refine AnyM.takeC [13, 16, 18, 31, 32] 12 (.int .i64 me) rfl (by kernel_rfl) (by kernel_rfl) (by kernel_rfl) (by kernel_rfl) (fun _ _ _ h => h) (Or.inl ⟨by kernel_rfl, fun W hW => ?_⟩) hS2 ?_
          · obtain ⟨hW0, hW1, hW2, hW3, hW4, hW5, hW6, hW7, hW8, hW9, hW10⟩ := hW
            go_simp
          simp only [Act.put]
          refine AnyM.takeC [15, 16, 18, 31, 32] 14 (.pointer (some ⟨q, 0, none⟩)) rfl (by kernel_rfl) (by kernel_rfl) (by kernel_rfl) (by kernel_rfl) (fun _ _ _ h => h) (Or.inl ⟨by kernel_rfl, fun W hW => ?_⟩) hS2 ?_
          · obtain ⟨hW0, hW1, hW2, hW3, hW4, hW5, hW6, hW7, hW8, hW9, hW10⟩ := hW
            go_simp
          simp only [Act.put]
          refine AnyM.takeC [16, 18, 31, 32] 15 (.int .i64 gf) rfl (by kernel_rfl) (by kernel_rfl) (by kernel_rfl) (by kernel_rfl) (fun _ _ _ h => h) (Or.inl ⟨by kernel_rfl, fun W hW => ?_⟩) hS2 ?_
          · obtain ⟨hW0, hW1, hW2, hW3, hW4, hW5, hW6, hW7, hW8, hW9, hW10⟩ := hW
            go_simp
          simp only [Act.put]
          refine AnyM.one 13 (by kernel_rfl) rfl ?_
          intro K' hK
          rw [if_pos (by kernel_rfl)]
          go_wp2_with fail
          refine (HNb.out w2 HB2.out).mono ?_
          rintro e w3 ⟨A2, c2, rfl, hr2, hb3⟩
          have hS3 := HX.out w3 hb3
          have HB3 := Lib.hid hb3
          have HR2 := Lib.hid hr2
          clear hb3 hr2
          refine hK.out _ _ (fun _ _ => hS3) ?_
          clear hK
          refine AnyM.one 16 (by kernel_rfl) rfl ?_
          intro K' hK
          rw [if_pos (by kernel_rfl)]
          go_wp2_with fail
          refine (HCn.out A2 c2 w3 HR2.out).mono ?_
          rintro e w4 ⟨rfl, hw4⟩
          rw [hw4]
          clear hw4 w4
          refine hK.out _ _ (fun _ _ => hS3) ?_
          clear hK
          refine AnyM.takeC [18, 31, 32] 17 (.bool true) rfl (by kernel_rfl) (by kernel_rfl) (by kernel_rfl) (by kernel_rfl) (fun _ _ _ h => h) (Or.inl ⟨by kernel_rfl, fun W hW => ?_⟩) hS3 ?_
          · obtain ⟨hW0, hW1, hW2, hW3, hW4, hW5, hW6, hW7, hW8, hW9, hW10⟩ := hW
            go_simp
          simp only [Act.put]
          refine AnyM.takeC [31, 32] 18 (.bool true) rfl (by kernel_rfl) (by kernel_rfl) (by kernel_rfl) (by kernel_rfl) (fun _ _ _ h => h) (Or.inl ⟨by kernel_rfl, fun W hW => ?_⟩) hS3 ?_
          · obtain ⟨hW0, hW1, hW2, hW3, hW4, hW5, hW6, hW7, hW8, hW9, hW10⟩ := hW
            go_simp
          simp only [Act.put]
          refine AnyM.takeC [20, 21, 22, 29, 32] 19 (.pointer (some ⟨q, 3, none⟩)) rfl (by kernel_rfl) (by kernel_rfl) (by kernel_rfl) (by kernel_rfl) (fun _ _ _ h => h) (Or.inl ⟨by kernel_rfl, fun W hW => ?_⟩) hS3 ?_
          · obtain ⟨hW0, hW1, hW2, hW3, hW4, hW5, hW6, hW7, hW8, hW9, hW10⟩ := hW
            go_simp
          simp only [Act.put]
          refine AnyM.takeC [21, 22, 29, 32] 20 (.int .i64 gs_) rfl (by kernel_rfl) (by kernel_rfl) (by kernel_rfl) (by kernel_rfl) (fun _ _ _ h => h) (Or.inl ⟨by kernel_rfl, fun W hW => ?_⟩) hS3 ?_
          · obtain ⟨hW0, hW1, hW2, hW3, hW4, hW5, hW6, hW7, hW8, hW9, hW10⟩ := hW
            go_simp
          simp only [Act.put]
          refine AnyM.takeC [22, 29, 32] 21 (.bool false) rfl (by kernel_rfl) (by kernel_rfl) (by kernel_rfl) (by kernel_rfl) (fun _ _ _ h => h) (Or.inl ⟨by kernel_rfl, fun W hW => ?_⟩) hS3 ?_
          · obtain ⟨hW0, hW1, hW2, hW3, hW4, hW5, hW6, hW7, hW8, hW9, hW10⟩ := hW
            go_simp
          simp only [Act.put]
          refine AnyM.takeC [29, 32] 22 (.bool false) rfl (by kernel_rfl) (by kernel_rfl) (by kernel_rfl) (by kernel_rfl) (fun _ _ _ h => h) (Or.inl ⟨by kernel_rfl, fun W hW => ?_⟩) hS3 ?_
          · obtain ⟨hW0, hW1, hW2, hW3, hW4, hW5, hW6, hW7, hW8, hW9, hW10⟩ := hW
            go_simp
          simp only [Act.put]
          refine AnyM.takeC [29, 32] 23 (.pointer (some ⟨T, 0, none⟩)) rfl (by kernel_rfl) (by kernel_rfl) (by kernel_rfl) (by kernel_rfl) (fun _ _ _ h => h) (Or.inl ⟨by kernel_rfl, fun W hW => ?_⟩) hS3 ?_
          · obtain ⟨hW0, hW1, hW2, hW3, hW4, hW5, hW6, hW7, hW8, hW9, hW10⟩ := hW
            go_simp
          simp only [Act.put]
          refine AnyM.takeC [25, 26, 29, 32] 24 (.pointer (some ⟨p, 1, none⟩)) rfl (by kernel_rfl) (by kernel_rfl) (by kernel_rfl) (by kernel_rfl) (fun _ _ _ h => h) (Or.inl ⟨by kernel_rfl, fun W hW => ?_⟩) hS3 ?_
          · obtain ⟨hW0, hW1, hW2, hW3, hW4, hW5, hW6, hW7, hW8, hW9, hW10⟩ := hW
            go_simp
          simp only [Act.put]
          refine AnyM.takeC [26, 29, 32] 25 (.slice D1 d1 k1) rfl (by kernel_rfl) (by kernel_rfl) (by kernel_rfl) (by kernel_rfl) (fun _ _ _ h => h) (Or.inl ⟨by kernel_rfl, fun W hW => ?_⟩) hS3 ?_
          · obtain ⟨hW0, hW1, hW2, hW3, hW4, hW5, hW6, hW7, hW8, hW9, hW10⟩ := hW
            go_simp
          simp only [Act.put]
          refine AnyM.takeC [29, 32] 26 (.int .i64 (d1 : Int)) rfl (by kernel_rfl) (by kernel_rfl) (by kernel_rfl) (by kernel_rfl) (fun _ _ _ h => h) (Or.inl ⟨by kernel_rfl, fun W hW => ?_⟩) hS3 ?_
          · obtain ⟨hW0, hW1, hW2, hW3, hW4, hW5, hW6, hW7, hW8, hW9, hW10⟩ := hW
            go_simp
          simp only [Act.put]
          refine AnyM.takeC [28, 29, 32] 27 (.pointer (some ⟨q, 4, none⟩)) rfl (by kernel_rfl) (by kernel_rfl) (by kernel_rfl) (by kernel_rfl) (fun _ _ _ h => h) (Or.inl ⟨by kernel_rfl, fun W hW => ?_⟩) hS3 ?_
          · obtain ⟨hW0, hW1, hW2, hW3, hW4, hW5, hW6, hW7, hW8, hW9, hW10⟩ := hW
            go_simp
          simp only [Act.put]
          refine AnyM.takeC [29, 32] 28 (.agg #[.int .i64 mk, .int .i64 mo, .int .i64 mn, .int .i64 mu, .int .i64 mv]) rfl (by kernel_rfl) (by kernel_rfl) (by kernel_rfl) (by kernel_rfl) (fun _ _ _ h => h) (Or.inl ⟨by kernel_rfl, fun W hW => ?_⟩) hS3 ?_
          · obtain ⟨hW0, hW1, hW2, hW3, hW4, hW5, hW6, hW7, hW8, hW9, hW10⟩ := hW
            go_simp
          simp only [Act.put]
          refine AnyM.one 29 (by kernel_rfl) rfl ?_
          intro K' hK
          rw [if_pos (by kernel_rfl)]
          go_wp2_with fail
          refine (HMe.out w3 HB3.out).mono ?_
          rintro e w5 ⟨rfl, hb5⟩
          have hS5 := HX.out w5 hb5
          have HB5 := Lib.hid hb5
          clear hb5
          refine hK.out _ _ (fun _ _ => hS5) ?_
          clear hK
          refine AnyM.takeC [31, 32] 30 (.bool bm) rfl (by kernel_rfl) (by kernel_rfl) (by kernel_rfl) (by kernel_rfl) (fun _ _ _ h => h) (Or.inl ⟨by kernel_rfl, fun W hW => ?_⟩) hS5 ?_
          · obtain ⟨hW0, hW1, hW2, hW3, hW4, hW5, hW6, hW7, hW8, hW9, hW10⟩ := hW
            go_simp
          simp only [Act.put]
          refine AnyM.takeC [32] 31 (.bool bm) rfl (by kernel_rfl) (by kernel_rfl) (by kernel_rfl) (by kernel_rfl) (fun _ _ _ h => h) (Or.inl ⟨by kernel_rfl, fun W hW => ?_⟩) hS5 ?_
          · obtain ⟨hW0, hW1, hW2, hW3, hW4, hW5, hW6, hW7, hW8, hW9, hW10⟩ := hW
            go_simp
          simp only [Act.put]
          refine AnyM.one 32 (by kernel_rfl) rfl ?_
          intro K' hK
          rw [if_pos (by kernel_rfl)]
          go_wp2_with fail
          refine hK.out _ _ (fun h => absurd rfl h) ?_
          clear hK
          refine AnyM.done (by kernel_rfl) ?_ _
          refine NoPanic.normal ?_
          go_wp2
          go_ret
          exact ⟨by rw [HRf.out]; rfl, HB1.out.trans (HB5.out.mono HB1.out.size)⟩
    · have t1 : (gt == me) = false := by simpa using h1
      have HRf : Hid (t = false) := Lib.hid (by rw [HIff.out]; simp [h1])
      clear h1
      refine wp_region_noPanic ?_
      refine region_lastM 32 (fun W : World => W.cell? ⟨p, 0, none⟩ = some (.int .i64 me) ∧ W.cell? ⟨p, 1, none⟩ = some (.slice D1 d1 k1) ∧ W.cell? ⟨q, 0, none⟩ = some (.int .i64 gf) ∧ W.cell? ⟨q, 1, none⟩ = some (.int .i64 gt) ∧ W.cell? ⟨q, 2, none⟩ = some (.int .i64 ga) ∧ W.cell? ⟨q, 3, none⟩ = some (.int .i64 gs_) ∧ W.cell? ⟨q, 4, none⟩ = some (.int .i64 mk) ∧ W.cell? ⟨q, 5, none⟩ = some (.int .i64 mo) ∧ W.cell? ⟨q, 6, none⟩ = some (.int .i64 mn) ∧ W.cell? ⟨q, 7, none⟩ = some (.int .i64 mu) ∧ W.cell? ⟨q, 8, none⟩ = some (.int .i64 mv)) (by kernel_rfl) ?_
      refine AnyM.takeC [1, 2, 9, 17, 18, 31, 32] 0 (.agg #[.int .i64 gf, .int .i64 gt, .int .i64 ga, .int .i64 gs_, .int .i64 mk, .int .i64 mo, .int .i64 mn, .int .i64 mu, .int .i64 mv]) rfl (by kernel_rfl) (by kernel_rfl) (by kernel_rfl) (by kernel_rfl) (fun _ _ _ h => h) (Or.inl ⟨by kernel_rfl, fun W hW => ?_⟩) hS0 ?_
      · obtain ⟨hW0, hW1, hW2, hW3, hW4, hW5, hW6, hW7, hW8, hW9, hW10⟩ := hW
        go_simp
      simp only [Act.put, List.setIfInBounds_toArray]
      refine AnyM.one 1 (by kernel_rfl) rfl ?_
      intro K' hK
      rw [if_pos (by kernel_rfl)]
      go_wp2_with fail
      refine (HVa.out W1.drew HD1.out).mono ?_
      rintro e w2 ⟨rfl, hb2⟩
      have hS2 := HX.out w2 hb2
      have HB2 := Lib.hid hb2
      clear hb2
      refine hK.out _ _ (fun _ _ => hS2) ?_
      clear hK
      refine AnyM.takeC [9, 17, 18, 31, 32] 2 (.bool true) rfl (by kernel_rfl) (by kernel_rfl) (by kernel_rfl) (by kernel_rfl) (fun _ _ _ h => h) (Or.inl ⟨by kernel_rfl, fun W hW => ?_⟩) hS2 ?_
      · obtain ⟨hW0, hW1, hW2, hW3, hW4, hW5, hW6, hW7, hW8, hW9, hW10⟩ := hW
        go_simp
      simp only [Act.put]
      refine AnyM.takeC [4, 7, 8, 9, 17, 18, 31, 32] 3 (.pointer (some ⟨q, 1, none⟩)) rfl (by kernel_rfl) (by kernel_rfl) (by kernel_rfl) (by kernel_rfl) (fun _ _ _ h => h) (Or.inl ⟨by kernel_rfl, fun W hW => ?_⟩) hS2 ?_
      · obtain ⟨hW0, hW1, hW2, hW3, hW4, hW5, hW6, hW7, hW8, hW9, hW10⟩ := hW
        go_simp
      simp only [Act.put]
      refine AnyM.takeC [7, 8, 9, 17, 18, 31, 32] 4 (.int .i64 gt) rfl (by kernel_rfl) (by kernel_rfl) (by kernel_rfl) (by kernel_rfl) (fun _ _ _ h => h) (Or.inl ⟨by kernel_rfl, fun W hW => ?_⟩) hS2 ?_
      · obtain ⟨hW0, hW1, hW2, hW3, hW4, hW5, hW6, hW7, hW8, hW9, hW10⟩ := hW
        go_simp
      simp only [Act.put]
      refine AnyM.takeC [6, 7, 8, 9, 17, 18, 31, 32] 5 (.pointer (some ⟨p, 0, none⟩)) rfl (by kernel_rfl) (by kernel_rfl) (by kernel_rfl) (by kernel_rfl) (fun _ _ _ h => h) (Or.inl ⟨by kernel_rfl, fun W hW => ?_⟩) hS2 ?_
      · obtain ⟨hW0, hW1, hW2, hW3, hW4, hW5, hW6, hW7, hW8, hW9, hW10⟩ := hW
        go_simp
      simp only [Act.put]
      refine AnyM.takeC [7, 8, 9, 17, 18, 31, 32] 6 (.int .i64 me) rfl (by kernel_rfl) (by kernel_rfl) (by kernel_rfl) (by kernel_rfl) (fun _ _ _ h => h) (Or.inl ⟨by kernel_rfl, fun W hW => ?_⟩) hS2 ?_
      · obtain ⟨hW0, hW1, hW2, hW3, hW4, hW5, hW6, hW7, hW8, hW9, hW10⟩ := hW
        go_simp
      simp only [Act.put]
      refine AnyM.takeC [8, 9, 17, 18, 31, 32] 7 (.bool false) rfl (by kernel_rfl) (by kernel_rfl) (by kernel_rfl) (by kernel_rfl) (fun _ _ _ h => h) (Or.inl ⟨by kernel_rfl, fun W hW => ?_⟩) hS2 ?_
      · obtain ⟨hW0, hW1, hW2, hW3, hW4, hW5, hW6, hW7, hW8, hW9, hW10⟩ := hW
        go_simp
      simp only [Act.put]
      refine AnyM.takeC [9, 17, 18, 31, 32] 8 (.bool false) rfl (by kernel_rfl) (by kernel_rfl) (by kernel_rfl) (by kernel_rfl) (fun _ _ _ h => h) (Or.inl ⟨by kernel_rfl, fun W hW => ?_⟩) hS2 ?_
      · obtain ⟨hW0, hW1, hW2, hW3, hW4, hW5, hW6, hW7, hW8, hW9, hW10⟩ := hW
        go_simp
      simp only [Act.put]
      refine AnyM.takeC [17, 18, 31, 32] 9 (.bool false) rfl (by kernel_rfl) (by kernel_rfl) (by kernel_rfl) (by kernel_rfl) (fun _ _ _ h => h) (Or.inl ⟨by kernel_rfl, fun W hW => ?_⟩) hS2 ?_
      · obtain ⟨hW0, hW1, hW2, hW3, hW4, hW5, hW6, hW7, hW8, hW9, hW10⟩ := hW
        go_simp
      simp only [Act.put]
      refine AnyM.takeC [13, 16, 18, 31, 32] 10 (undef) rfl (by kernel_rfl) (by kernel_rfl) (by kernel_rfl) (by kernel_rfl) (fun _ _ _ h => h) (Or.inr ⟨by kernel_rfl, rfl⟩) hS2 ?_
      simp only [Act.put]
      refine AnyM.takeC [12, 13, 16, 18, 31, 32] 11 (undef) rfl (by kernel_rfl) (by kernel_rfl) (by kernel_rfl) (by kernel_rfl) (fun _ _ _ h => h) (Or.inr ⟨by kernel_rfl, rfl⟩) hS2 ?_
      simp only [Act.put]
      refine AnyM.takeC [13, 16, 18, 31, 32] 12 (undef) rfl (by kernel_rfl) (by kernel_rfl) (by kernel_rfl) (by kernel_rfl) (fun _ _ _ h => h) (Or.inr ⟨by kernel_rfl, rfl⟩) hS2 ?_
      simp only [Act.put]
      refine AnyM.takeC [16, 18, 31, 32] 13 (undef) rfl (by kernel_rfl) (by kernel_rfl) (by kernel_rfl) (by kernel_rfl) (fun _ _ _ h => h) (Or.inr ⟨by kernel_rfl, rfl⟩) hS2 ?_
      simp only [Act.put]
      refine AnyM.takeC [15, 16, 18, 31, 32] 14 (undef) rfl (by kernel_rfl) (by kernel_rfl) (by kernel_rfl) (by kernel_rfl) (fun _ _ _ h => h) (Or.inr ⟨by kernel_rfl, rfl⟩) hS2 ?_
      simp only [Act.put]
      refine AnyM.takeC [16, 18, 31, 32] 15 (undef) rfl (by kernel_rfl) (by kernel_rfl) (by kernel_rfl) (by kernel_rfl) (fun _ _ _ h => h) (Or.inr ⟨by kernel_rfl, rfl⟩) hS2 ?_
      simp only [Act.put]
      refine AnyM.takeC [18, 31, 32] 16 (undef) rfl (by kernel_rfl) (by kernel_rfl) (by kernel_rfl) (by kernel_rfl) (fun _ _ _ h => h) (Or.inr ⟨by kernel_rfl, rfl⟩) hS2 ?_
      simp only [Act.put]
      refine AnyM.takeC [18, 31, 32] 17 (.bool false) rfl (by kernel_rfl) (by kernel_rfl) (by kernel_rfl) (by kernel_rfl) (fun _ _ _ h => h) (Or.inl ⟨by kernel_rfl, fun W hW => ?_⟩) hS2 ?_
      · obtain ⟨hW0, hW1, hW2, hW3, hW4, hW5, hW6, hW7, hW8, hW9, hW10⟩ := hW
        go_simp
      simp only [Act.put]
      refine AnyM.takeC [31, 32] 18 (.bool false) rfl (by kernel_rfl) (by kernel_rfl) (by kernel_rfl) (by kernel_rfl) (fun _ _ _ h => h) (Or.inl ⟨by kernel_rfl, fun W hW => ?_⟩) hS2 ?_
      · obtain ⟨hW0, hW1, hW2, hW3, hW4, hW5, hW6, hW7, hW8, hW9, hW10⟩ := hW
        go_simp
      simp only [Act.put]
      refine AnyM.takeC [20, 21, 22, 29, 32] 19 (undef) rfl (by kernel_rfl) (by kernel_rfl) (by kernel_rfl) (by kernel_rfl) (fun _ _ _ h => h) (Or.inr ⟨by kernel_rfl, rfl⟩) hS2 ?_
      simp only [Act.put]
      refine AnyM.takeC [21, 22, 29, 32] 20 (undef) rfl (by kernel_rfl) (by kernel_rfl) (by kernel_rfl) (by kernel_rfl) (fun _ _ _ h => h) (Or.inr ⟨by kernel_rfl, rfl⟩) hS2 ?_
      simp only [Act.put]
      refine AnyM.takeC [22, 29, 32] 21 (undef) rfl (by kernel_rfl) (by kernel_rfl) (by kernel_rfl) (by kernel_rfl) (fun _ _ _ h => h) (Or.inr ⟨by kernel_rfl, rfl⟩) hS2 ?_
      simp only [Act.put]
      refine AnyM.takeC [29, 32] 22 (undef) rfl (by kernel_rfl) (by kernel_rfl) (by kernel_rfl) (by kernel_rfl) (fun _ _ _ h => h) (Or.inr ⟨by kernel_rfl, rfl⟩) hS2 ?_
      simp only [Act.put]
      refine AnyM.takeC [29, 32] 23 (undef) rfl (by kernel_rfl) (by kernel_rfl) (by kernel_rfl) (by kernel_rfl) (fun _ _ _ h => h) (Or.inr ⟨by kernel_rfl, rfl⟩) hS2 ?_
      simp only [Act.put]
      refine AnyM.takeC [25, 26, 29, 32] 24 (undef) rfl (by kernel_rfl) (by kernel_rfl) (by kernel_rfl) (by kernel_rfl) (fun _ _ _ h => h) (Or.inr ⟨by kernel_rfl, rfl⟩) hS2 ?_
      simp only [Act.put]
      refine AnyM.takeC [26, 29, 32] 25 (undef) rfl (by kernel_rfl) (by kernel_rfl) (by kernel_rfl) (by kernel_rfl) (fun _ _ _ h => h) (Or.inr ⟨by kernel_rfl, rfl⟩) hS2 ?_
      simp only [Act.put]
      refine AnyM.takeC [29, 32] 26 (undef) rfl (by kernel_rfl) (by kernel_rfl) (by kernel_rfl) (by kernel_rfl) (fun _ _ _ h => h) (Or.inr ⟨by kernel_rfl, rfl⟩) hS2 ?_
      simp only [Act.put]
      refine AnyM.takeC [28, 29, 32] 27 (undef) rfl (by kernel_rfl) (by kernel_rfl) (by kernel_rfl) (by kernel_rfl) (fun _ _ _ h => h) (Or.inr ⟨by kernel_rfl, rfl⟩) hS2 ?_
      simp only [Act.put]
      refine AnyM.takeC [29, 32] 28 (undef) rfl (by kernel_rfl) (by kernel_rfl) (by kernel_rfl) (by kernel_rfl) (fun _ _ _ h => h) (Or.inr ⟨by kernel_rfl, rfl⟩) hS2 ?_
      simp only [Act.put]
      refine AnyM.takeC [32] 29 (undef) rfl (by kernel_rfl) (by kernel_rfl) (by kernel_rfl) (by kernel_rfl) (fun _ _ _ h => h) (Or.inr ⟨by kernel_rfl, rfl⟩) hS2 ?_
      simp only [Act.put]
      refine AnyM.takeC [31, 32] 30 (undef) rfl (by kernel_rfl) (by kernel_rfl) (by kernel_rfl) (by kernel_rfl) (fun _ _ _ h => h) (Or.inr ⟨by kernel_rfl, rfl⟩) hS2 ?_
      simp only [Act.put]
      refine AnyM.takeC [32] 31 (.bool false) rfl (by kernel_rfl) (by kernel_rfl) (by kernel_rfl) (by kernel_rfl) (fun _ _ _ h => h) (Or.inl ⟨by kernel_rfl, fun W hW => ?_⟩) hS2 ?_
      · obtain ⟨hW0, hW1, hW2, hW3, hW4, hW5, hW6, hW7, hW8, hW9, hW10⟩ := hW
        go_simp
      simp only [Act.put]
      refine AnyM.one 32 (by kernel_rfl) rfl ?_
      intro K' hK
      rw [if_pos (by kernel_rfl)]
      go_wp2_with fail
      refine hK.out _ _ (fun h => absurd rfl h) ?_
      clear hK
      refine AnyM.done (by kernel_rfl) ?_ _
      refine NoPanic.normal ?_
      go_wp2
      go_ret
      exact ⟨by rw [HRf.out]; rfl, HB1.out.trans (HB2.out.mono HB1.out.size)⟩
end Go.Proofs.Ytiaafhcfeeekeaa.Pk
