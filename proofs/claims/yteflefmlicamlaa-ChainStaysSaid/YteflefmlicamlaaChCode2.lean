/- The landed Succeed, Grant and Release of package chain. -/
import Derived.Test.YteflefmlicamlaaChDel
import Derived.Test.YteflefmlicamlaaChIdx
import Derived.Deep.RegionHeld3
import Derived.Deep.DeepMust
import Derived.BigRegion
namespace Go.Proofs.Yteflefmlicamlaa.Pk
open Go.RowKit Go.Shelf
set_option linter.unusedVariables false
attribute [local go_sem] Oper.semAt_some
theorem ces_setS {l : List Ce} {k : Nat} (h : k < l.length) (s : Int) : (ces l).set (k * 4 + 1) (.int .i64 s) = ces (l.set k ⟨(ceA l k).n, s, (ceA l k).d, (ceA l k).x⟩) := by
  induction l generalizing k with
  | nil => simp at h
  | cons x l ih =>
    match k, h with
    | 0, h => simp [ces_cons, ceA]
    | k + 1, h =>
      have e : ceA (x :: l) (k + 1) = ceA l k := by simp [ceA]
      rw [List.set_cons_succ, ces_cons, ces_cons, e, ← ih (k := k) (by simpa using h), show (k + 1) * 4 + 1 = (k * 4 + 1) + 1 + 1 + 1 + 1 by omega]
      simp
theorem ces_setDX {l : List Ce} {k : Nat} (h : k < l.length) (d x : Int) : ((ces l).set (k * 4 + 2) (.int .i64 d)).set (k * 4 + 3) (.int .i64 x) = ces (l.set k ⟨(ceA l k).n, (ceA l k).s, d, x⟩) := by
  induction l generalizing k with
  | nil => simp at h
  | cons y l ih =>
    match k, h with
    | 0, h => simp [ces_cons, ceA]
    | k + 1, h =>
      have e : ceA (y :: l) (k + 1) = ceA l k := by simp [ceA]
      rw [List.set_cons_succ, ces_cons, ces_cons, e, ← ih (k := k) (by simpa using h), show (k + 1) * 4 + 2 = (k * 4 + 2) + 1 + 1 + 1 + 1 by omega, show (k + 1) * 4 + 3 = (k * 4 + 3) + 1 + 1 + 1 + 1 by omega]
      simp
/-- The cells of an own row, one by one. -/
theorem OwnK.at_ {w : World} {B n c : Nat} {A : Option Addr} {l : List Ce} (h : OwnK w B (.slice A n c) l) (hn : 0 < n) : ∃ g, A = some ⟨g, 0, none⟩ ∧ B ≤ g ∧ g < w.heap.size ∧ n ≤ c ∧ c ≤ 9223372036854775807 ∧ l.length = n ∧
    (∀ k, k < n → w.cell? ⟨g, k * 4, none⟩ = some (.int .i64 (ceA l k).n) ∧ w.cell? ⟨g, k * 4 + 1, none⟩ = some (.int .i64 (ceA l k).s) ∧ w.cell? ⟨g, k * 4 + 2, none⟩ = some (.int .i64 (ceA l k).d) ∧ w.cell? ⟨g, k * 4 + 3, none⟩ = some (.int .i64 (ceA l k).x)) ∧
    (∀ j, w.frozen? ⟨g, j, none⟩ = false) ∧ w.ownsRow B 36 4 (.slice (some ⟨g, 0, none⟩) n c) n (ces l) := by
  obtain ⟨g, rfl, hg, hlt, -, hfz, -⟩ := OwnK.spot h hn
  have hrd := ownK_reads h
  have hl := hrd.klen
  have hcn : n ≤ c := by obtain ⟨A', c', e, hc, _⟩ := OwnK.reads h; injection e with _ e2 e3; omega
  have hcm : c ≤ 9223372036854775807 := by
    obtain ⟨_, ⟨e, _⟩ | ⟨g', cap, cur, e, _, _, _, hm, _⟩⟩ := h
    · cases e
    · injection e with _ _ e3; subst e3; unfold maxLen at hm; omega
  refine ⟨g, rfl, hg, hlt, hcn, hcm, hl, fun k hk => ?_, hfz, ?_⟩
  · obtain ⟨b, off, e, _, hcs⟩ := hrd.ces_ hn
    injection e with e
    injection e with e1 e2
    subst e1; subst e2
    have := hcs k _ (ceA_get (by omega))
    simpa using this
  · have := h; unfold OwnK at this; rw [hl] at this; exact this
set_option maxRecDepth 100000 in
set_option maxHeartbeats 4000000 in
theorem succC : SuccP := by
  intro A n c l d x w hin hd hx
  obtain ⟨R, hR⟩ : ∃ R, R = succK l d x := ⟨_, rfl⟩
  have HR := Lib.hid hR
  rw [← hR]
  clear hR
  have HL := Lib.hid hin.len
  have hf := hin.few
  have hnc := hin.cap
  have HC := Lib.hid (cloneK A n c l w hin.rd (by omega))
  clear hin
  obtain ⟨hd1, hd2⟩ := hd
  obtain ⟨hx1, hx2⟩ := hx
  by_cases h0 : n = 0
  · subst h0
    have HE : Hid (R = ([], false)) := Lib.hid (by rw [HR.out]; exact succK_nil HL.out)
    go_enter Try.func16, Try.ntmps16
    go_wp2
    exact bodyPost_ret (v := .tuple #[.slice none 0 0, .bool false]) (by simp [results, Try.f16, go_sem]) rfl ⟨_, by rw [HE.out], by rw [HE.out]; exact OwnK.none_ _ _, Below.refl _ _⟩
  obtain ⟨k, rfl⟩ : ∃ k, n = k + 1 := ⟨n - 1, by omega⟩
  have z0 : ((k : Int) + 1 == 0) = false := by simp; omega
  clear h0
  go_enter Try.func16, Try.ntmps16
  go_wp2_with fail
  refine HC.out.mono ?_
  rintro e w1 ⟨v, rfl, ho, hb⟩
  obtain ⟨A1, n1, c1, rfl⟩ := ownK_slice ho
  have hn1 : n1 = k + 1 := by rw [← HL.out]; exact (ownK_reads ho).klen.symm
  subst hn1
  obtain ⟨g, rfl, hg, hlt, hcn, hcm, hl, hcs, hfz, hrow⟩ := OwnK.at_ ho (by omega)
  obtain ⟨c0, c1_, c2, c3⟩ := hcs k (by omega)
  have HB := Lib.hid hb
  have HRow := Lib.hid hrow
  have hgB : w.heap.size ≤ g := hg
  obtain ⟨z, hz⟩ : ∃ z, z = ceA l k := ⟨_, rfl⟩
  rw [← hz] at c0 c1_ c2 c3
  have HZ := Lib.hid hz
  obtain ⟨rn, rs, rd, rx⟩ := z
  simp only at c0 c1_ c2 c3
  clear hcs hrow hb ho hl hz
  by_cases h3 : rs = 3
  · have t3 : (rs == 3) = true := by simp [h3]
    have HE : Hid (R = (l.take k, true)) := Lib.hid (by rw [HR.out]; exact succK_rest HL.out (by rw [← HZ.out]; exact h3))
    clear h3
    go_wp2
    exact bodyPost_ret (v := .tuple #[.slice (some ⟨g, 0, none⟩) k c1, .bool true]) (by simp [results, Try.f16, go_sem]) rfl ⟨_, by rw [HE.out], by
      rw [HE.out]
      have h1 := row_less HRow.out
      rw [ces_take] at h1
      unfold OwnK
      rw [List.length_take, HL.out, Nat.min_eq_left (by omega)]
      exact h1, HB.out⟩
  · have t3 : (rs == 3) = false := by simp [h3]
    have HE : Hid (R = (l.set k ⟨rn, rs, d, x⟩, false)) := Lib.hid (by
      rw [HR.out, succK_set HL.out (by rw [← HZ.out]; exact h3), ← HZ.out])
    clear h3
    go_wp2
    exact bodyPost_ret (v := .tuple #[.slice (some ⟨g, 0, none⟩) (k + 1) c1, .bool false]) (by simp [results, Try.f16, go_sem]) rfl ⟨_, by rw [HE.out], by
      rw [HE.out]
      have h2 := row_set4 (j := k * 4 + 3) (row_set4 (j := k * 4 + 2) HRow.out (.int .i64 d)) (.int .i64 x)
      rw [ces_setDX (by rw [HL.out]; omega), ← HZ.out] at h2
      unfold OwnK
      rw [List.length_set, HL.out]
      exact h2, below_setK (below_setK HB.out hgB _ _) hgB _ _⟩
set_option maxRecDepth 100000 in
set_option maxHeartbeats 4000000 in
theorem grantC : GrantP := by
  intro A n c l x w hin hx
  obtain ⟨R, hR⟩ : ∃ R, R = grantK l x := ⟨_, rfl⟩
  have HR := Lib.hid hR
  rw [← hR]
  clear hR
  have HL := Lib.hid hin.len
  have hf := hin.few
  have hnc := hin.cap
  obtain ⟨w1, hw1⟩ : ∃ w1, w1 = w.alloc (.cells #[.int .i64 x] 3) := ⟨_, rfl⟩
  have hb1 : Below w.heap.size w w1 := hw1 ▸ (Below.refl _ _).alloc (Nat.le_refl _) _
  have hs1 : w1.heap.size = w.heap.size + 1 := by rw [hw1, World.size_alloc]
  have HX : Hid (Blk w1 w.heap.size 3 #[.int .i64 x]) := Lib.hid (by rw [hw1]; exact Blk.new w _ _)
  have HC := Lib.hid (cloneK A n c l w1 (hin.next hb1).rd (by omega))
  have HB1 := Lib.hid hb1
  have HS1 := Lib.hid hs1
  clear hin hb1 hs1
  obtain ⟨hx1, hx2⟩ := hx
  go_enter Try.func18, Try.ntmps18
  go_wp2_with fail
  rw [← hw1]
  clear hw1
  refine HC.out.mono ?_
  rintro e w2 ⟨v, rfl, ho, hb⟩
  obtain ⟨A1, n1, c1, rfl⟩ := ownK_slice ho
  have hn1 : n1 = n := by rw [← HL.out]; exact (ownK_reads ho).klen.symm
  subst hn1
  have HX2 := Lib.hid (HX.out.below hb HX.out.lt)
  have HB2 := Lib.hid (HB1.out.trans (hb.mono HB1.out.size))
  have HO2 := Lib.hid ho
  have hlt2 : w.heap.size < w2.heap.size := by have := hb.size; have := HS1.out; omega
  have HI := Lib.hid (idxFuncK A1 n1 c1 l (fun c => decide (c.n = x ∧ c.s = 1)) _ _ (enters_of Try.func28 (by kernel_rfl) rfl) w2 (ownK_reads ho) (by omega) (predG x w.heap.size w2 hlt2 (HX2.out.cell 0)))
  have HG0 : Hid (l.findIdx? (fun c => decide (c.n = x ∧ c.s = 1)) = grantAt l x) := Lib.hid rfl
  rw [HG0.out] at HI
  clear hb ho hlt2 HG0
  cases hg : grantAt l x with
  | none =>
    have HE : Hid (R = (l, false)) := Lib.hid (by rw [HR.out]; exact (grant_none hg).1)
    rw [hg] at HI
    clear hg
    go_wp2_with fail
    refine HI.out.mono ?_
    rintro e w3 ⟨rfl, hb3⟩
    have HB3 := Lib.hid hb3
    clear hb3
    unfold atI
    go_wp2
    exact bodyPost_ret (v := .tuple #[.slice A1 n1 c1, .bool false]) (by simp [results, Try.f18, go_sem]) rfl ⟨_, by rw [HE.out], by
      rw [HE.out]; exact (HO2.out.below HB3.out).lower HB1.out.size, HB2.out.trans (HB3.out.mono HB2.out.size)⟩
  | some k =>
    obtain ⟨hE, hkl, -⟩ := grant_some hg
    rw [HL.out] at hkl
    have HE : Hid (R = (l.set k ⟨(ceA l k).n, 2, (ceA l k).d, (ceA l k).x⟩, true)) := Lib.hid (by rw [HR.out]; exact hE)
    rw [hg] at HI
    clear hg hE
    go_wp2_with fail
    refine HI.out.mono ?_
    rintro e w3 ⟨rfl, hb3⟩
    obtain ⟨g, rfl, hg, hlt, hcn, hcm, hl, hcs, hfz, hrow⟩ := OwnK.at_ (HO2.out.below hb3) (by omega)
    obtain ⟨c0, c1_, c2, c3⟩ := hcs k hkl
    have HRow := Lib.hid hrow
    have HB3 := Lib.hid (HB2.out.trans (hb3.mono HB2.out.size))
    have hgB : w.heap.size ≤ g := by have := HS1.out; omega
    have HgB1 := Lib.hid hg
    clear hcs hrow hb3 hl hg
    unfold atI
    go_wp2
    exact bodyPost_ret (v := .tuple #[.slice (some ⟨g, 0, none⟩) n1 c1, .bool true]) (by simp [results, Try.f18, go_sem]) rfl ⟨_, by rw [HE.out], by
      rw [HE.out]
      have h2 := row_set4 (j := k * 4 + 1) HRow.out (.int .i64 2)
      rw [ces_setS (by rw [HL.out]; omega)] at h2
      refine OwnK.lower (B := w1.heap.size) ?_ HB1.out.size
      unfold OwnK
      rw [List.length_set, HL.out]
      exact h2, below_setK HB3.out hgB _ _⟩
set_option maxRecDepth 100000 in
set_option maxHeartbeats 4000000 in
theorem relC : RelP := by
  intro A n c l w hin
  obtain ⟨R, hR⟩ : ∃ R, R = relK l := ⟨_, rfl⟩
  have HR := Lib.hid hR
  rw [← hR]
  clear hR
  have HL := Lib.hid hin.len
  have hf := hin.few
  have hnc := hin.cap
  have HI := Lib.hid (idxFuncK A n c l (fun c => decide (c.s = 2)) _ _ (enters_of Try.func29 (by kernel_rfl) rfl) w hin.rd (by omega) (predR w))
  have HG0 : Hid (l.findIdx? (fun c => decide (c.s = 2)) = heldAt l) := Lib.hid rfl
  rw [HG0.out] at HI
  have HIn := Lib.hid (fun w' (hb : Below w.heap.size w w') => hin.next hb)
  clear hin HG0
  cases hg : heldAt l with
  | none =>
    have HE : Hid (R = ([], 0, 0, 22)) := Lib.hid (by rw [HR.out]; exact (held_none hg).1)
    rw [hg] at HI
    clear hg
    go_enter Try.func20, Try.ntmps20
    go_wp2_with fail
    refine HI.out.mono ?_
    rintro e w3 ⟨rfl, hb3⟩
    have HB3 := Lib.hid hb3
    clear hb3
    unfold atI
    go_wp2
    exact bodyPost_ret (v := .tuple #[.slice none 0 0, .int .i64 0, .int .i64 0, .int .i64 22]) (by simp [results, Try.f20, go_sem]) rfl ⟨_, by rw [HE.out], by
      rw [HE.out]; exact OwnK.none_ _ _, HB3.out⟩
  | some k =>
    obtain ⟨hE, hkl, -⟩ := held_some hg
    rw [HL.out] at hkl
    have HE0 := Lib.hid hE
    rw [hg] at HI
    clear hg hE
    obtain ⟨z, hz⟩ : ∃ z, z = ceA l k := ⟨_, rfl⟩
    rw [← hz] at HE0
    have HZ := Lib.hid hz
    clear hz
    obtain ⟨rn, rs, rd, rx⟩ := z
    simp only at HE0
    by_cases hd : rd = -1
    · have t1 : (rd == -1) = true := by simp [hd]
      have HE : Hid (R = (l.set k ⟨rn, 3, rd, rx⟩, -1, 0, 0)) := Lib.hid (by rw [HR.out, HE0.out, if_pos hd])
      clear HE0 hd
      go_enter Try.func20, Try.ntmps20
      go_wp2_with fail
      refine HI.out.mono ?_
      rintro e w1 ⟨rfl, hb1⟩
      have HB1 := Lib.hid hb1
      have HC := Lib.hid (cloneK A n c l w1 (HIn.out w1 hb1).rd (by omega))
      clear hb1
      unfold atI
      go_wp2_with fail
      refine HC.out.mono ?_
      rintro e w2 ⟨v, rfl, ho, hb⟩
      obtain ⟨A1, n1, c1, rfl⟩ := ownK_slice ho
      have hn1 : n1 = n := by rw [← HL.out]; exact (ownK_reads ho).klen.symm
      subst hn1
      obtain ⟨g, rfl, hg, hlt, hcn, hcm, hl, hcs, hfz, hrow⟩ := OwnK.at_ ho (by omega)
      obtain ⟨c0, c1_, c2, c3⟩ := hcs k hkl
      rw [← HZ.out] at c0 c1_ c2 c3
      simp only at c0 c1_ c2 c3
      have HRow := Lib.hid hrow
      have HB2 := Lib.hid (HB1.out.trans (hb.mono HB1.out.size))
      have hgB : w.heap.size ≤ g := by have := HB1.out.size; omega
      clear hcs hrow hb hl hg ho
      have HG2 : Hid (g < w2.heap.size) := Lib.hid hlt
      go_wp2
      exact bodyPost_ret (v := .tuple #[.slice (some ⟨g, 0, none⟩) n1 c1, .int .i64 (-1), .int .i64 0, .int .i64 0]) (by simp [results, Try.f20, go_sem]) rfl ⟨_, by rw [HE.out], by
        rw [HE.out]
        have h2 := row_set4 (j := k * 4 + 1) HRow.out (.int .i64 3)
        rw [ces_setS (by rw [HL.out]; omega), ← HZ.out] at h2
        refine OwnK.alloc (OwnK.lower (B := w1.heap.size) ?_ HB1.out.size) _
        unfold OwnK
        rw [List.length_set, HL.out]
        exact h2, (below_setK HB2.out hgB _ _).alloc (by show w.heap.size ≤ (w2.setCell _ _).heap.size; simp [World.setCell]; have := HG2.out; omega) _⟩
    · have t1 : (rd == -1) = false := by simp [hd]
      have HE : Hid (R = (l.eraseIdx k, rd, rx, 0)) := Lib.hid (by rw [HR.out, HE0.out, if_neg hd])
      clear HE0 hd
      go_enter Try.func20, Try.ntmps20
      go_wp2_with fail
      refine HI.out.mono ?_
      rintro e w1 ⟨rfl, hb1⟩
      have HB1 := Lib.hid hb1
      have HC := Lib.hid (cloneK A n c l w1 (HIn.out w1 hb1).rd (by omega))
      clear hb1
      unfold atI
      go_wp2_with fail
      refine HC.out.mono ?_
      rintro e w2 ⟨v, rfl, ho, hb⟩
      obtain ⟨A1, n1, c1, rfl⟩ := ownK_slice ho
      have hn1 : n1 = n := by rw [← HL.out]; exact (ownK_reads ho).klen.symm
      subst hn1
      obtain ⟨g, rfl, hg, hlt, hcn, hcm, hl, hcs, hfz, hrow⟩ := OwnK.at_ ho (by omega)
      obtain ⟨c0, c1_, c2, c3⟩ := hcs k hkl
      rw [← HZ.out] at c0 c1_ c2 c3
      simp only at c0 c1_ c2 c3
      have HRow := Lib.hid hrow
      have HB2 := Lib.hid (HB1.out.trans (hb.mono HB1.out.size))
      have hgB : w.heap.size ≤ g := by have := HB1.out.size; omega
      have HOw := Lib.hid ho
      have HBw := Lib.hid hb
      clear hcs hrow hb hl hg ho
      obtain ⟨p, hp⟩ : ∃ p, p = w2.heap.size := ⟨_, rfl⟩
      obtain ⟨W3, hW3⟩ : ∃ W3, W3 = w2.alloc (.cells #[.int .i64 rn, .int .i64 rs, .int .i64 rd, .int .i64 rx] 36) := ⟨_, rfl⟩
      have HK3 : Hid (Blk W3 p 36 #[.int .i64 rn, .int .i64 rs, .int .i64 rd, .int .i64 rx]) := Lib.hid (by rw [hW3, hp]; exact Blk.new w2 _ _)
      have hbw : Below w2.heap.size w2 W3 := hW3 ▸ (Below.refl _ _).alloc (Nat.le_refl _) _
      have HB3 : Hid (Below w.heap.size w W3) := Lib.hid (HB2.out.trans (hbw.mono HB2.out.size))
      have HSz : Hid (w1.heap.size ≤ W3.heap.size) := Lib.hid (by have := HBw.out.size; have := hbw.size; omega)
      have HD : Hid (∀ W, Below W3.heap.size W3 W → Calls Try.prog 30 #[.slice (some ⟨g, 0, none⟩) n1 c1, .int .i64 (k : Int), .int .i64 (IntKind.i64.wrap ((k : Int) + 1))] W fun e w' => ∃ v, e = .returned v ∧ OwnK w' w1.heap.size v (l.eraseIdx k) ∧ Below w1.heap.size W w' ∧ w'.cell? ⟨p, 2, none⟩ = some (.int .i64 rd) ∧ w'.cell? ⟨p, 3, none⟩ = some (.int .i64 rx)) := Lib.hid (fun W hW => by
        have ho3 : OwnK W w1.heap.size (.slice (some ⟨g, 0, none⟩) n1 c1) l := (HOw.out.below hbw).below hW
        rw [show IntKind.i64.wrap ((k : Int) + 1) = ((k + 1 : Nat) : Int) from by rw [IntWalk.i64_in _ (by omega)]; omega]
        refine (deleteK _ n1 c1 k (k + 1) _ l W ho3 hkl rfl (Nat.le_trans HSz.out hW.size) (by omega)).mono ?_
        rintro e w' ⟨v, rfl, h1, h2, h3⟩
        have hk : w'.heap[p]? = W3.heap[p]? := (h3 g p rfl (by omega)).trans (hW.block p HK3.out.lt)
        exact ⟨v, rfl, h1, h2, (World.cell?_of_block (a := ⟨p, 2, none⟩) hk).trans (HK3.out.cell 2), (World.cell?_of_block (a := ⟨p, 3, none⟩) hk).trans (HK3.out.cell 3)⟩)
      have X2 : W3.cell? ⟨p, 2, none⟩ = some (.int .i64 rd) := HK3.out.cell 2
      have X3 : W3.cell? ⟨p, 3, none⟩ = some (.int .i64 rx) := HK3.out.cell 3
      clear hbw hgB
      go_wp2_with fail
      rw [← hW3, ← hp]
      clear hW3 hp
      go_region_held3 (fun w' => w'.cell? ⟨p, 2, none⟩ = some (.int .i64 rd) ∧ w'.cell? ⟨p, 3, none⟩ = some (.int .i64 rx)) (first | exact ⟨X2, X3⟩ | exact ⟨Y2, Y3⟩ | go_keep) (first
        | (go_at_call 30; go_must (refine (HD.out _ (below_drewC (Below.refl _ _) 1)).mono ?_; rintro e w4 ⟨v, rfl, ho4, hb4, Y2, Y3⟩; obtain ⟨A4, n4, c4, rfl⟩ := ownK_slice ho4; have HO4 := Lib.hid ho4; have HB4 := Lib.hid hb4; clear ho4 hb4)))
      all_goals
        go_wp2
        refine bodyPost_ret (v := .tuple #[.slice A4 n4 c4, .int .i64 rd, .int .i64 rx, .int .i64 0]) (by simp [results, Try.f20, go_sem]) rfl ⟨_, by rw [HE.out], by rw [HE.out]; exact OwnK.lower HO4.out HB1.out.size, ?_⟩
        have h9 : Below w.heap.size W3 w4 := ((⟨rfl, rfl, rfl, Nat.le_refl _, fun _ _ => rfl⟩ : Below w.heap.size W3 W3.drew)).trans (HB4.out.mono HB1.out.size)
        first
          | exact HB3.out.trans h9
          | exact below_drewC (HB3.out.trans h9) _
end Go.Proofs.Yteflefmlicamlaa.Pk
