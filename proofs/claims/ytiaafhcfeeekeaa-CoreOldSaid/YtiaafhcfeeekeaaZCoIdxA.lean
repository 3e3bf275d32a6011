/- The landed Succeed, Grant and Release of package chain. -/
import Derived.Test.YtiaafhcfeeekeaaZChIdx
import Derived.Deep.RegionHeld3
import Derived.Deep.DeepMust
import Derived.BigRegion
import Derived.Test.YtiaafhcfeeekeaaZChCode1
import Derived.BigQuiet
import Derived.Deep.QuietTactic
import Derived.Deep.RegionWith
import Derived.Test.YtiaafhcfeeekeaaZMgApp
import Derived.Test.YtiaafhcfeeekeaaZChFacts
namespace Go.Proofs.Ytiaafhcfeeekeaa.Pk
open Go.RowKit Go.Shelf
set_option linter.unusedVariables false
attribute [local go_sem] Oper.semAt_some
theorem ces_setS {l : List Ce} {k : Nat} (h : k < l.length) (s : Int) : (ces l).set (k * 4 + 1) (.int .i64 s) = ces (l.set k ⟨(ceA l k).n, s, (ceA l k).d, (ceA l k).x⟩) := by
  induction l generalizing k with
  | nil => simp at h
  | cons x l ih =>
    match k, h with
    | 0, h => simp [ces_cons, ceA]
    | k + 1, h =>
      have e : ceA (x :: l) (k + 1) = ceA l k := by simp [ceA]
      rw [List.set_cons_succ, ces_cons, ces_cons, e, ← ih (k := k) (by simpa using h), show (k + 1) * 4 + 1 = (k * 4 + 1) + 1 + 1 + 1 + 1 by omega]
      simp
theorem ces_setDX {l : List Ce} {k : Nat} (h : k < l.length) (d x : Int) : ((ces l).set (k * 4 + 2) (.int .i64 d)).set (k * 4 + 3) (.int .i64 x) = ces (l.set k ⟨(ceA l k).n, (ceA l k).s, d, x⟩) := by
  induction l generalizing k with
  | nil => simp at h
  | cons y l ih =>
    match k, h with
    | 0, h => simp [ces_cons, ceA]
    | k + 1, h =>
      have e : ceA (y :: l) (k + 1) = ceA l k := by simp [ceA]
      rw [List.set_cons_succ, ces_cons, ces_cons, e, ← ih (k := k) (by simpa using h), show (k + 1) * 4 + 2 = (k * 4 + 2) + 1 + 1 + 1 + 1 by omega, show (k + 1) * 4 + 3 = (k * 4 + 3) + 1 + 1 + 1 + 1 by omega]
      simp
/-- The cells of an own row, one by one. -/
theorem OwnK.at_ {w : World} {B n c : Nat} {A : Option Addr} {l : List Ce} (h : OwnK w B (.slice A n c) l) (hn : 0 < n) : ∃ g, A = some ⟨g, 0, none⟩ ∧ B ≤ g ∧ g < w.heap.size ∧ n ≤ c ∧ c ≤ 9223372036854775807 ∧ l.length = n ∧
    (∀ k, k < n → w.cell? ⟨g, k * 4, none⟩ = some (.int .i64 (ceA l k).n) ∧ w.cell? ⟨g, k * 4 + 1, none⟩ = some (.int .i64 (ceA l k).s) ∧ w.cell? ⟨g, k * 4 + 2, none⟩ = some (.int .i64 (ceA l k).d) ∧ w.cell? ⟨g, k * 4 + 3, none⟩ = some (.int .i64 (ceA l k).x)) ∧
    (∀ j, w.frozen? ⟨g, j, none⟩ = false) ∧ w.ownsRow B 57 4 (.slice (some ⟨g, 0, none⟩) n c) n (ces l) := by
  obtain ⟨g, rfl, hg, hlt, -, hfz, -⟩ := OwnK.spot h hn
  have hrd := ownK_reads h
  have hl := hrd.klen
  have hcn : n ≤ c := by obtain ⟨A', c', e, hc, _⟩ := OwnK.reads h; injection e with _ e2 e3; omega
  have hcm : c ≤ 9223372036854775807 := by
    obtain ⟨_, ⟨e, _⟩ | ⟨g', cap, cur, e, _, _, _, hm, _⟩⟩ := h
    · cases e
    · injection e with _ _ e3; subst e3; unfold maxLen at hm; omega
  refine ⟨g, rfl, hg, hlt, hcn, hcm, hl, fun k hk => ?_, hfz, ?_⟩
  · obtain ⟨b, off, e, _, hcs⟩ := hrd.ces_ hn
    injection e with e
    injection e with e1 e2
    subst e1; subst e2
    have := hcs k _ (ceA_get (by omega))
    simpa using this
  · have := h; unfold OwnK at this; rw [hl] at this; exact this
set_option maxRecDepth 100000 in
set_option maxHeartbeats 4000000 in
theorem succC : SuccP := by
  intro A n c l d x w hin hd hx
  obtain ⟨R, hR⟩ : ∃ R, R = succK l d x := ⟨_, rfl⟩
  have HR := Lib.hid hR
  rw [← hR]
  clear hR
  have HL := Lib.hid hin.len
  have hf := hin.few
  have hnc := hin.cap
  have HC := Lib.hid (cloneK A n c l w hin.rd (by omega))
  clear hin
  obtain ⟨hd1, hd2⟩ := hd
  obtain ⟨hx1, hx2⟩ := hx
  by_cases h0 : n = 0
  · subst h0
    have HE : Hid (R = ([], false)) := Lib.hid (by rw [HR.out]; exact succK_nil HL.out)
    go_enter Try.func78, Try.ntmps78
    go_wp2
    exact bodyPost_ret (v := .tuple #[.slice none 0 0, .bool false]) (by simp [results, Try.f78, go_sem]) rfl ⟨_, by rw [HE.out], by rw [HE.out]; exact OwnK.none_ _ _, Below.refl _ _⟩
  obtain ⟨k, rfl⟩ : ∃ k, n = k + 1 := ⟨n - 1, by omega⟩
  have z0 : ((k : Int) + 1 == 0) = false := by simp; omega
  clear h0
  go_enter Try.func78, Try.ntmps78
  go_wp2_with fail
  refine HC.out.mono ?_
  rintro e w1 ⟨v, rfl, ho, hb⟩
  obtain ⟨A1, n1, c1, rfl⟩ := ownK_slice ho
  have hn1 : n1 = k + 1 := by rw [← HL.out]; exact (ownK_reads ho).klen.symm
  subst hn1
  obtain ⟨g, rfl, hg, hlt, hcn, hcm, hl, hcs, hfz, hrow⟩ := OwnK.at_ ho (by omega)
  obtain ⟨c0, c1_, c2, c3⟩ := hcs k (by omega)
  have HB := Lib.hid hb
  have HRow := Lib.hid hrow
  have hgB : w.heap.size ≤ g := hg
  obtain ⟨z, hz⟩ : ∃ z, z = ceA l k := ⟨_, rfl⟩
  rw [← hz] at c0 c1_ c2 c3
  have HZ := Lib.hid hz
  obtain ⟨rn, rs, rd, rx⟩ := z
  simp only at c0 c1_ c2 c3
  clear hcs hrow hb ho hl hz
  by_cases h3 : rs = 3
  · have t3 : (rs == 3) = true := by simp [h3]
    have HE : Hid (R = (l.take k, true)) := Lib.hid (by rw [HR.out]; exact succK_rest HL.out (by rw [← HZ.out]; exact h3))
    clear h3
    go_wp2
    exact bodyPost_ret (v := .tuple #[.slice (some ⟨g, 0, none⟩) k c1, .bool true]) (by simp [results, Try.f78, go_sem]) rfl ⟨_, by rw [HE.out], by
      rw [HE.out]
      have h1 := row_less HRow.out
      rw [ces_take] at h1
      unfold OwnK
      rw [List.length_take, HL.out, Nat.min_eq_left (by omega)]
      exact h1, HB.out⟩
  · have t3 : (rs == 3) = false := by simp [h3]
    have HE : Hid (R = (l.set k ⟨rn, rs, d, x⟩, false)) := Lib.hid (by
      rw [HR.out, succK_set HL.out (by rw [← HZ.out]; exact h3), ← HZ.out])
    clear h3
    go_wp2
    exact bodyPost_ret (v := .tuple #[.slice (some ⟨g, 0, none⟩) (k + 1) c1, .bool false]) (by simp [results, Try.f78, go_sem]) rfl ⟨_, by rw [HE.out], by
      rw [HE.out]
      have h2 := row_set4 (j := k * 4 + 3) (row_set4 (j := k * 4 + 2) HRow.out (.int .i64 d)) (.int .i64 x)
      rw [ces_setDX (by rw [HL.out]; omega), ← HZ.out] at h2
      unfold OwnK
      rw [List.length_set, HL.out]
      exact h2, below_setK (below_setK HB.out hgB _ _) hgB _ _⟩
set_option maxRecDepth 100000 in
set_option maxHeartbeats 4000000 in
theorem grantC : GrantP := by
  intro A n c l x w hin hx
  obtain ⟨R, hR⟩ : ∃ R, R = grantK l x := ⟨_, rfl⟩
  have HR := Lib.hid hR
  rw [← hR]
  clear hR
  have HL := Lib.hid hin.len
  have hf := hin.few
  have hnc := hin.cap
  obtain ⟨w1, hw1⟩ : ∃ w1, w1 = w.alloc (.cells #[.int .i64 x] 3) := ⟨_, rfl⟩
  have hb1 : Below w.heap.size w w1 := hw1 ▸ (Below.refl _ _).alloc (Nat.le_refl _) _
  have hs1 : w1.heap.size = w.heap.size + 1 := by rw [hw1, World.size_alloc]
  have HX : Hid (Blk w1 w.heap.size 3 #[.int .i64 x]) := Lib.hid (by rw [hw1]; exact Blk.new w _ _)
  have HC := Lib.hid (cloneK A n c l w1 (hin.next hb1).rd (by omega))
  have HB1 := Lib.hid hb1
  have HS1 := Lib.hid hs1
  clear hin hb1 hs1
  obtain ⟨hx1, hx2⟩ := hx
  go_enter Try.func80, Try.ntmps80
  go_wp2_with fail
  rw [← hw1]
  clear hw1
  refine HC.out.mono ?_
  rintro e w2 ⟨v, rfl, ho, hb⟩
  obtain ⟨A1, n1, c1, rfl⟩ := ownK_slice ho
  have hn1 : n1 = n := by rw [← HL.out]; exact (ownK_reads ho).klen.symm
  subst hn1
  have HX2 := Lib.hid (HX.out.below hb HX.out.lt)
  have HB2 := Lib.hid (HB1.out.trans (hb.mono HB1.out.size))
  have HO2 := Lib.hid ho
  have hlt2 : w.heap.size < w2.heap.size := by have := hb.size; have := HS1.out; omega
  have HI := Lib.hid (idxFuncK A1 n1 c1 l (fun c => decide (c.n = x ∧ c.s = 1)) _ _ (enters_of Try.func97 (by kernel_rfl) rfl) w2 (ownK_reads ho) (by omega) (predG x w.heap.size w2 hlt2 (HX2.out.cell 0)))
  have HG0 : Hid (l.findIdx? (fun c => decide (c.n = x ∧ c.s = 1)) = grantAt l x) := Lib.hid rfl
  rw [HG0.out] at HI
  clear hb ho hlt2 HG0
  cases hg : grantAt l x with
  | none =>
    have HE : Hid (R = (l, false)) := Lib.hid (by rw [HR.out]; exact (grant_none hg).1)
    rw [hg] at HI
    clear hg
    go_wp2_with fail
    refine HI.out.mono ?_
    rintro e w3 ⟨rfl, hb3⟩
    have HB3 := Lib.hid hb3
    clear hb3
    unfold atI
    go_wp2
    exact bodyPost_ret (v := .tuple #[.slice A1 n1 c1, .bool false]) (by simp [results, Try.f80, go_sem]) rfl ⟨_, by rw [HE.out], by
      rw [HE.out]; exact (HO2.out.below HB3.out).lower HB1.out.size, HB2.out.trans (HB3.out.mono HB2.out.size)⟩
  | some k =>
    obtain ⟨hE, hkl, -⟩ := grant_some hg
    rw [HL.out] at hkl
    have HE : Hid (R = (l.set k ⟨(ceA l k).n, 2, (ceA l k).d, (ceA l k).x⟩, true)) := Lib.hid (by rw [HR.out]; exact hE)
    rw [hg] at HI
    clear hg hE
    go_wp2_with fail
    refine HI.out.mono ?_
    rintro e w3 ⟨rfl, hb3⟩
    obtain ⟨g, rfl, hg, hlt, hcn, hcm, hl, hcs, hfz, hrow⟩ := OwnK.at_ (HO2.out.below hb3) (by omega)
    obtain ⟨c0, c1_, c2, c3⟩ := hcs k hkl
    have HRow := Lib.hid hrow
    have HB3 := Lib.hid (HB2.out.trans (hb3.mono HB2.out.size))
    have hgB : w.heap.size ≤ g := by have := HS1.out; omega
    have HgB1 := Lib.hid hg
    clear hcs hrow hb3 hl hg
    unfold atI
    go_wp2
    exact bodyPost_ret (v := .tuple #[.slice (some ⟨g, 0, none⟩) n1 c1, .bool true]) (by simp [results, Try.f80, go_sem]) rfl ⟨_, by rw [HE.out], by
      rw [HE.out]
      have h2 := row_set4 (j := k * 4 + 1) HRow.out (.int .i64 2)
      rw [ces_setS (by rw [HL.out]; omega)] at h2
      refine OwnK.lower (B := w1.heap.size) ?_ HB1.out.size
      unfold OwnK
      rw [List.length_set, HL.out]
      exact h2, below_setK HB3.out hgB _ _⟩
set_option maxRecDepth 100000 in
set_option maxHeartbeats 4000000 in
theorem relC : RelP := by
  intro A n c l w hin
  obtain ⟨R, hR⟩ : ∃ R, R = relK l := ⟨_, rfl⟩
  have HR := Lib.hid hR
  rw [← hR]
  clear hR
  have HL := Lib.hid hin.len
  have hf := hin.few
  have hnc := hin.cap
  have HI := Lib.hid (idxFuncK A n c l (fun c => decide (c.s = 2)) _ _ (enters_of Try.func82 (by kernel_rfl) rfl) w hin.rd (by omega) (predR w))
  have HG0 : Hid (l.findIdx? (fun c => decide (c.s = 2)) = heldAt l) := Lib.hid rfl
  rw [HG0.out] at HI
  have HIn := Lib.hid (fun w' (hb : Below w.heap.size w w') => hin.next hb)
  clear hin HG0
  cases hg : heldAt l with
  | none =>
    have HE : Hid (R = ([], 0, 0, 22)) := Lib.hid (by rw [HR.out]; exact (held_none hg).1)
    rw [hg] at HI
    clear hg
    go_enter Try.func61, Try.ntmps61
    go_wp2_with fail
    refine HI.out.mono ?_
    rintro e w3 ⟨rfl, hb3⟩
    have HB3 := Lib.hid hb3
    clear hb3
    unfold atI
    go_wp2
    exact bodyPost_ret (v := .tuple #[.slice none 0 0, .int .i64 0, .int .i64 0, .int .i64 22]) (by simp [results, Try.f61, go_sem]) rfl ⟨_, by rw [HE.out], by
      rw [HE.out]; exact OwnK.none_ _ _, HB3.out⟩
  | some k =>
    obtain ⟨hE, hkl, -⟩ := held_some hg
    rw [HL.out] at hkl
    have HE0 := Lib.hid hE
    rw [hg] at HI
    clear hg hE
    obtain ⟨z, hz⟩ : ∃ z, z = ceA l k := ⟨_, rfl⟩
    rw [← hz] at HE0
    have HZ := Lib.hid hz
    clear hz
    obtain ⟨rn, rs, rd, rx⟩ := z
    simp only at HE0
    by_cases hd : rd = -1
    · have t1 : (rd == -1) = true := by simp [hd]
      have HE : Hid (R = (l.set k ⟨rn, 3, rd, rx⟩, -1, 0, 0)) := Lib.hid (by rw [HR.out, HE0.out, if_pos hd])
      clear HE0 hd
      go_enter Try.func61, Try.ntmps61
      go_wp2_with fail
      refine HI.out.mono ?_
      rintro e w1 ⟨rfl, hb1⟩
      have HB1 := Lib.hid hb1
      have HC := Lib.hid (cloneK A n c l w1 (HIn.out w1 hb1).rd (by omega))
      clear hb1
      unfold atI
      go_wp2_with fail
      refine HC.out.mono ?_
      rintro e w2 ⟨v, rfl, ho, hb⟩
      obtain ⟨A1, n1, c1, rfl⟩ := ownK_slice ho
      have hn1 : n1 = n := by rw [← HL.out]; exact (ownK_reads ho).klen.symm
      subst hn1
      obtain ⟨g, rfl, hg, hlt, hcn, hcm, hl, hcs, hfz, hrow⟩ := OwnK.at_ ho (by omega)
      obtain ⟨c0, c1_, c2, c3⟩ := hcs k hkl
      rw [← HZ.out] at c0 c1_ c2 c3
      simp only at c0 c1_ c2 c3
      have HRow := Lib.hid hrow
      have HB2 := Lib.hid (HB1.out.trans (hb.mono HB1.out.size))
      have hgB : w.heap.size ≤ g := by have := HB1.out.size; omega
      clear hcs hrow hb hl hg ho
      have HG2 : Hid (g < w2.heap.size) := Lib.hid hlt
      go_wp2
      exact bodyPost_ret (v := .tuple #[.slice (some ⟨g, 0, none⟩) n1 c1, .int .i64 (-1), .int .i64 0, .int .i64 0]) (by simp [results, Try.f61, go_sem]) rfl ⟨_, by rw [HE.out], by
        rw [HE.out]
        have h2 := row_set4 (j := k * 4 + 1) HRow.out (.int .i64 3)
        rw [ces_setS (by rw [HL.out]; omega), ← HZ.out] at h2
        refine OwnK.alloc (OwnK.lower (B := w1.heap.size) ?_ HB1.out.size) _
        unfold OwnK
        rw [List.length_set, HL.out]
        exact h2, (below_setK HB2.out hgB _ _).alloc (by show w.heap.size ≤ (w2.setCell _ _).heap.size; simp [World.setCell]; have := HG2.out; omega) _⟩
    · have t1 : (rd == -1) = false := by simp [hd]
      have HE : Hid (R = (l.eraseIdx k, rd, rx, 0)) := Lib.hid (by rw [HR.out, HE0.out, if_neg hd])
      clear HE0 hd
      go_enter Try.func61, Try.ntmps61
      go_wp2_with fail
      refine HI.out.mono ?_
      rintro e w1 ⟨rfl, hb1⟩
      have HB1 := Lib.hid hb1
      have HC := Lib.hid (cloneK A n c l w1 (HIn.out w1 hb1).rd (by omega))
      clear hb1
      unfold atI
      go_wp2_with fail
      refine HC.out.mono ?_
      rintro e w2 ⟨v, rfl, ho, hb⟩
      obtain ⟨A1, n1, c1, rfl⟩ := ownK_slice ho
      have hn1 : n1 = n := by rw [← HL.out]; exact (ownK_reads ho).klen.symm
      subst hn1
      obtain ⟨g, rfl, hg, hlt, hcn, hcm, hl, hcs, hfz, hrow⟩ := OwnK.at_ ho (by omega)
      obtain ⟨c0, c1_, c2, c3⟩ := hcs k hkl
      rw [← HZ.out] at c0 c1_ c2 c3
      simp only at c0 c1_ c2 c3
      have HRow := Lib.hid hrow
      have HB2 := Lib.hid (HB1.out.trans (hb.mono HB1.out.size))
      have hgB : w.heap.size ≤ g := by have := HB1.out.size; omega
      have HOw := Lib.hid ho
      have HBw := Lib.hid hb
      clear hcs hrow hb hl hg ho
      obtain ⟨p, hp⟩ : ∃ p, p = w2.heap.size := ⟨_, rfl⟩
      obtain ⟨W3, hW3⟩ : ∃ W3, W3 = w2.alloc (.cells #[.int .i64 rn, .int .i64 rs, .int .i64 rd, .int .i64 rx] 57) := ⟨_, rfl⟩
      have HK3 : Hid (Blk W3 p 57 #[.int .i64 rn, .int .i64 rs, .int .i64 rd, .int .i64 rx]) := Lib.hid (by rw [hW3, hp]; exact Blk.new w2 _ _)
      have hbw : Below w2.heap.size w2 W3 := hW3 ▸ (Below.refl _ _).alloc (Nat.le_refl _) _
      have HB3 : Hid (Below w.heap.size w W3) := Lib.hid (HB2.out.trans (hbw.mono HB2.out.size))
      have HSz : Hid (w1.heap.size ≤ W3.heap.size) := Lib.hid (by have := HBw.out.size; have := hbw.size; omega)
      have HD : Hid (∀ W, Below W3.heap.size W3 W → Calls Try.prog 83 #[.slice (some ⟨g, 0, none⟩) n1 c1, .int .i64 (k : Int), .int .i64 (IntKind.i64.wrap ((k : Int) + 1))] W fun e w' => ∃ v, e = .returned v ∧ OwnK w' w1.heap.size v (l.eraseIdx k) ∧ Below w1.heap.size W w' ∧ w'.cell? ⟨p, 2, none⟩ = some (.int .i64 rd) ∧ w'.cell? ⟨p, 3, none⟩ = some (.int .i64 rx)) := Lib.hid (fun W hW => by
        have ho3 : OwnK W w1.heap.size (.slice (some ⟨g, 0, none⟩) n1 c1) l := (HOw.out.below hbw).below hW
        rw [show IntKind.i64.wrap ((k : Int) + 1) = ((k + 1 : Nat) : Int) from by rw [IntWalk.i64_in _ (by omega)]; omega]
        refine (deleteK _ n1 c1 k (k + 1) _ l W ho3 hkl rfl (Nat.le_trans HSz.out hW.size) (by omega)).mono ?_
        rintro e w' ⟨v, rfl, h1, h2, h3⟩
        have hk : w'.heap[p]? = W3.heap[p]? := (h3 g p rfl (by omega)).trans (hW.block p HK3.out.lt)
        exact ⟨v, rfl, h1, h2, (World.cell?_of_block (a := ⟨p, 2, none⟩) hk).trans (HK3.out.cell 2), (World.cell?_of_block (a := ⟨p, 3, none⟩) hk).trans (HK3.out.cell 3)⟩)
      have X2 : W3.cell? ⟨p, 2, none⟩ = some (.int .i64 rd) := HK3.out.cell 2
      have X3 : W3.cell? ⟨p, 3, none⟩ = some (.int .i64 rx) := HK3.out.cell 3
      clear hbw hgB
      go_wp2_with fail
      rw [← hW3, ← hp]
      clear hW3 hp
      go_region_held3 (fun w' => w'.cell? ⟨p, 2, none⟩ = some (.int .i64 rd) ∧ w'.cell? ⟨p, 3, none⟩ = some (.int .i64 rx)) (first | exact ⟨X2, X3⟩ | exact ⟨Y2, Y3⟩ | go_keep) (first
        | (go_at_call 83; go_must (refine (HD.out _ (below_drewC (Below.refl _ _) 1)).mono ?_; rintro e w4 ⟨v, rfl, ho4, hb4, Y2, Y3⟩; obtain ⟨A4, n4, c4, rfl⟩ := ownK_slice ho4; have HO4 := Lib.hid ho4; have HB4 := Lib.hid hb4; clear ho4 hb4)))
      all_goals
        go_wp2
        refine bodyPost_ret (v := .tuple #[.slice A4 n4 c4, .int .i64 rd, .int .i64 rx, .int .i64 0]) (by simp [results, Try.f61, go_sem]) rfl ⟨_, by rw [HE.out], by rw [HE.out]; exact OwnK.lower HO4.out HB1.out.size, ?_⟩
        have h9 : Below w.heap.size W3 w4 := ((⟨rfl, rfl, rfl, Nat.le_refl _, fun _ _ => rfl⟩ : Below w.heap.size W3 W3.drew)).trans (HB4.out.mono HB1.out.size)
        first
          | exact HB3.out.trans h9
          | exact below_drewC (HB3.out.trans h9) _
end Go.Proofs.Ytiaafhcfeeekeaa.Pk

/- The change's granted: the object comes to a request. -/
namespace Go.Proofs.Ytiaafhcfeeekeaa.Pk
open Go.RowKit Go.Proofs.Ytiaafhcfeeekeaa.Gr
set_option linter.unusedVariables false
/-- An object of a state under way: its list, handed over. -/
theorem Chg.inK {w : World} {B p T g : Nat} {ps : List Int} {s : StL} (h : Chg w B p T g ps s) {k : Nat} {o : OwL} (hk : s.os[k]? = some o) (hl : o.v.c.length ≤ 1024) (hI : ∀ c ∈ o.v.c, c.I) : InK w o.v.c o.s.A o.s.n o.s.c := by
  obtain ⟨h1, h2, h3⟩ := Row.Own.rd (h.own.os.each o (List.mem_of_getElem? hk))
  exact ⟨h3, h2, by omega, hI⟩
theorem v_setO (s : StL) (k : Nat) (o : OwL) : StL.v {s with os := s.os.set k o} = setO s.v k o.v := by unfold StL.v setO; simp [List.map_set]
theorem v_setE (s : StL) (k : Nat) (o : SdL) : StL.v {s with es := s.es.set k o} = setE s.v k o.v := by unfold StL.v setE; simp [List.map_set]
theorem setO_same {s : St} {k : Nat} (h : k < s.os.length) : setO s k (objA s k) = s := by
  unfold setO objA
  rw [List.getD_eq_getElem?_getD, List.getElem?_eq_getElem h]
  simp
/-- A Pass that came to the first one's number: the same as Grant, since no other one has it. -/
theorem passS_grant {s : St} {m : Mg} (hk : m.o.toNat < s.os.length) (hpos : 0 < (objA s m.o.toNat).c.length) (hn : (ceA (objA s m.o.toNat).c 0).n = m.u)
    (hr : ∀ i, 0 < i → i < (objA s m.o.toNat).c.length → (ceA (objA s m.o.toNat).c i).n ≠ (ceA (objA s m.o.toNat).c 0).n) :
    passS s m = setO s m.o.toNat ⟨(objA s m.o.toNat).a, (objA s m.o.toNat).m, (grantK (objA s m.o.toNat).c m.u).1⟩ := by
  unfold passS
  by_cases hs : (ceA (objA s m.o.toNat).c 0).s = 1
  · rw [if_pos ⟨hpos, hn, hs⟩]
    have e : grantAt (objA s m.o.toNat).c m.u = some 0 := idx_some hpos (by simp [hn, hs]) (fun i hi => by omega)
    unfold grantK holdK
    rw [e]
  · rw [if_neg (fun h => hs h.2.2)]
    have e : grantAt (objA s m.o.toNat).c m.u = none := idx_none (fun i hi => by
      by_cases h0 : i = 0
      · subst h0; simp [hs]
      · have := hr i (by omega) hi
        rw [hn] at this
        simp [this])
    unfold grantK
    rw [e]
    exact (setO_same hk).symm
theorem passS_not {s : St} {m : Mg} (h : ¬ (0 < (objA s m.o.toNat).c.length ∧ (ceA (objA s m.o.toNat).c 0).n = m.u)) : passS s m = s := by
  unfold passS
  exact if_neg (fun h2 => h ⟨h2.1, h2.2.1⟩)
set_option maxRecDepth 100000 in
set_option maxHeartbeats 4000000 in
theorem granted_frm {w : World} {B p T g : Nat} {ps : List Int} {s : StL} (h : Chg w B p T g ps s) {m : Mg} {k : Nat} {o : OwL} (hk : s.os[k]? = some o) (hmo : m.o = (k : Int)) (hm : m.I) (hl : o.v.c.length ≤ 1024) (hI : ∀ c ∈ o.v.c, c.I)
    (hr : ∀ i, 0 < i → i < o.v.c.length → (ceA o.v.c i).n ≠ (ceA o.v.c 0).n) (hn40 : s.so.n ≤ 1024) :
    Calls Try.prog 60 #[.pointer (some ⟨p, 0, none⟩), m.val] w fun e w' => e = .returned (.tuple #[]) ∧ ∃ s2, Chg w' B p T g ps s2 ∧ s2.v = passS s.v m ∧ Below B w w' ∧ Frm w w' p s := by
  obtain ⟨mk, mo, mn, mu, mv⟩ := m
  simp only at hmo
  subst hmo
  have hmu : -9223372036854775808 ≤ mu ∧ mu ≤ 9223372036854775807 := hm.u
  have HPs : Hid (∀ hpos : 0 < o.v.c.length, (ceA o.v.c 0).n = mu → passS s.v ⟨mk, (k : Int), mn, mu, mv⟩ = setO s.v k ⟨o.v.a, o.v.m, (grantK o.v.c mu).1⟩) := Lib.hid (fun hpos hn => by
    have e := obj_at hk
    have hkl : k < s.v.os.length := by have := (List.getElem?_eq_some_iff.1 hk).1; simpa [StL.v] using this
    have := passS_grant (s := s.v) (m := ⟨mk, (k : Int), mn, mu, mv⟩) (by simpa using hkl) (by simpa [e] using hpos) (by simpa [e] using hn) (by simpa [e] using hr)
    simpa [e] using this)
  have HPn : Hid (¬ (0 < o.v.c.length ∧ (ceA o.v.c 0).n = mu) → passS s.v ⟨mk, (k : Int), mn, mu, mv⟩ = s.v) := Lib.hid (fun hn => by
    have e := obj_at hk
    exact passS_not (by simpa [e] using hn))
  obtain ⟨q, hq⟩ : ∃ q, q = w.heap.size := ⟨_, rfl⟩
  obtain ⟨W1, hW1⟩ : ∃ W, W = w.alloc (.cells #[.int .i64 mk, .int .i64 (k : Int), .int .i64 mn, .int .i64 mu, .int .i64 mv] 30) := ⟨_, rfl⟩
  have hb1 : Below w.heap.size w W1 := hW1 ▸ (Below.refl _ _).alloc (Nat.le_refl _) _
  have h1 := h.below hb1
  have hQ : Blk W1 q 30 #[.int .i64 mk, .int .i64 (k : Int), .int .i64 mn, .int .i64 mu, .int .i64 mv] := by rw [hW1, hq]; exact Blk.new w _ _
  obtain ⟨go, hgo, g1, g2, g3, g4, g5, g6, g7, g8, c0, c1, c2⟩ := h1.obj hk
  have x2 : W1.cell? ⟨p, 2, none⟩ = some s.so.val := h1.box.cell 2
  have y1 : W1.cell? ⟨q, 1, none⟩ = some (.int .i64 (k : Int)) := hQ.cell 1
  have y3 : W1.cell? ⟨q, 3, none⟩ = some (.int .i64 mu) := hQ.cell 3
  have HSo : Hid (s.so = ⟨some ⟨go, 0, none⟩, s.so.n, s.so.c⟩) := Lib.hid (by cases hse : s.so; rw [hse] at hgo; simp only at hgo; rw [hgo])
  rw [HSo.out] at x2
  have HB : Hid (B ≤ w.heap.size) := Lib.hid h.sz
  have HB1 := Lib.hid hb1
  have HC1 := Lib.hid h1
  have HK := Lib.hid hk
  have hin := h1.inK hk hl hI
  have HGr : Hid (∀ W, Below W1.heap.size W1 W → Calls Try.prog 80 #[.slice o.s.A o.s.n o.s.c, .int .i64 mu] W fun e w' => ∃ A5 n5 k5, e = .returned (.tuple #[.slice A5 n5 k5, .bool (grantK o.v.c mu).2]) ∧ ceR.Own w' W1.heap.size (.slice A5 n5 k5) (grantK o.v.c mu).1 ∧ Below W1.heap.size W1 w') := Lib.hid (fun W hW => (grantC o.s.A o.s.n o.s.c o.v.c mu W (hin.next hW) hmu).mono fun e w' ⟨v, e1, e2, e3⟩ => by
    have e4 := OwnK.row e2
    obtain ⟨A5, k5, e5⟩ := Row.Own.sl e4
    rw [e5] at e1 e4
    exact ⟨A5, _, k5, e1, e4.low hW.size, hW.trans (e3.mono hW.size)⟩)
  have hlen := hin.len
  have hown := h1.own.os.each o (List.mem_of_getElem? hk)
  obtain ⟨n, hn⟩ : ∃ n, n = s.so.n := ⟨_, rfl⟩
  obtain ⟨c, hc⟩ : ∃ c, c = s.so.c := ⟨_, rfl⟩
  rw [← hn] at g5 g6 g7 hn40
  rw [← hc] at g4 g7
  simp only [Sl.val, ← hn, ← hc] at x2
  have HN := Lib.hid hn
  have HCc := Lib.hid hc
  have HCz : Hid (s.so.c ≠ 0) := Lib.hid (by rw [← hc]; exact g4)
  obtain ⟨z, hz⟩ : ∃ z, z = o := ⟨_, rfl⟩
  have HZ := Lib.hid hz
  rw [← hz] at HK
  obtain ⟨⟨oa, om, oc⟩, ⟨cA, cn, cc⟩⟩ := o
  simp only [Sl.val, Mg.val] at *
  clear hz hn hc hk h h1 hb1 g5 hin hI hr hm g1 hQ
  rcases Nat.eq_zero_or_pos cn with h0 | hpos
  · subst h0
    have HE := HPn.out (fun h => by omega)
    have HE := Lib.hid HE
    clear hown hl hlen
    go_enter Try.func60, Try.ntmps60
    go_wp2_with fail
    rw [← hW1, ← hq]
    clear hW1 hq
    go_quiet (fail)
    go_wp2_with fail
    go_quiet (fail)
    go_wp2_with fail
    go_end0
    refine ⟨rfl, s, (HC1.out.below (below_drewC (below_drewC (Below.refl _ _) _) _)), HE.out.symm, below_drewC (below_drewC (HB1.out.mono HB.out) _) _, Frm.below (below_drewC (below_drewC HB1.out _) _)⟩
  · obtain ⟨gc, rfl, k1, k2, k3, k4, k5⟩ := Row.Own.cell hown hpos
    have hl0 : 0 < oc.length := by omega
    have u0 := k5 0 _ (ceA_get hl0) 0 _ rfl
    obtain ⟨x, hx⟩ : ∃ x, x = (ceA oc 0).n := ⟨_, rfl⟩
    rw [← hx] at u0 HPn HPs
    simp only [ceR, Nat.zero_mul, Nat.add_zero] at u0
    have hcn : cn ≤ cc := (Row.Own.rd hown).2.1
    clear hown k5 hlen
    by_cases hxu : x = mu
    · have t1 : (x == mu) = true := by simpa using hxu
      have HE := Lib.hid (HPs.out hl0 hxu)
      clear HPn HPs hx hxu hl0
      go_enter Try.func60, Try.ntmps60
      go_wp2_with fail
      rw [← hW1, ← hq]
      clear hW1 hq
      go_quiet (fail)
      revert nq; intro nq1
      go_wp2_with fail
      go_quiet (fail)
      revert nq; intro nq2
      go_wp2_with fail
      obtain ⟨V, hV⟩ : ∃ V, V = (W1.drewN nq1).drewN nq2 := ⟨_, rfl⟩
      have hb2 : Below W1.heap.size W1 V := hV ▸ below_drewC (below_drewC (Below.refl _ _) _) _
      have HB2 := Lib.hid hb2
      have HD2 : Hid (Below W1.heap.size W1 V.drew) := Lib.hid (below_drewC hb2 1)
      have HS : Hid (∀ W, Below W1.heap.size W1 W → W.cell? ⟨go, k * 3 + 2, none⟩ = some (.slice (some ⟨gc, 0, none⟩) cn cc) ∧ ∀ j, W.frozen? ⟨go, j, none⟩ = false) := Lib.hid (fun W hW => by
        obtain ⟨go', e1, -, -, -, -, -, -, -, f1, -, -, f3⟩ := (HC1.out.below hW).obj HK.out
        obtain rfl : go = go' := by rw [HSo.out] at e1; injection e1 with e1; injection e1
        rw [HZ.out] at f3
        exact ⟨f3, f1⟩)
      have c2' : V.cell? ⟨go, k * 3 + 2, none⟩ = some (.slice (some ⟨gc, 0, none⟩) cn cc) := (HS.out V hb2).1
      have y3' : V.cell? ⟨q, 3, none⟩ = some (.int .i64 mu) := by rw [hV]; exact y3
      have g8' := (HS.out V hb2).2
      rw [← hV]
      clear hV hb2 y1 y3 g8 x2 c0 c1 c2 u0 t1 k4
      go_region_with (go_at_call 80; go_must (refine (HGr.out V.drew HD2.out).mono ?_; rintro e w3 ⟨A5, n5, k5', rfl, ho5, hb5⟩; obtain ⟨z2, zf⟩ := HS.out w3 hb5; have HO5 := Lib.hid ho5; have HB5 := Lib.hid hb5; clear ho5 hb5))
      all_goals
        go_end0
        have hk' : s.os[k]? = some ⟨⟨oa, om, oc⟩, ⟨some ⟨gc, 0, none⟩, cn, cc⟩⟩ := by rw [← HZ.out]; exact HK.out
        have hput := HC1.out.putO (j := 2) (o' := ⟨⟨oa, om, (grantK oc mu).1⟩, ⟨A5, n5, k5'⟩⟩) (u := .slice A5 n5 k5') hk' (by omega) rfl HSo.out HB5.out (HO5.out.low (Nat.le_trans HB.out HB1.out.size)) (.inr (HO5.out.fresh))
        exact ⟨rfl, _, hput.1, by rw [HE.out, v_setO], (HB1.out.mono HB.out).trans hput.2, (Frm.below (HB1.out.trans (HB5.out.mono HB1.out.size))).set (v := s.so.val) (mem_stV.2 (.inl rfl)) (by rw [HSo.out]; exact ownB_some HCz.out)⟩
    · have t1 : (x == mu) = false := by simpa using hxu
      have HE := Lib.hid (HPn.out (fun h => hxu h.2))
      clear HPn HPs hx hxu hl0
      go_enter Try.func60, Try.ntmps60
      go_wp2_with fail
      rw [← hW1, ← hq]
      clear hW1 hq
      go_quiet (fail)
      go_wp2_with fail
      go_quiet (fail)
      go_wp2_with fail
      go_end0
      refine ⟨rfl, s, (HC1.out.below (below_drewC (below_drewC (Below.refl _ _) _) _)), HE.out.symm, below_drewC (below_drewC (HB1.out.mono HB.out) _) _, Frm.below (below_drewC (below_drewC HB1.out _) _)⟩
theorem granted_any {w : World} {B p T g : Nat} {ps : List Int} {s : StL} (h : Chg w B p T g ps s) {m : Mg} {k : Nat} {o : OwL} (hk : s.os[k]? = some o) (hmo : m.o = (k : Int)) (hm : m.I) (hl : o.v.c.length ≤ 1024) (hI : ∀ c ∈ o.v.c, c.I)
    (hr : ∀ i, 0 < i → i < o.v.c.length → (ceA o.v.c i).n ≠ (ceA o.v.c 0).n) (hn40 : s.so.n ≤ 1024) :
    Calls Try.prog 60 #[.pointer (some ⟨p, 0, none⟩), m.val] w fun e w' => e = .returned (.tuple #[]) ∧ ∃ s2, Chg w' B p T g ps s2 ∧ s2.v = passS s.v m ∧ Below B w w' :=
  (granted_frm h hk hmo hm hl hI hr hn40).mono fun e w' ⟨h1, s2, h2, h3, h4, _⟩ => ⟨h1, s2, h2, h3, h4⟩
end Go.Proofs.Ytiaafhcfeeekeaa.Pk

/- The library's slices.Index, of open locates. -/
namespace Go.Proofs.Ytiaafhcfeeekeaa.Pk
open Go.RowKit
set_option linter.unusedVariables false
attribute [local go_sem] Oper.semAt_some
theorem eq_akI (a0 a1 b0 b1 : Int) (w : World) : (Op.equalIn 10000 59 (.agg #[.int .i64 a0, .int .i64 a1]) (.agg #[.int .i64 b0, .int .i64 b1])).run Try.prog w = .ok (decide ((⟨a0, a1⟩ : Ak) = ⟨b0, b1⟩)) w := by
  have u3 := Try.underlying3
  have a3 := Try.isAgg3
  have z3 := Try.sizeOf3
  have hst : Try.prog.stoodInHeld 59 = false := by kernel_rfl
  rw [show (10000 : Nat) = 9999 + 1 from rfl, Op.equalIn]
  simp only [Sem.run_bind, run_underlying Try.underlying59, Result.andThen_ok]
  go_simp
  by_cases h0 : a0 = b0 <;> by_cases h1 : a1 = b1 <;> simp [h0, h1]
theorem ak_get {l : List Ak} {k : Nat} (h : k < l.length) : l[k]? = some (l.getD k default) := by
  rw [List.getD_eq_getElem?_getD, List.getElem?_eq_getElem h]; rfl
theorem idx_noneA {l : List Ak} {x : Ak} (h : ∀ i, i < l.length → l.getD i default ≠ x) : l.findIdx? (fun a => decide (a = x)) = none := by
  rw [List.findIdx?_eq_none_iff]
  intro y hy
  obtain ⟨i, hi⟩ := List.getElem?_of_mem hy
  have hl := (List.getElem?_eq_some_iff.1 hi).1
  have := h i hl
  rw [ak_get hl] at hi
  injection hi with hi
  rw [hi] at this
  simpa using this
theorem idx_someA {l : List Ak} {x : Ak} {k : Nat} (hk : k < l.length) (hp : l.getD k default = x) (h : ∀ i, i < k → l.getD i default ≠ x) : l.findIdx? (fun a => decide (a = x)) = some k := by
  have ge : ∀ j (hj : j < l.length), l[j] = l.getD j default := fun j hj => by
    have := ak_get hj
    rw [List.getElem?_eq_getElem hj] at this
    injection this
  rw [List.findIdx?_eq_some_iff_getElem]
  refine ⟨hk, by rw [ge]; simpa using hp, fun j hj => ?_⟩
  rw [ge]; simpa using h j hj
set_option maxRecDepth 100000 in
set_option maxHeartbeats 4000000 in
theorem indexA (A : Option Addr) (n c : Nat) (l : List Ak) (x : Ak) (w : World) (hr : Reads w w.heap.size 2 A n (akR.cells l)) (hbig : n ≤ 4398046511104) :
    Calls Try.prog 98 #[.slice A n c, .agg #[.int .i64 x.o, .int .i64 x.n]] w fun e w' => e = .returned (.int .i64 (atE (l.findIdx? (fun a => decide (a = x))))) ∧ Below w.heap.size w w' := by
  obtain ⟨q, hq⟩ : ∃ q, q = atE (l.findIdx? (fun a => decide (a = x))) := ⟨_, rfl⟩
  rw [← hq]
  have HQ := Lib.hid hq
  have HR := Lib.hid hr
  have L : Hid (l.length = n) := Lib.hid (akR.klen hr)
  obtain ⟨y0, y1⟩ := x
  obtain ⟨b', hb'⟩ : ∃ b, b = w.heap.size := ⟨_, rfl⟩
  obtain ⟨W1, hW1⟩ : ∃ W, W = w.alloc (.cells #[.int .i64 y0, .int .i64 y1] 59) := ⟨_, rfl⟩
  have HB1 : Hid (Below w.heap.size w W1) := Lib.hid (hW1 ▸ (Below.refl _ _).alloc (Nat.le_refl _) _)
  have HK : Hid (Blk W1 b' 59 #[.int .i64 y0, .int .i64 y1]) := Lib.hid (by rw [hW1, hb']; exact Blk.new w _ _)
  clear hr hq
  go_enter Try.func98, Try.ntmps98
  go_wp2_with fail
  rw [← hW1, ← hb']
  clear hW1 hb'
  go_loopw [5, 8] (fun _ j wr => ∃ i : Nat, j = .int .i64 i ∧ i ≤ n ∧ (∀ t, t < i → l.getD t default ≠ ⟨y0, y1⟩) ∧ Below W1.heap.size W1 wr) (fun _ j _ => n - (intOf j).toNat)
  case atStart => exact ⟨0, rfl, by omega, (fun j hj => by omega), Below.refl _ _⟩
  case round =>
    obtain ⟨i, rfl, hi, hal, hb⟩ := hrel
    obtain ⟨V0, rfl⟩ : ∃ V : World, V = wr := ⟨_, rfl⟩
    have HA := Lib.hid hal
    have HBV := Lib.hid hb
    clear hal hb
    by_cases hlt : i < n
    · have hil : i < l.length := by rw [L.out]; exact hlt
      obtain ⟨b, off, rfl, hbw, hc⟩ := akR.spots HR.out (show 0 < n by omega)
      have hg := ak_get hil
      obtain ⟨u1, hu1⟩ : ∃ r1, r1 = l.getD i default := ⟨_, rfl⟩
      rw [← hu1] at hg
      have HG1 := Lib.hid hu1
      have e0 := hc i u1 hg 0 _ rfl
      have e1 := hc i u1 hg 1 _ rfl
      obtain ⟨x0, x1⟩ := u1
      simp only [akR, Nat.add_zero, ← Nat.add_assoc] at e0 e1
      have HS : Hid (∀ W, Below W1.heap.size W1 W → W.cell? ⟨b, off + i * 2, none⟩ = some (.int .i64 x0) ∧ W.cell? ⟨b, off + i * 2 + 1, none⟩ = some (.int .i64 x1) ∧ W.cell? ⟨b', 0, none⟩ = some (.int .i64 y0) ∧ W.cell? ⟨b', 1, none⟩ = some (.int .i64 y1)) := Lib.hid (fun W hW => by
        have g : ∀ (k o : Nat), k < w.heap.size → W.cell? ⟨k, o, none⟩ = w.cell? ⟨k, o, none⟩ := fun k o hk => (HB1.out.trans (hW.mono HB1.out.size)).cell (p := ⟨k, o, none⟩) hk
        have h2 := HK.out.below hW HK.out.lt
        exact ⟨(g _ _ hbw).trans e0, (g _ _ hbw).trans e1, h2.cell 0, h2.cell 1⟩)
      have hid1 : i < n := hlt
      clear hc hg hu1 e0 e1 hbw
      have z0 := fun k => (HS.out (V0.drewN k) (below_drewC HBV.out k)).1
      have z1 := fun k => (HS.out (V0.drewN k) (below_drewC HBV.out k)).2.1
      have z2 := fun k => (HS.out (V0.drewN k) (below_drewC HBV.out k)).2.2.1
      have z3 := fun k => (HS.out (V0.drewN k) (below_drewC HBV.out k)).2.2.2
      by_cases h1 : (⟨x0, x1⟩ : Ak) = ⟨y0, y1⟩
      case neg =>
        have HN : Hid (∀ t, t < i + 1 → l.getD t default ≠ ⟨y0, y1⟩) := Lib.hid (fun t ht => by
          by_cases e : t = i
          · subst e; rw [← HG1.out]; exact h1
          · exact HA.out t (by omega))
        have ke2 : ∀ W : World, (Op.equalIn 10000 59 (.agg #[.int .i64 y0, .int .i64 y1]) (.agg #[.int .i64 x0, .int .i64 x1])).run Try.prog W = .ok false W := fun W => by rw [eq_akI, decide_eq_false (fun e => h1 e.symm)]
        clear h1 hil
        go_wp2_with fail
        go_quiet (fail)
        go_wp2_with fail
        go_roundw
        case rel => exact ⟨i + 1, by go_num, by omega, HN.out, below_drewC HBV.out _⟩
        case measure => simp [intOf]; omega
      case pos =>
        have HN : Hid (q = (i : Int)) := Lib.hid (by
          rw [HQ.out, idx_someA hil (by rw [← HG1.out]; exact h1) HA.out]; rfl)
        have ke2 : ∀ W : World, (Op.equalIn 10000 59 (.agg #[.int .i64 y0, .int .i64 y1]) (.agg #[.int .i64 x0, .int .i64 x1])).run Try.prog W = .ok true W := fun W => by rw [eq_akI, decide_eq_true h1.symm]
        clear h1 hil
        go_wp2_with fail
        go_quiet (fail)
        go_wp2_with fail
        go_ret
        exact ⟨by rw [HN.out]; rfl, HB1.out.trans ((below_drewC HBV.out _).mono HB1.out.size)⟩
    · have HN : Hid (q = -1) := Lib.hid (by
        rw [HQ.out, idx_noneA (fun t ht => HA.out t (by rw [L.out] at ht; omega))]; rfl)
      go_wp2
      go_ret
      exact ⟨by rw [HN.out]; rfl, HB1.out.trans (HBV.out.mono HB1.out.size)⟩
end Go.Proofs.Ytiaafhcfeeekeaa.Pk
