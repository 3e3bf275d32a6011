/- The walk of the law WireKeeps. -/
import Derived.Test.YtdfjgfonbbgfcaaWiWakes
import Derived.Test.YtdfjgfonbbgfcaaWiArgs
import Derived.Test.YtdfjgfonbbgfcaaHold
import Derived.Deep.RegionHeld3
import Derived.Deep.DeepMust
namespace Go.Proofs.Ytdfjgfonbbgfcaa.Pk
open Go.RowKit Go.Proofs.Ytdfjgfonbbgfcaa.Ar
set_option linter.unusedVariables false
theorem below_by {w w' : World} {i : Nat} (h : Below w.heap.size (w.drewN i) w') : Below w.heap.size w w' := ⟨h.os, h.tape, h.output, h.size, h.block⟩
theorem cells5 {w : World} {p : Nat} {t : TypeId} {k o d u v : Int} (h : Blk w p t #[.int .i64 k, .int .i64 o, .int .i64 d, .int .i64 u, .int .i64 v]) : w.cell? ⟨p, 0, none⟩ = some (.int .i64 k) ∧ w.cell? ⟨p, 1, none⟩ = some (.int .i64 o) ∧ w.cell? ⟨p, 2, none⟩ = some (.int .i64 d) ∧ w.cell? ⟨p, 3, none⟩ = some (.int .i64 u) ∧ w.cell? ⟨p, 4, none⟩ = some (.int .i64 v) := ⟨h.cell 0, h.cell 1, h.cell 2, h.cell 3, h.cell 4⟩
theorem seven_ {lo hi n c : Nat} {A : Option Addr} {l : List Int} {w : World} (h : OwnI lo hi (.slice A (n + 7) c) (l ++ [71, 72, 73, 74, 75, 76, 77]) w) (hl : l.length = n) :
    ∃ g, A = some ⟨g, 0, none⟩ ∧ w.cell? ⟨g, n, none⟩ = some (.int .u8 71) ∧ w.cell? ⟨g, n + 6, none⟩ = some (.int .u8 77) := by
  subst hl
  obtain ⟨g, e, _, _, _, c1, _⟩ := h.store (i := l.length) (by omega)
  obtain ⟨g2, e2, _, _, _, c2, _⟩ := h.store (i := l.length + 6) (by omega)
  subst e
  injection e2 with e2; injection e2 with e2; subst e2
  refine ⟨g, rfl, by rw [c1]; simp, by rw [c2]; simp [List.getD_eq_getElem?_getD]⟩
set_option maxRecDepth 100000 in
set_option maxHeartbeats 8000000 in
theorem law_WireKeeps (putC : PutC) (a : Option Addr) (n c : Nat) (l : List Int) (m : Mg) (w : World) (h : ArgB w a n c l) (hm : m.I) :
    Calls Try.prog 6 #[.slice a n c, m.val] w fun e w' => e = .returned (.bool true) ∧ Below w.heap.size w w' := by
  obtain ⟨hr, hnc, hcx, hB⟩ := h
  have hB' : isB l := fun x hx => hB x hx
  have HL : Hid (l.length = n) := Lib.hid (by have := hr.1; simpa using this)
  have HR := Lib.hid hr
  have HW := Lib.hid (fun u => wakes_any putC u)
  have HP := Lib.hid (fun A c u hr hc => putC A n c l m u hr hc hB' (by omega) hm)
  have HPl := Lib.hid m.put_len
  obtain ⟨q, hq⟩ : ∃ q, q = m.put := ⟨_, rfl⟩
  rw [← hq] at HP HPl
  clear hr hB hB' hm hq putC
  obtain ⟨k, o, d, u, v⟩ := m
  unfold Mg.val at HP ⊢
  simp only at HP ⊢
  go_enter Try.func6, Try.ntmps6
  obtain ⟨p, hp⟩ : ∃ p, p = w.heap.size := ⟨_, rfl⟩
  obtain ⟨w1, hw1⟩ : ∃ w1, w1 = w.alloc (.cells #[.int .i64 k, .int .i64 o, .int .i64 d, .int .i64 u, .int .i64 v] 24) := ⟨_, rfl⟩
  have hb1 : Below w.heap.size w w1 := hw1 ▸ (Below.refl _ _).alloc (Nat.le_refl _) _
  have HK1 : Hid (Blk w1 p 24 #[.int .i64 k, .int .i64 o, .int .i64 d, .int .i64 u, .int .i64 v]) := Lib.hid (by rw [hw1, hp]; exact Blk.new w _ _)
  have HB1 := Lib.hid hb1
  go_wp2_with fail
  rw [← hw1, ← hp]
  clear hw1 hp hb1
  refine (HW.out w1).mono ?_
  rintro e w2 ⟨rfl, hb⟩
  have HB2 := Lib.hid (HB1.out.trans (hb.mono HB1.out.size))
  have HK2 := Lib.hid (HK1.out.below hb HK1.out.lt)
  have HR2 := Lib.hid ((HR.out.below HB2.out).more HB2.out.size)
  have hs2 := HB2.out.size
  clear hb HB1 HK1
  go_wp2_with (first
    | (at_builtin; refine appE w2 rfl (.tmp 15) (.tmp 16) rfl w2.heap.size rfl w2.heap.size a c l n rfl HR2.out (Nat.le_refl _) (by omega) (Nat.le_refl _) ?_; intro v3 w3 hown3 hb3; have s3 := hb3.size)
    | (at_builtin; refine appB _ rfl (.tmp 17) (.tmp 18) rfl w2.heap.size v3 l rfl (hown3.alloc _) (w3.heap.size + 1) _ 7 [71, 72, 73, 74, 75, 76, 77] 7 rfl (reads_new w3 _ _ _ 7 (bts [71, 72, 73, 74, 75, 76, 77]) rfl rfl (by omega)) (by have := HL.out; omega) (by simp; omega) ?_; intro v4 w4 hown4 hb4 _ _; obtain ⟨Am, nm, cm, rfl, hcm, hnm, -⟩ := hown4.val; obtain rfl : nm = n + 7 := (by have := HL.out; rw [← hnm]; simp; omega); have hmA := OwnI.of hown4; have hcm0 : ¬ (cm = 0) := (by omega); have hcm1 : n ≤ cm := (by omega); have hcm2 : (n : Int) ≤ (cm : Int) := (by omega); have hb24 : Below w2.heap.size w2 w4 := (hb3.alloc s3 _).trans hb4; have s4 := hb24.size; have HB4 := Lib.hid (HB2.out.trans (hb24.mono hs2)); have HK4 := Lib.hid (HK2.out.below hb24 HK2.out.lt); have x0 : w4.cell? ⟨p, 0, none⟩ = some (.int .i64 k) := (HK4.out).cell 0; have x1 : w4.cell? ⟨p, 1, none⟩ = some (.int .i64 o) := (HK4.out).cell 1; have x2 : w4.cell? ⟨p, 2, none⟩ = some (.int .i64 d) := (HK4.out).cell 2; have x3 : w4.cell? ⟨p, 3, none⟩ = some (.int .i64 u) := (HK4.out).cell 3; have x4 : w4.cell? ⟨p, 4, none⟩ = some (.int .i64 v) := (HK4.out).cell 4;  clear hown3 hb3 hown4 hb4 hb24 hnm s3))
  have HMA := Lib.hid hmA
  have hrm := (RowI.reads (OwnI.rowHeld hmA)).take (k := n) (by omega)
  rw [app_take _ _ _ HL.out] at hrm
  have HRM := Lib.hid hrm
  have X4 := cells5 HK4.out
  clear hrm
  go_region_held3 (fun w' => w'.cell? ⟨p, 0, none⟩ = some (.int .i64 k) ∧ w'.cell? ⟨p, 1, none⟩ = some (.int .i64 o) ∧ w'.cell? ⟨p, 2, none⟩ = some (.int .i64 d) ∧ w'.cell? ⟨p, 3, none⟩ = some (.int .i64 u) ∧ w'.cell? ⟨p, 4, none⟩ = some (.int .i64 v)) (first | exact X4 | exact X5 | go_keep) (first
    | (go_at_call 13; go_must (refine (HP.out Am cm _ (by first | exact HRM.out | exact HRM.out.drewN _) hcm1).mono ?_; rintro e w5 ⟨v5, rfl, ho5, hb5⟩; replace hb5 : Below w4.heap.size w4 w5 := (by first | exact hb5 | exact below_by hb5); have X5 := cells5 (HK4.out.below hb5 HK4.out.lt))))
  replace ho5 : OwnB w5 w4.heap.size v5 (l ++ q) := ho5
  obtain ⟨A5, n5, c5, rfl⟩ := own_slice ho5
  have hl5 := own_len ho5
  rw [List.length_append, HL.out] at hl5
  have hn5 : n5 ≤ n + 45 := by have := HPl.out; omega
  have hc5 : n5 ≤ c5 := hl5.2
  have HE5 := Lib.hid hl5.1
  have HO5 := Lib.hid (OwnI.of ho5)
  have HM5 := Lib.hid (HMA.out.below hb5)
  have HB5 := Lib.hid (HB4.out.trans (hb5.mono HB4.out.size))
  have HK5 := Lib.hid (HK4.out.below hb5 HK4.out.lt)
  have s5 := hb5.size
  have y0 : w5.cell? ⟨p, 0, none⟩ = some (.int .i64 k) := (HK5.out).cell 0
  have y1 : w5.cell? ⟨p, 1, none⟩ = some (.int .i64 o) := (HK5.out).cell 1
  have y2 : w5.cell? ⟨p, 2, none⟩ = some (.int .i64 d) := (HK5.out).cell 2
  have y3 : w5.cell? ⟨p, 3, none⟩ = some (.int .i64 u) := (HK5.out).cell 3
  have y4 : w5.cell? ⟨p, 4, none⟩ = some (.int .i64 v) := (HK5.out).cell 4
  have hrm := (RowI.reads (OwnI.rowHeld HM5.out)).take (k := n) (by omega)
  rw [app_take _ _ _ HL.out] at hrm
  clear hmA HMA hl5 ho5 hb5 HB4 HK4 X4 X5
  go_wp2_with fail
  have HRM2 := Lib.hid hrm
  have X5 := cells5 HK5.out
  clear hrm
  go_region_held3 (fun w' => w'.cell? ⟨p, 0, none⟩ = some (.int .i64 k) ∧ w'.cell? ⟨p, 1, none⟩ = some (.int .i64 o) ∧ w'.cell? ⟨p, 2, none⟩ = some (.int .i64 d) ∧ w'.cell? ⟨p, 3, none⟩ = some (.int .i64 u) ∧ w'.cell? ⟨p, 4, none⟩ = some (.int .i64 v)) (first | exact X5 | exact X6 | go_keep) (first
    | (go_at_call 13; go_must (refine (HP.out Am cm _ (by first | exact HRM2.out | exact HRM2.out.drewN _) hcm1).mono ?_; rintro e w6 ⟨v6, rfl, ho6, hb6⟩; replace hb6 : Below w5.heap.size w5 w6 := (by first | exact hb6 | exact below_by hb6); have X6 := cells5 (HK5.out.below hb6 HK5.out.lt))))
  replace ho6 : OwnB w6 w5.heap.size v6 (l ++ q) := ho6
  obtain ⟨A6, n6, c6, rfl⟩ := own_slice ho6
  obtain rfl : n5 = n6 := by have h1 := (own_len ho6).1; rw [List.length_append, HL.out] at h1; have := HE5.out; omega
  have hc6 : n5 ≤ c6 := (own_len ho6).2
  have HO6 := Lib.hid (OwnI.of ho6)
  have HO56 := Lib.hid (HO5.out.below hb6)
  have HM6 := Lib.hid (HM5.out.below hb6)
  have HB6 := Lib.hid (HB5.out.trans (hb6.mono HB5.out.size))
  have HR6 := Lib.hid (RowI.reads (OwnI.rowHeld (OwnI.of ho6)))
  have s6 := hb6.size
  clear ho6 hb6 HM5 HO5 HB5 HK5 X5 X6
  go_wp2_with (at_builtin; refine appE w6 rfl (.tmp 32) (.tmp 33) rfl w6.heap.size rfl w6.heap.size A6 c6 (l ++ q) n5 rfl HR6.out (Nat.le_refl _) (by omega) (Nat.le_refl _) ?_; intro v7 w7 hown7 hb7; obtain ⟨A7, n7, c7, rfl⟩ := own_slice hown7; have HO7 := Lib.hid (OwnI.of hown7); have HO67 := Lib.hid (HO6.out.below hb7); have HO57 := Lib.hid (HO56.out.below hb7); have HM7 := Lib.hid (HM6.out.below hb7); have HB7 := Lib.hid (HB6.out.trans (hb7.mono HB6.out.size)); have s7 := hb7.size; have HE7 := Lib.hid (own_len hown7).1; clear hown7 hb7 HO6 HO56 HM6 HB6)
  obtain rfl : n5 = n7 := by have h1 := HE7.out; rw [List.length_append, HL.out] at h1; have := HE5.out; omega
  have hrm := (RowI.reads (OwnI.rowHeld HM7.out)).take (k := n) (by omega)
  rw [app_take _ _ _ HL.out] at hrm
  have HSm := Lib.hid (same_any Am a n cm n c l l w7 _ _ hrm ((HR.out.below HB7.out).more HB7.out.size) (by omega))
  rw [decide_eq_true rfl] at HSm
  clear hrm
  refine HSm.out.mono ?_
  rintro e w8 ⟨rfl, z8, hw8⟩
  have HB8 : Hid (Below w.heap.size w w8) := Lib.hid (by rw [hw8]; exact below_drewN HB7.out _)
  have HM8 : Hid (Held w2.heap.size w4.heap.size (OwnI w2.heap.size w4.heap.size (.slice Am (n + 7) cm) (l ++ [71, 72, 73, 74, 75, 76, 77])) w8) := Lib.hid (by rw [hw8]; exact HM7.out.drewN _)
  have HO58 : Hid (Held w4.heap.size w5.heap.size (OwnI w4.heap.size w5.heap.size (.slice A5 n5 c5) (l ++ q)) w8) := Lib.hid (by rw [hw8]; exact HO57.out.drewN _)
  have HO68 : Hid (Held w5.heap.size w6.heap.size (OwnI w5.heap.size w6.heap.size (.slice A6 n5 c6) (l ++ q)) w8) := Lib.hid (by rw [hw8]; exact HO67.out.drewN _)
  have HO78 : Hid (Held w6.heap.size w7.heap.size (OwnI w6.heap.size w7.heap.size (.slice A7 n5 c7) (l ++ q)) w8) := Lib.hid (by rw [hw8]; exact HO7.out.drewN _)
  have hs8 : w7.heap.size ≤ w8.heap.size := by rw [hw8]; exact Nat.le_refl _
  obtain ⟨gm, rfl, c71, c77⟩ := seven_ HM8.out.out HL.out
  clear hw8 HSm HB7 HM7 HO57 HO67 HO7 HR6
  go_wp2
  go_loopw [9, 61] (fun _ j wr => ∃ (i : Nat) (l' : List Int), j = .int .i64 i ∧ i ≤ n + 7 ∧ OwnI w2.heap.size w4.heap.size (.slice (some ⟨gm, 0, none⟩) (n + 7) cm) l' wr ∧ Mod w2.heap.size w4.heap.size w8 wr) (fun _ j _ => n + 7 - (intOf j).toNat)
  case atStart => exact ⟨0, _, rfl, by omega, HM8.out.out, Mod.refl _ _ _⟩
  case round =>
    obtain ⟨i, l1, rfl, hi1, hO, hm⟩ := hrel
    obtain ⟨w9, rfl⟩ : ∃ w9 : World, w9 = wr := ⟨_, rfl⟩
    by_cases hi2 : i < n + 7
    · obtain ⟨gq, e, _, _, _, hc1, hf1, hst⟩ := hO.store (i := i) hi2
      injection e with e; injection e with e; subst e
      obtain ⟨ho2, hm2⟩ := hst 1
      have HOm := Lib.hid ho2
      have HMm := Lib.hid (hm.trans hm2)
      clear hst ho2 hm2 hO hm
      go_wp2
      go_roundw
      case rel => exact ⟨i + 1, _, by go_num, by omega, HOm.out, HMm.out⟩
      case measure => simp [intOf]; omega
    have HB9 := Lib.hid (hm.below HB8.out hs2 HB8.out.size)
    have HO59 := Lib.hid (HO58.out.mod hm (.inl (Nat.le_refl _)))
    have HO69 := Lib.hid (HO68.out.mod hm (.inl (by omega)))
    have HO79 := Lib.hid (HO78.out.mod hm (.inl (by omega)))
    have hs9 := hm.size
    clear hO hm HB8 HO58 HO68 HO78 HM8
    go_wp2
    go_loopw [10, 70] (fun _ j wr => ∃ (i : Nat) (l' : List Int), j = .int .i64 i ∧ i ≤ n5 ∧ OwnI w4.heap.size w5.heap.size (.slice A5 n5 c5) l' wr ∧ Mod w4.heap.size w5.heap.size w9 wr) (fun _ j _ => n5 - (intOf j).toNat)
    case atStart => exact ⟨0, _, rfl, by omega, HO59.out.out, Mod.refl _ _ _⟩
    case round =>
      obtain ⟨i, l1, rfl, hi1, hO, hm⟩ := hrel
      obtain ⟨w10, rfl⟩ : ∃ w10 : World, w10 = wr := ⟨_, rfl⟩
      by_cases hi2 : i < n5
      · obtain ⟨gq, e, _, _, _, hc1, hf1, hst⟩ := hO.store (i := i) hi2
        subst e
        obtain ⟨ho2, hm2⟩ := hst 2
        have HOm := Lib.hid ho2
        have HMm := Lib.hid (hm.trans hm2)
        clear hst ho2 hm2 hO hm
        go_wp2
        go_roundw
        case rel => exact ⟨i + 1, _, by go_num, by omega, HOm.out, HMm.out⟩
        case measure => simp [intOf]; omega
      have HB10 := Lib.hid (hm.below HB9.out (by omega) HB9.out.size)
      have HO6a := Lib.hid (HO69.out.mod hm (.inl (Nat.le_refl _)))
      have HO7a := Lib.hid (HO79.out.mod hm (.inl (by omega)))
      have hs10 := hm.size
      have HOa := Lib.hid hO
      have hla := hO.row.1
      clear hO hm HB9 HO59 HO69 HO79
      go_wp2
      go_loopw [11, 12] (fun lv j wr => ∃ (i : Nat) (l' : List Int) (A' : Option Addr) (c' : Nat), j = .int .i64 i ∧ i ≤ 40 ∧ lv = .slice A' (n5 + i) c' ∧ l'.length = n5 + i ∧ OwnB wr w4.heap.size (.slice A' (n5 + i) c') l' ∧ (∀ g, (Value.slice A' (n5 + i) c').ownBlock = some g → g < w5.heap.size ∨ w10.heap.size ≤ g) ∧ Mod w4.heap.size w5.heap.size w10 wr) (fun _ j _ => 40 - (intOf j).toNat)
      case atStart => exact ⟨0, l1, A5, c5, rfl, by omega, rfl, hla, HOa.out.1, fun g hg => .inl (HOa.out.2 g hg), Mod.refl _ _ _⟩
      case round =>
        obtain ⟨t, l2, A8, c8, rfl, ht, rfl, hl2, hO, hbk, hm⟩ := hrel
        obtain ⟨w11, rfl⟩ : ∃ w11 : World, w11 = wr := ⟨_, rfl⟩
        have HO := Lib.hid hO
        have HBk := Lib.hid hbk
        have HMm := Lib.hid hm
        have HL2 := Lib.hid hl2
        have s11 := hm.size
        clear hO hbk hm hl2
        by_cases ht2 : t < 40
        · have hq2 : n5 + t + 1 = n5 + (t + 1) := by omega
          obtain ⟨x, hx⟩ : ∃ x, x = n5 + t := ⟨_, rfl⟩
          rw [← hx] at HO HBk HL2 ⊢
          have hxb : x ≤ n + 85 := by omega
          have HX := Lib.hid hx
          clear hx hq2
          go_wp2_with (at_builtin; refine appB _ rfl (.tmp 82) (.tmp 83) rfl w4.heap.size _ l2 rfl (HO.out.alloc _) (w11.heap.size + 1) _ 1 [3] 1 rfl (reads_new w11 _ _ _ 1 (bts [3]) rfl rfl (by omega)) (by have := HL2.out; omega) (by simp; omega) ?_; intro v12 w12 hown12 hb12 hat12 hg12; obtain ⟨A12, n12, c12, rfl⟩ := own_slice hown12; have HO12 := Lib.hid hown12; have HAt := Lib.hid hat12; have HG := Lib.hid hg12; clear hown12 hb12 hat12 hg12)
          have hn12 : n12 = x + 1 := by have h1 := (own_len HO12.out).1; rw [List.length_append, HL2.out] at h1; exact h1.symm
          subst hn12
          go_roundw
          case rel =>
            refine ⟨t + 1, l2 ++ [3], A12, c12, by go_num, by omega, by rw [HX.out]; rfl, by rw [List.length_append, HL2.out, HX.out]; rfl, by rw [show n5 + (t + 1) = x + 1 by rw [HX.out]; rfl]; exact HO12.out, ?_, ?_⟩
            · intro g hg
              have hg2 : (Value.slice A12 (x + 1) c12).ownBlock = some g := by rw [show x + 1 = n5 + (t + 1) by rw [HX.out]; rfl]; exact hg
              rcases HAt.out with h1 | h1
              · exact HBk.out g (h1.symm.trans hg2)
              · right
                rw [h1] at hg2
                injection hg2 with hg2
                simp at hg2
                omega
            · refine (HMm.out.trans (Mod.of ((Below.refl _ w11).alloc (Nat.le_refl _) _) _ _)).late HG.out (fun g hg => ?_)
              have h1 := own_base HO.out g hg
              rcases HBk.out g hg with h2 | h2
              · exact .inl ⟨h1, h2⟩
              · exact .inr h2
          case measure => simp [intOf]; omega
        · obtain rfl : 40 = t := by omega
          have HB11 := Lib.hid (HMm.out.below HB10.out (by omega) HB10.out.size)
          have HO6b := HO6a.out.mod HMm.out (.inl (Nat.le_refl _))
          have HO7b := HO7a.out.mod HMm.out (.inl (by omega))
          have HSm := Lib.hid (fun i => same_any A6 A7 n5 c6 n5 c7 (l ++ q) (l ++ q) (w11.drewN i) _ _ (RowI.reads (OwnI.rowHeld (HO6b.drewN i))) (RowI.reads (OwnI.rowHeld (HO7b.drewN i))) (by omega))
          rw [decide_eq_true rfl] at HSm
          have hwr : IntKind.i64.wrap ((n5 : Int) + 40) = ((n5 + 40 : Nat) : Int) := by rw [IntWalk.i64_in _ (by omega)]; rfl
          have teq : (((n5 + 40 : Nat) : Int) == ((n5 + 40 : Nat) : Int)) = true := by simp
          clear HO6b HO7b
          go_wp2_with fail
          refine (HSm.out 0).mono ?_
          rintro e w12 ⟨rfl, k12, rfl⟩
          go_wp2
          go_ret
          exact ⟨rfl, below_drewN HB11.out _⟩
end Go.Proofs.Ytdfjgfonbbgfcaa.Pk
