/- The walk of the law GramPuts. -/
import Derived.Test.YtmegpbejknmjbaaDoorGmWakes
import Derived.Test.YtmegpbejknmjbaaDoorGmRef4
import Derived.Test.YtmegpbejknmjbaaDoorGmArgs
import Derived.Test.YtmegpbejknmjbaaDoorGmEq
import Derived.Deep.RegionHeld3
import Derived.Deep.DeepMust
namespace Go.Proofs.YtmegpbejknmjbaaDoor.Pk
open Go.RowKit Go.Proofs.YtmegpbejknmjbaaDoor.Ar Go.Proofs.YtmegpbejknmjbaaDoor.Crc
set_option linter.unusedVariables false
set_option maxRecDepth 100000 in
set_option maxHeartbeats 4000000 in
theorem law_GramPuts (validG : ValidG) (putG : PutG) (encG : EncG) (a : Option Addr) (n c : Nat) (l : List Int) (g : Gm) (w : World) (ht : Tab w) (h : ArgB w a n c l) (hg : g.I) :
    Calls Tryd.prog 3 #[.slice a n c, g.val] w fun e w' => e = .returned (.bool true) ∧ Below w.heap.size w w' := by
  obtain ⟨hr, hnc, hcx, hB⟩ := h
  have HL : Hid (l.length = n) := Lib.hid (by have := hr.1; simpa using this)
  have hB' : isB l := fun x hx => hB x hx
  have HR := Lib.hid hr
  have HTb := Lib.hid ht
  have HW := Lib.hid (fun u h => wakes_any encG u h)
  have HV := Lib.hid (fun u => validG g u hg)
  have HVr := Lib.hid (fun u => refvalid9_any g u hg)
  have HP := Lib.hid (fun u hr => putG a n c l g u hr hnc hB' (by omega) hg)
  have HPr := Lib.hid (fun u hr => refput9_any a n c l g u hr (by omega) hg)
  have HE := Lib.hid (fun u h => encG g u h hg)
  have HEr := Lib.hid (fun u => refenc9_any g u hg)
  have HPl := Lib.hid g.put_len
  have HEl : Hid ((genc g).1.length ≤ 85) := Lib.hid (by
    unfold genc
    split
    · rw [gall_len]; have := g.bytes_len; omega
    · simp)
  obtain ⟨r, hr'⟩ : ∃ r, r = decide g.Be := ⟨_, rfl⟩
  obtain ⟨q, hq⟩ : ∃ q, q = g.put := ⟨_, rfl⟩
  obtain ⟨E, hE⟩ : ∃ E, E = (genc g).1 := ⟨_, rfl⟩
  obtain ⟨er, her⟩ : ∃ er, er = (genc g).2 := ⟨_, rfl⟩
  rw [← hr'] at HV HVr
  rw [← hq] at HP HPr HPl
  rw [← hE, ← her] at HE HEr
  rw [← hE] at HEl
  clear hr hB hB' hg hr' hq hE her ht validG putG encG
  obtain ⟨f, t, b, s, ⟨k, o, d, u, v⟩⟩ := g
  unfold Gm.val at HV HVr HP HPr HE HEr ⊢
  simp only at HV HVr HP HPr HE HEr ⊢
  go_enter Tryd.func3, Tryd.ntmps3
  obtain ⟨p, hp⟩ : ∃ p, p = w.heap.size := ⟨_, rfl⟩
  obtain ⟨w0, hw0⟩ : ∃ w0, w0 = w.alloc (.cells #[.int .i64 f, .int .i64 t, .int .i64 b, .int .i64 s, .int .i64 k, .int .i64 o, .int .i64 d, .int .i64 u, .int .i64 v] 26) := ⟨_, rfl⟩
  have hb0 : Below w.heap.size w w0 := hw0 ▸ (Below.refl _ _).alloc (Nat.le_refl _) _
  have HK0 : Hid (Blk w0 p 26 #[.int .i64 f, .int .i64 t, .int .i64 b, .int .i64 s, .int .i64 k, .int .i64 o, .int .i64 d, .int .i64 u, .int .i64 v]) := Lib.hid (by rw [hw0, hp]; exact Blk.new w _ _)
  have HB0 := Lib.hid hb0
  have HT0 := Lib.hid (HTb.out.next hb0)
  go_wp2_with fail
  rw [← hw0, ← hp]
  clear hw0 hp hb0
  refine (HW.out w0 HT0.out).mono ?_
  rintro e w1 ⟨rfl, hb1⟩
  have HB1 := Lib.hid (HB0.out.trans (hb1.mono HB0.out.size))
  have HK1 := Lib.hid (HK0.out.below hb1 HK0.out.lt)
  have HT1 := Lib.hid (HT0.out.next hb1)
  clear hb1
  have k1 := HK1.out
  have a0_ : w1.cell? ⟨p, 0, none⟩ = some (.int .i64 f) := k1.cell 0
  have a1_ : w1.cell? ⟨p, 1, none⟩ = some (.int .i64 t) := k1.cell 1
  have a2_ : w1.cell? ⟨p, 2, none⟩ = some (.int .i64 b) := k1.cell 2
  have a3_ : w1.cell? ⟨p, 3, none⟩ = some (.int .i64 s) := k1.cell 3
  have a4_ : w1.cell? ⟨p, 4, none⟩ = some (.int .i64 k) := k1.cell 4
  have a5_ : w1.cell? ⟨p, 5, none⟩ = some (.int .i64 o) := k1.cell 5
  have a6_ : w1.cell? ⟨p, 6, none⟩ = some (.int .i64 d) := k1.cell 6
  have a7_ : w1.cell? ⟨p, 7, none⟩ = some (.int .i64 u) := k1.cell 7
  have a8_ : w1.cell? ⟨p, 8, none⟩ = some (.int .i64 v) := k1.cell 8
  clear k1
  go_wp2_with fail
  refine (HE.out w1 HT1.out).mono ?_
  rintro e w2 ⟨v2, rfl, ho2, hb2⟩
  obtain ⟨A2, n2, c2, rfl⟩ := own_slice ho2
  have HB2 := Lib.hid (HB1.out.trans (hb2.mono HB1.out.size))
  have HK2 := Lib.hid (HK1.out.below hb2 HK1.out.lt)
  have HO2 := Lib.hid (ho2.mono HB1.out.size)
  clear hb2 ho2
  have k2 := HK2.out
  clear a0_ a1_ a2_ a3_ a4_ a5_ a6_ a7_ a8_
  have a0_ : w2.cell? ⟨p, 0, none⟩ = some (.int .i64 f) := k2.cell 0
  have a1_ : w2.cell? ⟨p, 1, none⟩ = some (.int .i64 t) := k2.cell 1
  have a2_ : w2.cell? ⟨p, 2, none⟩ = some (.int .i64 b) := k2.cell 2
  have a3_ : w2.cell? ⟨p, 3, none⟩ = some (.int .i64 s) := k2.cell 3
  have a4_ : w2.cell? ⟨p, 4, none⟩ = some (.int .i64 k) := k2.cell 4
  have a5_ : w2.cell? ⟨p, 5, none⟩ = some (.int .i64 o) := k2.cell 5
  have a6_ : w2.cell? ⟨p, 6, none⟩ = some (.int .i64 d) := k2.cell 6
  have a7_ : w2.cell? ⟨p, 7, none⟩ = some (.int .i64 u) := k2.cell 7
  have a8_ : w2.cell? ⟨p, 8, none⟩ = some (.int .i64 v) := k2.cell 8
  clear k2
  go_wp2_with fail
  refine (HEr.out w2).mono ?_
  rintro e w3 ⟨v3, rfl, ho3, hb3⟩
  obtain ⟨A3, n3, c3, rfl⟩ := own_slice ho3
  have HB3 := Lib.hid (HB2.out.trans (hb3.mono HB2.out.size))
  have HK3 := Lib.hid (HK2.out.below hb3 HK2.out.lt)
  have HO3 := Lib.hid (ho3.mono HB2.out.size)
  have HO23 := Lib.hid (HO2.out.keep hb3 (Nat.le_refl _))
  have HR3 := Lib.hid ((HR.out.below HB3.out).more HB3.out.size)
  have hl2 : n2 ≤ 85 := by have := (own_len HO2.out).1; have := HEl.out; omega
  clear hb3 ho3 HO2
  clear a0_ a1_ a2_ a3_ a4_ a5_ a6_ a7_ a8_
  have X3 := cells9 HK3.out
  have htt : (r == r) = true := by simp
  have HSx : Hid (∀ (w6 : World), Below w3.heap.size w3 w6 → Calls Tryd.prog 14 #[.slice A2 n2 c2, .slice A3 n3 c3] w6 fun e w' => e = .returned (.bool true) ∧ ∃ k, w' = w6.drewN k) := Lib.hid (by
    intro w6 h6
    have h := same_any A2 A3 n2 c2 n3 c3 E E w6 _ _ (own_reads (HO23.out.keep h6 (Nat.le_refl _))) (own_reads (HO3.out.keep h6 (Nat.le_refl _))) (by omega)
    rwa [decide_eq_true rfl] at h)
  have HSm : Hid (∀ (w4 w5 : World) (A4 A5 : Option Addr) (n4 c4 n5 c5 : Nat), OwnB w4 w.heap.size (.slice A4 n4 c4) (l ++ q) → OwnB w5 w.heap.size (.slice A5 n5 c5) (l ++ q) → Below w4.heap.size w4 w5 → Calls Tryd.prog 14 #[.slice A4 n4 c4, .slice A5 n5 c5] w5 fun e w' => e = .returned (.bool true) ∧ ∃ k, w' = w5.drewN k) := Lib.hid (by
    intro w4 w5 A4 A5 n4 c4 n5 c5 h4 h5 h6
    have h := same_any A4 A5 n4 c4 n5 c5 (l ++ q) (l ++ q) w5 _ _ (own_reads (h4.keep h6 (Nat.le_refl _))) (own_reads h5) (by have := (own_len h4).1; rw [List.length_append, HL.out] at this; have := HPl.out; omega)
    rwa [decide_eq_true rfl] at h)
  go_wp2_with fail
  go_region_held3 (fun w' => w'.cell? ⟨p, 0, none⟩ = some (.int .i64 f) ∧ w'.cell? ⟨p, 1, none⟩ = some (.int .i64 t) ∧ w'.cell? ⟨p, 2, none⟩ = some (.int .i64 b) ∧ w'.cell? ⟨p, 3, none⟩ = some (.int .i64 s) ∧ w'.cell? ⟨p, 4, none⟩ = some (.int .i64 k) ∧ w'.cell? ⟨p, 5, none⟩ = some (.int .i64 o) ∧ w'.cell? ⟨p, 6, none⟩ = some (.int .i64 d) ∧ w'.cell? ⟨p, 7, none⟩ = some (.int .i64 u) ∧ w'.cell? ⟨p, 8, none⟩ = some (.int .i64 v)) (first | exact X3 | exact X4 | exact X5 | exact X6 | exact X7 | go_keep) (first
    | (go_at_call 12; go_must (refine (HV.out _).mono ?_; rintro e w4 ⟨rfl, hb4⟩; have H4 : Hid (Below w3.heap.size w3 w4) := Lib.hid (by first | exact hb4 | exact below_by hb4); have X4 := cells9 (HK3.out.below H4.out HK3.out.lt); clear hb4))
    | (go_at_call 13; go_must (refine (HVr.out _).mono ?_; rintro e w5 ⟨rfl, hb5⟩; have H5 : Hid (Below w3.heap.size w3 w5) := Lib.hid (by first | exact H4.out.trans (hb5.mono H4.out.size) | exact (below_drewN H4.out _).trans (hb5.mono H4.out.size)); have X5 := cells9 (HK3.out.below H5.out HK3.out.lt); have R5 : Hid (Reads w5 w5.heap.size 1 a n (bts l)) := Lib.hid ((HR.out.below (HB3.out.trans (H5.out.mono HB3.out.size))).more (Nat.le_trans HB3.out.size H5.out.size)); clear hb5))
    | (go_at_call 15; go_must (refine (HP.out _ (by first | exact R5.out | exact R5.out.drewN _)).mono ?_; rintro e w6 ⟨v6, rfl, ho6, hb6⟩; obtain ⟨A6, n6, c6, rfl⟩ := own_slice ho6; have H6 : Hid (Below w3.heap.size w3 w6) := Lib.hid (by first | exact H5.out.trans (hb6.mono H5.out.size) | exact (below_drewN H5.out _).trans (hb6.mono H5.out.size)); have X6 := cells9 (HK3.out.below H6.out HK3.out.lt); have R6 : Hid (Reads w6 w6.heap.size 1 a n (bts l)) := Lib.hid ((HR.out.below (HB3.out.trans (H6.out.mono HB3.out.size))).more (Nat.le_trans HB3.out.size H6.out.size)); have O6 : Hid (OwnB w6 w.heap.size (.slice A6 n6 c6) (l ++ q)) := Lib.hid (ho6.mono (Nat.le_trans HB3.out.size H5.out.size)); clear ho6 hb6))
    | (go_at_call 16; go_must (refine (HPr.out _ (by first | exact R6.out | exact R6.out.drewN _)).mono ?_; rintro e w7 ⟨v7, rfl, ho7, hb7⟩; obtain ⟨A7, n7, c7, rfl⟩ := own_slice ho7; have H67 : Hid (Below w6.heap.size w6 w7) := Lib.hid (by first | exact hb7 | exact below_by hb7); have H7 : Hid (Below w3.heap.size w3 w7) := Lib.hid (H6.out.trans (H67.out.mono H6.out.size)); have X7 := cells9 (HK3.out.below H7.out HK3.out.lt); have O7 : Hid (OwnB w7 w.heap.size (.slice A7 n7 c7) (l ++ q)) := Lib.hid (ho7.mono (Nat.le_trans HB3.out.size H6.out.size)); clear ho7 hb7))
    | (go_at_call_of 14 (Value.slice A2 n2 c2); go_must ((first | (refine (HSx.out _ H7.out).mono ?_) | (refine (HSx.out _ (below_drewN H7.out _)).mono ?_)); rintro e w9 ⟨rfl, k9, rfl⟩))
    | (go_at_call 14; go_must ((first | (refine (HSm.out w6 w7 A6 A7 n6 c6 n7 c7 O6.out O7.out H67.out).mono ?_) | (refine (HSm.out w6 (w7.drewN _) A6 A7 n6 c6 n7 c7 O6.out O7.out (below_drewN H67.out _)).mono ?_)); rintro e w8 ⟨rfl, k8, rfl⟩)))
  all_goals
    go_wp2
    go_ret
    exact ⟨rfl, by
      refine HB3.out.trans (Below.mono ?_ HB3.out.size)
      repeat' (first | exact H7.out | refine below_drewN ?_ _)⟩
end Go.Proofs.YtmegpbejknmjbaaDoor.Pk
