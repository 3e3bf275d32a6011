/- The walk of the law WirePuts. -/
import Derived.Test.YtdfjgfonbbgfcaaWiWakes
import Derived.Test.YtdfjgfonbbgfcaaWiRef2
import Derived.Test.YtdfjgfonbbgfcaaWiArgs
import Derived.Deep.RegionHeld3
import Derived.Deep.DeepMust
namespace Go.Proofs.Ytdfjgfonbbgfcaa.Pk
open Go.RowKit Go.Proofs.Ytdfjgfonbbgfcaa.Ar
set_option linter.unusedVariables false
theorem below_by {w w' : World} {i : Nat} (h : Below w.heap.size (w.drewN i) w') : Below w.heap.size w w' := ⟨h.os, h.tape, h.output, h.size, h.block⟩
/-- A message's cells. -/
def Cells5 (w : World) (p : Nat) (k o d u v : Int) : Prop := w.cell? ⟨p, 0, none⟩ = some (.int .i64 k) ∧ w.cell? ⟨p, 1, none⟩ = some (.int .i64 o) ∧ w.cell? ⟨p, 2, none⟩ = some (.int .i64 d) ∧ w.cell? ⟨p, 3, none⟩ = some (.int .i64 u) ∧ w.cell? ⟨p, 4, none⟩ = some (.int .i64 v)
theorem cells5 {w : World} {p : Nat} {t : TypeId} {k o d u v : Int} (h : Blk w p t #[.int .i64 k, .int .i64 o, .int .i64 d, .int .i64 u, .int .i64 v]) : Cells5 w p k o d u v := ⟨h.cell 0, h.cell 1, h.cell 2, h.cell 3, h.cell 4⟩
set_option maxRecDepth 100000 in
set_option maxHeartbeats 4000000 in
theorem law_WirePuts (validC : ValidC) (putC : PutC) (a : Option Addr) (n c : Nat) (l : List Int) (m : Mg) (w : World) (h : ArgB w a n c l) (hm : m.I) :
    Calls Try.prog 3 #[.slice a n c, m.val] w fun e w' => e = .returned (.bool true) ∧ Below w.heap.size w w' := by
  obtain ⟨hr, hnc, hcx, hB⟩ := h
  have HL : Hid (l.length = n) := Lib.hid (by have := hr.1; simpa using this)
  have HR := Lib.hid hr
  have hB' : isB l := fun x hx => hB x hx
  have HW := Lib.hid (fun u => wakes_any putC u)
  have HV := Lib.hid (fun u => validC m u hm)
  have HVr := Lib.hid (fun u => refvalid_any m u hm)
  have HP := Lib.hid (fun u hr => putC a n c l m u hr hnc hB' (by omega) hm)
  have HPr := Lib.hid (fun u hr => refput8_any a n c l m u hr (by omega) hm)
  have HPl := Lib.hid m.put_len
  obtain ⟨t, ht⟩ : ∃ t, t = decide m.Be := ⟨_, rfl⟩
  obtain ⟨q, hq⟩ : ∃ q, q = m.put := ⟨_, rfl⟩
  rw [← ht] at HV HVr
  rw [← hq] at HP HPr HPl
  clear hr hB hB' hm ht hq validC putC
  obtain ⟨k, o, d, u, v⟩ := m
  unfold Mg.val at HV HVr HP HPr ⊢
  simp only at HV HVr HP HPr ⊢
  go_enter Try.func3, Try.ntmps3
  obtain ⟨p, hp⟩ : ∃ p, p = w.heap.size := ⟨_, rfl⟩
  obtain ⟨w0, hw0⟩ : ∃ w0, w0 = w.alloc (.cells #[.int .i64 k, .int .i64 o, .int .i64 d, .int .i64 u, .int .i64 v] 24) := ⟨_, rfl⟩
  have hb0 : Below w.heap.size w w0 := hw0 ▸ (Below.refl _ _).alloc (Nat.le_refl _) _
  have k0 : Blk w0 p 24 #[.int .i64 k, .int .i64 o, .int .i64 d, .int .i64 u, .int .i64 v] := by rw [hw0, hp]; exact Blk.new w _ _
  have HB0 := Lib.hid hb0
  have HK0 := Lib.hid k0
  go_wp2_with fail
  rw [← hw0, ← hp]
  clear hw0 hp hb0
  have X0 : Cells5 w0 p k o d u v := cells5 k0
  clear k0
  have htt : (t == t) = true := by simp
  have HSm : Hid (∀ (w4 w5 : World) (A4 A5 : Option Addr) (n4 c4 n5 c5 : Nat), OwnB w4 w.heap.size (.slice A4 n4 c4) (l ++ q) → OwnB w5 w.heap.size (.slice A5 n5 c5) (l ++ q) → Below w4.heap.size w4 w5 → Calls Try.prog 12 #[.slice A4 n4 c4, .slice A5 n5 c5] w5 fun e w' => e = .returned (.bool true) ∧ ∃ k, w' = w5.drewN k) := Lib.hid (by
    intro w4 w5 A4 A5 n4 c4 n5 c5 h4 h5 h6
    have h := same_any A4 A5 n4 c4 n5 c5 (l ++ q) (l ++ q) w5 _ _ (own_reads (h4.keep h6 (Nat.le_refl _))) (own_reads h5) (by have := (own_len h4).1; rw [List.length_append, HL.out] at this; have := HPl.out; omega)
    rwa [decide_eq_true rfl] at h)
  go_region_held3 (fun w' => w'.cell? ⟨p, 0, none⟩ = some (.int .i64 k) ∧ w'.cell? ⟨p, 1, none⟩ = some (.int .i64 o) ∧ w'.cell? ⟨p, 2, none⟩ = some (.int .i64 d) ∧ w'.cell? ⟨p, 3, none⟩ = some (.int .i64 u) ∧ w'.cell? ⟨p, 4, none⟩ = some (.int .i64 v)) (first | exact X0 | exact X1 | exact X2 | exact X3 | exact X4 | exact X5 | go_keep) (first
    | (go_at_call 9; go_must (refine (HW.out _).mono ?_; rintro e w1 ⟨rfl, hb1⟩; have H1 : Hid (Below w0.heap.size w0 w1) := Lib.hid (by first | exact hb1 | exact below_by hb1); have X1 := cells5 (HK0.out.below H1.out HK0.out.lt); clear hb1))
    | (go_at_call 10; go_must (refine (HV.out _).mono ?_; rintro e w2 ⟨rfl, hb2⟩; have H2 : Hid (Below w0.heap.size w0 w2) := Lib.hid (by first | exact H1.out.trans (hb2.mono H1.out.size) | exact (below_drewN H1.out _).trans (hb2.mono H1.out.size)); have X2 := cells5 (HK0.out.below H2.out HK0.out.lt); clear hb2))
    | (go_at_call 11; go_must (refine (HVr.out _).mono ?_; rintro e w3 ⟨rfl, hb3⟩; have H3 : Hid (Below w0.heap.size w0 w3) := Lib.hid (by first | exact H2.out.trans (hb3.mono H2.out.size) | exact (below_drewN H2.out _).trans (hb3.mono H2.out.size)); have X3 := cells5 (HK0.out.below H3.out HK0.out.lt); have R3 : Hid (Reads w3 w3.heap.size 1 a n (bts l)) := Lib.hid ((HR.out.below (HB0.out.trans (H3.out.mono HB0.out.size))).more (Nat.le_trans HB0.out.size H3.out.size)); clear hb3))
    | (go_at_call 13; go_must (refine (HP.out _ (by first | exact R3.out | exact R3.out.drewN _)).mono ?_; rintro e w4 ⟨v4, rfl, ho4, hb4⟩; obtain ⟨A4, n4, c4, rfl⟩ := own_slice ho4; have H4 : Hid (Below w0.heap.size w0 w4) := Lib.hid (by first | exact H3.out.trans (hb4.mono H3.out.size) | exact (below_drewN H3.out _).trans (hb4.mono H3.out.size)); have X4 := cells5 (HK0.out.below H4.out HK0.out.lt); have R4 : Hid (Reads w4 w4.heap.size 1 a n (bts l)) := Lib.hid ((HR.out.below (HB0.out.trans (H4.out.mono HB0.out.size))).more (Nat.le_trans HB0.out.size H4.out.size)); have O4 : Hid (OwnB w4 w.heap.size (.slice A4 n4 c4) (l ++ q)) := Lib.hid (ho4.mono (Nat.le_trans HB0.out.size H3.out.size)); clear ho4 hb4))
    | (go_at_call 14; go_must (refine (HPr.out _ (by first | exact R4.out | exact R4.out.drewN _)).mono ?_; rintro e w5 ⟨v5, rfl, ho5, hb5⟩; obtain ⟨A5, n5, c5, rfl⟩ := own_slice ho5; have H45 : Hid (Below w4.heap.size w4 w5) := Lib.hid (by first | exact hb5 | exact below_by hb5); have H5 : Hid (Below w0.heap.size w0 w5) := Lib.hid (H4.out.trans (H45.out.mono H4.out.size)); have X5 := cells5 (HK0.out.below H5.out HK0.out.lt); have O5 : Hid (OwnB w5 w.heap.size (.slice A5 n5 c5) (l ++ q)) := Lib.hid (ho5.mono (Nat.le_trans HB0.out.size H4.out.size)); clear ho5 hb5))
    | (go_at_call 12; go_must ((first | (refine (HSm.out w4 w5 A4 A5 n4 c4 n5 c5 O4.out O5.out H45.out).mono ?_) | (refine (HSm.out w4 (w5.drewN _) A4 A5 n4 c4 n5 c5 O4.out O5.out (below_drewN H45.out _)).mono ?_)); rintro e w6 ⟨rfl, k6, rfl⟩)))
  all_goals
    go_wp2
    go_ret
    exact ⟨rfl, by
      refine HB0.out.trans (Below.mono ?_ HB0.out.size)
      repeat' (first | exact H5.out | refine below_drewN ?_ _)⟩
end Go.Proofs.Ytdfjgfonbbgfcaa.Pk
