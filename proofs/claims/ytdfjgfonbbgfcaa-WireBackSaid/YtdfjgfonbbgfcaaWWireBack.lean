/- The walk of the law WireBack. -/
import Derived.Test.YtdfjgfonbbgfcaaWiWakes
import Derived.Test.YtdfjgfonbbgfcaaWiArgs
import Derived.Test.YtdfjgfonbbgfcaaWiEq
import Derived.Test.YtdfjgfonbbgfcaaWiRef3
import Derived.Deep.RegionHeld3
import Derived.Deep.DeepMust
namespace Go.Proofs.Ytdfjgfonbbgfcaa.Pk
open Go.RowKit Go.Proofs.Ytdfjgfonbbgfcaa.Ar
set_option linter.unusedVariables false
theorem below_by {w w' : World} {i : Nat} (h : Below w.heap.size (w.drewN i) w') : Below w.heap.size w w' := ⟨h.os, h.tape, h.output, h.size, h.block⟩
theorem cells5 {w : World} {p : Nat} {t : TypeId} {k o d u v : Int} (h : Blk w p t #[.int .i64 k, .int .i64 o, .int .i64 d, .int .i64 u, .int .i64 v]) : w.cell? ⟨p, 0, none⟩ = some (.int .i64 k) ∧ w.cell? ⟨p, 1, none⟩ = some (.int .i64 o) ∧ w.cell? ⟨p, 2, none⟩ = some (.int .i64 d) ∧ w.cell? ⟨p, 3, none⟩ = some (.int .i64 u) ∧ w.cell? ⟨p, 4, none⟩ = some (.int .i64 v) := ⟨h.cell 0, h.cell 1, h.cell 2, h.cell 3, h.cell 4⟩
theorem encs_ge (xs : List Int) : xs.length ≤ (encs xs).length := by
  induction xs with
  | nil => simp [encs]
  | cons x r ih =>
    have := enc_len_pos 8 (max x 0)
    have e : encs (x :: r) = enc 8 (max x 0) ++ encs r := rfl
    rw [e, List.length_append, List.length_cons]
    omega
theorem bytes_four (m : Mg) : 4 ≤ m.bytes.length := by
  have h1 := m.nums_len
  have h2 := encs_ge m.nums
  unfold Mg.bytes
  split at h1 <;> omega
set_option maxRecDepth 100000 in
set_option maxHeartbeats 8000000 in
theorem law_WireBack (validC : ValidC) (putC : PutC) (takeC : TakeC) (m : Mg) (a : Option Addr) (n c : Nat) (l : List Int) (w : World) (hm : m.I) (h : ArgB w a n c l) :
    Calls Try.prog 5 #[m.val, .slice a n c] w fun e w' => e = .returned (.bool true) ∧ Below w.heap.size w w' := by
  obtain ⟨hr, hnc, hcx, hB⟩ := h
  have hB' : isB l := fun x hx => hB x hx
  have HBl := Lib.hid hB'
  have HL : Hid (l.length = n) := Lib.hid (by have := hr.1; simpa using this)
  have HR := Lib.hid hr
  have HW := Lib.hid (fun u => wakes_any putC u)
  have HVa := Lib.hid validC
  have HPu := Lib.hid putC
  have HTa := Lib.hid takeC
  have HM := Lib.hid hm
  have HV := Lib.hid (fun u => validC m u hm)
  have HP := Lib.hid (fun u => putC none 0 0 [] m u Reads.none_ (Nat.le_refl _) (fun c hc => by cases hc) (by omega) hm)
  have HPl := Lib.hid m.put_len
  have HP4 := Lib.hid (bytes_four m)
  have HPp : Hid (m.put = if m.Be then m.bytes else []) := Lib.hid rfl
  have HBb : Hid (m.Be → isB m.bytes) := Lib.hid isB_bytes
  have HTp : Hid (m.Be → ∀ r, wtake (m.bytes ++ r) = (m, m.bytes.length, 0)) := Lib.hid (fun h r => wtake_put h r)
  have HTs : Hid (m.Be → ∀ i, i < m.bytes.length → wtake (m.bytes.take i) = (Mg.zero, 0, 30)) := Lib.hid (fun h i hi => wtake_short h i hi)
  obtain ⟨t, ht⟩ : ∃ t, t = decide m.Be := ⟨_, rfl⟩
  rw [← ht] at HV
  have HTt := Lib.hid ht
  clear hr hB hB' hm ht putC validC takeC
  obtain ⟨q, hq⟩ : ∃ q, q = m.bytes := ⟨_, rfl⟩
  rw [← hq] at HP4 HPp HBb HTp HTs
  clear hq
  obtain ⟨k, o, d, u, v⟩ := m
  unfold Mg.val at HP HV ⊢
  simp only at HP HV ⊢
  go_enter Try.func5, Try.ntmps5
  obtain ⟨p, hp⟩ : ∃ p, p = w.heap.size := ⟨_, rfl⟩
  obtain ⟨w1, hw1⟩ : ∃ w1, w1 = w.alloc (.cells #[.int .i64 k, .int .i64 o, .int .i64 d, .int .i64 u, .int .i64 v] 24) := ⟨_, rfl⟩
  have hb1 : Below w.heap.size w w1 := hw1 ▸ (Below.refl _ _).alloc (Nat.le_refl _) _
  have HK1 : Hid (Blk w1 p 24 #[.int .i64 k, .int .i64 o, .int .i64 d, .int .i64 u, .int .i64 v]) := Lib.hid (by rw [hw1, hp]; exact Blk.new w _ _)
  have HB1 := Lib.hid hb1
  go_wp2_with fail
  rw [← hw1, ← hp]
  clear hw1 hp hb1
  refine (HW.out w1).mono ?_
  rintro e w2 ⟨rfl, hb⟩
  have HB2 := Lib.hid (HB1.out.trans (hb.mono HB1.out.size))
  have HK2 := Lib.hid (HK1.out.below hb HK1.out.lt)
  obtain ⟨x0, x1, x2, x3, x4⟩ := cells5 HK2.out
  clear hb HB1 HK1
  go_wp2_with fail
  refine (HV.out w2).mono ?_
  rintro e w3 ⟨rfl, hb⟩
  have HB3 := Lib.hid (HB2.out.trans (hb.mono HB2.out.size))
  have HK3 := Lib.hid (HK2.out.below hb HK2.out.lt)
  obtain ⟨y0, y1, y2, y3, y4⟩ := cells5 HK3.out
  clear hb HB2 HK2
  cases t
  case true =>
    have HBe := Lib.hid (of_decide_eq_true HTt.out.symm)
    have HPq := Lib.hid (HPp.out.trans (if_pos HBe.out))
    go_wp2_with fail
    refine (HP.out w3).mono ?_
    rintro e w4 ⟨vv, rfl, ho, hb⟩
    rw [HPq.out, List.nil_append] at ho
    obtain ⟨A4, n4, c4, rfl⟩ := own_slice ho
    have hl4 := own_len ho
    have hn4 : 4 ≤ n4 := by have := HP4.out; omega
    have hm4 : n4 ≤ 45 := by have h1 := HPl.out; rw [HPq.out] at h1; omega
    have hc4 : n4 ≤ c4 := hl4.2
    have HE4 := Lib.hid hl4.1
    have HO4 := Lib.hid ho
    have HB4 := Lib.hid (HB3.out.trans (hb.mono HB3.out.size))
    have HK4 := Lib.hid (HK3.out.below hb HK3.out.lt)
    obtain ⟨z0, z1, z2, z3, z4⟩ := cells5 HK4.out
    have HR4 := Lib.hid ((HR.out.below HB4.out).more HB4.out.size)
    have HRo := Lib.hid (own_reads ho)
    clear hb ho hl4 HB3 HK3
    have kc := fun (w : World) => run_cut3 (P := Try.prog) Try.underlying22 (by kernel_rfl) A4 n4 c4 n4 hc4 w
    have h4i : (n4 : Int) ≤ (c4 : Int) := by omega
    go_wp2_with (at_builtin; refine appCut w4 rfl (.tmp 25) (.tmp 26) rfl w4.heap.size A4 n4 q rfl HRo.out HRo.out.nil w4.heap.size a n c l rfl HR4.out (by omega) (Nat.le_refl _) ?_; intro v5 w5 hv5 hb5; obtain ⟨A5, n5, c5, rfl, hc5, hn5, hr5⟩ := hv5; have HB5 := Lib.hid (HB4.out.trans (hb5.mono HB4.out.size)); have HK5 := Lib.hid (HK4.out.below hb5 HK4.out.lt); have HO5 := Lib.hid (HO4.out.keep hb5 (Nat.le_refl _)); have HR5 := Lib.hid hr5; have HN5 := Lib.hid hn5; clear hb5 hr5 hn5)
    have hn52 : n5 ≤ 281474976710656 := by have h1 := HN5.out; rw [List.length_append, HE4.out, HL.out] at h1; omega
    have HTk := Lib.hid (HTa.out A5 n5 c5 (q ++ l) w5 w5.heap.size HR5.out hc5 (isB_app (HBb.out HBe.out) HBl.out) (by omega))
    rw [HTp.out HBe.out l, HE4.out] at HTk
    unfold Mg.val at HTk
    simp only at HTk
    refine HTk.out.mono ?_
    rintro e w6 ⟨rfl, hb6⟩
    have HB6 := Lib.hid (HB5.out.trans (hb6.mono HB5.out.size))
    have HK6 := Lib.hid (HK5.out.below hb6 HK5.out.lt)
    have HO6 := Lib.hid (HO5.out.keep hb6 (Nat.le_refl _))
    have hpl : p < w6.heap.size := HK6.out.lt
    have ke : ∀ W : World, (Op.equalIn 10000 24 (.agg #[.int .i64 k, .int .i64 o, .int .i64 d, .int .i64 u, .int .i64 v]) (.agg #[.int .i64 k, .int .i64 o, .int .i64 d, .int .i64 u, .int .i64 v])).run Try.prog W = .ok true W := fun W => by rw [eq_msg]; simp
    obtain ⟨v0, v1, v2, v3, v4⟩ := cells5 HK6.out
    obtain ⟨w7, hw7⟩ : ∃ w7, w7 = w6.alloc (.cells #[.int .i64 k, .int .i64 o, .int .i64 d, .int .i64 u, .int .i64 v] 24) := ⟨_, rfl⟩
    have hb7 : Below w6.heap.size w6 w7 := hw7 ▸ (Below.refl _ _).alloc (Nat.le_refl _) _
    have HB7 := Lib.hid (HB6.out.trans (hb7.mono HB6.out.size))
    have HO7 := Lib.hid (HO6.out.keep hb7 (Nat.le_refl _))
    have HW7 := Lib.hid hw7
    clear hw7 hb7 hb6 HTk HK5 HB5 HO5 HR5 HK4 HB4
    go_wp2
    rw [← HW7.out]
    go_loopw [8, 9] (fun _ j wr => ∃ i : Nat, j = .int .i64 i ∧ i ≤ n4 ∧ Below w7.heap.size w7 wr) (fun _ j _ => n4 - (intOf j).toNat)
    case atStart => exact ⟨0, rfl, by omega, Below.refl _ _⟩
    case round =>
      obtain ⟨i, rfl, hi, hb⟩ := hrel
      obtain ⟨w8, rfl⟩ : ∃ w8 : World, w8 = wr := ⟨_, rfl⟩
      have HB8 := Lib.hid (HB7.out.trans (hb.mono HB7.out.size))
      have HB78 := Lib.hid hb
      have HO8 := Lib.hid (HO7.out.keep hb (Nat.le_refl _))
      clear hb
      by_cases hlt : i < n4
      · have kc := fun (w : World) => run_head (P := Try.prog) Try.underlying22 (by kernel_rfl) A4 n4 c4 i (by omega) w
        have hii : (i : Int) ≤ (c4 : Int) := by omega
        have HTk := Lib.hid (HTa.out A4 i c4 (q.take i) w8 w8.heap.size ((own_reads HO8.out).take (by omega)) (by omega) (fun x hx => HBb.out HBe.out x (List.mem_of_mem_take hx)) (by omega))
        rw [HTs.out HBe.out i (by rw [HE4.out]; exact hlt)] at HTk
        unfold Mg.val Mg.zero at HTk
        simp only at HTk
        go_wp2_with fail
        refine HTk.out.mono ?_
        rintro e w9 ⟨rfl, hb9⟩
        have HB79 := Lib.hid (HB78.out.trans (hb9.mono HB78.out.size))
        clear hb9 HTk
        go_wp2
        go_roundw
        case rel => exact ⟨i + 1, by go_num, by omega, HB79.out⟩
        case measure => simp [intOf]; omega
      · obtain rfl : n4 = i := by omega
        clear HO8 HO7 HB78
        have HRt := Lib.hid ((HR.out.below HB8.out).more HB8.out.size)
        have HTk := Lib.hid (HTa.out a n c l w8 w8.heap.size HRt.out hnc HBl.out (by omega))
        rcases wtake_cases l HBl.out with ⟨M, hM, hw, hml, hme⟩ | ⟨e0, hw, he⟩
        case inl =>
          rw [hw] at HTk
          have HMB := Lib.hid hM
          have HMe := Lib.hid hme
          have hM4 := bytes_four M
          have hMn : M.bytes.length ≤ n := by rw [← HL.out]; exact hml
          have HVm := Lib.hid (fun u => HVa.out M u hM.i)
          rw [decide_eq_true hM] at HVm
          have HPm := Lib.hid (fun u => HPu.out none 0 0 [] M u Reads.none_ (Nat.le_refl _) (fun c hc => by cases hc) (by omega) hM.i)
          have HMp : Hid (M.put = M.bytes) := Lib.hid (if_pos hM)
          obtain ⟨z, hz⟩ : ∃ z, z = M.bytes.length := ⟨_, rfl⟩
          obtain ⟨r, hr⟩ : ∃ r, r = M.bytes := ⟨_, rfl⟩
          rw [← hz] at HTk HMe hM4 hMn
          rw [← hr] at HMe HMp
          have HZ : Hid (r.length = z) := Lib.hid (by rw [hr, hz])
          clear hw hM hml hme hz hr
          obtain ⟨k', o', d', u', v'⟩ := M
          unfold Mg.val at HTk HVm HPm
          simp only at HTk HVm HPm
          go_wp2_with fail
          refine HTk.out.mono ?_
          rintro e wt ⟨rfl, hbt⟩
          have HBt := Lib.hid (HB8.out.trans (hbt.mono HB8.out.size))
          obtain ⟨g, hg⟩ : ∃ g, g = wt.heap.size := ⟨_, rfl⟩
          obtain ⟨wx, hwx⟩ : ∃ wx, wx = wt.alloc (.cells #[.int .i64 k', .int .i64 o', .int .i64 d', .int .i64 u', .int .i64 v'] 24) := ⟨_, rfl⟩
          have hbx : Below wt.heap.size wt wx := hwx ▸ (Below.refl _ _).alloc (Nat.le_refl _) _
          have HKx : Hid (Blk wx g 24 #[.int .i64 k', .int .i64 o', .int .i64 d', .int .i64 u', .int .i64 v']) := Lib.hid (by rw [hwx, hg]; exact Blk.new wt _ _)
          have HBx := Lib.hid (HBt.out.trans (hbx.mono HBt.out.size))
          have X0 := cells5 HKx.out
          have kt := fun (w : World) => run_head (P := Try.prog) Try.underlying22 (by kernel_rfl) a n c z (by omega) w
          have hzc : (z : Int) ≤ (c : Int) := by omega
          have hz0 : 0 < z := by omega
          clear hbt HTk hbx
          go_wp2_with fail
          rw [← hwx, ← hg]
          clear hwx hg
          go_region_held3 (fun w' => w'.cell? ⟨g, 0, none⟩ = some (.int .i64 k') ∧ w'.cell? ⟨g, 1, none⟩ = some (.int .i64 o') ∧ w'.cell? ⟨g, 2, none⟩ = some (.int .i64 d') ∧ w'.cell? ⟨g, 3, none⟩ = some (.int .i64 u') ∧ w'.cell? ⟨g, 4, none⟩ = some (.int .i64 v')) (first | exact X0 | exact X1 | exact X2 | go_keep) (first
            | (go_at_call 10; go_must (refine (HVm.out _).mono ?_; rintro e w10 ⟨rfl, hb⟩; have H10 : Hid (Below wx.heap.size wx w10) := Lib.hid (by first | exact hb | exact below_by hb); have X1 := cells5 (HKx.out.below H10.out HKx.out.lt); clear hb))
            | (go_at_call 13; go_must (refine (HPm.out _).mono ?_; rintro e w11 ⟨vv, rfl, ho, hb⟩; obtain ⟨A11, n11, c11, rfl⟩ := own_slice ho; rw [HMp.out, List.nil_append] at ho; obtain rfl : z = n11 := (by have h1 := (own_len ho).1; have := HZ.out; omega); have HO11 := Lib.hid ho; have H11 : Hid (Below wx.heap.size wx w11) := Lib.hid (by first | exact H10.out.trans (hb.mono H10.out.size) | exact (below_drewN H10.out _).trans (hb.mono H10.out.size)); have X2 := cells5 (HKx.out.below H11.out HKx.out.lt); clear hb ho))
            | (go_at_call 12; go_must ((first | refine (same_any A11 a z c11 z c r (l.take z) w11 w11.heap.size w11.heap.size (own_reads HO11.out) (((HR.out.below (HBx.out.trans (H11.out.mono HBx.out.size))).more (Nat.le_trans HBx.out.size H11.out.size)).take hMn) (by omega)).mono ?_ | refine (same_any A11 a z c11 z c r (l.take z) (w11.drewN _) w11.heap.size w11.heap.size (own_reads HO11.out) (((HR.out.below (HBx.out.trans (H11.out.mono HBx.out.size))).more (Nat.le_trans HBx.out.size H11.out.size)).take hMn) (by omega)).mono ?_); rw [decide_eq_true HMe.out]; rintro e w12 ⟨rfl, k12, rfl⟩)))
          all_goals
            go_wp2
            go_ret
            exact ⟨rfl, by
              refine HBx.out.trans (Below.mono ?_ HBx.out.size)
              repeat' (first | exact H11.out | refine below_drewN ?_ _)⟩
        case inr =>
          rw [hw] at HTk
          clear hw
          unfold Mg.val Mg.zero at HTk
          simp only at HTk
          go_wp2_with fail
          refine HTk.out.mono ?_
          rintro e wt ⟨rfl, hbt⟩
          have HBt := Lib.hid (HB8.out.trans (hbt.mono HB8.out.size))
          clear hbt HTk
          have kz : ∀ W : World, (Op.equalIn 10000 24 (.agg #[.int .i64 0, .int .i64 0, .int .i64 0, .int .i64 0, .int .i64 0]) (.agg #[.int .i64 0, .int .i64 0, .int .i64 0, .int .i64 0, .int .i64 0])).run Try.prog W = .ok true W := fun W => by rw [eq_msg]; simp
          rcases he with rfl | rfl
          all_goals
            go_wp2
            go_ret
            exact ⟨rfl, HBt.out.alloc HBt.out.size _⟩
  case false =>
    have HRt := Lib.hid ((HR.out.below HB3.out).more HB3.out.size)
    have HTk := Lib.hid (HTa.out a n c l w3 w3.heap.size HRt.out hnc HBl.out (by omega))
    rcases wtake_cases l HBl.out with ⟨M, hM, hw, hml, hme⟩ | ⟨e0, hw, he⟩
    case inl =>
      rw [hw] at HTk
      have HMB := Lib.hid hM
      have HMe := Lib.hid hme
      have hM4 := bytes_four M
      have hMn : M.bytes.length ≤ n := by rw [← HL.out]; exact hml
      have HVm := Lib.hid (fun u => HVa.out M u hM.i)
      rw [decide_eq_true hM] at HVm
      have HPm := Lib.hid (fun u => HPu.out none 0 0 [] M u Reads.none_ (Nat.le_refl _) (fun c hc => by cases hc) (by omega) hM.i)
      have HMp : Hid (M.put = M.bytes) := Lib.hid (if_pos hM)
      obtain ⟨z, hz⟩ : ∃ z, z = M.bytes.length := ⟨_, rfl⟩
      obtain ⟨r, hr⟩ : ∃ r, r = M.bytes := ⟨_, rfl⟩
      rw [← hz] at HTk HMe hM4 hMn
      rw [← hr] at HMe HMp
      have HZ : Hid (r.length = z) := Lib.hid (by rw [hr, hz])
      clear hw hM hml hme hz hr
      obtain ⟨k', o', d', u', v'⟩ := M
      unfold Mg.val at HTk HVm HPm
      simp only at HTk HVm HPm
      go_wp2_with fail
      refine HTk.out.mono ?_
      rintro e wt ⟨rfl, hbt⟩
      have HBt := Lib.hid (HB3.out.trans (hbt.mono HB3.out.size))
      obtain ⟨g, hg⟩ : ∃ g, g = wt.heap.size := ⟨_, rfl⟩
      obtain ⟨wx, hwx⟩ : ∃ wx, wx = wt.alloc (.cells #[.int .i64 k', .int .i64 o', .int .i64 d', .int .i64 u', .int .i64 v'] 24) := ⟨_, rfl⟩
      have hbx : Below wt.heap.size wt wx := hwx ▸ (Below.refl _ _).alloc (Nat.le_refl _) _
      have HKx : Hid (Blk wx g 24 #[.int .i64 k', .int .i64 o', .int .i64 d', .int .i64 u', .int .i64 v']) := Lib.hid (by rw [hwx, hg]; exact Blk.new wt _ _)
      have HBx := Lib.hid (HBt.out.trans (hbx.mono HBt.out.size))
      have X0 := cells5 HKx.out
      have kt := fun (w : World) => run_head (P := Try.prog) Try.underlying22 (by kernel_rfl) a n c z (by omega) w
      have hzc : (z : Int) ≤ (c : Int) := by omega
      have hz0 : 0 < z := by omega
      clear hbt HTk hbx
      go_wp2_with fail
      rw [← hwx, ← hg]
      clear hwx hg
      go_region_held3 (fun w' => w'.cell? ⟨g, 0, none⟩ = some (.int .i64 k') ∧ w'.cell? ⟨g, 1, none⟩ = some (.int .i64 o') ∧ w'.cell? ⟨g, 2, none⟩ = some (.int .i64 d') ∧ w'.cell? ⟨g, 3, none⟩ = some (.int .i64 u') ∧ w'.cell? ⟨g, 4, none⟩ = some (.int .i64 v')) (first | exact X0 | exact X1 | exact X2 | go_keep) (first
        | (go_at_call 10; go_must (refine (HVm.out _).mono ?_; rintro e w10 ⟨rfl, hb⟩; have H10 : Hid (Below wx.heap.size wx w10) := Lib.hid (by first | exact hb | exact below_by hb); have X1 := cells5 (HKx.out.below H10.out HKx.out.lt); clear hb))
        | (go_at_call 13; go_must (refine (HPm.out _).mono ?_; rintro e w11 ⟨vv, rfl, ho, hb⟩; obtain ⟨A11, n11, c11, rfl⟩ := own_slice ho; rw [HMp.out, List.nil_append] at ho; obtain rfl : z = n11 := (by have h1 := (own_len ho).1; have := HZ.out; omega); have HO11 := Lib.hid ho; have H11 : Hid (Below wx.heap.size wx w11) := Lib.hid (by first | exact H10.out.trans (hb.mono H10.out.size) | exact (below_drewN H10.out _).trans (hb.mono H10.out.size)); have X2 := cells5 (HKx.out.below H11.out HKx.out.lt); clear hb ho))
        | (go_at_call 12; go_must ((first | refine (same_any A11 a z c11 z c r (l.take z) w11 w11.heap.size w11.heap.size (own_reads HO11.out) (((HR.out.below (HBx.out.trans (H11.out.mono HBx.out.size))).more (Nat.le_trans HBx.out.size H11.out.size)).take hMn) (by omega)).mono ?_ | refine (same_any A11 a z c11 z c r (l.take z) (w11.drewN _) w11.heap.size w11.heap.size (own_reads HO11.out) (((HR.out.below (HBx.out.trans (H11.out.mono HBx.out.size))).more (Nat.le_trans HBx.out.size H11.out.size)).take hMn) (by omega)).mono ?_); rw [decide_eq_true HMe.out]; rintro e w12 ⟨rfl, k12, rfl⟩)))
      all_goals
        go_wp2
        go_ret
        exact ⟨rfl, by
          refine HBx.out.trans (Below.mono ?_ HBx.out.size)
          repeat' (first | exact H11.out | refine below_drewN ?_ _)⟩
    case inr =>
      rw [hw] at HTk
      clear hw
      unfold Mg.val Mg.zero at HTk
      simp only at HTk
      go_wp2_with fail
      refine HTk.out.mono ?_
      rintro e wt ⟨rfl, hbt⟩
      have HBt := Lib.hid (HB3.out.trans (hbt.mono HB3.out.size))
      clear hbt HTk
      have kz : ∀ W : World, (Op.equalIn 10000 24 (.agg #[.int .i64 0, .int .i64 0, .int .i64 0, .int .i64 0, .int .i64 0]) (.agg #[.int .i64 0, .int .i64 0, .int .i64 0, .int .i64 0, .int .i64 0])).run Try.prog W = .ok true W := fun W => by rw [eq_msg]; simp
      rcases he with rfl | rfl
      all_goals
        go_wp2
        go_ret
        exact ⟨rfl, HBt.out.alloc HBt.out.size _⟩
end Go.Proofs.Ytdfjgfonbbgfcaa.Pk
