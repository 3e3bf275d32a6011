/- The walk of the law GramBack. -/
import Derived.Test.YtmegpbejknmjbaaDoorGmWakes
import Derived.Test.YtmegpbejknmjbaaDoorGmArgs
import Derived.Test.YtmegpbejknmjbaaDoorGmEq
import Derived.Deep.RegionHeld3
import Derived.Deep.DeepMust
namespace Go.Proofs.YtmegpbejknmjbaaDoor.Pk
open Go.RowKit Go.Proofs.YtmegpbejknmjbaaDoor.Ar Go.Proofs.YtmegpbejknmjbaaDoor.Crc
set_option linter.unusedVariables false
set_option maxRecDepth 100000 in
set_option maxHeartbeats 8000000 in
theorem law_GramBack (validG : ValidG) (putG : PutG) (takeG : TakeG) (encG : EncG) (decG : DecG) (m : Gm) (a : Option Addr) (n c : Nat) (l : List Int) (w : World) (ht : Tab w) (hm : m.I) (h : ArgB w a n c l) :
    Calls Tryd.prog 5 #[m.val, .slice a n c] w fun e w' => e = .returned (.bool true) ∧ Below w.heap.size w w' := by
  obtain ⟨hr, hnc, hcx, hB⟩ := h
  have hB' : isB l := fun x hx => hB x hx
  have HBl := Lib.hid hB'
  have HTb := Lib.hid ht
  have HL : Hid (l.length = n) := Lib.hid (by have := hr.1; simpa using this)
  have HR := Lib.hid hr
  have HW := Lib.hid (fun u h => wakes_any encG u h)
  have HVa := Lib.hid validG
  have HEa := Lib.hid encG
  have HTa := Lib.hid takeG
  have HDa := Lib.hid decG
  have HV := Lib.hid (fun u => validG m u hm)
  have HP := Lib.hid (fun u => putG none 0 0 [] m u Reads.none_ (Nat.le_refl _) (fun c hc => by cases hc) (by omega) hm)
  have HE := Lib.hid (fun u h => encG m u h hm)
  have HPl := Lib.hid m.bytes_len
  have HAl := Lib.hid (gall_len m)
  have HP4 := Lib.hid (@gbytes_pos m)
  have HPp : Hid (m.put = if m.Be then m.bytes else []) := Lib.hid rfl
  have HBb : Hid (m.Be → isB m.bytes) := Lib.hid isB_gbytes
  have HBa : Hid (m.Be → isB m.all) := Lib.hid isB_gall
  have HEp : Hid (m.Be → genc m = (m.all, 0)) := Lib.hid (fun h => if_pos h)
  have HDp : Hid (m.Be → gdec m.all = (m, 0)) := Lib.hid gdec_all
  have HTs : Hid (m.Be → ∀ i, i < m.bytes.length → gtake (m.bytes.take i) = (Gm.zero, 0, 30)) := Lib.hid (fun h i hi => gtake_short h i hi)
  obtain ⟨y, hy⟩ : ∃ y, y = decide m.Be := ⟨_, rfl⟩
  rw [← hy] at HV
  have HTt := Lib.hid hy
  clear hr hB hB' hm hy ht putG validG takeG encG decG
  obtain ⟨q, hq⟩ : ∃ q, q = m.bytes := ⟨_, rfl⟩
  obtain ⟨Q, hQ⟩ : ∃ Q, Q = m.all := ⟨_, rfl⟩
  rw [← hq] at HP4 HPp HBb HTs HPl HAl
  rw [← hQ] at HAl HBa HEp HDp
  clear hq hQ
  obtain ⟨f, t, b, s, ⟨k, o, d, u, v⟩⟩ := m
  unfold Gm.val at HP HV HE ⊢
  simp only at HP HV HE ⊢
  go_enter Tryd.func5, Tryd.ntmps5
  obtain ⟨p, hp⟩ : ∃ p, p = w.heap.size := ⟨_, rfl⟩
  obtain ⟨w1, hw1⟩ : ∃ w1, w1 = w.alloc (.cells #[.int .i64 f, .int .i64 t, .int .i64 b, .int .i64 s, .int .i64 k, .int .i64 o, .int .i64 d, .int .i64 u, .int .i64 v] 26) := ⟨_, rfl⟩
  have hb1 : Below w.heap.size w w1 := hw1 ▸ (Below.refl _ _).alloc (Nat.le_refl _) _
  have HK1 : Hid (Blk w1 p 26 #[.int .i64 f, .int .i64 t, .int .i64 b, .int .i64 s, .int .i64 k, .int .i64 o, .int .i64 d, .int .i64 u, .int .i64 v]) := Lib.hid (by rw [hw1, hp]; exact Blk.new w _ _)
  have HB1 := Lib.hid hb1
  have ke : ∀ W : World, (Op.equalIn 10000 26 (.agg #[.int .i64 f, .int .i64 t, .int .i64 b, .int .i64 s, .int .i64 k, .int .i64 o, .int .i64 d, .int .i64 u, .int .i64 v]) (.agg #[.int .i64 f, .int .i64 t, .int .i64 b, .int .i64 s, .int .i64 k, .int .i64 o, .int .i64 d, .int .i64 u, .int .i64 v])).run Tryd.prog W = .ok true W := fun W => by rw [eq_gram]; simp
  have kz : ∀ W : World, (Op.equalIn 10000 26 (.agg #[.int .i64 0, .int .i64 0, .int .i64 0, .int .i64 0, .int .i64 0, .int .i64 0, .int .i64 0, .int .i64 0, .int .i64 0]) (.agg #[.int .i64 0, .int .i64 0, .int .i64 0, .int .i64 0, .int .i64 0, .int .i64 0, .int .i64 0, .int .i64 0, .int .i64 0])).run Tryd.prog W = .ok true W := fun W => by rw [eq_gram]; simp
  go_wp2_with fail
  rw [← hw1, ← hp]
  clear hw1 hp hb1
  refine (HW.out w1 (HTb.out.next HB1.out)).mono ?_
  rintro e w2 ⟨rfl, hb⟩
  have HB2 := Lib.hid (HB1.out.trans (hb.mono HB1.out.size))
  have HK2 := Lib.hid (HK1.out.below hb HK1.out.lt)
  obtain ⟨x0_, x1_, x2_, x3_, x4_, x5_, x6_, x7_, x8_⟩ := cells9 HK2.out
  clear hb HB1 HK1
  go_wp2_with fail
  refine (HV.out w2).mono ?_
  rintro e w3 ⟨rfl, hb⟩
  have HB3 := Lib.hid (HB2.out.trans (hb.mono HB2.out.size))
  have HK3 := Lib.hid (HK2.out.below hb HK2.out.lt)
  obtain ⟨y0_, y1_, y2_, y3_, y4_, y5_, y6_, y7_, y8_⟩ := cells9 HK3.out
  clear hb HB2 HK2
  cases y
  case true =>
    have HBe := Lib.hid (of_decide_eq_true HTt.out.symm)
    have HPq := Lib.hid (HPp.out.trans (if_pos HBe.out))
    rw [HEp.out HBe.out] at HE
    go_wp2_with fail
    refine (HE.out w3 (HTb.out.next HB3.out)).mono ?_
    rintro e w4 ⟨vv, rfl, ho, hb⟩
    obtain ⟨A4, n4, c4, rfl⟩ := own_slice ho
    have hl4 := own_len ho
    have hm4 : n4 ≤ 85 := by have := HPl.out; have := HAl.out; omega
    have hc4 : n4 ≤ c4 := hl4.2
    have HB4 := Lib.hid (HB3.out.trans (hb.mono HB3.out.size))
    have HK4 := Lib.hid (HK3.out.below hb HK3.out.lt)
    obtain ⟨z0_, z1_, z2_, z3_, z4_, z5_, z6_, z7_, z8_⟩ := cells9 HK4.out
    have HO4 := Lib.hid (own_reads ho)
    have HDk := Lib.hid (HDa.out A4 n4 c4 Q w4 w4.heap.size (HTb.out.next HB4.out) HO4.out hc4 (HBa.out HBe.out) (by omega))
    rw [HDp.out HBe.out] at HDk
    unfold Gm.val at HDk
    simp only at HDk
    clear hb ho hl4 HB3 HK3 y0_ y1_ y2_ y3_ y4_ y5_ y6_ y7_ y8_
    go_wp2_with fail
    refine HDk.out.mono ?_
    rintro e w5 ⟨rfl, hb⟩
    have HB5 := Lib.hid (HB4.out.trans (hb.mono HB4.out.size))
    have HK5 := Lib.hid (HK4.out.below hb HK4.out.lt)
    have hpl : p < w5.heap.size := HK5.out.lt
    obtain ⟨y0_, y1_, y2_, y3_, y4_, y5_, y6_, y7_, y8_⟩ := cells9 HK5.out
    obtain ⟨w6, hw6⟩ : ∃ w6, w6 = w5.alloc (.cells #[.int .i64 f, .int .i64 t, .int .i64 b, .int .i64 s, .int .i64 k, .int .i64 o, .int .i64 d, .int .i64 u, .int .i64 v] 26) := ⟨_, rfl⟩
    have hb6 : Below w5.heap.size w5 w6 := hw6 ▸ (Below.refl _ _).alloc (Nat.le_refl _) _
    have HB6 := Lib.hid (HB5.out.trans (hb6.mono HB5.out.size))
    have HK6 := Lib.hid (HK5.out.below hb6 HK5.out.lt)
    have HW6 := Lib.hid hw6
    clear hb hb6 hw6 HDk z0_ z1_ z2_ z3_ z4_ z5_ z6_ z7_ z8_
    go_wp2_with fail
    rw [← HW6.out]
    refine (HP.out w6).mono ?_
    rintro e w7 ⟨vv, rfl, ho, hb⟩
    rw [HPq.out, List.nil_append] at ho
    obtain ⟨A7, n7, c7, rfl⟩ := own_slice ho
    have hl7 := own_len ho
    have hm7 : n7 ≤ 81 := by have := HPl.out; omega
    have hc7 : n7 ≤ c7 := hl7.2
    have HE7 := Lib.hid hl7.1
    have HO7 := Lib.hid ho
    have HB7 := Lib.hid (HB6.out.trans (hb.mono HB6.out.size))
    clear hb ho hl7 HB6 HK6 y0_ y1_ y2_ y3_ y4_ y5_ y6_ y7_ y8_
    go_wp2
    go_loopw [10] (fun j wr => ∃ i : Nat, j = .int .i64 i ∧ i ≤ n7 ∧ Below w7.heap.size w7 wr) (fun j _ => n7 - (intOf j).toNat)
    case atStart => exact ⟨0, rfl, by omega, Below.refl _ _⟩
    case round =>
      obtain ⟨i, rfl, hi, hb⟩ := hrel
      obtain ⟨w8, rfl⟩ : ∃ w8 : World, w8 = wr := ⟨_, rfl⟩
      have HB8 := Lib.hid (HB7.out.trans (hb.mono HB7.out.size))
      have HB78 := Lib.hid hb
      have HO8 := Lib.hid (HO7.out.keep hb (Nat.le_refl _))
      clear hb
      by_cases hlt : i < n7
      · have kc := fun (w : World) => run_head (P := Tryd.prog) Tryd.underlying22 (by kernel_rfl) A7 n7 c7 i (by omega) w
        have hii : (i : Int) ≤ (c7 : Int) := by omega
        have HTk := Lib.hid (HTa.out A7 i c7 (q.take i) w8 w8.heap.size ((own_reads HO8.out).take (by omega)) (by omega) (fun x hx => HBb.out HBe.out x (List.mem_of_mem_take hx)) (by omega))
        rw [HTs.out HBe.out i (by rw [HE7.out]; exact hlt)] at HTk
        unfold Gm.val Gm.zero Mg.zero at HTk
        simp only at HTk
        go_wp2_with fail
        refine HTk.out.mono ?_
        rintro e w9 ⟨rfl, hb9⟩
        have HB79 := Lib.hid (HB78.out.trans (hb9.mono HB78.out.size))
        clear hb9 HTk
        go_wp2
        go_roundw
        case rel => exact ⟨i + 1, by go_num, by omega, HB79.out.alloc HB79.out.size _⟩
        case measure => simp [intOf]; omega
      · obtain rfl : n7 = i := by omega
        clear HO8 HO7 HB78
        have HRt := Lib.hid ((HR.out.below HB8.out).more HB8.out.size)
        have HDk := Lib.hid (HDa.out a n c l w8 w8.heap.size (HTb.out.next HB8.out) HRt.out hnc HBl.out (by omega))
        rcases gdec_cases l HBl.out with ⟨M, hM, hw, hml⟩ | ⟨e0, hw, he⟩
        case inl =>
          rw [hw] at HDk
          have HVm := Lib.hid (fun u => HVa.out M u hM.i)
          rw [decide_eq_true hM] at HVm
          have HEm := Lib.hid (fun u h => HEa.out M u h hM.i)
          rw [show genc M = (M.all, 0) from if_pos hM, ← hml] at HEm
          clear hw hM hml
          obtain ⟨f2, t2, b2, s2, ⟨k2, o2, d2, u2, v2⟩⟩ := M
          unfold Gm.val at HDk HVm HEm
          simp only at HDk HVm HEm
          go_wp2_with fail
          refine HDk.out.mono ?_
          rintro e wt ⟨rfl, hbt⟩
          have HBt := Lib.hid (HB8.out.trans (hbt.mono HB8.out.size))
          obtain ⟨g, hg⟩ : ∃ g, g = wt.heap.size := ⟨_, rfl⟩
          obtain ⟨wx, hwx⟩ : ∃ wx, wx = wt.alloc (.cells #[.int .i64 f2, .int .i64 t2, .int .i64 b2, .int .i64 s2, .int .i64 k2, .int .i64 o2, .int .i64 d2, .int .i64 u2, .int .i64 v2] 26) := ⟨_, rfl⟩
          have hbx : Below wt.heap.size wt wx := hwx ▸ (Below.refl _ _).alloc (Nat.le_refl _) _
          have HKx : Hid (Blk wx g 26 #[.int .i64 f2, .int .i64 t2, .int .i64 b2, .int .i64 s2, .int .i64 k2, .int .i64 o2, .int .i64 d2, .int .i64 u2, .int .i64 v2]) := Lib.hid (by rw [hwx, hg]; exact Blk.new wt _ _)
          have HBx := Lib.hid (HBt.out.trans (hbx.mono HBt.out.size))
          clear hbt HDk hbx
          go_wp2_with fail
          rw [← hwx, ← hg]
          clear hwx hg
          refine (HEm.out wx (HTb.out.next HBx.out)).mono ?_
          rintro e wy ⟨vv, rfl, ho, hb⟩
          obtain ⟨A11, n11, c11, rfl⟩ := own_slice ho
          have HBy := Lib.hid (HBx.out.trans (hb.mono HBx.out.size))
          have HKy := Lib.hid (HKx.out.below hb HKx.out.lt)
          have HO11 := Lib.hid (own_reads ho)
          have HRy := Lib.hid ((HR.out.below HBy.out).more HBy.out.size)
          have hn11 : n11 = n := by rw [← HL.out]; exact (own_len ho).1.symm
          have HS := Lib.hid (same_any A11 a n11 c11 n c l l wy _ _ HO11.out HRy.out (by omega))
          rw [decide_eq_true rfl] at HS
          clear hb ho hn11
          have X0 := cells9 HKy.out
          go_wp2_with fail
          refine HS.out.mono ?_
          rintro e wz ⟨rfl, k12, hz⟩
          have HBz : Hid (Below w.heap.size w wz) := Lib.hid (by rw [hz]; exact below_drewN HBy.out k12)
          have HKz : Hid (Blk wz g 26 #[.int .i64 f2, .int .i64 t2, .int .i64 b2, .int .i64 s2, .int .i64 k2, .int .i64 o2, .int .i64 d2, .int .i64 u2, .int .i64 v2]) := Lib.hid (by rw [hz]; exact HKy.out.drewN k12)
          clear hz
          obtain ⟨xx0_, xx1_, xx2_, xx3_, xx4_, xx5_, xx6_, xx7_, xx8_⟩ := cells9 HKz.out
          go_wp2_with fail
          refine (HVm.out _).mono ?_
          rintro e w10 ⟨rfl, hb⟩
          have HB10 := Lib.hid (HBz.out.trans (hb.mono HBz.out.size))
          clear hb
          go_wp2
          go_ret
          exact ⟨rfl, HB10.out⟩
        case inr =>
          rw [hw] at HDk
          clear hw
          unfold Gm.val Gm.zero Mg.zero at HDk
          simp only at HDk
          go_wp2_with fail
          refine HDk.out.mono ?_
          rintro e wt ⟨rfl, hbt⟩
          have HBt := Lib.hid (HB8.out.trans (hbt.mono HB8.out.size))
          clear hbt HDk
          rcases he with rfl | rfl | rfl
          all_goals
            go_wp2
            go_ret
            exact ⟨rfl, HBt.out.alloc HBt.out.size _⟩
  case false =>
    have HRt := Lib.hid ((HR.out.below HB3.out).more HB3.out.size)
    have HDk := Lib.hid (HDa.out a n c l w3 w3.heap.size (HTb.out.next HB3.out) HRt.out hnc HBl.out (by omega))
    rcases gdec_cases l HBl.out with ⟨M, hM, hw, hml⟩ | ⟨e0, hw, he⟩
    case inl =>
      rw [hw] at HDk
      have HVm := Lib.hid (fun u => HVa.out M u hM.i)
      rw [decide_eq_true hM] at HVm
      have HEm := Lib.hid (fun u h => HEa.out M u h hM.i)
      rw [show genc M = (M.all, 0) from if_pos hM, ← hml] at HEm
      clear hw hM hml
      obtain ⟨f2, t2, b2, s2, ⟨k2, o2, d2, u2, v2⟩⟩ := M
      unfold Gm.val at HDk HVm HEm
      simp only at HDk HVm HEm
      go_wp2_with fail
      refine HDk.out.mono ?_
      rintro e wt ⟨rfl, hbt⟩
      have HBt := Lib.hid (HB3.out.trans (hbt.mono HB3.out.size))
      obtain ⟨g, hg⟩ : ∃ g, g = wt.heap.size := ⟨_, rfl⟩
      obtain ⟨wx, hwx⟩ : ∃ wx, wx = wt.alloc (.cells #[.int .i64 f2, .int .i64 t2, .int .i64 b2, .int .i64 s2, .int .i64 k2, .int .i64 o2, .int .i64 d2, .int .i64 u2, .int .i64 v2] 26) := ⟨_, rfl⟩
      have hbx : Below wt.heap.size wt wx := hwx ▸ (Below.refl _ _).alloc (Nat.le_refl _) _
      have HKx : Hid (Blk wx g 26 #[.int .i64 f2, .int .i64 t2, .int .i64 b2, .int .i64 s2, .int .i64 k2, .int .i64 o2, .int .i64 d2, .int .i64 u2, .int .i64 v2]) := Lib.hid (by rw [hwx, hg]; exact Blk.new wt _ _)
      have HBx := Lib.hid (HBt.out.trans (hbx.mono HBt.out.size))
      clear hbt HDk hbx
      go_wp2_with fail
      rw [← hwx, ← hg]
      clear hwx hg
      refine (HEm.out wx (HTb.out.next HBx.out)).mono ?_
      rintro e wy ⟨vv, rfl, ho, hb⟩
      obtain ⟨A11, n11, c11, rfl⟩ := own_slice ho
      have HBy := Lib.hid (HBx.out.trans (hb.mono HBx.out.size))
      have HKy := Lib.hid (HKx.out.below hb HKx.out.lt)
      have HO11 := Lib.hid (own_reads ho)
      have HRy := Lib.hid ((HR.out.below HBy.out).more HBy.out.size)
      have hn11 : n11 = n := by rw [← HL.out]; exact (own_len ho).1.symm
      have HS := Lib.hid (same_any A11 a n11 c11 n c l l wy _ _ HO11.out HRy.out (by omega))
      rw [decide_eq_true rfl] at HS
      clear hb ho hn11
      have X0 := cells9 HKy.out
      go_wp2_with fail
      refine HS.out.mono ?_
      rintro e wz ⟨rfl, k12, hz⟩
      have HBz : Hid (Below w.heap.size w wz) := Lib.hid (by rw [hz]; exact below_drewN HBy.out k12)
      have HKz : Hid (Blk wz g 26 #[.int .i64 f2, .int .i64 t2, .int .i64 b2, .int .i64 s2, .int .i64 k2, .int .i64 o2, .int .i64 d2, .int .i64 u2, .int .i64 v2]) := Lib.hid (by rw [hz]; exact HKy.out.drewN k12)
      clear hz
      obtain ⟨xx0_, xx1_, xx2_, xx3_, xx4_, xx5_, xx6_, xx7_, xx8_⟩ := cells9 HKz.out
      go_wp2_with fail
      refine (HVm.out _).mono ?_
      rintro e w10 ⟨rfl, hb⟩
      have HB10 := Lib.hid (HBz.out.trans (hb.mono HBz.out.size))
      clear hb
      go_wp2
      go_ret
      exact ⟨rfl, HB10.out⟩
    case inr =>
      rw [hw] at HDk
      clear hw
      unfold Gm.val Gm.zero Mg.zero at HDk
      simp only at HDk
      go_wp2_with fail
      refine HDk.out.mono ?_
      rintro e wt ⟨rfl, hbt⟩
      have HBt := Lib.hid (HB3.out.trans (hbt.mono HB3.out.size))
      clear hbt HDk
      rcases he with rfl | rfl | rfl
      all_goals
        go_wp2
        go_ret
        exact ⟨rfl, HBt.out.alloc HBt.out.size _⟩
end Go.Proofs.YtmegpbejknmjbaaDoor.Pk
