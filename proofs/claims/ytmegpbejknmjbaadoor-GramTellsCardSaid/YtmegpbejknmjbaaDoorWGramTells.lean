/- The walk of the law GramTells. -/
import Derived.Test.YtmegpbejknmjbaaDoorGmWakes
import Derived.Test.YtmegpbejknmjbaaDoorGmArgs
import Derived.Test.YtmegpbejknmjbaaDoorGmEq
import Derived.Test.YtmegpbejknmjbaaDoorArgM
import Derived.Test.YtmegpbejknmjbaaDoorHold
import Derived.Deep.QuietTactic
import Derived.BigQuiet
import Derived.BigRegion
namespace Go.Proofs.YtmegpbejknmjbaaDoor.Pk
open Go.RowKit Go.Proofs.YtmegpbejknmjbaaDoor.Ar Go.Proofs.YtmegpbejknmjbaaDoor.Crc
set_option linter.unusedVariables false
/-- An element of an array of plain elements by value. -/
theorem run_index_array {P : Program} {t e : TypeId} {n k : Nat} {cs : Array Value} {v : Value} (h : P.underlying t = some (.array n e)) {q : IntKind} (he : P.underlying e = some (.int q)) (hi : (P.info? e).map (·.size) = some 1) (hk : k < n) (hv : cs[k]? = some v) (w : World) :
    (Instr.index t (.agg cs) (.int .i64 (k : Int))).run P w = .ok v w := by
  obtain ⟨i, hi1, hi2⟩ := Option.map_eq_some_iff.1 hi
  simp [Instr.index, run_underlying h, asIntOf, go_sem, sizeOf, typeInfo, hi1, hi2, hk, part, isAgg, run_underlying he, hv]
set_option maxRecDepth 100000 in
set_option maxHeartbeats 8000000 in
theorem law_GramTells (validG : ValidG) (encG : EncG) (decG : DecG) (g : Gm) (i : Int) (mv : Value) (w : World) (ht : Tab w) (hg : g.I) (hi : -9223372036854775808 ≤ i ∧ i ≤ 9223372036854775807) (hm : ∃ ms, ArgM mv ms) :
    Calls Tryd.prog 6 #[g.val, .int .i64 i, mv] w fun e w' => e = .returned (.bool true) ∧ Below w.heap.size w w' := by
  obtain ⟨ms, m0, m1, m2, m3, hms, rfl, hbm⟩ := hm
  have HM : Hid (Bytes ms) := hbm
  have HMS := Lib.hid hms
  have HT := Lib.hid ht
  have HW := Lib.hid (fun u h => wakes_any encG u h)
  have HV := Lib.hid (fun u => validG g u hg)
  have HE := Lib.hid (fun u h => encG g u h hg)
  have HDa := Lib.hid decG
  have HAl : Hid (g.all.length ≤ 85) := Lib.hid (by have := gall_len g; have := g.bytes_len; omega)
  have HBa : Hid (g.Be → isB g.all) := Lib.hid isB_gall
  have HE1 : Hid (g.Be → genc g = (g.all, 0)) := Lib.hid (fun h => if_pos h)
  have HE2 : Hid (¬ g.Be → genc g = ([], 1)) := Lib.hid (fun h => if_neg h)
  have HTu : Hid (g.Be → ∀ (p : Nat), p ≤ g.all.length → ∀ ms : List Int, Bytes ms → ms.length ≤ 4 → gdec (mix g.all (turns g.all.length p ms)) = if some1 (turns g.all.length p ms) = true then (Gm.zero, 32) else (g, 0)) := Lib.hid (fun h p hp ms hm h4 => gdec_turned h hp hm h4)
  obtain ⟨y, hy⟩ : ∃ y, y = decide g.Be := ⟨_, rfl⟩
  rw [← hy] at HV
  have HTt := Lib.hid hy
  obtain ⟨l, hl⟩ : ∃ l, l = g.all := ⟨_, rfl⟩
  rw [← hl] at HAl HBa HE1 HTu
  clear ht hms hbm hg hy hl validG encG decG
  obtain ⟨f, t, b, s, ⟨k, o, d, u, v⟩⟩ := g
  unfold Gm.val at HV HE ⊢
  simp only at HV HE ⊢
  go_enter Tryd.func6, Tryd.ntmps6
  go_wp2_with fail
  obtain ⟨p0, hp0⟩ : ∃ p0, p0 = w.heap.size := ⟨_, rfl⟩
  obtain ⟨r, hr⟩ : ∃ r, r = w.heap.size + 1 := ⟨_, rfl⟩
  obtain ⟨w1, hw1⟩ : ∃ w1, w1 = (w.alloc (.cells #[.int .i64 f, .int .i64 t, .int .i64 b, .int .i64 s, .int .i64 k, .int .i64 o, .int .i64 d, .int .i64 u, .int .i64 v] 26)).alloc (.cells #[.int .u8 m0, .int .u8 m1, .int .u8 m2, .int .u8 m3] 41) := ⟨_, rfl⟩
  have hb1 : Below w.heap.size w w1 := hw1 ▸ ((Below.refl _ _).alloc (Nat.le_refl _) _).alloc (by simp) _
  have HKp1 : Hid (Blk w1 p0 26 #[.int .i64 f, .int .i64 t, .int .i64 b, .int .i64 s, .int .i64 k, .int .i64 o, .int .i64 d, .int .i64 u, .int .i64 v]) := Lib.hid (by rw [hw1, hp0]; exact (Blk.new w _ _).alloc _)
  have HKr1 : Hid (Blk w1 r 41 #[.int .u8 m0, .int .u8 m1, .int .u8 m2, .int .u8 m3]) := Lib.hid (by
    have := Blk.new (w.alloc (.cells #[.int .i64 f, .int .i64 t, .int .i64 b, .int .i64 s, .int .i64 k, .int .i64 o, .int .i64 d, .int .i64 u, .int .i64 v] 26)) 41 #[.int .u8 m0, .int .u8 m1, .int .u8 m2, .int .u8 m3]
    rw [World.size_alloc, ← hr] at this
    rw [hw1]; exact this)
  have HB1 := Lib.hid hb1
  rw [← hw1, ← hr, ← hp0]
  clear hw1 hb1 hr hp0
  refine (HW.out w1 (HT.out.next HB1.out)).mono ?_
  rintro e w2 ⟨rfl, hb⟩
  have HB2 := Lib.hid (HB1.out.trans (hb.mono HB1.out.size))
  have HKp2 := Lib.hid (HKp1.out.below hb HKp1.out.lt)
  have HKr2 := Lib.hid (HKr1.out.below hb HKr1.out.lt)
  obtain ⟨x0_, x1_, x2_, x3_, x4_, x5_, x6_, x7_, x8_⟩ := cells9 HKp2.out
  clear hb HB1 HKp1 HKr1
  go_wp2_with fail
  refine (HE.out w2 (HT.out.next HB2.out)).mono ?_
  rintro e w3 ⟨vv, rfl, ho, hb⟩
  have HB3 := Lib.hid (HB2.out.trans (hb.mono HB2.out.size))
  have HKp3 := Lib.hid (HKp2.out.below hb HKp2.out.lt)
  have HKr3 := Lib.hid (HKr2.out.below hb HKr2.out.lt)
  obtain ⟨y0_, y1_, y2_, y3_, y4_, y5_, y6_, y7_, y8_⟩ := cells9 HKp3.out
  have z0_ : w3.cell? ⟨r, 0, none⟩ = some (.int .u8 m0) := HKr3.out.cell 0
  have z1_ : w3.cell? ⟨r, 1, none⟩ = some (.int .u8 m1) := HKr3.out.cell 1
  have z2_ : w3.cell? ⟨r, 2, none⟩ = some (.int .u8 m2) := HKr3.out.cell 2
  have z3_ : w3.cell? ⟨r, 3, none⟩ = some (.int .u8 m3) := HKr3.out.cell 3
  have hs23 : w2.heap.size ≤ w3.heap.size := hb.size
  clear hb x0_ x1_ x2_ x3_ x4_ x5_ x6_ x7_ x8_
  cases y
  case false =>
    rw [HE2.out (of_decide_eq_false HTt.out.symm)] at ho ⊢
    clear ho
    go_wp2_with fail
    refine (HV.out w3).mono ?_
    rintro e w4 ⟨rfl, hb⟩
    have HB4 := Lib.hid (HB3.out.trans (hb.mono HB3.out.size))
    clear hb
    go_wp2
    go_ret
    exact ⟨rfl, HB4.out⟩
  case true =>
  have HBe := Lib.hid (of_decide_eq_true HTt.out.symm)
  rw [HE1.out HBe.out] at ho ⊢
  have HB : Hid (Bytes l) := Lib.hid (HBa.out HBe.out)
  obtain ⟨A2, n, c2, rfl⟩ := own_slice ho
  have hl4 := own_len ho
  have HL : Hid (l.length = n) := Lib.hid hl4.1
  have hn85 : n ≤ 85 := by have := HAl.out; have := HL.out; omega
  have hc2 : n ≤ c2 := hl4.2
  have hO0 := OwnI.of ho
  clear ho hl4
  have hm2 : (c2 : Int) ≤ 9223372036854775807 := by have := hO0.out.row.2.2.1; unfold maxLen at this; omega
  obtain ⟨p, hp⟩ : ∃ p : Nat, p = if 0 ≤ i ∧ i < (n : Int) then i.toNat else n := ⟨_, rfl⟩
  have hpn : p ≤ n := by rw [hp]; split <;> omega
  have hp1 : p < n → i = (p : Int) := by rw [hp]; split <;> omega
  have hp2 : ¬ (0 ≤ i ∧ i < (n : Int)) → p = n := by intro hh; rw [hp, if_neg hh]
  have hp3 : (0 ≤ i ∧ i < (n : Int)) → p < n := by intro hh; rw [hp, if_pos hh]; omega
  have HP1 := Lib.hid hp1
  have HP3 := Lib.hid hp3
  have HP2 := Lib.hid hp2
  have HLM : Hid (ms.length = 4) := by rw [HMS.out]; rfl
  clear hp hp1 hp2 hp3
  go_wp2
  go_loopw [9, 10, 11, 26] (fun bb _ _ j wr => ∃ (kk : Nat) (uu : Bool) (lc : List Int), j = .int .i64 kk ∧ kk ≤ 4 ∧ bb = .bool uu ∧ uu = some1 (turns n p (ms.take kk)) ∧ lc = mix l (turns n p (ms.take kk)) ∧ OwnI w2.heap.size w3.heap.size (.slice A2 n c2) lc wr ∧ Mod w2.heap.size w3.heap.size w3 wr) (fun _ _ _ j _ => 4 - (intOf j).toNat)
  case atStart =>
    refine ⟨0, false, l, rfl, by omega, rfl, ?_, ?_, hO0.out, Mod.refl _ _ _⟩
    · rw [List.take_zero, turns_none]; exact ((some1_clear _).2 (clear_zeros _)).symm
    · rw [List.take_zero, turns_none, ← HL.out, mix_zero HB.out]
  case round =>
    clear hO0 y0_ y1_ y2_ y3_ y4_ y5_ y6_ y7_ y8_ z0_ z1_ z2_ z3_
    obtain ⟨kk, uu, lc, rfl, hk, rfl, hu, hlc, hO, hm3⟩ := hrel
    obtain ⟨w4, rfl⟩ : ∃ w4 : World, w4 = wr := ⟨_, rfl⟩
    have HU := Lib.hid hu
    have HC := Lib.hid hlc
    clear hu hlc
    have s3 := hm3.size
    by_cases hlt : kk < 4
    · obtain ⟨x, hx⟩ : ∃ x, x = ms.getD kk 0 := ⟨_, rfl⟩
      have hxb : 0 ≤ x ∧ x ≤ 255 := by rw [hx]; exact bytes_getD HM.out kk
      obtain ⟨hx0, hx1⟩ := hxb
      have HS : Hid (ms.take (kk + 1) = ms.take kk ++ [x]) := by rw [hx]; exact take_snoc (by rw [HLM.out]; exact hlt)
      have HK : Hid ((ms.take kk).length = kk) := Lib.hid (by rw [List.length_take, HLM.out]; omega)
      have kix : ∀ V : World, (Instr.index 41 (.agg #[.int .u8 m0, .int .u8 m1, .int .u8 m2, .int .u8 m3]) (.int .i64 (kk : Int))).run Tryd.prog V = .ok (.int .u8 x) V := by
        refine run_index_array Tryd.underlying41 Tryd.underlying5 (by kernel_rfl) hlt ?_
        rw [hx, HMS.out]
        have : kk = 0 ∨ kk = 1 ∨ kk = 2 ∨ kk = 3 := by omega
        rcases this with rfl | rfl | rfl | rfl <;> rfl
      clear hx
      by_cases hin : p + kk < n
      · obtain rfl : i = (p : Int) := HP1.out (by omega)
        obtain ⟨gq, rfl, hg1, hg2, hg3, hc1, hf1, hst⟩ := hO.store (i := p + kk) hin
        have hnx := turns_next (l := l) (ms := ms.take kk) (p := p) (m := x) (by rw [HK.out, HL.out]; exact hin)
        rw [HK.out, HL.out, ← HS.out, ← HC.out, ← HU.out] at hnx
        obtain ⟨hy1, hy2, hy3⟩ := hnx
        rw [hy3] at hc1
        obtain ⟨yy, hy⟩ : ∃ yy : Nat, yy = (l.getD (p + kk) 0).toNat := ⟨_, rfl⟩
        have hyb : yy < 256 := by have := bytes_getD HB.out (p + kk); omega
        rw [← hy] at hc1 hy1
        obtain ⟨X, rfl⟩ := Int.eq_ofNat_of_zero_le hx0
        have hxB : X < 256 := by omega
        obtain ⟨z, hz⟩ : ∃ z, z = yy ^^^ X := ⟨_, rfl⟩
        have ex : bits .xor .u8 (yy : Int) (X : Int) = (z : Int) := by rw [hz]; exact u8_xor_nat yy X hyb hxB
        obtain ⟨ho2, hm4⟩ := hst (z : Int)
        rw [show (((X : Nat) : Int)).toNat = X by simp] at hy1
        rw [show ((z : Nat) : Int) = ((yy ^^^ X : Nat) : Int) by rw [hz], hy1] at ho2
        rw [← hz] at ho2
        have HO2 := Lib.hid ho2
        have HM2 := Lib.hid (hm3.trans hm4)
        have HY2 := Lib.hid hy2
        clear hst ho2 hm4 hO hm3 hy1 hy2 hy3 hy hz hx0
        have f0 : (0 : Int) ≤ (p : Int) := by omega
        have f1 : (p : Int) < (n : Int) - (kk : Int) := by omega
        cases uu
        all_goals
          go_wp2
          go_roundw
          case rel => exact ⟨kk + 1, _, _, by go_num, by omega, rfl, by rw [HY2.out]; rfl, rfl, HO2.out, HM2.out⟩
          case measure => simp [intOf]; omega
      · have hsame : turns n p (ms.take (kk + 1)) = turns n p (ms.take kk) := by
          rw [HS.out]; exact turns_beyond (by rw [HK.out]; omega)
        have HE := Lib.hid hsame
        clear hsame
        have hno : ¬ (0 ≤ i ∧ i < (n : Int) - (kk : Int)) := by
          intro hh
          by_cases hpn' : p < n
          · have := HP1.out hpn'; omega
          · have h2 : 0 ≤ i ∧ i < (n : Int) := by omega
            have := HP3.out h2
            omega
        have HO2 := Lib.hid hO
        have HM2 := Lib.hid hm3
        clear hO hm3
        by_cases hneg : 0 ≤ i
        · have f1 : decide (i < (n : Int) - (kk : Int)) = false := by simp; omega
          clear hno
          go_wp2
          go_roundw
          case rel => exact ⟨kk + 1, uu, lc, by go_num, by omega, rfl, by rw [HE.out, HU.out], by rw [HE.out, HC.out], HO2.out, HM2.out⟩
          case measure => simp [intOf]; omega
        · have f1 : decide (0 ≤ i) = false := by simp; omega
          clear hno
          go_wp2
          go_roundw
          case rel => exact ⟨kk + 1, uu, lc, by go_num, by omega, rfl, by rw [HE.out, HU.out], by rw [HE.out, HC.out], HO2.out, HM2.out⟩
          case measure => simp [intOf]; omega
    · have hall : ms.take kk = ms := List.take_of_length_le (by rw [HLM.out]; omega)
      have hcl : lc = mix l (turns n p ms) := by rw [HC.out, hall]
      have hul : uu = some1 (turns n p ms) := by rw [HU.out, hall]
      clear hall
      obtain ⟨-, -, -, hOR⟩ := hO.row
      have hR0 : Reads w4 w4.heap.size 1 A2 n (bts lc) := hOR.1.more s3
      have HB4 : Hid (Below w.heap.size w w4) := Lib.hid (hm3.below HB3.out HB2.out.size HB3.out.size)
      have HKp4 : Hid (Blk w4 p0 26 #[.int .i64 f, .int .i64 t, .int .i64 b, .int .i64 s, .int .i64 k, .int .i64 o, .int .i64 d, .int .i64 u, .int .i64 v]) := Lib.hid ((hm3.block p0 HKp3.out.lt (.inl HKp2.out.lt)).trans HKp3.out)
      have hBl : Bytes lc := by
        rw [hcl]
        refine bytes_mix HB.out (fun x hx => ?_)
        obtain ⟨j, hj, rfl⟩ := List.mem_map.1 hx
        split
        · exact bytes_getD HM.out _
        · omega
      have htell := HTu.out HBe.out p (by rw [HL.out]; exact hpn) ms HM.out (by rw [HLM.out]; exact Nat.le_refl _)
      rw [HL.out, ← hcl, ← hul] at htell
      have HDk := Lib.hid (HDa.out A2 n c2 lc w4 w4.heap.size (HT.out.next HB4.out) hR0 hc2 hBl (by omega))
      rw [htell] at HDk
      clear htell hBl hcl hul hO hOR hR0 hm3
      have k4 := HKp4.out
      have c0_ : w4.cell? ⟨p0, 0, none⟩ = some (.int .i64 f) := k4.cell 0
      have c1_ : w4.cell? ⟨p0, 1, none⟩ = some (.int .i64 t) := k4.cell 1
      have c2_ : w4.cell? ⟨p0, 2, none⟩ = some (.int .i64 b) := k4.cell 2
      have c3_ : w4.cell? ⟨p0, 3, none⟩ = some (.int .i64 s) := k4.cell 3
      have c4_ : w4.cell? ⟨p0, 4, none⟩ = some (.int .i64 k) := k4.cell 4
      have c5_ : w4.cell? ⟨p0, 5, none⟩ = some (.int .i64 o) := k4.cell 5
      have c6_ : w4.cell? ⟨p0, 6, none⟩ = some (.int .i64 d) := k4.cell 6
      have c7_ : w4.cell? ⟨p0, 7, none⟩ = some (.int .i64 u) := k4.cell 7
      have c8_ : w4.cell? ⟨p0, 8, none⟩ = some (.int .i64 v) := k4.cell 8
      clear k4
      cases uu
      case true =>
        rw [if_pos rfl] at HDk
        unfold Gm.val Gm.zero Mg.zero at HDk
        simp only at HDk
        go_wp2_with fail
        refine HDk.out.mono ?_
        rintro e w5 ⟨rfl, hb⟩
        have HB5 := Lib.hid (HB4.out.trans (hb.mono HB4.out.size))
        clear hb HDk
        go_wp2
        go_ret
        exact ⟨rfl, HB5.out.alloc HB5.out.size _⟩
      case false =>
        rw [if_neg (by simp)] at HDk
        unfold Gm.val at HDk
        simp only at HDk
        go_wp2_with fail
        refine HDk.out.mono ?_
        rintro e w5 ⟨rfl, hb⟩
        have HB5 := Lib.hid (HB4.out.trans (hb.mono HB4.out.size))
        have HKp5 := Lib.hid (HKp4.out.below hb HKp4.out.lt)
        have hpl : p0 < w5.heap.size := HKp5.out.lt
        obtain ⟨q0_, q1_, q2_, q3_, q4_, q5_, q6_, q7_, q8_⟩ := cells9 HKp5.out
        clear hb HDk c0_ c1_ c2_ c3_ c4_ c5_ c6_ c7_ c8_
        have ke : ∀ W : World, (Op.equalIn 10000 26 (.agg #[.int .i64 f, .int .i64 t, .int .i64 b, .int .i64 s, .int .i64 k, .int .i64 o, .int .i64 d, .int .i64 u, .int .i64 v]) (.agg #[.int .i64 f, .int .i64 t, .int .i64 b, .int .i64 s, .int .i64 k, .int .i64 o, .int .i64 d, .int .i64 u, .int .i64 v])).run Tryd.prog W = .ok true W := fun W => by rw [eq_gram]; simp
        go_wp2
        go_ret
        exact ⟨rfl, HB5.out.alloc HB5.out.size _⟩
end Go.Proofs.YtmegpbejknmjbaaDoor.Pk
