/- The landed Good of package chain. -/
import Derived.Test.YtiaafhcfeeekeaaZChRef4
import Derived.Deep.RegionHeld3
import Derived.Deep.DeepMust
namespace Go.Proofs.Ytiaafhcfeeekeaa.Pk
open Go.RowKit
set_option linter.unusedVariables false
attribute [local go_sem] Oper.semAt_some
theorem run_cutC (P : Program) (t e : TypeId) (ht : P.underlying t = some (.slice e)) (hi : (P.info? e).map (·.size) = some 4) (b off n c i : Nat) (h1 : i ≤ n) (w : World) :
    (Instr.slice t (.slice (some ⟨b, off, none⟩) n c) (some (.int .i64 (i : Int))) none none).run P w = .ok (.slice (if c = i then some (⟨b, off, none⟩ : Addr) else some ⟨b, off + i * 4, none⟩) (n - i) (c - i)) w := by
  obtain ⟨f, hi1, hi2⟩ := Option.map_eq_some_iff.1 hi
  simp [Instr.slice, run_underlying ht, go_sem, Instr.sliceBounds, sizeOf, typeInfo, hi1, hi2, h1, Addr.add_lit]
theorem cells4 {w : World} {p : Nat} {T : TypeId} {a b c d : Value} (h : Blk w p T #[a, b, c, d]) : w.cell? ⟨p, 0, none⟩ = some a ∧ w.cell? ⟨p, 1, none⟩ = some b ∧ w.cell? ⟨p, 2, none⟩ = some c ∧ w.cell? ⟨p, 3, none⟩ = some d := ⟨h.cell 0, h.cell 1, h.cell 2, h.cell 3⟩
set_option maxRecDepth 100000 in
set_option maxHeartbeats 16000000 in
theorem goodC : GoodP := by
  intro A n c l me sink w hin hme
  have HI := Lib.hid hin
  have HL := Lib.hid hin.len
  have hn := hin.few
  have hnc := hin.cap
  clear hin
  obtain ⟨r, hr9⟩ : ∃ r, r = decide (GoodK l me sink) := ⟨_, rfl⟩
  rw [← hr9]
  have HF0 : Hid (¬ GoodK l me sink → r = false) := Lib.hid (fun h => by rw [hr9]; exact decide_eq_false h)
  have HT0 : Hid (GoodK l me sink → r = true) := Lib.hid (fun h => by rw [hr9]; exact decide_eq_true h)
  clear hr9
  cases sink with
  | true =>
    go_enter Try.func70, Try.ntmps70
    by_cases h0 : n = 0
    case pos =>
      have t0 : ((n : Int) == 0) = true := by simp [h0]
      have hrf : r = false := HF0.out (fun h => by have := h.1 rfl; rw [HL.out] at this; omega)
      clear h0
      go_wp2_with fail
      refine wp_scope_straight ?_
      go_wp2_with fail
      rw [Exit.noGoto_ret]
      go_ret
      exact ⟨by rw [hrf]; rfl, Below.refl _ _⟩
    case neg =>
    have t0 : ((n : Int) == 0) = false := by simp; omega
    go_wp2_with fail
    refine wp_scope_straight ?_
    go_wp2_with fail
    refine wp_label ?_
    go_wp2_with fail
    go_loopw [7, 20] (fun lo j wr => ∃ i : Nat, j = .int .i64 i ∧ i ≤ n ∧ lo = .int .i64 (if i = 0 then 0 else (ceA l (i - 1)).n + 1) ∧ (∀ j, j < i → CellOk l me true j) ∧ Below w.heap.size w wr) (fun _ j _ => n - (intOf j).toNat)
    case atStart => exact ⟨0, rfl, by omega, by simp, (fun j hj => by omega), Below.refl _ _⟩
    case round =>
      obtain ⟨i, rfl, hi, rfl, hall, hb⟩ := hrel
      obtain ⟨w1, rfl⟩ : ∃ w1 : World, w1 = wr := ⟨_, rfl⟩
      have HB := Lib.hid hb
      have HA := Lib.hid hall
      clear hb hall
      obtain ⟨lo, hlo⟩ : ∃ lo, lo = if i = 0 then 0 else (ceA l (i - 1)).n + 1 := ⟨_, rfl⟩
      rw [← hlo]
      by_cases hlt : i < n
      case neg =>
        have hrt : r = true := HT0.out ⟨(by intro h; first | (cases h; done) | (rw [HL.out]; omega)), fun j hj => HA.out j (by rw [HL.out] at hj; omega)⟩
        clear hlo
        go_wp2_with fail
        try rw [Exit.noGoto_ret]
        go_ret
        exact ⟨by first | rfl | (rw [hrt]; rfl), HB.out⟩
      case pos =>
      obtain ⟨b, off, rfl, hbw, hc⟩ := (HI.out.next HB.out).rd.ces_ (by omega)
      have hil : i < l.length := by rw [HL.out]; exact hlt
      have hcg := hc i _ (ceA_get hil)
      obtain ⟨rr, hr⟩ : ∃ r, r = ceA l i := ⟨_, rfl⟩
      have HRi := Lib.hid hr
      rw [← hr] at hcg
      obtain ⟨rn, rs, rd, rx⟩ := rr
      simp only at hcg
      obtain ⟨m0, m1, m2, m3⟩ := hcg
      have HI2 := Lib.hid (ceA_I HI.out.i hil)
      rw [← HRi.out] at HI2
      obtain ⟨pn, hpn⟩ : ∃ x, x = (ceA l (i - 1)).n := ⟨_, rfl⟩
      obtain ⟨nn, hnn⟩ : ∃ x, x = (ceA l (i + 1)).n := ⟨_, rfl⟩
      have HOk := Lib.hid (cellOk_is (me := me) (sink := true) HL.out HRi.out hpn hnn)
      have HNn := Lib.hid hnn
      rw [← hpn] at hlo
      have HLo := Lib.hid hlo
      have HFr : Hid (¬ CellOk l me true i → r = false) := Lib.hid (fun h => HF0.out (fun hg => h (hg.2 i hil)))
      obtain ⟨i1, hi1e⟩ : ∃ x, x = i + 1 := ⟨_, rfl⟩
      obtain ⟨p, hp⟩ : ∃ x, x = w1.heap.size := ⟨_, rfl⟩
      obtain ⟨W3, hW3⟩ : ∃ W, W = w1.alloc (.cells #[.int .i64 rn, .int .i64 rs, .int .i64 rd, .int .i64 rx] 57) := ⟨_, rfl⟩
      have hb13 : Below w1.heap.size w1 W3 := hW3 ▸ (Below.refl _ _).alloc (Nat.le_refl _) _
      have HB3 : Hid (Below w.heap.size w W3) := Lib.hid (HB.out.trans (hb13.mono HB.out.size))
      have HK3 : Hid (Blk W3 p 57 #[.int .i64 rn, .int .i64 rs, .int .i64 rd, .int .i64 rx]) := Lib.hid (by rw [hW3, hp]; exact Blk.new w1 _ _)
      have HbW : Hid (b < W3.heap.size) := Lib.hid (Nat.lt_of_lt_of_le hbw hb13.size)
      have HNx : Hid (i1 < n → W3.cell? ⟨b, off + i1 * 4, none⟩ = some (.int .i64 nn)) := Lib.hid (fun h => (hb13.cell (p := ⟨b, off + i1 * 4, none⟩) hbw).trans (by rw [hnn, ← hi1e]; exact (hc i1 _ (ceA_get (by rw [HL.out]; exact h))).1))
      have X0 : W3.cell? ⟨p, 0, none⟩ = some (.int .i64 rn) ∧ W3.cell? ⟨p, 1, none⟩ = some (.int .i64 rs) ∧ W3.cell? ⟨p, 2, none⟩ = some (.int .i64 rd) ∧ W3.cell? ⟨p, 3, none⟩ = some (.int .i64 rx) := ⟨HK3.out.cell 0, HK3.out.cell 1, HK3.out.cell 2, HK3.out.cell 3⟩
      have HPos : Hid (0 < i → 0 ≤ pn) := Lib.hid (fun h => by have := (HA.out (i - 1) (by omega)).1.1; rw [hpn]; exact this)
      have hrn := HI2.out.n
      clear hc hr hpn hnn hlo hb13 hbw
      by_cases hlast : i + 1 = n
      case pos =>
        have u7 : ((i : Int) == (n : Int) - 1) = true := by simp; omega
        have hw8 : IntKind.i64.wrap ((i : Int) + 1) = (i1 : Int) := by rw [IntWalk.i64_in _ (by omega)]; omega
        have hi1 : i1 ≤ n := by omega
        have hi2 : i1 ≤ c := by omega
        obtain ⟨A', hA'⟩ : ∃ A', A' = if c = i1 then some (⟨b, off, none⟩ : Addr) else some ⟨b, off + i1 * 4, none⟩ := ⟨_, rfl⟩
        have kc := fun (u : World) => run_cutC Try.prog 53 57 Try.underlying53 (by kernel_rfl) b off n c i1 hi1 u
        rw [← hA'] at kc
        have HA' := Lib.hid hA'
        clear hA'
        have HLed := Lib.hid (fun W (hW : Below W3.heap.size W3 W) => led_any (n := rn) (s := rs) (d := rd) (x := rx) (me := me) (nn := nn) A' (n - i1) (c - i1) W (by omega) (by omega) (fun hm => ⟨b, off + i1 * 4, by rw [HA'.out, if_neg (by omega)], Nat.lt_of_lt_of_le HbW.out hW.size, (hW.cell (p := ⟨b, off + i1 * 4, none⟩) HbW.out).trans (HNx.out (by omega))⟩))
        obtain ⟨q, hq⟩ : ∃ q, q = decide (Led rd rx me nn (n - i1)) := ⟨_, rfl⟩
        rw [← hq] at HLed
        have HQ := Lib.hid hq
        clear hq
        have HI1 := Lib.hid hi1e
        clear hi1e
        have HLast : Hid (i + 1 = n) := Lib.hid hlast
        have hin2 : i < n := hlt
        clear hlast
        have HWi0 := Lib.hid (fun w => within_any (x := rn) (a := lo) (b := 1099511627776) w)
        obtain ⟨y, hy⟩ : ∃ y, y = decide (lo ≤ rn ∧ rn ≤ 1099511627776) := ⟨_, rfl⟩
        rw [← hy] at HWi0
        have HY := Lib.hid hy
        clear hy
        have HFree0 := Lib.hid (fun w => free_any (n := rn) (s := rs) (d := rd) (x := rx) w)
        obtain ⟨f, hf⟩ : ∃ f, f = decide (rd = -1 ∧ rx = 0) := ⟨_, rfl⟩
        rw [← hf] at HFree0
        have HFits : Hid (f = decide (if true = true ∧ i + 1 = n then rd = -1 ∧ rx = 0 else (rs ≠ 3 ∧ 0 ≤ rd ∧ rd < 32 ∧ 1 ≤ rx ∧ rx ≤ 1099511627776) ∧ (rd = me → i + 1 < n ∧ nn = rx))) := Lib.hid (by rw [hf]; exact decide_eq_decide.2 (by rw [if_pos ⟨rfl, HLast.out⟩]))
        clear hf
        have HYy : Hid (y = true → 0 ≤ rn ∧ rn ≤ 1099511627776 ∧ (0 < i → pn < rn)) := Lib.hid (fun h => by
          rw [HY.out] at h
          have h2 := of_decide_eq_true h
          have h3 := HLo.out
          have h4 := HPos.out
          by_cases e : i = 0
          · rw [if_pos e] at h3; omega
          · rw [if_neg e] at h3
            have := h4 (by omega)
            omega)
        have HNy : Hid (y = false → ¬ (0 ≤ rn ∧ rn ≤ 1099511627776 ∧ (0 < i → pn < rn))) := Lib.hid (fun h h2 => by
          rw [HY.out] at h
          have h3 := HLo.out
          refine of_decide_eq_false h ?_
          by_cases e : i = 0
          · rw [if_pos e] at h3; omega
          · rw [if_neg e] at h3
            have := h2.2.2 (by omega)
            omega)
        have HYf : Hid (f = true → (if true = true ∧ i + 1 = n then rd = -1 ∧ rx = 0 else (rs ≠ 3 ∧ 0 ≤ rd ∧ rd < 32 ∧ 1 ≤ rx ∧ rx ≤ 1099511627776) ∧ (rd = me → i + 1 < n ∧ nn = rx))) := Lib.hid (fun h => by rw [HFits.out] at h; exact of_decide_eq_true h)
        have HNf : Hid (f = false → ¬ (if true = true ∧ i + 1 = n then rd = -1 ∧ rx = 0 else (rs ≠ 3 ∧ 0 ≤ rd ∧ rd < 32 ∧ 1 ≤ rx ∧ rx ≤ 1099511627776) ∧ (rd = me → i + 1 < n ∧ nn = rx))) := Lib.hid (fun h => by rw [HFits.out] at h; exact of_decide_eq_false h)
        cases q
        all_goals
          cases hfv : f
          case false =>
            have hnf := HNf.out hfv
            have hrf : r = false := HFr.out (fun h => by
              obtain ⟨⟨a1, a2, a3, a4⟩, a5, a6, a7⟩ := HOk.out.1 h
              exact hnf a7)
            rw [hfv] at HFree0
            have HFree := Lib.hid HFree0.out
            clear hnf hfv
            go_wp2_with fail
            rw [← hW3, ← hp]
            clear hW3 hp
            go_region_held3 (fun w' => w'.cell? ⟨p, 0, none⟩ = some (.int .i64 rn) ∧ w'.cell? ⟨p, 1, none⟩ = some (.int .i64 rs) ∧ w'.cell? ⟨p, 2, none⟩ = some (.int .i64 rd) ∧ w'.cell? ⟨p, 3, none⟩ = some (.int .i64 rx)) (first | exact X0 | exact X1 | go_keep) (first
              | (go_at_call 91; go_must (refine (HLed.out _ (below_drewC (Below.refl _ _) 1)).mono ?_; rintro e w4 ⟨rfl, hb4⟩; have HB4 : Hid (Below W3.heap.size W3 w4) := Lib.hid ((below_drewC (Below.refl _ _) 1).trans hb4); have HK4 := Lib.hid (HK3.out.below HB4.out HK3.out.lt); have X1 := cells4 HK4.out; clear hb4)))
            clear X0
            have b0 : w4.cell? ⟨p, 0, none⟩ = some (.int .i64 rn) := HK4.out.cell 0
            have b1 : w4.cell? ⟨p, 1, none⟩ = some (.int .i64 rs) := HK4.out.cell 1
            have b2 : w4.cell? ⟨p, 2, none⟩ = some (.int .i64 rd) := HK4.out.cell 2
            have b3 : w4.cell? ⟨p, 3, none⟩ = some (.int .i64 rx) := HK4.out.cell 3
            have a0 : ∀ k, (w4.drewN k).cell? ⟨p, 0, none⟩ = some (.int .i64 rn) := fun k => HK4.out.cell 0
            go_wp2_with fail
            refine (HFree.out _).mono ?_
            rintro e w5 ⟨rfl, hb5⟩
            clear b0 b1 b2 b3 a0
            have HB5 : Hid (Below W3.heap.size W3 w5) := Lib.hid (HB4.out.trans (hb5.mono HB4.out.size))
            have HK5 := Lib.hid (HK4.out.below hb5 HK4.out.lt)
            clear hb5
            have b0 : w5.cell? ⟨p, 0, none⟩ = some (.int .i64 rn) := HK5.out.cell 0
            have b1 : w5.cell? ⟨p, 1, none⟩ = some (.int .i64 rs) := HK5.out.cell 1
            have b2 : w5.cell? ⟨p, 2, none⟩ = some (.int .i64 rd) := HK5.out.cell 2
            have b3 : w5.cell? ⟨p, 3, none⟩ = some (.int .i64 rx) := HK5.out.cell 3
            have a0 : ∀ k, (w5.drewN k).cell? ⟨p, 0, none⟩ = some (.int .i64 rn) := fun k => HK5.out.cell 0
            go_wp2_with fail
            try rw [Exit.noGoto_ret]
            go_ret
            exact ⟨by first | rfl | (rw [hrf]; rfl), HB3.out.trans (HB5.out.mono HB3.out.size)⟩
          case true =>
          have HFit := Lib.hid (HYf.out hfv)
          rw [hfv] at HFree0
          have HFree := Lib.hid HFree0.out
          clear hfv
          cases hyv : y
          case false =>
            have hny := HNy.out hyv
            have hrf : r = false := HFr.out (fun h => by
              obtain ⟨⟨a1, a2, a3, a4⟩, a5, a6, a7⟩ := HOk.out.1 h
              exact hny ⟨by omega, by omega, fun h => (a5 h).1⟩)
            rw [hyv] at HWi0
            have HWi := Lib.hid HWi0.out
            clear hny hyv
            go_wp2_with fail
            rw [← hW3, ← hp]
            clear hW3 hp
            go_region_held3 (fun w' => w'.cell? ⟨p, 0, none⟩ = some (.int .i64 rn) ∧ w'.cell? ⟨p, 1, none⟩ = some (.int .i64 rs) ∧ w'.cell? ⟨p, 2, none⟩ = some (.int .i64 rd) ∧ w'.cell? ⟨p, 3, none⟩ = some (.int .i64 rx)) (first | exact X0 | exact X1 | go_keep) (first
              | (go_at_call 91; go_must (refine (HLed.out _ (below_drewC (Below.refl _ _) 1)).mono ?_; rintro e w4 ⟨rfl, hb4⟩; have HB4 : Hid (Below W3.heap.size W3 w4) := Lib.hid ((below_drewC (Below.refl _ _) 1).trans hb4); have HK4 := Lib.hid (HK3.out.below HB4.out HK3.out.lt); have X1 := cells4 HK4.out; clear hb4)))
            clear X0
            have b0 : w4.cell? ⟨p, 0, none⟩ = some (.int .i64 rn) := HK4.out.cell 0
            have b1 : w4.cell? ⟨p, 1, none⟩ = some (.int .i64 rs) := HK4.out.cell 1
            have b2 : w4.cell? ⟨p, 2, none⟩ = some (.int .i64 rd) := HK4.out.cell 2
            have b3 : w4.cell? ⟨p, 3, none⟩ = some (.int .i64 rx) := HK4.out.cell 3
            have a0 : ∀ k, (w4.drewN k).cell? ⟨p, 0, none⟩ = some (.int .i64 rn) := fun k => HK4.out.cell 0
            go_wp2_with fail
            refine (HFree.out _).mono ?_
            rintro e w5 ⟨rfl, hb5⟩
            clear b0 b1 b2 b3 a0
            have HB5 : Hid (Below W3.heap.size W3 w5) := Lib.hid (HB4.out.trans (hb5.mono HB4.out.size))
            have HK5 := Lib.hid (HK4.out.below hb5 HK4.out.lt)
            clear hb5
            have b0 : w5.cell? ⟨p, 0, none⟩ = some (.int .i64 rn) := HK5.out.cell 0
            have b1 : w5.cell? ⟨p, 1, none⟩ = some (.int .i64 rs) := HK5.out.cell 1
            have b2 : w5.cell? ⟨p, 2, none⟩ = some (.int .i64 rd) := HK5.out.cell 2
            have b3 : w5.cell? ⟨p, 3, none⟩ = some (.int .i64 rx) := HK5.out.cell 3
            have a0 : ∀ k, (w5.drewN k).cell? ⟨p, 0, none⟩ = some (.int .i64 rn) := fun k => HK5.out.cell 0
            go_wp2_with fail
            refine (HWi.out _).mono ?_
            rintro e w9 ⟨rfl, hw⟩
            rw [hw]
            clear hw w9
            go_wp2_with fail
            try rw [Exit.noGoto_ret]
            go_ret
            exact ⟨by first | rfl | (rw [hrf]; rfl), HB3.out.trans (HB5.out.mono HB3.out.size)⟩
          case true =>
          obtain ⟨y1, y2, y3⟩ := HYy.out hyv
          rw [hyv] at HWi0
          have HWi := Lib.hid HWi0.out
          clear hyv
          by_cases s1 : rs = 1
          case pos =>
            have t1 : (rs == 1) = true := by simp [s1]
            by_cases g0 : 0 < rn
            case pos =>
              have t2 : decide (0 < rn) = true := decide_eq_true g0
              have HNxt : Hid (∀ j, j < i + 1 → CellOk l me true j) := Lib.hid (fun j hj => by
                by_cases e : j = i
                · subst e
                  exact HOk.out.2 ⟨⟨by omega, by omega, by omega, by omega⟩, fun h => by omega, fun h => by omega, HFit.out ⟩
                · exact HA.out j (by omega))
              clear s1
              go_wp2_with fail
              rw [← hW3, ← hp]
              clear hW3 hp
              go_region_held3 (fun w' => w'.cell? ⟨p, 0, none⟩ = some (.int .i64 rn) ∧ w'.cell? ⟨p, 1, none⟩ = some (.int .i64 rs) ∧ w'.cell? ⟨p, 2, none⟩ = some (.int .i64 rd) ∧ w'.cell? ⟨p, 3, none⟩ = some (.int .i64 rx)) (first | exact X0 | exact X1 | go_keep) (first
                | (go_at_call 91; go_must (refine (HLed.out _ (below_drewC (Below.refl _ _) 1)).mono ?_; rintro e w4 ⟨rfl, hb4⟩; have HB4 : Hid (Below W3.heap.size W3 w4) := Lib.hid ((below_drewC (Below.refl _ _) 1).trans hb4); have HK4 := Lib.hid (HK3.out.below HB4.out HK3.out.lt); have X1 := cells4 HK4.out; clear hb4)))
              clear X0
              have b0 : w4.cell? ⟨p, 0, none⟩ = some (.int .i64 rn) := HK4.out.cell 0
              have b1 : w4.cell? ⟨p, 1, none⟩ = some (.int .i64 rs) := HK4.out.cell 1
              have b2 : w4.cell? ⟨p, 2, none⟩ = some (.int .i64 rd) := HK4.out.cell 2
              have b3 : w4.cell? ⟨p, 3, none⟩ = some (.int .i64 rx) := HK4.out.cell 3
              have a0 : ∀ k, (w4.drewN k).cell? ⟨p, 0, none⟩ = some (.int .i64 rn) := fun k => HK4.out.cell 0
              go_wp2_with fail
              refine (HFree.out _).mono ?_
              rintro e w5 ⟨rfl, hb5⟩
              clear b0 b1 b2 b3 a0
              have HB5 : Hid (Below W3.heap.size W3 w5) := Lib.hid (HB4.out.trans (hb5.mono HB4.out.size))
              have HK5 := Lib.hid (HK4.out.below hb5 HK4.out.lt)
              clear hb5
              have b0 : w5.cell? ⟨p, 0, none⟩ = some (.int .i64 rn) := HK5.out.cell 0
              have b1 : w5.cell? ⟨p, 1, none⟩ = some (.int .i64 rs) := HK5.out.cell 1
              have b2 : w5.cell? ⟨p, 2, none⟩ = some (.int .i64 rd) := HK5.out.cell 2
              have b3 : w5.cell? ⟨p, 3, none⟩ = some (.int .i64 rx) := HK5.out.cell 3
              have a0 : ∀ k, (w5.drewN k).cell? ⟨p, 0, none⟩ = some (.int .i64 rn) := fun k => HK5.out.cell 0
              go_wp2_with fail
              refine (HWi.out _).mono ?_
              rintro e w9 ⟨rfl, hw⟩
              rw [hw]
              clear hw w9
              go_wp2_with fail
              go_roundw
              case rel => exact ⟨i1, rfl, hi1, by rw [if_neg (by have := HI1.out; omega), HI1.out, Nat.add_sub_cancel, ← HRi.out], by rw [HI1.out]; exact HNxt.out, HB3.out.trans (HB5.out.mono HB3.out.size)⟩
              case measure => have := HI1.out; simp [intOf]; omega
            case neg =>
              have t2 : decide (0 < rn) = false := decide_eq_false g0
              have hrf : r = false := HFr.out (fun h => by
                obtain ⟨⟨a1, a2, a3, a4⟩, a5, a6, a7⟩ := HOk.out.1 h
                have := a6 (by omega); omega)
              clear s1 g0
              go_wp2_with fail
              rw [← hW3, ← hp]
              clear hW3 hp
              go_region_held3 (fun w' => w'.cell? ⟨p, 0, none⟩ = some (.int .i64 rn) ∧ w'.cell? ⟨p, 1, none⟩ = some (.int .i64 rs) ∧ w'.cell? ⟨p, 2, none⟩ = some (.int .i64 rd) ∧ w'.cell? ⟨p, 3, none⟩ = some (.int .i64 rx)) (first | exact X0 | exact X1 | go_keep) (first
                | (go_at_call 91; go_must (refine (HLed.out _ (below_drewC (Below.refl _ _) 1)).mono ?_; rintro e w4 ⟨rfl, hb4⟩; have HB4 : Hid (Below W3.heap.size W3 w4) := Lib.hid ((below_drewC (Below.refl _ _) 1).trans hb4); have HK4 := Lib.hid (HK3.out.below HB4.out HK3.out.lt); have X1 := cells4 HK4.out; clear hb4)))
              clear X0
              have b0 : w4.cell? ⟨p, 0, none⟩ = some (.int .i64 rn) := HK4.out.cell 0
              have b1 : w4.cell? ⟨p, 1, none⟩ = some (.int .i64 rs) := HK4.out.cell 1
              have b2 : w4.cell? ⟨p, 2, none⟩ = some (.int .i64 rd) := HK4.out.cell 2
              have b3 : w4.cell? ⟨p, 3, none⟩ = some (.int .i64 rx) := HK4.out.cell 3
              have a0 : ∀ k, (w4.drewN k).cell? ⟨p, 0, none⟩ = some (.int .i64 rn) := fun k => HK4.out.cell 0
              go_wp2_with fail
              refine (HFree.out _).mono ?_
              rintro e w5 ⟨rfl, hb5⟩
              clear b0 b1 b2 b3 a0
              have HB5 : Hid (Below W3.heap.size W3 w5) := Lib.hid (HB4.out.trans (hb5.mono HB4.out.size))
              have HK5 := Lib.hid (HK4.out.below hb5 HK4.out.lt)
              clear hb5
              have b0 : w5.cell? ⟨p, 0, none⟩ = some (.int .i64 rn) := HK5.out.cell 0
              have b1 : w5.cell? ⟨p, 1, none⟩ = some (.int .i64 rs) := HK5.out.cell 1
              have b2 : w5.cell? ⟨p, 2, none⟩ = some (.int .i64 rd) := HK5.out.cell 2
              have b3 : w5.cell? ⟨p, 3, none⟩ = some (.int .i64 rx) := HK5.out.cell 3
              have a0 : ∀ k, (w5.drewN k).cell? ⟨p, 0, none⟩ = some (.int .i64 rn) := fun k => HK5.out.cell 0
              go_wp2_with fail
              refine (HWi.out _).mono ?_
              rintro e w9 ⟨rfl, hw⟩
              rw [hw]
              clear hw w9
              go_wp2_with fail
              try rw [Exit.noGoto_ret]
              go_ret
              exact ⟨by first | rfl | (rw [hrf]; rfl), HB3.out.trans (HB5.out.mono HB3.out.size)⟩
          case neg =>
          have t1 : (rs == 1) = false := by simp [s1]
          by_cases s2 : rs = 2
          case pos =>
            have t2 : (rs == 2) = true := by simp [s2]
            by_cases g0 : 0 < rn
            case neg =>
              have t3 : decide (0 < rn) = false := decide_eq_false g0
              have hrf : r = false := HFr.out (fun h => by
                obtain ⟨⟨a1, a2, a3, a4⟩, a5, a6, a7⟩ := HOk.out.1 h
                have := a6 (by omega); omega)
              clear s1 s2 g0
              go_wp2_with fail
              rw [← hW3, ← hp]
              clear hW3 hp
              go_region_held3 (fun w' => w'.cell? ⟨p, 0, none⟩ = some (.int .i64 rn) ∧ w'.cell? ⟨p, 1, none⟩ = some (.int .i64 rs) ∧ w'.cell? ⟨p, 2, none⟩ = some (.int .i64 rd) ∧ w'.cell? ⟨p, 3, none⟩ = some (.int .i64 rx)) (first | exact X0 | exact X1 | go_keep) (first
                | (go_at_call 91; go_must (refine (HLed.out _ (below_drewC (Below.refl _ _) 1)).mono ?_; rintro e w4 ⟨rfl, hb4⟩; have HB4 : Hid (Below W3.heap.size W3 w4) := Lib.hid ((below_drewC (Below.refl _ _) 1).trans hb4); have HK4 := Lib.hid (HK3.out.below HB4.out HK3.out.lt); have X1 := cells4 HK4.out; clear hb4)))
              clear X0
              have b0 : w4.cell? ⟨p, 0, none⟩ = some (.int .i64 rn) := HK4.out.cell 0
              have b1 : w4.cell? ⟨p, 1, none⟩ = some (.int .i64 rs) := HK4.out.cell 1
              have b2 : w4.cell? ⟨p, 2, none⟩ = some (.int .i64 rd) := HK4.out.cell 2
              have b3 : w4.cell? ⟨p, 3, none⟩ = some (.int .i64 rx) := HK4.out.cell 3
              have a0 : ∀ k, (w4.drewN k).cell? ⟨p, 0, none⟩ = some (.int .i64 rn) := fun k => HK4.out.cell 0
              go_wp2_with fail
              refine (HFree.out _).mono ?_
              rintro e w5 ⟨rfl, hb5⟩
              clear b0 b1 b2 b3 a0
              have HB5 : Hid (Below W3.heap.size W3 w5) := Lib.hid (HB4.out.trans (hb5.mono HB4.out.size))
              have HK5 := Lib.hid (HK4.out.below hb5 HK4.out.lt)
              clear hb5
              have b0 : w5.cell? ⟨p, 0, none⟩ = some (.int .i64 rn) := HK5.out.cell 0
              have b1 : w5.cell? ⟨p, 1, none⟩ = some (.int .i64 rs) := HK5.out.cell 1
              have b2 : w5.cell? ⟨p, 2, none⟩ = some (.int .i64 rd) := HK5.out.cell 2
              have b3 : w5.cell? ⟨p, 3, none⟩ = some (.int .i64 rx) := HK5.out.cell 3
              have a0 : ∀ k, (w5.drewN k).cell? ⟨p, 0, none⟩ = some (.int .i64 rn) := fun k => HK5.out.cell 0
              go_wp2_with fail
              refine (HWi.out _).mono ?_
              rintro e w9 ⟨rfl, hw⟩
              rw [hw]
              clear hw w9
              go_wp2_with fail
              try rw [Exit.noGoto_ret]
              go_ret
              exact ⟨by first | rfl | (rw [hrf]; rfl), HB3.out.trans (HB5.out.mono HB3.out.size)⟩
            have t3 : decide (0 < rn) = true := decide_eq_true g0
            by_cases i0 : i = 0
            case neg =>
              have t4 : ((i : Int) == 0) = false := by simp; omega
              have hrf : r = false := HFr.out (fun h => by
                obtain ⟨⟨a1, a2, a3, a4⟩, a5, a6, a7⟩ := HOk.out.1 h
                have := (a5 (by omega)).2; omega)
              clear s1 s2 g0 i0
              go_wp2_with fail
              rw [← hW3, ← hp]
              clear hW3 hp
              go_region_held3 (fun w' => w'.cell? ⟨p, 0, none⟩ = some (.int .i64 rn) ∧ w'.cell? ⟨p, 1, none⟩ = some (.int .i64 rs) ∧ w'.cell? ⟨p, 2, none⟩ = some (.int .i64 rd) ∧ w'.cell? ⟨p, 3, none⟩ = some (.int .i64 rx)) (first | exact X0 | exact X1 | go_keep) (first
                | (go_at_call 91; go_must (refine (HLed.out _ (below_drewC (Below.refl _ _) 1)).mono ?_; rintro e w4 ⟨rfl, hb4⟩; have HB4 : Hid (Below W3.heap.size W3 w4) := Lib.hid ((below_drewC (Below.refl _ _) 1).trans hb4); have HK4 := Lib.hid (HK3.out.below HB4.out HK3.out.lt); have X1 := cells4 HK4.out; clear hb4)))
              clear X0
              have b0 : w4.cell? ⟨p, 0, none⟩ = some (.int .i64 rn) := HK4.out.cell 0
              have b1 : w4.cell? ⟨p, 1, none⟩ = some (.int .i64 rs) := HK4.out.cell 1
              have b2 : w4.cell? ⟨p, 2, none⟩ = some (.int .i64 rd) := HK4.out.cell 2
              have b3 : w4.cell? ⟨p, 3, none⟩ = some (.int .i64 rx) := HK4.out.cell 3
              have a0 : ∀ k, (w4.drewN k).cell? ⟨p, 0, none⟩ = some (.int .i64 rn) := fun k => HK4.out.cell 0
              go_wp2_with fail
              refine (HFree.out _).mono ?_
              rintro e w5 ⟨rfl, hb5⟩
              clear b0 b1 b2 b3 a0
              have HB5 : Hid (Below W3.heap.size W3 w5) := Lib.hid (HB4.out.trans (hb5.mono HB4.out.size))
              have HK5 := Lib.hid (HK4.out.below hb5 HK4.out.lt)
              clear hb5
              have b0 : w5.cell? ⟨p, 0, none⟩ = some (.int .i64 rn) := HK5.out.cell 0
              have b1 : w5.cell? ⟨p, 1, none⟩ = some (.int .i64 rs) := HK5.out.cell 1
              have b2 : w5.cell? ⟨p, 2, none⟩ = some (.int .i64 rd) := HK5.out.cell 2
              have b3 : w5.cell? ⟨p, 3, none⟩ = some (.int .i64 rx) := HK5.out.cell 3
              have a0 : ∀ k, (w5.drewN k).cell? ⟨p, 0, none⟩ = some (.int .i64 rn) := fun k => HK5.out.cell 0
              go_wp2_with fail
              refine (HWi.out _).mono ?_
              rintro e w9 ⟨rfl, hw⟩
              rw [hw]
              clear hw w9
              go_wp2_with fail
              try rw [Exit.noGoto_ret]
              go_ret
              exact ⟨by first | rfl | (rw [hrf]; rfl), HB3.out.trans (HB5.out.mono HB3.out.size)⟩
            have t4 : ((i : Int) == 0) = true := by simp; omega
            have HNxt : Hid (∀ j, j < i + 1 → CellOk l me true j) := Lib.hid (fun j hj => by
              by_cases e : j = i
              · subst e
                exact HOk.out.2 ⟨⟨by omega, by omega, by omega, by omega⟩, fun h => by omega, fun h => by omega, HFit.out ⟩
              · exact HA.out j (by omega))
            have I0 := Lib.hid i0
            clear s1 s2 i0
            go_wp2_with fail
            rw [← hW3, ← hp]
            clear hW3 hp
            go_region_held3 (fun w' => w'.cell? ⟨p, 0, none⟩ = some (.int .i64 rn) ∧ w'.cell? ⟨p, 1, none⟩ = some (.int .i64 rs) ∧ w'.cell? ⟨p, 2, none⟩ = some (.int .i64 rd) ∧ w'.cell? ⟨p, 3, none⟩ = some (.int .i64 rx)) (first | exact X0 | exact X1 | go_keep) (first
              | (go_at_call 91; go_must (refine (HLed.out _ (below_drewC (Below.refl _ _) 1)).mono ?_; rintro e w4 ⟨rfl, hb4⟩; have HB4 : Hid (Below W3.heap.size W3 w4) := Lib.hid ((below_drewC (Below.refl _ _) 1).trans hb4); have HK4 := Lib.hid (HK3.out.below HB4.out HK3.out.lt); have X1 := cells4 HK4.out; clear hb4)))
            clear X0
            have b0 : w4.cell? ⟨p, 0, none⟩ = some (.int .i64 rn) := HK4.out.cell 0
            have b1 : w4.cell? ⟨p, 1, none⟩ = some (.int .i64 rs) := HK4.out.cell 1
            have b2 : w4.cell? ⟨p, 2, none⟩ = some (.int .i64 rd) := HK4.out.cell 2
            have b3 : w4.cell? ⟨p, 3, none⟩ = some (.int .i64 rx) := HK4.out.cell 3
            have a0 : ∀ k, (w4.drewN k).cell? ⟨p, 0, none⟩ = some (.int .i64 rn) := fun k => HK4.out.cell 0
            go_wp2_with fail
            refine (HFree.out _).mono ?_
            rintro e w5 ⟨rfl, hb5⟩
            clear b0 b1 b2 b3 a0
            have HB5 : Hid (Below W3.heap.size W3 w5) := Lib.hid (HB4.out.trans (hb5.mono HB4.out.size))
            have HK5 := Lib.hid (HK4.out.below hb5 HK4.out.lt)
            clear hb5
            have b0 : w5.cell? ⟨p, 0, none⟩ = some (.int .i64 rn) := HK5.out.cell 0
            have b1 : w5.cell? ⟨p, 1, none⟩ = some (.int .i64 rs) := HK5.out.cell 1
            have b2 : w5.cell? ⟨p, 2, none⟩ = some (.int .i64 rd) := HK5.out.cell 2
            have b3 : w5.cell? ⟨p, 3, none⟩ = some (.int .i64 rx) := HK5.out.cell 3
            have a0 : ∀ k, (w5.drewN k).cell? ⟨p, 0, none⟩ = some (.int .i64 rn) := fun k => HK5.out.cell 0
            go_wp2_with fail
            refine (HWi.out _).mono ?_
            rintro e w9 ⟨rfl, hw⟩
            rw [hw]
            clear hw w9
            go_wp2_with fail
            go_roundw
            case rel => exact ⟨i1, rfl, hi1, by rw [if_neg (by have := HI1.out; omega), HI1.out, Nat.add_sub_cancel, ← HRi.out], by rw [HI1.out]; exact HNxt.out, HB3.out.trans (HB5.out.mono HB3.out.size)⟩
            case measure => have := HI1.out; simp [intOf]; omega
          case neg =>
          have t2 : (rs == 2) = false := by simp [s2]
          by_cases s3 : rs = 3
          case pos =>
            have t3 : (rs == 3) = true := by simp [s3]
            by_cases i0 : i = 0
            case neg =>
              have t4 : ((i : Int) == 0) = false := by simp; omega
              have hrf : r = false := HFr.out (fun h => by
                obtain ⟨⟨a1, a2, a3, a4⟩, a5, a6, a7⟩ := HOk.out.1 h
                have := (a5 (by omega)).2; omega)
              clear s1 s2 s3 i0
              go_wp2_with fail
              rw [← hW3, ← hp]
              clear hW3 hp
              go_region_held3 (fun w' => w'.cell? ⟨p, 0, none⟩ = some (.int .i64 rn) ∧ w'.cell? ⟨p, 1, none⟩ = some (.int .i64 rs) ∧ w'.cell? ⟨p, 2, none⟩ = some (.int .i64 rd) ∧ w'.cell? ⟨p, 3, none⟩ = some (.int .i64 rx)) (first | exact X0 | exact X1 | go_keep) (first
                | (go_at_call 91; go_must (refine (HLed.out _ (below_drewC (Below.refl _ _) 1)).mono ?_; rintro e w4 ⟨rfl, hb4⟩; have HB4 : Hid (Below W3.heap.size W3 w4) := Lib.hid ((below_drewC (Below.refl _ _) 1).trans hb4); have HK4 := Lib.hid (HK3.out.below HB4.out HK3.out.lt); have X1 := cells4 HK4.out; clear hb4)))
              clear X0
              have b0 : w4.cell? ⟨p, 0, none⟩ = some (.int .i64 rn) := HK4.out.cell 0
              have b1 : w4.cell? ⟨p, 1, none⟩ = some (.int .i64 rs) := HK4.out.cell 1
              have b2 : w4.cell? ⟨p, 2, none⟩ = some (.int .i64 rd) := HK4.out.cell 2
              have b3 : w4.cell? ⟨p, 3, none⟩ = some (.int .i64 rx) := HK4.out.cell 3
              have a0 : ∀ k, (w4.drewN k).cell? ⟨p, 0, none⟩ = some (.int .i64 rn) := fun k => HK4.out.cell 0
              go_wp2_with fail
              refine (HFree.out _).mono ?_
              rintro e w5 ⟨rfl, hb5⟩
              clear b0 b1 b2 b3 a0
              have HB5 : Hid (Below W3.heap.size W3 w5) := Lib.hid (HB4.out.trans (hb5.mono HB4.out.size))
              have HK5 := Lib.hid (HK4.out.below hb5 HK4.out.lt)
              clear hb5
              have b0 : w5.cell? ⟨p, 0, none⟩ = some (.int .i64 rn) := HK5.out.cell 0
              have b1 : w5.cell? ⟨p, 1, none⟩ = some (.int .i64 rs) := HK5.out.cell 1
              have b2 : w5.cell? ⟨p, 2, none⟩ = some (.int .i64 rd) := HK5.out.cell 2
              have b3 : w5.cell? ⟨p, 3, none⟩ = some (.int .i64 rx) := HK5.out.cell 3
              have a0 : ∀ k, (w5.drewN k).cell? ⟨p, 0, none⟩ = some (.int .i64 rn) := fun k => HK5.out.cell 0
              go_wp2_with fail
              refine (HWi.out _).mono ?_
              rintro e w9 ⟨rfl, hw⟩
              rw [hw]
              clear hw w9
              go_wp2_with fail
              try rw [Exit.noGoto_ret]
              go_ret
              exact ⟨by first | rfl | (rw [hrf]; rfl), HB3.out.trans (HB5.out.mono HB3.out.size)⟩
            have t4 : ((i : Int) == 0) = true := by simp; omega
            have HNxt : Hid (∀ j, j < i + 1 → CellOk l me true j) := Lib.hid (fun j hj => by
              by_cases e : j = i
              · subst e
                exact HOk.out.2 ⟨⟨by omega, by omega, by omega, by omega⟩, fun h => by omega, fun h => by omega, HFit.out ⟩
              · exact HA.out j (by omega))
            have I0 := Lib.hid i0
            clear s1 s2 s3 i0
            go_wp2_with fail
            rw [← hW3, ← hp]
            clear hW3 hp
            go_region_held3 (fun w' => w'.cell? ⟨p, 0, none⟩ = some (.int .i64 rn) ∧ w'.cell? ⟨p, 1, none⟩ = some (.int .i64 rs) ∧ w'.cell? ⟨p, 2, none⟩ = some (.int .i64 rd) ∧ w'.cell? ⟨p, 3, none⟩ = some (.int .i64 rx)) (first | exact X0 | exact X1 | go_keep) (first
              | (go_at_call 91; go_must (refine (HLed.out _ (below_drewC (Below.refl _ _) 1)).mono ?_; rintro e w4 ⟨rfl, hb4⟩; have HB4 : Hid (Below W3.heap.size W3 w4) := Lib.hid ((below_drewC (Below.refl _ _) 1).trans hb4); have HK4 := Lib.hid (HK3.out.below HB4.out HK3.out.lt); have X1 := cells4 HK4.out; clear hb4)))
            clear X0
            have b0 : w4.cell? ⟨p, 0, none⟩ = some (.int .i64 rn) := HK4.out.cell 0
            have b1 : w4.cell? ⟨p, 1, none⟩ = some (.int .i64 rs) := HK4.out.cell 1
            have b2 : w4.cell? ⟨p, 2, none⟩ = some (.int .i64 rd) := HK4.out.cell 2
            have b3 : w4.cell? ⟨p, 3, none⟩ = some (.int .i64 rx) := HK4.out.cell 3
            have a0 : ∀ k, (w4.drewN k).cell? ⟨p, 0, none⟩ = some (.int .i64 rn) := fun k => HK4.out.cell 0
            go_wp2_with fail
            refine (HFree.out _).mono ?_
            rintro e w5 ⟨rfl, hb5⟩
            clear b0 b1 b2 b3 a0
            have HB5 : Hid (Below W3.heap.size W3 w5) := Lib.hid (HB4.out.trans (hb5.mono HB4.out.size))
            have HK5 := Lib.hid (HK4.out.below hb5 HK4.out.lt)
            clear hb5
            have b0 : w5.cell? ⟨p, 0, none⟩ = some (.int .i64 rn) := HK5.out.cell 0
            have b1 : w5.cell? ⟨p, 1, none⟩ = some (.int .i64 rs) := HK5.out.cell 1
            have b2 : w5.cell? ⟨p, 2, none⟩ = some (.int .i64 rd) := HK5.out.cell 2
            have b3 : w5.cell? ⟨p, 3, none⟩ = some (.int .i64 rx) := HK5.out.cell 3
            have a0 : ∀ k, (w5.drewN k).cell? ⟨p, 0, none⟩ = some (.int .i64 rn) := fun k => HK5.out.cell 0
            go_wp2_with fail
            refine (HWi.out _).mono ?_
            rintro e w9 ⟨rfl, hw⟩
            rw [hw]
            clear hw w9
            go_wp2_with fail
            go_roundw
            case rel => exact ⟨i1, rfl, hi1, by rw [if_neg (by have := HI1.out; omega), HI1.out, Nat.add_sub_cancel, ← HRi.out], by rw [HI1.out]; exact HNxt.out, HB3.out.trans (HB5.out.mono HB3.out.size)⟩
            case measure => have := HI1.out; simp [intOf]; omega
          case neg =>
          have t3 : (rs == 3) = false := by simp [s3]
          have hrf : r = false := HFr.out (fun h => by
            obtain ⟨⟨a1, a2, a3, a4⟩, a5, a6, a7⟩ := HOk.out.1 h
            omega)
          clear s1 s2 s3
          go_wp2_with fail
          rw [← hW3, ← hp]
          clear hW3 hp
          go_region_held3 (fun w' => w'.cell? ⟨p, 0, none⟩ = some (.int .i64 rn) ∧ w'.cell? ⟨p, 1, none⟩ = some (.int .i64 rs) ∧ w'.cell? ⟨p, 2, none⟩ = some (.int .i64 rd) ∧ w'.cell? ⟨p, 3, none⟩ = some (.int .i64 rx)) (first | exact X0 | exact X1 | go_keep) (first
            | (go_at_call 91; go_must (refine (HLed.out _ (below_drewC (Below.refl _ _) 1)).mono ?_; rintro e w4 ⟨rfl, hb4⟩; have HB4 : Hid (Below W3.heap.size W3 w4) := Lib.hid ((below_drewC (Below.refl _ _) 1).trans hb4); have HK4 := Lib.hid (HK3.out.below HB4.out HK3.out.lt); have X1 := cells4 HK4.out; clear hb4)))
          clear X0
          have b0 : w4.cell? ⟨p, 0, none⟩ = some (.int .i64 rn) := HK4.out.cell 0
          have b1 : w4.cell? ⟨p, 1, none⟩ = some (.int .i64 rs) := HK4.out.cell 1
          have b2 : w4.cell? ⟨p, 2, none⟩ = some (.int .i64 rd) := HK4.out.cell 2
          have b3 : w4.cell? ⟨p, 3, none⟩ = some (.int .i64 rx) := HK4.out.cell 3
          have a0 : ∀ k, (w4.drewN k).cell? ⟨p, 0, none⟩ = some (.int .i64 rn) := fun k => HK4.out.cell 0
          go_wp2_with fail
          refine (HFree.out _).mono ?_
          rintro e w5 ⟨rfl, hb5⟩
          clear b0 b1 b2 b3 a0
          have HB5 : Hid (Below W3.heap.size W3 w5) := Lib.hid (HB4.out.trans (hb5.mono HB4.out.size))
          have HK5 := Lib.hid (HK4.out.below hb5 HK4.out.lt)
          clear hb5
          have b0 : w5.cell? ⟨p, 0, none⟩ = some (.int .i64 rn) := HK5.out.cell 0
          have b1 : w5.cell? ⟨p, 1, none⟩ = some (.int .i64 rs) := HK5.out.cell 1
          have b2 : w5.cell? ⟨p, 2, none⟩ = some (.int .i64 rd) := HK5.out.cell 2
          have b3 : w5.cell? ⟨p, 3, none⟩ = some (.int .i64 rx) := HK5.out.cell 3
          have a0 : ∀ k, (w5.drewN k).cell? ⟨p, 0, none⟩ = some (.int .i64 rn) := fun k => HK5.out.cell 0
          go_wp2_with fail
          refine (HWi.out _).mono ?_
          rintro e w9 ⟨rfl, hw⟩
          rw [hw]
          clear hw w9
          go_wp2_with fail
          try rw [Exit.noGoto_ret]
          go_ret
          exact ⟨by first | rfl | (rw [hrf]; rfl), HB3.out.trans (HB5.out.mono HB3.out.size)⟩
      case neg =>
        have hlast : ¬ (true = true ∧ i + 1 = n) := fun h => hlast h.2
        have u7 : ((i : Int) == (n : Int) - 1) = false := by simp; omega
        have hw8 : IntKind.i64.wrap ((i : Int) + 1) = (i1 : Int) := by rw [IntWalk.i64_in _ (by omega)]; omega
        have hi1 : i1 ≤ n := by omega
        have hi2 : i1 ≤ c := by omega
        obtain ⟨A', hA'⟩ : ∃ A', A' = if c = i1 then some (⟨b, off, none⟩ : Addr) else some ⟨b, off + i1 * 4, none⟩ := ⟨_, rfl⟩
        have kc := fun (u : World) => run_cutC Try.prog 53 57 Try.underlying53 (by kernel_rfl) b off n c i1 hi1 u
        rw [← hA'] at kc
        have HA' := Lib.hid hA'
        clear hA'
        have HLed := Lib.hid (fun W (hW : Below W3.heap.size W3 W) => led_any (n := rn) (s := rs) (d := rd) (x := rx) (me := me) (nn := nn) A' (n - i1) (c - i1) W (by omega) (by omega) (fun hm => ⟨b, off + i1 * 4, by rw [HA'.out, if_neg (by omega)], Nat.lt_of_lt_of_le HbW.out hW.size, (hW.cell (p := ⟨b, off + i1 * 4, none⟩) HbW.out).trans (HNx.out (by omega))⟩))
        obtain ⟨q, hq⟩ : ∃ q, q = decide (Led rd rx me nn (n - i1)) := ⟨_, rfl⟩
        rw [← hq] at HLed
        have HQ := Lib.hid hq
        clear hq
        have HI1 := Lib.hid hi1e
        clear hi1e
        have HLast : Hid (¬ (true = true ∧ i + 1 = n)) := Lib.hid hlast
        have hin2 : i < n := hlt
        clear hlast
        have HWi0 := Lib.hid (fun w => within_any (x := rn) (a := lo) (b := 1099511627776) w)
        obtain ⟨y, hy⟩ : ∃ y, y = decide (lo ≤ rn ∧ rn ≤ 1099511627776) := ⟨_, rfl⟩
        rw [← hy] at HWi0
        have HY := Lib.hid hy
        clear hy
        have HYy : Hid (y = true → 0 ≤ rn ∧ rn ≤ 1099511627776 ∧ (0 < i → pn < rn)) := Lib.hid (fun h => by
          rw [HY.out] at h
          have h2 := of_decide_eq_true h
          have h3 := HLo.out
          have h4 := HPos.out
          by_cases e : i = 0
          · rw [if_pos e] at h3; omega
          · rw [if_neg e] at h3
            have := h4 (by omega)
            omega)
        have HNy : Hid (y = false → ¬ (0 ≤ rn ∧ rn ≤ 1099511627776 ∧ (0 < i → pn < rn))) := Lib.hid (fun h h2 => by
          rw [HY.out] at h
          have h3 := HLo.out
          refine of_decide_eq_false h ?_
          by_cases e : i = 0
          · rw [if_pos e] at h3; omega
          · rw [if_neg e] at h3
            have := h2.2.2 (by omega)
            omega)
        have HYf : Hid (q = true → rs ≠ 3 → (if true = true ∧ i + 1 = n then rd = -1 ∧ rx = 0 else (rs ≠ 3 ∧ 0 ≤ rd ∧ rd < 32 ∧ 1 ≤ rx ∧ rx ≤ 1099511627776) ∧ (rd = me → i + 1 < n ∧ nn = rx))) := Lib.hid (fun h hs => by
          rw [HQ.out] at h
          obtain ⟨h1, h2, h3⟩ := of_decide_eq_true h
          rw [if_neg HLast.out]
          have h9 := HI1.out
          exact ⟨⟨hs, h1.1, by omega, h2⟩, fun e => by have := h3 e; exact ⟨by omega, this.2⟩⟩)
        have HNf : Hid (q = false → ¬ (if true = true ∧ i + 1 = n then rd = -1 ∧ rx = 0 else (rs ≠ 3 ∧ 0 ≤ rd ∧ rd < 32 ∧ 1 ≤ rx ∧ rx ≤ 1099511627776) ∧ (rd = me → i + 1 < n ∧ nn = rx))) := Lib.hid (fun h h2 => by
          rw [HQ.out] at h
          refine of_decide_eq_false h ?_
          rw [if_neg HLast.out] at h2
          have h9 := HI1.out
          exact ⟨⟨h2.1.2.1, by omega⟩, h2.1.2.2.2, fun e => by have := h2.2 e; exact ⟨by omega, this.2⟩⟩)
        cases hfv : q
        case false =>
          have hnf := HNf.out hfv
          have hrf : r = false := HFr.out (fun h => by
            obtain ⟨⟨a1, a2, a3, a4⟩, a5, a6, a7⟩ := HOk.out.1 h
            exact hnf a7)
          rw [hfv] at HLed
          clear hnf hfv
          go_wp2_with fail
          rw [← hW3, ← hp]
          clear hW3 hp
          go_region_held3 (fun w' => w'.cell? ⟨p, 0, none⟩ = some (.int .i64 rn) ∧ w'.cell? ⟨p, 1, none⟩ = some (.int .i64 rs) ∧ w'.cell? ⟨p, 2, none⟩ = some (.int .i64 rd) ∧ w'.cell? ⟨p, 3, none⟩ = some (.int .i64 rx)) (first | exact X0 | exact X1 | go_keep) (first
            | (go_at_call 91; go_must (refine (HLed.out _ (below_drewC (Below.refl _ _) 1)).mono ?_; rintro e w4 ⟨rfl, hb4⟩; have HB4 : Hid (Below W3.heap.size W3 w4) := Lib.hid ((below_drewC (Below.refl _ _) 1).trans hb4); have HK4 := Lib.hid (HK3.out.below HB4.out HK3.out.lt); have X1 := cells4 HK4.out; clear hb4)))
          clear X0
          have b0 : w4.cell? ⟨p, 0, none⟩ = some (.int .i64 rn) := HK4.out.cell 0
          have b1 : w4.cell? ⟨p, 1, none⟩ = some (.int .i64 rs) := HK4.out.cell 1
          have b2 : w4.cell? ⟨p, 2, none⟩ = some (.int .i64 rd) := HK4.out.cell 2
          have b3 : w4.cell? ⟨p, 3, none⟩ = some (.int .i64 rx) := HK4.out.cell 3
          have a0 : ∀ k, (w4.drewN k).cell? ⟨p, 0, none⟩ = some (.int .i64 rn) := fun k => HK4.out.cell 0
          go_wp2_with fail
          try rw [Exit.noGoto_ret]
          go_ret
          exact ⟨by first | rfl | (rw [hrf]; rfl), HB3.out.trans (HB4.out.mono HB3.out.size)⟩
        case true =>
        have HFit := Lib.hid (HYf.out hfv)
        rw [hfv] at HLed
        clear hfv
        cases hyv : y
        case false =>
          have hny := HNy.out hyv
          have hrf : r = false := HFr.out (fun h => by
            obtain ⟨⟨a1, a2, a3, a4⟩, a5, a6, a7⟩ := HOk.out.1 h
            exact hny ⟨by omega, by omega, fun h => (a5 h).1⟩)
          rw [hyv] at HWi0
          have HWi := Lib.hid HWi0.out
          clear hny hyv
          go_wp2_with fail
          rw [← hW3, ← hp]
          clear hW3 hp
          go_region_held3 (fun w' => w'.cell? ⟨p, 0, none⟩ = some (.int .i64 rn) ∧ w'.cell? ⟨p, 1, none⟩ = some (.int .i64 rs) ∧ w'.cell? ⟨p, 2, none⟩ = some (.int .i64 rd) ∧ w'.cell? ⟨p, 3, none⟩ = some (.int .i64 rx)) (first | exact X0 | exact X1 | go_keep) (first
            | (go_at_call 91; go_must (refine (HLed.out _ (below_drewC (Below.refl _ _) 1)).mono ?_; rintro e w4 ⟨rfl, hb4⟩; have HB4 : Hid (Below W3.heap.size W3 w4) := Lib.hid ((below_drewC (Below.refl _ _) 1).trans hb4); have HK4 := Lib.hid (HK3.out.below HB4.out HK3.out.lt); have X1 := cells4 HK4.out; clear hb4)))
          clear X0
          have b0 : w4.cell? ⟨p, 0, none⟩ = some (.int .i64 rn) := HK4.out.cell 0
          have b1 : w4.cell? ⟨p, 1, none⟩ = some (.int .i64 rs) := HK4.out.cell 1
          have b2 : w4.cell? ⟨p, 2, none⟩ = some (.int .i64 rd) := HK4.out.cell 2
          have b3 : w4.cell? ⟨p, 3, none⟩ = some (.int .i64 rx) := HK4.out.cell 3
          have a0 : ∀ k, (w4.drewN k).cell? ⟨p, 0, none⟩ = some (.int .i64 rn) := fun k => HK4.out.cell 0
          go_wp2_with fail
          refine (HWi.out _).mono ?_
          rintro e w9 ⟨rfl, hw⟩
          rw [hw]
          clear hw w9
          go_wp2_with fail
          try rw [Exit.noGoto_ret]
          go_ret
          exact ⟨by first | rfl | (rw [hrf]; rfl), HB3.out.trans (HB4.out.mono HB3.out.size)⟩
        case true =>
        obtain ⟨y1, y2, y3⟩ := HYy.out hyv
        rw [hyv] at HWi0
        have HWi := Lib.hid HWi0.out
        clear hyv
        by_cases s1 : rs = 1
        case pos =>
          have t1 : (rs == 1) = true := by simp [s1]
          by_cases g0 : 0 < rn
          case pos =>
            have t2 : decide (0 < rn) = true := decide_eq_true g0
            have HNxt : Hid (∀ j, j < i + 1 → CellOk l me true j) := Lib.hid (fun j hj => by
              by_cases e : j = i
              · subst e
                exact HOk.out.2 ⟨⟨by omega, by omega, by omega, by omega⟩, fun h => by omega, fun h => by omega, HFit.out (by omega)⟩
              · exact HA.out j (by omega))
            clear s1
            go_wp2_with fail
            rw [← hW3, ← hp]
            clear hW3 hp
            go_region_held3 (fun w' => w'.cell? ⟨p, 0, none⟩ = some (.int .i64 rn) ∧ w'.cell? ⟨p, 1, none⟩ = some (.int .i64 rs) ∧ w'.cell? ⟨p, 2, none⟩ = some (.int .i64 rd) ∧ w'.cell? ⟨p, 3, none⟩ = some (.int .i64 rx)) (first | exact X0 | exact X1 | go_keep) (first
              | (go_at_call 91; go_must (refine (HLed.out _ (below_drewC (Below.refl _ _) 1)).mono ?_; rintro e w4 ⟨rfl, hb4⟩; have HB4 : Hid (Below W3.heap.size W3 w4) := Lib.hid ((below_drewC (Below.refl _ _) 1).trans hb4); have HK4 := Lib.hid (HK3.out.below HB4.out HK3.out.lt); have X1 := cells4 HK4.out; clear hb4)))
            clear X0
            have b0 : w4.cell? ⟨p, 0, none⟩ = some (.int .i64 rn) := HK4.out.cell 0
            have b1 : w4.cell? ⟨p, 1, none⟩ = some (.int .i64 rs) := HK4.out.cell 1
            have b2 : w4.cell? ⟨p, 2, none⟩ = some (.int .i64 rd) := HK4.out.cell 2
            have b3 : w4.cell? ⟨p, 3, none⟩ = some (.int .i64 rx) := HK4.out.cell 3
            have a0 : ∀ k, (w4.drewN k).cell? ⟨p, 0, none⟩ = some (.int .i64 rn) := fun k => HK4.out.cell 0
            go_wp2_with fail
            refine (HWi.out _).mono ?_
            rintro e w9 ⟨rfl, hw⟩
            rw [hw]
            clear hw w9
            go_wp2_with fail
            go_roundw
            case rel => exact ⟨i1, rfl, hi1, by rw [if_neg (by have := HI1.out; omega), HI1.out, Nat.add_sub_cancel, ← HRi.out], by rw [HI1.out]; exact HNxt.out, HB3.out.trans (HB4.out.mono HB3.out.size)⟩
            case measure => have := HI1.out; simp [intOf]; omega
          case neg =>
            have t2 : decide (0 < rn) = false := decide_eq_false g0
            have hrf : r = false := HFr.out (fun h => by
              obtain ⟨⟨a1, a2, a3, a4⟩, a5, a6, a7⟩ := HOk.out.1 h
              have := a6 (by omega); omega)
            clear s1 g0
            go_wp2_with fail
            rw [← hW3, ← hp]
            clear hW3 hp
            go_region_held3 (fun w' => w'.cell? ⟨p, 0, none⟩ = some (.int .i64 rn) ∧ w'.cell? ⟨p, 1, none⟩ = some (.int .i64 rs) ∧ w'.cell? ⟨p, 2, none⟩ = some (.int .i64 rd) ∧ w'.cell? ⟨p, 3, none⟩ = some (.int .i64 rx)) (first | exact X0 | exact X1 | go_keep) (first
              | (go_at_call 91; go_must (refine (HLed.out _ (below_drewC (Below.refl _ _) 1)).mono ?_; rintro e w4 ⟨rfl, hb4⟩; have HB4 : Hid (Below W3.heap.size W3 w4) := Lib.hid ((below_drewC (Below.refl _ _) 1).trans hb4); have HK4 := Lib.hid (HK3.out.below HB4.out HK3.out.lt); have X1 := cells4 HK4.out; clear hb4)))
            clear X0
            have b0 : w4.cell? ⟨p, 0, none⟩ = some (.int .i64 rn) := HK4.out.cell 0
            have b1 : w4.cell? ⟨p, 1, none⟩ = some (.int .i64 rs) := HK4.out.cell 1
            have b2 : w4.cell? ⟨p, 2, none⟩ = some (.int .i64 rd) := HK4.out.cell 2
            have b3 : w4.cell? ⟨p, 3, none⟩ = some (.int .i64 rx) := HK4.out.cell 3
            have a0 : ∀ k, (w4.drewN k).cell? ⟨p, 0, none⟩ = some (.int .i64 rn) := fun k => HK4.out.cell 0
            go_wp2_with fail
            refine (HWi.out _).mono ?_
            rintro e w9 ⟨rfl, hw⟩
            rw [hw]
            clear hw w9
            go_wp2_with fail
            try rw [Exit.noGoto_ret]
            go_ret
            exact ⟨by first | rfl | (rw [hrf]; rfl), HB3.out.trans (HB4.out.mono HB3.out.size)⟩
        case neg =>
        have t1 : (rs == 1) = false := by simp [s1]
        by_cases s2 : rs = 2
        case pos =>
          have t2 : (rs == 2) = true := by simp [s2]
          by_cases g0 : 0 < rn
          case neg =>
            have t3 : decide (0 < rn) = false := decide_eq_false g0
            have hrf : r = false := HFr.out (fun h => by
              obtain ⟨⟨a1, a2, a3, a4⟩, a5, a6, a7⟩ := HOk.out.1 h
              have := a6 (by omega); omega)
            clear s1 s2 g0
            go_wp2_with fail
            rw [← hW3, ← hp]
            clear hW3 hp
            go_region_held3 (fun w' => w'.cell? ⟨p, 0, none⟩ = some (.int .i64 rn) ∧ w'.cell? ⟨p, 1, none⟩ = some (.int .i64 rs) ∧ w'.cell? ⟨p, 2, none⟩ = some (.int .i64 rd) ∧ w'.cell? ⟨p, 3, none⟩ = some (.int .i64 rx)) (first | exact X0 | exact X1 | go_keep) (first
              | (go_at_call 91; go_must (refine (HLed.out _ (below_drewC (Below.refl _ _) 1)).mono ?_; rintro e w4 ⟨rfl, hb4⟩; have HB4 : Hid (Below W3.heap.size W3 w4) := Lib.hid ((below_drewC (Below.refl _ _) 1).trans hb4); have HK4 := Lib.hid (HK3.out.below HB4.out HK3.out.lt); have X1 := cells4 HK4.out; clear hb4)))
            clear X0
            have b0 : w4.cell? ⟨p, 0, none⟩ = some (.int .i64 rn) := HK4.out.cell 0
            have b1 : w4.cell? ⟨p, 1, none⟩ = some (.int .i64 rs) := HK4.out.cell 1
            have b2 : w4.cell? ⟨p, 2, none⟩ = some (.int .i64 rd) := HK4.out.cell 2
            have b3 : w4.cell? ⟨p, 3, none⟩ = some (.int .i64 rx) := HK4.out.cell 3
            have a0 : ∀ k, (w4.drewN k).cell? ⟨p, 0, none⟩ = some (.int .i64 rn) := fun k => HK4.out.cell 0
            go_wp2_with fail
            refine (HWi.out _).mono ?_
            rintro e w9 ⟨rfl, hw⟩
            rw [hw]
            clear hw w9
            go_wp2_with fail
            try rw [Exit.noGoto_ret]
            go_ret
            exact ⟨by first | rfl | (rw [hrf]; rfl), HB3.out.trans (HB4.out.mono HB3.out.size)⟩
          have t3 : decide (0 < rn) = true := decide_eq_true g0
          by_cases i0 : i = 0
          case neg =>
            have t4 : ((i : Int) == 0) = false := by simp; omega
            have hrf : r = false := HFr.out (fun h => by
              obtain ⟨⟨a1, a2, a3, a4⟩, a5, a6, a7⟩ := HOk.out.1 h
              have := (a5 (by omega)).2; omega)
            clear s1 s2 g0 i0
            go_wp2_with fail
            rw [← hW3, ← hp]
            clear hW3 hp
            go_region_held3 (fun w' => w'.cell? ⟨p, 0, none⟩ = some (.int .i64 rn) ∧ w'.cell? ⟨p, 1, none⟩ = some (.int .i64 rs) ∧ w'.cell? ⟨p, 2, none⟩ = some (.int .i64 rd) ∧ w'.cell? ⟨p, 3, none⟩ = some (.int .i64 rx)) (first | exact X0 | exact X1 | go_keep) (first
              | (go_at_call 91; go_must (refine (HLed.out _ (below_drewC (Below.refl _ _) 1)).mono ?_; rintro e w4 ⟨rfl, hb4⟩; have HB4 : Hid (Below W3.heap.size W3 w4) := Lib.hid ((below_drewC (Below.refl _ _) 1).trans hb4); have HK4 := Lib.hid (HK3.out.below HB4.out HK3.out.lt); have X1 := cells4 HK4.out; clear hb4)))
            clear X0
            have b0 : w4.cell? ⟨p, 0, none⟩ = some (.int .i64 rn) := HK4.out.cell 0
            have b1 : w4.cell? ⟨p, 1, none⟩ = some (.int .i64 rs) := HK4.out.cell 1
            have b2 : w4.cell? ⟨p, 2, none⟩ = some (.int .i64 rd) := HK4.out.cell 2
            have b3 : w4.cell? ⟨p, 3, none⟩ = some (.int .i64 rx) := HK4.out.cell 3
            have a0 : ∀ k, (w4.drewN k).cell? ⟨p, 0, none⟩ = some (.int .i64 rn) := fun k => HK4.out.cell 0
            go_wp2_with fail
            refine (HWi.out _).mono ?_
            rintro e w9 ⟨rfl, hw⟩
            rw [hw]
            clear hw w9
            go_wp2_with fail
            try rw [Exit.noGoto_ret]
            go_ret
            exact ⟨by first | rfl | (rw [hrf]; rfl), HB3.out.trans (HB4.out.mono HB3.out.size)⟩
          have t4 : ((i : Int) == 0) = true := by simp; omega
          have HNxt : Hid (∀ j, j < i + 1 → CellOk l me true j) := Lib.hid (fun j hj => by
            by_cases e : j = i
            · subst e
              exact HOk.out.2 ⟨⟨by omega, by omega, by omega, by omega⟩, fun h => by omega, fun h => by omega, HFit.out (by omega)⟩
            · exact HA.out j (by omega))
          have I0 := Lib.hid i0
          clear s1 s2 i0
          go_wp2_with fail
          rw [← hW3, ← hp]
          clear hW3 hp
          go_region_held3 (fun w' => w'.cell? ⟨p, 0, none⟩ = some (.int .i64 rn) ∧ w'.cell? ⟨p, 1, none⟩ = some (.int .i64 rs) ∧ w'.cell? ⟨p, 2, none⟩ = some (.int .i64 rd) ∧ w'.cell? ⟨p, 3, none⟩ = some (.int .i64 rx)) (first | exact X0 | exact X1 | go_keep) (first
            | (go_at_call 91; go_must (refine (HLed.out _ (below_drewC (Below.refl _ _) 1)).mono ?_; rintro e w4 ⟨rfl, hb4⟩; have HB4 : Hid (Below W3.heap.size W3 w4) := Lib.hid ((below_drewC (Below.refl _ _) 1).trans hb4); have HK4 := Lib.hid (HK3.out.below HB4.out HK3.out.lt); have X1 := cells4 HK4.out; clear hb4)))
          clear X0
          have b0 : w4.cell? ⟨p, 0, none⟩ = some (.int .i64 rn) := HK4.out.cell 0
          have b1 : w4.cell? ⟨p, 1, none⟩ = some (.int .i64 rs) := HK4.out.cell 1
          have b2 : w4.cell? ⟨p, 2, none⟩ = some (.int .i64 rd) := HK4.out.cell 2
          have b3 : w4.cell? ⟨p, 3, none⟩ = some (.int .i64 rx) := HK4.out.cell 3
          have a0 : ∀ k, (w4.drewN k).cell? ⟨p, 0, none⟩ = some (.int .i64 rn) := fun k => HK4.out.cell 0
          go_wp2_with fail
          refine (HWi.out _).mono ?_
          rintro e w9 ⟨rfl, hw⟩
          rw [hw]
          clear hw w9
          go_wp2_with fail
          go_roundw
          case rel => exact ⟨i1, rfl, hi1, by rw [if_neg (by have := HI1.out; omega), HI1.out, Nat.add_sub_cancel, ← HRi.out], by rw [HI1.out]; exact HNxt.out, HB3.out.trans (HB4.out.mono HB3.out.size)⟩
          case measure => have := HI1.out; simp [intOf]; omega
        case neg =>
        have t2 : (rs == 2) = false := by simp [s2]
        by_cases s3 : rs = 3
        case pos =>
          have t3 : (rs == 3) = true := by simp [s3]
          have hrf : r = false := HFr.out (fun h => by
            obtain ⟨⟨a1, a2, a3, a4⟩, a5, a6, a7⟩ := HOk.out.1 h
            rw [if_neg HLast.out] at a7; exact a7.1.1 s3)
          clear s1 s2 s3
          go_wp2_with fail
          rw [← hW3, ← hp]
          clear hW3 hp
          go_region_held3 (fun w' => w'.cell? ⟨p, 0, none⟩ = some (.int .i64 rn) ∧ w'.cell? ⟨p, 1, none⟩ = some (.int .i64 rs) ∧ w'.cell? ⟨p, 2, none⟩ = some (.int .i64 rd) ∧ w'.cell? ⟨p, 3, none⟩ = some (.int .i64 rx)) (first | exact X0 | exact X1 | go_keep) (first
            | (go_at_call 91; go_must (refine (HLed.out _ (below_drewC (Below.refl _ _) 1)).mono ?_; rintro e w4 ⟨rfl, hb4⟩; have HB4 : Hid (Below W3.heap.size W3 w4) := Lib.hid ((below_drewC (Below.refl _ _) 1).trans hb4); have HK4 := Lib.hid (HK3.out.below HB4.out HK3.out.lt); have X1 := cells4 HK4.out; clear hb4)))
          clear X0
          have b0 : w4.cell? ⟨p, 0, none⟩ = some (.int .i64 rn) := HK4.out.cell 0
          have b1 : w4.cell? ⟨p, 1, none⟩ = some (.int .i64 rs) := HK4.out.cell 1
          have b2 : w4.cell? ⟨p, 2, none⟩ = some (.int .i64 rd) := HK4.out.cell 2
          have b3 : w4.cell? ⟨p, 3, none⟩ = some (.int .i64 rx) := HK4.out.cell 3
          have a0 : ∀ k, (w4.drewN k).cell? ⟨p, 0, none⟩ = some (.int .i64 rn) := fun k => HK4.out.cell 0
          go_wp2_with fail
          refine (HWi.out _).mono ?_
          rintro e w9 ⟨rfl, hw⟩
          rw [hw]
          clear hw w9
          go_wp2_with fail
          try rw [Exit.noGoto_ret]
          go_ret
          exact ⟨by first | rfl | (rw [hrf]; rfl), HB3.out.trans (HB4.out.mono HB3.out.size)⟩
        case neg =>
        have t3 : (rs == 3) = false := by simp [s3]
        have hrf : r = false := HFr.out (fun h => by
          obtain ⟨⟨a1, a2, a3, a4⟩, a5, a6, a7⟩ := HOk.out.1 h
          omega)
        clear s1 s2 s3
        go_wp2_with fail
        rw [← hW3, ← hp]
        clear hW3 hp
        go_region_held3 (fun w' => w'.cell? ⟨p, 0, none⟩ = some (.int .i64 rn) ∧ w'.cell? ⟨p, 1, none⟩ = some (.int .i64 rs) ∧ w'.cell? ⟨p, 2, none⟩ = some (.int .i64 rd) ∧ w'.cell? ⟨p, 3, none⟩ = some (.int .i64 rx)) (first | exact X0 | exact X1 | go_keep) (first
          | (go_at_call 91; go_must (refine (HLed.out _ (below_drewC (Below.refl _ _) 1)).mono ?_; rintro e w4 ⟨rfl, hb4⟩; have HB4 : Hid (Below W3.heap.size W3 w4) := Lib.hid ((below_drewC (Below.refl _ _) 1).trans hb4); have HK4 := Lib.hid (HK3.out.below HB4.out HK3.out.lt); have X1 := cells4 HK4.out; clear hb4)))
        clear X0
        have b0 : w4.cell? ⟨p, 0, none⟩ = some (.int .i64 rn) := HK4.out.cell 0
        have b1 : w4.cell? ⟨p, 1, none⟩ = some (.int .i64 rs) := HK4.out.cell 1
        have b2 : w4.cell? ⟨p, 2, none⟩ = some (.int .i64 rd) := HK4.out.cell 2
        have b3 : w4.cell? ⟨p, 3, none⟩ = some (.int .i64 rx) := HK4.out.cell 3
        have a0 : ∀ k, (w4.drewN k).cell? ⟨p, 0, none⟩ = some (.int .i64 rn) := fun k => HK4.out.cell 0
        go_wp2_with fail
        refine (HWi.out _).mono ?_
        rintro e w9 ⟨rfl, hw⟩
        rw [hw]
        clear hw w9
        go_wp2_with fail
        try rw [Exit.noGoto_ret]
        go_ret
        exact ⟨by first | rfl | (rw [hrf]; rfl), HB3.out.trans (HB4.out.mono HB3.out.size)⟩
  | false =>
    go_enter Try.func70, Try.ntmps70
    go_wp2_with fail
    refine wp_scope_straight ?_
    go_wp2_with fail
    refine wp_label ?_
    go_wp2_with fail
    go_loopw [7, 20] (fun lo j wr => ∃ i : Nat, j = .int .i64 i ∧ i ≤ n ∧ lo = .int .i64 (if i = 0 then 0 else (ceA l (i - 1)).n + 1) ∧ (∀ j, j < i → CellOk l me false j) ∧ Below w.heap.size w wr) (fun _ j _ => n - (intOf j).toNat)
    case atStart => exact ⟨0, rfl, by omega, by simp, (fun j hj => by omega), Below.refl _ _⟩
    case round =>
      obtain ⟨i, rfl, hi, rfl, hall, hb⟩ := hrel
      obtain ⟨w1, rfl⟩ : ∃ w1 : World, w1 = wr := ⟨_, rfl⟩
      have HB := Lib.hid hb
      have HA := Lib.hid hall
      clear hb hall
      obtain ⟨lo, hlo⟩ : ∃ lo, lo = if i = 0 then 0 else (ceA l (i - 1)).n + 1 := ⟨_, rfl⟩
      rw [← hlo]
      by_cases hlt : i < n
      case neg =>
        have hrt : r = true := HT0.out ⟨(by intro h; first | (cases h; done) | (rw [HL.out]; omega)), fun j hj => HA.out j (by rw [HL.out] at hj; omega)⟩
        clear hlo
        go_wp2_with fail
        try rw [Exit.noGoto_ret]
        go_ret
        exact ⟨by first | rfl | (rw [hrt]; rfl), HB.out⟩
      case pos =>
      obtain ⟨b, off, rfl, hbw, hc⟩ := (HI.out.next HB.out).rd.ces_ (by omega)
      have hil : i < l.length := by rw [HL.out]; exact hlt
      have hcg := hc i _ (ceA_get hil)
      obtain ⟨rr, hr⟩ : ∃ r, r = ceA l i := ⟨_, rfl⟩
      have HRi := Lib.hid hr
      rw [← hr] at hcg
      obtain ⟨rn, rs, rd, rx⟩ := rr
      simp only at hcg
      obtain ⟨m0, m1, m2, m3⟩ := hcg
      have HI2 := Lib.hid (ceA_I HI.out.i hil)
      rw [← HRi.out] at HI2
      obtain ⟨pn, hpn⟩ : ∃ x, x = (ceA l (i - 1)).n := ⟨_, rfl⟩
      obtain ⟨nn, hnn⟩ : ∃ x, x = (ceA l (i + 1)).n := ⟨_, rfl⟩
      have HOk := Lib.hid (cellOk_is (me := me) (sink := false) HL.out HRi.out hpn hnn)
      have HNn := Lib.hid hnn
      rw [← hpn] at hlo
      have HLo := Lib.hid hlo
      have HFr : Hid (¬ CellOk l me false i → r = false) := Lib.hid (fun h => HF0.out (fun hg => h (hg.2 i hil)))
      obtain ⟨i1, hi1e⟩ : ∃ x, x = i + 1 := ⟨_, rfl⟩
      obtain ⟨p, hp⟩ : ∃ x, x = w1.heap.size := ⟨_, rfl⟩
      obtain ⟨W3, hW3⟩ : ∃ W, W = w1.alloc (.cells #[.int .i64 rn, .int .i64 rs, .int .i64 rd, .int .i64 rx] 57) := ⟨_, rfl⟩
      have hb13 : Below w1.heap.size w1 W3 := hW3 ▸ (Below.refl _ _).alloc (Nat.le_refl _) _
      have HB3 : Hid (Below w.heap.size w W3) := Lib.hid (HB.out.trans (hb13.mono HB.out.size))
      have HK3 : Hid (Blk W3 p 57 #[.int .i64 rn, .int .i64 rs, .int .i64 rd, .int .i64 rx]) := Lib.hid (by rw [hW3, hp]; exact Blk.new w1 _ _)
      have HbW : Hid (b < W3.heap.size) := Lib.hid (Nat.lt_of_lt_of_le hbw hb13.size)
      have HNx : Hid (i1 < n → W3.cell? ⟨b, off + i1 * 4, none⟩ = some (.int .i64 nn)) := Lib.hid (fun h => (hb13.cell (p := ⟨b, off + i1 * 4, none⟩) hbw).trans (by rw [hnn, ← hi1e]; exact (hc i1 _ (ceA_get (by rw [HL.out]; exact h))).1))
      have X0 : W3.cell? ⟨p, 0, none⟩ = some (.int .i64 rn) ∧ W3.cell? ⟨p, 1, none⟩ = some (.int .i64 rs) ∧ W3.cell? ⟨p, 2, none⟩ = some (.int .i64 rd) ∧ W3.cell? ⟨p, 3, none⟩ = some (.int .i64 rx) := ⟨HK3.out.cell 0, HK3.out.cell 1, HK3.out.cell 2, HK3.out.cell 3⟩
      have HPos : Hid (0 < i → 0 ≤ pn) := Lib.hid (fun h => by have := (HA.out (i - 1) (by omega)).1.1; rw [hpn]; exact this)
      have hrn := HI2.out.n
      clear hc hr hpn hnn hlo hb13 hbw
      have hlast : ¬ (false = true ∧ i + 1 = n) := fun h => by cases h.1
      have hw8 : IntKind.i64.wrap ((i : Int) + 1) = (i1 : Int) := by rw [IntWalk.i64_in _ (by omega)]; omega
      have hi1 : i1 ≤ n := by omega
      have hi2 : i1 ≤ c := by omega
      obtain ⟨A', hA'⟩ : ∃ A', A' = if c = i1 then some (⟨b, off, none⟩ : Addr) else some ⟨b, off + i1 * 4, none⟩ := ⟨_, rfl⟩
      have kc := fun (u : World) => run_cutC Try.prog 53 57 Try.underlying53 (by kernel_rfl) b off n c i1 hi1 u
      rw [← hA'] at kc
      have HA' := Lib.hid hA'
      clear hA'
      have HLed := Lib.hid (fun W (hW : Below W3.heap.size W3 W) => led_any (n := rn) (s := rs) (d := rd) (x := rx) (me := me) (nn := nn) A' (n - i1) (c - i1) W (by omega) (by omega) (fun hm => ⟨b, off + i1 * 4, by rw [HA'.out, if_neg (by omega)], Nat.lt_of_lt_of_le HbW.out hW.size, (hW.cell (p := ⟨b, off + i1 * 4, none⟩) HbW.out).trans (HNx.out (by omega))⟩))
      obtain ⟨q, hq⟩ : ∃ q, q = decide (Led rd rx me nn (n - i1)) := ⟨_, rfl⟩
      rw [← hq] at HLed
      have HQ := Lib.hid hq
      clear hq
      have HI1 := Lib.hid hi1e
      clear hi1e
      have HLast : Hid (¬ (false = true ∧ i + 1 = n)) := Lib.hid hlast
      have hin2 : i < n := hlt
      clear hlast
      have HWi0 := Lib.hid (fun w => within_any (x := rn) (a := lo) (b := 1099511627776) w)
      obtain ⟨y, hy⟩ : ∃ y, y = decide (lo ≤ rn ∧ rn ≤ 1099511627776) := ⟨_, rfl⟩
      rw [← hy] at HWi0
      have HY := Lib.hid hy
      clear hy
      have HYy : Hid (y = true → 0 ≤ rn ∧ rn ≤ 1099511627776 ∧ (0 < i → pn < rn)) := Lib.hid (fun h => by
        rw [HY.out] at h
        have h2 := of_decide_eq_true h
        have h3 := HLo.out
        have h4 := HPos.out
        by_cases e : i = 0
        · rw [if_pos e] at h3; omega
        · rw [if_neg e] at h3
          have := h4 (by omega)
          omega)
      have HNy : Hid (y = false → ¬ (0 ≤ rn ∧ rn ≤ 1099511627776 ∧ (0 < i → pn < rn))) := Lib.hid (fun h h2 => by
        rw [HY.out] at h
        have h3 := HLo.out
        refine of_decide_eq_false h ?_
        by_cases e : i = 0
        · rw [if_pos e] at h3; omega
        · rw [if_neg e] at h3
          have := h2.2.2 (by omega)
          omega)
      have HYf : Hid (q = true → rs ≠ 3 → (if false = true ∧ i + 1 = n then rd = -1 ∧ rx = 0 else (rs ≠ 3 ∧ 0 ≤ rd ∧ rd < 32 ∧ 1 ≤ rx ∧ rx ≤ 1099511627776) ∧ (rd = me → i + 1 < n ∧ nn = rx))) := Lib.hid (fun h hs => by
        rw [HQ.out] at h
        obtain ⟨h1, h2, h3⟩ := of_decide_eq_true h
        rw [if_neg HLast.out]
        have h9 := HI1.out
        exact ⟨⟨hs, h1.1, by omega, h2⟩, fun e => by have := h3 e; exact ⟨by omega, this.2⟩⟩)
      have HNf : Hid (q = false → ¬ (if false = true ∧ i + 1 = n then rd = -1 ∧ rx = 0 else (rs ≠ 3 ∧ 0 ≤ rd ∧ rd < 32 ∧ 1 ≤ rx ∧ rx ≤ 1099511627776) ∧ (rd = me → i + 1 < n ∧ nn = rx))) := Lib.hid (fun h h2 => by
        rw [HQ.out] at h
        refine of_decide_eq_false h ?_
        rw [if_neg HLast.out] at h2
        have h9 := HI1.out
        exact ⟨⟨h2.1.2.1, by omega⟩, h2.1.2.2.2, fun e => by have := h2.2 e; exact ⟨by omega, this.2⟩⟩)
      cases hfv : q
      case false =>
        have hnf := HNf.out hfv
        have hrf : r = false := HFr.out (fun h => by
          obtain ⟨⟨a1, a2, a3, a4⟩, a5, a6, a7⟩ := HOk.out.1 h
          exact hnf a7)
        rw [hfv] at HLed
        clear hnf hfv
        go_wp2_with fail
        rw [← hW3, ← hp]
        clear hW3 hp
        go_region_held3 (fun w' => w'.cell? ⟨p, 0, none⟩ = some (.int .i64 rn) ∧ w'.cell? ⟨p, 1, none⟩ = some (.int .i64 rs) ∧ w'.cell? ⟨p, 2, none⟩ = some (.int .i64 rd) ∧ w'.cell? ⟨p, 3, none⟩ = some (.int .i64 rx)) (first | exact X0 | exact X1 | go_keep) (first
          | (go_at_call 91; go_must (refine (HLed.out _ (below_drewC (Below.refl _ _) 1)).mono ?_; rintro e w4 ⟨rfl, hb4⟩; have HB4 : Hid (Below W3.heap.size W3 w4) := Lib.hid ((below_drewC (Below.refl _ _) 1).trans hb4); have HK4 := Lib.hid (HK3.out.below HB4.out HK3.out.lt); have X1 := cells4 HK4.out; clear hb4)))
        clear X0
        have b0 : w4.cell? ⟨p, 0, none⟩ = some (.int .i64 rn) := HK4.out.cell 0
        have b1 : w4.cell? ⟨p, 1, none⟩ = some (.int .i64 rs) := HK4.out.cell 1
        have b2 : w4.cell? ⟨p, 2, none⟩ = some (.int .i64 rd) := HK4.out.cell 2
        have b3 : w4.cell? ⟨p, 3, none⟩ = some (.int .i64 rx) := HK4.out.cell 3
        have a0 : ∀ k, (w4.drewN k).cell? ⟨p, 0, none⟩ = some (.int .i64 rn) := fun k => HK4.out.cell 0
        go_wp2_with fail
        try rw [Exit.noGoto_ret]
        go_ret
        exact ⟨by first | rfl | (rw [hrf]; rfl), HB3.out.trans (HB4.out.mono HB3.out.size)⟩
      case true =>
      have HFit := Lib.hid (HYf.out hfv)
      rw [hfv] at HLed
      clear hfv
      cases hyv : y
      case false =>
        have hny := HNy.out hyv
        have hrf : r = false := HFr.out (fun h => by
          obtain ⟨⟨a1, a2, a3, a4⟩, a5, a6, a7⟩ := HOk.out.1 h
          exact hny ⟨by omega, by omega, fun h => (a5 h).1⟩)
        rw [hyv] at HWi0
        have HWi := Lib.hid HWi0.out
        clear hny hyv
        go_wp2_with fail
        rw [← hW3, ← hp]
        clear hW3 hp
        go_region_held3 (fun w' => w'.cell? ⟨p, 0, none⟩ = some (.int .i64 rn) ∧ w'.cell? ⟨p, 1, none⟩ = some (.int .i64 rs) ∧ w'.cell? ⟨p, 2, none⟩ = some (.int .i64 rd) ∧ w'.cell? ⟨p, 3, none⟩ = some (.int .i64 rx)) (first | exact X0 | exact X1 | go_keep) (first
          | (go_at_call 91; go_must (refine (HLed.out _ (below_drewC (Below.refl _ _) 1)).mono ?_; rintro e w4 ⟨rfl, hb4⟩; have HB4 : Hid (Below W3.heap.size W3 w4) := Lib.hid ((below_drewC (Below.refl _ _) 1).trans hb4); have HK4 := Lib.hid (HK3.out.below HB4.out HK3.out.lt); have X1 := cells4 HK4.out; clear hb4)))
        clear X0
        have b0 : w4.cell? ⟨p, 0, none⟩ = some (.int .i64 rn) := HK4.out.cell 0
        have b1 : w4.cell? ⟨p, 1, none⟩ = some (.int .i64 rs) := HK4.out.cell 1
        have b2 : w4.cell? ⟨p, 2, none⟩ = some (.int .i64 rd) := HK4.out.cell 2
        have b3 : w4.cell? ⟨p, 3, none⟩ = some (.int .i64 rx) := HK4.out.cell 3
        have a0 : ∀ k, (w4.drewN k).cell? ⟨p, 0, none⟩ = some (.int .i64 rn) := fun k => HK4.out.cell 0
        go_wp2_with fail
        refine (HWi.out _).mono ?_
        rintro e w9 ⟨rfl, hw⟩
        rw [hw]
        clear hw w9
        go_wp2_with fail
        try rw [Exit.noGoto_ret]
        go_ret
        exact ⟨by first | rfl | (rw [hrf]; rfl), HB3.out.trans (HB4.out.mono HB3.out.size)⟩
      case true =>
      obtain ⟨y1, y2, y3⟩ := HYy.out hyv
      rw [hyv] at HWi0
      have HWi := Lib.hid HWi0.out
      clear hyv
      by_cases s1 : rs = 1
      case pos =>
        have t1 : (rs == 1) = true := by simp [s1]
        by_cases g0 : 0 < rn
        case pos =>
          have t2 : decide (0 < rn) = true := decide_eq_true g0
          have HNxt : Hid (∀ j, j < i + 1 → CellOk l me false j) := Lib.hid (fun j hj => by
            by_cases e : j = i
            · subst e
              exact HOk.out.2 ⟨⟨by omega, by omega, by omega, by omega⟩, fun h => by omega, fun h => by omega, HFit.out (by omega)⟩
            · exact HA.out j (by omega))
          clear s1
          go_wp2_with fail
          rw [← hW3, ← hp]
          clear hW3 hp
          go_region_held3 (fun w' => w'.cell? ⟨p, 0, none⟩ = some (.int .i64 rn) ∧ w'.cell? ⟨p, 1, none⟩ = some (.int .i64 rs) ∧ w'.cell? ⟨p, 2, none⟩ = some (.int .i64 rd) ∧ w'.cell? ⟨p, 3, none⟩ = some (.int .i64 rx)) (first | exact X0 | exact X1 | go_keep) (first
            | (go_at_call 91; go_must (refine (HLed.out _ (below_drewC (Below.refl _ _) 1)).mono ?_; rintro e w4 ⟨rfl, hb4⟩; have HB4 : Hid (Below W3.heap.size W3 w4) := Lib.hid ((below_drewC (Below.refl _ _) 1).trans hb4); have HK4 := Lib.hid (HK3.out.below HB4.out HK3.out.lt); have X1 := cells4 HK4.out; clear hb4)))
          clear X0
          have b0 : w4.cell? ⟨p, 0, none⟩ = some (.int .i64 rn) := HK4.out.cell 0
          have b1 : w4.cell? ⟨p, 1, none⟩ = some (.int .i64 rs) := HK4.out.cell 1
          have b2 : w4.cell? ⟨p, 2, none⟩ = some (.int .i64 rd) := HK4.out.cell 2
          have b3 : w4.cell? ⟨p, 3, none⟩ = some (.int .i64 rx) := HK4.out.cell 3
          have a0 : ∀ k, (w4.drewN k).cell? ⟨p, 0, none⟩ = some (.int .i64 rn) := fun k => HK4.out.cell 0
          go_wp2_with fail
          refine (HWi.out _).mono ?_
          rintro e w9 ⟨rfl, hw⟩
          rw [hw]
          clear hw w9
          go_wp2_with fail
          go_roundw
          case rel => exact ⟨i1, rfl, hi1, by rw [if_neg (by have := HI1.out; omega), HI1.out, Nat.add_sub_cancel, ← HRi.out], by rw [HI1.out]; exact HNxt.out, HB3.out.trans (HB4.out.mono HB3.out.size)⟩
          case measure => have := HI1.out; simp [intOf]; omega
        case neg =>
          have t2 : decide (0 < rn) = false := decide_eq_false g0
          have hrf : r = false := HFr.out (fun h => by
            obtain ⟨⟨a1, a2, a3, a4⟩, a5, a6, a7⟩ := HOk.out.1 h
            have := a6 (by omega); omega)
          clear s1 g0
          go_wp2_with fail
          rw [← hW3, ← hp]
          clear hW3 hp
          go_region_held3 (fun w' => w'.cell? ⟨p, 0, none⟩ = some (.int .i64 rn) ∧ w'.cell? ⟨p, 1, none⟩ = some (.int .i64 rs) ∧ w'.cell? ⟨p, 2, none⟩ = some (.int .i64 rd) ∧ w'.cell? ⟨p, 3, none⟩ = some (.int .i64 rx)) (first | exact X0 | exact X1 | go_keep) (first
            | (go_at_call 91; go_must (refine (HLed.out _ (below_drewC (Below.refl _ _) 1)).mono ?_; rintro e w4 ⟨rfl, hb4⟩; have HB4 : Hid (Below W3.heap.size W3 w4) := Lib.hid ((below_drewC (Below.refl _ _) 1).trans hb4); have HK4 := Lib.hid (HK3.out.below HB4.out HK3.out.lt); have X1 := cells4 HK4.out; clear hb4)))
          clear X0
          have b0 : w4.cell? ⟨p, 0, none⟩ = some (.int .i64 rn) := HK4.out.cell 0
          have b1 : w4.cell? ⟨p, 1, none⟩ = some (.int .i64 rs) := HK4.out.cell 1
          have b2 : w4.cell? ⟨p, 2, none⟩ = some (.int .i64 rd) := HK4.out.cell 2
          have b3 : w4.cell? ⟨p, 3, none⟩ = some (.int .i64 rx) := HK4.out.cell 3
          have a0 : ∀ k, (w4.drewN k).cell? ⟨p, 0, none⟩ = some (.int .i64 rn) := fun k => HK4.out.cell 0
          go_wp2_with fail
          refine (HWi.out _).mono ?_
          rintro e w9 ⟨rfl, hw⟩
          rw [hw]
          clear hw w9
          go_wp2_with fail
          try rw [Exit.noGoto_ret]
          go_ret
          exact ⟨by first | rfl | (rw [hrf]; rfl), HB3.out.trans (HB4.out.mono HB3.out.size)⟩
      case neg =>
      have t1 : (rs == 1) = false := by simp [s1]
      by_cases s2 : rs = 2
      case pos =>
        have t2 : (rs == 2) = true := by simp [s2]
        by_cases g0 : 0 < rn
        case neg =>
          have t3 : decide (0 < rn) = false := decide_eq_false g0
          have hrf : r = false := HFr.out (fun h => by
            obtain ⟨⟨a1, a2, a3, a4⟩, a5, a6, a7⟩ := HOk.out.1 h
            have := a6 (by omega); omega)
          clear s1 s2 g0
          go_wp2_with fail
          rw [← hW3, ← hp]
          clear hW3 hp
          go_region_held3 (fun w' => w'.cell? ⟨p, 0, none⟩ = some (.int .i64 rn) ∧ w'.cell? ⟨p, 1, none⟩ = some (.int .i64 rs) ∧ w'.cell? ⟨p, 2, none⟩ = some (.int .i64 rd) ∧ w'.cell? ⟨p, 3, none⟩ = some (.int .i64 rx)) (first | exact X0 | exact X1 | go_keep) (first
            | (go_at_call 91; go_must (refine (HLed.out _ (below_drewC (Below.refl _ _) 1)).mono ?_; rintro e w4 ⟨rfl, hb4⟩; have HB4 : Hid (Below W3.heap.size W3 w4) := Lib.hid ((below_drewC (Below.refl _ _) 1).trans hb4); have HK4 := Lib.hid (HK3.out.below HB4.out HK3.out.lt); have X1 := cells4 HK4.out; clear hb4)))
          clear X0
          have b0 : w4.cell? ⟨p, 0, none⟩ = some (.int .i64 rn) := HK4.out.cell 0
          have b1 : w4.cell? ⟨p, 1, none⟩ = some (.int .i64 rs) := HK4.out.cell 1
          have b2 : w4.cell? ⟨p, 2, none⟩ = some (.int .i64 rd) := HK4.out.cell 2
          have b3 : w4.cell? ⟨p, 3, none⟩ = some (.int .i64 rx) := HK4.out.cell 3
          have a0 : ∀ k, (w4.drewN k).cell? ⟨p, 0, none⟩ = some (.int .i64 rn) := fun k => HK4.out.cell 0
          go_wp2_with fail
          refine (HWi.out _).mono ?_
          rintro e w9 ⟨rfl, hw⟩
          rw [hw]
          clear hw w9
          go_wp2_with fail
          try rw [Exit.noGoto_ret]
          go_ret
          exact ⟨by first | rfl | (rw [hrf]; rfl), HB3.out.trans (HB4.out.mono HB3.out.size)⟩
        have t3 : decide (0 < rn) = true := decide_eq_true g0
        by_cases i0 : i = 0
        case neg =>
          have t4 : ((i : Int) == 0) = false := by simp; omega
          have hrf : r = false := HFr.out (fun h => by
            obtain ⟨⟨a1, a2, a3, a4⟩, a5, a6, a7⟩ := HOk.out.1 h
            have := (a5 (by omega)).2; omega)
          clear s1 s2 g0 i0
          go_wp2_with fail
          rw [← hW3, ← hp]
          clear hW3 hp
          go_region_held3 (fun w' => w'.cell? ⟨p, 0, none⟩ = some (.int .i64 rn) ∧ w'.cell? ⟨p, 1, none⟩ = some (.int .i64 rs) ∧ w'.cell? ⟨p, 2, none⟩ = some (.int .i64 rd) ∧ w'.cell? ⟨p, 3, none⟩ = some (.int .i64 rx)) (first | exact X0 | exact X1 | go_keep) (first
            | (go_at_call 91; go_must (refine (HLed.out _ (below_drewC (Below.refl _ _) 1)).mono ?_; rintro e w4 ⟨rfl, hb4⟩; have HB4 : Hid (Below W3.heap.size W3 w4) := Lib.hid ((below_drewC (Below.refl _ _) 1).trans hb4); have HK4 := Lib.hid (HK3.out.below HB4.out HK3.out.lt); have X1 := cells4 HK4.out; clear hb4)))
          clear X0
          have b0 : w4.cell? ⟨p, 0, none⟩ = some (.int .i64 rn) := HK4.out.cell 0
          have b1 : w4.cell? ⟨p, 1, none⟩ = some (.int .i64 rs) := HK4.out.cell 1
          have b2 : w4.cell? ⟨p, 2, none⟩ = some (.int .i64 rd) := HK4.out.cell 2
          have b3 : w4.cell? ⟨p, 3, none⟩ = some (.int .i64 rx) := HK4.out.cell 3
          have a0 : ∀ k, (w4.drewN k).cell? ⟨p, 0, none⟩ = some (.int .i64 rn) := fun k => HK4.out.cell 0
          go_wp2_with fail
          refine (HWi.out _).mono ?_
          rintro e w9 ⟨rfl, hw⟩
          rw [hw]
          clear hw w9
          go_wp2_with fail
          try rw [Exit.noGoto_ret]
          go_ret
          exact ⟨by first | rfl | (rw [hrf]; rfl), HB3.out.trans (HB4.out.mono HB3.out.size)⟩
        have t4 : ((i : Int) == 0) = true := by simp; omega
        have HNxt : Hid (∀ j, j < i + 1 → CellOk l me false j) := Lib.hid (fun j hj => by
          by_cases e : j = i
          · subst e
            exact HOk.out.2 ⟨⟨by omega, by omega, by omega, by omega⟩, fun h => by omega, fun h => by omega, HFit.out (by omega)⟩
          · exact HA.out j (by omega))
        have I0 := Lib.hid i0
        clear s1 s2 i0
        go_wp2_with fail
        rw [← hW3, ← hp]
        clear hW3 hp
        go_region_held3 (fun w' => w'.cell? ⟨p, 0, none⟩ = some (.int .i64 rn) ∧ w'.cell? ⟨p, 1, none⟩ = some (.int .i64 rs) ∧ w'.cell? ⟨p, 2, none⟩ = some (.int .i64 rd) ∧ w'.cell? ⟨p, 3, none⟩ = some (.int .i64 rx)) (first | exact X0 | exact X1 | go_keep) (first
          | (go_at_call 91; go_must (refine (HLed.out _ (below_drewC (Below.refl _ _) 1)).mono ?_; rintro e w4 ⟨rfl, hb4⟩; have HB4 : Hid (Below W3.heap.size W3 w4) := Lib.hid ((below_drewC (Below.refl _ _) 1).trans hb4); have HK4 := Lib.hid (HK3.out.below HB4.out HK3.out.lt); have X1 := cells4 HK4.out; clear hb4)))
        clear X0
        have b0 : w4.cell? ⟨p, 0, none⟩ = some (.int .i64 rn) := HK4.out.cell 0
        have b1 : w4.cell? ⟨p, 1, none⟩ = some (.int .i64 rs) := HK4.out.cell 1
        have b2 : w4.cell? ⟨p, 2, none⟩ = some (.int .i64 rd) := HK4.out.cell 2
        have b3 : w4.cell? ⟨p, 3, none⟩ = some (.int .i64 rx) := HK4.out.cell 3
        have a0 : ∀ k, (w4.drewN k).cell? ⟨p, 0, none⟩ = some (.int .i64 rn) := fun k => HK4.out.cell 0
        go_wp2_with fail
        refine (HWi.out _).mono ?_
        rintro e w9 ⟨rfl, hw⟩
        rw [hw]
        clear hw w9
        go_wp2_with fail
        go_roundw
        case rel => exact ⟨i1, rfl, hi1, by rw [if_neg (by have := HI1.out; omega), HI1.out, Nat.add_sub_cancel, ← HRi.out], by rw [HI1.out]; exact HNxt.out, HB3.out.trans (HB4.out.mono HB3.out.size)⟩
        case measure => have := HI1.out; simp [intOf]; omega
      case neg =>
      have t2 : (rs == 2) = false := by simp [s2]
      by_cases s3 : rs = 3
      case pos =>
        have t3 : (rs == 3) = true := by simp [s3]
        have hrf : r = false := HFr.out (fun h => by
          obtain ⟨⟨a1, a2, a3, a4⟩, a5, a6, a7⟩ := HOk.out.1 h
          rw [if_neg HLast.out] at a7; exact a7.1.1 s3)
        clear s1 s2 s3
        go_wp2_with fail
        rw [← hW3, ← hp]
        clear hW3 hp
        go_region_held3 (fun w' => w'.cell? ⟨p, 0, none⟩ = some (.int .i64 rn) ∧ w'.cell? ⟨p, 1, none⟩ = some (.int .i64 rs) ∧ w'.cell? ⟨p, 2, none⟩ = some (.int .i64 rd) ∧ w'.cell? ⟨p, 3, none⟩ = some (.int .i64 rx)) (first | exact X0 | exact X1 | go_keep) (first
          | (go_at_call 91; go_must (refine (HLed.out _ (below_drewC (Below.refl _ _) 1)).mono ?_; rintro e w4 ⟨rfl, hb4⟩; have HB4 : Hid (Below W3.heap.size W3 w4) := Lib.hid ((below_drewC (Below.refl _ _) 1).trans hb4); have HK4 := Lib.hid (HK3.out.below HB4.out HK3.out.lt); have X1 := cells4 HK4.out; clear hb4)))
        clear X0
        have b0 : w4.cell? ⟨p, 0, none⟩ = some (.int .i64 rn) := HK4.out.cell 0
        have b1 : w4.cell? ⟨p, 1, none⟩ = some (.int .i64 rs) := HK4.out.cell 1
        have b2 : w4.cell? ⟨p, 2, none⟩ = some (.int .i64 rd) := HK4.out.cell 2
        have b3 : w4.cell? ⟨p, 3, none⟩ = some (.int .i64 rx) := HK4.out.cell 3
        have a0 : ∀ k, (w4.drewN k).cell? ⟨p, 0, none⟩ = some (.int .i64 rn) := fun k => HK4.out.cell 0
        go_wp2_with fail
        refine (HWi.out _).mono ?_
        rintro e w9 ⟨rfl, hw⟩
        rw [hw]
        clear hw w9
        go_wp2_with fail
        try rw [Exit.noGoto_ret]
        go_ret
        exact ⟨by first | rfl | (rw [hrf]; rfl), HB3.out.trans (HB4.out.mono HB3.out.size)⟩
      case neg =>
      have t3 : (rs == 3) = false := by simp [s3]
      have hrf : r = false := HFr.out (fun h => by
        obtain ⟨⟨a1, a2, a3, a4⟩, a5, a6, a7⟩ := HOk.out.1 h
        omega)
      clear s1 s2 s3
      go_wp2_with fail
      rw [← hW3, ← hp]
      clear hW3 hp
      go_region_held3 (fun w' => w'.cell? ⟨p, 0, none⟩ = some (.int .i64 rn) ∧ w'.cell? ⟨p, 1, none⟩ = some (.int .i64 rs) ∧ w'.cell? ⟨p, 2, none⟩ = some (.int .i64 rd) ∧ w'.cell? ⟨p, 3, none⟩ = some (.int .i64 rx)) (first | exact X0 | exact X1 | go_keep) (first
        | (go_at_call 91; go_must (refine (HLed.out _ (below_drewC (Below.refl _ _) 1)).mono ?_; rintro e w4 ⟨rfl, hb4⟩; have HB4 : Hid (Below W3.heap.size W3 w4) := Lib.hid ((below_drewC (Below.refl _ _) 1).trans hb4); have HK4 := Lib.hid (HK3.out.below HB4.out HK3.out.lt); have X1 := cells4 HK4.out; clear hb4)))
      clear X0
      have b0 : w4.cell? ⟨p, 0, none⟩ = some (.int .i64 rn) := HK4.out.cell 0
      have b1 : w4.cell? ⟨p, 1, none⟩ = some (.int .i64 rs) := HK4.out.cell 1
      have b2 : w4.cell? ⟨p, 2, none⟩ = some (.int .i64 rd) := HK4.out.cell 2
      have b3 : w4.cell? ⟨p, 3, none⟩ = some (.int .i64 rx) := HK4.out.cell 3
      have a0 : ∀ k, (w4.drewN k).cell? ⟨p, 0, none⟩ = some (.int .i64 rn) := fun k => HK4.out.cell 0
      go_wp2_with fail
      refine (HWi.out _).mono ?_
      rintro e w9 ⟨rfl, hw⟩
      rw [hw]
      clear hw w9
      go_wp2_with fail
      try rw [Exit.noGoto_ret]
      go_ret
      exact ⟨by first | rfl | (rw [hrf]; rfl), HB3.out.trans (HB4.out.mono HB3.out.size)⟩
end Go.Proofs.Ytiaafhcfeeekeaa.Pk
