/- The walk of the law TableSame. -/
import Derived.Test.YtgkmlggcmmdafaaTabArgs
import Derived.Test.YtgkmlggcmmdafaaArgN
import Derived.Test.YtgkmlggcmmdafaaTabWakes
import Derived.Test.YtgkmlggcmmdafaaTabUp
import Derived.Test.YtgkmlggcmmdafaaTreeTab
import Derived.Test.YtgkmlggcmmdafaaIntFrom
import Derived.Test.YtgkmlggcmmdafaaSameMath
import Derived.Test.YtgkmlggcmmdafaaOrd
import Derived.Test.YtgkmlggcmmdafaaRangeB
import Derived.BigRegion
import Derived.Deep.DeepMust
import Derived.Deep.RegionHeld3
import Derived.Deep.RegionWith
import Derived.Deep.QuietTactic
import Derived.BigQuiet
namespace Go.Proofs.Ytgkmlggcmmdafaa.Pk
open Go.RowKit Go.Shelf Go.Proofs.Ytgkmlggcmmdafaa.Tb Go.Proofs.Ytgkmlggcmmdafaa.Ar
set_option linter.unusedVariables false
attribute [local go_sem] Oper.semAt_some

theorem pre_no {β : Type} {rows pre : List β} {x r : β} (hr : rows[pre.length]? = some r) (e : r ≠ x) : ¬ pre ++ [x] <+: rows := by
  rintro ⟨s, rfl⟩
  rw [List.append_assoc, List.getElem?_append_right (Nat.le_refl _), Nat.sub_self] at hr
  simp at hr
  exact e hr.symm
/-- What each number has as its value. -/
def halfW (k : Int) : Int := wrap64 (k.tdiv 2)
set_option maxRecDepth 100000 in
set_option maxHeartbeats 8000000 in
theorem law_TableSame (a : Option Addr) (m d : Nat) (ks : List Int) (a2 : Option Addr) (m2 d2 : Nat) (ts : List Int) (w : World) (h1 : ArgN w a m d ks) (h2 : ArgN w a2 m2 d2 ts) :
    Calls Try.prog 8 #[.slice a m d, .slice a2 m2 d2] w fun e w' => e = .returned (.bool true) ∧ Below w.heap.size w w' := by
  obtain ⟨hr, hmd, hm8, hk⟩ := h1
  obtain ⟨hr2, hmd2, hm28, hk2⟩ := h2
  have hm : m ≤ 140737488355328 := by omega
  have hm2 : m2 ≤ 140737488355328 := by omega
  clear hm8 hm28
  have HR := Lib.hid hr
  have HR2 := Lib.hid hr2
  have HK := Lib.hid hk
  have HK2 := Lib.hid hk2
  have HM : Hid (ks.length = m) := Lib.hid (by have := hr.1; simpa [nms] using this)
  have HM2 : Hid (ts.length = m2) := Lib.hid (by have := hr2.1; simpa [nms] using this)
  clear hr hr2 hk hk2
  refine (callsIn_wide (n := 9)).1 ?_
  refine callsIn_of_wp_marks Try.func8 rfl trivial ?_ rfl
  simp only [Try.ntmps8, List.size_toArray, List.length_cons, List.length_nil, Nat.reduceAdd, Nat.reduceSub, Array.replicate_succ, Array.replicate_zero, List.push_toArray, List.append_toArray, List.nil_append, List.cons_append]
  refine wpIn_wide.2 ?_
  have kr0 := Blk.new w 4 #[.bool false]
  have hb0 : Below w.heap.size w (w.alloc (.cells #[.bool false] 4)) := (Below.refl _ _).alloc (Nat.le_refl _) _
  go_wp2_with fail
  refine (wakes_any tabC _).mono ?_
  rintro e w1 ⟨rfl, hb1⟩
  have kr1 := kr0.below hb1 (by simp)
  have c1 : w1.cell? ⟨w.heap.size, 0, none⟩ = some (.bool false) := by rw [kr1.cell]; rfl
  have f1 : w1.frozen? ⟨w.heap.size, 0, none⟩ = false := kr1.frozen 0
  have HKR1 := Lib.hid kr1
  have HB1 : Hid (Below w.heap.size w w1) := Lib.hid (hb0.trans (hb1.mono (by simp)))
  clear kr0 hb0 hb1 kr1
  by_cases hbig : m ≤ 512
  · have hb : (m : Int) ≤ 512 := by omega
    go_wp2_with fail
    refine (Pi.new_any _).mono ?_
    rintro e w2 ⟨Ta, rfl, hTa, hta, hb2⟩
    subst hTa
    have HKR2 := Lib.hid (HKR1.out.below hb2 HKR1.out.lt)
    have HB2 := Lib.hid (HB1.out.trans (hb2.mono HB1.out.size))
    have HTA2 := Lib.hid hta
    have s12 := hb2.size
    have l1 := HKR1.out.lt
    clear hb2 hta
    go_wp2_with fail
    refine (Pi.new_any _).mono ?_
    rintro e w3 ⟨Tb, rfl, hTb, htb, hb3⟩
    subst hTb
    have HKR3 := Lib.hid (HKR2.out.below hb3 HKR2.out.lt)
    have HB3 := Lib.hid (HB2.out.trans (hb3.mono HB2.out.size))
    have HTA3 := Lib.hid (HTA2.out.below hb3)
    have HTB3 := Lib.hid htb
    have s23 := hb3.size
    have l3 := htb.1.lt
    have HKR3x : Hid (w.heap.size ≤ w1.heap.size) := Lib.hid (by omega)
    have l2 := HTA2.out.1.lt
    clear hb3 htb c1 f1
    have hbx := (Blk.new w3 51 #[.pointer (some ⟨w2.heap.size, 0, none⟩)])
    have hbx0 : Below w3.heap.size w3 (w3.alloc (.cells #[.pointer (some ⟨w2.heap.size, 0, none⟩)] 51)) := (Below.refl _ _).alloc (Nat.le_refl _) _
    have cbx : (w3.alloc (.cells #[.pointer (some ⟨w2.heap.size, 0, none⟩)] 51)).cell? ⟨w3.heap.size, 0, none⟩ = some (.pointer (some ⟨w2.heap.size, 0, none⟩)) := by rw [hbx.cell]; rfl
    go_wp2_with (first | (at_builtin; go_must (refine appN _ rfl (.tmp 34) (.tmp 35) rfl (w3.heap.size + 1) (w3.heap.size + 1) (by simp) rfl w.heap.size a d ks m rfl ((HR.out.below HB3.out).alloc (by have := HB3.out.size; omega) _) (by have := HB3.out.size; simp; omega) (by omega) (by simp) ?_); rintro v4 w4 hown4 hb4))
    obtain ⟨w5, hw5⟩ : ∃ w5, w5 = w3.alloc (.cells #[.pointer (some ⟨w2.heap.size, 0, none⟩)] 51) := ⟨_, rfl⟩
    rw [← hw5] at hb4 hbx hbx0 cbx
    have hs5 : w5.heap.size = w3.heap.size + 1 := by rw [hw5, World.size_alloc]
    rw [← hs5] at hown4 hb4
    obtain ⟨g, hord⟩ := OrdI.of hown4 HM.out
    have HKR5 := Lib.hid (HKR3.out.below hbx0 HKR3.out.lt)
    have HTA5 := Lib.hid (HTA3.out.below hbx0)
    have HTB5 := Lib.hid (HTB3.out.below hbx0)
    have HBX5 := Lib.hid hbx
    have HB5 := Lib.hid (HB3.out.trans (hbx0.mono HB3.out.size))
    have HR5 := Lib.hid (HR.out.below HB5.out)
    have HR25 := Lib.hid (HR2.out.below HB5.out)
    obtain ⟨A4, c4, rfl, hc4, -⟩ := id hord
    have HS5 := Lib.hid hs5
    rw [HM.out] at hc4 hord ⊢
    have HO4 := Lib.hid hord
    have HB4 := Lib.hid hb4
    clear hs5 hown4 hord hb4 hw5 hbx hbx0 cbx HKR3 HTA3 HTB3 HB3 HR HR2 HKR2 HB2 HTA2 HKR1 HB1
    go_loopw [39] (fun j wr => ∃ (i : Nat) (ys : List Int), j = .int .i64 i ∧ i ≤ m2 ∧ ys.Perm ks ∧ OrdI wr w5.heap.size (.slice A4 m c4) g ys ∧ Below w5.heap.size w5 wr) (fun j _ => m2 - (intOf j).toNat)
    case atStart => exact ⟨0, ks, rfl, by omega, .refl _, HO4.out, HB4.out⟩
    case round =>
      obtain ⟨i, ys, rfl, hi, hp, ho, hb⟩ := hrel
      obtain ⟨w6, rfl⟩ : ∃ w6 : World, w6 = wr := ⟨_, rfl⟩
      have HP := Lib.hid hp
      have HO := Lib.hid ho
      have HBr := Lib.hid hb
      have HY : Hid (ys.length = m) := Lib.hid (by rw [hp.length_eq]; exact HM.out)
      clear hp ho hb
      by_cases hlt : i < m2
      · obtain ⟨b, off, rfl, hbb, hc⟩ := (HR25.out.below (HBr.out.mono HB5.out.size)).i64 (by omega)
        have hci := hc i hlt
        obtain ⟨x, hx⟩ : ∃ x, x = ts.getD i 0 := ⟨_, rfl⟩
        rw [← hx] at hci
        clear hc hx
        by_cases him : i < m
        · by_cases hx0 : 0 ≤ x
          · by_cases hxm : x < (m : Int)
            · obtain ⟨j, rfl⟩ : ∃ j : Nat, x = (j : Int) := ⟨x.toNat, by omega⟩
              have hjm : j < m := by omega
              have ho := HO.out
              rw [← HY.out] at ho
              obtain ⟨hA, hgB, hgl, ci, fi⟩ := ho.cell (i := i) (by rw [HY.out]; exact him)
              obtain ⟨-, -, -, cj, fj⟩ := ho.cell (i := j) (by rw [HY.out]; exact hjm)
              have hO2 : OrdI ((w6.setCell ⟨g, i, none⟩ (.int .i64 (ys.getD j 0))).setCell ⟨g, j, none⟩ (.int .i64 (ys.getD i 0))) w5.heap.size (.slice A4 m c4) g (swap ys i j) := by
                have h1 := ho.set (i := i) (by rw [HY.out]; exact him) (ys.getD j 0)
                have h2 := h1.set (i := j) (by rw [List.length_set, HY.out]; exact hjm) (ys.getD i 0)
                have e : (swap ys i j).length = m := by unfold swap; rw [List.length_set, List.length_set, HY.out]
                unfold swap at e ⊢
                rw [e] at h2
                exact h2
              have HO2 := Lib.hid hO2
              have hcz : ∃ z, (w6.setCell ⟨g, i, none⟩ (.int .i64 (ys.getD j 0))).cell? ⟨g, j, none⟩ = some (.int .i64 z) ∧ (w6.setCell ⟨g, i, none⟩ (.int .i64 (ys.getD j 0))).frozen? ⟨g, j, none⟩ = false := by
                have h1 := ho.set (i := i) (by rw [HY.out]; exact him) (ys.getD j 0)
                obtain ⟨-, -, -, q1, q2⟩ := h1.cell (i := j) (by rw [List.length_set, HY.out]; exact hjm)
                exact ⟨_, q1, q2⟩
              have HP2 : Hid ((swap ys i j).Perm ks) := Lib.hid ((swap_perm ys i j (by rw [HY.out]; exact him) (by rw [HY.out]; exact hjm)).trans HP.out)
              obtain ⟨yi, hyi⟩ : ∃ yi, yi = ys.getD i 0 := ⟨_, rfl⟩
              obtain ⟨yj, hyj⟩ : ∃ yj, yj = ys.getD j 0 := ⟨_, rfl⟩
              rw [← hyi] at ci HO2
              rw [← hyj] at cj HO2 hcz
              obtain ⟨z, cz, fz⟩ := hcz
              have hnb : g ≠ b := by have := HB5.out.size; omega
              subst hA
              clear ho hO2 hyi hyj HO
              go_wp2
              refine wp_region_noPanic ?_
              go_region
              all_goals refine NoPanic.normal ?_
              all_goals go_wp2
              all_goals go_roundw
              case rel => exact ⟨i + 1, swap ys i j, by go_num, by omega, HP2.out, HO2.out, below_dn ((HBr.out.setCell (p := ⟨g, i, none⟩) hgB _).setCell (p := ⟨g, j, none⟩) hgB _) 1⟩
              case measure => simp [intOf]; omega
            · have hxm2 : (m : Int) ≤ x := by omega
              go_wp2
              go_roundw
              case rel => exact ⟨i + 1, ys, by go_num, by omega, HP.out, HO.out, HBr.out⟩
              case measure => simp [intOf]; omega
          · have hx1 : x < 0 := by omega
            go_wp2
            go_roundw
            case rel => exact ⟨i + 1, ys, by go_num, by omega, HP.out, HO.out, HBr.out⟩
            case measure => simp [intOf]; omega
        · have him2 : (m : Int) ≤ (i : Int) := by omega
          go_wp2
          go_roundw
          case rel => exact ⟨i + 1, ys, by go_num, by omega, HP.out, HO.out, HBr.out⟩
          case measure => simp [intOf]; omega
      · have s5 := HBr.out.size
        have HKR6 := Lib.hid (HKR5.out.below HBr.out HKR5.out.lt)
        have HTA6 := Lib.hid (HTA5.out.below HBr.out)
        have HTB6 := Lib.hid (HTB5.out.below HBr.out)
        have HBX6 := Lib.hid (HBX5.out.below HBr.out HBX5.out.lt)
        have HB6 := Lib.hid (HB5.out.trans (HBr.out.mono HB5.out.size))
        have HR6 := Lib.hid (HR5.out.below (HBr.out.mono HB5.out.size))
        have hTaw : w.heap.size ≤ w1.heap.size ∧ w1.heap.size < w2.heap.size ∧ w2.heap.size < w3.heap.size ∧ w3.heap.size < w5.heap.size := ⟨by have := HKR3x.out; omega, l2, l3, by have := HS5.out; omega⟩
        clear HKR5 HTA5 HTB5 HBX5 HB5 HR5 HR25 HO4 HB4
        go_wp2
        go_loopw [75] (fun j wr => ∃ (i : Nat) (ta : Pi.Tr), j = .int .i64 i ∧ i ≤ m ∧ Pi.IsTab wr w1.heap.size ta ∧ ta.rows = puts halfW (ks.take i) ∧ Turned (fun b => b = w1.heap.size) w6 wr) (fun j _ => m - (intOf j).toNat)
        case atStart => exact ⟨0, .leaf, rfl, by omega, HTA6.out, by simp [puts, Pi.Tr.rows], Turned.of (Below.refl _ _) (Nat.le_refl _) _⟩
        case round =>
          obtain ⟨i2, ta, rfl, hi2, hta, hrows, htu⟩ := hrel
          obtain ⟨w7, rfl⟩ : ∃ w7 : World, w7 = wr := ⟨_, rfl⟩
          have HTA7 := Lib.hid hta
          have HRW7 := Lib.hid hrows
          have HTU7 := Lib.hid htu
          clear hta hrows htu
          by_cases hlt2 : i2 < m
          · obtain ⟨b, off, rfl, hbb, hc⟩ := HR6.out.i64 (by omega)
            have hci0 := hc i2 hlt2
            obtain ⟨x, hx⟩ : ∃ x, x = ks.getD i2 0 := ⟨_, rfl⟩
            have HX : Hid (ks.take (i2 + 1) = ks.take i2 ++ [x]) := Lib.hid (by
              rw [List.take_add_one, List.getElem?_eq_getElem (by rw [HM.out]; exact hlt2), hx]
              simp [List.getD, show i2 < ks.length by rw [HM.out]; exact hlt2])
            have HXr := HK.out x (by
              rw [hx, show ks.getD i2 0 = ks[i2]'(by rw [HM.out]; exact hlt2) by simp [List.getD, show i2 < ks.length by rw [HM.out]; exact hlt2]]
              exact List.getElem_mem _)
            have HXR := Lib.hid HXr
            have hci : w7.cell? ⟨b, off + i2, none⟩ = some (.int .i64 x) := by
              rw [hx, ← hci0]
              exact World.cell?_of_block (HTU7.out.block b (by have := HB6.out.size; omega) (by show ¬ b = w1.heap.size; omega))
            have hln : ta.len ≤ 5000000000000 := by
              have h1 := puts_len halfW (ks.take i2)
              rw [← HRW7.out] at h1
              rw [Pi.len_rows]
              have h2 := List.length_take_le i2 ks
              omega
            clear hc hx hci0 HXr
            go_wp2_with fail
            refine (Pi.put_tree w1.heap.size ta x (wrap64 (x.tdiv 2)) HXR.out w7 HTA7.out hln).mono ?_
            rintro e w8 ⟨rfl, tb, h8, hr8, ht8, hx8⟩
            have HFin : Hid (Pi.IsTab w8 w1.heap.size tb ∧ tb.rows = puts halfW (ks.take (i2 + 1)) ∧ Turned (fun b => b = w1.heap.size) w6 w8) := Lib.hid ⟨h8, by rw [hr8, HRW7.out, HX.out, puts_snoc]; rfl, HTU7.out.trans ht8 (fun b _ h => h)⟩
            clear h8 hr8 ht8 hx8
            go_wp2
            go_roundw
            case rel => exact ⟨i2 + 1, tb, by go_num, by omega, HFin.out⟩
            case measure => simp [intOf]; omega
          · have HRW : Hid (ta.rows = puts halfW ks) := Lib.hid (by rw [HRW7.out, List.take_of_length_le (by rw [HM.out]; omega)])
            have hgT : g ≠ w1.heap.size ∧ g ≠ w2.heap.size ∨ m = 0 := by
              by_cases h0 : m = 0
              · exact .inr h0
              · have ho := HO.out
                rw [← HY.out] at ho
                have h1 := (ho.cell (i := 0) (by rw [HY.out]; omega)).2.1
                exact .inl ⟨by omega, by omega⟩
            have HGT := Lib.hid hgT
            have HKR7 := Lib.hid (HKR6.out.turned HTU7.out (by show ¬ w.heap.size = w1.heap.size; omega))
            have HBX7 := Lib.hid (HBX6.out.turned HTU7.out (by show ¬ w3.heap.size = w1.heap.size; omega))
            have HTB7 : Hid (Pi.IsTab w7 w2.heap.size .leaf) := Lib.hid (HTB6.out.stay (fun b hb => by
              rcases hb with rfl | hb
              · exact HTU7.out.block _ (by omega) (by show ¬ w2.heap.size = w1.heap.size; omega)
              · exact hb.elim))
            have HO7 : Hid (OrdI w7 w5.heap.size (.slice A4 m c4) g ys) := Lib.hid (HO.out.stay (fun hp => by
              rw [HY.out] at hp
              have ho := HO.out
              rw [← HY.out] at ho
              obtain ⟨-, h1, h2, -, -⟩ := ho.cell (i := 0) (by rw [HY.out]; exact hp)
              exact HTU7.out.block g h2 (by show ¬ g = w1.heap.size; omega)))
            have hbx7 : w7.cell? ⟨w3.heap.size, 0, none⟩ = some (.pointer (some ⟨w2.heap.size, 0, none⟩)) := by rw [HBX7.out.cell]; rfl
            have s67 := HTU7.out.size
            clear hgT
            go_wp2
            go_loopw [87] (fun j wr => ∃ (i : Nat) (tb : Pi.Tr), j = .int .i64 i ∧ i ≤ m ∧ Pi.IsTab wr w2.heap.size tb ∧ tb.rows = puts halfW (ys.take i) ∧ Turned (fun b => b = w2.heap.size) w7 wr) (fun j _ => m - (intOf j).toNat)
            case atStart => exact ⟨0, .leaf, rfl, by omega, HTB7.out, by simp [puts, Pi.Tr.rows], Turned.of (Below.refl _ _) (Nat.le_refl _) _⟩
            case round =>
              obtain ⟨i3, tb, rfl, hi3, htb, hrows, htu⟩ := hrel
              obtain ⟨w8, rfl⟩ : ∃ w8 : World, w8 = wr := ⟨_, rfl⟩
              have HTB8 := Lib.hid htb
              have HRW8 := Lib.hid hrows
              have HTU8 := Lib.hid htu
              have hbx8 : w8.cell? ⟨w3.heap.size, 0, none⟩ = some (.pointer (some ⟨w2.heap.size, 0, none⟩)) := by rw [(HBX7.out.turned htu (by show ¬ w3.heap.size = w2.heap.size; omega)).cell]; rfl
              clear hrows htb htu
              by_cases hlt3 : i3 < m
              · have HO8 : OrdI w8 w5.heap.size (.slice A4 m c4) g ys := HO7.out.stay (fun hp => by
                  rw [HY.out] at hp
                  have ho := HO7.out
                  rw [← HY.out] at ho
                  obtain ⟨-, h1, h2, -, -⟩ := ho.cell (i := 0) (by rw [HY.out]; exact hp)
                  exact HTU8.out.block g h2 (by show ¬ g = w2.heap.size; omega))
                rw [← HY.out] at HO8
                obtain ⟨hA, -, -, hci, -⟩ := HO8.cell (i := i3) (by rw [HY.out]; exact hlt3)
                subst hA
                obtain ⟨x, hx⟩ : ∃ x, x = ys.getD i3 0 := ⟨_, rfl⟩
                have hyl : i3 < ys.length := by rw [HY.out]; exact hlt3
                have HX : Hid (ys.take (i3 + 1) = ys.take i3 ++ [x]) := Lib.hid (by
                  rw [List.take_add_one, List.getElem?_eq_getElem hyl, hx]
                  simp [List.getD, hyl])
                have HXr := HK.out x (HP.out.mem_iff.1 (by
                  rw [hx, show ys.getD i3 0 = ys[i3] by simp [List.getD, hyl]]
                  exact List.getElem_mem _))
                have HXR := Lib.hid HXr
                rw [← hx] at hci
                have hln : tb.len ≤ 5000000000000 := by
                  have h1 := puts_len halfW (ys.take i3)
                  rw [← HRW8.out] at h1
                  rw [Pi.len_rows]
                  have h2 := List.length_take_le i3 ys
                  omega
                clear HO8 hx HXr hyl
                go_wp2_with fail
                refine (Pi.put_tree w2.heap.size tb x (wrap64 (x.tdiv 2)) HXR.out w8 HTB8.out hln).mono ?_
                rintro e w9 ⟨rfl, tc, h9, hr9, ht9, hx9⟩
                have HFin : Hid (Pi.IsTab w9 w2.heap.size tc ∧ tc.rows = puts halfW (ys.take (i3 + 1)) ∧ Turned (fun b => b = w2.heap.size) w7 w9) := Lib.hid ⟨h9, by rw [hr9, HRW8.out, HX.out, puts_snoc]; rfl, HTU8.out.trans ht9 (fun b _ h => h)⟩
                clear h9 hr9 ht9 hx9
                go_wp2
                go_roundw
                case rel => exact ⟨i3 + 1, tc, by go_num, by omega, HFin.out⟩
                case measure => simp [intOf]; omega
              · have HRWb : Hid (tb.rows = puts halfW ks) := Lib.hid (by rw [HRW8.out, List.take_of_length_le (by rw [HY.out]; omega), puts_perm halfW HP.out])
                have HKR8 := Lib.hid (HKR7.out.turned HTU8.out (by show ¬ w.heap.size = w2.heap.size; omega))
                have HBX8 := Lib.hid (HBX7.out.turned HTU8.out (by show ¬ w3.heap.size = w2.heap.size; omega))
                have HTA8 : Hid (Pi.IsTab w8 w1.heap.size ta) := Lib.hid (HTA7.out.stay (fun b hb => by
                  rcases hb with rfl | hb
                  · exact HTU8.out.block _ HTA7.out.1.lt (by show ¬ w1.heap.size = w2.heap.size; omega)
                  · exact HTU8.out.block _ (HTA7.out.2.1.lt b hb) (fun e => Pi.IsT.not_has HTB7.out.1 (by decide) HTA7.out.2.1 (by have e' : b = w2.heap.size := e; rw [← e']; exact hb))))
                have HB8 : Hid (Below w.heap.size w w8) := Lib.hid (HTU8.out.below (HTU7.out.below HB6.out HB6.out.size (fun b h => by have h' : b = w1.heap.size := h; omega)) (by have := HB6.out.size; omega) (fun b h => by have h' : b = w2.heap.size := h; omega))
                obtain ⟨N, hNd⟩ : ∃ N, N = (puts halfW ks).length := ⟨_, rfl⟩
                have hN1 : ta.len = N := by rw [Pi.len_rows, HRW.out, hNd]
                have hN2 : tb.len = N := by rw [Pi.len_rows, HRWb.out, hNd]
                have hN512 : N ≤ 512 := by have := puts_len halfW ks; have := HM.out; omega
                have HLA : Hid (∀ q, Calls Try.prog 25 #[.pointer (some ⟨w1.heap.size, 0, none⟩)] (w8.drewN q) fun e w' => e = .returned (.int .i64 (N : Int)) ∧ w' = w8.drewN q) := Lib.hid (fun q => by
                  have := Pi.len_any w1.heap.size ta (w8.drewN q) (HTA8.out.below (below_dn (Below.refl _ _) q))
                  rwa [hN1] at this)
                have HLB : Hid (∀ q, Calls Try.prog 25 #[.pointer (some ⟨w2.heap.size, 0, none⟩)] (w8.drewN q) fun e w' => e = .returned (.int .i64 (N : Int)) ∧ w' = w8.drewN q) := Lib.hid (fun q => by
                  have := Pi.len_any w2.heap.size tb (w8.drewN q) (HTB8.out.below (below_dn (Below.refl _ _) q))
                  rwa [hN2] at this)
                have HN1 := Lib.hid hN1
                have HN2 := Lib.hid hN2
                have HNd := Lib.hid hNd
                have s78 := HTU8.out.size
                clear hN1 hN2 hNd
                go_wp2_with fail
                refine wp_region_noPanic ?_
                go_quiet (first
                  | (go_at_call_of 25 (w1.heap.size); exact Calls.quiet_of_same (HLA.out _))
                  | (go_at_call_of 25 (w2.heap.size); exact Calls.quiet_of_same (HLB.out _)))
                refine NoPanic.normal ?_
                obtain ⟨w9, hw9⟩ : ∃ w9, w9 = w8.drewN nq := ⟨_, rfl⟩
                rw [← hw9]
                have b89 : Below w8.heap.size w8 w9 := by rw [hw9]; exact below_dn (Below.refl _ _) _
                have hs89 : w9.heap.size = w8.heap.size := by rw [hw9]; rfl
                have HKR9 := Lib.hid (HKR8.out.below b89 HKR8.out.lt)
                have HBX9 := Lib.hid (HBX8.out.below b89 HBX8.out.lt)
                have HTA9 := Lib.hid (HTA8.out.below b89)
                have HTB9 := Lib.hid (HTB8.out.below b89)
                have HB9 := Lib.hid (HB8.out.trans (b89.mono HB8.out.size))
                have hw39 : w3.heap.size < w9.heap.size := by omega
                clear hw9 b89 hs89 HLA HLB hbx8 hbx7
                go_wp2_with fail
                refine (Pi.all_any w1.heap.size ta _ (HTA9.out.below ((Below.refl w9.heap.size w9).alloc (Nat.le_refl _) _))).mono ?_
                rintro e W1 ⟨v7, R, rfl, ⟨gf, lb, rfl, en7, hR7, hq7⟩, hb7, gr7, rs7⟩
                obtain ⟨x0, hx0⟩ : ∃ x0, x0 = w9.heap.size := ⟨_, rfl⟩
                have hat := Blk.new w9 3 #[.int .i64 0]
                have hbx9 : Below w9.heap.size w9 (w9.alloc (.cells #[.int .i64 0] 3)) := (Below.refl _ _).alloc (Nat.le_refl _) _
                have hsA : (w9.alloc (.cells #[.int .i64 0] 3)).heap.size = w9.heap.size + 1 := World.size_alloc _ _
                have HAt : Hid (Blk W1 x0 3 #[.int .i64 (0 : Int)]) := Lib.hid (by rw [hx0]; exact hat.below hb7 (by omega))
                have HB91 : Hid (Below w9.heap.size w9 W1) := Lib.hid (hbx9.trans (hb7.mono (by omega)))
                have hxl : x0 < W1.heap.size := by have := hb7.size; omega
                have HRx : Hid (∀ b, R b → b ≠ x0) := Lib.hid fun b hb => by
                  rcases gr7 b hb with h | h
                  · rcases h with h | h
                    · omega
                    · have := HTA9.out.2.1.lt b h; omega
                  · omega
                have HKR1 := Lib.hid (HKR9.out.below HB91.out HKR9.out.lt)
                have HBX1 := Lib.hid (HBX9.out.below HB91.out HBX9.out.lt)
                have HTA1 := Lib.hid (HTA9.out.below HB91.out)
                have HTB1 := Lib.hid (HTB9.out.below HB91.out)
                have HB1 := Lib.hid (HB9.out.trans (HB91.out.mono HB9.out.size))
                have hTx : ∀ b, (b = w2.heap.size ∨ tb.has b) → b ≠ x0 ∧ b < W1.heap.size := fun b hb => by
                  rcases hb with h | h
                  · omega
                  · have := HTB9.out.2.1.lt b h; omega
                have HTX := Lib.hid hTx
                have hTy : ∀ b, (b = w1.heap.size ∨ ta.has b) → b ≠ x0 ∧ b < W1.heap.size := fun b hb => by
                  rcases hb with h | h
                  · omega
                  · have := HTA9.out.2.1.lt b h; omega
                have HTY := Lib.hid hTy
                have EN := Lib.hid en7
                have HRl := Lib.hid hR7
                have SQ := Lib.hid (hq7 8 W1 (by omega) (Stay.refl _ _))
                have hx3 : w3.heap.size < x0 := by omega
                have hx9 := hx0
                clear hat hbx9 hsA hb7 gr7 rs7 en7 hR7 hq7 hTx hTy
                rw [← hx0]
                clear hx0
                have HX9 := Lib.hid hx9
                clear hx9
                go_wp2
                refine (wpIn_wide (n := 9)).1 ?_
                refine' wpIn_rangeFunc_ownG (α := Pi.Ri) rfl (by omega) (gf := gf) (lb := lb) rfl trivial EN.out
                  SQ.out (fun h k => h.trans k) (stay_b HRl.out) (Below.refl _ _) (fun _ => rfl)
                  (fun pre W => (pre <+: ta.rows ∧ Blk W x0 3 #[.int .i64 (pre.length : Nat)]) ∧ Only W1 W x0)
                  (fun c pre W => c = .ret ∧ ¬ pre <+: ta.rows)
                  (OwnFrom.and (Own.from (fun s A B row hs hg hr => ⟨hs.1, blk_kept hs.2 hg hr⟩) _) (own_only W1 x0))
                  (fun c => fun s A B row hs hg hr => hs)
                  ⟨⟨⟨ta.rows, rfl⟩, by simpa using HAt.out⟩, Only.refl _ _⟩
                  _ ?assign ?body ?done ?stop
                case assign =>
                  intro l x W K hK
                  gi_wp2
                  exact hK
                case stop =>
                  rintro D cc pre V hD hpre ⟨rfl, hw⟩ hK
                  exact absurd hpre hw
                case body =>
                  rintro lp pre ⟨y1, y2⟩ V ⟨⟨hpre, hao⟩, hOnly⟩ hlt
                  have bl : ∀ k, k < W1.heap.size → k ≠ x0 → V.heap[k]? = W1.heap[k]? := fun k hk hne => hOnly.block k hk (fun e => by injection e with e; exact hne e)
                  have kb : Blk V w3.heap.size 51 #[.pointer (some ⟨w2.heap.size, 0, none⟩)] := (bl _ HBX1.out.lt (by omega)).trans HBX1.out
                  have kr : Blk V w.heap.size 4 #[.bool false] := (bl _ HKR1.out.lt (by omega)).trans HKR1.out
                  have htb : Pi.IsTab V w2.heap.size tb := HTB1.out.stay (fun b hb => bl b (HTX.out b hb).2 (HTX.out b hb).1)
                  obtain ⟨q, hq⟩ : ∃ q, q = pre.length := ⟨_, rfl⟩
                  have HQ := Lib.hid hq
                  rw [← hq] at hao hlt
                  rw [show ta.rows.length = N from HN1.out] at hlt
                  obtain ⟨⟨rk, rv⟩, hr2'⟩ : ∃ r2, ta.rows[q]? = some r2 := ⟨_, List.getElem?_eq_getElem (by rw [show ta.rows.length = N from HN1.out]; exact hlt)⟩
                  have hrb : tb.rows[q]? = some (rk, rv) := by rw [HRWb.out, ← HRW.out]; exact hr2'
                  have hnth := Pi.nth_any w2.heap.size tb (q : Int) V htb (by have := HN2.out; omega)
                  rw [HN2.out, if_pos ⟨by omega, by omega⟩, decide_eq_true (p := 0 ≤ (q : Int) ∧ (q : Int) < (N : Int)) ⟨by omega, by omega⟩, Int.toNat_natCast, hrb] at hnth
                  simp only [Option.map_some, Option.getD_some] at hnth
                  have hget := Pi.get_any w2.heap.size tb y1 V htb
                  have HV : Hid (ta.rows[q]? = some (rk, rv)) := Lib.hid hr2'
                  have HU : Hid (rk = y1 → under y1 tb.rows = some rv) := Lib.hid (fun e => by subst e; exact under_of_get htb.2.2 hrb)
                  have HHv : Hid (rv = halfW rk) := Lib.hid (puts_get halfW (by rw [← HRW.out]; exact hr2'))
                  have cat : V.cell? ⟨x0, 0, none⟩ = some (.int .i64 (q : Nat)) := by rw [hao.cell]; rfl
                  have fat : V.frozen? ⟨x0, 0, none⟩ = false := hao.frozen 0
                  have cb : V.cell? ⟨w3.heap.size, 0, none⟩ = some (.pointer (some ⟨w2.heap.size, 0, none⟩)) := by rw [kb.cell]; rfl
                  have cr : V.cell? ⟨w.heap.size, 0, none⟩ = some (.bool false) := by rw [kr.cell]; rfl
                  have frr : V.frozen? ⟨w.heap.size, 0, none⟩ = false := kr.frozen 0
                  have HN := Lib.hid hnth
                  have HPr := Lib.hid hpre
                  have HAo := Lib.hid hao
                  have HOnly := Lib.hid hOnly
                  have HLn2 : Hid (((pre ++ [(y1, y2)]).length : Int) = (q : Int) + 1) := Lib.hid (by rw [List.length_append, ← HQ.out]; simp)
                  have bad : ∀ {W : World}, ¬ (pre ++ [(y1, y2)]) <+: ta.rows → True := fun _ => trivial
                  clear hnth hr2' hrb hpre kb kr htb hao hOnly hq bl bad
                  by_cases h1 : rk = y1
                  · have hu := HU.out h1
                    rw [hu] at hget
                    simp only [Option.getD_some, Option.isSome_some] at hget
                    have HG := Lib.hid hget
                    subst h1
                    clear hu hget
                    by_cases h2 : rv = y2
                    · subst h2
                      have t1 : (rk != rk) = false := by simp
                      have t2 : (rv != rv) = false := by simp
                      have t3 : (rv != wrap64 (rk.tdiv 2)) = false := by rw [HHv.out]; simp [halfW]
                      have HI : Hid ((pre ++ [(rk, rv)]) <+: ta.rows) := Lib.hid (by
                        obtain ⟨s, hs⟩ := HPr.out
                        have hk := HV.out
                        rw [← hs, HQ.out, List.getElem?_append_right (Nat.le_refl _), Nat.sub_self] at hk
                        cases s with
                        | nil => simp at hk
                        | cons y s => simp at hk; subst hk; exact ⟨s, by rw [← hs]; simp⟩)
                      gi_wp2_with (first
                        | (refine ⟨trivial, ?_⟩; gi_at_call 27; refine (CallsIn.inRound lp (callsIn_wide.2 HN.out)).mono ?_; rintro e U1 ⟨rfl, rfl⟩)
                        | (refine ⟨trivial, ?_⟩; gi_at_call 28; refine (CallsIn.inRound lp (callsIn_wide.2 HG.out)).mono ?_; rintro e U2 ⟨rfl, rfl⟩))
                      exact ⟨(KeepsOthers.setCell _ _ _).from _, stay_set (fun h => HRx.out _ h rfl), ⟨⟨HI.out, by rw [HLn2.out]; exact blk_put HAo.out _⟩, HOnly.out.set _ _⟩⟩
                    · have t1 : (rk != rk) = false := by simp
                      have t2 : (rv != y2) = true := by simp [h2]
                      have HI : Hid (¬ (pre ++ [(rk, y2)]) <+: ta.rows) := Lib.hid (pre_no (by rw [← HQ.out]; exact HV.out) (fun e => h2 (congrArg Prod.snd e)))
                      clear h2
                      gi_wp2_with (first
                        | (refine ⟨trivial, ?_⟩; gi_at_call 27; refine (CallsIn.inRound lp (callsIn_wide.2 HN.out)).mono ?_; rintro e U1 ⟨rfl, rfl⟩)
                        | (refine ⟨trivial, ?_⟩; gi_at_call 28; refine (CallsIn.inRound lp (callsIn_wide.2 HG.out)).mono ?_; rintro e U2 ⟨rfl, rfl⟩))
                      exact ⟨(KeepsOthers.setCell _ _ _).from _, rfl, HI.out⟩
                  · have HI : Hid (¬ (pre ++ [(y1, y2)]) <+: ta.rows) := Lib.hid (pre_no (by rw [← HQ.out]; exact HV.out) (fun e => h1 (congrArg Prod.fst e)))
                    have t1 : (rk != y1) = true := by simp [h1]
                    cases hu : under y1 tb.rows with
                    | none =>
                      rw [hu] at hget
                      simp only [Option.getD_none, Option.isSome_none] at hget
                      have HG := Lib.hid hget
                      clear hu hget h1
                      gi_wp2_with (first
                        | (refine ⟨trivial, ?_⟩; gi_at_call 27; refine (CallsIn.inRound lp (callsIn_wide.2 HN.out)).mono ?_; rintro e U1 ⟨rfl, rfl⟩)
                        | (refine ⟨trivial, ?_⟩; gi_at_call 28; refine (CallsIn.inRound lp (callsIn_wide.2 HG.out)).mono ?_; rintro e U2 ⟨rfl, rfl⟩))
                      exact ⟨(KeepsOthers.setCell _ _ _).from _, rfl, HI.out⟩
                    | some z =>
                      rw [hu] at hget
                      simp only [Option.getD_some, Option.isSome_some] at hget
                      have HG := Lib.hid hget
                      clear hu hget h1
                      gi_wp2_with (first
                        | (refine ⟨trivial, ?_⟩; gi_at_call 27; refine (CallsIn.inRound lp (callsIn_wide.2 HN.out)).mono ?_; rintro e U1 ⟨rfl, rfl⟩)
                        | (refine ⟨trivial, ?_⟩; gi_at_call 28; refine (CallsIn.inRound lp (callsIn_wide.2 HG.out)).mono ?_; rintro e U2 ⟨rfl, rfl⟩))
                      exact ⟨(KeepsOthers.setCell _ _ _).from _, rfl, HI.out⟩
                case done =>
                  rintro D ys2 V hD rfl ⟨⟨hpre, hao⟩, hOnly⟩ hK
                  have bl : ∀ k, k < W1.heap.size → k ≠ x0 → V.heap[k]? = W1.heap[k]? := fun k hk hne => hOnly.block k hk (fun e => by injection e with e; exact hne e)
                  have kr : Blk V w.heap.size 4 #[.bool false] := (bl _ HKR1.out.lt (by omega)).trans HKR1.out
                  have hta : Pi.IsTab V w1.heap.size ta := HTA1.out.stay (fun b hb => bl b (HTY.out b hb).2 (HTY.out b hb).1)
                  rw [show ta.rows.length = N from HN1.out] at hao
                  have cat : V.cell? ⟨x0, 0, none⟩ = some (.int .i64 (N : Nat)) := by rw [hao.cell]; rfl
                  have cr : V.cell? ⟨w.heap.size, 0, none⟩ = some (.bool false) := by rw [kr.cell]; rfl
                  have frr : V.frozen? ⟨w.heap.size, 0, none⟩ = false := kr.frozen 0
                  have HLA : Hid (∀ q, Calls Try.prog 25 #[.pointer (some ⟨w1.heap.size, 0, none⟩)] (V.drewN q) fun e w' => e = .returned (.int .i64 (N : Int)) ∧ w' = V.drewN q) := Lib.hid (fun q => by
                    have := Pi.len_any w1.heap.size ta (V.drewN q) (hta.below (below_dn (Below.refl _ _) q))
                    rwa [HN1.out] at this)
                  have KR := Lib.hid kr
                  have HBV : Hid (Below w.heap.size w V) := Lib.hid (Only.below HB1.out hOnly (by omega) HB1.out.size)
                  have hm0 : Marks (w.heap.size + 1) [] V := trivial
                  have HMk := Lib.hid (hm0.cons (D := D) (fun d hd => by cases hd) (by omega) hK)
                  clear kr hta hao hOnly hpre hK bl hm0
                  go_wp2
                  refine wp_region_noPanic ?_
                  go_region_with (first
                    | (go_at_call 25; go_must (refine (HLA.out 1).mono ?_); rintro e V1 ⟨rfl, rfl⟩))
                  all_goals refine NoPanic.normal ?_
                  all_goals go_wp2
                  all_goals
                    have kr2 := blk_put KR.out (.bool true)
                    have ho : Only V (V.setCell ⟨w.heap.size, 0, none⟩ (.bool true)) w.heap.size := (Only.refl _ _).set _ _
                    refine Marks.leave (B := w.heap.size + 1) _ _ ((HMk.out.only ho KR.out).below (below_dn (Below.refl _ _) 1)) (fun W' hb => ?_)
                    have c5 : W'.cell? ⟨w.heap.size, 0, none⟩ = some (.bool true) := by
                      rw [hb.cell (p := ⟨w.heap.size, 0, none⟩) (by simp)]
                      exact (kr2.cell 0)
                    refine ⟨.bool true, ?_, rfl, (HBV.out.setCell (p := ⟨w.heap.size, 0, none⟩) (by simp) _).trans ⟨hb.os, hb.tape, hb.output, hb.size, fun k hk => hb.block k (by omega)⟩⟩
                    simp [results, Try.f8, go_sem, c5]
  · have hb : (512 : Int) < (m : Int) := by omega
    go_wp2
    have kr2 := blk_put HKR1.out (.bool true)
    refine Marks.leave (B := w.heap.size + 1) [] _ trivial (fun W' hb => ?_)
    have c5 : W'.cell? ⟨w.heap.size, 0, none⟩ = some (.bool true) := by
      rw [hb.cell (p := ⟨w.heap.size, 0, none⟩) (by simp), kr2.cell]; rfl
    refine ⟨.bool true, ?_, rfl, (HB1.out.setCell (p := ⟨w.heap.size, 0, none⟩) (by simp) _).trans (hb.mono (by omega))⟩
    simp [results, Try.f8, go_sem, c5]
end Go.Proofs.Ytgkmlggcmmdafaa.Pk
