/- The document's answers (fletchref13): Good. -/
import Derived.Test.YtcicpgiljceioaaZChRefA
import Derived.IntWalk
namespace Go.Proofs.Ytcicpgiljceioaa.Pk
open Go.RowKit
set_option linter.unusedVariables false
attribute [local go_sem] Oper.semAt_some
theorem cellOk_is {l : List Ce} {me : Int} {sink : Bool} {i n : Nat} {rn rs rd rx pn nn : Int} (hl : l.length = n) (h : (⟨rn, rs, rd, rx⟩ : Ce) = ceA l i) (hp : pn = (ceA l (i - 1)).n) (hn : nn = (ceA l (i + 1)).n) :
    CellOk l me sink i ↔ (0 ≤ rn ∧ rn ≤ 1099511627776 ∧ 1 ≤ rs ∧ rs ≤ 3) ∧ (0 < i → pn < rn ∧ rs = 1) ∧ (rn = 0 → rs = 3) ∧
      (if sink = true ∧ i + 1 = n then rd = -1 ∧ rx = 0 else (rs ≠ 3 ∧ 0 ≤ rd ∧ rd < 32 ∧ 1 ≤ rx ∧ rx ≤ 1099511627776) ∧ (rd = me → i + 1 < n ∧ nn = rx)) := by
  unfold CellOk
  rw [← h, ← hp, ← hn, hl]
set_option maxRecDepth 100000 in
set_option maxHeartbeats 16000000 in
theorem refgoodk_any (A : Option Addr) (n c : Nat) (l : List Ce) (me : Int) (sink : Bool) (w : World) (hin : InK w l A n c) :
    Calls Try.prog 41 #[.slice A n c, .int .i64 me, .bool sink] w fun e w' => e = .returned (.bool (decide (GoodK l me sink))) ∧ Below w.heap.size w w' := by
  have HI := Lib.hid hin
  have HL := Lib.hid hin.len
  have hn := hin.few
  clear hin
  obtain ⟨r, hr9⟩ : ∃ r, r = decide (GoodK l me sink) := ⟨_, rfl⟩
  rw [← hr9]
  have HF0 : Hid (¬ GoodK l me sink → r = false) := Lib.hid (fun h => by rw [hr9]; exact decide_eq_false h)
  have HT0 : Hid (GoodK l me sink → r = true) := Lib.hid (fun h => by rw [hr9]; exact decide_eq_true h)
  clear hr9
  cases sink with
  | true =>
    go_enter Try.func41, Try.ntmps41
    by_cases h0 : n = 0
    case pos =>
      have t0 : ((n : Int) == 0) = true := by simp [h0]
      have hrf : r = false := HF0.out (fun h => by have := h.1 rfl; rw [HL.out] at this; omega)
      clear h0
      go_wp2
      go_ret
      exact ⟨by first | rfl | (rw [hrf]; rfl), Below.refl _ _⟩
    case neg =>
    have t0 : ((n : Int) == 0) = false := by simp; omega
    go_wp2
    go_loopw [8, 9] (fun j _ wr => ∃ i : Nat, j = .int .i64 i ∧ i ≤ n ∧ (∀ j, j < i → CellOk l me true j) ∧ Below w.heap.size w wr) (fun j _ _ => n - (intOf j).toNat)
    case atStart => exact ⟨0, rfl, by omega, (fun j hj => by omega), Below.refl _ _⟩
    case round =>
      obtain ⟨i, rfl, hi, hall, hb⟩ := hrel
      obtain ⟨w1, rfl⟩ : ∃ w1 : World, w1 = wr := ⟨_, rfl⟩
      have HB := Lib.hid hb
      have HA := Lib.hid hall
      clear hb hall
      by_cases hlt : i < n
      case neg =>
        have hrt : r = true := HT0.out ⟨(by intro h; first | (cases h; done) | (rw [HL.out]; omega)), fun j hj => HA.out j (by rw [HL.out] at hj; omega)⟩
        go_wp2
        go_ret
        exact ⟨by first | rfl | (rw [hrt]; rfl), HB.out⟩
      case pos =>
      obtain ⟨b, off, rfl, _, hc⟩ := (HI.out.next HB.out).rd.ces_ (by omega)
      have hil : i < l.length := by rw [HL.out]; exact hlt
      have hcg := hc i _ (ceA_get hil)
      obtain ⟨r, hr⟩ : ∃ r, r = ceA l i := ⟨_, rfl⟩
      have HRi := Lib.hid hr
      rw [← hr] at hcg
      obtain ⟨rn, rs, rd, rx⟩ := r
      simp only at hcg
      obtain ⟨m0, m1, m2, m3⟩ := hcg
      clear hc hr
      obtain ⟨pn, hpn⟩ : ∃ x, x = (ceA l (i - 1)).n := ⟨_, rfl⟩
      obtain ⟨nn, hnn⟩ : ∃ x, x = (ceA l (i + 1)).n := ⟨_, rfl⟩
      have HOk := Lib.hid (cellOk_is (me := me) (sink := true) HL.out HRi.out hpn hnn)
      have HPn := Lib.hid hpn
      have HNn := Lib.hid hnn
      have HFr : Hid (¬ CellOk l me true i → r = false) := Lib.hid (fun h => HF0.out (fun hg => h (hg.2 i hil)))
      have HB2 : Hid (Below w.heap.size w (w1.alloc (.cells #[.int .i64 rn, .int .i64 rs, .int .i64 rd, .int .i64 rx] 57))) := Lib.hid (HB.out.alloc HB.out.size _)
      clear hpn hnn
      by_cases g1 : rn < 0
      case pos =>
        have v1 : decide (rn < 0) = true := decide_eq_true g1
        have hrf : r = false := HFr.out (fun h => by obtain ⟨a1, a2, a3, a4⟩ := HOk.out.1 h; omega)
        clear g1
        go_wp2
        go_ret
        exact ⟨by first | rfl | (rw [hrf]; rfl), HB2.out⟩
      case neg =>
      have v1 : decide (rn < 0) = false := decide_eq_false g1
      by_cases g2 : 1099511627776 < rn
      case pos =>
        have v2 : decide ((1099511627776 : Int) < rn) = true := decide_eq_true g2
        have hrf : r = false := HFr.out (fun h => by obtain ⟨a1, a2, a3, a4⟩ := HOk.out.1 h; omega)
        clear g1
        go_wp2
        go_ret
        exact ⟨by first | rfl | (rw [hrf]; rfl), HB2.out⟩
      case neg =>
      have v2 : decide ((1099511627776 : Int) < rn) = false := decide_eq_false g2
      by_cases g3 : rs < 1
      case pos =>
        have v3 : decide (rs < 1) = true := decide_eq_true g3
        have hrf : r = false := HFr.out (fun h => by obtain ⟨a1, a2, a3, a4⟩ := HOk.out.1 h; omega)
        clear g1 g2
        go_wp2
        go_ret
        exact ⟨by first | rfl | (rw [hrf]; rfl), HB2.out⟩
      case neg =>
      have v3 : decide (rs < 1) = false := decide_eq_false g3
      by_cases g4 : 3 < rs
      case pos =>
        have v4 : decide ((3 : Int) < rs) = true := decide_eq_true g4
        have hrf : r = false := HFr.out (fun h => by obtain ⟨a1, a2, a3, a4⟩ := HOk.out.1 h; omega)
        clear g1 g2 g3
        go_wp2
        go_ret
        exact ⟨by first | rfl | (rw [hrf]; rfl), HB2.out⟩
      case neg =>
      have v4 : decide ((3 : Int) < rs) = false := decide_eq_false g4
      obtain ⟨p, hp⟩ : ∃ x, x = w1.heap.size := ⟨_, rfl⟩
      obtain ⟨W2, hW2⟩ : ∃ W, W = w1.alloc (.cells #[.int .i64 rn, .int .i64 rs, .int .i64 rd, .int .i64 rx] 57) := ⟨_, rfl⟩
      have HKb : Hid (Blk W2 p 57 #[.int .i64 rn, .int .i64 rs, .int .i64 rd, .int .i64 rx]) := Lib.hid (by rw [hW2, hp]; exact Blk.new w1 _ _)
      rw [← hW2] at HB2
      have k0 : ∀ k, (W2.drewN k).cell? ⟨p, 0, none⟩ = some (.int .i64 rn) := fun k => HKb.out.cell 0
      have k1 : ∀ k, (W2.drewN k).cell? ⟨p, 1, none⟩ = some (.int .i64 rs) := fun k => HKb.out.cell 1
      go_wp2_with fail
      rw [← hW2, ← hp]
      clear hW2 hp m0 m1 m2 m3
      have HG : Hid (0 ≤ rn ∧ rn ≤ 1099511627776 ∧ 1 ≤ rs ∧ rs ≤ 3) := Lib.hid ⟨by omega, by omega, by omega, by omega⟩
      clear v1 v2 v3 v4
      have key : ∀ (W3 : World), Below w.heap.size w W3 → Blk W3 p 57 #[.int .i64 rn, .int .i64 rs, .int .i64 rd, .int .i64 rx] → True := fun _ _ _ => trivial
      clear key
      by_cases hi0 : i = 0
      case pos =>
        have s1 : decide (0 < i) = false := by simp [hi0]
        have HPv : Hid (0 < i → pn < rn ∧ rs = 1) := Lib.hid (fun h => by omega)
        clear hi0
        go_quiet (fail)
        obtain ⟨W3, hW3⟩ : ∃ W, W = W2.drewN nq := ⟨_, rfl⟩
        have HB3 : Hid (Below w.heap.size w W3) := Lib.hid (by rw [hW3]; exact below_drewC HB2.out nq)
        have HK3 : Hid (Blk W3 p 57 #[.int .i64 rn, .int .i64 rs, .int .i64 rd, .int .i64 rx]) := Lib.hid (by rw [hW3]; exact HKb.out)
        rw [← hW3]
        clear hW3 k0 k1 HKb HB2
        have k0 : ∀ k, (W3.drewN k).cell? ⟨p, 0, none⟩ = some (.int .i64 rn) := fun k => HK3.out.cell 0
        have k1 : ∀ k, (W3.drewN k).cell? ⟨p, 1, none⟩ = some (.int .i64 rs) := fun k => HK3.out.cell 1
        have k2 : ∀ k, (W3.drewN k).cell? ⟨p, 2, none⟩ = some (.int .i64 rd) := fun k => HK3.out.cell 2
        have k3 : ∀ k, (W3.drewN k).cell? ⟨p, 3, none⟩ = some (.int .i64 rx) := fun k => HK3.out.cell 3
        have j0 : W3.cell? ⟨p, 0, none⟩ = some (.int .i64 rn) := HK3.out.cell 0
        have j1 : W3.cell? ⟨p, 1, none⟩ = some (.int .i64 rs) := HK3.out.cell 1
        have j2 : W3.cell? ⟨p, 2, none⟩ = some (.int .i64 rd) := HK3.out.cell 2
        have j3 : W3.cell? ⟨p, 3, none⟩ = some (.int .i64 rx) := HK3.out.cell 3
        have gg := HG.out
        by_cases z1 : rn = 0 ∧ rs ≠ 3
        case pos =>
          have y1 : (rn == 0) = true := by simp [z1.1]
          have y2 : (rs != 3) = true := by simp [z1.2]
          have hrf : r = false := HFr.out (fun h => by obtain ⟨a1, a2, a3, a4⟩ := HOk.out.1 h; exact z1.2 (a3 z1.1))
          clear z1 gg
          go_wp2
          go_ret
          exact ⟨by first | rfl | (rw [hrf]; rfl), HB3.out⟩
        case neg =>
        have HZr : Hid (rn = 0 → rs = 3) := Lib.hid (fun h => Classical.byContradiction fun h2 => z1 ⟨h, h2⟩)
        have y12 : ((rn == 0) = false) ∨ ((rn == 0) = true ∧ (rs != 3) = false) := by
          by_cases h : rn = 0
          · right; exact ⟨by simp [h], by simp [HZr.out h]⟩
          · left; simp [h]
        clear z1
        rcases y12 with y1 | ⟨y1, y2⟩
        · by_cases hlast : i + 1 = n
          case pos =>
            have t5 : ((i : Int) == (n : Int) - 1) = true := by simp; omega
            by_cases e1 : rd = -1
            case neg =>
              have u1 : (rd != -1) = true := by simp [e1]
              have hrf : r = false := HFr.out (fun h => by obtain ⟨a1, a2, a3, a4⟩ := HOk.out.1 h; rw [if_pos (by simp [hlast])] at a4; exact e1 a4.1)
              clear e1 hlast
              go_wp2
              go_ret
              exact ⟨by first | rfl | (rw [hrf]; rfl), HB3.out⟩
            case pos =>
            have u1 : (rd != -1) = false := by simp [e1]
            by_cases e2 : rx = 0
            case neg =>
              have u2 : (rx != 0) = true := by simp [e2]
              have hrf : r = false := HFr.out (fun h => by obtain ⟨a1, a2, a3, a4⟩ := HOk.out.1 h; rw [if_pos (by simp [hlast])] at a4; exact e2 a4.2)
              clear e1 e2 hlast
              go_wp2
              go_ret
              exact ⟨by first | rfl | (rw [hrf]; rfl), HB3.out⟩
            case pos =>
            have u2 : (rx != 0) = false := by simp [e2]
            have HNx : Hid (∀ j, j < i + 1 → CellOk l me true j) := Lib.hid (fun j hj => by
              rcases Nat.lt_or_ge j i with h | h
              · exact HA.out j h
              · obtain rfl : j = i := by omega
                exact HOk.out.2 ⟨⟨by omega, by omega, by omega, by omega⟩, HPv.out, HZr.out, by rw [if_pos (by simp [hlast])]; exact ⟨e1, e2⟩⟩)
            have HLa := Lib.hid hlast
            clear e1 e2 hlast
            go_wp2
            go_roundw
            case rel => exact ⟨i + 1, by go_num, by omega, HNx.out, HB3.out⟩
            case measure => simp [intOf]; omega
          case neg =>
          have t5 : ((i : Int) == (n : Int) - 1) = false := by simp; omega
          have HLa := Lib.hid hlast
          by_cases e1 : rs = 3
          case pos =>
            have u1 : (rs == 3) = true := by simp [e1]
            have hrf : r = false := HFr.out (fun h => by obtain ⟨a1, a2, a3, a4⟩ := HOk.out.1 h; rw [if_neg (by simp; omega)] at a4; exact a4.1.1 e1)
            clear e1
            go_wp2
            go_ret
            exact ⟨by first | rfl | (rw [hrf]; rfl), HB3.out⟩
          case neg =>
          have u1 : (rs == 3) = false := by simp [e1]
          by_cases e2 : rd < 0
          case pos =>
            have u2 : decide (rd < 0) = true := decide_eq_true e2
            have hrf : r = false := HFr.out (fun h => by obtain ⟨a1, a2, a3, a4⟩ := HOk.out.1 h; rw [if_neg (by simp; omega)] at a4; omega)
            clear e1 e2
            go_wp2
            go_ret
            exact ⟨by first | rfl | (rw [hrf]; rfl), HB3.out⟩
          case neg =>
          have u2 : decide (rd < 0) = false := decide_eq_false e2
          by_cases e3 : 32 ≤ rd
          case pos =>
            have u3 : decide ((32 : Int) ≤ rd) = true := decide_eq_true e3
            have hrf : r = false := HFr.out (fun h => by obtain ⟨a1, a2, a3, a4⟩ := HOk.out.1 h; rw [if_neg (by simp; omega)] at a4; omega)
            clear e1 e2
            go_wp2
            go_ret
            exact ⟨by first | rfl | (rw [hrf]; rfl), HB3.out⟩
          case neg =>
          have u3 : decide ((32 : Int) ≤ rd) = false := decide_eq_false e3
          by_cases e4 : rx < 1
          case pos =>
            have u4 : decide (rx < 1) = true := decide_eq_true e4
            have hrf : r = false := HFr.out (fun h => by obtain ⟨a1, a2, a3, a4⟩ := HOk.out.1 h; rw [if_neg (by simp; omega)] at a4; omega)
            clear e1 e2 e3
            go_wp2
            go_ret
            exact ⟨by first | rfl | (rw [hrf]; rfl), HB3.out⟩
          case neg =>
          have u4 : decide (rx < 1) = false := decide_eq_false e4
          by_cases e5 : 1099511627776 < rx
          case pos =>
            have u5 : decide ((1099511627776 : Int) < rx) = true := decide_eq_true e5
            have hrf : r = false := HFr.out (fun h => by obtain ⟨a1, a2, a3, a4⟩ := HOk.out.1 h; rw [if_neg (by simp; omega)] at a4; omega)
            clear e1 e2 e3 e4
            go_wp2
            go_ret
            exact ⟨by first | rfl | (rw [hrf]; rfl), HB3.out⟩
          case neg =>
          have u5 : decide ((1099511627776 : Int) < rx) = false := decide_eq_false e5
          have HE : Hid (rs ≠ 3 ∧ 0 ≤ rd ∧ rd < 32 ∧ 1 ≤ rx ∧ rx ≤ 1099511627776) := Lib.hid ⟨e1, by omega, by omega, by omega, by omega⟩
          clear e1 e2 e3 e4 e5
          by_cases e6 : rd = me
          case neg =>
            have u6 : (rd == me) = false := by simp [e6]
            have HNx : Hid (∀ j, j < i + 1 → CellOk l me true j) := Lib.hid (fun j hj => by
              rcases Nat.lt_or_ge j i with h | h
              · exact HA.out j h
              · obtain rfl : j = i := by omega
                exact HOk.out.2 ⟨⟨by omega, by omega, by omega, by omega⟩, HPv.out, HZr.out, by rw [if_neg (by simp; omega)]; exact ⟨HE.out, fun h => absurd h e6⟩⟩)
            clear e6
            go_wp2_with fail
            go_quiet (fail)
            go_wp2
            go_roundw
            case rel => exact ⟨i + 1, by go_num, by omega, HNx.out, below_drewC HB3.out _⟩
            case measure => simp [intOf]; omega
          case pos =>
          have u6 : (rd == me) = true := by simp [e6]
          by_cases e7 : i + 1 = n
          case pos =>
            exact absurd e7 HLa.out
          case neg =>
          have u7 : ((i : Int) == (n : Int) - 1) = false := by simp; omega
          have hw7 : IntKind.i64.wrap ((n : Int) - 1) = (n : Int) - 1 := IntWalk.i64_in _ (by omega)
          obtain ⟨i1, hi1⟩ : ∃ k, k = i + 1 := ⟨_, rfl⟩
          have hw8 : IntKind.i64.wrap ((i : Int) + 1) = (i1 : Int) := by rw [IntWalk.i64_in _ (by omega)]; omega
          have cn : ∀ k, (W3.drewN k).cell? ⟨b, off + i1 * 4, none⟩ = some (.int .i64 nn) := fun k => by
            obtain ⟨b8, off8, e8, _, hc8⟩ := (HI.out.next HB3.out).rd.ces_ (by omega)
            injection e8 with e8
            injection e8 with e8 e9
            subst e8; subst e9
            have := (hc8 i1 _ (ceA_get (by rw [HL.out]; omega))).1
            rw [hi1, ← HNn.out, ← hi1] at this
            exact this
          have hi1n : (i1 : Int) < (n : Int) := by omega
          have HI1 := Lib.hid hi1
          clear hi1
          by_cases e8 : nn = rx
          case neg =>
            have u8 : (nn != rx) = true := by simp [e8]
            have hrf : r = false := HFr.out (fun h => by obtain ⟨a1, a2, a3, a4⟩ := HOk.out.1 h; rw [if_neg (by simp; omega)] at a4; exact e8 (a4.2 e6).2)
            clear e6 e7 e8
            go_wp2_with fail
            go_quiet (fail)
            go_wp2
            go_ret
            exact ⟨by first | rfl | (rw [hrf]; rfl), below_drewC HB3.out _⟩
          case pos =>
          have u8 : (nn != rx) = false := by simp [e8]
          have HNx : Hid (∀ j, j < i + 1 → CellOk l me true j) := Lib.hid (fun j hj => by
            rcases Nat.lt_or_ge j i with h | h
            · exact HA.out j h
            · obtain rfl : j = i := by omega
              exact HOk.out.2 ⟨⟨by omega, by omega, by omega, by omega⟩, HPv.out, HZr.out, by rw [if_neg (by simp; omega)]; exact ⟨HE.out, fun _ => ⟨by omega, e8⟩⟩⟩)
          clear e6 e7 e8
          go_wp2_with fail
          go_quiet (fail)
          clear hw7 hw8
          go_wp2
          go_roundw
          case rel => exact ⟨i + 1, by go_num, by omega, HNx.out, below_drewC HB3.out _⟩
          case measure => simp [intOf]; omega
        · by_cases hlast : i + 1 = n
          case pos =>
            have t5 : ((i : Int) == (n : Int) - 1) = true := by simp; omega
            by_cases e1 : rd = -1
            case neg =>
              have u1 : (rd != -1) = true := by simp [e1]
              have hrf : r = false := HFr.out (fun h => by obtain ⟨a1, a2, a3, a4⟩ := HOk.out.1 h; rw [if_pos (by simp [hlast])] at a4; exact e1 a4.1)
              clear e1 hlast
              go_wp2
              go_ret
              exact ⟨by first | rfl | (rw [hrf]; rfl), HB3.out⟩
            case pos =>
            have u1 : (rd != -1) = false := by simp [e1]
            by_cases e2 : rx = 0
            case neg =>
              have u2 : (rx != 0) = true := by simp [e2]
              have hrf : r = false := HFr.out (fun h => by obtain ⟨a1, a2, a3, a4⟩ := HOk.out.1 h; rw [if_pos (by simp [hlast])] at a4; exact e2 a4.2)
              clear e1 e2 hlast
              go_wp2
              go_ret
              exact ⟨by first | rfl | (rw [hrf]; rfl), HB3.out⟩
            case pos =>
            have u2 : (rx != 0) = false := by simp [e2]
            have HNx : Hid (∀ j, j < i + 1 → CellOk l me true j) := Lib.hid (fun j hj => by
              rcases Nat.lt_or_ge j i with h | h
              · exact HA.out j h
              · obtain rfl : j = i := by omega
                exact HOk.out.2 ⟨⟨by omega, by omega, by omega, by omega⟩, HPv.out, HZr.out, by rw [if_pos (by simp [hlast])]; exact ⟨e1, e2⟩⟩)
            have HLa := Lib.hid hlast
            clear e1 e2 hlast
            go_wp2
            go_roundw
            case rel => exact ⟨i + 1, by go_num, by omega, HNx.out, HB3.out⟩
            case measure => simp [intOf]; omega
          case neg =>
          have t5 : ((i : Int) == (n : Int) - 1) = false := by simp; omega
          have HLa := Lib.hid hlast
          by_cases e1 : rs = 3
          case pos =>
            have u1 : (rs == 3) = true := by simp [e1]
            have hrf : r = false := HFr.out (fun h => by obtain ⟨a1, a2, a3, a4⟩ := HOk.out.1 h; rw [if_neg (by simp; omega)] at a4; exact a4.1.1 e1)
            clear e1
            go_wp2
            go_ret
            exact ⟨by first | rfl | (rw [hrf]; rfl), HB3.out⟩
          case neg =>
          have u1 : (rs == 3) = false := by simp [e1]
          by_cases e2 : rd < 0
          case pos =>
            have u2 : decide (rd < 0) = true := decide_eq_true e2
            have hrf : r = false := HFr.out (fun h => by obtain ⟨a1, a2, a3, a4⟩ := HOk.out.1 h; rw [if_neg (by simp; omega)] at a4; omega)
            clear e1 e2
            go_wp2
            go_ret
            exact ⟨by first | rfl | (rw [hrf]; rfl), HB3.out⟩
          case neg =>
          have u2 : decide (rd < 0) = false := decide_eq_false e2
          by_cases e3 : 32 ≤ rd
          case pos =>
            have u3 : decide ((32 : Int) ≤ rd) = true := decide_eq_true e3
            have hrf : r = false := HFr.out (fun h => by obtain ⟨a1, a2, a3, a4⟩ := HOk.out.1 h; rw [if_neg (by simp; omega)] at a4; omega)
            clear e1 e2
            go_wp2
            go_ret
            exact ⟨by first | rfl | (rw [hrf]; rfl), HB3.out⟩
          case neg =>
          have u3 : decide ((32 : Int) ≤ rd) = false := decide_eq_false e3
          by_cases e4 : rx < 1
          case pos =>
            have u4 : decide (rx < 1) = true := decide_eq_true e4
            have hrf : r = false := HFr.out (fun h => by obtain ⟨a1, a2, a3, a4⟩ := HOk.out.1 h; rw [if_neg (by simp; omega)] at a4; omega)
            clear e1 e2 e3
            go_wp2
            go_ret
            exact ⟨by first | rfl | (rw [hrf]; rfl), HB3.out⟩
          case neg =>
          have u4 : decide (rx < 1) = false := decide_eq_false e4
          by_cases e5 : 1099511627776 < rx
          case pos =>
            have u5 : decide ((1099511627776 : Int) < rx) = true := decide_eq_true e5
            have hrf : r = false := HFr.out (fun h => by obtain ⟨a1, a2, a3, a4⟩ := HOk.out.1 h; rw [if_neg (by simp; omega)] at a4; omega)
            clear e1 e2 e3 e4
            go_wp2
            go_ret
            exact ⟨by first | rfl | (rw [hrf]; rfl), HB3.out⟩
          case neg =>
          have u5 : decide ((1099511627776 : Int) < rx) = false := decide_eq_false e5
          have HE : Hid (rs ≠ 3 ∧ 0 ≤ rd ∧ rd < 32 ∧ 1 ≤ rx ∧ rx ≤ 1099511627776) := Lib.hid ⟨e1, by omega, by omega, by omega, by omega⟩
          clear e1 e2 e3 e4 e5
          by_cases e6 : rd = me
          case neg =>
            have u6 : (rd == me) = false := by simp [e6]
            have HNx : Hid (∀ j, j < i + 1 → CellOk l me true j) := Lib.hid (fun j hj => by
              rcases Nat.lt_or_ge j i with h | h
              · exact HA.out j h
              · obtain rfl : j = i := by omega
                exact HOk.out.2 ⟨⟨by omega, by omega, by omega, by omega⟩, HPv.out, HZr.out, by rw [if_neg (by simp; omega)]; exact ⟨HE.out, fun h => absurd h e6⟩⟩)
            clear e6
            go_wp2_with fail
            go_quiet (fail)
            go_wp2
            go_roundw
            case rel => exact ⟨i + 1, by go_num, by omega, HNx.out, below_drewC HB3.out _⟩
            case measure => simp [intOf]; omega
          case pos =>
          have u6 : (rd == me) = true := by simp [e6]
          by_cases e7 : i + 1 = n
          case pos =>
            exact absurd e7 HLa.out
          case neg =>
          have u7 : ((i : Int) == (n : Int) - 1) = false := by simp; omega
          have hw7 : IntKind.i64.wrap ((n : Int) - 1) = (n : Int) - 1 := IntWalk.i64_in _ (by omega)
          obtain ⟨i1, hi1⟩ : ∃ k, k = i + 1 := ⟨_, rfl⟩
          have hw8 : IntKind.i64.wrap ((i : Int) + 1) = (i1 : Int) := by rw [IntWalk.i64_in _ (by omega)]; omega
          have cn : ∀ k, (W3.drewN k).cell? ⟨b, off + i1 * 4, none⟩ = some (.int .i64 nn) := fun k => by
            obtain ⟨b8, off8, e8, _, hc8⟩ := (HI.out.next HB3.out).rd.ces_ (by omega)
            injection e8 with e8
            injection e8 with e8 e9
            subst e8; subst e9
            have := (hc8 i1 _ (ceA_get (by rw [HL.out]; omega))).1
            rw [hi1, ← HNn.out, ← hi1] at this
            exact this
          have hi1n : (i1 : Int) < (n : Int) := by omega
          have HI1 := Lib.hid hi1
          clear hi1
          by_cases e8 : nn = rx
          case neg =>
            have u8 : (nn != rx) = true := by simp [e8]
            have hrf : r = false := HFr.out (fun h => by obtain ⟨a1, a2, a3, a4⟩ := HOk.out.1 h; rw [if_neg (by simp; omega)] at a4; exact e8 (a4.2 e6).2)
            clear e6 e7 e8
            go_wp2_with fail
            go_quiet (fail)
            go_wp2
            go_ret
            exact ⟨by first | rfl | (rw [hrf]; rfl), below_drewC HB3.out _⟩
          case pos =>
          have u8 : (nn != rx) = false := by simp [e8]
          have HNx : Hid (∀ j, j < i + 1 → CellOk l me true j) := Lib.hid (fun j hj => by
            rcases Nat.lt_or_ge j i with h | h
            · exact HA.out j h
            · obtain rfl : j = i := by omega
              exact HOk.out.2 ⟨⟨by omega, by omega, by omega, by omega⟩, HPv.out, HZr.out, by rw [if_neg (by simp; omega)]; exact ⟨HE.out, fun _ => ⟨by omega, e8⟩⟩⟩)
          clear e6 e7 e8
          go_wp2_with fail
          go_quiet (fail)
          clear hw7 hw8
          go_wp2
          go_roundw
          case rel => exact ⟨i + 1, by go_num, by omega, HNx.out, below_drewC HB3.out _⟩
          case measure => simp [intOf]; omega
      case neg =>
      obtain ⟨j, hj⟩ : ∃ j, j = i - 1 := ⟨_, rfl⟩
      have s1 : decide (0 < i) = true := by simp; omega
      have hw1 : IntKind.i64.wrap ((i : Int) - 1) = (j : Int) := by rw [IntWalk.i64_in _ (by omega)]; omega
      have cp : ∀ k, (W2.drewN k).cell? ⟨b, off + j * 4, none⟩ = some (.int .i64 pn) := fun k => by
        obtain ⟨b8, off8, e8, _, hc8⟩ := (HI.out.next HB2.out).rd.ces_ (by omega)
        injection e8 with e8
        injection e8 with e8 e9
        subst e8; subst e9
        have := (hc8 j _ (ceA_get (by rw [HL.out]; omega))).1
        rw [hj, ← HPn.out, ← hj] at this
        exact this
      have hjn : (j : Int) < (n : Int) := by omega
      have HJ := Lib.hid hj
      clear hj
      by_cases g5 : rn ≤ pn
      case pos =>
        have v5 : decide (rn ≤ pn) = true := decide_eq_true g5
        have hrf : r = false := HFr.out (fun h => by obtain ⟨a1, a2, a3, a4⟩ := HOk.out.1 h; have := (a2 (by omega)).1; omega)
        clear hi0
        go_quiet (fail)
        go_wp2
        go_ret
        exact ⟨by first | rfl | (rw [hrf]; rfl), below_drewC HB2.out _⟩
      case neg =>
      have v5 : decide (rn ≤ pn) = false := decide_eq_false g5
      by_cases g6 : rs = 1
      case neg =>
        have v6 : (rs != 1) = true := by simp [g6]
        have hrf : r = false := HFr.out (fun h => by obtain ⟨a1, a2, a3, a4⟩ := HOk.out.1 h; exact g6 (a2 (by omega)).2)
        clear hi0 g5 g6
        go_quiet (fail)
        go_wp2
        go_ret
        exact ⟨by first | rfl | (rw [hrf]; rfl), below_drewC HB2.out _⟩
      case pos =>
      have v6 : (rs != 1) = false := by simp [g6]
      have HPv : Hid (0 < i → pn < rn ∧ rs = 1) := Lib.hid (fun _ => ⟨by omega, g6⟩)
      clear hi0 g5 g6
      go_quiet (fail)
      obtain ⟨W3, hW3⟩ : ∃ W, W = W2.drewN nq := ⟨_, rfl⟩
      have HB3 : Hid (Below w.heap.size w W3) := Lib.hid (by rw [hW3]; exact below_drewC HB2.out nq)
      have HK3 : Hid (Blk W3 p 57 #[.int .i64 rn, .int .i64 rs, .int .i64 rd, .int .i64 rx]) := Lib.hid (by rw [hW3]; exact HKb.out)
      rw [← hW3]
      clear hW3 k0 k1 HKb HB2 cp v5 v6 hw1
      have k0 : ∀ k, (W3.drewN k).cell? ⟨p, 0, none⟩ = some (.int .i64 rn) := fun k => HK3.out.cell 0
      have k1 : ∀ k, (W3.drewN k).cell? ⟨p, 1, none⟩ = some (.int .i64 rs) := fun k => HK3.out.cell 1
      have k2 : ∀ k, (W3.drewN k).cell? ⟨p, 2, none⟩ = some (.int .i64 rd) := fun k => HK3.out.cell 2
      have k3 : ∀ k, (W3.drewN k).cell? ⟨p, 3, none⟩ = some (.int .i64 rx) := fun k => HK3.out.cell 3
      have j0 : W3.cell? ⟨p, 0, none⟩ = some (.int .i64 rn) := HK3.out.cell 0
      have j1 : W3.cell? ⟨p, 1, none⟩ = some (.int .i64 rs) := HK3.out.cell 1
      have j2 : W3.cell? ⟨p, 2, none⟩ = some (.int .i64 rd) := HK3.out.cell 2
      have j3 : W3.cell? ⟨p, 3, none⟩ = some (.int .i64 rx) := HK3.out.cell 3
      have gg := HG.out
      by_cases z1 : rn = 0 ∧ rs ≠ 3
      case pos =>
        have y1 : (rn == 0) = true := by simp [z1.1]
        have y2 : (rs != 3) = true := by simp [z1.2]
        have hrf : r = false := HFr.out (fun h => by obtain ⟨a1, a2, a3, a4⟩ := HOk.out.1 h; exact z1.2 (a3 z1.1))
        clear z1 gg
        go_wp2
        go_ret
        exact ⟨by first | rfl | (rw [hrf]; rfl), HB3.out⟩
      case neg =>
      have HZr : Hid (rn = 0 → rs = 3) := Lib.hid (fun h => Classical.byContradiction fun h2 => z1 ⟨h, h2⟩)
      have y12 : ((rn == 0) = false) ∨ ((rn == 0) = true ∧ (rs != 3) = false) := by
        by_cases h : rn = 0
        · right; exact ⟨by simp [h], by simp [HZr.out h]⟩
        · left; simp [h]
      clear z1
      rcases y12 with y1 | ⟨y1, y2⟩
      · by_cases hlast : i + 1 = n
        case pos =>
          have t5 : ((i : Int) == (n : Int) - 1) = true := by simp; omega
          by_cases e1 : rd = -1
          case neg =>
            have u1 : (rd != -1) = true := by simp [e1]
            have hrf : r = false := HFr.out (fun h => by obtain ⟨a1, a2, a3, a4⟩ := HOk.out.1 h; rw [if_pos (by simp [hlast])] at a4; exact e1 a4.1)
            clear e1 hlast
            go_wp2
            go_ret
            exact ⟨by first | rfl | (rw [hrf]; rfl), HB3.out⟩
          case pos =>
          have u1 : (rd != -1) = false := by simp [e1]
          by_cases e2 : rx = 0
          case neg =>
            have u2 : (rx != 0) = true := by simp [e2]
            have hrf : r = false := HFr.out (fun h => by obtain ⟨a1, a2, a3, a4⟩ := HOk.out.1 h; rw [if_pos (by simp [hlast])] at a4; exact e2 a4.2)
            clear e1 e2 hlast
            go_wp2
            go_ret
            exact ⟨by first | rfl | (rw [hrf]; rfl), HB3.out⟩
          case pos =>
          have u2 : (rx != 0) = false := by simp [e2]
          have HNx : Hid (∀ j, j < i + 1 → CellOk l me true j) := Lib.hid (fun j hj => by
            rcases Nat.lt_or_ge j i with h | h
            · exact HA.out j h
            · obtain rfl : j = i := by omega
              exact HOk.out.2 ⟨⟨by omega, by omega, by omega, by omega⟩, HPv.out, HZr.out, by rw [if_pos (by simp [hlast])]; exact ⟨e1, e2⟩⟩)
          have HLa := Lib.hid hlast
          clear e1 e2 hlast
          go_wp2
          go_roundw
          case rel => exact ⟨i + 1, by go_num, by omega, HNx.out, HB3.out⟩
          case measure => simp [intOf]; omega
        case neg =>
        have t5 : ((i : Int) == (n : Int) - 1) = false := by simp; omega
        have HLa := Lib.hid hlast
        by_cases e1 : rs = 3
        case pos =>
          have u1 : (rs == 3) = true := by simp [e1]
          have hrf : r = false := HFr.out (fun h => by obtain ⟨a1, a2, a3, a4⟩ := HOk.out.1 h; rw [if_neg (by simp; omega)] at a4; exact a4.1.1 e1)
          clear e1
          go_wp2
          go_ret
          exact ⟨by first | rfl | (rw [hrf]; rfl), HB3.out⟩
        case neg =>
        have u1 : (rs == 3) = false := by simp [e1]
        by_cases e2 : rd < 0
        case pos =>
          have u2 : decide (rd < 0) = true := decide_eq_true e2
          have hrf : r = false := HFr.out (fun h => by obtain ⟨a1, a2, a3, a4⟩ := HOk.out.1 h; rw [if_neg (by simp; omega)] at a4; omega)
          clear e1 e2
          go_wp2
          go_ret
          exact ⟨by first | rfl | (rw [hrf]; rfl), HB3.out⟩
        case neg =>
        have u2 : decide (rd < 0) = false := decide_eq_false e2
        by_cases e3 : 32 ≤ rd
        case pos =>
          have u3 : decide ((32 : Int) ≤ rd) = true := decide_eq_true e3
          have hrf : r = false := HFr.out (fun h => by obtain ⟨a1, a2, a3, a4⟩ := HOk.out.1 h; rw [if_neg (by simp; omega)] at a4; omega)
          clear e1 e2
          go_wp2
          go_ret
          exact ⟨by first | rfl | (rw [hrf]; rfl), HB3.out⟩
        case neg =>
        have u3 : decide ((32 : Int) ≤ rd) = false := decide_eq_false e3
        by_cases e4 : rx < 1
        case pos =>
          have u4 : decide (rx < 1) = true := decide_eq_true e4
          have hrf : r = false := HFr.out (fun h => by obtain ⟨a1, a2, a3, a4⟩ := HOk.out.1 h; rw [if_neg (by simp; omega)] at a4; omega)
          clear e1 e2 e3
          go_wp2
          go_ret
          exact ⟨by first | rfl | (rw [hrf]; rfl), HB3.out⟩
        case neg =>
        have u4 : decide (rx < 1) = false := decide_eq_false e4
        by_cases e5 : 1099511627776 < rx
        case pos =>
          have u5 : decide ((1099511627776 : Int) < rx) = true := decide_eq_true e5
          have hrf : r = false := HFr.out (fun h => by obtain ⟨a1, a2, a3, a4⟩ := HOk.out.1 h; rw [if_neg (by simp; omega)] at a4; omega)
          clear e1 e2 e3 e4
          go_wp2
          go_ret
          exact ⟨by first | rfl | (rw [hrf]; rfl), HB3.out⟩
        case neg =>
        have u5 : decide ((1099511627776 : Int) < rx) = false := decide_eq_false e5
        have HE : Hid (rs ≠ 3 ∧ 0 ≤ rd ∧ rd < 32 ∧ 1 ≤ rx ∧ rx ≤ 1099511627776) := Lib.hid ⟨e1, by omega, by omega, by omega, by omega⟩
        clear e1 e2 e3 e4 e5
        by_cases e6 : rd = me
        case neg =>
          have u6 : (rd == me) = false := by simp [e6]
          have HNx : Hid (∀ j, j < i + 1 → CellOk l me true j) := Lib.hid (fun j hj => by
            rcases Nat.lt_or_ge j i with h | h
            · exact HA.out j h
            · obtain rfl : j = i := by omega
              exact HOk.out.2 ⟨⟨by omega, by omega, by omega, by omega⟩, HPv.out, HZr.out, by rw [if_neg (by simp; omega)]; exact ⟨HE.out, fun h => absurd h e6⟩⟩)
          clear e6
          go_wp2_with fail
          go_quiet (fail)
          go_wp2
          go_roundw
          case rel => exact ⟨i + 1, by go_num, by omega, HNx.out, below_drewC HB3.out _⟩
          case measure => simp [intOf]; omega
        case pos =>
        have u6 : (rd == me) = true := by simp [e6]
        by_cases e7 : i + 1 = n
        case pos =>
          exact absurd e7 HLa.out
        case neg =>
        have u7 : ((i : Int) == (n : Int) - 1) = false := by simp; omega
        have hw7 : IntKind.i64.wrap ((n : Int) - 1) = (n : Int) - 1 := IntWalk.i64_in _ (by omega)
        obtain ⟨i1, hi1⟩ : ∃ k, k = i + 1 := ⟨_, rfl⟩
        have hw8 : IntKind.i64.wrap ((i : Int) + 1) = (i1 : Int) := by rw [IntWalk.i64_in _ (by omega)]; omega
        have cn : ∀ k, (W3.drewN k).cell? ⟨b, off + i1 * 4, none⟩ = some (.int .i64 nn) := fun k => by
          obtain ⟨b8, off8, e8, _, hc8⟩ := (HI.out.next HB3.out).rd.ces_ (by omega)
          injection e8 with e8
          injection e8 with e8 e9
          subst e8; subst e9
          have := (hc8 i1 _ (ceA_get (by rw [HL.out]; omega))).1
          rw [hi1, ← HNn.out, ← hi1] at this
          exact this
        have hi1n : (i1 : Int) < (n : Int) := by omega
        have HI1 := Lib.hid hi1
        clear hi1
        by_cases e8 : nn = rx
        case neg =>
          have u8 : (nn != rx) = true := by simp [e8]
          have hrf : r = false := HFr.out (fun h => by obtain ⟨a1, a2, a3, a4⟩ := HOk.out.1 h; rw [if_neg (by simp; omega)] at a4; exact e8 (a4.2 e6).2)
          clear e6 e7 e8
          go_wp2_with fail
          go_quiet (fail)
          go_wp2
          go_ret
          exact ⟨by first | rfl | (rw [hrf]; rfl), below_drewC HB3.out _⟩
        case pos =>
        have u8 : (nn != rx) = false := by simp [e8]
        have HNx : Hid (∀ j, j < i + 1 → CellOk l me true j) := Lib.hid (fun j hj => by
          rcases Nat.lt_or_ge j i with h | h
          · exact HA.out j h
          · obtain rfl : j = i := by omega
            exact HOk.out.2 ⟨⟨by omega, by omega, by omega, by omega⟩, HPv.out, HZr.out, by rw [if_neg (by simp; omega)]; exact ⟨HE.out, fun _ => ⟨by omega, e8⟩⟩⟩)
        clear e6 e7 e8
        go_wp2_with fail
        go_quiet (fail)
        clear hw7 hw8
        go_wp2
        go_roundw
        case rel => exact ⟨i + 1, by go_num, by omega, HNx.out, below_drewC HB3.out _⟩
        case measure => simp [intOf]; omega
      · by_cases hlast : i + 1 = n
        case pos =>
          have t5 : ((i : Int) == (n : Int) - 1) = true := by simp; omega
          by_cases e1 : rd = -1
          case neg =>
            have u1 : (rd != -1) = true := by simp [e1]
            have hrf : r = false := HFr.out (fun h => by obtain ⟨a1, a2, a3, a4⟩ := HOk.out.1 h; rw [if_pos (by simp [hlast])] at a4; exact e1 a4.1)
            clear e1 hlast
            go_wp2
            go_ret
            exact ⟨by first | rfl | (rw [hrf]; rfl), HB3.out⟩
          case pos =>
          have u1 : (rd != -1) = false := by simp [e1]
          by_cases e2 : rx = 0
          case neg =>
            have u2 : (rx != 0) = true := by simp [e2]
            have hrf : r = false := HFr.out (fun h => by obtain ⟨a1, a2, a3, a4⟩ := HOk.out.1 h; rw [if_pos (by simp [hlast])] at a4; exact e2 a4.2)
            clear e1 e2 hlast
            go_wp2
            go_ret
            exact ⟨by first | rfl | (rw [hrf]; rfl), HB3.out⟩
          case pos =>
          have u2 : (rx != 0) = false := by simp [e2]
          have HNx : Hid (∀ j, j < i + 1 → CellOk l me true j) := Lib.hid (fun j hj => by
            rcases Nat.lt_or_ge j i with h | h
            · exact HA.out j h
            · obtain rfl : j = i := by omega
              exact HOk.out.2 ⟨⟨by omega, by omega, by omega, by omega⟩, HPv.out, HZr.out, by rw [if_pos (by simp [hlast])]; exact ⟨e1, e2⟩⟩)
          have HLa := Lib.hid hlast
          clear e1 e2 hlast
          go_wp2
          go_roundw
          case rel => exact ⟨i + 1, by go_num, by omega, HNx.out, HB3.out⟩
          case measure => simp [intOf]; omega
        case neg =>
        have t5 : ((i : Int) == (n : Int) - 1) = false := by simp; omega
        have HLa := Lib.hid hlast
        by_cases e1 : rs = 3
        case pos =>
          have u1 : (rs == 3) = true := by simp [e1]
          have hrf : r = false := HFr.out (fun h => by obtain ⟨a1, a2, a3, a4⟩ := HOk.out.1 h; rw [if_neg (by simp; omega)] at a4; exact a4.1.1 e1)
          clear e1
          go_wp2
          go_ret
          exact ⟨by first | rfl | (rw [hrf]; rfl), HB3.out⟩
        case neg =>
        have u1 : (rs == 3) = false := by simp [e1]
        by_cases e2 : rd < 0
        case pos =>
          have u2 : decide (rd < 0) = true := decide_eq_true e2
          have hrf : r = false := HFr.out (fun h => by obtain ⟨a1, a2, a3, a4⟩ := HOk.out.1 h; rw [if_neg (by simp; omega)] at a4; omega)
          clear e1 e2
          go_wp2
          go_ret
          exact ⟨by first | rfl | (rw [hrf]; rfl), HB3.out⟩
        case neg =>
        have u2 : decide (rd < 0) = false := decide_eq_false e2
        by_cases e3 : 32 ≤ rd
        case pos =>
          have u3 : decide ((32 : Int) ≤ rd) = true := decide_eq_true e3
          have hrf : r = false := HFr.out (fun h => by obtain ⟨a1, a2, a3, a4⟩ := HOk.out.1 h; rw [if_neg (by simp; omega)] at a4; omega)
          clear e1 e2
          go_wp2
          go_ret
          exact ⟨by first | rfl | (rw [hrf]; rfl), HB3.out⟩
        case neg =>
        have u3 : decide ((32 : Int) ≤ rd) = false := decide_eq_false e3
        by_cases e4 : rx < 1
        case pos =>
          have u4 : decide (rx < 1) = true := decide_eq_true e4
          have hrf : r = false := HFr.out (fun h => by obtain ⟨a1, a2, a3, a4⟩ := HOk.out.1 h; rw [if_neg (by simp; omega)] at a4; omega)
          clear e1 e2 e3
          go_wp2
          go_ret
          exact ⟨by first | rfl | (rw [hrf]; rfl), HB3.out⟩
        case neg =>
        have u4 : decide (rx < 1) = false := decide_eq_false e4
        by_cases e5 : 1099511627776 < rx
        case pos =>
          have u5 : decide ((1099511627776 : Int) < rx) = true := decide_eq_true e5
          have hrf : r = false := HFr.out (fun h => by obtain ⟨a1, a2, a3, a4⟩ := HOk.out.1 h; rw [if_neg (by simp; omega)] at a4; omega)
          clear e1 e2 e3 e4
          go_wp2
          go_ret
          exact ⟨by first | rfl | (rw [hrf]; rfl), HB3.out⟩
        case neg =>
        have u5 : decide ((1099511627776 : Int) < rx) = false := decide_eq_false e5
        have HE : Hid (rs ≠ 3 ∧ 0 ≤ rd ∧ rd < 32 ∧ 1 ≤ rx ∧ rx ≤ 1099511627776) := Lib.hid ⟨e1, by omega, by omega, by omega, by omega⟩
        clear e1 e2 e3 e4 e5
        by_cases e6 : rd = me
        case neg =>
          have u6 : (rd == me) = false := by simp [e6]
          have HNx : Hid (∀ j, j < i + 1 → CellOk l me true j) := Lib.hid (fun j hj => by
            rcases Nat.lt_or_ge j i with h | h
            · exact HA.out j h
            · obtain rfl : j = i := by omega
              exact HOk.out.2 ⟨⟨by omega, by omega, by omega, by omega⟩, HPv.out, HZr.out, by rw [if_neg (by simp; omega)]; exact ⟨HE.out, fun h => absurd h e6⟩⟩)
          clear e6
          go_wp2_with fail
          go_quiet (fail)
          go_wp2
          go_roundw
          case rel => exact ⟨i + 1, by go_num, by omega, HNx.out, below_drewC HB3.out _⟩
          case measure => simp [intOf]; omega
        case pos =>
        have u6 : (rd == me) = true := by simp [e6]
        by_cases e7 : i + 1 = n
        case pos =>
          exact absurd e7 HLa.out
        case neg =>
        have u7 : ((i : Int) == (n : Int) - 1) = false := by simp; omega
        have hw7 : IntKind.i64.wrap ((n : Int) - 1) = (n : Int) - 1 := IntWalk.i64_in _ (by omega)
        obtain ⟨i1, hi1⟩ : ∃ k, k = i + 1 := ⟨_, rfl⟩
        have hw8 : IntKind.i64.wrap ((i : Int) + 1) = (i1 : Int) := by rw [IntWalk.i64_in _ (by omega)]; omega
        have cn : ∀ k, (W3.drewN k).cell? ⟨b, off + i1 * 4, none⟩ = some (.int .i64 nn) := fun k => by
          obtain ⟨b8, off8, e8, _, hc8⟩ := (HI.out.next HB3.out).rd.ces_ (by omega)
          injection e8 with e8
          injection e8 with e8 e9
          subst e8; subst e9
          have := (hc8 i1 _ (ceA_get (by rw [HL.out]; omega))).1
          rw [hi1, ← HNn.out, ← hi1] at this
          exact this
        have hi1n : (i1 : Int) < (n : Int) := by omega
        have HI1 := Lib.hid hi1
        clear hi1
        by_cases e8 : nn = rx
        case neg =>
          have u8 : (nn != rx) = true := by simp [e8]
          have hrf : r = false := HFr.out (fun h => by obtain ⟨a1, a2, a3, a4⟩ := HOk.out.1 h; rw [if_neg (by simp; omega)] at a4; exact e8 (a4.2 e6).2)
          clear e6 e7 e8
          go_wp2_with fail
          go_quiet (fail)
          go_wp2
          go_ret
          exact ⟨by first | rfl | (rw [hrf]; rfl), below_drewC HB3.out _⟩
        case pos =>
        have u8 : (nn != rx) = false := by simp [e8]
        have HNx : Hid (∀ j, j < i + 1 → CellOk l me true j) := Lib.hid (fun j hj => by
          rcases Nat.lt_or_ge j i with h | h
          · exact HA.out j h
          · obtain rfl : j = i := by omega
            exact HOk.out.2 ⟨⟨by omega, by omega, by omega, by omega⟩, HPv.out, HZr.out, by rw [if_neg (by simp; omega)]; exact ⟨HE.out, fun _ => ⟨by omega, e8⟩⟩⟩)
        clear e6 e7 e8
        go_wp2_with fail
        go_quiet (fail)
        clear hw7 hw8
        go_wp2
        go_roundw
        case rel => exact ⟨i + 1, by go_num, by omega, HNx.out, below_drewC HB3.out _⟩
        case measure => simp [intOf]; omega
  | false =>
    go_enter Try.func41, Try.ntmps41
    go_wp2
    go_loopw [8, 9] (fun j _ wr => ∃ i : Nat, j = .int .i64 i ∧ i ≤ n ∧ (∀ j, j < i → CellOk l me false j) ∧ Below w.heap.size w wr) (fun j _ _ => n - (intOf j).toNat)
    case atStart => exact ⟨0, rfl, by omega, (fun j hj => by omega), Below.refl _ _⟩
    case round =>
      obtain ⟨i, rfl, hi, hall, hb⟩ := hrel
      obtain ⟨w1, rfl⟩ : ∃ w1 : World, w1 = wr := ⟨_, rfl⟩
      have HB := Lib.hid hb
      have HA := Lib.hid hall
      clear hb hall
      by_cases hlt : i < n
      case neg =>
        have hrt : r = true := HT0.out ⟨(by intro h; first | (cases h; done) | (rw [HL.out]; omega)), fun j hj => HA.out j (by rw [HL.out] at hj; omega)⟩
        go_wp2
        go_ret
        exact ⟨by first | rfl | (rw [hrt]; rfl), HB.out⟩
      case pos =>
      obtain ⟨b, off, rfl, _, hc⟩ := (HI.out.next HB.out).rd.ces_ (by omega)
      have hil : i < l.length := by rw [HL.out]; exact hlt
      have hcg := hc i _ (ceA_get hil)
      obtain ⟨r, hr⟩ : ∃ r, r = ceA l i := ⟨_, rfl⟩
      have HRi := Lib.hid hr
      rw [← hr] at hcg
      obtain ⟨rn, rs, rd, rx⟩ := r
      simp only at hcg
      obtain ⟨m0, m1, m2, m3⟩ := hcg
      clear hc hr
      obtain ⟨pn, hpn⟩ : ∃ x, x = (ceA l (i - 1)).n := ⟨_, rfl⟩
      obtain ⟨nn, hnn⟩ : ∃ x, x = (ceA l (i + 1)).n := ⟨_, rfl⟩
      have HOk := Lib.hid (cellOk_is (me := me) (sink := false) HL.out HRi.out hpn hnn)
      have HPn := Lib.hid hpn
      have HNn := Lib.hid hnn
      have HFr : Hid (¬ CellOk l me false i → r = false) := Lib.hid (fun h => HF0.out (fun hg => h (hg.2 i hil)))
      have HB2 : Hid (Below w.heap.size w (w1.alloc (.cells #[.int .i64 rn, .int .i64 rs, .int .i64 rd, .int .i64 rx] 57))) := Lib.hid (HB.out.alloc HB.out.size _)
      clear hpn hnn
      by_cases g1 : rn < 0
      case pos =>
        have v1 : decide (rn < 0) = true := decide_eq_true g1
        have hrf : r = false := HFr.out (fun h => by obtain ⟨a1, a2, a3, a4⟩ := HOk.out.1 h; omega)
        clear g1
        go_wp2
        go_ret
        exact ⟨by first | rfl | (rw [hrf]; rfl), HB2.out⟩
      case neg =>
      have v1 : decide (rn < 0) = false := decide_eq_false g1
      by_cases g2 : 1099511627776 < rn
      case pos =>
        have v2 : decide ((1099511627776 : Int) < rn) = true := decide_eq_true g2
        have hrf : r = false := HFr.out (fun h => by obtain ⟨a1, a2, a3, a4⟩ := HOk.out.1 h; omega)
        clear g1
        go_wp2
        go_ret
        exact ⟨by first | rfl | (rw [hrf]; rfl), HB2.out⟩
      case neg =>
      have v2 : decide ((1099511627776 : Int) < rn) = false := decide_eq_false g2
      by_cases g3 : rs < 1
      case pos =>
        have v3 : decide (rs < 1) = true := decide_eq_true g3
        have hrf : r = false := HFr.out (fun h => by obtain ⟨a1, a2, a3, a4⟩ := HOk.out.1 h; omega)
        clear g1 g2
        go_wp2
        go_ret
        exact ⟨by first | rfl | (rw [hrf]; rfl), HB2.out⟩
      case neg =>
      have v3 : decide (rs < 1) = false := decide_eq_false g3
      by_cases g4 : 3 < rs
      case pos =>
        have v4 : decide ((3 : Int) < rs) = true := decide_eq_true g4
        have hrf : r = false := HFr.out (fun h => by obtain ⟨a1, a2, a3, a4⟩ := HOk.out.1 h; omega)
        clear g1 g2 g3
        go_wp2
        go_ret
        exact ⟨by first | rfl | (rw [hrf]; rfl), HB2.out⟩
      case neg =>
      have v4 : decide ((3 : Int) < rs) = false := decide_eq_false g4
      obtain ⟨p, hp⟩ : ∃ x, x = w1.heap.size := ⟨_, rfl⟩
      obtain ⟨W2, hW2⟩ : ∃ W, W = w1.alloc (.cells #[.int .i64 rn, .int .i64 rs, .int .i64 rd, .int .i64 rx] 57) := ⟨_, rfl⟩
      have HKb : Hid (Blk W2 p 57 #[.int .i64 rn, .int .i64 rs, .int .i64 rd, .int .i64 rx]) := Lib.hid (by rw [hW2, hp]; exact Blk.new w1 _ _)
      rw [← hW2] at HB2
      have k0 : ∀ k, (W2.drewN k).cell? ⟨p, 0, none⟩ = some (.int .i64 rn) := fun k => HKb.out.cell 0
      have k1 : ∀ k, (W2.drewN k).cell? ⟨p, 1, none⟩ = some (.int .i64 rs) := fun k => HKb.out.cell 1
      go_wp2_with fail
      rw [← hW2, ← hp]
      clear hW2 hp m0 m1 m2 m3
      have HG : Hid (0 ≤ rn ∧ rn ≤ 1099511627776 ∧ 1 ≤ rs ∧ rs ≤ 3) := Lib.hid ⟨by omega, by omega, by omega, by omega⟩
      clear v1 v2 v3 v4
      have key : ∀ (W3 : World), Below w.heap.size w W3 → Blk W3 p 57 #[.int .i64 rn, .int .i64 rs, .int .i64 rd, .int .i64 rx] → True := fun _ _ _ => trivial
      clear key
      by_cases hi0 : i = 0
      case pos =>
        have s1 : decide (0 < i) = false := by simp [hi0]
        have HPv : Hid (0 < i → pn < rn ∧ rs = 1) := Lib.hid (fun h => by omega)
        clear hi0
        go_quiet (fail)
        obtain ⟨W3, hW3⟩ : ∃ W, W = W2.drewN nq := ⟨_, rfl⟩
        have HB3 : Hid (Below w.heap.size w W3) := Lib.hid (by rw [hW3]; exact below_drewC HB2.out nq)
        have HK3 : Hid (Blk W3 p 57 #[.int .i64 rn, .int .i64 rs, .int .i64 rd, .int .i64 rx]) := Lib.hid (by rw [hW3]; exact HKb.out)
        rw [← hW3]
        clear hW3 k0 k1 HKb HB2
        have k0 : ∀ k, (W3.drewN k).cell? ⟨p, 0, none⟩ = some (.int .i64 rn) := fun k => HK3.out.cell 0
        have k1 : ∀ k, (W3.drewN k).cell? ⟨p, 1, none⟩ = some (.int .i64 rs) := fun k => HK3.out.cell 1
        have k2 : ∀ k, (W3.drewN k).cell? ⟨p, 2, none⟩ = some (.int .i64 rd) := fun k => HK3.out.cell 2
        have k3 : ∀ k, (W3.drewN k).cell? ⟨p, 3, none⟩ = some (.int .i64 rx) := fun k => HK3.out.cell 3
        have j0 : W3.cell? ⟨p, 0, none⟩ = some (.int .i64 rn) := HK3.out.cell 0
        have j1 : W3.cell? ⟨p, 1, none⟩ = some (.int .i64 rs) := HK3.out.cell 1
        have j2 : W3.cell? ⟨p, 2, none⟩ = some (.int .i64 rd) := HK3.out.cell 2
        have j3 : W3.cell? ⟨p, 3, none⟩ = some (.int .i64 rx) := HK3.out.cell 3
        have gg := HG.out
        by_cases z1 : rn = 0 ∧ rs ≠ 3
        case pos =>
          have y1 : (rn == 0) = true := by simp [z1.1]
          have y2 : (rs != 3) = true := by simp [z1.2]
          have hrf : r = false := HFr.out (fun h => by obtain ⟨a1, a2, a3, a4⟩ := HOk.out.1 h; exact z1.2 (a3 z1.1))
          clear z1 gg
          go_wp2
          go_ret
          exact ⟨by first | rfl | (rw [hrf]; rfl), HB3.out⟩
        case neg =>
        have HZr : Hid (rn = 0 → rs = 3) := Lib.hid (fun h => Classical.byContradiction fun h2 => z1 ⟨h, h2⟩)
        have y12 : ((rn == 0) = false) ∨ ((rn == 0) = true ∧ (rs != 3) = false) := by
          by_cases h : rn = 0
          · right; exact ⟨by simp [h], by simp [HZr.out h]⟩
          · left; simp [h]
        clear z1
        rcases y12 with y1 | ⟨y1, y2⟩
        · by_cases e1 : rs = 3
          case pos =>
            have u1 : (rs == 3) = true := by simp [e1]
            have hrf : r = false := HFr.out (fun h => by obtain ⟨a1, a2, a3, a4⟩ := HOk.out.1 h; rw [if_neg (by simp)] at a4; exact a4.1.1 e1)
            clear e1
            go_wp2
            go_ret
            exact ⟨by first | rfl | (rw [hrf]; rfl), HB3.out⟩
          case neg =>
          have u1 : (rs == 3) = false := by simp [e1]
          by_cases e2 : rd < 0
          case pos =>
            have u2 : decide (rd < 0) = true := decide_eq_true e2
            have hrf : r = false := HFr.out (fun h => by obtain ⟨a1, a2, a3, a4⟩ := HOk.out.1 h; rw [if_neg (by simp)] at a4; omega)
            clear e1 e2
            go_wp2
            go_ret
            exact ⟨by first | rfl | (rw [hrf]; rfl), HB3.out⟩
          case neg =>
          have u2 : decide (rd < 0) = false := decide_eq_false e2
          by_cases e3 : 32 ≤ rd
          case pos =>
            have u3 : decide ((32 : Int) ≤ rd) = true := decide_eq_true e3
            have hrf : r = false := HFr.out (fun h => by obtain ⟨a1, a2, a3, a4⟩ := HOk.out.1 h; rw [if_neg (by simp)] at a4; omega)
            clear e1 e2
            go_wp2
            go_ret
            exact ⟨by first | rfl | (rw [hrf]; rfl), HB3.out⟩
          case neg =>
          have u3 : decide ((32 : Int) ≤ rd) = false := decide_eq_false e3
          by_cases e4 : rx < 1
          case pos =>
            have u4 : decide (rx < 1) = true := decide_eq_true e4
            have hrf : r = false := HFr.out (fun h => by obtain ⟨a1, a2, a3, a4⟩ := HOk.out.1 h; rw [if_neg (by simp)] at a4; omega)
            clear e1 e2 e3
            go_wp2
            go_ret
            exact ⟨by first | rfl | (rw [hrf]; rfl), HB3.out⟩
          case neg =>
          have u4 : decide (rx < 1) = false := decide_eq_false e4
          by_cases e5 : 1099511627776 < rx
          case pos =>
            have u5 : decide ((1099511627776 : Int) < rx) = true := decide_eq_true e5
            have hrf : r = false := HFr.out (fun h => by obtain ⟨a1, a2, a3, a4⟩ := HOk.out.1 h; rw [if_neg (by simp)] at a4; omega)
            clear e1 e2 e3 e4
            go_wp2
            go_ret
            exact ⟨by first | rfl | (rw [hrf]; rfl), HB3.out⟩
          case neg =>
          have u5 : decide ((1099511627776 : Int) < rx) = false := decide_eq_false e5
          have HE : Hid (rs ≠ 3 ∧ 0 ≤ rd ∧ rd < 32 ∧ 1 ≤ rx ∧ rx ≤ 1099511627776) := Lib.hid ⟨e1, by omega, by omega, by omega, by omega⟩
          clear e1 e2 e3 e4 e5
          by_cases e6 : rd = me
          case neg =>
            have u6 : (rd == me) = false := by simp [e6]
            have HNx : Hid (∀ j, j < i + 1 → CellOk l me false j) := Lib.hid (fun j hj => by
              rcases Nat.lt_or_ge j i with h | h
              · exact HA.out j h
              · obtain rfl : j = i := by omega
                exact HOk.out.2 ⟨⟨by omega, by omega, by omega, by omega⟩, HPv.out, HZr.out, by rw [if_neg (by simp)]; exact ⟨HE.out, fun h => absurd h e6⟩⟩)
            clear e6
            go_wp2_with fail
            go_quiet (fail)
            go_wp2
            go_roundw
            case rel => exact ⟨i + 1, by go_num, by omega, HNx.out, below_drewC HB3.out _⟩
            case measure => simp [intOf]; omega
          case pos =>
          have u6 : (rd == me) = true := by simp [e6]
          by_cases e7 : i + 1 = n
          case pos =>
            have u7 : ((i : Int) == (n : Int) - 1) = true := by simp; omega
            have hw7 : IntKind.i64.wrap ((n : Int) - 1) = (n : Int) - 1 := IntWalk.i64_in _ (by omega)
            have hrf : r = false := HFr.out (fun h => by obtain ⟨a1, a2, a3, a4⟩ := HOk.out.1 h; rw [if_neg (by simp)] at a4; have := (a4.2 e6).1; omega)
            clear e6 e7
            go_wp2_with fail
            go_quiet (fail)
            go_wp2
            go_ret
            exact ⟨by first | rfl | (rw [hrf]; rfl), below_drewC HB3.out _⟩
          case neg =>
          have u7 : ((i : Int) == (n : Int) - 1) = false := by simp; omega
          have hw7 : IntKind.i64.wrap ((n : Int) - 1) = (n : Int) - 1 := IntWalk.i64_in _ (by omega)
          obtain ⟨i1, hi1⟩ : ∃ k, k = i + 1 := ⟨_, rfl⟩
          have hw8 : IntKind.i64.wrap ((i : Int) + 1) = (i1 : Int) := by rw [IntWalk.i64_in _ (by omega)]; omega
          have cn : ∀ k, (W3.drewN k).cell? ⟨b, off + i1 * 4, none⟩ = some (.int .i64 nn) := fun k => by
            obtain ⟨b8, off8, e8, _, hc8⟩ := (HI.out.next HB3.out).rd.ces_ (by omega)
            injection e8 with e8
            injection e8 with e8 e9
            subst e8; subst e9
            have := (hc8 i1 _ (ceA_get (by rw [HL.out]; omega))).1
            rw [hi1, ← HNn.out, ← hi1] at this
            exact this
          have hi1n : (i1 : Int) < (n : Int) := by omega
          have HI1 := Lib.hid hi1
          clear hi1
          by_cases e8 : nn = rx
          case neg =>
            have u8 : (nn != rx) = true := by simp [e8]
            have hrf : r = false := HFr.out (fun h => by obtain ⟨a1, a2, a3, a4⟩ := HOk.out.1 h; rw [if_neg (by simp)] at a4; exact e8 (a4.2 e6).2)
            clear e6 e7 e8
            go_wp2_with fail
            go_quiet (fail)
            go_wp2
            go_ret
            exact ⟨by first | rfl | (rw [hrf]; rfl), below_drewC HB3.out _⟩
          case pos =>
          have u8 : (nn != rx) = false := by simp [e8]
          have HNx : Hid (∀ j, j < i + 1 → CellOk l me false j) := Lib.hid (fun j hj => by
            rcases Nat.lt_or_ge j i with h | h
            · exact HA.out j h
            · obtain rfl : j = i := by omega
              exact HOk.out.2 ⟨⟨by omega, by omega, by omega, by omega⟩, HPv.out, HZr.out, by rw [if_neg (by simp)]; exact ⟨HE.out, fun _ => ⟨by omega, e8⟩⟩⟩)
          clear e6 e7 e8
          go_wp2_with fail
          go_quiet (fail)
          clear hw7 hw8
          go_wp2
          go_roundw
          case rel => exact ⟨i + 1, by go_num, by omega, HNx.out, below_drewC HB3.out _⟩
          case measure => simp [intOf]; omega
        · by_cases e1 : rs = 3
          case pos =>
            have u1 : (rs == 3) = true := by simp [e1]
            have hrf : r = false := HFr.out (fun h => by obtain ⟨a1, a2, a3, a4⟩ := HOk.out.1 h; rw [if_neg (by simp)] at a4; exact a4.1.1 e1)
            clear e1
            go_wp2
            go_ret
            exact ⟨by first | rfl | (rw [hrf]; rfl), HB3.out⟩
          case neg =>
          have u1 : (rs == 3) = false := by simp [e1]
          by_cases e2 : rd < 0
          case pos =>
            have u2 : decide (rd < 0) = true := decide_eq_true e2
            have hrf : r = false := HFr.out (fun h => by obtain ⟨a1, a2, a3, a4⟩ := HOk.out.1 h; rw [if_neg (by simp)] at a4; omega)
            clear e1 e2
            go_wp2
            go_ret
            exact ⟨by first | rfl | (rw [hrf]; rfl), HB3.out⟩
          case neg =>
          have u2 : decide (rd < 0) = false := decide_eq_false e2
          by_cases e3 : 32 ≤ rd
          case pos =>
            have u3 : decide ((32 : Int) ≤ rd) = true := decide_eq_true e3
            have hrf : r = false := HFr.out (fun h => by obtain ⟨a1, a2, a3, a4⟩ := HOk.out.1 h; rw [if_neg (by simp)] at a4; omega)
            clear e1 e2
            go_wp2
            go_ret
            exact ⟨by first | rfl | (rw [hrf]; rfl), HB3.out⟩
          case neg =>
          have u3 : decide ((32 : Int) ≤ rd) = false := decide_eq_false e3
          by_cases e4 : rx < 1
          case pos =>
            have u4 : decide (rx < 1) = true := decide_eq_true e4
            have hrf : r = false := HFr.out (fun h => by obtain ⟨a1, a2, a3, a4⟩ := HOk.out.1 h; rw [if_neg (by simp)] at a4; omega)
            clear e1 e2 e3
            go_wp2
            go_ret
            exact ⟨by first | rfl | (rw [hrf]; rfl), HB3.out⟩
          case neg =>
          have u4 : decide (rx < 1) = false := decide_eq_false e4
          by_cases e5 : 1099511627776 < rx
          case pos =>
            have u5 : decide ((1099511627776 : Int) < rx) = true := decide_eq_true e5
            have hrf : r = false := HFr.out (fun h => by obtain ⟨a1, a2, a3, a4⟩ := HOk.out.1 h; rw [if_neg (by simp)] at a4; omega)
            clear e1 e2 e3 e4
            go_wp2
            go_ret
            exact ⟨by first | rfl | (rw [hrf]; rfl), HB3.out⟩
          case neg =>
          have u5 : decide ((1099511627776 : Int) < rx) = false := decide_eq_false e5
          have HE : Hid (rs ≠ 3 ∧ 0 ≤ rd ∧ rd < 32 ∧ 1 ≤ rx ∧ rx ≤ 1099511627776) := Lib.hid ⟨e1, by omega, by omega, by omega, by omega⟩
          clear e1 e2 e3 e4 e5
          by_cases e6 : rd = me
          case neg =>
            have u6 : (rd == me) = false := by simp [e6]
            have HNx : Hid (∀ j, j < i + 1 → CellOk l me false j) := Lib.hid (fun j hj => by
              rcases Nat.lt_or_ge j i with h | h
              · exact HA.out j h
              · obtain rfl : j = i := by omega
                exact HOk.out.2 ⟨⟨by omega, by omega, by omega, by omega⟩, HPv.out, HZr.out, by rw [if_neg (by simp)]; exact ⟨HE.out, fun h => absurd h e6⟩⟩)
            clear e6
            go_wp2_with fail
            go_quiet (fail)
            go_wp2
            go_roundw
            case rel => exact ⟨i + 1, by go_num, by omega, HNx.out, below_drewC HB3.out _⟩
            case measure => simp [intOf]; omega
          case pos =>
          have u6 : (rd == me) = true := by simp [e6]
          by_cases e7 : i + 1 = n
          case pos =>
            have u7 : ((i : Int) == (n : Int) - 1) = true := by simp; omega
            have hw7 : IntKind.i64.wrap ((n : Int) - 1) = (n : Int) - 1 := IntWalk.i64_in _ (by omega)
            have hrf : r = false := HFr.out (fun h => by obtain ⟨a1, a2, a3, a4⟩ := HOk.out.1 h; rw [if_neg (by simp)] at a4; have := (a4.2 e6).1; omega)
            clear e6 e7
            go_wp2_with fail
            go_quiet (fail)
            go_wp2
            go_ret
            exact ⟨by first | rfl | (rw [hrf]; rfl), below_drewC HB3.out _⟩
          case neg =>
          have u7 : ((i : Int) == (n : Int) - 1) = false := by simp; omega
          have hw7 : IntKind.i64.wrap ((n : Int) - 1) = (n : Int) - 1 := IntWalk.i64_in _ (by omega)
          obtain ⟨i1, hi1⟩ : ∃ k, k = i + 1 := ⟨_, rfl⟩
          have hw8 : IntKind.i64.wrap ((i : Int) + 1) = (i1 : Int) := by rw [IntWalk.i64_in _ (by omega)]; omega
          have cn : ∀ k, (W3.drewN k).cell? ⟨b, off + i1 * 4, none⟩ = some (.int .i64 nn) := fun k => by
            obtain ⟨b8, off8, e8, _, hc8⟩ := (HI.out.next HB3.out).rd.ces_ (by omega)
            injection e8 with e8
            injection e8 with e8 e9
            subst e8; subst e9
            have := (hc8 i1 _ (ceA_get (by rw [HL.out]; omega))).1
            rw [hi1, ← HNn.out, ← hi1] at this
            exact this
          have hi1n : (i1 : Int) < (n : Int) := by omega
          have HI1 := Lib.hid hi1
          clear hi1
          by_cases e8 : nn = rx
          case neg =>
            have u8 : (nn != rx) = true := by simp [e8]
            have hrf : r = false := HFr.out (fun h => by obtain ⟨a1, a2, a3, a4⟩ := HOk.out.1 h; rw [if_neg (by simp)] at a4; exact e8 (a4.2 e6).2)
            clear e6 e7 e8
            go_wp2_with fail
            go_quiet (fail)
            go_wp2
            go_ret
            exact ⟨by first | rfl | (rw [hrf]; rfl), below_drewC HB3.out _⟩
          case pos =>
          have u8 : (nn != rx) = false := by simp [e8]
          have HNx : Hid (∀ j, j < i + 1 → CellOk l me false j) := Lib.hid (fun j hj => by
            rcases Nat.lt_or_ge j i with h | h
            · exact HA.out j h
            · obtain rfl : j = i := by omega
              exact HOk.out.2 ⟨⟨by omega, by omega, by omega, by omega⟩, HPv.out, HZr.out, by rw [if_neg (by simp)]; exact ⟨HE.out, fun _ => ⟨by omega, e8⟩⟩⟩)
          clear e6 e7 e8
          go_wp2_with fail
          go_quiet (fail)
          clear hw7 hw8
          go_wp2
          go_roundw
          case rel => exact ⟨i + 1, by go_num, by omega, HNx.out, below_drewC HB3.out _⟩
          case measure => simp [intOf]; omega
      case neg =>
      obtain ⟨j, hj⟩ : ∃ j, j = i - 1 := ⟨_, rfl⟩
      have s1 : decide (0 < i) = true := by simp; omega
      have hw1 : IntKind.i64.wrap ((i : Int) - 1) = (j : Int) := by rw [IntWalk.i64_in _ (by omega)]; omega
      have cp : ∀ k, (W2.drewN k).cell? ⟨b, off + j * 4, none⟩ = some (.int .i64 pn) := fun k => by
        obtain ⟨b8, off8, e8, _, hc8⟩ := (HI.out.next HB2.out).rd.ces_ (by omega)
        injection e8 with e8
        injection e8 with e8 e9
        subst e8; subst e9
        have := (hc8 j _ (ceA_get (by rw [HL.out]; omega))).1
        rw [hj, ← HPn.out, ← hj] at this
        exact this
      have hjn : (j : Int) < (n : Int) := by omega
      have HJ := Lib.hid hj
      clear hj
      by_cases g5 : rn ≤ pn
      case pos =>
        have v5 : decide (rn ≤ pn) = true := decide_eq_true g5
        have hrf : r = false := HFr.out (fun h => by obtain ⟨a1, a2, a3, a4⟩ := HOk.out.1 h; have := (a2 (by omega)).1; omega)
        clear hi0
        go_quiet (fail)
        go_wp2
        go_ret
        exact ⟨by first | rfl | (rw [hrf]; rfl), below_drewC HB2.out _⟩
      case neg =>
      have v5 : decide (rn ≤ pn) = false := decide_eq_false g5
      by_cases g6 : rs = 1
      case neg =>
        have v6 : (rs != 1) = true := by simp [g6]
        have hrf : r = false := HFr.out (fun h => by obtain ⟨a1, a2, a3, a4⟩ := HOk.out.1 h; exact g6 (a2 (by omega)).2)
        clear hi0 g5 g6
        go_quiet (fail)
        go_wp2
        go_ret
        exact ⟨by first | rfl | (rw [hrf]; rfl), below_drewC HB2.out _⟩
      case pos =>
      have v6 : (rs != 1) = false := by simp [g6]
      have HPv : Hid (0 < i → pn < rn ∧ rs = 1) := Lib.hid (fun _ => ⟨by omega, g6⟩)
      clear hi0 g5 g6
      go_quiet (fail)
      obtain ⟨W3, hW3⟩ : ∃ W, W = W2.drewN nq := ⟨_, rfl⟩
      have HB3 : Hid (Below w.heap.size w W3) := Lib.hid (by rw [hW3]; exact below_drewC HB2.out nq)
      have HK3 : Hid (Blk W3 p 57 #[.int .i64 rn, .int .i64 rs, .int .i64 rd, .int .i64 rx]) := Lib.hid (by rw [hW3]; exact HKb.out)
      rw [← hW3]
      clear hW3 k0 k1 HKb HB2 cp v5 v6 hw1
      have k0 : ∀ k, (W3.drewN k).cell? ⟨p, 0, none⟩ = some (.int .i64 rn) := fun k => HK3.out.cell 0
      have k1 : ∀ k, (W3.drewN k).cell? ⟨p, 1, none⟩ = some (.int .i64 rs) := fun k => HK3.out.cell 1
      have k2 : ∀ k, (W3.drewN k).cell? ⟨p, 2, none⟩ = some (.int .i64 rd) := fun k => HK3.out.cell 2
      have k3 : ∀ k, (W3.drewN k).cell? ⟨p, 3, none⟩ = some (.int .i64 rx) := fun k => HK3.out.cell 3
      have j0 : W3.cell? ⟨p, 0, none⟩ = some (.int .i64 rn) := HK3.out.cell 0
      have j1 : W3.cell? ⟨p, 1, none⟩ = some (.int .i64 rs) := HK3.out.cell 1
      have j2 : W3.cell? ⟨p, 2, none⟩ = some (.int .i64 rd) := HK3.out.cell 2
      have j3 : W3.cell? ⟨p, 3, none⟩ = some (.int .i64 rx) := HK3.out.cell 3
      have gg := HG.out
      by_cases z1 : rn = 0 ∧ rs ≠ 3
      case pos =>
        have y1 : (rn == 0) = true := by simp [z1.1]
        have y2 : (rs != 3) = true := by simp [z1.2]
        have hrf : r = false := HFr.out (fun h => by obtain ⟨a1, a2, a3, a4⟩ := HOk.out.1 h; exact z1.2 (a3 z1.1))
        clear z1 gg
        go_wp2
        go_ret
        exact ⟨by first | rfl | (rw [hrf]; rfl), HB3.out⟩
      case neg =>
      have HZr : Hid (rn = 0 → rs = 3) := Lib.hid (fun h => Classical.byContradiction fun h2 => z1 ⟨h, h2⟩)
      have y12 : ((rn == 0) = false) ∨ ((rn == 0) = true ∧ (rs != 3) = false) := by
        by_cases h : rn = 0
        · right; exact ⟨by simp [h], by simp [HZr.out h]⟩
        · left; simp [h]
      clear z1
      rcases y12 with y1 | ⟨y1, y2⟩
      · by_cases e1 : rs = 3
        case pos =>
          have u1 : (rs == 3) = true := by simp [e1]
          have hrf : r = false := HFr.out (fun h => by obtain ⟨a1, a2, a3, a4⟩ := HOk.out.1 h; rw [if_neg (by simp)] at a4; exact a4.1.1 e1)
          clear e1
          go_wp2
          go_ret
          exact ⟨by first | rfl | (rw [hrf]; rfl), HB3.out⟩
        case neg =>
        have u1 : (rs == 3) = false := by simp [e1]
        by_cases e2 : rd < 0
        case pos =>
          have u2 : decide (rd < 0) = true := decide_eq_true e2
          have hrf : r = false := HFr.out (fun h => by obtain ⟨a1, a2, a3, a4⟩ := HOk.out.1 h; rw [if_neg (by simp)] at a4; omega)
          clear e1 e2
          go_wp2
          go_ret
          exact ⟨by first | rfl | (rw [hrf]; rfl), HB3.out⟩
        case neg =>
        have u2 : decide (rd < 0) = false := decide_eq_false e2
        by_cases e3 : 32 ≤ rd
        case pos =>
          have u3 : decide ((32 : Int) ≤ rd) = true := decide_eq_true e3
          have hrf : r = false := HFr.out (fun h => by obtain ⟨a1, a2, a3, a4⟩ := HOk.out.1 h; rw [if_neg (by simp)] at a4; omega)
          clear e1 e2
          go_wp2
          go_ret
          exact ⟨by first | rfl | (rw [hrf]; rfl), HB3.out⟩
        case neg =>
        have u3 : decide ((32 : Int) ≤ rd) = false := decide_eq_false e3
        by_cases e4 : rx < 1
        case pos =>
          have u4 : decide (rx < 1) = true := decide_eq_true e4
          have hrf : r = false := HFr.out (fun h => by obtain ⟨a1, a2, a3, a4⟩ := HOk.out.1 h; rw [if_neg (by simp)] at a4; omega)
          clear e1 e2 e3
          go_wp2
          go_ret
          exact ⟨by first | rfl | (rw [hrf]; rfl), HB3.out⟩
        case neg =>
        have u4 : decide (rx < 1) = false := decide_eq_false e4
        by_cases e5 : 1099511627776 < rx
        case pos =>
          have u5 : decide ((1099511627776 : Int) < rx) = true := decide_eq_true e5
          have hrf : r = false := HFr.out (fun h => by obtain ⟨a1, a2, a3, a4⟩ := HOk.out.1 h; rw [if_neg (by simp)] at a4; omega)
          clear e1 e2 e3 e4
          go_wp2
          go_ret
          exact ⟨by first | rfl | (rw [hrf]; rfl), HB3.out⟩
        case neg =>
        have u5 : decide ((1099511627776 : Int) < rx) = false := decide_eq_false e5
        have HE : Hid (rs ≠ 3 ∧ 0 ≤ rd ∧ rd < 32 ∧ 1 ≤ rx ∧ rx ≤ 1099511627776) := Lib.hid ⟨e1, by omega, by omega, by omega, by omega⟩
        clear e1 e2 e3 e4 e5
        by_cases e6 : rd = me
        case neg =>
          have u6 : (rd == me) = false := by simp [e6]
          have HNx : Hid (∀ j, j < i + 1 → CellOk l me false j) := Lib.hid (fun j hj => by
            rcases Nat.lt_or_ge j i with h | h
            · exact HA.out j h
            · obtain rfl : j = i := by omega
              exact HOk.out.2 ⟨⟨by omega, by omega, by omega, by omega⟩, HPv.out, HZr.out, by rw [if_neg (by simp)]; exact ⟨HE.out, fun h => absurd h e6⟩⟩)
          clear e6
          go_wp2_with fail
          go_quiet (fail)
          go_wp2
          go_roundw
          case rel => exact ⟨i + 1, by go_num, by omega, HNx.out, below_drewC HB3.out _⟩
          case measure => simp [intOf]; omega
        case pos =>
        have u6 : (rd == me) = true := by simp [e6]
        by_cases e7 : i + 1 = n
        case pos =>
          have u7 : ((i : Int) == (n : Int) - 1) = true := by simp; omega
          have hw7 : IntKind.i64.wrap ((n : Int) - 1) = (n : Int) - 1 := IntWalk.i64_in _ (by omega)
          have hrf : r = false := HFr.out (fun h => by obtain ⟨a1, a2, a3, a4⟩ := HOk.out.1 h; rw [if_neg (by simp)] at a4; have := (a4.2 e6).1; omega)
          clear e6 e7
          go_wp2_with fail
          go_quiet (fail)
          go_wp2
          go_ret
          exact ⟨by first | rfl | (rw [hrf]; rfl), below_drewC HB3.out _⟩
        case neg =>
        have u7 : ((i : Int) == (n : Int) - 1) = false := by simp; omega
        have hw7 : IntKind.i64.wrap ((n : Int) - 1) = (n : Int) - 1 := IntWalk.i64_in _ (by omega)
        obtain ⟨i1, hi1⟩ : ∃ k, k = i + 1 := ⟨_, rfl⟩
        have hw8 : IntKind.i64.wrap ((i : Int) + 1) = (i1 : Int) := by rw [IntWalk.i64_in _ (by omega)]; omega
        have cn : ∀ k, (W3.drewN k).cell? ⟨b, off + i1 * 4, none⟩ = some (.int .i64 nn) := fun k => by
          obtain ⟨b8, off8, e8, _, hc8⟩ := (HI.out.next HB3.out).rd.ces_ (by omega)
          injection e8 with e8
          injection e8 with e8 e9
          subst e8; subst e9
          have := (hc8 i1 _ (ceA_get (by rw [HL.out]; omega))).1
          rw [hi1, ← HNn.out, ← hi1] at this
          exact this
        have hi1n : (i1 : Int) < (n : Int) := by omega
        have HI1 := Lib.hid hi1
        clear hi1
        by_cases e8 : nn = rx
        case neg =>
          have u8 : (nn != rx) = true := by simp [e8]
          have hrf : r = false := HFr.out (fun h => by obtain ⟨a1, a2, a3, a4⟩ := HOk.out.1 h; rw [if_neg (by simp)] at a4; exact e8 (a4.2 e6).2)
          clear e6 e7 e8
          go_wp2_with fail
          go_quiet (fail)
          go_wp2
          go_ret
          exact ⟨by first | rfl | (rw [hrf]; rfl), below_drewC HB3.out _⟩
        case pos =>
        have u8 : (nn != rx) = false := by simp [e8]
        have HNx : Hid (∀ j, j < i + 1 → CellOk l me false j) := Lib.hid (fun j hj => by
          rcases Nat.lt_or_ge j i with h | h
          · exact HA.out j h
          · obtain rfl : j = i := by omega
            exact HOk.out.2 ⟨⟨by omega, by omega, by omega, by omega⟩, HPv.out, HZr.out, by rw [if_neg (by simp)]; exact ⟨HE.out, fun _ => ⟨by omega, e8⟩⟩⟩)
        clear e6 e7 e8
        go_wp2_with fail
        go_quiet (fail)
        clear hw7 hw8
        go_wp2
        go_roundw
        case rel => exact ⟨i + 1, by go_num, by omega, HNx.out, below_drewC HB3.out _⟩
        case measure => simp [intOf]; omega
      · by_cases e1 : rs = 3
        case pos =>
          have u1 : (rs == 3) = true := by simp [e1]
          have hrf : r = false := HFr.out (fun h => by obtain ⟨a1, a2, a3, a4⟩ := HOk.out.1 h; rw [if_neg (by simp)] at a4; exact a4.1.1 e1)
          clear e1
          go_wp2
          go_ret
          exact ⟨by first | rfl | (rw [hrf]; rfl), HB3.out⟩
        case neg =>
        have u1 : (rs == 3) = false := by simp [e1]
        by_cases e2 : rd < 0
        case pos =>
          have u2 : decide (rd < 0) = true := decide_eq_true e2
          have hrf : r = false := HFr.out (fun h => by obtain ⟨a1, a2, a3, a4⟩ := HOk.out.1 h; rw [if_neg (by simp)] at a4; omega)
          clear e1 e2
          go_wp2
          go_ret
          exact ⟨by first | rfl | (rw [hrf]; rfl), HB3.out⟩
        case neg =>
        have u2 : decide (rd < 0) = false := decide_eq_false e2
        by_cases e3 : 32 ≤ rd
        case pos =>
          have u3 : decide ((32 : Int) ≤ rd) = true := decide_eq_true e3
          have hrf : r = false := HFr.out (fun h => by obtain ⟨a1, a2, a3, a4⟩ := HOk.out.1 h; rw [if_neg (by simp)] at a4; omega)
          clear e1 e2
          go_wp2
          go_ret
          exact ⟨by first | rfl | (rw [hrf]; rfl), HB3.out⟩
        case neg =>
        have u3 : decide ((32 : Int) ≤ rd) = false := decide_eq_false e3
        by_cases e4 : rx < 1
        case pos =>
          have u4 : decide (rx < 1) = true := decide_eq_true e4
          have hrf : r = false := HFr.out (fun h => by obtain ⟨a1, a2, a3, a4⟩ := HOk.out.1 h; rw [if_neg (by simp)] at a4; omega)
          clear e1 e2 e3
          go_wp2
          go_ret
          exact ⟨by first | rfl | (rw [hrf]; rfl), HB3.out⟩
        case neg =>
        have u4 : decide (rx < 1) = false := decide_eq_false e4
        by_cases e5 : 1099511627776 < rx
        case pos =>
          have u5 : decide ((1099511627776 : Int) < rx) = true := decide_eq_true e5
          have hrf : r = false := HFr.out (fun h => by obtain ⟨a1, a2, a3, a4⟩ := HOk.out.1 h; rw [if_neg (by simp)] at a4; omega)
          clear e1 e2 e3 e4
          go_wp2
          go_ret
          exact ⟨by first | rfl | (rw [hrf]; rfl), HB3.out⟩
        case neg =>
        have u5 : decide ((1099511627776 : Int) < rx) = false := decide_eq_false e5
        have HE : Hid (rs ≠ 3 ∧ 0 ≤ rd ∧ rd < 32 ∧ 1 ≤ rx ∧ rx ≤ 1099511627776) := Lib.hid ⟨e1, by omega, by omega, by omega, by omega⟩
        clear e1 e2 e3 e4 e5
        by_cases e6 : rd = me
        case neg =>
          have u6 : (rd == me) = false := by simp [e6]
          have HNx : Hid (∀ j, j < i + 1 → CellOk l me false j) := Lib.hid (fun j hj => by
            rcases Nat.lt_or_ge j i with h | h
            · exact HA.out j h
            · obtain rfl : j = i := by omega
              exact HOk.out.2 ⟨⟨by omega, by omega, by omega, by omega⟩, HPv.out, HZr.out, by rw [if_neg (by simp)]; exact ⟨HE.out, fun h => absurd h e6⟩⟩)
          clear e6
          go_wp2_with fail
          go_quiet (fail)
          go_wp2
          go_roundw
          case rel => exact ⟨i + 1, by go_num, by omega, HNx.out, below_drewC HB3.out _⟩
          case measure => simp [intOf]; omega
        case pos =>
        have u6 : (rd == me) = true := by simp [e6]
        by_cases e7 : i + 1 = n
        case pos =>
          have u7 : ((i : Int) == (n : Int) - 1) = true := by simp; omega
          have hw7 : IntKind.i64.wrap ((n : Int) - 1) = (n : Int) - 1 := IntWalk.i64_in _ (by omega)
          have hrf : r = false := HFr.out (fun h => by obtain ⟨a1, a2, a3, a4⟩ := HOk.out.1 h; rw [if_neg (by simp)] at a4; have := (a4.2 e6).1; omega)
          clear e6 e7
          go_wp2_with fail
          go_quiet (fail)
          go_wp2
          go_ret
          exact ⟨by first | rfl | (rw [hrf]; rfl), below_drewC HB3.out _⟩
        case neg =>
        have u7 : ((i : Int) == (n : Int) - 1) = false := by simp; omega
        have hw7 : IntKind.i64.wrap ((n : Int) - 1) = (n : Int) - 1 := IntWalk.i64_in _ (by omega)
        obtain ⟨i1, hi1⟩ : ∃ k, k = i + 1 := ⟨_, rfl⟩
        have hw8 : IntKind.i64.wrap ((i : Int) + 1) = (i1 : Int) := by rw [IntWalk.i64_in _ (by omega)]; omega
        have cn : ∀ k, (W3.drewN k).cell? ⟨b, off + i1 * 4, none⟩ = some (.int .i64 nn) := fun k => by
          obtain ⟨b8, off8, e8, _, hc8⟩ := (HI.out.next HB3.out).rd.ces_ (by omega)
          injection e8 with e8
          injection e8 with e8 e9
          subst e8; subst e9
          have := (hc8 i1 _ (ceA_get (by rw [HL.out]; omega))).1
          rw [hi1, ← HNn.out, ← hi1] at this
          exact this
        have hi1n : (i1 : Int) < (n : Int) := by omega
        have HI1 := Lib.hid hi1
        clear hi1
        by_cases e8 : nn = rx
        case neg =>
          have u8 : (nn != rx) = true := by simp [e8]
          have hrf : r = false := HFr.out (fun h => by obtain ⟨a1, a2, a3, a4⟩ := HOk.out.1 h; rw [if_neg (by simp)] at a4; exact e8 (a4.2 e6).2)
          clear e6 e7 e8
          go_wp2_with fail
          go_quiet (fail)
          go_wp2
          go_ret
          exact ⟨by first | rfl | (rw [hrf]; rfl), below_drewC HB3.out _⟩
        case pos =>
        have u8 : (nn != rx) = false := by simp [e8]
        have HNx : Hid (∀ j, j < i + 1 → CellOk l me false j) := Lib.hid (fun j hj => by
          rcases Nat.lt_or_ge j i with h | h
          · exact HA.out j h
          · obtain rfl : j = i := by omega
            exact HOk.out.2 ⟨⟨by omega, by omega, by omega, by omega⟩, HPv.out, HZr.out, by rw [if_neg (by simp)]; exact ⟨HE.out, fun _ => ⟨by omega, e8⟩⟩⟩)
        clear e6 e7 e8
        go_wp2_with fail
        go_quiet (fail)
        clear hw7 hw8
        go_wp2
        go_roundw
        case rel => exact ⟨i + 1, by go_num, by omega, HNx.out, below_drewC HB3.out _⟩
        case measure => simp [intOf]; omega
end Go.Proofs.Ytcicpgiljceioaa.Pk
