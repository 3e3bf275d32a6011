/- The document's answer for arrows (fletchref12): Quiet. -/
import Derived.Test.YtcomiininaemhaaArRef
import Derived.Deep.QuietTactic
import Derived.BigQuiet
import Derived.Deep.DeepMust
namespace Go.Proofs.Ytcomiininaemhaa.Pk
open Go.RowKit Go.Proofs.Ytcomiininaemhaa.Gr
set_option linter.unusedVariables false
/-- How many of the first k are sinks. -/
def sinksTo (ar : List Int) (k : Nat) : Nat := ((List.range k).filter fun v => decide (Gr.at_ ar v = (v : Int))).length
theorem sinksTo_succ (ar : List Int) (k : Nat) : sinksTo ar (k + 1) = sinksTo ar k + (if Gr.at_ ar k = (k : Int) then 1 else 0) := by
  unfold sinksTo
  rw [List.range_succ, List.filter_append, List.length_append]
  congr 1
  by_cases h : Gr.at_ ar k = (k : Int)
  · simp [h]
  · simp [h]
theorem sinksTo_all (ar : List Int) : sinksTo ar ar.length = (sinksN ar).length := rfl
theorem sinksTo_le (ar : List Int) (k : Nat) : sinksTo ar k ≤ k := by
  unfold sinksTo
  exact Nat.le_trans (List.length_filter_le _ _) (by simp)
def EdgeOk (ps ar : List Int) (u v : Nat) : Prop := u < v → nearL ps u v = true → ¬ (Gr.at_ ar u = (v : Int) ↔ Gr.at_ ar v = (u : Int))
def RowOk (ps ar : List Int) (u k : Nat) : Prop := ∀ v, v < k → EdgeOk ps ar u v
theorem RowOk.next {ps ar : List Int} {u k : Nat} (h : RowOk ps ar u k) (hk : EdgeOk ps ar u k) : RowOk ps ar u (k + 1) := by
  intro v hv
  by_cases e : v = k
  · rw [e]; exact hk
  · exact h v (by omega)
def RowsOk (ps ar : List Int) (k : Nat) : Prop := ∀ u, u < k → RowOk ps ar u ps.length
theorem RowsOk.next {ps ar : List Int} {k : Nat} (h : RowsOk ps ar k) (hk : RowOk ps ar k ps.length) : RowsOk ps ar (k + 1) := by
  intro u hu
  by_cases e : u = k
  · rw [e]; exact hk
  · exact h u (by omega)
set_option maxRecDepth 100000 in
set_option maxHeartbeats 4000000 in
theorem refquiet_any (A : Option Addr) (n c : Nat) (ps : List Int) (A' : Option Addr) (n' c' : Nat) (ar : List Int) (w : World) (B : Nat) (hr : Reads w B 1 A n (nms ps)) (hr' : Reads w B 1 A' n' (nms ar)) (hB : B ≤ w.heap.size) (hn : n ≤ 32) (hn' : n' ≤ 17592186044416) (hi : Ints ar) :
    Calls Try.prog 21 #[.slice A n c, .slice A' n' c'] w fun e w' => e = .returned (.bool (decide (QuietL ps ar))) ∧ Below w.heap.size w w' := by
  have HL := Lib.hid hr.plen
  have HL' := Lib.hid hr'.plen
  have HR := Lib.hid hr
  have HR' := Lib.hid hr'
  have HI := Lib.hid hi
  have HLg := Lib.hid (reflegal_any A n c ps A' n' c' ar w B hr hr' hn hn' hi)
  clear hr hr' hi
  obtain ⟨r, hr9⟩ : ∃ r, r = decide (QuietL ps ar) := ⟨_, rfl⟩
  rw [← hr9]
  have HF : Hid (¬ QuietL ps ar → r = false) := Lib.hid (fun h => by rw [hr9]; exact decide_eq_false h)
  have HT : Hid (QuietL ps ar → r = true) := Lib.hid (fun h => by rw [hr9]; exact decide_eq_true h)
  clear hr9
  by_cases h1 : LegalL ps ar
  case neg =>
    rw [decide_eq_false h1] at HLg
    have hrf : r = false := HF.out (fun h => h1 h.1)
    clear h1
    go_enter Try.func21, Try.ntmps21
    go_wp2_with fail
    refine HLg.out.mono ?_
    rintro e w2 ⟨rfl, hw⟩
    rw [hw]
    clear hw w2
    go_wp2
    go_ret
    exact ⟨by first | rfl | (rw [hrf]; rfl), Below.refl _ _⟩
  case pos =>
  rw [decide_eq_true h1] at HLg
  have hnn : n' = n := by have := h1.1; rw [HL.out, HL'.out] at this; exact this
  subst hnn
  have HLe := Lib.hid h1
  clear h1
  go_enter Try.func21, Try.ntmps21
  go_wp2_with fail
  refine HLg.out.mono ?_
  rintro e w2 ⟨rfl, hw⟩
  rw [hw]
  clear hw w2
  go_wp2
  go_loop [5, 6, 7, 16] (fun s _ _ j => ∃ i : Nat, j = .int .i64 i ∧ i ≤ n' ∧ s = .int .i64 ((sinksTo ar i : Nat) : Int)) (fun _ _ _ j => n' - (intOf j).toNat)
  case atStart => exact ⟨0, rfl, by omega, rfl⟩
  case round =>
    obtain ⟨i, rfl, hi, rfl⟩ := hrel
    have hle := sinksTo_le ar i
    have HS := Lib.hid (sinksTo_succ ar i)
    obtain ⟨q, hq⟩ : ∃ q, q = sinksTo ar i := ⟨_, rfl⟩
    rw [← hq] at hle HS ⊢
    have HQ := Lib.hid hq
    clear hq
    by_cases hlt : i < n'
    · obtain ⟨b, off, rfl, _, hc⟩ := HR'.out.arr (by omega)
      have cx := hc i hlt
      obtain ⟨x, hxe⟩ : ∃ x, x = Gr.at_ ar i := ⟨_, rfl⟩
      rw [← hxe] at cx HS
      clear hc hxe
      by_cases hx : x = (i : Int)
      · rw [if_pos hx] at HS
        subst hx
        go_wp2
        go_round
        case rel => exact ⟨i + 1, by go_num, by omega, by rw [HS.out]; rfl⟩
        case measure => simp [intOf]; omega
      · rw [if_neg hx] at HS
        have t1 : (x == (i : Int)) = false := by simpa using hx
        clear hx
        go_wp2
        go_round
        case rel => exact ⟨i + 1, by go_num, by omega, by rw [HS.out]; rfl⟩
        case measure => simp [intOf]; omega
    · have HSk : Hid (q = (sinksN ar).length) := Lib.hid (by rw [HQ.out, ← sinksTo_all, HL'.out]; congr 1; omega)
      clear HS HQ hle
      go_wp2
      go_loopw [8, 29] (fun _ j wr => ∃ u : Nat, j = .int .i64 u ∧ u ≤ n' ∧ RowsOk ps ar u ∧ Below w.heap.size w wr) (fun _ j _ => n' - (intOf j).toNat)
      case atStart => exact ⟨0, rfl, by omega, fun u hu => by omega, Below.refl _ _⟩
      case round =>
        obtain ⟨u, rfl, hu, hrows, hbel⟩ := hrel
        have HRo := Lib.hid hrows
        have HBu := Lib.hid hbel
        clear hrows hbel
        obtain ⟨w1, rfl⟩ : ∃ w1 : World, w1 = wr := ⟨_, rfl⟩
        by_cases hlu : u < n'
        · have HUn := Lib.hid hlu
          go_wp2
          go_loopw [9, 34] (fun _ j wr => ∃ v : Nat, j = .int .i64 v ∧ v ≤ n' ∧ RowOk ps ar u v ∧ Below w.heap.size w wr) (fun _ j _ => n' - (intOf j).toNat)
          case atStart => exact ⟨0, rfl, by omega, fun v hv => by omega, HBu.out⟩
          case round =>
            obtain ⟨v, rfl, hv, hrow, hbel⟩ := hrel
            have HRw := Lib.hid hrow
            have HBv := Lib.hid hbel
            clear hrow hbel
            obtain ⟨w2, rfl⟩ : ∃ w2 : World, w2 = wr := ⟨_, rfl⟩
            by_cases hlv : v < n'
            · obtain ⟨b, off, rfl, _, hc⟩ := (HR'.out.below (HBv.out.mono hB)).arr (by omega)
              have cu := hc u hlu
              have cv := hc v hlv
              obtain ⟨x, hxe⟩ : ∃ x, x = Gr.at_ ar u := ⟨_, rfl⟩
              obtain ⟨y, hye⟩ : ∃ y, y = Gr.at_ ar v := ⟨_, rfl⟩
              rw [← hxe] at cu
              rw [← hye] at cv
              have HXe := Lib.hid hxe
              have HYe := Lib.hid hye
              clear hc hxe hye
              have HQ : Hid (∀ q, Calls Try.prog 36 #[.slice A n' c, .int .i64 (u : Int), .int .i64 (v : Int)] (w2.drewN q) fun e w' => e = .returned (.bool (nearL ps u v)) ∧ w' = w2.drewN q) :=
                Lib.hid fun q => near_any A n' c ps u v (w2.drewN q) B ((HR.out.below (HBv.out.mono hB)).drewN q) hlu hlv
              by_cases g1 : u < v
              case neg =>
                have t1 : decide (u < v) = false := decide_eq_false g1
                have HNx := Lib.hid (HRw.out.next (fun h => absurd h g1))
                clear g1
                go_wp2
                go_quiet ((go_at_call 36; exact Calls.quiet_of_same (HQ.out _)))
                go_wp2
                go_roundw
                case rel => exact ⟨v + 1, by go_num, by omega, HNx.out, bel_dn HBv.out _⟩
                case measure => simp [intOf]; omega
              case pos =>
              have t1 : decide (u < v) = true := decide_eq_true g1
              by_cases g2 : nearL ps u v = true
              case neg =>
                have HNx := Lib.hid (HRw.out.next (fun _ h => absurd h g2))
                have g3 : nearL ps u v = false := by simpa using g2
                rw [g3] at HQ
                clear g1 g2 g3
                go_wp2
                go_quiet ((go_at_call 36; exact Calls.quiet_of_same (HQ.out _)))
                go_wp2
                go_roundw
                case rel => exact ⟨v + 1, by go_num, by omega, HNx.out, bel_dn HBv.out _⟩
                case measure => simp [intOf]; omega
              case pos =>
              by_cases g3 : (x = (v : Int) ↔ y = (u : Int))
              case pos =>
                have hrf : r = false := HF.out (fun h => h.2.2 u (by rw [HL.out]; exact hlu) v (by rw [HL.out]; exact hlv) g1 g2 (by rw [← HXe.out, ← HYe.out]; exact g3))
                rw [g2] at HQ
                have t2 : ((x == (v : Int)) == (y == (u : Int))) = true := by
                  by_cases e1 : x = (v : Int)
                  · rw [(show (x == (v : Int)) = true by simpa using e1), (show (y == (u : Int)) = true by simpa using g3.1 e1)]; rfl
                  · have e2 : ¬ y = (u : Int) := fun h => e1 (g3.2 h)
                    rw [(show (x == (v : Int)) = false by simpa using e1), (show (y == (u : Int)) = false by simpa using e2)]; rfl
                clear g1 g2 g3
                go_wp2
                go_quiet ((go_at_call 36; exact Calls.quiet_of_same (HQ.out _)))
                go_wp2
                go_ret
                exact ⟨by first | rfl | (rw [hrf]; rfl), bel_dn HBv.out _⟩
              case neg =>
                have HNx := Lib.hid (HRw.out.next (fun _ _ h => g3 (by rw [HXe.out, HYe.out]; exact h)))
                rw [g2] at HQ
                have t2 : ((x == (v : Int)) == (y == (u : Int))) = false := by
                  by_cases e1 : x = (v : Int)
                  · have e2 : ¬ y = (u : Int) := fun h => g3 ⟨fun _ => h, fun _ => e1⟩
                    rw [(show (x == (v : Int)) = true by simpa using e1), (show (y == (u : Int)) = false by simpa using e2)]; rfl
                  · have e2 : y = (u : Int) := Classical.byContradiction fun h => g3 ⟨fun h2 => absurd h2 e1, fun h2 => absurd h2 h⟩
                    rw [(show (x == (v : Int)) = false by simpa using e1), (show (y == (u : Int)) = true by simpa using e2)]; rfl
                clear g1 g2 g3
                go_wp2
                go_quiet ((go_at_call 36; exact Calls.quiet_of_same (HQ.out _)))
                go_wp2
                go_roundw
                case rel => exact ⟨v + 1, by go_num, by omega, HNx.out, bel_dn HBv.out _⟩
                case measure => simp [intOf]; omega
            · have HNx : Hid (RowsOk ps ar (u + 1)) := Lib.hid (HRo.out.next (by have h1 := HRw.out; rwa [show v = ps.length by rw [HL.out]; omega] at h1))
              go_wp2
              go_roundw
              case rel => exact ⟨u + 1, by go_num, by omega, HNx.out, HBv.out⟩
              case measure => simp [intOf]; omega
        · have HE : Hid (EdgesL ps ar) := Lib.hid (fun a ha b hb hab hn => HRo.out a (by rw [HL.out] at ha; omega) b hb hab hn)
          by_cases hq : q = 1
          · have hrt : r = true := HT.out ⟨HLe.out, by rw [← HSk.out]; exact hq, HE.out⟩
            subst hq
            go_wp2
            go_ret
            exact ⟨by first | rfl | (rw [hrt]; rfl), HBu.out⟩
          · have hrf : r = false := HF.out (fun h => hq (by rw [HSk.out]; exact h.2.1))
            have t1 : ((q : Int) == 1) = false := by simp; omega
            clear hq
            go_wp2
            go_ret
            exact ⟨by first | rfl | (rw [hrf]; rfl), HBu.out⟩
end Go.Proofs.Ytcomiininaemhaa.Pk
