/- The landed within, below and has of package state. -/
import Derived.Test.YtcicpgiljceioaaZStSpec
import Derived.Test.YtcicpgiljceioaaZGrWave
namespace Go.Proofs.Ytcicpgiljceioaa.Pk
open Go.RowKit Go.Proofs.Ytcicpgiljceioaa.Gr
set_option linter.unusedVariables false
theorem swithin_any {x a b : Int} (w : World) : Calls Try.prog 29 #[.int .i64 x, .int .i64 a, .int .i64 b] w fun e w' => e = .returned (.bool (decide (a ≤ x ∧ x ≤ b))) ∧ w' = w := by
  by_cases h0 : a ≤ x
  · have b1 : decide (a ≤ x) = true := decide_eq_true h0
    by_cases h1 : x ≤ b
    · have b2 : decide (x ≤ b) = true := decide_eq_true h1
      have HG : Hid (decide (a ≤ x ∧ x ≤ b) = true) := Lib.hid (decide_eq_true ⟨h0, h1⟩)
      rw [HG.out]
      clear h0 h1
      go_enter Try.func29, Try.ntmps29
      go_wp2
      go_ret
      exact ⟨rfl, rfl⟩
    · have b2 : decide (x ≤ b) = false := decide_eq_false h1
      have HG : Hid (decide (a ≤ x ∧ x ≤ b) = false) := Lib.hid (decide_eq_false (fun h => h1 h.2))
      rw [HG.out]
      clear h0 h1
      go_enter Try.func29, Try.ntmps29
      go_wp2
      go_ret
      exact ⟨rfl, rfl⟩
  · have b1 : decide (a ≤ x) = false := decide_eq_false h0
    have HG : Hid (decide (a ≤ x ∧ x ≤ b) = false) := Lib.hid (decide_eq_false (fun h => h0 h.1))
    rw [HG.out]
    clear h0
    go_enter Try.func29, Try.ntmps29
    go_wp2
    go_ret
    exact ⟨rfl, rfl⟩
theorem sbelow_any {x k : Int} (w : World) : Calls Try.prog 43 #[.int .i64 x, .int .i64 k] w fun e w' => e = .returned (.bool (decide (0 ≤ x ∧ x < k))) ∧ w' = w := by
  by_cases h0 : 0 ≤ x
  · have b1 : decide (0 ≤ x) = true := decide_eq_true h0
    by_cases h1 : x < k
    · have b2 : decide (x < k) = true := decide_eq_true h1
      have HG : Hid (decide (0 ≤ x ∧ x < k) = true) := Lib.hid (decide_eq_true ⟨h0, h1⟩)
      rw [HG.out]
      clear h0 h1
      go_enter Try.func43, Try.ntmps43
      go_wp2
      go_ret
      exact ⟨rfl, rfl⟩
    · have b2 : decide (x < k) = false := decide_eq_false h1
      have HG : Hid (decide (0 ≤ x ∧ x < k) = false) := Lib.hid (decide_eq_false (fun h => h1 h.2))
      rw [HG.out]
      clear h0 h1
      go_enter Try.func43, Try.ntmps43
      go_wp2
      go_ret
      exact ⟨rfl, rfl⟩
  · have b1 : decide (0 ≤ x) = false := decide_eq_false h0
    have HG : Hid (decide (0 ≤ x ∧ x < k) = false) := Lib.hid (decide_eq_false (fun h => h0 h.1))
    rw [HG.out]
    clear h0
    go_enter Try.func43, Try.ntmps43
    go_wp2
    go_ret
    exact ⟨rfl, rfl⟩
/-- Is it a node of the tree? -/
theorem shas_any (T g : Nat) (ps : List Int) (v : Int) (w : World) (h : IsTr w T g ps) :
    Calls Try.prog 27 #[.pointer (some ⟨T, 0, none⟩), .int .i64 v] w fun e w' => e = .returned (.bool (decide (0 ≤ v ∧ v < (ps.length : Int)))) ∧ w' = w := by
  have HS := Lib.hid (size_any T g ps w h)
  have HB := Lib.hid (sbelow_any (x := v) (k := (ps.length : Int)) w)
  obtain ⟨q, hq⟩ : ∃ q, q = decide (0 ≤ v ∧ v < (ps.length : Int)) := ⟨_, rfl⟩
  rw [← hq] at HB ⊢
  clear h hq
  go_enter Try.func27, Try.ntmps27
  go_wp2_with fail
  refine HS.out.mono ?_
  rintro e w1 ⟨rfl, hw⟩
  rw [hw]
  clear hw w1
  go_wp2_with fail
  refine HB.out.mono ?_
  rintro e w1 ⟨rfl, hw⟩
  rw [hw]
  clear hw w1
  go_wp2_with fail
  go_ret
  exact ⟨rfl, rfl⟩
theorem shas_nil (v : Int) (w : World) :
    Calls Try.prog 27 #[.pointer none, .int .i64 v] w fun e w' => e = .returned (.bool false) ∧ w' = w := by
  have HS := Lib.hid (size_nil w)
  have HB : Hid (Calls Try.prog 43 #[.int .i64 v, .int .i64 0] w fun e w' => e = .returned (.bool false) ∧ w' = w) := Lib.hid (by
    have h := sbelow_any (x := v) (k := 0) w
    rw [show decide (0 ≤ v ∧ v < 0) = false from decide_eq_false (by omega)] at h
    exact h)
  go_enter Try.func27, Try.ntmps27
  go_wp2_with fail
  refine HS.out.mono ?_
  rintro e w1 ⟨rfl, hw⟩
  rw [hw]
  clear hw w1
  go_wp2_with fail
  refine HB.out.mono ?_
  rintro e w1 ⟨rfl, hw⟩
  rw [hw]
  clear hw w1
  go_wp2_with fail
  go_ret
  exact ⟨rfl, rfl⟩
end Go.Proofs.Ytcicpgiljceioaa.Pk

/- The landed Homes and Meant of package state. -/
namespace Go.Proofs.Ytcicpgiljceioaa.Pk
open Go.RowKit Go.Proofs.Ytcicpgiljceioaa.Gr
set_option linter.unusedVariables false
attribute [local go_sem] Oper.semAt_some
theorem withinB {x a b : Int} (r : Bool) (w : World) (h : decide (a ≤ x ∧ x ≤ b) = r) : Calls Try.prog 29 #[.int .i64 x, .int .i64 a, .int .i64 b] w fun e w' => e = .returned (.bool r) ∧ w' = w := h ▸ swithin_any w
theorem belowB {x k : Int} (r : Bool) (w : World) (h : decide (0 ≤ x ∧ x < k) = r) : Calls Try.prog 43 #[.int .i64 x, .int .i64 k] w fun e w' => e = .returned (.bool r) ∧ w' = w := h ▸ sbelow_any w
theorem hasB_ {T g : Nat} {ps : List Int} {v : Int} (r : Bool) (w : World) (h : IsTr w T g ps) (hr : decide (0 ≤ v ∧ v < (ps.length : Int)) = r) :
    Calls Try.prog 27 #[.pointer (some ⟨T, 0, none⟩), .int .i64 v] w fun e w' => e = .returned (.bool r) ∧ w' = w := hr ▸ shas_any T g ps v w h
theorem homesZ : StHomesZ := by
  intro A n c hs w hin
  clear hin
  go_enter Try.func11, Try.ntmps11
  go_wp2_with fail
  go_ret
  exact ⟨rfl, Below.refl _ _⟩
set_option maxHeartbeats 4000000 in
theorem homesS : StHomesP := by
  intro T g ps A n c hs w htr G hin
  have HT := Lib.hid htr
  have HR := Lib.hid hin.rd
  have HL : Hid (hs.length = n) := Lib.hid hin.len
  have hfew := hin.few
  clear htr hin G
  unfold homesE
  by_cases h8 : 1 ≤ n ∧ n ≤ 8
  · have HW := Lib.hid (withinB (x := (n : Int)) (a := 1) (b := 8) true w (decide_eq_true (by omega)))
    go_enter Try.func11, Try.ntmps11
    go_wp2_with fail
    refine HW.out.mono ?_
    rintro e w' ⟨rfl, hw⟩
    rw [hw]
    clear hw w'
    go_wp2_with fail
    go_loop [17] (fun j => ∃ i : Nat, j = .int .i64 i ∧ i ≤ n ∧ ∀ k, k < i → 0 ≤ hs.getD k 0 ∧ hs.getD k 0 < (ps.length : Int)) (fun j => n - (intOf j).toNat)
    case atStart => exact ⟨0, rfl, by omega, fun k hk => by omega⟩
    case round =>
      obtain ⟨i, rfl, hi, hall⟩ := hrel
      have HA := Lib.hid hall
      clear hall
      by_cases hlt : i < n
      · obtain ⟨b, off, rfl, _, hc⟩ := HR.out.i64 (by omega)
        have m0 := hc i hlt
        have HX : Hid (∀ x, x = hs.getD i 0 → x ∈ hs) := Lib.hid (fun x hx => by
          rw [hx, List.getD_eq_getElem?_getD, List.getElem?_eq_getElem (by rw [HL.out]; exact hlt)]
          exact List.getElem_mem _)
        obtain ⟨x, hx⟩ : ∃ x, x = hs.getD i 0 := ⟨_, rfl⟩
        rw [← hx] at m0
        have HM := Lib.hid (HX.out x hx)
        have HXx := Lib.hid hx
        clear hc hx HX
        by_cases hq : 0 ≤ x ∧ x < (ps.length : Int)
        · have HH := Lib.hid (hasB_ (v := x) true w HT.out (decide_eq_true hq))
          have HN : Hid (∀ k, k < i + 1 → 0 ≤ hs.getD k 0 ∧ hs.getD k 0 < (ps.length : Int)) := Lib.hid (fun k hk => by
            rcases Nat.lt_or_ge k i with hk2 | hk2
            · exact HA.out k hk2
            · have : k = i := by omega
              subst this
              rw [← HXx.out]; exact hq)
          clear hq
          go_wp2_with (refine HH.out.mono ?_; rintro e w' ⟨rfl, hw⟩; rw [hw]; clear hw w')
          go_round
          case rel => exact ⟨i + 1, by go_num, by omega, HN.out⟩
          case measure => simp [intOf]; omega
        · have HH := Lib.hid (hasB_ (v := x) false w HT.out (decide_eq_false hq))
          have HD : Hid (¬ HomesS ps.length hs) := Lib.hid (fun hh => hq (hh.2 x HM.out))
          clear hq
          go_wp2_with (refine HH.out.mono ?_; rintro e w' ⟨rfl, hw⟩; rw [hw]; clear hw w')
          go_ret
          exact ⟨by first | rfl | (rw [if_neg HD.out]; rfl), Below.refl _ _⟩
      · have HD : Hid (HomesS ps.length hs) := Lib.hid ⟨by rw [HL.out]; exact h8, fun h hh => by
          obtain ⟨k, hk⟩ := List.getElem?_of_mem hh
          have h3 := (List.getElem?_eq_some_iff.1 hk).1
          have := HA.out k (by rw [HL.out] at h3; omega)
          rw [List.getD_eq_getElem?_getD, hk] at this
          exact this⟩
        go_wp2_with fail
        go_ret
        exact ⟨by first | rfl | (rw [if_pos HD.out]; rfl), Below.refl _ _⟩
  · have HD : Hid (¬ HomesS ps.length hs) := Lib.hid (fun hh => h8 (by have := hh.1; rw [HL.out] at this; exact this))
    have HW := Lib.hid (withinB (x := (n : Int)) (a := 1) (b := 8) false w (decide_eq_false (by omega)))
    clear h8
    go_enter Try.func11, Try.ntmps11
    go_wp2_with fail
    refine HW.out.mono ?_
    rintro e w' ⟨rfl, hw⟩
    rw [hw]
    clear hw w'
    go_wp2_with fail
    go_ret
    exact ⟨by first | rfl | (rw [if_neg HD.out]; rfl), Below.refl _ _⟩
set_option maxHeartbeats 4000000 in
theorem meantS : StMeantP := by
  intro T g ps k m w htr G hk hm
  obtain ⟨mk, mo, mn, mu, mv⟩ := m
  clear hk hm G
  unfold Mg.val
  simp only
  obtain ⟨w1, hw1⟩ : ∃ w1, w1 = w.alloc (.cells #[.int .i64 mk, .int .i64 mo, .int .i64 mn, .int .i64 mu, .int .i64 mv] 45) := ⟨_, rfl⟩
  have hb1 : Below w.heap.size w w1 := hw1 ▸ (Below.refl _ w).alloc (Nat.le_refl _) _
  have HB := Lib.hid hb1
  have HT := Lib.hid (htr.below_ hb1)
  have HBl := fun r h => Lib.hid (belowB (x := mo) (k := k) r w1 h)
  have HN := fun r h => Lib.hid (hasB_ (v := mn) r w1 HT.out h)
  have HV := fun r h => Lib.hid (hasB_ (v := mv) r w1 HT.out h)
  clear htr hb1
  by_cases h0 : 0 ≤ mo ∧ mo < k
  · have H0 := HBl true (decide_eq_true h0)
    by_cases h1 : 0 ≤ mn ∧ mn < (ps.length : Int)
    · have H1 := HN true (decide_eq_true h1)
      by_cases h2 : 0 ≤ mv ∧ mv < (ps.length : Int)
      · have H2 := HV true (decide_eq_true h2)
        have hd : decide (MeantS (ps.length : Int) k ⟨mk, mo, mn, mu, mv⟩) = true := decide_eq_true (by unfold MeantS; simp only; omega)
        rw [hd]
        clear hd h0 h1 h2 HBl HN HV
        go_enter Try.func20, Try.ntmps20
        go_wp2_with fail
        rw [← hw1]
        refine H0.out.mono ?_
        rintro e w' ⟨rfl, hw⟩
        rw [hw, hw1]
        clear hw w'
        go_wp2_with fail
        rw [← hw1]
        refine H1.out.mono ?_
        rintro e w' ⟨rfl, hw⟩
        rw [hw, hw1]
        clear hw w'
        go_wp2_with fail
        rw [← hw1]
        refine H2.out.mono ?_
        rintro e w' ⟨rfl, hw⟩
        rw [hw]
        clear hw w' hw1
        go_wp2_with fail
        go_ret
        exact ⟨rfl, HB.out⟩
      · have H2 := HV false (decide_eq_false h2)
        have hd : decide (MeantS (ps.length : Int) k ⟨mk, mo, mn, mu, mv⟩) = false := decide_eq_false (by unfold MeantS; simp only; omega)
        rw [hd]
        clear hd h0 h1 h2 HBl HN HV
        go_enter Try.func20, Try.ntmps20
        go_wp2_with fail
        rw [← hw1]
        refine H0.out.mono ?_
        rintro e w' ⟨rfl, hw⟩
        rw [hw, hw1]
        clear hw w'
        go_wp2_with fail
        rw [← hw1]
        refine H1.out.mono ?_
        rintro e w' ⟨rfl, hw⟩
        rw [hw, hw1]
        clear hw w'
        go_wp2_with fail
        rw [← hw1]
        refine H2.out.mono ?_
        rintro e w' ⟨rfl, hw⟩
        rw [hw]
        clear hw w' hw1
        go_wp2_with fail
        go_ret
        exact ⟨rfl, HB.out⟩
    · have H1 := HN false (decide_eq_false h1)
      have hd : decide (MeantS (ps.length : Int) k ⟨mk, mo, mn, mu, mv⟩) = false := decide_eq_false (by unfold MeantS; simp only; omega)
      rw [hd]
      clear hd h0 h1 HBl HN HV
      go_enter Try.func20, Try.ntmps20
      go_wp2_with fail
      rw [← hw1]
      refine H0.out.mono ?_
      rintro e w' ⟨rfl, hw⟩
      rw [hw, hw1]
      clear hw w'
      go_wp2_with fail
      rw [← hw1]
      refine H1.out.mono ?_
      rintro e w' ⟨rfl, hw⟩
      rw [hw]
      clear hw w' hw1
      go_wp2_with fail
      go_ret
      exact ⟨rfl, HB.out⟩
  · have H0 := HBl false (decide_eq_false h0)
    have hd : decide (MeantS (ps.length : Int) k ⟨mk, mo, mn, mu, mv⟩) = false := decide_eq_false (by unfold MeantS; simp only; omega)
    rw [hd]
    clear hd h0 HBl HN HV
    go_enter Try.func20, Try.ntmps20
    go_wp2_with fail
    rw [← hw1]
    refine H0.out.mono ?_
    rintro e w' ⟨rfl, hw⟩
    rw [hw]
    clear hw w' hw1
    go_wp2_with fail
    go_ret
    exact ⟨rfl, HB.out⟩
set_option maxHeartbeats 4000000 in
theorem meantZ : StMeantZ := by
  intro k m w hk hm
  obtain ⟨mk, mo, mn, mu, mv⟩ := m
  clear hk hm
  unfold Mg.val
  simp only
  obtain ⟨w1, hw1⟩ : ∃ w1, w1 = w.alloc (.cells #[.int .i64 mk, .int .i64 mo, .int .i64 mn, .int .i64 mu, .int .i64 mv] 45) := ⟨_, rfl⟩
  have hb1 : Below w.heap.size w w1 := hw1 ▸ (Below.refl _ w).alloc (Nat.le_refl _) _
  have HB := Lib.hid hb1
  have H1 := Lib.hid (shas_nil mn w1)
  clear hb1
  by_cases h0 : 0 ≤ mo ∧ mo < k
  · have H0 := Lib.hid (belowB (x := mo) (k := k) true w1 (decide_eq_true h0))
    clear h0
    go_enter Try.func20, Try.ntmps20
    go_wp2_with fail
    rw [← hw1]
    refine H0.out.mono ?_
    rintro e w' ⟨rfl, hw⟩
    rw [hw, hw1]
    clear hw w'
    go_wp2_with fail
    rw [← hw1]
    refine H1.out.mono ?_
    rintro e w' ⟨rfl, hw⟩
    rw [hw]
    clear hw w' hw1
    go_wp2_with fail
    go_ret
    exact ⟨rfl, HB.out⟩
  · have H0 := Lib.hid (belowB (x := mo) (k := k) false w1 (decide_eq_false h0))
    clear h0
    go_enter Try.func20, Try.ntmps20
    go_wp2_with fail
    rw [← hw1]
    refine H0.out.mono ?_
    rintro e w' ⟨rfl, hw⟩
    rw [hw]
    clear hw w' hw1
    go_wp2_with fail
    go_ret
    exact ⟨rfl, HB.out⟩
end Go.Proofs.Ytcicpgiljceioaa.Pk

/- The document's answer for trees (fletchref04): Neighbours. -/
namespace Go.Proofs.Ytcicpgiljceioaa.Pk
open Go.RowKit Go.Proofs.Ytcicpgiljceioaa.Gr
set_option linter.unusedVariables false
set_option maxHeartbeats 2000000 in
theorem nbs_any (A : Option Addr) (n c : Nat) (ps : List Int) (v : Int) (w : World) (B : Nat) (hr : Reads w B 1 A n (nms ps)) (hB : B ≤ w.heap.size) (hn : n ≤ 1099511627776) :
    Calls Try.prog 35 #[.slice A n c, .int .i64 v] w fun e w' => ∃ x, e = .returned x ∧ OwnN w' w.heap.size x (nbsI ps v) ∧ Below w.heap.size w w' := by
  have HL := Lib.hid hr.plen
  have HR := Lib.hid hr
  clear hr
  go_enter Try.func35, Try.ntmps35
  by_cases h1 : v < 0
  · have HE : Hid (nbsI ps v = []) := Lib.hid (if_neg (by omega))
    go_wp2
    go_ret
    exact ⟨_, rfl, by rw [HE.out]; exact OwnN.none_ _ _, Below.refl _ _⟩
  · by_cases h2 : v < (n : Int)
    · obtain ⟨m, rfl⟩ : ∃ m : Nat, v = (m : Int) := ⟨v.toNat, by omega⟩
      have hm : m < n := by omega
      have HE : Hid (nbsI ps (m : Int) = nbs ps m n) := Lib.hid (by unfold nbsI; rw [if_pos (by rw [HL.out]; omega), HL.out]; rfl)
      have h2' : ¬ (n : Int) ≤ (m : Int) := by omega
      have HM := Lib.hid hm
      clear h1
      go_wp2
      go_loopw [5, 6] (fun x j wr => ∃ i : Nat, j = .int .i64 i ∧ i ≤ n ∧ OwnN wr w.heap.size x (nbs ps m i) ∧ Below w.heap.size w wr) (fun _ j _ => n - (intOf j).toNat)
      case atStart => exact ⟨0, rfl, by omega, OwnN.none_ _ _, Below.refl _ _⟩
      case round =>
        obtain ⟨i, rfl, hi, hown, hb⟩ := hrel
        obtain ⟨w1, rfl⟩ : ∃ w1 : World, w1 = wr := ⟨_, rfl⟩
        have HO := Lib.hid hown
        have HBw := Lib.hid hb
        clear hown hb
        by_cases hlt : i < n
        · have HS := Lib.hid (nbs_succ ps m i)
          have HLn := Lib.hid (nbs_len ps m i)
          by_cases hne : nearL ps i m = true
          · have HN : Hid (nbs ps m (i + 1) = nbs ps m i ++ [(i : Int)]) := Lib.hid (by rw [HS.out, if_pos hne])
            go_wp2_with (first
              | (go_at_call 60; go_must (refine (near_any A n c ps i m w1 B (HR.out.below (HBw.out.mono hB)) hlt HM.out).mono ?_); rintro e w2 ⟨rfl, rfl⟩; rw [hne])
              | (at_builtin; refine appN w2 (i : Int) _ rfl (.tmp 26) (.tmp 28) rfl w.heap.size _ (nbs ps m i) rfl HO.out w2.heap.size rfl rfl (by have := HLn.out; omega) HBw.out.size ?_; intro v3 w3 hown3 hb3 _; have HO3 := Lib.hid hown3; have HB3 := Lib.hid (HBw.out.trans hb3); clear hown3 hb3))
            go_roundw
            case rel => exact ⟨i + 1, by go_num, by omega, by rw [HN.out]; exact HO3.out, HB3.out⟩
            case measure => simp [intOf]; omega
          · have hne' : nearL ps i m = false := by simpa using hne
            have HN : Hid (nbs ps m (i + 1) = nbs ps m i) := Lib.hid (by rw [HS.out, if_neg hne])
            go_wp2_with (go_at_call 60; go_must (refine (near_any A n c ps i m w1 B (HR.out.below (HBw.out.mono hB)) hlt HM.out).mono ?_); rintro e w2 ⟨rfl, rfl⟩; rw [hne'])
            go_roundw
            case rel => exact ⟨i + 1, by go_num, by omega, by rw [HN.out]; exact HO.out, HBw.out⟩
            case measure => simp [intOf]; omega
        · have HF : Hid (nbsI ps (m : Int) = nbs ps m i) := Lib.hid (by rw [HE.out]; congr 1; omega)
          go_wp2
          go_ret
          exact ⟨_, rfl, by rw [HF.out]; exact HO.out, HBw.out⟩
    · have HE : Hid (nbsI ps v = []) := Lib.hid (if_neg (by rw [HL.out]; omega))
      have h2' : (n : Int) ≤ v := by omega
      go_wp2
      go_ret
      exact ⟨_, rfl, by rw [HE.out]; exact OwnN.none_ _ _, Below.refl _ _⟩
end Go.Proofs.Ytcicpgiljceioaa.Pk
