/- The landed within and room of package half. -/
import Derived.Test.YtcicpgiljceioaaZWiRef
import Derived.Test.YtcicpgiljceioaaZWiValidP
namespace Go.Proofs.Ytcicpgiljceioaa.Pk
open Go.RowKit
set_option linter.unusedVariables false
theorem run_minI (P : Program) (ts : Array TypeId) (t : TypeId) (a b M : Int) (hM : M = min a b) (w : World) :
    (Builtin.min_ ts t #[.int .i64 a, .int .i64 b]).run P w = .ok (.int .i64 M) w := by
  subst hM
  have e1 : (if b < a then b else a) = min a b := by split <;> omega
  simp only [Builtin.min_, List.foldlM, Builtin.min2, e1, pure_bind]
  rfl
theorem withinH_t {x h : Int} (w : World) (hx : -9223372036854775808 ≤ x ∧ x ≤ 9223372036854775807) (h0 : 0 ≤ x) (h1 : x ≤ h) : Calls Try.prog 69 #[.int .i64 x, .int .i64 h] w fun e w' => e = .returned (.bool true) ∧ w' = w := by
  have b1 : decide (0 ≤ x) = true := decide_eq_true h0
  have b2 : decide (x ≤ h) = true := decide_eq_true h1
  go_enter Try.func69, Try.ntmps69
  go_wp2
  go_ret
  exact ⟨rfl, rfl⟩
theorem withinH_f {x h : Int} (w : World) (hx : -9223372036854775808 ≤ x ∧ x ≤ 9223372036854775807) (hn : x < 0 ∨ h < x) : Calls Try.prog 69 #[.int .i64 x, .int .i64 h] w fun e w' => e = .returned (.bool false) ∧ w' = w := by
  by_cases h0 : 0 ≤ x
  · have b1 : decide (0 ≤ x) = true := decide_eq_true h0
    have b2 : decide (x ≤ h) = false := decide_eq_false (by omega)
    clear hn
    go_enter Try.func69, Try.ntmps69
    go_wp2
    go_ret
    exact ⟨rfl, rfl⟩
  · have b1 : decide (0 ≤ x) = false := decide_eq_false h0
    clear hn
    go_enter Try.func69, Try.ntmps69
    go_wp2
    go_ret
    exact ⟨rfl, rfl⟩
theorem room_any {p b s : Int} (A : Option Addr) (n c : Nat) (w : World) (hb : 0 ≤ b ∧ b ≤ 1099511627776) (hn : n ≤ 3518437208883) (hnc : n ≤ c) :
    Calls Try.prog 70 #[.agg #[.int .i64 p, .int .i64 b, .slice A n c, .int .i64 s]] w fun e w' => e = .returned (.int .i64 (min 1024 (1099511627776 - b) - (n : Int))) ∧ Below w.heap.size w w' := by
  obtain ⟨M, hM⟩ : ∃ M, M = min 1024 (1099511627776 - b) := ⟨_, rfl⟩
  have kn := fun (w : World) => run_minI Try.prog #[3, 3] 3 1024 (1099511627776 - b) M hM w
  have hM2 : 0 ≤ M ∧ M ≤ 1024 := by omega
  rw [← hM]
  clear hM
  go_enter Try.func70, Try.ntmps70
  go_wp2
  go_ret
  exact ⟨rfl, (Below.refl _ w).alloc (Nat.le_refl _) _⟩
end Go.Proofs.Ytcicpgiljceioaa.Pk

/- The landed Good of package half. -/
namespace Go.Proofs.Ytcicpgiljceioaa.Pk
open Go.RowKit
set_option linter.unusedVariables false
theorem allBe_takeP {o : List Mg} {k : Nat} {m : Mg} (h : allBe (o.take k)) (hm : o[k]? = some m) (hb : m.Be) : allBe (o.take (k + 1)) := by
  obtain ⟨h1, h2⟩ := List.getElem?_eq_some_iff.1 hm
  intro x hx
  rw [List.take_succ_eq_append_getElem h1, h2] at hx
  rcases List.mem_append.1 hx with hx | hx
  · exact h x hx
  · obtain rfl := List.mem_singleton.1 hx
    exact hb
set_option maxRecDepth 100000 in
set_option maxHeartbeats 4000000 in
theorem goodH : GoodH := by
  intro h A n c w hin
  obtain ⟨p, b, o, s⟩ := h
  have hlen : o.length = n := hin.len
  obtain ⟨hrd, hnc, hfew, ⟨⟨ip, jp⟩, ⟨ib, jb⟩, ⟨is_, js⟩, io⟩⟩ := hin
  simp only at ip jp ib jb is_ js io hrd
  have Ip := Lib.hid (And.intro ip jp)
  have Ib := Lib.hid (And.intro ib jb)
  have Is := Lib.hid (And.intro is_ js)
  have HI := Lib.hid io
  have HR := Lib.hid hrd
  have HL := Lib.hid hlen
  obtain ⟨r, hr⟩ : ∃ r, r = decide (Hf.Be ⟨p, b, o, s⟩) := ⟨_, rfl⟩
  rw [← hr]
  have HBe := Lib.hid hr
  clear hr io hrd hlen
  have HF : Hid ((¬ (0 ≤ p ∧ p ≤ 31) ∨ ¬ (0 ≤ b ∧ b ≤ 1099511627776) ∨ ¬ (0 ≤ s ∧ s ≤ 1099511627776) ∨ ¬ (n ≤ 1024 ∧ b + (n : Int) ≤ 1099511627776)) → r = false) := Lib.hid (fun h => by
    rw [HBe.out]
    refine decide_eq_false (fun hb => ?_)
    obtain ⟨g1, g2, g3, g4, g5, g6, g7, g8⟩ := hb
    simp only [HL.out] at g1 g2 g3 g4 g5 g6 g7
    omega)
  have HM : Hid (∀ m ∈ o, ¬ m.Be → r = false) := Lib.hid (fun m hm hn => by
    rw [HBe.out]
    exact decide_eq_false (fun hb => hn (hb.2.2.2.2.2.2.2 m hm)))
  have HT : Hid (0 ≤ p ∧ p ≤ 31 → 0 ≤ b ∧ b ≤ 1099511627776 → 0 ≤ s ∧ s ≤ 1099511627776 → n ≤ 1024 ∧ b + (n : Int) ≤ 1099511627776 → allBe o → r = true) := Lib.hid (fun h1 h2 h3 h4 h5 => by
    rw [HBe.out]
    exact decide_eq_true ⟨h1.1, h1.2, h2.1, h3.1, h3.2, by simp only [HL.out]; exact h4.1, by simp only [HL.out]; exact h4.2, h5⟩)
  show Calls Try.prog _ #[.agg #[.int .i64 p, .int .i64 b, .slice A n c, .int .i64 s]] w _
  by_cases h1 : 0 ≤ p ∧ p ≤ 31
  case neg =>
    obtain rfl := HF.out (.inl h1)
    clear HF HM HT HBe HI HR HL
    have HW := Lib.hid (fun w => withinH_f (h := 31) w Ip.out (by omega))
    clear h1
    go_enter Try.func62, Try.ntmps62
    go_wp2_with fail
    refine (HW.out _).mono ?_
    rintro e w2 ⟨rfl, hw⟩
    rw [hw]
    clear hw w2
    go_wp2
    go_ret
    exact ⟨rfl, (Below.refl _ w).alloc (Nat.le_refl _) _⟩
  by_cases h2 : 0 ≤ b ∧ b ≤ 1099511627776
  case neg =>
    obtain rfl := HF.out (.inr (.inl h2))
    clear HF HM HT HBe HI HR HL
    have HW := Lib.hid (fun w => withinH_t (h := 31) w Ip.out h1.1 h1.2)
    have HW2 := Lib.hid (fun w => withinH_f (h := 1099511627776) w Ib.out (by omega))
    clear h1 h2
    go_enter Try.func62, Try.ntmps62
    go_wp2_with fail
    refine (HW.out _).mono ?_
    rintro e w2 ⟨rfl, hw⟩
    rw [hw]
    clear hw w2
    go_wp2_with fail
    refine (HW2.out _).mono ?_
    rintro e w2 ⟨rfl, hw⟩
    rw [hw]
    clear hw w2
    go_wp2
    go_ret
    exact ⟨rfl, (Below.refl _ w).alloc (Nat.le_refl _) _⟩
  by_cases h3 : 0 ≤ s ∧ s ≤ 1099511627776
  case neg =>
    obtain rfl := HF.out (.inr (.inr (.inl h3)))
    clear HF HM HT HBe HI HR HL
    have HW := Lib.hid (fun w => withinH_t (h := 31) w Ip.out h1.1 h1.2)
    have HW2 := Lib.hid (fun w => withinH_t (h := 1099511627776) w Ib.out h2.1 h2.2)
    have HW3 := Lib.hid (fun w => withinH_f (h := 1099511627776) w Is.out (by omega))
    clear h1 h2 h3
    go_enter Try.func62, Try.ntmps62
    go_wp2_with fail
    refine (HW.out _).mono ?_
    rintro e w2 ⟨rfl, hw⟩
    rw [hw]
    clear hw w2
    go_wp2_with fail
    refine (HW2.out _).mono ?_
    rintro e w2 ⟨rfl, hw⟩
    rw [hw]
    clear hw w2
    go_wp2_with fail
    refine (HW3.out _).mono ?_
    rintro e w2 ⟨rfl, hw⟩
    rw [hw]
    clear hw w2
    go_wp2
    go_ret
    exact ⟨rfl, (Below.refl _ w).alloc (Nat.le_refl _) _⟩
  have HW := Lib.hid (fun w => withinH_t (h := 31) w Ip.out h1.1 h1.2)
  have HW2 := Lib.hid (fun w => withinH_t (h := 1099511627776) w Ib.out h2.1 h2.2)
  have HW3 := Lib.hid (fun w => withinH_t (h := 1099511627776) w Is.out h3.1 h3.2)
  have HRm := Lib.hid (fun w => room_any (p := p) (s := s) A n c w h2 hfew hnc)
  obtain ⟨M, hM⟩ : ∃ M, M = min 1024 (1099511627776 - b) - (n : Int) := ⟨_, rfl⟩
  rw [← hM] at HRm
  by_cases h4 : n ≤ 1024 ∧ b + (n : Int) ≤ 1099511627776
  case neg =>
    obtain rfl := HF.out (.inr (.inr (.inr h4)))
    have k1 : decide (M < 0) = true := decide_eq_true (by omega)
    clear HF HM HT HBe HI HR HL h1 h2 h3 h4 hM
    go_enter Try.func62, Try.ntmps62
    go_wp2_with fail
    refine (HW.out _).mono ?_
    rintro e w2 ⟨rfl, hw⟩
    rw [hw]
    clear hw w2
    go_wp2_with fail
    refine (HW2.out _).mono ?_
    rintro e w2 ⟨rfl, hw⟩
    rw [hw]
    clear hw w2
    go_wp2_with fail
    refine (HW3.out _).mono ?_
    rintro e w2 ⟨rfl, hw⟩
    rw [hw]
    clear hw w2
    go_wp2_with fail
    refine (HRm.out _).mono ?_
    rintro e w2 ⟨rfl, hb⟩
    have HB : Hid (Below w.heap.size w w2) := Lib.hid (((Below.refl _ w).alloc (Nat.le_refl _) _).trans (hb.mono (by simp)))
    clear hb
    go_wp2
    go_ret
    exact ⟨rfl, HB.out⟩
  have HTt := Lib.hid (HT.out h1 h2 h3 h4)
  have HS := Lib.hid h4
  have k1 : decide (M < 0) = false := decide_eq_false (by omega)
  have hn : n ≤ 1024 := h4.1
  clear HF HT HBe h1 h2 h3 h4 hM
  obtain ⟨x, hx⟩ : ∃ x, x = w.heap.size := ⟨_, rfl⟩
  have HX := Lib.hid hx
  clear hx
  go_enter Try.func62, Try.ntmps62
  go_wp2_with fail
  refine (HW.out _).mono ?_
  rintro e w2 ⟨rfl, hw⟩
  rw [hw]
  clear hw w2
  go_wp2_with fail
  refine (HW2.out _).mono ?_
  rintro e w2 ⟨rfl, hw⟩
  rw [hw]
  clear hw w2
  go_wp2_with fail
  refine (HW3.out _).mono ?_
  rintro e w2 ⟨rfl, hw⟩
  rw [hw]
  clear hw w2
  go_wp2_with fail
  refine (HRm.out _).mono ?_
  rintro e w2 ⟨rfl, hb⟩
  have hk : Blk w2 w.heap.size 60 #[.int .i64 p, .int .i64 b, .slice A n c, .int .i64 s] := (Blk.new w _ _).below hb (by simp)
  have HB : Hid (Below w.heap.size w w2) := Lib.hid (((Below.refl _ w).alloc (Nat.le_refl _) _).trans (hb.mono (by simp)))
  have c2 : w2.cell? ⟨w.heap.size, 2, none⟩ = some (.slice A n c) := hk.cell 2
  clear hb hk
  go_wp2
  clear c2
  go_loopw [4, 29] (fun _ i wr => ∃ k : Nat, i = .int .i64 k ∧ k ≤ n ∧ allBe (o.take k) ∧ Below w.heap.size w wr) (fun _ i _ => n - (intOf i).toNat)
  case atStart => exact ⟨0, rfl, by omega, fun m hm => by simp at hm, HB.out⟩
  case round =>
    obtain ⟨k, rfl, hk, hall, hbel⟩ := hrel
    obtain ⟨w3, rfl⟩ : ∃ w3 : World, w3 = wr := ⟨_, rfl⟩
    have HA := Lib.hid hall
    have HB3 := Lib.hid hbel
    clear hall hbel
    by_cases hlt : k < n
    · obtain ⟨b', off, rfl, _, hc⟩ := (HR.out.below HB3.out).mgs_ (by omega)
      obtain ⟨m, hm⟩ : ∃ m, o[k]? = some m := ⟨_, List.getElem?_eq_getElem (by rw [HL.out]; exact hlt)⟩
      obtain ⟨m0, m1, m2, m3, m4⟩ := hc k m hm
      have hmem := List.mem_of_getElem? hm
      have HVa := Lib.hid (fun w => validC m w (HI.out m hmem))
      have HMe := Lib.hid hm
      have HMm := Lib.hid hmem
      obtain ⟨mk, mo, mn, mu, mv⟩ := m
      simp only at m0 m1 m2 m3 m4
      clear hc hm hmem
      by_cases hbe : Mg.Be ⟨mk, mo, mn, mu, mv⟩
      · have HNx := Lib.hid (allBe_takeP HA.out HMe.out hbe)
        rw [decide_eq_true hbe] at HVa
        clear hbe
        go_wp2_with fail
        refine (HVa.out _).mono ?_
        rintro e w4 ⟨rfl, hb4⟩
        have HB4 : Hid (Below w.heap.size w w4) := Lib.hid ((HB3.out.alloc HB3.out.size _).trans (hb4.mono (by have := HB3.out.size; simp; omega)))
        clear hb4
        go_wp2
        go_roundw
        case rel => exact ⟨k + 1, by go_num, by omega, HNx.out, HB4.out⟩
        case measure => simp [intOf]; omega
      · have hrf := HM.out _ HMm.out hbe
        subst hrf
        rw [decide_eq_false hbe] at HVa
        clear hbe
        go_wp2_with fail
        refine (HVa.out _).mono ?_
        rintro e w4 ⟨rfl, hb4⟩
        have HB4 : Hid (Below w.heap.size w w4) := Lib.hid ((HB3.out.alloc HB3.out.size _).trans (hb4.mono (by have := HB3.out.size; simp; omega)))
        clear hb4
        go_wp2
        go_ret
        exact ⟨rfl, HB4.out⟩
    · have hrt := HTt.out (by have := HA.out; rwa [List.take_of_length_le (by rw [HL.out]; omega)] at this)
      subst hrt
      go_wp2
      go_ret
      exact ⟨rfl, HB3.out⟩
end Go.Proofs.Ytcicpgiljceioaa.Pk
