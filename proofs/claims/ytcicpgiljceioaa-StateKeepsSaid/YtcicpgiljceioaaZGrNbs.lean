/- The document's Good of a side. -/
import Derived.Test.YtcicpgiljceioaaZWiRef
import Derived.Test.YtcicpgiljceioaaZGrWave
namespace Go.Proofs.Ytcicpgiljceioaa.Pk
open Go.RowKit
set_option linter.unusedVariables false
/-- The numbers of a side that can be. -/
def Head (p b s : Int) (n : Nat) : Prop := 0 ≤ p ∧ p ≤ 31 ∧ 0 ≤ b ∧ 0 ≤ s ∧ s ≤ 1099511627776 ∧ n ≤ 1024 ∧ b + (n : Int) ≤ 1099511627776
theorem be_head {p b s : Int} {o : List Mg} {n : Nat} (hn : o.length = n) : Hf.Be ⟨p, b, o, s⟩ ↔ Head p b s n ∧ allBe o := by
  subst hn
  unfold Hf.Be Head
  simp only
  constructor
  · rintro ⟨h1, h2, h3, h4, h5, h6, h7, h8⟩; exact ⟨⟨h1, h2, h3, h4, h5, h6, h7⟩, h8⟩
  · rintro ⟨⟨h1, h2, h3, h4, h5, h6, h7⟩, h8⟩; exact ⟨h1, h2, h3, h4, h5, h6, h7, h8⟩
theorem allBe_take {o : List Mg} {k : Nat} {r : Mg} (h : allBe (o.take k)) (hr : o[k]? = some r) (hb : r.Be) : allBe (o.take (k + 1)) := by
  obtain ⟨h1, h2⟩ := List.getElem?_eq_some_iff.1 hr
  intro m hm
  rw [List.take_succ_eq_append_getElem h1, h2] at hm
  rcases List.mem_append.1 hm with hm | hm
  · exact h m hm
  · obtain rfl : m = r := by simpa using hm
    exact hb
theorem head_ways (p b s : Int) (n : Nat) : (p < 0) ∨ (0 ≤ p ∧ 31 < p) ∨ (0 ≤ p ∧ p ≤ 31 ∧ b < 0) ∨ (0 ≤ p ∧ p ≤ 31 ∧ 0 ≤ b ∧ 1099511627776 < b) ∨ (0 ≤ p ∧ p ≤ 31 ∧ 0 ≤ b ∧ b ≤ 1099511627776 ∧ s < 0) ∨ (0 ≤ p ∧ p ≤ 31 ∧ 0 ≤ b ∧ b ≤ 1099511627776 ∧ 0 ≤ s ∧ 1099511627776 < s) ∨ (0 ≤ p ∧ p ≤ 31 ∧ 0 ≤ b ∧ b ≤ 1099511627776 ∧ 0 ≤ s ∧ s ≤ 1099511627776 ∧ 1024 < (n : Int)) ∨ (0 ≤ p ∧ p ≤ 31 ∧ 0 ≤ b ∧ b ≤ 1099511627776 ∧ 0 ≤ s ∧ s ≤ 1099511627776 ∧ (n : Int) ≤ 1024 ∧ 1099511627776 < b + (n : Int)) ∨ (0 ≤ p ∧ p ≤ 31 ∧ 0 ≤ b ∧ b ≤ 1099511627776 ∧ 0 ≤ s ∧ s ≤ 1099511627776 ∧ (n : Int) ≤ 1024 ∧ b + (n : Int) ≤ 1099511627776) := by omega
set_option maxRecDepth 100000 in
set_option maxHeartbeats 4000000 in
theorem refgood_any (h : Hf) (A : Option Addr) (n c : Nat) (w : World) (hk : InH w h A n c) : Calls Try.prog 42 #[h.val (.slice A n c)] w fun e w' => e = .returned (.bool (decide h.Be)) ∧ Below w.heap.size w w' := by
  have HL : Hid (h.o.length = n) := Lib.hid hk.len
  have HR := Lib.hid hk.rd
  have HI := Lib.hid hk.i.o
  obtain ⟨i1, j1⟩ := hk.i.p
  obtain ⟨i2, j2⟩ := hk.i.b
  obtain ⟨i3, j3⟩ := hk.i.s
  have hn := hk.few
  clear hk
  obtain ⟨p, b, o, s⟩ := h
  obtain ⟨t, ht⟩ : ∃ t, t = decide (Hf.Be ⟨p, b, o, s⟩) := ⟨_, rfl⟩
  have HT := Lib.hid ht
  rw [← ht]
  clear ht
  unfold Hf.val
  simp only at HL HR HI i1 j1 i2 j2 i3 j3 ⊢
  have HF : Hid (¬ Head p b s n → t = false) := Lib.hid (fun hd => by rw [HT.out]; exact decide_eq_false (fun hb => hd ((be_head HL.out).1 hb).1))
  rcases head_ways p b s n with h1 | ⟨h1, h2⟩ | ⟨h1, h2, h3⟩ | ⟨h1, h2, h3, h4⟩ | ⟨h1, h2, h3, h4, h5⟩ | ⟨h1, h2, h3, h4, h5, h6⟩ | ⟨h1, h2, h3, h4, h5, h6, h7⟩ | ⟨h1, h2, h3, h4, h5, h6, h7, h8⟩ | ⟨h1, h2, h3, h4, h5, h6, h7, h8⟩
  · obtain rfl := HF.out (fun hd => by obtain ⟨q1, q2, q3, q4, q5, q6, q7⟩ := hd; omega)
    have b1 : decide (p < 0) = true := by simp; omega
    clear HF
    go_enter Try.func42, Try.ntmps42
    go_wp2
    go_ret
    exact ⟨rfl, (Below.refl _ w).alloc (Nat.le_refl _) _⟩
  · obtain rfl := HF.out (fun hd => by obtain ⟨q1, q2, q3, q4, q5, q6, q7⟩ := hd; omega)
    have b1 : decide (p < 0) = false := by simp; omega
    have b2 : decide (31 < p) = true := by simp; omega
    clear HF
    go_enter Try.func42, Try.ntmps42
    go_wp2
    go_ret
    exact ⟨rfl, (Below.refl _ w).alloc (Nat.le_refl _) _⟩
  · obtain rfl := HF.out (fun hd => by obtain ⟨q1, q2, q3, q4, q5, q6, q7⟩ := hd; omega)
    have b1 : decide (p < 0) = false := by simp; omega
    have b2 : decide (31 < p) = false := by simp; omega
    have b3 : decide (b < 0) = true := by simp; omega
    clear HF
    go_enter Try.func42, Try.ntmps42
    go_wp2
    go_ret
    exact ⟨rfl, (Below.refl _ w).alloc (Nat.le_refl _) _⟩
  · obtain rfl := HF.out (fun hd => by obtain ⟨q1, q2, q3, q4, q5, q6, q7⟩ := hd; omega)
    have b1 : decide (p < 0) = false := by simp; omega
    have b2 : decide (31 < p) = false := by simp; omega
    have b3 : decide (b < 0) = false := by simp; omega
    have b4 : decide (1099511627776 < b) = true := by simp; omega
    clear HF
    go_enter Try.func42, Try.ntmps42
    go_wp2
    go_ret
    exact ⟨rfl, (Below.refl _ w).alloc (Nat.le_refl _) _⟩
  · obtain rfl := HF.out (fun hd => by obtain ⟨q1, q2, q3, q4, q5, q6, q7⟩ := hd; omega)
    have b1 : decide (p < 0) = false := by simp; omega
    have b2 : decide (31 < p) = false := by simp; omega
    have b3 : decide (b < 0) = false := by simp; omega
    have b4 : decide (1099511627776 < b) = false := by simp; omega
    have b5 : decide (s < 0) = true := by simp; omega
    clear HF
    go_enter Try.func42, Try.ntmps42
    go_wp2
    go_ret
    exact ⟨rfl, (Below.refl _ w).alloc (Nat.le_refl _) _⟩
  · obtain rfl := HF.out (fun hd => by obtain ⟨q1, q2, q3, q4, q5, q6, q7⟩ := hd; omega)
    have b1 : decide (p < 0) = false := by simp; omega
    have b2 : decide (31 < p) = false := by simp; omega
    have b3 : decide (b < 0) = false := by simp; omega
    have b4 : decide (1099511627776 < b) = false := by simp; omega
    have b5 : decide (s < 0) = false := by simp; omega
    have b6 : decide (1099511627776 < s) = true := by simp; omega
    clear HF
    go_enter Try.func42, Try.ntmps42
    go_wp2
    go_ret
    exact ⟨rfl, (Below.refl _ w).alloc (Nat.le_refl _) _⟩
  · obtain rfl := HF.out (fun hd => by obtain ⟨q1, q2, q3, q4, q5, q6, q7⟩ := hd; omega)
    have b1 : decide (p < 0) = false := by simp; omega
    have b2 : decide (31 < p) = false := by simp; omega
    have b3 : decide (b < 0) = false := by simp; omega
    have b4 : decide (1099511627776 < b) = false := by simp; omega
    have b5 : decide (s < 0) = false := by simp; omega
    have b6 : decide (1099511627776 < s) = false := by simp; omega
    have b7 : decide (1024 < (n : Int)) = true := by simp; omega
    clear HF
    go_enter Try.func42, Try.ntmps42
    go_wp2
    go_ret
    exact ⟨rfl, (Below.refl _ w).alloc (Nat.le_refl _) _⟩
  · obtain rfl := HF.out (fun hd => by obtain ⟨q1, q2, q3, q4, q5, q6, q7⟩ := hd; omega)
    have b1 : decide (p < 0) = false := by simp; omega
    have b2 : decide (31 < p) = false := by simp; omega
    have b3 : decide (b < 0) = false := by simp; omega
    have b4 : decide (1099511627776 < b) = false := by simp; omega
    have b5 : decide (s < 0) = false := by simp; omega
    have b6 : decide (1099511627776 < s) = false := by simp; omega
    have b7 : decide (1024 < (n : Int)) = false := by simp; omega
    have b8 : decide (1099511627776 < b + (n : Int)) = true := by simp; omega
    have hw : IntKind.i64.wrap (b + (n : Int)) = b + (n : Int) := IntWalk.i64_in _ (by omega)
    clear HF
    go_enter Try.func42, Try.ntmps42
    go_wp2
    go_ret
    exact ⟨rfl, (Below.refl _ w).alloc (Nat.le_refl _) _⟩
  · have b1 : decide (p < 0) = false := by simp; omega
    have b2 : decide (31 < p) = false := by simp; omega
    have b3 : decide (b < 0) = false := by simp; omega
    have b4 : decide (1099511627776 < b) = false := by simp; omega
    have b5 : decide (s < 0) = false := by simp; omega
    have b6 : decide (1099511627776 < s) = false := by simp; omega
    have b7 : decide (1024 < (n : Int)) = false := by simp; omega
    have b8 : decide (1099511627776 < b + (n : Int)) = false := by simp; omega
    have hw : IntKind.i64.wrap (b + (n : Int)) = b + (n : Int) := IntWalk.i64_in _ (by omega)
    clear HF
    have HH : Hid (Head p b s n) := Lib.hid ⟨h1, h2, h3, h5, h6, by omega, h8⟩
    go_enter Try.func42, Try.ntmps42
    go_wp2
    go_loopw [4, 51] (fun _ j wr => ∃ (k : Nat), j = .int .i64 k ∧ k ≤ n ∧ allBe (o.take k) ∧ Below w.heap.size w wr) (fun _ j _ => n - (intOf j).toNat)
    case atStart => exact ⟨0, rfl, by omega, fun m hm => by simp at hm, (Below.refl _ w).alloc (Nat.le_refl _) _⟩
    case round =>
      obtain ⟨k, rfl, hk, hal, hb⟩ := hrel
      obtain ⟨w2, rfl⟩ : ∃ w2 : World, w2 = wr := ⟨_, rfl⟩
      have HAl := Lib.hid hal
      have HB := Lib.hid hb
      have hs2 := hb.size
      clear hal hb
      by_cases hlt : k < n
      · obtain ⟨g, off, rfl, hgb, hc⟩ := (HR.out.below HB.out).mgs_ (by omega)
        obtain ⟨r, hr⟩ : ∃ r, o[k]? = some r := ⟨_, List.getElem?_eq_getElem (by have := HL.out; omega)⟩
        obtain ⟨c0, c1, c2, c3, c4⟩ := hc k r hr
        have HRr := Lib.hid hr
        have HV := Lib.hid (fun w => refvalid_any r w (HI.out r (List.mem_of_getElem? hr)))
        have HNo : Hid (¬ r.Be → t = false) := Lib.hid (fun hn => by rw [HT.out]; exact decide_eq_false (fun hb => hn (((be_head HL.out).1 hb).2 r (List.mem_of_getElem? HRr.out))))
        clear hc hr
        obtain ⟨rk, ro, rn, ru, rv⟩ := r
        unfold Mg.val at HV
        simp only at c0 c1 c2 c3 c4 HV
        go_wp2_with fail
        have hb3 : Below w2.heap.size w2 (w2.alloc (.cells #[.int .i64 rk, .int .i64 ro, .int .i64 rn, .int .i64 ru, .int .i64 rv] 45)) := (Below.refl _ _).alloc (Nat.le_refl _) _
        have HB3 := Lib.hid (HB.out.trans (hb3.mono hs2))
        clear hb3
        refine (HV.out _).mono ?_
        rintro e w4 ⟨rfl, hb4⟩
        have HB4 := Lib.hid (HB3.out.trans (hb4.mono HB3.out.size))
        clear hb4
        by_cases hbe : Mg.Be ⟨rk, ro, rn, ru, rv⟩
        · have HAn := Lib.hid (allBe_take HAl.out HRr.out hbe)
          rw [decide_eq_true hbe]
          clear hbe
          go_wp2
          go_roundw
          case rel => exact ⟨k + 1, by go_num, by omega, HAn.out, HB4.out⟩
          case measure => simp [intOf]; omega
        · obtain rfl := HNo.out hbe
          rw [decide_eq_false hbe]
          clear hbe
          go_wp2
          go_ret
          exact ⟨rfl, HB4.out⟩
      · obtain rfl : k = n := by omega
        obtain rfl : t = true := by
          rw [HT.out]
          refine decide_eq_true ((be_head HL.out).2 ⟨HH.out, ?_⟩)
          have := HAl.out
          rwa [List.take_of_length_le (Nat.le_of_eq HL.out)] at this
        go_wp2
        go_ret
        exact ⟨rfl, HB.out⟩
end Go.Proofs.Ytcicpgiljceioaa.Pk

/- The document's answer for trees (fletchref04): Neighbours. -/
namespace Go.Proofs.Ytcicpgiljceioaa.Pk
open Go.RowKit Go.Proofs.Ytcicpgiljceioaa.Gr
set_option linter.unusedVariables false
set_option maxHeartbeats 2000000 in
theorem nbs_any (A : Option Addr) (n c : Nat) (ps : List Int) (v : Int) (w : World) (B : Nat) (hr : Reads w B 1 A n (nms ps)) (hB : B ≤ w.heap.size) (hn : n ≤ 1099511627776) :
    Calls Try.prog 35 #[.slice A n c, .int .i64 v] w fun e w' => ∃ x, e = .returned x ∧ OwnN w' w.heap.size x (nbsI ps v) ∧ Below w.heap.size w w' := by
  have HL := Lib.hid hr.plen
  have HR := Lib.hid hr
  clear hr
  go_enter Try.func35, Try.ntmps35
  by_cases h1 : v < 0
  · have HE : Hid (nbsI ps v = []) := Lib.hid (if_neg (by omega))
    go_wp2
    go_ret
    exact ⟨_, rfl, by rw [HE.out]; exact OwnN.none_ _ _, Below.refl _ _⟩
  · by_cases h2 : v < (n : Int)
    · obtain ⟨m, rfl⟩ : ∃ m : Nat, v = (m : Int) := ⟨v.toNat, by omega⟩
      have hm : m < n := by omega
      have HE : Hid (nbsI ps (m : Int) = nbs ps m n) := Lib.hid (by unfold nbsI; rw [if_pos (by rw [HL.out]; omega), HL.out]; rfl)
      have h2' : ¬ (n : Int) ≤ (m : Int) := by omega
      have HM := Lib.hid hm
      clear h1
      go_wp2
      go_loopw [5, 6] (fun x j wr => ∃ i : Nat, j = .int .i64 i ∧ i ≤ n ∧ OwnN wr w.heap.size x (nbs ps m i) ∧ Below w.heap.size w wr) (fun _ j _ => n - (intOf j).toNat)
      case atStart => exact ⟨0, rfl, by omega, OwnN.none_ _ _, Below.refl _ _⟩
      case round =>
        obtain ⟨i, rfl, hi, hown, hb⟩ := hrel
        obtain ⟨w1, rfl⟩ : ∃ w1 : World, w1 = wr := ⟨_, rfl⟩
        have HO := Lib.hid hown
        have HBw := Lib.hid hb
        clear hown hb
        by_cases hlt : i < n
        · have HS := Lib.hid (nbs_succ ps m i)
          have HLn := Lib.hid (nbs_len ps m i)
          by_cases hne : nearL ps i m = true
          · have HN : Hid (nbs ps m (i + 1) = nbs ps m i ++ [(i : Int)]) := Lib.hid (by rw [HS.out, if_pos hne])
            go_wp2_with (first
              | (go_at_call 60; go_must (refine (near_any A n c ps i m w1 B (HR.out.below (HBw.out.mono hB)) hlt HM.out).mono ?_); rintro e w2 ⟨rfl, rfl⟩; rw [hne])
              | (at_builtin; refine appN w2 (i : Int) _ rfl (.tmp 26) (.tmp 28) rfl w.heap.size _ (nbs ps m i) rfl HO.out w2.heap.size rfl rfl (by have := HLn.out; omega) HBw.out.size ?_; intro v3 w3 hown3 hb3 _; have HO3 := Lib.hid hown3; have HB3 := Lib.hid (HBw.out.trans hb3); clear hown3 hb3))
            go_roundw
            case rel => exact ⟨i + 1, by go_num, by omega, by rw [HN.out]; exact HO3.out, HB3.out⟩
            case measure => simp [intOf]; omega
          · have hne' : nearL ps i m = false := by simpa using hne
            have HN : Hid (nbs ps m (i + 1) = nbs ps m i) := Lib.hid (by rw [HS.out, if_neg hne])
            go_wp2_with (go_at_call 60; go_must (refine (near_any A n c ps i m w1 B (HR.out.below (HBw.out.mono hB)) hlt HM.out).mono ?_); rintro e w2 ⟨rfl, rfl⟩; rw [hne'])
            go_roundw
            case rel => exact ⟨i + 1, by go_num, by omega, by rw [HN.out]; exact HO.out, HBw.out⟩
            case measure => simp [intOf]; omega
        · have HF : Hid (nbsI ps (m : Int) = nbs ps m i) := Lib.hid (by rw [HE.out]; congr 1; omega)
          go_wp2
          go_ret
          exact ⟨_, rfl, by rw [HF.out]; exact HO.out, HBw.out⟩
    · have HE : Hid (nbsI ps v = []) := Lib.hid (if_neg (by rw [HL.out]; omega))
      have h2' : (n : Int) ≤ v := by omega
      go_wp2
      go_ret
      exact ⟨_, rfl, by rw [HE.out]; exact OwnN.none_ _ _, Below.refl _ _⟩
end Go.Proofs.Ytcicpgiljceioaa.Pk
