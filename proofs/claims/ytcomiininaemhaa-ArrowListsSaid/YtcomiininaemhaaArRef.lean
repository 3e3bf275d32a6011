/- The document's answer for arrows (fletchref12): Toward, Legal. -/
import Derived.Test.YtcomiininaemhaaArList
import Derived.Test.YtcomiininaemhaaNums
namespace Go.Proofs.Ytcomiininaemhaa.Pk
open Go.RowKit Go.Proofs.Ytcomiininaemhaa.Gr
set_option linter.unusedVariables false
/-- Numbers as they lie. -/
def Ints (l : List Int) : Prop := ∀ x ∈ l, -9223372036854775808 ≤ x ∧ x ≤ 9223372036854775807
theorem at_in {l : List Int} {v : Nat} (h : v < l.length) : at_ l v ∈ l := by
  unfold at_
  rw [List.getD_eq_getElem?_getD, List.getElem?_eq_getElem h]
  exact List.getElem_mem h
theorem at_get {l : List Int} {v : Nat} (h : v < l.length) : l.getD v 0 = at_ l v := by
  unfold at_
  rw [List.getD_eq_getElem?_getD, List.getD_eq_getElem?_getD, List.getElem?_eq_getElem h]
  rfl
theorem Reads.arr {w : World} {B : Nat} {A : Option Addr} {n : Nat} {l : List Int} (h : Reads w B 1 A n (nms l)) (hn : 0 < n) :
    ∃ b off, A = some ⟨b, off, none⟩ ∧ b < B ∧ ∀ v, v < n → w.cell? ⟨b, off + v, none⟩ = some (.int .i64 (Gr.at_ l v)) := by
  obtain ⟨b, off, e, hb, hc⟩ := h.i64 hn
  have hl := h.plen
  exact ⟨b, off, e, hb, fun v hv => by rw [hc v hv, at_get (by omega)]⟩
theorem toward_next {ps : List Int} {s k : Nat} (hk : k < ps.length) : (towardN ps s).take (k + 1) = (towardN ps s).take k ++ [((nx ps k s : Nat) : Int)] := by
  have hl := towardN_len (ps := ps) s
  rw [List.take_succ_eq_append_getElem (by omega)]
  congr 2
  have h1 := towardN_at (ps := ps) (s := s) hk
  unfold Gr.at_ at h1
  rw [List.getD_eq_getElem?_getD, List.getElem?_eq_getElem (by omega)] at h1
  exact h1
set_option maxHeartbeats 4000000 in
theorem reftoward_any (A : Option Addr) (n c : Nat) (ps : List Int) (h : Int) (w : World) (B : Nat) (hr : Reads w B 1 A n (nms ps)) (hB : B ≤ w.heap.size) (G : Gr.Good ps) (hh : -9223372036854775808 ≤ h ∧ h ≤ 9223372036854775807) :
    Calls Try.prog 19 #[.slice A n c, .int .i64 h] w fun e w' => ∃ v, e = .returned v ∧ OwnN w' w.heap.size v (towardI ps h) ∧ Below w.heap.size w w' := by
  have HL := Lib.hid hr.plen
  have HR := Lib.hid hr
  have hn : n ≤ 32 := by rw [← HL.out]; exact G.few
  clear hr
  by_cases h1 : h < 0
  · have HE : Hid (towardI ps h = []) := Lib.hid (if_neg (by omega))
    have t1 : decide (h < 0) = true := decide_eq_true h1
    go_enter Try.func19, Try.ntmps19
    go_wp2
    go_ret
    exact ⟨_, rfl, by rw [HE.out]; exact OwnN.none_ _ _, Below.refl _ _⟩
  by_cases h2 : h < (n : Int)
  case neg =>
    have HE : Hid (towardI ps h = []) := Lib.hid (if_neg (by rw [HL.out]; omega))
    have t1 : decide (h < 0) = false := decide_eq_false h1
    have t2 : decide ((n : Int) ≤ h) = true := decide_eq_true (by omega)
    go_enter Try.func19, Try.ntmps19
    go_wp2
    go_ret
    exact ⟨_, rfl, by rw [HE.out]; exact OwnN.none_ _ _, Below.refl _ _⟩
  case pos =>
  obtain ⟨s, rfl⟩ : ∃ s : Nat, h = (s : Int) := ⟨h.toNat, by omega⟩
  have HS : Hid (s < ps.length) := Lib.hid (by rw [HL.out]; omega)
  have HE : Hid (towardI ps (s : Int) = towardN ps s) := Lib.hid (towardI_nat HS.out)
  have HLn : Hid ((towardN ps s).length = n) := Lib.hid ((towardN_len s).trans HL.out)
  have hsn : s < n := by omega
  have t1 : decide ((s : Int) < 0) = false := decide_eq_false h1
  have t2 : decide (n ≤ s) = false := decide_eq_false (by omega)
  have HN := Lib.hid (fun (v : Nat) (hv : v < n) => nextI_nx (ps := ps) (a := v) (b := s) (by rw [HL.out]; exact hv) HS.out)
  clear h1 h2
  go_enter Try.func19, Try.ntmps19
  go_wp2
  go_loopw [5, 6, 18] (fun x _ j wr => ∃ i : Nat, j = .int .i64 i ∧ i ≤ n ∧ OwnN wr w.heap.size x ((towardN ps s).take i) ∧ Below w.heap.size w wr) (fun _ _ j _ => n - (intOf j).toNat)
  case atStart => exact ⟨0, rfl, by omega, OwnN.none_ _ _, Below.refl _ _⟩
  case round =>
    obtain ⟨i, rfl, hi, hown, hb⟩ := hrel
    obtain ⟨w1, rfl⟩ : ∃ w1 : World, w1 = wr := ⟨_, rfl⟩
    have HO := Lib.hid hown
    have HBw := Lib.hid hb
    clear hown hb
    by_cases hlt : i < n
    · have HNx := Lib.hid (toward_next (ps := ps) (s := s) (k := i) (by rw [HL.out]; exact hlt))
      have hc := next_any A n c ps (i : Int) (s : Int) w1 B (HR.out.below (HBw.out.mono hB)) (Nat.le_trans hB HBw.out.size) G
      rw [HN.out i hlt] at hc
      have HC := Lib.hid hc
      obtain ⟨y, hy⟩ : ∃ y, y = nx ps i s := ⟨_, rfl⟩
      rw [← hy] at HC HNx
      have HTk : Hid (((towardN ps s).take i).length ≤ 32) := Lib.hid (by rw [List.length_take]; omega)
      clear hc hy
      go_wp2_with fail
      refine HC.out.mono ?_
      rintro e w2 ⟨rfl, hb2⟩
      have HO2 := Lib.hid (HO.out.below hb2)
      have HB2 := Lib.hid (HBw.out.trans (hb2.mono HBw.out.size))
      clear hb2
      go_wp2_with (at_builtin; refine appN w2 (y : Int) _ rfl (.tmp 21) (.tmp 26) rfl w.heap.size _ ((towardN ps s).take i) rfl HO2.out w2.heap.size rfl rfl (by have := HTk.out; omega) HB2.out.size ?_; intro v3 w3 hown3 hb3 _; have HO3 := Lib.hid hown3; have HB3 := Lib.hid (HB2.out.trans hb3); clear hown3 hb3)
      go_roundw
      case rel => exact ⟨i + 1, by go_num, by omega, by rw [HNx.out]; exact HO3.out, HB3.out⟩
      case measure => simp [intOf]; omega
    · have HF : Hid ((towardN ps s).take i = towardN ps s) := Lib.hid (List.take_of_length_le (by rw [HLn.out]; omega))
      rw [HF.out] at HO
      go_wp2
      go_ret
      exact ⟨_, rfl, by rw [HE.out]; exact HO.out, HBw.out⟩
/-- Legal so far. -/
def LegalTo (ps ar : List Int) (k : Nat) : Prop := ∀ v, v < k → 0 ≤ Gr.at_ ar v ∧ Gr.at_ ar v < (ps.length : Int) ∧ (Gr.at_ ar v = (v : Int) ∨ nearL ps v (Gr.at_ ar v).toNat = true)
theorem LegalTo.next {ps ar : List Int} {k : Nat} (h : LegalTo ps ar k) (hk : 0 ≤ Gr.at_ ar k ∧ Gr.at_ ar k < (ps.length : Int) ∧ (Gr.at_ ar k = (k : Int) ∨ nearL ps k (Gr.at_ ar k).toNat = true)) : LegalTo ps ar (k + 1) := by
  intro v hv
  by_cases e : v = k
  · rw [e]; exact hk
  · exact h v (by omega)
set_option maxHeartbeats 4000000 in
theorem reflegal_any (A : Option Addr) (n c : Nat) (ps : List Int) (A' : Option Addr) (n' c' : Nat) (ar : List Int) (w : World) (B : Nat) (hr : Reads w B 1 A n (nms ps)) (hr' : Reads w B 1 A' n' (nms ar)) (hn : n ≤ 32) (hn' : n' ≤ 17592186044416) (hi : Ints ar) :
    Calls Try.prog 20 #[.slice A n c, .slice A' n' c'] w fun e w' => e = .returned (.bool (decide (LegalL ps ar))) ∧ w' = w := by
  obtain ⟨r, hr9⟩ : ∃ r, r = decide (LegalL ps ar) := ⟨_, rfl⟩
  rw [← hr9]
  have HF : Hid (¬ LegalL ps ar → r = false) := Lib.hid (fun h => by rw [hr9]; exact decide_eq_false h)
  have HT : Hid (LegalL ps ar → r = true) := Lib.hid (fun h => by rw [hr9]; exact decide_eq_true h)
  clear hr9
  have HL := Lib.hid hr.plen
  have HL' := Lib.hid hr'.plen
  have HR := Lib.hid hr
  have HR' := Lib.hid hr'
  have HI := Lib.hid hi
  clear hr hr' hi
  by_cases h1 : n' = n
  case neg =>
    have t1 : ((n' : Int) == (n : Int)) = false := by simp; omega
    have hrf : r = false := HF.out (fun h => h1 (by have := h.1; rw [HL.out, HL'.out] at this; exact this))
    clear h1
    go_enter Try.func20, Try.ntmps20
    go_wp2
    go_ret
    exact ⟨by first | rfl | (rw [hrf]; rfl), rfl⟩
  case pos =>
  subst h1
  go_enter Try.func20, Try.ntmps20
  go_wp2
  go_loop [5, 6, 14] (fun _ _ j => ∃ i : Nat, j = .int .i64 i ∧ i ≤ n' ∧ LegalTo ps ar i) (fun _ _ j => n' - (intOf j).toNat)
  case atStart => exact ⟨0, rfl, by omega, fun v hv => by omega⟩
  case round =>
    obtain ⟨i, rfl, hi, hle⟩ := hrel
    have HLe := Lib.hid hle
    clear hle
    by_cases hlt : i < n'
    · obtain ⟨b, off, rfl, _, hc⟩ := HR'.out.arr (by omega)
      have cx := hc i hlt
      have hx := HI.out _ (at_in (l := ar) (v := i) (by rw [HL'.out]; exact hlt))
      obtain ⟨x, hxe⟩ : ∃ x, x = Gr.at_ ar i := ⟨_, rfl⟩
      rw [← hxe] at cx hx
      have HXe := Lib.hid hxe
      clear hc hxe
      by_cases g1 : x < 0
      · have t1 : decide (x < 0) = true := decide_eq_true g1
        have hrf : r = false := HF.out (fun h => by have := (h.2 i (by rw [HL.out]; exact hlt)).1; rw [← HXe.out] at this; omega)
        clear g1
        go_wp2
        go_ret
        exact ⟨by first | rfl | (rw [hrf]; rfl), rfl⟩
      have t1 : decide (x < 0) = false := decide_eq_false g1
      by_cases g2 : (n' : Int) ≤ x
      · have t2 : decide ((n' : Int) ≤ x) = true := decide_eq_true g2
        have hrf : r = false := HF.out (fun h => by have := (h.2 i (by rw [HL.out]; exact hlt)).2.1; rw [← HXe.out, HL.out] at this; omega)
        clear g1 g2
        go_wp2
        go_ret
        exact ⟨by first | rfl | (rw [hrf]; rfl), rfl⟩
      have t2 : decide ((n' : Int) ≤ x) = false := decide_eq_false g2
      by_cases g3 : x = (i : Int)
      · subst g3
        have HNx := Lib.hid (HLe.out.next (by rw [← HXe.out]; exact ⟨by omega, by rw [HL.out]; omega, .inl rfl⟩))
        clear g1 g2
        go_wp2
        go_round
        case rel => exact ⟨i + 1, by go_num, by omega, HNx.out⟩
        case measure => simp [intOf]; omega
      have t3 : (x == (i : Int)) = false := by simpa using g3
      obtain ⟨y, rfl⟩ : ∃ y : Nat, x = (y : Int) := ⟨x.toNat, by omega⟩
      have hyn : y < n' := by omega
      have hyi : ¬ (y = i) := by omega
      have t4 : ((y : Int) != (i : Int)) = true := by simp; omega
      have HNr := Lib.hid (near_any A n' c ps i y w B HR.out hlt hyn)
      by_cases g4 : nearL ps i y = true
      · have HNx := Lib.hid (HLe.out.next (by rw [← HXe.out]; exact ⟨by omega, by rw [HL.out]; omega, .inr (by simpa using g4)⟩))
        rw [g4] at HNr
        clear g1 g2 g3 g4
        go_wp2_with fail
        refine HNr.out.mono ?_
        rintro e w2 ⟨rfl, hw⟩
        rw [hw]
        clear hw w2
        go_wp2
        go_round
        case rel => exact ⟨i + 1, by go_num, by omega, HNx.out⟩
        case measure => simp [intOf]; omega
      · have hrf : r = false := HF.out (fun h => by
          have h3 := (h.2 i (by rw [HL.out]; exact hlt)).2.2
          rw [← HXe.out] at h3
          rcases h3 with h3 | h3
          · exact g3 h3
          · exact g4 (by simpa using h3))
        have g5 : nearL ps i y = false := by simpa using g4
        rw [g5] at HNr
        clear g1 g2 g3 g4 g5
        go_wp2_with fail
        refine HNr.out.mono ?_
        rintro e w2 ⟨rfl, hw⟩
        rw [hw]
        clear hw w2
        go_wp2
        go_ret
        exact ⟨by first | rfl | (rw [hrf]; rfl), rfl⟩
    · have hrt : r = true := HT.out ⟨by rw [HL.out, HL'.out], fun v hv => HLe.out v (by rw [HL.out] at hv; omega)⟩
      go_wp2
      go_ret
      exact ⟨by first | rfl | (rw [hrt]; rfl), rfl⟩
end Go.Proofs.Ytcomiininaemhaa.Pk
