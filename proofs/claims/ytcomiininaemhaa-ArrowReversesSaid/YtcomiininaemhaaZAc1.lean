/- Package arrow as it landed: Step, has, Toward, Sinks. -/
import Derived.Test.YtcomiininaemhaaZArSpec
namespace Go.Proofs.Ytcomiininaemhaa.Pk
open Go.RowKit Go.Proofs.Ytcomiininaemhaa.Gr
set_option linter.unusedVariables false
theorem stepA : StepA := by
  intro me a f w hm ha hf
  by_cases h : a = me
  · have t1 : (a == me) = true := by simp [h]
    have t2 : Hid ((if a = me then (-1 : Int) else a) = -1) := Lib.hid (if_pos h)
    rw [t2.out]
    clear h t2
    go_enter Try.func11, Try.ntmps11
    go_wp2
    go_ret2
    exact ⟨rfl, Below.refl _ _⟩
  · have t1 : (a == me) = false := by simp [h]
    have t2 : Hid ((if a = me then (-1 : Int) else a) = a) := Lib.hid (if_neg h)
    rw [t2.out]
    clear h t2
    go_enter Try.func11, Try.ntmps11
    go_wp2
    go_ret2
    exact ⟨rfl, Below.refl _ _⟩
def hasZ (n : Nat) (v : Int) : Bool := decide (0 ≤ v ∧ v < (n : Int))
theorem hasA (n : Nat) (v : Int) (w : World) : Calls Try.prog 27 #[.int .i64 (n : Int), .int .i64 v] w fun e w' => e = .returned (.bool (hasZ n v)) ∧ w' = w := by
  go_enter Try.func27, Try.ntmps27
  by_cases h1 : 0 ≤ v
  · by_cases h2 : v < (n : Int)
    · have HE : Hid (hasZ n v = true) := Lib.hid (decide_eq_true ⟨h1, h2⟩)
      go_wp2_with fail
      go_ret
      exact ⟨by rw [HE.out]; rfl, rfl⟩
    · have HE : Hid (hasZ n v = false) := Lib.hid (decide_eq_false (fun h => h2 h.2))
      have HT : Hid (decide (v < (n : Int)) = false) := Lib.hid (decide_eq_false h2)
      have h2' : (n : Int) ≤ v := by omega
      clear h2
      go_wp2_with fail
      go_ret
      refine ⟨?_, rfl⟩
      rw [HE.out, ← HT.out]; rfl
  · have HE : Hid (hasZ n v = false) := Lib.hid (decide_eq_false (fun h => h1 h.1))
    have h1' : v < 0 := by omega
    clear h1
    go_wp2_with fail
    go_ret
    exact ⟨by rw [HE.out]; rfl, rfl⟩
set_option maxHeartbeats 4000000 in
theorem towardZ : TowardZ := by
  intro h w hh
  have HS := Lib.hid (size_nil w)
  have HH := Lib.hid (hasA 0 h w)
  have HE : Hid (hasZ 0 h = false) := Lib.hid (decide_eq_false (by omega))
  rw [HE.out] at HH
  go_enter Try.func13, Try.ntmps13
  go_wp2_with fail
  refine HS.out.mono ?_
  rintro e w2 ⟨rfl, hw⟩
  rw [hw]
  clear hw w2
  go_wp2_with fail
  refine HH.out.mono ?_
  rintro e w2 ⟨rfl, hw⟩
  rw [hw]
  clear hw w2
  go_wp2
  go_ret
  exact ⟨_, rfl, OwnN.none_ _ _, Below.refl _ _⟩
set_option maxHeartbeats 4000000 in
theorem towardA : TowardA := by
  intro T g ps h w hT G hh
  have HT := Lib.hid hT
  have HG := Lib.hid G
  have HS := Lib.hid (size_any T g ps w hT)
  have HH := Lib.hid (hasA ps.length h w)
  obtain ⟨n, hn⟩ : ∃ n, n = ps.length := ⟨_, rfl⟩
  have HN := Lib.hid hn
  have hn32 : n ≤ 32 := by rw [hn]; exact G.few
  rw [← hn] at HS HH
  clear hT hh G hn
  by_cases h1 : 0 ≤ h ∧ h < (n : Int)
  case neg =>
    have HE : Hid (towardI ps h = []) := Lib.hid (if_neg (by rw [← HN.out]; exact h1))
    have HF : Hid (hasZ n h = false) := Lib.hid (decide_eq_false h1)
    rw [HF.out] at HH
    clear h1
    go_enter Try.func13, Try.ntmps13
    go_wp2_with fail
    refine HS.out.mono ?_
    rintro e w2 ⟨rfl, hw⟩
    rw [hw]
    clear hw w2
    go_wp2_with fail
    refine HH.out.mono ?_
    rintro e w2 ⟨rfl, hw⟩
    rw [hw]
    clear hw w2
    go_wp2
    go_ret
    exact ⟨_, rfl, by rw [HE.out]; exact OwnN.none_ _ _, Below.refl _ _⟩
  case pos =>
  have HF : Hid (hasZ n h = true) := Lib.hid (decide_eq_true h1)
  rw [HF.out] at HH
  obtain ⟨s, rfl⟩ : ∃ s : Nat, h = (s : Int) := ⟨h.toNat, by omega⟩
  have HSs : Hid (s < ps.length) := Lib.hid (by rw [← HN.out]; omega)
  have HE : Hid (towardI ps (s : Int) = towardN ps s) := Lib.hid (towardI_nat HSs.out)
  have HLn : Hid ((towardN ps s).length = n) := Lib.hid ((towardN_len s).trans HN.out.symm)
  have HNx := Lib.hid (fun (v : Nat) (hv : v < n) => nextI_nx (ps := ps) (a := v) (b := s) (by rw [← HN.out]; exact hv) HSs.out)
  clear h1
  go_enter Try.func13, Try.ntmps13
  go_wp2_with fail
  refine HS.out.mono ?_
  rintro e w2 ⟨rfl, hw⟩
  rw [hw]
  clear hw w2
  go_wp2_with fail
  refine HH.out.mono ?_
  rintro e w2 ⟨rfl, hw⟩
  rw [hw]
  clear hw w2
  go_wp2_with fail
  refine HS.out.mono ?_
  rintro e w2 ⟨rfl, hw⟩
  rw [hw]
  clear hw w2
  go_wp2
  go_loopw [5, 6, 14] (fun x _ j wr => ∃ i : Nat, j = .int .i64 i ∧ i ≤ n ∧ OwnN wr w.heap.size x ((towardN ps s).take i) ∧ Below w.heap.size w wr) (fun _ _ j _ => n - (intOf j).toNat)
  case atStart => exact ⟨0, rfl, by omega, OwnN.none_ _ _, Below.refl _ _⟩
  case round =>
    obtain ⟨i, rfl, hi, hown, hb⟩ := hrel
    obtain ⟨w1, rfl⟩ : ∃ w1 : World, w1 = wr := ⟨_, rfl⟩
    have HO := Lib.hid hown
    have HBw := Lib.hid hb
    clear hown hb
    by_cases hlt : i < n
    · have HX := Lib.hid (toward_next (ps := ps) (s := s) (k := i) (by rw [← HN.out]; exact hlt))
      have hc := nxt_any T g ps (i : Int) (s : Int) w1 (HT.out.below HBw.out HT.out.lt) HG.out
      rw [HNx.out i hlt] at hc
      have HC := Lib.hid hc
      obtain ⟨y, hy⟩ : ∃ y, y = nx ps i s := ⟨_, rfl⟩
      rw [← hy] at HC HX
      have HTk : Hid (((towardN ps s).take i).length ≤ 32) := Lib.hid (by rw [List.length_take]; omega)
      clear hc hy
      go_wp2_with fail
      refine HC.out.mono ?_
      rintro e w2 ⟨rfl, hw⟩
      rw [hw]
      clear hw w2
      go_wp2_with (at_builtin; refine appN w1 (y : Int) _ rfl (.tmp 17) (.tmp 22) rfl w.heap.size _ ((towardN ps s).take i) rfl HO.out w1.heap.size rfl rfl (by have := HTk.out; omega) HBw.out.size ?_; intro v3 w3 hown3 hb3 _; have HO3 := Lib.hid hown3; have HB3 := Lib.hid (HBw.out.trans hb3); clear hown3 hb3)
      go_roundw
      case rel => exact ⟨i + 1, by go_num, by omega, by rw [HX.out]; exact HO3.out, HB3.out⟩
      case measure => simp [intOf]; omega
    · have HFl : Hid ((towardN ps s).take i = towardN ps s) := Lib.hid (List.take_of_length_le (by rw [HLn.out]; omega))
      rw [HFl.out] at HO
      go_wp2
      go_ret
      exact ⟨_, rfl, by rw [HE.out]; exact HO.out, HBw.out⟩
/-- The sinks so far. -/
def sinkTo (ar : List Int) (k : Nat) : List Int := ((List.range k).filter fun v => decide (Gr.at_ ar v = (v : Int))).map fun v => ((v : Nat) : Int)
theorem sinkTo_succ (ar : List Int) (k : Nat) : sinkTo ar (k + 1) = if Gr.at_ ar k = (k : Int) then sinkTo ar k ++ [(k : Int)] else sinkTo ar k := by
  unfold sinkTo
  rw [List.range_succ, List.filter_append, List.map_append]
  by_cases h : Gr.at_ ar k = (k : Int)
  · rw [if_pos h]; simp [h]
  · rw [if_neg h]; simp [h]
theorem sinkTo_len (ar : List Int) (k : Nat) : (sinkTo ar k).length ≤ k := by
  unfold sinkTo
  rw [List.length_map]
  exact Nat.le_trans (List.length_filter_le _ _) (by simp)
set_option maxHeartbeats 4000000 in
theorem sinksA : SinksA := by
  intro A n c ar w hin
  have HI := Lib.hid hin
  have hn := hin.few
  have HL := Lib.hid hin.len
  clear hin
  go_enter Try.func17, Try.ntmps17
  go_wp2
  go_loopw [3, 4, 5, 8] (fun x _ _ j wr => ∃ i : Nat, j = .int .i64 i ∧ i ≤ n ∧ OwnN wr w.heap.size x (sinkTo ar i) ∧ Below w.heap.size w wr) (fun _ _ _ j _ => n - (intOf j).toNat)
  case atStart => exact ⟨0, rfl, by omega, OwnN.none_ _ _, Below.refl _ _⟩
  case round =>
    obtain ⟨i, rfl, hi, hown, hb⟩ := hrel
    obtain ⟨w1, rfl⟩ : ∃ w1 : World, w1 = wr := ⟨_, rfl⟩
    have HO := Lib.hid hown
    have HBw := Lib.hid hb
    clear hown hb
    by_cases hlt : i < n
    · obtain ⟨b, off, rfl, _, hc⟩ := (HI.out.next HBw.out).rd.arr (by omega)
      have cx := hc i hlt
      obtain ⟨x, hxe⟩ : ∃ x, x = Gr.at_ ar i := ⟨_, rfl⟩
      rw [← hxe] at cx
      have HX := Lib.hid (sinkTo_succ ar i)
      rw [← hxe] at HX
      have HTk := Lib.hid (sinkTo_len ar i)
      clear hc hxe
      by_cases g : x = (i : Int)
      · have t1 : (x == (i : Int)) = true := by simp [g]
        rw [if_pos g] at HX
        clear g
        go_wp2_with (at_builtin; refine appN w1 (i : Int) _ rfl (.tmp 16) (.tmp 18) rfl w.heap.size _ (sinkTo ar i) rfl HO.out w1.heap.size rfl rfl (by have := HTk.out; omega) HBw.out.size ?_; intro v3 w3 hown3 hb3 _; have HO3 := Lib.hid hown3; have HB3 := Lib.hid (HBw.out.trans hb3); clear hown3 hb3)
        go_roundw
        case rel => exact ⟨i + 1, by go_num, by omega, by rw [HX.out]; exact HO3.out, HB3.out⟩
        case measure => simp [intOf]; omega
      · have t1 : (x == (i : Int)) = false := by simp [g]
        rw [if_neg g] at HX
        clear g
        go_wp2
        go_roundw
        case rel => exact ⟨i + 1, by go_num, by omega, by rw [HX.out]; exact HO.out, HBw.out⟩
        case measure => simp [intOf]; omega
    · have HFl : Hid (sinkTo ar i = sinksI ar) := Lib.hid (by
        have : i = ar.length := by rw [HL.out]; omega
        subst this
        rfl)
      rw [HFl.out] at HO
      go_wp2
      go_ret
      exact ⟨_, rfl, HO.out, HBw.out⟩
end Go.Proofs.Ytcomiininaemhaa.Pk
