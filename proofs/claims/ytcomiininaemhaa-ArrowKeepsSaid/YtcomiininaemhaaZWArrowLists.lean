/- The walk of the law ArrowLists. -/
import Derived.Test.YtcomiininaemhaaZWArrowRuns
namespace Go.Proofs.Ytcomiininaemhaa.Gr
set_option linter.unusedVariables false
def sinksUp (ar : List Int) (k : Nat) : List Int := ((List.range k).filter fun v => decide (at_ ar v = (v : Int))).map fun v => ((v : Nat) : Int)
theorem sinksUp_succ (ar : List Int) (k : Nat) : sinksUp ar (k + 1) = if at_ ar k = (k : Int) then sinksUp ar k ++ [(k : Int)] else sinksUp ar k := by
  unfold sinksUp
  rw [List.range_succ, List.filter_append, List.map_append]
  by_cases h : at_ ar k = (k : Int)
  · rw [if_pos h]; simp [h]
  · rw [if_neg h]; simp [h]
theorem sinksUp_all (ar : List Int) : sinksUp ar ar.length = sinksI ar := rfl
theorem sinksUp_le (ar : List Int) (k : Nat) : (sinksUp ar k).length ≤ k := by
  unfold sinksUp
  rw [List.length_map]
  exact Nat.le_trans (List.length_filter_le _ _) (by simp)
theorem towardI_len {ps : List Int} (G : Good ps) (h : Int) : (towardI ps h).length ≤ 32 := by
  unfold towardI
  split
  · rw [towardN_len]; exact G.few
  · simp
end Go.Proofs.Ytcomiininaemhaa.Gr
namespace Go.Proofs.Ytcomiininaemhaa.Pk
open Go.RowKit Go.Shelf Go.Proofs.Ytcomiininaemhaa.Gr Go.Proofs.Ytcomiininaemhaa.Ar
set_option linter.unusedVariables false
theorem OwnN.rd_ {w : World} {B n c : Nat} {A : Option Addr} {l : List Int} (h : OwnN w B (.slice A n c) l) : n = l.length ∧ Reads w w.heap.size 1 A l.length (nms l) := by
  obtain ⟨A', c', e, _, hr⟩ := h.reads
  injection e with e1 e2 e3
  subst e1
  exact ⟨e2, hr⟩
theorem OwnN.sl {w : World} {B : Nat} {v : Value} {l : List Int} (h : OwnN w B v l) : ∃ A c, v = .slice A l.length c := by
  obtain ⟨A, c, e, _, _⟩ := h.reads
  exact ⟨A, c, e⟩
set_option maxRecDepth 100000 in
set_option maxHeartbeats 8000000 in
theorem law_ArrowLists (HTo : TowardA) (HTz : TowardZ) (HLe : LegalA) (HLz : LegalZ) (HQu : QuietA) (HQz : QuietZ) (HSi : SinksA) (HRu : RunA) (A : Option Addr) (n c : Nat) (ps : List Int) (A' : Option Addr) (n' c' : Nat) (ar : List Int) (f : Int) (w : World) (hk : ArgN w A n c ps) (hk' : ArgN w A' n' c' ar) (hf : -9223372036854775808 ≤ f ∧ f ≤ 9223372036854775807) :
    Calls Try.prog 4 #[.slice A n c, .slice A' n' c', .int .i64 f] w fun e w' => e = .returned (.bool true) ∧ Below w.heap.size w w' := by
  have HW := Lib.hid (fun w => wakes_any HRu w)
  have HIn := Lib.hid (argN_inA hk')
  have HRd := Lib.hid hk.1
  have hn : n ≤ 4611686018427387904 := by have h1 := hk.2.1; have h2 := hk.2.2.1; omega
  have hn' : n' ≤ 17592186044416 := HIn.out.few
  have HTo := Lib.hid HTo
  have HTz := Lib.hid HTz
  have HLe := Lib.hid HLe
  have HLz := Lib.hid HLz
  have HQu := Lib.hid HQu
  have HQz := Lib.hid HQz
  have HSi := Lib.hid HSi
  have HF := Lib.hid hf
  have HL' := Lib.hid HIn.out.len
  clear hk hk' HRu
  go_enter Try.func4, Try.ntmps4
  go_wp2_with fail
  refine (HW.out w).mono ?_
  rintro e w1 ⟨rfl, hb1⟩
  have HB1 := Lib.hid hb1
  clear hb1 HW
  go_wp2_with fail
  refine (HTz.out f w1 HF.out).mono ?_
  rintro e w2 ⟨v, rfl, ho, hb2⟩
  obtain ⟨A2, c2, rfl⟩ := ho.sl
  have HB2 := Lib.hid (HB1.out.trans (hb2.mono HB1.out.size))
  clear ho hb2 HB1
  go_wp2_with fail
  refine (HLz.out A' n' c' ar w2 (HIn.out.next HB2.out)).mono ?_
  rintro e w3 ⟨rfl, hb3⟩
  have HB3 := Lib.hid (HB2.out.trans (hb3.mono HB2.out.size))
  clear hb3 HB2
  go_wp2_with fail
  refine (HQz.out A' n' c' ar w3 (HIn.out.next HB3.out)).mono ?_
  rintro e w4 ⟨rfl, hb4⟩
  have HB4 := Lib.hid (HB3.out.trans (hb4.mono HB3.out.size))
  clear hb4 HB3 HTz HLz HQz
  go_wp2
  go_loopw [8, 9, 10, 32] (fun x _ _ j wr => ∃ i : Nat, j = .int .i64 i ∧ i ≤ n' ∧ OwnN wr w.heap.size x (sinksUp ar i) ∧ Below w.heap.size w wr) (fun _ _ _ j _ => n' - (intOf j).toNat)
  case atStart => exact ⟨0, rfl, by omega, OwnN.none_ _ _, HB4.out⟩
  case round =>
    obtain ⟨i, rfl, hi, hown, hbel⟩ := hrel
    obtain ⟨w5, rfl⟩ : ∃ w5 : World, w5 = wr := ⟨_, rfl⟩
    have HO := Lib.hid hown
    have HB5 := Lib.hid hbel
    clear hown hbel
    have HS := Lib.hid (sinksUp_succ ar i)
    have HSl := Lib.hid (sinksUp_le ar i)
    by_cases hlt : i < n'
    · obtain ⟨b, off, rfl, _, hc⟩ := (HIn.out.rd.below HB5.out).arr (by omega)
      have cx := hc i hlt
      obtain ⟨x, hx⟩ : ∃ x, x = Gr.at_ ar i := ⟨_, rfl⟩
      rw [← hx] at cx HS
      clear hc hx
      by_cases hxi : x = (i : Int)
      · rw [if_pos hxi] at HS
        subst hxi
        go_wp2_with (at_builtin; refine appN w5 (i : Int) _ rfl (.tmp 40) (.tmp 42) rfl w.heap.size _ (sinksUp ar i) rfl HO.out w5.heap.size rfl rfl (by have := HSl.out; omega) HB5.out.size ?_; intro v6 w6 hown6 hb6 _; have HO6 := Lib.hid hown6; have HB6 := Lib.hid (HB5.out.trans hb6); clear hown6 hb6)
        go_roundw
        case rel => exact ⟨i + 1, by go_num, by omega, by rw [HS.out]; exact HO6.out, HB6.out⟩
        case measure => simp [intOf]; omega
      · rw [if_neg hxi] at HS
        have t1 : (x == (i : Int)) = false := by simpa using hxi
        clear hxi
        go_wp2
        go_roundw
        case rel => exact ⟨i + 1, by go_num, by omega, by rw [HS.out]; exact HO.out, HB5.out⟩
        case measure => simp [intOf]; omega
    · have HE : Hid (sinksUp ar i = sinksI ar) := Lib.hid (by rw [← sinksUp_all, HL'.out]; congr 1; omega)
      rw [HE.out] at HO
      obtain ⟨A5, c5, rfl⟩ := HO.out.sl
      have HSn : Hid ((sinksI ar).length ≤ n') := Lib.hid (by rw [← HE.out]; have := HSl.out; omega)
      clear HS HSl HE
      go_wp2_with fail
      refine (HSi.out A' n' c' ar w5 (HIn.out.next HB5.out)).mono ?_
      rintro e w6 ⟨v6, rfl, ho6, hb6⟩
      obtain ⟨A6, c6, rfl⟩ := ho6.sl
      have HB6 := Lib.hid (HB5.out.trans (hb6.mono HB5.out.size))
      have HSm := Lib.hid (same_refl A6 A5 (sinksI ar).length c6 (sinksI ar).length c5 (sinksI ar) w6 w6.heap.size w6.heap.size ho6.rd_.2 (HO.out.below hb6).rd_.2 (by have := HSn.out; omega))
      clear ho6 hb6
      go_wp2_with fail
      refine HSm.out.mono ?_
      rintro e w7 ⟨rfl, k, hw⟩
      rw [hw]
      clear hw w7 HSm
      have HB7 := Lib.hid (below_drewA HB6.out k)
      have HN := Lib.hid (new_any A n c ps (w6.drewN k) w.heap.size (HRd.out.below HB7.out) HB7.out.size hn)
      clear hlt hi
      go_wp2_with fail
      refine HN.out.mono ?_
      rintro e w8 ⟨hb8, ⟨T, g, rfl, hch, ht, hT, hg, hTg⟩ | ⟨p, er, rfl, hch, her⟩⟩
      · have G := hch.good.1
        have HB8 := Lib.hid (HB7.out.trans (hb8.mono HB7.out.size))
        have HT := Lib.hid ht
        have HG := Lib.hid G
        have HTl := Lib.hid (towardI_len G f)
        clear hb8 ht hch hT hg hTg HN G HB5 HB6 HB7 HO
        go_wp2_with fail
        refine (HTo.out T g ps f w8 HT.out HG.out HF.out).mono ?_
        rintro e w9 ⟨v9, rfl, ho9, hb9⟩
        obtain ⟨A9, c9, rfl⟩ := ho9.sl
        have HO9 := Lib.hid ho9
        have HB9 := Lib.hid (HB8.out.trans (hb9.mono HB8.out.size))
        have HT9 := Lib.hid (HT.out.below_ hb9)
        clear ho9 hb9
        have HD := Lib.hid (reftoward_any A n c ps f w9 w.heap.size (HRd.out.below HB9.out) HB9.out.size HG.out HF.out)
        go_wp2_with fail
        refine HD.out.mono ?_
        rintro e w10 ⟨v10, rfl, ho10, hb10⟩
        obtain ⟨A10, c10, rfl⟩ := ho10.sl
        have HB10 := Lib.hid (HB9.out.trans (hb10.mono HB9.out.size))
        have HT10 := Lib.hid (HT9.out.below_ hb10)
        have HSm := Lib.hid (same_refl A9 A10 (towardI ps f).length c9 (towardI ps f).length c10 (towardI ps f) w10 w10.heap.size w10.heap.size (HO9.out.below hb10).rd_.2 ho10.rd_.2 (by have := HTl.out; omega))
        clear ho10 hb10 HD
        go_wp2_with fail
        refine HSm.out.mono ?_
        rintro e w11 ⟨rfl, k2, hw⟩
        rw [hw]
        clear hw w11 HSm
        have HB11 := Lib.hid (below_drewA HB10.out k2)
        have HT11 := Lib.hid (HT10.out.drewN k2)
        have hc := HLe.out T g ps A' n' c' ar (w10.drewN k2) HT11.out HG.out (HIn.out.next HB11.out)
        obtain ⟨l9, hl9⟩ : ∃ l9, l9 = decide (LegalL ps ar) := ⟨_, rfl⟩
        rw [← hl9] at hc
        have HC := Lib.hid hc
        clear hc
        go_wp2_with fail
        refine HC.out.mono ?_
        rintro e w12 ⟨rfl, hb12⟩
        have HB12 := Lib.hid (HB11.out.trans (hb12.mono HB11.out.size))
        have HT12 := Lib.hid (HT11.out.below_ hb12)
        clear hb12 HC
        have hc := reflegal_any A n c ps A' n' c' ar w12 w.heap.size (HRd.out.below HB12.out) (HIn.out.rd.below HB12.out) (by have h1 := HG.out.few; have h2 := HRd.out.plen; omega) hn' HIn.out.i
        rw [← hl9] at hc
        have HC := Lib.hid hc
        clear hc hl9
        go_wp2_with fail
        refine HC.out.mono ?_
        rintro e w13 ⟨rfl, hw⟩
        rw [hw]
        clear hw w13 HC
        have hc := HQu.out T g ps A' n' c' ar w12 HT12.out HG.out (HIn.out.next HB12.out)
        obtain ⟨q9, hq9⟩ : ∃ q9, q9 = decide (QuietL ps ar) := ⟨_, rfl⟩
        rw [← hq9] at hc
        have HC := Lib.hid hc
        clear hc
        go_wp2_with fail
        refine HC.out.mono ?_
        rintro e w14 ⟨rfl, hb14⟩
        have HB14 := Lib.hid (HB12.out.trans (hb14.mono HB12.out.size))
        clear hb14 HC
        have hc := refquiet_any A n c ps A' n' c' ar w14 w.heap.size (HRd.out.below HB14.out) (HIn.out.rd.below HB14.out) HB14.out.size (by have h1 := HG.out.few; have h2 := HRd.out.plen; omega) hn' HIn.out.i
        rw [← hq9] at hc
        have HC := Lib.hid hc
        clear hc hq9
        go_wp2_with fail
        refine HC.out.mono ?_
        rintro e w15 ⟨rfl, hb15⟩
        have HB15 := Lib.hid (HB14.out.trans (hb15.mono HB14.out.size))
        clear hb15 HC
        go_wp2
        go_ret
        exact ⟨rfl, HB15.out⟩
      · have t1 : (er == 0) = false := by simpa using her
        have t2 : (er != 0) = true := by simpa using her
        have HB8 := Lib.hid (HB7.out.trans (hb8.mono HB7.out.size))
        have her9 := hch.code
        clear hb8 hch her
        go_wp2
        go_ret
        exact ⟨rfl, HB8.out⟩
end Go.Proofs.Ytcomiininaemhaa.Pk
