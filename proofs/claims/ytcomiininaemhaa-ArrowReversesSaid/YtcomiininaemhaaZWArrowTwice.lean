/- The walk of the law ArrowTwice. -/
import Derived.Test.YtcomiininaemhaaZWArrowLists
namespace Go.Proofs.Ytcomiininaemhaa.Pk
open Go.RowKit Go.Shelf Go.Proofs.Ytcomiininaemhaa.Gr Go.Proofs.Ytcomiininaemhaa.Ar
set_option linter.unusedVariables false
theorem toward_ints {ps : List Int} (G : Gr.Good ps) {s : Nat} (hs : s < ps.length) : Ints (towardN ps s) := by
  intro x hx
  obtain ⟨v, hv, rfl⟩ := List.mem_map.1 hx
  have h1 := G.nx_is.lt v s (List.mem_range.1 hv) hs
  have h2 := G.few
  omega
theorem inA_own {w : World} {B : Nat} {v : Value} {l : List Int} (h : OwnN w B v l) (hi : Ints l) (hl : l.length ≤ 32) : ∃ A c, v = .slice A l.length c ∧ ∀ w', Below w.heap.size w w' → InA w' l A l.length c := by
  obtain ⟨A, c, e, hc, hr⟩ := h.reads
  exact ⟨A, c, e, fun w' hb => ⟨(hr.below hb).more hb.size, hc, by omega, hi⟩⟩
set_option maxRecDepth 100000 in
set_option maxHeartbeats 8000000 in
theorem law_ArrowTwice (HTo : TowardA) (HRu : RunA) (A : Option Addr) (n c : Nat) (ps : List Int) (f e0 e1 : Int) (w : World) (hk : ArgN w A n c ps) (hf : -9223372036854775808 ≤ f ∧ f ≤ 9223372036854775807) (h0 : -9223372036854775808 ≤ e0 ∧ e0 ≤ 9223372036854775807) (h1 : -9223372036854775808 ≤ e1 ∧ e1 ≤ 9223372036854775807) :
    Calls Try.prog 10 #[.slice A n c, .int .i64 f, .agg #[.int .i64 e0, .int .i64 e1]] w fun e w' => e = .returned (.bool true) ∧ Below w.heap.size w w' := by
  have HW := Lib.hid (fun w => wakes_any HRu w)
  have HRd := Lib.hid hk.1
  have HL := Lib.hid hk.1.plen
  have hn : n ≤ 4611686018427387904 := by have h1 := hk.2.1; have h2 := hk.2.2.1; omega
  have HTo := Lib.hid HTo
  have HRu := Lib.hid HRu
  have H0 := Lib.hid h0
  have H1 := Lib.hid h1
  clear hk h0 h1
  obtain ⟨x5, hx5⟩ : ∃ x, x = w.heap.size := ⟨_, rfl⟩
  obtain ⟨w0, hw0⟩ : ∃ v, v = w.alloc (.cells #[.int .i64 e0, .int .i64 e1] 48) := ⟨_, rfl⟩
  have HB0 : Hid (Below w.heap.size w w0) := Lib.hid (hw0 ▸ (Below.refl _ _).alloc (Nat.le_refl _) _)
  have HK0 : Hid (Blk w0 x5 48 #[.int .i64 e0, .int .i64 e1]) := Lib.hid (by rw [hw0, hx5]; exact Blk.new w _ _)
  go_enter Try.func10, Try.ntmps10
  go_wp2_with fail
  rw [← hw0, ← hx5]
  clear hw0 hx5
  refine (HW.out w0).mono ?_
  rintro e w1 ⟨rfl, hb1⟩
  have HB1 := Lib.hid (HB0.out.trans (hb1.mono HB0.out.size))
  have HK1 := Lib.hid (HK0.out.below hb1 HK0.out.lt)
  have HN := Lib.hid (new_any A n c ps w1 w.heap.size (HRd.out.below HB1.out) HB1.out.size hn)
  clear hb1 HB0 HK0 HW
  go_wp2_with fail
  refine HN.out.mono ?_
  rintro e w2 ⟨hb2, ⟨T, g, rfl, hch, ht, hT, hg, hTg⟩ | ⟨p, er, rfl, hch, her⟩⟩
  case inr =>
    have t1 : (er == 0) = false := by simpa using her
    have t2 : (er != 0) = true := by simpa using her
    have HB2 := Lib.hid (HB1.out.trans (hb2.mono HB1.out.size))
    have her9 := hch.code
    clear hb2 hch her
    go_wp2
    go_ret
    exact ⟨rfl, HB2.out⟩
  case inl =>
  have HG := Lib.hid hch.good.1
  have HB2 := Lib.hid (HB1.out.trans (hb2.mono HB1.out.size))
  have HK2 := Lib.hid (HK1.out.below hb2 HK1.out.lt)
  have HT2 := Lib.hid ht
  clear hb2 ht hch hT hg hTg HN HB1 HK1
  have c0 : w2.cell? ⟨x5, 0, none⟩ = some (.int .i64 e0) := HK2.out.cell 0
  have c1 : w2.cell? ⟨x5, 1, none⟩ = some (.int .i64 e1) := HK2.out.cell 1
  by_cases hall : (0 ≤ f ∧ f < (n : Int)) ∧ (0 ≤ e0 ∧ e0 < (n : Int)) ∧ (0 ≤ e1 ∧ e1 < (n : Int))
  case neg =>
    have HA := Lib.hid hall
    clear hall
    go_wp2_with fail
    all_goals first
      | (exfalso; have := HA.out; omega)
      | (go_ret; exact ⟨rfl, HB2.out⟩)
  case pos =>
  obtain ⟨⟨f1, f2⟩, ⟨g1, g2⟩, ⟨h1, h2⟩⟩ := hall
  obtain ⟨s, rfl⟩ : ∃ s : Nat, f = (s : Int) := ⟨f.toNat, by omega⟩
  obtain ⟨a, rfl⟩ : ∃ s : Nat, e0 = (s : Int) := ⟨e0.toNat, by omega⟩
  obtain ⟨b, rfl⟩ : ∃ s : Nat, e1 = (s : Int) := ⟨e1.toNat, by omega⟩
  have u1 : decide ((s : Int) < 0) = false := decide_eq_false (by omega)
  have u2 : decide (n ≤ s) = false := decide_eq_false (by omega)
  have u3 : decide ((a : Int) < 0) = false := decide_eq_false (by omega)
  have u4 : decide (n ≤ a) = false := decide_eq_false (by omega)
  have u5 : decide ((b : Int) < 0) = false := decide_eq_false (by omega)
  have u6 : decide (n ≤ b) = false := decide_eq_false (by omega)
  have Hs : Hid (s < ps.length) := Lib.hid (by rw [HL.out]; omega)
  have Ha : Hid (a < ps.length) := Lib.hid (by rw [HL.out]; omega)
  have Hb : Hid (b < ps.length) := Lib.hid (by rw [HL.out]; omega)
  have h32 : n ≤ 32 := by rw [← HL.out]; exact HG.out.few
  have Hln : Hid (∀ x, (towardN ps x).length ≤ 32) := Lib.hid (fun x => by rw [towardN_len, HL.out]; exact h32)
  have HI := Lib.hid (fun (x : Nat) (hx : x < ps.length) => toward_ints HG.out hx)
  have HSm : Hid (∀ (x : Nat) (A A' : Option Addr) (c c' : Nat) (W : World), InA W (towardN ps x) A (towardN ps x).length c → InA W (towardN ps x) A' (towardN ps x).length c' → Calls Try.prog 16 #[.slice A (towardN ps x).length c, .slice A' (towardN ps x).length c'] W fun e w' => e = .returned (.bool true) ∧ ∃ k, w' = W.drewN k) := Lib.hid (fun x A A' c c' W h h' => same_refl A A' _ c _ c' _ W _ _ h.rd h'.rd (by have := Hln.out x; omega))
  clear f1 f2 g1 g2 h1 h2 hf
  have hc := HTo.out T g ps (s : Int) w2 HT2.out HG.out (by have := Hs.out; have := HL.out; unfold I64; omega)
  rw [towardI_nat Hs.out] at hc
  have HC := Lib.hid hc
  clear hc
  go_wp2_with fail
  refine HC.out.mono ?_
  rintro e w3 ⟨v, rfl, ho, hb⟩
  clear HC
  obtain ⟨At, ct, rfl, hin⟩ := inA_own ho (HI.out s Hs.out) (Hln.out s)
  have INt_3 := Lib.hid (hin w3 (Below.refl _ _))
  clear hin ho
  have HB3 := Lib.hid (HB2.out.trans (hb.mono HB2.out.size))
  have HK3 := Lib.hid (HK2.out.below hb HK2.out.lt)
  have HT3 := Lib.hid (HT2.out.below_ hb)
  clear hb HB2 HK2 HT2 c0 c1
  have c0 : w3.cell? ⟨x5, 0, none⟩ = some (.int .i64 (a : Int)) := HK3.out.cell 0
  have c1 : w3.cell? ⟨x5, 1, none⟩ = some (.int .i64 (b : Int)) := HK3.out.cell 1
  have hc := HRu.out T g ps At (towardN ps s).length ct (towardN ps s) (s : Int) w3 HT3.out HG.out INt_3.out (by have := Hs.out; have := HL.out; unfold I64; omega)
  rw [HG.out.runI_yes Hs.out Hs.out] at hc
  simp only at hc
  have HC := Lib.hid hc
  clear hc
  go_wp2_with fail
  refine HC.out.mono ?_
  rintro e w4 ⟨v, rfl, ho, hb⟩
  clear HC
  obtain ⟨Ar, cr, rfl, hin⟩ := inA_own ho (HI.out s Hs.out) (Hln.out s)
  have INr_4 := Lib.hid (hin w4 (Below.refl _ _))
  clear hin ho
  have HB4 := Lib.hid (HB3.out.trans (hb.mono HB3.out.size))
  have HK4 := Lib.hid (HK3.out.below hb HK3.out.lt)
  have HT4 := Lib.hid (HT3.out.below_ hb)
  have INt_4 := Lib.hid (INt_3.out.next hb)
  clear hb HB3 HK3 HT3 INt_3 c0 c1
  have c0 : w4.cell? ⟨x5, 0, none⟩ = some (.int .i64 (a : Int)) := HK4.out.cell 0
  have c1 : w4.cell? ⟨x5, 1, none⟩ = some (.int .i64 (b : Int)) := HK4.out.cell 1
  have HC := Lib.hid (HSm.out s Ar At cr ct w4 INr_4.out INt_4.out)
  go_wp2_with fail
  refine HC.out.mono ?_
  rintro e w5 ⟨rfl, k, hw⟩
  have hb : Below w4.heap.size w4 w5 := hw ▸ below_drewA (Below.refl _ _) k
  clear hw HC
  have HB5 := Lib.hid (HB4.out.trans (hb.mono HB4.out.size))
  have HK5 := Lib.hid (HK4.out.below hb HK4.out.lt)
  have HT5 := Lib.hid (HT4.out.below_ hb)
  have INt_5 := Lib.hid (INt_4.out.next hb)
  have INr_5 := Lib.hid (INr_4.out.next hb)
  clear hb HB4 HK4 HT4 INt_4 INr_4 c0 c1
  have c0 : w5.cell? ⟨x5, 0, none⟩ = some (.int .i64 (a : Int)) := HK5.out.cell 0
  have c1 : w5.cell? ⟨x5, 1, none⟩ = some (.int .i64 (b : Int)) := HK5.out.cell 1
  have hc := HRu.out T g ps At (towardN ps s).length ct (towardN ps s) (a : Int) w5 HT5.out HG.out INt_5.out (by have := Ha.out; have := HL.out; unfold I64; omega)
  rw [HG.out.runI_yes Hs.out Ha.out] at hc
  simp only at hc
  have HC := Lib.hid hc
  clear hc
  go_wp2_with fail
  refine HC.out.mono ?_
  rintro e w6 ⟨v, rfl, ho, hb⟩
  clear HC
  obtain ⟨Aa, ca, rfl, hin⟩ := inA_own ho (HI.out a Ha.out) (Hln.out a)
  have INa_6 := Lib.hid (hin w6 (Below.refl _ _))
  clear hin ho
  have HB6 := Lib.hid (HB5.out.trans (hb.mono HB5.out.size))
  have HK6 := Lib.hid (HK5.out.below hb HK5.out.lt)
  have HT6 := Lib.hid (HT5.out.below_ hb)
  have INt_6 := Lib.hid (INt_5.out.next hb)
  clear hb HB5 HK5 HT5 INt_5 c0 c1
  have c0 : w6.cell? ⟨x5, 0, none⟩ = some (.int .i64 (a : Int)) := HK6.out.cell 0
  have c1 : w6.cell? ⟨x5, 1, none⟩ = some (.int .i64 (b : Int)) := HK6.out.cell 1
  have hc := HRu.out T g ps Aa (towardN ps a).length ca (towardN ps a) (a : Int) w6 HT6.out HG.out INa_6.out (by have := Ha.out; have := HL.out; unfold I64; omega)
  rw [HG.out.runI_yes Ha.out Ha.out] at hc
  simp only at hc
  have HC := Lib.hid hc
  clear hc
  go_wp2_with fail
  refine HC.out.mono ?_
  rintro e w7 ⟨v, rfl, ho, hb⟩
  clear HC
  obtain ⟨Ab, cb, rfl, hin⟩ := inA_own ho (HI.out a Ha.out) (Hln.out a)
  have INb_7 := Lib.hid (hin w7 (Below.refl _ _))
  clear hin ho
  have HB7 := Lib.hid (HB6.out.trans (hb.mono HB6.out.size))
  have HK7 := Lib.hid (HK6.out.below hb HK6.out.lt)
  have HT7 := Lib.hid (HT6.out.below_ hb)
  have INt_7 := Lib.hid (INt_6.out.next hb)
  have INa_7 := Lib.hid (INa_6.out.next hb)
  clear hb HB6 HK6 HT6 INt_6 INa_6 c0 c1
  have c0 : w7.cell? ⟨x5, 0, none⟩ = some (.int .i64 (a : Int)) := HK7.out.cell 0
  have c1 : w7.cell? ⟨x5, 1, none⟩ = some (.int .i64 (b : Int)) := HK7.out.cell 1
  have HC := Lib.hid (HSm.out a Aa Ab ca cb w7 INa_7.out INb_7.out)
  go_wp2_with fail
  refine HC.out.mono ?_
  rintro e w8 ⟨rfl, k, hw⟩
  have hb : Below w7.heap.size w7 w8 := hw ▸ below_drewA (Below.refl _ _) k
  clear hw HC
  have HB8 := Lib.hid (HB7.out.trans (hb.mono HB7.out.size))
  have HK8 := Lib.hid (HK7.out.below hb HK7.out.lt)
  have HT8 := Lib.hid (HT7.out.below_ hb)
  have INt_8 := Lib.hid (INt_7.out.next hb)
  have INa_8 := Lib.hid (INa_7.out.next hb)
  have INb_8 := Lib.hid (INb_7.out.next hb)
  clear hb HB7 HK7 HT7 INt_7 INa_7 INb_7 c0 c1
  have c0 : w8.cell? ⟨x5, 0, none⟩ = some (.int .i64 (a : Int)) := HK8.out.cell 0
  have c1 : w8.cell? ⟨x5, 1, none⟩ = some (.int .i64 (b : Int)) := HK8.out.cell 1
  have hc := HTo.out T g ps (a : Int) w8 HT8.out HG.out (by have := Ha.out; have := HL.out; unfold I64; omega)
  rw [towardI_nat Ha.out] at hc
  have HC := Lib.hid hc
  clear hc
  go_wp2_with fail
  refine HC.out.mono ?_
  rintro e w9 ⟨v, rfl, ho, hb⟩
  clear HC
  obtain ⟨Au, cu, rfl, hin⟩ := inA_own ho (HI.out a Ha.out) (Hln.out a)
  have INu_9 := Lib.hid (hin w9 (Below.refl _ _))
  clear hin ho
  have HB9 := Lib.hid (HB8.out.trans (hb.mono HB8.out.size))
  have HK9 := Lib.hid (HK8.out.below hb HK8.out.lt)
  have HT9 := Lib.hid (HT8.out.below_ hb)
  have INa_9 := Lib.hid (INa_8.out.next hb)
  clear hb HB8 HK8 HT8 INa_8 c0 c1
  have c0 : w9.cell? ⟨x5, 0, none⟩ = some (.int .i64 (a : Int)) := HK9.out.cell 0
  have c1 : w9.cell? ⟨x5, 1, none⟩ = some (.int .i64 (b : Int)) := HK9.out.cell 1
  have HC := Lib.hid (HSm.out a Aa Au ca cu w9 INa_9.out INu_9.out)
  go_wp2_with fail
  refine HC.out.mono ?_
  rintro e w10 ⟨rfl, k, hw⟩
  have hb : Below w9.heap.size w9 w10 := hw ▸ below_drewA (Below.refl _ _) k
  clear hw HC
  have HB10 := Lib.hid (HB9.out.trans (hb.mono HB9.out.size))
  have HK10 := Lib.hid (HK9.out.below hb HK9.out.lt)
  have HT10 := Lib.hid (HT9.out.below_ hb)
  have INa_10 := Lib.hid (INa_9.out.next hb)
  have INu_10 := Lib.hid (INu_9.out.next hb)
  clear hb HB9 HK9 HT9 INa_9 INu_9 c0 c1
  have c0 : w10.cell? ⟨x5, 0, none⟩ = some (.int .i64 (a : Int)) := HK10.out.cell 0
  have c1 : w10.cell? ⟨x5, 1, none⟩ = some (.int .i64 (b : Int)) := HK10.out.cell 1
  have hc := HRu.out T g ps Aa (towardN ps a).length ca (towardN ps a) (b : Int) w10 HT10.out HG.out INa_10.out (by have := Hb.out; have := HL.out; unfold I64; omega)
  rw [HG.out.runI_yes Ha.out Hb.out] at hc
  simp only at hc
  have HC := Lib.hid hc
  clear hc
  go_wp2_with fail
  refine HC.out.mono ?_
  rintro e w11 ⟨v, rfl, ho, hb⟩
  clear HC
  obtain ⟨Ac, cc, rfl, hin⟩ := inA_own ho (HI.out b Hb.out) (Hln.out b)
  have INc_11 := Lib.hid (hin w11 (Below.refl _ _))
  clear hin ho
  have HB11 := Lib.hid (HB10.out.trans (hb.mono HB10.out.size))
  have HK11 := Lib.hid (HK10.out.below hb HK10.out.lt)
  have HT11 := Lib.hid (HT10.out.below_ hb)
  have INa_11 := Lib.hid (INa_10.out.next hb)
  clear hb HB10 HK10 HT10 INa_10 c0 c1
  have c0 : w11.cell? ⟨x5, 0, none⟩ = some (.int .i64 (a : Int)) := HK11.out.cell 0
  have c1 : w11.cell? ⟨x5, 1, none⟩ = some (.int .i64 (b : Int)) := HK11.out.cell 1
  have hc := HTo.out T g ps (b : Int) w11 HT11.out HG.out (by have := Hb.out; have := HL.out; unfold I64; omega)
  rw [towardI_nat Hb.out] at hc
  have HC := Lib.hid hc
  clear hc
  go_wp2_with fail
  refine HC.out.mono ?_
  rintro e w12 ⟨v, rfl, ho, hb⟩
  clear HC
  obtain ⟨Av, cv, rfl, hin⟩ := inA_own ho (HI.out b Hb.out) (Hln.out b)
  have INv_12 := Lib.hid (hin w12 (Below.refl _ _))
  clear hin ho
  have HB12 := Lib.hid (HB11.out.trans (hb.mono HB11.out.size))
  have HK12 := Lib.hid (HK11.out.below hb HK11.out.lt)
  have HT12 := Lib.hid (HT11.out.below_ hb)
  have INc_12 := Lib.hid (INc_11.out.next hb)
  clear hb HB11 HK11 HT11 INc_11 c0 c1
  have c0 : w12.cell? ⟨x5, 0, none⟩ = some (.int .i64 (a : Int)) := HK12.out.cell 0
  have c1 : w12.cell? ⟨x5, 1, none⟩ = some (.int .i64 (b : Int)) := HK12.out.cell 1
  have HC := Lib.hid (HSm.out b Ac Av cc cv w12 INc_12.out INv_12.out)
  go_wp2_with fail
  refine HC.out.mono ?_
  rintro e w13 ⟨rfl, k, hw⟩
  have hb : Below w12.heap.size w12 w13 := hw ▸ below_drewA (Below.refl _ _) k
  clear hw HC
  have HB13 := Lib.hid (HB12.out.trans (hb.mono HB12.out.size))
  have HK13 := Lib.hid (HK12.out.below hb HK12.out.lt)
  have HT13 := Lib.hid (HT12.out.below_ hb)
  have INc_13 := Lib.hid (INc_12.out.next hb)
  have INv_13 := Lib.hid (INv_12.out.next hb)
  clear hb HB12 HK12 HT12 INc_12 INv_12 c0 c1
  have c0 : w13.cell? ⟨x5, 0, none⟩ = some (.int .i64 (a : Int)) := HK13.out.cell 0
  have c1 : w13.cell? ⟨x5, 1, none⟩ = some (.int .i64 (b : Int)) := HK13.out.cell 1
  go_wp2
  go_ret
  exact ⟨rfl, HB13.out⟩
end Go.Proofs.Ytcomiininaemhaa.Pk
