/- The walk of the law ArrowGoes. -/
import Derived.Test.YtcomiininaemhaaZWArrowTwice
import Derived.Test.YtcomiininaemhaaZTrb
namespace Go.Proofs.Ytcomiininaemhaa.Pk
open Go.RowKit Go.Shelf Go.Proofs.Ytcomiininaemhaa.Gr Go.Proofs.Ytcomiininaemhaa.Ar
set_option linter.unusedVariables false
theorem distI_is {ps : List Int} (G : Gr.Good ps) {a b : Nat} (ha : a < ps.length) (hb : b < ps.length) : distI ps (a : Int) (b : Int) = (distL ps a b : Nat) := by
  unfold distI pathI
  rw [if_pos (by omega), Int.toNat_natCast, Int.toNat_natCast]
  have := G.pathN_len ha hb
  simp only [ints, List.length_map]
  omega
theorem OwnN.far_ {w : World} {B x i : Nat} {v : Value} {l : List Int} (h : OwnN w B v l) (hx : x < B) (u : Value) : OwnN (w.setCell ⟨x, i, none⟩ u) B v l := by
  obtain ⟨h1, h2⟩ := h
  refine ⟨h1, ?_⟩
  rcases h2 with h2 | ⟨g, cap, cur, rfl, hb, hh, hr⟩
  · exact .inl h2
  · exact .inr ⟨g, cap, cur, rfl, hb, (Below.heap_setCell w ⟨x, i, none⟩ _ g (by simp; omega)).trans hh, hr⟩
theorem IsTr.far_ {w : World} {T g x i : Nat} {ps : List Int} (h : IsTr w T g ps) (hx : ∀ b, TrB T g b → b ≠ x) (u : Value) : IsTr (w.setCell ⟨x, i, none⟩ u) T g ps :=
  h.stay ⟨by simp [World.setCell], fun b hb => Below.heap_setCell w ⟨x, i, none⟩ _ b (by have := hx b hb; simp; omega)⟩
theorem OwnN.inA {w : World} {B n c : Nat} {A : Option Addr} {l : List Int} (h : OwnN w B (.slice A n c) l) (hi : Ints l) (hl : l.length ≤ 32) : InA w l A n c := by
  obtain ⟨A', c', e, hc, hr⟩ := h.reads
  injection e with e1 e2 e3
  subst e1; subst e2; subst e3
  exact ⟨hr, hc, by omega, hi⟩
set_option maxRecDepth 100000 in
set_option maxHeartbeats 8000000 in
theorem law_ArrowGoes (HS : StepA) (HTo : TowardA) (HRu : RunA) (A : Option Addr) (n c : Nat) (ps : List Int) (f e0 : Int) (w : World) (hk : ArgN w A n c ps) (hf : -9223372036854775808 ≤ f ∧ f ≤ 9223372036854775807) (h0 : -9223372036854775808 ≤ e0 ∧ e0 ≤ 9223372036854775807) :
    Calls Try.prog 9 #[.slice A n c, .int .i64 f, .int .i64 e0] w fun e w' => e = .returned (.bool true) ∧ Below w.heap.size w w' := by
  have HW := Lib.hid (fun w => wakes_any HRu w)
  have HRd := Lib.hid hk.1
  have HL := Lib.hid hk.1.plen
  have hn : n ≤ 4611686018427387904 := by have h1 := hk.2.1; have h2 := hk.2.2.1; omega
  have HS := Lib.hid HS
  have HTo := Lib.hid HTo
  have HRu := Lib.hid HRu
  have H0 := Lib.hid h0
  have HF := Lib.hid hf
  clear hk
  go_enter Try.func9, Try.ntmps9
  go_wp2_with fail
  refine (HW.out w).mono ?_
  rintro e w1 ⟨rfl, hb1⟩
  have HB1 := Lib.hid hb1
  have HN := Lib.hid (new_any A n c ps w1 w.heap.size (HRd.out.below HB1.out) HB1.out.size hn)
  clear hb1 HW
  go_wp2_with fail
  refine HN.out.mono ?_
  rintro e w2 ⟨hb2, ⟨T, gt, rfl, hch, ht, hT, hg, hTg⟩ | ⟨p, er, rfl, hch, her⟩⟩
  case inr =>
    have t1 : (er == 0) = false := by simpa using her
    have t2 : (er != 0) = true := by simpa using her
    have HB2 := Lib.hid (HB1.out.trans (hb2.mono HB1.out.size))
    have her9 := hch.code
    clear hb2 hch her
    go_wp2
    go_ret
    exact ⟨rfl, HB2.out⟩
  case inl =>
  have HG := Lib.hid hch.good.1
  have HB2 := Lib.hid (HB1.out.trans (hb2.mono HB1.out.size))
  have HT2 := Lib.hid ht
  clear hb2 ht hch hT hg hTg HN HB1
  by_cases hall : (0 ≤ f ∧ f < (n : Int)) ∧ (0 ≤ e0 ∧ e0 < (n : Int))
  case neg =>
    have HA := Lib.hid hall
    clear hall
    go_wp2_with fail
    all_goals first
      | (exfalso; have := HA.out; omega)
      | (go_ret; exact ⟨rfl, HB2.out⟩)
  case pos =>
  obtain ⟨⟨f1, f2⟩, ⟨g1, g2⟩⟩ := hall
  obtain ⟨s, rfl⟩ : ∃ s : Nat, f = (s : Int) := ⟨f.toNat, by omega⟩
  obtain ⟨a, rfl⟩ : ∃ s : Nat, e0 = (s : Int) := ⟨e0.toNat, by omega⟩
  have han : a < n := by omega
  have u1 : decide ((s : Int) < 0) = false := decide_eq_false (by omega)
  have u2 : decide (n ≤ s) = false := decide_eq_false (by omega)
  have u3 : decide ((a : Int) < 0) = false := decide_eq_false (by omega)
  have u4 : decide (n ≤ a) = false := decide_eq_false (by omega)
  have Hs : Hid (s < ps.length) := Lib.hid (by rw [HL.out]; omega)
  have Ha : Hid (a < ps.length) := Lib.hid (by rw [HL.out]; omega)
  have h32 : n ≤ 32 := by rw [← HL.out]; exact HG.out.few
  have HTl : Hid (∀ x, (towardN ps x).length = n) := Lib.hid (fun x => by rw [towardN_len, HL.out])
  have HMl : Hid (∀ k, (mixN ps a s k).length = n) := Lib.hid (fun k => by simp [mixN, HL.out])
  have HI := Lib.hid (fun (x : Nat) (hx : x < ps.length) => toward_ints HG.out hx)
  have HSm : Hid (∀ (x : Nat) (A A' : Option Addr) (c c' B B' : Nat) (W : World), OwnN W B (.slice A n c) (towardN ps x) → OwnN W B' (.slice A' n c') (towardN ps x) → Calls Try.prog 16 #[.slice A n c, .slice A' n c'] W fun e w' => e = .returned (.bool true) ∧ ∃ k, w' = W.drewN k) := Lib.hid (fun x A A' c c' B B' W h h' => by
    have h1 := h.rd_.2; have h2 := h'.rd_.2; rw [HTl.out] at h1 h2
    exact same_refl A A' n c n c' _ W _ _ h1 h2 (by omega))
  clear f1 f2 g1 g2 hf h0
  have hc := HTo.out T gt ps (s : Int) w2 HT2.out HG.out (by have := Hs.out; have := HL.out; unfold I64; omega)
  rw [towardI_nat Hs.out] at hc
  have HC := Lib.hid hc
  clear hc
  go_wp2_with fail
  refine HC.out.mono ?_
  rintro e w3 ⟨v, rfl, ho, hb⟩
  clear HC
  obtain ⟨g, c3, rfl⟩ := ho.row_ (by rw [HTl.out]; omega)
  have HO3 := Lib.hid ho
  rw [HTl.out] at HO3 ⊢
  have Hgl : Hid (w.heap.size ≤ g) := Lib.hid (by have h1 := ownN_base HO3.out g rfl; have h2 := HB2.out.size; omega)
  have HB3 := Lib.hid (HB2.out.trans (hb.mono HB2.out.size))
  have HT3 := Lib.hid (HT2.out.below_ hb)
  have Hgt : Hid (∀ b, TrB T gt b → b ≠ g) := Lib.hid (fun b hb => by have h1 := HT2.out.lt b hb; have h2 := ownN_base HO3.out g rfl; omega)
  clear hb ho HB2 HT2
  have hc := HRu.out T gt ps (some ⟨g, 0, none⟩) n c3 (towardN ps s) (a : Int) w3 HT3.out HG.out (HO3.out.inA (HI.out s Hs.out) (by rw [HTl.out]; exact h32)) (by have := Ha.out; have := HL.out; unfold I64; omega)
  rw [HG.out.runI_yes Hs.out Ha.out] at hc
  simp only at hc
  have HC := Lib.hid hc
  clear hc
  have HX3 := Lib.hid (show ∀ (w4 : World), Below w3.heap.size w3 w4 → w4.cell? ⟨g, a, none⟩ = some (.int .i64 ((nx ps a s : Nat) : Int)) ∧ w4.frozen? ⟨g, a, none⟩ = false from fun w4 hb => by
    obtain ⟨_, _, _, hg3, hg4⟩ := (HO3.out.below hb).at_
    exact ⟨by rw [hg3 a han, at_get (by rw [HTl.out]; exact han), towardN_at Ha.out], hg4 a⟩)
  go_wp2_with fail
  refine HC.out.mono ?_
  rintro e w4 ⟨v, rfl, ho, hb⟩
  clear HC
  obtain ⟨Aw, cw, rfl⟩ := ho.sl
  have HV4 := Lib.hid ho
  rw [HTl.out] at HV4 ⊢
  have HO4 := Lib.hid (HO3.out.below hb)
  have HB4 := Lib.hid (HB3.out.trans (hb.mono HB3.out.size))
  have HT4 := Lib.hid (HT3.out.below_ hb)
  have Hgw : Hid (g < w3.heap.size ∧ ∃ B, B = w3.heap.size) := Lib.hid ⟨ownN_lt HO3.out g rfl, _, rfl⟩
  obtain ⟨cx, fz⟩ := HX3.out w4 hb
  clear hb ho HB3 HT3 HO3 HX3
  go_wp2_with fail
  have HO5 : Hid (OwnN (w4.setCell ⟨g, a, none⟩ (.int .i64 (a : Int))) w2.heap.size (.slice (some ⟨g, 0, none⟩) n c3) (mixN ps a s 0)) := Lib.hid (by rw [← HG.out.mix_zero Ha.out Hs.out]; exact HO4.out.set_ a (a : Int))
  have hb5 : Below w.heap.size w (w4.setCell ⟨g, a, none⟩ (.int .i64 (a : Int))) := HB4.out.setCell (p := ⟨g, a, none⟩) Hgl.out _
  have HB5 := Lib.hid hb5
  have HK : Hid (∀ (V : World) (i : Nat) (x : Int), OwnN V w3.heap.size (.slice Aw n cw) (towardN ps a) → OwnN (V.setCell ⟨g, i, none⟩ (.int .i64 x)) w3.heap.size (.slice Aw n cw) (towardN ps a)) := Lib.hid (fun V i x h => h.far_ Hgw.out.1 _)
  have HKT : Hid (∀ (V : World) (i : Nat) (x : Int), IsTr V T gt ps → IsTr (V.setCell ⟨g, i, none⟩ (.int .i64 x)) T gt ps) := Lib.hid (fun V i x h => h.far_ Hgt.out _)
  have HV5 := Lib.hid (HK.out _ a (a : Int) HV4.out)
  have HT5 := Lib.hid (HKT.out _ a (a : Int) HT4.out)
  clear hb5 cx fz HV4 HT4 HO4 HB4
  go_loopw [12, 13, 14, 15, 16] (fun x y z _ _ wr => ∃ p : Nat, y = .int .i64 p ∧ p < n ∧ distL ps a p + distL ps p s = distL ps a s ∧ (p = s → a = s) ∧ x = .int .i64 ((nx ps p s : Nat) : Int) ∧ z = .int .i64 ((distL ps a p : Nat) : Int) ∧ OwnN wr w2.heap.size (.slice (some ⟨g, 0, none⟩) n c3) (mixN ps a s (distL ps a p)) ∧ OwnN wr w3.heap.size (.slice Aw n cw) (towardN ps a) ∧ IsTr wr T gt ps ∧ Below w.heap.size w wr) (fun _ y _ _ _ _ => n - distL ps a (intOf y).toNat)
  case atStart => exact ⟨a, rfl, han, by unfold distL; rw [dist_self]; omega, fun h => h, rfl, by rw [show distL ps a a = 0 from dist_self a]; rfl, by rw [show distL ps a a = 0 from dist_self a]; exact HO5.out, HV5.out, HT5.out, HB5.out⟩
  case round =>
    obtain ⟨p, rfl, hp, hon, hpa, rfl, rfl, hown, hv, hT, hbel⟩ := hrel
    obtain ⟨w5, rfl⟩ : ∃ w5 : World, w5 = wr := ⟨_, rfl⟩
    have HO6 := Lib.hid hown
    have HV6 := Lib.hid hv
    have HT6 := Lib.hid hT
    have HB6 := Lib.hid hbel
    have HOn := Lib.hid hon
    clear hown hv hT hbel hon
    have hpl : p < ps.length := by rw [HL.out]; exact hp
    have HDl : Hid (distL ps a s < n) := Lib.hid (by have := HG.out.rt.dist_lt Ha.out Hs.out; rw [HL.out] at this; exact this)
    by_cases hps : p = s
    · subst hps
      obtain rfl : a = p := hpa rfl
      have hself : nx ps a a = a := if_pos rfl
      have hd0 : distL ps a a = 0 := dist_self a
      have HF0 : Hid (mixN ps a a (distL ps a a) = towardN ps a) := Lib.hid (HG.out.mix_full Ha.out Ha.out)
      rw [HF0.out] at HO6
      rw [hself, hd0]
      have HC := Lib.hid (HSm.out a (some ⟨g, 0, none⟩) Aw c3 cw _ _ w5 HO6.out HV6.out)
      clear hself hd0 hpa
      go_wp2_with fail
      refine HC.out.mono ?_
      rintro e w6 ⟨rfl, k, hw⟩
      have HB7 := Lib.hid (HB6.out.trans ((hw ▸ below_drewA (Below.refl _ _) k : Below w5.heap.size w5 w6).mono HB6.out.size))
      clear hw HC
      go_wp2
      go_ret
      exact ⟨rfl, HB7.out⟩
    · obtain ⟨q1, q2, q3, q4, q5⟩ := HG.out.mix_succ (k := distL ps a p) Ha.out Hs.out hpl HOn.out rfl hps
      obtain ⟨y, hy⟩ : ∃ y, y = nx ps p s := ⟨_, rfl⟩
      rw [← hy] at q1 q2 q3 q4 q5 ⊢
      have hyp : y ≠ p := fun e => by rw [e] at q2; omega
      have hyn : y < n := by rw [← HL.out]; exact q1
      have hyz : ((y : Int) != (p : Int)) = true := by simp; omega
      have hkn : distL ps a p < n := by have := HDl.out; omega
      obtain ⟨-, hg1, hg2, hg3, hg4⟩ := HO6.out.at_
      obtain ⟨z, hz⟩ : ∃ z, z = nx ps y s := ⟨_, rfl⟩
      have hzn : z < n := by rw [hz, ← HL.out]; exact HG.out.nx_is.lt y s q1 Hs.out
      have cy : w5.cell? ⟨g, y, none⟩ = some (.int .i64 (z : Int)) := by rw [hg3 y hyn, at_get (by rw [HMl.out]; exact hyn), q4, hz]
      have hz0 : z = y ↔ y = s := by
        constructor
        · intro e
          refine Classical.byContradiction fun hne => ?_
          have h1 := HG.out.nx_is.dn y s q1 Hs.out hne
          rw [← hz, e] at h1
          unfold distL at *
          omega
        · intro e; rw [hz, e]; exact if_pos rfl
      have HD : Hid (distL ps a y = distL ps a p + 1) := Lib.hid q2
      have HOy := Lib.hid q3
      have HO7 : Hid (∀ V, Below w5.heap.size w5 V → OwnN (V.setCell ⟨g, y, none⟩ (.int .i64 (p : Int))) w2.heap.size (.slice (some ⟨g, 0, none⟩) n c3) (mixN ps a s (distL ps a p + 1))) := Lib.hid (fun V hV => by rw [← q5]; exact (HO6.out.below hV).set_ y (p : Int))
      have HX7 : Hid (∀ V, Below w5.heap.size w5 V → ∃ u, V.cell? ⟨g, y, none⟩ = some u ∧ V.frozen? ⟨g, y, none⟩ = false) := Lib.hid (fun V hV => by
        obtain ⟨_, _, _, k3, k4⟩ := (HO6.out.below hV).at_
        exact ⟨_, k3 y hyn, k4 y⟩)
      have HC := Lib.hid (HS.out (y : Int) (z : Int) (p : Int) w5 (by unfold I64; omega) (by unfold I64; omega) (by unfold I64; omega))
      obtain ⟨d, hd⟩ : ∃ d, d = distL ps a p := ⟨_, rfl⟩
      rw [← hd] at HD HO7 hkn ⊢
      have HDd := Lib.hid hd
      have Hzz := Lib.hid hz
      have HP := Lib.hid (show p < n from hp)
      clear q1 q2 q3 q4 q5 hg1 hg2 hg3 hg4 hy hps hpa hd hz
      by_cases hys : y = s
      · have hzy : z = y := hz0.2 hys
        rw [if_pos (by rw [hzy])] at HC
        subst hzy
        subst hys
        clear hz0
        go_wp2_with fail
        refine HC.out.mono ?_
        rintro e w6 ⟨rfl, hb⟩
        clear HC cy
        obtain ⟨u, cy, fy⟩ := HX7.out w6 hb
        have HB7 := Lib.hid ((HB6.out.trans (hb.mono HB6.out.size)).setCell (p := ⟨g, z, none⟩) Hgl.out (.int .i64 (p : Int)))
        have ho := HO7.out w6 hb
        rw [← HD.out, HG.out.mix_full Ha.out Hs.out] at ho
        have HC := Lib.hid (HSm.out a (some ⟨g, 0, none⟩) Aw c3 cw _ _ _ ho (HK.out _ z (p : Int) (HV6.out.below hb)))
        have HT7 := Lib.hid (HKT.out _ z (p : Int) (HT6.out.below_ hb))
        clear ho hb
        go_wp2_with fail
        refine HC.out.mono ?_
        rintro e w7 ⟨rfl, k, hw⟩
        have hb7 : Below (w6.setCell ⟨g, z, none⟩ (.int .i64 (p : Int))).heap.size (w6.setCell ⟨g, z, none⟩ (.int .i64 (p : Int))) w7 := by rw [hw]; exact below_drewA (Below.refl _ _) k
        have HB8 := Lib.hid (HB7.out.trans (hb7.mono HB7.out.size))
        have HE : Hid (distI ps (a : Int) (z : Int) = (d : Int) + 1) := Lib.hid (by rw [distI_is HG.out Ha.out Hs.out, HD.out]; omega)
        have HD9 := Lib.hid (dist_any T gt ps (a : Int) (z : Int) w7 (HT7.out.below_ hb7) HG.out (by have h1 := HE.out; unfold distI at h1; have h2 := HDl.out; have h3 := HD.out; omega))
        rw [HE.out] at HD9
        clear hw hb7 HC cy fy
        go_wp2_with fail
        refine HD9.out.mono ?_
        rintro e w8 ⟨rfl, hb⟩
        have HB9 := Lib.hid (HB8.out.trans (hb.mono HB8.out.size))
        clear hb
        go_wp2
        go_ret
        exact ⟨rfl, HB9.out⟩
      · have hzy : ¬ z = y := fun e => hys (hz0.1 e)
        rw [if_neg (by omega)] at HC
        have hzm : ((z : Int) == -1) = false := by simp
        clear hz0
        go_wp2_with fail
        refine HC.out.mono ?_
        rintro e w6 ⟨rfl, hb⟩
        clear HC cy
        obtain ⟨u, cy, fy⟩ := HX7.out w6 hb
        have HB7 := Lib.hid ((HB6.out.trans (hb.mono HB6.out.size)).setCell (p := ⟨g, y, none⟩) Hgl.out (.int .i64 (p : Int)))
        have HO8 := Lib.hid (HO7.out w6 hb)
        have HV8 := Lib.hid (HK.out _ y (p : Int) (HV6.out.below hb))
        have HT8 := Lib.hid (HKT.out _ y (p : Int) (HT6.out.below_ hb))
        clear hb
        go_wp2
        go_roundw
        case rel => exact ⟨y, rfl, hyn, HOy.out, fun h => absurd h hys, by rw [Hzz.out], by rw [HD.out]; go_num, by rw [HD.out]; exact HO8.out, HV8.out, HT8.out, HB7.out⟩
        case measure =>
          have h1 := HD.out
          have h2 := HDl.out
          have h3 := HOy.out
          have h4 := HDd.out
          simp [intOf]
          omega
end Go.Proofs.Ytcomiininaemhaa.Pk
