/- The walk of the law ArrowRuns. -/
import Derived.Test.YtcomiininaemhaaZArWakes
import Derived.Test.YtcomiininaemhaaZArgN
namespace Go.Proofs.Ytcomiininaemhaa.Gr
set_option linter.unusedVariables false
theorem runI_i64 {ps ar : List Int} (G : Good ps) {f : Int} : -1 ≤ (runI ps ar f).2 ∧ (runI ps ar f).2 ≤ 32 := by
  unfold runI
  split
  · rename_i h
    obtain ⟨s, hs, rfl⟩ := G.quiet_iff.1 h.1
    rw [G.sinks_toward hs]
    have := G.few
    simp
    omega
  · simp
theorem runI_len {ps ar : List Int} (G : Good ps) {f : Int} : (runI ps ar f).1.length ≤ 32 := by
  unfold runI
  split
  · rw [towardN_len]; exact G.few
  · simp
end Go.Proofs.Ytcomiininaemhaa.Gr
namespace Go.Proofs.Ytcomiininaemhaa.Pk
open Go.RowKit Go.Shelf Go.Proofs.Ytcomiininaemhaa.Gr Go.Proofs.Ytcomiininaemhaa.Ar
set_option linter.unusedVariables false
theorem argN_inA {w : World} {A : Option Addr} {n c : Nat} {l : List Int} (h : ArgN w A n c l) : InA w l A n c := ⟨h.1, h.2.1, by have h1 := h.2.1; have h2 := h.2.2.1; omega, h.2.2.2⟩
set_option maxRecDepth 100000 in
set_option maxHeartbeats 4000000 in
theorem law_ArrowRuns (HRu : RunA) (A : Option Addr) (n c : Nat) (ps : List Int) (A' : Option Addr) (n' c' : Nat) (ar : List Int) (f : Int) (w : World) (hk : ArgN w A n c ps) (hk' : ArgN w A' n' c' ar) (hf : -9223372036854775808 ≤ f ∧ f ≤ 9223372036854775807) :
    Calls Try.prog 5 #[.slice A n c, .slice A' n' c', .int .i64 f] w fun e w' => e = .returned (.bool true) ∧ Below w.heap.size w w' := by
  have HW := Lib.hid (fun w => wakes_any HRu w)
  have HIn := Lib.hid (argN_inA hk')
  have HRd := Lib.hid hk.1
  have hn : n ≤ 4611686018427387904 := by have h1 := hk.2.1; have h2 := hk.2.2.1; omega
  have HRu := Lib.hid HRu
  have HF := Lib.hid hf
  clear hk hk'
  go_enter Try.func5, Try.ntmps5
  go_wp2_with fail
  refine (HW.out w).mono ?_
  rintro e w1 ⟨rfl, hb1⟩
  have HB1 := Lib.hid hb1
  have HN := Lib.hid (new_any A n c ps w1 w.heap.size (HRd.out.below hb1) hb1.size hn)
  clear hb1
  go_wp2_with fail
  refine HN.out.mono ?_
  rintro e w2 ⟨hb2, ⟨T, g, rfl, hch, ht, hT, hg, hTg⟩ | ⟨p, er, rfl, hch, her⟩⟩
  · have G := hch.good.1
    have HB2 := Lib.hid (HB1.out.trans (hb2.mono HB1.out.size))
    have HT := Lib.hid ht
    have HG := Lib.hid G
    have HC := Lib.hid (HRu.out T g ps A' n' c' ar f w2 ht G (HIn.out.next HB2.out) HF.out)
    have hr2 := runI_i64 (ar := ar) G (f := f)
    obtain ⟨r, hr⟩ : ∃ r, r = runI ps ar f := ⟨_, rfl⟩
    have HRn : Hid (r.1.length ≤ 32) := Lib.hid (by rw [hr]; exact runI_len G)
    rw [← hr] at HC hr2
    have HRr := Lib.hid hr
    obtain ⟨rl, ra⟩ := r
    simp only at HC hr2 HRn
    clear hb2 ht hch hT hg hTg hr HN G
    go_wp2_with fail
    refine HC.out.mono ?_
    rintro e w3 ⟨v, rfl, ho3, hb3⟩
    obtain ⟨A3, c3, rfl, _, _⟩ := ho3.reads
    have HO3 := Lib.hid ho3
    have HB3 := Lib.hid (HB2.out.trans (hb3.mono HB2.out.size))
    clear ho3 hb3 HC
    have HD := Lib.hid (refrun_any A n c ps A' n' c' ar f w3 w.heap.size (HRd.out.below HB3.out) (HIn.out.rd.below HB3.out) HB3.out.size HG.out HIn.out.few HIn.out.i HF.out)
    rw [← HRr.out] at HD
    simp only at HD
    go_wp2_with fail
    refine HD.out.mono ?_
    rintro e w4 ⟨v4, rfl, ho4, hb4⟩
    obtain ⟨A4, c4, rfl, _, hrd4⟩ := ho4.reads
    have HB4 := Lib.hid (HB3.out.trans (hb4.mono HB3.out.size))
    have HR4 := Lib.hid hrd4
    have HR3 : Hid (Reads w4 w4.heap.size 1 A3 rl.length (nms rl)) := Lib.hid (by
      obtain ⟨A', c', e, _, hr⟩ := (HO3.out.below hb4).reads
      injection e with e1 e2 e3
      subst e1
      exact hr)
    clear ho4 hb4 hrd4 HD
    have HS := Lib.hid (same_refl A3 A4 rl.length c3 rl.length c4 rl w4 w4.heap.size w4.heap.size HR3.out HR4.out (by have := HRn.out; omega))
    go_wp2_with fail
    refine HS.out.mono ?_
    rintro e w5 ⟨rfl, k, hw⟩
    rw [hw]
    clear hw w5
    go_wp2
    go_ret
    exact ⟨rfl, below_drewA HB4.out k⟩
  · have t1 : (er == 0) = false := by simpa using her
    have t2 : (er != 0) = true := by simpa using her
    have HB2 := Lib.hid (HB1.out.trans (hb2.mono HB1.out.size))
    have her9 := hch.code
    clear hb2 hch her
    go_wp2
    go_ret
    exact ⟨rfl, HB2.out⟩
end Go.Proofs.Ytcomiininaemhaa.Pk
