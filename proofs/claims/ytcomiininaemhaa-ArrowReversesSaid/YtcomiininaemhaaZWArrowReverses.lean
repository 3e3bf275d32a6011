/- The walk of the law ArrowReverses. -/
import Derived.Test.YtcomiininaemhaaZWArrowKeeps
import Derived.Test.YtcomiininaemhaaZArWay
import Derived.Deep.QuietTactic
import Derived.BigQuiet
import Derived.Deep.RegionHeld3
import Derived.Deep.DeepMust
namespace Go.Proofs.Ytcomiininaemhaa.Pk
open Go.RowKit Go.Shelf Go.Proofs.Ytcomiininaemhaa.Gr Go.Proofs.Ytcomiininaemhaa.Ar
set_option linter.unusedVariables false
attribute [local go_sem] Oper.semAt_some encA
structure RvM (w : World) (T gt : Nat) (ps : List Int) (n s : Nat) (Aa : Option Addr) (ca : Nat) (Al : Option Addr) (m cl : Nat) (L : List Int) (ds : List Deferred) (V : World) : Prop where
  bel : Below w.heap.size w V
  tr : IsTr V T gt ps
  ar : OwnN V w.heap.size (.slice Aa n ca) (towardN ps s)
  row : OwnN V w.heap.size (.slice Al m cl) L
  mks : Marks w.heap.size ds V
theorem RvM.next {w : World} {T gt : Nat} {ps : List Int} {n s : Nat} {Aa : Option Addr} {ca : Nat} {Al : Option Addr} {m cl : Nat} {L : List Int} {ds : List Deferred} {V V' : World} (h : RvM w T gt ps n s Aa ca Al m cl L ds V) (hb : Below V.heap.size V V') : RvM w T gt ps n s Aa ca Al m cl L ds V' :=
  ⟨h.bel.trans (hb.mono h.bel.size), h.tr.below_ hb, OwnN.below h.ar hb, OwnN.below h.row hb, h.mks.below hb⟩
theorem ints_cons {x : Int} {l : List Int} (h : -9223372036854775808 ≤ x ∧ x ≤ 9223372036854775807) (hl : Ints l) : Ints (x :: l) := by
  intro y hy
  rcases List.mem_cons.1 hy with e | e
  · rw [e]; exact h
  · exact hl y e
set_option maxRecDepth 100000 in
set_option maxHeartbeats 16000000 in
theorem law_ArrowReverses (HFo : FollowG) (HTo : TowardA) (HSi : SinksA) (HQu : QuietA) (HRu : RunA) (A : Option Addr) (n c : Nat) (ps : List Int) (h : Int) (A' : Option Addr) (n' c' : Nat) (fs : List Int) (w : World) (hk : ArgN w A n c ps) (hh : -9223372036854775808 ≤ h ∧ h ≤ 9223372036854775807) (hk' : ArgN w A' n' c' fs) :
    Calls Try.prog 7 #[.slice A n c, .int .i64 h, .slice A' n' c'] w fun e w' => e = .returned (.bool true) ∧ Below w.heap.size w w' := by
  have HW := Lib.hid (fun w => wakes_any HRu w)
  have HRd := Lib.hid hk.1
  have HRf := Lib.hid hk'.1
  have HIf := Lib.hid hk'.2.2.2
  have hn : n ≤ 4611686018427387904 := by have h1 := hk.2.1; have h2 := hk.2.2.1; omega
  have HL := Lib.hid hk.1.plen
  have HLf := Lib.hid hk'.1.plen
  have HFo := Lib.hid HFo
  have HTo := Lib.hid HTo
  have HSi := Lib.hid HSi
  have HQu := Lib.hid HQu
  have HRu := Lib.hid HRu
  have HH := Lib.hid hh
  clear hk hk' hh
  refine (callsIn_wide (n := 9)).1 ?_
  refine callsIn_of_wp_marks Try.func7 rfl trivial ?_ rfl
  simp only [Try.ntmps7, List.size_toArray, List.length_cons, List.length_nil, Nat.reduceAdd, Nat.reduceSub, Array.replicate_succ, Array.replicate_zero, List.push_toArray, List.append_toArray, List.nil_append, List.cons_append]
  refine wpIn_wide.2 ?_
  go_wp2_with fail
  refine (HW.out w).mono ?_
  rintro e w1 ⟨rfl, hb⟩
  have HB1 := Lib.hid hb
  have HN := Lib.hid (new_any A n c ps w1 w.heap.size (HRd.out.below HB1.out) HB1.out.size hn)
  clear hb HW
  go_wp2_with fail
  refine HN.out.mono ?_
  rintro e w2 ⟨hb2, ⟨T, gt, rfl, hch, ht, hT, hg, hTg⟩ | ⟨p, er, rfl, hch, her⟩⟩
  case inr =>
    have t1 : (er == 0) = false := by simpa using her
    have t2 : (er != 0) = true := by simpa using her
    have HB2 := Lib.hid (HB1.out.trans (hb2.mono HB1.out.size))
    have her9 := hch.code
    clear hb2 hch her
    go_wp2
    refine Marks.leave (B := w2.heap.size) [] _ trivial (fun W' hb => ?_)
    exact ⟨.bool true, by simp [results, Try.f7, go_sem], rfl, HB2.out.trans (hb.mono HB2.out.size)⟩
  case inl =>
  have HG := Lib.hid hch.good.1
  have HB2 := Lib.hid (HB1.out.trans (hb2.mono HB1.out.size))
  have HT2 := Lib.hid ht
  have hn32 : n ≤ 32 := by rw [← HL.out]; exact HG.out.few
  have hn0 : 0 < n := by rw [← HL.out]; exact HG.out.pos
  clear hb2 ht hch hT hg hTg HN HB1
  by_cases h1 : h < 0
  case pos =>
    have t1 : decide (h < 0) = true := decide_eq_true h1
    clear h1
    go_wp2
    refine Marks.leave (B := w2.heap.size) [] _ trivial (fun W' hb => ?_)
    exact ⟨.bool true, by simp [results, Try.f7, go_sem], rfl, HB2.out.trans (hb.mono HB2.out.size)⟩
  case neg =>
  have t1 : decide (h < 0) = false := decide_eq_false h1
  by_cases h2 : h < (n : Int)
  case neg =>
    have t2 : decide ((n : Int) ≤ h) = true := decide_eq_true (by omega)
    clear h1 h2
    go_wp2
    refine Marks.leave (B := w2.heap.size) [] _ trivial (fun W' hb => ?_)
    exact ⟨.bool true, by simp [results, Try.f7, go_sem], rfl, HB2.out.trans (hb.mono HB2.out.size)⟩
  case pos =>
  obtain ⟨s0, rfl⟩ : ∃ s : Nat, h = (s : Int) := ⟨h.toNat, by omega⟩
  have hs0 : s0 < n := by omega
  have t2 : decide (n ≤ s0) = false := decide_eq_false (by omega)
  by_cases h3 : 256 < n'
  case pos =>
    have t3 : (256 : Int) < (n' : Int) := by omega
    clear h1 h2
    go_wp2
    refine Marks.leave (B := w2.heap.size) [] _ trivial (fun W' hb => ?_)
    exact ⟨.bool true, by simp [results, Try.f7, go_sem], rfl, HB2.out.trans (hb.mono HB2.out.size)⟩
  case neg =>
  have t3 : ¬ (256 : Int) < (n' : Int) := by omega
  have hn' : n' ≤ 256 := by omega
  have HS0 : Hid (s0 < ps.length) := Lib.hid (by rw [HL.out]; exact hs0)
  clear h1 h2 h3
  go_wp2_with fail
  refine (HTo.out T gt ps (s0 : Int) w2 HT2.out HG.out HH.out).mono ?_
  rintro e w3 ⟨va, rfl, ho, hb⟩
  rw [towardI_nat HS0.out] at ho
  obtain ⟨Aa, ca, rfl⟩ := ho.sl
  have HTl : Hid (∀ s, (towardN ps s).length = n) := Lib.hid (fun s => (towardN_len s).trans HL.out)
  rw [HTl.out] at ho ⊢
  have HA3 := Lib.hid ho
  have HB3 := Lib.hid (HB2.out.trans (hb.mono HB2.out.size))
  have HT3 := Lib.hid (HT2.out.below_ hb)
  have HZ3 := Lib.hid HB2.out.size
  clear hb ho HB2 HT2
  obtain ⟨L, hLd⟩ : ∃ l, l = (s0 : Int) :: fs := ⟨_, rfl⟩
  have HLd := Lib.hid hLd
  clear hLd
  obtain ⟨m, hm⟩ : ∃ m, m = n' + 1 := ⟨_, rfl⟩
  have HLl : Hid (L.length = m) := Lib.hid (by rw [HLd.out, List.length_cons, HLf.out, hm])
  have hm257 : m ≤ 257 := by omega
  have HLi : Hid (Ints L) := Lib.hid (by rw [HLd.out]; exact ints_cons HH.out HIf.out)
  clear hm
  go_wp2_with (first
    | (at_builtin; go_loud (refine appNs (w3.alloc (.cells #[.int .i64 (s0 : Int)] 3)) rfl (.tmp 53) (.tmp 54) rfl w3.heap.size (.slice (some ⟨w3.heap.size, 0, none⟩) 1 1) [(s0 : Int)] rfl (OwnN.lit w3 _ _ (Nat.le_refl _)) w.heap.size A' c' fs n' rfl ((HRf.out.below HB3.out).below ((Below.refl _ _).alloc HB3.out.size _)) (by simp; omega) (by rw [World.size_alloc]; omega) ?_); intro v4 w4 ho4 hb4 hat4 hg4; rw [show [(s0 : Int)] ++ fs = L from HLd.out.symm] at ho4; obtain ⟨Al, cl, rfl⟩ := ho4.sl; rw [HLl.out] at ho4 ⊢; have HO4 : Hid (OwnN w4 w.heap.size (.slice Al m cl) L) := Lib.hid (ho4.lowN HB3.out.size); have HB34 : Hid (Below w3.heap.size w3 w4) := Lib.hid (((Below.refl _ _).alloc (Nat.le_refl _) _).trans hb4); clear ho4 hb4 hat4 hg4)
    | fail)
  have HM0 : Hid (RvM w T gt ps n s0 Aa ca Al m cl L [] w4) := Lib.hid ⟨HB3.out.trans (HB34.out.mono HB3.out.size), HT3.out.below_ HB34.out, (OwnN.below HA3.out HB34.out).lowN HZ3.out, HO4.out, trivial⟩
  clear HA3 HB3 HT3 HZ3 HO4 HB34 HLd t1 t2 t3
  refine wp_loop (fun a V => ∃ (i : Nat) (ds : List Deferred) (Aa : Option Addr) (ca s : Nat), a = { tmps := #[.slice A n c, a.tmps.getD 1 undef, a.tmps.getD 2 undef, a.tmps.getD 3 undef, a.tmps.getD 4 undef, a.tmps.getD 5 undef, a.tmps.getD 6 undef, .pointer (some ⟨T, 0, none⟩), a.tmps.getD 8 undef, .slice Aa n ca, .int .i64 (s : Int), a.tmps.getD 11 undef, a.tmps.getD 12 undef, a.tmps.getD 13 undef, a.tmps.getD 14 undef, a.tmps.getD 15 undef, a.tmps.getD 16 undef, a.tmps.getD 17 undef, a.tmps.getD 18 undef, a.tmps.getD 19 undef, a.tmps.getD 20 undef, a.tmps.getD 21 undef, a.tmps.getD 22 undef, a.tmps.getD 23 undef, a.tmps.getD 24 undef, a.tmps.getD 25 undef, a.tmps.getD 26 undef, a.tmps.getD 27 undef, a.tmps.getD 28 undef, a.tmps.getD 29 undef, a.tmps.getD 30 undef, a.tmps.getD 31 undef, a.tmps.getD 32 undef, a.tmps.getD 33 undef, a.tmps.getD 34 undef, a.tmps.getD 35 undef, a.tmps.getD 36 undef, a.tmps.getD 37 undef, a.tmps.getD 38 undef, a.tmps.getD 39 undef, a.tmps.getD 40 undef, a.tmps.getD 41 undef, a.tmps.getD 42 undef, a.tmps.getD 43 undef, a.tmps.getD 44 undef, a.tmps.getD 45 undef, a.tmps.getD 46 undef, a.tmps.getD 47 undef, a.tmps.getD 48 undef, a.tmps.getD 49 undef, a.tmps.getD 50 undef, a.tmps.getD 51 undef, a.tmps.getD 52 undef, a.tmps.getD 53 undef, a.tmps.getD 54 undef, .slice Al m cl, .int .i64 (m : Int), .int .i64 (i : Int), a.tmps.getD 58 undef, a.tmps.getD 59 undef, a.tmps.getD 60 undef, a.tmps.getD 61 undef, a.tmps.getD 62 undef, a.tmps.getD 63 undef, a.tmps.getD 64 undef, a.tmps.getD 65 undef, a.tmps.getD 66 undef, a.tmps.getD 67 undef, a.tmps.getD 68 undef, a.tmps.getD 69 undef, a.tmps.getD 70 undef, a.tmps.getD 71 undef, a.tmps.getD 72 undef, a.tmps.getD 73 undef, a.tmps.getD 74 undef, a.tmps.getD 75 undef, a.tmps.getD 76 undef, a.tmps.getD 77 undef, a.tmps.getD 78 undef, a.tmps.getD 79 undef, a.tmps.getD 80 undef, a.tmps.getD 81 undef, a.tmps.getD 82 undef, a.tmps.getD 83 undef, a.tmps.getD 84 undef, a.tmps.getD 85 undef, a.tmps.getD 86 undef, a.tmps.getD 87 undef, a.tmps.getD 88 undef, a.tmps.getD 89 undef, a.tmps.getD 90 undef, a.tmps.getD 91 undef, a.tmps.getD 92 undef, a.tmps.getD 93 undef, a.tmps.getD 94 undef, a.tmps.getD 95 undef, a.tmps.getD 96 undef, a.tmps.getD 97 undef, a.tmps.getD 98 undef, a.tmps.getD 99 undef, a.tmps.getD 100 undef, a.tmps.getD 101 undef, a.tmps.getD 102 undef, a.tmps.getD 103 undef, a.tmps.getD 104 undef, a.tmps.getD 105 undef, a.tmps.getD 106 undef, a.tmps.getD 107 undef, a.tmps.getD 108 undef, a.tmps.getD 109 undef, a.tmps.getD 110 undef, a.tmps.getD 111 undef, a.tmps.getD 112 undef, a.tmps.getD 113 undef, a.tmps.getD 114 undef, a.tmps.getD 115 undef, a.tmps.getD 116 undef, a.tmps.getD 117 undef, a.tmps.getD 118 undef, a.tmps.getD 119 undef, a.tmps.getD 120 undef, a.tmps.getD 121 undef, a.tmps.getD 122 undef, a.tmps.getD 123 undef, a.tmps.getD 124 undef, a.tmps.getD 125 undef, a.tmps.getD 126 undef, a.tmps.getD 127 undef, a.tmps.getD 128 undef, a.tmps.getD 129 undef, a.tmps.getD 130 undef, a.tmps.getD 131 undef, a.tmps.getD 132 undef, a.tmps.getD 133 undef, a.tmps.getD 134 undef, a.tmps.getD 135 undef, a.tmps.getD 136 undef, a.tmps.getD 137 undef, a.tmps.getD 138 undef, a.tmps.getD 139 undef, a.tmps.getD 140 undef, a.tmps.getD 141 undef, a.tmps.getD 142 undef, a.tmps.getD 143 undef, a.tmps.getD 144 undef, a.tmps.getD 145 undef, a.tmps.getD 146 undef, a.tmps.getD 147 undef, a.tmps.getD 148 undef, a.tmps.getD 149 undef, a.tmps.getD 150 undef, a.tmps.getD 151 undef, a.tmps.getD 152 undef, a.tmps.getD 153 undef, a.tmps.getD 154 undef, a.tmps.getD 155 undef, a.tmps.getD 156 undef, a.tmps.getD 157 undef, a.tmps.getD 158 undef, a.tmps.getD 159 undef, a.tmps.getD 160 undef, a.tmps.getD 161 undef, a.tmps.getD 162 undef, a.tmps.getD 163 undef, a.tmps.getD 164 undef, a.tmps.getD 165 undef, a.tmps.getD 166 undef, a.tmps.getD 167 undef, a.tmps.getD 168 undef, a.tmps.getD 169 undef, a.tmps.getD 170 undef, a.tmps.getD 171 undef, a.tmps.getD 172 undef, a.tmps.getD 173 undef], defers := ds } ∧ i ≤ m ∧ s < n ∧ RvM w T gt ps n s Aa ca Al m cl L ds V) (fun a _ => m - (intOf (a.tmps.getD 57 undef)).toNat) ?_ ?_
  case refine_1 => exact ⟨0, [], Aa, ca, s0, rfl, by omega, hs0, HM0.out⟩
  clear HM0
  rintro a V ⟨i, ds, Aa, ca, s, ha, hi, hs, hM⟩
  obtain ⟨u, hu⟩ : ∃ u : Nat → Value, ∀ j, a.tmps.getD j undef = u j := ⟨_, fun _ => rfl⟩
  simp only [hu] at ha
  clear hu
  subst ha
  have HM := Lib.hid hM
  clear hM
  by_cases hlt : i < m
  case neg =>
    go_wp2
    refine Marks.leave (B := w.heap.size) _ _ HM.out.mks (fun W' hb => ?_)
    exact ⟨.bool true, by simp [results, Try.f7, go_sem], rfl, HM.out.bel.trans hb⟩
  case pos =>
  have HLp : Hid (Al ≠ none) := Lib.hid (by
    obtain ⟨gl, cc, e⟩ := HM.out.row.row_ (by rw [HLl.out]; omega)
    injection e with e1 e2 e3
    rw [e1]; simp)
  obtain ⟨gl, ol, hAl, _, hcl⟩ := (ownN_reads' HM.out.row).arr (by omega)
  have HAl := Lib.hid hAl
  have cf0 := hcl i hlt
  have hf0 := HLi.out _ (at_in (l := L) (v := i) (by rw [HLl.out]; exact hlt))
  obtain ⟨f, hf⟩ : ∃ f, f = Gr.at_ L i := ⟨_, rfl⟩
  rw [← hf] at cf0 hf0
  have zi : (i : Int) < (m : Int) := by omega
  clear hcl hf
  subst hAl
  clear HAl HLp
  have HS : Hid (s < ps.length) := Lib.hid (by rw [HL.out]; exact hs)
  by_cases hff : 0 ≤ f ∧ f < (n : Int)
  case neg =>
    have HE : Hid (runI ps (towardN ps s) f = ([], -1)) := Lib.hid (if_neg (fun h => hff (by rw [← HL.out]; exact h.2)))
    have HRr := Lib.hid (HRu.out T gt ps Aa n ca (towardN ps s) f V HM.out.tr HG.out (HM.out.ar.inA (toward_ints HG.out HS.out) (by rw [HTl.out]; exact hn32)) hf0)
    rw [HE.out] at HRr
    rcases Int.lt_or_le f 0 with hz | hz
    · have t1 : decide (f < 0) = true := decide_eq_true hz
      clear hff
      go_wp2_with fail
      refine HRr.out.mono ?_
      rintro e w5 ⟨v5, rfl, ho5, hb⟩
      have HM5 := Lib.hid (HM.out.next hb)
      clear ho5 hb
      go_wp2
      refine ⟨⟨i + 1, ds, Aa, ca, s, rfl, by omega, hs, HM5.out⟩, ?_⟩
      show m - ((i : Int) + 1).toNat < m - ((i : Int)).toNat
      omega
    · have t1 : decide (f < 0) = false := decide_eq_false (by omega)
      have t2 : decide ((n : Int) ≤ f) = true := decide_eq_true (by omega)
      clear hff
      go_wp2_with fail
      refine HRr.out.mono ?_
      rintro e w5 ⟨v5, rfl, ho5, hb⟩
      have HM5 := Lib.hid (HM.out.next hb)
      clear ho5 hb
      go_wp2
      refine ⟨⟨i + 1, ds, Aa, ca, s, rfl, by omega, hs, HM5.out⟩, ?_⟩
      show m - ((i : Int) + 1).toNat < m - ((i : Int)).toNat
      omega
  case pos =>
  obtain ⟨f, rfl⟩ : ∃ k : Nat, f = (k : Int) := ⟨f.toNat, by omega⟩
  have hfn : f < n := by omega
  have HFn : Hid (f < ps.length) := Lib.hid (by rw [HL.out]; exact hfn)
  have HRr := Lib.hid (HRu.out T gt ps Aa n ca (towardN ps s) (f : Int) V HM.out.tr HG.out (HM.out.ar.inA (toward_ints HG.out HS.out) (by rw [HTl.out]; exact hn32)) hf0)
  rw [HG.out.runI_yes HS.out HFn.out] at HRr
  have HFi : Hid (Ints (towardN ps f)) := Lib.hid (toward_ints HG.out HFn.out)
  have HQd : Hid (decide (QuietL ps (towardN ps f)) = true) := Lib.hid (decide_eq_true (HG.out.quiet_iff.2 ⟨f, HFn.out, rfl⟩))
  have HSf : Hid (sinksI (towardN ps f) = [(f : Int)]) := Lib.hid (by unfold sinksI; rw [HG.out.sinks_toward HFn.out]; rfl)
  have t1 : decide (f < 0) = false := decide_eq_false (by omega)
  have t2 : decide (n ≤ f) = false := decide_eq_false (by omega)
  have t3 : ((s : Int) != (s : Int)) = false := by simp
  have t4 : ((n : Int) != (n : Int)) = false := by simp
  clear hff
  go_wp2_with fail
  refine HRr.out.mono ?_
  rintro e w5 ⟨v5, rfl, ho, hb⟩
  obtain ⟨Ab, cb, rfl⟩ := ho.sl
  rw [HTl.out] at ho ⊢
  have HM5 := Lib.hid (HM.out.next hb)
  have HN5 : Hid (OwnN w5 w.heap.size (.slice Ab n cb) (towardN ps f)) := Lib.hid (ho.lowN HM.out.bel.size)
  clear ho hb HRr cf0 HM
  have HQr := Lib.hid (HQu.out T gt ps Ab n cb (towardN ps f) w5 HM5.out.tr HG.out (HN5.out.inA HFi.out (by rw [HTl.out]; exact hn32)))
  rw [HQd.out] at HQr
  go_wp2_with fail
  refine HQr.out.mono ?_
  rintro e w6 ⟨rfl, hb⟩
  have HM6 := Lib.hid (HM5.out.next hb)
  have HN6 := Lib.hid (OwnN.below HN5.out hb)
  clear hb HM5 HN5 HQr HQd
  have HSr := Lib.hid (HSi.out Ab n cb (towardN ps f) w6 (HN6.out.inA HFi.out (by rw [HTl.out]; exact hn32)))
  rw [HSf.out] at HSr
  go_wp2_with fail
  refine HSr.out.mono ?_
  rintro e w7 ⟨v7, rfl, ho, hb⟩
  obtain ⟨A7, c7, rfl⟩ := ho.sl
  have HM7 := Lib.hid (HM6.out.next hb)
  have HN7 := Lib.hid (OwnN.below HN6.out hb)
  have HO7 : Hid (OwnN w7 w6.heap.size (.slice A7 1 c7) [(f : Int)]) := Lib.hid ho
  clear ho hb HM6 HN6 HSr HSf
  have hb : Below w7.heap.size w7 (w7.alloc (.cells #[.int .i64 (f : Int)] 3)) := (Below.refl _ _).alloc (Nat.le_refl _) _
  have HSm := Lib.hid (same_refl A7 (some ⟨w7.heap.size, 0, none⟩) 1 c7 1 1 [(f : Int)] (w7.alloc (.cells #[.int .i64 (f : Int)] 3)) _ _ (ownN_reads' (OwnN.below HO7.out hb)) (ownN_reads' (OwnN.lit w7 w7.heap.size (f : Int) (Nat.le_refl _))) (by omega))
  have HMa := Lib.hid (HM7.out.next hb)
  have HNa := Lib.hid (OwnN.below HN7.out hb)
  clear hb HM7 HN7
  go_wp2_with fail
  refine HSm.out.mono ?_
  rintro e w8 ⟨rfl, kd, hw⟩
  have hb : Below (w7.alloc (.cells #[.int .i64 (f : Int)] 3)).heap.size (w7.alloc (.cells #[.int .i64 (f : Int)] 3)) w8 := hw ▸ below_drewA (Below.refl _ _) kd
  have HM8 := Lib.hid (HMa.out.next hb)
  have HN8 := Lib.hid (OwnN.below HNa.out hb)
  clear hb HMa HNa hw HSm HO7
  obtain ⟨gm, hgm⟩ : ∃ x, x = w8.heap.size := ⟨_, rfl⟩
  go_wp2_with (first
    | (at_make; refine makeBt w8 rfl (.tmp 110) (.tmp 110) rfl .i64 .i64 _ _ n rfl rfl rfl rfl (by omega) ?_; intro w9 hbt hb3; rw [← hgm] at hbt ⊢; have HT9 : Hid (BlkT w9 gm (onL n [])) := Lib.hid (by rw [onL_nil]; exact hbt); have HM9 := Lib.hid (HM8.out.next hb3); have HN9 := Lib.hid (OwnN.below HN8.out hb3); have HW8 : Hid (w.heap.size ≤ w8.heap.size) := Lib.hid HM8.out.bel.size; have HNl : Hid (∀ b, (Value.slice Ab n cb).ownBlock = some b → b < w8.heap.size) := Lib.hid (ownN_lt HN8.out); have HAl9 : Hid (∀ b, (Value.slice Aa n ca).ownBlock = some b → b < w8.heap.size) := Lib.hid (ownN_lt HM8.out.ar); have HRl9 : Hid (∀ b, (Value.slice (some ⟨gl, ol, none⟩) m cl).ownBlock = some b → b < w8.heap.size) := Lib.hid (ownN_lt HM8.out.row); have HTl9 : Hid (∀ b, TrB T gt b → b < w8.heap.size) := Lib.hid HM8.out.tr.lt; have hmk8 := HM8.out.mks; have HMl : Hid (∀ d ∈ ds, ∀ k, d = { target := .collected k, args := #[] } → k < w8.heap.size) := Lib.hid hmk8.lt; have HGm := Lib.hid hgm; clear hbt hb3 hmk8 HM8 HN8 hgm)
    | fail)
  have HP := Lib.hid (path_any A n c ps (f : Int) (s : Int) w9 w.heap.size (HRd.out.below HM9.out.bel) HM9.out.bel.size HG.out)
  rw [HG.out.path_in HFn.out HS.out] at HP
  refine HP.out.mono ?_
  rintro e w10 ⟨v10, rfl, ho, hb⟩
  obtain ⟨A10, c10, rfl⟩ := ho.sl
  obtain ⟨lp, hlp⟩ : ∃ k, k = (ints (pathN ps f s)).length := ⟨_, rfl⟩
  have HLp : Hid ((pathN ps f s).length = lp) := Lib.hid (by rw [hlp]; simp [ints])
  have hlp32 : lp ≤ 32 := by rw [hlp]; exact HG.out.path_len32 HFn.out HS.out
  rw [← hlp] at ho ⊢
  have HO10 := Lib.hid ho
  have HM10 := Lib.hid (HM9.out.next hb)
  have HN10 := Lib.hid (OwnN.below HN9.out hb)
  have HT10 : Hid (BlkT w10 gm (onL n [])) := Lib.hid (Blk.below HT9.out hb (BlkT.lt HT9.out))
  have HG9 : Hid (gm < w9.heap.size) := Lib.hid (BlkT.lt HT9.out)
  clear ho hb hlp HM9 HN9 HT9 HP
  go_wp2
  go_loopw [19, 117] (fun _ j wr => ∃ k : Nat, j = .int .i64 k ∧ k ≤ lp ∧ BlkT wr gm (onL n ((pathN ps f s).take k)) ∧ OnlyS (fun b => b = gm) w10 wr) (fun _ j _ => lp - (intOf j).toNat)
  case atStart => exact ⟨0, rfl, by omega, HT10.out, OnlyS.refl _ _⟩
  case round =>
    obtain ⟨k, rfl, hk, hbt, hO⟩ := hrel
    obtain ⟨w11, rfl⟩ : ∃ v : World, v = wr := ⟨_, rfl⟩
    have HT11 := Lib.hid hbt
    have HO11 := Lib.hid hO
    have ht : Turned _ w10 w11 := ⟨hO.os, hO.tape, hO.output, hO.size, hO.block⟩
    by_cases hkl : k < lp
    · have hrow := HO10.out.turned ht (fun b hb e => by have h1 := ownN_base HO10.out b hb; have h2 := HG9.out; have e : b = gm := e; omega)
      obtain ⟨g10, o10, rfl, _, hc10⟩ := (ownN_reads' hrow).i64 (by omega)
      have c0 := hc10 k hkl
      obtain ⟨y, hy⟩ : ∃ y, (pathN ps f s)[k]? = some y := ⟨_, List.getElem?_eq_getElem (by rw [HLp.out]; exact hkl)⟩
      have hyn : y < n := by rw [← HL.out]; exact (((HG.out.way_path HFn.out HS.out).get k y hy)).1
      rw [List.getD_eq_getElem?_getD, show (ints (pathN ps f s))[k]? = some (y : Int) by unfold ints; rw [List.getElem?_map, hy]; rfl] at c0
      have c1 : w11.cell? ⟨g10, o10 + k, none⟩ = some (.int .i64 (y : Int)) := c0
      have fy : w11.frozen? ⟨gm, y, none⟩ = false := Blk.frozen hbt y
      obtain ⟨by0, hby0⟩ : ∃ b0, (onL n ((pathN ps f s).take k))[y]? = some b0 := ⟨_, onL_get hyn⟩
      have cy := hbt.at_ hby0
      have yi : (y : Int) < (n : Int) := by omega
      have HTn : Hid (BlkT (w11.setCell ⟨gm, y, none⟩ (.bool true)) gm (onL n ((pathN ps f s).take (k + 1)))) := Lib.hid (by
        have h1 := HT11.out.set_ y true
        rw [onL_set hyn] at h1
        rw [List.take_succ_eq_append_getElem (by rw [HLp.out]; exact hkl)]
        rw [List.getElem?_eq_getElem (by rw [HLp.out]; exact hkl)] at hy
        injection hy with hy
        rw [hy]; exact h1)
      clear hc10 c0 hy hby0 hrow ht hO hbt
      go_wp2
      go_roundw
      case rel => exact ⟨k + 1, by go_num, by omega, HTn.out, onlyS_setAt' HO11.out rfl y _⟩
      case measure => simp [intOf]; omega
    · have HTp : Hid (BlkT w11 gm (onL n (pathN ps f s))) := Lib.hid (by
        have h1 := HT11.out
        rw [List.take_of_length_le (by rw [HLp.out]; omega)] at h1
        exact h1)
      have HN11 := Lib.hid (HN10.out.turned ht (fun b hb e => by have h1 := HNl.out b hb; have h9 := HGm.out; have e : b = gm := e; omega))
      have HM11 : Hid (RvM w T gt ps n s Aa ca (some ⟨gl, ol, none⟩) m cl L ds w11) := Lib.hid ⟨OnlyS.bel HM10.out.bel hO (fun b hb => by have h1 := HW8.out; have h9 := HGm.out; have hb : b = gm := hb; omega) HM10.out.bel.size, HM10.out.tr.stay ⟨hO.size, fun b hb => hO.block b (HM10.out.tr.lt b hb) (fun e => by have h1 := HTl9.out b hb; have h9 := HGm.out; have e : b = gm := e; omega)⟩, HM10.out.ar.turned ht (fun b hb e => by have h1 := HAl9.out b hb; have h9 := HGm.out; have e : b = gm := e; omega), HM10.out.row.turned ht (fun b hb e => by have h1 := HRl9.out b hb; have h9 := HGm.out; have e : b = gm := e; omega), HM10.out.mks.keep hO.size (fun q ⟨d, hd, he⟩ => hO.block q (HM10.out.mks.lt d hd q he) (fun e => by have h1 := HMl.out d hd q he; have h9 := HGm.out; have e : q = gm := e; omega))⟩
      clear ht hO hbt HT11 HO11 HM10 HN10 HT10 HO10
      go_wp2
      go_loopw [20, 127] (fun _ j wr => ∃ v : Nat, j = .int .i64 v ∧ v ≤ n ∧ ∃ kd, wr = w11.drewN kd) (fun _ j _ => n - (intOf j).toNat)
      case atStart => exact ⟨0, rfl, by omega, 0, rfl⟩
      case round =>
        obtain ⟨v, rfl, hv, kd, rfl⟩ := hrel
        by_cases hvn : v < n
        · have hvp : v < ps.length := by rw [HL.out]; exact hvn
          have HTi := Lib.hid (HG.out.turn_iff HFn.out HS.out hvp)
          obtain ⟨ga, ea⟩ : ∃ g, Aa = some ⟨g, 0, none⟩ := by
            obtain ⟨g, c9, e⟩ := HM11.out.ar.row_ (by rw [HTl.out]; omega)
            injection e with e1 e2 e3
            exact ⟨g, e1⟩
          obtain ⟨gb, eb⟩ : ∃ g, Ab = some ⟨g, 0, none⟩ := by
            obtain ⟨g, c9, e⟩ := HN11.out.row_ (by rw [HTl.out]; omega)
            injection e with e1 e2 e3
            exact ⟨g, e1⟩
          subst ea
          subst eb
          obtain ⟨-, -, -, qa, -⟩ := HM11.out.ar.at_
          obtain ⟨-, -, -, qb, -⟩ := HN11.out.at_
          have ca0 := qa v hvn
          have cb0 := qb v hvn
          rw [at_get (by rw [HTl.out]; exact hvn), towardN_at hvp] at ca0 cb0
          have co0 := HTp.out.at_ (onL_get hvn)
          obtain ⟨x, hx⟩ : ∃ x, x = nx ps v s := ⟨_, rfl⟩
          obtain ⟨y, hy⟩ : ∃ y, y = nx ps v f := ⟨_, rfl⟩
          rw [← hx] at ca0 HTi
          rw [← hy] at cb0 HTi
          have ca : ∀ k, (w11.drewN k).cell? ⟨ga, v, none⟩ = some (.int .i64 (x : Int)) := fun _ => ca0
          have cb : ∀ k, (w11.drewN k).cell? ⟨gb, v, none⟩ = some (.int .i64 (y : Int)) := fun _ => cb0
          have vi : (v : Int) < (n : Int) := by omega
          clear qa qb ca0 cb0 hx hy
          by_cases hin : v ∈ pathN ps f s
          · rw [decide_eq_true hin] at co0
            have co : ∀ k, (w11.drewN k).cell? ⟨gm, v, none⟩ = some (.bool true) := fun _ => co0
            by_cases hfs : f = s
            · have hxy : y = x := Classical.byContradiction fun h => (HTi.out.1 h).2 hfs
              have u1 : ((y : Int) != (x : Int)) = false := by simp [hxy]
              have u2 : ((f : Int) != (s : Int)) = false := by simp [hfs]
              clear hxy hfs hin co0
              go_wp2_with fail
              go_quiet (fail)
              go_wp2
              go_roundw
              case rel => exact ⟨v + 1, by go_num, by omega, _, rfl⟩
              case measure => simp [intOf]; omega
            · have hxy : y ≠ x := HTi.out.2 ⟨hin, hfs⟩
              have u1 : ((y : Int) != (x : Int)) = true := by simp; omega
              have u2 : ((f : Int) != (s : Int)) = true := by simp; omega
              clear hxy hfs hin co0
              go_wp2_with fail
              go_quiet (fail)
              go_wp2
              go_roundw
              case rel => exact ⟨v + 1, by go_num, by omega, _, rfl⟩
              case measure => simp [intOf]; omega
          · rw [decide_eq_false hin] at co0
            have co : ∀ k, (w11.drewN k).cell? ⟨gm, v, none⟩ = some (.bool false) := fun _ => co0
            have hxy : y = x := Classical.byContradiction fun h => hin (HTi.out.1 h).1
            have u1 : ((y : Int) != (x : Int)) = false := by simp [hxy]
            clear hxy hin co0
            go_wp2_with fail
            go_quiet (fail)
            go_wp2
            go_roundw
            case rel => exact ⟨v + 1, by go_num, by omega, _, rfl⟩
            case measure => simp [intOf]; omega
        · have hve : v = n := by omega
          obtain ⟨w12, hw12⟩ : ∃ x, x = w11.drewN kd := ⟨_, rfl⟩
          have HM12 : Hid (RvM w T gt ps n f Ab cb (some ⟨gl, ol, none⟩) m cl L ds w12) := Lib.hid (by rw [hw12]; exact ⟨below_drewA HM11.out.bel kd, HM11.out.tr.drewN kd, HN11.out, HM11.out.row, HM11.out.mks.below (below_drewA (Below.refl _ _) kd)⟩)
          rw [← hw12]
          clear hw12 HTp HM11 HN11 HNl HAl9 HRl9 HTl9 HMl HG9 HW8 HLp
          go_wp2
          have HNo : Hid (∀ b, (Value.slice Ab n cb).ownBlock = some b → w.heap.size ≤ b) := Lib.hid (ownN_base HM12.out.ar)
          refine wp_loop (fun a V => ∃ (v : Nat) (ds : List Deferred), a = { tmps := #[.slice A n c, a.tmps.getD 1 undef, a.tmps.getD 2 undef, a.tmps.getD 3 undef, a.tmps.getD 4 undef, a.tmps.getD 5 undef, a.tmps.getD 6 undef, .pointer (some ⟨T, 0, none⟩), a.tmps.getD 8 undef, .slice Ab n cb, .int .i64 (f : Int), a.tmps.getD 11 undef, a.tmps.getD 12 undef, a.tmps.getD 13 undef, a.tmps.getD 14 undef, a.tmps.getD 15 undef, a.tmps.getD 16 undef, a.tmps.getD 17 undef, a.tmps.getD 18 undef, a.tmps.getD 19 undef, a.tmps.getD 20 undef, a.tmps.getD 21 undef, a.tmps.getD 22 undef, a.tmps.getD 23 undef, a.tmps.getD 24 undef, a.tmps.getD 25 undef, a.tmps.getD 26 undef, a.tmps.getD 27 undef, a.tmps.getD 28 undef, a.tmps.getD 29 undef, a.tmps.getD 30 undef, a.tmps.getD 31 undef, a.tmps.getD 32 undef, a.tmps.getD 33 undef, a.tmps.getD 34 undef, a.tmps.getD 35 undef, a.tmps.getD 36 undef, a.tmps.getD 37 undef, a.tmps.getD 38 undef, a.tmps.getD 39 undef, a.tmps.getD 40 undef, a.tmps.getD 41 undef, a.tmps.getD 42 undef, a.tmps.getD 43 undef, a.tmps.getD 44 undef, a.tmps.getD 45 undef, a.tmps.getD 46 undef, a.tmps.getD 47 undef, a.tmps.getD 48 undef, a.tmps.getD 49 undef, a.tmps.getD 50 undef, a.tmps.getD 51 undef, a.tmps.getD 52 undef, a.tmps.getD 53 undef, a.tmps.getD 54 undef, .slice (some ⟨gl, ol, none⟩) m cl, .int .i64 (m : Int), .int .i64 (i : Int), a.tmps.getD 58 undef, a.tmps.getD 59 undef, a.tmps.getD 60 undef, a.tmps.getD 61 undef, a.tmps.getD 62 undef, a.tmps.getD 63 undef, a.tmps.getD 64 undef, a.tmps.getD 65 undef, a.tmps.getD 66 undef, a.tmps.getD 67 undef, a.tmps.getD 68 undef, a.tmps.getD 69 undef, a.tmps.getD 70 undef, a.tmps.getD 71 undef, a.tmps.getD 72 undef, a.tmps.getD 73 undef, a.tmps.getD 74 undef, a.tmps.getD 75 undef, a.tmps.getD 76 undef, a.tmps.getD 77 undef, a.tmps.getD 78 undef, a.tmps.getD 79 undef, a.tmps.getD 80 undef, a.tmps.getD 81 undef, a.tmps.getD 82 undef, a.tmps.getD 83 undef, a.tmps.getD 84 undef, a.tmps.getD 85 undef, a.tmps.getD 86 undef, a.tmps.getD 87 undef, a.tmps.getD 88 undef, a.tmps.getD 89 undef, a.tmps.getD 90 undef, a.tmps.getD 91 undef, a.tmps.getD 92 undef, a.tmps.getD 93 undef, a.tmps.getD 94 undef, a.tmps.getD 95 undef, a.tmps.getD 96 undef, a.tmps.getD 97 undef, a.tmps.getD 98 undef, a.tmps.getD 99 undef, a.tmps.getD 100 undef, a.tmps.getD 101 undef, a.tmps.getD 102 undef, a.tmps.getD 103 undef, a.tmps.getD 104 undef, a.tmps.getD 105 undef, a.tmps.getD 106 undef, a.tmps.getD 107 undef, a.tmps.getD 108 undef, a.tmps.getD 109 undef, a.tmps.getD 110 undef, a.tmps.getD 111 undef, a.tmps.getD 112 undef, a.tmps.getD 113 undef, a.tmps.getD 114 undef, a.tmps.getD 115 undef, a.tmps.getD 116 undef, a.tmps.getD 117 undef, a.tmps.getD 118 undef, a.tmps.getD 119 undef, a.tmps.getD 120 undef, a.tmps.getD 121 undef, a.tmps.getD 122 undef, a.tmps.getD 123 undef, a.tmps.getD 124 undef, a.tmps.getD 125 undef, a.tmps.getD 126 undef, a.tmps.getD 127 undef, a.tmps.getD 128 undef, a.tmps.getD 129 undef, a.tmps.getD 130 undef, a.tmps.getD 131 undef, a.tmps.getD 132 undef, a.tmps.getD 133 undef, a.tmps.getD 134 undef, a.tmps.getD 135 undef, a.tmps.getD 136 undef, a.tmps.getD 137 undef, a.tmps.getD 138 undef, a.tmps.getD 139 undef, a.tmps.getD 140 undef, a.tmps.getD 141 undef, a.tmps.getD 142 undef, a.tmps.getD 143 undef, a.tmps.getD 144 undef, a.tmps.getD 145 undef, a.tmps.getD 146 undef, a.tmps.getD 147 undef, a.tmps.getD 148 undef, a.tmps.getD 149 undef, a.tmps.getD 150 undef, a.tmps.getD 151 undef, a.tmps.getD 152 undef, .int .i64 (n : Int), .int .i64 (v : Int), a.tmps.getD 155 undef, a.tmps.getD 156 undef, a.tmps.getD 157 undef, a.tmps.getD 158 undef, a.tmps.getD 159 undef, a.tmps.getD 160 undef, a.tmps.getD 161 undef, a.tmps.getD 162 undef, a.tmps.getD 163 undef, a.tmps.getD 164 undef, a.tmps.getD 165 undef, a.tmps.getD 166 undef, a.tmps.getD 167 undef, a.tmps.getD 168 undef, a.tmps.getD 169 undef, a.tmps.getD 170 undef, a.tmps.getD 171 undef, a.tmps.getD 172 undef, a.tmps.getD 173 undef], defers := ds } ∧ v ≤ n ∧ RvM w T gt ps n f Ab cb (some ⟨gl, ol, none⟩) m cl L ds V) (fun a _ => n - (intOf (a.tmps.getD 154 undef)).toNat) ?_ ?_
          case refine_1 => exact ⟨0, ds, rfl, by omega, HM12.out⟩
          clear HM12
          rintro a V2 ⟨v, ds2, ha, hv, hM⟩
          obtain ⟨u2, hu⟩ : ∃ u : Nat → Value, ∀ j, a.tmps.getD j undef = u j := ⟨_, fun _ => rfl⟩
          simp only [hu] at ha
          clear hu
          subst ha
          have HM := Lib.hid hM
          clear hM
          by_cases hvn : v < n
          case neg =>
            go_wp2
            refine ⟨⟨i + 1, ds2, Ab, cb, f, rfl, by omega, hfn, HM.out⟩, ?_⟩
            show m - ((i : Int) + 1).toNat < m - ((i : Int)).toNat
            omega
          case pos =>
          have hvp : v < ps.length := by rw [HL.out]; exact hvn
          have HVp := Lib.hid hvp
          have vi : (v : Int) < (n : Int) := by omega
          clear hvp
          go_wp2_with fail
          obtain ⟨xw, hxw⟩ : ∃ x, x = V2.heap.size := ⟨_, rfl⟩
          obtain ⟨W1, hW1⟩ : ∃ W1, W1 = V2.alloc (.cells #[.slice none 0 0] 26) := ⟨_, rfl⟩
          have hb : Below V2.heap.size V2 W1 := hW1 ▸ (Below.refl _ _).alloc (Nat.le_refl _) _
          have HK1 : Hid (Blk W1 xw 26 #[.slice none 0 0]) := Lib.hid (by rw [hW1, hxw]; exact Blk.new V2 _ _)
          have HM1 := Lib.hid (HM.out.next hb)
          have HXn : Hid (∀ b, b < V2.heap.size → b ≠ xw) := Lib.hid (fun b h => by omega)
          have HXw : Hid (w.heap.size ≤ xw) := Lib.hid (by rw [hxw]; exact HM.out.bel.size)
          have HTv : Hid (∀ b, TrB T gt b → b ≠ xw) := Lib.hid (fun b h => HXn.out b (HM.out.tr.lt b h))
          have HDv : Hid (∀ d ∈ ds2, ∀ k, d = { target := .collected k, args := #[] } → k < V2.heap.size) := Lib.hid HM.out.mks.lt
          rw [← hW1, ← hxw]
          clear hb hW1 hxw HM
          have HFr := Lib.hid (HFo.out Ab n cb (towardN ps f) (v : Int) W1 (HM1.out.ar.inA (toward_ints HG.out HFn.out) (by rw [HTl.out]; exact hn32)) ⟨by omega, by omega⟩)
          refine HFr.out.mono ?_
          rintro e W2 ⟨vw, R, rfl, hseq, hb, hR⟩
          rw [HG.out.follow_way HFn.out HVp.out, HG.out.path_in HVp.out HFn.out] at hseq
          have SE := Lib.hid hseq
          have HK2 := Lib.hid (HK1.out.below hb HK1.out.lt)
          have HM2 := Lib.hid (HM1.out.next hb)
          have HRx : Hid (∀ b, R b → b < W2.heap.size ∧ b ≠ xw) := Lib.hid (fun b h => ⟨hseq.lt b h, by have h1 := hR b h; have h2 := HK1.out.lt; omega⟩)
          clear hb hseq hR HK1 HM1 HFr
          obtain ⟨l, hl⟩ : ∃ l, l = ints (pathN ps v f) := ⟨_, rfl⟩
          have HLl2 : Hid (l.length ≤ 32) := Lib.hid (by rw [hl]; exact HG.out.path_len32 HVp.out HFn.out)
          have HLe := Lib.hid hl
          rw [← hl] at SE
          clear hl
          obtain ⟨gf, pb, lb, hv6, en, hq1, hq2⟩ := SE.out
          clear hq1 hq2
          subst hv6
          have EN := Lib.hid en
          clear en
          have hxl : xw < W2.heap.size := HK2.out.lt
          go_wp2_with fail
          refine (wpIn_wide (n := 9)).1 ?_
          refine' range_boundG (α := Int) (gf := gf) (pb := pb) (lb := lb) rfl EN.out (SE.out.at_ _) (fun h k => Stay.trans h k) (stay_b SE.out.lt) (fun _ => rfl) OkA.put
            (fun F pre V => BoxF W2 xw F pre V) (fun cc F pre V => False)
            (BoxF.foot hxl) (fun cc => fun F s A B hs ht => hs)
            ⟨⟨none, 0, 0, HK2.out, OwnN.none_ _ _, fun b hb => by simp [Value.ownBlock] at hb⟩, OnlyS.refl _ _⟩
            _ ?assign1 ?body1 ?done1 ?stop1
          case assign1 =>
            intro lp y V K hK
            gi_wp2
            exact hK
          case stop1 =>
            rintro D cc F pre V hD hpre hFl hf hK
            exact hf.elim
          case body1 =>
            rintro lp F pre y V hlp hrec hFl hI ⟨B', hB', hok⟩
            obtain ⟨⟨Af, nf, cf, h1, h2, h3⟩, hO⟩ := hI
            obtain ⟨hlt, hgt⟩ := OkA.next (B := 0) (W := V) hok
            have cx : V.cell? ⟨xw, 0, none⟩ = some (.slice Af nf cf) := h1.cell 0
            have hlen : (pre.length + 1) * 8 ≤ 140737488355328 := by have := HLl2.out; omega
            have hVs : W2.heap.size ≤ V.heap.size := hO.size
            have H1 := Lib.hid h1
            have H2 := Lib.hid h2
            have H3 := Lib.hid h3
            have HO := Lib.hid hO
            have HFl := Lib.hid hFl
            clear h1 h2 h3 hO hFl hok hgt
            gi_wp2_with (first
              | (gi_at_builtin; refine appNAt V y rfl (.tmp 161) (.tmp 163) rfl W2.heap.size (.slice Af nf cf) pre rfl H2.out rfl hlen hVs ?_; intro v5 w5 hown5 hg5 hat5; obtain ⟨A5, n5, c5, rfl⟩ := ownN_slice' hown5; have k5 := (H1.out.alloc (.cells #[.int .i64 y] 3)).grown hg5 (fun e => ownN_neT (by decide) H2.out H1.out e.symm); have HPu := Lib.hid (BoxF.push hxl H1.out H2.out H3.out HO.out (fun b hb => (HFl.out b hb).2) hown5 hg5 hat5 HRx.out); have cx5 : w5.cell? ⟨xw, 0, none⟩ = some (.slice Af nf cf) := k5.cell 0; have fx5 : w5.frozen? ⟨xw, 0, none⟩ = false := k5.frozen 0; clear k5 hown5 hg5 hat5 cx)
              | fail)
            exact HPu.out
          case done1 =>
            rintro D1 F ys W3 hD hys hFl ⟨⟨Af, nf, cf, h1, h2, h3⟩, hO⟩ hK
            obtain rfl : ys = l := hys
            have ht : Turned _ W2 W3 := ⟨hO.os, hO.tape, hO.output, hO.size, hO.block⟩
            have HK3 := Lib.hid h1
            have HW3 : Hid (OwnN W3 W2.heap.size (.slice Af nf cf) ys) := Lib.hid h2
            have HM3 : Hid (RvM w T gt ps n f Ab cb (some ⟨gl, ol, none⟩) m cl L ({ target := .collected D1, args := #[] } :: ds2) W3) := Lib.hid ⟨OnlyS.bel HM2.out.bel hO (fun b hb => by have h5 := HXw.out; have hb : b = xw := hb; omega) HM2.out.bel.size, HM2.out.tr.stay ⟨hO.size, fun b hb => hO.block b (HM2.out.tr.lt b hb) (fun e => HTv.out b hb e)⟩, HM2.out.ar.turned ht (fun b hb e => ownN_neT (by decide) HM2.out.ar HK2.out (by rw [← (show b = xw from e)]; exact hb)), HM2.out.row.turned ht (fun b hb e => ownN_neT (by decide) HM2.out.row HK2.out (by rw [← (show b = xw from e)]; exact hb)), ((HM2.out.mks.keep hO.size (fun q ⟨d, hd, he⟩ => hO.block q (HM2.out.mks.lt d hd q he) (fun e => HXn.out q (HDv.out d hd q he) e)))).cons (fun d hd k he => by have h5 := HM2.out.mks.lt d hd k he; omega) (by have := HM2.out.bel.size; omega) hK⟩
            have cx : W3.cell? ⟨xw, 0, none⟩ = some (.slice Af nf cf) := h1.cell 0
            have HLn : Hid (ys.length = nf) := Lib.hid (ownN_len' h2)
            have hnf : nf ≤ 32 := by rw [← HLn.out]; exact HLl2.out
            clear ht h1 h2 h3 hO hFl hK HK2 HM2 SE EN
            have HPt : Hid (∀ W, Below W3.heap.size W3 W → Calls Try.prog 25 #[.slice A n c, .int .i64 (v : Int), .int .i64 (f : Int)] W fun e W' => ∃ A4 c4, e = .returned (.slice A4 nf c4) ∧ OwnN W' W.heap.size (.slice A4 nf c4) ys ∧ Below W3.heap.size W3 W') := Lib.hid (fun W hb => (path_any A n c ps (v : Int) (f : Int) W w.heap.size (HRd.out.below (HM3.out.bel.trans (hb.mono HM3.out.bel.size))) (Nat.le_trans HM3.out.bel.size hb.size) HG.out).mono fun e W' h => by
              obtain ⟨v4, e1, ho, hb2⟩ := h
              rw [HG.out.path_in HVp.out HFn.out, ← HLe.out] at ho
              obtain ⟨A4, c4, e2⟩ := ho.sl
              rw [HLn.out] at e2
              subst e2
              exact ⟨A4, c4, e1, ho, hb.trans (hb2.mono hb.size)⟩)
            have HSa : Hid (∀ W A4 c4 B4, Below W3.heap.size W3 W → OwnN W B4 (.slice A4 nf c4) ys → Calls Try.prog 16 #[.slice Af nf cf, .slice A4 nf c4] W fun e w' => e = .returned (.bool true) ∧ ∃ k, w' = W.drewN k) := Lib.hid (fun W A4 c4 B4 hb ho => same_refl Af A4 nf cf nf c4 ys W _ _ (ownN_reads' (OwnN.below HW3.out hb)) (ownN_reads' ho) (by omega))
            have HCx : Hid (∀ W, Below W3.heap.size W3 W → W.cell? ⟨xw, 0, none⟩ = some (.slice Af nf cf)) := Lib.hid (fun W hb => (HK3.out.below hb HK3.out.lt).cell 0)
            go_wp2_with fail
            refine wp_region_noPanic ?_
            go_region_held3 (fun w' => w'.cell? ⟨xw, 0, none⟩ = some (.slice Af nf cf)) (first | exact cx | exact Z1 | exact Z2 | go_keep) (first
              | (go_at_call 25; go_loud (refine (HPt.out W3.drew (below_drewA (Below.refl _ W3) 1)).mono ?_; rintro e W4 ⟨A4, c4, rfl, ho4, hb4⟩; have HO4 := Lib.hid ho4; have HB4 := Lib.hid hb4; have Z1 := HCx.out W4 hb4; clear ho4 hb4))
              | (go_at_call 16; refine (HSa.out W4 A4 c4 _ HB4.out HO4.out).mono ?_; rintro e W5 ⟨rfl, kd5, hw5⟩; have hb5 : Below W3.heap.size W3 W5 := hw5 ▸ below_drewA HB4.out kd5; have HB5 := Lib.hid hb5; have Z2 := HCx.out W5 hb5; clear hw5 hb5))
            all_goals refine NoPanic.normal ?_
            all_goals go_wp2
            refine ⟨⟨v + 1, _, rfl, by omega, HM3.out.next HB5.out⟩, ?_⟩
            show n - ((v : Int) + 1).toNat < n - ((v : Int)).toNat
            omega
end Go.Proofs.Ytcomiininaemhaa.Pk
