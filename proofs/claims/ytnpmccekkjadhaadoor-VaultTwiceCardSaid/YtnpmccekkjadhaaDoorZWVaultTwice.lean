/- The walk of the law VaultTwice. -/
import Derived.Test.YtnpmccekkjadhaaDoorZWak
import Derived.Test.YtnpmccekkjadhaaDoorZVkHeavy
import Derived.Test.YtnpmccekkjadhaaDoorZArg
import Derived.Test.YtnpmccekkjadhaaDoorZDskB
namespace Go.Proofs.YtnpmccekkjadhaaDoor.Pk
open Go.RowKit Go.Proofs.YtnpmccekkjadhaaDoor.Ar Go.Proofs.YtnpmccekkjadhaaDoor.Crc Go.Proofs.YtnpmccekkjadhaaDoor.Fr Go.Proofs.YtnpmccekkjadhaaDoor.Dk Go.Proofs.YtnpmccekkjadhaaDoor.Vk
set_option linter.unusedVariables false

set_option maxRecDepth 100000 in
set_option maxHeartbeats 4000000 in
theorem law_VaultTwice (openC : OpenC) (appendC : AppendC) (countC : CountC) (genC : GenC) (a : Option Addr) (n c : Nat) (l : List Int) (b : Option Addr) (m e : Nat) (r : List Int) (f : Option Addr) (k j : Nat) (s : List Int) (w : World) (ht : Tab w) (h1 : ArgB w a n c l) (h2 : ArgB w b m e r) (h3 : ArgB w f k j s) :
    Calls Tryd.prog 4 #[.slice a n c, .slice b m e, .slice f k j] w fun e w' => e = .returned (.bool true) ∧ Below w.heap.size w w' := by
  obtain ⟨hr1, hc1, hx1, hB1⟩ := h1
  obtain ⟨hr2, hc2, hx2, hB2⟩ := h2
  have hnm : n + m ≤ 562949953421312 := by omega
  clear hx1 hx2
  obtain ⟨hr3, hc3, _, hB3⟩ := h3
  have hl1 : l.length = n := by have := hr1.1; simpa using this
  have hl2 : r.length = m := by have := hr2.1; simpa using this
  have hl3 : s.length = k := by have := hr3.1; simpa using this
  have HO := Lib.hid openC
  have HA := Lib.hid appendC
  have HC := Lib.hid countC
  have HGe := Lib.hid genC
  have HT := Lib.hid ht
  have HR1 := Lib.hid hr1
  have HR2 := Lib.hid hr2
  have HR3 := Lib.hid hr3
  have HB1 : Hid (Bytes l) := Lib.hid hB1
  have HB2 : Hid (Bytes r) := Lib.hid hB2
  have HB3 : Hid (Bytes s) := Lib.hid hB3
  have HL1 := Lib.hid hl1
  have HL2 := Lib.hid hl2
  have HL3 := Lib.hid hl3
  have HC3 := Lib.hid hc3
  have hp := ht.pos
  have HP := Lib.hid hp
  clear openC appendC countC genC ht hr1 hr2 hr3 hB1 hB2 hB3 hl1 hl2 hl3 hc1 hc2 hc3 hp
  go_enter Tryd.func4, Tryd.ntmps4
  go_wp2_with fail
  refine (wakes_any HO.out HA.out w HT.out).mono ?_
  rintro e1 w1 ⟨rfl, hb1⟩
  have HW1 := Lib.hid hb1
  clear hb1
  go_wp2_with fail
  refine (heavy_any a b none n m 0 c e 0 [] w1 hnm ⟨Reads.none_, Nat.le_refl _, by omega, fun o h => by cases h⟩).mono ?_
  rintro e2 w2 ⟨hb2, y, rfl, hy⟩
  replace HW1 := Lib.hid (HW1.out.trans (hb2.mono HW1.out.size))
  clear hb2
  cases y
  case true =>
    go_wp2
    go_ret
    exact ⟨rfl, HW1.out⟩
  case false =>
  have hbulk : n + m ≤ 2097152 := by have := (hy rfl).1; omega
  clear hy hnm
  by_cases hk : 65536 < k
  case pos =>
    go_wp2
    go_ret
    exact ⟨rfl, HW1.out⟩
  have hk' : k ≤ 65536 := by omega
  clear hk
  go_wp2_with fail
  refine (load_any a b n c m e l r w2 ((HR1.out.below HW1.out).more HW1.out.size) ((HR2.out.below HW1.out).more HW1.out.size) (by omega) (by omega)).mono ?_
  rintro e3 w3 ⟨R, S, rfl, hD, hS, hb3⟩
  have HW3 := Lib.hid (HW1.out.trans (hb3.mono HW1.out.size))
  have hSw : ∀ b, S b → w.heap.size ≤ b := fun b hb => Nat.le_trans HW1.out.size (hS b hb)
  have hfr : Free S f k := fun h0 ad e hs => by
    obtain ⟨ad', e', hlt, _⟩ := HR3.out.2 h0
    rw [e] at e'; injection e' with e'; subst e'
    have := hSw _ hs; omega
  have hdb : DkB (DK.new l r) := ⟨by show Bytes (l ++ []); rw [List.append_nil]; exact HB1.out, by show Bytes (r ++ []); rw [List.append_nil]; exact HB2.out⟩
  have hft : (DK.new l r).fit 2097152 0 := DK.fit.new l r (by have := HL1.out; omega) (by have := HL2.out; omega)
  obtain ⟨d1, v, e1, f1⟩ := opn_calm (new_calm l r) hdb.1 hdb.2 s (by have := HL3.out; omega)
  have HE1 := Lib.hid e1
  have HF1 := Lib.hid f1
  have hft1 := opn_fit hft s
  rw [e1] at hft1
  have HFt1 := Lib.hid hft1
  obtain ⟨e2, f2, c2⟩ := opn_fresh f1 [] (by simp)
  have HE2 := Lib.hid e2
  have HCn := Lib.hid c2
  have HDb : Hid (DkB d1) := Lib.hid (by have h := hdb.opn (s := s) HB3.out; rw [HE1.out] at h; exact h)
  have HSw := Lib.hid hSw
  have HOp := Lib.hid (HO.out R f k j s (DK.new l r) S w3 (HT.out.next HW3.out) (fun h0 => by have := hSw 0 h0; have := HP.out; omega) hD ((HR3.out.below HW3.out).more HW3.out.size) HC3.out HB3.out hdb hfr (by omega) 2097152 0 hft (by omega) (by omega))
  clear hb3 hD hS hSw hfr hdb hft e1 f1 hft1 e2 f2 c2
  go_wp2_with fail
  refine HOp.out.mono ?_
  rintro e4 w4 hop
  unfold OpnP at hop
  rw [HE1.out] at hop
  rcases hop with ⟨hne, _⟩ | ⟨_, v', Q, vs, vr, U, lo, hi, hv, rfl, hm, ht4, hf4, hlo, hhi, hsn, hrc, hap⟩
  · exact absurd rfl hne
  injection hv with hv
  subst hv
  have hV : AtV w Q R d1 v U w4 := ⟨hm, from_base hf4 HSw.out HW3.out.size, ht4.below HW3.out HW3.out.size HSw.out⟩
  have HV := Lib.hid hV
  have HSn := Lib.hid hsn
  have HRc := Lib.hid hrc
  have HAp := Lib.hid hap
  have HHi := Lib.hid hhi
  obtain ⟨As, ns, cs, rfl, hns, hls, hrs, hbs⟩ := hsn
  obtain ⟨Ar, nr, cr, ps, rfl, hps, hrr, hrm, hbr⟩ := hrc
  obtain ⟨S4, hD4, hSU4, hst4⟩ := hm.disk
  have HD4 := Lib.hid hD4
  have HSt4 := Lib.hid hst4
  have HSU4 := Lib.hid hSU4
  clear hm ht4 hf4 hlo hhi hap hV hns hls hrs hbs hps hrr hrm hbr hD4 hst4 HOp hSU4
  go_wp2_with fail
  refine (writes_any R d1 S4 w4 HD4.out).mono ?_
  rintro e5 w5 ⟨rfl, hw5⟩
  rw [← hw5]
  clear hw5 w5
  go_wp2_with fail
  refine (HO.out R none 0 0 [] d1 S4 w4 (HV.out.tab HT.out) (fun h0 => HV.out.zero HT.out (HSU4.out 0 h0)) HD4.out Reads.none_ (Nat.le_refl _) (fun x hx => by simp at hx) HDb.out (fun h0 => by omega) (by omega) _ _ HFt1.out (by have := HL3.out; simp; omega) (by omega)).mono ?_
  rintro e6 w6 hop
  unfold OpnP at hop
  rw [HE2.out] at hop
  rcases hop with ⟨hne, _⟩ | ⟨_, v', Q6, vs6, vr6, U6, lo6, hi6, hv, rfl, hm, ht6, hf6, hlo, hhi, hsn6, hrc6, hap6⟩
  · exact absurd rfl hne
  injection hv with hv
  subst hv
  obtain ⟨As6, ns6, cs6, rfl, hns6, hls6, hrs6, _⟩ := hsn6
  obtain ⟨Ar6, nr6, cr6, ps6, rfl, hps6, hrr6, _, _⟩ := hrc6
  -- the first vault still stands, over the disk as it is now
  obtain ⟨S6, hD6, hSU6, _⟩ := hm.disk
  obtain ⟨U7, hm7, ht7, hf7⟩ := HSt4.out _ w6 S6 hD6 ht6 (fun b hb => hf6 b (hSU6 b hb))
  have HM6 := Lib.hid hm
  have HM7 := Lib.hid hm7
  have HD6 := Lib.hid hD6
  have HW6 : Hid (Below w.heap.size w w6) := Lib.hid (ht6.below HV.out.bel HV.out.bel.size (fun b hb => HV.out.new b (HSU4.out b hb)))
  have hkeep : ∀ g, lo ≤ g → g < hi → w6.heap[g]? = w4.heap[g]? := fun g g1 g2 => ht6.block g (Nat.lt_of_lt_of_le g2 HHi.out) (fun hs => HAp.out g (HSU4.out g hs) ⟨g1, g2⟩)
  obtain ⟨_, _, _, e7, _, hls7, hrs7, _⟩ := HSn.out.stay hkeep
  obtain ⟨_, _, _, ps7, e8, hps7, hrr7, hrm7, _⟩ := HRc.out.stay hkeep
  injection e7 with a1 a2 a3
  subst a1; subst a2; subst a3
  injection e8 with a1 a2 a3
  subst a1; subst a2; subst a3
  have hsl7 : v.s.length ≤ 1048568 := HF1.out.len
  have hsame : Hid (∀ q, Calls Tryd.prog 23 #[.slice As ns cs, .slice As6 ns6 cs6] (w6.drewN q) fun e w' => e = .returned (.bool true) ∧ ∃ k, w' = (w6.drewN q).drewN k) := Lib.hid (fun q => by
    have h := same_any As As6 ns cs ns6 cs6 v.s v.s (w6.drewN q) _ _ hrs7 hrs6 (by omega)
    rwa [decide_eq_true rfl] at h)
  have halike : Hid (∀ q, Calls Tryd.prog 24 #[.slice Ar nr cr, .slice Ar6 nr6 cr6] (w6.drewN q) fun e w' => e = .returned (.bool true) ∧ ∃ k, w' = (w6.drewN q).drewN k) := Lib.hid (fun q => by
    have h := alike_any Ar Ar6 nr cr nr6 cr6 ps7 ps6 (w6.drewN q) _ _ hrr7 hrr6 (by have h1 := hrr7.len; have h2 := congrArg List.length hps7; simp [Piece.bytes] at h2; have h3 := fresh_few HF1.out HFt1.out; have := HL3.out; omega)
    rwa [decide_eq_true (hps7.trans hps6.symm)] at h)
  have hnr : Hid (nr6 = v.rs.length) := Lib.hid (by have h1 := hrr6.len; have h2 := congrArg List.length hps6; simp [Piece.bytes] at h2; omega)
  have hcn : Hid ((d1.syn v.file).cnt = d1.cnt + 1) := HCn
  have hcl : d1.cnt ≤ 100 := by have h := HFt1.out.c; omega
  clear hm hD6 hSU6 hm7 ht7 hf7 ht6 hf6 hlo hhi hns6 hls6 hrs6 hps6 hrr6 hap6 hkeep hls7 hrs7 hps7 hrr7 hrm7
  go_wp2_with fail
  refine (hsame.out 0).mono ?_
  rintro e7 w7 ⟨rfl, k7, rfl⟩
  go_wp2_with fail
  refine (halike.out _).mono ?_
  rintro e8 w8 ⟨rfl, k8, rfl⟩
  obtain ⟨w8, hw8⟩ : ∃ w8, w8 = (w6.drewN k7).drewN k8 := ⟨_, rfl⟩
  have hb8 : Below w6.heap.size w6 w8 := by rw [hw8]; exact (below_drewN (Below.refl _ _) _).trans ((below_drewN (Below.refl _ _) _).mono (Nat.le_refl _))
  rw [← hw8]
  have HM8 := Lib.hid (HM6.out.next hb8)
  have HM9 := Lib.hid (HM7.out.next hb8)
  have HD8 := Lib.hid (HD6.out.next hb8)
  have HW8 := Lib.hid (HW6.out.trans (hb8.mono HW6.out.size))
  have hwr := Lib.hid (writes_any R (d1.syn v.file) S6 w8 HD8.out)
  clear hw8 hb8 HM6 HM7 HD6 HW6
  go_wp2_with fail
  rw [hcn.out] at hwr
  refine hwr.out.mono ?_
  rintro e9 w9 ⟨rfl, hw9⟩
  rw [← hw9]
  clear hw9 w9
  go_wp2_with fail
  refine (HGe.out Q R _ v U7 w8 HM9.out).mono ?_
  rintro e9 w9 ⟨rfl, hw9⟩
  rw [← hw9]
  clear hw9 w9
  go_wp2_with fail
  refine (HGe.out Q6 R _ v U6 w8 HM8.out).mono ?_
  rintro e9 w9 ⟨rfl, hw9⟩
  rw [← hw9]
  clear hw9 w9
  go_wp2_with fail
  refine (HC.out Q6 R _ v U6 w8 HM8.out).mono ?_
  rintro e9 w9 ⟨rfl, hw9⟩
  rw [← hw9]
  clear hw9 w9
  rw [← hnr.out]
  go_wp2
  go_ret
  exact ⟨rfl, HW8.out⟩
end Go.Proofs.YtnpmccekkjadhaaDoor.Pk
