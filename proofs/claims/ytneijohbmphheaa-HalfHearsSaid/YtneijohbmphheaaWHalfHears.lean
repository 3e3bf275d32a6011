/- The walk of the law HalfHears. -/
import Derived.Test.YtneijohbmphheaaHfWakes
import Derived.Test.YtneijohbmphheaaHfRef3
import Derived.Test.YtneijohbmphheaaHfRef4
import Derived.Test.YtneijohbmphheaaHfArgs
namespace Go.Proofs.Ytneijohbmphheaa.Pk
open Go.RowKit Go.Proofs.Ytneijohbmphheaa.Ar
set_option linter.unusedVariables false
set_option maxRecDepth 100000 in
set_option maxHeartbeats 8000000 in
theorem law_HalfHears (HP : PushH) (HF : FitsH) (HH : HeardH) (HT : TookH) (h : Hf) (A : Option Addr) (n c : Nat) (q : Int) (w : World) (hk : ArgH w h A n c) (hq : -9223372036854775808 ≤ q ∧ q ≤ 9223372036854775807) :
    Calls Try.prog 4 #[h.val (.slice A n c), .int .i64 q] w fun e w' => e = .returned (.bool true) ∧ Below w.heap.size w w' := by
  have HW := Lib.hid (fun w => wakes_any HP HF HH w)
  have HHd := Lib.hid (fun w' (hb : Below w.heap.size w w') => HH h q A n c w' (hk.next hb) hq.1 hq.2)
  have HRh := Lib.hid (fun w' (hb : Below w.heap.size w w') => refheard_any h q A n c w' (hk.next hb) hq.1 hq.2)
  have HTk := Lib.hid (fun w' (hb : Below w.heap.size w w') => HT h A n c w' (hk.next hb))
  have HRt := Lib.hid (fun w' (hb : Below w.heap.size w w') => reftook_any h A n c w' (hk.next hb))
  have HFt := Lib.hid (fun w' (hb : Below w.heap.size w w') => HF h q A n c w' (hk.next hb) hq.1 hq.2)
  have HRf := Lib.hid (fun w' (hb : Below w.heap.size w w') => reffits_any h q A n c w' (hk.next hb) hq.1 hq.2)
  have HLr := Lib.hid (hheard_len h q)
  have HLt := Lib.hid (htake_len h)
  clear hk HP HF HH HT hq
  obtain ⟨r, hr⟩ : ∃ r, r = hheard h q := ⟨_, rfl⟩
  obtain ⟨t, ht⟩ : ∃ r, r = htake h := ⟨_, rfl⟩
  obtain ⟨f, hf⟩ : ∃ r, r = hfits h q := ⟨_, rfl⟩
  rw [← hr] at HHd HRh HLr
  rw [← ht] at HTk HRt HLt
  rw [← hf] at HFt HRf
  clear hr ht hf
  obtain ⟨p, b, o, s⟩ := h
  obtain ⟨⟨rp, rb, ro, rs⟩, re⟩ := r
  obtain ⟨⟨tp, tb, to_, ts⟩, te⟩ := t
  unfold Hf.val at HHd HRh HTk HRt HFt HRf
  unfold Hf.val
  simp only at HHd HRh HTk HRt HFt HRf HLr HLt ⊢
  obtain ⟨xe, hxe⟩ : ∃ x, x = w.heap.size := ⟨_, rfl⟩
  obtain ⟨w0, hw0⟩ : ∃ w0, w0 = w.alloc (.cells #[.int .i64 p, .int .i64 b, .slice A n c, .int .i64 s] 24) := ⟨_, rfl⟩
  have HB0 : Hid (Below w.heap.size w w0) := Lib.hid (hw0 ▸ (Below.refl _ _).alloc (Nat.le_refl _) _)
  have HXxe_0 : Hid (Blk w0 xe 24 #[.int .i64 p, .int .i64 b, .slice A n c, .int .i64 s]) := Lib.hid (by rw [hw0, hxe]; exact Blk.new w _ _)
  go_enter Try.func4, Try.ntmps4
  go_wp2_with fail
  rw [← hw0, ← hxe]
  clear hw0 hxe
  refine (HW.out w0).mono ?_
  rintro e w1 ⟨rfl, hb⟩
  have HB1 := Lib.hid (HB0.out.trans (hb.mono HB0.out.size))
  have HXxe_1 := Lib.hid (HXxe_0.out.below hb HXxe_0.out.lt)
  clear hb
  have c_xe0 : w1.cell? ⟨xe, 0, none⟩ = some (.int .i64 p) := HXxe_1.out.cell 0
  have c_xe1 : w1.cell? ⟨xe, 1, none⟩ = some (.int .i64 b) := HXxe_1.out.cell 1
  have c_xe2 : w1.cell? ⟨xe, 2, none⟩ = some (.slice A n c) := HXxe_1.out.cell 2
  have c_xe3 : w1.cell? ⟨xe, 3, none⟩ = some (.int .i64 s) := HXxe_1.out.cell 3
  go_wp2_with fail
  refine (HHd.out w1 HB1.out).mono ?_
  rintro e w2 ⟨v, rfl, ho, hb⟩
  obtain ⟨Aa, na, ca, rfl⟩ := ownG_slice ho
  clear c_xe0 c_xe1 c_xe2 c_xe3
  have HB2 := Lib.hid (HB1.out.trans (hb.mono HB1.out.size))
  have HXxe_2 := Lib.hid (HXxe_1.out.below hb HXxe_1.out.lt)
  have HOa_2 := Lib.hid ho
  clear hb ho
  have c_xe0 : w2.cell? ⟨xe, 0, none⟩ = some (.int .i64 p) := HXxe_2.out.cell 0
  have c_xe1 : w2.cell? ⟨xe, 1, none⟩ = some (.int .i64 b) := HXxe_2.out.cell 1
  have c_xe2 : w2.cell? ⟨xe, 2, none⟩ = some (.slice A n c) := HXxe_2.out.cell 2
  have c_xe3 : w2.cell? ⟨xe, 3, none⟩ = some (.int .i64 s) := HXxe_2.out.cell 3
  have l_xe : xe < w2.heap.size := HXxe_2.out.lt
  obtain ⟨xa, hxa⟩ : ∃ x, x = w2.heap.size := ⟨_, rfl⟩
  obtain ⟨w3, hw3⟩ : ∃ v, v = w2.alloc (.cells #[.int .i64 rp, .int .i64 rb, .slice Aa na ca, .int .i64 rs] 24) := ⟨_, rfl⟩
  have hb : Below w2.heap.size w2 w3 := hw3 ▸ (Below.refl _ _).alloc (Nat.le_refl _) _
  have HB3 := Lib.hid (HB2.out.trans (hb.mono HB2.out.size))
  have HXxe_3 := Lib.hid (HXxe_2.out.below hb HXxe_2.out.lt)
  have HOa_3 := Lib.hid (OwnG.below HOa_2.out hb)
  have HXxa_3 : Hid (Blk w3 xa 24 #[.int .i64 rp, .int .i64 rb, .slice Aa na ca, .int .i64 rs]) := Lib.hid (by rw [hw3, hxa]; exact Blk.new w2 _ _)
  clear hb
  go_wp2_with fail
  rw [← hw3, ← hxa]
  clear hw3 hxa
  refine (HRh.out w3 HB3.out).mono ?_
  rintro e w4 ⟨v, rfl, ho, hb⟩
  obtain ⟨Ab, nb, cb, rfl⟩ := ownG_slice ho
  clear c_xe0 c_xe1 c_xe2 c_xe3 l_xe
  have HB4 := Lib.hid (HB3.out.trans (hb.mono HB3.out.size))
  have HXxe_4 := Lib.hid (HXxe_3.out.below hb HXxe_3.out.lt)
  have HXxa_4 := Lib.hid (HXxa_3.out.below hb HXxa_3.out.lt)
  have HOa_4 := Lib.hid (OwnG.below HOa_3.out hb)
  have HOb_4 := Lib.hid ho
  clear hb ho
  have c_xe0 : w4.cell? ⟨xe, 0, none⟩ = some (.int .i64 p) := HXxe_4.out.cell 0
  have c_xe1 : w4.cell? ⟨xe, 1, none⟩ = some (.int .i64 b) := HXxe_4.out.cell 1
  have c_xe2 : w4.cell? ⟨xe, 2, none⟩ = some (.slice A n c) := HXxe_4.out.cell 2
  have c_xe3 : w4.cell? ⟨xe, 3, none⟩ = some (.int .i64 s) := HXxe_4.out.cell 3
  have l_xe : xe < w4.heap.size := HXxe_4.out.lt
  have c_xa0 : w4.cell? ⟨xa, 0, none⟩ = some (.int .i64 rp) := HXxa_4.out.cell 0
  have c_xa1 : w4.cell? ⟨xa, 1, none⟩ = some (.int .i64 rb) := HXxa_4.out.cell 1
  have c_xa2 : w4.cell? ⟨xa, 2, none⟩ = some (.slice Aa na ca) := HXxa_4.out.cell 2
  have c_xa3 : w4.cell? ⟨xa, 3, none⟩ = some (.int .i64 rs) := HXxa_4.out.cell 3
  have l_xa : xa < w4.heap.size := HXxa_4.out.lt
  obtain ⟨xb, hxb⟩ : ∃ x, x = w4.heap.size := ⟨_, rfl⟩
  obtain ⟨w5, hw5⟩ : ∃ v, v = w4.alloc (.cells #[.int .i64 rp, .int .i64 rb, .slice Ab nb cb, .int .i64 rs] 24) := ⟨_, rfl⟩
  have hb : Below w4.heap.size w4 w5 := hw5 ▸ (Below.refl _ _).alloc (Nat.le_refl _) _
  have HB5 := Lib.hid (HB4.out.trans (hb.mono HB4.out.size))
  have HXxe_5 := Lib.hid (HXxe_4.out.below hb HXxe_4.out.lt)
  have HXxa_5 := Lib.hid (HXxa_4.out.below hb HXxa_4.out.lt)
  have HOa_5 := Lib.hid (OwnG.below HOa_4.out hb)
  have HOb_5 := Lib.hid (OwnG.below HOb_4.out hb)
  have HXxb_5 : Hid (Blk w5 xb 24 #[.int .i64 rp, .int .i64 rb, .slice Ab nb cb, .int .i64 rs]) := Lib.hid (by rw [hw5, hxb]; exact Blk.new w4 _ _)
  clear hb
  go_wp2_with fail
  rw [← hw5, ← hxb]
  clear hw5 hxb
  refine (HTk.out w5 HB5.out).mono ?_
  rintro e w6 ⟨v, rfl, ho, hb⟩
  obtain ⟨Ac, nc, cc, rfl⟩ := ownG_slice ho
  clear c_xe0 c_xe1 c_xe2 c_xe3 l_xe c_xa0 c_xa1 c_xa2 c_xa3 l_xa
  have HB6 := Lib.hid (HB5.out.trans (hb.mono HB5.out.size))
  have HXxe_6 := Lib.hid (HXxe_5.out.below hb HXxe_5.out.lt)
  have HXxa_6 := Lib.hid (HXxa_5.out.below hb HXxa_5.out.lt)
  have HXxb_6 := Lib.hid (HXxb_5.out.below hb HXxb_5.out.lt)
  have HOa_6 := Lib.hid (OwnG.below HOa_5.out hb)
  have HOb_6 := Lib.hid (OwnG.below HOb_5.out hb)
  have HOc_6 := Lib.hid ho
  clear hb ho
  have c_xe0 : w6.cell? ⟨xe, 0, none⟩ = some (.int .i64 p) := HXxe_6.out.cell 0
  have c_xe1 : w6.cell? ⟨xe, 1, none⟩ = some (.int .i64 b) := HXxe_6.out.cell 1
  have c_xe2 : w6.cell? ⟨xe, 2, none⟩ = some (.slice A n c) := HXxe_6.out.cell 2
  have c_xe3 : w6.cell? ⟨xe, 3, none⟩ = some (.int .i64 s) := HXxe_6.out.cell 3
  have l_xe : xe < w6.heap.size := HXxe_6.out.lt
  have c_xa0 : w6.cell? ⟨xa, 0, none⟩ = some (.int .i64 rp) := HXxa_6.out.cell 0
  have c_xa1 : w6.cell? ⟨xa, 1, none⟩ = some (.int .i64 rb) := HXxa_6.out.cell 1
  have c_xa2 : w6.cell? ⟨xa, 2, none⟩ = some (.slice Aa na ca) := HXxa_6.out.cell 2
  have c_xa3 : w6.cell? ⟨xa, 3, none⟩ = some (.int .i64 rs) := HXxa_6.out.cell 3
  have l_xa : xa < w6.heap.size := HXxa_6.out.lt
  have c_xb0 : w6.cell? ⟨xb, 0, none⟩ = some (.int .i64 rp) := HXxb_6.out.cell 0
  have c_xb1 : w6.cell? ⟨xb, 1, none⟩ = some (.int .i64 rb) := HXxb_6.out.cell 1
  have c_xb2 : w6.cell? ⟨xb, 2, none⟩ = some (.slice Ab nb cb) := HXxb_6.out.cell 2
  have c_xb3 : w6.cell? ⟨xb, 3, none⟩ = some (.int .i64 rs) := HXxb_6.out.cell 3
  have l_xb : xb < w6.heap.size := HXxb_6.out.lt
  obtain ⟨xc, hxc⟩ : ∃ x, x = w6.heap.size := ⟨_, rfl⟩
  obtain ⟨w7, hw7⟩ : ∃ v, v = w6.alloc (.cells #[.int .i64 tp, .int .i64 tb, .slice Ac nc cc, .int .i64 ts] 24) := ⟨_, rfl⟩
  have hb : Below w6.heap.size w6 w7 := hw7 ▸ (Below.refl _ _).alloc (Nat.le_refl _) _
  have HB7 := Lib.hid (HB6.out.trans (hb.mono HB6.out.size))
  have HXxe_7 := Lib.hid (HXxe_6.out.below hb HXxe_6.out.lt)
  have HXxa_7 := Lib.hid (HXxa_6.out.below hb HXxa_6.out.lt)
  have HXxb_7 := Lib.hid (HXxb_6.out.below hb HXxb_6.out.lt)
  have HOa_7 := Lib.hid (OwnG.below HOa_6.out hb)
  have HOb_7 := Lib.hid (OwnG.below HOb_6.out hb)
  have HOc_7 := Lib.hid (OwnG.below HOc_6.out hb)
  have HXxc_7 : Hid (Blk w7 xc 24 #[.int .i64 tp, .int .i64 tb, .slice Ac nc cc, .int .i64 ts]) := Lib.hid (by rw [hw7, hxc]; exact Blk.new w6 _ _)
  clear hb
  go_wp2_with fail
  rw [← hw7, ← hxc]
  clear hw7 hxc
  refine (HRt.out w7 HB7.out).mono ?_
  rintro e w8 ⟨v, rfl, ho, hb⟩
  obtain ⟨Ad, nd, cd, rfl⟩ := ownG_slice ho
  clear c_xe0 c_xe1 c_xe2 c_xe3 l_xe c_xa0 c_xa1 c_xa2 c_xa3 l_xa c_xb0 c_xb1 c_xb2 c_xb3 l_xb
  have HB8 := Lib.hid (HB7.out.trans (hb.mono HB7.out.size))
  have HXxe_8 := Lib.hid (HXxe_7.out.below hb HXxe_7.out.lt)
  have HXxa_8 := Lib.hid (HXxa_7.out.below hb HXxa_7.out.lt)
  have HXxb_8 := Lib.hid (HXxb_7.out.below hb HXxb_7.out.lt)
  have HXxc_8 := Lib.hid (HXxc_7.out.below hb HXxc_7.out.lt)
  have HOa_8 := Lib.hid (OwnG.below HOa_7.out hb)
  have HOb_8 := Lib.hid (OwnG.below HOb_7.out hb)
  have HOc_8 := Lib.hid (OwnG.below HOc_7.out hb)
  have HOd_8 := Lib.hid ho
  clear hb ho
  have c_xe0 : w8.cell? ⟨xe, 0, none⟩ = some (.int .i64 p) := HXxe_8.out.cell 0
  have c_xe1 : w8.cell? ⟨xe, 1, none⟩ = some (.int .i64 b) := HXxe_8.out.cell 1
  have c_xe2 : w8.cell? ⟨xe, 2, none⟩ = some (.slice A n c) := HXxe_8.out.cell 2
  have c_xe3 : w8.cell? ⟨xe, 3, none⟩ = some (.int .i64 s) := HXxe_8.out.cell 3
  have l_xe : xe < w8.heap.size := HXxe_8.out.lt
  have c_xa0 : w8.cell? ⟨xa, 0, none⟩ = some (.int .i64 rp) := HXxa_8.out.cell 0
  have c_xa1 : w8.cell? ⟨xa, 1, none⟩ = some (.int .i64 rb) := HXxa_8.out.cell 1
  have c_xa2 : w8.cell? ⟨xa, 2, none⟩ = some (.slice Aa na ca) := HXxa_8.out.cell 2
  have c_xa3 : w8.cell? ⟨xa, 3, none⟩ = some (.int .i64 rs) := HXxa_8.out.cell 3
  have l_xa : xa < w8.heap.size := HXxa_8.out.lt
  have c_xb0 : w8.cell? ⟨xb, 0, none⟩ = some (.int .i64 rp) := HXxb_8.out.cell 0
  have c_xb1 : w8.cell? ⟨xb, 1, none⟩ = some (.int .i64 rb) := HXxb_8.out.cell 1
  have c_xb2 : w8.cell? ⟨xb, 2, none⟩ = some (.slice Ab nb cb) := HXxb_8.out.cell 2
  have c_xb3 : w8.cell? ⟨xb, 3, none⟩ = some (.int .i64 rs) := HXxb_8.out.cell 3
  have l_xb : xb < w8.heap.size := HXxb_8.out.lt
  have c_xc0 : w8.cell? ⟨xc, 0, none⟩ = some (.int .i64 tp) := HXxc_8.out.cell 0
  have c_xc1 : w8.cell? ⟨xc, 1, none⟩ = some (.int .i64 tb) := HXxc_8.out.cell 1
  have c_xc2 : w8.cell? ⟨xc, 2, none⟩ = some (.slice Ac nc cc) := HXxc_8.out.cell 2
  have c_xc3 : w8.cell? ⟨xc, 3, none⟩ = some (.int .i64 ts) := HXxc_8.out.cell 3
  have l_xc : xc < w8.heap.size := HXxc_8.out.lt
  obtain ⟨xd, hxd⟩ : ∃ x, x = w8.heap.size := ⟨_, rfl⟩
  obtain ⟨w9, hw9⟩ : ∃ v, v = w8.alloc (.cells #[.int .i64 tp, .int .i64 tb, .slice Ad nd cd, .int .i64 ts] 24) := ⟨_, rfl⟩
  have hb : Below w8.heap.size w8 w9 := hw9 ▸ (Below.refl _ _).alloc (Nat.le_refl _) _
  have HB9 := Lib.hid (HB8.out.trans (hb.mono HB8.out.size))
  have HXxe_9 := Lib.hid (HXxe_8.out.below hb HXxe_8.out.lt)
  have HXxa_9 := Lib.hid (HXxa_8.out.below hb HXxa_8.out.lt)
  have HXxb_9 := Lib.hid (HXxb_8.out.below hb HXxb_8.out.lt)
  have HXxc_9 := Lib.hid (HXxc_8.out.below hb HXxc_8.out.lt)
  have HOa_9 := Lib.hid (OwnG.below HOa_8.out hb)
  have HOb_9 := Lib.hid (OwnG.below HOb_8.out hb)
  have HOc_9 := Lib.hid (OwnG.below HOc_8.out hb)
  have HOd_9 := Lib.hid (OwnG.below HOd_8.out hb)
  have HXxd_9 : Hid (Blk w9 xd 24 #[.int .i64 tp, .int .i64 tb, .slice Ad nd cd, .int .i64 ts]) := Lib.hid (by rw [hw9, hxd]; exact Blk.new w8 _ _)
  clear hb
  go_wp2_with fail
  rw [← hw9, ← hxd]
  clear hw9 hxd
  clear c_xe0 c_xe1 c_xe2 c_xe3 l_xe c_xa0 c_xa1 c_xa2 c_xa3 l_xa c_xb0 c_xb1 c_xb2 c_xb3 l_xb c_xc0 c_xc1 c_xc2 c_xc3 l_xc
  have HSa := Lib.hid (fun w' (hb : Below w9.heap.size w9 w') => sameH ⟨rp, rb, ro, rs⟩ ⟨rp, rb, ro, rs⟩ Aa Ab na ca nb cb w' (((ownG_reads HOa_9.out).below hb).more hb.size) (((ownG_reads HOb_9.out).below hb).more hb.size) (by have h1 := (ownG_reads HOa_9.out).mlen; have h2 := HLr.out; (try simp only at h1 h2); omega))
  have HSc := Lib.hid (fun w' (hb : Below w9.heap.size w9 w') => sameH ⟨tp, tb, to_, ts⟩ ⟨tp, tb, to_, ts⟩ Ac Ad nc cc nd cd w' (((ownG_reads HOc_9.out).below hb).more hb.size) (((ownG_reads HOd_9.out).below hb).more hb.size) (by have h1 := (ownG_reads HOc_9.out).mlen; have h2 := HLt.out; (try simp only at h1 h2); omega))
  unfold Hf.val at HSa HSc
  have KE : Hid (∀ w', Below w9.heap.size w9 w' → w'.cell? ⟨xe, 0, none⟩ = some (.int .i64 p) ∧ w'.cell? ⟨xe, 1, none⟩ = some (.int .i64 b) ∧ w'.cell? ⟨xe, 2, none⟩ = some (.slice A n c) ∧ w'.cell? ⟨xe, 3, none⟩ = some (.int .i64 s) ∧ w'.cell? ⟨xa, 0, none⟩ = some (.int .i64 rp) ∧ w'.cell? ⟨xa, 1, none⟩ = some (.int .i64 rb) ∧ w'.cell? ⟨xa, 2, none⟩ = some (.slice Aa na ca) ∧ w'.cell? ⟨xa, 3, none⟩ = some (.int .i64 rs) ∧ w'.cell? ⟨xb, 0, none⟩ = some (.int .i64 rp) ∧ w'.cell? ⟨xb, 1, none⟩ = some (.int .i64 rb) ∧ w'.cell? ⟨xb, 2, none⟩ = some (.slice Ab nb cb) ∧ w'.cell? ⟨xb, 3, none⟩ = some (.int .i64 rs) ∧ w'.cell? ⟨xc, 0, none⟩ = some (.int .i64 tp) ∧ w'.cell? ⟨xc, 1, none⟩ = some (.int .i64 tb) ∧ w'.cell? ⟨xc, 2, none⟩ = some (.slice Ac nc cc) ∧ w'.cell? ⟨xc, 3, none⟩ = some (.int .i64 ts) ∧ w'.cell? ⟨xd, 0, none⟩ = some (.int .i64 tp) ∧ w'.cell? ⟨xd, 1, none⟩ = some (.int .i64 tb) ∧ w'.cell? ⟨xd, 2, none⟩ = some (.slice Ad nd cd) ∧ w'.cell? ⟨xd, 3, none⟩ = some (.int .i64 ts)) := Lib.hid (fun w' hb => ⟨(HXxe_9.out.below hb HXxe_9.out.lt).cell 0, (HXxe_9.out.below hb HXxe_9.out.lt).cell 1, (HXxe_9.out.below hb HXxe_9.out.lt).cell 2, (HXxe_9.out.below hb HXxe_9.out.lt).cell 3, (HXxa_9.out.below hb HXxa_9.out.lt).cell 0, (HXxa_9.out.below hb HXxa_9.out.lt).cell 1, (HXxa_9.out.below hb HXxa_9.out.lt).cell 2, (HXxa_9.out.below hb HXxa_9.out.lt).cell 3, (HXxb_9.out.below hb HXxb_9.out.lt).cell 0, (HXxb_9.out.below hb HXxb_9.out.lt).cell 1, (HXxb_9.out.below hb HXxb_9.out.lt).cell 2, (HXxb_9.out.below hb HXxb_9.out.lt).cell 3, (HXxc_9.out.below hb HXxc_9.out.lt).cell 0, (HXxc_9.out.below hb HXxc_9.out.lt).cell 1, (HXxc_9.out.below hb HXxc_9.out.lt).cell 2, (HXxc_9.out.below hb HXxc_9.out.lt).cell 3, (HXxd_9.out.below hb HXxd_9.out.lt).cell 0, (HXxd_9.out.below hb HXxd_9.out.lt).cell 1, (HXxd_9.out.below hb HXxd_9.out.lt).cell 2, (HXxd_9.out.below hb HXxd_9.out.lt).cell 3⟩)
  have Z0 := KE.out w9.drew (below_drewN_ (Below.refl _ _) 1)
  have HC9 : Hid (Below w9.heap.size w9 w9.drew) := Lib.hid (below_drewN_ (Below.refl _ _) 1)
  refine wp_region_noPanic ?_
  go_region_held3 (fun w' => w'.cell? ⟨xe, 0, none⟩ = some (.int .i64 p) ∧ w'.cell? ⟨xe, 1, none⟩ = some (.int .i64 b) ∧ w'.cell? ⟨xe, 2, none⟩ = some (.slice A n c) ∧ w'.cell? ⟨xe, 3, none⟩ = some (.int .i64 s) ∧ w'.cell? ⟨xa, 0, none⟩ = some (.int .i64 rp) ∧ w'.cell? ⟨xa, 1, none⟩ = some (.int .i64 rb) ∧ w'.cell? ⟨xa, 2, none⟩ = some (.slice Aa na ca) ∧ w'.cell? ⟨xa, 3, none⟩ = some (.int .i64 rs) ∧ w'.cell? ⟨xb, 0, none⟩ = some (.int .i64 rp) ∧ w'.cell? ⟨xb, 1, none⟩ = some (.int .i64 rb) ∧ w'.cell? ⟨xb, 2, none⟩ = some (.slice Ab nb cb) ∧ w'.cell? ⟨xb, 3, none⟩ = some (.int .i64 rs) ∧ w'.cell? ⟨xc, 0, none⟩ = some (.int .i64 tp) ∧ w'.cell? ⟨xc, 1, none⟩ = some (.int .i64 tb) ∧ w'.cell? ⟨xc, 2, none⟩ = some (.slice Ac nc cc) ∧ w'.cell? ⟨xc, 3, none⟩ = some (.int .i64 ts) ∧ w'.cell? ⟨xd, 0, none⟩ = some (.int .i64 tp) ∧ w'.cell? ⟨xd, 1, none⟩ = some (.int .i64 tb) ∧ w'.cell? ⟨xd, 2, none⟩ = some (.slice Ad nd cd) ∧ w'.cell? ⟨xd, 3, none⟩ = some (.int .i64 ts)) (first | with_reducible exact Z0 | with_reducible exact Z1 | with_reducible exact Z2 | with_reducible exact Z3 | with_reducible exact Z4) (first
    | (go_at_call_of 15 (Aa); go_must (refine (HSa.out (w9.drew) HC9.out).mono ?_; rintro e w10 ⟨rfl, hb⟩; have HC10 : Hid (Below w9.heap.size w9 w10) := Lib.hid (HC9.out.trans ((show Below _ _ _ from hb).mono HC9.out.size)); have Z1 := KE.out w10 HC10.out; clear hb))
    | (go_at_call_of 15 (Ac); go_must (refine (HSc.out (w10) HC10.out).mono ?_; rintro e w11 ⟨rfl, hb⟩; have HC11 : Hid (Below w9.heap.size w9 w11) := Lib.hid (HC10.out.trans ((show Below _ _ _ from hb).mono HC10.out.size)); have Z2 := KE.out w11 HC11.out; clear hb))
    | (go_at_call 20; go_must (refine (HFt.out (w11) (HB9.out.trans (HC11.out.mono HB9.out.size))).mono ?_; rintro e w12 ⟨rfl, hb⟩; have HC12 : Hid (Below w9.heap.size w9 w12) := Lib.hid (HC11.out.trans ((show Below _ _ _ from hb).mono HC11.out.size)); have Z3 := KE.out w12 HC12.out; clear hb))
    | (go_at_call 21; go_must (refine (HRf.out (w12) (HB9.out.trans (HC12.out.mono HB9.out.size))).mono ?_; rintro e w13 ⟨rfl, hb⟩; have HC13 : Hid (Below w9.heap.size w9 w13) := Lib.hid (HC12.out.trans ((show Below _ _ _ from hb).mono HC12.out.size)); have Z4 := KE.out w13 HC13.out; clear hb)))
  all_goals refine NoPanic.normal ?_
  all_goals
    go_wp2
    go_ret
    exact ⟨rfl, HB9.out.trans (HC13.out.mono HB9.out.size)⟩
end Go.Proofs.Ytneijohbmphheaa.Pk
