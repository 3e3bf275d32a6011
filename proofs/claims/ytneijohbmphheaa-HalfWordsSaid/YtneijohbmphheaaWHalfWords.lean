/- The walk of the law HalfWords. -/
import Derived.Test.YtneijohbmphheaaHfWakes
import Derived.Test.YtneijohbmphheaaHfArgs
namespace Go.Proofs.Ytneijohbmphheaa.Pk
open Go.RowKit Go.Proofs.Ytneijohbmphheaa.Ar
set_option linter.unusedVariables false
/-- Word by word, or at once. -/
theorem heard_same {h : Hf} (hb : h.Be) (q : Int) : hheard (hheard h q).1 q = ((hheard h q).1, 0) := by
  unfold hheard
  rw [if_pos hb]
  by_cases hn : h.News q
  · rw [if_pos hn, if_pos (hb.cut hn), if_neg]
    intro h2
    have := h2.1
    unfold Hf.cut at this
    simp only at this
    omega
  · rw [if_neg hn, if_pos hb, if_neg hn]
theorem heard_heard {h : Hf} (hb : h.Be) {q u : Int} (h3 : q ≤ u) (h4 : u ≤ h.b + (h.o.length : Int)) (h1 : h.b ≤ q) : hheard (hheard h q).1 u = hheard h u := by
  unfold hheard
  rw [if_pos hb]
  by_cases hn : h.News q
  · rw [if_pos hn, if_pos (hb.cut hn)]
    have hu : h.News u := ⟨by have := hn.1; omega, h4⟩
    rw [if_pos hu]
    by_cases h5 : (h.cut q).News u
    · rw [if_pos h5, cut_cut hn h5, if_pos hb]
    · rw [if_neg h5]
      have hc := cut_len hn
      have e : u = q := by
        unfold Hf.News at h5
        rw [hc] at h5
        have : (h.cut q).b = q := rfl
        rw [this] at h5
        omega
      rw [e, if_pos hb]
  · rw [if_neg hn]
theorem heard_facts {h : Hf} (hb : h.Be) (q : Int) : (hheard h q).2 = 0 ∧ (hheard h q).1.Be ∧ (hheard h q).1.s = h.s ∧ h.b ≤ (hheard h q).1.b ∧ (hheard h q).1.b + ((hheard h q).1.o.length : Int) = h.b + (h.o.length : Int) ∧
    (¬ h.News q → (hheard h q).1 = h) ∧ (h.News q → (hheard h q).1.b = q) := by
  unfold hheard
  rw [if_pos hb]
  by_cases hn : h.News q
  · rw [if_pos hn]
    exact ⟨rfl, hb.cut hn, rfl, by show h.b ≤ q; have := hn.1; omega, cut_len hn, fun e => absurd hn e, fun _ => rfl⟩
  · rw [if_neg hn]
    exact ⟨rfl, hb, rfl, Int.le_refl _, rfl, fun _ => rfl, fun e => absurd e hn⟩
set_option maxRecDepth 100000 in
set_option maxHeartbeats 8000000 in
theorem law_HalfWords (HG : GoodH) (HP : PushH) (HF : FitsH) (HH : HeardH) (h : Hf) (A : Option Addr) (n c : Nat) (q u : Int) (w : World) (hk : ArgH w h A n c) (hq : -9223372036854775808 ≤ q ∧ q ≤ 9223372036854775807) (hu : -9223372036854775808 ≤ u ∧ u ≤ 9223372036854775807) :
    Calls Try.prog 8 #[h.val (.slice A n c), .int .i64 q, .int .i64 u] w fun e w' => e = .returned (.bool true) ∧ Below w.heap.size w w' := by
  have HW := Lib.hid (fun w => wakes_any HP HF HH w)
  have HGd := Lib.hid (fun w' (hb : Below w.heap.size w w') => HG h A n c w' (hk.next hb))
  have HHd := Lib.hid (fun w' (hb : Below w.heap.size w w') => HH h q A n c w' (hk.next hb) hq.1 hq.2)
  have HHu := Lib.hid (fun w' (hb : Below w.heap.size w w') => HH h u A n c w' (hk.next hb) hu.1 hu.2)
  have HHx := Lib.hid (fun h A n c w (hk : InH w h A n c) => HH h q A n c w hk hq.1 hq.2)
  have HHy := Lib.hid (fun h A n c w (hk : InH w h A n c) => HH h u A n c w hk hu.1 hu.2)
  have HGx := Lib.hid HG
  have HL := Lib.hid hk.len
  have HRe := Lib.hid hk.rd
  clear hk HG HP HF HH
  obtain ⟨p, b, o, s⟩ := h
  unfold Hf.val at HGd HHd HHu
  unfold Hf.val
  simp only at HGd HHd HHu HL HRe ⊢
  obtain ⟨xe, hxe⟩ : ∃ x, x = w.heap.size := ⟨_, rfl⟩
  obtain ⟨w0, hw0⟩ : ∃ w0, w0 = w.alloc (.cells #[.int .i64 p, .int .i64 b, .slice A n c, .int .i64 s] 24) := ⟨_, rfl⟩
  have HB0 : Hid (Below w.heap.size w w0) := Lib.hid (hw0 ▸ (Below.refl _ _).alloc (Nat.le_refl _) _)
  have HXxe_0 : Hid (Blk w0 xe 24 #[.int .i64 p, .int .i64 b, .slice A n c, .int .i64 s]) := Lib.hid (by rw [hw0, hxe]; exact Blk.new w _ _)
  go_enter Try.func8, Try.ntmps8
  go_wp2_with fail
  rw [← hw0, ← hxe]
  clear hw0 hxe
  refine (HW.out w0).mono ?_
  rintro e w1 ⟨rfl, hb⟩
  have HB1 := Lib.hid (HB0.out.trans (hb.mono HB0.out.size))
  have HXxe_1 := Lib.hid (HXxe_0.out.below hb HXxe_0.out.lt)
  clear hb
  have c1_xe0 : w1.cell? ⟨xe, 0, none⟩ = some (.int .i64 p) := HXxe_1.out.cell 0
  have c1_xe1 : w1.cell? ⟨xe, 1, none⟩ = some (.int .i64 b) := HXxe_1.out.cell 1
  have c1_xe2 : w1.cell? ⟨xe, 2, none⟩ = some (.slice A n c) := HXxe_1.out.cell 2
  have c1_xe3 : w1.cell? ⟨xe, 3, none⟩ = some (.int .i64 s) := HXxe_1.out.cell 3
  by_cases hbe : Hf.Be ⟨p, b, o, s⟩
  case neg =>
    rw [decide_eq_false hbe] at HGd
    clear hbe
    go_wp2_with fail
    refine (HGd.out w1 HB1.out).mono ?_
    rintro e w2 ⟨rfl, hb⟩
    clear c1_xe0 c1_xe1 c1_xe2 c1_xe3
    have HB2 := Lib.hid (HB1.out.trans (hb.mono HB1.out.size))
    have HXxe_2 := Lib.hid (HXxe_1.out.below hb HXxe_1.out.lt)
    clear hb
    have c2_xe0 : w2.cell? ⟨xe, 0, none⟩ = some (.int .i64 p) := HXxe_2.out.cell 0
    have c2_xe1 : w2.cell? ⟨xe, 1, none⟩ = some (.int .i64 b) := HXxe_2.out.cell 1
    have c2_xe2 : w2.cell? ⟨xe, 2, none⟩ = some (.slice A n c) := HXxe_2.out.cell 2
    have c2_xe3 : w2.cell? ⟨xe, 3, none⟩ = some (.int .i64 s) := HXxe_2.out.cell 3
    go_wp2_with fail
    refine (HW.out w2).mono ?_
    rintro e w3 ⟨rfl, hb⟩
    clear c2_xe0 c2_xe1 c2_xe2 c2_xe3
    have HB3 := Lib.hid (HB2.out.trans (hb.mono HB2.out.size))
    have HXxe_3 := Lib.hid (HXxe_2.out.below hb HXxe_2.out.lt)
    clear hb
    go_wp2_with fail
    go_ret
    exact ⟨rfl, HB3.out⟩
  case pos =>
  rw [decide_eq_true hbe] at HGd
  have HBe := Lib.hid hbe
  have g0 : 0 ≤ b ∧ n ≤ 1024 ∧ b + (n : Int) ≤ 1099511627776 := by
    obtain ⟨h1, h2, h3, h4, h5, h6, h7, h8⟩ := hbe
    simp only at h3 h6 h7
    have := HL.out
    rw [this] at h6 h7
    exact ⟨h3, h6, h7⟩
  obtain ⟨f1, f2, f3, f4, f5, f6, f7⟩ := heard_facts hbe q
  have HS2 := Lib.hid (heard_same hbe q)
  have HHH := Lib.hid (fun h1 h2 h3 => heard_heard (q := q) (u := u) hbe h1 h2 h3)
  have HU2 := Lib.hid (heard_facts hbe u).1
  have HU3 := Lib.hid (hheard_len ⟨p, b, o, s⟩ u)
  have HU4 := Lib.hid (heard_facts hbe u).2.1
  have HR3 := Lib.hid (hheard_len ⟨p, b, o, s⟩ q)
  obtain ⟨r, hr⟩ : ∃ r, r = hheard ⟨p, b, o, s⟩ q := ⟨_, rfl⟩
  rw [← hr] at HHd f1 f2 f3 f4 f5 f6 f7 HS2 HHH HR3
  clear hr hbe
  obtain ⟨⟨rp, rb, ro, rs⟩, re⟩ := r
  simp only at f1 f3 f4 f5 f7 HR3
  subst f1
  have ts : (rs != s) = false := by rw [f3]; simp
  clear f3
  have HRb := Lib.hid f2
  have HF5 := Lib.hid f5
  have HF6 := Lib.hid f6
  have HF7 := Lib.hid f7
  simp only at HHd
  clear f2 f5 f6 f7
  go_wp2_with fail
  refine (HGd.out w1 HB1.out).mono ?_
  rintro e w2 ⟨rfl, hb⟩
  clear c1_xe0 c1_xe1 c1_xe2 c1_xe3
  have HB2 := Lib.hid (HB1.out.trans (hb.mono HB1.out.size))
  have HXxe_2 := Lib.hid (HXxe_1.out.below hb HXxe_1.out.lt)
  clear hb
  have c2_xe0 : w2.cell? ⟨xe, 0, none⟩ = some (.int .i64 p) := HXxe_2.out.cell 0
  have c2_xe1 : w2.cell? ⟨xe, 1, none⟩ = some (.int .i64 b) := HXxe_2.out.cell 1
  have c2_xe2 : w2.cell? ⟨xe, 2, none⟩ = some (.slice A n c) := HXxe_2.out.cell 2
  have c2_xe3 : w2.cell? ⟨xe, 3, none⟩ = some (.int .i64 s) := HXxe_2.out.cell 3
  go_wp2_with fail
  refine (HHd.out w2 HB2.out).mono ?_
  rintro e w3 ⟨v, rfl, ho, hb⟩
  obtain ⟨Aa, na, ca, rfl⟩ := ownG_slice ho
  clear c2_xe0 c2_xe1 c2_xe2 c2_xe3
  have HB3 := Lib.hid (HB2.out.trans (hb.mono HB2.out.size))
  have HXxe_3 := Lib.hid (HXxe_2.out.below hb HXxe_2.out.lt)
  have HOa_3 := Lib.hid ho
  clear hb ho
  have c3_xe0 : w3.cell? ⟨xe, 0, none⟩ = some (.int .i64 p) := HXxe_3.out.cell 0
  have c3_xe1 : w3.cell? ⟨xe, 1, none⟩ = some (.int .i64 b) := HXxe_3.out.cell 1
  have c3_xe2 : w3.cell? ⟨xe, 2, none⟩ = some (.slice A n c) := HXxe_3.out.cell 2
  have c3_xe3 : w3.cell? ⟨xe, 3, none⟩ = some (.int .i64 s) := HXxe_3.out.cell 3
  have l3_xe : xe < w3.heap.size := HXxe_3.out.lt
  obtain ⟨xa, hxa⟩ : ∃ x, x = w3.heap.size := ⟨_, rfl⟩
  obtain ⟨w4, hw4⟩ : ∃ v, v = w3.alloc (.cells #[.int .i64 rp, .int .i64 rb, .slice Aa na ca, .int .i64 rs] 24) := ⟨_, rfl⟩
  have hb : Below w3.heap.size w3 w4 := hw4 ▸ (Below.refl _ _).alloc (Nat.le_refl _) _
  have HB4 := Lib.hid (HB3.out.trans (hb.mono HB3.out.size))
  have HXxe_4 := Lib.hid (HXxe_3.out.below hb HXxe_3.out.lt)
  have HOa_4 := Lib.hid (OwnG.below HOa_3.out hb)
  have HXxa_4 : Hid (Blk w4 xa 24 #[.int .i64 rp, .int .i64 rb, .slice Aa na ca, .int .i64 rs]) := Lib.hid (by rw [hw4, hxa]; exact Blk.new w3 _ _)
  clear hb
  have HA4_4 : Hid (Below w4.heap.size w4 w4) := Lib.hid (Below.refl _ _)
  have HIa : Hid (InH w4 ⟨rp, rb, ro, rs⟩ Aa na ca) := Lib.hid (OutH.in_ (h := ⟨rp, rb, ro, rs⟩) HOa_4.out HRb.out.i (by have := HR3.out; show ro.length ≤ 3518437208883; omega))
  have HNa : Hid (na = ro.length) := Lib.hid HIa.out.len.symm
  have HH2 := Lib.hid (fun w' (hb : Below w4.heap.size w4 w') => HHx.out ⟨rp, rb, ro, rs⟩ Aa na ca w' (HIa.out.next hb))
  rw [HS2.out] at HH2
  unfold Hf.val at HH2
  simp only at HH2
  have HG2 := Lib.hid (fun w' (hb : Below w4.heap.size w4 w') => HGx.out ⟨rp, rb, ro, rs⟩ Aa na ca w' (HIa.out.next hb))
  rw [decide_eq_true HRb.out] at HG2
  unfold Hf.val at HG2
  simp only at HG2
  go_wp2_with fail
  rw [← hw4, ← hxa]
  clear hw4 hxa
  refine (HH2.out w4 HA4_4.out).mono ?_
  rintro e w5 ⟨v, rfl, ho, hb⟩
  obtain ⟨Ab, nb, cb, rfl⟩ := ownG_slice ho
  clear c3_xe0 c3_xe1 c3_xe2 c3_xe3 l3_xe
  have HB5 := Lib.hid (HB4.out.trans (hb.mono HB4.out.size))
  have HXxe_5 := Lib.hid (HXxe_4.out.below hb HXxe_4.out.lt)
  have HXxa_5 := Lib.hid (HXxa_4.out.below hb HXxa_4.out.lt)
  have HOa_5 := Lib.hid (OwnG.below HOa_4.out hb)
  have HA4_5 := Lib.hid (HA4_4.out.trans (hb.mono HA4_4.out.size))
  have HOb_5 := Lib.hid ho
  clear hb ho
  have c5_xe0 : w5.cell? ⟨xe, 0, none⟩ = some (.int .i64 p) := HXxe_5.out.cell 0
  have c5_xe1 : w5.cell? ⟨xe, 1, none⟩ = some (.int .i64 b) := HXxe_5.out.cell 1
  have c5_xe2 : w5.cell? ⟨xe, 2, none⟩ = some (.slice A n c) := HXxe_5.out.cell 2
  have c5_xe3 : w5.cell? ⟨xe, 3, none⟩ = some (.int .i64 s) := HXxe_5.out.cell 3
  have l5_xe : xe < w5.heap.size := HXxe_5.out.lt
  have c5_xa0 : w5.cell? ⟨xa, 0, none⟩ = some (.int .i64 rp) := HXxa_5.out.cell 0
  have c5_xa1 : w5.cell? ⟨xa, 1, none⟩ = some (.int .i64 rb) := HXxa_5.out.cell 1
  have c5_xa2 : w5.cell? ⟨xa, 2, none⟩ = some (.slice Aa na ca) := HXxa_5.out.cell 2
  have c5_xa3 : w5.cell? ⟨xa, 3, none⟩ = some (.int .i64 rs) := HXxa_5.out.cell 3
  have l5_xa : xa < w5.heap.size := HXxa_5.out.lt
  obtain ⟨xb, hxb⟩ : ∃ x, x = w5.heap.size := ⟨_, rfl⟩
  obtain ⟨w6, hw6⟩ : ∃ v, v = w5.alloc (.cells #[.int .i64 rp, .int .i64 rb, .slice Ab nb cb, .int .i64 rs] 24) := ⟨_, rfl⟩
  have hb : Below w5.heap.size w5 w6 := hw6 ▸ (Below.refl _ _).alloc (Nat.le_refl _) _
  have HB6 := Lib.hid (HB5.out.trans (hb.mono HB5.out.size))
  have HXxe_6 := Lib.hid (HXxe_5.out.below hb HXxe_5.out.lt)
  have HXxa_6 := Lib.hid (HXxa_5.out.below hb HXxa_5.out.lt)
  have HOa_6 := Lib.hid (OwnG.below HOa_5.out hb)
  have HOb_6 := Lib.hid (OwnG.below HOb_5.out hb)
  have HA4_6 := Lib.hid (HA4_5.out.trans (hb.mono HA4_5.out.size))
  have HXxb_6 : Hid (Blk w6 xb 24 #[.int .i64 rp, .int .i64 rb, .slice Ab nb cb, .int .i64 rs]) := Lib.hid (by rw [hw6, hxb]; exact Blk.new w5 _ _)
  clear hb
  have HA6_6 : Hid (Below w6.heap.size w6 w6) := Lib.hid (Below.refl _ _)
  have HSm := Lib.hid (fun w' (hb : Below w6.heap.size w6 w') => sameH ⟨rp, rb, ro, rs⟩ ⟨rp, rb, ro, rs⟩ Aa Ab na ca nb cb w' (((ownG_reads HOa_6.out).below hb).more hb.size) (((ownG_reads HOb_6.out).below hb).more hb.size) (by have h1 := HNa.out; have h2 := HR3.out; omega))
  unfold Hf.val at HSm
  rw [decide_eq_true rfl] at HSm
  go_wp2_with fail
  rw [← hw6, ← hxb]
  clear hw6 hxb
  refine (HSm.out w6 HA6_6.out).mono ?_
  rintro e w7 ⟨rfl, hb⟩
  clear c5_xe0 c5_xe1 c5_xe2 c5_xe3 l5_xe c5_xa0 c5_xa1 c5_xa2 c5_xa3 l5_xa
  have HB7 := Lib.hid (HB6.out.trans (hb.mono HB6.out.size))
  have HXxe_7 := Lib.hid (HXxe_6.out.below hb HXxe_6.out.lt)
  have HXxa_7 := Lib.hid (HXxa_6.out.below hb HXxa_6.out.lt)
  have HXxb_7 := Lib.hid (HXxb_6.out.below hb HXxb_6.out.lt)
  have HOa_7 := Lib.hid (OwnG.below HOa_6.out hb)
  have HOb_7 := Lib.hid (OwnG.below HOb_6.out hb)
  have HA4_7 := Lib.hid (HA4_6.out.trans (hb.mono HA4_6.out.size))
  have HA6_7 := Lib.hid (HA6_6.out.trans (hb.mono HA6_6.out.size))
  clear hb
  have c7_xe0 : w7.cell? ⟨xe, 0, none⟩ = some (.int .i64 p) := HXxe_7.out.cell 0
  have c7_xe1 : w7.cell? ⟨xe, 1, none⟩ = some (.int .i64 b) := HXxe_7.out.cell 1
  have c7_xe2 : w7.cell? ⟨xe, 2, none⟩ = some (.slice A n c) := HXxe_7.out.cell 2
  have c7_xe3 : w7.cell? ⟨xe, 3, none⟩ = some (.int .i64 s) := HXxe_7.out.cell 3
  have c7_xa0 : w7.cell? ⟨xa, 0, none⟩ = some (.int .i64 rp) := HXxa_7.out.cell 0
  have c7_xa1 : w7.cell? ⟨xa, 1, none⟩ = some (.int .i64 rb) := HXxa_7.out.cell 1
  have c7_xa2 : w7.cell? ⟨xa, 2, none⟩ = some (.slice Aa na ca) := HXxa_7.out.cell 2
  have c7_xa3 : w7.cell? ⟨xa, 3, none⟩ = some (.int .i64 rs) := HXxa_7.out.cell 3
  have tb : ¬ (rb < b) := by omega
  have tb2 : decide (rb < b) = false := decide_eq_false tb
  have tl : rb + (na : Int) = b + (n : Int) := by have h1 := HF5.out; have h2 := HNa.out; have h3 := HL.out; omega
  have tw1 : IntKind.i64.wrap (rb + (na : Int)) = b + (n : Int) := by rw [tl, IntWalk.i64_in _ (by omega)]
  have tw2 : IntKind.i64.wrap (b + (n : Int)) = b + (n : Int) := IntWalk.i64_in _ (by omega)
  have tz : (rb + (na : Int) != b + (n : Int)) = false := by rw [tl]; simp
  go_wp2_with fail
  refine (HG2.out w7 HA4_7.out).mono ?_
  rintro e w8 ⟨rfl, hb⟩
  clear c7_xe0 c7_xe1 c7_xe2 c7_xe3 c7_xa0 c7_xa1 c7_xa2 c7_xa3
  have HB8 := Lib.hid (HB7.out.trans (hb.mono HB7.out.size))
  have HXxe_8 := Lib.hid (HXxe_7.out.below hb HXxe_7.out.lt)
  have HXxa_8 := Lib.hid (HXxa_7.out.below hb HXxa_7.out.lt)
  have HXxb_8 := Lib.hid (HXxb_7.out.below hb HXxb_7.out.lt)
  have HOa_8 := Lib.hid (OwnG.below HOa_7.out hb)
  have HOb_8 := Lib.hid (OwnG.below HOb_7.out hb)
  have HA4_8 := Lib.hid (HA4_7.out.trans (hb.mono HA4_7.out.size))
  have HA6_8 := Lib.hid (HA6_7.out.trans (hb.mono HA6_7.out.size))
  clear hb
  have c8_xe0 : w8.cell? ⟨xe, 0, none⟩ = some (.int .i64 p) := HXxe_8.out.cell 0
  have c8_xe1 : w8.cell? ⟨xe, 1, none⟩ = some (.int .i64 b) := HXxe_8.out.cell 1
  have c8_xe2 : w8.cell? ⟨xe, 2, none⟩ = some (.slice A n c) := HXxe_8.out.cell 2
  have c8_xe3 : w8.cell? ⟨xe, 3, none⟩ = some (.int .i64 s) := HXxe_8.out.cell 3
  have c8_xa0 : w8.cell? ⟨xa, 0, none⟩ = some (.int .i64 rp) := HXxa_8.out.cell 0
  have c8_xa1 : w8.cell? ⟨xa, 1, none⟩ = some (.int .i64 rb) := HXxa_8.out.cell 1
  have c8_xa2 : w8.cell? ⟨xa, 2, none⟩ = some (.slice Aa na ca) := HXxa_8.out.cell 2
  have c8_xa3 : w8.cell? ⟨xa, 3, none⟩ = some (.int .i64 rs) := HXxa_8.out.cell 3
  have hle : ro.length = na := HNa.out.symm
  by_cases hc_127 : q < b
  case pos =>
    have t_hc_127 : decide (q < b) = true := decide_eq_true hc_127
    have hre : (⟨rp, rb, ro, rs⟩ : Hf) = ⟨p, b, o, s⟩ := HF6.out (by rintro ⟨h1, h2⟩; (try simp only at h1 h2); have := HL.out; omega)
    have HSe := Lib.hid (fun w' (hb : Below w8.heap.size w8 w') => sameH ⟨rp, rb, ro, rs⟩ ⟨p, b, o, s⟩ Aa A na ca n c w' (((ownG_reads HOa_8.out).below hb).more hb.size) ((HRe.out.below (HB8.out.trans (hb.mono HB8.out.size))).more (HB8.out.trans (hb.mono HB8.out.size)).size) (by have h1 := HNa.out; have h2 := HR3.out; omega))
    rw [decide_eq_true hre] at HSe
    unfold Hf.val at HSe
    clear hre
    have HA8_8 : Hid (Below w8.heap.size w8 w8) := Lib.hid (Below.refl _ _)
    go_wp2_with fail
    refine (HSe.out w8 HA8_8.out).mono ?_
    rintro e w9 ⟨rfl, hb⟩
    clear c8_xe0 c8_xe1 c8_xe2 c8_xe3 c8_xa0 c8_xa1 c8_xa2 c8_xa3
    have HB9 := Lib.hid (HB8.out.trans (hb.mono HB8.out.size))
    have HXxe_9 := Lib.hid (HXxe_8.out.below hb HXxe_8.out.lt)
    have HXxa_9 := Lib.hid (HXxa_8.out.below hb HXxa_8.out.lt)
    have HXxb_9 := Lib.hid (HXxb_8.out.below hb HXxb_8.out.lt)
    have HOa_9 := Lib.hid (OwnG.below HOa_8.out hb)
    have HOb_9 := Lib.hid (OwnG.below HOb_8.out hb)
    have HA4_9 := Lib.hid (HA4_8.out.trans (hb.mono HA4_8.out.size))
    have HA6_9 := Lib.hid (HA6_8.out.trans (hb.mono HA6_8.out.size))
    have HA8_9 := Lib.hid (HA8_8.out.trans (hb.mono HA8_8.out.size))
    clear hb
    have c9_xe0 : w9.cell? ⟨xe, 0, none⟩ = some (.int .i64 p) := HXxe_9.out.cell 0
    have c9_xe1 : w9.cell? ⟨xe, 1, none⟩ = some (.int .i64 b) := HXxe_9.out.cell 1
    have c9_xe2 : w9.cell? ⟨xe, 2, none⟩ = some (.slice A n c) := HXxe_9.out.cell 2
    have c9_xe3 : w9.cell? ⟨xe, 3, none⟩ = some (.int .i64 s) := HXxe_9.out.cell 3
    have c9_xa0 : w9.cell? ⟨xa, 0, none⟩ = some (.int .i64 rp) := HXxa_9.out.cell 0
    have c9_xa1 : w9.cell? ⟨xa, 1, none⟩ = some (.int .i64 rb) := HXxa_9.out.cell 1
    have c9_xa2 : w9.cell? ⟨xa, 2, none⟩ = some (.slice Aa na ca) := HXxa_9.out.cell 2
    have c9_xa3 : w9.cell? ⟨xa, 3, none⟩ = some (.int .i64 rs) := HXxa_9.out.cell 3
    go_wp2_with fail
    go_ret
    exact ⟨rfl, HB9.out⟩
  case neg =>
    have t_hc_127 : decide (q < b) = false := decide_eq_false hc_127
    by_cases hc_0 : b + (n : Int) < q
    case pos =>
      have t_hc_0 : decide (b + (n : Int) < q) = true := decide_eq_true hc_0
      have hre : (⟨rp, rb, ro, rs⟩ : Hf) = ⟨p, b, o, s⟩ := HF6.out (by rintro ⟨h1, h2⟩; (try simp only at h1 h2); have := HL.out; omega)
      have HSe := Lib.hid (fun w' (hb : Below w8.heap.size w8 w') => sameH ⟨rp, rb, ro, rs⟩ ⟨p, b, o, s⟩ Aa A na ca n c w' (((ownG_reads HOa_8.out).below hb).more hb.size) ((HRe.out.below (HB8.out.trans (hb.mono HB8.out.size))).more (HB8.out.trans (hb.mono HB8.out.size)).size) (by have h1 := HNa.out; have h2 := HR3.out; omega))
      rw [decide_eq_true hre] at HSe
      unfold Hf.val at HSe
      clear hre
      have HA8_8 : Hid (Below w8.heap.size w8 w8) := Lib.hid (Below.refl _ _)
      go_wp2_with fail
      refine (HSe.out w8 HA8_8.out).mono ?_
      rintro e w9 ⟨rfl, hb⟩
      clear c8_xe0 c8_xe1 c8_xe2 c8_xe3 c8_xa0 c8_xa1 c8_xa2 c8_xa3
      have HB9 := Lib.hid (HB8.out.trans (hb.mono HB8.out.size))
      have HXxe_9 := Lib.hid (HXxe_8.out.below hb HXxe_8.out.lt)
      have HXxa_9 := Lib.hid (HXxa_8.out.below hb HXxa_8.out.lt)
      have HXxb_9 := Lib.hid (HXxb_8.out.below hb HXxb_8.out.lt)
      have HOa_9 := Lib.hid (OwnG.below HOa_8.out hb)
      have HOb_9 := Lib.hid (OwnG.below HOb_8.out hb)
      have HA4_9 := Lib.hid (HA4_8.out.trans (hb.mono HA4_8.out.size))
      have HA6_9 := Lib.hid (HA6_8.out.trans (hb.mono HA6_8.out.size))
      have HA8_9 := Lib.hid (HA8_8.out.trans (hb.mono HA8_8.out.size))
      clear hb
      have c9_xe0 : w9.cell? ⟨xe, 0, none⟩ = some (.int .i64 p) := HXxe_9.out.cell 0
      have c9_xe1 : w9.cell? ⟨xe, 1, none⟩ = some (.int .i64 b) := HXxe_9.out.cell 1
      have c9_xe2 : w9.cell? ⟨xe, 2, none⟩ = some (.slice A n c) := HXxe_9.out.cell 2
      have c9_xe3 : w9.cell? ⟨xe, 3, none⟩ = some (.int .i64 s) := HXxe_9.out.cell 3
      have c9_xa0 : w9.cell? ⟨xa, 0, none⟩ = some (.int .i64 rp) := HXxa_9.out.cell 0
      have c9_xa1 : w9.cell? ⟨xa, 1, none⟩ = some (.int .i64 rb) := HXxa_9.out.cell 1
      have c9_xa2 : w9.cell? ⟨xa, 2, none⟩ = some (.slice Aa na ca) := HXxa_9.out.cell 2
      have c9_xa3 : w9.cell? ⟨xa, 3, none⟩ = some (.int .i64 rs) := HXxa_9.out.cell 3
      go_wp2_with fail
      go_ret
      exact ⟨rfl, HB9.out⟩
    case neg =>
      have t_hc_0 : decide (b + (n : Int) < q) = false := decide_eq_false hc_0
      by_cases hc_0 : u < q
      case pos =>
        have t_hc_0 : decide (u < q) = true := decide_eq_true hc_0
        have tq : (rb == q) = true := by
          by_cases hn : Hf.News ⟨p, b, o, s⟩ q
          · have h0 := HF7.out hn; (try simp only at h0); simp [h0]
          · have h1 := HF6.out hn; injection h1 with _ h1; have : q = b := by (have h2 : ¬ (b < q ∧ q ≤ b + (o.length : Int)) := hn; have := HL.out; omega)
            simp [h1, this]
        go_wp2_with fail
        go_ret
        exact ⟨rfl, HB8.out⟩
      case neg =>
        have t_hc_0 : decide (u < q) = false := decide_eq_false hc_0
        by_cases hc_0 : b + (n : Int) < u
        case pos =>
          have t_hc_0 : decide (b + (n : Int) < u) = true := decide_eq_true hc_0
          have tq : (rb == q) = true := by
            by_cases hn : Hf.News ⟨p, b, o, s⟩ q
            · have h0 := HF7.out hn; (try simp only at h0); simp [h0]
            · have h1 := HF6.out hn; injection h1 with _ h1; have : q = b := by (have h2 : ¬ (b < q ∧ q ≤ b + (o.length : Int)) := hn; have := HL.out; omega)
              simp [h1, this]
          go_wp2_with fail
          go_ret
          exact ⟨rfl, HB8.out⟩
        case neg =>
          have t_hc_0 : decide (b + (n : Int) < u) = false := decide_eq_false hc_0
          have h5 := HHH.out (by omega) (by show u ≤ b + (o.length : Int); have := HL.out; omega) (by omega)
          obtain ⟨t, ht⟩ : ∃ t, t = hheard ⟨p, b, o, s⟩ u := ⟨_, rfl⟩
          rw [← ht] at HHu HU2 HU3 HU4 h5
          have H5 := Lib.hid h5
          clear h5 ht
          obtain ⟨⟨tp, tb_, to_, ts⟩, te⟩ := t
          have hte : te = 0 := HU2.out
          subst hte
          simp only at HHu HU3
          have HH3 := Lib.hid (fun w' (hb : Below w4.heap.size w4 w') => HHy.out ⟨rp, rb, ro, rs⟩ Aa na ca w' (HIa.out.next hb))
          rw [H5.out] at HH3
          unfold Hf.val at HH3
          simp only at HH3
          go_wp2_with fail
          refine (HH3.out w8 HA4_8.out).mono ?_
          rintro e w9 ⟨v, rfl, ho, hb⟩
          obtain ⟨Ad, nd, cd, rfl⟩ := ownG_slice ho
          clear c8_xe0 c8_xe1 c8_xe2 c8_xe3 c8_xa0 c8_xa1 c8_xa2 c8_xa3
          have HB9 := Lib.hid (HB8.out.trans (hb.mono HB8.out.size))
          have HXxe_9 := Lib.hid (HXxe_8.out.below hb HXxe_8.out.lt)
          have HXxa_9 := Lib.hid (HXxa_8.out.below hb HXxa_8.out.lt)
          have HXxb_9 := Lib.hid (HXxb_8.out.below hb HXxb_8.out.lt)
          have HOa_9 := Lib.hid (OwnG.below HOa_8.out hb)
          have HOb_9 := Lib.hid (OwnG.below HOb_8.out hb)
          have HA4_9 := Lib.hid (HA4_8.out.trans (hb.mono HA4_8.out.size))
          have HA6_9 := Lib.hid (HA6_8.out.trans (hb.mono HA6_8.out.size))
          have HOd_9 := Lib.hid ho
          clear hb ho
          have c9_xe0 : w9.cell? ⟨xe, 0, none⟩ = some (.int .i64 p) := HXxe_9.out.cell 0
          have c9_xe1 : w9.cell? ⟨xe, 1, none⟩ = some (.int .i64 b) := HXxe_9.out.cell 1
          have c9_xe2 : w9.cell? ⟨xe, 2, none⟩ = some (.slice A n c) := HXxe_9.out.cell 2
          have c9_xe3 : w9.cell? ⟨xe, 3, none⟩ = some (.int .i64 s) := HXxe_9.out.cell 3
          have l9_xe : xe < w9.heap.size := HXxe_9.out.lt
          have c9_xa0 : w9.cell? ⟨xa, 0, none⟩ = some (.int .i64 rp) := HXxa_9.out.cell 0
          have c9_xa1 : w9.cell? ⟨xa, 1, none⟩ = some (.int .i64 rb) := HXxa_9.out.cell 1
          have c9_xa2 : w9.cell? ⟨xa, 2, none⟩ = some (.slice Aa na ca) := HXxa_9.out.cell 2
          have c9_xa3 : w9.cell? ⟨xa, 3, none⟩ = some (.int .i64 rs) := HXxa_9.out.cell 3
          have l9_xa : xa < w9.heap.size := HXxa_9.out.lt
          have c9_xb0 : w9.cell? ⟨xb, 0, none⟩ = some (.int .i64 rp) := HXxb_9.out.cell 0
          have c9_xb1 : w9.cell? ⟨xb, 1, none⟩ = some (.int .i64 rb) := HXxb_9.out.cell 1
          have c9_xb2 : w9.cell? ⟨xb, 2, none⟩ = some (.slice Ab nb cb) := HXxb_9.out.cell 2
          have c9_xb3 : w9.cell? ⟨xb, 3, none⟩ = some (.int .i64 rs) := HXxb_9.out.cell 3
          have l9_xb : xb < w9.heap.size := HXxb_9.out.lt
          obtain ⟨xd, hxd⟩ : ∃ x, x = w9.heap.size := ⟨_, rfl⟩
          obtain ⟨w10, hw10⟩ : ∃ v, v = w9.alloc (.cells #[.int .i64 tp, .int .i64 tb_, .slice Ad nd cd, .int .i64 ts] 24) := ⟨_, rfl⟩
          have hb : Below w9.heap.size w9 w10 := hw10 ▸ (Below.refl _ _).alloc (Nat.le_refl _) _
          have HB10 := Lib.hid (HB9.out.trans (hb.mono HB9.out.size))
          have HXxe_10 := Lib.hid (HXxe_9.out.below hb HXxe_9.out.lt)
          have HXxa_10 := Lib.hid (HXxa_9.out.below hb HXxa_9.out.lt)
          have HXxb_10 := Lib.hid (HXxb_9.out.below hb HXxb_9.out.lt)
          have HOa_10 := Lib.hid (OwnG.below HOa_9.out hb)
          have HOb_10 := Lib.hid (OwnG.below HOb_9.out hb)
          have HOd_10 := Lib.hid (OwnG.below HOd_9.out hb)
          have HA4_10 := Lib.hid (HA4_9.out.trans (hb.mono HA4_9.out.size))
          have HA6_10 := Lib.hid (HA6_9.out.trans (hb.mono HA6_9.out.size))
          have HXxd_10 : Hid (Blk w10 xd 24 #[.int .i64 tp, .int .i64 tb_, .slice Ad nd cd, .int .i64 ts]) := Lib.hid (by rw [hw10, hxd]; exact Blk.new w9 _ _)
          clear hb
          go_wp2_with fail
          rw [← hw10, ← hxd]
          clear hw10 hxd
          refine (HHu.out w10 HB10.out).mono ?_
          rintro e w11 ⟨v, rfl, ho, hb⟩
          obtain ⟨Af, nf, cf, rfl⟩ := ownG_slice ho
          clear c9_xe0 c9_xe1 c9_xe2 c9_xe3 l9_xe c9_xa0 c9_xa1 c9_xa2 c9_xa3 l9_xa c9_xb0 c9_xb1 c9_xb2 c9_xb3 l9_xb
          have HB11 := Lib.hid (HB10.out.trans (hb.mono HB10.out.size))
          have HXxe_11 := Lib.hid (HXxe_10.out.below hb HXxe_10.out.lt)
          have HXxa_11 := Lib.hid (HXxa_10.out.below hb HXxa_10.out.lt)
          have HXxb_11 := Lib.hid (HXxb_10.out.below hb HXxb_10.out.lt)
          have HXxd_11 := Lib.hid (HXxd_10.out.below hb HXxd_10.out.lt)
          have HOa_11 := Lib.hid (OwnG.below HOa_10.out hb)
          have HOb_11 := Lib.hid (OwnG.below HOb_10.out hb)
          have HOd_11 := Lib.hid (OwnG.below HOd_10.out hb)
          have HA4_11 := Lib.hid (HA4_10.out.trans (hb.mono HA4_10.out.size))
          have HA6_11 := Lib.hid (HA6_10.out.trans (hb.mono HA6_10.out.size))
          have HOf_11 := Lib.hid ho
          clear hb ho
          have c11_xe0 : w11.cell? ⟨xe, 0, none⟩ = some (.int .i64 p) := HXxe_11.out.cell 0
          have c11_xe1 : w11.cell? ⟨xe, 1, none⟩ = some (.int .i64 b) := HXxe_11.out.cell 1
          have c11_xe2 : w11.cell? ⟨xe, 2, none⟩ = some (.slice A n c) := HXxe_11.out.cell 2
          have c11_xe3 : w11.cell? ⟨xe, 3, none⟩ = some (.int .i64 s) := HXxe_11.out.cell 3
          have l11_xe : xe < w11.heap.size := HXxe_11.out.lt
          have c11_xa0 : w11.cell? ⟨xa, 0, none⟩ = some (.int .i64 rp) := HXxa_11.out.cell 0
          have c11_xa1 : w11.cell? ⟨xa, 1, none⟩ = some (.int .i64 rb) := HXxa_11.out.cell 1
          have c11_xa2 : w11.cell? ⟨xa, 2, none⟩ = some (.slice Aa na ca) := HXxa_11.out.cell 2
          have c11_xa3 : w11.cell? ⟨xa, 3, none⟩ = some (.int .i64 rs) := HXxa_11.out.cell 3
          have l11_xa : xa < w11.heap.size := HXxa_11.out.lt
          have c11_xb0 : w11.cell? ⟨xb, 0, none⟩ = some (.int .i64 rp) := HXxb_11.out.cell 0
          have c11_xb1 : w11.cell? ⟨xb, 1, none⟩ = some (.int .i64 rb) := HXxb_11.out.cell 1
          have c11_xb2 : w11.cell? ⟨xb, 2, none⟩ = some (.slice Ab nb cb) := HXxb_11.out.cell 2
          have c11_xb3 : w11.cell? ⟨xb, 3, none⟩ = some (.int .i64 rs) := HXxb_11.out.cell 3
          have l11_xb : xb < w11.heap.size := HXxb_11.out.lt
          have c11_xd0 : w11.cell? ⟨xd, 0, none⟩ = some (.int .i64 tp) := HXxd_11.out.cell 0
          have c11_xd1 : w11.cell? ⟨xd, 1, none⟩ = some (.int .i64 tb_) := HXxd_11.out.cell 1
          have c11_xd2 : w11.cell? ⟨xd, 2, none⟩ = some (.slice Ad nd cd) := HXxd_11.out.cell 2
          have c11_xd3 : w11.cell? ⟨xd, 3, none⟩ = some (.int .i64 ts) := HXxd_11.out.cell 3
          have l11_xd : xd < w11.heap.size := HXxd_11.out.lt
          obtain ⟨xf, hxf⟩ : ∃ x, x = w11.heap.size := ⟨_, rfl⟩
          obtain ⟨w12, hw12⟩ : ∃ v, v = w11.alloc (.cells #[.int .i64 tp, .int .i64 tb_, .slice Af nf cf, .int .i64 ts] 24) := ⟨_, rfl⟩
          have hb : Below w11.heap.size w11 w12 := hw12 ▸ (Below.refl _ _).alloc (Nat.le_refl _) _
          have HB12 := Lib.hid (HB11.out.trans (hb.mono HB11.out.size))
          have HXxe_12 := Lib.hid (HXxe_11.out.below hb HXxe_11.out.lt)
          have HXxa_12 := Lib.hid (HXxa_11.out.below hb HXxa_11.out.lt)
          have HXxb_12 := Lib.hid (HXxb_11.out.below hb HXxb_11.out.lt)
          have HXxd_12 := Lib.hid (HXxd_11.out.below hb HXxd_11.out.lt)
          have HOa_12 := Lib.hid (OwnG.below HOa_11.out hb)
          have HOb_12 := Lib.hid (OwnG.below HOb_11.out hb)
          have HOd_12 := Lib.hid (OwnG.below HOd_11.out hb)
          have HOf_12 := Lib.hid (OwnG.below HOf_11.out hb)
          have HA4_12 := Lib.hid (HA4_11.out.trans (hb.mono HA4_11.out.size))
          have HA6_12 := Lib.hid (HA6_11.out.trans (hb.mono HA6_11.out.size))
          have HXxf_12 : Hid (Blk w12 xf 24 #[.int .i64 tp, .int .i64 tb_, .slice Af nf cf, .int .i64 ts]) := Lib.hid (by rw [hw12, hxf]; exact Blk.new w11 _ _)
          clear hb
          have HA12_12 : Hid (Below w12.heap.size w12 w12) := Lib.hid (Below.refl _ _)
          have HSd := Lib.hid (fun w' (hb : Below w12.heap.size w12 w') => sameH ⟨tp, tb_, to_, ts⟩ ⟨tp, tb_, to_, ts⟩ Ad Af nd cd nf cf w' (((ownG_reads HOd_12.out).below hb).more hb.size) (((ownG_reads HOf_12.out).below hb).more hb.size) (by have h1 := (ownG_reads HOd_12.out).mlen; have h2 := HU3.out; (try simp only at h1); omega))
          unfold Hf.val at HSd
          rw [decide_eq_true rfl] at HSd
          have c12_xd0 : w12.cell? ⟨xd, 0, none⟩ = some (.int .i64 tp) := HXxd_12.out.cell 0
          have c12_xd1 : w12.cell? ⟨xd, 1, none⟩ = some (.int .i64 tb_) := HXxd_12.out.cell 1
          have c12_xd2 : w12.cell? ⟨xd, 2, none⟩ = some (.slice Ad nd cd) := HXxd_12.out.cell 2
          have c12_xd3 : w12.cell? ⟨xd, 3, none⟩ = some (.int .i64 ts) := HXxd_12.out.cell 3
          have c12_xf0 : w12.cell? ⟨xf, 0, none⟩ = some (.int .i64 tp) := HXxf_12.out.cell 0
          have c12_xf1 : w12.cell? ⟨xf, 1, none⟩ = some (.int .i64 tb_) := HXxf_12.out.cell 1
          have c12_xf2 : w12.cell? ⟨xf, 2, none⟩ = some (.slice Af nf cf) := HXxf_12.out.cell 2
          have c12_xf3 : w12.cell? ⟨xf, 3, none⟩ = some (.int .i64 ts) := HXxf_12.out.cell 3
          go_wp2_with fail
          rw [← hw12, ← hxf]
          clear hw12 hxf
          refine (HSd.out w12 HA12_12.out).mono ?_
          rintro e w13 ⟨rfl, hb⟩
          clear c11_xe0 c11_xe1 c11_xe2 c11_xe3 l11_xe c11_xa0 c11_xa1 c11_xa2 c11_xa3 l11_xa c11_xb0 c11_xb1 c11_xb2 c11_xb3 l11_xb c11_xd0 c11_xd1 c11_xd2 c11_xd3 l11_xd c12_xd0 c12_xd1 c12_xd2 c12_xd3 c12_xf0 c12_xf1 c12_xf2 c12_xf3
          have HB13 := Lib.hid (HB12.out.trans (hb.mono HB12.out.size))
          have HXxe_13 := Lib.hid (HXxe_12.out.below hb HXxe_12.out.lt)
          have HXxa_13 := Lib.hid (HXxa_12.out.below hb HXxa_12.out.lt)
          have HXxb_13 := Lib.hid (HXxb_12.out.below hb HXxb_12.out.lt)
          have HXxd_13 := Lib.hid (HXxd_12.out.below hb HXxd_12.out.lt)
          have HXxf_13 := Lib.hid (HXxf_12.out.below hb HXxf_12.out.lt)
          have HOa_13 := Lib.hid (OwnG.below HOa_12.out hb)
          have HOb_13 := Lib.hid (OwnG.below HOb_12.out hb)
          have HOd_13 := Lib.hid (OwnG.below HOd_12.out hb)
          have HOf_13 := Lib.hid (OwnG.below HOf_12.out hb)
          have HA4_13 := Lib.hid (HA4_12.out.trans (hb.mono HA4_12.out.size))
          have HA6_13 := Lib.hid (HA6_12.out.trans (hb.mono HA6_12.out.size))
          have HA12_13 := Lib.hid (HA12_12.out.trans (hb.mono HA12_12.out.size))
          clear hb
          have c13_xe0 : w13.cell? ⟨xe, 0, none⟩ = some (.int .i64 p) := HXxe_13.out.cell 0
          have c13_xe1 : w13.cell? ⟨xe, 1, none⟩ = some (.int .i64 b) := HXxe_13.out.cell 1
          have c13_xe2 : w13.cell? ⟨xe, 2, none⟩ = some (.slice A n c) := HXxe_13.out.cell 2
          have c13_xe3 : w13.cell? ⟨xe, 3, none⟩ = some (.int .i64 s) := HXxe_13.out.cell 3
          go_wp2_with fail
          go_ret
          exact ⟨rfl, HB13.out⟩
end Go.Proofs.Ytneijohbmphheaa.Pk
