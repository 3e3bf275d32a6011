/- The walk of the law HalfTakes. -/
import Derived.Test.YtneijohbmphheaaHfWakes
import Derived.Test.YtneijohbmphheaaHfArgs
namespace Go.Proofs.Ytneijohbmphheaa.Pk
open Go.RowKit Go.Proofs.Ytneijohbmphheaa.Ar
set_option linter.unusedVariables false
set_option maxRecDepth 100000 in
set_option maxHeartbeats 8000000 in
theorem law_HalfTakes (HG : GoodH) (HP : PushH) (HF : FitsH) (HH : HeardH) (HT : TookH) (h : Hf) (A : Option Addr) (n c : Nat) (m : Mg) (q : Int) (w : World) (hk : ArgH w h A n c) (hm : m.I) (hq : -9223372036854775808 ≤ q ∧ q ≤ 9223372036854775807) :
    Calls Try.prog 9 #[h.val (.slice A n c), m.val, .int .i64 q] w fun e w' => e = .returned (.bool true) ∧ Below w.heap.size w w' := by
  have HW := Lib.hid (fun w => wakes_any HP HF HH w)
  have HGd := Lib.hid (fun w' (hb : Below w.heap.size w w') => HG h A n c w' (hk.next hb))
  have HFt := Lib.hid (fun w' (hb : Below w.heap.size w w') => HF h q A n c w' (hk.next hb) hq.1 hq.2)
  have HTk := Lib.hid (fun w' (hb : Below w.heap.size w w') => HT h A n c w' (hk.next hb))
  have HPu := Lib.hid (fun w' (hb : Below w.heap.size w w') => HP h m A n c w' (hk.next hb) hm)
  have HHd := Lib.hid (fun w' (hb : Below w.heap.size w w') => HH h q A n c w' (hk.next hb) hq.1 hq.2)
  have HF := Lib.hid HF
  have i3 := hk.i.s
  have HL := Lib.hid hk.len
  clear hk HG HP HH HT hq
  obtain ⟨p, b, o, s⟩ := h
  obtain ⟨mk, mo, mn, mu, mv⟩ := m
  unfold Hf.val at HGd HFt HTk HPu HHd
  unfold Mg.val at HPu
  unfold Hf.val Mg.val
  simp only at HGd HFt HTk HPu HHd HL i3 ⊢
  obtain ⟨xe, hxe⟩ : ∃ x, x = w.heap.size := ⟨_, rfl⟩
  obtain ⟨xm, hxm⟩ : ∃ x, x = xe + 1 := ⟨_, rfl⟩
  obtain ⟨wa, hwa⟩ : ∃ wa, wa = w.alloc (.cells #[.int .i64 p, .int .i64 b, .slice A n c, .int .i64 s] 24) := ⟨_, rfl⟩
  obtain ⟨w0, hw0⟩ : ∃ w0, w0 = wa.alloc (.cells #[.int .i64 mk, .int .i64 mo, .int .i64 mn, .int .i64 mu, .int .i64 mv] 26) := ⟨_, rfl⟩
  have hsa : wa.heap.size = xe + 1 := by rw [hwa, World.size_alloc, hxe]
  have HB0 : Hid (Below w.heap.size w w0) := Lib.hid (hw0 ▸ ((show Below w.heap.size w wa from hwa ▸ (Below.refl _ _).alloc (Nat.le_refl _) _).alloc (by omega) _))
  have HXxe_0 : Hid (Blk w0 xe 24 #[.int .i64 p, .int .i64 b, .slice A n c, .int .i64 s]) := Lib.hid (by rw [hw0, hwa, hxe]; exact (Blk.new w _ _).alloc _)
  have HXxm_0 : Hid (Blk w0 xm 26 #[.int .i64 mk, .int .i64 mo, .int .i64 mn, .int .i64 mu, .int .i64 mv]) := Lib.hid (by rw [hw0, hxm, ← hsa]; exact Blk.new wa _ _)
  go_enter Try.func9, Try.ntmps9
  go_wp2_with fail
  rw [← hwa, ← hw0, ← hxe, ← hxm]
  clear hwa hw0 hxe hxm hsa wa
  refine (HW.out w0).mono ?_
  rintro e w1 ⟨rfl, hb⟩
  have HB1 := Lib.hid (HB0.out.trans (hb.mono HB0.out.size))
  have HXxe_1 := Lib.hid (HXxe_0.out.below hb HXxe_0.out.lt)
  have HXxm_1 := Lib.hid (HXxm_0.out.below hb HXxm_0.out.lt)
  clear hb
  have c1_xe0 : w1.cell? ⟨xe, 0, none⟩ = some (.int .i64 p) := HXxe_1.out.cell 0
  have c1_xe1 : w1.cell? ⟨xe, 1, none⟩ = some (.int .i64 b) := HXxe_1.out.cell 1
  have c1_xe2 : w1.cell? ⟨xe, 2, none⟩ = some (.slice A n c) := HXxe_1.out.cell 2
  have c1_xe3 : w1.cell? ⟨xe, 3, none⟩ = some (.int .i64 s) := HXxe_1.out.cell 3
  have c1_xm0 : w1.cell? ⟨xm, 0, none⟩ = some (.int .i64 mk) := HXxm_1.out.cell 0
  have c1_xm1 : w1.cell? ⟨xm, 1, none⟩ = some (.int .i64 mo) := HXxm_1.out.cell 1
  have c1_xm2 : w1.cell? ⟨xm, 2, none⟩ = some (.int .i64 mn) := HXxm_1.out.cell 2
  have c1_xm3 : w1.cell? ⟨xm, 3, none⟩ = some (.int .i64 mu) := HXxm_1.out.cell 3
  have c1_xm4 : w1.cell? ⟨xm, 4, none⟩ = some (.int .i64 mv) := HXxm_1.out.cell 4
  by_cases hbe : Hf.Be ⟨p, b, o, s⟩
  case neg =>
    rw [decide_eq_false hbe] at HGd
    rw [show hfits ⟨p, b, o, s⟩ q = false from decide_eq_false (fun h => hbe h.1)] at HFt
    clear hbe
    go_wp2_with fail
    refine (HGd.out w1 HB1.out).mono ?_
    rintro e w2 ⟨rfl, hb⟩
    clear c1_xe0 c1_xe1 c1_xe2 c1_xe3 c1_xm0 c1_xm1 c1_xm2 c1_xm3 c1_xm4
    have HB2 := Lib.hid (HB1.out.trans (hb.mono HB1.out.size))
    have HXxe_2 := Lib.hid (HXxe_1.out.below hb HXxe_1.out.lt)
    have HXxm_2 := Lib.hid (HXxm_1.out.below hb HXxm_1.out.lt)
    clear hb
    have c2_xe0 : w2.cell? ⟨xe, 0, none⟩ = some (.int .i64 p) := HXxe_2.out.cell 0
    have c2_xe1 : w2.cell? ⟨xe, 1, none⟩ = some (.int .i64 b) := HXxe_2.out.cell 1
    have c2_xe2 : w2.cell? ⟨xe, 2, none⟩ = some (.slice A n c) := HXxe_2.out.cell 2
    have c2_xe3 : w2.cell? ⟨xe, 3, none⟩ = some (.int .i64 s) := HXxe_2.out.cell 3
    go_wp2_with fail
    refine (HFt.out w2 HB2.out).mono ?_
    rintro e w3 ⟨rfl, hb⟩
    clear c2_xe0 c2_xe1 c2_xe2 c2_xe3
    have HB3 := Lib.hid (HB2.out.trans (hb.mono HB2.out.size))
    have HXxe_3 := Lib.hid (HXxe_2.out.below hb HXxe_2.out.lt)
    have HXxm_3 := Lib.hid (HXxm_2.out.below hb HXxm_2.out.lt)
    clear hb
    have c3_xe0 : w3.cell? ⟨xe, 0, none⟩ = some (.int .i64 p) := HXxe_3.out.cell 0
    have c3_xe1 : w3.cell? ⟨xe, 1, none⟩ = some (.int .i64 b) := HXxe_3.out.cell 1
    have c3_xe2 : w3.cell? ⟨xe, 2, none⟩ = some (.slice A n c) := HXxe_3.out.cell 2
    have c3_xe3 : w3.cell? ⟨xe, 3, none⟩ = some (.int .i64 s) := HXxe_3.out.cell 3
    go_wp2_with fail
    go_ret
    exact ⟨rfl, HB3.out⟩
  case pos =>
  rw [decide_eq_true hbe] at HGd
  have HBe := Lib.hid hbe
  have g0 : 0 ≤ s ∧ s ≤ 1099511627776 := ⟨hbe.2.2.2.1, hbe.2.2.2.2.1⟩
  clear hbe
  by_cases hs : 1099511627775 ≤ s
  case pos =>
    have t1 : decide ((1099511627775 : Int) ≤ s) = true := decide_eq_true hs
    cases hfv : hfits ⟨p, b, o, s⟩ q with
    | false =>
      rw [hfv] at HFt
      clear hfv
      go_wp2_with fail
      refine (HGd.out w1 HB1.out).mono ?_
      rintro e w2 ⟨rfl, hb⟩
      clear c1_xe0 c1_xe1 c1_xe2 c1_xe3 c1_xm0 c1_xm1 c1_xm2 c1_xm3 c1_xm4
      have HB2 := Lib.hid (HB1.out.trans (hb.mono HB1.out.size))
      have HXxe_2 := Lib.hid (HXxe_1.out.below hb HXxe_1.out.lt)
      have HXxm_2 := Lib.hid (HXxm_1.out.below hb HXxm_1.out.lt)
      clear hb
      have c2_xe0 : w2.cell? ⟨xe, 0, none⟩ = some (.int .i64 p) := HXxe_2.out.cell 0
      have c2_xe1 : w2.cell? ⟨xe, 1, none⟩ = some (.int .i64 b) := HXxe_2.out.cell 1
      have c2_xe2 : w2.cell? ⟨xe, 2, none⟩ = some (.slice A n c) := HXxe_2.out.cell 2
      have c2_xe3 : w2.cell? ⟨xe, 3, none⟩ = some (.int .i64 s) := HXxe_2.out.cell 3
      go_wp2_with fail
      refine (HFt.out w2 HB2.out).mono ?_
      rintro e w3 ⟨rfl, hb⟩
      clear c2_xe0 c2_xe1 c2_xe2 c2_xe3
      have HB3 := Lib.hid (HB2.out.trans (hb.mono HB2.out.size))
      have HXxe_3 := Lib.hid (HXxe_2.out.below hb HXxe_2.out.lt)
      have HXxm_3 := Lib.hid (HXxm_2.out.below hb HXxm_2.out.lt)
      clear hb
      have c3_xe0 : w3.cell? ⟨xe, 0, none⟩ = some (.int .i64 p) := HXxe_3.out.cell 0
      have c3_xe1 : w3.cell? ⟨xe, 1, none⟩ = some (.int .i64 b) := HXxe_3.out.cell 1
      have c3_xe2 : w3.cell? ⟨xe, 2, none⟩ = some (.slice A n c) := HXxe_3.out.cell 2
      have c3_xe3 : w3.cell? ⟨xe, 3, none⟩ = some (.int .i64 s) := HXxe_3.out.cell 3
      go_wp2_with fail
      go_ret
      exact ⟨rfl, HB3.out⟩
    | true =>
      rw [hfv] at HFt
      clear hfv
      go_wp2_with fail
      refine (HGd.out w1 HB1.out).mono ?_
      rintro e w2 ⟨rfl, hb⟩
      clear c1_xe0 c1_xe1 c1_xe2 c1_xe3 c1_xm0 c1_xm1 c1_xm2 c1_xm3 c1_xm4
      have HB2 := Lib.hid (HB1.out.trans (hb.mono HB1.out.size))
      have HXxe_2 := Lib.hid (HXxe_1.out.below hb HXxe_1.out.lt)
      have HXxm_2 := Lib.hid (HXxm_1.out.below hb HXxm_1.out.lt)
      clear hb
      have c2_xe0 : w2.cell? ⟨xe, 0, none⟩ = some (.int .i64 p) := HXxe_2.out.cell 0
      have c2_xe1 : w2.cell? ⟨xe, 1, none⟩ = some (.int .i64 b) := HXxe_2.out.cell 1
      have c2_xe2 : w2.cell? ⟨xe, 2, none⟩ = some (.slice A n c) := HXxe_2.out.cell 2
      have c2_xe3 : w2.cell? ⟨xe, 3, none⟩ = some (.int .i64 s) := HXxe_2.out.cell 3
      go_wp2_with fail
      refine (HFt.out w2 HB2.out).mono ?_
      rintro e w3 ⟨rfl, hb⟩
      clear c2_xe0 c2_xe1 c2_xe2 c2_xe3
      have HB3 := Lib.hid (HB2.out.trans (hb.mono HB2.out.size))
      have HXxe_3 := Lib.hid (HXxe_2.out.below hb HXxe_2.out.lt)
      have HXxm_3 := Lib.hid (HXxm_2.out.below hb HXxm_2.out.lt)
      clear hb
      have c3_xe0 : w3.cell? ⟨xe, 0, none⟩ = some (.int .i64 p) := HXxe_3.out.cell 0
      have c3_xe1 : w3.cell? ⟨xe, 1, none⟩ = some (.int .i64 b) := HXxe_3.out.cell 1
      have c3_xe2 : w3.cell? ⟨xe, 2, none⟩ = some (.slice A n c) := HXxe_3.out.cell 2
      have c3_xe3 : w3.cell? ⟨xe, 3, none⟩ = some (.int .i64 s) := HXxe_3.out.cell 3
      go_wp2_with fail
      refine (HGd.out w3 HB3.out).mono ?_
      rintro e w4 ⟨rfl, hb⟩
      clear c3_xe0 c3_xe1 c3_xe2 c3_xe3
      have HB4 := Lib.hid (HB3.out.trans (hb.mono HB3.out.size))
      have HXxe_4 := Lib.hid (HXxe_3.out.below hb HXxe_3.out.lt)
      have HXxm_4 := Lib.hid (HXxm_3.out.below hb HXxm_3.out.lt)
      clear hb
      have c4_xe0 : w4.cell? ⟨xe, 0, none⟩ = some (.int .i64 p) := HXxe_4.out.cell 0
      have c4_xe1 : w4.cell? ⟨xe, 1, none⟩ = some (.int .i64 b) := HXxe_4.out.cell 1
      have c4_xe2 : w4.cell? ⟨xe, 2, none⟩ = some (.slice A n c) := HXxe_4.out.cell 2
      have c4_xe3 : w4.cell? ⟨xe, 3, none⟩ = some (.int .i64 s) := HXxe_4.out.cell 3
      go_wp2_with fail
      go_ret
      exact ⟨rfl, HB4.out⟩
  case neg =>
  have t1 : decide ((1099511627775 : Int) ≤ s) = false := decide_eq_false hs
  obtain ⟨f, hf⟩ : ∃ f, f = (q == s + 1) := ⟨_, rfl⟩
  have tf : (!f == (q == s + 1)) = false := by rw [← hf]; cases f <;> rfl
  have HX1 : Hid (hfits ⟨p, b, o, s⟩ q = f) := Lib.hid (by
    rw [hf]; unfold hfits
    by_cases e : q = s + 1
    · rw [decide_eq_true ⟨HBe.out, by show s < _; omega, e⟩, e]; simp
    · rw [decide_eq_false (fun h => e h.2.2)]; simp [e])
  clear hf
  have HX2 : Hid (htake ⟨p, b, o, s⟩ = (⟨p, b, o, s + 1⟩, 0)) := Lib.hid (by unfold htake; rw [if_pos HBe.out, if_neg (by show ¬ s = _; omega)]; rfl)
  have HX3 : Hid (Hf.Be ⟨p, b, o, s + 1⟩) := Lib.hid (HBe.out.one (by show s ≠ _; omega))
  have HX4 : Hid (hfits ⟨p, b, o, s + 1⟩ (s + 1) = false) := Lib.hid (decide_eq_false (fun h => by have := h.2.2; simp only at this; omega))
  have HX5 : Hid (hfits ⟨p, b, o, s + 1⟩ (s + 1 + 1) = true) := Lib.hid (decide_eq_true ⟨HX3.out, by show s + 1 < _; omega, rfl⟩)
  rw [HX1.out] at HFt
  rw [HX2.out] at HTk
  have HR1 : Hid ((hpush ⟨p, b, o, s⟩ ⟨mk, mo, mn, mu, mv⟩).2 = 0 → hfits (hpush ⟨p, b, o, s⟩ ⟨mk, mo, mn, mu, mv⟩).1 (s + 1) = true) := Lib.hid (push_fits HBe.out (by show s < _; omega))
  obtain ⟨hte, hfz⟩ := heard_fits (a := q) HBe.out (by show s < _; omega)
  have HR2 : Hid (hfits (hheard ⟨p, b, o, s⟩ q).1 (s + 1) = true) := Lib.hid hfz
  have HR3 := Lib.hid (hpush_len ⟨p, b, o, s⟩ ⟨mk, mo, mn, mu, mv⟩)
  have HR4 := Lib.hid (hheard_len ⟨p, b, o, s⟩ q)
  have HR5 : Hid (Hf.I (hpush ⟨p, b, o, s⟩ ⟨mk, mo, mn, mu, mv⟩).1) := Lib.hid (push_I _ _)
  have HR6 : Hid (Hf.I (hheard ⟨p, b, o, s⟩ q).1) := Lib.hid (heard_I _ _)
  obtain ⟨r, hr⟩ : ∃ r, r = hpush ⟨p, b, o, s⟩ ⟨mk, mo, mn, mu, mv⟩ := ⟨_, rfl⟩
  obtain ⟨t, ht⟩ : ∃ r, r = hheard ⟨p, b, o, s⟩ q := ⟨_, rfl⟩
  rw [← hr] at HPu HR1 HR3 HR5
  rw [← ht] at HHd HR2 HR4 HR6 hte
  clear hr ht hfz
  obtain ⟨⟨rp, rb, ro, rs⟩, re⟩ := r
  obtain ⟨⟨tp, tb, to_, ts⟩, te⟩ := t
  simp only at hte
  subst hte
  simp only at HPu HHd HR1 HR2 HR3 HR4
  go_wp2_with fail
  refine (HGd.out w1 HB1.out).mono ?_
  rintro e w2 ⟨rfl, hb⟩
  clear c1_xe0 c1_xe1 c1_xe2 c1_xe3 c1_xm0 c1_xm1 c1_xm2 c1_xm3 c1_xm4
  have HB2 := Lib.hid (HB1.out.trans (hb.mono HB1.out.size))
  have HXxe_2 := Lib.hid (HXxe_1.out.below hb HXxe_1.out.lt)
  have HXxm_2 := Lib.hid (HXxm_1.out.below hb HXxm_1.out.lt)
  clear hb
  have c2_xe0 : w2.cell? ⟨xe, 0, none⟩ = some (.int .i64 p) := HXxe_2.out.cell 0
  have c2_xe1 : w2.cell? ⟨xe, 1, none⟩ = some (.int .i64 b) := HXxe_2.out.cell 1
  have c2_xe2 : w2.cell? ⟨xe, 2, none⟩ = some (.slice A n c) := HXxe_2.out.cell 2
  have c2_xe3 : w2.cell? ⟨xe, 3, none⟩ = some (.int .i64 s) := HXxe_2.out.cell 3
  go_wp2_with fail
  refine (HFt.out w2 HB2.out).mono ?_
  rintro e w3 ⟨rfl, hb⟩
  clear c2_xe0 c2_xe1 c2_xe2 c2_xe3
  have HB3 := Lib.hid (HB2.out.trans (hb.mono HB2.out.size))
  have HXxe_3 := Lib.hid (HXxe_2.out.below hb HXxe_2.out.lt)
  have HXxm_3 := Lib.hid (HXxm_2.out.below hb HXxm_2.out.lt)
  clear hb
  have c3_xe0 : w3.cell? ⟨xe, 0, none⟩ = some (.int .i64 p) := HXxe_3.out.cell 0
  have c3_xe1 : w3.cell? ⟨xe, 1, none⟩ = some (.int .i64 b) := HXxe_3.out.cell 1
  have c3_xe2 : w3.cell? ⟨xe, 2, none⟩ = some (.slice A n c) := HXxe_3.out.cell 2
  have c3_xe3 : w3.cell? ⟨xe, 3, none⟩ = some (.int .i64 s) := HXxe_3.out.cell 3
  go_wp2_with fail
  refine (HTk.out w3 HB3.out).mono ?_
  rintro e w4 ⟨v, rfl, ho, hb⟩
  obtain ⟨Ax, nx, cx, rfl⟩ := ownG_slice ho
  clear c3_xe0 c3_xe1 c3_xe2 c3_xe3
  have HB4 := Lib.hid (HB3.out.trans (hb.mono HB3.out.size))
  have HXxe_4 := Lib.hid (HXxe_3.out.below hb HXxe_3.out.lt)
  have HXxm_4 := Lib.hid (HXxm_3.out.below hb HXxm_3.out.lt)
  have HOx_4 := Lib.hid ho
  clear hb ho
  have c4_xe0 : w4.cell? ⟨xe, 0, none⟩ = some (.int .i64 p) := HXxe_4.out.cell 0
  have c4_xe1 : w4.cell? ⟨xe, 1, none⟩ = some (.int .i64 b) := HXxe_4.out.cell 1
  have c4_xe2 : w4.cell? ⟨xe, 2, none⟩ = some (.slice A n c) := HXxe_4.out.cell 2
  have c4_xe3 : w4.cell? ⟨xe, 3, none⟩ = some (.int .i64 s) := HXxe_4.out.cell 3
  have l4_xe : xe < w4.heap.size := HXxe_4.out.lt
  have c4_xm0 : w4.cell? ⟨xm, 0, none⟩ = some (.int .i64 mk) := HXxm_4.out.cell 0
  have c4_xm1 : w4.cell? ⟨xm, 1, none⟩ = some (.int .i64 mo) := HXxm_4.out.cell 1
  have c4_xm2 : w4.cell? ⟨xm, 2, none⟩ = some (.int .i64 mn) := HXxm_4.out.cell 2
  have c4_xm3 : w4.cell? ⟨xm, 3, none⟩ = some (.int .i64 mu) := HXxm_4.out.cell 3
  have c4_xm4 : w4.cell? ⟨xm, 4, none⟩ = some (.int .i64 mv) := HXxm_4.out.cell 4
  have l4_xm : xm < w4.heap.size := HXxm_4.out.lt
  obtain ⟨xx, hxx⟩ : ∃ x, x = w4.heap.size := ⟨_, rfl⟩
  obtain ⟨w5, hw5⟩ : ∃ v, v = w4.alloc (.cells #[.int .i64 p, .int .i64 b, .slice Ax nx cx, .int .i64 (s + 1)] 24) := ⟨_, rfl⟩
  have hb : Below w4.heap.size w4 w5 := hw5 ▸ (Below.refl _ _).alloc (Nat.le_refl _) _
  have HB5 := Lib.hid (HB4.out.trans (hb.mono HB4.out.size))
  have HXxe_5 := Lib.hid (HXxe_4.out.below hb HXxe_4.out.lt)
  have HXxm_5 := Lib.hid (HXxm_4.out.below hb HXxm_4.out.lt)
  have HOx_5 := Lib.hid (OwnG.below HOx_4.out hb)
  have HXxx_5 : Hid (Blk w5 xx 24 #[.int .i64 p, .int .i64 b, .slice Ax nx cx, .int .i64 (s + 1)]) := Lib.hid (by rw [hw5, hxx]; exact Blk.new w4 _ _)
  clear hb
  have HXn : Hid (nx = n) := Lib.hid (by have h1 := (ownG_reads HOx_5.out).mlen; have h2 := HL.out; (try simp only at h1); omega)
  have HA5_5 : Hid (Below w5.heap.size w5 w5) := Lib.hid (Below.refl _ _)
  have HIx : Hid (InH w5 ⟨p, b, o, s + 1⟩ Ax nx cx) := Lib.hid (OutH.in_ (h := ⟨p, b, o, s + 1⟩) HOx_5.out HX3.out.i (by have := HX3.out.2.2.2.2.2.1; omega))
  have HF4 := Lib.hid (fun w' (hb : Below w5.heap.size w5 w') => HF.out ⟨p, b, o, s + 1⟩ (s + 1) Ax nx cx w' (HIx.out.next hb) (by omega) (by omega))
  rw [HX4.out] at HF4
  unfold Hf.val at HF4
  simp only at HF4
  have HF5 := Lib.hid (fun w' (hb : Below w5.heap.size w5 w') => HF.out ⟨p, b, o, s + 1⟩ (s + 1 + 1) Ax nx cx w' (HIx.out.next hb) (by omega) (by omega))
  rw [HX5.out] at HF5
  unfold Hf.val at HF5
  simp only at HF5
  go_wp2_with fail
  rw [← hw5, ← hxx]
  clear hw5 hxx
  refine (HF4.out w5 HA5_5.out).mono ?_
  rintro e w6 ⟨rfl, hb⟩
  clear c4_xe0 c4_xe1 c4_xe2 c4_xe3 l4_xe c4_xm0 c4_xm1 c4_xm2 c4_xm3 c4_xm4 l4_xm
  have HB6 := Lib.hid (HB5.out.trans (hb.mono HB5.out.size))
  have HXxe_6 := Lib.hid (HXxe_5.out.below hb HXxe_5.out.lt)
  have HXxm_6 := Lib.hid (HXxm_5.out.below hb HXxm_5.out.lt)
  have HXxx_6 := Lib.hid (HXxx_5.out.below hb HXxx_5.out.lt)
  have HOx_6 := Lib.hid (OwnG.below HOx_5.out hb)
  have HA5_6 := Lib.hid (HA5_5.out.trans (hb.mono HA5_5.out.size))
  clear hb
  have c6_xe0 : w6.cell? ⟨xe, 0, none⟩ = some (.int .i64 p) := HXxe_6.out.cell 0
  have c6_xe1 : w6.cell? ⟨xe, 1, none⟩ = some (.int .i64 b) := HXxe_6.out.cell 1
  have c6_xe2 : w6.cell? ⟨xe, 2, none⟩ = some (.slice A n c) := HXxe_6.out.cell 2
  have c6_xe3 : w6.cell? ⟨xe, 3, none⟩ = some (.int .i64 s) := HXxe_6.out.cell 3
  have c6_xx0 : w6.cell? ⟨xx, 0, none⟩ = some (.int .i64 p) := HXxx_6.out.cell 0
  have c6_xx1 : w6.cell? ⟨xx, 1, none⟩ = some (.int .i64 b) := HXxx_6.out.cell 1
  have c6_xx2 : w6.cell? ⟨xx, 2, none⟩ = some (.slice Ax nx cx) := HXxx_6.out.cell 2
  have c6_xx3 : w6.cell? ⟨xx, 3, none⟩ = some (.int .i64 (s + 1)) := HXxx_6.out.cell 3
  go_wp2_with fail
  refine (HF5.out w6 HA5_6.out).mono ?_
  rintro e w7 ⟨rfl, hb⟩
  clear c6_xe0 c6_xe1 c6_xe2 c6_xe3 c6_xx0 c6_xx1 c6_xx2 c6_xx3
  have HB7 := Lib.hid (HB6.out.trans (hb.mono HB6.out.size))
  have HXxe_7 := Lib.hid (HXxe_6.out.below hb HXxe_6.out.lt)
  have HXxm_7 := Lib.hid (HXxm_6.out.below hb HXxm_6.out.lt)
  have HXxx_7 := Lib.hid (HXxx_6.out.below hb HXxx_6.out.lt)
  have HOx_7 := Lib.hid (OwnG.below HOx_6.out hb)
  have HA5_7 := Lib.hid (HA5_6.out.trans (hb.mono HA5_6.out.size))
  clear hb
  have c7_xe0 : w7.cell? ⟨xe, 0, none⟩ = some (.int .i64 p) := HXxe_7.out.cell 0
  have c7_xe1 : w7.cell? ⟨xe, 1, none⟩ = some (.int .i64 b) := HXxe_7.out.cell 1
  have c7_xe2 : w7.cell? ⟨xe, 2, none⟩ = some (.slice A n c) := HXxe_7.out.cell 2
  have c7_xe3 : w7.cell? ⟨xe, 3, none⟩ = some (.int .i64 s) := HXxe_7.out.cell 3
  have c7_xm0 : w7.cell? ⟨xm, 0, none⟩ = some (.int .i64 mk) := HXxm_7.out.cell 0
  have c7_xm1 : w7.cell? ⟨xm, 1, none⟩ = some (.int .i64 mo) := HXxm_7.out.cell 1
  have c7_xm2 : w7.cell? ⟨xm, 2, none⟩ = some (.int .i64 mn) := HXxm_7.out.cell 2
  have c7_xm3 : w7.cell? ⟨xm, 3, none⟩ = some (.int .i64 mu) := HXxm_7.out.cell 3
  have c7_xm4 : w7.cell? ⟨xm, 4, none⟩ = some (.int .i64 mv) := HXxm_7.out.cell 4
  have c7_xx0 : w7.cell? ⟨xx, 0, none⟩ = some (.int .i64 p) := HXxx_7.out.cell 0
  have c7_xx1 : w7.cell? ⟨xx, 1, none⟩ = some (.int .i64 b) := HXxx_7.out.cell 1
  have c7_xx2 : w7.cell? ⟨xx, 2, none⟩ = some (.slice Ax nx cx) := HXxx_7.out.cell 2
  have c7_xx3 : w7.cell? ⟨xx, 3, none⟩ = some (.int .i64 (s + 1)) := HXxx_7.out.cell 3
  have tl : ((nx : Int) != (n : Int)) = false := by rw [HXn.out]; simp
  go_wp2_with fail
  refine (HPu.out w7 HB7.out).mono ?_
  rintro e w8 ⟨v, rfl, ho, hb⟩
  obtain ⟨Ay, ny, cy, rfl⟩ := ownG_slice ho
  clear c7_xe0 c7_xe1 c7_xe2 c7_xe3 c7_xm0 c7_xm1 c7_xm2 c7_xm3 c7_xm4 c7_xx0 c7_xx1 c7_xx2 c7_xx3 tl
  have HB8 := Lib.hid (HB7.out.trans (hb.mono HB7.out.size))
  have HXxe_8 := Lib.hid (HXxe_7.out.below hb HXxe_7.out.lt)
  have HXxm_8 := Lib.hid (HXxm_7.out.below hb HXxm_7.out.lt)
  have HXxx_8 := Lib.hid (HXxx_7.out.below hb HXxx_7.out.lt)
  have HOx_8 := Lib.hid (OwnG.below HOx_7.out hb)
  have HA5_8 := Lib.hid (HA5_7.out.trans (hb.mono HA5_7.out.size))
  have HOy_8 := Lib.hid ho
  clear hb ho
  have c8_xe0 : w8.cell? ⟨xe, 0, none⟩ = some (.int .i64 p) := HXxe_8.out.cell 0
  have c8_xe1 : w8.cell? ⟨xe, 1, none⟩ = some (.int .i64 b) := HXxe_8.out.cell 1
  have c8_xe2 : w8.cell? ⟨xe, 2, none⟩ = some (.slice A n c) := HXxe_8.out.cell 2
  have c8_xe3 : w8.cell? ⟨xe, 3, none⟩ = some (.int .i64 s) := HXxe_8.out.cell 3
  have l8_xe : xe < w8.heap.size := HXxe_8.out.lt
  have c8_xm0 : w8.cell? ⟨xm, 0, none⟩ = some (.int .i64 mk) := HXxm_8.out.cell 0
  have c8_xm1 : w8.cell? ⟨xm, 1, none⟩ = some (.int .i64 mo) := HXxm_8.out.cell 1
  have c8_xm2 : w8.cell? ⟨xm, 2, none⟩ = some (.int .i64 mn) := HXxm_8.out.cell 2
  have c8_xm3 : w8.cell? ⟨xm, 3, none⟩ = some (.int .i64 mu) := HXxm_8.out.cell 3
  have c8_xm4 : w8.cell? ⟨xm, 4, none⟩ = some (.int .i64 mv) := HXxm_8.out.cell 4
  have l8_xm : xm < w8.heap.size := HXxm_8.out.lt
  have c8_xx0 : w8.cell? ⟨xx, 0, none⟩ = some (.int .i64 p) := HXxx_8.out.cell 0
  have c8_xx1 : w8.cell? ⟨xx, 1, none⟩ = some (.int .i64 b) := HXxx_8.out.cell 1
  have c8_xx2 : w8.cell? ⟨xx, 2, none⟩ = some (.slice Ax nx cx) := HXxx_8.out.cell 2
  have c8_xx3 : w8.cell? ⟨xx, 3, none⟩ = some (.int .i64 (s + 1)) := HXxx_8.out.cell 3
  have l8_xx : xx < w8.heap.size := HXxx_8.out.lt
  obtain ⟨xy, hxy⟩ : ∃ x, x = w8.heap.size := ⟨_, rfl⟩
  obtain ⟨w9, hw9⟩ : ∃ v, v = w8.alloc (.cells #[.int .i64 rp, .int .i64 rb, .slice Ay ny cy, .int .i64 rs] 24) := ⟨_, rfl⟩
  have hb : Below w8.heap.size w8 w9 := hw9 ▸ (Below.refl _ _).alloc (Nat.le_refl _) _
  have HB9 := Lib.hid (HB8.out.trans (hb.mono HB8.out.size))
  have HXxe_9 := Lib.hid (HXxe_8.out.below hb HXxe_8.out.lt)
  have HXxm_9 := Lib.hid (HXxm_8.out.below hb HXxm_8.out.lt)
  have HXxx_9 := Lib.hid (HXxx_8.out.below hb HXxx_8.out.lt)
  have HOx_9 := Lib.hid (OwnG.below HOx_8.out hb)
  have HOy_9 := Lib.hid (OwnG.below HOy_8.out hb)
  have HA5_9 := Lib.hid (HA5_8.out.trans (hb.mono HA5_8.out.size))
  have HXxy_9 : Hid (Blk w9 xy 24 #[.int .i64 rp, .int .i64 rb, .slice Ay ny cy, .int .i64 rs]) := Lib.hid (by rw [hw9, hxy]; exact Blk.new w8 _ _)
  clear hb
  have HA9_9 : Hid (Below w9.heap.size w9 w9) := Lib.hid (Below.refl _ _)
  go_wp2_with fail
  rw [← hw9, ← hxy]
  clear hw9 hxy
  refine (HHd.out w9 HB9.out).mono ?_
  rintro e w10 ⟨v, rfl, ho, hb⟩
  obtain ⟨Az, nz, cz, rfl⟩ := ownG_slice ho
  clear c8_xe0 c8_xe1 c8_xe2 c8_xe3 l8_xe c8_xm0 c8_xm1 c8_xm2 c8_xm3 c8_xm4 l8_xm c8_xx0 c8_xx1 c8_xx2 c8_xx3 l8_xx
  have HB10 := Lib.hid (HB9.out.trans (hb.mono HB9.out.size))
  have HXxe_10 := Lib.hid (HXxe_9.out.below hb HXxe_9.out.lt)
  have HXxm_10 := Lib.hid (HXxm_9.out.below hb HXxm_9.out.lt)
  have HXxx_10 := Lib.hid (HXxx_9.out.below hb HXxx_9.out.lt)
  have HXxy_10 := Lib.hid (HXxy_9.out.below hb HXxy_9.out.lt)
  have HOx_10 := Lib.hid (OwnG.below HOx_9.out hb)
  have HOy_10 := Lib.hid (OwnG.below HOy_9.out hb)
  have HA5_10 := Lib.hid (HA5_9.out.trans (hb.mono HA5_9.out.size))
  have HA9_10 := Lib.hid (HA9_9.out.trans (hb.mono HA9_9.out.size))
  have HOz_10 := Lib.hid ho
  clear hb ho
  have c10_xe0 : w10.cell? ⟨xe, 0, none⟩ = some (.int .i64 p) := HXxe_10.out.cell 0
  have c10_xe1 : w10.cell? ⟨xe, 1, none⟩ = some (.int .i64 b) := HXxe_10.out.cell 1
  have c10_xe2 : w10.cell? ⟨xe, 2, none⟩ = some (.slice A n c) := HXxe_10.out.cell 2
  have c10_xe3 : w10.cell? ⟨xe, 3, none⟩ = some (.int .i64 s) := HXxe_10.out.cell 3
  have l10_xe : xe < w10.heap.size := HXxe_10.out.lt
  have c10_xm0 : w10.cell? ⟨xm, 0, none⟩ = some (.int .i64 mk) := HXxm_10.out.cell 0
  have c10_xm1 : w10.cell? ⟨xm, 1, none⟩ = some (.int .i64 mo) := HXxm_10.out.cell 1
  have c10_xm2 : w10.cell? ⟨xm, 2, none⟩ = some (.int .i64 mn) := HXxm_10.out.cell 2
  have c10_xm3 : w10.cell? ⟨xm, 3, none⟩ = some (.int .i64 mu) := HXxm_10.out.cell 3
  have c10_xm4 : w10.cell? ⟨xm, 4, none⟩ = some (.int .i64 mv) := HXxm_10.out.cell 4
  have l10_xm : xm < w10.heap.size := HXxm_10.out.lt
  have c10_xx0 : w10.cell? ⟨xx, 0, none⟩ = some (.int .i64 p) := HXxx_10.out.cell 0
  have c10_xx1 : w10.cell? ⟨xx, 1, none⟩ = some (.int .i64 b) := HXxx_10.out.cell 1
  have c10_xx2 : w10.cell? ⟨xx, 2, none⟩ = some (.slice Ax nx cx) := HXxx_10.out.cell 2
  have c10_xx3 : w10.cell? ⟨xx, 3, none⟩ = some (.int .i64 (s + 1)) := HXxx_10.out.cell 3
  have l10_xx : xx < w10.heap.size := HXxx_10.out.lt
  have c10_xy0 : w10.cell? ⟨xy, 0, none⟩ = some (.int .i64 rp) := HXxy_10.out.cell 0
  have c10_xy1 : w10.cell? ⟨xy, 1, none⟩ = some (.int .i64 rb) := HXxy_10.out.cell 1
  have c10_xy2 : w10.cell? ⟨xy, 2, none⟩ = some (.slice Ay ny cy) := HXxy_10.out.cell 2
  have c10_xy3 : w10.cell? ⟨xy, 3, none⟩ = some (.int .i64 rs) := HXxy_10.out.cell 3
  have l10_xy : xy < w10.heap.size := HXxy_10.out.lt
  obtain ⟨xz, hxz⟩ : ∃ x, x = w10.heap.size := ⟨_, rfl⟩
  obtain ⟨w11, hw11⟩ : ∃ v, v = w10.alloc (.cells #[.int .i64 tp, .int .i64 tb, .slice Az nz cz, .int .i64 ts] 24) := ⟨_, rfl⟩
  have hb : Below w10.heap.size w10 w11 := hw11 ▸ (Below.refl _ _).alloc (Nat.le_refl _) _
  have HB11 := Lib.hid (HB10.out.trans (hb.mono HB10.out.size))
  have HXxe_11 := Lib.hid (HXxe_10.out.below hb HXxe_10.out.lt)
  have HXxm_11 := Lib.hid (HXxm_10.out.below hb HXxm_10.out.lt)
  have HXxx_11 := Lib.hid (HXxx_10.out.below hb HXxx_10.out.lt)
  have HXxy_11 := Lib.hid (HXxy_10.out.below hb HXxy_10.out.lt)
  have HOx_11 := Lib.hid (OwnG.below HOx_10.out hb)
  have HOy_11 := Lib.hid (OwnG.below HOy_10.out hb)
  have HOz_11 := Lib.hid (OwnG.below HOz_10.out hb)
  have HA5_11 := Lib.hid (HA5_10.out.trans (hb.mono HA5_10.out.size))
  have HA9_11 := Lib.hid (HA9_10.out.trans (hb.mono HA9_10.out.size))
  have HXxz_11 : Hid (Blk w11 xz 24 #[.int .i64 tp, .int .i64 tb, .slice Az nz cz, .int .i64 ts]) := Lib.hid (by rw [hw11, hxz]; exact Blk.new w10 _ _)
  clear hb
  have HA11_11 : Hid (Below w11.heap.size w11 w11) := Lib.hid (Below.refl _ _)
  have HIy : Hid (InH w9 ⟨rp, rb, ro, rs⟩ Ay ny cy) := Lib.hid (OutH.in_ (h := ⟨rp, rb, ro, rs⟩) HOy_9.out HR5.out (by have := HR3.out; show ro.length ≤ 3518437208883; (try simp only at this); omega))
  have HIz : Hid (InH w11 ⟨tp, tb, to_, ts⟩ Az nz cz) := Lib.hid (OutH.in_ (h := ⟨tp, tb, to_, ts⟩) HOz_11.out HR6.out (by have := HR4.out; show to_.length ≤ 3518437208883; (try simp only at this); omega))
  have HFz := Lib.hid (fun w' (hb : Below w11.heap.size w11 w') => HF.out ⟨tp, tb, to_, ts⟩ (s + 1) Az nz cz w' (HIz.out.next hb) (by omega) (by omega))
  rw [HR2.out] at HFz
  unfold Hf.val at HFz
  simp only at HFz
  have c11_xe0 : w11.cell? ⟨xe, 0, none⟩ = some (.int .i64 p) := HXxe_11.out.cell 0
  have c11_xe1 : w11.cell? ⟨xe, 1, none⟩ = some (.int .i64 b) := HXxe_11.out.cell 1
  have c11_xe2 : w11.cell? ⟨xe, 2, none⟩ = some (.slice A n c) := HXxe_11.out.cell 2
  have c11_xe3 : w11.cell? ⟨xe, 3, none⟩ = some (.int .i64 s) := HXxe_11.out.cell 3
  have c11_xy0 : w11.cell? ⟨xy, 0, none⟩ = some (.int .i64 rp) := HXxy_11.out.cell 0
  have c11_xy1 : w11.cell? ⟨xy, 1, none⟩ = some (.int .i64 rb) := HXxy_11.out.cell 1
  have c11_xy2 : w11.cell? ⟨xy, 2, none⟩ = some (.slice Ay ny cy) := HXxy_11.out.cell 2
  have c11_xy3 : w11.cell? ⟨xy, 3, none⟩ = some (.int .i64 rs) := HXxy_11.out.cell 3
  by_cases hre : re = 0
  case pos =>
    have HFy := Lib.hid (fun w' (hb : Below w9.heap.size w9 w') => HF.out ⟨rp, rb, ro, rs⟩ (s + 1) Ay ny cy w' (HIy.out.next hb) (by omega) (by omega))
    rw [HR1.out hre] at HFy
    unfold Hf.val at HFy
    simp only at HFy
    subst hre
    go_wp2_with fail
    rw [← hw11, ← hxz]
    clear hw11 hxz
    refine (HFy.out w11 HA9_11.out).mono ?_
    rintro e w12 ⟨rfl, hb⟩
    clear c10_xe0 c10_xe1 c10_xe2 c10_xe3 l10_xe c10_xm0 c10_xm1 c10_xm2 c10_xm3 c10_xm4 l10_xm c10_xx0 c10_xx1 c10_xx2 c10_xx3 l10_xx c10_xy0 c10_xy1 c10_xy2 c10_xy3 l10_xy c11_xe0 c11_xe1 c11_xe2 c11_xe3 c11_xy0 c11_xy1 c11_xy2 c11_xy3
    have HB12 := Lib.hid (HB11.out.trans (hb.mono HB11.out.size))
    have HXxe_12 := Lib.hid (HXxe_11.out.below hb HXxe_11.out.lt)
    have HXxm_12 := Lib.hid (HXxm_11.out.below hb HXxm_11.out.lt)
    have HXxx_12 := Lib.hid (HXxx_11.out.below hb HXxx_11.out.lt)
    have HXxy_12 := Lib.hid (HXxy_11.out.below hb HXxy_11.out.lt)
    have HXxz_12 := Lib.hid (HXxz_11.out.below hb HXxz_11.out.lt)
    have HOx_12 := Lib.hid (OwnG.below HOx_11.out hb)
    have HOy_12 := Lib.hid (OwnG.below HOy_11.out hb)
    have HOz_12 := Lib.hid (OwnG.below HOz_11.out hb)
    have HA5_12 := Lib.hid (HA5_11.out.trans (hb.mono HA5_11.out.size))
    have HA9_12 := Lib.hid (HA9_11.out.trans (hb.mono HA9_11.out.size))
    have HA11_12 := Lib.hid (HA11_11.out.trans (hb.mono HA11_11.out.size))
    clear hb
    have c12_xz0 : w12.cell? ⟨xz, 0, none⟩ = some (.int .i64 tp) := HXxz_12.out.cell 0
    have c12_xz1 : w12.cell? ⟨xz, 1, none⟩ = some (.int .i64 tb) := HXxz_12.out.cell 1
    have c12_xz2 : w12.cell? ⟨xz, 2, none⟩ = some (.slice Az nz cz) := HXxz_12.out.cell 2
    have c12_xz3 : w12.cell? ⟨xz, 3, none⟩ = some (.int .i64 ts) := HXxz_12.out.cell 3
    go_wp2_with fail
    refine (HFz.out w12 HA11_12.out).mono ?_
    rintro e w13 ⟨rfl, hb⟩
    clear c12_xz0 c12_xz1 c12_xz2 c12_xz3
    have HB13 := Lib.hid (HB12.out.trans (hb.mono HB12.out.size))
    have HXxe_13 := Lib.hid (HXxe_12.out.below hb HXxe_12.out.lt)
    have HXxm_13 := Lib.hid (HXxm_12.out.below hb HXxm_12.out.lt)
    have HXxx_13 := Lib.hid (HXxx_12.out.below hb HXxx_12.out.lt)
    have HXxy_13 := Lib.hid (HXxy_12.out.below hb HXxy_12.out.lt)
    have HXxz_13 := Lib.hid (HXxz_12.out.below hb HXxz_12.out.lt)
    have HOx_13 := Lib.hid (OwnG.below HOx_12.out hb)
    have HOy_13 := Lib.hid (OwnG.below HOy_12.out hb)
    have HOz_13 := Lib.hid (OwnG.below HOz_12.out hb)
    have HA5_13 := Lib.hid (HA5_12.out.trans (hb.mono HA5_12.out.size))
    have HA9_13 := Lib.hid (HA9_12.out.trans (hb.mono HA9_12.out.size))
    have HA11_13 := Lib.hid (HA11_12.out.trans (hb.mono HA11_12.out.size))
    clear hb
    have c13_xe0 : w13.cell? ⟨xe, 0, none⟩ = some (.int .i64 p) := HXxe_13.out.cell 0
    have c13_xe1 : w13.cell? ⟨xe, 1, none⟩ = some (.int .i64 b) := HXxe_13.out.cell 1
    have c13_xe2 : w13.cell? ⟨xe, 2, none⟩ = some (.slice A n c) := HXxe_13.out.cell 2
    have c13_xe3 : w13.cell? ⟨xe, 3, none⟩ = some (.int .i64 s) := HXxe_13.out.cell 3
    go_wp2_with fail
    go_ret
    exact ⟨rfl, HB13.out⟩
  case neg =>
    have tr : (re != 0) = true := by simpa using hre
    go_wp2_with fail
    rw [← hw11, ← hxz]
    clear hw11 hxz
    refine (HFz.out w11 HA11_11.out).mono ?_
    rintro e w12 ⟨rfl, hb⟩
    clear c10_xe0 c10_xe1 c10_xe2 c10_xe3 l10_xe c10_xm0 c10_xm1 c10_xm2 c10_xm3 c10_xm4 l10_xm c10_xx0 c10_xx1 c10_xx2 c10_xx3 l10_xx c10_xy0 c10_xy1 c10_xy2 c10_xy3 l10_xy c11_xe0 c11_xe1 c11_xe2 c11_xe3 c11_xy0 c11_xy1 c11_xy2 c11_xy3
    have HB12 := Lib.hid (HB11.out.trans (hb.mono HB11.out.size))
    have HXxe_12 := Lib.hid (HXxe_11.out.below hb HXxe_11.out.lt)
    have HXxm_12 := Lib.hid (HXxm_11.out.below hb HXxm_11.out.lt)
    have HXxx_12 := Lib.hid (HXxx_11.out.below hb HXxx_11.out.lt)
    have HXxy_12 := Lib.hid (HXxy_11.out.below hb HXxy_11.out.lt)
    have HXxz_12 := Lib.hid (HXxz_11.out.below hb HXxz_11.out.lt)
    have HOx_12 := Lib.hid (OwnG.below HOx_11.out hb)
    have HOy_12 := Lib.hid (OwnG.below HOy_11.out hb)
    have HOz_12 := Lib.hid (OwnG.below HOz_11.out hb)
    have HA5_12 := Lib.hid (HA5_11.out.trans (hb.mono HA5_11.out.size))
    have HA9_12 := Lib.hid (HA9_11.out.trans (hb.mono HA9_11.out.size))
    have HA11_12 := Lib.hid (HA11_11.out.trans (hb.mono HA11_11.out.size))
    clear hb
    have c12_xe0 : w12.cell? ⟨xe, 0, none⟩ = some (.int .i64 p) := HXxe_12.out.cell 0
    have c12_xe1 : w12.cell? ⟨xe, 1, none⟩ = some (.int .i64 b) := HXxe_12.out.cell 1
    have c12_xe2 : w12.cell? ⟨xe, 2, none⟩ = some (.slice A n c) := HXxe_12.out.cell 2
    have c12_xe3 : w12.cell? ⟨xe, 3, none⟩ = some (.int .i64 s) := HXxe_12.out.cell 3
    go_wp2_with fail
    go_ret
    exact ⟨rfl, HB12.out⟩
end Go.Proofs.Ytneijohbmphheaa.Pk
