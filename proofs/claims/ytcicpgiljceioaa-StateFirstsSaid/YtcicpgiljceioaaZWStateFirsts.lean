/- The walk of the law StateFirsts. -/
import Derived.Test.YtcicpgiljceioaaZWiEq
import Derived.Test.YtcicpgiljceioaaZStSame
import Derived.Test.YtcicpgiljceioaaZStFirstR
import Derived.Test.YtcicpgiljceioaaZStHomes
import Derived.Test.YtcicpgiljceioaaZStArgN
import Derived.Deep.RegionHeld3
import Derived.Deep.DeepMust
namespace Go.Proofs.Ytcicpgiljceioaa.Pk
open Go.RowKit Go.Proofs.Ytcicpgiljceioaa.Gr Go.Proofs.Ytcicpgiljceioaa.Ar
set_option linter.unusedVariables false
theorem argN_inN {w : World} {A : Option Addr} {n c : Nat} {l : List Int} (h : ArgN w A n c l) : InN w l A n c := ⟨h.1, h.2.1, by have h1 := h.2.1; have h2 := h.2.2.1; omega, h.2.2.2⟩
theorem few_zero : FewS St.zero := ⟨⟨by show (_ : Int) ≤ 0; omega, by show (0 : Int) ≤ _; omega⟩, ⟨by show (_ : Int) ≤ 0; omega, by show (0 : Int) ≤ _; omega⟩, by show 0 * 40 ≤ _; omega, by show 0 * 48 ≤ _; omega, by show 0 * 16 ≤ _; omega, by show 0 * 24 ≤ _; omega, fun x hx => (by cases hx), fun x hx => (by cases hx), fun x hx => (by cases hx), fun x hx => (by cases hx)⟩
def zeroL : StL := ⟨0, [], ⟨none, 0, 0⟩, [], ⟨none, 0, 0⟩, 0, [], ⟨none, 0, 0⟩, [], ⟨none, 0, 0⟩⟩
theorem zeroL_in (w : World) : InS w zeroL := OwnS.few (B := 0) ⟨OwnO.none_ _ _, OwnE.none_ _ _, Row.Own.none_ _ _, Row.Own.none_ _ _, List.nodup_nil⟩ few_zero
set_option maxRecDepth 100000 in
set_option maxHeartbeats 4000000 in
theorem law_StateFirsts (HHo : StHomesP) (HHz : StHomesZ) (HFi : StFirstP) (HFz : StFirstZ) (HGo : StGoodP) (A : Option Addr) (n c : Nat) (ps : List Int) (A' : Option Addr) (n' c' : Nat) (hs : List Int) (me : Int) (w : World) (hk : ArgN w A n c ps) (hk' : ArgN w A' n' c' hs) (hi : I64 me) :
    Calls Try.prog 3 #[.slice A n c, .slice A' n' c', .int .i64 me] w fun e w' => e = .returned (.bool true) ∧ Below w.heap.size w w' := by
  have HW := Lib.hid (fun w => wakesS HFi HGo w)
  have HRd := Lib.hid hk.1
  have hn : n ≤ 4611686018427387904 := by have h1 := hk.2.1; have h2 := hk.2.2.1; omega
  have HL : Hid (ps.length = n) := Lib.hid hk.1.plen
  have HIn := Lib.hid (argN_inN hk')
  have HFz := Lib.hid (fun w' (hb : Below w.heap.size w w') => HFz A' n' c' hs me w' ((argN_inN hk').next hb) hi)
  have HHz := Lib.hid (fun w' (hb : Below w.heap.size w w') => HHz A' n' c' hs w' ((argN_inN hk').next hb))
  have HFi := Lib.hid (fun T g w' (hb : Below w.heap.size w w') (ht : IsTr w' T g ps) (G : Gr.Good ps) => HFi T g ps A' n' c' hs me w' ht G ((argN_inN hk').next hb) hi)
  have HHo := Lib.hid (fun T g w' (hb : Below w.heap.size w w') (ht : IsTr w' T g ps) (G : Gr.Good ps) => HHo T g ps A' n' c' hs w' ht G ((argN_inN hk').next hb))
  have HGo := Lib.hid HGo
  have HI := Lib.hid hi
  clear hk hk'
  go_enter Try.func3, Try.ntmps3
  go_wp2_with fail
  refine (HW.out w).mono ?_
  rintro e w2 ⟨rfl, hb2⟩
  have HB2 := Lib.hid hb2
  clear hb2
  go_wp2_with fail
  refine (HFz.out w2 HB2.out).mono ?_
  rintro e w3 ⟨s2, rfl, hv, ho, hb3⟩
  have HB3 := Lib.hid (HB2.out.trans (hb3.mono HB2.out.size))
  clear hv ho hb3
  obtain ⟨me0, os0, ⟨D1, d1, k1⟩, es0, ⟨D2, d2, k2⟩, q0, as0, ⟨D3, d3, k3⟩, gs0, ⟨D4, d4, k4⟩⟩ := s2
  simp only [StL.val, Sl.val]
  have HB4 : Hid (Below w.heap.size w (w3.alloc (.cells #[.int .i64 me0, .slice D1 d1 k1, .slice D2 d2 k2, .int .i64 q0, .slice D3 d3 k3, .slice D4 d4 k4] 30))) := Lib.hid (HB3.out.alloc HB3.out.size _)
  obtain ⟨w4, hw4⟩ : ∃ V, V = w3.alloc (.cells #[.int .i64 me0, .slice D1 d1 k1, .slice D2 d2 k2, .int .i64 q0, .slice D3 d3 k3, .slice D4 d4 k4] 30) := ⟨_, rfl⟩
  rw [← hw4] at HB4
  go_wp2_with fail
  rw [← hw4]
  clear hw4
  refine (HHz.out w4 HB4.out).mono ?_
  rintro e w5 ⟨rfl, hb5⟩
  have HB5 := Lib.hid (HB4.out.trans (hb5.mono HB4.out.size))
  have HN := Lib.hid (new_any A n c ps w5 w.heap.size (HRd.out.below HB5.out) HB5.out.size hn)
  clear hb5
  go_wp2_with fail
  refine HN.out.mono ?_
  rintro e w6 ⟨hb6, ⟨T, g, rfl, hch, ht, hT, hg, hTg⟩ | ⟨q, er, rfl, hch, her⟩⟩
  · have HG := Lib.hid hch.good.1
    have HB6 := Lib.hid (HB5.out.trans (hb6.mono HB5.out.size))
    have HT := Lib.hid ht
    clear hb6 ht hch hT hg hTg HN
    go_wp2_with fail
    refine (HFi.out T g w6 HB6.out HT.out HG.out).mono ?_
    rintro e w7 ⟨s7, rfl, hv7, ho7, hb7⟩
    have HB7 := Lib.hid (HB6.out.trans (hb7.mono HB6.out.size))
    have HT7 := Lib.hid (HT.out.below_ hb7)
    have HV := Lib.hid hv7
    have HO := Lib.hid ho7
    clear hv7 ho7 hb7
    have HRh : Hid (∀ W, Below w7.heap.size w7 W → Calls Try.prog 13 #[.slice A n c, .slice A' n' c'] W fun e w' => e = .returned (.bool (decide (HomesS ps.length hs))) ∧ Below W.heap.size W w') := Lib.hid (fun W hW => by
      have hw : Below w.heap.size w W := HB7.out.trans (hW.mono HB7.out.size)
      have hi := HIn.out.next hw
      rw [HL.out]
      exact (refhomes_any A n c A' n' c' hs W hi.rd (by have := hi.few; omega) hn).mono fun e w' h => ⟨h.1, h.2⟩)
    have HHt : Hid (∀ W, Below w7.heap.size w7 W → Calls Try.prog 11 #[.pointer (some ⟨T, 0, none⟩), .slice A' n' c'] W fun e w' => e = .returned (.int .i64 (homesE ps.length hs)) ∧ Below W.heap.size W w') := Lib.hid (fun W hW => (HHo.out T g W (HB7.out.trans (hW.mono HB7.out.size)) (HT7.out.below_ hW) HG.out).mono fun e w' h => ⟨h.1, h.2⟩)
    have hfew : FewS s7.v := by
      rw [HV.out]
      unfold firstE
      split
      · rename_i h; exact firstS_few HG.out h.2.1 h.2.2 h.1
      · exact few_zero
    have HS7 := Lib.hid (fun W (hW : Below w7.heap.size w7 W) => (HO.out.few hfew).next hW)
    have HSm : Hid (∀ W (t : StL), Below w7.heap.size w7 W → InS W t → Calls Try.prog 14 #[s7.val, t.val] W fun e w' => e = .returned (.bool (decide (s7.v = t.v))) ∧ Below W.heap.size W w') := Lib.hid (fun W t hW ht => (refsames_any s7 t W (HS7.out W hW) ht).mono fun e w' h => ⟨h.1, h.2⟩)
    have HGd := Lib.hid (fun W (hW : Below w7.heap.size w7 W) => HGo.out T g ps s7 W (HT7.out.below_ hW) HG.out (HS7.out W hW))
    obtain ⟨v7, hv7⟩ : ∃ v, v = s7.v := ⟨_, rfl⟩
    rw [← hv7] at HSm HGd HV
    have HV7 : Hid (v7 = s7.v) := Lib.hid hv7
    clear hfew hv7
    obtain ⟨me1, os1, ⟨E1, f1, l1⟩, es1, ⟨E2, f2, l2⟩, q1, as1, ⟨E3, f3, l3⟩, gs1, ⟨E4, f4, l4⟩⟩ := s7
    simp only [StL.val, Sl.val] at HSm HGd ⊢
    obtain ⟨w8, hw8⟩ : ∃ V, V = w7.alloc (.cells #[.int .i64 me1, .slice E1 f1 l1, .slice E2 f2 l2, .int .i64 q1, .slice E3 f3 l3, .slice E4 f4 l4] 30) := ⟨_, rfl⟩
    obtain ⟨p, hp⟩ : ∃ p, p = w7.heap.size := ⟨_, rfl⟩
    have HK8 : Hid (Blk w8 p 30 #[.int .i64 me1, .slice E1 f1 l1, .slice E2 f2 l2, .int .i64 q1, .slice E3 f3 l3, .slice E4 f4 l4]) := Lib.hid (by rw [hw8, hp]; exact Blk.new w7 _ _)
    have HB8 : Hid (Below w7.heap.size w7 w8) := Lib.hid (hw8 ▸ (Below.refl _ _).alloc (Nat.le_refl _) _)
    have HX : Hid (∀ W, Below w8.heap.size w8 W → W.cell? ⟨p, 0, none⟩ = some (.int .i64 me1) ∧ W.cell? ⟨p, 1, none⟩ = some (.slice E1 f1 l1) ∧ W.cell? ⟨p, 2, none⟩ = some (.slice E2 f2 l2) ∧ W.cell? ⟨p, 3, none⟩ = some (.int .i64 q1) ∧ W.cell? ⟨p, 4, none⟩ = some (.slice E3 f3 l3) ∧ W.cell? ⟨p, 5, none⟩ = some (.slice E4 f4 l4)) := Lib.hid (fun W hW => by
      have h1 := HK8.out.below hW HK8.out.lt
      exact ⟨h1.cell 0, h1.cell 1, h1.cell 2, h1.cell 3, h1.cell 4, h1.cell 5⟩)
    obtain ⟨er, her⟩ : ∃ x, x = (firstE ps hs me).2 := ⟨_, rfl⟩
    rw [← her]
    have up : ∀ {W : World}, Below w8.heap.size w8 W → Below w7.heap.size w7 W := fun h => HB8.out.trans (h.mono HB8.out.size)
    have uw : ∀ {W : World}, Below w8.heap.size w8 W → Below w.heap.size w W := fun h => HB7.out.trans ((HB8.out.trans (h.mono HB8.out.size)).mono HB7.out.size)
    have X0 := HX.out w8 (Below.refl _ _)
    by_cases hh : HomesS ps.length hs
    · have HRh2 : Hid (decide (HomesS ps.length hs) = true) := Lib.hid (decide_eq_true hh)
      have HHe : Hid (homesE ps.length hs = 0) := Lib.hid (if_pos hh)
      rw [HRh2.out] at HRh
      rw [HHe.out] at HHt
      by_cases hm : 0 ≤ me ∧ me < (ps.length : Int)
      · have her1 : er = 0 := by rw [her]; unfold firstE; rw [if_pos ⟨hh, hm.1, hm.2⟩]
        have hvf : v7 = firstS ps hs me := by rw [HV.out]; unfold firstE; rw [if_pos ⟨hh, hm.1, hm.2⟩]
        have hgs : GoodS ps v7 := by rw [hvf]; exact first_good HG.out HG.out.few hm.1 hm.2 hh
        have HFr : Hid (∀ W, Below w8.heap.size w8 W → Calls Try.prog 15 #[.slice A n c, .slice A' n' c', .int .i64 me] W fun e w' => ∃ z, e = .returned z ∧ Below W.heap.size W w' ∧ Calls Try.prog 14 #[.agg #[.int .i64 me1, .slice E1 f1 l1, .slice E2 f2 l2, .int .i64 q1, .slice E3 f3 l3, .slice E4 f4 l4], z] w' fun e w2 => e = .returned (.bool true) ∧ Below w'.heap.size w' w2) := Lib.hid (fun W hW => by
          have hi := HIn.out.next (uw hW)
          have hp := (HRd.out.below (uw hW)).more (uw hW).size
          refine (reffirst_any A n c ps A' n' c' hs me W hp hi.rd HG.out hm.1 hm.2 hh).mono ?_
          rintro e w' ⟨z, rfl, h2, h3, h4⟩
          refine ⟨z.val, rfl, h4, (HSm.out w' z (up (hW.trans (h4.mono hW.size))) (h3.few (by rw [h2]; exact firstS_few HG.out hm.1 hm.2 hh))).mono fun e w2 h => ⟨?_, h.2⟩⟩
          rw [h.1, decide_eq_true (hvf.trans h2.symm)])
        have HGt : Hid (∀ W, Below w8.heap.size w8 W → Calls Try.prog 16 #[.pointer (some ⟨T, 0, none⟩), .agg #[.int .i64 me1, .slice E1 f1 l1, .slice E2 f2 l2, .int .i64 q1, .slice E3 f3 l3, .slice E4 f4 l4]] W fun e w' => e = .returned (.bool true) ∧ Below W.heap.size W w') := Lib.hid (fun W hW => by
          refine (HGd.out W (up hW)).mono ?_
          rintro e w' ⟨b, rfl, hb, hbel⟩
          exact ⟨by rw [hb.2 hgs], hbel⟩)
        have i1 : ¬ me < 0 := by omega
        have i2 : me < (n : Int) := by rw [← HL.out]; exact hm.2
        have i3 : decide (me < 0) = false := decide_eq_false i1
        have i4 : decide ((n : Int) ≤ me) = false := decide_eq_false (by omega)
        subst her1
        clear her hh hvf hgs hm
        have HB88 : Hid (Below w8.heap.size w8 w8) := Lib.hid (Below.refl _ _)
        have tr : ∀ {W w' : World}, Below w8.heap.size w8 W → Below W.heap.size W w' → Below w8.heap.size w8 w' := fun h k => h.trans (k.mono h.size)
        have HHt8 := Lib.hid (fun W (hW : Below w8.heap.size w8 W) => (HHt.out W (up hW)).mono fun e w' h => (show e = Ending.returned (.int .i64 0) ∧ Below w8.heap.size w8 w' from ⟨h.1, tr hW h.2⟩))
        have HFr8 := Lib.hid (fun W (hW : Below w8.heap.size w8 W) => (HFr.out W hW).mono fun e w' ⟨z, h1, h2, h3⟩ => (show ∃ z, e = Ending.returned z ∧ Below w8.heap.size w8 w' ∧ Calls Try.prog 14 #[.agg #[.int .i64 me1, .slice E1 f1 l1, .slice E2 f2 l2, .int .i64 q1, .slice E3 f3 l3, .slice E4 f4 l4], z] w' (fun e w2 => e = Ending.returned (.bool true) ∧ Below w8.heap.size w8 w2) from ⟨z, h1, tr hW h2, h3.mono fun e w2 h => ⟨h.1, tr (tr hW h2) h.2⟩⟩))
        have HGt8 := Lib.hid (fun W (hW : Below w8.heap.size w8 W) => (HGt.out W hW).mono fun e w' h => (show e = Ending.returned (.bool true) ∧ Below w8.heap.size w8 w' from ⟨h.1, tr hW h.2⟩))
        go_wp2_with fail
        rw [← hw8, ← hp]
        clear hw8 hp
        refine (HRh.out w8 HB8.out).mono ?_
        rintro e w9 ⟨rfl, hb⟩
        have HB9 : Hid (Below w8.heap.size w8 w9) := Lib.hid (HB88.out.trans (hb.mono HB88.out.size))
        have HB9d : Hid (Below w8.heap.size w8 w9.drew) := Lib.hid (below_drewC HB9.out 1)
        have X1 := HX.out w9 HB9.out
        have X2 := HX.out w9.drew HB9d.out
        clear hb tr X0
        go_wp2_with fail
        go_region_held3 (fun W => W.cell? ⟨p, 0, none⟩ = some (.int .i64 me1) ∧ W.cell? ⟨p, 1, none⟩ = some (.slice E1 f1 l1) ∧ W.cell? ⟨p, 2, none⟩ = some (.slice E2 f2 l2) ∧ W.cell? ⟨p, 3, none⟩ = some (.int .i64 q1) ∧ W.cell? ⟨p, 4, none⟩ = some (.slice E3 f3 l3) ∧ W.cell? ⟨p, 5, none⟩ = some (.slice E4 f4 l4)) (first | with_reducible exact X1 | with_reducible exact X2 | with_reducible exact X3 | with_reducible exact X4 | with_reducible exact X5 | with_reducible exact X6 | (trace_state; fail)) (first
          | (go_at_call 11; go_must (refine (HHt8.out _ HB9d.out).mono ?_; rintro e w10 ⟨rfl, hb⟩; have HB10 := Lib.hid hb; have X3 := HX.out w10 HB10.out; clear hb))
          | (go_at_call 15; go_must (refine (HFr8.out _ HB10.out).mono ?_; rintro e w11 ⟨z, rfl, hb, hz⟩; have HZ := Lib.hid hz; have HB11 := Lib.hid hb; have X4 := HX.out w11 HB11.out; clear hb hz))
          | (go_at_call 14; go_must (refine HZ.out.mono ?_; rintro e w12 ⟨rfl, hb⟩; have HB12 := Lib.hid hb; have X5 := HX.out w12 HB12.out; clear hb))
          | (go_at_call 16; go_must (refine (HGt8.out _ HB12.out).mono ?_; rintro e w13 ⟨rfl, hb⟩; have HB13 := Lib.hid hb; have X6 := HX.out w13 HB13.out; clear hb)))
        all_goals
          go_wp2
          go_ret
          exact ⟨rfl, uw HB13.out⟩
      · have her1 : er = 1 := by rw [her]; unfold firstE; rw [if_neg (fun h => hm h.2)]
        have hvz : v7 = St.zero := by rw [HV.out]; unfold firstE; rw [if_neg (fun h => hm h.2)]
        have HSz : Hid (∀ W, Below w7.heap.size w7 W → Calls Try.prog 14 #[.agg #[.int .i64 me1, .slice E1 f1 l1, .slice E2 f2 l2, .int .i64 q1, .slice E3 f3 l3, .slice E4 f4 l4], .agg #[.int .i64 0, .slice none 0 0, .slice none 0 0, .int .i64 0, .slice none 0 0, .slice none 0 0]] W fun e w' => e = .returned (.bool true) ∧ Below W.heap.size W w') := Lib.hid (fun W hW => (HSm.out W zeroL hW (zeroL_in W)).mono fun e w' h => ⟨by rw [h.1, decide_eq_true (show v7 = zeroL.v from hvz)], h.2⟩)
        by_cases i1 : me < 0
        · have i3 : decide (me < 0) = true := decide_eq_true i1
          clear hm
          subst her1
          clear her hh hvz
          have HB88 : Hid (Below w8.heap.size w8 w8) := Lib.hid (Below.refl _ _)
          go_wp2_with fail
          rw [← hw8, ← hp]
          clear hw8 hp
          refine (HRh.out w8 HB8.out).mono ?_
          rintro e w9 ⟨rfl, hb⟩
          have HB9 : Hid (Below w8.heap.size w8 w9) := Lib.hid (HB88.out.trans (hb.mono HB88.out.size))
          obtain ⟨c0, c1, c2, c3, c4, c5⟩ := HX.out w9 HB9.out
          clear hb
          go_wp2_with fail
          refine (HHt.out _ (up HB9.out)).mono ?_
          rintro e w10 ⟨rfl, hb⟩
          have HB10 : Hid (Below w8.heap.size w8 w10) := Lib.hid (HB9.out.trans (hb.mono HB9.out.size))
          obtain ⟨d0, d1, d2, d3, d4, d5⟩ := HX.out w10 HB10.out
          clear hb
          go_wp2_with fail
          refine (HSz.out _ (up HB10.out)).mono ?_
          rintro e w11 ⟨rfl, hb⟩
          have HB11 : Hid (Below w.heap.size w w11) := Lib.hid (uw (HB10.out.trans (hb.mono HB10.out.size)))
          clear hb
          go_wp2
          go_ret
          exact ⟨rfl, HB11.out⟩
        · have i3 : decide (me < 0) = false := decide_eq_false i1
          have i5 : (n : Int) ≤ me := by rw [← HL.out]; omega
          have i4 : decide ((n : Int) ≤ me) = true := decide_eq_true i5
          clear hm
          subst her1
          clear her hh hvz
          have HB88 : Hid (Below w8.heap.size w8 w8) := Lib.hid (Below.refl _ _)
          go_wp2_with fail
          rw [← hw8, ← hp]
          clear hw8 hp
          refine (HRh.out w8 HB8.out).mono ?_
          rintro e w9 ⟨rfl, hb⟩
          have HB9 : Hid (Below w8.heap.size w8 w9) := Lib.hid (HB88.out.trans (hb.mono HB88.out.size))
          obtain ⟨c0, c1, c2, c3, c4, c5⟩ := HX.out w9 HB9.out
          clear hb
          go_wp2_with fail
          refine (HHt.out _ (up HB9.out)).mono ?_
          rintro e w10 ⟨rfl, hb⟩
          have HB10 : Hid (Below w8.heap.size w8 w10) := Lib.hid (HB9.out.trans (hb.mono HB9.out.size))
          obtain ⟨d0, d1, d2, d3, d4, d5⟩ := HX.out w10 HB10.out
          clear hb
          go_wp2_with fail
          refine (HSz.out _ (up HB10.out)).mono ?_
          rintro e w11 ⟨rfl, hb⟩
          have HB11 : Hid (Below w.heap.size w w11) := Lib.hid (uw (HB10.out.trans (hb.mono HB10.out.size)))
          clear hb
          go_wp2
          go_ret
          exact ⟨rfl, HB11.out⟩
    · have her1 : er = 1 := by rw [her]; unfold firstE; rw [if_neg (fun h => hh h.1)]
      have hvz : v7 = St.zero := by rw [HV.out]; unfold firstE; rw [if_neg (fun h => hh h.1)]
      have HRh2 : Hid (decide (HomesS ps.length hs) = false) := Lib.hid (decide_eq_false hh)
      have HHe : Hid (homesE ps.length hs = 1) := Lib.hid (if_neg hh)
      rw [HRh2.out] at HRh
      rw [HHe.out] at HHt
      have HSz : Hid (∀ W, Below w7.heap.size w7 W → Calls Try.prog 14 #[.agg #[.int .i64 me1, .slice E1 f1 l1, .slice E2 f2 l2, .int .i64 q1, .slice E3 f3 l3, .slice E4 f4 l4], .agg #[.int .i64 0, .slice none 0 0, .slice none 0 0, .int .i64 0, .slice none 0 0, .slice none 0 0]] W fun e w' => e = .returned (.bool true) ∧ Below W.heap.size W w') := Lib.hid (fun W hW => (HSm.out W zeroL hW (zeroL_in W)).mono fun e w' h => ⟨by rw [h.1, decide_eq_true (show v7 = zeroL.v from hvz)], h.2⟩)
      subst her1
      clear her hh hvz
      have HB88 : Hid (Below w8.heap.size w8 w8) := Lib.hid (Below.refl _ _)
      go_wp2_with fail
      rw [← hw8, ← hp]
      clear hw8 hp
      refine (HRh.out w8 HB8.out).mono ?_
      rintro e w9 ⟨rfl, hb⟩
      have HB9 : Hid (Below w8.heap.size w8 w9) := Lib.hid (HB88.out.trans (hb.mono HB88.out.size))
      obtain ⟨c0, c1, c2, c3, c4, c5⟩ := HX.out w9 HB9.out
      clear hb
      go_wp2_with fail
      refine (HHt.out _ (up HB9.out)).mono ?_
      rintro e w10 ⟨rfl, hb⟩
      have HB10 : Hid (Below w8.heap.size w8 w10) := Lib.hid (HB9.out.trans (hb.mono HB9.out.size))
      obtain ⟨d0, d1, d2, d3, d4, d5⟩ := HX.out w10 HB10.out
      clear hb
      go_wp2_with fail
      refine (HSz.out _ (up HB10.out)).mono ?_
      rintro e w11 ⟨rfl, hb⟩
      have HB11 : Hid (Below w.heap.size w w11) := Lib.hid (uw (HB10.out.trans (hb.mono HB10.out.size)))
      clear hb
      go_wp2
      go_ret
      exact ⟨rfl, HB11.out⟩
  · have t1 : (er == 0) = false := by simpa using her
    have t2 : (er != 0) = true := by simpa using her
    have HB6 := Lib.hid (HB5.out.trans (hb6.mono HB5.out.size))
    have her9 := hch.code
    clear hb6 hch her
    go_wp2
    go_ret
    exact ⟨rfl, HB6.out⟩
end Go.Proofs.Ytcicpgiljceioaa.Pk
