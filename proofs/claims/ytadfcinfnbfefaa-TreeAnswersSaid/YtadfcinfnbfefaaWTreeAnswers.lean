/- The walk of the law TreeAnswers. -/
import Derived.Test.YtadfcinfnbfefaaTrWakes
import Derived.Test.YtadfcinfnbfefaaGrPath
import Derived.Test.YtadfcinfnbfefaaSameN
import Derived.Test.YtadfcinfnbfefaaArgN
namespace Go.Proofs.Ytadfcinfnbfefaa.Pk
open Go.RowKit Go.Shelf Go.Proofs.Ytadfcinfnbfefaa.Gr Go.Proofs.Ytadfcinfnbfefaa.Ar
set_option linter.unusedVariables false

set_option maxRecDepth 100000 in
set_option maxHeartbeats 8000000 in
theorem law_TreeAnswers (a : Option Addr) (n c : Nat) (l : List Int) (x y : Int) (w : World) (h : ArgN w a n c l) (hx : -9223372036854775808 ≤ x ∧ x ≤ 9223372036854775807) (hy : -9223372036854775808 ≤ y ∧ y ≤ 9223372036854775807) :
    Calls Try.prog 4 #[.slice a n c, .int .i64 x, .int .i64 y] w fun e w' => e = .returned (.bool true) ∧ Below w.heap.size w w' := by
  obtain ⟨hr, hnc, hc8, _⟩ := h
  have hbig : n ≤ 4611686018427387904 := by omega
  have HR := Lib.hid hr
  clear hr hx hy
  go_enter Try.func4, Try.ntmps4
  go_wp2_with fail
  refine (wakes_any w).mono ?_
  rintro e w1 ⟨rfl, hb1⟩
  have HB1 := Lib.hid hb1
  have HR1 := Lib.hid (HR.out.below hb1)
  have HS1 := Lib.hid hb1.size
  clear hb1
  have HN1 := Lib.hid (size_nil w1)
  have HN2 := Lib.hid (root_nil w1)
  have HN3 := Lib.hid (nbrs_nil x w1)
  have HN4 := Lib.hid (nxt_nil x y w1)
  have HN5 := Lib.hid (dist_nil x y w1)
  go_wp2_with (first
    | (go_at_call 15; refine HN1.out.mono ?_; rintro e w2 ⟨rfl, hw⟩; rw [hw]; clear hw w2)
    | (go_at_call 16; refine HN2.out.mono ?_; rintro e w2 ⟨rfl, hw⟩; rw [hw]; clear hw w2)
    | (go_at_call 17; refine HN3.out.mono ?_; rintro e w2 ⟨rfl, hw⟩; rw [hw]; clear hw w2)
    | (go_at_call 18; refine HN4.out.mono ?_; rintro e w2 ⟨rfl, hw⟩; rw [hw]; clear hw w2)
    | (go_at_call 19; refine HN5.out.mono ?_; rintro e w2 ⟨rfl, hb2⟩; have HB2 := Lib.hid (HB1.out.trans (hb2.mono HB1.out.size)); have HR2 := Lib.hid (HR1.out.below (hb2.mono HS1.out)); have HS2 := Lib.hid (Nat.le_trans HS1.out hb2.size); clear hb2))
  refine (new_any a n c l w2 _ HR2.out HS2.out hbig).mono ?_
  rintro e w3 ⟨hb3, ⟨T, g, rfl, hc3, ht, _⟩ | ⟨p3, e3, rfl, hc3, hne⟩⟩
  · obtain ⟨G, _⟩ := hc3.good
    have HT := Lib.hid ht
    have HB := Lib.hid (HB2.out.trans (hb3.mono HB2.out.size))
    have HR3 := Lib.hid (HR2.out.below (hb3.mono HS2.out))
    have HS3 := Lib.hid (Nat.le_trans HS2.out hb3.size)
    have HL := Lib.hid HR.out.plen
    have hn1 : 0 < n ∧ n ≤ 32 := by rw [← HL.out]; exact ⟨G.pos, G.few⟩
    obtain ⟨hn1, hn2⟩ := hn1
    have HZ := Lib.hid (size_any T g l w3 ht)
    have HRo := Lib.hid (root_any T g l w3 ht G)
    rw [HL.out] at HZ
    have hro := G.root_ok
    obtain ⟨rt, hrt⟩ : ∃ rt, rt = root l := ⟨_, rfl⟩
    rw [← hrt] at HRo hro
    obtain ⟨hro1, hro2⟩ := hro
    rw [HL.out] at hro1
    obtain ⟨b, off, rfl, hbb, hc⟩ := HR3.out.pa hn1
    have cr := hc rt hro1
    rw [hro2] at cr
    have HX := Lib.hid (nbrs_any T g l x w3 ht G.few)
    clear hc hb3 hc3 ht hrt hro2
    go_wp2_with (first
      | (go_at_call 15; refine HZ.out.mono ?_; rintro e w4 ⟨rfl, hw⟩; rw [hw]; clear hw w4)
      | (go_at_call 16; refine HRo.out.mono ?_; rintro e w4 ⟨rfl, hw⟩; rw [hw]; clear hw w4)
      | (go_at_call 17; refine HX.out.mono ?_; rintro e w4 ⟨v4, rfl, hown4, hb4⟩; obtain ⟨A4, c4, rfl, hc4, hr4⟩ := hown4.reads; have HO4 := Lib.hid hown4; have HB4 := Lib.hid (HB.out.trans (hb4.mono HB.out.size)); have HR4 := Lib.hid (HR3.out.below (hb4.mono HS3.out)); have HS4 := Lib.hid (Nat.le_trans HS3.out hb4.size); have HT4 := Lib.hid (HT.out.below_ hb4); clear hown4 hb4 hc4 hr4))
    refine (nbs_any (some ⟨b, off, none⟩) n c l x w4 _ HR4.out HS4.out (by omega)).mono ?_
    rintro e w5 ⟨v5, rfl, hown5, hb5⟩
    obtain ⟨A4', c4', e4, hc4, hr4⟩ := (HO4.out.below hb5).reads
    obtain ⟨rfl, rfl⟩ : A4 = A4' ∧ c4 = c4' := by injection e4 with h1 h2 h3; exact ⟨h1, h3⟩
    obtain ⟨A5, c5, rfl, hc5, hr5⟩ := hown5.reads
    have HB5 := Lib.hid (HB4.out.trans (hb5.mono HB4.out.size))
    have HR5 := Lib.hid (HR4.out.below (hb5.mono HS4.out))
    have HS5 := Lib.hid (Nat.le_trans HS4.out hb5.size)
    have HT5 := Lib.hid (HT4.out.below_ hb5)
    have HLn : Hid ((nbsI l x).length ≤ 32) := Lib.hid (by
      have h1 := HL.out
      unfold nbsI
      split
      · have := nbs_len l x.toNat l.length; omega
      · simp)
    have HSa := Lib.hid (same_refl _ _ (nbsI l x).length c4 (nbsI l x).length c5 (nbsI l x) w5 _ _ hr4 hr5 (by have := HLn.out; omega))
    clear hown5 hb5 hc4 hr4 hc5 hr5 e4
    go_wp2_with fail
    refine HSa.out.mono ?_
    rintro e w6 ⟨rfl, k6, rfl⟩
    have HB6 := Lib.hid (bel_dn HB5.out k6)
    have HR6 := Lib.hid (HR5.out.drewN k6)
    have HT6 := Lib.hid (HT5.out.drewN k6)
    have HS6 : Hid (w.heap.size ≤ (w5.drewN k6).heap.size) := HS5
    obtain ⟨w6, hw6⟩ : ∃ w6, w6 = w5.drewN k6 := ⟨_, rfl⟩
    rw [← hw6] at HB6 HR6 HT6 HS6 ⊢
    clear hw6
    have HX6 := Lib.hid (nxt_any T g l x y w6 HT6.out G)
    go_wp2_with (go_at_call 18; refine HX6.out.mono ?_; rintro e w7 ⟨rfl, hw⟩; rw [hw]; clear hw w7)
    refine (next_any (some ⟨b, off, none⟩) n c l x y w6 _ HR6.out HS6.out G).mono ?_
    rintro e w7 ⟨rfl, hb7⟩
    have HB7 := Lib.hid (HB6.out.trans (hb7.mono HB6.out.size))
    have HR7 := Lib.hid (HR6.out.below (hb7.mono HS6.out))
    have HS7 := Lib.hid (Nat.le_trans HS6.out hb7.size)
    have HT7 := Lib.hid (HT6.out.below_ hb7)
    have HPl := Lib.hid (Nat.le_trans (G.path_le x y) G.few)
    have HD7 := Lib.hid (dist_any T g l x y w7 HT7.out G HPl.out)
    clear hb7
    go_wp2_with (go_at_call 19; refine HD7.out.mono ?_; rintro e w8 ⟨rfl, hb8⟩)
    have HB8 := Lib.hid (HB7.out.trans (hb8.mono HB7.out.size))
    have HR8 := Lib.hid (HR7.out.below (hb8.mono HS7.out))
    have HS8 := Lib.hid (Nat.le_trans HS7.out hb8.size)
    clear hb8
    refine (path_any (some ⟨b, off, none⟩) n c l x y w8 _ HR8.out HS8.out G).mono ?_
    rintro e w9 ⟨v9, rfl, hown9, hb9⟩
    obtain ⟨A9, c9, rfl, hc9, _⟩ := hown9.reads
    have HB9 := Lib.hid (HB8.out.trans (hb9.mono HB8.out.size))
    obtain ⟨q, hq⟩ : ∃ q, q = (pathI l x y).length := ⟨_, rfl⟩
    have HDi : Hid (distI l x y = (q : Int) - 1) := Lib.hid (by rw [hq]; rfl)
    have hq32 : q ≤ 32 := by rw [hq]; exact HPl.out
    rw [HDi.out, ← hq]
    clear hown9 hb9 hc9 hq
    go_wp2
    go_ret
    exact ⟨by simp, HB9.out⟩
  · have HB := Lib.hid (HB2.out.trans (hb3.mono HB2.out.size))
    have t1 : (e3 != 0) = true := by simp [hne]
    clear hb3 hc3 hne
    go_wp2
    go_ret
    exact ⟨rfl, HB.out⟩
end Go.Proofs.Ytadfcinfnbfefaa.Pk
