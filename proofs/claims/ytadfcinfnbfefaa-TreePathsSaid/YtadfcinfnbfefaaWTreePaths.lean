/- The walk of the law TreePaths. -/
import Derived.Test.YtadfcinfnbfefaaTrRange
import Derived.Test.YtadfcinfnbfefaaGrPath
import Derived.Test.YtadfcinfnbfefaaSameN
import Derived.Test.YtadfcinfnbfefaaArgE
import Derived.BigRegion
import Derived.Deep.RegionHeld3
namespace Go.Proofs.Ytadfcinfnbfefaa.Pk
open Go.RowKit Go.Shelf Go.Proofs.Ytadfcinfnbfefaa.Gr Go.Proofs.Ytadfcinfnbfefaa.Ar
set_option linter.unusedVariables false
attribute [local go_sem] Oper.semAt_some

set_option maxRecDepth 100000 in
set_option maxHeartbeats 8000000 in
theorem law_TreePaths (a : Option Addr) (n c : Nat) (l : List Int) (x y z : Int) (w : World) (h : ArgN w a n c l) (hx : -9223372036854775808 ≤ x ∧ x ≤ 9223372036854775807) (hy : -9223372036854775808 ≤ y ∧ y ≤ 9223372036854775807) (hz : -9223372036854775808 ≤ z ∧ z ≤ 9223372036854775807) :
    Calls Try.prog 5 #[.slice a n c, .agg #[.int .i64 x, .int .i64 y, .int .i64 z]] w fun e w' => e = .returned (.bool true) ∧ Below w.heap.size w w' := by
  obtain ⟨hr, hnc, hc8, _⟩ := h
  have hbig : n ≤ 4611686018427387904 := by omega
  have HR := Lib.hid hr
  clear hr hx hy hz
  refine (callsIn_wide (n := 9)).1 ?_
  refine callsIn_of_wp_marks Try.func5 rfl trivial ?_ rfl
  simp only [Try.ntmps5, List.size_toArray, List.length_cons, List.length_nil, Nat.reduceAdd, Nat.reduceSub, Array.replicate_succ, Array.replicate_zero, List.push_toArray, List.append_toArray, List.nil_append, List.cons_append]
  refine wpIn_wide.2 ?_
  go_wp2
  refine wp_region_noPanic ?_
  go_region
  all_goals refine NoPanic.normal ?_
  obtain ⟨u, hu⟩ : ∃ u, u = w.heap.size := ⟨_, rfl⟩
  obtain ⟨W0, hW0⟩ : ∃ W0, W0 = (((w.alloc (.cells #[.int .i64 x, .int .i64 y, .int .i64 z] 40)).alloc (.cells #[.bool false] 4)).alloc (.cells #[.int .i64 z] 3)).drew := ⟨_, rfl⟩
  have hb0 : Below u w W0 := by
    rw [hW0, hu]
    exact bel_dn ((((Below.refl _ w).alloc (Nat.le_refl _) _).alloc (by simp) _).alloc (by simp; omega) _) 1
  have kr : Blk W0 (u + 1) 4 #[.bool false] := by
    have := (Blk.new (w.alloc (.cells #[.int .i64 x, .int .i64 y, .int .i64 z] 40)) 4 #[.bool false]).alloc (.cells #[.int .i64 z] 3)
    rw [World.size_alloc, ← hu] at this
    rw [hW0]; exact this
  have ks : Blk W0 (u + 2) 3 #[.int .i64 z] := by
    have := Blk.new ((w.alloc (.cells #[.int .i64 x, .int .i64 y, .int .i64 z] 40)).alloc (.cells #[.bool false] 4)) 3 #[.int .i64 z]
    rw [World.size_alloc, World.size_alloc, ← hu] at this
    rw [hW0]; exact this
  rw [← hW0, ← hu]
  have HU := Lib.hid hu
  have HB0 := Lib.hid hb0
  have HKr0 := Lib.hid kr
  have HKs0 := Lib.hid ks
  have hs0 : u + 3 ≤ W0.heap.size := ks.lt
  rw [← hu] at HR
  clear hW0 hb0 kr ks hu
  go_wp2_with fail
  refine (wakes_any _).mono ?_
  rintro e w1 ⟨rfl, hb1⟩
  have HB1 := Lib.hid (HB0.out.trans (hb1.mono (by omega)))
  have HKr1 := Lib.hid (HKr0.out.below hb1 HKr0.out.lt)
  have HKs1 := Lib.hid (HKs0.out.below hb1 HKs0.out.lt)
  have HR1 := Lib.hid (HR.out.below HB1.out)
  have hs1 : u + 3 ≤ w1.heap.size := Nat.le_trans hs0 hb1.size
  clear hb1 HKr0 HKs0 HB0
  go_wp2_with fail
  refine (new_any a n c l w1 _ HR1.out (by omega) hbig).mono ?_
  rintro e w2 ⟨hb2, ⟨T, g, rfl, hc2, ht2, hTl, hgl, _⟩ | ⟨p2, e2, rfl, hc2, hne⟩⟩
  case inr =>
    have hsz2 := hb2.size
    have HB2 := Lib.hid (HB1.out.trans (hb2.mono (by omega)))
    have HKr2 := Lib.hid (HKr1.out.below hb2 HKr1.out.lt)
    have fr : w2.frozen? ⟨u + 1, 0, none⟩ = false := HKr2.out.frozen 0
    have cr : w2.cell? ⟨u + 1, 0, none⟩ = some (.bool false) := by rw [HKr2.out.cell]; rfl
    have t1 : (e2 != 0) = true := by simp [hne]
    clear hb2 hc2 hne
    go_wp2
    refine Marks.leave (B := w2.heap.size) [] _ trivial (fun W' hb => ?_)
    have hk : Blk (w2.setCell ⟨u + 1, 0, none⟩ (.bool true)) (u + 1) 4 #[.bool true] := blk_put HKr2.out _
    have c5 : W'.cell? ⟨u + 1, 0, none⟩ = some (.bool true) := by rw [hb.cell (p := ⟨u + 1, 0, none⟩) HKr2.out.lt, hk.cell]; rfl
    refine ⟨.bool true, by simp [results, Try.f5, go_sem, c5], rfl, ?_⟩
    rw [← HU.out]
    have := Nat.le_trans hs1 (show w1.heap.size ≤ w2.heap.size from hsz2)
    exact ((HB2.out.setCell (p := ⟨u + 1, 0, none⟩) (by simp) _).trans (hb.mono (by omega)))
  obtain ⟨G, _⟩ := hc2.good
  have HT2 := Lib.hid ht2
  have HB2 := Lib.hid (HB1.out.trans (hb2.mono (by omega)))
  have HKr2 := Lib.hid (HKr1.out.below hb2 HKr1.out.lt)
  have HKs2 := Lib.hid (HKs1.out.below hb2 HKs1.out.lt)
  have HR2 := Lib.hid (HR1.out.below (hb2.mono (by omega)))
  have hs2 : u + 3 ≤ w2.heap.size := Nat.le_trans hs1 hb2.size
  have HTg : Hid (u + 3 ≤ T ∧ u + 3 ≤ g) := Lib.hid ⟨by omega, by omega⟩
  clear ht2 hb2 hc2 HB1 HKr1 HKs1 HR1
  go_wp2_with fail
  refine (path_any a n c l x y w2 _ HR2.out (by omega) G).mono ?_
  rintro e w3 ⟨v3, rfl, hown3, hb3⟩
  have HT3 := Lib.hid (HT2.out.below_ hb3)
  have HB3 := Lib.hid (HB2.out.trans (hb3.mono (by omega)))
  have HKr3 := Lib.hid (HKr2.out.below hb3 HKr2.out.lt)
  have HKs3 := Lib.hid (HKs2.out.below hb3 HKs2.out.lt)
  have HPl := Lib.hid (Nat.le_trans (G.path_le x y) G.few)
  obtain ⟨A3, c3, rfl, hc3, hr3⟩ := hown3.reads
  have HA3 : Hid (0 < (pathI l x y).length → ∀ ad, A3 = some ad → w2.heap.size ≤ ad.block ∧ ad.block < w3.heap.size) := Lib.hid (fun h0 ad e => by
    subst e
    obtain ⟨ad', e', h1, _⟩ := hr3.2 h0
    injection e' with e'
    subst e'
    refine ⟨?_, h1⟩
    rcases hown3.2 with ⟨e1, _⟩ | ⟨g', cap, cur, e1, hb', _⟩
    · cases e1
    · injection e1 with e1
      injection e1 with e1
      subst e1; exact hb')
  have HW3 := Lib.hid hr3
  have hs3 : w2.heap.size ≤ w3.heap.size := hb3.size
  clear hown3 hb3 hr3 HT2 HB2 HKr2 HKs2
  obtain ⟨q, hq⟩ : ∃ q, q = pathI l x y := ⟨_, rfl⟩
  rw [← hq] at HPl HA3 HW3 hc3 ⊢
  have hfn := fun (W : World) (gf : Nat) (cs : Array Value) => run_eql_func_nil (P := Try.prog) W 42 (.func gf) #[] cs Try.underlying42
  obtain ⟨W4, hW4⟩ : ∃ W4, W4 = w3.alloc (.cells #[.slice A3 q.length c3] 22) := ⟨_, rfl⟩
  have hb4 : Below w3.heap.size w3 W4 := hW4 ▸ (Below.refl _ _).alloc (Nat.le_refl _) _
  have HKw4 : Hid (Blk W4 w3.heap.size 22 #[.slice A3 q.length c3]) := Lib.hid (hW4 ▸ Blk.new w3 _ _)
  have HT4 := Lib.hid (HT3.out.below_ hb4)
  have HB4 := Lib.hid (HB3.out.trans (hb4.mono (by omega)))
  have HKr4 := Lib.hid (HKr3.out.below hb4 HKr3.out.lt)
  have HKs4 := Lib.hid (HKs3.out.below hb4 HKs3.out.lt)
  have HW4r := Lib.hid (HW3.out.below hb4)
  have hs4 : w3.heap.size + 1 ≤ W4.heap.size := HKw4.out.lt
  have HP4 := Lib.hid (path_code T g l x y W4 HT4.out G)
  rw [← hq] at HP4
  have HQ := Lib.hid hq
  clear hq
  clear hb4 HKr3 HKs3 HT3 HB3
  go_wp2_with fail
  rw [← hW4]
  clear hW4
  refine HP4.out.mono ?_
  rintro e w5 ⟨v5, R, rfl, hsq, hb5, hR5⟩
  have hsq5 := hsq
  obtain ⟨gf, lb, rfl, en, hRl, _⟩ := hsq
  have EN := Lib.hid en
  have HKw5 := Lib.hid (HKw4.out.below hb5 HKw4.out.lt)
  have HB5 := Lib.hid (HB4.out.trans (hb5.mono (by omega)))
  have HKr5 := Lib.hid (HKr4.out.below hb5 HKr4.out.lt)
  have HKs5 := Lib.hid (HKs4.out.below hb5 HKs4.out.lt)
  have HW5 := Lib.hid (HW4r.out.below (hb5.mono (by omega)))
  have hs5 : W4.heap.size ≤ w5.heap.size := hb5.size
  have SQ5 := Lib.hid hsq5
  clear hsq5 en hRl hb5 hR5 HKw4 HB4 HKr4 HKs4 HW4r HT4 HP4
  go_wp2
  obtain ⟨W6, hW6⟩ : ∃ W6, W6 = w5.alloc (.cells #[.slice none 0 0] 22) := ⟨_, rfl⟩
  have hb6 : Below w5.heap.size w5 W6 := hW6 ▸ (Below.refl _ _).alloc (Nat.le_refl _) _
  have HKg6 : Hid (Blk W6 w5.heap.size 22 #[.slice none 0 0]) := Lib.hid (hW6 ▸ Blk.new w5 _ _)
  have hs6 : w5.heap.size < W6.heap.size := HKg6.out.lt
  have HKw6 := Lib.hid (HKw5.out.below hb6 HKw5.out.lt)
  have HB6 := Lib.hid (HB5.out.trans (hb6.mono (by omega)))
  have HKr6 := Lib.hid (HKr5.out.below hb6 HKr5.out.lt)
  have HKs6 := Lib.hid (HKs5.out.below hb6 HKs5.out.lt)
  have HW6 := Lib.hid (HW5.out.below (hb6.mono (by omega)))
  have SQ6 := Lib.hid (SQ5.out.stay (Stay.below hb6 SQ5.out.lt))
  have HRl : Hid (∀ b, R b → b < w5.heap.size) := Lib.hid SQ5.out.lt
  rw [← hW6]
  clear hW6 hb6 HKw5 HB5 HKr5 HKs5 HW5 SQ5 hfn
  refine (wpIn_wide (n := 9)).1 ?_
  refine' wpIn_rangeFunc_ownG (α := Int) rfl (by omega) (gf := gf) (lb := lb) rfl trivial EN.out
    SQ6.out.seq (fun h k => h.trans k) (stay_b SQ6.out.lt) (Below.refl _ _) (fun _ => rfl)
    (fun pre W => BoxN W w5.heap.size W6.heap.size pre ∧ Only W6 W w5.heap.size)
    (fun c pre W => False)
    (OwnFrom.and (own_boxN _ w5.heap.size W6.heap.size) (own_only W6 w5.heap.size))
    (fun c => fun s A B row hs hg hr => hs)
    ⟨⟨_, HKg6.out, OwnN.none_ _ _⟩, Only.refl _ _⟩
    _ ?assign ?body ?done ?stop
  case assign =>
    intro l x W K hK
    gi_wp2
    exact hK
  case body =>
    rintro lp pre y V ⟨⟨v, hbx, hown⟩, hOnly⟩ hlt
    obtain ⟨A7, c7, rfl, hc7, _⟩ := hown.reads
    have kw := hOnly.blk HKw6.out (by omega)
    have cg : V.cell? ⟨w5.heap.size, 0, none⟩ = some (.slice A7 pre.length c7) := by rw [hbx.cell]; rfl
    have cw : V.cell? ⟨w3.heap.size, 0, none⟩ = some (.slice A3 q.length c3) := by rw [kw.cell]; rfl
    have fg : V.frozen? ⟨w5.heap.size, 0, none⟩ = false := hbx.frozen 0
    have hlen : pre.length + 1 ≤ q.length := hlt
    have hsV := hOnly.size
    have HOw := Lib.hid hown
    have HBx := Lib.hid hbx
    have HO := Lib.hid hOnly
    clear hown hbx hOnly kw hlt
    gi_wp2_with (gi_at_builtin; refine appNIn V y rfl (.tmp 45) (.tmp 47) rfl W6.heap.size _ pre rfl HOw.out rfl (by have := HPl.out; omega) hsV ?_; intro v3 V3 hown3 hg3; have P := push_box W6.heap.size HO.out HBx.out hs6 HOw.out hown3 hg3; obtain ⟨A8, c8, rfl, hc8, _⟩ := hown3.reads; have cg3 : V3.cell? ⟨w5.heap.size, 0, none⟩ = some (.slice A7 pre.length c7) := by { rw [P.1.2.cell]; rfl }; have fg3 : V3.frozen? ⟨w5.heap.size, 0, none⟩ = false := P.1.2.frozen 0; have cw3 : V3.cell? ⟨w3.heap.size, 0, none⟩ = some (.slice A3 q.length c3) := by { rw [(P.1.1.blk HKw6.out (by omega)).cell]; rfl }; have HP := Lib.hid P.2; clear P hown3 hg3 cg cw fg; rw [List.length_append] at hc8 ⊢; simp only [List.length_singleton] at hc8 ⊢)
    obtain ⟨p1, p2, p3, p4⟩ := HP.out
    have e1 : (pre ++ [y]).length = pre.length + 1 := by simp
    rw [e1] at p1 p2 p3 p4
    exact ⟨p1, p4 R (fun b hb => by have := HRl.out b hb; omega), p3, p2⟩
  case stop =>
    rintro D cc pre V hD hpre hf hK
    exact hf.elim
  case done =>
    rintro D1 ys V1 hD1 hys ⟨⟨v, hbx, hown⟩, hOnly⟩ hK
    subst hys
    obtain ⟨AG, cG, rfl, hcG, hrG⟩ := hown.reads
    have hg0 : 0 < ys.length → ∀ ad, AG = some ad → W6.heap.size ≤ ad.block := fun h0 ad e => by
      subst e
      rcases hown.2 with ⟨e1, _⟩ | ⟨g', cap, cur, e1, hb', _⟩
      · cases e1
      · injection e1 with e1
        injection e1 with e1
        subst e1; exact hb'
    have hsV := hOnly.size
    have hM1 := mark1 hD1 hK
    have k1 := hOnly.blk HKw6.out (by omega)
    have k2 := hOnly.blk HKr6.out (by omega)
    have k3 := hOnly.blk HKs6.out (by omega)
    have k4 := hOnly.reads HW6.out (by omega) (fun h0 ad e => by have := HA3.out h0 ad e; omega)
    have k5 := hOnly.seqn SQ6.out (fun b hb => by have := HRl.out b hb; omega)
    have k6 := Only.below HB6.out hOnly (by omega) (by omega)
    go_wp2
    obtain ⟨W7, hW7⟩ : ∃ W7, W7 = V1.alloc (.cells #[.int .i64 0] 3) := ⟨_, rfl⟩
    have hb7 : Below V1.heap.size V1 W7 := hW7 ▸ (Below.refl _ _).alloc (Nat.le_refl _) _
    have HKn7 : Hid (Blk W7 V1.heap.size 3 #[.int .i64 0]) := Lib.hid (hW7 ▸ Blk.new V1 _ _)
    have HKg7 := Lib.hid (hbx.below hb7 hbx.lt)
    have HKw7 := Lib.hid (k1.below hb7 k1.lt)
    have HKr7 := Lib.hid (k2.below hb7 k2.lt)
    have HKs7 := Lib.hid (k3.below hb7 k3.lt)
    have HW7 := Lib.hid (k4.below (hb7.mono (by omega)))
    have SQ7 := Lib.hid (k5.stay (Stay.below hb7 k5.lt))
    have HB7 := Lib.hid (k6.trans (hb7.mono (by omega)))
    have HG7 := Lib.hid (hrG.below hb7)
    have HGn := Lib.hid hg0
    have HM7 := Lib.hid (hM1.below hb7)
    have hs7 : V1.heap.size < W7.heap.size := HKn7.out.lt
    have HcG := Lib.hid hcG
    rw [← hW7]
    clear hW7 hb7 k1 k2 k3 k4 k5 k6 hbx hown hOnly hK hrG hg0 hM1 hcG HKw6 HKr6 HKs6 HW6 SQ6 HB6
    refine (wpIn_wide (n := 9)).1 ?_
    refine' wpIn_rangeFunc_ownG (α := Int) rfl (by omega) (gf := gf) (lb := lb) rfl trivial EN.out
      SQ7.out.seq (fun h k => h.trans k) (stay_b SQ7.out.lt) (Below.refl _ _) (fun _ => rfl)
      (fun pre W => (pre <+: ys ∧ Blk W V1.heap.size 3 #[.int .i64 (pre.length : Nat)]) ∧ Only W7 W V1.heap.size)
      (fun cc pre W => (cc = .ret ∧ ¬ pre <+: ys) ∨ (cc = .exit 2 ∧ Only W7 W V1.heap.size))
      (OwnFrom.and (Own.from (I := fun (pre : List Int) W => pre <+: ys ∧ Blk W V1.heap.size 3 #[.int .i64 (pre.length : Nat)]) (fun s A B row hs hg hr => ⟨hs.1, blk_kept hs.2 hg hr⟩) _) (own_only W7 V1.heap.size))
      (fun cc => fun s A B row hs hg hr => hs.elim .inl (fun hs => .inr ⟨hs.1, own_only (β := Unit) W7 V1.heap.size () A B row hs.2 hg hr⟩))
      ⟨⟨⟨ys, rfl⟩, HKn7.out⟩, Only.refl _ _⟩
      _ ?assign ?body ?done ?stop
    case assign =>
      intro l x W K hK
      gi_wp2
      exact hK
    case body =>
      rintro lp pre y V ⟨⟨hpre, hbx⟩, hOnly⟩ hlt
      have kw := hOnly.blk HKw7.out (by omega)
      have kr := hOnly.blk HKr7.out (by omega)
      have ks := hOnly.blk HKs7.out (by omega)
      have krd := hOnly.reads HW7.out (by omega) (fun h0 ad e => by have := HA3.out h0 ad e; omega)
      obtain ⟨b, off, rfl, hbb, hcell⟩ := krd.i64 (by omega)
      obtain ⟨q, hq⟩ : ∃ q, q = pre.length := ⟨_, rfl⟩
      rw [← hq] at hbx hlt
      have HQq := Lib.hid hq
      have cn : V.cell? ⟨V1.heap.size, 0, none⟩ = some (.int .i64 (q : Int)) := by rw [hbx.cell]; rfl
      have fn : V.frozen? ⟨V1.heap.size, 0, none⟩ = false := hbx.frozen 0
      have cw : V.cell? ⟨w3.heap.size, 0, none⟩ = some (.slice (some ⟨b, off, none⟩) ys.length c3) := by rw [kw.cell]; rfl
      have cr : V.cell? ⟨u + 1, 0, none⟩ = some (.bool false) := by rw [kr.cell]; rfl
      have fr : V.frozen? ⟨u + 1, 0, none⟩ = false := kr.frozen 0
      have cs : V.cell? ⟨u + 2, 0, none⟩ = some (.int .i64 z) := by rw [ks.cell]; rfl
      have cq := hcell q hlt
      obtain ⟨y', hy'⟩ : ∃ y', y' = ys.getD q 0 := ⟨_, rfl⟩
      rw [← hy'] at cq
      have HBx := Lib.hid hbx
      have HO := Lib.hid hOnly
      have HPr := Lib.hid hpre
      have hnl : ¬ (ys.length : Int) ≤ (q : Int) := by omega
      have hq32 : q < 32 := by have := HPl.out; omega
      have HY' := Lib.hid hy'
      have hge : decide (ys.length ≤ q) = false := by simp; omega
      clear hbx hOnly kw kr ks krd hcell hq hy' hpre
      by_cases h1 : y' = y
      · have t1 : (y' != y) = false := by simp [h1]
        have HI : Hid (pre ++ [y] <+: ys) := Lib.hid (by
          obtain ⟨s, hs⟩ := HPr.out
          have h2 := HY'.out
          rw [← hs] at hlt
          rw [← hs, HQq.out, List.getD_eq_getElem?_getD, List.getElem?_append_right (Nat.le_refl _), Nat.sub_self] at h2
          cases s with
          | nil => rw [List.append_nil, ← HQq.out] at hlt; omega
          | cons x0 s =>
            simp at h2
            refine ⟨s, ?_⟩
            rw [← hs, ← h1, h2]; simp)
        clear h1
        by_cases hst : z ≤ (q : Int) + 1
        · gi_wp2
          exact ⟨(KeepsOthers.setCell _ _ _).from _, .inr ⟨rfl, HO.out.set _ _⟩⟩
        · have hst' : (q : Int) + 1 < z := by omega
          clear hst
          gi_wp2
          exact ⟨(KeepsOthers.setCell _ _ _).from _, stay_set (fun h => by have := HRl.out _ h; omega), ⟨HI.out, by
            have := blk_put HBx.out (.int .i64 ((q : Int) + 1))
            rw [List.length_append, ← HQq.out]; exact this⟩, HO.out.set _ _⟩
      · have t1 : (y' != y) = true := by simp [h1]
        have HI : Hid (¬ pre ++ [y] <+: ys) := Lib.hid (by
          rintro ⟨s, hs⟩
          apply h1
          rw [HY'.out, ← hs, HQq.out, List.getD_eq_getElem?_getD, List.append_assoc, List.getElem?_append_right (Nat.le_refl _), Nat.sub_self]
          rfl)
        clear h1
        gi_wp2
        exact ⟨(KeepsOthers.setCell _ _ _).from _, .inl ⟨rfl, HI.out⟩⟩
    case stop =>
      rintro D2 cc pre V hD2 hpre (⟨rfl, hw⟩ | ⟨rfl, hOnly⟩) hK
      · exact absurd hpre hw
      · have hsV2 := hOnly.size
        have hMk : Marks w5.heap.size [{ target := .collected D2, args := #[] }, { target := .collected D1, args := #[] }] V := Marks.cons ((HM7.out.keepB (by omega)).only hOnly HKn7.out) (fun d hd k e => by have := HM7.out.lt d hd k e; omega) (by omega) hK
        have HMk := Lib.hid hMk
        have HKg := Lib.hid (hOnly.blk HKg7.out (by omega))
        have HKw := Lib.hid (hOnly.blk HKw7.out (by omega))
        have HKr := Lib.hid (hOnly.blk HKr7.out (by omega))
        have HRg := Lib.hid (hOnly.reads_up HG7.out (by omega) (Nat.le_refl _))
        have HRw := Lib.hid (hOnly.reads HW7.out (by omega) (fun h0 ad e => by have := HA3.out h0 ad e; omega))
        have HBV := Lib.hid (Only.below HB7.out hOnly (by omega) (by omega))
        have HVs : Hid (w5.heap.size ≤ V.heap.size) := Lib.hid (by omega)
        clear hOnly hK hMk
        refine wpIn_wide.2 ?_
        have cg : V.cell? ⟨w5.heap.size, 0, none⟩ = some (.slice AG ys.length cG) := by rw [HKg.out.cell]; rfl
        have cw : V.cell? ⟨w3.heap.size, 0, none⟩ = some (.slice A3 ys.length c3) := by rw [HKw.out.cell]; rfl
        have cr : V.cell? ⟨u + 1, 0, none⟩ = some (.bool false) := by rw [HKr.out.cell]; rfl
        have fr : V.frozen? ⟨u + 1, 0, none⟩ = false := HKr.out.frozen 0
        go_wp2_with fail
        refine (same_refl AG A3 ys.length cG ys.length c3 ys V _ _ HRg.out HRw.out (by have := HPl.out; omega)).mono ?_
        rintro e V2 ⟨rfl, k2, rfl⟩
        have cr2 : (V.drewN k2).cell? ⟨u + 1, 0, none⟩ = some (.bool false) := cr
        have fr2 : (V.drewN k2).frozen? ⟨u + 1, 0, none⟩ = false := fr
        have HMk2 : Hid (Marks w5.heap.size [{ target := .collected D2, args := #[] }, { target := .collected D1, args := #[] }] (V.drewN k2)) := Lib.hid (HMk.out.keep (Nat.le_refl _) (fun _ _ => rfl))
        have HKr2 : Hid (Blk (V.drewN k2) (u + 1) 4 #[.bool false]) := HKr
        have HB2 := Lib.hid (bel_dn HBV.out k2)
        have hVs : w5.heap.size ≤ (V.drewN k2).heap.size := HVs.out
        obtain ⟨V2, hV2⟩ : ∃ V2, V2 = V.drewN k2 := ⟨_, rfl⟩
        rw [← hV2] at cr2 fr2 HMk2 HKr2 HB2 hVs ⊢
        clear hV2 cg cw cr fr
        go_wp2
        have hO2 : Only V2 (V2.setCell ⟨u + 1, 0, none⟩ (.bool true)) (u + 1) := (Only.refl _ _).set _ _
        have hk2 : Blk (V2.setCell ⟨u + 1, 0, none⟩ (.bool true)) (u + 1) 4 #[.bool true] := blk_put HKr2.out _
        refine Marks.leave (B := w5.heap.size) _ _ (HMk2.out.only hO2 HKr2.out) (fun W' hb => ?_)
        have c5 : W'.cell? ⟨u + 1, 0, none⟩ = some (.bool true) := by rw [hb.cell (p := ⟨u + 1, 0, none⟩) (show u + 1 < w5.heap.size by omega), hk2.cell]; rfl
        refine ⟨.bool true, by simp [results, Try.f5, go_sem, c5], rfl, ?_⟩
        rw [← HU.out]
        exact (Only.below HB2.out hO2 (by omega) (by omega)).trans (hb.mono (by omega))
    case done =>
      rintro D2 zs V hD2 hzs ⟨⟨hpre, hbx⟩, hOnly⟩ hK
      subst hzs
      have hsV2 := hOnly.size
      have hMk : Marks w5.heap.size [{ target := .collected D2, args := #[] }, { target := .collected D1, args := #[] }] V := Marks.cons ((HM7.out.keepB (by omega)).only hOnly HKn7.out) (fun d hd k e => by have := HM7.out.lt d hd k e; omega) (by omega) hK
      have HMk := Lib.hid hMk
      have HKg := Lib.hid (hOnly.blk HKg7.out (by omega))
      have HKw := Lib.hid (hOnly.blk HKw7.out (by omega))
      have HKr := Lib.hid (hOnly.blk HKr7.out (by omega))
      have HRg := Lib.hid (hOnly.reads_up HG7.out (by omega) (Nat.le_refl _))
      have HRw := Lib.hid (hOnly.reads HW7.out (by omega) (fun h0 ad e => by have := HA3.out h0 ad e; omega))
      have HBV := Lib.hid (Only.below HB7.out hOnly (by omega) (by omega))
      have HVs : Hid (w5.heap.size ≤ V.heap.size) := Lib.hid (by omega)
      clear hOnly hK hMk
      have cg : V.cell? ⟨w5.heap.size, 0, none⟩ = some (.slice AG zs.length cG) := by rw [HKg.out.cell]; rfl
      have cw : V.cell? ⟨w3.heap.size, 0, none⟩ = some (.slice A3 zs.length c3) := by rw [HKw.out.cell]; rfl
      have cr : V.cell? ⟨u + 1, 0, none⟩ = some (.bool false) := by rw [HKr.out.cell]; rfl
      have fr : V.frozen? ⟨u + 1, 0, none⟩ = false := HKr.out.frozen 0
      go_wp2_with fail
      refine (same_refl AG A3 zs.length cG zs.length c3 zs V _ _ HRg.out HRw.out (by have := HPl.out; omega)).mono ?_
      rintro e V2 ⟨rfl, k2, rfl⟩
      have cr2 : (V.drewN k2).cell? ⟨u + 1, 0, none⟩ = some (.bool false) := cr
      have fr2 : (V.drewN k2).frozen? ⟨u + 1, 0, none⟩ = false := fr
      have HMk2 : Hid (Marks w5.heap.size [{ target := .collected D2, args := #[] }, { target := .collected D1, args := #[] }] (V.drewN k2)) := Lib.hid (HMk.out.keep (Nat.le_refl _) (fun _ _ => rfl))
      have HKr2 : Hid (Blk (V.drewN k2) (u + 1) 4 #[.bool false]) := HKr
      have HB2 := Lib.hid (bel_dn HBV.out k2)
      have hVs : w5.heap.size ≤ (V.drewN k2).heap.size := HVs.out
      obtain ⟨V2, hV2⟩ : ∃ V2, V2 = V.drewN k2 := ⟨_, rfl⟩
      rw [← hV2] at cr2 fr2 HMk2 HKr2 HB2 hVs ⊢
      clear hV2 cg cw cr fr
      go_wp2
      have hO2 : Only V2 (V2.setCell ⟨u + 1, 0, none⟩ (.bool true)) (u + 1) := (Only.refl _ _).set _ _
      have hk2 : Blk (V2.setCell ⟨u + 1, 0, none⟩ (.bool true)) (u + 1) 4 #[.bool true] := blk_put HKr2.out _
      refine Marks.leave (B := w5.heap.size) _ _ (HMk2.out.only hO2 HKr2.out) (fun W' hb => ?_)
      have c5 : W'.cell? ⟨u + 1, 0, none⟩ = some (.bool true) := by rw [hb.cell (p := ⟨u + 1, 0, none⟩) (show u + 1 < w5.heap.size by omega), hk2.cell]; rfl
      refine ⟨.bool true, by simp [results, Try.f5, go_sem, c5], rfl, ?_⟩
      rw [← HU.out]
      exact (Only.below HB2.out hO2 (by omega) (by omega)).trans (hb.mono (by omega))
end Go.Proofs.Ytadfcinfnbfefaa.Pk
