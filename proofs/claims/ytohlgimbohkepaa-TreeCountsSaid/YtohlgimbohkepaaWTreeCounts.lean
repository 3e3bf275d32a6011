/- The walk of the law TreeCounts. -/
import Derived.Test.YtohlgimbohkepaaTrCount2
import Derived.Test.YtohlgimbohkepaaArgN
import Derived.Test.YtohlgimbohkepaaRegRound
import Derived.Sort.QuietIn
namespace Go.Proofs.Ytohlgimbohkepaa.Pk
open Go.RowKit Go.Shelf Go.Proofs.Ytohlgimbohkepaa.Gr Go.Proofs.Ytohlgimbohkepaa.Ar
set_option linter.unusedVariables false
attribute [local go_sem] Oper.semAt_some

theorem nearAll_le {l : List Int} (G : Gr.Good l) : ∀ k, nearAll l k ≤ k * 32
  | 0 => Nat.le_refl _
  | k + 1 => by
    have h1 := nearAll_le G k
    have h2 : nearAll l (k + 1) = nearAll l k + (nbs l k l.length).length := rfl
    have h3 := Nat.le_trans (nbs_len l k l.length) G.few
    rw [h2, Nat.succ_mul]
    omega

set_option maxRecDepth 100000 in
set_option maxHeartbeats 8000000 in
theorem law_TreeCounts (a : Option Addr) (n c : Nat) (l : List Int) (x : Int) (w : World) (h : ArgN w a n c l) (hx : -9223372036854775808 ≤ x ∧ x ≤ 9223372036854775807) :
    Calls Try.prog 9 #[.slice a n c, .int .i64 x] w fun e w' => e = .returned (.bool true) ∧ Below w.heap.size w w' := by
  obtain ⟨hr, hnc, hc8, _⟩ := h
  have hbig : n ≤ 4611686018427387904 := by omega
  have HR := Lib.hid hr
  have HL := Lib.hid hr.plen
  clear hr hx
  refine (callsIn_wide (n := 9)).1 ?_
  refine callsIn_of_wp_marks Try.func9 rfl trivial ?_ rfl
  simp only [Try.ntmps9, List.size_toArray, List.length_cons, List.length_nil, Nat.reduceAdd, Nat.reduceSub, Array.replicate_succ, Array.replicate_zero, List.push_toArray, List.append_toArray, List.nil_append, List.cons_append]
  refine wpIn_wide.2 ?_
  obtain ⟨u, hu⟩ : ∃ u, u = w.heap.size := ⟨_, rfl⟩
  obtain ⟨ur, hur⟩ : ∃ ur, ur = u + 1 + 1 := ⟨_, rfl⟩
  obtain ⟨W0, hW0⟩ : ∃ W0, W0 = ((w.alloc (.cells #[.slice a n c] 22)).alloc (.cells #[.int .i64 x] 3)).alloc (.cells #[.bool false] 4) := ⟨_, rfl⟩
  have hb0 : Below u w W0 := by
    rw [hW0, hu]
    exact (((Below.refl _ w).alloc (Nat.le_refl _) _).alloc (by simp) _).alloc (by simp; omega) _
  have kp : Blk W0 u 22 #[.slice a n c] := by rw [hW0, hu]; exact ((Blk.new w _ _).alloc _).alloc _
  have ks : Blk W0 (u + 1) 3 #[.int .i64 x] := by
    have := Blk.new (w.alloc (.cells #[.slice a n c] 22)) 3 #[.int .i64 x]
    rw [World.size_alloc, ← hu] at this
    rw [hW0]; exact this.alloc _
  have kr : Blk W0 ur 4 #[.bool false] := by
    have := Blk.new ((w.alloc (.cells #[.slice a n c] 22)).alloc (.cells #[.int .i64 x] 3)) 4 #[.bool false]
    rw [World.size_alloc, World.size_alloc, ← hu, ← hur] at this
    rw [hW0]; exact this
  have HU := Lib.hid hu
  have HB0 := Lib.hid hb0
  have HKp0 := Lib.hid kp
  have HKr0 := Lib.hid kr
  have HKs0 := Lib.hid ks
  have hs0 : u + 3 ≤ W0.heap.size := by have := kr.lt; omega
  have hur2 : ur = u + 2 := by omega
  have HUr := Lib.hid hur2
  go_wp2_with fail
  rw [← hW0, ← hu, ← hur]
  rw [← hu] at HR
  clear hW0 hb0 kp kr ks hu hur hur2
  have hurl : u < ur ∧ u + 1 < ur ∧ ur < u + 3 := by have := HUr.out; omega
  obtain ⟨hur1, hur2, hur3⟩ := hurl
  refine (wakes_any _).mono ?_
  rintro e w1 ⟨rfl, hb1⟩
  have HB1 := Lib.hid (HB0.out.trans (hb1.mono (by omega)))
  have HKp1 := Lib.hid (HKp0.out.below hb1 HKp0.out.lt)
  have HKr1 := Lib.hid (HKr0.out.below hb1 HKr0.out.lt)
  have HKs1 := Lib.hid (HKs0.out.below hb1 HKs0.out.lt)
  have HR1 := Lib.hid (HR.out.below HB1.out)
  have hs1 : u + 3 ≤ w1.heap.size := Nat.le_trans hs0 hb1.size
  have cp1 : w1.cell? ⟨u, 0, none⟩ = some (.slice a n c) := by rw [HKp1.out.cell]; rfl
  clear hb1 HKp0 HKr0 HKs0 HB0
  go_wp2_with fail
  refine (new_any a n c l w1 _ HR1.out (by omega) hbig).mono ?_
  rintro e w2 ⟨hb2, ⟨T, g, rfl, hc2, ht2, hTl, hgl, _⟩ | ⟨p2, e2, rfl, hc2, hne⟩⟩
  case inr =>
    have hsz2 := hb2.size
    have HB2 := Lib.hid (HB1.out.trans (hb2.mono (by omega)))
    have HKr2 := Lib.hid (HKr1.out.below hb2 HKr1.out.lt)
    have hV : Below w2.heap.size w2 (w2.alloc (.cells #[.pointer none] 27)) := (Below.refl _ _).alloc (Nat.le_refl _) _
    have hkV := HKr2.out.below hV HKr2.out.lt
    have fr : (w2.alloc (.cells #[.pointer none] 27)).frozen? ⟨ur, 0, none⟩ = false := hkV.frozen 0
    have cr : (w2.alloc (.cells #[.pointer none] 27)).cell? ⟨ur, 0, none⟩ = some (.bool false) := by rw [hkV.cell]; rfl
    have t1 : (e2 != 0) = true := by simp [hne]
    have hul : ur < w2.heap.size := HKr2.out.lt
    clear hb2 hc2 hne cp1 hV hkV
    go_wp2
    refine Marks.leave (B := w2.heap.size) [] _ trivial (fun W' hb => ?_)
    have hk := (blk_put HKr2.out (.bool true)).alloc (.cells #[.pointer none] 27)
    have c5 : W'.cell? ⟨ur, 0, none⟩ = some (.bool true) := by rw [hb.cell (p := ⟨ur, 0, none⟩) hul, hk.cell]; rfl
    refine ⟨.bool true, by simp [results, Try.f9, go_sem, c5], rfl, ?_⟩
    rw [← HU.out]
    exact (((HB2.out.setCell (p := ⟨ur, 0, none⟩) (by show u ≤ ur; omega) _).alloc (by simp [World.setCell]; omega) _).trans (hb.mono (by omega)))
  obtain ⟨G, _⟩ := hc2.good
  have hn : 0 < n ∧ n ≤ 32 := by rw [← HL.out]; exact ⟨G.pos, G.few⟩
  obtain ⟨hn1, hn2⟩ := hn
  obtain ⟨s, hs⟩ : ∃ s, s = w2.heap.size := ⟨_, rfl⟩
  obtain ⟨sn, hsn⟩ : ∃ sn, sn = s + 1 := ⟨_, rfl⟩
  obtain ⟨se, hse⟩ : ∃ se, se = s + 1 + 1 := ⟨_, rfl⟩
  obtain ⟨W3, hW3⟩ : ∃ W3, W3 = ((w2.alloc (.cells #[.pointer (some ⟨T, 0, none⟩)] 27)).alloc (.cells #[.int .i64 (n : Int)] 3)).alloc (.cells #[.int .i64 0] 3) := ⟨_, rfl⟩
  have hb3 : Below w2.heap.size w2 W3 := hW3 ▸ (((Below.refl _ _).alloc (Nat.le_refl _) _).alloc (by simp) _).alloc (by simp; omega) _
  have HKt3 : Hid (Blk W3 s 27 #[.pointer (some ⟨T, 0, none⟩)]) := Lib.hid (by rw [hW3, hs]; exact ((Blk.new w2 _ _).alloc _).alloc _)
  have HKn3 : Hid (Blk W3 sn 3 #[.int .i64 (n : Int)]) := Lib.hid (by
    have := Blk.new (w2.alloc (.cells #[.pointer (some ⟨T, 0, none⟩)] 27)) 3 #[.int .i64 (n : Int)]
    rw [World.size_alloc, ← hs, ← hsn] at this
    rw [hW3]; exact this.alloc _)
  have HKe3 : Hid (Blk W3 se 3 #[.int .i64 0]) := Lib.hid (by
    have := Blk.new ((w2.alloc (.cells #[.pointer (some ⟨T, 0, none⟩)] 27)).alloc (.cells #[.int .i64 (n : Int)] 3)) 3 #[.int .i64 0]
    rw [World.size_alloc, World.size_alloc, ← hs, ← hse] at this
    rw [hW3]; exact this)
  have hs2 : u + 3 ≤ s := by rw [hs]; exact Nat.le_trans hs1 hb2.size
  have HT3 := Lib.hid (ht2.below_ hb3)
  have HTl : Hid (∀ b, TrB T g b → u + 3 ≤ b ∧ b < s) := Lib.hid (fun b hb => by
    have h1 := ht2.lt b hb
    rw [hs]
    rcases hb with rfl | rfl <;> omega)
  have hb23 := hb2.trans (hb3.mono hb2.size)
  have HB3 := Lib.hid (HB1.out.trans (hb23.mono (by omega)))
  have HKp3 := Lib.hid (HKp1.out.below hb23 HKp1.out.lt)
  have HKr3 := Lib.hid (HKr1.out.below hb23 HKr1.out.lt)
  have HKs3 := Lib.hid (HKs1.out.below hb23 HKs1.out.lt)
  have HR3 := Lib.hid (HR1.out.below (hb23.mono (by omega)))
  have hs3 : s + 3 ≤ W3.heap.size := by have := HKe3.out.lt; omega
  have HSs : Hid (sn = s + 1 ∧ se = s + 2) := Lib.hid ⟨hsn, hse⟩
  have cp2 : (w2.alloc (.cells #[.pointer (some ⟨T, 0, none⟩)] 27)).cell? ⟨u, 0, none⟩ = some (.slice a n c) := by rw [((HKp1.out.below hb2 HKp1.out.lt).alloc _).cell]; rfl
  have ct2 : (((w2.alloc (.cells #[.pointer (some ⟨T, 0, none⟩)] 27)).alloc (.cells #[.int .i64 (n : Int)] 3)).alloc (.cells #[.int .i64 0] 3)).cell? ⟨s, 0, none⟩ = some (.pointer (some ⟨T, 0, none⟩)) := by rw [← hW3, HKt3.out.cell]; rfl
  clear ht2 hb2 hc2 HB1 HKp1 HKr1 HKs1 HR1 hb3 hb23 cp1 hTl hgl
  rw [hs] at ct2
  go_wp2_with fail
  rw [← hW3, ← hs, ← hse, ← hsn]
  clear hW3 hs cp2 ct2 hse hsn
  refine (edges_codeO T g l W3 HT3.out G).mono ?_
  rintro e w4 ⟨ve, Re, rfl, hse, hb4, hRe⟩
  have HT4 := Lib.hid (HT3.out.below_ hb4)
  have HB4 := Lib.hid (HB3.out.trans (hb4.mono (by omega)))
  have HKp4 := Lib.hid (HKp3.out.below hb4 HKp3.out.lt)
  have HKr4 := Lib.hid (HKr3.out.below hb4 HKr3.out.lt)
  have HKs4 := Lib.hid (HKs3.out.below hb4 HKs3.out.lt)
  have HKt4 := Lib.hid (HKt3.out.below hb4 HKt3.out.lt)
  have HKn4 := Lib.hid (HKn3.out.below hb4 HKn3.out.lt)
  have HKe4 := Lib.hid (HKe3.out.below hb4 HKe3.out.lt)
  have HR4 := Lib.hid (HR3.out.below (hb4.mono (by omega)))
  have hs4 : s + 3 ≤ w4.heap.size := Nat.le_trans hs3 hb4.size
  have SE4 := Lib.hid hse
  have HRe4 : Hid (∀ b, Re b → b ≠ se ∧ b < w4.heap.size) := Lib.hid (fun b hb => ⟨by
    have h2 := HSs.out
    rcases hRe b hb with h | h
    · have := HTl.out b h; omega
    · omega, SE4.out.lt b hb⟩)
  clear hse hb4 hRe HT3 HB3 HKp3 HKr3 HKs3 HKt3 HKn3 HKe3 HR3
  obtain ⟨gfe, lbe, hve, ene, hq1, hq2⟩ := SE4.out
  clear hq1 hq2
  subst hve
  have ENE := Lib.hid ene
  clear ene
  have hse4 : se < w4.heap.size := by have := HSs.out; omega
  have HEl : Hid ((edgesTo l l.length).length + 1 = n) := Lib.hid (by have h1 := G.edges_len; have h2 := G.pos; rw [h1, HL.out]; have := HL.out; omega)
  go_wp2_with fail
  refine (wpIn_wide (n := 9)).1 ?_
  refine' range_boundO (α := Int × Int) (gf := gfe) (pb := #[]) (lb := lbe) rfl ENE.out (SE4.out.at_ _) (fun h k => h.trans k) (stay_b SE4.out.lt) (fun _ => rfl)
    (fun pre W => Blk W se 3 #[.int .i64 (pre.length : Nat)] ∧ Only w4 W se)
    (fun cc pre W => False)
    (OwnFrom.and (Own.from (I := fun (pre : List (Int × Int)) W => Blk W se 3 #[.int .i64 (pre.length : Nat)]) (fun s A B row hs hg hr => blk_kept hs hg hr) _) (own_only w4 se))
    (fun cc => fun s A B row hs hg hr => hs)
    ⟨HKe4.out, Only.refl _ _⟩
    _ ?assign ?body ?done ?stop
  case assign =>
    intro lp y V K hK
    gi_wp2
    exact hK
  case body =>
    rintro lp pre y V hlp hrec ⟨hbn, hO⟩ hok
    obtain ⟨p, q, rfl, hpq, hql, hnr⟩ := G.edge_round hok
    have hlen : pre.length < n := by
      have h1 := hok.length_le
      have h2 := HEl.out
      simp only [List.length_append, List.length_singleton] at h1
      omega
    rw [HL.out] at hql
    have kp := hO.blk HKp4.out (by have := HSs.out; omega)
    have krd := hO.reads HR4.out (by omega) (fun h0 ad e => by
      obtain ⟨ad', e', h1, _⟩ := HR4.out.2 h0
      rw [e] at e'
      injection e' with e'
      subst e'
      have := HSs.out
      omega)
    obtain ⟨b, off, hab, hbb, hcell⟩ := krd.i64 hn1
    have cp := hcell p (by omega)
    have cq := hcell q hql
    rw [pa_get (by rw [HL.out]; omega)] at cp cq
    have cpar : V.cell? ⟨u, 0, none⟩ = some (.slice (some ⟨b, off, none⟩) n c) := by rw [kp.cell, hab]; rfl
    obtain ⟨z, hz⟩ : ∃ z, z = pre.length := ⟨_, rfl⟩
    rw [← hz] at hbn hlen
    have HZ := Lib.hid hz
    have cn : V.cell? ⟨se, 0, none⟩ = some (.int .i64 (z : Int)) := by rw [hbn.cell]; rfl
    have fn : V.frozen? ⟨se, 0, none⟩ = false := hbn.frozen 0
    have hge : ¬ (q : Int) ≤ (p : Int) := by omega
    have hpn : (p : Int) < (n : Int) := by omega
    have hqn : (q : Int) < (n : Int) := by omega
    have HBn := Lib.hid hbn
    have HOs := Lib.hid hO
    have HFin : Hid (KeepsAll w4.heap.size V (V.setCell ⟨se, 0, none⟩ (.int .i64 ((z : Int) + 1))) ∧ Stay Re V (V.setCell ⟨se, 0, none⟩ (.int .i64 ((z : Int) + 1))) ∧ Blk (V.setCell ⟨se, 0, none⟩ (.int .i64 ((z : Int) + 1))) se 3 #[.int .i64 ((pre ++ [((p : Int), (q : Int))]).length : Nat)] ∧ Only w4 (V.setCell ⟨se, 0, none⟩ (.int .i64 ((z : Int) + 1))) se) := Lib.hid
      ⟨KeepsAll.setCell _ hse4 _, stay_set (fun h => (HRe4.out _ h).1 rfl), by
        have := blk_put HBn.out (.int .i64 ((z : Int) + 1))
        rw [List.length_append, ← HZ.out]; exact this, HOs.out.set _ _⟩
    clear hbn hO hcell krd kp hz hok hab
    by_cases h1 : pa l p = (q : Int)
    · rw [h1] at cp
      clear h1 hnr
      gi_wp2
      exact HFin.out
    · have h2 : pa l q = (p : Int) := by rcases hnr with h | h; exact absurd h h1; exact h
      rw [h2] at cq
      obtain ⟨r, hr⟩ : ∃ r, r = pa l p := ⟨_, rfl⟩
      rw [← hr] at cp h1
      have t1 : (r != (q : Int)) = true := by simp [h1]
      clear h1 hnr h2 hr
      gi_wp2
      exact HFin.out
  case stop =>
    rintro D cc pre V hD hpre hf hK
    exact hf.elim
  case done =>
    rintro D1 ys V1 hD1 hys ⟨hbn, hO⟩ hK
    rw [hys] at hbn
    have hsV1 := hO.size
    have cn : V1.cell? ⟨se, 0, none⟩ = some (.int .i64 ((n : Int) - 1)) := by
      rw [hbn.cell, show (n : Int) - 1 = ((edgesTo l l.length).length : Nat) by have := HEl.out; omega]
      rfl
    have HKp5 := Lib.hid (hO.blk HKp4.out (by have := HSs.out; omega))
    have HKr5 := Lib.hid (hO.blk HKr4.out (by have := HSs.out; omega))
    have HKs5 := Lib.hid (hO.blk HKs4.out (by have := HSs.out; omega))
    have HKt5 := Lib.hid (hO.blk HKt4.out (by have := HSs.out; omega))
    have HKn5 := Lib.hid (hO.blk HKn4.out (by have := HSs.out; omega))
    have HKe5 : Hid (Blk V1 se 3 #[.int .i64 ((n : Int) - 1)]) := Lib.hid (by rw [show (n : Int) - 1 = ((edgesTo l l.length).length : Nat) by have := HEl.out; omega]; exact hbn)
    have HR5 := Lib.hid (hO.reads HR4.out (by omega) (fun h0 ad e => by
      obtain ⟨ad', e', h1, _⟩ := HR4.out.2 h0
      rw [e] at e'
      injection e' with e'
      subst e'
      have := HSs.out
      omega))
    have HT5 := Lib.hid (hO.tr HT4.out (fun b hb => by have := HTl.out b hb; have := HSs.out; omega))
    have HB5 := Lib.hid (Only.below HB4.out hO (by have := HSs.out; omega) (by omega))
    have HMk5 := Lib.hid (mark1 hD1 hK)
    have cp5 : V1.cell? ⟨u, 0, none⟩ = some (.slice a n c) := by rw [HKp5.out.cell]; rfl
    have HWl : Hid (w4.heap.size ≤ V1.heap.size) := Lib.hid hsV1
    have hs5 : s + 3 ≤ V1.heap.size := Nat.le_trans hs4 hsV1
    clear hbn hO hK hys HKp4 HKr4 HKs4 HKt4 HKn4 HKe4 HR4 HT4 HB4 SE4 ENE HRe4
    go_wp2
    go_loopw [11, 12, 59] (fun nr _ j wr => ∃ k : Nat, j = .int .i64 k ∧ k ≤ n ∧ nr = .int .i64 (nearAll l k : Nat) ∧ Below V1.heap.size V1 wr) (fun _ _ j _ => n - (intOf j).toNat)
    case atStart => exact ⟨0, rfl, by omega, rfl, Below.refl _ _⟩
    case round =>
      obtain ⟨k, rfl, hk, rfl, hbk⟩ := hrel
      obtain ⟨w6, rfl⟩ : ∃ w6 : World, w6 = wr := ⟨_, rfl⟩
      have HBk := Lib.hid hbk
      obtain ⟨N, hN⟩ : ∃ N, N = nearAll l k := ⟨_, rfl⟩
      have hN2 : N ≤ 1024 := by have := nearAll_le G k; have h4 : k * 32 ≤ 32 * 32 := Nat.mul_le_mul_right _ (by omega); omega
      rw [← hN]
      have HN := Lib.hid hN
      have ct : w6.cell? ⟨s, 0, none⟩ = some (.pointer (some ⟨T, 0, none⟩)) := by rw [(HKt5.out.below hbk HKt5.out.lt).cell]; rfl
      clear hbk hN
      by_cases hlt : k < n
      · have HX := Lib.hid (nbrs_any T g l (k : Int) w6 (HT5.out.below_ HBk.out) G.few)
        have HNb : Hid (nbsI l (k : Int) = nbs l k l.length) := Lib.hid (by have := HL.out; unfold nbsI; rw [if_pos (by omega)]; rfl)
        go_wp2_with fail
        refine HX.out.mono ?_
        rintro e w7 ⟨x7, rfl, hown, hb7⟩
        rw [HNb.out] at hown
        obtain ⟨A7, c7, rfl, hc7, _⟩ := hown.reads
        obtain ⟨q, hq⟩ : ∃ q, q = (nbs l k l.length).length := ⟨_, rfl⟩
        have hq32 : q ≤ 32 := by rw [hq]; exact Nat.le_trans (nbs_len l k _) G.few
        rw [← hq] at hc7
        rw [← hq]
        have HB7 := Lib.hid (HBk.out.trans (hb7.mono HBk.out.size))
        have HSm : Hid (nearAll l (k + 1) = N + q) := Lib.hid (by rw [HN.out, hq]; rfl)
        clear hown hb7 hq HX ct
        go_wp2
        go_roundw
        case rel => exact ⟨k + 1, by go_num, by omega, by rw [HSm.out]; go_num, HB7.out⟩
        case measure => simp [intOf]; omega
      · have hkn : k = n := by omega
        subst hkn
        have hNn : (N : Int) = 2 * ((k : Int) - 1) := by
          have h1 := G.near_all
          rw [HL.out] at h1
          rw [HN.out, h1]
          omega
        rw [hNn]
        have HKp6 := Lib.hid (HKp5.out.below HBk.out HKp5.out.lt)
        have HKr6 := Lib.hid (HKr5.out.below HBk.out HKr5.out.lt)
        have HKs6 := Lib.hid (HKs5.out.below HBk.out HKs5.out.lt)
        have HKt6 := Lib.hid (HKt5.out.below HBk.out HKt5.out.lt)
        have HKn6 := Lib.hid (HKn5.out.below HBk.out HKn5.out.lt)
        have HKe6 := Lib.hid (HKe5.out.below HBk.out HKe5.out.lt)
        have HT6 := Lib.hid (HT5.out.below_ HBk.out)
        have HR6 := Lib.hid (HR5.out.below (HBk.out.mono (by omega)))
        have HB6 := Lib.hid (HB5.out.trans (HBk.out.mono (by omega)))
        have HMk6 := Lib.hid (HMk5.out.below HBk.out)
        have hs6 : s + 3 ≤ w6.heap.size := Nat.le_trans hs5 HBk.out.size
        have HWl6 : Hid (w4.heap.size ≤ w6.heap.size) := Lib.hid (Nat.le_trans HWl.out HBk.out.size)
        have ce6 : w6.cell? ⟨se, 0, none⟩ = some (.int .i64 ((k : Int) - 1)) := by rw [HKe6.out.cell]; rfl
        have cn6 : w6.cell? ⟨sn, 0, none⟩ = some (.int .i64 (k : Int)) := by rw [HKn6.out.cell]; rfl
        have cs6 : w6.cell? ⟨u + 1, 0, none⟩ = some (.int .i64 x) := by rw [HKs6.out.cell]; rfl
        have cr6 : w6.cell? ⟨ur, 0, none⟩ = some (.bool false) := by rw [HKr6.out.cell]; rfl
        have fr6 : w6.frozen? ⟨ur, 0, none⟩ = false := HKr6.out.frozen 0
        clear hNn HKp5 HKr5 HKs5 HKt5 HKn5 HKe5 HT5 HR5 HB5 HMk5 ct cn cp5 hlt hk hN2
        rcases Int.lt_or_le x 0 with hx0 | hx0
        · have hx9 : x < 0 := hx0
          go_wp2
          have hO2 : Only w6 (w6.setCell ⟨ur, 0, none⟩ (.bool true)) ur := (Only.refl _ _).set _ _
          have hk2 := blk_put HKr6.out (.bool true)
          refine Marks.leave (B := w4.heap.size) _ _ (HMk6.out.only hO2 HKr6.out) (fun W' hb => ?_)
          have c5 : W'.cell? ⟨ur, 0, none⟩ = some (.bool true) := by rw [hb.cell (p := ⟨ur, 0, none⟩) (show ur < w4.heap.size by omega), hk2.cell]; rfl
          refine ⟨.bool true, by simp [results, Try.f9, go_sem, c5], rfl, ?_⟩
          rw [← HU.out]
          exact (Only.below HB6.out hO2 (by omega) (by omega)).trans (hb.mono (by have := HWl6.out; omega))
        rcases Int.lt_or_le x (k : Int) with hx1 | hx1
        rotate_left
        · have hx9 : (k : Int) ≤ x := hx1
          go_wp2
          have hO2 : Only w6 (w6.setCell ⟨ur, 0, none⟩ (.bool true)) ur := (Only.refl _ _).set _ _
          have hk2 := blk_put HKr6.out (.bool true)
          refine Marks.leave (B := w4.heap.size) _ _ (HMk6.out.only hO2 HKr6.out) (fun W' hb => ?_)
          have c5 : W'.cell? ⟨ur, 0, none⟩ = some (.bool true) := by rw [hb.cell (p := ⟨ur, 0, none⟩) (show ur < w4.heap.size by omega), hk2.cell]; rfl
          refine ⟨.bool true, by simp [results, Try.f9, go_sem, c5], rfl, ?_⟩
          rw [← HU.out]
          exact (Only.below HB6.out hO2 (by omega) (by omega)).trans (hb.mono (by have := HWl6.out; omega))
        obtain ⟨f, rfl⟩ : ∃ f : Nat, x = (f : Int) := ⟨x.toNat, by omega⟩
        have hfk : (f : Int) < (k : Int) := hx1
        have hfk2 : f < k := by omega
        have HFl : Hid (f < l.length) := Lib.hid (by rw [HL.out]; exact hfk2)
        clear hx0 hx1
        go_wp2_with (refine makeN w6 rfl (.tmp 86) (.tmp 86) rfl .i64 .i64 _ _ k rfl rfl rfl rfl (by omega) ?_; intro w7 hb7 hbel7)
        obtain ⟨gF, hgF⟩ : ∃ gF, gF = w6.heap.size := ⟨_, rfl⟩
        obtain ⟨xf, hxf⟩ : ∃ xf, xf = w7.heap.size := ⟨_, rfl⟩
        obtain ⟨W8, hW8⟩ : ∃ W8, W8 = w7.alloc (.cells #[.slice (some ⟨w6.heap.size, 0, none⟩) k k] 22) := ⟨_, rfl⟩
        have hlt7 : w6.heap.size < w7.heap.size := Blk.lt hb7
        have hb68 : Below w6.heap.size w6 W8 := hW8 ▸ hbel7.alloc hbel7.size _
        have HFa8 : Hid (BlkN W8 gF (List.replicate k 0)) := Lib.hid (by rw [hW8, hgF]; exact Blk.alloc hb7 _)
        have HKf8 : Hid (Blk W8 xf 22 #[.slice (some ⟨gF, 0, none⟩) k k]) := Lib.hid (by rw [hW8, hgF, hxf]; exact Blk.new w7 _ _)
        have HKp8 := Lib.hid (HKp6.out.below hb68 HKp6.out.lt)
        have HKr8 := Lib.hid (HKr6.out.below hb68 HKr6.out.lt)
        have HKs8 := Lib.hid (HKs6.out.below hb68 HKs6.out.lt)
        have HKt8 := Lib.hid (HKt6.out.below hb68 HKt6.out.lt)
        have HKn8 := Lib.hid (HKn6.out.below hb68 HKn6.out.lt)
        have HT8 := Lib.hid (HT6.out.below_ hb68)
        have HB8 := Lib.hid (HB6.out.trans (hb68.mono (by omega)))
        have HMk8 := Lib.hid (HMk6.out.below hb68)
        have hs8 : s + 3 ≤ gF ∧ gF < xf ∧ xf < W8.heap.size := by have h1 := HKf8.out.lt; omega
        obtain ⟨hs8, hs9, hs10⟩ := hs8
        have HWl8 : Hid (w4.heap.size ≤ gF) := Lib.hid (by rw [hgF]; exact HWl6.out)
        have HTl8 : Hid (∀ b, TrB T g b → b < gF) := Lib.hid (fun b hb => by have := HTl.out b hb; omega)
        rw [← hW8, ← hgF, ← hxf]
        clear hb7 hbel7 hW8 hxf hgF hlt7 hb68 HKp6 HKr6 HKs6 HKt6 HKn6 HKe6 HT6 HR6 HB6 HMk6 ce6 cn6 cs6 cr6 fr6 HWl6
        go_loopw [14, 90] (fun _ j wr => ∃ i : Nat, j = .int .i64 i ∧ i ≤ k ∧ BlkN wr gF (List.replicate i (-1) ++ List.replicate (k - i) 0) ∧ Only W8 wr gF) (fun _ j _ => k - (intOf j).toNat)
        case atStart => exact ⟨0, rfl, by omega, by simpa using HFa8.out, Only.refl _ _⟩
        case round =>
          obtain ⟨i, rfl, hi, hbi, hOi⟩ := hrel
          obtain ⟨w9, rfl⟩ : ∃ w9 : World, w9 = wr := ⟨_, rfl⟩
          have HBi := Lib.hid hbi
          have HOi := Lib.hid hOi
          have hsz9 := hOi.size
          have cf : w9.cell? ⟨xf, 0, none⟩ = some (.slice (some ⟨gF, 0, none⟩) k k) := by rw [(hOi.blk HKf8.out (by omega)).cell]; rfl
          clear hbi hOi
          by_cases hlt : i < k
          · have cx := HBi.out.num (i := i) (by simp; omega)
            have fz := Blk.frozen HBi.out i
            have HS := Lib.hid (fill_step hlt)
            go_wp2
            go_roundw
            case rel => exact ⟨i + 1, by go_num, by omega, by have := HBi.out.set_ i (-1); rw [HS.out] at this; exact this, ⟨HOi.out.os, HOi.out.tape, HOi.out.output, by simp [World.setCell]; omega, fun b hb hn => (Below.heap_setCell w9 ⟨gF, i, none⟩ _ b (fun e => hn (by simp at e; rw [e]))).trans (HOi.out.block b hb hn)⟩⟩
            case measure => simp [intOf]; omega
          · have hik : i = k := by omega
            subst hik
            have HF9 : Hid (BlkN w9 gF (farL l f [])) := Lib.hid (by rw [farL_nil, HL.out]; have := HBi.out; simpa using this)
            have HKf9 := Lib.hid (HOi.out.blk HKf8.out (by omega))
            have HKr9 := Lib.hid (HOi.out.blk HKr8.out (by omega))
            have HKs9 := Lib.hid (HOi.out.blk HKs8.out (by omega))
            have HKt9 := Lib.hid (HOi.out.blk HKt8.out (by omega))
            have HKn9 := Lib.hid (HOi.out.blk HKn8.out (by have := HSs.out; omega))
            have HT9 := Lib.hid (HOi.out.tr HT8.out (fun b hb => by have := HTl8.out b hb; omega))
            have HB9 := Lib.hid (Only.below HB8.out HOi.out (by omega) (by omega))
            have HMk9 := Lib.hid (HMk8.out.only HOi.out (Blk.lt_blk HFa8.out))
            obtain ⟨xs, hxs⟩ : ∃ xs, xs = w9.heap.size := ⟨_, rfl⟩
            obtain ⟨W10, hW10⟩ : ∃ W10, W10 = w9.alloc (.cells #[.int .i64 0] 3) := ⟨_, rfl⟩
            have hbA : Below w9.heap.size w9 W10 := hW10 ▸ (Below.refl _ _).alloc (Nat.le_refl _) _
            have HKx10 : Hid (Blk W10 xs 3 #[.int .i64 0]) := Lib.hid (by rw [hW10, hxs]; exact Blk.new w9 _ _)
            have ct10 : W10.cell? ⟨s, 0, none⟩ = some (.pointer (some ⟨T, 0, none⟩)) := by rw [(HKt9.out.below hbA HKt9.out.lt).cell]; rfl
            have cs10 : W10.cell? ⟨u + 1, 0, none⟩ = some (.int .i64 (f : Int)) := by rw [(HKs9.out.below hbA HKs9.out.lt).cell]; rfl
            have HT10 := Lib.hid (HT9.out.below_ hbA)
            have HBA := Lib.hid hbA
            rw [hW10] at ct10 cs10
            clear hbA HKf8 HKp8 HKr8 HKs8 HKt8 HKn8 HT8 HB8 HMk8 HFa8 HOi HBi cf
            go_wp2_with fail
            rw [← hW10, ← hxs]
            refine (walk_codeO T g l (f : Int) W10 HT10.out G).mono ?_
            rintro e w11 ⟨vw, Rw, rfl, hsw, hb11, hRw⟩
            have hbB : Below w9.heap.size w9 w11 := HBA.out.trans (hb11.mono HBA.out.size)
            have hx11 : gF < xs ∧ xf < xs ∧ xs < w11.heap.size := by have h1 := HKx10.out.lt; have h2 := hb11.size; omega
            obtain ⟨hx11, hx12, hx13⟩ := hx11
            have HFa11 : Hid (BlkN w11 gF (farL l f [])) := Lib.hid (Blk.below HF9.out hbB (by omega))
            have HKx11 := Lib.hid (HKx10.out.below hb11 HKx10.out.lt)
            have HKf11 := Lib.hid (HKf9.out.below hbB HKf9.out.lt)
            have HKr11 := Lib.hid (HKr9.out.below hbB HKr9.out.lt)
            have HKs11 := Lib.hid (HKs9.out.below hbB HKs9.out.lt)
            have HKt11 := Lib.hid (HKt9.out.below hbB HKt9.out.lt)
            have HKn11 := Lib.hid (HKn9.out.below hbB HKn9.out.lt)
            have HT11 := Lib.hid (HT9.out.below_ hbB)
            have HB11 := Lib.hid (HB9.out.trans (hbB.mono (by omega)))
            have HMk11 := Lib.hid (HMk9.out.below hbB)
            have SW11 := Lib.hid hsw
            have HRw : Hid (∀ b, Rw b → b ≠ gF ∧ b ≠ xs ∧ b < w11.heap.size) := Lib.hid (fun b hb => by
              have h1 := SW11.out.lt b hb
              have h2 := HKx10.out.lt
              rcases hRw b hb with h | h
              · have := HTl8.out b h; omega
              · omega)
            clear hsw hb11 hRw hbB HF9 HKx10 HKf9 HKr9 HKs9 HKt9 HKn9 HT9 HB9 HMk9 HT10 HBA ct10 cs10 hW10 hxs
            obtain ⟨gfw, lbw, hvw, enw, hq1, hq2⟩ := SW11.out
            clear hq1 hq2
            subst hvw
            have ENW := Lib.hid enw
            clear enw
            obtain ⟨S, hS⟩ : ∃ S : Nat → Prop, S = fun b => b = gF ∨ b = xs := ⟨_, rfl⟩
            have S1 : S gF := by rw [hS]; exact .inl rfl
            have S2 : S xs := by rw [hS]; exact .inr rfl
            have HSn : Hid (∀ b, b ≠ gF → b ≠ xs → ¬ S b) := Lib.hid (fun b h1 h2 h => by rw [hS] at h; rcases h with h | h; exact h1 h; exact h2 h)
            have HSe : Hid (∀ b, S b → b = gF ∨ b = xs) := Lib.hid (fun b h => by rw [hS] at h; exact h)
            clear hS
            go_wp2_with fail
            refine (wpIn_wide (n := 9)).1 ?_
            refine' range_boundO (α := Int × Int) (gf := gfw) (pb := #[]) (lb := lbw) rfl ENW.out (SW11.out.at_ _) (fun h k => h.trans k) (stay_b SW11.out.lt) (fun _ => rfl)
              (fun pre W => (BlkN W gF (farL l f (pre.map (·.1))) ∧ Blk W xs 3 #[.int .i64 (pre.length : Nat)]) ∧ OnlyS S w11 W)
              (fun cc pre W => False)
              (OwnFrom.and (Own.from (I := fun (pre : List (Int × Int)) W => BlkN W gF (farL l f (pre.map (·.1))) ∧ Blk W xs 3 #[.int .i64 (pre.length : Nat)]) (fun s A B row hs hg hr => ⟨blk_kept hs.1 hg hr, blk_kept hs.2 hg hr⟩) _) (own_onlyS w11 S))
              (fun cc => fun s A B row hs hg hr => hs)
              ⟨⟨HFa11.out, HKx11.out⟩, OnlyS.refl _ _⟩
              _ ?assign ?body ?done ?stop
            case assign =>
              intro lp y V K hK
              gi_wp2
              exact hK
            case body =>
              rintro lp pre y V hlp hrec ⟨⟨hfa, hbn⟩, hO⟩ hok
              obtain ⟨v, hv, rfl, hnm, hway⟩ := G.walk_round HFl.out hok
              have hlen : pre.length < i := by
                have h1 := hok.length_le
                rw [G.walk_total HFl.out, HL.out] at h1
                simp only [List.length_append, List.length_singleton] at h1
                omega
              have hvi : v < i := by have := HL.out; omega
              obtain ⟨P, hP⟩ : ∃ P, P = pre.map (·.1) := ⟨_, rfl⟩
              rw [← hP] at hfa hnm hway
              obtain ⟨z, hz⟩ : ∃ z, z = pre.length := ⟨_, rfl⟩
              rw [← hz] at hbn hlen
              obtain ⟨d, hd⟩ : ∃ d, d = distL l f v := ⟨_, rfl⟩
              have hd32 : d < 32 := by rw [hd]; exact Nat.lt_of_lt_of_le (G.rt.dist_lt HFl.out hv) G.few
              have HZ := Lib.hid hz
              have HPe := Lib.hid hP
              have HDe := Lib.hid hd
              have HT := Lib.hid (HT11.out.stay (hO.stay (fun b hb => ⟨HT11.out.lt b hb, HSn.out b (by have := HTl8.out b hb; omega) (by have := HTl8.out b hb; omega)⟩)))
              have kn := hO.blk HKn11.out (HSn.out _ (by have := HSs.out; omega) (by have := HSs.out; omega))
              have kf := hO.blk HKf11.out (HSn.out _ (by omega) (by omega))
              have kt := hO.blk HKt11.out (HSn.out _ (by omega) (by omega))
              have ks := hO.blk HKs11.out (HSn.out _ (by omega) (by omega))
              have cv := hfa.num (i := v) (by rw [farL_length]; exact hv)
              rw [farL_get hv, if_neg hnm] at cv
              have cn : V.cell? ⟨sn, 0, none⟩ = some (.int .i64 (i : Int)) := by rw [kn.cell]; rfl
              have cf : V.cell? ⟨xf, 0, none⟩ = some (.slice (some ⟨gF, 0, none⟩) i i) := by rw [kf.cell]; rfl
              have ct : V.cell? ⟨s, 0, none⟩ = some (.pointer (some ⟨T, 0, none⟩)) := by rw [kt.cell]; rfl
              have cs : V.cell? ⟨u + 1, 0, none⟩ = some (.int .i64 (f : Int)) := by rw [ks.cell]; rfl
              have hvi2 : (v : Int) < (i : Int) := by omega
              have HD := Lib.hid (dist_any T g l (f : Int) (v : Int) V HT.out G (Nat.le_trans (G.path_le _ _) G.few))
              rw [distI_nat G HFl.out hv, ← hd] at HD
              rw [← hd]
              have HFa := Lib.hid hfa
              have HBn := Lib.hid hbn
              have HOs := Lib.hid hO
              have HKn' := Lib.hid kn
              have HKf' := Lib.hid kf
              have HKt' := Lib.hid kt
              have HKs' := Lib.hid ks
              have hsV := hO.size
              clear hok hz hP hd hO kn kf kt ks hfa hbn
              gi_wp2_with fail
              refine ⟨trivial, ?_⟩
              refine (CallsIn.inRound lp (callsIn_wide.2 HD.out)).mono ?_
              rintro e V1 ⟨rfl, hbV⟩
              have HBV := Lib.hid hbV
              have HFa1 : Hid (BlkN V1 gF (farL l f P)) := Lib.hid (Blk.below HFa.out hbV (by omega))
              have HBn1 := Lib.hid (HBn.out.below hbV (by omega))
              have HOs1 := Lib.hid (HOs.out.below hbV)
              have HT1 := Lib.hid (HT.out.below_ hbV)
              have hsV1 : w11.heap.size ≤ V1.heap.size := Nat.le_trans hsV hbV.size
              have cv1 : V1.cell? ⟨gF, v, none⟩ = some (.int .i64 (-1)) := (hbV.cell (p := ⟨gF, v, none⟩) (by show gF < V.heap.size; omega)).trans cv
              have fv1 : V1.frozen? ⟨gF, v, none⟩ = false := Blk.frozen HFa1.out v
              have cx1 : V1.cell? ⟨xs, 0, none⟩ = some (.int .i64 (z : Int)) := by rw [HBn1.out.cell]; rfl
              have fx1 : V1.frozen? ⟨xs, 0, none⟩ = false := HBn1.out.frozen 0
              have cn1 : V1.cell? ⟨sn, 0, none⟩ = some (.int .i64 (i : Int)) := by rw [(HKn'.out.below hbV HKn'.out.lt).cell]; rfl
              have cf1 : V1.cell? ⟨xf, 0, none⟩ = some (.slice (some ⟨gF, 0, none⟩) i i) := by rw [(HKf'.out.below hbV HKf'.out.lt).cell]; rfl
              have ct1 : V1.cell? ⟨s, 0, none⟩ = some (.pointer (some ⟨T, 0, none⟩)) := by rw [(HKt'.out.below hbV HKt'.out.lt).cell]; rfl
              have cs1 : V1.cell? ⟨u + 1, 0, none⟩ = some (.int .i64 (f : Int)) := by rw [(HKs'.out.below hbV HKs'.out.lt).cell]; rfl
              have hx14 : gF ≠ xs := by omega
              have hx15 : xs ≠ gF := by omega
              have HFin : Hid (KeepsAll w11.heap.size V ((V1.setCell ⟨gF, v, none⟩ (.int .i64 (d : Int))).setCell ⟨xs, 0, none⟩ (.int .i64 ((z : Int) + 1))) ∧ Stay Rw V ((V1.setCell ⟨gF, v, none⟩ (.int .i64 (d : Int))).setCell ⟨xs, 0, none⟩ (.int .i64 ((z : Int) + 1))) ∧
                  (BlkN ((V1.setCell ⟨gF, v, none⟩ (.int .i64 (d : Int))).setCell ⟨xs, 0, none⟩ (.int .i64 ((z : Int) + 1))) gF (farL l f ((pre ++ [((v : Int), (d : Int))]).map (·.1))) ∧ Blk ((V1.setCell ⟨gF, v, none⟩ (.int .i64 (d : Int))).setCell ⟨xs, 0, none⟩ (.int .i64 ((z : Int) + 1))) xs 3 #[.int .i64 ((pre ++ [((v : Int), (d : Int))]).length : Nat)]) ∧
                  OnlyS S w11 ((V1.setCell ⟨gF, v, none⟩ (.int .i64 (d : Int))).setCell ⟨xs, 0, none⟩ (.int .i64 ((z : Int) + 1)))) := Lib.hid (by
                refine ⟨((KeepsAll.of_below HBV.out).trans ?_).trans (KeepsAll.setCell _ hx13 _), (Stay.below HBV.out (fun b hb => by have := HRw.out b hb; omega)).trans ((stay_setAt (fun h => (HRw.out _ h).1 rfl)).trans (stay_set (fun h => (HRw.out _ h).2.1 rfl))), ⟨?_, ?_⟩, (HOs1.out.setAt S1 v _).set S2 _⟩
                · exact ⟨by simp [World.setCell], fun k hB hk => Below.heap_setCell V1 ⟨gF, v, none⟩ _ k (by show ¬ k = gF; omega)⟩
                · have h1 := HFa1.out.set_ v (d : Int)
                  rw [HDe.out, farL_set hv] at h1
                  rw [HDe.out, List.map_append, ← HPe.out]
                  exact Blk.far h1 (by simpa using hx14) _
                · have := blk_put (HBn1.out.far (p := ⟨gF, v, none⟩) (by simpa using hx15) (.int .i64 (d : Int))) (.int .i64 ((z : Int) + 1))
                  rw [List.length_append, ← HZ.out]; exact this)
              have HNx := Lib.hid (nxt_any T g l (v : Int) (f : Int) V1 HT1.out G)
              clear hbV cv cn cf ct cs hnm HD HT HFa HBn HOs HKn' HKf' HKt' HKs' HBn1 HOs1 HT1
              rcases hway with e1 | ⟨hne, hq, hqm, hqd⟩
              · have hd0 : d = 0 := by rw [HDe.out, e1]; exact dist_self f
                subst hd0
                clear e1 HNx
                gi_wp2
                exact HFin.out
              · obtain ⟨q, hqe⟩ : ∃ q, q = nextN l v f := ⟨_, rfl⟩
                have HNe : Hid (nextI l (v : Int) (f : Int) = (q : Int)) := Lib.hid (by
                  unfold nextI
                  have := HFl.out
                  rw [if_pos ⟨⟨by omega, by omega⟩, by omega, by omega⟩, if_neg (by omega), hqe, Int.toNat_natCast, Int.toNat_natCast])
                rw [← hqe] at hq hqm hqd
                have cq := HFa1.out.num (i := q) (by rw [farL_length]; exact hq)
                rw [farL_get hq, if_pos hqm, show ((distL l f q : Nat) : Int) = (d : Int) - 1 by have := HDe.out; omega] at cq
                have hqi : (q : Int) < (i : Int) := by have := HL.out; omega
                have hd1 : (0 : Int) < (d : Int) := by have := HDe.out; omega
                rw [HNe.out] at HNx
                clear hqe hq hqm hqd hne HFa1
                gi_wp2_with (refine ⟨trivial, ?_⟩; gi_at_call 18; refine (CallsIn.inRound lp (callsIn_wide.2 HNx.out)).mono ?_; rintro e V2 ⟨rfl, hw⟩; rw [hw]; clear hw V2)
                exact HFin.out
            case stop =>
              rintro D cc pre V hD hpre hf hK
              exact hf.elim
            case done =>
              rintro D2 ys V2 hD2 hys ⟨⟨hfa, hbn⟩, hO⟩ hK
              rw [hys, G.walk_total HFl.out, HL.out] at hbn
              have hsV := hO.size
              have kn := hO.blk HKn11.out (HSn.out _ (by have := HSs.out; omega) (by have := HSs.out; omega))
              have kr := hO.blk HKr11.out (HSn.out _ (by omega) (by omega))
              have cn : V2.cell? ⟨sn, 0, none⟩ = some (.int .i64 (i : Int)) := by rw [kn.cell]; rfl
              have cx : V2.cell? ⟨xs, 0, none⟩ = some (.int .i64 (i : Int)) := by rw [hbn.cell]; rfl
              have cr : V2.cell? ⟨ur, 0, none⟩ = some (.bool false) := by rw [kr.cell]; rfl
              have fr : V2.frozen? ⟨ur, 0, none⟩ = false := kr.frozen 0
              have HKr := Lib.hid kr
              have kbe := OnlyS.bel HB11.out hO (fun b hb => by have := HSe.out b hb; omega) (by omega)
              have kmk := OnlyS.marks HMk11.out hO (fun b hb => by
                rcases HSe.out b hb with rfl | rfl
                · exact ⟨_, _, Blk.lt_blk HFa11.out⟩
                · exact ⟨_, _, HKx11.out⟩)
              have kmk2 : Marks w4.heap.size [{ target := .collected D2, args := #[] }, { target := .collected D1, args := #[] }] V2 := kmk.cons (fun d hd k e => by have := HMk11.out.lt d hd k e; omega) (by have := HWl8.out; omega) hK
              have HBe := Lib.hid kbe
              have HMk := Lib.hid kmk2
              have HVs : Hid (w4.heap.size ≤ V2.heap.size) := Lib.hid (by have := HWl8.out; omega)
              clear hfa hbn hO hK kn kr kbe kmk kmk2 hys
              go_wp2
              have hO2 : Only V2 (V2.setCell ⟨ur, 0, none⟩ (.bool true)) ur := (Only.refl _ _).set _ _
              have hk2 := blk_put HKr.out (.bool true)
              refine Marks.leave (B := w4.heap.size) _ _ (HMk.out.only hO2 HKr.out) (fun W' hb => ?_)
              have c5 : W'.cell? ⟨ur, 0, none⟩ = some (.bool true) := by rw [hb.cell (p := ⟨ur, 0, none⟩) (show ur < w4.heap.size by omega), hk2.cell]; rfl
              refine ⟨.bool true, by simp [results, Try.f9, go_sem, c5], rfl, ?_⟩
              rw [← HU.out]
              exact (Only.below HBe.out hO2 (by omega) (by omega)).trans (hb.mono (by have := HVs.out; omega))
end Go.Proofs.Ytohlgimbohkepaa.Pk
