/- The walk of the law TreeWalks. -/
import Derived.Test.YtadfcinfnbfefaaTrPairs
import Derived.Test.YtadfcinfnbfefaaArgN
import Derived.Test.YtadfcinfnbfefaaRegRound
import Derived.Sort.QuietIn
namespace Go.Proofs.Ytadfcinfnbfefaa.Pk
open Go.RowKit Go.Shelf Go.Proofs.Ytadfcinfnbfefaa.Gr Go.Proofs.Ytadfcinfnbfefaa.Ar
set_option linter.unusedVariables false
attribute [local go_sem] Oper.semAt_some

set_option maxRecDepth 100000 in
set_option maxHeartbeats 8000000 in
theorem law_TreeWalks (a : Option Addr) (n c : Nat) (l : List Int) (x z : Int) (w : World) (h : ArgN w a n c l) (hx : -9223372036854775808 ≤ x ∧ x ≤ 9223372036854775807) (hz : -9223372036854775808 ≤ z ∧ z ≤ 9223372036854775807) :
    Calls Try.prog 6 #[.slice a n c, .int .i64 x, .int .i64 z] w fun e w' => e = .returned (.bool true) ∧ Below w.heap.size w w' := by
  obtain ⟨hr, hnc, hc8, _⟩ := h
  have hbig : n ≤ 4611686018427387904 := by omega
  have HR := Lib.hid hr
  have HL := Lib.hid hr.plen
  clear hr hx hz
  refine (callsIn_wide (n := 9)).1 ?_
  refine callsIn_of_wp_marks Try.func6 rfl trivial ?_ rfl
  simp only [Try.ntmps6, List.size_toArray, List.length_cons, List.length_nil, Nat.reduceAdd, Nat.reduceSub, Array.replicate_succ, Array.replicate_zero, List.push_toArray, List.append_toArray, List.nil_append, List.cons_append]
  refine wpIn_wide.2 ?_
  obtain ⟨u, hu⟩ : ∃ u, u = w.heap.size := ⟨_, rfl⟩
  obtain ⟨W0, hW0⟩ : ∃ W0, W0 = (w.alloc (.cells #[.int .i64 z] 3)).alloc (.cells #[.bool false] 4) := ⟨_, rfl⟩
  have hb0 : Below u w W0 := by
    rw [hW0, hu]
    exact ((Below.refl _ w).alloc (Nat.le_refl _) _).alloc (by simp) _
  have ks : Blk W0 u 3 #[.int .i64 z] := by rw [hW0, hu]; exact (Blk.new w _ _).alloc _
  have kr : Blk W0 (u + 1) 4 #[.bool false] := by
    have := Blk.new (w.alloc (.cells #[.int .i64 z] 3)) 4 #[.bool false]
    rw [World.size_alloc, ← hu] at this
    rw [hW0]; exact this
  have HU := Lib.hid hu
  have HB0 := Lib.hid hb0
  have HKr0 := Lib.hid kr
  have HKs0 := Lib.hid ks
  have hs0 : u + 2 ≤ W0.heap.size := kr.lt
  go_wp2_with fail
  rw [← hW0, ← hu]
  rw [← hu] at HR
  clear hW0 hb0 kr ks hu
  refine (wakes_any _).mono ?_
  rintro e w1 ⟨rfl, hb1⟩
  have HB1 := Lib.hid (HB0.out.trans (hb1.mono (by omega)))
  have HKr1 := Lib.hid (HKr0.out.below hb1 HKr0.out.lt)
  have HKs1 := Lib.hid (HKs0.out.below hb1 HKs0.out.lt)
  have HR1 := Lib.hid (HR.out.below HB1.out)
  have hs1 : u + 2 ≤ w1.heap.size := Nat.le_trans hs0 hb1.size
  clear hb1 HKr0 HKs0 HB0
  go_wp2_with fail
  refine (new_any a n c l w1 _ HR1.out (by omega) hbig).mono ?_
  rintro e w2 ⟨hb2, ⟨T, g, rfl, hc2, ht2, hTl, hgl, _⟩ | ⟨p2, e2, rfl, hc2, hne⟩⟩
  case inr =>
    have hsz2 := hb2.size
    have HB2 := Lib.hid (HB1.out.trans (hb2.mono (by omega)))
    have HKr2 := Lib.hid (HKr1.out.below hb2 HKr1.out.lt)
    have fr : w2.frozen? ⟨u + 1, 0, none⟩ = false := HKr2.out.frozen 0
    have cr : w2.cell? ⟨u + 1, 0, none⟩ = some (.bool false) := by rw [HKr2.out.cell]; rfl
    have t1 : (e2 != 0) = true := by simp [hne]
    clear hb2 hc2 hne
    go_wp2
    refine Marks.leave (B := w2.heap.size) [] _ trivial (fun W' hb => ?_)
    have hk : Blk (w2.setCell ⟨u + 1, 0, none⟩ (.bool true)) (u + 1) 4 #[.bool true] := blk_put HKr2.out _
    have c5 : W'.cell? ⟨u + 1, 0, none⟩ = some (.bool true) := by rw [hb.cell (p := ⟨u + 1, 0, none⟩) HKr2.out.lt, hk.cell]; rfl
    refine ⟨.bool true, by simp [results, Try.f6, go_sem, c5], rfl, ?_⟩
    rw [← HU.out]
    exact ((HB2.out.setCell (p := ⟨u + 1, 0, none⟩) (by simp) _).trans (hb.mono (by omega)))
  obtain ⟨G, _⟩ := hc2.good
  have HT2 := Lib.hid ht2
  have HB2 := Lib.hid (HB1.out.trans (hb2.mono (by omega)))
  have HKr2 := Lib.hid (HKr1.out.below hb2 HKr1.out.lt)
  have HKs2 := Lib.hid (HKs1.out.below hb2 HKs1.out.lt)
  have HR2 := Lib.hid (HR1.out.below (hb2.mono (by omega)))
  have hs2 : u + 2 ≤ w2.heap.size := Nat.le_trans hs1 hb2.size
  have hn1 : 0 < n ∧ n ≤ 32 := by rw [← HL.out]; exact ⟨G.pos, G.few⟩
  obtain ⟨hn1, hn2⟩ := hn1
  have HTg : Hid (u + 2 ≤ T ∧ u + 2 ≤ g) := Lib.hid ⟨by omega, by omega⟩
  clear ht2 hb2 hc2 HB1 HKr1 HKs1 HR1
  go_wp2_with fail
  obtain ⟨s0, hs0e⟩ : ∃ s0, s0 = w2.heap.size := ⟨_, rfl⟩
  obtain ⟨W3, hW3⟩ : ∃ W3, W3 = (w2.alloc (.cells #[.int .i64 0] 3)).alloc (.cells #[.int .i64 0] 3) := ⟨_, rfl⟩
  have hb3 : Below w2.heap.size w2 W3 := hW3 ▸ ((Below.refl _ _).alloc (Nat.le_refl _) _).alloc (by simp) _
  have HKu3 : Hid (Blk W3 s0 3 #[.int .i64 0]) := Lib.hid (by rw [hW3, hs0e]; exact (Blk.new w2 _ _).alloc _)
  have HKv3 : Hid (Blk W3 (s0 + 1) 3 #[.int .i64 0]) := Lib.hid (by
    have := Blk.new (w2.alloc (.cells #[.int .i64 0] 3)) 3 #[.int .i64 0]
    rw [World.size_alloc, ← hs0e] at this
    rw [hW3]; exact this)
  have HTl : Hid (∀ b, TrB T g b → u + 2 ≤ b ∧ b < s0) := Lib.hid (fun b hb => by
    have h1 := HT2.out.lt b hb
    have h2 := HTg.out
    rcases hb with rfl | rfl <;> omega)
  have HT3 := Lib.hid (HT2.out.below_ hb3)
  have HB3 := Lib.hid (HB2.out.trans (hb3.mono (by omega)))
  have HKr3 := Lib.hid (HKr2.out.below hb3 HKr2.out.lt)
  have HKs3 := Lib.hid (HKs2.out.below hb3 HKs2.out.lt)
  have HR3 := Lib.hid (HR2.out.below (hb3.mono (by omega)))
  have hs3 : s0 + 2 ≤ W3.heap.size := HKv3.out.lt
  rw [← hW3, ← hs0e]
  have hus : u + 2 ≤ s0 := by omega
  clear hW3 hb3 HT2 HB2 HKr2 HKs2 HR2 HTg hs0e
  refine (edges_code T g l W3 HT3.out G).mono ?_
  rintro e w4 ⟨ve, Re, rfl, hse, hb4, hRe⟩
  have HT4 := Lib.hid (HT3.out.below_ hb4)
  have HB4 := Lib.hid (HB3.out.trans (hb4.mono (by omega)))
  have HKr4 := Lib.hid (HKr3.out.below hb4 HKr3.out.lt)
  have HKs4 := Lib.hid (HKs3.out.below hb4 HKs3.out.lt)
  have HKu4 := Lib.hid (HKu3.out.below hb4 HKu3.out.lt)
  have HKv4 := Lib.hid (HKv3.out.below hb4 HKv3.out.lt)
  have HR4 := Lib.hid (HR3.out.below (hb4.mono (by omega)))
  have hs4 : W3.heap.size ≤ w4.heap.size := hb4.size
  have SE4 := Lib.hid hse
  have HRe4 : Hid (∀ b, Re b → b < s0 ∨ s0 + 2 ≤ b) := Lib.hid (fun b hb => by
    rcases hRe b hb with h | h
    · exact .inl (HTl.out b h).2
    · right; omega)
  clear hse hb4 hRe HT3 HB3 HKr3 HKs3 HKu3 HKv3 HR3
  have HWc := Lib.hid (walk_code T g l x w4 HT4.out G)
  obtain ⟨gfe, lbe, hve, ene, hq1, hq2⟩ := SE4.out
  clear hq1 hq2
  subst hve
  have ENE := Lib.hid ene
  clear ene
  go_wp2_with fail
  refine HWc.out.mono ?_
  rintro e w5 ⟨vw, Rw, rfl, hsw, hb5, hRw⟩
  have HB5 := Lib.hid (HB4.out.trans (hb5.mono (by omega)))
  have HKr5 := Lib.hid (HKr4.out.below hb5 HKr4.out.lt)
  have HKs5 := Lib.hid (HKs4.out.below hb5 HKs4.out.lt)
  have HKu5 := Lib.hid (HKu4.out.below hb5 HKu4.out.lt)
  have HKv5 := Lib.hid (HKv4.out.below hb5 HKv4.out.lt)
  have HR5 := Lib.hid (HR4.out.below (hb5.mono (by omega)))
  have SE5 := Lib.hid (SE4.out.stay (Stay.below hb5 SE4.out.lt))
  have HRe : Hid (∀ b, Re b → (b < s0 ∨ s0 + 2 ≤ b) ∧ b < w5.heap.size) := Lib.hid (fun b hb => ⟨HRe4.out b hb, SE5.out.lt b hb⟩)
  have SW5 := Lib.hid hsw
  have HRw : Hid (∀ b, Rw b → (b < s0 ∨ s0 + 2 ≤ b) ∧ b < w5.heap.size) := Lib.hid (fun b hb => ⟨by
    rcases hRw b hb with h | h
    · exact .inl (HTl.out b h).2
    · right; omega, SW5.out.lt b hb⟩)
  have hs5 : s0 + 2 ≤ w5.heap.size := by have := hb5.size; omega
  obtain ⟨gfw, lbw, hvw, enw, hq1, hq2⟩ := hsw
  clear hq1 hq2
  subst hvw
  have ENW := Lib.hid enw
  have hfn := fun (W : World) (gf : Nat) (cs : Array Value) => run_eql_func_nil (P := Try.prog) W 46 (.func gf) #[] cs Try.underlying46
  clear enw hb5 hRw HB4 HKr4 HKs4 HKu4 HKv4 HR4 SE4 HRe4 HT4 HWc
  go_wp2
  clear hfn
  obtain ⟨W6, hW6⟩ : ∃ W6, W6 = w5.alloc (.cells #[.slice none 0 0] 49) := ⟨_, rfl⟩
  have hb6 : Below w5.heap.size w5 W6 := hW6 ▸ (Below.refl _ _).alloc (Nat.le_refl _) _
  have HKl6 : Hid (Blk W6 w5.heap.size 49 #[.slice none 0 0]) := Lib.hid (hW6 ▸ Blk.new w5 _ _)
  have HB6 := Lib.hid (HB5.out.trans (hb6.mono (by omega)))
  have HKr6 := Lib.hid (HKr5.out.below hb6 HKr5.out.lt)
  have HKs6 := Lib.hid (HKs5.out.below hb6 HKs5.out.lt)
  have HKu6 := Lib.hid (HKu5.out.below hb6 HKu5.out.lt)
  have HKv6 := Lib.hid (HKv5.out.below hb6 HKv5.out.lt)
  have HR6 := Lib.hid (HR5.out.below (hb6.mono (by omega)))
  have SE6 := Lib.hid (SE5.out.stay (Stay.below hb6 SE5.out.lt))
  have SW6 := Lib.hid (SW5.out.stay (Stay.below hb6 SW5.out.lt))
  have hs6 : w5.heap.size < W6.heap.size := HKl6.out.lt
  rw [← hW6]
  clear hW6 hb6 HB5 HKr5 HKs5 HKu5 HKv5 HR5 SE5 SW5
  obtain ⟨xl, hxl⟩ : ∃ xl, xl = w5.heap.size := ⟨_, rfl⟩
  rw [← hxl] at HKl6 hs6 HRe HRw hs5 ⊢
  clear hxl
  go_loopw [42] (fun j wr => ∃ k : Nat, j = .int .i64 k ∧ k ≤ n ∧ Only W6 wr xl ∧ ∃ v, Blk wr xl 49 #[v] ∧ OwnQ wr W6.heap.size v (edgesTo l k)) (fun j _ => n - (intOf j).toNat)
  case atStart => exact ⟨0, rfl, by omega, Only.refl _ _, _, HKl6.out, OwnQ.none_ _ _⟩
  case round =>
    obtain ⟨k, rfl, hk, hO, v, hbx, hown⟩ := hrel
    obtain ⟨w7, rfl⟩ : ∃ w7 : World, w7 = wr := ⟨_, rfl⟩
    have HO := Lib.hid hO
    have HBx := Lib.hid hbx
    have HOw := Lib.hid hown
    clear hO hbx hown
    by_cases hlt : k < n
    · have HKn := Lib.hid hlt
      go_wp2
      go_loopw [15] (fun j wr => ∃ b : Nat, j = .int .i64 b ∧ k + 1 ≤ b ∧ b ≤ n ∧ Only W6 wr xl ∧ ∃ v, Blk wr xl 49 #[v] ∧ OwnQ wr W6.heap.size v (edgesTo l k ++ rowL l k b)) (fun j _ => n - (intOf j).toNat)
      case atStart => exact ⟨k + 1, by go_num, by omega, by omega, HO.out, _, HBx.out, by rw [rowL_start, List.append_nil]; exact HOw.out⟩
      case round =>
        obtain ⟨b, rfl, hb1, hb2, hO, v, hbx, hown⟩ := hrel
        obtain ⟨w8, rfl⟩ : ∃ w8 : World, w8 = wr := ⟨_, rfl⟩
        have HO8 := Lib.hid hO
        have HBx8 := Lib.hid hbx
        have HOw8 := Lib.hid hown
        have hsz8 := hO.size
        clear hO hbx hown
        by_cases hlb : b < n
        · have HN8 := Lib.hid (near_any a n c l k b w8 u (HO8.out.reads HR6.out (by omega) (fun h0 ad e => by
            obtain ⟨ad', e', h1, _⟩ := HR6.out.2 h0
            rw [e] at e'
            injection e' with e'
            subst e'
            omega)) (by omega) hlb)
          have HS := Lib.hid (rowL_succ l (a := k) (j := b) (by omega))
          by_cases hne : nearL l k b = true
          · rw [hne] at HN8
            have HS2 : Hid (rowL l k (b + 1) = rowL l k b ++ [((k : Int), (b : Int))]) := Lib.hid (by rw [HS.out, if_pos hne])
            obtain ⟨A8, c8, rfl, hc8', _⟩ := HOw8.out.reads
            have cl : w8.cell? ⟨xl, 0, none⟩ = some (.slice A8 (edgesTo l k ++ rowL l k b).length c8) := by rw [HBx8.out.cell]; rfl
            have fl : w8.frozen? ⟨xl, 0, none⟩ = false := HBx8.out.frozen 0
            have hlen : (edgesTo l k ++ rowL l k b).length ≤ 2000 := by
              have h1 := edgesTo_len l k
              have h2 := rowL_len l k b
              rw [HL.out] at h1
              rw [List.length_append]
              have h4 : k * n ≤ 32 * 32 := Nat.mul_le_mul (by omega) hn2
              omega
            obtain ⟨E, hE⟩ : ∃ E, E = edgesTo l k ++ rowL l k b := ⟨_, rfl⟩
            rw [← hE] at HOw8 HBx8 hc8' cl hlen
            have HE := Lib.hid hE
            clear hne hE
            go_wp2_with (first
              | (go_at_call 27; refine HN8.out.mono ?_; rintro e w9 ⟨rfl, hw⟩; rw [hw]; clear hw w9)
              | (at_builtin; refine appQ (w8.alloc (.cells #[.int .i64 (k : Int), .int .i64 (b : Int)] 50)) rfl (.tmp 57) (.tmp 61) rfl W6.heap.size _ E rfl (HOw8.out.alloc _) (w8.heap.size + 1) (some ⟨w8.heap.size, 0, none⟩) 1 [((k : Int), (b : Int))] 1 rfl (reads_pair w8 _ _ _) (by omega) (by simp; omega) ?_; intro v9 w9 hown9 hb9 hat9 hg9; have P := push_boxQ HO8.out HBx8.out hs6 HOw8.out hown9 hg9; have cl9 : w9.cell? ⟨xl, 0, none⟩ = some (.slice A8 E.length c8) := by { rw [P.1.2.cell]; rfl }; have fl9 : w9.frozen? ⟨xl, 0, none⟩ = false := P.1.2.frozen 0; obtain ⟨A9, c9, rfl, hc9, _⟩ := hown9.reads; have HP := Lib.hid P.2; clear P hown9 hb9 hat9 hg9 cl fl))
            have e1 : (E ++ [((k : Int), (b : Int))]).length = E.length + 1 := by simp
            have HP2 := HP.out
            rw [e1] at HP2
            obtain ⟨p1, p2, p3⟩ := HP2
            go_roundw
            case rel => exact ⟨b + 1, by go_num, by omega, by omega, p1, _, p2, by rw [HS2.out, ← List.append_assoc, ← HE.out]; exact p3⟩
            case measure => simp [intOf]; omega
          · have hne' : nearL l k b = false := by simpa using hne
            rw [hne'] at HN8
            have HS2 : Hid (rowL l k (b + 1) = rowL l k b) := Lib.hid (by rw [HS.out, if_neg hne])
            clear hne hne'
            go_wp2_with (go_at_call 27; refine HN8.out.mono ?_; rintro e w9 ⟨rfl, hw⟩; rw [hw]; clear hw w9)
            go_roundw
            case rel => exact ⟨b + 1, by go_num, by omega, by omega, HO8.out, _, HBx8.out, by rw [HS2.out]; exact HOw8.out⟩
            case measure => simp [intOf]; omega
        · have hbn : b = n := by omega
          subst hbn
          have HE : Hid (edgesTo l k ++ rowL l k b = edgesTo l (k + 1)) := Lib.hid (by rw [edgesTo_succ, ← rowL_all, HL.out])
          rw [HE.out] at HOw8
          go_wp2
          go_roundw
          case rel => exact ⟨k + 1, by go_num, by have := HKn.out; omega, HO8.out, _, HBx8.out, HOw8.out⟩
          case measure => have := HKn.out; simp [intOf]; omega
    · have hkn : k = n := by omega
      subst hkn
      obtain ⟨AL, cL, rfl, hcL, hrL⟩ := HOw.out.reads
      have HLo := Lib.hid hrL
      have hEl : (edgesTo l k).length ≤ 1024 := by
        have h1 := edgesTo_len l k
        rw [HL.out] at h1
        have h4 : k * k ≤ 32 * 32 := Nat.mul_le_mul hn2 hn2
        omega
      obtain ⟨E, hE⟩ : ∃ E, E = edgesTo l k := ⟨_, rfl⟩
      have HE := Lib.hid hE
      rw [← hE] at HOw HBx HLo hcL hEl
      clear hE hrL
      have SE6' : Hid (SeqE (.func (.func gfe) #[] lbe) E Re W6) := Lib.hid (by rw [HE.out]; have := SE6.out; rwa [HL.out] at this)
      clear SE6
      obtain ⟨W7, hW7⟩ : ∃ W7, W7 = w7.alloc (.cells #[.int .i64 0] 3) := ⟨_, rfl⟩
      have hb7 : Below w7.heap.size w7 W7 := hW7 ▸ (Below.refl _ _).alloc (Nat.le_refl _) _
      have HKn7 : Hid (Blk W7 w7.heap.size 3 #[.int .i64 0]) := Lib.hid (hW7 ▸ Blk.new w7 _ _)
      have hO7 := HO.out
      have hsz7 := hO7.size
      have HKl7 := Lib.hid (HBx.out.below hb7 HBx.out.lt)
      have HLo7 := Lib.hid (HLo.out.below hb7)
      have HKr7 := Lib.hid ((hO7.blk HKr6.out (by omega)).below hb7 (by omega))
      have HKs7 := Lib.hid ((hO7.blk HKs6.out (by omega)).below hb7 (by omega))
      have HKu7 := Lib.hid ((hO7.blk HKu6.out (by omega)).below hb7 (by omega))
      have HKv7 := Lib.hid ((hO7.blk HKv6.out (by omega)).below hb7 (by omega))
      have hR7 := hO7.reads HR6.out (by omega) (fun h0 ad e => by
        obtain ⟨ad', e', h1, _⟩ := HR6.out.2 h0
        rw [e] at e'
        injection e' with e'
        subst e'
        omega)
      have HR7 := Lib.hid (hR7.below (hb7.mono (by omega)))
      have hst7 : ∀ R : Nat → Prop, (∀ b, R b → b < W6.heap.size ∧ b ≠ xl) → Stay R W6 W7 := fun R hR => (Stay.only hO7 hR).trans (Stay.below hb7 (fun b hb => by have := hR b hb; omega))
      have SE7 := Lib.hid (SE6'.out.stay (hst7 Re (fun b hb => by have := HRe.out b hb; omega)))
      have SW7 := Lib.hid (SW6.out.stay (hst7 Rw (fun b hb => by have := HRw.out b hb; omega)))
      have HB7 := Lib.hid ((Only.below HB6.out hO7 (by omega) (by omega)).trans (hb7.mono (by omega)))
      have hA7 : ∀ h0 : 0 < E.length, ∀ ad, AL = some ad → W6.heap.size ≤ ad.block ∧ ad.block < w7.heap.size := fun h0 ad e => by
        subst e
        obtain ⟨ad', e', h1, _⟩ := HLo.out.2 h0
        injection e' with e'
        subst e'
        refine ⟨?_, h1⟩
        rcases HOw.out.2 with ⟨e1, _⟩ | ⟨g', cap, cur, e1, hb', _⟩
        · cases e1
        · injection e1 with e1
          injection e1 with e1
          subst e1; exact hb'
      have HA7 := Lib.hid hA7
      have hs7 : w7.heap.size < W7.heap.size := HKn7.out.lt
      have hn3 : k ≤ 32 := hn2
      go_wp2_with fail
      rw [← hW7]
      clear hW7 hb7 hO7 hR7 hst7 hA7 HO HBx HOw HLo HKr6 HKs6 HKu6 HKv6 HR6 SW6 SE6' HB6 HKl6
      obtain ⟨xn, hxn⟩ : ∃ xn, xn = w7.heap.size := ⟨_, rfl⟩
      rw [← hxn] at HKn7 HLo7 HA7 hs7 hsz7 ⊢
      clear hxn
      obtain ⟨S, hS⟩ : ∃ S : Nat → Prop, S = fun b => b = s0 ∨ b = s0 + 1 ∨ b = xn := ⟨_, rfl⟩
      have S1 : S s0 := by rw [hS]; exact .inl rfl
      have S2 : S (s0 + 1) := by rw [hS]; exact .inr (.inl rfl)
      have S3 : S xn := by rw [hS]; exact .inr (.inr rfl)
      have HSn : Hid (∀ b, b ≠ s0 → b ≠ s0 + 1 → b ≠ xn → ¬ S b) := Lib.hid (fun b h1 h2 h3 h => by rw [hS] at h; rcases h with h | h | h; exact h1 h; exact h2 h; exact h3 h)
      have HSl : Hid (∀ b, S b → s0 ≤ b ∧ b < W7.heap.size) := Lib.hid (fun b h => by rw [hS] at h; rcases h with h | h | h <;> omega)
      have HSr : Hid ((∀ b, Re b → ¬ S b) ∧ ∀ b, Rw b → ¬ S b) := Lib.hid ⟨fun b hb => HSn.out b (by have := HRe.out b hb; omega) (by have := HRe.out b hb; omega) (by have := HRe.out b hb; omega), fun b hb => HSn.out b (by have := HRw.out b hb; omega) (by have := HRw.out b hb; omega) (by have := HRw.out b hb; omega)⟩
      clear hS
      have hp := fun (p q r s : Int) (W : World) => eq_pair p q r s W
      have hbp := fun (p q : Int) (W : World) => build_pair p q W
      refine (wpIn_wide (n := 9)).1 ?_
      refine' range_bound2 (α := Int × Int) (gf := gfe) (pb := #[]) (lb := lbe) rfl ENE.out (SE7.out.at_ _) (fun h k => h.trans k) (stay_b SE7.out.lt) (fun _ => rfl)
        (fun pre W => ((pre <+: E ∧ Blk W xn 3 #[.int .i64 (pre.length : Nat)]) ∧ (∃ p, Blk W s0 3 #[.int .i64 p]) ∧ ∃ p, Blk W (s0 + 1) 3 #[.int .i64 p]) ∧ OnlyS S W7 W)
        (fun px W => ((px.1 <+: E ∧ Blk W xn 3 #[.int .i64 (px.1.length : Nat)]) ∧ Blk W s0 3 #[.int .i64 px.2.1] ∧ Blk W (s0 + 1) 3 #[.int .i64 px.2.2]) ∧ OnlyS S W7 W)
        (fun cc pre W => cc = .ret ∧ ¬ pre <+: E)
        (OwnFrom.and (Own.from (I := fun (pre : List (Int × Int)) W => (pre <+: E ∧ Blk W xn 3 #[.int .i64 (pre.length : Nat)]) ∧ (∃ p, Blk W s0 3 #[.int .i64 p]) ∧ ∃ p, Blk W (s0 + 1) 3 #[.int .i64 p]) (fun s A B row hs hg hr => by
          obtain ⟨⟨h1, h2⟩, ⟨p, h3⟩, r, h4⟩ := hs
          exact ⟨⟨h1, blk_kept h2 hg hr⟩, ⟨p, blk_kept h3 hg hr⟩, r, blk_kept h4 hg hr⟩) _) (own_onlyS W7 S))
        (OwnFrom.and (Own.from (I := fun (px : List (Int × Int) × (Int × Int)) W => (px.1 <+: E ∧ Blk W xn 3 #[.int .i64 (px.1.length : Nat)]) ∧ Blk W s0 3 #[.int .i64 px.2.1] ∧ Blk W (s0 + 1) 3 #[.int .i64 px.2.2]) (fun s A B row hs hg hr => by
          obtain ⟨⟨h1, h2⟩, h3, h4⟩ := hs
          exact ⟨⟨h1, blk_kept h2 hg hr⟩, blk_kept h3 hg hr, blk_kept h4 hg hr⟩) _) (own_onlyS W7 S))
        (fun cc => fun s A B row hs hg hr => hs)
        ⟨⟨⟨⟨E, rfl⟩, HKn7.out⟩, ⟨_, HKu7.out⟩, _, HKv7.out⟩, OnlyS.refl _ _⟩
        _ ?assign ?body ?done ?stop
      case assign =>
        rintro lp pre y V K ⟨⟨⟨hpre, hbn⟩, ⟨p1, hbu⟩, p2, hbv⟩, hO⟩ hlt hK
        have cu : V.cell? ⟨s0, 0, none⟩ = some (.int .i64 p1) := by rw [hbu.cell]; rfl
        have fu : V.frozen? ⟨s0, 0, none⟩ = false := hbu.frozen 0
        have cv : V.cell? ⟨s0 + 1, 0, none⟩ = some (.int .i64 p2) := by rw [hbv.cell]; rfl
        have fv : V.frozen? ⟨s0 + 1, 0, none⟩ = false := hbv.frozen 0
        have HK := Lib.hid hK
        have HBn := Lib.hid hbn
        have HBu := Lib.hid hbu
        have HBv := Lib.hid hbv
        have HOs := Lib.hid hO
        have HPr := Lib.hid hpre
        clear hK hbn hbu hbv hO hpre hlt
        gi_wp2
        refine HK.out _ ?_ ?_ ?_
        · exact (KeepsAll.setCell _ (by have := hsz7; omega) _).trans (KeepsAll.setCell _ (by have := hsz7; omega) _)
        · exact (stay_set (fun h => HSr.out.1 _ h S1)).trans (stay_set (fun h => HSr.out.1 _ h S2))
        · refine ⟨⟨⟨HPr.out, ?_⟩, ?_, ?_⟩, (HOs.out.set S1 _).set S2 _⟩
          · exact (HBn.out.far (p := ⟨s0, 0, none⟩) (by simp; omega) _).far (p := ⟨s0 + 1, 0, none⟩) (by simp; omega) _
          · exact (blk_put HBu.out _).far (p := ⟨s0 + 1, 0, none⟩) (by simp) _
          · exact blk_put (HBv.out.far (p := ⟨s0, 0, none⟩) (by simp) _) _
      case body =>
        rintro lp pre ⟨y1, y2⟩ V hlp hrec ⟨⟨⟨hpre, hbn⟩, hbu, hbv⟩, hO⟩ hlt
        dsimp only at hpre hbn hbu hbv
        have kl := hO.blk HKl7.out (HSn.out _ (by omega) (by omega) (by omega))
        have kr := hO.blk HKr7.out (HSn.out _ (by omega) (by omega) (by omega))
        have krd := hO.reads HLo7.out (by omega) (fun h0 ad e => by have h1 := HA7.out h0 ad e; exact HSn.out _ (by omega) (by omega) (by omega))
        obtain ⟨b, off, rfl, hbb, hcell⟩ := krd.pairs (by omega)
        obtain ⟨q, hq⟩ : ∃ q, q = pre.length := ⟨_, rfl⟩
        rw [← hq] at hbn hlt
        have HQq := Lib.hid hq
        obtain ⟨⟨e1, e2⟩, he⟩ : ∃ p, E[q]? = some p := ⟨_, List.getElem?_eq_getElem hlt⟩
        obtain ⟨c1, c2⟩ := hcell q _ he
        dsimp only at c1 c2
        have HEq := Lib.hid he
        have cn : V.cell? ⟨xn, 0, none⟩ = some (.int .i64 (q : Int)) := by rw [hbn.cell]; rfl
        have fn : V.frozen? ⟨xn, 0, none⟩ = false := hbn.frozen 0
        have cl : V.cell? ⟨xl, 0, none⟩ = some (.slice (some ⟨b, off, none⟩) E.length cL) := by rw [kl.cell]; rfl
        have cr : V.cell? ⟨u + 1, 0, none⟩ = some (.bool false) := by rw [kr.cell]; rfl
        have fr : V.frozen? ⟨u + 1, 0, none⟩ = false := kr.frozen 0
        have cu : V.cell? ⟨s0, 0, none⟩ = some (.int .i64 y1) := by rw [hbu.cell]; rfl
        have cv : V.cell? ⟨s0 + 1, 0, none⟩ = some (.int .i64 y2) := by rw [hbv.cell]; rfl
        have hge : decide (E.length ≤ q) = false := by simp; omega
        have hql : (q : Int) < (E.length : Int) := by omega
        have hq2 : q ≤ 1024 := by omega
        have HBn := Lib.hid hbn
        have HBu := Lib.hid hbu
        have HBv := Lib.hid hbv
        have HOs := Lib.hid hO
        have HPr := Lib.hid hpre
        clear hbn hbu hbv hO hpre hcell krd kl kr he hq
        by_cases hp1 : e1 = y1 ∧ e2 = y2
        · obtain ⟨rfl, rfl⟩ := hp1
          have HI : Hid (pre ++ [(e1, e2)] <+: E) := Lib.hid (by
            obtain ⟨s, hs⟩ := HPr.out
            have h2 := HEq.out
            rw [← hs, HQq.out, List.getElem?_append_right (Nat.le_refl _), Nat.sub_self] at h2
            cases s with
            | nil => simp at h2
            | cons x0 s =>
              simp at h2
              exact ⟨s, by rw [← hs, h2]; simp⟩)
          have tb : (e1 == e1 && e2 == e2) = true := by simp
          gi_wp2
          refine region_quiet_round (F := Fence.wide) rfl (by kernel_rfl) (by kernel_rfl) (by kernel_rfl) ?_
          repeat (gi_big_quiet_step (fail))
          refine wpQuietIn_nil ?_
          rintro _ ⟨nq, rfl⟩
          gi_wp2
          refine ⟨((KeepsAll.refl _ V).drewN nq).trans (KeepsAll.setCell _ hs7 _), (show Stay Re V (V.drewN nq) from ⟨Nat.le_refl _, fun _ _ => rfl⟩).trans (stay_set (fun h => HSr.out.1 _ h S3)), ⟨⟨HI.out, ?_⟩, ⟨e1, ?_⟩, e2, ?_⟩, (HOs.out.drewN nq).set S3 _⟩
          · have := blk_put (HBn.out.drewN nq) (.int .i64 ((q : Int) + 1))
            rw [List.length_append, ← HQq.out]; exact this
          · exact (HBu.out.drewN nq).far (p := ⟨xn, 0, none⟩) (by simp; omega) _
          · exact (HBv.out.drewN nq).far (p := ⟨xn, 0, none⟩) (by simp; omega) _
        · have HI : Hid (¬ pre ++ [(y1, y2)] <+: E) := Lib.hid (by
            rintro ⟨s, hs⟩
            apply hp1
            have h2 := HEq.out
            rw [← hs, HQq.out, List.append_assoc, List.getElem?_append_right (Nat.le_refl _), Nat.sub_self] at h2
            simp at h2
            exact ⟨h2.1.symm, h2.2.symm⟩)
          have tb : (e1 == y1 && e2 == y2) = false := by
            rw [Bool.and_eq_false_iff, beq_eq_false_iff_ne, beq_eq_false_iff_ne]
            by_cases h1 : e1 = y1
            · exact .inr (fun h2 => hp1 ⟨h1, h2⟩)
            · exact .inl h1
          clear hp1
          gi_wp2
          refine region_quiet_round (F := Fence.wide) rfl (by kernel_rfl) (by kernel_rfl) (by kernel_rfl) ?_
          repeat (gi_big_quiet_step (fail))
          refine wpQuietIn_nil ?_
          rintro _ ⟨nq, rfl⟩
          have cr2 : (V.drewN nq).cell? ⟨u + 1, 0, none⟩ = some (.bool false) := cr
          gi_wp2
          exact ⟨((KeepsAll.refl _ V).drewN nq).trans (KeepsAll.setCell _ (by omega) _), rfl, HI.out⟩
      case stop =>
        rintro D2 cc pre V hD2 hpre ⟨rfl, hw⟩ hK
        exact absurd hpre hw
      case done =>
        rintro D1 ys V1 hD1 hys ⟨⟨⟨hpre, hbn⟩, ⟨p1, hbu⟩, p2, hbv⟩, hO⟩ hK
        rw [hys] at hbn
        have hsV1 := hO.size
        have kl := hO.blk HKl7.out (HSn.out _ (by omega) (by omega) (by omega))
        have kr := hO.blk HKr7.out (HSn.out _ (by omega) (by omega) (by omega))
        have ks := hO.blk HKs7.out (HSn.out _ (by omega) (by omega) (by omega))
        have krd := hO.reads HR7.out (by omega) (fun h0 ad e => by
          obtain ⟨ad', e', h1, _⟩ := HR7.out.2 h0
          rw [e] at e'
          injection e' with e'
          subst e'
          exact HSn.out _ (by omega) (by omega) (by omega))
        have ksw := SW7.out.stay (hO.stay (fun b hb => ⟨SW7.out.lt b hb, HSr.out.2 b hb⟩))
        have kbe := OnlyS.bel HB7.out hO (fun b hb => by have := HSl.out b hb; omega) (by omega)
        have kmk := mark1 hD1 hK
        obtain ⟨V2, hV2⟩ : ∃ V2, V2 = V1.alloc (.cells #[.slice none 0 0] 49) := ⟨_, rfl⟩
        have hb2' : Below V1.heap.size V1 V2 := hV2 ▸ (Below.refl _ _).alloc (Nat.le_refl _) _
        have HKa2 : Hid (Blk V2 V1.heap.size 49 #[.slice none 0 0]) := Lib.hid (hV2 ▸ Blk.new V1 _ _)
        have HKr2' := Lib.hid (kr.below hb2' kr.lt)
        have HKs2' := Lib.hid (ks.below hb2' ks.lt)
        have HKn2' := Lib.hid (hbn.below hb2' hbn.lt)
        have HKu2' := Lib.hid (hbu.below hb2' hbu.lt)
        have HKv2' := Lib.hid (hbv.below hb2' hbv.lt)
        have HR2' := Lib.hid (krd.below (hb2'.mono (by omega)))
        have SW2 := Lib.hid (ksw.stay (Stay.below hb2' ksw.lt))
        have HBe2 := Lib.hid (kbe.trans (hb2'.mono (by omega)))
        have HMk2 := Lib.hid (kmk.below hb2')
        have hsV2 : V1.heap.size < V2.heap.size := HKa2.out.lt
        have cn : V1.cell? ⟨xn, 0, none⟩ = some (.int .i64 (E.length : Nat)) := by rw [hbn.cell]; rfl
        have fn1 : V1.frozen? ⟨xn, 0, none⟩ = false := hbn.frozen 0
        have hxn1 : xn < V1.heap.size := hbn.lt
        have cl : V1.cell? ⟨xl, 0, none⟩ = some (.slice AL E.length cL) := by rw [kl.cell]; rfl
        have hWl : (walkI l x).length ≤ 32 := by
          unfold walkI
          split
          · rename_i hv
            have hf : x.toNat < l.length := by omega
            unfold walkQ
            rw [List.length_map]
            exact Nat.le_trans (G.rt.walk_len hf (G.kids x.toNat) hf (by have : distL l x.toNat x.toNat = 0 := dist_self _; omega)) G.few
          · simp
        clear hpre hbn hbu hbv hO hK kl kr ks krd ksw kbe kmk hys HKl7 HKr7 HKs7 HR7 SW7 SE7 HB7 HLo7 HA7 HKn7 HKu7 HKv7
        obtain ⟨xa, hxa⟩ : ∃ xa, xa = V1.heap.size := ⟨_, rfl⟩
        obtain ⟨WL, hWL⟩ : ∃ WL, WL = walkI l x := ⟨_, rfl⟩
        rw [← hWL] at SW2 hWl
        rw [← hxa] at HKa2 hsV2 hsV1
        have HWL := Lib.hid hWL
        have HXa := Lib.hid hxa
        have HRwS : Hid (∀ b, Rw b → b ≠ xa ∧ b ≠ xn) := Lib.hid (fun b hb => by have := HRw.out b hb; omega)
        clear hWL hxa
        rcases Classical.em (0 ≤ x ∧ x < (k : Int)) with hv | hv
        case' inl =>
          obtain ⟨hv1, hv2⟩ := hv
          obtain ⟨f, rfl⟩ : ∃ f : Nat, x = (f : Int) := ⟨x.toNat, by omega⟩
          have hf : f < k := by omega
          have hd0 : distL l f f = 0 := dist_self f
          have hWk := walk_any a k c l G f (by rw [HL.out]; exact hf) k V2 u f (-1) HR2'.out (by omega) hf (by rw [hd0]; omega) (.inl ⟨rfl, rfl⟩)
          rw [hd0] at hWk
          have HWk := Lib.hid hWk
          have HWi : Hid (walkQ l f k f = WL) := Lib.hid (by rw [HWL.out]; unfold walkI; rw [if_pos (by rw [HL.out]; omega), Int.toNat_natCast, HL.out])
          clear hWk hd0
          go_wp2_with fail
          rw [← hV2, ← HXa.out]
          clear hV2 cn cl fn1
          refine HWk.out.mono ?_
          rintro e V3 ⟨va, rfl, howna, hb3⟩
          rw [HWi.out] at howna
          obtain ⟨AA, cA, rfl, hcA, hrA⟩ := howna.reads
          have ka3 := HKa2.out.below hb3 HKa2.out.lt
          have kn3 := HKn2'.out.below hb3 HKn2'.out.lt
          have ca3 : V3.cell? ⟨xa, 0, none⟩ = some (.slice none 0 0) := by rw [ka3.cell]; rfl
          have fa3 : V3.frozen? ⟨xa, 0, none⟩ = false := ka3.frozen 0
          have cn3 : V3.cell? ⟨xn, 0, none⟩ = some (.int .i64 (E.length : Nat)) := by rw [kn3.cell]; rfl
          have fn3 : V3.frozen? ⟨xn, 0, none⟩ = false := kn3.frozen 0
          have hsV3 := hb3.size
          obtain ⟨V5, hV5⟩ : ∃ V5, V5 = (V3.setCell ⟨xa, 0, none⟩ (.slice AA WL.length cA)).setCell ⟨xn, 0, none⟩ (.int .i64 0) := ⟨_, rfl⟩
          have key : ∀ b, b ≠ xa → b ≠ xn → V5.heap[b]? = V3.heap[b]? := fun b h1 h2 => by
            rw [hV5]
            exact (Below.heap_setCell _ ⟨xn, 0, none⟩ _ b (by simpa using h2)).trans (Below.heap_setCell _ ⟨xa, 0, none⟩ _ b (by simpa using h1))
          have hAb : 0 < WL.length → ∀ ad, AA = some ad → V2.heap.size ≤ ad.block := fun h0 ad e => by
            subst e
            rcases howna.2 with ⟨e1, _⟩ | ⟨g', cap, cur, e1, hb', _⟩
            · cases e1
            · injection e1 with e1
              injection e1 with e1
              subst e1; exact hb'
          have hsz5 : V5.heap.size = V3.heap.size := by rw [hV5]; simp [World.setCell]
          have HKa5 : Hid (Blk V5 xa 49 #[.slice AA WL.length cA]) := Lib.hid (by rw [hV5]; exact (blk_put ka3 _).far (p := ⟨xn, 0, none⟩) (by simp; omega) _)
          have HKn5 : Hid (Blk V5 xn 3 #[.int .i64 0]) := Lib.hid (by rw [hV5]; exact blk_put (kn3.far (p := ⟨xa, 0, none⟩) (by simp; omega) _) _)
          have HLo5 : Hid (Reads V5 V5.heap.size 2 AA WL.length (prs WL)) := Lib.hid ⟨hrA.1, fun h0 => by
            obtain ⟨ad, e, h1, h2⟩ := hrA.2 h0
            have h3 := hAb h0 ad e
            exact ⟨ad, e, by omega, fun j u hu => (World.cell?_of_block (key _ (by rw [block_of_add]; omega) (by rw [block_of_add]; omega))).trans (h2 j u hu)⟩⟩
          have HA5 : Hid (0 < WL.length → ∀ ad, AA = some ad → V2.heap.size ≤ ad.block ∧ ad.block < V5.heap.size) := Lib.hid (fun h0 ad e => ⟨hAb h0 ad e, by
            obtain ⟨ad', e', h1, _⟩ := hrA.2 h0
            rw [e] at e'
            injection e' with e'
            subst e'
            omega⟩)
          have HKr5 : Hid (Blk V5 (u + 1) 4 #[.bool false]) := Lib.hid ((key _ (by omega) (by omega)).trans (HKr2'.out.below hb3 HKr2'.out.lt))
          have HKs5 : Hid (Blk V5 u 3 #[.int .i64 z]) := Lib.hid ((key _ (by omega) (by omega)).trans (HKs2'.out.below hb3 HKs2'.out.lt))
          have HKu5 : Hid (Blk V5 s0 3 #[.int .i64 p1]) := Lib.hid ((key _ (by omega) (by omega)).trans (HKu2'.out.below hb3 HKu2'.out.lt))
          have HKv5 : Hid (Blk V5 (s0 + 1) 3 #[.int .i64 p2]) := Lib.hid ((key _ (by omega) (by omega)).trans (HKv2'.out.below hb3 HKv2'.out.lt))
          have SW5 := Lib.hid ((SW2.out.stay (Stay.below hb3 SW2.out.lt)).stay (W := V5) ⟨by omega, fun b hb => key b (HRwS.out b hb).1 (HRwS.out b hb).2⟩)
          have HBe5 : Hid (Below u w V5) := Lib.hid (by
            rw [hV5]
            exact ((HBe2.out.trans (hb3.mono (by omega))).setCell (p := ⟨xa, 0, none⟩) (by simp; omega) _).setCell (p := ⟨xn, 0, none⟩) (by simp; omega) _)
          have HMk5 : Hid (Marks W7.heap.size [{ target := .collected D1, args := #[] }] V5) := Lib.hid (by
            rw [hV5]
            exact ((HMk2.out.below hb3).only ((Only.refl _ _).set _ _) ka3).only ((Only.refl _ _).set _ _) (kn3.far (p := ⟨xa, 0, none⟩) (by simp; omega) _))
          have hV5s : V2.heap.size ≤ V5.heap.size := by omega
          clear key hAb hsz5 ka3 kn3 howna hb3 hrA hcA hf hv1 hv2
          go_wp2_with fail
          rw [← hV5]
          clear hV5 ca3 fa3 cn3 fn3
        case' inr =>
          have HWi : Hid (WL = []) := Lib.hid (by rw [HWL.out]; exact if_neg (by rw [HL.out]; exact hv))
          obtain ⟨AA, hAA⟩ : ∃ AA : Option Addr, AA = none := ⟨_, rfl⟩
          obtain ⟨cA, hcA⟩ : ∃ cA : Nat, cA = 0 := ⟨_, rfl⟩
          have cn2 : V2.cell? ⟨xn, 0, none⟩ = some (.int .i64 (E.length : Nat)) := by rw [HKn2'.out.cell]; rfl
          have fn2 : V2.frozen? ⟨xn, 0, none⟩ = false := HKn2'.out.frozen 0
          obtain ⟨V5, hV5⟩ : ∃ V5, V5 = V2.setCell ⟨xn, 0, none⟩ (.int .i64 0) := ⟨_, rfl⟩
          have hO5 : Only V2 V5 xn := by rw [hV5]; exact (Only.refl _ _).set _ _
          have hsz5 : V5.heap.size = V2.heap.size := by rw [hV5]; simp [World.setCell]
          have HKa5 : Hid (Blk V5 xa 49 #[.slice AA WL.length cA]) := Lib.hid (by rw [hAA, hcA, HWi.out]; exact hO5.blk HKa2.out (by omega))
          have HKn5 : Hid (Blk V5 xn 3 #[.int .i64 0]) := Lib.hid (by rw [hV5]; exact blk_put HKn2'.out _)
          have HLo5 : Hid (Reads V5 V5.heap.size 2 AA WL.length (prs WL)) := Lib.hid (by rw [HWi.out]; exact Reads.none_)
          have HA5 : Hid (0 < WL.length → ∀ ad, AA = some ad → V2.heap.size ≤ ad.block ∧ ad.block < V5.heap.size) := Lib.hid (fun h0 ad e => by rw [HWi.out] at h0; simp at h0)
          have HKr5 := Lib.hid (hO5.blk HKr2'.out (by omega))
          have HKs5 := Lib.hid (hO5.blk HKs2'.out (by omega))
          have HKu5 := Lib.hid (hO5.blk HKu2'.out (by omega))
          have HKv5 := Lib.hid (hO5.blk HKv2'.out (by omega))
          have SW5 := Lib.hid (SW2.out.stay (Stay.only hO5 (fun b hb => ⟨SW2.out.lt b hb, (HRwS.out b hb).2⟩)))
          have HBe5 : Hid (Below u w V5) := Lib.hid (Only.below HBe2.out hO5 (by omega) (by omega))
          have HMk5 : Hid (Marks W7.heap.size [{ target := .collected D1, args := #[] }] V5) := Lib.hid (HMk2.out.only hO5 HKn2'.out)
          have hV5s : V2.heap.size ≤ V5.heap.size := by omega
          have hE : (Value.slice none 0 0) = (.slice AA WL.length cA) := by rw [hAA, hcA, HWi.out]; rfl
          have HV2 : Hid (V5 = (V1.setCell ⟨xn, 0, none⟩ (.int .i64 0)).alloc (.cells #[.slice none 0 0] 49)) := Lib.hid (by
            rw [hV5, hV2]
            exact World.setCell_alloc_past (w := V1) _ xn 0 _ hxn1)
          clear hO5 hsz5 hAA hcA hE hV2 hV5
          rcases Int.lt_or_le x 0 with hx0 | hx0
          case' inl =>
            go_wp2_with fail
            rw [← HV2.out, ← HXa.out]
          case' inr =>
            have hx1 : (k : Int) ≤ x := by omega
            go_wp2_with fail
            rw [← HV2.out, ← HXa.out]
        all_goals
          obtain ⟨hnV5, hlV2, hxnV5⟩ : xa ≠ xn ∧ V1.heap.size < V5.heap.size ∧ xn < V5.heap.size := by have := HXa.out; omega
          obtain ⟨S, hS⟩ : ∃ S : Nat → Prop, S = fun b => b = s0 ∨ b = s0 + 1 ∨ b = xn := ⟨_, rfl⟩
          have S1 : S s0 := by rw [hS]; exact .inl rfl
          have S2 : S (s0 + 1) := by rw [hS]; exact .inr (.inl rfl)
          have S3 : S xn := by rw [hS]; exact .inr (.inr rfl)
          have HSn : Hid (∀ b, b ≠ s0 → b ≠ s0 + 1 → b ≠ xn → ¬ S b) := Lib.hid (fun b h1 h2 h3 h => by rw [hS] at h; rcases h with h | h | h; exact h1 h; exact h2 h; exact h3 h)
          have HSl : Hid (∀ b, S b → s0 ≤ b ∧ b < V5.heap.size) := Lib.hid (fun b h => by rw [hS] at h; rcases h with h | h | h <;> omega)
          have HSr : Hid (True ∧ ∀ b, Rw b → ¬ S b) := Lib.hid ⟨trivial, fun b hb => HSn.out b (by have := HRw.out b hb; omega) (by have := HRw.out b hb; omega) (by have := HRw.out b hb; omega)⟩
          have HSe : Hid (∀ b, S b → b = s0 ∨ b = s0 + 1 ∨ b = xn) := Lib.hid (fun b h => by rw [hS] at h; exact h)
          clear hS
          have hp := fun (p q r s : Int) (W : World) => eq_pair p q r s W
          have hbp := fun (p q : Int) (W : World) => build_pair p q W
          refine (wpIn_wide (n := 9)).1 ?_
          refine' range_bound2 (α := Int × Int) (gf := gfw) (pb := #[]) (lb := lbw) rfl ENW.out (SW5.out.at_ _) (fun h k => h.trans k) (stay_b SW5.out.lt) (fun _ => rfl)
            (fun pre W => ((pre <+: WL ∧ Blk W xn 3 #[.int .i64 (pre.length : Nat)]) ∧ (∃ p, Blk W s0 3 #[.int .i64 p]) ∧ ∃ p, Blk W (s0 + 1) 3 #[.int .i64 p]) ∧ OnlyS S V5 W)
            (fun px W => ((px.1 <+: WL ∧ Blk W xn 3 #[.int .i64 (px.1.length : Nat)]) ∧ Blk W s0 3 #[.int .i64 px.2.1] ∧ Blk W (s0 + 1) 3 #[.int .i64 px.2.2]) ∧ OnlyS S V5 W)
            (fun cc pre W => cc = .ret ∧ ¬ pre <+: WL)
            (OwnFrom.and (Own.from (I := fun (pre : List (Int × Int)) W => (pre <+: WL ∧ Blk W xn 3 #[.int .i64 (pre.length : Nat)]) ∧ (∃ p, Blk W s0 3 #[.int .i64 p]) ∧ ∃ p, Blk W (s0 + 1) 3 #[.int .i64 p]) (fun s A B row hs hg hr => by
              obtain ⟨⟨h1, h2⟩, ⟨p, h3⟩, r, h4⟩ := hs
              exact ⟨⟨h1, blk_kept h2 hg hr⟩, ⟨p, blk_kept h3 hg hr⟩, r, blk_kept h4 hg hr⟩) _) (own_onlyS V5 S))
            (OwnFrom.and (Own.from (I := fun (px : List (Int × Int) × (Int × Int)) W => (px.1 <+: WL ∧ Blk W xn 3 #[.int .i64 (px.1.length : Nat)]) ∧ Blk W s0 3 #[.int .i64 px.2.1] ∧ Blk W (s0 + 1) 3 #[.int .i64 px.2.2]) (fun s A B row hs hg hr => by
              obtain ⟨⟨h1, h2⟩, h3, h4⟩ := hs
              exact ⟨⟨h1, blk_kept h2 hg hr⟩, blk_kept h3 hg hr, blk_kept h4 hg hr⟩) _) (own_onlyS V5 S))
            (fun cc => fun s A B row hs hg hr => hs)
            ⟨⟨⟨⟨WL, rfl⟩, HKn5.out⟩, ⟨_, HKu5.out⟩, _, HKv5.out⟩, OnlyS.refl _ _⟩
            _ ?assign ?body ?done ?stop
          case assign =>
            rintro lp pre y V K ⟨⟨⟨hpre, hbn⟩, ⟨p1, hbu⟩, p2, hbv⟩, hO⟩ hlt hK
            have cu : V.cell? ⟨s0, 0, none⟩ = some (.int .i64 p1) := by rw [hbu.cell]; rfl
            have fu : V.frozen? ⟨s0, 0, none⟩ = false := hbu.frozen 0
            have cv : V.cell? ⟨s0 + 1, 0, none⟩ = some (.int .i64 p2) := by rw [hbv.cell]; rfl
            have fv : V.frozen? ⟨s0 + 1, 0, none⟩ = false := hbv.frozen 0
            have HK := Lib.hid hK
            have HBn := Lib.hid hbn
            have HBu := Lib.hid hbu
            have HBv := Lib.hid hbv
            have HOs := Lib.hid hO
            have HPr := Lib.hid hpre
            clear hK hbn hbu hbv hO hpre hlt
            gi_wp2
            refine HK.out _ ?_ ?_ ?_
            · exact (KeepsAll.setCell _ (by have := hsz7; omega) _).trans (KeepsAll.setCell _ (by have := hsz7; omega) _)
            · exact (stay_set (fun h => HSr.out.2 _ h S1)).trans (stay_set (fun h => HSr.out.2 _ h S2))
            · refine ⟨⟨⟨HPr.out, ?_⟩, ?_, ?_⟩, (HOs.out.set S1 _).set S2 _⟩
              · exact (HBn.out.far (p := ⟨s0, 0, none⟩) (by simp; omega) _).far (p := ⟨s0 + 1, 0, none⟩) (by simp; omega) _
              · exact (blk_put HBu.out _).far (p := ⟨s0 + 1, 0, none⟩) (by simp) _
              · exact blk_put (HBv.out.far (p := ⟨s0, 0, none⟩) (by simp) _) _
          case body =>
            rintro lp pre ⟨y1, y2⟩ V hlp hrec ⟨⟨⟨hpre, hbn⟩, hbu, hbv⟩, hO⟩ hlt
            dsimp only at hpre hbn hbu hbv
            have kl := hO.blk HKa5.out (HSn.out _ (by omega) (by omega) (by omega))
            have kr := hO.blk HKr5.out (HSn.out _ (by omega) (by omega) (by omega))
            have krd := hO.reads HLo5.out (by omega) (fun h0 ad e => by have h1 := HA5.out h0 ad e; exact HSn.out _ (by omega) (by omega) (by omega))
            obtain ⟨b, off, rfl, hbb, hcell⟩ := krd.pairs (by omega)
            obtain ⟨q, hq⟩ : ∃ q, q = pre.length := ⟨_, rfl⟩
            rw [← hq] at hbn hlt
            have HQq := Lib.hid hq
            obtain ⟨⟨e1, e2⟩, he⟩ : ∃ p, WL[q]? = some p := ⟨_, List.getElem?_eq_getElem hlt⟩
            obtain ⟨c1, c2⟩ := hcell q _ he
            dsimp only at c1 c2
            have HWq := Lib.hid he
            have cn : V.cell? ⟨xn, 0, none⟩ = some (.int .i64 (q : Int)) := by rw [hbn.cell]; rfl
            have fn : V.frozen? ⟨xn, 0, none⟩ = false := hbn.frozen 0
            have cl : V.cell? ⟨xa, 0, none⟩ = some (.slice (some ⟨b, off, none⟩) WL.length cA) := by rw [kl.cell]; rfl
            have cr : V.cell? ⟨u + 1, 0, none⟩ = some (.bool false) := by rw [kr.cell]; rfl
            have fr : V.frozen? ⟨u + 1, 0, none⟩ = false := kr.frozen 0
            have cu : V.cell? ⟨s0, 0, none⟩ = some (.int .i64 y1) := by rw [hbu.cell]; rfl
            have cv : V.cell? ⟨s0 + 1, 0, none⟩ = some (.int .i64 y2) := by rw [hbv.cell]; rfl
            have hge : decide (WL.length ≤ q) = false := by simp; omega
            have hql : (q : Int) < (WL.length : Int) := by omega
            have hq2 : q ≤ 32 := by omega
            have HBn := Lib.hid hbn
            have HBu := Lib.hid hbu
            have HBv := Lib.hid hbv
            have HOs := Lib.hid hO
            have HPr := Lib.hid hpre
            clear hbn hbu hbv hO hpre hcell krd kl kr he hq
            by_cases hp1 : e1 = y1 ∧ e2 = y2
            · obtain ⟨rfl, rfl⟩ := hp1
              have HI : Hid (pre ++ [(e1, e2)] <+: WL) := Lib.hid (by
                obtain ⟨s, hs⟩ := HPr.out
                have h2 := HWq.out
                rw [← hs, HQq.out, List.getElem?_append_right (Nat.le_refl _), Nat.sub_self] at h2
                cases s with
                | nil => simp at h2
                | cons x0 s =>
                  simp at h2
                  exact ⟨s, by rw [← hs, h2]; simp⟩)
              have tb : (e1 == e1 && e2 == e2) = true := by simp
              gi_wp2
              refine region_quiet_round (F := Fence.wide) rfl (by kernel_rfl) (by kernel_rfl) (by kernel_rfl) ?_
              repeat (gi_big_quiet_step (fail))
              refine wpQuietIn_nil ?_
              rintro _ ⟨nq, rfl⟩
              gi_wp2
              refine ⟨((KeepsAll.refl _ V).drewN nq).trans (KeepsAll.setCell _ hxnV5 _), (show Stay Rw V (V.drewN nq) from ⟨Nat.le_refl _, fun _ _ => rfl⟩).trans (stay_set (fun h => HSr.out.2 _ h S3)), ⟨⟨HI.out, ?_⟩, ⟨e1, ?_⟩, e2, ?_⟩, (HOs.out.drewN nq).set S3 _⟩
              · have := blk_put (HBn.out.drewN nq) (.int .i64 ((q : Int) + 1))
                rw [List.length_append, ← HQq.out]; exact this
              · exact (HBu.out.drewN nq).far (p := ⟨xn, 0, none⟩) (by simp; omega) _
              · exact (HBv.out.drewN nq).far (p := ⟨xn, 0, none⟩) (by simp; omega) _
            · have HI : Hid (¬ pre ++ [(y1, y2)] <+: WL) := Lib.hid (by
                rintro ⟨s, hs⟩
                apply hp1
                have h2 := HWq.out
                rw [← hs, HQq.out, List.append_assoc, List.getElem?_append_right (Nat.le_refl _), Nat.sub_self] at h2
                simp at h2
                exact ⟨h2.1.symm, h2.2.symm⟩)
              have tb : (e1 == y1 && e2 == y2) = false := by
                rw [Bool.and_eq_false_iff, beq_eq_false_iff_ne, beq_eq_false_iff_ne]
                by_cases h1 : e1 = y1
                · exact .inr (fun h2 => hp1 ⟨h1, h2⟩)
                · exact .inl h1
              clear hp1
              gi_wp2
              refine region_quiet_round (F := Fence.wide) rfl (by kernel_rfl) (by kernel_rfl) (by kernel_rfl) ?_
              repeat (gi_big_quiet_step (fail))
              refine wpQuietIn_nil ?_
              rintro _ ⟨nq, rfl⟩
              have cr2 : (V.drewN nq).cell? ⟨u + 1, 0, none⟩ = some (.bool false) := cr
              gi_wp2
              exact ⟨((KeepsAll.refl _ V).drewN nq).trans (KeepsAll.setCell _ (by omega) _), rfl, HI.out⟩
          case stop =>
            rintro D2 cc pre V hD2 hpre ⟨rfl, hw⟩ hK
            exact absurd hpre hw
          case done =>
            rintro D2 ys V6 hD2 hys ⟨⟨⟨hpre, hbn⟩, ⟨p1, hbu⟩, p2, hbv⟩, hO⟩ hK
            rw [hys] at hbn
            have hsV6 := hO.size
            have kl := hO.blk HKa5.out (HSn.out _ (by omega) (by omega) (by omega))
            have kr := hO.blk HKr5.out (HSn.out _ (by omega) (by omega) (by omega))
            have ks := hO.blk HKs5.out (HSn.out _ (by omega) (by omega) (by omega))
            have ksw := SW5.out.stay (hO.stay (fun b hb => ⟨SW5.out.lt b hb, HSr.out.2 b hb⟩))
            have kbe := OnlyS.bel HBe5.out hO (fun b hb => by have := HSl.out b hb; omega) (by omega)
            have kmk := OnlyS.marks HMk5.out hO (fun b hb => by
              rcases HSe.out b hb with rfl | rfl | rfl
              · exact ⟨_, _, HKu5.out⟩
              · exact ⟨_, _, HKv5.out⟩
              · exact ⟨_, _, HKn5.out⟩)
            have kmk2 : Marks W7.heap.size [{ target := .collected D2, args := #[] }, { target := .collected D1, args := #[] }] V6 := kmk.cons (fun d hd k e => by have := HMk5.out.lt d hd k e; omega) (by omega) hK
            have cn : V6.cell? ⟨xn, 0, none⟩ = some (.int .i64 (WL.length : Nat)) := by rw [hbn.cell]; rfl
            have fn : V6.frozen? ⟨xn, 0, none⟩ = false := hbn.frozen 0
            have cl : V6.cell? ⟨xa, 0, none⟩ = some (.slice AA WL.length cA) := by rw [kl.cell]; rfl
            obtain ⟨V7, hV7⟩ : ∃ V7, V7 = V6.setCell ⟨xn, 0, none⟩ (.int .i64 0) := ⟨_, rfl⟩
            have hO7 : Only V6 V7 xn := by rw [hV7]; exact (Only.refl _ _).set _ _
            have HKn7' : Hid (Blk V7 xn 3 #[.int .i64 0]) := Lib.hid (by rw [hV7]; exact blk_put hbn _)
            have HKa7 := Lib.hid (hO7.blk kl (by omega))
            have HKr7' := Lib.hid (hO7.blk kr (by omega))
            have HKs7' := Lib.hid (hO7.blk ks (by omega))
            have SW7' := Lib.hid (ksw.stay (Stay.only hO7 (fun b hb => ⟨ksw.lt b hb, (HRwS.out b hb).2⟩)))
            have HBe7 := Lib.hid (Only.below kbe hO7 (by omega) (by omega))
            have HMk7 := Lib.hid (kmk2.only hO7 hbn)
            have hsV7 : V5.heap.size ≤ V7.heap.size := by have := hO7.size; omega
            have hxn7 : xn < V7.heap.size := by omega
            clear hpre hbu hbv hO hK kl kr ks ksw kbe kmk kmk2 hys hbn hO7 HKa5 HKr5 HKs5 SW5 HBe5 HMk5 HKu5 HKv5 HKn5 HLo5 HA5 hp hbp
            go_wp2_with fail
            rw [← hV7]
            clear hV7 cn fn cl
            refine (wpIn_wide (n := 9)).1 ?_
            refine' range_bound (α := Int × Int) (gf := gfw) (pb := #[]) (lb := lbw) rfl ENW.out (SW7'.out.at_ _) (fun h k => h.trans k) (stay_b SW7'.out.lt) (fun _ => rfl)
              (fun pre W => ((pre.length = 0 ∨ (pre.length : Int) < z) ∧ Blk W xn 3 #[.int .i64 (pre.length : Nat)]) ∧ Only V7 W xn)
              (fun cc pre W => cc = .exit 8 ∧ ((0 < pre.length ∧ z ≤ (pre.length : Int) ∧ (z < 1 ∨ (pre.length : Int) = z)) ∧ Blk W xn 3 #[.int .i64 (pre.length : Nat)]) ∧ Only V7 W xn)
              (OwnFrom.and (Own.from (I := fun (pre : List (Int × Int)) W => (pre.length = 0 ∨ (pre.length : Int) < z) ∧ Blk W xn 3 #[.int .i64 (pre.length : Nat)]) (fun s A B row hs hg hr => ⟨hs.1, blk_kept hs.2 hg hr⟩) _) (own_only V7 xn))
              (fun cc => fun s A B row hs hg hr => ⟨hs.1, ⟨hs.2.1.1, blk_kept hs.2.1.2 hg (fun r e => (hr r e).2)⟩, own_only (β := Unit) V7 xn () A B row hs.2.2 hg hr⟩)
              ⟨⟨.inl rfl, HKn7'.out⟩, Only.refl _ _⟩
              _ ?assign ?body ?done ?stop
            case assign =>
              intro l x W K hK
              gi_wp2
              exact hK
            case body =>
              rintro lp pre ⟨y1, y2⟩ V hlp hrec ⟨⟨hpz, hbn⟩, hO⟩ hlt
              have ks := hO.blk HKs7'.out (by omega)
              obtain ⟨q, hq⟩ : ∃ q, q = pre.length := ⟨_, rfl⟩
              rw [← hq] at hbn hlt hpz
              have HQq := Lib.hid hq
              have cn : V.cell? ⟨xn, 0, none⟩ = some (.int .i64 (q : Int)) := by rw [hbn.cell]; rfl
              have fn : V.frozen? ⟨xn, 0, none⟩ = false := hbn.frozen 0
              have cs : V.cell? ⟨u, 0, none⟩ = some (.int .i64 z) := by rw [ks.cell]; rfl
              have hq32 : q < 32 := by omega
              have HBn := Lib.hid hbn
              have HOs := Lib.hid hO
              have HPz := Lib.hid hpz
              clear hbn hO hq ks hpz hlt
              by_cases hst : z ≤ (q : Int) + 1
              · gi_wp2
                refine ⟨KeepsAll.setCell _ hxn7 _, rfl, ⟨⟨by simp, by rw [List.length_append, ← HQq.out]; simpa using hst, ?_⟩, ?_⟩, HOs.out.set _ _⟩
                · rw [List.length_append, ← HQq.out]
                  rcases HPz.out with h | h
                  · subst h; simp; omega
                  · right; simp; omega
                · have := blk_put HBn.out (.int .i64 ((q : Int) + 1))
                  rw [List.length_append, ← HQq.out]; exact this
              · have hst' : (q : Int) + 1 < z := by omega
                clear hst
                gi_wp2
                refine ⟨KeepsAll.setCell _ hxn7 _, stay_set (fun h => (HRwS.out _ h).2 rfl), ⟨.inr (by rw [List.length_append, ← HQq.out]; simpa using hst'), ?_⟩, HOs.out.set _ _⟩
                have := blk_put HBn.out (.int .i64 ((q : Int) + 1))
                rw [List.length_append, ← HQq.out]; exact this
            case stop =>
              rintro D3 cc pre V hD3 hpre ⟨rfl, ⟨⟨hp0, hp1, hp2⟩, hbn⟩, hO⟩ hK
              obtain ⟨q, hq⟩ : ∃ q, q = pre.length := ⟨_, rfl⟩
              have hql : q ≤ WL.length := by rw [hq]; exact List.IsPrefix.length_le hpre
              rw [← hq] at hbn hp0 hp1 hp2
              have hsV := hO.size
              have HKa := Lib.hid (hO.blk HKa7.out (by omega))
              have HKr := Lib.hid (hO.blk HKr7'.out (by omega))
              have HKs := Lib.hid (hO.blk HKs7'.out (by omega))
              have HKn := Lib.hid hbn
              have HBe := Lib.hid (Only.below HBe7.out hO (by omega) (by omega))
              have hmk : Marks W7.heap.size [{ target := .collected D3, args := #[] }, { target := .collected D2, args := #[] }, { target := .collected D1, args := #[] }] V := (HMk7.out.only hO HKn7'.out).cons (fun d hd k e => by have := HMk7.out.lt d hd k e; omega) (by omega) hK
              have HMk := Lib.hid hmk
              have HVs : Hid (W7.heap.size ≤ V.heap.size) := Lib.hid (by omega)
              clear hmk
              have HQz : Hid (1 ≤ z → (q : Int) = z) := Lib.hid (fun h => by omega)
              clear hp0 hp1 hp2 hpre hq hbn hO hK
              have cr : V.cell? ⟨u + 1, 0, none⟩ = some (.bool false) := by rw [HKr.out.cell]; rfl
              have fr : V.frozen? ⟨u + 1, 0, none⟩ = false := HKr.out.frozen 0
              have cs : V.cell? ⟨u, 0, none⟩ = some (.int .i64 z) := by rw [HKs.out.cell]; rfl
              have cl : V.cell? ⟨xa, 0, none⟩ = some (.slice AA WL.length cA) := by rw [HKa.out.cell]; rfl
              have cn : V.cell? ⟨xn, 0, none⟩ = some (.int .i64 (q : Nat)) := by rw [HKn.out.cell]; rfl
              have hVs : W7.heap.size ≤ V.heap.size := by have := HVs.out; omega
              rcases Int.lt_or_le z 1 with hz1 | hz1
              · refine wpIn_wide.2 ?_
                go_wp2
                have hO2 : Only V (V.setCell ⟨u + 1, 0, none⟩ (.bool true)) (u + 1) := (Only.refl _ _).set _ _
                have hk2 : Blk (V.setCell ⟨u + 1, 0, none⟩ (.bool true)) (u + 1) 4 #[.bool true] := blk_put HKr.out _
                refine Marks.leave (B := W7.heap.size) _ _ (HMk.out.only hO2 HKr.out) (fun W' hb => ?_)
                have c5 : W'.cell? ⟨u + 1, 0, none⟩ = some (.bool true) := by rw [hb.cell (p := ⟨u + 1, 0, none⟩) (show u + 1 < W7.heap.size by omega), hk2.cell]; rfl
                refine ⟨.bool true, by simp [results, Try.f6, go_sem, c5], rfl, ?_⟩
                rw [← HU.out]
                exact (Only.below HBe.out hO2 (by omega) (by omega)).trans (hb.mono (by omega))
              · have hmin : (q : Int) = min z (WL.length : Int) := by have := HQz.out; omega
                have km := run_min2 Try.prog #[3, 3] 3 z (WL.length : Int) (q : Int) hmin
                clear hmin
                refine wpIn_wide.2 ?_
                go_wp2
                have hO2 : Only V (V.setCell ⟨u + 1, 0, none⟩ (.bool true)) (u + 1) := (Only.refl _ _).set _ _
                have hk2 : Blk (V.setCell ⟨u + 1, 0, none⟩ (.bool true)) (u + 1) 4 #[.bool true] := blk_put HKr.out _
                refine Marks.leave (B := W7.heap.size) _ _ (HMk.out.only hO2 HKr.out) (fun W' hb => ?_)
                have c5 : W'.cell? ⟨u + 1, 0, none⟩ = some (.bool true) := by rw [hb.cell (p := ⟨u + 1, 0, none⟩) (show u + 1 < W7.heap.size by omega), hk2.cell]; rfl
                refine ⟨.bool true, by simp [results, Try.f6, go_sem, c5], rfl, ?_⟩
                rw [← HU.out]
                exact (Only.below HBe.out hO2 (by omega) (by omega)).trans (hb.mono (by omega))
            case done =>
              rintro D3 zs V hD3 hzs ⟨⟨hpz, hbn⟩, hO⟩ hK
              obtain ⟨q, hq⟩ : ∃ q, q = zs.length := ⟨_, rfl⟩
              have hql : q ≤ WL.length := by rw [hq, hzs]; exact Nat.le_refl _
              have hqe : q = WL.length := by rw [hq, hzs]
              rw [← hq] at hbn hpz
              have hsV := hO.size
              have HKa := Lib.hid (hO.blk HKa7.out (by omega))
              have HKr := Lib.hid (hO.blk HKr7'.out (by omega))
              have HKs := Lib.hid (hO.blk HKs7'.out (by omega))
              have HKn := Lib.hid hbn
              have HBe := Lib.hid (Only.below HBe7.out hO (by omega) (by omega))
              have hmk : Marks W7.heap.size [{ target := .collected D3, args := #[] }, { target := .collected D2, args := #[] }, { target := .collected D1, args := #[] }] V := (HMk7.out.only hO HKn7'.out).cons (fun d hd k e => by have := HMk7.out.lt d hd k e; omega) (by omega) hK
              have HMk := Lib.hid hmk
              have HVs : Hid (W7.heap.size ≤ V.heap.size) := Lib.hid (by omega)
              clear hmk
              have HQz : Hid (1 ≤ z → (q : Int) = z ∨ ((q : Int) = (WL.length : Int) ∧ (q : Int) ≤ z)) := Lib.hid (fun h => by omega)
              clear hpz hzs hq hbn hO hK hqe
              have cr : V.cell? ⟨u + 1, 0, none⟩ = some (.bool false) := by rw [HKr.out.cell]; rfl
              have fr : V.frozen? ⟨u + 1, 0, none⟩ = false := HKr.out.frozen 0
              have cs : V.cell? ⟨u, 0, none⟩ = some (.int .i64 z) := by rw [HKs.out.cell]; rfl
              have cl : V.cell? ⟨xa, 0, none⟩ = some (.slice AA WL.length cA) := by rw [HKa.out.cell]; rfl
              have cn : V.cell? ⟨xn, 0, none⟩ = some (.int .i64 (q : Nat)) := by rw [HKn.out.cell]; rfl
              have hVs : W7.heap.size ≤ V.heap.size := by have := HVs.out; omega
              rcases Int.lt_or_le z 1 with hz1 | hz1
              · go_wp2
                have hO2 : Only V (V.setCell ⟨u + 1, 0, none⟩ (.bool true)) (u + 1) := (Only.refl _ _).set _ _
                have hk2 : Blk (V.setCell ⟨u + 1, 0, none⟩ (.bool true)) (u + 1) 4 #[.bool true] := blk_put HKr.out _
                refine Marks.leave (B := W7.heap.size) _ _ (HMk.out.only hO2 HKr.out) (fun W' hb => ?_)
                have c5 : W'.cell? ⟨u + 1, 0, none⟩ = some (.bool true) := by rw [hb.cell (p := ⟨u + 1, 0, none⟩) (show u + 1 < W7.heap.size by omega), hk2.cell]; rfl
                refine ⟨.bool true, by simp [results, Try.f6, go_sem, c5], rfl, ?_⟩
                rw [← HU.out]
                exact (Only.below HBe.out hO2 (by omega) (by omega)).trans (hb.mono (by omega))
              · have hmin : (q : Int) = min z (WL.length : Int) := by have := HQz.out; omega
                have km := run_min2 Try.prog #[3, 3] 3 z (WL.length : Int) (q : Int) hmin
                clear hmin
                go_wp2
                have hO2 : Only V (V.setCell ⟨u + 1, 0, none⟩ (.bool true)) (u + 1) := (Only.refl _ _).set _ _
                have hk2 : Blk (V.setCell ⟨u + 1, 0, none⟩ (.bool true)) (u + 1) 4 #[.bool true] := blk_put HKr.out _
                refine Marks.leave (B := W7.heap.size) _ _ (HMk.out.only hO2 HKr.out) (fun W' hb => ?_)
                have c5 : W'.cell? ⟨u + 1, 0, none⟩ = some (.bool true) := by rw [hb.cell (p := ⟨u + 1, 0, none⟩) (show u + 1 < W7.heap.size by omega), hk2.cell]; rfl
                refine ⟨.bool true, by simp [results, Try.f6, go_sem, c5], rfl, ?_⟩
                rw [← HU.out]
                exact (Only.below HBe.out hO2 (by omega) (by omega)).trans (hb.mono (by omega))
end Go.Proofs.Ytadfcinfnbfefaa.Pk
