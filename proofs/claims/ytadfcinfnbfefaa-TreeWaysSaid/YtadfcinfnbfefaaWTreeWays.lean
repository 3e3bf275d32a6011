/- The walk of the law TreeWays. -/
import Derived.Test.YtadfcinfnbfefaaTrWays2
import Derived.Test.YtadfcinfnbfefaaArgE
namespace Go.Proofs.Ytadfcinfnbfefaa.Pk
open Go.RowKit Go.Shelf Go.Proofs.Ytadfcinfnbfefaa.Gr Go.Proofs.Ytadfcinfnbfefaa.Ar
set_option linter.unusedVariables false
attribute [local go_sem] Oper.semAt_some

set_option maxRecDepth 100000 in
set_option maxHeartbeats 8000000 in
theorem law_TreeWays (a : Option Addr) (n c : Nat) (l : List Int) (x y z : Int) (w : World) (h : ArgN w a n c l) (hx : -9223372036854775808 ≤ x ∧ x ≤ 9223372036854775807) (hy : -9223372036854775808 ≤ y ∧ y ≤ 9223372036854775807) (hz : -9223372036854775808 ≤ z ∧ z ≤ 9223372036854775807) :
    Calls Try.prog 7 #[.slice a n c, .agg #[.int .i64 x, .int .i64 y, .int .i64 z]] w fun e w' => e = .returned (.bool true) ∧ Below w.heap.size w w' := by
  obtain ⟨hr, hnc, hc8, _⟩ := h
  have hbig : n ≤ 4611686018427387904 := by omega
  have HR := Lib.hid hr
  have HL := Lib.hid hr.plen
  clear hr hx hy hz
  refine (callsIn_wide (n := 9)).1 ?_
  refine callsIn_of_wp_marks Try.func7 rfl trivial ?_ rfl
  simp only [Try.ntmps7, List.size_toArray, List.length_cons, List.length_nil, Nat.reduceAdd, Nat.reduceSub, Array.replicate_succ, Array.replicate_zero, List.push_toArray, List.append_toArray, List.nil_append, List.cons_append]
  refine wpIn_wide.2 ?_
  go_wp2
  go_quiet (fail)
  obtain ⟨u, hu⟩ : ∃ u, u = w.heap.size := ⟨_, rfl⟩
  obtain ⟨W0, hW0⟩ : ∃ W0, W0 = ((w.alloc (.cells #[.int .i64 x, .int .i64 y, .int .i64 z] 40)).alloc (.cells #[.bool false] 4)).drewN nq := ⟨_, rfl⟩
  have hb0 : Below u w W0 := by
    rw [hW0, hu]
    exact bel_dn (((Below.refl _ w).alloc (Nat.le_refl _) _).alloc (by simp) _) nq
  have kr : Blk W0 (u + 1) 4 #[.bool false] := by
    have := Blk.new (w.alloc (.cells #[.int .i64 x, .int .i64 y, .int .i64 z] 40)) 4 #[.bool false]
    rw [World.size_alloc, ← hu] at this
    rw [hW0]; exact this
  rw [← hW0, ← hu]
  have HU := Lib.hid hu
  have HB0 := Lib.hid hb0
  have HKr0 := Lib.hid kr
  have hs0 : u + 2 ≤ W0.heap.size := kr.lt
  rw [← hu] at HR
  clear hW0 hb0 kr hu
  go_wp2_with fail
  refine (wakes_any _).mono ?_
  rintro e w1 ⟨rfl, hb1⟩
  have HB1 := Lib.hid (HB0.out.trans (hb1.mono (by omega)))
  have HKr1 := Lib.hid (HKr0.out.below hb1 HKr0.out.lt)
  have HR1 := Lib.hid (HR.out.below HB1.out)
  have hs1 : u + 2 ≤ w1.heap.size := Nat.le_trans hs0 hb1.size
  clear hb1 HKr0 HB0
  go_wp2_with fail
  refine (new_any a n c l w1 _ HR1.out (by omega) hbig).mono ?_
  rintro e w2 ⟨hb2, ⟨T, g, rfl, hc2, ht2, hTl, hgl, _⟩ | ⟨p2, e2, rfl, hc2, hne⟩⟩
  case inr =>
    have hsz2 := hb2.size
    have HB2 := Lib.hid (HB1.out.trans (hb2.mono (by omega)))
    have HKr2 := Lib.hid (HKr1.out.below hb2 HKr1.out.lt)
    have fr : w2.frozen? ⟨u + 1, 0, none⟩ = false := HKr2.out.frozen 0
    have cr : w2.cell? ⟨u + 1, 0, none⟩ = some (.bool false) := by rw [HKr2.out.cell]; rfl
    have t1 : (e2 != 0) = true := by simp [hne]
    clear hb2 hc2 hne
    go_wp2
    refine Marks.leave (B := w2.heap.size) [] _ trivial (fun W' hb => ?_)
    have hk : Blk (w2.setCell ⟨u + 1, 0, none⟩ (.bool true)) (u + 1) 4 #[.bool true] := blk_put HKr2.out _
    have c5 : W'.cell? ⟨u + 1, 0, none⟩ = some (.bool true) := by rw [hb.cell (p := ⟨u + 1, 0, none⟩) HKr2.out.lt, hk.cell]; rfl
    refine ⟨.bool true, by simp [results, Try.f7, go_sem, c5], rfl, ?_⟩
    rw [← HU.out]
    exact ((HB2.out.setCell (p := ⟨u + 1, 0, none⟩) (by simp) _).trans (hb.mono (by omega)))
  obtain ⟨G, _⟩ := hc2.good
  have hn : 0 < n ∧ n ≤ 32 := by rw [← HL.out]; exact ⟨G.pos, G.few⟩
  obtain ⟨hn1, hn2⟩ := hn
  obtain ⟨W3, hW3⟩ : ∃ W3, W3 = w2.alloc (.cells #[.int .i64 (n : Int)] 3) := ⟨_, rfl⟩
  have hb3 : Below w2.heap.size w2 W3 := hW3 ▸ (Below.refl _ _).alloc (Nat.le_refl _) _
  have HKn3 : Hid (Blk W3 w2.heap.size 3 #[.int .i64 (n : Int)]) := Lib.hid (hW3 ▸ Blk.new w2 _ _)
  have hs2 : u + 2 ≤ w2.heap.size := Nat.le_trans hs1 hb2.size
  have HT3 := Lib.hid (ht2.below_ hb3)
  have HTl : Hid (∀ b, TrB T g b → u + 2 ≤ b ∧ b < w2.heap.size) := Lib.hid (fun b hb => by
    have h1 := ht2.lt b hb
    rcases hb with rfl | rfl <;> omega)
  have HB3 := Lib.hid ((HB1.out.trans (hb2.mono (by omega))).trans (hb3.mono (by omega)))
  have HKr3 := Lib.hid ((HKr1.out.below hb2 HKr1.out.lt).below hb3 (by omega))
  have HR3 := Lib.hid ((HR1.out.below (hb2.mono (by omega))).below (hb3.mono (by omega)))
  have hs3 : w2.heap.size < W3.heap.size := HKn3.out.lt
  have cr : W3.cell? ⟨u + 1, 0, none⟩ = some (.bool false) := by rw [HKr3.out.cell]; rfl
  have fr : W3.frozen? ⟨u + 1, 0, none⟩ = false := HKr3.out.frozen 0
  have HNil := Lib.hid (nbrs_any T g l (-1) W3 HT3.out G.few)
  have HNe : Hid (nbsI l (-1) = []) := Lib.hid (if_neg (by omega))
  rw [HNe.out] at HNil
  clear ht2 hb2 hc2 HB1 HKr1 HR1 hb3
  rcases Int.lt_or_le x 0 with hx0 | hx0
  · go_wp2_with fail
    rw [← hW3]
    refine HNil.out.mono ?_
    rintro e w4 ⟨v4, rfl, hown4, hb4⟩
    obtain ⟨A4, c4, rfl, _, _⟩ := hown4.reads
    have HKr4 := Lib.hid (HKr3.out.below hb4 HKr3.out.lt)
    have cr4 : w4.cell? ⟨u + 1, 0, none⟩ = some (.bool false) := by rw [HKr4.out.cell]; rfl
    have fr4 : w4.frozen? ⟨u + 1, 0, none⟩ = false := HKr4.out.frozen 0
    have HB4 := Lib.hid (HB3.out.trans (hb4.mono (by omega)))
    have hsz4 := hb4.size
    clear hown4 hb4
    go_wp2
    refine Marks.leave (B := w4.heap.size) [] _ trivial (fun W' hb => ?_)
    have hk : Blk (w4.setCell ⟨u + 1, 0, none⟩ (.bool true)) (u + 1) 4 #[.bool true] := blk_put HKr4.out _
    have c5 : W'.cell? ⟨u + 1, 0, none⟩ = some (.bool true) := by rw [hb.cell (p := ⟨u + 1, 0, none⟩) HKr4.out.lt, hk.cell]; rfl
    refine ⟨.bool true, by simp [results, Try.f7, go_sem, c5], rfl, ?_⟩
    rw [← HU.out]
    exact ((HB4.out.setCell (p := ⟨u + 1, 0, none⟩) (by simp) _).trans (hb.mono (by omega)))
  rcases Int.lt_or_le x (n : Int) with hx1 | hx1
  rotate_left
  · go_wp2_with fail
    rw [← hW3]
    refine HNil.out.mono ?_
    rintro e w4 ⟨v4, rfl, hown4, hb4⟩
    obtain ⟨A4, c4, rfl, _, _⟩ := hown4.reads
    have HKr4 := Lib.hid (HKr3.out.below hb4 HKr3.out.lt)
    have cr4 : w4.cell? ⟨u + 1, 0, none⟩ = some (.bool false) := by rw [HKr4.out.cell]; rfl
    have fr4 : w4.frozen? ⟨u + 1, 0, none⟩ = false := HKr4.out.frozen 0
    have HB4 := Lib.hid (HB3.out.trans (hb4.mono (by omega)))
    have hsz4 := hb4.size
    clear hown4 hb4
    go_wp2
    refine Marks.leave (B := w4.heap.size) [] _ trivial (fun W' hb => ?_)
    have hk : Blk (w4.setCell ⟨u + 1, 0, none⟩ (.bool true)) (u + 1) 4 #[.bool true] := blk_put HKr4.out _
    have c5 : W'.cell? ⟨u + 1, 0, none⟩ = some (.bool true) := by rw [hb.cell (p := ⟨u + 1, 0, none⟩) HKr4.out.lt, hk.cell]; rfl
    refine ⟨.bool true, by simp [results, Try.f7, go_sem, c5], rfl, ?_⟩
    rw [← HU.out]
    exact ((HB4.out.setCell (p := ⟨u + 1, 0, none⟩) (by simp) _).trans (hb.mono (by omega)))
  rcases Int.lt_or_le y 0 with hy0 | hy0
  · go_wp2_with fail
    rw [← hW3]
    refine HNil.out.mono ?_
    rintro e w4 ⟨v4, rfl, hown4, hb4⟩
    obtain ⟨A4, c4, rfl, _, _⟩ := hown4.reads
    have HKr4 := Lib.hid (HKr3.out.below hb4 HKr3.out.lt)
    have cr4 : w4.cell? ⟨u + 1, 0, none⟩ = some (.bool false) := by rw [HKr4.out.cell]; rfl
    have fr4 : w4.frozen? ⟨u + 1, 0, none⟩ = false := HKr4.out.frozen 0
    have HB4 := Lib.hid (HB3.out.trans (hb4.mono (by omega)))
    have hsz4 := hb4.size
    clear hown4 hb4
    go_wp2
    refine Marks.leave (B := w4.heap.size) [] _ trivial (fun W' hb => ?_)
    have hk : Blk (w4.setCell ⟨u + 1, 0, none⟩ (.bool true)) (u + 1) 4 #[.bool true] := blk_put HKr4.out _
    have c5 : W'.cell? ⟨u + 1, 0, none⟩ = some (.bool true) := by rw [hb.cell (p := ⟨u + 1, 0, none⟩) HKr4.out.lt, hk.cell]; rfl
    refine ⟨.bool true, by simp [results, Try.f7, go_sem, c5], rfl, ?_⟩
    rw [← HU.out]
    exact ((HB4.out.setCell (p := ⟨u + 1, 0, none⟩) (by simp) _).trans (hb.mono (by omega)))
  rcases Int.lt_or_le y (n : Int) with hy1 | hy1
  rotate_left
  · go_wp2_with fail
    rw [← hW3]
    refine HNil.out.mono ?_
    rintro e w4 ⟨v4, rfl, hown4, hb4⟩
    obtain ⟨A4, c4, rfl, _, _⟩ := hown4.reads
    have HKr4 := Lib.hid (HKr3.out.below hb4 HKr3.out.lt)
    have cr4 : w4.cell? ⟨u + 1, 0, none⟩ = some (.bool false) := by rw [HKr4.out.cell]; rfl
    have fr4 : w4.frozen? ⟨u + 1, 0, none⟩ = false := HKr4.out.frozen 0
    have HB4 := Lib.hid (HB3.out.trans (hb4.mono (by omega)))
    have hsz4 := hb4.size
    clear hown4 hb4
    go_wp2
    refine Marks.leave (B := w4.heap.size) [] _ trivial (fun W' hb => ?_)
    have hk : Blk (w4.setCell ⟨u + 1, 0, none⟩ (.bool true)) (u + 1) 4 #[.bool true] := blk_put HKr4.out _
    have c5 : W'.cell? ⟨u + 1, 0, none⟩ = some (.bool true) := by rw [hb.cell (p := ⟨u + 1, 0, none⟩) HKr4.out.lt, hk.cell]; rfl
    refine ⟨.bool true, by simp [results, Try.f7, go_sem, c5], rfl, ?_⟩
    rw [← HU.out]
    exact ((HB4.out.setCell (p := ⟨u + 1, 0, none⟩) (by simp) _).trans (hb.mono (by omega)))
  rcases Int.lt_or_le z 0 with hz0 | hz0
  · go_wp2_with fail
    rw [← hW3]
    refine HNil.out.mono ?_
    rintro e w4 ⟨v4, rfl, hown4, hb4⟩
    obtain ⟨A4, c4, rfl, _, _⟩ := hown4.reads
    have HKr4 := Lib.hid (HKr3.out.below hb4 HKr3.out.lt)
    have cr4 : w4.cell? ⟨u + 1, 0, none⟩ = some (.bool false) := by rw [HKr4.out.cell]; rfl
    have fr4 : w4.frozen? ⟨u + 1, 0, none⟩ = false := HKr4.out.frozen 0
    have HB4 := Lib.hid (HB3.out.trans (hb4.mono (by omega)))
    have hsz4 := hb4.size
    clear hown4 hb4
    go_wp2
    refine Marks.leave (B := w4.heap.size) [] _ trivial (fun W' hb => ?_)
    have hk : Blk (w4.setCell ⟨u + 1, 0, none⟩ (.bool true)) (u + 1) 4 #[.bool true] := blk_put HKr4.out _
    have c5 : W'.cell? ⟨u + 1, 0, none⟩ = some (.bool true) := by rw [hb.cell (p := ⟨u + 1, 0, none⟩) HKr4.out.lt, hk.cell]; rfl
    refine ⟨.bool true, by simp [results, Try.f7, go_sem, c5], rfl, ?_⟩
    rw [← HU.out]
    exact ((HB4.out.setCell (p := ⟨u + 1, 0, none⟩) (by simp) _).trans (hb.mono (by omega)))
  rcases Int.lt_or_le z (n : Int) with hz1 | hz1
  rotate_left
  · go_wp2_with fail
    rw [← hW3]
    refine HNil.out.mono ?_
    rintro e w4 ⟨v4, rfl, hown4, hb4⟩
    obtain ⟨A4, c4, rfl, _, _⟩ := hown4.reads
    have HKr4 := Lib.hid (HKr3.out.below hb4 HKr3.out.lt)
    have cr4 : w4.cell? ⟨u + 1, 0, none⟩ = some (.bool false) := by rw [HKr4.out.cell]; rfl
    have fr4 : w4.frozen? ⟨u + 1, 0, none⟩ = false := HKr4.out.frozen 0
    have HB4 := Lib.hid (HB3.out.trans (hb4.mono (by omega)))
    have hsz4 := hb4.size
    clear hown4 hb4
    go_wp2
    refine Marks.leave (B := w4.heap.size) [] _ trivial (fun W' hb => ?_)
    have hk : Blk (w4.setCell ⟨u + 1, 0, none⟩ (.bool true)) (u + 1) 4 #[.bool true] := blk_put HKr4.out _
    have c5 : W'.cell? ⟨u + 1, 0, none⟩ = some (.bool true) := by rw [hb.cell (p := ⟨u + 1, 0, none⟩) HKr4.out.lt, hk.cell]; rfl
    refine ⟨.bool true, by simp [results, Try.f7, go_sem, c5], rfl, ?_⟩
    rw [← HU.out]
    exact ((HB4.out.setCell (p := ⟨u + 1, 0, none⟩) (by simp) _).trans (hb.mono (by omega)))
  go_wp2_with (refine makeBl _ rfl (.tmp 66) (.tmp 66) rfl .i64 .i64 _ _ n rfl rfl rfl rfl (by omega) ?_; intro w4 hb4 hbel4)
  obtain ⟨s, hs⟩ : ∃ s, s = w2.heap.size := ⟨_, rfl⟩
  obtain ⟨W4, hW4⟩ : ∃ W4, W4 = (W3.alloc (.cells #[.slice none 0 0] 22)).alloc (.cells #[.slice none 0 0] 22) := ⟨_, rfl⟩
  rw [← hW3, ← hW4] at hb4 hbel4
  have hsz3 : W3.heap.size = s + 1 := by rw [hW3, World.size_alloc, hs]
  have hsz4 : W4.heap.size = s + 3 := by rw [hW4, World.size_alloc, World.size_alloc, hsz3]
  rw [hsz4] at hb4 hbel4
  have hb34 : Below W3.heap.size W3 W4 := hW4 ▸ ((Below.refl _ _).alloc (Nat.le_refl _) _).alloc (by simp) _
  have kw4 : Blk W4 (s + 1) 22 #[.slice none 0 0] := by rw [hW4, ← hsz3]; exact (Blk.new W3 _ _).alloc _
  have kb4 : Blk W4 (s + 2) 22 #[.slice none 0 0] := by
    have := Blk.new (W3.alloc (.cells #[.slice none 0 0] 22)) 22 #[.slice none 0 0]
    rw [World.size_alloc, hsz3] at this
    rw [hW4]; exact this
  obtain ⟨W5, hW5⟩ : ∃ W5, W5 = w4.alloc (.cells #[.slice (some ⟨s + 3, 0, none⟩) n n] 52) := ⟨_, rfl⟩
  have hsw4 : s + 3 < w4.heap.size := Blk.lt hb4
  have hb45 : Below (s + 3) W4 W5 := by rw [hW5]; exact hbel4.alloc (by omega) _
  have hsb5 : w4.heap.size < W5.heap.size := by rw [hW5]; simp
  have HSe5 : Hid (BlkB W5 (s + 3) (seenB n [])) := Lib.hid (by rw [hW5, seenB_nil]; exact Blk.alloc hb4 _)
  have HXs5 : Hid (Blk W5 w4.heap.size 52 #[.slice (some ⟨s + 3, 0, none⟩) n n]) := Lib.hid (hW5 ▸ Blk.new w4 _ _)
  have HKw5 := Lib.hid (kw4.below hb45 (by omega))
  have HKb5 := Lib.hid (kb4.below hb45 (by omega))
  have hb35 : Below W3.heap.size W3 W5 := hb34.trans (hb45.mono (by omega))
  have HKn5 := Lib.hid (HKn3.out.below hb35 HKn3.out.lt)
  have HKr5 := Lib.hid (HKr3.out.below hb35 HKr3.out.lt)
  have HT5 := Lib.hid (HT3.out.below_ hb35)
  have HB5 := Lib.hid (HB3.out.trans (hb35.mono (by omega)))
  have HR5 := Lib.hid (HR3.out.below (hb35.mono (by omega)))
  have hus : u + 2 ≤ s := by omega
  obtain ⟨xs, hxs⟩ : ∃ xs, xs = w4.heap.size := ⟨_, rfl⟩
  rw [← hs] at HKn5 HTl
  rw [← hxs] at HXs5 hsw4 hsb5
  obtain ⟨p, rfl⟩ : ∃ p : Nat, x = (p : Int) := ⟨x.toNat, by omega⟩
  obtain ⟨q, rfl⟩ : ∃ q : Nat, y = (q : Int) := ⟨y.toNat, by omega⟩
  obtain ⟨r, rfl⟩ : ∃ r : Nat, z = (r : Int) := ⟨z.toNat, by omega⟩
  have HPn : Hid (p < l.length ∧ q < l.length ∧ r < l.length) := Lib.hid (by rw [HL.out]; omega)
  rw [← hs, ← hxs]
  have e5 : W5 = w4.alloc (.cells #[.slice (some ⟨s + 1 + 1 + 1, 0, none⟩) n n] 52) := hW5
  rw [← e5]
  clear hb4 hbel4 hW4 hb34 kw4 kb4 hW5 hb45 hb35 hs hxs e5 hW3 HKn3 HKr3 HT3 HB3 HR3 cr fr HNil hs2 hs3 hTl hgl hx0 hy0 hz0 hx1 hy1 hz1 hsz3 hsz4
  refine (path_codeM T g l (p : Int) (q : Int) W5 HT5.out G).mono ?_
  rintro e W6 ⟨v, R, rfl, hsq, hb6, hR⟩
  have SQ6 : Hid (SeqM v (pathI l (p : Int) (q : Int)) R W6) := Lib.hid hsq
  obtain ⟨gf, lb, rfl, en, hRl, hq6⟩ := hsq
  have EN := Lib.hid en
  have HRx : Hid (∀ b, R b → b ≠ s + 1 ∧ b ≠ s + 3 ∧ b ≠ s + 2 ∧ b < W6.heap.size) := Lib.hid (fun b hb => by
    have h1 := SQ6.out.lt b hb
    rcases hR b hb with h | h
    · have := HTl.out b h; omega
    · omega)
  have HSe6 : Hid (BlkB W6 (s + 3) (seenB n [])) := Lib.hid (Blk.below HSe5.out hb6 (by omega))
  have HXs6 := Lib.hid (HXs5.out.below hb6 HXs5.out.lt)
  have HKw6 := Lib.hid (HKw5.out.below hb6 HKw5.out.lt)
  have HKb6 := Lib.hid (HKb5.out.below hb6 HKb5.out.lt)
  have HKn6 := Lib.hid (HKn5.out.below hb6 HKn5.out.lt)
  have HKr6 := Lib.hid (HKr5.out.below hb6 HKr5.out.lt)
  have HT6 := Lib.hid (HT5.out.below_ hb6)
  have HB6 := Lib.hid (HB5.out.trans (hb6.mono (by omega)))
  have HR6 := Lib.hid (HR5.out.below (hb6.mono (by omega)))
  have hsb6 : xs < W6.heap.size := by have := hb6.size; omega
  have HPl := Lib.hid (Nat.le_trans (G.path_le (p : Int) (q : Int)) G.few)
  clear en hRl hq6 hb6 hR HSe5 HXs5 HKw5 HKb5 HKn5 HKr5 HT5 HB5 HR5 hsb5
  obtain ⟨S, hS⟩ : ∃ S : Nat → Prop, S = fun b => b = s + 1 ∨ b = s + 3 := ⟨_, rfl⟩
  have S1 : S (s + 1) := by rw [hS]; exact .inl rfl
  have S2 : S (s + 3) := by rw [hS]; exact .inr rfl
  have HSn : Hid (∀ b, b ≠ s + 1 → b ≠ s + 3 → ¬ S b) := Lib.hid (fun b h1 h2 h => by rw [hS] at h; rcases h with h | h; exact h1 h; exact h2 h)
  have HSe : Hid (∀ b, S b → b = s + 1 ∨ b = s + 3) := Lib.hid (fun b h => by rw [hS] at h; exact h)
  clear hS
  go_wp2
  refine (wpIn_wide (n := 9)).1 ?_
  refine' wpIn_rangeFunc_ownG (α := { x : Int // x ∈ pathI l (p : Int) (q : Int) }) rfl (by omega) (gf := gf) (lb := lb) rfl trivial EN.out
    SQ6.out.seq (fun h k => h.trans k) (stay_b SQ6.out.lt) (Below.refl _ _) (fun _ => rfl)
    (fun pre W => ((pre.map (·.1)).Nodup ∧ BoxN W (s + 1) W6.heap.size (pre.map (·.1)) ∧ BlkB W (s + 3) (seenB n (pre.map (·.1)))) ∧ OnlyS S W6 W)
    (fun cc pre W => cc = .ret ∧ ¬ (pre.map (·.1)).Nodup)
    (OwnFrom.and (Own.from (I := fun (pre : List { x : Int // x ∈ pathI l (p : Int) (q : Int) }) W => (pre.map (·.1)).Nodup ∧ BoxN W (s + 1) W6.heap.size (pre.map (·.1)) ∧ BlkB W (s + 3) (seenB n (pre.map (·.1)))) (fun s A B row hs hg hr => by
      obtain ⟨h1, ⟨v, h2, h3⟩, h4⟩ := hs
      exact ⟨h1, ⟨v, blk_kept h2 hg hr, h3.kept hg hr⟩, blk_kept h4 hg hr⟩) _) (own_onlyS W6 S))
    (fun cc => fun s A B row hs hg hr => hs)
    ⟨⟨List.nodup_nil, ⟨_, HKw6.out, OwnN.none_ _ _⟩, HSe6.out⟩, OnlyS.refl _ _⟩
    _ ?assign ?body ?done ?stop
  case assign =>
    intro l x W K hK
    gi_wp2
    exact hK
  case body =>
    rintro lp pre ⟨yv, hym⟩ V ⟨⟨hnd, ⟨v, hbx, hown⟩, hse⟩, hO⟩ hlt
    obtain ⟨t, rfl, ht⟩ := pathI_mem G hym
    rw [HL.out] at ht
    have kn := hO.blk HKn6.out (HSn.out _ (by omega) (by omega))
    have kx := hO.blk HXs6.out (HSn.out _ (by omega) (by omega))
    have kr := hO.blk HKr6.out (HSn.out _ (by omega) (by omega))
    have cn : V.cell? ⟨s, 0, none⟩ = some (.int .i64 (n : Int)) := by rw [kn.cell]; rfl
    have cx : V.cell? ⟨xs, 0, none⟩ = some (.slice (some ⟨s + 3, 0, none⟩) n n) := by rw [kx.cell]; rfl
    have cr : V.cell? ⟨u + 1, 0, none⟩ = some (.bool false) := by rw [kr.cell]; rfl
    have fr : V.frozen? ⟨u + 1, 0, none⟩ = false := kr.frozen 0
    have ct := hse.at_ ht
    have ft : V.frozen? ⟨s + 3, t, none⟩ = false := Blk.frozen hse t
    obtain ⟨P, hP⟩ : ∃ P, P = pre.map (·.1) := ⟨_, rfl⟩
    have HPe := Lib.hid hP
    have hPl : P.length ≤ 32 := by rw [hP, List.length_map]; have := HPl.out; omega
    rw [← hP] at hnd hown hse ct
    have htn : ¬ (n : Int) ≤ (t : Int) := by omega
    have htn2 : (t : Int) < (n : Int) := by omega
    by_cases hm : (t : Int) ∈ P
    · rw [decide_eq_true hm] at ct
      have HI : Hid (¬ ((pre ++ [(⟨(t : Int), hym⟩ : { x : Int // x ∈ pathI l (p : Int) (q : Int) })]).map (·.1)).Nodup) := Lib.hid (by
        rw [List.map_append, ← HPe.out]
        intro h
        rw [List.nodup_append] at h
        exact h.2.2 _ hm _ (by simp) rfl)
      clear hnd hbx hown hse hO hlt kn kx kr hm hP
      gi_wp2
      exact ⟨(KeepsOthers.setCell _ _ _).from _, rfl, HI.out⟩
    · rw [decide_eq_false hm] at ct
      obtain ⟨A7, c7, rfl, hc7, _⟩ := hown.reads
      have cg : V.cell? ⟨s + 1, 0, none⟩ = some (.slice A7 P.length c7) := by rw [hbx.cell]; rfl
      have fg : V.frozen? ⟨s + 1, 0, none⟩ = false := hbx.frozen 0
      have HNd : Hid ((P ++ [(t : Int)]).Nodup) := Lib.hid (by
        rw [List.nodup_append]
        exact ⟨hnd, by simp, fun a ha b hb e => by simp at hb; subst hb; subst e; exact hm ha⟩)
      have hO1 := hO.setAt S2 t (.bool true)
      have hbx1 := hbx.far (p := ⟨s + 3, t, none⟩) (by simp) (.bool true)
      have hown1 := hown.setFar (x := s + 3) (i := t) (by omega) (.bool true)
      have hse1 := hse.set_ t true
      rw [seenB_set ht] at hse1
      have HOw := Lib.hid hown1
      have HBx := Lib.hid hbx1
      have HO := Lib.hid hO1
      have HSx := Lib.hid hse1
      have hsV := hO1.size
      clear hnd hbx hown hse hO hlt kn kx kr hm hP hO1 hbx1 hown1 hse1
      gi_wp2_with (gi_at_builtin; refine appNIn (V.setCell ⟨s + 3, t, none⟩ (.bool true)) (t : Int) rfl (.tmp 89) (.tmp 91) rfl W6.heap.size _ P rfl HOw.out (by { show Value.slice (some ⟨V.heap.size, 0, none⟩) 1 1 = _; simp [World.setCell] }) (by omega) hsV ?_; intro v3 V3 hown3 hg3; have PP := push_boxS W6.heap.size HO.out S1 HBx.out (by omega) HOw.out hown3 hg3; obtain ⟨A8, c8, rfl, hc8, _⟩ := hown3.reads; have kg3 : Blk V3 (s + 1) _ _ := (PP.1 (s + 1) (by omega)).trans HBx.out; have cg3 : V3.cell? ⟨s + 1, 0, none⟩ = some (.slice A7 P.length c7) := by { rw [kg3.cell]; rfl }; have fg3 : V3.frozen? ⟨s + 1, 0, none⟩ = false := kg3.frozen 0; have HP := Lib.hid PP.2; clear PP hown3 hg3 kg3)
      obtain ⟨p1, p2, p3, p4, p5⟩ := HP.out
      have e1 : (P ++ [(t : Int)]).length = P.length + 1 := by simp
      rw [e1] at p1 p2 p3 p4 p5
      have e2 : ((pre ++ [(⟨(t : Int), hym⟩ : { x : Int // x ∈ pathI l (p : Int) (q : Int) })]).map (·.1)) = P ++ [(t : Int)] := by rw [List.map_append, ← HPe.out]; rfl
      refine ⟨((KeepsOthers.setCell V ⟨s + 3, t, none⟩ (.bool true)).from _).trans p1, (stay_setAt (fun h => (HRx.out _ h).2.1 rfl)).trans (p4 R (fun b hb => by have := HRx.out b hb; omega)), ?_, p2⟩
      show (((pre ++ [(⟨(t : Int), hym⟩ : { x : Int // x ∈ pathI l (p : Int) (q : Int) })]).map (·.1)).Nodup ∧ BoxN _ (s + 1) W6.heap.size ((pre ++ [(⟨(t : Int), hym⟩ : { x : Int // x ∈ pathI l (p : Int) (q : Int) })]).map (·.1)) ∧ BlkB _ (s + 3) (seenB n ((pre ++ [(⟨(t : Int), hym⟩ : { x : Int // x ∈ pathI l (p : Int) (q : Int) })]).map (·.1))))
      rw [e2]
      exact ⟨HNd.out, p3, (p5 (s + 3) (by omega) (by omega)).trans HSx.out⟩
  case stop =>
    rintro D cc pre V hD hpre ⟨rfl, hw⟩ hK
    obtain ⟨h1, h2, h3⟩ := HPn.out
    have h4 := pathI_nodup G h1 h2
    exact absurd (h4.sublist hpre.sublist) hw
  case done =>
    rintro D1 ys V1 hD1 hys ⟨⟨hnd, ⟨v, hbx, hown⟩, hse⟩, hO⟩ hK
    rw [hys] at hown
    obtain ⟨AW, cW, rfl, hcW, hrW⟩ := hown.reads
    have HAW : Hid (∀ ad, AW = some ad → W6.heap.size ≤ ad.block) := Lib.hid (fun ad e => by
      subst e
      rcases hown.2 with ⟨e1, _⟩ | ⟨g', cap, cur, e1, hb', _⟩
      · cases e1
      · injection e1 with e1
        injection e1 with e1
        subst e1; exact hb')
    have hsV1 := hO.size
    have kb := hO.blk HKb6.out (HSn.out _ (by omega) (by omega))
    have kn := hO.blk HKn6.out (HSn.out _ (by omega) (by omega))
    have kr := hO.blk HKr6.out (HSn.out _ (by omega) (by omega))
    have krd := hO.reads HR6.out (by omega) (fun h0 ad e => by
      obtain ⟨ad', e', h1, _⟩ := HR6.out.2 h0
      rw [e] at e'
      injection e' with e'
      subst e'
      exact HSn.out _ (by omega) (by omega))
    have ktr : IsTr V1 T g l := HT6.out.stay (hO.stay (fun b hb => ⟨HT6.out.lt b hb, HSn.out b (by have := HTl.out b hb; omega) (by have := HTl.out b hb; omega)⟩))
    have kbe := OnlyS.bel HB6.out hO (fun b hb => by have := HSe.out b hb; omega) (by omega)
    have kmk := mark1 hD1 hK
    have HWr1 := Lib.hid hrW
    have HKw1 := Lib.hid hbx
    have HKb1 := Lib.hid kb
    have HKn1 := Lib.hid kn
    have HKr1' := Lib.hid kr
    have HR1' := Lib.hid krd
    have HT1' := Lib.hid ktr
    have HB1' := Lib.hid kbe
    have HMk1 := Lib.hid kmk
    have HcW := Lib.hid hcW
    clear hnd hbx hown hse hO hK hrW kb kn kr krd ktr kbe kmk hcW hys HKw6 HKb6 HKn6 HKr6 HR6 HT6 HB6 SQ6 HSe6 HXs6 S1 S2 HSn HSe
    have HPc := Lib.hid (path_codeM T g l (q : Int) (p : Int) V1 HT1'.out G)
    go_wp2_with fail
    refine HPc.out.mono ?_
    rintro e W9 ⟨v, R2, rfl, hsq, hb9, hR⟩
    have SQ9 : Hid (SeqM v (pathI l (q : Int) (p : Int)) R2 W9) := Lib.hid hsq
    obtain ⟨gf2, lb2, rfl, en, hRl, hq6⟩ := hsq
    have EN2 := Lib.hid en
    have HRx2 : Hid (∀ b, R2 b → b ≠ s + 2 ∧ b < W9.heap.size) := Lib.hid (fun b hb => by
      have h1 := SQ9.out.lt b hb
      rcases hR b hb with h | h
      · have := HTl.out b h; omega
      · omega)
    have HWr9 := Lib.hid (HWr1.out.below hb9)
    have HKw9 := Lib.hid (HKw1.out.below hb9 HKw1.out.lt)
    have HKb9 := Lib.hid (HKb1.out.below hb9 HKb1.out.lt)
    have HKn9 := Lib.hid (HKn1.out.below hb9 HKn1.out.lt)
    have HKr9 := Lib.hid (HKr1'.out.below hb9 HKr1'.out.lt)
    have HT9 := Lib.hid (HT1'.out.below_ hb9)
    have HB9 := Lib.hid (HB1'.out.trans (hb9.mono (by omega)))
    have HR9 := Lib.hid (HR1'.out.below (hb9.mono (by omega)))
    have HMk9 := Lib.hid (HMk1.out.below hb9)
    have hsb9 : V1.heap.size ≤ W9.heap.size := hb9.size
    have HPl2 := Lib.hid (G.path_le (q : Int) (p : Int))
    clear en hRl hq6 hb9 hR HPc HKw1 HKb1 HKn1 HKr1' HR1' HT1' HB1' HMk1 HWr1
    go_wp2
    refine (wpIn_wide (n := 9)).1 ?_
    refine' wpIn_rangeFunc_ownG (α := { x : Int // x ∈ pathI l (q : Int) (p : Int) }) rfl (by omega) (gf := gf2) (lb := lb2) rfl trivial EN2.out
      SQ9.out.seq (fun h k => h.trans k) (stay_b SQ9.out.lt) (Below.refl _ _) (fun _ => rfl)
      (fun pre W => BoxN W (s + 2) W9.heap.size (pre.map (·.1)) ∧ Only W9 W (s + 2))
      (fun cc pre W => False)
      (OwnFrom.and (Own.from (I := fun (pre : List { x : Int // x ∈ pathI l (q : Int) (p : Int) }) W => BoxN W (s + 2) W9.heap.size (pre.map (·.1))) (fun s A B row hs hg hr => by
        obtain ⟨v, h2, h3⟩ := hs
        exact ⟨v, blk_kept h2 hg hr, h3.kept hg hr⟩) _) (own_only W9 (s + 2)))
      (fun cc => fun s A B row hs hg hr => hs)
      ⟨⟨_, HKb9.out, OwnN.none_ _ _⟩, Only.refl _ _⟩
      _ ?assign ?body ?done ?stop
    case assign =>
      intro l x W K hK
      gi_wp2
      exact hK
    case body =>
      rintro lp pre ⟨yv, hym⟩ V ⟨⟨v, hbx, hown⟩, hO⟩ hlt
      have kn := hO.blk HKn9.out (by omega)
      have cn : V.cell? ⟨s, 0, none⟩ = some (.int .i64 (n : Int)) := by rw [kn.cell]; rfl
      obtain ⟨P, hP⟩ : ∃ P, P = pre.map (·.1) := ⟨_, rfl⟩
      have HPe := Lib.hid hP
      have hPl : P.length + 1 ≤ n := by rw [hP, List.length_map]; have h1 := HPl2.out; rw [HL.out] at h1; omega
      rw [← hP] at hown
      obtain ⟨A7, c7, rfl, hc7, _⟩ := hown.reads
      have cg : V.cell? ⟨s + 2, 0, none⟩ = some (.slice A7 P.length c7) := by rw [hbx.cell]; rfl
      have fg : V.frozen? ⟨s + 2, 0, none⟩ = false := hbx.frozen 0
      have hng : ¬ (n : Int) < (P.length : Int) + 1 := by omega
      have hsV := hO.size
      have HOw := Lib.hid hown
      have HBx := Lib.hid hbx
      have HO := Lib.hid hO
      clear hbx hown hO hlt kn hP
      gi_wp2_with (gi_at_builtin; refine appNIn V yv rfl (.tmp 98) (.tmp 100) rfl W9.heap.size _ P rfl HOw.out rfl (by omega) hsV ?_; intro v3 V3 hown3 hg3; have PP := push_box W9.heap.size HO.out HBx.out (by omega) HOw.out hown3 hg3; obtain ⟨A8, c8, rfl, hc8, _⟩ := hown3.reads; have cg3 : V3.cell? ⟨s + 2, 0, none⟩ = some (.slice A7 P.length c7) := by { rw [PP.1.2.cell]; rfl }; have fg3 : V3.frozen? ⟨s + 2, 0, none⟩ = false := PP.1.2.frozen 0; have cn3 : V3.cell? ⟨s, 0, none⟩ = some (.int .i64 (n : Int)) := by { rw [(PP.1.1.blk HKn9.out (by omega)).cell]; rfl }; have HP := Lib.hid PP.2; clear PP hown3 hg3 cg cn fg; rw [List.length_append] at hc8 ⊢; simp only [List.length_singleton] at hc8 ⊢)
      obtain ⟨p1, p2, p3, p4⟩ := HP.out
      have e1 : (P ++ [yv]).length = P.length + 1 := by simp
      rw [e1] at p1 p2 p3 p4
      refine ⟨p1, p4 R2 (fun b hb => by have := HRx2.out b hb; omega), ?_, p2⟩
      show BoxN _ (s + 2) W9.heap.size ((pre ++ [(⟨yv, hym⟩ : { x : Int // x ∈ pathI l (q : Int) (p : Int) })]).map (·.1))
      rw [List.map_append, ← HPe.out]
      exact p3
    case stop =>
      rintro D cc pre V hD hpre hf hK
      exact hf.elim
    case done =>
      rintro D2 ys V2 hD2 hys ⟨⟨v, hbx, hown⟩, hO⟩ hK
      rw [hys] at hown
      obtain ⟨AB, cB, rfl, hcB, hrB⟩ := hown.reads
      obtain ⟨p1, q1, r1⟩ := HPn.out
      obtain ⟨k, WY, hdk⟩ := wayI_of G p1 q1
      have HWY := Lib.hid WY
      have HDk := Lib.hid hdk
      have hsV2 := hO.size
      have kn := hO.blk HKn9.out (by omega)
      have kr := hO.blk HKr9.out (by omega)
      have kw := hO.blk HKw9.out (by omega)
      have krd := hO.reads HR9.out (by omega) (fun h0 ad e => by
        obtain ⟨ad', e', h1, _⟩ := HR9.out.2 h0
        rw [e] at e'
        injection e' with e'
        subst e'
        omega)
      have kwr := hO.reads HWr9.out (by omega) (fun h0 ad e => by have := HAW.out ad e; omega)
      have HT2 : Hid (IsTr V2 T g l) := Lib.hid (HT9.out.stay ⟨hO.size, fun b hb => hO.at_ (HT9.out.lt b hb) (by have := HTl.out b hb; omega)⟩)
      have HB2 := Lib.hid (Only.below HB9.out hO (by omega) (by omega))
      have HMk : Hid (Marks W6.heap.size [{ target := .collected D2, args := #[] }, { target := .collected D1, args := #[] }] V2) := Lib.hid (Marks.cons (HMk9.out.only hO HKb9.out) (fun d hd k e => by have := HMk9.out.lt d hd k e; omega) (by omega) hK)
      rw [WY.len] at kwr kw
      rw [WY.lenb] at hrB hbx
      obtain ⟨bW, oW, rfl, hbW, hcW⟩ := kwr.i64 (by omega)
      obtain ⟨bB, oB, rfl, hbB, hcB'⟩ := hrB.i64 (by omega)
      obtain ⟨bP, oP, rfl, hbP, hcP⟩ := krd.i64 (by omega)
      have HKw := Lib.hid kw
      have HKb := Lib.hid hbx
      have HKr := Lib.hid kr
      have HcW := Lib.hid hcW
      have HcB := Lib.hid hcB'
      have HcP := Lib.hid hcP
      have hk32 : k < 32 := by have := HPl.out; rw [WY.len] at this; omega
      have cw : V2.cell? ⟨s + 1, 0, none⟩ = some (.slice (some ⟨bW, oW, none⟩) (k + 1) cW) := by rw [kw.cell]; rfl
      have cb : V2.cell? ⟨s + 2, 0, none⟩ = some (.slice (some ⟨bB, oB, none⟩) (k + 1) cB) := by rw [hbx.cell]; rfl
      have cr : V2.cell? ⟨u + 1, 0, none⟩ = some (.bool false) := by rw [kr.cell]; rfl
      have fr : V2.frozen? ⟨u + 1, 0, none⟩ = false := kr.frozen 0
      have c0 := hcW 0 (by omega)
      rw [WY.fst] at c0
      have c0' : V2.cell? ⟨bW, oW, none⟩ = some (.int .i64 (p : Int)) := c0
      have ck := hcW k (by omega)
      rw [WY.lst] at ck
      have z1 : ((k : Int) + 1 == 0) = false := by simp; omega
      have z2 : decide ((k : Int) + 1 = 0) = false := by simp; omega
      have z3 : (((k + 1 : Nat) : Int) == 0) = false := by simp; omega
      have z4 : decide (((k + 1 : Nat) : Int) = 0) = false := by simp; omega
      have hg0 : decide (k + 1 ≤ 0) = false := by simp
      have hgk : decide (k + 1 ≤ k) = false := by simp
      clear hbx hown hO hK hrB kn kr kw krd kwr hcW hcB' hcP hys WY hdk hcB HWr9 HKw9 HKb9 HKn9 HKr9 HT9 HB9 HR9 HMk9
      go_wp2
      go_loopw [135] (fun x wr => ∃ i : Nat, x = .int .i64 i ∧ i ≤ k + 1 ∧ Below V2.heap.size V2 wr) (fun x _ => k + 1 - (intOf x).toNat)
      case atStart => exact ⟨0, rfl, by omega, Below.refl _ _⟩
      case round =>
        obtain ⟨i, rfl, hi, hb⟩ := hrel
        have HB := Lib.hid hb
        have kw := HKw.out.below hb HKw.out.lt
        have kb := HKb.out.below hb HKb.out.lt
        clear cw cb cr fr c0 c0' ck
        by_cases hlt : i < k + 1
        · obtain ⟨v, hv, ev, eb, ed⟩ := HWY.out.at_ i hlt
          have cw : wr.cell? ⟨s + 1, 0, none⟩ = some (.slice (some ⟨bW, oW, none⟩) (k + 1) cW) := by rw [kw.cell]; rfl
          have cb : wr.cell? ⟨s + 2, 0, none⟩ = some (.slice (some ⟨bB, oB, none⟩) (k + 1) cB) := by rw [kb.cell]; rfl
          have ci : wr.cell? ⟨bW, oW + i, none⟩ = some (.int .i64 (v : Int)) := by rw [hb.cell (p := ⟨bW, oW + i, none⟩) (show bW < V2.heap.size by omega), HcW.out i hlt, ev]
          have cj : wr.cell? ⟨bB, oB + (k - i), none⟩ = some (.int .i64 (v : Int)) := by rw [hb.cell (p := ⟨bB, oB + (k - i), none⟩) (show bB < V2.heap.size by omega), HcB.out (k - i) (by omega), eb]
          have HDi := Lib.hid (dist_any T g l (v : Int) (q : Int) wr.drew (HT2.out.below_ (hb.trans ((Below.refl _ wr).drew.mono hb.size))) G (Nat.le_trans (G.path_le (v : Int) (q : Int)) G.few))
          have e1 : (k : Int) - (i : Int) = ((k - i : Nat) : Int) := by omega
          rw [ed, e1] at HDi
          obtain ⟨z, hz⟩ : ∃ z : Nat, z = k - i := ⟨_, rfl⟩
          rw [← hz] at HDi cj e1
          have e2 : IntKind.i64.wrap ((k : Int) - (i : Int)) = (z : Int) := by rw [e1]; exact IntWalk.i64_in _ (by omega)
          have e3 : IntKind.i64.wrap ((k : Int) + 1 - 1) = (k : Int) := by rw [Int.add_sub_cancel]; exact IntWalk.i64_in _ (by omega)
          have e4 : IntKind.i64.wrap (k : Int) = (k : Int) := IntWalk.i64_in _ (by omega)
          have e5 : IntKind.i64.wrap (z : Int) = (z : Int) := IntWalk.i64_in _ (by omega)
          have b1 : (0 : Int) ≤ (z : Int) := by omega
          have b2 : (z : Int) < (k : Int) + 1 := by omega
          have hzk : z < k + 1 := by omega
          have hgz : decide (k + 1 ≤ z) = false := by simp; omega
          have hgi : decide (k + 1 ≤ i) = false := by simp; omega
          clear hz ed eb
          have HCw := Lib.hid cw
          have HCb := Lib.hid cb
          have HCi := Lib.hid ci
          have HCj := Lib.hid cj
          have hbl : bW < wr.heap.size ∧ bB < wr.heap.size ∧ s + 2 < wr.heap.size := by have := hb.size; have := HKb.out.lt; omega
          obtain ⟨hbl1, hbl2, hbl3⟩ := hbl
          clear kw kb hb
          go_wp2
          go_region_held3 (fun w' => w'.cell? ⟨s + 1, 0, none⟩ = some (.slice (some ⟨bW, oW, none⟩) (k + 1) cW) ∧ w'.cell? ⟨s + 2, 0, none⟩ = some (.slice (some ⟨bB, oB, none⟩) (k + 1) cB) ∧ w'.cell? ⟨bB, oB + z, none⟩ = some (.int .i64 (v : Int))) (first | exact ⟨cw, cb, cj⟩ | assumption | go_keep) (first
            | (go_at_call 19; go_must (refine HDi.out.mono ?_; rintro e V3 ⟨rfl, hb3⟩; have HV3 : Hid (Below wr.heap.size wr V3) := Lib.hid (((Below.refl wr.heap.size wr).drew).trans hb3); have cS : V3.cell? ⟨s + 1, 0, none⟩ = some (.slice (some ⟨bW, oW, none⟩) (k + 1) cW) ∧ V3.cell? ⟨s + 2, 0, none⟩ = some (.slice (some ⟨bB, oB, none⟩) (k + 1) cB) ∧ V3.cell? ⟨bB, oB + z, none⟩ = some (.int .i64 (v : Int)) := ⟨by rw [HV3.out.cell (p := ⟨s + 1, 0, none⟩) (show s + 1 < wr.heap.size by omega)]; exact HCw.out, by rw [HV3.out.cell (p := ⟨s + 2, 0, none⟩) hbl3]; exact HCb.out, by rw [HV3.out.cell (p := ⟨bB, oB + z, none⟩) hbl2]; exact HCj.out⟩; clear hb3)))
          go_wp2
          have HV4 : Hid (Below V2.heap.size V2 V3) := Lib.hid (HB.out.trans (HV3.out.mono HB.out.size))
          rcases Nat.eq_zero_or_pos i with hi0 | hip
          · subst hi0
            clear cS cw cb ci cj
            go_quiet (fail)
            go_wp2
            first
              | (go_big_round; exact ⟨⟨1, by go_num, by omega, bel_dn HV4.out nq⟩, by simp [intOf] <;> omega⟩)
              | exact ⟨⟨1, by go_num, by omega, bel_dn HV4.out nq⟩, by simp [intOf] <;> omega⟩
          · obtain ⟨j, rfl⟩ : ∃ j, i = j + 1 := ⟨i - 1, by omega⟩
            obtain ⟨v', x, hv', hx, ev', ex, hpa, hnx⟩ := HWY.out.nxt j (by omega)
            have hxv : x = v := by rw [ev] at ex; omega
            subst hxv
            have HNx := Lib.hid (fun m => nxt_any T g l (v' : Int) (q : Int) (V3.drewN m) (HT2.out.below_ (bel_dn HV4.out m)) G)
            rw [hnx] at HNx
            have cw3 : V3.cell? ⟨s + 1, 0, none⟩ = some (.slice (some ⟨bW, oW, none⟩) (k + 1) cW) := by rw [HV3.out.cell (p := ⟨s + 1, 0, none⟩) (show s + 1 < wr.heap.size by omega)]; exact HCw.out
            have cj3 : V3.cell? ⟨bW, oW + j, none⟩ = some (.int .i64 (v' : Int)) := by rw [HV4.out.cell (p := ⟨bW, oW + j, none⟩) (show bW < V2.heap.size by omega), HcW.out j (by omega), ev']
            obtain ⟨pv, hpv⟩ : ∃ z, z = pa l x := ⟨_, rfl⟩
            obtain ⟨pv', hpv'⟩ : ∃ z, z = pa l v' := ⟨_, rfl⟩
            rw [← hpv, ← hpv'] at hpa
            have hxn : x < n := by rw [← HL.out]; exact hx
            have hvn : v' < n := by rw [← HL.out]; exact hv'
            have gd : ∀ t, t < l.length → l.getD t 0 = pa l t := fun t ht => by unfold pa; rw [List.getD_eq_getElem?_getD, List.getD_eq_getElem?_getD, List.getElem?_eq_getElem ht]; rfl
            have cx : V3.cell? ⟨bP, oP + x, none⟩ = some (.int .i64 pv) := by rw [HV4.out.cell (p := ⟨bP, oP + x, none⟩) (show bP < V2.heap.size by omega), HcP.out x hxn, gd x hx, hpv]
            have cv : V3.cell? ⟨bP, oP + v', none⟩ = some (.int .i64 pv') := by rw [HV4.out.cell (p := ⟨bP, oP + v', none⟩) (show bP < V2.heap.size by omega), HcP.out v' hvn, gd v' hv', hpv']
            have f1 : IntKind.i64.wrap ((j : Int) + 1 - 1) = (j : Int) := by rw [Int.add_sub_cancel]; exact IntWalk.i64_in _ (by omega)
            have f2 : IntKind.i64.wrap (j : Int) = (j : Int) := IntWalk.i64_in _ (by omega)
            have f3 : (0 : Int) < (j : Int) + 1 := by omega
            have f4 : decide ((0 : Int) < (j : Int) + 1) = true := decide_eq_true f3
            have f5 : (0 : Int) ≤ (j : Int) := by omega
            have f6 : (j : Int) < (k : Int) + 1 := by omega
            have f7 : decide (k + 1 ≤ j) = false := by simp; omega
            have f8 : (0 : Int) ≤ (x : Int) := by omega
            have f9 : (x : Int) < (n : Int) := by omega
            have f10 : decide (n ≤ x) = false := by simp; omega
            have f11 : (0 : Int) ≤ (v' : Int) := by omega
            have f12 : (v' : Int) < (n : Int) := by omega
            have f13 : decide (n ≤ v') = false := by simp; omega
            clear cS cw cb ci cj hpv hpv' gd ev ev' ex hnx hv hx hv' e1 e2 e3 e4 e5
            by_cases h1 : pv = (v' : Int)
            · have t1 : (pv != (v' : Int)) = false := by simp [h1]
              go_quiet ((go_at_call 18; exact Calls.quiet_of_same (HNx.out _)))
              go_wp2
              first
                | (go_big_round; exact ⟨⟨j + 2, by go_num, by omega, bel_dn HV4.out nq⟩, by simp [intOf] <;> omega⟩)
                | exact ⟨⟨j + 2, by go_num, by omega, bel_dn HV4.out nq⟩, by simp [intOf] <;> omega⟩
            · have t1 : (pv != (v' : Int)) = true := by simp [h1]
              have h2 : pv' = (x : Int) := by rcases hpa with h | h; exact absurd h h1; exact h
              have t2 : (pv' != (x : Int)) = false := by simp [h2]
              go_quiet ((go_at_call 18; exact Calls.quiet_of_same (HNx.out _)))
              go_wp2
              first
                | (go_big_round; exact ⟨⟨j + 2, by go_num, by omega, bel_dn HV4.out nq⟩, by simp [intOf] <;> omega⟩)
                | exact ⟨⟨j + 2, by go_num, by omega, bel_dn HV4.out nq⟩, by simp [intOf] <;> omega⟩
        · obtain ⟨d1, d2, d3⟩ := dist_facts G p1 q1 r1
          have b1 := d3 p r p1 r1
          have b2 := d3 r q r1 q1
          have HDA := Lib.hid (fun (a b : Nat) W (hW : Below V2.heap.size V2 W) => dist_any T g l (a : Int) (b : Int) W (HT2.out.below_ hW) G (Nat.le_trans (G.path_le (a : Int) (b : Int)) G.few))
          have hpq := HDA.out p q
          have hqp := HDA.out q p
          have hpr := HDA.out p r
          have hrq := HDA.out r q
          rw [← d1, HDk.out] at hqp
          rw [HDk.out] at hpq d2
          obtain ⟨x1, hx1⟩ : ∃ x, x = distI l (p : Int) (r : Int) := ⟨_, rfl⟩
          obtain ⟨x2, hx2⟩ : ∃ x, x = distI l (r : Int) (q : Int) := ⟨_, rfl⟩
          rw [← hx1] at hpr d2 b1
          rw [← hx2] at hrq d2 b2
          have f1 : IntKind.i64.wrap (x1 + x2) = x1 + x2 := IntWalk.i64_in _ (by omega)
          have f2 : decide ((k : Int) ≤ x1 + x2) = true := by simp; omega
          have PQ := Lib.hid hpq
          have QP := Lib.hid hqp
          have PR := Lib.hid hpr
          have RQ := Lib.hid hrq
          clear kw kb hb d1 d3 hx1 hx2 hpq hqp hpr hrq
          go_wp2_with fail
          refine (PQ.out _ HB.out).mono ?_
          rintro e Z1 ⟨rfl, hz⟩
          have HZ1 : Hid (Below V2.heap.size V2 Z1) := Lib.hid (HB.out.trans (hz.mono HB.out.size))
          clear hz
          go_wp2_with fail
          refine (QP.out _ HZ1.out).mono ?_
          rintro e Z2 ⟨rfl, hz⟩
          have HZ2 : Hid (Below V2.heap.size V2 Z2) := Lib.hid (HZ1.out.trans (hz.mono HZ1.out.size))
          clear hz
          go_wp2_with fail
          refine (PQ.out _ HZ2.out).mono ?_
          rintro e Z3 ⟨rfl, hz⟩
          have HZ3 : Hid (Below V2.heap.size V2 Z3) := Lib.hid (HZ2.out.trans (hz.mono HZ2.out.size))
          clear hz
          go_wp2_with fail
          refine (PR.out _ HZ3.out).mono ?_
          rintro e Z4 ⟨rfl, hz⟩
          have HZ4 : Hid (Below V2.heap.size V2 Z4) := Lib.hid (HZ3.out.trans (hz.mono HZ3.out.size))
          clear hz
          go_wp2_with fail
          refine (RQ.out _ HZ4.out).mono ?_
          rintro e V5 ⟨rfl, hz⟩
          have HZ5 : Hid (Below V2.heap.size V2 V5) := Lib.hid (HZ4.out.trans (hz.mono HZ4.out.size))
          clear hz
          have HKr5 := Lib.hid (HKr.out.below HZ5.out HKr.out.lt)
          have HMk5 := Lib.hid (HMk.out.below HZ5.out)
          have hus5 : u < V2.heap.size := by omega
          have HB5 := Lib.hid (HB2.out.trans (HZ5.out.mono (by omega)))
          have hV5 : V2.heap.size ≤ V5.heap.size := HZ5.out.size
          have cr5 : V5.cell? ⟨u + 1, 0, none⟩ = some (.bool false) := by rw [HKr5.out.cell]; rfl
          have fr5 : V5.frozen? ⟨u + 1, 0, none⟩ = false := HKr5.out.frozen 0
          have hu6 : u + 1 < W6.heap.size := by omega
          go_wp2
          have hO2 : Only V5 (V5.setCell ⟨u + 1, 0, none⟩ (.bool true)) (u + 1) := (Only.refl _ _).set _ _
          have hk2 : Blk (V5.setCell ⟨u + 1, 0, none⟩ (.bool true)) (u + 1) 4 #[.bool true] := blk_put HKr5.out _
          refine Marks.leave (B := W6.heap.size) _ _ (HMk5.out.only hO2 HKr5.out) (fun W' hb => ?_)
          have c5 : W'.cell? ⟨u + 1, 0, none⟩ = some (.bool true) := by rw [hb.cell (p := ⟨u + 1, 0, none⟩) hu6, hk2.cell]; rfl
          refine ⟨.bool true, by simp [results, Try.f7, go_sem, c5], rfl, ?_⟩
          rw [← HU.out]
          exact (Only.below HB5.out hO2 (by omega) (by omega)).trans (hb.mono (by omega))
end Go.Proofs.Ytadfcinfnbfefaa.Pk
