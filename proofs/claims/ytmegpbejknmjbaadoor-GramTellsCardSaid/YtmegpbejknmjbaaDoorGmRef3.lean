/- The document's Take of a datagram. -/
import Derived.Test.YtmegpbejknmjbaaDoorGmRef
import Derived.Test.YtmegpbejknmjbaaDoorWiRef3
namespace Go.Proofs.YtmegpbejknmjbaaDoor.Pk
open Go.RowKit
set_option linter.unusedVariables false
/-- How far Take's rounds are. -/
structure GkR (l : List Int) (n : Nat) (xs : List Int) (a : Nat) : Prop where
  len : xs.length ≤ 4
  at_ : a ≤ n
  rg : ∀ x ∈ xs, 0 ≤ x ∧ x ≤ 9223372036854775807
  go : ggo (4 - xs.length) xs a l = gtake l
theorem GkR.start (l : List Int) (n : Nat) : GkR l n [] 0 := ⟨by simp, by omega, fun x h => by simp at h, rfl⟩
theorem GkR.stop {l : List Int} {n : Nat} {xs : List Int} {a : Nat} (h : GkR l n xs a) (hm : xs.length < 4) (h0 : (tkv (l.drop a)).2 = 0) : gtake l = (Gm.zero, 0, fault (l.drop a)) := by
  rw [← h.go]
  obtain ⟨f, hf⟩ : ∃ f, 4 - xs.length = f + 1 := ⟨3 - xs.length, by omega⟩
  rw [hf, ggo, if_pos h0]
theorem GkR.step {l : List Int} {n : Nat} {xs : List Int} {a k : Nat} {y : Int} (h : GkR l n xs a) (hm : xs.length < 4) (ht : tkv (l.drop a) = (y, k)) (h0 : k ≠ 0) (hk : a + k ≤ n) (hy : 0 ≤ y ∧ y ≤ 9223372036854775807) : GkR l n (xs ++ [y]) (a + k) := by
  refine ⟨by simp; omega, hk, fun x hx => ?_, ?_⟩
  · rcases List.mem_append.1 hx with hx | hx
    · exact h.rg x hx
    · obtain rfl : x = y := by simpa using hx
      exact hy
  · rw [← h.go]
    obtain ⟨f, hf⟩ : ∃ f, 4 - xs.length = f + 1 := ⟨3 - xs.length, by omega⟩
    rw [hf, ggo, ht, if_neg h0]
    have e : 4 - (xs ++ [y]).length = f := by simp; omega
    rw [e]
theorem GkR.done {l : List Int} {n : Nat} {xs : List Int} {a : Nat} (h : GkR l n xs a) (hm : ¬ xs.length < 4) : gtake l = gend xs a l := by
  rw [← h.go]
  have e : 4 - xs.length = 0 := by omega
  rw [e]
  rfl
theorem GkR.get {l : List Int} {n : Nat} {xs : List Int} {a : Nat} (h : GkR l n xs a) (i : Nat) : 0 ≤ xs.getD i 0 ∧ xs.getD i 0 ≤ 9223372036854775807 := by
  rcases Nat.lt_or_ge i xs.length with hi | hi
  · exact h.rg _ (by rw [List.getD_eq_getElem?_getD, List.getElem?_eq_getElem hi]; exact List.getElem_mem _)
  · rw [List.getD_eq_getElem?_getD, List.getElem?_eq_none hi]; exact ⟨Int.le_refl _, by show (0 : Int) ≤ _; omega⟩
/-- A datagram laid into its box. -/
theorem gram_set {V : World} {x : Nat} {t : TypeId} {a0 a1 a2 a3 a4 a5 a6 a7 a8 : Value} (h : Blk V x t #[a0, a1, a2, a3, a4, a5, a6, a7, a8]) (u0 u1 u2 u3 u4 u5 u6 u7 u8 : Value) : ∃ V5, V5 = (((((((((V.setCell ⟨x, 0, none⟩ u0).setCell ⟨x, 1, none⟩ u1).setCell ⟨x, 2, none⟩ u2).setCell ⟨x, 3, none⟩ u3).setCell ⟨x, 4, none⟩ u4).setCell ⟨x, 5, none⟩ u5).setCell ⟨x, 6, none⟩ u6).setCell ⟨x, 7, none⟩ u7).setCell ⟨x, 8, none⟩ u8) ∧
    Blk V5 x t #[u0, u1, u2, u3, u4, u5, u6, u7, u8] ∧ (∀ B w, B ≤ x → Below B w V → Below B w V5) :=
  by
    have h0 : Blk (V.setCell ⟨x, 0, none⟩ u0) x t #[u0, a1, a2, a3, a4, a5, a6, a7, a8] := by have := h.set_ 0 u0; simpa using this
    have h1 : Blk ((V.setCell ⟨x, 0, none⟩ u0).setCell ⟨x, 1, none⟩ u1) x t #[u0, u1, a2, a3, a4, a5, a6, a7, a8] := by have := h0.set_ 1 u1; simpa using this
    have h2 : Blk (((V.setCell ⟨x, 0, none⟩ u0).setCell ⟨x, 1, none⟩ u1).setCell ⟨x, 2, none⟩ u2) x t #[u0, u1, u2, a3, a4, a5, a6, a7, a8] := by have := h1.set_ 2 u2; simpa using this
    have h3 : Blk ((((V.setCell ⟨x, 0, none⟩ u0).setCell ⟨x, 1, none⟩ u1).setCell ⟨x, 2, none⟩ u2).setCell ⟨x, 3, none⟩ u3) x t #[u0, u1, u2, u3, a4, a5, a6, a7, a8] := by have := h2.set_ 3 u3; simpa using this
    have h4 : Blk (((((V.setCell ⟨x, 0, none⟩ u0).setCell ⟨x, 1, none⟩ u1).setCell ⟨x, 2, none⟩ u2).setCell ⟨x, 3, none⟩ u3).setCell ⟨x, 4, none⟩ u4) x t #[u0, u1, u2, u3, u4, a5, a6, a7, a8] := by have := h3.set_ 4 u4; simpa using this
    have h5 : Blk ((((((V.setCell ⟨x, 0, none⟩ u0).setCell ⟨x, 1, none⟩ u1).setCell ⟨x, 2, none⟩ u2).setCell ⟨x, 3, none⟩ u3).setCell ⟨x, 4, none⟩ u4).setCell ⟨x, 5, none⟩ u5) x t #[u0, u1, u2, u3, u4, u5, a6, a7, a8] := by have := h4.set_ 5 u5; simpa using this
    have h6 : Blk (((((((V.setCell ⟨x, 0, none⟩ u0).setCell ⟨x, 1, none⟩ u1).setCell ⟨x, 2, none⟩ u2).setCell ⟨x, 3, none⟩ u3).setCell ⟨x, 4, none⟩ u4).setCell ⟨x, 5, none⟩ u5).setCell ⟨x, 6, none⟩ u6) x t #[u0, u1, u2, u3, u4, u5, u6, a7, a8] := by have := h5.set_ 6 u6; simpa using this
    have h7 : Blk ((((((((V.setCell ⟨x, 0, none⟩ u0).setCell ⟨x, 1, none⟩ u1).setCell ⟨x, 2, none⟩ u2).setCell ⟨x, 3, none⟩ u3).setCell ⟨x, 4, none⟩ u4).setCell ⟨x, 5, none⟩ u5).setCell ⟨x, 6, none⟩ u6).setCell ⟨x, 7, none⟩ u7) x t #[u0, u1, u2, u3, u4, u5, u6, u7, a8] := by have := h6.set_ 7 u7; simpa using this
    have h8 : Blk (((((((((V.setCell ⟨x, 0, none⟩ u0).setCell ⟨x, 1, none⟩ u1).setCell ⟨x, 2, none⟩ u2).setCell ⟨x, 3, none⟩ u3).setCell ⟨x, 4, none⟩ u4).setCell ⟨x, 5, none⟩ u5).setCell ⟨x, 6, none⟩ u6).setCell ⟨x, 7, none⟩ u7).setCell ⟨x, 8, none⟩ u8) x t #[u0, u1, u2, u3, u4, u5, u6, u7, u8] := by have := h7.set_ 8 u8; simpa using this
    exact ⟨_, rfl, h8, fun B w hx hb => below_setAt (below_setAt (below_setAt (below_setAt (below_setAt (below_setAt (below_setAt (below_setAt (below_setAt hb hx 0 u0) hx 1 u1) hx 2 u2) hx 3 u3) hx 4 u4) hx 5 u5) hx 6 u6) hx 7 u7) hx 8 u8⟩
/-- A message laid into a datagram's box. -/
theorem gram_msg {V : World} {x : Nat} {t : TypeId} {a0 a1 a2 a3 a4 a5 a6 a7 a8 : Value} (h : Blk V x t #[a0, a1, a2, a3, a4, a5, a6, a7, a8]) (u4 u5 u6 u7 u8 : Value) : ∃ V5, V5 = (((((V.setCell ⟨x, 4, none⟩ u4).setCell ⟨x, 5, none⟩ u5).setCell ⟨x, 6, none⟩ u6).setCell ⟨x, 7, none⟩ u7).setCell ⟨x, 8, none⟩ u8) ∧
    Blk V5 x t #[a0, a1, a2, a3, u4, u5, u6, u7, u8] ∧ (∀ B w, B ≤ x → Below B w V → Below B w V5) ∧ (∀ y, y ≠ x → ∀ t' cs, Blk V y t' cs → Blk V5 y t' cs) :=
  by
    have h4 : Blk (V.setCell ⟨x, 4, none⟩ u4) x t #[a0, a1, a2, a3, u4, a5, a6, a7, a8] := by have := h.set_ 4 u4; simpa using this
    have h5 : Blk ((V.setCell ⟨x, 4, none⟩ u4).setCell ⟨x, 5, none⟩ u5) x t #[a0, a1, a2, a3, u4, u5, a6, a7, a8] := by have := h4.set_ 5 u5; simpa using this
    have h6 : Blk (((V.setCell ⟨x, 4, none⟩ u4).setCell ⟨x, 5, none⟩ u5).setCell ⟨x, 6, none⟩ u6) x t #[a0, a1, a2, a3, u4, u5, u6, a7, a8] := by have := h5.set_ 6 u6; simpa using this
    have h7 : Blk ((((V.setCell ⟨x, 4, none⟩ u4).setCell ⟨x, 5, none⟩ u5).setCell ⟨x, 6, none⟩ u6).setCell ⟨x, 7, none⟩ u7) x t #[a0, a1, a2, a3, u4, u5, u6, u7, a8] := by have := h6.set_ 7 u7; simpa using this
    have h8 : Blk (((((V.setCell ⟨x, 4, none⟩ u4).setCell ⟨x, 5, none⟩ u5).setCell ⟨x, 6, none⟩ u6).setCell ⟨x, 7, none⟩ u7).setCell ⟨x, 8, none⟩ u8) x t #[a0, a1, a2, a3, u4, u5, u6, u7, u8] := by have := h7.set_ 8 u8; simpa using this
    exact ⟨_, rfl, h8, fun B w hx hb => below_setAt (below_setAt (below_setAt (below_setAt (below_setAt hb hx 4 u4) hx 5 u5) hx 6 u6) hx 7 u7) hx 8 u8, fun y hy t' cs hk => ((((hk.far hy _).far hy _).far hy _).far hy _).far hy _⟩
theorem wtake_i (l : List Int) (hb : isB l) : (wtake l).1.I ∧ ((wtake l).2.2 = 0 ∨ (wtake l).2.2 = 30 ∨ (wtake l).2.2 = 31) ∧ (wtake l).2.1 ≤ l.length := by
  rcases wtake_cases l hb with ⟨m, hm, h, hl, _⟩ | ⟨e, h, he⟩
  · rw [h]; exact ⟨hm.i, .inl rfl, hl⟩
  · rw [h]; exact ⟨mg_zero_i, .inr he, Nat.zero_le _⟩
set_option maxRecDepth 100000 in
set_option maxHeartbeats 4000000 in
theorem reftake9_any (A : Option Addr) (n c : Nat) (l : List Int) (w : World) (B : Nat) (h : Reads w B 1 A n (bts l)) (hc : n ≤ c) (hB : isB l) (hBw : B ≤ w.heap.size) (hn : n ≤ 4611686018427387904) :
    Calls Tryd.prog 18 #[.slice A n c] w fun e w' => e = .returned (.tuple #[(gtake l).1.val, .int .i64 ((gtake l).2.1 : Int), .int .i64 (gtake l).2.2]) ∧ Below w.heap.size w w' := by
  have HL : Hid (l.length = n) := by have := h.1; simp at this; exact this
  have HR := Lib.hid (h.more hBw)
  have HB := Lib.hid hB
  clear h hB
  go_enter Tryd.func18, Tryd.ntmps18
  obtain ⟨p, hp⟩ : ∃ p, p = w.heap.size := ⟨_, rfl⟩
  obtain ⟨w1, hw1⟩ : ∃ w1, w1 = w.alloc (.cells #[.int .i64 0, .int .i64 0, .int .i64 0, .int .i64 0, .int .i64 0, .int .i64 0, .int .i64 0, .int .i64 0, .int .i64 0] 26) := ⟨_, rfl⟩
  have hb1 : Below w.heap.size w w1 := hw1 ▸ (Below.refl _ _).alloc (Nat.le_refl _) _
  have k1 : Blk w1 p 26 #[.int .i64 0, .int .i64 0, .int .i64 0, .int .i64 0, .int .i64 0, .int .i64 0, .int .i64 0, .int .i64 0, .int .i64 0] := by rw [hw1, hp]; exact Blk.new w _ _
  have HB1 := Lib.hid hb1
  have HK1 := Lib.hid k1
  have hs1 := hb1.size
  have HPw : Hid (p = w.heap.size) := Lib.hid hp
  go_wp2
  rw [← hw1, ← hp]
  clear hw1 hp hb1 k1
  go_loopw [5, 6, 7, 8] (fun ns at_ _ _ wr => ∃ (xs : List Int) (a : Nat) (X : Option Addr) (cx : Nat), ns = .slice X xs.length cx ∧ at_ = .int .i64 a ∧ OwnN wr w1.heap.size (.slice X xs.length cx) xs ∧ GkR l n xs a ∧ Below w1.heap.size w1 wr) (fun ns _ _ _ _ => 6 - lenOf ns)
  case atStart => exact ⟨[], 0, none, 0, rfl, rfl, OwnN.none_ _ _, GkR.start l n, Below.refl _ _⟩
  case round =>
    obtain ⟨xs, a, X, cx, rfl, rfl, ho, hT, hb⟩ := hrel
    obtain ⟨w2, rfl⟩ : ∃ w2 : World, w2 = wr := ⟨_, rfl⟩
    obtain ⟨q, hq⟩ : ∃ q, q = xs.length := ⟨_, rfl⟩
    have hq5 : q ≤ 4 := by rw [hq]; exact hT.len
    have han : a ≤ n := hT.at_
    have HQ := Lib.hid hq
    have HO := Lib.hid ho
    have HTk := Lib.hid hT
    have HB2 := Lib.hid (HB1.out.trans (hb.mono hs1))
    have HB12 := Lib.hid hb
    have k2 := HK1.out.below hb HK1.out.lt
    have HK2 := Lib.hid k2
    have hs2 := hb.size
    obtain ⟨_, _, e, hcx, hrx⟩ := ho.reads
    injection e with e1 _ e3
    subst e1; subst e3
    have HRx := Lib.hid hrx
    rw [← hq]
    rw [← hq] at hcx
    clear ho hT hb k2 hq hrx
    have HRl : Hid (Reads w2 w2.heap.size 1 A n (bts l)) := Lib.hid ((HR.out.below HB2.out).more HB2.out.size)
    have HRc : Hid (Reads w2 w2.heap.size 1 (cutA A c a) (n - a) (bts (l.drop a))) := Lib.hid (by
      have h1 := reads_cut (c := c) HRl.out han (Nat.le_refl _) hc
      rw [← HL.out, List.take_length, HL.out] at h1
      exact h1)
    have kc : ∀ u : World, (Instr.slice 22 (.slice A n c) (some (.int .i64 (a : Int))) none none).run Tryd.prog u = .ok (.slice (cutA A c a) (n - a) (c - a)) u := fun u => run_cut1 Tryd.underlying22 (by kernel_rfl) A n c a han u
    have hain : (a : Int) ≤ (n : Int) := by omega
    have hdl : (l.drop a).length = n - a := by rw [List.length_drop, HL.out]
    have HDl := Lib.hid hdl
    clear hdl
    by_cases h4 : q < 4
    case pos =>
      have HT := Lib.hid (reftake_any (cutA A c a) (n - a) (c - a) (l.drop a) w2 w2.heap.size HRc.out (isB_drop_ HB.out a) (by omega))
      have HFa := Lib.hid (reffault_any (cutA A c a) (n - a) (c - a) (l.drop a) w2 w2.heap.size HRc.out (isB_drop_ HB.out a) (by omega))
      have HC := Lib.hid (tkv_cases (l.drop a) (isB_drop_ HB.out a))
      have HMo : Hid (xs.length < 4) := Lib.hid (by have := HQ.out; omega)
      have t1 : decide ((q : Int) < 4) = true := by simp; omega
      rcases HC.out with ht | ⟨y, k, ht, y0, y1, k1, k2, k3, _⟩
      · have HS := Lib.hid (HTk.out.stop HMo.out (by rw [ht]))
        rw [ht] at HT
        clear ht
        go_wp2_with fail
        refine HT.out.mono ?_
        rintro e w3 ⟨rfl, hw⟩
        rw [← hw]
        clear hw w3
        go_wp2_with fail
        refine HFa.out.mono ?_
        rintro e w3 ⟨rfl, hw⟩
        rw [hw]
        clear hw w3
        have k2 := HK2.out
        have x0 : w2.cell? ⟨p, 0, none⟩ = some (.int .i64 0) := k2.cell 0
        have x1 : w2.cell? ⟨p, 1, none⟩ = some (.int .i64 0) := k2.cell 1
        have x2 : w2.cell? ⟨p, 2, none⟩ = some (.int .i64 0) := k2.cell 2
        have x3 : w2.cell? ⟨p, 3, none⟩ = some (.int .i64 0) := k2.cell 3
        have x4 : w2.cell? ⟨p, 4, none⟩ = some (.int .i64 0) := k2.cell 4
        have x5 : w2.cell? ⟨p, 5, none⟩ = some (.int .i64 0) := k2.cell 5
        have x6 : w2.cell? ⟨p, 6, none⟩ = some (.int .i64 0) := k2.cell 6
        have x7 : w2.cell? ⟨p, 7, none⟩ = some (.int .i64 0) := k2.cell 7
        have x8 : w2.cell? ⟨p, 8, none⟩ = some (.int .i64 0) := k2.cell 8
        have f0 : w2.frozen? ⟨p, 0, none⟩ = false := k2.frozen 0
        have f1 : w2.frozen? ⟨p, 1, none⟩ = false := k2.frozen 1
        have f2 : w2.frozen? ⟨p, 2, none⟩ = false := k2.frozen 2
        have f3 : w2.frozen? ⟨p, 3, none⟩ = false := k2.frozen 3
        have f4 : w2.frozen? ⟨p, 4, none⟩ = false := k2.frozen 4
        have f5 : w2.frozen? ⟨p, 5, none⟩ = false := k2.frozen 5
        have f6 : w2.frozen? ⟨p, 6, none⟩ = false := k2.frozen 6
        have f7 : w2.frozen? ⟨p, 7, none⟩ = false := k2.frozen 7
        have f8 : w2.frozen? ⟨p, 8, none⟩ = false := k2.frozen 8
        obtain ⟨w5, hw5, k5, hb5⟩ := gram_set k2 (.int .i64 0) (.int .i64 0) (.int .i64 0) (.int .i64 0) (.int .i64 0) (.int .i64 0) (.int .i64 0) (.int .i64 0) (.int .i64 0)
        have HB5 := Lib.hid (hb5 w.heap.size w (by have := HPw.out; omega) HB2.out)
        have HW5 := Lib.hid hw5
        have y0_ : w5.cell? ⟨p, 0, none⟩ = some (.int .i64 (0)) := k5.cell 0
        have y1_ : w5.cell? ⟨p, 1, none⟩ = some (.int .i64 (0)) := k5.cell 1
        have y2_ : w5.cell? ⟨p, 2, none⟩ = some (.int .i64 (0)) := k5.cell 2
        have y3_ : w5.cell? ⟨p, 3, none⟩ = some (.int .i64 (0)) := k5.cell 3
        have y4_ : w5.cell? ⟨p, 4, none⟩ = some (.int .i64 (0)) := k5.cell 4
        have y5_ : w5.cell? ⟨p, 5, none⟩ = some (.int .i64 (0)) := k5.cell 5
        have y6_ : w5.cell? ⟨p, 6, none⟩ = some (.int .i64 (0)) := k5.cell 6
        have y7_ : w5.cell? ⟨p, 7, none⟩ = some (.int .i64 (0)) := k5.cell 7
        have y8_ : w5.cell? ⟨p, 8, none⟩ = some (.int .i64 (0)) := k5.cell 8
        clear k2 hw5 k5 hb5
        go_wp2
        rw [← HW5.out]
        refine bodyPost_ret (v := .tuple #[Gm.zero.val, .int .i64 0, .int .i64 (fault (l.drop a))]) (by simp [results, Tryd.f18, go_sem, y0_, y1_, y2_, y3_, y4_, y5_, y6_, y7_, y8_, Gm.val, Gm.zero, Mg.zero]) rfl ⟨?_, HB5.out⟩
        rw [HS.out]
        try rfl
      · have hk0 : ((k : Int) == 0) = false := beq_eq_false_iff_ne.2 (by omega)
        have hkn : a + k ≤ n := by have := HDl.out; omega
        obtain ⟨a2, ha2⟩ : ∃ a2, a2 = a + k := ⟨_, rfl⟩
        have hwr : IntKind.i64.wrap ((a : Int) + (k : Int)) = (a2 : Int) := by rw [IntWalk.i64_in _ (by omega), ha2]; simp
        have HTn : Hid (GkR l n (xs ++ [y]) a2) := Lib.hid (by rw [ha2]; exact HTk.out.step HMo.out ht (by omega) hkn ⟨y0, y1⟩)
        rw [ht] at HT
        clear ht ha2 k3
        go_wp2_with fail
        refine HT.out.mono ?_
        rintro e w3 ⟨rfl, hw⟩
        rw [← hw]
        clear hw w3
        have HOq : Hid (OwnN w2 w1.heap.size (.slice X q cx) xs) := Lib.hid (by rw [HQ.out]; exact HO.out)
        go_wp2_with (at_builtin; refine appN w2 y _ rfl (.tmp 30) (.tmp 32) rfl w1.heap.size _ xs rfl HOq.out w2.heap.size rfl rfl (by have := HQ.out; omega) hs2 ?_; intro v3 w3 hown3 hb3 _; obtain ⟨X3, c3, rfl, _, _⟩ := hown3.reads; have HO3 := Lib.hid hown3; have HB3 := Lib.hid (HB12.out.trans (hb3.mono (Nat.le_refl _))); clear hown3 hb3)
        go_roundw
        case rel => exact ⟨xs ++ [y], a2, X3, c3, by rw [List.length_append]; rfl, rfl, HO3.out, HTn.out, HB3.out⟩
        case measure => simp [lenOf]; have := HQ.out; omega
    case neg =>
    have t1 : decide ((q : Int) < 4) = false := by simp; omega
    have hq4 : q = 4 := by omega
    have HMo : Hid (¬ xs.length < 4) := Lib.hid (by have := HQ.out; omega)
    obtain ⟨g, off, rfl, hgb, hcs⟩ := HRx.out.i64 (by have := HQ.out; omega)
    have hc0 := hcs 0 (by have := HQ.out; omega)
    have hc1 := hcs 1 (by have := HQ.out; omega)
    have hc2 := hcs 2 (by have := HQ.out; omega)
    have hc3 := hcs 3 (by have := HQ.out; omega)
    have HD := Lib.hid (HTk.out.done HMo.out)
    have hgd : gend xs a l = gend [xs.getD 0 0, xs.getD 1 0, xs.getD 2 0, xs.getD 3 0] a l := rfl
    rw [hgd] at HD
    clear hgd
    have r0 := HTk.out.get 0
    have r1 := HTk.out.get 1
    have r2 := HTk.out.get 2
    have r3 := HTk.out.get 3
    obtain ⟨z0, hz0⟩ : ∃ z, z = xs.getD 0 0 := ⟨_, rfl⟩
    obtain ⟨z1, hz1⟩ : ∃ z, z = xs.getD 1 0 := ⟨_, rfl⟩
    obtain ⟨z2, hz2⟩ : ∃ z, z = xs.getD 2 0 := ⟨_, rfl⟩
    obtain ⟨z3, hz3⟩ : ∃ z, z = xs.getD 3 0 := ⟨_, rfl⟩
    rw [← hz0] at hc0 HD r0
    rw [← hz1] at hc1 HD r1
    rw [← hz2] at hc2 HD r2
    rw [← hz3] at hc3 HD r3
    have hlx : 4 ≤ q := by omega
    clear hz0 hz1 hz2 hz3 hcs hq4
    simp only [Nat.add_zero] at hc0
    have HR0 := Lib.hid r0
    have HR1 := Lib.hid r1
    have HR2 := Lib.hid r2
    clear r0 r1 r2
    obtain ⟨r31, r32⟩ := r3
    by_cases h0 : 0 < z3
    case neg =>
      have t3 : decide (0 < z3) = false := by simp; omega
      have HD2 : Hid (gtake l = gfin ⟨z0, z1, z2, z3, ⟨0, 0, 0, 0, 0⟩⟩ a) := Lib.hid (HD.out.trans (if_neg h0))
      have HMI : Hid (Mg.I ⟨0, 0, 0, 0, 0⟩) := Lib.hid mg_zero_i
      go_wp2
      go_region
      go_wp2_with fail
      obtain ⟨pm, hpm⟩ : ∃ pm, pm = w2.heap.size := ⟨_, rfl⟩
      obtain ⟨w3, hw3⟩ : ∃ w3, w3 = (w2.alloc (.cells #[.int .i64 z0, .int .i64 z1, .int .i64 z2, .int .i64 z3, .int .i64 0, .int .i64 0, .int .i64 0, .int .i64 0, .int .i64 0] 26)).drew := ⟨_, rfl⟩
      have hb3 : Below w2.heap.size w2 w3 := by rw [hw3]; exact below_drewN ((Below.refl _ _).alloc (Nat.le_refl _) _) 1
      have kM : Blk w3 pm 26 #[.int .i64 z0, .int .i64 z1, .int .i64 z2, .int .i64 z3, .int .i64 0, .int .i64 0, .int .i64 0, .int .i64 0, .int .i64 0] := by rw [hw3, hpm]; exact (Blk.new w2 _ _).drewN 1
      have HB3 := Lib.hid (HB2.out.trans (hb3.mono HB2.out.size))
      have HK3 := Lib.hid (HK2.out.below hb3 HK2.out.lt)
      have HKM := Lib.hid kM
      have HPm : Hid (p < pm) := Lib.hid (by rw [hpm]; exact HK2.out.lt)
      rw [← hw3, ← hpm]
      clear hw3 hpm hb3 kM
      obtain ⟨t, ht⟩ : ∃ t, t = decide (Gm.Be ⟨z0, z1, z2, z3, ⟨0, 0, 0, 0, 0⟩⟩) := ⟨_, rfl⟩
      have HI : Hid (Gm.I ⟨z0, z1, z2, z3, ⟨0, 0, 0, 0, 0⟩⟩) := Lib.hid ⟨⟨by have := HR0.out; show _ ≤ z0; omega, HR0.out.2⟩, ⟨by have := HR1.out; show _ ≤ z1; omega, HR1.out.2⟩, ⟨by have := HR2.out; show _ ≤ z2; omega, HR2.out.2⟩, ⟨by show _ ≤ z3; omega, by show z3 ≤ _; omega⟩, HMI.out⟩
      have HV := Lib.hid (refvalid9_any ⟨z0, z1, z2, z3, ⟨0, 0, 0, 0, 0⟩⟩ w3 HI.out)
      rw [← ht] at HV
      have HTt := Lib.hid ht
      clear ht
      refine HV.out.mono ?_
      rintro e9 w9 ⟨rfl, hb9⟩
      have HB9 := Lib.hid (HB3.out.trans (hb9.mono HB3.out.size))
      have HK9 := Lib.hid (HK3.out.below hb9 HK3.out.lt)
      have kM := HKM.out.below hb9 HKM.out.lt
      have m0 : w9.cell? ⟨pm, 0, none⟩ = some (.int .i64 (z0)) := kM.cell 0
      have m1 : w9.cell? ⟨pm, 1, none⟩ = some (.int .i64 (z1)) := kM.cell 1
      have m2 : w9.cell? ⟨pm, 2, none⟩ = some (.int .i64 (z2)) := kM.cell 2
      have m3 : w9.cell? ⟨pm, 3, none⟩ = some (.int .i64 (z3)) := kM.cell 3
      have m4 : w9.cell? ⟨pm, 4, none⟩ = some (.int .i64 (0)) := kM.cell 4
      have m5 : w9.cell? ⟨pm, 5, none⟩ = some (.int .i64 (0)) := kM.cell 5
      have m6 : w9.cell? ⟨pm, 6, none⟩ = some (.int .i64 (0)) := kM.cell 6
      have m7 : w9.cell? ⟨pm, 7, none⟩ = some (.int .i64 (0)) := kM.cell 7
      have m8 : w9.cell? ⟨pm, 8, none⟩ = some (.int .i64 (0)) := kM.cell 8
      clear hb9 kM HV
      cases t
      case false =>
        have HS : Hid (gtake l = (Gm.zero, 0, 31)) := Lib.hid (HD2.out.trans (if_neg (of_decide_eq_false HTt.out.symm)))
        have k2 := HK9.out
        have x0 : w9.cell? ⟨p, 0, none⟩ = some (.int .i64 0) := k2.cell 0
        have x1 : w9.cell? ⟨p, 1, none⟩ = some (.int .i64 0) := k2.cell 1
        have x2 : w9.cell? ⟨p, 2, none⟩ = some (.int .i64 0) := k2.cell 2
        have x3 : w9.cell? ⟨p, 3, none⟩ = some (.int .i64 0) := k2.cell 3
        have x4 : w9.cell? ⟨p, 4, none⟩ = some (.int .i64 0) := k2.cell 4
        have x5 : w9.cell? ⟨p, 5, none⟩ = some (.int .i64 0) := k2.cell 5
        have x6 : w9.cell? ⟨p, 6, none⟩ = some (.int .i64 0) := k2.cell 6
        have x7 : w9.cell? ⟨p, 7, none⟩ = some (.int .i64 0) := k2.cell 7
        have x8 : w9.cell? ⟨p, 8, none⟩ = some (.int .i64 0) := k2.cell 8
        have f0 : w9.frozen? ⟨p, 0, none⟩ = false := k2.frozen 0
        have f1 : w9.frozen? ⟨p, 1, none⟩ = false := k2.frozen 1
        have f2 : w9.frozen? ⟨p, 2, none⟩ = false := k2.frozen 2
        have f3 : w9.frozen? ⟨p, 3, none⟩ = false := k2.frozen 3
        have f4 : w9.frozen? ⟨p, 4, none⟩ = false := k2.frozen 4
        have f5 : w9.frozen? ⟨p, 5, none⟩ = false := k2.frozen 5
        have f6 : w9.frozen? ⟨p, 6, none⟩ = false := k2.frozen 6
        have f7 : w9.frozen? ⟨p, 7, none⟩ = false := k2.frozen 7
        have f8 : w9.frozen? ⟨p, 8, none⟩ = false := k2.frozen 8
        obtain ⟨w5, hw5, k5, hb5⟩ := gram_set k2 (.int .i64 0) (.int .i64 0) (.int .i64 0) (.int .i64 0) (.int .i64 0) (.int .i64 0) (.int .i64 0) (.int .i64 0) (.int .i64 0)
        have HB5 := Lib.hid (hb5 w.heap.size w (by have := HPw.out; omega) HB9.out)
        have HW5 := Lib.hid hw5
        have y0_ : w5.cell? ⟨p, 0, none⟩ = some (.int .i64 (0)) := k5.cell 0
        have y1_ : w5.cell? ⟨p, 1, none⟩ = some (.int .i64 (0)) := k5.cell 1
        have y2_ : w5.cell? ⟨p, 2, none⟩ = some (.int .i64 (0)) := k5.cell 2
        have y3_ : w5.cell? ⟨p, 3, none⟩ = some (.int .i64 (0)) := k5.cell 3
        have y4_ : w5.cell? ⟨p, 4, none⟩ = some (.int .i64 (0)) := k5.cell 4
        have y5_ : w5.cell? ⟨p, 5, none⟩ = some (.int .i64 (0)) := k5.cell 5
        have y6_ : w5.cell? ⟨p, 6, none⟩ = some (.int .i64 (0)) := k5.cell 6
        have y7_ : w5.cell? ⟨p, 7, none⟩ = some (.int .i64 (0)) := k5.cell 7
        have y8_ : w5.cell? ⟨p, 8, none⟩ = some (.int .i64 (0)) := k5.cell 8
        clear k2 hw5 k5 hb5
        go_wp2
        rw [← HW5.out]
        refine bodyPost_ret (v := .tuple #[Gm.zero.val, .int .i64 0, .int .i64 (31)]) (by simp [results, Tryd.f18, go_sem, y0_, y1_, y2_, y3_, y4_, y5_, y6_, y7_, y8_, Gm.val, Gm.zero, Mg.zero]) rfl ⟨?_, HB5.out⟩
        rw [HS.out]
        try rfl
      case true =>
        have HS : Hid (gtake l = (⟨z0, z1, z2, z3, ⟨0, 0, 0, 0, 0⟩⟩, a, 0)) := Lib.hid (HD2.out.trans (if_pos (of_decide_eq_true HTt.out.symm)))
        have k2 := HK9.out
        have x0 : w9.cell? ⟨p, 0, none⟩ = some (.int .i64 0) := k2.cell 0
        have x1 : w9.cell? ⟨p, 1, none⟩ = some (.int .i64 0) := k2.cell 1
        have x2 : w9.cell? ⟨p, 2, none⟩ = some (.int .i64 0) := k2.cell 2
        have x3 : w9.cell? ⟨p, 3, none⟩ = some (.int .i64 0) := k2.cell 3
        have x4 : w9.cell? ⟨p, 4, none⟩ = some (.int .i64 0) := k2.cell 4
        have x5 : w9.cell? ⟨p, 5, none⟩ = some (.int .i64 0) := k2.cell 5
        have x6 : w9.cell? ⟨p, 6, none⟩ = some (.int .i64 0) := k2.cell 6
        have x7 : w9.cell? ⟨p, 7, none⟩ = some (.int .i64 0) := k2.cell 7
        have x8 : w9.cell? ⟨p, 8, none⟩ = some (.int .i64 0) := k2.cell 8
        have f0 : w9.frozen? ⟨p, 0, none⟩ = false := k2.frozen 0
        have f1 : w9.frozen? ⟨p, 1, none⟩ = false := k2.frozen 1
        have f2 : w9.frozen? ⟨p, 2, none⟩ = false := k2.frozen 2
        have f3 : w9.frozen? ⟨p, 3, none⟩ = false := k2.frozen 3
        have f4 : w9.frozen? ⟨p, 4, none⟩ = false := k2.frozen 4
        have f5 : w9.frozen? ⟨p, 5, none⟩ = false := k2.frozen 5
        have f6 : w9.frozen? ⟨p, 6, none⟩ = false := k2.frozen 6
        have f7 : w9.frozen? ⟨p, 7, none⟩ = false := k2.frozen 7
        have f8 : w9.frozen? ⟨p, 8, none⟩ = false := k2.frozen 8
        obtain ⟨w5, hw5, k5, hb5⟩ := gram_set k2 (.int .i64 (z0)) (.int .i64 (z1)) (.int .i64 (z2)) (.int .i64 (z3)) (.int .i64 0) (.int .i64 0) (.int .i64 0) (.int .i64 0) (.int .i64 0)
        have HB5 := Lib.hid (hb5 w.heap.size w (by have := HPw.out; omega) HB9.out)
        have HW5 := Lib.hid hw5
        have y0_ : w5.cell? ⟨p, 0, none⟩ = some (.int .i64 (z0)) := k5.cell 0
        have y1_ : w5.cell? ⟨p, 1, none⟩ = some (.int .i64 (z1)) := k5.cell 1
        have y2_ : w5.cell? ⟨p, 2, none⟩ = some (.int .i64 (z2)) := k5.cell 2
        have y3_ : w5.cell? ⟨p, 3, none⟩ = some (.int .i64 (z3)) := k5.cell 3
        have y4_ : w5.cell? ⟨p, 4, none⟩ = some (.int .i64 (0)) := k5.cell 4
        have y5_ : w5.cell? ⟨p, 5, none⟩ = some (.int .i64 (0)) := k5.cell 5
        have y6_ : w5.cell? ⟨p, 6, none⟩ = some (.int .i64 (0)) := k5.cell 6
        have y7_ : w5.cell? ⟨p, 7, none⟩ = some (.int .i64 (0)) := k5.cell 7
        have y8_ : w5.cell? ⟨p, 8, none⟩ = some (.int .i64 (0)) := k5.cell 8
        clear k2 hw5 k5 hb5
        go_wp2
        rw [← HW5.out]
        refine bodyPost_ret (v := .tuple #[Gm.val ⟨z0, z1, z2, z3, ⟨0, 0, 0, 0, 0⟩⟩, .int .i64 (a : Nat), .int .i64 (0)]) (by simp [results, Tryd.f18, go_sem, y0_, y1_, y2_, y3_, y4_, y5_, y6_, y7_, y8_, Gm.val]) rfl ⟨?_, HB5.out⟩
        rw [HS.out]
        try rfl
    case pos =>
      have t3 : decide (0 < z3) = true := by simp; omega
      have HWi := Lib.hid (wtake_i (l.drop a) (isB_drop_ HB.out a))
      obtain ⟨⟨⟨k, o, d, u, v⟩, j, e⟩, hwt⟩ : ∃ r, r = wtake (l.drop a) := ⟨_, rfl⟩
      have HDa := Lib.hid (HD.out.trans (if_pos h0))
      rw [← hwt] at HWi HDa
      have HMI : Hid (Mg.I ⟨k, o, d, u, v⟩) := Lib.hid HWi.out.1
      have hje : e = 0 ∨ e = 30 ∨ e = 31 := HWi.out.2.1
      have haj : a + j ≤ n := by have h1 : j ≤ (l.drop a).length := HWi.out.2.2; have := HDl.out; omega
      have HDb : Hid (gtake l = if e = 0 then gfin ⟨z0, z1, z2, z3, ⟨k, o, d, u, v⟩⟩ (a + j) else (Gm.zero, 0, e)) := Lib.hid HDa.out
      have HWt := Lib.hid hwt
      clear hwt HDa HWi
      go_wp2
      go_region
      go_wp2_with fail
      obtain ⟨pm, hpm⟩ : ∃ pm, pm = w2.heap.size := ⟨_, rfl⟩
      obtain ⟨w3, hw3⟩ : ∃ w3, w3 = (w2.alloc (.cells #[.int .i64 z0, .int .i64 z1, .int .i64 z2, .int .i64 z3, .int .i64 0, .int .i64 0, .int .i64 0, .int .i64 0, .int .i64 0] 26)).drew := ⟨_, rfl⟩
      have hb3 : Below w2.heap.size w2 w3 := by rw [hw3]; exact below_drewN ((Below.refl _ _).alloc (Nat.le_refl _) _) 1
      have kM : Blk w3 pm 26 #[.int .i64 z0, .int .i64 z1, .int .i64 z2, .int .i64 z3, .int .i64 0, .int .i64 0, .int .i64 0, .int .i64 0, .int .i64 0] := by rw [hw3, hpm]; exact (Blk.new w2 _ _).drewN 1
      have HB3 := Lib.hid (HB2.out.trans (hb3.mono HB2.out.size))
      have HK3 := Lib.hid (HK2.out.below hb3 HK2.out.lt)
      have HKM := Lib.hid kM
      have HPm : Hid (p < pm) := Lib.hid (by rw [hpm]; exact HK2.out.lt)
      rw [← hw3, ← hpm]
      have HRc3 : Hid (Reads w3 w3.heap.size 1 (cutA A c a) (n - a) (bts (l.drop a))) := Lib.hid ((HRc.out.below hb3).more hb3.size)
      clear hw3 hpm hb3 kM
      have HT8 := Lib.hid (reftake8_any (cutA A c a) (n - a) (c - a) (l.drop a) w3 w3.heap.size HRc3.out (by omega) (isB_drop_ HB.out a) (Nat.le_refl _) (by omega))
      rw [← HWt.out] at HT8
      unfold Mg.val at HT8
      try simp only at HT8
      refine HT8.out.mono ?_
      rintro e4 w4 ⟨rfl, hb4⟩
      have HB4 := Lib.hid (HB3.out.trans (hb4.mono HB3.out.size))
      have HK4 := Lib.hid (HK3.out.below hb4 HK3.out.lt)
      have HKM4 := Lib.hid (HKM.out.below hb4 HKM.out.lt)
      clear hb4
      have hb4b : Below w4.heap.size w4 (w4.alloc (.cells #[.int .i64 k, .int .i64 o, .int .i64 d, .int .i64 u, .int .i64 v] 24)) := (Below.refl _ _).alloc (Nat.le_refl _) _
      have HB4b := Lib.hid (HB4.out.trans (hb4b.mono HB4.out.size))
      have HK4b := Lib.hid (HK4.out.below hb4b HK4.out.lt)
      have HKM4b := Lib.hid (HKM4.out.below hb4b HKM4.out.lt)
      clear hb4b
      by_cases he : e = 0
      case neg =>
        have te : (e == 0) = false := by simpa using he
        have HS : Hid (gtake l = (Gm.zero, 0, e)) := Lib.hid (HDb.out.trans (if_neg he))
        clear hje
        have k2 := HK4b.out
        have x0 : (w4.alloc (.cells #[.int .i64 k, .int .i64 o, .int .i64 d, .int .i64 u, .int .i64 v] 24)).cell? ⟨p, 0, none⟩ = some (.int .i64 0) := k2.cell 0
        have x1 : (w4.alloc (.cells #[.int .i64 k, .int .i64 o, .int .i64 d, .int .i64 u, .int .i64 v] 24)).cell? ⟨p, 1, none⟩ = some (.int .i64 0) := k2.cell 1
        have x2 : (w4.alloc (.cells #[.int .i64 k, .int .i64 o, .int .i64 d, .int .i64 u, .int .i64 v] 24)).cell? ⟨p, 2, none⟩ = some (.int .i64 0) := k2.cell 2
        have x3 : (w4.alloc (.cells #[.int .i64 k, .int .i64 o, .int .i64 d, .int .i64 u, .int .i64 v] 24)).cell? ⟨p, 3, none⟩ = some (.int .i64 0) := k2.cell 3
        have x4 : (w4.alloc (.cells #[.int .i64 k, .int .i64 o, .int .i64 d, .int .i64 u, .int .i64 v] 24)).cell? ⟨p, 4, none⟩ = some (.int .i64 0) := k2.cell 4
        have x5 : (w4.alloc (.cells #[.int .i64 k, .int .i64 o, .int .i64 d, .int .i64 u, .int .i64 v] 24)).cell? ⟨p, 5, none⟩ = some (.int .i64 0) := k2.cell 5
        have x6 : (w4.alloc (.cells #[.int .i64 k, .int .i64 o, .int .i64 d, .int .i64 u, .int .i64 v] 24)).cell? ⟨p, 6, none⟩ = some (.int .i64 0) := k2.cell 6
        have x7 : (w4.alloc (.cells #[.int .i64 k, .int .i64 o, .int .i64 d, .int .i64 u, .int .i64 v] 24)).cell? ⟨p, 7, none⟩ = some (.int .i64 0) := k2.cell 7
        have x8 : (w4.alloc (.cells #[.int .i64 k, .int .i64 o, .int .i64 d, .int .i64 u, .int .i64 v] 24)).cell? ⟨p, 8, none⟩ = some (.int .i64 0) := k2.cell 8
        have f0 : (w4.alloc (.cells #[.int .i64 k, .int .i64 o, .int .i64 d, .int .i64 u, .int .i64 v] 24)).frozen? ⟨p, 0, none⟩ = false := k2.frozen 0
        have f1 : (w4.alloc (.cells #[.int .i64 k, .int .i64 o, .int .i64 d, .int .i64 u, .int .i64 v] 24)).frozen? ⟨p, 1, none⟩ = false := k2.frozen 1
        have f2 : (w4.alloc (.cells #[.int .i64 k, .int .i64 o, .int .i64 d, .int .i64 u, .int .i64 v] 24)).frozen? ⟨p, 2, none⟩ = false := k2.frozen 2
        have f3 : (w4.alloc (.cells #[.int .i64 k, .int .i64 o, .int .i64 d, .int .i64 u, .int .i64 v] 24)).frozen? ⟨p, 3, none⟩ = false := k2.frozen 3
        have f4 : (w4.alloc (.cells #[.int .i64 k, .int .i64 o, .int .i64 d, .int .i64 u, .int .i64 v] 24)).frozen? ⟨p, 4, none⟩ = false := k2.frozen 4
        have f5 : (w4.alloc (.cells #[.int .i64 k, .int .i64 o, .int .i64 d, .int .i64 u, .int .i64 v] 24)).frozen? ⟨p, 5, none⟩ = false := k2.frozen 5
        have f6 : (w4.alloc (.cells #[.int .i64 k, .int .i64 o, .int .i64 d, .int .i64 u, .int .i64 v] 24)).frozen? ⟨p, 6, none⟩ = false := k2.frozen 6
        have f7 : (w4.alloc (.cells #[.int .i64 k, .int .i64 o, .int .i64 d, .int .i64 u, .int .i64 v] 24)).frozen? ⟨p, 7, none⟩ = false := k2.frozen 7
        have f8 : (w4.alloc (.cells #[.int .i64 k, .int .i64 o, .int .i64 d, .int .i64 u, .int .i64 v] 24)).frozen? ⟨p, 8, none⟩ = false := k2.frozen 8
        obtain ⟨w5, hw5, k5, hb5⟩ := gram_set k2 (.int .i64 0) (.int .i64 0) (.int .i64 0) (.int .i64 0) (.int .i64 0) (.int .i64 0) (.int .i64 0) (.int .i64 0) (.int .i64 0)
        have HB5 := Lib.hid (hb5 w.heap.size w (by have := HPw.out; omega) HB4b.out)
        have HW5 := Lib.hid hw5
        have y0_ : w5.cell? ⟨p, 0, none⟩ = some (.int .i64 (0)) := k5.cell 0
        have y1_ : w5.cell? ⟨p, 1, none⟩ = some (.int .i64 (0)) := k5.cell 1
        have y2_ : w5.cell? ⟨p, 2, none⟩ = some (.int .i64 (0)) := k5.cell 2
        have y3_ : w5.cell? ⟨p, 3, none⟩ = some (.int .i64 (0)) := k5.cell 3
        have y4_ : w5.cell? ⟨p, 4, none⟩ = some (.int .i64 (0)) := k5.cell 4
        have y5_ : w5.cell? ⟨p, 5, none⟩ = some (.int .i64 (0)) := k5.cell 5
        have y6_ : w5.cell? ⟨p, 6, none⟩ = some (.int .i64 (0)) := k5.cell 6
        have y7_ : w5.cell? ⟨p, 7, none⟩ = some (.int .i64 (0)) := k5.cell 7
        have y8_ : w5.cell? ⟨p, 8, none⟩ = some (.int .i64 (0)) := k5.cell 8
        clear k2 hw5 k5 hb5
        go_wp2
        rw [← HW5.out]
        refine bodyPost_ret (v := .tuple #[Gm.zero.val, .int .i64 0, .int .i64 (e)]) (by simp [results, Tryd.f18, go_sem, y0_, y1_, y2_, y3_, y4_, y5_, y6_, y7_, y8_, Gm.val, Gm.zero, Mg.zero]) rfl ⟨?_, HB5.out⟩
        rw [HS.out]
        try rfl
      case pos =>
        subst he
        have HD2 : Hid (gtake l = gfin ⟨z0, z1, z2, z3, ⟨k, o, d, u, v⟩⟩ (a + j)) := Lib.hid (HDb.out.trans (if_pos rfl))
        have km := HKM4b.out
        have g4_ : (w4.alloc (.cells #[.int .i64 k, .int .i64 o, .int .i64 d, .int .i64 u, .int .i64 v] 24)).frozen? ⟨pm, 4, none⟩ = false := km.frozen 4
        have g5_ : (w4.alloc (.cells #[.int .i64 k, .int .i64 o, .int .i64 d, .int .i64 u, .int .i64 v] 24)).frozen? ⟨pm, 5, none⟩ = false := km.frozen 5
        have g6_ : (w4.alloc (.cells #[.int .i64 k, .int .i64 o, .int .i64 d, .int .i64 u, .int .i64 v] 24)).frozen? ⟨pm, 6, none⟩ = false := km.frozen 6
        have g7_ : (w4.alloc (.cells #[.int .i64 k, .int .i64 o, .int .i64 d, .int .i64 u, .int .i64 v] 24)).frozen? ⟨pm, 7, none⟩ = false := km.frozen 7
        have g8_ : (w4.alloc (.cells #[.int .i64 k, .int .i64 o, .int .i64 d, .int .i64 u, .int .i64 v] 24)).frozen? ⟨pm, 8, none⟩ = false := km.frozen 8
        have q0_ : (w4.alloc (.cells #[.int .i64 k, .int .i64 o, .int .i64 d, .int .i64 u, .int .i64 v] 24)).cell? ⟨pm, 0, none⟩ = some (.int .i64 (z0)) := km.cell 0
        have q1_ : (w4.alloc (.cells #[.int .i64 k, .int .i64 o, .int .i64 d, .int .i64 u, .int .i64 v] 24)).cell? ⟨pm, 1, none⟩ = some (.int .i64 (z1)) := km.cell 1
        have q2_ : (w4.alloc (.cells #[.int .i64 k, .int .i64 o, .int .i64 d, .int .i64 u, .int .i64 v] 24)).cell? ⟨pm, 2, none⟩ = some (.int .i64 (z2)) := km.cell 2
        have q3_ : (w4.alloc (.cells #[.int .i64 k, .int .i64 o, .int .i64 d, .int .i64 u, .int .i64 v] 24)).cell? ⟨pm, 3, none⟩ = some (.int .i64 (z3)) := km.cell 3
        have q4_ : (w4.alloc (.cells #[.int .i64 k, .int .i64 o, .int .i64 d, .int .i64 u, .int .i64 v] 24)).cell? ⟨pm, 4, none⟩ = some (.int .i64 (0)) := km.cell 4
        have q5_ : (w4.alloc (.cells #[.int .i64 k, .int .i64 o, .int .i64 d, .int .i64 u, .int .i64 v] 24)).cell? ⟨pm, 5, none⟩ = some (.int .i64 (0)) := km.cell 5
        have q6_ : (w4.alloc (.cells #[.int .i64 k, .int .i64 o, .int .i64 d, .int .i64 u, .int .i64 v] 24)).cell? ⟨pm, 6, none⟩ = some (.int .i64 (0)) := km.cell 6
        have q7_ : (w4.alloc (.cells #[.int .i64 k, .int .i64 o, .int .i64 d, .int .i64 u, .int .i64 v] 24)).cell? ⟨pm, 7, none⟩ = some (.int .i64 (0)) := km.cell 7
        have q8_ : (w4.alloc (.cells #[.int .i64 k, .int .i64 o, .int .i64 d, .int .i64 u, .int .i64 v] 24)).cell? ⟨pm, 8, none⟩ = some (.int .i64 (0)) := km.cell 8
        obtain ⟨w6, hw6, k6, hb6, hp6⟩ := gram_msg km (.int .i64 k) (.int .i64 o) (.int .i64 d) (.int .i64 u) (.int .i64 v)
        have HB6 := Lib.hid (hb6 w.heap.size w (by have := HPw.out; have := HPm.out; omega) HB4b.out)
        have HKM6 := Lib.hid k6
        have HK6 := Lib.hid (hp6 p (by have := HPm.out; omega) _ _ HK4b.out)
        have HW6 := Lib.hid hw6
        have s0_ : w6.cell? ⟨pm, 0, none⟩ = some (.int .i64 (z0)) := k6.cell 0
        have s1_ : w6.cell? ⟨pm, 1, none⟩ = some (.int .i64 (z1)) := k6.cell 1
        have s2_ : w6.cell? ⟨pm, 2, none⟩ = some (.int .i64 (z2)) := k6.cell 2
        have s3_ : w6.cell? ⟨pm, 3, none⟩ = some (.int .i64 (z3)) := k6.cell 3
        have s4_ : w6.cell? ⟨pm, 4, none⟩ = some (.int .i64 (k)) := k6.cell 4
        have s5_ : w6.cell? ⟨pm, 5, none⟩ = some (.int .i64 (o)) := k6.cell 5
        have s6_ : w6.cell? ⟨pm, 6, none⟩ = some (.int .i64 (d)) := k6.cell 6
        have s7_ : w6.cell? ⟨pm, 7, none⟩ = some (.int .i64 (u)) := k6.cell 7
        have s8_ : w6.cell? ⟨pm, 8, none⟩ = some (.int .i64 (v)) := k6.cell 8
        have hwr : IntKind.i64.wrap ((a : Int) + (j : Int)) = ((a + j : Nat) : Int) := by rw [IntWalk.i64_in _ (by omega)]; simp
        obtain ⟨a2, ha2⟩ : ∃ a2, a2 = a + j := ⟨_, rfl⟩
        rw [← ha2] at hwr HD2
        clear km k6 hb6 hp6 hw6 ha2
        go_wp2_with fail
        rw [← HW6.out]
        obtain ⟨t, ht⟩ : ∃ t, t = decide (Gm.Be ⟨z0, z1, z2, z3, ⟨k, o, d, u, v⟩⟩) := ⟨_, rfl⟩
        have HI : Hid (Gm.I ⟨z0, z1, z2, z3, ⟨k, o, d, u, v⟩⟩) := Lib.hid ⟨⟨by have := HR0.out; show _ ≤ z0; omega, HR0.out.2⟩, ⟨by have := HR1.out; show _ ≤ z1; omega, HR1.out.2⟩, ⟨by have := HR2.out; show _ ≤ z2; omega, HR2.out.2⟩, ⟨by show _ ≤ z3; omega, by show z3 ≤ _; omega⟩, HMI.out⟩
        have HV := Lib.hid (refvalid9_any ⟨z0, z1, z2, z3, ⟨k, o, d, u, v⟩⟩ w6 HI.out)
        rw [← ht] at HV
        have HTt := Lib.hid ht
        clear ht
        refine HV.out.mono ?_
        rintro e9 w9 ⟨rfl, hb9⟩
        have HB9 := Lib.hid (HB6.out.trans (hb9.mono HB6.out.size))
        have HK9 := Lib.hid (HK6.out.below hb9 HK6.out.lt)
        have kM := HKM6.out.below hb9 HKM6.out.lt
        have m0 : w9.cell? ⟨pm, 0, none⟩ = some (.int .i64 (z0)) := kM.cell 0
        have m1 : w9.cell? ⟨pm, 1, none⟩ = some (.int .i64 (z1)) := kM.cell 1
        have m2 : w9.cell? ⟨pm, 2, none⟩ = some (.int .i64 (z2)) := kM.cell 2
        have m3 : w9.cell? ⟨pm, 3, none⟩ = some (.int .i64 (z3)) := kM.cell 3
        have m4 : w9.cell? ⟨pm, 4, none⟩ = some (.int .i64 (k)) := kM.cell 4
        have m5 : w9.cell? ⟨pm, 5, none⟩ = some (.int .i64 (o)) := kM.cell 5
        have m6 : w9.cell? ⟨pm, 6, none⟩ = some (.int .i64 (d)) := kM.cell 6
        have m7 : w9.cell? ⟨pm, 7, none⟩ = some (.int .i64 (u)) := kM.cell 7
        have m8 : w9.cell? ⟨pm, 8, none⟩ = some (.int .i64 (v)) := kM.cell 8
        clear hb9 kM HV
        cases t
        case false =>
          have HS : Hid (gtake l = (Gm.zero, 0, 31)) := Lib.hid (HD2.out.trans (if_neg (of_decide_eq_false HTt.out.symm)))
          have k2 := HK9.out
          have x0 : w9.cell? ⟨p, 0, none⟩ = some (.int .i64 0) := k2.cell 0
          have x1 : w9.cell? ⟨p, 1, none⟩ = some (.int .i64 0) := k2.cell 1
          have x2 : w9.cell? ⟨p, 2, none⟩ = some (.int .i64 0) := k2.cell 2
          have x3 : w9.cell? ⟨p, 3, none⟩ = some (.int .i64 0) := k2.cell 3
          have x4 : w9.cell? ⟨p, 4, none⟩ = some (.int .i64 0) := k2.cell 4
          have x5 : w9.cell? ⟨p, 5, none⟩ = some (.int .i64 0) := k2.cell 5
          have x6 : w9.cell? ⟨p, 6, none⟩ = some (.int .i64 0) := k2.cell 6
          have x7 : w9.cell? ⟨p, 7, none⟩ = some (.int .i64 0) := k2.cell 7
          have x8 : w9.cell? ⟨p, 8, none⟩ = some (.int .i64 0) := k2.cell 8
          have f0 : w9.frozen? ⟨p, 0, none⟩ = false := k2.frozen 0
          have f1 : w9.frozen? ⟨p, 1, none⟩ = false := k2.frozen 1
          have f2 : w9.frozen? ⟨p, 2, none⟩ = false := k2.frozen 2
          have f3 : w9.frozen? ⟨p, 3, none⟩ = false := k2.frozen 3
          have f4 : w9.frozen? ⟨p, 4, none⟩ = false := k2.frozen 4
          have f5 : w9.frozen? ⟨p, 5, none⟩ = false := k2.frozen 5
          have f6 : w9.frozen? ⟨p, 6, none⟩ = false := k2.frozen 6
          have f7 : w9.frozen? ⟨p, 7, none⟩ = false := k2.frozen 7
          have f8 : w9.frozen? ⟨p, 8, none⟩ = false := k2.frozen 8
          obtain ⟨w5, hw5, k5, hb5⟩ := gram_set k2 (.int .i64 0) (.int .i64 0) (.int .i64 0) (.int .i64 0) (.int .i64 0) (.int .i64 0) (.int .i64 0) (.int .i64 0) (.int .i64 0)
          have HB5 := Lib.hid (hb5 w.heap.size w (by have := HPw.out; omega) HB9.out)
          have HW5 := Lib.hid hw5
          have y0_ : w5.cell? ⟨p, 0, none⟩ = some (.int .i64 (0)) := k5.cell 0
          have y1_ : w5.cell? ⟨p, 1, none⟩ = some (.int .i64 (0)) := k5.cell 1
          have y2_ : w5.cell? ⟨p, 2, none⟩ = some (.int .i64 (0)) := k5.cell 2
          have y3_ : w5.cell? ⟨p, 3, none⟩ = some (.int .i64 (0)) := k5.cell 3
          have y4_ : w5.cell? ⟨p, 4, none⟩ = some (.int .i64 (0)) := k5.cell 4
          have y5_ : w5.cell? ⟨p, 5, none⟩ = some (.int .i64 (0)) := k5.cell 5
          have y6_ : w5.cell? ⟨p, 6, none⟩ = some (.int .i64 (0)) := k5.cell 6
          have y7_ : w5.cell? ⟨p, 7, none⟩ = some (.int .i64 (0)) := k5.cell 7
          have y8_ : w5.cell? ⟨p, 8, none⟩ = some (.int .i64 (0)) := k5.cell 8
          clear k2 hw5 k5 hb5
          go_wp2
          rw [← HW5.out]
          refine bodyPost_ret (v := .tuple #[Gm.zero.val, .int .i64 0, .int .i64 (31)]) (by simp [results, Tryd.f18, go_sem, y0_, y1_, y2_, y3_, y4_, y5_, y6_, y7_, y8_, Gm.val, Gm.zero, Mg.zero]) rfl ⟨?_, HB5.out⟩
          rw [HS.out]
          try rfl
        case true =>
          have HS : Hid (gtake l = (⟨z0, z1, z2, z3, ⟨k, o, d, u, v⟩⟩, a2, 0)) := Lib.hid (HD2.out.trans (if_pos (of_decide_eq_true HTt.out.symm)))
          have k2 := HK9.out
          have x0 : w9.cell? ⟨p, 0, none⟩ = some (.int .i64 0) := k2.cell 0
          have x1 : w9.cell? ⟨p, 1, none⟩ = some (.int .i64 0) := k2.cell 1
          have x2 : w9.cell? ⟨p, 2, none⟩ = some (.int .i64 0) := k2.cell 2
          have x3 : w9.cell? ⟨p, 3, none⟩ = some (.int .i64 0) := k2.cell 3
          have x4 : w9.cell? ⟨p, 4, none⟩ = some (.int .i64 0) := k2.cell 4
          have x5 : w9.cell? ⟨p, 5, none⟩ = some (.int .i64 0) := k2.cell 5
          have x6 : w9.cell? ⟨p, 6, none⟩ = some (.int .i64 0) := k2.cell 6
          have x7 : w9.cell? ⟨p, 7, none⟩ = some (.int .i64 0) := k2.cell 7
          have x8 : w9.cell? ⟨p, 8, none⟩ = some (.int .i64 0) := k2.cell 8
          have f0 : w9.frozen? ⟨p, 0, none⟩ = false := k2.frozen 0
          have f1 : w9.frozen? ⟨p, 1, none⟩ = false := k2.frozen 1
          have f2 : w9.frozen? ⟨p, 2, none⟩ = false := k2.frozen 2
          have f3 : w9.frozen? ⟨p, 3, none⟩ = false := k2.frozen 3
          have f4 : w9.frozen? ⟨p, 4, none⟩ = false := k2.frozen 4
          have f5 : w9.frozen? ⟨p, 5, none⟩ = false := k2.frozen 5
          have f6 : w9.frozen? ⟨p, 6, none⟩ = false := k2.frozen 6
          have f7 : w9.frozen? ⟨p, 7, none⟩ = false := k2.frozen 7
          have f8 : w9.frozen? ⟨p, 8, none⟩ = false := k2.frozen 8
          obtain ⟨w5, hw5, k5, hb5⟩ := gram_set k2 (.int .i64 (z0)) (.int .i64 (z1)) (.int .i64 (z2)) (.int .i64 (z3)) (.int .i64 (k)) (.int .i64 (o)) (.int .i64 (d)) (.int .i64 (u)) (.int .i64 (v))
          have HB5 := Lib.hid (hb5 w.heap.size w (by have := HPw.out; omega) HB9.out)
          have HW5 := Lib.hid hw5
          have y0_ : w5.cell? ⟨p, 0, none⟩ = some (.int .i64 (z0)) := k5.cell 0
          have y1_ : w5.cell? ⟨p, 1, none⟩ = some (.int .i64 (z1)) := k5.cell 1
          have y2_ : w5.cell? ⟨p, 2, none⟩ = some (.int .i64 (z2)) := k5.cell 2
          have y3_ : w5.cell? ⟨p, 3, none⟩ = some (.int .i64 (z3)) := k5.cell 3
          have y4_ : w5.cell? ⟨p, 4, none⟩ = some (.int .i64 (k)) := k5.cell 4
          have y5_ : w5.cell? ⟨p, 5, none⟩ = some (.int .i64 (o)) := k5.cell 5
          have y6_ : w5.cell? ⟨p, 6, none⟩ = some (.int .i64 (d)) := k5.cell 6
          have y7_ : w5.cell? ⟨p, 7, none⟩ = some (.int .i64 (u)) := k5.cell 7
          have y8_ : w5.cell? ⟨p, 8, none⟩ = some (.int .i64 (v)) := k5.cell 8
          clear k2 hw5 k5 hb5
          go_wp2
          rw [← HW5.out]
          refine bodyPost_ret (v := .tuple #[Gm.val ⟨z0, z1, z2, z3, ⟨k, o, d, u, v⟩⟩, .int .i64 (a2 : Nat), .int .i64 (0)]) (by simp [results, Tryd.f18, go_sem, y0_, y1_, y2_, y3_, y4_, y5_, y6_, y7_, y8_, Gm.val]) rfl ⟨?_, HB5.out⟩
          rw [HS.out]
          try rfl
end Go.Proofs.YtmegpbejknmjbaaDoor.Pk
