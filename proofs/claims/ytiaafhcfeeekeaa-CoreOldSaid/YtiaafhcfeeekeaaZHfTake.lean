/- The landed Heard of package half. -/
import Derived.Test.YtiaafhcfeeekeaaZHfPush
import Derived.Test.YtiaafhcfeeekeaaZHfSpec
import Derived.Test.YtiaafhcfeeekeaaZStGoodEdge
import Derived.Test.YtiaafhcfeeekeaaZHfRef4
namespace Go.Proofs.Ytiaafhcfeeekeaa.Pk
open Go.RowKit
set_option linter.unusedVariables false
set_option maxRecDepth 100000 in
set_option maxHeartbeats 4000000 in
theorem heardH : HeardH := by
  intro h a A n c w hin ia ja
  obtain ⟨r, hr⟩ : ∃ r, r = hheard h a := ⟨_, rfl⟩
  have HP := Lib.hid hr
  rw [← hr]
  clear hr
  obtain ⟨p, b, o, s⟩ := h
  have HL : Hid (o.length = n) := Lib.hid hin.len
  have HIn := Lib.hid hin
  have HG := Lib.hid (fun w' (hb : Below w.heap.size w w') => goodH _ A n c w' (hin.next hb))
  have HR := Lib.hid hin.rd
  have hfew := hin.few
  have hnc := hin.cap
  obtain ⟨⟨ip, jp⟩, ⟨ib, jb⟩, ⟨is_, js⟩, -⟩ := hin.i
  unfold Hf.val at HG ⊢
  simp only at HG HR ip jp ib jb is_ js ⊢
  clear hin
  go_enter Try.func65, Try.ntmps65
  obtain ⟨x1, hx1⟩ : ∃ x, x = w.heap.size := ⟨_, rfl⟩
  obtain ⟨pr, hpr⟩ : ∃ x, x = x1 + 1 := ⟨_, rfl⟩
  obtain ⟨wa, hwa⟩ : ∃ wa, wa = w.alloc (.cells #[.int .i64 p, .int .i64 b, .slice A n c, .int .i64 s] 50) := ⟨_, rfl⟩
  obtain ⟨w1, hw1⟩ : ∃ w1, w1 = wa.alloc (.cells #[.int .i64 0, .int .i64 0, .slice none 0 0, .int .i64 0] 50) := ⟨_, rfl⟩
  have hsa : wa.heap.size = x1 + 1 := by rw [hwa, World.size_alloc, hx1]
  have hba : Below w.heap.size w wa := hwa ▸ (Below.refl _ _).alloc (Nat.le_refl _) _
  have HB1 : Hid (Below w.heap.size w w1) := Lib.hid (hw1 ▸ hba.alloc (by omega) _)
  have HE1 : Hid (Blk w1 x1 50 #[.int .i64 p, .int .i64 b, .slice A n c, .int .i64 s]) := Lib.hid (by rw [hw1, hwa, hx1]; exact (Blk.new w _ _).alloc _)
  have HK1 : Hid (Blk w1 pr 50 #[.int .i64 0, .int .i64 0, .slice none 0 0, .int .i64 0]) := Lib.hid (by rw [hw1, hpr, ← hsa]; exact Blk.new wa _ _)
  have HPr : Hid (w.heap.size + 1 = pr) := Lib.hid (by omega)
  have HX1 : Hid (w.heap.size = x1) := Lib.hid (by omega)
  have HNe : Hid (x1 ≠ pr) := Lib.hid (by omega)
  go_wp2_with fail
  rw [← hwa, ← hw1, ← hx1, ← hpr]
  clear hwa hw1 hx1 hpr hsa hba wa
  refine (HG.out w1 HB1.out).mono ?_
  rintro e w2 ⟨rfl, hb2⟩
  have HB2 := Lib.hid (HB1.out.trans (hb2.mono HB1.out.size))
  have HE2 := Lib.hid (HE1.out.below hb2 HE1.out.lt)
  have HK2 := Lib.hid (HK1.out.below hb2 HK1.out.lt)
  clear hb2 HE1 HK1 HB1
  by_cases hbe : Hf.Be ⟨p, b, o, s⟩
  case neg =>
    have HS : Hid (r = (Hf.zero, 24)) := Lib.hid (by rw [HP.out]; exact if_neg hbe)
    rw [decide_eq_false hbe]
    clear hbe
    have k2 := HK2.out
    have x0_ : w2.cell? ⟨pr, 0, none⟩ = some (.int .i64 0) := k2.cell 0
    have x1_ : w2.cell? ⟨pr, 1, none⟩ = some (.int .i64 0) := k2.cell 1
    have x2_ : w2.cell? ⟨pr, 2, none⟩ = some (.slice none 0 0) := k2.cell 2
    have x3_ : w2.cell? ⟨pr, 3, none⟩ = some (.int .i64 0) := k2.cell 3
    have f0_ : w2.frozen? ⟨pr, 0, none⟩ = false := k2.frozen 0
    have f1_ : w2.frozen? ⟨pr, 1, none⟩ = false := k2.frozen 1
    have f2_ : w2.frozen? ⟨pr, 2, none⟩ = false := k2.frozen 2
    have f3_ : w2.frozen? ⟨pr, 3, none⟩ = false := k2.frozen 3
    obtain ⟨w5, hw5, k5, hb5, ho5⟩ := edge_set k2 (.int .i64 0) (.int .i64 0) (.slice none 0 0) (.int .i64 0)
    have HB5 := Lib.hid (hb5 w.heap.size w (by have := HPr.out; omega) HB2.out)
    have HW5 := Lib.hid hw5
    have y0_ : w5.cell? ⟨pr, 0, none⟩ = some (.int .i64 0) := k5.cell 0
    have y1_ : w5.cell? ⟨pr, 1, none⟩ = some (.int .i64 0) := k5.cell 1
    have y2_ : w5.cell? ⟨pr, 2, none⟩ = some (.slice none 0 0) := k5.cell 2
    have y3_ : w5.cell? ⟨pr, 3, none⟩ = some (.int .i64 0) := k5.cell 3
    clear k2 hw5 k5 hb5 ho5
    go_wp2
    rw [← HW5.out]
    refine bodyPost_ret (v := .tuple #[.agg #[.int .i64 0, .int .i64 0, .slice none 0 0, .int .i64 0], .int .i64 (24)]) (by simp [results, Try.f65, go_sem, y0_, y1_, y2_, y3_]) rfl ⟨.slice none 0 0, ?_, ?_, HB5.out⟩
    · rw [HS.out]; rfl
    · rw [HS.out]; exact OwnG.none_ _ _
  case pos =>
  have HBe := Lib.hid hbe
  rw [decide_eq_true hbe]
  clear hbe
  have hb9 : 0 ≤ b ∧ b ≤ 1099511627776 ∧ n ≤ 1024 := by
    obtain ⟨g1, g2, g3, g4, g5, g6, g7, g8⟩ := HBe.out
    simp only [HL.out] at g3 g6 g7
    omega
  have e0 : w2.cell? ⟨x1, 0, none⟩ = some (.int .i64 p) := HE2.out.cell 0
  have e1 : w2.cell? ⟨x1, 1, none⟩ = some (.int .i64 b) := HE2.out.cell 1
  have e2 : w2.cell? ⟨x1, 2, none⟩ = some (.slice A n c) := HE2.out.cell 2
  have e3 : w2.cell? ⟨x1, 3, none⟩ = some (.int .i64 s) := HE2.out.cell 3
  by_cases hn1 : b < a
  case neg =>
    have t1 : decide (b < a) = false := decide_eq_false hn1
    have HS : Hid (r = (⟨p, b, o, s⟩, 0)) := Lib.hid (by rw [HP.out]; refine (if_pos HBe.out).trans (if_neg ?_); rintro ⟨h2, _⟩; exact hn1 h2)
    clear hn1
    have HEb := HE2
    have HKb := HK2
    have HBb := HB2
    have RDb : Hid (Reads w2 w2.heap.size 5 A n (mgs o)) := Lib.hid ((HR.out.below HBb.out).more HBb.out.size)
    go_wp2_with fail
    refine (apart_any A n c o none 0 0 [] w2 RDb.out Reads.none_ hnc (Nat.le_refl 0) (by have h1 := RDb.out.mlen; rw [h1]; simp; omega)).mono ?_
    rintro e w5 ⟨v5, rfl, ho5, hb5⟩
    obtain ⟨A5, n5, c5, rfl⟩ := ownG_slice ho5
    rw [List.append_nil] at ho5
    have HO5 := Lib.hid ho5
    have HB5 := Lib.hid (HBb.out.trans (hb5.mono HBb.out.size))
    have HE5 := Lib.hid (HEb.out.below hb5 HEb.out.lt)
    have HK5 := Lib.hid (HKb.out.below hb5 HKb.out.lt)
    have HXl := Lib.hid HEb.out.lt
    have HKl := Lib.hid HKb.out.lt
    have HSb := Lib.hid HBb.out.size
    clear hb5 ho5 e0 e1 e2 e3
    have hx2 : w5.cell? ⟨x1, 2, none⟩ = some (.slice A n c) := HE5.out.cell 2
    have hf2 : w5.frozen? ⟨x1, 2, none⟩ = false := HE5.out.frozen 2
    have HE6 : Hid (Blk (w5.setCell ⟨x1, 2, none⟩ (.slice A5 n5 c5)) x1 50 #[.int .i64 p, .int .i64 b, .slice A5 n5 c5, .int .i64 s]) := Lib.hid (by have := HE5.out.set_ 2 (.slice A5 n5 c5); simpa using this)
    have HK6 : Hid (Blk (w5.setCell ⟨x1, 2, none⟩ (.slice A5 n5 c5)) pr 50 #[.int .i64 0, .int .i64 0, .slice none 0 0, .int .i64 0]) := Lib.hid (HK5.out.far (p := ⟨x1, 2, none⟩) (fun e => HNe.out e.symm) _)
    have HB6 : Hid (Below w.heap.size w (w5.setCell ⟨x1, 2, none⟩ (.slice A5 n5 c5))) := Lib.hid (below_setG HB5.out (by have := HX1.out; omega) 2 _)
    have HO6 : Hid (OwnG (w5.setCell ⟨x1, 2, none⟩ (.slice A5 n5 c5)) w2.heap.size (.slice A5 n5 c5) (o)) := Lib.hid (HO5.out.stay (fun g e => Below.heap_setCell w5 ⟨x1, 2, none⟩ _ g (by have h1 := ownG_base HO5.out g e; have h2 := HXl.out; intro h3; simp only at h3; omega)))
    have z0 : (w5.setCell ⟨x1, 2, none⟩ (.slice A5 n5 c5)).cell? ⟨x1, 0, none⟩ = some (.int .i64 p) := HE6.out.cell 0
    have z1 : (w5.setCell ⟨x1, 2, none⟩ (.slice A5 n5 c5)).cell? ⟨x1, 1, none⟩ = some (.int .i64 b) := HE6.out.cell 1
    have z2 : (w5.setCell ⟨x1, 2, none⟩ (.slice A5 n5 c5)).cell? ⟨x1, 2, none⟩ = some (.slice A5 n5 c5) := HE6.out.cell 2
    have z3 : (w5.setCell ⟨x1, 2, none⟩ (.slice A5 n5 c5)).cell? ⟨x1, 3, none⟩ = some (.int .i64 s) := HE6.out.cell 3
    have x0_ : (w5.setCell ⟨x1, 2, none⟩ (.slice A5 n5 c5)).cell? ⟨pr, 0, none⟩ = some (.int .i64 0) := HK6.out.cell 0
    have f0_ : (w5.setCell ⟨x1, 2, none⟩ (.slice A5 n5 c5)).frozen? ⟨pr, 0, none⟩ = false := HK6.out.frozen 0
    have x1_ : (w5.setCell ⟨x1, 2, none⟩ (.slice A5 n5 c5)).cell? ⟨pr, 1, none⟩ = some (.int .i64 0) := HK6.out.cell 1
    have f1_ : (w5.setCell ⟨x1, 2, none⟩ (.slice A5 n5 c5)).frozen? ⟨pr, 1, none⟩ = false := HK6.out.frozen 1
    have x2_ : (w5.setCell ⟨x1, 2, none⟩ (.slice A5 n5 c5)).cell? ⟨pr, 2, none⟩ = some (.slice none 0 0) := HK6.out.cell 2
    have f2_ : (w5.setCell ⟨x1, 2, none⟩ (.slice A5 n5 c5)).frozen? ⟨pr, 2, none⟩ = false := HK6.out.frozen 2
    have x3_ : (w5.setCell ⟨x1, 2, none⟩ (.slice A5 n5 c5)).cell? ⟨pr, 3, none⟩ = some (.int .i64 0) := HK6.out.cell 3
    have f3_ : (w5.setCell ⟨x1, 2, none⟩ (.slice A5 n5 c5)).frozen? ⟨pr, 3, none⟩ = false := HK6.out.frozen 3
    obtain ⟨w7, hw7, k7, hb7, ho7⟩ := edge_set HK6.out (.int .i64 p) (.int .i64 b) (.slice A5 n5 c5) (.int .i64 s)
    have HB7 := Lib.hid (hb7 w.heap.size w (by have := HPr.out; omega) HB6.out)
    have HW7 := Lib.hid hw7
    have HO7 : Hid (OwnG w7 w.heap.size (.slice A5 n5 c5) (o)) := Lib.hid (OwnG.lower (ho7 _ _ _ HO6.out (fun e => by have h1 := ownG_base HO6.out _ e; have h2 := HKl.out; omega)) HSb.out)
    have y0_ : w7.cell? ⟨pr, 0, none⟩ = some (.int .i64 p) := k7.cell 0
    have y1_ : w7.cell? ⟨pr, 1, none⟩ = some (.int .i64 b) := k7.cell 1
    have y2_ : w7.cell? ⟨pr, 2, none⟩ = some (.slice A5 n5 c5) := k7.cell 2
    have y3_ : w7.cell? ⟨pr, 3, none⟩ = some (.int .i64 s) := k7.cell 3
    clear hw7 k7 hb7 ho7
    go_wp2
    rw [← HW7.out]
    refine bodyPost_ret (v := .tuple #[.agg #[.int .i64 p, .int .i64 b, .slice A5 n5 c5, .int .i64 s], .int .i64 0]) (by simp [results, Try.f65, go_sem, y0_, y1_, y2_, y3_]) rfl ⟨.slice A5 n5 c5, ?_, ?_, HB7.out⟩
    · rw [HS.out]
    · rw [HS.out]; exact HO7.out
  case pos =>
  have t1 : decide (b < a) = true := decide_eq_true hn1
  have HLa := Lib.hid (last_any (p := p) (s := s) A n c w2 ⟨ib, jb⟩ hfew hnc)
  have hwl : IntKind.i64.wrap (b + (n : Int)) = b + (n : Int) := IntWalk.i64_in _ (by omega)
  rw [hwl] at HLa
  clear hwl
  obtain ⟨q, hq⟩ : ∃ q, q = b + (n : Int) := ⟨_, rfl⟩
  rw [← hq] at HLa
  have HQ := Lib.hid hq
  clear hq
  go_wp2_with fail
  refine HLa.out.mono ?_
  rintro e w3 ⟨rfl, hb3⟩
  have HB3 := Lib.hid (HB2.out.trans (hb3.mono HB2.out.size))
  have HE3 := Lib.hid (HE2.out.below hb3 HE2.out.lt)
  have HK3 := Lib.hid (HK2.out.below hb3 HK2.out.lt)
  clear hb3 HE2 HK2 HB2 e0 e1 e2 e3 HLa
  by_cases hn2 : a ≤ q
  case neg =>
    have t2 : decide (a ≤ q) = false := decide_eq_false hn2
    have HS : Hid (r = (⟨p, b, o, s⟩, 0)) := Lib.hid (by rw [HP.out]; refine (if_pos HBe.out).trans (if_neg ?_); rintro ⟨_, h2⟩; simp only at h2; rw [HL.out, ← HQ.out] at h2; exact hn2 h2)
    clear hn1 hn2
    have HEb := HE3
    have HKb := HK3
    have HBb := HB3
    have RDb : Hid (Reads w3 w3.heap.size 5 A n (mgs o)) := Lib.hid ((HR.out.below HBb.out).more HBb.out.size)
    have e2 : w3.cell? ⟨x1, 2, none⟩ = some (.slice A n c) := HEb.out.cell 2
    go_wp2_with fail
    refine (apart_any A n c o none 0 0 [] w3 RDb.out Reads.none_ hnc (Nat.le_refl 0) (by have h1 := RDb.out.mlen; rw [h1]; simp; omega)).mono ?_
    rintro e w5 ⟨v5, rfl, ho5, hb5⟩
    obtain ⟨A5, n5, c5, rfl⟩ := ownG_slice ho5
    rw [List.append_nil] at ho5
    have HO5 := Lib.hid ho5
    have HB5 := Lib.hid (HBb.out.trans (hb5.mono HBb.out.size))
    have HE5 := Lib.hid (HEb.out.below hb5 HEb.out.lt)
    have HK5 := Lib.hid (HKb.out.below hb5 HKb.out.lt)
    have HXl := Lib.hid HEb.out.lt
    have HKl := Lib.hid HKb.out.lt
    have HSb := Lib.hid HBb.out.size
    clear hb5 ho5 e2
    have hx2 : w5.cell? ⟨x1, 2, none⟩ = some (.slice A n c) := HE5.out.cell 2
    have hf2 : w5.frozen? ⟨x1, 2, none⟩ = false := HE5.out.frozen 2
    have HE6 : Hid (Blk (w5.setCell ⟨x1, 2, none⟩ (.slice A5 n5 c5)) x1 50 #[.int .i64 p, .int .i64 b, .slice A5 n5 c5, .int .i64 s]) := Lib.hid (by have := HE5.out.set_ 2 (.slice A5 n5 c5); simpa using this)
    have HK6 : Hid (Blk (w5.setCell ⟨x1, 2, none⟩ (.slice A5 n5 c5)) pr 50 #[.int .i64 0, .int .i64 0, .slice none 0 0, .int .i64 0]) := Lib.hid (HK5.out.far (p := ⟨x1, 2, none⟩) (fun e => HNe.out e.symm) _)
    have HB6 : Hid (Below w.heap.size w (w5.setCell ⟨x1, 2, none⟩ (.slice A5 n5 c5))) := Lib.hid (below_setG HB5.out (by have := HX1.out; omega) 2 _)
    have HO6 : Hid (OwnG (w5.setCell ⟨x1, 2, none⟩ (.slice A5 n5 c5)) w3.heap.size (.slice A5 n5 c5) (o)) := Lib.hid (HO5.out.stay (fun g e => Below.heap_setCell w5 ⟨x1, 2, none⟩ _ g (by have h1 := ownG_base HO5.out g e; have h2 := HXl.out; intro h3; simp only at h3; omega)))
    have z0 : (w5.setCell ⟨x1, 2, none⟩ (.slice A5 n5 c5)).cell? ⟨x1, 0, none⟩ = some (.int .i64 p) := HE6.out.cell 0
    have z1 : (w5.setCell ⟨x1, 2, none⟩ (.slice A5 n5 c5)).cell? ⟨x1, 1, none⟩ = some (.int .i64 b) := HE6.out.cell 1
    have z2 : (w5.setCell ⟨x1, 2, none⟩ (.slice A5 n5 c5)).cell? ⟨x1, 2, none⟩ = some (.slice A5 n5 c5) := HE6.out.cell 2
    have z3 : (w5.setCell ⟨x1, 2, none⟩ (.slice A5 n5 c5)).cell? ⟨x1, 3, none⟩ = some (.int .i64 s) := HE6.out.cell 3
    have x0_ : (w5.setCell ⟨x1, 2, none⟩ (.slice A5 n5 c5)).cell? ⟨pr, 0, none⟩ = some (.int .i64 0) := HK6.out.cell 0
    have f0_ : (w5.setCell ⟨x1, 2, none⟩ (.slice A5 n5 c5)).frozen? ⟨pr, 0, none⟩ = false := HK6.out.frozen 0
    have x1_ : (w5.setCell ⟨x1, 2, none⟩ (.slice A5 n5 c5)).cell? ⟨pr, 1, none⟩ = some (.int .i64 0) := HK6.out.cell 1
    have f1_ : (w5.setCell ⟨x1, 2, none⟩ (.slice A5 n5 c5)).frozen? ⟨pr, 1, none⟩ = false := HK6.out.frozen 1
    have x2_ : (w5.setCell ⟨x1, 2, none⟩ (.slice A5 n5 c5)).cell? ⟨pr, 2, none⟩ = some (.slice none 0 0) := HK6.out.cell 2
    have f2_ : (w5.setCell ⟨x1, 2, none⟩ (.slice A5 n5 c5)).frozen? ⟨pr, 2, none⟩ = false := HK6.out.frozen 2
    have x3_ : (w5.setCell ⟨x1, 2, none⟩ (.slice A5 n5 c5)).cell? ⟨pr, 3, none⟩ = some (.int .i64 0) := HK6.out.cell 3
    have f3_ : (w5.setCell ⟨x1, 2, none⟩ (.slice A5 n5 c5)).frozen? ⟨pr, 3, none⟩ = false := HK6.out.frozen 3
    obtain ⟨w7, hw7, k7, hb7, ho7⟩ := edge_set HK6.out (.int .i64 p) (.int .i64 b) (.slice A5 n5 c5) (.int .i64 s)
    have HB7 := Lib.hid (hb7 w.heap.size w (by have := HPr.out; omega) HB6.out)
    have HW7 := Lib.hid hw7
    have HO7 : Hid (OwnG w7 w.heap.size (.slice A5 n5 c5) (o)) := Lib.hid (OwnG.lower (ho7 _ _ _ HO6.out (fun e => by have h1 := ownG_base HO6.out _ e; have h2 := HKl.out; omega)) HSb.out)
    have y0_ : w7.cell? ⟨pr, 0, none⟩ = some (.int .i64 p) := k7.cell 0
    have y1_ : w7.cell? ⟨pr, 1, none⟩ = some (.int .i64 b) := k7.cell 1
    have y2_ : w7.cell? ⟨pr, 2, none⟩ = some (.slice A5 n5 c5) := k7.cell 2
    have y3_ : w7.cell? ⟨pr, 3, none⟩ = some (.int .i64 s) := k7.cell 3
    clear hw7 k7 hb7 ho7
    go_wp2
    rw [← HW7.out]
    refine bodyPost_ret (v := .tuple #[.agg #[.int .i64 p, .int .i64 b, .slice A5 n5 c5, .int .i64 s], .int .i64 0]) (by simp [results, Try.f65, go_sem, y0_, y1_, y2_, y3_]) rfl ⟨.slice A5 n5 c5, ?_, ?_, HB7.out⟩
    · rw [HS.out]
    · rw [HS.out]; exact HO7.out
  case pos =>
  have t2 : decide (a ≤ q) = true := decide_eq_true hn2
  obtain ⟨k, hk⟩ : ∃ k : Nat, k = (a - b).toNat := ⟨_, rfl⟩
  have hkb : IntKind.i64.wrap (a - b) = (k : Int) := by rw [IntWalk.i64_in _ (by omega)]; omega
  have hkn : k ≤ n := by have := HQ.out; omega
  have hnews : Hf.News ⟨p, b, o, s⟩ a := ⟨hn1, by show a ≤ b + (o.length : Int); rw [HL.out, ← HQ.out]; exact hn2⟩
  have HS : Hid (r = (⟨p, a, o.drop k, s⟩, 0)) := Lib.hid (by rw [HP.out]; unfold hheard; rw [if_pos HBe.out, if_pos hnews, hk]; rfl)
  clear hnews hn1 hn2
  have cut : ∀ W : World, (Instr.slice 48 (.slice A n c) (some (.int .i64 (k : Int))) none none).run Try.prog W = .ok (.slice (if c = k then A else A.map (·.add (k * 5))) (n - k) (c - k)) W := fun W => run_cutM A n c k hkn W
  obtain ⟨A', hA'⟩ : ∃ z, z = (if c = k then A else A.map (·.add (k * 5))) := ⟨_, rfl⟩
  have HRc : Hid (∀ W, Below w.heap.size w W → Reads W W.heap.size 5 A' (n - k) (mgs (o.drop k))) := Lib.hid (fun W hb => by rw [mgs_drop, hA']; exact (Reads.cut (HR.out.below hb) hkn hnc).more hb.size)
  simp only [← hA'] at cut
  obtain ⟨n', hn'⟩ : ∃ z, z = n - k := ⟨_, rfl⟩
  obtain ⟨c', hc'⟩ : ∃ z, z = c - k := ⟨_, rfl⟩
  have hnc' : n' ≤ c' := by omega
  have hn1024 : n' ≤ 1024 := by omega
  rw [← hn'] at HRc
  simp only [← hn', ← hc'] at cut
  clear hA' hk hn' hc'
  have e1 : w3.cell? ⟨x1, 1, none⟩ = some (.int .i64 b) := HE3.out.cell 1
  have e2_ : w3.cell? ⟨x1, 2, none⟩ = some (.slice A n c) := HE3.out.cell 2
  have hg2 : w3.frozen? ⟨x1, 2, none⟩ = false := HE3.out.frozen 2
  have HE4 : Hid (Blk (w3.setCell ⟨x1, 2, none⟩ (.slice A' n' c')) x1 50 #[.int .i64 p, .int .i64 b, .slice A' n' c', .int .i64 s]) := Lib.hid (by have := HE3.out.set_ 2 (.slice A' n' c'); simpa using this)
  have HK4 : Hid (Blk (w3.setCell ⟨x1, 2, none⟩ (.slice A' n' c')) pr 50 #[.int .i64 0, .int .i64 0, .slice none 0 0, .int .i64 0]) := Lib.hid (HK3.out.far (p := ⟨x1, 2, none⟩) (fun e => HNe.out e.symm) _)
  have HB4 : Hid (Below w.heap.size w (w3.setCell ⟨x1, 2, none⟩ (.slice A' n' c'))) := Lib.hid (below_setG HB3.out (by have := HX1.out; omega) 2 _)
  have g1 : (w3.setCell ⟨x1, 2, none⟩ (.slice A' n' c')).cell? ⟨x1, 1, none⟩ = some (.int .i64 b) := HE4.out.cell 1
  have g2 : (w3.setCell ⟨x1, 2, none⟩ (.slice A' n' c')).frozen? ⟨x1, 1, none⟩ = false := HE4.out.frozen 1
  have HEb : Hid (Blk ((w3.setCell ⟨x1, 2, none⟩ (.slice A' n' c')).setCell ⟨x1, 1, none⟩ (.int .i64 a)) x1 50 #[.int .i64 p, .int .i64 a, .slice A' n' c', .int .i64 s]) := Lib.hid (by have := HE4.out.set_ 1 (.int .i64 a); simpa using this)
  have HKb : Hid (Blk ((w3.setCell ⟨x1, 2, none⟩ (.slice A' n' c')).setCell ⟨x1, 1, none⟩ (.int .i64 a)) pr 50 #[.int .i64 0, .int .i64 0, .slice none 0 0, .int .i64 0]) := Lib.hid (HK4.out.far (p := ⟨x1, 1, none⟩) (fun e => HNe.out e.symm) _)
  have HBb : Hid (Below w.heap.size w ((w3.setCell ⟨x1, 2, none⟩ (.slice A' n' c')).setCell ⟨x1, 1, none⟩ (.int .i64 a))) := Lib.hid (below_setG HB4.out (by have := HX1.out; omega) 1 _)
  have RDb : Hid (Reads ((w3.setCell ⟨x1, 2, none⟩ (.slice A' n' c')).setCell ⟨x1, 1, none⟩ (.int .i64 a)) ((w3.setCell ⟨x1, 2, none⟩ (.slice A' n' c')).setCell ⟨x1, 1, none⟩ (.int .i64 a)).heap.size 5 A' n' (mgs (o.drop k))) := Lib.hid (HRc.out _ HBb.out)
  have e2 : ((w3.setCell ⟨x1, 2, none⟩ (.slice A' n' c')).setCell ⟨x1, 1, none⟩ (.int .i64 a)).cell? ⟨x1, 2, none⟩ = some (.slice A' n' c') := HEb.out.cell 2
  go_wp2_with fail
  refine (apart_any A' n' c' (o.drop k) none 0 0 [] ((w3.setCell ⟨x1, 2, none⟩ (.slice A' n' c')).setCell ⟨x1, 1, none⟩ (.int .i64 a)) RDb.out Reads.none_ hnc' (Nat.le_refl 0) (by have h1 := RDb.out.mlen; rw [h1]; simp; omega)).mono ?_
  rintro e w5 ⟨v5, rfl, ho5, hb5⟩
  obtain ⟨A5, n5, c5, rfl⟩ := ownG_slice ho5
  rw [List.append_nil] at ho5
  have HO5 := Lib.hid ho5
  have HB5 := Lib.hid (HBb.out.trans (hb5.mono HBb.out.size))
  have HE5 := Lib.hid (HEb.out.below hb5 HEb.out.lt)
  have HK5 := Lib.hid (HKb.out.below hb5 HKb.out.lt)
  have HXl := Lib.hid HEb.out.lt
  have HKl := Lib.hid HKb.out.lt
  have HSb := Lib.hid HBb.out.size
  clear hb5 ho5 e2 e1 e2_ hg2 g1 g2
  have hx2 : w5.cell? ⟨x1, 2, none⟩ = some (.slice A' n' c') := HE5.out.cell 2
  have hf2 : w5.frozen? ⟨x1, 2, none⟩ = false := HE5.out.frozen 2
  have HE6 : Hid (Blk (w5.setCell ⟨x1, 2, none⟩ (.slice A5 n5 c5)) x1 50 #[.int .i64 p, .int .i64 a, .slice A5 n5 c5, .int .i64 s]) := Lib.hid (by have := HE5.out.set_ 2 (.slice A5 n5 c5); simpa using this)
  have HK6 : Hid (Blk (w5.setCell ⟨x1, 2, none⟩ (.slice A5 n5 c5)) pr 50 #[.int .i64 0, .int .i64 0, .slice none 0 0, .int .i64 0]) := Lib.hid (HK5.out.far (p := ⟨x1, 2, none⟩) (fun e => HNe.out e.symm) _)
  have HB6 : Hid (Below w.heap.size w (w5.setCell ⟨x1, 2, none⟩ (.slice A5 n5 c5))) := Lib.hid (below_setG HB5.out (by have := HX1.out; omega) 2 _)
  have HO6 : Hid (OwnG (w5.setCell ⟨x1, 2, none⟩ (.slice A5 n5 c5)) ((w3.setCell ⟨x1, 2, none⟩ (.slice A' n' c')).setCell ⟨x1, 1, none⟩ (.int .i64 a)).heap.size (.slice A5 n5 c5) ((o.drop k))) := Lib.hid (HO5.out.stay (fun g e => Below.heap_setCell w5 ⟨x1, 2, none⟩ _ g (by have h1 := ownG_base HO5.out g e; have h2 := HXl.out; intro h3; simp only at h3; omega)))
  have z0 : (w5.setCell ⟨x1, 2, none⟩ (.slice A5 n5 c5)).cell? ⟨x1, 0, none⟩ = some (.int .i64 p) := HE6.out.cell 0
  have z1 : (w5.setCell ⟨x1, 2, none⟩ (.slice A5 n5 c5)).cell? ⟨x1, 1, none⟩ = some (.int .i64 a) := HE6.out.cell 1
  have z2 : (w5.setCell ⟨x1, 2, none⟩ (.slice A5 n5 c5)).cell? ⟨x1, 2, none⟩ = some (.slice A5 n5 c5) := HE6.out.cell 2
  have z3 : (w5.setCell ⟨x1, 2, none⟩ (.slice A5 n5 c5)).cell? ⟨x1, 3, none⟩ = some (.int .i64 s) := HE6.out.cell 3
  have x0_ : (w5.setCell ⟨x1, 2, none⟩ (.slice A5 n5 c5)).cell? ⟨pr, 0, none⟩ = some (.int .i64 0) := HK6.out.cell 0
  have f0_ : (w5.setCell ⟨x1, 2, none⟩ (.slice A5 n5 c5)).frozen? ⟨pr, 0, none⟩ = false := HK6.out.frozen 0
  have x1_ : (w5.setCell ⟨x1, 2, none⟩ (.slice A5 n5 c5)).cell? ⟨pr, 1, none⟩ = some (.int .i64 0) := HK6.out.cell 1
  have f1_ : (w5.setCell ⟨x1, 2, none⟩ (.slice A5 n5 c5)).frozen? ⟨pr, 1, none⟩ = false := HK6.out.frozen 1
  have x2_ : (w5.setCell ⟨x1, 2, none⟩ (.slice A5 n5 c5)).cell? ⟨pr, 2, none⟩ = some (.slice none 0 0) := HK6.out.cell 2
  have f2_ : (w5.setCell ⟨x1, 2, none⟩ (.slice A5 n5 c5)).frozen? ⟨pr, 2, none⟩ = false := HK6.out.frozen 2
  have x3_ : (w5.setCell ⟨x1, 2, none⟩ (.slice A5 n5 c5)).cell? ⟨pr, 3, none⟩ = some (.int .i64 0) := HK6.out.cell 3
  have f3_ : (w5.setCell ⟨x1, 2, none⟩ (.slice A5 n5 c5)).frozen? ⟨pr, 3, none⟩ = false := HK6.out.frozen 3
  obtain ⟨w7, hw7, k7, hb7, ho7⟩ := edge_set HK6.out (.int .i64 p) (.int .i64 a) (.slice A5 n5 c5) (.int .i64 s)
  have HB7 := Lib.hid (hb7 w.heap.size w (by have := HPr.out; omega) HB6.out)
  have HW7 := Lib.hid hw7
  have HO7 : Hid (OwnG w7 w.heap.size (.slice A5 n5 c5) ((o.drop k))) := Lib.hid (OwnG.lower (ho7 _ _ _ HO6.out (fun e => by have h1 := ownG_base HO6.out _ e; have h2 := HKl.out; omega)) HSb.out)
  have y0_ : w7.cell? ⟨pr, 0, none⟩ = some (.int .i64 p) := k7.cell 0
  have y1_ : w7.cell? ⟨pr, 1, none⟩ = some (.int .i64 a) := k7.cell 1
  have y2_ : w7.cell? ⟨pr, 2, none⟩ = some (.slice A5 n5 c5) := k7.cell 2
  have y3_ : w7.cell? ⟨pr, 3, none⟩ = some (.int .i64 s) := k7.cell 3
  clear hw7 k7 hb7 ho7
  go_wp2
  rw [← HW7.out]
  refine bodyPost_ret (v := .tuple #[.agg #[.int .i64 p, .int .i64 a, .slice A5 n5 c5, .int .i64 s], .int .i64 0]) (by simp [results, Try.f65, go_sem, y0_, y1_, y2_, y3_]) rfl ⟨.slice A5 n5 c5, ?_, ?_, HB7.out⟩
  · rw [HS.out]
  · rw [HS.out]; exact HO7.out
end Go.Proofs.Ytiaafhcfeeekeaa.Pk

/- The landed Fits of package half. -/
namespace Go.Proofs.Ytiaafhcfeeekeaa.Pk
open Go.RowKit
set_option linter.unusedVariables false
set_option maxRecDepth 100000 in
set_option maxHeartbeats 4000000 in
theorem fitsH : FitsH := by
  intro h q A n c w hin iq jq
  obtain ⟨p, b, o, s⟩ := h
  have HG := Lib.hid (fun w' (hb : Below w.heap.size w w') => goodH _ A n c w' (hin.next hb))
  obtain ⟨-, -, ⟨is_, js⟩, -⟩ := hin.i
  unfold Hf.val at HG ⊢
  simp only at HG is_ js ⊢
  clear hin
  obtain ⟨r, hr⟩ : ∃ r, r = hfits ⟨p, b, o, s⟩ q := ⟨_, rfl⟩
  rw [← hr]
  have HS := Lib.hid hr
  clear hr
  by_cases hbe : Hf.Be ⟨p, b, o, s⟩
  case neg =>
    have hrf : r = false := by rw [HS.out]; exact decide_eq_false (fun h => hbe h.1)
    subst hrf
    rw [decide_eq_false hbe] at HG
    clear hbe HS
    go_enter Try.func66, Try.ntmps66
    go_wp2_with fail
    refine (HG.out _ ((Below.refl _ w).alloc (Nat.le_refl _) _)).mono ?_
    rintro e w2 ⟨rfl, hb⟩
    have HB : Hid (Below w.heap.size w w2) := Lib.hid (((Below.refl _ w).alloc (Nat.le_refl _) _).trans (hb.mono (by simp)))
    clear hb
    go_wp2
    go_ret
    exact ⟨rfl, HB.out⟩
  case pos =>
  rw [decide_eq_true hbe] at HG
  have hs9 : 0 ≤ s ∧ s ≤ 1099511627776 := ⟨hbe.2.2.2.1, hbe.2.2.2.2.1⟩
  have HBe := Lib.hid hbe
  clear hbe
  by_cases hs : s < 1099511627776
  case neg =>
    have hrf : r = false := by rw [HS.out]; exact decide_eq_false (fun h => hs h.2.1)
    subst hrf
    have t1 : decide (s < 1099511627776) = false := decide_eq_false hs
    clear hs HS
    go_enter Try.func66, Try.ntmps66
    go_wp2_with fail
    refine (HG.out _ ((Below.refl _ w).alloc (Nat.le_refl _) _)).mono ?_
    rintro e w2 ⟨rfl, hb⟩
    have hk : Blk w2 w.heap.size 50 #[.int .i64 p, .int .i64 b, .slice A n c, .int .i64 s] := (Blk.new w _ _).below hb (by simp)
    have c3 : w2.cell? ⟨w.heap.size, 3, none⟩ = some (.int .i64 s) := hk.cell 3
    have HB : Hid (Below w.heap.size w w2) := Lib.hid (((Below.refl _ w).alloc (Nat.le_refl _) _).trans (hb.mono (by simp)))
    clear hb hk
    go_wp2
    go_ret
    exact ⟨rfl, HB.out⟩
  case pos =>
  have t1 : decide (s < 1099511627776) = true := decide_eq_true hs
  have hw : IntKind.i64.wrap (s + 1) = s + 1 := IntWalk.i64_in _ (by omega)
  have HRt : Hid (r = (q == s + 1)) := Lib.hid (by
    rw [HS.out]
    unfold hfits
    by_cases hq : q = s + 1
    · rw [decide_eq_true (by exact ⟨HBe.out, hs, hq⟩)]; simpa using hq
    · rw [decide_eq_false (by rintro ⟨_, _, h⟩; exact hq h)]; symm; simpa using hq)
  have hs1 : s + 1 ≤ 1099511627776 := by omega
  clear hs HS
  go_enter Try.func66, Try.ntmps66
  go_wp2_with fail
  refine (HG.out _ ((Below.refl _ w).alloc (Nat.le_refl _) _)).mono ?_
  rintro e w2 ⟨rfl, hb⟩
  have hk : Blk w2 w.heap.size 50 #[.int .i64 p, .int .i64 b, .slice A n c, .int .i64 s] := (Blk.new w _ _).below hb (by simp)
  have c3 : w2.cell? ⟨w.heap.size, 3, none⟩ = some (.int .i64 s) := hk.cell 3
  have HB : Hid (Below w.heap.size w w2) := Lib.hid (((Below.refl _ w).alloc (Nat.le_refl _) _).trans (hb.mono (by simp)))
  clear hb hk
  go_wp2
  go_ret
  exact ⟨by rw [HRt.out]; rfl, HB.out⟩
end Go.Proofs.Ytiaafhcfeeekeaa.Pk

/- The landed Take of package half. -/
namespace Go.Proofs.Ytiaafhcfeeekeaa.Pk
open Go.RowKit
set_option linter.unusedVariables false
set_option maxRecDepth 100000 in
set_option maxHeartbeats 4000000 in
theorem tookH : TookH := by
  intro h A n c w hin
  obtain ⟨r, hr⟩ : ∃ r, r = htake h := ⟨_, rfl⟩
  have HP := Lib.hid hr
  rw [← hr]
  clear hr
  obtain ⟨p, b, o, s⟩ := h
  have HL : Hid (o.length = n) := Lib.hid hin.len
  have HIn := Lib.hid hin
  have HG := Lib.hid (fun w' (hb : Below w.heap.size w w') => goodH _ A n c w' (hin.next hb))
  have HR := Lib.hid hin.rd
  have hfew := hin.few
  have hnc := hin.cap
  obtain ⟨⟨ip, jp⟩, ⟨ib, jb⟩, ⟨is_, js⟩, -⟩ := hin.i
  unfold Hf.val at HG ⊢
  simp only at HG HR ip jp ib jb is_ js ⊢
  clear hin
  go_enter Try.func67, Try.ntmps67
  obtain ⟨x1, hx1⟩ : ∃ x, x = w.heap.size := ⟨_, rfl⟩
  obtain ⟨pr, hpr⟩ : ∃ x, x = x1 + 1 := ⟨_, rfl⟩
  obtain ⟨wa, hwa⟩ : ∃ wa, wa = w.alloc (.cells #[.int .i64 p, .int .i64 b, .slice A n c, .int .i64 s] 50) := ⟨_, rfl⟩
  obtain ⟨w1, hw1⟩ : ∃ w1, w1 = wa.alloc (.cells #[.int .i64 0, .int .i64 0, .slice none 0 0, .int .i64 0] 50) := ⟨_, rfl⟩
  have hsa : wa.heap.size = x1 + 1 := by rw [hwa, World.size_alloc, hx1]
  have hba : Below w.heap.size w wa := hwa ▸ (Below.refl _ _).alloc (Nat.le_refl _) _
  have HB1 : Hid (Below w.heap.size w w1) := Lib.hid (hw1 ▸ hba.alloc (by omega) _)
  have HE1 : Hid (Blk w1 x1 50 #[.int .i64 p, .int .i64 b, .slice A n c, .int .i64 s]) := Lib.hid (by rw [hw1, hwa, hx1]; exact (Blk.new w _ _).alloc _)
  have HK1 : Hid (Blk w1 pr 50 #[.int .i64 0, .int .i64 0, .slice none 0 0, .int .i64 0]) := Lib.hid (by rw [hw1, hpr, ← hsa]; exact Blk.new wa _ _)
  have HPr : Hid (w.heap.size + 1 = pr) := Lib.hid (by omega)
  have HX1 : Hid (w.heap.size = x1) := Lib.hid (by omega)
  have HNe : Hid (x1 ≠ pr) := Lib.hid (by omega)
  go_wp2_with fail
  rw [← hwa, ← hw1, ← hx1, ← hpr]
  clear hwa hw1 hx1 hpr hsa hba wa
  refine (HG.out w1 HB1.out).mono ?_
  rintro e w2 ⟨rfl, hb2⟩
  have HB2 := Lib.hid (HB1.out.trans (hb2.mono HB1.out.size))
  have HE2 := Lib.hid (HE1.out.below hb2 HE1.out.lt)
  have HK2 := Lib.hid (HK1.out.below hb2 HK1.out.lt)
  clear hb2 HE1 HK1 HB1
  by_cases hbe : Hf.Be ⟨p, b, o, s⟩
  case neg =>
    have HS : Hid (r = (Hf.zero, 24)) := Lib.hid (by rw [HP.out]; exact if_neg hbe)
    rw [decide_eq_false hbe]
    clear hbe
    have k2 := HK2.out
    have x0_ : w2.cell? ⟨pr, 0, none⟩ = some (.int .i64 0) := k2.cell 0
    have x1_ : w2.cell? ⟨pr, 1, none⟩ = some (.int .i64 0) := k2.cell 1
    have x2_ : w2.cell? ⟨pr, 2, none⟩ = some (.slice none 0 0) := k2.cell 2
    have x3_ : w2.cell? ⟨pr, 3, none⟩ = some (.int .i64 0) := k2.cell 3
    have f0_ : w2.frozen? ⟨pr, 0, none⟩ = false := k2.frozen 0
    have f1_ : w2.frozen? ⟨pr, 1, none⟩ = false := k2.frozen 1
    have f2_ : w2.frozen? ⟨pr, 2, none⟩ = false := k2.frozen 2
    have f3_ : w2.frozen? ⟨pr, 3, none⟩ = false := k2.frozen 3
    obtain ⟨w5, hw5, k5, hb5, ho5⟩ := edge_set k2 (.int .i64 0) (.int .i64 0) (.slice none 0 0) (.int .i64 0)
    have HB5 := Lib.hid (hb5 w.heap.size w (by have := HPr.out; omega) HB2.out)
    have HW5 := Lib.hid hw5
    have y0_ : w5.cell? ⟨pr, 0, none⟩ = some (.int .i64 0) := k5.cell 0
    have y1_ : w5.cell? ⟨pr, 1, none⟩ = some (.int .i64 0) := k5.cell 1
    have y2_ : w5.cell? ⟨pr, 2, none⟩ = some (.slice none 0 0) := k5.cell 2
    have y3_ : w5.cell? ⟨pr, 3, none⟩ = some (.int .i64 0) := k5.cell 3
    clear k2 hw5 k5 hb5 ho5
    go_wp2
    rw [← HW5.out]
    refine bodyPost_ret (v := .tuple #[.agg #[.int .i64 0, .int .i64 0, .slice none 0 0, .int .i64 0], .int .i64 (24)]) (by simp [results, Try.f67, go_sem, y0_, y1_, y2_, y3_]) rfl ⟨.slice none 0 0, ?_, ?_, HB5.out⟩
    · rw [HS.out]; rfl
    · rw [HS.out]; exact OwnG.none_ _ _
  case pos =>
  have HBe := Lib.hid hbe
  rw [decide_eq_true hbe]
  clear hbe
  have e3 : w2.cell? ⟨x1, 3, none⟩ = some (.int .i64 s) := HE2.out.cell 3
  by_cases hs : s = 1099511627776
  case pos =>
    have hc : (s == 1099511627776) = true := by simpa using hs
    have HS : Hid (r = (Hf.zero, 23)) := Lib.hid (by rw [HP.out]; exact (if_pos HBe.out).trans (if_pos hs))
    clear hs
    have k2 := HK2.out
    have x0_ : w2.cell? ⟨pr, 0, none⟩ = some (.int .i64 0) := k2.cell 0
    have x1_ : w2.cell? ⟨pr, 1, none⟩ = some (.int .i64 0) := k2.cell 1
    have x2_ : w2.cell? ⟨pr, 2, none⟩ = some (.slice none 0 0) := k2.cell 2
    have x3_ : w2.cell? ⟨pr, 3, none⟩ = some (.int .i64 0) := k2.cell 3
    have f0_ : w2.frozen? ⟨pr, 0, none⟩ = false := k2.frozen 0
    have f1_ : w2.frozen? ⟨pr, 1, none⟩ = false := k2.frozen 1
    have f2_ : w2.frozen? ⟨pr, 2, none⟩ = false := k2.frozen 2
    have f3_ : w2.frozen? ⟨pr, 3, none⟩ = false := k2.frozen 3
    obtain ⟨w5, hw5, k5, hb5, ho5⟩ := edge_set k2 (.int .i64 0) (.int .i64 0) (.slice none 0 0) (.int .i64 0)
    have HB5 := Lib.hid (hb5 w.heap.size w (by have := HPr.out; omega) HB2.out)
    have HW5 := Lib.hid hw5
    have y0_ : w5.cell? ⟨pr, 0, none⟩ = some (.int .i64 0) := k5.cell 0
    have y1_ : w5.cell? ⟨pr, 1, none⟩ = some (.int .i64 0) := k5.cell 1
    have y2_ : w5.cell? ⟨pr, 2, none⟩ = some (.slice none 0 0) := k5.cell 2
    have y3_ : w5.cell? ⟨pr, 3, none⟩ = some (.int .i64 0) := k5.cell 3
    clear k2 hw5 k5 hb5 ho5
    go_wp2
    rw [← HW5.out]
    refine bodyPost_ret (v := .tuple #[.agg #[.int .i64 0, .int .i64 0, .slice none 0 0, .int .i64 0], .int .i64 (23)]) (by simp [results, Try.f67, go_sem, y0_, y1_, y2_, y3_]) rfl ⟨.slice none 0 0, ?_, ?_, HB5.out⟩
    · rw [HS.out]; rfl
    · rw [HS.out]; exact OwnG.none_ _ _
  case neg =>
  have hc : (s == 1099511627776) = false := by simpa using hs
  have hs9 : 0 ≤ s ∧ s ≤ 1099511627776 := ⟨HBe.out.2.2.2.1, HBe.out.2.2.2.2.1⟩
  obtain ⟨s1, hs1⟩ : ∃ s1, s1 = s + 1 := ⟨_, rfl⟩
  have hw : IntKind.i64.wrap (s + 1) = s1 := by rw [IntWalk.i64_in _ (by omega), hs1]
  have HS : Hid (r = (⟨p, b, o, s1⟩, 0)) := Lib.hid (by rw [HP.out, hs1]; exact (if_pos HBe.out).trans (if_neg hs))
  clear hs hs1
  have hf3 : w2.frozen? ⟨x1, 3, none⟩ = false := HE2.out.frozen 3
  have HEb : Hid (Blk (w2.setCell ⟨x1, 3, none⟩ (.int .i64 s1)) x1 50 #[.int .i64 p, .int .i64 b, .slice A n c, .int .i64 s1]) := Lib.hid (by have := HE2.out.set_ 3 (.int .i64 s1); simpa using this)
  have HKb : Hid (Blk (w2.setCell ⟨x1, 3, none⟩ (.int .i64 s1)) pr 50 #[.int .i64 0, .int .i64 0, .slice none 0 0, .int .i64 0]) := Lib.hid (HK2.out.far (p := ⟨x1, 3, none⟩) (fun e => HNe.out e.symm) _)
  have HBb : Hid (Below w.heap.size w (w2.setCell ⟨x1, 3, none⟩ (.int .i64 s1))) := Lib.hid (below_setG HB2.out (by have := HX1.out; omega) 3 _)
  have RDb : Hid (Reads (w2.setCell ⟨x1, 3, none⟩ (.int .i64 s1)) (w2.setCell ⟨x1, 3, none⟩ (.int .i64 s1)).heap.size 5 A n (mgs o)) := Lib.hid ((HR.out.below HBb.out).more HBb.out.size)
  have e2 : (w2.setCell ⟨x1, 3, none⟩ (.int .i64 s1)).cell? ⟨x1, 2, none⟩ = some (.slice A n c) := HEb.out.cell 2
  go_wp2_with fail
  refine (apart_any A n c o none 0 0 [] (w2.setCell ⟨x1, 3, none⟩ (.int .i64 s1)) RDb.out Reads.none_ hnc (Nat.le_refl 0) (by have h1 := RDb.out.mlen; rw [h1]; simp; omega)).mono ?_
  rintro e w5 ⟨v5, rfl, ho5, hb5⟩
  obtain ⟨A5, n5, c5, rfl⟩ := ownG_slice ho5
  rw [List.append_nil] at ho5
  have HO5 := Lib.hid ho5
  have HB5 := Lib.hid (HBb.out.trans (hb5.mono HBb.out.size))
  have HE5 := Lib.hid (HEb.out.below hb5 HEb.out.lt)
  have HK5 := Lib.hid (HKb.out.below hb5 HKb.out.lt)
  have HXl := Lib.hid HEb.out.lt
  have HKl := Lib.hid HKb.out.lt
  have HSb := Lib.hid HBb.out.size
  clear hb5 ho5 e2
  have hx2 : w5.cell? ⟨x1, 2, none⟩ = some (.slice A n c) := HE5.out.cell 2
  have hf2 : w5.frozen? ⟨x1, 2, none⟩ = false := HE5.out.frozen 2
  have HE6 : Hid (Blk (w5.setCell ⟨x1, 2, none⟩ (.slice A5 n5 c5)) x1 50 #[.int .i64 p, .int .i64 b, .slice A5 n5 c5, .int .i64 s1]) := Lib.hid (by have := HE5.out.set_ 2 (.slice A5 n5 c5); simpa using this)
  have HK6 : Hid (Blk (w5.setCell ⟨x1, 2, none⟩ (.slice A5 n5 c5)) pr 50 #[.int .i64 0, .int .i64 0, .slice none 0 0, .int .i64 0]) := Lib.hid (HK5.out.far (p := ⟨x1, 2, none⟩) (fun e => HNe.out e.symm) _)
  have HB6 : Hid (Below w.heap.size w (w5.setCell ⟨x1, 2, none⟩ (.slice A5 n5 c5))) := Lib.hid (below_setG HB5.out (by have := HX1.out; omega) 2 _)
  have HO6 : Hid (OwnG (w5.setCell ⟨x1, 2, none⟩ (.slice A5 n5 c5)) (w2.setCell ⟨x1, 3, none⟩ (.int .i64 s1)).heap.size (.slice A5 n5 c5) (o)) := Lib.hid (HO5.out.stay (fun g e => Below.heap_setCell w5 ⟨x1, 2, none⟩ _ g (by have h1 := ownG_base HO5.out g e; have h2 := HXl.out; intro h3; simp only at h3; omega)))
  have z0 : (w5.setCell ⟨x1, 2, none⟩ (.slice A5 n5 c5)).cell? ⟨x1, 0, none⟩ = some (.int .i64 p) := HE6.out.cell 0
  have z1 : (w5.setCell ⟨x1, 2, none⟩ (.slice A5 n5 c5)).cell? ⟨x1, 1, none⟩ = some (.int .i64 b) := HE6.out.cell 1
  have z2 : (w5.setCell ⟨x1, 2, none⟩ (.slice A5 n5 c5)).cell? ⟨x1, 2, none⟩ = some (.slice A5 n5 c5) := HE6.out.cell 2
  have z3 : (w5.setCell ⟨x1, 2, none⟩ (.slice A5 n5 c5)).cell? ⟨x1, 3, none⟩ = some (.int .i64 s1) := HE6.out.cell 3
  have x0_ : (w5.setCell ⟨x1, 2, none⟩ (.slice A5 n5 c5)).cell? ⟨pr, 0, none⟩ = some (.int .i64 0) := HK6.out.cell 0
  have f0_ : (w5.setCell ⟨x1, 2, none⟩ (.slice A5 n5 c5)).frozen? ⟨pr, 0, none⟩ = false := HK6.out.frozen 0
  have x1_ : (w5.setCell ⟨x1, 2, none⟩ (.slice A5 n5 c5)).cell? ⟨pr, 1, none⟩ = some (.int .i64 0) := HK6.out.cell 1
  have f1_ : (w5.setCell ⟨x1, 2, none⟩ (.slice A5 n5 c5)).frozen? ⟨pr, 1, none⟩ = false := HK6.out.frozen 1
  have x2_ : (w5.setCell ⟨x1, 2, none⟩ (.slice A5 n5 c5)).cell? ⟨pr, 2, none⟩ = some (.slice none 0 0) := HK6.out.cell 2
  have f2_ : (w5.setCell ⟨x1, 2, none⟩ (.slice A5 n5 c5)).frozen? ⟨pr, 2, none⟩ = false := HK6.out.frozen 2
  have x3_ : (w5.setCell ⟨x1, 2, none⟩ (.slice A5 n5 c5)).cell? ⟨pr, 3, none⟩ = some (.int .i64 0) := HK6.out.cell 3
  have f3_ : (w5.setCell ⟨x1, 2, none⟩ (.slice A5 n5 c5)).frozen? ⟨pr, 3, none⟩ = false := HK6.out.frozen 3
  obtain ⟨w7, hw7, k7, hb7, ho7⟩ := edge_set HK6.out (.int .i64 p) (.int .i64 b) (.slice A5 n5 c5) (.int .i64 s1)
  have HB7 := Lib.hid (hb7 w.heap.size w (by have := HPr.out; omega) HB6.out)
  have HW7 := Lib.hid hw7
  have HO7 : Hid (OwnG w7 w.heap.size (.slice A5 n5 c5) (o)) := Lib.hid (OwnG.lower (ho7 _ _ _ HO6.out (fun e => by have h1 := ownG_base HO6.out _ e; have h2 := HKl.out; omega)) HSb.out)
  have y0_ : w7.cell? ⟨pr, 0, none⟩ = some (.int .i64 p) := k7.cell 0
  have y1_ : w7.cell? ⟨pr, 1, none⟩ = some (.int .i64 b) := k7.cell 1
  have y2_ : w7.cell? ⟨pr, 2, none⟩ = some (.slice A5 n5 c5) := k7.cell 2
  have y3_ : w7.cell? ⟨pr, 3, none⟩ = some (.int .i64 s1) := k7.cell 3
  clear hw7 k7 hb7 ho7
  go_wp2
  rw [← HW7.out]
  refine bodyPost_ret (v := .tuple #[.agg #[.int .i64 p, .int .i64 b, .slice A5 n5 c5, .int .i64 s1], .int .i64 0]) (by simp [results, Try.f67, go_sem, y0_, y1_, y2_, y3_]) rfl ⟨.slice A5 n5 c5, ?_, ?_, HB7.out⟩
  · rw [HS.out]
  · rw [HS.out]; exact HO7.out
end Go.Proofs.Ytiaafhcfeeekeaa.Pk
