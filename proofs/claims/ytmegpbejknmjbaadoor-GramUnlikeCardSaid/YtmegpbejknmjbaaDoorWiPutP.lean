/- The landed Put: bytes and behind them a message's. -/
import Derived.Test.YtmegpbejknmjbaaDoorWiValidP
import Derived.Test.YtmegpbejknmjbaaDoorSets
namespace Go.Proofs.YtmegpbejknmjbaaDoor.Pk
open Go.RowKit
set_option linter.unusedVariables false
set_option maxRecDepth 100000 in
set_option maxHeartbeats 4000000 in
theorem putC : PutC := by
  intro A n c l m w hr hnc hB hsz hm
  have HR := Lib.hid hr
  have HV := Lib.hid (fun u => validC m u hm)
  clear hr
  obtain ⟨q, hq⟩ : ∃ q, q = m.put := ⟨_, rfl⟩
  rw [← hq]
  have HQ := Lib.hid hq
  clear hq
  obtain ⟨k, o, d, u, v⟩ := m
  obtain ⟨⟨ik, jk⟩, ⟨io, jo⟩, ⟨in_, jn⟩, ⟨iu, ju⟩, ⟨iv, jv⟩⟩ := hm
  simp only at ik jk io jo in_ jn iu ju iv jv
  unfold Mg.val at HV ⊢
  simp only at HV ⊢
  go_enter Tryd.func27, Tryd.ntmps27
  obtain ⟨p, hp⟩ : ∃ p, p = w.heap.size := ⟨_, rfl⟩
  obtain ⟨w1, hw1⟩ : ∃ w1, w1 = w.alloc (.cells #[.int .i64 k, .int .i64 o, .int .i64 d, .int .i64 u, .int .i64 v] 24) := ⟨_, rfl⟩
  have HB1 : Hid (Below w.heap.size w w1) := Lib.hid (hw1 ▸ (Below.refl _ _).alloc (Nat.le_refl _) _)
  have HK1 : Hid (Blk w1 p 24 #[.int .i64 k, .int .i64 o, .int .i64 d, .int .i64 u, .int .i64 v]) := Lib.hid (by rw [hw1, hp]; exact Blk.new w _ _)
  go_wp2_with fail
  rw [← hw1, ← hp]
  clear hw1 hp
  refine (HV.out w1).mono ?_
  rintro e w2 ⟨rfl, hb2⟩
  have HB2 : Hid (Below w.heap.size w w2) := Lib.hid (HB1.out.trans (hb2.mono HB1.out.size))
  have HK2 := Lib.hid (HK1.out.below hb2 HK1.out.lt)
  have HR2 : Hid (Reads w2 w2.heap.size 1 A n (bts l)) := Lib.hid ((HR.out.below HB2.out).more HB2.out.size)
  clear hb2
  by_cases hbe : Mg.Be ⟨k, o, d, u, v⟩
  case neg =>
    have e1 : decide (Mg.Be ⟨k, o, d, u, v⟩) = false := decide_eq_false hbe
    have HQ2 : Hid (q = []) := Lib.hid (by rw [HQ.out]; unfold Mg.put; rw [if_neg hbe])
    rw [e1]
    have HPP := Lib.hid (put_any A none n c 0 0 l [] w2 HR2.out Reads.none_ (by omega) (by omega) (fun x hx => by cases hx))
    clear hbe e1
    go_wp2_with fail
    refine HPP.out.mono ?_
    rintro e w3 ⟨v3, rfl, ho3, hb3⟩
    have HO3 : Hid (OwnB w3 w.heap.size v3 (l ++ q)) := Lib.hid (by rw [HQ2.out]; have := ho3.mono HB2.out.size; simpa [encs_nil] using this)
    have HB3 : Hid (Below w.heap.size w w3) := Lib.hid (HB2.out.trans (hb3.mono HB2.out.size))
    clear ho3 hb3
    go_wp2
    go_ret
    exact ⟨v3, rfl, HO3.out, HB3.out⟩
  case pos =>
    have e1 : decide (Mg.Be ⟨k, o, d, u, v⟩) = true := decide_eq_true hbe
    rw [e1]
    have k2 := HK2.out
    have x0 : w2.cell? ⟨p, 0, none⟩ = some (.int .i64 k) := k2.cell 0
    have x1 : w2.cell? ⟨p, 1, none⟩ = some (.int .i64 o) := k2.cell 1
    have x2 : w2.cell? ⟨p, 2, none⟩ = some (.int .i64 d) := k2.cell 2
    have x3 : w2.cell? ⟨p, 3, none⟩ = some (.int .i64 u) := k2.cell 3
    have x4 : w2.cell? ⟨p, 4, none⟩ = some (.int .i64 v) := k2.cell 4
    clear k2
    have HBe := Lib.hid hbe
    clear hbe e1
    by_cases hk : k = 4
    case pos =>
      have tk : (k == 4) = true := by simpa using hk
      have HQ2 : Hid (q = encs [k, o, d, u, v]) := Lib.hid (by rw [HQ.out]; unfold Mg.put; rw [if_pos HBe.out]; unfold Mg.bytes Mg.nums; simp only; rw [if_pos hk])
      clear hk
      go_wp2_with fail
      have HP3 : Hid (Reads (w2.alloc (.cells #[.int .i64 k, .int .i64 o, .int .i64 d, .int .i64 u, .int .i64 v] 3)) (w2.alloc (.cells #[.int .i64 k, .int .i64 o, .int .i64 d, .int .i64 u, .int .i64 v] 3)).heap.size 1 (some ⟨w2.heap.size, 0, none⟩) 5 (nms [k, o, d, u, v])) := Lib.hid (reads_top w2 _ _ _ _ rfl rfl)
      have HB3 : Hid (Below w2.heap.size w2 (w2.alloc (.cells #[.int .i64 k, .int .i64 o, .int .i64 d, .int .i64 u, .int .i64 v] 3))) := Lib.hid ((Below.refl _ _).alloc (Nat.le_refl _) _)
      refine (put_any A _ n c 5 5 l [k, o, d, u, v] _ ((HR2.out.below HB3.out).more HB3.out.size) HP3.out (by omega) (by omega) (fun x hx => by simp only [List.mem_cons, List.not_mem_nil, or_false] at hx; rcases hx with rfl | rfl | rfl | rfl | rfl <;> assumption)).mono ?_
      rintro e w3 ⟨v3, rfl, ho3, hb3⟩
      have HO3 : Hid (OwnB w3 w.heap.size v3 (l ++ q)) := Lib.hid (by rw [HQ2.out]; exact ho3.mono (Nat.le_trans HB2.out.size HB3.out.size))
      have HB4 : Hid (Below w.heap.size w w3) := Lib.hid ((HB2.out.trans (HB3.out.mono HB2.out.size)).trans (hb3.mono (Nat.le_trans HB2.out.size HB3.out.size)))
      clear ho3 hb3
      go_wp2
      go_ret
      exact ⟨v3, rfl, HO3.out, HB4.out⟩
    case neg =>
      have tk : (k == 4) = false := by simpa using hk
      have HQ2 : Hid (q = encs [k, o, d, u]) := Lib.hid (by rw [HQ.out]; unfold Mg.put; rw [if_pos HBe.out]; unfold Mg.bytes Mg.nums; simp only; rw [if_neg hk])
      clear hk
      go_wp2_with fail
      have HP3 : Hid (Reads (w2.alloc (.cells #[.int .i64 k, .int .i64 o, .int .i64 d, .int .i64 u] 3)) (w2.alloc (.cells #[.int .i64 k, .int .i64 o, .int .i64 d, .int .i64 u] 3)).heap.size 1 (some ⟨w2.heap.size, 0, none⟩) 4 (nms [k, o, d, u])) := Lib.hid (reads_top w2 _ _ _ _ rfl rfl)
      have HB3 : Hid (Below w2.heap.size w2 (w2.alloc (.cells #[.int .i64 k, .int .i64 o, .int .i64 d, .int .i64 u] 3))) := Lib.hid ((Below.refl _ _).alloc (Nat.le_refl _) _)
      refine (put_any A _ n c 4 4 l [k, o, d, u] _ ((HR2.out.below HB3.out).more HB3.out.size) HP3.out (by omega) (by omega) (fun x hx => by simp only [List.mem_cons, List.not_mem_nil, or_false] at hx; rcases hx with rfl | rfl | rfl | rfl <;> assumption)).mono ?_
      rintro e w3 ⟨v3, rfl, ho3, hb3⟩
      have HO3 : Hid (OwnB w3 w.heap.size v3 (l ++ q)) := Lib.hid (by rw [HQ2.out]; exact ho3.mono (Nat.le_trans HB2.out.size HB3.out.size))
      have HB4 : Hid (Below w.heap.size w w3) := Lib.hid ((HB2.out.trans (HB3.out.mono HB2.out.size)).trans (hb3.mono (Nat.le_trans HB2.out.size HB3.out.size)))
      clear ho3 hb3
      go_wp2
      go_ret
      exact ⟨v3, rfl, HO3.out, HB4.out⟩
end Go.Proofs.YtmegpbejknmjbaaDoor.Pk
