/- The landed Put of a datagram: bytes and behind them a datagram's fields'. -/
import Derived.Test.YtmegpbejknmjbaaDoorGmValidP
import Derived.Test.YtmegpbejknmjbaaDoorWiPutP
import Derived.Test.YtmegpbejknmjbaaDoorCut
namespace Go.Proofs.YtmegpbejknmjbaaDoor.Pk
open Go.RowKit
set_option linter.unusedVariables false
set_option maxRecDepth 100000 in
set_option maxHeartbeats 4000000 in
theorem putG : PutG := by
  intro A n c l g w hr hnc hB hsz hg
  have HR := Lib.hid hr
  have HL : Hid (l.length = n) := Lib.hid (by have := hr.1; simpa using this)
  have HBl := Lib.hid hB
  have HV := Lib.hid (fun u => validG g u hg)
  have HM := Lib.hid (fun A n c l u hr hnc hB hn => putC A n c l g.m u hr hnc hB hn hg.m)
  clear hr
  obtain ⟨q, hq⟩ : ∃ q, q = g.put := ⟨_, rfl⟩
  rw [← hq]
  have HQ := Lib.hid hq
  have HQn : Hid (¬ g.Be → q = []) := Lib.hid (fun h => by rw [hq]; exact if_neg h)
  have HQ0 : Hid (g.Be → g.s = 0 → q = encs [g.f, g.t, g.a, g.s]) := Lib.hid (fun h h0 => by rw [hq, gput_be h]; unfold Gm.bytes Gm.tail; rw [if_pos h0, List.append_nil]; rfl)
  have HQ1 : Hid (g.Be → g.s ≠ 0 → q = encs [g.f, g.t, g.a, g.s] ++ g.m.put) := Lib.hid (fun h h0 => by rw [hq, gput_be h]; unfold Gm.bytes Gm.tail; rw [if_neg h0, show g.m.put = g.m.bytes from if_pos (h.2.2.2.2.2.2.2.2.2.2 h0)]; rfl)
  have HS0 : Hid (g.Be → 0 ≤ g.s) := Lib.hid (fun h => h.2.2.2.2.2.2.2.1)
  clear hq
  obtain ⟨f, t, a, s, ⟨k, o, d, u, v⟩⟩ := g
  obtain ⟨⟨if_, jf⟩, ⟨it, jt⟩, ⟨ia, ja⟩, ⟨is_, js⟩, im⟩ := hg
  obtain ⟨q2, hq2⟩ : ∃ q2, q2 = Mg.put ⟨k, o, d, u, v⟩ := ⟨_, rfl⟩
  clear im
  unfold Mg.val at HM
  unfold Gm.val at HV ⊢
  simp only at HV HM HS0 HQ0 HQ1 if_ jf it jt ia ja is_ js ⊢
  rw [← hq2] at HM HQ1
  clear hq2
  go_enter Tryd.func15, Tryd.ntmps15
  obtain ⟨p, hp⟩ : ∃ p, p = w.heap.size := ⟨_, rfl⟩
  obtain ⟨w1, hw1⟩ : ∃ w1, w1 = w.alloc (.cells #[.int .i64 f, .int .i64 t, .int .i64 a, .int .i64 s, .int .i64 k, .int .i64 o, .int .i64 d, .int .i64 u, .int .i64 v] 26) := ⟨_, rfl⟩
  have HB1 : Hid (Below w.heap.size w w1) := Lib.hid (hw1 ▸ (Below.refl _ _).alloc (Nat.le_refl _) _)
  have HK1 : Hid (Blk w1 p 26 #[.int .i64 f, .int .i64 t, .int .i64 a, .int .i64 s, .int .i64 k, .int .i64 o, .int .i64 d, .int .i64 u, .int .i64 v]) := Lib.hid (by rw [hw1, hp]; exact Blk.new w _ _)
  go_wp2_with fail
  rw [← hw1, ← hp]
  clear hw1 hp
  refine (HV.out w1).mono ?_
  rintro e w2 ⟨rfl, hb2⟩
  have HB2 : Hid (Below w.heap.size w w2) := Lib.hid (HB1.out.trans (hb2.mono HB1.out.size))
  have HK2 := Lib.hid (HK1.out.below hb2 HK1.out.lt)
  have HR2 : Hid (Reads w2 w2.heap.size 1 A n (bts l)) := Lib.hid ((HR.out.below HB2.out).more HB2.out.size)
  clear hb2
  by_cases hbe : Gm.Be ⟨f, t, a, s, ⟨k, o, d, u, v⟩⟩
  case neg =>
    have e1 : decide (Gm.Be ⟨f, t, a, s, ⟨k, o, d, u, v⟩⟩) = false := decide_eq_false hbe
    have HQ2 : Hid (q = []) := Lib.hid (HQn.out hbe)
    rw [e1]
    have HPP := Lib.hid (put_any A none n c 0 0 l [] w2 HR2.out Reads.none_ (by omega) (by omega) (fun x hx => by cases hx))
    clear hbe e1
    go_wp2_with fail
    refine HPP.out.mono ?_
    rintro e w3 ⟨v3, rfl, ho3, hb3⟩
    have HO3 : Hid (OwnB w3 w.heap.size v3 (l ++ q)) := Lib.hid (by rw [HQ2.out]; have := ho3.mono HB2.out.size; simpa [encs_nil] using this)
    have HB3 : Hid (Below w.heap.size w w3) := Lib.hid (HB2.out.trans (hb3.mono HB2.out.size))
    clear ho3 hb3
    go_wp2
    go_ret
    exact ⟨v3, rfl, HO3.out, HB3.out⟩
  case pos =>
    have e1 : decide (Gm.Be ⟨f, t, a, s, ⟨k, o, d, u, v⟩⟩) = true := decide_eq_true hbe
    rw [e1]
    have k2 := HK2.out
    have x0 : w2.cell? ⟨p, 0, none⟩ = some (.int .i64 f) := k2.cell 0
    have x1 : w2.cell? ⟨p, 1, none⟩ = some (.int .i64 t) := k2.cell 1
    have x2 : w2.cell? ⟨p, 2, none⟩ = some (.int .i64 a) := k2.cell 2
    have x3 : w2.cell? ⟨p, 3, none⟩ = some (.int .i64 s) := k2.cell 3
    clear k2
    have HBe := Lib.hid hbe
    have hs0 := HS0.out hbe
    clear hbe e1
    obtain ⟨bx, hbx⟩ : ∃ bx : Array Value, bx = #[.int .i64 f, .int .i64 t, .int .i64 a, .int .i64 s] := ⟨_, rfl⟩
    have HP3 : Hid (Reads (w2.alloc (.cells #[.int .i64 f, .int .i64 t, .int .i64 a, .int .i64 s] 3)) (w2.alloc (.cells #[.int .i64 f, .int .i64 t, .int .i64 a, .int .i64 s] 3)).heap.size 1 (some ⟨w2.heap.size, 0, none⟩) 4 (nms [f, t, a, s])) := Lib.hid (reads_top w2 _ _ _ _ rfl rfl)
    have HB3 : Hid (Below w2.heap.size w2 (w2.alloc (.cells #[.int .i64 f, .int .i64 t, .int .i64 a, .int .i64 s] 3))) := Lib.hid ((Below.refl _ _).alloc (Nat.le_refl _) _)
    clear hbx bx
    go_wp2_with fail
    refine (put_any A _ n c 4 4 l [f, t, a, s] _ ((HR2.out.below HB3.out).more HB3.out.size) HP3.out (by omega) (by omega) (fun x hx => by simp only [List.mem_cons, List.not_mem_nil, or_false] at hx; rcases hx with rfl | rfl | rfl | rfl <;> assumption)).mono ?_
    rintro e w3 ⟨v3, rfl, ho3, hb3⟩
    have hs23 : w.heap.size ≤ w2.heap.size := HB2.out.size
    have HO3 : Hid (OwnB w3 w2.heap.size v3 (l ++ encs [f, t, a, s])) := Lib.hid (ho3.mono HB3.out.size)
    have HB32 : Hid (Below w2.heap.size w2 w3) := Lib.hid (HB3.out.trans (hb3.mono HB3.out.size))
    have HB4 : Hid (Below w.heap.size w w3) := Lib.hid (HB2.out.trans (HB32.out.mono HB2.out.size))
    clear ho3 hb3
    have k3 := HK2.out.below HB32.out HK2.out.lt
    have y0 : w3.cell? ⟨p, 0, none⟩ = some (.int .i64 f) := k3.cell 0
    have y1 : w3.cell? ⟨p, 1, none⟩ = some (.int .i64 t) := k3.cell 1
    have y2 : w3.cell? ⟨p, 2, none⟩ = some (.int .i64 a) := k3.cell 2
    have y3 : w3.cell? ⟨p, 3, none⟩ = some (.int .i64 s) := k3.cell 3
    have y4 : w3.cell? ⟨p, 4, none⟩ = some (.int .i64 k) := k3.cell 4
    have y5 : w3.cell? ⟨p, 5, none⟩ = some (.int .i64 o) := k3.cell 5
    have y6 : w3.cell? ⟨p, 6, none⟩ = some (.int .i64 d) := k3.cell 6
    have y7 : w3.cell? ⟨p, 7, none⟩ = some (.int .i64 u) := k3.cell 7
    have y8 : w3.cell? ⟨p, 8, none⟩ = some (.int .i64 v) := k3.cell 8
    clear k3
    obtain ⟨A3, n3, c3, rfl⟩ := own_slice HO3.out
    have hl3 := own_len HO3.out
    have hr3 := own_reads HO3.out
    have he := encs_len [f, t, a, s]
    have hn3 : n3 ≤ n + 36 := by have h1 := hl3.1; rw [List.length_append, HL.out] at h1; simp at he; omega
    by_cases hk : s = 0
    case pos =>
      have tk : decide (0 < s) = false := by simp; omega
      have HQ2 : Hid (q = encs [f, t, a, s]) := Lib.hid (HQ0.out HBe.out hk)
      clear hk hl3 hr3 he
      go_wp2
      go_ret
      exact ⟨_, rfl, by rw [HQ2.out]; exact HO3.out.mono hs23, HB4.out⟩
    case neg =>
      have tk : decide (0 < s) = true := by simp; omega
      have HQ2 : Hid (q = encs [f, t, a, s] ++ q2) := Lib.hid (HQ1.out HBe.out hk)
      have HBn : Hid (isB (l ++ encs [f, t, a, s])) := Lib.hid (isB_app HBl.out (isB_encs (fun x hx => by simp only [List.mem_cons, List.not_mem_nil, or_false] at hx; rcases hx with rfl | rfl | rfl | rfl <;> assumption)))
      have HM3 := Lib.hid (HM.out A3 n3 c3 (l ++ encs [f, t, a, s]) w3 hr3 hl3.2 HBn.out (by omega))
      clear hk hl3 hr3 he
      go_wp2_with fail
      refine HM3.out.mono ?_
      rintro e w4 ⟨v4, rfl, ho4, hb4⟩
      have HO4 : Hid (OwnB w4 w.heap.size v4 (l ++ q)) := Lib.hid (by rw [HQ2.out, ← List.append_assoc]; exact ho4.mono HB4.out.size)
      have HB5 : Hid (Below w.heap.size w w4) := Lib.hid (HB4.out.trans (hb4.mono HB4.out.size))
      clear ho4 hb4
      go_wp2
      go_ret
      exact ⟨v4, rfl, HO4.out, HB5.out⟩
end Go.Proofs.YtmegpbejknmjbaaDoor.Pk
