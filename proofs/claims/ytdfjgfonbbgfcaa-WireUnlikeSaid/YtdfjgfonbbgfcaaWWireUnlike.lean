/- The walk of the law WireUnlike. -/
import Derived.Test.YtdfjgfonbbgfcaaWiWakes
import Derived.Test.YtdfjgfonbbgfcaaWiArgs
import Derived.Test.YtdfjgfonbbgfcaaWiEq
import Derived.Deep.RegionHeld3
import Derived.Deep.DeepMust
namespace Go.Proofs.Ytdfjgfonbbgfcaa.Pk
open Go.RowKit Go.Proofs.Ytdfjgfonbbgfcaa.Ar
set_option linter.unusedVariables false
theorem run_min2 (P : Program) (ts : Array TypeId) (t : TypeId) (a b M : Int) (hM : M = min a b) (w : World) :
    (Builtin.min_ ts t #[.int .i64 a, .int .i64 b]).run P w = .ok (.int .i64 M) w := by
  subst hM
  have e1 : (if b < a then b else a) = min a b := by split <;> omega
  simp only [Builtin.min_, List.foldlM, Builtin.min2, e1, pure_bind]
  rfl
theorem bytes_pos {m : Mg} (h : m.Be) : 0 < m.bytes.length := by
  obtain ⟨h1, h2, _⟩ := h
  have e : m.bytes = enc 8 (max m.k 0) ++ encs (m.nums.drop 1) := by
    unfold Mg.bytes Mg.nums encs
    split <;> rfl
  have := enc_len_pos 8 (max m.k 0)
  rw [e, List.length_append]; omega
theorem bytes_head {a b : Mg} (ha : a.Be) (hb : b.Be) (h : a.bytes = b.bytes.take a.bytes.length) : a = b := by
  have h1 := wtake_put hb []
  rw [List.append_nil] at h1
  have h2 : b.bytes = a.bytes ++ b.bytes.drop a.bytes.length := by
    conv => lhs; rw [← List.take_append_drop a.bytes.length b.bytes]
    rw [← h]
  rw [h2, wtake_put ha] at h1
  injection h1
theorem unlike {a b : Mg} (ha : a.Be) (hb : b.Be) (n : Nat) (hn : n = min a.bytes.length b.bytes.length) : decide (a.bytes.take n = b.bytes.take n) = decide (a = b) := by
  by_cases h : a = b
  · subst h; simp
  · rw [decide_eq_false h, decide_eq_false]
    intro e
    rcases Nat.le_total a.bytes.length b.bytes.length with h1 | h1
    · rw [Nat.min_eq_left h1] at hn
      rw [hn, List.take_length] at e
      exact h (bytes_head ha hb e)
    · rw [Nat.min_eq_right h1] at hn
      rw [hn, List.take_length (l := b.bytes)] at e
      exact h (bytes_head hb ha e.symm).symm
theorem cells10 {w : World} {p r : Nat} {t : TypeId} {k o d u v k' o' d' u' v' : Int} (hp : Blk w p t #[.int .i64 k, .int .i64 o, .int .i64 d, .int .i64 u, .int .i64 v]) (hr : Blk w r t #[.int .i64 k', .int .i64 o', .int .i64 d', .int .i64 u', .int .i64 v']) : w.cell? ⟨p, 0, none⟩ = some (.int .i64 k) ∧ w.cell? ⟨p, 1, none⟩ = some (.int .i64 o) ∧ w.cell? ⟨p, 2, none⟩ = some (.int .i64 d) ∧ w.cell? ⟨p, 3, none⟩ = some (.int .i64 u) ∧ w.cell? ⟨p, 4, none⟩ = some (.int .i64 v) ∧ w.cell? ⟨r, 0, none⟩ = some (.int .i64 k') ∧ w.cell? ⟨r, 1, none⟩ = some (.int .i64 o') ∧ w.cell? ⟨r, 2, none⟩ = some (.int .i64 d') ∧ w.cell? ⟨r, 3, none⟩ = some (.int .i64 u') ∧ w.cell? ⟨r, 4, none⟩ = some (.int .i64 v') :=
  ⟨hp.cell 0, hp.cell 1, hp.cell 2, hp.cell 3, hp.cell 4, hr.cell 0, hr.cell 1, hr.cell 2, hr.cell 3, hr.cell 4⟩
theorem below_by {w w' : World} {i : Nat} (h : Below w.heap.size (w.drewN i) w') : Below w.heap.size w w' := ⟨h.os, h.tape, h.output, h.size, h.block⟩
set_option maxRecDepth 100000 in
set_option maxHeartbeats 4000000 in
theorem law_WireUnlike (validC : ValidC) (putC : PutC) (a b : Mg) (w : World) (ha : a.I) (hb : b.I) :
    Calls Try.prog 8 #[a.val, b.val] w fun e w' => e = .returned (.bool true) ∧ Below w.heap.size w w' := by
  have HW := Lib.hid (fun u => wakes_any putC u)
  have HVa := Lib.hid (fun u => validC a u ha)
  have HVb := Lib.hid (fun u => validC b u hb)
  have HPa := Lib.hid (fun u => putC none 0 0 [] a u Reads.none_ (Nat.le_refl _) (fun c hc => by cases hc) (by omega) ha)
  have HPb := Lib.hid (fun u => putC none 0 0 [] b u Reads.none_ (Nat.le_refl _) (fun c hc => by cases hc) (by omega) hb)
  have HU := Lib.hid (@unlike a b)
  have HNa : Hid (a.Be → 0 < a.bytes.length) := Lib.hid bytes_pos
  have HNb : Hid (b.Be → 0 < b.bytes.length) := Lib.hid bytes_pos
  have HLa := Lib.hid a.put_len
  have HLb := Lib.hid b.put_len
  have Hpa : Hid (a.put = if a.Be then a.bytes else []) := Lib.hid rfl
  have Hpb : Hid (b.put = if b.Be then b.bytes else []) := Lib.hid rfl
  obtain ⟨s, hs⟩ : ∃ s, s = decide a.Be := ⟨_, rfl⟩
  obtain ⟨t, ht⟩ : ∃ t, t = decide b.Be := ⟨_, rfl⟩
  rw [← hs] at HVa
  rw [← ht] at HVb
  have HS := Lib.hid hs
  have HT := Lib.hid ht
  clear ha hb hs ht validC putC
  obtain ⟨k, o, d, u, v⟩ := a
  obtain ⟨k', o', d', u', v'⟩ := b
  unfold Mg.val at HVa HVb HPa HPb ⊢
  simp only at HVa HVb HPa HPb ⊢
  go_enter Try.func8, Try.ntmps8
  go_wp2_with fail
  obtain ⟨p, hp⟩ : ∃ p, p = w.heap.size := ⟨_, rfl⟩
  obtain ⟨r, hr⟩ : ∃ r, r = w.heap.size + 1 := ⟨_, rfl⟩
  obtain ⟨w1, hw1⟩ : ∃ w1, w1 = (w.alloc (.cells #[.int .i64 k, .int .i64 o, .int .i64 d, .int .i64 u, .int .i64 v] 24)).alloc (.cells #[.int .i64 k', .int .i64 o', .int .i64 d', .int .i64 u', .int .i64 v'] 24) := ⟨_, rfl⟩
  have hb1 : Below w.heap.size w w1 := hw1 ▸ ((Below.refl _ _).alloc (Nat.le_refl _) _).alloc (by simp) _
  have HKp1 : Hid (Blk w1 p 24 #[.int .i64 k, .int .i64 o, .int .i64 d, .int .i64 u, .int .i64 v]) := Lib.hid (by rw [hw1, hp]; exact (Blk.new w _ _).alloc _)
  have HKr1 : Hid (Blk w1 r 24 #[.int .i64 k', .int .i64 o', .int .i64 d', .int .i64 u', .int .i64 v']) := Lib.hid (by
    have := Blk.new (w.alloc (.cells #[.int .i64 k, .int .i64 o, .int .i64 d, .int .i64 u, .int .i64 v] 24)) 24 #[.int .i64 k', .int .i64 o', .int .i64 d', .int .i64 u', .int .i64 v']
    rw [World.size_alloc, ← hr] at this
    rw [hw1]; exact this)
  have HB1 := Lib.hid hb1
  rw [← hw1, ← hr, ← hp]
  clear hw1 hb1 hr hp
  refine (HW.out w1).mono ?_
  rintro e w2 ⟨rfl, hb⟩
  have HB2 := Lib.hid (HB1.out.trans (hb.mono HB1.out.size))
  have HKp2 := Lib.hid (HKp1.out.below hb HKp1.out.lt)
  have HKr2 := Lib.hid (HKr1.out.below hb HKr1.out.lt)
  have x2a0 : w2.cell? ⟨p, 0, none⟩ = some (.int .i64 k) := (HKp2.out).cell 0
  have x2a1 : w2.cell? ⟨p, 1, none⟩ = some (.int .i64 o) := (HKp2.out).cell 1
  have x2a2 : w2.cell? ⟨p, 2, none⟩ = some (.int .i64 d) := (HKp2.out).cell 2
  have x2a3 : w2.cell? ⟨p, 3, none⟩ = some (.int .i64 u) := (HKp2.out).cell 3
  have x2a4 : w2.cell? ⟨p, 4, none⟩ = some (.int .i64 v) := (HKp2.out).cell 4
  have x2b0 : w2.cell? ⟨r, 0, none⟩ = some (.int .i64 k') := (HKr2.out).cell 0
  have x2b1 : w2.cell? ⟨r, 1, none⟩ = some (.int .i64 o') := (HKr2.out).cell 1
  have x2b2 : w2.cell? ⟨r, 2, none⟩ = some (.int .i64 d') := (HKr2.out).cell 2
  have x2b3 : w2.cell? ⟨r, 3, none⟩ = some (.int .i64 u') := (HKr2.out).cell 3
  have x2b4 : w2.cell? ⟨r, 4, none⟩ = some (.int .i64 v') := (HKr2.out).cell 4
  clear hb HB1 HKp1 HKr1
  go_wp2_with fail
  refine (HVa.out w2).mono ?_
  rintro e w3 ⟨rfl, hb⟩
  have HB3 := Lib.hid (HB2.out.trans (hb.mono HB2.out.size))
  have HKp3 := Lib.hid (HKp2.out.below hb HKp2.out.lt)
  have HKr3 := Lib.hid (HKr2.out.below hb HKr2.out.lt)
  have x3a0 : w3.cell? ⟨p, 0, none⟩ = some (.int .i64 k) := (HKp3.out).cell 0
  have x3a1 : w3.cell? ⟨p, 1, none⟩ = some (.int .i64 o) := (HKp3.out).cell 1
  have x3a2 : w3.cell? ⟨p, 2, none⟩ = some (.int .i64 d) := (HKp3.out).cell 2
  have x3a3 : w3.cell? ⟨p, 3, none⟩ = some (.int .i64 u) := (HKp3.out).cell 3
  have x3a4 : w3.cell? ⟨p, 4, none⟩ = some (.int .i64 v) := (HKp3.out).cell 4
  have x3b0 : w3.cell? ⟨r, 0, none⟩ = some (.int .i64 k') := (HKr3.out).cell 0
  have x3b1 : w3.cell? ⟨r, 1, none⟩ = some (.int .i64 o') := (HKr3.out).cell 1
  have x3b2 : w3.cell? ⟨r, 2, none⟩ = some (.int .i64 d') := (HKr3.out).cell 2
  have x3b3 : w3.cell? ⟨r, 3, none⟩ = some (.int .i64 u') := (HKr3.out).cell 3
  have x3b4 : w3.cell? ⟨r, 4, none⟩ = some (.int .i64 v') := (HKr3.out).cell 4
  clear hb HB2 HKp2 HKr2
  cases s
  case false =>
    have hz : Hid ((⟨k, o, d, u, v⟩ : Mg).put = []) := Lib.hid (by rw [Hpa.out, if_neg (of_decide_eq_false HS.out.symm)])
    go_wp2_with fail
    refine (HPa.out w3).mono ?_
    rintro e w4 ⟨vv, rfl, ho, hb⟩
    have HB4 := Lib.hid (HB3.out.trans (hb.mono HB3.out.size))
    have HKp4 := Lib.hid (HKp3.out.below hb HKp3.out.lt)
    have HKr4 := Lib.hid (HKr3.out.below hb HKr3.out.lt)
    obtain ⟨A4, n4, c4, rfl⟩ := own_slice ho
    have HO4 := Lib.hid ho
    have hs4 := hb.size
    have hl4 := own_len ho
    clear ho
    have x4a0 : w4.cell? ⟨p, 0, none⟩ = some (.int .i64 k) := (HKp4.out).cell 0
    have x4a1 : w4.cell? ⟨p, 1, none⟩ = some (.int .i64 o) := (HKp4.out).cell 1
    have x4a2 : w4.cell? ⟨p, 2, none⟩ = some (.int .i64 d) := (HKp4.out).cell 2
    have x4a3 : w4.cell? ⟨p, 3, none⟩ = some (.int .i64 u) := (HKp4.out).cell 3
    have x4a4 : w4.cell? ⟨p, 4, none⟩ = some (.int .i64 v) := (HKp4.out).cell 4
    have x4b0 : w4.cell? ⟨r, 0, none⟩ = some (.int .i64 k') := (HKr4.out).cell 0
    have x4b1 : w4.cell? ⟨r, 1, none⟩ = some (.int .i64 o') := (HKr4.out).cell 1
    have x4b2 : w4.cell? ⟨r, 2, none⟩ = some (.int .i64 d') := (HKr4.out).cell 2
    have x4b3 : w4.cell? ⟨r, 3, none⟩ = some (.int .i64 u') := (HKr4.out).cell 3
    have x4b4 : w4.cell? ⟨r, 4, none⟩ = some (.int .i64 v') := (HKr4.out).cell 4
    clear hb HB3 HKp3 HKr3
    rw [hz.out] at hl4
    obtain rfl : n4 = 0 := by have := hl4.1; simpa using this.symm
    clear hl4 HO4
    go_wp2
    go_ret
    exact ⟨rfl, HB4.out⟩
  case true =>
  have HBa := Lib.hid (of_decide_eq_true HS.out.symm)
  go_wp2_with fail
  refine (HVb.out w3).mono ?_
  rintro e w4 ⟨rfl, hb⟩
  have HB4 := Lib.hid (HB3.out.trans (hb.mono HB3.out.size))
  have HKp4 := Lib.hid (HKp3.out.below hb HKp3.out.lt)
  have HKr4 := Lib.hid (HKr3.out.below hb HKr3.out.lt)
  have x4a0 : w4.cell? ⟨p, 0, none⟩ = some (.int .i64 k) := (HKp4.out).cell 0
  have x4a1 : w4.cell? ⟨p, 1, none⟩ = some (.int .i64 o) := (HKp4.out).cell 1
  have x4a2 : w4.cell? ⟨p, 2, none⟩ = some (.int .i64 d) := (HKp4.out).cell 2
  have x4a3 : w4.cell? ⟨p, 3, none⟩ = some (.int .i64 u) := (HKp4.out).cell 3
  have x4a4 : w4.cell? ⟨p, 4, none⟩ = some (.int .i64 v) := (HKp4.out).cell 4
  have x4b0 : w4.cell? ⟨r, 0, none⟩ = some (.int .i64 k') := (HKr4.out).cell 0
  have x4b1 : w4.cell? ⟨r, 1, none⟩ = some (.int .i64 o') := (HKr4.out).cell 1
  have x4b2 : w4.cell? ⟨r, 2, none⟩ = some (.int .i64 d') := (HKr4.out).cell 2
  have x4b3 : w4.cell? ⟨r, 3, none⟩ = some (.int .i64 u') := (HKr4.out).cell 3
  have x4b4 : w4.cell? ⟨r, 4, none⟩ = some (.int .i64 v') := (HKr4.out).cell 4
  clear hb HB3 HKp3 HKr3
  have Hza := Lib.hid (Hpa.out.trans (if_pos HBa.out))
  cases t
  case false =>
    have hz : Hid ((⟨k', o', d', u', v'⟩ : Mg).put = []) := Lib.hid (by rw [Hpb.out, if_neg (of_decide_eq_false HT.out.symm)])
    go_wp2_with fail
    refine (HPa.out w4).mono ?_
    rintro e w5 ⟨vv, rfl, ho, hb⟩
    have HB5 := Lib.hid (HB4.out.trans (hb.mono HB4.out.size))
    have HKp5 := Lib.hid (HKp4.out.below hb HKp4.out.lt)
    have HKr5 := Lib.hid (HKr4.out.below hb HKr4.out.lt)
    obtain ⟨A5, n5, c5, rfl⟩ := own_slice ho
    have HO5 := Lib.hid ho
    have hs5 := hb.size
    have hl5 := own_len ho
    clear ho
    have x5a0 : w5.cell? ⟨p, 0, none⟩ = some (.int .i64 k) := (HKp5.out).cell 0
    have x5a1 : w5.cell? ⟨p, 1, none⟩ = some (.int .i64 o) := (HKp5.out).cell 1
    have x5a2 : w5.cell? ⟨p, 2, none⟩ = some (.int .i64 d) := (HKp5.out).cell 2
    have x5a3 : w5.cell? ⟨p, 3, none⟩ = some (.int .i64 u) := (HKp5.out).cell 3
    have x5a4 : w5.cell? ⟨p, 4, none⟩ = some (.int .i64 v) := (HKp5.out).cell 4
    have x5b0 : w5.cell? ⟨r, 0, none⟩ = some (.int .i64 k') := (HKr5.out).cell 0
    have x5b1 : w5.cell? ⟨r, 1, none⟩ = some (.int .i64 o') := (HKr5.out).cell 1
    have x5b2 : w5.cell? ⟨r, 2, none⟩ = some (.int .i64 d') := (HKr5.out).cell 2
    have x5b3 : w5.cell? ⟨r, 3, none⟩ = some (.int .i64 u') := (HKr5.out).cell 3
    have x5b4 : w5.cell? ⟨r, 4, none⟩ = some (.int .i64 v') := (HKr5.out).cell 4
    clear hb HB4 HKp4 HKr4
    rw [Hza.out, List.nil_append] at hl5
    have hn5 : 0 < n5 := by have := HNa.out HBa.out; omega
    have t5 : ((n5 : Int) == 0) = false := by simp; omega
    clear hl5 HO5
    go_wp2_with fail
    refine (HPb.out w5).mono ?_
    rintro e w6 ⟨vv, rfl, ho, hb⟩
    have HB6 := Lib.hid (HB5.out.trans (hb.mono HB5.out.size))
    have HKp6 := Lib.hid (HKp5.out.below hb HKp5.out.lt)
    have HKr6 := Lib.hid (HKr5.out.below hb HKr5.out.lt)
    obtain ⟨A6, n6, c6, rfl⟩ := own_slice ho
    have HO6 := Lib.hid ho
    have hs6 := hb.size
    have hl6 := own_len ho
    clear ho
    have x6a0 : w6.cell? ⟨p, 0, none⟩ = some (.int .i64 k) := (HKp6.out).cell 0
    have x6a1 : w6.cell? ⟨p, 1, none⟩ = some (.int .i64 o) := (HKp6.out).cell 1
    have x6a2 : w6.cell? ⟨p, 2, none⟩ = some (.int .i64 d) := (HKp6.out).cell 2
    have x6a3 : w6.cell? ⟨p, 3, none⟩ = some (.int .i64 u) := (HKp6.out).cell 3
    have x6a4 : w6.cell? ⟨p, 4, none⟩ = some (.int .i64 v) := (HKp6.out).cell 4
    have x6b0 : w6.cell? ⟨r, 0, none⟩ = some (.int .i64 k') := (HKr6.out).cell 0
    have x6b1 : w6.cell? ⟨r, 1, none⟩ = some (.int .i64 o') := (HKr6.out).cell 1
    have x6b2 : w6.cell? ⟨r, 2, none⟩ = some (.int .i64 d') := (HKr6.out).cell 2
    have x6b3 : w6.cell? ⟨r, 3, none⟩ = some (.int .i64 u') := (HKr6.out).cell 3
    have x6b4 : w6.cell? ⟨r, 4, none⟩ = some (.int .i64 v') := (HKr6.out).cell 4
    clear hb HB5 HKp5 HKr5
    rw [hz.out] at hl6
    obtain rfl : n6 = 0 := by have := hl6.1; simpa using this.symm
    clear hl6 HO6
    go_wp2
    go_ret
    exact ⟨rfl, HB6.out⟩
  case true =>
  have HBb := Lib.hid (of_decide_eq_true HT.out.symm)
  have Hzb := Lib.hid (Hpb.out.trans (if_pos HBb.out))
  have X4 := cells10 HKp4.out HKr4.out
  go_wp2_with fail
  go_region_held3 (fun w' => w'.cell? ⟨p, 0, none⟩ = some (.int .i64 k) ∧ w'.cell? ⟨p, 1, none⟩ = some (.int .i64 o) ∧ w'.cell? ⟨p, 2, none⟩ = some (.int .i64 d) ∧ w'.cell? ⟨p, 3, none⟩ = some (.int .i64 u) ∧ w'.cell? ⟨p, 4, none⟩ = some (.int .i64 v) ∧ w'.cell? ⟨r, 0, none⟩ = some (.int .i64 k') ∧ w'.cell? ⟨r, 1, none⟩ = some (.int .i64 o') ∧ w'.cell? ⟨r, 2, none⟩ = some (.int .i64 d') ∧ w'.cell? ⟨r, 3, none⟩ = some (.int .i64 u') ∧ w'.cell? ⟨r, 4, none⟩ = some (.int .i64 v')) (first | exact X4 | exact X5 | exact X6 | go_keep) (first
    | (go_at_call_of 13 (Value.int IntKind.i64 k); refine (HPa.out _).mono ?_; go_must (rintro e w5 ⟨vv, rfl, ho, hb⟩; obtain ⟨A5, n5, c5, rfl⟩ := own_slice ho; have HO5 := Lib.hid ho; have hl5 := own_len ho; have H5 : Hid (Below w4.heap.size w4 w5) := Lib.hid (by first | exact hb | exact below_by hb); have X5 := cells10 (HKp4.out.below H5.out HKp4.out.lt) (HKr4.out.below H5.out HKr4.out.lt); clear ho hb))
    | (go_at_call_of 13 (Value.int IntKind.i64 k'); refine (HPb.out _).mono ?_; go_must (rintro e w6 ⟨vv, rfl, ho, hb⟩; obtain ⟨A6, n6, c6, rfl⟩ := own_slice ho; have H6 : Hid (Below w5.heap.size w5 w6) := Lib.hid (by first | exact hb | exact below_by hb); have HO6 := Lib.hid ho; have hl6 := own_len ho; have HO56 := Lib.hid (HO5.out.keep H6.out (Nat.le_refl _)); have X6 := cells10 ((HKp4.out.below H5.out HKp4.out.lt).below H6.out (HKp4.out.below H5.out HKp4.out.lt).lt) ((HKr4.out.below H5.out HKr4.out.lt).below H6.out (HKr4.out.below H5.out HKr4.out.lt).lt); clear ho hb)))
  have HB6 := Lib.hid (HB4.out.trans ((H5.out.trans (H6.out.mono H5.out.size)).mono HB4.out.size))
  obtain ⟨xa0, xa1, xa2, xa3, xa4, xb0, xb1, xb2, xb3, xb4⟩ := X6
  clear X4 X5
  rw [Hza.out, List.nil_append] at hl5
  have hn5 : 0 < n5 := by have := HNa.out HBa.out; omega
  have hL5 : n5 ≤ 45 := by have := HLa.out; rw [Hza.out] at this; omega
  have HE5 := Lib.hid hl5.1
  have hc5 : n5 ≤ c5 := hl5.2
  clear hl5
  rw [Hzb.out, List.nil_append] at hl6
  have hn6 : 0 < n6 := by have := HNb.out HBb.out; omega
  have hL6 : n6 ≤ 45 := by have := HLb.out; rw [Hzb.out] at this; omega
  have HE6 := Lib.hid hl6.1
  have hc6 : n6 ≤ c6 := hl6.2
  clear hl6
  obtain ⟨z, hz⟩ : ∃ z : Nat, z = min n5 n6 := ⟨_, rfl⟩
  have hz5 : z ≤ n5 := by omega
  have hz6 : z ≤ n6 := by omega
  have hz0 : 0 < z := by omega
  have kn := fun (w : World) => run_min2 Try.prog #[3, 3] 3 (n5 : Int) (n6 : Int) (z : Int) (by omega) w
  have k5 := fun (w : World) => run_head (P := Try.prog) Try.underlying22 (by kernel_rfl) A5 n5 c5 z (by omega) w
  have k6 := fun (w : World) => run_head (P := Try.prog) Try.underlying22 (by kernel_rfl) A6 n6 c6 z (by omega) w
  have HUn := Lib.hid (HU.out HBa.out HBb.out z (by rw [HE5.out, HE6.out]; exact hz))
  obtain ⟨q, hq⟩ : ∃ q, q = decide ((⟨k, o, d, u, v⟩ : Mg) = ⟨k', o', d', u', v'⟩) := ⟨_, rfl⟩
  rw [← hq] at HUn
  have ke : ∀ W : World, (Op.equalIn 10000 24 (.agg #[.int .i64 k, .int .i64 o, .int .i64 d, .int .i64 u, .int .i64 v]) (.agg #[.int .i64 k', .int .i64 o', .int .i64 d', .int .i64 u', .int .i64 v'])).run Try.prog W = .ok q W := fun W => by rw [eq_msg, hq]
  have R5 : Reads w6 w6.heap.size 1 A5 z (bts ((Mg.bytes ⟨k, o, d, u, v⟩).take z)) := by
    have h1 := own_reads HO56.out
    rw [Hza.out, List.nil_append] at h1
    exact h1.take hz5
  have R6 : Reads w6 w6.heap.size 1 A6 z (bts ((Mg.bytes ⟨k', o', d', u', v'⟩).take z)) := by
    have h1 := own_reads HO6.out
    rw [Hzb.out, List.nil_append] at h1
    exact h1.take hz6
  have HSm : Hid (∀ i, Calls Try.prog 12 #[.slice A5 z c5, .slice A6 z c6] (w6.drewN i) fun e w' => e = .returned (.bool q) ∧ ∃ j, w' = (w6.drewN i).drewN j) := Lib.hid (fun i => by
    have h := same_any A5 A6 z c5 z c6 _ _ (w6.drewN i) _ _ (R5.drewN i) (R6.drewN i) (by omega)
    rwa [HUn.out] at h)
  have hqq : (q == q) = true := by simp
  clear hz hq R5 R6 HO5 HO6 HO56
  have X6 : w6.cell? ⟨p, 0, none⟩ = some (.int .i64 k) ∧ w6.cell? ⟨p, 1, none⟩ = some (.int .i64 o) ∧ w6.cell? ⟨p, 2, none⟩ = some (.int .i64 d) ∧ w6.cell? ⟨p, 3, none⟩ = some (.int .i64 u) ∧ w6.cell? ⟨p, 4, none⟩ = some (.int .i64 v) ∧ w6.cell? ⟨r, 0, none⟩ = some (.int .i64 k') ∧ w6.cell? ⟨r, 1, none⟩ = some (.int .i64 o') ∧ w6.cell? ⟨r, 2, none⟩ = some (.int .i64 d') ∧ w6.cell? ⟨r, 3, none⟩ = some (.int .i64 u') ∧ w6.cell? ⟨r, 4, none⟩ = some (.int .i64 v') := ⟨xa0, xa1, xa2, xa3, xa4, xb0, xb1, xb2, xb3, xb4⟩
  go_wp2_with fail
  go_region_held3 (fun w' => w'.cell? ⟨p, 0, none⟩ = some (.int .i64 k) ∧ w'.cell? ⟨p, 1, none⟩ = some (.int .i64 o) ∧ w'.cell? ⟨p, 2, none⟩ = some (.int .i64 d) ∧ w'.cell? ⟨p, 3, none⟩ = some (.int .i64 u) ∧ w'.cell? ⟨p, 4, none⟩ = some (.int .i64 v) ∧ w'.cell? ⟨r, 0, none⟩ = some (.int .i64 k') ∧ w'.cell? ⟨r, 1, none⟩ = some (.int .i64 o') ∧ w'.cell? ⟨r, 2, none⟩ = some (.int .i64 d') ∧ w'.cell? ⟨r, 3, none⟩ = some (.int .i64 u') ∧ w'.cell? ⟨r, 4, none⟩ = some (.int .i64 v')) (first | exact X6 | go_keep) (first
    | (go_at_call 12; go_must (refine (HSm.out _).mono ?_; rintro e w7 ⟨rfl, k7, rfl⟩)))
  all_goals
    go_wp2
    go_ret
    exact ⟨rfl, by
      refine HB6.out.trans (Below.mono ?_ HB6.out.size)
      repeat' (first | exact Below.refl _ _ | refine below_drewN ?_ _)⟩
end Go.Proofs.Ytdfjgfonbbgfcaa.Pk
