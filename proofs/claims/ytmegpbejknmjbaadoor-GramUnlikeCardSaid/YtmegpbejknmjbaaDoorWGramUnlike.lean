/- The walk of the law GramUnlike. -/
import Derived.Test.YtmegpbejknmjbaaDoorGmWakes
import Derived.Test.YtmegpbejknmjbaaDoorGmArgs
import Derived.Test.YtmegpbejknmjbaaDoorGmEq
import Derived.Deep.RegionHeld3
import Derived.Deep.DeepMust
namespace Go.Proofs.YtmegpbejknmjbaaDoor.Pk
open Go.RowKit Go.Proofs.YtmegpbejknmjbaaDoor.Ar Go.Proofs.YtmegpbejknmjbaaDoor.Crc
set_option linter.unusedVariables false
theorem run_min2 (P : Program) (ts : Array TypeId) (t : TypeId) (a b M : Int) (hM : M = min a b) (w : World) :
    (Builtin.min_ ts t #[.int .i64 a, .int .i64 b]).run P w = .ok (.int .i64 M) w := by
  subst hM
  have e1 : (if b < a then b else a) = min a b := by split <;> omega
  simp only [Builtin.min_, List.foldlM, Builtin.min2, e1, pure_bind]
  rfl
theorem gunlike {a b : Gm} (ha : a.Be) (hb : b.Be) (n : Nat) (hn : n = min a.bytes.length b.bytes.length) : decide (a.bytes.take n = b.bytes.take n) = decide (a = b) := decide_eq_decide.2 (gbytes_apart ha hb n hn)
theorem gunlike2 {a b : Gm} (ha : a.Be) (hb : b.Be) : decide (a.all = b.all) = decide (a = b) := decide_eq_decide.2 ⟨fun e => gall_inj ha hb e, fun e => by rw [e]⟩
theorem cells18 {w : World} {p r : Nat} {ty : TypeId} {f t b s k o d u v f2 t2 b2 s2 k2 o2 d2 u2 v2 : Int} (hp : Blk w p ty #[.int .i64 f, .int .i64 t, .int .i64 b, .int .i64 s, .int .i64 k, .int .i64 o, .int .i64 d, .int .i64 u, .int .i64 v]) (hr : Blk w r ty #[.int .i64 f2, .int .i64 t2, .int .i64 b2, .int .i64 s2, .int .i64 k2, .int .i64 o2, .int .i64 d2, .int .i64 u2, .int .i64 v2]) : w.cell? ⟨p, 0, none⟩ = some (.int .i64 f) ∧ w.cell? ⟨p, 1, none⟩ = some (.int .i64 t) ∧ w.cell? ⟨p, 2, none⟩ = some (.int .i64 b) ∧ w.cell? ⟨p, 3, none⟩ = some (.int .i64 s) ∧ w.cell? ⟨p, 4, none⟩ = some (.int .i64 k) ∧ w.cell? ⟨p, 5, none⟩ = some (.int .i64 o) ∧ w.cell? ⟨p, 6, none⟩ = some (.int .i64 d) ∧ w.cell? ⟨p, 7, none⟩ = some (.int .i64 u) ∧ w.cell? ⟨p, 8, none⟩ = some (.int .i64 v) ∧ w.cell? ⟨r, 0, none⟩ = some (.int .i64 f2) ∧ w.cell? ⟨r, 1, none⟩ = some (.int .i64 t2) ∧ w.cell? ⟨r, 2, none⟩ = some (.int .i64 b2) ∧ w.cell? ⟨r, 3, none⟩ = some (.int .i64 s2) ∧ w.cell? ⟨r, 4, none⟩ = some (.int .i64 k2) ∧ w.cell? ⟨r, 5, none⟩ = some (.int .i64 o2) ∧ w.cell? ⟨r, 6, none⟩ = some (.int .i64 d2) ∧ w.cell? ⟨r, 7, none⟩ = some (.int .i64 u2) ∧ w.cell? ⟨r, 8, none⟩ = some (.int .i64 v2) :=
  ⟨hp.cell 0, hp.cell 1, hp.cell 2, hp.cell 3, hp.cell 4, hp.cell 5, hp.cell 6, hp.cell 7, hp.cell 8, hr.cell 0, hr.cell 1, hr.cell 2, hr.cell 3, hr.cell 4, hr.cell 5, hr.cell 6, hr.cell 7, hr.cell 8⟩
set_option maxRecDepth 100000 in
set_option maxHeartbeats 8000000 in
theorem law_GramUnlike (validG : ValidG) (putG : PutG) (encG : EncG) (a c : Gm) (w : World) (ht : Tab w) (ha : a.I) (hb : c.I) :
    Calls Tryd.prog 8 #[a.val, c.val] w fun e w' => e = .returned (.bool true) ∧ Below w.heap.size w w' := by
  have HTb := Lib.hid ht
  have HW := Lib.hid (fun u h => wakes_any encG u h)
  have HVa := Lib.hid (fun u => validG a u ha)
  have HVb := Lib.hid (fun u => validG c u hb)
  have HPa := Lib.hid (fun u => putG none 0 0 [] a u Reads.none_ (Nat.le_refl _) (fun c hc => by cases hc) (by omega) ha)
  have HPb := Lib.hid (fun u => putG none 0 0 [] c u Reads.none_ (Nat.le_refl _) (fun c hc => by cases hc) (by omega) hb)
  have HEa := Lib.hid (fun u h => encG a u h ha)
  have HEb := Lib.hid (fun u h => encG c u h hb)
  have HU := Lib.hid (@gunlike a c)
  have HU2 := Lib.hid (@gunlike2 a c)
  have HNa : Hid (0 < a.bytes.length) := Lib.hid (by have := @gbytes_pos a; omega)
  have HNb : Hid (0 < c.bytes.length) := Lib.hid (by have := @gbytes_pos c; omega)
  have HLa := Lib.hid a.bytes_len
  have HLb := Lib.hid c.bytes_len
  have Hpa : Hid (a.put = if a.Be then a.bytes else []) := Lib.hid rfl
  have Hpb : Hid (c.put = if c.Be then c.bytes else []) := Lib.hid rfl
  have Hea : Hid (a.Be → genc a = (a.all, 0)) := Lib.hid (fun h => if_pos h)
  have Heb : Hid (c.Be → genc c = (c.all, 0)) := Lib.hid (fun h => if_pos h)
  have HAa := Lib.hid (gall_len a)
  have HAb := Lib.hid (gall_len c)
  obtain ⟨y, hs⟩ : ∃ y, y = decide a.Be := ⟨_, rfl⟩
  obtain ⟨z, hz⟩ : ∃ z, z = decide c.Be := ⟨_, rfl⟩
  rw [← hs] at HVa
  rw [← hz] at HVb
  have HS := Lib.hid hs
  have HT := Lib.hid hz
  clear ha hb hs hz ht validG putG encG
  obtain ⟨f, t, b, s, ⟨k, o, d, u, v⟩⟩ := a
  obtain ⟨f2, t2, b2, s2, ⟨k2, o2, d2, u2, v2⟩⟩ := c
  unfold Gm.val at HVa HVb HPa HPb HEa HEb ⊢
  simp only at HVa HVb HPa HPb HEa HEb ⊢
  go_enter Tryd.func8, Tryd.ntmps8
  go_wp2_with fail
  obtain ⟨p, hp⟩ : ∃ p, p = w.heap.size := ⟨_, rfl⟩
  obtain ⟨r, hr⟩ : ∃ r, r = w.heap.size + 1 := ⟨_, rfl⟩
  obtain ⟨w1, hw1⟩ : ∃ w1, w1 = (w.alloc (.cells #[.int .i64 f, .int .i64 t, .int .i64 b, .int .i64 s, .int .i64 k, .int .i64 o, .int .i64 d, .int .i64 u, .int .i64 v] 26)).alloc (.cells #[.int .i64 f2, .int .i64 t2, .int .i64 b2, .int .i64 s2, .int .i64 k2, .int .i64 o2, .int .i64 d2, .int .i64 u2, .int .i64 v2] 26) := ⟨_, rfl⟩
  have hb1 : Below w.heap.size w w1 := hw1 ▸ ((Below.refl _ _).alloc (Nat.le_refl _) _).alloc (by simp) _
  have HKp1 : Hid (Blk w1 p 26 #[.int .i64 f, .int .i64 t, .int .i64 b, .int .i64 s, .int .i64 k, .int .i64 o, .int .i64 d, .int .i64 u, .int .i64 v]) := Lib.hid (by rw [hw1, hp]; exact (Blk.new w _ _).alloc _)
  have HKr1 : Hid (Blk w1 r 26 #[.int .i64 f2, .int .i64 t2, .int .i64 b2, .int .i64 s2, .int .i64 k2, .int .i64 o2, .int .i64 d2, .int .i64 u2, .int .i64 v2]) := Lib.hid (by
    have := Blk.new (w.alloc (.cells #[.int .i64 f, .int .i64 t, .int .i64 b, .int .i64 s, .int .i64 k, .int .i64 o, .int .i64 d, .int .i64 u, .int .i64 v] 26)) 26 #[.int .i64 f2, .int .i64 t2, .int .i64 b2, .int .i64 s2, .int .i64 k2, .int .i64 o2, .int .i64 d2, .int .i64 u2, .int .i64 v2]
    rw [World.size_alloc, ← hr] at this
    rw [hw1]; exact this)
  have HB1 := Lib.hid hb1
  rw [← hw1, ← hr, ← hp]
  clear hw1 hb1 hr hp
  refine (HW.out w1 (HTb.out.next HB1.out)).mono ?_
  rintro e w2 ⟨rfl, hb⟩
  have HB2 := Lib.hid (HB1.out.trans (hb.mono HB1.out.size))
  have HKp2 := Lib.hid (HKp1.out.below hb HKp1.out.lt)
  have HKr2 := Lib.hid (HKr1.out.below hb HKr1.out.lt)
  have x2a0 : w2.cell? ⟨p, 0, none⟩ = some (.int .i64 f) := (HKp2.out).cell 0
  have x2a1 : w2.cell? ⟨p, 1, none⟩ = some (.int .i64 t) := (HKp2.out).cell 1
  have x2a2 : w2.cell? ⟨p, 2, none⟩ = some (.int .i64 b) := (HKp2.out).cell 2
  have x2a3 : w2.cell? ⟨p, 3, none⟩ = some (.int .i64 s) := (HKp2.out).cell 3
  have x2a4 : w2.cell? ⟨p, 4, none⟩ = some (.int .i64 k) := (HKp2.out).cell 4
  have x2a5 : w2.cell? ⟨p, 5, none⟩ = some (.int .i64 o) := (HKp2.out).cell 5
  have x2a6 : w2.cell? ⟨p, 6, none⟩ = some (.int .i64 d) := (HKp2.out).cell 6
  have x2a7 : w2.cell? ⟨p, 7, none⟩ = some (.int .i64 u) := (HKp2.out).cell 7
  have x2a8 : w2.cell? ⟨p, 8, none⟩ = some (.int .i64 v) := (HKp2.out).cell 8
  have x2b0 : w2.cell? ⟨r, 0, none⟩ = some (.int .i64 f2) := (HKr2.out).cell 0
  have x2b1 : w2.cell? ⟨r, 1, none⟩ = some (.int .i64 t2) := (HKr2.out).cell 1
  have x2b2 : w2.cell? ⟨r, 2, none⟩ = some (.int .i64 b2) := (HKr2.out).cell 2
  have x2b3 : w2.cell? ⟨r, 3, none⟩ = some (.int .i64 s2) := (HKr2.out).cell 3
  have x2b4 : w2.cell? ⟨r, 4, none⟩ = some (.int .i64 k2) := (HKr2.out).cell 4
  have x2b5 : w2.cell? ⟨r, 5, none⟩ = some (.int .i64 o2) := (HKr2.out).cell 5
  have x2b6 : w2.cell? ⟨r, 6, none⟩ = some (.int .i64 d2) := (HKr2.out).cell 6
  have x2b7 : w2.cell? ⟨r, 7, none⟩ = some (.int .i64 u2) := (HKr2.out).cell 7
  have x2b8 : w2.cell? ⟨r, 8, none⟩ = some (.int .i64 v2) := (HKr2.out).cell 8
  clear hb HB1 HKp1 HKr1
  go_wp2_with fail
  refine (HVa.out w2).mono ?_
  rintro e w3 ⟨rfl, hb⟩
  have HB3 := Lib.hid (HB2.out.trans (hb.mono HB2.out.size))
  have HKp3 := Lib.hid (HKp2.out.below hb HKp2.out.lt)
  have HKr3 := Lib.hid (HKr2.out.below hb HKr2.out.lt)
  have x3a0 : w3.cell? ⟨p, 0, none⟩ = some (.int .i64 f) := (HKp3.out).cell 0
  have x3a1 : w3.cell? ⟨p, 1, none⟩ = some (.int .i64 t) := (HKp3.out).cell 1
  have x3a2 : w3.cell? ⟨p, 2, none⟩ = some (.int .i64 b) := (HKp3.out).cell 2
  have x3a3 : w3.cell? ⟨p, 3, none⟩ = some (.int .i64 s) := (HKp3.out).cell 3
  have x3a4 : w3.cell? ⟨p, 4, none⟩ = some (.int .i64 k) := (HKp3.out).cell 4
  have x3a5 : w3.cell? ⟨p, 5, none⟩ = some (.int .i64 o) := (HKp3.out).cell 5
  have x3a6 : w3.cell? ⟨p, 6, none⟩ = some (.int .i64 d) := (HKp3.out).cell 6
  have x3a7 : w3.cell? ⟨p, 7, none⟩ = some (.int .i64 u) := (HKp3.out).cell 7
  have x3a8 : w3.cell? ⟨p, 8, none⟩ = some (.int .i64 v) := (HKp3.out).cell 8
  have x3b0 : w3.cell? ⟨r, 0, none⟩ = some (.int .i64 f2) := (HKr3.out).cell 0
  have x3b1 : w3.cell? ⟨r, 1, none⟩ = some (.int .i64 t2) := (HKr3.out).cell 1
  have x3b2 : w3.cell? ⟨r, 2, none⟩ = some (.int .i64 b2) := (HKr3.out).cell 2
  have x3b3 : w3.cell? ⟨r, 3, none⟩ = some (.int .i64 s2) := (HKr3.out).cell 3
  have x3b4 : w3.cell? ⟨r, 4, none⟩ = some (.int .i64 k2) := (HKr3.out).cell 4
  have x3b5 : w3.cell? ⟨r, 5, none⟩ = some (.int .i64 o2) := (HKr3.out).cell 5
  have x3b6 : w3.cell? ⟨r, 6, none⟩ = some (.int .i64 d2) := (HKr3.out).cell 6
  have x3b7 : w3.cell? ⟨r, 7, none⟩ = some (.int .i64 u2) := (HKr3.out).cell 7
  have x3b8 : w3.cell? ⟨r, 8, none⟩ = some (.int .i64 v2) := (HKr3.out).cell 8
  clear hb HB2 HKp2 HKr2
  cases y
  case false =>
    have hz : Hid ((⟨f, t, b, s, ⟨k, o, d, u, v⟩⟩ : Gm).put = []) := Lib.hid (by rw [Hpa.out, if_neg (of_decide_eq_false HS.out.symm)])
    go_wp2_with fail
    refine (HPa.out w3).mono ?_
    rintro e w4 ⟨vv, rfl, ho, hb⟩
    have HB4 := Lib.hid (HB3.out.trans (hb.mono HB3.out.size))
    have HKp4 := Lib.hid (HKp3.out.below hb HKp3.out.lt)
    have HKr4 := Lib.hid (HKr3.out.below hb HKr3.out.lt)
    obtain ⟨A4, n4, c4, rfl⟩ := own_slice ho
    have HO4 := Lib.hid ho
    have hs4 := hb.size
    have hl4 := own_len ho
    clear ho
    have x4a0 : w4.cell? ⟨p, 0, none⟩ = some (.int .i64 f) := (HKp4.out).cell 0
    have x4a1 : w4.cell? ⟨p, 1, none⟩ = some (.int .i64 t) := (HKp4.out).cell 1
    have x4a2 : w4.cell? ⟨p, 2, none⟩ = some (.int .i64 b) := (HKp4.out).cell 2
    have x4a3 : w4.cell? ⟨p, 3, none⟩ = some (.int .i64 s) := (HKp4.out).cell 3
    have x4a4 : w4.cell? ⟨p, 4, none⟩ = some (.int .i64 k) := (HKp4.out).cell 4
    have x4a5 : w4.cell? ⟨p, 5, none⟩ = some (.int .i64 o) := (HKp4.out).cell 5
    have x4a6 : w4.cell? ⟨p, 6, none⟩ = some (.int .i64 d) := (HKp4.out).cell 6
    have x4a7 : w4.cell? ⟨p, 7, none⟩ = some (.int .i64 u) := (HKp4.out).cell 7
    have x4a8 : w4.cell? ⟨p, 8, none⟩ = some (.int .i64 v) := (HKp4.out).cell 8
    have x4b0 : w4.cell? ⟨r, 0, none⟩ = some (.int .i64 f2) := (HKr4.out).cell 0
    have x4b1 : w4.cell? ⟨r, 1, none⟩ = some (.int .i64 t2) := (HKr4.out).cell 1
    have x4b2 : w4.cell? ⟨r, 2, none⟩ = some (.int .i64 b2) := (HKr4.out).cell 2
    have x4b3 : w4.cell? ⟨r, 3, none⟩ = some (.int .i64 s2) := (HKr4.out).cell 3
    have x4b4 : w4.cell? ⟨r, 4, none⟩ = some (.int .i64 k2) := (HKr4.out).cell 4
    have x4b5 : w4.cell? ⟨r, 5, none⟩ = some (.int .i64 o2) := (HKr4.out).cell 5
    have x4b6 : w4.cell? ⟨r, 6, none⟩ = some (.int .i64 d2) := (HKr4.out).cell 6
    have x4b7 : w4.cell? ⟨r, 7, none⟩ = some (.int .i64 u2) := (HKr4.out).cell 7
    have x4b8 : w4.cell? ⟨r, 8, none⟩ = some (.int .i64 v2) := (HKr4.out).cell 8
    clear hb HB3 HKp3 HKr3
    rw [hz.out] at hl4
    obtain rfl : n4 = 0 := by have := hl4.1; simpa using this.symm
    clear hl4 HO4
    go_wp2
    go_ret
    exact ⟨rfl, HB4.out⟩
  case true =>
  have HBa := Lib.hid (of_decide_eq_true HS.out.symm)
  go_wp2_with fail
  refine (HVb.out w3).mono ?_
  rintro e w4 ⟨rfl, hb⟩
  have HB4 := Lib.hid (HB3.out.trans (hb.mono HB3.out.size))
  have HKp4 := Lib.hid (HKp3.out.below hb HKp3.out.lt)
  have HKr4 := Lib.hid (HKr3.out.below hb HKr3.out.lt)
  have x4a0 : w4.cell? ⟨p, 0, none⟩ = some (.int .i64 f) := (HKp4.out).cell 0
  have x4a1 : w4.cell? ⟨p, 1, none⟩ = some (.int .i64 t) := (HKp4.out).cell 1
  have x4a2 : w4.cell? ⟨p, 2, none⟩ = some (.int .i64 b) := (HKp4.out).cell 2
  have x4a3 : w4.cell? ⟨p, 3, none⟩ = some (.int .i64 s) := (HKp4.out).cell 3
  have x4a4 : w4.cell? ⟨p, 4, none⟩ = some (.int .i64 k) := (HKp4.out).cell 4
  have x4a5 : w4.cell? ⟨p, 5, none⟩ = some (.int .i64 o) := (HKp4.out).cell 5
  have x4a6 : w4.cell? ⟨p, 6, none⟩ = some (.int .i64 d) := (HKp4.out).cell 6
  have x4a7 : w4.cell? ⟨p, 7, none⟩ = some (.int .i64 u) := (HKp4.out).cell 7
  have x4a8 : w4.cell? ⟨p, 8, none⟩ = some (.int .i64 v) := (HKp4.out).cell 8
  have x4b0 : w4.cell? ⟨r, 0, none⟩ = some (.int .i64 f2) := (HKr4.out).cell 0
  have x4b1 : w4.cell? ⟨r, 1, none⟩ = some (.int .i64 t2) := (HKr4.out).cell 1
  have x4b2 : w4.cell? ⟨r, 2, none⟩ = some (.int .i64 b2) := (HKr4.out).cell 2
  have x4b3 : w4.cell? ⟨r, 3, none⟩ = some (.int .i64 s2) := (HKr4.out).cell 3
  have x4b4 : w4.cell? ⟨r, 4, none⟩ = some (.int .i64 k2) := (HKr4.out).cell 4
  have x4b5 : w4.cell? ⟨r, 5, none⟩ = some (.int .i64 o2) := (HKr4.out).cell 5
  have x4b6 : w4.cell? ⟨r, 6, none⟩ = some (.int .i64 d2) := (HKr4.out).cell 6
  have x4b7 : w4.cell? ⟨r, 7, none⟩ = some (.int .i64 u2) := (HKr4.out).cell 7
  have x4b8 : w4.cell? ⟨r, 8, none⟩ = some (.int .i64 v2) := (HKr4.out).cell 8
  clear hb HB3 HKp3 HKr3
  have Hza := Lib.hid (Hpa.out.trans (if_pos HBa.out))
  cases z
  case false =>
    have hz : Hid ((⟨f2, t2, b2, s2, ⟨k2, o2, d2, u2, v2⟩⟩ : Gm).put = []) := Lib.hid (by rw [Hpb.out, if_neg (of_decide_eq_false HT.out.symm)])
    go_wp2_with fail
    refine (HPa.out w4).mono ?_
    rintro e w5 ⟨vv, rfl, ho, hb⟩
    have HB5 := Lib.hid (HB4.out.trans (hb.mono HB4.out.size))
    have HKp5 := Lib.hid (HKp4.out.below hb HKp4.out.lt)
    have HKr5 := Lib.hid (HKr4.out.below hb HKr4.out.lt)
    obtain ⟨A5, n5, c5, rfl⟩ := own_slice ho
    have HO5 := Lib.hid ho
    have hs5 := hb.size
    have hl5 := own_len ho
    clear ho
    have x5a0 : w5.cell? ⟨p, 0, none⟩ = some (.int .i64 f) := (HKp5.out).cell 0
    have x5a1 : w5.cell? ⟨p, 1, none⟩ = some (.int .i64 t) := (HKp5.out).cell 1
    have x5a2 : w5.cell? ⟨p, 2, none⟩ = some (.int .i64 b) := (HKp5.out).cell 2
    have x5a3 : w5.cell? ⟨p, 3, none⟩ = some (.int .i64 s) := (HKp5.out).cell 3
    have x5a4 : w5.cell? ⟨p, 4, none⟩ = some (.int .i64 k) := (HKp5.out).cell 4
    have x5a5 : w5.cell? ⟨p, 5, none⟩ = some (.int .i64 o) := (HKp5.out).cell 5
    have x5a6 : w5.cell? ⟨p, 6, none⟩ = some (.int .i64 d) := (HKp5.out).cell 6
    have x5a7 : w5.cell? ⟨p, 7, none⟩ = some (.int .i64 u) := (HKp5.out).cell 7
    have x5a8 : w5.cell? ⟨p, 8, none⟩ = some (.int .i64 v) := (HKp5.out).cell 8
    have x5b0 : w5.cell? ⟨r, 0, none⟩ = some (.int .i64 f2) := (HKr5.out).cell 0
    have x5b1 : w5.cell? ⟨r, 1, none⟩ = some (.int .i64 t2) := (HKr5.out).cell 1
    have x5b2 : w5.cell? ⟨r, 2, none⟩ = some (.int .i64 b2) := (HKr5.out).cell 2
    have x5b3 : w5.cell? ⟨r, 3, none⟩ = some (.int .i64 s2) := (HKr5.out).cell 3
    have x5b4 : w5.cell? ⟨r, 4, none⟩ = some (.int .i64 k2) := (HKr5.out).cell 4
    have x5b5 : w5.cell? ⟨r, 5, none⟩ = some (.int .i64 o2) := (HKr5.out).cell 5
    have x5b6 : w5.cell? ⟨r, 6, none⟩ = some (.int .i64 d2) := (HKr5.out).cell 6
    have x5b7 : w5.cell? ⟨r, 7, none⟩ = some (.int .i64 u2) := (HKr5.out).cell 7
    have x5b8 : w5.cell? ⟨r, 8, none⟩ = some (.int .i64 v2) := (HKr5.out).cell 8
    clear hb HB4 HKp4 HKr4
    rw [Hza.out, List.nil_append] at hl5
    have hn5 : 0 < n5 := by have := HNa.out; omega
    have t5 : ((n5 : Int) == 0) = false := by simp; omega
    clear hl5 HO5
    go_wp2_with fail
    refine (HPb.out w5).mono ?_
    rintro e w6 ⟨vv, rfl, ho, hb⟩
    have HB6 := Lib.hid (HB5.out.trans (hb.mono HB5.out.size))
    have HKp6 := Lib.hid (HKp5.out.below hb HKp5.out.lt)
    have HKr6 := Lib.hid (HKr5.out.below hb HKr5.out.lt)
    obtain ⟨A6, n6, c6, rfl⟩ := own_slice ho
    have HO6 := Lib.hid ho
    have hs6 := hb.size
    have hl6 := own_len ho
    clear ho
    have x6a0 : w6.cell? ⟨p, 0, none⟩ = some (.int .i64 f) := (HKp6.out).cell 0
    have x6a1 : w6.cell? ⟨p, 1, none⟩ = some (.int .i64 t) := (HKp6.out).cell 1
    have x6a2 : w6.cell? ⟨p, 2, none⟩ = some (.int .i64 b) := (HKp6.out).cell 2
    have x6a3 : w6.cell? ⟨p, 3, none⟩ = some (.int .i64 s) := (HKp6.out).cell 3
    have x6a4 : w6.cell? ⟨p, 4, none⟩ = some (.int .i64 k) := (HKp6.out).cell 4
    have x6a5 : w6.cell? ⟨p, 5, none⟩ = some (.int .i64 o) := (HKp6.out).cell 5
    have x6a6 : w6.cell? ⟨p, 6, none⟩ = some (.int .i64 d) := (HKp6.out).cell 6
    have x6a7 : w6.cell? ⟨p, 7, none⟩ = some (.int .i64 u) := (HKp6.out).cell 7
    have x6a8 : w6.cell? ⟨p, 8, none⟩ = some (.int .i64 v) := (HKp6.out).cell 8
    have x6b0 : w6.cell? ⟨r, 0, none⟩ = some (.int .i64 f2) := (HKr6.out).cell 0
    have x6b1 : w6.cell? ⟨r, 1, none⟩ = some (.int .i64 t2) := (HKr6.out).cell 1
    have x6b2 : w6.cell? ⟨r, 2, none⟩ = some (.int .i64 b2) := (HKr6.out).cell 2
    have x6b3 : w6.cell? ⟨r, 3, none⟩ = some (.int .i64 s2) := (HKr6.out).cell 3
    have x6b4 : w6.cell? ⟨r, 4, none⟩ = some (.int .i64 k2) := (HKr6.out).cell 4
    have x6b5 : w6.cell? ⟨r, 5, none⟩ = some (.int .i64 o2) := (HKr6.out).cell 5
    have x6b6 : w6.cell? ⟨r, 6, none⟩ = some (.int .i64 d2) := (HKr6.out).cell 6
    have x6b7 : w6.cell? ⟨r, 7, none⟩ = some (.int .i64 u2) := (HKr6.out).cell 7
    have x6b8 : w6.cell? ⟨r, 8, none⟩ = some (.int .i64 v2) := (HKr6.out).cell 8
    clear hb HB5 HKp5 HKr5
    rw [hz.out] at hl6
    obtain rfl : n6 = 0 := by have := hl6.1; simpa using this.symm
    clear hl6 HO6
    go_wp2
    go_ret
    exact ⟨rfl, HB6.out⟩
  case true =>
  have HBb := Lib.hid (of_decide_eq_true HT.out.symm)
  have Hzb := Lib.hid (Hpb.out.trans (if_pos HBb.out))
  have X4 := cells18 HKp4.out HKr4.out
  go_wp2_with fail
  go_region_held3 (fun w' => w'.cell? ⟨p, 0, none⟩ = some (.int .i64 f) ∧ w'.cell? ⟨p, 1, none⟩ = some (.int .i64 t) ∧ w'.cell? ⟨p, 2, none⟩ = some (.int .i64 b) ∧ w'.cell? ⟨p, 3, none⟩ = some (.int .i64 s) ∧ w'.cell? ⟨p, 4, none⟩ = some (.int .i64 k) ∧ w'.cell? ⟨p, 5, none⟩ = some (.int .i64 o) ∧ w'.cell? ⟨p, 6, none⟩ = some (.int .i64 d) ∧ w'.cell? ⟨p, 7, none⟩ = some (.int .i64 u) ∧ w'.cell? ⟨p, 8, none⟩ = some (.int .i64 v) ∧ w'.cell? ⟨r, 0, none⟩ = some (.int .i64 f2) ∧ w'.cell? ⟨r, 1, none⟩ = some (.int .i64 t2) ∧ w'.cell? ⟨r, 2, none⟩ = some (.int .i64 b2) ∧ w'.cell? ⟨r, 3, none⟩ = some (.int .i64 s2) ∧ w'.cell? ⟨r, 4, none⟩ = some (.int .i64 k2) ∧ w'.cell? ⟨r, 5, none⟩ = some (.int .i64 o2) ∧ w'.cell? ⟨r, 6, none⟩ = some (.int .i64 d2) ∧ w'.cell? ⟨r, 7, none⟩ = some (.int .i64 u2) ∧ w'.cell? ⟨r, 8, none⟩ = some (.int .i64 v2)) (first | exact X4 | exact X5 | exact X6 | go_keep) (first
    | (go_at_call_of 15 (Value.int IntKind.i64 f); refine (HPa.out _).mono ?_; go_must (rintro e w5 ⟨vv, rfl, ho, hb⟩; obtain ⟨A5, n5, c5, rfl⟩ := own_slice ho; have HO5 := Lib.hid ho; have hl5 := own_len ho; have H5 : Hid (Below w4.heap.size w4 w5) := Lib.hid (by first | exact hb | exact below_by hb); have X5 := cells18 (HKp4.out.below H5.out HKp4.out.lt) (HKr4.out.below H5.out HKr4.out.lt); clear ho hb))
    | (go_at_call_of 15 (Value.int IntKind.i64 f2); refine (HPb.out _).mono ?_; go_must (rintro e w6 ⟨vv, rfl, ho, hb⟩; obtain ⟨A6, n6, c6, rfl⟩ := own_slice ho; have H6 : Hid (Below w5.heap.size w5 w6) := Lib.hid (by first | exact hb | exact below_by hb); have HO6 := Lib.hid ho; have hl6 := own_len ho; have HO56 := Lib.hid (HO5.out.keep H6.out (Nat.le_refl _)); have X6 := cells18 ((HKp4.out.below H5.out HKp4.out.lt).below H6.out (HKp4.out.below H5.out HKp4.out.lt).lt) ((HKr4.out.below H5.out HKr4.out.lt).below H6.out (HKr4.out.below H5.out HKr4.out.lt).lt); clear ho hb)))
  have HB6 := Lib.hid (HB4.out.trans ((H5.out.trans (H6.out.mono H5.out.size)).mono HB4.out.size))
  have HKp6 := Lib.hid ((HKp4.out.below H5.out HKp4.out.lt).below H6.out (HKp4.out.below H5.out HKp4.out.lt).lt)
  have HKr6 := Lib.hid ((HKr4.out.below H5.out HKr4.out.lt).below H6.out (HKr4.out.below H5.out HKr4.out.lt).lt)
  obtain ⟨xa0, xa1, xa2, xa3, xa4, xa5, xa6, xa7, xa8, xb0, xb1, xb2, xb3, xb4, xb5, xb6, xb7, xb8⟩ := X6
  clear X4 X5
  rw [Hza.out, List.nil_append] at hl5
  have hn5 : 0 < n5 := by have := HNa.out; omega
  have hL5 : n5 ≤ 81 := by have := HLa.out; omega
  have HE5 := Lib.hid hl5.1
  have hc5 : n5 ≤ c5 := hl5.2
  clear hl5
  rw [Hzb.out, List.nil_append] at hl6
  have hn6 : 0 < n6 := by have := HNb.out; omega
  have hL6 : n6 ≤ 81 := by have := HLb.out; omega
  have HE6 := Lib.hid hl6.1
  have hc6 : n6 ≤ c6 := hl6.2
  clear hl6
  obtain ⟨m, hm⟩ : ∃ m : Nat, m = min n5 n6 := ⟨_, rfl⟩
  have hz5 : m ≤ n5 := by omega
  have hz6 : m ≤ n6 := by omega
  have hz0 : 0 < m := by omega
  have kn := fun (w : World) => run_min2 Tryd.prog #[3, 3] 3 (n5 : Int) (n6 : Int) (m : Int) (by omega) w
  have HUn := Lib.hid (HU.out HBa.out HBb.out m (by rw [HE5.out, HE6.out]; exact hm))
  have HUm := Lib.hid (HU2.out HBa.out HBb.out)
  obtain ⟨q, hq⟩ : ∃ q, q = decide ((⟨f, t, b, s, ⟨k, o, d, u, v⟩⟩ : Gm) = ⟨f2, t2, b2, s2, ⟨k2, o2, d2, u2, v2⟩⟩) := ⟨_, rfl⟩
  rw [← hq] at HUn HUm
  have HQ := Lib.hid hq
  clear hm hq
  have HO5' := Lib.hid (HO56.out)
  rw [Hza.out, List.nil_append] at HO5'
  have HO6' := Lib.hid (HO6.out)
  rw [Hzb.out, List.nil_append] at HO6'
  clear HO5 HO6 HO56
  clear xa0 xb0 xa1 xb1 xa2 xb2 xa3 xb3 xa4 xb4 xa5 xb5 xa6 xb6 xa7 xb7 xa8 xb8
  have x6a0 : w6.cell? ⟨p, 0, none⟩ = some (.int .i64 f) := (HKp6.out).cell 0
  have x6a1 : w6.cell? ⟨p, 1, none⟩ = some (.int .i64 t) := (HKp6.out).cell 1
  have x6a2 : w6.cell? ⟨p, 2, none⟩ = some (.int .i64 b) := (HKp6.out).cell 2
  have x6a3 : w6.cell? ⟨p, 3, none⟩ = some (.int .i64 s) := (HKp6.out).cell 3
  have x6a4 : w6.cell? ⟨p, 4, none⟩ = some (.int .i64 k) := (HKp6.out).cell 4
  have x6a5 : w6.cell? ⟨p, 5, none⟩ = some (.int .i64 o) := (HKp6.out).cell 5
  have x6a6 : w6.cell? ⟨p, 6, none⟩ = some (.int .i64 d) := (HKp6.out).cell 6
  have x6a7 : w6.cell? ⟨p, 7, none⟩ = some (.int .i64 u) := (HKp6.out).cell 7
  have x6a8 : w6.cell? ⟨p, 8, none⟩ = some (.int .i64 v) := (HKp6.out).cell 8
  have x6b0 : w6.cell? ⟨r, 0, none⟩ = some (.int .i64 f2) := (HKr6.out).cell 0
  have x6b1 : w6.cell? ⟨r, 1, none⟩ = some (.int .i64 t2) := (HKr6.out).cell 1
  have x6b2 : w6.cell? ⟨r, 2, none⟩ = some (.int .i64 b2) := (HKr6.out).cell 2
  have x6b3 : w6.cell? ⟨r, 3, none⟩ = some (.int .i64 s2) := (HKr6.out).cell 3
  have x6b4 : w6.cell? ⟨r, 4, none⟩ = some (.int .i64 k2) := (HKr6.out).cell 4
  have x6b5 : w6.cell? ⟨r, 5, none⟩ = some (.int .i64 o2) := (HKr6.out).cell 5
  have x6b6 : w6.cell? ⟨r, 6, none⟩ = some (.int .i64 d2) := (HKr6.out).cell 6
  have x6b7 : w6.cell? ⟨r, 7, none⟩ = some (.int .i64 u2) := (HKr6.out).cell 7
  have x6b8 : w6.cell? ⟨r, 8, none⟩ = some (.int .i64 v2) := (HKr6.out).cell 8
  go_wp2_with fail
  refine (HEa.out w6 (HTb.out.next HB6.out)).mono ?_
  rintro e w7 ⟨vv, rfl, ho, hb⟩
  have HB7 := Lib.hid (HB6.out.trans (hb.mono HB6.out.size))
  have HKp7 := Lib.hid (HKp6.out.below hb HKp6.out.lt)
  have HKr7 := Lib.hid (HKr6.out.below hb HKr6.out.lt)
  rw [Hea.out HBa.out] at ho ⊢
  obtain ⟨A7, n7, c7, rfl⟩ := own_slice ho
  have HO7 := Lib.hid ho
  have H7B := Lib.hid hb
  have hl7 := own_len ho
  clear ho
  have x7a0 : w7.cell? ⟨p, 0, none⟩ = some (.int .i64 f) := (HKp7.out).cell 0
  have x7a1 : w7.cell? ⟨p, 1, none⟩ = some (.int .i64 t) := (HKp7.out).cell 1
  have x7a2 : w7.cell? ⟨p, 2, none⟩ = some (.int .i64 b) := (HKp7.out).cell 2
  have x7a3 : w7.cell? ⟨p, 3, none⟩ = some (.int .i64 s) := (HKp7.out).cell 3
  have x7a4 : w7.cell? ⟨p, 4, none⟩ = some (.int .i64 k) := (HKp7.out).cell 4
  have x7a5 : w7.cell? ⟨p, 5, none⟩ = some (.int .i64 o) := (HKp7.out).cell 5
  have x7a6 : w7.cell? ⟨p, 6, none⟩ = some (.int .i64 d) := (HKp7.out).cell 6
  have x7a7 : w7.cell? ⟨p, 7, none⟩ = some (.int .i64 u) := (HKp7.out).cell 7
  have x7a8 : w7.cell? ⟨p, 8, none⟩ = some (.int .i64 v) := (HKp7.out).cell 8
  have x7b0 : w7.cell? ⟨r, 0, none⟩ = some (.int .i64 f2) := (HKr7.out).cell 0
  have x7b1 : w7.cell? ⟨r, 1, none⟩ = some (.int .i64 t2) := (HKr7.out).cell 1
  have x7b2 : w7.cell? ⟨r, 2, none⟩ = some (.int .i64 b2) := (HKr7.out).cell 2
  have x7b3 : w7.cell? ⟨r, 3, none⟩ = some (.int .i64 s2) := (HKr7.out).cell 3
  have x7b4 : w7.cell? ⟨r, 4, none⟩ = some (.int .i64 k2) := (HKr7.out).cell 4
  have x7b5 : w7.cell? ⟨r, 5, none⟩ = some (.int .i64 o2) := (HKr7.out).cell 5
  have x7b6 : w7.cell? ⟨r, 6, none⟩ = some (.int .i64 d2) := (HKr7.out).cell 6
  have x7b7 : w7.cell? ⟨r, 7, none⟩ = some (.int .i64 u2) := (HKr7.out).cell 7
  have x7b8 : w7.cell? ⟨r, 8, none⟩ = some (.int .i64 v2) := (HKr7.out).cell 8
  clear hb HB6 HKp6 HKr6
  go_wp2_with fail
  refine (HEb.out w7 (HTb.out.next HB7.out)).mono ?_
  rintro e w8 ⟨vv, rfl, ho, hb⟩
  have HB8 := Lib.hid (HB7.out.trans (hb.mono HB7.out.size))
  have HKp8 := Lib.hid (HKp7.out.below hb HKp7.out.lt)
  have HKr8 := Lib.hid (HKr7.out.below hb HKr7.out.lt)
  rw [Heb.out HBb.out] at ho ⊢
  obtain ⟨A8, n8, c8, rfl⟩ := own_slice ho
  have HO8 := Lib.hid ho
  have H8B := Lib.hid hb
  have hl8 := own_len ho
  clear ho
  have x8a0 : w8.cell? ⟨p, 0, none⟩ = some (.int .i64 f) := (HKp8.out).cell 0
  have x8a1 : w8.cell? ⟨p, 1, none⟩ = some (.int .i64 t) := (HKp8.out).cell 1
  have x8a2 : w8.cell? ⟨p, 2, none⟩ = some (.int .i64 b) := (HKp8.out).cell 2
  have x8a3 : w8.cell? ⟨p, 3, none⟩ = some (.int .i64 s) := (HKp8.out).cell 3
  have x8a4 : w8.cell? ⟨p, 4, none⟩ = some (.int .i64 k) := (HKp8.out).cell 4
  have x8a5 : w8.cell? ⟨p, 5, none⟩ = some (.int .i64 o) := (HKp8.out).cell 5
  have x8a6 : w8.cell? ⟨p, 6, none⟩ = some (.int .i64 d) := (HKp8.out).cell 6
  have x8a7 : w8.cell? ⟨p, 7, none⟩ = some (.int .i64 u) := (HKp8.out).cell 7
  have x8a8 : w8.cell? ⟨p, 8, none⟩ = some (.int .i64 v) := (HKp8.out).cell 8
  have x8b0 : w8.cell? ⟨r, 0, none⟩ = some (.int .i64 f2) := (HKr8.out).cell 0
  have x8b1 : w8.cell? ⟨r, 1, none⟩ = some (.int .i64 t2) := (HKr8.out).cell 1
  have x8b2 : w8.cell? ⟨r, 2, none⟩ = some (.int .i64 b2) := (HKr8.out).cell 2
  have x8b3 : w8.cell? ⟨r, 3, none⟩ = some (.int .i64 s2) := (HKr8.out).cell 3
  have x8b4 : w8.cell? ⟨r, 4, none⟩ = some (.int .i64 k2) := (HKr8.out).cell 4
  have x8b5 : w8.cell? ⟨r, 5, none⟩ = some (.int .i64 o2) := (HKr8.out).cell 5
  have x8b6 : w8.cell? ⟨r, 6, none⟩ = some (.int .i64 d2) := (HKr8.out).cell 6
  have x8b7 : w8.cell? ⟨r, 7, none⟩ = some (.int .i64 u2) := (HKr8.out).cell 7
  have x8b8 : w8.cell? ⟨r, 8, none⟩ = some (.int .i64 v2) := (HKr8.out).cell 8
  clear hb HB7 HKp7 HKr7
  have HO78 := Lib.hid (HO7.out.keep H8B.out (Nat.le_refl _))
  have h68 : Below w6.heap.size w6 w8 := H7B.out.trans (H8B.out.mono H7B.out.size)
  have h7n : n7 ≤ 85 := by have := HLa.out; have := HAa.out; have := hl7.1; omega
  have ke : ∀ W : World, (Op.equalIn 10000 26 (.agg #[.int .i64 f, .int .i64 t, .int .i64 b, .int .i64 s, .int .i64 k, .int .i64 o, .int .i64 d, .int .i64 u, .int .i64 v]) (.agg #[.int .i64 f2, .int .i64 t2, .int .i64 b2, .int .i64 s2, .int .i64 k2, .int .i64 o2, .int .i64 d2, .int .i64 u2, .int .i64 v2])).run Tryd.prog W = .ok q W := fun W => by rw [eq_gram, HQ.out]
  have k5 := fun (w : World) => run_head (P := Tryd.prog) Tryd.underlying22 (by kernel_rfl) A5 n5 c5 m (by omega) w
  have k6 := fun (w : World) => run_head (P := Tryd.prog) Tryd.underlying22 (by kernel_rfl) A6 n6 c6 m (by omega) w
  have R5 : Hid (Reads w8 w8.heap.size 1 A5 m (bts ((Gm.bytes ⟨f, t, b, s, ⟨k, o, d, u, v⟩⟩).take m))) := Lib.hid ((own_reads (HO5'.out.keep h68 (Nat.le_refl _))).take hz5)
  have R6 : Hid (Reads w8 w8.heap.size 1 A6 m (bts ((Gm.bytes ⟨f2, t2, b2, s2, ⟨k2, o2, d2, u2, v2⟩⟩).take m))) := Lib.hid ((own_reads (HO6'.out.keep h68 (Nat.le_refl _))).take hz6)
  have HSm : Hid (∀ i, Calls Tryd.prog 14 #[.slice A5 m c5, .slice A6 m c6] (w8.drewN i) fun e w' => e = .returned (.bool q) ∧ ∃ j, w' = (w8.drewN i).drewN j) := Lib.hid (fun i => by
    have h := same_any A5 A6 m c5 m c6 _ _ (w8.drewN i) _ _ (R5.out.drewN i) (R6.out.drewN i) (by omega)
    rwa [HUn.out] at h)
  have HSn : Hid (∀ i, Calls Tryd.prog 14 #[.slice A7 n7 c7, .slice A8 n8 c8] (w8.drewN i) fun e w' => e = .returned (.bool q) ∧ ∃ j, w' = (w8.drewN i).drewN j) := Lib.hid (fun i => by
    have h := same_any A7 A8 n7 c7 n8 c8 _ _ (w8.drewN i) _ _ ((own_reads HO78.out).drewN i) ((own_reads HO8.out).drewN i) (by omega)
    rwa [HUm.out] at h)
  have hqq : (q == q) = true := by simp
  clear hl7 hl8 h68
  have X8 := cells18 HKp8.out HKr8.out
  go_wp2_with fail
  go_region_held3 (fun w' => w'.cell? ⟨p, 0, none⟩ = some (.int .i64 f) ∧ w'.cell? ⟨p, 1, none⟩ = some (.int .i64 t) ∧ w'.cell? ⟨p, 2, none⟩ = some (.int .i64 b) ∧ w'.cell? ⟨p, 3, none⟩ = some (.int .i64 s) ∧ w'.cell? ⟨p, 4, none⟩ = some (.int .i64 k) ∧ w'.cell? ⟨p, 5, none⟩ = some (.int .i64 o) ∧ w'.cell? ⟨p, 6, none⟩ = some (.int .i64 d) ∧ w'.cell? ⟨p, 7, none⟩ = some (.int .i64 u) ∧ w'.cell? ⟨p, 8, none⟩ = some (.int .i64 v) ∧ w'.cell? ⟨r, 0, none⟩ = some (.int .i64 f2) ∧ w'.cell? ⟨r, 1, none⟩ = some (.int .i64 t2) ∧ w'.cell? ⟨r, 2, none⟩ = some (.int .i64 b2) ∧ w'.cell? ⟨r, 3, none⟩ = some (.int .i64 s2) ∧ w'.cell? ⟨r, 4, none⟩ = some (.int .i64 k2) ∧ w'.cell? ⟨r, 5, none⟩ = some (.int .i64 o2) ∧ w'.cell? ⟨r, 6, none⟩ = some (.int .i64 d2) ∧ w'.cell? ⟨r, 7, none⟩ = some (.int .i64 u2) ∧ w'.cell? ⟨r, 8, none⟩ = some (.int .i64 v2)) (first | exact X8 | go_keep) (first
    | (go_at_call_of 14 (Value.slice A5 m c5); go_must (refine (HSm.out _).mono ?_; rintro e w9 ⟨rfl, k9, rfl⟩))
    | (go_at_call_of 14 (Value.slice A7 n7 c7); go_must ((first | refine (HSn.out _).mono ?_ | (rw [World.drewN_drewN]; refine (HSn.out _).mono ?_)); rintro e w10 ⟨rfl, k10, rfl⟩)))
  all_goals
    go_wp2
    go_ret
    exact ⟨rfl, by
      refine HB8.out.trans (Below.mono ?_ HB8.out.size)
      repeat' (first | exact Below.refl _ _ | refine below_drewN ?_ _)⟩
end Go.Proofs.YtmegpbejknmjbaaDoor.Pk
