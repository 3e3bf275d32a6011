/- The document's Encode and Decode of a datagram. -/
import Derived.Test.YtmegpbejknmjbaaDoorGmRef2
import Derived.Test.YtmegpbejknmjbaaDoorGmRef3
import Derived.Test.YtmegpbejknmjbaaDoorCrcRef
import Derived.Deep.RegionHeld3
import Derived.Deep.DeepMust
import Derived.BigRegion
namespace Go.Proofs.YtmegpbejknmjbaaDoor.Pk
open Go.RowKit Go.Proofs.YtmegpbejknmjbaaDoor.Crc
set_option linter.unusedVariables false
set_option maxRecDepth 100000 in
set_option maxHeartbeats 4000000 in
theorem refenc9_any (g : Gm) (w : World) (hg : g.I) :
    Calls Tryd.prog 11 #[g.val] w fun e w' => ∃ v, e = .returned (.tuple #[v, .int .i64 (genc g).2]) ∧ OwnB w' w.heap.size v (genc g).1 ∧ Below w.heap.size w w' := by
  have HV := Lib.hid (fun u => refvalid9_any g u hg)
  have HP := Lib.hid (fun u => refput9_any none 0 0 [] g u Reads.none_ (by omega) hg)
  have HPl := Lib.hid g.put_len
  have HE1 : Hid (g.Be → genc g = (g.put ++ Fr.le4 (crc 0 g.put), 0)) := Lib.hid (fun h => by unfold genc; rw [if_pos h, gput_be h]; rfl)
  have HE2 : Hid (¬ g.Be → genc g = ([], 1)) := Lib.hid (fun h => by unfold genc; rw [if_neg h])
  have HPb : Hid (isB g.put) := Lib.hid (isB_gput g)
  obtain ⟨r, hr⟩ : ∃ r, r = decide g.Be := ⟨_, rfl⟩
  rw [← hr] at HV
  have HTt := Lib.hid hr
  obtain ⟨q, hq⟩ : ∃ q, q = g.put := ⟨_, rfl⟩
  rw [← hq] at HP HPl HE1 HPb
  obtain ⟨E, hE⟩ : ∃ E, E = genc g := ⟨_, rfl⟩
  rw [← hE] at HE1 HE2 ⊢
  have HBe1 : Hid (r = true → E = (q ++ Fr.le4 (crc 0 q), 0)) := Lib.hid (fun h => HE1.out (of_decide_eq_true (HTt.out.symm.trans h)))
  have HBe2 : Hid (r = false → E = ([], 1)) := Lib.hid (fun h => HE2.out (of_decide_eq_false (HTt.out.symm.trans h)))
  clear hr hq hE hg HE1 HE2 HTt
  obtain ⟨f, t, a, s, ⟨k, o, d, u, v⟩⟩ := g
  unfold Gm.val at HV HP ⊢
  simp only at HV HP ⊢
  go_enter Tryd.func11, Tryd.ntmps11
  obtain ⟨w1, hw1⟩ : ∃ w1, w1 = w.alloc (.cells #[.int .i64 f, .int .i64 t, .int .i64 a, .int .i64 s, .int .i64 k, .int .i64 o, .int .i64 d, .int .i64 u, .int .i64 v] 26) := ⟨_, rfl⟩
  have HB1 : Hid (Below w.heap.size w w1) := Lib.hid (hw1 ▸ (Below.refl _ _).alloc (Nat.le_refl _) _)
  have k1 : Blk w1 w.heap.size 26 #[.int .i64 f, .int .i64 t, .int .i64 a, .int .i64 s, .int .i64 k, .int .i64 o, .int .i64 d, .int .i64 u, .int .i64 v] := by rw [hw1]; exact Blk.new w _ _
  obtain ⟨p, hp⟩ : ∃ p, p = w.heap.size := ⟨_, rfl⟩
  rw [← hp] at k1
  have HK1 := Lib.hid k1
  go_wp2_with fail
  rw [← hw1, ← hp]
  clear hw1 hp k1
  refine (HV.out w1).mono ?_
  rintro e2 w2 ⟨rfl, hb2⟩
  have HB2 := Lib.hid (HB1.out.trans (hb2.mono HB1.out.size))
  have k2 := HK1.out.below hb2 HK1.out.lt
  have x0 : w2.cell? ⟨p, 0, none⟩ = some (.int .i64 f) := k2.cell 0
  have x1 : w2.cell? ⟨p, 1, none⟩ = some (.int .i64 t) := k2.cell 1
  have x2 : w2.cell? ⟨p, 2, none⟩ = some (.int .i64 a) := k2.cell 2
  have x3 : w2.cell? ⟨p, 3, none⟩ = some (.int .i64 s) := k2.cell 3
  have x4 : w2.cell? ⟨p, 4, none⟩ = some (.int .i64 k) := k2.cell 4
  have x5 : w2.cell? ⟨p, 5, none⟩ = some (.int .i64 o) := k2.cell 5
  have x6 : w2.cell? ⟨p, 6, none⟩ = some (.int .i64 d) := k2.cell 6
  have x7 : w2.cell? ⟨p, 7, none⟩ = some (.int .i64 u) := k2.cell 7
  have x8 : w2.cell? ⟨p, 8, none⟩ = some (.int .i64 v) := k2.cell 8
  clear k2 hb2
  cases r
  case false =>
    have h0 := Lib.hid (HBe2.out rfl)
    go_wp2
    go_ret2
    exact ⟨.slice none 0 0, by rw [h0.out]; rfl, by rw [h0.out]; exact OwnB.nil_ _ _, HB2.out⟩
  case true =>
  have h0 := Lib.hid (HBe1.out rfl)
  go_wp2_with fail
  refine (HP.out w2).mono ?_
  rintro e3 w3 ⟨v3, rfl, ho3, hb3⟩
  obtain ⟨A3, n3, c3, rfl⟩ := own_slice ho3
  rw [List.nil_append] at ho3
  have hl3 := own_len ho3
  have HO3 := Lib.hid ho3
  have HB3 := Lib.hid (HB2.out.trans (hb3.mono HB2.out.size))
  have hs32 : w2.heap.size ≤ w3.heap.size := hb3.size
  have hn3 : n3 ≤ 81 := by have := HPl.out; omega
  have HL3 := Lib.hid hl3
  clear ho3 hb3 hl3
  go_wp2_with fail
  refine (refSum_any A3 n3 c3 q w3 w3.heap.size (own_reads HO3.out) (by omega) HPb.out).mono ?_
  rintro e4 w4 ⟨rfl, hw⟩
  rw [← hw]
  clear hw w4
  obtain ⟨z, hz⟩ : ∃ z, z = crc 0 q := ⟨_, rfl⟩
  have hzl : z < 4294967296 := by rw [hz]; exact crc_lt HPb.out (by omega)
  have HZ := Lib.hid hz
  rw [← hz]
  clear hz
  have hcs : (#[.int .u8 ((z : Int) % 256), .int .u8 ((z : Int) / 256 % 256), .int .u8 ((z : Int) / 65536 % 256), .int .u8 ((z : Int) / 16777216)] : Array Value).toList = bts (Fr.le4 z) := by
    show [Value.int .u8 _, Value.int .u8 _, Value.int .u8 _, Value.int .u8 _] = [Value.int .u8 _, Value.int .u8 _, Value.int .u8 _, Value.int .u8 _]
    congr 1
    congr 1
    congr 1
    congr 1
    congr 1
    omega
  obtain ⟨w4, hw4⟩ : ∃ w4, w4 = w3.alloc (.cells #[.int .u8 ((z : Int) % 256), .int .u8 ((z : Int) / 256 % 256), .int .u8 ((z : Int) / 65536 % 256), .int .u8 ((z : Int) / 16777216)] 5) := ⟨_, rfl⟩
  have HX : Hid (Reads w4 w4.heap.size 1 (some ⟨w3.heap.size, 0, none⟩) 4 (bts (Fr.le4 z))) := Lib.hid (by rw [hw4]; exact reads_top w3 _ _ 4 _ hcs rfl)
  have HO4 : Hid (OwnB w4 w.heap.size (.slice A3 n3 c3) q) := Lib.hid (by rw [hw4]; exact (HO3.out.alloc _).mono HB2.out.size)
  have HB4 : Hid (Below w3.heap.size w3 w4) := Lib.hid (by rw [hw4]; exact (Below.refl _ _).alloc (Nat.le_refl _) _)
  have HW4 := Lib.hid hw4
  clear hw4 hcs
  go_wp2_with (at_builtin; rw [← HW4.out]; refine appB w4 rfl (.tmp 13) (.tmp 25) rfl w.heap.size _ q rfl HO4.out w4.heap.size _ 4 (Fr.le4 z) 4 rfl HX.out (by have := HPl.out; omega) (Nat.le_trans HB3.out.size HB4.out.size) ?_; intro v5 w5 hown5 hb5 _ _; have HO5 := Lib.hid hown5; have HB5 := Lib.hid hb5; clear hown5 hb5)
  go_ret2
  refine ⟨v5, by rw [h0.out]; rfl, by rw [h0.out, ← HZ.out]; exact HO5.out, ?_⟩
  exact (HB3.out.trans (HB4.out.mono HB3.out.size)).trans (HB5.out.mono (Nat.le_refl _))
end Go.Proofs.YtmegpbejknmjbaaDoor.Pk
