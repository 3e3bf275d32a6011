/- The landed Left of package half. -/
import Derived.Test.YtneijohbmphheaaHfLeft
import Derived.Test.YtneijohbmphheaaHfWakes
import Derived.Deep.RegionHeld3
namespace Go.Proofs.Ytneijohbmphheaa.Pk
open Go.RowKit Go.Shelf
set_option linter.unusedVariables false
theorem OwnG.low0 {w : World} {B : Nat} {v : Value} {l : List Mg} (h : OwnG w B v l) : OwnG w 0 v l := h.lower (Nat.zero_le _)
theorem left_fin {w W' : World} {x n c : Nat} {A : Option Addr} {lp lb ls : Int} {lo : List Mg} (hP : LeftAt W' x ⟨lp, lb, lo, ls⟩ A n c) (hb : 0 ≤ lb ∧ lb ≤ 1099511627776) (hl : lo.length ≤ 1024) (hB : Below w.heap.size w W') (hx : w.heap.size ≤ x)
    (ho : ∀ g, (Value.slice A n c).ownBlock = some g → w.heap.size ≤ g) :
    ∃ v R, Ending.returned (.func (.func 29) #[] #[.pointer (some ⟨x, 0, none⟩)]) = .returned v ∧ SeqH v (hnum lb lo) R W' ∧ SeqW v (hnum lb lo) R W' ∧ Below w.heap.size w W' ∧ ∀ g, R g → w.heap.size ≤ g := by
  have hn : n ≤ 1024 := by
    obtain ⟨A2, c2, e, _, _⟩ := hP.2.reads
    injection e with _ e _
    simp only at e
    omega
  refine ⟨_, LeftB x A n c, rfl, left_seq x ⟨lp, lb, lo, ls⟩ A n c hb hn W' hP, left_seqW x ⟨lp, lb, lo, ls⟩ A n c hb hn W' hP, hB, ?_⟩
  rintro g (rfl | e)
  · exact hx
  · exact ho g e
set_option maxRecDepth 100000 in
set_option maxHeartbeats 4000000 in
theorem leftW : LeftW := by
  intro h seen A n c w hin is_ js
  obtain ⟨p, b, o, s⟩ := h
  have HL : Hid (o.length = n) := Lib.hid hin.len
  have HIn := Lib.hid hin
  have hfew := hin.few
  have hnc := hin.cap
  obtain ⟨⟨ip, jp⟩, ⟨ib, jb⟩, ⟨ik, jk⟩, -⟩ := hin.i
  simp only at ip jp ib jb ik jk
  clear hin
  obtain ⟨q, hq⟩ : ∃ q, q = IntKind.i64.wrap (b + (n : Int)) := ⟨_, rfl⟩
  obtain ⟨a, ha⟩ : ∃ a, a = min seen q := ⟨_, rfl⟩
  have hqi : -9223372036854775808 ≤ q ∧ q ≤ 9223372036854775807 := by rw [hq, IntKind.wrap_i64]; omega
  have HLa := Lib.hid (fun w => last_any (p := p) (s := s) A n c w ⟨ib, jb⟩ hfew hnc)
  rw [← hq] at HLa
  have kmin := fun (w : World) => run_minI Try.prog #[3, 3] 3 seen q a ha w
  have HHe := Lib.hid (fun V (hb : Below w.heap.size w V) => heardH ⟨p, b, o, s⟩ a A n c V (HIn.out.next hb) (by omega) (by omega))
  have HEq : Hid (hleft ⟨p, b, o, s⟩ seen = hnum (hheard ⟨p, b, o, s⟩ a).1.b (hheard ⟨p, b, o, s⟩ a).1.o) := Lib.hid (by
    rw [ha]
    refine hleft_heard _ _ _ (fun hbe => ?_)
    obtain ⟨g1, g2, g3, g4, g5, g6, g7, g8⟩ := hbe
    simp only at g3 g6 g7
    rw [HL.out] at g6 g7
    show q = b + (o.length : Int)
    rw [hq, HL.out, IntWalk.i64_in _ (by omega)])
  have HB9 := Lib.hid (heard_b ⟨p, b, o, s⟩ a)
  have HLn := Lib.hid (hheard_len ⟨p, b, o, s⟩ a)
  rw [HEq.out]
  clear HEq
  obtain ⟨L, hL⟩ : ∃ L, L = hheard ⟨p, b, o, s⟩ a := ⟨_, rfl⟩
  simp only [← hL] at HHe HB9 HLn ⊢
  clear hL ha hq
  obtain ⟨⟨lp, lb, lo, ls⟩, le⟩ := L
  unfold Hf.val at HHe ⊢
  simp only at HHe HB9 HLn ⊢
  go_enter Try.func22, Try.ntmps22
  obtain ⟨x1, hx1⟩ : ∃ x, x = w.heap.size := ⟨_, rfl⟩
  obtain ⟨w1, hw1⟩ : ∃ w1, w1 = w.alloc (.cells #[.int .i64 p, .int .i64 b, .slice A n c, .int .i64 s] 24) := ⟨_, rfl⟩
  have HB1 : Hid (Below w.heap.size w w1) := Lib.hid (hw1 ▸ (Below.refl _ _).alloc (Nat.le_refl _) _)
  have HE1 : Hid (Blk w1 x1 24 #[.int .i64 p, .int .i64 b, .slice A n c, .int .i64 s]) := Lib.hid (by rw [hw1, hx1]; exact Blk.new w _ _)
  have HX1 : Hid (x1 = w.heap.size) := Lib.hid hx1
  go_wp2_with fail
  rw [← hw1, ← hx1]
  clear hw1 hx1
  have z0 : w1.cell? ⟨x1, 0, none⟩ = some (.int .i64 p) := HE1.out.cell 0
  have z1 : w1.cell? ⟨x1, 1, none⟩ = some (.int .i64 b) := HE1.out.cell 1
  have z2 : w1.cell? ⟨x1, 2, none⟩ = some (.slice A n c) := HE1.out.cell 2
  have z3 : w1.cell? ⟨x1, 3, none⟩ = some (.int .i64 s) := HE1.out.cell 3
  have HC : Hid (∀ V, Below w1.heap.size w1 V → V.cell? ⟨x1, 0, none⟩ = some (.int .i64 p) ∧ V.cell? ⟨x1, 1, none⟩ = some (.int .i64 b) ∧ V.cell? ⟨x1, 2, none⟩ = some (.slice A n c) ∧ V.cell? ⟨x1, 3, none⟩ = some (.int .i64 s)) := Lib.hid (fun V hb => by
    have k := HE1.out.below hb HE1.out.lt
    exact ⟨k.cell 0, k.cell 1, k.cell 2, k.cell 3⟩)
  have bd : ∀ k, Below w1.heap.size w1 (w1.drewN k) := fun k => below_drewN_ (Below.refl _ _) k
  have bstore : ∀ {V : World} {xb : Nat} {u0 u1 u2 u3 : Value}, Below w1.heap.size w1 V → w1.heap.size ≤ xb → Below w1.heap.size w1 ((((V.setCell ⟨xb, 0, none⟩ u0).setCell ⟨xb, 1, none⟩ u1).setCell ⟨xb, 2, none⟩ u2).setCell ⟨xb, 3, none⟩ u3) :=
    fun h hx => below_setG (below_setG (below_setG (below_setG h hx 0 _) hx 1 _) hx 2 _) hx 3 _
  go_region_held3 (fun w' => w'.cell? ⟨x1, 0, none⟩ = some (.int .i64 p) ∧ w'.cell? ⟨x1, 1, none⟩ = some (.int .i64 b) ∧ w'.cell? ⟨x1, 2, none⟩ = some (.slice A n c) ∧ w'.cell? ⟨x1, 3, none⟩ = some (.int .i64 s))
    (first | exact ⟨z0, z1, z2, z3⟩ | exact Z1 | exact Z2 | exact HC.out _ ((bd _).alloc (by simp) _) | exact HC.out _ (HBL.out.alloc HBL.out.size _) | exact HC.out _ (HBLH.out.alloc HBLH.out.size _) | exact HC.out _ (bstore HBLH.out (Nat.le_refl _)) | exact HC.out _ (bstore HBLH.out HBL.out.size) | exact HC.out _ (bstore (HBLH.out.alloc HBLH.out.size _) HBLH.out.size) | go_keep) (first
    | (go_at_call 28; go_must (refine (HLa.out _).mono ?_); rintro e wL ⟨rfl, hbL⟩; have HBL : Hid (Below w1.heap.size w1 wL) := Lib.hid (by first | exact (bd _).trans (hbL.mono (by simp)) | exact ((bd _).alloc (by simp) _).trans (hbL.mono (by simp))); have Z1 := HC.out wL HBL.out; first | (have KA : Hid (Blk wL w1.heap.size 24 #[.int .i64 0, .int .i64 0, .slice none 0 0, .int .i64 0]) := Lib.hid ((Blk.new (w1.drewN 1) _ _).below hbL (by simp))) | skip)
    | (go_at_call 16; go_must (refine (HHe.out _ (by first | exact HB1.out.trans (HBL.out.mono HB1.out.size) | exact HB1.out.trans ((HBL.out.alloc HBL.out.size _).mono HB1.out.size))).mono ?_); rintro e wH ⟨vH, rfl, hoH, hbH⟩; obtain ⟨A5, n5, c5, rfl⟩ := ownG_slice hoH; have HOH := Lib.hid hoH; have HBH : Hid (Below wL.heap.size wL wH) := Lib.hid (by first | exact hbH | exact ((Below.refl _ _).alloc (Nat.le_refl _) _).trans (hbH.mono (by simp))); have HBLH : Hid (Below w1.heap.size w1 wH) := Lib.hid (HBL.out.trans (HBH.out.mono HBL.out.size)); have Z2 := HC.out wH HBLH.out; first | (have K5 := KA.out.below HBH.out KA.out.lt; have HKA := Lib.hid K5; have k0 : wH.cell? ⟨w1.heap.size, 0, none⟩ = some (.int .i64 0) := K5.cell 0; have g0 : wH.frozen? ⟨w1.heap.size, 0, none⟩ = false := K5.frozen 0; have k1 : wH.cell? ⟨w1.heap.size, 1, none⟩ = some (.int .i64 0) := K5.cell 1; have g1 : wH.frozen? ⟨w1.heap.size, 1, none⟩ = false := K5.frozen 1; have k2 : wH.cell? ⟨w1.heap.size, 2, none⟩ = some (.slice none 0 0) := K5.cell 2; have g2 : wH.frozen? ⟨w1.heap.size, 2, none⟩ = false := K5.frozen 2; have k3 : wH.cell? ⟨w1.heap.size, 3, none⟩ = some (.int .i64 0) := K5.cell 3; have g3 : wH.frozen? ⟨w1.heap.size, 3, none⟩ = false := K5.frozen 3; clear K5) | (have K5 : Blk wH wL.heap.size 24 #[.int .i64 0, .int .i64 0, .slice none 0 0, .int .i64 0] := (Blk.new wL _ _).below hbH (by simp); have HKB := Lib.hid K5; have k0 : wH.cell? ⟨wL.heap.size, 0, none⟩ = some (.int .i64 0) := K5.cell 0; have g0 : wH.frozen? ⟨wL.heap.size, 0, none⟩ = false := K5.frozen 0; have k1 : wH.cell? ⟨wL.heap.size, 1, none⟩ = some (.int .i64 0) := K5.cell 1; have g1 : wH.frozen? ⟨wL.heap.size, 1, none⟩ = false := K5.frozen 1; have k2 : wH.cell? ⟨wL.heap.size, 2, none⟩ = some (.slice none 0 0) := K5.cell 2; have g2 : wH.frozen? ⟨wL.heap.size, 2, none⟩ = false := K5.frozen 2; have k3 : wH.cell? ⟨wL.heap.size, 3, none⟩ = some (.int .i64 0) := K5.cell 3; have g3 : wH.frozen? ⟨wL.heap.size, 3, none⟩ = false := K5.frozen 3; clear K5) | skip))
  all_goals have HW1 : Hid (w.heap.size ≤ w1.heap.size) := Lib.hid HB1.out.size
  all_goals have HBw : Hid (Below w.heap.size w wH) := Lib.hid (HB1.out.trans (HBLH.out.mono HB1.out.size))
  all_goals have HLt : Hid (∀ g, (Value.slice A5 n5 c5).ownBlock = some g → wL.heap.size ≤ g) := Lib.hid (fun g e => by have := ownG_base HOH.out g e; first | exact this | exact Nat.le_trans (by simp) this)
  all_goals first
    | (obtain ⟨w7, hw7, k7, hb7, ho7⟩ := edge_set HKA.out (.int .i64 lp) (.int .i64 lb) (.slice A5 n5 c5) (.int .i64 ls)
       have HP7 : Hid (LeftAt w7 w1.heap.size ⟨lp, lb, lo, ls⟩ A5 n5 c5) := Lib.hid ⟨k7, (ho7 _ _ _ HOH.out (fun e => by have h1 := HLt.out _ e; have h2 := KA.out.lt; omega)).low0⟩
       have HB7 := Lib.hid (hb7 w.heap.size w HW1.out HBw.out)
       have HX7 : Hid (w.heap.size ≤ w1.heap.size) := HW1
       have HW7 := Lib.hid hw7
       clear k0 k1 k2 k3 g0 g1 g2 g3 hw7 k7 hb7 ho7
       go_wp2
       go_ret
       rw [← HW7.out]
       exact left_fin HP7.out HB9.out HLn.out HB7.out HX7.out (fun g e => by have h1 := HLt.out _ e; have h2 := HBL.out.size; have h3 := HW1.out; omega))
    | (obtain ⟨w7, hw7, k7, hb7, ho7⟩ := edge_set HKB.out (.int .i64 lp) (.int .i64 lb) (.slice A5 n5 c5) (.int .i64 ls)
       have HP7 : Hid (LeftAt w7 wL.heap.size ⟨lp, lb, lo, ls⟩ A5 n5 c5) := Lib.hid ⟨k7, (ho7 _ _ _ HOH.out (fun e => by have h1 := ownG_base HOH.out _ e; simp at h1; omega)).low0⟩
       have HX7 : Hid (w.heap.size ≤ wL.heap.size) := Lib.hid (Nat.le_trans HW1.out HBL.out.size)
       have HB7 := Lib.hid (hb7 w.heap.size w HX7.out HBw.out)
       have HW7 := Lib.hid hw7
       clear k0 k1 k2 k3 g0 g1 g2 g3 hw7 k7 hb7 ho7
       go_wp2
       go_ret
       rw [← HW7.out]
       exact left_fin HP7.out HB9.out HLn.out HB7.out HX7.out (fun g e => by have h1 := HLt.out _ e; have h2 := HBL.out.size; have h3 := HW1.out; omega))
    | (have HP7 : Hid (LeftAt (wH.alloc (.cells #[.int .i64 lp, .int .i64 lb, .slice A5 n5 c5, .int .i64 ls] 24)) wH.heap.size ⟨lp, lb, lo, ls⟩ A5 n5 c5) := Lib.hid ⟨Blk.new wH _ _, (HOH.out.alloc _).low0⟩
       have HX7 : Hid (w.heap.size ≤ wH.heap.size) := Lib.hid HBw.out.size
       have HB7 : Hid (Below w.heap.size w (wH.alloc (.cells #[.int .i64 lp, .int .i64 lb, .slice A5 n5 c5, .int .i64 ls] 24))) := Lib.hid (HBw.out.alloc HBw.out.size _)
       go_wp2
       go_ret
       exact left_fin HP7.out HB9.out HLn.out HB7.out HX7.out (fun g e => by have h1 := HLt.out _ e; have h2 := HBL.out.size; have h3 := HW1.out; omega))
theorem leftH : LeftH := by
  intro h seen A n c w hin h1 h2
  refine (leftW h seen A n c w hin h1 h2).mono ?_
  rintro e w' ⟨v, R, h3, h4, _, h5, h6⟩
  exact ⟨v, R, h3, h4, h5, h6⟩
end Go.Proofs.Ytneijohbmphheaa.Pk
