/- What the laws of package half try first. -/
import Derived.Test.YtneijohbmphheaaSameHf
import Derived.BigRegion
import Derived.Deep.RegionHeld3
import Derived.Deep.DeepMust
namespace Go.Proofs.Ytneijohbmphheaa.Pk
open Go.RowKit
set_option linter.unusedVariables false
theorem OutH.inH {w : World} {B : Nat} {h : Hf} {v : Value} (ho : OutH w B h v) (hi : h.I) (hl : h.o.length ≤ 3518437208883) : ∃ A n c, v = .slice A n c ∧ InH w h A n c := by
  obtain ⟨A, c, rfl, hc, hr⟩ := OwnG.reads ho
  exact ⟨A, _, c, rfl, hr, hc, hl, hi⟩
/-- What is answered is no longer than a side can be, or than what came in. -/
theorem hpush_len (h : Hf) (m : Mg) : (hpush h m).1.o.length ≤ 1024 := by
  unfold hpush
  split
  · rename_i hb
    split
    · rename_i hm
      split
      · simp [Hf.zero]
      · rename_i hf
        exact (hb.add hm hf).2.2.2.2.2.1
    · simp [Hf.zero]
  · simp [Hf.zero]
theorem hheard_len (h : Hf) (a : Int) : (hheard h a).1.o.length ≤ 1024 := by
  unfold hheard
  split
  · rename_i hb
    split
    · rename_i hn
      exact (hb.cut hn).2.2.2.2.2.1
    · exact hb.2.2.2.2.2.1
  · simp [Hf.zero]
theorem htake_len (h : Hf) : (htake h).1.o.length ≤ 1024 := by
  unfold htake
  split
  · rename_i hb
    split
    · simp [Hf.zero]
    · exact hb.2.2.2.2.2.1
  · simp [Hf.zero]
theorem keep12 {w w' : World} {xe xa xb : Nat} {t t' t'' : TypeId} {a0 a1 a2 a3 b0 b1 b2 b3 c0 c1 c2 c3 : Value} (h : Below w.heap.size w w') (he : Blk w xe t #[a0, a1, a2, a3]) (ha : Blk w xa t' #[b0, b1, b2, b3]) (hb : Blk w xb t'' #[c0, c1, c2, c3]) :
    w'.cell? ⟨xe, 0, none⟩ = some a0 ∧ w'.cell? ⟨xe, 1, none⟩ = some a1 ∧ w'.cell? ⟨xe, 2, none⟩ = some a2 ∧ w'.cell? ⟨xe, 3, none⟩ = some a3 ∧
      w'.cell? ⟨xa, 0, none⟩ = some b0 ∧ w'.cell? ⟨xa, 1, none⟩ = some b1 ∧ w'.cell? ⟨xa, 2, none⟩ = some b2 ∧ w'.cell? ⟨xa, 3, none⟩ = some b3 ∧
      w'.cell? ⟨xb, 0, none⟩ = some c0 ∧ w'.cell? ⟨xb, 1, none⟩ = some c1 ∧ w'.cell? ⟨xb, 2, none⟩ = some c2 ∧ w'.cell? ⟨xb, 3, none⟩ = some c3 := by
  have ke := he.below h he.lt
  have ka := ha.below h ha.lt
  have kb := hb.below h hb.lt
  exact ⟨ke.cell 0, ke.cell 1, ke.cell 2, ke.cell 3, ka.cell 0, ka.cell 1, ka.cell 2, ka.cell 3, kb.cell 0, kb.cell 1, kb.cell 2, kb.cell 3⟩
theorem ownG_reads {w : World} {B : Nat} {A : Option Addr} {n c : Nat} {l : List Mg} (h : OwnG w B (.slice A n c) l) : Reads w w.heap.size 5 A n (mgs l) := by
  obtain ⟨A', c', e, _, hr⟩ := OwnG.reads h
  injection e with e1 e2 e3
  rw [e1, e2]; exact hr
theorem Hf.zero_I : Hf.zero.I := ⟨by decide, by decide, by decide, fun m hm => by cases hm⟩
theorem push_I (h : Hf) (m : Mg) : (hpush h m).1.I := by
  unfold hpush
  split
  · rename_i hb
    split
    · rename_i hm
      split
      · exact Hf.zero_I
      · rename_i hf
        exact (hb.add hm hf).i
    · exact Hf.zero_I
  · exact Hf.zero_I
theorem heard_I (h : Hf) (a : Int) : (hheard h a).1.I := by
  unfold hheard
  split
  · rename_i hb
    split
    · rename_i hn
      exact (hb.cut hn).i
    · exact hb.i
  · exact Hf.zero_I
theorem push_fits {h : Hf} (hb : h.Be) {m : Mg} (hs : h.s < 1099511627776) : (hpush h m).2 = 0 → hfits (hpush h m).1 (h.s + 1) = true := by
  unfold hpush
  rw [if_pos hb]
  split
  · rename_i hm
    split
    · intro h; exact absurd h (by decide)
    · rename_i hf
      intro _
      exact decide_eq_true ⟨hb.add hm hf, hs, rfl⟩
  · intro h; exact absurd h (by decide)
theorem heard_fits {h : Hf} (hb : h.Be) {a : Int} (hs : h.s < 1099511627776) : (hheard h a).2 = 0 ∧ hfits (hheard h a).1 (h.s + 1) = true := by
  unfold hheard
  rw [if_pos hb]
  split
  · rename_i hn
    exact ⟨rfl, decide_eq_true ⟨hb.cut hn, hs, rfl⟩⟩
  · exact ⟨rfl, decide_eq_true ⟨hb, hs, rfl⟩⟩
theorem OutH.in_ {w : World} {B : Nat} {h : Hf} {A : Option Addr} {n c : Nat} (ho : OwnG w B (.slice A n c) h.o) (hi : h.I) (hl : h.o.length ≤ 3518437208883) : InH w h A n c := by
  obtain ⟨A', n', c', e, hin⟩ := OutH.inH (show OutH w B h (.slice A n c) from ho) hi hl
  injection e with e1 e2 e3
  subst e1; subst e2; subst e3
  exact hin
def mW : Mg := ⟨1, 0, 0, 1, 0⟩
def hW0 : Hf := ⟨1, 0, [], 0⟩
def hW1 : Hf := ⟨1, 0, [mW], 0⟩
def hW2 : Hf := ⟨1, 1, [], 0⟩
theorem mW_I : mW.I := ⟨by decide, by decide, by decide, by decide, by decide⟩
theorem hW1_I : hW1.I := ⟨by decide, by decide, by decide, fun m hm => by simp [hW1] at hm; rw [hm]; exact mW_I⟩
theorem below_setW {B : Nat} {w V : World} (h : Below B w V) {x : Nat} (hx : B ≤ x) (o : Nat) (u : Value) : Below B w (V.setCell ⟨x, o, none⟩ u) := h.setCell (p := ⟨x, o, none⟩) hx u
/-- A side laid into its box. -/
theorem edge_setW {V : World} {x : Nat} {t : TypeId} {a0 a1 a2 a3 : Value} (h : Blk V x t #[a0, a1, a2, a3]) (u0 u1 u2 u3 : Value) : ∃ V5, V5 = ((((V.setCell ⟨x, 0, none⟩ u0).setCell ⟨x, 1, none⟩ u1).setCell ⟨x, 2, none⟩ u2).setCell ⟨x, 3, none⟩ u3) ∧
    Blk V5 x t #[u0, u1, u2, u3] ∧ (∀ B w, B ≤ x → Below B w V → Below B w V5) ∧ (∀ B v l, OwnG V B v l → v.ownBlock ≠ some x → OwnG V5 B v l) := by
  have h0 : Blk (V.setCell ⟨x, 0, none⟩ u0) x t #[u0, a1, a2, a3] := by have := h.set_ 0 u0; simpa using this
  have h1 : Blk ((V.setCell ⟨x, 0, none⟩ u0).setCell ⟨x, 1, none⟩ u1) x t #[u0, u1, a2, a3] := by have := h0.set_ 1 u1; simpa using this
  have h2 : Blk (((V.setCell ⟨x, 0, none⟩ u0).setCell ⟨x, 1, none⟩ u1).setCell ⟨x, 2, none⟩ u2) x t #[u0, u1, u2, a3] := by have := h1.set_ 2 u2; simpa using this
  have h3 : Blk ((((V.setCell ⟨x, 0, none⟩ u0).setCell ⟨x, 1, none⟩ u1).setCell ⟨x, 2, none⟩ u2).setCell ⟨x, 3, none⟩ u3) x t #[u0, u1, u2, u3] := by have := h2.set_ 3 u3; simpa using this
  refine ⟨_, rfl, h3, fun B w hx hb => below_setW (below_setW (below_setW (below_setW hb hx 0 u0) hx 1 u1) hx 2 u2) hx 3 u3, fun B v l ho hv => ho.stay (fun g e => ?_)⟩
  have hg : ∀ (U : World) (i : Nat) (u : Value), (U.setCell ⟨x, i, none⟩ u).heap[g]? = U.heap[g]? := fun U i u => Below.heap_setCell U ⟨x, i, none⟩ u g (fun e2 => hv (by simp at e2; rw [e, e2]))
  rw [hg, hg, hg, hg]
theorem edge_keep {w w' : World} {g off xe xm : Nat} {e0 e1 e2 e3 m0 m1 m2 m3 m4 d0 d1 d2 d3 d4 : Value} (h : Below w.heap.size w w') (hg : g < w.heap.size) (he : xe < w.heap.size) (hm : xm < w.heap.size)
    (f0 : w.cell? ⟨xe, 0, none⟩ = some e0) (f1 : w.cell? ⟨xe, 1, none⟩ = some e1) (f2 : w.cell? ⟨xe, 2, none⟩ = some e2) (f3 : w.cell? ⟨xe, 3, none⟩ = some e3)
    (n0 : w.cell? ⟨xm, 0, none⟩ = some m0) (n1 : w.cell? ⟨xm, 1, none⟩ = some m1) (n2 : w.cell? ⟨xm, 2, none⟩ = some m2) (n3 : w.cell? ⟨xm, 3, none⟩ = some m3) (n4 : w.cell? ⟨xm, 4, none⟩ = some m4)
    (c0 : w.cell? ⟨g, off, none⟩ = some d0) (c1 : w.cell? ⟨g, off + 1, none⟩ = some d1) (c2 : w.cell? ⟨g, off + 2, none⟩ = some d2) (c3 : w.cell? ⟨g, off + 3, none⟩ = some d3) (c4 : w.cell? ⟨g, off + 4, none⟩ = some d4) :
    w'.cell? ⟨xe, 0, none⟩ = some e0 ∧ w'.cell? ⟨xe, 1, none⟩ = some e1 ∧ w'.cell? ⟨xe, 2, none⟩ = some e2 ∧ w'.cell? ⟨xe, 3, none⟩ = some e3 ∧
      w'.cell? ⟨xm, 0, none⟩ = some m0 ∧ w'.cell? ⟨xm, 1, none⟩ = some m1 ∧ w'.cell? ⟨xm, 2, none⟩ = some m2 ∧ w'.cell? ⟨xm, 3, none⟩ = some m3 ∧ w'.cell? ⟨xm, 4, none⟩ = some m4 ∧
      w'.cell? ⟨g, off, none⟩ = some d0 ∧ w'.cell? ⟨g, off + 1, none⟩ = some d1 ∧ w'.cell? ⟨g, off + 2, none⟩ = some d2 ∧ w'.cell? ⟨g, off + 3, none⟩ = some d3 ∧ w'.cell? ⟨g, off + 4, none⟩ = some d4 := by
  have k : ∀ b i, b < w.heap.size → w'.cell? ⟨b, i, none⟩ = w.cell? ⟨b, i, none⟩ := fun b i hb => h.cell (p := ⟨b, i, none⟩) hb
  exact ⟨(k _ _ he).trans f0, (k _ _ he).trans f1, (k _ _ he).trans f2, (k _ _ he).trans f3, (k _ _ hm).trans n0, (k _ _ hm).trans n1, (k _ _ hm).trans n2, (k _ _ hm).trans n3, (k _ _ hm).trans n4, (k _ _ hg).trans c0, (k _ _ hg).trans c1, (k _ _ hg).trans c2, (k _ _ hg).trans c3, (k _ _ hg).trans c4⟩
set_option maxRecDepth 100000 in
set_option maxHeartbeats 4000000 in
theorem wakes_any (HP : PushH) (HF : FitsH) (HH : HeardH) (w : World) : Calls Try.prog 10 #[] w fun e w' => e = .returned (.bool true) ∧ Below w.heap.size w w' := by
  have HP := Lib.hid HP
  have HF := Lib.hid HF
  have HH := Lib.hid HH
  go_enter Try.func10, Try.ntmps10
  obtain ⟨xm, hxm⟩ : ∃ x, x = w.heap.size := ⟨_, rfl⟩
  obtain ⟨w0, hw0⟩ : ∃ w0, w0 = w.alloc (.cells #[.int .i64 1, .int .i64 0, .int .i64 0, .int .i64 1, .int .i64 0] 26) := ⟨_, rfl⟩
  have HM0 : Hid (Blk w0 xm 26 #[.int .i64 1, .int .i64 0, .int .i64 0, .int .i64 1, .int .i64 0]) := Lib.hid (by rw [hw0, hxm]; exact Blk.new w _ _)
  have HB0 : Hid (Below w.heap.size w w0) := Lib.hid (by rw [hw0]; exact (Below.refl _ _).alloc (Nat.le_refl _) _)
  go_wp2_with fail
  rw [← hw0, ← hxm]
  have HX := Lib.hid hxm
  clear hw0 hxm
  refine (HP.out hW0 mW none 0 0 w0 ⟨Reads.none_, Nat.le_refl _, by omega, ⟨by decide, by decide, by decide, fun m hm => by cases hm⟩⟩ mW_I).mono ?_
  rintro e w1 ⟨v, rfl, ho, hb⟩
  rw [show hpush hW0 mW = (hW1, 0) by decide] at ho ⊢
  obtain ⟨A, n, c, rfl, hin⟩ := ho.inH hW1_I (by decide)
  obtain rfl : 1 = n := hin.len
  have HI := Lib.hid hin
  have HB1 := Lib.hid (HB0.out.trans (hb.mono HB0.out.size))
  have HM1 := Lib.hid (HM0.out.below hb HM0.out.lt)
  obtain ⟨g, off, rfl, hgb, hc⟩ := hin.rd.mgs_ (by omega)
  obtain ⟨d0, d1, d2, d3, d4⟩ := hc 0 mW rfl
  simp only [mW, Nat.zero_mul, Nat.add_zero] at d0 d1 d2 d3 d4
  have HO := Lib.hid ho
  clear ho hin hb hc
  show _
  simp only [Hf.val, hW1]
  obtain ⟨xe, hxe⟩ : ∃ x, x = w1.heap.size := ⟨_, rfl⟩
  obtain ⟨w2, hw2⟩ : ∃ w2, w2 = w1.alloc (.cells #[.int .i64 1, .int .i64 0, .slice (some ⟨g, off, none⟩) 1 c, .int .i64 0] 24) := ⟨_, rfl⟩
  have hb2 : Below w1.heap.size w1 w2 := hw2 ▸ (Below.refl _ _).alloc (Nat.le_refl _) _
  have HE2 : Hid (Blk w2 xe 24 #[.int .i64 1, .int .i64 0, .slice (some ⟨g, off, none⟩) 1 c, .int .i64 0]) := Lib.hid (by rw [hw2, hxe]; exact Blk.new w1 _ _)
  have HM2 := Lib.hid (HM1.out.below hb2 HM1.out.lt)
  have HB2 := Lib.hid (HB1.out.trans (hb2.mono HB1.out.size))
  have HI2 := Lib.hid (HI.out.next hb2)
  have HFt := Lib.hid (fun z => HF.out hW1 1 (some ⟨g, off, none⟩) 1 c (w2.drewN z) (HI2.out.next (below_drewN_ (Below.refl _ _) z)) (by omega) (by omega))
  rw [show hfits hW1 1 = true by decide] at HFt
  have d0 : w2.cell? ⟨g, off, none⟩ = some (.int .i64 1) := (hb2.cell (p := ⟨g, off, none⟩) hgb).trans d0
  have d1 : w2.cell? ⟨g, off + 1, none⟩ = some (.int .i64 0) := (hb2.cell (p := ⟨g, off + 1, none⟩) hgb).trans d1
  have d2 : w2.cell? ⟨g, off + 2, none⟩ = some (.int .i64 0) := (hb2.cell (p := ⟨g, off + 2, none⟩) hgb).trans d2
  have d3 : w2.cell? ⟨g, off + 3, none⟩ = some (.int .i64 1) := (hb2.cell (p := ⟨g, off + 3, none⟩) hgb).trans d3
  have d4 : w2.cell? ⟨g, off + 4, none⟩ = some (.int .i64 0) := (hb2.cell (p := ⟨g, off + 4, none⟩) hgb).trans d4
  have hg2 : g < w2.heap.size := Nat.lt_of_lt_of_le hgb hb2.size
  have e2 := HE2.out
  have m2 := HM2.out
  have f0 : w2.cell? ⟨xe, 0, none⟩ = some (.int .i64 1) := e2.cell 0
  have f1 : w2.cell? ⟨xe, 1, none⟩ = some (.int .i64 0) := e2.cell 1
  have f2 : w2.cell? ⟨xe, 2, none⟩ = some (.slice (some ⟨g, off, none⟩) 1 c) := e2.cell 2
  have f3 : w2.cell? ⟨xe, 3, none⟩ = some (.int .i64 0) := e2.cell 3
  have m0 : w2.cell? ⟨xm, 0, none⟩ = some (.int .i64 1) := m2.cell 0
  have m1 : w2.cell? ⟨xm, 1, none⟩ = some (.int .i64 0) := m2.cell 1
  have m3 : w2.cell? ⟨xm, 2, none⟩ = some (.int .i64 0) := m2.cell 2
  have m4 : w2.cell? ⟨xm, 3, none⟩ = some (.int .i64 1) := m2.cell 3
  have m5 : w2.cell? ⟨xm, 4, none⟩ = some (.int .i64 0) := m2.cell 4
  have ke : ∀ W : World, (Op.equalIn 10000 26 (.agg #[.int .i64 1, .int .i64 0, .int .i64 0, .int .i64 1, .int .i64 0]) (.agg #[.int .i64 1, .int .i64 0, .int .i64 0, .int .i64 1, .int .i64 0])).run Try.prog W = .ok true W := fun W => by rw [eq_msg]; rfl
  clear e2 m2 hb2
  go_wp2
  rw [← hw2, ← hxe]
  have HXe : Hid (w.heap.size ≤ xe) := Lib.hid (by rw [hxe]; exact HB1.out.size)
  clear hw2 hxe
  refine wp_region_noPanic ?_
  go_region_held3 (fun w' => w'.cell? ⟨xe, 0, none⟩ = some (.int .i64 1) ∧ w'.cell? ⟨xe, 1, none⟩ = some (.int .i64 0) ∧ w'.cell? ⟨xe, 2, none⟩ = some (.slice (some ⟨g, off, none⟩) 1 c) ∧ w'.cell? ⟨xe, 3, none⟩ = some (.int .i64 0) ∧
      w'.cell? ⟨xm, 0, none⟩ = some (.int .i64 1) ∧ w'.cell? ⟨xm, 1, none⟩ = some (.int .i64 0) ∧ w'.cell? ⟨xm, 2, none⟩ = some (.int .i64 0) ∧ w'.cell? ⟨xm, 3, none⟩ = some (.int .i64 1) ∧ w'.cell? ⟨xm, 4, none⟩ = some (.int .i64 0) ∧
      w'.cell? ⟨g, off, none⟩ = some (.int .i64 1) ∧ w'.cell? ⟨g, off + 1, none⟩ = some (.int .i64 0) ∧ w'.cell? ⟨g, off + 2, none⟩ = some (.int .i64 0) ∧ w'.cell? ⟨g, off + 3, none⟩ = some (.int .i64 1) ∧ w'.cell? ⟨g, off + 4, none⟩ = some (.int .i64 0))
    (first | exact ⟨f0, f1, f2, f3, m0, m1, m3, m4, m5, d0, d1, d2, d3, d4⟩ | exact Z1 | go_keep) (first
    | (go_at_call 20; go_must (refine (HFt.out 1).mono ?_; rintro e w3 ⟨rfl, hb3⟩; have HB3 : Hid (Below w2.heap.size w2 w3) := Lib.hid ⟨hb3.os, hb3.tape, hb3.output, hb3.size, hb3.block⟩; have Z1 := edge_keep HB3.out hg2 HE2.out.lt HM2.out.lt f0 f1 f2 f3 m0 m1 m3 m4 m5 d0 d1 d2 d3 d4; clear hb3)))
  all_goals refine NoPanic.normal ?_
  all_goals
    have HE3 := Lib.hid (HE2.out.below HB3.out HE2.out.lt)
    have HI3 := Lib.hid (HI2.out.next HB3.out)
    have HB3w := Lib.hid (HB2.out.trans (HB3.out.mono HB2.out.size))
    have e3 := HE3.out
    clear f0 f1 f2 f3 m0 m1 m3 m4 m5 d0 d1 d2 d3 d4 Z1 HM2 HE2 HFt ke
    have f0 : w3.cell? ⟨xe, 0, none⟩ = some (.int .i64 1) := e3.cell 0
    have f1 : w3.cell? ⟨xe, 1, none⟩ = some (.int .i64 0) := e3.cell 1
    have f2 : w3.cell? ⟨xe, 2, none⟩ = some (.slice (some ⟨g, off, none⟩) 1 c) := e3.cell 2
    have f3 : w3.cell? ⟨xe, 3, none⟩ = some (.int .i64 0) := e3.cell 3
    have HHd := Lib.hid (HH.out hW1 1 (some ⟨g, off, none⟩) 1 c w3 HI3.out (by omega) (by omega))
    rw [show hheard hW1 1 = (hW2, 0) by decide] at HHd
    clear e3
    go_wp2_with fail
    refine HHd.out.mono ?_
    rintro e w4 ⟨v4, rfl, ho4, hb4⟩
    obtain ⟨A4, n4, c4, rfl, hin4⟩ := ho4.inH (h := hW2) ⟨by decide, by decide, by decide, fun m hm => by cases hm⟩ (by decide)
    obtain rfl : 0 = n4 := hin4.len
    have e4 := HE3.out.below hb4 HE3.out.lt
    have x0 : w4.cell? ⟨xe, 0, none⟩ = some (.int .i64 1) := e4.cell 0
    have x1 : w4.cell? ⟨xe, 1, none⟩ = some (.int .i64 0) := e4.cell 1
    have x2 : w4.cell? ⟨xe, 2, none⟩ = some (.slice (some ⟨g, off, none⟩) 1 c) := e4.cell 2
    have x3 : w4.cell? ⟨xe, 3, none⟩ = some (.int .i64 0) := e4.cell 3
    have y0 : w4.frozen? ⟨xe, 0, none⟩ = false := e4.frozen 0
    have y1 : w4.frozen? ⟨xe, 1, none⟩ = false := e4.frozen 1
    have y2 : w4.frozen? ⟨xe, 2, none⟩ = false := e4.frozen 2
    have y3 : w4.frozen? ⟨xe, 3, none⟩ = false := e4.frozen 3
    obtain ⟨w5, hw5, k5, hb5, _⟩ := edge_setW e4 (.int .i64 1) (.int .i64 1) (.slice A4 0 c4) (.int .i64 0)
    have HB5 := Lib.hid (hb5 w.heap.size w (by have := HXe.out; omega) (HB3w.out.trans (hb4.mono HB3w.out.size)))
    have z0 : w5.cell? ⟨xe, 0, none⟩ = some (.int .i64 1) := k5.cell 0
    have z1 : w5.cell? ⟨xe, 1, none⟩ = some (.int .i64 1) := k5.cell 1
    have z2 : w5.cell? ⟨xe, 2, none⟩ = some (.slice A4 0 c4) := k5.cell 2
    have z3 : w5.cell? ⟨xe, 3, none⟩ = some (.int .i64 0) := k5.cell 3
    have HW5 := Lib.hid hw5
    clear ho4 hin4 hb4 e4 f0 f1 f2 f3 k5 hb5 hw5
    simp only [Hf.val, hW2]
    go_wp2_with fail
    go_ret
    exact ⟨rfl, by rw [← HW5.out]; exact HB5.out⟩
end Go.Proofs.Ytneijohbmphheaa.Pk
