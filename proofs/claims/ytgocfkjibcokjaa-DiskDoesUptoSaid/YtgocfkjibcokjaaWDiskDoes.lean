/- The walk of the law DiskDoes. -/
import Derived.Test.YtgocfkjibcokjaaDkRef6
import Derived.Test.YtgocfkjibcokjaaDkWakes
namespace Go.Proofs.Ytgocfkjibcokjaa.Pk
open Go.RowKit Go.Proofs.Ytgocfkjibcokjaa.Dk Go.Proofs.Ytgocfkjibcokjaa.Ar
set_option linter.unusedVariables false

/-- The program's disk and the document's, with no block in common. -/
def Pair (w0 : World) (R : Nat) (d : DK) (S : Nat → Prop) (R' : Nat) (o : DK) (S' : Nat → Prop) (w : World) : Prop := AtD w0 R d S w ∧ DkR w R' o S' ∧ (∀ b, S' b → w0.heap.size ≤ b) ∧ ∀ b, S b → ¬ S' b
section
variable {w0 w w' : World} {R R' : Nat} {d d' o o' : DK} {S S' T : Nat → Prop}
theorem Pair.next (h : Pair w0 R d S R' o S' w) (hb : Below w.heap.size w w') : Pair w0 R d S R' o S' w' := ⟨h.1.next hb, h.2.1.next hb, h.2.2⟩
theorem Pair.alloc (h : Pair w0 R d S R' o S' w) (x : Obj) : Pair w0 R d S R' o S' (w.alloc x) := h.next ((Below.refl _ _).alloc (Nat.le_refl _) _)
theorem Pair.drewN (h : Pair w0 R d S R' o S' w) (n : Nat) : Pair w0 R d S R' o S' (w.drewN n) := ⟨h.1.drewN n, h.2.1.drewN n, h.2.2⟩
theorem Pair.one (h : Pair w0 R d S R' o S' w) (h2 : DkP w' R d' T) (t : Turned S w w') (g : From S T w) : Pair w0 R d' T R' o S' w' :=
  ⟨h.1.step h2 t g, h.2.1.stay (Stay.turned t fun b hb => ⟨h.2.1.lt b hb, fun hs => h.2.2.2 b hs hb⟩), h.2.2.1, from_apart g h.2.2.2 h.2.1.lt⟩
theorem Pair.other (h : Pair w0 R d S R' o S' w) (h2 : DkR w' R' o' T) (t : Turned S' w w') (g : From S' T w) : Pair w0 R d S R' o' T w' :=
  ⟨⟨h.1.1.stay (Stay.turned t fun b hb => ⟨h.1.1.lt b hb, fun hs => h.2.2.2 b hb hs⟩), h.1.2.1, t.below h.1.2.2 h.1.2.2.size h.2.2.1⟩, h2, from_base g h.2.2.1 h.1.2.2.size, fun b hb ht => from_apart g (fun b h1 h2 => h.2.2.2 b h2 h1) h.1.1.lt b ht hb⟩
end
/-- Behind i calls. -/
def DoesAt (w : World) (R R' i : Nat) (wr : World) : Prop := ∃ d S S', Pair w R d S R' d S' wr ∧ d.fit ((i + 1) * 1048576) i

set_option maxRecDepth 100000 in
set_option maxHeartbeats 16000000 in
theorem law_DiskDoes (a : Option Addr) (n c : Nat) (l : List Int) (a' : Option Addr) (n' c' : Nat) (l' : List Int) (b : Option Addr) (m q : Nat) (os : List OpV) (w : World) (h : ArgB w a n c l) (h' : ArgB w a' n' c' l') (hd : ArgD w b m q os) (hu : n + n' ≤ 1048576) :
    Calls Try.prog 6 #[.slice a n c, .slice a' n' c', .slice b m q] w fun e w' => e = .returned (.bool true) ∧ Below w.heap.size w w' := by
  obtain ⟨hr, hnc, hc, hB⟩ := h
  obtain ⟨hr', hnc', hc', hB'⟩ := h'
  obtain ⟨hro, hmq, hm, hok⟩ := hd
  have HR := Lib.hid hr
  have HR' := Lib.hid hr'
  have HRO := Lib.hid hro
  have HK := Lib.hid hok
  have HM : Hid (os.length = m) := Lib.hid hro.olen
  clear hr hB hc hr' hB' hc' hro hok
  go_enter Try.func6, Try.ntmps6
  go_wp2_with fail
  refine (wakes_any w).mono ?_
  rintro e w1 ⟨rfl, hb1⟩
  go_wp2_with fail
  refine (load_any a a' n c n' c' l l' w1 ((HR.out.below hb1).more hb1.size) ((HR'.out.below hb1).more hb1.size) (by omega) (by omega)).mono ?_
  rintro e w2 ⟨R, S, rfl, h2, hS2, hb2⟩
  have hb12 := hb1.trans (hb2.mono hb1.size)
  go_wp2_with fail
  refine (load_ref a a' n c n' c' l l' w2 ((HR.out.below hb12).more hb12.size) ((HR'.out.below hb12).more hb12.size) (by omega) (by omega)).mono ?_
  rintro e w3 ⟨R', S', rfl, h3, hS3, hb3⟩
  have hb13 := hb12.trans (hb3.mono hb12.size)
  have H3 : Hid (Pair w R (DK.new l l') S R' (DK.new l l') S' w3) := Lib.hid ⟨⟨h2.next hb3, fun b hb => Nat.le_trans hb1.size (hS2 b hb), hb13⟩, h3, fun b hb => Nat.le_trans hb12.size (hS3 b hb), fun b h1 h4 => by
    have := h2.lt b h1
    have := hS3 b h4
    omega⟩
  have HF3 : Hid ((DK.new l l').fit ((0 + 1) * 1048576) 0) := Lib.hid (DK.fit.new l l' (by have := HR.out.1; simp at this; omega) (by have := HR'.out.1; simp at this; omega))
  clear h2 hS2 hb1 hb2 hb12 h3 hS3 hb3 hb13
  go_wp2
  go_loopw [10, 11, 12, 13, 14, 27] (fun _ _ _ _ _ j wr => ∃ i : Nat, j = .int .i64 i ∧ i ≤ m ∧ DoesAt w R R' i wr) (fun _ _ _ _ _ j _ => m - (intOf j).toNat)
  case atStart => exact ⟨0, rfl, by omega, _, S, S', H3.out, HF3.out⟩
  case round =>
    obtain ⟨i, rfl, hi, d, S3, S3', h3, hf3⟩ := hrel
    obtain ⟨w3, rfl⟩ : ∃ w3 : World, w3 = wr := ⟨_, rfl⟩
    have H3 := Lib.hid h3
    have HF3 := Lib.hid hf3
    clear h3 hf3
    by_cases hlt : i < m
    · obtain ⟨pb, off, rfl, hbb, hcs⟩ := (HRO.out.below H3.out.1.2.2).ops_ (by omega)
      obtain ⟨r, hr⟩ : ∃ r, os[i]? = some r := ⟨_, List.getElem?_eq_getElem (by rw [HM.out]; exact hlt)⟩
      obtain ⟨x0, x1, x2, x3, x4⟩ := hcs i r hr
      have hkr := HK.out r (List.mem_of_getElem? hr)
      obtain ⟨⟨kd, f, on, ok, ob⟩, oA, om, oq⟩ := r
      have HKR := Lib.hid hkr
      simp only at x0 x1 x2 x3 x4
      clear hcs hr hkr
      obtain ⟨M, hMe⟩ : ∃ M, M = (i + 1) * 1048576 := ⟨_, rfl⟩
      have hM : M ≤ 1099511627776 := by omega
      have HME : Hid (M + 1048576 = (i + 1 + 1) * 1048576) := Lib.hid (by rw [hMe]; exact (Nat.succ_mul (i + 1) 1048576).symm)
      rw [← hMe] at HF3
      clear hMe
      have hom : om ≤ 1048576 := HKR.out.2.1
      have hobl : ob.length ≤ 1048576 := by have h1 := HKR.out.1.1; simp at h1; omega
      have HFit : Hid ((d.does ⟨kd, f, on, ok, ob⟩).fit (M + 1048576) (i + 1)) := Lib.hid (HF3.out.does (K := 1048576) ⟨kd, f, on, ok, ob⟩ hobl HKR.out.2.2.2.1 HKR.out.2.2.2.2.1 HKR.out.2.2.2.2.2)
      obtain ⟨w4, hw4⟩ : ∃ w4, w4 = w3.alloc (.cells #[.int .i64 kd, .int .i64 f, .int .i64 on, .int .i64 ok, .slice oA om oq] 53) := ⟨_, rfl⟩
      have H4 : Hid (Pair w R d S3 R' d S3' w4) := Lib.hid (hw4 ▸ H3.out.alloc _)
      have HO4 : Hid (Blk w4 w3.heap.size 53 #[.int .i64 kd, .int .i64 f, .int .i64 on, .int .i64 ok, .slice oA om oq]) := Lib.hid (hw4 ▸ Blk.new w3 _ _)
      obtain ⟨p, hp⟩ : ∃ p, p = w3.heap.size := ⟨_, rfl⟩
      have HPS : Hid (∀ b, S3 b → b < p) := Lib.hid (hp ▸ H3.out.1.1.lt)
      have HRB4 : Hid (Reads w4 w4.heap.size 1 oA om (bts ob)) := Lib.hid ((HKR.out.1.below H4.out.1.2.2).more H4.out.1.2.2.size)
      go_wp2_with fail
      rw [← hw4, ← hp]
      rw [← hp] at HO4
      have hp4 : p < w4.heap.size := HO4.out.lt
      refine (does_any R d S3 ⟨kd, f, on, ok, ob⟩ oA om oq _ H4.out.1.1 HRB4.out M i HF3.out (by omega) (by omega)).mono ?_
      have HL : Hid ((d.doesB ⟨kd, f, on, ok, ob⟩).length ≤ 4611686018427387904) := Lib.hid (by
        unfold DK.doesB DK.rd
        split
        · split
          · have := HF3.out.get f
            show (d.get f).all.length ≤ _
            omega
          · simp
        · simp)
      obtain ⟨d', hd'⟩ : ∃ d', d' = d.does ⟨kd, f, on, ok, ob⟩ := ⟨_, rfl⟩
      obtain ⟨gB, hgB⟩ : ∃ gB, gB = d.doesB ⟨kd, f, on, ok, ob⟩ := ⟨_, rfl⟩
      obtain ⟨gE, hgE⟩ : ∃ gE, gE = d.doesE ⟨kd, f, on, ok, ob⟩ := ⟨_, rfl⟩
      have HDe := Lib.hid (And.intro hd' (And.intro hgB hgE))
      rw [← hd'] at HFit
      rw [← hgB] at HL
      rw [← hd', ← hgB, ← hgE]
      rintro e w12 ⟨A12, n12, c12, rfl, S12, h12, u12, f12, o12, g12⟩
      have H12 := Lib.hid (H4.out.one h12 u12 f12)
      have HO12 : Hid (Blk w12 p 53 #[.int .i64 kd, .int .i64 f, .int .i64 on, .int .i64 ok, .slice oA om oq]) := Lib.hid ((u12.block p hp4 (fun hs => by have := HPS.out p hs; omega)).trans HO4.out)
      have HRB12 : Hid (Reads w12 w12.heap.size 1 oA om (bts ob)) := Lib.hid ((HKR.out.1.below H12.out.1.2.2).more H12.out.1.2.2.size)
      have HG12 : Hid (OwnB w12 w4.heap.size (.slice A12 n12 c12) gB) := Lib.hid o12
      have HS4 : Hid (∀ b, S3' b → b < w4.heap.size) := Lib.hid H4.out.2.1.lt
      have y0 : w12.cell? ⟨p, 0, none⟩ = some (.int .i64 kd) := by rw [HO12.out.cell]; rfl
      have y1 : w12.cell? ⟨p, 1, none⟩ = some (.int .i64 f) := by rw [HO12.out.cell]; rfl
      have y2 : w12.cell? ⟨p, 2, none⟩ = some (.int .i64 on) := by rw [HO12.out.cell]; rfl
      have y3 : w12.cell? ⟨p, 3, none⟩ = some (.int .i64 ok) := by rw [HO12.out.cell]; rfl
      have y4 : w12.cell? ⟨p, 4, none⟩ = some (.slice oA om oq) := by rw [HO12.out.cell]; rfl
      clear h12 u12 f12 o12 g12 hw4 hp x0 x1 x2 x3 x4 hd' hgB hgE
      go_wp2_with fail
      refine (says_any R' d S3' ⟨kd, f, on, ok, ob⟩ oA om oq _ H12.out.2.1 HRB12.out M i HF3.out (by omega) (by omega)).mono ?_
      rw [← HDe.out.1, ← HDe.out.2.1, ← HDe.out.2.2]
      rintro e w13 ⟨A13, n13, c13, rfl, S13, h13, u13, f13, o13, g13⟩
      have H13 := Lib.hid (H12.out.other h13 u13 f13)
      have HG13 : Hid (OwnB w13 w4.heap.size (.slice A12 n12 c12) gB) := Lib.hid (HG12.out.stay fun g e => u13.block g (HG12.out.lt g e) (fun hs => by
        have := HG12.out.base g e
        have := HS4.out g hs
        omega))
      have HW13 : Hid (OwnB w13 w12.heap.size (.slice A13 n13 c13) gB) := Lib.hid o13
      have HN12 : Hid (gB.length = n12 ∧ gB.length = n13) := Lib.hid ⟨(own_len HG13.out).1, (own_len HW13.out).1⟩
      clear h13 u13 f13 o13 g13 y0 y1 y2 y3 y4 HG12 HDe
      obtain ⟨v, hbk, hv, hS⟩ := H13.out.2.1
      have z4 : w13.cell? ⟨R', 4, none⟩ = some (.bool d'.on) := by rw [hbk.cell]; rfl
      have z5 : w13.cell? ⟨R', 5, none⟩ = some (.int .i64 (d'.cnt : Int)) := by rw [hbk.cell]; rfl
      obtain ⟨A0, n0, c0, e0, l0, q0, r0, _⟩ := hv.rd 0 (by omega)
      obtain ⟨A1, n1, c1, e1, l1, q1, r1, _⟩ := hv.rd 1 (by omega)
      replace l0 : d'.f0.s.length = n0 := l0
      replace l1 : d'.f1.s.length = n1 := l1
      replace r0 : Reads w13 w13.heap.size 1 A0 n0 (bts d'.f0.s) := r0
      replace r1 : Reads w13 w13.heap.size 1 A1 n1 (bts d'.f1.s) := r1
      have z0 : w13.cell? ⟨R', 0, none⟩ = some (.slice A0 n0 c0) := by rw [hbk.cell, ← e0]; rfl
      have z1 : w13.cell? ⟨R', 1, none⟩ = some (.slice A1 n1 c1) := by rw [hbk.cell, ← e1]; rfl
      have hRl : R' < w13.heap.size := hbk.lt
      have HX := Lib.hid (And.intro r0 (And.intro r1 (And.intro l0 l1)))
      have HLs : Hid (d'.f0.all.length ≤ 140737488355328 ∧ d'.f1.all.length ≤ 140737488355328) := Lib.hid ⟨Nat.le_trans HFit.out.l0 (by omega), Nat.le_trans HFit.out.l1 (by omega)⟩
      have HLt : Hid (d'.f0.s.length ≤ 4611686018427387904 ∧ d'.f1.s.length ≤ 4611686018427387904) := Lib.hid ⟨by have := HLs.out.1; rw [FL.all_len] at this; omega, by have := HLs.out.2; rw [FL.all_len] at this; omega⟩
      clear hbk hv hS e0 e1 l0 l1 r0 r1 q0 q1
      have RD12 : Hid (Reads w13 w13.heap.size 1 A12 n12 (bts gB)) := Lib.hid (Kp.reads (S := fun _ => False) (c := c12) ⟨HG13.out.mono (Nat.zero_le _), fun _ _ h => h⟩)
      have RD13 : Hid (Reads w13 w13.heap.size 1 A13 n13 (bts gB)) := Lib.hid (Kp.reads (S := fun _ => False) (c := c13) ⟨HW13.out.mono (Nat.zero_le _), fun _ _ h => h⟩)
      have hL12 : n12 ≤ 4611686018427387904 := by have := HL.out; have := HN12.out.1; omega
      go_wp2_with fail
      go_region_held3 (fun w' => w'.cell? ⟨R', 4, none⟩ = some (.bool d'.on) ∧ w'.cell? ⟨R', 5, none⟩ = some (.int .i64 (d'.cnt : Int)) ∧ w'.cell? ⟨R', 0, none⟩ = some (.slice A0 n0 c0) ∧ w'.cell? ⟨R', 1, none⟩ = some (.slice A1 n1 c1)) (first | exact ⟨z4, z5, z0, z1⟩ | exact Z15 | exact Z17 | go_keep) (first
        | (go_at_call_of 27 (Value.slice A12 n12 c12); go_must (refine (same_any A12 A13 n12 c12 n13 c13 gB gB _ w13.heap.size w13.heap.size (by exact RD12.out) (by exact RD13.out) hL12).mono ?_; rw [decide_eq_true rfl]; rintro e w14 ⟨rfl, k14, rfl⟩))
        | (go_at_call 28; go_must (refine (down_any R d' S12 _ (by exact (H13.out.drewN (1 + k14)).1.1)).mono ?_; rintro e w14 ⟨rfl, rfl⟩))
        | (go_at_call 29; go_must (refine (writes_any R d' S12 _ (by exact (H13.out.drewN (1 + k14)).1.1)).mono ?_; rintro e w14 ⟨rfl, rfl⟩))
        | (go_at_call_of 30 (Value.int IntKind.i64 0); go_must (refine (safe_any R 0 d' S12 _ (by exact (H13.out.drewN (1 + k14)).1.1) HLs.out.1 HLs.out.2).mono ?_; rw [show d'.sf 0 = d'.f0.s from rfl]; rintro e w15 ⟨A15, n15, c15, rfl, o15, b15⟩; have B15 : Hid (Below w13.heap.size w13 w15) := Lib.hid ⟨b15.os, b15.tape, b15.output, b15.size, b15.block⟩; have Z15 := And.intro ((B15.out.cell (p := ⟨R', 4, none⟩) hRl).trans z4) (And.intro ((B15.out.cell (p := ⟨R', 5, none⟩) hRl).trans z5) (And.intro ((B15.out.cell (p := ⟨R', 0, none⟩) hRl).trans z0) ((B15.out.cell (p := ⟨R', 1, none⟩) hRl).trans z1))); have O15 := Lib.hid o15; have hL15 : n15 ≤ 4611686018427387904 := (by have h1 := (own_len O15.out).1; have := HLt.out.1; omega); clear o15 b15))
        | (go_at_call_of 27 (Value.slice A0 n0 c0); go_must (refine (same_any A15 A0 n15 c15 n0 c0 d'.f0.s d'.f0.s _ w15.heap.size w13.heap.size (by exact Kp.reads (S := fun _ => False) (c := c15) ⟨O15.out.mono (Nat.zero_le _), fun _ _ h => h⟩) (by exact HX.out.1.below B15.out) hL15).mono ?_; rw [decide_eq_true rfl]; rintro e w16 ⟨rfl, k16, rfl⟩))
        | (go_at_call_of 30 (Value.int IntKind.i64 1); go_must (refine (safe_any R 1 d' S12 _ (by exact ((H13.out.next B15.out).drewN k16).1.1) HLs.out.1 HLs.out.2).mono ?_; rw [show d'.sf 1 = d'.f1.s from rfl]; rintro e w17 ⟨A17, n17, c17, rfl, o17, b17⟩; have B17 : Hid (Below w13.heap.size w13 w17) := Lib.hid (B15.out.trans (Below.mono ⟨b17.os, b17.tape, b17.output, b17.size, b17.block⟩ B15.out.size)); have Z17 := And.intro ((B17.out.cell (p := ⟨R', 4, none⟩) hRl).trans z4) (And.intro ((B17.out.cell (p := ⟨R', 5, none⟩) hRl).trans z5) (And.intro ((B17.out.cell (p := ⟨R', 0, none⟩) hRl).trans z0) ((B17.out.cell (p := ⟨R', 1, none⟩) hRl).trans z1))); have O17 := Lib.hid o17; have hL17 : n17 ≤ 4611686018427387904 := (by have h1 := (own_len O17.out).1; have := HLt.out.2; omega); clear o17 b17))
        | (go_at_call_of 27 (Value.slice A1 n1 c1); go_must (refine (same_any A17 A1 n17 c17 n1 c1 d'.f1.s d'.f1.s _ w17.heap.size w13.heap.size (by exact Kp.reads (S := fun _ => False) (c := c17) ⟨O17.out.mono (Nat.zero_le _), fun _ _ h => h⟩) (by exact HX.out.2.1.below B17.out) hL17).mono ?_; rw [decide_eq_true rfl]; rintro e w18 ⟨rfl, k18, rfl⟩)))
      all_goals
        go_wp2
        go_roundw
        case rel => exact ⟨i + 1, by go_num, by omega, d', S12, S13, (H13.out.next B17.out).drewN k18, HME.out ▸ HFit.out⟩
        case measure => simp [intOf]; omega
    · have HLs : Hid (d.f0.all.length ≤ 140737488355328 ∧ d.f1.all.length ≤ 140737488355328) := Lib.hid ⟨Nat.le_trans HF3.out.l0 (by omega), Nat.le_trans HF3.out.l1 (by omega)⟩
      go_wp2_with fail
      refine (safe_any R 2 d S3 _ H3.out.1.1 HLs.out.1 HLs.out.2).mono ?_
      rw [show d.sf 2 = [] from rfl]
      rintro e w4 ⟨A4, n4, c4, rfl, o4, b4⟩
      obtain rfl : n4 = 0 := (own_len o4).1.symm
      have H4 := Lib.hid (H3.out.next b4)
      clear o4 b4
      go_wp2_with fail
      refine (safe_any R (-1) d S3 _ H4.out.1.1 HLs.out.1 HLs.out.2).mono ?_
      rw [show d.sf (-1) = [] from rfl]
      rintro e w5 ⟨A5, n5, c5, rfl, o5, b5⟩
      obtain rfl : n5 = 0 := (own_len o5).1.symm
      have H5 := Lib.hid (H4.out.next b5)
      clear o5 b5
      go_wp2
      go_ret
      exact ⟨rfl, H5.out.1.2.2⟩
end Go.Proofs.Ytgocfkjibcokjaa.Pk
