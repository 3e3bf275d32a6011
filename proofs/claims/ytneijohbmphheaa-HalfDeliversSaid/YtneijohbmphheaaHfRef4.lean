/- The document's Heard of a side. -/
import Derived.Test.YtneijohbmphheaaHfRef2
namespace Go.Proofs.Ytneijohbmphheaa.Pk
open Go.RowKit
set_option linter.unusedVariables false
theorem mgs_drop (l : List Mg) (k : Nat) : mgs (l.drop k) = (mgs l).drop (k * 5) := by
  induction k generalizing l with
  | zero => simp
  | succ k ih =>
    cases l with
    | nil => simp [mgs]
    | cons x l =>
      rw [List.drop_succ_cons, ih, mgs_cons, show (k + 1) * 5 = k * 5 + 5 by omega]
      rfl
theorem run_cutM (a : Option Addr) (n c i : Nat) (h1 : i ≤ n) (w : World) :
    (Instr.slice 22 (.slice a n c) (some (.int .i64 (i : Int))) none none).run Try.prog w = .ok (.slice (if c = i then a else a.map (·.add (i * 5))) (n - i) (c - i)) w := by
  obtain ⟨f, hi1, hi2⟩ := Option.map_eq_some_iff.1 msg_info
  simp only [Prod.mk.injEq] at hi2
  have hi3 := hi2.2.1
  simp [Instr.slice, run_underlying Try.underlying22, go_sem, Instr.sliceBounds, sizeOf, typeInfo, hi1, hi3, h1]
theorem own_two_blk {w : World} {B x n c : Nat} {A : Option Addr} {l : List Mg} {cs : Array Value} (h : OwnG w B (.slice A n c) l) (hb : Blk w x 24 cs) (e : (Value.slice A n c).ownBlock = some x) : False := by
  rcases h.2 with ⟨e2, _⟩ | ⟨g, cap, cur, e2, _, hh, _⟩
  · injection e2 with e2; subst e2; simp [Value.ownBlock] at e
  · injection e2 with e2
    subst e2
    simp [Value.ownBlock] at e
    subst e
    unfold Blk at hb
    rw [hb] at hh
    injection hh with hh
    injection hh with _ hh
    exact absurd hh (by decide)
theorem own_set_far {w : World} {B x : Nat} {v : Value} {l : List Mg} (h : OwnG w B v l) (hx : x < B) (i : Nat) (u : Value) : OwnG (w.setCell ⟨x, i, none⟩ u) B v l :=
  h.stay fun g e => Below.heap_setCell w ⟨x, i, none⟩ u g (fun e2 => by have := ownG_base h g e; simp at e2; omega)
theorem Blk.far4 {w : World} {x y : Nat} {t : TypeId} {a0 a1 a2 a3 : Value} (h : Blk w x t #[a0, a1, a2, a3]) (hne : x ≠ y) (u0 u1 u2 u3 : Value) :
    let V := ((((w.setCell ⟨y, 0, none⟩ u0).setCell ⟨y, 1, none⟩ u1).setCell ⟨y, 2, none⟩ u2).setCell ⟨y, 3, none⟩ u3)
    V.cell? ⟨x, 0, none⟩ = some a0 ∧ V.cell? ⟨x, 1, none⟩ = some a1 ∧ V.cell? ⟨x, 2, none⟩ = some a2 ∧ V.cell? ⟨x, 3, none⟩ = some a3 := by
  have q := ((((h.far (p := ⟨y, 0, none⟩) hne u0).far (p := ⟨y, 1, none⟩) hne u1).far (p := ⟨y, 2, none⟩) hne u2).far (p := ⟨y, 3, none⟩) hne u3)
  exact ⟨q.cell 0, q.cell 1, q.cell 2, q.cell 3⟩
set_option maxRecDepth 100000 in
set_option maxHeartbeats 4000000 in
theorem refheard_any (h : Hf) (a : Int) (A : Option Addr) (n c : Nat) (w : World) (hk : InH w h A n c) (ha1 : -9223372036854775808 ≤ a) (ha2 : a ≤ 9223372036854775807) :
    Calls Try.prog 17 #[h.val (.slice A n c), .int .i64 a] w fun e w' => ∃ v, e = .returned (.tuple #[(hheard h a).1.val v, .int .i64 (hheard h a).2]) ∧ OutH w' w.heap.size (hheard h a).1 v ∧ Below w.heap.size w w' := by
  have HCap : Hid (n ≤ c) := Lib.hid hk.cap
  have HG := Lib.hid (fun w' (hb : Below w.heap.size w w') => refgood_any h A n c w' (hk.next hb))
  have HL : Hid (h.o.length = n) := Lib.hid hk.len
  have HR := Lib.hid hk.rd
  have hn := hk.few
  obtain ⟨i2, j2⟩ := hk.i.b
  obtain ⟨i3, j3⟩ := hk.i.s
  clear hk
  obtain ⟨r, hr⟩ : ∃ r, r = hheard h a := ⟨_, rfl⟩
  have HP := Lib.hid hr
  rw [← hr]
  clear hr
  obtain ⟨p, b, o, s⟩ := h
  unfold Hf.val at HG ⊢
  simp only at HG HL HR i2 j2 i3 j3 ⊢
  go_enter Try.func17, Try.ntmps17
  obtain ⟨x1, hx1⟩ : ∃ x, x = w.heap.size := ⟨_, rfl⟩
  obtain ⟨pr, hpr⟩ : ∃ x, x = x1 + 1 := ⟨_, rfl⟩
  obtain ⟨wb, hwb⟩ : ∃ wb, wb = w.alloc (.cells #[.int .i64 p, .int .i64 b, .slice A n c, .int .i64 s] 24) := ⟨_, rfl⟩
  obtain ⟨w1, hw1⟩ : ∃ w1, w1 = wb.alloc (.cells #[.int .i64 0, .int .i64 0, .slice none 0 0, .int .i64 0] 24) := ⟨_, rfl⟩
  have hsb : wb.heap.size = x1 + 1 := by rw [hwb, World.size_alloc, hx1]
  have hbb : Below w.heap.size w wb := hwb ▸ (Below.refl _ _).alloc (Nat.le_refl _) _
  have HB1 : Hid (Below w.heap.size w w1) := Lib.hid (hw1 ▸ hbb.alloc (by omega) _)
  have HE1 : Hid (Blk w1 x1 24 #[.int .i64 p, .int .i64 b, .slice A n c, .int .i64 s]) := Lib.hid (by rw [hw1, hwb, hx1]; exact (Blk.new w _ _).alloc _)
  have HK1 : Hid (Blk w1 pr 24 #[.int .i64 0, .int .i64 0, .slice none 0 0, .int .i64 0]) := Lib.hid (by rw [hw1, hpr, ← hsb]; exact Blk.new wb _ _)
  have HPr : Hid (w.heap.size + 1 = pr) := Lib.hid (by omega)
  have HNe : Hid (x1 ≠ pr) := Lib.hid (by omega)
  go_wp2_with fail
  rw [← hwb, ← hw1, ← hx1, ← hpr]
  clear hwb hw1 hx1 hpr hsb hbb wb
  refine (HG.out w1 HB1.out).mono ?_
  rintro e w2 ⟨rfl, hb2⟩
  have HB2 := Lib.hid (HB1.out.trans (hb2.mono HB1.out.size))
  have HE2 := Lib.hid (HE1.out.below hb2 HE1.out.lt)
  have HK2 := Lib.hid (HK1.out.below hb2 HK1.out.lt)
  clear hb2 HE1 HK1 HB1
  have e2 := HE2.out
  have z0 : w2.cell? ⟨x1, 0, none⟩ = some (.int .i64 p) := e2.cell 0
  have z1 : w2.cell? ⟨x1, 1, none⟩ = some (.int .i64 b) := e2.cell 1
  have z2 : w2.cell? ⟨x1, 2, none⟩ = some (.slice A n c) := e2.cell 2
  have z3 : w2.cell? ⟨x1, 3, none⟩ = some (.int .i64 s) := e2.cell 3
  clear e2
  by_cases hbe : Hf.Be ⟨p, b, o, s⟩
  case neg =>
    have HS : Hid (r = (Hf.zero, 24)) := Lib.hid (by rw [HP.out]; exact if_neg hbe)
    rw [decide_eq_false hbe]
    clear hbe
    have k2 := HK2.out
    have x0_ : w2.cell? ⟨pr, 0, none⟩ = some (.int .i64 0) := k2.cell 0
    have x1_ : w2.cell? ⟨pr, 1, none⟩ = some (.int .i64 0) := k2.cell 1
    have x2_ : w2.cell? ⟨pr, 2, none⟩ = some (.slice none 0 0) := k2.cell 2
    have x3_ : w2.cell? ⟨pr, 3, none⟩ = some (.int .i64 0) := k2.cell 3
    have f0_ : w2.frozen? ⟨pr, 0, none⟩ = false := k2.frozen 0
    have f1_ : w2.frozen? ⟨pr, 1, none⟩ = false := k2.frozen 1
    have f2_ : w2.frozen? ⟨pr, 2, none⟩ = false := k2.frozen 2
    have f3_ : w2.frozen? ⟨pr, 3, none⟩ = false := k2.frozen 3
    obtain ⟨w5, hw5, k5, hb5, ho5⟩ := edge_set k2 (.int .i64 0) (.int .i64 0) (.slice none 0 0) (.int .i64 0)
    have HB5 := Lib.hid (hb5 w.heap.size w (by have := HPr.out; omega) HB2.out)
    have HW5 := Lib.hid hw5
    have HO5 := Lib.hid ho5
    have y0_ : w5.cell? ⟨pr, 0, none⟩ = some (.int .i64 0) := k5.cell 0
    have y1_ : w5.cell? ⟨pr, 1, none⟩ = some (.int .i64 0) := k5.cell 1
    have y2_ : w5.cell? ⟨pr, 2, none⟩ = some (.slice none 0 0) := k5.cell 2
    have y3_ : w5.cell? ⟨pr, 3, none⟩ = some (.int .i64 0) := k5.cell 3
    clear k2 hw5 k5 hb5 ho5
    go_wp2
    rw [← HW5.out]
    refine bodyPost_ret (v := .tuple #[.agg #[.int .i64 0, .int .i64 0, .slice none 0 0, .int .i64 0], .int .i64 (24)]) (by simp [results, Try.f17, go_sem, y0_, y1_, y2_, y3_]) rfl ⟨.slice none 0 0, ?_, ?_, HB5.out⟩
    · rw [HS.out]; rfl
    · rw [HS.out]; exact OwnG.none_ _ _
  case pos =>
  rw [decide_eq_true hbe]
  have HBe := Lib.hid hbe
  have g0 : 0 ≤ b ∧ n ≤ 1024 ∧ b + (n : Int) ≤ 1099511627776 := by
    obtain ⟨h1, h2, h3, h4, h5, h6, h7, h8⟩ := hbe
    simp only at h3 h6 h7
    have := HL.out
    rw [this] at h6 h7
    exact ⟨h3, h6, h7⟩
  obtain ⟨g0, g1, g2⟩ := g0
  have HR2 : Hid (Reads w2 w2.heap.size 5 A n (mgs o)) := Lib.hid ((HR.out.below HB2.out).more HB2.out.size)
  clear hbe
  go_wp2_with fail
  have Y0 : (w2.drew).cell? ⟨x1, 0, none⟩ = some (.int .i64 p) ∧ (w2.drew).cell? ⟨x1, 1, none⟩ = some (.int .i64 b) ∧ (w2.drew).cell? ⟨x1, 2, none⟩ = some (.slice A n c) ∧ (w2.drew).cell? ⟨x1, 3, none⟩ = some (.int .i64 s) := ⟨HE2.out.cell 0, HE2.out.cell 1, HE2.out.cell 2, HE2.out.cell 3⟩
  have Y1 : ((w2.alloc (.cells #[] 26)).drew).cell? ⟨x1, 0, none⟩ = some (.int .i64 p) ∧ ((w2.alloc (.cells #[] 26)).drew).cell? ⟨x1, 1, none⟩ = some (.int .i64 b) ∧ ((w2.alloc (.cells #[] 26)).drew).cell? ⟨x1, 2, none⟩ = some (.slice A n c) ∧ ((w2.alloc (.cells #[] 26)).drew).cell? ⟨x1, 3, none⟩ = some (.int .i64 s) := ⟨(HE2.out.alloc (.cells #[] 26)).cell 0, (HE2.out.alloc (.cells #[] 26)).cell 1, (HE2.out.alloc (.cells #[] 26)).cell 2, (HE2.out.alloc (.cells #[] 26)).cell 3⟩
  have Y2 : (((w2.alloc (.cells #[] 26)).alloc (.cells #[.int .i64 0, .int .i64 0, .slice none 0 0, .int .i64 0] 24)).drew).cell? ⟨x1, 0, none⟩ = some (.int .i64 p) ∧ (((w2.alloc (.cells #[] 26)).alloc (.cells #[.int .i64 0, .int .i64 0, .slice none 0 0, .int .i64 0] 24)).drew).cell? ⟨x1, 1, none⟩ = some (.int .i64 b) ∧ (((w2.alloc (.cells #[] 26)).alloc (.cells #[.int .i64 0, .int .i64 0, .slice none 0 0, .int .i64 0] 24)).drew).cell? ⟨x1, 2, none⟩ = some (.slice A n c) ∧ (((w2.alloc (.cells #[] 26)).alloc (.cells #[.int .i64 0, .int .i64 0, .slice none 0 0, .int .i64 0] 24)).drew).cell? ⟨x1, 3, none⟩ = some (.int .i64 s) := ⟨((HE2.out.alloc (.cells #[] 26)).alloc (.cells #[.int .i64 0, .int .i64 0, .slice none 0 0, .int .i64 0] 24)).cell 0, ((HE2.out.alloc (.cells #[] 26)).alloc (.cells #[.int .i64 0, .int .i64 0, .slice none 0 0, .int .i64 0] 24)).cell 1, ((HE2.out.alloc (.cells #[] 26)).alloc (.cells #[.int .i64 0, .int .i64 0, .slice none 0 0, .int .i64 0] 24)).cell 2, ((HE2.out.alloc (.cells #[] 26)).alloc (.cells #[.int .i64 0, .int .i64 0, .slice none 0 0, .int .i64 0] 24)).cell 3⟩
  have Y3 : ((w2.alloc (.cells #[.int .i64 0, .int .i64 0, .slice none 0 0, .int .i64 0] 24)).drew).cell? ⟨x1, 0, none⟩ = some (.int .i64 p) ∧ ((w2.alloc (.cells #[.int .i64 0, .int .i64 0, .slice none 0 0, .int .i64 0] 24)).drew).cell? ⟨x1, 1, none⟩ = some (.int .i64 b) ∧ ((w2.alloc (.cells #[.int .i64 0, .int .i64 0, .slice none 0 0, .int .i64 0] 24)).drew).cell? ⟨x1, 2, none⟩ = some (.slice A n c) ∧ ((w2.alloc (.cells #[.int .i64 0, .int .i64 0, .slice none 0 0, .int .i64 0] 24)).drew).cell? ⟨x1, 3, none⟩ = some (.int .i64 s) := ⟨(HE2.out.alloc (.cells #[.int .i64 0, .int .i64 0, .slice none 0 0, .int .i64 0] 24)).cell 0, (HE2.out.alloc (.cells #[.int .i64 0, .int .i64 0, .slice none 0 0, .int .i64 0] 24)).cell 1, (HE2.out.alloc (.cells #[.int .i64 0, .int .i64 0, .slice none 0 0, .int .i64 0] 24)).cell 2, (HE2.out.alloc (.cells #[.int .i64 0, .int .i64 0, .slice none 0 0, .int .i64 0] 24)).cell 3⟩
  have Y4 : (((w2.alloc (.cells #[.int .i64 0, .int .i64 0, .slice none 0 0, .int .i64 0] 24)).alloc (.cells #[] 26)).drew).cell? ⟨x1, 0, none⟩ = some (.int .i64 p) ∧ (((w2.alloc (.cells #[.int .i64 0, .int .i64 0, .slice none 0 0, .int .i64 0] 24)).alloc (.cells #[] 26)).drew).cell? ⟨x1, 1, none⟩ = some (.int .i64 b) ∧ (((w2.alloc (.cells #[.int .i64 0, .int .i64 0, .slice none 0 0, .int .i64 0] 24)).alloc (.cells #[] 26)).drew).cell? ⟨x1, 2, none⟩ = some (.slice A n c) ∧ (((w2.alloc (.cells #[.int .i64 0, .int .i64 0, .slice none 0 0, .int .i64 0] 24)).alloc (.cells #[] 26)).drew).cell? ⟨x1, 3, none⟩ = some (.int .i64 s) := ⟨((HE2.out.alloc (.cells #[.int .i64 0, .int .i64 0, .slice none 0 0, .int .i64 0] 24)).alloc (.cells #[] 26)).cell 0, ((HE2.out.alloc (.cells #[.int .i64 0, .int .i64 0, .slice none 0 0, .int .i64 0] 24)).alloc (.cells #[] 26)).cell 1, ((HE2.out.alloc (.cells #[.int .i64 0, .int .i64 0, .slice none 0 0, .int .i64 0] 24)).alloc (.cells #[] 26)).cell 2, ((HE2.out.alloc (.cells #[.int .i64 0, .int .i64 0, .slice none 0 0, .int .i64 0] 24)).alloc (.cells #[] 26)).cell 3⟩
  refine wp_region_noPanic ?_
  go_region_held3 (fun w' => w'.cell? ⟨x1, 0, none⟩ = some (.int .i64 p) ∧ w'.cell? ⟨x1, 1, none⟩ = some (.int .i64 b) ∧ w'.cell? ⟨x1, 2, none⟩ = some (.slice A n c) ∧ w'.cell? ⟨x1, 3, none⟩ = some (.int .i64 s)) (first | with_reducible exact Z8 | with_reducible exact Z9 | with_reducible exact Z10 | with_reducible exact Z11 | with_reducible exact Y0 | with_reducible exact Y1 | with_reducible exact Y2 | with_reducible exact Y3 | with_reducible exact Y4) (first
    | go_must (first
      | (refine stepM _ rfl (.tmp 15) (.tmp 17) rfl _ (.slice (some ⟨w2.heap.size, 0, none⟩) 0 0) [] rfl (by exact OwnG.fresh w2 _ (Nat.le_refl _)) w2.heap.size A c o n rfl (by exact HR2.out.alloc (Nat.le_refl _) _) (by simp; omega) (by first | (simp; done) | (simp; omega)) ?_; intro A8 n8 c8 w8 hown8 hg8 _; have HO8 : Hid (OwnG w8 w2.heap.size (.slice A8 n8 c8) o) := Lib.hid (hown8.mono_ (by first | exact Nat.le_refl _ | (simp; done) | (simp; omega))); have HB8 : Hid (Below w2.heap.size w2 w8) := Lib.hid ((below_drew_allocG w2 _).grown hg8 (by first | (simp; done) | (simp; omega)) (fun g e => by simp [Value.ownBlock] at e; first | omega | (subst e; simp))); have k8 := HE2.out.below HB8.out HE2.out.lt; have Z8 : (w8).cell? ⟨x1, 0, none⟩ = some (.int .i64 p) ∧ (w8).cell? ⟨x1, 1, none⟩ = some (.int .i64 b) ∧ (w8).cell? ⟨x1, 2, none⟩ = some (.slice A n c) ∧ (w8).cell? ⟨x1, 3, none⟩ = some (.int .i64 s) := ⟨k8.cell 0, k8.cell 1, k8.cell 2, k8.cell 3⟩; have Z9 : (w8.alloc (.cells #[.int .i64 0, .int .i64 0, .slice none 0 0, .int .i64 0] 24)).cell? ⟨x1, 0, none⟩ = some (.int .i64 p) ∧ (w8.alloc (.cells #[.int .i64 0, .int .i64 0, .slice none 0 0, .int .i64 0] 24)).cell? ⟨x1, 1, none⟩ = some (.int .i64 b) ∧ (w8.alloc (.cells #[.int .i64 0, .int .i64 0, .slice none 0 0, .int .i64 0] 24)).cell? ⟨x1, 2, none⟩ = some (.slice A n c) ∧ (w8.alloc (.cells #[.int .i64 0, .int .i64 0, .slice none 0 0, .int .i64 0] 24)).cell? ⟨x1, 3, none⟩ = some (.int .i64 s) := ⟨(k8.alloc _).cell 0, (k8.alloc _).cell 1, (k8.alloc _).cell 2, (k8.alloc _).cell 3⟩; have Z11 : (w8.alloc (.cells #[.int .i64 p, .int .i64 b, .slice A8 n8 c8, .int .i64 s] 24)).cell? ⟨x1, 0, none⟩ = some (.int .i64 p) ∧ (w8.alloc (.cells #[.int .i64 p, .int .i64 b, .slice A8 n8 c8, .int .i64 s] 24)).cell? ⟨x1, 1, none⟩ = some (.int .i64 b) ∧ (w8.alloc (.cells #[.int .i64 p, .int .i64 b, .slice A8 n8 c8, .int .i64 s] 24)).cell? ⟨x1, 2, none⟩ = some (.slice A n c) ∧ (w8.alloc (.cells #[.int .i64 p, .int .i64 b, .slice A8 n8 c8, .int .i64 s] 24)).cell? ⟨x1, 3, none⟩ = some (.int .i64 s) := ⟨(k8.alloc _).cell 0, (k8.alloc _).cell 1, (k8.alloc _).cell 2, (k8.alloc _).cell 3⟩; clear hown8 hg8 k8)
      | (refine stepM _ rfl (.tmp 15) (.tmp 17) rfl _ (.slice (some ⟨w2.heap.size, 0, none⟩) 0 0) [] rfl (by exact (OwnG.fresh w2 _ (Nat.le_refl _)).alloc _) w2.heap.size A c o n rfl (by exact (HR2.out.alloc (Nat.le_refl _) _).alloc (by simp) _) (by simp; omega) (by first | (simp; done) | (simp; omega)) ?_; intro A8 n8 c8 w8 hown8 hg8 _; have HO8 : Hid (OwnG w8 w2.heap.size (.slice A8 n8 c8) o) := Lib.hid (hown8.mono_ (by first | exact Nat.le_refl _ | (simp; done) | (simp; omega))); have HB8 : Hid (Below w2.heap.size w2 w8) := Lib.hid ((show Below w2.heap.size w2 _ from below_drewG (((Below.refl w2.heap.size w2).alloc (Nat.le_refl _) _).alloc (by simp) _) 1).grown hg8 (by first | (simp; done) | (simp; omega)) (fun g e => by simp [Value.ownBlock] at e; first | omega | (subst e; simp))); have KO : Hid (Blk w8 (w2.heap.size + 1) 24 #[.int .i64 0, .int .i64 0, .slice none 0 0, .int .i64 0]) := Lib.hid (by have := ((Blk.new (w2.alloc (.cells #[] 26)) 24 #[.int .i64 0, .int .i64 0, .slice none 0 0, .int .i64 0]).drewN 1).grown hg8 (fun e => by simp [Value.ownBlock] at e); simpa using this); have k8 := HE2.out.below HB8.out HE2.out.lt; have Z8 : (w8).cell? ⟨x1, 0, none⟩ = some (.int .i64 p) ∧ (w8).cell? ⟨x1, 1, none⟩ = some (.int .i64 b) ∧ (w8).cell? ⟨x1, 2, none⟩ = some (.slice A n c) ∧ (w8).cell? ⟨x1, 3, none⟩ = some (.int .i64 s) := ⟨k8.cell 0, k8.cell 1, k8.cell 2, k8.cell 3⟩; have fz0 : w8.frozen? ⟨w2.heap.size + 1, 0, none⟩ = false := KO.out.frozen 0; have fz1 : w8.frozen? ⟨w2.heap.size + 1, 1, none⟩ = false := KO.out.frozen 1; have fz2 : w8.frozen? ⟨w2.heap.size + 1, 2, none⟩ = false := KO.out.frozen 2; have fz3 : w8.frozen? ⟨w2.heap.size + 1, 3, none⟩ = false := KO.out.frozen 3; have xz0 : w8.cell? ⟨w2.heap.size + 1, 0, none⟩ = some (.int .i64 0) := KO.out.cell 0; have xz1 : w8.cell? ⟨w2.heap.size + 1, 1, none⟩ = some (.int .i64 0) := KO.out.cell 1; have xz2 : w8.cell? ⟨w2.heap.size + 1, 2, none⟩ = some (.slice none 0 0) := KO.out.cell 2; have xz3 : w8.cell? ⟨w2.heap.size + 1, 3, none⟩ = some (.int .i64 0) := KO.out.cell 3; have Z10 : (((((w8.setCell ⟨w2.heap.size + 1, 0, none⟩ (.int .i64 p)).setCell ⟨w2.heap.size + 1, 1, none⟩ (.int .i64 b)).setCell ⟨w2.heap.size + 1, 2, none⟩ (.slice A8 n8 c8)).setCell ⟨w2.heap.size + 1, 3, none⟩ (.int .i64 s))).cell? ⟨x1, 0, none⟩ = some (.int .i64 p) ∧ (((((w8.setCell ⟨w2.heap.size + 1, 0, none⟩ (.int .i64 p)).setCell ⟨w2.heap.size + 1, 1, none⟩ (.int .i64 b)).setCell ⟨w2.heap.size + 1, 2, none⟩ (.slice A8 n8 c8)).setCell ⟨w2.heap.size + 1, 3, none⟩ (.int .i64 s))).cell? ⟨x1, 1, none⟩ = some (.int .i64 b) ∧ (((((w8.setCell ⟨w2.heap.size + 1, 0, none⟩ (.int .i64 p)).setCell ⟨w2.heap.size + 1, 1, none⟩ (.int .i64 b)).setCell ⟨w2.heap.size + 1, 2, none⟩ (.slice A8 n8 c8)).setCell ⟨w2.heap.size + 1, 3, none⟩ (.int .i64 s))).cell? ⟨x1, 2, none⟩ = some (.slice A n c) ∧ (((((w8.setCell ⟨w2.heap.size + 1, 0, none⟩ (.int .i64 p)).setCell ⟨w2.heap.size + 1, 1, none⟩ (.int .i64 b)).setCell ⟨w2.heap.size + 1, 2, none⟩ (.slice A8 n8 c8)).setCell ⟨w2.heap.size + 1, 3, none⟩ (.int .i64 s))).cell? ⟨x1, 3, none⟩ = some (.int .i64 s) := (k8.far4 (show x1 ≠ (w2.heap.size + 1) from fun e => by have := HE2.out.lt; omega) (.int .i64 p) (.int .i64 b) (.slice A8 n8 c8) (.int .i64 s)); clear hown8 hg8 k8)
      | (refine stepM _ rfl (.tmp 15) (.tmp 17) rfl _ (.slice (some ⟨(w2.heap.size + 1), 0, none⟩) 0 0) [] rfl (by have hfr := OwnG.fresh (w2.alloc (.cells #[.int .i64 0, .int .i64 0, .slice none 0 0, .int .i64 0] 24)) _ (Nat.le_refl _); rw [World.size_alloc] at hfr; exact hfr) w2.heap.size A c o n rfl (by exact (HR2.out.alloc (Nat.le_refl _) _).alloc (by simp) _) (by simp; omega) (by first | (simp; done) | (simp; omega)) ?_; intro A8 n8 c8 w8 hown8 hg8 _; have HO8 : Hid (OwnG w8 w2.heap.size (.slice A8 n8 c8) o) := Lib.hid (hown8.mono_ (by first | exact Nat.le_refl _ | (simp; done) | (simp; omega))); have HB8 : Hid (Below w2.heap.size w2 w8) := Lib.hid ((show Below w2.heap.size w2 _ from below_drewG (((Below.refl w2.heap.size w2).alloc (Nat.le_refl _) _).alloc (by simp) _) 1).grown hg8 (by first | (simp; done) | (simp; omega)) (fun g e => by simp [Value.ownBlock] at e; first | omega | (subst e; simp))); have KO : Hid (Blk w8 w2.heap.size 24 #[.int .i64 0, .int .i64 0, .slice none 0 0, .int .i64 0]) := Lib.hid ((((Blk.new w2 24 #[.int .i64 0, .int .i64 0, .slice none 0 0, .int .i64 0]).alloc (.cells #[] 26)).drewN 1).grown hg8 (fun e => by simp [Value.ownBlock] at e)); have k8 := HE2.out.below HB8.out HE2.out.lt; have Z8 : (w8).cell? ⟨x1, 0, none⟩ = some (.int .i64 p) ∧ (w8).cell? ⟨x1, 1, none⟩ = some (.int .i64 b) ∧ (w8).cell? ⟨x1, 2, none⟩ = some (.slice A n c) ∧ (w8).cell? ⟨x1, 3, none⟩ = some (.int .i64 s) := ⟨k8.cell 0, k8.cell 1, k8.cell 2, k8.cell 3⟩; have fz0 : w8.frozen? ⟨w2.heap.size, 0, none⟩ = false := KO.out.frozen 0; have fz1 : w8.frozen? ⟨w2.heap.size, 1, none⟩ = false := KO.out.frozen 1; have fz2 : w8.frozen? ⟨w2.heap.size, 2, none⟩ = false := KO.out.frozen 2; have fz3 : w8.frozen? ⟨w2.heap.size, 3, none⟩ = false := KO.out.frozen 3; have xz0 : w8.cell? ⟨w2.heap.size, 0, none⟩ = some (.int .i64 0) := KO.out.cell 0; have xz1 : w8.cell? ⟨w2.heap.size, 1, none⟩ = some (.int .i64 0) := KO.out.cell 1; have xz2 : w8.cell? ⟨w2.heap.size, 2, none⟩ = some (.slice none 0 0) := KO.out.cell 2; have xz3 : w8.cell? ⟨w2.heap.size, 3, none⟩ = some (.int .i64 0) := KO.out.cell 3; have Z10 : (((((w8.setCell ⟨w2.heap.size, 0, none⟩ (.int .i64 p)).setCell ⟨w2.heap.size, 1, none⟩ (.int .i64 b)).setCell ⟨w2.heap.size, 2, none⟩ (.slice A8 n8 c8)).setCell ⟨w2.heap.size, 3, none⟩ (.int .i64 s))).cell? ⟨x1, 0, none⟩ = some (.int .i64 p) ∧ (((((w8.setCell ⟨w2.heap.size, 0, none⟩ (.int .i64 p)).setCell ⟨w2.heap.size, 1, none⟩ (.int .i64 b)).setCell ⟨w2.heap.size, 2, none⟩ (.slice A8 n8 c8)).setCell ⟨w2.heap.size, 3, none⟩ (.int .i64 s))).cell? ⟨x1, 1, none⟩ = some (.int .i64 b) ∧ (((((w8.setCell ⟨w2.heap.size, 0, none⟩ (.int .i64 p)).setCell ⟨w2.heap.size, 1, none⟩ (.int .i64 b)).setCell ⟨w2.heap.size, 2, none⟩ (.slice A8 n8 c8)).setCell ⟨w2.heap.size, 3, none⟩ (.int .i64 s))).cell? ⟨x1, 2, none⟩ = some (.slice A n c) ∧ (((((w8.setCell ⟨w2.heap.size, 0, none⟩ (.int .i64 p)).setCell ⟨w2.heap.size, 1, none⟩ (.int .i64 b)).setCell ⟨w2.heap.size, 2, none⟩ (.slice A8 n8 c8)).setCell ⟨w2.heap.size, 3, none⟩ (.int .i64 s))).cell? ⟨x1, 3, none⟩ = some (.int .i64 s) := (k8.far4 (show x1 ≠ w2.heap.size from fun e => by have := HE2.out.lt; omega) (.int .i64 p) (.int .i64 b) (.slice A8 n8 c8) (.int .i64 s)); clear hown8 hg8 k8)))
  · refine NoPanic.normal ?_
    obtain ⟨xo, hxo⟩ : ∃ x, x = w8.heap.size := ⟨_, rfl⟩
    obtain ⟨wX, hwX⟩ : ∃ v, v = w8.alloc (.cells #[.int .i64 p, .int .i64 b, .slice A8 n8 c8, .int .i64 s] 24) := ⟨_, rfl⟩
    have hbx : Below w8.heap.size w8 wX := hwX ▸ (Below.refl _ _).alloc (Nat.le_refl _) _
    have HXo : Hid (Blk wX xo 24 #[.int .i64 p, .int .i64 b, .slice A8 n8 c8, .int .i64 s]) := Lib.hid (by rw [hwX, hxo]; exact Blk.new w8 _ _)
    have HBX : Hid (Below w2.heap.size w2 wX) := Lib.hid (HB8.out.trans (hbx.mono HB8.out.size))
    have HOX : Hid (OwnG wX w2.heap.size (.slice A8 n8 c8) o) := Lib.hid (OwnG.below HO8.out hbx)
    have HXl : Hid (w2.heap.size ≤ xo) := Lib.hid (by rw [hxo]; exact HB8.out.size)
    rw [← hwX, ← hxo]
    clear hwX hxo hbx Z8 Z9 Z11
    have HEX := Lib.hid (HE2.out.below HBX.out HE2.out.lt)
    have HKX := Lib.hid (HK2.out.below HBX.out HK2.out.lt)
    have HBw := Lib.hid (HB2.out.trans (HBX.out.mono HB2.out.size))
    have HNo : Hid (xo ≠ x1 ∧ xo ≠ pr) := Lib.hid ⟨fun e => by have := HE2.out.lt; have := HXl.out; omega, fun e => by have := HK2.out.lt; have := HXl.out; omega⟩
    have exx := HEX.out
    have exo := HXo.out
    have u0 : wX.cell? ⟨x1, 0, none⟩ = some (.int .i64 p) := exx.cell 0
    have u1 : wX.cell? ⟨x1, 1, none⟩ = some (.int .i64 b) := exx.cell 1
    have u2 : wX.cell? ⟨x1, 2, none⟩ = some (.slice A n c) := exx.cell 2
    have u3 : wX.cell? ⟨x1, 3, none⟩ = some (.int .i64 s) := exx.cell 3
    have v0 : wX.cell? ⟨xo, 0, none⟩ = some (.int .i64 p) := exo.cell 0
    have v1 : wX.cell? ⟨xo, 1, none⟩ = some (.int .i64 b) := exo.cell 1
    have v2 : wX.cell? ⟨xo, 2, none⟩ = some (.slice A8 n8 c8) := exo.cell 2
    have v3 : wX.cell? ⟨xo, 3, none⟩ = some (.int .i64 s) := exo.cell 3
    have vf0 : wX.frozen? ⟨xo, 0, none⟩ = false := exo.frozen 0
    have vf1 : wX.frozen? ⟨xo, 1, none⟩ = false := exo.frozen 1
    have vf2 : wX.frozen? ⟨xo, 2, none⟩ = false := exo.frozen 2
    have vf3 : wX.frozen? ⟨xo, 3, none⟩ = false := exo.frozen 3
    clear exx exo Y0 Y1 Y2 Y3 Y4
    have hw : IntKind.i64.wrap (b + (n : Int)) = b + (n : Int) := IntWalk.i64_in _ (by omega)
    by_cases hn1 : b < a
    case neg =>
      have HS : Hid (r = (⟨p, b, o, s⟩, 0)) := Lib.hid (by rw [HP.out]; refine (if_pos HBe.out).trans (if_neg ?_); rintro ⟨h1, _⟩; exact hn1 h1)
      have t1 : decide (b < a) = false := decide_eq_false hn1
      have t2 : ¬ (a > b) := hn1
      have k2 := HKX.out
      have x0_ : wX.cell? ⟨pr, 0, none⟩ = some (.int .i64 0) := k2.cell 0
      have x1_ : wX.cell? ⟨pr, 1, none⟩ = some (.int .i64 0) := k2.cell 1
      have x2_ : wX.cell? ⟨pr, 2, none⟩ = some (.slice none 0 0) := k2.cell 2
      have x3_ : wX.cell? ⟨pr, 3, none⟩ = some (.int .i64 0) := k2.cell 3
      have f0_ : wX.frozen? ⟨pr, 0, none⟩ = false := k2.frozen 0
      have f1_ : wX.frozen? ⟨pr, 1, none⟩ = false := k2.frozen 1
      have f2_ : wX.frozen? ⟨pr, 2, none⟩ = false := k2.frozen 2
      have f3_ : wX.frozen? ⟨pr, 3, none⟩ = false := k2.frozen 3
      obtain ⟨w5, hw5, k5, hb5, ho5⟩ := edge_set k2 (.int .i64 p) (.int .i64 b) (.slice A8 n8 c8) (.int .i64 s)
      have HB5 := Lib.hid (hb5 w.heap.size w (by have := HPr.out; omega) HBw.out)
      have HW5 := Lib.hid hw5
      have HO5 := Lib.hid ho5
      have y0_ : w5.cell? ⟨pr, 0, none⟩ = some (.int .i64 p) := k5.cell 0
      have y1_ : w5.cell? ⟨pr, 1, none⟩ = some (.int .i64 b) := k5.cell 1
      have y2_ : w5.cell? ⟨pr, 2, none⟩ = some (.slice A8 n8 c8) := k5.cell 2
      have y3_ : w5.cell? ⟨pr, 3, none⟩ = some (.int .i64 s) := k5.cell 3
      have HOwn : Hid (OwnG w5 w.heap.size (.slice A8 n8 c8) o) := Lib.hid (OwnG.mono_ (l := o) (ho5 _ _ _ HOX.out (fun e => by have := ownG_base HOX.out _ e; have := HK2.out.lt; omega)) HB2.out.size)
      clear k2 hw5 k5 hb5 ho5
      go_wp2
      rw [← HW5.out]
      refine bodyPost_ret (v := .tuple #[.agg #[.int .i64 p, .int .i64 b, .slice A8 n8 c8, .int .i64 s], .int .i64 (0)]) (by simp [results, Try.f17, go_sem, y0_, y1_, y2_, y3_]) rfl ⟨.slice A8 n8 c8, ?_, ?_, HB5.out⟩
      · rw [HS.out]
      · rw [HS.out]; exact HOwn.out
    case pos =>
    have t1 : decide (b < a) = true := decide_eq_true hn1
    by_cases hn2 : a ≤ b + (n : Int)
    case neg =>
      have HS : Hid (r = (⟨p, b, o, s⟩, 0)) := Lib.hid (by rw [HP.out]; refine (if_pos HBe.out).trans (if_neg ?_); rintro ⟨_, h2⟩; simp only at h2; rw [HL.out] at h2; exact hn2 h2)
      have t2 : decide (a ≤ b + (n : Int)) = false := decide_eq_false hn2
      have k2 := HKX.out
      have x0_ : wX.cell? ⟨pr, 0, none⟩ = some (.int .i64 0) := k2.cell 0
      have x1_ : wX.cell? ⟨pr, 1, none⟩ = some (.int .i64 0) := k2.cell 1
      have x2_ : wX.cell? ⟨pr, 2, none⟩ = some (.slice none 0 0) := k2.cell 2
      have x3_ : wX.cell? ⟨pr, 3, none⟩ = some (.int .i64 0) := k2.cell 3
      have f0_ : wX.frozen? ⟨pr, 0, none⟩ = false := k2.frozen 0
      have f1_ : wX.frozen? ⟨pr, 1, none⟩ = false := k2.frozen 1
      have f2_ : wX.frozen? ⟨pr, 2, none⟩ = false := k2.frozen 2
      have f3_ : wX.frozen? ⟨pr, 3, none⟩ = false := k2.frozen 3
      obtain ⟨w5, hw5, k5, hb5, ho5⟩ := edge_set k2 (.int .i64 p) (.int .i64 b) (.slice A8 n8 c8) (.int .i64 s)
      have HB5 := Lib.hid (hb5 w.heap.size w (by have := HPr.out; omega) HBw.out)
      have HW5 := Lib.hid hw5
      have HO5 := Lib.hid ho5
      have y0_ : w5.cell? ⟨pr, 0, none⟩ = some (.int .i64 p) := k5.cell 0
      have y1_ : w5.cell? ⟨pr, 1, none⟩ = some (.int .i64 b) := k5.cell 1
      have y2_ : w5.cell? ⟨pr, 2, none⟩ = some (.slice A8 n8 c8) := k5.cell 2
      have y3_ : w5.cell? ⟨pr, 3, none⟩ = some (.int .i64 s) := k5.cell 3
      have HOwn : Hid (OwnG w5 w.heap.size (.slice A8 n8 c8) o) := Lib.hid (OwnG.mono_ (l := o) (ho5 _ _ _ HOX.out (fun e => by have := ownG_base HOX.out _ e; have := HK2.out.lt; omega)) HB2.out.size)
      clear k2 hw5 k5 hb5 ho5
      go_wp2
      rw [← HW5.out]
      refine bodyPost_ret (v := .tuple #[.agg #[.int .i64 p, .int .i64 b, .slice A8 n8 c8, .int .i64 s], .int .i64 (0)]) (by simp [results, Try.f17, go_sem, y0_, y1_, y2_, y3_]) rfl ⟨.slice A8 n8 c8, ?_, ?_, HB5.out⟩
      · rw [HS.out]
      · rw [HS.out]; exact HOwn.out
    case pos =>
    have t2 : decide (a ≤ b + (n : Int)) = true := decide_eq_true hn2
    obtain ⟨k, hk⟩ : ∃ k : Nat, k = (a - b).toNat := ⟨_, rfl⟩
    have hkb : IntKind.i64.wrap (a - b) = (k : Int) := by rw [IntWalk.i64_in _ (by omega)]; omega
    have hkn : k ≤ n := by omega
    have hnews : Hf.News ⟨p, b, o, s⟩ a := ⟨hn1, by show a ≤ b + (o.length : Int); rw [HL.out]; exact hn2⟩
    have HS : Hid (r = (⟨p, a, o.drop k, s⟩, 0)) := Lib.hid (by rw [HP.out]; unfold hheard; rw [if_pos HBe.out, if_pos hnews, hk]; rfl)
    clear hnews
    have cut : ∀ W : World, (Instr.slice 22 (.slice A n c) (some (.int .i64 (k : Int))) none none).run Try.prog W = .ok (.slice (if c = k then A else A.map (·.add (k * 5))) (n - k) (c - k)) W := fun W => run_cutM A n c k hkn W
    have HRc : Hid (Reads wX wX.heap.size 5 (if c = k then A else A.map (·.add (k * 5))) (n - k) (mgs (o.drop k))) := Lib.hid (by rw [mgs_drop]; exact Reads.cut ((HR2.out.below HBX.out).more HBX.out.size) hkn HCap.out)
    obtain ⟨A', hA'⟩ : ∃ z, z = (if c = k then A else A.map (·.add (k * 5))) := ⟨_, rfl⟩
    rw [← hA'] at HRc
    simp only [← hA'] at cut
    clear hA' hk
    have lX : xo < wX.heap.size := HXo.out.lt
    have lx1 : x1 < wX.heap.size := HEX.out.lt
    go_wp2_with (at_builtin; refine appME wX rfl (.tmp 36) (.tmp 43) rfl wX.heap.size rfl wX.heap.size A' (c - k) (o.drop k) (n - k) rfl HRc.out (Nat.le_refl _) (by omega) (Nat.le_refl _) ?_; intro v9 w9 ho9 hb9; obtain ⟨A9, n9, c9, rfl⟩ := ownG_slice ho9; have HO9 := Lib.hid ho9; have HB9 := Lib.hid hb9; have ko := HXo.out.below hb9 HXo.out.lt; have q0 : w9.cell? ⟨xo, 0, none⟩ = some (.int .i64 p) := ko.cell 0; have q1 : w9.cell? ⟨xo, 1, none⟩ = some (.int .i64 b) := ko.cell 1; have q2 : w9.cell? ⟨xo, 2, none⟩ = some (.slice A8 n8 c8) := ko.cell 2; have q3 : w9.cell? ⟨xo, 3, none⟩ = some (.int .i64 s) := ko.cell 3; have qf1 : w9.frozen? ⟨xo, 1, none⟩ = false := ko.frozen 1; have qf2 : w9.frozen? ⟨xo, 2, none⟩ = false := ko.frozen 2; have kpf := ((HKX.out.below hb9 HKX.out.lt).far (p := ⟨xo, 2, none⟩) (show pr ≠ xo from fun e => HNo.out.2 e.symm) (.slice A9 n9 c9)).far (p := ⟨xo, 1, none⟩) (show pr ≠ xo from fun e => HNo.out.2 e.symm) (.int .i64 a); have g_0 : ((w9.setCell ⟨xo, 2, none⟩ (.slice A9 n9 c9)).setCell ⟨xo, 1, none⟩ (.int .i64 a)).cell? ⟨pr, 0, none⟩ = some (.int .i64 0) := kpf.cell 0; have gf0 : ((w9.setCell ⟨xo, 2, none⟩ (.slice A9 n9 c9)).setCell ⟨xo, 1, none⟩ (.int .i64 a)).frozen? ⟨pr, 0, none⟩ = false := kpf.frozen 0; have g_1 : ((w9.setCell ⟨xo, 2, none⟩ (.slice A9 n9 c9)).setCell ⟨xo, 1, none⟩ (.int .i64 a)).cell? ⟨pr, 1, none⟩ = some (.int .i64 0) := kpf.cell 1; have gf1 : ((w9.setCell ⟨xo, 2, none⟩ (.slice A9 n9 c9)).setCell ⟨xo, 1, none⟩ (.int .i64 a)).frozen? ⟨pr, 1, none⟩ = false := kpf.frozen 1; have g_2 : ((w9.setCell ⟨xo, 2, none⟩ (.slice A9 n9 c9)).setCell ⟨xo, 1, none⟩ (.int .i64 a)).cell? ⟨pr, 2, none⟩ = some (.slice none 0 0) := kpf.cell 2; have gf2 : ((w9.setCell ⟨xo, 2, none⟩ (.slice A9 n9 c9)).setCell ⟨xo, 1, none⟩ (.int .i64 a)).frozen? ⟨pr, 2, none⟩ = false := kpf.frozen 2; have g_3 : ((w9.setCell ⟨xo, 2, none⟩ (.slice A9 n9 c9)).setCell ⟨xo, 1, none⟩ (.int .i64 a)).cell? ⟨pr, 3, none⟩ = some (.int .i64 0) := kpf.cell 3; have gf3 : ((w9.setCell ⟨xo, 2, none⟩ (.slice A9 n9 c9)).setCell ⟨xo, 1, none⟩ (.int .i64 a)).frozen? ⟨pr, 3, none⟩ = false := kpf.frozen 3; obtain ⟨w5, hw5, k5, hb5, ho5⟩ := edge_set kpf (.int .i64 p) (.int .i64 a) (.slice A9 n9 c9) (.int .i64 s); have HB5 := Lib.hid (hb5 w.heap.size w (by have := HPr.out; omega) (below_setG (below_setG (HBw.out.trans (hb9.mono HBw.out.size)) (by have := HXl.out; have := HB2.out.size; omega) 2 _) (by have := HXl.out; have := HB2.out.size; omega) 1 _)); have HOwn : Hid (OwnG w5 w.heap.size (.slice A9 n9 c9) (o.drop k)) := Lib.hid (OwnG.mono_ (l := o.drop k) (ho5 _ _ _ (own_set_far (own_set_far ho9 (by have := HXo.out.lt; omega) 2 _) (by have := HXo.out.lt; omega) 1 _) (fun e => by have := ownG_base ho9 _ e; have := HKX.out.lt; omega)) (by have := HBw.out.size; omega)); have HW5 := Lib.hid hw5; have y0_ : w5.cell? ⟨pr, 0, none⟩ = some (.int .i64 p) := k5.cell 0; have y1_ : w5.cell? ⟨pr, 1, none⟩ = some (.int .i64 a) := k5.cell 1; have y2_ : w5.cell? ⟨pr, 2, none⟩ = some (.slice A9 n9 c9) := k5.cell 2; have y3_ : w5.cell? ⟨pr, 3, none⟩ = some (.int .i64 s) := k5.cell 3; clear ho9 hb9 ko kpf hw5 k5 hb5 ho5)
    go_wp2
    rw [← HW5.out]
    refine bodyPost_ret (v := .tuple #[.agg #[.int .i64 p, .int .i64 a, .slice A9 n9 c9, .int .i64 s], .int .i64 0]) (by simp [results, Try.f17, go_sem, y0_, y1_, y2_, y3_]) rfl ⟨.slice A9 n9 c9, ?_, ?_, HB5.out⟩
    · rw [HS.out]
    · rw [HS.out]; exact HOwn.out
  · refine NoPanic.normal ?_
    obtain ⟨xo, hxo⟩ : ∃ x, x = w2.heap.size + 1 := ⟨_, rfl⟩
    rw [← hxo]
    rw [← hxo] at KO
    obtain ⟨wX, hwX, kX, hbX, hoX⟩ := edge_set KO.out (.int .i64 p) (.int .i64 b) (.slice A8 n8 c8) (.int .i64 s)
    have HXo := Lib.hid kX
    have HBX : Hid (Below w2.heap.size w2 wX) := Lib.hid (hbX _ _ (by omega) HB8.out)
    have HOX : Hid (OwnG wX w2.heap.size (.slice A8 n8 c8) o) := Lib.hid (hoX _ _ _ HO8.out (fun e => own_two_blk HO8.out KO.out e))
    have HXl : Hid (w2.heap.size ≤ xo) := Lib.hid (by omega)
    rw [← hwX]
    clear hwX hxo kX hbX hoX Z8 Z10 fz0 fz1 fz2 fz3 xz0 xz1 xz2 xz3
    have HEX := Lib.hid (HE2.out.below HBX.out HE2.out.lt)
    have HKX := Lib.hid (HK2.out.below HBX.out HK2.out.lt)
    have HBw := Lib.hid (HB2.out.trans (HBX.out.mono HB2.out.size))
    have HNo : Hid (xo ≠ x1 ∧ xo ≠ pr) := Lib.hid ⟨fun e => by have := HE2.out.lt; have := HXl.out; omega, fun e => by have := HK2.out.lt; have := HXl.out; omega⟩
    have exx := HEX.out
    have exo := HXo.out
    have u0 : wX.cell? ⟨x1, 0, none⟩ = some (.int .i64 p) := exx.cell 0
    have u1 : wX.cell? ⟨x1, 1, none⟩ = some (.int .i64 b) := exx.cell 1
    have u2 : wX.cell? ⟨x1, 2, none⟩ = some (.slice A n c) := exx.cell 2
    have u3 : wX.cell? ⟨x1, 3, none⟩ = some (.int .i64 s) := exx.cell 3
    have v0 : wX.cell? ⟨xo, 0, none⟩ = some (.int .i64 p) := exo.cell 0
    have v1 : wX.cell? ⟨xo, 1, none⟩ = some (.int .i64 b) := exo.cell 1
    have v2 : wX.cell? ⟨xo, 2, none⟩ = some (.slice A8 n8 c8) := exo.cell 2
    have v3 : wX.cell? ⟨xo, 3, none⟩ = some (.int .i64 s) := exo.cell 3
    have vf0 : wX.frozen? ⟨xo, 0, none⟩ = false := exo.frozen 0
    have vf1 : wX.frozen? ⟨xo, 1, none⟩ = false := exo.frozen 1
    have vf2 : wX.frozen? ⟨xo, 2, none⟩ = false := exo.frozen 2
    have vf3 : wX.frozen? ⟨xo, 3, none⟩ = false := exo.frozen 3
    clear exx exo Y0 Y1 Y2 Y3 Y4
    have hw : IntKind.i64.wrap (b + (n : Int)) = b + (n : Int) := IntWalk.i64_in _ (by omega)
    by_cases hn1 : b < a
    case neg =>
      have HS : Hid (r = (⟨p, b, o, s⟩, 0)) := Lib.hid (by rw [HP.out]; refine (if_pos HBe.out).trans (if_neg ?_); rintro ⟨h1, _⟩; exact hn1 h1)
      have t1 : decide (b < a) = false := decide_eq_false hn1
      have t2 : ¬ (a > b) := hn1
      have k2 := HKX.out
      have x0_ : wX.cell? ⟨pr, 0, none⟩ = some (.int .i64 0) := k2.cell 0
      have x1_ : wX.cell? ⟨pr, 1, none⟩ = some (.int .i64 0) := k2.cell 1
      have x2_ : wX.cell? ⟨pr, 2, none⟩ = some (.slice none 0 0) := k2.cell 2
      have x3_ : wX.cell? ⟨pr, 3, none⟩ = some (.int .i64 0) := k2.cell 3
      have f0_ : wX.frozen? ⟨pr, 0, none⟩ = false := k2.frozen 0
      have f1_ : wX.frozen? ⟨pr, 1, none⟩ = false := k2.frozen 1
      have f2_ : wX.frozen? ⟨pr, 2, none⟩ = false := k2.frozen 2
      have f3_ : wX.frozen? ⟨pr, 3, none⟩ = false := k2.frozen 3
      obtain ⟨w5, hw5, k5, hb5, ho5⟩ := edge_set k2 (.int .i64 p) (.int .i64 b) (.slice A8 n8 c8) (.int .i64 s)
      have HB5 := Lib.hid (hb5 w.heap.size w (by have := HPr.out; omega) HBw.out)
      have HW5 := Lib.hid hw5
      have HO5 := Lib.hid ho5
      have y0_ : w5.cell? ⟨pr, 0, none⟩ = some (.int .i64 p) := k5.cell 0
      have y1_ : w5.cell? ⟨pr, 1, none⟩ = some (.int .i64 b) := k5.cell 1
      have y2_ : w5.cell? ⟨pr, 2, none⟩ = some (.slice A8 n8 c8) := k5.cell 2
      have y3_ : w5.cell? ⟨pr, 3, none⟩ = some (.int .i64 s) := k5.cell 3
      have HOwn : Hid (OwnG w5 w.heap.size (.slice A8 n8 c8) o) := Lib.hid (OwnG.mono_ (l := o) (ho5 _ _ _ HOX.out (fun e => by have := ownG_base HOX.out _ e; have := HK2.out.lt; omega)) HB2.out.size)
      clear k2 hw5 k5 hb5 ho5
      go_wp2
      rw [← HW5.out]
      refine bodyPost_ret (v := .tuple #[.agg #[.int .i64 p, .int .i64 b, .slice A8 n8 c8, .int .i64 s], .int .i64 (0)]) (by simp [results, Try.f17, go_sem, y0_, y1_, y2_, y3_]) rfl ⟨.slice A8 n8 c8, ?_, ?_, HB5.out⟩
      · rw [HS.out]
      · rw [HS.out]; exact HOwn.out
    case pos =>
    have t1 : decide (b < a) = true := decide_eq_true hn1
    by_cases hn2 : a ≤ b + (n : Int)
    case neg =>
      have HS : Hid (r = (⟨p, b, o, s⟩, 0)) := Lib.hid (by rw [HP.out]; refine (if_pos HBe.out).trans (if_neg ?_); rintro ⟨_, h2⟩; simp only at h2; rw [HL.out] at h2; exact hn2 h2)
      have t2 : decide (a ≤ b + (n : Int)) = false := decide_eq_false hn2
      have k2 := HKX.out
      have x0_ : wX.cell? ⟨pr, 0, none⟩ = some (.int .i64 0) := k2.cell 0
      have x1_ : wX.cell? ⟨pr, 1, none⟩ = some (.int .i64 0) := k2.cell 1
      have x2_ : wX.cell? ⟨pr, 2, none⟩ = some (.slice none 0 0) := k2.cell 2
      have x3_ : wX.cell? ⟨pr, 3, none⟩ = some (.int .i64 0) := k2.cell 3
      have f0_ : wX.frozen? ⟨pr, 0, none⟩ = false := k2.frozen 0
      have f1_ : wX.frozen? ⟨pr, 1, none⟩ = false := k2.frozen 1
      have f2_ : wX.frozen? ⟨pr, 2, none⟩ = false := k2.frozen 2
      have f3_ : wX.frozen? ⟨pr, 3, none⟩ = false := k2.frozen 3
      obtain ⟨w5, hw5, k5, hb5, ho5⟩ := edge_set k2 (.int .i64 p) (.int .i64 b) (.slice A8 n8 c8) (.int .i64 s)
      have HB5 := Lib.hid (hb5 w.heap.size w (by have := HPr.out; omega) HBw.out)
      have HW5 := Lib.hid hw5
      have HO5 := Lib.hid ho5
      have y0_ : w5.cell? ⟨pr, 0, none⟩ = some (.int .i64 p) := k5.cell 0
      have y1_ : w5.cell? ⟨pr, 1, none⟩ = some (.int .i64 b) := k5.cell 1
      have y2_ : w5.cell? ⟨pr, 2, none⟩ = some (.slice A8 n8 c8) := k5.cell 2
      have y3_ : w5.cell? ⟨pr, 3, none⟩ = some (.int .i64 s) := k5.cell 3
      have HOwn : Hid (OwnG w5 w.heap.size (.slice A8 n8 c8) o) := Lib.hid (OwnG.mono_ (l := o) (ho5 _ _ _ HOX.out (fun e => by have := ownG_base HOX.out _ e; have := HK2.out.lt; omega)) HB2.out.size)
      clear k2 hw5 k5 hb5 ho5
      go_wp2
      rw [← HW5.out]
      refine bodyPost_ret (v := .tuple #[.agg #[.int .i64 p, .int .i64 b, .slice A8 n8 c8, .int .i64 s], .int .i64 (0)]) (by simp [results, Try.f17, go_sem, y0_, y1_, y2_, y3_]) rfl ⟨.slice A8 n8 c8, ?_, ?_, HB5.out⟩
      · rw [HS.out]
      · rw [HS.out]; exact HOwn.out
    case pos =>
    have t2 : decide (a ≤ b + (n : Int)) = true := decide_eq_true hn2
    obtain ⟨k, hk⟩ : ∃ k : Nat, k = (a - b).toNat := ⟨_, rfl⟩
    have hkb : IntKind.i64.wrap (a - b) = (k : Int) := by rw [IntWalk.i64_in _ (by omega)]; omega
    have hkn : k ≤ n := by omega
    have hnews : Hf.News ⟨p, b, o, s⟩ a := ⟨hn1, by show a ≤ b + (o.length : Int); rw [HL.out]; exact hn2⟩
    have HS : Hid (r = (⟨p, a, o.drop k, s⟩, 0)) := Lib.hid (by rw [HP.out]; unfold hheard; rw [if_pos HBe.out, if_pos hnews, hk]; rfl)
    clear hnews
    have cut : ∀ W : World, (Instr.slice 22 (.slice A n c) (some (.int .i64 (k : Int))) none none).run Try.prog W = .ok (.slice (if c = k then A else A.map (·.add (k * 5))) (n - k) (c - k)) W := fun W => run_cutM A n c k hkn W
    have HRc : Hid (Reads wX wX.heap.size 5 (if c = k then A else A.map (·.add (k * 5))) (n - k) (mgs (o.drop k))) := Lib.hid (by rw [mgs_drop]; exact Reads.cut ((HR2.out.below HBX.out).more HBX.out.size) hkn HCap.out)
    obtain ⟨A', hA'⟩ : ∃ z, z = (if c = k then A else A.map (·.add (k * 5))) := ⟨_, rfl⟩
    rw [← hA'] at HRc
    simp only [← hA'] at cut
    clear hA' hk
    have lX : xo < wX.heap.size := HXo.out.lt
    have lx1 : x1 < wX.heap.size := HEX.out.lt
    go_wp2_with (at_builtin; refine appME wX rfl (.tmp 36) (.tmp 43) rfl wX.heap.size rfl wX.heap.size A' (c - k) (o.drop k) (n - k) rfl HRc.out (Nat.le_refl _) (by omega) (Nat.le_refl _) ?_; intro v9 w9 ho9 hb9; obtain ⟨A9, n9, c9, rfl⟩ := ownG_slice ho9; have HO9 := Lib.hid ho9; have HB9 := Lib.hid hb9; have ko := HXo.out.below hb9 HXo.out.lt; have q0 : w9.cell? ⟨xo, 0, none⟩ = some (.int .i64 p) := ko.cell 0; have q1 : w9.cell? ⟨xo, 1, none⟩ = some (.int .i64 b) := ko.cell 1; have q2 : w9.cell? ⟨xo, 2, none⟩ = some (.slice A8 n8 c8) := ko.cell 2; have q3 : w9.cell? ⟨xo, 3, none⟩ = some (.int .i64 s) := ko.cell 3; have qf1 : w9.frozen? ⟨xo, 1, none⟩ = false := ko.frozen 1; have qf2 : w9.frozen? ⟨xo, 2, none⟩ = false := ko.frozen 2; have kpf := ((HKX.out.below hb9 HKX.out.lt).far (p := ⟨xo, 2, none⟩) (show pr ≠ xo from fun e => HNo.out.2 e.symm) (.slice A9 n9 c9)).far (p := ⟨xo, 1, none⟩) (show pr ≠ xo from fun e => HNo.out.2 e.symm) (.int .i64 a); have g_0 : ((w9.setCell ⟨xo, 2, none⟩ (.slice A9 n9 c9)).setCell ⟨xo, 1, none⟩ (.int .i64 a)).cell? ⟨pr, 0, none⟩ = some (.int .i64 0) := kpf.cell 0; have gf0 : ((w9.setCell ⟨xo, 2, none⟩ (.slice A9 n9 c9)).setCell ⟨xo, 1, none⟩ (.int .i64 a)).frozen? ⟨pr, 0, none⟩ = false := kpf.frozen 0; have g_1 : ((w9.setCell ⟨xo, 2, none⟩ (.slice A9 n9 c9)).setCell ⟨xo, 1, none⟩ (.int .i64 a)).cell? ⟨pr, 1, none⟩ = some (.int .i64 0) := kpf.cell 1; have gf1 : ((w9.setCell ⟨xo, 2, none⟩ (.slice A9 n9 c9)).setCell ⟨xo, 1, none⟩ (.int .i64 a)).frozen? ⟨pr, 1, none⟩ = false := kpf.frozen 1; have g_2 : ((w9.setCell ⟨xo, 2, none⟩ (.slice A9 n9 c9)).setCell ⟨xo, 1, none⟩ (.int .i64 a)).cell? ⟨pr, 2, none⟩ = some (.slice none 0 0) := kpf.cell 2; have gf2 : ((w9.setCell ⟨xo, 2, none⟩ (.slice A9 n9 c9)).setCell ⟨xo, 1, none⟩ (.int .i64 a)).frozen? ⟨pr, 2, none⟩ = false := kpf.frozen 2; have g_3 : ((w9.setCell ⟨xo, 2, none⟩ (.slice A9 n9 c9)).setCell ⟨xo, 1, none⟩ (.int .i64 a)).cell? ⟨pr, 3, none⟩ = some (.int .i64 0) := kpf.cell 3; have gf3 : ((w9.setCell ⟨xo, 2, none⟩ (.slice A9 n9 c9)).setCell ⟨xo, 1, none⟩ (.int .i64 a)).frozen? ⟨pr, 3, none⟩ = false := kpf.frozen 3; obtain ⟨w5, hw5, k5, hb5, ho5⟩ := edge_set kpf (.int .i64 p) (.int .i64 a) (.slice A9 n9 c9) (.int .i64 s); have HB5 := Lib.hid (hb5 w.heap.size w (by have := HPr.out; omega) (below_setG (below_setG (HBw.out.trans (hb9.mono HBw.out.size)) (by have := HXl.out; have := HB2.out.size; omega) 2 _) (by have := HXl.out; have := HB2.out.size; omega) 1 _)); have HOwn : Hid (OwnG w5 w.heap.size (.slice A9 n9 c9) (o.drop k)) := Lib.hid (OwnG.mono_ (l := o.drop k) (ho5 _ _ _ (own_set_far (own_set_far ho9 (by have := HXo.out.lt; omega) 2 _) (by have := HXo.out.lt; omega) 1 _) (fun e => by have := ownG_base ho9 _ e; have := HKX.out.lt; omega)) (by have := HBw.out.size; omega)); have HW5 := Lib.hid hw5; have y0_ : w5.cell? ⟨pr, 0, none⟩ = some (.int .i64 p) := k5.cell 0; have y1_ : w5.cell? ⟨pr, 1, none⟩ = some (.int .i64 a) := k5.cell 1; have y2_ : w5.cell? ⟨pr, 2, none⟩ = some (.slice A9 n9 c9) := k5.cell 2; have y3_ : w5.cell? ⟨pr, 3, none⟩ = some (.int .i64 s) := k5.cell 3; clear ho9 hb9 ko kpf hw5 k5 hb5 ho5)
    go_wp2
    rw [← HW5.out]
    refine bodyPost_ret (v := .tuple #[.agg #[.int .i64 p, .int .i64 a, .slice A9 n9 c9, .int .i64 s], .int .i64 0]) (by simp [results, Try.f17, go_sem, y0_, y1_, y2_, y3_]) rfl ⟨.slice A9 n9 c9, ?_, ?_, HB5.out⟩
    · rw [HS.out]
    · rw [HS.out]; exact HOwn.out
  · refine NoPanic.normal ?_
    obtain ⟨xo, hxo⟩ : ∃ x, x = w2.heap.size := ⟨_, rfl⟩
    rw [← hxo]
    rw [← hxo] at KO
    obtain ⟨wX, hwX, kX, hbX, hoX⟩ := edge_set KO.out (.int .i64 p) (.int .i64 b) (.slice A8 n8 c8) (.int .i64 s)
    have HXo := Lib.hid kX
    have HBX : Hid (Below w2.heap.size w2 wX) := Lib.hid (hbX _ _ (by omega) HB8.out)
    have HOX : Hid (OwnG wX w2.heap.size (.slice A8 n8 c8) o) := Lib.hid (hoX _ _ _ HO8.out (fun e => own_two_blk HO8.out KO.out e))
    have HXl : Hid (w2.heap.size ≤ xo) := Lib.hid (by omega)
    rw [← hwX]
    clear hwX hxo kX hbX hoX Z8 Z10 fz0 fz1 fz2 fz3 xz0 xz1 xz2 xz3
    have HEX := Lib.hid (HE2.out.below HBX.out HE2.out.lt)
    have HKX := Lib.hid (HK2.out.below HBX.out HK2.out.lt)
    have HBw := Lib.hid (HB2.out.trans (HBX.out.mono HB2.out.size))
    have HNo : Hid (xo ≠ x1 ∧ xo ≠ pr) := Lib.hid ⟨fun e => by have := HE2.out.lt; have := HXl.out; omega, fun e => by have := HK2.out.lt; have := HXl.out; omega⟩
    have exx := HEX.out
    have exo := HXo.out
    have u0 : wX.cell? ⟨x1, 0, none⟩ = some (.int .i64 p) := exx.cell 0
    have u1 : wX.cell? ⟨x1, 1, none⟩ = some (.int .i64 b) := exx.cell 1
    have u2 : wX.cell? ⟨x1, 2, none⟩ = some (.slice A n c) := exx.cell 2
    have u3 : wX.cell? ⟨x1, 3, none⟩ = some (.int .i64 s) := exx.cell 3
    have v0 : wX.cell? ⟨xo, 0, none⟩ = some (.int .i64 p) := exo.cell 0
    have v1 : wX.cell? ⟨xo, 1, none⟩ = some (.int .i64 b) := exo.cell 1
    have v2 : wX.cell? ⟨xo, 2, none⟩ = some (.slice A8 n8 c8) := exo.cell 2
    have v3 : wX.cell? ⟨xo, 3, none⟩ = some (.int .i64 s) := exo.cell 3
    have vf0 : wX.frozen? ⟨xo, 0, none⟩ = false := exo.frozen 0
    have vf1 : wX.frozen? ⟨xo, 1, none⟩ = false := exo.frozen 1
    have vf2 : wX.frozen? ⟨xo, 2, none⟩ = false := exo.frozen 2
    have vf3 : wX.frozen? ⟨xo, 3, none⟩ = false := exo.frozen 3
    clear exx exo Y0 Y1 Y2 Y3 Y4
    have hw : IntKind.i64.wrap (b + (n : Int)) = b + (n : Int) := IntWalk.i64_in _ (by omega)
    by_cases hn1 : b < a
    case neg =>
      have HS : Hid (r = (⟨p, b, o, s⟩, 0)) := Lib.hid (by rw [HP.out]; refine (if_pos HBe.out).trans (if_neg ?_); rintro ⟨h1, _⟩; exact hn1 h1)
      have t1 : decide (b < a) = false := decide_eq_false hn1
      have t2 : ¬ (a > b) := hn1
      have k2 := HKX.out
      have x0_ : wX.cell? ⟨pr, 0, none⟩ = some (.int .i64 0) := k2.cell 0
      have x1_ : wX.cell? ⟨pr, 1, none⟩ = some (.int .i64 0) := k2.cell 1
      have x2_ : wX.cell? ⟨pr, 2, none⟩ = some (.slice none 0 0) := k2.cell 2
      have x3_ : wX.cell? ⟨pr, 3, none⟩ = some (.int .i64 0) := k2.cell 3
      have f0_ : wX.frozen? ⟨pr, 0, none⟩ = false := k2.frozen 0
      have f1_ : wX.frozen? ⟨pr, 1, none⟩ = false := k2.frozen 1
      have f2_ : wX.frozen? ⟨pr, 2, none⟩ = false := k2.frozen 2
      have f3_ : wX.frozen? ⟨pr, 3, none⟩ = false := k2.frozen 3
      obtain ⟨w5, hw5, k5, hb5, ho5⟩ := edge_set k2 (.int .i64 p) (.int .i64 b) (.slice A8 n8 c8) (.int .i64 s)
      have HB5 := Lib.hid (hb5 w.heap.size w (by have := HPr.out; omega) HBw.out)
      have HW5 := Lib.hid hw5
      have HO5 := Lib.hid ho5
      have y0_ : w5.cell? ⟨pr, 0, none⟩ = some (.int .i64 p) := k5.cell 0
      have y1_ : w5.cell? ⟨pr, 1, none⟩ = some (.int .i64 b) := k5.cell 1
      have y2_ : w5.cell? ⟨pr, 2, none⟩ = some (.slice A8 n8 c8) := k5.cell 2
      have y3_ : w5.cell? ⟨pr, 3, none⟩ = some (.int .i64 s) := k5.cell 3
      have HOwn : Hid (OwnG w5 w.heap.size (.slice A8 n8 c8) o) := Lib.hid (OwnG.mono_ (l := o) (ho5 _ _ _ HOX.out (fun e => by have := ownG_base HOX.out _ e; have := HK2.out.lt; omega)) HB2.out.size)
      clear k2 hw5 k5 hb5 ho5
      go_wp2
      rw [← HW5.out]
      refine bodyPost_ret (v := .tuple #[.agg #[.int .i64 p, .int .i64 b, .slice A8 n8 c8, .int .i64 s], .int .i64 (0)]) (by simp [results, Try.f17, go_sem, y0_, y1_, y2_, y3_]) rfl ⟨.slice A8 n8 c8, ?_, ?_, HB5.out⟩
      · rw [HS.out]
      · rw [HS.out]; exact HOwn.out
    case pos =>
    have t1 : decide (b < a) = true := decide_eq_true hn1
    by_cases hn2 : a ≤ b + (n : Int)
    case neg =>
      have HS : Hid (r = (⟨p, b, o, s⟩, 0)) := Lib.hid (by rw [HP.out]; refine (if_pos HBe.out).trans (if_neg ?_); rintro ⟨_, h2⟩; simp only at h2; rw [HL.out] at h2; exact hn2 h2)
      have t2 : decide (a ≤ b + (n : Int)) = false := decide_eq_false hn2
      have k2 := HKX.out
      have x0_ : wX.cell? ⟨pr, 0, none⟩ = some (.int .i64 0) := k2.cell 0
      have x1_ : wX.cell? ⟨pr, 1, none⟩ = some (.int .i64 0) := k2.cell 1
      have x2_ : wX.cell? ⟨pr, 2, none⟩ = some (.slice none 0 0) := k2.cell 2
      have x3_ : wX.cell? ⟨pr, 3, none⟩ = some (.int .i64 0) := k2.cell 3
      have f0_ : wX.frozen? ⟨pr, 0, none⟩ = false := k2.frozen 0
      have f1_ : wX.frozen? ⟨pr, 1, none⟩ = false := k2.frozen 1
      have f2_ : wX.frozen? ⟨pr, 2, none⟩ = false := k2.frozen 2
      have f3_ : wX.frozen? ⟨pr, 3, none⟩ = false := k2.frozen 3
      obtain ⟨w5, hw5, k5, hb5, ho5⟩ := edge_set k2 (.int .i64 p) (.int .i64 b) (.slice A8 n8 c8) (.int .i64 s)
      have HB5 := Lib.hid (hb5 w.heap.size w (by have := HPr.out; omega) HBw.out)
      have HW5 := Lib.hid hw5
      have HO5 := Lib.hid ho5
      have y0_ : w5.cell? ⟨pr, 0, none⟩ = some (.int .i64 p) := k5.cell 0
      have y1_ : w5.cell? ⟨pr, 1, none⟩ = some (.int .i64 b) := k5.cell 1
      have y2_ : w5.cell? ⟨pr, 2, none⟩ = some (.slice A8 n8 c8) := k5.cell 2
      have y3_ : w5.cell? ⟨pr, 3, none⟩ = some (.int .i64 s) := k5.cell 3
      have HOwn : Hid (OwnG w5 w.heap.size (.slice A8 n8 c8) o) := Lib.hid (OwnG.mono_ (l := o) (ho5 _ _ _ HOX.out (fun e => by have := ownG_base HOX.out _ e; have := HK2.out.lt; omega)) HB2.out.size)
      clear k2 hw5 k5 hb5 ho5
      go_wp2
      rw [← HW5.out]
      refine bodyPost_ret (v := .tuple #[.agg #[.int .i64 p, .int .i64 b, .slice A8 n8 c8, .int .i64 s], .int .i64 (0)]) (by simp [results, Try.f17, go_sem, y0_, y1_, y2_, y3_]) rfl ⟨.slice A8 n8 c8, ?_, ?_, HB5.out⟩
      · rw [HS.out]
      · rw [HS.out]; exact HOwn.out
    case pos =>
    have t2 : decide (a ≤ b + (n : Int)) = true := decide_eq_true hn2
    obtain ⟨k, hk⟩ : ∃ k : Nat, k = (a - b).toNat := ⟨_, rfl⟩
    have hkb : IntKind.i64.wrap (a - b) = (k : Int) := by rw [IntWalk.i64_in _ (by omega)]; omega
    have hkn : k ≤ n := by omega
    have hnews : Hf.News ⟨p, b, o, s⟩ a := ⟨hn1, by show a ≤ b + (o.length : Int); rw [HL.out]; exact hn2⟩
    have HS : Hid (r = (⟨p, a, o.drop k, s⟩, 0)) := Lib.hid (by rw [HP.out]; unfold hheard; rw [if_pos HBe.out, if_pos hnews, hk]; rfl)
    clear hnews
    have cut : ∀ W : World, (Instr.slice 22 (.slice A n c) (some (.int .i64 (k : Int))) none none).run Try.prog W = .ok (.slice (if c = k then A else A.map (·.add (k * 5))) (n - k) (c - k)) W := fun W => run_cutM A n c k hkn W
    have HRc : Hid (Reads wX wX.heap.size 5 (if c = k then A else A.map (·.add (k * 5))) (n - k) (mgs (o.drop k))) := Lib.hid (by rw [mgs_drop]; exact Reads.cut ((HR2.out.below HBX.out).more HBX.out.size) hkn HCap.out)
    obtain ⟨A', hA'⟩ : ∃ z, z = (if c = k then A else A.map (·.add (k * 5))) := ⟨_, rfl⟩
    rw [← hA'] at HRc
    simp only [← hA'] at cut
    clear hA' hk
    have lX : xo < wX.heap.size := HXo.out.lt
    have lx1 : x1 < wX.heap.size := HEX.out.lt
    go_wp2_with (at_builtin; refine appME wX rfl (.tmp 36) (.tmp 43) rfl wX.heap.size rfl wX.heap.size A' (c - k) (o.drop k) (n - k) rfl HRc.out (Nat.le_refl _) (by omega) (Nat.le_refl _) ?_; intro v9 w9 ho9 hb9; obtain ⟨A9, n9, c9, rfl⟩ := ownG_slice ho9; have HO9 := Lib.hid ho9; have HB9 := Lib.hid hb9; have ko := HXo.out.below hb9 HXo.out.lt; have q0 : w9.cell? ⟨xo, 0, none⟩ = some (.int .i64 p) := ko.cell 0; have q1 : w9.cell? ⟨xo, 1, none⟩ = some (.int .i64 b) := ko.cell 1; have q2 : w9.cell? ⟨xo, 2, none⟩ = some (.slice A8 n8 c8) := ko.cell 2; have q3 : w9.cell? ⟨xo, 3, none⟩ = some (.int .i64 s) := ko.cell 3; have qf1 : w9.frozen? ⟨xo, 1, none⟩ = false := ko.frozen 1; have qf2 : w9.frozen? ⟨xo, 2, none⟩ = false := ko.frozen 2; have kpf := ((HKX.out.below hb9 HKX.out.lt).far (p := ⟨xo, 2, none⟩) (show pr ≠ xo from fun e => HNo.out.2 e.symm) (.slice A9 n9 c9)).far (p := ⟨xo, 1, none⟩) (show pr ≠ xo from fun e => HNo.out.2 e.symm) (.int .i64 a); have g_0 : ((w9.setCell ⟨xo, 2, none⟩ (.slice A9 n9 c9)).setCell ⟨xo, 1, none⟩ (.int .i64 a)).cell? ⟨pr, 0, none⟩ = some (.int .i64 0) := kpf.cell 0; have gf0 : ((w9.setCell ⟨xo, 2, none⟩ (.slice A9 n9 c9)).setCell ⟨xo, 1, none⟩ (.int .i64 a)).frozen? ⟨pr, 0, none⟩ = false := kpf.frozen 0; have g_1 : ((w9.setCell ⟨xo, 2, none⟩ (.slice A9 n9 c9)).setCell ⟨xo, 1, none⟩ (.int .i64 a)).cell? ⟨pr, 1, none⟩ = some (.int .i64 0) := kpf.cell 1; have gf1 : ((w9.setCell ⟨xo, 2, none⟩ (.slice A9 n9 c9)).setCell ⟨xo, 1, none⟩ (.int .i64 a)).frozen? ⟨pr, 1, none⟩ = false := kpf.frozen 1; have g_2 : ((w9.setCell ⟨xo, 2, none⟩ (.slice A9 n9 c9)).setCell ⟨xo, 1, none⟩ (.int .i64 a)).cell? ⟨pr, 2, none⟩ = some (.slice none 0 0) := kpf.cell 2; have gf2 : ((w9.setCell ⟨xo, 2, none⟩ (.slice A9 n9 c9)).setCell ⟨xo, 1, none⟩ (.int .i64 a)).frozen? ⟨pr, 2, none⟩ = false := kpf.frozen 2; have g_3 : ((w9.setCell ⟨xo, 2, none⟩ (.slice A9 n9 c9)).setCell ⟨xo, 1, none⟩ (.int .i64 a)).cell? ⟨pr, 3, none⟩ = some (.int .i64 0) := kpf.cell 3; have gf3 : ((w9.setCell ⟨xo, 2, none⟩ (.slice A9 n9 c9)).setCell ⟨xo, 1, none⟩ (.int .i64 a)).frozen? ⟨pr, 3, none⟩ = false := kpf.frozen 3; obtain ⟨w5, hw5, k5, hb5, ho5⟩ := edge_set kpf (.int .i64 p) (.int .i64 a) (.slice A9 n9 c9) (.int .i64 s); have HB5 := Lib.hid (hb5 w.heap.size w (by have := HPr.out; omega) (below_setG (below_setG (HBw.out.trans (hb9.mono HBw.out.size)) (by have := HXl.out; have := HB2.out.size; omega) 2 _) (by have := HXl.out; have := HB2.out.size; omega) 1 _)); have HOwn : Hid (OwnG w5 w.heap.size (.slice A9 n9 c9) (o.drop k)) := Lib.hid (OwnG.mono_ (l := o.drop k) (ho5 _ _ _ (own_set_far (own_set_far ho9 (by have := HXo.out.lt; omega) 2 _) (by have := HXo.out.lt; omega) 1 _) (fun e => by have := ownG_base ho9 _ e; have := HKX.out.lt; omega)) (by have := HBw.out.size; omega)); have HW5 := Lib.hid hw5; have y0_ : w5.cell? ⟨pr, 0, none⟩ = some (.int .i64 p) := k5.cell 0; have y1_ : w5.cell? ⟨pr, 1, none⟩ = some (.int .i64 a) := k5.cell 1; have y2_ : w5.cell? ⟨pr, 2, none⟩ = some (.slice A9 n9 c9) := k5.cell 2; have y3_ : w5.cell? ⟨pr, 3, none⟩ = some (.int .i64 s) := k5.cell 3; clear ho9 hb9 ko kpf hw5 k5 hb5 ho5)
    go_wp2
    rw [← HW5.out]
    refine bodyPost_ret (v := .tuple #[.agg #[.int .i64 p, .int .i64 a, .slice A9 n9 c9, .int .i64 s], .int .i64 0]) (by simp [results, Try.f17, go_sem, y0_, y1_, y2_, y3_]) rfl ⟨.slice A9 n9 c9, ?_, ?_, HB5.out⟩
    · rw [HS.out]
    · rw [HS.out]; exact HOwn.out
end Go.Proofs.Ytneijohbmphheaa.Pk
