/- The landed Same of package state. -/
import Derived.Test.YtcicpgiljceioaaZStSameP
import Derived.Test.YtcicpgiljceioaaZStCopyM
import Derived.Laws.OwnMore
namespace Go.Proofs.Ytcicpgiljceioaa.Pk
open Go.RowKit
set_option linter.unusedVariables false
attribute [local go_sem] Oper.semAt_some
set_option maxRecDepth 100000 in
set_option maxHeartbeats 8000000 in
theorem sameS : StSameP := by
  intro s t w hs ht
  have HI := Lib.hid hs
  have HT := Lib.hid ht
  obtain ⟨me, os, ⟨A, n, c⟩, es, ⟨A', n', c'⟩, q, as_, ⟨Aa, na, ca⟩, gs, ⟨Ag, ng, cg⟩⟩ := s
  obtain ⟨me2, os2, ⟨D, m, d⟩, es2, ⟨D', m', d'⟩, q2, as2, ⟨Da, ma, da⟩, gs2, ⟨Dg, mg, dg⟩⟩ := t
  obtain ⟨r, hr⟩ : ∃ r, r = decide ((⟨me, os, ⟨A, n, c⟩, es, ⟨A', n', c'⟩, q, as_, ⟨Aa, na, ca⟩, gs, ⟨Ag, ng, cg⟩⟩ : StL).v = (⟨me2, os2, ⟨D, m, d⟩, es2, ⟨D', m', d'⟩, q2, as2, ⟨Da, ma, da⟩, gs2, ⟨Dg, mg, dg⟩⟩ : StL).v) := ⟨_, rfl⟩
  obtain ⟨r1, h1⟩ : ∃ r1, r1 = decide (os.map (·.v) = os2.map (·.v)) := ⟨_, rfl⟩
  obtain ⟨r2, h2⟩ : ∃ r2, r2 = decide (es.map (·.v) = es2.map (·.v)) := ⟨_, rfl⟩
  obtain ⟨r3, h3⟩ : ∃ r3, r3 = decide (as_ = as2) := ⟨_, rfl⟩
  obtain ⟨r4, h4⟩ : ∃ r4, r4 = decide (gs = gs2) := ⟨_, rfl⟩
  have HR : Hid (r = (decide (me = me2) && decide (q = q2) && r1 && r2 && r3 && r4)) := Lib.hid (by
    rw [hr, h1, h2, h3, h4]
    simp only [StL.v, St.mk.injEq, Bool.decide_and, Bool.and_assoc]
    cases decide (me = me2) <;> cases decide (q = q2) <;> cases decide (os.map (·.v) = os2.map (·.v)) <;> cases decide (es.map (·.v) = es2.map (·.v)) <;> rfl)
  rw [← hr]
  clear hr hs ht
  obtain ⟨p, hp⟩ : ∃ p, p = w.heap.size := ⟨_, rfl⟩
  obtain ⟨pt, hpt⟩ : ∃ x, x = p + 1 := ⟨_, rfl⟩
  obtain ⟨wa, hwa⟩ : ∃ wa, wa = w.alloc (.cells #[.int .i64 me, .slice A n c, .slice A' n' c', .int .i64 q, .slice Aa na ca, .slice Ag ng cg] 30) := ⟨_, rfl⟩
  obtain ⟨W1, hW1⟩ : ∃ W1, W1 = wa.alloc (.cells #[.int .i64 me2, .slice D m d, .slice D' m' d', .int .i64 q2, .slice Da ma da, .slice Dg mg dg] 30) := ⟨_, rfl⟩
  have hsa : wa.heap.size = p + 1 := by rw [hwa, World.size_alloc, hp]
  have hba : Below w.heap.size w wa := hwa ▸ (Below.refl _ _).alloc (Nat.le_refl _) _
  have HB1 : Hid (Below w.heap.size w W1) := Lib.hid (hW1 ▸ hba.alloc (by omega) _)
  have HKp : Hid (Blk W1 p 30 #[.int .i64 me, .slice A n c, .slice A' n' c', .int .i64 q, .slice Aa na ca, .slice Ag ng cg]) := Lib.hid (by rw [hW1, hwa, hp]; exact (Blk.new w _ _).alloc _)
  have HKt : Hid (Blk W1 pt 30 #[.int .i64 me2, .slice D m d, .slice D' m' d', .int .i64 q2, .slice Da ma da, .slice Dg mg dg]) := Lib.hid (by rw [hW1, hpt, ← hsa]; exact Blk.new wa _ _)
  have HX : ∀ W, Below W1.heap.size W1 W → Below w.heap.size w W := fun W hW => HB1.out.trans (hW.mono HB1.out.size)
  have HS : Hid (∀ W, Below W1.heap.size W1 W → W.cell? ⟨p, 1, none⟩ = some (.slice A n c) ∧ W.cell? ⟨p, 2, none⟩ = some (.slice A' n' c') ∧ W.cell? ⟨p, 4, none⟩ = some (.slice Aa na ca) ∧ W.cell? ⟨p, 5, none⟩ = some (.slice Ag ng cg) ∧ W.cell? ⟨pt, 1, none⟩ = some (.slice D m d) ∧ W.cell? ⟨pt, 2, none⟩ = some (.slice D' m' d') ∧ W.cell? ⟨pt, 4, none⟩ = some (.slice Da ma da) ∧ W.cell? ⟨pt, 5, none⟩ = some (.slice Dg mg dg)) := Lib.hid (fun W hW =>
    ⟨(HKp.out.below hW HKp.out.lt).cell 1, (HKp.out.below hW HKp.out.lt).cell 2, (HKp.out.below hW HKp.out.lt).cell 4, (HKp.out.below hW HKp.out.lt).cell 5, (HKt.out.below hW HKt.out.lt).cell 1, (HKt.out.below hW HKt.out.lt).cell 2, (HKt.out.below hW HKt.out.lt).cell 4, (HKt.out.below hW HKt.out.lt).cell 5⟩)
  have HC1 : Hid (∀ W, Below W1.heap.size W1 W → Calls Try.prog 44 #[.slice A n c, .slice D m d, .func (.func 45) #[] #[]] W fun e w' => e = .returned (.bool r1) ∧ Below W1.heap.size W1 w') := Lib.hid (fun W hW => by
    refine (eqfunc_owR _ _ os os2 W (HI.out.os.next (HX W hW)) (HT.out.os.next (HX W hW)) (fun x hx => (HI.out.o x hx).next (HX W hW)) (fun x hx => (HT.out.o x hx).next (HX W hW))).mono ?_
    rintro e w' ⟨rfl, h⟩
    exact ⟨by rw [h1], hW.trans (h.mono hW.size)⟩)
  have HC2 : Hid (∀ W, Below W1.heap.size W1 W → Calls Try.prog 46 #[.slice A' n' c', .slice D' m' d', .func (.func 47) #[] #[]] W fun e w' => e = .returned (.bool r2) ∧ Below W1.heap.size W1 w') := Lib.hid (fun W hW => by
    refine (eqfunc_sdR _ _ es es2 W (HI.out.es.next (HX W hW)) (HT.out.es.next (HX W hW)) (fun x hx => (HI.out.e x hx).next (HX W hW)) (fun x hx => (HT.out.e x hx).next (HX W hW))).mono ?_
    rintro e w' ⟨rfl, h⟩
    exact ⟨by rw [h2], hW.trans (h.mono hW.size)⟩)
  have HC3 : Hid (∀ W, Below W1.heap.size W1 W → Calls Try.prog 48 #[.slice Aa na ca, .slice Da ma da] W fun e w' => e = .returned (.bool r3) ∧ Below W1.heap.size W1 w') := Lib.hid (fun W hW => by
    refine (equal_akR _ _ as_ as2 W (HI.out.as_.next (HX W hW)) (HT.out.as_.next (HX W hW))).mono ?_
    rintro e w' ⟨rfl, h⟩
    exact ⟨by rw [h3], hW.trans (h.mono hW.size)⟩)
  have HC4 : Hid (∀ W, Below W1.heap.size W1 W → Calls Try.prog 49 #[.slice Ag ng cg, .slice Dg mg dg] W fun e w' => e = .returned (.bool r4) ∧ Below W1.heap.size W1 w') := Lib.hid (fun W hW => by
    refine (equal_fdR _ _ gs gs2 W (HI.out.gs.next (HX W hW)) (HT.out.gs.next (HX W hW))).mono ?_
    rintro e w' ⟨rfl, h⟩
    exact ⟨by rw [h4], hW.trans (h.mono hW.size)⟩)
  have HXX := Lib.hid HX
  clear h1 h2 h3 h4 hsa hba HX
  have y0 := HKp.out.cell 0
  have y3 := HKp.out.cell 3
  have x0 := HKt.out.cell 0
  have x3 := HKt.out.cell 3
  obtain ⟨y1, y2, y4, y5, x1, x2, x4, x5⟩ := HS.out W1 (Below.refl _ _)
  have HP : Hid (w.heap.size = p) := Lib.hid hp.symm
  have HPt : Hid (p + 1 = pt) := Lib.hid hpt.symm
  clear hp hpt
  show Calls Try.prog 22 #[.agg #[.int .i64 me, .slice A n c, .slice A' n' c', .int .i64 q, .slice Aa na ca, .slice Ag ng cg], .agg #[.int .i64 me2, .slice D m d, .slice D' m' d', .int .i64 q2, .slice Da ma da, .slice Dg mg dg]] w _
  have HW : Hid (W1 = (w.alloc (.cells #[.int .i64 me, .slice A n c, .slice A' n' c', .int .i64 q, .slice Aa na ca, .slice Ag ng cg] 30)).alloc (.cells #[.int .i64 me2, .slice D m d, .slice D' m' d', .int .i64 q2, .slice Da ma da, .slice Dg mg dg] 30)) := Lib.hid (by rw [hW1, hwa])
  have HU : Hid (Below w.heap.size w ((w.alloc (.cells #[.int .i64 me, .slice A n c, .slice A' n' c', .int .i64 q, .slice Aa na ca, .slice Ag ng cg] 30)).alloc (.cells #[.int .i64 me2, .slice D m d, .slice D' m' d', .int .i64 q2, .slice Da ma da, .slice Dg mg dg] 30))) := Lib.hid (HW.out ▸ HB1.out)
  clear hwa hW1
  by_cases g0 : me = me2
  case neg =>
    have t0 : (me == me2) = false := by simp [g0]
    have hrf : r = false := by rw [HR.out]; simp [g0]
    clear g0
    go_enter Try.func22, Try.ntmps22
    go_wp2_with fail
    go_ret
    exact ⟨by first | rfl | (rw [hrf]; rfl), HU.out⟩
  by_cases g1 : q = q2
  case neg =>
    have t0 : (me == me2) = true := by simp [g0]
    have t1 : (q == q2) = false := by simp [g1]
    have hrf : r = false := by rw [HR.out]; simp [g1]
    clear g0 g1
    go_enter Try.func22, Try.ntmps22
    go_wp2_with fail
    go_ret
    exact ⟨by first | rfl | (rw [hrf]; rfl), HU.out⟩
  have t0 : (me == me2) = true := by simp [g0]
  have t1 : (q == q2) = true := by simp [g1]
  have HR2 : Hid (r = (r1 && r2 && r3 && r4)) := Lib.hid (by rw [HR.out]; simp [g0, g1])
  clear g0 g1 HR
  go_enter Try.func22, Try.ntmps22
  go_wp2_with fail
  rw [← HW.out, HP.out, HPt.out]
  refine (HC1.out _ (Below.refl _ _)).mono ?_
  rintro e V1 ⟨rfl, hv1⟩
  have HV1 := Lib.hid hv1
  clear y1 y2 y4 y5 x1 x2 x4 x5
  obtain ⟨y1, y2, y4, y5, x1, x2, x4, x5⟩ := HS.out V1 hv1
  clear hv1
  cases r1 with
  | false =>
    have hrf : r = false := by rw [HR2.out]; simp
    go_wp2_with fail
    go_ret
    exact ⟨by first | rfl | (rw [hrf]; rfl), HXX.out _ HV1.out⟩
  | true =>
    go_wp2_with fail
    refine (HC2.out _ HV1.out).mono ?_
    rintro e V2 ⟨rfl, hv2⟩
    have HV2 := Lib.hid hv2
    clear y1 y2 y4 y5 x1 x2 x4 x5
    obtain ⟨y1, y2, y4, y5, x1, x2, x4, x5⟩ := HS.out V2 hv2
    clear hv2
    cases r2 with
    | false =>
      have hrf : r = false := by rw [HR2.out]; simp
      go_wp2_with fail
      go_ret
      exact ⟨by first | rfl | (rw [hrf]; rfl), HXX.out _ HV2.out⟩
    | true =>
      go_wp2_with fail
      refine (HC3.out _ HV2.out).mono ?_
      rintro e V3 ⟨rfl, hv3⟩
      have HV3 := Lib.hid hv3
      clear y1 y2 y4 y5 x1 x2 x4 x5
      obtain ⟨y1, y2, y4, y5, x1, x2, x4, x5⟩ := HS.out V3 hv3
      clear hv3
      cases r3 with
      | false =>
        have hrf : r = false := by rw [HR2.out]; simp
        go_wp2_with fail
        go_ret
        exact ⟨by first | rfl | (rw [hrf]; rfl), HXX.out _ HV3.out⟩
      | true =>
        go_wp2_with fail
        refine (HC4.out _ HV3.out).mono ?_
        rintro e V4 ⟨rfl, hv4⟩
        have HV4 := Lib.hid hv4
        clear y1 y2 y4 y5 x1 x2 x4 x5
        obtain ⟨y1, y2, y4, y5, x1, x2, x4, x5⟩ := HS.out V4 hv4
        clear hv4
        cases r4 with
        | false =>
          have hrf : r = false := by rw [HR2.out]; simp
          go_wp2_with fail
          go_ret
          exact ⟨by first | rfl | (rw [hrf]; rfl), HXX.out _ HV4.out⟩
        | true =>
          have hrf : r = true := by rw [HR2.out]; rfl
          go_wp2_with fail
          go_ret
          exact ⟨by first | rfl | (rw [hrf]; rfl), HXX.out _ HV4.out⟩
end Go.Proofs.Ytcicpgiljceioaa.Pk

/- Elements of a row of one's own that are written over; a row whose lists are copied one by one. -/
namespace Go.Proofs.Ytcicpgiljceioaa.Pk
open Go.RowKit
set_option linter.unusedVariables false
namespace Row
variable {α : Type} {R : Row α}
theorem cells_set {l : List α} {i j : Nat} {x x' : α} {u : Value} (hi : l[i]? = some x) (hj : j < R.k) (he : R.enc x' = (R.enc x).set j u) : R.cells (l.set i x') = (R.cells l).set (i * R.k + j) u := by
  induction l generalizing i with
  | nil => simp at hi
  | cons y l ih =>
    match i, hi with
    | 0, hi =>
      simp at hi; subst hi
      rw [List.set_cons_zero, R.cells_cons, R.cells_cons, Nat.zero_mul, Nat.zero_add, List.set_append_left _ _ (by rw [R.len]; exact hj), he]
    | i + 1, hi =>
      have h := ih (i := i) (by simpa using hi)
      rw [List.set_cons_succ, R.cells_cons, R.cells_cons, List.set_append_right _ _ (by rw [R.len, Nat.add_mul]; omega), R.len, h, show (i + 1) * R.k + j - R.k = i * R.k + j by rw [Nat.add_mul]; omega]
/-- One cell of an element is written. -/
theorem Own.put1 {w : World} {B g n c i j : Nat} {l : List α} {x x' : α} {u : Value} (h : R.Own w B (.slice (some ⟨g, 0, none⟩) n c) l) (hi : l[i]? = some x) (hj : j < R.k) (he : R.enc x' = (R.enc x).set j u) :
    R.Own (w.setCell ⟨g, i * R.k + j, none⟩ u) B (.slice (some ⟨g, 0, none⟩) n c) (l.set i x') := by
  rcases h with ⟨h, e⟩ | ⟨rfl, A, e⟩
  · left
    refine ⟨?_, e⟩
    have hn : l.length = n := (Own.rd (.inl ⟨h, e⟩)).1
    rw [hn] at h
    have := (h.stored (i * R.k + j) u).1
    rw [← cells_set hi hj he] at this
    rw [List.length_set, hn]
    exact this
  · simp at hi
end Row
theorem ownB_some {g n c : Nat} (hc : c ≠ 0) : ownB (.slice (some ⟨g, 0, none⟩) n c) = some g := by simp [ownB, hc]
/-- The first objects' cells are copies already; the others' are the old ones. -/
structure HalfO (w : World) (B : Nat) (v : Value) (new rest : List OwL) : Prop where
  row : owR.Own w B v (new ++ rest)
  each : ∀ x ∈ new, ceR.Own w B x.s.val x.v.c
  apart : Apart (v :: owS new)
structure HalfE (w : World) (B : Nat) (v : Value) (new rest : List SdL) : Prop where
  row : sdR.Own w B v (new ++ rest)
  each : ∀ x ∈ new, mgR.Own w B x.s.val x.v.o
  apart : Apart (v :: sdS new)
theorem HalfO.begin {w : World} {B : Nat} {v : Value} {l : List OwL} (h : owR.Own w B v l) : HalfO w B v [] l := ⟨h, fun x hx => (by cases hx), Apart.one _⟩
theorem HalfE.begin {w : World} {B : Nat} {v : Value} {l : List SdL} (h : sdR.Own w B v l) : HalfE w B v [] l := ⟨h, fun x hx => (by cases hx), Apart.one _⟩
theorem HalfO.done {w : World} {B : Nat} {v : Value} {l : List OwL} (h : HalfO w B v l []) : OwnO w B v l := ⟨by have := h.row; rwa [List.append_nil] at this, h.each, h.apart⟩
theorem HalfE.done {w : World} {B : Nat} {v : Value} {l : List SdL} (h : HalfE w B v l []) : OwnE w B v l := ⟨by have := h.row; rwa [List.append_nil] at this, h.each, h.apart⟩
theorem HalfO.below {w w' : World} {B : Nat} {v : Value} {new rest : List OwL} (h : HalfO w B v new rest) (hb : Below w.heap.size w w') : HalfO w' B v new rest := ⟨h.row.below hb, fun x hx => (h.each x hx).below hb, h.apart⟩
theorem HalfE.below {w w' : World} {B : Nat} {v : Value} {new rest : List SdL} (h : HalfE w B v new rest) (hb : Below w.heap.size w w') : HalfE w' B v new rest := ⟨h.row.below hb, fun x hx => (h.each x hx).below hb, h.apart⟩
theorem HalfO.under {w : World} {B : Nat} {v : Value} {new rest : List OwL} (h : HalfO w B v new rest) : Under w.heap.size (v :: owS new) := fun u hu g hg => by
  rcases List.mem_cons.1 hu with rfl | hu
  · exact h.row.lt g hg
  · obtain ⟨x, hx, rfl⟩ := List.mem_map.1 hu
    exact (h.each x hx).lt g hg
theorem HalfE.under {w : World} {B : Nat} {v : Value} {new rest : List SdL} (h : HalfE w B v new rest) : Under w.heap.size (v :: sdS new) := fun u hu g hg => by
  rcases List.mem_cons.1 hu with rfl | hu
  · exact h.row.lt g hg
  · obtain ⟨x, hx, rfl⟩ := List.mem_map.1 hu
    exact (h.each x hx).lt g hg
theorem HalfO.step {w V : World} {B g n c : Nat} {new rest : List OwL} {x : OwL} {s2 : Sl} (h : HalfO w B (.slice (some ⟨g, 0, none⟩) n c) new (x :: rest)) (hc : c ≠ 0) (hB : B ≤ w.heap.size) (hb : Below w.heap.size w V) (hx : ceR.Own V w.heap.size s2.val x.v.c) :
    HalfO (V.setCell ⟨g, new.length * 3 + 2, none⟩ s2.val) B (.slice (some ⟨g, 0, none⟩) n c) (new ++ [⟨x.v, s2⟩]) rest := by
  have hg : ownB (.slice (some ⟨g, 0, none⟩) n c) = some g := ownB_some hc
  have hgl : g < w.heap.size := h.row.lt g hg
  refine ⟨?_, fun y hy => ?_, ?_⟩
  · have h1 := Row.Own.put1 (i := new.length) (j := 2) (x := x) (x' := (⟨x.v, s2⟩ : OwL)) (u := s2.val) (h.row.below hb) (by rw [List.getElem?_append_right (Nat.le_refl _), Nat.sub_self]; rfl) (by show 2 < 3; omega) rfl
    have e : (new ++ x :: rest).set new.length ⟨x.v, s2⟩ = (new ++ [⟨x.v, s2⟩]) ++ rest := by
      rw [List.set_append_right _ _ (Nat.le_refl _), Nat.sub_self, List.set_cons_zero, List.append_assoc]; rfl
    rw [e] at h1
    exact h1
  · rcases List.mem_append.1 hy with hy | hy
    · refine ((h.each y hy).below hb).stay fun k e => setc_other _ _ _ _ _ (fun e2 => ?_)
      subst e2
      exact h.apart.ne (a := []) (b := owS new) (v := .slice (some ⟨k, 0, none⟩) n c) (u := y.s.val) (List.mem_map.2 ⟨y, hy, rfl⟩) hg e rfl
    · obtain rfl := List.mem_singleton.1 hy
      refine (hx.low hB).stay fun k e => setc_other _ _ _ _ _ (fun e2 => ?_)
      have := hx.base k e
      omega
  · have h4 : owS (new ++ [⟨x.v, s2⟩]) = owS new ++ [s2.val] := by simp [owS]
    rw [h4]
    exact h.apart.push h.under hx.base
theorem HalfE.step {w V : World} {B g n c : Nat} {new rest : List SdL} {x : SdL} {s2 : Sl} (h : HalfE w B (.slice (some ⟨g, 0, none⟩) n c) new (x :: rest)) (hc : c ≠ 0) (hB : B ≤ w.heap.size) (hb : Below w.heap.size w V) (hx : mgR.Own V w.heap.size s2.val x.v.o) :
    HalfE (V.setCell ⟨g, new.length * 4 + 2, none⟩ s2.val) B (.slice (some ⟨g, 0, none⟩) n c) (new ++ [⟨x.v, s2⟩]) rest := by
  have hg : ownB (.slice (some ⟨g, 0, none⟩) n c) = some g := ownB_some hc
  have hgl : g < w.heap.size := h.row.lt g hg
  refine ⟨?_, fun y hy => ?_, ?_⟩
  · have h1 := Row.Own.put1 (i := new.length) (j := 2) (x := x) (x' := (⟨x.v, s2⟩ : SdL)) (u := s2.val) (h.row.below hb) (by rw [List.getElem?_append_right (Nat.le_refl _), Nat.sub_self]; rfl) (by show 2 < 4; omega) rfl
    have e : (new ++ x :: rest).set new.length ⟨x.v, s2⟩ = (new ++ [⟨x.v, s2⟩]) ++ rest := by
      rw [List.set_append_right _ _ (Nat.le_refl _), Nat.sub_self, List.set_cons_zero, List.append_assoc]; rfl
    rw [e] at h1
    exact h1
  · rcases List.mem_append.1 hy with hy | hy
    · refine ((h.each y hy).below hb).stay fun k e => setc_other _ _ _ _ _ (fun e2 => ?_)
      subst e2
      exact h.apart.ne (a := []) (b := sdS new) (v := .slice (some ⟨k, 0, none⟩) n c) (u := y.s.val) (List.mem_map.2 ⟨y, hy, rfl⟩) hg e rfl
    · obtain rfl := List.mem_singleton.1 hy
      refine (hx.low hB).stay fun k e => setc_other _ _ _ _ _ (fun e2 => ?_)
      have := hx.base k e
      omega
  · have h4 : sdS (new ++ [⟨x.v, s2⟩]) = sdS new ++ [s2.val] := by simp [sdS]
    rw [h4]
    exact h.apart.push h.under hx.base
end Go.Proofs.Ytcicpgiljceioaa.Pk
