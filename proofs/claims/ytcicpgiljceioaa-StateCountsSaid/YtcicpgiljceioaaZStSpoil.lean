/- The states' statements' own wakes. -/
import Derived.Test.YtcicpgiljceioaaZStSpec
import Derived.Deep.RegionHeld3
import Derived.Deep.DeepMust
import Derived.Test.YtcicpgiljceioaaZStCopyM
import Derived.Laws.OwnMore
import Derived.Test.YtcicpgiljceioaaZCeOwn
namespace Go.Proofs.Ytcicpgiljceioaa.Gr
set_option linter.unusedVariables false
theorem good2s : Good [-1, 0] where
  pos := by decide
  few := by decide
  rng := by
    intro v hv
    have : v = 0 ∨ v = 1 := by simp at hv; omega
    rcases this with rfl | rfl <;> decide
  one := by
    intro u v hu hv h1 h2
    have a1 : u = 0 ∨ u = 1 := by simp at hu; omega
    have a2 : v = 0 ∨ v = 1 := by simp at hv; omega
    rcases a1 with rfl | rfl <;> first | (exact absurd h1 (by decide)) | (rcases a2 with rfl | rfl <;> first | rfl | exact absurd h2 (by decide))
  all := by
    intro v hv
    have : v = 0 ∨ v = 1 := by simp at hv; omega
    rcases this with rfl | rfl <;> decide
end Go.Proofs.Ytcicpgiljceioaa.Gr
namespace Go.Proofs.Ytcicpgiljceioaa.Pk
open Go.RowKit Go.Proofs.Ytcicpgiljceioaa.Gr
set_option linter.unusedVariables false
theorem first2s : firstE [-1, 0] [1] 0 = (⟨0, [⟨1, 0, []⟩], [⟨1, 0, [], 0⟩], 0, [], []⟩, 0) := by decide +kernel
theorem few2s : FewS (⟨0, [⟨1, 0, []⟩], [⟨1, 0, [], 0⟩], 0, [], []⟩ : St) := by
  have e : firstS [-1, 0] [1] 0 = ⟨0, [⟨1, 0, []⟩], [⟨1, 0, [], 0⟩], 0, [], []⟩ := by decide +kernel
  have h := firstS_few (ps := [-1, 0]) (hs := [1]) good2s (me := 0) (by omega) (by decide) (by unfold HomesS; simp)
  rw [e] at h
  exact h
theorem NewR.good_ {ps : List Int} {w : World} {e : Ending} {w' : World} (h : NewR ps w e w') (G : Gr.Good ps) : Below w.heap.size w w' ∧ ∃ T g, e = .returned (.tuple #[.pointer (some ⟨T, 0, none⟩), .int .i64 0]) ∧ IsTr w' T g ps := by
  obtain ⟨hb, ⟨T, g, he, hc, h1, h2, h3, h4⟩ | ⟨p, er, he, hc, hne⟩⟩ := h
  · exact ⟨hb, T, g, he, h1⟩
  · exact absurd (hc.only (good_chk G)).2 hne
theorem two_reads (w : World) (T : TypeId) (a b : Int) : Reads (w.alloc (.cells #[.int .i64 a, .int .i64 b] T)) (w.heap.size + 1) 1 (some ⟨w.heap.size, 0, none⟩) 2 (nms [a, b]) := by
  refine ⟨rfl, fun _ => ⟨_, rfl, by simp, fun j u hj => ?_⟩⟩
  match j, hj with
  | 0, hj => simp [nms] at hj; subst hj; simp [Addr.add]
  | 1, hj => simp [nms] at hj; subst hj; simp [Addr.add]
  | j + 2, hj => simp [nms] at hj
theorem one_reads (w : World) (T : TypeId) (a : Int) : Reads (w.alloc (.cells #[.int .i64 a] T)) (w.heap.size + 1) 1 (some ⟨w.heap.size, 0, none⟩) 1 (nms [a]) := by
  refine ⟨rfl, fun _ => ⟨_, rfl, by simp, fun j u hj => ?_⟩⟩
  match j, hj with
  | 0, hj => simp [nms] at hj; subst hj; simp [Addr.add]
  | j + 1, hj => simp [nms] at hj
set_option maxRecDepth 100000 in
set_option maxHeartbeats 8000000 in
theorem wakesS (HFi : StFirstP) (HGo : StGoodP) (w : World) : Calls Try.prog 9 #[] w fun e w' => e = .returned (.bool true) ∧ Below w.heap.size w w' := by
  obtain ⟨W0, hW0⟩ : ∃ W0, W0 = w.alloc (.cells #[.int .i64 (-1), .int .i64 0] 3) := ⟨_, rfl⟩
  have hb0 : Below w.heap.size w W0 := hW0 ▸ (Below.refl _ w).alloc (Nat.le_refl _) _
  have hr : Reads W0 W0.heap.size 1 (some ⟨w.heap.size, 0, none⟩) 2 (nms [-1, 0]) := by rw [hW0, World.size_alloc]; exact two_reads w _ _ _
  have HN := Lib.hid ((new_any (some ⟨w.heap.size, 0, none⟩) 2 2 [-1, 0] W0 W0.heap.size hr (Nat.le_refl _) (by omega)).mono fun e w' h => h.good_ good2s)
  have HB0 := Lib.hid hb0
  have HFi := Lib.hid HFi
  have HGo := Lib.hid HGo
  clear hr hb0
  go_enter Try.func9, Try.ntmps9
  go_wp2_with fail
  rw [← hW0]
  refine HN.out.mono ?_
  rintro e w1 ⟨hb1, T, g, rfl, ht⟩
  have HB1 := Lib.hid (HB0.out.trans (hb1.mono HB0.out.size))
  have HT := Lib.hid ht
  clear hb1 ht hW0 HN
  obtain ⟨W2, hW2⟩ : ∃ W, W = w1.alloc (.cells #[.int .i64 1] 3) := ⟨_, rfl⟩
  have hb12 : Below w1.heap.size w1 W2 := hW2 ▸ (Below.refl _ _).alloc (Nat.le_refl _) _
  have hin : InN W2 [1] (some ⟨w1.heap.size, 0, none⟩) 1 1 := ⟨by rw [hW2, World.size_alloc]; exact one_reads w1 _ _, by omega, by omega, by intro x hx; simp at hx; subst hx; unfold I64; omega⟩
  have hc := HFi.out T g [-1, 0] _ 1 1 [1] 0 W2 (HT.out.below_ hb12) good2s hin (by unfold I64; omega)
  rw [first2s] at hc
  have HC := Lib.hid hc
  have HB2 := Lib.hid (HB1.out.trans (hb12.mono HB1.out.size))
  have HT2 := Lib.hid (HT.out.below_ hb12)
  clear hc hin hb12
  go_wp2_with fail
  rw [← hW2]
  clear hW2
  refine HC.out.mono ?_
  rintro e w3 ⟨s2, rfl, hv, ho, hb3⟩
  have hin := ho.few (by rw [hv]; exact few2s)
  have hgd := HGo.out T g [-1, 0] s2
  obtain ⟨me, os, ⟨A1, n1, c1⟩, es, ⟨A2, n2, c2⟩, q, as_, ⟨A3, n3, c3⟩, gs, ⟨A4, n4, c4⟩⟩ := s2
  have hv0 := hv
  unfold StL.v at hv
  simp only [St.mk.injEq] at hv
  obtain ⟨e1, e2, e3, e4, e5, e6⟩ := hv
  obtain ⟨x, rfl⟩ : ∃ x, os = [x] := by
    match os, e2 with
    | [x], _ => exact ⟨x, rfl⟩
    | [], h => simp at h
    | x :: y :: r, h => simp at h
  have hx : x.v = ⟨1, 0, []⟩ := by simpa using e2
  obtain ⟨l1, k1, r1⟩ := Row.Own.rd ho.os.row
  obtain ⟨l2, k2, r2⟩ := Row.Own.rd ho.es.row
  have hl2 : es.length = 1 := by have := congrArg List.length e3; simpa using this
  have i1 : n1 = 1 := by simpa using l1.symm
  have i2 : n2 = 1 := l2.symm.trans hl2
  clear l1 l2
  subst i1; subst i2
  obtain ⟨b, off, rfl, hbw, hcs⟩ := owR.spots r1 (show 0 < 1 by omega)
  obtain ⟨xv, ⟨A5, n5, c5⟩⟩ := x
  simp only at hx
  subst hx
  have m0 := hcs 0 _ rfl 0 _ rfl
  have m2 := hcs 0 _ rfl 2 _ rfl
  simp only [owR, Sl.val, Nat.zero_mul, Nat.add_zero, Nat.zero_add] at m0 m2
  have h5 := Row.Own.rd (ho.os.each _ List.mem_cons_self)
  have l5 : n5 = 0 := h5.1.symm
  subst l5
  have k5 : (0 : Nat) ≤ c5 := Nat.zero_le _
  have HB3 := Lib.hid (HB2.out.trans (hb3.mono HB2.out.size))
  have HT3 := Lib.hid (HT2.out.below_ hb3)
  have HIn := Lib.hid hin
  have hbw : b < w3.heap.size := hbw
  have HGd := Lib.hid hgd
  have HGs : Hid (GoodS [-1, 0] (⟨0, [⟨1, 0, []⟩], [⟨1, 0, [], 0⟩], 0, [], []⟩ : St)) := Lib.hid (by
    have h := first_good (ps := [-1, 0]) (hs := [1]) good2s (by decide) (me := 0) (by omega) (by decide) (by unfold HomesS; simp)
    have e : firstS [-1, 0] [1] 0 = ⟨0, [⟨1, 0, []⟩], [⟨1, 0, [], 0⟩], 0, [], []⟩ := by decide +kernel
    rw [e] at h
    exact h)
  have HV := Lib.hid hv0
  clear hv0 e1 e2 e3 e4 e5 e6 ho hb3 hin hcs r1 r2 h5 hgd hl2
  simp only [StL.val, Sl.val]
  obtain ⟨w4, hw4⟩ : ∃ V, V = w3.alloc (.cells #[.int .i64 me, .slice (some ⟨b, off, none⟩) 1 c1, .slice A2 1 c2, .int .i64 q, .slice A3 n3 c3, .slice A4 n4 c4] 30) := ⟨_, rfl⟩
  have hb34 : Below w3.heap.size w3 w4 := hw4 ▸ (Below.refl _ _).alloc (Nat.le_refl _) _
  have HGd2 := Lib.hid (HGd.out w4 (HT3.out.below_ hb34) good2s (HIn.out.next hb34))
  have HB4 := Lib.hid (HB3.out.trans (hb34.mono HB3.out.size))
  clear hb34
  go_wp2_with fail
  rw [← hw4]
  clear hw4
  refine HGd2.out.mono ?_
  rintro e w5 ⟨bb, rfl, hbb, hb5⟩
  have hbt : bb = true := hbb.2 (by rw [HV.out]; exact HGs.out)
  subst hbt
  have HB5 := Lib.hid (HB4.out.trans (hb5.mono HB4.out.size))
  clear hb5 hbb
  go_wp2
  go_ret
  exact ⟨rfl, HB5.out⟩
end Go.Proofs.Ytcicpgiljceioaa.Pk

/- Elements of a row of one's own that are written over; a row whose lists are copied one by one. -/
namespace Go.Proofs.Ytcicpgiljceioaa.Pk
open Go.RowKit
set_option linter.unusedVariables false
namespace Row
variable {α : Type} {R : Row α}
theorem cells_set {l : List α} {i j : Nat} {x x' : α} {u : Value} (hi : l[i]? = some x) (hj : j < R.k) (he : R.enc x' = (R.enc x).set j u) : R.cells (l.set i x') = (R.cells l).set (i * R.k + j) u := by
  induction l generalizing i with
  | nil => simp at hi
  | cons y l ih =>
    match i, hi with
    | 0, hi =>
      simp at hi; subst hi
      rw [List.set_cons_zero, R.cells_cons, R.cells_cons, Nat.zero_mul, Nat.zero_add, List.set_append_left _ _ (by rw [R.len]; exact hj), he]
    | i + 1, hi =>
      have h := ih (i := i) (by simpa using hi)
      rw [List.set_cons_succ, R.cells_cons, R.cells_cons, List.set_append_right _ _ (by rw [R.len, Nat.add_mul]; omega), R.len, h, show (i + 1) * R.k + j - R.k = i * R.k + j by rw [Nat.add_mul]; omega]
/-- One cell of an element is written. -/
theorem Own.put1 {w : World} {B g n c i j : Nat} {l : List α} {x x' : α} {u : Value} (h : R.Own w B (.slice (some ⟨g, 0, none⟩) n c) l) (hi : l[i]? = some x) (hj : j < R.k) (he : R.enc x' = (R.enc x).set j u) :
    R.Own (w.setCell ⟨g, i * R.k + j, none⟩ u) B (.slice (some ⟨g, 0, none⟩) n c) (l.set i x') := by
  rcases h with ⟨h, e⟩ | ⟨rfl, A, e⟩
  · left
    refine ⟨?_, e⟩
    have hn : l.length = n := (Own.rd (.inl ⟨h, e⟩)).1
    rw [hn] at h
    have := (h.stored (i * R.k + j) u).1
    rw [← cells_set hi hj he] at this
    rw [List.length_set, hn]
    exact this
  · simp at hi
end Row
theorem OwnE.stay_ {w w' : World} {B : Nat} {v : Value} {l : List SdL} (h : OwnE w B v l) (hk : ∀ g, ∀ u ∈ v :: sdS l, ownB u = some g → w'.heap[g]? = w.heap[g]?) : OwnE w' B v l :=
  ⟨h.row.stay fun g e => hk g _ List.mem_cons_self e, fun x hx => (h.each x hx).stay fun g e => hk g _ (List.mem_cons_of_mem _ (List.mem_map.2 ⟨x, hx, rfl⟩)) e, h.apart⟩
theorem below_setc {B : Nat} {a w : World} (h : Below B a w) {g : Nat} (hg : B ≤ g) (j : Nat) (u : Value) : Below B a (w.setCell ⟨g, j, none⟩ u) := h.setCell (p := ⟨g, j, none⟩) hg u
theorem blk_other {w : World} {g k : Nat} {T : TypeId} {cs : Array Value} (h : Blk w g T cs) (hk : g ≠ k) (j : Nat) (u : Value) : Blk (w.setCell ⟨k, j, none⟩ u) g T cs := (setc_other w k j u g hk).trans h
theorem ownB_some {g n c : Nat} (hc : c ≠ 0) : ownB (.slice (some ⟨g, 0, none⟩) n c) = some g := by simp [ownB, hc]
/-- The first objects' cells are copies already; the others' are the old ones. -/
structure HalfO (w : World) (B : Nat) (v : Value) (new rest : List OwL) : Prop where
  row : owR.Own w B v (new ++ rest)
  each : ∀ x ∈ new, ceR.Own w B x.s.val x.v.c
  apart : Apart (v :: owS new)
structure HalfE (w : World) (B : Nat) (v : Value) (new rest : List SdL) : Prop where
  row : sdR.Own w B v (new ++ rest)
  each : ∀ x ∈ new, mgR.Own w B x.s.val x.v.o
  apart : Apart (v :: sdS new)
theorem HalfO.begin {w : World} {B : Nat} {v : Value} {l : List OwL} (h : owR.Own w B v l) : HalfO w B v [] l := ⟨h, fun x hx => (by cases hx), Apart.one _⟩
theorem HalfE.begin {w : World} {B : Nat} {v : Value} {l : List SdL} (h : sdR.Own w B v l) : HalfE w B v [] l := ⟨h, fun x hx => (by cases hx), Apart.one _⟩
theorem HalfO.done {w : World} {B : Nat} {v : Value} {l : List OwL} (h : HalfO w B v l []) : OwnO w B v l := ⟨by have := h.row; rwa [List.append_nil] at this, h.each, h.apart⟩
theorem HalfE.done {w : World} {B : Nat} {v : Value} {l : List SdL} (h : HalfE w B v l []) : OwnE w B v l := ⟨by have := h.row; rwa [List.append_nil] at this, h.each, h.apart⟩
theorem HalfO.below {w w' : World} {B : Nat} {v : Value} {new rest : List OwL} (h : HalfO w B v new rest) (hb : Below w.heap.size w w') : HalfO w' B v new rest := ⟨h.row.below hb, fun x hx => (h.each x hx).below hb, h.apart⟩
theorem HalfE.below {w w' : World} {B : Nat} {v : Value} {new rest : List SdL} (h : HalfE w B v new rest) (hb : Below w.heap.size w w') : HalfE w' B v new rest := ⟨h.row.below hb, fun x hx => (h.each x hx).below hb, h.apart⟩
theorem HalfO.under {w : World} {B : Nat} {v : Value} {new rest : List OwL} (h : HalfO w B v new rest) : Under w.heap.size (v :: owS new) := fun u hu g hg => by
  rcases List.mem_cons.1 hu with rfl | hu
  · exact h.row.lt g hg
  · obtain ⟨x, hx, rfl⟩ := List.mem_map.1 hu
    exact (h.each x hx).lt g hg
theorem HalfE.under {w : World} {B : Nat} {v : Value} {new rest : List SdL} (h : HalfE w B v new rest) : Under w.heap.size (v :: sdS new) := fun u hu g hg => by
  rcases List.mem_cons.1 hu with rfl | hu
  · exact h.row.lt g hg
  · obtain ⟨x, hx, rfl⟩ := List.mem_map.1 hu
    exact (h.each x hx).lt g hg
theorem HalfO.step {w V : World} {B g n c : Nat} {new rest : List OwL} {x : OwL} {s2 : Sl} (h : HalfO w B (.slice (some ⟨g, 0, none⟩) n c) new (x :: rest)) (hc : c ≠ 0) (hB : B ≤ w.heap.size) (hb : Below w.heap.size w V) (hx : ceR.Own V w.heap.size s2.val x.v.c) :
    HalfO (V.setCell ⟨g, new.length * 3 + 2, none⟩ s2.val) B (.slice (some ⟨g, 0, none⟩) n c) (new ++ [⟨x.v, s2⟩]) rest := by
  have hg : ownB (.slice (some ⟨g, 0, none⟩) n c) = some g := ownB_some hc
  have hgl : g < w.heap.size := h.row.lt g hg
  refine ⟨?_, fun y hy => ?_, ?_⟩
  · have h1 := Row.Own.put1 (i := new.length) (j := 2) (x := x) (x' := (⟨x.v, s2⟩ : OwL)) (u := s2.val) (h.row.below hb) (by rw [List.getElem?_append_right (Nat.le_refl _), Nat.sub_self]; rfl) (by show 2 < 3; omega) rfl
    have e : (new ++ x :: rest).set new.length ⟨x.v, s2⟩ = (new ++ [⟨x.v, s2⟩]) ++ rest := by
      rw [List.set_append_right _ _ (Nat.le_refl _), Nat.sub_self, List.set_cons_zero, List.append_assoc]; rfl
    rw [e] at h1
    exact h1
  · rcases List.mem_append.1 hy with hy | hy
    · refine ((h.each y hy).below hb).stay fun k e => setc_other _ _ _ _ _ (fun e2 => ?_)
      subst e2
      exact h.apart.ne (a := []) (b := owS new) (v := .slice (some ⟨k, 0, none⟩) n c) (u := y.s.val) (List.mem_map.2 ⟨y, hy, rfl⟩) hg e rfl
    · obtain rfl := List.mem_singleton.1 hy
      refine (hx.low hB).stay fun k e => setc_other _ _ _ _ _ (fun e2 => ?_)
      have := hx.base k e
      omega
  · have h4 : owS (new ++ [⟨x.v, s2⟩]) = owS new ++ [s2.val] := by simp [owS]
    rw [h4]
    exact h.apart.push h.under hx.base
theorem HalfE.step {w V : World} {B g n c : Nat} {new rest : List SdL} {x : SdL} {s2 : Sl} (h : HalfE w B (.slice (some ⟨g, 0, none⟩) n c) new (x :: rest)) (hc : c ≠ 0) (hB : B ≤ w.heap.size) (hb : Below w.heap.size w V) (hx : mgR.Own V w.heap.size s2.val x.v.o) :
    HalfE (V.setCell ⟨g, new.length * 4 + 2, none⟩ s2.val) B (.slice (some ⟨g, 0, none⟩) n c) (new ++ [⟨x.v, s2⟩]) rest := by
  have hg : ownB (.slice (some ⟨g, 0, none⟩) n c) = some g := ownB_some hc
  have hgl : g < w.heap.size := h.row.lt g hg
  refine ⟨?_, fun y hy => ?_, ?_⟩
  · have h1 := Row.Own.put1 (i := new.length) (j := 2) (x := x) (x' := (⟨x.v, s2⟩ : SdL)) (u := s2.val) (h.row.below hb) (by rw [List.getElem?_append_right (Nat.le_refl _), Nat.sub_self]; rfl) (by show 2 < 4; omega) rfl
    have e : (new ++ x :: rest).set new.length ⟨x.v, s2⟩ = (new ++ [⟨x.v, s2⟩]) ++ rest := by
      rw [List.set_append_right _ _ (Nat.le_refl _), Nat.sub_self, List.set_cons_zero, List.append_assoc]; rfl
    rw [e] at h1
    exact h1
  · rcases List.mem_append.1 hy with hy | hy
    · refine ((h.each y hy).below hb).stay fun k e => setc_other _ _ _ _ _ (fun e2 => ?_)
      subst e2
      exact h.apart.ne (a := []) (b := sdS new) (v := .slice (some ⟨k, 0, none⟩) n c) (u := y.s.val) (List.mem_map.2 ⟨y, hy, rfl⟩) hg e rfl
    · obtain rfl := List.mem_singleton.1 hy
      refine (hx.low hB).stay fun k e => setc_other _ _ _ _ _ (fun e2 => ?_)
      have := hx.base k e
      omega
  · have h4 : sdS (new ++ [⟨x.v, s2⟩]) = sdS new ++ [s2.val] := by simp [sdS]
    rw [h4]
    exact h.apart.push h.under hx.base
end Go.Proofs.Ytcicpgiljceioaa.Pk

/- What a state that can be has, and what spoils it. -/
namespace Go.Proofs.Ytcicpgiljceioaa.Pk
open Go.Proofs.Ytcicpgiljceioaa.Gr
set_option linter.unusedVariables false
def bareK (l : List Ce) : Nat := (l.filter fun c => decide (c.d = -1)).length
theorem bare_none {l : List Ce} (h : ∀ c ∈ l, c.d ≠ -1) : bareK l = 0 := by
  unfold bareK
  rw [List.length_eq_zero_iff, List.filter_eq_nil_iff]
  intro c hc
  simpa using h c hc
theorem bare_of {l : List Ce} {me : Int} {sink : Bool} (h : GoodK l me sink) : bareK l = if sink = true then 1 else 0 := by
  cases hs : sink with
  | false =>
    subst hs
    rw [if_neg (by simp)]
    refine bare_none (fun c hc => ?_)
    obtain ⟨i, hi⟩ := List.getElem?_of_mem hc
    have hil := (List.getElem?_eq_some_iff.1 hi).1
    have h4 := (h.2 i hil).2.2.2
    rw [if_neg (fun q => by cases q.1), ceA_of hi] at h4
    omega
  | true =>
    subst hs
    rw [if_pos rfl]
    have hp := h.1 rfl
    obtain ⟨k, hk⟩ : ∃ k, l.length = k + 1 := ⟨l.length - 1, by omega⟩
    have e : l = l.take k ++ [ceA l k] := by
      rw [← take_ce (by omega), List.take_of_length_le (by omega)]
    have h4 := (h.2 k (by omega)).2.2.2
    rw [if_pos ⟨rfl, hk.symm⟩] at h4
    have h0 : bareK (l.take k) = 0 := bare_none (fun c hc => by
      obtain ⟨i, hi⟩ := List.getElem?_of_mem hc
      have hik := (List.getElem?_eq_some_iff.1 hi).1
      rw [List.length_take] at hik
      rw [List.getElem?_take_of_lt (by omega)] at hi
      have h5 := (h.2 i (by omega)).2.2.2
      rw [if_neg (fun q => by have := q.2; omega), ceA_of hi] at h5
      omega)
    unfold bareK at h0 ⊢
    rw [e, List.filter_append, List.length_append, h0]
    simp [h4.1]
theorem asks_low {k q : Int} : ∀ {last : Int} {l : List Ak}, AsksOk k q last l → ∀ a ∈ l, last < a.n
  | _, [], _, a, ha => by cases ha
  | last, b :: r, h, a, ha => by
    obtain ⟨_, h2, h3⟩ := h
    rcases List.mem_cons.1 ha with rfl | ha
    · exact h2.1
    · have := asks_low h3 a ha; omega
/-- The state with one field that can't be. -/
def spoil (n : Int) (s : St) : Nat → St
  | 0 => { s with me := n }
  | 1 => { s with os := [] }
  | 2 => { s with os := s.os.modify 0 fun o => { o with a := -1 } }
  | 3 => { s with os := s.os.modify 0 fun o => { o with m := 1099511627777 } }
  | 4 => { s with q := -1 }
  | 5 => { s with es := s.es ++ [⟨0, 0, [], 0⟩] }
  | 6 => { s with gs := s.gs ++ [⟨0, s.q + 1, 0⟩] }
  | _ => { s with as_ := s.as_ ++ [⟨0, 0⟩] }
theorem spoil_bad {ps : List Int} {s : St} (h : GoodS ps s) (i : Nat) : ¬ GoodS ps (spoil (ps.length : Int) s i) := by
  intro g
  have hos : ∃ o r, s.os = o :: r := by
    cases e : s.os with
    | nil => have := h.many.1; rw [e] at this; simp at this
    | cons o r => exact ⟨o, r, rfl⟩
  obtain ⟨o, r, e⟩ := hos
  have bound : ∀ v ∈ nbsI ps s.me, 0 ≤ v := by
    intro v hv
    unfold nbsI at hv
    rw [if_pos h.me] at hv
    unfold nbs at hv
    obtain ⟨u, hu, rfl⟩ := List.mem_map.1 hv
    omega
  match i with
  | 0 => have := g.me.2; simp [spoil] at this
  | 1 => have := g.many.1; simp [spoil] at this
  | 2 =>
    have := g.os { o with a := -1 } (by simp [spoil, e])
    rcases this.1 with h1 | h1
    · have h2 := h.me.1
      have h1 : (-1 : Int) = s.me := h1
      omega
    · have := bound (-1) h1
      omega
  | 3 =>
    have := g.os { o with m := 1099511627777 } (by simp [spoil, e])
    have h2 : (1099511627777 : Int) ≤ 1099511627776 := this.2.1.2
    omega
  | 4 =>
    have h2 : (0 : Int) ≤ -1 := g.q.1
    omega
  | 5 =>
    have h2 := congrArg List.length g.ps_
    have h3 := congrArg List.length h.ps_
    simp only [spoil, List.length_map, List.length_append, List.length_singleton] at h2 h3
    omega
  | 6 =>
    have := g.gs ⟨0, s.q + 1, 0⟩ (by simp [spoil])
    have h2 : s.q + 1 ≤ s.q := this.2.1.2
    omega
  | i + 7 =>
    have := asks_low g.as_ ⟨0, 0⟩ (by simp [spoil])
    have h2 : (0 : Int) < 0 := this
    omega
theorem spoil_other {ps : List Int} {s : St} (h : GoodS ps s) (i : Nat) : spoil (ps.length : Int) s i ≠ s := fun e => spoil_bad h i (by rw [e]; exact h)
end Go.Proofs.Ytcicpgiljceioaa.Pk
