/- How a state that comes in is opened. -/
import Derived.Test.YtcicpgiljceioaaZPackMath
import Derived.Test.YtcicpgiljceioaaZStVal
import Derived.Test.YtcicpgiljceioaaZRange
namespace Go.Proofs.Ytcicpgiljceioaa.Ar
open Go.ChangeShapes Go.WideShapes Go.ChangeAt Go.RowKit Go.Deep Go.Joins Go.Proofs.Ytcicpgiljceioaa.Pk
set_option linter.unusedVariables false
section
variable {H : Type} {enc : TypeId × Value → H} {W : World}
/-- A field that is an int. -/
theorem int_field {fuel : Nat} {v : Value} {y : DataW H × List MemPlace} {t : TypeId} (ht : t = 3) (h : DataW.trod enc Try.prog W 0 (fun _ => true) true fuel t [v] = some y) : ∃ z, v = .int .i64 z ∧ I64 z := by
  subst ht
  obtain ⟨z, q, _, w⟩ := DataW.trod_int Try.underlying3 h
  simp at q
  exact ⟨z, q, i64_rng w⟩
theorem wts_part {T : TypeId} {fs : Array Field} {d : DataW H} {ys : List (DataW H × List MemPlace)} (hs : Try.prog.underlying T = some (.struct fs)) (hw : WtsOk T d) (hd : d = .agg (ys.map (·.1))) {j : Nat} {f : Field} {y : DataW H × List MemPlace} (hf : fs[j]? = some f) (hy : ys[j]? = some y) : WtsOk f.type y.1 := fun x hx => hw x (by
  rw [hd]
  simp only [DataW.weights, hs]
  exact DataW.weights_mem_each (j := j) (by rw [List.getElem?_map, Array.getElem?_toList, hf]; rfl) (by rw [List.getElem?_map, hy]; rfl) x hx)
theorem elem_ce {fs : Array Field} (h0 : (fs[0]?).map (·.type) = some 3) (h1 : (fs[1]?).map (·.type) = some 3) (h2 : (fs[2]?).map (·.type) = some 3) (h3 : (fs[3]?).map (·.type) = some 3) : ElemOk enc W ceR Ce.I fs := by
  intro d ys n u hw hd hf
  obtain ⟨f0, g0, e0⟩ := Option.map_eq_some_iff.1 h0
  obtain ⟨f1, g1, e1⟩ := Option.map_eq_some_iff.1 h1
  obtain ⟨f2, g2, e2⟩ := Option.map_eq_some_iff.1 h2
  obtain ⟨f3, g3, e3⟩ := Option.map_eq_some_iff.1 h3
  obtain ⟨y0, _, t0⟩ := hf 0 f0 g0
  obtain ⟨y1, _, t1⟩ := hf 1 f1 g1
  obtain ⟨y2, _, t2⟩ := hf 2 f2 g2
  obtain ⟨y3, _, t3⟩ := hf 3 f3 g3
  obtain ⟨z0, q0, r0⟩ := int_field e0 t0
  obtain ⟨z1, q1, r1⟩ := int_field e1 t1
  obtain ⟨z2, q2, r2⟩ := int_field e2 t2
  obtain ⟨z3, q3, r3⟩ := int_field e3 t3
  refine ⟨⟨z0, z1, z2, z3⟩, ⟨r0, r1, r2, r3⟩, fun j hj => ?_⟩
  have hj : j < 4 := hj
  match j, hj with
  | 0, _ => rw [q0]; rfl
  | 1, _ => rw [q1]; rfl
  | 2, _ => rw [q2]; rfl
  | 3, _ => rw [q3]; rfl
theorem elem_mg {fs : Array Field} (h0 : (fs[0]?).map (·.type) = some 3) (h1 : (fs[1]?).map (·.type) = some 3) (h2 : (fs[2]?).map (·.type) = some 3) (h3 : (fs[3]?).map (·.type) = some 3) (h4 : (fs[4]?).map (·.type) = some 3) : ElemOk enc W mgR Mg.I fs := by
  intro d ys n u hw hd hf
  obtain ⟨f0, g0, e0⟩ := Option.map_eq_some_iff.1 h0
  obtain ⟨f1, g1, e1⟩ := Option.map_eq_some_iff.1 h1
  obtain ⟨f2, g2, e2⟩ := Option.map_eq_some_iff.1 h2
  obtain ⟨f3, g3, e3⟩ := Option.map_eq_some_iff.1 h3
  obtain ⟨f4, g4, e4⟩ := Option.map_eq_some_iff.1 h4
  obtain ⟨y0, _, t0⟩ := hf 0 f0 g0
  obtain ⟨y1, _, t1⟩ := hf 1 f1 g1
  obtain ⟨y2, _, t2⟩ := hf 2 f2 g2
  obtain ⟨y3, _, t3⟩ := hf 3 f3 g3
  obtain ⟨y4, _, t4⟩ := hf 4 f4 g4
  obtain ⟨z0, q0, r0⟩ := int_field e0 t0
  obtain ⟨z1, q1, r1⟩ := int_field e1 t1
  obtain ⟨z2, q2, r2⟩ := int_field e2 t2
  obtain ⟨z3, q3, r3⟩ := int_field e3 t3
  obtain ⟨z4, q4, r4⟩ := int_field e4 t4
  refine ⟨⟨z0, z1, z2, z3, z4⟩, ⟨r0, r1, r2, r3, r4⟩, fun j hj => ?_⟩
  have hj : j < 5 := hj
  match j, hj with
  | 0, _ => rw [q0]; rfl
  | 1, _ => rw [q1]; rfl
  | 2, _ => rw [q2]; rfl
  | 3, _ => rw [q3]; rfl
  | 4, _ => rw [q4]; rfl
theorem elem_ak {fs : Array Field} (h0 : (fs[0]?).map (·.type) = some 3) (h1 : (fs[1]?).map (·.type) = some 3) : ElemOk enc W akR (fun x => I64 x.o ∧ I64 x.n) fs := by
  intro d ys n u hw hd hf
  obtain ⟨f0, g0, e0⟩ := Option.map_eq_some_iff.1 h0
  obtain ⟨f1, g1, e1⟩ := Option.map_eq_some_iff.1 h1
  obtain ⟨y0, _, t0⟩ := hf 0 f0 g0
  obtain ⟨y1, _, t1⟩ := hf 1 f1 g1
  obtain ⟨z0, q0, r0⟩ := int_field e0 t0
  obtain ⟨z1, q1, r1⟩ := int_field e1 t1
  refine ⟨⟨z0, z1⟩, ⟨r0, r1⟩, fun j hj => ?_⟩
  have hj : j < 2 := hj
  match j, hj with
  | 0, _ => rw [q0]; rfl
  | 1, _ => rw [q1]; rfl
theorem elem_fd {fs : Array Field} (h0 : (fs[0]?).map (·.type) = some 3) (h1 : (fs[1]?).map (·.type) = some 3) (h2 : (fs[2]?).map (·.type) = some 3) : ElemOk enc W fdR (fun x => I64 x.o ∧ I64 x.n ∧ I64 x.w) fs := by
  intro d ys n u hw hd hf
  obtain ⟨f0, g0, e0⟩ := Option.map_eq_some_iff.1 h0
  obtain ⟨f1, g1, e1⟩ := Option.map_eq_some_iff.1 h1
  obtain ⟨f2, g2, e2⟩ := Option.map_eq_some_iff.1 h2
  obtain ⟨y0, _, t0⟩ := hf 0 f0 g0
  obtain ⟨y1, _, t1⟩ := hf 1 f1 g1
  obtain ⟨y2, _, t2⟩ := hf 2 f2 g2
  obtain ⟨z0, q0, r0⟩ := int_field e0 t0
  obtain ⟨z1, q1, r1⟩ := int_field e1 t1
  obtain ⟨z2, q2, r2⟩ := int_field e2 t2
  refine ⟨⟨z0, z1, z2⟩, ⟨r0, r1, r2⟩, fun j hj => ?_⟩
  have hj : j < 3 := hj
  match j, hj with
  | 0, _ => rw [q0]; rfl
  | 1, _ => rw [q1]; rfl
  | 2, _ => rw [q2]; rfl
/-- A slice that came in, as a whole. -/
theorem open_ce {t : TypeId} (ht : t = 53) {fuel : Nat} {v : Value} {y : DataW H × List MemPlace} (hf : DataW.trod enc Try.prog W 0 (fun _ => true) true fuel t [v] = some y) (hb : WtsOk t y.1) : ∃ (s : Sl) (l : List Ce), v = s.val ∧ InR ceR W s l ∧ ∀ x ∈ l, x.I := by
  subst ht
  obtain ⟨a, n, c, l, e, h1, h2, h3, h4⟩ := open_row ceR Ce.I Try.underlying57 (by kernel_rfl) (by kernel_rfl) (by kernel_rfl) (by kernel_rfl) (elem_ce (by kernel_rfl) (by kernel_rfl) (by kernel_rfl) (by kernel_rfl)) hf hb
  exact ⟨⟨a, n, c⟩, l, e, ⟨h1, h2, h3⟩, h4⟩
theorem open_mg {t : TypeId} (ht : t = 58) {fuel : Nat} {v : Value} {y : DataW H × List MemPlace} (hf : DataW.trod enc Try.prog W 0 (fun _ => true) true fuel t [v] = some y) (hb : WtsOk t y.1) : ∃ (s : Sl) (l : List Mg), v = s.val ∧ InR mgR W s l ∧ ∀ x ∈ l, x.I := by
  subst ht
  obtain ⟨a, n, c, l, e, h1, h2, h3, h4⟩ := open_row mgR Mg.I Try.underlying45 (by kernel_rfl) (by kernel_rfl) (by kernel_rfl) (by kernel_rfl) (elem_mg (by kernel_rfl) (by kernel_rfl) (by kernel_rfl) (by kernel_rfl) (by kernel_rfl)) hf hb
  exact ⟨⟨a, n, c⟩, l, e, ⟨h1, h2, h3⟩, h4⟩
theorem open_ak {t : TypeId} (ht : t = 27) {fuel : Nat} {v : Value} {y : DataW H × List MemPlace} (hf : DataW.trod enc Try.prog W 0 (fun _ => true) true fuel t [v] = some y) (hb : WtsOk t y.1) : ∃ (s : Sl) (l : List Ak), v = s.val ∧ InR akR W s l ∧ ∀ x ∈ l, I64 x.o ∧ I64 x.n := by
  subst ht
  obtain ⟨a, n, c, l, e, h1, h2, h3, h4⟩ := open_row akR _ Try.underlying64 (by kernel_rfl) (by kernel_rfl) (by kernel_rfl) (by kernel_rfl) (elem_ak (by kernel_rfl) (by kernel_rfl)) hf hb
  exact ⟨⟨a, n, c⟩, l, e, ⟨h1, h2, h3⟩, h4⟩
theorem open_fd {t : TypeId} (ht : t = 28) {fuel : Nat} {v : Value} {y : DataW H × List MemPlace} (hf : DataW.trod enc Try.prog W 0 (fun _ => true) true fuel t [v] = some y) (hb : WtsOk t y.1) : ∃ (s : Sl) (l : List Fnd), v = s.val ∧ InR fdR W s l ∧ ∀ x ∈ l, I64 x.o ∧ I64 x.n ∧ I64 x.w := by
  subst ht
  obtain ⟨a, n, c, l, e, h1, h2, h3, h4⟩ := open_row fdR _ Try.underlying62 (by kernel_rfl) (by kernel_rfl) (by kernel_rfl) (by kernel_rfl) (elem_fd (by kernel_rfl) (by kernel_rfl) (by kernel_rfl)) hf hb
  exact ⟨⟨a, n, c⟩, l, e, ⟨h1, h2, h3⟩, h4⟩
theorem elem_ow {fs : Array Field} (hs : Try.prog.underlying 55 = some (.struct fs)) (h0 : (fs[0]?).map (·.type) = some 3) (h1 : (fs[1]?).map (·.type) = some 3) (h2 : (fs[2]?).map (·.type) = some 53) : ElemOk enc W owR (fun x => x.Ok W) fs := by
  intro d ys n u hw hd hf
  obtain ⟨f0, g0, e0⟩ := Option.map_eq_some_iff.1 h0
  obtain ⟨f1, g1, e1⟩ := Option.map_eq_some_iff.1 h1
  obtain ⟨f2, g2, e2⟩ := Option.map_eq_some_iff.1 h2
  obtain ⟨y0, _, t0⟩ := hf 0 f0 g0
  obtain ⟨y1, _, t1⟩ := hf 1 f1 g1
  obtain ⟨y2, i2, t2⟩ := hf 2 f2 g2
  obtain ⟨z0, q0, r0⟩ := int_field e0 t0
  obtain ⟨z1, q1, r1⟩ := int_field e1 t1
  obtain ⟨s, l, q2, r2, r3⟩ := open_ce e2 t2 (wts_part hs hw hd g2 i2)
  refine ⟨⟨⟨z0, z1, l⟩, s⟩, ⟨r0, r1, r2, r3⟩, fun j hj => ?_⟩
  have hj : j < 3 := hj
  match j, hj with
  | 0, _ => rw [q0]; rfl
  | 1, _ => rw [q1]; rfl
  | 2, _ => rw [q2]; rfl
theorem elem_sd {fs : Array Field} (hs : Try.prog.underlying 60 = some (.struct fs)) (h0 : (fs[0]?).map (·.type) = some 3) (h1 : (fs[1]?).map (·.type) = some 3) (h2 : (fs[2]?).map (·.type) = some 58) (h3 : (fs[3]?).map (·.type) = some 3) : ElemOk enc W sdR (fun x => x.Ok W) fs := by
  intro d ys n u hw hd hf
  obtain ⟨f0, g0, e0⟩ := Option.map_eq_some_iff.1 h0
  obtain ⟨f1, g1, e1⟩ := Option.map_eq_some_iff.1 h1
  obtain ⟨f2, g2, e2⟩ := Option.map_eq_some_iff.1 h2
  obtain ⟨f3, g3, e3⟩ := Option.map_eq_some_iff.1 h3
  obtain ⟨y0, _, t0⟩ := hf 0 f0 g0
  obtain ⟨y1, _, t1⟩ := hf 1 f1 g1
  obtain ⟨y2, i2, t2⟩ := hf 2 f2 g2
  obtain ⟨y3, _, t3⟩ := hf 3 f3 g3
  obtain ⟨z0, q0, r0⟩ := int_field e0 t0
  obtain ⟨z1, q1, r1⟩ := int_field e1 t1
  obtain ⟨s, l, q2, r2, r4⟩ := open_mg e2 t2 (wts_part hs hw hd g2 i2)
  obtain ⟨z3, q3, r3⟩ := int_field e3 t3
  refine ⟨⟨⟨z0, z1, l, z3⟩, s⟩, ⟨r0, r1, r3, r2, r4⟩, fun j hj => ?_⟩
  have hj : j < 4 := hj
  match j, hj with
  | 0, _ => rw [q0]; rfl
  | 1, _ => rw [q1]; rfl
  | 2, _ => rw [q2]; rfl
  | 3, _ => rw [q3]; rfl
theorem open_ow {t : TypeId} (ht : t = 25) {fuel : Nat} {v : Value} {y : DataW H × List MemPlace} (hf : DataW.trod enc Try.prog W 0 (fun _ => true) true fuel t [v] = some y) (hb : WtsOk t y.1) : ∃ (s : Sl) (l : List OwL), v = s.val ∧ InR owR W s l ∧ ∀ x ∈ l, x.Ok W := by
  subst ht
  obtain ⟨a, n, c, l, e, h1, h2, h3, h4⟩ := open_row owR _ Try.underlying55 (by kernel_rfl) (by kernel_rfl) (by kernel_rfl) (by kernel_rfl) (elem_ow Try.underlying55 (by kernel_rfl) (by kernel_rfl) (by kernel_rfl)) hf hb
  exact ⟨⟨a, n, c⟩, l, e, ⟨h1, h2, h3⟩, h4⟩
theorem open_sd {t : TypeId} (ht : t = 26) {fuel : Nat} {v : Value} {y : DataW H × List MemPlace} (hf : DataW.trod enc Try.prog W 0 (fun _ => true) true fuel t [v] = some y) (hb : WtsOk t y.1) : ∃ (s : Sl) (l : List SdL), v = s.val ∧ InR sdR W s l ∧ ∀ x ∈ l, x.Ok W := by
  subst ht
  obtain ⟨a, n, c, l, e, h1, h2, h3, h4⟩ := open_row sdR _ Try.underlying60 (by kernel_rfl) (by kernel_rfl) (by kernel_rfl) (by kernel_rfl) (elem_sd Try.underlying60 (by kernel_rfl) (by kernel_rfl) (by kernel_rfl) (by kernel_rfl)) hf hb
  exact ⟨⟨a, n, c⟩, l, e, ⟨h1, h2, h3⟩, h4⟩
set_option maxRecDepth 100000 in
theorem open_st {r : Reach} {b0 : Nat} {v : Value} {d : DataW H} {ps : List MemPlace} (hv : Value.okWide Try.prog W r b0 30 v) (h : DataW.Trod enc Try.prog W 0 (fun _ => true) true 30 v d ps) (hb : WtsOk 30 d) : ∃ s : StL, v = s.val ∧ InS W s := by
  have hst : ∃ f0 f1 f2 f3 f4 f5, Try.prog.underlying 30 = some (.struct #[f0, f1, f2, f3, f4, f5]) ∧ oneCellFields Try.prog #[f0, f1, f2, f3, f4, f5] = true ∧ Try.prog.cellsOf 30 = 6 ∧ f0.type = 3 ∧ f1.type = 25 ∧ f2.type = 26 ∧ f3.type = 3 ∧ f4.type = 27 ∧ f5.type = 28 :=
    ⟨_, _, _, _, _, _, Try.underlying30, by kernel_rfl, by kernel_rfl, rfl, rfl, rfl, rfl, rfl, rfl⟩
  obtain ⟨f0, f1, f2, f3, f4, f5, hs, hone, hc, e0, e1, e2, e3, e4, e5⟩ := hst
  obtain ⟨cs, rfl, hsz⟩ := okWide_struct hs hv
  obtain ⟨c0, c1, c2, c3, c4, c5, rfl⟩ : ∃ c0 c1 c2 c3 c4 c5, cs = #[c0, c1, c2, c3, c4, c5] := by
    have h5 := hsz.trans hc
    obtain ⟨l⟩ := cs
    match l, h5 with
    | [c0, c1, c2, c3, c4, c5], _ => exact ⟨c0, c1, c2, c3, c4, c5, rfl⟩
  obtain ⟨fuel, hf⟩ := h
  obtain ⟨xs, n, _, hx, _, hlen, hff⟩ := DataW.trod_struct hs hf
  have hd : d = .agg (xs.map (·.1)) := by simp only [Prod.mk.injEq] at hx; exact hx.1
  obtain ⟨x0, x1, x2, x3, x4, x5, rfl⟩ : ∃ x0 x1 x2 x3 x4 x5, xs = [x0, x1, x2, x3, x4, x5] := by
    match xs, hlen with
    | [x0, x1, x2, x3, x4, x5], _ => exact ⟨x0, x1, x2, x3, x4, x5, rfl⟩
  have part : ∀ (j : Nat) (f : Field) (u : Value) (x : DataW H × List MemPlace), #[f0, f1, f2, f3, f4, f5][j]? = some f → #[c0, c1, c2, c3, c4, c5][j]? = some u → [x0, x1, x2, x3, x4, x5][j]? = some x → DataW.trod enc Try.prog W 0 (fun _ => true) true n f.type [u] = some x ∧ WtsOk f.type x.1 := by
    intro j f u x h1 h2 h3
    obtain ⟨o, k⟩ := hone_of hone j f h1
    have h4 := hff j f h1
    rw [o, k] at h4
    have h6 : ((Value.agg #[c0, c1, c2, c3, c4, c5]).cells.toList.drop j).take 1 = [u] := by
      have hj : j < 6 := (Array.getElem?_eq_some_iff.1 h1).1
      match j, hj with
      | 0, _ => simp at h2; subst h2; rfl
      | 1, _ => simp at h2; subst h2; rfl
      | 2, _ => simp at h2; subst h2; rfl
      | 3, _ => simp at h2; subst h2; rfl
      | 4, _ => simp at h2; subst h2; rfl
      | 5, _ => simp at h2; subst h2; rfl
    rw [h6, h3] at h4
    exact ⟨h4, wts_part hs hb hd h1 h3⟩
  obtain ⟨z0, q0, r0⟩ := int_field e0 (part 0 f0 c0 x0 rfl rfl rfl).1
  obtain ⟨s1, l1, q1, r1, i1⟩ := open_ow e1 (part 1 f1 c1 x1 rfl rfl rfl).1 (part 1 f1 c1 x1 rfl rfl rfl).2
  obtain ⟨s2, l2, q2, r2, i2⟩ := open_sd e2 (part 2 f2 c2 x2 rfl rfl rfl).1 (part 2 f2 c2 x2 rfl rfl rfl).2
  obtain ⟨z3, q3, r3⟩ := int_field e3 (part 3 f3 c3 x3 rfl rfl rfl).1
  obtain ⟨s4, l4, q4, r4, i4⟩ := open_ak e4 (part 4 f4 c4 x4 rfl rfl rfl).1 (part 4 f4 c4 x4 rfl rfl rfl).2
  obtain ⟨s5, l5, q5, r5, i5⟩ := open_fd e5 (part 5 f5 c5 x5 rfl rfl rfl).1 (part 5 f5 c5 x5 rfl rfl rfl).2
  refine ⟨⟨z0, l1, s1, l2, s2, z3, l4, s4, l5, s5⟩, ?_, ⟨r0, r3, r1, r2, r4, r5, i1, i2, i4, i5⟩⟩
  rw [q0, q1, q2, q3, q4, q5]; rfl
end
end Go.Proofs.Ytcicpgiljceioaa.Ar

/- How an argument that is a list of numbers is opened. -/
namespace Go.Proofs.Ytcicpgiljceioaa.Ar
open Go.ChangeShapes Go.WideShapes Go.ChangeAt Go.RowKit Go.Proofs.Ytcicpgiljceioaa.Pk
set_option linter.unusedVariables false
theorem bytes3 : Try.prog.bytesOf 3 = 8 := by kernel_rfl
/-- A list of numbers that came in. -/
def ArgN (w : World) (a : Option Addr) (n c : Nat) (l : List Int) : Prop := Reads w w.heap.size 1 a n (nms l) ∧ n ≤ c ∧ c * 8 ≤ 140737488351232 ∧ ∀ x ∈ l, -9223372036854775808 ≤ x ∧ x ≤ 9223372036854775807

section
variable {H : Type} {enc : TypeId × Value → H} {W : World} {d : DataW H} {ps : List MemPlace}
theorem open_n {a : Option Addr} {n c : Nat} (h : DataW.Trod enc Try.prog W 0 (fun _ => true) true 22 (.slice a n c) d ps)
    (hsz : ∀ elems spare, d = .slice elems spare → (elems.length + spare.length) * Try.prog.bytesOf 3 ≤ reachBytes) : ∃ l, ArgN W a n c l ∧ n < Rows.uptoBulk d := by
  obtain ⟨l, h1, h2, h3, h4, h5⟩ := open_raw Try.underlying22 Try.underlying3 (by kernel_rfl) h hsz
  rw [bytes3] at h3
  unfold reachBytes at h3
  exact ⟨l, ⟨h1, h2, by omega, fun x hx => i64_rng (h4 x hx)⟩, h5⟩
end
end Go.Proofs.Ytcicpgiljceioaa.Ar

/- How numbers, a message, a state that come in are opened. -/
namespace Go.Proofs.Ytcicpgiljceioaa.Ar
open Go.ChangeShapes Go.WideShapes Go.ChangeAt Go.RowKit Go.Deep Go.Joins Go.Proofs.Ytcicpgiljceioaa.Pk
set_option linter.unusedVariables false
section
variable {H : Type} {enc : TypeId × Value → H} {W : World} {d : DataW H} {ps : List MemPlace}
set_option maxRecDepth 100000 in
theorem open_g {r : Reach} {b0 : Nat} {v : Value} (hv : Value.okWide Try.prog W r b0 45 v) (h : DataW.Trod enc Try.prog W 0 (fun _ => true) true 45 v d ps) : ∃ m : Mg, v = m.val ∧ m.I := by
  have hst : ∃ f0 f1 f2 f3 f4, Try.prog.underlying 45 = some (.struct #[f0, f1, f2, f3, f4]) ∧ oneCellFields Try.prog #[f0, f1, f2, f3, f4] = true ∧ Try.prog.cellsOf 45 = 5 ∧ f0.type = 3 ∧ f1.type = 3 ∧ f2.type = 3 ∧ f3.type = 3 ∧ f4.type = 3 :=
    ⟨_, _, _, _, _, Try.underlying45, by kernel_rfl, by kernel_rfl, rfl, rfl, rfl, rfl, rfl⟩
  obtain ⟨f0, f1, f2, f3, f4, hs, hone, hc, t0, t1, t2, t3, t4⟩ := hst
  obtain ⟨cs, rfl, hsz⟩ := okWide_struct hs hv
  obtain ⟨c0, c1, c2, c3, c4, rfl⟩ : ∃ c0 c1 c2 c3 c4, cs = #[c0, c1, c2, c3, c4] := by
    have h5 := hsz.trans hc
    obtain ⟨l⟩ := cs
    match l, h5 with
    | [c0, c1, c2, c3, c4], _ => exact ⟨c0, c1, c2, c3, c4, rfl⟩
  obtain ⟨fuel, hf⟩ := h
  obtain ⟨xs, n, _, _, _, hlen, hff⟩ := DataW.trod_struct hs hf
  obtain ⟨o0, k0⟩ := hone_of hone 0 f0 rfl
  obtain ⟨o1, k1⟩ := hone_of hone 1 f1 rfl
  obtain ⟨o2, k2⟩ := hone_of hone 2 f2 rfl
  obtain ⟨o3, k3⟩ := hone_of hone 3 f3 rfl
  obtain ⟨o4, k4⟩ := hone_of hone 4 f4 rfl
  have h0 := hff 0 f0 rfl
  rw [t0] at k0 h0
  have h1 := hff 1 f1 rfl
  rw [t1] at k1 h1
  have h2 := hff 2 f2 rfl
  rw [t2] at k2 h2
  have h3 := hff 3 f3 rfl
  rw [t3] at k3 h3
  have h4 := hff 4 f4 rfl
  rw [t4] at k4 h4
  match xs, hlen with
  | [x0, x1, x2, x3, x4], _ =>
  obtain ⟨z0, q0, _, w0⟩ := DataW.trod_int Try.underlying3 (show DataW.trod enc Try.prog W 0 (fun _ => true) true n 3 [c0] = some x0 by simpa [Value.cells, o0, k0] using h0)
  obtain ⟨z1, q1, _, w1⟩ := DataW.trod_int Try.underlying3 (show DataW.trod enc Try.prog W 0 (fun _ => true) true n 3 [c1] = some x1 by simpa [Value.cells, o1, k1] using h1)
  obtain ⟨z2, q2, _, w2⟩ := DataW.trod_int Try.underlying3 (show DataW.trod enc Try.prog W 0 (fun _ => true) true n 3 [c2] = some x2 by simpa [Value.cells, o2, k2] using h2)
  obtain ⟨z3, q3, _, w3⟩ := DataW.trod_int Try.underlying3 (show DataW.trod enc Try.prog W 0 (fun _ => true) true n 3 [c3] = some x3 by simpa [Value.cells, o3, k3] using h3)
  obtain ⟨z4, q4, _, w4⟩ := DataW.trod_int Try.underlying3 (show DataW.trod enc Try.prog W 0 (fun _ => true) true n 3 [c4] = some x4 by simpa [Value.cells, o4, k4] using h4)
  simp at q0 q1 q2 q3 q4
  subst q0; subst q1; subst q2; subst q3; subst q4
  exact ⟨⟨z0, z1, z2, z3, z4⟩, rfl, i64_rng w0, i64_rng w1, i64_rng w2, i64_rng w3, i64_rng w4⟩
end
end Go.Proofs.Ytcicpgiljceioaa.Ar
