/- A node's state, and how it lies in memory. -/
import Derived.Test.YtiaafhcfeeekeaaZCeVal
import Derived.Test.YtiaafhcfeeekeaaZHfMath
import Derived.Test.YtiaafhcfeeekeaaZRange
namespace Go.Proofs.Ytiaafhcfeeekeaa.Pk
open Go.RowKit
set_option linter.unusedVariables false
def I64 (x : Int) : Prop := -9223372036854775808 ≤ x ∧ x ≤ 9223372036854775807
/-- An object of a node; a side of an edge; a locate that is open; one that is answered; the state. -/
structure Ow where
  a : Int
  m : Int
  c : List Ce
  deriving DecidableEq
structure Ak where
  o : Int
  n : Int
  deriving DecidableEq
structure Fnd where
  o : Int
  n : Int
  w : Int
  deriving DecidableEq
structure St where
  me : Int
  os : List Ow
  es : List Hf
  q : Int
  as_ : List Ak
  gs : List Fnd
  deriving DecidableEq
def St.zero : St := ⟨0, [], [], 0, [], []⟩
/-- A slice as it lies. -/
structure Sl where
  A : Option Addr
  n : Nat
  c : Nat
def Sl.val (s : Sl) : Value := .slice s.A s.n s.c
/-- An object, a side as they lie: the list in them is a slice. -/
structure OwL where
  v : Ow
  s : Sl
structure SdL where
  v : Hf
  s : Sl
instance : Inhabited Ow := ⟨⟨0, 0, []⟩⟩
instance : Inhabited Sl := ⟨⟨none, 0, 0⟩⟩
instance : Inhabited OwL := ⟨⟨default, default⟩⟩
instance : Inhabited SdL := ⟨⟨⟨0, 0, [], 0⟩, default⟩⟩
instance : Inhabited Ak := ⟨⟨0, 0⟩⟩
instance : Inhabited Fnd := ⟨⟨0, 0, 0⟩⟩
instance : Inhabited Ce := ⟨Ce.zero⟩
instance : Inhabited Mg := ⟨⟨0, 0, 0, 0, 0⟩⟩
def ceR : Row Ce where
  enc m := [.int .i64 m.n, .int .i64 m.s, .int .i64 m.d, .int .i64 m.x]
  k := 4
  T := 57
  S := 53
  z := .agg #[.int .i64 0, .int .i64 0, .int .i64 0, .int .i64 0]
  by_ := 32
  len _ := rfl
  one x u hu := by simp at hu; rcases hu with rfl | rfl | rfl | rfl <;> rfl
  und := Try.underlying53
  info := by kernel_rfl
  zc := rfl
  pos := by omega
  bpos := by omega
def mgR : Row Mg where
  enc m := [.int .i64 m.k, .int .i64 m.o, .int .i64 m.n, .int .i64 m.u, .int .i64 m.v]
  k := 5
  T := 30
  S := 48
  z := .agg #[.int .i64 0, .int .i64 0, .int .i64 0, .int .i64 0, .int .i64 0]
  by_ := 40
  len _ := rfl
  one x u hu := by simp at hu; rcases hu with rfl | rfl | rfl | rfl | rfl <;> rfl
  und := Try.underlying48
  info := by kernel_rfl
  zc := rfl
  pos := by omega
  bpos := by omega
def owR : Row OwL where
  enc o := [.int .i64 o.v.a, .int .i64 o.v.m, o.s.val]
  k := 3
  T := 55
  S := 23
  z := .agg #[.int .i64 0, .int .i64 0, .slice none 0 0]
  by_ := 40
  len _ := rfl
  one x u hu := by simp [Sl.val] at hu; rcases hu with rfl | rfl | rfl <;> rfl
  und := Try.underlying23
  info := by kernel_rfl
  zc := rfl
  pos := by omega
  bpos := by omega
def sdR : Row SdL where
  enc e := [.int .i64 e.v.p, .int .i64 e.v.b, e.s.val, .int .i64 e.v.s]
  k := 4
  T := 50
  S := 24
  z := .agg #[.int .i64 0, .int .i64 0, .slice none 0 0, .int .i64 0]
  by_ := 48
  len _ := rfl
  one x u hu := by simp [Sl.val] at hu; rcases hu with rfl | rfl | rfl | rfl <;> rfl
  und := Try.underlying24
  info := by kernel_rfl
  zc := rfl
  pos := by omega
  bpos := by omega
def akR : Row Ak where
  enc m := [.int .i64 m.o, .int .i64 m.n]
  k := 2
  T := 59
  S := 25
  z := .agg #[.int .i64 0, .int .i64 0]
  by_ := 16
  len _ := rfl
  one x u hu := by simp at hu; rcases hu with rfl | rfl <;> rfl
  und := Try.underlying25
  info := by kernel_rfl
  zc := rfl
  pos := by omega
  bpos := by omega
def fdR : Row Fnd where
  enc m := [.int .i64 m.o, .int .i64 m.n, .int .i64 m.w]
  k := 3
  T := 61
  S := 26
  z := .agg #[.int .i64 0, .int .i64 0, .int .i64 0]
  by_ := 24
  len _ := rfl
  one x u hu := by simp at hu; rcases hu with rfl | rfl | rfl <;> rfl
  und := Try.underlying26
  info := by kernel_rfl
  zc := rfl
  pos := by omega
  bpos := by omega
/-- A list that is read at a slice. -/
structure InR {α : Type} (R : Row α) (w : World) (s : Sl) (l : List α) : Prop where
  rd : Reads w w.heap.size R.k s.A s.n (R.cells l)
  cap : s.n ≤ s.c
  few : s.n * R.by_ ≤ 140737488351232
theorem InR.len {α : Type} {R : Row α} {w : World} {s : Sl} {l : List α} (h : InR R w s l) : l.length = s.n := R.klen h.rd
theorem InR.next {α : Type} {R : Row α} {w w' : World} {s : Sl} {l : List α} (h : InR R w s l) (hb : Below w.heap.size w w') : InR R w' s l := ⟨(h.rd.below hb).more hb.size, h.cap, h.few⟩
/-- An object, a side, that came in. -/
structure OwL.Ok (w : World) (o : OwL) : Prop where
  a : I64 o.v.a
  m : I64 o.v.m
  c : InR ceR w o.s o.v.c
  i : ∀ x ∈ o.v.c, x.I
structure SdL.Ok (w : World) (e : SdL) : Prop where
  p : I64 e.v.p
  b : I64 e.v.b
  s : I64 e.v.s
  o : InR mgR w e.s e.v.o
  i : ∀ x ∈ e.v.o, x.I
theorem OwL.Ok.next {w w' : World} {o : OwL} (h : o.Ok w) (hb : Below w.heap.size w w') : o.Ok w' := ⟨h.a, h.m, h.c.next hb, h.i⟩
theorem SdL.Ok.next {w w' : World} {e : SdL} (h : e.Ok w) (hb : Below w.heap.size w w') : e.Ok w' := ⟨h.p, h.b, h.s, h.o.next hb, h.i⟩
/-- A state as it lies. -/
structure StL where
  me : Int
  os : List OwL
  so : Sl
  es : List SdL
  se : Sl
  q : Int
  as_ : List Ak
  sa : Sl
  gs : List Fnd
  sg : Sl
def StL.v (s : StL) : St := ⟨s.me, s.os.map (·.v), s.es.map (·.v), s.q, s.as_, s.gs⟩
def StL.val (s : StL) : Value := .agg #[.int .i64 s.me, s.so.val, s.se.val, .int .i64 s.q, s.sa.val, s.sg.val]
/-- A state that is handed over. -/
structure InS (w : World) (s : StL) : Prop where
  me : I64 s.me
  q : I64 s.q
  os : InR owR w s.so s.os
  es : InR sdR w s.se s.es
  as_ : InR akR w s.sa s.as_
  gs : InR fdR w s.sg s.gs
  o : ∀ x ∈ s.os, x.Ok w
  e : ∀ x ∈ s.es, x.Ok w
  a : ∀ x ∈ s.as_, I64 x.o ∧ I64 x.n
  g : ∀ x ∈ s.gs, I64 x.o ∧ I64 x.n ∧ I64 x.w
theorem InS.next {w w' : World} {s : StL} (h : InS w s) (hb : Below w.heap.size w w') : InS w' s :=
  ⟨h.me, h.q, h.os.next hb, h.es.next hb, h.as_.next hb, h.gs.next hb, fun x hx => (h.o x hx).next hb, fun x hx => (h.e x hx).next hb, h.a, h.g⟩
end Go.Proofs.Ytiaafhcfeeekeaa.Pk

/- How a state that comes in is opened. -/
namespace Go.Proofs.Ytiaafhcfeeekeaa.Ar
open Go.ChangeShapes Go.WideShapes Go.ChangeAt Go.RowKit Go.Deep Go.Joins Go.Proofs.Ytiaafhcfeeekeaa.Pk
set_option linter.unusedVariables false
section
variable {H : Type} {enc : TypeId × Value → H} {W : World}
/-- A field that is an int. -/
theorem int_field {fuel : Nat} {v : Value} {y : DataW H × List MemPlace} {t : TypeId} (ht : t = 3) (h : DataW.trod enc Try.prog W 0 (fun _ => true) true fuel t [v] = some y) : ∃ z, v = .int .i64 z ∧ I64 z := by
  subst ht
  obtain ⟨z, q, _, w⟩ := DataW.trod_int Try.underlying3 h
  simp at q
  exact ⟨z, q, i64_rng w⟩
theorem wts_part {T : TypeId} {fs : Array Field} {d : DataW H} {ys : List (DataW H × List MemPlace)} (hs : Try.prog.underlying T = some (.struct fs)) (hw : WtsOk T d) (hd : d = .agg (ys.map (·.1))) {j : Nat} {f : Field} {y : DataW H × List MemPlace} (hf : fs[j]? = some f) (hy : ys[j]? = some y) : WtsOk f.type y.1 := fun x hx => hw x (by
  rw [hd]
  simp only [DataW.weights, hs]
  exact DataW.weights_mem_each (j := j) (by rw [List.getElem?_map, Array.getElem?_toList, hf]; rfl) (by rw [List.getElem?_map, hy]; rfl) x hx)
theorem elem_ce {fs : Array Field} (h0 : (fs[0]?).map (·.type) = some 3) (h1 : (fs[1]?).map (·.type) = some 3) (h2 : (fs[2]?).map (·.type) = some 3) (h3 : (fs[3]?).map (·.type) = some 3) : ElemOk enc W ceR Ce.I fs := by
  intro d ys n u hw hd hf
  obtain ⟨f0, g0, e0⟩ := Option.map_eq_some_iff.1 h0
  obtain ⟨f1, g1, e1⟩ := Option.map_eq_some_iff.1 h1
  obtain ⟨f2, g2, e2⟩ := Option.map_eq_some_iff.1 h2
  obtain ⟨f3, g3, e3⟩ := Option.map_eq_some_iff.1 h3
  obtain ⟨y0, _, t0⟩ := hf 0 f0 g0
  obtain ⟨y1, _, t1⟩ := hf 1 f1 g1
  obtain ⟨y2, _, t2⟩ := hf 2 f2 g2
  obtain ⟨y3, _, t3⟩ := hf 3 f3 g3
  obtain ⟨z0, q0, r0⟩ := int_field e0 t0
  obtain ⟨z1, q1, r1⟩ := int_field e1 t1
  obtain ⟨z2, q2, r2⟩ := int_field e2 t2
  obtain ⟨z3, q3, r3⟩ := int_field e3 t3
  refine ⟨⟨z0, z1, z2, z3⟩, ⟨r0, r1, r2, r3⟩, fun j hj => ?_⟩
  have hj : j < 4 := hj
  match j, hj with
  | 0, _ => rw [q0]; rfl
  | 1, _ => rw [q1]; rfl
  | 2, _ => rw [q2]; rfl
  | 3, _ => rw [q3]; rfl
theorem elem_mg {fs : Array Field} (h0 : (fs[0]?).map (·.type) = some 3) (h1 : (fs[1]?).map (·.type) = some 3) (h2 : (fs[2]?).map (·.type) = some 3) (h3 : (fs[3]?).map (·.type) = some 3) (h4 : (fs[4]?).map (·.type) = some 3) : ElemOk enc W mgR Mg.I fs := by
  intro d ys n u hw hd hf
  obtain ⟨f0, g0, e0⟩ := Option.map_eq_some_iff.1 h0
  obtain ⟨f1, g1, e1⟩ := Option.map_eq_some_iff.1 h1
  obtain ⟨f2, g2, e2⟩ := Option.map_eq_some_iff.1 h2
  obtain ⟨f3, g3, e3⟩ := Option.map_eq_some_iff.1 h3
  obtain ⟨f4, g4, e4⟩ := Option.map_eq_some_iff.1 h4
  obtain ⟨y0, _, t0⟩ := hf 0 f0 g0
  obtain ⟨y1, _, t1⟩ := hf 1 f1 g1
  obtain ⟨y2, _, t2⟩ := hf 2 f2 g2
  obtain ⟨y3, _, t3⟩ := hf 3 f3 g3
  obtain ⟨y4, _, t4⟩ := hf 4 f4 g4
  obtain ⟨z0, q0, r0⟩ := int_field e0 t0
  obtain ⟨z1, q1, r1⟩ := int_field e1 t1
  obtain ⟨z2, q2, r2⟩ := int_field e2 t2
  obtain ⟨z3, q3, r3⟩ := int_field e3 t3
  obtain ⟨z4, q4, r4⟩ := int_field e4 t4
  refine ⟨⟨z0, z1, z2, z3, z4⟩, ⟨r0, r1, r2, r3, r4⟩, fun j hj => ?_⟩
  have hj : j < 5 := hj
  match j, hj with
  | 0, _ => rw [q0]; rfl
  | 1, _ => rw [q1]; rfl
  | 2, _ => rw [q2]; rfl
  | 3, _ => rw [q3]; rfl
  | 4, _ => rw [q4]; rfl
theorem elem_ak {fs : Array Field} (h0 : (fs[0]?).map (·.type) = some 3) (h1 : (fs[1]?).map (·.type) = some 3) : ElemOk enc W akR (fun x => I64 x.o ∧ I64 x.n) fs := by
  intro d ys n u hw hd hf
  obtain ⟨f0, g0, e0⟩ := Option.map_eq_some_iff.1 h0
  obtain ⟨f1, g1, e1⟩ := Option.map_eq_some_iff.1 h1
  obtain ⟨y0, _, t0⟩ := hf 0 f0 g0
  obtain ⟨y1, _, t1⟩ := hf 1 f1 g1
  obtain ⟨z0, q0, r0⟩ := int_field e0 t0
  obtain ⟨z1, q1, r1⟩ := int_field e1 t1
  refine ⟨⟨z0, z1⟩, ⟨r0, r1⟩, fun j hj => ?_⟩
  have hj : j < 2 := hj
  match j, hj with
  | 0, _ => rw [q0]; rfl
  | 1, _ => rw [q1]; rfl
theorem elem_fd {fs : Array Field} (h0 : (fs[0]?).map (·.type) = some 3) (h1 : (fs[1]?).map (·.type) = some 3) (h2 : (fs[2]?).map (·.type) = some 3) : ElemOk enc W fdR (fun x => I64 x.o ∧ I64 x.n ∧ I64 x.w) fs := by
  intro d ys n u hw hd hf
  obtain ⟨f0, g0, e0⟩ := Option.map_eq_some_iff.1 h0
  obtain ⟨f1, g1, e1⟩ := Option.map_eq_some_iff.1 h1
  obtain ⟨f2, g2, e2⟩ := Option.map_eq_some_iff.1 h2
  obtain ⟨y0, _, t0⟩ := hf 0 f0 g0
  obtain ⟨y1, _, t1⟩ := hf 1 f1 g1
  obtain ⟨y2, _, t2⟩ := hf 2 f2 g2
  obtain ⟨z0, q0, r0⟩ := int_field e0 t0
  obtain ⟨z1, q1, r1⟩ := int_field e1 t1
  obtain ⟨z2, q2, r2⟩ := int_field e2 t2
  refine ⟨⟨z0, z1, z2⟩, ⟨r0, r1, r2⟩, fun j hj => ?_⟩
  have hj : j < 3 := hj
  match j, hj with
  | 0, _ => rw [q0]; rfl
  | 1, _ => rw [q1]; rfl
  | 2, _ => rw [q2]; rfl
/-- A slice that came in, as a whole. -/
theorem open_ce {t : TypeId} (ht : t = 53) {fuel : Nat} {v : Value} {y : DataW H × List MemPlace} (hf : DataW.trod enc Try.prog W 0 (fun _ => true) true fuel t [v] = some y) (hb : WtsOk t y.1) : ∃ (s : Sl) (l : List Ce), v = s.val ∧ InR ceR W s l ∧ ∀ x ∈ l, x.I := by
  subst ht
  obtain ⟨a, n, c, l, e, h1, h2, h3, h4⟩ := open_row ceR Ce.I Try.underlying57 (by kernel_rfl) (by kernel_rfl) (by kernel_rfl) (by kernel_rfl) (elem_ce (by kernel_rfl) (by kernel_rfl) (by kernel_rfl) (by kernel_rfl)) hf hb
  exact ⟨⟨a, n, c⟩, l, e, ⟨h1, h2, h3⟩, h4⟩
theorem open_mg {t : TypeId} (ht : t = 48) {fuel : Nat} {v : Value} {y : DataW H × List MemPlace} (hf : DataW.trod enc Try.prog W 0 (fun _ => true) true fuel t [v] = some y) (hb : WtsOk t y.1) : ∃ (s : Sl) (l : List Mg), v = s.val ∧ InR mgR W s l ∧ ∀ x ∈ l, x.I := by
  subst ht
  obtain ⟨a, n, c, l, e, h1, h2, h3, h4⟩ := open_row mgR Mg.I Try.underlying30 (by kernel_rfl) (by kernel_rfl) (by kernel_rfl) (by kernel_rfl) (elem_mg (by kernel_rfl) (by kernel_rfl) (by kernel_rfl) (by kernel_rfl) (by kernel_rfl)) hf hb
  exact ⟨⟨a, n, c⟩, l, e, ⟨h1, h2, h3⟩, h4⟩
theorem open_ak {t : TypeId} (ht : t = 25) {fuel : Nat} {v : Value} {y : DataW H × List MemPlace} (hf : DataW.trod enc Try.prog W 0 (fun _ => true) true fuel t [v] = some y) (hb : WtsOk t y.1) : ∃ (s : Sl) (l : List Ak), v = s.val ∧ InR akR W s l ∧ ∀ x ∈ l, I64 x.o ∧ I64 x.n := by
  subst ht
  obtain ⟨a, n, c, l, e, h1, h2, h3, h4⟩ := open_row akR _ Try.underlying59 (by kernel_rfl) (by kernel_rfl) (by kernel_rfl) (by kernel_rfl) (elem_ak (by kernel_rfl) (by kernel_rfl)) hf hb
  exact ⟨⟨a, n, c⟩, l, e, ⟨h1, h2, h3⟩, h4⟩
theorem open_fd {t : TypeId} (ht : t = 26) {fuel : Nat} {v : Value} {y : DataW H × List MemPlace} (hf : DataW.trod enc Try.prog W 0 (fun _ => true) true fuel t [v] = some y) (hb : WtsOk t y.1) : ∃ (s : Sl) (l : List Fnd), v = s.val ∧ InR fdR W s l ∧ ∀ x ∈ l, I64 x.o ∧ I64 x.n ∧ I64 x.w := by
  subst ht
  obtain ⟨a, n, c, l, e, h1, h2, h3, h4⟩ := open_row fdR _ Try.underlying61 (by kernel_rfl) (by kernel_rfl) (by kernel_rfl) (by kernel_rfl) (elem_fd (by kernel_rfl) (by kernel_rfl) (by kernel_rfl)) hf hb
  exact ⟨⟨a, n, c⟩, l, e, ⟨h1, h2, h3⟩, h4⟩
theorem elem_ow {fs : Array Field} (hs : Try.prog.underlying 55 = some (.struct fs)) (h0 : (fs[0]?).map (·.type) = some 3) (h1 : (fs[1]?).map (·.type) = some 3) (h2 : (fs[2]?).map (·.type) = some 53) : ElemOk enc W owR (fun x => x.Ok W) fs := by
  intro d ys n u hw hd hf
  obtain ⟨f0, g0, e0⟩ := Option.map_eq_some_iff.1 h0
  obtain ⟨f1, g1, e1⟩ := Option.map_eq_some_iff.1 h1
  obtain ⟨f2, g2, e2⟩ := Option.map_eq_some_iff.1 h2
  obtain ⟨y0, _, t0⟩ := hf 0 f0 g0
  obtain ⟨y1, _, t1⟩ := hf 1 f1 g1
  obtain ⟨y2, i2, t2⟩ := hf 2 f2 g2
  obtain ⟨z0, q0, r0⟩ := int_field e0 t0
  obtain ⟨z1, q1, r1⟩ := int_field e1 t1
  obtain ⟨s, l, q2, r2, r3⟩ := open_ce e2 t2 (wts_part hs hw hd g2 i2)
  refine ⟨⟨⟨z0, z1, l⟩, s⟩, ⟨r0, r1, r2, r3⟩, fun j hj => ?_⟩
  have hj : j < 3 := hj
  match j, hj with
  | 0, _ => rw [q0]; rfl
  | 1, _ => rw [q1]; rfl
  | 2, _ => rw [q2]; rfl
theorem elem_sd {fs : Array Field} (hs : Try.prog.underlying 50 = some (.struct fs)) (h0 : (fs[0]?).map (·.type) = some 3) (h1 : (fs[1]?).map (·.type) = some 3) (h2 : (fs[2]?).map (·.type) = some 48) (h3 : (fs[3]?).map (·.type) = some 3) : ElemOk enc W sdR (fun x => x.Ok W) fs := by
  intro d ys n u hw hd hf
  obtain ⟨f0, g0, e0⟩ := Option.map_eq_some_iff.1 h0
  obtain ⟨f1, g1, e1⟩ := Option.map_eq_some_iff.1 h1
  obtain ⟨f2, g2, e2⟩ := Option.map_eq_some_iff.1 h2
  obtain ⟨f3, g3, e3⟩ := Option.map_eq_some_iff.1 h3
  obtain ⟨y0, _, t0⟩ := hf 0 f0 g0
  obtain ⟨y1, _, t1⟩ := hf 1 f1 g1
  obtain ⟨y2, i2, t2⟩ := hf 2 f2 g2
  obtain ⟨y3, _, t3⟩ := hf 3 f3 g3
  obtain ⟨z0, q0, r0⟩ := int_field e0 t0
  obtain ⟨z1, q1, r1⟩ := int_field e1 t1
  obtain ⟨s, l, q2, r2, r4⟩ := open_mg e2 t2 (wts_part hs hw hd g2 i2)
  obtain ⟨z3, q3, r3⟩ := int_field e3 t3
  refine ⟨⟨⟨z0, z1, l, z3⟩, s⟩, ⟨r0, r1, r3, r2, r4⟩, fun j hj => ?_⟩
  have hj : j < 4 := hj
  match j, hj with
  | 0, _ => rw [q0]; rfl
  | 1, _ => rw [q1]; rfl
  | 2, _ => rw [q2]; rfl
  | 3, _ => rw [q3]; rfl
theorem open_ow {t : TypeId} (ht : t = 23) {fuel : Nat} {v : Value} {y : DataW H × List MemPlace} (hf : DataW.trod enc Try.prog W 0 (fun _ => true) true fuel t [v] = some y) (hb : WtsOk t y.1) : ∃ (s : Sl) (l : List OwL), v = s.val ∧ InR owR W s l ∧ ∀ x ∈ l, x.Ok W := by
  subst ht
  obtain ⟨a, n, c, l, e, h1, h2, h3, h4⟩ := open_row owR _ Try.underlying55 (by kernel_rfl) (by kernel_rfl) (by kernel_rfl) (by kernel_rfl) (elem_ow Try.underlying55 (by kernel_rfl) (by kernel_rfl) (by kernel_rfl)) hf hb
  exact ⟨⟨a, n, c⟩, l, e, ⟨h1, h2, h3⟩, h4⟩
theorem open_sd {t : TypeId} (ht : t = 24) {fuel : Nat} {v : Value} {y : DataW H × List MemPlace} (hf : DataW.trod enc Try.prog W 0 (fun _ => true) true fuel t [v] = some y) (hb : WtsOk t y.1) : ∃ (s : Sl) (l : List SdL), v = s.val ∧ InR sdR W s l ∧ ∀ x ∈ l, x.Ok W := by
  subst ht
  obtain ⟨a, n, c, l, e, h1, h2, h3, h4⟩ := open_row sdR _ Try.underlying50 (by kernel_rfl) (by kernel_rfl) (by kernel_rfl) (by kernel_rfl) (elem_sd Try.underlying50 (by kernel_rfl) (by kernel_rfl) (by kernel_rfl) (by kernel_rfl)) hf hb
  exact ⟨⟨a, n, c⟩, l, e, ⟨h1, h2, h3⟩, h4⟩
set_option maxRecDepth 100000 in
theorem open_st {r : Reach} {b0 : Nat} {v : Value} {d : DataW H} {ps : List MemPlace} (hv : Value.okWide Try.prog W r b0 28 v) (h : DataW.Trod enc Try.prog W 0 (fun _ => true) true 28 v d ps) (hb : WtsOk 28 d) : ∃ s : StL, v = s.val ∧ InS W s := by
  have hst : ∃ f0 f1 f2 f3 f4 f5, Try.prog.underlying 28 = some (.struct #[f0, f1, f2, f3, f4, f5]) ∧ oneCellFields Try.prog #[f0, f1, f2, f3, f4, f5] = true ∧ Try.prog.cellsOf 28 = 6 ∧ f0.type = 3 ∧ f1.type = 23 ∧ f2.type = 24 ∧ f3.type = 3 ∧ f4.type = 25 ∧ f5.type = 26 :=
    ⟨_, _, _, _, _, _, Try.underlying28, by kernel_rfl, by kernel_rfl, rfl, rfl, rfl, rfl, rfl, rfl⟩
  obtain ⟨f0, f1, f2, f3, f4, f5, hs, hone, hc, e0, e1, e2, e3, e4, e5⟩ := hst
  obtain ⟨cs, rfl, hsz⟩ := okWide_struct hs hv
  obtain ⟨c0, c1, c2, c3, c4, c5, rfl⟩ : ∃ c0 c1 c2 c3 c4 c5, cs = #[c0, c1, c2, c3, c4, c5] := by
    have h5 := hsz.trans hc
    obtain ⟨l⟩ := cs
    match l, h5 with
    | [c0, c1, c2, c3, c4, c5], _ => exact ⟨c0, c1, c2, c3, c4, c5, rfl⟩
  obtain ⟨fuel, hf⟩ := h
  obtain ⟨xs, n, _, hx, _, hlen, hff⟩ := DataW.trod_struct hs hf
  have hd : d = .agg (xs.map (·.1)) := by simp only [Prod.mk.injEq] at hx; exact hx.1
  obtain ⟨x0, x1, x2, x3, x4, x5, rfl⟩ : ∃ x0 x1 x2 x3 x4 x5, xs = [x0, x1, x2, x3, x4, x5] := by
    match xs, hlen with
    | [x0, x1, x2, x3, x4, x5], _ => exact ⟨x0, x1, x2, x3, x4, x5, rfl⟩
  have part : ∀ (j : Nat) (f : Field) (u : Value) (x : DataW H × List MemPlace), #[f0, f1, f2, f3, f4, f5][j]? = some f → #[c0, c1, c2, c3, c4, c5][j]? = some u → [x0, x1, x2, x3, x4, x5][j]? = some x → DataW.trod enc Try.prog W 0 (fun _ => true) true n f.type [u] = some x ∧ WtsOk f.type x.1 := by
    intro j f u x h1 h2 h3
    obtain ⟨o, k⟩ := hone_of hone j f h1
    have h4 := hff j f h1
    rw [o, k] at h4
    have h6 : ((Value.agg #[c0, c1, c2, c3, c4, c5]).cells.toList.drop j).take 1 = [u] := by
      have hj : j < 6 := (Array.getElem?_eq_some_iff.1 h1).1
      match j, hj with
      | 0, _ => simp at h2; subst h2; rfl
      | 1, _ => simp at h2; subst h2; rfl
      | 2, _ => simp at h2; subst h2; rfl
      | 3, _ => simp at h2; subst h2; rfl
      | 4, _ => simp at h2; subst h2; rfl
      | 5, _ => simp at h2; subst h2; rfl
    rw [h6, h3] at h4
    exact ⟨h4, wts_part hs hb hd h1 h3⟩
  obtain ⟨z0, q0, r0⟩ := int_field e0 (part 0 f0 c0 x0 rfl rfl rfl).1
  obtain ⟨s1, l1, q1, r1, i1⟩ := open_ow e1 (part 1 f1 c1 x1 rfl rfl rfl).1 (part 1 f1 c1 x1 rfl rfl rfl).2
  obtain ⟨s2, l2, q2, r2, i2⟩ := open_sd e2 (part 2 f2 c2 x2 rfl rfl rfl).1 (part 2 f2 c2 x2 rfl rfl rfl).2
  obtain ⟨z3, q3, r3⟩ := int_field e3 (part 3 f3 c3 x3 rfl rfl rfl).1
  obtain ⟨s4, l4, q4, r4, i4⟩ := open_ak e4 (part 4 f4 c4 x4 rfl rfl rfl).1 (part 4 f4 c4 x4 rfl rfl rfl).2
  obtain ⟨s5, l5, q5, r5, i5⟩ := open_fd e5 (part 5 f5 c5 x5 rfl rfl rfl).1 (part 5 f5 c5 x5 rfl rfl rfl).2
  refine ⟨⟨z0, l1, s1, l2, s2, z3, l4, s4, l5, s5⟩, ?_, ⟨r0, r3, r1, r2, r4, r5, i1, i2, i4, i5⟩⟩
  rw [q0, q1, q2, q3, q4, q5]; rfl
end
end Go.Proofs.Ytiaafhcfeeekeaa.Ar

/- How an argument that is a list of numbers is opened. -/
namespace Go.Proofs.Ytiaafhcfeeekeaa.Ar
open Go.ChangeShapes Go.WideShapes Go.ChangeAt Go.RowKit Go.Proofs.Ytiaafhcfeeekeaa.Pk
set_option linter.unusedVariables false
theorem bytes3 : Try.prog.bytesOf 3 = 8 := by kernel_rfl
/-- A list of numbers that came in. -/
def ArgN (w : World) (a : Option Addr) (n c : Nat) (l : List Int) : Prop := Reads w w.heap.size 1 a n (nms l) ∧ n ≤ c ∧ c * 8 ≤ 140737488351232 ∧ ∀ x ∈ l, -9223372036854775808 ≤ x ∧ x ≤ 9223372036854775807

section
variable {H : Type} {enc : TypeId × Value → H} {W : World} {d : DataW H} {ps : List MemPlace}
theorem open_n {a : Option Addr} {n c : Nat} (h : DataW.Trod enc Try.prog W 0 (fun _ => true) true 22 (.slice a n c) d ps)
    (hsz : ∀ elems spare, d = .slice elems spare → (elems.length + spare.length) * Try.prog.bytesOf 3 ≤ reachBytes) : ∃ l, ArgN W a n c l ∧ n < Rows.uptoBulk d := by
  obtain ⟨l, h1, h2, h3, h4, h5⟩ := open_raw Try.underlying22 Try.underlying3 (by kernel_rfl) h hsz
  rw [bytes3] at h3
  unfold reachBytes at h3
  exact ⟨l, ⟨h1, h2, by omega, fun x hx => i64_rng (h4 x hx)⟩, h5⟩
end
end Go.Proofs.Ytiaafhcfeeekeaa.Ar

/- How numbers, a message, a state that come in are opened. -/
namespace Go.Proofs.Ytiaafhcfeeekeaa.Ar
open Go.ChangeShapes Go.WideShapes Go.ChangeAt Go.RowKit Go.Deep Go.Joins Go.Proofs.Ytiaafhcfeeekeaa.Pk
set_option linter.unusedVariables false
section
variable {H : Type} {enc : TypeId × Value → H} {W : World} {d : DataW H} {ps : List MemPlace}
end
end Go.Proofs.Ytiaafhcfeeekeaa.Ar

/- A node's requests for an object: what each call makes of them. -/
namespace Go.Proofs.Ytiaafhcfeeekeaa.Pk
set_option linter.unusedVariables false
def ceA (l : List Ce) (i : Nat) : Ce := l.getD i Ce.zero
theorem ceA_get {l : List Ce} {i : Nat} (h : i < l.length) : l[i]? = some (ceA l i) := by
  unfold ceA
  rw [List.getD_eq_getElem?_getD, List.getElem?_eq_getElem h]
  rfl
theorem ceA_of {l : List Ce} {i : Nat} {c : Ce} (h : l[i]? = some c) : ceA l i = c := by
  unfold ceA
  rw [List.getD_eq_getElem?_getD, h]
  rfl
/-- One cell can be. -/
def CellOk (l : List Ce) (me : Int) (sink : Bool) (i : Nat) : Prop :=
  (0 ≤ (ceA l i).n ∧ (ceA l i).n ≤ 1099511627776 ∧ 1 ≤ (ceA l i).s ∧ (ceA l i).s ≤ 3) ∧
  (0 < i → (ceA l (i - 1)).n < (ceA l i).n ∧ (ceA l i).s = 1) ∧
  ((ceA l i).n = 0 → (ceA l i).s = 3) ∧
  (if sink = true ∧ i + 1 = l.length then (ceA l i).d = -1 ∧ (ceA l i).x = 0
    else ((ceA l i).s ≠ 3 ∧ 0 ≤ (ceA l i).d ∧ (ceA l i).d < 32 ∧ 1 ≤ (ceA l i).x ∧ (ceA l i).x ≤ 1099511627776) ∧ ((ceA l i).d = me → i + 1 < l.length ∧ (ceA l (i + 1)).n = (ceA l i).x))
instance (l : List Ce) (me : Int) (sink : Bool) (i : Nat) : Decidable (CellOk l me sink i) := by unfold CellOk; exact inferInstance
def GoodK (l : List Ce) (me : Int) (sink : Bool) : Prop := (sink = true → 0 < l.length) ∧ ∀ i, i < l.length → CellOk l me sink i
instance (l : List Ce) (me : Int) (sink : Bool) : Decidable (GoodK l me sink) := by unfold GoodK; exact inferInstance
def addK (l : List Ce) (num : Int) : List Ce := l ++ [⟨num, 1, -1, 0⟩]
/-- The last one's successor: where a cell stands at the end. -/
def succK (l : List Ce) (d x : Int) : List Ce × Bool :=
  match l.getLast? with
  | none => ([], false)
  | some c => if c.s = 3 then (l.dropLast, true) else (l.dropLast ++ [⟨c.n, c.s, d, x⟩], false)
def grantAt (l : List Ce) (num : Int) : Option Nat := l.findIdx? fun c => decide (c.n = num ∧ c.s = 1)
def grantK (l : List Ce) (num : Int) : List Ce × Bool :=
  match grantAt l num with
  | none => (l, false)
  | some k => (l.set k ⟨(ceA l k).n, 2, (ceA l k).d, (ceA l k).x⟩, true)
def heldAt (l : List Ce) : Option Nat := l.findIdx? fun c => decide (c.s = 2)
def relK (l : List Ce) : List Ce × Int × Int × Int :=
  match heldAt l with
  | none => ([], 0, 0, 22)
  | some k => if (ceA l k).d = -1 then (l.set k ⟨(ceA l k).n, 3, (ceA l k).d, (ceA l k).x⟩, -1, 0, 0) else (l.eraseIdx k, (ceA l k).d, (ceA l k).x, 0)
def openK (l : List Ce) : Nat := (l.filter fun c => decide (c.s = 1 ∨ c.s = 2)).length
theorem idx_none {l : List Ce} {p : Ce → Bool} (h : ∀ i, i < l.length → p (ceA l i) = false) : l.findIdx? p = none := by
  rw [List.findIdx?_eq_none_iff]
  intro x hx
  obtain ⟨i, hi⟩ := List.getElem?_of_mem hx
  have := h i (List.getElem?_eq_some_iff.1 hi).1
  rw [ceA_of hi] at this
  simpa using this
theorem idx_some {l : List Ce} {p : Ce → Bool} {k : Nat} (hk : k < l.length) (hp : p (ceA l k) = true) (h : ∀ i, i < k → p (ceA l i) = false) : l.findIdx? p = some k := by
  rw [List.findIdx?_eq_some_iff_getElem]
  refine ⟨hk, ?_, fun j hj => ?_⟩
  · have e : l[k] = ceA l k := by
      have := ceA_get hk
      rw [List.getElem?_eq_getElem hk] at this
      injection this
    rw [e]; exact hp
  · have e : l[j]'(by omega) = ceA l j := by
      have := ceA_get (l := l) (i := j) (by omega)
      rw [List.getElem?_eq_getElem (by omega)] at this
      injection this
    rw [e]; simpa using h j hj
end Go.Proofs.Ytiaafhcfeeekeaa.Pk

/- What each call makes of the cells: facts. -/
namespace Go.Proofs.Ytiaafhcfeeekeaa.Pk
set_option linter.unusedVariables false
theorem take_ce {l : List Ce} {i : Nat} (h : i < l.length) : l.take (i + 1) = l.take i ++ [ceA l i] := by
  rw [List.take_add_one, ceA_get h]; rfl
theorem succK_rest {l : List Ce} {k : Nat} {d x : Int} (h : l.length = k + 1) (hs : (ceA l k).s = 3) : succK l d x = (l.take k, true) := by
  unfold succK
  have e : l.getLast? = some (ceA l k) := by rw [List.getLast?_eq_getElem?, h, Nat.add_sub_cancel]; exact ceA_get (by omega)
  rw [e]
  simp only
  rw [if_pos hs, List.dropLast_eq_take, h, Nat.add_sub_cancel]
theorem succK_on {l : List Ce} {k : Nat} {d x : Int} (h : l.length = k + 1) (hs : (ceA l k).s ≠ 3) : succK l d x = (l.take k ++ [⟨(ceA l k).n, (ceA l k).s, d, x⟩], false) := by
  unfold succK
  have e : l.getLast? = some (ceA l k) := by rw [List.getLast?_eq_getElem?, h, Nat.add_sub_cancel]; exact ceA_get (by omega)
  rw [e]
  simp only
  rw [if_neg hs, List.dropLast_eq_take, h, Nat.add_sub_cancel]
theorem succK_nil {l : List Ce} {d x : Int} (h : l.length = 0) : succK l d x = ([], false) := by
  rw [List.length_eq_zero_iff.1 h]; rfl
theorem grant_none {l : List Ce} {num : Int} (h : grantAt l num = none) : grantK l num = (l, false) ∧ ∀ i, i < l.length → ¬ ((ceA l i).n = num ∧ (ceA l i).s = 1) := by
  refine ⟨by unfold grantK; rw [h], fun i hi hp => ?_⟩
  unfold grantAt at h
  rw [List.findIdx?_eq_none_iff] at h
  have := h _ (List.mem_of_getElem? (ceA_get hi))
  simp [hp.1, hp.2] at this
theorem grant_some {l : List Ce} {num : Int} {k : Nat} (h : grantAt l num = some k) : grantK l num = (l.set k ⟨(ceA l k).n, 2, (ceA l k).d, (ceA l k).x⟩, true) ∧ k < l.length ∧ (ceA l k).n = num ∧ (ceA l k).s = 1 ∧ ∀ i, i < k → ¬ ((ceA l i).n = num ∧ (ceA l i).s = 1) := by
  refine ⟨by unfold grantK; rw [h], ?_⟩
  unfold grantAt at h
  rw [List.findIdx?_eq_some_iff_getElem] at h
  obtain ⟨hk, hp, hj⟩ := h
  have e : ∀ i (hi : i < l.length), l[i] = ceA l i := fun i hi => by
    have := ceA_get hi
    rw [List.getElem?_eq_getElem hi] at this
    injection this
  rw [e] at hp
  simp at hp
  refine ⟨hk, hp.1, hp.2, fun i hi hp2 => ?_⟩
  have := hj i hi
  rw [e] at this
  simp [hp2.1, hp2.2] at this
theorem ceA_set {l : List Ce} {k i : Nat} {c : Ce} (hk : k < l.length) : ceA (l.set k c) i = if i = k then c else ceA l i := by
  unfold ceA
  by_cases e : i = k
  · subst e
    rw [if_pos rfl, List.getD_eq_getElem?_getD, List.getElem?_set_self hk]; rfl
  · rw [if_neg e, List.getD_eq_getElem?_getD, List.getElem?_set_ne (Ne.symm e), List.getD_eq_getElem?_getD]
theorem held_none {l : List Ce} (h : heldAt l = none) : relK l = ([], 0, 0, 22) ∧ ∀ i, i < l.length → (ceA l i).s ≠ 2 := by
  refine ⟨by unfold relK; rw [h], fun i hi hp => ?_⟩
  unfold heldAt at h
  rw [List.findIdx?_eq_none_iff] at h
  have := h _ (List.mem_of_getElem? (ceA_get hi))
  simp [hp] at this
theorem held_some {l : List Ce} {k : Nat} (h : heldAt l = some k) : relK l = (if (ceA l k).d = -1 then (l.set k ⟨(ceA l k).n, 3, (ceA l k).d, (ceA l k).x⟩, -1, 0, 0) else (l.eraseIdx k, (ceA l k).d, (ceA l k).x, 0)) ∧ k < l.length ∧ (ceA l k).s = 2 ∧ ∀ i, i < k → (ceA l i).s ≠ 2 := by
  refine ⟨by unfold relK; rw [h], ?_⟩
  unfold heldAt at h
  rw [List.findIdx?_eq_some_iff_getElem] at h
  obtain ⟨hk, hp, hj⟩ := h
  have e : ∀ i (hi : i < l.length), l[i] = ceA l i := fun i hi => by
    have := ceA_get hi
    rw [List.getElem?_eq_getElem hi] at this
    injection this
  rw [e] at hp
  simp at hp
  refine ⟨hk, hp, fun i hi hp2 => ?_⟩
  have := hj i hi
  rw [e] at this
  simp [hp2] at this
theorem ceA_erase {l : List Ce} {k j : Nat} : ceA (l.eraseIdx k) j = if j < k then ceA l j else ceA l (j + 1) := by
  unfold ceA
  rw [List.getD_eq_getElem?_getD, List.getElem?_eraseIdx]
  split
  · rw [List.getD_eq_getElem?_getD]
  · rw [List.getD_eq_getElem?_getD]
end Go.Proofs.Ytiaafhcfeeekeaa.Pk
