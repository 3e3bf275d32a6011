/- How an event that comes in is opened. -/
import Derived.Test.YtiaafhcfeeekeaaZChFacts
import Derived.Test.YtiaafhcfeeekeaaZCoSpec
import Derived.Test.YtiaafhcfeeekeaaZStPut
import Derived.Test.YtiaafhcfeeekeaaZCeEq
namespace Go.Proofs.Ytiaafhcfeeekeaa.Ar
open Go.ChangeShapes Go.WideShapes Go.ChangeAt Go.RowKit Go.Deep Go.Joins Go.Proofs.Ytiaafhcfeeekeaa.Pk
set_option linter.unusedVariables false
section
variable {H : Type} {enc : TypeId × Value → H} {W : World} {d : DataW H} {ps : List MemPlace}
theorem ints5 {fuel : Nat} {c0 c1 c2 c3 c4 : Value} {x : DataW H × List MemPlace} (hf : DataW.trod enc Try.prog W 0 (fun _ => true) true fuel 30 [c0, c1, c2, c3, c4] = some x) : ∃ m : Mg, [c0, c1, c2, c3, c4] = [.int .i64 m.k, .int .i64 m.o, .int .i64 m.n, .int .i64 m.u, .int .i64 m.v] ∧ m.I := by
  have hst : ∃ f0 f1 f2 f3 f4, Try.prog.underlying 30 = some (.struct #[f0, f1, f2, f3, f4]) ∧ oneCellFields Try.prog #[f0, f1, f2, f3, f4] = true ∧ f0.type = 3 ∧ f1.type = 3 ∧ f2.type = 3 ∧ f3.type = 3 ∧ f4.type = 3 :=
    ⟨_, _, _, _, _, Try.underlying30, by kernel_rfl, rfl, rfl, rfl, rfl, rfl⟩
  obtain ⟨f0, f1, f2, f3, f4, hs, hone, t0, t1, t2, t3, t4⟩ := hst
  obtain ⟨xs, n, _, _, _, hlen, hff⟩ := DataW.trod_struct hs hf
  obtain ⟨o0, k0⟩ := hone_of hone 0 f0 rfl
  obtain ⟨o1, k1⟩ := hone_of hone 1 f1 rfl
  obtain ⟨o2, k2⟩ := hone_of hone 2 f2 rfl
  obtain ⟨o3, k3⟩ := hone_of hone 3 f3 rfl
  obtain ⟨o4, k4⟩ := hone_of hone 4 f4 rfl
  have h0 := hff 0 f0 rfl
  rw [t0] at k0 h0
  have h1 := hff 1 f1 rfl
  rw [t1] at k1 h1
  have h2 := hff 2 f2 rfl
  rw [t2] at k2 h2
  have h3 := hff 3 f3 rfl
  rw [t3] at k3 h3
  have h4 := hff 4 f4 rfl
  rw [t4] at k4 h4
  match xs, hlen with
  | [x0, x1, x2, x3, x4], _ =>
  obtain ⟨z0, q0, _, w0⟩ := DataW.trod_int Try.underlying3 (show DataW.trod enc Try.prog W 0 (fun _ => true) true n 3 [c0] = some x0 by simpa [o0, k0] using h0)
  obtain ⟨z1, q1, _, w1⟩ := DataW.trod_int Try.underlying3 (show DataW.trod enc Try.prog W 0 (fun _ => true) true n 3 [c1] = some x1 by simpa [o1, k1] using h1)
  obtain ⟨z2, q2, _, w2⟩ := DataW.trod_int Try.underlying3 (show DataW.trod enc Try.prog W 0 (fun _ => true) true n 3 [c2] = some x2 by simpa [o2, k2] using h2)
  obtain ⟨z3, q3, _, w3⟩ := DataW.trod_int Try.underlying3 (show DataW.trod enc Try.prog W 0 (fun _ => true) true n 3 [c3] = some x3 by simpa [o3, k3] using h3)
  obtain ⟨z4, q4, _, w4⟩ := DataW.trod_int Try.underlying3 (show DataW.trod enc Try.prog W 0 (fun _ => true) true n 3 [c4] = some x4 by simpa [o4, k4] using h4)
  simp at q0 q1 q2 q3 q4
  subst q0; subst q1; subst q2; subst q3; subst q4
  exact ⟨⟨z0, z1, z2, z3, z4⟩, rfl, i64_rng w0, i64_rng w1, i64_rng w2, i64_rng w3, i64_rng w4⟩
theorem gram9 {fuel : Nat} {c0 c1 c2 c3 c4 c5 c6 c7 c8 : Value} {x : DataW H × List MemPlace} (hf : DataW.trod enc Try.prog W 0 (fun _ => true) true fuel 32 [c0, c1, c2, c3, c4, c5, c6, c7, c8] = some x) : ∃ g : Gm, [c0, c1, c2, c3, c4, c5, c6, c7, c8] = [.int .i64 g.f, .int .i64 g.t, .int .i64 g.a, .int .i64 g.s, .int .i64 g.m.k, .int .i64 g.m.o, .int .i64 g.m.n, .int .i64 g.m.u, .int .i64 g.m.v] ∧ g.I := by
  have hst : ∃ f0 f1 f2 f3 f4, Try.prog.underlying 32 = some (.struct #[f0, f1, f2, f3, f4]) ∧ Try.prog.cellsOf 3 = 1 ∧ Try.prog.cellsOf 30 = 5 ∧ f0.type = 3 ∧ f1.type = 3 ∧ f2.type = 3 ∧ f3.type = 3 ∧ f4.type = 30 ∧ f0.offset = 0 ∧ f1.offset = 1 ∧ f2.offset = 2 ∧ f3.offset = 3 ∧ f4.offset = 4 :=
    ⟨_, _, _, _, _, Try.underlying32, by kernel_rfl, by kernel_rfl, rfl, rfl, rfl, rfl, rfl, rfl, rfl, rfl, rfl, rfl⟩
  obtain ⟨f0, f1, f2, f3, f4, hs, ci, cm, t0, t1, t2, t3, t4, o0, o1, o2, o3, o4⟩ := hst
  obtain ⟨xs, n, _, _, _, hlen, hff⟩ := DataW.trod_struct hs hf
  have h0 := hff 0 f0 rfl
  rw [t0, ci] at h0
  have h1 := hff 1 f1 rfl
  rw [t1, ci] at h1
  have h2 := hff 2 f2 rfl
  rw [t2, ci] at h2
  have h3 := hff 3 f3 rfl
  rw [t3, ci] at h3
  have h4 := hff 4 f4 rfl
  rw [t4, cm] at h4
  match xs, hlen with
  | [x0, x1, x2, x3, x4], _ =>
  obtain ⟨z0, q0, _, w0⟩ := DataW.trod_int Try.underlying3 (show DataW.trod enc Try.prog W 0 (fun _ => true) true n 3 [c0] = some x0 by simpa [Value.cells, o0] using h0)
  obtain ⟨z1, q1, _, w1⟩ := DataW.trod_int Try.underlying3 (show DataW.trod enc Try.prog W 0 (fun _ => true) true n 3 [c1] = some x1 by simpa [Value.cells, o1] using h1)
  obtain ⟨z2, q2, _, w2⟩ := DataW.trod_int Try.underlying3 (show DataW.trod enc Try.prog W 0 (fun _ => true) true n 3 [c2] = some x2 by simpa [Value.cells, o2] using h2)
  obtain ⟨z3, q3, _, w3⟩ := DataW.trod_int Try.underlying3 (show DataW.trod enc Try.prog W 0 (fun _ => true) true n 3 [c3] = some x3 by simpa [Value.cells, o3] using h3)
  obtain ⟨m, q4, hm⟩ := ints5 (show DataW.trod enc Try.prog W 0 (fun _ => true) true n 30 [c4, c5, c6, c7, c8] = some x4 by simpa [Value.cells, o4] using h4)
  simp at q0 q1 q2 q3 q4
  obtain ⟨rfl, rfl, rfl, rfl, rfl⟩ := q4
  subst q0; subst q1; subst q2; subst q3
  exact ⟨⟨z0, z1, z2, z3, m⟩, rfl, i64_rng w0, i64_rng w1, i64_rng w2, i64_rng w3, hm⟩
set_option maxRecDepth 100000 in
theorem open_q {r : Reach} {b0 : Nat} {v : Value} (hv : Value.okWide Try.prog W r b0 32 v) (h : DataW.Trod enc Try.prog W 0 (fun _ => true) true 32 v d ps) : ∃ g : Gm, v = g.val ∧ g.I := by
  have hst : ∃ fs, Try.prog.underlying 32 = some (.struct fs) ∧ Try.prog.cellsOf 32 = 9 := ⟨_, Try.underlying32, by kernel_rfl⟩
  obtain ⟨fs, hs, hc⟩ := hst
  obtain ⟨cs, rfl, hsz⟩ := okWide_struct hs hv
  obtain ⟨c0, c1, c2, c3, c4, c5, c6, c7, c8, rfl⟩ : ∃ c0 c1 c2 c3 c4 c5 c6 c7 c8, cs = #[c0, c1, c2, c3, c4, c5, c6, c7, c8] := by
    have h5 := hsz.trans hc
    obtain ⟨l⟩ := cs
    match l, h5 with
    | [c0, c1, c2, c3, c4, c5, c6, c7, c8], _ => exact ⟨c0, c1, c2, c3, c4, c5, c6, c7, c8, rfl⟩
  obtain ⟨fuel, hf⟩ := h
  obtain ⟨g, e, hg⟩ := gram9 hf
  refine ⟨g, ?_, hg⟩
  unfold Gm.val
  simp only [List.cons.injEq, and_true] at e
  obtain ⟨rfl, rfl, rfl, rfl, rfl, rfl, rfl, rfl, rfl⟩ := e
  rfl
set_option maxRecDepth 100000 in
theorem open_ev {r : Reach} {b0 : Nat} {v : Value} (hv : Value.okWide Try.prog W r b0 34 v) (h : DataW.Trod enc Try.prog W 0 (fun _ => true) true 34 v d ps) : ∃ ev : Ev, v = ev.val ∧ ev.I := by
  have hst : ∃ f0 f1 f2, Try.prog.underlying 34 = some (.struct #[f0, f1, f2]) ∧ Try.prog.cellsOf 34 = 11 ∧ Try.prog.cellsOf 3 = 1 ∧ Try.prog.cellsOf 32 = 9 ∧ f0.type = 3 ∧ f1.type = 3 ∧ f2.type = 32 ∧ f0.offset = 0 ∧ f1.offset = 1 ∧ f2.offset = 2 :=
    ⟨_, _, _, Try.underlying34, by kernel_rfl, by kernel_rfl, by kernel_rfl, rfl, rfl, rfl, rfl, rfl, rfl⟩
  obtain ⟨f0, f1, f2, hs, hc, ci, cg, t0, t1, t2, o0, o1, o2⟩ := hst
  obtain ⟨cs, rfl, hsz⟩ := okWide_struct hs hv
  obtain ⟨c0, c1, c2, c3, c4, c5, c6, c7, c8, c9, c10, rfl⟩ : ∃ c0 c1 c2 c3 c4 c5 c6 c7 c8 c9 c10, cs = #[c0, c1, c2, c3, c4, c5, c6, c7, c8, c9, c10] := by
    have h5 := hsz.trans hc
    obtain ⟨l⟩ := cs
    match l, h5 with
    | [c0, c1, c2, c3, c4, c5, c6, c7, c8, c9, c10], _ => exact ⟨c0, c1, c2, c3, c4, c5, c6, c7, c8, c9, c10, rfl⟩
  obtain ⟨fuel, hf⟩ := h
  obtain ⟨xs, n, _, _, _, hlen, hff⟩ := DataW.trod_struct hs hf
  have h0 := hff 0 f0 rfl
  rw [t0, ci] at h0
  have h1 := hff 1 f1 rfl
  rw [t1, ci] at h1
  have h2 := hff 2 f2 rfl
  rw [t2, cg] at h2
  match xs, hlen with
  | [x0, x1, x2], _ =>
  obtain ⟨z0, q0, _, w0⟩ := DataW.trod_int Try.underlying3 (show DataW.trod enc Try.prog W 0 (fun _ => true) true n 3 [c0] = some x0 by simpa [Value.cells, o0] using h0)
  obtain ⟨z1, q1, _, w1⟩ := DataW.trod_int Try.underlying3 (show DataW.trod enc Try.prog W 0 (fun _ => true) true n 3 [c1] = some x1 by simpa [Value.cells, o1] using h1)
  obtain ⟨g, e, hg⟩ := gram9 (show DataW.trod enc Try.prog W 0 (fun _ => true) true n 32 [c2, c3, c4, c5, c6, c7, c8, c9, c10] = some x2 by simpa [Value.cells, o2] using h2)
  simp only [List.cons.injEq, and_true] at e
  obtain ⟨rfl, rfl, rfl, rfl, rfl, rfl, rfl, rfl, rfl⟩ := e
  simp at q0 q1
  subst q0; subst q1
  exact ⟨⟨z0, z1, g⟩, rfl, i64_rng w0, i64_rng w1, hg⟩
end
end Go.Proofs.Ytiaafhcfeeekeaa.Ar

/- What the laws' own wakes of states needs. -/
namespace Go.Proofs.Ytiaafhcfeeekeaa.Gr
set_option linter.unusedVariables false
theorem good2s : Good [-1, 0] where
  pos := by decide
  few := by decide
  rng := by
    intro v hv
    have : v = 0 ∨ v = 1 := by simp at hv; omega
    rcases this with rfl | rfl <;> decide
  one := by
    intro u v hu hv h1 h2
    have a1 : u = 0 ∨ u = 1 := by simp at hu; omega
    have a2 : v = 0 ∨ v = 1 := by simp at hv; omega
    rcases a1 with rfl | rfl <;> first | (exact absurd h1 (by decide)) | (rcases a2 with rfl | rfl <;> first | rfl | exact absurd h2 (by decide))
  all := by
    intro v hv
    have : v = 0 ∨ v = 1 := by simp at hv; omega
    rcases this with rfl | rfl <;> decide
end Go.Proofs.Ytiaafhcfeeekeaa.Gr
namespace Go.Proofs.Ytiaafhcfeeekeaa.Pk
open Go.RowKit Go.Proofs.Ytiaafhcfeeekeaa.Gr
set_option linter.unusedVariables false
theorem NewR.good_ {ps : List Int} {w : World} {e : Ending} {w' : World} (h : NewR ps w e w') (G : Gr.Good ps) : Below w.heap.size w w' ∧ ∃ T g, e = .returned (.tuple #[.pointer (some ⟨T, 0, none⟩), .int .i64 0]) ∧ IsTr w' T g ps := by
  obtain ⟨hb, ⟨T, g, he, hc, h1, h2, h3, h4⟩ | ⟨p, er, he, hc, hne⟩⟩ := h
  · exact ⟨hb, T, g, he, h1⟩
  · exact absurd (hc.only (good_chk G)).2 hne
theorem two_reads (w : World) (T : TypeId) (a b : Int) : Reads (w.alloc (.cells #[.int .i64 a, .int .i64 b] T)) (w.heap.size + 1) 1 (some ⟨w.heap.size, 0, none⟩) 2 (nms [a, b]) := by
  refine ⟨rfl, fun _ => ⟨_, rfl, by simp, fun j u hj => ?_⟩⟩
  match j, hj with
  | 0, hj => simp [nms] at hj; subst hj; simp [Addr.add]
  | 1, hj => simp [nms] at hj; subst hj; simp [Addr.add]
  | j + 2, hj => simp [nms] at hj
theorem one_reads (w : World) (T : TypeId) (a : Int) : Reads (w.alloc (.cells #[.int .i64 a] T)) (w.heap.size + 1) 1 (some ⟨w.heap.size, 0, none⟩) 1 (nms [a]) := by
  refine ⟨rfl, fun _ => ⟨_, rfl, by simp, fun j u hj => ?_⟩⟩
  match j, hj with
  | 0, hj => simp [nms] at hj; subst hj; simp [Addr.add]
  | j + 1, hj => simp [nms] at hj
end Go.Proofs.Ytiaafhcfeeekeaa.Pk

/- What package state promises (to be proved of the code that lands): First. -/
namespace Go.Proofs.Ytiaafhcfeeekeaa.Pk
open Go.RowKit Go.Proofs.Ytiaafhcfeeekeaa.Gr
set_option linter.unusedVariables false
def StFirstP : Prop := ∀ (T g : Nat) (ps : List Int) (A : Option Addr) (n c : Nat) (hs : List Int) (me : Int) (w : World), IsTr w T g ps → Gr.Good ps → InN w hs A n c → I64 me →
  Calls Try.prog 19 #[.pointer (some ⟨T, 0, none⟩), .slice A n c, .int .i64 me] w fun e w' => ∃ s2 : StL, e = .returned (.tuple #[s2.val, .int .i64 (firstE ps hs me).2]) ∧ s2.v = (firstE ps hs me).1 ∧ OwnS w' w.heap.size s2 ∧ Below w.heap.size w w'
def StFirstZ : Prop := ∀ (A : Option Addr) (n c : Nat) (hs : List Int) (me : Int) (w : World), InN w hs A n c → I64 me →
  Calls Try.prog 19 #[.pointer none, .slice A n c, .int .i64 me] w fun e w' => ∃ s2 : StL, e = .returned (.tuple #[s2.val, .int .i64 2]) ∧ s2.v = St.zero ∧ OwnS w' w.heap.size s2 ∧ Below w.heap.size w w'
end Go.Proofs.Ytiaafhcfeeekeaa.Pk

/- A state that can be leads to one that can be. -/
namespace Go.Proofs.Ytiaafhcfeeekeaa.Pk
open Go.Proofs.Ytiaafhcfeeekeaa.Gr
set_option linter.unusedVariables false
/-- The parts of a state that can be. -/
def PartO (ps : List Int) (s : St) : Prop := (1 ≤ s.os.length ∧ s.os.length ≤ 8) ∧ (∀ o ∈ s.os, OwnOk ps s.me o) ∧ sumK s.os ≤ 8
def PartE (ps : List Int) (s : St) : Prop := s.es.map (·.p) = nbsI ps s.me ∧ ∀ e ∈ s.es, SideOk (ps.length : Int) (s.os.length : Int) e
def PartL (ps : List Int) (s : St) : Prop := (0 ≤ s.q ∧ s.q ≤ 1099511627776) ∧ s.as_.length ≤ 4 ∧ s.gs.length ≤ 4 ∧ AsksOk (s.os.length : Int) s.q 0 s.as_ ∧ ∀ f ∈ s.gs, GotOk (ps.length : Int) (s.os.length : Int) s.q f
def IsMe (ps : List Int) (s : St) : Prop := 0 ≤ s.me ∧ s.me < (ps.length : Int)
theorem good_parts {ps : List Int} {s : St} : GoodS ps s ↔ IsMe ps s ∧ PartO ps s ∧ PartE ps s ∧ PartL ps s :=
  ⟨fun h => ⟨h.me, ⟨h.many, h.os, h.few⟩, ⟨h.ps_, h.es⟩, ⟨h.q, h.an, h.gn, h.as_, h.gs⟩⟩, fun h => ⟨h.1, h.2.1.1, h.2.1.2.1, h.2.2.1.1, h.2.2.1.2, h.2.2.2.1, h.2.2.2.2.1, h.2.2.2.2.2.1, h.2.2.2.2.2.2.1, h.2.2.2.2.2.2.2, h.2.1.2.2⟩⟩
theorem side_mem {s : St} {i : Nat} (h : i < s.es.length) : sideA s i ∈ s.es := by
  unfold sideA
  rw [List.getD_eq_getElem?_getD, List.getElem?_eq_getElem h]; exact List.getElem_mem h
theorem obj_mem {s : St} {k : Nat} (h : k < s.os.length) : objA s k ∈ s.os := by
  unfold objA
  rw [List.getD_eq_getElem?_getD, List.getElem?_eq_getElem h]; exact List.getElem_mem h
theorem edgeAt_some {s : St} {p : Int} {i : Nat} (h : edgeAt s p = some i) : i < s.es.length ∧ (sideA s i).p = p := by
  unfold edgeAt at h
  rw [List.findIdx?_eq_some_iff_getElem] at h
  obtain ⟨hi, hp, _⟩ := h
  refine ⟨hi, ?_⟩
  unfold sideA
  rw [List.getD_eq_getElem?_getD, List.getElem?_eq_getElem hi]
  simpa using hp
/-- What pushing leaves alone. -/
theorem pushS_same (s : St) (p : Int) (m : Mg) : (pushS s p m).1.me = s.me ∧ (pushS s p m).1.os = s.os ∧ (pushS s p m).1.q = s.q ∧ (pushS s p m).1.as_ = s.as_ ∧ (pushS s p m).1.gs = s.gs := by
  unfold pushS
  cases edgeAt s p with
  | none => exact ⟨rfl, rfl, rfl, rfl, rfl⟩
  | some i =>
    simp only
    split
    · exact ⟨rfl, rfl, rfl, rfl, rfl⟩
    · exact ⟨rfl, rfl, rfl, rfl, rfl⟩
theorem objA_push (s : St) (p : Int) (m : Mg) (k : Nat) : objA (pushS s p m).1 k = objA s k := by unfold objA; rw [(pushS_same s p m).2.1]
theorem hpush_ok {h : Hf} {m : Mg} (e : (hpush h m).2 = 0) : h.Be ∧ m.Be ∧ ¬ h.Full ∧ (hpush h m).1 = h.add m := by
  unfold hpush at e ⊢
  split at e
  · rename_i h1
    split at e
    · rename_i h2
      split at e
      · cases e
      · rename_i h3
        rw [if_pos h1, if_pos h2, if_neg h3]
        exact ⟨h1, h2, h3, rfl⟩
    · cases e
  · cases e
theorem setE_part {ps : List Int} {s : St} {i : Nat} {e : Hf} (h : PartE ps s) (hi : i < s.es.length) (hp : e.p = (sideA s i).p) (he : SideOk (ps.length : Int) (s.os.length : Int) e) : PartE ps (setE s i e) := by
  refine ⟨?_, fun x hx => ?_⟩
  · show (s.es.set i e).map (·.p) = nbsI ps s.me
    rw [← h.1]
    apply List.ext_getElem?
    intro j
    rw [List.getElem?_map, List.getElem?_map, List.getElem?_set]
    by_cases hj : i = j
    · subst hj
      rw [if_pos rfl, if_pos hi, List.getElem?_eq_getElem hi]
      have h2 : sideA s i = s.es[i] := by unfold sideA; rw [List.getD_eq_getElem?_getD, List.getElem?_eq_getElem hi]; rfl
      simp [hp, h2]
    · rw [if_neg hj]
  · rcases List.mem_or_eq_of_mem_set (show x ∈ s.es.set i e from hx) with hx | rfl
    · exact h.2 x hx
    · exact he
theorem pushS_part {ps : List Int} {s : St} {p : Int} {m : Mg} (h : PartE ps s) (hm : MeantS (ps.length : Int) (s.os.length : Int) m) : PartE ps (pushS s p m).1 := by
  unfold pushS
  cases he : edgeAt s p with
  | none => exact h
  | some i =>
    simp only
    split
    · rename_i h0
      obtain ⟨h1, h2, h3, h4⟩ := hpush_ok h0
      obtain ⟨hi, _⟩ := edgeAt_some he
      rw [h4]
      refine setE_part h hi rfl ⟨h1.add h2 h3, fun x hx => ?_⟩
      rcases List.mem_append.1 (show x ∈ (sideA s i).o ++ [m] from hx) with hx | hx
      · exact (h.2 _ (side_mem hi)).2 x hx
      · rw [List.mem_singleton.1 hx]; exact hm
    · exact h
theorem good_push {ps : List Int} {s : St} {p : Int} {m : Mg} (h : GoodS ps s) (hm : MeantS (ps.length : Int) (s.os.length : Int) m) : GoodS ps (pushS s p m).1 := by
  obtain ⟨h1, h2, h3, h4⟩ := good_parts.1 h
  obtain ⟨e1, e2, e3, e4, e5⟩ := pushS_same s p m
  refine good_parts.2 ⟨?_, ?_, pushS_part h3 hm, ?_⟩
  · unfold IsMe at h1 ⊢; rw [e1]; exact h1
  · unfold PartO at h2 ⊢; rw [e1, e2]; exact h2
  · unfold PartL at h4 ⊢; rw [e2, e3, e4, e5]; exact h4
theorem sumK_split (l : List Ow) (k : Nat) (o : Ow) (h : k < l.length) : sumK (l.set k o) + openK (l.getD k ⟨0, 0, []⟩).c = sumK l + openK o.c := by
  induction l generalizing k with
  | nil => simp at h
  | cons x l ih =>
    cases k with
    | zero => simp only [List.set_cons_zero, sumK, List.getD_cons_zero]; omega
    | succ k =>
      have := ih k (by simpa using h)
      simp only [List.set_cons_succ, sumK, List.getD_cons_succ]
      omega
theorem setO_good {ps : List Int} {s : St} {k : Nat} {o : Ow} (hs : IsMe ps s ∧ PartE ps s ∧ PartL ps s) (hO : (1 ≤ s.os.length ∧ s.os.length ≤ 8) ∧ ∀ x ∈ s.os, OwnOk ps s.me x) (ho : OwnOk ps s.me o) (hk : k < s.os.length) (hf : sumK s.os + openK o.c ≤ 8 + openK (objA s k).c) : GoodS ps (setO s k o) := by
  obtain ⟨h1, h2, h3⟩ := hs
  have hl : (setO s k o).os.length = s.os.length := by show (s.os.set k o).length = _; rw [List.length_set]
  refine good_parts.2 ⟨h1, ⟨by rw [hl]; exact hO.1, fun x hx => ?_, ?_⟩, ?_, ?_⟩
  · rcases List.mem_or_eq_of_mem_set (show x ∈ s.os.set k o from hx) with hx | rfl
    · exact hO.2 x hx
    · exact ho
  · have := sumK_split s.os k o hk
    show sumK (s.os.set k o) ≤ 8
    unfold objA at hf
    omega
  · unfold PartE at h2 ⊢; rw [hl]; exact h2
  · unfold PartL at h3 ⊢; rw [hl]; exact h3
theorem good_setO {ps : List Int} {s : St} {k : Nat} {o : Ow} (h : GoodS ps s) (ho : OwnOk ps s.me o) (hk : k < s.os.length) (hf : sumK s.os + openK o.c ≤ 8 + openK (objA s k).c) : GoodS ps (setO s k o) := by
  obtain ⟨h1, h2, h3, h4⟩ := good_parts.1 h
  exact setO_good ⟨h1, h3, h4⟩ ⟨h2.1, h2.2.1⟩ ho hk hf
theorem holdK_mem {l : List Ce} (hp : 0 < l.length) {c : Ce} (h : c ∈ holdK l) : ∃ c0 ∈ l, c.n = c0.n ∧ c.d = c0.d := by
  rcases List.mem_or_eq_of_mem_set h with h | rfl
  · exact ⟨c, h, rfl, rfl⟩
  · exact ⟨ceA l 0, List.mem_of_getElem? (ceA_get hp), rfl, rfl⟩
theorem pass_good {ps : List Int} {s : St} {m : Mg} (h : GoodS ps s) (hm : 0 ≤ m.o ∧ m.o < (s.os.length : Int)) : GoodS ps (passS s m) := by
  unfold passS
  split
  · rename_i hc
    have hk : m.o.toNat < s.os.length := by omega
    have ho := h.os _ (obj_mem hk)
    have hh := stay_hold ho.2.2.1 hc.1 hc.2.2
    refine good_setO h ⟨ho.1, ho.2.1, hh.1, fun c hcm => ?_⟩ hk ?_
    · obtain ⟨c0, h0, e1, e2⟩ := holdK_mem hc.1 hcm
      have := ho.2.2.2 c0 h0
      rw [e1, e2]; exact this
    · show sumK s.os + openK (holdK _) ≤ _
      unfold holdK
      rw [hh.2]
      have := h.few
      omega
  · exact h
theorem asks_filter {k q : Int} (p : Ak → Bool) : ∀ {last : Int} {l : List Ak}, AsksOk k q last l → AsksOk k q last (l.filter p)
  | _, [], _ => trivial
  | last, a :: r, h => by
    obtain ⟨h1, h2, h3⟩ := h
    rw [List.filter_cons]
    split
    · exact ⟨h1, h2, asks_filter p h3⟩
    · have key : ∀ {x y : Int} {l : List Ak}, x ≤ y → AsksOk k q y l → AsksOk k q x l := by
        intro x y l hxy hl
        cases l with
        | nil => trivial
        | cons b r => exact ⟨hl.1, ⟨by have := hl.2.1.1; omega, hl.2.1.2⟩, hl.2.2⟩
      exact key (by omega) (asks_filter p h3)
theorem asks_mem {k q : Int} : ∀ {last : Int} {l : List Ak}, AsksOk k q last l → ∀ a ∈ l, (0 ≤ a.o ∧ a.o < k) ∧ last < a.n ∧ a.n ≤ q
  | _, [], _, a, ha => by cases ha
  | last, b :: r, h, a, ha => by
    obtain ⟨h1, h2, h3⟩ := h
    rcases List.mem_cons.1 ha with rfl | ha
    · exact ⟨h1, h2⟩
    · have := asks_mem h3 a ha
      exact ⟨this.1, by omega, this.2.2⟩
theorem last4_mem {l : List Fnd} {f : Fnd} (h : f ∈ last4 l) : f ∈ l := by
  unfold last4 at h
  split at h
  · exact List.mem_of_mem_drop h
  · exact h
theorem last4_len {l : List Fnd} (h : l.length ≤ 5) : (last4 l).length ≤ 4 := by
  unfold last4
  split
  · rw [List.length_drop]; omega
  · omega
theorem tell_good {ps : List Int} {s : St} {m : Mg} (h : GoodS ps s) (hv : 0 ≤ m.v ∧ m.v < (ps.length : Int)) : GoodS ps (tellS s m) := by
  unfold tellS
  split
  · rename_i hc
    obtain ⟨h1, h2, h3, h4⟩ := good_parts.1 h
    have ha := asks_mem h.as_ _ hc
    simp only at ha
    refine good_parts.2 ⟨h1, h2, h3, h4.1, ?_, ?_, asks_filter _ h.as_, fun f hf => ?_⟩
    · show (s.as_.filter _).length ≤ 4
      exact Nat.le_trans (List.length_filter_le _ _) h.an
    · show (last4 _).length ≤ 4
      refine last4_len ?_
      rw [List.length_append, List.length_singleton]
      have := h.gn
      omega
    · rcases List.mem_append.1 (last4_mem (show f ∈ last4 (s.gs ++ [⟨m.o, m.u, m.v⟩]) from hf)) with hf | hf
      · exact h.gs f hf
      · rw [List.mem_singleton.1 hf]
        exact ⟨ha.1, ⟨by show 1 ≤ m.u; omega, ha.2.2⟩, hv⟩
  · exact h
theorem toward_good {ps : List Int} {s : St} {m : Mg} (h : GoodS ps s) (hm : MeantS (ps.length : Int) (s.os.length : Int) m) : GoodS ps (towardS ps s m).1 := by
  unfold towardS
  split
  · exact good_push h hm
  · split
    · exact pass_good h ⟨hm.1, hm.2.1⟩
    · exact tell_good h hm.2.2.2.2
theorem seek_good {ps : List Int} {s : St} {m : Mg} (h : GoodS ps s) (hm : MeantS (ps.length : Int) (s.os.length : Int) m) : GoodS ps (seekS ps s m).1 := by
  unfold seekS
  split
  · exact good_push h hm
  · exact toward_good h ⟨hm.1, hm.2.1, hm.2.2.1, hm.2.2.2.1, h.me⟩
theorem nbs_ne {ps : List Int} (G : Gr.Good ps) {me p : Int} (h : p ∈ nbsI ps me) : (0 ≤ p ∧ p < (ps.length : Int)) ∧ p ≠ me := by
  unfold nbsI at h
  split at h
  · rename_i hme
    unfold nbs at h
    obtain ⟨u, hu, rfl⟩ := List.mem_map.1 h
    obtain ⟨hu1, hu2⟩ := List.mem_filter.1 hu
    have hu3 := List.mem_range.1 hu1
    refine ⟨⟨by omega, by omega⟩, fun e => ?_⟩
    have e2 : me.toNat = u := by omega
    rw [e2] at hu2
    unfold nearL at hu2
    have := (G.rng u hu3).2.2
    simp [this] at hu2
  · cases h
theorem find_good {ps : List Int} (G : Gr.Good ps) {s : St} {from_ : Int} {m : Mg} (h : GoodS ps s) (hf : from_ ∈ nbsI ps s.me) (hb : m.Be) (hm : MeantS (ps.length : Int) (s.os.length : Int) m) : GoodS ps (findS ps s from_ m).1 := by
  have hk : m.o.toNat < s.os.length := by have := hm.1; have := hm.2.1; omega
  have ho := h.os _ (obj_mem hk)
  have hne := (nbs_ne G hf).2
  unfold findS
  split
  · exact h
  · rename_i hn
    split
    · rename_i ha
      refine good_push ?_ (by show MeantS _ ((s.os.set _ _).length : Int) _; rw [List.length_set]; exact hm)
      refine good_setO h ⟨.inr hf, ho.2.1, ?_, ho.2.2.2⟩ hk (by have := h.few; show sumK s.os + openK (objA s m.o.toNat).c ≤ _; omega)
      have := ho.2.2.1
      rw [decide_eq_false ha] at this
      rw [decide_eq_false hne]
      exact this
    · rename_i ha
      have ha : (objA s m.o.toNat).a = s.me := Classical.byContradiction ha
      have hg := ho.2.2.1
      rw [decide_eq_true ha] at hg
      have hn32 := G.few
      have hst := stayG_far (far := m.n) (x := m.u) hg ⟨hm.2.2.1, by have := hm.2.2.2.1; omega⟩ hn ⟨hb.2.2.2.2.2.2.1, hb.2.2.2.2.2.2.2.1⟩
      have hgood : GoodS ps (setO s m.o.toNat ⟨from_, (objA s m.o.toNat).m, (succK (objA s m.o.toNat).c m.n m.u).1⟩) := by
        refine good_setO h ⟨.inr hf, ho.2.1, by rw [decide_eq_false hne]; exact hst, fun c hc => ?_⟩ hk ?_
        · obtain ⟨c0, h0, e1, _, e2⟩ := mem_succ hc
          have h9 := ho.2.2.2 c0 h0
          refine ⟨by rw [e1]; exact h9.1, ?_⟩
          rcases e2 with e2 | e2
          · rw [e2]; exact h9.2
          · rw [e2]; exact hm.2.2.2.1
        · show sumK s.os + openK (succK _ _ _).1 ≤ _
          rw [openK_succ]
          have := h.few
          omega
      split
      · refine toward_good hgood ?_
        show MeantS _ ((s.os.set _ _).length : Int) _
        rw [List.length_set]
        exact ⟨hm.1, hm.2.1, hm.2.2.1, hm.2.2.2.1, by show (0 : Int) ≤ 0; omega, by show (0 : Int) < _; have := h.me; omega⟩
      · exact hgood
theorem come_good {ps : List Int} (G : Gr.Good ps) {s : St} {from_ : Int} {m : Mg} (h : GoodS ps s) (hf : from_ ∈ nbsI ps s.me) (hb : m.Be) (hm : MeantS (ps.length : Int) (s.os.length : Int) m) : GoodS ps (comeS ps s from_ m).1 := by
  unfold comeS
  split
  · exact seek_good h hm
  · split
    · exact toward_good h hm
    · exact find_good G h hf hb hm
theorem made_top {l : List Ce} {M : Int} (h : ∀ c ∈ l, c.n ≤ M) {i : Nat} (hi : i < l.length) : (ceA l i).n ≤ M := h _ (List.mem_of_getElem? (ceA_get hi))
theorem ownK_good {l : List Ce} {me num : Int} (h : GoodK l me true) (hm : 0 ≤ me ∧ me < 32) (hx : (ceA l (l.length - 1)).n < num) (hle : num ≤ 1099511627776) : GoodK (ownK l me num) me true ∧ openK (ownK l me num) = openK l + 1 ∧ ∀ c ∈ ownK l me num, (∃ c0 ∈ l, c.n = c0.n ∧ (c.d = c0.d ∨ c.d = me)) ∨ (c.n = num ∧ c.d = -1) := by
  have hst := stayG_add h hm hx hle
  have hmem : ∀ c ∈ addK (succK l me num).1 num, (∃ c0 ∈ l, c.n = c0.n ∧ (c.d = c0.d ∨ c.d = me)) ∨ (c.n = num ∧ c.d = -1) := by
    intro c hc
    rcases List.mem_append.1 hc with hc | hc
    · obtain ⟨c0, h0, e1, _, e2⟩ := mem_succ hc
      exact .inl ⟨c0, h0, e1, e2⟩
    · rw [List.mem_singleton.1 hc]; exact .inr ⟨rfl, rfl⟩
  unfold ownK
  split
  · rename_i hr
    have hpos := h.1 rfl
    obtain ⟨k, hk⟩ : ∃ k, l.length = k + 1 := ⟨l.length - 1, by omega⟩
    have hs : (ceA l k).s = 3 := Classical.byContradiction fun hs => by
      rw [succK_on hk hs] at hr; cases hr
    have hk0 : k = 0 := h.first (by omega) (by omega)
    subst hk0
    have e : addK (succK l me num).1 num = [⟨num, 1, -1, 0⟩] := by rw [succK_rest hk hs]; rfl
    have hh := stay_hold hst.1 (by rw [e]; simp) (by rw [e]; rfl)
    refine ⟨hh.1, ?_, fun c hc => ?_⟩
    · show openK ((addK (succK l me num).1 num).set 0 _) = _
      rw [hh.2, openK_add, openK_succ]
    · obtain ⟨c0, h0, e1, e2⟩ := holdK_mem (by rw [e]; simp) hc
      rcases hmem c0 h0 with ⟨c1, h1, e3, e4⟩ | ⟨e3, e4⟩
      · exact .inl ⟨c1, h1, by rw [e1, e3], by rw [e2]; exact e4⟩
      · exact .inr ⟨by rw [e1, e3], by rw [e2, e4]⟩
  · refine ⟨hst.1, by rw [openK_add, openK_succ], hmem⟩
theorem acq_good {ps : List Int} (G : Gr.Good ps) {s : St} {k : Nat} (h : GoodS ps s) (hk : k < s.os.length) (he : (acqS s k).2.2 = 0) : GoodS ps (acqS s k).1 := by
  have ho := h.os _ (obj_mem hk)
  have hn32 := G.few
  have hme := h.me
  have hm := ho.2.1
  unfold acqS at he ⊢
  by_cases h8 : 8 ≤ sumK s.os
  · rw [if_pos h8] at he; cases he
  · rw [if_neg h8] at he ⊢
    by_cases hM : (objA s k).m = 1099511627776
    · rw [if_pos hM] at he; cases he
    · rw [if_neg hM] at he ⊢
      by_cases ha : (objA s k).a = s.me
      · rw [if_pos ha]
        have hg := ho.2.2.1
        rw [decide_eq_true ha] at hg
        have hpos := hg.1 rfl
        have htop := made_top (fun c hc => (ho.2.2.2 c hc).1) (show (objA s k).c.length - 1 < (objA s k).c.length by omega)
        obtain ⟨g1, g2, g3⟩ := ownK_good (num := (objA s k).m + 1) hg ⟨hme.1, by omega⟩ (by omega) (by omega)
        refine good_setO h ⟨.inl rfl, ⟨by show 0 ≤ (objA s k).m + 1; omega, by show (objA s k).m + 1 ≤ _; omega⟩, by rw [decide_eq_true rfl]; exact g1, fun c hc => ?_⟩ hk ?_
        · rcases g3 c hc with ⟨c0, h0, e1, e2⟩ | ⟨e1, e2⟩
          · have h9 := ho.2.2.2 c0 h0
            refine ⟨by rw [e1]; show c0.n ≤ (objA s k).m + 1; omega, ?_⟩
            rcases e2 with e2 | e2
            · rw [e2]; exact h9.2
            · rw [e2]; exact hme.2
          · exact ⟨by rw [e1]; exact Int.le_refl _, by rw [e2]; omega⟩
        · show sumK s.os + openK (ownK _ _ _) ≤ _
          rw [g2]; omega
      · rw [if_neg ha] at he ⊢
        split
        · obtain ⟨e1, e2, e3, e4, e5⟩ := pushS_same s (objA s k).a ⟨1, (k : Int), s.me, (objA s k).m + 1, 0⟩
          have hg := ho.2.2.1
          rw [decide_eq_false ha] at hg
          have hgp := good_push (p := (objA s k).a) (m := ⟨1, (k : Int), s.me, (objA s k).m + 1, 0⟩) h ⟨by show (0 : Int) ≤ (k : Int); omega, by show (k : Int) < _; omega, hme.1, hme.2, by show (0 : Int) ≤ 0; omega, by show (0 : Int) < _; omega⟩
          have hnew := stay_new (next := (objA s k).m + 1) hg (fun i hi => by have := made_top (fun c hc => (ho.2.2.2 c hc).1) hi; omega) (by omega) (by omega)
          refine good_setO hgp ?_ (by rw [e2]; exact hk) ?_
          · rw [e1]
            refine ⟨.inl rfl, ⟨by show 0 ≤ (objA s k).m + 1; omega, by show (objA s k).m + 1 ≤ _; omega⟩, by rw [decide_eq_true rfl]; exact hnew, fun c hc => ?_⟩
            rcases List.mem_append.1 (show c ∈ (objA s k).c ++ [⟨(objA s k).m + 1, 1, -1, 0⟩] from hc) with hc | hc
            · have h9 := ho.2.2.2 c hc
              exact ⟨by show c.n ≤ (objA s k).m + 1; omega, h9.2⟩
            · rw [List.mem_singleton.1 hc]
              exact ⟨Int.le_refl _, by show (-1 : Int) < _; omega⟩
          · have e6 : objA (pushS s (objA s k).a ⟨1, (k : Int), s.me, (objA s k).m + 1, 0⟩).1 k = objA s k := objA_push s _ _ k
            rw [e2, e6]
            show sumK s.os + openK (addK _ _) ≤ _
            rw [openK_add]; omega
        · rename_i hp
          rw [if_neg hp] at he
          exact absurd he hp
theorem rel_good {ps : List Int} {s : St} {k : Nat} (h : GoodS ps s) (hk : k < s.os.length) (he : (relS ps s k).2 = 0) : GoodS ps (relS ps s k).1 := by
  have ho := h.os _ (obj_mem hk)
  unfold relS at he ⊢
  cases hh : heldAt (objA s k).c with
  | none =>
    have e := (held_none hh).1
    rw [e] at he
    cases he
  | some i =>
    obtain ⟨g1, g2, g3, _⟩ := stay_rel ho.2.2.1 hh
    rw [if_neg (by rw [g3]; simp)] at he ⊢
    have hgood : GoodS ps (setO s k ⟨(objA s k).a, (objA s k).m, (relK (objA s k).c).1⟩) := by
      refine good_setO h ⟨ho.1, ho.2.1, g1, fun c hc => ?_⟩ hk ?_
      · obtain ⟨c0, h0, e1, e2⟩ := mem_rel hc
        have h9 := ho.2.2.2 c0 h0
        rw [e1, e2]; exact h9
      · show sumK s.os + openK (relK _).1 ≤ _
        have := h.few
        omega
    split
    · exact hgood
    · rename_i hd
      obtain ⟨q1, q2, q3, c, hc, q4⟩ := rel_next ho.2.2.1 hh hd
      have h9 := ho.2.2.2 c hc
      refine toward_good hgood ?_
      show MeantS _ ((s.os.set _ _).length : Int) _
      rw [List.length_set]
      exact ⟨by show (0 : Int) ≤ (k : Int); omega, by show (k : Int) < _; omega, q1, by show (relK _).2.1 < _; rw [← q4]; exact h9.2, by show (0 : Int) ≤ 0; omega, by show (0 : Int) < _; have := h.me; omega⟩
theorem asks_snoc {k q q' : Int} {a : Ak} (hq : q ≤ q') (ha : 0 ≤ a.o ∧ a.o < k) (h1 : a.n ≤ q') : ∀ {last : Int} {l : List Ak}, AsksOk k q last l → (∀ b ∈ l, b.n < a.n) → last < a.n → AsksOk k q' last (l ++ [a])
  | last, [], _, _, hl => ⟨ha, ⟨hl, h1⟩, trivial⟩
  | last, b :: r, h, hb, hl => by
    obtain ⟨g1, g2, g3⟩ := h
    exact ⟨g1, ⟨g2.1, Int.le_trans g2.2 hq⟩, asks_snoc hq ha h1 g3 (fun x hx => hb x (List.mem_cons_of_mem _ hx)) (hb b List.mem_cons_self)⟩
theorem loc_good {ps : List Int} {s : St} {k : Nat} (h : GoodS ps s) (hk : k < s.os.length) (he : (locS ps s k).2.2 = 0) : GoodS ps (locS ps s k).1 := by
  unfold locS at he ⊢
  by_cases h4 : 4 ≤ s.as_.length
  · rw [if_pos h4] at he; cases he
  · rw [if_neg h4] at he ⊢
    by_cases hM : s.q = 1099511627776
    · rw [if_pos hM] at he; cases he
    · rw [if_neg hM] at he ⊢
      have hq := h.q
      obtain ⟨g1, g2, g3, g4⟩ := good_parts.1 h
      have hgood : GoodS ps { s with q := s.q + 1, as_ := s.as_ ++ [⟨(k : Int), s.q + 1⟩] } := by
        refine good_parts.2 ⟨g1, g2, g3, ⟨by show 0 ≤ s.q + 1; omega, by show s.q + 1 ≤ _; omega⟩, ?_, h.gn, ?_, fun f hf => ?_⟩
        · show (s.as_ ++ [_]).length ≤ 4
          rw [List.length_append, List.length_singleton]; omega
        · refine asks_snoc (q := s.q) (q' := s.q + 1) (a := ⟨(k : Int), s.q + 1⟩) (by omega) ⟨by show (0 : Int) ≤ (k : Int); omega, by show (k : Int) < (s.os.length : Int); omega⟩ (Int.le_refl _) h.as_ (fun b hb => ?_) (by show 0 < s.q + 1; omega)
          have := asks_mem h.as_ b hb
          show b.n < s.q + 1
          omega
        · have h9 := h.gs f hf
          exact ⟨h9.1, ⟨h9.2.1.1, by show f.n ≤ s.q + 1; have := h9.2.1.2; omega⟩, h9.2.2⟩
      exact seek_good hgood ⟨by show (0 : Int) ≤ (k : Int); omega, by show (k : Int) < (s.os.length : Int); omega, g1.1, g1.2, by show (0 : Int) ≤ 0; omega, by show (0 : Int) < _; have := g1; unfold IsMe at this; omega⟩
theorem hheard_good {h : Hf} (hb : h.Be) (a : Int) : (hheard h a).1.Be ∧ (hheard h a).1.p = h.p ∧ (hheard h a).1.s = h.s ∧ (∀ m ∈ (hheard h a).1.o, m ∈ h.o) ∧ (hheard h a).2 = 0 := by
  unfold hheard
  rw [if_pos hb]
  split
  · rename_i hn
    obtain ⟨h1, h2, h3, h4, h5, h6, h7, h8⟩ := hb
    obtain ⟨n1, n2⟩ := hn
    refine ⟨⟨h1, h2, by show 0 ≤ a; omega, h4, h5, ?_, ?_, fun m hm => h8 m (List.mem_of_mem_drop hm)⟩, rfl, rfl, fun m hm => List.mem_of_mem_drop hm, rfl⟩
    · show (h.o.drop _).length ≤ 1024
      rw [List.length_drop]; omega
    · show a + ((h.o.drop _).length : Int) ≤ _
      rw [List.length_drop]; omega
  · exact ⟨hb, rfl, rfl, fun m hm => hm, rfl⟩
theorem gram_good {ps : List Int} (G : Gr.Good ps) {s : St} {g : Gm} (h : GoodS ps s) (he : (gramS ps s g).2 = 0) : GoodS ps (gramS ps s g).1 := by
  unfold gramS at he ⊢
  by_cases hc : ComesS ps s g
  · rw [if_neg (by simpa using hc)] at he ⊢
    cases hi : edgeAt s g.f with
    | none => exact h
    | some i =>
      obtain ⟨hil, hip⟩ := edgeAt_some hi
      have hside := h.es _ (side_mem hil)
      obtain ⟨q1, q2, q3, q4, q5⟩ := hheard_good hside.1 g.a
      obtain ⟨g1, g2, g3, g4⟩ := good_parts.1 h
      simp only
      have gset : ∀ e : Hf, e.Be → e.p = (sideA s i).p → (∀ m ∈ e.o, m ∈ (sideA s i).o) → GoodS ps (setE s i e) := fun e b1 b2 b3 =>
        good_parts.2 ⟨g1, g2, setE_part g3 hil b2 ⟨b1, fun m hm => hside.2 m (b3 m hm)⟩, g4⟩
      split
      · rename_i hf
        have hfit : (hheard (sideA s i) g.a).1.s < 1099511627776 := by
          have := hf.2
          unfold hfits at this
          have := of_decide_eq_true this
          exact this.2.1
        have hgood := gset (hheard (sideA s i) g.a).1.one ⟨q1.1, q1.2.1, q1.2.2.1, by show 0 ≤ (hheard (sideA s i) g.a).1.s + 1; have := q1.2.2.2.1; omega, by show (hheard (sideA s i) g.a).1.s + 1 ≤ _; omega, q1.2.2.2.2.2⟩ q2 q4
        have hs0 : g.s ≠ 0 := by omega
        refine come_good G hgood hc.2.2.1 (hc.1.2.2.2.2.2.2.2.2.2.2 hs0) ?_
        rcases hc.2.2.2 with h0 | h0
        · exact absurd h0 hs0
        · exact h0
      · exact gset _ q1 q2 q4
  · rw [if_pos hc] at he; cases he
/-- P15.2. -/
theorem step_good {ps : List Int} (G : Gr.Good ps) {s : St} {ev : Ev} (h : GoodS ps s) (he : (stepS ps s ev).2.2 = 0) : GoodS ps (stepS ps s ev).1 := by
  unfold stepS at he ⊢
  by_cases h1 : ev.k < 1 ∨ 4 < ev.k
  · rw [if_pos h1] at he; cases he
  · rw [if_neg h1] at he ⊢
    by_cases h2 : ev.k = 4
    · rw [if_pos h2] at he ⊢
      exact gram_good G h he
    · rw [if_neg h2] at he ⊢
      by_cases h3 : ev.o < 0 ∨ (s.os.length : Int) ≤ ev.o
      · rw [if_pos h3] at he; cases he
      · rw [if_neg h3] at he ⊢
        have hk : ev.o.toNat < s.os.length := by omega
        by_cases h4 : ev.k = 1
        · rw [if_pos h4] at he ⊢
          exact acq_good G h hk he
        · rw [if_neg h4] at he ⊢
          by_cases h5 : ev.k = 2
          · rw [if_pos h5] at he ⊢
            exact rel_good h hk he
          · rw [if_neg h5] at he ⊢
            exact loc_good h hk he
end Go.Proofs.Ytiaafhcfeeekeaa.Pk

/- An acquire at the object's home. -/
namespace Go.Proofs.Ytiaafhcfeeekeaa.Pk
open Go.RowKit Go.Proofs.Ytiaafhcfeeekeaa.Gr
set_option linter.unusedVariables false
def wk0 : St := ⟨1, [⟨1, 0, [⟨0, 3, -1, 0⟩]⟩], [⟨0, 0, [], 0⟩], 0, [], []⟩
def wk1 : St := ⟨1, [⟨1, 1, [⟨1, 2, -1, 0⟩]⟩], [⟨0, 0, [], 0⟩], 0, [], []⟩
def wkE : Ev := ⟨1, 0, Gm.zero⟩
theorem wk_home : HomesS ([-1, 0] : List Int).length [1] := by unfold HomesS; simp
theorem wk_first : firstS [-1, 0] [1] 1 = wk0 := by decide +kernel
theorem wk_firstE : firstE [-1, 0] [1] 1 = (wk0, 0) := by decide +kernel
theorem wk_few : FewS wk0 := by
  have h := firstS_few (ps := [-1, 0]) (hs := [1]) good2s (me := 1) (by omega) (by decide) wk_home
  rw [wk_first] at h
  exact h
theorem wk_good : GoodS [-1, 0] wk0 := by
  have h := first_good (ps := [-1, 0]) (hs := [1]) good2s (by decide) (me := 1) (by omega) (by decide) wk_home
  rw [wk_first] at h
  exact h
theorem wk_apply : applyS [-1, 0] wk0 wkE = (wk1, 1, 0) := by
  have e : stepS [-1, 0] wk0 wkE = (wk1, 1, 0) := by decide +kernel
  rw [applyS_ok wk_good (by rw [e]), e]
theorem wk_i : wkE.I := by
  have z : I64 (0 : Int) := by unfold I64; omega
  exact ⟨by show I64 1; unfold I64; omega, z, ⟨z, z, z, z, mg_zero_i⟩⟩
end Go.Proofs.Ytiaafhcfeeekeaa.Pk
