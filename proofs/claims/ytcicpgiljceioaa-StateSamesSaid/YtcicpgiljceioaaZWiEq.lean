/- The states' statements' own wakes. -/
import Derived.Test.YtcicpgiljceioaaZStSpec
import Derived.Deep.RegionHeld3
import Derived.Deep.DeepMust
import Derived.Test.YtcicpgiljceioaaZStVal
import Derived.Maps.AppendAt
import Derived.OwnWalk
import Derived.Outline
namespace Go.Proofs.Ytcicpgiljceioaa.Gr
set_option linter.unusedVariables false
theorem good2s : Good [-1, 0] where
  pos := by decide
  few := by decide
  rng := by
    intro v hv
    have : v = 0 ∨ v = 1 := by simp at hv; omega
    rcases this with rfl | rfl <;> decide
  one := by
    intro u v hu hv h1 h2
    have a1 : u = 0 ∨ u = 1 := by simp at hu; omega
    have a2 : v = 0 ∨ v = 1 := by simp at hv; omega
    rcases a1 with rfl | rfl <;> first | (exact absurd h1 (by decide)) | (rcases a2 with rfl | rfl <;> first | rfl | exact absurd h2 (by decide))
  all := by
    intro v hv
    have : v = 0 ∨ v = 1 := by simp at hv; omega
    rcases this with rfl | rfl <;> decide
end Go.Proofs.Ytcicpgiljceioaa.Gr
namespace Go.Proofs.Ytcicpgiljceioaa.Pk
open Go.RowKit Go.Proofs.Ytcicpgiljceioaa.Gr
set_option linter.unusedVariables false
theorem first2s : firstE [-1, 0] [1] 0 = (⟨0, [⟨1, 0, []⟩], [⟨1, 0, [], 0⟩], 0, [], []⟩, 0) := by decide +kernel
theorem few2s : FewS (⟨0, [⟨1, 0, []⟩], [⟨1, 0, [], 0⟩], 0, [], []⟩ : St) := by
  have e : firstS [-1, 0] [1] 0 = ⟨0, [⟨1, 0, []⟩], [⟨1, 0, [], 0⟩], 0, [], []⟩ := by decide +kernel
  have h := firstS_few (ps := [-1, 0]) (hs := [1]) good2s (me := 0) (by omega) (by decide) (by unfold HomesS; simp)
  rw [e] at h
  exact h
theorem NewR.good_ {ps : List Int} {w : World} {e : Ending} {w' : World} (h : NewR ps w e w') (G : Gr.Good ps) : Below w.heap.size w w' ∧ ∃ T g, e = .returned (.tuple #[.pointer (some ⟨T, 0, none⟩), .int .i64 0]) ∧ IsTr w' T g ps := by
  obtain ⟨hb, ⟨T, g, he, hc, h1, h2, h3, h4⟩ | ⟨p, er, he, hc, hne⟩⟩ := h
  · exact ⟨hb, T, g, he, h1⟩
  · exact absurd (hc.only (good_chk G)).2 hne
theorem two_reads (w : World) (T : TypeId) (a b : Int) : Reads (w.alloc (.cells #[.int .i64 a, .int .i64 b] T)) (w.heap.size + 1) 1 (some ⟨w.heap.size, 0, none⟩) 2 (nms [a, b]) := by
  refine ⟨rfl, fun _ => ⟨_, rfl, by simp, fun j u hj => ?_⟩⟩
  match j, hj with
  | 0, hj => simp [nms] at hj; subst hj; simp [Addr.add]
  | 1, hj => simp [nms] at hj; subst hj; simp [Addr.add]
  | j + 2, hj => simp [nms] at hj
theorem one_reads (w : World) (T : TypeId) (a : Int) : Reads (w.alloc (.cells #[.int .i64 a] T)) (w.heap.size + 1) 1 (some ⟨w.heap.size, 0, none⟩) 1 (nms [a]) := by
  refine ⟨rfl, fun _ => ⟨_, rfl, by simp, fun j u hj => ?_⟩⟩
  match j, hj with
  | 0, hj => simp [nms] at hj; subst hj; simp [Addr.add]
  | j + 1, hj => simp [nms] at hj
set_option maxRecDepth 100000 in
set_option maxHeartbeats 8000000 in
theorem wakesS (HFi : StFirstP) (HGo : StGoodP) (w : World) : Calls Try.prog 9 #[] w fun e w' => e = .returned (.bool true) ∧ Below w.heap.size w w' := by
  obtain ⟨W0, hW0⟩ : ∃ W0, W0 = w.alloc (.cells #[.int .i64 (-1), .int .i64 0] 3) := ⟨_, rfl⟩
  have hb0 : Below w.heap.size w W0 := hW0 ▸ (Below.refl _ w).alloc (Nat.le_refl _) _
  have hr : Reads W0 W0.heap.size 1 (some ⟨w.heap.size, 0, none⟩) 2 (nms [-1, 0]) := by rw [hW0, World.size_alloc]; exact two_reads w _ _ _
  have HN := Lib.hid ((new_any (some ⟨w.heap.size, 0, none⟩) 2 2 [-1, 0] W0 W0.heap.size hr (Nat.le_refl _) (by omega)).mono fun e w' h => h.good_ good2s)
  have HB0 := Lib.hid hb0
  have HFi := Lib.hid HFi
  have HGo := Lib.hid HGo
  clear hr hb0
  go_enter Try.func9, Try.ntmps9
  go_wp2_with fail
  rw [← hW0]
  refine HN.out.mono ?_
  rintro e w1 ⟨hb1, T, g, rfl, ht⟩
  have HB1 := Lib.hid (HB0.out.trans (hb1.mono HB0.out.size))
  have HT := Lib.hid ht
  clear hb1 ht hW0 HN
  obtain ⟨W2, hW2⟩ : ∃ W, W = w1.alloc (.cells #[.int .i64 1] 3) := ⟨_, rfl⟩
  have hb12 : Below w1.heap.size w1 W2 := hW2 ▸ (Below.refl _ _).alloc (Nat.le_refl _) _
  have hin : InN W2 [1] (some ⟨w1.heap.size, 0, none⟩) 1 1 := ⟨by rw [hW2, World.size_alloc]; exact one_reads w1 _ _, by omega, by omega, by intro x hx; simp at hx; subst hx; unfold I64; omega⟩
  have hc := HFi.out T g [-1, 0] _ 1 1 [1] 0 W2 (HT.out.below_ hb12) good2s hin (by unfold I64; omega)
  rw [first2s] at hc
  have HC := Lib.hid hc
  have HB2 := Lib.hid (HB1.out.trans (hb12.mono HB1.out.size))
  have HT2 := Lib.hid (HT.out.below_ hb12)
  clear hc hin hb12
  go_wp2_with fail
  rw [← hW2]
  clear hW2
  refine HC.out.mono ?_
  rintro e w3 ⟨s2, rfl, hv, ho, hb3⟩
  have hin := ho.few (by rw [hv]; exact few2s)
  have hgd := HGo.out T g [-1, 0] s2
  obtain ⟨me, os, ⟨A1, n1, c1⟩, es, ⟨A2, n2, c2⟩, q, as_, ⟨A3, n3, c3⟩, gs, ⟨A4, n4, c4⟩⟩ := s2
  have hv0 := hv
  unfold StL.v at hv
  simp only [St.mk.injEq] at hv
  obtain ⟨e1, e2, e3, e4, e5, e6⟩ := hv
  obtain ⟨x, rfl⟩ : ∃ x, os = [x] := by
    match os, e2 with
    | [x], _ => exact ⟨x, rfl⟩
    | [], h => simp at h
    | x :: y :: r, h => simp at h
  have hx : x.v = ⟨1, 0, []⟩ := by simpa using e2
  obtain ⟨l1, k1, r1⟩ := Row.Own.rd ho.os.row
  obtain ⟨l2, k2, r2⟩ := Row.Own.rd ho.es.row
  have hl2 : es.length = 1 := by have := congrArg List.length e3; simpa using this
  have i1 : n1 = 1 := by simpa using l1.symm
  have i2 : n2 = 1 := l2.symm.trans hl2
  clear l1 l2
  subst i1; subst i2
  obtain ⟨b, off, rfl, hbw, hcs⟩ := owR.spots r1 (show 0 < 1 by omega)
  obtain ⟨xv, ⟨A5, n5, c5⟩⟩ := x
  simp only at hx
  subst hx
  have m0 := hcs 0 _ rfl 0 _ rfl
  have m2 := hcs 0 _ rfl 2 _ rfl
  simp only [owR, Sl.val, Nat.zero_mul, Nat.add_zero, Nat.zero_add] at m0 m2
  have h5 := Row.Own.rd (ho.os.each _ List.mem_cons_self)
  have l5 : n5 = 0 := h5.1.symm
  subst l5
  have k5 : (0 : Nat) ≤ c5 := Nat.zero_le _
  have HB3 := Lib.hid (HB2.out.trans (hb3.mono HB2.out.size))
  have HT3 := Lib.hid (HT2.out.below_ hb3)
  have HIn := Lib.hid hin
  have hbw : b < w3.heap.size := hbw
  have HGd := Lib.hid hgd
  have HGs : Hid (GoodS [-1, 0] (⟨0, [⟨1, 0, []⟩], [⟨1, 0, [], 0⟩], 0, [], []⟩ : St)) := Lib.hid (by
    have h := first_good (ps := [-1, 0]) (hs := [1]) good2s (by decide) (me := 0) (by omega) (by decide) (by unfold HomesS; simp)
    have e : firstS [-1, 0] [1] 0 = ⟨0, [⟨1, 0, []⟩], [⟨1, 0, [], 0⟩], 0, [], []⟩ := by decide +kernel
    rw [e] at h
    exact h)
  have HV := Lib.hid hv0
  clear hv0 e1 e2 e3 e4 e5 e6 ho hb3 hin hcs r1 r2 h5 hgd hl2
  simp only [StL.val, Sl.val]
  obtain ⟨w4, hw4⟩ : ∃ V, V = w3.alloc (.cells #[.int .i64 me, .slice (some ⟨b, off, none⟩) 1 c1, .slice A2 1 c2, .int .i64 q, .slice A3 n3 c3, .slice A4 n4 c4] 30) := ⟨_, rfl⟩
  have hb34 : Below w3.heap.size w3 w4 := hw4 ▸ (Below.refl _ _).alloc (Nat.le_refl _) _
  have HGd2 := Lib.hid (HGd.out w4 (HT3.out.below_ hb34) good2s (HIn.out.next hb34))
  have HB4 := Lib.hid (HB3.out.trans (hb34.mono HB3.out.size))
  clear hb34
  go_wp2_with fail
  rw [← hw4]
  clear hw4
  refine HGd2.out.mono ?_
  rintro e w5 ⟨bb, rfl, hbb, hb5⟩
  have hbt : bb = true := hbb.2 (by rw [HV.out]; exact HGs.out)
  subst hbt
  have HB5 := Lib.hid (HB4.out.trans (hb5.mono HB4.out.size))
  clear hb5 hbb
  go_wp2
  go_ret
  exact ⟨rfl, HB5.out⟩
end Go.Proofs.Ytcicpgiljceioaa.Pk

/- Messages in memory: five cells each. -/
namespace Go.Proofs.Ytcicpgiljceioaa.Pk
open Go.RowKit
set_option linter.unusedVariables false
def Mg.cells (m : Mg) : List Value := [.int .i64 m.k, .int .i64 m.o, .int .i64 m.n, .int .i64 m.u, .int .i64 m.v]
def mgs (l : List Mg) : List Value := l.flatMap Mg.cells
theorem mgs_cons (r : Mg) (l : List Mg) : mgs (r :: l) = .int .i64 r.k :: .int .i64 r.o :: .int .i64 r.n :: .int .i64 r.u :: .int .i64 r.v :: mgs l := rfl
@[simp] theorem mgs_length (l : List Mg) : (mgs l).length = l.length * 5 := by
  induction l with
  | nil => rfl
  | cons r l ih => rw [mgs_cons]; simp [ih]; omega
theorem mgs_get {l : List Mg} {k : Nat} {r : Mg} (h : l[k]? = some r) : (mgs l)[k * 5]? = some (.int .i64 r.k) ∧ (mgs l)[k * 5 + 1]? = some (.int .i64 r.o) ∧ (mgs l)[k * 5 + 2]? = some (.int .i64 r.n) ∧ (mgs l)[k * 5 + 3]? = some (.int .i64 r.u) ∧ (mgs l)[k * 5 + 4]? = some (.int .i64 r.v) := by
  induction l generalizing k with
  | nil => simp at h
  | cons x l ih =>
    rw [mgs_cons]
    match k, h with
    | 0, h => simp at h; subst h; exact ⟨rfl, rfl, rfl, rfl, rfl⟩
    | k + 1, h =>
      have := ih (k := k) (by simpa using h)
      rw [show (k + 1) * 5 = k * 5 + 1 + 1 + 1 + 1 + 1 by omega]
      simpa using this
theorem Reads.mgs_ {w : World} {B : Nat} {A : Option Addr} {n : Nat} {l : List Mg} (h : Reads w B 5 A n (mgs l)) (hn : 0 < n) :
    ∃ b off, A = some ⟨b, off, none⟩ ∧ b < B ∧ ∀ i r, l[i]? = some r → w.cell? ⟨b, off + i * 5, none⟩ = some (.int .i64 r.k) ∧ w.cell? ⟨b, off + i * 5 + 1, none⟩ = some (.int .i64 r.o) ∧
      w.cell? ⟨b, off + i * 5 + 2, none⟩ = some (.int .i64 r.n) ∧ w.cell? ⟨b, off + i * 5 + 3, none⟩ = some (.int .i64 r.u) ∧ w.cell? ⟨b, off + i * 5 + 4, none⟩ = some (.int .i64 r.v) := by
  obtain ⟨ad, rfl, hb, hc⟩ := h.2 hn
  have hl : 0 < (mgs l).length := by rw [h.1]; omega
  have h0 := hc 0 _ (List.getElem?_eq_getElem hl)
  obtain ⟨b, off, spot⟩ := ad
  have hs : spot = none := by simpa [Addr.add] using World.cell?_spot h0
  subst hs
  have hat : ∀ j u, (mgs l)[j]? = some u → w.cell? ⟨b, off + j, none⟩ = some u := by
    intro j u hu
    have := hc j u hu
    unfold Addr.add at this
    by_cases hj : j = 0
    · subst hj; simpa using this
    · simpa [hj] using this
  refine ⟨b, off, rfl, hb, fun i r hr => ?_⟩
  obtain ⟨h1, h2, h3, h4, h5⟩ := mgs_get hr
  exact ⟨hat _ _ h1, by rw [Nat.add_assoc]; exact hat _ _ h2, by rw [Nat.add_assoc]; exact hat _ _ h3, by rw [Nat.add_assoc]; exact hat _ _ h4, by rw [Nat.add_assoc]; exact hat _ _ h5⟩
theorem Reads.mlen {w : World} {B : Nat} {A : Option Addr} {n : Nat} {l : List Mg} (h : Reads w B 5 A n (mgs l)) : l.length = n := by
  have := h.1; simp at this; omega
end Go.Proofs.Ytcicpgiljceioaa.Pk

/- Messages of the call's own: what a list of them owns, and how it grows. -/
namespace Go.Proofs.Ytcicpgiljceioaa.Pk
open Go.RowKit
set_option linter.unusedVariables false
theorem mgs_append (l m : List Mg) : mgs (l ++ m) = mgs l ++ mgs m := List.flatMap_append ..
theorem mgs_one (l : List Mg) : ∀ u ∈ mgs l, u.oneCell' = true := by
  intro u hu
  obtain ⟨r, _, h⟩ := List.mem_flatMap.1 hu
  simp [Mg.cells] at h
  rcases h with rfl | rfl | rfl | rfl | rfl <;> rfl
theorem msg_info : (Try.prog.info? 45).map (fun i => (i.zero, i.size, i.bytes)) = some (some (.agg #[.int .i64 0, .int .i64 0, .int .i64 0, .int .i64 0, .int .i64 0]), 5, 40) := by kernel_rfl
/-- The value owns the messages. -/
def OwnG (w : World) (B : Nat) (v : Value) (l : List Mg) : Prop := w.ownsRow B 45 5 v l.length (mgs l)
theorem OwnG.none_ (w : World) (B : Nat) : OwnG w B (.slice none 0 0) [] := ⟨rfl, .inl ⟨rfl, rfl⟩⟩
theorem OwnG.alloc {w : World} {B : Nat} {v : Value} {l : List Mg} (h : OwnG w B v l) (o : Obj) : OwnG (w.alloc o) B v l := World.ownsRow.alloc h o
theorem ownG_base {w : World} {base : Nat} {v : Value} {l : List Mg} (h : OwnG w base v l) : ∀ k, v.ownBlock = some k → base ≤ k := by
  intro k hk
  rcases h.2 with ⟨rfl, _⟩ | ⟨g, cap, cur, rfl, hb, _⟩
  · simp [Value.ownBlock] at hk
  · simp [Value.ownBlock] at hk; omega
theorem ownG_lt {w : World} {B : Nat} {v : Value} {l : List Mg} (h : OwnG w B v l) : ∀ g, v.ownBlock = some g → g < w.heap.size := by
  intro g hg
  rcases h.2 with ⟨rfl, _⟩ | ⟨g', cap, cur, rfl, _, hh, _⟩
  · simp [Value.ownBlock] at hg
  · simp [Value.ownBlock] at hg
    subst hg
    rcases Nat.lt_or_ge g' w.heap.size with h' | h'
    · exact h'
    · rw [Array.getElem?_eq_none h'] at hh; cases hh
theorem OwnG.stay {w w' : World} {B : Nat} {v : Value} {l : List Mg} (h : OwnG w B v l) (hk : ∀ g, v.ownBlock = some g → w'.heap[g]? = w.heap[g]?) : OwnG w' B v l := by
  obtain ⟨h1, h2⟩ := h
  refine ⟨h1, ?_⟩
  rcases h2 with h2 | ⟨g, cap, cur, rfl, hg, hh, hr⟩
  · exact .inl h2
  · exact .inr ⟨g, cap, cur, rfl, hg, (hk g rfl).trans hh, hr⟩
theorem OwnG.below {w w' : World} {B : Nat} {v : Value} {l : List Mg} (h : OwnG w B v l) (hb : Below w.heap.size w w') : OwnG w' B v l := h.stay fun g e => hb.block g (ownG_lt h g e)
theorem OwnG.reads {w : World} {B : Nat} {v : Value} {l : List Mg} (h : OwnG w B v l) : ∃ A c, v = .slice A l.length c ∧ l.length ≤ c ∧ Reads w w.heap.size 5 A l.length (mgs l) := by
  have h2 := h
  obtain ⟨h1, ⟨rfl, e⟩ | ⟨g, cap, cur, rfl, _, _, hc, _⟩⟩ := h2
  · obtain rfl : l = [] := List.length_eq_zero_iff.1 e
    exact ⟨none, 0, rfl, by simp, Reads.none_⟩
  · exact ⟨_, cap, rfl, hc, Reads.of_own h⟩
theorem ownG_slice {w : World} {B : Nat} {v : Value} {l : List Mg} (h : OwnG w B v l) : ∃ A n c, v = .slice A n c := by
  obtain ⟨A, c, e, _, _⟩ := h.reads
  exact ⟨A, _, c, e⟩
/-- One message more, out of a new box. -/
theorem appG {ops : Array Oper} {rest : List Oper} {o : Oper} {a : Act} {Q : Exit → Act → World → Prop} (w : World) (m : Mg) (T : TypeId) (hgd : o.guard = none) (so x : Operand)
    (ho : o.op = .call { callee := .builtin .append, args := #[so, x], argTypes := #[58, 58] }) (B : Nat) (v : Value) (l : List Mg) (hs : a.eval so = v) (hown : OwnG w B v l)
    (g : Nat) (hg : g = w.heap.size) (hx : a.eval x = .slice (some ⟨g, 0, none⟩) 1 1) (hlen : (l.length + 1) * 40 ≤ 140737488355328) (hB : B ≤ w.heap.size)
    (h : ∀ v' w', OwnG w' B v' (l ++ [m]) → Below B w w' → (w.alloc (.cells #[.int .i64 m.k, .int .i64 m.o, .int .i64 m.n, .int .i64 m.u, .int .i64 m.v] T)).grownBy w' v.ownBlock → (v'.ownBlock = v.ownBlock ∨ v'.ownBlock = some (w.heap.size + 1)) → wpList Try.prog ops Q rest (a.put o.dst v') w') : wpList Try.prog ops Q (o :: rest) a (w.alloc (.cells #[.int .i64 m.k, .int .i64 m.o, .int .i64 m.n, .int .i64 m.u, .int .i64 m.v] T)) := by
  subst hg
  obtain ⟨i0, hi0, hz0, hz1, hz2⟩ := info_parts msg_info
  refine wpList_append_own_at (P := Try.prog) _ hgd so x _ ho B 45 i0 _ 5 40 Try.underlying58 hi0 hz0 hz1 hz2 rfl (by omega) v l.length (mgs l) hs (World.ownsRow.alloc hown _) ⟨w.heap.size, 0, none⟩ 1 1 (mgs [m]) hx rfl ?_ (mgs_one _)
    (by unfold maxLen; omega) (by omega) (by simp; omega) ?_
  · intro j u hj
    match j, hj with
    | 0, hj => simp [mgs, Mg.cells] at hj; subst hj; simp [Addr.add]
    | 1, hj => simp [mgs, Mg.cells] at hj; subst hj; simp [Addr.add]
    | 2, hj => simp [mgs, Mg.cells] at hj; subst hj; simp [Addr.add]
    | 3, hj => simp [mgs, Mg.cells] at hj; subst hj; simp [Addr.add]
    | 4, hj => simp [mgs, Mg.cells] at hj; subst hj; simp [Addr.add]
    | j + 5, hj => simp [mgs, Mg.cells] at hj
  · intro v' w' ho hg _ hat
    refine h v' w' ?_ (((Below.refl _ _).alloc hB _).grown hg (by simp; omega) (ownG_base hown)) hg (by simpa using hat)
    unfold OwnG
    rw [mgs_append, List.length_append]; exact ho
end Go.Proofs.Ytcicpgiljceioaa.Pk

/- Sides as they lie; what Good of package half promises. -/
namespace Go.Proofs.Ytcicpgiljceioaa.Pk
open Go.RowKit
set_option linter.unusedVariables false
def Hf.val (h : Hf) (v : Value) : Value := .agg #[.int .i64 h.p, .int .i64 h.b, v, .int .i64 h.s]
/-- Ints of 64 bits. -/
structure Hf.I (h : Hf) : Prop where
  p : -9223372036854775808 ≤ h.p ∧ h.p ≤ 9223372036854775807
  b : -9223372036854775808 ≤ h.b ∧ h.b ≤ 9223372036854775807
  s : -9223372036854775808 ≤ h.s ∧ h.s ≤ 9223372036854775807
  o : ∀ m ∈ h.o, m.I
theorem Hf.Be.i {h : Hf} (hb : h.Be) : h.I := by
  obtain ⟨h1, h2, h3, h4, h5, h6, h7, h8⟩ := hb
  exact ⟨by omega, by omega, by omega, fun m hm => (h8 m hm).i⟩
/-- A side as it is handed over: its list is read. -/
structure InH (w : World) (h : Hf) (A : Option Addr) (n c : Nat) : Prop where
  rd : Reads w w.heap.size 5 A n (mgs h.o)
  cap : n ≤ c
  few : n ≤ 3518437208883
  i : h.I
theorem InH.len {w : World} {h : Hf} {A : Option Addr} {n c : Nat} (k : InH w h A n c) : h.o.length = n := k.rd.mlen
theorem InH.next {w w' : World} {h : Hf} {A : Option Addr} {n c : Nat} (k : InH w h A n c) (hb : Below w.heap.size w w') : InH w' h A n c := ⟨(k.rd.below hb).more hb.size, k.cap, k.few, k.i⟩
/-- A side that is answered: its list is its own. -/
def OutH (w' : World) (B : Nat) (h : Hf) (v : Value) : Prop := OwnG w' B v h.o
def GoodH : Prop := ∀ (h : Hf) (A : Option Addr) (n c : Nat) (w : World), InH w h A n c →
  Calls Try.prog 62 #[h.val (.slice A n c)] w fun e w' => e = .returned (.bool (decide h.Be)) ∧ Below w.heap.size w w'
end Go.Proofs.Ytcicpgiljceioaa.Pk

/- Two messages compared. -/
namespace Go.Proofs.Ytcicpgiljceioaa.Pk
open Go.RowKit
set_option linter.unusedVariables false
section
attribute [local go_sem] Oper.semAt_some
set_option maxHeartbeats 4000000 in
theorem eq_msg (a b c d e a' b' c' d' e' : Int) (w : World) : (Op.equalIn 10000 45 (.agg #[.int .i64 a, .int .i64 b, .int .i64 c, .int .i64 d, .int .i64 e]) (.agg #[.int .i64 a', .int .i64 b', .int .i64 c', .int .i64 d', .int .i64 e'])).run Try.prog w = .ok (decide ((⟨a, b, c, d, e⟩ : Mg) = ⟨a', b', c', d', e'⟩)) w := by
  have u3 := Try.underlying3
  have a3 := Try.isAgg3
  have z3 := Try.sizeOf3
  have hst : Try.prog.stoodInHeld 45 = false := by kernel_rfl
  rw [show (10000 : Nat) = 9999 + 1 from rfl, Op.equalIn]
  simp only [Sem.run_bind, run_underlying Try.underlying45, Result.andThen_ok]
  go_simp
  by_cases h1 : a = a' <;> by_cases h2 : b = b' <;> by_cases h3 : c = c' <;> by_cases h4 : d = d' <;> by_cases h5 : e = e' <;> simp [h1, h2, h3, h4, h5]
end
end Go.Proofs.Ytcicpgiljceioaa.Pk
