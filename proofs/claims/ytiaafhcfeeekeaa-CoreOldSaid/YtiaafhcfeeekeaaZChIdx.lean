/- Cells of the law's own that are overwritten one by one. -/
import Derived.Test.YtiaafhcfeeekeaaZChSpec
import Derived.Test.YtiaafhcfeeekeaaZChCode1
import Derived.Test.YtiaafhcfeeekeaaZCeVal
import Derived.Deep.RegionLaw
import Derived.Deep.MidRow
import Derived.Shelf.Abstract
import Derived.BigQuiet
import Derived.Deep.QuietTactic
namespace Go.Proofs.Ytiaafhcfeeekeaa.Pk
open Go.RowKit Go.Shelf
set_option linter.unusedVariables false
theorem ces_set {l : List Ce} {k : Nat} (m : Ce) (h : k < l.length) : ces (l.set k m) = ((((ces l).set (k * 4) (.int .i64 m.n)).set (k * 4 + 1) (.int .i64 m.s)).set (k * 4 + 2) (.int .i64 m.d)).set (k * 4 + 3) (.int .i64 m.x) := by
  induction l generalizing k with
  | nil => simp at h
  | cons x l ih =>
    match k, h with
    | 0, h => simp [ces_cons]
    | k + 1, h =>
      rw [List.set_cons_succ, ces_cons, ih (k := k) (by simpa using h), ces_cons, show (k + 1) * 4 = k * 4 + 1 + 1 + 1 + 1 by omega]
      simp
theorem row_set4 {w : World} {B n c g j : Nat} {T : TypeId} {xs : List Value} (h : w.ownsRow B T 4 (.slice (some ⟨g, 0, none⟩) n c) n xs) (u : Value) : (w.setCell ⟨g, j, none⟩ u).ownsRow B T 4 (.slice (some ⟨g, 0, none⟩) n c) n (xs.set j u) := by
  obtain ⟨h1, ⟨e, _⟩ | ⟨g', cap, cur, e, hg, hh, hc, hm, hs, ht⟩⟩ := h
  · simp at e
  · injection e with e1 e2 e3
    injection e1 with e1
    injection e1 with e1
    subst e1; subst e3
    refine ⟨by simpa using h1, .inr ⟨g, c, cur.setIfInBounds j u, rfl, hg, by simp [World.setCell, Array.getElem?_modify, hh], hc, hm, by simpa using hs, ?_⟩⟩
    rw [← ht, Array.toList_setIfInBounds, List.take_set]
theorem OnlyS.setAt4 {S : Nat → Prop} {w V : World} (h : OnlyS S w V) {x : Nat} (hx : S x) (j : Nat) (u : Value) : OnlyS S w (V.setCell ⟨x, j, none⟩ u) :=
  ⟨h.os, h.tape, h.output, by have := h.size; simpa [World.setCell] using this, fun i hi hn => (Below.heap_setCell V ⟨x, j, none⟩ u i (fun e => by simp at e; subst e; exact hn hx)).trans (h.block i hi hn)⟩
/-- The i-th cell, and what lies there when another is put in. -/
theorem OwnK.spot {w : World} {B n c i : Nat} {A : Option Addr} {l : List Ce} (h : OwnK w B (.slice A n c) l) (hi : i < n) : ∃ g, A = some ⟨g, 0, none⟩ ∧ B ≤ g ∧ g < w.heap.size ∧
    (∃ u0 u1 u2 u3, w.cell? ⟨g, i * 4, none⟩ = some u0 ∧ w.cell? ⟨g, i * 4 + 1, none⟩ = some u1 ∧ w.cell? ⟨g, i * 4 + 2, none⟩ = some u2 ∧ w.cell? ⟨g, i * 4 + 3, none⟩ = some u3) ∧
    (∀ j, w.frozen? ⟨g, j, none⟩ = false) ∧
    ∀ m : Ce, OwnK ((((w.setCell ⟨g, i * 4, none⟩ (.int .i64 m.n)).setCell ⟨g, i * 4 + 1, none⟩ (.int .i64 m.s)).setCell ⟨g, i * 4 + 2, none⟩ (.int .i64 m.d)).setCell ⟨g, i * 4 + 3, none⟩ (.int .i64 m.x)) B (.slice A n c) (l.set i m) ∧
      ∀ (S : Nat → Prop) (V : World), OnlyS S V w → S g → OnlyS S V ((((w.setCell ⟨g, i * 4, none⟩ (.int .i64 m.n)).setCell ⟨g, i * 4 + 1, none⟩ (.int .i64 m.s)).setCell ⟨g, i * 4 + 2, none⟩ (.int .i64 m.d)).setCell ⟨g, i * 4 + 3, none⟩ (.int .i64 m.x)) := by
  obtain ⟨A', c', e, hc, hr⟩ := OwnK.reads h
  injection e with e1 e2 e3
  subst e1; subst e3; subst e2
  have h0 := h
  obtain ⟨h1, ⟨e, e0⟩ | ⟨g, cap, cur, e, hg, hh, hn, hm, hs, ht⟩⟩ := h0
  · omega
  injection e with e1 e2 e3
  subst e1; subst e3
  have hlt := ownK_lt h g rfl
  obtain ⟨b, off, e4, hb, hcs⟩ := hr.ces_ (by omega)
  injection e4 with e4
  injection e4 with e4 e5
  subst e4; subst e5
  simp only [Nat.zero_add] at hcs
  obtain ⟨c0, c1, c2, c3⟩ := hcs i _ (List.getElem?_eq_getElem hi)
  refine ⟨g, rfl, hg, hlt, ⟨_, _, _, _, c0, c1, c2, c3⟩, fun j => by simp [World.frozen?, hh], fun m => ⟨?_, fun S V hO hS => ?_⟩⟩
  rotate_left
  · have k0 := hO.setAt4 hS (i * 4) (.int .i64 m.n)
    have k1 := k0.setAt4 hS (i * 4 + 1) (.int .i64 m.s)
    have k2 := k1.setAt4 hS (i * 4 + 2) (.int .i64 m.d)
    have k3 := k2.setAt4 hS (i * 4 + 3) (.int .i64 m.x)
    exact k3
  unfold OwnK at h ⊢
  rw [ces_set m hi, List.length_set]
  have k0 := row_set4 (j := i * 4) h (.int .i64 m.n)
  have k1 := row_set4 (j := i * 4 + 1) k0 (.int .i64 m.s)
  have k2 := row_set4 (j := i * 4 + 2) k1 (.int .i64 m.d)
  have k3 := row_set4 (j := i * 4 + 3) k2 (.int .i64 m.x)
  exact k3
theorem OwnK.mlen {w : World} {B n c : Nat} {A : Option Addr} {l : List Ce} (h : OwnK w B (.slice A n c) l) : l.length = n := (ownK_reads h).klen
theorem OwnK.le {w : World} {B n c : Nat} {A : Option Addr} {l : List Ce} (h : OwnK w B (.slice A n c) l) : n ≤ c := by
  obtain ⟨A', c', e, hc, hr⟩ := OwnK.reads h
  injection e with e1 e2 e3
  omega
def ceN (k : Int) : Ce := ⟨k, 0, 0, 0⟩
/-- Four lists of the call's own, none in another's. -/
structure Four (cs : Array Value) (m : Nat) (V : Nat → Value) (lf : Nat → List Ce) (lo : Nat → Nat) : Prop where
  at_ : ∀ t, t < 4 → cs[t]? = some (V t)
  len : ∀ t, t < 4 → (lf t).length ≤ m
  blk : ∀ t, t < 4 → ∀ b, (V t).ownBlock = some b → lo t ≤ b ∧ b < lo (t + 1)
  mono : ∀ s t, s ≤ t → t ≤ 4 → lo s ≤ lo t
theorem Four.apart {cs : Array Value} {m : Nat} {V : Nat → Value} {lf : Nat → List Ce} {lo : Nat → Nat} (h : Four cs m V lf lo) {s t : Nat} (hst : s < t) (ht : t < 4) {b : Nat} (hb : (V t).ownBlock = some b) : (V s).ownBlock ≠ some b := by
  intro e
  have h1 := h.blk s (by omega) b e
  have h2 := h.blk t ht b hb
  have h3 := h.mono (s + 1) t (by omega) (by omega)
  omega
end Go.Proofs.Ytiaafhcfeeekeaa.Pk

/- The library's slices.Delete of one cell, in a row of the call's own. -/
namespace Go.Proofs.Ytiaafhcfeeekeaa.Pk
open Go.RowKit Go.Shelf
set_option linter.unusedVariables false
theorem row_sets4 {B n c g : Nat} {T : TypeId} : ∀ (vs : List Value) (o : Nat) {w : World} {xs : List Value}, w.ownsRow B T 4 (.slice (some ⟨g, 0, none⟩) n c) n xs → o + vs.length ≤ xs.length →
    (w.setCells g o vs).ownsRow B T 4 (.slice (some ⟨g, 0, none⟩) n c) n (xs.take o ++ vs ++ xs.drop (o + vs.length))
  | [], o, w, xs, h, _ => by simpa [World.setCells] using h
  | v :: vs, o, w, xs, h, hl => by
    have h1 := row_set4 (j := o) h v
    have h2 := row_sets4 vs (o + 1) h1 (by simp at hl ⊢; omega)
    have e : (xs.set o v).take (o + 1) ++ vs ++ (xs.set o v).drop (o + 1 + vs.length) = xs.take o ++ (v :: vs) ++ xs.drop (o + (v :: vs).length) := by
      simp only [List.length_cons] at hl ⊢
      rw [List.take_add_one, List.take_set_of_le (Nat.le_refl _), List.getElem?_set_self (by omega), List.drop_set_of_lt (by omega)]
      simp [show o + 1 + vs.length = o + (vs.length + 1) by omega]
    rw [e] at h2
    exact h2
theorem sets_block {g : Nat} : ∀ (vs : List Value) (o : Nat) (w : World) (i : Nat), i ≠ g → (w.setCells g o vs).heap[i]? = w.heap[i]?
  | [], _, _, _, _ => rfl
  | v :: vs, o, w, i, h => by
    rw [World.setCells, sets_block vs (o + 1) _ i h]
    exact Below.heap_setCell w ⟨g, o, none⟩ v i (fun e => h e)
theorem below_setsK {B g : Nat} (hg : B ≤ g) : ∀ (vs : List Value) (o : Nat) {a w : World}, Below B a w → Below B a (w.setCells g o vs)
  | [], _, _, _, h => h
  | v :: vs, o, a, w, h => below_setsK hg vs (o + 1) (h.setCell (p := ⟨g, o, none⟩) hg v)
/-- The row is cut by one. -/
theorem row_less {w : World} {B n c g : Nat} {T : TypeId} {xs : List Value} (h : w.ownsRow B T 4 (.slice (some ⟨g, 0, none⟩) (n + 1) c) (n + 1) xs) : w.ownsRow B T 4 (.slice (some ⟨g, 0, none⟩) n c) n (xs.take (n * 4)) := by
  obtain ⟨h1, ⟨e, _⟩ | ⟨g', cap, cur, e, hg, hh, hc, hm, hs, ht⟩⟩ := h
  · simp at e
  · injection e with e1 e2 e3
    injection e1 with e1
    injection e1 with e1
    subst e1; subst e3
    refine ⟨by rw [List.length_take]; omega, .inr ⟨g, c, cur, rfl, hg, hh, by omega, hm, hs, ?_⟩⟩
    rw [← ht, List.take_take, Nat.min_eq_left (by omega)]
theorem ces_take (l : List Ce) (k : Nat) : (ces l).take (k * 4) = ces (l.take k) := by
  induction l generalizing k with
  | nil => simp [ces]
  | cons x l ih =>
    match k with
    | 0 => simp [ces]
    | k + 1 =>
      rw [List.take_succ_cons, ces_cons, ces_cons, show (k + 1) * 4 = k * 4 + 1 + 1 + 1 + 1 by omega]
      simp [ih]
theorem ces_drop (l : List Ce) (k : Nat) : (ces l).drop (k * 4) = ces (l.drop k) := by
  induction l generalizing k with
  | nil => simp [ces]
  | cons x l ih =>
    match k with
    | 0 => simp
    | k + 1 =>
      rw [List.drop_succ_cons, ces_cons, show (k + 1) * 4 = k * 4 + 1 + 1 + 1 + 1 by omega]
      simp [ih]
/-- What lies there when the cells behind the k-th have been moved ahead by one. -/
theorem moved (l : List Ce) (k : Nat) (hk : k < l.length) :
    ((ces l).take (k * 4) ++ ces (l.drop (k + 1)) ++ (ces l).drop (k * 4 + (ces (l.drop (k + 1))).length)).take ((l.length - 1) * 4) = ces (l.eraseIdx k) := by
  have e : (ces (l.drop (k + 1))).length = (l.length - 1 - k) * 4 := by rw [ces_length, List.length_drop]; omega
  rw [List.take_append_of_le_length (by rw [List.length_append, e, List.length_take, ces_length]; omega), List.take_of_length_le (by rw [List.length_append, e, List.length_take, ces_length]; omega)]
  rw [ces_take, List.eraseIdx_eq_take_drop_succ, ces_append]
theorem run_clearK (w : World) (ty : TypeId) (b o n c : Nat) (hn : 0 < n) (hc : ∀ j, j < n * 4 → (w.cell? ⟨b, o + j, none⟩).isSome = true) (hf : ∀ j, w.frozen? ⟨b, j, none⟩ = false) :
    ∃ vs : List Value, vs.length = n * 4 ∧ (Builtin.clear_ #[53] ty #[.slice (some ⟨b, o, none⟩) n c]).run Try.prog w = .ok (.tuple #[]) (w.setCells b o vs) := by
  obtain ⟨vs, hvs⟩ : ∃ vs, vs = (Builtin.zeroCells (Value.agg #[.int .i64 0, .int .i64 0, .int .i64 0, .int .i64 0]).cells n).toList := ⟨_, rfl⟩
  have hl : vs.length = n * 4 := by rw [hvs, Array.length_toList, size_zeroCells]; rfl
  have h1 : ∀ v ∈ vs, v.oneCell' = true := by
    intro v hv
    rw [hvs] at hv
    simp only [Builtin.zeroCells, Value.cells] at hv
    simp at hv
    obtain ⟨i, hi, rfl⟩ := hv
    have : i % 4 < 4 := Nat.mod_lt _ (by omega)
    generalize i % 4 = r at this
    match r, this with
    | 0, _ => rfl
    | 1, _ => rfl
    | 2, _ => rfl
    | 3, _ => rfl
  have hst := run_storeCells_cells (P := Try.prog) b o vs 0 w (by rw [hl]; simpa using hc) (fun j _ => hf _) h1
  simp only [Nat.add_zero] at hst
  refine ⟨vs, hl, ?_⟩
  obtain ⟨m, rfl⟩ : ∃ m, n = m + 1 := ⟨n - 1, by omega⟩
  simp [Builtin.clear_, run_underlying Try.underlying53, Try.zeroValue57, ← hvs, hst]
set_option maxRecDepth 100000 in
set_option maxHeartbeats 4000000 in
theorem deleteK (A : Option Addr) (n c k j B : Nat) (l : List Ce) (w : World) (h : OwnK w B (.slice A n c) l) (hk : k < n) (hj : j = k + 1) (hB : B ≤ w.heap.size) (hf : n ≤ 4398046511104) :
    Calls Try.prog 83 #[.slice A n c, .int .i64 (k : Int), .int .i64 (j : Int)] w fun e w' => ∃ v, e = .returned v ∧ OwnK w' B v (l.eraseIdx k) ∧ Below B w w' ∧ ∀ g i, A = some ⟨g, 0, none⟩ → i ≠ g → w'.heap[i]? = w.heap[i]? := by
  obtain ⟨g, rfl, hg, hlt, -, hfz, -⟩ := OwnK.spot h hk
  have hrd := ownK_reads h
  have hcn : n ≤ c := by obtain ⟨A', c', e, hc, _⟩ := OwnK.reads h; injection e with _ e2 e3; omega
  have hcm : c ≤ 9223372036854775807 := by
    obtain ⟨_, ⟨e, _⟩ | ⟨g', cap, cur, e, _, _, _, hm, _⟩⟩ := h
    · cases e
    · injection e with _ _ e3; subst e3; unfold maxLen at hm; omega
  have hl : l.length = n := hrd.klen
  have hjn : j ≤ n := by omega
  have hkj : k < j := by omega
  have hcells : ∀ i u, (ces l)[i]? = some u → w.cell? ⟨g, i, none⟩ = some u := by
    obtain ⟨ad, e, _, hc⟩ := hrd.2 (by omega)
    injection e with e
    subst e
    intro i u hu
    have := hc i u hu
    rw [Addr.add_lit] at this
    simpa using this
  obtain ⟨news, hnews⟩ : ∃ news, news = ces (l.drop j) := ⟨_, rfl⟩
  have hlen : news.length = (n - j) * 4 := by rw [hnews, ces_length, List.length_drop]; omega
  have hnw : ∀ t u, news[t]? = some u → w.cell? ⟨g, j * 4 + t, none⟩ = some u := by
    intro t u hu
    rw [hnews, ← ces_drop, List.getElem?_drop] at hu
    exact hcells _ _ hu
  obtain ⟨AD, hAD, hsrc⟩ : ∃ AD : Addr, (if c = j then some (⟨g, 0, none⟩ : Addr) else some ⟨g, j * 4, none⟩) = some AD ∧ Hid (∀ t u, news[t]? = some u → w.drew.cell? (AD.add t) = some u) := by
    by_cases e : c = j
    · refine ⟨⟨g, 0, none⟩, by simp [e], fun t u hu => ?_⟩
      have h0 : news.length = 0 := by rw [hlen]; omega
      rw [List.length_eq_zero_iff.1 h0] at hu
      simp at hu
    · exact ⟨⟨g, j * 4, none⟩, by simp [e], fun t u hu => by rw [Addr.add_lit]; exact hnw t u hu⟩
  have s1 : Hid (news.length = (n - j) * 4) := Lib.hid hlen
  have s2 : Hid (∀ u ∈ news, u.oneCell' = true) := Lib.hid (by rw [hnews]; exact ces_one _)
  have s3 : Hid (∀ t, t < news.length → (w.drew.cell? ⟨g, 0 + k * 4 + t, none⟩).isSome = true ∧ w.drew.frozen? ⟨g, 0 + k * 4 + t, none⟩ = false) := Lib.hid (by
    intro t ht
    refine ⟨?_, hfz _⟩
    have : k * 4 + t < (ces l).length := by rw [ces_length, hl]; omega
    have := hcells _ _ (List.getElem?_eq_getElem this)
    rw [Nat.zero_add]
    show (w.cell? _).isSome = true
    rw [this]; rfl)
  obtain ⟨W1, hW1⟩ : ∃ W1, W1 = w.drew.setCells g (0 + k * 4) news := ⟨_, rfl⟩
  have HW := Lib.hid hW1
  obtain ⟨m, hm⟩ : ∃ m, m + 1 = n := ⟨n - 1, by omega⟩
  have HO1 : Hid (W1.ownsRow B 57 4 (.slice (some ⟨g, 0, none⟩) n c) n ((ces l).take (k * 4) ++ news ++ (ces l).drop (k * 4 + news.length))) := Lib.hid (by
    have h0 : w.drew.ownsRow B 57 4 (.slice (some ⟨g, 0, none⟩) n c) n (ces l) := by have := h; unfold OwnK at this; rw [hl] at this; exact this
    rw [hW1, Nat.zero_add]
    exact row_sets4 news (k * 4) h0 (by rw [hlen, ces_length, hl]; omega))
  have HB1 : Hid (Below B w W1) := Lib.hid (by rw [hW1]; exact below_setsK hg _ _ (⟨rfl, rfl, rfl, Nat.le_refl _, fun _ _ => rfl⟩ : Below B w w.drew))
  have i0 : ∃ i0, (Try.prog.info? 57) = some i0 ∧ i0.size = 4 := by
    obtain ⟨i0, h1, _, h2, _⟩ := info_parts cell_info
    exact ⟨i0, h1, h2⟩
  obtain ⟨i0, hi0, hz1⟩ := i0
  have Hi0 := Lib.hid hi0
  have Hz1 := Lib.hid hz1
  have hlen2 : ((ces l).take (k * 4) ++ news ++ (ces l).drop (k * 4 + news.length)).length = n * 4 := HO1.out.1
  have hcell1 : ∀ i, i < n * 4 → (W1.cell? ⟨g, i, none⟩).isSome = true := by
    intro i hi
    rw [hW1]
    refine World.isSome_setCells _ _ _ _ _ ?_
    show (w.cell? _).isSome = true
    rw [hcells i _ (List.getElem?_eq_getElem (by rw [ces_length, hl]; exact hi))]; rfl
  obtain ⟨o, ho⟩ : ∃ o, o = (k + (n - j)) * 4 := ⟨_, rfl⟩
  obtain ⟨vs, hvl, hclr⟩ := run_clearK W1 0 g o (n - (k + (n - j))) (c - (k + (n - j))) (by omega) (fun i hi => hcell1 _ (by omega)) (fun i => by rw [hW1, World.frozen?_setCells]; exact hfz i)
  have hom : o = m * 4 := by omega
  have HO2 : Hid ((W1.setCells g o vs).ownsRow B 57 4 (.slice (some ⟨g, 0, none⟩) m c) m (ces (l.eraseIdx k))) := Lib.hid (by
    have h2 := row_sets4 vs o HO1.out (by rw [hlen2, hvl]; omega)
    rw [← hm] at h2
    have h3 := row_less h2
    have e := moved l k (by omega)
    rw [show l.length - 1 = m by omega, ← hj, ← hnews] at e
    rw [hom, List.append_assoc, List.take_append_of_le_length (by rw [List.length_take, hlen2]; omega), List.take_take, Nat.min_self, e] at h3
    rw [← hom] at h3
    exact h3)
  have HB2 : Hid (Below B w (W1.setCells g o vs)) := Lib.hid (below_setsK hg _ _ HB1.out)
  have HE : Hid ((l.eraseIdx k).length = m) := Lib.hid (by rw [List.length_eraseIdx]; split <;> omega)
  have HM : Hid (k + (n - j) = m) := Lib.hid (by omega)
  rw [ho] at hclr HO2 HB2
  have HK2 : Hid (∀ i, i ≠ g → (W1.setCells g o vs).heap[i]? = w.heap[i]?) := Lib.hid (fun i hi => by rw [sets_block _ _ _ _ hi, hW1, sets_block _ _ _ _ hi]; rfl)
  rw [ho] at HK2
  clear hlen2 hcell1 ho hom hvl hm
  have HH := Lib.hid h
  have HL := Lib.hid hl
  have HN := Lib.hid hnews
  have HJ := Lib.hid hj
  clear h hrd hl hcells hnews hlen hnw hi0 hz1 hfz hW1 hj
  have hkc : k ≤ c := by omega
  have hjc : j ≤ c := by omega
  have hkj2 : (k == j) = false := by simp; omega
  go_enter Try.func83, Try.ntmps83
  go_wp2_with fail
  go_region_law (refine step_append_room rfl (.tmp 22) (.tmp 25) 53 rfl 57 i0 4 Try.underlying53 Hi0.out Hz1.out g 0 k c (by simp [Act.eval, Act.put]) AD (n - j) (c - j) news (by simp [Act.eval, Act.put]) s1.out hsrc.out s2.out (by omega) s3.out ?_; rw [← HW.out])
  go_wp2_with fail
  go_ret
  refine ⟨_, rfl, ?_, HB2.out, fun g' i e hi => HK2.out i (by injection e with e; injection e with e; rw [e]; exact hi)⟩
  rw [HM.out]
  unfold OwnK
  rw [HE.out, ← HM.out]
  have := HO2.out
  rw [← HM.out] at this
  exact this
end Go.Proofs.Ytiaafhcfeeekeaa.Pk

/- The library's slices.IndexFunc, of cells; the predicates of package chain. -/
namespace Go.Proofs.Ytiaafhcfeeekeaa.Pk
open Go.RowKit
set_option linter.unusedVariables false
def PredK (g : Nat) (lb : Array Value) (p : Ce → Bool) (w : World) : Prop :=
  ∀ (W : World) (x : Ce), Below w.heap.size w W → Calls Try.prog g (#[.agg #[.int .i64 x.n, .int .i64 x.s, .int .i64 x.d, .int .i64 x.x]] ++ lb) W fun e w' => e = .returned (.bool (p x)) ∧ Below w.heap.size w w'
def atI (o : Option Nat) : Int := match o with
  | some k => (k : Int)
  | none => -1
set_option maxRecDepth 100000 in
set_option maxHeartbeats 2000000 in
theorem idxFuncK (A : Option Addr) (n c : Nat) (l : List Ce) (p : Ce → Bool) (g : Nat) (lb : Array Value) (eg : ∀ args w, (callFunc g args).run Try.prog w = .ok (.enter g args) w) (w : World) (hr : Reads w w.heap.size 4 A n (ces l)) (hbig : n ≤ 4398046511104)
    (hp : PredK g lb p w) : Calls Try.prog 81 #[.slice A n c, .func (.func g) #[] lb] w fun e w' => e = .returned (.int .i64 (atI (l.findIdx? p))) ∧ Below w.heap.size w w' := by
  have HR := Lib.hid hr
  have HP := Lib.hid hp
  have HLn : Hid (l.length = n) := Lib.hid hr.klen
  clear hr hp
  go_enter Try.func81, Try.ntmps81
  go_wp2
  go_loopw [5, 8] (fun _ i wr => ∃ k : Nat, i = .int .i64 k ∧ k ≤ n ∧ (Below w.heap.size w wr ∧ ∀ j, j < k → p (ceA l j) = false)) (fun _ i _ => n - (intOf i).toNat)
  case atStart => exact ⟨0, rfl, by omega, Below.refl _ w, fun j hj => absurd hj (Nat.not_lt_zero _)⟩
  case round =>
    obtain ⟨k, rfl, hk, hbel, hno⟩ := hrel
    have HB := Lib.hid hbel
    have HN := Lib.hid hno
    clear hbel hno
    by_cases hlt : k < n
    · obtain ⟨b, off, rfl, hb, hcs⟩ := HR.out.ces_ (by omega)
      have hgk : l[k]? = some (ceA l k) := ceA_get (by rw [HLn.out]; exact hlt)
      obtain ⟨c0, c1, c2, c3⟩ := hcs k _ hgk
      obtain ⟨z, hz⟩ : ∃ z, z = ceA l k := ⟨_, rfl⟩
      rw [← hz] at c0 c1 c2 c3
      have HZ := Lib.hid hz
      clear hz hcs hgk
      rw [← HB.out.cell (p := ⟨b, off + k * 4, none⟩) hb] at c0
      rw [← HB.out.cell (p := ⟨b, off + k * 4 + 1, none⟩) hb] at c1
      rw [← HB.out.cell (p := ⟨b, off + k * 4 + 2, none⟩) hb] at c2
      rw [← HB.out.cell (p := ⟨b, off + k * 4 + 3, none⟩) hb] at c3
      have HC := Lib.hid (HP.out wr z HB.out)
      obtain ⟨z0, z1, z2, z3⟩ := z
      simp only at c0 c1 c2 c3 HC
      cases hq : p ⟨z0, z1, z2, z3⟩ with
      | true =>
        rw [hq] at HC
        have HQ := Lib.hid hq
        clear hq
        go_wp2_with (go_at_fn g; refine HC.out.mono ?_; rintro e w' ⟨rfl, hb'⟩)
        go_ret
        refine ⟨?_, hb'⟩
        have : l.findIdx? p = some k := idx_some (by rw [HLn.out]; exact hlt) (by rw [← HZ.out]; exact HQ.out) HN.out
        rw [this]
        rfl
      | false =>
        rw [hq] at HC
        have HQ := Lib.hid hq
        clear hq
        go_wp2_with (go_at_fn g; refine HC.out.mono ?_; rintro e w' ⟨rfl, hb'⟩)
        go_roundw
        case rel =>
          refine ⟨k + 1, by go_num, by omega, hb', fun j hj => ?_⟩
          by_cases e : j = k
          · subst e
            rw [← HZ.out]; exact HQ.out
          · exact HN.out j (by omega)
        case measure => simp [intOf]; omega
    · have hkn : k = n := by omega
      subst hkn
      go_wp2
      go_ret
      refine ⟨?_, HB.out⟩
      have : l.findIdx? p = none := idx_none (fun i hi => HN.out i (by rw [← HLn.out]; exact hi))
      rw [this]
      rfl
/-- The predicate of Grant: the number lies in a box of the caller's. -/
theorem predG (num : Int) (B : Nat) (w : World) (hB : B < w.heap.size) (hcell : w.cell? ⟨B, 0, none⟩ = some (.int .i64 num)) :
    PredK 97 #[.pointer (some ⟨B, 0, none⟩)] (fun c => decide (c.n = num ∧ c.s = 1)) w := fun W x hb => by
  have hc : W.cell? ⟨B, 0, none⟩ = some (.int .i64 num) := (hb.cell (p := ⟨B, 0, none⟩) hB).trans hcell
  have HB := Lib.hid hb
  clear hb hcell
  obtain ⟨x0, x1, x2, x3⟩ := x
  show Calls Try.prog 97 #[.agg #[.int .i64 x0, .int .i64 x1, .int .i64 x2, .int .i64 x3], .pointer (some ⟨B, 0, none⟩)] W _
  have hBW : B < W.heap.size := by have := HB.out.size; omega
  have hne : B ≠ W.heap.size := by omega
  clear hB
  by_cases h1 : x0 = num
  · by_cases h2 : x1 = 1
    · have HG : Hid (decide (x0 = num ∧ x1 = 1) = true) := Lib.hid (by simp [*])
      have b1 : (x0 == num) = true := by simpa using h1
      have b2 : (x1 == 1) = true := by simpa using h2
      clear h1 h2
      simp only [HG.out]
      go_enter Try.func97, Try.ntmps97
      go_wp2
      go_ret
      exact ⟨rfl, HB.out.alloc HB.out.size _⟩
    · have HG : Hid (decide (x0 = num ∧ x1 = 1) = false) := Lib.hid (by simp [*])
      have b1 : (x0 == num) = true := by simpa using h1
      have b2 : (x1 == 1) = false := by simpa using h2
      clear h1 h2
      simp only [HG.out]
      go_enter Try.func97, Try.ntmps97
      go_wp2
      go_ret
      exact ⟨rfl, HB.out.alloc HB.out.size _⟩
  · have HG : Hid (decide (x0 = num ∧ x1 = 1) = false) := Lib.hid (by simp [*])
    have b1 : (x0 == num) = false := by simpa using h1
    clear h1
    simp only [HG.out]
    go_enter Try.func97, Try.ntmps97
    go_wp2
    go_ret
    exact ⟨rfl, HB.out.alloc HB.out.size _⟩
theorem predR (w : World) : PredK 82 #[] (fun c => decide (c.s = 2)) w := fun W x hb => by
  have HB := Lib.hid hb
  clear hb
  obtain ⟨x0, x1, x2, x3⟩ := x
  show Calls Try.prog 82 #[.agg #[.int .i64 x0, .int .i64 x1, .int .i64 x2, .int .i64 x3]] W _
  go_enter Try.func82, Try.ntmps82
  go_wp2
  go_ret
  exact ⟨by simp [Bool.beq_eq_decide_eq], HB.out.alloc HB.out.size _⟩
end Go.Proofs.Ytiaafhcfeeekeaa.Pk
