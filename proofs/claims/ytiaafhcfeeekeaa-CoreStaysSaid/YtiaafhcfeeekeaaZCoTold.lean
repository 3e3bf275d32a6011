/- The library's slices.Delete of one open locate, in a row of the call's own. -/
import Derived.Test.YtiaafhcfeeekeaaZCoIdxA
import Derived.Test.YtiaafhcfeeekeaaZStPut
import Derived.Test.YtiaafhcfeeekeaaZChIdx
import Derived.Deep.RegionLaw
import Derived.Deep.MidRow
import Derived.Test.YtiaafhcfeeekeaaZTrMath
namespace Go.Proofs.Ytiaafhcfeeekeaa.Pk
open Go.RowKit Go.Shelf
set_option linter.unusedVariables false
def akc (l : List Ak) : List Value := akR.cells l
theorem akc_nil : akc [] = [] := rfl
theorem akc_cons (r : Ak) (l : List Ak) : akc (r :: l) = .int .i64 r.o :: .int .i64 r.n :: akc l := rfl
@[simp] theorem akc_length (l : List Ak) : (akc l).length = l.length * 2 := akR.cells_length l
theorem akc_append (l m : List Ak) : akc (l ++ m) = akc l ++ akc m := akR.cells_append l m
theorem akc_one (l : List Ak) : ∀ u ∈ akc l, u.oneCell' = true := akR.cells_ones l
theorem row_set2 {w : World} {B n c g j : Nat} {T : TypeId} {xs : List Value} (h : w.ownsRow B T 2 (.slice (some ⟨g, 0, none⟩) n c) n xs) (u : Value) : (w.setCell ⟨g, j, none⟩ u).ownsRow B T 2 (.slice (some ⟨g, 0, none⟩) n c) n (xs.set j u) := by
  obtain ⟨h1, ⟨e, _⟩ | ⟨g', cap, cur, e, hg, hh, hc, hm, hs, ht⟩⟩ := h
  · simp at e
  · injection e with e1 e2 e3
    injection e1 with e1
    injection e1 with e1
    subst e1; subst e3
    refine ⟨by simpa using h1, .inr ⟨g, c, cur.setIfInBounds j u, rfl, hg, by simp [World.setCell, Array.getElem?_modify, hh], hc, hm, by simpa using hs, ?_⟩⟩
    rw [← ht, Array.toList_setIfInBounds, List.take_set]
theorem row_sets2 {B n c g : Nat} {T : TypeId} : ∀ (vs : List Value) (o : Nat) {w : World} {xs : List Value}, w.ownsRow B T 2 (.slice (some ⟨g, 0, none⟩) n c) n xs → o + vs.length ≤ xs.length →
    (w.setCells g o vs).ownsRow B T 2 (.slice (some ⟨g, 0, none⟩) n c) n (xs.take o ++ vs ++ xs.drop (o + vs.length))
  | [], o, w, xs, h, _ => by simpa [World.setCells] using h
  | v :: vs, o, w, xs, h, hl => by
    have h1 := row_set2 (j := o) h v
    have h2 := row_sets2 vs (o + 1) h1 (by simp at hl ⊢; omega)
    have e : (xs.set o v).take (o + 1) ++ vs ++ (xs.set o v).drop (o + 1 + vs.length) = xs.take o ++ (v :: vs) ++ xs.drop (o + (v :: vs).length) := by
      simp only [List.length_cons] at hl ⊢
      rw [List.take_add_one, List.take_set_of_le (Nat.le_refl _), List.getElem?_set_self (by omega), List.drop_set_of_lt (by omega)]
      simp [show o + 1 + vs.length = o + (vs.length + 1) by omega]
    rw [e] at h2
    exact h2
/-- The row is cut by one. -/
theorem row_less2 {w : World} {B n c g : Nat} {T : TypeId} {xs : List Value} (h : w.ownsRow B T 2 (.slice (some ⟨g, 0, none⟩) (n + 1) c) (n + 1) xs) : w.ownsRow B T 2 (.slice (some ⟨g, 0, none⟩) n c) n (xs.take (n * 2)) := by
  obtain ⟨h1, ⟨e, _⟩ | ⟨g', cap, cur, e, hg, hh, hc, hm, hs, ht⟩⟩ := h
  · simp at e
  · injection e with e1 e2 e3
    injection e1 with e1
    injection e1 with e1
    subst e1; subst e3
    refine ⟨by rw [List.length_take]; omega, .inr ⟨g, c, cur, rfl, hg, hh, by omega, hm, hs, ?_⟩⟩
    rw [← ht, List.take_take, Nat.min_eq_left (by omega)]
theorem akc_take (l : List Ak) (k : Nat) : (akc l).take (k * 2) = akc (l.take k) := by
  induction l generalizing k with
  | nil => simp [akc_nil]
  | cons x l ih =>
    match k with
    | 0 => simp [akc_nil]
    | k + 1 =>
      rw [List.take_succ_cons, akc_cons, akc_cons, show (k + 1) * 2 = k * 2 + 1 + 1 by omega]
      simp [ih]
theorem akc_drop (l : List Ak) (k : Nat) : (akc l).drop (k * 2) = akc (l.drop k) := by
  induction l generalizing k with
  | nil => simp [akc_nil]
  | cons x l ih =>
    match k with
    | 0 => simp
    | k + 1 =>
      rw [List.drop_succ_cons, akc_cons, show (k + 1) * 2 = k * 2 + 1 + 1 by omega]
      simp [ih]
/-- What lies there when the cells behind the k-th have been moved ahead by one. -/
theorem movedA (l : List Ak) (k : Nat) (hk : k < l.length) :
    ((akc l).take (k * 2) ++ akc (l.drop (k + 1)) ++ (akc l).drop (k * 2 + (akc (l.drop (k + 1))).length)).take ((l.length - 1) * 2) = akc (l.eraseIdx k) := by
  have e : (akc (l.drop (k + 1))).length = (l.length - 1 - k) * 2 := by rw [akc_length, List.length_drop]; omega
  rw [List.take_append_of_le_length (by rw [List.length_append, e, List.length_take, akc_length]; omega), List.take_of_length_le (by rw [List.length_append, e, List.length_take, akc_length]; omega)]
  rw [akc_take, List.eraseIdx_eq_take_drop_succ, akc_append]
theorem run_clearA (w : World) (ty : TypeId) (b o n c : Nat) (hn : 0 < n) (hc : ∀ j, j < n * 2 → (w.cell? ⟨b, o + j, none⟩).isSome = true) (hf : ∀ j, w.frozen? ⟨b, j, none⟩ = false) :
    ∃ vs : List Value, vs.length = n * 2 ∧ (Builtin.clear_ #[25] ty #[.slice (some ⟨b, o, none⟩) n c]).run Try.prog w = .ok (.tuple #[]) (w.setCells b o vs) := by
  obtain ⟨vs, hvs⟩ : ∃ vs, vs = (Builtin.zeroCells (Value.agg #[.int .i64 0, .int .i64 0]).cells n).toList := ⟨_, rfl⟩
  have hl : vs.length = n * 2 := by rw [hvs, Array.length_toList, size_zeroCells]; rfl
  have h1 : ∀ v ∈ vs, v.oneCell' = true := by
    intro v hv
    rw [hvs] at hv
    simp only [Builtin.zeroCells, Value.cells] at hv
    simp at hv
    obtain ⟨i, hi, rfl⟩ := hv
    have : i % 2 < 2 := Nat.mod_lt _ (by omega)
    generalize i % 2 = r at this
    match r, this with
    | 0, _ => rfl
    | 1, _ => rfl
  have hst := run_storeCells_cells (P := Try.prog) b o vs 0 w (by rw [hl]; simpa using hc) (fun j _ => hf _) h1
  simp only [Nat.add_zero] at hst
  refine ⟨vs, hl, ?_⟩
  obtain ⟨m, rfl⟩ : ∃ m, n = m + 1 := ⟨n - 1, by omega⟩
  simp [Builtin.clear_, run_underlying Try.underlying25, Try.zeroValue59, ← hvs, hst]
set_option maxRecDepth 100000 in
set_option maxHeartbeats 4000000 in
theorem deleteA (A : Option Addr) (n c k j B : Nat) (l : List Ak) (w : World) (h : akR.Own w B (.slice A n c) l) (hk : k < n) (hj : j = k + 1) (hB : B ≤ w.heap.size) (hf : n ≤ 4398046511104) :
    Calls Try.prog 99 #[.slice A n c, .int .i64 (k : Int), .int .i64 (j : Int)] w fun e w' => ∃ A5 n5 k5, e = .returned (.slice A5 n5 k5) ∧ akR.Own w' B (.slice A5 n5 k5) (l.eraseIdx k) ∧ Below B w w' ∧ (ownB (.slice A5 n5 k5) = ownB (.slice A n c) ∨ ownB (.slice A5 n5 k5) = none) ∧ ∀ g i, A = some ⟨g, 0, none⟩ → i ≠ g → w'.heap[i]? = w.heap[i]? := by
  obtain ⟨g, rfl, hg, hlt, hc0, hfz, -⟩ := Row.Own.cell h (show 0 < n by omega)
  obtain ⟨hl, hcn, hrd⟩ := Row.Own.rd h
  have hrow : w.ownsRow B 59 2 (.slice (some ⟨g, 0, none⟩) n c) n (akc l) := by
    rcases h with ⟨h, _⟩ | ⟨rfl, _⟩
    · rw [hl] at h; exact h
    · simp at hl; omega
  have hcm : c ≤ 9223372036854775807 := by
    obtain ⟨_, ⟨e, _⟩ | ⟨g', cap, cur, e, _, _, _, hm, _⟩⟩ := hrow
    · cases e
    · injection e with _ _ e3; subst e3; unfold maxLen at hm; omega
  have hjn : j ≤ n := by omega
  have hkj : k < j := by omega
  have hcells : ∀ i u, (akc l)[i]? = some u → w.cell? ⟨g, i, none⟩ = some u := by
    obtain ⟨ad, e, _, hc⟩ := hrd.2 (by omega)
    injection e with e
    subst e
    intro i u hu
    have := hc i u hu
    rw [Addr.add_lit] at this
    simpa using this
  obtain ⟨news, hnews⟩ : ∃ news, news = akc (l.drop j) := ⟨_, rfl⟩
  have hlen : news.length = (n - j) * 2 := by rw [hnews, akc_length, List.length_drop]; omega
  have hnw : ∀ t u, news[t]? = some u → w.cell? ⟨g, j * 2 + t, none⟩ = some u := by
    intro t u hu
    rw [hnews, ← akc_drop, List.getElem?_drop] at hu
    exact hcells _ _ hu
  obtain ⟨AD, hAD, hsrc⟩ : ∃ AD : Addr, (if c = j then some (⟨g, 0, none⟩ : Addr) else some ⟨g, j * 2, none⟩) = some AD ∧ Hid (∀ t u, news[t]? = some u → w.drew.cell? (AD.add t) = some u) := by
    by_cases e : c = j
    · refine ⟨⟨g, 0, none⟩, by simp [e], fun t u hu => ?_⟩
      have h0 : news.length = 0 := by rw [hlen]; omega
      rw [List.length_eq_zero_iff.1 h0] at hu
      simp at hu
    · exact ⟨⟨g, j * 2, none⟩, by simp [e], fun t u hu => by rw [Addr.add_lit]; exact hnw t u hu⟩
  have s1 : Hid (news.length = (n - j) * 2) := Lib.hid hlen
  have s2 : Hid (∀ u ∈ news, u.oneCell' = true) := Lib.hid (by rw [hnews]; exact akc_one _)
  have s3 : Hid (∀ t, t < news.length → (w.drew.cell? ⟨g, 0 + k * 2 + t, none⟩).isSome = true ∧ w.drew.frozen? ⟨g, 0 + k * 2 + t, none⟩ = false) := Lib.hid (by
    intro t ht
    refine ⟨?_, hfz _⟩
    have : k * 2 + t < (akc l).length := by rw [akc_length, hl]; omega
    have := hcells _ _ (List.getElem?_eq_getElem this)
    rw [Nat.zero_add]
    show (w.cell? _).isSome = true
    rw [this]; rfl)
  obtain ⟨W1, hW1⟩ : ∃ W1, W1 = w.drew.setCells g (0 + k * 2) news := ⟨_, rfl⟩
  have HW := Lib.hid hW1
  obtain ⟨m, hm⟩ : ∃ m, m + 1 = n := ⟨n - 1, by omega⟩
  have HO1 : Hid (W1.ownsRow B 59 2 (.slice (some ⟨g, 0, none⟩) n c) n ((akc l).take (k * 2) ++ news ++ (akc l).drop (k * 2 + news.length))) := Lib.hid (by
    have h0 : w.drew.ownsRow B 59 2 (.slice (some ⟨g, 0, none⟩) n c) n (akc l) := hrow
    rw [hW1, Nat.zero_add]
    exact row_sets2 news (k * 2) h0 (by rw [hlen, akc_length, hl]; omega))
  have HB1 : Hid (Below B w W1) := Lib.hid (by rw [hW1]; exact below_setsK hg _ _ (⟨rfl, rfl, rfl, Nat.le_refl _, fun _ _ => rfl⟩ : Below B w w.drew))
  have i0 : ∃ i0, (Try.prog.info? 59) = some i0 ∧ i0.size = 2 := by
    obtain ⟨i0, h1, _, h2, _⟩ := info_parts akR.info
    exact ⟨i0, h1, h2⟩
  obtain ⟨i0, hi0, hz1⟩ := i0
  have Hi0 := Lib.hid hi0
  have Hz1 := Lib.hid hz1
  have hlen2 : ((akc l).take (k * 2) ++ news ++ (akc l).drop (k * 2 + news.length)).length = n * 2 := HO1.out.1
  have hcell1 : ∀ i, i < n * 2 → (W1.cell? ⟨g, i, none⟩).isSome = true := by
    intro i hi
    rw [hW1]
    refine World.isSome_setCells _ _ _ _ _ ?_
    show (w.cell? _).isSome = true
    rw [hcells i _ (List.getElem?_eq_getElem (by rw [akc_length, hl]; exact hi))]; rfl
  obtain ⟨o, ho⟩ : ∃ o, o = (k + (n - j)) * 2 := ⟨_, rfl⟩
  obtain ⟨vs, hvl, hclr⟩ := run_clearA W1 0 g o (n - (k + (n - j))) (c - (k + (n - j))) (by omega) (fun i hi => hcell1 _ (by omega)) (fun i => by rw [hW1, World.frozen?_setCells]; exact hfz i)
  have hom : o = m * 2 := by omega
  have HO2 : Hid ((W1.setCells g o vs).ownsRow B 59 2 (.slice (some ⟨g, 0, none⟩) m c) m (akc (l.eraseIdx k))) := Lib.hid (by
    have h2 := row_sets2 vs o HO1.out (by rw [hlen2, hvl]; omega)
    rw [← hm] at h2
    have h3 := row_less2 h2
    have e := movedA l k (by omega)
    rw [show l.length - 1 = m by omega, ← hj, ← hnews] at e
    rw [hom, List.append_assoc, List.take_append_of_le_length (by rw [List.length_take, hlen2]; omega), List.take_take, Nat.min_self, e] at h3
    rw [← hom] at h3
    exact h3)
  have HB2 : Hid (Below B w (W1.setCells g o vs)) := Lib.hid (below_setsK hg _ _ HB1.out)
  have HE : Hid ((l.eraseIdx k).length = m) := Lib.hid (by rw [List.length_eraseIdx]; split <;> omega)
  have HM : Hid (k + (n - j) = m) := Lib.hid (by omega)
  rw [ho] at hclr HO2 HB2
  have HK2 : Hid (∀ i, i ≠ g → (W1.setCells g o vs).heap[i]? = w.heap[i]?) := Lib.hid (fun i hi => by rw [sets_block _ _ _ _ hi, hW1, sets_block _ _ _ _ hi]; rfl)
  rw [ho] at HK2
  clear hlen2 hcell1 ho hom hvl hm
  have HL := Lib.hid hl
  have HN := Lib.hid hnews
  have HJ := Lib.hid hj
  have HC0 := Lib.hid hc0
  clear hrow h hrd hc0 hl hcells hnews hlen hnw hi0 hz1 hfz hW1 hj
  have hkc : k ≤ c := by omega
  have hjc : j ≤ c := by omega
  have hkj2 : (k == j) = false := by simp; omega
  go_enter Try.func99, Try.ntmps99
  go_wp2_with fail
  go_region_law (refine step_append_room rfl (.tmp 22) (.tmp 25) 25 rfl 59 i0 2 Try.underlying25 Hi0.out Hz1.out g 0 k c (by simp [Act.eval, Act.put]) AD (n - j) (c - j) news (by simp [Act.eval, Act.put]) s1.out hsrc.out s2.out (by omega) s3.out ?_; rw [← HW.out])
  go_wp2_with fail
  go_ret
  refine ⟨_, _, _, rfl, ?_, HB2.out, .inl ?_, fun g' i e hi => HK2.out i (by injection e with e; injection e with e; rw [e]; exact hi)⟩
  · rw [HM.out]
    exact Row.own_of HE.out.symm (by have := HO2.out; rw [HM.out] at this; exact this)
  · rw [ownB_some HC0.out, ownB_some HC0.out]
end Go.Proofs.Ytiaafhcfeeekeaa.Pk

/- The change's told: the answer of a locate comes. -/
namespace Go.Proofs.Ytiaafhcfeeekeaa.Pk
open Go.RowKit Go.Proofs.Ytiaafhcfeeekeaa.Gr
set_option linter.unusedVariables false
/-- Numbers that rise differ. -/
theorem asks_idx {k q : Int} {x : Ak} : ∀ {last : Int} {l : List Ak}, AsksOk k q last l → ∀ i, l.findIdx? (fun a => decide (a = x)) = some i → l.filter (fun a => decide (a ≠ x)) = l.eraseIdx i := by
  intro last l
  induction l generalizing last with
  | nil => intro _ i h; simp at h
  | cons a r ih =>
    intro h i hi
    rw [List.findIdx?_cons] at hi
    by_cases e : a = x
    · simp only [e, decide_true, if_true] at hi
      injection hi with hi
      subst hi
      subst e
      rw [List.eraseIdx_cons_zero, List.filter_cons_of_neg (by simp)]
      refine List.filter_eq_self.2 (fun y hy => ?_)
      have := (asks_mem h.2.2 y hy).2.1
      simp only [decide_eq_true_eq]
      intro e2
      rw [e2] at this
      omega
    · simp only [e, decide_false, Bool.false_eq_true, if_false] at hi
      cases hf : r.findIdx? (fun a => decide (a = x)) with
      | none => rw [hf] at hi; simp at hi
      | some j =>
        rw [hf] at hi
        simp at hi
        subst hi
        rw [List.eraseIdx_cons_succ, List.filter_cons_of_pos (by simp [e]), ih h.2.2 j hf]
theorem idx_memA {l : List Ak} {x : Ak} : x ∈ l ↔ ∃ i, l.findIdx? (fun a => decide (a = x)) = some i := by
  constructor
  · intro h
    cases hf : l.findIdx? (fun a => decide (a = x)) with
    | some i => exact ⟨i, rfl⟩
    | none =>
      rw [List.findIdx?_eq_none_iff] at hf
      have := hf x h
      simp at this
  · rintro ⟨i, h⟩
    rw [List.findIdx?_eq_some_iff_getElem] at h
    obtain ⟨h1, h2, _⟩ := h
    have e : l[i] = x := by simpa using h2
    rw [← e]; exact List.getElem_mem h1
theorem tellS_not {s : St} {m : Mg} (h : s.as_.findIdx? (fun a => decide (a = ⟨m.o, m.u⟩)) = none) : tellS s m = s := by
  unfold tellS
  rw [if_neg (fun h2 => ?_)]
  obtain ⟨i, hi⟩ := idx_memA.1 h2
  rw [h] at hi; cases hi
theorem tellS_at {s : St} {m : Mg} {i : Nat} {k q last : Int} (hA : AsksOk k q last s.as_) (h : s.as_.findIdx? (fun a => decide (a = ⟨m.o, m.u⟩)) = some i) :
    tellS s m = { s with as_ := s.as_.eraseIdx i, gs := last4 (s.gs ++ [⟨m.o, m.u, m.v⟩]) } := by
  unfold tellS
  rw [if_pos (idx_memA.2 ⟨i, h⟩), asks_idx hA i h]
set_option maxRecDepth 100000 in
set_option maxHeartbeats 8000000 in
theorem told_any {w : World} {B p T g : Nat} {ps : List Int} {s : StL} (h : Chg w B p T g ps s) {m : Mg} {k0 q0 l0 : Int} (hA : AsksOk k0 q0 l0 s.as_) (hm : m.I) (hal : s.as_.length ≤ 1024) (hgl : s.gs.length ≤ 4) :
    Calls Try.prog 84 #[.pointer (some ⟨p, 0, none⟩), m.val] w fun e w' => e = .returned (.tuple #[]) ∧ ∃ s2, ChgX w' B p T s2 ∧ s2.v = tellS s.v m ∧ Below B w w' := by
  obtain ⟨mk, mo, mn, mu, mv⟩ := m
  obtain ⟨q, hq⟩ : ∃ q, q = w.heap.size := ⟨_, rfl⟩
  obtain ⟨W1, hW1⟩ : ∃ W, W = w.alloc (.cells #[.int .i64 mk, .int .i64 mo, .int .i64 mn, .int .i64 mu, .int .i64 mv] 30) := ⟨_, rfl⟩
  have hb1 : Below w.heap.size w W1 := hW1 ▸ (Below.refl _ _).alloc (Nat.le_refl _) _
  have h1 := h.below hb1
  have hQ : Blk W1 q 30 #[.int .i64 mk, .int .i64 mo, .int .i64 mn, .int .i64 mu, .int .i64 mv] := by rw [hW1, hq]; exact Blk.new w _ _
  have HB : Hid (B ≤ w.heap.size) := Lib.hid h.sz
  have HB1 := Lib.hid hb1
  have HC1 := Lib.hid h1
  have HQ := Lib.hid hQ
  obtain ⟨r1, r2, r3⟩ := Row.Own.rd h1.own.as_
  have HIx : Hid (∀ W, Below W1.heap.size W1 W → Calls Try.prog 98 #[.slice s.sa.A s.sa.n s.sa.c, .agg #[.int .i64 mo, .int .i64 mu]] W fun e w' => e = .returned (.int .i64 (atE (s.as_.findIdx? (fun a => decide (a = ⟨mo, mu⟩))))) ∧ Below W1.heap.size W1 w') := Lib.hid (fun W hW => (indexA s.sa.A s.sa.n s.sa.c s.as_ ⟨mo, mu⟩ W ((r3.below hW).more hW.size) (by omega)).mono fun e w' ⟨e1, e2⟩ => ⟨e1, hW.trans (e2.mono hW.size)⟩)
  have HX : Hid (∀ W, Below W1.heap.size W1 W → W.cell? ⟨p, 5, none⟩ = some (.slice s.sa.A s.sa.n s.sa.c) ∧ W.cell? ⟨q, 1, none⟩ = some (.int .i64 mo) ∧ W.cell? ⟨q, 3, none⟩ = some (.int .i64 mu)) := Lib.hid (fun W hW => by
    have hq := HQ.out.below hW HQ.out.lt
    have hp := (HC1.out.below hW).box
    exact ⟨hp.cell 5, hq.cell 1, hq.cell 3⟩)
  have X0 := HX.out W1 (Below.refl _ _)
  have HHA := Lib.hid hA
  have HC0 : Hid (OwnS w B s) := Lib.hid h.own
  have HPl : Hid (p < w.heap.size) := Lib.hid h.lt
  have HQs : Hid (w.heap.size ≤ q) := Lib.hid (Nat.le_of_eq hq.symm)
  have HQe : Hid (q = w.heap.size) := Lib.hid hq
  have hsn : s.as_.length = s.sa.n := r1
  have HD1 : Hid (Below W1.heap.size W1 W1.drew) := Lib.hid (below_drewC (Below.refl _ _) 1)
  have X1 := HX.out W1.drew HD1.out
  have HS0 : Hid (StL.v s = StL.v s) := Lib.hid rfl
  obtain ⟨Ix, hIx⟩ : ∃ o, o = s.as_.findIdx? (fun a => decide (a = ⟨mo, mu⟩)) := ⟨_, rfl⟩
  rw [← hIx] at HIx
  have HIe := Lib.hid hIx
  clear h h1 hb1 hQ r1 r2 r3 hA hm hIx
  simp only [Mg.val]
  go_enter Try.func84, Try.ntmps84
  go_wp2_with fail
  rw [← hW1, ← hq]
  clear hW1 hq
  obtain ⟨x5, y1, y3⟩ := X0
  go_region_held3 (fun W : World => W.cell? ⟨p, 5, none⟩ = some (.slice s.sa.A s.sa.n s.sa.c) ∧ W.cell? ⟨q, 1, none⟩ = some (.int .i64 mo) ∧ W.cell? ⟨q, 3, none⟩ = some (.int .i64 mu)) (first | with_reducible exact X1 | with_reducible exact Y1 | go_keep) (first
    | (go_at_call 98; go_must (refine (HIx.out W1.drew HD1.out).mono ?_; rintro e w2 ⟨rfl, hb2⟩; have Y1 := HX.out w2 hb2; have HB2 := Lib.hid hb2; clear hb2)))
  cases Ix with
  | none =>
    have HE : Hid (tellS s.v ⟨mk, mo, mn, mu, mv⟩ = s.v) := Lib.hid (tellS_not HIe.out.symm)
    simp only [atE]
    clear x5 y1 y3 X1 Y1
    go_wp2
    first | go_end0 | refine bodyPost_ret (results_none rfl _ _ _) rfl ?_
    exact ⟨rfl, s, (HC1.out.below HB2.out).x, HE.out.symm, (HB1.out.mono HB.out).trans (HB2.out.mono (Nat.le_trans HB.out HB1.out.size))⟩
  | some i =>
    have HE : Hid (tellS s.v ⟨mk, mo, mn, mu, mv⟩ = { s.v with as_ := s.as_.eraseIdx i, gs := last4 (s.gs ++ [⟨mo, mu, mv⟩]) }) := Lib.hid (tellS_at (s := s.v) (m := ⟨mk, mo, mn, mu, mv⟩) HHA.out HIe.out.symm)
    have hi : i < s.as_.length := by
      have := HIe.out.symm
      rw [List.findIdx?_eq_some_iff_getElem] at this
      exact this.1
    simp only [atE]
    clear x5 y1 y3 X1
    have h2 := HC1.out.below HB2.out
    have HC2 := Lib.hid h2
    have HDl : Hid (Calls Try.prog 99 #[.slice s.sa.A s.sa.n s.sa.c, .int .i64 (i : Int), .int .i64 ((i : Int) + 1)] w2 fun e w' => ∃ A5 n5 k5, e = .returned (.slice A5 n5 k5) ∧ akR.Own w' B (.slice A5 n5 k5) (s.as_.eraseIdx i) ∧ Below B w2 w' ∧ (ownB (.slice A5 n5 k5) = ownB (.slice s.sa.A s.sa.n s.sa.c) ∨ ownB (.slice A5 n5 k5) = none) ∧ ∀ g i, s.sa.A = some ⟨g, 0, none⟩ → i ≠ g → w'.heap[i]? = w2.heap[i]?) := Lib.hid (deleteA s.sa.A s.sa.n s.sa.c i (i + 1) B s.as_ w2 h2.own.as_ (by omega) rfl h2.sz (by omega))
    have hix : i < s.sa.n := by omega
    obtain ⟨ga, hga, ga1, ga2, ga3, -, -⟩ := Row.Own.cell h2.own.as_ (by omega)
    have hob : ownB s.sa.val = some ga := by unfold Sl.val; rw [hga]; exact ownB_some ga3
    have hgp : p ≠ ga := fun e => h2.np s.sa.val (mem_stV.2 (by simp)) (by rw [hob, e])
    have hqs : w.heap.size ≤ q := HQs.out
    have hgq : q ≠ ga := by
      have := (HC0.out.mem s.sa.val (mem_stV.2 (by simp)) ga hob).2
      omega
    have HGa : Hid (s.sa.A = some ⟨ga, 0, none⟩ ∧ ownB s.sa.val = some ga ∧ p ≠ ga ∧ q ≠ ga ∧ q ≠ p) := Lib.hid ⟨hga, hob, hgp, hgq, by have := HPl.out; have := HQe.out; omega⟩
    clear h2 hga ga1 ga2 ga3 hob hgp hgq hqs
    go_wp2_with fail
    refine HDl.out.mono ?_
    rintro e w3 ⟨A5, n5, k5, rfl, ho5, hb3, hl5, hk3⟩
    replace hk3 := fun j hj => hk3 ga j HGa.out.1 hj
    have hbx3 : Blk w3 p 71 #[.pointer (some ⟨T, 0, none⟩), .int .i64 s.me, s.so.val, s.se.val, .int .i64 s.q, s.sa.val, s.sg.val] := (hk3 p HGa.out.2.2.1).trans HC2.out.box
    have z5 : w3.cell? ⟨p, 5, none⟩ = some s.sa.val := hbx3.cell 5
    have zf := hbx3.frozen
    have hput := HC2.out.putA (w1 := w3) (v' := ⟨A5, n5, k5⟩) (l' := s.as_.eraseIdx i) ho5 (fun x hx _ => hk3 x (fun e => hx (by rw [HGa.out.2.1, e]))) hb3 (hl5.imp id Or.inl)
    obtain ⟨w4, hw4⟩ : ∃ W, W = w3.setCell ⟨p, 5, none⟩ (.slice A5 n5 k5) := ⟨_, rfl⟩
    simp only [Sl.val] at hput
    rw [← hw4] at hput
    obtain ⟨hC4, hB4⟩ := hput
    have hQ4 : Blk w4 q 30 #[.int .i64 mk, .int .i64 mo, .int .i64 mn, .int .i64 mu, .int .i64 mv] := by
      rw [hw4]
      exact blk_other ((hk3 q HGa.out.2.2.2.1).trans (HQ.out.below HB2.out HQ.out.lt)) HGa.out.2.2.2.2 _ _
    have HC4 := Lib.hid hC4
    have HB4 := Lib.hid hB4
    have HQ4 := Lib.hid hQ4
    have HSg : Hid (s.gs.length = s.sg.n) := Lib.hid (Row.Own.rd hC4.own.gs).1
    simp only [Sl.val] at z5
    clear hl5 ho5 hb3 hk3 hbx3 hC4 hB4 hQ4
    go_wp2_with fail
    rw [← hw4]
    clear hw4 z5 zf Y1
    have HS4 : Hid (∀ W, Below w4.heap.size w4 W → W.cell? ⟨p, 6, none⟩ = some (.slice s.sg.A s.sg.n s.sg.c) ∧ W.cell? ⟨q, 1, none⟩ = some (.int .i64 mo) ∧ W.cell? ⟨q, 3, none⟩ = some (.int .i64 mu) ∧ W.cell? ⟨q, 4, none⟩ = some (.int .i64 mv)) := Lib.hid (fun W hW => by
      have hq := HQ4.out.below hW HQ4.out.lt
      have hp := (HC4.out.below hW).box
      exact ⟨hp.cell 6, hq.cell 1, hq.cell 3, hq.cell 4⟩)
    have hS0 : (fun W : World => W.cell? ⟨p, 6, none⟩ = some (.slice s.sg.A s.sg.n s.sg.c) ∧ W.cell? ⟨q, 1, none⟩ = some (.int .i64 mo) ∧ W.cell? ⟨q, 3, none⟩ = some (.int .i64 mu) ∧ W.cell? ⟨q, 4, none⟩ = some (.int .i64 mv)) w4.drew := HS4.out w4.drew (below_drewC (Below.refl _ _) 1)
    refine wp_region_noPanic ?_
    refine region_last 18 (fun W : World => W.cell? ⟨p, 6, none⟩ = some (.slice s.sg.A s.sg.n s.sg.c) ∧ W.cell? ⟨q, 1, none⟩ = some (.int .i64 mo) ∧ W.cell? ⟨q, 3, none⟩ = some (.int .i64 mu) ∧ W.cell? ⟨q, 4, none⟩ = some (.int .i64 mv)) (by kernel_rfl) ?_
    refine AnyL.take 0 (.pointer (some ⟨p, 0, none⟩)) rfl (by kernel_rfl) (by kernel_rfl) (by kernel_rfl) (by kernel_rfl) (fun _ _ _ h => h) (Or.inl ⟨by rfl, fun W hW => ?_⟩) hS0 ?_
    · obtain ⟨hW0, hW1, hW2, hW3⟩ := hW
      go_simp
    simp only [Act.put, List.setIfInBounds_toArray]
    refine AnyL.take 1 (.pointer (some ⟨p, 0, none⟩)) rfl (by kernel_rfl) (by kernel_rfl) (by kernel_rfl) (by kernel_rfl) (fun _ _ _ h => h) (Or.inl ⟨by rfl, fun W hW => ?_⟩) hS0 ?_
    · obtain ⟨hW0, hW1, hW2, hW3⟩ := hW
      go_simp
    simp only [Act.put]
    refine AnyL.take 2 (.pointer (some ⟨p, 0, none⟩)) rfl (by kernel_rfl) (by kernel_rfl) (by kernel_rfl) (by kernel_rfl) (fun _ _ _ h => h) (Or.inl ⟨by rfl, fun W hW => ?_⟩) hS0 ?_
    · obtain ⟨hW0, hW1, hW2, hW3⟩ := hW
      go_simp
    simp only [Act.put]
    refine AnyL.take 3 (.pointer (some ⟨p, 1, none⟩)) rfl (by kernel_rfl) (by kernel_rfl) (by kernel_rfl) (by kernel_rfl) (fun _ _ _ h => h) (Or.inl ⟨by rfl, fun W hW => ?_⟩) hS0 ?_
    · obtain ⟨hW0, hW1, hW2, hW3⟩ := hW
      go_simp
    simp only [Act.put]
    refine AnyL.take 4 (.pointer (some ⟨p, 6, none⟩)) rfl (by kernel_rfl) (by kernel_rfl) (by kernel_rfl) (by kernel_rfl) (fun _ _ _ h => h) (Or.inl ⟨by rfl, fun W hW => ?_⟩) hS0 ?_
    · obtain ⟨hW0, hW1, hW2, hW3⟩ := hW
      go_simp
    simp only [Act.put]
    refine AnyL.take 5 (.slice s.sg.A s.sg.n s.sg.c) rfl (by kernel_rfl) (by kernel_rfl) (by kernel_rfl) (by kernel_rfl) (fun _ _ _ h => h) (Or.inl ⟨by rfl, fun W hW => ?_⟩) hS0 ?_
    · obtain ⟨hW0, hW1, hW2, hW3⟩ := hW
      go_simp
    simp only [Act.put]
    refine AnyL.take 6 (.pointer (some ⟨q, 1, none⟩)) rfl (by kernel_rfl) (by kernel_rfl) (by kernel_rfl) (by kernel_rfl) (fun _ _ _ h => h) (Or.inl ⟨by rfl, fun W hW => ?_⟩) hS0 ?_
    · obtain ⟨hW0, hW1, hW2, hW3⟩ := hW
      go_simp
    simp only [Act.put]
    refine AnyL.take 7 (.int .i64 mo) rfl (by kernel_rfl) (by kernel_rfl) (by kernel_rfl) (by kernel_rfl) (fun _ _ _ h => h) (Or.inl ⟨by rfl, fun W hW => ?_⟩) hS0 ?_
    · obtain ⟨hW0, hW1, hW2, hW3⟩ := hW
      go_simp
    simp only [Act.put]
    refine AnyL.take 8 (.pointer (some ⟨q, 3, none⟩)) rfl (by kernel_rfl) (by kernel_rfl) (by kernel_rfl) (by kernel_rfl) (fun _ _ _ h => h) (Or.inl ⟨by rfl, fun W hW => ?_⟩) hS0 ?_
    · obtain ⟨hW0, hW1, hW2, hW3⟩ := hW
      go_simp
    simp only [Act.put]
    refine AnyL.take 9 (.int .i64 mu) rfl (by kernel_rfl) (by kernel_rfl) (by kernel_rfl) (by kernel_rfl) (fun _ _ _ h => h) (Or.inl ⟨by rfl, fun W hW => ?_⟩) hS0 ?_
    · obtain ⟨hW0, hW1, hW2, hW3⟩ := hW
      go_simp
    simp only [Act.put]
    refine AnyL.take 10 (.pointer (some ⟨q, 4, none⟩)) rfl (by kernel_rfl) (by kernel_rfl) (by kernel_rfl) (by kernel_rfl) (fun _ _ _ h => h) (Or.inl ⟨by rfl, fun W hW => ?_⟩) hS0 ?_
    · obtain ⟨hW0, hW1, hW2, hW3⟩ := hW
      go_simp
    simp only [Act.put]
    refine AnyL.take 11 (.int .i64 mv) rfl (by kernel_rfl) (by kernel_rfl) (by kernel_rfl) (by kernel_rfl) (fun _ _ _ h => h) (Or.inl ⟨by rfl, fun W hW => ?_⟩) hS0 ?_
    · obtain ⟨hW0, hW1, hW2, hW3⟩ := hW
      go_simp
    simp only [Act.put]
    refine AnyL.take 12 (.agg #[.int .i64 mo, .int .i64 mu, .int .i64 mv]) rfl (by kernel_rfl) (by kernel_rfl) (by kernel_rfl) (by kernel_rfl) (fun _ _ _ h => h) (Or.inl ⟨by rfl, fun W hW => ?_⟩) hS0 ?_
    · obtain ⟨hW0, hW1, hW2, hW3⟩ := hW
      go_simp
    simp only [Act.put]
    refine AnyL.one 13 (by kernel_rfl) rfl ?_
    intro K' hK
    rw [if_pos (by rfl)]
    go_wp2_with fail
    obtain ⟨w5, hw5⟩ : ∃ V, V = (w4.alloc (.cells #[.int .i64 mo, .int .i64 mu, .int .i64 mv] 61)).drew := ⟨_, rfl⟩
    obtain ⟨g5, hg5⟩ : ∃ g, g = w4.heap.size := ⟨_, rfl⟩
    have hb45 : Below w4.heap.size w4 w5 := hw5 ▸ below_drewC ((Below.refl _ _).alloc (Nat.le_refl _) _) 1
    have HB45 := Lib.hid hb45
    have HR5 : Hid (Reads w5 (g5 + 1) fdR.k (some ⟨g5, 0, none⟩) 1 (fdR.cells [⟨mo, mu, mv⟩])) := Lib.hid (by rw [hw5, hg5]; exact Row.reads_new fdR w4 _ _ [⟨mo, mu, mv⟩] rfl)
    have HC5 := Lib.hid (HC4.out.below hb45)
    rw [← hw5, ← hg5]
    refine hK.out _ _ (fun _ => HS4.out w5 hb45) ?_
    clear hK hw5 hg5 hb45
    refine AnyL.one 14 (by kernel_rfl) rfl ?_
    intro K' hK
    refine Row.stepApp fdR _ rfl (.tmp 36) (.tmp 44) rfl _ (.slice s.sg.A s.sg.n s.sg.c) s.gs rfl (by exact HC5.out.own.gs) (g5 + 1) (some ⟨g5, 0, none⟩) 1 [⟨mo, mu, mv⟩] 1 rfl (by exact HR5.out) (by show (s.gs.length + 1) * 24 ≤ _; omega) HC5.out.sz ?_
    intro A6 n6 k6 w6 ho6 hg6 hl6
    have ho6 : fdR.Own w6 B (Sl.val ⟨A6, n6, k6⟩) (s.gs ++ [(⟨mo, mu, mv⟩ : Fnd)]) := ho6
    have hk6 : ∀ x, ownB (.slice s.sg.A s.sg.n s.sg.c) ≠ some x → x < w4.heap.size → w6.heap[x]? = w4.heap[x]? := fun x hx hl => (hg6.block x (Nat.lt_of_lt_of_le hl HB45.out.size) (fun e => hx e.symm)).trans (HB45.out.block x hl)
    have hnp : ownB (.slice s.sg.A s.sg.n s.sg.c) ≠ some p := HC4.out.np _ (mem_stV.2 (.inr (.inr (.inr (.inr (.inr rfl))))))
    have hnq : ownB (.slice s.sg.A s.sg.n s.sg.c) ≠ some q := fun e => by
      have h1 := HC0.out.gs.lt q e
      have h2 := HQe.out
      omega
    have hbx6 : Blk w6 p 71 #[.pointer (some ⟨T, 0, none⟩), .int .i64 s.me, s.so.val, s.se.val, .int .i64 s.q, .slice A5 n5 k5, .slice s.sg.A s.sg.n s.sg.c] := (hk6 p hnp HC4.out.lt).trans HC4.out.box
    have hQ6 := (hk6 q hnq HQ4.out.lt).trans HQ4.out
    have hQ6 : Blk w6 q 30 #[.int .i64 mk, .int .i64 mo, .int .i64 mn, .int .i64 mu, .int .i64 mv] := hQ6
    have hS6 : (fun W : World => W.cell? ⟨p, 6, none⟩ = some (.slice s.sg.A s.sg.n s.sg.c) ∧ W.cell? ⟨q, 1, none⟩ = some (.int .i64 mo) ∧ W.cell? ⟨q, 3, none⟩ = some (.int .i64 mu) ∧ W.cell? ⟨q, 4, none⟩ = some (.int .i64 mv)) w6 := ⟨hbx6.cell 6, hQ6.cell 1, hQ6.cell 3, hQ6.cell 4⟩
    have hbw6 : Below B w4 w6 := by
      refine (HB45.out.mono HC4.out.sz).trans ?_
      exact ⟨hg6.os, hg6.tape, hg6.output, hg6.size, fun x hx => hg6.block x (Nat.lt_of_lt_of_le hx HC5.out.sz) (fun e => by have := HC5.out.own.gs.base x e.symm; omega)⟩
    have hput := HC4.out.putG (w1 := w6) (v' := ⟨A6, n6, k6⟩) (l' := s.gs ++ [(⟨mo, mu, mv⟩ : Fnd)]) ho6 hk6 hbw6 (hl6.imp id (Or.imp id fun ⟨x, e, hx⟩ => ⟨x, e, Nat.le_trans HB45.out.size hx⟩))
    simp only [Sl.val] at hput
    obtain ⟨w7, hw7⟩ : ∃ W, W = w6.setCell ⟨p, 6, none⟩ (.slice A6 n6 k6) := ⟨_, rfl⟩
    rw [← hw7] at hput
    obtain ⟨hC7, hB7⟩ := hput
    have HC7 := Lib.hid hC7
    have HB7 := Lib.hid hB7
    have HBa : Hid (Below B w w4) := Lib.hid (((HB1.out.mono HB.out).trans (HB2.out.mono (Nat.le_trans HB.out HB1.out.size))).trans HB4.out)
    have HN6 : Hid (n6 = s.gs.length + 1) := Lib.hid (by have := (Row.Own.rd ho6).1; simpa using this.symm)
    have c6 := hS6.1
    have f6 := hbx6.frozen
    refine hK.out _ _ (fun _ => hS6) ?_
    simp only [Act.put]
    clear hK ho6 hg6 hl6 hk6 hnp hnq hbx6 hQ6 hbw6 hC7 hB7
    refine AnyL.one 15 (by kernel_rfl) rfl ?_
    intro K' hK
    rw [if_pos (by rfl)]
    go_wp2_with fail
    refine hK.out _ _ (fun _ => hS6) ?_
    clear hK
    refine AnyL.one 16 (by kernel_rfl) rfl ?_
    intro K' hK
    rw [if_pos (by rfl)]
    go_wp2_with fail
    refine hK.out _ _ (fun _ => hS6) ?_
    clear hK
    refine AnyL.one 17 (by kernel_rfl) rfl ?_
    intro K' hK
    rw [if_pos (by rfl)]
    go_wp2_with fail
    refine hK.out _ _ (fun _ => hS6) ?_
    clear hK
    refine AnyL.one 18 (by kernel_rfl) rfl ?_
    intro K' hK
    rw [if_pos (by rfl)]
    go_wp2_with fail
    refine hK.out _ _ (fun h => absurd rfl h) ?_
    clear hK
    refine AnyL.done (by kernel_rfl) ?_ _
    refine NoPanic.normal ?_
    rw [← hw7]
    clear hw7 c6 f6 hS6 hS0
    have x6 : w7.cell? ⟨p, 6, none⟩ = some (.slice A6 n6 k6) := HC7.out.box.cell 6
    have xf := HC7.out.box.frozen
    have HG7 := Lib.hid HC7.out.own.gs
    obtain ⟨q1, q2, q3⟩ := Row.Own.rd HC7.out.own.gs
    obtain ⟨gg, hgg, -, -, gg3, -, -⟩ := Row.Own.cell HC7.out.own.gs (show 0 < n6 by have := HN6.out; omega)
    simp only at hgg
    subst hgg
    have hk6 : n6 ≤ k6 := q2
    clear q1 q2 q3
    have hn5 : n6 ≤ 5 := by have := HN6.out; omega
    have hn1 : 1 ≤ n6 := by have := HN6.out; omega
    rcases Nat.lt_or_ge 4 n6 with h5 | h5
    · obtain rfl : n6 = 5 := by omega
      have hcut := HC7.out.cutG (gg := gg) (n := 4) (c := k6) rfl
      have HCut := Lib.hid hcut
      have hk1 : ¬ k6 = 1 := by omega
      have m1 : IntKind.i64.wrap ((5 : Nat) - 4 : Int) = 1 := by decide
      clear hcut
      go_wp2_with fail
      go_region
      go_wp2
      go_end0
      refine ⟨rfl, _, HCut.out.1.below (below_drewC (Below.refl _ _) 1), ?_, below_drewC ((HBa.out.trans HB7.out).trans HCut.out.2) 1⟩
      rw [HE.out]
      have h9 : last4 (s.gs ++ [(⟨mo, mu, mv⟩ : Fnd)]) = (s.gs ++ [(⟨mo, mu, mv⟩ : Fnd)]).drop 1 := by unfold last4; rw [if_pos (by have := HN6.out; simp; omega)]
      rw [h9]
      rfl
    · have hp2 := HC7.out.putG (w1 := w7) (v' := ⟨some ⟨gg, 0, none⟩, n6, k6⟩) HG7.out (fun _ _ _ => rfl) (Below.refl _ _) (.inl rfl)
      simp only [Sl.val] at hp2
      have HP2 := Lib.hid hp2
      have h9 : last4 (s.gs ++ [(⟨mo, mu, mv⟩ : Fnd)]) = s.gs ++ [(⟨mo, mu, mv⟩ : Fnd)] := by unfold last4; rw [if_neg (by have := HN6.out; simp; omega)]
      have H9 := Lib.hid h9
      have hk0 : ¬ k6 = 0 := by omega
      have hE9 : Hid (tellS s.v ⟨mk, mo, mn, mu, mv⟩ = StL.v { me := s.me, os := s.os, so := s.so, es := s.es, se := s.se, q := s.q, as_ := s.as_.eraseIdx i, sa := ⟨A5, n5, k5⟩, gs := s.gs ++ [(⟨mo, mu, mv⟩ : Fnd)], sg := ⟨some ⟨gg, 0, none⟩, n6, k6⟩ }) := Lib.hid (by rw [HE.out, H9.out]; rfl)
      clear hp2 h9
      have h4 : n6 = 1 ∨ n6 = 2 ∨ n6 = 3 ∨ n6 = 4 := by omega
      rcases h4 with rfl | rfl | rfl | rfl
      · have m1 : IntKind.i64.wrap ((1 : Nat) - 4 : Int) = -3 := by decide
        go_wp2_with fail
        go_region
        go_wp2
        go_end0
        exact ⟨rfl, _, HP2.out.1.x.below (below_drewC (Below.refl _ _) 1), hE9.out.symm, below_drewC ((HBa.out.trans HB7.out).trans HP2.out.2) 1⟩
      · have m1 : IntKind.i64.wrap ((2 : Nat) - 4 : Int) = -2 := by decide
        go_wp2_with fail
        go_region
        go_wp2
        go_end0
        exact ⟨rfl, _, HP2.out.1.x.below (below_drewC (Below.refl _ _) 1), hE9.out.symm, below_drewC ((HBa.out.trans HB7.out).trans HP2.out.2) 1⟩
      · have m1 : IntKind.i64.wrap ((3 : Nat) - 4 : Int) = -1 := by decide
        go_wp2_with fail
        go_region
        go_wp2
        go_end0
        exact ⟨rfl, _, HP2.out.1.x.below (below_drewC (Below.refl _ _) 1), hE9.out.symm, below_drewC ((HBa.out.trans HB7.out).trans HP2.out.2) 1⟩
      · have m1 : IntKind.i64.wrap ((4 : Nat) - 4 : Int) = 0 := by decide
        go_wp2_with fail
        go_region
        go_wp2
        go_end0
        exact ⟨rfl, _, HP2.out.1.x.below (below_drewC (Below.refl _ _) 1), hE9.out.symm, below_drewC ((HBa.out.trans HB7.out).trans HP2.out.2) 1⟩
end Go.Proofs.Ytiaafhcfeeekeaa.Pk
