/- The walk of the law PackNumbers: Numbers goes over just the numbers that stand there, in their places, again and again, stopped early at will. -/
import Derived.Test.YtkgkiplidjoamaaMarks
import Derived.Test.YtkgkiplidjoamaaPackRef
import Derived.Test.YtkgkiplidjoamaaPackWakes
import Derived.Test.YtkgkiplidjoamaaArgs
namespace Go.Proofs.Ytkgkiplidjoamaa.Pk
open Go.RowKit Go.Shelf Go.Proofs.Ytkgkiplidjoamaa.Ar
set_option linter.unusedVariables false
attribute [local go_sem] Oper.semAt_some

theorem own_only {β : Type} (W1 : World) (x : Nat) : OwnFrom (β := β) W1.heap.size (fun _ W => Only W1 W x) := by
  intro s A B row h hg hr
  refine ⟨hg.os.trans h.os, hg.tape.trans h.tape, hg.output.trans h.output, Nat.le_trans h.size hg.size, fun k hk hne => ?_⟩
  refine (hg.block k (Nat.lt_of_lt_of_le hk h.size) (fun e => ?_)).trans (h.block k hk hne)
  have := (hr k e.symm).1
  omega
/-- Where the first range stands. -/
def At1 (l : List Int) (n x : Nat) (pre : List (Nat × Int)) (W : World) : Prop := ∃ o : Nat, Ahead l pre o ∧ o ≤ n ∧ pre.length ≤ o ∧ Blk W x 3 #[.int .i64 (o : Int)]
/-- Where the second range was left. -/
def At2 (stop : Int) (x : Nat) (W : World) : Prop := ∃ q : Nat, (0 < stop → (q : Int) ≤ stop) ∧ Blk W x 3 #[.int .i64 (q : Int)]
/-- Something else than the next one has come. -/
def Wrong1 (l : List Int) (pre : List (Nat × Int)) : Prop := ¬ pre <+: nums l
theorem wrong_end {l : List Int} {pre : List (Nat × Int)} {o : Nat} {x : Nat × Int} (h : Ahead l pre o) (hk : (tkv (l.drop o)).2 = 0) : Wrong1 l (pre ++ [x]) := by
  intro hp
  have := hp.length_le
  rw [← ahead_end h hk, List.length_append] at this
  simp at this
  omega
theorem wrong_ne {l : List Int} {pre : List (Nat × Int)} {o k : Nat} {y : Int} {x : Nat × Int} (h : Ahead l pre o) (ht : tkv (l.drop o) = (y, k)) (hk : 1 ≤ k) (hle : k ≤ (l.drop o).length) (hne : x ≠ (o, y)) : Wrong1 l (pre ++ [x]) := by
  intro hp
  have h1 := ahead_more h (by rw [ht]; show k ≠ 0; omega) (by rw [ht]; exact hle)
  rw [ht] at h1
  obtain ⟨r1, e1⟩ := hp
  obtain ⟨r2, e2⟩ := ahead_prefix h1
  rw [← e2, List.append_assoc, List.append_assoc] at e1
  have := List.append_cancel_left e1
  simp at this
  exact hne this.1
theorem keepB_set {Bs g x : Nat} {V : World} {u : Value} (hB : Bs < x) (hg : g < x) : KeepB Bs g V (V.setCell ⟨x, 0, none⟩ u) :=
  ⟨by simp [World.setCell], Below.heap_setCell _ ⟨x, 0, none⟩ _ Bs (by simp; omega), Below.heap_setCell _ ⟨x, 0, none⟩ _ g (by simp; omega)⟩
theorem blk_put {W : World} {g : Nat} {t : TypeId} {u : Value} (h : Blk W g t #[u]) (v : Value) : Blk (W.setCell ⟨g, 0, none⟩ v) g t #[v] := by
  have := h.set_ 0 v
  simpa using this
theorem reftake_nil (A : Option Addr) (c : Nat) (w : World) : Calls Try.prog 17 #[.slice A 0 c] w fun e w' => e = .returned (.tuple #[.int .i64 0, .int .i64 0]) ∧ w = w' := by
  have h := reftake_any A 0 c [] w w.heap.size ⟨rfl, fun h => by omega⟩ (fun c hc => by cases hc) (by omega)
  rw [show tkv [] = (0, 0) by decide] at h
  exact h
theorem ahead_full {l : List Int} {o : Nat} (hb : isB l) (h : Ahead l (nums l) o) : tkv (l.drop o) = (0, 0) := by
  rcases tkv_cases (l.drop o) (isB_drop hb o) with ht | ⟨y, k, ht, _, _, hk1, hk2, _⟩
  · exact ht
  · exfalso
    have h1 := ahead_more h (by rw [ht]; show k ≠ 0; omega) (by rw [ht]; exact hk2)
    have := (ahead_prefix h1).length_le
    simp at this
    omega

/-- What the law's rounds find in memory. -/
def NumMem (w : World) (Bs g : Nat) (a : Option Addr) (n c : Nat) (l : List Int) (stop : Int) (A5 : Option Addr) (n5 c5 : Nat) (W : World) : Prop :=
  Blk W w.heap.size 22 #[.slice a n c] ∧ Blk W (w.heap.size + 1) 3 #[.int .i64 stop] ∧ Blk W (w.heap.size + 1 + 1) 4 #[.bool false] ∧ Src W Bs g A5 n5 c5 l ∧ Bs < W.heap.size ∧ g < W.heap.size ∧ w.heap.size + 3 ≤ W.heap.size ∧ Below w.heap.size w W
theorem NumMem.keep {w : World} {Bs g : Nat} {a : Option Addr} {n c : Nat} {l : List Int} {stop : Int} {A5 : Option Addr} {n5 c5 : Nat} {W W' : World} (h : NumMem w Bs g a n c l stop A5 n5 c5 W) (hb : Below W.heap.size W W') : NumMem w Bs g a n c l stop A5 n5 c5 W' := by
  obtain ⟨h1, h2, h3, h4, h5, h6, h7, h8⟩ := h
  have := hb.size
  exact ⟨h1.below hb h1.lt, h2.below hb h2.lt, h3.below hb h3.lt, h4.keep ⟨hb.size, hb.block Bs h5, hb.block g h6⟩, by omega, by omega, by omega, h8.trans (hb.mono (by omega))⟩
theorem NumMem.only {w : World} {Bs g x : Nat} {a : Option Addr} {n c : Nat} {l : List Int} {stop : Int} {A5 : Option Addr} {n5 c5 : Nat} {W W' : World} (g5 : Bs < x) (g6 : g < x) (g7 : w.heap.size + 3 ≤ x) (h : NumMem w Bs g a n c l stop A5 n5 c5 W) (hb : Only W W' x) : NumMem w Bs g a n c l stop A5 n5 c5 W' := by
  obtain ⟨h1, h2, h3, h4, h5, h6, h7, h8⟩ := h
  have hs := hb.size
  have ne : ∀ k, k < x → some k ≠ some x := fun k hk e => by injection e with e; omega
  have bl : ∀ k, k < x → k < W.heap.size → W'.heap[k]? = W.heap[k]? := fun k hk hk2 => hb.block k hk2 (ne k hk)
  exact ⟨(bl _ (by omega) h1.lt).trans h1, (bl _ (by omega) h2.lt).trans h2, (bl _ (by omega) h3.lt).trans h3, h4.keep ⟨hb.size, bl Bs g5 h5, bl g g6 h6⟩, by omega, by omega, by omega, Only.below h8 hb (by omega) (by omega)⟩

/-- The outer loop's invariant. -/
def NumI (w : World) (Bs g : Nat) (a : Option Addr) (n c : Nat) (l : List Int) (stop : Int) (A5 : Option Addr) (n5 c5 : Nat) (A : Act) (W : World) : Prop :=
  ∃ (r : Nat) (ds : List Deferred) (u7 u8 u9 u10 u11 u12 u13 u14 u15 u16 u17 u18 u19 u20 u21 u22 u23 u24 u25 u26 u27 u28 u29 u30 u31 u32 u33 u34 u35 u36 u37 u38 u39 u40 u41 u42 u43 u44 u45 u46 u47 u48 u49 u50 u51 u52 u53 u54 u55 u56 u57 u58 u59 u60 u61 u62 u63 u64 u65 u66 u67 u68 u69 u70 u71 u72 u73 : Value), A = { tmps := #[.slice a n c, .int .i64 stop, .pointer (some ⟨w.heap.size, 0, none⟩), .pointer (some ⟨w.heap.size + 1, 0, none⟩), .pointer (some ⟨w.heap.size + 1 + 1, 0, none⟩), .func (.func 30) #[] #[.pointer (some ⟨Bs, 0, none⟩)], .int .i64 (r : Int), u7, u8, u9, u10, u11, u12, u13, u14, u15, u16, u17, u18, u19, u20, u21, u22, u23, u24, u25, u26, u27, u28, u29, u30, u31, u32, u33, u34, u35, u36, u37, u38, u39, u40, u41, u42, u43, u44, u45, u46, u47, u48, u49, u50, u51, u52, u53, u54, u55, u56, u57, u58, u59, u60, u61, u62, u63, u64, u65, u66, u67, u68, u69, u70, u71, u72, u73], defers := ds } ∧ r ≤ 2 ∧ Marks (w.heap.size + 3) ds W ∧ NumMem w Bs g a n c l stop A5 n5 c5 W
theorem NumI.mk {w : World} {Bs g : Nat} {a : Option Addr} {n c : Nat} {l : List Int} {stop : Int} {A5 : Option Addr} {n5 c5 : Nat} {W : World} (r : Nat) {ds : List Deferred} {u7 u8 u9 u10 u11 u12 u13 u14 u15 u16 u17 u18 u19 u20 u21 u22 u23 u24 u25 u26 u27 u28 u29 u30 u31 u32 u33 u34 u35 u36 u37 u38 u39 u40 u41 u42 u43 u44 u45 u46 u47 u48 u49 u50 u51 u52 u53 u54 u55 u56 u57 u58 u59 u60 u61 u62 u63 u64 u65 u66 u67 u68 u69 u70 u71 u72 u73 : Value} (hr : r ≤ 2) (hM : Marks (w.heap.size + 3) ds W) (hN : NumMem w Bs g a n c l stop A5 n5 c5 W) :
    NumI w Bs g a n c l stop A5 n5 c5 { tmps := #[.slice a n c, .int .i64 stop, .pointer (some ⟨w.heap.size, 0, none⟩), .pointer (some ⟨w.heap.size + 1, 0, none⟩), .pointer (some ⟨w.heap.size + 1 + 1, 0, none⟩), .func (.func 30) #[] #[.pointer (some ⟨Bs, 0, none⟩)], .int .i64 (r : Int), u7, u8, u9, u10, u11, u12, u13, u14, u15, u16, u17, u18, u19, u20, u21, u22, u23, u24, u25, u26, u27, u28, u29, u30, u31, u32, u33, u34, u35, u36, u37, u38, u39, u40, u41, u42, u43, u44, u45, u46, u47, u48, u49, u50, u51, u52, u53, u54, u55, u56, u57, u58, u59, u60, u61, u62, u63, u64, u65, u66, u67, u68, u69, u70, u71, u72, u73], defers := ds } W := ⟨r, ds, u7, u8, u9, u10, u11, u12, u13, u14, u15, u16, u17, u18, u19, u20, u21, u22, u23, u24, u25, u26, u27, u28, u29, u30, u31, u32, u33, u34, u35, u36, u37, u38, u39, u40, u41, u42, u43, u44, u45, u46, u47, u48, u49, u50, u51, u52, u53, u54, u55, u56, u57, u58, u59, u60, u61, u62, u63, u64, u65, u66, u67, u68, u69, u70, u71, u72, u73, rfl, hr, hM, hN⟩

set_option maxRecDepth 100000 in
set_option maxHeartbeats 4000000 in
theorem law_PackNumbers (a : Option Addr) (n c : Nat) (l : List Int) (stop : Int) (w : World) (h : ArgB w a n c l) (hst : -9223372036854775808 ≤ stop ∧ stop ≤ 9223372036854775807) :
    Calls Try.prog 6 #[.slice a n c, .int .i64 stop] w fun e w' => e = .returned (.bool true) ∧ Below w.heap.size w w' := by
  obtain ⟨hr, hnc, hc, hB⟩ := h
  obtain ⟨hst1, hst2⟩ := hst
  have HL : Hid (l.length = n) := by have := hr.1; simp at this; exact this
  have HB : Hid (isB l) := hB
  have HR := Lib.hid hr
  clear hB hr
  refine (callsIn_wide (n := 9)).1 ?_
  refine callsIn_of_wp_marks Try.func6 rfl trivial ?_ rfl
  simp only [Try.ntmps6, List.size_toArray, List.length_cons, List.length_nil, Nat.reduceAdd, Nat.reduceSub, Array.replicate_succ, Array.replicate_zero, List.push_toArray, List.append_toArray, List.nil_append, List.cons_append]
  refine wpIn_wide.2 ?_
  have kb := ((Blk.new w 22 #[.slice a n c]).alloc (.cells #[.int .i64 stop] 3)).alloc (.cells #[.bool false] 4)
  have ks := (Blk.new (w.alloc (.cells #[.slice a n c] 22)) 3 #[.int .i64 stop]).alloc (.cells #[.bool false] 4)
  have kr := Blk.new ((w.alloc (.cells #[.slice a n c] 22)).alloc (.cells #[.int .i64 stop] 3)) 4 #[.bool false]
  simp only [World.size_alloc] at ks kr
  go_wp2_with fail
  refine (wakes_any _).mono ?_
  rintro e w1 ⟨rfl, hb1⟩
  have hbel1 : Below w.heap.size w w1 := ((((Below.refl _ _).alloc (Nat.le_refl _) _).alloc (by simp) _).alloc (by simp <;> omega) _).trans (hb1.mono (by simp <;> omega))
  have kb1 := kb.below hb1 (by simp <;> omega)
  have ks1 := ks.below hb1 (by simp <;> omega)
  have kr1 := kr.below hb1 (by simp <;> omega)
  have hs1 : w.heap.size + 3 ≤ w1.heap.size := by have := hb1.size; simp at this; omega
  clear kb ks kr hb1
  have hfn := fun (W : World) (cs : Array Value) => run_eql_func_nil (P := Try.prog) W 35 (.func 30) #[] cs Try.underlying35
  have cb := kb1.cell 0
  simp only [List.getElem?_toArray, List.getElem?_cons_zero] at cb
  go_wp2_with fail
  refine (numbers_any a n c l w1 ((HR.out.below hbel1).more hbel1.size) HB.out (by omega)).mono ?_
  rintro e w2 ⟨Bs, g, A5, n5, c5, rfl, hBs1, hBs2, hg2, hg1, hn5, hc5, hS5, hb2⟩
  have hbel2 := hbel1.trans (hb2.mono hbel1.size)
  have kb2 := kb1.below hb2 (by omega)
  have ks2 := ks1.below hb2 (by omega)
  have kr2 := kr1.below hb2 (by omega)
  clear kb1 ks1 kr1 cb hb2
  go_wp2
  have hmem : NumMem w Bs g a n c l stop A5 n5 c5 w2 := ⟨kb2, ks2, kr2, hS5, hBs2, hg2, by have := hbel2.size; have := kr2.lt; omega, hbel2⟩
  clear kb2 ks2 kr2 hS5
  refine wp_loop (NumI w Bs g a n c l stop A5 n5 c5) (fun A _ => 2 - (intOf (A.tmps.getD 6 undef)).toNat) ?start ?round
  case start => exact NumI.mk 0 (by omega) trivial hmem
  case round =>
    rintro A W ⟨r, ds, u7, u8, u9, u10, u11, u12, u13, u14, u15, u16, u17, u18, u19, u20, u21, u22, u23, u24, u25, u26, u27, u28, u29, u30, u31, u32, u33, u34, u35, u36, u37, u38, u39, u40, u41, u42, u43, u44, u45, u46, u47, u48, u49, u50, u51, u52, u53, u54, u55, u56, u57, u58, u59, u60, u61, u62, u63, u64, u65, u66, u67, u68, u69, u70, u71, u72, u73, rfl, hr2, hM, hmem⟩
    by_cases hr : r < 2
    · go_wp2
      have hmem1 : NumMem w Bs g a n c l stop A5 n5 c5 (W.alloc (.cells #[.int .i64 0] 3)) := hmem.keep ((Below.refl _ _).alloc (Nat.le_refl _) _)
      have hM1 : Marks (w.heap.size + 3) ds (W.alloc (.cells #[.int .i64 0] 3)) := hM.below ((Below.refl _ _).alloc (Nat.le_refl _) _)
      have hat := Blk.new W 3 #[.int .i64 0]
      have hxW : W.heap.size < (W.alloc (.cells #[.int .i64 0] 3)).heap.size := by simp
      obtain ⟨W1, hW1⟩ : ∃ W1, W1 = W.alloc (.cells #[.int .i64 0] 3) := ⟨_, rfl⟩
      obtain ⟨x0, hx0⟩ : ∃ x0, x0 = W.heap.size := ⟨_, rfl⟩
      rw [← hW1] at hmem1 hM1 hat hxW ⊢
      rw [← hx0] at hat hxW ⊢
      obtain ⟨_, _, _, hSrc, hBs, hg, hsz3, hbelW⟩ := id hmem1
      have hgW := hmem.2.2.2.2.1
      have hgW2 := hmem.2.2.2.2.2.1
      have hx3 : w.heap.size + 3 ≤ x0 := by rw [hx0]; exact hmem.2.2.2.2.2.2.1
      have hBx : Bs < x0 := by rw [hx0]; exact hgW
      have hgx : g < x0 := by rw [hx0]; exact hgW2
      clear hW1 hmem hM hgW hgW2 hx0
      refine (wpIn_wide (n := 9)).1 ?_
      refine' wpIn_rangeFunc_ownG (α := Nat × Int) rfl (by omega) (gf := 30) (lb := #[.pointer (some ⟨Bs, 0, none⟩)]) rfl trivial (enters_of Try.func30 (by kernel_rfl) rfl)
        (iter_stops 8 (by omega) Bs g A5 n5 c5 l (by have := HL.out; omega) hc5 HB.out W1 hBs hg hSrc) KeepB.trans (keepB_b hBs hg) (Below.refl _ _) (fun _ => rfl)
        (fun pre W => At1 l n x0 pre W ∧ Only W1 W x0)
        (fun c pre W => c = .ret ∧ Wrong1 l pre)
        (OwnFrom.and (Own.from (fun s A B row hs hg hr => by
          obtain ⟨o, e1, e2, e3, e4⟩ := hs
          exact ⟨o, e1, e2, e3, blk_kept e4 hg hr⟩) _) (own_only W1 x0))
        (fun c => fun s A B row hs hg hr => hs)
        ⟨⟨0, ahead_start l, by omega, by simp, hat⟩, Only.refl _ _⟩
        _ ?assign ?body ?done ?stop
      case assign =>
        intro l x W K hK
        gi_wp2
        exact hK
      case body =>
        rintro lp pre ⟨x1, x2⟩ V ⟨⟨o, hA, hon, hpo, hao⟩, hOnly⟩ hlt
        obtain ⟨kb, ks, kr, _, _, _, _, hBV⟩ := NumMem.only hBx hgx hx3 hmem1 hOnly
        have cb : V.cell? ⟨w.heap.size, 0, none⟩ = some (.slice a n c) := by rw [kb.cell]; rfl
        have cat : V.cell? ⟨x0, 0, none⟩ = some (.int .i64 (o : Int)) := by rw [hao.cell]; rfl
        have fat : V.frozen? ⟨x0, 0, none⟩ = false := hao.frozen 0
        have cr : V.cell? ⟨w.heap.size + 1 + 1, 0, none⟩ = some (.bool false) := by rw [kr.cell]; rfl
        have fr : V.frozen? ⟨w.heap.size + 1 + 1, 0, none⟩ = false := kr.frozen 0
        have HRV := Lib.hid (HR.out.below hBV)
        have HA := Lib.hid hA
        have HAO := Lib.hid hao
        clear hA hao kb ks kr hBV hlt hfn hmem1 hM1 hat hSrc
        by_cases hco : c = o
        · subst hco
          have HT := Lib.hid (reftake_nil a 0 V)
          have HT0 : Hid ((tkv (l.drop c)).2 = 0) := by
            show (tkv (l.drop c)).2 = 0
            rw [List.drop_eq_nil_iff.2 (by rw [HL.out]; omega)]; decide
          have hz : n - c = 0 := by omega
          gi_wp2_with (refine ⟨trivial, ?_⟩; gi_at_call 17; refine (CallsIn.inRound lp (callsIn_wide.2 HT.out)).mono ?_; rintro e w' ⟨rfl, rfl⟩)
          exact ⟨(KeepsOthers.setCell _ _ _).from _, rfl, wrong_end HA.out HT0.out⟩
        · have HT := Lib.hid (reftake_any (a.map fun x => x.add o) (n - o) (c - o) (l.drop o) V w.heap.size (HRV.out.cutA hon) (isB_drop HB.out o) (by omega))
          rcases tkv_cases (l.drop o) (isB_drop HB.out o) with ht | ⟨y, k, ht, hy0, hy1, hk1, hk2, hk9, hyk⟩
          · have HT0 : Hid ((tkv (l.drop o)).2 = 0) := by show (tkv (l.drop o)).2 = 0; rw [ht]
            rw [ht] at HT
            clear ht
            gi_wp2_with (refine ⟨trivial, ?_⟩; gi_at_call 17; refine (CallsIn.inRound lp (callsIn_wide.2 HT.out)).mono ?_; rintro e w' ⟨rfl, rfl⟩)
            exact ⟨(KeepsOthers.setCell _ _ _).from _, rfl, wrong_end HA.out HT0.out⟩
          · have HK2 := Lib.hid hk2
            have HT0 := Lib.hid ht
            rw [ht] at HT
            have hk3 : k ≤ n - o := by rw [List.length_drop, HL.out] at hk2; exact hk2
            have hk0 : ((k : Int) == 0) = false := beq_eq_false_iff_ne.2 (by omega)
            clear ht hyk hk2
            by_cases hx1 : x1 = o
            · subst hx1
              have t1 : ((x1 : Int) != (x1 : Int)) = false := by simp
              by_cases hx2 : x2 = y
              · subst hx2
                have t2 : (x2 != x2) = false := by simp
                have hAm : Hid (Ahead l (pre ++ [(x1, x2)]) (x1 + k)) := by
                  have := ahead_more HA.out (by rw [HT0.out]; show k ≠ 0; omega) (by rw [HT0.out]; exact HK2.out)
                  rw [HT0.out] at this; exact this
                gi_wp2_with (refine ⟨trivial, ?_⟩; gi_at_call 17; refine (CallsIn.inRound lp (callsIn_wide.2 HT.out)).mono ?_; rintro e w' ⟨rfl, rfl⟩)
                exact ⟨(KeepsOthers.setCell _ _ _).from _, keepB_set hBx hgx, ⟨x1 + k, hAm.out, by omega, by simp; omega, blk_put HAO.out _⟩, hOnly.set _ _⟩
              · have t2 : (x2 != y) = true := by simp [hx2]
                have HW : Hid (Wrong1 l (pre ++ [(x1, x2)])) := wrong_ne HA.out HT0.out hk1 HK2.out (fun e => hx2 (congrArg Prod.snd e))
                clear hx2
                gi_wp2_with (refine ⟨trivial, ?_⟩; gi_at_call 17; refine (CallsIn.inRound lp (callsIn_wide.2 HT.out)).mono ?_; rintro e w' ⟨rfl, rfl⟩)
                exact ⟨(KeepsOthers.setCell _ _ _).from _, rfl, HW.out⟩
            · have t1 : ((x1 : Int) != (o : Int)) = true := by simp; omega
              have HW : Hid (Wrong1 l (pre ++ [(x1, x2)])) := wrong_ne HA.out HT0.out hk1 HK2.out (fun e => hx1 (congrArg Prod.fst e))
              clear hx1
              gi_wp2_with (refine ⟨trivial, ?_⟩; gi_at_call 17; refine (CallsIn.inRound lp (callsIn_wide.2 HT.out)).mono ?_; rintro e w' ⟨rfl, rfl⟩)
              exact ⟨(KeepsOthers.setCell _ _ _).from _, rfl, HW.out⟩
      case stop =>
        rintro D cc pre V hD hpre ⟨rfl, hw⟩ hK
        exact absurd hpre hw
      case done =>
        rintro D ys V hD rfl ⟨⟨o, hA, hon, hpo, hao⟩, hOnly⟩ hK
        have hmemV := NumMem.only hBx hgx hx3 hmem1 hOnly
        have hMV : Marks (w.heap.size + 3) ({ target := .collected D, args := #[] } :: ds) V := (hM1.only hOnly hat).cons (fun d hd k e => by have := hM1.lt d hd k e; omega) (by have := hmem1.2.2.2.2.2.2.1; omega) hK
        have hTk := ahead_full HB.out hA
        obtain ⟨kb, ks, kr, hSV, hBV2, hgV2, hV3, hBV⟩ := id hmemV
        have cb : V.cell? ⟨w.heap.size, 0, none⟩ = some (.slice a n c) := by rw [kb.cell]; rfl
        have cat : V.cell? ⟨x0, 0, none⟩ = some (.int .i64 (o : Int)) := by rw [hao.cell]; rfl
        have HRV := Lib.hid (HR.out.below hBV)
        have HTk := Lib.hid hTk
        clear hA hpo hao kb ks kr hfn hmem1 hM1 hat hSrc hOnly hK hTk hD
        by_cases hco : c = o
        case' pos =>
          subst hco
          have HT := Lib.hid (reftake_nil a 0 V)
          have hz : n - c = 0 := by omega
        case' neg =>
          have HT := Lib.hid (reftake_any (a.map fun x => x.add o) (n - o) (c - o) (l.drop o) V w.heap.size (HRV.out.cutA hon) (isB_drop HB.out o) (by omega))
          rw [HTk.out] at HT
        all_goals
          go_wp2_with (go_at_call 17; refine HT.out.mono ?_; rintro e w' ⟨rfl, rfl⟩)
          have hmem2 : NumMem w Bs g a n c l stop A5 n5 c5 (V.alloc (.cells #[.int .i64 0] 3)) := hmemV.keep ((Below.refl _ _).alloc (Nat.le_refl _) _)
          have hM2 := hMV.below (W' := V.alloc (.cells #[.int .i64 0] 3)) ((Below.refl _ _).alloc (Nat.le_refl _) _)
          have hse := Blk.new V 3 #[.int .i64 0]
          have hxV : V.heap.size < (V.alloc (.cells #[.int .i64 0] 3)).heap.size := by simp
          obtain ⟨V1, hV1⟩ : ∃ V1, V1 = V.alloc (.cells #[.int .i64 0] 3) := ⟨_, rfl⟩
          obtain ⟨x3, hx3'⟩ : ∃ x3, x3 = V.heap.size := ⟨_, rfl⟩
          rw [← hV1] at hmem2 hM2 hse hxV ⊢
          rw [← hx3'] at hse hxV hBV2 hgV2 hV3 ⊢
          obtain ⟨_, _, _, hSrc2, hBs2', hg2', _, _⟩ := id hmem2
          clear hV1 hmemV hMV hx3' HRV HTk HT cb cat hBV hSV
          refine (wpIn_wide (n := 9)).1 ?_
          refine' wpIn_rangeFunc_ownG (α := Nat × Int) rfl (by omega) (gf := 30) (lb := #[.pointer (some ⟨Bs, 0, none⟩)]) rfl trivial (enters_of Try.func30 (by kernel_rfl) rfl)
            (iter_stops 8 (by omega) Bs g A5 n5 c5 l (by have := HL.out; omega) hc5 HB.out V1 hBs2' hg2' hSrc2) KeepB.trans (keepB_b hBs2' hg2') (Below.refl _ _) (fun _ => rfl)
            (fun pre W => ((0 < stop → (pre.length : Int) < stop) ∧ Blk W x3 3 #[.int .i64 (pre.length : Nat)]) ∧ Only V1 W x3)
            (fun cc pre W => (cc = .exit 4 ∧ At2 stop x3 W) ∧ Only V1 W x3)
            (OwnFrom.and (Own.from (fun s A B row hs hg hr => ⟨hs.1, blk_kept hs.2 hg hr⟩) _) (own_only V1 x3))
            (fun cc => OwnFrom.and (Own.from (fun s A B row hs hg hr => by
              obtain ⟨e1, q, e2, e3⟩ := hs
              exact ⟨e1, q, e2, blk_kept e3 hg hr⟩) _) (own_only V1 x3))
            ⟨⟨fun h => h, hse⟩, Only.refl _ _⟩
            _ ?assign2 ?body2 ?done2 ?stop2
          case assign2 =>
            intro l x W K hK
            gi_wp2
            exact hK
          case body2 =>
            rintro lp pre ⟨x1, x2⟩ U ⟨⟨hlt2, hsee⟩, hOnly⟩ hlt
            obtain ⟨kb, ks, kr, _, _, _, _, hBU⟩ := NumMem.only hBV2 hgV2 hV3 hmem2 hOnly
            have cst : U.cell? ⟨w.heap.size + 1, 0, none⟩ = some (.int .i64 stop) := by rw [ks.cell]; rfl
            have cse : U.cell? ⟨x3, 0, none⟩ = some (.int .i64 (pre.length : Nat)) := by rw [hsee.cell]; rfl
            have fse : U.frozen? ⟨x3, 0, none⟩ = false := hsee.frozen 0
            obtain ⟨q, hq⟩ : ∃ q, q = pre.length := ⟨_, rfl⟩
            rw [← hq] at hlt2 hsee cse hlt
            have hlq : q ≤ 140737488351232 := by have := HL.out; omega
            have HQ := Lib.hid hq
            have hne3 : x3 ≠ w.heap.size + 1 := by omega
            have hne4 : w.heap.size + 1 ≠ x3 := by omega
            have cst2 : (U.setCell ⟨x3, 0, none⟩ (.int .i64 ((q : Int) + 1))).cell? ⟨w.heap.size + 1, 0, none⟩ = some (.int .i64 stop) := by
              have := (ks.far (p := ⟨x3, 0, none⟩) (by simp; omega) (.int .i64 ((q : Int) + 1))).cell 0
              simpa using this
            clear hlt kb ks kr hBU hmem2 hM2 hse hSrc2 hq
            by_cases hs : stop ≤ (q : Int) + 1
            · gi_wp2
              exact ⟨(KeepsOthers.setCell _ _ _).from _, ⟨rfl, q + 1, fun h => by have := hlt2 h; omega, blk_put hsee _⟩, hOnly.set _ _⟩
            · gi_wp2
              exact ⟨(KeepsOthers.setCell _ _ _).from _, keepB_set hBV2 hgV2, ⟨⟨fun h => by rw [List.length_append, ← HQ.out]; simp; omega, by rw [List.length_append, ← HQ.out]; exact blk_put hsee _⟩, hOnly.set _ _⟩⟩
          case done2 =>
            rintro D ys U hD _ ⟨⟨hlt2, hsee⟩, hOnly⟩ hK
            obtain ⟨q, hq⟩ : ∃ q, q = ys.length := ⟨_, rfl⟩
            rw [← hq] at hlt2 hsee
            have hq2 : 0 < stop → (q : Int) ≤ stop := fun h => by have := hlt2 h; omega
            clear hq hlt2
            have hmemU := NumMem.only hBV2 hgV2 hV3 hmem2 hOnly
            have hMU := (hM2.only hOnly hse).cons (fun d hd k e => by have := hM2.lt d hd k e; omega) (by omega) hK
            obtain ⟨kb, ks, kr, _, _, _, _, hBU⟩ := id hmemU
            have cst : U.cell? ⟨w.heap.size + 1, 0, none⟩ = some (.int .i64 stop) := by rw [ks.cell]; rfl
            have cse : U.cell? ⟨x3, 0, none⟩ = some (.int .i64 (q : Nat)) := by rw [hsee.cell]; rfl
            have HM := Lib.hid hmemU
            have HMU := Lib.hid hMU
            clear kb ks kr hBU hmemU hMU hmem2 hM2 hse hSrc2 hOnly hsee hK hD
            by_cases hs0 : 0 < stop
            · have hqs := hq2 hs0
              go_wp2
              exact ⟨NumI.mk (r + 1) (by omega) HMU.out HM.out, by simp [intOf]; omega⟩
            · go_wp2
              exact ⟨NumI.mk (r + 1) (by omega) HMU.out HM.out, by simp [intOf]; omega⟩
          case stop2 =>
            rintro D cc pre U hD _ ⟨⟨rfl, q, hq2, hsee⟩, hOnly⟩ hK
            have hmemU := NumMem.only hBV2 hgV2 hV3 hmem2 hOnly
            have hMU := (hM2.only hOnly hse).cons (fun d hd k e => by have := hM2.lt d hd k e; omega) (by omega) hK
            obtain ⟨kb, ks, kr, _, _, _, _, hBU⟩ := id hmemU
            have cst : U.cell? ⟨w.heap.size + 1, 0, none⟩ = some (.int .i64 stop) := by rw [ks.cell]; rfl
            have cse : U.cell? ⟨x3, 0, none⟩ = some (.int .i64 (q : Nat)) := by rw [hsee.cell]; rfl
            have HM := Lib.hid hmemU
            have HMU := Lib.hid hMU
            clear kb ks kr hBU hmemU hMU hmem2 hM2 hse hSrc2 hOnly hsee hK hD
            refine wpIn_wide.2 ?_
            by_cases hs0 : 0 < stop
            · have hqs := hq2 hs0
              go_wp2
              exact ⟨NumI.mk (r + 1) (by omega) HMU.out HM.out, by simp [intOf]; omega⟩
            · go_wp2
              exact ⟨NumI.mk (r + 1) (by omega) HMU.out HM.out, by simp [intOf]; omega⟩
    · obtain ⟨kb, ks, kr, hSW, hBW2, hgW2, hW3, hBW⟩ := hmem
      have cr : W.cell? ⟨w.heap.size + 1 + 1, 0, none⟩ = some (.bool false) := by rw [kr.cell]; rfl
      have fr : W.frozen? ⟨w.heap.size + 1 + 1, 0, none⟩ = false := kr.frozen 0
      have KR := Lib.hid kr
      clear kb ks kr hSW hfn
      go_wp2
      have kr2 := blk_put KR.out (.bool true)
      have ho : Only W (W.setCell ⟨w.heap.size + 1 + 1, 0, none⟩ (.bool true)) (w.heap.size + 1 + 1) := (Only.refl _ _).set _ _
      refine Marks.leave (B := w.heap.size + 3) ds _ (hM.only ho KR.out) (fun W' hb => ?_)
      have c5 : W'.cell? ⟨w.heap.size + 1 + 1, 0, none⟩ = some (.bool true) := by
        rw [hb.cell (p := ⟨w.heap.size + 1 + 1, 0, none⟩) (by simp), kr2.cell]; rfl
      refine ⟨.bool true, ?_, rfl, (hBW.setCell (p := ⟨w.heap.size + 1 + 1, 0, none⟩) (by simp; omega) _).trans (hb.mono (by omega))⟩
      simp [results, Try.f6, go_sem, c5]
end Go.Proofs.Ytkgkiplidjoamaa.Pk
