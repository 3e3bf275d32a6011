/- The walk of the law HalfLeft. -/
import Derived.Test.YtneijohbmphheaaHfWakes
import Derived.Test.YtneijohbmphheaaHfRef
import Derived.Test.YtneijohbmphheaaHfArgs
import Derived.Test.YtneijohbmphheaaNums
import Derived.Test.YtneijohbmphheaaRegRound
import Derived.Test.YtneijohbmphheaaRangeA
import Derived.Test.YtneijohbmphheaaWiEq
import Derived.Deep.QuietTactic
import Derived.BigQuiet
namespace Go.Proofs.Ytneijohbmphheaa.Pk
open Go.RowKit Go.Shelf Go.Proofs.Ytneijohbmphheaa.Ar
set_option linter.unusedVariables false
attribute [local go_sem] Oper.semAt_some encH
/-- The numbers above q among the first k from b + 1 on; d: how many aren't. -/
def wl (b : Int) (d k : Nat) : List Int := (List.range (k - d)).map fun j => b + 1 + ((d + j : Nat) : Int)
theorem wl_more {b : Int} {d k : Nat} (h : d ≤ k) : wl b d (k + 1) = wl b d k ++ [b + 1 + (k : Int)] := by
  unfold wl
  rw [show k + 1 - d = (k - d) + 1 by omega, List.range_succ, List.map_append]
  simp
  omega
theorem wl_less {b : Int} {d k : Nat} (h : k < d) : wl b d (k + 1) = wl b d k := by
  unfold wl
  rw [show k + 1 - d = 0 by omega, show k - d = 0 by omega]
theorem wl_len (b : Int) (d k : Nat) : (wl b d k).length = k - d := by simp [wl]
theorem wl_left {h : Hf} (hb : h.Be) (q : Int) : wl h.b (q - h.b).toNat h.o.length = (hleft h q).map (·.1) := by
  apply List.ext_getElem?
  intro i
  rw [List.getElem?_map, hleft_get hb]
  unfold wl
  rw [List.getElem?_map]
  rcases Nat.lt_or_ge i (h.o.length - (q - h.b).toNat) with h1 | h1
  · rw [List.getElem?_range h1, List.getElem?_eq_getElem (by omega)]
    simp
  · rw [List.getElem?_eq_none (by simpa using h1), List.getElem?_eq_none (by omega)]
    rfl
theorem left_at {h : Hf} {q : Int} {m : Nat} {x : Int × Mg} (hx : (hleft h q)[m]? = some x) : ∃ i : Nat, x.1 = h.b + 1 + (i : Int) ∧ i < h.o.length ∧ h.o[i]? = some x.2 := by
  by_cases hb : h.Be
  · rw [hleft_get hb] at hx
    obtain ⟨y, hy, rfl⟩ := Option.map_eq_some_iff.1 hx
    exact ⟨_, rfl, (List.getElem?_eq_some_iff.1 hy).1, hy⟩
  · rw [hleft_not hb] at hx; simp at hx
theorem left_len (h : Hf) (q : Int) : (hleft h q).length ≤ 1024 := by
  by_cases hb : h.Be
  · rw [hleft_length hb]; have := hb.2.2.2.2.2.1; omega
  · rw [hleft_not hb]; simp
theorem ownN_len {w : World} {B : Nat} {A : Option Addr} {n c : Nat} {l : List Int} (h : OwnN w B (.slice A n c) l) : l.length = n := by
  obtain ⟨A', c', e, _, _⟩ := OwnN.reads h
  injection e with e1 e2 e3
  exact e2.symm
theorem ownN_slice {w : World} {B : Nat} {v : Value} {l : List Int} (h : OwnN w B v l) : ∃ A n c, v = .slice A n c := by
  obtain ⟨A, c, e, _, _⟩ := OwnN.reads h
  exact ⟨A, _, c, e⟩
theorem ownN_reads {w : World} {B : Nat} {A : Option Addr} {n c : Nat} {l : List Int} (h : OwnN w B (.slice A n c) l) : Reads w w.heap.size 1 A n (nms l) := by
  obtain ⟨A', c', e, _, hr⟩ := OwnN.reads h
  injection e with e1 e2 e3
  rw [e1, e2]; exact hr
theorem OwnN.setBox {w : World} {B x i : Nat} {v : Value} {l : List Int} (h : OwnN w B v l) (hx : v.ownBlock ≠ some x) (u : Value) : OwnN (w.setCell ⟨x, i, none⟩ u) B v l := by
  obtain ⟨h1, h2⟩ := h
  refine ⟨h1, ?_⟩
  rcases h2 with h2 | ⟨g, cap, cur, rfl, hg, hh, hr⟩
  · exact .inl h2
  · exact .inr ⟨g, cap, cur, rfl, hg, (Below.heap_setCell w ⟨x, i, none⟩ u g (fun e => hx (by simp at e; subst e; rfl))).trans hh, hr⟩
theorem ownN_ne {w : World} {B x n c : Nat} {A : Option Addr} {l : List Int} {cs : Array Value} (h : OwnN w B (.slice A n c) l) (hb : Blk w x 37 cs) : (Value.slice A n c).ownBlock ≠ some x := by
  intro e
  rcases h.2 with ⟨e2, _⟩ | ⟨g, cap, cur, e2, _, hh, _⟩
  · injection e2 with e2; subst e2; simp [Value.ownBlock] at e
  · injection e2 with e2
    subst e2
    simp [Value.ownBlock] at e
    subst e
    unfold Blk at hb
    rw [hb] at hh
    injection hh with hh
    injection hh with _ hh
    exact absurd hh (by decide)
theorem run_min2 (P : Program) (ts : Array TypeId) (t : TypeId) (a b M : Int) (hM : M = min a b) (w : World) :
    (Builtin.min_ ts t #[.int .i64 a, .int .i64 b]).run P w = .ok (.int .i64 M) w := by
  subst hM
  have e1 : (if b < a then b else a) = min a b := by split <;> omega
  simp only [Builtin.min_, List.foldlM, Builtin.min2, e1, pure_bind]
  rfl
theorem onlyS_grown {S : Nat → Prop} {w V W : World} {row : Option Nat} (h : OnlyS S w V) (hg : V.grownBy W row) (hr : ∀ g, row = some g → w.heap.size ≤ g) : OnlyS S w W :=
  ⟨hg.os.trans h.os, hg.tape.trans h.tape, hg.output.trans h.output, Nat.le_trans h.size hg.size, fun i hi hn => (hg.block i (Nat.lt_of_lt_of_le hi h.size) (fun e => by have := hr i e.symm; omega)).trans (h.block i hi hn)⟩
set_option maxRecDepth 100000 in
set_option maxHeartbeats 16000000 in
theorem law_HalfLeft (HP : PushH) (HF : FitsH) (HH : HeardH) (HLe : LeftH) (h : Hf) (A : Option Addr) (n c : Nat) (q u : Int) (w : World) (hk : ArgH w h A n c) (hq : -9223372036854775808 ≤ q ∧ q ≤ 9223372036854775807) (hu : -9223372036854775808 ≤ u ∧ u ≤ 9223372036854775807) :
    Calls Try.prog 5 #[h.val (.slice A n c), .int .i64 q, .int .i64 u] w fun e w' => e = .returned (.bool true) ∧ Below w.heap.size w w' := by
  have HW := Lib.hid (fun w => wakes_any HP HF HH w)
  have HRg := Lib.hid (fun w' (hb : Below w.heap.size w w') => refgood_any h A n c w' (hk.next hb))
  have HLf := Lib.hid (fun w' (hb : Below w.heap.size w w') => HLe h q A n c w' (hk.next hb) hq.1 hq.2)
  have HGet := Lib.hid (fun m x hx => left_at (h := h) (q := q) (m := m) (x := x) hx)
  have HLl := Lib.hid (left_len h q)
  have HWl := Lib.hid (fun hb => wl_left (h := h) hb q)
  have HLn := Lib.hid (fun hb => hleft_not (h := h) hb q)
  have HL := Lib.hid hk.len
  have HRe := Lib.hid hk.rd
  have HI := Lib.hid hk.i.b
  have hn := hk.few
  clear hk HP HF HH HLe
  obtain ⟨l, hl⟩ : ∃ l, l = hleft h q := ⟨_, rfl⟩
  rw [← hl] at HLf HGet HLl HWl HLn
  clear hl
  obtain ⟨p, b, o, s⟩ := h
  unfold Hf.val at HRg HLf ⊢
  simp only at HRg HLf HGet HLl HWl HLn HL HRe HI ⊢
  refine (callsIn_wide (n := 9)).1 ?_
  refine callsIn_of_wp_marks Try.func5 rfl trivial ?_ rfl
  simp only [Try.ntmps5, List.size_toArray, List.length_cons, List.length_nil, Nat.reduceAdd, Nat.reduceSub, Array.replicate_succ, Array.replicate_zero, List.push_toArray, List.append_toArray, List.nil_append, List.cons_append]
  refine wpIn_wide.2 ?_
  obtain ⟨xe, hxe⟩ : ∃ x, x = w.heap.size := ⟨_, rfl⟩
  obtain ⟨xs, hxs⟩ : ∃ x, x = xe + 1 := ⟨_, rfl⟩
  obtain ⟨xr, hxr⟩ : ∃ x, x = xs + 1 := ⟨_, rfl⟩
  obtain ⟨wa, hwa⟩ : ∃ v, v = w.alloc (.cells #[.int .i64 p, .int .i64 b, .slice A n c, .int .i64 s] 24) := ⟨_, rfl⟩
  obtain ⟨wb, hwb⟩ : ∃ v, v = wa.alloc (.cells #[.int .i64 u] 3) := ⟨_, rfl⟩
  obtain ⟨w0, hw0⟩ : ∃ v, v = wb.alloc (.cells #[.bool false] 4) := ⟨_, rfl⟩
  have hsa : wa.heap.size = xe + 1 := by rw [hwa, World.size_alloc, hxe]
  have hsb : wb.heap.size = xs + 1 := by rw [hwb, World.size_alloc, hsa, hxs]
  have hba : Below w.heap.size w wa := hwa ▸ (Below.refl _ _).alloc (Nat.le_refl _) _
  have hbb : Below w.heap.size w wb := hwb ▸ hba.alloc (by omega) _
  have HB0 : Hid (Below w.heap.size w w0) := Lib.hid (hw0 ▸ hbb.alloc (by omega) _)
  have HE0 : Hid (Blk w0 xe 24 #[.int .i64 p, .int .i64 b, .slice A n c, .int .i64 s]) := Lib.hid (by rw [hw0, hwb, hwa, hxe]; exact ((Blk.new w _ _).alloc _).alloc _)
  have HS0 : Hid (Blk w0 xs 3 #[.int .i64 u]) := Lib.hid (by rw [hw0, hwb, hxs, ← hsa]; exact (Blk.new wa _ _).alloc _)
  have HR0 : Hid (Blk w0 xr 4 #[.bool false]) := Lib.hid (by rw [hw0, hxr, ← hsb]; exact Blk.new wb _ _)
  have HX : Hid (w.heap.size ≤ xe ∧ xe < xs ∧ xs < xr) := Lib.hid (by omega)
  go_wp2_with fail
  rw [← hwa, ← hwb, ← hw0, ← hxe, ← hxs, ← hxr]
  clear hwa hwb hw0 hxe hxs hxr hsa hsb hba hbb wa wb
  refine (HW.out w0).mono ?_
  rintro e w1 ⟨rfl, hb⟩
  obtain ⟨xw, hxw⟩ : ∃ x, x = w1.heap.size := ⟨_, rfl⟩
  obtain ⟨w2, hw2⟩ : ∃ v, v = w1.alloc (.cells #[.slice none 0 0] 37) := ⟨_, rfl⟩
  have hb2 : Below w1.heap.size w1 w2 := hw2 ▸ (Below.refl _ _).alloc (Nat.le_refl _) _
  have hb02 : Below w0.heap.size w0 w2 := hb.trans (hb2.mono hb.size)
  have HB2 := Lib.hid (HB0.out.trans (hb02.mono HB0.out.size))
  have HE2 := Lib.hid (HE0.out.below hb02 HE0.out.lt)
  have HS2 := Lib.hid (HS0.out.below hb02 HS0.out.lt)
  have HR2 := Lib.hid (HR0.out.below hb02 HR0.out.lt)
  have HW2 : Hid (Blk w2 xw 37 #[.slice none 0 0]) := Lib.hid (by rw [hw2, hxw]; exact Blk.new w1 _ _)
  have HXw : Hid (xr < xw) := Lib.hid (by rw [hxw]; exact (HR0.out.below hb HR0.out.lt).lt)
  have k1 := HE0.out.below hb HE0.out.lt
  have lw1 : xe < w1.heap.size := k1.lt
  have e0_ : w1.cell? ⟨xe, 0, none⟩ = some (.int .i64 p) := k1.cell 0
  have e1_ : w1.cell? ⟨xe, 1, none⟩ = some (.int .i64 b) := k1.cell 1
  have e2_ : w1.cell? ⟨xe, 2, none⟩ = some (.slice A n c) := k1.cell 2
  have e3_ : w1.cell? ⟨xe, 3, none⟩ = some (.int .i64 s) := k1.cell 3
  clear hb2 hb02 k1 hb
  go_wp2_with fail
  rw [← hw2, ← hxw]
  clear hw2 hxw e0_ e1_ e2_ e3_ lw1
  refine (HRg.out w2 HB2.out).mono ?_
  rintro e w3 ⟨rfl, hb⟩
  have HB3 := Lib.hid (HB2.out.trans (hb.mono HB2.out.size))
  have HE3 := Lib.hid (HE2.out.below hb HE2.out.lt)
  have HS3 := Lib.hid (HS2.out.below hb HS2.out.lt)
  have HR3 := Lib.hid (HR2.out.below hb HR2.out.lt)
  have HW3 := Lib.hid (HW2.out.below hb HW2.out.lt)
  clear hb
  by_cases hbe : Hf.Be ⟨p, b, o, s⟩
  case neg =>
    rw [decide_eq_false hbe]
    obtain rfl : l = [] := HLn.out hbe
    clear hbe
    have e3 := HE3.out
    obtain ⟨w5, h5⟩ : ∃ v, v = w3 := ⟨_, rfl⟩
    obtain ⟨Aw, hAw⟩ : ∃ v : Option Addr, v = none := ⟨_, rfl⟩
    obtain ⟨nw, hnw⟩ : ∃ v : Nat, v = 0 := ⟨_, rfl⟩
    obtain ⟨cw, hcw⟩ : ∃ v : Nat, v = 0 := ⟨_, rfl⟩
    obtain ⟨l, hl⟩ : ∃ v : List (Int × Mg), v = [] := ⟨_, rfl⟩
    rw [← hl] at HLf HGet HLl
    have HOw : Hid (OwnN w5 w3.heap.size (.slice Aw nw cw) (l.map (·.1))) := Lib.hid (by rw [hAw, hnw, hcw, hl]; exact OwnN.none_ _ _)
    have HW5 : Hid (Blk w5 xw 37 #[.slice Aw nw cw]) := Lib.hid (by rw [h5, hAw, hnw, hcw]; exact HW3.out)
    have HB5 : Hid (Below w.heap.size w w5) := Lib.hid (by rw [h5]; exact HB3.out)
    have HE5 : Hid (Blk w5 xe 24 #[.int .i64 p, .int .i64 b, .slice A n c, .int .i64 s]) := Lib.hid (by rw [h5]; exact HE3.out)
    have HS5 : Hid (Blk w5 xs 3 #[.int .i64 u]) := Lib.hid (by rw [h5]; exact HS3.out)
    have HR5 : Hid (Blk w5 xr 4 #[.bool false]) := Lib.hid (by rw [h5]; exact HR3.out)
    rw [← h5]
    clear h5 hAw hnw hcw hl e3
    have k5 := HE5.out
    have e0_ : w5.cell? ⟨xe, 0, none⟩ = some (.int .i64 p) := k5.cell 0
    have e1_ : w5.cell? ⟨xe, 1, none⟩ = some (.int .i64 b) := k5.cell 1
    have e2_ : w5.cell? ⟨xe, 2, none⟩ = some (.slice A n c) := k5.cell 2
    have e3_ : w5.cell? ⟨xe, 3, none⟩ = some (.int .i64 s) := k5.cell 3
    clear k5
    go_wp2_with fail
    clear e0_ e1_ e2_ e3_
    refine (HLf.out w5 HB5.out).mono ?_
    rintro e w6 ⟨v6, R, rfl, hseq, hb6, hR⟩
    have HB6 := Lib.hid (HB5.out.trans (hb6.mono HB5.out.size))
    have HE6 := Lib.hid (HE5.out.below hb6 HE5.out.lt)
    have HS6 := Lib.hid (HS5.out.below hb6 HS5.out.lt)
    have HR6 := Lib.hid (HR5.out.below hb6 HR5.out.lt)
    have HW6 := Lib.hid (HW5.out.below hb6 HW5.out.lt)
    have HO6 := Lib.hid (OwnN.below HOw.out hb6)
    have HRo6 : Hid (Reads w6 w6.heap.size 5 A n (mgs o)) := Lib.hid ((HRe.out.below HB6.out).more HB6.out.size)
    have HNw : Hid (l.length = nw) := Lib.hid (by have := ownN_len HOw.out; simpa using this)
    have hnw : nw ≤ 1024 := by have h1 := HNw.out; have h2 := HLl.out; omega
    have SE6 := Lib.hid hseq
    have HRl : Hid (∀ g, R g → g < w6.heap.size) := Lib.hid hseq.lt
    clear hseq hb6 hR HE5 HS5 HR5 HW5 HOw HE3 HS3 HR3 HW3 HLf HRg
    obtain ⟨gf, pb, lb, hv6, en, hq1, hq2⟩ := SE6.out
    clear hq1 hq2
    subst hv6
    have EN := Lib.hid en
    clear en
    have hfn2 := fun (W : World) (gf : Nat) (pb cs : Array Value) => run_eql_func_nil (P := Try.prog) W 39 (.func gf) pb cs Try.underlying39
    go_wp2
    clear hfn2
    have HBW0 : Hid (Below w6.heap.size w6 w6) := Lib.hid (Below.refl _ _)
    have HMW0 : Hid (Marks w6.heap.size [] w6) := Lib.hid trivial
    have lw6 : xw < w6.heap.size := HW6.out.lt
    have le6 : xe < w6.heap.size := HE6.out.lt
    have ls6 : xs < w6.heap.size := HS6.out.lt
    refine wp_loop_rounds 3 ?_
    rw [rounds_succ]
    go_wp2
    obtain ⟨xk, hxk⟩ : ∃ xk, xk = w6.heap.size := ⟨_, rfl⟩
    obtain ⟨W1, hW1⟩ : ∃ W1, W1 = w6.alloc (.cells #[.int .i64 0] 3) := ⟨_, rfl⟩
    have hsW : w6.heap.size ≤ w6.heap.size := HBW0.out.size
    have hb1 : Below w6.heap.size w6 W1 := hW1 ▸ (Below.refl _ _).alloc (Nat.le_refl _) _
    have HKn1 : Hid (Blk W1 xk 3 #[.int .i64 0]) := Lib.hid (by rw [hW1, hxk]; exact Blk.new w6 _ _)
    have HBW1 := Lib.hid (HBW0.out.trans (hb1.mono hsW))
    have HM1 := Lib.hid (HMW0.out.below hb1)
    have SE1 := Lib.hid (SE6.out.stay (w := w6) (W := W1) ⟨HBW1.out.size, fun g hg => HBW1.out.block g (HRl.out g hg)⟩)
    have hx1 : w6.heap.size ≤ xk := by omega
    have hx2 : xk < W1.heap.size := HKn1.out.lt
    rw [← hW1, ← hxk]
    clear hW1 hxk hb1 hsW
    obtain ⟨S, hS⟩ : ∃ S : Nat → Prop, S = fun b => b = xk := ⟨_, rfl⟩
    have S1 : S xk := by rw [hS]
    have HSe : Hid (∀ b, S b → b = xk) := Lib.hid (fun b h => by rw [hS] at h; exact h)
    clear hS
    apply with_fun (α := Int × Mg → Nat → Act)
    intro F hF
    refine (wpIn_wide (n := 9)).1 ?_
    refine' range_boundWA (α := Int × Mg) (gf := gf) (pb := pb) (lb := lb) rfl EN.out (SE1.out.at_ _) (fun h k => StayH.trans h k) (stay_b SE1.out.lt) (fun _ => rfl) OkH.put
      (fun pre V => Blk V xk 3 #[.int .i64 (pre.length : Nat)] ∧ OnlyS S W1 V)
      (fun cc pre V => False)
      (Std.and (std_blk (x := xk) (by omega)) (std_onlyS W1 S))
      (fun cc => fun s A B hs ht => hs)
      ⟨HKn1.out, OnlyS.refl _ _⟩
      (fun p V => ∃ xm : Nat, W1.heap.size ≤ xm ∧ Blk V xk 3 #[.int .i64 (p.1.length : Nat)] ∧ OnlyS S W1 V ∧ Blk V xm 26 #[.int .i64 p.2.1.2.k, .int .i64 p.2.1.2.o, .int .i64 p.2.1.2.n, .int .i64 p.2.1.2.u, .int .i64 p.2.1.2.v] ∧ p.1 ++ [p.2.1] <+: l ∧ p.2.2 = F p.2.1 xm)
      ?iaK ?assign1 ?body1 ?done1 ?stop1
    case iaK =>
      rintro p A B row ⟨xm, h1, h2, h3, h4, h5⟩ hg hr
      exact ⟨xm, h1, blk_kept h2 hg (fun r e => (hr r e).2), (own_onlyS W1 S) p A B row h3 hg hr, blk_kept h4 hg (fun r e => (hr r e).2), h5⟩
    case assign1 =>
      rintro lp pre y V K ⟨hbn, hO⟩ ⟨B', hB', hok⟩ hK
      obtain ⟨xm, hxm⟩ : ∃ xm, xm = V.heap.size := ⟨_, rfl⟩
      obtain ⟨V2, hV2⟩ : ∃ v, v = V.alloc (.cells #[.int .i64 y.2.k, .int .i64 y.2.o, .int .i64 y.2.n, .int .i64 y.2.u, .int .i64 y.2.v] 26) := ⟨_, rfl⟩
      have hba : Below V.heap.size V V2 := hV2 ▸ (Below.refl _ _).alloc (Nat.le_refl _) _
      have hfin : KeepsAll W1.heap.size V V2 ∧ Stay R V V2 ∧ ∃ xm' : Nat, xm' = xm ∧ W1.heap.size ≤ xm' ∧ Blk V2 xk 3 #[.int .i64 (pre.length : Nat)] ∧ OnlyS S W1 V2 ∧ Blk V2 xm' 26 #[.int .i64 y.2.k, .int .i64 y.2.o, .int .i64 y.2.n, .int .i64 y.2.u, .int .i64 y.2.v] ∧ pre ++ [y] <+: l :=
        ⟨⟨hba.size, fun k _ hk => hba.block k hk⟩, ⟨hba.size, fun g hg => hba.block g (by have := HRl.out g hg; have := HBW1.out.size; have := hO.size; omega)⟩, xm, rfl, by have := hO.size; omega, hbn.below hba hbn.lt, hO.below hba, by rw [hV2, hxm]; exact Blk.new V _ _, hok⟩
      have HFin := Lib.hid hfin
      have HK := Lib.hid hK
      clear hfin hba hbn hO hok hK
      gi_wp2_with fail
      rw [← hV2, ← hxm]
      obtain ⟨f1, f2, xm', rfl, f3, f4, f5, f6, f7⟩ := HFin.out
      refine HK.out _ _ f1 f2 ⟨xm', f3, f4, f5, f6, f7, ?_⟩
      rw [hF]
    case stop1 =>
      rintro D cc pre V hD hpre hf hK
      exact hf.elim
    case body1 =>
      rintro lp pre ⟨sx, ⟨ak, ao, an, au, av⟩⟩ a' V hlp hrec ⟨xm, hxm1, hbn, hO, hmb, hok, ha'⟩
      obtain ⟨hlt, hgt⟩ := OkH.next (B := 0) (W := V) hok
      simp only at hbn hmb hok ha'
      rw [hF] at ha'
      simp only at ha'
      subst ha'
      have cm0 : V.cell? ⟨xm, 0, none⟩ = some (.int .i64 ak) := hmb.cell 0
      have cm1 : V.cell? ⟨xm, 1, none⟩ = some (.int .i64 ao) := hmb.cell 1
      have cm2 : V.cell? ⟨xm, 2, none⟩ = some (.int .i64 an) := hmb.cell 2
      have cm3 : V.cell? ⟨xm, 3, none⟩ = some (.int .i64 au) := hmb.cell 3
      have cm4 : V.cell? ⟨xm, 4, none⟩ = some (.int .i64 av) := hmb.cell 4
      obtain ⟨m, hm⟩ : ∃ m, m = pre.length := ⟨_, rfl⟩
      rw [← hm] at hbn hlt hgt
      obtain ⟨i, hi1, hi2, hi3⟩ := HGet.out m _ hgt
      simp only at hi1 hi2 hi3
      rw [HL.out] at hi2
      have HBV : Hid (Below w6.heap.size w6 V) := Lib.hid (OnlyS.bel HBW1.out hO (fun b hb => by have := HSe.out b hb; omega) HBW1.out.size)
      obtain ⟨gw, ow, hAw, hbw, hcw⟩ := ((ownN_reads HO6.out).below HBV.out).i64 (by have := HNw.out; omega)
      subst hAw
      have cw0 := hcw m (by have := HNw.out; omega)
      rw [List.getD_eq_getElem?_getD, List.getElem?_map, hgt] at cw0
      have cw1 : V.cell? ⟨gw, ow + m, none⟩ = some (.int .i64 sx) := cw0
      obtain ⟨go, oo, hAo, hbo, hco⟩ := (HRo6.out.below HBV.out).mgs_ (by omega)
      subst hAo
      obtain ⟨d0, d1, d2, d3, d4⟩ := hco i _ hi3
      simp only at d0 d1 d2 d3 d4
      have cn : V.cell? ⟨xk, 0, none⟩ = some (.int .i64 (m : Int)) := by rw [hbn.cell]; rfl
      have fn : V.frozen? ⟨xk, 0, none⟩ = false := hbn.frozen 0
      have ew : V.cell? ⟨xw, 0, none⟩ = some (.slice (some ⟨gw, ow, none⟩) nw cw) := (HW6.out.below HBV.out HW6.out.lt).cell 0
      have ee := HE6.out.below HBV.out HE6.out.lt
      have ee1 : V.cell? ⟨xe, 1, none⟩ = some (.int .i64 b) := ee.cell 1
      have ee2 : V.cell? ⟨xe, 2, none⟩ = some (.slice (some ⟨go, oo, none⟩) n c) := ee.cell 2
      obtain ⟨j1, hj1⟩ : ∃ j1 : Int, j1 = (i : Int) + 1 := ⟨_, rfl⟩
      have hw1 : IntKind.i64.wrap (sx - b) = j1 := by rw [IntWalk.i64_in _ (by omega)]; omega
      have hw2 : IntKind.i64.wrap (j1 - 1) = (i : Int) := by rw [IntWalk.i64_in _ (by omega)]; omega
      have hwi1 : (0 : Int) ≤ (i : Int) := by omega
      have hwi2 : (i : Int) < (n : Int) := by omega
      have hmw1 : (0 : Int) ≤ (m : Int) := by omega
      have hmw2 : (m : Int) < (nw : Int) := by have := HNw.out; omega
      have tn : decide (nw ≤ m) = false := by simp; omega
      have tq : (sx != sx) = false := by simp
      have ke : ∀ W : World, (Op.equalIn 10000 26 (.agg #[.int .i64 ak, .int .i64 ao, .int .i64 an, .int .i64 au, .int .i64 av]) (.agg #[.int .i64 ak, .int .i64 ao, .int .i64 an, .int .i64 au, .int .i64 av])).run Try.prog W = .ok true W := fun W => by rw [eq_msg]; simp
      have HBn := Lib.hid hbn
      have HOs := Lib.hid hO
      have HQq := Lib.hid hm
      have HRx : Hid (¬ R xk) := Lib.hid (fun h => by have := HRl.out _ h; omega)
      clear hbn hO hm hok hgt hi1 hi3 hj1 hcw hco cw0 ee hbw hbo hmb
      gi_wp2_with fail
      refine region_quiet_round (F := Fence.wide) rfl (by kernel_rfl) (by kernel_rfl) (by kernel_rfl) ?_
      repeat (gi_big_quiet_step (fail))
      refine wpQuietIn_nil ?_
      rintro _ ⟨z, rfl⟩
      have cn1 : (V.drewN z).cell? ⟨xk, 0, none⟩ = some (.int .i64 (m : Int)) := cn
      have fn1 : (V.drewN z).frozen? ⟨xk, 0, none⟩ = false := fn
      gi_wp2
      refine ⟨((KeepsAll.refl _ V).drewN z).trans (KeepsAll.setCell _ hx2 _), StayH.trans (StayH.refl _ _) (stay_setAt HRx.out), ?_, (HOs.out.drewN z).set S1 _⟩
      have := blk_put (HBn.out.drewN z) (.int .i64 ((m : Int) + 1))
      rw [List.length_append, ← HQq.out]; exact this
    case done1 =>
      rintro D1 ys V1 hD hys ⟨hbn, hO⟩ hK
      have hyl : ys.length = nw := by rw [hys]; exact HNw.out
      rw [hyl] at hbn
      have hbV := OnlyS.bel HBW1.out hO (fun b hb => by have := HSe.out b hb; omega) HBW1.out.size
      have hmk := OnlyS.marks HM1.out hO (fun b hb => by rw [HSe.out b hb]; exact ⟨_, _, HKn1.out⟩)
      have HMV1 := Lib.hid (hmk.cons (fun d hd k e => by have := HM1.out.lt d hd k e; omega) (by omega) hK)
      have cn : V1.cell? ⟨xk, 0, none⟩ = some (.int .i64 (nw : Int)) := by rw [hbn.cell]; rfl
      have ew : V1.cell? ⟨xw, 0, none⟩ = some (.slice Aw nw cw) := (HW6.out.below hbV HW6.out.lt).cell 0
      have HBV1 := Lib.hid hbV
      clear hbn hO hK hmk hbV hys hyl
      go_wp2
      obtain ⟨X1, hX1⟩ : ∃ v, v = V1 := ⟨_, rfl⟩
      have HBX1 : Hid (Below w6.heap.size w6 X1) := Lib.hid (by rw [hX1]; exact HBV1.out)
      have HMX1 : Hid (Marks w6.heap.size _ X1) := Lib.hid (by rw [hX1]; exact HMV1.out)
      rw [← hX1]
      clear hX1
      clear cn ew hF F HKn1 HBW1 HM1 SE1 hx1 hx2 S1 HSe
      rw [rounds_succ]
      go_wp2
      obtain ⟨xk, hxk⟩ : ∃ xk, xk = X1.heap.size := ⟨_, rfl⟩
      obtain ⟨W1, hW1⟩ : ∃ W1, W1 = X1.alloc (.cells #[.int .i64 0] 3) := ⟨_, rfl⟩
      have hsW : w6.heap.size ≤ X1.heap.size := HBX1.out.size
      have hb1 : Below X1.heap.size X1 W1 := hW1 ▸ (Below.refl _ _).alloc (Nat.le_refl _) _
      have HKn1 : Hid (Blk W1 xk 3 #[.int .i64 0]) := Lib.hid (by rw [hW1, hxk]; exact Blk.new X1 _ _)
      have HBW1 := Lib.hid (HBX1.out.trans (hb1.mono hsW))
      have HM1 := Lib.hid (HMX1.out.below hb1)
      have SE1 := Lib.hid (SE6.out.stay (w := w6) (W := W1) ⟨HBW1.out.size, fun g hg => HBW1.out.block g (HRl.out g hg)⟩)
      have hx1 : w6.heap.size ≤ xk := by omega
      have hx2 : xk < W1.heap.size := HKn1.out.lt
      rw [← hW1, ← hxk]
      clear hW1 hxk hb1 hsW
      obtain ⟨S, hS⟩ : ∃ S : Nat → Prop, S = fun b => b = xk := ⟨_, rfl⟩
      have S1 : S xk := by rw [hS]
      have HSe : Hid (∀ b, S b → b = xk) := Lib.hid (fun b h => by rw [hS] at h; exact h)
      clear hS
      apply with_fun (α := Int × Mg → Nat → Act)
      intro F hF
      refine (wpIn_wide (n := 9)).1 ?_
      refine' range_boundWA (α := Int × Mg) (gf := gf) (pb := pb) (lb := lb) rfl EN.out (SE1.out.at_ _) (fun h k => StayH.trans h k) (stay_b SE1.out.lt) (fun _ => rfl) OkH.put
        (fun pre V => Blk V xk 3 #[.int .i64 (pre.length : Nat)] ∧ OnlyS S W1 V)
        (fun cc pre V => False)
        (Std.and (std_blk (x := xk) (by omega)) (std_onlyS W1 S))
        (fun cc => fun s A B hs ht => hs)
        ⟨HKn1.out, OnlyS.refl _ _⟩
        (fun p V => ∃ xm : Nat, W1.heap.size ≤ xm ∧ Blk V xk 3 #[.int .i64 (p.1.length : Nat)] ∧ OnlyS S W1 V ∧ Blk V xm 26 #[.int .i64 p.2.1.2.k, .int .i64 p.2.1.2.o, .int .i64 p.2.1.2.n, .int .i64 p.2.1.2.u, .int .i64 p.2.1.2.v] ∧ p.1 ++ [p.2.1] <+: l ∧ p.2.2 = F p.2.1 xm)
        ?iaK ?assign2 ?body2 ?done2 ?stop2
      case iaK =>
        rintro p A B row ⟨xm, h1, h2, h3, h4, h5⟩ hg hr
        exact ⟨xm, h1, blk_kept h2 hg (fun r e => (hr r e).2), (own_onlyS W1 S) p A B row h3 hg hr, blk_kept h4 hg (fun r e => (hr r e).2), h5⟩
      case assign2 =>
        rintro lp pre y V K ⟨hbn, hO⟩ ⟨B', hB', hok⟩ hK
        obtain ⟨xm, hxm⟩ : ∃ xm, xm = V.heap.size := ⟨_, rfl⟩
        obtain ⟨V2, hV2⟩ : ∃ v, v = V.alloc (.cells #[.int .i64 y.2.k, .int .i64 y.2.o, .int .i64 y.2.n, .int .i64 y.2.u, .int .i64 y.2.v] 26) := ⟨_, rfl⟩
        have hba : Below V.heap.size V V2 := hV2 ▸ (Below.refl _ _).alloc (Nat.le_refl _) _
        have hfin : KeepsAll W1.heap.size V V2 ∧ Stay R V V2 ∧ ∃ xm' : Nat, xm' = xm ∧ W1.heap.size ≤ xm' ∧ Blk V2 xk 3 #[.int .i64 (pre.length : Nat)] ∧ OnlyS S W1 V2 ∧ Blk V2 xm' 26 #[.int .i64 y.2.k, .int .i64 y.2.o, .int .i64 y.2.n, .int .i64 y.2.u, .int .i64 y.2.v] ∧ pre ++ [y] <+: l :=
          ⟨⟨hba.size, fun k _ hk => hba.block k hk⟩, ⟨hba.size, fun g hg => hba.block g (by have := HRl.out g hg; have := HBW1.out.size; have := hO.size; omega)⟩, xm, rfl, by have := hO.size; omega, hbn.below hba hbn.lt, hO.below hba, by rw [hV2, hxm]; exact Blk.new V _ _, hok⟩
        have HFin := Lib.hid hfin
        have HK := Lib.hid hK
        clear hfin hba hbn hO hok hK
        gi_wp2_with fail
        rw [← hV2, ← hxm]
        obtain ⟨f1, f2, xm', rfl, f3, f4, f5, f6, f7⟩ := HFin.out
        refine HK.out _ _ f1 f2 ⟨xm', f3, f4, f5, f6, f7, ?_⟩
        rw [hF]
      case stop2 =>
        rintro D cc pre V hD hpre hf hK
        exact hf.elim
      case body2 =>
        rintro lp pre ⟨sx, ⟨ak, ao, an, au, av⟩⟩ a' V hlp hrec ⟨xm, hxm1, hbn, hO, hmb, hok, ha'⟩
        obtain ⟨hlt, hgt⟩ := OkH.next (B := 0) (W := V) hok
        simp only at hbn hmb hok ha'
        rw [hF] at ha'
        simp only at ha'
        subst ha'
        have cm0 : V.cell? ⟨xm, 0, none⟩ = some (.int .i64 ak) := hmb.cell 0
        have cm1 : V.cell? ⟨xm, 1, none⟩ = some (.int .i64 ao) := hmb.cell 1
        have cm2 : V.cell? ⟨xm, 2, none⟩ = some (.int .i64 an) := hmb.cell 2
        have cm3 : V.cell? ⟨xm, 3, none⟩ = some (.int .i64 au) := hmb.cell 3
        have cm4 : V.cell? ⟨xm, 4, none⟩ = some (.int .i64 av) := hmb.cell 4
        obtain ⟨m, hm⟩ : ∃ m, m = pre.length := ⟨_, rfl⟩
        rw [← hm] at hbn hlt hgt
        obtain ⟨i, hi1, hi2, hi3⟩ := HGet.out m _ hgt
        simp only at hi1 hi2 hi3
        rw [HL.out] at hi2
        have HBV : Hid (Below w6.heap.size w6 V) := Lib.hid (OnlyS.bel HBW1.out hO (fun b hb => by have := HSe.out b hb; omega) HBW1.out.size)
        obtain ⟨gw, ow, hAw, hbw, hcw⟩ := ((ownN_reads HO6.out).below HBV.out).i64 (by have := HNw.out; omega)
        subst hAw
        have cw0 := hcw m (by have := HNw.out; omega)
        rw [List.getD_eq_getElem?_getD, List.getElem?_map, hgt] at cw0
        have cw1 : V.cell? ⟨gw, ow + m, none⟩ = some (.int .i64 sx) := cw0
        obtain ⟨go, oo, hAo, hbo, hco⟩ := (HRo6.out.below HBV.out).mgs_ (by omega)
        subst hAo
        obtain ⟨d0, d1, d2, d3, d4⟩ := hco i _ hi3
        simp only at d0 d1 d2 d3 d4
        have cn : V.cell? ⟨xk, 0, none⟩ = some (.int .i64 (m : Int)) := by rw [hbn.cell]; rfl
        have fn : V.frozen? ⟨xk, 0, none⟩ = false := hbn.frozen 0
        have ew : V.cell? ⟨xw, 0, none⟩ = some (.slice (some ⟨gw, ow, none⟩) nw cw) := (HW6.out.below HBV.out HW6.out.lt).cell 0
        have ee := HE6.out.below HBV.out HE6.out.lt
        have ee1 : V.cell? ⟨xe, 1, none⟩ = some (.int .i64 b) := ee.cell 1
        have ee2 : V.cell? ⟨xe, 2, none⟩ = some (.slice (some ⟨go, oo, none⟩) n c) := ee.cell 2
        obtain ⟨j1, hj1⟩ : ∃ j1 : Int, j1 = (i : Int) + 1 := ⟨_, rfl⟩
        have hw1 : IntKind.i64.wrap (sx - b) = j1 := by rw [IntWalk.i64_in _ (by omega)]; omega
        have hw2 : IntKind.i64.wrap (j1 - 1) = (i : Int) := by rw [IntWalk.i64_in _ (by omega)]; omega
        have hwi1 : (0 : Int) ≤ (i : Int) := by omega
        have hwi2 : (i : Int) < (n : Int) := by omega
        have hmw1 : (0 : Int) ≤ (m : Int) := by omega
        have hmw2 : (m : Int) < (nw : Int) := by have := HNw.out; omega
        have tn : decide (nw ≤ m) = false := by simp; omega
        have tq : (sx != sx) = false := by simp
        have ke : ∀ W : World, (Op.equalIn 10000 26 (.agg #[.int .i64 ak, .int .i64 ao, .int .i64 an, .int .i64 au, .int .i64 av]) (.agg #[.int .i64 ak, .int .i64 ao, .int .i64 an, .int .i64 au, .int .i64 av])).run Try.prog W = .ok true W := fun W => by rw [eq_msg]; simp
        have HBn := Lib.hid hbn
        have HOs := Lib.hid hO
        have HQq := Lib.hid hm
        have HRx : Hid (¬ R xk) := Lib.hid (fun h => by have := HRl.out _ h; omega)
        clear hbn hO hm hok hgt hi1 hi3 hj1 hcw hco cw0 ee hbw hbo hmb
        gi_wp2_with fail
        refine region_quiet_round (F := Fence.wide) rfl (by kernel_rfl) (by kernel_rfl) (by kernel_rfl) ?_
        repeat (gi_big_quiet_step (fail))
        refine wpQuietIn_nil ?_
        rintro _ ⟨z, rfl⟩
        have cn1 : (V.drewN z).cell? ⟨xk, 0, none⟩ = some (.int .i64 (m : Int)) := cn
        have fn1 : (V.drewN z).frozen? ⟨xk, 0, none⟩ = false := fn
        gi_wp2
        refine ⟨((KeepsAll.refl _ V).drewN z).trans (KeepsAll.setCell _ hx2 _), StayH.trans (StayH.refl _ _) (stay_setAt HRx.out), ?_, (HOs.out.drewN z).set S1 _⟩
        have := blk_put (HBn.out.drewN z) (.int .i64 ((m : Int) + 1))
        rw [List.length_append, ← HQq.out]; exact this
      case done2 =>
        rintro D1 ys V1 hD hys ⟨hbn, hO⟩ hK
        have hyl : ys.length = nw := by rw [hys]; exact HNw.out
        rw [hyl] at hbn
        have hbV := OnlyS.bel HBW1.out hO (fun b hb => by have := HSe.out b hb; omega) HBW1.out.size
        have hmk := OnlyS.marks HM1.out hO (fun b hb => by rw [HSe.out b hb]; exact ⟨_, _, HKn1.out⟩)
        have HMV1 := Lib.hid (hmk.cons (fun d hd k e => by have := HM1.out.lt d hd k e; omega) (by omega) hK)
        have cn : V1.cell? ⟨xk, 0, none⟩ = some (.int .i64 (nw : Int)) := by rw [hbn.cell]; rfl
        have ew : V1.cell? ⟨xw, 0, none⟩ = some (.slice Aw nw cw) := (HW6.out.below hbV HW6.out.lt).cell 0
        have HBV1 := Lib.hid hbV
        clear hbn hO hK hmk hbV hys hyl
        go_wp2
        obtain ⟨X2, hX2⟩ : ∃ v, v = V1 := ⟨_, rfl⟩
        have HBX2 : Hid (Below w6.heap.size w6 X2) := Lib.hid (by rw [hX2]; exact HBV1.out)
        have HMX2 : Hid (Marks w6.heap.size _ X2) := Lib.hid (by rw [hX2]; exact HMV1.out)
        rw [← hX2]
        clear hX2
        clear cn ew hF F HKn1 HBW1 HM1 SE1 hx1 hx2 S1 HSe
        rw [rounds_succ]
        go_wp2_with fail
        obtain ⟨xn, hxn⟩ : ∃ xn, xn = X2.heap.size := ⟨_, rfl⟩
        obtain ⟨W1, hW1⟩ : ∃ W1, W1 = X2.alloc (.cells #[.int .i64 0] 3) := ⟨_, rfl⟩
        have hsW : w6.heap.size ≤ X2.heap.size := HBX2.out.size
        have hb1 : Below X2.heap.size X2 W1 := hW1 ▸ (Below.refl _ _).alloc (Nat.le_refl _) _
        have HKn1 : Hid (Blk W1 xn 3 #[.int .i64 0]) := Lib.hid (by rw [hW1, hxn]; exact Blk.new X2 _ _)
        have HBW1 := Lib.hid (HBX2.out.trans (hb1.mono hsW))
        have HM1 := Lib.hid (HMX2.out.below hb1)
        have SE1 := Lib.hid (SE6.out.stay (w := w6) (W := W1) ⟨HBW1.out.size, fun g hg => HBW1.out.block g (HRl.out g hg)⟩)
        have hx1 : w6.heap.size ≤ xn := by omega
        have hx2 : xn < W1.heap.size := HKn1.out.lt
        rw [← hW1, ← hxn]
        clear hW1 hxn hb1 hsW
        obtain ⟨S, hS⟩ : ∃ S : Nat → Prop, S = fun b => b = xn := ⟨_, rfl⟩
        have S1 : S xn := by rw [hS]
        have HSe : Hid (∀ b, S b → b = xn) := Lib.hid (fun b h => by rw [hS] at h; exact h)
        clear hS
        refine (wpIn_wide (n := 9)).1 ?_
        refine' range_boundWS (α := Int × Mg) (gf := gf) (pb := pb) (lb := lb) rfl EN.out (SE1.out.at_ _) (fun h k => StayH.trans h k) (stay_b SE1.out.lt) (fun _ => rfl) OkH.put
          (fun pre V => Blk V xn 3 #[.int .i64 (pre.length : Nat)] ∧ OnlyS S W1 V ∧ (pre.length = 0 ∨ (pre.length : Int) < u))
          (fun cc pre V => cc = .exit 6 ∧ Blk V xn 3 #[.int .i64 (pre.length : Nat)] ∧ OnlyS S W1 V ∧ 0 < pre.length ∧ u ≤ (pre.length : Int) ∧ (u < 1 ∨ (pre.length : Int) = u))
          (fun s A B hs ht => ⟨Blk.std hs.1 ht (by omega), std_onlyS (β := List (Int × Mg)) W1 S s A B hs.2.1 ht, hs.2.2⟩)
          (fun cc => fun s A B hs ht => ⟨hs.1, Blk.std hs.2.1 ht (by omega), std_onlyS (β := List (Int × Mg)) W1 S s A B hs.2.2.1 ht, hs.2.2.2⟩)
          ⟨HKn1.out, OnlyS.refl _ _, .inl rfl⟩
          _ ?assign3 ?body3 ?done3 ?stop3
        case assign3 =>
          intro lp y V K hK
          gi_wp2
          exact hK
        case body3 =>
          rintro lp pre y V hlp hrec ⟨hbn, hO, hpz⟩ ⟨B', hB', hok⟩
          obtain ⟨hlt, hgt⟩ := OkH.next (B := 0) (W := V) hok
          obtain ⟨k, hk⟩ : ∃ k, k = pre.length := ⟨_, rfl⟩
          rw [← hk] at hbn hlt hpz
          have hkn : k < nw := by have := HNw.out; omega
          have HBV := Lib.hid (OnlyS.bel HBW1.out hO (fun b hb => by have := HSe.out b hb; omega) HBW1.out.size)
          have HQq := Lib.hid hk
          have cn : V.cell? ⟨xn, 0, none⟩ = some (.int .i64 (k : Int)) := by rw [hbn.cell]; rfl
          have fn : V.frozen? ⟨xn, 0, none⟩ = false := hbn.frozen 0
          have cs : V.cell? ⟨xs, 0, none⟩ = some (.int .i64 u) := (HS6.out.below HBV.out HS6.out.lt).cell 0
          have HBn := Lib.hid hbn
          have HOs := Lib.hid hO
          have HPz := Lib.hid hpz
          have HRx : Hid (¬ R xn) := Lib.hid (fun h => by have := HRl.out _ h; omega)
          have hne : xs ≠ xn := by omega
          clear hbn hO hk hok hgt hlt hpz
          by_cases hst : u ≤ (k : Int) + 1
          · gi_wp2
            refine ⟨KeepsAll.setCell _ hx2 _, rfl, ?_, HOs.out.set S1 _, by simp, by rw [List.length_append, ← HQq.out]; simpa using hst, ?_⟩
            · have := blk_put HBn.out (.int .i64 ((k : Int) + 1))
              rw [List.length_append, ← HQq.out]; exact this
            · rw [List.length_append, ← HQq.out]
              rcases HPz.out with h | h
              · subst h; simp; omega
              · right; simp; omega
          · have hst' : (k : Int) + 1 < u := by omega
            clear hst
            gi_wp2
            refine ⟨KeepsAll.setCell _ hx2 _, stay_setAt HRx.out, ?_, HOs.out.set S1 _, .inr (by rw [List.length_append, ← HQq.out]; simpa using hst')⟩
            have := blk_put HBn.out (.int .i64 ((k : Int) + 1))
            rw [List.length_append, ← HQq.out]; exact this
        case done3 =>
          rintro D ys V hD hys ⟨hbn, hO, hpz⟩ hK
          obtain ⟨k, hk⟩ : ∃ k, k = ys.length := ⟨_, rfl⟩
          have hke : k = nw := by rw [hk, hys]; exact HNw.out
          rw [← hk] at hbn hpz
          clear hk hys
          have hqn : (k : Int) ≤ (nw : Int) := by omega
          have HBV := Lib.hid (OnlyS.bel HBW1.out hO (fun b hb => by have := HSe.out b hb; omega) HBW1.out.size)
          have hmk := OnlyS.marks HM1.out hO (fun b hb => by rw [HSe.out b hb]; exact ⟨_, _, HKn1.out⟩)
          have HMk := Lib.hid (hmk.cons (fun d hd k e => by have := HM1.out.lt d hd k e; omega) (by omega) hK)
          have HR7 := Lib.hid (HR6.out.below HBV.out HR6.out.lt)
          have cn : V.cell? ⟨xn, 0, none⟩ = some (.int .i64 (k : Int)) := by rw [hbn.cell]; rfl
          have cr : V.cell? ⟨xr, 0, none⟩ = some (.bool false) := HR7.out.cell 0
          have fr : V.frozen? ⟨xr, 0, none⟩ = false := HR7.out.frozen 0
          have cs : V.cell? ⟨xs, 0, none⟩ = some (.int .i64 u) := (HS6.out.below HBV.out HS6.out.lt).cell 0
          have cw : V.cell? ⟨xw, 0, none⟩ = some (.slice Aw nw cw) := (HW6.out.below HBV.out HW6.out.lt).cell 0
          have hxx := HX.out
          have hlr : xr < w6.heap.size := HR6.out.lt
          have HBw := Lib.hid (HB6.out.trans (HBV.out.mono HB6.out.size))
          clear hO hmk hK hbn
          rcases Int.lt_or_le u 1 with hz1 | hz1
          · go_wp2
            have k9 : OnlyS (fun b => b = xr) V (V.setCell ⟨xr, 0, none⟩ (.bool true)) := OnlyS.set (S := fun b => b = xr) (OnlyS.refl (fun b => b = xr) V) (x := xr) rfl (.bool true)
            have hk9 := blk_put HR7.out (.bool true)
            have hB10 := OnlyS.bel HBw.out k9 (fun b hb => by omega) HBw.out.size
            refine Marks.leave (B := w6.heap.size) _ _ (OnlyS.marks HMk.out k9 (fun b hb => ⟨_, _, (show Blk V b 4 #[.bool false] by rw [hb]; exact HR7.out)⟩)) (fun W' hb => ?_)
            have c5 : W'.cell? ⟨xr, 0, none⟩ = some (.bool true) := by rw [hb.cell (p := ⟨xr, 0, none⟩) (show xr < w6.heap.size by omega), hk9.cell]; rfl
            refine ⟨.bool true, by simp [results, Try.f5, go_sem, c5], rfl, ?_⟩
            exact hB10.trans (hb.mono HB6.out.size)
          · have hmin : (k : Int) = min u (nw : Int) := by omega
            have km := run_min2 Try.prog #[3, 3] 3 u (nw : Int) (k : Int) hmin
            clear hmin
            go_wp2
            have k9 : OnlyS (fun b => b = xr) V (V.setCell ⟨xr, 0, none⟩ (.bool true)) := OnlyS.set (S := fun b => b = xr) (OnlyS.refl (fun b => b = xr) V) (x := xr) rfl (.bool true)
            have hk9 := blk_put HR7.out (.bool true)
            have hB10 := OnlyS.bel HBw.out k9 (fun b hb => by omega) HBw.out.size
            refine Marks.leave (B := w6.heap.size) _ _ (OnlyS.marks HMk.out k9 (fun b hb => ⟨_, _, (show Blk V b 4 #[.bool false] by rw [hb]; exact HR7.out)⟩)) (fun W' hb => ?_)
            have c5 : W'.cell? ⟨xr, 0, none⟩ = some (.bool true) := by rw [hb.cell (p := ⟨xr, 0, none⟩) (show xr < w6.heap.size by omega), hk9.cell]; rfl
            refine ⟨.bool true, by simp [results, Try.f5, go_sem, c5], rfl, ?_⟩
            exact hB10.trans (hb.mono HB6.out.size)
        case stop3 =>
          rintro D cc pre V hD hpre ⟨rfl, hbn, hO, hp0, hp1, hp2⟩ hK
          obtain ⟨k, hk⟩ : ∃ k, k = pre.length := ⟨_, rfl⟩
          have hkl : k ≤ nw := by rw [hk, ← HNw.out]; exact List.IsPrefix.length_le hpre
          rw [← hk] at hbn hp0 hp1 hp2
          clear hk hpre
          have hqn : (k : Int) ≤ (nw : Int) := by omega
          have HBV := Lib.hid (OnlyS.bel HBW1.out hO (fun b hb => by have := HSe.out b hb; omega) HBW1.out.size)
          have hmk := OnlyS.marks HM1.out hO (fun b hb => by rw [HSe.out b hb]; exact ⟨_, _, HKn1.out⟩)
          have HMk := Lib.hid (hmk.cons (fun d hd k e => by have := HM1.out.lt d hd k e; omega) (by omega) hK)
          have HR7 := Lib.hid (HR6.out.below HBV.out HR6.out.lt)
          have cn : V.cell? ⟨xn, 0, none⟩ = some (.int .i64 (k : Int)) := by rw [hbn.cell]; rfl
          have cr : V.cell? ⟨xr, 0, none⟩ = some (.bool false) := HR7.out.cell 0
          have fr : V.frozen? ⟨xr, 0, none⟩ = false := HR7.out.frozen 0
          have cs : V.cell? ⟨xs, 0, none⟩ = some (.int .i64 u) := (HS6.out.below HBV.out HS6.out.lt).cell 0
          have cw : V.cell? ⟨xw, 0, none⟩ = some (.slice Aw nw cw) := (HW6.out.below HBV.out HW6.out.lt).cell 0
          have hxx := HX.out
          have hlr : xr < w6.heap.size := HR6.out.lt
          have HBw := Lib.hid (HB6.out.trans (HBV.out.mono HB6.out.size))
          clear hO hmk hK hbn
          rcases Int.lt_or_le u 1 with hz1 | hz1
          · refine wpIn_wide.2 ?_
            go_wp2
            have k9 : OnlyS (fun b => b = xr) V (V.setCell ⟨xr, 0, none⟩ (.bool true)) := OnlyS.set (S := fun b => b = xr) (OnlyS.refl (fun b => b = xr) V) (x := xr) rfl (.bool true)
            have hk9 := blk_put HR7.out (.bool true)
            have hB10 := OnlyS.bel HBw.out k9 (fun b hb => by omega) HBw.out.size
            refine Marks.leave (B := w6.heap.size) _ _ (OnlyS.marks HMk.out k9 (fun b hb => ⟨_, _, (show Blk V b 4 #[.bool false] by rw [hb]; exact HR7.out)⟩)) (fun W' hb => ?_)
            have c5 : W'.cell? ⟨xr, 0, none⟩ = some (.bool true) := by rw [hb.cell (p := ⟨xr, 0, none⟩) (show xr < w6.heap.size by omega), hk9.cell]; rfl
            refine ⟨.bool true, by simp [results, Try.f5, go_sem, c5], rfl, ?_⟩
            exact hB10.trans (hb.mono HB6.out.size)
          · have hmin : (k : Int) = min u (nw : Int) := by omega
            have km := run_min2 Try.prog #[3, 3] 3 u (nw : Int) (k : Int) hmin
            clear hmin
            refine wpIn_wide.2 ?_
            go_wp2
            have k9 : OnlyS (fun b => b = xr) V (V.setCell ⟨xr, 0, none⟩ (.bool true)) := OnlyS.set (S := fun b => b = xr) (OnlyS.refl (fun b => b = xr) V) (x := xr) rfl (.bool true)
            have hk9 := blk_put HR7.out (.bool true)
            have hB10 := OnlyS.bel HBw.out k9 (fun b hb => by omega) HBw.out.size
            refine Marks.leave (B := w6.heap.size) _ _ (OnlyS.marks HMk.out k9 (fun b hb => ⟨_, _, (show Blk V b 4 #[.bool false] by rw [hb]; exact HR7.out)⟩)) (fun W' hb => ?_)
            have c5 : W'.cell? ⟨xr, 0, none⟩ = some (.bool true) := by rw [hb.cell (p := ⟨xr, 0, none⟩) (show xr < w6.heap.size by omega), hk9.cell]; rfl
            refine ⟨.bool true, by simp [results, Try.f5, go_sem, c5], rfl, ?_⟩
            exact hB10.trans (hb.mono HB6.out.size)
  case pos =>
  rw [decide_eq_true hbe]
  have HBe := Lib.hid hbe
  clear hbe HLn
  have g0 : 0 ≤ b ∧ n ≤ 1024 ∧ b + (n : Int) ≤ 1099511627776 := by
    obtain ⟨h1, h2, h3, h4, h5, h6, h7, h8⟩ := HBe.out
    simp only at h3 h6 h7
    have := HL.out
    rw [this] at h6 h7
    exact ⟨h3, h6, h7⟩
  obtain ⟨g0, g1, g2⟩ := g0
  obtain ⟨d, hd⟩ : ∃ d, d = (q - b).toNat := ⟨_, rfl⟩
  have k3 := HE3.out
  have e0_ : w3.cell? ⟨xe, 0, none⟩ = some (.int .i64 p) := k3.cell 0
  have e1_ : w3.cell? ⟨xe, 1, none⟩ = some (.int .i64 b) := k3.cell 1
  have e2_ : w3.cell? ⟨xe, 2, none⟩ = some (.slice A n c) := k3.cell 2
  have e3_ : w3.cell? ⟨xe, 3, none⟩ = some (.int .i64 s) := k3.cell 3
  clear k3
  go_wp2
  clear e0_ e1_ e2_ e3_
  go_loopw [8, 22] (fun _ j wr => ∃ (k nw cw : Nat) (Aw : Option Addr), j = .int .i64 k ∧ k ≤ n ∧ Blk wr xw 37 #[.slice Aw nw cw] ∧ OwnN wr w3.heap.size (.slice Aw nw cw) (wl b d k) ∧ OnlyS (fun x => x = xw) w3 wr) (fun _ j _ => n - (intOf j).toNat)
  case atStart => exact ⟨0, 0, 0, none, rfl, by omega, HW3.out, by simp [wl]; exact OwnN.none_ _ _, OnlyS.refl _ _⟩
  case round =>
    obtain ⟨k, nw, cw, Aw, rfl, hk, hw, ho, hO⟩ := hrel
    obtain ⟨w4, rfl⟩ : ∃ v : World, v = wr := ⟨_, rfl⟩
    have HW4 := Lib.hid hw
    have HO4 := Lib.hid ho
    have HOs := Lib.hid hO
    have HNe : Hid (xe ≠ xw ∧ xs ≠ xw ∧ xr ≠ xw) := Lib.hid (by have := HX.out; have := HXw.out; omega)
    have k4 := hO.blk HE3.out HNe.out.1
    have lx : xw < w4.heap.size := hw.lt
    have ls : w3.heap.size ≤ w4.heap.size := hO.size
    clear hw ho hO
    have e0_ : w4.cell? ⟨xe, 0, none⟩ = some (.int .i64 p) := k4.cell 0
    have e1_ : w4.cell? ⟨xe, 1, none⟩ = some (.int .i64 b) := k4.cell 1
    have e2_ : w4.cell? ⟨xe, 2, none⟩ = some (.slice A n c) := k4.cell 2
    have e3_ : w4.cell? ⟨xe, 3, none⟩ = some (.int .i64 s) := k4.cell 3
    have ew : w4.cell? ⟨xw, 0, none⟩ = some (.slice Aw nw cw) := HW4.out.cell 0
    have fw : w4.frozen? ⟨xw, 0, none⟩ = false := HW4.out.frozen 0
    clear k4
    by_cases hlt : k < n
    · by_cases hdk : d ≤ k
      · have t1 : decide (q < b + 1 + (k : Int)) = true := by simp; omega
        have t2 : q < b + 1 + (k : Int) := by omega
        have HLw := Lib.hid (ownN_len HO4.out)
        have hlw : (wl b d k).length ≤ 1024 := by rw [wl_len]; omega
        go_wp2_with (at_builtin; refine appN w4 (b + 1 + (k : Int)) 3 rfl (.tmp 32) (.tmp 38) rfl w3.heap.size (.slice Aw nw cw) (wl b d k) rfl HO4.out _ rfl rfl (by omega) ls ?_; intro v5 w5 hown5 hb5 hg5; obtain ⟨A5, n5, c5, rfl⟩ := ownN_slice hown5; have ha5 : Below w4.heap.size w4 (w4.alloc (.cells #[.int .i64 (b + 1 + (k : Int))] 3)) := (Below.refl _ _).alloc (Nat.le_refl _) _; have kw5 := (HW4.out.alloc (.cells #[.int .i64 (b + 1 + (k : Int))] 3)).grown hg5 (fun e => ownN_ne HO4.out HW4.out e.symm); have HO5 := Lib.hid hown5; have HG5 := Lib.hid hg5; have HKw := Lib.hid kw5; have ew5 : w5.cell? ⟨xw, 0, none⟩ = some (.slice Aw nw cw) := kw5.cell 0; have fw5 : w5.frozen? ⟨xw, 0, none⟩ = false := kw5.frozen 0; clear hown5 hb5 hg5 kw5 ha5)
        go_roundw
        case rel =>
          refine ⟨k + 1, n5, c5, A5, by go_num, by omega, blk_put HKw.out _, ?_, ?_⟩
          · rw [wl_more hdk]
            exact HO5.out.setBox (fun e => ownN_ne HO5.out HKw.out e) _
          · refine OnlyS.set (S := fun x => x = xw) ?_ rfl _
            have h1 : OnlyS (fun x => x = xw) w3 (w4.alloc (.cells #[.int .i64 (b + 1 + (k : Int))] 3)) := HOs.out.below ((Below.refl _ _).alloc (Nat.le_refl _) _)
            exact onlyS_grown h1 HG5.out (fun g e => ownN_base HO4.out g e)
        case measure => simp [intOf]; omega
      · have t1 : decide (q < b + 1 + (k : Int)) = false := by simp; omega
        have t2 : ¬ (q < b + 1 + (k : Int)) := by omega
        go_wp2
        go_roundw
        case rel => exact ⟨k + 1, nw, cw, Aw, by go_num, by omega, HW4.out, by rw [wl_less (by omega)]; exact HO4.out, HOs.out⟩
        case measure => simp [intOf]; omega
    · obtain rfl : n = k := by omega
      have HOw : Hid (OwnN w4 w3.heap.size (.slice Aw nw cw) (l.map (·.1))) := Lib.hid (by have h1 := HWl.out HBe.out; rw [HL.out, ← hd] at h1; rw [← h1]; exact HO4.out)
      obtain ⟨w5, h5⟩ : ∃ v, v = w4 := ⟨_, rfl⟩
      rw [← h5] at HOw HW4 HOs
      have HW5 := HW4
      have HB5 : Hid (Below w.heap.size w w5) := Lib.hid (OnlyS.bel HB3.out HOs.out (fun x e => by have := HX.out; have := HXw.out; omega) HB3.out.size)
      have HE5 := Lib.hid (HOs.out.blk HE3.out HNe.out.1)
      have HS5 := Lib.hid (HOs.out.blk HS3.out HNe.out.2.1)
      have HR5 := Lib.hid (HOs.out.blk HR3.out HNe.out.2.2)
      rw [← h5]
      clear h5 HW4 HO4 HOs HWl HBe e0_ e1_ e2_ e3_ ew fw lx ls hlt hk g0 g1 g2 hd
      have k5 := HE5.out
      have e0_ : w5.cell? ⟨xe, 0, none⟩ = some (.int .i64 p) := k5.cell 0
      have e1_ : w5.cell? ⟨xe, 1, none⟩ = some (.int .i64 b) := k5.cell 1
      have e2_ : w5.cell? ⟨xe, 2, none⟩ = some (.slice A n c) := k5.cell 2
      have e3_ : w5.cell? ⟨xe, 3, none⟩ = some (.int .i64 s) := k5.cell 3
      clear k5
      go_wp2_with fail
      clear e0_ e1_ e2_ e3_
      refine (HLf.out w5 HB5.out).mono ?_
      rintro e w6 ⟨v6, R, rfl, hseq, hb6, hR⟩
      have HB6 := Lib.hid (HB5.out.trans (hb6.mono HB5.out.size))
      have HE6 := Lib.hid (HE5.out.below hb6 HE5.out.lt)
      have HS6 := Lib.hid (HS5.out.below hb6 HS5.out.lt)
      have HR6 := Lib.hid (HR5.out.below hb6 HR5.out.lt)
      have HW6 := Lib.hid (HW5.out.below hb6 HW5.out.lt)
      have HO6 := Lib.hid (OwnN.below HOw.out hb6)
      have HRo6 : Hid (Reads w6 w6.heap.size 5 A n (mgs o)) := Lib.hid ((HRe.out.below HB6.out).more HB6.out.size)
      have HNw : Hid (l.length = nw) := Lib.hid (by have := ownN_len HOw.out; simpa using this)
      have hnw : nw ≤ 1024 := by have h1 := HNw.out; have h2 := HLl.out; omega
      have SE6 := Lib.hid hseq
      have HRl : Hid (∀ g, R g → g < w6.heap.size) := Lib.hid hseq.lt
      clear hseq hb6 hR HE5 HS5 HR5 HW5 HOw HE3 HS3 HR3 HW3 HLf HRg
      obtain ⟨gf, pb, lb, hv6, en, hq1, hq2⟩ := SE6.out
      clear hq1 hq2
      subst hv6
      have EN := Lib.hid en
      clear en
      have hfn2 := fun (W : World) (gf : Nat) (pb cs : Array Value) => run_eql_func_nil (P := Try.prog) W 39 (.func gf) pb cs Try.underlying39
      go_wp2
      clear hfn2
      have HBW0 : Hid (Below w6.heap.size w6 w6) := Lib.hid (Below.refl _ _)
      have HMW0 : Hid (Marks w6.heap.size [] w6) := Lib.hid trivial
      have lw6 : xw < w6.heap.size := HW6.out.lt
      have le6 : xe < w6.heap.size := HE6.out.lt
      have ls6 : xs < w6.heap.size := HS6.out.lt
      refine wp_loop_rounds 3 ?_
      rw [rounds_succ]
      go_wp2
      obtain ⟨xk, hxk⟩ : ∃ xk, xk = w6.heap.size := ⟨_, rfl⟩
      obtain ⟨W1, hW1⟩ : ∃ W1, W1 = w6.alloc (.cells #[.int .i64 0] 3) := ⟨_, rfl⟩
      have hsW : w6.heap.size ≤ w6.heap.size := HBW0.out.size
      have hb1 : Below w6.heap.size w6 W1 := hW1 ▸ (Below.refl _ _).alloc (Nat.le_refl _) _
      have HKn1 : Hid (Blk W1 xk 3 #[.int .i64 0]) := Lib.hid (by rw [hW1, hxk]; exact Blk.new w6 _ _)
      have HBW1 := Lib.hid (HBW0.out.trans (hb1.mono hsW))
      have HM1 := Lib.hid (HMW0.out.below hb1)
      have SE1 := Lib.hid (SE6.out.stay (w := w6) (W := W1) ⟨HBW1.out.size, fun g hg => HBW1.out.block g (HRl.out g hg)⟩)
      have hx1 : w6.heap.size ≤ xk := by omega
      have hx2 : xk < W1.heap.size := HKn1.out.lt
      rw [← hW1, ← hxk]
      clear hW1 hxk hb1 hsW
      obtain ⟨S, hS⟩ : ∃ S : Nat → Prop, S = fun b => b = xk := ⟨_, rfl⟩
      have S1 : S xk := by rw [hS]
      have HSe : Hid (∀ b, S b → b = xk) := Lib.hid (fun b h => by rw [hS] at h; exact h)
      clear hS
      apply with_fun (α := Int × Mg → Nat → Act)
      intro F hF
      refine (wpIn_wide (n := 9)).1 ?_
      refine' range_boundWA (α := Int × Mg) (gf := gf) (pb := pb) (lb := lb) rfl EN.out (SE1.out.at_ _) (fun h k => StayH.trans h k) (stay_b SE1.out.lt) (fun _ => rfl) OkH.put
        (fun pre V => Blk V xk 3 #[.int .i64 (pre.length : Nat)] ∧ OnlyS S W1 V)
        (fun cc pre V => False)
        (Std.and (std_blk (x := xk) (by omega)) (std_onlyS W1 S))
        (fun cc => fun s A B hs ht => hs)
        ⟨HKn1.out, OnlyS.refl _ _⟩
        (fun p V => ∃ xm : Nat, W1.heap.size ≤ xm ∧ Blk V xk 3 #[.int .i64 (p.1.length : Nat)] ∧ OnlyS S W1 V ∧ Blk V xm 26 #[.int .i64 p.2.1.2.k, .int .i64 p.2.1.2.o, .int .i64 p.2.1.2.n, .int .i64 p.2.1.2.u, .int .i64 p.2.1.2.v] ∧ p.1 ++ [p.2.1] <+: l ∧ p.2.2 = F p.2.1 xm)
        ?iaK ?assign1 ?body1 ?done1 ?stop1
      case iaK =>
        rintro p A B row ⟨xm, h1, h2, h3, h4, h5⟩ hg hr
        exact ⟨xm, h1, blk_kept h2 hg (fun r e => (hr r e).2), (own_onlyS W1 S) p A B row h3 hg hr, blk_kept h4 hg (fun r e => (hr r e).2), h5⟩
      case assign1 =>
        rintro lp pre y V K ⟨hbn, hO⟩ ⟨B', hB', hok⟩ hK
        obtain ⟨xm, hxm⟩ : ∃ xm, xm = V.heap.size := ⟨_, rfl⟩
        obtain ⟨V2, hV2⟩ : ∃ v, v = V.alloc (.cells #[.int .i64 y.2.k, .int .i64 y.2.o, .int .i64 y.2.n, .int .i64 y.2.u, .int .i64 y.2.v] 26) := ⟨_, rfl⟩
        have hba : Below V.heap.size V V2 := hV2 ▸ (Below.refl _ _).alloc (Nat.le_refl _) _
        have hfin : KeepsAll W1.heap.size V V2 ∧ Stay R V V2 ∧ ∃ xm' : Nat, xm' = xm ∧ W1.heap.size ≤ xm' ∧ Blk V2 xk 3 #[.int .i64 (pre.length : Nat)] ∧ OnlyS S W1 V2 ∧ Blk V2 xm' 26 #[.int .i64 y.2.k, .int .i64 y.2.o, .int .i64 y.2.n, .int .i64 y.2.u, .int .i64 y.2.v] ∧ pre ++ [y] <+: l :=
          ⟨⟨hba.size, fun k _ hk => hba.block k hk⟩, ⟨hba.size, fun g hg => hba.block g (by have := HRl.out g hg; have := HBW1.out.size; have := hO.size; omega)⟩, xm, rfl, by have := hO.size; omega, hbn.below hba hbn.lt, hO.below hba, by rw [hV2, hxm]; exact Blk.new V _ _, hok⟩
        have HFin := Lib.hid hfin
        have HK := Lib.hid hK
        clear hfin hba hbn hO hok hK
        gi_wp2_with fail
        rw [← hV2, ← hxm]
        obtain ⟨f1, f2, xm', rfl, f3, f4, f5, f6, f7⟩ := HFin.out
        refine HK.out _ _ f1 f2 ⟨xm', f3, f4, f5, f6, f7, ?_⟩
        rw [hF]
      case stop1 =>
        rintro D cc pre V hD hpre hf hK
        exact hf.elim
      case body1 =>
        rintro lp pre ⟨sx, ⟨ak, ao, an, au, av⟩⟩ a' V hlp hrec ⟨xm, hxm1, hbn, hO, hmb, hok, ha'⟩
        obtain ⟨hlt, hgt⟩ := OkH.next (B := 0) (W := V) hok
        simp only at hbn hmb hok ha'
        rw [hF] at ha'
        simp only at ha'
        subst ha'
        have cm0 : V.cell? ⟨xm, 0, none⟩ = some (.int .i64 ak) := hmb.cell 0
        have cm1 : V.cell? ⟨xm, 1, none⟩ = some (.int .i64 ao) := hmb.cell 1
        have cm2 : V.cell? ⟨xm, 2, none⟩ = some (.int .i64 an) := hmb.cell 2
        have cm3 : V.cell? ⟨xm, 3, none⟩ = some (.int .i64 au) := hmb.cell 3
        have cm4 : V.cell? ⟨xm, 4, none⟩ = some (.int .i64 av) := hmb.cell 4
        obtain ⟨m, hm⟩ : ∃ m, m = pre.length := ⟨_, rfl⟩
        rw [← hm] at hbn hlt hgt
        obtain ⟨i, hi1, hi2, hi3⟩ := HGet.out m _ hgt
        simp only at hi1 hi2 hi3
        rw [HL.out] at hi2
        have HBV : Hid (Below w6.heap.size w6 V) := Lib.hid (OnlyS.bel HBW1.out hO (fun b hb => by have := HSe.out b hb; omega) HBW1.out.size)
        obtain ⟨gw, ow, hAw, hbw, hcw⟩ := ((ownN_reads HO6.out).below HBV.out).i64 (by have := HNw.out; omega)
        subst hAw
        have cw0 := hcw m (by have := HNw.out; omega)
        rw [List.getD_eq_getElem?_getD, List.getElem?_map, hgt] at cw0
        have cw1 : V.cell? ⟨gw, ow + m, none⟩ = some (.int .i64 sx) := cw0
        obtain ⟨go, oo, hAo, hbo, hco⟩ := (HRo6.out.below HBV.out).mgs_ (by omega)
        subst hAo
        obtain ⟨d0, d1, d2, d3, d4⟩ := hco i _ hi3
        simp only at d0 d1 d2 d3 d4
        have cn : V.cell? ⟨xk, 0, none⟩ = some (.int .i64 (m : Int)) := by rw [hbn.cell]; rfl
        have fn : V.frozen? ⟨xk, 0, none⟩ = false := hbn.frozen 0
        have ew : V.cell? ⟨xw, 0, none⟩ = some (.slice (some ⟨gw, ow, none⟩) nw cw) := (HW6.out.below HBV.out HW6.out.lt).cell 0
        have ee := HE6.out.below HBV.out HE6.out.lt
        have ee1 : V.cell? ⟨xe, 1, none⟩ = some (.int .i64 b) := ee.cell 1
        have ee2 : V.cell? ⟨xe, 2, none⟩ = some (.slice (some ⟨go, oo, none⟩) n c) := ee.cell 2
        obtain ⟨j1, hj1⟩ : ∃ j1 : Int, j1 = (i : Int) + 1 := ⟨_, rfl⟩
        have hw1 : IntKind.i64.wrap (sx - b) = j1 := by rw [IntWalk.i64_in _ (by omega)]; omega
        have hw2 : IntKind.i64.wrap (j1 - 1) = (i : Int) := by rw [IntWalk.i64_in _ (by omega)]; omega
        have hwi1 : (0 : Int) ≤ (i : Int) := by omega
        have hwi2 : (i : Int) < (n : Int) := by omega
        have hmw1 : (0 : Int) ≤ (m : Int) := by omega
        have hmw2 : (m : Int) < (nw : Int) := by have := HNw.out; omega
        have tn : decide (nw ≤ m) = false := by simp; omega
        have tq : (sx != sx) = false := by simp
        have ke : ∀ W : World, (Op.equalIn 10000 26 (.agg #[.int .i64 ak, .int .i64 ao, .int .i64 an, .int .i64 au, .int .i64 av]) (.agg #[.int .i64 ak, .int .i64 ao, .int .i64 an, .int .i64 au, .int .i64 av])).run Try.prog W = .ok true W := fun W => by rw [eq_msg]; simp
        have HBn := Lib.hid hbn
        have HOs := Lib.hid hO
        have HQq := Lib.hid hm
        have HRx : Hid (¬ R xk) := Lib.hid (fun h => by have := HRl.out _ h; omega)
        clear hbn hO hm hok hgt hi1 hi3 hj1 hcw hco cw0 ee hbw hbo hmb
        gi_wp2_with fail
        refine region_quiet_round (F := Fence.wide) rfl (by kernel_rfl) (by kernel_rfl) (by kernel_rfl) ?_
        repeat (gi_big_quiet_step (fail))
        refine wpQuietIn_nil ?_
        rintro _ ⟨z, rfl⟩
        have cn1 : (V.drewN z).cell? ⟨xk, 0, none⟩ = some (.int .i64 (m : Int)) := cn
        have fn1 : (V.drewN z).frozen? ⟨xk, 0, none⟩ = false := fn
        gi_wp2
        refine ⟨((KeepsAll.refl _ V).drewN z).trans (KeepsAll.setCell _ hx2 _), StayH.trans (StayH.refl _ _) (stay_setAt HRx.out), ?_, (HOs.out.drewN z).set S1 _⟩
        have := blk_put (HBn.out.drewN z) (.int .i64 ((m : Int) + 1))
        rw [List.length_append, ← HQq.out]; exact this
      case done1 =>
        rintro D1 ys V1 hD hys ⟨hbn, hO⟩ hK
        have hyl : ys.length = nw := by rw [hys]; exact HNw.out
        rw [hyl] at hbn
        have hbV := OnlyS.bel HBW1.out hO (fun b hb => by have := HSe.out b hb; omega) HBW1.out.size
        have hmk := OnlyS.marks HM1.out hO (fun b hb => by rw [HSe.out b hb]; exact ⟨_, _, HKn1.out⟩)
        have HMV1 := Lib.hid (hmk.cons (fun d hd k e => by have := HM1.out.lt d hd k e; omega) (by omega) hK)
        have cn : V1.cell? ⟨xk, 0, none⟩ = some (.int .i64 (nw : Int)) := by rw [hbn.cell]; rfl
        have ew : V1.cell? ⟨xw, 0, none⟩ = some (.slice Aw nw cw) := (HW6.out.below hbV HW6.out.lt).cell 0
        have HBV1 := Lib.hid hbV
        clear hbn hO hK hmk hbV hys hyl
        go_wp2
        obtain ⟨X1, hX1⟩ : ∃ v, v = V1 := ⟨_, rfl⟩
        have HBX1 : Hid (Below w6.heap.size w6 X1) := Lib.hid (by rw [hX1]; exact HBV1.out)
        have HMX1 : Hid (Marks w6.heap.size _ X1) := Lib.hid (by rw [hX1]; exact HMV1.out)
        rw [← hX1]
        clear hX1
        clear cn ew hF F HKn1 HBW1 HM1 SE1 hx1 hx2 S1 HSe
        rw [rounds_succ]
        go_wp2
        obtain ⟨xk, hxk⟩ : ∃ xk, xk = X1.heap.size := ⟨_, rfl⟩
        obtain ⟨W1, hW1⟩ : ∃ W1, W1 = X1.alloc (.cells #[.int .i64 0] 3) := ⟨_, rfl⟩
        have hsW : w6.heap.size ≤ X1.heap.size := HBX1.out.size
        have hb1 : Below X1.heap.size X1 W1 := hW1 ▸ (Below.refl _ _).alloc (Nat.le_refl _) _
        have HKn1 : Hid (Blk W1 xk 3 #[.int .i64 0]) := Lib.hid (by rw [hW1, hxk]; exact Blk.new X1 _ _)
        have HBW1 := Lib.hid (HBX1.out.trans (hb1.mono hsW))
        have HM1 := Lib.hid (HMX1.out.below hb1)
        have SE1 := Lib.hid (SE6.out.stay (w := w6) (W := W1) ⟨HBW1.out.size, fun g hg => HBW1.out.block g (HRl.out g hg)⟩)
        have hx1 : w6.heap.size ≤ xk := by omega
        have hx2 : xk < W1.heap.size := HKn1.out.lt
        rw [← hW1, ← hxk]
        clear hW1 hxk hb1 hsW
        obtain ⟨S, hS⟩ : ∃ S : Nat → Prop, S = fun b => b = xk := ⟨_, rfl⟩
        have S1 : S xk := by rw [hS]
        have HSe : Hid (∀ b, S b → b = xk) := Lib.hid (fun b h => by rw [hS] at h; exact h)
        clear hS
        apply with_fun (α := Int × Mg → Nat → Act)
        intro F hF
        refine (wpIn_wide (n := 9)).1 ?_
        refine' range_boundWA (α := Int × Mg) (gf := gf) (pb := pb) (lb := lb) rfl EN.out (SE1.out.at_ _) (fun h k => StayH.trans h k) (stay_b SE1.out.lt) (fun _ => rfl) OkH.put
          (fun pre V => Blk V xk 3 #[.int .i64 (pre.length : Nat)] ∧ OnlyS S W1 V)
          (fun cc pre V => False)
          (Std.and (std_blk (x := xk) (by omega)) (std_onlyS W1 S))
          (fun cc => fun s A B hs ht => hs)
          ⟨HKn1.out, OnlyS.refl _ _⟩
          (fun p V => ∃ xm : Nat, W1.heap.size ≤ xm ∧ Blk V xk 3 #[.int .i64 (p.1.length : Nat)] ∧ OnlyS S W1 V ∧ Blk V xm 26 #[.int .i64 p.2.1.2.k, .int .i64 p.2.1.2.o, .int .i64 p.2.1.2.n, .int .i64 p.2.1.2.u, .int .i64 p.2.1.2.v] ∧ p.1 ++ [p.2.1] <+: l ∧ p.2.2 = F p.2.1 xm)
          ?iaK ?assign2 ?body2 ?done2 ?stop2
        case iaK =>
          rintro p A B row ⟨xm, h1, h2, h3, h4, h5⟩ hg hr
          exact ⟨xm, h1, blk_kept h2 hg (fun r e => (hr r e).2), (own_onlyS W1 S) p A B row h3 hg hr, blk_kept h4 hg (fun r e => (hr r e).2), h5⟩
        case assign2 =>
          rintro lp pre y V K ⟨hbn, hO⟩ ⟨B', hB', hok⟩ hK
          obtain ⟨xm, hxm⟩ : ∃ xm, xm = V.heap.size := ⟨_, rfl⟩
          obtain ⟨V2, hV2⟩ : ∃ v, v = V.alloc (.cells #[.int .i64 y.2.k, .int .i64 y.2.o, .int .i64 y.2.n, .int .i64 y.2.u, .int .i64 y.2.v] 26) := ⟨_, rfl⟩
          have hba : Below V.heap.size V V2 := hV2 ▸ (Below.refl _ _).alloc (Nat.le_refl _) _
          have hfin : KeepsAll W1.heap.size V V2 ∧ Stay R V V2 ∧ ∃ xm' : Nat, xm' = xm ∧ W1.heap.size ≤ xm' ∧ Blk V2 xk 3 #[.int .i64 (pre.length : Nat)] ∧ OnlyS S W1 V2 ∧ Blk V2 xm' 26 #[.int .i64 y.2.k, .int .i64 y.2.o, .int .i64 y.2.n, .int .i64 y.2.u, .int .i64 y.2.v] ∧ pre ++ [y] <+: l :=
            ⟨⟨hba.size, fun k _ hk => hba.block k hk⟩, ⟨hba.size, fun g hg => hba.block g (by have := HRl.out g hg; have := HBW1.out.size; have := hO.size; omega)⟩, xm, rfl, by have := hO.size; omega, hbn.below hba hbn.lt, hO.below hba, by rw [hV2, hxm]; exact Blk.new V _ _, hok⟩
          have HFin := Lib.hid hfin
          have HK := Lib.hid hK
          clear hfin hba hbn hO hok hK
          gi_wp2_with fail
          rw [← hV2, ← hxm]
          obtain ⟨f1, f2, xm', rfl, f3, f4, f5, f6, f7⟩ := HFin.out
          refine HK.out _ _ f1 f2 ⟨xm', f3, f4, f5, f6, f7, ?_⟩
          rw [hF]
        case stop2 =>
          rintro D cc pre V hD hpre hf hK
          exact hf.elim
        case body2 =>
          rintro lp pre ⟨sx, ⟨ak, ao, an, au, av⟩⟩ a' V hlp hrec ⟨xm, hxm1, hbn, hO, hmb, hok, ha'⟩
          obtain ⟨hlt, hgt⟩ := OkH.next (B := 0) (W := V) hok
          simp only at hbn hmb hok ha'
          rw [hF] at ha'
          simp only at ha'
          subst ha'
          have cm0 : V.cell? ⟨xm, 0, none⟩ = some (.int .i64 ak) := hmb.cell 0
          have cm1 : V.cell? ⟨xm, 1, none⟩ = some (.int .i64 ao) := hmb.cell 1
          have cm2 : V.cell? ⟨xm, 2, none⟩ = some (.int .i64 an) := hmb.cell 2
          have cm3 : V.cell? ⟨xm, 3, none⟩ = some (.int .i64 au) := hmb.cell 3
          have cm4 : V.cell? ⟨xm, 4, none⟩ = some (.int .i64 av) := hmb.cell 4
          obtain ⟨m, hm⟩ : ∃ m, m = pre.length := ⟨_, rfl⟩
          rw [← hm] at hbn hlt hgt
          obtain ⟨i, hi1, hi2, hi3⟩ := HGet.out m _ hgt
          simp only at hi1 hi2 hi3
          rw [HL.out] at hi2
          have HBV : Hid (Below w6.heap.size w6 V) := Lib.hid (OnlyS.bel HBW1.out hO (fun b hb => by have := HSe.out b hb; omega) HBW1.out.size)
          obtain ⟨gw, ow, hAw, hbw, hcw⟩ := ((ownN_reads HO6.out).below HBV.out).i64 (by have := HNw.out; omega)
          subst hAw
          have cw0 := hcw m (by have := HNw.out; omega)
          rw [List.getD_eq_getElem?_getD, List.getElem?_map, hgt] at cw0
          have cw1 : V.cell? ⟨gw, ow + m, none⟩ = some (.int .i64 sx) := cw0
          obtain ⟨go, oo, hAo, hbo, hco⟩ := (HRo6.out.below HBV.out).mgs_ (by omega)
          subst hAo
          obtain ⟨d0, d1, d2, d3, d4⟩ := hco i _ hi3
          simp only at d0 d1 d2 d3 d4
          have cn : V.cell? ⟨xk, 0, none⟩ = some (.int .i64 (m : Int)) := by rw [hbn.cell]; rfl
          have fn : V.frozen? ⟨xk, 0, none⟩ = false := hbn.frozen 0
          have ew : V.cell? ⟨xw, 0, none⟩ = some (.slice (some ⟨gw, ow, none⟩) nw cw) := (HW6.out.below HBV.out HW6.out.lt).cell 0
          have ee := HE6.out.below HBV.out HE6.out.lt
          have ee1 : V.cell? ⟨xe, 1, none⟩ = some (.int .i64 b) := ee.cell 1
          have ee2 : V.cell? ⟨xe, 2, none⟩ = some (.slice (some ⟨go, oo, none⟩) n c) := ee.cell 2
          obtain ⟨j1, hj1⟩ : ∃ j1 : Int, j1 = (i : Int) + 1 := ⟨_, rfl⟩
          have hw1 : IntKind.i64.wrap (sx - b) = j1 := by rw [IntWalk.i64_in _ (by omega)]; omega
          have hw2 : IntKind.i64.wrap (j1 - 1) = (i : Int) := by rw [IntWalk.i64_in _ (by omega)]; omega
          have hwi1 : (0 : Int) ≤ (i : Int) := by omega
          have hwi2 : (i : Int) < (n : Int) := by omega
          have hmw1 : (0 : Int) ≤ (m : Int) := by omega
          have hmw2 : (m : Int) < (nw : Int) := by have := HNw.out; omega
          have tn : decide (nw ≤ m) = false := by simp; omega
          have tq : (sx != sx) = false := by simp
          have ke : ∀ W : World, (Op.equalIn 10000 26 (.agg #[.int .i64 ak, .int .i64 ao, .int .i64 an, .int .i64 au, .int .i64 av]) (.agg #[.int .i64 ak, .int .i64 ao, .int .i64 an, .int .i64 au, .int .i64 av])).run Try.prog W = .ok true W := fun W => by rw [eq_msg]; simp
          have HBn := Lib.hid hbn
          have HOs := Lib.hid hO
          have HQq := Lib.hid hm
          have HRx : Hid (¬ R xk) := Lib.hid (fun h => by have := HRl.out _ h; omega)
          clear hbn hO hm hok hgt hi1 hi3 hj1 hcw hco cw0 ee hbw hbo hmb
          gi_wp2_with fail
          refine region_quiet_round (F := Fence.wide) rfl (by kernel_rfl) (by kernel_rfl) (by kernel_rfl) ?_
          repeat (gi_big_quiet_step (fail))
          refine wpQuietIn_nil ?_
          rintro _ ⟨z, rfl⟩
          have cn1 : (V.drewN z).cell? ⟨xk, 0, none⟩ = some (.int .i64 (m : Int)) := cn
          have fn1 : (V.drewN z).frozen? ⟨xk, 0, none⟩ = false := fn
          gi_wp2
          refine ⟨((KeepsAll.refl _ V).drewN z).trans (KeepsAll.setCell _ hx2 _), StayH.trans (StayH.refl _ _) (stay_setAt HRx.out), ?_, (HOs.out.drewN z).set S1 _⟩
          have := blk_put (HBn.out.drewN z) (.int .i64 ((m : Int) + 1))
          rw [List.length_append, ← HQq.out]; exact this
        case done2 =>
          rintro D1 ys V1 hD hys ⟨hbn, hO⟩ hK
          have hyl : ys.length = nw := by rw [hys]; exact HNw.out
          rw [hyl] at hbn
          have hbV := OnlyS.bel HBW1.out hO (fun b hb => by have := HSe.out b hb; omega) HBW1.out.size
          have hmk := OnlyS.marks HM1.out hO (fun b hb => by rw [HSe.out b hb]; exact ⟨_, _, HKn1.out⟩)
          have HMV1 := Lib.hid (hmk.cons (fun d hd k e => by have := HM1.out.lt d hd k e; omega) (by omega) hK)
          have cn : V1.cell? ⟨xk, 0, none⟩ = some (.int .i64 (nw : Int)) := by rw [hbn.cell]; rfl
          have ew : V1.cell? ⟨xw, 0, none⟩ = some (.slice Aw nw cw) := (HW6.out.below hbV HW6.out.lt).cell 0
          have HBV1 := Lib.hid hbV
          clear hbn hO hK hmk hbV hys hyl
          go_wp2
          obtain ⟨X2, hX2⟩ : ∃ v, v = V1 := ⟨_, rfl⟩
          have HBX2 : Hid (Below w6.heap.size w6 X2) := Lib.hid (by rw [hX2]; exact HBV1.out)
          have HMX2 : Hid (Marks w6.heap.size _ X2) := Lib.hid (by rw [hX2]; exact HMV1.out)
          rw [← hX2]
          clear hX2
          clear cn ew hF F HKn1 HBW1 HM1 SE1 hx1 hx2 S1 HSe
          rw [rounds_succ]
          go_wp2_with fail
          obtain ⟨xn, hxn⟩ : ∃ xn, xn = X2.heap.size := ⟨_, rfl⟩
          obtain ⟨W1, hW1⟩ : ∃ W1, W1 = X2.alloc (.cells #[.int .i64 0] 3) := ⟨_, rfl⟩
          have hsW : w6.heap.size ≤ X2.heap.size := HBX2.out.size
          have hb1 : Below X2.heap.size X2 W1 := hW1 ▸ (Below.refl _ _).alloc (Nat.le_refl _) _
          have HKn1 : Hid (Blk W1 xn 3 #[.int .i64 0]) := Lib.hid (by rw [hW1, hxn]; exact Blk.new X2 _ _)
          have HBW1 := Lib.hid (HBX2.out.trans (hb1.mono hsW))
          have HM1 := Lib.hid (HMX2.out.below hb1)
          have SE1 := Lib.hid (SE6.out.stay (w := w6) (W := W1) ⟨HBW1.out.size, fun g hg => HBW1.out.block g (HRl.out g hg)⟩)
          have hx1 : w6.heap.size ≤ xn := by omega
          have hx2 : xn < W1.heap.size := HKn1.out.lt
          rw [← hW1, ← hxn]
          clear hW1 hxn hb1 hsW
          obtain ⟨S, hS⟩ : ∃ S : Nat → Prop, S = fun b => b = xn := ⟨_, rfl⟩
          have S1 : S xn := by rw [hS]
          have HSe : Hid (∀ b, S b → b = xn) := Lib.hid (fun b h => by rw [hS] at h; exact h)
          clear hS
          refine (wpIn_wide (n := 9)).1 ?_
          refine' range_boundWS (α := Int × Mg) (gf := gf) (pb := pb) (lb := lb) rfl EN.out (SE1.out.at_ _) (fun h k => StayH.trans h k) (stay_b SE1.out.lt) (fun _ => rfl) OkH.put
            (fun pre V => Blk V xn 3 #[.int .i64 (pre.length : Nat)] ∧ OnlyS S W1 V ∧ (pre.length = 0 ∨ (pre.length : Int) < u))
            (fun cc pre V => cc = .exit 6 ∧ Blk V xn 3 #[.int .i64 (pre.length : Nat)] ∧ OnlyS S W1 V ∧ 0 < pre.length ∧ u ≤ (pre.length : Int) ∧ (u < 1 ∨ (pre.length : Int) = u))
            (fun s A B hs ht => ⟨Blk.std hs.1 ht (by omega), std_onlyS (β := List (Int × Mg)) W1 S s A B hs.2.1 ht, hs.2.2⟩)
            (fun cc => fun s A B hs ht => ⟨hs.1, Blk.std hs.2.1 ht (by omega), std_onlyS (β := List (Int × Mg)) W1 S s A B hs.2.2.1 ht, hs.2.2.2⟩)
            ⟨HKn1.out, OnlyS.refl _ _, .inl rfl⟩
            _ ?assign3 ?body3 ?done3 ?stop3
          case assign3 =>
            intro lp y V K hK
            gi_wp2
            exact hK
          case body3 =>
            rintro lp pre y V hlp hrec ⟨hbn, hO, hpz⟩ ⟨B', hB', hok⟩
            obtain ⟨hlt, hgt⟩ := OkH.next (B := 0) (W := V) hok
            obtain ⟨k, hk⟩ : ∃ k, k = pre.length := ⟨_, rfl⟩
            rw [← hk] at hbn hlt hpz
            have hkn : k < nw := by have := HNw.out; omega
            have HBV := Lib.hid (OnlyS.bel HBW1.out hO (fun b hb => by have := HSe.out b hb; omega) HBW1.out.size)
            have HQq := Lib.hid hk
            have cn : V.cell? ⟨xn, 0, none⟩ = some (.int .i64 (k : Int)) := by rw [hbn.cell]; rfl
            have fn : V.frozen? ⟨xn, 0, none⟩ = false := hbn.frozen 0
            have cs : V.cell? ⟨xs, 0, none⟩ = some (.int .i64 u) := (HS6.out.below HBV.out HS6.out.lt).cell 0
            have HBn := Lib.hid hbn
            have HOs := Lib.hid hO
            have HPz := Lib.hid hpz
            have HRx : Hid (¬ R xn) := Lib.hid (fun h => by have := HRl.out _ h; omega)
            have hne : xs ≠ xn := by omega
            clear hbn hO hk hok hgt hlt hpz
            by_cases hst : u ≤ (k : Int) + 1
            · gi_wp2
              refine ⟨KeepsAll.setCell _ hx2 _, rfl, ?_, HOs.out.set S1 _, by simp, by rw [List.length_append, ← HQq.out]; simpa using hst, ?_⟩
              · have := blk_put HBn.out (.int .i64 ((k : Int) + 1))
                rw [List.length_append, ← HQq.out]; exact this
              · rw [List.length_append, ← HQq.out]
                rcases HPz.out with h | h
                · subst h; simp; omega
                · right; simp; omega
            · have hst' : (k : Int) + 1 < u := by omega
              clear hst
              gi_wp2
              refine ⟨KeepsAll.setCell _ hx2 _, stay_setAt HRx.out, ?_, HOs.out.set S1 _, .inr (by rw [List.length_append, ← HQq.out]; simpa using hst')⟩
              have := blk_put HBn.out (.int .i64 ((k : Int) + 1))
              rw [List.length_append, ← HQq.out]; exact this
          case done3 =>
            rintro D ys V hD hys ⟨hbn, hO, hpz⟩ hK
            obtain ⟨k, hk⟩ : ∃ k, k = ys.length := ⟨_, rfl⟩
            have hke : k = nw := by rw [hk, hys]; exact HNw.out
            rw [← hk] at hbn hpz
            clear hk hys
            have hqn : (k : Int) ≤ (nw : Int) := by omega
            have HBV := Lib.hid (OnlyS.bel HBW1.out hO (fun b hb => by have := HSe.out b hb; omega) HBW1.out.size)
            have hmk := OnlyS.marks HM1.out hO (fun b hb => by rw [HSe.out b hb]; exact ⟨_, _, HKn1.out⟩)
            have HMk := Lib.hid (hmk.cons (fun d hd k e => by have := HM1.out.lt d hd k e; omega) (by omega) hK)
            have HR7 := Lib.hid (HR6.out.below HBV.out HR6.out.lt)
            have cn : V.cell? ⟨xn, 0, none⟩ = some (.int .i64 (k : Int)) := by rw [hbn.cell]; rfl
            have cr : V.cell? ⟨xr, 0, none⟩ = some (.bool false) := HR7.out.cell 0
            have fr : V.frozen? ⟨xr, 0, none⟩ = false := HR7.out.frozen 0
            have cs : V.cell? ⟨xs, 0, none⟩ = some (.int .i64 u) := (HS6.out.below HBV.out HS6.out.lt).cell 0
            have cw : V.cell? ⟨xw, 0, none⟩ = some (.slice Aw nw cw) := (HW6.out.below HBV.out HW6.out.lt).cell 0
            have hxx := HX.out
            have hlr : xr < w6.heap.size := HR6.out.lt
            have HBw := Lib.hid (HB6.out.trans (HBV.out.mono HB6.out.size))
            clear hO hmk hK hbn
            rcases Int.lt_or_le u 1 with hz1 | hz1
            · go_wp2
              have k9 : OnlyS (fun b => b = xr) V (V.setCell ⟨xr, 0, none⟩ (.bool true)) := OnlyS.set (S := fun b => b = xr) (OnlyS.refl (fun b => b = xr) V) (x := xr) rfl (.bool true)
              have hk9 := blk_put HR7.out (.bool true)
              have hB10 := OnlyS.bel HBw.out k9 (fun b hb => by omega) HBw.out.size
              refine Marks.leave (B := w6.heap.size) _ _ (OnlyS.marks HMk.out k9 (fun b hb => ⟨_, _, (show Blk V b 4 #[.bool false] by rw [hb]; exact HR7.out)⟩)) (fun W' hb => ?_)
              have c5 : W'.cell? ⟨xr, 0, none⟩ = some (.bool true) := by rw [hb.cell (p := ⟨xr, 0, none⟩) (show xr < w6.heap.size by omega), hk9.cell]; rfl
              refine ⟨.bool true, by simp [results, Try.f5, go_sem, c5], rfl, ?_⟩
              exact hB10.trans (hb.mono HB6.out.size)
            · have hmin : (k : Int) = min u (nw : Int) := by omega
              have km := run_min2 Try.prog #[3, 3] 3 u (nw : Int) (k : Int) hmin
              clear hmin
              go_wp2
              have k9 : OnlyS (fun b => b = xr) V (V.setCell ⟨xr, 0, none⟩ (.bool true)) := OnlyS.set (S := fun b => b = xr) (OnlyS.refl (fun b => b = xr) V) (x := xr) rfl (.bool true)
              have hk9 := blk_put HR7.out (.bool true)
              have hB10 := OnlyS.bel HBw.out k9 (fun b hb => by omega) HBw.out.size
              refine Marks.leave (B := w6.heap.size) _ _ (OnlyS.marks HMk.out k9 (fun b hb => ⟨_, _, (show Blk V b 4 #[.bool false] by rw [hb]; exact HR7.out)⟩)) (fun W' hb => ?_)
              have c5 : W'.cell? ⟨xr, 0, none⟩ = some (.bool true) := by rw [hb.cell (p := ⟨xr, 0, none⟩) (show xr < w6.heap.size by omega), hk9.cell]; rfl
              refine ⟨.bool true, by simp [results, Try.f5, go_sem, c5], rfl, ?_⟩
              exact hB10.trans (hb.mono HB6.out.size)
          case stop3 =>
            rintro D cc pre V hD hpre ⟨rfl, hbn, hO, hp0, hp1, hp2⟩ hK
            obtain ⟨k, hk⟩ : ∃ k, k = pre.length := ⟨_, rfl⟩
            have hkl : k ≤ nw := by rw [hk, ← HNw.out]; exact List.IsPrefix.length_le hpre
            rw [← hk] at hbn hp0 hp1 hp2
            clear hk hpre
            have hqn : (k : Int) ≤ (nw : Int) := by omega
            have HBV := Lib.hid (OnlyS.bel HBW1.out hO (fun b hb => by have := HSe.out b hb; omega) HBW1.out.size)
            have hmk := OnlyS.marks HM1.out hO (fun b hb => by rw [HSe.out b hb]; exact ⟨_, _, HKn1.out⟩)
            have HMk := Lib.hid (hmk.cons (fun d hd k e => by have := HM1.out.lt d hd k e; omega) (by omega) hK)
            have HR7 := Lib.hid (HR6.out.below HBV.out HR6.out.lt)
            have cn : V.cell? ⟨xn, 0, none⟩ = some (.int .i64 (k : Int)) := by rw [hbn.cell]; rfl
            have cr : V.cell? ⟨xr, 0, none⟩ = some (.bool false) := HR7.out.cell 0
            have fr : V.frozen? ⟨xr, 0, none⟩ = false := HR7.out.frozen 0
            have cs : V.cell? ⟨xs, 0, none⟩ = some (.int .i64 u) := (HS6.out.below HBV.out HS6.out.lt).cell 0
            have cw : V.cell? ⟨xw, 0, none⟩ = some (.slice Aw nw cw) := (HW6.out.below HBV.out HW6.out.lt).cell 0
            have hxx := HX.out
            have hlr : xr < w6.heap.size := HR6.out.lt
            have HBw := Lib.hid (HB6.out.trans (HBV.out.mono HB6.out.size))
            clear hO hmk hK hbn
            rcases Int.lt_or_le u 1 with hz1 | hz1
            · refine wpIn_wide.2 ?_
              go_wp2
              have k9 : OnlyS (fun b => b = xr) V (V.setCell ⟨xr, 0, none⟩ (.bool true)) := OnlyS.set (S := fun b => b = xr) (OnlyS.refl (fun b => b = xr) V) (x := xr) rfl (.bool true)
              have hk9 := blk_put HR7.out (.bool true)
              have hB10 := OnlyS.bel HBw.out k9 (fun b hb => by omega) HBw.out.size
              refine Marks.leave (B := w6.heap.size) _ _ (OnlyS.marks HMk.out k9 (fun b hb => ⟨_, _, (show Blk V b 4 #[.bool false] by rw [hb]; exact HR7.out)⟩)) (fun W' hb => ?_)
              have c5 : W'.cell? ⟨xr, 0, none⟩ = some (.bool true) := by rw [hb.cell (p := ⟨xr, 0, none⟩) (show xr < w6.heap.size by omega), hk9.cell]; rfl
              refine ⟨.bool true, by simp [results, Try.f5, go_sem, c5], rfl, ?_⟩
              exact hB10.trans (hb.mono HB6.out.size)
            · have hmin : (k : Int) = min u (nw : Int) := by omega
              have km := run_min2 Try.prog #[3, 3] 3 u (nw : Int) (k : Int) hmin
              clear hmin
              refine wpIn_wide.2 ?_
              go_wp2
              have k9 : OnlyS (fun b => b = xr) V (V.setCell ⟨xr, 0, none⟩ (.bool true)) := OnlyS.set (S := fun b => b = xr) (OnlyS.refl (fun b => b = xr) V) (x := xr) rfl (.bool true)
              have hk9 := blk_put HR7.out (.bool true)
              have hB10 := OnlyS.bel HBw.out k9 (fun b hb => by omega) HBw.out.size
              refine Marks.leave (B := w6.heap.size) _ _ (OnlyS.marks HMk.out k9 (fun b hb => ⟨_, _, (show Blk V b 4 #[.bool false] by rw [hb]; exact HR7.out)⟩)) (fun W' hb => ?_)
              have c5 : W'.cell? ⟨xr, 0, none⟩ = some (.bool true) := by rw [hb.cell (p := ⟨xr, 0, none⟩) (show xr < w6.heap.size by omega), hk9.cell]; rfl
              refine ⟨.bool true, by simp [results, Try.f5, go_sem, c5], rfl, ?_⟩
              exact hB10.trans (hb.mono HB6.out.size)
end Go.Proofs.Ytneijohbmphheaa.Pk
