/- The statements' own wakes. -/
import Derived.Test.YtiaafhcfeeekeaaZCoWakeA
import Derived.Deep.RegionHeld3
import Derived.Deep.DeepMust
import Derived.Test.YtiaafhcfeeekeaaZTrCheck
import Derived.Test.YtiaafhcfeeekeaaZStPut
namespace Go.Proofs.Ytiaafhcfeeekeaa.Pk
open Go.RowKit Go.Proofs.Ytiaafhcfeeekeaa.Gr
set_option linter.unusedVariables false
set_option maxRecDepth 100000 in
set_option maxHeartbeats 8000000 in
theorem wakesC (HFi : StFirstP) (HAp : CoApplyP) (w : World) : Calls Try.prog 10 #[] w fun e w' => e = .returned (.bool true) ∧ Below w.heap.size w w' := by
  obtain ⟨W0, hW0⟩ : ∃ W0, W0 = w.alloc (.cells #[.int .i64 (-1), .int .i64 0] 3) := ⟨_, rfl⟩
  have hb0 : Below w.heap.size w W0 := hW0 ▸ (Below.refl _ w).alloc (Nat.le_refl _) _
  have hr : Reads W0 W0.heap.size 1 (some ⟨w.heap.size, 0, none⟩) 2 (nms [-1, 0]) := by rw [hW0, World.size_alloc]; exact two_reads w _ _ _
  have HN := Lib.hid ((new_any (some ⟨w.heap.size, 0, none⟩) 2 2 [-1, 0] W0 W0.heap.size hr (Nat.le_refl _) (by omega)).mono fun e w' h => h.good_ good2s)
  have HB0 := Lib.hid hb0
  have HFi := Lib.hid HFi
  have HAp := Lib.hid HAp
  clear hr hb0
  go_enter Try.func10, Try.ntmps10
  go_wp2_with fail
  rw [← hW0]
  refine HN.out.mono ?_
  rintro e w1 ⟨hb1, T, g, rfl, ht⟩
  have HB1 := Lib.hid (HB0.out.trans (hb1.mono HB0.out.size))
  have HT := Lib.hid ht
  clear hb1 ht hW0 HN
  obtain ⟨W2, hW2⟩ : ∃ W, W = w1.alloc (.cells #[.int .i64 1] 3) := ⟨_, rfl⟩
  have hb12 : Below w1.heap.size w1 W2 := hW2 ▸ (Below.refl _ _).alloc (Nat.le_refl _) _
  have hin : InN W2 [1] (some ⟨w1.heap.size, 0, none⟩) 1 1 := ⟨by rw [hW2, World.size_alloc]; exact one_reads w1 _ _, by omega, by omega, by intro x hx; simp at hx; subst hx; unfold I64; omega⟩
  have hc := HFi.out T g [-1, 0] _ 1 1 [1] 1 W2 (HT.out.below_ hb12) good2s hin (by unfold I64; omega)
  rw [wk_firstE] at hc
  have HC := Lib.hid hc
  have HB2 := Lib.hid (HB1.out.trans (hb12.mono HB1.out.size))
  have HT2 := Lib.hid (HT.out.below_ hb12)
  clear hc hin hb12
  go_wp2_with fail
  rw [← hW2]
  clear hW2
  refine HC.out.mono ?_
  rintro e w3 ⟨s2, rfl, hv, ho, hb3⟩
  have hv : s2.v = wk0 := hv
  have hin := ho.few (by rw [hv]; exact wk_few)
  have HB3 := Lib.hid (HB2.out.trans (hb3.mono HB2.out.size))
  have HT3 := Lib.hid (HT2.out.below_ hb3)
  obtain ⟨p, hp⟩ : ∃ p, p = w3.heap.size := ⟨_, rfl⟩
  obtain ⟨w4, hw4⟩ : ∃ V, V = w3.alloc (.cells s2.val.cells 28) := ⟨_, rfl⟩
  have hb34 : Below w3.heap.size w3 w4 := hw4 ▸ (Below.refl _ _).alloc (Nat.le_refl _) _
  have hcall := HAp.out T g [-1, 0] s2 wkE w4 (HT3.out.below_ hb34) good2s (hin.next hb34) wk_i
  rw [hv, wk_apply] at hcall
  have HCa := Lib.hid hcall
  have HB4 := Lib.hid (HB3.out.trans (hb34.mono HB3.out.size))
  have HKp : Hid (Blk w4 p 28 s2.val.cells) := Lib.hid (by rw [hw4, hp]; exact Blk.new w3 _ _)
  have HP : Hid (w.heap.size ≤ p) := Lib.hid (by rw [hp]; exact HB3.out.size)
  clear hcall hb34 hin ho hb3 hv HC HT HT2 HT3 HB0 HB1 HFi HAp
  obtain ⟨me, os, ⟨A1, n1, c1⟩, es, ⟨A2, n2, c2⟩, q, as_, ⟨A3, n3, c3⟩, gs, ⟨A4, n4, c4⟩⟩ := s2
  simp only [StL.val, Sl.val, Ev.val, wkE, Gm.zero, Mg.zero, Value.cells] at HCa HKp hw4 ⊢
  have x0 : w4.cell? ⟨p, 0, none⟩ = some (.int .i64 me) := HKp.out.cell 0
  have x1 : w4.cell? ⟨p, 1, none⟩ = some (.slice A1 n1 c1) := HKp.out.cell 1
  have x2 : w4.cell? ⟨p, 2, none⟩ = some (.slice A2 n2 c2) := HKp.out.cell 2
  have x3 : w4.cell? ⟨p, 3, none⟩ = some (.int .i64 q) := HKp.out.cell 3
  have x4 : w4.cell? ⟨p, 4, none⟩ = some (.slice A3 n3 c3) := HKp.out.cell 4
  have x5 : w4.cell? ⟨p, 5, none⟩ = some (.slice A4 n4 c4) := HKp.out.cell 5
  go_wp2_with fail
  rw [← hw4, ← hp]
  clear hw4 hp
  go_wp2_with fail
  refine HCa.out.mono ?_
  rintro e w5 ⟨s3, rfl, hv3, ho3, hb5⟩
  have hv3 : s3.v = wk1 := hv3
  have HB5 := Lib.hid (HB4.out.trans (hb5.mono HB4.out.size))
  have hk5 := HKp.out.below hb5 HKp.out.lt
  have hpl : p < w4.heap.size := HKp.out.lt
  obtain ⟨me', os', ⟨D1, d1, k1⟩, es', ⟨D2, d2, k2⟩, q', as', ⟨D3, d3, k3⟩, gs', ⟨D4, d4, k4⟩⟩ := s3
  obtain ⟨V9, hV9, k9, b9, o9⟩ := set6 hk5 (.int .i64 me') (.slice D1 d1 k1) (.slice D2 d2 k2) (.int .i64 q') (.slice D3 d3 k3) (.slice D4 d4 k4)
  have HV9 := Lib.hid hV9
  have HB9 : Hid (Below w.heap.size w V9) := Lib.hid (b9 _ _ HP.out HB5.out)
  have ho9 : OwnX V9 w4.heap.size ⟨me', os', ⟨D1, d1, k1⟩, es', ⟨D2, d2, k2⟩, q', as', ⟨D3, d3, k3⟩, gs', ⟨D4, d4, k4⟩⟩ := ho3.stayX (fun g hg _ => o9 g (by omega))
  have e2 : os'.map (·.v) = wk1.os := congrArg St.os hv3
  obtain ⟨x, rfl⟩ : ∃ x, os' = [x] := by
    match os', e2 with
    | [x], _ => exact ⟨x, rfl⟩
    | [], h => simp [wk1] at h
    | x :: y :: r, h => simp [wk1] at h
  have hx : x.v = ⟨1, 1, [⟨1, 2, -1, 0⟩]⟩ := by simpa [wk1] using e2
  obtain ⟨l1, q1, r1⟩ := Row.Own.rd ho9.os_.row
  have i1 : d1 = 1 := by simpa using l1.symm
  subst i1
  obtain ⟨b, off, rfl, hbw, hcs⟩ := owR.spots r1 (show 0 < 1 by omega)
  obtain ⟨xv, ⟨A5, n5, c5⟩⟩ := x
  simp only at hx
  subst hx
  have m2 := hcs 0 _ rfl 2 _ rfl
  simp only [owR, Sl.val, Nat.zero_mul, Nat.zero_add] at m2
  obtain ⟨l5, q5, r5⟩ := Row.Own.rd (ho9.os_.each _ List.mem_cons_self)
  have l5 : n5 = 1 := l5.symm
  subst l5
  obtain ⟨b5, off5, rfl, hbw5, hcs5⟩ := ceR.spots r5 (show 0 < 1 by omega)
  have u0 := hcs5 0 _ rfl 0 _ rfl
  have u1 := hcs5 0 _ rfl 1 _ rfl
  have u2 := hcs5 0 _ rfl 2 _ rfl
  have u3 := hcs5 0 _ rfl 3 _ rfl
  simp only [ceR, Nat.zero_mul, Nat.add_zero, Nat.zero_add] at u0 u1 u2 u3
  have f0 := hk5.frozen 0
  have f1 := hk5.frozen 1
  have f2 := hk5.frozen 2
  have f3 := hk5.frozen 3
  have f4 := hk5.frozen 4
  have f5 := hk5.frozen 5
  have y0 : w5.cell? ⟨p, 0, none⟩ = some (.int .i64 me) := hk5.cell 0
  have y1 : w5.cell? ⟨p, 1, none⟩ = some (.slice A1 n1 c1) := hk5.cell 1
  have y2 : w5.cell? ⟨p, 2, none⟩ = some (.slice A2 n2 c2) := hk5.cell 2
  have y3 : w5.cell? ⟨p, 3, none⟩ = some (.int .i64 q) := hk5.cell 3
  have y4 : w5.cell? ⟨p, 4, none⟩ = some (.slice A3 n3 c3) := hk5.cell 4
  have y5 : w5.cell? ⟨p, 5, none⟩ = some (.slice A4 n4 c4) := hk5.cell 5
  have z1 : V9.cell? ⟨p, 1, none⟩ = some (.slice (some ⟨b, off, none⟩) 1 k1) := k9.cell 1
  have hpl5 : p < w5.heap.size := hk5.lt
  clear hk5 hb5 hV9 b9 o9 k9 ho9 e2 hcs hcs5 r1 r5 ho3 hv3 l1 HKp HCa x0 x1 x2 x3 x4 x5
  rename_i K1 hK1 K2 hK2
  have HK1 := Lib.hid hK1
  clear hK1
  dsimp only
  go_wp2_with fail
  rw [← HV9.out]
  have hK1 := HK1.out
  clear HK1 HV9 y0 y1 y2 y3 y4 y5 f0 f1 f2 f3 f4 f5
  refine hK1 _ _ ?_
  go_wp2
  go_ret
  exact ⟨rfl, HB9.out⟩
end Go.Proofs.Ytiaafhcfeeekeaa.Pk

/- More than is played: what the laws leave out. -/
namespace Go.Proofs.Ytiaafhcfeeekeaa.Pk
open Go.RowKit
set_option linter.unusedVariables false
/-- An answer of one bool. -/
def IsBool (e : Ending) : Prop := ∃ b, e = .returned (.bool b)
set_option maxRecDepth 100000 in
set_option maxHeartbeats 4000000 in
theorem heavy_any (s : StL) (w : World) (hin : InS w s) :
    Calls Try.prog 12 #[s.val] w fun e w' => IsBool e ∧ Below w.heap.size w w' := by
  have HI := Lib.hid hin
  have HL1 := Lib.hid hin.os.len
  have HL2 := Lib.hid hin.es.len
  obtain ⟨me, os, ⟨A, n, c⟩, es, ⟨A', n', c'⟩, q, as_, ⟨Aa, na, ca⟩, gs, ⟨Ag, ng, cg⟩⟩ := s
  have hn : n * 40 ≤ 140737488351232 := hin.os.few
  have hn2 : n' * 48 ≤ 140737488351232 := hin.es.few
  simp only at HL1 HL2
  clear hin
  obtain ⟨p, hp⟩ : ∃ p, p = w.heap.size := ⟨_, rfl⟩
  obtain ⟨W1, hW1⟩ : ∃ W1, W1 = w.alloc (.cells #[.int .i64 me, .slice A n c, .slice A' n' c', .int .i64 q, .slice Aa na ca, .slice Ag ng cg] 28) := ⟨_, rfl⟩
  have HB1 : Hid (Below w.heap.size w W1) := Lib.hid (hW1 ▸ (Below.refl _ _).alloc (Nat.le_refl _) _)
  have HKp : Hid (Blk W1 p 28 #[.int .i64 me, .slice A n c, .slice A' n' c', .int .i64 q, .slice Aa na ca, .slice Ag ng cg]) := Lib.hid (by rw [hW1, hp]; exact Blk.new w _ _)
  have HX : Hid (∀ W, Below W1.heap.size W1 W → W.cell? ⟨p, 1, none⟩ = some (.slice A n c) ∧ W.cell? ⟨p, 2, none⟩ = some (.slice A' n' c') ∧ W.cell? ⟨p, 4, none⟩ = some (.slice Aa na ca) ∧ W.cell? ⟨p, 5, none⟩ = some (.slice Ag ng cg)) := Lib.hid (fun W hW => by
    have h1 := HKp.out.below hW HKp.out.lt
    exact ⟨h1.cell 1, h1.cell 2, h1.cell 4, h1.cell 5⟩)
  simp only [StL.val, Sl.val]
  go_enter Try.func12, Try.ntmps12
  obtain ⟨x1, x2, x3, x4⟩ := HX.out W1 (Below.refl _ _)
  go_wp2_with fail
  rw [← hW1, ← hp]
  clear hW1 hp
  go_wp2_with fail
  go_loopw [3, 11] (fun x j wr => ∃ (i : Nat) (k : Int), j = .int .i64 i ∧ i ≤ n' ∧ x = .int .i64 k ∧ Below W1.heap.size W1 wr) (fun _ j _ => n' - (intOf j).toNat)
  case atStart => exact ⟨0, 0, rfl, by omega, rfl, Below.refl _ _⟩
  case round =>
    obtain ⟨i, k, rfl, hi, rfl, hb⟩ := hrel
    obtain ⟨w1, rfl⟩ : ∃ w1 : World, w1 = wr := ⟨_, rfl⟩
    have HB := Lib.hid hb
    clear hb x1 x2 x3 x4
    obtain ⟨x1, x2, x3, x4⟩ := HX.out w1 HB.out
    by_cases hlt : i < n'
    · have hil : i < es.length := by rw [HL2.out]; exact hlt
      have HIw := Lib.hid (HI.out.next (HB1.out.trans (HB.out.mono HB1.out.size)))
      obtain ⟨b, off, rfl, _, hc⟩ := sdR.spots HIw.out.es.rd (show 0 < n' by omega)
      have hg : es[i]? = some es[i] := List.getElem?_eq_getElem hil
      obtain ⟨r, hr⟩ : ∃ r, r = es[i] := ⟨_, rfl⟩
      rw [← hr] at hg
      have m0 := hc i r hg 0 _ rfl
      have m1 := hc i r hg 1 _ rfl
      have m2 := hc i r hg 2 _ rfl
      have m3 := hc i r hg 3 _ rfl
      obtain ⟨⟨ra, rb, ro, rs⟩, ⟨A1, n1, c1⟩⟩ := r
      simp only [sdR, Nat.add_zero, Sl.val, ← Nat.add_assoc] at m0 m1 m2 m3
      have HB2 : Hid (Below W1.heap.size W1 (w1.alloc (.cells #[.int .i64 ra, .int .i64 rb, .slice A1 n1 c1, .int .i64 rs] 50))) := Lib.hid (HB.out.alloc HB.out.size _)
      clear hc hr hg HIw
      by_cases h9 : (16384 : Int) < wrap64 (k + (n1 : Int))
      · go_wp2
        go_ret
        exact ⟨⟨_, rfl⟩, HB1.out.trans (HB2.out.mono HB1.out.size)⟩
      · go_wp2
        go_roundw
        case rel => exact ⟨i + 1, wrap64 (k + (n1 : Int)), by go_num, by omega, rfl, HB2.out⟩
        case measure => simp [intOf]; omega
    · go_wp2
      go_loopw [3, 26] (fun x j wr => ∃ (i : Nat) (k : Int), j = .int .i64 i ∧ i ≤ n ∧ x = .int .i64 k ∧ Below W1.heap.size W1 wr) (fun _ j _ => n - (intOf j).toNat)
      case atStart => exact ⟨0, k, rfl, by omega, rfl, HB.out⟩
      case round =>
        clear HB x1 x2 x3 x4
        obtain ⟨i, k, rfl, hi, rfl, hb⟩ := hrel
        obtain ⟨w2, rfl⟩ : ∃ w1 : World, w1 = wr := ⟨_, rfl⟩
        have HB := Lib.hid hb
        clear hb
        obtain ⟨x1, x2, x3, x4⟩ := HX.out w2 HB.out
        by_cases hlt : i < n
        · have hil : i < os.length := by rw [HL1.out]; exact hlt
          have HIw := Lib.hid (HI.out.next (HB1.out.trans (HB.out.mono HB1.out.size)))
          obtain ⟨b, off, rfl, _, hc⟩ := owR.spots HIw.out.os.rd (show 0 < n by omega)
          have hg : os[i]? = some os[i] := List.getElem?_eq_getElem hil
          obtain ⟨r, hr⟩ : ∃ r, r = os[i] := ⟨_, rfl⟩
          rw [← hr] at hg
          have m0 := hc i r hg 0 _ rfl
          have m1 := hc i r hg 1 _ rfl
          have m2 := hc i r hg 2 _ rfl
          obtain ⟨⟨ra, rm, rc⟩, ⟨A1, n1, c1⟩⟩ := r
          simp only [owR, Nat.add_zero, Sl.val, ← Nat.add_assoc] at m0 m1 m2
          have HB2 : Hid (Below W1.heap.size W1 (w2.alloc (.cells #[.int .i64 ra, .int .i64 rm, .slice A1 n1 c1] 55))) := Lib.hid (HB.out.alloc HB.out.size _)
          clear hc hr hg HIw
          by_cases h9 : (16384 : Int) < wrap64 (k + (n1 : Int))
          · go_wp2
            go_ret
            exact ⟨⟨_, rfl⟩, HB1.out.trans (HB2.out.mono HB1.out.size)⟩
          · go_wp2
            go_roundw
            case rel => exact ⟨i + 1, wrap64 (k + (n1 : Int)), by go_num, by omega, rfl, HB2.out⟩
            case measure => simp [intOf]; omega
        · by_cases c1 : 1024 < n' <;> by_cases c2 : 1024 < n <;> by_cases c3 : 1024 < na
          all_goals
            go_wp2
            go_ret
            exact ⟨⟨_, rfl⟩, HB1.out.trans (HB.out.mono HB1.out.size)⟩
end Go.Proofs.Ytiaafhcfeeekeaa.Pk

/- A state that can be is small enough to be handed over. -/
namespace Go.Proofs.Ytiaafhcfeeekeaa.Pk
open Go.RowKit Go.Proofs.Ytiaafhcfeeekeaa.Gr
set_option linter.unusedVariables false
theorem good_len {l : List Ce} {me : Int} {sink : Bool} (h : GoodK l me sink) : l.length ≤ openK l + 1 := by
  rcases Nat.eq_zero_or_pos l.length with h0 | h0
  · omega
  have key : ∀ k, k + 1 ≤ l.length → openK (l.take k) = k := by
    intro k
    induction k with
    | zero => intro _; rfl
    | succ k ih =>
      intro hk
      have hc := (h.2 k (by omega)).2.2.2
      have h1 := (h.2 k (by omega)).1
      rw [if_neg (by omega)] at hc
      rw [openK_take (by omega), ih (by omega), if_pos (by have := hc.1.1; omega)]
  have h2 : openK (l.take (l.length - 1)) ≤ openK l := by
    have e := List.take_append_drop (l.length - 1) l
    unfold openK
    conv => rhs; rw [← e]
    rw [List.filter_append, List.length_append]
    omega
  rw [key (l.length - 1) (by omega)] at h2
  omega
theorem sumK_mem {l : List Ow} {o : Ow} (h : o ∈ l) : openK o.c ≤ sumK l := by
  induction l with
  | nil => cases h
  | cons x r ih =>
    simp only [sumK]
    rcases List.mem_cons.1 h with rfl | h
    · omega
    · have := ih h; omega
theorem i64_of {x : Int} (h : -1 ≤ x ∧ x ≤ 1099511627776) : I64 x := by unfold I64; omega
theorem nbs_rng {ps : List Int} {me : Int} : ∀ v ∈ nbsI ps me, 0 ≤ v ∧ v < (ps.length : Int) := by
  intro v hv
  unfold nbsI at hv
  split at hv
  · unfold nbs at hv
    obtain ⟨u, hu, rfl⟩ := List.mem_map.1 hv
    have := List.mem_range.1 (List.mem_filter.1 hu).1
    omega
  · cases hv
theorem good_few {ps : List Int} (G : Gr.Good ps) {s : St} (h : GoodS ps s) : FewS s := by
  have hn := G.few
  have hme := h.me
  have hq := h.q
  obtain ⟨g1, g2, g3, g4⟩ := good_parts.1 h
  have hes : s.es.length ≤ 32 := by
    have e := congrArg List.length h.ps_
    rw [List.length_map] at e
    rw [e]
    unfold nbsI
    rw [if_pos hme]
    exact Nat.le_trans (nbs_len _ _ _) hn
  refine ⟨i64_of (by omega), i64_of (by omega), by have := h.many.2; omega, by omega, by have := h.an; omega, by have := g4.2.2.1; omega, fun o ho => ?_, fun e he => ?_, fun a ha => ?_, fun f hf => ?_⟩
  · have k := h.os o ho
    have hl := good_len k.2.2.1
    have h8 := sumK_mem ho
    have hf := h.few
    refine ⟨?_, i64_of (by have := k.2.1; omega), by omega, fun c hc => ?_⟩
    · rcases k.1 with e | e
      · rw [e]; exact i64_of (by omega)
      · have := nbs_rng _ e; exact i64_of (by omega)
    · obtain ⟨i, hi⟩ := List.getElem?_of_mem hc
      have hil := (List.getElem?_eq_some_iff.1 hi).1
      have hk := k.2.2.1.2 i hil
      rw [CellOk, ceA_of hi] at hk
      obtain ⟨⟨a1, a2, a3, a4⟩, _, _, h4⟩ := hk
      have hdx : (-1 ≤ c.d ∧ c.d < 32) ∧ 0 ≤ c.x ∧ c.x ≤ 1099511627776 := by
        split at h4
        · obtain ⟨e1, e2⟩ := h4; omega
        · obtain ⟨⟨_, e2, e3, e4, e5⟩, _⟩ := h4; omega
      exact ⟨i64_of (by omega), i64_of (by omega), i64_of (by omega), i64_of (by omega)⟩
  · have k := (h.es e he).1
    obtain ⟨k1, k2, k3, k4, k5, k6, k7, k8⟩ := k
    exact ⟨i64_of (by omega), i64_of (by omega), i64_of (by omega), by omega, fun m hm => (k8 m hm).i⟩
  · have k := asks_mem g4.2.2.2.1 a ha
    have := h.many.2
    exact ⟨i64_of (by omega), i64_of (by omega)⟩
  · have k := g4.2.2.2.2 f hf
    have := h.many.2
    unfold GotOk at k
    exact ⟨i64_of (by omega), i64_of (by omega), i64_of (by omega)⟩
theorem zero_few : FewS St.zero := by
  have z : I64 (0 : Int) := by unfold I64; omega
  refine ⟨z, z, by simp [St.zero], by simp [St.zero], by simp [St.zero], by simp [St.zero], fun x h => (by cases h), fun x h => (by cases h), fun x h => (by cases h), fun x h => (by cases h)⟩
theorem applyS_zero {ps : List Int} {s : St} {ev : Ev} (h : (applyS ps s ev).2.2 = 0) : GoodS ps s ∧ (stepS ps s ev).2.2 = 0 ∧ applyS ps s ev = stepS ps s ev := by
  by_cases hg : GoodS ps s
  · by_cases he : (stepS ps s ev).2.2 = 0
    · exact ⟨hg, he, applyS_ok hg he⟩
    · rw [applyS_err hg he] at h; exact absurd h he
  · rw [applyS_bad hg] at h; cases h
theorem applyS_nz {ps : List Int} {s : St} {ev : Ev} (h : (applyS ps s ev).2.2 ≠ 0) : (applyS ps s ev).1 = St.zero ∧ (applyS ps s ev).2.1 = 0 := by
  by_cases hg : GoodS ps s
  · by_cases he : (stepS ps s ev).2.2 = 0
    · rw [applyS_ok hg he] at h; exact absurd he h
    · rw [applyS_err hg he]; exact ⟨rfl, rfl⟩
  · rw [applyS_bad hg]; exact ⟨rfl, rfl⟩
theorem applyS_few {ps : List Int} (G : Gr.Good ps) {s : St} {ev : Ev} : FewS (applyS ps s ev).1 := by
  by_cases h : (applyS ps s ev).2.2 = 0
  · obtain ⟨hg, he, e⟩ := applyS_zero h
    rw [e]
    exact good_few G (step_good G hg he)
  · rw [(applyS_nz h).1]; exact zero_few
end Go.Proofs.Ytiaafhcfeeekeaa.Pk

/- What package state promises (to be proved of the code that lands): Good. -/
namespace Go.Proofs.Ytiaafhcfeeekeaa.Pk
open Go.RowKit Go.Proofs.Ytiaafhcfeeekeaa.Gr
set_option linter.unusedVariables false
def StGoodP : Prop := ∀ (T g : Nat) (ps : List Int) (s : StL) (w : World), IsTr w T g ps → Gr.Good ps → InS w s →
  Calls Try.prog 14 #[.pointer (some ⟨T, 0, none⟩), s.val] w fun e w' => ∃ b, e = .returned (.bool b) ∧ (b = true ↔ GoodS ps s.v) ∧ Below w.heap.size w w'
def StGoodZ : Prop := ∀ (s : StL) (w : World), InS w s → Calls Try.prog 14 #[.pointer none, s.val] w fun e w' => e = .returned (.bool false) ∧ Below w.heap.size w w'
end Go.Proofs.Ytiaafhcfeeekeaa.Pk

/- P15.3: an object isn't lost by a call. P15.4: who looks turns nothing. -/
namespace Go.Proofs.Ytiaafhcfeeekeaa.Pk
open Go.Proofs.Ytiaafhcfeeekeaa.Gr
set_option linter.unusedVariables false
/-- Cells that aren't waiting. -/
def offN (l : List Ce) : Nat := (l.filter fun c => decide (c.s ≠ 1)).length
def passL (l : List Mg) (k : Int) : Nat := (l.filter fun m => decide (m.k = 2 ∧ m.o = k)).length
/-- Passes for an object. -/
def passN : List Hf → Int → Nat
  | [], _ => 0
  | e :: r, k => passL e.o k + passN r k
theorem offN_add (l : List Ce) (x : Int) : offN (addK l x) = offN l := by
  unfold offN addK
  rw [List.filter_append, List.length_append]; rfl
theorem offN_rest {l : List Ce} (h : ∀ c ∈ l, c.s = 1) : offN l = 0 := by
  unfold offN
  rw [List.length_eq_zero_iff, List.filter_eq_nil_iff]
  intro c hc
  simp [h c hc]
theorem good_tail {c : Ce} {r : List Ce} {me : Int} {sink : Bool} (h : GoodK (c :: r) me sink) : ∀ x ∈ r, x.s = 1 := by
  intro x hx
  obtain ⟨i, hi⟩ := List.getElem?_of_mem hx
  have hil := (List.getElem?_eq_some_iff.1 hi).1
  have h1 := (h.2 (i + 1) (by simp; omega)).2.1 (by omega)
  rw [ceA_of (show (c :: r)[i + 1]? = some x by simpa using hi)] at h1
  exact h1.2
theorem offN_cons {c : Ce} {r : List Ce} (h : ∀ x ∈ r, x.s = 1) : offN (c :: r) = if c.s = 1 then 0 else 1 := by
  have := offN_rest h
  unfold offN at this ⊢
  by_cases hc : c.s = 1
  · rw [List.filter_cons_of_neg (by simp [hc]), if_pos hc]; exact this
  · rw [List.filter_cons_of_pos (by simp [hc]), List.length_cons, if_neg hc]; omega
theorem offN_one {l : List Ce} {me : Int} {sink : Bool} (h : GoodK l me sink) : offN l ≤ 1 := by
  cases l with
  | nil => exact Nat.zero_le _
  | cons c r => rw [offN_cons (good_tail h)]; split <;> omega
theorem offN_hold {l : List Ce} {me : Int} {sink : Bool} (h : GoodK l me sink) (hp : 0 < l.length) (hs : (ceA l 0).s = 1) : offN (holdK l) = offN l + 1 := by
  cases l with
  | nil => simp at hp
  | cons c r =>
    have hs : c.s = 1 := hs
    have e : holdK (c :: r) = ⟨c.n, 2, c.d, c.x⟩ :: r := rfl
    rw [e, offN_cons (good_tail h), offN_cons (good_tail h), if_pos hs]
    simp
theorem offN_set {l : List Ce} {k : Nat} {d x : Int} (hk : k < l.length) : offN (l.set k ⟨(ceA l k).n, (ceA l k).s, d, x⟩) = offN l := by
  induction l generalizing k with
  | nil => simp at hk
  | cons c r ih =>
    cases k with
    | zero =>
      show offN (⟨c.n, c.s, d, x⟩ :: r) = _
      unfold offN
      by_cases hc : c.s = 1
      · rw [List.filter_cons_of_neg (by simp [hc]), List.filter_cons_of_neg (by simp [hc])]
      · rw [List.filter_cons_of_pos (by simp [hc]), List.filter_cons_of_pos (by simp [hc])]; rfl
    | succ k =>
      have h := ih (k := k) (by simpa using hk)
      have e : ceA (c :: r) (k + 1) = ceA r k := rfl
      rw [e, List.set_cons_succ]
      unfold offN at h ⊢
      by_cases hc : c.s = 1
      · rw [List.filter_cons_of_neg (by simp [hc]), List.filter_cons_of_neg (by simp [hc])]; exact h
      · rw [List.filter_cons_of_pos (by simp [hc]), List.filter_cons_of_pos (by simp [hc]), List.length_cons, List.length_cons, h]
theorem offN_succ {l : List Ce} {me d x : Int} {sink : Bool} (h : GoodK l me sink) : offN (succK l d x).1 + (if (succK l d x).2 = true then 1 else 0) = offN l := by
  rcases Nat.eq_zero_or_pos l.length with h0 | h0
  · rw [succK_nil h0, List.length_eq_zero_iff.1 h0]; rfl
  · obtain ⟨k, hk⟩ : ∃ k, l.length = k + 1 := ⟨l.length - 1, by omega⟩
    by_cases hs : (ceA l k).s = 3
    · have hk0 : k = 0 := h.first (by omega) (by omega)
      subst hk0
      rw [succK_rest hk hs]
      cases l with
      | nil => simp at hk
      | cons c r =>
        have hr : r = [] := List.length_eq_zero_iff.1 (by simpa using hk)
        subst hr
        have hs : c.s = 3 := hs
        have e1 : offN [c] = 1 := by rw [offN_cons (fun x hx => by cases hx)]; exact if_neg (by omega)
        rw [e1]; rfl
    · rw [succK_set hk hs]
      simp only [Bool.false_eq_true, if_false, Nat.add_zero]
      exact offN_set (by omega)
theorem offN_own {l : List Ce} {me num : Int} (h : GoodK l me true) (hm : 0 ≤ me ∧ me < 32) (hx : (ceA l (l.length - 1)).n < num) (hle : num ≤ 1099511627776) : offN (ownK l me num) = offN l := by
  have h1 := offN_succ (d := me) (x := num) h
  have hst := stayG_add h hm hx hle
  unfold ownK
  split
  · rename_i hr
    rw [if_pos hr] at h1
    have hpos := h.1 rfl
    obtain ⟨k, hk⟩ : ∃ k, l.length = k + 1 := ⟨l.length - 1, by omega⟩
    have hs : (ceA l k).s = 3 := Classical.byContradiction fun hs => by
      rw [succK_on hk hs] at hr; cases hr
    have hk0 : k = 0 := h.first (by omega) (by omega)
    subst hk0
    have e : addK (succK l me num).1 num = [⟨num, 1, -1, 0⟩] := by rw [succK_rest hk hs]; rfl
    rw [offN_hold hst.1 (by rw [e]; simp) (by rw [e]; rfl), offN_add]
    omega
  · rename_i hr
    rw [if_neg hr] at h1
    rw [offN_add]; omega
/-- What a release takes away: the object, if it goes. -/
theorem offN_rel {l : List Ce} {me : Int} {sink : Bool} (h : GoodK l me sink) {k : Nat} (hh : heldAt l = some k) : offN (relK l).1 + (if (relK l).2.1 = -1 then 0 else 1) = offN l ∧
    ((relK l).2.1 = me → (relK l).2.1 ≠ -1 → 0 < (relK l).1.length ∧ (ceA (relK l).1 0).n = (relK l).2.2.1 ∧ (ceA (relK l).1 0).s = 1) := by
  obtain ⟨e, hk, hks, -⟩ := held_some hh
  have hk0 : k = 0 := h.first hk (by omega)
  subst hk0
  cases l with
  | nil => simp at hk
  | cons c r =>
    have e0 : ceA (c :: r) 0 = c := rfl
    rw [e0] at e hks
    have ht := good_tail h
    have hc := (h.2 0 hk).2.2.2
    rw [e0] at hc
    have e1 : offN (c :: r) = 1 := by rw [offN_cons ht]; exact if_neg (by omega)
    rw [e1, e]
    by_cases hd : c.d = -1
    · rw [if_pos hd]
      refine ⟨?_, fun _ h9 => absurd rfl h9⟩
      show offN (⟨c.n, 3, c.d, c.x⟩ :: r) + 0 = 1
      rw [offN_cons ht]; rfl
    · rw [if_neg hd]
      have hnl : ¬ (sink = true ∧ 0 + 1 = (c :: r).length) := fun hl => by
        rw [if_pos hl] at hc
        exact hd hc.1
      rw [if_neg hnl] at hc
      refine ⟨?_, fun hme _ => ?_⟩
      · show offN ((c :: r).eraseIdx 0) + (if c.d = -1 then 0 else 1) = 1
        rw [List.eraseIdx_cons_zero, offN_rest ht, if_neg hd]
      · have h9 := hc.2 hme
        show 0 < ((c :: r).eraseIdx 0).length ∧ _
        rw [List.eraseIdx_cons_zero]
        have hr : 0 < r.length := by have := h9.1; simp at this; omega
        refine ⟨hr, h9.2, ?_⟩
        exact ht _ (List.mem_of_getElem? (ceA_get hr))
theorem passL_add (l : List Mg) (m : Mg) (k : Int) : passL (l ++ [m]) k = passL l k + (if m.k = 2 ∧ m.o = k then 1 else 0) := by
  unfold passL
  rw [List.filter_append, List.length_append]
  by_cases h : m.k = 2 ∧ m.o = k
  · rw [if_pos h]; simp [h.1, h.2]
  · rw [if_neg h]
    have e : [m].filter (fun m => decide (m.k = 2 ∧ m.o = k)) = [] := List.filter_eq_nil_iff.2 (fun x hx => by
      rw [List.mem_singleton.1 hx]; simpa using h)
    rw [e]; rfl
theorem passN_set (es : List Hf) (i : Nat) (e : Hf) (k : Int) (hi : i < es.length) : passN (es.set i e) k + passL (es.getD i Hf.zero).o k = passN es k + passL e.o k := by
  induction es generalizing i with
  | nil => simp at hi
  | cons x r ih =>
    cases i with
    | zero => simp only [List.set_cons_zero, passN, List.getD_cons_zero]; omega
    | succ i =>
      have := ih i (by simpa using hi)
      simp only [List.set_cons_succ, passN, List.getD_cons_succ]
      omega
/-- What pushing makes of the sides. -/
theorem push_sides {s : St} {p : Int} {m : Mg} (he : (pushS s p m).2 = 0) : (edgeAt s p = none ∧ (pushS s p m).1 = s) ∨ ∃ i, edgeAt s p = some i ∧ i < s.es.length ∧ m.Be ∧ (pushS s p m).1 = setE s i ((sideA s i).add m) := by
  unfold pushS at he ⊢
  cases h : edgeAt s p with
  | none => exact .inl ⟨rfl, rfl⟩
  | some i =>
    rw [h] at he
    simp only at he ⊢
    by_cases h0 : (hpush (sideA s i) m).2 = 0
    · obtain ⟨h1, h2, h3, h4⟩ := hpush_ok h0
      rw [if_pos h0, h4]
      exact .inr ⟨i, rfl, (edgeAt_some h).1, h2, rfl⟩
    · rw [if_neg h0] at he
      exact absurd he h0
theorem edge_there {ps : List Int} {s : St} {p : Int} (h : PartE ps s) (hp : p ∈ nbsI ps s.me) : ∃ i, edgeAt s p = some i := by
  rw [← h.1] at hp
  obtain ⟨e, he, rfl⟩ := List.mem_map.1 hp
  cases hh : edgeAt s e.p with
  | some i => exact ⟨i, rfl⟩
  | none =>
    unfold edgeAt at hh
    rw [List.findIdx?_eq_none_iff] at hh
    have := hh e he
    simp at this
theorem next_near {ps : List Int} (G : Gr.Good ps) {a b : Int} (ha : 0 ≤ a ∧ a < (ps.length : Int)) (hb : 0 ≤ b ∧ b < (ps.length : Int)) (hne : b ≠ a) : nextI ps a b ∈ nbsI ps a := by
  obtain ⟨m, rfl⟩ : ∃ m : Nat, a = (m : Int) := ⟨a.toNat, by omega⟩
  obtain ⟨h, rfl⟩ : ∃ h : Nat, b = (h : Int) := ⟨b.toNat, by omega⟩
  have hm : m < ps.length := by omega
  have hh : h < ps.length := by omega
  rw [nextI_nx hm hh]
  have X := G.nx_is
  have e : ¬ h = m := fun e => hne (by rw [e])
  have hlt := X.lt m h hm hh
  unfold nbsI
  rw [if_pos ⟨by omega, by omega⟩]
  unfold nbs
  refine List.mem_map.2 ⟨nx ps m h, List.mem_filter.2 ⟨List.mem_range.2 hlt, ?_⟩, rfl⟩
  rw [show ((m : Int)).toNat = m by omega]
  exact (G.near_iff hlt hm).2 (X.nr m h hm hh (fun e2 => e e2.symm))
/-- The passes behind a push. -/
theorem push_pass {ps : List Int} {s : St} {p : Int} {m : Mg} (hE : PartE ps s) (hp : p ∈ nbsI ps s.me) (he : (pushS s p m).2 = 0) (k : Int) : passN (pushS s p m).1.es k = passN s.es k + (if m.k = 2 ∧ m.o = k then 1 else 0) := by
  rcases push_sides he with ⟨h1, _⟩ | ⟨i, h1, h2, _, h4⟩
  · obtain ⟨i, hi⟩ := edge_there hE hp
    rw [hi] at h1; cases h1
  · rw [h4]
    have h := passN_set s.es i ((sideA s i).add m) k h2
    have e : passL ((sideA s i).add m).o k = passL (sideA s i).o k + (if m.k = 2 ∧ m.o = k then 1 else 0) := passL_add _ _ _
    rw [e] at h
    show passN (s.es.set i _) k = _
    unfold sideA at h ⊢
    omega
theorem push_nopass {s : St} {p : Int} {m : Mg} (hm : m.k ≠ 2) (k : Int) : passN (pushS s p m).1.es k = passN s.es k := by
  by_cases he : (pushS s p m).2 = 0
  · rcases push_sides he with ⟨h1, h2⟩ | ⟨i, h1, h2, _, h4⟩
    · rw [h2]
    · rw [h4]
      have h := passN_set s.es i ((sideA s i).add m) k h2
      have e : passL ((sideA s i).add m).o k = passL (sideA s i).o k + (if m.k = 2 ∧ m.o = k then 1 else 0) := passL_add _ _ _
      rw [e, if_neg (fun q => hm q.1)] at h
      show passN (s.es.set i _) k = _
      unfold sideA at h ⊢
      omega
  · have : (pushS s p m).1 = s := by
      unfold pushS at he ⊢
      cases h : edgeAt s p with
      | none => rfl
      | some i =>
        rw [h] at he
        simp only at he ⊢
        split
        · rename_i h0
          rw [if_pos h0] at he
          exact absurd rfl he
        · rfl
    rw [this]
/-- What is counted of an object. -/
def thereN (s : St) (k : Nat) : Nat := offN (objA s k).c + passN s.es (k : Int)
theorem objA_setO (s : St) {k j : Nat} (o : Ow) (hk : k < s.os.length) : objA (setO s k o) j = if j = k then o else objA s j := by
  unfold objA setO
  simp only
  by_cases h : j = k
  · subst h
    rw [if_pos rfl, List.getD_eq_getElem?_getD, List.getElem?_set_self hk]; rfl
  · rw [if_neg h, List.getD_eq_getElem?_getD, List.getElem?_set_ne (Ne.symm h), ← List.getD_eq_getElem?_getD]
theorem thereN_setO {s : St} {k : Nat} {o : Ow} (hk : k < s.os.length) (j : Nat) : thereN (setO s k o) j = if j = k then offN o.c + passN s.es (k : Int) else thereN s j := by
  unfold thereN
  rw [objA_setO s o hk]
  by_cases h : j = k
  · rw [if_pos h, if_pos h, h]; rfl
  · rw [if_neg h, if_neg h]; rfl
theorem thereN_push {ps : List Int} {s : St} {p : Int} {m : Mg} (hE : PartE ps s) (hp : p ∈ nbsI ps s.me) (he : (pushS s p m).2 = 0) (j : Nat) : thereN (pushS s p m).1 j = thereN s j + (if m.k = 2 ∧ m.o = (j : Int) then 1 else 0) := by
  unfold thereN
  rw [objA_push, push_pass hE hp he]
  omega
theorem thereN_look {s : St} {p : Int} {m : Mg} (hm : m.k ≠ 2) (j : Nat) : thereN (pushS s p m).1 j = thereN s j := by
  unfold thereN
  rw [objA_push, push_nopass hm]
theorem tell_os (s : St) (m : Mg) : (tellS s m).os = s.os ∧ (tellS s m).es = s.es ∧ (tellS s m).me = s.me ∧ (tellS s m).q = s.q := by
  unfold tellS
  split <;> exact ⟨rfl, rfl, rfl, rfl⟩
theorem thereN_same {s t : St} (h1 : t.os = s.os) (h2 : t.es = s.es) (j : Nat) : thereN t j = thereN s j := by
  unfold thereN objA
  rw [h1, h2]
/-- A Pass goes: it is there once more, in an Out or as a cell that holds. -/
theorem thereN_pass {ps : List Int} (G : Gr.Good ps) {s : St} {m : Mg} (h : GoodS ps s) (hm : MeantS (ps.length : Int) (s.os.length : Int) m) (hk : m.k = 2) (he : (towardS ps s m).2 = 0)
    (hc : m.n = s.me → 0 < (objA s m.o.toNat).c.length ∧ (ceA (objA s m.o.toNat).c 0).n = m.u ∧ (ceA (objA s m.o.toNat).c 0).s = 1) (j : Nat) : thereN (towardS ps s m).1 j = thereN s j + (if m.o = (j : Int) then 1 else 0) := by
  obtain ⟨g1, g2, g3, g4⟩ := good_parts.1 h
  unfold towardS at he ⊢
  by_cases hn : m.n ≠ s.me
  · rw [if_pos hn] at he ⊢
    rw [thereN_push g3 (next_near G g1 ⟨hm.2.2.1, hm.2.2.2.1⟩ hn) he, hk]
    simp
  · rw [if_neg hn, if_pos hk]
    have hkl : m.o.toNat < s.os.length := by have := hm.1; have := hm.2.1; omega
    have ho := h.os _ (obj_mem hkl)
    have hcc := hc (Classical.byContradiction hn)
    unfold passS
    rw [if_pos hcc, thereN_setO hkl]
    have h0 := hm.1
    by_cases hj : j = m.o.toNat
    · rw [if_pos hj, if_pos (by omega), hj]
      show offN (holdK _) + _ = _
      rw [offN_hold ho.2.2.1 hcc.1 hcc.2.2]
      unfold thereN
      omega
    · rw [if_neg hj, if_neg (by omega), Nat.add_zero]
/-- P15.3. -/
theorem step_loses {ps : List Int} (G : Gr.Good ps) {s : St} {ev : Ev} (h : GoodS ps s) (he : (stepS ps s ev).2.2 = 0) (h4 : ev.k ≠ 4) (j : Nat) : thereN (stepS ps s ev).1 j = thereN s j := by
  have hn32 := G.few
  have hme := h.me
  obtain ⟨g1, g2, g3, g4⟩ := good_parts.1 h
  unfold stepS at he ⊢
  by_cases h1 : ev.k < 1 ∨ 4 < ev.k
  · rw [if_pos h1] at he; cases he
  rw [if_neg h1, if_neg h4] at he ⊢
  by_cases h3 : ev.o < 0 ∨ (s.os.length : Int) ≤ ev.o
  · rw [if_pos h3] at he; cases he
  rw [if_neg h3] at he ⊢
  have hk : ev.o.toNat < s.os.length := by omega
  obtain ⟨k, hkk⟩ : ∃ k, k = ev.o.toNat := ⟨_, rfl⟩
  rw [← hkk] at he hk ⊢
  have ho := h.os _ (obj_mem hk)
  have hm := ho.2.1
  by_cases ha : ev.k = 1
  · rw [if_pos ha] at he ⊢
    unfold acqS at he ⊢
    by_cases h8 : 8 ≤ sumK s.os
    · rw [if_pos h8] at he; cases he
    rw [if_neg h8] at he ⊢
    by_cases hM : (objA s k).m = 1099511627776
    · rw [if_pos hM] at he; cases he
    rw [if_neg hM] at he ⊢
    by_cases hs : (objA s k).a = s.me
    · rw [if_pos hs]
      have hg := ho.2.2.1
      rw [decide_eq_true hs] at hg
      have hpos := hg.1 rfl
      have htop := made_top (fun c hc => (ho.2.2.2 c hc).1) (show (objA s k).c.length - 1 < (objA s k).c.length by omega)
      show thereN (setO s k _) j = _
      rw [thereN_setO hk]
      split
      · rename_i hj
        subst hj
        show offN (ownK _ _ _) + _ = _
        rw [offN_own hg ⟨hme.1, by omega⟩ (by omega) (by omega)]; rfl
      · rfl
    · rw [if_neg hs] at he ⊢
      by_cases hp : (pushS s (objA s k).a ⟨1, (k : Int), s.me, (objA s k).m + 1, 0⟩).2 = 0
      · rw [if_pos hp]
        show thereN (setO _ k _) j = _
        rw [thereN_setO (by rw [(pushS_same _ _ _).2.1]; exact hk)]
        split
        · rename_i hj
          subst hj
          show offN (addK _ _) + _ = _
          rw [offN_add, push_nopass (by simp)]; rfl
        · exact thereN_look (by simp) j
      · rw [if_neg hp] at he
        exact absurd he hp
  · rw [if_neg ha] at he ⊢
    by_cases hr : ev.k = 2
    · rw [if_pos hr] at he ⊢
      simp only at he ⊢
      unfold relS at he ⊢
      cases hh : heldAt (objA s k).c with
      | none =>
        have e := (held_none hh).1
        rw [e] at he
        cases he
      | some i =>
        obtain ⟨q1, q2, q3, _⟩ := stay_rel ho.2.2.1 hh
        obtain ⟨f1, f2⟩ := offN_rel ho.2.2.1 hh
        rw [if_neg (by rw [q3]; simp)] at he ⊢
        have hgood : GoodS ps (setO s k ⟨(objA s k).a, (objA s k).m, (relK (objA s k).c).1⟩) := by
          refine good_setO h ⟨ho.1, ho.2.1, q1, fun c hc => ?_⟩ hk ?_
          · obtain ⟨c0, h0, e1, e2⟩ := mem_rel hc
            have h9 := ho.2.2.2 c0 h0
            rw [e1, e2]; exact h9
          · show sumK s.os + openK (relK _).1 ≤ _
            have := h.few
            omega
        by_cases hd : (relK (objA s k).c).2.1 = -1
        · rw [if_pos hd, thereN_setO hk]
          split
          · rename_i hj
            subst hj
            rw [if_pos hd] at f1
            show offN (relK (objA s j).c).1 + passN s.es (j : Int) = offN (objA s j).c + passN s.es (j : Int)
            omega
          · rfl
        · rw [if_neg hd] at he f1 ⊢
          obtain ⟨r1, r2, r3, c, hc, r4⟩ := rel_next ho.2.2.1 hh hd
          have h9 := ho.2.2.2 c hc
          have hl : (setO s k ⟨(objA s k).a, (objA s k).m, (relK (objA s k).c).1⟩).os.length = s.os.length := by show (s.os.set _ _).length = _; rw [List.length_set]
          have e3 : objA (setO s k ⟨(objA s k).a, (objA s k).m, (relK (objA s k).c).1⟩) ((k : Int)).toNat = ⟨(objA s k).a, (objA s k).m, (relK (objA s k).c).1⟩ := by
            rw [show ((k : Int)).toNat = k by omega, objA_setO s _ hk, if_pos rfl]
          rw [thereN_pass G hgood ⟨by show (0 : Int) ≤ (k : Int); omega, by rw [hl]; show (k : Int) < _; omega, r1, by show (relK _).2.1 < _; rw [← r4]; exact h9.2, by show (0 : Int) ≤ 0; omega, by show (0 : Int) < _; omega⟩ rfl he (fun hme2 => by
            show 0 < (objA _ ((k : Int)).toNat).c.length ∧ _
            rw [e3]
            exact f2 hme2 hd), thereN_setO hk]
          show _ + (if (k : Int) = (j : Int) then 1 else 0) = _
          by_cases hj : j = k
          · subst hj
            rw [if_pos rfl, if_pos rfl]
            show offN (relK (objA s j).c).1 + passN s.es (j : Int) + 1 = offN (objA s j).c + passN s.es (j : Int)
            omega
          · rw [if_neg hj, if_neg (by omega)]; rfl
    · rw [if_neg hr] at he ⊢
      unfold locS at he ⊢
      by_cases h4 : 4 ≤ s.as_.length
      · rw [if_pos h4] at he; cases he
      rw [if_neg h4] at he ⊢
      by_cases hM : s.q = 1099511627776
      · rw [if_pos hM] at he; cases he
      rw [if_neg hM] at he ⊢
      simp only
      unfold seekS
      split
      · rw [thereN_look (by simp)]
        exact thereN_same rfl rfl j
      · unfold towardS
        rw [if_neg (by simp), if_neg (by simp)]
        have := tell_os { s with q := s.q + 1, as_ := s.as_ ++ [⟨(k : Int), s.q + 1⟩] } ⟨4, (k : Int), s.me, s.q + 1, s.me⟩
        exact thereN_same this.1 this.2.1 j
/-- What a look leaves alone. -/
theorem toward_os {ps : List Int} {s : St} {m : Mg} (hk : m.k ≠ 2) : (towardS ps s m).1.os = s.os := by
  unfold towardS
  split
  · exact (pushS_same _ _ _).2.1
  · exact (tell_os s m).1
theorem seek_os {ps : List Int} {s : St} {m : Mg} : (seekS ps s m).1.os = s.os := by
  unfold seekS
  split
  · exact (pushS_same _ _ _).2.1
  · exact toward_os (by simp)
/-- P15.4. -/
theorem step_looks {ps : List Int} {s : St} {ev : Ev} (he : (stepS ps s ev).2.2 = 0) (hl : ev.k = 3 ∨ (ev.k = 4 ∧ (ev.g.s = 0 ∨ ev.g.m.k = 3 ∨ ev.g.m.k = 4))) : (stepS ps s ev).1.os = s.os := by
  unfold stepS at he ⊢
  by_cases h1 : ev.k < 1 ∨ 4 < ev.k
  · rw [if_pos h1]
  rw [if_neg h1] at he ⊢
  rcases hl with hl | ⟨hl, hg⟩
  · rw [if_neg (by omega)] at he ⊢
    by_cases h3 : ev.o < 0 ∨ (s.os.length : Int) ≤ ev.o
    · rw [if_pos h3]
    rw [if_neg h3, if_neg (by omega), if_neg (by omega)]
    unfold locS
    split
    · rfl
    · split
      · rfl
      · exact seek_os
  · rw [if_pos hl]
    show (gramS ps s ev.g).1.os = _
    unfold gramS
    split
    · rfl
    · cases edgeAt s ev.g.f with
      | none => rfl
      | some i =>
        simp only
        split
        · rename_i hf
          unfold comeS
          rcases hg with hg | hg | hg
          · have := hf.1; omega
          · rw [if_pos hg]; exact seek_os
          · rw [if_neg (by omega), if_pos (by omega)]; exact toward_os (by omega)
        · rfl
end Go.Proofs.Ytiaafhcfeeekeaa.Pk
