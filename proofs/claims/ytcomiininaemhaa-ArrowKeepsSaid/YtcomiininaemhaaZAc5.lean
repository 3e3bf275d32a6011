/- Package arrow as it landed: Follow and the function that it answers. -/
import Derived.Test.YtcomiininaemhaaZAc4
import Derived.Test.YtcomiininaemhaaZArSpecG
import Derived.Test.YtcomiininaemhaaZWArrowFollows
namespace Go.Proofs.Ytcomiininaemhaa.Pk
open Go.RowKit Go.Shelf Go.Proofs.Ytcomiininaemhaa.Gr
set_option linter.unusedVariables false
attribute [local go_sem] Oper.semAt_some
theorem hddF (k : Nat) : Fence.wide.depth.isSome = true → 1 ≤ k := fun h => by cases h
/-- A copy of numbers, whatever the slice. -/
theorem clone_all (A : Option Addr) (n c : Nat) (l : List Int) (w : World) (hr : Reads w w.heap.size 1 A n (nms l)) (hlen : n * 8 ≤ 140737488355328) :
    Calls Try.prog 34 #[.slice A n c] w fun e w' => ∃ v, e = .returned v ∧ OwnN w' w.heap.size v l ∧ Below w.heap.size w w' := by
  by_cases h0 : 0 < n
  · exact clone_any A n c l w w.heap.size hr (Nat.le_refl _) h0 hlen
  · have hn : n = 0 := by omega
    subst hn
    have hl : l = [] := by have := hr.plen; exact List.length_eq_zero_iff.1 this
    subst hl
    have HR := Lib.hid hr
    cases A with
    | none =>
      clear hr h0
      go_enter Try.func34, Try.ntmps34
      have E0 : (binOp .eql 26 (.slice none 0 c) (.slice none 0 0)).run Try.prog w = .ok (.bool true) w := Lib.run_eql_slice_nil w _ _ none 0 c 0 0 Try.underlying26
      go_wp2_with fail
      go_ret
      exact ⟨_, rfl, OwnN.none_ _ _, Below.refl _ _⟩
    | some ad =>
      clear hr h0
      go_enter Try.func34, Try.ntmps34
      have E0 : (binOp .eql 26 (.slice (some ad) 0 c) (.slice none 0 0)).run Try.prog w = .ok (.bool false) w := Lib.run_eql_slice_nil w _ _ (some ad) 0 c 0 0 Try.underlying26
      go_wp2_with (at_builtin; refine appNE w rfl (.tmp 5) (.tmp 6) rfl rfl w.heap.size (some ad) c [] 0 rfl HR.out (Nat.le_refl _) hlen ?_; intro v2 w2 hown2 hb2; have HO := Lib.hid hown2; have HB := Lib.hid hb2; clear hown2 hb2)
      go_ret
      exact ⟨_, rfl, HO.out, HB.out⟩
theorem makeBtI {F : Fence} {k : Nat} {ops : Array Oper} {rest : List Oper} {o : Oper} {a : Act} {Q : Exit → Act → World → Prop} (w : World) (hg : o.guard = none) (l c : Operand) (hop : o.op = Op.makeSlice 40 l c)
    (kl kc : IntKind) (n : Nat) (hl : a.eval l = .int kl (n : Int)) (hc : a.eval c = .int kc (n : Int)) (b2 : n ≤ 17592186044416)
    (hK : ∀ w', BlkT w' w.heap.size (List.replicate n false) → Below w.heap.size w w' → wpListIn F k Try.prog ops Q rest (a.put o.dst (.slice (some ⟨w.heap.size, 0, none⟩) n n)) w') :
    wpListIn F k Try.prog ops Q (o :: rest) a w := by
  obtain ⟨i0, hi0, hz0, hz1, hz2⟩ := info_parts bool_infoT
  refine wpListIn_plain hg fun K hK' => ?_
  obtain ⟨w', hrun, ho, hgr⟩ := run_make_full (P := Try.prog) w w.heap.size 40 4 i0 _ 1 Try.underlying40 hi0 hz0 hz1 kl kc n (by rw [hz2]; omega) (by unfold maxLen; omega) (Nat.le_refl _)
  unfold Oper.wpIn
  refine ⟨?_, ?_⟩
  · simp [Oper.about, hop]
  · rw [Oper.semAt_plain F _ _ (by rw [hop]; intro c hc'; cases hc')]
    simp [execOp, hop, hl, hc, hrun, Result.andThen]
    refine hK' _ _ (hK w' ?_ ((Below.refl _ _).grown hgr (Nat.le_refl _) (by simp)))
    have e : (madeCells (Value.bool false).cells (n * 1)).toList = blT (List.replicate n false) := by
      rw [Nat.mul_one]
      show (madeCells #[Value.bool false] n).toList = _
      rw [toList_madeCells_one]
      simp [blT]
    rw [e] at ho
    rcases ho.2 with ⟨h1, _⟩ | ⟨g, cap, cur, he, hb, hh, h3, h4, h5, h6⟩
    · cases h1
    · simp only [Value.slice.injEq, Option.some.injEq, Addr.mk.injEq] at he
      obtain ⟨⟨rfl, _⟩, _, rfl⟩ := he
      have hc : cur = (blT (List.replicate n false)).toArray := by
        apply Array.ext'
        rw [← h6, List.take_of_length_le (by simp [h5])]
      unfold BlkT Blk
      rw [← hc]; exact hh
/-- What Follow's function reads: its two boxes and the row of its own. -/
def FolB (x0 x1 : Nat) (v : Value) (b : Nat) : Prop := b = x0 ∨ b = x1 ∨ v.ownBlock = some b
def FolAt (W : World) (x0 x1 : Nat) (A : Option Addr) (n c : Nat) (ar : List Int) (f : Int) : Prop :=
  Blk W x0 26 #[.slice A n c] ∧ Blk W x1 3 #[.int .i64 f] ∧ OwnN W 0 (.slice A n c) ar
theorem FolAt.lt {W : World} {x0 x1 : Nat} {A : Option Addr} {n c : Nat} {ar : List Int} {f : Int} (h : FolAt W x0 x1 A n c ar f) : ∀ b, FolB x0 x1 (.slice A n c) b → b < W.heap.size := by
  rintro b (rfl | rfl | hb)
  · exact h.1.lt
  · exact h.2.1.lt
  · exact ownN_lt h.2.2 b hb
theorem FolAt.stay {W W' : World} {x0 x1 : Nat} {A : Option Addr} {n c : Nat} {ar : List Int} {f : Int} (h : FolAt W x0 x1 A n c ar f) (hs : Stay (FolB x0 x1 (.slice A n c)) W W') : FolAt W' x0 x1 A n c ar f := by
  obtain ⟨h1, h2, h3⟩ := h
  refine ⟨(hs.2 x0 (.inl rfl)).trans h1, (hs.2 x1 (.inr (.inl rfl))).trans h2, ?_⟩
  obtain ⟨h4, h5⟩ := h3
  refine ⟨h4, ?_⟩
  rcases h5 with h5 | ⟨g, cap, cur, e, hg, hh, hr⟩
  · exact .inl h5
  · exact .inr ⟨g, cap, cur, e, hg, (hs.2 g (.inr (.inr (by rw [e]; rfl)))).trans hh, hr⟩
set_option maxRecDepth 100000 in
set_option maxHeartbeats 4000000 in
theorem follow1_in (m l x0 x1 : Nat) (A : Option Addr) (n c : Nat) (ar : List Int) (f : Int) (hi : Ints ar) (hf : I64 f) (hn : n ≤ 17592186044416) (J Jx : (Nat → Prop) → List Int → World → Prop) (W : World) (hJ : FootB W.heap.size J)
    (hY : ∀ F pre (x : Int) W1, J F pre W1 → (∀ b, F b → b < W1.heap.size) → pre ++ [x] <+: followI ar f → YieldAt Fence.wide (m - 1) Try.prog l #[.int .i64 x] W1 fun e W' => ∃ F', KeepsG W.heap.size F F' W1 W' ∧ (∀ b, F' b → b < W'.heap.size) ∧
      ((e = .returned (.bool true) ∧ J F' (pre ++ [x]) W' ∧ Stay (FolB x0 x1 (.slice A n c)) W1 W') ∨ (e = .returned (.bool false) ∧ Jx F' (pre ++ [x]) W')))
    (hP : FolAt W x0 x1 A n c ar f) (h0 : J (fun _ => False) [] W) :
    CallsIn Fence.wide m Try.prog 37 #[.func (.yield l) #[] #[], .pointer (some ⟨x0, 0, none⟩), .pointer (some ⟨x1, 0, none⟩)] W fun e W' => (∃ v, e = .returned v) ∧
      ((∃ F ys, ys = followI ar f ∧ (∀ b, F b → b < W'.heap.size) ∧ J F ys W') ∨ (∃ F pre, pre <+: followI ar f ∧ (∀ b, F b → b < W'.heap.size) ∧ Jx F pre W')) := by
  have HP := Lib.hid hP
  have HLt := Lib.hid hP.lt
  have ca : W.cell? ⟨x0, 0, none⟩ = some (.slice A n c) := hP.1.cell 0
  have cf : W.cell? ⟨x1, 0, none⟩ = some (.int .i64 f) := hP.2.1.cell 0
  have HL : Hid (ar.length = n) := Lib.hid (by
    obtain ⟨_, _, e, _⟩ := hP.2.2.reads
    injection e with _ e2 _
    exact e2.symm)
  have HY := Lib.hid hY
  have HJ0 := Lib.hid h0
  have HJ := Lib.hid hJ
  have HI := Lib.hid hi
  obtain ⟨gm, hgm⟩ : ∃ g, g = W.heap.size := ⟨_, rfl⟩
  have HGm := Lib.hid hgm
  clear hP hY h0 hJ hi
  refine callsIn_of_wp Try.func37 rfl trivial ?_ rfl
  simp only [Try.ntmps37, List.size_toArray, List.length_cons, List.length_nil, Nat.reduceAdd, Nat.reduceSub, Array.replicate_succ, Array.replicate_zero, List.push_toArray, List.append_toArray, List.nil_append, List.cons_append]
  gi_wp2_with (gi_at_make; refine makeBtI W rfl (.tmp 7) (.tmp 7) rfl .i64 .i64 n rfl rfl hn ?_; intro w3 hbt hb3; rw [← hgm] at hbt ⊢; have cf : w3.cell? ⟨x1, 0, none⟩ = some (.int .i64 f) := (hb3.cell (p := ⟨x1, 0, none⟩) (HLt.out x1 (.inr (.inl rfl)))).trans cf; have HT3 := Lib.hid hbt; have HB3 := Lib.hid hb3; clear hbt hb3 hgm)
  have HLx : Hid (∀ b, FolB x0 x1 (.slice A n c) b → b ≠ gm) := Lib.hid (fun b hb => by have h1 := HLt.out b hb; have h2 := HGm.out; omega)
  have HF0 := Lib.hid hf
  clear cf ca
  gi_loopw [5] (fun j wr => ∃ (x : Int) (pre met : List Int) (bs : List Bool) (F : Nat → Prop), j = .int .i64 x ∧ I64 x ∧ Wlk ar f n pre met bs x ∧ BlkT wr gm bs ∧ J F pre wr ∧ ((∀ b, F b → b < wr.heap.size) ∧ ¬ F gm) ∧ FolAt wr x0 x1 A n c ar f ∧ W.heap.size ≤ wr.heap.size) (fun _ wr => offs wr gm)
  case atStart => exact ⟨f, [], [], _, fun _ => False, rfl, HF0.out, Wlk.start HL.out, HT3.out, HJ.out _ _ _ _ HJ0.out (Turned.of HB3.out (Nat.le_refl _) _), ⟨fun _ h => h.elim, fun h => h⟩, HP.out.stay (Stay.below HB3.out HLt.out), HB3.out.size⟩
  case round =>
    obtain ⟨x, pre, met, bs, F, rfl, hx, hwk, hbt, hj, hF, hA, hsz⟩ := hrel
    obtain ⟨w4, rfl⟩ : ∃ v : World, v = wr := ⟨_, rfl⟩
    have HWk := Lib.hid hwk
    have HT4 := Lib.hid hbt
    have HJ4 := Lib.hid hj
    have HF4 := Lib.hid hF
    have HA4 := Lib.hid hA
    have ca : w4.cell? ⟨x0, 0, none⟩ = some (.slice A n c) := hA.1.cell 0
    have lg : gm < w4.heap.size := BlkT.lt hbt
    have HOf := Lib.hid (BlkT.offs_ hbt)
    have hmem := hwk.mem
    have HHa := Lib.hid (hasA n x w4)
    clear hwk hbt hj hF hA
    by_cases h1 : 0 ≤ x ∧ x < (n : Int)
    case neg =>
      have HE : Hid (pre = followI ar f) := Lib.hid (HWk.out.stop (fun h3 h4 => absurd ⟨h3, h4⟩ h1))
      have HZ : Hid (hasZ n x = false) := Lib.hid (decide_eq_false h1)
      rw [HZ.out] at HHa
      clear hmem h1
      gi_wp2_with (refine ⟨trivial, hddF _, ?_⟩; gi_at_call 27; refine (callsIn_wide.2 HHa.out).mono ?_; rintro e w1 ⟨rfl, hw⟩; rw [hw]; clear hw w1)
      refine ⟨fun _ h => (by cases h), ?_⟩
      gi_wp2
      first | go_end0 | refine bodyPost_ret (results_none rfl _ _ _) rfl ?_
      exact ⟨⟨_, rfl⟩, .inl ⟨F, pre, HE.out, HF4.out.1, HJ4.out⟩⟩
    case pos =>
    have HZ : Hid (hasZ n x = true) := Lib.hid (decide_eq_true h1)
    rw [HZ.out] at HHa
    obtain ⟨v, rfl⟩ : ∃ v : Nat, x = (v : Int) := ⟨x.toNat, by omega⟩
    have hv : v < n := by omega
    have hm := hmem v hv
    have hvn : (v : Int) < (n : Int) := by omega
    clear h1 hmem
    by_cases h3 : (v : Int) ∈ met
    case pos =>
      rw [decide_eq_true h3] at hm
      have cm := HT4.out.at_ hm
      have HE : Hid (pre = followI ar f) := Lib.hid (HWk.out.stop (fun _ _ => by simpa using hm))
      clear h3 hm
      gi_wp2_with (refine ⟨trivial, hddF _, ?_⟩; gi_at_call 27; refine (callsIn_wide.2 HHa.out).mono ?_; rintro e w1 ⟨rfl, hw⟩; rw [hw]; clear hw w1)
      refine ⟨fun _ h => (by cases h), ?_⟩
      gi_wp2
      first | go_end0 | refine bodyPost_ret (results_none rfl _ _ _) rfl ?_
      exact ⟨⟨_, rfl⟩, .inl ⟨F, pre, HE.out, HF4.out.1, HJ4.out⟩⟩
    case neg =>
    rw [decide_eq_false h3] at hm
    have cm := HT4.out.at_ hm
    obtain ⟨hst, hpl, hct⟩ := HWk.out.step hv hm
    have HSt := Lib.hid hst
    have HCt := Lib.hid hct
    have HPre : Hid (pre ++ [(v : Int)] <+: followI ar f) := Lib.hid (by rw [hst.fol]; exact ⟨_, rfl⟩)
    obtain ⟨fn, tmps, assign, body, hy, hR⟩ := HY.out F pre (v : Int) w4 HJ4.out HF4.out.1 HPre.out
    try dsimp only at hy
    have HRR := Lib.hid hR
    have HMv := Lib.hid hm
    clear hR h3 hm hst hct
    gi_wp2_with (refine ⟨trivial, hddF _, ?_⟩; gi_at_call 27; refine (callsIn_wide.2 HHa.out).mono ?_; rintro e w1 ⟨rfl, hw⟩; rw [hw]; clear hw w1)
    refine ⟨hddF _, HRR.out.mono ?_⟩
    rintro e w5 ⟨F', hk, hF', ⟨rfl, hJ5, hs5⟩ | ⟨rfl, hx5⟩⟩
    · have HT5 : Hid (BlkT w5 gm bs) := Lib.hid ((hk.same gm (by rw [HGm.out]; exact Nat.le_refl _) lg HF4.out.2).trans HT4.out)
      have HF5 : Hid (¬ F' gm) := Lib.hid (fun h => by
        rcases hk.new _ h with h1 | h1
        · exact HF4.out.2 h1
        · omega)
      have HFl : Hid (∀ b, F' b → b < w5.heap.size) := Lib.hid hF'
      have HA5 := Lib.hid (HA4.out.stay hs5)
      have hs6 : W.heap.size ≤ w5.heap.size := Nat.le_trans hsz hk.size
      have fm : w5.frozen? ⟨gm, v, none⟩ = false := Blk.frozen HT5.out v
      have cm5 := HT5.out.at_ (t := v) (b := false) HMv.out
      obtain ⟨w6, hw6⟩ : ∃ w6, w6 = w5.setCell ⟨gm, v, none⟩ (.bool true) := ⟨_, rfl⟩
      have hz6 : w6.heap.size = w5.heap.size := by rw [hw6]; simp [World.setCell]
      have HT6 : Hid (BlkT w6 gm (bs.set v true)) := Lib.hid (by rw [hw6]; exact HT5.out.set_ v true)
      have htd : Turned (fun b => b = gm) w5 w6 := by rw [hw6]; exact (Turned.refl (fun b => b = gm) w5).set (p := ⟨gm, v, none⟩) rfl _
      have HJ6 : Hid (J F' (pre ++ [(v : Int)]) w6) := Lib.hid (HJ.out _ _ _ _ hJ5 (htd.wider (fun b hb => ⟨by rw [hb, HGm.out]; exact Nat.le_refl _, by rw [hb]; exact HF5.out⟩)))
      have HA6 := Lib.hid (HA5.out.stay (Stay.turned htd (fun b hb => ⟨Nat.lt_of_lt_of_le (HLt.out b hb) hs6, HLx.out b hb⟩)))
      have ca5 : w5.cell? ⟨x0, 0, none⟩ = some (.slice A n c) := HA5.out.1.cell 0
      obtain ⟨A9, c9, e9, _, hr9⟩ := HA5.out.2.2.reads
      rw [HL.out] at e9 hr9
      obtain ⟨rfl, rfl⟩ : A = A9 ∧ c = c9 := by injection e9 with h1 h2 h3; exact ⟨h1, h3⟩
      obtain ⟨b9, off, rfl, _, hc9⟩ := hr9.arr (by omega)
      have cx := hc9 v hv
      have hx9 := HI.out _ (at_in (l := ar) (v := v) (by rw [HL.out]; exact hv))
      obtain ⟨z, hz⟩ : ∃ z, z = Gr.at_ ar v := ⟨_, rfl⟩
      rw [← hz] at cx HSt hx9
      have hn0 : x0 ≠ gm := HLx.out _ (.inl rfl)
      have hn9 : b9 ≠ gm := HLx.out _ (.inr (.inr rfl))
      have hss : W.heap.size ≤ w6.heap.size := by omega
      have HFl6 : Hid (∀ b, F' b → b < w6.heap.size) := Lib.hid (by rw [hz6]; exact HFl.out)
      rw [hw6] at HT6 HJ6 HA6 HFl6 hss
      clear hk hF' hJ5 hs5 htd hr9 hc9 e9 hz hw6 hz6 ca cm w6
      gi_wp2
      go_roundw
      case rel => exact ⟨z, pre ++ [(v : Int)], (v : Int) :: met, bs.set v true, F', rfl, hx9, HSt.out, HT6.out, HJ6.out, ⟨HFl6.out, HF5.out⟩, HA6.out, hss⟩
      case measure =>
        have k2 := BlkT.offs_ HT6.out
        have k3 := HOf.out
        have k4 := HCt.out
        omega
    · have HX5 := Lib.hid hx5
      have HF5 := Lib.hid hF'
      clear hx5 hk hF'
      gi_wp2
      first | go_end0 | refine bodyPost_ret (results_none rfl _ _ _) rfl ?_
      exact ⟨⟨_, rfl⟩, .inr ⟨F', _, HPre.out, HF5.out, HX5.out⟩⟩
theorem followG : FollowG := by
  intro A n c ar f w hin hf
  have HI := Lib.hid hin
  have hn := hin.few
  have HL := Lib.hid hin.len
  clear hin
  go_enter Try.func24, Try.ntmps24
  go_wp2_with fail
  obtain ⟨x0, hx0⟩ : ∃ x, x = w.heap.size := ⟨_, rfl⟩
  obtain ⟨x1, hx1⟩ : ∃ x, x = w.heap.size + 1 := ⟨_, rfl⟩
  obtain ⟨W1, hW1⟩ : ∃ W1, W1 = (w.alloc (.cells #[.slice A n c] 26)).alloc (.cells #[.int .i64 f] 3) := ⟨_, rfl⟩
  have hb1 : Below w.heap.size w W1 := hW1 ▸ ((Below.refl _ _).alloc (Nat.le_refl _) _).alloc (by simp) _
  have HA1 : Hid (Blk W1 x0 26 #[.slice A n c]) := Lib.hid (by rw [hW1, hx0]; exact (Blk.new w _ _).alloc _)
  have HF1 : Hid (Blk W1 x1 3 #[.int .i64 f]) := Lib.hid (by have := Blk.new (w.alloc (.cells #[.slice A n c] 26)) 3 #[.int .i64 f]; rw [World.size_alloc] at this; rw [hW1, hx1]; exact this)
  have HB1 := Lib.hid hb1
  have HX : Hid (w.heap.size ≤ x0 ∧ w.heap.size ≤ x1 ∧ x0 ≠ x1) := Lib.hid (by omega)
  have HC := Lib.hid (clone_all A n c ar W1 (HI.out.next hb1).rd (by omega))
  rw [← hW1, ← hx1, ← hx0]
  clear hb1 hW1 hx1 hx0
  refine HC.out.mono ?_
  rintro e w3 ⟨v, rfl, ho3, hb3⟩
  obtain ⟨A3, n3, c3, rfl⟩ := ownN_slice' ho3
  have hn3 : ar.length = n3 := ownN_len' ho3
  rw [HL.out] at hn3
  subst hn3
  have HO3 := Lib.hid ho3
  have HA3 := Lib.hid (HA1.out.below hb3 HA1.out.lt)
  have HF3 := Lib.hid (HF1.out.below hb3 HF1.out.lt)
  have HB3 := Lib.hid (HB1.out.trans (hb3.mono HB1.out.size))
  have HNo : Hid (∀ b, (Value.slice A3 n c3).ownBlock = some b → W1.heap.size ≤ b) := Lib.hid (ownN_base ho3)
  have lx : x0 < W1.heap.size := HA1.out.lt
  have ca : w3.cell? ⟨x0, 0, none⟩ = some (.slice A n c) := HA3.out.cell 0
  have fa : w3.frozen? ⟨x0, 0, none⟩ = false := HA3.out.frozen 0
  clear ho3 hb3 HC HA1 HF1
  go_wp2
  go_ret
  have h01 : x1 ≠ x0 := fun e => HX.out.2.2 e.symm
  have hP : FolAt (w3.setCell ⟨x0, 0, none⟩ (.slice A3 n c3)) x0 x1 A3 n c3 ar f := by
    refine ⟨blk_put HA3.out _, ?_, ?_⟩
    · exact (Below.heap_setCell w3 ⟨x0, 0, none⟩ _ x1 h01).trans HF3.out
    · exact (HO3.out.setBox' (fun e => by have := HNo.out _ e; omega) _).lowN (Nat.zero_le _)
  have hWs : w.heap.size ≤ W1.heap.size := HB1.out.size
  refine ⟨_, FolB x0 x1 (.slice A3 n c3), rfl, ⟨_, _, _, rfl, enters_of Try.func37 (by kernel_rfl) rfl, hP.lt, ?_⟩, HB3.out.setCell (p := ⟨x0, 0, none⟩) HX.out.1 _, ?_⟩
  · intro m W hs l J Jx V hV hJ hJx hY h0
    have hs1 : Stay (FolB x0 x1 (.slice A3 n c3)) (w3.setCell ⟨x0, 0, none⟩ (.slice A3 n c3)) V := Stay.trans hs (Stay.below hV (fun b hb => Nat.lt_of_lt_of_le (hP.lt b hb) hs.1))
    exact follow1_in m l x0 x1 A3 n c3 ar f HI.out.i hf hn J Jx V hJ hY (hP.stay hs1) h0
  · rintro b (rfl | rfl | hb)
    · exact HX.out.1
    · exact HX.out.2.1
    · have := HNo.out b hb; omega
end Go.Proofs.Ytcomiininaemhaa.Pk
