/- Package frame: All. -/
import Derived.Test.YtmmjmaohbmlfgaaDoorFrEndD
import Derived.OwnWalkIn
import Derived.Test.YtmmjmaohbmlfgaaDoorTakeLit
import Derived.Test.YtmmjmaohbmlfgaaDoorFrClone
namespace Go.Proofs.YtmmjmaohbmlfgaaDoor.Pk
open Go.RowKit Go.Shelf Go.Proofs.YtmmjmaohbmlfgaaDoor.Crc Go.Proofs.YtmmjmaohbmlfgaaDoor.Fr
set_option linter.unusedVariables false
attribute [local go_sem] Oper.semAt_some encG
/-- A list is appended to a list of lists, inside a fence. -/
theorem appLi {F : Fence} {m : Nat} {ops : Array Oper} {rest : List Oper} {o : Oper} {a : Act} {Q : Exit → Act → World → Prop} (w : World) (y : Piece) (T : TypeId) (hgd : o.guard = none) (s x : Operand)
    (ho : o.op = .call { callee := .builtin .append, args := #[s, x], argTypes := #[29, 29] }) (B : Nat) (v : Value) (ps : List Piece) (hs : a.eval s = v) (hown : OwnP w B v ps)
    (hx : a.eval x = .slice (some ⟨w.heap.size, 0, none⟩) 1 1) (hlen : (ps.length + 1) * 24 ≤ 140737488355328) (hB : B ≤ w.heap.size)
    (h : ∀ v' w', OwnP w' B v' (ps ++ [y]) → w.grownBy w' v.ownBlock → wpListIn F m Tryd.prog ops Q rest (a.put o.dst v') w') : wpListIn F m Tryd.prog ops Q (o :: rest) a (w.alloc (.cells #[.slice y.a y.n y.c] T)) := by
  obtain ⟨i0, hi0, hz0, hz1, hz2⟩ := info_parts sl_info
  refine wpListIn_append_own _ hgd s x _ ho B 22 i0 _ 1 24 Tryd.underlying29 hi0 hz0 hz1 hz2 rfl (by omega) v ps.length (ps.map Piece.val) hs (World.ownsRow.alloc hown _) ⟨w.heap.size, 0, none⟩ 1 1 ([y].map Piece.val) hx rfl ?_ (pieces_one [y])
    (by unfold maxLen; omega) (by omega) (by simp; omega) ?_
  · intro j u hj
    match j, hj with
    | 0, hj => simp [Piece.val] at hj; subst hj; simp [Addr.add]
    | j + 1, hj => simp at hj
  · intro v' w' ho hg _
    refine h v' w' ?_ ⟨hg.os, hg.tape, hg.output, by have := hg.size; simp at this; omega, fun i hi hn => (hg.block i (by simp; omega) hn).trans (Below.heap_alloc w _ i hi)⟩
    unfold OwnP
    rw [List.map_append, List.length_append]; exact ho
/-- The same as one step of a region that draws, inside a fence. -/
theorem stepLi {F : Fence} {m : Nat} {ops : Array Oper} {o : Oper} {a : Act} {K : Act → World → Prop} {Q : Exit → Act → World → Prop} {E : Prop} (w : World) (y : Piece) (T : TypeId) (hgd : o.guard = none) (s x : Operand)
    (ho : o.op = .call { callee := .builtin .append, args := #[s, x], argTypes := #[29, 29] }) (g : Nat) (B : Nat) (v : Value) (ps : List Piece) (hs : a.eval s = v) (hown : OwnP w B v ps)
    (hx : a.eval x = .slice (some ⟨g, 0, none⟩) 1 1) (hg : Blk w g T #[.slice y.a y.n y.c]) (hlen : (ps.length + 1) * 24 ≤ 140737488355328) (hB : B ≤ w.heap.size)
    (h : ∀ v' w', OwnP w' B v' (ps ++ [y]) → w.grownBy w' v.ownBlock → K (a.put o.dst v') w') : if Region.wanted o (yielded ops a.tmps) = true then Oper.wpIn F m Tryd.prog o a w K Q else E := by
  obtain ⟨i0, hi0, hz0, hz1, hz2⟩ := info_parts sl_info
  have hw : Region.wanted o (yielded ops a.tmps) = true := by simp [Region.wanted, hgd]
  rw [if_pos hw]
  obtain ⟨v', w', hrun, r1, r2, r3⟩ := run_append_own (P := Tryd.prog) w B 29 o.type 22 i0 _ 1 24 Tryd.underlying29 hi0 hz0 hz1 hz2 rfl (by omega) v ps.length (ps.map Piece.val) hown ⟨g, 0, none⟩ 1 1 ([y].map Piece.val) rfl (fun j u hj => by
    match j, hj with
    | 0, hj => simp [Piece.val] at hj; subst hj; have := hg.cell 0; simpa [Addr.add] using this
    | j + 1, hj => simp at hj) (pieces_one [y]) (by unfold maxLen; omega) (by omega) hB
  unfold Oper.wpIn
  refine ⟨?_, ?_⟩
  · simp [Oper.about, ho, resolve, Target.leads, Sem.run_pure]
  · rw [Oper.semAt_plain F _ _ (by rw [ho]; intro c hc'; cases hc')]
    simp [execOp, ho, resolve, invoke, builtin, hs, hx, hrun, Result.andThen]
    refine h v' w' ?_ r2
    unfold OwnP
    rw [List.map_append, List.length_append]; exact r1
theorem ownL_kept {A B : World} {row : Option Nat} {base : Nat} {v : Value} {ps : List Piece} (h : OwnL A base v ps) (hg : A.grownBy B row) (hr : ∀ r, row = some r → ∃ o, A.heap[r]? = some o ∧ o.isCells = false) : OwnL B base v ps := by
  have key : ∀ (g : Nat) (cs : Array Value) (e : TypeId), A.heap[g]? = some (Obj.cells cs e (0, 0)) → B.heap[g]? = A.heap[g]? := fun g cs e hh => hg.block g (Array.getElem?_eq_some_iff.1 hh).1 (fun e2 => by
    obtain ⟨o, h1, h2⟩ := hr g e2.symm
    rw [hh] at h1; injection h1 with h1; subst h1; simp [Obj.isCells] at h2)
  refine ⟨h.row.stay fun g e => ?_, fun p hp => (h.each p hp).stay fun g e => ?_, h.apart⟩
  · obtain ⟨cs, hh⟩ := own_kind h.row g e
    exact key g cs _ hh
  · obtain ⟨cs, hh⟩ := own_kind (h.each p hp) g e
    exact key g cs _ hh

/-- At the return each mark is taken; memory cells lie as they lay. -/
theorem Marks.leaveC {F : Fence} {n : Nat} {P : Program} {fn : Func} {tmps : Array Value} {R : Ending → World → Prop} {B : Nat} : ∀ (ds : List Deferred) (W : World), Marks B ds W →
    (∀ W', Below B W W' → (∀ (k : Nat) (cs : Array Value) (e : TypeId), W.heap[k]? = some (Obj.cells cs e (0, 0)) → W'.heap[k]? = W.heap[k]?) → LeavesIn F n P fn tmps R [] .returning W') → LeavesInM F n P fn tmps R ds .returning W := by
  intro ds
  induction ds with
  | nil => intro W _ h; exact h W (Below.refl _ _) (fun _ _ _ _ => rfl)
  | cons d ds ih =>
    intro W hm h
    obtain ⟨D, rfl, h1, h2, h3, h4, h5⟩ := hm
    refine ⟨by simp, .inl ⟨D, W.putObj D (.deferred none), rfl, run_takeDeferred h3, ?_⟩⟩
    have hb := below_putObj W (.deferred none) h1
    have hc : ∀ (k : Nat) (cs : Array Value) (e : TypeId), W.heap[k]? = some (Obj.cells cs e (0, 0)) → (W.putObj D (.deferred none)).heap[k]? = W.heap[k]? := fun k cs e hk => World.putObj_heap_other (fun e2 => by subst e2; rw [hk] at h3; cases h3)
    refine ih _ (h5.keep (by simp [World.putObj]) (fun k ⟨d, hd, he⟩ => World.putObj_heap_other (fun e => ?_))) (fun W' hW' hcw => h W' (hb.trans hW') (fun k cs e hk => (hcw k cs e ((hc k cs e hk).trans hk)).trans (hc k cs e hk)))
    exact h4 d hd (by rw [he, e])


set_option maxRecDepth 100000 in
set_option maxHeartbeats 4000000 in
theorem allC : AllC := by
  intro A n c b w ht hr hnc hby hn
  have hp0 := ht.pos
  have hbl : b.length = n := by have := hr.1; simpa using this
  obtain ⟨w1, hw1⟩ : ∃ w1, w1 = w.alloc (.cells #[.slice none 0 0] 29) := ⟨_, rfl⟩
  have hb1 : Below w.heap.size w w1 := hw1 ▸ (Below.refl _ w).alloc (Nat.le_refl _) _
  have kb1 : Blk w1 w.heap.size 29 #[.slice none 0 0] := by rw [hw1]; exact Blk.new w _ _
  have HX := Lib.hid (good_any A n c b w1 (ht.next hb1) ((hr.below hb1).more hb1.size) hnc hby hn)
  have HB1 := Lib.hid hb1
  have HK1 := Lib.hid kb1
  obtain ⟨B0, hB0⟩ : ∃ B0, B0 = w.heap.size := ⟨_, rfl⟩
  have HB0 := Lib.hid hB0
  have HRd0 : Hid (Reads w B0 1 A n (bts b)) := Lib.hid (by rw [hB0]; exact hr)
  have HAd : Hid (0 < n → ∀ ad, A = some ad → ad.block < B0) := Lib.hid (fun h ad e => by
    obtain ⟨ad', e', hb, _⟩ := hr.2 h
    rw [e] at e'; injection e' with e'
    rw [e', hB0]; exact hb)
  have HLb := Lib.hid hbl
  have HFc : Hid (8 * (frames b).length ≤ n) := Lib.hid (by rw [← hbl]; exact frames_count b)
  have HP0 : Hid (0 < B0) := Lib.hid (by rw [hB0]; exact hp0)
  clear ht hr hb1 kb1 hby
  refine (callsIn_wide (n := 9)).1 ?_
  refine callsIn_of_wp_marks Tryd.func16 rfl trivial ?_ rfl
  simp only [Tryd.ntmps16, List.size_toArray, List.length_cons, List.length_nil, Nat.reduceAdd, Nat.reduceSub, Array.replicate_succ, Array.replicate_zero, List.push_toArray, List.append_toArray, List.nil_append, List.cons_append]
  refine wpIn_wide.2 ?_
  go_wp2_with fail
  rw [← hw1, ← hB0]
  rw [← hB0] at HK1
  clear hw1 hB0
  refine HX.out.mono ?_
  rintro e w2 ⟨rfl, hseq, hb2, hsz⟩
  have SE2 := Lib.hid hseq
  have HRl : Hid (∀ g, SrcB w1.heap.size A n g → g < w2.heap.size ∧ g ≠ B0) := Lib.hid (fun g hg => ⟨hseq.lt g hg, fun e => by
    have h2 := HK1.out.lt
    have h3 := HP0.out
    rcases hg with h1 | h1 | ⟨h4, ad, h5, h1⟩
    · omega
    · omega
    · have := HAd.out h4 ad h5; omega⟩)
  have HK2 := Lib.hid (HK1.out.below hb2 HK1.out.lt)
  have HB2 := Lib.hid (HB1.out.trans (hb2.mono HB1.out.size))
  have HRd2 : Hid (Reads w2 B0 1 A n (bts b)) := Lib.hid (HRd0.out.below (by rw [HB0.out]; exact HB2.out))
  have hs2 : B0 < w2.heap.size := HK2.out.lt
  clear hseq hb2 HX hsz
  go_wp2
  have cv : True := trivial
  obtain ⟨S, hS⟩ : ∃ S : Nat → Prop, S = fun b => b = B0 := ⟨_, rfl⟩
  have S1 : S B0 := by rw [hS]
  have HSe : Hid (∀ b, S b → b = B0) := Lib.hid (fun b h => by rw [hS] at h; exact h)
  clear hS
  refine (wpIn_wide (n := 9)).1 ?_
  refine' range_boundF (α := Nat × List Int) (gf := 30) (pb := #[]) (lb := #[.pointer (some ⟨w1.heap.size, 0, none⟩)]) rfl (fun args u => rfl) (SE2.out.at_ _) (fun _ _ _ _ _ _ h => h) (fun h k => h.trans k) (stay_b SE2.out.lt) (fun _ => rfl) (fun _ _ _ _ _ _ _ _ _ h => h)
    (fun pre V => (∃ v ps, Blk V B0 29 #[v] ∧ OwnL V (w2.heap.size + 2) v ps ∧ Piece.bytes ps = pre.map (·.2)) ∧ OnlyS S w2 V)
    (fun cc pre V => False)
    (OwnFrom.and (Own.from (I := fun (pre : List (Nat × List Int)) V => ∃ v ps, Blk V B0 29 #[v] ∧ OwnL V (w2.heap.size + 2) v ps ∧ Piece.bytes ps = pre.map (·.2)) (fun s A B row hs hg hr => by
      obtain ⟨v, ps, h1, h2, h3⟩ := hs
      exact ⟨v, ps, blk_kept h1 hg hr, ownL_kept h2 hg hr, h3⟩) _) (own_onlyS w2 S))
    (fun cc => fun s A B row hs hg hr => hs)
    ⟨⟨.slice none 0 0, [], HK2.out, OwnL.none_ _ _, rfl⟩, OnlyS.refl _ _⟩
    _ ?assign ?body ?done ?stop
  case assign =>
    intro lp y V K hK
    gi_wp2
    exact hK
  case body =>
    rintro lp pre ⟨yat, yp⟩ V hlp hrec ⟨⟨v, ps, hk1, hL, hps⟩, hO⟩ ⟨B', hB', hBV, hok⟩
    obtain ⟨h1, h2, h3⟩ := fseq_next hok
    have cB : V.cell? ⟨B0, 0, none⟩ = some v := by rw [hk1.cell]; rfl
    have fB : V.frozen? ⟨B0, 0, none⟩ = false := hk1.frozen 0
    have hrd := (pay_reads (hO.reads HRd2.out (by omega) (fun h ad e => fun hs => by have := HSe.out _ hs; have := HAd.out h ad e; omega)) hnc h2).2
    simp only at h1
    rw [← h1] at hrd
    obtain ⟨q, hq⟩ : ∃ q, q = yp.length := ⟨_, rfl⟩
    have hq20 : q ≤ 1048576 := by have := frames_fit b yp (List.mem_of_getElem? h2); omega
    dsimp only at hrd ⊢
    rw [← hq] at hrd ⊢
    have HCl : Hid (∀ U, Below V.heap.size V U → Calls Tryd.prog 24 #[.slice (payA A c yat) q (c - yat - 8)] U fun e w' => ∃ v, e = .returned v ∧ OwnB w' U.heap.size v yp ∧ Below U.heap.size U w') := Lib.hid (fun U hU => clone_code _ _ _ _ U (((hrd.more (by omega)).below hU).more hU.size) (by omega))
    have HL := Lib.hid hL
    have HO := Lib.hid hO
    have HK := Lib.hid hk1
    have HPs := Lib.hid hps
    have HOk := Lib.hid hok
    have hvb := own_base hL.row
    have hlen : (ps.length + 1) * 24 ≤ 140737488355328 := by
      have e : ps.length = pre.length := by have := congrArg List.length hps; simpa [Piece.bytes] using this
      have := HFc.out
      omega
    have hVs : w2.heap.size + 2 ≤ V.heap.size := by omega
    have hnB : v.ownBlock ≠ some B0 := fun e => by have := hvb B0 e; omega
    have HnB := Lib.hid hnB
    obtain ⟨Av, nv, cv', rfl⟩ : ∃ A n c, v = .slice A n c := by
      obtain ⟨A', c', e, _, _⟩ := reads_own hL.row
      exact ⟨A', _, c', e⟩
    clear hL hO hk1 hps hok h1 h2 h3 hrd hq hnB hvb
    gi_wp2
    refine wpIn_region_any (by kernel_rfl) ?_
    change wpAnyIn _ _ _ _ _ _ _ _ _ (World.drew _)
    refine anyIn_roundL (F := Fence.wide) (by rfl) lp ?_
    refine take_lit (i := 1) rfl rfl rfl (by kernel_rfl) (by kernel_rfl) (by kernel_rfl) (fun _ _ _ h => h) ⟨Or.inl ⟨by rfl, fun _ => rfl⟩, fun _ => rfl⟩ (by simp only [List.setIfInBounds_toArray, List.set_cons_succ, List.set_cons_zero]; first | done | rfl) ?_
    refine wpAnyIn_ready (rs := [0, 2]) (by kernel_rfl) (by simp) (AllReadyIn.cons rfl (fun K hK => ?_) (AllReadyIn.cons rfl (fun K hK => ?_) AllReadyIn.nil))
    · go_simp
      refine hK _ _ ?_; clear hK K
      refine wpAnyIn_ready (rs := [2]) (by kernel_rfl) (by simp) (AllReadyIn.cons rfl (fun K hK => ?_) AllReadyIn.nil)
      go_simp
      refine ⟨trivial, ?_⟩
      refine (callsIn_wide.2 (HCl.out V.drew ⟨rfl, rfl, rfl, Nat.le_refl _, fun _ _ => rfl⟩)).mono ?_
      rintro e3 w3 ⟨v3, rfl, ho3, hb3⟩
      obtain ⟨A3, n3, c3, rfl⟩ := own_slice ho3
      have HO3 : Hid (OwnB w3 V.heap.size (.slice A3 n3 c3) yp) := Lib.hid ho3
      have HB3 : Hid (Below V.heap.size V w3) := Lib.hid ⟨hb3.os, hb3.tape, hb3.output, hb3.size, hb3.block⟩
      have hbk : w3.heap[B0]? = V.heap[B0]? := hb3.block B0 HK.out.lt
      have cB3 : w3.cell? ⟨B0, 0, none⟩ = some (.slice Av nv cv') := (World.cell?_of_block (a := ⟨B0, 0, none⟩) hbk).trans cB
      have fB3 : w3.frozen? ⟨B0, 0, none⟩ = false := (World.frozen?_of_block (a := ⟨B0, 0, none⟩) hbk).trans fB
      clear ho3 hb3 hbk
      refine hK _ _ ?_; clear hK K
      refine wpAnyIn_ready (rs := [3]) (by kernel_rfl) (by simp) (AllReadyIn.cons rfl (fun K hK => ?_) AllReadyIn.nil)
      go_simp
      refine hK _ _ ?_; clear hK K
      obtain ⟨w4, hw4⟩ : ∃ w4, w4 = w3.alloc (.cells #[.slice A3 n3 c3] 22) := ⟨_, rfl⟩
      have hk4 : Blk w4 w3.heap.size 22 #[.slice A3 n3 c3] := by rw [hw4]; exact Blk.new w3 _ _
      have hb4 : Below w3.heap.size w3 w4 := hw4 ▸ (Below.refl _ _).alloc (Nat.le_refl _) _
      have hB3s : V.heap.size ≤ w3.heap.size := HB3.out.size
      have HB4 := Lib.hid (HB3.out.trans (hb4.mono hB3s))
      have hlt4 : B0 < w3.heap.size := Nat.lt_of_lt_of_le HK.out.lt hB3s
      have cB4 : w4.cell? ⟨B0, 0, none⟩ = some (.slice Av nv cv') := (World.cell?_of_block (a := ⟨B0, 0, none⟩) (hb4.block B0 hlt4)).trans cB3
      have fB4 : w4.frozen? ⟨B0, 0, none⟩ = false := (World.frozen?_of_block (a := ⟨B0, 0, none⟩) (hb4.block B0 hlt4)).trans fB3
      have HL4 := Lib.hid (HL.out.stay (V := w4) (fun g h1 h2 => HB4.out.block g h2))
      have HO4 := Lib.hid (HO3.out.keep hb4 (Nat.le_refl _))
      have hV4 : w2.heap.size + 2 ≤ w4.heap.size := Nat.le_trans hVs HB4.out.size
      rw [← hw4]
      clear hw4 hb4
      refine wpAnyIn_ready (rs := [4]) (by kernel_rfl) (by simp) (AllReadyIn.cons rfl (fun K hK => ?_) AllReadyIn.nil)
      refine stepLi w4 ⟨A3, n3, c3, yp⟩ _ rfl (.tmp 10) (.tmp 13) rfl w3.heap.size (w2.heap.size + 2) _ ps rfl HL4.out.row rfl hk4 hlen hV4 ?_
      intro v5 w5 hown5 hg5
      obtain ⟨A5, n5, c5, rfl⟩ : ∃ A n c, v5 = .slice A n c := (by obtain ⟨A', c', e, _, _⟩ := reads_own hown5; exact ⟨A', _, c', e⟩)
      have HP5 := Lib.hid hown5
      have HG5 := Lib.hid hg5
      have hb5 : w5.heap[B0]? = w4.heap[B0]? := hg5.block B0 (Nat.lt_of_lt_of_le HK.out.lt HB4.out.size) (fun e => HnB.out e.symm)
      have cB5 : w5.cell? ⟨B0, 0, none⟩ = some (.slice Av nv cv') := (World.cell?_of_block (a := ⟨B0, 0, none⟩) hb5).trans cB4
      have fB5 : w5.frozen? ⟨B0, 0, none⟩ = false := (World.frozen?_of_block (a := ⟨B0, 0, none⟩) hb5).trans fB4
      refine hK _ _ ?_; clear hK K
      clear hown5 hg5 hb5
      refine wpAnyIn_ready (rs := [5]) (by kernel_rfl) (by simp) (AllReadyIn.cons rfl (fun K hK => ?_) AllReadyIn.nil)
      go_simp
      refine hK _ _ ?_; clear hK K
      refine wpAnyIn_done (by kernel_rfl) ?_ _
      have hv := own_base HL4.out.row
      have hL5 := OwnL.push (y := ⟨A3, n3, c3, yp⟩) HL4.out (HO4.out.mono hVs) (fun q hq g h1 h2 => by
        have e1 := HL.out.lt q hq g h1
        have e2 := own_base HO4.out g h2
        omega) HP5.out HG5.out
      have hst : ∀ k, k < V.heap.size → ¬ w2.heap.size + 2 ≤ k → w5.heap[k]? = V.heap[k]? := fun k h1 h2 => (HG5.out.block k (Nat.lt_of_lt_of_le h1 HB4.out.size) (fun e => h2 (hv k e.symm))).trans (HB4.out.block k h1)
      have hs5 : V.heap.size ≤ w5.heap.size := Nat.le_trans HB4.out.size HG5.out.size
      show KeepsF _ _ _ _ ∧ Stay _ _ _ ∧ (∃ v ps, Blk _ B0 29 #[v] ∧ OwnL _ (w2.heap.size + 2) v ps ∧ Piece.bytes ps = (pre ++ [(yat, yp)]).map (·.2)) ∧ OnlyS S w2 _
      refine ⟨KeepsF.trans ⟨hs5, fun k h1 h2 h3 => hst k h2 h3⟩ ((KeepsAll.setCell w5 hs2 _).but _),
        Stay.trans ⟨hs5, fun g hg => hst g (by have := (HRl.out g hg).1; omega) (by have := (HRl.out g hg).1; omega)⟩ (stay_setAt (fun h => (HRl.out B0 h).2 rfl)),
        ⟨.slice A5 n5 c5, ps ++ [⟨A3, n3, c3, yp⟩], blk_put (show Blk w5 B0 29 #[.slice Av nv cv'] from (hst B0 HK.out.lt (by omega)).trans HK.out) _, ?_, ?_⟩, ?_⟩
      · exact hL5.stay (fun g h1 h2 => Below.heap_setCell w5 ⟨B0, 0, none⟩ _ g (fun e => by simp at e; omega))
      · rw [List.map_append, ← HPs.out]; simp [Piece.bytes]
      · refine OnlyS.set ?_ S1 _
        exact ⟨HG5.out.os.trans (HB4.out.os.trans HO.out.os), HG5.out.tape.trans (HB4.out.tape.trans HO.out.tape), HG5.out.output.trans (HB4.out.output.trans HO.out.output), Nat.le_trans HO.out.size hs5, fun k h1 h2 => (hst k (Nat.lt_of_lt_of_le h1 HO.out.size) (by omega)).trans (HO.out.block k h1 h2)⟩
    · go_simp
      refine ⟨trivial, ?_⟩
      refine (callsIn_wide.2 (HCl.out V.drew ⟨rfl, rfl, rfl, Nat.le_refl _, fun _ _ => rfl⟩)).mono ?_
      rintro e3 w3 ⟨v3, rfl, ho3, hb3⟩
      obtain ⟨A3, n3, c3, rfl⟩ := own_slice ho3
      have HO3 : Hid (OwnB w3 V.heap.size (.slice A3 n3 c3) yp) := Lib.hid ho3
      have HB3 : Hid (Below V.heap.size V w3) := Lib.hid ⟨hb3.os, hb3.tape, hb3.output, hb3.size, hb3.block⟩
      have hbk : w3.heap[B0]? = V.heap[B0]? := hb3.block B0 HK.out.lt
      have cB3 : w3.cell? ⟨B0, 0, none⟩ = some (.slice Av nv cv') := (World.cell?_of_block (a := ⟨B0, 0, none⟩) hbk).trans cB
      have fB3 : w3.frozen? ⟨B0, 0, none⟩ = false := (World.frozen?_of_block (a := ⟨B0, 0, none⟩) hbk).trans fB
      clear ho3 hb3 hbk
      refine hK _ _ ?_; clear hK K
      refine wpAnyIn_ready (rs := [0, 3]) (by kernel_rfl) (by simp) (AllReadyIn.cons rfl (fun K hK => ?_) (AllReadyIn.cons rfl (fun K hK => ?_) AllReadyIn.nil))
      · go_simp
        refine hK _ _ ?_; clear hK K
        refine wpAnyIn_ready (rs := [3]) (by kernel_rfl) (by simp) (AllReadyIn.cons rfl (fun K hK => ?_) AllReadyIn.nil)
        go_simp
        refine hK _ _ ?_; clear hK K
        obtain ⟨w4, hw4⟩ : ∃ w4, w4 = w3.alloc (.cells #[.slice A3 n3 c3] 22) := ⟨_, rfl⟩
        have hk4 : Blk w4 w3.heap.size 22 #[.slice A3 n3 c3] := by rw [hw4]; exact Blk.new w3 _ _
        have hb4 : Below w3.heap.size w3 w4 := hw4 ▸ (Below.refl _ _).alloc (Nat.le_refl _) _
        have hB3s : V.heap.size ≤ w3.heap.size := HB3.out.size
        have HB4 := Lib.hid (HB3.out.trans (hb4.mono hB3s))
        have hlt4 : B0 < w3.heap.size := Nat.lt_of_lt_of_le HK.out.lt hB3s
        have cB4 : w4.cell? ⟨B0, 0, none⟩ = some (.slice Av nv cv') := (World.cell?_of_block (a := ⟨B0, 0, none⟩) (hb4.block B0 hlt4)).trans cB3
        have fB4 : w4.frozen? ⟨B0, 0, none⟩ = false := (World.frozen?_of_block (a := ⟨B0, 0, none⟩) (hb4.block B0 hlt4)).trans fB3
        have HL4 := Lib.hid (HL.out.stay (V := w4) (fun g h1 h2 => HB4.out.block g h2))
        have HO4 := Lib.hid (HO3.out.keep hb4 (Nat.le_refl _))
        have hV4 : w2.heap.size + 2 ≤ w4.heap.size := Nat.le_trans hVs HB4.out.size
        rw [← hw4]
        clear hw4 hb4
        refine wpAnyIn_ready (rs := [4]) (by kernel_rfl) (by simp) (AllReadyIn.cons rfl (fun K hK => ?_) AllReadyIn.nil)
        refine stepLi w4 ⟨A3, n3, c3, yp⟩ _ rfl (.tmp 10) (.tmp 13) rfl w3.heap.size (w2.heap.size + 2) _ ps rfl HL4.out.row rfl hk4 hlen hV4 ?_
        intro v5 w5 hown5 hg5
        obtain ⟨A5, n5, c5, rfl⟩ : ∃ A n c, v5 = .slice A n c := (by obtain ⟨A', c', e, _, _⟩ := reads_own hown5; exact ⟨A', _, c', e⟩)
        have HP5 := Lib.hid hown5
        have HG5 := Lib.hid hg5
        have hb5 : w5.heap[B0]? = w4.heap[B0]? := hg5.block B0 (Nat.lt_of_lt_of_le HK.out.lt HB4.out.size) (fun e => HnB.out e.symm)
        have cB5 : w5.cell? ⟨B0, 0, none⟩ = some (.slice Av nv cv') := (World.cell?_of_block (a := ⟨B0, 0, none⟩) hb5).trans cB4
        have fB5 : w5.frozen? ⟨B0, 0, none⟩ = false := (World.frozen?_of_block (a := ⟨B0, 0, none⟩) hb5).trans fB4
        refine hK _ _ ?_; clear hK K
        clear hown5 hg5 hb5
        refine wpAnyIn_ready (rs := [5]) (by kernel_rfl) (by simp) (AllReadyIn.cons rfl (fun K hK => ?_) AllReadyIn.nil)
        go_simp
        refine hK _ _ ?_; clear hK K
        refine wpAnyIn_done (by kernel_rfl) ?_ _
        have hv := own_base HL4.out.row
        have hL5 := OwnL.push (y := ⟨A3, n3, c3, yp⟩) HL4.out (HO4.out.mono hVs) (fun q hq g h1 h2 => by
          have e1 := HL.out.lt q hq g h1
          have e2 := own_base HO4.out g h2
          omega) HP5.out HG5.out
        have hst : ∀ k, k < V.heap.size → ¬ w2.heap.size + 2 ≤ k → w5.heap[k]? = V.heap[k]? := fun k h1 h2 => (HG5.out.block k (Nat.lt_of_lt_of_le h1 HB4.out.size) (fun e => h2 (hv k e.symm))).trans (HB4.out.block k h1)
        have hs5 : V.heap.size ≤ w5.heap.size := Nat.le_trans HB4.out.size HG5.out.size
        show KeepsF _ _ _ _ ∧ Stay _ _ _ ∧ (∃ v ps, Blk _ B0 29 #[v] ∧ OwnL _ (w2.heap.size + 2) v ps ∧ Piece.bytes ps = (pre ++ [(yat, yp)]).map (·.2)) ∧ OnlyS S w2 _
        refine ⟨KeepsF.trans ⟨hs5, fun k h1 h2 h3 => hst k h2 h3⟩ ((KeepsAll.setCell w5 hs2 _).but _),
          Stay.trans ⟨hs5, fun g hg => hst g (by have := (HRl.out g hg).1; omega) (by have := (HRl.out g hg).1; omega)⟩ (stay_setAt (fun h => (HRl.out B0 h).2 rfl)),
          ⟨.slice A5 n5 c5, ps ++ [⟨A3, n3, c3, yp⟩], blk_put (show Blk w5 B0 29 #[.slice Av nv cv'] from (hst B0 HK.out.lt (by omega)).trans HK.out) _, ?_, ?_⟩, ?_⟩
        · exact hL5.stay (fun g h1 h2 => Below.heap_setCell w5 ⟨B0, 0, none⟩ _ g (fun e => by simp at e; omega))
        · rw [List.map_append, ← HPs.out]; simp [Piece.bytes]
        · refine OnlyS.set ?_ S1 _
          exact ⟨HG5.out.os.trans (HB4.out.os.trans HO.out.os), HG5.out.tape.trans (HB4.out.tape.trans HO.out.tape), HG5.out.output.trans (HB4.out.output.trans HO.out.output), Nat.le_trans HO.out.size hs5, fun k h1 h2 => (hst k (Nat.lt_of_lt_of_le h1 HO.out.size) (by omega)).trans (HO.out.block k h1 h2)⟩
      · go_simp
        refine hK _ _ ?_; clear hK K
        obtain ⟨w4, hw4⟩ : ∃ w4, w4 = w3.alloc (.cells #[.slice A3 n3 c3] 22) := ⟨_, rfl⟩
        have hk4 : Blk w4 w3.heap.size 22 #[.slice A3 n3 c3] := by rw [hw4]; exact Blk.new w3 _ _
        have hb4 : Below w3.heap.size w3 w4 := hw4 ▸ (Below.refl _ _).alloc (Nat.le_refl _) _
        have hB3s : V.heap.size ≤ w3.heap.size := HB3.out.size
        have HB4 := Lib.hid (HB3.out.trans (hb4.mono hB3s))
        have hlt4 : B0 < w3.heap.size := Nat.lt_of_lt_of_le HK.out.lt hB3s
        have cB4 : w4.cell? ⟨B0, 0, none⟩ = some (.slice Av nv cv') := (World.cell?_of_block (a := ⟨B0, 0, none⟩) (hb4.block B0 hlt4)).trans cB3
        have fB4 : w4.frozen? ⟨B0, 0, none⟩ = false := (World.frozen?_of_block (a := ⟨B0, 0, none⟩) (hb4.block B0 hlt4)).trans fB3
        have HL4 := Lib.hid (HL.out.stay (V := w4) (fun g h1 h2 => HB4.out.block g h2))
        have HO4 := Lib.hid (HO3.out.keep hb4 (Nat.le_refl _))
        have hV4 : w2.heap.size + 2 ≤ w4.heap.size := Nat.le_trans hVs HB4.out.size
        rw [← hw4]
        clear hw4 hb4
        refine wpAnyIn_ready (rs := [0]) (by kernel_rfl) (by simp) (AllReadyIn.cons rfl (fun K hK => ?_) AllReadyIn.nil)
        go_simp
        refine hK _ _ ?_; clear hK K
        refine wpAnyIn_ready (rs := [4]) (by kernel_rfl) (by simp) (AllReadyIn.cons rfl (fun K hK => ?_) AllReadyIn.nil)
        refine stepLi w4 ⟨A3, n3, c3, yp⟩ _ rfl (.tmp 10) (.tmp 13) rfl w3.heap.size (w2.heap.size + 2) _ ps rfl HL4.out.row rfl hk4 hlen hV4 ?_
        intro v5 w5 hown5 hg5
        obtain ⟨A5, n5, c5, rfl⟩ : ∃ A n c, v5 = .slice A n c := (by obtain ⟨A', c', e, _, _⟩ := reads_own hown5; exact ⟨A', _, c', e⟩)
        have HP5 := Lib.hid hown5
        have HG5 := Lib.hid hg5
        have hb5 : w5.heap[B0]? = w4.heap[B0]? := hg5.block B0 (Nat.lt_of_lt_of_le HK.out.lt HB4.out.size) (fun e => HnB.out e.symm)
        have cB5 : w5.cell? ⟨B0, 0, none⟩ = some (.slice Av nv cv') := (World.cell?_of_block (a := ⟨B0, 0, none⟩) hb5).trans cB4
        have fB5 : w5.frozen? ⟨B0, 0, none⟩ = false := (World.frozen?_of_block (a := ⟨B0, 0, none⟩) hb5).trans fB4
        refine hK _ _ ?_; clear hK K
        clear hown5 hg5 hb5
        refine wpAnyIn_ready (rs := [5]) (by kernel_rfl) (by simp) (AllReadyIn.cons rfl (fun K hK => ?_) AllReadyIn.nil)
        go_simp
        refine hK _ _ ?_; clear hK K
        refine wpAnyIn_done (by kernel_rfl) ?_ _
        have hv := own_base HL4.out.row
        have hL5 := OwnL.push (y := ⟨A3, n3, c3, yp⟩) HL4.out (HO4.out.mono hVs) (fun q hq g h1 h2 => by
          have e1 := HL.out.lt q hq g h1
          have e2 := own_base HO4.out g h2
          omega) HP5.out HG5.out
        have hst : ∀ k, k < V.heap.size → ¬ w2.heap.size + 2 ≤ k → w5.heap[k]? = V.heap[k]? := fun k h1 h2 => (HG5.out.block k (Nat.lt_of_lt_of_le h1 HB4.out.size) (fun e => h2 (hv k e.symm))).trans (HB4.out.block k h1)
        have hs5 : V.heap.size ≤ w5.heap.size := Nat.le_trans HB4.out.size HG5.out.size
        show KeepsF _ _ _ _ ∧ Stay _ _ _ ∧ (∃ v ps, Blk _ B0 29 #[v] ∧ OwnL _ (w2.heap.size + 2) v ps ∧ Piece.bytes ps = (pre ++ [(yat, yp)]).map (·.2)) ∧ OnlyS S w2 _
        refine ⟨KeepsF.trans ⟨hs5, fun k h1 h2 h3 => hst k h2 h3⟩ ((KeepsAll.setCell w5 hs2 _).but _),
          Stay.trans ⟨hs5, fun g hg => hst g (by have := (HRl.out g hg).1; omega) (by have := (HRl.out g hg).1; omega)⟩ (stay_setAt (fun h => (HRl.out B0 h).2 rfl)),
          ⟨.slice A5 n5 c5, ps ++ [⟨A3, n3, c3, yp⟩], blk_put (show Blk w5 B0 29 #[.slice Av nv cv'] from (hst B0 HK.out.lt (by omega)).trans HK.out) _, ?_, ?_⟩, ?_⟩
        · exact hL5.stay (fun g h1 h2 => Below.heap_setCell w5 ⟨B0, 0, none⟩ _ g (fun e => by simp at e; omega))
        · rw [List.map_append, ← HPs.out]; simp [Piece.bytes]
        · refine OnlyS.set ?_ S1 _
          exact ⟨HG5.out.os.trans (HB4.out.os.trans HO.out.os), HG5.out.tape.trans (HB4.out.tape.trans HO.out.tape), HG5.out.output.trans (HB4.out.output.trans HO.out.output), Nat.le_trans HO.out.size hs5, fun k h1 h2 => (hst k (Nat.lt_of_lt_of_le h1 HO.out.size) (by omega)).trans (HO.out.block k h1 h2)⟩
  case stop =>
    rintro D cc pre V hD hpre hf hK
    exact hf.elim
  case done =>
    rintro D ys V hD rfl ⟨⟨v, ps, hk1, hL, hps⟩, hO⟩ hK
    have hb : Piece.bytes ps = frames b := by
      rw [hps]
      apply List.ext_getElem?
      intro i
      rcases e : (frames b)[i]? with _ | p
      · rw [List.getElem?_map, List.getElem?_eq_none_iff.2 (by rw [fseq_length]; exact List.getElem?_eq_none_iff.1 e)]; rfl
      · rw [List.getElem?_map, fseq_get e]; rfl
    obtain ⟨Av, nv, cv', rfl⟩ : ∃ A n c, v = .slice A n c := by
      obtain ⟨A', c', e, _, _⟩ := reads_own hL.row
      exact ⟨A', _, c', e⟩
    have cB : V.cell? ⟨B0, 0, none⟩ = some (.slice Av nv cv') := by rw [hk1.cell]; rfl
    have HL := Lib.hid hL
    have HO := Lib.hid hO
    have hmk : Marks w2.heap.size [{ target := .collected D, args := #[] }] V := Marks.cons (ds := []) trivial (fun d hd => by simp at hd) hD hK
    have HMk := Lib.hid hmk
    have HBe : Hid (Below w.heap.size w V) := Lib.hid (OnlyS.bel HB2.out hO (fun b hb => by have := HSe.out b hb; have := HB0.out; omega) HB2.out.size)
    have HBb := Lib.hid hb
    clear hL hO hmk hK hk1 hps hb
    go_wp2
    refine Marks.leaveC (B := w2.heap.size) _ _ HMk.out (fun W' hb hc => ?_)
    refine ⟨.slice Av nv cv', by simp [results, Tryd.f16, go_sem], ?_⟩
    refine ⟨HBe.out.trans (hb.mono HB2.out.size), Av, nv, cv', ps, rfl, ?_, HBb.out⟩
    have hL5 : OwnL W' (w2.heap.size + 2) (.slice Av nv cv') ps := by
      refine ⟨HL.out.row.stay fun g e => ?_, fun p hp => (HL.out.each p hp).stay fun g e => ?_, HL.out.apart⟩
      · obtain ⟨cs, hh⟩ := own_kind HL.out.row g e
        exact hc g cs _ hh
      · obtain ⟨cs, hh⟩ := own_kind (HL.out.each p hp) g e
        exact hc g cs _ hh
    exact hL5.mono (by have := HB2.out.size; omega)
end Go.Proofs.YtmmjmaohbmlfgaaDoor.Pk
