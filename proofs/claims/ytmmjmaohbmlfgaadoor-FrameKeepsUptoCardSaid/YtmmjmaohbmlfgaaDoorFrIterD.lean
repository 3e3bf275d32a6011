/- Package frame: Frames: the function that it answers goes over good frames, each payload a copy. -/
import Derived.Test.YtmmjmaohbmlfgaaDoorFrAllD
namespace Go.Proofs.YtmmjmaohbmlfgaaDoor.Pk
open Go.RowKit Go.Shelf Go.Proofs.YtmmjmaohbmlfgaaDoor.Crc Go.Proofs.YtmmjmaohbmlfgaaDoor.Fr
set_option linter.unusedVariables false
attribute [local go_sem] Oper.semAt_some encG
/-- What the function stands on. -/
def SrcR (Bt : Nat) (A : Option Addr) (n c : Nat) (x : Nat) : Prop := x = 0 ∨ x = Bt ∨ (Value.slice A n c).ownBlock = some x
def SrcF (W : World) (Bt : Nat) (A : Option Addr) (n c : Nat) (b : List Int) : Prop := Tab W ∧ Blk W Bt 22 #[.slice A n c] ∧ OwnB W 0 (.slice A n c) b
section
variable {W W' : World} {Bt n c : Nat} {A : Option Addr} {b : List Int}
theorem SrcF.stay (h : SrcF W Bt A n c b) (hs : Stay (SrcR Bt A n c) W W') : SrcF W' Bt A n c b :=
  ⟨fun i hi => (World.cell?_of_block (a := ⟨0, i, none⟩) (hs.2 0 (.inl rfl))).trans (h.1 i hi), (hs.2 Bt (.inr (.inl rfl))).trans h.2.1, h.2.2.stay fun g e => hs.2 g (.inr (.inr e))⟩
theorem SrcF.lt (h : SrcF W Bt A n c b) : ∀ x, SrcR Bt A n c x → x < W.heap.size := by
  rintro x (rfl | rfl | e)
  · exact h.1.pos
  · exact h.2.1.lt
  · exact own_lt h.2.2 x e
theorem SrcF.below (h : SrcF W Bt A n c b) (hb : Below W.heap.size W W') : SrcF W' Bt A n c b := h.stay ⟨hb.size, fun x hx => hb.block x (h.lt x hx)⟩
theorem Stay.sub_ {D D' : Nat → Prop} {A B : World} (h : Stay D A B) (hs : ∀ k, D' k → D k) : Stay D' A B := ⟨h.1, fun k hk => h.2 k (hs k hk)⟩
theorem block_own {W : World} {B n c : Nat} {A : Option Addr} {b : List Int} (h : OwnB W B (.slice A n c) b) {ad : Addr} (e : A = some ad) : (Value.slice A n c).ownBlock = some ad.block := by
  rcases h.2 with ⟨e2, _⟩ | ⟨g, cap, cur, e2, _⟩
  · injection e2 with e2; rw [e] at e2; cases e2
  · injection e2 with e2
    subst e2
    injection e with e
    subst e
    rfl
end
/-- What stands of the walk over the frames that came. -/
def WalkI (J : List FrX → World → Prop) (Z : Nat → Prop) (w2 : World) (pre : List (Nat × List Int)) (V : World) : Prop :=
  (∃ ys : List FrX, ys.map keyF = pre ∧ J ys V ∧ ∀ y ∈ ys, ∀ g, frF y g → g < V.heap.size) ∧ Stay Z w2 V

set_option maxRecDepth 100000 in
set_option maxHeartbeats 4000000 in
theorem frames1_in (m l Bt : Nat) (A : Option Addr) (n c : Nat) (b : List Int) (hby : Bytes b) (hn : n ≤ 17179869184) (J Jx : List FrX → World → Prop) (B : Nat) (hJ : OwnFrom B J) (hJx : OwnFrom B Jx)
    (hY : ∀ pre (x : FrX) W, J pre W → OkF b (SrcR Bt A n c) B pre x W → YieldAt Fence.wide (m - 1) Tryd.prog l (encF x) W fun e W' => KeepsF B (frB B x) W W' ∧
      ((e = .returned (.bool true) ∧ J (pre ++ [x]) W' ∧ Stay (SrcR Bt A n c) W W') ∨ (e = .returned (.bool false) ∧ Jx (pre ++ [x]) W')))
    (W : World) (hB : B ≤ W.heap.size) (hP : SrcF W Bt A n c b) (h0 : J [] W) :
    CallsIn Fence.wide m Tryd.prog 25 #[.func (.yield l) #[] #[], .pointer (some ⟨Bt, 0, none⟩)] W fun e W' => (∃ v, e = .returned v) ∧
      ((∃ ys, ys.map keyF = fseq b ∧ J ys W') ∨ (∃ pre, pre.map keyF <+: fseq b ∧ Jx pre W')) := by
  have hl := own_len hP.2.2
  obtain ⟨W1, hW1⟩ : ∃ W1, W1 = W.alloc (.cells #[.func (.yield l) #[] #[]] 50) := ⟨_, rfl⟩
  have hb1 : Below W.heap.size W W1 := hW1 ▸ (Below.refl _ W).alloc (Nat.le_refl _) _
  have kb1 : Blk W1 W.heap.size 50 #[.func (.yield l) #[] #[]] := by rw [hW1]; exact Blk.new W _ _
  have hP1 := hP.below hb1
  have ct : (W.alloc (.cells #[.func (.yield l) #[] #[]] 50)).cell? ⟨Bt, 0, none⟩ = some (.slice A n c) := by rw [← hW1]; exact hP1.2.1.cell 0
  have HX := Lib.hid (good_any A n c b W1 hP1.1 (own_reads hP1.2.2) hl.2 hby hn)
  have HP1 := Lib.hid hP1
  have HB1 := Lib.hid hb1
  have HK1 := Lib.hid kb1
  have HJ := Lib.hid hJ
  have HJx := Lib.hid hJx
  have HY := Lib.hid hY
  have HJ0 := Lib.hid h0
  have HL := Lib.hid hl
  obtain ⟨B1, hB1⟩ : ∃ B1, B1 = W.heap.size := ⟨_, rfl⟩
  have HB1e := Lib.hid hB1
  clear hP hY h0 hJ hJx hby hl hb1 kb1 hP1
  refine callsIn_of_wp_marks Tryd.func25 rfl trivial ?_ rfl
  simp only [Tryd.ntmps25, List.size_toArray, List.length_cons, List.length_nil, Nat.reduceAdd, Nat.reduceSub, Array.replicate_succ, Array.replicate_zero, List.push_toArray, List.append_toArray, List.nil_append, List.cons_append]
  gi_wp2_with fail
  rw [← hW1]
  clear hW1 ct
  refine ⟨trivial, (fun h => by cases h), (callsIn_wide.2 HX.out).mono ?_⟩
  rintro e w2 ⟨rfl, hseq, hb2, hsz⟩
  have hPw2 : SrcF w2 Bt A n c b := HP1.out.below hb2
  have HP2 := Lib.hid hPw2
  have SE2 := Lib.hid hseq
  have HB2 := Lib.hid (HB1.out.trans (hb2.mono HB1.out.size))
  have HK2 := Lib.hid (HK1.out.below hb2 HK1.out.lt)
  have hW12 : W.heap.size < w2.heap.size := HK2.out.lt
  have hW1s : W1.heap.size < w2.heap.size := by omega
  have hW1b : W.heap.size ≤ W1.heap.size := HB1.out.size
  clear hseq hb2 HX hsz hPw2
  gi_wp2
  have cv : True := trivial
  obtain ⟨Z, hZ⟩ : ∃ Z : Nat → Prop, Z = fun k => SrcR Bt A n c k ∨ (W.heap.size ≤ k ∧ k < w2.heap.size) := ⟨_, rfl⟩
  have HZ : Hid (∀ k, Z k ↔ (SrcR Bt A n c k ∨ (W.heap.size ≤ k ∧ k < w2.heap.size))) := Lib.hid (fun k => by rw [hZ])
  have HZl : Hid (∀ k, Z k → k < w2.heap.size) := Lib.hid (fun k hk => by
    rcases (HZ.out k).1 hk with h | h
    · exact HP2.out.lt k h
    · exact h.2)
  have HSub : Hid (∀ k, SrcB W1.heap.size A n k → Z k) := Lib.hid (by
    intro k hk
    refine (HZ.out k).2 ?_
    rcases hk with rfl | rfl | ⟨h1, ad, h2, rfl⟩
    · exact .inl (.inl rfl)
    · exact .inr ⟨hW1b, hW1s⟩
    · exact .inl (.inr (.inr (block_own HP2.out.2.2 h2))))
  clear hZ
  refine' range_boundF (α := Nat × List Int) (gf := 30) (pb := #[]) (lb := #[.pointer (some ⟨W1.heap.size, 0, none⟩)]) rfl (fun args u => rfl) (SE2.out.at_ _) (fun _ _ _ _ _ _ h => h) (fun h k => h.trans k) (stay_b SE2.out.lt) (fun _ => rfl) (fun _ _ _ _ _ _ _ _ _ h => h)
    (fun pre V => WalkI J Z w2 pre V)
    (fun cc pre V => cc = .ret ∧ ∃ ys : List FrX, ys.map keyF = pre ∧ Jx ys V)
    ?own ?ownx ⟨⟨[], rfl, ownFrom_below HJ.out HJ0.out HB2.out, fun y hy => by simp at hy⟩, Stay.refl_ _ _⟩
    _ ?assign ?body ?done ?stop
  case own =>
    rintro q A B row ⟨⟨ys, h1, h2, h3⟩, hst⟩ hg hr
    exact ⟨⟨ys, h1, HJ.out ys A B row h2 hg (fun r e => ⟨by have := (hr r e).1; omega, (hr r e).2⟩), fun y hy g e => Nat.lt_of_lt_of_le (h3 y hy g e) hg.size⟩,
      hst.trans ⟨hg.size, fun k hk => hg.block k (Nat.lt_of_lt_of_le (HZl.out k hk) hst.1) (fun e => by have := (hr k e.symm).1; have := HZl.out k hk; omega)⟩⟩
  case ownx =>
    rintro cc q A B row ⟨h0, ys, h1, h2⟩ hg hr
    exact ⟨h0, ys, h1, HJx.out ys A B row h2 hg (fun r e => ⟨by have := (hr r e).1; omega, (hr r e).2⟩)⟩
  case assign =>
    intro lp y V K hK
    gi_wp2
    exact hK
  case body =>
    rintro lp pre ⟨yat, yp⟩ V hlp hrec ⟨⟨ys, hys, hJy, hyl⟩, hst⟩ ⟨B', hB', hBV, hok⟩
    obtain ⟨h1, h2, h3⟩ := fseq_next hok
    have hSV : SrcF V Bt A n c b := HP2.out.stay (Stay.sub_ hst (fun k hk => (HZ.out k).2 (.inl hk)))
    have hrd := (pay_reads (own_reads hSV.2.2) HL.out.2 h2).2
    simp only at h1
    rw [← h1] at hrd
    obtain ⟨q, hq⟩ : ∃ q, q = yp.length := ⟨_, rfl⟩
    have hq20 : q ≤ 1048576 := by have := frames_fit b yp (List.mem_of_getElem? h2); omega
    dsimp only at hrd ⊢
    rw [← hq] at hrd ⊢
    have HCl : Hid (∀ U, Below V.heap.size V U → Calls Tryd.prog 24 #[.slice (payA A c yat) q (c - yat - 8)] U fun e w' => ∃ v, e = .returned v ∧ OwnB w' U.heap.size v yp ∧ Below U.heap.size U w') := Lib.hid (fun U hU => clone_code _ _ _ _ U ((hrd.below hU).more hU.size) (by omega))
    have hB1V : W.heap.size < V.heap.size := by have := hst.1; omega
    have kB : Blk V W.heap.size 50 #[.func (.yield l) #[] #[]] := by
      exact (hst.2 _ ((HZ.out _).2 (.inr ⟨Nat.le_refl _, hW12⟩))).trans HK2.out
    have cB : V.cell? ⟨W.heap.size, 0, none⟩ = some (.func (.yield l) #[] #[]) := by rw [kB.cell]; rfl
    have hBV2 : B ≤ V.heap.size := by have := hst.1; omega
    have HJy := Lib.hid hJy
    have HYs := Lib.hid hys
    have HYl := Lib.hid hyl
    have HST := Lib.hid hst
    have HOk := Lib.hid hok
    have HSV := Lib.hid hSV
    clear hys hJy hyl hst hok hSV h1 h2 h3 hrd hq kB
    gi_wp2
    refine wpIn_region_any (by kernel_rfl) ?_
    change wpAnyIn _ _ _ _ _ _ _ _ _ (World.drew _)
    refine anyIn_roundL (F := Fence.wide) (by rfl) lp ?_
    refine take_lit (i := 1) rfl rfl rfl (by kernel_rfl) (by kernel_rfl) (by kernel_rfl) (fun _ _ _ h => h) ⟨Or.inl ⟨by rfl, fun _ => rfl⟩, fun _ => rfl⟩ (by simp only [List.setIfInBounds_toArray, List.set_cons_succ, List.set_cons_zero]; first | done | rfl) ?_
    refine take_lit (i := 2) rfl rfl rfl (by kernel_rfl) (by kernel_rfl) (by kernel_rfl) (fun _ _ _ h => h) ⟨Or.inl ⟨by rfl, fun _ => rfl⟩, fun _ => rfl⟩ (by simp only [List.setIfInBounds_toArray, List.set_cons_succ, List.set_cons_zero]; first | done | rfl) ?_
    refine wpAnyIn_ready (rs := [0, 3]) (by kernel_rfl) (by simp) (AllReadyIn.cons rfl (fun K hK => ?_) (AllReadyIn.cons rfl (fun K hK => ?_) AllReadyIn.nil))
    · go_simp
      refine hK _ _ ?_; clear hK K
      refine wpAnyIn_ready (rs := [3]) (by kernel_rfl) (by simp) (AllReadyIn.cons rfl (fun K hK => ?_) AllReadyIn.nil)
      go_simp
      refine ⟨trivial, (fun h => by cases h), (callsIn_wide.2 (HCl.out V.drew ⟨rfl, rfl, rfl, Nat.le_refl _, fun _ _ => rfl⟩)).mono ?_⟩
      rintro e3 w3 ⟨v3, rfl, ho3, hb3⟩
      obtain ⟨A3, n3, c3, rfl⟩ := own_slice ho3
      have HO3 : Hid (OwnB w3 V.heap.size (.slice A3 n3 c3) yp) := Lib.hid ho3
      have HB3 : Hid (Below V.heap.size V w3) := Lib.hid ⟨hb3.os, hb3.tape, hb3.output, hb3.size, hb3.block⟩
      have cB3 : w3.cell? ⟨W.heap.size, 0, none⟩ = some (.func (.yield l) #[] #[]) := (World.cell?_of_block (a := ⟨W.heap.size, 0, none⟩) (HB3.out.block W.heap.size hB1V)).trans cB
      clear ho3 hb3
      refine hK _ _ ?_; clear hK K
      obtain ⟨fn, tmps, assign, body, hy, hR⟩ := HY.out ys ⟨yat, A3, n3, c3, yp⟩ w3 (ownFrom_below HJ.out HJy.out HB3.out) (by
        refine ⟨by rw [List.map_append, HYs.out]; exact HOk.out, HO3.out.mono hBV2, fun g hg => ⟨fun hR => ?_, fun y hy hyg => ?_⟩⟩
        · have e1 := own_base HO3.out g hg
          have e2 := HSV.out.lt g hR
          omega
        · have e1 := own_base HO3.out g hg
          have e2 := HYl.out y hy g hyg
          omega)
      replace hy : (Instr.yield l #[.int .i64 (yat : Int), .slice A3 n3 c3]).run Tryd.prog w3 = .ok (.round l fn tmps assign body) w3 := hy
      have HRR := Lib.hid hR
      clear hR
      refine wpAnyIn_ready (rs := [4]) (by kernel_rfl) (by simp) (AllReadyIn.cons rfl (fun K hK => ?_) AllReadyIn.nil)
      go_simp
      refine ⟨(fun h => by cases h), (roundIn_any HRR.out).mono ?_⟩
      clear HRR hy
      rintro e4 w4 ⟨hka, ⟨rfl, hJ4, hs4⟩ | ⟨rfl, hx4⟩⟩
      · refine hK _ _ ?_; clear hK K
        refine wpAnyIn_ready (rs := [5]) (by kernel_rfl) (by simp) (AllReadyIn.cons rfl (fun K hK => ?_) AllReadyIn.nil)
        go_simp
        refine hK _ _ ?_; clear hK K
        refine wpAnyIn_done (by kernel_rfl) ?_ _
        gi_wp2
        have hs4b : w3.heap.size ≤ w4.heap.size := hka.size
        have hs3 : V.heap.size ≤ w4.heap.size := Nat.le_trans HB3.out.size hs4b
        have hst4 : ∀ k, k < V.heap.size → B ≤ k → w4.heap[k]? = V.heap[k]? := fun k h1 h2 => (hka.same k h2 (Nat.lt_of_lt_of_le h1 HB3.out.size) (fun e => by have := own_base HO3.out k e; omega)).trans (HB3.out.block k h1)
        have hstZ : Stay Z V w4 := ⟨hs3, fun k hk => by
          have hkV : k < V.heap.size := Nat.lt_of_lt_of_le (HZl.out k hk) HST.out.1
          rcases (HZ.out k).1 hk with h | h
          · exact (hs4.2 k h).trans (HB3.out.block k hkV)
          · exact hst4 k hkV (by omega)⟩
        refine ⟨⟨hs3, fun k h1 h2 h3 => hst4 k h2 (by omega)⟩, Stay.sub_ hstZ HSub.out, ⟨ys ++ [⟨yat, A3, n3, c3, yp⟩], by rw [List.map_append, HYs.out]; rfl, hJ4, fun y hy g hg => ?_⟩, HST.out.trans hstZ⟩
        rcases List.mem_append.1 hy with h1 | h1
        · exact Nat.lt_of_lt_of_le (HYl.out y h1 g hg) hs3
        · obtain rfl := List.mem_singleton.1 h1
          exact Nat.lt_of_lt_of_le (own_lt HO3.out g hg) hs4b
      · refine hK _ _ ?_; clear hK K
        refine wpAnyIn_ready (rs := [5]) (by kernel_rfl) (by simp) (AllReadyIn.cons rfl (fun K hK => ?_) AllReadyIn.nil)
        go_simp
        refine hK _ _ ?_; clear hK K
        refine wpAnyIn_done (by kernel_rfl) ?_ _
        gi_wp2
        have hs4b : w3.heap.size ≤ w4.heap.size := hka.size
        have hs3 : V.heap.size ≤ w4.heap.size := Nat.le_trans HB3.out.size hs4b
        have hst4 : ∀ k, k < V.heap.size → B ≤ k → w4.heap[k]? = V.heap[k]? := fun k h1 h2 => (hka.same k h2 (Nat.lt_of_lt_of_le h1 HB3.out.size) (fun e => by have := own_base HO3.out k e; omega)).trans (HB3.out.block k h1)
        exact ⟨⟨hs3, fun k h1 h2 h3 => hst4 k h2 (by omega)⟩, rfl, ys ++ [⟨yat, A3, n3, c3, yp⟩], by rw [List.map_append, HYs.out]; rfl, hx4⟩
    · go_simp
      refine ⟨trivial, (fun h => by cases h), (callsIn_wide.2 (HCl.out V.drew ⟨rfl, rfl, rfl, Nat.le_refl _, fun _ _ => rfl⟩)).mono ?_⟩
      rintro e3 w3 ⟨v3, rfl, ho3, hb3⟩
      obtain ⟨A3, n3, c3, rfl⟩ := own_slice ho3
      have HO3 : Hid (OwnB w3 V.heap.size (.slice A3 n3 c3) yp) := Lib.hid ho3
      have HB3 : Hid (Below V.heap.size V w3) := Lib.hid ⟨hb3.os, hb3.tape, hb3.output, hb3.size, hb3.block⟩
      have cB3 : w3.cell? ⟨W.heap.size, 0, none⟩ = some (.func (.yield l) #[] #[]) := (World.cell?_of_block (a := ⟨W.heap.size, 0, none⟩) (HB3.out.block W.heap.size hB1V)).trans cB
      clear ho3 hb3
      refine hK _ _ ?_; clear hK K
      refine wpAnyIn_ready (rs := [0]) (by kernel_rfl) (by simp) (AllReadyIn.cons rfl (fun K hK => ?_) AllReadyIn.nil)
      go_simp
      refine hK _ _ ?_; clear hK K
      obtain ⟨fn, tmps, assign, body, hy, hR⟩ := HY.out ys ⟨yat, A3, n3, c3, yp⟩ w3 (ownFrom_below HJ.out HJy.out HB3.out) (by
        refine ⟨by rw [List.map_append, HYs.out]; exact HOk.out, HO3.out.mono hBV2, fun g hg => ⟨fun hR => ?_, fun y hy hyg => ?_⟩⟩
        · have e1 := own_base HO3.out g hg
          have e2 := HSV.out.lt g hR
          omega
        · have e1 := own_base HO3.out g hg
          have e2 := HYl.out y hy g hyg
          omega)
      replace hy : (Instr.yield l #[.int .i64 (yat : Int), .slice A3 n3 c3]).run Tryd.prog w3 = .ok (.round l fn tmps assign body) w3 := hy
      have HRR := Lib.hid hR
      clear hR
      refine wpAnyIn_ready (rs := [4]) (by kernel_rfl) (by simp) (AllReadyIn.cons rfl (fun K hK => ?_) AllReadyIn.nil)
      go_simp
      refine ⟨(fun h => by cases h), (roundIn_any HRR.out).mono ?_⟩
      clear HRR hy
      rintro e4 w4 ⟨hka, ⟨rfl, hJ4, hs4⟩ | ⟨rfl, hx4⟩⟩
      · refine hK _ _ ?_; clear hK K
        refine wpAnyIn_ready (rs := [5]) (by kernel_rfl) (by simp) (AllReadyIn.cons rfl (fun K hK => ?_) AllReadyIn.nil)
        go_simp
        refine hK _ _ ?_; clear hK K
        refine wpAnyIn_done (by kernel_rfl) ?_ _
        gi_wp2
        have hs4b : w3.heap.size ≤ w4.heap.size := hka.size
        have hs3 : V.heap.size ≤ w4.heap.size := Nat.le_trans HB3.out.size hs4b
        have hst4 : ∀ k, k < V.heap.size → B ≤ k → w4.heap[k]? = V.heap[k]? := fun k h1 h2 => (hka.same k h2 (Nat.lt_of_lt_of_le h1 HB3.out.size) (fun e => by have := own_base HO3.out k e; omega)).trans (HB3.out.block k h1)
        have hstZ : Stay Z V w4 := ⟨hs3, fun k hk => by
          have hkV : k < V.heap.size := Nat.lt_of_lt_of_le (HZl.out k hk) HST.out.1
          rcases (HZ.out k).1 hk with h | h
          · exact (hs4.2 k h).trans (HB3.out.block k hkV)
          · exact hst4 k hkV (by omega)⟩
        refine ⟨⟨hs3, fun k h1 h2 h3 => hst4 k h2 (by omega)⟩, Stay.sub_ hstZ HSub.out, ⟨ys ++ [⟨yat, A3, n3, c3, yp⟩], by rw [List.map_append, HYs.out]; rfl, hJ4, fun y hy g hg => ?_⟩, HST.out.trans hstZ⟩
        rcases List.mem_append.1 hy with h1 | h1
        · exact Nat.lt_of_lt_of_le (HYl.out y h1 g hg) hs3
        · obtain rfl := List.mem_singleton.1 h1
          exact Nat.lt_of_lt_of_le (own_lt HO3.out g hg) hs4b
      · refine hK _ _ ?_; clear hK K
        refine wpAnyIn_ready (rs := [5]) (by kernel_rfl) (by simp) (AllReadyIn.cons rfl (fun K hK => ?_) AllReadyIn.nil)
        go_simp
        refine hK _ _ ?_; clear hK K
        refine wpAnyIn_done (by kernel_rfl) ?_ _
        gi_wp2
        have hs4b : w3.heap.size ≤ w4.heap.size := hka.size
        have hs3 : V.heap.size ≤ w4.heap.size := Nat.le_trans HB3.out.size hs4b
        have hst4 : ∀ k, k < V.heap.size → B ≤ k → w4.heap[k]? = V.heap[k]? := fun k h1 h2 => (hka.same k h2 (Nat.lt_of_lt_of_le h1 HB3.out.size) (fun e => by have := own_base HO3.out k e; omega)).trans (HB3.out.block k h1)
        exact ⟨⟨hs3, fun k h1 h2 h3 => hst4 k h2 (by omega)⟩, rfl, ys ++ [⟨yat, A3, n3, c3, yp⟩], by rw [List.map_append, HYs.out]; rfl, hx4⟩
  case stop =>
    rintro D cc pre V hD hpre ⟨rfl, ys, hys, hx⟩ hd
    have HMk := Lib.hid (show Marks w2.heap.size [{ target := .collected D, args := #[] }] V from Marks.cons (ds := []) trivial (fun d hd => by simp at hd) hD hd)
    have HX := Lib.hid hx
    have HPr : Hid (ys.map keyF <+: fseq b) := Lib.hid (by rw [hys]; exact hpre)
    clear hx hd hys hpre
    gi_wp2
    refine Marks.leaveP (B := w2.heap.size) (Pp := fun V' => Jx ys V') (fun V' D hj hD hd => HJx.out.putObj _ hj (by omega) hd rfl) _ _ HMk.out HX.out (fun V' hj => ?_)
    exact ⟨_, results_none rfl _ _ _, ⟨_, rfl⟩, .inr ⟨ys, HPr.out, hj⟩⟩
  case done =>
    rintro D xs V hD rfl ⟨⟨ys, hys, hj, _⟩, hst⟩ hd
    have HMk := Lib.hid (show Marks w2.heap.size [{ target := .collected D, args := #[] }] V from Marks.cons (ds := []) trivial (fun d hd => by simp at hd) hD hd)
    have HJd := Lib.hid hj
    have HYs := Lib.hid hys
    clear hj hd hys hst
    gi_wp2
    refine Marks.leaveP (B := w2.heap.size) (Pp := fun V' => J ys V') (fun V' D hj hD hd => HJ.out.putObj _ hj (by omega) hd rfl) _ _ HMk.out HJd.out (fun V' hj => ?_)
    exact ⟨_, results_none rfl _ _ _, ⟨_, rfl⟩, .inl ⟨ys, HYs.out, hj⟩⟩

theorem frames_seq (Bt : Nat) (A : Option Addr) (n c : Nat) (b : List Int) (hby : Bytes b) (hn : n ≤ 17179869184) (w : World) (hP : SrcF w Bt A n c b) :
    SeqF (.func (.func 25) #[] #[.pointer (some ⟨Bt, 0, none⟩)]) b (SrcR Bt A n c) w := by
  refine ⟨_, _, _, rfl, fun args u => rfl, hP.lt, fun m W hW => ?_⟩
  intro l J Jx W' hb hJ hJx hY h0
  exact frames1_in m l Bt A n c b hby hn J Jx W'.heap.size hJ hJx hY W' (Nat.le_refl _) ((hP.stay hW).below (hb.mono (Nat.le_refl _))) h0

set_option maxHeartbeats 1000000 in
theorem framesC : FramesC := by
  intro A n c b w ht hr hnc hby hn
  have hbl : b.length = n := by have := hr.1; simpa using this
  have HX := Lib.hid (clone_code A n c b w hr (by omega))
  have HT := Lib.hid ht
  have HBy := Lib.hid hby
  clear ht hr hby
  go_enter Tryd.func14, Tryd.ntmps14
  go_wp2_with fail
  refine HX.out.mono ?_
  rintro e w2 ⟨v2, rfl, ho2, hb2⟩
  obtain ⟨A2, n2, c2, rfl⟩ := own_slice ho2
  have hl2 := own_len ho2
  have HO2 := Lib.hid ho2
  have HB2 := Lib.hid hb2
  clear hb2 ho2 HX
  go_wp2
  go_ret
  have hb3 : Below w2.heap.size w2 (w2.alloc (.cells #[.slice A2 n2 c2] 22)) := (Below.refl _ w2).alloc (Nat.le_refl _) _
  have hS : SrcF (w2.alloc (.cells #[.slice A2 n2 c2] 22)) w2.heap.size A2 n2 c2 b :=
    ⟨(HT.out.next HB2.out).next hb3, Blk.new w2 _ _, (HO2.out.mono (Nat.zero_le _)).alloc _⟩
  refine ⟨_, SrcR w2.heap.size A2 n2 c2, rfl, frames_seq w2.heap.size A2 n2 c2 b HBy.out (by have := hl2.1; omega) _ hS, HB2.out.trans (hb3.mono HB2.out.size), ?_⟩
  rintro x (rfl | rfl | e)
  · exact .inl rfl
  · exact .inr HB2.out.size
  · exact .inr (own_base HO2.out x e)
end Go.Proofs.YtmmjmaohbmlfgaaDoor.Pk
