/- Package net: the function that All answers goes over places and bytes; All. -/
import Derived.Test.YtcjfammfplcigaaNtCode4
namespace Go.Proofs.Ytcjfammfplcigaa.Pk
open Go.RowKit Go.Shelf Go.Proofs.Ytcjfammfplcigaa.Tb Go.Proofs.Ytcjfammfplcigaa.Nt
set_option linter.unusedVariables false
attribute [local go_sem] Oper.semAt_some encT
def RQ (x : Nat) (R : Nat → Prop) (k : Nat) : Prop := k = x ∨ R k
/-- What stands of the walk over the rows that came. -/
def WalkQ (J : List NtX → World → Prop) (D : Nat → Prop) (w2 : World) (B1 l : Nat) (l0 : Li) (pre : List Rw) (V : World) : Prop :=
  (∃ ys : List NtX, ys.length = pre.length ∧ ys.map keyN <+: nseq l0 ∧ J ys V ∧ ∀ y ∈ ys, ∀ g, frN y g → g < V.heap.size) ∧ Blk V (B1 + 1) 3 #[.int .i64 (pre.length : Nat)] ∧ Blk V B1 59 #[.func (.yield l) #[] #[]] ∧ Stay D w2 V
theorem turned_of_grown {B : Nat} {A V : World} {row : Option Nat} (hg : A.grownBy V row) (hr : ∀ r, row = some r → B ≤ r) : Turned (fun b => B ≤ b) A V :=
  ⟨hg.os, hg.tape, hg.output, hg.size, fun i hi hn => hg.block i hi (fun e => hn (hr i e.symm))⟩
theorem rows_at {rows pre : List Rw} {x : Rw} (h : pre ++ [x] <+: rows) : rows[pre.length]? = some x := by
  obtain ⟨s, rfl⟩ := h
  simp
theorem texts_at {rows : List Rw} {l : Li} (h : rows.map (·.2) = l.map strOfNums) {i : Nat} {x : Rw} (hx : rows[i]? = some x) : ∃ p, l[i]? = some p ∧ x.2 = strOfNums p := by
  have h1 := congrArg (fun (z : List ByteArray) => z[i]?) h
  simp only [List.getElem?_map, hx, Option.map_some] at h1
  cases hp : l[i]? with
  | none => rw [hp] at h1; simp at h1
  | some p => rw [hp] at h1; simp at h1; exact ⟨p, rfl, h1⟩
theorem keys_next {l : Li} {ys : List NtX} (h : ys.map keyN <+: nseq l) {p : List Int} (hp : l[ys.length]? = some p) {y : NtX} (h1 : y.at_ = ys.length) (h2 : y.p = p) : (ys ++ [y]).map keyN <+: nseq l := by
  obtain ⟨s, hs⟩ := h
  have hg := nseq_get hp
  rw [← hs, List.getElem?_append_right (by simp)] at hg
  simp at hg
  cases s with
  | nil => simp at hg
  | cons a s =>
    simp at hg
    refine ⟨s, ?_⟩
    rw [← hs, hg]
    simp [keyN, h1, h2]
theorem Marks.leaveP {F : Fence} {n : Nat} {P : Program} {fn : Func} {tmps : Array Value} {R : Ending → World → Prop} {B : Nat} {Pp : World → Prop}
    (hPp : ∀ W D, Pp W → B ≤ D → W.heap[D]? = some (.deferred (some [])) → Pp (W.putObj D (.deferred none))) : ∀ (ds : List Deferred) (W : World), Marks B ds W → Pp W →
    (∀ W', Pp W' → LeavesIn F n P fn tmps R [] .returning W') → LeavesInM F n P fn tmps R ds .returning W := by
  intro ds
  induction ds with
  | nil => intro W _ hp h; exact h W hp
  | cons d ds ih =>
    intro W hm hp h
    obtain ⟨D, rfl, h1, h2, h3, h4, h5⟩ := hm
    refine ⟨by simp, .inl ⟨D, W.putObj D (.deferred none), rfl, run_takeDeferred h3, ?_⟩⟩
    refine ih _ (h5.keep (by simp [World.putObj]) (fun k ⟨d, hd, he⟩ => World.putObj_heap_other (fun e => ?_))) (hPp _ _ hp h1 h3) h
    exact h4 d hd (by rw [he, e])
theorem roundIn_in {F : Fence} {m : Nat} {P : Program} {l : Nat} {f : FuncId} {tmps : Array Value} {assign body : Code} {w : World} {R : Ending → World → Prop} (l' : Nat)
    (h : RoundIn F m P l f tmps assign body w R) : RoundIn (F.inRound l') m P l f tmps assign body w R := h
set_option maxRecDepth 100000 in
set_option maxHeartbeats 4000000 in
theorem all1_in (m l x gf : Nat) (lb : Array Value) (rows : List Rw) (l0 : Li) (R : Nat → Prop) (hfew : l0.length ≤ 512) (ht : rows.map (·.2) = l0.map strOfNums) (hby : Bys l0) (J Jx : List NtX → World → Prop) (W : World) (hJ : Std W.heap.size J) (hJx : Std W.heap.size Jx)
    (hY : ∀ pre (y : NtX) W1, J pre W1 → OkN l0 (RQ x R) W.heap.size pre y W1 → YieldAt Fence.wide (m - 1) Try.prog l (encN y) W1 fun e W' => KeepsF W.heap.size (frNB W.heap.size y) W1 W' ∧
      ((e = .returned (.bool true) ∧ J (pre ++ [y]) W' ∧ Stay (RQ x R) W1 W') ∨ (e = .returned (.bool false) ∧ Jx (pre ++ [y]) W')))
    (hx : Blk W x 57 #[.func (.func gf) #[] lb]) (hs : SeqT (.func (.func gf) #[] lb) rows R W) (h0 : J [] W) :
    CallsIn Fence.wide m Try.prog 29 #[.func (.yield l) #[] #[], .pointer (some ⟨x, 0, none⟩)] W fun e W' => (∃ v, e = .returned v) ∧
      ((∃ ys, ys.map keyN = nseq l0 ∧ J ys W') ∨ (∃ pre, pre.map keyN <+: nseq l0 ∧ Jx pre W')) := by
  have hlen : rows.length = l0.length := by have := congrArg List.length ht; simpa using this
  obtain ⟨W1, hW1⟩ : ∃ W1, W1 = W.alloc (.cells #[.func (.yield l) #[] #[]] 59) := ⟨_, rfl⟩
  obtain ⟨w2, hw2⟩ : ∃ w2, w2 = W1.alloc (.cells #[.int .i64 0] 3) := ⟨_, rfl⟩
  have hb1 : Below W.heap.size W W1 := hW1 ▸ (Below.refl _ W).alloc (Nat.le_refl _) _
  have hb12 : Below W1.heap.size W1 w2 := hw2 ▸ (Below.refl _ W1).alloc (Nat.le_refl _) _
  have hs1 : W1.heap.size = W.heap.size + 1 := by rw [hW1, World.size_alloc]
  have hs2 : w2.heap.size = W.heap.size + 2 := by rw [hw2, World.size_alloc, hs1]
  have hb2 : Below W.heap.size W w2 := hb1.trans (hb12.mono hb1.size)
  have kb1 : Blk w2 W.heap.size 59 #[.func (.yield l) #[] #[]] := by rw [hw2, hW1]; exact (Blk.new W _ _).alloc _
  have kb2 : Blk w2 (W.heap.size + 1) 3 #[.int .i64 0] := by rw [hw2, ← hs1]; exact Blk.new W1 _ _
  have ct : W.cell? ⟨x, 0, none⟩ = some (.func (.func gf) #[] lb) := hx.cell 0
  have hxl := hx.lt
  obtain ⟨_, _, e0, en, hq1, hq2⟩ := id hs
  injection e0 with e0 _ e1
  injection e0 with e0
  subst e0; subst e1
  have EN := Lib.hid en
  clear hq1 hq2 en
  have SE2 := Lib.hid (hs.stay (Stay.below hb2 hs.lt))
  have HRl := Lib.hid hs.lt
  have HX2 := Lib.hid (hx.below hb2 hxl)
  have HB2 := Lib.hid hb2
  have HK1 := Lib.hid kb1
  have HK2 := Lib.hid kb2
  have HJ := Lib.hid hJ
  have HJx := Lib.hid hJx
  have HY := Lib.hid hY
  have HJ0 := Lib.hid (hJ [] W w2 h0 ⟨hb2.os, hb2.tape, hb2.output, hb2.size, fun i hi _ => hb2.block i hi⟩)
  have HT := Lib.hid ht
  have HBy := Lib.hid hby
  have HLn := Lib.hid hlen
  clear hs hb2 kb1 kb2 hJ hJx hY h0 ht hby hlen hb1 hb12 hx
  refine callsIn_of_wp_marks Try.func29 rfl trivial ?_ rfl
  simp only [Try.ntmps29, List.size_toArray, List.length_cons, List.length_nil, Nat.reduceAdd, Nat.reduceSub, Array.replicate_succ, Array.replicate_zero, List.push_toArray, List.append_toArray, List.nil_append, List.cons_append]
  gi_wp2_with fail
  rw [← hW1, ← hw2]
  clear hW1 hw2 ct
  refine' range_boundF (α := Rw) (gf := gf) (pb := #[]) (lb := lb) rfl EN.out (SE2.out.at_ _) (fun _ _ _ _ _ _ h => h.elim) (fun h k => h.trans k) (stay_b SE2.out.lt) (fun _ => rfl) (fun _ _ _ _ _ _ _ _ _ h => h)
    (fun pre V => WalkQ J (RQ x R) w2 W.heap.size l l0 pre V)
    (fun cc pre V => cc = .ret ∧ ∃ ys : List NtX, ys.map keyN <+: nseq l0 ∧ Jx ys V)
    ?own ?ownx ⟨⟨[], rfl, List.nil_prefix, HJ0.out, fun y hy => by simp at hy⟩, HK2.out, HK1.out, Stay.refl_ _ _⟩
    _ ?assign ?body ?done ?stop
  case own =>
    rintro q A B row ⟨⟨ys, h1, h2, h3, h4⟩, k2, k1, hst⟩ hg hr
    have htn : Turned (fun b => w2.heap.size ≤ b) A B := turned_of_grown hg (fun r e => (hr r e).1)
    refine ⟨⟨ys, h1, h2, HJ.out ys A B h3 (turned_of_grown hg (fun r e => by have := (hr r e).1; omega)), fun y hy g e => Nat.lt_of_lt_of_le (h4 y hy g e) hg.size⟩, k2.std htn (by omega), k1.std htn (by omega), hst.trans ⟨hg.size, fun k hk => ?_⟩⟩
    have hkl : k < w2.heap.size := by
      rcases hk with rfl | hk
      · omega
      · have := HRl.out k hk; omega
    exact htn.block k (Nat.lt_of_lt_of_le hkl hst.1) (fun e => by have : w2.heap.size ≤ k := e; omega)
  case ownx =>
    rintro cc q A B row ⟨h0, ys, h1, h2⟩ hg hr
    exact ⟨h0, ys, h1, HJx.out ys A B h2 (turned_of_grown hg (fun r e => by have := (hr r e).1; omega))⟩
  case assign =>
    intro lp y V K hK
    gi_wp2
    exact hK
  case body =>
    rintro lp pre ⟨yk, yv⟩ V hlp hrec ⟨⟨ys, hys, hyp, hJy, hyl⟩, k2, k1, hst⟩ ⟨B', hB', hBV, hok⟩
    obtain ⟨p, hp, hyv⟩ := texts_at HT.out (rows_at hok)
    simp only at hyv
    subst hyv
    have hpb : ∀ y ∈ p, 0 ≤ y ∧ y ≤ 255 := HBy.out p (List.mem_of_getElem? hp)
    have cv := conv_s V p
    have HC := Lib.hid (OwnR.conv V p hpb)
    have hVs := hst.1
    obtain ⟨V2, hV2⟩ : ∃ V2, V2 = Lib.bytesWorld V 5 (strOfNums p) := ⟨_, rfl⟩
    obtain ⟨cc, hcc⟩ : ∃ cc, cc = grownCap V p.length 0 5 := ⟨_, rfl⟩
    rw [← hV2, ← hcc] at HC
    rw [← hV2, ← hcc] at cv
    have cB1 : V.cell? ⟨W.heap.size, 0, none⟩ = some (.func (.yield l) #[] #[]) := by rw [k1.cell]; rfl
    have cB2 : V.cell? ⟨W.heap.size + 1, 0, none⟩ = some (.int .i64 (pre.length : Int)) := by rw [k2.cell]; rfl
    obtain ⟨q, hq⟩ : ∃ q, q = pre.length := ⟨_, rfl⟩
    rw [← hq] at cB2 hys hp
    have hql : q < l0.length := (List.getElem?_eq_some_iff.1 hp).1
    have hq9 : q < 512 := by omega
    have HOk : Hid (OkN l0 (RQ x R) W.heap.size ys ⟨q, some ⟨V.heap.size, 0, none⟩, p.length, cc, p⟩ V2) := Lib.hid (by
      refine ⟨keys_next hyp (by rw [hys]; exact hp) hys.symm rfl, HC.out.1.mono (by omega), fun g hg => ?_⟩
      have e1 := owr_base HC.out.1 g hg
      refine ⟨?_, fun y hy hyg => by have := hyl y hy g hyg; omega⟩
      rintro (e | e)
      · omega
      · have := HRl.out g e; omega)
    have HJy : Hid (J ys V2) := Lib.hid (HJ.out ys V V2 hJy ⟨HC.out.2.os, HC.out.2.tape, HC.out.2.output, HC.out.2.size, fun i hi _ => HC.out.2.block i hi⟩)
    obtain ⟨fn, tmps, assign, body, hy, hR⟩ := HY.out ys ⟨q, some ⟨V.heap.size, 0, none⟩, p.length, cc, p⟩ V2 HJy.out HOk.out
    replace hy : (Instr.yield l #[.int .i64 (q : Int), .slice (some ⟨V.heap.size, 0, none⟩) p.length cc]).run Try.prog V2 = .ok (.round l fn tmps assign body) V2 := hy
    have HRR := Lib.hid hR
    have HYs := Lib.hid hys
    have HYp := Lib.hid hyp
    have HYl := Lib.hid hyl
    have HST := Lib.hid hst
    have HKa := Lib.hid k1
    have HKb := Lib.hid k2
    have HP := Lib.hid hp
    have HQ := Lib.hid hq
    clear hR hys hyp hyl hst k1 k2 hJy hok hp hV2 hcc hpb hq
    gi_wp2_with fail
    refine ⟨hdd _, (roundIn_in lp (roundIn_any HRR.out)).mono ?_⟩
    clear HRR hy cv cB1 cB2
    rintro e4 w4 ⟨hka, ⟨rfl, hJ4, hs4⟩ | ⟨rfl, hx4⟩⟩
    · have hs2V : V.heap.size ≤ V2.heap.size := HC.out.2.size
      have hs4b : V2.heap.size ≤ w4.heap.size := hka.size
      have hkeep : ∀ k, k < V.heap.size → W.heap.size ≤ k → w4.heap[k]? = V.heap[k]? := fun k h1 h2 => (hka.same k h2 (Nat.lt_of_lt_of_le h1 hs2V) (fun e => by have := owr_base HC.out.1 k e; omega)).trans (HC.out.2.block k h1)
      have HKp := Lib.hid hkeep
      have hkb4 : Blk w4 (W.heap.size + 1) 3 #[.int .i64 (q : Nat)] := by
        have := HKb.out
        rw [← HQ.out] at this
        exact (hkeep _ this.lt (by omega)).trans this
      have hka4 : Blk w4 W.heap.size 59 #[.func (.yield l) #[] #[]] := (hkeep _ HKa.out.lt (Nat.le_refl _)).trans HKa.out
      have c4 : w4.cell? ⟨W.heap.size + 1, 0, none⟩ = some (.int .i64 (q : Int)) := by rw [hkb4.cell]; rfl
      have f4 : w4.frozen? ⟨W.heap.size + 1, 0, none⟩ = false := hkb4.frozen 0
      have HFin : Hid (KeepsF w2.heap.size (fun _ => False) V (w4.setCell ⟨W.heap.size + 1, 0, none⟩ (.int .i64 ((q : Int) + 1))) ∧ Stay R V (w4.setCell ⟨W.heap.size + 1, 0, none⟩ (.int .i64 ((q : Int) + 1))) ∧
          WalkQ J (RQ x R) w2 W.heap.size l l0 (pre ++ [(yk, strOfNums p)]) (w4.setCell ⟨W.heap.size + 1, 0, none⟩ (.int .i64 ((q : Int) + 1)))) := Lib.hid (by
        have hset : ∀ k, k ≠ W.heap.size + 1 → (w4.setCell ⟨W.heap.size + 1, 0, none⟩ (.int .i64 ((q : Int) + 1))).heap[k]? = w4.heap[k]? := fun k hk => Below.heap_setCell w4 ⟨W.heap.size + 1, 0, none⟩ _ k (fun e => hk (by simp at e; exact e))
        have hsz : (w4.setCell ⟨W.heap.size + 1, 0, none⟩ (.int .i64 ((q : Int) + 1))).heap.size = w4.heap.size := by simp [World.setCell]
        have hst4 : Stay (RQ x R) V (w4.setCell ⟨W.heap.size + 1, 0, none⟩ (.int .i64 ((q : Int) + 1))) := ⟨by omega, fun k hk => by
          have hkl : k < W.heap.size := by
            rcases hk with rfl | h
            · exact hxl
            · exact HRl.out k h
          exact (hset k (by omega)).trans ((hs4.2 k hk).trans (HC.out.2.block k (by omega)))⟩
        refine ⟨⟨by omega, fun k h1 h2 _ => (hset k (by omega)).trans (hkeep k h2 (by omega))⟩, ⟨hst4.1, fun k hk => hst4.2 k (.inr hk)⟩, ⟨ys ++ [⟨q, some ⟨V.heap.size, 0, none⟩, p.length, cc, p⟩], by simp [HYs.out, HQ.out], HOk.out.1, ?_, fun y hy g hg => ?_⟩, ?_, ?_, HST.out.trans hst4⟩
        · exact HJ.out _ _ _ hJ4 ⟨rfl, rfl, rfl, by omega, fun i hi hn => hset i (by intro e; apply hn; show W.heap.size ≤ i; omega)⟩
        · rcases List.mem_append.1 hy with h1 | h1
          · have := HYl.out y h1 g hg; omega
          · obtain rfl := List.mem_singleton.1 h1
            have := owr_ltP HC.out.1 g hg
            omega
        · have := blk_put hkb4 (.int .i64 ((q : Int) + 1))
          rw [List.length_append, ← HQ.out]; exact this
        · exact (hset _ (by omega)).trans hka4)
      clear hka hJ4 hs4 hkeep hkb4 hka4 hs2V hs4b
      gi_wp2
      exact HFin.out
    · have hs2V : V.heap.size ≤ V2.heap.size := HC.out.2.size
      have hs4b : V2.heap.size ≤ w4.heap.size := hka.size
      have HFin : Hid (KeepsF w2.heap.size (fun _ => False) V w4 ∧ Code.ret = .ret ∧ ∃ ys : List NtX, ys.map keyN <+: nseq l0 ∧ Jx ys w4) := Lib.hid ⟨⟨by omega, fun k h1 h2 _ => (hka.same k (by omega) (Nat.lt_of_lt_of_le h2 hs2V) (fun e => by have := owr_base HC.out.1 k e; omega)).trans (HC.out.2.block k h2)⟩, rfl, _, HOk.out.1, hx4⟩
      clear hka hx4 hs2V hs4b
      gi_wp2
      exact ⟨HFin.out.1, rfl, HFin.out.2.2⟩
  case stop =>
    rintro D cc pre V hD hpre ⟨rfl, ys, hys, hx⟩ hd
    have HMk := Lib.hid (show Marks w2.heap.size [{ target := .collected D, args := #[] }] V from Marks.cons (ds := []) trivial (fun d hd => by simp at hd) hD hd)
    have HX := Lib.hid hx
    have HPr : Hid (ys.map keyN <+: nseq l0) := Lib.hid hys
    clear hx hd hys hpre
    gi_wp2
    refine Marks.leaveP (B := w2.heap.size) (Pp := fun V' => Jx ys V') (fun V' D hj hD hd => HJx.out.putObj _ hj (by omega) hd rfl) _ _ HMk.out HX.out (fun V' hj => ?_)
    exact ⟨_, results_none rfl _ _ _, ⟨_, rfl⟩, .inr ⟨ys, HPr.out, hj⟩⟩
  case done =>
    rintro D xs V hD rfl ⟨⟨ys, hyl, hys, hj, _⟩, _, _, hst⟩ hd
    have HMk := Lib.hid (show Marks w2.heap.size [{ target := .collected D, args := #[] }] V from Marks.cons (ds := []) trivial (fun d hd => by simp at hd) hD hd)
    have HJd := Lib.hid hj
    have HYs : Hid (ys.map keyN = nseq l0) := Lib.hid (hys.eq_of_length (by simp [hyl, HLn.out]))
    clear hj hd hys hst hyl
    gi_wp2
    refine Marks.leaveP (B := w2.heap.size) (Pp := fun V' => J ys V') (fun V' D hj hD hd => HJ.out.putObj _ hj (by omega) hd rfl) _ _ HMk.out HJd.out (fun V' hj => ?_)
    exact ⟨_, results_none rfl _ _ _, ⟨_, rfl⟩, .inl ⟨ys, HYs.out, hj⟩⟩
end Go.Proofs.Ytcjfammfplcigaa.Pk
