/- The program's vault: what a file's bytes tell (gather). -/
import Derived.Test.YtnpmccekkjadhaaDoorZEnc
import Derived.Test.YtnpmccekkjadhaaDoorZItr
import Derived.Test.YtnpmccekkjadhaaDoorZFrm
import Derived.Test.YtnpmccekkjadhaaDoorZVlt
namespace Go.Proofs.YtnpmccekkjadhaaDoor.Pk
open Go.RowKit Go.Shelf Go.Proofs.YtnpmccekkjadhaaDoor.Crc Go.Proofs.YtnpmccekkjadhaaDoor.Fr Go.Proofs.YtnpmccekkjadhaaDoor.Vk
set_option linter.unusedVariables false
attribute [local go_sem] Oper.semAt_some encL
/-- What a file tells, as the program's content holds it. -/
def GatV (b : List Int) (B : Nat) (vs vr : Value) (w : World) : Prop :=
  (gen b = 0 ∧ vs = .slice none 0 0 ∧ vr = .slice none 0 0) ∨ (gen b ≠ 0 ∧ SnV w B w.heap.size vs (snap b) ∧ ∃ ps, OwnL w B vr ps ∧ Piece.bytes ps = recs b)
def GatP (b : List Int) (w : World) (e : Ending) (w' : World) : Prop :=
  Below w.heap.size w w' ∧ ∃ vs vr, e = .returned (.agg #[.int .u64 ((gen b : Nat) : Int), vs, vr, .int .i64 (b.length : Int), .int .i64 ((fend b : Nat) : Int)]) ∧ GatV b w.heap.size vs vr w'
theorem frames_mem {b p : List Int} (h : p ∈ frames b) (hb : Bytes b) : Bytes p := by
  intro x hx
  obtain ⟨t, ht, _, _⟩ := frames_spec b.length b (Nat.le_refl _)
  refine hb x ?_
  rw [ht]
  exact List.mem_append_left _ (List.mem_flatMap.2 ⟨p, h, by unfold enc; exact List.mem_append_right _ (List.mem_append_right _ hx)⟩)
theorem gen_of {b p : List Int} {rs : List (List Int)} (h : frames b = p :: rs) : gen b = genOf p := by
  rw [gen_some h]
  unfold genOf
  by_cases h1 : p.length < 8
  · simp [h1]
  · by_cases h2 : 4611686018427387904 < num8 p
    · simp [h2]
    · by_cases h3 : num8 p = 0
      · simp [h1, h3]
      · rw [if_neg (by omega), if_neg (by omega)]
theorem ownB_kept {A B : World} {row : Option Nat} {base : Nat} {v : Value} {l : List Int} (h : OwnB A base v l) (hg : A.grownBy B row) (hr : ∀ r, row = some r → ∃ o, A.heap[r]? = some o ∧ o.isCells = false) : OwnB B base v l :=
  h.stay fun g e => by
    obtain ⟨cs, hh⟩ := own_kind h g e
    refine hg.block g (Array.getElem?_eq_some_iff.1 hh).1 (fun e2 => ?_)
    obtain ⟨o, h1, h2⟩ := hr g e2.symm
    rw [hh] at h1; injection h1 with h1; subst h1; simp [Obj.isCells] at h2
theorem own_rebase {w : World} {B B' : Nat} {v : Value} {l : List Int} (h : OwnB w B v l) (hg : ∀ g, v.ownBlock = some g → B' ≤ g) : OwnB w B' v l := by
  obtain ⟨h1, h2⟩ := h
  refine ⟨h1, ?_⟩
  rcases h2 with h2 | ⟨g, cap, cur, rfl, _, hr⟩
  · exact .inl h2
  · exact .inr ⟨g, cap, cur, rfl, hg g rfl, hr⟩
theorem counts_any (g : Nat) (t : Bool) (ht : decide (0 < g) = t) (x1 x2 x3 x4 : Value) (w : World) : Calls Tryd.prog 44 #[.agg #[.int .u64 (g : Int), x1, x2, x3, x4]] w fun e w' => e = .returned (.bool t) ∧ Below w.heap.size w w' := by
  have HT := Lib.hid ht
  clear ht
  go_enter Tryd.func44, Tryd.ntmps44
  go_wp2
  go_ret
  refine ⟨?_, (Below.refl _ w).alloc (Nat.le_refl _) _⟩
  rw [← HT.out]
  simp
theorem OnlyS.setO {S : Nat → Prop} {w V : World} (h : OnlyS S w V) {x : Nat} (hx : S x) (o : Nat) (u : Value) : OnlyS S w (V.setCell ⟨x, o, none⟩ u) :=
  ⟨h.os, h.tape, h.output, by have := h.size; simpa [World.setCell] using this, fun i hi hn => (Below.heap_setCell V ⟨x, o, none⟩ u i (fun e => by simp at e; subst e; exact hn hx)).trans (h.block i hi hn)⟩
theorem OnlyS.wide_ {S S' : Nat → Prop} {w V : World} (h : OnlyS S w V) (hs : ∀ b, S b → S' b) : OnlyS S' w V := ⟨h.os, h.tape, h.output, h.size, fun i hi hn => h.block i hi (fun h1 => hn (hs i h1))⟩
theorem fseq_snd (b : List Int) : (fseq b).map (·.2) = frames b := by
  apply List.ext_getElem?
  intro i
  rcases e : (frames b)[i]? with _ | p
  · rw [List.getElem?_map, List.getElem?_eq_none_iff.2 (by rw [fseq_length]; exact List.getElem?_eq_none_iff.1 e)]; rfl
  · rw [List.getElem?_map, fseq_get e]; rfl
theorem frames_keyL {b : List Int} {ys : List FrL} (h : ys.map keyL = fseq b) : frames b = ys.map fun y => y.1.p := by
  rw [← fseq_snd, ← h, List.map_map]; rfl
/-- Five cells laid anew, one behind the other. -/
theorem five_set {V : World} {x : Nat} {t : TypeId} {a0 a1 a2 a3 a4 : Value} (h : Blk V x t #[a0, a1, a2, a3, a4]) (u0 u1 u2 u3 u4 : Value) : ∃ V5, V5 = (((((V.setCell ⟨x, 0, none⟩ u0).setCell ⟨x, 1, none⟩ u1).setCell ⟨x, 2, none⟩ u2).setCell ⟨x, 3, none⟩ u3).setCell ⟨x, 4, none⟩ u4) ∧
    Blk V5 x t #[u0, u1, u2, u3, u4] ∧ (∀ S : Nat → Prop, ∀ w, S x → OnlyS S w V → OnlyS S w V5) ∧ (∀ q, q ≠ x → V5.heap[q]? = V.heap[q]?) ∧ V5.heap.size = V.heap.size := by
  refine ⟨_, rfl, ((((h.set_ 0 u0).set_ 1 u1).set_ 2 u2).set_ 3 u3).set_ 4 u4, fun S w hx ho => ((((ho.setO hx 0 u0).setO hx 1 u1).setO hx 2 u2).setO hx 3 u3).setO hx 4 u4, fun q hq => ?_, by simp [World.setCell]⟩
  have k : ∀ (W : World) (i : Nat) (u : Value), (W.setCell ⟨x, i, none⟩ u).heap[q]? = W.heap[q]? := fun W i u => Below.heap_setCell W ⟨x, i, none⟩ u q (by show ¬ q = x; exact hq)
  rw [k, k, k, k, k]
def pieceF (x : FrL) : Piece := ⟨x.1.A, x.1.n, x.1.c, x.1.p⟩
/-- What stands in the content behind some rounds. -/
def StG (Bs : Nat) (pre : List FrL) (G : Int) (vs vr : Value) (V : World) : Prop :=
  (pre = [] ∧ G = 0 ∧ vs = .slice none 0 0 ∧ vr = .slice none 0 0) ∨
  ∃ (x : FrL) (ys : List FrL), pre = x :: ys ∧ genOf x.1.p ≠ 0 ∧ G = ((genOf x.1.p : Nat) : Int) ∧ vs = .slice (cutA x.1.A x.1.c 8) (x.1.n - 8) (x.1.c - 8) ∧ OwnB V Bs (.slice x.1.A x.1.n x.1.c) x.1.p ∧ OwnL V x.2 vr (ys.map pieceF) ∧ Bs ≤ x.2
theorem StG.kept {Bs : Nat} {pre : List FrL} {G : Int} {vs vr : Value} {A B : World} {row : Option Nat} (h : StG Bs pre G vs vr A) (hg : A.grownBy B row) (hr : ∀ r, row = some r → ∃ o, A.heap[r]? = some o ∧ o.isCells = false) : StG Bs pre G vs vr B := by
  rcases h with h | ⟨x, ys, h1, h2, h3, h4, h5, h6, h7⟩
  · exact .inl h
  · exact .inr ⟨x, ys, h1, h2, h3, h4, ownB_kept h5 hg hr, ownL_kept h6 hg hr, h7⟩
theorem StG.slices {Bs : Nat} {pre : List FrL} {G : Int} {vs vr : Value} {A : World} (h : StG Bs pre G vs vr A) : ∃ (g : Nat) (A1 : Option Addr) (n1 c1 : Nat) (A2 : Option Addr) (n2 c2 : Nat), G = (g : Int) ∧ vs = .slice A1 n1 c1 ∧ vr = .slice A2 n2 c2 := by
  rcases h with ⟨_, h2, h3, h4⟩ | ⟨x, ys, h1, h2, h3, h4, h5, h6, h7⟩
  · exact ⟨0, _, _, _, _, _, _, h2, h3, h4⟩
  · obtain ⟨A', c', e, _, _⟩ := reads_own h6.row
    exact ⟨_, _, _, _, _, _, _, h3, h4, e⟩
/-- What the content tells behind all rounds. -/
theorem StG.tells {Bs : Nat} {b : List Int} {ys : List FrL} {G : Int} {vs vr : Value} {V W' : World} {B : Nat} (hys : ys.map keyL = fseq b) (h : StG Bs ys G vs vr V) (hk : ∀ g cs e, Bs ≤ g → V.heap[g]? = some (Obj.cells cs e (0, 0)) → W'.heap[g]? = V.heap[g]?) (hB : B ≤ Bs) :
    G = ((gen b : Nat) : Int) ∧ GatV b B vs vr W' := by
  have hfr := frames_keyL hys
  rcases h with ⟨rfl, rfl, rfl, rfl⟩ | ⟨x, zs, rfl, hx1, rfl, rfl, hx2, hx3, hx4⟩
  · have h0 : gen b = 0 := gen_none hfr
    exact ⟨by rw [h0]; rfl, .inl ⟨h0, rfl, rfl⟩⟩
  · have hfr2 : frames b = x.1.p :: zs.map fun y => y.1.p := hfr
    have hg := gen_of hfr2
    have hx5 : OwnB W' Bs (.slice x.1.A x.1.n x.1.c) x.1.p := hx2.stay fun g e => by
      obtain ⟨cs, hh⟩ := own_kind hx2 g e
      exact hk g cs _ (own_base hx2 g e) hh
    have hx6 : OwnL W' x.2 vr (zs.map pieceF) := by
      refine ⟨hx3.row.stay fun g e => ?_, fun p hp => (hx3.each p hp).stay fun g e => ?_, hx3.apart⟩
      · obtain ⟨cs, hh⟩ := own_kind hx3.row g e
        exact hk g cs _ (Nat.le_trans hx4 (own_base hx3.row g e)) hh
      · obtain ⟨cs, hh⟩ := own_kind (hx3.each p hp) g e
        exact hk g cs _ (Nat.le_trans hx4 (own_base (hx3.each p hp) g e)) hh
    have hl := own_len hx5
    have h8 : 8 ≤ x.1.n := by
      have h1 := hx1
      unfold genOf at h1
      split at h1
      · exact absurd rfl h1
      · omega
    refine ⟨by rw [hg], .inr ⟨by rw [hg]; exact hx1, ⟨_, _, _, rfl, Nat.sub_le_sub_right hl.2 8, ?_, ?_, ?_⟩, zs.map pieceF, hx6.mono (by omega), ?_⟩⟩
    · have hsn : snap b = x.1.p.drop 8 := by unfold snap; rw [hfr2]; rfl
      rw [hsn, List.length_drop, hl.1]
    · have hsn : snap b = x.1.p.drop 8 := by unfold snap; rw [hfr2]; rfl
      have h2 := reads_cut (c := x.1.c) (own_reads hx5) h8 (Nat.le_refl _) hl.2
      rw [← hl.1, List.take_length, hl.1] at h2
      rw [hsn]
      exact h2
    · intro _ ad e
      obtain ⟨ad', h1, h2⟩ := cutA_block e
      rw [h2]
      exact Nat.le_trans hB (own_base hx5 ad'.block (block_own (hx5.mono (Nat.zero_le _)) h1))
    · unfold recs
      rw [hfr2]
      simp [Piece.bytes, pieceF]
set_option maxRecDepth 100000 in
set_option maxHeartbeats 4000000 in
theorem gather_any (endC : EndC) (framesC : FramesCL) (A : Option Addr) (n c : Nat) (b : List Int) (w : World) (ht : Tab w) (hr : Reads w w.heap.size 1 A n (bts b)) (hnc : n ≤ c) (hby : Bytes b) (hn : n ≤ 17179869184) :
    Calls Tryd.prog 60 #[.slice A n c] w (GatP b w) := by
  have HL : Hid (b.length = n) := Lib.hid (by have := hr.1; simpa using this)
  have HR := Lib.hid hr
  have HB := Lib.hid hby
  have HT := Lib.hid ht
  have HE := Lib.hid endC
  have HFr := Lib.hid framesC
  clear hr hby ht endC framesC
  refine (callsIn_wide (n := 9)).1 ?_
  refine callsIn_of_wp_marks Tryd.func60 rfl trivial ?_ rfl
  simp only [Tryd.ntmps60, List.size_toArray, List.length_cons, List.length_nil, Nat.reduceAdd, Nat.reduceSub, Array.replicate_succ, Array.replicate_zero, List.push_toArray, List.append_toArray, List.nil_append, List.cons_append]
  refine wpIn_wide.2 ?_
  obtain ⟨B0, hB0⟩ : ∃ B0, B0 = w.heap.size := ⟨_, rfl⟩
  obtain ⟨w1, hw1⟩ : ∃ w1, w1 = w.alloc (.cells #[.int .u64 0, .slice none 0 0, .slice none 0 0, .int .i64 0, .int .i64 0] 75) := ⟨_, rfl⟩
  have hb1 : Below B0 w w1 := by rw [hw1, hB0]; exact (Below.refl _ w).alloc (Nat.le_refl _) _
  have kb1 : Blk w1 B0 75 #[.int .u64 0, .slice none 0 0, .slice none 0 0, .int .i64 0, .int .i64 0] := by rw [hw1, hB0]; exact Blk.new w _ _
  have HB0 := Lib.hid hB0
  have HBe1 := Lib.hid hb1
  have HK1 := Lib.hid kb1
  have HR0 : Hid (Reads w B0 1 A n (bts b)) := Lib.hid (by rw [hB0]; exact HR.out)
  have HSz : Hid (∀ V, Below B0 w V → B0 ≤ V.heap.size) := Lib.hid (fun V hV => by rw [HB0.out]; exact hV.size)
  have HTt : Hid (∀ V, Below B0 w V → Tab V) := Lib.hid (fun V hV => HT.out.next (by rw [← HB0.out]; exact hV))
  have HX1 := Lib.hid (HE.out A n c b w1 (HTt.out _ hb1) ((HR0.out.below hb1).more (HSz.out _ hb1)) hnc HB.out hn)
  clear hb1 kb1
  go_wp2_with fail
  rw [← hw1, ← hB0]
  clear hw1 hB0
  refine HX1.out.mono ?_
  rintro e w2 ⟨rfl, hb2⟩
  obtain ⟨f, hf⟩ : ∃ f, f = fend b := ⟨_, rfl⟩
  have HF := Lib.hid hf
  have HBe2 := Lib.hid (HBe1.out.trans (hb2.mono (HSz.out _ HBe1.out)))
  rw [← hf]
  obtain ⟨C, hC⟩ : ∃ C, C = w2.heap.size := ⟨_, rfl⟩
  obtain ⟨w3, hw3⟩ : ∃ w3, w3 = w2.alloc (.cells #[.int .u64 0, .slice none 0 0, .slice none 0 0, .int .i64 (n : Int), .int .i64 (f : Int)] 75) := ⟨_, rfl⟩
  have hb3 : Below w2.heap.size w2 w3 := hw3 ▸ (Below.refl _ _).alloc (Nat.le_refl _) _
  have HBe3 := Lib.hid (HBe2.out.trans (hb3.mono (HSz.out _ HBe2.out)))
  have HK3 : Hid (Blk w3 C 75 #[.int .u64 0, .slice none 0 0, .slice none 0 0, .int .i64 (n : Int), .int .i64 (f : Int)]) := Lib.hid (by rw [hw3, hC]; exact Blk.new w2 _ _)
  have HKB2 := Lib.hid (HK1.out.below hb2 HK1.out.lt)
  have HC0 : Hid (B0 < C) := Lib.hid (by rw [hC]; exact HKB2.out.lt)
  have HKB3 := Lib.hid (HKB2.out.below hb3 HKB2.out.lt)
  have HX3 := Lib.hid (HFr.out A n c b w3 (HTt.out _ HBe3.out) ((HR0.out.below HBe3.out).more (HSz.out _ HBe3.out)) hnc HB.out hn)
  clear hf hb2 HX1 hb3
  go_wp2_with fail
  rw [← hw3, ← hC]
  refine HX3.out.mono ?_
  rintro e w4 ⟨v4, R, rfl, hseq, hb4, hR⟩
  have SE4 := Lib.hid hseq
  have HRl : Hid (∀ g, R g → g < w4.heap.size ∧ g ≠ C) := Lib.hid (fun g hg => ⟨hseq.lt g hg, fun e => by
    have h2 := HK3.out.lt
    rcases hR g hg with h1 | h1
    · have h3 := HC0.out
      have h4 := HT.out.pos
      have h5 := HB0.out
      omega
    · omega⟩)
  have HK4 := Lib.hid (HK3.out.below hb4 HK3.out.lt)
  have HKB4 := Lib.hid (HKB3.out.below hb4 HKB3.out.lt)
  have HBe4 := Lib.hid (HBe3.out.trans (hb4.mono (HSz.out _ HBe3.out)))
  have hs4 : C < w4.heap.size := HK4.out.lt
  clear hseq hb4 hR HX3 hw3 hC
  obtain ⟨gf, pb, lb, hv4, en, hq1, hq2⟩ := SE4.out
  clear hq1 hq2
  subst hv4
  have EN := Lib.hid en
  clear en
  have hfn2 := fun (W : World) (gf : Nat) (pb cs : Array Value) => run_eql_func_nil (P := Tryd.prog) W 103 (.func gf) pb cs Tryd.underlying103
  have HFc : Hid (8 * (frames b).length ≤ n) := Lib.hid (by rw [← HL.out]; exact frames_count b)
  have HKt : Hid (∀ i, w4.frozen? ⟨C, i, none⟩ = false) := Lib.hid HK4.out.frozen
  go_wp2
  clear hfn2
  obtain ⟨S, hS⟩ : ∃ S : Nat → Prop, S = fun b => b = C := ⟨_, rfl⟩
  have S1 : S C := by rw [hS]
  have HSe : Hid (∀ b, S b → b = C) := Lib.hid (fun b h => by rw [hS] at h; exact h)
  clear hS
  refine (wpIn_wide (n := 9)).1 ?_
  refine' range_boundF (α := FrL) (gf := gf) (pb := pb) (lb := lb) rfl EN.out (SE4.out.at_ _) OkL.fr (fun h k => h.trans k) (stay_b SE4.out.lt) (fun _ => rfl) OkL.put
    (fun pre V => (∃ G vs vr, Blk V C 75 #[.int .u64 G, vs, vr, .int .i64 (n : Int), .int .i64 (f : Int)] ∧ StG (w4.heap.size + 2) pre G vs vr V) ∧ OnlyS S w4 V)
    (fun cc pre V => (cc = .exit 0 ∧ gen b = 0 ∧ Blk V C 75 #[.int .u64 0, .slice none 0 0, .slice none 0 0, .int .i64 (n : Int), .int .i64 (f : Int)]) ∧ OnlyS S w4 V)
    (OwnFrom.and (Own.from (I := fun (pre : List FrL) V => ∃ G vs vr, Blk V C 75 #[.int .u64 G, vs, vr, .int .i64 (n : Int), .int .i64 (f : Int)] ∧ StG (w4.heap.size + 2) pre G vs vr V) (fun s A B row hs hg hr => by
      obtain ⟨G, vs, vr, h1, h2⟩ := hs
      exact ⟨G, vs, vr, blk_kept h1 hg hr, h2.kept hg hr⟩) _) (own_onlyS w4 S))
    (fun cc => OwnFrom.and (Own.from (I := fun (pre : List FrL) V => cc = .exit 0 ∧ gen b = 0 ∧ Blk V C 75 #[.int .u64 0, .slice none 0 0, .slice none 0 0, .int .i64 (n : Int), .int .i64 (f : Int)]) (fun s A B row hs hg hr => ⟨hs.1, hs.2.1, blk_kept hs.2.2 hg hr⟩) _) (own_onlyS w4 S))
    ⟨⟨0, .slice none 0 0, .slice none 0 0, HK4.out, .inl ⟨rfl, rfl, rfl, rfl⟩⟩, OnlyS.refl _ _⟩
    _ ?assign ?body ?done ?stop
  case assign =>
    intro lp y V K hK
    gi_wp2
    exact hK
  case body =>
    rintro lp pre ⟨⟨xat, xa, xn, xc, xp⟩, lo⟩ V hlp hrec ⟨⟨G, vs, vr, hk, hst⟩, hO⟩ ⟨B', hB', hBV, hok⟩
    obtain ⟨hi1, hi2, hi3, hi4⟩ := hok.1.next
    have hfl := frames_fit b xp (List.mem_of_getElem? hi3)
    have hpx : xp.length = xn ∧ xn ≤ xc := own_len hok.1.2.1
    have hxn : xn ≤ 1048576 := by have := hpx.1; omega
    have HGn := Lib.hid (genOf_any xa xn xc xp V (own_reads hok.1.2.1) hpx.2 (frames_mem (List.mem_of_getElem? hi3) HB.out) (by omega))
    rcases hst with ⟨rfl, rfl, rfl, rfl⟩ | ⟨y, ys, rfl, hy1, rfl, rfl, hy2, hy3, hy4⟩
    · have hat : xat = 0 := by have e := hi2; simpa [atN_zero] using e
      subst hat
      obtain ⟨rs, hrs⟩ : ∃ rs, frames b = xp :: rs := by
        have e : (frames b)[0]? = some xp := hi3
        cases hfr : frames b with
        | nil => rw [hfr] at e; cases e
        | cons q rs => rw [hfr] at e; simp at e; subst e; exact ⟨rs, rfl⟩
      obtain ⟨g, hg⟩ : ∃ g, g = genOf xp := ⟨_, rfl⟩
      have HGe : Hid (gen b = g) := Lib.hid (by rw [gen_of hrs, hg])
      have HGp : Hid (genOf xp = g) := Lib.hid hg.symm
      rw [← hg] at HGn
      have d0 : V.cell? ⟨C, 0, none⟩ = some (.int .u64 0) := hk.cell 0
      have d1 : V.cell? ⟨C, 1, none⟩ = some (.slice none 0 0) := hk.cell 1
      have d2 : V.cell? ⟨C, 2, none⟩ = some (.slice none 0 0) := hk.cell 2
      have d3 : V.cell? ⟨C, 3, none⟩ = some (.int .i64 (n : Int)) := hk.cell 3
      have d4 : V.cell? ⟨C, 4, none⟩ = some (.int .i64 (f : Int)) := hk.cell 4
      have f0 : V.frozen? ⟨C, 0, none⟩ = false := hk.frozen 0
      have HO := Lib.hid hO
      have HOk := Lib.hid hok
      have HKC := Lib.hid hk
      have HPx := Lib.hid hpx
      have hCV : C < V.heap.size := hk.lt
      have HK5 : Hid (Blk (V.setCell ⟨C, 0, none⟩ (.int .u64 (g : Int))) C 75 #[.int .u64 (g : Int), .slice none 0 0, .slice none 0 0, .int .i64 (n : Int), .int .i64 (f : Int)]) := Lib.hid (hk.set_ 0 _)
      clear hi1 hi2 hi3 hi4 hfl hpx hO hok hk hg hrs
      gi_wp2_with fail
      refine ⟨trivial, ?_⟩
      refine (callsIn_wide.2 HGn.out).mono ?_
      rintro e3 w3 ⟨rfl, hw3⟩
      rw [← hw3]
      clear hw3 w3
      obtain ⟨V1, hV1⟩ : ∃ V1, V1 = V.setCell ⟨C, 0, none⟩ (.int .u64 (g : Int)) := ⟨_, rfl⟩
      have HV1 := Lib.hid hV1
      have hs1 : V1.heap.size = V.heap.size := by rw [hV1]; simp [World.setCell]
      rw [← hV1] at HK5
      have e0 : V1.cell? ⟨C, 0, none⟩ = some (.int .u64 (g : Int)) := HK5.out.cell 0
      have e1 : V1.cell? ⟨C, 1, none⟩ = some (.slice none 0 0) := HK5.out.cell 1
      have e2 : V1.cell? ⟨C, 2, none⟩ = some (.slice none 0 0) := HK5.out.cell 2
      have e3 : V1.cell? ⟨C, 3, none⟩ = some (.int .i64 (n : Int)) := HK5.out.cell 3
      have e4 : V1.cell? ⟨C, 4, none⟩ = some (.int .i64 (f : Int)) := HK5.out.cell 4
      gi_wp2_with fail
      rw [← HV1.out]
      have HKF1 : Hid (∀ F : Nat → Prop, KeepsF w4.heap.size F V V1) := Lib.hid (fun F => by rw [HV1.out]; exact (KeepsAll.setCell V hs4 _).but F)
      have HO1 : Hid (OnlyS S w4 V1) := Lib.hid (by rw [HV1.out]; exact OnlyS.set HO.out S1 _)
      have HSt1 : Hid (Stay R V V1) := Lib.hid (by rw [HV1.out]; exact stay_setAt (fun h => (HRl.out C h).2 rfl))
      by_cases hg0 : g = 0
      · have HG0 := Lib.hid hg0
        refine ⟨trivial, (callsIn_wide.2 (counts_any g false (by simp [hg0]) _ _ _ _ V1)).mono ?_⟩
        rintro e5 w5 ⟨rfl, hb5⟩
        have HB5 := Lib.hid hb5
        clear hb5 hg0
        gi_wp2
        refine ⟨(HKF1.out _).trans ⟨HB5.out.size, fun k h1 h2 h3 => HB5.out.block k h2⟩, ⟨rfl, by rw [HGe.out, HG0.out], ?_⟩, HO1.out.below HB5.out⟩
        have h1 := HK5.out.below HB5.out HK5.out.lt
        rw [HG0.out] at h1
        exact h1
      · have hgp : 0 < g := by omega
        refine ⟨trivial, (callsIn_wide.2 (counts_any g true (by simp [hgp]) _ _ _ _ V1)).mono ?_⟩
        rintro e5 w5 ⟨rfl, hb5⟩
        have h8 : 8 ≤ xn := by
          have h1 := HGp.out
          unfold genOf at h1
          split at h1
          · omega
          · rename_i h2; have h3 := HPx.out.1; omega
        have HB5 := Lib.hid hb5
        have HK6 := Lib.hid (HK5.out.below hb5 HK5.out.lt)
        have i1 : w5.cell? ⟨C, 1, none⟩ = some (.slice none 0 0) := HK6.out.cell 1
        have j1 : w5.frozen? ⟨C, 1, none⟩ = false := HK6.out.frozen 1
        have kt : ∀ u : World, (Instr.slice 22 (.slice xa xn xc) (some (.int .i64 8)) none none).run Tryd.prog u = .ok (.slice (cutA xa xc 8) (xn - 8) (xc - 8)) u := fun u => run_cut1 Tryd.underlying22 (by kernel_rfl) xa xn xc 8 h8 u
        clear hb5
        gi_wp2
        have hs5 : V1.heap.size ≤ w5.heap.size := HB5.out.size
        have hO5 := HO1.out.below HB5.out
        have hown : OwnB (w5.setCell ⟨C, 1, none⟩ (.slice (cutA xa xc 8) (xn - 8) (xc - 8))) (w4.heap.size + 2) (.slice xa xn xc) xp := by
          have h1 : OwnB V B' (.slice xa xn xc) xp := HOk.out.1.2.1
          refine (h1.mono hB').stay fun q e => ?_
          have hq1 := own_base h1 q e
          have hq2 := own_lt h1 q e
          refine (Below.heap_setCell w5 ⟨C, 1, none⟩ _ q (by show ¬ q = C; omega)).trans ((HB5.out.block q (by omega)).trans ?_)
          rw [HV1.out]
          exact Below.heap_setCell V ⟨C, 0, none⟩ _ q (by show ¬ q = C; omega)
        refine ⟨((HKF1.out _).trans ⟨hs5, fun k h1 h2 h3 => HB5.out.block k h2⟩).trans ((keepsAll_setAt w5 hs4 _).but _), (HSt1.out.trans ⟨hs5, fun k hk => HB5.out.block k (by have := (HRl.out k hk).1; omega)⟩).trans (stay_setAt (fun h => (HRl.out C h).2 rfl)),
          ⟨(g : Int), _, .slice none 0 0, HK6.out.set_ 1 _, .inr ⟨(⟨0, xa, xn, xc, xp⟩, lo), [], rfl, by rw [show genOf xp = g from HGp.out]; omega, by rw [show genOf xp = g from HGp.out], rfl, hown, OwnL.none_ _ _, by have := HOk.out.2.1; simp only at this ⊢; omega⟩⟩, OnlyS.setO hO5 S1 1 _⟩
    · have hpos : 0 < xat := by
        have e := hi2
        simp only [List.length_map, List.length_cons] at e
        obtain ⟨p', hp'⟩ : ∃ p', (frames b)[ys.length]? = some p' := ⟨_, List.getElem?_eq_getElem (by simp only [List.length_map, List.length_cons] at hi1; omega)⟩
        have h2 := (at_more hp').2
        rw [← e] at h2
        omega
      have hlen : (ys.map pieceF).length + 1 ≤ (frames b).length := by simp only [List.length_map, List.length_cons] at hi1 ⊢; omega
      have hl24 : ((ys.map pieceF).length + 1) * 24 ≤ 140737488355328 := by have := HFc.out; omega
      have hylo : y.2 = lo := hok.2.2.1 y (List.mem_cons_self ..)
      have hloV : lo ≤ V.heap.size := hok.2.2.2.2
      rw [hylo] at hy3 hy4
      obtain ⟨A2, n2, c2, rfl⟩ : ∃ A n c, vr = .slice A n c := by
        obtain ⟨A', c', e, _, _⟩ := reads_own hy3.row
        exact ⟨A', _, c', e⟩
      have d2 : V.cell? ⟨C, 2, none⟩ = some (.slice A2 n2 c2) := hk.cell 2
      have f2 : V.frozen? ⟨C, 2, none⟩ = false := hk.frozen 2
      have HO := Lib.hid hO
      have HOk := Lib.hid hok
      have HKC := Lib.hid hk
      have HL3 := Lib.hid hy3
      have HY2 := Lib.hid hy2
      have HYlo := Lib.hid hylo
      have HPos := Lib.hid hpos
      have hCV : C < V.heap.size := hk.lt
      have hrow : ∀ q, (Value.slice A2 n2 c2).ownBlock = some q → w4.heap.size + 2 ≤ q := fun q e => Nat.le_trans hy4 (own_base hy3.row q e)
      have HRow := Lib.hid hrow
      clear hi1 hi2 hi3 hi4 hfl hpx hO hok hk hy2 hy3 hlen hrow hylo HGn
      gi_wp2_with (gi_at_builtin; refine appLi V ⟨xa, xn, xc, xp⟩ _ rfl (.tmp 18) (.tmp 20) rfl lo _ (ys.map pieceF) rfl HL3.out.row rfl hl24 hloV ?_; intro v5 w5 hown5 hg5; have HP5 := Lib.hid hown5; have HG5 := Lib.hid hg5; have hb5 : w5.heap[C]? = V.heap[C]? := hg5.block C hCV (fun e => by { have := HRow.out C e.symm; omega }); have cB5 : w5.cell? ⟨C, 2, none⟩ = some (.slice A2 n2 c2) := (World.cell?_of_block (a := ⟨C, 2, none⟩) hb5).trans d2; have fB5 : w5.frozen? ⟨C, 2, none⟩ = false := (World.frozen?_of_block (a := ⟨C, 2, none⟩) hb5).trans f2; obtain ⟨A5, n5, c5, rfl⟩ : ∃ A n c, v5 = .slice A n c := (by obtain ⟨A', c', e, _, _⟩ := reads_own hown5; exact ⟨A', _, c', e⟩); have HK5 : Hid (Blk w5 C 75 _) := Lib.hid (hb5.trans HKC.out); clear hown5 hg5 hb5 d2 f2)
      gi_wp2
      have hv := own_base HL3.out.row
      have hx1 : OwnB V B' (.slice xa xn xc) xp := HOk.out.1.2.1
      have hx2 : OwnB V lo (.slice xa xn xc) xp := own_rebase hx1 HOk.out.2.2.2.1
      have hL5 := OwnL.push (y := ⟨xa, xn, xc, xp⟩) HL3.out hx2 (fun q hq g h1 h2 => by
        obtain ⟨q', hq', rfl⟩ := List.mem_map.1 hq
        exact (HOk.out.1.2.2 g h2).2 q'.1 (List.mem_map.2 ⟨q', List.mem_cons_of_mem _ hq', rfl⟩) h1) HP5.out HG5.out
      have hst : ∀ k, k < V.heap.size → ¬ lo ≤ k → w5.heap[k]? = V.heap[k]? := fun k h1 h2 => HG5.out.block k h1 (fun e => h2 (hv k e.symm))
      have hs5 : V.heap.size ≤ w5.heap.size := HG5.out.size
      have hL6 : OwnL (w5.setCell ⟨C, 2, none⟩ (.slice A5 n5 c5)) lo (.slice A5 n5 c5) (ys.map pieceF ++ [⟨xa, xn, xc, xp⟩]) :=
        hL5.stay (fun g h1 h2 => Below.heap_setCell w5 ⟨C, 2, none⟩ _ g (by show ¬ g = C; omega))
      have hy6 : OwnB (w5.setCell ⟨C, 2, none⟩ (.slice A5 n5 c5)) (w4.heap.size + 2) (.slice y.1.A y.1.n y.1.c) y.1.p := by
        refine HY2.out.stay fun q e => ?_
        have q1 := own_base HY2.out q e
        have q2 := own_lt HY2.out q e
        refine (Below.heap_setCell w5 ⟨C, 2, none⟩ _ q (by show ¬ q = C; omega)).trans (HG5.out.block q q2 (fun e2 => ?_))
        obtain ⟨cs1, g1⟩ := own_kind HY2.out q e
        obtain ⟨cs2, g2⟩ := own_kind HL3.out.row q e2.symm
        rw [g1] at g2
        injection g2 with g2
        injection g2 with _ g2 _
        exact u8_ne_sl g2
      have hO5 : OnlyS S w4 w5 := ⟨HG5.out.os.trans HO.out.os, HG5.out.tape.trans HO.out.tape, HG5.out.output.trans HO.out.output, Nat.le_trans HO.out.size hs5, fun k h1 h2 => (hst k (Nat.lt_of_lt_of_le h1 HO.out.size) (by omega)).trans (HO.out.block k h1 h2)⟩
      refine ⟨KeepsF.trans ⟨hs5, fun k h1 h2 h3 => hst k h2 h3⟩ ((keepsAll_setAt w5 hs4 _).but _),
        Stay.trans ⟨hs5, fun q hq => hst q (by have := (HRl.out q hq).1; omega) (by have := (HRl.out q hq).1; omega)⟩ (stay_setAt (fun h => (HRl.out C h).2 rfl)),
        ⟨_, _, _, HK5.out.set_ 2 _, .inr ⟨y, ys ++ [(⟨xat, xa, xn, xc, xp⟩, lo)], by simp, hy1, rfl, rfl, hy6, ?_, by rw [HYlo.out]; exact hy4⟩⟩, OnlyS.setO hO5 S1 2 _⟩
      rw [HYlo.out, List.map_append]
      exact hL6
  case stop =>
    rintro D cc pre V hD hpre ⟨⟨rfl, hg0, hk⟩, hO⟩ hd
    have hBC := HC0.out
    have d0 : V.cell? ⟨C, 0, none⟩ = some (.int .u64 0) := hk.cell 0
    have d1 : V.cell? ⟨C, 1, none⟩ = some (.slice none 0 0) := hk.cell 1
    have d2 : V.cell? ⟨C, 2, none⟩ = some (.slice none 0 0) := hk.cell 2
    have d3 : V.cell? ⟨C, 3, none⟩ = some (.int .i64 (n : Int)) := hk.cell 3
    have d4 : V.cell? ⟨C, 4, none⟩ = some (.int .i64 (f : Int)) := hk.cell 4
    have kB : Blk V B0 75 #[.int .u64 0, .slice none 0 0, .slice none 0 0, .int .i64 0, .int .i64 0] := hO.blk HKB4.out (fun h => by have h1 := HSe.out _ h; have h2 := HC0.out; omega)
    have b0 : V.cell? ⟨B0, 0, none⟩ = some (.int .u64 0) := kB.cell 0
    have b1 : V.cell? ⟨B0, 1, none⟩ = some (.slice none 0 0) := kB.cell 1
    have b2 : V.cell? ⟨B0, 2, none⟩ = some (.slice none 0 0) := kB.cell 2
    have b3 : V.cell? ⟨B0, 3, none⟩ = some (.int .i64 0) := kB.cell 3
    have b4 : V.cell? ⟨B0, 4, none⟩ = some (.int .i64 0) := kB.cell 4
    have fb0 : V.frozen? ⟨B0, 0, none⟩ = false := kB.frozen 0
    have fb1 : V.frozen? ⟨B0, 1, none⟩ = false := kB.frozen 1
    have fb2 : V.frozen? ⟨B0, 2, none⟩ = false := kB.frozen 2
    have fb3 : V.frozen? ⟨B0, 3, none⟩ = false := kB.frozen 3
    have fb4 : V.frozen? ⟨B0, 4, none⟩ = false := kB.frozen 4
    have HKB := Lib.hid kB
    have HO := Lib.hid hO
    clear kB hk hO
    gi_wp2
    go_wp2
    obtain ⟨V5, hV5, hk5, ho5, hq5, hs5⟩ := five_set HKB.out (.int .u64 0) (.slice none 0 0) (.slice none 0 0) (.int .i64 (n : Int)) (.int .i64 (f : Int))
    rw [← hV5]
    have hmk : Marks w4.heap.size [{ target := .collected D, args := #[] }] V5 := Marks.cons (ds := []) trivial (fun d hd => by simp at hd) hD ((hq5 D (by omega)).trans hd)
    refine Marks.leaveC (B := w4.heap.size) _ _ hmk (fun W' hb hc => ?_)
    have k6 := hk5.below hb (by omega)
    have r0 : W'.cell? ⟨B0, 0, none⟩ = some (.int .u64 0) := k6.cell 0
    have r1 : W'.cell? ⟨B0, 1, none⟩ = some (.slice none 0 0) := k6.cell 1
    have r2 : W'.cell? ⟨B0, 2, none⟩ = some (.slice none 0 0) := k6.cell 2
    have r3 : W'.cell? ⟨B0, 3, none⟩ = some (.int .i64 (n : Int)) := k6.cell 3
    have r4 : W'.cell? ⟨B0, 4, none⟩ = some (.int .i64 (f : Int)) := k6.cell 4
    refine ⟨.agg #[.int .u64 0, .slice none 0 0, .slice none 0 0, .int .i64 (n : Int), .int .i64 (f : Int)], by simp [results, Tryd.f60, go_sem, r0, r1, r2, r3, r4], ?_⟩
    refine ⟨?_, _, _, by rw [hg0, HL.out, ← HF.out]; rfl, .inl ⟨hg0, rfl, rfl⟩⟩
    have ho : OnlyS (fun q => q = C ∨ q = B0) w4 V5 := ho5 _ _ (.inr rfl) (HO.out.wide_ fun q hq => .inl (HSe.out q hq))
    rw [← HB0.out]
    exact (OnlyS.bel HBe4.out ho (fun q hq => by rcases hq with h | h <;> omega) (HSz.out _ HBe4.out)).trans (hb.mono (HSz.out _ HBe4.out))
  case done =>
    rintro D ys V hD hys ⟨⟨G, vs, vr, hk, hst⟩, hO⟩ hd
    obtain ⟨g, A1, n1, c1, A2, n2, c2, rfl, rfl, rfl⟩ := hst.slices
    have hBC := HC0.out
    have d0 : V.cell? ⟨C, 0, none⟩ = some (.int .u64 (g : Int)) := hk.cell 0
    have d1 : V.cell? ⟨C, 1, none⟩ = some (.slice A1 n1 c1) := hk.cell 1
    have d2 : V.cell? ⟨C, 2, none⟩ = some (.slice A2 n2 c2) := hk.cell 2
    have d3 : V.cell? ⟨C, 3, none⟩ = some (.int .i64 (n : Int)) := hk.cell 3
    have d4 : V.cell? ⟨C, 4, none⟩ = some (.int .i64 (f : Int)) := hk.cell 4
    have kB : Blk V B0 75 #[.int .u64 0, .slice none 0 0, .slice none 0 0, .int .i64 0, .int .i64 0] := hO.blk HKB4.out (fun h => by have h1 := HSe.out _ h; omega)
    have b0 : V.cell? ⟨B0, 0, none⟩ = some (.int .u64 0) := kB.cell 0
    have b1 : V.cell? ⟨B0, 1, none⟩ = some (.slice none 0 0) := kB.cell 1
    have b2 : V.cell? ⟨B0, 2, none⟩ = some (.slice none 0 0) := kB.cell 2
    have b3 : V.cell? ⟨B0, 3, none⟩ = some (.int .i64 0) := kB.cell 3
    have b4 : V.cell? ⟨B0, 4, none⟩ = some (.int .i64 0) := kB.cell 4
    have fb0 : V.frozen? ⟨B0, 0, none⟩ = false := kB.frozen 0
    have fb1 : V.frozen? ⟨B0, 1, none⟩ = false := kB.frozen 1
    have fb2 : V.frozen? ⟨B0, 2, none⟩ = false := kB.frozen 2
    have fb3 : V.frozen? ⟨B0, 3, none⟩ = false := kB.frozen 3
    have fb4 : V.frozen? ⟨B0, 4, none⟩ = false := kB.frozen 4
    have HKB := Lib.hid kB
    have HO := Lib.hid hO
    have HSt := Lib.hid hst
    have HYs := Lib.hid hys
    clear kB hk hO hst hys
    go_wp2
    obtain ⟨V5, hV5, hk5, ho5, hq5, hs5⟩ := five_set HKB.out (.int .u64 (g : Int)) (.slice A1 n1 c1) (.slice A2 n2 c2) (.int .i64 (n : Int)) (.int .i64 (f : Int))
    rw [← hV5]
    have hmk : Marks w4.heap.size [{ target := .collected D, args := #[] }] V5 := Marks.cons (ds := []) trivial (fun d hd => by simp at hd) hD ((hq5 D (by omega)).trans hd)
    refine Marks.leaveC (B := w4.heap.size) _ _ hmk (fun W' hb hc => ?_)
    have k6 := hk5.below hb (by omega)
    have r0 : W'.cell? ⟨B0, 0, none⟩ = some (.int .u64 (g : Int)) := k6.cell 0
    have r1 : W'.cell? ⟨B0, 1, none⟩ = some (.slice A1 n1 c1) := k6.cell 1
    have r2 : W'.cell? ⟨B0, 2, none⟩ = some (.slice A2 n2 c2) := k6.cell 2
    have r3 : W'.cell? ⟨B0, 3, none⟩ = some (.int .i64 (n : Int)) := k6.cell 3
    have r4 : W'.cell? ⟨B0, 4, none⟩ = some (.int .i64 (f : Int)) := k6.cell 4
    refine ⟨.agg #[.int .u64 (g : Int), .slice A1 n1 c1, .slice A2 n2 c2, .int .i64 (n : Int), .int .i64 (f : Int)], by simp [results, Tryd.f60, go_sem, r0, r1, r2, r3, r4], ?_⟩
    have hT := StG.tells (W' := W') (B := w.heap.size) HYs.out HSt.out (fun q cs e h1 h2 => (hc q cs e ((hq5 q (by omega)).trans h2)).trans (hq5 q (by omega))) (by have := HBe4.out.size; omega)
    refine ⟨?_, _, _, by rw [← hT.1, HL.out, ← HF.out], hT.2⟩
    have ho : OnlyS (fun q => q = C ∨ q = B0) w4 V5 := ho5 _ _ (.inr rfl) (HO.out.wide_ fun q hq => .inl (HSe.out q hq))
    rw [← HB0.out]
    exact (OnlyS.bel HBe4.out ho (fun q hq => by rcases hq with h | h <;> omega) (HSz.out _ HBe4.out)).trans (hb.mono (HSz.out _ HBe4.out))
end Go.Proofs.YtnpmccekkjadhaaDoor.Pk

/- The program's vault: what both files tell (readBoth), the newer one. -/
namespace Go.Proofs.YtnpmccekkjadhaaDoor.Pk
open Go.RowKit Go.Proofs.YtnpmccekkjadhaaDoor.Crc Go.Proofs.YtnpmccekkjadhaaDoor.Fr Go.Proofs.YtnpmccekkjadhaaDoor.Dk Go.Proofs.YtnpmccekkjadhaaDoor.Vk
set_option linter.unusedVariables false
theorem GatV.stay {b : List Int} {B : Nat} {vs vr : Value} {w w' : World} (h : GatV b B vs vr w) (hs : w.heap.size ≤ w'.heap.size) (hk : ∀ g, B ≤ g → g < w.heap.size → w'.heap[g]? = w.heap[g]?) : GatV b B vs vr w' := by
  rcases h with h | ⟨h1, h2, ps, h3, h4⟩
  · exact .inl h
  · exact .inr ⟨h1, (h2.stay hk).more hs, ps, h3.stay hk, h4⟩
theorem GatV.lower {b : List Int} {B B' : Nat} {vs vr : Value} {w : World} (h : GatV b B vs vr w) (hB : B' ≤ B) : GatV b B' vs vr w := by
  rcases h with h | ⟨h1, h2, ps, h3, h4⟩
  · exact .inl h
  · exact .inr ⟨h1, h2.lower hB, ps, h3.mono hB, h4⟩
theorem GatV.below {b : List Int} {B : Nat} {vs vr : Value} {w w' : World} (h : GatV b B vs vr w) (hb : Below w.heap.size w w') : GatV b B vs vr w' := h.stay hb.size fun g _ hg => hb.block g hg
theorem GatV.slices {b : List Int} {B : Nat} {vs vr : Value} {w : World} (h : GatV b B vs vr w) : ∃ A1 n1 c1 A2 n2 c2, vs = .slice A1 n1 c1 ∧ vr = .slice A2 n2 c2 := by
  rcases h with ⟨_, rfl, rfl⟩ | ⟨_, ⟨A, n, c, rfl, _⟩, ps, h3, _⟩
  · exact ⟨_, _, _, _, _, _, rfl, rfl⟩
  · obtain ⟨A', c', e, _, _⟩ := reads_own h3.row
    exact ⟨_, _, _, _, _, _, rfl, e⟩
/-- Five cells from o on laid anew. -/
theorem five_setO {V : World} {x : Nat} {t : TypeId} {cs : Array Value} (h : Blk V x t cs) (o : Nat) (u0 u1 u2 u3 u4 : Value) : ∃ V5, V5 = (((((V.setCell ⟨x, o, none⟩ u0).setCell ⟨x, o + 1, none⟩ u1).setCell ⟨x, o + 2, none⟩ u2).setCell ⟨x, o + 3, none⟩ u3).setCell ⟨x, o + 4, none⟩ u4) ∧
    Blk V5 x t (((((cs.setIfInBounds o u0).setIfInBounds (o + 1) u1).setIfInBounds (o + 2) u2).setIfInBounds (o + 3) u3).setIfInBounds (o + 4) u4) ∧ (∀ B w, B ≤ x → Below B w V → Below B w V5) ∧ (∀ q, q ≠ x → V5.heap[q]? = V.heap[q]?) ∧ V5.heap.size = V.heap.size := by
  refine ⟨_, rfl, ((((h.set_ o u0).set_ (o + 1) u1).set_ (o + 2) u2).set_ (o + 3) u3).set_ (o + 4) u4, fun B w hx hb => ?_, fun q hq => ?_, by simp [World.setCell]⟩
  · exact ((((hb.setCell (p := ⟨x, o, none⟩) hx u0).setCell (p := ⟨x, o + 1, none⟩) hx u1).setCell (p := ⟨x, o + 2, none⟩) hx u2).setCell (p := ⟨x, o + 3, none⟩) hx u3).setCell (p := ⟨x, o + 4, none⟩) hx u4
  · have k : ∀ (W : World) (i : Nat) (u : Value), (W.setCell ⟨x, i, none⟩ u).heap[q]? = W.heap[q]? := fun W i u => Below.heap_setCell W ⟨x, i, none⟩ u q (by show ¬ q = x; exact hq)
    rw [k, k, k, k, k]
/-- What a content is, cell by cell. -/
def conC (b : List Int) (vs vr : Value) : List Value := [.int .u64 ((gen b : Nat) : Int), vs, vr, .int .i64 (b.length : Int), .int .i64 ((fend b : Nat) : Int)]
def zerC : List Value := [.int .u64 0, .slice none 0 0, .slice none 0 0, .int .i64 0, .int .i64 0]
def BothP (d : DK) (w : World) (e : Ending) (w' : World) : Prop :=
  Below w.heap.size w w' ∧ ((d.on = true ∧ ∃ vs0 vr0 vs1 vr1, e = .returned (.tuple #[.agg (conC d.f0.all vs0 vr0 ++ conC d.f1.all vs1 vr1).toArray, .int .i64 0]) ∧ GatV d.f0.all w.heap.size vs0 vr0 w' ∧ GatV d.f1.all w.heap.size vs1 vr1 w') ∨
    (d.on = false ∧ e = .returned (.tuple #[.agg (zerC ++ zerC).toArray, .int .i64 40])))
/-- What the loop over both files has come to. -/
def RbI (d : DK) (F Rs B1 : Nat) (k : Nat) (W : World) : Prop :=
  Blk W Rs 76 (zerC ++ zerC).toArray ∧
  ((k = 0 ∧ Blk W F 76 (zerC ++ zerC).toArray) ∨
   (k = 1 ∧ d.on = true ∧ ∃ vs vr, Blk W F 76 (conC d.f0.all vs vr ++ zerC).toArray ∧ GatV d.f0.all B1 vs vr W) ∨
   (k = 2 ∧ d.on = true ∧ ∃ vs0 vr0 vs1 vr1, Blk W F 76 (conC d.f0.all vs0 vr0 ++ conC d.f1.all vs1 vr1).toArray ∧ GatV d.f0.all B1 vs0 vr0 W ∧ GatV d.f1.all B1 vs1 vr1 W))
set_option maxRecDepth 100000 in
set_option maxHeartbeats 4000000 in
theorem both_any (endC : EndC) (framesC : FramesCL) (R : Nat) (d : DK) (S : Nat → Prop) (w : World) (ht : Tab w) (h : DkP w R d S) (hB : DkB d) (M m : Nat) (hfit : d.fit M m) (hM : M ≤ 1073741824) :
    Calls Tryd.prog 42 #[.pointer (some ⟨R, 0, none⟩)] w (BothP d w) := by
  have HD := Lib.hid h
  have HT := Lib.hid ht
  have HB := Lib.hid hB
  have HF0 : Hid (d.f0.all.length ≤ 1073741824) := Lib.hid (Nat.le_trans hfit.l0 hM)
  have HF1 : Hid (d.f1.all.length ≤ 1073741824) := Lib.hid (Nat.le_trans hfit.l1 hM)
  have HE := Lib.hid endC
  have HFr := Lib.hid framesC
  clear h ht hB endC framesC hfit
  obtain ⟨Rs, hRs⟩ : ∃ Rs, Rs = w.heap.size := ⟨_, rfl⟩
  obtain ⟨F, hF⟩ : ∃ F, F = Rs + 1 := ⟨_, rfl⟩
  obtain ⟨w0, hw0⟩ : ∃ w0, w0 = (w.alloc (.cells #[.int .u64 0, .slice none 0 0, .slice none 0 0, .int .i64 0, .int .i64 0, .int .u64 0, .slice none 0 0, .slice none 0 0, .int .i64 0, .int .i64 0] 76)).alloc (.cells #[.int .u64 0, .slice none 0 0, .slice none 0 0, .int .i64 0, .int .i64 0, .int .u64 0, .slice none 0 0, .slice none 0 0, .int .i64 0, .int .i64 0] 76) := ⟨_, rfl⟩
  have hb0 : Below Rs w w0 := by rw [hw0, hRs]; exact ((Below.refl _ w).alloc (Nat.le_refl _) _).alloc (by simp) _
  have kr : Blk w0 Rs 76 (zerC ++ zerC).toArray := by rw [hw0, hRs]; exact (Blk.new w _ _).alloc _
  have kf : Blk w0 F 76 (zerC ++ zerC).toArray := by
    have := Blk.new (w.alloc (.cells #[.int .u64 0, .slice none 0 0, .slice none 0 0, .int .i64 0, .int .i64 0, .int .u64 0, .slice none 0 0, .slice none 0 0, .int .i64 0, .int .i64 0] 76)) 76 #[.int .u64 0, .slice none 0 0, .slice none 0 0, .int .i64 0, .int .i64 0, .int .u64 0, .slice none 0 0, .slice none 0 0, .int .i64 0, .int .i64 0]
    rw [World.size_alloc, ← hRs, ← hF] at this
    rw [hw0]; exact this
  have HB0 := Lib.hid hb0
  have HRs := Lib.hid hRs
  have HFe := Lib.hid hF
  have HSz : Hid (∀ V, Below Rs w V → Rs ≤ V.heap.size) := Lib.hid (fun V hV => by rw [HRs.out]; exact hV.size)
  have hFs : F < w0.heap.size := kf.lt
  have HI0 : Hid (RbI d F Rs w0.heap.size 0 w0) := Lib.hid ⟨kr, .inl ⟨rfl, kf⟩⟩
  clear hb0 kr kf
  go_enter Tryd.func42, Tryd.ntmps42
  go_wp2
  rw [← hRs, ← hF, ← hw0]
  clear hw0 hF hRs
  go_loopw [8] (fun i wr => ∃ k : Nat, i = .int .i64 (k : Int) ∧ k ≤ 2 ∧ RbI d F Rs w0.heap.size k wr ∧ Below Rs w wr ∧ w0.heap.size ≤ wr.heap.size) (fun i _ => 2 - (intOf i).toNat)
  case atStart => exact ⟨0, rfl, by omega, HI0.out, HB0.out, Nat.le_refl _⟩
  case round =>
    obtain ⟨k, rfl, hk, hI, hbel, hsz⟩ := hrel
    obtain ⟨w2, rfl⟩ : ∃ w2 : World, w2 = wr := ⟨_, rfl⟩
    have HBe := Lib.hid hbel
    have hRsz : Rs < w2.heap.size := by have := HFe.out; omega
    have HDw := Lib.hid (HD.out.next (by rw [← HRs.out]; exact hbel))
    have HTw := Lib.hid (HT.out.next (by rw [← HRs.out]; exact hbel))
    have hRF : Rs < F := by have := HFe.out; omega
    clear hbel
    rcases hI with ⟨kr, ⟨rfl, kf⟩ | ⟨rfl, hon, vs0, vr0, kf, hgp⟩ | ⟨rfl, hon, vs0, vr0, vs1, vr1, kf, hg0, hg1⟩⟩
    · have HKR := Lib.hid kr
      have HKF := Lib.hid kf
      clear kr kf
      by_cases hon : d.on = true
      · have HOn := Lib.hid hon
        have hno : d.no 0 = 0 := by unfold DK.no; rw [if_pos (.inl rfl), if_pos hon]
        have hrd : d.rd 0 = d.f0.all := by unfold DK.rd; rw [if_pos hno]; rfl
        have HX := Lib.hid (read_any R 0 d S w2 HDw.out (by have := HF0.out; omega) (by have := HF1.out; omega))
        rw [hno, hrd] at HX
        clear hno hrd hon
        go_wp2_with fail
        refine HX.out.mono ?_
        rintro e w3 ⟨A3, n3, c3, rfl, ho3, hb3⟩
        have hl3 := own_len ho3
        have HG := Lib.hid (gather_any HE.out HFr.out A3 n3 c3 d.f0.all w3 (HTw.out.next hb3) (own_reads ho3) hl3.2 HB.out.1 (by have := HF0.out; omega))
        have HKR3 := Lib.hid (HKR.out.below hb3 HKR.out.lt)
        have HKF3 := Lib.hid (HKF.out.below hb3 HKF.out.lt)
        have HBe3 := Lib.hid (HBe.out.trans (hb3.mono (by omega)))
        have hs3 : w2.heap.size ≤ w3.heap.size := hb3.size
        clear ho3 hb3 hl3 HX
        go_wp2_with fail
        refine HG.out.mono ?_
        rintro e w4 ⟨hb4, vs, vr, rfl, hgv⟩
        obtain ⟨As, ns, cs, Ar, nr, cr, rfl, rfl⟩ := hgv.slices
        have HKR4 := Lib.hid (HKR3.out.below hb4 HKR3.out.lt)
        have HKF4 := Lib.hid (HKF3.out.below hb4 HKF3.out.lt)
        have HBe4 := Lib.hid (HBe3.out.trans (hb4.mono (by omega)))
        have HGv := Lib.hid hgv
        have hs4 : w3.heap.size ≤ w4.heap.size := hb4.size
        obtain ⟨gg, hgg⟩ : ∃ gg, gg = gen d.f0.all := ⟨_, rfl⟩
        obtain ⟨ll, hll⟩ : ∃ ll, ll = d.f0.all.length := ⟨_, rfl⟩
        obtain ⟨ff, hff⟩ : ∃ ff, ff = fend d.f0.all := ⟨_, rfl⟩
        have HC : Hid (conC d.f0.all (.slice As ns cs) (.slice Ar nr cr) = [.int .u64 (gg : Int), .slice As ns cs, .slice Ar nr cr, .int .i64 (ll : Int), .int .i64 (ff : Int)]) := Lib.hid (by unfold conC; rw [hgg, hll, hff])
        rw [← hgg, ← hll, ← hff]
        clear hb4 hgv HG hgg hll hff
        have d0 : w4.cell? ⟨F, 0, none⟩ = some (.int .u64 0) := HKF4.out.cell 0
        have fd0 : w4.frozen? ⟨F, 0, none⟩ = false := HKF4.out.frozen 0
        have d1 : w4.cell? ⟨F, 1, none⟩ = some (.slice none 0 0) := HKF4.out.cell 1
        have fd1 : w4.frozen? ⟨F, 1, none⟩ = false := HKF4.out.frozen 1
        have d2 : w4.cell? ⟨F, 2, none⟩ = some (.slice none 0 0) := HKF4.out.cell 2
        have fd2 : w4.frozen? ⟨F, 2, none⟩ = false := HKF4.out.frozen 2
        have d3 : w4.cell? ⟨F, 3, none⟩ = some (.int .i64 0) := HKF4.out.cell 3
        have fd3 : w4.frozen? ⟨F, 3, none⟩ = false := HKF4.out.frozen 3
        have d4 : w4.cell? ⟨F, 4, none⟩ = some (.int .i64 0) := HKF4.out.cell 4
        have fd4 : w4.frozen? ⟨F, 4, none⟩ = false := HKF4.out.frozen 4
        go_wp2
        obtain ⟨V5, hV5, hk5, hbl5, hq5, hs5⟩ := five_setO HKF4.out 0 (.int .u64 (gg : Int)) (.slice As ns cs) (.slice Ar nr cr) (.int .i64 (ll : Int)) (.int .i64 (ff : Int))
        simp only [Nat.zero_add] at hV5
        rw [← hV5]
        clear d0 fd0 d1 fd1 d2 fd2 d3 fd3 d4 fd4
        go_roundw
        case rel =>
          refine ⟨1, rfl, by omega, ⟨(hq5 Rs (by omega)).trans HKR4.out, .inr (.inl ⟨rfl, HOn.out, .slice As ns cs, .slice Ar nr cr, ?_, ?_⟩)⟩, hbl5 _ _ (by omega) HBe4.out, by omega⟩
          · rw [HC.out]; exact hk5
          · exact (HGv.out.stay (by omega) (fun g h1 h2 => hq5 g (by omega))).lower (by omega)
        case measure => simp [intOf]
      · have hon' : d.on = false := by simpa using hon
        have HOn := Lib.hid hon'
        have hno : d.no 0 = 40 := by unfold DK.no; rw [if_pos (.inl rfl), if_neg hon]
        have HX := Lib.hid (read_any R 0 d S w2 HDw.out (by have := HF0.out; omega) (by have := HF1.out; omega))
        rw [hno] at HX
        clear hno hon hon'
        go_wp2_with fail
        refine HX.out.mono ?_
        rintro e w3 ⟨A3, n3, c3, rfl, ho3, hb3⟩
        have HKR3 := Lib.hid (HKR.out.below hb3 HKR.out.lt)
        have HBe3 := Lib.hid (HBe.out.trans (hb3.mono (by omega)))
        have hs3 : w2.heap.size ≤ w3.heap.size := hb3.size
        clear ho3 hb3 HX
        have d0 : w3.cell? ⟨Rs, 0, none⟩ = some (.int .u64 0) := HKR3.out.cell 0
        have fd0 : w3.frozen? ⟨Rs, 0, none⟩ = false := HKR3.out.frozen 0
        have d1 : w3.cell? ⟨Rs, 1, none⟩ = some (.slice none 0 0) := HKR3.out.cell 1
        have fd1 : w3.frozen? ⟨Rs, 1, none⟩ = false := HKR3.out.frozen 1
        have d2 : w3.cell? ⟨Rs, 2, none⟩ = some (.slice none 0 0) := HKR3.out.cell 2
        have fd2 : w3.frozen? ⟨Rs, 2, none⟩ = false := HKR3.out.frozen 2
        have d3 : w3.cell? ⟨Rs, 3, none⟩ = some (.int .i64 0) := HKR3.out.cell 3
        have fd3 : w3.frozen? ⟨Rs, 3, none⟩ = false := HKR3.out.frozen 3
        have d4 : w3.cell? ⟨Rs, 4, none⟩ = some (.int .i64 0) := HKR3.out.cell 4
        have fd4 : w3.frozen? ⟨Rs, 4, none⟩ = false := HKR3.out.frozen 4
        have d5 : w3.cell? ⟨Rs, 5, none⟩ = some (.int .u64 0) := HKR3.out.cell 5
        have fd5 : w3.frozen? ⟨Rs, 5, none⟩ = false := HKR3.out.frozen 5
        have d6 : w3.cell? ⟨Rs, 6, none⟩ = some (.slice none 0 0) := HKR3.out.cell 6
        have fd6 : w3.frozen? ⟨Rs, 6, none⟩ = false := HKR3.out.frozen 6
        have d7 : w3.cell? ⟨Rs, 7, none⟩ = some (.slice none 0 0) := HKR3.out.cell 7
        have fd7 : w3.frozen? ⟨Rs, 7, none⟩ = false := HKR3.out.frozen 7
        have d8 : w3.cell? ⟨Rs, 8, none⟩ = some (.int .i64 0) := HKR3.out.cell 8
        have fd8 : w3.frozen? ⟨Rs, 8, none⟩ = false := HKR3.out.frozen 8
        have d9 : w3.cell? ⟨Rs, 9, none⟩ = some (.int .i64 0) := HKR3.out.cell 9
        have fd9 : w3.frozen? ⟨Rs, 9, none⟩ = false := HKR3.out.frozen 9
        go_wp2
        obtain ⟨V5, hV5, hk5, hbl5, hq5, hs5⟩ := five_setO HKR3.out 0 (.int .u64 0) (.slice none 0 0) (.slice none 0 0) (.int .i64 0) (.int .i64 0)
        obtain ⟨V6, hV6, hk6, hbl6, hq6, hs6⟩ := five_setO hk5 5 (.int .u64 0) (.slice none 0 0) (.slice none 0 0) (.int .i64 0) (.int .i64 0)
        simp only [Nat.zero_add] at hV5
        simp only [Nat.reduceAdd] at hV6
        rw [← hV5, ← hV6]
        have hbe : Below w.heap.size w V6 := by rw [← HRs.out]; exact hbl6 _ _ (Nat.le_refl _) (hbl5 _ _ (Nat.le_refl _) HBe3.out)
        have hk7 : Blk V6 Rs 76 #[.int .u64 0, .slice none 0 0, .slice none 0 0, .int .i64 0, .int .i64 0, .int .u64 0, .slice none 0 0, .slice none 0 0, .int .i64 0, .int .i64 0] := by simpa [zerC] using hk6
        have r0 : V6.cell? ⟨Rs, 0, none⟩ = some (.int .u64 0) := hk7.cell 0
        have r1 : V6.cell? ⟨Rs, 1, none⟩ = some (.slice none 0 0) := hk7.cell 1
        have r2 : V6.cell? ⟨Rs, 2, none⟩ = some (.slice none 0 0) := hk7.cell 2
        have r3 : V6.cell? ⟨Rs, 3, none⟩ = some (.int .i64 0) := hk7.cell 3
        have r4 : V6.cell? ⟨Rs, 4, none⟩ = some (.int .i64 0) := hk7.cell 4
        have r5 : V6.cell? ⟨Rs, 5, none⟩ = some (.int .u64 0) := hk7.cell 5
        have r6 : V6.cell? ⟨Rs, 6, none⟩ = some (.slice none 0 0) := hk7.cell 6
        have r7 : V6.cell? ⟨Rs, 7, none⟩ = some (.slice none 0 0) := hk7.cell 7
        have r8 : V6.cell? ⟨Rs, 8, none⟩ = some (.int .i64 0) := hk7.cell 8
        have r9 : V6.cell? ⟨Rs, 9, none⟩ = some (.int .i64 0) := hk7.cell 9
        refine bodyPost_ret (v := .tuple #[.agg #[.int .u64 0, .slice none 0 0, .slice none 0 0, .int .i64 0, .int .i64 0, .int .u64 0, .slice none 0 0, .slice none 0 0, .int .i64 0, .int .i64 0], .int .i64 40]) (by simp [results, Tryd.f42, go_sem, r0, r1, r2, r3, r4, r5, r6, r7, r8, r9]) rfl ?_
        refine ⟨hbe, .inr ⟨HOn.out, rfl⟩⟩
    · have HKR := Lib.hid kr
      have HKF := Lib.hid kf
      have HOn := Lib.hid hon
      have HGp := Lib.hid hgp
      clear kr kf hgp
      · skip
        have hno : d.no 1 = 0 := by unfold DK.no; rw [if_pos (.inr rfl), if_pos hon]
        have hrd : d.rd 1 = d.f1.all := by unfold DK.rd; rw [if_pos hno]; rfl
        have HX := Lib.hid (read_any R 1 d S w2 HDw.out (by have := HF0.out; omega) (by have := HF1.out; omega))
        rw [hno, hrd] at HX
        clear hno hrd hon
        go_wp2_with fail
        refine HX.out.mono ?_
        rintro e w3 ⟨A3, n3, c3, rfl, ho3, hb3⟩
        have hl3 := own_len ho3
        have HG := Lib.hid (gather_any HE.out HFr.out A3 n3 c3 d.f1.all w3 (HTw.out.next hb3) (own_reads ho3) hl3.2 HB.out.2 (by have := HF1.out; omega))
        have HKR3 := Lib.hid (HKR.out.below hb3 HKR.out.lt)
        have HKF3 := Lib.hid (HKF.out.below hb3 HKF.out.lt)
        have HBe3 := Lib.hid (HBe.out.trans (hb3.mono (by omega)))
        have hs3 : w2.heap.size ≤ w3.heap.size := hb3.size
        have HGp3 := Lib.hid (HGp.out.below hb3)
        clear ho3 hb3 hl3 HX
        go_wp2_with fail
        refine HG.out.mono ?_
        rintro e w4 ⟨hb4, vs, vr, rfl, hgv⟩
        obtain ⟨As, ns, cs, Ar, nr, cr, rfl, rfl⟩ := hgv.slices
        have HKR4 := Lib.hid (HKR3.out.below hb4 HKR3.out.lt)
        have HKF4 := Lib.hid (HKF3.out.below hb4 HKF3.out.lt)
        have HBe4 := Lib.hid (HBe3.out.trans (hb4.mono (by omega)))
        have HGv := Lib.hid hgv
        have hs4 : w3.heap.size ≤ w4.heap.size := hb4.size
        have HGp4 := Lib.hid (HGp3.out.below hb4)
        obtain ⟨gg, hgg⟩ : ∃ gg, gg = gen d.f1.all := ⟨_, rfl⟩
        obtain ⟨ll, hll⟩ : ∃ ll, ll = d.f1.all.length := ⟨_, rfl⟩
        obtain ⟨ff, hff⟩ : ∃ ff, ff = fend d.f1.all := ⟨_, rfl⟩
        have HC : Hid (conC d.f1.all (.slice As ns cs) (.slice Ar nr cr) = [.int .u64 (gg : Int), .slice As ns cs, .slice Ar nr cr, .int .i64 (ll : Int), .int .i64 (ff : Int)]) := Lib.hid (by unfold conC; rw [hgg, hll, hff])
        rw [← hgg, ← hll, ← hff]
        clear hb4 hgv HG hgg hll hff
        have d5 : w4.cell? ⟨F, 5, none⟩ = some (.int .u64 0) := HKF4.out.cell 5
        have fd5 : w4.frozen? ⟨F, 5, none⟩ = false := HKF4.out.frozen 5
        have d6 : w4.cell? ⟨F, 6, none⟩ = some (.slice none 0 0) := HKF4.out.cell 6
        have fd6 : w4.frozen? ⟨F, 6, none⟩ = false := HKF4.out.frozen 6
        have d7 : w4.cell? ⟨F, 7, none⟩ = some (.slice none 0 0) := HKF4.out.cell 7
        have fd7 : w4.frozen? ⟨F, 7, none⟩ = false := HKF4.out.frozen 7
        have d8 : w4.cell? ⟨F, 8, none⟩ = some (.int .i64 0) := HKF4.out.cell 8
        have fd8 : w4.frozen? ⟨F, 8, none⟩ = false := HKF4.out.frozen 8
        have d9 : w4.cell? ⟨F, 9, none⟩ = some (.int .i64 0) := HKF4.out.cell 9
        have fd9 : w4.frozen? ⟨F, 9, none⟩ = false := HKF4.out.frozen 9
        go_wp2
        obtain ⟨V5, hV5, hk5, hbl5, hq5, hs5⟩ := five_setO HKF4.out 5 (.int .u64 (gg : Int)) (.slice As ns cs) (.slice Ar nr cr) (.int .i64 (ll : Int)) (.int .i64 (ff : Int))
        simp only [Nat.reduceAdd] at hV5
        rw [← hV5]
        clear d5 fd5 d6 fd6 d7 fd7 d8 fd8 d9 fd9
        go_roundw
        case rel =>
          refine ⟨2, rfl, by omega, ⟨(hq5 Rs (by omega)).trans HKR4.out, .inr (.inr ⟨rfl, HOn.out, vs0, vr0, .slice As ns cs, .slice Ar nr cr, ?_, ?_, ?_⟩)⟩, hbl5 _ _ (by omega) HBe4.out, by omega⟩
          · rw [HC.out]; exact hk5
          · exact HGp4.out.stay (by omega) (fun g h1 h2 => hq5 g (by omega))
          · exact (HGv.out.stay (by omega) (fun g h1 h2 => hq5 g (by omega))).lower (by omega)
        case measure => simp [intOf]
    · obtain ⟨As, ns, cs, Ar, nr, cr, rfl, rfl⟩ := hg0.slices
      obtain ⟨As1, ns1, cs1, Ar1, nr1, cr1, rfl, rfl⟩ := hg1.slices
      have HKR := Lib.hid kr
      have HOn := Lib.hid hon
      have HG0 := Lib.hid hg0
      have HG1 := Lib.hid hg1
      have HC0 : Hid (conC d.f0.all (.slice As ns cs) (.slice Ar nr cr) = [.int .u64 ((gen d.f0.all : Nat) : Int), .slice As ns cs, .slice Ar nr cr, .int .i64 (d.f0.all.length : Int), .int .i64 ((fend d.f0.all : Nat) : Int)]) := Lib.hid rfl
      have HC1 : Hid (conC d.f1.all (.slice As1 ns1 cs1) (.slice Ar1 nr1 cr1) = [.int .u64 ((gen d.f1.all : Nat) : Int), .slice As1 ns1 cs1, .slice Ar1 nr1 cr1, .int .i64 (d.f1.all.length : Int), .int .i64 ((fend d.f1.all : Nat) : Int)]) := Lib.hid rfl
      rw [HC0.out, HC1.out] at kf
      obtain ⟨gg, hgg⟩ : ∃ gg, gg = gen d.f0.all := ⟨_, rfl⟩
      obtain ⟨ll, hll⟩ : ∃ ll, ll = d.f0.all.length := ⟨_, rfl⟩
      obtain ⟨ff, hff⟩ : ∃ ff, ff = fend d.f0.all := ⟨_, rfl⟩
      obtain ⟨gh, hgh⟩ : ∃ gg, gg = gen d.f1.all := ⟨_, rfl⟩
      obtain ⟨lh, hlh⟩ : ∃ ll, ll = d.f1.all.length := ⟨_, rfl⟩
      obtain ⟨fh, hfh⟩ : ∃ ff, ff = fend d.f1.all := ⟨_, rfl⟩
      rw [← hgg, ← hll, ← hff] at HC0 kf
      rw [← hgh, ← hlh, ← hfh] at HC1 kf
      have HKF := Lib.hid kf
      clear kr kf hon hg0 hg1 hgg hll hff hgh hlh hfh
      have d0 : w2.cell? ⟨Rs, 0, none⟩ = some (.int .u64 0) := HKR.out.cell 0
      have fd0 : w2.frozen? ⟨Rs, 0, none⟩ = false := HKR.out.frozen 0
      have d1 : w2.cell? ⟨Rs, 1, none⟩ = some (.slice none 0 0) := HKR.out.cell 1
      have fd1 : w2.frozen? ⟨Rs, 1, none⟩ = false := HKR.out.frozen 1
      have d2 : w2.cell? ⟨Rs, 2, none⟩ = some (.slice none 0 0) := HKR.out.cell 2
      have fd2 : w2.frozen? ⟨Rs, 2, none⟩ = false := HKR.out.frozen 2
      have d3 : w2.cell? ⟨Rs, 3, none⟩ = some (.int .i64 0) := HKR.out.cell 3
      have fd3 : w2.frozen? ⟨Rs, 3, none⟩ = false := HKR.out.frozen 3
      have d4 : w2.cell? ⟨Rs, 4, none⟩ = some (.int .i64 0) := HKR.out.cell 4
      have fd4 : w2.frozen? ⟨Rs, 4, none⟩ = false := HKR.out.frozen 4
      have d5 : w2.cell? ⟨Rs, 5, none⟩ = some (.int .u64 0) := HKR.out.cell 5
      have fd5 : w2.frozen? ⟨Rs, 5, none⟩ = false := HKR.out.frozen 5
      have d6 : w2.cell? ⟨Rs, 6, none⟩ = some (.slice none 0 0) := HKR.out.cell 6
      have fd6 : w2.frozen? ⟨Rs, 6, none⟩ = false := HKR.out.frozen 6
      have d7 : w2.cell? ⟨Rs, 7, none⟩ = some (.slice none 0 0) := HKR.out.cell 7
      have fd7 : w2.frozen? ⟨Rs, 7, none⟩ = false := HKR.out.frozen 7
      have d8 : w2.cell? ⟨Rs, 8, none⟩ = some (.int .i64 0) := HKR.out.cell 8
      have fd8 : w2.frozen? ⟨Rs, 8, none⟩ = false := HKR.out.frozen 8
      have d9 : w2.cell? ⟨Rs, 9, none⟩ = some (.int .i64 0) := HKR.out.cell 9
      have fd9 : w2.frozen? ⟨Rs, 9, none⟩ = false := HKR.out.frozen 9
      have e0 : w2.cell? ⟨F, 0, none⟩ = some (.int .u64 (gg : Int)) := HKF.out.cell 0
      have e1 : w2.cell? ⟨F, 1, none⟩ = some (.slice As ns cs) := HKF.out.cell 1
      have e2 : w2.cell? ⟨F, 2, none⟩ = some (.slice Ar nr cr) := HKF.out.cell 2
      have e3 : w2.cell? ⟨F, 3, none⟩ = some (.int .i64 (ll : Int)) := HKF.out.cell 3
      have e4 : w2.cell? ⟨F, 4, none⟩ = some (.int .i64 (ff : Int)) := HKF.out.cell 4
      have e5 : w2.cell? ⟨F, 5, none⟩ = some (.int .u64 (gh : Int)) := HKF.out.cell 5
      have e6 : w2.cell? ⟨F, 6, none⟩ = some (.slice As1 ns1 cs1) := HKF.out.cell 6
      have e7 : w2.cell? ⟨F, 7, none⟩ = some (.slice Ar1 nr1 cr1) := HKF.out.cell 7
      have e8 : w2.cell? ⟨F, 8, none⟩ = some (.int .i64 (lh : Int)) := HKF.out.cell 8
      have e9 : w2.cell? ⟨F, 9, none⟩ = some (.int .i64 (fh : Int)) := HKF.out.cell 9
      go_wp2
      obtain ⟨V5, hV5, hk5, hbl5, hq5, hs5⟩ := five_setO HKR.out 0 (.int .u64 (gg : Int)) (.slice As ns cs) (.slice Ar nr cr) (.int .i64 (ll : Int)) (.int .i64 (ff : Int))
      obtain ⟨V6, hV6, hk6, hbl6, hq6, hs6⟩ := five_setO hk5 5 (.int .u64 (gh : Int)) (.slice As1 ns1 cs1) (.slice Ar1 nr1 cr1) (.int .i64 (lh : Int)) (.int .i64 (fh : Int))
      simp only [Nat.zero_add] at hV5
      simp only [Nat.reduceAdd] at hV6
      rw [← hV5, ← hV6]
      have hbe : Below w.heap.size w V6 := by rw [← HRs.out]; exact hbl6 _ _ (Nat.le_refl _) (hbl5 _ _ (Nat.le_refl _) HBe.out)
      have hk7 : Blk V6 Rs 76 #[.int .u64 (gg : Int), .slice As ns cs, .slice Ar nr cr, .int .i64 (ll : Int), .int .i64 (ff : Int), .int .u64 (gh : Int), .slice As1 ns1 cs1, .slice Ar1 nr1 cr1, .int .i64 (lh : Int), .int .i64 (fh : Int)] := by simpa [zerC] using hk6
      have r0 : V6.cell? ⟨Rs, 0, none⟩ = some (.int .u64 (gg : Int)) := hk7.cell 0
      have r1 : V6.cell? ⟨Rs, 1, none⟩ = some (.slice As ns cs) := hk7.cell 1
      have r2 : V6.cell? ⟨Rs, 2, none⟩ = some (.slice Ar nr cr) := hk7.cell 2
      have r3 : V6.cell? ⟨Rs, 3, none⟩ = some (.int .i64 (ll : Int)) := hk7.cell 3
      have r4 : V6.cell? ⟨Rs, 4, none⟩ = some (.int .i64 (ff : Int)) := hk7.cell 4
      have r5 : V6.cell? ⟨Rs, 5, none⟩ = some (.int .u64 (gh : Int)) := hk7.cell 5
      have r6 : V6.cell? ⟨Rs, 6, none⟩ = some (.slice As1 ns1 cs1) := hk7.cell 6
      have r7 : V6.cell? ⟨Rs, 7, none⟩ = some (.slice Ar1 nr1 cr1) := hk7.cell 7
      have r8 : V6.cell? ⟨Rs, 8, none⟩ = some (.int .i64 (lh : Int)) := hk7.cell 8
      have r9 : V6.cell? ⟨Rs, 9, none⟩ = some (.int .i64 (fh : Int)) := hk7.cell 9
      refine bodyPost_ret (v := .tuple #[.agg #[.int .u64 (gg : Int), .slice As ns cs, .slice Ar nr cr, .int .i64 (ll : Int), .int .i64 (ff : Int), .int .u64 (gh : Int), .slice As1 ns1 cs1, .slice Ar1 nr1 cr1, .int .i64 (lh : Int), .int .i64 (fh : Int)], .int .i64 0]) (by simp [results, Tryd.f42, go_sem, r0, r1, r2, r3, r4, r5, r6, r7, r8, r9]) rfl ?_
      refine ⟨hbe, .inl ⟨HOn.out, .slice As ns cs, .slice Ar nr cr, .slice As1 ns1 cs1, .slice Ar1 nr1 cr1, by rw [HC0.out, HC1.out]; rfl, ?_, ?_⟩⟩
      · exact (HG0.out.stay (by omega) (fun g h1 h2 => (hq6 g (by omega)).trans (hq5 g (by omega)))).lower (by have := HSz.out _ HBe.out; have := HB0.out.size; omega)
      · exact (HG1.out.stay (by omega) (fun g h1 h2 => (hq6 g (by omega)).trans (hq5 g (by omega)))).lower (by have := HSz.out _ HBe.out; have := HB0.out.size; omega)
end Go.Proofs.YtnpmccekkjadhaaDoor.Pk
