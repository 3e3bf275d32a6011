/- The walk of the law HalfKeeps. -/
import Derived.Test.YtneijohbmphheaaHfWakes
import Derived.Test.YtneijohbmphheaaHfRef2
import Derived.Test.YtneijohbmphheaaHfArgs
import Derived.Test.YtneijohbmphheaaRegRound
import Derived.Test.YtneijohbmphheaaRangeA
import Derived.Test.YtneijohbmphheaaWiEq
import Derived.Test.YtneijohbmphheaaHfKeep
import Derived.Deep.QuietTactic
import Derived.BigQuiet
namespace Go.Proofs.Ytneijohbmphheaa.Pk
open Go.RowKit Go.Shelf Go.Proofs.Ytneijohbmphheaa.Ar
set_option linter.unusedVariables false
attribute [local go_sem] Oper.semAt_some encH
theorem left_all (h : Hf) : ∀ (m : Nat) (x : Int × Mg), (hleft h (-1))[m]? = some x → h.o[m]? = some x.2 := by
  intro m x hx
  by_cases hb : h.Be
  · have h0 : 0 ≤ h.b := hb.2.2.1
    rw [hleft_get hb, show ((-1 : Int) - h.b).toNat = 0 by omega, Nat.zero_add] at hx
    obtain ⟨y, hy, rfl⟩ := Option.map_eq_some_iff.1 hx
    exact hy
  · rw [hleft_not hb] at hx; simp at hx
theorem readsG_take {w : World} {B n k : Nat} {A : Option Addr} {l r : List Mg} (h : Reads w B 5 A k (mgs (l ++ r))) (hl : l.length = n) : Reads w B 5 A n (mgs l) := by
  have hk := h.mlen
  rw [List.length_append] at hk
  refine ⟨by simp [hl], fun hn => ?_⟩
  obtain ⟨ad, e, hb, hc⟩ := h.2 (by omega)
  refine ⟨ad, e, hb, fun j u hj => hc j u ?_⟩
  rw [mgs_append, List.getElem?_append_left (List.getElem?_eq_some_iff.1 hj).1]
  exact hj
def m71 : Mg := ⟨71, 0, 0, 0, 0⟩
def m72 : Mg := ⟨72, 0, 0, 0, 0⟩
theorem reads_newM (w : World) (cs : Array Value) (T : TypeId) (k : Nat) {xs : List Value} (hx : xs.length = k * 5) (h : cs.toList = xs := by rfl) : Reads (w.alloc (.cells cs T)) (w.heap.size + 1) 5 (some ⟨w.heap.size, 0, none⟩) k xs := by
  subst h
  refine ⟨hx, fun _ => ⟨_, rfl, by simp, fun j u hj => ?_⟩⟩
  have h0 : (w.alloc (.cells cs T)).cell? ⟨w.heap.size, j, none⟩ = cs[j]? := (Blk.new w T cs).cell j
  have e : (⟨w.heap.size, 0, none⟩ : Addr).add j = ⟨w.heap.size, j, none⟩ := by unfold Addr.add; by_cases hj : j = 0 <;> simp [hj]
  rw [e, h0]
  simpa using hj
theorem onlyS_row {S : Nat → Prop} {w V W : World} {row : Option Nat} (h : OnlyS S w V) (hg : V.grownBy W row) (hr : ∀ g, row = some g → S g) : OnlyS S w W :=
  ⟨hg.os.trans h.os, hg.tape.trans h.tape, hg.output.trans h.output, Nat.le_trans h.size hg.size, fun i hi hn => (hg.block i (Nat.lt_of_lt_of_le hi h.size) (fun e => hn (hr i e.symm))).trans (h.block i hi hn)⟩
theorem room_cells {w : World} {B n c g : Nat} {l : List Mg} (h : OwnG w B (.slice (some ⟨g, 0, none⟩) (n + 2) c) (l ++ [m71, m72])) (hl : l.length = n) : w.cell? ⟨g, n * 5, none⟩ = some (.int .i64 71) ∧ w.cell? ⟨g, (n + 1) * 5, none⟩ = some (.int .i64 72) := by
  obtain ⟨b, off, e, _, hc⟩ := (ownG_reads h).mgs_ (by omega)
  injection e with e
  injection e with e1 e2
  subst e1; subst e2
  have h1 := (hc n m71 (by rw [List.getElem?_append_right (by omega), hl, Nat.sub_self]; rfl)).1
  have h2 := (hc (n + 1) m72 (by rw [List.getElem?_append_right (by omega), hl, show n + 1 - n = 1 by omega]; rfl)).1
  rw [Nat.zero_add] at h1 h2
  exact ⟨h1, h2⟩
set_option maxRecDepth 100000 in
set_option maxHeartbeats 16000000 in
theorem law_HalfKeeps (HP : PushH) (HF : FitsH) (HH : HeardH) (HT : TookH) (HLe : LeftH) (h : Hf) (A : Option Addr) (n c : Nat) (m : Mg) (q : Int) (w : World) (hk : ArgH w h A n c) (hm : m.I) (hq : -9223372036854775808 ≤ q ∧ q ≤ 9223372036854775807) :
    Calls Try.prog 7 #[h.val (.slice A n c), m.val, .int .i64 q] w fun e w' => e = .returned (.bool true) ∧ Below w.heap.size w w' := by
  have HW := Lib.hid (fun w => wakes_any HP HF HH w)
  have HPu := Lib.hid (fun A' n' c' w' (hi : InH w' h A' n' c') => HP h m A' n' c' w' hi hm)
  have HHd := Lib.hid (fun A' n' c' w' (hi : InH w' h A' n' c') => HH h q A' n' c' w' hi hq.1 hq.2)
  have HTk := Lib.hid (fun A' n' c' w' (hi : InH w' h A' n' c') => HT h A' n' c' w' hi)
  have HLf := Lib.hid (fun A' n' c' w' (hi : InH w' h A' n' c') => HLe h (-1) A' n' c' w' hi (by omega) (by omega))
  have HRp := Lib.hid (fun w' (hb : Below w.heap.size w w') => refpush_any h m A n c w' (hk.next hb) hm)
  have HRe := Lib.hid hk.rd
  have HI := Lib.hid hk.i
  have HL := Lib.hid hk.len
  have hn := hk.small
  clear hk HP HF HH HT HLe
  have HLa := Lib.hid (hpush_len h m)
  have HLb := Lib.hid (hheard_len h q)
  have HLc := Lib.hid (htake_len h)
  have HLd := Lib.hid (left_all h)
  obtain ⟨ra, hra⟩ : ∃ r, r = hpush h m := ⟨_, rfl⟩
  obtain ⟨rb, hrb⟩ : ∃ r, r = hheard h q := ⟨_, rfl⟩
  obtain ⟨rc, hrc⟩ : ∃ r, r = htake h := ⟨_, rfl⟩
  obtain ⟨lq, hlq⟩ : ∃ r, r = hleft h (-1) := ⟨_, rfl⟩
  rw [← hra] at HPu HRp HLa
  rw [← hrb] at HHd HLb
  rw [← hrc] at HTk HLc
  rw [← hlq] at HLf HLd
  clear hra hrb hrc hlq
  obtain ⟨⟨ap, ab, ao, as_⟩, ae⟩ := ra
  obtain ⟨⟨bp, bb, bo, bs⟩, be⟩ := rb
  obtain ⟨⟨tp, tb, to_, ts⟩, te⟩ := rc
  obtain ⟨p, b, o, s⟩ := h
  obtain ⟨mk, mo, mn, mu, mv⟩ := m
  unfold Hf.val at HPu HHd HTk HLf HRp ⊢
  unfold Mg.val at HPu HRp ⊢
  simp only at HPu HHd HTk HLf HRp HL HRe HLa HLb HLc HLd ⊢
  refine (callsIn_wide (n := 9)).1 ?_
  refine callsIn_of_wp_marks Try.func7 rfl trivial ?_ rfl
  simp only [Try.ntmps7, List.size_toArray, List.length_cons, List.length_nil, Nat.reduceAdd, Nat.reduceSub, Array.replicate_succ, Array.replicate_zero, List.push_toArray, List.append_toArray, List.nil_append, List.cons_append]
  refine wpIn_wide.2 ?_
  obtain ⟨xe, hxe⟩ : ∃ x, x = w.heap.size := ⟨_, rfl⟩
  obtain ⟨xm, hxm⟩ : ∃ x, x = xe + 1 := ⟨_, rfl⟩
  obtain ⟨xr, hxr⟩ : ∃ x, x = xm + 1 := ⟨_, rfl⟩
  obtain ⟨wa, hwa⟩ : ∃ v, v = w.alloc (.cells #[.int .i64 p, .int .i64 b, .slice A n c, .int .i64 s] 24) := ⟨_, rfl⟩
  obtain ⟨wb, hwb⟩ : ∃ v, v = wa.alloc (.cells #[.int .i64 mk, .int .i64 mo, .int .i64 mn, .int .i64 mu, .int .i64 mv] 26) := ⟨_, rfl⟩
  obtain ⟨w0, hw0⟩ : ∃ v, v = wb.alloc (.cells #[.bool false] 4) := ⟨_, rfl⟩
  have hsa : wa.heap.size = xe + 1 := by rw [hwa, World.size_alloc, hxe]
  have hsb : wb.heap.size = xm + 1 := by rw [hwb, World.size_alloc, hsa, hxm]
  have hba : Below w.heap.size w wa := hwa ▸ (Below.refl _ _).alloc (Nat.le_refl _) _
  have hbb : Below w.heap.size w wb := hwb ▸ hba.alloc (by omega) _
  have HB0 : Hid (Below w.heap.size w w0) := Lib.hid (hw0 ▸ hbb.alloc (by omega) _)
  have HXxe_0 : Hid (Blk w0 xe 24 #[.int .i64 p, .int .i64 b, .slice A n c, .int .i64 s]) := Lib.hid (by rw [hw0, hwb, hwa, hxe]; exact ((Blk.new w _ _).alloc _).alloc _)
  have HXxm_0 : Hid (Blk w0 xm 26 #[.int .i64 mk, .int .i64 mo, .int .i64 mn, .int .i64 mu, .int .i64 mv]) := Lib.hid (by rw [hw0, hwb, hxm, ← hsa]; exact (Blk.new wa _ _).alloc _)
  have HXxr_0 : Hid (Blk w0 xr 4 #[.bool false]) := Lib.hid (by rw [hw0, hxr, ← hsb]; exact Blk.new wb _ _)
  have HX : Hid (w.heap.size ≤ xe ∧ xe < xm ∧ xm < xr ∧ xr < w0.heap.size) := Lib.hid (by rw [hw0, World.size_alloc]; omega)
  go_wp2_with fail
  rw [← hwa, ← hwb, ← hw0, ← hxe, ← hxm, ← hxr]
  clear hwa hwb hw0 hxe hxm hxr hsa hsb hba hbb wa wb
  refine (HW.out w0).mono ?_
  rintro e w1 ⟨rfl, hb⟩
  have HB1 := Lib.hid (HB0.out.trans (hb.mono HB0.out.size))
  have HXxe_1 := Lib.hid (HXxe_0.out.below hb HXxe_0.out.lt)
  have HXxm_1 := Lib.hid (HXxm_0.out.below hb HXxm_0.out.lt)
  have HXxr_1 := Lib.hid (HXxr_0.out.below hb HXxr_0.out.lt)
  clear hb
  have c1_xe0 : w1.cell? ⟨xe, 0, none⟩ = some (.int .i64 p) := HXxe_1.out.cell 0
  have c1_xe1 : w1.cell? ⟨xe, 1, none⟩ = some (.int .i64 b) := HXxe_1.out.cell 1
  have c1_xe2 : w1.cell? ⟨xe, 2, none⟩ = some (.slice A n c) := HXxe_1.out.cell 2
  have c1_xe3 : w1.cell? ⟨xe, 3, none⟩ = some (.int .i64 s) := HXxe_1.out.cell 3
  have l1_xe : xe < w1.heap.size := HXxe_1.out.lt
  have c1_xm0 : w1.cell? ⟨xm, 0, none⟩ = some (.int .i64 mk) := HXxm_1.out.cell 0
  have c1_xm1 : w1.cell? ⟨xm, 1, none⟩ = some (.int .i64 mo) := HXxm_1.out.cell 1
  have c1_xm2 : w1.cell? ⟨xm, 2, none⟩ = some (.int .i64 mn) := HXxm_1.out.cell 2
  have c1_xm3 : w1.cell? ⟨xm, 3, none⟩ = some (.int .i64 mu) := HXxm_1.out.cell 3
  have c1_xm4 : w1.cell? ⟨xm, 4, none⟩ = some (.int .i64 mv) := HXxm_1.out.cell 4
  have l1_xm : xm < w1.heap.size := HXxm_1.out.lt
  have c1_xr0 : w1.cell? ⟨xr, 0, none⟩ = some (.bool false) := HXxr_1.out.cell 0
  have l1_xr : xr < w1.heap.size := HXxr_1.out.lt
  have HA0 := Lib.hid HRe.out
  obtain ⟨xq, hxq⟩ : ∃ x, x = w1.heap.size := ⟨_, rfl⟩
  obtain ⟨w2, hw2⟩ : ∃ v, v = w1.alloc (.cells #[.int .i64 p, .int .i64 b, .slice none 0 0, .int .i64 s] 24) := ⟨_, rfl⟩
  have hb : Below w1.heap.size w1 w2 := hw2 ▸ (Below.refl _ _).alloc (Nat.le_refl _) _
  have HB2 := Lib.hid (HB1.out.trans (hb.mono HB1.out.size))
  have HXxe_2 := Lib.hid (HXxe_1.out.below hb HXxe_1.out.lt)
  have HXxm_2 := Lib.hid (HXxm_1.out.below hb HXxm_1.out.lt)
  have HXxr_2 := Lib.hid (HXxr_1.out.below hb HXxr_1.out.lt)
  have HXxq_2 : Hid (Blk w2 xq 24 #[.int .i64 p, .int .i64 b, .slice none 0 0, .int .i64 s]) := Lib.hid (by rw [hw2, hxq]; exact Blk.new w1 _ _)
  clear hb
  have HNq : Hid (xe ≠ xq ∧ xm ≠ xq ∧ xr ≠ xq) := Lib.hid (by have := HX.out; have := HXxr_1.out.lt; omega)
  have HNl : Hid (w.heap.size ≤ xq) := Lib.hid (by have := HB1.out.size; omega)
  have HSQ : Hid (w2.heap.size = xq + 1) := Lib.hid (by rw [hw2, World.size_alloc, hxq])
  go_wp2_with (first
    | (at_builtin; rw [← hw2, ← hxq];  (refine appME w2 rfl (.tmp 36) (.tmp 38) rfl w2.heap.size (by rw [HSQ.out]; rfl) w2.heap.size A c o n rfl ((HRe.out.below HB2.out).more HB2.out.size) (Nat.le_refl _) (by omega) (Nat.le_refl _) ?_; intro v3 w3 ho hb; obtain ⟨A3, n3, c3, rfl⟩ := ownG_slice ho; have HO3 := Lib.hid ho; have HB23 := Lib.hid hb; clear ho hb c1_xe0 c1_xe1 c1_xe2 c1_xe3 l1_xe c1_xm0 c1_xm1 c1_xm2 c1_xm3 c1_xm4 l1_xm c1_xr0 l1_xr hw2 hxq))
    | (at_builtin;  (obtain ⟨w4, hw4⟩ : ∃ v, v = w3.alloc (.cells #[.int .i64 71, .int .i64 0, .int .i64 0, .int .i64 0, .int .i64 0, .int .i64 72, .int .i64 0, .int .i64 0, .int .i64 0, .int .i64 0] 26) := ⟨_, rfl⟩; have hb34 : Below w3.heap.size w3 w4 := hw4 ▸ (Below.refl _ _).alloc (Nat.le_refl _) _; have hrm : Reads w4 (w3.heap.size + 1) 5 (some ⟨w3.heap.size, 0, none⟩) 2 (mgs [m71, m72]) := (by rw [hw4]; exact reads_newM w3 _ _ 2 rfl); rw [← hw4]; refine appM w4 rfl (.tmp 39) (.tmp 42) rfl w2.heap.size (.slice A3 n3 c3) o rfl (HO3.out.below hb34) (w3.heap.size + 1) _ 2 [m71, m72] 2 rfl hrm (by have := HL.out; omega) (by have := HB23.out.size; have := hb34.size; omega) ?_; intro v5 w5 ho hb5 hat hgr; clear hw4 hrm hat hgr; obtain ⟨A5, n5, c5, rfl⟩ := ownG_slice ho; have hn5 : n5 = n + 2 := (by have h1 := OwnG.mlen ho; have := HL.out; rw [List.length_append] at h1; simp at h1; omega); subst hn5; obtain ⟨gm, rfl, hg1, hg2, _⟩ := OwnG.spot (i := 0) ho (by omega); have hc5 := OwnG.le ho; have HO5 := Lib.hid ho; have hb : Below w2.heap.size w2 w5 := HB23.out.trans ((hb34.mono HB23.out.size).trans hb5); have HB5 := Lib.hid (HB2.out.trans (hb.mono HB2.out.size)); have HXxe_5 := Lib.hid (HXxe_2.out.below hb HXxe_2.out.lt); have HXxm_5 := Lib.hid (HXxm_2.out.below hb HXxm_2.out.lt); have HXxr_5 := Lib.hid (HXxr_2.out.below hb HXxr_2.out.lt); have HXxq_5 := Lib.hid (HXxq_2.out.below hb HXxq_2.out.lt); clear hb; have c5_xe0 : w5.cell? ⟨xe, 0, none⟩ = some (.int .i64 p) := HXxe_5.out.cell 0; have c5_xe1 : w5.cell? ⟨xe, 1, none⟩ = some (.int .i64 b) := HXxe_5.out.cell 1; have c5_xe2 : w5.cell? ⟨xe, 2, none⟩ = some (.slice A n c) := HXxe_5.out.cell 2; have c5_xe3 : w5.cell? ⟨xe, 3, none⟩ = some (.int .i64 s) := HXxe_5.out.cell 3; have l5_xe : xe < w5.heap.size := HXxe_5.out.lt; have c5_xm0 : w5.cell? ⟨xm, 0, none⟩ = some (.int .i64 mk) := HXxm_5.out.cell 0; have c5_xm1 : w5.cell? ⟨xm, 1, none⟩ = some (.int .i64 mo) := HXxm_5.out.cell 1; have c5_xm2 : w5.cell? ⟨xm, 2, none⟩ = some (.int .i64 mn) := HXxm_5.out.cell 2; have c5_xm3 : w5.cell? ⟨xm, 3, none⟩ = some (.int .i64 mu) := HXxm_5.out.cell 3; have c5_xm4 : w5.cell? ⟨xm, 4, none⟩ = some (.int .i64 mv) := HXxm_5.out.cell 4; have l5_xm : xm < w5.heap.size := HXxm_5.out.lt; have c5_xq0 : w5.cell? ⟨xq, 0, none⟩ = some (.int .i64 p) := HXxq_5.out.cell 0; have c5_xq1 : w5.cell? ⟨xq, 1, none⟩ = some (.int .i64 b) := HXxq_5.out.cell 1; have c5_xq2 : w5.cell? ⟨xq, 2, none⟩ = some (.slice none 0 0) := HXxq_5.out.cell 2; have c5_xq3 : w5.cell? ⟨xq, 3, none⟩ = some (.int .i64 s) := HXxq_5.out.cell 3; have l5_xq : xq < w5.heap.size := HXxq_5.out.lt; obtain ⟨n1, n2, n3⟩ := HNq.out; have f5 := HXxq_5.out.frozen 2; have z1 : ¬ (c5 = 0) := (by omega); have z2 : n ≤ c5 := (by omega); have z3 : (n : Int) ≤ (c5 : Int) := (by omega); have HGm := Lib.hid (And.intro hg1 hg2); clear ho hb34 hb5 hg1 hg2)))
  obtain ⟨w6, hw6⟩ : ∃ v, v = w5.setCell ⟨xq, 2, none⟩ (.slice (some ⟨gm, 0, none⟩) n c5) := ⟨_, rfl⟩
  have hO6 : OnlyS (fun b => b = xq) w5 w6 := by rw [hw6]; exact (OnlyS.refl (fun b => b = xq) w5).setAt (x := xq) rfl 2 _
  have HXxe_6 := Lib.hid (hO6.blk HXxe_5.out n1)
  have HXxm_6 := Lib.hid (hO6.blk HXxm_5.out n2)
  have HXxr_6 := Lib.hid (hO6.blk HXxr_5.out n3)
  have HXxq_6 : Hid (Blk w6 xq 24 #[.int .i64 p, .int .i64 b, .slice (some ⟨gm, 0, none⟩) n c5, .int .i64 s]) := Lib.hid (by rw [hw6]; have := HXxq_5.out.set_ 2 (.slice (some ⟨gm, 0, none⟩) n c5); simpa using this)
  have HB6 : Hid (Below w.heap.size w w6) := Lib.hid (hO6.bel HB5.out (fun b hb => by have := HNl.out; omega) HB5.out.size)
  have HSz : Hid (w5.heap.size ≤ w6.heap.size) := Lib.hid hO6.size
  have hgq : gm ≠ xq := by have := HGm.out.1; have := HSQ.out; omega
  have HO6 := Lib.hid (OwnG.onlyS HO5.out hO6 (fun g e h => by simp [Value.ownBlock] at e; omega))
  rw [← hw6]
  clear hw6 hO6 n1 n2 n3 f5 z1 z2 z3 c5_xe0 c5_xe1 c5_xe2 c5_xe3 l5_xe c5_xm0 c5_xm1 c5_xm2 c5_xm3 c5_xm4 l5_xm c5_xq0 c5_xq1 c5_xq2 c5_xq3 l5_xq
  have hrm := readsG_take (ownG_reads HO6.out) HL.out
  have HIn : Hid (InH w6 ⟨p, b, o, s⟩ (some ⟨gm, 0, none⟩) n c5) := Lib.hid ⟨hrm, by omega, by omega, HI.out⟩
  clear hrm
  have HA6_6 : Hid (Below w6.heap.size w6 w6) := Lib.hid (Below.refl _ _)
  refine (HPu.out _ _ _ w6 (HIn.out.next HA6_6.out)).mono ?_
  rintro e w7 ⟨v, rfl, ho, hb⟩
  obtain ⟨Aa, na, ca, rfl⟩ := ownG_slice ho
  have HB7 := Lib.hid (HB6.out.trans (hb.mono HB6.out.size))
  have HXxe_7 := Lib.hid (HXxe_6.out.below hb HXxe_6.out.lt)
  have HXxm_7 := Lib.hid (HXxm_6.out.below hb HXxm_6.out.lt)
  have HXxr_7 := Lib.hid (HXxr_6.out.below hb HXxr_6.out.lt)
  have HXxq_7 := Lib.hid (HXxq_6.out.below hb HXxq_6.out.lt)
  have HA6_7 := Lib.hid (HA6_6.out.trans (hb.mono HA6_6.out.size))
  have HOa_7 := Lib.hid ho
  clear hb ho
  have HA7_7 : Hid (Below w7.heap.size w7 w7) := Lib.hid (Below.refl _ _)
  have c7_xe0 : w7.cell? ⟨xe, 0, none⟩ = some (.int .i64 p) := HXxe_7.out.cell 0
  have c7_xe1 : w7.cell? ⟨xe, 1, none⟩ = some (.int .i64 b) := HXxe_7.out.cell 1
  have c7_xe2 : w7.cell? ⟨xe, 2, none⟩ = some (.slice A n c) := HXxe_7.out.cell 2
  have c7_xe3 : w7.cell? ⟨xe, 3, none⟩ = some (.int .i64 s) := HXxe_7.out.cell 3
  have l7_xe : xe < w7.heap.size := HXxe_7.out.lt
  have c7_xm0 : w7.cell? ⟨xm, 0, none⟩ = some (.int .i64 mk) := HXxm_7.out.cell 0
  have c7_xm1 : w7.cell? ⟨xm, 1, none⟩ = some (.int .i64 mo) := HXxm_7.out.cell 1
  have c7_xm2 : w7.cell? ⟨xm, 2, none⟩ = some (.int .i64 mn) := HXxm_7.out.cell 2
  have c7_xm3 : w7.cell? ⟨xm, 3, none⟩ = some (.int .i64 mu) := HXxm_7.out.cell 3
  have c7_xm4 : w7.cell? ⟨xm, 4, none⟩ = some (.int .i64 mv) := HXxm_7.out.cell 4
  have l7_xm : xm < w7.heap.size := HXxm_7.out.lt
  have c7_xr0 : w7.cell? ⟨xr, 0, none⟩ = some (.bool false) := HXxr_7.out.cell 0
  have l7_xr : xr < w7.heap.size := HXxr_7.out.lt
  have c7_xq0 : w7.cell? ⟨xq, 0, none⟩ = some (.int .i64 p) := HXxq_7.out.cell 0
  have c7_xq1 : w7.cell? ⟨xq, 1, none⟩ = some (.int .i64 b) := HXxq_7.out.cell 1
  have c7_xq2 : w7.cell? ⟨xq, 2, none⟩ = some (.slice (some ⟨gm, 0, none⟩) n c5) := HXxq_7.out.cell 2
  have c7_xq3 : w7.cell? ⟨xq, 3, none⟩ = some (.int .i64 s) := HXxq_7.out.cell 3
  have l7_xq : xq < w7.heap.size := HXxq_7.out.lt
  obtain ⟨xa, hxa⟩ : ∃ x, x = w7.heap.size := ⟨_, rfl⟩
  obtain ⟨w8, hw8⟩ : ∃ v, v = w7.alloc (.cells #[.int .i64 ap, .int .i64 ab, .slice Aa na ca, .int .i64 as_] 24) := ⟨_, rfl⟩
  have hb : Below w7.heap.size w7 w8 := hw8 ▸ (Below.refl _ _).alloc (Nat.le_refl _) _
  have HB8 := Lib.hid (HB7.out.trans (hb.mono HB7.out.size))
  have HXxe_8 := Lib.hid (HXxe_7.out.below hb HXxe_7.out.lt)
  have HXxm_8 := Lib.hid (HXxm_7.out.below hb HXxm_7.out.lt)
  have HXxr_8 := Lib.hid (HXxr_7.out.below hb HXxr_7.out.lt)
  have HXxq_8 := Lib.hid (HXxq_7.out.below hb HXxq_7.out.lt)
  have HOa_8 := Lib.hid (OwnG.below HOa_7.out hb)
  have HA6_8 := Lib.hid (HA6_7.out.trans (hb.mono HA6_7.out.size))
  have HA7_8 := Lib.hid (HA7_7.out.trans (hb.mono HA7_7.out.size))
  have HXxa_8 : Hid (Blk w8 xa 24 #[.int .i64 ap, .int .i64 ab, .slice Aa na ca, .int .i64 as_]) := Lib.hid (by rw [hw8, hxa]; exact Blk.new w7 _ _)
  clear hb
  have HZxa := Lib.hid hxa
  have HA8_8 : Hid (Below w8.heap.size w8 w8) := Lib.hid (Below.refl _ _)
  go_wp2_with fail
  rw [← hw8, ← hxa]
  clear hw8 hxa
  refine (HHd.out _ _ _ w8 (HIn.out.next HA6_8.out)).mono ?_
  rintro e w9 ⟨v, rfl, ho, hb⟩
  obtain ⟨Ab, nb, cb, rfl⟩ := ownG_slice ho
  clear c7_xe0 c7_xe1 c7_xe2 c7_xe3 l7_xe c7_xm0 c7_xm1 c7_xm2 c7_xm3 c7_xm4 l7_xm c7_xr0 l7_xr c7_xq0 c7_xq1 c7_xq2 c7_xq3 l7_xq
  have HB9 := Lib.hid (HB8.out.trans (hb.mono HB8.out.size))
  have HXxe_9 := Lib.hid (HXxe_8.out.below hb HXxe_8.out.lt)
  have HXxm_9 := Lib.hid (HXxm_8.out.below hb HXxm_8.out.lt)
  have HXxr_9 := Lib.hid (HXxr_8.out.below hb HXxr_8.out.lt)
  have HXxq_9 := Lib.hid (HXxq_8.out.below hb HXxq_8.out.lt)
  have HXxa_9 := Lib.hid (HXxa_8.out.below hb HXxa_8.out.lt)
  have HOa_9 := Lib.hid (OwnG.below HOa_8.out hb)
  have HA6_9 := Lib.hid (HA6_8.out.trans (hb.mono HA6_8.out.size))
  have HA7_9 := Lib.hid (HA7_8.out.trans (hb.mono HA7_8.out.size))
  have HA8_9 := Lib.hid (HA8_8.out.trans (hb.mono HA8_8.out.size))
  have HOb_9 := Lib.hid ho
  clear hb ho
  have HA9_9 : Hid (Below w9.heap.size w9 w9) := Lib.hid (Below.refl _ _)
  have c9_xe0 : w9.cell? ⟨xe, 0, none⟩ = some (.int .i64 p) := HXxe_9.out.cell 0
  have c9_xe1 : w9.cell? ⟨xe, 1, none⟩ = some (.int .i64 b) := HXxe_9.out.cell 1
  have c9_xe2 : w9.cell? ⟨xe, 2, none⟩ = some (.slice A n c) := HXxe_9.out.cell 2
  have c9_xe3 : w9.cell? ⟨xe, 3, none⟩ = some (.int .i64 s) := HXxe_9.out.cell 3
  have l9_xe : xe < w9.heap.size := HXxe_9.out.lt
  have c9_xm0 : w9.cell? ⟨xm, 0, none⟩ = some (.int .i64 mk) := HXxm_9.out.cell 0
  have c9_xm1 : w9.cell? ⟨xm, 1, none⟩ = some (.int .i64 mo) := HXxm_9.out.cell 1
  have c9_xm2 : w9.cell? ⟨xm, 2, none⟩ = some (.int .i64 mn) := HXxm_9.out.cell 2
  have c9_xm3 : w9.cell? ⟨xm, 3, none⟩ = some (.int .i64 mu) := HXxm_9.out.cell 3
  have c9_xm4 : w9.cell? ⟨xm, 4, none⟩ = some (.int .i64 mv) := HXxm_9.out.cell 4
  have l9_xm : xm < w9.heap.size := HXxm_9.out.lt
  have c9_xr0 : w9.cell? ⟨xr, 0, none⟩ = some (.bool false) := HXxr_9.out.cell 0
  have l9_xr : xr < w9.heap.size := HXxr_9.out.lt
  have c9_xq0 : w9.cell? ⟨xq, 0, none⟩ = some (.int .i64 p) := HXxq_9.out.cell 0
  have c9_xq1 : w9.cell? ⟨xq, 1, none⟩ = some (.int .i64 b) := HXxq_9.out.cell 1
  have c9_xq2 : w9.cell? ⟨xq, 2, none⟩ = some (.slice (some ⟨gm, 0, none⟩) n c5) := HXxq_9.out.cell 2
  have c9_xq3 : w9.cell? ⟨xq, 3, none⟩ = some (.int .i64 s) := HXxq_9.out.cell 3
  have l9_xq : xq < w9.heap.size := HXxq_9.out.lt
  have c9_xa0 : w9.cell? ⟨xa, 0, none⟩ = some (.int .i64 ap) := HXxa_9.out.cell 0
  have c9_xa1 : w9.cell? ⟨xa, 1, none⟩ = some (.int .i64 ab) := HXxa_9.out.cell 1
  have c9_xa2 : w9.cell? ⟨xa, 2, none⟩ = some (.slice Aa na ca) := HXxa_9.out.cell 2
  have c9_xa3 : w9.cell? ⟨xa, 3, none⟩ = some (.int .i64 as_) := HXxa_9.out.cell 3
  have l9_xa : xa < w9.heap.size := HXxa_9.out.lt
  obtain ⟨xb, hxb⟩ : ∃ x, x = w9.heap.size := ⟨_, rfl⟩
  obtain ⟨w10, hw10⟩ : ∃ v, v = w9.alloc (.cells #[.int .i64 bp, .int .i64 bb, .slice Ab nb cb, .int .i64 bs] 24) := ⟨_, rfl⟩
  have hb : Below w9.heap.size w9 w10 := hw10 ▸ (Below.refl _ _).alloc (Nat.le_refl _) _
  have HB10 := Lib.hid (HB9.out.trans (hb.mono HB9.out.size))
  have HXxe_10 := Lib.hid (HXxe_9.out.below hb HXxe_9.out.lt)
  have HXxm_10 := Lib.hid (HXxm_9.out.below hb HXxm_9.out.lt)
  have HXxr_10 := Lib.hid (HXxr_9.out.below hb HXxr_9.out.lt)
  have HXxq_10 := Lib.hid (HXxq_9.out.below hb HXxq_9.out.lt)
  have HXxa_10 := Lib.hid (HXxa_9.out.below hb HXxa_9.out.lt)
  have HOa_10 := Lib.hid (OwnG.below HOa_9.out hb)
  have HOb_10 := Lib.hid (OwnG.below HOb_9.out hb)
  have HA6_10 := Lib.hid (HA6_9.out.trans (hb.mono HA6_9.out.size))
  have HA7_10 := Lib.hid (HA7_9.out.trans (hb.mono HA7_9.out.size))
  have HA8_10 := Lib.hid (HA8_9.out.trans (hb.mono HA8_9.out.size))
  have HA9_10 := Lib.hid (HA9_9.out.trans (hb.mono HA9_9.out.size))
  have HXxb_10 : Hid (Blk w10 xb 24 #[.int .i64 bp, .int .i64 bb, .slice Ab nb cb, .int .i64 bs]) := Lib.hid (by rw [hw10, hxb]; exact Blk.new w9 _ _)
  clear hb
  have HZxb := Lib.hid hxb
  have HA10_10 : Hid (Below w10.heap.size w10 w10) := Lib.hid (Below.refl _ _)
  go_wp2_with fail
  rw [← hw10, ← hxb]
  clear hw10 hxb
  refine (HTk.out _ _ _ w10 (HIn.out.next HA6_10.out)).mono ?_
  rintro e w11 ⟨v, rfl, ho, hb⟩
  obtain ⟨At, nt, ct, rfl⟩ := ownG_slice ho
  clear c9_xe0 c9_xe1 c9_xe2 c9_xe3 l9_xe c9_xm0 c9_xm1 c9_xm2 c9_xm3 c9_xm4 l9_xm c9_xr0 l9_xr c9_xq0 c9_xq1 c9_xq2 c9_xq3 l9_xq c9_xa0 c9_xa1 c9_xa2 c9_xa3 l9_xa
  have HB11 := Lib.hid (HB10.out.trans (hb.mono HB10.out.size))
  have HXxe_11 := Lib.hid (HXxe_10.out.below hb HXxe_10.out.lt)
  have HXxm_11 := Lib.hid (HXxm_10.out.below hb HXxm_10.out.lt)
  have HXxr_11 := Lib.hid (HXxr_10.out.below hb HXxr_10.out.lt)
  have HXxq_11 := Lib.hid (HXxq_10.out.below hb HXxq_10.out.lt)
  have HXxa_11 := Lib.hid (HXxa_10.out.below hb HXxa_10.out.lt)
  have HXxb_11 := Lib.hid (HXxb_10.out.below hb HXxb_10.out.lt)
  have HOa_11 := Lib.hid (OwnG.below HOa_10.out hb)
  have HOb_11 := Lib.hid (OwnG.below HOb_10.out hb)
  have HA6_11 := Lib.hid (HA6_10.out.trans (hb.mono HA6_10.out.size))
  have HA7_11 := Lib.hid (HA7_10.out.trans (hb.mono HA7_10.out.size))
  have HA8_11 := Lib.hid (HA8_10.out.trans (hb.mono HA8_10.out.size))
  have HA9_11 := Lib.hid (HA9_10.out.trans (hb.mono HA9_10.out.size))
  have HA10_11 := Lib.hid (HA10_10.out.trans (hb.mono HA10_10.out.size))
  have HOt_11 := Lib.hid ho
  clear hb ho
  have HA11_11 : Hid (Below w11.heap.size w11 w11) := Lib.hid (Below.refl _ _)
  have c11_xe0 : w11.cell? ⟨xe, 0, none⟩ = some (.int .i64 p) := HXxe_11.out.cell 0
  have c11_xe1 : w11.cell? ⟨xe, 1, none⟩ = some (.int .i64 b) := HXxe_11.out.cell 1
  have c11_xe2 : w11.cell? ⟨xe, 2, none⟩ = some (.slice A n c) := HXxe_11.out.cell 2
  have c11_xe3 : w11.cell? ⟨xe, 3, none⟩ = some (.int .i64 s) := HXxe_11.out.cell 3
  have l11_xe : xe < w11.heap.size := HXxe_11.out.lt
  have c11_xm0 : w11.cell? ⟨xm, 0, none⟩ = some (.int .i64 mk) := HXxm_11.out.cell 0
  have c11_xm1 : w11.cell? ⟨xm, 1, none⟩ = some (.int .i64 mo) := HXxm_11.out.cell 1
  have c11_xm2 : w11.cell? ⟨xm, 2, none⟩ = some (.int .i64 mn) := HXxm_11.out.cell 2
  have c11_xm3 : w11.cell? ⟨xm, 3, none⟩ = some (.int .i64 mu) := HXxm_11.out.cell 3
  have c11_xm4 : w11.cell? ⟨xm, 4, none⟩ = some (.int .i64 mv) := HXxm_11.out.cell 4
  have l11_xm : xm < w11.heap.size := HXxm_11.out.lt
  have c11_xr0 : w11.cell? ⟨xr, 0, none⟩ = some (.bool false) := HXxr_11.out.cell 0
  have l11_xr : xr < w11.heap.size := HXxr_11.out.lt
  have c11_xq0 : w11.cell? ⟨xq, 0, none⟩ = some (.int .i64 p) := HXxq_11.out.cell 0
  have c11_xq1 : w11.cell? ⟨xq, 1, none⟩ = some (.int .i64 b) := HXxq_11.out.cell 1
  have c11_xq2 : w11.cell? ⟨xq, 2, none⟩ = some (.slice (some ⟨gm, 0, none⟩) n c5) := HXxq_11.out.cell 2
  have c11_xq3 : w11.cell? ⟨xq, 3, none⟩ = some (.int .i64 s) := HXxq_11.out.cell 3
  have l11_xq : xq < w11.heap.size := HXxq_11.out.lt
  have c11_xa0 : w11.cell? ⟨xa, 0, none⟩ = some (.int .i64 ap) := HXxa_11.out.cell 0
  have c11_xa1 : w11.cell? ⟨xa, 1, none⟩ = some (.int .i64 ab) := HXxa_11.out.cell 1
  have c11_xa2 : w11.cell? ⟨xa, 2, none⟩ = some (.slice Aa na ca) := HXxa_11.out.cell 2
  have c11_xa3 : w11.cell? ⟨xa, 3, none⟩ = some (.int .i64 as_) := HXxa_11.out.cell 3
  have l11_xa : xa < w11.heap.size := HXxa_11.out.lt
  have c11_xb0 : w11.cell? ⟨xb, 0, none⟩ = some (.int .i64 bp) := HXxb_11.out.cell 0
  have c11_xb1 : w11.cell? ⟨xb, 1, none⟩ = some (.int .i64 bb) := HXxb_11.out.cell 1
  have c11_xb2 : w11.cell? ⟨xb, 2, none⟩ = some (.slice Ab nb cb) := HXxb_11.out.cell 2
  have c11_xb3 : w11.cell? ⟨xb, 3, none⟩ = some (.int .i64 bs) := HXxb_11.out.cell 3
  have l11_xb : xb < w11.heap.size := HXxb_11.out.lt
  obtain ⟨xt, hxt⟩ : ∃ x, x = w11.heap.size := ⟨_, rfl⟩
  obtain ⟨w12, hw12⟩ : ∃ v, v = w11.alloc (.cells #[.int .i64 tp, .int .i64 tb, .slice At nt ct, .int .i64 ts] 24) := ⟨_, rfl⟩
  have hb : Below w11.heap.size w11 w12 := hw12 ▸ (Below.refl _ _).alloc (Nat.le_refl _) _
  have HB12 := Lib.hid (HB11.out.trans (hb.mono HB11.out.size))
  have HXxe_12 := Lib.hid (HXxe_11.out.below hb HXxe_11.out.lt)
  have HXxm_12 := Lib.hid (HXxm_11.out.below hb HXxm_11.out.lt)
  have HXxr_12 := Lib.hid (HXxr_11.out.below hb HXxr_11.out.lt)
  have HXxq_12 := Lib.hid (HXxq_11.out.below hb HXxq_11.out.lt)
  have HXxa_12 := Lib.hid (HXxa_11.out.below hb HXxa_11.out.lt)
  have HXxb_12 := Lib.hid (HXxb_11.out.below hb HXxb_11.out.lt)
  have HOa_12 := Lib.hid (OwnG.below HOa_11.out hb)
  have HOb_12 := Lib.hid (OwnG.below HOb_11.out hb)
  have HOt_12 := Lib.hid (OwnG.below HOt_11.out hb)
  have HA6_12 := Lib.hid (HA6_11.out.trans (hb.mono HA6_11.out.size))
  have HA7_12 := Lib.hid (HA7_11.out.trans (hb.mono HA7_11.out.size))
  have HA8_12 := Lib.hid (HA8_11.out.trans (hb.mono HA8_11.out.size))
  have HA9_12 := Lib.hid (HA9_11.out.trans (hb.mono HA9_11.out.size))
  have HA10_12 := Lib.hid (HA10_11.out.trans (hb.mono HA10_11.out.size))
  have HA11_12 := Lib.hid (HA11_11.out.trans (hb.mono HA11_11.out.size))
  have HXxt_12 : Hid (Blk w12 xt 24 #[.int .i64 tp, .int .i64 tb, .slice At nt ct, .int .i64 ts]) := Lib.hid (by rw [hw12, hxt]; exact Blk.new w11 _ _)
  clear hb
  have HZxt := Lib.hid hxt
  have HA12_12 : Hid (Below w12.heap.size w12 w12) := Lib.hid (Below.refl _ _)
  go_wp2_with fail
  rw [← hw12, ← hxt]
  clear hw12 hxt
  refine (HPu.out _ _ _ w12 (HIn.out.next HA6_12.out)).mono ?_
  rintro e w13 ⟨v, rfl, ho, hb⟩
  obtain ⟨Ad, nd, cd, rfl⟩ := ownG_slice ho
  clear c11_xe0 c11_xe1 c11_xe2 c11_xe3 l11_xe c11_xm0 c11_xm1 c11_xm2 c11_xm3 c11_xm4 l11_xm c11_xr0 l11_xr c11_xq0 c11_xq1 c11_xq2 c11_xq3 l11_xq c11_xa0 c11_xa1 c11_xa2 c11_xa3 l11_xa c11_xb0 c11_xb1 c11_xb2 c11_xb3 l11_xb
  have HB13 := Lib.hid (HB12.out.trans (hb.mono HB12.out.size))
  have HXxe_13 := Lib.hid (HXxe_12.out.below hb HXxe_12.out.lt)
  have HXxm_13 := Lib.hid (HXxm_12.out.below hb HXxm_12.out.lt)
  have HXxr_13 := Lib.hid (HXxr_12.out.below hb HXxr_12.out.lt)
  have HXxq_13 := Lib.hid (HXxq_12.out.below hb HXxq_12.out.lt)
  have HXxa_13 := Lib.hid (HXxa_12.out.below hb HXxa_12.out.lt)
  have HXxb_13 := Lib.hid (HXxb_12.out.below hb HXxb_12.out.lt)
  have HXxt_13 := Lib.hid (HXxt_12.out.below hb HXxt_12.out.lt)
  have HOa_13 := Lib.hid (OwnG.below HOa_12.out hb)
  have HOb_13 := Lib.hid (OwnG.below HOb_12.out hb)
  have HOt_13 := Lib.hid (OwnG.below HOt_12.out hb)
  have HA6_13 := Lib.hid (HA6_12.out.trans (hb.mono HA6_12.out.size))
  have HA7_13 := Lib.hid (HA7_12.out.trans (hb.mono HA7_12.out.size))
  have HA8_13 := Lib.hid (HA8_12.out.trans (hb.mono HA8_12.out.size))
  have HA9_13 := Lib.hid (HA9_12.out.trans (hb.mono HA9_12.out.size))
  have HA10_13 := Lib.hid (HA10_12.out.trans (hb.mono HA10_12.out.size))
  have HA11_13 := Lib.hid (HA11_12.out.trans (hb.mono HA11_12.out.size))
  have HA12_13 := Lib.hid (HA12_12.out.trans (hb.mono HA12_12.out.size))
  have HOd_13 := Lib.hid ho
  clear hb ho
  have HA13_13 : Hid (Below w13.heap.size w13 w13) := Lib.hid (Below.refl _ _)
  have c13_xe0 : w13.cell? ⟨xe, 0, none⟩ = some (.int .i64 p) := HXxe_13.out.cell 0
  have c13_xe1 : w13.cell? ⟨xe, 1, none⟩ = some (.int .i64 b) := HXxe_13.out.cell 1
  have c13_xe2 : w13.cell? ⟨xe, 2, none⟩ = some (.slice A n c) := HXxe_13.out.cell 2
  have c13_xe3 : w13.cell? ⟨xe, 3, none⟩ = some (.int .i64 s) := HXxe_13.out.cell 3
  have l13_xe : xe < w13.heap.size := HXxe_13.out.lt
  have c13_xm0 : w13.cell? ⟨xm, 0, none⟩ = some (.int .i64 mk) := HXxm_13.out.cell 0
  have c13_xm1 : w13.cell? ⟨xm, 1, none⟩ = some (.int .i64 mo) := HXxm_13.out.cell 1
  have c13_xm2 : w13.cell? ⟨xm, 2, none⟩ = some (.int .i64 mn) := HXxm_13.out.cell 2
  have c13_xm3 : w13.cell? ⟨xm, 3, none⟩ = some (.int .i64 mu) := HXxm_13.out.cell 3
  have c13_xm4 : w13.cell? ⟨xm, 4, none⟩ = some (.int .i64 mv) := HXxm_13.out.cell 4
  have l13_xm : xm < w13.heap.size := HXxm_13.out.lt
  have c13_xr0 : w13.cell? ⟨xr, 0, none⟩ = some (.bool false) := HXxr_13.out.cell 0
  have l13_xr : xr < w13.heap.size := HXxr_13.out.lt
  have c13_xq0 : w13.cell? ⟨xq, 0, none⟩ = some (.int .i64 p) := HXxq_13.out.cell 0
  have c13_xq1 : w13.cell? ⟨xq, 1, none⟩ = some (.int .i64 b) := HXxq_13.out.cell 1
  have c13_xq2 : w13.cell? ⟨xq, 2, none⟩ = some (.slice (some ⟨gm, 0, none⟩) n c5) := HXxq_13.out.cell 2
  have c13_xq3 : w13.cell? ⟨xq, 3, none⟩ = some (.int .i64 s) := HXxq_13.out.cell 3
  have l13_xq : xq < w13.heap.size := HXxq_13.out.lt
  have c13_xa0 : w13.cell? ⟨xa, 0, none⟩ = some (.int .i64 ap) := HXxa_13.out.cell 0
  have c13_xa1 : w13.cell? ⟨xa, 1, none⟩ = some (.int .i64 ab) := HXxa_13.out.cell 1
  have c13_xa2 : w13.cell? ⟨xa, 2, none⟩ = some (.slice Aa na ca) := HXxa_13.out.cell 2
  have c13_xa3 : w13.cell? ⟨xa, 3, none⟩ = some (.int .i64 as_) := HXxa_13.out.cell 3
  have l13_xa : xa < w13.heap.size := HXxa_13.out.lt
  have c13_xb0 : w13.cell? ⟨xb, 0, none⟩ = some (.int .i64 bp) := HXxb_13.out.cell 0
  have c13_xb1 : w13.cell? ⟨xb, 1, none⟩ = some (.int .i64 bb) := HXxb_13.out.cell 1
  have c13_xb2 : w13.cell? ⟨xb, 2, none⟩ = some (.slice Ab nb cb) := HXxb_13.out.cell 2
  have c13_xb3 : w13.cell? ⟨xb, 3, none⟩ = some (.int .i64 bs) := HXxb_13.out.cell 3
  have l13_xb : xb < w13.heap.size := HXxb_13.out.lt
  have c13_xt0 : w13.cell? ⟨xt, 0, none⟩ = some (.int .i64 tp) := HXxt_13.out.cell 0
  have c13_xt1 : w13.cell? ⟨xt, 1, none⟩ = some (.int .i64 tb) := HXxt_13.out.cell 1
  have c13_xt2 : w13.cell? ⟨xt, 2, none⟩ = some (.slice At nt ct) := HXxt_13.out.cell 2
  have c13_xt3 : w13.cell? ⟨xt, 3, none⟩ = some (.int .i64 ts) := HXxt_13.out.cell 3
  have l13_xt : xt < w13.heap.size := HXxt_13.out.lt
  obtain ⟨xd, hxd⟩ : ∃ x, x = w13.heap.size := ⟨_, rfl⟩
  obtain ⟨w14, hw14⟩ : ∃ v, v = w13.alloc (.cells #[.int .i64 ap, .int .i64 ab, .slice Ad nd cd, .int .i64 as_] 24) := ⟨_, rfl⟩
  have hb : Below w13.heap.size w13 w14 := hw14 ▸ (Below.refl _ _).alloc (Nat.le_refl _) _
  have HB14 := Lib.hid (HB13.out.trans (hb.mono HB13.out.size))
  have HXxe_14 := Lib.hid (HXxe_13.out.below hb HXxe_13.out.lt)
  have HXxm_14 := Lib.hid (HXxm_13.out.below hb HXxm_13.out.lt)
  have HXxr_14 := Lib.hid (HXxr_13.out.below hb HXxr_13.out.lt)
  have HXxq_14 := Lib.hid (HXxq_13.out.below hb HXxq_13.out.lt)
  have HXxa_14 := Lib.hid (HXxa_13.out.below hb HXxa_13.out.lt)
  have HXxb_14 := Lib.hid (HXxb_13.out.below hb HXxb_13.out.lt)
  have HXxt_14 := Lib.hid (HXxt_13.out.below hb HXxt_13.out.lt)
  have HOa_14 := Lib.hid (OwnG.below HOa_13.out hb)
  have HOb_14 := Lib.hid (OwnG.below HOb_13.out hb)
  have HOt_14 := Lib.hid (OwnG.below HOt_13.out hb)
  have HOd_14 := Lib.hid (OwnG.below HOd_13.out hb)
  have HA6_14 := Lib.hid (HA6_13.out.trans (hb.mono HA6_13.out.size))
  have HA7_14 := Lib.hid (HA7_13.out.trans (hb.mono HA7_13.out.size))
  have HA8_14 := Lib.hid (HA8_13.out.trans (hb.mono HA8_13.out.size))
  have HA9_14 := Lib.hid (HA9_13.out.trans (hb.mono HA9_13.out.size))
  have HA10_14 := Lib.hid (HA10_13.out.trans (hb.mono HA10_13.out.size))
  have HA11_14 := Lib.hid (HA11_13.out.trans (hb.mono HA11_13.out.size))
  have HA12_14 := Lib.hid (HA12_13.out.trans (hb.mono HA12_13.out.size))
  have HA13_14 := Lib.hid (HA13_13.out.trans (hb.mono HA13_13.out.size))
  have HXxd_14 : Hid (Blk w14 xd 24 #[.int .i64 ap, .int .i64 ab, .slice Ad nd cd, .int .i64 as_]) := Lib.hid (by rw [hw14, hxd]; exact Blk.new w13 _ _)
  clear hb
  have HZxd := Lib.hid hxd
  have HA14_14 : Hid (Below w14.heap.size w14 w14) := Lib.hid (Below.refl _ _)
  go_wp2_with fail
  rw [← hw14, ← hxd]
  clear hw14 hxd
  refine (HLf.out _ _ _ w14 (HIn.out.next HA6_14.out)).mono ?_
  rintro e w15 ⟨vq, R, rfl, hseq, hb, hR⟩
  clear c13_xe0 c13_xe1 c13_xe2 c13_xe3 l13_xe c13_xm0 c13_xm1 c13_xm2 c13_xm3 c13_xm4 l13_xm c13_xr0 l13_xr c13_xq0 c13_xq1 c13_xq2 c13_xq3 l13_xq c13_xa0 c13_xa1 c13_xa2 c13_xa3 l13_xa c13_xb0 c13_xb1 c13_xb2 c13_xb3 l13_xb c13_xt0 c13_xt1 c13_xt2 c13_xt3 l13_xt
  have HB15 := Lib.hid (HB14.out.trans (hb.mono HB14.out.size))
  have HXxe_15 := Lib.hid (HXxe_14.out.below hb HXxe_14.out.lt)
  have HXxm_15 := Lib.hid (HXxm_14.out.below hb HXxm_14.out.lt)
  have HXxr_15 := Lib.hid (HXxr_14.out.below hb HXxr_14.out.lt)
  have HXxq_15 := Lib.hid (HXxq_14.out.below hb HXxq_14.out.lt)
  have HXxa_15 := Lib.hid (HXxa_14.out.below hb HXxa_14.out.lt)
  have HXxb_15 := Lib.hid (HXxb_14.out.below hb HXxb_14.out.lt)
  have HXxt_15 := Lib.hid (HXxt_14.out.below hb HXxt_14.out.lt)
  have HXxd_15 := Lib.hid (HXxd_14.out.below hb HXxd_14.out.lt)
  have HOa_15 := Lib.hid (OwnG.below HOa_14.out hb)
  have HOb_15 := Lib.hid (OwnG.below HOb_14.out hb)
  have HOt_15 := Lib.hid (OwnG.below HOt_14.out hb)
  have HOd_15 := Lib.hid (OwnG.below HOd_14.out hb)
  have HA6_15 := Lib.hid (HA6_14.out.trans (hb.mono HA6_14.out.size))
  have HA7_15 := Lib.hid (HA7_14.out.trans (hb.mono HA7_14.out.size))
  have HA8_15 := Lib.hid (HA8_14.out.trans (hb.mono HA8_14.out.size))
  have HA9_15 := Lib.hid (HA9_14.out.trans (hb.mono HA9_14.out.size))
  have HA10_15 := Lib.hid (HA10_14.out.trans (hb.mono HA10_14.out.size))
  have HA11_15 := Lib.hid (HA11_14.out.trans (hb.mono HA11_14.out.size))
  have HA12_15 := Lib.hid (HA12_14.out.trans (hb.mono HA12_14.out.size))
  have HA13_15 := Lib.hid (HA13_14.out.trans (hb.mono HA13_14.out.size))
  have HA14_15 := Lib.hid (HA14_14.out.trans (hb.mono HA14_14.out.size))
  have SE15 := Lib.hid hseq
  have HRl : Hid (∀ g, R g → w14.heap.size ≤ g ∧ g < w15.heap.size) := Lib.hid (fun g h => ⟨hR g h, hseq.lt g h⟩)
  clear hseq hb hR
  obtain ⟨gf, pb, lb, hv, en, hq1, hq2⟩ := SE15.out
  clear hq1 hq2
  subst hv
  have EN := Lib.hid en
  clear en
  have HA15_15x : Hid (Below w15.heap.size w15 w15) := Lib.hid (Below.refl _ _)
  have HSm := Lib.hid (fun w' (hb : Below w15.heap.size w15 w') => sameH ⟨p, b, o, s⟩ ⟨p, b, o, s⟩ (some ⟨gm, 0, none⟩) A n c5 n c w' ((HIn.out.next (HA6_15.out.trans (hb.mono HA6_15.out.size))).rd) ((HRe.out.below (HB15.out.trans (hb.mono HB15.out.size))).more (HB15.out.trans (hb.mono HB15.out.size)).size) (by omega))
  rw [show decide ((⟨p, b, o, s⟩ : Hf) = ⟨p, b, o, s⟩) = true from decide_eq_true rfl] at HSm
  unfold Hf.val at HSm
  simp only at HSm
  have HA15_15 : Hid (Below w15.heap.size w15 w15) := Lib.hid (Below.refl _ _)
  have c15_xe0 : w15.cell? ⟨xe, 0, none⟩ = some (.int .i64 p) := HXxe_15.out.cell 0
  have c15_xe1 : w15.cell? ⟨xe, 1, none⟩ = some (.int .i64 b) := HXxe_15.out.cell 1
  have c15_xe2 : w15.cell? ⟨xe, 2, none⟩ = some (.slice A n c) := HXxe_15.out.cell 2
  have c15_xe3 : w15.cell? ⟨xe, 3, none⟩ = some (.int .i64 s) := HXxe_15.out.cell 3
  have c15_xq0 : w15.cell? ⟨xq, 0, none⟩ = some (.int .i64 p) := HXxq_15.out.cell 0
  have c15_xq1 : w15.cell? ⟨xq, 1, none⟩ = some (.int .i64 b) := HXxq_15.out.cell 1
  have c15_xq2 : w15.cell? ⟨xq, 2, none⟩ = some (.slice (some ⟨gm, 0, none⟩) n c5) := HXxq_15.out.cell 2
  have c15_xq3 : w15.cell? ⟨xq, 3, none⟩ = some (.int .i64 s) := HXxq_15.out.cell 3
  go_wp2_with fail
  refine (HSm.out w15 HA15_15.out).mono ?_
  rintro e w16 ⟨rfl, hb⟩
  clear c15_xe0 c15_xe1 c15_xe2 c15_xe3 c15_xq0 c15_xq1 c15_xq2 c15_xq3
  have HB16 := Lib.hid (HB15.out.trans (hb.mono HB15.out.size))
  have HXxe_16 := Lib.hid (HXxe_15.out.below hb HXxe_15.out.lt)
  have HXxm_16 := Lib.hid (HXxm_15.out.below hb HXxm_15.out.lt)
  have HXxr_16 := Lib.hid (HXxr_15.out.below hb HXxr_15.out.lt)
  have HXxq_16 := Lib.hid (HXxq_15.out.below hb HXxq_15.out.lt)
  have HXxa_16 := Lib.hid (HXxa_15.out.below hb HXxa_15.out.lt)
  have HXxb_16 := Lib.hid (HXxb_15.out.below hb HXxb_15.out.lt)
  have HXxt_16 := Lib.hid (HXxt_15.out.below hb HXxt_15.out.lt)
  have HXxd_16 := Lib.hid (HXxd_15.out.below hb HXxd_15.out.lt)
  have HOa_16 := Lib.hid (OwnG.below HOa_15.out hb)
  have HOb_16 := Lib.hid (OwnG.below HOb_15.out hb)
  have HOt_16 := Lib.hid (OwnG.below HOt_15.out hb)
  have HOd_16 := Lib.hid (OwnG.below HOd_15.out hb)
  have HA6_16 := Lib.hid (HA6_15.out.trans (hb.mono HA6_15.out.size))
  have HA7_16 := Lib.hid (HA7_15.out.trans (hb.mono HA7_15.out.size))
  have HA8_16 := Lib.hid (HA8_15.out.trans (hb.mono HA8_15.out.size))
  have HA9_16 := Lib.hid (HA9_15.out.trans (hb.mono HA9_15.out.size))
  have HA10_16 := Lib.hid (HA10_15.out.trans (hb.mono HA10_15.out.size))
  have HA11_16 := Lib.hid (HA11_15.out.trans (hb.mono HA11_15.out.size))
  have HA12_16 := Lib.hid (HA12_15.out.trans (hb.mono HA12_15.out.size))
  have HA13_16 := Lib.hid (HA13_15.out.trans (hb.mono HA13_15.out.size))
  have HA14_16 := Lib.hid (HA14_15.out.trans (hb.mono HA14_15.out.size))
  have HA15_16 := Lib.hid (HA15_15.out.trans (hb.mono HA15_15.out.size))
  clear hb HSm
  have HM16 := Lib.hid (OwnG.below HO6.out HA6_16.out)
  obtain ⟨c71, c72⟩ := room_cells HM16.out HL.out
  have hfn2 := fun (W : World) (gf : Nat) (pb cs : Array Value) => run_eql_func_nil (P := Try.prog) W 39 (.func gf) pb cs Try.underlying39
  have hw1 : IntKind.i64.wrap ((n : Int) + 1) = ((n + 1 : Nat) : Int) := by rw [IntWalk.i64_in _ (by omega)]; rfl
  have z1 : ((n : Int) < ((n + 2 : Nat) : Int)) := by omega
  have z2 : (((n + 1 : Nat) : Int) < ((n + 2 : Nat) : Int)) := by omega
  have c16_xe0 : w16.cell? ⟨xe, 0, none⟩ = some (.int .i64 p) := HXxe_16.out.cell 0
  have c16_xe1 : w16.cell? ⟨xe, 1, none⟩ = some (.int .i64 b) := HXxe_16.out.cell 1
  have c16_xe2 : w16.cell? ⟨xe, 2, none⟩ = some (.slice A n c) := HXxe_16.out.cell 2
  have c16_xe3 : w16.cell? ⟨xe, 3, none⟩ = some (.int .i64 s) := HXxe_16.out.cell 3

  go_wp2
  clear hfn2 hw1 z1 z2 c71 c72 c16_xe0 c16_xe1 c16_xe2 c16_xe3
  go_loopw [18, 106] (fun _ j wr => ∃ (i : Nat) (l' : List Mg), j = .int .i64 i ∧ i ≤ n + 2 ∧ OwnG wr w2.heap.size (.slice (some ⟨gm, 0, none⟩) (n + 2) c5) l' ∧ OnlyS (fun b => b = gm) w16 wr) (fun _ j _ => n + 2 - (intOf j).toNat)
  case atStart => exact ⟨0, _, rfl, by omega, HM16.out, OnlyS.refl _ _⟩
  case round =>
  obtain ⟨i, l1, rfl, hi1, hO, hm⟩ := hrel
  obtain ⟨w17, rfl⟩ : ∃ v : World, v = wr := ⟨_, rfl⟩
  by_cases hi2 : i < n + 2
  case pos =>
    obtain ⟨g0, e0, _, hg0, ⟨u0, u1, u2, u3, u4, d0, d1, d2, d3, d4⟩, hf, hst⟩ := hO.spot (i := i) hi2
    injection e0 with e0
    injection e0 with e0
    subst e0
    obtain ⟨ho2, hm2⟩ := hst ⟨9, 0, 0, 0, 0⟩
    have HOm := Lib.hid ho2
    have HMm := Lib.hid (hm2 _ _ hm rfl)
    have f0 := hf (i * 5)
    have f1 := hf (i * 5 + 1)
    have f2 := hf (i * 5 + 2)
    have f3 := hf (i * 5 + 3)
    have f4 := hf (i * 5 + 4)
    have zi : ((i : Int) < ((n + 2 : Nat) : Int)) := by omega
    clear hst ho2 hm2 hO hm hf
    go_wp2
    go_roundw
    case rel => exact ⟨i + 1, _, by go_num, by omega, HOm.out, HMm.out⟩
    case measure => simp [intOf]; omega
  case neg =>
  have hs17 := hm.size
  have HCh : Hid (w.heap.size ≤ w2.heap.size ∧ w2.heap.size ≤ gm ∧ gm < w5.heap.size ∧ w5.heap.size ≤ w6.heap.size ∧ w6.heap.size ≤ w7.heap.size ∧ xa = w7.heap.size ∧ xa < w8.heap.size ∧ w8.heap.size ≤ w9.heap.size ∧ xb = w9.heap.size ∧ xb < w10.heap.size ∧ w10.heap.size ≤ w11.heap.size ∧ xt = w11.heap.size ∧ xt < w12.heap.size ∧ w12.heap.size ≤ w13.heap.size ∧ xd = w13.heap.size ∧ xd < w14.heap.size ∧ w14.heap.size ≤ w15.heap.size ∧ w15.heap.size ≤ w16.heap.size ∧ w16.heap.size ≤ w17.heap.size ∧ xe < w2.heap.size ∧ xm < w2.heap.size ∧ xr < w2.heap.size) := Lib.hid ⟨HB2.out.size, HGm.out.1, HGm.out.2, HSz.out, HA6_7.out.size, HZxa.out, HXxa_8.out.lt, HA8_9.out.size, HZxb.out, HXxb_10.out.lt, HA10_11.out.size, HZxt.out, HXxt_12.out.lt, HA12_13.out.size, HZxd.out, HXxd_14.out.lt, HA14_15.out.size, HA15_16.out.size, hs17, HXxe_2.out.lt, HXxm_2.out.lt, HXxr_2.out.lt⟩
  have HB17 : Hid (Below w.heap.size w w17) := Lib.hid (OnlyS.bel HB16.out hm (fun b h => by have h2 : b = gm := h; have := HCh.out; omega) HB16.out.size)
  have HXxe_17 := Lib.hid (hm.blk HXxe_16.out (fun h => by have h2 : xe = gm := h; have := HCh.out; omega))
  have HXxm_17 := Lib.hid (hm.blk HXxm_16.out (fun h => by have h2 : xm = gm := h; have := HCh.out; omega))
  have HXxr_17 := Lib.hid (hm.blk HXxr_16.out (fun h => by have h2 : xr = gm := h; have := HCh.out; omega))
  have HXxa_17 := Lib.hid (hm.blk HXxa_16.out (fun h => by have h2 : xa = gm := h; have := HCh.out; omega))
  have HXxb_17 := Lib.hid (hm.blk HXxb_16.out (fun h => by have h2 : xb = gm := h; have := HCh.out; omega))
  have HXxt_17 := Lib.hid (hm.blk HXxt_16.out (fun h => by have h2 : xt = gm := h; have := HCh.out; omega))
  have HXxd_17 := Lib.hid (hm.blk HXxd_16.out (fun h => by have h2 : xd = gm := h; have := HCh.out; omega))
  have HOa_17 := Lib.hid (OwnG.onlyS HOa_16.out hm (fun g e h => by have h2 : g = gm := h; have h1 := ownG_base HOa_7.out g e; have := HCh.out; omega))
  have HOb_17 := Lib.hid (OwnG.onlyS HOb_16.out hm (fun g e h => by have h2 : g = gm := h; have h1 := ownG_base HOb_9.out g e; have := HCh.out; omega))
  have HOt_17 := Lib.hid (OwnG.onlyS HOt_16.out hm (fun g e h => by have h2 : g = gm := h; have h1 := ownG_base HOt_11.out g e; have := HCh.out; omega))
  have HOd_17 := Lib.hid (OwnG.onlyS HOd_16.out hm (fun g e h => by have h2 : g = gm := h; have h1 := ownG_base HOd_13.out g e; have := HCh.out; omega))
  have SE17 := Lib.hid (SE15.out.stay (w := w15) (W := w17) ⟨Nat.le_trans HA15_16.out.size hs17, fun g hg => (hm.block g (Nat.lt_of_lt_of_le (HRl.out g hg).2 HA15_16.out.size) (fun h => by have h2 : g = gm := h; have := HCh.out; have := HRl.out g hg; omega)).trans (HA15_16.out.block g (HRl.out g hg).2)⟩)
  clear hm hO
  have c17_xa0 : w17.cell? ⟨xa, 0, none⟩ = some (.int .i64 ap) := HXxa_17.out.cell 0
  have c17_xa1 : w17.cell? ⟨xa, 1, none⟩ = some (.int .i64 ab) := HXxa_17.out.cell 1
  have c17_xa2 : w17.cell? ⟨xa, 2, none⟩ = some (.slice Aa na ca) := HXxa_17.out.cell 2
  have c17_xa3 : w17.cell? ⟨xa, 3, none⟩ = some (.int .i64 as_) := HXxa_17.out.cell 3
  have l17_xa : xa < w17.heap.size := HXxa_17.out.lt
  have c17_xb0 : w17.cell? ⟨xb, 0, none⟩ = some (.int .i64 bp) := HXxb_17.out.cell 0
  have c17_xb1 : w17.cell? ⟨xb, 1, none⟩ = some (.int .i64 bb) := HXxb_17.out.cell 1
  have c17_xb2 : w17.cell? ⟨xb, 2, none⟩ = some (.slice Ab nb cb) := HXxb_17.out.cell 2
  have c17_xb3 : w17.cell? ⟨xb, 3, none⟩ = some (.int .i64 bs) := HXxb_17.out.cell 3
  have l17_xb : xb < w17.heap.size := HXxb_17.out.lt
  have c17_xt0 : w17.cell? ⟨xt, 0, none⟩ = some (.int .i64 tp) := HXxt_17.out.cell 0
  have c17_xt1 : w17.cell? ⟨xt, 1, none⟩ = some (.int .i64 tb) := HXxt_17.out.cell 1
  have c17_xt2 : w17.cell? ⟨xt, 2, none⟩ = some (.slice At nt ct) := HXxt_17.out.cell 2
  have c17_xt3 : w17.cell? ⟨xt, 3, none⟩ = some (.int .i64 ts) := HXxt_17.out.cell 3
  have l17_xt : xt < w17.heap.size := HXxt_17.out.lt
  go_wp2
  obtain ⟨gl, hgl⟩ : ∃ x, x = w17.heap.size := ⟨_, rfl⟩
  obtain ⟨w18, hw18⟩ : ∃ v, v = w17.alloc (.cells #[.slice Aa na ca, .slice Ab nb cb, .slice At nt ct] 22) := ⟨_, rfl⟩
  have hb : Below w17.heap.size w17 w18 := hw18 ▸ (Below.refl _ _).alloc (Nat.le_refl _) _
  have HB18 := Lib.hid (HB17.out.trans (hb.mono HB17.out.size))
  have HGl_18 : Hid (Blk w18 gl 22 #[.slice Aa na ca, .slice Ab nb cb, .slice At nt ct]) := Lib.hid (by rw [hw18, hgl]; exact Blk.new w17 _ _)
  have HZgl := Lib.hid hgl
  have HXxe_18 := Lib.hid (HXxe_17.out.below hb HXxe_17.out.lt)
  have HXxm_18 := Lib.hid (HXxm_17.out.below hb HXxm_17.out.lt)
  have HXxr_18 := Lib.hid (HXxr_17.out.below hb HXxr_17.out.lt)
  have HXxd_18 := Lib.hid (HXxd_17.out.below hb HXxd_17.out.lt)
  have HOa_18 := Lib.hid (OwnG.below HOa_17.out hb)
  have HOb_18 := Lib.hid (OwnG.below HOb_17.out hb)
  have HOt_18 := Lib.hid (OwnG.below HOt_17.out hb)
  have HOd_18 := Lib.hid (OwnG.below HOd_17.out hb)
  have SE18 := Lib.hid (SE17.out.stay (w := w17) (W := w18) ⟨hb.size, fun g hg => hb.block g (SE17.out.lt g hg)⟩)
  rw [← hw18, ← hgl]
  clear hb hw18 hgl hi1 hi2 hs17 c17_xa0 c17_xa1 c17_xa2 c17_xa3 l17_xa c17_xb0 c17_xb1 c17_xb2 c17_xb3 l17_xb c17_xt0 c17_xt1 c17_xt2 c17_xt3 l17_xt
  refine wp_loop_rounds 4 ?_
  rw [rounds_succ]
  obtain ⟨S, hS⟩ : ∃ S : Nat → Prop, S = fun g => (Value.slice Aa na ca).ownBlock = some g := ⟨_, rfl⟩
  have HSo : Hid (∀ g, (Value.slice Aa na ca).ownBlock = some g → S g) := Lib.hid (fun g h => by rw [hS]; exact h)
  have HSr : Hid (∀ g, S g → w6.heap.size ≤ g ∧ g < w7.heap.size) := Lib.hid (fun g h => by rw [hS] at h; exact ⟨ownG_base HOa_7.out g h, ownG_lt HOa_7.out g h⟩)
  clear hS
  have cg : w18.cell? ⟨gl, 0, none⟩ = some (.slice Aa na ca) := HGl_18.out.cell 0
  have hnx : na ≤ 1024 := by have h1 := OwnG.mlen HOa_7.out; have h2 := HLa.out; (try simp only at h1); omega
  go_wp2
  clear cg
  go_loopw [21, 128] (fun _ j wr => ∃ (i : Nat) (l' : List Mg), j = .int .i64 i ∧ i ≤ na ∧ OwnG wr w6.heap.size (.slice Aa na ca) l' ∧ OnlyS S w18 wr) (fun _ j _ => na - (intOf j).toNat)
  case atStart => exact ⟨0, _, rfl, by omega, HOa_18.out, OnlyS.refl _ _⟩
  case round =>
  obtain ⟨i, l1, rfl, hi1, hO, hm⟩ := hrel
  obtain ⟨w19, rfl⟩ : ∃ v : World, v = wr := ⟨_, rfl⟩
  by_cases hi2 : i < na
  case pos =>
    obtain ⟨g0, e0, _, hg0, ⟨u0, u1, u2, u3, u4, d0, d1, d2, d3, d4⟩, hf, hst⟩ := hO.spot (i := i) hi2
    obtain ⟨ho2, hm2⟩ := hst ⟨8, 0, 0, 0, 0⟩
    have HOm := Lib.hid ho2
    have HMm := Lib.hid (hm2 _ _ hm (HSo.out g0 (by rw [e0]; rfl)))
    subst e0
    have f0 := hf (i * 5)
    have f1 := hf (i * 5 + 1)
    have f2 := hf (i * 5 + 2)
    have f3 := hf (i * 5 + 3)
    have f4 := hf (i * 5 + 4)
    have zi : ((i : Int) < (na : Int)) := by omega
    clear hst ho2 hm2 hO hm hf
    go_wp2
    go_roundw
    case rel => exact ⟨i + 1, _, by go_num, by omega, HOm.out, HMm.out⟩
    case measure => simp [intOf]; omega
  case neg =>
  have HOl := Lib.hid hO
  have HMl := Lib.hid hm
  have hl1 : l1.length = na := OwnG.mlen hO
  have hz : (((na + 1 : Nat) : Int) == 0) = false := by simp; omega
  have hz2 : ((na : Int) + 1 == 0) = false := by simp; omega
  have hs : w6.heap.size ≤ w19.heap.size := by have := HCh.out; have := HSr.out; have := HB18.out.size; have h9 := hm.size; have := HGl_18.out.lt; have := HZgl.out; omega
  clear hO hm
  go_wp2_with (at_builtin;  (refine appG w19 ⟨7, 0, 0, 0, 0⟩ 26 rfl (.tmp 136) (.tmp 138) rfl w6.heap.size (.slice Aa na ca) l1 rfl HOl.out w19.heap.size rfl rfl (by omega) hs ?_; intro v' w20 ho hb hgr hat; obtain ⟨A', n', c', rfl⟩ := ownG_slice ho; obtain rfl : n' = na + 1 := (by have h1 := OwnG.mlen ho; rw [List.length_append] at h1; simp at h1; omega); have HGr := Lib.hid hgr; clear ho hb hgr hat))
  have hO : OnlyS S w18 w20 := onlyS_row (HMl.out.below ((Below.refl _ _).alloc (Nat.le_refl _) _)) HGr.out HSo.out
  have HXxe_20 := Lib.hid (hO.blk HXxe_18.out (fun h => by have := HSr.out _ h; have := HCh.out; omega))
  have HXxm_20 := Lib.hid (hO.blk HXxm_18.out (fun h => by have := HSr.out _ h; have := HCh.out; omega))
  have HXxr_20 := Lib.hid (hO.blk HXxr_18.out (fun h => by have := HSr.out _ h; have := HCh.out; omega))
  have HXxd_20 := Lib.hid (hO.blk HXxd_18.out (fun h => by have := HSr.out _ h; have := HCh.out; omega))
  have HGl_20 := Lib.hid (hO.blk HGl_18.out (fun h => by have := HSr.out _ h; have := HCh.out; have := HZgl.out; omega))
  have HOb_20 := Lib.hid (OwnG.onlyS HOb_18.out hO (fun g e h => by have := HSr.out g h; have h1 := ownG_base HOb_9.out g e; have := HCh.out; omega))
  have HOt_20 := Lib.hid (OwnG.onlyS HOt_18.out hO (fun g e h => by have := HSr.out g h; have h1 := ownG_base HOt_11.out g e; have := HCh.out; omega))
  have HOd_20 := Lib.hid (OwnG.onlyS HOd_18.out hO (fun g e h => by have := HSr.out g h; have h1 := ownG_base HOd_13.out g e; have := HCh.out; omega))
  have SE20 := Lib.hid (SE18.out.stay (w := w18) (W := w20) ⟨hO.size, fun g hg => hO.block g (SE18.out.lt g hg) (fun h => by have := HSr.out g h; have := HRl.out g hg; have := HCh.out; omega)⟩)
  have HB20 : Hid (Below w.heap.size w w20) := Lib.hid (OnlyS.bel HB18.out hO (fun b h => by have := HSr.out b h; have := HCh.out; omega) HB18.out.size)
  clear hO HGr HMl HOl hl1 hz hz2 hs hi1 hi2 HSo HSr hnx
  rw [rounds_succ]
  obtain ⟨S, hS⟩ : ∃ S : Nat → Prop, S = fun g => (Value.slice Ab nb cb).ownBlock = some g := ⟨_, rfl⟩
  have HSo : Hid (∀ g, (Value.slice Ab nb cb).ownBlock = some g → S g) := Lib.hid (fun g h => by rw [hS]; exact h)
  have HSr : Hid (∀ g, S g → w8.heap.size ≤ g ∧ g < w9.heap.size) := Lib.hid (fun g h => by rw [hS] at h; exact ⟨ownG_base HOb_9.out g h, ownG_lt HOb_9.out g h⟩)
  clear hS
  have cg : w20.cell? ⟨gl, 1, none⟩ = some (.slice Ab nb cb) := HGl_20.out.cell 1
  have hnx : nb ≤ 1024 := by have h1 := OwnG.mlen HOb_9.out; have h2 := HLb.out; (try simp only at h1); omega
  go_wp2
  clear cg
  go_loopw [21, 128] (fun _ j wr => ∃ (i : Nat) (l' : List Mg), j = .int .i64 i ∧ i ≤ nb ∧ OwnG wr w8.heap.size (.slice Ab nb cb) l' ∧ OnlyS S w20 wr) (fun _ j _ => nb - (intOf j).toNat)
  case atStart => exact ⟨0, _, rfl, by omega, HOb_20.out, OnlyS.refl _ _⟩
  case round =>
  obtain ⟨i, l1, rfl, hi1, hO, hm⟩ := hrel
  obtain ⟨w21, rfl⟩ : ∃ v : World, v = wr := ⟨_, rfl⟩
  by_cases hi2 : i < nb
  case pos =>
    obtain ⟨g0, e0, _, hg0, ⟨u0, u1, u2, u3, u4, d0, d1, d2, d3, d4⟩, hf, hst⟩ := hO.spot (i := i) hi2
    obtain ⟨ho2, hm2⟩ := hst ⟨8, 0, 0, 0, 0⟩
    have HOm := Lib.hid ho2
    have HMm := Lib.hid (hm2 _ _ hm (HSo.out g0 (by rw [e0]; rfl)))
    subst e0
    have f0 := hf (i * 5)
    have f1 := hf (i * 5 + 1)
    have f2 := hf (i * 5 + 2)
    have f3 := hf (i * 5 + 3)
    have f4 := hf (i * 5 + 4)
    have zi : ((i : Int) < (nb : Int)) := by omega
    clear hst ho2 hm2 hO hm hf
    go_wp2
    go_roundw
    case rel => exact ⟨i + 1, _, by go_num, by omega, HOm.out, HMm.out⟩
    case measure => simp [intOf]; omega
  case neg =>
  have HOl := Lib.hid hO
  have HMl := Lib.hid hm
  have hl1 : l1.length = nb := OwnG.mlen hO
  have hz : (((nb + 1 : Nat) : Int) == 0) = false := by simp; omega
  have hz2 : ((nb : Int) + 1 == 0) = false := by simp; omega
  have hs : w8.heap.size ≤ w21.heap.size := by have := HCh.out; have := HSr.out; have := HB20.out.size; have h9 := hm.size; have := HGl_20.out.lt; have := HZgl.out; omega
  clear hO hm
  go_wp2_with (at_builtin;  (refine appG w21 ⟨7, 0, 0, 0, 0⟩ 26 rfl (.tmp 136) (.tmp 138) rfl w8.heap.size (.slice Ab nb cb) l1 rfl HOl.out w21.heap.size rfl rfl (by omega) hs ?_; intro v' w22 ho hb hgr hat; obtain ⟨A', n', c', rfl⟩ := ownG_slice ho; obtain rfl : n' = nb + 1 := (by have h1 := OwnG.mlen ho; rw [List.length_append] at h1; simp at h1; omega); have HGr := Lib.hid hgr; clear ho hb hgr hat))
  have hO : OnlyS S w20 w22 := onlyS_row (HMl.out.below ((Below.refl _ _).alloc (Nat.le_refl _) _)) HGr.out HSo.out
  have HXxe_22 := Lib.hid (hO.blk HXxe_20.out (fun h => by have := HSr.out _ h; have := HCh.out; omega))
  have HXxm_22 := Lib.hid (hO.blk HXxm_20.out (fun h => by have := HSr.out _ h; have := HCh.out; omega))
  have HXxr_22 := Lib.hid (hO.blk HXxr_20.out (fun h => by have := HSr.out _ h; have := HCh.out; omega))
  have HXxd_22 := Lib.hid (hO.blk HXxd_20.out (fun h => by have := HSr.out _ h; have := HCh.out; omega))
  have HGl_22 := Lib.hid (hO.blk HGl_20.out (fun h => by have := HSr.out _ h; have := HCh.out; have := HZgl.out; omega))
  have HOt_22 := Lib.hid (OwnG.onlyS HOt_20.out hO (fun g e h => by have := HSr.out g h; have h1 := ownG_base HOt_11.out g e; have := HCh.out; omega))
  have HOd_22 := Lib.hid (OwnG.onlyS HOd_20.out hO (fun g e h => by have := HSr.out g h; have h1 := ownG_base HOd_13.out g e; have := HCh.out; omega))
  have SE22 := Lib.hid (SE20.out.stay (w := w20) (W := w22) ⟨hO.size, fun g hg => hO.block g (SE20.out.lt g hg) (fun h => by have := HSr.out g h; have := HRl.out g hg; have := HCh.out; omega)⟩)
  have HB22 : Hid (Below w.heap.size w w22) := Lib.hid (OnlyS.bel HB20.out hO (fun b h => by have := HSr.out b h; have := HCh.out; omega) HB20.out.size)
  clear hO HGr HMl HOl hl1 hz hz2 hs hi1 hi2 HSo HSr hnx
  rw [rounds_succ]
  obtain ⟨S, hS⟩ : ∃ S : Nat → Prop, S = fun g => (Value.slice At nt ct).ownBlock = some g := ⟨_, rfl⟩
  have HSo : Hid (∀ g, (Value.slice At nt ct).ownBlock = some g → S g) := Lib.hid (fun g h => by rw [hS]; exact h)
  have HSr : Hid (∀ g, S g → w10.heap.size ≤ g ∧ g < w11.heap.size) := Lib.hid (fun g h => by rw [hS] at h; exact ⟨ownG_base HOt_11.out g h, ownG_lt HOt_11.out g h⟩)
  clear hS
  have cg : w22.cell? ⟨gl, 2, none⟩ = some (.slice At nt ct) := HGl_22.out.cell 2
  have hnx : nt ≤ 1024 := by have h1 := OwnG.mlen HOt_11.out; have h2 := HLc.out; (try simp only at h1); omega
  go_wp2
  clear cg
  go_loopw [21, 128] (fun _ j wr => ∃ (i : Nat) (l' : List Mg), j = .int .i64 i ∧ i ≤ nt ∧ OwnG wr w10.heap.size (.slice At nt ct) l' ∧ OnlyS S w22 wr) (fun _ j _ => nt - (intOf j).toNat)
  case atStart => exact ⟨0, _, rfl, by omega, HOt_22.out, OnlyS.refl _ _⟩
  case round =>
  obtain ⟨i, l1, rfl, hi1, hO, hm⟩ := hrel
  obtain ⟨w23, rfl⟩ : ∃ v : World, v = wr := ⟨_, rfl⟩
  by_cases hi2 : i < nt
  case pos =>
    obtain ⟨g0, e0, _, hg0, ⟨u0, u1, u2, u3, u4, d0, d1, d2, d3, d4⟩, hf, hst⟩ := hO.spot (i := i) hi2
    obtain ⟨ho2, hm2⟩ := hst ⟨8, 0, 0, 0, 0⟩
    have HOm := Lib.hid ho2
    have HMm := Lib.hid (hm2 _ _ hm (HSo.out g0 (by rw [e0]; rfl)))
    subst e0
    have f0 := hf (i * 5)
    have f1 := hf (i * 5 + 1)
    have f2 := hf (i * 5 + 2)
    have f3 := hf (i * 5 + 3)
    have f4 := hf (i * 5 + 4)
    have zi : ((i : Int) < (nt : Int)) := by omega
    clear hst ho2 hm2 hO hm hf
    go_wp2
    go_roundw
    case rel => exact ⟨i + 1, _, by go_num, by omega, HOm.out, HMm.out⟩
    case measure => simp [intOf]; omega
  case neg =>
  have HOl := Lib.hid hO
  have HMl := Lib.hid hm
  have hl1 : l1.length = nt := OwnG.mlen hO
  have hz : (((nt + 1 : Nat) : Int) == 0) = false := by simp; omega
  have hz2 : ((nt : Int) + 1 == 0) = false := by simp; omega
  have hs : w10.heap.size ≤ w23.heap.size := by have := HCh.out; have := HSr.out; have := HB22.out.size; have h9 := hm.size; have := HGl_22.out.lt; have := HZgl.out; omega
  clear hO hm
  go_wp2_with (at_builtin;  (refine appG w23 ⟨7, 0, 0, 0, 0⟩ 26 rfl (.tmp 136) (.tmp 138) rfl w10.heap.size (.slice At nt ct) l1 rfl HOl.out w23.heap.size rfl rfl (by omega) hs ?_; intro v' w24 ho hb hgr hat; obtain ⟨A', n', c', rfl⟩ := ownG_slice ho; obtain rfl : n' = nt + 1 := (by have h1 := OwnG.mlen ho; rw [List.length_append] at h1; simp at h1; omega); have HGr := Lib.hid hgr; clear ho hb hgr hat))
  have hO : OnlyS S w22 w24 := onlyS_row (HMl.out.below ((Below.refl _ _).alloc (Nat.le_refl _) _)) HGr.out HSo.out
  have HXxe_24 := Lib.hid (hO.blk HXxe_22.out (fun h => by have := HSr.out _ h; have := HCh.out; omega))
  have HXxm_24 := Lib.hid (hO.blk HXxm_22.out (fun h => by have := HSr.out _ h; have := HCh.out; omega))
  have HXxr_24 := Lib.hid (hO.blk HXxr_22.out (fun h => by have := HSr.out _ h; have := HCh.out; omega))
  have HXxd_24 := Lib.hid (hO.blk HXxd_22.out (fun h => by have := HSr.out _ h; have := HCh.out; omega))
  have HGl_24 := Lib.hid (hO.blk HGl_22.out (fun h => by have := HSr.out _ h; have := HCh.out; have := HZgl.out; omega))
  have HOd_24 := Lib.hid (OwnG.onlyS HOd_22.out hO (fun g e h => by have := HSr.out g h; have h1 := ownG_base HOd_13.out g e; have := HCh.out; omega))
  have SE24 := Lib.hid (SE22.out.stay (w := w22) (W := w24) ⟨hO.size, fun g hg => hO.block g (SE22.out.lt g hg) (fun h => by have := HSr.out g h; have := HRl.out g hg; have := HCh.out; omega)⟩)
  have HB24 : Hid (Below w.heap.size w w24) := Lib.hid (OnlyS.bel HB22.out hO (fun b h => by have := HSr.out b h; have := HCh.out; omega) HB22.out.size)
  clear hO HGr HMl HOl hl1 hz hz2 hs hi1 hi2 HSo HSr hnx
  rw [rounds_succ]
  go_wp2_with fail
  obtain ⟨xk, hxk⟩ : ∃ xk, xk = w24.heap.size := ⟨_, rfl⟩
  obtain ⟨w25, hw25⟩ : ∃ v, v = w24.alloc (.cells #[.int .i64 0] 3) := ⟨_, rfl⟩
  have hb1 : Below w24.heap.size w24 w25 := hw25 ▸ (Below.refl _ _).alloc (Nat.le_refl _) _
  have HKn1 : Hid (Blk w25 xk 3 #[.int .i64 0]) := Lib.hid (by rw [hw25, hxk]; exact Blk.new w24 _ _)
  have HBW1 := Lib.hid hb1
  have HM1 : Hid (Marks w24.heap.size [] w25) := Lib.hid trivial
  have SE25 := Lib.hid (SE24.out.stay (w := w24) (W := w25) ⟨hb1.size, fun g hg => hb1.block g (SE24.out.lt g hg)⟩)
  have HRlt := Lib.hid SE24.out.lt
  have hx1 : w24.heap.size ≤ xk := by omega
  have hx2 : xk < w25.heap.size := HKn1.out.lt
  have HRo : Hid (Reads w24 w24.heap.size 5 A n (mgs o)) := Lib.hid ((HRe.out.below HB24.out).more HB24.out.size)
  rw [← hw25, ← hxk]
  clear hw25 hxk hb1
  obtain ⟨S, hS⟩ : ∃ S : Nat → Prop, S = fun b => b = xk := ⟨_, rfl⟩
  have S1 : S xk := by rw [hS]
  have HSe : Hid (∀ b, S b → b = xk) := Lib.hid (fun b h => by rw [hS] at h; exact h)
  clear hS
  apply with_fun (α := Int × Mg → Nat → Act)
  intro F hF
  refine (wpIn_wide (n := 9)).1 ?_
  refine' range_boundWA (α := Int × Mg) (gf := gf) (pb := pb) (lb := lb) rfl EN.out (SE25.out.at_ _) (fun h k => StayH.trans h k) (stay_b SE25.out.lt) (fun _ => rfl) OkH.put
    (fun pre V => Blk V xk 3 #[.int .i64 (pre.length : Nat)] ∧ OnlyS S w25 V)
    (fun cc pre V => False)
    (Std.and (std_blk (x := xk) (by omega)) (std_onlyS w25 S))
    (fun cc => fun s A B hs ht => hs)
    ⟨HKn1.out, OnlyS.refl _ _⟩
    (fun p V => ∃ xx : Nat, w25.heap.size ≤ xx ∧ Blk V xk 3 #[.int .i64 (p.1.length : Nat)] ∧ OnlyS S w25 V ∧ Blk V xx 26 #[.int .i64 p.2.1.2.k, .int .i64 p.2.1.2.o, .int .i64 p.2.1.2.n, .int .i64 p.2.1.2.u, .int .i64 p.2.1.2.v] ∧ p.1 ++ [p.2.1] <+: lq ∧ p.2.2 = F p.2.1 xx)
    ?ia1 ?assign1 ?body1 ?done1 ?stop1
  case ia1 =>
    rintro p A B row ⟨xx, h1, h2, h3, h4, h5⟩ hg hr
    exact ⟨xx, h1, blk_kept h2 hg (fun r e => (hr r e).2), (own_onlyS w25 S) p A B row h3 hg hr, blk_kept h4 hg (fun r e => (hr r e).2), h5⟩
  case assign1 =>
    rintro lp pre y V K ⟨hbn, hO⟩ ⟨B', hB', hok⟩ hK
    obtain ⟨xx, hxx⟩ : ∃ xx, xx = V.heap.size := ⟨_, rfl⟩
    obtain ⟨V2, hV2⟩ : ∃ v, v = V.alloc (.cells #[.int .i64 y.2.k, .int .i64 y.2.o, .int .i64 y.2.n, .int .i64 y.2.u, .int .i64 y.2.v] 26) := ⟨_, rfl⟩
    have hba : Below V.heap.size V V2 := hV2 ▸ (Below.refl _ _).alloc (Nat.le_refl _) _
    have hfin : KeepsAll w25.heap.size V V2 ∧ Stay R V V2 ∧ ∃ xx' : Nat, xx' = xx ∧ w25.heap.size ≤ xx' ∧ Blk V2 xk 3 #[.int .i64 (pre.length : Nat)] ∧ OnlyS S w25 V2 ∧ Blk V2 xx' 26 #[.int .i64 y.2.k, .int .i64 y.2.o, .int .i64 y.2.n, .int .i64 y.2.u, .int .i64 y.2.v] ∧ pre ++ [y] <+: lq :=
      ⟨⟨hba.size, fun k _ hk => hba.block k hk⟩, ⟨hba.size, fun g hg => hba.block g (by have := HRlt.out g hg; have := HBW1.out.size; have := hO.size; omega)⟩, xx, rfl, by have := hO.size; omega, hbn.below hba hbn.lt, hO.below hba, by rw [hV2, hxx]; exact Blk.new V _ _, hok⟩
    have HFin := Lib.hid hfin
    have HK := Lib.hid hK
    clear hfin hba hbn hO hok hK
    gi_wp2_with fail
    rw [← hV2, ← hxx]
    obtain ⟨f1, f2, xx', rfl, f3, f4, f5, f6, f7⟩ := HFin.out
    refine HK.out _ _ f1 f2 ⟨xx', f3, f4, f5, f6, f7, ?_⟩
    rw [hF]
  case stop1 =>
    rintro D cc pre V hD hpre hf hK
    exact hf.elim
  case body1 =>
    rintro lp pre ⟨sx, ⟨zk, zo, zn, zu, zv⟩⟩ a' V hlp hrec ⟨xx, hxm1, hbn, hO, hmb, hok, ha'⟩
    obtain ⟨hlt, hgt⟩ := OkH.next (B := 0) (W := V) hok
    simp only at hbn hmb hok ha'
    rw [hF] at ha'
    simp only at ha'
    subst ha'
    have cm0 : V.cell? ⟨xx, 0, none⟩ = some (.int .i64 zk) := hmb.cell 0
    have cm1 : V.cell? ⟨xx, 1, none⟩ = some (.int .i64 zo) := hmb.cell 1
    have cm2 : V.cell? ⟨xx, 2, none⟩ = some (.int .i64 zn) := hmb.cell 2
    have cm3 : V.cell? ⟨xx, 3, none⟩ = some (.int .i64 zu) := hmb.cell 3
    have cm4 : V.cell? ⟨xx, 4, none⟩ = some (.int .i64 zv) := hmb.cell 4
    obtain ⟨m, hm⟩ : ∃ m, m = pre.length := ⟨_, rfl⟩
    rw [← hm] at hbn hlt hgt
    have hom := HLd.out m _ hgt
    simp only at hom
    have hmn : m < n := by have h1 := (List.getElem?_eq_some_iff.1 hom).1; have := HL.out; omega
    have HBV : Hid (Below w24.heap.size w24 V) := Lib.hid (OnlyS.bel HBW1.out hO (fun b hb => by have := HSe.out b hb; omega) HBW1.out.size)
    obtain ⟨go, oo, hAo, hbo, hco⟩ := (HRo.out.below HBV.out).mgs_ (by omega)
    subst hAo
    obtain ⟨d0, d1, d2, d3, d4⟩ := hco m _ hom
    simp only at d0 d1 d2 d3 d4
    have cn : V.cell? ⟨xk, 0, none⟩ = some (.int .i64 (m : Int)) := by rw [hbn.cell]; rfl
    have fn : V.frozen? ⟨xk, 0, none⟩ = false := hbn.frozen 0
    have ee := HXxe_24.out.below HBV.out HXxe_24.out.lt
    have ee2 : V.cell? ⟨xe, 2, none⟩ = some (.slice (some ⟨go, oo, none⟩) n c) := ee.cell 2
    have hwi1 : (0 : Int) ≤ (m : Int) := by omega
    have hwi2 : (m : Int) < (n : Int) := by omega
    have tn : decide (n ≤ m) = false := by simp; omega
    have ke : ∀ W : World, (Op.equalIn 10000 26 (.agg #[.int .i64 zk, .int .i64 zo, .int .i64 zn, .int .i64 zu, .int .i64 zv]) (.agg #[.int .i64 zk, .int .i64 zo, .int .i64 zn, .int .i64 zu, .int .i64 zv])).run Try.prog W = .ok true W := fun W => by rw [eq_msg]; simp
    have HBn := Lib.hid hbn
    have HOs := Lib.hid hO
    have HQq := Lib.hid hm
    have HRx : Hid (¬ R xk) := Lib.hid (fun h => by have := HRlt.out _ h; omega)
    clear hbn hO hm hok hgt hco ee hbo hmb hom
    gi_wp2_with fail
    refine region_quiet_round (F := Fence.wide) rfl (by kernel_rfl) (by kernel_rfl) (by kernel_rfl) ?_
    repeat (gi_big_quiet_step (fail))
    refine wpQuietIn_nil ?_
    rintro _ ⟨z, rfl⟩
    have cn1 : (V.drewN z).cell? ⟨xk, 0, none⟩ = some (.int .i64 (m : Int)) := cn
    have fn1 : (V.drewN z).frozen? ⟨xk, 0, none⟩ = false := fn
    gi_wp2
    refine ⟨((KeepsAll.refl _ V).drewN z).trans (KeepsAll.setCell _ hx2 _), StayH.trans (StayH.refl _ _) (stay_setAt HRx.out), ?_, (HOs.out.drewN z).set S1 _⟩
    have := blk_put (HBn.out.drewN z) (.int .i64 ((m : Int) + 1))
    rw [List.length_append, ← HQq.out]; exact this
  case done1 =>
  rintro D1 ys w26 hD hys ⟨hbn, hO⟩ hK
  have hb := OnlyS.bel HBW1.out hO (fun b hb => by have := HSe.out b hb; omega) HBW1.out.size
  have hmk := OnlyS.marks HM1.out hO (fun b hb => by rw [HSe.out b hb]; exact ⟨_, _, HKn1.out⟩)
  have HM26 := Lib.hid (hmk.cons (fun d hd k e => by have := HM1.out.lt d hd k e; omega) (by omega) hK)
  have HB26 := Lib.hid (HB24.out.trans (hb.mono HB24.out.size))
  have HXxe_26 := Lib.hid (HXxe_24.out.below hb HXxe_24.out.lt)
  have HXxm_26 := Lib.hid (HXxm_24.out.below hb HXxm_24.out.lt)
  have HXxr_26 := Lib.hid (HXxr_24.out.below hb HXxr_24.out.lt)
  have HXxd_26 := Lib.hid (HXxd_24.out.below hb HXxd_24.out.lt)
  have HOd_26 := Lib.hid (OwnG.below HOd_24.out hb)
  have HA24_26 := Lib.hid hb
  clear hbn hO hK hmk hb hys hF F
  have c26_xe0 : w26.cell? ⟨xe, 0, none⟩ = some (.int .i64 p) := HXxe_26.out.cell 0
  have c26_xe1 : w26.cell? ⟨xe, 1, none⟩ = some (.int .i64 b) := HXxe_26.out.cell 1
  have c26_xe2 : w26.cell? ⟨xe, 2, none⟩ = some (.slice A n c) := HXxe_26.out.cell 2
  have c26_xe3 : w26.cell? ⟨xe, 3, none⟩ = some (.int .i64 s) := HXxe_26.out.cell 3
  have l26_xe : xe < w26.heap.size := HXxe_26.out.lt
  have c26_xm0 : w26.cell? ⟨xm, 0, none⟩ = some (.int .i64 mk) := HXxm_26.out.cell 0
  have c26_xm1 : w26.cell? ⟨xm, 1, none⟩ = some (.int .i64 mo) := HXxm_26.out.cell 1
  have c26_xm2 : w26.cell? ⟨xm, 2, none⟩ = some (.int .i64 mn) := HXxm_26.out.cell 2
  have c26_xm3 : w26.cell? ⟨xm, 3, none⟩ = some (.int .i64 mu) := HXxm_26.out.cell 3
  have c26_xm4 : w26.cell? ⟨xm, 4, none⟩ = some (.int .i64 mv) := HXxm_26.out.cell 4
  have l26_xm : xm < w26.heap.size := HXxm_26.out.lt
  go_wp2_with fail
  refine (HRp.out w26 HB26.out).mono ?_
  rintro e w27 ⟨v, rfl, ho, hb⟩
  obtain ⟨Aw, nw, cw, rfl⟩ := ownG_slice ho
  clear c26_xe0 c26_xe1 c26_xe2 c26_xe3 l26_xe c26_xm0 c26_xm1 c26_xm2 c26_xm3 c26_xm4 l26_xm
  have HB27 := Lib.hid (HB26.out.trans (hb.mono HB26.out.size))
  have HXxe_27 := Lib.hid (HXxe_26.out.below hb HXxe_26.out.lt)
  have HXxm_27 := Lib.hid (HXxm_26.out.below hb HXxm_26.out.lt)
  have HXxr_27 := Lib.hid (HXxr_26.out.below hb HXxr_26.out.lt)
  have HXxd_27 := Lib.hid (HXxd_26.out.below hb HXxd_26.out.lt)
  have HOd_27 := Lib.hid (OwnG.below HOd_26.out hb)
  have HA24_27 := Lib.hid (HA24_26.out.trans (hb.mono HA24_26.out.size))
  have HM27 := Lib.hid (HM26.out.below hb)
  have HOw_27 := Lib.hid ho
  clear hb ho
  have c27_xe0 : w27.cell? ⟨xe, 0, none⟩ = some (.int .i64 p) := HXxe_27.out.cell 0
  have c27_xe1 : w27.cell? ⟨xe, 1, none⟩ = some (.int .i64 b) := HXxe_27.out.cell 1
  have c27_xe2 : w27.cell? ⟨xe, 2, none⟩ = some (.slice A n c) := HXxe_27.out.cell 2
  have c27_xe3 : w27.cell? ⟨xe, 3, none⟩ = some (.int .i64 s) := HXxe_27.out.cell 3
  have l27_xe : xe < w27.heap.size := HXxe_27.out.lt
  have c27_xm0 : w27.cell? ⟨xm, 0, none⟩ = some (.int .i64 mk) := HXxm_27.out.cell 0
  have c27_xm1 : w27.cell? ⟨xm, 1, none⟩ = some (.int .i64 mo) := HXxm_27.out.cell 1
  have c27_xm2 : w27.cell? ⟨xm, 2, none⟩ = some (.int .i64 mn) := HXxm_27.out.cell 2
  have c27_xm3 : w27.cell? ⟨xm, 3, none⟩ = some (.int .i64 mu) := HXxm_27.out.cell 3
  have c27_xm4 : w27.cell? ⟨xm, 4, none⟩ = some (.int .i64 mv) := HXxm_27.out.cell 4
  have l27_xm : xm < w27.heap.size := HXxm_27.out.lt
  have c27_xr0 : w27.cell? ⟨xr, 0, none⟩ = some (.bool false) := HXxr_27.out.cell 0
  have l27_xr : xr < w27.heap.size := HXxr_27.out.lt
  have c27_xd0 : w27.cell? ⟨xd, 0, none⟩ = some (.int .i64 ap) := HXxd_27.out.cell 0
  have c27_xd1 : w27.cell? ⟨xd, 1, none⟩ = some (.int .i64 ab) := HXxd_27.out.cell 1
  have c27_xd2 : w27.cell? ⟨xd, 2, none⟩ = some (.slice Ad nd cd) := HXxd_27.out.cell 2
  have c27_xd3 : w27.cell? ⟨xd, 3, none⟩ = some (.int .i64 as_) := HXxd_27.out.cell 3
  have l27_xd : xd < w27.heap.size := HXxd_27.out.lt
  obtain ⟨xw, hxw⟩ : ∃ x, x = w27.heap.size := ⟨_, rfl⟩
  obtain ⟨w28, hw28⟩ : ∃ v, v = w27.alloc (.cells #[.int .i64 ap, .int .i64 ab, .slice Aw nw cw, .int .i64 as_] 24) := ⟨_, rfl⟩
  have hb : Below w27.heap.size w27 w28 := hw28 ▸ (Below.refl _ _).alloc (Nat.le_refl _) _
  have HB28 := Lib.hid (HB27.out.trans (hb.mono HB27.out.size))
  have HXxe_28 := Lib.hid (HXxe_27.out.below hb HXxe_27.out.lt)
  have HXxm_28 := Lib.hid (HXxm_27.out.below hb HXxm_27.out.lt)
  have HXxr_28 := Lib.hid (HXxr_27.out.below hb HXxr_27.out.lt)
  have HXxd_28 := Lib.hid (HXxd_27.out.below hb HXxd_27.out.lt)
  have HOd_28 := Lib.hid (OwnG.below HOd_27.out hb)
  have HOw_28 := Lib.hid (OwnG.below HOw_27.out hb)
  have HA24_28 := Lib.hid (HA24_27.out.trans (hb.mono HA24_27.out.size))
  have HM28 := Lib.hid (HM27.out.below hb)
  have HXxw_28 : Hid (Blk w28 xw 24 #[.int .i64 ap, .int .i64 ab, .slice Aw nw cw, .int .i64 as_]) := Lib.hid (by rw [hw28, hxw]; exact Blk.new w27 _ _)
  clear hb
  have c28_xd0 : w28.cell? ⟨xd, 0, none⟩ = some (.int .i64 ap) := HXxd_28.out.cell 0
  have c28_xd1 : w28.cell? ⟨xd, 1, none⟩ = some (.int .i64 ab) := HXxd_28.out.cell 1
  have c28_xd2 : w28.cell? ⟨xd, 2, none⟩ = some (.slice Ad nd cd) := HXxd_28.out.cell 2
  have c28_xd3 : w28.cell? ⟨xd, 3, none⟩ = some (.int .i64 as_) := HXxd_28.out.cell 3
  have l28_xd : xd < w28.heap.size := HXxd_28.out.lt
  go_wp2_with fail
  rw [← hw28, ← hxw]
  clear hw28 hxw
  have HS2 := sameH ⟨ap, ab, ao, as_⟩ ⟨ap, ab, ao, as_⟩ Ad Aw nd cd nw cw w28 (ownG_reads HOd_28.out) (ownG_reads HOw_28.out) (by have h1 := OwnG.mlen HOd_28.out; have h2 := HLa.out; (try simp only at h1 h2); omega)
  rw [show decide ((⟨ap, ab, ao, as_⟩ : Hf) = ⟨ap, ab, ao, as_⟩) = true from decide_eq_true rfl] at HS2
  unfold Hf.val at HS2
  simp only at HS2
  refine HS2.mono ?_
  rintro e w29 ⟨rfl, hb⟩
  clear c27_xe0 c27_xe1 c27_xe2 c27_xe3 l27_xe c27_xm0 c27_xm1 c27_xm2 c27_xm3 c27_xm4 l27_xm c27_xr0 l27_xr c27_xd0 c27_xd1 c27_xd2 c27_xd3 l27_xd c28_xd0 c28_xd1 c28_xd2 c28_xd3 l28_xd
  have HB29 := Lib.hid (HB28.out.trans (hb.mono HB28.out.size))
  have HXxe_29 := Lib.hid (HXxe_28.out.below hb HXxe_28.out.lt)
  have HXxm_29 := Lib.hid (HXxm_28.out.below hb HXxm_28.out.lt)
  have HXxr_29 := Lib.hid (HXxr_28.out.below hb HXxr_28.out.lt)
  have HXxd_29 := Lib.hid (HXxd_28.out.below hb HXxd_28.out.lt)
  have HXxw_29 := Lib.hid (HXxw_28.out.below hb HXxw_28.out.lt)
  have HOd_29 := Lib.hid (OwnG.below HOd_28.out hb)
  have HOw_29 := Lib.hid (OwnG.below HOw_28.out hb)
  have HA24_29 := Lib.hid (HA24_28.out.trans (hb.mono HA24_28.out.size))
  have HM29 := Lib.hid (HM28.out.below hb)
  clear hb HS2
  have cr : w29.cell? ⟨xr, 0, none⟩ = some (.bool false) := HXxr_29.out.cell 0
  have fr : w29.frozen? ⟨xr, 0, none⟩ = false := HXxr_29.out.frozen 0
  have hlr : xr < w24.heap.size := HXxr_24.out.lt
  have hxx : w.heap.size ≤ xr := by have := HX.out; omega
  go_wp2
  have k9 : OnlyS (fun b => b = xr) w29 (w29.setCell ⟨xr, 0, none⟩ (.bool true)) := OnlyS.set (S := fun b => b = xr) (OnlyS.refl (fun b => b = xr) w29) (x := xr) rfl (.bool true)
  have hk9 := blk_put HXxr_29.out (.bool true)
  have hB10 := OnlyS.bel HB29.out k9 (fun b hb => by omega) HB29.out.size
  refine Marks.leave (B := w24.heap.size) _ _ (OnlyS.marks HM29.out k9 (fun b hb => ⟨_, _, (show Blk w29 b 4 #[.bool false] by rw [hb]; exact HXxr_29.out)⟩)) (fun W' hb => ?_)
  have c5 : W'.cell? ⟨xr, 0, none⟩ = some (.bool true) := by rw [hb.cell (p := ⟨xr, 0, none⟩) (show xr < w24.heap.size by omega), hk9.cell]; rfl
  refine ⟨.bool true, by simp [results, Try.f7, go_sem, c5], rfl, ?_⟩
  exact hB10.trans (hb.mono HB24.out.size)
end Go.Proofs.Ytneijohbmphheaa.Pk
