/- The program's vault: Open. -/
import Derived.Test.YtnpmccekkjadhaaDoorZVkTidy
import Derived.Test.YtnpmccekkjadhaaDoorZRun
import Derived.Test.YtnpmccekkjadhaaDoorZItr
namespace Go.Proofs.YtnpmccekkjadhaaDoor.Pk
open Go.RowKit Go.Proofs.YtnpmccekkjadhaaDoor.Crc Go.Proofs.YtnpmccekkjadhaaDoor.Fr Go.Proofs.YtnpmccekkjadhaaDoor.Dk Go.Proofs.YtnpmccekkjadhaaDoor.Vk
set_option linter.unusedVariables false
/-- What is answered is in memory of its own: the records, and the snapshot of a new vault. -/
def OwnS (new : Prop) (lo hi : Nat) (vs vr : Value) (v : VK) (w' : World) : Prop :=
  ∃ wB : World, wB.heap.size = hi ∧ (∀ b, lo ≤ b → b < hi → w'.heap[b]? = wB.heap[b]?) ∧ (new → OwnB wB lo vs v.s) ∧ ∃ ps, OwnL wB lo vr ps ∧ Piece.bytes ps = v.rs
/-- What the program's Open leaves; what it answers is its own. -/
def OpnQ (R : Nat) (d : DK) (s : List Int) (S : Nat → Prop) (w : World) (e : Ending) (w' : World) : Prop :=
  ((opn d s).1 ≠ 0 ∧ e = .returned (.tuple #[.pointer none, .slice none 0 0, .slice none 0 0, .int .i64 (opn d s).1]) ∧ ∃ S', DkP w' R (opn d s).2.1 S' ∧ Turned S w w' ∧ From S S' w) ∨
  ((opn d s).1 = 0 ∧ ∃ v Q vs vr U' lo hi, (opn d s).2.2 = some v ∧ e = .returned (.tuple #[.pointer (some ⟨Q, 0, none⟩), vs, vr, .int .i64 0]) ∧ ModP w' Q R (opn d s).2.1 v U' ∧ Turned S w w' ∧ From S U' w ∧
    w.heap.size ≤ lo ∧ hi ≤ w'.heap.size ∧ SnV w' lo hi vs v.s ∧ RcV w' lo hi vr v.rs ∧ (∀ b, U' b → ¬ (lo ≤ b ∧ b < hi)) ∧ OwnS (gen (d.get (fileOf d)).all = 0) lo hi vs vr v w')
theorem OpnQ.plain {R : Nat} {d : DK} {s : List Int} {S : Nat → Prop} {w : World} {e : Ending} {w' : World} (h : OpnQ R d s S w e w') : OpnP R d s S w e w' := by
  rcases h with h | ⟨h1, v, Q, vs, vr, U', lo, hi, h2, h3, h4, h5, h6, h7, h8, h9, h10, h11, _⟩
  · exact .inl h
  · exact .inr ⟨h1, v, Q, vs, vr, U', lo, hi, h2, h3, h4, h5, h6, h7, h8, h9, h10, h11⟩
def OpenQ : Prop := ∀ (R : Nat) (A : Option Addr) (n c : Nat) (s : List Int) (d : DK) (S : Nat → Prop) (w : World), Tab w → ¬ S 0 → DkP w R d S → Reads w w.heap.size 1 A n (bts s) → n ≤ c → Bytes s → DkB d → Free S A n → n ≤ 1073741824 →
  ∀ (M m : Nat), d.fit M m → M ≤ 1073741824 → m ≤ 1152921504606846976 → Calls Tryd.prog 21 #[.pointer (some ⟨R, 0, none⟩), .slice A n c] w (OpnQ R d s S w)
theorem len_nil {l : List Int} : (l.length = 0) = (l = []) := by simp
theorem opsOld_1 (d : DK) : opsOld d 1 = (if d.f0.all.length = 0 then [] else [.T 0 0]) ++ ((if fend d.f1.all < d.f1.all.length then [.T 1 (fend d.f1.all : Nat)] else []) ++ [.S 1]) := by
  simp only [len_nil]
  rfl
theorem opsOld_0 (d : DK) : opsOld d 0 = (if d.f1.all.length = 0 then [] else [.T 1 0]) ++ ((if fend d.f0.all < d.f0.all.length then [.T 0 (fend d.f0.all : Nat)] else []) ++ [.S 0]) := by
  simp only [len_nil]
  rfl
theorem opsNew_len (d : DK) (s : List Int) : opsNew d s = (if d.f0.all.length = 0 then [] else [.T 0 0]) ++ ([.A 0 (fg 1 s), .S 0] ++ (if d.f1.all.length = 0 then [] else [.T 1 0])) := by
  simp only [len_nil]
  rfl
theorem opn_old {d : DK} {s : List Int} (hs : s.length ≤ 1048568) (hon : d.on = true) {f : Int} (hf : fileOf d = f) (hg : gen (d.get f).all ≠ 0) (res : Int × DK) (hr : res = runs (opsOld d f) d) :
    opn d s = (res.1, res.2, if res.1 = 0 then some ⟨f, gen (d.get f).all, snap (d.get f).all, recs (d.get f).all, 0⟩ else none) := by
  unfold opn
  rw [if_neg (by omega), if_neg (by rw [hon]; simp), hf, if_neg hg, hr]
theorem opn_new {d : DK} {s : List Int} (hs : s.length ≤ 1048568) (hon : d.on = true) (hg : gen (d.get (fileOf d)).all = 0) (res : Int × DK) (hr : res = runs (opsNew d s) d) :
    opn d s = (res.1, res.2, if res.1 = 0 then some ⟨0, 1, s, [], 0⟩ else none) := by
  unfold opn
  rw [if_neg (by omega), if_neg (by rw [hon]; simp), if_pos hg, hr]
theorem ownL_rc {w : World} {B : Nat} {vr : Value} {ps : List Piece} (h : OwnL w B vr ps) (hf : ∀ p ∈ ps, p.l.length ≤ 4611686018427387904) : RcV w B w.heap.size vr (Piece.bytes ps) := by
  obtain ⟨A, c, e, hc, hrd⟩ := h.reads hf
  refine ⟨A, _, c, ps, e, rfl, hrd, ?_, fun p hp hn ad e2 => ?_⟩
  · rcases h.row.2 with ⟨e2, _⟩ | ⟨g, cap, cur, e2, hbg, hh, hnc, hcm, hsz, _⟩
    · rw [e] at e2; injection e2 with e3 e4 e5
      exact .inl ⟨e3, e4, e5⟩
    · rw [e] at e2; injection e2 with e3 e4 e5
      subst e3; subst e5
      refine .inr ⟨g, 0, cur, rfl, hbg, ?_, hh, by omega, by omega, hcm⟩
      exact (Array.getElem?_eq_some_iff.1 hh).1
  · have h1 := h.each p hp
    exact own_base h1 ad.block (block_own (A := p.a) (n := p.n) (c := p.c) (h1.mono (Nat.zero_le _)) e2)
theorem rc_none (w : World) (B hi : Nat) : RcV w B hi (.slice none 0 0) [] := ⟨none, 0, 0, [], rfl, rfl, ⟨⟨rfl, fun h => absurd h (by omega)⟩, fun p hp => by simp at hp⟩, .inl ⟨rfl, rfl, rfl⟩, fun p hp => by simp at hp⟩
theorem own_sn {w : World} {B : Nat} {A : Option Addr} {n c : Nat} {l : List Int} (h : OwnB w B (.slice A n c) l) : SnV w B w.heap.size (.slice A n c) l := by
  have hl := own_len h
  exact ⟨A, n, c, rfl, hl.2, hl.1, own_reads h, fun _ ad e => own_base h ad.block (block_own (h.mono (Nat.zero_le _)) e)⟩
theorem OnV.modT {wT w wi : World} {R Q : Nat} {U T : Nat → Prop} {d : DK} {v : VK} (h : OnV w R Q U T wT d (vcv R v) wi) (hg : v.g ≤ 4611686018427387904) : ∃ U', ModP wi Q R d v U' ∧ Turned U w wi ∧ From U U' w ∧ ∀ b, U' b → ¬ T b := by
  obtain ⟨S', h1, t, f, ap, hq⟩ := h.ex
  refine ⟨fun b => S' b ∨ b = Q, ⟨S', fun b => b = Q, h1, ⟨h.blk, hg, rfl⟩, fun b hb hQ => hq (hQ ▸ hb), rfl⟩, t, ?_, ?_⟩
  · rintro b (hb | rfl)
    · exact f b hb
    · exact h.uq
  · rintro b (hb | rfl)
    · exact ap b hb
    · exact h.tq
/-- A vault that has just been made, over a disk that nobody has touched yet. -/
theorem OnV.born {w w6 : World} {R Q : Nat} {S : Nat → Prop} {d : DK} {cs : Array Value} (hd : DkP w R d S) (hb : Below w.heap.size w w6) (hk : Blk w6 Q 68 cs) (hQ : w.heap.size ≤ Q) :
    OnV w R Q S (fun b => w.heap.size ≤ b ∧ b < w6.heap.size ∧ b ≠ Q) w6 d cs w6 :=
  ⟨⟨S, hd.next hb, Turned.of hb (Nat.le_refl _) _, From.refl _ _, fun b hb' hT => by have := hd.lt b hb'; omega, fun hq => by have := hd.lt Q hq; omega⟩, hk, ⟨Nat.le_refl _, fun _ _ => rfl⟩, fun b hT => hT.2.1, fun hT => hT.2.2 rfl, .inr hQ⟩
set_option maxRecDepth 100000 in
set_option maxHeartbeats 8000000 in
theorem openQ (encC : EncC) (endC : EndC) (framesC : FramesCL) : OpenQ := by
  intro R A n c s d S w ht hS0 hd hr hnc hby hB hfree hn M m hfit hM hmm
  have HL : Hid (s.length = n) := Lib.hid (by have := hr.1; simpa using this)
  have HX := Lib.hid (firstP_any encC 1 (by omega) A n c s w ht hr hnc hby (by omega))
  have HT := Lib.hid ht
  have HD := Lib.hid hd
  have HR := Lib.hid hr
  have HBy := Lib.hid hby
  have HB := Lib.hid hB
  have HF := Lib.hid hfit
  have HSl : Hid (∀ b, S b → b < w.heap.size) := Lib.hid hd.lt
  have HE := Lib.hid endC
  have HFr := Lib.hid framesC
  clear ht hd hr hby hB hfree hfit encC endC framesC
  go_enter Tryd.func21, Tryd.ntmps21
  go_wp2_with fail
  refine HX.out.mono ?_
  rintro e w1 ⟨hb1, hq⟩
  rcases hq with ⟨hl1, A1, n1, c1, rfl, ho1⟩ | ⟨hl1, rfl⟩
  case inr =>
    have HO : Hid (opn d s = (3, d, none)) := Lib.hid (by unfold opn; rw [if_pos hl1])
    have HB1 := Lib.hid hb1
    clear hb1 hl1 HX
    go_wp2
    (try simp only [Exit.inBlock, Exit.then]); refine bodyPost_ret (results_tmp4 rfl _ _ _) rfl ?_
    refine .inl ⟨by rw [HO.out]; show (3 : Int) ≠ 0; decide, by rw [HO.out]; rfl, S, by rw [HO.out]; exact HD.out.next HB1.out, Turned.of HB1.out (Nat.le_refl _) S, From.refl _ _⟩
  case inl =>
    have HB1 := Lib.hid hb1
    have HO1 := Lib.hid ho1
    have HL1 := Lib.hid hl1
    have HX2 := Lib.hid (both_any HE.out HFr.out R d S w1 (HT.out.next hb1) (HD.out.next hb1) HB.out M m HF.out hM)
    have hs1 : w.heap.size ≤ w1.heap.size := hb1.size
    clear hb1 ho1 hl1 HX
    go_wp2_with fail
    refine HX2.out.mono ?_
    rintro e w2 ⟨hb2, hq⟩
    rcases hq with ⟨hon, vs0, vr0, vs1, vr1, rfl, hg0, hg1⟩ | ⟨hon, rfl⟩
    case inr =>
      have HO : Hid (opn d s = (40, d, none)) := Lib.hid (by unfold opn; rw [if_neg (by have := HL1.out; omega), if_pos hon])
      have HB2 := Lib.hid (HB1.out.trans (hb2.mono hs1))
      clear hb2 hon HX2
      rw [show (zerC ++ zerC).toArray = #[.int .u64 0, .slice none 0 0, .slice none 0 0, .int .i64 0, .int .i64 0, .int .u64 0, .slice none 0 0, .slice none 0 0, .int .i64 0, .int .i64 0] from rfl]
      go_wp2
      (try simp only [Exit.inBlock, Exit.then]); refine bodyPost_ret (results_tmp4 rfl _ _ _) rfl ?_
      refine .inl ⟨by rw [HO.out]; show (40 : Int) ≠ 0; decide, by rw [HO.out]; rfl, S, by rw [HO.out]; exact HD.out.next (HB2.out.alloc (by have := HB2.out.size; omega) _), Turned.of (HB2.out.alloc (by have := HB2.out.size; omega) _) (Nat.le_refl _) S, From.refl _ _⟩
    case inl =>
      obtain ⟨As0, ns0, cs0, Ar0, nr0, cr0, rfl, rfl⟩ := hg0.slices
      obtain ⟨As1, ns1, cs1, Ar1, nr1, cr1, rfl, rfl⟩ := hg1.slices
      obtain ⟨g0, hgg0⟩ : ∃ x, x = gen d.f0.all := ⟨_, rfl⟩
      obtain ⟨l0, hll0⟩ : ∃ x, x = d.f0.all.length := ⟨_, rfl⟩
      obtain ⟨e0, hee0⟩ : ∃ x, x = fend d.f0.all := ⟨_, rfl⟩
      obtain ⟨g1, hgg1⟩ : ∃ x, x = gen d.f1.all := ⟨_, rfl⟩
      obtain ⟨l1, hll1⟩ : ∃ x, x = d.f1.all.length := ⟨_, rfl⟩
      obtain ⟨e1, hee1⟩ : ∃ x, x = fend d.f1.all := ⟨_, rfl⟩
      have EQ : Hid (g0 = gen d.f0.all ∧ l0 = d.f0.all.length ∧ e0 = fend d.f0.all ∧ g1 = gen d.f1.all ∧ l1 = d.f1.all.length ∧ e1 = fend d.f1.all) := Lib.hid ⟨hgg0, hll0, hee0, hgg1, hll1, hee1⟩
      have HC : Hid ((conC d.f0.all (.slice As0 ns0 cs0) (.slice Ar0 nr0 cr0) ++ conC d.f1.all (.slice As1 ns1 cs1) (.slice Ar1 nr1 cr1)).toArray = #[.int .u64 (g0 : Int), .slice As0 ns0 cs0, .slice Ar0 nr0 cr0, .int .i64 (l0 : Int), .int .i64 (e0 : Int), .int .u64 (g1 : Int), .slice As1 ns1 cs1, .slice Ar1 nr1 cr1, .int .i64 (l1 : Int), .int .i64 (e1 : Int)]) := Lib.hid (by unfold conC; rw [← hgg0, ← hll0, ← hee0, ← hgg1, ← hll1, ← hee1]; rfl)
      have hl0 : l0 ≤ 1073741824 := by rw [hll0]; exact Nat.le_trans HF.out.l0 hM
      have hl1 : l1 ≤ 1073741824 := by rw [hll1]; exact Nat.le_trans HF.out.l1 hM
      have he0 : e0 ≤ 1073741824 := by rw [hee0]; exact Nat.le_trans (fend_le _) (by omega)
      have he1 : e1 ≤ 1073741824 := by rw [hee1]; exact Nat.le_trans (fend_le _) (by omega)
      have hq0 : g0 ≤ 4611686018427387904 := by rw [hgg0]; exact gen_le _
      have hq1 : g1 ≤ 4611686018427387904 := by rw [hgg1]; exact gen_le _
      have HOn := Lib.hid hon
      have HG0 := Lib.hid hg0
      have HG1 := Lib.hid hg1
      have HB2 := Lib.hid (HB1.out.trans (hb2.mono hs1))
      have HO2 := Lib.hid (HO1.out.keep hb2 (Nat.le_refl _))
      have hs2 : w1.heap.size ≤ w2.heap.size := hb2.size
      rw [HC.out]
      clear hb2 hon hg0 hg1 hgg0 hll0 hee0 hgg1 hll1 hee1 HX2 HO1
      have HN := Lib.hid (fun u => newer_any g0 g1 (.slice As0 ns0 cs0) (.slice Ar0 nr0 cr0) (.int .i64 (l0 : Int)) (.int .i64 (e0 : Int)) (.slice As1 ns1 cs1) (.slice Ar1 nr1 cr1) (.int .i64 (l1 : Int)) (.int .i64 (e1 : Int)) u)
      go_wp2_with fail
      obtain ⟨Fb, hFb⟩ : ∃ Fb, Fb = w2.heap.size := ⟨_, rfl⟩
      obtain ⟨w3, hw3⟩ : ∃ w3, w3 = w2.alloc (.cells #[.int .u64 (g0 : Int), .slice As0 ns0 cs0, .slice Ar0 nr0 cr0, .int .i64 (l0 : Int), .int .i64 (e0 : Int), .int .u64 (g1 : Int), .slice As1 ns1 cs1, .slice Ar1 nr1 cr1, .int .i64 (l1 : Int), .int .i64 (e1 : Int)] 76) := ⟨_, rfl⟩
      have hb3 : Below w2.heap.size w2 w3 := hw3 ▸ (Below.refl _ _).alloc (Nat.le_refl _) _
      have k3 : Blk w3 Fb 76 #[.int .u64 (g0 : Int), .slice As0 ns0 cs0, .slice Ar0 nr0 cr0, .int .i64 (l0 : Int), .int .i64 (e0 : Int), .int .u64 (g1 : Int), .slice As1 ns1 cs1, .slice Ar1 nr1 cr1, .int .i64 (l1 : Int), .int .i64 (e1 : Int)] := by rw [hw3, hFb]; exact Blk.new w2 _ _
      have HB3 := Lib.hid (HB2.out.trans (hb3.mono (by omega)))
      have HO3 := Lib.hid (HO2.out.keep hb3 (Nat.le_refl _))
      have HG03 := Lib.hid (HG0.out.below hb3)
      have HG13 := Lib.hid (HG1.out.below hb3)
      have HK3 := Lib.hid k3
      have hs3 : w2.heap.size ≤ w3.heap.size := hb3.size
      rw [← hw3, ← hFb]
      have HFb := Lib.hid hFb
      have hb3' := hb3
      clear hw3 hFb hb3 k3 HO2
      refine (HN.out w3).mono ?_
      rintro e w4 ⟨rfl, hb4⟩
      have HB4 := Lib.hid (HB3.out.trans (hb4.mono (by omega)))
      have HO4 := Lib.hid (HO3.out.keep hb4 (Nat.le_refl _))
      have HG04 := Lib.hid (HG03.out.below hb4)
      have HG14 := Lib.hid (HG13.out.below hb4)
      have k4 := HK3.out.below hb4 HK3.out.lt
      have HK4 := Lib.hid k4
      have hs4 : w3.heap.size ≤ w4.heap.size := hb4.size
      have hFb4 : Fb < w4.heap.size := k4.lt
      have z0 : w4.cell? ⟨Fb, 0, none⟩ = some (.int .u64 (g0 : Int)) := k4.cell 0
      have z1 : w4.cell? ⟨Fb, 1, none⟩ = some (.slice As0 ns0 cs0) := k4.cell 1
      have z2 : w4.cell? ⟨Fb, 2, none⟩ = some (.slice Ar0 nr0 cr0) := k4.cell 2
      have z3 : w4.cell? ⟨Fb, 3, none⟩ = some (.int .i64 (l0 : Int)) := k4.cell 3
      have z4 : w4.cell? ⟨Fb, 4, none⟩ = some (.int .i64 (e0 : Int)) := k4.cell 4
      have z5 : w4.cell? ⟨Fb, 5, none⟩ = some (.int .u64 (g1 : Int)) := k4.cell 5
      have z6 : w4.cell? ⟨Fb, 6, none⟩ = some (.slice As1 ns1 cs1) := k4.cell 6
      have z7 : w4.cell? ⟨Fb, 7, none⟩ = some (.slice Ar1 nr1 cr1) := k4.cell 7
      have z8 : w4.cell? ⟨Fb, 8, none⟩ = some (.int .i64 (l1 : Int)) := k4.cell 8
      have z9 : w4.cell? ⟨Fb, 9, none⟩ = some (.int .i64 (e1 : Int)) := k4.cell 9
      have HB24 := Lib.hid (hb3'.trans (hb4.mono hs3))
      clear hb3' hb4 k4 HO3 HG03 HG13 HK3
      by_cases hc : g0 < g1
      · rw [if_pos hc]
        have hgp : 0 < g1 := by omega
        go_wp2_with fail
        obtain ⟨Q, hQ⟩ : ∃ Q, Q = w4.heap.size := ⟨_, rfl⟩
        obtain ⟨Gb, hGb⟩ : ∃ Gb, Gb = Q + 1 := ⟨_, rfl⟩
        obtain ⟨w5, hw5⟩ : ∃ w5, w5 = (w4.alloc (.cells #[.pointer (some ⟨R, 0, none⟩), .int .i64 1, .int .u64 0, .int .i64 0, .int .i64 0] 68)).alloc (.cells #[.int .u64 (g1 : Int), .slice As1 ns1 cs1, .slice Ar1 nr1 cr1, .int .i64 (l1 : Int), .int .i64 (e1 : Int)] 75) := ⟨_, rfl⟩
        have hb5 : Below w4.heap.size w4 w5 := by rw [hw5]; exact ((Below.refl _ _).alloc (Nat.le_refl _) _).alloc (by simp) _
        have kQ5 : Blk w5 Q 68 #[.pointer (some ⟨R, 0, none⟩), .int .i64 1, .int .u64 0, .int .i64 0, .int .i64 0] := by rw [hw5, hQ]; exact (Blk.new w4 _ _).alloc _
        have kG5 : Blk w5 Gb 75 #[.int .u64 (g1 : Int), .slice As1 ns1 cs1, .slice Ar1 nr1 cr1, .int .i64 (l1 : Int), .int .i64 (e1 : Int)] := by
          have := Blk.new (w4.alloc (.cells #[.pointer (some ⟨R, 0, none⟩), .int .i64 1, .int .u64 0, .int .i64 0, .int .i64 0] 68)) 75 #[.int .u64 (g1 : Int), .slice As1 ns1 cs1, .slice Ar1 nr1 cr1, .int .i64 (l1 : Int), .int .i64 (e1 : Int)]
          rw [World.size_alloc, ← hQ, ← hGb] at this
          rw [hw5]; exact this
        rw [← hw5, ← hQ, ← hGb]
        refine (counts_any g1 true (by simp; omega) _ _ _ _ w5).mono ?_
        rintro e w6 ⟨rfl, hb6⟩
        have hs5 : w4.heap.size ≤ w5.heap.size := hb5.size
        have hs6 : w5.heap.size ≤ w6.heap.size := hb6.size
        have hQs : w4.heap.size ≤ Q ∧ Q < w4.heap.size + 1 := by omega
        have hGs : Q < Gb ∧ Gb < Q + 2 := by omega
        have kQ6 := kQ5.below hb6 kQ5.lt
        have kG6 := kG5.below hb6 kG5.lt
        have kF6 := (HK4.out.below hb5 HK4.out.lt).below hb6 (by omega)
        have HB6 := Lib.hid ((HB4.out.trans (hb5.mono (by omega))).trans (hb6.mono (by omega)))
        have HB46 := Lib.hid (hb5.trans (hb6.mono hs5))
        have hGl : Gb < w6.heap.size := kG6.lt
        have y0 : w6.cell? ⟨Fb, 0, none⟩ = some (.int .u64 (g0 : Int)) := kF6.cell 0
        have y1 : w6.cell? ⟨Fb, 1, none⟩ = some (.slice As0 ns0 cs0) := kF6.cell 1
        have y2 : w6.cell? ⟨Fb, 2, none⟩ = some (.slice Ar0 nr0 cr0) := kF6.cell 2
        have y3 : w6.cell? ⟨Fb, 3, none⟩ = some (.int .i64 (l0 : Int)) := kF6.cell 3
        have y4 : w6.cell? ⟨Fb, 4, none⟩ = some (.int .i64 (e0 : Int)) := kF6.cell 4
        have y5 : w6.cell? ⟨Fb, 5, none⟩ = some (.int .u64 (g1 : Int)) := kF6.cell 5
        have y6 : w6.cell? ⟨Fb, 6, none⟩ = some (.slice As1 ns1 cs1) := kF6.cell 6
        have y7 : w6.cell? ⟨Fb, 7, none⟩ = some (.slice Ar1 nr1 cr1) := kF6.cell 7
        have y8 : w6.cell? ⟨Fb, 8, none⟩ = some (.int .i64 (l1 : Int)) := kF6.cell 8
        have y9 : w6.cell? ⟨Fb, 9, none⟩ = some (.int .i64 (e1 : Int)) := kF6.cell 9
        obtain ⟨T, hT⟩ : ∃ T : Nat → Prop, T = fun b => w.heap.size ≤ b ∧ b < w6.heap.size ∧ b ≠ Q := ⟨_, rfl⟩
        have HTi : Hid (∀ b, w.heap.size ≤ b → b < w6.heap.size → b ≠ Q → T b) := Lib.hid (fun b h1 h2 h3 => by rw [hT]; exact ⟨h1, h2, h3⟩)
        obtain ⟨res, hres⟩ : ∃ res, res = runs (opsOld d 1) d := ⟨_, rfl⟩
        have HFo : Hid (fileOf d = 1) := Lib.hid (by unfold fileOf; rw [← EQ.out.1, ← EQ.out.2.2.2.1]; rw [if_pos hc])
        have HGn : Hid (gen (d.get 1).all ≠ 0) := Lib.hid (by show gen d.f1.all ≠ 0; rw [← EQ.out.2.2.2.1]; omega)
        have HO := Lib.hid (opn_old HL1.out HOn.out HFo.out HGn.out res hres)
        have HRun : Hid (RunV w R Q S T w6 1 (.int .u64 0) (.int .i64 0) res M m ((if l0 = 0 then [] else [.T 0 0]) ++ ((if e1 < l1 then [.T 1 (e1 : Nat)] else []) ++ [.S 1])) 0 w6) := Lib.hid (by
          refine ⟨d, by rw [hT]; exact OnV.born HD.out HB6.out kQ6 (by omega), .inl ⟨rfl, HF.out, ?_⟩⟩
          rw [hres, opsOld_1, ← EQ.out.2.1, ← EQ.out.2.2.2.2.1, ← EQ.out.2.2.2.2.2])
        have HTd := Lib.hid (vtidy1_any g0 l0 e0 g1 l1 e1 hl0 hl1 he0 he1 As0 ns0 cs0 Ar0 nr0 cr0 As1 ns1 cs1 Ar1 nr1 cr1 HRun.out (by omega) (by omega))
        have HKG := Lib.hid kG6
        clear hb5 hb6 kQ5 kG5 kQ6 kG6 kF6 hT hres hw5 hQ hGb
        go_wp2_with fail
        refine HTd.out.mono ?_
        rintro e w7 ⟨rfl, x', hR7⟩
        obtain ⟨hx, hon7⟩ := hR7.out
        have q4 : w7.cell? ⟨Q, 4, none⟩ = some (.int .i64 x') := hR7.cells.2.2.1
        have q2 : w7.cell? ⟨Q, 2, none⟩ = some (.int .u64 0) := by rw [hon7.blk.cell]; rfl
        have q3 : w7.cell? ⟨Q, 3, none⟩ = some (.int .i64 0) := by rw [hon7.blk.cell]; rfl
        have fq2 : w7.frozen? ⟨Q, 2, none⟩ = false := hon7.blk.frozen 2
        have fq3 : w7.frozen? ⟨Q, 3, none⟩ = false := hon7.blk.frozen 3
        have kG7 := (hR7.stay.2 Gb (HTi.out Gb (by omega) (by omega) (by omega))).trans HKG.out
        replace kG7 : Blk w7 Gb 75 #[.int .u64 (g1 : Int), .slice As1 ns1 cs1, .slice Ar1 nr1 cr1, .int .i64 (l1 : Int), .int .i64 (e1 : Int)] := kG7
        have h0 : w7.cell? ⟨Gb, 0, none⟩ = some (.int .u64 (g1 : Int)) := kG7.cell 0
        have h1 : w7.cell? ⟨Gb, 1, none⟩ = some (.slice As1 ns1 cs1) := kG7.cell 1
        have h2 : w7.cell? ⟨Gb, 2, none⟩ = some (.slice Ar1 nr1 cr1) := kG7.cell 2
        have h3 : w7.cell? ⟨Gb, 3, none⟩ = some (.int .i64 (l1 : Int)) := kG7.cell 3
        have h4 : w7.cell? ⟨Gb, 4, none⟩ = some (.int .i64 (e1 : Int)) := kG7.cell 4
        have HXx := Lib.hid hx
        have HOn7 := Lib.hid hon7
        have hs7 : w6.heap.size ≤ w7.heap.size := hR7.stay.1
        clear hR7 hx hon7 kG7 HTd
        by_cases hz : x' = 0
        · have HZ := Lib.hid hz
          rw [hz] at q4
          clear hz
          go_wp2
          go_region
          go_wp2
          go_region
          go_wp2
          (try simp only [Exit.inBlock, Exit.then]); refine bodyPost_ret (results_tmp4 rfl _ _ _) rfl ?_
          have e0 : res.1 = 0 := by rw [← HXx.out, HZ.out]
          rcases HG1.out with ⟨hg0, _⟩ | ⟨_, hsn, ps, hLr, hps⟩
          · exact absurd hg0 HGn.out
          have hlen : (recs (d.get 1).all).length = nr1 := by
            obtain ⟨A', c', e, _, _⟩ := reads_own hLr.row
            injection e with _ e2 _
            rw [← show Piece.bytes ps = recs (d.get 1).all from hps, Piece.bytes, List.length_map, e2]
          have h1 := (HOn7.out.set 2 (.int .u64 (g1 : Int))).set 3 (.int .i64 (nr1 : Int))
          have e1 : ((vcs R 1 (.int .u64 0) (.int .i64 0) x').setIfInBounds 2 (.int .u64 (g1 : Int))).setIfInBounds 3 (.int .i64 (nr1 : Int)) = vcv R ⟨1, gen (d.get 1).all, snap (d.get 1).all, recs (d.get 1).all, 0⟩ := by
            unfold vcv vcs
            simp [HZ.out, hlen, show gen (d.get 1).all = g1 from EQ.out.2.2.2.1.symm]
          rw [e1] at h1
          have hbd : ∀ W : World, Below W.heap.size W W.drew.drew := fun W => below_drewN (Below.refl W.heap.size W) 2
          replace h1 := h1.next (hbd _)
          obtain ⟨U', hm, ht, hfr, hap⟩ := h1.modT (by exact gen_le _)
          obtain ⟨w9, hw9⟩ : ∃ w9, w9 = ((w7.setCell ⟨Q, 2, none⟩ (.int .u64 (g1 : Int))).setCell ⟨Q, 3, none⟩ (.int .i64 (nr1 : Int))).drew.drew := ⟨_, rfl⟩
          have hk : ∀ b, w1.heap.size ≤ b → b < w2.heap.size → w9.heap[b]? = w2.heap[b]? := fun b h2 h3 => by
            rw [hw9]
            refine ((hbd _).block b (by simp [World.setCell]; omega)).trans <| (Below.heap_setCell _ ⟨Q, 3, none⟩ _ b (by show ¬ b = Q; omega)).trans ((Below.heap_setCell w7 ⟨Q, 2, none⟩ _ b (by show ¬ b = Q; omega)).trans ((HOn7.out.stay.2 b (HTi.out b (by omega) (by omega) (by omega))).trans ?_))
            exact (HB46.out.block b (by omega)).trans ((HB24.out.block b (by omega)))
          have hs9 : w2.heap.size ≤ w9.heap.size := by rw [hw9]; simp [World.setCell]; omega
          rw [← hw9] at hm ht ⊢
          have hrc : RcV w2 w1.heap.size w2.heap.size (.slice Ar1 nr1 cr1) (recs (d.get 1).all) := by
            rw [← show Piece.bytes ps = recs (d.get 1).all from hps]
            refine ownL_rc hLr (fun p hp => ?_)
            have h4 : p.l ∈ recs d.f1.all := by rw [← hps]; exact List.mem_map.2 ⟨p, hp, rfl⟩
            have h5 := frames_fit d.f1.all p.l (List.mem_of_mem_tail h4)
            omega
          refine .inr ⟨by rw [HO.out]; exact e0, ⟨1, gen (d.get 1).all, snap (d.get 1).all, recs (d.get 1).all, 0⟩, Q, .slice As1 ns1 cs1, .slice Ar1 nr1 cr1, U', w1.heap.size, w2.heap.size, by rw [HO.out]; simp [e0], rfl, by rw [HO.out]; exact hm, ht, hfr, hs1, hs9, SnV.stay hsn hk, hrc.stay hk, fun b hb hT => hap b hb (HTi.out b (by omega) (by omega) (by omega)), w2, rfl, hk, fun h => absurd h (by rw [HFo.out]; exact HGn.out), ps, hLr, hps⟩
        · have tx : (x' != 0) = true := by simpa using hz
          have HZ := Lib.hid hz
          clear hz
          go_wp2
          go_region
          go_wp2
          (try simp only [Exit.inBlock, Exit.then]); refine bodyPost_ret (results_tmp4 rfl _ _ _) rfl ?_
          have e0 : res.1 ≠ 0 := by rw [← HXx.out]; exact HZ.out
          obtain ⟨S', q1, q2', q3', _⟩ := (HOn7.out.next (w' := w7.drew) (below_drewN (Below.refl _ _) 1)).ex
          exact .inl ⟨by rw [HO.out]; exact e0, by rw [HO.out, HXx.out]; rfl, S', by rw [HO.out]; exact q1, q2', q3'⟩
      · rw [if_neg hc]
        by_cases hz0 : g0 = 0
        case' neg => skip
        case pos =>
          have HZ0 := Lib.hid hz0
          clear hz0
          go_wp2_with fail
          obtain ⟨Q, hQ⟩ : ∃ Q, Q = w4.heap.size := ⟨_, rfl⟩
          obtain ⟨Gb, hGb⟩ : ∃ Gb, Gb = Q + 1 := ⟨_, rfl⟩
          obtain ⟨w5, hw5⟩ : ∃ w5, w5 = (w4.alloc (.cells #[.pointer (some ⟨R, 0, none⟩), .int .i64 0, .int .u64 0, .int .i64 0, .int .i64 0] 68)).alloc (.cells #[.int .u64 (g0 : Int), .slice As0 ns0 cs0, .slice Ar0 nr0 cr0, .int .i64 (l0 : Int), .int .i64 (e0 : Int)] 75) := ⟨_, rfl⟩
          have hb5 : Below w4.heap.size w4 w5 := by rw [hw5]; exact ((Below.refl _ _).alloc (Nat.le_refl _) _).alloc (by simp) _
          have kQ5 : Blk w5 Q 68 #[.pointer (some ⟨R, 0, none⟩), .int .i64 0, .int .u64 0, .int .i64 0, .int .i64 0] := by rw [hw5, hQ]; exact (Blk.new w4 _ _).alloc _
          have kG5 : Blk w5 Gb 75 #[.int .u64 (g0 : Int), .slice As0 ns0 cs0, .slice Ar0 nr0 cr0, .int .i64 (l0 : Int), .int .i64 (e0 : Int)] := by
            have := Blk.new (w4.alloc (.cells #[.pointer (some ⟨R, 0, none⟩), .int .i64 0, .int .u64 0, .int .i64 0, .int .i64 0] 68)) 75 #[.int .u64 (g0 : Int), .slice As0 ns0 cs0, .slice Ar0 nr0 cr0, .int .i64 (l0 : Int), .int .i64 (e0 : Int)]
            rw [World.size_alloc, ← hQ, ← hGb] at this
            rw [hw5]; exact this
          rw [← hw5, ← hQ, ← hGb]
          refine (counts_any g0 false (by have := HZ0.out; simp; omega) _ _ _ _ w5).mono ?_
          rintro e w6 ⟨rfl, hb6⟩
          have hs5 : w4.heap.size ≤ w5.heap.size := hb5.size
          have hs6 : w5.heap.size ≤ w6.heap.size := hb6.size
          have hQs : w4.heap.size ≤ Q ∧ Q < w4.heap.size + 1 := by omega
          have hGs : Q < Gb ∧ Gb < Q + 2 := by omega
          have kQ6 := kQ5.below hb6 kQ5.lt
          have kG6 := kG5.below hb6 kG5.lt
          have kF6 := (HK4.out.below hb5 HK4.out.lt).below hb6 (by omega)
          have HB6 := Lib.hid ((HB4.out.trans (hb5.mono (by omega))).trans (hb6.mono (by omega)))
          have HB46 := Lib.hid (hb5.trans (hb6.mono hs5))
          have hGl : Gb < w6.heap.size := kG6.lt
          have y0 : w6.cell? ⟨Fb, 0, none⟩ = some (.int .u64 (g0 : Int)) := kF6.cell 0
          have y1 : w6.cell? ⟨Fb, 1, none⟩ = some (.slice As0 ns0 cs0) := kF6.cell 1
          have y2 : w6.cell? ⟨Fb, 2, none⟩ = some (.slice Ar0 nr0 cr0) := kF6.cell 2
          have y3 : w6.cell? ⟨Fb, 3, none⟩ = some (.int .i64 (l0 : Int)) := kF6.cell 3
          have y4 : w6.cell? ⟨Fb, 4, none⟩ = some (.int .i64 (e0 : Int)) := kF6.cell 4
          have y5 : w6.cell? ⟨Fb, 5, none⟩ = some (.int .u64 (g1 : Int)) := kF6.cell 5
          have y6 : w6.cell? ⟨Fb, 6, none⟩ = some (.slice As1 ns1 cs1) := kF6.cell 6
          have y7 : w6.cell? ⟨Fb, 7, none⟩ = some (.slice Ar1 nr1 cr1) := kF6.cell 7
          have y8 : w6.cell? ⟨Fb, 8, none⟩ = some (.int .i64 (l1 : Int)) := kF6.cell 8
          have y9 : w6.cell? ⟨Fb, 9, none⟩ = some (.int .i64 (e1 : Int)) := kF6.cell 9
          have HRd6 : Hid (Reads w6 w6.heap.size 1 A n (bts s)) := Lib.hid ((HR.out.below HB6.out).more HB6.out.size)
          have HCl := Lib.hid (clone_code A n c s w6 HRd6.out (by omega))
          have HKG := Lib.hid kG6
          have HKQ := Lib.hid kQ6
          have HKF := Lib.hid kF6
          clear hb5 hb6 kQ5 kG5 kQ6 kG6 kF6 hw5 hQ hGb
          go_wp2_with fail
          refine HCl.out.mono ?_
          rintro e wc ⟨vc, rfl, hoc, hbc⟩
          obtain ⟨Ac, nc, cc, rfl⟩ := own_slice hoc
          have hsc : w6.heap.size ≤ wc.heap.size := hbc.size
          have kGc := HKG.out.below hbc HKG.out.lt
          have kQc := HKQ.out.below hbc HKQ.out.lt
          have kFc := HKF.out.below hbc HKF.out.lt
          have HBc := Lib.hid (HB6.out.trans (hbc.mono (by omega)))
          have HOc := Lib.hid hoc
          have u0 : wc.cell? ⟨Gb, 0, none⟩ = some (.int .u64 (g0 : Int)) := kGc.cell 0
          have u1 : wc.cell? ⟨Gb, 1, none⟩ = some (.slice As0 ns0 cs0) := kGc.cell 1
          have u2 : wc.cell? ⟨Gb, 2, none⟩ = some (.slice Ar0 nr0 cr0) := kGc.cell 2
          have u3 : wc.cell? ⟨Gb, 3, none⟩ = some (.int .i64 (l0 : Int)) := kGc.cell 3
          have u4 : wc.cell? ⟨Gb, 4, none⟩ = some (.int .i64 (e0 : Int)) := kGc.cell 4
          have fu0 : wc.frozen? ⟨Gb, 0, none⟩ = false := kGc.frozen 0
          have fu1 : wc.frozen? ⟨Gb, 1, none⟩ = false := kGc.frozen 1
          have fu2 : wc.frozen? ⟨Gb, 2, none⟩ = false := kGc.frozen 2
          have fu3 : wc.frozen? ⟨Gb, 3, none⟩ = false := kGc.frozen 3
          have fu4 : wc.frozen? ⟨Gb, 4, none⟩ = false := kGc.frozen 4
          have v0 : wc.cell? ⟨Fb, 0, none⟩ = some (.int .u64 (g0 : Int)) := kFc.cell 0
          have v1 : wc.cell? ⟨Fb, 1, none⟩ = some (.slice As0 ns0 cs0) := kFc.cell 1
          have v2 : wc.cell? ⟨Fb, 2, none⟩ = some (.slice Ar0 nr0 cr0) := kFc.cell 2
          have v3 : wc.cell? ⟨Fb, 3, none⟩ = some (.int .i64 (l0 : Int)) := kFc.cell 3
          have v4 : wc.cell? ⟨Fb, 4, none⟩ = some (.int .i64 (e0 : Int)) := kFc.cell 4
          have v5 : wc.cell? ⟨Fb, 5, none⟩ = some (.int .u64 (g1 : Int)) := kFc.cell 5
          have v6 : wc.cell? ⟨Fb, 6, none⟩ = some (.slice As1 ns1 cs1) := kFc.cell 6
          have v7 : wc.cell? ⟨Fb, 7, none⟩ = some (.slice Ar1 nr1 cr1) := kFc.cell 7
          have v8 : wc.cell? ⟨Fb, 8, none⟩ = some (.int .i64 (l1 : Int)) := kFc.cell 8
          have v9 : wc.cell? ⟨Fb, 9, none⟩ = some (.int .i64 (e1 : Int)) := kFc.cell 9
          obtain ⟨w8, hw8, k8, hbl8, hq8, hs8⟩ := five_setO kGc 0 (.int .u64 1) (.slice Ac nc cc) (.slice none 0 0) (.int .i64 0) (.int .i64 0)
          simp only [Nat.zero_add] at hw8
          have kG8 : Blk w8 Gb 75 #[.int .u64 1, .slice Ac nc cc, .slice none 0 0, .int .i64 0, .int .i64 0] := k8
          have kQ8 : Blk w8 Q 68 #[.pointer (some ⟨R, 0, none⟩), .int .i64 0, .int .u64 0, .int .i64 0, .int .i64 0] := (hq8 Q (by omega)).trans kQc
          have HB8 := Lib.hid (hbl8 _ _ (by omega) HBc.out)
          have HQ8 := Lib.hid hq8
          have HKG8 := Lib.hid kG8
          have HW8 := Lib.hid hw8
          obtain ⟨T, hT⟩ : ∃ T : Nat → Prop, T = fun b => w.heap.size ≤ b ∧ b < w8.heap.size ∧ b ≠ Q := ⟨_, rfl⟩
          have HTi : Hid (∀ b, w.heap.size ≤ b → b < w8.heap.size → b ≠ Q → T b) := Lib.hid (fun b h1 h2 h3 => by rw [hT]; exact ⟨h1, h2, h3⟩)
          obtain ⟨res, hres⟩ : ∃ res, res = runs (opsNew d s) d := ⟨_, rfl⟩
          have HFo : Hid (fileOf d = 0) := Lib.hid (by unfold fileOf; rw [← EQ.out.1, ← EQ.out.2.2.2.1]; rw [if_neg hc])
          have HGn : Hid (gen (d.get (fileOf d)).all = 0) := Lib.hid (by rw [HFo.out]; show gen d.f0.all = 0; rw [← EQ.out.1]; exact HZ0.out)
          have HO := Lib.hid (opn_new HL1.out HOn.out HGn.out res hres)
          have hn1 : n1 ≤ 1048592 := by have h1 := (own_len HO4.out).1; rw [fg_length] at h1; have := HL1.out; omega
          have HO8 : Hid (OwnB w8 w.heap.size (.slice A1 n1 c1) (fg 1 s)) := Lib.hid (by
            refine (((HO4.out.keep HB46.out (Nat.le_refl _)).keep hbc (Nat.le_refl _)).stay fun q e => ?_)
            have h1 := own_lt HO4.out q e
            exact hq8 q (by omega))
          have HRun : Hid (RunV w R Q S T w8 0 (.int .u64 0) (.int .i64 0) res M m ((if l0 = 0 then [] else [.T 0 0]) ++ ([.A 0 (fg 1 s), .S 0] ++ (if l1 = 0 then [] else [.T 1 0]))) 0 w8) := Lib.hid (by
            refine ⟨d, by rw [hT]; exact OnV.born HD.out HB8.out kQ8 (by omega), .inl ⟨rfl, HF.out, ?_⟩⟩
            rw [hres, opsNew_len, ← EQ.out.2.1, ← EQ.out.2.2.2.2.1])
          have HTA : Hid (0 < n1 → ∀ ad, A1 = some ad → T ad.block) := Lib.hid (fun h1 ad e => by
            have e1 := block_own (HO4.out.mono (Nat.zero_le _)) e
            have e2 := own_lt HO4.out _ e1
            have e3 := own_base HO4.out _ e1
            exact HTi.out _ e3 (by omega) (by omega))
          have HTd := Lib.hid (vbegin_any A1 n1 c1 (fg 1 s) l0 l1 hl0 hl1 (.int .u64 (g0 : Int)) (.slice As0 ns0 cs0) (.slice Ar0 nr0 cr0) (.int .i64 (e0 : Int)) (.int .u64 (g1 : Int)) (.slice As1 ns1 cs1) (.slice Ar1 nr1 cr1) (.int .i64 (e1 : Int)) HRun.out (own_reads HO8.out) HTA.out (by omega) (by omega))
          clear hoc hbc kGc kQc kFc k8 kG8 kQ8 hbl8 hT hres hw8
          go_wp2_with fail
          rw [← HW8.out]
          refine HTd.out.mono ?_
          rintro e w7 ⟨rfl, x', hR7⟩
          obtain ⟨hx, hon7⟩ := hR7.out
          have q4 : w7.cell? ⟨Q, 4, none⟩ = some (.int .i64 x') := hR7.cells.2.2.1
          have q2 : w7.cell? ⟨Q, 2, none⟩ = some (.int .u64 0) := by rw [hon7.blk.cell]; rfl
          have q3 : w7.cell? ⟨Q, 3, none⟩ = some (.int .i64 0) := by rw [hon7.blk.cell]; rfl
          have fq2 : w7.frozen? ⟨Q, 2, none⟩ = false := hon7.blk.frozen 2
          have fq3 : w7.frozen? ⟨Q, 3, none⟩ = false := hon7.blk.frozen 3
          have kG7 := (hR7.stay.2 Gb (HTi.out Gb (by omega) (by omega) (by omega))).trans HKG8.out
          replace kG7 : Blk w7 Gb 75 #[.int .u64 1, .slice Ac nc cc, .slice none 0 0, .int .i64 0, .int .i64 0] := kG7
          have h0 : w7.cell? ⟨Gb, 0, none⟩ = some (.int .u64 1) := kG7.cell 0
          have h1 : w7.cell? ⟨Gb, 1, none⟩ = some (.slice Ac nc cc) := kG7.cell 1
          have h2 : w7.cell? ⟨Gb, 2, none⟩ = some (.slice none 0 0) := kG7.cell 2
          have h3 : w7.cell? ⟨Gb, 3, none⟩ = some (.int .i64 0) := kG7.cell 3
          have h4 : w7.cell? ⟨Gb, 4, none⟩ = some (.int .i64 0) := kG7.cell 4
          have HXx := Lib.hid hx
          have HOn7 := Lib.hid hon7
          have hs7 : w8.heap.size ≤ w7.heap.size := hR7.stay.1
          clear hR7 hx hon7 kG7 HTd
          by_cases hz : x' = 0
          · have HZ := Lib.hid hz
            rw [hz] at q4
            clear hz
            go_wp2
            go_region
            go_wp2
            go_region
            go_wp2
            (try simp only [Exit.inBlock, Exit.then]); refine bodyPost_ret (results_tmp4 rfl _ _ _) rfl ?_
            have e0 : res.1 = 0 := by rw [← HXx.out, HZ.out]
            have h1 := (HOn7.out.set 2 (.int .u64 1)).set 3 (.int .i64 0)
            have e1 : ((vcs R 0 (.int .u64 0) (.int .i64 0) x').setIfInBounds 2 (.int .u64 1)).setIfInBounds 3 (.int .i64 0) = vcv R ⟨0, 1, s, [], 0⟩ := by
              unfold vcv vcs
              simp [HZ.out]
            rw [e1] at h1
            have hbd : ∀ W : World, Below W.heap.size W W.drew.drew := fun W => below_drewN (Below.refl W.heap.size W) 2
            replace h1 := h1.next (hbd _)
            obtain ⟨U', hm, ht, hfr, hap⟩ := h1.modT (by show 1 ≤ _; omega)
            obtain ⟨w9, hw9⟩ : ∃ w9, w9 = ((w7.setCell ⟨Q, 2, none⟩ (.int .u64 1)).setCell ⟨Q, 3, none⟩ (.int .i64 0)).drew.drew := ⟨_, rfl⟩
            have hk : ∀ b, w6.heap.size ≤ b → b < wc.heap.size → w9.heap[b]? = wc.heap[b]? := fun b h2 h3 => by
              rw [hw9]
              refine ((hbd _).block b (by simp [World.setCell]; omega)).trans <| (Below.heap_setCell _ ⟨Q, 3, none⟩ _ b (by show ¬ b = Q; omega)).trans ((Below.heap_setCell w7 ⟨Q, 2, none⟩ _ b (by show ¬ b = Q; omega)).trans ((HOn7.out.stay.2 b (HTi.out b (by omega) (by omega) (by omega))).trans ?_))
              exact HQ8.out b (by omega)
            have hs9 : wc.heap.size ≤ w9.heap.size := by rw [hw9]; simp [World.setCell]; omega
            rw [← hw9] at hm ht ⊢
            refine .inr ⟨by rw [HO.out]; exact e0, ⟨0, 1, s, [], 0⟩, Q, .slice Ac nc cc, .slice none 0 0, U', w6.heap.size, wc.heap.size, by rw [HO.out]; simp [e0], rfl, by rw [HO.out]; exact hm, ht, hfr, by omega, hs9, SnV.stay (own_sn HOc.out) hk, rc_none _ _ _, fun b hb hT => hap b hb (HTi.out b (by omega) (by omega) (by omega)), wc, rfl, hk, fun h => HOc.out, [], OwnL.none_ _ _, rfl⟩
          · have tx : (x' != 0) = true := by simpa using hz
            have HZ := Lib.hid hz
            clear hz
            go_wp2
            go_region
            go_wp2
            (try simp only [Exit.inBlock, Exit.then]); refine bodyPost_ret (results_tmp4 rfl _ _ _) rfl ?_
            have e0 : res.1 ≠ 0 := by rw [← HXx.out]; exact HZ.out
            obtain ⟨S', q1, q2', q3', _⟩ := (HOn7.out.next (w' := w7.drew) (below_drewN (Below.refl _ _) 1)).ex
            exact .inl ⟨by rw [HO.out]; exact e0, by rw [HO.out, HXx.out]; rfl, S', by rw [HO.out]; exact q1, q2', q3'⟩
        have hgp : 0 < g0 := by omega
        go_wp2_with fail
        obtain ⟨Q, hQ⟩ : ∃ Q, Q = w4.heap.size := ⟨_, rfl⟩
        obtain ⟨Gb, hGb⟩ : ∃ Gb, Gb = Q + 1 := ⟨_, rfl⟩
        obtain ⟨w5, hw5⟩ : ∃ w5, w5 = (w4.alloc (.cells #[.pointer (some ⟨R, 0, none⟩), .int .i64 0, .int .u64 0, .int .i64 0, .int .i64 0] 68)).alloc (.cells #[.int .u64 (g0 : Int), .slice As0 ns0 cs0, .slice Ar0 nr0 cr0, .int .i64 (l0 : Int), .int .i64 (e0 : Int)] 75) := ⟨_, rfl⟩
        have hb5 : Below w4.heap.size w4 w5 := by rw [hw5]; exact ((Below.refl _ _).alloc (Nat.le_refl _) _).alloc (by simp) _
        have kQ5 : Blk w5 Q 68 #[.pointer (some ⟨R, 0, none⟩), .int .i64 0, .int .u64 0, .int .i64 0, .int .i64 0] := by rw [hw5, hQ]; exact (Blk.new w4 _ _).alloc _
        have kG5 : Blk w5 Gb 75 #[.int .u64 (g0 : Int), .slice As0 ns0 cs0, .slice Ar0 nr0 cr0, .int .i64 (l0 : Int), .int .i64 (e0 : Int)] := by
          have := Blk.new (w4.alloc (.cells #[.pointer (some ⟨R, 0, none⟩), .int .i64 0, .int .u64 0, .int .i64 0, .int .i64 0] 68)) 75 #[.int .u64 (g0 : Int), .slice As0 ns0 cs0, .slice Ar0 nr0 cr0, .int .i64 (l0 : Int), .int .i64 (e0 : Int)]
          rw [World.size_alloc, ← hQ, ← hGb] at this
          rw [hw5]; exact this
        rw [← hw5, ← hQ, ← hGb]
        refine (counts_any g0 true (by simp; omega) _ _ _ _ w5).mono ?_
        rintro e w6 ⟨rfl, hb6⟩
        have hs5 : w4.heap.size ≤ w5.heap.size := hb5.size
        have hs6 : w5.heap.size ≤ w6.heap.size := hb6.size
        have hQs : w4.heap.size ≤ Q ∧ Q < w4.heap.size + 1 := by omega
        have hGs : Q < Gb ∧ Gb < Q + 2 := by omega
        have kQ6 := kQ5.below hb6 kQ5.lt
        have kG6 := kG5.below hb6 kG5.lt
        have kF6 := (HK4.out.below hb5 HK4.out.lt).below hb6 (by omega)
        have HB6 := Lib.hid ((HB4.out.trans (hb5.mono (by omega))).trans (hb6.mono (by omega)))
        have HB46 := Lib.hid (hb5.trans (hb6.mono hs5))
        have hGl : Gb < w6.heap.size := kG6.lt
        have y0 : w6.cell? ⟨Fb, 0, none⟩ = some (.int .u64 (g0 : Int)) := kF6.cell 0
        have y1 : w6.cell? ⟨Fb, 1, none⟩ = some (.slice As0 ns0 cs0) := kF6.cell 1
        have y2 : w6.cell? ⟨Fb, 2, none⟩ = some (.slice Ar0 nr0 cr0) := kF6.cell 2
        have y3 : w6.cell? ⟨Fb, 3, none⟩ = some (.int .i64 (l0 : Int)) := kF6.cell 3
        have y4 : w6.cell? ⟨Fb, 4, none⟩ = some (.int .i64 (e0 : Int)) := kF6.cell 4
        have y5 : w6.cell? ⟨Fb, 5, none⟩ = some (.int .u64 (g1 : Int)) := kF6.cell 5
        have y6 : w6.cell? ⟨Fb, 6, none⟩ = some (.slice As1 ns1 cs1) := kF6.cell 6
        have y7 : w6.cell? ⟨Fb, 7, none⟩ = some (.slice Ar1 nr1 cr1) := kF6.cell 7
        have y8 : w6.cell? ⟨Fb, 8, none⟩ = some (.int .i64 (l1 : Int)) := kF6.cell 8
        have y9 : w6.cell? ⟨Fb, 9, none⟩ = some (.int .i64 (e1 : Int)) := kF6.cell 9
        obtain ⟨T, hT⟩ : ∃ T : Nat → Prop, T = fun b => w.heap.size ≤ b ∧ b < w6.heap.size ∧ b ≠ Q := ⟨_, rfl⟩
        have HTi : Hid (∀ b, w.heap.size ≤ b → b < w6.heap.size → b ≠ Q → T b) := Lib.hid (fun b h1 h2 h3 => by rw [hT]; exact ⟨h1, h2, h3⟩)
        obtain ⟨res, hres⟩ : ∃ res, res = runs (opsOld d 0) d := ⟨_, rfl⟩
        have HFo : Hid (fileOf d = 0) := Lib.hid (by unfold fileOf; rw [← EQ.out.1, ← EQ.out.2.2.2.1]; rw [if_neg hc])
        have HGn : Hid (gen (d.get 0).all ≠ 0) := Lib.hid (by show gen d.f0.all ≠ 0; rw [← EQ.out.1]; omega)
        have HO := Lib.hid (opn_old HL1.out HOn.out HFo.out HGn.out res hres)
        have HRun : Hid (RunV w R Q S T w6 0 (.int .u64 0) (.int .i64 0) res M m ((if l1 = 0 then [] else [.T 1 0]) ++ ((if e0 < l0 then [.T 0 (e0 : Nat)] else []) ++ [.S 0])) 0 w6) := Lib.hid (by
          refine ⟨d, by rw [hT]; exact OnV.born HD.out HB6.out kQ6 (by omega), .inl ⟨rfl, HF.out, ?_⟩⟩
          rw [hres, opsOld_0, ← EQ.out.2.1, ← EQ.out.2.2.2.2.1, ← EQ.out.2.2.1])
        have HTd := Lib.hid (vtidy0_any g0 l0 e0 g1 l1 e1 hl0 hl1 he0 he1 As0 ns0 cs0 Ar0 nr0 cr0 As1 ns1 cs1 Ar1 nr1 cr1 HRun.out (by omega) (by omega))
        have HKG := Lib.hid kG6
        clear hb5 hb6 kQ5 kG5 kQ6 kG6 kF6 hT hres hw5 hQ hGb
        go_wp2_with fail
        refine HTd.out.mono ?_
        rintro e w7 ⟨rfl, x', hR7⟩
        obtain ⟨hx, hon7⟩ := hR7.out
        have q4 : w7.cell? ⟨Q, 4, none⟩ = some (.int .i64 x') := hR7.cells.2.2.1
        have q2 : w7.cell? ⟨Q, 2, none⟩ = some (.int .u64 0) := by rw [hon7.blk.cell]; rfl
        have q3 : w7.cell? ⟨Q, 3, none⟩ = some (.int .i64 0) := by rw [hon7.blk.cell]; rfl
        have fq2 : w7.frozen? ⟨Q, 2, none⟩ = false := hon7.blk.frozen 2
        have fq3 : w7.frozen? ⟨Q, 3, none⟩ = false := hon7.blk.frozen 3
        have kG7 := (hR7.stay.2 Gb (HTi.out Gb (by omega) (by omega) (by omega))).trans HKG.out
        replace kG7 : Blk w7 Gb 75 #[.int .u64 (g0 : Int), .slice As0 ns0 cs0, .slice Ar0 nr0 cr0, .int .i64 (l0 : Int), .int .i64 (e0 : Int)] := kG7
        have h0 : w7.cell? ⟨Gb, 0, none⟩ = some (.int .u64 (g0 : Int)) := kG7.cell 0
        have h1 : w7.cell? ⟨Gb, 1, none⟩ = some (.slice As0 ns0 cs0) := kG7.cell 1
        have h2 : w7.cell? ⟨Gb, 2, none⟩ = some (.slice Ar0 nr0 cr0) := kG7.cell 2
        have h3 : w7.cell? ⟨Gb, 3, none⟩ = some (.int .i64 (l0 : Int)) := kG7.cell 3
        have h4 : w7.cell? ⟨Gb, 4, none⟩ = some (.int .i64 (e0 : Int)) := kG7.cell 4
        have HXx := Lib.hid hx
        have HOn7 := Lib.hid hon7
        have hs7 : w6.heap.size ≤ w7.heap.size := hR7.stay.1
        clear hR7 hx hon7 kG7 HTd
        by_cases hz : x' = 0
        · have HZ := Lib.hid hz
          rw [hz] at q4
          clear hz
          go_wp2
          go_region
          go_wp2
          go_region
          go_wp2
          (try simp only [Exit.inBlock, Exit.then]); refine bodyPost_ret (results_tmp4 rfl _ _ _) rfl ?_
          have e0 : res.1 = 0 := by rw [← HXx.out, HZ.out]
          rcases HG0.out with ⟨hg0, _⟩ | ⟨_, hsn, ps, hLr, hps⟩
          · exact absurd hg0 HGn.out
          have hlen : (recs (d.get 0).all).length = nr0 := by
            obtain ⟨A', c', e, _, _⟩ := reads_own hLr.row
            injection e with _ e2 _
            rw [← show Piece.bytes ps = recs (d.get 0).all from hps, Piece.bytes, List.length_map, e2]
          have h1 := (HOn7.out.set 2 (.int .u64 (g0 : Int))).set 3 (.int .i64 (nr0 : Int))
          have e1 : ((vcs R 0 (.int .u64 0) (.int .i64 0) x').setIfInBounds 2 (.int .u64 (g0 : Int))).setIfInBounds 3 (.int .i64 (nr0 : Int)) = vcv R ⟨0, gen (d.get 0).all, snap (d.get 0).all, recs (d.get 0).all, 0⟩ := by
            unfold vcv vcs
            simp [HZ.out, hlen, show gen (d.get 0).all = g0 from EQ.out.1.symm]
          rw [e1] at h1
          have hbd : ∀ W : World, Below W.heap.size W W.drew.drew := fun W => below_drewN (Below.refl W.heap.size W) 2
          replace h1 := h1.next (hbd _)
          obtain ⟨U', hm, ht, hfr, hap⟩ := h1.modT (by exact gen_le _)
          obtain ⟨w9, hw9⟩ : ∃ w9, w9 = ((w7.setCell ⟨Q, 2, none⟩ (.int .u64 (g0 : Int))).setCell ⟨Q, 3, none⟩ (.int .i64 (nr0 : Int))).drew.drew := ⟨_, rfl⟩
          have hk : ∀ b, w1.heap.size ≤ b → b < w2.heap.size → w9.heap[b]? = w2.heap[b]? := fun b h2 h3 => by
            rw [hw9]
            refine ((hbd _).block b (by simp [World.setCell]; omega)).trans <| (Below.heap_setCell _ ⟨Q, 3, none⟩ _ b (by show ¬ b = Q; omega)).trans ((Below.heap_setCell w7 ⟨Q, 2, none⟩ _ b (by show ¬ b = Q; omega)).trans ((HOn7.out.stay.2 b (HTi.out b (by omega) (by omega) (by omega))).trans ?_))
            exact (HB46.out.block b (by omega)).trans ((HB24.out.block b (by omega)))
          have hs9 : w2.heap.size ≤ w9.heap.size := by rw [hw9]; simp [World.setCell]; omega
          rw [← hw9] at hm ht ⊢
          have hrc : RcV w2 w1.heap.size w2.heap.size (.slice Ar0 nr0 cr0) (recs (d.get 0).all) := by
            rw [← show Piece.bytes ps = recs (d.get 0).all from hps]
            refine ownL_rc hLr (fun p hp => ?_)
            have h4 : p.l ∈ recs d.f0.all := by rw [← hps]; exact List.mem_map.2 ⟨p, hp, rfl⟩
            have h5 := frames_fit d.f0.all p.l (List.mem_of_mem_tail h4)
            omega
          refine .inr ⟨by rw [HO.out]; exact e0, ⟨0, gen (d.get 0).all, snap (d.get 0).all, recs (d.get 0).all, 0⟩, Q, .slice As0 ns0 cs0, .slice Ar0 nr0 cr0, U', w1.heap.size, w2.heap.size, by rw [HO.out]; simp [e0], rfl, by rw [HO.out]; exact hm, ht, hfr, hs1, hs9, SnV.stay hsn hk, hrc.stay hk, fun b hb hT => hap b hb (HTi.out b (by omega) (by omega) (by omega)), w2, rfl, hk, fun h => absurd h (by rw [HFo.out]; exact HGn.out), ps, hLr, hps⟩
        · have tx : (x' != 0) = true := by simpa using hz
          have HZ := Lib.hid hz
          clear hz
          go_wp2
          go_region
          go_wp2
          (try simp only [Exit.inBlock, Exit.then]); refine bodyPost_ret (results_tmp4 rfl _ _ _) rfl ?_
          have e0 : res.1 ≠ 0 := by rw [← HXx.out]; exact HZ.out
          obtain ⟨S', q1, q2', q3', _⟩ := (HOn7.out.next (w' := w7.drew) (below_drewN (Below.refl _ _) 1)).ex
          exact .inl ⟨by rw [HO.out]; exact e0, by rw [HO.out, HXx.out]; rfl, S', by rw [HO.out]; exact q1, q2', q3'⟩
end Go.Proofs.YtnpmccekkjadhaaDoor.Pk
