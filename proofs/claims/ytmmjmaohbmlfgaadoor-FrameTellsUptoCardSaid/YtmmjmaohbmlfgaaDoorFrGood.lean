/- Package frame: good: the function that goes over the good frames as they lie. -/
import Derived.Test.YtmmjmaohbmlfgaaDoorFrFirst
namespace Go.Proofs.YtmmjmaohbmlfgaaDoor.Pk
open Go.RowKit Go.Shelf Go.Proofs.YtmmjmaohbmlfgaaDoor.Crc Go.Proofs.YtmmjmaohbmlfgaaDoor.Fr
set_option linter.unusedVariables false
attribute [local go_sem] Oper.semAt_some
theorem ownFrom_below {β : Type} {B : Nat} {J : β → World → Prop} (h : OwnFrom B J) {s : β} {W W' : World} (hJ : J s W) (hb : Below W.heap.size W W') : J s W' :=
  h s W W' none hJ ⟨hb.os, hb.tape, hb.output, hb.size, fun i hi _ => hb.block i hi⟩ (fun r e => by cases e)
/-- What the function stands on. -/
def SrcB (Bt : Nat) (A : Option Addr) (n : Nat) (x : Nat) : Prop := x = 0 ∨ x = Bt ∨ (0 < n ∧ ∃ ad, A = some ad ∧ x = ad.block)
def SrcG (W : World) (Bt : Nat) (A : Option Addr) (n c : Nat) (b : List Int) : Prop := Tab W ∧ Blk W Bt 22 #[.slice A n c] ∧ Reads W W.heap.size 1 A n (bts b)
section
variable {W W' : World} {Bt n c : Nat} {A : Option Addr} {b : List Int}
theorem SrcG.stay (h : SrcG W Bt A n c b) (hs : Stay (SrcB Bt A n) W W') : SrcG W' Bt A n c b := by
  refine ⟨fun i hi => (World.cell?_of_block (a := ⟨0, i, none⟩) (hs.2 0 (.inl rfl))).trans (h.1 i hi), (hs.2 Bt (.inr (.inl rfl))).trans h.2.1, h.2.2.1, fun hn => ?_⟩
  obtain ⟨ad, e, hb, hc⟩ := h.2.2.2 hn
  refine ⟨ad, e, Nat.lt_of_lt_of_le hb hs.1, fun j u hu => (World.cell?_of_block ?_).trans (hc j u hu)⟩
  rw [block_of_add]
  exact hs.2 _ (.inr (.inr ⟨hn, ad, e, rfl⟩))
theorem SrcG.lt (h : SrcG W Bt A n c b) : ∀ x, SrcB Bt A n x → x < W.heap.size := by
  rintro x (rfl | rfl | ⟨hn, ad, e, rfl⟩)
  · exact h.1.pos
  · exact h.2.1.lt
  · obtain ⟨ad', e', hb, _⟩ := h.2.2.2 hn
    rw [e] at e'
    injection e' with e'
    rw [e']; exact hb
theorem SrcG.below (h : SrcG W Bt A n c b) (hb : Below W.heap.size W W') : SrcG W' Bt A n c b := h.stay ⟨hb.size, fun x hx => hb.block x (h.lt x hx)⟩
end
/-- A payload as it lies. -/
def payA (A : Option Addr) (c at_ : Nat) : Option Addr := cutA (cutA A c at_) (c - at_) 8
def encG (A : Option Addr) (c : Nat) (x : Nat × List Int) : Array Value := #[.int .i64 (x.1 : Int), .slice (payA A c x.1) x.2.length (c - x.1 - 8)]
/-- A payload reads as its bytes. -/
theorem pay_reads {W : World} {B n c k : Nat} {A : Option Addr} {b p : List Int} (h : Reads W B 1 A n (bts b)) (hnc : n ≤ c) (hp : (frames b)[k]? = some p) :
    atN b k + 8 + p.length ≤ n ∧ Reads W B 1 (payA A c (atN b k)) p.length (bts p) := by
  have hbl : b.length = n := by have := h.1; simpa using this
  obtain ⟨h1, hnx⟩ := at_more hp
  have hle := atN_le b (k + 1)
  rw [hbl, hnx] at hle
  have hl := fst_len h1
  obtain ⟨t, ht⟩ : ∃ t, t = atN b k := ⟨_, rfl⟩
  rw [← ht] at hle h1 hl ⊢
  refine ⟨by omega, ?_⟩
  have r1 := reads_cut h (i := t) (j := n) (by omega) (Nat.le_refl n) hnc
  have e1 : (b.take n).drop t = b.drop t := by rw [← hbl, List.take_length]
  rw [e1] at r1
  have r2 := reads_cut r1 (i := 8) (j := 8 + p.length) (c := c - t) (by omega) (by omega) (by omega)
  rw [show 8 + p.length - 8 = p.length by omega] at r2
  have e2 : ((b.drop t).take (8 + p.length)).drop 8 = p := by
    obtain ⟨_, r, h2⟩ := fst_some.1 h1
    rw [← h2, ← enc_length p, List.take_left]
    exact enc_drop p
  rw [e2] at r2
  exact r2

set_option maxRecDepth 100000 in
set_option maxHeartbeats 4000000 in
theorem good1_in (m l Bt : Nat) (A : Option Addr) (n c : Nat) (b : List Int) (hby : Bytes b) (hn : n ≤ 17179869184) (hnc : n ≤ c) (J Jx : List (Nat × List Int) → World → Prop) (B : Nat) (hJ : OwnFrom B J)
    (hY : ∀ pre (x : Nat × List Int) W, J pre W → pre ++ [x] <+: fseq b → YieldAt Fence.wide (m - 1) Tryd.prog l (encG A c x) W fun e W' => KeepsF B (fun k => B ≤ k) W W' ∧
      ((e = .returned (.bool true) ∧ J (pre ++ [x]) W' ∧ Stay (SrcB Bt A n) W W') ∨ (e = .returned (.bool false) ∧ Jx (pre ++ [x]) W')))
    (W : World) (hB : B ≤ W.heap.size) (hP : SrcG W Bt A n c b) (h0 : J [] W) :
    CallsIn Fence.wide m Tryd.prog 30 #[.func (.yield l) #[] #[], .pointer (some ⟨Bt, 0, none⟩)] W fun e W' => (∃ v, e = .returned v) ∧
      ((∃ ys, ys = fseq b ∧ J ys W') ∨ (∃ pre, pre <+: fseq b ∧ Jx pre W')) := by
  have HP := Lib.hid hP
  have hbl : b.length = n := by have := hP.2.2.1; simpa using this
  have HJ := Lib.hid hJ
  have HY := Lib.hid hY
  have HJ0 := Lib.hid h0
  have HBy := Lib.hid hby
  have HL := Lib.hid hbl
  clear hP hY h0 hJ hby
  refine callsIn_of_wp Tryd.func30 rfl trivial ?_ rfl
  simp only [Tryd.ntmps30, List.size_toArray, List.length_cons, List.length_nil, Nat.reduceAdd, Nat.reduceSub, Array.replicate_succ, Array.replicate_zero, List.push_toArray, List.append_toArray, List.nil_append, List.cons_append]
  gi_wp2
  gi_loopw [3] (fun v wr => ∃ (k : Nat), v = .int .i64 (atN b k : Nat) ∧ k ≤ (frames b).length ∧ J ((fseq b).take k) wr ∧ SrcG wr Bt A n c b ∧ B ≤ wr.heap.size) (fun v _ => n - (intOf v).toNat)
  case atStart => exact ⟨0, by rw [atN_zero]; rfl, Nat.zero_le _, by simpa using HJ0.out, HP.out, hB⟩
  case round =>
    obtain ⟨k, rfl, hk, hJk, hS, hBw⟩ := hrel
    obtain ⟨w2, rfl⟩ : ∃ w2 : World, w2 = wr := ⟨_, rfl⟩
    have HJk := Lib.hid hJk
    have HS := Lib.hid hS
    have ct : w2.cell? ⟨Bt, 0, none⟩ = some (.slice A n c) := hS.2.1.cell 0
    obtain ⟨t, ht⟩ : ∃ t, t = atN b k := ⟨_, rfl⟩
    have htn : t ≤ n := by have h1 := atN_le b k; omega
    rw [← ht]
    have HTe := Lib.hid ht
    have kt : ∀ u : World, (Instr.slice 22 (.slice A n c) (some (.int .i64 (t : Int))) none none).run Tryd.prog u = .ok (.slice (cutA A c t) (n - t) (c - t)) u := fun u => run_cut1 Tryd.underlying22 (by kernel_rfl) A n c t htn u
    have hrd := reads_cut hS.2.2 htn (Nat.le_refl n) hnc
    have hcut : (b.take n).drop t = b.drop t := by rw [← hbl, List.take_length]
    rw [hcut] at hrd
    have HX := Lib.hid (fst_any (cutA A c t) (n - t) (c - t) (b.drop t) w2 hS.1 hrd (by omega) (fun x hx => HBy.out x (List.mem_of_mem_drop hx)) (by omega))
    clear hJk hS ht hrd hcut
    by_cases hlt : k < (frames b).length
    · obtain ⟨p, hp⟩ : ∃ p, (frames b)[k]? = some p := ⟨(frames b)[k], List.getElem?_eq_getElem hlt⟩
      have hf := (at_more hp).1
      have hnx := (at_more hp).2
      rw [← HTe.out] at hf hnx
      obtain ⟨q, hq⟩ : ∃ q, q = p.length := ⟨_, rfl⟩
      have hle := atN_le b (k + 1)
      rw [hbl, hnx, ← hq] at hle
      rw [firstV_some hf, ← hq] at HX
      have HQ := Lib.hid hq
      have hq20 : q ≤ 1048576 := by have := frames_fit b p (List.mem_of_getElem? hp); omega
      obtain ⟨e, he⟩ : ∃ e, e = t + (8 + q) := ⟨_, rfl⟩
      have e2 : (t : Int) + (8 + (q : Int)) = (e : Int) := by omega
      have hen : e ≤ n := by omega
      have hte : t < e := by omega
      have HNx : Hid (atN b (k + 1) = e) := Lib.hid (by rw [hnx, he, hq])
      have HPt := Lib.hid hp
      have HKk : Hid ((fseq b).take k ++ [(t, p)] = (fseq b).take (k + 1)) := Lib.hid (by rw [List.take_add_one, fseq_get hp, HTe.out]; rfl)
      have HLk : Hid (k + 1 ≤ (frames b).length) := Lib.hid hlt
      clear hf hnx hq hle he hp
      gi_wp2_with (refine ⟨trivial, (fun h => by cases h), ?_⟩; gi_at_call 31; refine (callsIn_wide.2 HX.out).mono ?_; rintro e3 w3 ⟨rfl, hb3⟩; have HJ3 := Lib.hid (ownFrom_below HJ.out HJk.out hb3); have HS3 := Lib.hid (HS.out.below hb3); have hB3 : B ≤ w3.heap.size := Nat.le_trans hBw hb3.size; clear hb3)
      obtain ⟨fn, tmps, assign, body, hy, hR⟩ := HY.out ((fseq b).take k) (t, p) w3 HJ3.out (by rw [HKk.out]; exact List.take_prefix _ _)
      replace hy : (Instr.yield l #[.int .i64 (t : Int), .slice (cutA (cutA A c t) (c - t) 8) q (c - t - 8)]).run Tryd.prog w3 = .ok (.round l fn tmps assign body) w3 := by rw [HQ.out]; exact hy
      have HRR := Lib.hid hR
      clear hR
      rw [hy]
      gi_wp2
      refine ⟨(fun h => by cases h), HRR.out.mono ?_⟩
      rintro e4 w4 ⟨hka, ⟨rfl, hJ4, hs4⟩ | ⟨rfl, hx4⟩⟩
      · have HJ4 := Lib.hid hJ4
        have HS4 := Lib.hid (HS3.out.stay hs4)
        have hB4 : B ≤ w4.heap.size := Nat.le_trans hB3 hka.size
        rw [HKk.out] at HJ4
        clear hJ4 hs4 hka hy
        gi_wp2
        go_roundw
        case rel => exact ⟨k + 1, by rw [HNx.out], HLk.out, HJ4.out, HS4.out, hB4⟩
        case measure => simp [intOf]; omega
      · have HX4 := Lib.hid hx4
        rw [HKk.out] at HX4
        clear hx4 hka hy
        gi_wp2
        first | go_end0 | refine bodyPost_ret (results_none rfl _ _ _) rfl ?_
        exact ⟨⟨_, rfl⟩, .inr ⟨_, List.take_prefix _ _, HX4.out⟩⟩
    · have hkk : k = (frames b).length := by omega
      have HYk : Hid ((fseq b).take k = fseq b) := Lib.hid (by rw [hkk, ← fseq_length b, List.take_length])
      have hf : fst (b.drop t) = none := by rw [HTe.out, hkk, atN_all]; exact at_end b
      rw [firstV_none hf] at HX
      clear hlt hf
      gi_wp2_with (refine ⟨trivial, (fun h => by cases h), ?_⟩; gi_at_call 31; refine (callsIn_wide.2 HX.out).mono ?_; rintro e3 w3 ⟨rfl, hb3⟩; have HJ3 := Lib.hid (ownFrom_below HJ.out HJk.out hb3); clear hb3)
      refine ⟨(fun _ h => by cases h), ?_⟩
      gi_wp2
      first | go_end0 | refine bodyPost_ret (results_none rfl _ _ _) rfl ?_
      exact ⟨⟨_, rfl⟩, .inl ⟨_, rfl, by rw [← HYk.out]; exact HJ3.out⟩⟩

/-- A function that goes over the good frames of b as they lie at A. -/
def SeqG (v : Value) (A : Option Addr) (c : Nat) (b : List Int) (R : Nat → Prop) (w : World) : Prop :=
  ∃ gf lb, v = .func (.func gf) #[] lb ∧ (∀ args u, (callFunc gf args).run Tryd.prog u = .ok (.enter gf args) u) ∧ (∀ g, R g → g < w.heap.size) ∧
    ∀ m W, Stay R w W → GoesF m Tryd.prog gf #[] lb (encG A c) (Stay R) (fun ys => ys = fseq b) (fun pre => pre <+: fseq b) (fun B pre x W => pre ++ [x] <+: fseq b) (fun B x k => B ≤ k) W
theorem SeqG.lt {v : Value} {A : Option Addr} {c : Nat} {b : List Int} {R : Nat → Prop} {w : World} (h : SeqG v A c b R w) : ∀ g, R g → g < w.heap.size := by
  obtain ⟨_, _, _, _, h2, _⟩ := h
  exact h2
theorem SeqG.at_ {gf : Nat} {lb : Array Value} {A : Option Addr} {c : Nat} {b : List Int} {R : Nat → Prop} {w : World} (h : SeqG (.func (.func gf) #[] lb) A c b R w) (m : Nat) :
    GoesF m Tryd.prog gf #[] lb (encG A c) (Stay R) (fun ys => ys = fseq b) (fun pre => pre <+: fseq b) (fun B pre x W => pre ++ [x] <+: fseq b) (fun B x k => B ≤ k) w := by
  obtain ⟨gf', lb', e, _, _, h3⟩ := h
  injection e with e1 e3 e2
  injection e1 with e1
  subst e1; subst e2
  exact h3 m w (Stay.refl_ _ _)
theorem good_seq (Bt : Nat) (A : Option Addr) (n c : Nat) (b : List Int) (hby : Bytes b) (hn : n ≤ 17179869184) (hnc : n ≤ c) (w : World) (hP : SrcG w Bt A n c b) :
    SeqG (.func (.func 30) #[] #[.pointer (some ⟨Bt, 0, none⟩)]) A c b (SrcB Bt A n) w := by
  refine ⟨_, _, rfl, fun args u => rfl, hP.lt, fun m W hW => ?_⟩
  intro l J Jx W' hb hJ hJx hY h0
  exact good1_in m l Bt A n c b hby hn hnc J Jx W'.heap.size hJ hY W' (Nat.le_refl _) ((hP.stay hW).below hb) h0
theorem good_any (A : Option Addr) (n c : Nat) (b : List Int) (w : World) (ht : Tab w) (hr : Reads w w.heap.size 1 A n (bts b)) (hnc : n ≤ c) (hby : Bytes b) (hn : n ≤ 17179869184) :
    Calls Tryd.prog 26 #[.slice A n c] w fun e w' => e = .returned (.func (.func 30) #[] #[.pointer (some ⟨w.heap.size, 0, none⟩)]) ∧
      SeqG (.func (.func 30) #[] #[.pointer (some ⟨w.heap.size, 0, none⟩)]) A c b (SrcB w.heap.size A n) w' ∧ Below w.heap.size w w' ∧ w'.heap.size = w.heap.size + 1 := by
  have HT := Lib.hid ht
  have HR := Lib.hid hr
  have HB := Lib.hid hby
  clear ht hr hby
  go_enter Tryd.func26, Tryd.ntmps26
  go_wp2
  go_ret
  have hb : Below w.heap.size w (w.alloc (.cells #[.slice A n c] 22)) := (Below.refl _ w).alloc (Nat.le_refl _) _
  exact ⟨rfl, good_seq w.heap.size A n c b HB.out hn hnc _ ⟨HT.out.next hb, Blk.new w _ _, (HR.out.below hb).more hb.size⟩, hb, by simp⟩
end Go.Proofs.YtmmjmaohbmlfgaaDoor.Pk
