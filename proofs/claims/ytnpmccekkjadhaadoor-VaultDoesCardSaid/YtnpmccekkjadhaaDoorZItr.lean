/- Package frame: first: the payload of the frame that bytes begin with. -/
import Derived.Test.YtnpmccekkjadhaaDoorZEnc
import Derived.Lib.SliceRun
import Derived.OwnWalkIn
import Derived.Test.YtnpmccekkjadhaaDoorZRng
namespace Go.Proofs.YtnpmccekkjadhaaDoor.Pk
open Go.RowKit Go.Proofs.YtnpmccekkjadhaaDoor.Crc Go.Proofs.YtnpmccekkjadhaaDoor.Fr
set_option linter.unusedVariables false
/-- What first answers of bytes b that lie at A. -/
def firstV (A : Option Addr) (c : Nat) (b : List Int) : Value := match fst b with
  | none => .tuple #[.slice none 0 0, .bool false]
  | some p => .tuple #[.slice (cutA A c 8) p.length (c - 8), .bool true]
theorem firstV_none {A : Option Addr} {c : Nat} {b : List Int} (h : fst b = none) : firstV A c b = .tuple #[.slice none 0 0, .bool false] := by unfold firstV; rw [h]
theorem firstV_some {A : Option Addr} {c : Nat} {b p : List Int} (h : fst b = some p) : firstV A c b = .tuple #[.slice (cutA A c 8) p.length (c - 8), .bool true] := by unfold firstV; rw [h]

set_option maxHeartbeats 4000000 in
theorem fst_any (A : Option Addr) (n c : Nat) (b : List Int) (w : World) (ht : Tab w) (hr : Reads w w.heap.size 1 A n (bts b)) (hnc : n ≤ c) (hby : Bytes b) (hn : n ≤ 17179869184) :
    Calls Tryd.prog 76 #[.slice A n c] w fun e w' => e = .returned (firstV A c b) ∧ Below w.heap.size w w' := by
  have hbl : b.length = n := by have := hr.1; simpa using this
  have HR := Lib.hid hr
  have HB := Lib.hid hby
  have HT := Lib.hid ht
  have HL := Lib.hid hbl
  clear hr hby ht
  by_cases h8 : n < 8
  · have hz0 := Lib.hid (firstV_none (A := A) (c := c) (fst_stop (b := b) (.inl (by omega))))
    go_enter Tryd.func76, Tryd.ntmps76
    go_wp2
    go_ret2
    exact ⟨by rw [hz0.out]; rfl, Below.refl _ _⟩
  · have HP := Lib.hid (numberOf_any A n c b w HR.out HB.out (by omega))
    obtain ⟨m, hm⟩ : ∃ m, m = num4 b := ⟨_, rfl⟩
    have hm4 : m < 4294967296 := by
      have h0 := bytes_getD HB.out 0
      have h1 := bytes_getD HB.out 1
      have h2 := bytes_getD HB.out 2
      have h3 := bytes_getD HB.out 3
      rw [hm]; unfold num4; omega
    rw [← hm] at HP
    have HM := Lib.hid hm
    clear hm
    go_enter Tryd.func76, Tryd.ntmps76
    go_wp2_with fail
    refine HP.out.mono ?_
    rintro e w1 ⟨rfl, k1, rfl⟩
    clear HP
    by_cases h1 : 1048576 < m
    · have hz0 := Lib.hid (firstV_none (A := A) (c := c) (fst_stop (b := b) (.inr (.inl (by rw [← HM.out]; exact h1)))))
      go_wp2
      go_ret2
      exact ⟨by rw [hz0.out]; rfl, below_drewN (Below.refl _ _) _⟩
    by_cases h2 : n < 8 + m
    · have hz0 := Lib.hid (firstV_none (A := A) (c := c) (fst_stop (b := b) (.inr (.inr (by rw [← HM.out]; omega)))))
      go_wp2
      go_ret2
      exact ⟨by rw [hz0.out]; rfl, below_drewN (Below.refl _ _) _⟩
    have h1' : m ≤ 1048576 := by omega
    have h2' : 8 + m ≤ n := by omega
    have h8' : 8 ≤ n := by omega
    clear h1 h2 h8
    have hf := fst_sum HB.out (by omega) (by rw [← HM.out]; exact h1') (by rw [← HM.out]; omega)
    rw [← HM.out] at hf
    have HF := Lib.hid hf
    clear hf
    obtain ⟨e8, he8⟩ : ∃ e8, e8 = 8 + m := ⟨_, rfl⟩
    have e1 : 8 + (m : Int) = (e8 : Int) := by omega
    have hec : e8 ≤ c := by omega
    have kd : ∀ u : World, (Instr.slice 22 (.slice A n c) (some (.int .i64 8)) (some (.int .i64 (e8 : Int))) none).run Tryd.prog u = .ok (.slice (cutA A c 8) m (c - 8)) u := fun u => by
      have h := run_cut2 Tryd.underlying22 (by kernel_rfl) A n c 8 e8 (by omega) hec u; rw [show e8 - 8 = m by omega] at h; exact h
    have kt : ∀ u : World, (Instr.slice 22 (.slice A n c) (some (.int .i64 4)) none none).run Tryd.prog u = .ok (.slice (cutA A c 4) (n - 4) (c - 4)) u := fun u => run_cut1 Tryd.underlying22 (by kernel_rfl) A n c 4 (by omega) u
    have HE8 := Lib.hid he8
    have hm8 : m + 8 ≤ 1048584 := by omega
    have kc : ∀ u : World, (Instr.slice 22 (.slice A n c) none (some (.int .i64 4)) none).run Tryd.prog u = .ok (.slice A 4 c) u := fun u => run_head Tryd.underlying22 (by kernel_rfl) A n c 4 (by omega) u
    have kd2 : ∀ u : World, (Instr.slice 22 (.slice A n c) (some (.int .i64 8)) (some (.int .i64 (8 + (m : Int)))) none).run Tryd.prog u = .ok (.slice (cutA A c 8) m (c - 8)) u := fun u => by rw [e1]; exact kd u
    have w1 : IntKind.i64.wrap (8 + (m : Int)) = (e8 : Int) := by rw [IntWalk.i64_in _ (by omega)]; exact e1
    have w2 : IntKind.i64.wrap (e8 : Int) = (e8 : Int) := IntWalk.i64_in _ (by omega)
    have w3 : (8 : Int) ≤ (e8 : Int) := by omega
    have w4 : (e8 : Int) ≤ (c : Int) := by omega
    clear he8
    obtain ⟨q, hq⟩ : ∃ q, q = (b.drop 8).take m := ⟨_, rfl⟩
    obtain ⟨s, hs⟩ : ∃ s, s = crc 0 (b.take 4 ++ q) := ⟨_, rfl⟩
    obtain ⟨s', hs'⟩ : ∃ s', s' = num4 (b.drop 4) := ⟨_, rfl⟩
    have HPt : Hid (∀ V : World, Tab V → Reads V V.heap.size 1 A n (bts b) → Calls Tryd.prog 52 #[.slice (some ⟨V.heap.size, 0, none⟩) 2 2] (V.alloc (.cells #[.slice A 4 c, .slice (cutA A c 8) m (c - 8)] 22)) fun e w' => e = .returned (.int .u32 (s : Nat)) ∧ (V.alloc (.cells #[.slice A 4 c, .slice (cutA A c 8) m (c - 8)] 22)) = w') := Lib.hid (by
      intro V hT hV
      have hb2 : Below V.heap.size V (V.alloc (.cells #[.slice A 4 c, .slice (cutA A c 8) m (c - 8)] 22)) := (Below.refl _ V).alloc (Nat.le_refl _) _
      have hr4 := hV.take (k := 4) (by omega)
      have hr8 := reads_cut hV (i := 8) (j := e8) (by omega) (by have := HE8.out; omega) hnc
      have hcut : (b.take e8).drop 8 = q := by
        rw [List.drop_take, hq, HE8.out, show 8 + m - 8 = m by omega]
      rw [hcut, show e8 - 8 = m by have := HE8.out; omega] at hr8
      have hLs : Lists (V.alloc (.cells #[.slice A 4 c, .slice (cutA A c 8) m (c - 8)] 22)) (V.heap.size + 1) (some ⟨V.heap.size, 0, none⟩) 2 [⟨A, 4, c, b.take 4⟩, ⟨cutA A c 8, m, c - 8, q⟩] := by
        refine ⟨reads_new V _ _ _ 2 [.slice A 4 c, .slice (cutA A c 8) m (c - 8)] rfl rfl (by omega), fun x hx => ?_⟩
        rcases List.mem_cons.1 hx with rfl | hx
        · exact ⟨(hr4.below hb2).more (by omega), (show 4 ≤ c by omega), (show 4 ≤ _ by omega), fun y hy => HB.out y (List.mem_of_mem_take hy)⟩
        · obtain rfl := List.mem_singleton.1 hx
          refine ⟨(hr8.below hb2).more (by omega), (show m ≤ c - 8 by have := HE8.out; omega), (show m ≤ _ by omega), fun y hy => HB.out y ?_⟩
          have hy : y ∈ q := hy
          rw [hq] at hy
          exact List.mem_of_mem_drop (List.mem_of_mem_take hy)
      have h5 := parts_any (some ⟨V.heap.size, 0, none⟩) 2 2 _ _ _ hLs (by omega) (hT.next hb2)
      have hsum : sums 0 (Piece.bytes [⟨A, 4, c, b.take 4⟩, ⟨cutA A c 8, m, c - 8, q⟩]) = s := by
        rw [hs, sums_flat]
        simp [Piece.bytes]
      rw [hsum] at h5
      exact h5)
    have HPj : Hid (∀ (V : World) (j : Nat), Tab V → Reads V V.heap.size 1 A n (bts b) → Calls Tryd.prog 52 #[.slice (some ⟨V.heap.size, 0, none⟩) 2 2] ((V.alloc (.cells #[.slice A 4 c, .slice (cutA A c 8) m (c - 8)] 22)).drewN j) fun e w' => e = .returned (.int .u32 (s : Nat)) ∧ ((V.alloc (.cells #[.slice A 4 c, .slice (cutA A c 8) m (c - 8)] 22)).drewN j) = w') := Lib.hid (fun V j h1 h2 => HPt.out (V.drewN j) h1 h2)
    have HT4 : Hid (∀ V : World, Reads V V.heap.size 1 A n (bts b) → Calls Tryd.prog 77 #[.slice (cutA A c 4) (n - 4) (c - 4)] V fun e w' => e = .returned (.int .u32 (s' : Nat)) ∧ ∃ k, w' = V.drewN k) := Lib.hid (by
      intro V hV
      have hr4 := reads_cut hV (i := 4) (j := n) (by omega) (Nat.le_refl _) hnc
      have hcut : (b.take n).drop 4 = b.drop 4 := by rw [← hbl, List.take_length]
      rw [hcut] at hr4
      have h5 := numberOf_any _ (n - 4) (c - 4) _ V hr4 (fun y hy => HB.out y (List.mem_of_mem_drop hy)) (by omega)
      rw [← hs'] at h5
      exact h5)
    rw [← hq, ← hs, ← hs'] at HF
    have HQl : Hid (q.length = m) := Lib.hid (by rw [hq]; simp; omega)
    clear hq hs hs'
    have c4 : 4 ≤ c := by omega
    go_wp2_with fail
    by_cases hss : s = s'
    · subst hss
      have hz0 : Hid (firstV A c b = .tuple #[.slice (cutA A c 8) m (c - 8), .bool true]) := Lib.hid (by rw [firstV_some (by rw [HF.out, if_pos rfl]), HQl.out])
      clear HF
      go_region_held3 (fun _ => True) (first | exact trivial | go_keep) (first
        | (go_at_call 52; refine (HPt.out _ (by exact HT.out) (by exact HR.out)).mono ?_; go_must (rintro e w2 ⟨rfl, hw⟩; rw [← hw]; clear hw w2))
        | (go_at_call 52; go_must (refine (HPj.out _ _ (by exact HT.out) (by exact HR.out)).mono ?_; rintro e w2 ⟨rfl, hw⟩; rw [← hw]; clear hw w2))
        | (go_at_call 77; go_must (refine (HT4.out _ (by first | exact HR.out | exact HR.out.alloc (Nat.le_refl _) _ |>.more (by simp))).mono ?_; rintro e w3 ⟨rfl, k3, rfl⟩)))
      all_goals
        go_wp2
        go_ret2
        exact ⟨by rw [hz0.out]; rfl, by
          repeat' (first | exact Below.refl _ _ | exact Nat.le_refl _ | refine below_drewN ?_ _ | refine Below.alloc ?_ ?_ _)⟩
    · have hz0 := Lib.hid (firstV_none (A := A) (c := c) (b := b) (by rw [HF.out, if_neg hss]))
      have t1 : ((s' : Int) != (s : Int)) = true := by simp; omega
      clear HF hss
      go_region_held3 (fun _ => True) (first | exact trivial | go_keep) (first
        | (go_at_call 52; refine (HPt.out _ (by exact HT.out) (by exact HR.out)).mono ?_; go_must (rintro e w2 ⟨rfl, hw⟩; rw [← hw]; clear hw w2))
        | (go_at_call 52; go_must (refine (HPj.out _ _ (by exact HT.out) (by exact HR.out)).mono ?_; rintro e w2 ⟨rfl, hw⟩; rw [← hw]; clear hw w2))
        | (go_at_call 77; go_must (refine (HT4.out _ (by first | exact HR.out | exact HR.out.alloc (Nat.le_refl _) _ |>.more (by simp))).mono ?_; rintro e w3 ⟨rfl, k3, rfl⟩)))
      all_goals
        go_wp2
        go_ret2
        exact ⟨by rw [hz0.out]; rfl, by
          repeat' (first | exact Below.refl _ _ | exact Nat.le_refl _ | refine below_drewN ?_ _ | refine Below.alloc ?_ ?_ _)⟩
end Go.Proofs.YtnpmccekkjadhaaDoor.Pk

/- Package frame: good: the function that goes over the good frames as they lie. -/
namespace Go.Proofs.YtnpmccekkjadhaaDoor.Pk
open Go.RowKit Go.Shelf Go.Proofs.YtnpmccekkjadhaaDoor.Crc Go.Proofs.YtnpmccekkjadhaaDoor.Fr
set_option linter.unusedVariables false
attribute [local go_sem] Oper.semAt_some
theorem ownFrom_below {β : Type} {B : Nat} {J : β → World → Prop} (h : OwnFrom B J) {s : β} {W W' : World} (hJ : J s W) (hb : Below W.heap.size W W') : J s W' :=
  h s W W' none hJ ⟨hb.os, hb.tape, hb.output, hb.size, fun i hi _ => hb.block i hi⟩ (fun r e => by cases e)
/-- What the function stands on. -/
def SrcB (Bt : Nat) (A : Option Addr) (n : Nat) (x : Nat) : Prop := x = 0 ∨ x = Bt ∨ (0 < n ∧ ∃ ad, A = some ad ∧ x = ad.block)
def SrcG (W : World) (Bt : Nat) (A : Option Addr) (n c : Nat) (b : List Int) : Prop := Tab W ∧ Blk W Bt 22 #[.slice A n c] ∧ Reads W W.heap.size 1 A n (bts b)
section
variable {W W' : World} {Bt n c : Nat} {A : Option Addr} {b : List Int}
theorem SrcG.stay (h : SrcG W Bt A n c b) (hs : Stay (SrcB Bt A n) W W') : SrcG W' Bt A n c b := by
  refine ⟨fun i hi => (World.cell?_of_block (a := ⟨0, i, none⟩) (hs.2 0 (.inl rfl))).trans (h.1 i hi), (hs.2 Bt (.inr (.inl rfl))).trans h.2.1, h.2.2.1, fun hn => ?_⟩
  obtain ⟨ad, e, hb, hc⟩ := h.2.2.2 hn
  refine ⟨ad, e, Nat.lt_of_lt_of_le hb hs.1, fun j u hu => (World.cell?_of_block ?_).trans (hc j u hu)⟩
  rw [block_of_add]
  exact hs.2 _ (.inr (.inr ⟨hn, ad, e, rfl⟩))
theorem SrcG.lt (h : SrcG W Bt A n c b) : ∀ x, SrcB Bt A n x → x < W.heap.size := by
  rintro x (rfl | rfl | ⟨hn, ad, e, rfl⟩)
  · exact h.1.pos
  · exact h.2.1.lt
  · obtain ⟨ad', e', hb, _⟩ := h.2.2.2 hn
    rw [e] at e'
    injection e' with e'
    rw [e']; exact hb
theorem SrcG.below (h : SrcG W Bt A n c b) (hb : Below W.heap.size W W') : SrcG W' Bt A n c b := h.stay ⟨hb.size, fun x hx => hb.block x (h.lt x hx)⟩
end
/-- A payload as it lies. -/
def payA (A : Option Addr) (c at_ : Nat) : Option Addr := cutA (cutA A c at_) (c - at_) 8
def encG (A : Option Addr) (c : Nat) (x : Nat × List Int) : Array Value := #[.int .i64 (x.1 : Int), .slice (payA A c x.1) x.2.length (c - x.1 - 8)]
/-- A payload reads as its bytes. -/
theorem pay_reads {W : World} {B n c k : Nat} {A : Option Addr} {b p : List Int} (h : Reads W B 1 A n (bts b)) (hnc : n ≤ c) (hp : (frames b)[k]? = some p) :
    atN b k + 8 + p.length ≤ n ∧ Reads W B 1 (payA A c (atN b k)) p.length (bts p) := by
  have hbl : b.length = n := by have := h.1; simpa using this
  obtain ⟨h1, hnx⟩ := at_more hp
  have hle := atN_le b (k + 1)
  rw [hbl, hnx] at hle
  have hl := fst_len h1
  obtain ⟨t, ht⟩ : ∃ t, t = atN b k := ⟨_, rfl⟩
  rw [← ht] at hle h1 hl ⊢
  refine ⟨by omega, ?_⟩
  have r1 := reads_cut h (i := t) (j := n) (by omega) (Nat.le_refl n) hnc
  have e1 : (b.take n).drop t = b.drop t := by rw [← hbl, List.take_length]
  rw [e1] at r1
  have r2 := reads_cut r1 (i := 8) (j := 8 + p.length) (c := c - t) (by omega) (by omega) (by omega)
  rw [show 8 + p.length - 8 = p.length by omega] at r2
  have e2 : ((b.drop t).take (8 + p.length)).drop 8 = p := by
    obtain ⟨_, r, h2⟩ := fst_some.1 h1
    rw [← h2, ← enc_length p, List.take_left]
    exact enc_drop p
  rw [e2] at r2
  exact r2

set_option maxRecDepth 100000 in
set_option maxHeartbeats 4000000 in
theorem good1_in (m l Bt : Nat) (A : Option Addr) (n c : Nat) (b : List Int) (hby : Bytes b) (hn : n ≤ 17179869184) (hnc : n ≤ c) (J Jx : List (Nat × List Int) → World → Prop) (B : Nat) (hJ : OwnFrom B J)
    (hY : ∀ pre (x : Nat × List Int) W, J pre W → pre ++ [x] <+: fseq b → YieldAt Fence.wide (m - 1) Tryd.prog l (encG A c x) W fun e W' => KeepsF B (fun k => B ≤ k) W W' ∧
      ((e = .returned (.bool true) ∧ J (pre ++ [x]) W' ∧ Stay (SrcB Bt A n) W W') ∨ (e = .returned (.bool false) ∧ Jx (pre ++ [x]) W')))
    (W : World) (hB : B ≤ W.heap.size) (hP : SrcG W Bt A n c b) (h0 : J [] W) :
    CallsIn Fence.wide m Tryd.prog 75 #[.func (.yield l) #[] #[], .pointer (some ⟨Bt, 0, none⟩)] W fun e W' => (∃ v, e = .returned v) ∧
      ((∃ ys, ys = fseq b ∧ J ys W') ∨ (∃ pre, pre <+: fseq b ∧ Jx pre W')) := by
  have HP := Lib.hid hP
  have hbl : b.length = n := by have := hP.2.2.1; simpa using this
  have HJ := Lib.hid hJ
  have HY := Lib.hid hY
  have HJ0 := Lib.hid h0
  have HBy := Lib.hid hby
  have HL := Lib.hid hbl
  clear hP hY h0 hJ hby
  refine callsIn_of_wp Tryd.func75 rfl trivial ?_ rfl
  simp only [Tryd.ntmps75, List.size_toArray, List.length_cons, List.length_nil, Nat.reduceAdd, Nat.reduceSub, Array.replicate_succ, Array.replicate_zero, List.push_toArray, List.append_toArray, List.nil_append, List.cons_append]
  gi_wp2
  gi_loopw [3] (fun v wr => ∃ (k : Nat), v = .int .i64 (atN b k : Nat) ∧ k ≤ (frames b).length ∧ J ((fseq b).take k) wr ∧ SrcG wr Bt A n c b ∧ B ≤ wr.heap.size) (fun v _ => n - (intOf v).toNat)
  case atStart => exact ⟨0, by rw [atN_zero]; rfl, Nat.zero_le _, by simpa using HJ0.out, HP.out, hB⟩
  case round =>
    obtain ⟨k, rfl, hk, hJk, hS, hBw⟩ := hrel
    obtain ⟨w2, rfl⟩ : ∃ w2 : World, w2 = wr := ⟨_, rfl⟩
    have HJk := Lib.hid hJk
    have HS := Lib.hid hS
    have ct : w2.cell? ⟨Bt, 0, none⟩ = some (.slice A n c) := hS.2.1.cell 0
    obtain ⟨t, ht⟩ : ∃ t, t = atN b k := ⟨_, rfl⟩
    have htn : t ≤ n := by have h1 := atN_le b k; omega
    rw [← ht]
    have HTe := Lib.hid ht
    have kt : ∀ u : World, (Instr.slice 22 (.slice A n c) (some (.int .i64 (t : Int))) none none).run Tryd.prog u = .ok (.slice (cutA A c t) (n - t) (c - t)) u := fun u => run_cut1 Tryd.underlying22 (by kernel_rfl) A n c t htn u
    have hrd := reads_cut hS.2.2 htn (Nat.le_refl n) hnc
    have hcut : (b.take n).drop t = b.drop t := by rw [← hbl, List.take_length]
    rw [hcut] at hrd
    have HX := Lib.hid (fst_any (cutA A c t) (n - t) (c - t) (b.drop t) w2 hS.1 hrd (by omega) (fun x hx => HBy.out x (List.mem_of_mem_drop hx)) (by omega))
    clear hJk hS ht hrd hcut
    by_cases hlt : k < (frames b).length
    · obtain ⟨p, hp⟩ : ∃ p, (frames b)[k]? = some p := ⟨(frames b)[k], List.getElem?_eq_getElem hlt⟩
      have hf := (at_more hp).1
      have hnx := (at_more hp).2
      rw [← HTe.out] at hf hnx
      obtain ⟨q, hq⟩ : ∃ q, q = p.length := ⟨_, rfl⟩
      have hle := atN_le b (k + 1)
      rw [hbl, hnx, ← hq] at hle
      rw [firstV_some hf, ← hq] at HX
      have HQ := Lib.hid hq
      have hq20 : q ≤ 1048576 := by have := frames_fit b p (List.mem_of_getElem? hp); omega
      obtain ⟨e, he⟩ : ∃ e, e = t + (8 + q) := ⟨_, rfl⟩
      have e2 : (t : Int) + (8 + (q : Int)) = (e : Int) := by omega
      have hen : e ≤ n := by omega
      have hte : t < e := by omega
      have HNx : Hid (atN b (k + 1) = e) := Lib.hid (by rw [hnx, he, hq])
      have HPt := Lib.hid hp
      have HKk : Hid ((fseq b).take k ++ [(t, p)] = (fseq b).take (k + 1)) := Lib.hid (by rw [List.take_add_one, fseq_get hp, HTe.out]; rfl)
      have HLk : Hid (k + 1 ≤ (frames b).length) := Lib.hid hlt
      clear hf hnx hq hle he hp
      gi_wp2_with (refine ⟨trivial, (fun h => by cases h), ?_⟩; gi_at_call 76; refine (callsIn_wide.2 HX.out).mono ?_; rintro e3 w3 ⟨rfl, hb3⟩; have HJ3 := Lib.hid (ownFrom_below HJ.out HJk.out hb3); have HS3 := Lib.hid (HS.out.below hb3); have hB3 : B ≤ w3.heap.size := Nat.le_trans hBw hb3.size; clear hb3)
      obtain ⟨fn, tmps, assign, body, hy, hR⟩ := HY.out ((fseq b).take k) (t, p) w3 HJ3.out (by rw [HKk.out]; exact List.take_prefix _ _)
      replace hy : (Instr.yield l #[.int .i64 (t : Int), .slice (cutA (cutA A c t) (c - t) 8) q (c - t - 8)]).run Tryd.prog w3 = .ok (.round l fn tmps assign body) w3 := by rw [HQ.out]; exact hy
      have HRR := Lib.hid hR
      clear hR
      rw [hy]
      gi_wp2
      refine ⟨(fun h => by cases h), HRR.out.mono ?_⟩
      rintro e4 w4 ⟨hka, ⟨rfl, hJ4, hs4⟩ | ⟨rfl, hx4⟩⟩
      · have HJ4 := Lib.hid hJ4
        have HS4 := Lib.hid (HS3.out.stay hs4)
        have hB4 : B ≤ w4.heap.size := Nat.le_trans hB3 hka.size
        rw [HKk.out] at HJ4
        clear hJ4 hs4 hka hy
        gi_wp2
        go_roundw
        case rel => exact ⟨k + 1, by rw [HNx.out], HLk.out, HJ4.out, HS4.out, hB4⟩
        case measure => simp [intOf]; omega
      · have HX4 := Lib.hid hx4
        rw [HKk.out] at HX4
        clear hx4 hka hy
        gi_wp2
        first | go_end0 | refine bodyPost_ret (results_none rfl _ _ _) rfl ?_
        exact ⟨⟨_, rfl⟩, .inr ⟨_, List.take_prefix _ _, HX4.out⟩⟩
    · have hkk : k = (frames b).length := by omega
      have HYk : Hid ((fseq b).take k = fseq b) := Lib.hid (by rw [hkk, ← fseq_length b, List.take_length])
      have hf : fst (b.drop t) = none := by rw [HTe.out, hkk, atN_all]; exact at_end b
      rw [firstV_none hf] at HX
      clear hlt hf
      gi_wp2_with (refine ⟨trivial, (fun h => by cases h), ?_⟩; gi_at_call 76; refine (callsIn_wide.2 HX.out).mono ?_; rintro e3 w3 ⟨rfl, hb3⟩; have HJ3 := Lib.hid (ownFrom_below HJ.out HJk.out hb3); clear hb3)
      refine ⟨(fun _ h => by cases h), ?_⟩
      gi_wp2
      first | go_end0 | refine bodyPost_ret (results_none rfl _ _ _) rfl ?_
      exact ⟨⟨_, rfl⟩, .inl ⟨_, rfl, by rw [← HYk.out]; exact HJ3.out⟩⟩

/-- A function that goes over the good frames of b as they lie at A. -/
def SeqG (v : Value) (A : Option Addr) (c : Nat) (b : List Int) (R : Nat → Prop) (w : World) : Prop :=
  ∃ gf lb, v = .func (.func gf) #[] lb ∧ (∀ args u, (callFunc gf args).run Tryd.prog u = .ok (.enter gf args) u) ∧ (∀ g, R g → g < w.heap.size) ∧
    ∀ m W, Stay R w W → GoesF m Tryd.prog gf #[] lb (encG A c) (Stay R) (fun ys => ys = fseq b) (fun pre => pre <+: fseq b) (fun B pre x W => pre ++ [x] <+: fseq b) (fun B x k => B ≤ k) W
theorem SeqG.lt {v : Value} {A : Option Addr} {c : Nat} {b : List Int} {R : Nat → Prop} {w : World} (h : SeqG v A c b R w) : ∀ g, R g → g < w.heap.size := by
  obtain ⟨_, _, _, _, h2, _⟩ := h
  exact h2
theorem SeqG.at_ {gf : Nat} {lb : Array Value} {A : Option Addr} {c : Nat} {b : List Int} {R : Nat → Prop} {w : World} (h : SeqG (.func (.func gf) #[] lb) A c b R w) (m : Nat) :
    GoesF m Tryd.prog gf #[] lb (encG A c) (Stay R) (fun ys => ys = fseq b) (fun pre => pre <+: fseq b) (fun B pre x W => pre ++ [x] <+: fseq b) (fun B x k => B ≤ k) w := by
  obtain ⟨gf', lb', e, _, _, h3⟩ := h
  injection e with e1 e3 e2
  injection e1 with e1
  subst e1; subst e2
  exact h3 m w (Stay.refl_ _ _)
theorem good_seq (Bt : Nat) (A : Option Addr) (n c : Nat) (b : List Int) (hby : Bytes b) (hn : n ≤ 17179869184) (hnc : n ≤ c) (w : World) (hP : SrcG w Bt A n c b) :
    SeqG (.func (.func 75) #[] #[.pointer (some ⟨Bt, 0, none⟩)]) A c b (SrcB Bt A n) w := by
  refine ⟨_, _, rfl, fun args u => rfl, hP.lt, fun m W hW => ?_⟩
  intro l J Jx W' hb hJ hJx hY h0
  exact good1_in m l Bt A n c b hby hn hnc J Jx W'.heap.size hJ hY W' (Nat.le_refl _) ((hP.stay hW).below hb) h0
theorem good_any (A : Option Addr) (n c : Nat) (b : List Int) (w : World) (ht : Tab w) (hr : Reads w w.heap.size 1 A n (bts b)) (hnc : n ≤ c) (hby : Bytes b) (hn : n ≤ 17179869184) :
    Calls Tryd.prog 73 #[.slice A n c] w fun e w' => e = .returned (.func (.func 75) #[] #[.pointer (some ⟨w.heap.size, 0, none⟩)]) ∧
      SeqG (.func (.func 75) #[] #[.pointer (some ⟨w.heap.size, 0, none⟩)]) A c b (SrcB w.heap.size A n) w' ∧ Below w.heap.size w w' ∧ w'.heap.size = w.heap.size + 1 := by
  have HT := Lib.hid ht
  have HR := Lib.hid hr
  have HB := Lib.hid hby
  clear ht hr hby
  go_enter Tryd.func73, Tryd.ntmps73
  go_wp2
  go_ret
  have hb : Below w.heap.size w (w.alloc (.cells #[.slice A n c] 22)) := (Below.refl _ w).alloc (Nat.le_refl _) _
  exact ⟨rfl, good_seq w.heap.size A n c b HB.out hn hnc _ ⟨HT.out.next hb, Blk.new w _ _, (HR.out.below hb).more hb.size⟩, hb, by simp⟩
end Go.Proofs.YtnpmccekkjadhaaDoor.Pk

/- Package frame: End. -/
namespace Go.Proofs.YtnpmccekkjadhaaDoor.Pk
open Go.RowKit Go.Shelf Go.Proofs.YtnpmccekkjadhaaDoor.Crc Go.Proofs.YtnpmccekkjadhaaDoor.Fr
set_option linter.unusedVariables false
attribute [local go_sem] Oper.semAt_some encG
theorem fseq_next {b : List Int} {pre : List (Nat × List Int)} {x : Nat × List Int} (h : pre ++ [x] <+: fseq b) : x.1 = atN b pre.length ∧ (frames b)[pre.length]? = some x.2 ∧ pre.length + 1 ≤ (frames b).length := by
  obtain ⟨t, ht⟩ := h
  have hl := congrArg List.length ht
  simp only [List.length_append, List.length_singleton, fseq_length] at hl
  have hlt : pre.length < (frames b).length := by omega
  have hg : (frames b)[pre.length]? = some (frames b)[pre.length] := List.getElem?_eq_getElem hlt
  have h1 := fseq_get hg
  rw [← ht] at h1
  simp at h1
  refine ⟨by rw [h1], by rw [hg, h1], by omega⟩

set_option maxRecDepth 100000 in
set_option maxHeartbeats 4000000 in
theorem endC : EndC := by
  intro A n c b w ht hr hnc hby hn
  have hp0 := ht.pos
  have hbl : b.length = n := by have := hr.1; simpa using this
  obtain ⟨w1, hw1⟩ : ∃ w1, w1 = w.alloc (.cells #[.int .i64 0] 3) := ⟨_, rfl⟩
  have hb1 : Below w.heap.size w w1 := hw1 ▸ (Below.refl _ w).alloc (Nat.le_refl _) _
  have kb1 : Blk w1 w.heap.size 3 #[.int .i64 0] := by rw [hw1]; exact Blk.new w _ _
  have HX := Lib.hid (good_any A n c b w1 (ht.next hb1) ((hr.below hb1).more hb1.size) hnc hby hn)
  have HB1 := Lib.hid hb1
  have HK1 := Lib.hid kb1
  obtain ⟨B0, hB0⟩ : ∃ B0, B0 = w.heap.size := ⟨_, rfl⟩
  have HB0 := Lib.hid hB0
  have HAd : Hid (0 < n → ∀ ad, A = some ad → ad.block < B0) := Lib.hid (fun h ad e => by
    obtain ⟨ad', e', hb, _⟩ := hr.2 h
    rw [e] at e'; injection e' with e'
    rw [e', hB0]; exact hb)
  have HLb := Lib.hid hbl
  have HP0 : Hid (0 < B0) := Lib.hid (by rw [hB0]; exact hp0)
  clear ht hr hb1 kb1 hby
  refine (callsIn_wide (n := 9)).1 ?_
  refine callsIn_of_wp_marks Tryd.func69 rfl trivial ?_ rfl
  simp only [Tryd.ntmps69, List.size_toArray, List.length_cons, List.length_nil, Nat.reduceAdd, Nat.reduceSub, Array.replicate_succ, Array.replicate_zero, List.push_toArray, List.append_toArray, List.nil_append, List.cons_append]
  refine wpIn_wide.2 ?_
  go_wp2_with fail
  rw [← hw1, ← hB0]
  rw [← hB0] at HK1
  clear hw1 hB0
  refine HX.out.mono ?_
  rintro e w2 ⟨rfl, hseq, hb2, hsz⟩
  have SE2 := Lib.hid hseq
  have HRl : Hid (∀ g, SrcB w1.heap.size A n g → g < w2.heap.size ∧ g ≠ B0) := Lib.hid (fun g hg => ⟨hseq.lt g hg, fun e => by
    have h2 := HK1.out.lt
    have h3 := HP0.out
    rcases hg with h1 | h1 | ⟨h4, ad, h5, h1⟩
    · omega
    · omega
    · have := HAd.out h4 ad h5; omega⟩)
  have HK2 := Lib.hid (HK1.out.below hb2 HK1.out.lt)
  have HB2 := Lib.hid (HB1.out.trans (hb2.mono HB1.out.size))
  have hs2 : B0 < w2.heap.size := HK2.out.lt
  clear hseq hb2 HX hsz
  go_wp2
  have cv : True := trivial
  obtain ⟨S, hS⟩ : ∃ S : Nat → Prop, S = fun b => b = B0 := ⟨_, rfl⟩
  have S1 : S B0 := by rw [hS]
  have HSe : Hid (∀ b, S b → b = B0) := Lib.hid (fun b h => by rw [hS] at h; exact h)
  clear hS
  refine (wpIn_wide (n := 9)).1 ?_
  refine' range_boundF (α := Nat × List Int) (gf := 75) (pb := #[]) (lb := #[.pointer (some ⟨w1.heap.size, 0, none⟩)]) rfl (fun args u => rfl) (SE2.out.at_ _) (fun _ _ _ _ _ _ h => h) (fun h k => h.trans k) (stay_b SE2.out.lt) (fun _ => rfl) (fun _ _ _ _ _ _ _ _ _ h => h)
    (fun pre V => Blk V B0 3 #[.int .i64 (atN b pre.length : Nat)] ∧ OnlyS S w2 V)
    (fun cc pre V => False)
    (OwnFrom.and (Own.from (I := fun (pre : List (Nat × List Int)) V => Blk V B0 3 #[.int .i64 (atN b pre.length : Nat)]) (fun s A B row hs hg hr => blk_kept hs hg hr) _) (own_onlyS w2 S))
    (fun cc => fun s A B row hs hg hr => hs)
    ⟨HK2.out, OnlyS.refl _ _⟩
    _ ?assign ?body ?done ?stop
  case assign =>
    intro lp y V K hK
    gi_wp2
    exact hK
  case body =>
    rintro lp pre ⟨yat, yp⟩ V hlp hrec ⟨hk1, hO⟩ ⟨B', hB', hBV, hok⟩
    obtain ⟨h1, h2, h3⟩ := fseq_next hok
    have hnx := (at_more h2).2
    have hle := atN_le b (pre.length + 1)
    rw [HLb.out, hnx] at hle
    simp only at h1 hnx hle
    rw [← h1] at hnx hle
    have HNx : Hid ((yat : Int) + 8 + (yp.length : Int) = ((atN b (pre ++ [(yat, yp)]).length : Nat) : Int)) := Lib.hid (by rw [List.length_append, List.length_singleton, hnx]; omega)
    obtain ⟨q, hq⟩ : ∃ q, q = yp.length := ⟨_, rfl⟩
    rw [← hq] at hle HNx
    have HQ := Lib.hid hq
    have HK := Lib.hid hk1
    have HO := Lib.hid hO
    have cB : V.cell? ⟨B0, 0, none⟩ = some (.int .i64 (atN b pre.length : Nat)) := by rw [hk1.cell]; rfl
    have fB : V.frozen? ⟨B0, 0, none⟩ = false := hk1.frozen 0
    clear hk1 hO h1 h2 h3 hnx hok
    dsimp only
    rw [← hq]
    clear hq
    have hq20 : q ≤ 17179869184 := by omega
    have hy20 : yat ≤ 17179869184 := by omega
    gi_wp2
    refine ⟨(KeepsAll.setCell V hs2 _).but _, stay_setAt (fun h => (HRl.out B0 h).2 rfl), ?_, HO.out.set S1 _⟩
    rw [← HNx.out]
    exact blk_put HK.out _
  case stop =>
    rintro D cc pre V hD hpre hf hK
    exact hf.elim
  case done =>
    rintro D ys V hD rfl ⟨hk1, hO⟩ hK
    rw [fseq_length, atN_all] at hk1
    have cB : V.cell? ⟨B0, 0, none⟩ = some (.int .i64 (fend b : Nat)) := by rw [hk1.cell]; rfl
    have hmk : Marks w2.heap.size [{ target := .collected D, args := #[] }] V := Marks.cons (ds := []) trivial (fun d hd => by simp at hd) hD hK
    have HMk := Lib.hid hmk
    have HBe : Hid (Below w.heap.size w V) := Lib.hid (OnlyS.bel HB2.out hO (fun b hb => by have := HSe.out b hb; have := HB0.out; omega) HB2.out.size)
    clear hO hmk hK hk1
    go_wp2
    refine Marks.leave (B := w2.heap.size) _ _ HMk.out (fun W' hb => ?_)
    exact ⟨_, by simp [results, Tryd.f69, go_sem], rfl, HBe.out.trans (hb.mono HB2.out.size)⟩
end Go.Proofs.YtnpmccekkjadhaaDoor.Pk

/- The library's bytes.Clone. -/
namespace Go.Proofs.YtnpmccekkjadhaaDoor.Pk
open Go.RowKit Go.Proofs.YtnpmccekkjadhaaDoor.Crc Go.Proofs.YtnpmccekkjadhaaDoor.Fr
set_option linter.unusedVariables false
def CloneC : Prop := ∀ (A : Option Addr) (n c : Nat) (l : List Int) (w : World), Reads w w.heap.size 1 A n (bts l) → n ≤ 140737488355328 →
    Calls Tryd.prog 31 #[.slice A n c] w fun e w' => ∃ v, e = .returned v ∧ OwnB w' w.heap.size v l ∧ Below w.heap.size w w'
set_option maxHeartbeats 800000 in
theorem clone_code : CloneC := by
  intro A n c l w h hn
  have HR := Lib.hid h
  clear h
  have heq := fun (w : World) => Lib.run_eql_slice_nil (P := Tryd.prog) w 22 5 A n c 0 0 Tryd.underlying22
  cases A with
  | none =>
    have hn0 : n = 0 := HR.out.nil rfl
    subst hn0
    have hl : l = [] := by have := HR.out.1; simpa using this
    subst hl
    go_enter Tryd.func31, Tryd.ntmps31
    go_wp2
    go_ret
    exact ⟨_, rfl, ⟨rfl, .inl ⟨rfl, rfl⟩⟩, Below.refl _ _⟩
  | some ad =>
    go_enter Tryd.func31, Tryd.ntmps31
    go_wp2_with (at_builtin; refine appE w rfl (.tmp 5) (.tmp 6) rfl w.heap.size rfl w.heap.size (some ad) c l n rfl HR.out (Nat.le_refl _) (by omega) (Nat.le_refl _) ?_; intro v2 w2 hown2 hb2)
    go_ret
    exact ⟨_, rfl, hown2, hb2⟩

end Go.Proofs.YtnpmccekkjadhaaDoor.Pk

/- Appending to a list of lists within a round; marks that leave cells. -/
namespace Go.Proofs.YtnpmccekkjadhaaDoor.Pk
open Go.RowKit Go.Shelf Go.Proofs.YtnpmccekkjadhaaDoor.Crc Go.Proofs.YtnpmccekkjadhaaDoor.Fr
set_option linter.unusedVariables false
attribute [local go_sem] Oper.semAt_some encG
/-- A list is appended to a list of lists, inside a fence. -/
theorem appLi {F : Fence} {m : Nat} {ops : Array Oper} {rest : List Oper} {o : Oper} {a : Act} {Q : Exit → Act → World → Prop} (w : World) (y : Piece) (T : TypeId) (hgd : o.guard = none) (s x : Operand)
    (ho : o.op = .call { callee := .builtin .append, args := #[s, x], argTypes := #[41, 41] }) (B : Nat) (v : Value) (ps : List Piece) (hs : a.eval s = v) (hown : OwnP w B v ps)
    (hx : a.eval x = .slice (some ⟨w.heap.size, 0, none⟩) 1 1) (hlen : (ps.length + 1) * 24 ≤ 140737488355328) (hB : B ≤ w.heap.size)
    (h : ∀ v' w', OwnP w' B v' (ps ++ [y]) → w.grownBy w' v.ownBlock → wpListIn F m Tryd.prog ops Q rest (a.put o.dst v') w') : wpListIn F m Tryd.prog ops Q (o :: rest) a (w.alloc (.cells #[.slice y.a y.n y.c] T)) := by
  obtain ⟨i0, hi0, hz0, hz1, hz2⟩ := info_parts sl_info
  refine wpListIn_append_own _ hgd s x _ ho B 22 i0 _ 1 24 Tryd.underlying41 hi0 hz0 hz1 hz2 rfl (by omega) v ps.length (ps.map Piece.val) hs (World.ownsRow.alloc hown _) ⟨w.heap.size, 0, none⟩ 1 1 ([y].map Piece.val) hx rfl ?_ (pieces_one [y])
    (by unfold maxLen; omega) (by omega) (by simp; omega) ?_
  · intro j u hj
    match j, hj with
    | 0, hj => simp [Piece.val] at hj; subst hj; simp [Addr.add]
    | j + 1, hj => simp at hj
  · intro v' w' ho hg _
    refine h v' w' ?_ ⟨hg.os, hg.tape, hg.output, by have := hg.size; simp at this; omega, fun i hi hn => (hg.block i (by simp; omega) hn).trans (Below.heap_alloc w _ i hi)⟩
    unfold OwnP
    rw [List.map_append, List.length_append]; exact ho
/-- The same as one step of a region that draws, inside a fence. -/
theorem stepLi {F : Fence} {m : Nat} {ops : Array Oper} {o : Oper} {a : Act} {K : Act → World → Prop} {Q : Exit → Act → World → Prop} {E : Prop} (w : World) (y : Piece) (T : TypeId) (hgd : o.guard = none) (s x : Operand)
    (ho : o.op = .call { callee := .builtin .append, args := #[s, x], argTypes := #[41, 41] }) (g : Nat) (B : Nat) (v : Value) (ps : List Piece) (hs : a.eval s = v) (hown : OwnP w B v ps)
    (hx : a.eval x = .slice (some ⟨g, 0, none⟩) 1 1) (hg : Blk w g T #[.slice y.a y.n y.c]) (hlen : (ps.length + 1) * 24 ≤ 140737488355328) (hB : B ≤ w.heap.size)
    (h : ∀ v' w', OwnP w' B v' (ps ++ [y]) → w.grownBy w' v.ownBlock → K (a.put o.dst v') w') : if Region.wanted o (yielded ops a.tmps) = true then Oper.wpIn F m Tryd.prog o a w K Q else E := by
  obtain ⟨i0, hi0, hz0, hz1, hz2⟩ := info_parts sl_info
  have hw : Region.wanted o (yielded ops a.tmps) = true := by simp [Region.wanted, hgd]
  rw [if_pos hw]
  obtain ⟨v', w', hrun, r1, r2, r3⟩ := run_append_own (P := Tryd.prog) w B 41 o.type 22 i0 _ 1 24 Tryd.underlying41 hi0 hz0 hz1 hz2 rfl (by omega) v ps.length (ps.map Piece.val) hown ⟨g, 0, none⟩ 1 1 ([y].map Piece.val) rfl (fun j u hj => by
    match j, hj with
    | 0, hj => simp [Piece.val] at hj; subst hj; have := hg.cell 0; simpa [Addr.add] using this
    | j + 1, hj => simp at hj) (pieces_one [y]) (by unfold maxLen; omega) (by omega) hB
  unfold Oper.wpIn
  refine ⟨?_, ?_⟩
  · simp [Oper.about, ho, resolve, Target.leads, Sem.run_pure]
  · rw [Oper.semAt_plain F _ _ (by rw [ho]; intro c hc'; cases hc')]
    simp [execOp, ho, resolve, invoke, builtin, hs, hx, hrun, Result.andThen]
    refine h v' w' ?_ r2
    unfold OwnP
    rw [List.map_append, List.length_append]; exact r1
theorem ownL_kept {A B : World} {row : Option Nat} {base : Nat} {v : Value} {ps : List Piece} (h : OwnL A base v ps) (hg : A.grownBy B row) (hr : ∀ r, row = some r → ∃ o, A.heap[r]? = some o ∧ o.isCells = false) : OwnL B base v ps := by
  have key : ∀ (g : Nat) (cs : Array Value) (e : TypeId), A.heap[g]? = some (Obj.cells cs e (0, 0)) → B.heap[g]? = A.heap[g]? := fun g cs e hh => hg.block g (Array.getElem?_eq_some_iff.1 hh).1 (fun e2 => by
    obtain ⟨o, h1, h2⟩ := hr g e2.symm
    rw [hh] at h1; injection h1 with h1; subst h1; simp [Obj.isCells] at h2)
  refine ⟨h.row.stay fun g e => ?_, fun p hp => (h.each p hp).stay fun g e => ?_, h.apart⟩
  · obtain ⟨cs, hh⟩ := own_kind h.row g e
    exact key g cs _ hh
  · obtain ⟨cs, hh⟩ := own_kind (h.each p hp) g e
    exact key g cs _ hh

/-- At the return each mark is taken; memory cells lie as they lay. -/
theorem Marks.leaveC {F : Fence} {n : Nat} {P : Program} {fn : Func} {tmps : Array Value} {R : Ending → World → Prop} {B : Nat} : ∀ (ds : List Deferred) (W : World), Marks B ds W →
    (∀ W', Below B W W' → (∀ (k : Nat) (cs : Array Value) (e : TypeId), W.heap[k]? = some (Obj.cells cs e (0, 0)) → W'.heap[k]? = W.heap[k]?) → LeavesIn F n P fn tmps R [] .returning W') → LeavesInM F n P fn tmps R ds .returning W := by
  intro ds
  induction ds with
  | nil => intro W _ h; exact h W (Below.refl _ _) (fun _ _ _ _ => rfl)
  | cons d ds ih =>
    intro W hm h
    obtain ⟨D, rfl, h1, h2, h3, h4, h5⟩ := hm
    refine ⟨by simp, .inl ⟨D, W.putObj D (.deferred none), rfl, run_takeDeferred h3, ?_⟩⟩
    have hb := below_putObj W (.deferred none) h1
    have hc : ∀ (k : Nat) (cs : Array Value) (e : TypeId), W.heap[k]? = some (Obj.cells cs e (0, 0)) → (W.putObj D (.deferred none)).heap[k]? = W.heap[k]? := fun k cs e hk => World.putObj_heap_other (fun e2 => by subst e2; rw [hk] at h3; cases h3)
    refine ih _ (h5.keep (by simp [World.putObj]) (fun k ⟨d, hd, he⟩ => World.putObj_heap_other (fun e => ?_))) (fun W' hW' hcw => h W' (hb.trans hW') (fun k cs e hk => (hcw k cs e ((hc k cs e hk).trans hk)).trans (hc k cs e hk)))
    exact h4 d hd (by rw [he, e])


end Go.Proofs.YtnpmccekkjadhaaDoor.Pk

/- Package frame: Frames, with a promise that lets a round change all that is younger than the iterator's own memory. -/
namespace Go.Proofs.YtnpmccekkjadhaaDoor.Pk
open Go.RowKit Go.Shelf Go.Proofs.YtnpmccekkjadhaaDoor.Crc Go.Proofs.YtnpmccekkjadhaaDoor.Fr
set_option linter.unusedVariables false
attribute [local go_sem] Oper.semAt_some encG encF
/-- What the function stands on. -/
def SrcR (Bt : Nat) (A : Option Addr) (n c : Nat) (x : Nat) : Prop := x = 0 ∨ x = Bt ∨ (Value.slice A n c).ownBlock = some x
def SrcF (W : World) (Bt : Nat) (A : Option Addr) (n c : Nat) (b : List Int) : Prop := Tab W ∧ Blk W Bt 22 #[.slice A n c] ∧ OwnB W 0 (.slice A n c) b
section
variable {W W' : World} {Bt n c : Nat} {A : Option Addr} {b : List Int}
theorem SrcF.stay (h : SrcF W Bt A n c b) (hs : Stay (SrcR Bt A n c) W W') : SrcF W' Bt A n c b :=
  ⟨fun i hi => (World.cell?_of_block (a := ⟨0, i, none⟩) (hs.2 0 (.inl rfl))).trans (h.1 i hi), (hs.2 Bt (.inr (.inl rfl))).trans h.2.1, h.2.2.stay fun g e => hs.2 g (.inr (.inr e))⟩
theorem SrcF.lt (h : SrcF W Bt A n c b) : ∀ x, SrcR Bt A n c x → x < W.heap.size := by
  rintro x (rfl | rfl | e)
  · exact h.1.pos
  · exact h.2.1.lt
  · exact own_lt h.2.2 x e
theorem SrcF.below (h : SrcF W Bt A n c b) (hb : Below W.heap.size W W') : SrcF W' Bt A n c b := h.stay ⟨hb.size, fun x hx => hb.block x (h.lt x hx)⟩
theorem Stay.sub_ {D D' : Nat → Prop} {A B : World} (h : Stay D A B) (hs : ∀ k, D' k → D k) : Stay D' A B := ⟨h.1, fun k hk => h.2 k (hs k hk)⟩
theorem block_own {W : World} {B n c : Nat} {A : Option Addr} {b : List Int} (h : OwnB W B (.slice A n c) b) {ad : Addr} (e : A = some ad) : (Value.slice A n c).ownBlock = some ad.block := by
  rcases h.2 with ⟨e2, _⟩ | ⟨g, cap, cur, e2, _⟩
  · injection e2 with e2; rw [e] at e2; cases e2
  · injection e2 with e2
    subst e2
    injection e with e
    subst e
    rfl
end
/-- What stands of the walk over the frames that came. -/
def WalkI (J : List FrL → World → Prop) (Z : Nat → Prop) (w2 : World) (pre : List (Nat × List Int)) (V : World) : Prop :=
  (∃ ys : List FrL, ys.map keyL = pre ∧ J ys V ∧ ∀ y ∈ ys, (∀ g, frF y.1 g → g < V.heap.size) ∧ y.2 = w2.heap.size + 2) ∧ Stay Z w2 V

set_option maxRecDepth 100000 in
set_option maxHeartbeats 4000000 in
theorem frames1L_in (m l Bt : Nat) (A : Option Addr) (n c : Nat) (b : List Int) (hby : Bytes b) (hn : n ≤ 17179869184) (J Jx : List FrL → World → Prop) (B : Nat) (hJ : OwnFrom B J) (hJx : OwnFrom B Jx)
    (hY : ∀ pre (x : FrL) W, J pre W → OkL b (SrcR Bt A n c) B pre x W → YieldAt Fence.wide (m - 1) Tryd.prog l (encL x) W fun e W' => KeepsF B (frL B x) W W' ∧
      ((e = .returned (.bool true) ∧ J (pre ++ [x]) W' ∧ Stay (SrcR Bt A n c) W W') ∨ (e = .returned (.bool false) ∧ Jx (pre ++ [x]) W')))
    (W : World) (hB : B ≤ W.heap.size) (hP : SrcF W Bt A n c b) (h0 : J [] W) :
    CallsIn Fence.wide m Tryd.prog 74 #[.func (.yield l) #[] #[], .pointer (some ⟨Bt, 0, none⟩)] W fun e W' => (∃ v, e = .returned v) ∧
      ((∃ ys, ys.map keyL = fseq b ∧ J ys W') ∨ (∃ pre, pre.map keyL <+: fseq b ∧ Jx pre W')) := by
  have hl := own_len hP.2.2
  obtain ⟨W1, hW1⟩ : ∃ W1, W1 = W.alloc (.cells #[.func (.yield l) #[] #[]] 109) := ⟨_, rfl⟩
  have hb1 : Below W.heap.size W W1 := hW1 ▸ (Below.refl _ W).alloc (Nat.le_refl _) _
  have kb1 : Blk W1 W.heap.size 109 #[.func (.yield l) #[] #[]] := by rw [hW1]; exact Blk.new W _ _
  have hP1 := hP.below hb1
  have ct : (W.alloc (.cells #[.func (.yield l) #[] #[]] 109)).cell? ⟨Bt, 0, none⟩ = some (.slice A n c) := by rw [← hW1]; exact hP1.2.1.cell 0
  have HX := Lib.hid (good_any A n c b W1 hP1.1 (own_reads hP1.2.2) hl.2 hby hn)
  have HP1 := Lib.hid hP1
  have HB1 := Lib.hid hb1
  have HK1 := Lib.hid kb1
  have HJ := Lib.hid hJ
  have HJx := Lib.hid hJx
  have HY := Lib.hid hY
  have HJ0 := Lib.hid h0
  have HL := Lib.hid hl
  obtain ⟨B1, hB1⟩ : ∃ B1, B1 = W.heap.size := ⟨_, rfl⟩
  have HB1e := Lib.hid hB1
  clear hP hY h0 hJ hJx hby hl hb1 kb1 hP1
  refine callsIn_of_wp_marks Tryd.func74 rfl trivial ?_ rfl
  simp only [Tryd.ntmps74, List.size_toArray, List.length_cons, List.length_nil, Nat.reduceAdd, Nat.reduceSub, Array.replicate_succ, Array.replicate_zero, List.push_toArray, List.append_toArray, List.nil_append, List.cons_append]
  gi_wp2_with fail
  rw [← hW1]
  clear hW1 ct
  refine ⟨trivial, (fun h => by cases h), (callsIn_wide.2 HX.out).mono ?_⟩
  rintro e w2 ⟨rfl, hseq, hb2, hsz⟩
  have hPw2 : SrcF w2 Bt A n c b := HP1.out.below hb2
  have HP2 := Lib.hid hPw2
  have SE2 := Lib.hid hseq
  have HB2 := Lib.hid (HB1.out.trans (hb2.mono HB1.out.size))
  have HK2 := Lib.hid (HK1.out.below hb2 HK1.out.lt)
  have hW12 : W.heap.size < w2.heap.size := HK2.out.lt
  have hW1s : W1.heap.size < w2.heap.size := by omega
  have hW1b : W.heap.size ≤ W1.heap.size := HB1.out.size
  clear hseq hb2 HX hsz hPw2
  gi_wp2
  have cv : True := trivial
  obtain ⟨Z, hZ⟩ : ∃ Z : Nat → Prop, Z = fun k => SrcR Bt A n c k ∨ (W.heap.size ≤ k ∧ k < w2.heap.size) := ⟨_, rfl⟩
  have HZ : Hid (∀ k, Z k ↔ (SrcR Bt A n c k ∨ (W.heap.size ≤ k ∧ k < w2.heap.size))) := Lib.hid (fun k => by rw [hZ])
  have HZl : Hid (∀ k, Z k → k < w2.heap.size) := Lib.hid (fun k hk => by
    rcases (HZ.out k).1 hk with h | h
    · exact HP2.out.lt k h
    · exact h.2)
  have HSub : Hid (∀ k, SrcB W1.heap.size A n k → Z k) := Lib.hid (by
    intro k hk
    refine (HZ.out k).2 ?_
    rcases hk with rfl | rfl | ⟨h1, ad, h2, rfl⟩
    · exact .inl (.inl rfl)
    · exact .inr ⟨hW1b, hW1s⟩
    · exact .inl (.inr (.inr (block_own HP2.out.2.2 h2))))
  clear hZ
  refine' range_boundF (α := Nat × List Int) (gf := 75) (pb := #[]) (lb := #[.pointer (some ⟨W1.heap.size, 0, none⟩)]) rfl (fun args u => rfl) (SE2.out.at_ _) (fun _ _ _ _ _ _ h => h) (fun h k => h.trans k) (stay_b SE2.out.lt) (fun _ => rfl) (fun _ _ _ _ _ _ _ _ _ h => h)
    (fun pre V => WalkI J Z w2 pre V)
    (fun cc pre V => cc = .ret ∧ ∃ ys : List FrL, ys.map keyL = pre ∧ Jx ys V)
    ?own ?ownx ⟨⟨[], rfl, ownFrom_below HJ.out HJ0.out HB2.out, fun y hy => by simp at hy⟩, Stay.refl_ _ _⟩
    _ ?assign ?body ?done ?stop
  case own =>
    rintro q A B row ⟨⟨ys, h1, h2, h3⟩, hst⟩ hg hr
    exact ⟨⟨ys, h1, HJ.out ys A B row h2 hg (fun r e => ⟨by have := (hr r e).1; omega, (hr r e).2⟩), fun y hy => ⟨fun g e => Nat.lt_of_lt_of_le ((h3 y hy).1 g e) hg.size, (h3 y hy).2⟩⟩,
      hst.trans ⟨hg.size, fun k hk => hg.block k (Nat.lt_of_lt_of_le (HZl.out k hk) hst.1) (fun e => by have := (hr k e.symm).1; have := HZl.out k hk; omega)⟩⟩
  case ownx =>
    rintro cc q A B row ⟨h0, ys, h1, h2⟩ hg hr
    exact ⟨h0, ys, h1, HJx.out ys A B row h2 hg (fun r e => ⟨by have := (hr r e).1; omega, (hr r e).2⟩)⟩
  case assign =>
    intro lp y V K hK
    gi_wp2
    exact hK
  case body =>
    rintro lp pre ⟨yat, yp⟩ V hlp hrec ⟨⟨ys, hys, hJy, hyl⟩, hst⟩ ⟨B', hB', hBV, hok⟩
    obtain ⟨h1, h2, h3⟩ := fseq_next hok
    have hSV : SrcF V Bt A n c b := HP2.out.stay (Stay.sub_ hst (fun k hk => (HZ.out k).2 (.inl hk)))
    have hrd := (pay_reads (own_reads hSV.2.2) HL.out.2 h2).2
    simp only at h1
    rw [← h1] at hrd
    obtain ⟨q, hq⟩ : ∃ q, q = yp.length := ⟨_, rfl⟩
    have hq20 : q ≤ 1048576 := by have := frames_fit b yp (List.mem_of_getElem? h2); omega
    dsimp only at hrd ⊢
    rw [← hq] at hrd ⊢
    have HCl : Hid (∀ U, Below V.heap.size V U → Calls Tryd.prog 31 #[.slice (payA A c yat) q (c - yat - 8)] U fun e w' => ∃ v, e = .returned v ∧ OwnB w' U.heap.size v yp ∧ Below U.heap.size U w') := Lib.hid (fun U hU => clone_code _ _ _ _ U ((hrd.below hU).more hU.size) (by omega))
    have hB1V : W.heap.size < V.heap.size := by have := hst.1; omega
    have kB : Blk V W.heap.size 109 #[.func (.yield l) #[] #[]] := by
      exact (hst.2 _ ((HZ.out _).2 (.inr ⟨Nat.le_refl _, hW12⟩))).trans HK2.out
    have cB : V.cell? ⟨W.heap.size, 0, none⟩ = some (.func (.yield l) #[] #[]) := by rw [kB.cell]; rfl
    have hBV2 : B ≤ V.heap.size := by have := hst.1; omega
    have HJy := Lib.hid hJy
    have HYs := Lib.hid hys
    have HYl := Lib.hid hyl
    have HST := Lib.hid hst
    have HOk := Lib.hid hok
    have HSV := Lib.hid hSV
    clear hys hJy hyl hst hok hSV h1 h2 h3 hrd hq kB
    gi_wp2
    refine wpIn_region_any (by kernel_rfl) ?_
    change wpAnyIn _ _ _ _ _ _ _ _ _ (World.drew _)
    refine anyIn_roundL (F := Fence.wide) (by rfl) lp ?_
    refine take_lit (i := 1) rfl rfl rfl (by kernel_rfl) (by kernel_rfl) (by kernel_rfl) (fun _ _ _ h => h) ⟨Or.inl ⟨by rfl, fun _ => rfl⟩, fun _ => rfl⟩ (by simp only [List.setIfInBounds_toArray, List.set_cons_succ, List.set_cons_zero]; first | done | rfl) ?_
    refine take_lit (i := 2) rfl rfl rfl (by kernel_rfl) (by kernel_rfl) (by kernel_rfl) (fun _ _ _ h => h) ⟨Or.inl ⟨by rfl, fun _ => rfl⟩, fun _ => rfl⟩ (by simp only [List.setIfInBounds_toArray, List.set_cons_succ, List.set_cons_zero]; first | done | rfl) ?_
    refine wpAnyIn_ready (rs := [0, 3]) (by kernel_rfl) (by simp) (AllReadyIn.cons rfl (fun K hK => ?_) (AllReadyIn.cons rfl (fun K hK => ?_) AllReadyIn.nil))
    · go_simp
      refine hK _ _ ?_; clear hK K
      refine wpAnyIn_ready (rs := [3]) (by kernel_rfl) (by simp) (AllReadyIn.cons rfl (fun K hK => ?_) AllReadyIn.nil)
      go_simp
      refine ⟨trivial, (fun h => by cases h), (callsIn_wide.2 (HCl.out V.drew ⟨rfl, rfl, rfl, Nat.le_refl _, fun _ _ => rfl⟩)).mono ?_⟩
      rintro e3 w3 ⟨v3, rfl, ho3, hb3⟩
      obtain ⟨A3, n3, c3, rfl⟩ := own_slice ho3
      have HO3 : Hid (OwnB w3 V.heap.size (.slice A3 n3 c3) yp) := Lib.hid ho3
      have HB3 : Hid (Below V.heap.size V w3) := Lib.hid ⟨hb3.os, hb3.tape, hb3.output, hb3.size, hb3.block⟩
      have cB3 : w3.cell? ⟨W.heap.size, 0, none⟩ = some (.func (.yield l) #[] #[]) := (World.cell?_of_block (a := ⟨W.heap.size, 0, none⟩) (HB3.out.block W.heap.size hB1V)).trans cB
      clear ho3 hb3
      refine hK _ _ ?_; clear hK K
      obtain ⟨fn, tmps, assign, body, hy, hR⟩ := HY.out ys (⟨yat, A3, n3, c3, yp⟩, w2.heap.size + 2) w3 (ownFrom_below HJ.out HJy.out HB3.out) (by
        refine ⟨⟨by { rw [List.map_append, List.map_map]; have e : (ys.map (keyF ∘ Prod.fst)) = pre := HYs.out; rw [e]; exact HOk.out }, HO3.out.mono hBV2, fun g hg => ⟨fun hR => ?_, fun y hy hyg => ?_⟩⟩, by omega, fun y hy => (HYl.out y hy).2, fun g hg => ?_, by { have h1 := HB3.out.size; have h2 := HST.out.1; omega }⟩
        · have e1 := own_base HO3.out g hg
          have e2 := HSV.out.lt g hR
          omega
        · have e1 := own_base HO3.out g hg
          obtain ⟨y', hy', rfl⟩ := List.mem_map.1 hy
          have e2 := (HYl.out y' hy').1 g hyg
          omega
        · have e1 := own_base HO3.out g hg
          omega)
      replace hy : (Instr.yield l #[.int .i64 (yat : Int), .slice A3 n3 c3]).run Tryd.prog w3 = .ok (.round l fn tmps assign body) w3 := hy
      have HRR := Lib.hid hR
      clear hR
      refine wpAnyIn_ready (rs := [4]) (by kernel_rfl) (by simp) (AllReadyIn.cons rfl (fun K hK => ?_) AllReadyIn.nil)
      go_simp
      refine ⟨(fun h => by cases h), (roundIn_any HRR.out).mono ?_⟩
      clear HRR hy
      rintro e4 w4 ⟨hka, ⟨rfl, hJ4, hs4⟩ | ⟨rfl, hx4⟩⟩
      · refine hK _ _ ?_; clear hK K
        refine wpAnyIn_ready (rs := [5]) (by kernel_rfl) (by simp) (AllReadyIn.cons rfl (fun K hK => ?_) AllReadyIn.nil)
        go_simp
        refine hK _ _ ?_; clear hK K
        refine wpAnyIn_done (by kernel_rfl) ?_ _
        gi_wp2
        have hs4b : w3.heap.size ≤ w4.heap.size := hka.size
        have hs3 : V.heap.size ≤ w4.heap.size := Nat.le_trans HB3.out.size hs4b
        have hst4 : ∀ k, k < V.heap.size → B ≤ k → k < w2.heap.size + 2 → w4.heap[k]? = V.heap[k]? := fun k h1 h2 h3 => (hka.same k h2 (Nat.lt_of_lt_of_le h1 HB3.out.size) (fun e => by { have e : w2.heap.size + 2 ≤ k := e; omega })).trans (HB3.out.block k h1)
        have hstZ : Stay Z V w4 := ⟨hs3, fun k hk => by
          have hkV : k < V.heap.size := Nat.lt_of_lt_of_le (HZl.out k hk) HST.out.1
          rcases (HZ.out k).1 hk with h | h
          · exact (hs4.2 k h).trans (HB3.out.block k hkV)
          · exact hst4 k hkV (by omega) (by omega)⟩
        refine ⟨⟨hs3, fun k h1 h2 h3 => hst4 k h2 (by omega) (by omega)⟩, Stay.sub_ hstZ HSub.out, ⟨ys ++ [(⟨yat, A3, n3, c3, yp⟩, w2.heap.size + 2)], by rw [List.map_append, HYs.out]; rfl, hJ4, fun y hy => ?_⟩, HST.out.trans hstZ⟩
        rcases List.mem_append.1 hy with h1 | h1
        · exact ⟨fun g hg => Nat.lt_of_lt_of_le ((HYl.out y h1).1 g hg) hs3, (HYl.out y h1).2⟩
        · obtain rfl := List.mem_singleton.1 h1
          exact ⟨fun g hg => Nat.lt_of_lt_of_le (own_lt HO3.out g hg) hs4b, rfl⟩
      · refine hK _ _ ?_; clear hK K
        refine wpAnyIn_ready (rs := [5]) (by kernel_rfl) (by simp) (AllReadyIn.cons rfl (fun K hK => ?_) AllReadyIn.nil)
        go_simp
        refine hK _ _ ?_; clear hK K
        refine wpAnyIn_done (by kernel_rfl) ?_ _
        gi_wp2
        have hs4b : w3.heap.size ≤ w4.heap.size := hka.size
        have hs3 : V.heap.size ≤ w4.heap.size := Nat.le_trans HB3.out.size hs4b
        have hst4 : ∀ k, k < V.heap.size → B ≤ k → k < w2.heap.size + 2 → w4.heap[k]? = V.heap[k]? := fun k h1 h2 h3 => (hka.same k h2 (Nat.lt_of_lt_of_le h1 HB3.out.size) (fun e => by { have e : w2.heap.size + 2 ≤ k := e; omega })).trans (HB3.out.block k h1)
        exact ⟨⟨hs3, fun k h1 h2 h3 => hst4 k h2 (by omega) (by omega)⟩, rfl, ys ++ [(⟨yat, A3, n3, c3, yp⟩, w2.heap.size + 2)], by rw [List.map_append, HYs.out]; rfl, hx4⟩
    · go_simp
      refine ⟨trivial, (fun h => by cases h), (callsIn_wide.2 (HCl.out V.drew ⟨rfl, rfl, rfl, Nat.le_refl _, fun _ _ => rfl⟩)).mono ?_⟩
      rintro e3 w3 ⟨v3, rfl, ho3, hb3⟩
      obtain ⟨A3, n3, c3, rfl⟩ := own_slice ho3
      have HO3 : Hid (OwnB w3 V.heap.size (.slice A3 n3 c3) yp) := Lib.hid ho3
      have HB3 : Hid (Below V.heap.size V w3) := Lib.hid ⟨hb3.os, hb3.tape, hb3.output, hb3.size, hb3.block⟩
      have cB3 : w3.cell? ⟨W.heap.size, 0, none⟩ = some (.func (.yield l) #[] #[]) := (World.cell?_of_block (a := ⟨W.heap.size, 0, none⟩) (HB3.out.block W.heap.size hB1V)).trans cB
      clear ho3 hb3
      refine hK _ _ ?_; clear hK K
      refine wpAnyIn_ready (rs := [0]) (by kernel_rfl) (by simp) (AllReadyIn.cons rfl (fun K hK => ?_) AllReadyIn.nil)
      go_simp
      refine hK _ _ ?_; clear hK K
      obtain ⟨fn, tmps, assign, body, hy, hR⟩ := HY.out ys (⟨yat, A3, n3, c3, yp⟩, w2.heap.size + 2) w3 (ownFrom_below HJ.out HJy.out HB3.out) (by
        refine ⟨⟨by { rw [List.map_append, List.map_map]; have e : (ys.map (keyF ∘ Prod.fst)) = pre := HYs.out; rw [e]; exact HOk.out }, HO3.out.mono hBV2, fun g hg => ⟨fun hR => ?_, fun y hy hyg => ?_⟩⟩, by omega, fun y hy => (HYl.out y hy).2, fun g hg => ?_, by { have h1 := HB3.out.size; have h2 := HST.out.1; omega }⟩
        · have e1 := own_base HO3.out g hg
          have e2 := HSV.out.lt g hR
          omega
        · have e1 := own_base HO3.out g hg
          obtain ⟨y', hy', rfl⟩ := List.mem_map.1 hy
          have e2 := (HYl.out y' hy').1 g hyg
          omega
        · have e1 := own_base HO3.out g hg
          omega)
      replace hy : (Instr.yield l #[.int .i64 (yat : Int), .slice A3 n3 c3]).run Tryd.prog w3 = .ok (.round l fn tmps assign body) w3 := hy
      have HRR := Lib.hid hR
      clear hR
      refine wpAnyIn_ready (rs := [4]) (by kernel_rfl) (by simp) (AllReadyIn.cons rfl (fun K hK => ?_) AllReadyIn.nil)
      go_simp
      refine ⟨(fun h => by cases h), (roundIn_any HRR.out).mono ?_⟩
      clear HRR hy
      rintro e4 w4 ⟨hka, ⟨rfl, hJ4, hs4⟩ | ⟨rfl, hx4⟩⟩
      · refine hK _ _ ?_; clear hK K
        refine wpAnyIn_ready (rs := [5]) (by kernel_rfl) (by simp) (AllReadyIn.cons rfl (fun K hK => ?_) AllReadyIn.nil)
        go_simp
        refine hK _ _ ?_; clear hK K
        refine wpAnyIn_done (by kernel_rfl) ?_ _
        gi_wp2
        have hs4b : w3.heap.size ≤ w4.heap.size := hka.size
        have hs3 : V.heap.size ≤ w4.heap.size := Nat.le_trans HB3.out.size hs4b
        have hst4 : ∀ k, k < V.heap.size → B ≤ k → k < w2.heap.size + 2 → w4.heap[k]? = V.heap[k]? := fun k h1 h2 h3 => (hka.same k h2 (Nat.lt_of_lt_of_le h1 HB3.out.size) (fun e => by { have e : w2.heap.size + 2 ≤ k := e; omega })).trans (HB3.out.block k h1)
        have hstZ : Stay Z V w4 := ⟨hs3, fun k hk => by
          have hkV : k < V.heap.size := Nat.lt_of_lt_of_le (HZl.out k hk) HST.out.1
          rcases (HZ.out k).1 hk with h | h
          · exact (hs4.2 k h).trans (HB3.out.block k hkV)
          · exact hst4 k hkV (by omega) (by omega)⟩
        refine ⟨⟨hs3, fun k h1 h2 h3 => hst4 k h2 (by omega) (by omega)⟩, Stay.sub_ hstZ HSub.out, ⟨ys ++ [(⟨yat, A3, n3, c3, yp⟩, w2.heap.size + 2)], by rw [List.map_append, HYs.out]; rfl, hJ4, fun y hy => ?_⟩, HST.out.trans hstZ⟩
        rcases List.mem_append.1 hy with h1 | h1
        · exact ⟨fun g hg => Nat.lt_of_lt_of_le ((HYl.out y h1).1 g hg) hs3, (HYl.out y h1).2⟩
        · obtain rfl := List.mem_singleton.1 h1
          exact ⟨fun g hg => Nat.lt_of_lt_of_le (own_lt HO3.out g hg) hs4b, rfl⟩
      · refine hK _ _ ?_; clear hK K
        refine wpAnyIn_ready (rs := [5]) (by kernel_rfl) (by simp) (AllReadyIn.cons rfl (fun K hK => ?_) AllReadyIn.nil)
        go_simp
        refine hK _ _ ?_; clear hK K
        refine wpAnyIn_done (by kernel_rfl) ?_ _
        gi_wp2
        have hs4b : w3.heap.size ≤ w4.heap.size := hka.size
        have hs3 : V.heap.size ≤ w4.heap.size := Nat.le_trans HB3.out.size hs4b
        have hst4 : ∀ k, k < V.heap.size → B ≤ k → k < w2.heap.size + 2 → w4.heap[k]? = V.heap[k]? := fun k h1 h2 h3 => (hka.same k h2 (Nat.lt_of_lt_of_le h1 HB3.out.size) (fun e => by { have e : w2.heap.size + 2 ≤ k := e; omega })).trans (HB3.out.block k h1)
        exact ⟨⟨hs3, fun k h1 h2 h3 => hst4 k h2 (by omega) (by omega)⟩, rfl, ys ++ [(⟨yat, A3, n3, c3, yp⟩, w2.heap.size + 2)], by rw [List.map_append, HYs.out]; rfl, hx4⟩
  case stop =>
    rintro D cc pre V hD hpre ⟨rfl, ys, hys, hx⟩ hd
    have HMk := Lib.hid (show Marks w2.heap.size [{ target := .collected D, args := #[] }] V from Marks.cons (ds := []) trivial (fun d hd => by simp at hd) hD hd)
    have HX := Lib.hid hx
    have HPr : Hid (ys.map keyL <+: fseq b) := Lib.hid (by rw [hys]; exact hpre)
    clear hx hd hys hpre
    gi_wp2
    refine Marks.leaveP (B := w2.heap.size) (Pp := fun V' => Jx ys V') (fun V' D hj hD hd => HJx.out.putObj _ hj (by omega) hd rfl) _ _ HMk.out HX.out (fun V' hj => ?_)
    exact ⟨_, results_none rfl _ _ _, ⟨_, rfl⟩, .inr ⟨ys, HPr.out, hj⟩⟩
  case done =>
    rintro D xs V hD rfl ⟨⟨ys, hys, hj, _⟩, hst⟩ hd
    have HMk := Lib.hid (show Marks w2.heap.size [{ target := .collected D, args := #[] }] V from Marks.cons (ds := []) trivial (fun d hd => by simp at hd) hD hd)
    have HJd := Lib.hid hj
    have HYs := Lib.hid hys
    clear hj hd hys hst
    gi_wp2
    refine Marks.leaveP (B := w2.heap.size) (Pp := fun V' => J ys V') (fun V' D hj hD hd => HJ.out.putObj _ hj (by omega) hd rfl) _ _ HMk.out HJd.out (fun V' hj => ?_)
    exact ⟨_, results_none rfl _ _ _, ⟨_, rfl⟩, .inl ⟨ys, HYs.out, hj⟩⟩

theorem framesL_seq (Bt : Nat) (A : Option Addr) (n c : Nat) (b : List Int) (hby : Bytes b) (hn : n ≤ 17179869184) (w : World) (hP : SrcF w Bt A n c b) :
    SeqL (.func (.func 74) #[] #[.pointer (some ⟨Bt, 0, none⟩)]) b (SrcR Bt A n c) w := by
  refine ⟨_, _, _, rfl, fun args u => rfl, hP.lt, fun m W hW => ?_⟩
  intro l J Jx W' hb hJ hJx hY h0
  exact frames1L_in m l Bt A n c b hby hn J Jx W'.heap.size hJ hJx hY W' (Nat.le_refl _) ((hP.stay hW).below (hb.mono (Nat.le_refl _))) h0

set_option maxHeartbeats 1000000 in
theorem framesCL : FramesCL := by
  intro A n c b w ht hr hnc hby hn
  have hbl : b.length = n := by have := hr.1; simpa using this
  have HX := Lib.hid (clone_code A n c b w hr (by omega))
  have HT := Lib.hid ht
  have HBy := Lib.hid hby
  clear ht hr hby
  go_enter Tryd.func70, Tryd.ntmps70
  go_wp2_with fail
  refine HX.out.mono ?_
  rintro e w2 ⟨v2, rfl, ho2, hb2⟩
  obtain ⟨A2, n2, c2, rfl⟩ := own_slice ho2
  have hl2 := own_len ho2
  have HO2 := Lib.hid ho2
  have HB2 := Lib.hid hb2
  clear hb2 ho2 HX
  go_wp2
  go_ret
  have hb3 : Below w2.heap.size w2 (w2.alloc (.cells #[.slice A2 n2 c2] 22)) := (Below.refl _ w2).alloc (Nat.le_refl _) _
  have hS : SrcF (w2.alloc (.cells #[.slice A2 n2 c2] 22)) w2.heap.size A2 n2 c2 b :=
    ⟨(HT.out.next HB2.out).next hb3, Blk.new w2 _ _, (HO2.out.mono (Nat.zero_le _)).alloc _⟩
  refine ⟨_, SrcR w2.heap.size A2 n2 c2, rfl, framesL_seq w2.heap.size A2 n2 c2 b HBy.out (by have := hl2.1; omega) _ hS, HB2.out.trans (hb3.mono HB2.out.size), ?_⟩
  rintro x (rfl | rfl | e)
  · exact .inl rfl
  · exact .inr HB2.out.size
  · exact .inr (own_base HO2.out x e)
end Go.Proofs.YtnpmccekkjadhaaDoor.Pk
