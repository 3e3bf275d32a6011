/- Package frame: End. -/
import Derived.Test.YtmmjmaohbmlfgaaDoorFrGood
namespace Go.Proofs.YtmmjmaohbmlfgaaDoor.Pk
open Go.RowKit Go.Shelf Go.Proofs.YtmmjmaohbmlfgaaDoor.Crc Go.Proofs.YtmmjmaohbmlfgaaDoor.Fr
set_option linter.unusedVariables false
attribute [local go_sem] Oper.semAt_some encG
theorem fseq_next {b : List Int} {pre : List (Nat × List Int)} {x : Nat × List Int} (h : pre ++ [x] <+: fseq b) : x.1 = atN b pre.length ∧ (frames b)[pre.length]? = some x.2 ∧ pre.length + 1 ≤ (frames b).length := by
  obtain ⟨t, ht⟩ := h
  have hl := congrArg List.length ht
  simp only [List.length_append, List.length_singleton, fseq_length] at hl
  have hlt : pre.length < (frames b).length := by omega
  have hg : (frames b)[pre.length]? = some (frames b)[pre.length] := List.getElem?_eq_getElem hlt
  have h1 := fseq_get hg
  rw [← ht] at h1
  simp at h1
  refine ⟨by rw [h1], by rw [hg, h1], by omega⟩

set_option maxRecDepth 100000 in
set_option maxHeartbeats 4000000 in
theorem endC : EndC := by
  intro A n c b w ht hr hnc hby hn
  have hp0 := ht.pos
  have hbl : b.length = n := by have := hr.1; simpa using this
  obtain ⟨w1, hw1⟩ : ∃ w1, w1 = w.alloc (.cells #[.int .i64 0] 3) := ⟨_, rfl⟩
  have hb1 : Below w.heap.size w w1 := hw1 ▸ (Below.refl _ w).alloc (Nat.le_refl _) _
  have kb1 : Blk w1 w.heap.size 3 #[.int .i64 0] := by rw [hw1]; exact Blk.new w _ _
  have HX := Lib.hid (good_any A n c b w1 (ht.next hb1) ((hr.below hb1).more hb1.size) hnc hby hn)
  have HB1 := Lib.hid hb1
  have HK1 := Lib.hid kb1
  obtain ⟨B0, hB0⟩ : ∃ B0, B0 = w.heap.size := ⟨_, rfl⟩
  have HB0 := Lib.hid hB0
  have HAd : Hid (0 < n → ∀ ad, A = some ad → ad.block < B0) := Lib.hid (fun h ad e => by
    obtain ⟨ad', e', hb, _⟩ := hr.2 h
    rw [e] at e'; injection e' with e'
    rw [e', hB0]; exact hb)
  have HLb := Lib.hid hbl
  have HP0 : Hid (0 < B0) := Lib.hid (by rw [hB0]; exact hp0)
  clear ht hr hb1 kb1 hby
  refine (callsIn_wide (n := 9)).1 ?_
  refine callsIn_of_wp_marks Tryd.func17 rfl trivial ?_ rfl
  simp only [Tryd.ntmps17, List.size_toArray, List.length_cons, List.length_nil, Nat.reduceAdd, Nat.reduceSub, Array.replicate_succ, Array.replicate_zero, List.push_toArray, List.append_toArray, List.nil_append, List.cons_append]
  refine wpIn_wide.2 ?_
  go_wp2_with fail
  rw [← hw1, ← hB0]
  rw [← hB0] at HK1
  clear hw1 hB0
  refine HX.out.mono ?_
  rintro e w2 ⟨rfl, hseq, hb2, hsz⟩
  have SE2 := Lib.hid hseq
  have HRl : Hid (∀ g, SrcB w1.heap.size A n g → g < w2.heap.size ∧ g ≠ B0) := Lib.hid (fun g hg => ⟨hseq.lt g hg, fun e => by
    have h2 := HK1.out.lt
    have h3 := HP0.out
    rcases hg with h1 | h1 | ⟨h4, ad, h5, h1⟩
    · omega
    · omega
    · have := HAd.out h4 ad h5; omega⟩)
  have HK2 := Lib.hid (HK1.out.below hb2 HK1.out.lt)
  have HB2 := Lib.hid (HB1.out.trans (hb2.mono HB1.out.size))
  have hs2 : B0 < w2.heap.size := HK2.out.lt
  clear hseq hb2 HX hsz
  go_wp2
  have cv : True := trivial
  obtain ⟨S, hS⟩ : ∃ S : Nat → Prop, S = fun b => b = B0 := ⟨_, rfl⟩
  have S1 : S B0 := by rw [hS]
  have HSe : Hid (∀ b, S b → b = B0) := Lib.hid (fun b h => by rw [hS] at h; exact h)
  clear hS
  refine (wpIn_wide (n := 9)).1 ?_
  refine' range_boundF (α := Nat × List Int) (gf := 30) (pb := #[]) (lb := #[.pointer (some ⟨w1.heap.size, 0, none⟩)]) rfl (fun args u => rfl) (SE2.out.at_ _) (fun _ _ _ _ _ _ h => h) (fun h k => h.trans k) (stay_b SE2.out.lt) (fun _ => rfl) (fun _ _ _ _ _ _ _ _ _ h => h)
    (fun pre V => Blk V B0 3 #[.int .i64 (atN b pre.length : Nat)] ∧ OnlyS S w2 V)
    (fun cc pre V => False)
    (OwnFrom.and (Own.from (I := fun (pre : List (Nat × List Int)) V => Blk V B0 3 #[.int .i64 (atN b pre.length : Nat)]) (fun s A B row hs hg hr => blk_kept hs hg hr) _) (own_onlyS w2 S))
    (fun cc => fun s A B row hs hg hr => hs)
    ⟨HK2.out, OnlyS.refl _ _⟩
    _ ?assign ?body ?done ?stop
  case assign =>
    intro lp y V K hK
    gi_wp2
    exact hK
  case body =>
    rintro lp pre ⟨yat, yp⟩ V hlp hrec ⟨hk1, hO⟩ ⟨B', hB', hBV, hok⟩
    obtain ⟨h1, h2, h3⟩ := fseq_next hok
    have hnx := (at_more h2).2
    have hle := atN_le b (pre.length + 1)
    rw [HLb.out, hnx] at hle
    simp only at h1 hnx hle
    rw [← h1] at hnx hle
    have HNx : Hid ((yat : Int) + 8 + (yp.length : Int) = ((atN b (pre ++ [(yat, yp)]).length : Nat) : Int)) := Lib.hid (by rw [List.length_append, List.length_singleton, hnx]; omega)
    obtain ⟨q, hq⟩ : ∃ q, q = yp.length := ⟨_, rfl⟩
    rw [← hq] at hle HNx
    have HQ := Lib.hid hq
    have HK := Lib.hid hk1
    have HO := Lib.hid hO
    have cB : V.cell? ⟨B0, 0, none⟩ = some (.int .i64 (atN b pre.length : Nat)) := by rw [hk1.cell]; rfl
    have fB : V.frozen? ⟨B0, 0, none⟩ = false := hk1.frozen 0
    clear hk1 hO h1 h2 h3 hnx hok
    dsimp only
    rw [← hq]
    clear hq
    have hq20 : q ≤ 17179869184 := by omega
    have hy20 : yat ≤ 17179869184 := by omega
    gi_wp2
    refine ⟨(KeepsAll.setCell V hs2 _).but _, stay_setAt (fun h => (HRl.out B0 h).2 rfl), ?_, HO.out.set S1 _⟩
    rw [← HNx.out]
    exact blk_put HK.out _
  case stop =>
    rintro D cc pre V hD hpre hf hK
    exact hf.elim
  case done =>
    rintro D ys V hD rfl ⟨hk1, hO⟩ hK
    rw [fseq_length, atN_all] at hk1
    have cB : V.cell? ⟨B0, 0, none⟩ = some (.int .i64 (fend b : Nat)) := by rw [hk1.cell]; rfl
    have hmk : Marks w2.heap.size [{ target := .collected D, args := #[] }] V := Marks.cons (ds := []) trivial (fun d hd => by simp at hd) hD hK
    have HMk := Lib.hid hmk
    have HBe : Hid (Below w.heap.size w V) := Lib.hid (OnlyS.bel HB2.out hO (fun b hb => by have := HSe.out b hb; have := HB0.out; omega) HB2.out.size)
    clear hO hmk hK hk1
    go_wp2
    refine Marks.leave (B := w2.heap.size) _ _ HMk.out (fun W' hb => ?_)
    exact ⟨_, by simp [results, Tryd.f17, go_sem], rfl, HBe.out.trans (hb.mono HB2.out.size)⟩
end Go.Proofs.YtmmjmaohbmlfgaaDoor.Pk
