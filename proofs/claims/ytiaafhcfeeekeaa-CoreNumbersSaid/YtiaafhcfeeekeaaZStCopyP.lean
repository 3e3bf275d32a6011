/- The landed Copy of package state. -/
import Derived.Test.YtiaafhcfeeekeaaZStPut
import Derived.Test.YtiaafhcfeeekeaaZStClone
import Derived.Test.YtiaafhcfeeekeaaZTrMath
import Derived.Deep.RegionHeld3
import Derived.Deep.DeepMust
namespace Go.Proofs.Ytiaafhcfeeekeaa.Pk
open Go.RowKit
set_option linter.unusedVariables false
attribute [local go_sem] Oper.semAt_some
theorem OwnO.only1 {w w' : World} {B B2 : Nat} {v : Value} {l : List OwL} (h : OwnO w B v l) (hu : Under B2 (v :: owS l)) (hk : ∀ g, B ≤ g → g < B2 → w'.heap[g]? = w.heap[g]?) : OwnO w' B v l :=
  h.stay_ fun g u hm e => hk g (h.over u hm g e) (hu u hm g e)
theorem dropP_cons {α : Type} {l : List α} {i : Nat} {x : α} (h : l[i]? = some x) : l.drop i = x :: l.drop (i + 1) := by
  obtain ⟨h1, h2⟩ := List.getElem?_eq_some_iff.1 h
  rw [List.drop_eq_getElem_cons h1, h2]
theorem blk_drew {w : World} {g : Nat} {T : TypeId} {cs : Array Value} (h : Blk w g T cs) : Blk w.drew g T cs := h
set_option maxRecDepth 100000 in
set_option maxHeartbeats 16000000 in
theorem copyS : StCopyP := by
  intro s w hin
  have HI := Lib.hid hin
  obtain ⟨me, os, ⟨A, n, c⟩, es, ⟨A', n', c'⟩, q, as_, ⟨Aa, na, ca⟩, gs, ⟨Ag, ng, cg⟩⟩ := s
  have HLo : Hid (os.length = n) := Lib.hid hin.os.len
  have HLe : Hid (es.length = n') := Lib.hid hin.es.len
  have hn : n * 40 ≤ 140737488351232 := hin.os.few
  have hn' : n' * 48 ≤ 140737488351232 := hin.es.few
  clear hin
  show Calls Try.prog 23 #[.agg #[.int .i64 me, .slice A n c, .slice A' n' c', .int .i64 q, .slice Aa na ca, .slice Ag ng cg]] w _
  obtain ⟨p, hp⟩ : ∃ p, p = w.heap.size := ⟨_, rfl⟩
  obtain ⟨pr, hpr⟩ : ∃ x, x = p + 1 := ⟨_, rfl⟩
  obtain ⟨wa, hwa⟩ : ∃ wa, wa = w.alloc (.cells #[.int .i64 me, .slice A n c, .slice A' n' c', .int .i64 q, .slice Aa na ca, .slice Ag ng cg] 28) := ⟨_, rfl⟩
  obtain ⟨W1, hW1⟩ : ∃ W1, W1 = wa.alloc (.cells #[.int .i64 0, .slice none 0 0, .slice none 0 0, .int .i64 0, .slice none 0 0, .slice none 0 0] 28) := ⟨_, rfl⟩
  have hsa : wa.heap.size = p + 1 := by rw [hwa, World.size_alloc, hp]
  have hba : Below w.heap.size w wa := hwa ▸ (Below.refl _ _).alloc (Nat.le_refl _) _
  have HB1 : Hid (Below w.heap.size w W1) := Lib.hid (hW1 ▸ hba.alloc (by omega) _)
  have HKp : Hid (Blk W1 p 28 #[.int .i64 me, .slice A n c, .slice A' n' c', .int .i64 q, .slice Aa na ca, .slice Ag ng cg]) := Lib.hid (by rw [hW1, hwa, hp]; exact (Blk.new w _ _).alloc _)
  have HKr : Hid (Blk W1 pr 28 #[.int .i64 0, .slice none 0 0, .slice none 0 0, .int .i64 0, .slice none 0 0, .slice none 0 0]) := Lib.hid (by rw [hW1, hpr, ← hsa]; exact Blk.new wa _ _)
  obtain ⟨B1, hB1⟩ : ∃ B1, B1 = W1.heap.size := ⟨_, rfl⟩
  have HNum : Hid (w.heap.size = p ∧ pr = p + 1 ∧ B1 = p + 1 + 1 ∧ B1 = W1.heap.size) := Lib.hid ⟨hp.symm, hpr, by rw [hB1, hW1, World.size_alloc, hsa], hB1⟩
  have HCo := Lib.hid (clone_owR ⟨A, n, c⟩ os W1 (HI.out.os.next HB1.out))
  have y1 := HKp.out.cell 1
  go_enter Try.func23, Try.ntmps23
  go_wp2_with fail
  rw [← hwa, ← hW1, ← hp, ← hpr]
  clear hwa hW1 hp hpr hsa hba hB1
  refine HCo.out.mono ?_
  rintro e w2 ⟨⟨Ao, no, co⟩, rfl, ho, hb2⟩
  have hlno : os.length = no := ho.rd.1
  obtain rfl : n = no := by have := HLo.out; omega
  simp only [Sl.val] at ho ⊢
  have HB2 : Hid (Below w.heap.size w w2) := Lib.hid (HB1.out.trans (hb2.mono HB1.out.size))
  have HK2 := Lib.hid (HKp.out.below hb2 HKp.out.lt)
  have HR2 := Lib.hid (HKr.out.below hb2 HKr.out.lt)
  have hnx : ownB (.slice Ao n co) ≠ some p := fun e => by have h1 := ho.base p e; have h2 := HNum.out; omega
  have x1 := HK2.out.cell 1
  have f1 := HK2.out.frozen 1
  obtain ⟨w3, hw3⟩ : ∃ w3, w3 = w2.setCell ⟨p, 1, none⟩ (.slice Ao n co) := ⟨_, rfl⟩
  have HK3 : Hid (Blk w3 p 28 #[.int .i64 me, .slice Ao n co, .slice A' n' c', .int .i64 q, .slice Aa na ca, .slice Ag ng cg]) := Lib.hid (by rw [hw3]; exact HK2.out.set 1 _)
  have HR3 : Hid (Blk w3 pr 28 #[.int .i64 0, .slice none 0 0, .slice none 0 0, .int .i64 0, .slice none 0 0, .slice none 0 0]) := Lib.hid (by rw [hw3]; exact blk_other HR2.out (by have := HNum.out; omega) _ _)
  have HB3 : Hid (Below w.heap.size w w3) := Lib.hid (by rw [hw3]; exact below_setc HB2.out (by have := HNum.out; omega) _ _)
  have HH3 : Hid (HalfO w3 B1 (.slice Ao n co) [] os) := Lib.hid (by
    rw [hw3]
    have h1 := HNum.out
    refine HalfO.begin ((ho.low (by omega)).stay fun g e => setc_other _ _ _ _ _ (fun e2 => hnx (by rw [e, e2])))
    )
  have HZ3 : Hid (B1 ≤ w3.heap.size) := Lib.hid (by rw [hw3, setc_size]; have h1 := hb2.size; have h2 := HNum.out; omega)
  have x3 : w3.cell? ⟨p, 1, none⟩ = some (.slice Ao n co) := HK3.out.cell 1
  clear y1 hb2 ho hnx hlno
  have HW3 := Lib.hid hw3
  rw [hw3] at x3
  clear hw3
  go_wp2_with fail
  rw [← HW3.out]
  clear x3 x1 f1
  go_loopw [14] (fun j wr => ∃ i : Nat, j = .int .i64 i ∧ i ≤ n ∧ ∃ new : List OwL, new.map (·.v) = (os.take i).map (·.v) ∧ new.length = i ∧ HalfO wr B1 (.slice Ao n co) new (os.drop i) ∧ Blk wr p 28 #[.int .i64 me, .slice Ao n co, .slice A' n' c', .int .i64 q, .slice Aa na ca, .slice Ag ng cg] ∧ Blk wr pr 28 #[.int .i64 0, .slice none 0 0, .slice none 0 0, .int .i64 0, .slice none 0 0, .slice none 0 0] ∧ Below w.heap.size w wr ∧ B1 ≤ wr.heap.size) (fun j _ => n - (intOf j).toNat)
  case atStart => exact ⟨0, rfl, by omega, [], rfl, rfl, HH3.out, HK3.out, HR3.out, HB3.out, HZ3.out⟩
  case round =>
    obtain ⟨i, rfl, hi, new, hnew, hlen, hH, hk, hr, hb, hz⟩ := hrel
    obtain ⟨V0, rfl⟩ : ∃ V : World, V = wr := ⟨_, rfl⟩
    have HNew := Lib.hid hnew
    have HLen := Lib.hid hlen
    have HH := Lib.hid hH
    have HK := Lib.hid hk
    have HR := Lib.hid hr
    have HB := Lib.hid hb
    have HZ := Lib.hid hz
    clear hnew hlen hH hk hr hb hz
    by_cases hlt : i < n
    case pos =>
      have hil : i < os.length := by rw [HLo.out]; exact hlt
      have hg0 := owA_get hil
      obtain ⟨r, hr⟩ : ∃ r, r = owA os i := ⟨_, rfl⟩
      rw [← hr] at hg0
      have HOk := Lib.hid (HI.out.o _ (List.mem_of_getElem? hg0))
      have HH2 := Lib.hid HH.out
      rw [dropP_cons hg0] at HH2
      have hgn : (new ++ r :: os.drop (i + 1))[i]? = some r := by rw [List.getElem?_append_right (by rw [HLen.out]; exact Nat.le_refl _), HLen.out, Nat.sub_self]; rfl
      have HTk : Hid ((os.take (i + 1)).map (·.v) = (os.take i).map (·.v) ++ [r.v]) := Lib.hid (by rw [List.take_add_one, hg0, List.map_append]; rfl)
      obtain ⟨gr, rfl, hgB, hgl, hcc, hfr, hc⟩ := HH2.out.row.cell (show 0 < n by omega)
      have m0 := hc i r hgn 0 _ rfl
      have m1 := hc i r hgn 1 _ rfl
      have m2 := hc i r hgn 2 _ rfl
      obtain ⟨⟨ra, rm, rc⟩, ⟨A1, n1, c1⟩⟩ := r
      simp only [owR, Nat.add_zero, Sl.val] at m0 m1 m2
      have HFr : Hid (∀ j, V0.frozen? ⟨gr, j, none⟩ = false) := Lib.hid hfr
      obtain ⟨bx, hbx⟩ : ∃ x, x = V0.heap.size := ⟨_, rfl⟩
      obtain ⟨V1, hV1⟩ : ∃ V, V = V0.alloc (.cells #[.int .i64 ra, .int .i64 rm, .slice A1 n1 c1] 55) := ⟨_, rfl⟩
      have hb01 : Below V0.heap.size V0 V1 := hV1 ▸ (Below.refl _ _).alloc (Nat.le_refl _) _
      have HB01 := Lib.hid hb01
      have HKx : Hid (Blk V1 bx 55 #[.int .i64 ra, .int .i64 rm, .slice A1 n1 c1]) := Lib.hid (by rw [hV1, hbx]; exact Blk.new V0 _ _)
      have HX1 : Hid (Blk V1 p 28 #[.int .i64 me, .slice (some ⟨gr, 0, none⟩) n co, .slice A' n' c', .int .i64 q, .slice Aa na ca, .slice Ag ng cg]) := Lib.hid (by have h := HK.out.below hb01 HK.out.lt; exact h)
      have HCl : Hid (Calls Try.prog 38 #[.slice A1 n1 c1] V1.drew fun e w' => ∃ s2 : Sl, e = .returned s2.val ∧ ceR.Own w' V0.heap.size s2.val rc ∧ Below V0.heap.size V0 w' ∧ Below V1.heap.size V1 w') := Lib.hid (by
        have hb9 : Below V0.heap.size V0 V1.drew := below_drewC hb01 1
        refine (clone_ceR ⟨A1, n1, c1⟩ rc V1.drew ((HOk.out.next (HB.out.trans (hb9.mono HB.out.size))).c)).mono ?_
        rintro e w' ⟨s2, rfl, h1, h2⟩
        exact ⟨s2, rfl, h1.low hb9.size, hb9.trans (h2.mono hb9.size), (below_drewC (Below.refl V1.heap.size V1) 1).trans h2⟩)
      have hS0 : (fun W : World => W.cell? ⟨p, 1, none⟩ = some (.slice (some ⟨gr, 0, none⟩) n co) ∧ W.cell? ⟨bx, 2, none⟩ = some (.slice A1 n1 c1)) V1.drew := ⟨(blk_drew HX1.out).cell 1, (blk_drew HKx.out).cell 2⟩
      have HBx := Lib.hid hbx
      have hid1 : i < n := hlt
      have HM2 : Hid (V0.cell? ⟨gr, i * 3 + 2, none⟩ = some (.slice A1 n1 c1)) := Lib.hid m2
      have HGr : Hid (gr < V0.heap.size) := Lib.hid hgl
      have HGB : Hid (B1 ≤ gr) := Lib.hid hgB
      have HCC : Hid (co ≠ 0) := Lib.hid hcc
      clear hc hr hg0 hgn hb01 hfr hgB hcc hil
      go_wp2_with fail
      rw [← hV1, ← hbx]
      clear hV1 hbx m0 m1 m2 hgl
      refine wp_region_noPanic ?_
      refine region_last 8 (fun W : World => W.cell? ⟨p, 1, none⟩ = some (.slice (some ⟨gr, 0, none⟩) n co) ∧ W.cell? ⟨bx, 2, none⟩ = some (.slice A1 n1 c1)) (by kernel_rfl) ?_
      refine AnyL.take 0 (.pointer (some ⟨p, 1, none⟩)) rfl (by kernel_rfl) (by kernel_rfl) (by kernel_rfl) (by kernel_rfl) (fun _ _ _ h => h) (Or.inl ⟨by rfl, fun W hW => ?_⟩) hS0 ?_
      · obtain ⟨hW0, hW1⟩ := hW
        go_simp
      simp only [Act.put, List.setIfInBounds_toArray]
      refine AnyL.take 1 (.slice (some ⟨gr, 0, none⟩) n co) rfl (by kernel_rfl) (by kernel_rfl) (by kernel_rfl) (by kernel_rfl) (fun _ _ _ h => h) (Or.inl ⟨by rfl, fun W hW => ?_⟩) hS0 ?_
      · obtain ⟨hW0, hW1⟩ := hW
        go_simp
      simp only [Act.put]
      refine AnyL.take 2 (.int .i64 (i : Int)) rfl (by kernel_rfl) (by kernel_rfl) (by kernel_rfl) (by kernel_rfl) (fun _ _ _ h => h) (Or.inl ⟨by rfl, fun W hW => ?_⟩) hS0 ?_
      · obtain ⟨hW0, hW1⟩ := hW
        go_simp
      simp only [Act.put]
      refine AnyL.take 3 (.pointer (some ⟨bx, 2, none⟩)) rfl (by kernel_rfl) (by kernel_rfl) (by kernel_rfl) (by kernel_rfl) (fun _ _ _ h => h) (Or.inl ⟨by rfl, fun W hW => ?_⟩) hS0 ?_
      · obtain ⟨hW0, hW1⟩ := hW
        go_simp
      simp only [Act.put]
      refine AnyL.take 4 (.slice A1 n1 c1) rfl (by kernel_rfl) (by kernel_rfl) (by kernel_rfl) (by kernel_rfl) (fun _ _ _ h => h) (Or.inl ⟨by rfl, fun W hW => ?_⟩) hS0 ?_
      · obtain ⟨hW0, hW1⟩ := hW
        go_simp
      simp only [Act.put]
      refine AnyL.one 5 (by kernel_rfl) rfl ?_
      intro K' hK
      rw [if_pos (by rfl)]
      go_wp2_with fail
      refine HCl.out.mono ?_
      rintro e V2 ⟨⟨A3, n3, c3⟩, rfl, ho3, hb3⟩
      simp only [Sl.val]
      have HO3 := Lib.hid ho3
      have HB02 := Lib.hid hb3.1
      have HCb := Lib.hid hb3.2
      have HX2 : Hid (Blk V2 p 28 #[.int .i64 me, .slice (some ⟨gr, 0, none⟩) n co, .slice A' n' c', .int .i64 q, .slice Aa na ca, .slice Ag ng cg]) := Lib.hid (HK.out.below HB02.out HK.out.lt)
      clear ho3 hb3
      have hS2 : (fun W : World => W.cell? ⟨p, 1, none⟩ = some (.slice (some ⟨gr, 0, none⟩) n co) ∧ W.cell? ⟨bx, 2, none⟩ = some (.slice A1 n1 c1)) V2 := ⟨HX2.out.cell 1, (HKx.out.below (HCb.out) HKx.out.lt).cell 2⟩
      refine hK.out _ _ (fun _ => hS2) ?_
      clear hK
      refine AnyL.one 6 (by kernel_rfl) rfl ?_
      intro K' hK
      rw [if_pos (by rfl)]
      go_wp2_with fail
      refine hK.out _ _ (fun _ => hS2) ?_
      clear hK
      refine AnyL.one 7 (by kernel_rfl) rfl ?_
      intro K' hK
      rw [if_pos (by rfl)]
      go_wp2_with fail
      refine hK.out _ _ (fun _ => hS2) ?_
      clear hK
      have c9 : V2.cell? ⟨gr, i * 3 + 2, none⟩ = some (.slice A1 n1 c1) := (HB02.out.cell (p := ⟨gr, i * 3 + 2, none⟩) HGr.out).trans HM2.out
      have f9 : V2.frozen? ⟨gr, i * 3 + 2, none⟩ = false := by
        have h1 := HB02.out.block gr HGr.out
        have h2 := HFr.out (i * 3 + 2)
        unfold World.frozen? at h2 ⊢
        simp only [h1]
        exact h2
      refine AnyL.one 8 (by kernel_rfl) rfl ?_
      intro K' hK
      rw [if_pos (by rfl)]
      go_wp2_with fail
      refine hK.out _ _ (fun h => absurd rfl h) ?_
      clear hK
      refine AnyL.done (by kernel_rfl) ?_ _
      refine NoPanic.normal ?_
      obtain ⟨V3, hV3⟩ : ∃ V3, V3 = V2.setCell ⟨gr, i * 3 + 2, none⟩ (.slice A3 n3 c3) := ⟨_, rfl⟩
      have hgp : gr ≠ p := by have h1 := HNum.out; have h2 := HGB.out; omega
      have hgpr : pr ≠ gr := by have h1 := HNum.out; have h2 := HGB.out; omega
      have HNx : Hid (HalfO V3 B1 (.slice (some ⟨gr, 0, none⟩) n co) (new ++ [⟨⟨ra, rm, rc⟩, ⟨A3, n3, c3⟩⟩]) (os.drop (i + 1))) := Lib.hid (by
        have h := HH2.out.step (s2 := ⟨A3, n3, c3⟩) HCC.out HZ.out HB02.out HO3.out
        rw [HLen.out] at h
        rw [hV3]; exact h)
      have HX3 : Hid (Blk V3 p 28 #[.int .i64 me, .slice (some ⟨gr, 0, none⟩) n co, .slice A' n' c', .int .i64 q, .slice Aa na ca, .slice Ag ng cg]) := Lib.hid (by rw [hV3]; exact blk_other HX2.out (fun e => hgp e.symm) _ _)
      have HR3 : Hid (Blk V3 pr 28 #[.int .i64 0, .slice none 0 0, .slice none 0 0, .int .i64 0, .slice none 0 0, .slice none 0 0]) := Lib.hid (by rw [hV3]; exact blk_other (HR.out.below HB02.out HR.out.lt) hgpr _ _)
      have HB3 : Hid (Below w.heap.size w V3) := Lib.hid (by rw [hV3]; exact below_setc (HB.out.trans (HB02.out.mono HB.out.size)) (by have h1 := HNum.out; have h2 := HGB.out; omega) _ _)
      have HZ3 : Hid (B1 ≤ V3.heap.size) := Lib.hid (by rw [hV3, setc_size]; have := HB02.out.size; have := HZ.out; omega)
      rw [hV3] at HNx HX3 HR3 HB3 HZ3
      clear hV3 c9 f9 hgp hgpr hS0 hS2
      go_wp2_with fail
      go_roundw
      case rel => exact ⟨i + 1, by go_num, by omega, new ++ [⟨⟨ra, rm, rc⟩, ⟨A3, n3, c3⟩⟩], by rw [HTk.out, List.map_append, HNew.out]; rfl, by rw [List.length_append, HLen.out]; rfl, HNx.out, HX3.out, HR3.out, HB3.out, HZ3.out⟩
      case measure => simp [intOf]; omega
    case neg =>
      have hin : i = n := by omega
      have HO : Hid (OwnO V0 B1 (.slice Ao n co) new) := Lib.hid (by
        have h := HH.out
        rw [List.drop_of_length_le (by rw [HLo.out]; omega)] at h
        exact h.done)
      have HV : Hid (new.map (·.v) = os.map (·.v)) := Lib.hid (by rw [HNew.out, List.take_of_length_le (by rw [HLo.out]; omega)])
      clear HH HNew hin
      obtain ⟨B2, hB2⟩ : ∃ B2, B2 = V0.heap.size := ⟨_, rfl⟩
      have HUo : Hid (Under B2 (.slice Ao n co :: owS new)) := Lib.hid (by rw [hB2]; exact HO.out.under)
      have HN2 : Hid (B2 = V0.heap.size) := Lib.hid hB2
      have HCe := Lib.hid (clone_sdR ⟨A', n', c'⟩ es V0 (HI.out.es.next HB.out))
      have y2 := HK.out.cell 2
      clear hB2
      go_wp2_with fail
      refine HCe.out.mono ?_
      rintro e w2 ⟨⟨Ae, ne, ce⟩, rfl, ho, hb2⟩
      have hlno : es.length = ne := ho.rd.1
      obtain rfl : n' = ne := by have := HLe.out; omega
      simp only [Sl.val] at ho ⊢
      have HB2 : Hid (Below w.heap.size w w2) := Lib.hid (HB.out.trans (hb2.mono HB.out.size))
      have HK2 := Lib.hid (HK.out.below hb2 HK.out.lt)
      have HR2 := Lib.hid (HR.out.below hb2 HR.out.lt)
      have hnx : ownB (.slice Ae n' ce) ≠ some p := fun e => by have h1 := ho.base p e; have h2 := HNum.out; have h3 := HZ.out; omega
      have x2 := HK2.out.cell 2
      have f2 := HK2.out.frozen 2
      obtain ⟨w3, hw3⟩ : ∃ w3, w3 = w2.setCell ⟨p, 2, none⟩ (.slice Ae n' ce) := ⟨_, rfl⟩
      have HK3 : Hid (Blk w3 p 28 #[.int .i64 me, .slice Ao n co, .slice Ae n' ce, .int .i64 q, .slice Aa na ca, .slice Ag ng cg]) := Lib.hid (by rw [hw3]; exact HK2.out.set 2 _)
      have HR3 : Hid (Blk w3 pr 28 #[.int .i64 0, .slice none 0 0, .slice none 0 0, .int .i64 0, .slice none 0 0, .slice none 0 0]) := Lib.hid (by rw [hw3]; exact blk_other HR2.out (by have := HNum.out; omega) _ _)
      have HB3 : Hid (Below w.heap.size w w3) := Lib.hid (by rw [hw3]; exact below_setc HB2.out (by have := HNum.out; omega) _ _)
      have HE3 : Hid (HalfE w3 B2 (.slice Ae n' ce) [] es) := Lib.hid (by
        rw [hw3]
        have h1 := HN2.out
        exact HalfE.begin ((ho.low (by omega)).stay fun g e => setc_other _ _ _ _ _ (fun e2 => hnx (by rw [e, e2]))))
      have HO3 : Hid (OwnO w3 B1 (.slice Ao n co) new) := Lib.hid (by
        rw [hw3]
        exact (HO.out.below hb2).stay fun g h1 h2 => setc_other _ _ _ _ _ (by have := HNum.out; omega))
      have HZ3 : Hid (B2 ≤ w3.heap.size) := Lib.hid (by rw [hw3, setc_size]; have h1 := hb2.size; have h2 := HN2.out; omega)
      have x3 : w3.cell? ⟨p, 2, none⟩ = some (.slice Ae n' ce) := HK3.out.cell 2
      have HBB : Hid (B1 ≤ B2) := Lib.hid (by have h1 := HZ.out; have h2 := HN2.out; omega)
      clear y2 hb2 ho hnx hlno
      have HW3 := Lib.hid hw3
      rw [hw3] at x3
      clear hw3 HO
      go_wp2_with fail
      rw [← HW3.out]
      clear x3 x2 f2
      go_loopw [35] (fun j wr => ∃ i : Nat, j = .int .i64 i ∧ i ≤ n' ∧ ∃ nee : List SdL, nee.map (·.v) = (es.take i).map (·.v) ∧ nee.length = i ∧ HalfE wr B2 (.slice Ae n' ce) nee (es.drop i) ∧ OwnO wr B1 (.slice Ao n co) new ∧ Blk wr p 28 #[.int .i64 me, .slice Ao n co, .slice Ae n' ce, .int .i64 q, .slice Aa na ca, .slice Ag ng cg] ∧ Blk wr pr 28 #[.int .i64 0, .slice none 0 0, .slice none 0 0, .int .i64 0, .slice none 0 0, .slice none 0 0] ∧ Below w.heap.size w wr ∧ B2 ≤ wr.heap.size) (fun j _ => n' - (intOf j).toNat)
      case atStart => exact ⟨0, rfl, by omega, [], rfl, rfl, HE3.out, HO3.out, HK3.out, HR3.out, HB3.out, HZ3.out⟩
      case round =>
        obtain ⟨i, rfl, hi, nee, hnee, hlen, hH, hoo, hk, hr, hb, hz⟩ := hrel
        obtain ⟨V0, rfl⟩ : ∃ V : World, V = wr := ⟨_, rfl⟩
        have HNee := Lib.hid hnee
        have HLen := Lib.hid hlen
        have HH := Lib.hid hH
        have HOo := Lib.hid hoo
        have HK := Lib.hid hk
        have HR := Lib.hid hr
        have HB := Lib.hid hb
        have HZ := Lib.hid hz
        clear hnee hlen hH hoo hk hr hb hz
        by_cases hlt : i < n'
        case pos =>
          have hil : i < es.length := by rw [HLe.out]; exact hlt
          have hg0 := sdA_get hil
          obtain ⟨r, hr⟩ : ∃ r, r = sdA es i := ⟨_, rfl⟩
          rw [← hr] at hg0
          have HOk := Lib.hid (HI.out.e _ (List.mem_of_getElem? hg0))
          have HH2 := Lib.hid HH.out
          rw [dropP_cons hg0] at HH2
          have hgn : (nee ++ r :: es.drop (i + 1))[i]? = some r := by rw [List.getElem?_append_right (by rw [HLen.out]; exact Nat.le_refl _), HLen.out, Nat.sub_self]; rfl
          have HTk : Hid ((es.take (i + 1)).map (·.v) = (es.take i).map (·.v) ++ [r.v]) := Lib.hid (by rw [List.take_add_one, hg0, List.map_append]; rfl)
          obtain ⟨gr, rfl, hgB, hgl, hcc, hfr, hc⟩ := HH2.out.row.cell (show 0 < n' by omega)
          have m0 := hc i r hgn 0 _ rfl
          have m1 := hc i r hgn 1 _ rfl
          have m2 := hc i r hgn 2 _ rfl
          have m3 := hc i r hgn 3 _ rfl
          obtain ⟨⟨ra, rm, rc, rs⟩, ⟨A1, n1, c1⟩⟩ := r
          simp only [sdR, Nat.add_zero, Sl.val] at m0 m1 m2 m3
          have HFr : Hid (∀ j, V0.frozen? ⟨gr, j, none⟩ = false) := Lib.hid hfr
          obtain ⟨bx, hbx⟩ : ∃ x, x = V0.heap.size := ⟨_, rfl⟩
          obtain ⟨V1, hV1⟩ : ∃ V, V = V0.alloc (.cells #[.int .i64 ra, .int .i64 rm, .slice A1 n1 c1, .int .i64 rs] 50) := ⟨_, rfl⟩
          have hb01 : Below V0.heap.size V0 V1 := hV1 ▸ (Below.refl _ _).alloc (Nat.le_refl _) _
          have HB01 := Lib.hid hb01
          have HKx : Hid (Blk V1 bx 50 #[.int .i64 ra, .int .i64 rm, .slice A1 n1 c1, .int .i64 rs]) := Lib.hid (by rw [hV1, hbx]; exact Blk.new V0 _ _)
          have HX1 : Hid (Blk V1 p 28 #[.int .i64 me, .slice Ao n co, .slice (some ⟨gr, 0, none⟩) n' ce, .int .i64 q, .slice Aa na ca, .slice Ag ng cg]) := Lib.hid (by have h := HK.out.below hb01 HK.out.lt; exact h)
          have HCl : Hid (Calls Try.prog 40 #[.slice A1 n1 c1] V1.drew fun e w' => ∃ s2 : Sl, e = .returned s2.val ∧ mgR.Own w' V0.heap.size s2.val rc ∧ Below V0.heap.size V0 w' ∧ Below V1.heap.size V1 w') := Lib.hid (by
            have hb9 : Below V0.heap.size V0 V1.drew := below_drewC hb01 1
            refine (clone_mgR ⟨A1, n1, c1⟩ rc V1.drew ((HOk.out.next (HB.out.trans (hb9.mono HB.out.size))).o)).mono ?_
            rintro e w' ⟨s2, rfl, h1, h2⟩
            exact ⟨s2, rfl, h1.low hb9.size, hb9.trans (h2.mono hb9.size), (below_drewC (Below.refl V1.heap.size V1) 1).trans h2⟩)
          have hS0 : (fun W : World => W.cell? ⟨p, 2, none⟩ = some (.slice (some ⟨gr, 0, none⟩) n' ce) ∧ W.cell? ⟨bx, 2, none⟩ = some (.slice A1 n1 c1)) V1.drew := ⟨(blk_drew HX1.out).cell 2, (blk_drew HKx.out).cell 2⟩
          have HBx := Lib.hid hbx
          have hid1 : i < n' := hlt
          have HM2 : Hid (V0.cell? ⟨gr, i * 4 + 2, none⟩ = some (.slice A1 n1 c1)) := Lib.hid m2
          have HGr : Hid (gr < V0.heap.size) := Lib.hid hgl
          have HGB : Hid (B2 ≤ gr) := Lib.hid hgB
          have HCC : Hid (ce ≠ 0) := Lib.hid hcc
          clear hc hr hg0 hgn hb01 hfr hgB hcc hil
          go_wp2_with fail
          rw [← hV1, ← hbx]
          clear hV1 hbx m0 m1 m2 m3 hgl
          refine wp_region_noPanic ?_
          refine region_last 8 (fun W : World => W.cell? ⟨p, 2, none⟩ = some (.slice (some ⟨gr, 0, none⟩) n' ce) ∧ W.cell? ⟨bx, 2, none⟩ = some (.slice A1 n1 c1)) (by kernel_rfl) ?_
          refine AnyL.take 0 (.pointer (some ⟨p, 2, none⟩)) rfl (by kernel_rfl) (by kernel_rfl) (by kernel_rfl) (by kernel_rfl) (fun _ _ _ h => h) (Or.inl ⟨by rfl, fun W hW => ?_⟩) hS0 ?_
          · obtain ⟨hW0, hW1⟩ := hW
            go_simp
          simp only [Act.put, List.setIfInBounds_toArray]
          refine AnyL.take 1 (.slice (some ⟨gr, 0, none⟩) n' ce) rfl (by kernel_rfl) (by kernel_rfl) (by kernel_rfl) (by kernel_rfl) (fun _ _ _ h => h) (Or.inl ⟨by rfl, fun W hW => ?_⟩) hS0 ?_
          · obtain ⟨hW0, hW1⟩ := hW
            go_simp
          simp only [Act.put]
          refine AnyL.take 2 (.int .i64 (i : Int)) rfl (by kernel_rfl) (by kernel_rfl) (by kernel_rfl) (by kernel_rfl) (fun _ _ _ h => h) (Or.inl ⟨by rfl, fun W hW => ?_⟩) hS0 ?_
          · obtain ⟨hW0, hW1⟩ := hW
            go_simp
          simp only [Act.put]
          refine AnyL.take 3 (.pointer (some ⟨bx, 2, none⟩)) rfl (by kernel_rfl) (by kernel_rfl) (by kernel_rfl) (by kernel_rfl) (fun _ _ _ h => h) (Or.inl ⟨by rfl, fun W hW => ?_⟩) hS0 ?_
          · obtain ⟨hW0, hW1⟩ := hW
            go_simp
          simp only [Act.put]
          refine AnyL.take 4 (.slice A1 n1 c1) rfl (by kernel_rfl) (by kernel_rfl) (by kernel_rfl) (by kernel_rfl) (fun _ _ _ h => h) (Or.inl ⟨by rfl, fun W hW => ?_⟩) hS0 ?_
          · obtain ⟨hW0, hW1⟩ := hW
            go_simp
          simp only [Act.put]
          refine AnyL.one 5 (by kernel_rfl) rfl ?_
          intro K' hK
          rw [if_pos (by rfl)]
          go_wp2_with fail
          refine HCl.out.mono ?_
          rintro e V2 ⟨⟨A3, n3, c3⟩, rfl, ho3, hb3⟩
          simp only [Sl.val]
          have HO3 := Lib.hid ho3
          have HB02 := Lib.hid hb3.1
          have HCb := Lib.hid hb3.2
          have HX2 : Hid (Blk V2 p 28 #[.int .i64 me, .slice Ao n co, .slice (some ⟨gr, 0, none⟩) n' ce, .int .i64 q, .slice Aa na ca, .slice Ag ng cg]) := Lib.hid (HK.out.below HB02.out HK.out.lt)
          clear ho3 hb3
          have hS2 : (fun W : World => W.cell? ⟨p, 2, none⟩ = some (.slice (some ⟨gr, 0, none⟩) n' ce) ∧ W.cell? ⟨bx, 2, none⟩ = some (.slice A1 n1 c1)) V2 := ⟨HX2.out.cell 2, (HKx.out.below (HCb.out) HKx.out.lt).cell 2⟩
          refine hK.out _ _ (fun _ => hS2) ?_
          clear hK
          refine AnyL.one 6 (by kernel_rfl) rfl ?_
          intro K' hK
          rw [if_pos (by rfl)]
          go_wp2_with fail
          refine hK.out _ _ (fun _ => hS2) ?_
          clear hK
          refine AnyL.one 7 (by kernel_rfl) rfl ?_
          intro K' hK
          rw [if_pos (by rfl)]
          go_wp2_with fail
          refine hK.out _ _ (fun _ => hS2) ?_
          clear hK
          have c9 : V2.cell? ⟨gr, i * 4 + 2, none⟩ = some (.slice A1 n1 c1) := (HB02.out.cell (p := ⟨gr, i * 4 + 2, none⟩) HGr.out).trans HM2.out
          have f9 : V2.frozen? ⟨gr, i * 4 + 2, none⟩ = false := by
            have h1 := HB02.out.block gr HGr.out
            have h2 := HFr.out (i * 4 + 2)
            unfold World.frozen? at h2 ⊢
            simp only [h1]
            exact h2
          refine AnyL.one 8 (by kernel_rfl) rfl ?_
          intro K' hK
          rw [if_pos (by rfl)]
          go_wp2_with fail
          refine hK.out _ _ (fun h => absurd rfl h) ?_
          clear hK
          refine AnyL.done (by kernel_rfl) ?_ _
          refine NoPanic.normal ?_
          obtain ⟨V3, hV3⟩ : ∃ V3, V3 = V2.setCell ⟨gr, i * 4 + 2, none⟩ (.slice A3 n3 c3) := ⟨_, rfl⟩
          have hgp : gr ≠ p := by have h1 := HNum.out; have h2 := HGB.out; have h3 := HBB.out; omega
          have hgpr : pr ≠ gr := by have h1 := HNum.out; have h2 := HGB.out; have h3 := HBB.out; omega
          have HNx : Hid (HalfE V3 B2 (.slice (some ⟨gr, 0, none⟩) n' ce) (nee ++ [⟨⟨ra, rm, rc, rs⟩, ⟨A3, n3, c3⟩⟩]) (es.drop (i + 1))) := Lib.hid (by
            have h := HH2.out.step (s2 := ⟨A3, n3, c3⟩) HCC.out HZ.out HB02.out HO3.out
            rw [HLen.out] at h
            rw [hV3]; exact h)
          have HX3 : Hid (Blk V3 p 28 #[.int .i64 me, .slice Ao n co, .slice (some ⟨gr, 0, none⟩) n' ce, .int .i64 q, .slice Aa na ca, .slice Ag ng cg]) := Lib.hid (by rw [hV3]; exact blk_other HX2.out (fun e => hgp e.symm) _ _)
          have HR3 : Hid (Blk V3 pr 28 #[.int .i64 0, .slice none 0 0, .slice none 0 0, .int .i64 0, .slice none 0 0, .slice none 0 0]) := Lib.hid (by rw [hV3]; exact blk_other (HR.out.below HB02.out HR.out.lt) hgpr _ _)
          have HB3 : Hid (Below w.heap.size w V3) := Lib.hid (by rw [hV3]; exact below_setc (HB.out.trans (HB02.out.mono HB.out.size)) (by have h1 := HNum.out; have h2 := HGB.out; have h3 := HBB.out; omega) _ _)
          have HZ3 : Hid (B2 ≤ V3.heap.size) := Lib.hid (by rw [hV3, setc_size]; have := HB02.out.size; have := HZ.out; omega)
          have HO9 : Hid (OwnO V3 B1 (.slice Ao n co) new) := Lib.hid (by
            rw [hV3]
            exact ((HOo.out.below HB02.out).only1 HUo.out fun g h1 h2 => setc_other _ _ _ _ _ (by have h3 := HGB.out; omega)))
          rw [hV3] at HNx HX3 HR3 HB3 HZ3 HO9
          clear hV3 c9 f9 hgp hgpr hS0 hS2
          go_wp2_with fail
          go_roundw
          case rel => exact ⟨i + 1, by go_num, by omega, nee ++ [⟨⟨ra, rm, rc, rs⟩, ⟨A3, n3, c3⟩⟩], by rw [HTk.out, List.map_append, HNee.out]; rfl, by rw [List.length_append, HLen.out]; rfl, HNx.out, HO9.out, HX3.out, HR3.out, HB3.out, HZ3.out⟩
          case measure => simp [intOf]; omega
        case neg =>
          have hin : i = n' := by omega
          have HE : Hid (OwnE V0 B2 (.slice Ae n' ce) nee) := Lib.hid (by
            have h := HH.out
            rw [List.drop_of_length_le (by rw [HLe.out]; omega)] at h
            exact h.done)
          have HVe : Hid (nee.map (·.v) = es.map (·.v)) := Lib.hid (by rw [HNee.out, List.take_of_length_le (by rw [HLe.out]; omega)])
          clear HH HNee hin
          have HUe : Hid (Under V0.heap.size (.slice Ae n' ce :: sdS nee)) := Lib.hid HE.out.under
          have HCa := Lib.hid (clone_akR ⟨Aa, na, ca⟩ as_ V0 (HI.out.as_.next HB.out))
          have y4 := HK.out.cell 4
          go_wp2_with fail
          refine HCa.out.mono ?_
          rintro e w4 ⟨⟨Ab, nb, cb⟩, rfl, hoa, hb4⟩
          simp only [Sl.val] at hoa ⊢
          have HK4 := Lib.hid (HK.out.below hb4 HK.out.lt)
          have x4 := HK4.out.cell 4
          have f4 := HK4.out.frozen 4
          obtain ⟨w5, hw5⟩ : ∃ w5, w5 = w4.setCell ⟨p, 4, none⟩ (.slice Ab nb cb) := ⟨_, rfl⟩
          have HB5 : Hid (Below w.heap.size w w5) := Lib.hid (by rw [hw5]; exact below_setc (HB.out.trans (hb4.mono HB.out.size)) (by have := HNum.out; omega) _ _)
          have HK5 : Hid (Blk w5 p 28 #[.int .i64 me, .slice Ao n co, .slice Ae n' ce, .int .i64 q, .slice Ab nb cb, .slice Ag ng cg]) := Lib.hid (by rw [hw5]; exact HK4.out.set 4 _)
          have hnp : ∀ g, B1 ≤ g → g ≠ p := fun g h1 h2 => by have := HNum.out; omega
          have HR5 : Hid (Blk w5 pr 28 #[.int .i64 0, .slice none 0 0, .slice none 0 0, .int .i64 0, .slice none 0 0, .slice none 0 0]) := Lib.hid (by rw [hw5]; exact blk_other (HR.out.below hb4 HR.out.lt) (by have := HNum.out; omega) _ _)
          have HO5 : Hid (OwnO w5 B1 (.slice Ao n co) new) := Lib.hid (by rw [hw5]; exact (HOo.out.below hb4).stay fun g h1 h2 => setc_other _ _ _ _ _ (hnp g h1))
          have HE5 : Hid (OwnE w5 B2 (.slice Ae n' ce) nee) := Lib.hid (by rw [hw5]; exact (HE.out.below hb4).stay fun g h1 h2 => setc_other _ _ _ _ _ (hnp g (Nat.le_trans HBB.out h1)))
          have HA5 : Hid (akR.Own w5 V0.heap.size (.slice Ab nb cb) as_) := Lib.hid (by rw [hw5]; exact hoa.stay fun g e => setc_other _ _ _ _ _ (hnp g (by have h1 := hoa.base g e; have h2 := HZ.out; have h3 := HBB.out; omega)))
          have HS5 : Hid (V0.heap.size ≤ w5.heap.size) := Lib.hid (by rw [hw5, setc_size]; exact hb4.size)
          have HUa : Hid (Under w5.heap.size [(.slice Ab nb cb : Value)]) := Lib.hid HA5.out.under
          have HCg := Lib.hid (clone_fdR ⟨Ag, ng, cg⟩ gs w5 (HI.out.gs.next HB5.out))
          have x5 : w5.cell? ⟨p, 5, none⟩ = some (.slice Ag ng cg) := HK5.out.cell 5
          rw [hw5] at x5
          have HW5 := Lib.hid hw5
          clear y4 hb4 hoa hnp hw5
          go_wp2_with fail
          rw [← HW5.out]
          clear x5 x4 f4
          refine HCg.out.mono ?_
          rintro e w6 ⟨⟨Ah, nh, ch⟩, rfl, hog, hb6⟩
          simp only [Sl.val] at hog ⊢
          have HK6 := Lib.hid (HK5.out.below hb6 HK5.out.lt)
          have x5 := HK6.out.cell 5
          have f5 := HK6.out.frozen 5
          have hnp : ∀ g, B1 ≤ g → g ≠ p := fun g h1 h2 => by have := HNum.out; omega
          obtain ⟨w7, hw7⟩ : ∃ w7, w7 = w6.setCell ⟨p, 5, none⟩ (.slice Ah nh ch) := ⟨_, rfl⟩
          have HB7 : Hid (Below w.heap.size w w7) := Lib.hid (by rw [hw7]; exact below_setc (HB5.out.trans (hb6.mono HB5.out.size)) (by have := HNum.out; omega) _ _)
          have HK7 : Hid (Blk w7 p 28 #[.int .i64 me, .slice Ao n co, .slice Ae n' ce, .int .i64 q, .slice Ab nb cb, .slice Ah nh ch]) := Lib.hid (by rw [hw7]; exact HK6.out.set 5 _)
          have HR7 : Hid (Blk w7 pr 28 #[.int .i64 0, .slice none 0 0, .slice none 0 0, .int .i64 0, .slice none 0 0, .slice none 0 0]) := Lib.hid (by rw [hw7]; exact blk_other (HR5.out.below hb6 HR5.out.lt) (by have := HNum.out; omega) _ _)
          have HO7 : Hid (OwnO w7 B1 (.slice Ao n co) new) := Lib.hid (by rw [hw7]; exact (HO5.out.below hb6).stay fun g h1 h2 => setc_other _ _ _ _ _ (hnp g h1))
          have HE7 : Hid (OwnE w7 B2 (.slice Ae n' ce) nee) := Lib.hid (by rw [hw7]; exact (HE5.out.below hb6).stay fun g h1 h2 => setc_other _ _ _ _ _ (hnp g (Nat.le_trans HBB.out h1)))
          have HA7 : Hid (akR.Own w7 V0.heap.size (.slice Ab nb cb) as_) := Lib.hid (by rw [hw7]; exact (HA5.out.below hb6).stay fun g e => setc_other _ _ _ _ _ (hnp g (by have h1 := HA5.out.base g e; have h2 := HZ.out; have h3 := HBB.out; omega)))
          have HG7 : Hid (fdR.Own w7 w5.heap.size (.slice Ah nh ch) gs) := Lib.hid (by rw [hw7]; exact hog.stay fun g e => setc_other _ _ _ _ _ (hnp g (by have h1 := hog.base g e; have h2 := HZ.out; have h3 := HBB.out; have h4 := HS5.out; omega)))
          have HW7 := Lib.hid hw7
          have HAp : Hid (Apart ((Sl.val ⟨Ao, n, co⟩ :: owS new) ++ ((Sl.val ⟨Ae, n', ce⟩ :: sdS nee) ++ [Sl.val ⟨Ab, nb, cb⟩, Sl.val ⟨Ah, nh, ch⟩]))) := Lib.hid (by
            have a3 : Apart [Sl.val ⟨Ab, nb, cb⟩, Sl.val ⟨Ah, nh, ch⟩] := apart_two (m := w5.heap.size) (fun g e => HUa.out _ List.mem_cons_self g e) (fun g e => HG7.out.base g e)
            have o3 : Over V0.heap.size [Sl.val ⟨Ab, nb, cb⟩, Sl.val ⟨Ah, nh, ch⟩] := fun v hv g hg => by
              rcases List.mem_cons.1 hv with rfl | hv
              · exact HA7.out.base g hg
              · rw [List.mem_singleton.1 hv] at hg
                exact Nat.le_trans HS5.out (HG7.out.base g hg)
            have a2 : Apart ((Sl.val ⟨Ae, n', ce⟩ :: sdS nee) ++ [Sl.val ⟨Ab, nb, cb⟩, Sl.val ⟨Ah, nh, ch⟩]) := Apart.app (m := V0.heap.size) HE7.out.apart a3 HUe.out o3
            exact Apart.app (m := B2) HO7.out.apart a2 HUo.out (HE7.out.over.app (o3.mono HZ.out)))
          have HS : Hid (OwnS w7 w.heap.size ⟨me, new, ⟨Ao, n, co⟩, nee, ⟨Ae, n', ce⟩, q, as_, ⟨Ab, nb, cb⟩, gs, ⟨Ah, nh, ch⟩⟩) := Lib.hid (by
            have h1 := HNum.out
            have h2 := HBB.out
            have h3 := HZ.out
            have h4 := HS5.out
            exact ⟨HO7.out.low (by omega), HE7.out.low (by omega), HA7.out.low (by omega), HG7.out.low (by omega), HAp.out⟩)
          obtain ⟨V9, hV9, k9, b9, o9⟩ := set6 HR7.out (.int .i64 me) (.slice Ao n co) (.slice Ae n' ce) (.int .i64 q) (.slice Ab nb cb) (.slice Ah nh ch)
          have HV9 := Lib.hid hV9
          have HB9 : Hid (Below w.heap.size w V9) := Lib.hid (b9 _ _ (by have := HNum.out; omega) HB7.out)
          have HS9 : Hid (OwnS V9 w.heap.size ⟨me, new, ⟨Ao, n, co⟩, nee, ⟨Ae, n', ce⟩, q, as_, ⟨Ab, nb, cb⟩, gs, ⟨Ah, nh, ch⟩⟩) := Lib.hid (by
            have st : ∀ g, B1 ≤ g → V9.heap[g]? = w7.heap[g]? := fun g h => o9 g (by have := HNum.out; omega)
            have h2 := HBB.out
            have h3 := HZ.out
            have h4 := HS5.out
            have h1 := HNum.out
            exact ⟨(HO7.out.stay fun g hg _ => st g hg).low (by omega), (HE7.out.stay fun g hg _ => st g (by omega)).low (by omega), (HA7.out.stay fun g e => st g (by have := HA7.out.base g e; omega)).low (by omega), (HG7.out.stay fun g e => st g (by have := HG7.out.base g e; omega)).low (by omega), HAp.out⟩)
          have q0 : w7.cell? ⟨p, 0, none⟩ = some (.int .i64 me) := HK7.out.cell 0
          have q1 : w7.cell? ⟨p, 1, none⟩ = some (.slice Ao n co) := HK7.out.cell 1
          have q2 : w7.cell? ⟨p, 2, none⟩ = some (.slice Ae n' ce) := HK7.out.cell 2
          have q3 : w7.cell? ⟨p, 3, none⟩ = some (.int .i64 q) := HK7.out.cell 3
          have q4 : w7.cell? ⟨p, 4, none⟩ = some (.slice Ab nb cb) := HK7.out.cell 4
          have q5 : w7.cell? ⟨p, 5, none⟩ = some (.slice Ah nh ch) := HK7.out.cell 5
          have y0 : w7.cell? ⟨pr, 0, none⟩ = some (.int .i64 0) := HR7.out.cell 0
          have y1 : w7.cell? ⟨pr, 1, none⟩ = some (.slice none 0 0) := HR7.out.cell 1
          have y2 : w7.cell? ⟨pr, 2, none⟩ = some (.slice none 0 0) := HR7.out.cell 2
          have y3 : w7.cell? ⟨pr, 3, none⟩ = some (.int .i64 0) := HR7.out.cell 3
          have y4 : w7.cell? ⟨pr, 4, none⟩ = some (.slice none 0 0) := HR7.out.cell 4
          have y5 : w7.cell? ⟨pr, 5, none⟩ = some (.slice none 0 0) := HR7.out.cell 5
          have l0 : w7.frozen? ⟨pr, 0, none⟩ = false := HR7.out.frozen 0
          have l1 : w7.frozen? ⟨pr, 1, none⟩ = false := HR7.out.frozen 1
          have l2 : w7.frozen? ⟨pr, 2, none⟩ = false := HR7.out.frozen 2
          have l3 : w7.frozen? ⟨pr, 3, none⟩ = false := HR7.out.frozen 3
          have l4 : w7.frozen? ⟨pr, 4, none⟩ = false := HR7.out.frozen 4
          have l5 : w7.frozen? ⟨pr, 5, none⟩ = false := HR7.out.frozen 5
          have z0 : V9.cell? ⟨pr, 0, none⟩ = some (.int .i64 me) := k9.cell 0
          have z1 : V9.cell? ⟨pr, 1, none⟩ = some (.slice Ao n co) := k9.cell 1
          have z2 : V9.cell? ⟨pr, 2, none⟩ = some (.slice Ae n' ce) := k9.cell 2
          have z3 : V9.cell? ⟨pr, 3, none⟩ = some (.int .i64 q) := k9.cell 3
          have z4 : V9.cell? ⟨pr, 4, none⟩ = some (.slice Ab nb cb) := k9.cell 4
          have z5 : V9.cell? ⟨pr, 5, none⟩ = some (.slice Ah nh ch) := k9.cell 5
          rw [hw7] at q0 y0 l0 q1 y1 l1 q2 y2 l2 q3 y3 l3 q4 y4 l4 q5 y5 l5
          clear hV9 b9 o9 k9 hb6 hog hnp hw7
          go_wp2_with fail
          rw [← HW7.out, ← HV9.out]
          refine bodyPost_ret (v := .agg #[.int .i64 me, .slice Ao n co, .slice Ae n' ce, .int .i64 q, .slice Ab nb cb, .slice Ah nh ch]) (by simp [results, Try.f23, go_sem, z0, z1, z2, z3, z4, z5]) rfl ⟨⟨me, new, ⟨Ao, n, co⟩, nee, ⟨Ae, n', ce⟩, q, as_, ⟨Ab, nb, cb⟩, gs, ⟨Ah, nh, ch⟩⟩, rfl, ?_, HS9.out, HB9.out⟩
          unfold StL.v
          simp only [HV.out, HVe.out]
end Go.Proofs.Ytiaafhcfeeekeaa.Pk
