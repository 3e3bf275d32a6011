/- The document's answer for trees (fletchref04): the contract of Walk. -/
import Derived.Test.YtohlgimbohkepaaGrWalk
namespace Go.Proofs.Ytohlgimbohkepaa.Pk
open Go.RowKit Go.Proofs.Ytohlgimbohkepaa.Gr
set_option linter.unusedVariables false
/-- The walk's rows: each node with its distance. -/
def walkQ (ps : List Int) (f k a : Nat) : List (Int × Int) := (walkN (kids ps f) k a).map fun x : Nat => ((x : Int), (distL ps f x : Int))
theorem walkQ_succ (ps : List Int) (f k a : Nat) : walkQ ps f (k + 1) a = ((a : Int), (distL ps f a : Int)) :: (kids ps f a).flatMap (walkQ ps f k) := by
  unfold walkQ
  rw [walkN, List.map_cons, List.map_flatMap]
theorem OwnN.grown {w w' : World} {B : Nat} {v : Value} {l : List Int} {row : Option Nat} (h : OwnN w B v l) (hg : w.grownBy w' row) (hne : ∀ g, v.ownBlock = some g → some g ≠ row) : OwnN w' B v l := by
  have hlt := ownN_lt h
  obtain ⟨h1, h2⟩ := h
  refine ⟨h1, ?_⟩
  rcases h2 with h2 | ⟨g, cap, cur, e, hb, hh, hr⟩
  · exact .inl h2
  · subst e
    refine .inr ⟨g, cap, cur, rfl, hb, ?_, hr⟩
    rw [hg.block g (hlt g rfl) (hne g rfl)]; exact hh
/-- What the loop has laid after i neighbours. -/
def laidQ (ps : List Int) (f k a : Nat) (back : Int) (L : List Int) : List (Int × Int) := ((a : Int), (distL ps f a : Int)) :: (L.filter fun v => decide (v ≠ back)).flatMap fun v => walkQ ps f k v.toNat
theorem laidQ_snoc (ps : List Int) (f k a : Nat) (back : Int) (L : List Int) (v : Int) : laidQ ps f k a back (L ++ [v]) = if v ≠ back then laidQ ps f k a back L ++ walkQ ps f k v.toNat else laidQ ps f k a back L := by
  unfold laidQ
  rw [List.filter_append, List.flatMap_append]
  by_cases h : v ≠ back
  · rw [if_pos h]; simp [h]
  · rw [if_neg h]; simp at h; simp [h]
theorem laidQ_all {ps : List Int} (G : Gr.Good ps) {f a k : Nat} {back : Int} (hf : f < ps.length) (ha : a < ps.length) (hw : Whence ps f a back) : laidQ ps f k a back (nbs ps a ps.length) = walkQ ps f (k + 1) a := by
  unfold laidQ
  rw [kids_nbs G hf ha hw, walkQ_succ, List.flatMap_map]
  rfl
theorem nbs_in {ps : List Int} {a : Nat} {v : Int} (h : v ∈ nbs ps a ps.length) : ∃ x : Nat, v = (x : Int) ∧ x < ps.length ∧ nearL ps x a = true := by
  unfold nbs at h
  obtain ⟨x, hx, rfl⟩ := List.mem_map.1 h
  obtain ⟨h1, h2⟩ := List.mem_filter.1 hx
  exact ⟨x, rfl, List.mem_range.1 h1, h2⟩

set_option maxHeartbeats 4000000 in
theorem walk_any (A : Option Addr) (n c : Nat) (ps : List Int) (G : Gr.Good ps) (f : Nat) (hf : f < ps.length) : ∀ (k : Nat) (w : World) (B a : Nat) (back : Int), Reads w B 1 A n (nms ps) → B ≤ w.heap.size → a < n → n ≤ distL ps f a + k → Whence ps f a back →
    Calls Try.prog 28 #[.slice A n c, .int .i64 (a : Int), .int .i64 back, .int .i64 (distL ps f a : Int)] w fun e w' => ∃ v, e = .returned v ∧ OwnQ w' w.heap.size v (walkQ ps f k a) ∧ Below w.heap.size w w' := by
  intro k
  induction k with
  | zero =>
    intro w B a back hr hB ha hk _
    have h1 : distL ps f a < ps.length := G.rt.dist_lt hf (by rw [hr.plen]; exact ha)
    rw [hr.plen] at h1
    omega
  | succ k ih =>
    intro w B a back hr hB ha hk hw
    have HI := Lib.hid ih
    have HL := Lib.hid hr.plen
    have HR := Lib.hid hr
    have HW := Lib.hid hw
    have HA := Lib.hid ha
    have hn : n ≤ 32 := by rw [← HL.out]; exact G.few
    have hd32 : distL ps f a < 32 := by
      have h1 : distL ps f a < ps.length := G.rt.dist_lt hf (by rw [HL.out]; exact ha)
      rw [HL.out] at h1
      exact Nat.lt_of_lt_of_le h1 hn
    clear ih hr hw
    obtain ⟨d, hd⟩ : ∃ d, d = distL ps f a := ⟨_, rfl⟩
    rw [← hd] at hd32 hk
    rw [← hd]
    have HD := Lib.hid hd
    clear hd
    go_enter Try.func28, Try.ntmps28
    have HLi := Lib.hid (OwnQ.lit w w.heap.size (a : Int) (d : Int) (Nat.le_refl _))
    have HNb : Hid (nbsI ps (a : Int) = nbs ps a ps.length) := Lib.hid (by unfold nbsI; rw [if_pos (by rw [HL.out]; omega)]; rfl)
    go_wp2_with (go_at_call 21; go_must (refine (nbs_any A n c ps a _ B (HR.out.alloc hB _) (by simp; omega) (by omega)).mono ?_); rintro e w1 ⟨x, rfl, hown, hbel⟩; rw [HNb.out] at hown; obtain ⟨A2, c2, hx, hc2, hr2⟩ := hown.reads; subst hx; have HN := Lib.hid hown; have HLo := Lib.hid (HLi.out.below hbel); have HB1 := Lib.hid (((Below.refl w.heap.size w).alloc (Nat.le_refl _) (.cells #[.int .i64 (a : Int), .int .i64 (d : Int)] 50)).trans (hbel.mono (by simp))); have hbase := ownN_base hown; have HBs := Lib.hid hbase; have hbs1 := hbel.size; clear hown hbel hr2 hbase)
    obtain ⟨L, hLd⟩ : ∃ L, L = nbs ps a ps.length := ⟨_, rfl⟩
    obtain ⟨m, hm⟩ : ∃ m, m = L.length := ⟨_, rfl⟩
    have hm32 : m ≤ 32 := by rw [hm, hLd]; exact Nat.le_trans (nbs_len ps a _) G.few
    rw [← hLd] at HN HBs hc2
    rw [← hLd, ← hm]
    rw [← hm] at HN HBs hc2
    have HLm := Lib.hid hm
    have HLd := Lib.hid hLd
    clear hm hLd
    have S0 : w.heap.size + 1 ≤ w1.heap.size := Nat.le_trans (Nat.le_of_eq (by simp)) hbs1
    go_loopw [9, 11, 20] (fun o _ j wr => ∃ (i : Nat) (l : List (Int × Int)), j = .int .i64 i ∧ i ≤ m ∧ l = laidQ ps f k a back (L.take i) ∧ l.length ≤ 1 + 32 * i ∧ OwnQ wr w.heap.size o l ∧ Below w.heap.size w wr ∧ OwnN wr (w.heap.size + 1) (.slice A2 m c2) L ∧ (∀ g, (Value.slice A2 m c2).ownBlock = some g → some g ≠ o.ownBlock)) (fun _ _ j _ => m - (intOf j).toNat)
    case atStart => exact ⟨0, _, rfl, by omega, rfl, by simp [laidQ], by have h := HLo.out; rw [HD.out] at h; simpa [laidQ] using h, HB1.out, by have h := HN.out; simpa using h, fun g hg => by have h := HBs.out g hg; have h2 : w.heap.size + 1 ≤ g := Nat.le_trans (Nat.le_of_eq (by simp)) h; simp [Value.ownBlock]; omega⟩
    case round =>
      obtain ⟨i, l, rfl, hi, hl, hlen, hown, hbel, hN, hdif⟩ := hrel
      obtain ⟨w2, rfl⟩ : ∃ w2 : World, w2 = wr := ⟨_, rfl⟩
      have Hl := Lib.hid hl
      have HO := Lib.hid hown
      have HB := Lib.hid hbel
      have HN2 := Lib.hid hN
      have HDf := Lib.hid hdif
      clear hl hown hbel hN hdif
      by_cases hlt : i < m
      · obtain ⟨A3, c3, e3, _, hr3⟩ := HN2.out.reads
        rw [← HLm.out] at e3 hr3
        obtain ⟨rfl, _, rfl⟩ : A3 = A2 ∧ m = m ∧ c3 = c2 := by injection e3 with h1 h2 h3; exact ⟨h1.symm, rfl, h3.symm⟩
        obtain ⟨b, off, rfl, hbb, hc⟩ := hr3.i64 (by omega)
        have cx := hc i hlt
        clear hc hr3 e3
        obtain ⟨v, hv⟩ : ∃ v, v = L.getD i 0 := ⟨_, rfl⟩
        rw [← hv] at cx
        have hget : L[i]? = some v := by rw [hv]; simp [List.getD, HLm.out ▸ hlt]
        have hmem : v ∈ nbs ps a ps.length := by rw [← HLd.out]; exact List.mem_of_getElem? hget
        obtain ⟨x, rfl, hx1, hx2⟩ := nbs_in hmem
        have HSn : Hid (laidQ ps f k a back (L.take (i + 1)) = if (x : Int) ≠ back then l ++ walkQ ps f k x else l) := Lib.hid (by
          rw [List.take_add_one, hget, Hl.out]; exact laidQ_snoc ps f k a back (L.take i) (x : Int))
        clear hv hget hmem
        have HX1 : Hid (x < n) := Lib.hid (by rw [← HL.out]; exact hx1)
        by_cases hb : (x : Int) = back
        · have HS2 : Hid (laidQ ps f k a back (L.take (i + 1)) = l) := Lib.hid (by rw [HSn.out, if_neg (by simp [hb])])
          have t1 : ((x : Int) != back) = false := by simp [hb]
          clear hb
          go_wp2
          go_roundw
          case rel => exact ⟨i + 1, l, by go_num, by omega, HS2.out.symm, by omega, HO.out, HB.out, HN2.out, HDf.out⟩
          case measure => simp [intOf]; omega
        · have HS2 : Hid (laidQ ps f k a back (L.take (i + 1)) = l ++ walkQ ps f k x) := Lib.hid (by rw [HSn.out, if_pos hb])
          have t1 : ((x : Int) != back) = true := by simp [hb]
          have HDx : Hid (distL ps f x = d + 1) := Lib.hid (by rw [HD.out]; exact (G.kid_iff hf (by rw [HL.out]; exact HA.out) HW.out hx1 hx2).1 hb)
          have HWh : Hid (Whence ps f x (a : Int)) := Lib.hid (G.whence_kid (by rw [HL.out]; exact HA.out) hx1 hx2 (by rw [HDx.out, HD.out]))
          have hlw : (walkQ ps f k x).length ≤ 32 := by
            unfold walkQ
            rw [List.length_map]
            exact Nat.le_trans (G.rt.walk_len hf (G.kids f) hx1 (by change ps.length ≤ distL ps f x + k; rw [HDx.out, HL.out]; omega)) G.few
          have HLw := Lib.hid hlw
          have HK : Hid (n ≤ distL ps f x + k) := Lib.hid (by rw [HDx.out]; omega)
          have HQ := Lib.hid (fun (W : World) (hr : Reads W B 1 A n (nms ps)) (h : B ≤ W.heap.size) => HI.out W B x (a : Int) hr h HX1.out HK.out HWh.out)
          rw [HDx.out] at HQ
          clear hb hlw
          go_wp2_with (first
            | (go_at_call 28; go_must (refine (HQ.out w2 (HR.out.below (HB.out.mono hB)) (by have := HB.out.size; omega)).mono ?_); rintro e w3 ⟨y, rfl, hq3, hb3⟩; obtain ⟨A4, c4, hy, hc4, hr4⟩ := hq3.reads; subst hy; have HR4 := Lib.hid hr4; have HO3 := Lib.hid (HO.out.below hb3); have HN3 := Lib.hid (OwnN.below HN2.out hb3); have HB3 := Lib.hid (HB.out.trans (hb3.mono HB.out.size)); clear hq3 hr4 hb3)
            | (at_builtin; refine appQ w3 rfl (.tmp 27) (.tmp 33) rfl w.heap.size _ l rfl HO3.out _ A4 c4 (walkQ ps f k x) _ rfl HR4.out (by have := HLw.out; omega) HB3.out.size ?_; intro v5 w5 hown5 hb5 hat5 hg5; have HO5 := Lib.hid hown5; have HB5 := Lib.hid (HB3.out.trans hb5); have HN5 := Lib.hid (HN3.out.grown hg5 HDf.out); have HD5 : Hid (∀ g, (Value.slice (some ⟨b, off, none⟩) m c3).ownBlock = some g → some g ≠ v5.ownBlock) := Lib.hid (fun g hg => by
                rcases hat5 with h | h
                · rw [h]; exact HDf.out g hg
                · rw [h]; have := ownN_lt HN3.out g hg; simp; omega); clear hown5 hb5 hat5 hg5))
          go_roundw
          case rel => exact ⟨i + 1, _, by go_num, by omega, HS2.out.symm, by rw [List.length_append]; have := HLw.out; omega, HO5.out, HB5.out, HN5.out, HD5.out⟩
          case measure => simp [intOf]; omega
      · have HF : Hid (l = walkQ ps f (k + 1) a) := Lib.hid (by
          rw [Hl.out, List.take_of_length_le (by rw [← HLm.out]; omega), HLd.out]
          exact laidQ_all G hf (by rw [HL.out]; exact HA.out) HW.out)
        go_wp2
        go_ret
        exact ⟨_, rfl, by rw [← HF.out]; exact HO.out, HB.out⟩
end Go.Proofs.Ytohlgimbohkepaa.Pk
