/- Package arrow as it landed: Legal. -/
import Derived.Test.YtcomiininaemhaaZAc1
namespace Go.Proofs.Ytcomiininaemhaa.Pk
open Go.RowKit Go.Proofs.Ytcomiininaemhaa.Gr
set_option linter.unusedVariables false
/-- Does a number stand in a list? -/
theorem contains_any (A : Option Addr) (n c : Nat) (l : List Int) (x : Int) (w : World) (B : Nat) (hr : Reads w B 1 A n (nms l)) (hbig : n ≤ 4611686018427387904) :
    Calls Try.prog 30 #[.slice A n c, .int .i64 x] w fun e w' => e = .returned (.bool (decide (x ∈ l))) ∧ w' = w := by
  have HL := Lib.hid hr.plen
  have HX := Lib.hid (idx_any A n c l x w B hr hbig)
  clear hr
  go_enter Try.func30, Try.ntmps30
  go_wp2_with fail
  refine HX.out.mono ?_
  rintro e w2 ⟨i, rfl, hi, hw⟩
  rw [hw]
  clear hw w2
  rcases hi with ⟨u, hu, rfl, h1, _⟩ | ⟨rfl, h1⟩
  · have HE : Hid (decide (x ∈ l) = true) := Lib.hid (decide_eq_true (by
      unfold pa at h1
      rw [List.getD_eq_getElem?_getD, List.getElem?_eq_getElem hu] at h1
      have h2 : l[u] = x := h1
      rw [← h2]; exact List.getElem_mem hu))
    clear h1
    go_wp2
    go_ret
    exact ⟨by rw [HE.out]; first | rfl | simp, rfl⟩
  · have HE : Hid (decide (x ∈ l) = false) := Lib.hid (decide_eq_false (fun h => by
      obtain ⟨u, hu⟩ := List.getElem?_of_mem h
      have hl : u < l.length := (List.getElem?_eq_some_iff.1 hu).1
      refine h1 u hl ?_
      unfold pa
      rw [List.getD_eq_getElem?_getD, hu]
      rfl))
    clear h1
    go_wp2
    go_ret
    exact ⟨by rw [HE.out]; first | rfl | simp, rfl⟩
theorem mem_nbs {ps : List Int} {v : Nat} {x : Int} : x ∈ nbs ps v ps.length ↔ ∃ y : Nat, x = (y : Int) ∧ y < ps.length ∧ nearL ps y v = true := by
  unfold nbs
  constructor
  · intro h
    obtain ⟨y, hy, rfl⟩ := List.mem_map.1 h
    obtain ⟨h1, h2⟩ := List.mem_filter.1 hy
    exact ⟨y, rfl, List.mem_range.1 h1, h2⟩
  · rintro ⟨y, rfl, h1, h2⟩
    exact List.mem_map.2 ⟨y, List.mem_filter.2 ⟨List.mem_range.2 h1, h2⟩, rfl⟩
/-- A neighbour of v, said by the list. -/
theorem near_mem {ps : List Int} {v : Nat} {x : Int} (hv : v < ps.length) : x ∈ nbsI ps (v : Int) ↔ 0 ≤ x ∧ x < (ps.length : Int) ∧ nearL ps v x.toNat = true := by
  unfold nbsI
  rw [if_pos (by omega), Int.toNat_natCast, mem_nbs]
  constructor
  · rintro ⟨y, rfl, h1, h2⟩
    exact ⟨by omega, by omega, nearL_symm (by simpa using h2)⟩
  · rintro ⟨h1, h2, h3⟩
    exact ⟨x.toNat, by omega, by omega, nearL_symm h3⟩
theorem legalZ : LegalZ := by
  intro A n c ar w hin
  go_enter Try.func14, Try.ntmps14
  go_wp2_with fail
  go_ret
  exact ⟨rfl, Below.refl _ _⟩
set_option maxHeartbeats 4000000 in
theorem legalA : LegalA := by
  intro T g ps A n c ar w hT G hin
  obtain ⟨r, hr9⟩ : ∃ r, r = decide (LegalL ps ar) := ⟨_, rfl⟩
  rw [← hr9]
  have HFr : Hid (¬ LegalL ps ar → r = false) := Lib.hid (fun h => by rw [hr9]; exact decide_eq_false h)
  have HTr : Hid (LegalL ps ar → r = true) := Lib.hid (fun h => by rw [hr9]; exact decide_eq_true h)
  clear hr9
  have HT := Lib.hid hT
  have HG := Lib.hid G
  have HI := Lib.hid hin
  have HL := Lib.hid hin.len
  have hn := hin.few
  have HS := Lib.hid (size_any T g ps w hT)
  obtain ⟨m, hm⟩ : ∃ m, m = ps.length := ⟨_, rfl⟩
  have HN := Lib.hid hm
  have hm32 : m ≤ 32 := by rw [hm]; exact G.few
  rw [← hm] at HS
  clear hT G hin hm
  by_cases h1 : n = m
  case neg =>
    have t1 : ((n : Int) != (m : Int)) = true := by simp; omega
    have hrf : r = false := HFr.out (fun h => h1 (by have := h.1; rw [HL.out, ← HN.out] at this; exact this))
    clear h1
    go_enter Try.func14, Try.ntmps14
    go_wp2_with fail
    refine HS.out.mono ?_
    rintro e w2 ⟨rfl, hw⟩
    rw [hw]
    clear hw w2
    go_wp2
    go_ret
    exact ⟨by first | rfl | (rw [hrf]; rfl), Below.refl _ _⟩
  case pos =>
  subst h1
  have t1 : ((n : Int) != (n : Int)) = false := by simp
  go_enter Try.func14, Try.ntmps14
  go_wp2_with fail
  refine HS.out.mono ?_
  rintro e w2 ⟨rfl, hw⟩
  rw [hw]
  clear hw w2
  go_wp2
  go_loopw [5, 6, 18] (fun _ _ j wr => ∃ i : Nat, j = .int .i64 i ∧ i ≤ n ∧ LegalTo ps ar i ∧ Below w.heap.size w wr) (fun _ _ j _ => n - (intOf j).toNat)
  case atStart => exact ⟨0, rfl, by omega, (fun v hv => by omega), Below.refl _ _⟩
  case round =>
    obtain ⟨i, rfl, hi, hle, hb⟩ := hrel
    obtain ⟨w1, rfl⟩ : ∃ w1 : World, w1 = wr := ⟨_, rfl⟩
    have HLe := Lib.hid hle
    have HBw := Lib.hid hb
    clear hle hb
    by_cases hlt : i < n
    · obtain ⟨b, off, rfl, _, hc⟩ := (HI.out.next HBw.out).rd.arr (by omega)
      have cx := hc i hlt
      have hx := HI.out.i _ (at_in (l := ar) (v := i) (by rw [HL.out]; exact hlt))
      obtain ⟨x, hxe⟩ : ∃ x, x = Gr.at_ ar i := ⟨_, rfl⟩
      rw [← hxe] at cx hx
      have HXe := Lib.hid hxe
      clear hc hxe
      by_cases g3 : x = (i : Int)
      · subst g3
        have HNx := Lib.hid (HLe.out.next (by rw [← HXe.out]; exact ⟨by omega, by rw [← HN.out]; omega, .inl rfl⟩))
        have t3 : ((i : Int) != (i : Int)) = false := by simp
        go_wp2
        go_roundw
        case rel => exact ⟨i + 1, by go_num, by omega, HNx.out, HBw.out⟩
        case measure => simp [intOf]; omega
      have t3 : (x != (i : Int)) = true := by simpa using g3
      have HNb := Lib.hid (nbrs_any T g ps (i : Int) w1 (HT.out.below HBw.out HT.out.lt) HG.out.few)
      have HM := Lib.hid (near_mem (ps := ps) (v := i) (x := x) (by rw [← HN.out]; exact hlt))
      have hnb32 : (nbsI ps (i : Int)).length ≤ 32 := by
        unfold nbsI
        split
        · exact Nat.le_trans (nbs_len ps _ _) HG.out.few
        · simp
      have HNb32 := Lib.hid hnb32
      clear hnb32
      go_wp2_with fail
      refine HNb.out.mono ?_
      rintro e w2 ⟨v2, rfl, hown, hb2⟩
      obtain ⟨A2, c2, rfl, _, hr2⟩ := hown.reads
      obtain ⟨q2, hq2⟩ : ∃ q2, q2 = (nbsI ps (i : Int)).length := ⟨_, rfl⟩
      rw [← hq2] at hr2 HNb32 ⊢
      have HB2 := Lib.hid (HBw.out.trans (hb2.mono HBw.out.size))
      have HCn := Lib.hid (contains_any A2 q2 c2 _ x w2 w2.heap.size hr2 (by have := HNb32.out; omega))
      clear hown hb2 hr2 hq2
      by_cases g4 : x ∈ nbsI ps (i : Int)
      · have HNx := Lib.hid (HLe.out.next (by have h9 := HM.out.1 g4; rw [← HXe.out]; exact ⟨h9.1, h9.2.1, .inr h9.2.2⟩))
        rw [decide_eq_true g4] at HCn
        clear g3 g4
        go_wp2_with fail
        refine HCn.out.mono ?_
        rintro e w3 ⟨rfl, hw⟩
        rw [hw]
        clear hw w3
        go_wp2
        go_roundw
        case rel => exact ⟨i + 1, by go_num, by omega, HNx.out, HB2.out⟩
        case measure => simp [intOf]; omega
      · have hrf : r = false := HFr.out (fun h => by
          have h3 := h.2 i (by rw [← HN.out]; exact hlt)
          rw [← HXe.out] at h3
          rcases h3 with ⟨h5, h6, h3 | h3⟩
          · exact g3 h3
          · exact g4 (HM.out.2 ⟨h5, h6, h3⟩))
        rw [decide_eq_false g4] at HCn
        clear g3 g4
        go_wp2_with fail
        refine HCn.out.mono ?_
        rintro e w3 ⟨rfl, hw⟩
        rw [hw]
        clear hw w3
        go_wp2
        go_ret
        exact ⟨by first | rfl | (rw [hrf]; rfl), HB2.out⟩
    · have hrt : r = true := HTr.out ⟨by rw [← HN.out, HL.out], fun v hv => HLe.out v (by rw [← HN.out] at hv; omega)⟩
      go_wp2
      go_ret
      exact ⟨by first | rfl | (rw [hrt]; rfl), HBw.out⟩
end Go.Proofs.Ytcomiininaemhaa.Pk
