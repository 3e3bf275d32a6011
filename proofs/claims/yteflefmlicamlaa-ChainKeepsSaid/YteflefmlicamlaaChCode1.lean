/- The landed Open and Add of package chain. -/
import Derived.Test.YteflefmlicamlaaChCat
import Derived.Test.YteflefmlicamlaaChClone
import Derived.Test.YteflefmlicamlaaChUse
namespace Go.Proofs.Yteflefmlicamlaa.Pk
open Go.RowKit
set_option linter.unusedVariables false
attribute [local go_sem] Oper.semAt_some
set_option maxHeartbeats 4000000 in
theorem openC : OpenP := by
  intro A n c l w hin
  have HI := Lib.hid hin
  have HL := Lib.hid hin.len
  have hn := hin.few
  clear hin
  go_enter Try.func11, Try.ntmps11
  go_wp2
  go_loopw [3, 5, 8] (fun x _ j wr => ∃ i : Nat, j = .int .i64 i ∧ i ≤ n ∧ x = .int .i64 (openK (l.take i) : Nat) ∧ Below w.heap.size w wr) (fun _ _ j _ => n - (intOf j).toNat)
  case atStart => exact ⟨0, rfl, by omega, rfl, Below.refl _ _⟩
  case round =>
    obtain ⟨i, rfl, hi, rfl, hb⟩ := hrel
    obtain ⟨w1, rfl⟩ : ∃ w1 : World, w1 = wr := ⟨_, rfl⟩
    have HB := Lib.hid hb
    clear hb
    by_cases hlt : i < n
    · obtain ⟨b, off, rfl, _, hc⟩ := (HI.out.next HB.out).rd.ces_ (by omega)
      have HT := Lib.hid (openK_take (l := l) (i := i) (by rw [HL.out]; exact hlt))
      have HLe := Lib.hid (openK_le (l.take i))
      have hcg := hc i _ (ceA_get (by rw [HL.out]; exact hlt))
      obtain ⟨r, hr⟩ : ∃ r, r = ceA l i := ⟨_, rfl⟩
      rw [← hr] at HT hcg
      obtain ⟨rn, rs, rd, rx⟩ := r
      simp only at HT hcg
      obtain ⟨m0, m1, m2, m3⟩ := hcg
      obtain ⟨k, hk⟩ : ∃ k, k = openK (l.take i) := ⟨_, rfl⟩
      have hk2 : k ≤ n := by rw [hk]; have := HLe.out; rw [List.length_take] at this; omega
      rw [← hk] at HT ⊢
      clear hc hr hk
      have HB2 : Hid (Below w.heap.size w (w1.alloc (.cells #[.int .i64 rn, .int .i64 rs, .int .i64 rd, .int .i64 rx] 36))) := Lib.hid (HB.out.alloc HB.out.size _)
      by_cases h1 : rs = 1
      · have t1 : (rs == 1) = true := by simp [h1]
        have HS : Hid (openK (l.take (i + 1)) = k + 1) := Lib.hid (by rw [HT.out, if_pos (.inl h1)])
        clear h1
        go_wp2
        go_roundw
        case rel => exact ⟨i + 1, by go_num, by omega, by rw [HS.out]; go_num, HB2.out⟩
        case measure => simp [intOf]; omega
      · have t1 : (rs == 1) = false := by simp [h1]
        by_cases h2 : rs = 2
        · have t2 : (rs == 2) = true := by simp [h2]
          have HS : Hid (openK (l.take (i + 1)) = k + 1) := Lib.hid (by rw [HT.out, if_pos (.inr h2)])
          clear h1 h2
          go_wp2
          go_roundw
          case rel => exact ⟨i + 1, by go_num, by omega, by rw [HS.out]; go_num, HB2.out⟩
          case measure => simp [intOf]; omega
        · have t2 : (rs == 2) = false := by simp [h2]
          have HS : Hid (openK (l.take (i + 1)) = k) := Lib.hid (by rw [HT.out, if_neg (by omega)]; rfl)
          clear h1 h2
          go_wp2
          go_roundw
          case rel => exact ⟨i + 1, by go_num, by omega, by rw [HS.out], HB2.out⟩
          case measure => simp [intOf]; omega
    · have HF : Hid (openK (l.take i) = openK l) := Lib.hid (by rw [List.take_of_length_le (by rw [HL.out]; omega)])
      rw [HF.out]
      go_wp2
      go_ret
      exact ⟨rfl, HB.out⟩
theorem OwnK.lower {w : World} {B B' : Nat} {v : Value} {l : List Ce} (h : OwnK w B v l) (hB : B' ≤ B) : OwnK w B' v l := by
  obtain ⟨h1, h2⟩ := h
  refine ⟨h1, ?_⟩
  rcases h2 with h2 | ⟨g, cap, cur, rfl, hb, hr⟩
  · exact .inl h2
  · exact .inr ⟨g, cap, cur, rfl, by omega, hr⟩
theorem pair_readsK (w : World) (T : TypeId) (a b : Value) : Reads (w.alloc (.cells #[a, b] T)) (w.heap.size + 1) 1 (some ⟨w.heap.size, 0, none⟩) 2 [a, b] := by
  refine ⟨rfl, fun _ => ⟨_, rfl, by simp, fun j u hj => ?_⟩⟩
  match j, hj with
  | 0, hj => simp at hj; subst hj; simp [Addr.add]
  | 1, hj => simp at hj; subst hj; simp [Addr.add]
  | j + 2, hj => simp at hj
set_option maxHeartbeats 1600000 in
theorem addC : AddP := by
  intro A n c l x w hin hx
  have hl : l.length = n := hin.len
  have hf := hin.few
  obtain ⟨w1, hw1⟩ : ∃ w1, w1 = w.alloc (.cells #[.int .i64 x, .int .i64 1, .int .i64 (-1), .int .i64 0] 36) := ⟨_, rfl⟩
  have hb1 : Below w.heap.size w w1 := hw1 ▸ (Below.refl _ _).alloc (Nat.le_refl _) _
  have hs1 : w1.heap.size = w.heap.size + 1 := by rw [hw1, World.size_alloc]
  have HL : Hid (KLists (w1.alloc (.cells #[.slice A n c, .slice (some ⟨w.heap.size, 0, none⟩) 1 1] 22)) (w1.alloc (.cells #[.slice A n c, .slice (some ⟨w.heap.size, 0, none⟩) 1 1] 22)).heap.size (some ⟨w.heap.size + 1, 0, none⟩) 2 [⟨A, n, c, l⟩, ⟨some ⟨w.heap.size, 0, none⟩, 1, 1, [⟨x, 1, -1, 0⟩]⟩]) := Lib.hid (by
    refine ⟨by rw [World.size_alloc, ← hs1]; exact pair_readsK w1 _ _ _, fun p hp => ?_⟩
    rcases List.mem_cons.1 hp with rfl | hp
    · exact ⟨((hin.rd.below hb1).alloc (by omega) _).more (by simp; omega), hin.cap⟩
    · obtain rfl := List.mem_singleton.1 hp
      have hr := reads_cell w 36 ⟨x, 1, -1, 0⟩
      rw [← hw1] at hr
      exact ⟨(hr.alloc (by omega) _).more (by simp; omega), Nat.le_refl _⟩)
  have HA : Hid (allK [⟨A, n, c, l⟩, ⟨some ⟨w.heap.size, 0, none⟩, 1, 1, [⟨x, 1, -1, 0⟩]⟩] = addK l x) := Lib.hid (by simp [allK, addK])
  have HT : Hid ((allK [⟨A, n, c, l⟩, ⟨some ⟨w.heap.size, 0, none⟩, 1, 1, [⟨x, 1, -1, 0⟩]⟩]).length * 32 ≤ 140737488355328) := Lib.hid (by simp [allK]; omega)
  have HB1 := Lib.hid hb1
  have HS1 := Lib.hid hs1
  clear hb1 hs1 hin hl hf
  go_enter Try.func14, Try.ntmps14
  go_wp2_with fail
  rw [← hw1]
  clear hw1
  refine (concatK _ 2 2 _ _ HL.out (by omega) HT.out).mono ?_
  rintro e w2 ⟨v, rfl, ho, hb⟩
  obtain ⟨A3, n3, c3, rfl⟩ := ownK_slice ho
  have HO : Hid (OwnK w2 w.heap.size (.slice A3 n3 c3) (addK l x)) := Lib.hid (by rw [HA.out] at ho; exact ho.lower (by simp [HS1.out]; omega))
  have HB : Hid (Below w.heap.size w w2) := Lib.hid ((HB1.out.alloc (by rw [HS1.out]; omega) _).trans (hb.mono (by simp [HS1.out]; omega)))
  clear ho hb
  go_wp2
  go_ret
  exact ⟨_, rfl, HO.out, HB.out⟩
end Go.Proofs.Yteflefmlicamlaa.Pk
