/- Package frame: first: the payload of the frame that bytes begin with. -/
import Derived.Test.YtmmjmaohbmlfgaaDoorFrNum
import Derived.Test.YtmmjmaohbmlfgaaDoorFrKeep
namespace Go.Proofs.YtmmjmaohbmlfgaaDoor.Pk
open Go.RowKit Go.Proofs.YtmmjmaohbmlfgaaDoor.Crc Go.Proofs.YtmmjmaohbmlfgaaDoor.Fr
set_option linter.unusedVariables false
/-- What first answers of bytes b that lie at A. -/
def firstV (A : Option Addr) (c : Nat) (b : List Int) : Value := match fst b with
  | none => .tuple #[.slice none 0 0, .bool false]
  | some p => .tuple #[.slice (cutA A c 8) p.length (c - 8), .bool true]
theorem firstV_none {A : Option Addr} {c : Nat} {b : List Int} (h : fst b = none) : firstV A c b = .tuple #[.slice none 0 0, .bool false] := by unfold firstV; rw [h]
theorem firstV_some {A : Option Addr} {c : Nat} {b p : List Int} (h : fst b = some p) : firstV A c b = .tuple #[.slice (cutA A c 8) p.length (c - 8), .bool true] := by unfold firstV; rw [h]

set_option maxHeartbeats 4000000 in
theorem fst_any (A : Option Addr) (n c : Nat) (b : List Int) (w : World) (ht : Tab w) (hr : Reads w w.heap.size 1 A n (bts b)) (hnc : n ≤ c) (hby : Bytes b) (hn : n ≤ 17179869184) :
    Calls Tryd.prog 31 #[.slice A n c] w fun e w' => e = .returned (firstV A c b) ∧ Below w.heap.size w w' := by
  have hbl : b.length = n := by have := hr.1; simpa using this
  have HR := Lib.hid hr
  have HB := Lib.hid hby
  have HT := Lib.hid ht
  have HL := Lib.hid hbl
  clear hr hby ht
  by_cases h8 : n < 8
  · have hz0 := Lib.hid (firstV_none (A := A) (c := c) (fst_stop (b := b) (.inl (by omega))))
    go_enter Tryd.func31, Tryd.ntmps31
    go_wp2
    go_ret2
    exact ⟨by rw [hz0.out]; rfl, Below.refl _ _⟩
  · have HP := Lib.hid (numberOf_any A n c b w HR.out HB.out (by omega))
    obtain ⟨m, hm⟩ : ∃ m, m = num4 b := ⟨_, rfl⟩
    have hm4 : m < 4294967296 := by
      have h0 := bytes_getD HB.out 0
      have h1 := bytes_getD HB.out 1
      have h2 := bytes_getD HB.out 2
      have h3 := bytes_getD HB.out 3
      rw [hm]; unfold num4; omega
    rw [← hm] at HP
    have HM := Lib.hid hm
    clear hm
    go_enter Tryd.func31, Tryd.ntmps31
    go_wp2_with fail
    refine HP.out.mono ?_
    rintro e w1 ⟨rfl, k1, rfl⟩
    clear HP
    by_cases h1 : 1048576 < m
    · have hz0 := Lib.hid (firstV_none (A := A) (c := c) (fst_stop (b := b) (.inr (.inl (by rw [← HM.out]; exact h1)))))
      go_wp2
      go_ret2
      exact ⟨by rw [hz0.out]; rfl, below_drewN (Below.refl _ _) _⟩
    by_cases h2 : n < 8 + m
    · have hz0 := Lib.hid (firstV_none (A := A) (c := c) (fst_stop (b := b) (.inr (.inr (by rw [← HM.out]; omega)))))
      go_wp2
      go_ret2
      exact ⟨by rw [hz0.out]; rfl, below_drewN (Below.refl _ _) _⟩
    have h1' : m ≤ 1048576 := by omega
    have h2' : 8 + m ≤ n := by omega
    have h8' : 8 ≤ n := by omega
    clear h1 h2 h8
    have hf := fst_sum HB.out (by omega) (by rw [← HM.out]; exact h1') (by rw [← HM.out]; omega)
    rw [← HM.out] at hf
    have HF := Lib.hid hf
    clear hf
    obtain ⟨e8, he8⟩ : ∃ e8, e8 = 8 + m := ⟨_, rfl⟩
    have e1 : 8 + (m : Int) = (e8 : Int) := by omega
    have hec : e8 ≤ c := by omega
    have kd : ∀ u : World, (Instr.slice 22 (.slice A n c) (some (.int .i64 8)) (some (.int .i64 (e8 : Int))) none).run Tryd.prog u = .ok (.slice (cutA A c 8) m (c - 8)) u := fun u => by
      have h := run_cut2 Tryd.underlying22 (by kernel_rfl) A n c 8 e8 (by omega) hec u; rw [show e8 - 8 = m by omega] at h; exact h
    have kt : ∀ u : World, (Instr.slice 22 (.slice A n c) (some (.int .i64 4)) none none).run Tryd.prog u = .ok (.slice (cutA A c 4) (n - 4) (c - 4)) u := fun u => run_cut1 Tryd.underlying22 (by kernel_rfl) A n c 4 (by omega) u
    have HE8 := Lib.hid he8
    have hm8 : m + 8 ≤ 1048584 := by omega
    have kc : ∀ u : World, (Instr.slice 22 (.slice A n c) none (some (.int .i64 4)) none).run Tryd.prog u = .ok (.slice A 4 c) u := fun u => run_head Tryd.underlying22 (by kernel_rfl) A n c 4 (by omega) u
    have kd2 : ∀ u : World, (Instr.slice 22 (.slice A n c) (some (.int .i64 8)) (some (.int .i64 (8 + (m : Int)))) none).run Tryd.prog u = .ok (.slice (cutA A c 8) m (c - 8)) u := fun u => by rw [e1]; exact kd u
    have w1 : IntKind.i64.wrap (8 + (m : Int)) = (e8 : Int) := by rw [IntWalk.i64_in _ (by omega)]; exact e1
    have w2 : IntKind.i64.wrap (e8 : Int) = (e8 : Int) := IntWalk.i64_in _ (by omega)
    have w3 : (8 : Int) ≤ (e8 : Int) := by omega
    have w4 : (e8 : Int) ≤ (c : Int) := by omega
    clear he8
    obtain ⟨q, hq⟩ : ∃ q, q = (b.drop 8).take m := ⟨_, rfl⟩
    obtain ⟨s, hs⟩ : ∃ s, s = crc 0 (b.take 4 ++ q) := ⟨_, rfl⟩
    obtain ⟨s', hs'⟩ : ∃ s', s' = num4 (b.drop 4) := ⟨_, rfl⟩
    have HPt : Hid (∀ V : World, Tab V → Reads V V.heap.size 1 A n (bts b) → Calls Tryd.prog 19 #[.slice (some ⟨V.heap.size, 0, none⟩) 2 2] (V.alloc (.cells #[.slice A 4 c, .slice (cutA A c 8) m (c - 8)] 22)) fun e w' => e = .returned (.int .u32 (s : Nat)) ∧ (V.alloc (.cells #[.slice A 4 c, .slice (cutA A c 8) m (c - 8)] 22)) = w') := Lib.hid (by
      intro V hT hV
      have hb2 : Below V.heap.size V (V.alloc (.cells #[.slice A 4 c, .slice (cutA A c 8) m (c - 8)] 22)) := (Below.refl _ V).alloc (Nat.le_refl _) _
      have hr4 := hV.take (k := 4) (by omega)
      have hr8 := reads_cut hV (i := 8) (j := e8) (by omega) (by have := HE8.out; omega) hnc
      have hcut : (b.take e8).drop 8 = q := by
        rw [List.drop_take, hq, HE8.out, show 8 + m - 8 = m by omega]
      rw [hcut, show e8 - 8 = m by have := HE8.out; omega] at hr8
      have hLs : Lists (V.alloc (.cells #[.slice A 4 c, .slice (cutA A c 8) m (c - 8)] 22)) (V.heap.size + 1) (some ⟨V.heap.size, 0, none⟩) 2 [⟨A, 4, c, b.take 4⟩, ⟨cutA A c 8, m, c - 8, q⟩] := by
        refine ⟨reads_new V _ _ _ 2 [.slice A 4 c, .slice (cutA A c 8) m (c - 8)] rfl rfl (by omega), fun x hx => ?_⟩
        rcases List.mem_cons.1 hx with rfl | hx
        · exact ⟨(hr4.below hb2).more (by omega), (show 4 ≤ c by omega), (show 4 ≤ _ by omega), fun y hy => HB.out y (List.mem_of_mem_take hy)⟩
        · obtain rfl := List.mem_singleton.1 hx
          refine ⟨(hr8.below hb2).more (by omega), (show m ≤ c - 8 by have := HE8.out; omega), (show m ≤ _ by omega), fun y hy => HB.out y ?_⟩
          have hy : y ∈ q := hy
          rw [hq] at hy
          exact List.mem_of_mem_drop (List.mem_of_mem_take hy)
      have h5 := parts_any (some ⟨V.heap.size, 0, none⟩) 2 2 _ _ _ hLs (by omega) (hT.next hb2)
      have hsum : sums 0 (Piece.bytes [⟨A, 4, c, b.take 4⟩, ⟨cutA A c 8, m, c - 8, q⟩]) = s := by
        rw [hs, sums_flat]
        simp [Piece.bytes]
      rw [hsum] at h5
      exact h5)
    have HPj : Hid (∀ (V : World) (j : Nat), Tab V → Reads V V.heap.size 1 A n (bts b) → Calls Tryd.prog 19 #[.slice (some ⟨V.heap.size, 0, none⟩) 2 2] ((V.alloc (.cells #[.slice A 4 c, .slice (cutA A c 8) m (c - 8)] 22)).drewN j) fun e w' => e = .returned (.int .u32 (s : Nat)) ∧ ((V.alloc (.cells #[.slice A 4 c, .slice (cutA A c 8) m (c - 8)] 22)).drewN j) = w') := Lib.hid (fun V j h1 h2 => HPt.out (V.drewN j) h1 h2)
    have HT4 : Hid (∀ V : World, Reads V V.heap.size 1 A n (bts b) → Calls Tryd.prog 32 #[.slice (cutA A c 4) (n - 4) (c - 4)] V fun e w' => e = .returned (.int .u32 (s' : Nat)) ∧ ∃ k, w' = V.drewN k) := Lib.hid (by
      intro V hV
      have hr4 := reads_cut hV (i := 4) (j := n) (by omega) (Nat.le_refl _) hnc
      have hcut : (b.take n).drop 4 = b.drop 4 := by rw [← hbl, List.take_length]
      rw [hcut] at hr4
      have h5 := numberOf_any _ (n - 4) (c - 4) _ V hr4 (fun y hy => HB.out y (List.mem_of_mem_drop hy)) (by omega)
      rw [← hs'] at h5
      exact h5)
    rw [← hq, ← hs, ← hs'] at HF
    have HQl : Hid (q.length = m) := Lib.hid (by rw [hq]; simp; omega)
    clear hq hs hs'
    have c4 : 4 ≤ c := by omega
    go_wp2_with fail
    by_cases hss : s = s'
    · subst hss
      have hz0 : Hid (firstV A c b = .tuple #[.slice (cutA A c 8) m (c - 8), .bool true]) := Lib.hid (by rw [firstV_some (by rw [HF.out, if_pos rfl]), HQl.out])
      clear HF
      go_region_held3 (fun _ => True) (first | exact trivial | go_keep) (first
        | (go_at_call 19; refine (HPt.out _ (by exact HT.out) (by exact HR.out)).mono ?_; go_must (rintro e w2 ⟨rfl, hw⟩; rw [← hw]; clear hw w2))
        | (go_at_call 19; go_must (refine (HPj.out _ _ (by exact HT.out) (by exact HR.out)).mono ?_; rintro e w2 ⟨rfl, hw⟩; rw [← hw]; clear hw w2))
        | (go_at_call 32; go_must (refine (HT4.out _ (by first | exact HR.out | exact HR.out.alloc (Nat.le_refl _) _ |>.more (by simp))).mono ?_; rintro e w3 ⟨rfl, k3, rfl⟩)))
      all_goals
        go_wp2
        go_ret2
        exact ⟨by rw [hz0.out]; rfl, by
          repeat' (first | exact Below.refl _ _ | exact Nat.le_refl _ | refine below_drewN ?_ _ | refine Below.alloc ?_ ?_ _)⟩
    · have hz0 := Lib.hid (firstV_none (A := A) (c := c) (b := b) (by rw [HF.out, if_neg hss]))
      have t1 : ((s' : Int) != (s : Int)) = true := by simp; omega
      clear HF hss
      go_region_held3 (fun _ => True) (first | exact trivial | go_keep) (first
        | (go_at_call 19; refine (HPt.out _ (by exact HT.out) (by exact HR.out)).mono ?_; go_must (rintro e w2 ⟨rfl, hw⟩; rw [← hw]; clear hw w2))
        | (go_at_call 19; go_must (refine (HPj.out _ _ (by exact HT.out) (by exact HR.out)).mono ?_; rintro e w2 ⟨rfl, hw⟩; rw [← hw]; clear hw w2))
        | (go_at_call 32; go_must (refine (HT4.out _ (by first | exact HR.out | exact HR.out.alloc (Nat.le_refl _) _ |>.more (by simp))).mono ?_; rintro e w3 ⟨rfl, k3, rfl⟩)))
      all_goals
        go_wp2
        go_ret2
        exact ⟨by rw [hz0.out]; rfl, by
          repeat' (first | exact Below.refl _ _ | exact Nat.le_refl _ | refine below_drewN ?_ _ | refine Below.alloc ?_ ?_ _)⟩
end Go.Proofs.YtmmjmaohbmlfgaaDoor.Pk
