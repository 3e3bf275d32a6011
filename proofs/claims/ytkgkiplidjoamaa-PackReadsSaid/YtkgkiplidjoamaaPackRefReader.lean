/- The walks of the document's reader. -/
import Derived.Test.YtkgkiplidjoamaaPackReader2
import Derived.Test.YtkgkiplidjoamaaPackRef
namespace Go.Proofs.Ytkgkiplidjoamaa.Pk
open Go.RowKit
set_option linter.unusedVariables false

theorem OwnB.val_far {w : World} {B M o : Nat} {v : Value} {l : List Int} (h : OwnB w B v l) (hM : M < B) (u : Value) : ValB (w.setCell ⟨M, o, none⟩ u) v l := by
  have h2 := h.2
  obtain ⟨A, n, c, rfl, hc, hn, hr⟩ := h.val
  refine ⟨A, n, c, rfl, hc, hn, ?_⟩
  rw [size_set]
  refine hr.far (fun hp ad e he => ?_) u
  rcases h2 with ⟨e1, _⟩ | ⟨g, cap, cur, e1, hg, _⟩
  · injection e1 with e1 _ _; rw [e] at e1; cases e1
  · injection e1 with e1 _ _; rw [e] at e1; injection e1 with e1; rw [e1] at he; simp at he; omega

/-- The document's reader at block M. -/
def RF (w : World) (M : Nat) (l : List Int) (bad : Bool) : Prop := ∃ A n c, Blk w M 43 #[.slice A n c, .bool bad] ∧ n ≤ c ∧ l.length = n ∧ n ≤ 140737488355328 ∧ Reads w w.heap.size 1 A n (bts l) ∧ isB l

theorem RF.flag {w : World} {M : Nat} {l : List Int} {bad : Bool} (h : RF w M l bad) (b : Bool) : RF (w.setCell ⟨M, 1, none⟩ (.bool b)) M l b := by
  obtain ⟨A, n, c, hbk, hnc, hl, hn, hr, hB⟩ := h
  refine ⟨A, n, c, ?_, hnc, hl, hn, ?_, hB⟩
  · have := hbk.set_ 1 (.bool b)
    simpa using this
  · rw [size_set]; exact hr.far (far_of hbk hr) _
theorem RF.cut {w : World} {M : Nat} {A A' : Option Addr} {n c c' k : Nat} {l : List Int} {bad : Bool} (hbk : Blk w M 43 #[.slice A n c, .bool bad]) (hl : l.length = n) (hn : n ≤ 140737488351232 + 4096) (hr : Reads w w.heap.size 1 A n (bts l)) (hB : isB l)
    (hc' : n - k ≤ c') (hcut : ∀ w', Reads w' w.heap.size 1 A n (bts l) → Reads w' w.heap.size 1 A' (n - k) (bts (l.drop k))) :
    RF (w.setCell ⟨M, 0, none⟩ (.slice A' (n - k) c')) M (l.drop k) bad := by
  refine ⟨A', n - k, c', ?_, hc', by simp; omega, by omega, ?_, isB_drop hB k⟩
  · have := hbk.set_ 0 (.slice A' (n - k) c')
    simpa using this
  · rw [size_set]
    exact hcut _ (hr.far (far_of hbk hr) _)
theorem RF.cut1 {w : World} {M : Nat} {A : Option Addr} {n c k : Nat} {l : List Int} {bad : Bool} (hbk : Blk w M 43 #[.slice A n c, .bool bad]) (hnc : n ≤ c) (hl : l.length = n) (hn : n ≤ 140737488355328) (hr : Reads w w.heap.size 1 A n (bts l)) (hB : isB l) (hk : k ≤ n) :
    RF (w.setCell ⟨M, 0, none⟩ (.slice (A.map fun x => x.add k) (n - k) (c - k))) M (l.drop k) bad := RF.cut hbk hl (by omega) hr hB (by omega) (fun w' h => h.cutA hk)
theorem RF.cut0 {w : World} {M : Nat} {A : Option Addr} {n c k : Nat} {l : List Int} {bad : Bool} (hbk : Blk w M 43 #[.slice A n c, .bool bad]) (hl : l.length = n) (hn : n ≤ 140737488355328) (hr : Reads w w.heap.size 1 A n (bts l)) (hB : isB l) (hk : n ≤ k) :
    RF (w.setCell ⟨M, 0, none⟩ (.slice A (n - k) 0)) M (l.drop k) bad := RF.cut hbk hl (by omega) hr hB (by omega) (fun w' h => h.cutZ hk)

theorem rnum_bad (M : Nat) (l : List Int) (w : World) (h : RF w M l true) :
    Calls Try.prog 21 #[.pointer (some ⟨M, 0, none⟩)] w fun e w' => e = .returned (.int .i64 0) ∧ w = w' := by
  obtain ⟨A, n, c, hbk, hnc, hl, hn, hr, hB⟩ := h
  have c1 : w.cell? ⟨M, 1, none⟩ = some (.bool true) := by rw [hbk.cell]; rfl
  clear hbk hr hB hl
  go_enter Try.func21, Try.ntmps21
  go_wp2
  go_ret
  exact ⟨rfl, rfl⟩

def rnL (l : List Int) : List Int := if (tkv l).2 = 0 then l else l.drop (tkv l).2
def rnB (l : List Int) : Bool := if (tkv l).2 = 0 then true else false

set_option maxHeartbeats 800000 in
theorem rnum_ok (M : Nat) (l : List Int) (w : World) (h : RF w M l false) :
    Calls Try.prog 21 #[.pointer (some ⟨M, 0, none⟩)] w fun e w' => e = .returned (.int .i64 (tkv l).1) ∧ RF w' M (rnL l) (rnB l) ∧ Only w w' M := by
  have hRF := h
  obtain ⟨A, n, c, hbk, hnc, hl, hn, hr, hB⟩ := h
  have c0 : w.cell? ⟨M, 0, none⟩ = some (.slice A n c) := by rw [hbk.cell]; rfl
  have c1 : w.cell? ⟨M, 1, none⟩ = some (.bool false) := by rw [hbk.cell]; rfl
  have f0 : w.frozen? ⟨M, 0, none⟩ = false := hbk.frozen 0
  have f1 : w.frozen? ⟨M, 1, none⟩ = false := hbk.frozen 1
  have HBK := Lib.hid hbk
  have HT := Lib.hid (reftake_any A n c l w w.heap.size hr hB (by omega))
  have HR := Lib.hid hr
  have HB := Lib.hid hB
  have HL := Lib.hid hl
  have HRF := Lib.hid hRF
  clear hbk hr hB hl hRF
  go_enter Try.func21, Try.ntmps21
  go_wp2_with fail
  refine HT.out.mono ?_
  rcases tkv_cases l HB.out with ht | ⟨y, k, ht, hy0, hy1, hk1, hk2, hk9, hyk⟩
  · have HN : Hid (rnL l = l ∧ rnB l = true) := by constructor <;> simp [rnL, rnB, ht]
    rw [ht]
    rintro e w1 ⟨rfl, rfl⟩
    go_wp2
    go_ret
    refine ⟨by rw [ht]; rfl, ?_, (Only.refl _ _).set _ _⟩
    rw [HN.out.1, HN.out.2]
    exact HRF.out.flag true
  · have HN : Hid (rnL l = l.drop k ∧ rnB l = false) := by constructor <;> simp [rnL, rnB, ht] <;> omega
    rw [ht]
    rintro e w1 ⟨rfl, rfl⟩
    have hk3 : k ≤ n := by rw [HL.out] at hk2; exact hk2
    have hk0 : ((k : Int) == 0) = false := beq_eq_false_iff_ne.2 (by omega)
    clear hyk hk2
    by_cases hck : c = k
    · subst hck
      go_wp2
      go_ret
      refine ⟨by rw [ht]; rfl, ?_, (Only.refl _ _).set _ _⟩
      rw [HN.out.1, HN.out.2]
      have t := RF.cut0 HBK.out HL.out hn HR.out HB.out hnc
      rw [show n - c = 0 by omega] at t
      exact t
    · go_wp2
      go_ret
      refine ⟨by rw [ht]; rfl, ?_, (Only.refl _ _).set _ _⟩
      rw [HN.out.1, HN.out.2]
      exact RF.cut1 HBK.out hnc HL.out hn HR.out HB.out hk3

def rpL (l : List Int) (x : Int) : List Int := if 0 ≤ x ∧ x ≤ (l.length : Int) then l.drop x.toNat else l
def rpB (l : List Int) (x : Int) : Bool := if 0 ≤ x ∧ x ≤ (l.length : Int) then false else true

theorem rbytes_bad (M : Nat) (l : List Int) (x : Int) (w : World) (h : RF w M l true) :
    Calls Try.prog 22 #[.pointer (some ⟨M, 0, none⟩), .int .i64 x] w fun e w' => e = .returned (.slice none 0 0) ∧ RF w' M l true ∧ Only w w' M := by
  have hRF := h
  obtain ⟨A, n, c, hbk, hnc, hl, hn, hr, hB⟩ := h
  have c1 : w.cell? ⟨M, 1, none⟩ = some (.bool true) := by rw [hbk.cell]; rfl
  have f1 : w.frozen? ⟨M, 1, none⟩ = false := hbk.frozen 1
  have HRF := Lib.hid hRF
  clear hbk hr hB hl hRF
  go_enter Try.func22, Try.ntmps22
  go_wp2
  go_ret
  exact ⟨rfl, HRF.out.flag true, (Only.refl _ _).set _ _⟩

set_option maxHeartbeats 1600000 in
theorem rbytes_ok (M : Nat) (l : List Int) (x : Int) (w : World) (h : RF w M l false) :
    Calls Try.prog 22 #[.pointer (some ⟨M, 0, none⟩), .int .i64 x] w fun e w' => ∃ v, e = .returned v ∧ ValB w' v (pcT l x) ∧ RF w' M (rpL l x) (rpB l x) ∧ Only w w' M := by
  have hRF := h
  obtain ⟨A, n, c, hbk, hnc, hl, hn, hr, hB⟩ := h
  have c0 : w.cell? ⟨M, 0, none⟩ = some (.slice A n c) := by rw [hbk.cell]; rfl
  have c1 : w.cell? ⟨M, 1, none⟩ = some (.bool false) := by rw [hbk.cell]; rfl
  have f0 : w.frozen? ⟨M, 0, none⟩ = false := hbk.frozen 0
  have f1 : w.frozen? ⟨M, 1, none⟩ = false := hbk.frozen 1
  have HBK := Lib.hid hbk
  have HR := Lib.hid hr
  have HB := Lib.hid hB
  have HL := Lib.hid hl
  have HRF := Lib.hid hRF
  clear hr hB hl hRF
  by_cases hx : 0 ≤ x ∧ x ≤ (n : Int)
  · have HP : Hid (pcT l x = l.take x.toNat ∧ rpL l x = l.drop x.toNat ∧ rpB l x = false) := by
      have hx' : 0 ≤ x ∧ x ≤ (l.length : Int) := by rw [HL.out]; exact hx
      unfold pcT rpL rpB
      rw [if_pos hx', if_pos hx', if_pos hx']; exact ⟨rfl, rfl, rfl⟩
    obtain ⟨hx0, hx1⟩ := hx
    obtain ⟨k, rfl⟩ := Int.eq_ofNat_of_zero_le hx0
    simp only [Int.toNat_natCast] at HP
    have hk : k ≤ n := by omega
    have hA0 := (hbk.alloc (.cells #[] 5)).cell 0
    have hA1 := hbk.lt
    simp only [List.getElem?_toArray, List.getElem?_cons_zero] at hA0
    clear hbk
    by_cases hck : c = k
    · obtain rfl : k = c := hck.symm
      go_enter Try.func22, Try.ntmps22
      go_wp2_with (at_builtin; refine appE w rfl (.tmp 26) (.tmp 32) rfl w.heap.size rfl w.heap.size A _ (l.take _) _ rfl (HR.out.take hk) (Nat.le_refl _) (by omega) (Nat.le_refl _) ?_; intro v2 w2 hown2 hb2; have d0 : w2.cell? ⟨M, 0, none⟩ = some (.slice A n _) := (hb2.cell (p := ⟨M, 0, none⟩) hA1).trans c0; have g0 : w2.frozen? ⟨M, 0, none⟩ = false := (hb2.frozen (p := ⟨M, 0, none⟩) hA1).trans f0)
      go_ret
      refine ⟨v2, rfl, ?_, ?_, (Only.of hb2 M).set _ _⟩
      · rw [HP.out.1]; exact hown2.val_far hA1 _
      · rw [HP.out.2.1, HP.out.2.2]
        have t := RF.cut0 (HBK.out.below hb2 hA1) HL.out hn ((HR.out.below hb2).more hb2.size) HB.out (by omega)
        rw [show n - k = 0 by omega] at t
        exact t
    · go_enter Try.func22, Try.ntmps22
      go_wp2_with (at_builtin; refine appE w rfl (.tmp 26) (.tmp 32) rfl w.heap.size rfl w.heap.size A c (l.take k) k rfl (HR.out.take hk) (Nat.le_refl _) (by omega) (Nat.le_refl _) ?_; intro v2 w2 hown2 hb2; have d0 : w2.cell? ⟨M, 0, none⟩ = some (.slice A n c) := (hb2.cell (p := ⟨M, 0, none⟩) hA1).trans c0; have g0 : w2.frozen? ⟨M, 0, none⟩ = false := (hb2.frozen (p := ⟨M, 0, none⟩) hA1).trans f0)
      go_ret
      refine ⟨v2, rfl, ?_, ?_, (Only.of hb2 M).set _ _⟩
      · rw [HP.out.1]; exact hown2.val_far hA1 _
      · rw [HP.out.2.1, HP.out.2.2]
        exact RF.cut1 (HBK.out.below hb2 hA1) hnc HL.out hn ((HR.out.below hb2).more hb2.size) HB.out hk
  · have HP : Hid (pcT l x = [] ∧ rpL l x = l ∧ rpB l x = true) := by
      have hx' : ¬ (0 ≤ x ∧ x ≤ (l.length : Int)) := by rw [HL.out]; exact hx
      unfold pcT rpL rpB
      rw [if_neg hx', if_neg hx', if_neg hx']; exact ⟨rfl, rfl, rfl⟩
    clear hbk
    by_cases hx0 : x < 0
    case' neg => have hx1 : (n : Int) < x := by omega
    all_goals
      clear hx
      go_enter Try.func22, Try.ntmps22
      go_wp2
      go_ret
      refine ⟨_, rfl, ?_, ?_, (Only.refl _ _).set _ _⟩
      · rw [HP.out.1]; exact ⟨none, 0, 0, rfl, Nat.le_refl _, rfl, Reads.none_⟩
      · rw [HP.out.2.1, HP.out.2.2]; exact HRF.out.flag true

theorem rleft_any (M : Nat) (l : List Int) (bad : Bool) (w : World) (h : RF w M l bad) :
    Calls Try.prog 26 #[.pointer (some ⟨M, 0, none⟩)] w fun e w' => e = .returned (.int .i64 ((if bad then [] else l).length : Nat)) ∧ w = w' := by
  obtain ⟨A, n, c, hbk, hnc, hl, hn, hr, hB⟩ := h
  have c0 : w.cell? ⟨M, 0, none⟩ = some (.slice A n c) := by rw [hbk.cell]; rfl
  have c1 : w.cell? ⟨M, 1, none⟩ = some (.bool bad) := by rw [hbk.cell]; rfl
  have HL := Lib.hid hl
  clear hbk hr hB hl
  cases bad
  all_goals
    go_enter Try.func26, Try.ntmps26
    go_wp2
    go_ret
    first | exact ⟨by simp [HL.out], rfl⟩ | exact ⟨rfl, rfl⟩
end Go.Proofs.Ytkgkiplidjoamaa.Pk
