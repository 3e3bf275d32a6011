/- The landed Good of package half. -/
import Derived.Test.YtiaafhcfeeekeaaZHfCodeA
import Derived.Test.YtiaafhcfeeekeaaZStMath
import Derived.Test.YtiaafhcfeeekeaaZTrCheck
import Derived.Test.YtiaafhcfeeekeaaZChSpecA
import Derived.Test.YtiaafhcfeeekeaaZChRef4
import Derived.Test.YtiaafhcfeeekeaaZTrMath
import Derived.Deep.RegionHeld3
import Derived.Deep.DeepMust
namespace Go.Proofs.Ytiaafhcfeeekeaa.Pk
open Go.RowKit
set_option linter.unusedVariables false
theorem allBe_takeP {o : List Mg} {k : Nat} {m : Mg} (h : allBe (o.take k)) (hm : o[k]? = some m) (hb : m.Be) : allBe (o.take (k + 1)) := by
  obtain ⟨h1, h2⟩ := List.getElem?_eq_some_iff.1 hm
  intro x hx
  rw [List.take_succ_eq_append_getElem h1, h2] at hx
  rcases List.mem_append.1 hx with hx | hx
  · exact h x hx
  · obtain rfl := List.mem_singleton.1 hx
    exact hb
set_option maxRecDepth 100000 in
set_option maxHeartbeats 4000000 in
theorem goodH : GoodH := by
  intro h A n c w hin
  obtain ⟨p, b, o, s⟩ := h
  have hlen : o.length = n := hin.len
  obtain ⟨hrd, hnc, hfew, ⟨⟨ip, jp⟩, ⟨ib, jb⟩, ⟨is_, js⟩, io⟩⟩ := hin
  simp only at ip jp ib jb is_ js io hrd
  have Ip := Lib.hid (And.intro ip jp)
  have Ib := Lib.hid (And.intro ib jb)
  have Is := Lib.hid (And.intro is_ js)
  have HI := Lib.hid io
  have HR := Lib.hid hrd
  have HL := Lib.hid hlen
  obtain ⟨r, hr⟩ : ∃ r, r = decide (Hf.Be ⟨p, b, o, s⟩) := ⟨_, rfl⟩
  rw [← hr]
  have HBe := Lib.hid hr
  clear hr io hrd hlen
  have HF : Hid ((¬ (0 ≤ p ∧ p ≤ 31) ∨ ¬ (0 ≤ b ∧ b ≤ 1099511627776) ∨ ¬ (0 ≤ s ∧ s ≤ 1099511627776) ∨ ¬ (n ≤ 1024 ∧ b + (n : Int) ≤ 1099511627776)) → r = false) := Lib.hid (fun h => by
    rw [HBe.out]
    refine decide_eq_false (fun hb => ?_)
    obtain ⟨g1, g2, g3, g4, g5, g6, g7, g8⟩ := hb
    simp only [HL.out] at g1 g2 g3 g4 g5 g6 g7
    omega)
  have HM : Hid (∀ m ∈ o, ¬ m.Be → r = false) := Lib.hid (fun m hm hn => by
    rw [HBe.out]
    exact decide_eq_false (fun hb => hn (hb.2.2.2.2.2.2.2 m hm)))
  have HT : Hid (0 ≤ p ∧ p ≤ 31 → 0 ≤ b ∧ b ≤ 1099511627776 → 0 ≤ s ∧ s ≤ 1099511627776 → n ≤ 1024 ∧ b + (n : Int) ≤ 1099511627776 → allBe o → r = true) := Lib.hid (fun h1 h2 h3 h4 h5 => by
    rw [HBe.out]
    exact decide_eq_true ⟨h1.1, h1.2, h2.1, h3.1, h3.2, by simp only [HL.out]; exact h4.1, by simp only [HL.out]; exact h4.2, h5⟩)
  show Calls Try.prog _ #[.agg #[.int .i64 p, .int .i64 b, .slice A n c, .int .i64 s]] w _
  by_cases h1 : 0 ≤ p ∧ p ≤ 31
  case neg =>
    obtain rfl := HF.out (.inl h1)
    clear HF HM HT HBe HI HR HL
    have HW := Lib.hid (fun w => withinH_f (h := 31) w Ip.out (by omega))
    clear h1
    go_enter Try.func51, Try.ntmps51
    go_wp2_with fail
    refine (HW.out _).mono ?_
    rintro e w2 ⟨rfl, hw⟩
    rw [hw]
    clear hw w2
    go_wp2
    go_ret
    exact ⟨rfl, (Below.refl _ w).alloc (Nat.le_refl _) _⟩
  by_cases h2 : 0 ≤ b ∧ b ≤ 1099511627776
  case neg =>
    obtain rfl := HF.out (.inr (.inl h2))
    clear HF HM HT HBe HI HR HL
    have HW := Lib.hid (fun w => withinH_t (h := 31) w Ip.out h1.1 h1.2)
    have HW2 := Lib.hid (fun w => withinH_f (h := 1099511627776) w Ib.out (by omega))
    clear h1 h2
    go_enter Try.func51, Try.ntmps51
    go_wp2_with fail
    refine (HW.out _).mono ?_
    rintro e w2 ⟨rfl, hw⟩
    rw [hw]
    clear hw w2
    go_wp2_with fail
    refine (HW2.out _).mono ?_
    rintro e w2 ⟨rfl, hw⟩
    rw [hw]
    clear hw w2
    go_wp2
    go_ret
    exact ⟨rfl, (Below.refl _ w).alloc (Nat.le_refl _) _⟩
  by_cases h3 : 0 ≤ s ∧ s ≤ 1099511627776
  case neg =>
    obtain rfl := HF.out (.inr (.inr (.inl h3)))
    clear HF HM HT HBe HI HR HL
    have HW := Lib.hid (fun w => withinH_t (h := 31) w Ip.out h1.1 h1.2)
    have HW2 := Lib.hid (fun w => withinH_t (h := 1099511627776) w Ib.out h2.1 h2.2)
    have HW3 := Lib.hid (fun w => withinH_f (h := 1099511627776) w Is.out (by omega))
    clear h1 h2 h3
    go_enter Try.func51, Try.ntmps51
    go_wp2_with fail
    refine (HW.out _).mono ?_
    rintro e w2 ⟨rfl, hw⟩
    rw [hw]
    clear hw w2
    go_wp2_with fail
    refine (HW2.out _).mono ?_
    rintro e w2 ⟨rfl, hw⟩
    rw [hw]
    clear hw w2
    go_wp2_with fail
    refine (HW3.out _).mono ?_
    rintro e w2 ⟨rfl, hw⟩
    rw [hw]
    clear hw w2
    go_wp2
    go_ret
    exact ⟨rfl, (Below.refl _ w).alloc (Nat.le_refl _) _⟩
  have HW := Lib.hid (fun w => withinH_t (h := 31) w Ip.out h1.1 h1.2)
  have HW2 := Lib.hid (fun w => withinH_t (h := 1099511627776) w Ib.out h2.1 h2.2)
  have HW3 := Lib.hid (fun w => withinH_t (h := 1099511627776) w Is.out h3.1 h3.2)
  have HRm := Lib.hid (fun w => room_any (p := p) (s := s) A n c w h2 hfew hnc)
  obtain ⟨M, hM⟩ : ∃ M, M = min 1024 (1099511627776 - b) - (n : Int) := ⟨_, rfl⟩
  rw [← hM] at HRm
  by_cases h4 : n ≤ 1024 ∧ b + (n : Int) ≤ 1099511627776
  case neg =>
    obtain rfl := HF.out (.inr (.inr (.inr h4)))
    have k1 : decide (M < 0) = true := decide_eq_true (by omega)
    clear HF HM HT HBe HI HR HL h1 h2 h3 h4 hM
    go_enter Try.func51, Try.ntmps51
    go_wp2_with fail
    refine (HW.out _).mono ?_
    rintro e w2 ⟨rfl, hw⟩
    rw [hw]
    clear hw w2
    go_wp2_with fail
    refine (HW2.out _).mono ?_
    rintro e w2 ⟨rfl, hw⟩
    rw [hw]
    clear hw w2
    go_wp2_with fail
    refine (HW3.out _).mono ?_
    rintro e w2 ⟨rfl, hw⟩
    rw [hw]
    clear hw w2
    go_wp2_with fail
    refine (HRm.out _).mono ?_
    rintro e w2 ⟨rfl, hb⟩
    have HB : Hid (Below w.heap.size w w2) := Lib.hid (((Below.refl _ w).alloc (Nat.le_refl _) _).trans (hb.mono (by simp)))
    clear hb
    go_wp2
    go_ret
    exact ⟨rfl, HB.out⟩
  have HTt := Lib.hid (HT.out h1 h2 h3 h4)
  have HS := Lib.hid h4
  have k1 : decide (M < 0) = false := decide_eq_false (by omega)
  have hn : n ≤ 1024 := h4.1
  clear HF HT HBe h1 h2 h3 h4 hM
  obtain ⟨x, hx⟩ : ∃ x, x = w.heap.size := ⟨_, rfl⟩
  have HX := Lib.hid hx
  clear hx
  go_enter Try.func51, Try.ntmps51
  go_wp2_with fail
  refine (HW.out _).mono ?_
  rintro e w2 ⟨rfl, hw⟩
  rw [hw]
  clear hw w2
  go_wp2_with fail
  refine (HW2.out _).mono ?_
  rintro e w2 ⟨rfl, hw⟩
  rw [hw]
  clear hw w2
  go_wp2_with fail
  refine (HW3.out _).mono ?_
  rintro e w2 ⟨rfl, hw⟩
  rw [hw]
  clear hw w2
  go_wp2_with fail
  refine (HRm.out _).mono ?_
  rintro e w2 ⟨rfl, hb⟩
  have hk : Blk w2 w.heap.size 50 #[.int .i64 p, .int .i64 b, .slice A n c, .int .i64 s] := (Blk.new w _ _).below hb (by simp)
  have HB : Hid (Below w.heap.size w w2) := Lib.hid (((Below.refl _ w).alloc (Nat.le_refl _) _).trans (hb.mono (by simp)))
  have c2 : w2.cell? ⟨w.heap.size, 2, none⟩ = some (.slice A n c) := hk.cell 2
  clear hb hk
  go_wp2
  clear c2
  go_loopw [4, 29] (fun _ i wr => ∃ k : Nat, i = .int .i64 k ∧ k ≤ n ∧ allBe (o.take k) ∧ Below w.heap.size w wr) (fun _ i _ => n - (intOf i).toNat)
  case atStart => exact ⟨0, rfl, by omega, fun m hm => by simp at hm, HB.out⟩
  case round =>
    obtain ⟨k, rfl, hk, hall, hbel⟩ := hrel
    obtain ⟨w3, rfl⟩ : ∃ w3 : World, w3 = wr := ⟨_, rfl⟩
    have HA := Lib.hid hall
    have HB3 := Lib.hid hbel
    clear hall hbel
    by_cases hlt : k < n
    · obtain ⟨b', off, rfl, _, hc⟩ := (HR.out.below HB3.out).mgs_ (by omega)
      obtain ⟨m, hm⟩ : ∃ m, o[k]? = some m := ⟨_, List.getElem?_eq_getElem (by rw [HL.out]; exact hlt)⟩
      obtain ⟨m0, m1, m2, m3, m4⟩ := hc k m hm
      have hmem := List.mem_of_getElem? hm
      have HVa := Lib.hid (fun w => validC m w (HI.out m hmem))
      have HMe := Lib.hid hm
      have HMm := Lib.hid hmem
      obtain ⟨mk, mo, mn, mu, mv⟩ := m
      simp only at m0 m1 m2 m3 m4
      clear hc hm hmem
      by_cases hbe : Mg.Be ⟨mk, mo, mn, mu, mv⟩
      · have HNx := Lib.hid (allBe_takeP HA.out HMe.out hbe)
        rw [decide_eq_true hbe] at HVa
        clear hbe
        go_wp2_with fail
        refine (HVa.out _).mono ?_
        rintro e w4 ⟨rfl, hb4⟩
        have HB4 : Hid (Below w.heap.size w w4) := Lib.hid ((HB3.out.alloc HB3.out.size _).trans (hb4.mono (by have := HB3.out.size; simp; omega)))
        clear hb4
        go_wp2
        go_roundw
        case rel => exact ⟨k + 1, by go_num, by omega, HNx.out, HB4.out⟩
        case measure => simp [intOf]; omega
      · have hrf := HM.out _ HMm.out hbe
        subst hrf
        rw [decide_eq_false hbe] at HVa
        clear hbe
        go_wp2_with fail
        refine (HVa.out _).mono ?_
        rintro e w4 ⟨rfl, hb4⟩
        have HB4 : Hid (Below w.heap.size w w4) := Lib.hid ((HB3.out.alloc HB3.out.size _).trans (hb4.mono (by have := HB3.out.size; simp; omega)))
        clear hb4
        go_wp2
        go_ret
        exact ⟨rfl, HB4.out⟩
    · have hrt := HTt.out (by have := HA.out; rwa [List.take_of_length_le (by rw [HL.out]; omega)] at this)
      subst hrt
      go_wp2
      go_ret
      exact ⟨rfl, HB3.out⟩
end Go.Proofs.Ytiaafhcfeeekeaa.Pk

/- The document's answers (fletchref14): Meant, Homes. -/
namespace Go.Proofs.Ytiaafhcfeeekeaa.Pk
open Go.RowKit
set_option linter.unusedVariables false























end Go.Proofs.Ytiaafhcfeeekeaa.Pk

/- The document's answers (fletchref14): Open. -/
namespace Go.Proofs.Ytiaafhcfeeekeaa.Pk
open Go.RowKit
set_option linter.unusedVariables false





























































end Go.Proofs.Ytiaafhcfeeekeaa.Pk

/- The document's Good of a side. -/
namespace Go.Proofs.Ytiaafhcfeeekeaa.Pk
open Go.RowKit
set_option linter.unusedVariables false
/-- The numbers of a side that can be. -/
def Head (p b s : Int) (n : Nat) : Prop := 0 ≤ p ∧ p ≤ 31 ∧ 0 ≤ b ∧ 0 ≤ s ∧ s ≤ 1099511627776 ∧ n ≤ 1024 ∧ b + (n : Int) ≤ 1099511627776
end Go.Proofs.Ytiaafhcfeeekeaa.Pk

/- The document's answers (fletchref14): Good. -/
namespace Go.Proofs.Ytiaafhcfeeekeaa.Pk
open Go.RowKit Go.Proofs.Ytiaafhcfeeekeaa.Gr
set_option linter.unusedVariables false
attribute [local go_sem] Oper.semAt_some
def akA (l : List Ak) (i : Nat) : Ak := l.getD i default
theorem akA_get {l : List Ak} {i : Nat} (h : i < l.length) : l[i]? = some (akA l i) := by
  unfold akA
  rw [List.getD_eq_getElem?_getD, List.getElem?_eq_getElem h]; rfl
def fdA (l : List Fnd) (i : Nat) : Fnd := l.getD i default
theorem fdA_get {l : List Fnd} {i : Nat} (h : i < l.length) : l[i]? = some (fdA l i) := by
  unfold fdA
  rw [List.getD_eq_getElem?_getD, List.getElem?_eq_getElem h]; rfl
def prevA (last : Int) (l : List Ak) : Nat → Int
  | 0 => last
  | i + 1 => (akA l i).n
theorem prevA_cons (last : Int) (a : Ak) (r : List Ak) (j : Nat) : prevA last (a :: r) (j + 1) = prevA a.n r j := by cases j <;> rfl
theorem asks_P (k q : Int) : ∀ (l : List Ak) (last : Int), AsksOk k q last l ↔ ∀ i, i < l.length → (0 ≤ (akA l i).o ∧ (akA l i).o < k) ∧ (prevA last l i < (akA l i).n ∧ (akA l i).n ≤ q)
  | [], last => ⟨fun _ i hi => absurd hi (Nat.not_lt_zero _), fun _ => trivial⟩
  | a :: r, last => by
    show (_ ∧ _ ∧ AsksOk k q a.n r) ↔ _
    rw [asks_P k q r a.n]
    constructor
    · rintro ⟨h1, h2, h3⟩ i hi
      cases i with
      | zero => exact ⟨h1, h2⟩
      | succ j =>
        rw [prevA_cons]
        exact h3 j (Nat.lt_of_succ_lt_succ hi)
    · intro h
      refine ⟨(h 0 (Nat.succ_pos _)).1, (h 0 (Nat.succ_pos _)).2, fun j hj => ?_⟩
      have h1 := h (j + 1) (Nat.succ_lt_succ hj)
      rw [prevA_cons] at h1
      exact h1
def AskOk (k q : Int) (l : List Ak) (i : Nat) : Prop := (0 ≤ (akA l i).o ∧ (akA l i).o < k) ∧ (1 ≤ (akA l i).n ∧ (akA l i).n ≤ q) ∧ (0 < i → (akA l (i - 1)).n < (akA l i).n)
theorem asks_iff (k q : Int) (l : List Ak) : AsksOk k q 0 l ↔ ∀ i, i < l.length → AskOk k q l i := by
  rw [asks_P]
  constructor
  · intro h
    have pos : ∀ i, i < l.length → 0 < (akA l i).n := by
      intro i
      induction i with
      | zero => intro hi; exact (h 0 hi).2.1
      | succ j ih => intro hi; have h1 := (h (j + 1) hi).2.1; have h2 := ih (by omega); simp only [prevA] at h1; omega
    intro i hi
    have h1 := h i hi
    have h2 := pos i hi
    refine ⟨h1.1, ⟨by omega, h1.2.2⟩, fun h0 => ?_⟩
    obtain ⟨j, rfl⟩ : ∃ j, i = j + 1 := ⟨i - 1, by omega⟩
    exact h1.2.1
  · intro h i hi
    have h1 := h i hi
    refine ⟨h1.1, ?_, h1.2.1.2⟩
    cases i with
    | zero => simp only [prevA]; have := h1.2.1.1; omega
    | succ j => exact h1.2.2 (Nat.succ_pos _)
theorem openK_len : ∀ l : List Ce, openK l ≤ l.length := by
  intro l
  unfold openK
  exact List.length_filter_le _ _
theorem sumK_le (b : Nat) : ∀ l : List Ow, (∀ o ∈ l, o.c.length ≤ b) → sumK l ≤ l.length * b
  | [], _ => by simp [sumK]
  | o :: r, h => by
    have h1 := sumK_le b r (fun x hx => h x (List.mem_cons_of_mem _ hx))
    have h2 := h o (List.mem_cons_self ..)
    have h3 := openK_len o.c
    simp only [sumK, List.length_cons, Nat.add_mul, Nat.one_mul]
    omega
theorem open_is (l : List OwL) (n : Nat) (hl : l.length = n) (hn : n ≤ 8) (h : ∀ x ∈ l, x.v.c.length ≤ 4398046511104) : openW (l.map (·.v)) = (sumK (l.map (·.v)) : Int) := by
  obtain ⟨b, hb⟩ : ∃ b : Nat, b = 4398046511104 := ⟨_, rfl⟩
  have h1 := sumK_le b (l.map (·.v)) (fun o ho => by
    obtain ⟨x, hx, rfl⟩ := List.mem_map.1 ho
    rw [hb]; exact h x hx)
  rw [List.length_map, hl] at h1
  have h2 : n * b ≤ 8 * b := Nat.mul_le_mul_right b hn
  unfold openW
  obtain ⟨k, hk⟩ : ∃ k : Nat, k = sumK (l.map (·.v)) := ⟨_, rfl⟩
  rw [← hk] at h1 ⊢
  have h3 : k ≤ 8 * b := Nat.le_trans h1 h2
  clear h1 h2 h hk
  unfold wrap64
  omega










































































































































































































































































































































































































































































































































































































































































































































































































































































































































end Go.Proofs.Ytiaafhcfeeekeaa.Pk

/- The landed goodEdges of package state. -/
namespace Go.Proofs.Ytiaafhcfeeekeaa.Pk
open Go.RowKit Go.Proofs.Ytiaafhcfeeekeaa.Gr
set_option linter.unusedVariables false
attribute [local go_sem] Oper.semAt_some
def EdgesOk (ps : List Int) (s : St) : Prop := s.es.map (·.p) = nbsI ps s.me ∧ ∀ e ∈ s.es, SideOk (ps.length : Int) (s.os.length : Int) e
theorem nbs_len32 {ps : List Int} (G : Gr.Good ps) (me : Int) : (nbsI ps me).length ≤ 32 := by
  unfold nbsI
  split
  · exact Nat.le_trans (nbs_len _ _ _) G.few
  · simp
set_option maxRecDepth 100000 in
set_option maxHeartbeats 16000000 in
theorem goodEdges_any (T g : Nat) (ps : List Int) (s : StL) (w : World) (htr : IsTr w T g ps) (G : Gr.Good ps) (hin : InS w s) :
    Calls Try.prog 27 #[.pointer (some ⟨T, 0, none⟩), s.val] w fun e w' => ∃ t, e = .returned (.bool t) ∧ (t = true ↔ EdgesOk ps s.v) ∧ Below w.heap.size w w' := by
  obtain ⟨t, ht⟩ := bool_of (EdgesOk ps s.v)
  have HTt := Lib.hid ht
  clear ht
  suffices hh : Calls Try.prog 27 #[.pointer (some ⟨T, 0, none⟩), s.val] w fun e w' => e = .returned (.bool t) ∧ Below w.heap.size w w' from hh.mono fun e w' h => ⟨t, h.1, HTt.out, h.2⟩
  have HI := Lib.hid hin
  have HT := Lib.hid htr
  have HG := Lib.hid G
  obtain ⟨me, os, ⟨A, n, c⟩, es, ⟨A', n', c'⟩, q, as_, ⟨Aa, na, ca⟩, gs, ⟨Ag, ng, cg⟩⟩ := s
  have L1 : Hid (os.length = n) := Lib.hid hin.os.len
  have L2 : Hid (es.length = n') := Lib.hid hin.es.len
  have L3 : Hid (as_.length = na) := Lib.hid hin.as_.len
  have L4 : Hid (gs.length = ng) := Lib.hid hin.gs.len
  have b1 : n * 40 ≤ 140737488351232 := hin.os.few
  have b2 : n' * 48 ≤ 140737488351232 := hin.es.few
  have b3 : na * 16 ≤ 140737488351232 := hin.as_.few
  have b4 : ng * 24 ≤ 140737488351232 := hin.gs.few
  have k1 : n ≤ c := hin.os.cap
  have k2 : n' ≤ c' := hin.es.cap
  have k3 : na ≤ ca := hin.as_.cap
  have k4 : ng ≤ cg := hin.gs.cap
  obtain ⟨nb, hnb⟩ : ∃ nb, nb = nbsI ps me := ⟨_, rfl⟩
  have HEq : Hid (t = true ↔ (es.map (·.v)).map (·.p) = nb ∧ ∀ e ∈ es, SideOk (ps.length : Int) (n : Int) e.v) := Lib.hid (by
    rw [HTt.out, hnb]
    have e1 : (os.map (·.v)).length = n := by rw [List.length_map, L1.out]
    unfold EdgesOk
    simp only [StL.v, e1]
    refine and_congr_right fun _ => ⟨fun h x hx => h x.v (List.mem_map.2 ⟨x, hx, rfl⟩), fun h e he => ?_⟩
    obtain ⟨x, hx, rfl⟩ := List.mem_map.1 he
    exact h x hx)
  have HF := Lib.hid (fun h => not_of HEq.out h)
  clear hin htr HTt
  show Calls Try.prog 27 #[.pointer (some ⟨T, 0, none⟩), .agg #[.int .i64 me, .slice A n c, .slice A' n' c', .int .i64 q, .slice Aa na ca, .slice Ag ng cg]] w _
  obtain ⟨p, hp⟩ : ∃ p, p = w.heap.size := ⟨_, rfl⟩
  obtain ⟨W1, hW1⟩ : ∃ W1, W1 = w.alloc (.cells #[.int .i64 me, .slice A n c, .slice A' n' c', .int .i64 q, .slice Aa na ca, .slice Ag ng cg] 28) := ⟨_, rfl⟩
  have HB1 : Hid (Below w.heap.size w W1) := Lib.hid (hW1 ▸ (Below.refl _ _).alloc (Nat.le_refl _) _)
  have HKp : Hid (Blk W1 p 28 #[.int .i64 me, .slice A n c, .slice A' n' c', .int .i64 q, .slice Aa na ca, .slice Ag ng cg]) := Lib.hid (by rw [hW1, hp]; exact Blk.new w _ _)
  have HNb := Lib.hid (nbrs_any T g ps me W1 (HT.out.below_ HB1.out) G.few)
  rw [← hnb] at HNb
  obtain ⟨m, hm⟩ : ∃ m, m = nb.length := ⟨_, rfl⟩
  have hm32 : m ≤ 32 := by rw [hm, hnb]; exact nbs_len32 G me
  have HM := Lib.hid hm
  have y0 := HKp.out.cell 0
  clear hnb G hm
  go_enter Try.func27, Try.ntmps27
  go_wp2_with fail
  rw [← hW1, ← hp]
  clear hW1 hp
  refine HNb.out.mono ?_
  rintro e V1 ⟨vn, rfl, hon, hb⟩
  obtain ⟨An, cn, rfl, hcn, hrn⟩ := hon.reads
  rw [← HM.out] at hcn hrn ⊢
  have HRn := Lib.hid hrn
  have HB2 : Hid (Below w.heap.size w V1) := Lib.hid (HB1.out.trans (hb.mono HB1.out.size))
  have HK1 := Lib.hid (HKp.out.below hb HKp.out.lt)
  clear hon hrn hb y0
  have y2 := HK1.out.cell 2
  by_cases hnm : n' = m
  case neg =>
    have hrf : t = false := HF.out (fun h => hnm (by
      have := congrArg List.length h.1
      simp only [List.length_map, L2.out, ← HM.out] at this
      exact this))
    have t0 : ((n' : Int) != (m : Int)) = true := by simp; omega
    clear hnm
    go_wp2_with fail
    go_ret
    exact ⟨by first | rfl | (rw [hrf]; rfl), HB2.out⟩
  have t0 : ((n' : Int) != (m : Int)) = false := by simp; omega
  have HNm := Lib.hid hnm
  clear hnm
  go_wp2_with fail
  go_loopw [23] (fun j wr => ∃ i : Nat, j = .int .i64 i ∧ i ≤ n' ∧ (∀ j, j < i → (sdA es j).v.p = nb.getD j 0 ∧ SideOk (ps.length : Int) (n : Int) (sdA es j).v) ∧ Below V1.heap.size V1 wr) (fun j _ => n' - (intOf j).toNat)
  case atStart => exact ⟨0, rfl, by omega, (fun j hj => by omega), Below.refl _ _⟩
  case round =>
    obtain ⟨i, rfl, hi, hal, hb⟩ := hrel
    obtain ⟨V0, rfl⟩ : ∃ V : World, V = wr := ⟨_, rfl⟩
    have HA := Lib.hid hal
    have HBV := Lib.hid hb
    have HBw : Hid (Below w.heap.size w V0) := Lib.hid (HB2.out.trans (hb.mono HB2.out.size))
    have HKV := Lib.hid (HK1.out.below hb HK1.out.lt)
    clear hal hb y2
    by_cases hlt : i < n'
    case neg =>
      have hrt : t = true := HEq.out.2 (by
        have hi2 : i = n' := by omega
        refine ⟨List.ext_getElem? fun j => ?_, fun x hx => ?_⟩
        · rcases Nat.lt_or_ge j n' with h1 | h1
          · have h2 := (HA.out j (by omega)).1
            have hj : j < es.length := by rw [L2.out]; exact h1
            have hj2 : j < nb.length := by rw [← HM.out, ← HNm.out]; exact h1
            rw [List.getElem?_map, List.getElem?_map, sdA_get hj, List.getElem?_eq_getElem hj2]
            rw [List.getD_eq_getElem?_getD, List.getElem?_eq_getElem hj2] at h2
            simpa using h2
          · rw [List.getElem?_eq_none (by simp [L2.out]; omega), List.getElem?_eq_none (by rw [← HM.out, ← HNm.out]; omega)]
        · obtain ⟨j, hj⟩ := List.getElem?_of_mem hx
          have hj1 := (List.getElem?_eq_some_iff.1 hj).1
          have h2 := (HA.out j (by rw [L2.out] at hj1; omega)).2
          have h3 := sdA_get hj1
          rw [hj] at h3
          injection h3 with h3
          rw [h3]; exact h2)
      go_wp2_with fail
      go_ret
      exact ⟨by first | rfl | (rw [hrt]; rfl), HBw.out⟩
    have hil : i < es.length := by rw [L2.out]; exact hlt
    have him : i < m := by have h1 := HNm.out; omega
    obtain ⟨b, off, rfl, hbw, hc⟩ := sdR.spots (HI.out.es.next HBw.out).rd (show 0 < n' by omega)
    have hg := sdA_get hil
    have HOk := Lib.hid (HI.out.e _ (List.mem_of_getElem? hg))
    obtain ⟨x1, hx1⟩ : ∃ r, r = sdA es i := ⟨_, rfl⟩
    rw [← hx1] at hg HOk
    have HMem := Lib.hid (List.mem_of_getElem? hg)
    obtain ⟨b2, off2, rfl, hbw2, hc2⟩ := (HRn.out.below HBV.out).i64 (by omega)
    have r0 := hc2 i him
    obtain ⟨z, hz⟩ : ∃ z, z = nb.getD i 0 := ⟨_, rfl⟩
    rw [← hz] at r0
    have HNo : Hid (¬ (x1.v.p = z ∧ SideOk (ps.length : Int) (n : Int) x1.v) → t = false) := Lib.hid (fun h => HF.out (fun g => h ⟨by
      have e1 : ((es.map (·.v)).map (·.p))[i]? = some x1.v.p := by rw [List.getElem?_map, List.getElem?_map, hg]; rfl
      have hn2 : i < nb.length := by rw [← HM.out]; exact him
      rw [g.1, List.getElem?_eq_getElem hn2] at e1
      injection e1 with e1
      rw [hz, List.getD_eq_getElem?_getD, List.getElem?_eq_getElem hn2, ← e1]; rfl, g.2 x1 HMem.out⟩))
    have HAn : Hid (x1.v.p = z → SideOk (ps.length : Int) (n : Int) x1.v → ∀ j, j < i + 1 → (sdA es j).v.p = nb.getD j 0 ∧ SideOk (ps.length : Int) (n : Int) (sdA es j).v) := Lib.hid (fun h h' j hj => by
      rcases Nat.lt_or_ge j i with h1 | h1
      · exact HA.out j h1
      · obtain rfl : j = i := by omega
        rw [← hx1, ← hz]; exact ⟨h, h'⟩)
    have m0 := hc i x1 hg 0 _ rfl
    have m1 := hc i x1 hg 1 _ rfl
    have m2 := hc i x1 hg 2 _ rfl
    have m3 := hc i x1 hg 3 _ rfl
    obtain ⟨⟨rp, rb, ro, rs⟩, ⟨A1, n1, c1⟩⟩ := x1
    simp only [sdR, Nat.add_zero, Sl.val, ← Nat.add_assoc] at m0 m1 m2 m3
    have hn1 : n1 * 40 ≤ 140737488351232 := HOk.out.o.few
    have HLr : Hid (ro.length = n1) := Lib.hid HOk.out.o.len
    obtain ⟨p2, hp2⟩ : ∃ x, x = V0.heap.size := ⟨_, rfl⟩
    obtain ⟨V2, hV2⟩ : ∃ V, V = V0.alloc (.cells #[.int .i64 rp, .int .i64 rb, .slice A1 n1 c1, .int .i64 rs] 50) := ⟨_, rfl⟩
    have HB02 : Hid (Below V0.heap.size V0 V2) := Lib.hid (hV2 ▸ (Below.refl _ _).alloc (Nat.le_refl _) _)
    have HB3 : Hid (Below V1.heap.size V1 V2) := Lib.hid (HBV.out.trans (HB02.out.mono HBV.out.size))
    have HKo : Hid (Blk V2 p2 50 #[.int .i64 rp, .int .i64 rb, .slice A1 n1 c1, .int .i64 rs]) := Lib.hid (by rw [hV2, hp2]; exact Blk.new V0 _ _)
    have HS : Hid (∀ W, Below V2.heap.size V2 W → W.cell? ⟨p2, 0, none⟩ = some (.int .i64 rp) ∧ W.cell? ⟨p2, 1, none⟩ = some (.int .i64 rb) ∧ W.cell? ⟨p2, 2, none⟩ = some (.slice A1 n1 c1) ∧ W.cell? ⟨p2, 3, none⟩ = some (.int .i64 rs) ∧ W.cell? ⟨b2, off2 + i, none⟩ = some (.int .i64 z)) := Lib.hid (fun W hW => by
      have h1 := HKo.out.below hW HKo.out.lt
      have q1 : b2 < V0.heap.size := Nat.lt_of_lt_of_le hbw2 HBV.out.size
      have q2 : Below V0.heap.size V0 W := HB02.out.trans (hW.mono HB02.out.size)
      exact ⟨h1.cell 0, h1.cell 1, h1.cell 2, h1.cell 3, (q2.cell (p := ⟨b2, off2 + i, none⟩) q1).trans r0⟩)
    have HBup : Hid (∀ {W : World}, Below V2.heap.size V2 W → Below w.heap.size w W) := Lib.hid (fun h => HB2.out.trans ((HB3.out.trans (h.mono HB3.out.size)).mono HB2.out.size))
    have hid1 : i < n' := hlt
    clear hc hc2 hg hx1 hbw hbw2 hil hz r0
    go_wp2_with fail
    rw [← hV2, ← hp2]
    clear hV2 hp2 m0 m1 m2 m3
    by_cases e1 : rp = z
    case neg =>
      have u1 : (rp != z) = true := by simp [e1]
      have hrf : t = false := HNo.out (fun h => e1 h.1)
      have z0 := fun k => (HS.out (V2.drewN k) (below_drewC (Below.refl _ _) k)).1
      have z1 := fun k => (HS.out (V2.drewN k) (below_drewC (Below.refl _ _) k)).2.1
      have z2 := fun k => (HS.out (V2.drewN k) (below_drewC (Below.refl _ _) k)).2.2.1
      have z3 := fun k => (HS.out (V2.drewN k) (below_drewC (Below.refl _ _) k)).2.2.2.1
      have z4 := fun k => (HS.out (V2.drewN k) (below_drewC (Below.refl _ _) k)).2.2.2.2
      clear e1
      go_quiet (fail)
      go_wp2_with fail
      go_ret
      exact ⟨by first | rfl | (rw [hrf]; rfl), HBup.out (below_drewC (Below.refl _ _) _)⟩
    have u1 : (rp != z) = false := by simp [e1]
    obtain ⟨be, hbe⟩ : ∃ be, be = decide ((⟨rp, rb, ro, rs⟩ : Hf).Be) := ⟨_, rfl⟩
    have HBe := Lib.hid hbe
    have HGd : Hid (∀ W, Below V2.heap.size V2 W → Calls Try.prog 51 #[.agg #[.int .i64 rp, .int .i64 rb, .slice A1 n1 c1, .int .i64 rs]] W fun e w' => e = .returned (.bool be) ∧ Below W.heap.size W w') := Lib.hid (fun W hW => by
      have h1 := HOk.out.next (HBup.out hW)
      refine (goodH ⟨rp, rb, ro, rs⟩ A1 n1 c1 W ⟨h1.o.rd, h1.o.cap, by omega, ⟨h1.p, h1.b, h1.s, h1.i⟩⟩).mono fun e w' h => ⟨by rw [h.1, hbe], h.2⟩)
    have HE1 := Lib.hid e1
    clear e1 hbe
    have X0 := HS.out V2 (Below.refl _ _)
    have X0d := HS.out V2.drew (below_drewC (Below.refl _ _) 1)
    cases be with
    | false =>
      go_region_held3 (fun W => W.cell? ⟨p2, 0, none⟩ = some (.int .i64 rp) ∧ W.cell? ⟨p2, 1, none⟩ = some (.int .i64 rb) ∧ W.cell? ⟨p2, 2, none⟩ = some (.slice A1 n1 c1) ∧ W.cell? ⟨p2, 3, none⟩ = some (.int .i64 rs) ∧ W.cell? ⟨b2, off2 + i, none⟩ = some (.int .i64 z)) (first | with_reducible exact X0 | with_reducible exact X0d | with_reducible exact X1 | go_keep) (first
        | (go_at_call 51; go_must (refine (HGd.out _ (below_drewC (Below.refl _ _) 1)).mono ?_; rintro e w4 ⟨rfl, hb4⟩; have HB4 : Hid (Below V2.heap.size V2 w4) := Lib.hid ((below_drewC (Below.refl _ _) 1).trans hb4); have X1 := HS.out w4 HB4.out; clear hb4)))
      clear X0 X0d X1
      have hrf : t = false := HNo.out (fun h => by have := HBe.out; rw [decide_eq_true h.2.1] at this; cases this)
      go_wp2_with fail
      go_ret
      exact ⟨by first | rfl | (rw [hrf]; rfl), HBup.out HB4.out⟩
    | true =>
    go_region_held3 (fun W => W.cell? ⟨p2, 0, none⟩ = some (.int .i64 rp) ∧ W.cell? ⟨p2, 1, none⟩ = some (.int .i64 rb) ∧ W.cell? ⟨p2, 2, none⟩ = some (.slice A1 n1 c1) ∧ W.cell? ⟨p2, 3, none⟩ = some (.int .i64 rs) ∧ W.cell? ⟨b2, off2 + i, none⟩ = some (.int .i64 z)) (first | with_reducible exact X0 | with_reducible exact X0d | with_reducible exact X1 | go_keep) (first
      | (go_at_call 51; go_must (refine (HGd.out _ (below_drewC (Below.refl _ _) 1)).mono ?_; rintro e w4 ⟨rfl, hb4⟩; have HB4 : Hid (Below V2.heap.size V2 w4) := Lib.hid ((below_drewC (Below.refl _ _) 1).trans hb4); have X1 := HS.out w4 HB4.out; clear hb4)))
    clear X0 X0d X1
    have HBt : Hid ((⟨rp, rb, ro, rs⟩ : Hf).Be) := Lib.hid (of_decide_eq_true HBe.out.symm)
    have x2 := (HS.out w4 HB4.out).2.2.1
    go_wp2_with fail
    go_loopw [43] (fun j wr => ∃ k : Nat, j = .int .i64 k ∧ k ≤ n1 ∧ (∀ x ∈ ro.take k, MeantS (ps.length : Int) (n : Int) x) ∧ Below w4.heap.size w4 wr) (fun j _ => n1 - (intOf j).toNat)
    case atStart => exact ⟨0, rfl, by omega, (fun x hx => by simp at hx), Below.refl _ _⟩
    case round =>
      obtain ⟨k, rfl, hk, hal2, hb5⟩ := hrel
      obtain ⟨U0, rfl⟩ : ∃ V : World, V = wr := ⟨_, rfl⟩
      have HA2 := Lib.hid hal2
      have HB24 : Hid (Below V2.heap.size V2 U0) := Lib.hid (HB4.out.trans (hb5.mono HB4.out.size))
      have HBw2 : Hid (Below w.heap.size w U0) := Lib.hid (HBup.out HB24.out)
      have HB1U : Hid (Below V1.heap.size V1 U0) := Lib.hid (HB3.out.trans (HB24.out.mono HB3.out.size))
      have HB4U := Lib.hid hb5
      clear hal2 hb5 x2
      by_cases hlt2 : k < n1
      case neg =>
        have HSd := Lib.hid (HAn.out HE1.out ⟨HBt.out, fun x hx => HA2.out x (by rw [List.take_of_length_le (by rw [HLr.out]; omega)]; exact hx)⟩)
        go_wp2_with fail
        go_roundw
        case rel => exact ⟨i + 1, by go_num, by omega, HSd.out, HB1U.out⟩
        case measure => simp [intOf]; omega
      have hkl : k < ro.length := by rw [HLr.out]; exact hlt2
      obtain ⟨b3, off3, rfl, hbw3, hc3⟩ := mgR.spots (HOk.out.next HBw2.out).o.rd (show 0 < n1 by omega)
      have hg3 : ro[k]? = some (ro.getD k default) := by rw [List.getD_eq_getElem?_getD, List.getElem?_eq_getElem hkl]; rfl
      obtain ⟨u3, hu3⟩ : ∃ r, r = ro.getD k default := ⟨_, rfl⟩
      rw [← hu3] at hg3
      have HG3 := Lib.hid hg3
      have HM3 := Lib.hid (List.mem_of_getElem? hg3)
      have f0 := hc3 k u3 hg3 0 _ rfl
      have f1 := hc3 k u3 hg3 1 _ rfl
      have f2 := hc3 k u3 hg3 2 _ rfl
      have f3 := hc3 k u3 hg3 3 _ rfl
      have f4 := hc3 k u3 hg3 4 _ rfl
      have HNx3 : Hid (MeantS (ps.length : Int) (n : Int) u3 → ∀ x ∈ ro.take (k + 1), MeantS (ps.length : Int) (n : Int) x) := Lib.hid (fun h x hx => by
        rw [List.take_add_one, HG3.out] at hx
        rcases List.mem_append.1 hx with hx | hx
        · exact HA2.out x hx
        · have := List.mem_singleton.1 (by simpa using hx)
          rw [this]; exact h)
      have HNo3 : Hid (¬ MeantS (ps.length : Int) (n : Int) u3 → t = false) := Lib.hid (fun h => HNo.out (fun g => h (g.2.2 u3 HM3.out)))
      obtain ⟨y, hy⟩ : ∃ y, y = decide (MeantS (ps.length : Int) (n : Int) u3) := ⟨_, rfl⟩
      have HY := Lib.hid hy
      obtain ⟨U1, hU1⟩ : ∃ V1, V1 = U0.alloc (.cells #[.int .i64 u3.k, .int .i64 u3.o, .int .i64 u3.n, .int .i64 u3.u, .int .i64 u3.v] 30) := ⟨_, rfl⟩
      have hbU1 : Below U0.heap.size U0 U1 := hU1 ▸ (Below.refl _ _).alloc (Nat.le_refl _) _
      have HBU1 : Hid (Below w.heap.size w U1) := Lib.hid (HBw2.out.trans (hbU1.mono HBw2.out.size))
      have HB4U1 : Hid (Below w4.heap.size w4 U1) := Lib.hid (HB4U.out.trans (hbU1.mono HB4U.out.size))
      have HMc := Lib.hid (meantS T g ps (n : Int) u3 U1 (HT.out.below_ HBU1.out) HG.out ⟨by omega, by omega⟩ (HOk.out.i u3 HM3.out))
      have o1 : U1.cell? ⟨p, 1, none⟩ = some (.slice A n c) := (HK1.out.below (HB1U.out.trans (hbU1.mono HB1U.out.size)) HK1.out.lt).cell 1
      rw [← hy] at HMc
      obtain ⟨xk, xo, xn, xu, xv⟩ := u3
      simp only [mgR, Nat.add_zero, ← Nat.add_assoc] at f0 f1 f2 f3 f4
      simp only [Mg.val] at HMc hU1
      rw [hU1] at o1
      have HU1 := Lib.hid hU1
      have hid2 : k < n1 := hlt2
      clear hc3 hg3 hu3 hbw3 hkl hbU1 hU1 hy
      go_wp2_with fail
      rw [← HU1.out]
      refine HMc.out.mono ?_
      rintro e U2 ⟨rfl, hbu2⟩
      have HBU2 : Hid (Below w.heap.size w U2) := Lib.hid (HBU1.out.trans (hbu2.mono HBU1.out.size))
      have HB4U2 : Hid (Below w4.heap.size w4 U2) := Lib.hid (HB4U1.out.trans (hbu2.mono HB4U1.out.size))
      clear hbu2 o1
      cases y with
      | false =>
        have hrf : t = false := HNo3.out (fun h => by have := HY.out; rw [decide_eq_true h] at this; cases this)
        go_wp2_with fail
        go_ret
        exact ⟨by first | rfl | (rw [hrf]; rfl), HBU2.out⟩
      | true =>
        have HN3 := Lib.hid (HNx3.out (of_decide_eq_true HY.out.symm))
        go_wp2_with fail
        go_roundw
        case rel => exact ⟨k + 1, by go_num, by omega, HN3.out, HB4U2.out⟩
        case measure => simp [intOf]; omega
end Go.Proofs.Ytiaafhcfeeekeaa.Pk
