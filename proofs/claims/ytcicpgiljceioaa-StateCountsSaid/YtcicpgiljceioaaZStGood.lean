/- The document's answers (fletchref14): Good. -/
import Derived.Test.YtcicpgiljceioaaZStMeant
import Derived.Test.YtcicpgiljceioaaZStCopyM
import Derived.Test.YtcicpgiljceioaaZChRef4
import Derived.Test.YtcicpgiljceioaaZGrNbs
import Derived.Deep.RegionHeld3
import Derived.Deep.DeepMust
namespace Go.Proofs.Ytcicpgiljceioaa.Pk
open Go.RowKit Go.Proofs.Ytcicpgiljceioaa.Gr
set_option linter.unusedVariables false
attribute [local go_sem] Oper.semAt_some
theorem no_t {t : Bool} {P : Prop} (h : t = true ↔ P) (hp : ¬ P) : t = false := by
  cases t
  · rfl
  · exact absurd (h.1 rfl) hp
theorem take_or {l : List Int} {i : Nat} {a z : Int} (h : i < l.length) (hz : z = l.getD i 0) : a ∈ l.take (i + 1) ↔ a ∈ l.take i ∨ z = a := by
  rw [hz, List.take_add_one, List.getD_eq_getElem?_getD, List.getElem?_eq_getElem h]
  constructor
  · intro h1
    rcases List.mem_append.1 h1 with h2 | h2
    · exact .inl h2
    · exact .inr (List.mem_singleton.1 h2).symm
  · rintro (h2 | h2)
    · exact List.mem_append_left _ h2
    · exact List.mem_append_right _ (List.mem_singleton.2 h2.symm)
def akA (l : List Ak) (i : Nat) : Ak := l.getD i default
theorem akA_get {l : List Ak} {i : Nat} (h : i < l.length) : l[i]? = some (akA l i) := by
  unfold akA
  rw [List.getD_eq_getElem?_getD, List.getElem?_eq_getElem h]; rfl
def fdA (l : List Fnd) (i : Nat) : Fnd := l.getD i default
theorem fdA_get {l : List Fnd} {i : Nat} (h : i < l.length) : l[i]? = some (fdA l i) := by
  unfold fdA
  rw [List.getD_eq_getElem?_getD, List.getElem?_eq_getElem h]; rfl
def prevA (last : Int) (l : List Ak) : Nat → Int
  | 0 => last
  | i + 1 => (akA l i).n
theorem prevA_cons (last : Int) (a : Ak) (r : List Ak) (j : Nat) : prevA last (a :: r) (j + 1) = prevA a.n r j := by cases j <;> rfl
theorem asks_P (k q : Int) : ∀ (l : List Ak) (last : Int), AsksOk k q last l ↔ ∀ i, i < l.length → (0 ≤ (akA l i).o ∧ (akA l i).o < k) ∧ (prevA last l i < (akA l i).n ∧ (akA l i).n ≤ q)
  | [], last => ⟨fun _ i hi => absurd hi (Nat.not_lt_zero _), fun _ => trivial⟩
  | a :: r, last => by
    show (_ ∧ _ ∧ AsksOk k q a.n r) ↔ _
    rw [asks_P k q r a.n]
    constructor
    · rintro ⟨h1, h2, h3⟩ i hi
      cases i with
      | zero => exact ⟨h1, h2⟩
      | succ j =>
        rw [prevA_cons]
        exact h3 j (Nat.lt_of_succ_lt_succ hi)
    · intro h
      refine ⟨(h 0 (Nat.succ_pos _)).1, (h 0 (Nat.succ_pos _)).2, fun j hj => ?_⟩
      have h1 := h (j + 1) (Nat.succ_lt_succ hj)
      rw [prevA_cons] at h1
      exact h1
def AskOk (k q : Int) (l : List Ak) (i : Nat) : Prop := (0 ≤ (akA l i).o ∧ (akA l i).o < k) ∧ (1 ≤ (akA l i).n ∧ (akA l i).n ≤ q) ∧ (0 < i → (akA l (i - 1)).n < (akA l i).n)
theorem asks_iff (k q : Int) (l : List Ak) : AsksOk k q 0 l ↔ ∀ i, i < l.length → AskOk k q l i := by
  rw [asks_P]
  constructor
  · intro h
    have pos : ∀ i, i < l.length → 0 < (akA l i).n := by
      intro i
      induction i with
      | zero => intro hi; exact (h 0 hi).2.1
      | succ j ih => intro hi; have h1 := (h (j + 1) hi).2.1; have h2 := ih (by omega); simp only [prevA] at h1; omega
    intro i hi
    have h1 := h i hi
    have h2 := pos i hi
    refine ⟨h1.1, ⟨by omega, h1.2.2⟩, fun h0 => ?_⟩
    obtain ⟨j, rfl⟩ : ∃ j, i = j + 1 := ⟨i - 1, by omega⟩
    exact h1.2.1
  · intro h i hi
    have h1 := h i hi
    refine ⟨h1.1, ?_, h1.2.1.2⟩
    cases i with
    | zero => simp only [prevA]; have := h1.2.1.1; omega
    | succ j => exact h1.2.2 (Nat.succ_pos _)
theorem openK_len : ∀ l : List Ce, openK l ≤ l.length := by
  intro l
  unfold openK
  exact List.length_filter_le _ _
theorem sumK_le (b : Nat) : ∀ l : List Ow, (∀ o ∈ l, o.c.length ≤ b) → sumK l ≤ l.length * b
  | [], _ => by simp [sumK]
  | o :: r, h => by
    have h1 := sumK_le b r (fun x hx => h x (List.mem_cons_of_mem _ hx))
    have h2 := h o (List.mem_cons_self ..)
    have h3 := openK_len o.c
    simp only [sumK, List.length_cons, Nat.add_mul, Nat.one_mul]
    omega
theorem open_is (l : List OwL) (n : Nat) (hl : l.length = n) (hn : n ≤ 8) (h : ∀ x ∈ l, x.v.c.length ≤ 4398046511104) : openW (l.map (·.v)) = (sumK (l.map (·.v)) : Int) := by
  obtain ⟨b, hb⟩ : ∃ b : Nat, b = 4398046511104 := ⟨_, rfl⟩
  have h1 := sumK_le b (l.map (·.v)) (fun o ho => by
    obtain ⟨x, hx, rfl⟩ := List.mem_map.1 ho
    rw [hb]; exact h x hx)
  rw [List.length_map, hl] at h1
  have h2 : n * b ≤ 8 * b := Nat.mul_le_mul_right b hn
  unfold openW
  obtain ⟨k, hk⟩ : ∃ k : Nat, k = sumK (l.map (·.v)) := ⟨_, rfl⟩
  rw [← hk] at h1 ⊢
  have h3 : k ≤ 8 * b := Nat.le_trans h1 h2
  clear h1 h2 h hk
  unfold wrap64
  omega
set_option maxRecDepth 100000 in
set_option maxHeartbeats 16000000 in
theorem refgoods_any (Ap : Option Addr) (np cp : Nat) (ps : List Int) (s : StL) (w : World) (hp : Reads w w.heap.size 1 Ap np (nms ps)) (G : Gr.Good ps) (hin : InS w s) :
    Calls Try.prog 19 #[.slice Ap np cp, s.val] w fun e w' => ∃ t, e = .returned (.bool t) ∧ (t = true ↔ GoodS ps s.v) ∧ Below w.heap.size w w' := by
  obtain ⟨t, ht⟩ : ∃ t : Bool, (t = true ↔ GoodS ps s.v) := by
    by_cases h : GoodS ps s.v
    · exact ⟨true, by simp [h]⟩
    · exact ⟨false, by simp [h]⟩
  have HT := Lib.hid ht
  clear ht
  suffices hh : Calls Try.prog 19 #[.slice Ap np cp, s.val] w fun e w' => e = .returned (.bool t) ∧ Below w.heap.size w w' from hh.mono fun e w' h => ⟨t, h.1, HT.out, h.2⟩
  have HI := Lib.hid hin
  have HP := Lib.hid hp
  have HLp : Hid (ps.length = np) := Lib.hid hp.plen
  have hnp : np ≤ 32 := by have h1 := HLp.out; have h2 := G.few; omega
  obtain ⟨me, os, ⟨A, n, c⟩, es, ⟨A', n', c'⟩, q, as_, ⟨Aa, na, ca⟩, gs, ⟨Ag, ng, cg⟩⟩ := s
  have L1 : Hid (os.length = n) := Lib.hid hin.os.len
  have L2 : Hid (es.length = n') := Lib.hid hin.es.len
  have L3 : Hid (as_.length = na) := Lib.hid hin.as_.len
  have L4 : Hid (gs.length = ng) := Lib.hid hin.gs.len
  have b1 : n * 40 ≤ 140737488351232 := hin.os.few
  have b2 : n' * 48 ≤ 140737488351232 := hin.es.few
  have b3 : na * 16 ≤ 140737488351232 := hin.as_.few
  have b4 : ng * 24 ≤ 140737488351232 := hin.gs.few
  have k1 : n ≤ c := hin.os.cap
  have k2 : n' ≤ c' := hin.es.cap
  have k3 : na ≤ ca := hin.as_.cap
  have k4 : ng ≤ cg := hin.gs.cap
  clear hin hp G
  have HF : Hid (¬ GoodS ps ⟨me, os.map (·.v), es.map (·.v), q, as_, gs⟩ → t = false) := Lib.hid (no_t HT.out)
  have Hme : Hid (¬ (0 ≤ me ∧ me < (np : Int)) → t = false) := Lib.hid (fun h => HF.out (fun g => h (by have := g.me; rw [HLp.out] at this; exact this)))
  have Hmany : Hid (¬ (1 ≤ n ∧ n ≤ 8) → t = false) := Lib.hid (fun h => HF.out (fun g => h (by have := g.many; rw [List.length_map, L1.out] at this; exact this)))
  show Calls Try.prog 19 #[.slice Ap np cp, .agg #[.int .i64 me, .slice A n c, .slice A' n' c', .int .i64 q, .slice Aa na ca, .slice Ag ng cg]] w _
  obtain ⟨p, hp⟩ : ∃ p, p = w.heap.size := ⟨_, rfl⟩
  obtain ⟨W1, hW1⟩ : ∃ W1, W1 = w.alloc (.cells #[.int .i64 me, .slice A n c, .slice A' n' c', .int .i64 q, .slice Aa na ca, .slice Ag ng cg] 30) := ⟨_, rfl⟩
  have HB1 : Hid (Below w.heap.size w W1) := Lib.hid (hW1 ▸ (Below.refl _ _).alloc (Nat.le_refl _) _)
  have HKp : Hid (Blk W1 p 30 #[.int .i64 me, .slice A n c, .slice A' n' c', .int .i64 q, .slice Aa na ca, .slice Ag ng cg]) := Lib.hid (by rw [hW1, hp]; exact Blk.new w _ _)
  by_cases g0 : me < 0
  case pos =>
    have t0 : decide (me < 0) = true := by simp; omega
    have hrf : t = false := Hme.out (by omega)
    clear g0
    go_enter Try.func19, Try.ntmps19
    go_wp2
    go_ret
    exact ⟨by first | rfl | (rw [hrf]; rfl), by rw [← hW1]; exact HB1.out⟩
  case neg =>
  by_cases g1 : (np : Int) ≤ me
  case pos =>
    have t0 : decide (me < 0) = false := by simp; omega
    have t1 : decide ((np : Int) ≤ me) = true := by simp; omega
    have hrf : t = false := Hme.out (by omega)
    clear g0 g1
    go_enter Try.func19, Try.ntmps19
    go_wp2
    go_ret
    exact ⟨by first | rfl | (rw [hrf]; rfl), by rw [← hW1]; exact HB1.out⟩
  case neg =>
  by_cases g2 : n < 1
  case pos =>
    have t0 : decide (me < 0) = false := by simp; omega
    have t1 : decide ((np : Int) ≤ me) = false := by simp; omega
    have t2 : decide ((n : Int) < 1) = true := by simp; omega
    have hrf : t = false := Hmany.out (by omega)
    clear g0 g1 g2
    go_enter Try.func19, Try.ntmps19
    go_wp2
    go_ret
    exact ⟨by first | rfl | (rw [hrf]; rfl), by rw [← hW1]; exact HB1.out⟩
  case neg =>
  by_cases g3 : 8 < n
  case pos =>
    have t0 : decide (me < 0) = false := by simp; omega
    have t1 : decide ((np : Int) ≤ me) = false := by simp; omega
    have t2 : decide ((n : Int) < 1) = false := by simp; omega
    have t3 : decide ((8 : Int) < n) = true := by simp; omega
    have hrf : t = false := Hmany.out (by omega)
    clear g0 g1 g2 g3
    go_enter Try.func19, Try.ntmps19
    go_wp2
    go_ret
    exact ⟨by first | rfl | (rw [hrf]; rfl), by rw [← hW1]; exact HB1.out⟩
  case neg =>
  have t0 : decide (me < 0) = false := by simp; omega
  have t1 : decide ((np : Int) ≤ me) = false := by simp; omega
  have t2 : decide ((n : Int) < 1) = false := by simp; omega
  have t3 : decide ((8 : Int) < n) = false := by simp; omega
  have HMe : Hid (0 ≤ me ∧ me < (np : Int)) := Lib.hid ⟨by omega, by omega⟩
  have HMany : Hid (1 ≤ n ∧ n ≤ 8) := Lib.hid ⟨by omega, by omega⟩
  have hn0 : 0 < n := by omega
  have hn8 : n ≤ 8 := by omega
  clear g0 g1 g2 g3
  have HNb := Lib.hid (fun W (hW : Below w.heap.size w W) => nbs_any Ap np cp ps me W w.heap.size (HP.out.below hW) hW.size (by omega))
  have y0 := HKp.out.cell 0
  have y1 := HKp.out.cell 1
  have y2 := HKp.out.cell 2
  go_enter Try.func19, Try.ntmps19
  go_wp2_with fail
  rw [← hW1, ← hp]
  clear hW1 hp
  refine (HNb.out W1 HB1.out).mono ?_
  rintro e V1 ⟨vn, rfl, hon, hb⟩
  have HB2 : Hid (Below w.heap.size w V1) := Lib.hid (HB1.out.trans (hb.mono HB1.out.size))
  have HKp1 := Lib.hid (HKp.out.below hb HKp.out.lt)
  obtain ⟨An, cn, rfl, hcn, hrn⟩ := hon.reads
  obtain ⟨nb, hnb⟩ : ∃ l, l = nbsI ps me := ⟨_, rfl⟩
  rw [← hnb] at hcn hrn ⊢
  have HNbs := Lib.hid hnb
  obtain ⟨m, hm⟩ : ∃ m, m = nb.length := ⟨_, rfl⟩
  rw [← hm] at hcn hrn ⊢
  have HM := Lib.hid hm
  have hm32 : m ≤ 32 := by
    rw [hm, hnb]
    unfold nbsI
    split
    · exact Nat.le_trans (nbs_len _ _ _) (by have h1 := HLp.out; omega)
    · simp
  have HRn := Lib.hid hrn
  clear hb hon hrn hnb hm
  clear y0 y1 y2 t0 t1 t2 t3
  have y0 := HKp1.out.cell 0
  have y1 := HKp1.out.cell 1
  have y2 := HKp1.out.cell 2
  go_wp2_with fail
  go_loopw [52] (fun j wr => ∃ i : Nat, j = .int .i64 i ∧ i ≤ n ∧ (∀ j, j < i → OwnOk ps me (owA os j).v) ∧ Below V1.heap.size V1 wr) (fun j _ => n - (intOf j).toNat)
  case atStart => exact ⟨0, rfl, by omega, (fun j hj => by omega), Below.refl _ _⟩
  case round =>
    obtain ⟨i, rfl, hi, hall, hb⟩ := hrel
    obtain ⟨V0, rfl⟩ : ∃ V : World, V = wr := ⟨_, rfl⟩
    have HA := Lib.hid hall
    have HBV := Lib.hid hb
    clear hall hb
    have HBw : Hid (Below w.heap.size w V0) := Lib.hid (HB2.out.trans (HBV.out.mono HB2.out.size))
    by_cases hlt : i < n
    case neg =>
      have HOs : Hid (∀ o ∈ os.map (·.v), OwnOk ps me o) := Lib.hid (fun o ho => by
        obtain ⟨x, hx, rfl⟩ := List.mem_map.1 ho
        obtain ⟨j, hj, e⟩ := List.getElem_of_mem hx
        have h1 := HA.out j (by rw [L1.out] at hj; omega)
        have h2 := owA_get hj
        rw [List.getElem?_eq_getElem hj, e] at h2
        injection h2 with h2
        rw [h2]; exact h1)
      clear HA y0 y1 y2
      have HKp0 := Lib.hid (HKp1.out.below HBV.out HKp1.out.lt)
      have y0 := HKp0.out.cell 0
      have y1 := HKp0.out.cell 1
      have y2 := HKp0.out.cell 2
      have y3 := HKp0.out.cell 3
      have y4 := HKp0.out.cell 4
      have y5 := HKp0.out.cell 5
      by_cases hnm : n' = m
      case neg =>
        have u1 : ((n' : Int) != (m : Int)) = true := by simp; omega
        have hrf : t = false := HF.out (fun g => hnm (by
          have h1 := congrArg List.length g.ps_
          rw [List.length_map, List.length_map, L2.out, show (⟨me, os.map (·.v), es.map (·.v), q, as_, gs⟩ : St).me = me from rfl, ← HNbs.out, ← HM.out] at h1
          exact h1))
        clear hnm
        go_wp2
        go_ret
        exact ⟨by first | rfl | (rw [hrf]; rfl), HBw.out⟩
      case pos =>
      have u1 : ((n' : Int) != (m : Int)) = false := by simp [hnm]
      have HNm : Hid (n' = m) := Lib.hid hnm
      clear hnm
      go_wp2_with fail
      go_loopw [126] (fun j wr => ∃ i : Nat, j = .int .i64 i ∧ i ≤ n' ∧ (∀ j, j < i → (sdA es j).v.p = nb.getD j 0 ∧ SideOk (np : Int) (n : Int) (sdA es j).v) ∧ Below V1.heap.size V1 wr) (fun j _ => n' - (intOf j).toNat)
      case atStart => exact ⟨0, rfl, by omega, (fun j hj => by omega), HBV.out⟩
      case round =>
        clear hi hlt y0 y1 y2 y3 y4 y5 HKp0
        obtain ⟨i, rfl, hi, hall, hb⟩ := hrel
        clear HBw HBV
        obtain ⟨V0, rfl⟩ : ∃ V : World, V = wr := ⟨_, rfl⟩
        have HA := Lib.hid hall
        have HBV := Lib.hid hb
        clear hall hb
        have HBw : Hid (Below w.heap.size w V0) := Lib.hid (HB2.out.trans (HBV.out.mono HB2.out.size))
        by_cases hlt : i < n'
        case neg =>
          have HPs : Hid ((es.map (·.v)).map (·.p) = nbsI ps me) := Lib.hid (by
            rw [← HNbs.out]
            apply List.ext_getElem?
            intro j
            rcases Nat.lt_or_ge j n' with h1 | h1
            · have h2 := (HA.out j (by omega)).1
              have h3 := sdA_get (l := es) (i := j) (by rw [L2.out]; exact h1)
              have h4 : j < nb.length := by rw [← HM.out, ← HNm.out]; exact h1
              rw [List.getElem?_map, List.getElem?_map, h3, List.getElem?_eq_getElem h4]
              show some (sdA es j).v.p = _
              rw [h2, List.getD_eq_getElem?_getD, List.getElem?_eq_getElem h4]; rfl
            · rw [List.getElem?_eq_none (by rw [List.length_map, List.length_map, L2.out]; exact h1), List.getElem?_eq_none (by rw [← HM.out, ← HNm.out]; exact h1)])
          have HEs : Hid (∀ e ∈ es.map (·.v), SideOk (np : Int) (n : Int) e) := Lib.hid (fun o ho => by
            obtain ⟨x, hx, rfl⟩ := List.mem_map.1 ho
            obtain ⟨j, hj, e⟩ := List.getElem_of_mem hx
            have h1 := (HA.out j (by rw [L2.out] at hj; omega)).2
            have h2 := sdA_get hj
            rw [List.getElem?_eq_getElem hj, e] at h2
            injection h2 with h2
            rw [h2]; exact h1)
          clear HA
          have HKp0 := Lib.hid (HKp1.out.below HBV.out HKp1.out.lt)
          have y0 := HKp0.out.cell 0
          have y1 := HKp0.out.cell 1
          have y2 := HKp0.out.cell 2
          have y3 := HKp0.out.cell 3
          have y4 := HKp0.out.cell 4
          have y5 := HKp0.out.cell 5
          have Hq : Hid (¬ (0 ≤ q ∧ q ≤ 1099511627776) → t = false) := Lib.hid (fun h => HF.out (fun g => h g.q))
          have Ha4 : Hid (¬ (na ≤ 4) → t = false) := Lib.hid (fun h => HF.out (fun g => h (by have h1 : as_.length ≤ 4 := g.an; rw [L3.out] at h1; exact h1)))
          have Hg4 : Hid (¬ (ng ≤ 4) → t = false) := Lib.hid (fun h => HF.out (fun g => h (by have h1 : gs.length ≤ 4 := g.gn; rw [L4.out] at h1; exact h1)))
          by_cases g0 : q < 0
          case pos =>
            have t0 : decide (q < 0) = true := by simp; omega
            have hrf : t = false := Hq.out (by omega)
            clear g0
            go_wp2
            go_ret
            exact ⟨by first | rfl | (rw [hrf]; rfl), HBw.out⟩
          case neg =>
          by_cases g1 : 1099511627776 < q
          case pos =>
            have t0 : decide (q < 0) = false := by simp; omega
            have t1 : decide ((1099511627776 : Int) < q) = true := by simp; omega
            have hrf : t = false := Hq.out (by omega)
            clear g0 g1
            go_wp2
            go_ret
            exact ⟨by first | rfl | (rw [hrf]; rfl), HBw.out⟩
          case neg =>
          by_cases g2 : 4 < na
          case pos =>
            have t0 : decide (q < 0) = false := by simp; omega
            have t1 : decide ((1099511627776 : Int) < q) = false := by simp; omega
            have t2 : decide ((4 : Int) < na) = true := by simp; omega
            have hrf : t = false := Ha4.out (by omega)
            clear g0 g1 g2
            go_wp2
            go_ret
            exact ⟨by first | rfl | (rw [hrf]; rfl), HBw.out⟩
          case neg =>
          by_cases g3 : 4 < ng
          case pos =>
            have t0 : decide (q < 0) = false := by simp; omega
            have t1 : decide ((1099511627776 : Int) < q) = false := by simp; omega
            have t2 : decide ((4 : Int) < na) = false := by simp; omega
            have t3 : decide ((4 : Int) < ng) = true := by simp; omega
            have hrf : t = false := Hg4.out (by omega)
            clear g0 g1 g2 g3
            go_wp2
            go_ret
            exact ⟨by first | rfl | (rw [hrf]; rfl), HBw.out⟩
          case neg =>
          have t0 : decide (q < 0) = false := by simp; omega
          have t1 : decide ((1099511627776 : Int) < q) = false := by simp; omega
          have t2 : decide ((4 : Int) < na) = false := by simp; omega
          have t3 : decide ((4 : Int) < ng) = false := by simp; omega
          have HQ : Hid (0 ≤ q ∧ q ≤ 1099511627776) := Lib.hid ⟨by omega, by omega⟩
          have HN4 : Hid (na ≤ 4 ∧ ng ≤ 4) := Lib.hid ⟨by omega, by omega⟩
          have hna : na ≤ 4 := by omega
          have hng : ng ≤ 4 := by omega
          clear g0 g1 g2 g3
          go_wp2_with fail
          go_loopw [180] (fun j wr => ∃ i : Nat, j = .int .i64 i ∧ i ≤ na ∧ (∀ j, j < i → AskOk (n : Int) q as_ j) ∧ Below V1.heap.size V1 wr) (fun j _ => na - (intOf j).toNat)
          case atStart => exact ⟨0, rfl, by omega, (fun j hj => by omega), HBV.out⟩
          case round =>
            clear hi hlt y0 y1 y2 y3 y4 y5 HKp0
            obtain ⟨i, rfl, hi, hall, hb⟩ := hrel
            clear HBw HBV
            obtain ⟨V0, rfl⟩ : ∃ V : World, V = wr := ⟨_, rfl⟩
            have HA := Lib.hid hall
            have HBV := Lib.hid hb
            clear hall hb
            have HBw : Hid (Below w.heap.size w V0) := Lib.hid (HB2.out.trans (HBV.out.mono HB2.out.size))
            by_cases hlt : i < na
            case neg =>
              have HAs : Hid (AsksOk (n : Int) q 0 as_) := Lib.hid ((asks_iff _ _ _).2 (fun j hj => HA.out j (by rw [L3.out] at hj; omega)))
              clear HA
              have HKp0 := Lib.hid (HKp1.out.below HBV.out HKp1.out.lt)
              have y5 := HKp0.out.cell 5
              go_wp2_with fail
              go_loopw [226] (fun j wr => ∃ i : Nat, j = .int .i64 i ∧ i ≤ ng ∧ (∀ j, j < i → GotOk (np : Int) (n : Int) q (fdA gs j)) ∧ Below V1.heap.size V1 wr) (fun j _ => ng - (intOf j).toNat)
              case atStart => exact ⟨0, rfl, by omega, (fun j hj => by omega), HBV.out⟩
              case round =>
                clear hi hlt y5 HKp0
                obtain ⟨i, rfl, hi, hall, hb⟩ := hrel
                clear HBw HBV
                obtain ⟨V0, rfl⟩ : ∃ V : World, V = wr := ⟨_, rfl⟩
                have HA := Lib.hid hall
                have HBV := Lib.hid hb
                clear hall hb
                have HBw : Hid (Below w.heap.size w V0) := Lib.hid (HB2.out.trans (HBV.out.mono HB2.out.size))
                by_cases hlt : i < ng
                case neg =>
                  have HGs : Hid (∀ f ∈ gs, GotOk (np : Int) (n : Int) q f) := Lib.hid (fun f hf => by
                    obtain ⟨j, hj, e⟩ := List.getElem_of_mem hf
                    have h1 := HA.out j (by rw [L4.out] at hj; omega)
                    have h2 := fdA_get hj
                    rw [List.getElem?_eq_getElem hj, e] at h2
                    injection h2 with h2
                    rw [h2]; exact h1)
                  have HKp0 := Lib.hid (HKp1.out.below HBV.out HKp1.out.lt)
                  have y0 := HKp0.out.cell 0
                  have y1 := HKp0.out.cell 1
                  have y2 := HKp0.out.cell 2
                  have y3 := HKp0.out.cell 3
                  have y4 := HKp0.out.cell 4
                  have y5 := HKp0.out.cell 5
                  have HOp := Lib.hid (refopens_any ⟨me, os, ⟨A, n, c⟩, es, ⟨A', n', c'⟩, q, as_, ⟨Aa, na, ca⟩, gs, ⟨Ag, ng, cg⟩⟩ V0 (HI.out.next HBw.out))
                  simp only [StL.val, Sl.val, StL.v] at HOp
                  have hop : openW (os.map (·.v)) = (sumK (os.map (·.v)) : Int) := open_is os n L1.out hn8 (fun x hx => by
                    have h2 := (HI.out.o x hx).c
                    have h3 : x.s.n * 32 ≤ 140737488351232 := h2.few
                    have h4 : x.v.c.length = x.s.n := h2.len
                    omega)
                  rw [hop] at HOp
                  clear hop
                  have HT9 : Hid (t = decide ((sumK (os.map (·.v)) : Int) ≤ 8)) := Lib.hid (by
                    rw [Bool.eq_iff_iff, decide_eq_true_iff]
                    refine HT.out.trans ⟨fun g => by have h1 : sumK (os.map (·.v)) ≤ 8 := g.few; omega, fun h => ?_⟩
                    refine ⟨by rw [HLp.out]; exact HMe.out, by show 1 ≤ (os.map (·.v)).length ∧ (os.map (·.v)).length ≤ 8; rw [List.length_map, L1.out]; exact HMany.out, HOs.out, HPs.out, by show ∀ e ∈ es.map (·.v), SideOk (ps.length : Int) ((os.map (·.v)).length : Int) e; rw [List.length_map, L1.out, HLp.out]; exact HEs.out, HQ.out, by show as_.length ≤ 4; rw [L3.out]; exact HN4.out.1, by show gs.length ≤ 4; rw [L4.out]; exact HN4.out.2, by show AsksOk ((os.map (·.v)).length : Int) q 0 as_; rw [List.length_map, L1.out]; exact HAs.out, by show ∀ f ∈ gs, GotOk (ps.length : Int) ((os.map (·.v)).length : Int) q f; rw [List.length_map, L1.out, HLp.out]; exact HGs.out, by show sumK (os.map (·.v)) ≤ 8; omega⟩)
                  obtain ⟨x, hx⟩ : ∃ x : Int, x = (sumK (os.map (·.v)) : Int) := ⟨_, rfl⟩
                  rw [← hx] at HOp HT9
                  clear hx HA
                  go_wp2_with fail
                  refine HOp.out.mono ?_
                  rintro e V9 ⟨rfl, hb9⟩
                  have HB9 := Lib.hid (HBw.out.trans (hb9.mono HBw.out.size))
                  clear hb9
                  go_wp2
                  go_ret
                  exact ⟨by rw [HT9.out]; rfl, HB9.out⟩
                case pos =>
                  have hil : i < gs.length := by rw [L4.out]; exact hlt
                  obtain ⟨b, off, rfl, hbw, hc⟩ := fdR.spots (HI.out.gs.next HBw.out).rd (show 0 < ng by omega)
                  have hg := fdA_get hil
                  obtain ⟨x1, hx1⟩ : ∃ r, r = fdA gs i := ⟨_, rfl⟩
                  rw [← hx1] at hg
                  have HNo : Hid (¬ GotOk (np : Int) (n : Int) q x1 → t = false) := Lib.hid (fun h => HF.out (fun g => h (by
                    have h1 : GotOk (ps.length : Int) ((os.map (·.v)).length : Int) q x1 := g.gs x1 (List.mem_of_getElem? hg)
                    rw [List.length_map, L1.out, HLp.out] at h1
                    exact h1)))
                  have HAn : Hid (GotOk (np : Int) (n : Int) q x1 → ∀ j, j < i + 1 → GotOk (np : Int) (n : Int) q (fdA gs j)) := Lib.hid (fun h j hj => by
                    rcases Nat.lt_or_ge j i with h1 | h1
                    · exact HA.out j h1
                    · obtain rfl : j = i := by omega
                      rw [← hx1]; exact h)
                  have m0 := hc i x1 hg 0 _ rfl
                  have m1 := hc i x1 hg 1 _ rfl
                  have m2 := hc i x1 hg 2 _ rfl
                  obtain ⟨ro, rn, rv⟩ := x1
                  unfold GotOk at HNo HAn
                  simp only at HNo HAn
                  simp only [fdR, Nat.add_zero, ← Nat.add_assoc] at m0 m1 m2
                  have HKp2 := Lib.hid (HKp1.out.below HBV.out HKp1.out.lt)
                  have z3 : V0.cell? ⟨p, 3, none⟩ = some (.int .i64 q) := HKp2.out.cell 3
                  have z3a : (V0.alloc (.cells #[.int .i64 ro, .int .i64 rn, .int .i64 rv] 62)).cell? ⟨p, 3, none⟩ = some (.int .i64 q) := (HKp2.out.alloc _).cell 3
                  have hid1 : i < ng := hlt
                  clear hc hg hx1 hbw hil
                  by_cases f0 : ro < 0
                  case pos =>
                    have v0 : decide (ro < 0) = true := decide_eq_true f0
                    have hrf : t = false := HNo.out (by omega)
                    clear f0
                    go_wp2
                    go_ret
                    exact ⟨by first | rfl | (rw [hrf]; rfl), HBw.out.alloc HBw.out.size _⟩
                  case neg =>
                  have v0 : decide (ro < 0) = false := decide_eq_false f0
                  by_cases f1 : (n : Int) ≤ ro
                  case pos =>
                    have v1 : decide ((n : Int) ≤ ro) = true := decide_eq_true f1
                    have hrf : t = false := HNo.out (by omega)
                    clear f0 f1
                    go_wp2
                    go_ret
                    exact ⟨by first | rfl | (rw [hrf]; rfl), HBw.out.alloc HBw.out.size _⟩
                  case neg =>
                  have v1 : decide ((n : Int) ≤ ro) = false := decide_eq_false f1
                  by_cases f2 : rn < 1
                  case pos =>
                    have v2 : decide (rn < 1) = true := decide_eq_true f2
                    have hrf : t = false := HNo.out (by omega)
                    clear f0 f1 f2
                    go_wp2
                    go_ret
                    exact ⟨by first | rfl | (rw [hrf]; rfl), HBw.out.alloc HBw.out.size _⟩
                  case neg =>
                  have v2 : decide (rn < 1) = false := decide_eq_false f2
                  by_cases f3 : q < rn
                  case pos =>
                    have v3 : decide (q < rn) = true := decide_eq_true f3
                    have hrf : t = false := HNo.out (by omega)
                    clear f0 f1 f2 f3
                    go_wp2
                    go_ret
                    exact ⟨by first | rfl | (rw [hrf]; rfl), HBw.out.alloc HBw.out.size _⟩
                  case neg =>
                  have v3 : decide (q < rn) = false := decide_eq_false f3
                  by_cases f4 : rv < 0
                  case pos =>
                    have v4 : decide (rv < 0) = true := decide_eq_true f4
                    have hrf : t = false := HNo.out (by omega)
                    clear f0 f1 f2 f3 f4
                    go_wp2
                    go_ret
                    exact ⟨by first | rfl | (rw [hrf]; rfl), HBw.out.alloc HBw.out.size _⟩
                  case neg =>
                  have v4 : decide (rv < 0) = false := decide_eq_false f4
                  by_cases f5 : (np : Int) ≤ rv
                  case pos =>
                    have v5 : decide ((np : Int) ≤ rv) = true := decide_eq_true f5
                    have hrf : t = false := HNo.out (by omega)
                    clear f0 f1 f2 f3 f4 f5
                    go_wp2
                    go_ret
                    exact ⟨by first | rfl | (rw [hrf]; rfl), HBw.out.alloc HBw.out.size _⟩
                  case neg =>
                  have v5 : decide ((np : Int) ≤ rv) = false := decide_eq_false f5
                  have HNx := Lib.hid (HAn.out (by omega))
                  clear f0 f1 f2 f3 f4 f5
                  go_wp2
                  go_roundw
                  case rel => exact ⟨i + 1, by go_num, by omega, HNx.out, HBV.out.alloc HBV.out.size _⟩
                  case measure => simp [intOf]; omega
            case pos =>
              have hil : i < as_.length := by rw [L3.out]; exact hlt
              obtain ⟨b, off, rfl, hbw, hc⟩ := akR.spots (HI.out.as_.next HBw.out).rd (show 0 < na by omega)
              have hg := akA_get hil
              obtain ⟨x1, hx1⟩ : ∃ r, r = akA as_ i := ⟨_, rfl⟩
              obtain ⟨pn, hpn⟩ : ∃ r, r = (akA as_ (i - 1)).n := ⟨_, rfl⟩
              rw [← hx1] at hg
              have HNo : Hid (¬ AskOk (n : Int) q as_ i → t = false) := Lib.hid (fun h => HF.out (fun g => h (by
                have h1 : AsksOk ((os.map (·.v)).length : Int) q 0 as_ := g.as_
                rw [List.length_map, L1.out] at h1
                exact (asks_iff _ _ _).1 h1 i hil)))
              have HAn : Hid (AskOk (n : Int) q as_ i → ∀ j, j < i + 1 → AskOk (n : Int) q as_ j) := Lib.hid (fun h j hj => by
                rcases Nat.lt_or_ge j i with h1 | h1
                · exact HA.out j h1
                · obtain rfl : j = i := by omega
                  exact h)
              have HIff : Hid (AskOk (n : Int) q as_ i ↔ (0 ≤ x1.o ∧ x1.o < (n : Int)) ∧ (1 ≤ x1.n ∧ x1.n ≤ q) ∧ (0 < i → pn < x1.n)) := Lib.hid (by unfold AskOk; rw [← hx1, ← hpn])
              have m0 := hc i x1 hg 0 _ rfl
              have m1 := hc i x1 hg 1 _ rfl
              have HPv : Hid (∀ j, i = j + 1 → V0.cell? ⟨b, off + j * 2 + 1, none⟩ = some (.int .i64 pn)) := Lib.hid (fun j e => by
                have h1 := hc j _ (akA_get (l := as_) (i := j) (by omega)) 1 _ rfl
                simp only [akR, ← Nat.add_assoc] at h1
                rw [hpn, e]; exact h1)
              obtain ⟨ro, rn⟩ := x1
              simp only at HIff
              simp only [akR, Nat.add_zero, ← Nat.add_assoc] at m0 m1
              obtain ⟨p2, hp2⟩ : ∃ x, x = V0.heap.size := ⟨_, rfl⟩
              obtain ⟨V2, hV2⟩ : ∃ V, V = V0.alloc (.cells #[.int .i64 ro, .int .i64 rn] 64) := ⟨_, rfl⟩
              have HB3 : Hid (Below V1.heap.size V1 V2) := Lib.hid (hV2 ▸ HBV.out.alloc HBV.out.size _)
              have HB02 : Hid (Below V0.heap.size V0 V2) := Lib.hid (hV2 ▸ (Below.refl _ _).alloc (Nat.le_refl _) _)
              have HB4 : Hid (Below w.heap.size w V2) := Lib.hid (HB2.out.trans (HB3.out.mono HB2.out.size))
              have HKo : Hid (Blk V2 p2 64 #[.int .i64 ro, .int .i64 rn]) := Lib.hid (by rw [hV2, hp2]; exact Blk.new V0 _ _)
              have HKp2 := Lib.hid (HKp1.out.below HB3.out HKp1.out.lt)
              have z0 : ∀ k, (V2.drewN k).cell? ⟨p2, 0, none⟩ = some (.int .i64 ro) := fun k => HKo.out.cell 0
              have z1 : ∀ k, (V2.drewN k).cell? ⟨p2, 1, none⟩ = some (.int .i64 rn) := fun k => HKo.out.cell 1
              have z3 : ∀ k, (V2.drewN k).cell? ⟨p, 3, none⟩ = some (.int .i64 q) := fun k => HKp2.out.cell 3
              have z4 : ∀ k, (V2.drewN k).cell? ⟨p, 4, none⟩ = some (.slice (some ⟨b, off, none⟩) na ca) := fun k => HKp2.out.cell 4
              have HPv2 : Hid (∀ j, i = j + 1 → ∀ k, (V2.drewN k).cell? ⟨b, off + j * 2 + 1, none⟩ = some (.int .i64 pn)) := Lib.hid (fun j e k => (HB02.out.cell (p := ⟨b, off + j * 2 + 1, none⟩) hbw).trans (HPv.out j e))
              have hid1 : i < na := hlt
              clear hc hg hx1 hbw hil hpn HPv
              go_wp2_with fail
              rw [← hV2, ← hp2]
              clear hV2 hp2 m0 m1
              by_cases f0 : ro < 0
              case pos =>
                have v0 : decide (ro < 0) = true := decide_eq_true f0
                have hrf : t = false := HNo.out (fun h => by have h1 := HIff.out.1 h; omega)
                clear f0
                go_quiet (fail)
                go_wp2
                go_ret
                exact ⟨by first | rfl | (rw [hrf]; rfl), below_drewC HB4.out _⟩
              case neg =>
              have v0 : decide (ro < 0) = false := decide_eq_false f0
              by_cases f1 : (n : Int) ≤ ro
              case pos =>
                have v1 : decide ((n : Int) ≤ ro) = true := decide_eq_true f1
                have hrf : t = false := HNo.out (fun h => by have h1 := HIff.out.1 h; omega)
                clear f0 f1
                go_quiet (fail)
                go_wp2
                go_ret
                exact ⟨by first | rfl | (rw [hrf]; rfl), below_drewC HB4.out _⟩
              case neg =>
              have v1 : decide ((n : Int) ≤ ro) = false := decide_eq_false f1
              by_cases f2 : rn < 1
              case pos =>
                have v2 : decide (rn < 1) = true := decide_eq_true f2
                have hrf : t = false := HNo.out (fun h => by have h1 := HIff.out.1 h; omega)
                clear f0 f1 f2
                go_quiet (fail)
                go_wp2
                go_ret
                exact ⟨by first | rfl | (rw [hrf]; rfl), below_drewC HB4.out _⟩
              case neg =>
              have v2 : decide (rn < 1) = false := decide_eq_false f2
              by_cases f3 : q < rn
              case pos =>
                have v3 : decide (q < rn) = true := decide_eq_true f3
                have hrf : t = false := HNo.out (fun h => by have h1 := HIff.out.1 h; omega)
                clear f0 f1 f2 f3
                go_quiet (fail)
                go_wp2
                go_ret
                exact ⟨by first | rfl | (rw [hrf]; rfl), below_drewC HB4.out _⟩
              case neg =>
              have v3 : decide (q < rn) = false := decide_eq_false f3
              have HG4 : Hid ((0 ≤ ro ∧ ro < (n : Int)) ∧ (1 ≤ rn ∧ rn ≤ q)) := Lib.hid ⟨⟨by omega, by omega⟩, by omega, by omega⟩
              clear f0 f1 f2 f3
              by_cases hi0 : i = 0
              case pos =>
                have s1 : decide (0 < i) = false := by simp [hi0]
                have HNx := Lib.hid (HAn.out (HIff.out.2 ⟨HG4.out.1, HG4.out.2, fun h => by omega⟩))
                clear hi0
                go_quiet (fail)
                go_wp2
                go_roundw
                case rel => exact ⟨i + 1, by go_num, by omega, HNx.out, below_drewC HB3.out _⟩
                case measure => simp [intOf]; omega
              case neg =>
              obtain ⟨j, hj⟩ : ∃ j, i = j + 1 := ⟨i - 1, by omega⟩
              have s1 : decide (0 < i) = true := by simp; omega
              have hw1 : IntKind.i64.wrap ((i : Int) - 1) = (j : Int) := by rw [IntWalk.i64_in _ (by omega)]; omega
              have cp := HPv2.out j hj
              have hjn : (j : Int) < (na : Int) := by omega
              clear hj
              by_cases g5 : rn ≤ pn
              case pos =>
                have v5 : decide (rn ≤ pn) = true := decide_eq_true g5
                have hrf : t = false := HNo.out (fun h => by have h1 := (HIff.out.1 h).2.2 (by omega); omega)
                clear hi0 g5
                go_quiet (fail)
                go_wp2
                go_ret
                exact ⟨by first | rfl | (rw [hrf]; rfl), below_drewC HB4.out _⟩
              case neg =>
              have v5 : decide (rn ≤ pn) = false := decide_eq_false g5
              have HNx := Lib.hid (HAn.out (HIff.out.2 ⟨HG4.out.1, HG4.out.2, fun h => by omega⟩))
              clear hi0 g5
              go_quiet (fail)
              go_wp2
              go_roundw
              case rel => exact ⟨i + 1, by go_num, by omega, HNx.out, below_drewC HB3.out _⟩
              case measure => simp [intOf]; omega
        case pos =>
          have hil : i < es.length := by rw [L2.out]; exact hlt
          have him : i < m := by have h1 := HNm.out; omega
          obtain ⟨b, off, rfl, hbw, hc⟩ := sdR.spots (HI.out.es.next HBw.out).rd (show 0 < n' by omega)
          have hg := sdA_get hil
          have HOk := Lib.hid (HI.out.e _ (List.mem_of_getElem? hg))
          obtain ⟨x1, hx1⟩ : ∃ r, r = sdA es i := ⟨_, rfl⟩
          rw [← hx1] at hg HOk
          obtain ⟨b2, off2, rfl, hbw2, hc2⟩ := (HRn.out.below HBV.out).i64 (by omega)
          have r0 := hc2 i him
          obtain ⟨z, hz⟩ : ∃ z, z = nb.getD i 0 := ⟨_, rfl⟩
          rw [← hz] at r0
          have HG2 : Hid (nb[i]? = some z) := Lib.hid (by
            have h : i < nb.length := by rw [← HM.out]; exact him
            rw [hz, List.getD_eq_getElem?_getD, List.getElem?_eq_getElem h]; rfl)
          have HNo : Hid (¬ (x1.v.p = z ∧ SideOk (np : Int) (n : Int) x1.v) → t = false) := Lib.hid (fun h => HF.out (fun g => h ⟨by
              have e1 : ((es.map (·.v)).map (·.p))[i]? = some x1.v.p := by rw [List.getElem?_map, List.getElem?_map, hg]; rfl
              have e2 : (es.map (·.v)).map (·.p) = nbsI ps me := g.ps_
              rw [e2, ← HNbs.out, HG2.out] at e1
              injection e1 with e1
              exact e1.symm, by
              have h1 : SideOk (ps.length : Int) ((os.map (·.v)).length : Int) x1.v := g.es x1.v (List.mem_map.2 ⟨x1, List.mem_of_getElem? hg, rfl⟩)
              rw [HLp.out, List.length_map, L1.out] at h1
              exact h1⟩))
          have HAn : Hid (x1.v.p = z → SideOk (np : Int) (n : Int) x1.v → ∀ j, j < i + 1 → (sdA es j).v.p = nb.getD j 0 ∧ SideOk (np : Int) (n : Int) (sdA es j).v) := Lib.hid (fun h h' j hj => by
            rcases Nat.lt_or_ge j i with h1 | h1
            · exact HA.out j h1
            · obtain rfl : j = i := by omega
              rw [← hx1, ← hz]; exact ⟨h, h'⟩)
          have m0 := hc i x1 hg 0 _ rfl
          have m1 := hc i x1 hg 1 _ rfl
          have m2 := hc i x1 hg 2 _ rfl
          have m3 := hc i x1 hg 3 _ rfl
          obtain ⟨⟨rp, rb, ro, rs⟩, ⟨A1, n1, c1⟩⟩ := x1
          simp only [sdR, Nat.add_zero, Sl.val, ← Nat.add_assoc] at m0 m1 m2 m3
          have hn1 : n1 * 40 ≤ 140737488351232 := HOk.out.o.few
          have HIh : Hid (∀ W, Below V0.heap.size V0 W → InH W ⟨rp, rb, ro, rs⟩ A1 n1 c1) := Lib.hid (fun W hW => by
            have h1 := HOk.out.next (HBw.out.trans (hW.mono HBw.out.size))
            exact ⟨h1.o.rd, h1.o.cap, by omega, ⟨h1.p, h1.b, h1.s, h1.i⟩⟩)
          obtain ⟨p2, hp2⟩ : ∃ x, x = V0.heap.size := ⟨_, rfl⟩
          obtain ⟨V2, hV2⟩ : ∃ V, V = V0.alloc (.cells #[.int .i64 rp, .int .i64 rb, .slice A1 n1 c1, .int .i64 rs] 60) := ⟨_, rfl⟩
          have HB3 : Hid (Below V1.heap.size V1 V2) := Lib.hid (hV2 ▸ HBV.out.alloc HBV.out.size _)
          have HB02 : Hid (Below V0.heap.size V0 V2) := Lib.hid (hV2 ▸ (Below.refl _ _).alloc (Nat.le_refl _) _)
          have HKo : Hid (Blk V2 p2 60 #[.int .i64 rp, .int .i64 rb, .slice A1 n1 c1, .int .i64 rs]) := Lib.hid (by rw [hV2, hp2]; exact Blk.new V0 _ _)
          have HS : Hid (∀ W, Below V2.heap.size V2 W → W.cell? ⟨p2, 0, none⟩ = some (.int .i64 rp) ∧ W.cell? ⟨p2, 1, none⟩ = some (.int .i64 rb) ∧ W.cell? ⟨p2, 2, none⟩ = some (.slice A1 n1 c1) ∧ W.cell? ⟨p2, 3, none⟩ = some (.int .i64 rs) ∧ W.cell? ⟨b2, off2 + i, none⟩ = some (.int .i64 z)) := Lib.hid (fun W hW => by
            have h1 := HKo.out.below hW HKo.out.lt
            have q1 : b2 < V0.heap.size := Nat.lt_of_lt_of_le hbw2 HBV.out.size
            have q2 : Below V0.heap.size V0 W := HB02.out.trans (hW.mono HB02.out.size)
            exact ⟨h1.cell 0, h1.cell 1, h1.cell 2, h1.cell 3, (q2.cell (p := ⟨b2, off2 + i, none⟩) q1).trans r0⟩)
          have HBup : ∀ {W : World}, Below V2.heap.size V2 W → Below w.heap.size w W := fun h => HB2.out.trans ((HB3.out.trans (h.mono HB3.out.size)).mono HB2.out.size)
          have hid1 : i < n' := hlt
          clear hc hc2 hg hx1 hbw hbw2 hil hz r0
          go_wp2_with fail
          rw [← hV2, ← hp2]
          clear hV2 hp2 m0 m1 m2 m3
          by_cases e1 : rp = z
          case neg =>
            have u1 : (rp != z) = true := by simp [e1]
            have hrf : t = false := HNo.out (fun h => e1 h.1)
            have z0 := fun k => (HS.out (V2.drewN k) (below_drewC (Below.refl _ _) k)).1
            have z1 := fun k => (HS.out (V2.drewN k) (below_drewC (Below.refl _ _) k)).2.1
            have z2 := fun k => (HS.out (V2.drewN k) (below_drewC (Below.refl _ _) k)).2.2.1
            have z3 := fun k => (HS.out (V2.drewN k) (below_drewC (Below.refl _ _) k)).2.2.2.1
            have z4 := fun k => (HS.out (V2.drewN k) (below_drewC (Below.refl _ _) k)).2.2.2.2
            clear e1
            go_quiet (fail)
            go_wp2
            go_ret
            exact ⟨by first | rfl | (rw [hrf]; rfl), below_drewC (HBup (Below.refl _ _)) _⟩
          case pos =>
          have u1 : (rp != z) = false := by simp [e1]
          obtain ⟨gg, hgg⟩ : ∃ g, g = decide (Hf.Be ⟨rp, rb, ro, rs⟩) := ⟨_, rfl⟩
          have HC : Hid (∀ W, Below V2.heap.size V2 W → Calls Try.prog 42 #[.agg #[.int .i64 rp, .int .i64 rb, .slice A1 n1 c1, .int .i64 rs]] W fun e w' => e = .returned (.bool gg) ∧ Below W.heap.size W w') := Lib.hid (fun W hW => by
            rw [hgg]
            exact (refgood_any ⟨rp, rb, ro, rs⟩ A1 n1 c1 W (HIh.out W (HB02.out.trans (hW.mono HB02.out.size)))).mono fun e w' h => ⟨h.1, h.2⟩)
          have HGg := Lib.hid hgg
          have HE1 := Lib.hid e1
          clear hgg e1
          have X0 := HS.out V2 (Below.refl _ _)
          have X0d := HS.out V2.drew (below_drewC (Below.refl _ _) 1)
          cases gg
          case false =>
            have hrf : t = false := HNo.out (fun h => by have h1 := of_decide_eq_false HGg.out.symm; exact h1 h.2.1)
            clear HGg
            go_region_held3 (fun W => W.cell? ⟨p2, 0, none⟩ = some (.int .i64 rp) ∧ W.cell? ⟨p2, 1, none⟩ = some (.int .i64 rb) ∧ W.cell? ⟨p2, 2, none⟩ = some (.slice A1 n1 c1) ∧ W.cell? ⟨p2, 3, none⟩ = some (.int .i64 rs) ∧ W.cell? ⟨b2, off2 + i, none⟩ = some (.int .i64 z)) (first | with_reducible exact X0 | with_reducible exact X0d | with_reducible exact X1 | go_keep) (first
              | (go_at_call 42; go_must (refine (HC.out _ (below_drewC (Below.refl _ _) 1)).mono ?_; rintro e w5 ⟨rfl, hb5⟩; have HB5 : Hid (Below V2.heap.size V2 w5) := Lib.hid ((below_drewC (Below.refl _ _) 1).trans hb5); have X1 := HS.out w5 HB5.out; clear hb5)))
            all_goals
              go_wp2
              go_ret
              exact ⟨by first | rfl | (rw [hrf]; rfl), HBup HB5.out⟩
          case true =>
            have HGk : Hid (Hf.Be ⟨rp, rb, ro, rs⟩) := Lib.hid (of_decide_eq_true HGg.out.symm)
            clear HGg
            go_region_held3 (fun W => W.cell? ⟨p2, 0, none⟩ = some (.int .i64 rp) ∧ W.cell? ⟨p2, 1, none⟩ = some (.int .i64 rb) ∧ W.cell? ⟨p2, 2, none⟩ = some (.slice A1 n1 c1) ∧ W.cell? ⟨p2, 3, none⟩ = some (.int .i64 rs) ∧ W.cell? ⟨b2, off2 + i, none⟩ = some (.int .i64 z)) (first | with_reducible exact X0 | with_reducible exact X0d | with_reducible exact X1 | go_keep) (first
              | (go_at_call 42; go_must (refine (HC.out _ (below_drewC (Below.refl _ _) 1)).mono ?_; rintro e w5 ⟨rfl, hb5⟩; have HB5 : Hid (Below V2.heap.size V2 w5) := Lib.hid ((below_drewC (Below.refl _ _) 1).trans hb5); have X1 := HS.out w5 HB5.out; clear hb5)))
            all_goals
              have zz := (HS.out w5 HB5.out).2.2.1
              go_wp2_with fail
              go_loopw [146] (fun j wr => ∃ k : Nat, j = .int .i64 k ∧ k ≤ n1 ∧ (∀ r ∈ ro.take k, MeantS (np : Int) (n : Int) r) ∧ Below V2.heap.size V2 wr) (fun j _ => n1 - (intOf j).toNat)
              case atStart => exact ⟨0, rfl, by omega, (fun r hr => by simp at hr), HB5.out⟩
              case round =>
                obtain ⟨k, rfl, hk, hall, hb⟩ := hrel
                obtain ⟨V6, rfl⟩ : ∃ V : World, V = wr := ⟨_, rfl⟩
                have HCs := Lib.hid hall
                have HB6 := Lib.hid hb
                clear hall hb zz
                have HIk := Lib.hid (HIh.out V6 (HB02.out.trans (HB6.out.mono HB02.out.size)))
                have HLo : Hid (ro.length = n1) := Lib.hid HIk.out.len
                by_cases hlk : k < n1
                case pos =>
                  obtain ⟨b8, off8, rfl, _, hc8⟩ := HIk.out.rd.mgs_ (by omega)
                  obtain ⟨r, hr⟩ : ∃ r, ro[k]? = some r := ⟨_, List.getElem?_eq_getElem (by rw [HLo.out]; exact hlk)⟩
                  obtain ⟨c0, c1, c2, c3, c4⟩ := hc8 k r hr
                  have HNc : Hid (¬ MeantS (np : Int) (n : Int) r → t = false) := Lib.hid (fun h => HNo.out (fun g => h (g.2.2 r (List.mem_of_getElem? hr))))
                  have HNx : Hid (MeantS (np : Int) (n : Int) r → ∀ x ∈ ro.take (k + 1), MeantS (np : Int) (n : Int) x) := Lib.hid (fun h x hx => by
                    rw [List.take_add_one, hr] at hx
                    rcases List.mem_append.1 hx with hx | hx
                    · exact HCs.out x hx
                    · rw [List.mem_singleton.1 hx]; exact h)
                  obtain ⟨bb, hbb⟩ : ∃ x, x = decide (MeantS (np : Int) (n : Int) r) := ⟨_, rfl⟩
                  have HV := Lib.hid (fun W => refmeant_any (np : Int) (n : Int) r W)
                  rw [← hbb] at HV
                  have HBb := Lib.hid hbb
                  clear hc8 hr hbb
                  obtain ⟨rk, rq, rn, ru, rv⟩ := r
                  unfold Mg.val at HV
                  simp only at c0 c1 c2 c3 c4 HV
                  go_wp2_with fail
                  have HB7 : Hid (Below V2.heap.size V2 (V6.alloc (.cells #[.int .i64 rk, .int .i64 rq, .int .i64 rn, .int .i64 ru, .int .i64 rv] 45))) := Lib.hid (HB6.out.alloc HB6.out.size _)
                  refine (HV.out _).mono ?_
                  rintro e V8 ⟨rfl, hb8⟩
                  have HB8 := Lib.hid (HB7.out.trans (hb8.mono HB7.out.size))
                  clear hb8
                  cases bb
                  case false =>
                    have hrf : t = false := HNc.out (of_decide_eq_false HBb.out.symm)
                    clear HBb
                    go_wp2
                    go_ret
                    exact ⟨by first | rfl | (rw [hrf]; rfl), HBup HB8.out⟩
                  case true =>
                    have HNy := Lib.hid (HNx.out (of_decide_eq_true HBb.out.symm))
                    clear HBb
                    go_wp2
                    go_roundw
                    case rel => exact ⟨k + 1, by go_num, by omega, HNy.out, HB8.out⟩
                    case measure => simp [intOf]; omega
                case neg =>
                  have HNx := Lib.hid (HAn.out HE1.out ⟨HGk.out, fun r hr => HCs.out r (by rw [List.take_of_length_le (by rw [HLo.out]; omega)]; exact hr)⟩)
                  go_wp2
                  go_roundw
                  case rel => exact ⟨i + 1, by go_num, by omega, HNx.out, HB3.out.trans (HB6.out.mono HB3.out.size)⟩
                  case measure => simp [intOf]; omega
    case pos =>
      have hil : i < os.length := by rw [L1.out]; exact hlt
      obtain ⟨b, off, rfl, hbw, hc⟩ := owR.spots (HI.out.os.next HBw.out).rd (show 0 < n by omega)
      have hg := owA_get hil
      have HOk := Lib.hid (HI.out.o _ (List.mem_of_getElem? hg))
      obtain ⟨x1, hx1⟩ : ∃ r, r = owA os i := ⟨_, rfl⟩
      rw [← hx1] at hg HOk
      have HNo : Hid (¬ OwnOk ps me x1.v → t = false) := Lib.hid (fun h => HF.out (fun g => h (g.os _ (List.mem_map.2 ⟨x1, List.mem_of_getElem? hg, rfl⟩))))
      have HAn : Hid (OwnOk ps me x1.v → ∀ j, j < i + 1 → OwnOk ps me (owA os j).v) := Lib.hid (fun h j hj => by
        rcases Nat.lt_or_ge j i with h1 | h1
        · exact HA.out j h1
        · obtain rfl : j = i := by omega
          rw [← hx1]; exact h)
      have m0 := hc i x1 hg 0 _ rfl
      have m1 := hc i x1 hg 1 _ rfl
      have m2 := hc i x1 hg 2 _ rfl
      obtain ⟨⟨ra, rm, rc⟩, ⟨A1, n1, c1⟩⟩ := x1
      simp only [owR, Nat.add_zero, Sl.val, ← Nat.add_assoc] at m0 m1 m2
      have hn1 : n1 * 32 ≤ 140737488351232 := HOk.out.c.few
      have HRc : Hid (∀ W, Below V0.heap.size V0 W → InK W rc A1 n1 c1) := Lib.hid (fun W hW => (HOk.out.next (HBw.out.trans (hW.mono HBw.out.size))).c.inK HOk.out.i)
      have HKp0 := Lib.hid (HKp1.out.below HBV.out HKp1.out.lt)
      have x0 : V0.cell? ⟨p, 0, none⟩ = some (.int .i64 me) := HKp0.out.cell 0
      have x0a : (V0.alloc (.cells #[.int .i64 ra, .int .i64 rm, .slice A1 n1 c1] 55)).cell? ⟨p, 0, none⟩ = some (.int .i64 me) := (HKp0.out.alloc _).cell 0
      obtain ⟨p2, hp2⟩ : ∃ x, x = V0.heap.size := ⟨_, rfl⟩
      obtain ⟨V2, hV2⟩ : ∃ V, V = V0.alloc (.cells #[.int .i64 ra, .int .i64 rm, .slice A1 n1 c1] 55) := ⟨_, rfl⟩
      have HB3 : Hid (Below V1.heap.size V1 V2) := Lib.hid (hV2 ▸ HBV.out.alloc HBV.out.size _)
      have HB02 : Hid (Below V0.heap.size V0 V2) := Lib.hid (hV2 ▸ (Below.refl _ _).alloc (Nat.le_refl _) _)
      have HKo : Hid (Blk V2 p2 55 #[.int .i64 ra, .int .i64 rm, .slice A1 n1 c1]) := Lib.hid (by rw [hV2, hp2]; exact Blk.new V0 _ _)
      have HS : Hid (∀ W, Below V2.heap.size V2 W → W.cell? ⟨p2, 0, none⟩ = some (.int .i64 ra) ∧ W.cell? ⟨p2, 1, none⟩ = some (.int .i64 rm) ∧ W.cell? ⟨p2, 2, none⟩ = some (.slice A1 n1 c1) ∧ W.cell? ⟨p, 0, none⟩ = some (.int .i64 me)) := Lib.hid (fun W hW => by
        have h1 := HKo.out.below hW HKo.out.lt
        have h2 := HKp1.out.below (HB3.out.trans (hW.mono HB3.out.size)) HKp1.out.lt
        exact ⟨h1.cell 0, h1.cell 1, h1.cell 2, h2.cell 0⟩)
      have HBup : ∀ {W : World}, Below V2.heap.size V2 W → Below w.heap.size w W := fun h => HB2.out.trans ((HB3.out.trans (h.mono HB3.out.size)).mono HB2.out.size)
      have hid1 : i < n := hlt
      clear hc hg hx1 hbw hil
      go_wp2_with fail
      rw [← hV2, ← hp2]
      clear hV2 hp2 m0 m1 m2 x0 x0a
      go_loopw [10, 63] (fun v j wr => ∃ (k : Nat) (bb : Bool), j = .int .i64 k ∧ v = .bool bb ∧ k ≤ m ∧ (bb = true ↔ (ra = me ∨ ra ∈ nb.take k)) ∧ Below V2.heap.size V2 wr) (fun _ j _ => m - (intOf j).toNat)
      case atStart => exact ⟨0, (ra == me), rfl, rfl, by omega, by simp, Below.refl _ _⟩
      case round =>
        obtain ⟨k, bb, rfl, rfl, hk, hbb, hb⟩ := hrel
        obtain ⟨V3, rfl⟩ : ∃ V : World, V = wr := ⟨_, rfl⟩
        have HBb := Lib.hid hbb
        have HB4 := Lib.hid hb
        clear hbb hb
        by_cases hlk : k < m
        case pos =>
          have hkl : k < nb.length := by rw [← HM.out]; exact hlk
          obtain ⟨b2, off2, rfl, hbw2, hc2⟩ := (HRn.out.below (HB3.out.trans (HB4.out.mono HB3.out.size))).i64 (by omega)
          have r0 := hc2 k hlk
          obtain ⟨z, hz⟩ : ∃ z, z = nb.getD k 0 := ⟨_, rfl⟩
          rw [← hz] at r0
          have HTk := Lib.hid (take_or (a := ra) hkl hz)
          have x0 := (HS.out V3 HB4.out).1
          clear hc2 hz hbw2 hkl
          by_cases hzr : z = ra
          case pos =>
            have u : (z == ra) = true := by simp [hzr]
            have HN : Hid (true = true ↔ (ra = me ∨ ra ∈ nb.take (k + 1))) := Lib.hid ⟨fun _ => .inr (HTk.out.2 (.inr hzr)), fun _ => rfl⟩
            clear hzr
            go_wp2
            go_roundw
            case rel => exact ⟨k + 1, true, by go_num, rfl, by omega, HN.out, HB4.out⟩
            case measure => simp [intOf]; omega
          case neg =>
            have u : (z == ra) = false := by simp [hzr]
            have HN : Hid (bb = true ↔ (ra = me ∨ ra ∈ nb.take (k + 1))) := Lib.hid (HBb.out.trans ⟨fun h => h.elim .inl (fun h => .inr (HTk.out.2 (.inl h))), fun h => h.elim .inl (fun h => (HTk.out.1 h).elim .inr (fun h => absurd h hzr))⟩)
            clear hzr
            go_wp2
            go_roundw
            case rel => exact ⟨k + 1, bb, by go_num, rfl, by omega, HN.out, HB4.out⟩
            case measure => simp [intOf]; omega
        case neg =>
          have HBk : Hid (bb = true ↔ (ra = me ∨ ra ∈ nbsI ps me)) := Lib.hid (by have h := HBb.out; rwa [List.take_of_length_le (by rw [← HM.out]; omega), HNbs.out] at h)
          clear HBb
          obtain ⟨z0, z1, z2, z3⟩ := HS.out V3 HB4.out
          cases bb
          case false =>
            have hrf : t = false := HNo.out (fun h => by have h1 := HBk.out.2 h.1; cases h1)
            go_wp2
            go_ret
            exact ⟨by first | rfl | (rw [hrf]; rfl), (HBup HB4.out)⟩
          case true =>
          have HNear : Hid (ra = me ∨ ra ∈ nbsI ps me) := Lib.hid (HBk.out.1 rfl)
          clear HBk
          by_cases e1 : rm < 0
          case pos =>
            have u1 : decide (rm < 0) = true := decide_eq_true e1
            have hrf : t = false := HNo.out (fun h => by have h1 := h.2.1.1; simp only at h1; omega)
            clear e1
            go_wp2
            go_ret
            exact ⟨by first | rfl | (rw [hrf]; rfl), (HBup HB4.out)⟩
          case neg =>
          have u1 : decide (rm < 0) = false := decide_eq_false e1
          by_cases e2 : 1099511627776 < rm
          case pos =>
            have u2 : decide ((1099511627776 : Int) < rm) = true := decide_eq_true e2
            have hrf : t = false := HNo.out (fun h => by have h1 := h.2.1.2; simp only at h1; omega)
            clear e1 e2
            go_wp2
            go_ret
            exact ⟨by first | rfl | (rw [hrf]; rfl), (HBup HB4.out)⟩
          case neg =>
          have u2 : decide ((1099511627776 : Int) < rm) = false := decide_eq_false e2
          have HMd : Hid (0 ≤ rm ∧ rm ≤ 1099511627776) := Lib.hid ⟨by omega, by omega⟩
          clear e1 e2
          obtain ⟨gg, hgg⟩ : ∃ g, g = decide (GoodK rc me (ra == me)) := ⟨_, rfl⟩
          have HC : Hid (∀ W, Below V3.heap.size V3 W → Calls Try.prog 41 #[.slice A1 n1 c1, .int .i64 me, .bool (ra == me)] W fun e w' => e = .returned (.bool gg) ∧ Below W.heap.size W w') := Lib.hid (fun W hW => by
            rw [hgg]
            exact (refgoodk_any A1 n1 c1 rc me (ra == me) W (HRc.out W (HB02.out.trans ((HB4.out.trans (hW.mono HB4.out.size)).mono HB02.out.size)))).mono fun e w' h => ⟨h.1, h.2⟩)
          have HGg := Lib.hid hgg
          clear hgg
          cases gg
          case false =>
            have hrf : t = false := HNo.out (fun h => by have h1 := of_decide_eq_false HGg.out.symm; exact h1 h.2.2.1)
            clear HGg
            go_wp2_with fail
            refine (HC.out V3 (Below.refl _ _)).mono ?_
            rintro e V5 ⟨rfl, hb5⟩
            have HB5 : Hid (Below V2.heap.size V2 V5) := Lib.hid (HB4.out.trans (hb5.mono HB4.out.size))
            clear hb5 z0 z1 z2 z3
            obtain ⟨z0, z1, z2, z3⟩ := HS.out V5 HB5.out
            go_wp2
            go_ret
            exact ⟨by first | rfl | (rw [hrf]; rfl), HBup HB5.out⟩
          case true =>
            have HGk : Hid (GoodK rc me (decide (ra = me))) := Lib.hid (of_decide_eq_true HGg.out.symm)
            clear HGg
            go_wp2_with fail
            refine (HC.out V3 (Below.refl _ _)).mono ?_
            rintro e V5 ⟨rfl, hb5⟩
            have HB5 : Hid (Below V2.heap.size V2 V5) := Lib.hid (HB4.out.trans (hb5.mono HB4.out.size))
            clear hb5 z0 z1 z2 z3
            obtain ⟨z0, z1, z2, z3⟩ := HS.out V5 HB5.out
            go_wp2_with fail
            go_loopw [100] (fun j wr => ∃ k : Nat, j = .int .i64 k ∧ k ≤ n1 ∧ (∀ j, j < k → (ceA rc j).n ≤ rm ∧ (ceA rc j).d < (np : Int)) ∧ Below V2.heap.size V2 wr) (fun j _ => n1 - (intOf j).toNat)
            case atStart => exact ⟨0, rfl, by omega, (fun j hj => by omega), HB5.out⟩
            case round =>
              obtain ⟨k, rfl, hk, hall, hb⟩ := hrel
              obtain ⟨V6, rfl⟩ : ∃ V : World, V = wr := ⟨_, rfl⟩
              have HCs := Lib.hid hall
              have HB6 := Lib.hid hb
              clear hall hb z0 z1 z2 z3
              have HIk := Lib.hid (HRc.out V6 (HB02.out.trans (HB6.out.mono HB02.out.size)))
              by_cases hlk : k < n1
              case pos =>
                obtain ⟨b8, off8, rfl, _, hc8⟩ := HIk.out.rd.ces_ (by omega)
                have hcl : k < rc.length := by rw [HIk.out.len]; exact hlk
                have hcg := hc8 k _ (ceA_get hcl)
                have hmem : ceA rc k ∈ rc := List.mem_of_getElem? (ceA_get hcl)
                obtain ⟨r, hr⟩ : ∃ r, r = ceA rc k := ⟨_, rfl⟩
                rw [← hr] at hcg hmem
                have HRk := Lib.hid hr
                have HNc : Hid (¬ (r.n ≤ rm ∧ r.d < (np : Int)) → t = false) := Lib.hid (fun h => HNo.out (fun g => h (by have h1 := g.2.2.2 r hmem; rw [HLp.out] at h1; exact h1)))
                obtain ⟨rn, rs, rd, rx⟩ := r
                simp only at hcg HNc
                obtain ⟨m0, m1, m2, m3⟩ := hcg
                have z1 := (HS.out V6 HB6.out).2.1
                have z1a := (HS.out (V6.alloc (.cells #[.int .i64 rn, .int .i64 rs, .int .i64 rd, .int .i64 rx] 57)) (HB6.out.alloc HB6.out.size _)).2.1
                clear hc8 hcl hmem hr
                by_cases f1 : rm < rn
                case pos =>
                  have v1 : decide (rm < rn) = true := decide_eq_true f1
                  have hrf : t = false := HNc.out (by omega)
                  clear f1
                  go_wp2
                  go_ret
                  exact ⟨by first | rfl | (rw [hrf]; rfl), HBup (HB6.out.alloc HB6.out.size _)⟩
                case neg =>
                have v1 : decide (rm < rn) = false := decide_eq_false f1
                by_cases f2 : (np : Int) ≤ rd
                case pos =>
                  have v2 : decide ((np : Int) ≤ rd) = true := decide_eq_true f2
                  have hrf : t = false := HNc.out (by omega)
                  clear f1 f2
                  go_wp2
                  go_ret
                  exact ⟨by first | rfl | (rw [hrf]; rfl), HBup (HB6.out.alloc HB6.out.size _)⟩
                case neg =>
                have v2 : decide ((np : Int) ≤ rd) = false := decide_eq_false f2
                have HNx : Hid (∀ j, j < k + 1 → (ceA rc j).n ≤ rm ∧ (ceA rc j).d < (np : Int)) := Lib.hid (fun j hj => by
                  rcases Nat.lt_or_ge j k with h1 | h1
                  · exact HCs.out j h1
                  · obtain rfl : j = k := by omega
                    rw [← HRk.out]; exact ⟨by simp only; omega, by simp only; omega⟩)
                clear f1 f2
                go_wp2
                go_roundw
                case rel => exact ⟨k + 1, by go_num, by omega, HNx.out, HB6.out.alloc HB6.out.size _⟩
                case measure => simp [intOf]; omega
              case neg =>
                have HNx := Lib.hid (HAn.out ⟨HNear.out, HMd.out, HGk.out, fun r hr => by
                  obtain ⟨j, hj, e⟩ := List.getElem_of_mem hr
                  have h1 := HCs.out j (by rw [HIk.out.len] at hj; omega)
                  have h2 := ceA_get hj
                  rw [List.getElem?_eq_getElem hj, e] at h2
                  injection h2 with h2
                  rw [h2, HLp.out]; exact h1⟩)
                go_wp2
                go_roundw
                case rel => exact ⟨i + 1, by go_num, by omega, HNx.out, HB3.out.trans (HB6.out.mono HB3.out.size)⟩
                case measure => simp [intOf]; omega
end Go.Proofs.Ytcicpgiljceioaa.Pk
