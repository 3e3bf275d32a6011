/- A region that draws its order: what is held need not hold behind one operation for which the others are waited, nor behind those that follow it. -/
import Derived.Test.YtiaafhcfeeekeaaProg
import Derived.OrdersHeld
import Derived.Deep.RegionHeld3
import Derived.Lib.Hide
import Derived.Test.YtiaafhcfeeekeaaZCoTold
import Derived.Test.YtiaafhcfeeekeaaZCoLose
namespace Go.Proofs.Ytiaafhcfeeekeaa.Pk
open Go.RowKit
set_option linter.unusedVariables false
section
variable {P : Program} {ops : Array Oper} {Q : Exit → Act → World → Prop} {md : Region.Mode} {S : World → Prop} {L : Nat}
/-- Whatever comes up next, S holds behind it, unless it is number L. -/
def AnyM (P : Program) (md : Region.Mode) (ops : Array Oper) (Q : Exit → Act → World → Prop) (S : World → Prop) (L : Nat) : Nat → Array Bool → Act → World → Prop
  | 0, d, a, w => Region.ready md ops d = [] ∧ Q .normal a w
  | k + 1, d, a, w => (Region.ready md ops d = [] → Q .normal a w) ∧
      ∀ i ∈ Region.ready md ops d, wpOp P ops Q i (fun a' w' => (i ≠ L → d.getD L true = false → S w') ∧ AnyM P md ops Q S L k (d.setIfInBounds i true) a' w') a w
theorem AnyM.any : ∀ (k : Nat) (d : Array Bool) (a : Act) (w : World), AnyM P md ops Q S L k d a w → wpAny P md ops Q k d a w := by
  intro k
  induction k with
  | zero => exact fun _ _ _ h => h
  | succ k ih => exact fun d a w h => ⟨h.1, fun i hi => wpOp_mono (fun a' w' h' => ih _ a' w' h'.2) (h.2 i hi)⟩
/-- Number L waits for number i. -/
def WaitsForM (md : Region.Mode) (ops : Array Oper) (L i : Nat) : Bool := match ops[L]? with
  | some o => o.after.any (fun e => Region.binds md e && e.on == i)
  | none => false
theorem waitsForM_spec {i : Nat} (h : WaitsForM md ops L i = true) : ∃ o, ops[L]? = some o ∧ ∃ e ∈ o.after, Region.binds md e = true ∧ e.on = i := by
  unfold WaitsForM at h
  split at h
  · rename_i o ho
    obtain ⟨q, hq, hb⟩ := Array.any_eq_true.1 h
    simp only [Bool.and_eq_true, beq_iff_eq] at hb
    exact ⟨o, ho, o.after[q], Array.getElem_mem hq, hb.1, hb.2⟩
  · cases h
theorem AnyM.take (i : Nat) {oi : Oper} (v : Value) {k : Nat} {d : Array Bool} {a : Act} {w : World} (hi : ops[i]? = some oi) (hs : Region.noSelect ops = true) (hf : Region.free md ops d i = true)
    (hr : (Region.ready md ops d).contains i = true) (hw : WaitsForM md ops L i = true) (hdL : d.getD L true = false) (hiL : i ≠ L) (hQ : ∀ c a w, Q (.panic c) (a.put oi.dst v) w → Q (.panic c) a w) (hy : YieldsIf P ops S oi v a) (hS : S w)
    (h : AnyM P md ops Q S L k (d.setIfInBounds i true) (a.put oi.dst v) w) : AnyM P md ops Q S L (k + 1) d a w := by
  have key : ∀ (k : Nat) (d : Array Bool) (a : Act) (w : World), (∀ j oj, ops[j]? = some oj → j ≠ i → d.getD j true = false → (∀ e ∈ oj.after, Region.binds md e = true → e.on ≠ i) → oi.apart ops oj = true) →
      i ∈ Region.ready md ops d → d.getD L true = false → YieldsIf P ops S oi v a → S w → AnyM P md ops Q S L k (d.setIfInBounds i true) (a.put oi.dst v) w → AnyM P md ops Q S L (k + 1) d a w := by
    intro k
    induction k with
    | zero =>
      intro d a w _ hr hdL hy hS H
      refine ⟨fun h => (by rw [h] at hr; cases hr), fun j hj => ?_⟩
      by_cases e : j = i
      · rw [e]; exact hy.wpOp hi hS ⟨fun _ _ => hS, H⟩
      · have h1 := ready_mono hj e
        rw [H.1] at h1
        cases h1
    | succ k ih =>
      intro d a w hfr hr hdL hy hS H
      refine ⟨fun h => (by rw [h] at hr; cases hr), fun j hj => ?_⟩
      by_cases e : j = i
      · rw [e]; exact hy.wpOp hi hS ⟨fun _ _ => hS, H⟩
      · obtain ⟨hun, oj, hoj, hall⟩ := mem_ready.1 hj
        have hi0 := (mem_ready.1 hr).1
        have hno : ∀ e ∈ oj.after, Region.binds md e = true → e.on ≠ i := by
          intro e he hb e2
          have h1 := hall e he hb
          rw [e2] at h1
          rcases Nat.lt_or_ge i d.size with h3 | h3
          · simp [h3] at hi0 h1; rw [hi0] at h1; cases h1
          · simp [Array.getElem?_eq_none h3] at h1
        have hjL : j ≠ L := by
          rintro rfl
          obtain ⟨o, ho, e, he, hb, he2⟩ := waitsForM_spec hw
          rw [hoj] at ho
          injection ho with ho
          subst ho
          exact hno e he hb he2
        refine wpOp_mono ?_ (wpOp_putIf hoj (hfr j oj hoj e hun hno) (fun cs b => Region.noSelect_spec hs i oi cs b hi) (fun cs b => Region.noSelect_spec hs j oj cs b hoj) hQ hy (H.2 j (ready_mono hj e)))
        rintro a' w' ⟨hy', hS', H'⟩
        refine ⟨fun h1 h2 => hS' h1 (by rw [getD_set_ne true hiL]; exact h2), ih _ a' w' (fun q oq hq hqi hqu hqn => hfr q oq hq hqi ?_ hqn) (ready_mono hr (Ne.symm e)) (by rw [getD_set_ne true hjL]; exact hdL) hy' (hS' hjL (by rw [getD_set_ne true hiL]; exact hdL)) ?_⟩
        · by_cases hjq : j = q
          · subst hjq; exact hun
          · rw [getD_set_ne true hjq] at hqu; exact hqu
        · rw [Array.setIfInBounds_comm _ _ e]
          exact H'
  exact key k d a w (fun j oj h1 h2 h3 h4 => Region.free_spec hi hf j oj h1 h2 h3 h4) (by simpa using hr) hdL hy hS h
/-- Each of these waits for the one ahead of it, and none is done. -/
def chainM (md : Region.Mode) (ops : Array Oper) (d : Array Bool) : Nat → List Nat → Bool
  | _, [] => true
  | i, c :: r => WaitsForM md ops c i && (d.getD c true == false) && chainM md ops d c r
theorem chainM_set {d : Array Bool} {j : Nat} : ∀ (C : List Nat) (i : Nat), j ∉ C → chainM md ops (d.setIfInBounds j true) i C = chainM md ops d i C
  | [], _, _ => rfl
  | c :: r, i, h => by
    have h1 : j ≠ c := fun e => h (by simp [e])
    have h2 : j ∉ r := fun e => h (by simp [e])
    simp only [chainM]
    rw [getD_set_ne true h1, chainM_set r c h2]
theorem chainM_undone {d : Array Bool} : ∀ (C : List Nat) (i : Nat), chainM md ops d i C = true → ∀ c ∈ C, d.getD c true = false
  | [], _, _, c, hc => by cases hc
  | c :: r, i, h, x, hx => by
    simp only [chainM, Bool.and_eq_true, beq_iff_eq] at h
    rcases List.mem_cons.1 hx with rfl | hx
    · exact h.1.2
    · exact chainM_undone r c h.2 x hx
theorem chainM_waits {d : Array Bool} : ∀ (C : List Nat) (i : Nat), (∀ (j : Nat) (oj : Oper), ops[j]? = some oj → (∀ e ∈ oj.after, Region.binds md e = true → d.getD e.on true = true) → (∃ e ∈ oj.after, Region.binds md e = true ∧ e.on = i) → False) → chainM md ops d i C = true → ∀ c ∈ C, c ∉ Region.ready md ops d
  | [], _, _, _, c, hc => by cases hc
  | c :: r, i, hi, h, x, hx => by
    simp only [chainM, Bool.and_eq_true, beq_iff_eq] at h
    rcases List.mem_cons.1 hx with rfl | hx
    · intro hm
      obtain ⟨hun, oj, hoj, hall⟩ := mem_ready.1 hm
      obtain ⟨o, ho, e, he, hb, he2⟩ := waitsForM_spec h.1.1
      rw [hoj] at ho
      injection ho with ho
      subst ho
      exact hi _ oj hoj (fun e he hb => by
        have h1 := hall e he hb
        rcases Nat.lt_or_ge e.on d.size with h3 | h3
        · simp [h3] at h1 ⊢; exact h1
        · simp [Array.getElem?_eq_none h3]) ⟨e, he, hb, he2⟩
    · refine chainM_waits r c (fun j oj hoj hall ⟨e, he, hb, e2⟩ => ?_) h.2 x hx
      have h1 := hall e he hb
      rw [e2, h.1.2] at h1
      cases h1
theorem AnyM.takeC (C : List Nat) (i : Nat) {oi : Oper} (v : Value) {k : Nat} {d : Array Bool} {a : Act} {w : World} (hi : ops[i]? = some oi) (hs : Region.noSelect ops = true) (hf : Region.free md ops d i = true)
    (hr : (Region.ready md ops d).contains i = true) (hC : (chainM md ops d i C && C.contains L && !(i == L)) = true) (hQ : ∀ c a w, Q (.panic c) (a.put oi.dst v) w → Q (.panic c) a w) (hy : YieldsIf P ops S oi v a) (hS : S w)
    (h : AnyM P md ops Q S L k (d.setIfInBounds i true) (a.put oi.dst v) w) : AnyM P md ops Q S L (k + 1) d a w := by
  simp only [Bool.and_eq_true, Bool.not_eq_true', beq_eq_false_iff_ne] at hC
  obtain ⟨⟨hC, hLC⟩, hiL⟩ := hC
  have hLC : L ∈ C := by simpa using hLC
  have key : ∀ (k : Nat) (d : Array Bool) (a : Act) (w : World), (∀ j oj, ops[j]? = some oj → j ≠ i → d.getD j true = false → (∀ e ∈ oj.after, Region.binds md e = true → e.on ≠ i) → oi.apart ops oj = true) →
      i ∈ Region.ready md ops d → chainM md ops d i C = true → YieldsIf P ops S oi v a → S w → AnyM P md ops Q S L k (d.setIfInBounds i true) (a.put oi.dst v) w → AnyM P md ops Q S L (k + 1) d a w := by
    intro k
    induction k with
    | zero =>
      intro d a w _ hr hdC hy hS H
      refine ⟨fun h => (by rw [h] at hr; cases hr), fun j hj => ?_⟩
      by_cases e : j = i
      · rw [e]; exact hy.wpOp hi hS ⟨fun _ _ => hS, H⟩
      · have h1 := ready_mono hj e
        rw [H.1] at h1
        cases h1
    | succ k ih =>
      intro d a w hfr hr hdC hy hS H
      refine ⟨fun h => (by rw [h] at hr; cases hr), fun j hj => ?_⟩
      by_cases e : j = i
      · rw [e]; exact hy.wpOp hi hS ⟨fun _ _ => hS, H⟩
      · obtain ⟨hun, oj, hoj, hall⟩ := mem_ready.1 hj
        have hi0 := (mem_ready.1 hr).1
        have hdi : d.getD i true = false := by
          rcases Nat.lt_or_ge i d.size with h3 | h3
          · simp [h3] at hi0 ⊢; exact hi0
          · simp [Array.getElem?_eq_none h3] at hi0
        have hno : ∀ e ∈ oj.after, Region.binds md e = true → e.on ≠ i := by
          intro e he hb e2
          have h1 := hall e he hb
          rw [e2] at h1
          rcases Nat.lt_or_ge i d.size with h3 | h3
          · simp [h3] at hi0 h1; rw [hi0] at h1; cases h1
          · simp [Array.getElem?_eq_none h3] at h1
        have hjC : j ∉ C := fun hc => chainM_waits C i (fun j oj _ hall ⟨e, he, hb, e2⟩ => by
          have h1 := hall e he hb
          rw [e2, hdi] at h1; cases h1) hdC j hc hj
        have hjL : j ≠ L := fun e => hjC (e ▸ hLC)
        have hdL := chainM_undone C i hdC L hLC
        refine wpOp_mono ?_ (wpOp_putIf hoj (hfr j oj hoj e hun hno) (fun cs b => Region.noSelect_spec hs i oi cs b hi) (fun cs b => Region.noSelect_spec hs j oj cs b hoj) hQ hy (H.2 j (ready_mono hj e)))
        rintro a' w' ⟨hy', hS', H'⟩
        refine ⟨fun h1 h2 => hS' h1 (by rw [getD_set_ne true hiL]; exact h2), ih _ a' w' (fun q oq hq hqi hqu hqn => hfr q oq hq hqi ?_ hqn) (ready_mono hr (Ne.symm e)) (by rw [chainM_set C i hjC]; exact hdC) hy' (hS' hjL (by rw [getD_set_ne true hiL]; exact hdL)) ?_⟩
        · by_cases hjq : j = q
          · subst hjq; exact hun
          · rw [getD_set_ne true hjq] at hqu; exact hqu
        · rw [Array.setIfInBounds_comm _ _ e]
          exact H'
  exact key k d a w (fun j oj h1 h2 h3 h4 => Region.free_spec hi hf j oj h1 h2 h3 h4) (by simpa using hr) hC hy hS h
/-- One alone may come up. -/
theorem AnyM.one (i : Nat) {o : Oper} {k : Nat} {d : Array Bool} {a : Act} {w : World} (hr : Region.ready md ops d = [i]) (ho : ops[i]? = some o)
    (h : ∀ K' : Act → World → Prop, Hid (∀ a w, (i ≠ L → d.getD L true = false → S w) → AnyM P md ops Q S L k (d.setIfInBounds i true) a w → K' a w) → if Region.wanted o (yielded ops a.tmps) = true then Oper.wp P o a w K' Q else K' (a.put o.dst undef) w) :
    AnyM P md ops Q S L (k + 1) d a w := by
  refine ⟨fun h0 => (by rw [h0] at hr; cases hr), fun j hj => ?_⟩
  rw [hr] at hj
  obtain rfl := List.mem_singleton.1 hj
  exact wpOp_step ho (fun K' hK => h K' (Lib.hid (fun a w hS hW => hK a w ⟨hS, hW⟩)))
theorem AnyM.done {d : Array Bool} {a : Act} {w : World} (hr : Region.ready md ops d = []) (h : Q .normal a w) : ∀ k, AnyM P md ops Q S L k d a w
  | 0 => ⟨hr, h⟩
  | _ + 1 => ⟨fun _ => h, by rw [hr]; simp⟩
theorem region_lastM {id : Nat} {a : Act} {w : World} (L : Nat) (S : World → Prop) (hm : P.follows .mixedOrders = true) (h : AnyM P .any ops Q S L ops.size (Array.replicate ops.size false) a w.drew) : (Code.region id ops true).wp P Q a w :=
  wp_region_any hm (AnyM.any _ _ _ _ h)
end
end Go.Proofs.Ytiaafhcfeeekeaa.Pk

/- The change's towards: a message goes towards its node. -/
namespace Go.Proofs.Ytiaafhcfeeekeaa.Pk
open Go.RowKit Go.Proofs.Ytiaafhcfeeekeaa.Gr
set_option linter.unusedVariables false
/-- The numbers of cells that can be rise. -/
theorem good_rise {l : List Ce} {me : Int} {sink : Bool} (h : GoodK l me sink) : ∀ i, 0 < i → i < l.length → (ceA l 0).n < (ceA l i).n := by
  intro i
  induction i with
  | zero => intro h0; omega
  | succ i ih =>
    intro _ hl
    have h1 := ((h.2 (i + 1) hl).2.1 (by omega)).1
    rw [show i + 1 - 1 = i by omega] at h1
    rcases Nat.eq_zero_or_pos i with h0 | h0
    · subst h0; exact h1
    · have := ih h0 (by omega); omega
theorem own_at {s : StL} {k : Nat} (h : k < s.os.length) : ∃ o, s.os[k]? = some o ∧ o.v ∈ s.v.os := by
  refine ⟨s.os[k], List.getElem?_eq_getElem h, List.mem_map.2 ⟨s.os[k], List.getElem_mem h, rfl⟩⟩
theorem good_own {ps : List Int} (G : Gr.Good ps) {s : St} (h : GoodS ps s) {o : Ow} (ho : o ∈ s.os) : o.c.length ≤ 1024 ∧ (∀ c ∈ o.c, c.I) ∧ ∀ i, 0 < i → i < o.c.length → (ceA o.c i).n ≠ (ceA o.c 0).n := by
  have hk := (h.os o ho).2.2.1
  have h1 := good_len hk
  have h2 := sumK_mem ho
  have h3 := h.few
  refine ⟨by omega, ((good_few G h).o o ho).2.2.2, fun i h0 hi => ?_⟩
  have := good_rise hk i h0 hi
  omega
set_option maxRecDepth 100000 in
set_option maxHeartbeats 8000000 in
theorem towards_any {w : World} {B p T g : Nat} {ps : List Int} {s : StL} (h : Chg w B p T g ps s) (G : Gr.Good ps) (hg : GoodS ps s.v) {m : Mg} (hm : m.I) (hM : MeantS (ps.length : Int) (s.v.os.length : Int) m) :
    Calls Try.prog 62 #[.pointer (some ⟨p, 0, none⟩), m.val] w fun e w' => ∃ s2, e = .returned (.int .i64 (towardS ps s.v m).2) ∧ ChgX w' B p T s2 ∧ s2.v = (towardS ps s.v m).1 ∧ Below B w w' := by
  obtain ⟨q, hq⟩ : ∃ q, q = w.heap.size := ⟨_, rfl⟩
  obtain ⟨W1, hW1⟩ : ∃ W, W = w.alloc (.cells m.val.cells 30) := ⟨_, rfl⟩
  have hb1 : Below w.heap.size w W1 := hW1 ▸ (Below.refl _ _).alloc (Nat.le_refl _) _
  have h1 := h.below hb1
  have HQ : Hid (Blk W1 q 30 m.val.cells) := Lib.hid (by rw [hW1, hq]; exact Blk.new w _ _)
  have HB : Hid (B ≤ w.heap.size) := Lib.hid h.sz
  have HB1 := Lib.hid hb1
  have HC1 := Lib.hid h1
  have HGo := Lib.hid hg
  have HM := Lib.hid hM
  have HI := Lib.hid hm
  have HG := Lib.hid G
  obtain ⟨me, hme⟩ : ∃ me, me = s.me := ⟨_, rfl⟩
  have HMe := Lib.hid hme
  have hol : s.os.length = s.v.os.length := by simp [StL.v]
  have HOl := Lib.hid hol
  obtain ⟨R, hR⟩ : ∃ R, R = towardS ps s.v m := ⟨_, rfl⟩
  have HR := Lib.hid hR
  obtain ⟨Rs, Re⟩ := R
  rw [← hR]
  clear h h1 hb1 hg hM hm hol hR G hme
  obtain ⟨mk, mo, mn, mu, mv⟩ := m
  simp only [Mg.val, Value.cells] at HQ hW1 ⊢
  have HX : Hid (∀ W, Below W1.heap.size W1 W → W.cell? ⟨p, 0, none⟩ = some (.pointer (some ⟨T, 0, none⟩)) ∧ W.cell? ⟨p, 1, none⟩ = some (.int .i64 me) ∧ W.cell? ⟨q, 0, none⟩ = some (.int .i64 mk) ∧ W.cell? ⟨q, 1, none⟩ = some (.int .i64 mo) ∧ W.cell? ⟨q, 2, none⟩ = some (.int .i64 mn) ∧ W.cell? ⟨q, 3, none⟩ = some (.int .i64 mu) ∧ W.cell? ⟨q, 4, none⟩ = some (.int .i64 mv)) := Lib.hid (fun W hW => by
    have hq := HQ.out.below hW HQ.out.lt
    have hp := (HC1.out.below hW).box
    exact ⟨hp.cell 0, by rw [HMe.out]; exact hp.cell 1, hq.cell 0, hq.cell 1, hq.cell 2, hq.cell 3, hq.cell 4⟩)
  obtain ⟨x0, x1, y0, y1, y2, y3, y4⟩ := HX.out W1 (Below.refl _ _)
  by_cases hn : mn = me
  · have t1 : (mn != me) = false := by simpa using hn
    obtain ⟨o, ho, hov⟩ := own_at (s := s) (k := mo.toNat) (by have h1 := HM.out.1; have h2 := HM.out.2.1; have h3 := HOl.out; simp only at h1 h2; omega)
    obtain ⟨o1, o2, o3⟩ := good_own HG.out HGo.out hov
    have hmo : mo = (mo.toNat : Int) := by have h1 := HM.out.1; simp only at h1; omega
    have HO := Lib.hid ho
    have HGr : Hid (∀ W, Below W1.heap.size W1 W → Calls Try.prog 60 #[.pointer (some ⟨p, 0, none⟩), .agg #[.int .i64 mk, .int .i64 mo, .int .i64 mn, .int .i64 mu, .int .i64 mv]] W fun e w' => e = .returned (.tuple #[]) ∧ ∃ s2, Chg w' B p T g ps s2 ∧ s2.v = passS s.v ⟨mk, mo, mn, mu, mv⟩ ∧ Below B W w') := Lib.hid (fun W hW => granted_any (HC1.out.below hW) (m := ⟨mk, mo, mn, mu, mv⟩) ho hmo HI.out o1 o2 o3 (by have h1 := (Row.Own.rd HC1.out.own.os.row).1; have h2 := HGo.out.many.2; have h3 := HOl.out; omega))
    have HTo : Hid (∀ W, Below W1.heap.size W1 W → Calls Try.prog 84 #[.pointer (some ⟨p, 0, none⟩), .agg #[.int .i64 mk, .int .i64 mo, .int .i64 mn, .int .i64 mu, .int .i64 mv]] W fun e w' => e = .returned (.tuple #[]) ∧ ∃ s2, ChgX w' B p T s2 ∧ s2.v = tellS s.v ⟨mk, mo, mn, mu, mv⟩ ∧ Below B W w') := Lib.hid (fun W hW => told_any (HC1.out.below hW) (m := ⟨mk, mo, mn, mu, mv⟩) HGo.out.as_ HI.out (Nat.le_trans HGo.out.an (by omega)) HGo.out.gn)
    clear o1 o2 o3 hov ho hmo
    by_cases hk : mk = 2
    · have t2 : (mk == 2) = true := by simpa using hk
      have HE : Hid ((Rs, Re) = (passS s.v ⟨mk, mo, mn, mu, mv⟩, 0)) := Lib.hid (by rw [HR.out]; unfold towardS; rw [if_neg (fun h9 => h9 (by show mn = s.me; rw [hn, HMe.out])), if_pos hk])
      clear hn hk
      go_enter Try.func62, Try.ntmps62
      go_wp2_with fail
      rw [← hW1, ← hq]
      clear hW1 hq
      go_quiet (fail)
      revert nq; intro nq1
      obtain ⟨V, hV⟩ : ∃ V, V = W1.drewN nq1 := ⟨_, rfl⟩
      have hb2 : Below W1.heap.size W1 V := hV ▸ below_drewC (Below.refl _ _) _
      have HB2 := Lib.hid hb2
      rw [← hV]
      clear hV
      clear x0 x1 y0 y1 y2 y3 y4
      obtain ⟨x0, x1, y0, y1, y2, y3, y4⟩ := HX.out V hb2
      clear hb2
      go_wp2_with fail
      refine (HGr.out V HB2.out).mono ?_
      rintro e w3 ⟨rfl, s2, hc, hv, hb⟩
      have HC3 := Lib.hid hc
      have HV3 := Lib.hid hv
      have HB3 := Lib.hid hb
      clear hc hv hb x0 x1 y0 y1 y2 y3 y4
      go_wp2
      go_ret
      have e1 := HE.out
      injection e1 with e1 e2
      exact ⟨s2, by rw [e2]; rfl, HC3.out.x, by rw [e1]; exact HV3.out, (HB1.out.mono HB.out).trans ((HB2.out.mono (Nat.le_trans HB.out HB1.out.size)).trans HB3.out)⟩
    · have t2 : (mk == 2) = false := by simpa using hk
      have HE : Hid ((Rs, Re) = (tellS s.v ⟨mk, mo, mn, mu, mv⟩, 0)) := Lib.hid (by rw [HR.out]; unfold towardS; rw [if_neg (fun h9 => h9 (by show mn = s.me; rw [hn, HMe.out])), if_neg hk])
      clear hn hk
      go_enter Try.func62, Try.ntmps62
      go_wp2_with fail
      rw [← hW1, ← hq]
      clear hW1 hq
      go_quiet (fail)
      revert nq; intro nq1
      obtain ⟨V, hV⟩ : ∃ V, V = W1.drewN nq1 := ⟨_, rfl⟩
      have hb2 : Below W1.heap.size W1 V := hV ▸ below_drewC (Below.refl _ _) _
      have HB2 := Lib.hid hb2
      rw [← hV]
      clear hV
      clear x0 x1 y0 y1 y2 y3 y4
      obtain ⟨x0, x1, y0, y1, y2, y3, y4⟩ := HX.out V hb2
      clear hb2
      go_wp2_with fail
      refine (HTo.out V HB2.out).mono ?_
      rintro e w3 ⟨rfl, s2, hc, hv, hb⟩
      have HC3 := Lib.hid hc
      have HV3 := Lib.hid hv
      have HB3 := Lib.hid hb
      clear hc hv hb x0 x1 y0 y1 y2 y3 y4
      go_wp2
      go_ret
      have e1 := HE.out
      injection e1 with e1 e2
      exact ⟨s2, by rw [e2]; rfl, HC3.out, by rw [e1]; exact HV3.out, (HB1.out.mono HB.out).trans ((HB2.out.mono (Nat.le_trans HB.out HB1.out.size)).trans HB3.out)⟩
  · have t1 : (mn != me) = true := by simpa using hn
    have hgp := good_parts.1 HGo.out
    obtain ⟨i, hi⟩ := edge_there hgp.2.2.1 (next_near HG.out hgp.1 (a := s.v.me) (b := mn) ⟨HM.out.2.2.1, HM.out.2.2.2.1⟩ (by rw [← show me = s.v.me from HMe.out]; exact hn))
    have HPu : Hid (∀ W, Below W1.heap.size W1 W → Calls Try.prog 77 #[.pointer (some ⟨p, 0, none⟩), .int .i64 (nextI ps me mn), .agg #[.int .i64 mk, .int .i64 mo, .int .i64 mn, .int .i64 mu, .int .i64 mv]] W fun e w' => e = .returned (.int .i64 (pushS s.v (nextI ps me mn) ⟨mk, mo, mn, mu, mv⟩).2) ∧ ∃ s2, Chg w' B p T g ps s2 ∧ s2.v = (pushS s.v (nextI ps me mn) ⟨mk, mo, mn, mu, mv⟩).1 ∧ Below B W w') := Lib.hid (fun W hW => by
      have hi2 : edgeAt s.v (nextI ps me mn) = some i := by rw [HMe.out]; exact hi
      exact push_any (HC1.out.below hW) HG.out hgp.2.2.1 hi2 (m := ⟨mk, mo, mn, mu, mv⟩) HI.out)
    have HE : Hid ((Rs, Re) = pushS s.v (nextI ps me mn) ⟨mk, mo, mn, mu, mv⟩) := Lib.hid (by rw [HR.out]; unfold towardS; rw [if_pos (by simp only [ne_eq]; intro e; exact hn (by rw [HMe.out]; exact e)), HMe.out]; rfl)
    have HNx : Hid (∀ W, Below W1.heap.size W1 W → Calls Try.prog 33 #[.pointer (some ⟨T, 0, none⟩), .int .i64 me, .int .i64 mn] W fun e w' => e = .returned (.int .i64 (nextI ps me mn)) ∧ w' = W) := Lib.hid (fun W hW => nxt_any T g ps me mn W (HC1.out.below hW).tr HG.out)
    clear hn hgp hi
    go_enter Try.func62, Try.ntmps62
    go_wp2_with fail
    rw [← hW1, ← hq]
    clear hW1 hq
    go_quiet (fail)
    revert nq; intro nq1
    obtain ⟨V, hV⟩ : ∃ V, V = W1.drewN nq1 := ⟨_, rfl⟩
    have hb2 : Below W1.heap.size W1 V := hV ▸ below_drewC (Below.refl _ _) _
    have HB2 := Lib.hid hb2
    rw [← hV]
    clear hV
    clear x0 x1 y0 y1 y2 y3 y4
    have HD2 : Hid (Below W1.heap.size W1 V.drew) := Lib.hid (below_drewC hb2 1)
    have hS0 : (fun W : World => W.cell? ⟨p, 0, none⟩ = some (.pointer (some ⟨T, 0, none⟩)) ∧ W.cell? ⟨p, 1, none⟩ = some (.int .i64 me) ∧ W.cell? ⟨q, 0, none⟩ = some (.int .i64 mk) ∧ W.cell? ⟨q, 1, none⟩ = some (.int .i64 mo) ∧ W.cell? ⟨q, 2, none⟩ = some (.int .i64 mn) ∧ W.cell? ⟨q, 3, none⟩ = some (.int .i64 mu) ∧ W.cell? ⟨q, 4, none⟩ = some (.int .i64 mv)) V.drew := HX.out V.drew HD2.out
    clear hb2
    go_wp2_with fail
    refine wp_region_noPanic ?_
    refine region_lastM 14 (fun W : World => W.cell? ⟨p, 0, none⟩ = some (.pointer (some ⟨T, 0, none⟩)) ∧ W.cell? ⟨p, 1, none⟩ = some (.int .i64 me) ∧ W.cell? ⟨q, 0, none⟩ = some (.int .i64 mk) ∧ W.cell? ⟨q, 1, none⟩ = some (.int .i64 mo) ∧ W.cell? ⟨q, 2, none⟩ = some (.int .i64 mn) ∧ W.cell? ⟨q, 3, none⟩ = some (.int .i64 mu) ∧ W.cell? ⟨q, 4, none⟩ = some (.int .i64 mv)) (by kernel_rfl) ?_
    refine AnyM.takeC [14] 0 (.pointer (some ⟨p, 0, none⟩)) rfl (by kernel_rfl) (by kernel_rfl) (by kernel_rfl) (by kernel_rfl) (fun _ _ _ h => h) (Or.inl ⟨by rfl, fun W hW => ?_⟩) hS0 ?_
    · obtain ⟨hW0, hW1, hW2, hW3, hW4, hW5, hW6⟩ := hW
      go_simp
    simp only [Act.put, List.setIfInBounds_toArray]
    refine AnyM.takeC [2, 3, 4, 12, 14] 1 (.pointer (some ⟨p, 0, none⟩)) rfl (by kernel_rfl) (by kernel_rfl) (by kernel_rfl) (by kernel_rfl) (fun _ _ _ h => h) (Or.inl ⟨by rfl, fun W hW => ?_⟩) hS0 ?_
    · obtain ⟨hW0, hW1, hW2, hW3, hW4, hW5, hW6⟩ := hW
      go_simp
    simp only [Act.put]
    refine AnyM.takeC [3, 4, 12, 14] 2 (.pointer (some ⟨p, 0, none⟩)) rfl (by kernel_rfl) (by kernel_rfl) (by kernel_rfl) (by kernel_rfl) (fun _ _ _ h => h) (Or.inl ⟨by rfl, fun W hW => ?_⟩) hS0 ?_
    · obtain ⟨hW0, hW1, hW2, hW3, hW4, hW5, hW6⟩ := hW
      go_simp
    simp only [Act.put]
    refine AnyM.takeC [4, 12, 14] 3 (.pointer (some ⟨p, 0, none⟩)) rfl (by kernel_rfl) (by kernel_rfl) (by kernel_rfl) (by kernel_rfl) (fun _ _ _ h => h) (Or.inl ⟨by rfl, fun W hW => ?_⟩) hS0 ?_
    · obtain ⟨hW0, hW1, hW2, hW3, hW4, hW5, hW6⟩ := hW
      go_simp
    simp only [Act.put]
    refine AnyM.takeC [12, 14] 4 (.pointer (some ⟨T, 0, none⟩)) rfl (by kernel_rfl) (by kernel_rfl) (by kernel_rfl) (by kernel_rfl) (fun _ _ _ h => h) (Or.inl ⟨by rfl, fun W hW => ?_⟩) hS0 ?_
    · obtain ⟨hW0, hW1, hW2, hW3, hW4, hW5, hW6⟩ := hW
      go_simp
    simp only [Act.put]
    refine AnyM.takeC [6, 7, 8, 9, 12, 14] 5 (.pointer (some ⟨p, 0, none⟩)) rfl (by kernel_rfl) (by kernel_rfl) (by kernel_rfl) (by kernel_rfl) (fun _ _ _ h => h) (Or.inl ⟨by rfl, fun W hW => ?_⟩) hS0 ?_
    · obtain ⟨hW0, hW1, hW2, hW3, hW4, hW5, hW6⟩ := hW
      go_simp
    simp only [Act.put]
    refine AnyM.takeC [7, 8, 9, 12, 14] 6 (.pointer (some ⟨p, 0, none⟩)) rfl (by kernel_rfl) (by kernel_rfl) (by kernel_rfl) (by kernel_rfl) (fun _ _ _ h => h) (Or.inl ⟨by rfl, fun W hW => ?_⟩) hS0 ?_
    · obtain ⟨hW0, hW1, hW2, hW3, hW4, hW5, hW6⟩ := hW
      go_simp
    simp only [Act.put]
    refine AnyM.takeC [8, 9, 12, 14] 7 (.pointer (some ⟨p, 1, none⟩)) rfl (by kernel_rfl) (by kernel_rfl) (by kernel_rfl) (by kernel_rfl) (fun _ _ _ h => h) (Or.inl ⟨by rfl, fun W hW => ?_⟩) hS0 ?_
    · obtain ⟨hW0, hW1, hW2, hW3, hW4, hW5, hW6⟩ := hW
      go_simp
    simp only [Act.put]
    refine AnyM.takeC [9, 12, 14] 8 (.pointer (some ⟨p, 1, none⟩)) rfl (by kernel_rfl) (by kernel_rfl) (by kernel_rfl) (by kernel_rfl) (fun _ _ _ h => h) (Or.inl ⟨by rfl, fun W hW => ?_⟩) hS0 ?_
    · obtain ⟨hW0, hW1, hW2, hW3, hW4, hW5, hW6⟩ := hW
      go_simp
    simp only [Act.put]
    refine AnyM.takeC [12, 14] 9 (.int .i64 me) rfl (by kernel_rfl) (by kernel_rfl) (by kernel_rfl) (by kernel_rfl) (fun _ _ _ h => h) (Or.inl ⟨by rfl, fun W hW => ?_⟩) hS0 ?_
    · obtain ⟨hW0, hW1, hW2, hW3, hW4, hW5, hW6⟩ := hW
      go_simp
    simp only [Act.put]
    refine AnyM.takeC [11, 12, 14] 10 (.pointer (some ⟨q, 2, none⟩)) rfl (by kernel_rfl) (by kernel_rfl) (by kernel_rfl) (by kernel_rfl) (fun _ _ _ h => h) (Or.inl ⟨by rfl, fun W hW => ?_⟩) hS0 ?_
    · obtain ⟨hW0, hW1, hW2, hW3, hW4, hW5, hW6⟩ := hW
      go_simp
    simp only [Act.put]
    refine AnyM.takeC [12, 14] 11 (.int .i64 mn) rfl (by kernel_rfl) (by kernel_rfl) (by kernel_rfl) (by kernel_rfl) (fun _ _ _ h => h) (Or.inl ⟨by rfl, fun W hW => ?_⟩) hS0 ?_
    · obtain ⟨hW0, hW1, hW2, hW3, hW4, hW5, hW6⟩ := hW
      go_simp
    simp only [Act.put]
    refine AnyM.takeC [14] 13 (.agg #[.int .i64 mk, .int .i64 mo, .int .i64 mn, .int .i64 mu, .int .i64 mv]) rfl (by kernel_rfl) (by kernel_rfl) (by kernel_rfl) (by kernel_rfl) (fun _ _ _ h => h) (Or.inl ⟨by rfl, fun W hW => ?_⟩) hS0 ?_
    · obtain ⟨hW0, hW1, hW2, hW3, hW4, hW5, hW6⟩ := hW
      go_simp
    simp only [Act.put]
    refine AnyM.one 12 (by kernel_rfl) rfl ?_
    intro K' hK
    rw [if_pos (by rfl)]
    go_wp2_with fail
    refine (HNx.out V.drew HD2.out).mono ?_
    rintro e w9 ⟨rfl, hw⟩
    rw [hw]
    clear hw w9
    refine hK.out _ _ (fun _ _ => hS0) ?_
    clear hK
    refine AnyM.one 14 (by kernel_rfl) rfl ?_
    intro K' hK
    rw [if_pos (by rfl)]
    go_wp2_with fail
    refine (HPu.out V.drew HD2.out).mono ?_
    rintro e w3 ⟨rfl, s2, hc, hv, hb⟩
    have HC3 := Lib.hid hc
    have HV3 := Lib.hid hv
    have HB3 := Lib.hid hb
    clear hc hv hb
    refine hK.out _ _ (fun h => absurd rfl h) ?_
    clear hK
    refine AnyM.one 15 (by kernel_rfl) rfl ?_
    intro K' hK
    rw [if_pos (by rfl)]
    go_wp2_with fail
    refine hK.out _ _ (fun _ h => absurd (h.symm.trans (by kernel_rfl : Array.getD _ _ _ = true)) (by decide)) ?_
    clear hK
    refine AnyM.done (by kernel_rfl) ?_ _
    refine NoPanic.normal ?_
    go_wp2
    go_ret
    have e1 := HE.out
    exact ⟨s2, by rw [← e1]; rfl, HC3.out.x, by rw [HV3.out, ← e1], (HB1.out.mono HB.out).trans ((HD2.out.mono (Nat.le_trans HB.out HB1.out.size)).trans HB3.out)⟩
end Go.Proofs.Ytiaafhcfeeekeaa.Pk

/- The change's seek: a locate is here. -/
namespace Go.Proofs.Ytiaafhcfeeekeaa.Pk
open Go.RowKit Go.Proofs.Ytiaafhcfeeekeaa.Gr
set_option linter.unusedVariables false
theorem nbs_ge {ps : List Int} {me a : Int} (h : a ∈ nbsI ps me) : 0 ≤ a := (nbs_rng a h).1
set_option maxRecDepth 100000 in
set_option maxHeartbeats 8000000 in
theorem seek_any {w : World} {B p T g : Nat} {ps : List Int} {s : StL} (h : Chg w B p T g ps s) (G : Gr.Good ps) (hg : GoodS ps s.v) {m : Mg} (hm : m.I) (hM : MeantS (ps.length : Int) (s.v.os.length : Int) m) :
    Calls Try.prog 63 #[.pointer (some ⟨p, 0, none⟩), m.val] w fun e w' => ∃ s2, e = .returned (.int .i64 (seekS ps s.v m).2) ∧ ChgX w' B p T s2 ∧ s2.v = (seekS ps s.v m).1 ∧ Below B w w' := by
  obtain ⟨q, hq⟩ : ∃ q, q = w.heap.size := ⟨_, rfl⟩
  obtain ⟨W1, hW1⟩ : ∃ W, W = w.alloc (.cells m.val.cells 30) := ⟨_, rfl⟩
  have hb1 : Below w.heap.size w W1 := hW1 ▸ (Below.refl _ _).alloc (Nat.le_refl _) _
  have h1 := h.below hb1
  have HQ : Hid (Blk W1 q 30 m.val.cells) := Lib.hid (by rw [hW1, hq]; exact Blk.new w _ _)
  have HB : Hid (B ≤ w.heap.size) := Lib.hid h.sz
  have HB1 := Lib.hid hb1
  have HC1 := Lib.hid h1
  have HGo := Lib.hid hg
  have HM := Lib.hid hM
  have HI := Lib.hid hm
  have HG := Lib.hid G
  obtain ⟨me, hme⟩ : ∃ me, me = s.me := ⟨_, rfl⟩
  have HMe := Lib.hid hme
  have hol : s.os.length = s.v.os.length := by simp [StL.v]
  have HOl := Lib.hid hol
  obtain ⟨R, hR⟩ : ∃ R, R = seekS ps s.v m := ⟨_, rfl⟩
  have HR := Lib.hid hR
  obtain ⟨Rs, Re⟩ := R
  rw [← hR]
  clear h h1 hb1 hg hM hm hol hR G hme
  obtain ⟨mk, mo, mn, mu, mv⟩ := m
  obtain ⟨k, rfl⟩ : ∃ k : Nat, mo = (k : Int) := ⟨mo.toNat, by have h1 := HM.out.1; simp only at h1; omega⟩
  have hk : k < s.os.length := by have h2 := HM.out.2.1; have h3 := HOl.out; simp only at h2; omega
  obtain ⟨o, ho, hov⟩ := own_at hk
  have HO := Lib.hid ho
  have HOv := Lib.hid hov
  have HA : Hid (objA s.v k = o.v) := Lib.hid (obj_at ho)
  have ha := (HGo.out.os o.v hov).1
  have HAr : Hid (o.v.a = s.v.me ∨ o.v.a ∈ nbsI ps s.v.me) := Lib.hid ha
  obtain ⟨go, hgo, g1, g2, g3, g4, g5, g6, g7, g8, c0, c1, c2⟩ := HC1.out.obj ho
  obtain ⟨a, hva⟩ : ∃ a, a = o.v.a := ⟨_, rfl⟩
  have HVa := Lib.hid hva
  obtain ⟨n, hn⟩ : ∃ n, n = s.so.n := ⟨_, rfl⟩
  obtain ⟨c, hc⟩ : ∃ c, c = s.so.c := ⟨_, rfl⟩
  have HSo : Hid (s.so = ⟨some ⟨go, 0, none⟩, n, c⟩) := Lib.hid (by rw [hn, hc]; cases hse : s.so; rw [hse] at hgo; simp only at hgo; rw [hgo])
  rw [← hn] at g5 g6 g7
  rw [← hc] at g4 g7
  have hn8 : n ≤ 8 := by have h2 := HGo.out.many.2; have h3 := HOl.out; omega
  simp only [Mg.val, Value.cells] at HQ hW1 ⊢
  have HX : Hid (∀ W, Below W1.heap.size W1 W → (W.cell? ⟨p, 1, none⟩ = some (.int .i64 me) ∧ W.cell? ⟨q, 0, none⟩ = some (.int .i64 mk) ∧ W.cell? ⟨q, 1, none⟩ = some (.int .i64 (k : Int)) ∧ W.cell? ⟨q, 2, none⟩ = some (.int .i64 mn) ∧ W.cell? ⟨q, 3, none⟩ = some (.int .i64 mu) ∧ W.cell? ⟨q, 4, none⟩ = some (.int .i64 mv)) ∧ W.cell? ⟨p, 2, none⟩ = some (.slice (some ⟨go, 0, none⟩) n c) ∧ W.cell? ⟨go, k * 3, none⟩ = some (.int .i64 a)) := Lib.hid (fun W hW => by
    have hq := HQ.out.below hW HQ.out.lt
    have hp := (HC1.out.below hW).box
    rw [HSo.out] at hp
    refine ⟨⟨by rw [HMe.out]; exact hp.cell 1, hq.cell 0, hq.cell 1, hq.cell 2, hq.cell 3, hq.cell 4⟩, hp.cell 2, ?_⟩
    rw [HVa.out]
    exact (hW.cell (p := ⟨go, k * 3, none⟩) g2).trans c0)
  obtain ⟨⟨x1, y0, y1, y2, y3, y4⟩, x2, z0⟩ := HX.out W1 (Below.refl _ _)
  have HG2 : Hid (go < W1.heap.size) := Lib.hid g2
  clear hn hc hva ha hov ho c0 c1 c2 hgo g1 g2 g3 g5 g8 hk
  by_cases hn : a = me
  · have t1 : (a == me) = true := by simpa using hn
    have HE : Hid ((Rs, Re) = towardS ps s.v ⟨4, (k : Int), mn, mu, me⟩) := Lib.hid (by rw [HR.out]; unfold seekS; rw [if_neg (fun h9 => h9 (by show (objA s.v ((k : Int)).toNat).a = s.me; rw [Int.toNat_natCast, HA.out, ← HVa.out, hn, HMe.out])), HMe.out]; rfl)
    have HTo : Hid (∀ W, Below W1.heap.size W1 W → Calls Try.prog 62 #[.pointer (some ⟨p, 0, none⟩), .agg #[.int .i64 4, .int .i64 (k : Int), .int .i64 mn, .int .i64 mu, .int .i64 me]] W fun e w' => ∃ s2, e = .returned (.int .i64 (towardS ps s.v ⟨4, (k : Int), mn, mu, me⟩).2) ∧ ChgX w' B p T s2 ∧ s2.v = (towardS ps s.v ⟨4, (k : Int), mn, mu, me⟩).1 ∧ Below B W w') := Lib.hid (fun W hW => by
      have hmr := HGo.out.me
      have hme : me = s.v.me := HMe.out
      rw [← hme] at hmr
      have hf := HG.out.few
      exact towards_any (HC1.out.below hW) HG.out HGo.out (m := ⟨4, (k : Int), mn, mu, me⟩) ⟨by simp, HI.out.o, HI.out.n, HI.out.u, by constructor <;> (simp only; omega)⟩ ⟨HM.out.1, HM.out.2.1, HM.out.2.2.1, HM.out.2.2.2.1, hmr.1, hmr.2⟩)
    clear hn
    go_enter Try.func63, Try.ntmps63
    go_wp2_with fail
    rw [← hW1, ← hq]
    clear hW1 hq
    go_quiet (fail)
    revert nq; intro nq1
    obtain ⟨V, hV⟩ : ∃ V, V = W1.drewN nq1 := ⟨_, rfl⟩
    have hb2 : Below W1.heap.size W1 V := hV ▸ below_drewC (Below.refl _ _) _
    have HB2 := Lib.hid hb2
    rw [← hV]
    clear hV
    clear x1 y0 y1 y2 y3 y4 x2 z0
    obtain ⟨⟨x1, y0, y1, y2, y3, y4⟩, x2, z0⟩ := HX.out V hb2
    have HD2 : Hid (Below W1.heap.size W1 V.drew) := Lib.hid (below_drewC hb2 1)
    have hS0 : (fun W : World => W.cell? ⟨p, 1, none⟩ = some (.int .i64 me) ∧ W.cell? ⟨q, 0, none⟩ = some (.int .i64 mk) ∧ W.cell? ⟨q, 1, none⟩ = some (.int .i64 (k : Int)) ∧ W.cell? ⟨q, 2, none⟩ = some (.int .i64 mn) ∧ W.cell? ⟨q, 3, none⟩ = some (.int .i64 mu) ∧ W.cell? ⟨q, 4, none⟩ = some (.int .i64 mv)) V.drew := (HX.out V.drew HD2.out).1
    clear hb2
    go_wp2_with fail
    refine wp_region_noPanic ?_
    refine region_lastM 13 (fun W : World => W.cell? ⟨p, 1, none⟩ = some (.int .i64 me) ∧ W.cell? ⟨q, 0, none⟩ = some (.int .i64 mk) ∧ W.cell? ⟨q, 1, none⟩ = some (.int .i64 (k : Int)) ∧ W.cell? ⟨q, 2, none⟩ = some (.int .i64 mn) ∧ W.cell? ⟨q, 3, none⟩ = some (.int .i64 mu) ∧ W.cell? ⟨q, 4, none⟩ = some (.int .i64 mv)) (by kernel_rfl) ?_
    refine AnyM.takeC [13] 0 (.pointer (some ⟨p, 0, none⟩)) rfl (by kernel_rfl) (by kernel_rfl) (by kernel_rfl) (by kernel_rfl) (fun _ _ _ h => h) (Or.inl ⟨by rfl, fun W hW => ?_⟩) hS0 ?_
    · obtain ⟨hW0, hW1, hW2, hW3, hW4, hW5⟩ := hW
      go_simp
    simp only [Act.put, List.setIfInBounds_toArray]
    refine AnyM.takeC [2, 12, 13] 1 (.pointer (some ⟨q, 1, none⟩)) rfl (by kernel_rfl) (by kernel_rfl) (by kernel_rfl) (by kernel_rfl) (fun _ _ _ h => h) (Or.inl ⟨by rfl, fun W hW => ?_⟩) hS0 ?_
    · obtain ⟨hW0, hW1, hW2, hW3, hW4, hW5⟩ := hW
      go_simp
    simp only [Act.put]
    refine AnyM.takeC [12, 13] 2 (.int .i64 (k : Int)) rfl (by kernel_rfl) (by kernel_rfl) (by kernel_rfl) (by kernel_rfl) (fun _ _ _ h => h) (Or.inl ⟨by rfl, fun W hW => ?_⟩) hS0 ?_
    · obtain ⟨hW0, hW1, hW2, hW3, hW4, hW5⟩ := hW
      go_simp
    simp only [Act.put]
    refine AnyM.takeC [4, 12, 13] 3 (.pointer (some ⟨q, 2, none⟩)) rfl (by kernel_rfl) (by kernel_rfl) (by kernel_rfl) (by kernel_rfl) (fun _ _ _ h => h) (Or.inl ⟨by rfl, fun W hW => ?_⟩) hS0 ?_
    · obtain ⟨hW0, hW1, hW2, hW3, hW4, hW5⟩ := hW
      go_simp
    simp only [Act.put]
    refine AnyM.takeC [12, 13] 4 (.int .i64 mn) rfl (by kernel_rfl) (by kernel_rfl) (by kernel_rfl) (by kernel_rfl) (fun _ _ _ h => h) (Or.inl ⟨by rfl, fun W hW => ?_⟩) hS0 ?_
    · obtain ⟨hW0, hW1, hW2, hW3, hW4, hW5⟩ := hW
      go_simp
    simp only [Act.put]
    refine AnyM.takeC [6, 12, 13] 5 (.pointer (some ⟨q, 3, none⟩)) rfl (by kernel_rfl) (by kernel_rfl) (by kernel_rfl) (by kernel_rfl) (fun _ _ _ h => h) (Or.inl ⟨by rfl, fun W hW => ?_⟩) hS0 ?_
    · obtain ⟨hW0, hW1, hW2, hW3, hW4, hW5⟩ := hW
      go_simp
    simp only [Act.put]
    refine AnyM.takeC [12, 13] 6 (.int .i64 mu) rfl (by kernel_rfl) (by kernel_rfl) (by kernel_rfl) (by kernel_rfl) (fun _ _ _ h => h) (Or.inl ⟨by rfl, fun W hW => ?_⟩) hS0 ?_
    · obtain ⟨hW0, hW1, hW2, hW3, hW4, hW5⟩ := hW
      go_simp
    simp only [Act.put]
    refine AnyM.takeC [8, 9, 10, 11, 12, 13] 7 (.pointer (some ⟨p, 0, none⟩)) rfl (by kernel_rfl) (by kernel_rfl) (by kernel_rfl) (by kernel_rfl) (fun _ _ _ h => h) (Or.inl ⟨by rfl, fun W hW => ?_⟩) hS0 ?_
    · obtain ⟨hW0, hW1, hW2, hW3, hW4, hW5⟩ := hW
      go_simp
    simp only [Act.put]
    refine AnyM.takeC [9, 10, 11, 12, 13] 8 (.pointer (some ⟨p, 0, none⟩)) rfl (by kernel_rfl) (by kernel_rfl) (by kernel_rfl) (by kernel_rfl) (fun _ _ _ h => h) (Or.inl ⟨by rfl, fun W hW => ?_⟩) hS0 ?_
    · obtain ⟨hW0, hW1, hW2, hW3, hW4, hW5⟩ := hW
      go_simp
    simp only [Act.put]
    refine AnyM.takeC [10, 11, 12, 13] 9 (.pointer (some ⟨p, 1, none⟩)) rfl (by kernel_rfl) (by kernel_rfl) (by kernel_rfl) (by kernel_rfl) (fun _ _ _ h => h) (Or.inl ⟨by rfl, fun W hW => ?_⟩) hS0 ?_
    · obtain ⟨hW0, hW1, hW2, hW3, hW4, hW5⟩ := hW
      go_simp
    simp only [Act.put]
    refine AnyM.takeC [11, 12, 13] 10 (.pointer (some ⟨p, 1, none⟩)) rfl (by kernel_rfl) (by kernel_rfl) (by kernel_rfl) (by kernel_rfl) (fun _ _ _ h => h) (Or.inl ⟨by rfl, fun W hW => ?_⟩) hS0 ?_
    · obtain ⟨hW0, hW1, hW2, hW3, hW4, hW5⟩ := hW
      go_simp
    simp only [Act.put]
    refine AnyM.takeC [12, 13] 11 (.int .i64 me) rfl (by kernel_rfl) (by kernel_rfl) (by kernel_rfl) (by kernel_rfl) (fun _ _ _ h => h) (Or.inl ⟨by rfl, fun W hW => ?_⟩) hS0 ?_
    · obtain ⟨hW0, hW1, hW2, hW3, hW4, hW5⟩ := hW
      go_simp
    simp only [Act.put]
    refine AnyM.takeC [13] 12 (.agg #[.int .i64 4, .int .i64 (k : Int), .int .i64 mn, .int .i64 mu, .int .i64 me]) rfl (by kernel_rfl) (by kernel_rfl) (by kernel_rfl) (by kernel_rfl) (fun _ _ _ h => h) (Or.inl ⟨by rfl, fun W hW => ?_⟩) hS0 ?_
    · obtain ⟨hW0, hW1, hW2, hW3, hW4, hW5⟩ := hW
      go_simp
    simp only [Act.put]
    refine AnyM.one 13 (by kernel_rfl) rfl ?_
    intro K' hK
    rw [if_pos (by rfl)]
    go_wp2_with fail
    refine (HTo.out V.drew HD2.out).mono ?_
    rintro e w3 ⟨s2, rfl, hc, hv, hb⟩
    have HC3 := Lib.hid hc
    have HV3 := Lib.hid hv
    have HB3 := Lib.hid hb
    clear hc hv hb
    refine hK.out _ _ (fun h => absurd rfl h) ?_
    clear hK
    refine AnyM.one 14 (by kernel_rfl) rfl ?_
    intro K' hK
    rw [if_pos (by rfl)]
    go_wp2_with fail
    refine hK.out _ _ (fun _ h => absurd (h.symm.trans (by kernel_rfl : Array.getD _ _ _ = true)) (by decide)) ?_
    clear hK
    refine AnyM.done (by kernel_rfl) ?_ _
    refine NoPanic.normal ?_
    go_wp2
    go_ret
    have e1 := HE.out
    exact ⟨s2, by rw [← e1]; rfl, HC3.out, by rw [HV3.out, ← e1], (HB1.out.mono HB.out).trans ((HD2.out.mono (Nat.le_trans HB.out HB1.out.size)).trans HB3.out)⟩
  · have t1 : (a == me) = false := by simpa using hn
    have hgp := good_parts.1 HGo.out
    have hin : a ∈ nbsI ps s.v.me := by
      rcases HAr.out with e | e
      · exact absurd (by rw [HVa.out, e, HMe.out]; rfl) hn
      · rw [HVa.out]; exact e
    obtain ⟨i, hi⟩ := edge_there hgp.2.2.1 hin
    have HE : Hid ((Rs, Re) = pushS s.v a ⟨mk, (k : Int), mn, mu, mv⟩) := Lib.hid (by rw [HR.out]; unfold seekS; rw [if_pos (fun h9 => hn (by rw [HMe.out, ← show s.v.me = s.me from rfl, ← h9]; show a = (objA s.v ((k : Int)).toNat).a; rw [Int.toNat_natCast, HA.out, HVa.out]))]; show pushS s.v (objA s.v ((k : Int)).toNat).a _ = _; rw [Int.toNat_natCast, HA.out, HVa.out])
    have HPu : Hid (∀ W, Below W1.heap.size W1 W → Calls Try.prog 77 #[.pointer (some ⟨p, 0, none⟩), .int .i64 a, .agg #[.int .i64 mk, .int .i64 (k : Int), .int .i64 mn, .int .i64 mu, .int .i64 mv]] W fun e w' => e = .returned (.int .i64 (pushS s.v a ⟨mk, (k : Int), mn, mu, mv⟩).2) ∧ ∃ s2, Chg w' B p T g ps s2 ∧ s2.v = (pushS s.v a ⟨mk, (k : Int), mn, mu, mv⟩).1 ∧ Below B W w') := Lib.hid (fun W hW => push_any (HC1.out.below hW) HG.out hgp.2.2.1 hi (m := ⟨mk, (k : Int), mn, mu, mv⟩) HI.out)
    clear hn hgp hi hin
    go_enter Try.func63, Try.ntmps63
    go_wp2_with fail
    rw [← hW1, ← hq]
    clear hW1 hq
    go_quiet (fail)
    revert nq; intro nq1
    obtain ⟨V, hV⟩ : ∃ V, V = W1.drewN nq1 := ⟨_, rfl⟩
    have hb2 : Below W1.heap.size W1 V := hV ▸ below_drewC (Below.refl _ _) _
    have HB2 := Lib.hid hb2
    rw [← hV]
    clear hV
    clear x1 y0 y1 y2 y3 y4 x2 z0
    obtain ⟨⟨x1, y0, y1, y2, y3, y4⟩, x2, z0⟩ := HX.out V hb2
    clear hb2
    go_wp2_with fail
    refine (HPu.out V HB2.out).mono ?_
    rintro e w3 ⟨rfl, s2, hc, hv, hb⟩
    have HC3 := Lib.hid hc
    have HV3 := Lib.hid hv
    have HB3 := Lib.hid hb
    clear hc hv hb x1 y0 y1 y2 y3 y4 x2 z0
    go_wp2
    go_ret
    have e1 := HE.out
    exact ⟨s2, by rw [← e1]; rfl, HC3.out.x, by rw [HV3.out, ← e1], (HB1.out.mono HB.out).trans ((HB2.out.mono (Nat.le_trans HB.out HB1.out.size)).trans HB3.out)⟩
end Go.Proofs.Ytiaafhcfeeekeaa.Pk
