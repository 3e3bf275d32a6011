/- The document's disk: Load; what the document says of one call. -/
import Derived.Test.YtgocfkjibcokjaaDkRef5
import Derived.Test.YtgocfkjibcokjaaDkDoes
namespace Go.Proofs.Ytgocfkjibcokjaa.Pk
open Go.RowKit Go.Proofs.Ytgocfkjibcokjaa.Dk Go.Proofs.Ytgocfkjibcokjaa.Ar
set_option linter.unusedVariables false

/-- The document's new disk is answered. -/
def NwR (d : DK) (w : World) (e : Ending) (w' : World) : Prop := ∃ R S, e = .returned (.pointer (some ⟨R, 0, none⟩)) ∧ DkR w' R d S ∧ (∀ b, S b → w.heap.size ≤ b) ∧ Below w.heap.size w w'
theorem DkR.empty (w : World) : DkR (w.alloc (.cells (rcs (fun _ => .slice none 0 0) (DK.new [] [])) 60)) w.heap.size (DK.new [] []) (rbl w.heap.size (fun _ => .slice none 0 0)) :=
  ⟨fun _ => .slice none 0 0, Blk.new w _ _, ⟨fun k hk => by
    have : rl (DK.new [] []) k = [] := by
      unfold rl DK.new
      split
      · rfl
      split
      · rfl
      split
      · rfl
      · rfl
    rw [this]; exact RefS.nil_ _, fun k g _ e => by simp [Value.ownBlock] at e, fun j k g _ _ _ e => by simp [Value.ownBlock] at e, fun k _ e => by simp [Value.ownBlock] at e⟩, rfl⟩

set_option maxHeartbeats 3200000 in
theorem load_ref (A A' : Option Addr) (n c n' c' : Nat) (a b : List Int) (w : World) (ha : Reads w w.heap.size 1 A n (bts a)) (hb : Reads w w.heap.size 1 A' n' (bts b)) (hn : n ≤ 140737488355328) (hn' : n' ≤ 140737488355328) :
    Calls Try.prog 24 #[.slice A n c, .slice A' n' c'] w (NwR (DK.new a b) w) := by
  obtain ⟨W, hW⟩ : ∃ W, W = w.alloc (.cells (rcs (fun _ => .slice none 0 0) (DK.new [] [])) 60) := ⟨_, rfl⟩
  obtain ⟨R, hR⟩ : ∃ R, R = w.heap.size := ⟨_, rfl⟩
  have h0 := DkR.empty w
  rw [← hW, ← hR] at h0
  have hbw : Below w.heap.size w W := by rw [hW]; exact (Below.refl _ _).alloc (Nat.le_refl _) _
  have HW : Hid (w.alloc (.cells #[.slice none 0 0, .slice none 0 0, .slice none 0 0, .slice none 0 0, .bool true, .int .i64 0, .int .i64 0, .int .i64 0] 60) = W) := Lib.hid hW.symm
  have HR := Lib.hid hR
  have HBW := Lib.hid hbw
  have HA := Lib.hid ((ha.below hbw).more hbw.size)
  have HB := Lib.hid hb
  have hrs : R < W.heap.size := h0.lt R h0.self
  obtain ⟨v0, hk0, hv0, hS0⟩ := h0
  have HK0 := Lib.hid hk0
  have HV0 := Lib.hid hv0
  have x0 : W.cell? ⟨R, 0, none⟩ = some (v0 0) := by rw [hk0.cell]; rfl
  have y0 : W.frozen? ⟨R, 0, none⟩ = false := hk0.frozen 0
  have x1 : W.cell? ⟨R, 1, none⟩ = some (v0 1) := by rw [hk0.cell]; rfl
  have y1 : W.frozen? ⟨R, 1, none⟩ = false := hk0.frozen 1
  have HS0 : Hid (∀ b, rbl R v0 b → R ≤ b) := Lib.hid (by
    rw [← hS0]
    rintro b (rfl | ⟨k, _, e⟩)
    · exact Nat.le_refl _
    · simp [Value.ownBlock] at e)
  clear ha hb hW hbw hk0 hv0 hS0 hR
  go_enter Try.func24, Try.ntmps24
  go_wp2_with fail
  rw [HW.out, ← HR.out]
  clear HW
  go_region_law (refine stepE _ W.heap.size rfl (.tmp 9) (.tmp 10) rfl rfl (OwnB.fresh _ _ (Nat.le_refl _)) W.heap.size A c a n rfl (HA.out.alloc (Nat.le_refl _) _) (by omega) (by simp) ?_; intro A10 n10 c10 w10 hown10 hb10; have hb10' : Below W.heap.size W w10 := (below_drew_alloc W _).trans hb10; have z0 : w10.cell? ⟨R, 0, none⟩ = some (v0 0) := (hb10'.cell (p := ⟨R, 0, none⟩) hrs).trans x0; have z1 : w10.cell? ⟨R, 1, none⟩ = some (v0 1) := (hb10'.cell (p := ⟨R, 1, none⟩) hrs).trans x1; have zf0 : w10.frozen? ⟨R, 0, none⟩ = false := (HK0.out.below hb10' HK0.out.lt).frozen 0; have HW10 := Lib.hid hown10; have HB10 := Lib.hid hb10'; clear hown10 hb10 hb10')
  all_goals
    have P := RefV.put (k := 0) (w1 := w10) (l := a) (d' := (⟨⟨a, []⟩, ⟨[], []⟩, true, 0, 0, 0⟩ : DK)) HK0.out HV0.out (by omega) (grown_of_below HB10.out _) (RefS.own HW10.out) HW10.out.lt (fun g e => .inr (HW10.out.base g e)) (four rfl rfl rfl rfl) ⟨rfl, rfl, rfl, rfl⟩
    obtain ⟨W2, hW2⟩ : ∃ W2, W2 = w10.setCell ⟨R, 0, none⟩ (.slice A10 n10 c10) := ⟨_, rfl⟩
    rw [← hW2] at P
    have HP := Lib.hid P
    obtain ⟨⟨v2, hk2, hv2, hS2⟩, t2, g2⟩ := P
    rw [hS2] at g2
    have hs2 : W.heap.size ≤ W2.heap.size := t2.size
    have HB2 : Hid (Below w.heap.size w W2) := Lib.hid (t2.below HBW.out HBW.out.size (fun b hb => by have := HS0.out b hb; have := HR.out; omega))
    have HS2 : Hid (∀ b, rbl R v2 b → R ≤ b) := Lib.hid (fun b hb => by
      rcases g2 b hb with h1 | h1
      · exact HS0.out b h1
      · omega)
    have HBr2 : Hid (Reads W2 W2.heap.size 1 A' n' (bts b)) := Lib.hid ((HB.out.below HB2.out).more HB2.out.size)
    have HK2 := Lib.hid hk2
    have HV2 := Lib.hid hv2
    have u1 : W2.cell? ⟨R, 1, none⟩ = some (v2 1) := by rw [hk2.cell]; rfl
    have uf1 : W2.frozen? ⟨R, 1, none⟩ = false := hk2.frozen 1
    have hrs2 : R < W2.heap.size := hk2.lt
    clear hk2 hv2 hS2 t2 g2 HP x0 y0 x1 y1
    go_wp2_with fail
    rw [← hW2]
    clear hW2 z0 z1 zf0
    go_region_law (refine stepE _ W2.heap.size rfl (.tmp 16) (.tmp 17) rfl rfl (OwnB.fresh _ _ (Nat.le_refl _)) W2.heap.size A' c' b n' rfl (HBr2.out.alloc (Nat.le_refl _) _) (by omega) (by simp) ?_; intro A11 n11 c11 w11 hown11 hb11; have hb11' : Below W2.heap.size W2 w11 := (below_drew_alloc W2 _).trans hb11; have z1 : w11.cell? ⟨R, 1, none⟩ = some (v2 1) := (hb11'.cell (p := ⟨R, 1, none⟩) hrs2).trans u1; have zf1 : w11.frozen? ⟨R, 1, none⟩ = false := (HK2.out.below hb11' HK2.out.lt).frozen 1; have HW11 := Lib.hid hown11; have HB11 := Lib.hid hb11'; clear hown11 hb11 hb11')
    all_goals
      have P := RefV.put (k := 1) (w1 := w11) (l := b) (d' := DK.new a b) HK2.out HV2.out (by omega) (grown_of_below HB11.out _) (RefS.own HW11.out) HW11.out.lt (fun g e => .inr (HW11.out.base g e)) (four rfl rfl rfl rfl) ⟨rfl, rfl, rfl, rfl⟩
      have HP := Lib.hid P
      clear P
      go_wp2
      go_ret
      refine ⟨R, _, rfl, HP.out.1, fun b hb => ?_, HP.out.2.1.below HB2.out HB2.out.size (fun b hb => by have := HS2.out b hb; have := HR.out; omega)⟩
      rcases HP.out.2.2 b hb with h1 | h1
      · have := HS2.out b h1; have := HR.out; omega
      · have := HB2.out.size; omega

/-- What the document says of a call: bytes of its own, an error, the disk behind it. -/
def DoR (R : Nat) (d' : DK) (S : Nat → Prop) (l : List Int) (x : Int) (w : World) (e : Ending) (w' : World) : Prop :=
  ∃ A n c, e = .returned (.tuple #[.slice A n c, .int .i64 x]) ∧ ∃ S', DkR w' R d' S' ∧ Turned S w w' ∧ From S S' w ∧ OwnB w' w.heap.size (.slice A n c) l ∧ (∀ g, (Value.slice A n c).ownBlock = some g → ¬ S' g)
theorem DoR.of {R : Nat} {d' : DK} {S : Nat → Prop} {x : Int} {w w1 w2 : World} {v : Value} {e : Ending} (h : AftR R d' S w1 v e w2) (h1 : Below w.heap.size w w1) : DoR R d' S [] x w (.returned (.tuple #[.slice none 0 0, .int .i64 x])) w2 := by
  obtain ⟨_, S', h2, t, g⟩ := h
  exact ⟨none, 0, 0, rfl, S', h2, (Turned.of h1 (Nat.le_refl _) S).trans t (fun _ _ h => h), g.back h1.size, OwnB.nil_ _ _, fun g e => by simp [Value.ownBlock] at e⟩
theorem DoR.rd {R : Nat} {d : DK} {S : Nat → Prop} {x : Int} {l : List Int} {w w1 w2 : World} {A : Option Addr} {n c : Nat} (h : DkR w1 R d S) (ho : OwnB w2 w1.heap.size (.slice A n c) l) (hb : Below w1.heap.size w1 w2) (h1 : Below w.heap.size w w1) : DoR R d S l x w (.returned (.tuple #[.slice A n c, .int .i64 x])) w2 := by
  refine ⟨A, n, c, rfl, S, h.next hb, (Turned.of h1 (Nat.le_refl _) S).next hb, From.refl _ _, ho.mono h1.size, fun g e hs => ?_⟩
  have := ho.base g e
  have := h.lt g hs
  omega

set_option maxHeartbeats 3200000 in
theorem says_any (R : Nat) (d : DK) (S : Nat → Prop) (o : Cm) (A : Option Addr) (m c : Nat) (w : World) (h : DkR w R d S) (hr : Reads w w.heap.size 1 A m (bts o.b)) (M q : Nat) (hfit : d.fit M q) (hM : M + m ≤ 140737488355328) (hq : q ≤ 4611686018427387904) :
    Calls Try.prog 26 #[.pointer (some ⟨R, 0, none⟩), .agg (ocell o A m c)] w (DoR R (d.does o) S (d.doesB o) (d.doesE o) w) := by
  have HB : Hid (Below w.heap.size w (w.alloc (.cells (ocell o A m c) 53))) := Lib.hid ((Below.refl _ _).alloc (Nat.le_refl _) _)
  have H : Hid (DkR (w.alloc (.cells (ocell o A m c) 53)) R d S) := Lib.hid (h.next HB.out)
  have HR : Hid (Reads (w.alloc (.cells (ocell o A m c) 53)) (w.alloc (.cells (ocell o A m c) 53)).heap.size 1 A m (bts o.b)) := Lib.hid ((hr.alloc (Nat.le_refl _) _).more (by simp))
  have HF := Lib.hid hfit
  have HL : Hid (d.f0.all.length ≤ 140737488355328 ∧ d.f1.all.length ≤ 140737488355328) := Lib.hid ⟨Nat.le_trans hfit.l0 (by omega), Nat.le_trans hfit.l1 (by omega)⟩
  clear h hr hfit
  obtain ⟨kd, f, n, k, b⟩ := o
  unfold ocell at H HR HB ⊢
  simp only at H HR HB ⊢
  by_cases h0 : kd = 0
  · subst h0
    have HD : Hid (d.does ⟨0, f, n, k, b⟩ = d.app f b ∧ d.doesE ⟨0, f, n, k, b⟩ = d.appE f ∧ d.doesB ⟨0, f, n, k, b⟩ = []) := Lib.hid ⟨rfl, rfl, rfl⟩
    go_enter Try.func26, Try.ntmps26
    go_wp2_with fail
    refine (append_ref R f A m c b d S _ H.out HR.out M q HF.out hM hq).mono ?_
    intro e w1 ha
    obtain ⟨rfl, ha'⟩ := id ha
    have HA := Lib.hid ha
    clear ha ha'
    go_wp2
    go_ret2
    rw [HD.out.1, HD.out.2.1, HD.out.2.2]
    exact DoR.of HA.out HB.out
  by_cases h1 : kd = 1
  · subst h1
    have HD : Hid (d.does ⟨1, f, n, k, b⟩ = d.syn f ∧ d.doesE ⟨1, f, n, k, b⟩ = d.appE f ∧ d.doesB ⟨1, f, n, k, b⟩ = []) := Lib.hid ⟨rfl, rfl, rfl⟩
    go_enter Try.func26, Try.ntmps26
    go_wp2_with fail
    refine (sync_ref R f d S _ H.out M q HF.out (by omega) hq).mono ?_
    intro e w1 ha
    obtain ⟨rfl, ha'⟩ := id ha
    have HA := Lib.hid ha
    clear ha ha'
    go_wp2
    go_ret2
    rw [HD.out.1, HD.out.2.1, HD.out.2.2]
    exact DoR.of HA.out HB.out
  by_cases h2 : kd = 2
  · subst h2
    have HD : Hid (d.does ⟨2, f, n, k, b⟩ = d.tru f n ∧ d.doesE ⟨2, f, n, k, b⟩ = d.truE f n ∧ d.doesB ⟨2, f, n, k, b⟩ = []) := Lib.hid ⟨rfl, rfl, rfl⟩
    go_enter Try.func26, Try.ntmps26
    go_wp2_with fail
    refine (trunc_ref R f n d S _ H.out M q HF.out (by omega) hq).mono ?_
    intro e w1 ha
    obtain ⟨rfl, ha'⟩ := id ha
    have HA := Lib.hid ha
    clear ha ha'
    go_wp2
    go_ret2
    rw [HD.out.1, HD.out.2.1, HD.out.2.2]
    exact DoR.of HA.out HB.out
  by_cases h3 : kd = 3
  · subst h3
    have HD : Hid (d.does ⟨3, f, n, k, b⟩ = d.arm n k ∧ d.doesE ⟨3, f, n, k, b⟩ = 0 ∧ d.doesB ⟨3, f, n, k, b⟩ = []) := Lib.hid ⟨rfl, rfl, rfl⟩
    go_enter Try.func26, Try.ntmps26
    go_wp2_with fail
    refine (arm_ref R n k d S _ H.out).mono ?_
    intro e w1 ha
    obtain ⟨rfl, ha'⟩ := id ha
    have HA := Lib.hid ha
    clear ha ha'
    go_wp2
    go_ret2
    rw [HD.out.1, HD.out.2.1, HD.out.2.2]
    exact DoR.of HA.out HB.out
  by_cases h4 : kd = 4
  · subst h4
    have HD : Hid (d.does ⟨4, f, n, k, b⟩ = d.offs k ∧ d.doesE ⟨4, f, n, k, b⟩ = 0 ∧ d.doesB ⟨4, f, n, k, b⟩ = []) := Lib.hid ⟨rfl, rfl, rfl⟩
    go_enter Try.func26, Try.ntmps26
    go_wp2_with fail
    refine (off_ref R k d S _ H.out HL.out.1 HL.out.2).mono ?_
    intro e w1 ha
    obtain ⟨rfl, ha'⟩ := id ha
    have HA := Lib.hid ha
    clear ha ha'
    go_wp2
    go_ret2
    rw [HD.out.1, HD.out.2.1, HD.out.2.2]
    exact DoR.of HA.out HB.out
  by_cases h5 : kd = 5
  · subst h5
    have HD : Hid (d.does ⟨5, f, n, k, b⟩ = d.ons ∧ d.doesE ⟨5, f, n, k, b⟩ = 0 ∧ d.doesB ⟨5, f, n, k, b⟩ = []) := Lib.hid ⟨rfl, rfl, rfl⟩
    obtain ⟨W, hW⟩ : ∃ W, W = w.alloc (Obj.cells #[Value.int IntKind.i64 5, Value.int IntKind.i64 f, Value.int IntKind.i64 n, Value.int IntKind.i64 k, Value.slice A m c] 53) := ⟨_, rfl⟩
    rw [← hW] at H HB
    have hd := H.out.num (d' := d.ons) 4 (.bool true) rfl (fun v => rfl)
    obtain ⟨v, hbk, hv, hS⟩ := H.out
    have c4 : W.cell? ⟨R, 4, none⟩ = some (.bool d.on) := by rw [hbk.cell]; rfl
    have f4 : W.frozen? ⟨R, 4, none⟩ = false := hbk.frozen 4
    have HX : Hid (AftR R d.ons S W (.tuple #[]) (.returned (.tuple #[])) (W.setCell ⟨R, 4, none⟩ (.bool true))) := Lib.hid ⟨rfl, S, hd, (Turned.refl _ _).set H.out.self _, From.refl _ _⟩
    have HW := Lib.hid hW
    rw [hW] at c4 f4
    clear hbk hv hS hd hW HR
    go_enter Try.func26, Try.ntmps26
    go_wp2
    rw [← HW.out]
    go_ret2
    rw [HD.out.1, HD.out.2.1, HD.out.2.2]
    exact DoR.of HX.out HB.out
  by_cases h6 : kd = 6
  · subst h6
    by_cases hf : f = 0 ∨ f = 1
    rotate_left
    · have HD : Hid (d.does ⟨6, f, n, k, b⟩ = d ∧ d.doesE ⟨6, f, n, k, b⟩ = 1 ∧ d.doesB ⟨6, f, n, k, b⟩ = []) := Lib.hid (by
        have e1 : d.no f = 1 := no_cases hf
        refine ⟨rfl, e1, ?_⟩
        show d.rd f = []
        unfold DK.rd
        rw [e1]; rfl)
      have tn0 : (f != 0) = true := by simp only [bne_iff_ne]; exact fun e => hf (.inl e)
      have tn1 : (f != 1) = true := by simp only [bne_iff_ne]; exact fun e => hf (.inr e)
      clear hf
      go_enter Try.func26, Try.ntmps26
      go_wp2
      go_ret2
      rw [HD.out.1, HD.out.2.1, HD.out.2.2]
      exact DoR.of (v := .tuple #[]) (AftR.same H.out) HB.out
    have HA := Lib.hid (all_ref R f hf d S _ H.out HL.out.1 HL.out.2)
    have c4 : (w.alloc (Obj.cells #[Value.int IntKind.i64 6, Value.int IntKind.i64 f, Value.int IntKind.i64 n, Value.int IntKind.i64 k, Value.slice A m c] 53)).cell? ⟨R, 4, none⟩ = some (.bool d.on) := by
      obtain ⟨v, hbk, hv, hS⟩ := H.out
      rw [hbk.cell]; rfl
    by_cases hon : d.on = true
    · have HD : Hid (d.does ⟨6, f, n, k, b⟩ = d ∧ d.doesE ⟨6, f, n, k, b⟩ = 0 ∧ d.doesB ⟨6, f, n, k, b⟩ = (d.get f).all) := Lib.hid (by
        have e1 : d.no f = 0 := by unfold DK.no; rw [if_pos hf, if_pos hon]
        refine ⟨rfl, e1, ?_⟩
        show d.rd f = _
        unfold DK.rd
        rw [e1, if_pos rfl])
      rw [hon] at c4
      clear hon
      rcases hf with rfl | rfl
      all_goals
        go_enter Try.func26, Try.ntmps26
        go_wp2_with fail
        refine HA.out.mono ?_
        rintro e w1 ⟨A1, n1, c1, rfl, ho, hb⟩
        have HX := Lib.hid (And.intro ho hb)
        clear ho hb c4
        go_wp2
        go_ret2
        rw [HD.out.1, HD.out.2.1, HD.out.2.2]
        exact DoR.rd H.out HX.out.1 HX.out.2 HB.out
    · have HD : Hid (d.does ⟨6, f, n, k, b⟩ = d ∧ d.doesE ⟨6, f, n, k, b⟩ = 40 ∧ d.doesB ⟨6, f, n, k, b⟩ = []) := Lib.hid (by
        have e1 : d.no f = 40 := by unfold DK.no; rw [if_pos hf, if_neg hon]
        refine ⟨rfl, e1, ?_⟩
        show d.rd f = _
        unfold DK.rd
        rw [e1]; rfl)
      have hon' : d.on = false := by simpa using hon
      rw [hon'] at c4
      clear hon hon' HA
      rcases hf with rfl | rfl
      all_goals
        go_enter Try.func26, Try.ntmps26
        go_wp2
        go_ret2
        rw [HD.out.1, HD.out.2.1, HD.out.2.2]
        exact DoR.of (v := .tuple #[]) (AftR.same H.out) HB.out
  have t0 : (kd == 0) = false := beq_eq_false_iff_ne.2 h0
  have t1 : (kd == 1) = false := beq_eq_false_iff_ne.2 h1
  have t2 : (kd == 2) = false := beq_eq_false_iff_ne.2 h2
  have t3 : (kd == 3) = false := beq_eq_false_iff_ne.2 h3
  have t4 : (kd == 4) = false := beq_eq_false_iff_ne.2 h4
  have t5 : (kd == 5) = false := beq_eq_false_iff_ne.2 h5
  have t6 : (kd == 6) = false := beq_eq_false_iff_ne.2 h6
  have HD : Hid (d.does ⟨kd, f, n, k, b⟩ = d ∧ d.doesE ⟨kd, f, n, k, b⟩ = 0 ∧ d.doesB ⟨kd, f, n, k, b⟩ = []) := Lib.hid (by
    unfold DK.does DK.doesE DK.doesB
    simp only [if_neg h0, if_neg h1, if_neg h2, if_neg h3, if_neg h4, if_neg h5, if_neg h6]
    exact ⟨trivial, trivial, trivial⟩)
  clear h0 h1 h2 h3 h4 h5 h6
  go_enter Try.func26, Try.ntmps26
  go_wp2
  go_ret2
  rw [HD.out.1, HD.out.2.1, HD.out.2.2]
  exact DoR.of (v := .tuple #[]) (AftR.same H.out) HB.out
end Go.Proofs.Ytgocfkjibcokjaa.Pk
