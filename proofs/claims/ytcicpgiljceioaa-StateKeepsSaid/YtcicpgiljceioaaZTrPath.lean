/- Package tree: Path, the function that it answers, and Dist. -/
import Derived.Test.YtcicpgiljceioaaZTrNext
import Derived.Test.YtcicpgiljceioaaZGrPathM
import Derived.RangeFuncKeeps
import Derived.Stop.RegionWithIn
namespace Go.Proofs.Ytcicpgiljceioaa.Pk
open Go.RowKit Go.Shelf Go.Proofs.Ytcicpgiljceioaa.Gr
set_option linter.unusedVariables false
attribute [local go_sem] Oper.semAt_some

theorem roundIn_any {m m' : Nat} {P : Program} {l : Nat} {f : FuncId} {tmps : Array Value} {assign body : Code} {w : World} {R : Ending → World → Prop}
    (h : RoundIn Fence.wide m P l f tmps assign body w R) : RoundIn Fence.wide m' P l f tmps assign body w R := ⟨h.1, fun c cs _ => h.2 c cs (room_wide _)⟩
theorem hdd (k : Nat) : Fence.wide.depth.isSome = true → 1 ≤ k := fun h => by cases h
theorem yieldAt_any {m : Nat} (m' : Nat) {P : Program} {l : Nat} {args : Array Value} {W : World} {R : Ending → World → Prop} (h : YieldAt Fence.wide m P l args W R) : YieldAt Fence.wide m' P l args W R := by
  obtain ⟨fn, tmps, assign, body, hy, hR⟩ := h
  exact ⟨fn, tmps, assign, body, hy, roundIn_any hR⟩
/-- One number, as a loop variable has it. -/
def enc1 (x : Int) : Array Value := #[Value.int .i64 x]
/-- A function that goes over numbers. -/
def SeqN (v : Value) (l : List Int) (R : Nat → Prop) (w : World) : Prop :=
  ∃ gf lb, v = .func (.func gf) #[] lb ∧ (∀ args u, (callFunc gf args).run Try.prog u = .ok (.enter gf args) u) ∧ (∀ b, R b → b < w.heap.size) ∧
    ∀ m W, 1 ≤ m → Stay R w W → SeqStopsK Fence.wide m Try.prog gf lb (fun x : Int => #[Value.int .i64 x]) (Stay R) (fun ys => ys = l) (fun pre => pre <+: l) l.length W
theorem SeqN.stay {v : Value} {l : List Int} {R : Nat → Prop} {w W : World} (h : SeqN v l R w) (hs : Stay R w W) : SeqN v l R W := by
  obtain ⟨gf, lb, e, h1, h2, h3⟩ := h
  exact ⟨gf, lb, e, h1, fun b hb => Nat.lt_of_lt_of_le (h2 b hb) hs.1, fun m W' hm hW => h3 m W' hm (hs.trans hW)⟩
theorem SeqN.lt {v : Value} {l : List Int} {R : Nat → Prop} {w : World} (h : SeqN v l R w) : ∀ b, R b → b < w.heap.size := by
  obtain ⟨_, _, _, _, h2, _⟩ := h
  exact h2
theorem SeqN.seq {gf : Nat} {lb : Array Value} {l : List Int} {R : Nat → Prop} {w : World} (h : SeqN (.func (.func gf) #[] lb) l R w) :
    SeqStopsK Fence.wide 8 Try.prog gf lb (fun x : Int => #[Value.int .i64 x]) (Stay R) (fun ys => ys = l) (fun pre => pre <+: l) l.length w := by
  obtain ⟨gf', lb', e, _, _, h3⟩ := h
  injection e with e1 _ e2
  injection e1 with e1
  subst e1; subst e2
  exact h3 8 w (by omega) (Stay.refl _ _)

/-- The blocks that a path reads. -/
def PathB (T g Bt Ba Bb : Nat) (b : Nat) : Prop := TrB T g b ∨ b = Bt ∨ b = Ba ∨ b = Bb
/-- What it finds there. -/
def PathAt (W : World) (T g Bt Ba Bb : Nat) (ps : List Int) (a b : Int) : Prop :=
  IsTr W T g ps ∧ W.cell? ⟨Bt, 0, none⟩ = some (.pointer (some ⟨T, 0, none⟩)) ∧ W.cell? ⟨Ba, 0, none⟩ = some (.int .i64 a) ∧ W.cell? ⟨Bb, 0, none⟩ = some (.int .i64 b)
theorem PathAt.stay {W W' : World} {T g Bt Ba Bb : Nat} {ps : List Int} {a b : Int} (h : PathAt W T g Bt Ba Bb ps a b) (hs : Stay (PathB T g Bt Ba Bb) W W') : PathAt W' T g Bt Ba Bb ps a b := by
  obtain ⟨h1, h2, h3, h4⟩ := h
  exact ⟨h1.stay (hs.sub fun b hb => .inl hb), (World.cell?_of_block (a := ⟨Bt, 0, none⟩) (hs.2 Bt (.inr (.inl rfl)))).trans h2,
    (World.cell?_of_block (a := ⟨Ba, 0, none⟩) (hs.2 Ba (.inr (.inr (.inl rfl))))).trans h3, (World.cell?_of_block (a := ⟨Bb, 0, none⟩) (hs.2 Bb (.inr (.inr (.inr rfl))))).trans h4⟩
theorem pathI_none {ps : List Int} {a b : Int} (h : hasB ps a = false ∨ hasB ps b = false) : pathI ps a b = [] := by
  unfold pathI
  apply if_neg
  rintro ⟨h1, h2⟩
  rcases h with h | h
  · exact of_decide_eq_false h h1
  · exact of_decide_eq_false h h2

set_option maxRecDepth 100000 in
set_option maxHeartbeats 4000000 in
theorem path1_in (m l T g Bt Ba Bb : Nat) (ps : List Int) (G : Gr.Good ps) (a b : Int) (J Jx : List Int → World → Prop)
    (hY : ∀ pre (x : Int) W, J pre W → pre ++ [x] <+: pathI ps a b → YieldAt Fence.wide (m - 1) Try.prog l #[.int .i64 x] W fun e W' =>
      (e = .returned (.bool true) ∧ J (pre ++ [x]) W' ∧ Stay (PathB T g Bt Ba Bb) W W') ∨ (e = .returned (.bool false) ∧ Jx (pre ++ [x]) W'))
    (W : World) (hP : PathAt W T g Bt Ba Bb ps a b) (h0 : J [] W) :
    CallsIn Fence.wide m Try.prog 77 #[.func (.yield l) #[] #[], .pointer (some ⟨Bt, 0, none⟩), .pointer (some ⟨Ba, 0, none⟩), .pointer (some ⟨Bb, 0, none⟩)] W fun e W' => (∃ v, e = .returned v) ∧
      ((∃ ys, ys = pathI ps a b ∧ J ys W') ∨ (∃ pre, pre <+: pathI ps a b ∧ Jx pre W')) := by
  have HP := Lib.hid hP
  have HHa := Lib.hid (has_any T g ps a W hP.1)
  have HHb := Lib.hid (has_any T g ps b W hP.1)
  obtain ⟨_, ct, ca, cb⟩ := hP
  have HY := Lib.hid hY
  have HJ0 := Lib.hid h0
  clear hY h0
  refine callsIn_of_wp Try.func77 rfl trivial ?_ rfl
  simp only [Try.ntmps77, List.size_toArray, List.length_cons, List.length_nil, Nat.reduceAdd, Nat.reduceSub, Array.replicate_succ, Array.replicate_zero, List.push_toArray, List.append_toArray, List.nil_append, List.cons_append]
  cases ha : hasB ps a with
  | false =>
    have HE := Lib.hid (pathI_none (a := a) (b := b) (.inl ha))
    rw [ha] at HHa
    gi_wp2_with (refine ⟨trivial, hdd _, ?_⟩; gi_at_call 56; refine (callsIn_wide.2 HHa.out).mono ?_; rintro e w1 ⟨rfl, hw⟩; rw [hw]; clear hw w1)
    refine ⟨trivial, ?_⟩
    gi_wp2
    first | go_end0 | refine bodyPost_ret (results_none rfl _ _ _) rfl ?_
    exact ⟨⟨_, rfl⟩, .inl ⟨[], HE.out.symm, HJ0.out⟩⟩
  | true =>
    cases hb : hasB ps b with
    | false =>
      have HE := Lib.hid (pathI_none (a := a) (b := b) (.inr hb))
      rw [ha] at HHa
      rw [hb] at HHb
      gi_wp2_with (refine ⟨trivial, hdd _, ?_⟩; gi_at_call 56; first | (refine (callsIn_wide.2 HHa.out).mono ?_; rintro e w1 ⟨rfl, hw⟩; rw [hw]; clear hw w1 HHa) | (refine (callsIn_wide.2 HHb.out).mono ?_; rintro e w1 ⟨rfl, hw⟩; rw [hw]; clear hw w1))
      first | go_end0 | refine bodyPost_ret (results_none rfl _ _ _) rfl ?_
      exact ⟨⟨_, rfl⟩, .inl ⟨[], HE.out.symm, HJ0.out⟩⟩
    | true =>
      rw [ha] at HHa
      rw [hb] at HHb
      have hva := of_decide_eq_true ha
      have hvb := of_decide_eq_true hb
      have HE : Hid (pathI ps a b = ints (pathN ps a.toNat b.toNat)) := Lib.hid (if_pos ⟨hva, hvb⟩)
      obtain ⟨x, rfl⟩ : ∃ x : Nat, a = (x : Int) := ⟨a.toNat, by omega⟩
      obtain ⟨y, rfl⟩ : ∃ y : Nat, b = (y : Int) := ⟨b.toNat, by omega⟩
      rw [Int.toNat_natCast, Int.toNat_natCast] at HE
      have HX : Hid (x < ps.length) := Lib.hid (by omega)
      have HY1 : Hid (y < ps.length) := Lib.hid (by omega)
      clear ha hb hva hvb
      gi_wp2_with (refine ⟨trivial, hdd _, ?_⟩; gi_at_call 56; first | (refine (callsIn_wide.2 HHa.out).mono ?_; rintro e w1 ⟨rfl, hw⟩; rw [hw]; clear hw w1 HHa) | (refine (callsIn_wide.2 HHb.out).mono ?_; rintro e w1 ⟨rfl, hw⟩; rw [hw]; clear hw w1))
      clear ct ca cb
      gi_loopw [5] (fun z wr => ∃ (t : Nat) (pre : List Int), z = .int .i64 t ∧ t < ps.length ∧ pre ++ ints (pathN ps t y) = pathI ps (x : Int) (y : Int) ∧ J pre wr ∧ PathAt wr T g Bt Ba Bb ps (x : Int) (y : Int)) (fun z _ => distL ps (intOf z).toNat y)
      case atStart => exact ⟨x, [], rfl, HX.out, by rw [HE.out]; rfl, HJ0.out, HP.out⟩
      case round =>
        obtain ⟨t, pre, rfl, ht, hpre, hJ, hP⟩ := hrel
        have HPr := Lib.hid hpre
        have HTt := Lib.hid ht
        have hsplit : Hid (∃ q, ints (pathN ps t y) = (t : Int) :: q ∧ (t = y → q = []) ∧ (t ≠ y → q = ints (pathN ps (nextN ps t y) y))) := Lib.hid (by
          by_cases hty : t = y
          · refine ⟨[], ?_, fun _ => rfl, fun h => absurd hty h⟩
            rw [hty, pathN_self]; rfl
          · refine ⟨_, ?_, fun h => absurd h hty, fun _ => rfl⟩
            rw [G.pathN_step ht HY1.out hty]; rfl)
        obtain ⟨q, hq, hq1, hq2⟩ := hsplit.out
        have HQ1 := Lib.hid hq1
        have HQ2 := Lib.hid hq2
        rw [hq] at HPr
        clear hpre hsplit hq hq1 hq2 ht
        have hlen : pre ++ [(t : Int)] <+: pathI ps (x : Int) (y : Int) := ⟨q, by rw [← HPr.out]; simp⟩
        obtain ⟨fn, tmps, assign, body, hy, hR⟩ := HY.out pre (t : Int) wr hJ hlen
        try dsimp only at hy
        have HRR := Lib.hid hR
        have HPa := Lib.hid hP
        clear hR hJ hP hlen
        obtain ⟨_, ct, ca, cb⟩ := HPa.out
        clear ct ca cb
        by_cases hty : t = y
        · have hq := HQ1.out hty
          subst hq
          have HFin : Hid (pre ++ [(t : Int)] = pathI ps (x : Int) (y : Int)) := HPr
          have t1 : ((t : Int) != (y : Int)) = false := by simp [hty]
          clear hty
          gi_wp2
          refine ⟨hdd _, HRR.out.mono ?_⟩
          rintro e W3 (⟨rfl, hJ3, hk3⟩ | ⟨rfl, hJx3⟩)
          · have cb : W3.cell? ⟨Bb, 0, none⟩ = some (.int .i64 (y : Int)) := (HPa.out.stay hk3).2.2.2
            have HJ3 := Lib.hid hJ3
            clear hJ3 hk3
            gi_wp2
            go_end0
            exact ⟨⟨_, rfl⟩, .inl ⟨_, HFin.out, HJ3.out⟩⟩
          · gi_wp2
            go_end0
            exact ⟨⟨_, rfl⟩, .inr ⟨_, ⟨[], by rw [List.append_nil]; exact HFin.out⟩, hJx3⟩⟩
        · have hq := HQ2.out hty
          have hN := G.nextN_is (a := t) (b := y) HTt.out HY1.out hty
          have HI : Hid (nextI ps (t : Int) (y : Int) = (nextN ps t y : Nat)) := Lib.hid (by have := HTt.out; have := HY1.out; unfold nextI; rw [if_pos (by omega), if_neg (by omega)]; rfl)
          have t1 : ((t : Int) != (y : Int)) = true := by simp; omega
          obtain ⟨m2, hm2⟩ : ∃ m2, m2 = nextN ps t y := ⟨_, rfl⟩
          rw [← hm2] at hN HI hq
          have HN := Lib.hid hN
          have HPr2 : Hid (pre ++ [(t : Int)] ++ ints (pathN ps m2 y) = pathI ps (x : Int) (y : Int)) := Lib.hid (by rw [← HPr.out, hq]; simp)
          clear hty hN hq hm2 HPr HQ1 HQ2
          gi_wp2
          refine ⟨hdd _, HRR.out.mono ?_⟩
          rintro e W3 (⟨rfl, hJ3, hk3⟩ | ⟨rfl, hJx3⟩)
          · have hP3 := HPa.out.stay hk3
            have HN3 := Lib.hid (nxt_any T g ps (t : Int) (y : Int) W3 hP3.1 G)
            rw [HI.out] at HN3
            have HP3 := Lib.hid hP3
            obtain ⟨_, ct, ca, cb⟩ := hP3
            have HJ3 := Lib.hid hJ3
            clear hJ3 hk3
            gi_wp2_with (refine ⟨trivial, hdd _, ?_⟩; gi_at_call 28; refine (callsIn_wide.2 HN3.out).mono ?_; rintro e w1 ⟨rfl, hw⟩; rw [hw]; clear hw w1)
            go_roundw
            case rel => exact ⟨m2, _, rfl, HN.out.1, HPr2.out, HJ3.out, HP3.out⟩
            case measure => have := HN.out.2.2; simp only [intOf, Int.toNat_natCast]; omega
          · gi_wp2
            go_end0
            exact ⟨⟨_, rfl⟩, .inr ⟨_, ⟨_, HPr2.out⟩, hJx3⟩⟩

theorem path_seq (T g Bt Ba Bb : Nat) (ps : List Int) (G : Gr.Good ps) (a b : Int) (w : World) (hP : PathAt w T g Bt Ba Bb ps a b) (hlt : ∀ x, PathB T g Bt Ba Bb x → x < w.heap.size) :
    SeqN (.func (.func 77) #[] #[.pointer (some ⟨Bt, 0, none⟩), .pointer (some ⟨Ba, 0, none⟩), .pointer (some ⟨Bb, 0, none⟩)]) (pathI ps a b) (PathB T g Bt Ba Bb) w := by
  refine ⟨_, _, rfl, enters_of Try.func77 (by kernel_rfl) rfl, hlt, ?_⟩
  intro m W hm hs l J Jx W1 hW hJ hJx hY h0
  have hs1 : Stay (PathB T g Bt Ba Bb) w W1 := hs.trans (Stay.below hW (fun b hb => Nat.lt_of_lt_of_le (hlt b hb) hs.1))
  exact path1_in m l T g Bt Ba Bb ps G a b J Jx (fun pre x W hj hp => hY pre x W hj (by have := hp.length_le; simp at this; omega)) W1 (hP.stay hs1) h0
/-- What Path leaves. -/
def PathR (D : Nat → Prop) (l : List Int) (w : World) (e : Ending) (w' : World) : Prop := ∃ v R, e = .returned v ∧ SeqN v l R w' ∧ Below w.heap.size w w' ∧ ∀ b, R b → D b ∨ w.heap.size ≤ b
theorem path_code (T g : Nat) (ps : List Int) (a b : Int) (w : World) (h : IsTr w T g ps) (G : Gr.Good ps) :
    Calls Try.prog 72 #[.pointer (some ⟨T, 0, none⟩), .int .i64 a, .int .i64 b] w (PathR (TrB T g) (pathI ps a b) w) := by
  have HT := Lib.hid h
  clear h
  go_enter Try.func72, Try.ntmps72
  go_wp2
  go_ret
  have k1 := ((Blk.new w 24 #[.pointer (some ⟨T, 0, none⟩)]).alloc (.cells #[.int .i64 a] 3)).alloc (.cells #[.int .i64 b] 3)
  have k2 := (Blk.new (w.alloc (.cells #[.pointer (some ⟨T, 0, none⟩)] 24)) 3 #[.int .i64 a]).alloc (.cells #[.int .i64 b] 3)
  have k3 := Blk.new ((w.alloc (.cells #[.pointer (some ⟨T, 0, none⟩)] 24)).alloc (.cells #[.int .i64 a] 3)) 3 #[.int .i64 b]
  have hb : Below w.heap.size w (((w.alloc (.cells #[.pointer (some ⟨T, 0, none⟩)] 24)).alloc (.cells #[.int .i64 a] 3)).alloc (.cells #[.int .i64 b] 3)) :=
    (((Below.refl _ w).alloc (Nat.le_refl _) _).alloc (by simp) _).alloc (by simp; omega) _
  have l1 := k1.lt
  have hT := HT.out.below_ hb
  refine ⟨_, PathB T g _ _ _, rfl, path_seq T g w.heap.size (w.heap.size + 1) (w.heap.size + 2) ps G a b _ ⟨hT, k1.cell 0, ?_, ?_⟩ ?_, hb, ?_⟩
  · have := k2.cell 0; simpa using this
  · have := k3.cell 0; simpa using this
  · rintro x (hx | rfl | rfl | rfl)
    · exact hT.lt x hx
    · exact l1
    · simp
    · simp
  · rintro x (hx | rfl | rfl | rfl)
    · exact .inl hx
    · exact .inr (Nat.le_refl _)
    · right; omega
    · right; omega

/-- A function that goes over numbers; a round is told that its number is one of them. -/
def SeqM (v : Value) (l : List Int) (R : Nat → Prop) (w : World) : Prop :=
  ∃ gf lb, v = .func (.func gf) #[] lb ∧ (∀ args u, (callFunc gf args).run Try.prog u = .ok (.enter gf args) u) ∧ (∀ b, R b → b < w.heap.size) ∧
    ∀ m W, 1 ≤ m → Stay R w W → SeqStopsK Fence.wide m Try.prog gf lb (fun x : { x : Int // x ∈ l } => #[Value.int .i64 x.1]) (Stay R) (fun ys => ys.map (·.1) = l) (fun pre => pre.map (·.1) <+: l) l.length W
theorem SeqM.stay {v : Value} {l : List Int} {R : Nat → Prop} {w W : World} (h : SeqM v l R w) (hs : Stay R w W) : SeqM v l R W := by
  obtain ⟨gf, lb, e, h1, h2, h3⟩ := h
  exact ⟨gf, lb, e, h1, fun b hb => Nat.lt_of_lt_of_le (h2 b hb) hs.1, fun m W' hm hW => h3 m W' hm (hs.trans hW)⟩
theorem SeqM.lt {v : Value} {l : List Int} {R : Nat → Prop} {w : World} (h : SeqM v l R w) : ∀ b, R b → b < w.heap.size := by
  obtain ⟨_, _, _, _, h2, _⟩ := h
  exact h2
theorem SeqM.seq {gf : Nat} {lb : Array Value} {l : List Int} {R : Nat → Prop} {w : World} (h : SeqM (.func (.func gf) #[] lb) l R w) :
    SeqStopsK Fence.wide 8 Try.prog gf lb (fun x : { x : Int // x ∈ l } => #[Value.int .i64 x.1]) (Stay R) (fun ys => ys.map (·.1) = l) (fun pre => pre.map (·.1) <+: l) l.length w := by
  obtain ⟨gf', lb', e, _, _, h3⟩ := h
  injection e with e1 _ e2
  injection e1 with e1
  subst e1; subst e2
  exact h3 8 w (by omega) (Stay.refl _ _)
theorem path_seqM (T g Bt Ba Bb : Nat) (ps : List Int) (G : Gr.Good ps) (a b : Int) (w : World) (hP : PathAt w T g Bt Ba Bb ps a b) (hlt : ∀ x, PathB T g Bt Ba Bb x → x < w.heap.size) :
    SeqM (.func (.func 77) #[] #[.pointer (some ⟨Bt, 0, none⟩), .pointer (some ⟨Ba, 0, none⟩), .pointer (some ⟨Bb, 0, none⟩)]) (pathI ps a b) (PathB T g Bt Ba Bb) w := by
  refine ⟨_, _, rfl, enters_of Try.func77 (by kernel_rfl) rfl, hlt, ?_⟩
  intro m W hm hs l J Jx W1 hW hJ hJx hY h0
  have hs1 : Stay (PathB T g Bt Ba Bb) w W1 := hs.trans (Stay.below hW (fun b hb => Nat.lt_of_lt_of_le (hlt b hb) hs.1))
  refine (path1_in m l T g Bt Ba Bb ps G a b (fun pre W => ∃ ys : List { x : Int // x ∈ pathI ps a b }, ys.map (·.1) = pre ∧ J ys W) (fun pre W => ∃ ys : List { x : Int // x ∈ pathI ps a b }, ys.map (·.1) = pre ∧ Jx ys W) (fun pre x W hj hp => ?_) W1 (hP.stay hs1) ⟨[], rfl, h0⟩).mono ?_
  · obtain ⟨ys, hys, hj⟩ := hj
    have hx : x ∈ pathI ps a b := hp.subset (by simp)
    refine (hY ys ⟨x, hx⟩ W hj ?_).mono ?_
    · have := hp.length_le
      rw [← hys] at this
      simp at this
      omega
    · rintro e W' (⟨h1, h2, h3⟩ | ⟨h1, h2⟩)
      · exact .inl ⟨h1, ⟨_, by rw [List.map_append, hys]; rfl, h2⟩, h3⟩
      · exact .inr ⟨h1, ⟨_, by rw [List.map_append, hys]; rfl, h2⟩⟩
  · rintro e W' ⟨h1, ⟨ys, rfl, zs, hzs, hj⟩ | ⟨pre, hp, zs, hzs, hj⟩⟩
    · exact ⟨h1, .inl ⟨zs, hzs, hj⟩⟩
    · exact ⟨h1, .inr ⟨zs, by show zs.map (·.1) <+: _; rw [hzs]; exact hp, hj⟩⟩
/-- What Path leaves, told so. -/
def PathM (D : Nat → Prop) (l : List Int) (w : World) (e : Ending) (w' : World) : Prop := ∃ v R, e = .returned v ∧ SeqM v l R w' ∧ Below w.heap.size w w' ∧ ∀ b, R b → D b ∨ w.heap.size ≤ b
theorem path_codeM (T g : Nat) (ps : List Int) (a b : Int) (w : World) (h : IsTr w T g ps) (G : Gr.Good ps) :
    Calls Try.prog 72 #[.pointer (some ⟨T, 0, none⟩), .int .i64 a, .int .i64 b] w (PathM (TrB T g) (pathI ps a b) w) := by
  have HT := Lib.hid h
  clear h
  go_enter Try.func72, Try.ntmps72
  go_wp2
  go_ret
  have k1 := ((Blk.new w 24 #[.pointer (some ⟨T, 0, none⟩)]).alloc (.cells #[.int .i64 a] 3)).alloc (.cells #[.int .i64 b] 3)
  have k2 := (Blk.new (w.alloc (.cells #[.pointer (some ⟨T, 0, none⟩)] 24)) 3 #[.int .i64 a]).alloc (.cells #[.int .i64 b] 3)
  have k3 := Blk.new ((w.alloc (.cells #[.pointer (some ⟨T, 0, none⟩)] 24)).alloc (.cells #[.int .i64 a] 3)) 3 #[.int .i64 b]
  have hb : Below w.heap.size w (((w.alloc (.cells #[.pointer (some ⟨T, 0, none⟩)] 24)).alloc (.cells #[.int .i64 a] 3)).alloc (.cells #[.int .i64 b] 3)) :=
    (((Below.refl _ w).alloc (Nat.le_refl _) _).alloc (by simp) _).alloc (by simp; omega) _
  have l1 := k1.lt
  have hT := HT.out.below_ hb
  refine ⟨_, PathB T g _ _ _, rfl, path_seqM T g w.heap.size (w.heap.size + 1) (w.heap.size + 2) ps G a b _ ⟨hT, k1.cell 0, ?_, ?_⟩ ?_, hb, ?_⟩
  · have := k2.cell 0; simpa using this
  · have := k3.cell 0; simpa using this
  · rintro x (hx | rfl | rfl | rfl)
    · exact hT.lt x hx
    · exact l1
    · simp
    · simp
  · rintro x (hx | rfl | rfl | rfl)
    · exact .inl hx
    · exact .inr (Nat.le_refl _)
    · right; omega
    · right; omega

/-! A nil tree. -/
theorem nbrs_nil (v : Int) (w : World) : Calls Try.prog 26 #[.pointer none, .int .i64 v] w fun e w' => e = .returned (.slice none 0 0) ∧ w' = w := by
  have H := Lib.hid (has_nil v w)
  go_enter Try.func26, Try.ntmps26
  go_wp2_with (go_at_call 56; refine H.out.mono ?_; rintro e w1 ⟨rfl, hw⟩; rw [hw]; clear hw w1)
  go_ret
  exact ⟨rfl, rfl⟩
theorem nxt_nil (a b : Int) (w : World) : Calls Try.prog 28 #[.pointer none, .int .i64 a, .int .i64 b] w fun e w' => e = .returned (.int .i64 (-1)) ∧ w' = w := by
  have H := Lib.hid (has_nil a w)
  go_enter Try.func28, Try.ntmps28
  go_wp2_with (go_at_call 56; refine H.out.mono ?_; rintro e w1 ⟨rfl, hw⟩; rw [hw]; clear hw w1)
  go_ret
  exact ⟨rfl, rfl⟩
set_option maxHeartbeats 1000000 in
theorem path1_nil (m l Bt Ba Bb : Nat) (a : Int) (J : List Int → World → Prop) (Q : World → Prop)
    (W : World) (ct : W.cell? ⟨Bt, 0, none⟩ = some (.pointer none)) (ca : W.cell? ⟨Ba, 0, none⟩ = some (.int .i64 a)) (h0 : J [] W) :
    CallsIn Fence.wide m Try.prog 77 #[.func (.yield l) #[] #[], .pointer (some ⟨Bt, 0, none⟩), .pointer (some ⟨Ba, 0, none⟩), .pointer (some ⟨Bb, 0, none⟩)] W fun e W' => (∃ v, e = .returned v) ∧
      ((∃ ys, ys = [] ∧ J ys W') ∨ (∃ pre, pre <+: ([] : List Int) ∧ Q W')) := by
  have HHa := Lib.hid (has_nil a W)
  have HJ0 := Lib.hid h0
  clear h0
  refine callsIn_of_wp Try.func77 rfl trivial ?_ rfl
  simp only [Try.ntmps77, List.size_toArray, List.length_cons, List.length_nil, Nat.reduceAdd, Nat.reduceSub, Array.replicate_succ, Array.replicate_zero, List.push_toArray, List.append_toArray, List.nil_append, List.cons_append]
  gi_wp2_with (refine ⟨trivial, hdd _, ?_⟩; gi_at_call 56; refine (callsIn_wide.2 HHa.out).mono ?_; rintro e w1 ⟨rfl, hw⟩; rw [hw]; clear hw w1)
  refine ⟨trivial, ?_⟩
  gi_wp2
  first | go_end0 | refine bodyPost_ret (results_none rfl _ _ _) rfl ?_
  exact ⟨⟨_, rfl⟩, .inl ⟨[], rfl, HJ0.out⟩⟩
theorem path_nil (a b : Int) (w : World) :
    Calls Try.prog 72 #[.pointer none, .int .i64 a, .int .i64 b] w (PathR (fun _ => False) [] w) := by
  go_enter Try.func72, Try.ntmps72
  go_wp2
  go_ret
  have k1 := ((Blk.new w 24 #[.pointer none]).alloc (.cells #[.int .i64 a] 3)).alloc (.cells #[.int .i64 b] 3)
  have k2 := (Blk.new (w.alloc (.cells #[.pointer none] 24)) 3 #[.int .i64 a]).alloc (.cells #[.int .i64 b] 3)
  rw [World.size_alloc] at k2
  have hb : Below w.heap.size w (((w.alloc (.cells #[.pointer none] 24)).alloc (.cells #[.int .i64 a] 3)).alloc (.cells #[.int .i64 b] 3)) :=
    (((Below.refl _ w).alloc (Nat.le_refl _) _).alloc (by simp) _).alloc (by simp; omega) _
  have l1 := k1.lt
  have l2 := k2.lt
  refine ⟨_, fun x => x = w.heap.size ∨ x = w.heap.size + 1, rfl, ⟨_, _, rfl, enters_of Try.func77 (by kernel_rfl) rfl, ?_, ?_⟩, hb, ?_⟩
  · rintro x (rfl | rfl)
    · exact l1
    · exact l2
  · intro m W hm hs l J Jx W1 hW hJ hJx hY h0
    have hs1 := hs.trans (Stay.below hW (D := fun x => x = w.heap.size ∨ x = w.heap.size + 1) (fun x hx => by
      have := hs.1
      rcases hx with rfl | rfl <;> omega))
    refine (path1_nil m l w.heap.size (w.heap.size + 1) (w.heap.size + 1 + 1) a J (fun _ => False) W1 ?_ ?_ h0).mono ?_
    · exact (World.cell?_of_block (a := ⟨w.heap.size, 0, none⟩) (hs1.2 _ (.inl rfl))).trans (k1.cell 0)
    · exact (World.cell?_of_block (a := ⟨w.heap.size + 1, 0, none⟩) (hs1.2 _ (.inr rfl))).trans (k2.cell 0)
    · rintro e W' ⟨h1, h2 | ⟨_, _, h2⟩⟩
      · exact ⟨h1, .inl h2⟩
      · exact h2.elim
  · rintro x (rfl | rfl)
    · exact .inr (Nat.le_refl _)
    · right; omega
end Go.Proofs.Ytcicpgiljceioaa.Pk
