/- Trees by their list of parents: where Next leads. -/
import Derived.Test.YtcicpgiljceioaaZGrNext
import Derived.Test.YtcicpgiljceioaaZStSpec
namespace Go.Proofs.Ytcicpgiljceioaa.Gr
set_option linter.unusedVariables false
variable {ps : List Int}
theorem Good.pa_par (G : Good ps) {v : Nat} (hv : v < ps.length) (h : pa ps v ≠ -1) : pa ps v = (par ps v : Nat) ∧ par ps v < ps.length ∧ v ≠ root ps := by
  have h1 := G.rng v hv
  unfold par
  exact ⟨by omega, by omega, fun e => h ((G.root_iff hv).2 e)⟩
theorem Good.anc (G : Good ps) : ∀ (k a b : Nat), b < ps.length → climb ps k (b : Int) = (a : Int) → a < ps.length ∧ dep ps b = dep ps a + k ∧ distL ps a b = k := by
  intro k
  induction k with
  | zero =>
    intro a b hb h
    have : a = b := by simp only [climb] at h; omega
    subst this
    exact ⟨hb, rfl, dist_self a⟩
  | succ k ih =>
    intro a b hb h
    rw [climb_succ] at h
    have hp : pa ps b ≠ -1 := fun e => by rw [e, climb_neg] at h; omega
    obtain ⟨h1, h2, h3⟩ := G.pa_par hb hp
    rw [h1] at h
    obtain ⟨i1, i2, i3⟩ := ih a (par ps b) h2 h
    obtain ⟨_, u2⟩ := G.rt.up b hb h3
    refine ⟨i1, by omega, ?_⟩
    obtain ⟨_, e2⟩ := G.rt.e2' i1 hb (by omega)
    have i3' : dist (par ps) (dep ps) a (par ps b) = k := i3
    show dist (par ps) (dep ps) a b = k + 1
    rw [e2, i3']; omega
theorem Good.next_down (G : Good ps) {k a b v : Nat} (hb : b < ps.length) (hc : climb ps k (b : Int) = (v : Int)) (hp : pa ps v = (a : Int)) (hab : a ≠ b) : v = nextN ps a b := by
  obtain ⟨v1, v2, v3⟩ := G.anc k v b hb hc
  have hc2 : climb ps (k + 1) (b : Int) = (a : Int) := by
    have : ∀ (k : Nat) (x : Int), climb ps (k + 1) x = if climb ps k x = -1 then -1 else pa ps (climb ps k x).toNat := by
      intro k
      induction k with
      | zero => intro x; rfl
      | succ k ih =>
        intro x
        show (if x = -1 then -1 else climb ps (k + 1) (pa ps x.toNat)) = _
        by_cases hx : x = -1
        · rw [if_pos hx]
          have : climb ps (k + 1) x = -1 := by rw [hx]; rfl
          rw [if_pos this]
        · rw [if_neg hx, ih]
          have : climb ps (k + 1) x = climb ps k (pa ps x.toNat) := by
            show (if x = -1 then -1 else _) = _
            rw [if_neg hx]
          rw [this]
    rw [this, hc, if_neg (by omega), Int.toNat_natCast, hp]
  obtain ⟨a1, a2, a3⟩ := G.anc (k + 1) a b hb hc2
  exact G.nextN_only a1 hb hab v1 (by unfold nearL; rw [hp]; simp) (by rw [v3, a3])
theorem Good.off (G : Good ps) {a : Nat} (ha : a < ps.length) : ∀ (f b : Nat), b < ps.length → dep ps b ≤ f → (∀ j, climb ps j (b : Int) ≠ -1 → pa ps (climb ps j (b : Int)).toNat ≠ (a : Int)) → a ≠ b → a ≠ root ps ∧ distL ps a b = 1 + distL ps (par ps a) b := by
  intro f
  induction f with
  | zero =>
    intro b hb hf h hab
    exact G.rt.e1 ha hb hab (by omega)
  | succ f ih =>
    intro b hb hf h hab
    rcases Nat.lt_or_ge (dep ps a) (dep ps b) with hd | hd
    · obtain ⟨b1, b2⟩ := G.rt.e2' ha hb hd
      have hp : pa ps b ≠ -1 := fun e => b1 ((G.root_iff hb).1 e)
      obtain ⟨h1, h2, h3⟩ := G.pa_par hb hp
      obtain ⟨_, u2⟩ := G.rt.up b hb b1
      have h0 := h 0 (by show (b : Int) ≠ -1; omega)
      have h0' : pa ps b ≠ (a : Int) := h0
      obtain ⟨i1, i2⟩ := ih (par ps b) h2 (by omega) (fun j => by
        have := h (j + 1)
        rw [climb_succ, h1] at this
        exact this) (by omega)
      obtain ⟨p1, p2⟩ := G.rt.up a ha i1
      obtain ⟨_, c2⟩ := G.rt.e2' p1 hb (by omega)
      refine ⟨i1, ?_⟩
      have i2' : dist (par ps) (dep ps) a (par ps b) = 1 + dist (par ps) (dep ps) (par ps a) (par ps b) := i2
      show dist (par ps) (dep ps) a b = 1 + dist (par ps) (dep ps) (par ps a) b
      rw [b2, c2, i2']
    · exact G.rt.e1 ha hb hab hd
theorem Good.next_up (G : Good ps) {a b : Nat} (ha : a < ps.length) (hb : b < ps.length) (h : ∀ j, climb ps j (b : Int) ≠ -1 → pa ps (climb ps j (b : Int)).toNat ≠ (a : Int)) (hab : a ≠ b) : pa ps a = (nextN ps a b : Nat) := by
  obtain ⟨h1, h2⟩ := G.off ha _ b hb (Nat.le_refl _) h hab
  obtain ⟨p1, p2, p3⟩ := G.pa_par ha (fun e => h1 ((G.root_iff ha).1 e))
  rw [p1, G.nextN_only ha hb hab p2 (by unfold nearL; rw [p1]; simp) (by omega)]
theorem climb_one (k : Nat) : ∀ (x : Int), climb ps (k + 1) x = if climb ps k x = -1 then -1 else pa ps (climb ps k x).toNat := by
  induction k with
  | zero => intro x; rfl
  | succ k ih =>
    intro x
    show (if x = -1 then -1 else climb ps (k + 1) (pa ps x.toNat)) = _
    by_cases hx : x = -1
    · rw [if_pos hx]
      have : climb ps (k + 1) x = -1 := by rw [hx]; rfl
      rw [if_pos this]
    · rw [if_neg hx, ih]
      have : climb ps (k + 1) x = climb ps k (pa ps x.toNat) := by
        show (if x = -1 then -1 else _) = _
        rw [if_neg hx]
      rw [this]
theorem climb_stays {k : Nat} {x : Int} (h : climb ps k x = -1) : ∀ d, climb ps (k + d) x = -1
  | 0 => h
  | d + 1 => by rw [show k + (d + 1) = (k + d) + 1 by omega, climb_one, climb_stays h d, if_pos rfl]
end Go.Proofs.Ytcicpgiljceioaa.Gr

/- Package tree: Neighbours and Next. -/
namespace Go.Proofs.Ytcicpgiljceioaa.Pk
open Go.RowKit Go.Proofs.Ytcicpgiljceioaa.Gr
set_option linter.unusedVariables false

theorem OwnN.drewN {w : World} {B : Nat} {v : Value} {l : List Int} (h : OwnN w B v l) (k : Nat) : OwnN (w.drewN k) B v l := h
set_option maxHeartbeats 2000000 in
theorem nbrs_any (T g : Nat) (ps : List Int) (v : Int) (w : World) (h : IsTr w T g ps) (hn : ps.length ≤ 32) :
    Calls Try.prog 26 #[.pointer (some ⟨T, 0, none⟩), .int .i64 v] w fun e w' => ∃ x, e = .returned x ∧ OwnN w' w.heap.size x (nbsI ps v) ∧ Below w.heap.size w w' := by
  have HT := Lib.hid h
  have HH := Lib.hid (has_any T g ps v w h)
  obtain ⟨c, hc, X, _, _⟩ := h.cells
  obtain ⟨n, hnn⟩ : ∃ n, n = ps.length := ⟨_, rfl⟩
  have HN := Lib.hid hnn
  rw [← hnn] at hn hc X
  clear h hnn
  go_enter Try.func26, Try.ntmps26
  cases hb : hasB ps v with
  | false =>
    have HE : Hid (nbsI ps v = []) := Lib.hid (if_neg (of_decide_eq_false hb))
    rw [hb] at HH
    clear X
    go_wp2_with (go_at_call 56; go_must (refine HH.out.mono ?_); rintro e w1 ⟨rfl, rfl⟩)
    go_ret
    exact ⟨_, rfl, by rw [HE.out]; exact OwnN.none_ _ _, Below.refl _ _⟩
  | true =>
    have hv := of_decide_eq_true hb
    rw [hb] at HH
    rw [← HN.out] at hv
    obtain ⟨m, rfl⟩ : ∃ m : Nat, v = (m : Int) := ⟨v.toNat, by omega⟩
    have hm : m < n := by omega
    have HE : Hid (nbsI ps (m : Int) = nbs ps m n) := Lib.hid (by unfold nbsI; rw [if_pos (by rw [← HN.out]; omega), ← HN.out]; rfl)
    have HM := Lib.hid hm
    clear hv hb
    go_wp2_with (go_at_call 56; go_must (refine HH.out.mono ?_); rintro e w1 ⟨rfl, hw⟩; rw [hw]; clear hw w1)
    go_loopw [5, 17] (fun x j wr => ∃ i : Nat, j = .int .i64 i ∧ i ≤ n ∧ OwnN wr w.heap.size x (nbs ps m i) ∧ Below w.heap.size w wr) (fun _ j _ => n - (intOf j).toNat)
    case atStart => exact ⟨0, rfl, by omega, OwnN.none_ _ _, Below.refl _ _⟩
    case round =>
      obtain ⟨i, rfl, hi, hown, hb⟩ := hrel
      obtain ⟨w1, rfl⟩ : ∃ w1 : World, w1 = wr := ⟨_, rfl⟩
      have HO := Lib.hid hown
      have HB := Lib.hid hb
      clear hown hb X
      by_cases hlt : i < n
      · have HS := Lib.hid (nbs_succ ps m i)
        have HLn := Lib.hid (nbs_len ps m i)
        obtain ⟨c', hc', X, _, hcell⟩ := (HT.out.below HB.out HT.out.lt).cells
        have ci := hcell i (by rw [← HN.out]; exact hlt)
        have cm := hcell m (by rw [← HN.out]; exact HM.out)
        rw [← HN.out] at X
        clear hcell
        obtain ⟨x, hx⟩ : ∃ x, x = pa ps i := ⟨_, rfl⟩
        obtain ⟨y, hy⟩ : ∃ y, y = pa ps m := ⟨_, rfl⟩
        rw [← hx] at ci
        rw [← hy] at cm
        have HX := Lib.hid hx
        have HY := Lib.hid hy
        clear hx hy
        by_cases h1 : x = (m : Int)
        · have HN2 : Hid (nbs ps m (i + 1) = nbs ps m i ++ [(i : Int)]) := Lib.hid (by rw [HS.out, if_pos (by unfold nearL; rw [← HX.out, h1]; simp)])
          have t1 : (x == (m : Int)) = true := by simp [h1]
          clear h1
          go_wp2_with (at_builtin; refine appN w1 (i : Int) _ rfl (.tmp 36) (.tmp 38) rfl w.heap.size _ (nbs ps m i) rfl HO.out w1.heap.size rfl rfl (by have := HLn.out; omega) HB.out.size ?_; intro v3 w3 hown3 hb3 _; have HO3 := Lib.hid hown3; have HB3 := Lib.hid (HB.out.trans hb3); clear hown3 hb3)
          go_roundw
          case rel => exact ⟨i + 1, by go_num, by omega, by rw [HN2.out]; exact HO3.out, HB3.out⟩
          case measure => simp [intOf]; omega
        · have t1 : (x == (m : Int)) = false := by simp [h1]
          by_cases h2 : y = (i : Int)
          · have HN2 : Hid (nbs ps m (i + 1) = nbs ps m i ++ [(i : Int)]) := Lib.hid (by rw [HS.out, if_pos (by unfold nearL; rw [← HY.out, h2]; simp)])
            have t2 : (y == (i : Int)) = true := by simp [h2]
            clear h1 h2
            go_wp2_with (at_builtin; refine appN w1 (i : Int) _ rfl (.tmp 36) (.tmp 38) rfl w.heap.size _ (nbs ps m i) rfl HO.out w1.heap.size rfl rfl (by have := HLn.out; omega) HB.out.size ?_; intro v3 w3 hown3 hb3 _; have HO3 := Lib.hid hown3; have HB3 := Lib.hid (HB.out.trans hb3); clear hown3 hb3)
            go_roundw
            case rel => exact ⟨i + 1, by go_num, by omega, by rw [HN2.out]; exact HO3.out, HB3.out⟩
            case measure => simp [intOf]; omega
          · have HN2 : Hid (nbs ps m (i + 1) = nbs ps m i) := Lib.hid (by rw [HS.out, if_neg (by unfold nearL; rw [← HX.out, ← HY.out]; simp [h1, h2])])
            have t2 : (y == (i : Int)) = false := by simp [h2]
            clear h1 h2
            go_wp2
            go_roundw
            case rel => exact ⟨i + 1, by go_num, by omega, by rw [HN2.out]; exact HO.out, HB.out⟩
            case measure => simp [intOf]; omega
      · have HF : Hid (nbsI ps (m : Int) = nbs ps m i) := Lib.hid (by rw [HE.out]; congr 1; omega)
        go_wp2
        go_ret
        exact ⟨_, rfl, by rw [HF.out]; exact HO.out, HB.out⟩

theorem nextI_none {ps : List Int} {a b : Int} (h : hasB ps a = false ∨ hasB ps b = false) : nextI ps a b = -1 := by
  unfold nextI
  apply if_neg
  rintro ⟨h1, h2⟩
  rcases h with h | h
  · exact of_decide_eq_false h h1
  · exact of_decide_eq_false h h2
/-- What the climb has not met. -/
def NotYet (ps : List Int) (a b k : Nat) : Prop := ∀ j, j < k → climb ps j (b : Int) ≠ -1 ∧ pa ps (climb ps j (b : Int)).toNat ≠ (a : Int)
def mes (ps : List Int) (z : Int) : Nat := if z = -1 then 0 else dep ps z.toNat + 1
theorem mes_lt {ps : List Int} {p : Int} {m : Nat} (h : p ≠ -1 → dep ps p.toNat < dep ps m) : mes ps p < mes ps (m : Int) := by
  unfold mes
  rw [if_neg (show ¬ (m : Int) = -1 by omega), Int.toNat_natCast]
  by_cases hp : p = -1
  · rw [if_pos hp]; omega
  · rw [if_neg hp]; have := h hp; omega
set_option maxHeartbeats 2000000 in
theorem nxt_any (T g : Nat) (ps : List Int) (a b : Int) (w : World) (h : IsTr w T g ps) (G : Gr.Good ps) :
    Calls Try.prog 28 #[.pointer (some ⟨T, 0, none⟩), .int .i64 a, .int .i64 b] w fun e w' => e = .returned (.int .i64 (nextI ps a b)) ∧ w' = w := by
  have HT := Lib.hid h
  have HHa := Lib.hid (has_any T g ps a w h)
  have HHb := Lib.hid (has_any T g ps b w h)
  obtain ⟨c, hc, X, _, hcell⟩ := h.cells
  have HCe := Lib.hid hcell
  obtain ⟨n, hnn⟩ : ∃ n, n = ps.length := ⟨_, rfl⟩
  have HN := Lib.hid hnn
  have hn : n ≤ 32 := by rw [hnn]; exact G.few
  rw [← hnn] at hc X
  clear h hnn hcell
  go_enter Try.func28, Try.ntmps28
  cases ha : hasB ps a with
  | false =>
    have HE := Lib.hid (nextI_none (a := a) (b := b) (.inl ha))
    rw [ha] at HHa
    clear X
    go_wp2_with (go_at_call 56; go_must (refine HHa.out.mono ?_); rintro e w1 ⟨rfl, hw⟩; rw [hw]; clear hw w1)
    go_ret
    exact ⟨by rw [HE.out]; rfl, rfl⟩
  | true =>
    cases hb : hasB ps b with
    | false =>
      have HE := Lib.hid (nextI_none (a := a) (b := b) (.inr hb))
      rw [ha] at HHa
      rw [hb] at HHb
      clear X
      go_wp2_with (go_at_call 56; first | (refine HHa.out.mono ?_; rintro e w1 ⟨rfl, hw⟩; rw [hw]; clear hw w1 HHa) | (refine HHb.out.mono ?_; rintro e w1 ⟨rfl, hw⟩; rw [hw]; clear hw w1))
      go_ret
      exact ⟨by rw [HE.out]; rfl, rfl⟩
    | true =>
      rw [ha] at HHa
      rw [hb] at HHb
      have hva := of_decide_eq_true ha
      have hvb := of_decide_eq_true hb
      rw [← HN.out] at hva hvb
      obtain ⟨x, rfl⟩ : ∃ x : Nat, a = (x : Int) := ⟨a.toNat, by omega⟩
      obtain ⟨y, rfl⟩ : ∃ y : Nat, b = (y : Int) := ⟨b.toNat, by omega⟩
      have hx : x < n := by omega
      have hy : y < n := by omega
      have HX := Lib.hid hx
      have HY := Lib.hid hy
      clear ha hb hva hvb
      by_cases hxy : x = y
      · subst hxy
        have HE : Hid (nextI ps (x : Int) (x : Int) = (x : Int)) := Lib.hid (by unfold nextI; rw [if_pos (by rw [← HN.out]; omega), if_pos rfl])
        clear X
        go_wp2_with (go_at_call 56; refine HHa.out.mono ?_; rintro e w1 ⟨rfl, hw⟩; rw [hw]; clear hw w1)
        go_ret
        exact ⟨by rw [HE.out]; rfl, rfl⟩
      · have HE : Hid (nextI ps (x : Int) (y : Int) = (nextN ps x y : Nat)) := Lib.hid (by unfold nextI; rw [if_pos (by rw [← HN.out]; omega), if_neg (by omega)]; rfl)
        have t1 : ((x : Int) == (y : Int)) = false := by simp; omega
        have HNE := Lib.hid hxy
        clear hxy
        go_wp2_with (go_at_call 56; first | (refine HHa.out.mono ?_; rintro e w1 ⟨rfl, hw⟩; rw [hw]; clear hw w1 HHa) | (refine HHb.out.mono ?_; rintro e w1 ⟨rfl, hw⟩; rw [hw]; clear hw w1))
        go_loop [7] (fun z => ∃ k : Nat, z = .int .i64 (climb ps k (y : Int)) ∧ NotYet ps x y k) (fun z => mes ps (intOf z))
        case atStart => exact ⟨0, rfl, fun j hj => by omega⟩
        case round =>
          obtain ⟨k, rfl, hno⟩ := hrel
          have HNo := Lib.hid hno
          clear hno
          obtain ⟨z, hz⟩ : ∃ z, z = climb ps k (y : Int) := ⟨_, rfl⟩
          have HZ := Lib.hid hz
          rw [← hz]
          clear hz
          have hzr : -1 ≤ z ∧ z < (n : Int) := by
            have := climb_rng (fun v hv => ⟨(G.rng v hv).1, (G.rng v hv).2.1⟩) y (by rw [← HN.out]; exact HY.out) k
            rw [← HN.out, ← HZ.out] at this; exact this
          by_cases hz1 : z = -1
          · have cx := HCe.out x (by rw [← HN.out]; exact hx)
            have HF : Hid (pa ps x = (nextN ps x y : Nat)) := Lib.hid (G.next_up (by rw [← HN.out]; exact HX.out) (by rw [← HN.out]; exact HY.out) (fun j hj => by
              rcases Nat.lt_or_ge j k with h | h
              · exact (HNo.out j h).2
              · exfalso
                apply hj
                have h2 := climb_stays (ps := ps) (k := k) (x := (y : Int)) (by rw [← HZ.out]; exact hz1) (j - k)
                rwa [show k + (j - k) = j by omega] at h2) HNE.out)
            rw [HF.out] at cx
            have t2 : (z != -1) = false := by simp [hz1]
            clear hzr
            subst hz1
            go_wp2
            go_ret
            exact ⟨by rw [HE.out]; rfl, rfl⟩
          · obtain ⟨m, rfl⟩ : ∃ m : Nat, z = (m : Int) := ⟨z.toNat, by omega⟩
            have hm : m < n := by omega
            have cm := HCe.out m (by rw [← HN.out]; exact hm)
            obtain ⟨p, hp⟩ : ∃ p, p = pa ps m := ⟨_, rfl⟩
            have HP := Lib.hid hp
            rw [← hp] at cm
            have t2 : ((m : Int) != -1) = true := by simp
            have HA := Lib.hid (G.anc k m y (by rw [← HN.out]; exact HY.out) HZ.out.symm)
            clear hp hzr hz1
            by_cases h1 : p = (x : Int)
            · have HF : Hid (m = nextN ps x y) := Lib.hid (G.next_down (by rw [← HN.out]; exact HY.out) HZ.out.symm (by rw [← HP.out]; exact h1) HNE.out)
              have t3 : (p == (x : Int)) = true := by simp [h1]
              clear h1
              go_wp2
              go_ret
              exact ⟨by rw [HE.out, ← HF.out]; rfl, rfl⟩
            · have t3 : (p == (x : Int)) = false := by simp [h1]
              have HS : Hid (p = climb ps (k + 1) (y : Int)) := Lib.hid (by rw [climb_one, ← HZ.out, if_neg (by omega), HP.out]; rfl)
              have HNx : Hid (NotYet ps x y (k + 1)) := Lib.hid (fun j hj => by
                rcases Nat.lt_or_ge j k with h | h
                · exact HNo.out j h
                · have : j = k := by omega
                  subst this
                  rw [← HZ.out, Int.toNat_natCast, ← HP.out]
                  exact ⟨by omega, h1⟩)
              have HD : Hid (p ≠ -1 → dep ps p.toNat < dep ps m) := Lib.hid (fun hp1 => by
                rw [HP.out] at hp1 ⊢
                have hm' : m < ps.length := by rw [← HN.out]; exact hm
                obtain ⟨q1, q2, q3⟩ := G.pa_par hm' hp1
                obtain ⟨_, u2⟩ := G.rt.up m hm' q3
                rw [q1, Int.toNat_natCast]; omega)
              clear h1
              go_wp2
              go_round
              case rel => exact ⟨k + 1, by rw [HS.out], HNx.out⟩
              case measure =>
                exact mes_lt HD.out
end Go.Proofs.Ytcicpgiljceioaa.Pk
