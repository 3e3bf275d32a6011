/- Package tree: Neighbours and Next. -/
import Derived.Test.YtiaafhcfeeekeaaZStPut
import Derived.Test.YtiaafhcfeeekeaaZTrMath
import Derived.Test.YtiaafhcfeeekeaaZStMath
import Derived.RangeFuncKeeps
import Derived.Stop.RegionWithIn
namespace Go.Proofs.Ytiaafhcfeeekeaa.Pk
open Go.RowKit Go.Proofs.Ytiaafhcfeeekeaa.Gr
set_option linter.unusedVariables false

theorem OwnN.drewN {w : World} {B : Nat} {v : Value} {l : List Int} (h : OwnN w B v l) (k : Nat) : OwnN (w.drewN k) B v l := h
set_option maxHeartbeats 2000000 in
theorem nbrs_any (T g : Nat) (ps : List Int) (v : Int) (w : World) (h : IsTr w T g ps) (hn : ps.length ≤ 32) :
    Calls Try.prog 34 #[.pointer (some ⟨T, 0, none⟩), .int .i64 v] w fun e w' => ∃ x, e = .returned x ∧ OwnN w' w.heap.size x (nbsI ps v) ∧ Below w.heap.size w w' := by
  have HT := Lib.hid h
  have HH := Lib.hid (has_any T g ps v w h)
  obtain ⟨c, hc, X, _, _⟩ := h.cells
  obtain ⟨n, hnn⟩ : ∃ n, n = ps.length := ⟨_, rfl⟩
  have HN := Lib.hid hnn
  rw [← hnn] at hn hc X
  clear h hnn
  go_enter Try.func34, Try.ntmps34
  cases hb : hasB ps v with
  | false =>
    have HE : Hid (nbsI ps v = []) := Lib.hid (if_neg (of_decide_eq_false hb))
    rw [hb] at HH
    clear X
    go_wp2_with (go_at_call 54; go_must (refine HH.out.mono ?_); rintro e w1 ⟨rfl, rfl⟩)
    go_ret
    exact ⟨_, rfl, by rw [HE.out]; exact OwnN.none_ _ _, Below.refl _ _⟩
  | true =>
    have hv := of_decide_eq_true hb
    rw [hb] at HH
    rw [← HN.out] at hv
    obtain ⟨m, rfl⟩ : ∃ m : Nat, v = (m : Int) := ⟨v.toNat, by omega⟩
    have hm : m < n := by omega
    have HE : Hid (nbsI ps (m : Int) = nbs ps m n) := Lib.hid (by unfold nbsI; rw [if_pos (by rw [← HN.out]; omega), ← HN.out]; rfl)
    have HM := Lib.hid hm
    clear hv hb
    go_wp2_with (go_at_call 54; go_must (refine HH.out.mono ?_); rintro e w1 ⟨rfl, hw⟩; rw [hw]; clear hw w1)
    go_loopw [5, 17] (fun x j wr => ∃ i : Nat, j = .int .i64 i ∧ i ≤ n ∧ OwnN wr w.heap.size x (nbs ps m i) ∧ Below w.heap.size w wr) (fun _ j _ => n - (intOf j).toNat)
    case atStart => exact ⟨0, rfl, by omega, OwnN.none_ _ _, Below.refl _ _⟩
    case round =>
      obtain ⟨i, rfl, hi, hown, hb⟩ := hrel
      obtain ⟨w1, rfl⟩ : ∃ w1 : World, w1 = wr := ⟨_, rfl⟩
      have HO := Lib.hid hown
      have HB := Lib.hid hb
      clear hown hb X
      by_cases hlt : i < n
      · have HS := Lib.hid (nbs_succ ps m i)
        have HLn := Lib.hid (nbs_len ps m i)
        obtain ⟨c', hc', X, _, hcell⟩ := (HT.out.below HB.out HT.out.lt).cells
        have ci := hcell i (by rw [← HN.out]; exact hlt)
        have cm := hcell m (by rw [← HN.out]; exact HM.out)
        rw [← HN.out] at X
        clear hcell
        obtain ⟨x, hx⟩ : ∃ x, x = pa ps i := ⟨_, rfl⟩
        obtain ⟨y, hy⟩ : ∃ y, y = pa ps m := ⟨_, rfl⟩
        rw [← hx] at ci
        rw [← hy] at cm
        have HX := Lib.hid hx
        have HY := Lib.hid hy
        clear hx hy
        by_cases h1 : x = (m : Int)
        · have HN2 : Hid (nbs ps m (i + 1) = nbs ps m i ++ [(i : Int)]) := Lib.hid (by rw [HS.out, if_pos (by unfold nearL; rw [← HX.out, h1]; simp)])
          have t1 : (x == (m : Int)) = true := by simp [h1]
          clear h1
          go_wp2_with (at_builtin; refine appN w1 (i : Int) _ rfl (.tmp 36) (.tmp 38) rfl w.heap.size _ (nbs ps m i) rfl HO.out w1.heap.size rfl rfl (by have := HLn.out; omega) HB.out.size ?_; intro v3 w3 hown3 hb3 _; have HO3 := Lib.hid hown3; have HB3 := Lib.hid (HB.out.trans hb3); clear hown3 hb3)
          go_roundw
          case rel => exact ⟨i + 1, by go_num, by omega, by rw [HN2.out]; exact HO3.out, HB3.out⟩
          case measure => simp [intOf]; omega
        · have t1 : (x == (m : Int)) = false := by simp [h1]
          by_cases h2 : y = (i : Int)
          · have HN2 : Hid (nbs ps m (i + 1) = nbs ps m i ++ [(i : Int)]) := Lib.hid (by rw [HS.out, if_pos (by unfold nearL; rw [← HY.out, h2]; simp)])
            have t2 : (y == (i : Int)) = true := by simp [h2]
            clear h1 h2
            go_wp2_with (at_builtin; refine appN w1 (i : Int) _ rfl (.tmp 36) (.tmp 38) rfl w.heap.size _ (nbs ps m i) rfl HO.out w1.heap.size rfl rfl (by have := HLn.out; omega) HB.out.size ?_; intro v3 w3 hown3 hb3 _; have HO3 := Lib.hid hown3; have HB3 := Lib.hid (HB.out.trans hb3); clear hown3 hb3)
            go_roundw
            case rel => exact ⟨i + 1, by go_num, by omega, by rw [HN2.out]; exact HO3.out, HB3.out⟩
            case measure => simp [intOf]; omega
          · have HN2 : Hid (nbs ps m (i + 1) = nbs ps m i) := Lib.hid (by rw [HS.out, if_neg (by unfold nearL; rw [← HX.out, ← HY.out]; simp [h1, h2])])
            have t2 : (y == (i : Int)) = false := by simp [h2]
            clear h1 h2
            go_wp2
            go_roundw
            case rel => exact ⟨i + 1, by go_num, by omega, by rw [HN2.out]; exact HO.out, HB.out⟩
            case measure => simp [intOf]; omega
      · have HF : Hid (nbsI ps (m : Int) = nbs ps m i) := Lib.hid (by rw [HE.out]; congr 1; omega)
        go_wp2
        go_ret
        exact ⟨_, rfl, by rw [HF.out]; exact HO.out, HB.out⟩

theorem nextI_none {ps : List Int} {a b : Int} (h : hasB ps a = false ∨ hasB ps b = false) : nextI ps a b = -1 := by
  unfold nextI
  apply if_neg
  rintro ⟨h1, h2⟩
  rcases h with h | h
  · exact of_decide_eq_false h h1
  · exact of_decide_eq_false h h2
/-- What the climb has not met. -/
def NotYet (ps : List Int) (a b k : Nat) : Prop := ∀ j, j < k → climb ps j (b : Int) ≠ -1 ∧ pa ps (climb ps j (b : Int)).toNat ≠ (a : Int)
def mes (ps : List Int) (z : Int) : Nat := if z = -1 then 0 else dep ps z.toNat + 1
theorem mes_lt {ps : List Int} {p : Int} {m : Nat} (h : p ≠ -1 → dep ps p.toNat < dep ps m) : mes ps p < mes ps (m : Int) := by
  unfold mes
  rw [if_neg (show ¬ (m : Int) = -1 by omega), Int.toNat_natCast]
  by_cases hp : p = -1
  · rw [if_pos hp]; omega
  · rw [if_neg hp]; have := h hp; omega
set_option maxHeartbeats 2000000 in
theorem nxt_any (T g : Nat) (ps : List Int) (a b : Int) (w : World) (h : IsTr w T g ps) (G : Gr.Good ps) :
    Calls Try.prog 33 #[.pointer (some ⟨T, 0, none⟩), .int .i64 a, .int .i64 b] w fun e w' => e = .returned (.int .i64 (nextI ps a b)) ∧ w' = w := by
  have HT := Lib.hid h
  have HHa := Lib.hid (has_any T g ps a w h)
  have HHb := Lib.hid (has_any T g ps b w h)
  obtain ⟨c, hc, X, _, hcell⟩ := h.cells
  have HCe := Lib.hid hcell
  obtain ⟨n, hnn⟩ : ∃ n, n = ps.length := ⟨_, rfl⟩
  have HN := Lib.hid hnn
  have hn : n ≤ 32 := by rw [hnn]; exact G.few
  rw [← hnn] at hc X
  clear h hnn hcell
  go_enter Try.func33, Try.ntmps33
  cases ha : hasB ps a with
  | false =>
    have HE := Lib.hid (nextI_none (a := a) (b := b) (.inl ha))
    rw [ha] at HHa
    clear X
    go_wp2_with (go_at_call 54; go_must (refine HHa.out.mono ?_); rintro e w1 ⟨rfl, hw⟩; rw [hw]; clear hw w1)
    go_ret
    exact ⟨by rw [HE.out]; rfl, rfl⟩
  | true =>
    cases hb : hasB ps b with
    | false =>
      have HE := Lib.hid (nextI_none (a := a) (b := b) (.inr hb))
      rw [ha] at HHa
      rw [hb] at HHb
      clear X
      go_wp2_with (go_at_call 54; first | (refine HHa.out.mono ?_; rintro e w1 ⟨rfl, hw⟩; rw [hw]; clear hw w1 HHa) | (refine HHb.out.mono ?_; rintro e w1 ⟨rfl, hw⟩; rw [hw]; clear hw w1))
      go_ret
      exact ⟨by rw [HE.out]; rfl, rfl⟩
    | true =>
      rw [ha] at HHa
      rw [hb] at HHb
      have hva := of_decide_eq_true ha
      have hvb := of_decide_eq_true hb
      rw [← HN.out] at hva hvb
      obtain ⟨x, rfl⟩ : ∃ x : Nat, a = (x : Int) := ⟨a.toNat, by omega⟩
      obtain ⟨y, rfl⟩ : ∃ y : Nat, b = (y : Int) := ⟨b.toNat, by omega⟩
      have hx : x < n := by omega
      have hy : y < n := by omega
      have HX := Lib.hid hx
      have HY := Lib.hid hy
      clear ha hb hva hvb
      by_cases hxy : x = y
      · subst hxy
        have HE : Hid (nextI ps (x : Int) (x : Int) = (x : Int)) := Lib.hid (by unfold nextI; rw [if_pos (by rw [← HN.out]; omega), if_pos rfl])
        clear X
        go_wp2_with (go_at_call 54; refine HHa.out.mono ?_; rintro e w1 ⟨rfl, hw⟩; rw [hw]; clear hw w1)
        go_ret
        exact ⟨by rw [HE.out]; rfl, rfl⟩
      · have HE : Hid (nextI ps (x : Int) (y : Int) = (nextN ps x y : Nat)) := Lib.hid (by unfold nextI; rw [if_pos (by rw [← HN.out]; omega), if_neg (by omega)]; rfl)
        have t1 : ((x : Int) == (y : Int)) = false := by simp; omega
        have HNE := Lib.hid hxy
        clear hxy
        go_wp2_with (go_at_call 54; first | (refine HHa.out.mono ?_; rintro e w1 ⟨rfl, hw⟩; rw [hw]; clear hw w1 HHa) | (refine HHb.out.mono ?_; rintro e w1 ⟨rfl, hw⟩; rw [hw]; clear hw w1))
        go_loop [7] (fun z => ∃ k : Nat, z = .int .i64 (climb ps k (y : Int)) ∧ NotYet ps x y k) (fun z => mes ps (intOf z))
        case atStart => exact ⟨0, rfl, fun j hj => by omega⟩
        case round =>
          obtain ⟨k, rfl, hno⟩ := hrel
          have HNo := Lib.hid hno
          clear hno
          obtain ⟨z, hz⟩ : ∃ z, z = climb ps k (y : Int) := ⟨_, rfl⟩
          have HZ := Lib.hid hz
          rw [← hz]
          clear hz
          have hzr : -1 ≤ z ∧ z < (n : Int) := by
            have := climb_rng (fun v hv => ⟨(G.rng v hv).1, (G.rng v hv).2.1⟩) y (by rw [← HN.out]; exact HY.out) k
            rw [← HN.out, ← HZ.out] at this; exact this
          by_cases hz1 : z = -1
          · have cx := HCe.out x (by rw [← HN.out]; exact hx)
            have HF : Hid (pa ps x = (nextN ps x y : Nat)) := Lib.hid (G.next_up (by rw [← HN.out]; exact HX.out) (by rw [← HN.out]; exact HY.out) (fun j hj => by
              rcases Nat.lt_or_ge j k with h | h
              · exact (HNo.out j h).2
              · exfalso
                apply hj
                have h2 := climb_stays (ps := ps) (k := k) (x := (y : Int)) (by rw [← HZ.out]; exact hz1) (j - k)
                rwa [show k + (j - k) = j by omega] at h2) HNE.out)
            rw [HF.out] at cx
            have t2 : (z != -1) = false := by simp [hz1]
            clear hzr
            subst hz1
            go_wp2
            go_ret
            exact ⟨by rw [HE.out]; rfl, rfl⟩
          · obtain ⟨m, rfl⟩ : ∃ m : Nat, z = (m : Int) := ⟨z.toNat, by omega⟩
            have hm : m < n := by omega
            have cm := HCe.out m (by rw [← HN.out]; exact hm)
            obtain ⟨p, hp⟩ : ∃ p, p = pa ps m := ⟨_, rfl⟩
            have HP := Lib.hid hp
            rw [← hp] at cm
            have t2 : ((m : Int) != -1) = true := by simp
            have HA := Lib.hid (G.anc k m y (by rw [← HN.out]; exact HY.out) HZ.out.symm)
            clear hp hzr hz1
            by_cases h1 : p = (x : Int)
            · have HF : Hid (m = nextN ps x y) := Lib.hid (G.next_down (by rw [← HN.out]; exact HY.out) HZ.out.symm (by rw [← HP.out]; exact h1) HNE.out)
              have t3 : (p == (x : Int)) = true := by simp [h1]
              clear h1
              go_wp2
              go_ret
              exact ⟨by rw [HE.out, ← HF.out]; rfl, rfl⟩
            · have t3 : (p == (x : Int)) = false := by simp [h1]
              have HS : Hid (p = climb ps (k + 1) (y : Int)) := Lib.hid (by rw [climb_one, ← HZ.out, if_neg (by omega), HP.out]; rfl)
              have HNx : Hid (NotYet ps x y (k + 1)) := Lib.hid (fun j hj => by
                rcases Nat.lt_or_ge j k with h | h
                · exact HNo.out j h
                · have : j = k := by omega
                  subst this
                  rw [← HZ.out, Int.toNat_natCast, ← HP.out]
                  exact ⟨by omega, h1⟩)
              have HD : Hid (p ≠ -1 → dep ps p.toNat < dep ps m) := Lib.hid (fun hp1 => by
                rw [HP.out] at hp1 ⊢
                have hm' : m < ps.length := by rw [← HN.out]; exact hm
                obtain ⟨q1, q2, q3⟩ := G.pa_par hm' hp1
                obtain ⟨_, u2⟩ := G.rt.up m hm' q3
                rw [q1, Int.toNat_natCast]; omega)
              clear h1
              go_wp2
              go_round
              case rel => exact ⟨k + 1, by rw [HS.out], HNx.out⟩
              case measure =>
                exact mes_lt HD.out
end Go.Proofs.Ytiaafhcfeeekeaa.Pk

/- Paths between the nodes of a tree: mathematics. -/
namespace Go.Proofs.Ytiaafhcfeeekeaa.Gr
variable {ps : List Int}
def pathF (ps : List Int) : Nat → Nat → Nat → List Nat
  | 0, a, _ => [a]
  | f + 1, a, b => a :: pathF ps f (nextN ps a b) b
/-- The nodes from one to another. -/
def pathN (ps : List Int) (a b : Nat) : List Nat := pathF ps (distL ps a b) a b
theorem pathN_self (ps : List Int) (b : Nat) : pathN ps b b = [b] := by
  unfold pathN
  rw [show distL ps b b = 0 from dist_self b]; rfl
theorem Good.pathN_step (G : Good ps) {a b : Nat} (ha : a < ps.length) (hb : b < ps.length) (hab : a ≠ b) : pathN ps a b = a :: pathN ps (nextN ps a b) b := by
  have h := (G.nextN_is ha hb hab).2.2
  unfold pathN
  rw [← h]; rfl
theorem Good.pathN_way (G : Good ps) {b : Nat} (hb : b < ps.length) : ∀ (f a : Nat), a < ps.length → distL ps a b ≤ f → Way ps.length (root ps) (par ps) (dep ps) a b (pathN ps a b) := by
  intro f
  induction f with
  | zero =>
    intro a ha h
    have : a = b := G.rt.dist_zero ha hb (Nat.le_zero.1 h)
    subst this
    rw [pathN_self]; exact way_self a ha
  | succ f ih =>
    intro a ha h
    by_cases hab : a = b
    · subst hab
      rw [pathN_self]; exact way_self a ha
    · obtain ⟨h1, h2, h3⟩ := G.nextN_is ha hb hab
      rw [G.pathN_step ha hb hab]
      exact Way.cons (ih _ h1 (by omega)) ha ((G.near_iff h1 ha).1 h2) h3
theorem Good.way_path (G : Good ps) {a b : Nat} (ha : a < ps.length) (hb : b < ps.length) : Way ps.length (root ps) (par ps) (dep ps) a b (pathN ps a b) := G.pathN_way hb _ a ha (Nat.le_refl _)
theorem Good.pathN_len (G : Good ps) {a b : Nat} (ha : a < ps.length) (hb : b < ps.length) : (pathN ps a b).length = distL ps a b + 1 := (G.way_path ha hb).len
def ints (l : List Nat) : List Int := l.map fun x : Nat => (x : Int)
def pathI (ps : List Int) (a b : Int) : List Int := if (0 ≤ a ∧ a < (ps.length : Int)) ∧ (0 ≤ b ∧ b < (ps.length : Int)) then ints (pathN ps a.toNat b.toNat) else []
theorem Good.path_le {ps : List Int} (G : Good ps) (a b : Int) : (pathI ps a b).length ≤ ps.length := by
  unfold pathI
  split
  · rename_i h
    have ha : a.toNat < ps.length := by omega
    have hb : b.toNat < ps.length := by omega
    have h1 := G.pathN_len ha hb
    have h2 : distL ps a.toNat b.toNat < ps.length := G.rt.dist_lt ha hb
    simp only [ints, List.length_map]
    omega
  · simp
end Go.Proofs.Ytiaafhcfeeekeaa.Gr
namespace Go.Proofs.Ytiaafhcfeeekeaa.Pk
open Go.RowKit Go.Proofs.Ytiaafhcfeeekeaa.Gr
set_option linter.unusedVariables false
theorem OwnN.lit (w : World) (B : Nat) (x : Int) (hB : B ≤ w.heap.size) : OwnN (w.alloc (.cells #[.int .i64 x] 3)) B (.slice (some ⟨w.heap.size, 0, none⟩) 1 1) [x] :=
  ⟨rfl, .inr ⟨w.heap.size, 1, _, rfl, hB, heap_alloc_new w _, Nat.le_refl _, by unfold maxLen; omega, rfl, rfl⟩⟩
end Go.Proofs.Ytiaafhcfeeekeaa.Pk

/- Package tree: Path, the function that it answers, and Dist. -/
namespace Go.Proofs.Ytiaafhcfeeekeaa.Pk
open Go.RowKit Go.Shelf Go.Proofs.Ytiaafhcfeeekeaa.Gr
set_option linter.unusedVariables false
attribute [local go_sem] Oper.semAt_some

theorem hdd (k : Nat) : Fence.wide.depth.isSome = true → 1 ≤ k := fun h => by cases h
/-- One number, as a loop variable has it. -/
def enc1 (x : Int) : Array Value := #[Value.int .i64 x]
/-- A function that goes over numbers. -/
def SeqN (v : Value) (l : List Int) (R : Nat → Prop) (w : World) : Prop :=
  ∃ gf lb, v = .func (.func gf) #[] lb ∧ (∀ args u, (callFunc gf args).run Try.prog u = .ok (.enter gf args) u) ∧ (∀ b, R b → b < w.heap.size) ∧
    ∀ m W, 1 ≤ m → Stay R w W → SeqStopsK Fence.wide m Try.prog gf lb (fun x : Int => #[Value.int .i64 x]) (Stay R) (fun ys => ys = l) (fun pre => pre <+: l) l.length W
theorem SeqN.stay {v : Value} {l : List Int} {R : Nat → Prop} {w W : World} (h : SeqN v l R w) (hs : Stay R w W) : SeqN v l R W := by
  obtain ⟨gf, lb, e, h1, h2, h3⟩ := h
  exact ⟨gf, lb, e, h1, fun b hb => Nat.lt_of_lt_of_le (h2 b hb) hs.1, fun m W' hm hW => h3 m W' hm (hs.trans hW)⟩
theorem SeqN.lt {v : Value} {l : List Int} {R : Nat → Prop} {w : World} (h : SeqN v l R w) : ∀ b, R b → b < w.heap.size := by
  obtain ⟨_, _, _, _, h2, _⟩ := h
  exact h2
theorem SeqN.seq {gf : Nat} {lb : Array Value} {l : List Int} {R : Nat → Prop} {w : World} (h : SeqN (.func (.func gf) #[] lb) l R w) :
    SeqStopsK Fence.wide 8 Try.prog gf lb (fun x : Int => #[Value.int .i64 x]) (Stay R) (fun ys => ys = l) (fun pre => pre <+: l) l.length w := by
  obtain ⟨gf', lb', e, _, _, h3⟩ := h
  injection e with e1 _ e2
  injection e1 with e1
  subst e1; subst e2
  exact h3 8 w (by omega) (Stay.refl _ _)

/-- The blocks that a path reads. -/
def PathB (T g Bt Ba Bb : Nat) (b : Nat) : Prop := TrB T g b ∨ b = Bt ∨ b = Ba ∨ b = Bb
/-- What it finds there. -/
def PathAt (W : World) (T g Bt Ba Bb : Nat) (ps : List Int) (a b : Int) : Prop :=
  IsTr W T g ps ∧ W.cell? ⟨Bt, 0, none⟩ = some (.pointer (some ⟨T, 0, none⟩)) ∧ W.cell? ⟨Ba, 0, none⟩ = some (.int .i64 a) ∧ W.cell? ⟨Bb, 0, none⟩ = some (.int .i64 b)
theorem PathAt.stay {W W' : World} {T g Bt Ba Bb : Nat} {ps : List Int} {a b : Int} (h : PathAt W T g Bt Ba Bb ps a b) (hs : Stay (PathB T g Bt Ba Bb) W W') : PathAt W' T g Bt Ba Bb ps a b := by
  obtain ⟨h1, h2, h3, h4⟩ := h
  exact ⟨h1.stay (hs.sub fun b hb => .inl hb), (World.cell?_of_block (a := ⟨Bt, 0, none⟩) (hs.2 Bt (.inr (.inl rfl)))).trans h2,
    (World.cell?_of_block (a := ⟨Ba, 0, none⟩) (hs.2 Ba (.inr (.inr (.inl rfl))))).trans h3, (World.cell?_of_block (a := ⟨Bb, 0, none⟩) (hs.2 Bb (.inr (.inr (.inr rfl))))).trans h4⟩
theorem pathI_none {ps : List Int} {a b : Int} (h : hasB ps a = false ∨ hasB ps b = false) : pathI ps a b = [] := by
  unfold pathI
  apply if_neg
  rintro ⟨h1, h2⟩
  rcases h with h | h
  · exact of_decide_eq_false h h1
  · exact of_decide_eq_false h h2

set_option maxRecDepth 100000 in
set_option maxHeartbeats 4000000 in
theorem path1_in (m l T g Bt Ba Bb : Nat) (ps : List Int) (G : Gr.Good ps) (a b : Int) (J Jx : List Int → World → Prop)
    (hY : ∀ pre (x : Int) W, J pre W → pre ++ [x] <+: pathI ps a b → YieldAt Fence.wide (m - 1) Try.prog l #[.int .i64 x] W fun e W' =>
      (e = .returned (.bool true) ∧ J (pre ++ [x]) W' ∧ Stay (PathB T g Bt Ba Bb) W W') ∨ (e = .returned (.bool false) ∧ Jx (pre ++ [x]) W'))
    (W : World) (hP : PathAt W T g Bt Ba Bb ps a b) (h0 : J [] W) :
    CallsIn Fence.wide m Try.prog 102 #[.func (.yield l) #[] #[], .pointer (some ⟨Bt, 0, none⟩), .pointer (some ⟨Ba, 0, none⟩), .pointer (some ⟨Bb, 0, none⟩)] W fun e W' => (∃ v, e = .returned v) ∧
      ((∃ ys, ys = pathI ps a b ∧ J ys W') ∨ (∃ pre, pre <+: pathI ps a b ∧ Jx pre W')) := by
  have HP := Lib.hid hP
  have HHa := Lib.hid (has_any T g ps a W hP.1)
  have HHb := Lib.hid (has_any T g ps b W hP.1)
  obtain ⟨_, ct, ca, cb⟩ := hP
  have HY := Lib.hid hY
  have HJ0 := Lib.hid h0
  clear hY h0
  refine callsIn_of_wp Try.func102 rfl trivial ?_ rfl
  simp only [Try.ntmps102, List.size_toArray, List.length_cons, List.length_nil, Nat.reduceAdd, Nat.reduceSub, Array.replicate_succ, Array.replicate_zero, List.push_toArray, List.append_toArray, List.nil_append, List.cons_append]
  cases ha : hasB ps a with
  | false =>
    have HE := Lib.hid (pathI_none (a := a) (b := b) (.inl ha))
    rw [ha] at HHa
    gi_wp2_with (refine ⟨trivial, hdd _, ?_⟩; gi_at_call 54; refine (callsIn_wide.2 HHa.out).mono ?_; rintro e w1 ⟨rfl, hw⟩; rw [hw]; clear hw w1)
    refine ⟨trivial, ?_⟩
    gi_wp2
    first | go_end0 | refine bodyPost_ret (results_none rfl _ _ _) rfl ?_
    exact ⟨⟨_, rfl⟩, .inl ⟨[], HE.out.symm, HJ0.out⟩⟩
  | true =>
    cases hb : hasB ps b with
    | false =>
      have HE := Lib.hid (pathI_none (a := a) (b := b) (.inr hb))
      rw [ha] at HHa
      rw [hb] at HHb
      gi_wp2_with (refine ⟨trivial, hdd _, ?_⟩; gi_at_call 54; first | (refine (callsIn_wide.2 HHa.out).mono ?_; rintro e w1 ⟨rfl, hw⟩; rw [hw]; clear hw w1 HHa) | (refine (callsIn_wide.2 HHb.out).mono ?_; rintro e w1 ⟨rfl, hw⟩; rw [hw]; clear hw w1))
      first | go_end0 | refine bodyPost_ret (results_none rfl _ _ _) rfl ?_
      exact ⟨⟨_, rfl⟩, .inl ⟨[], HE.out.symm, HJ0.out⟩⟩
    | true =>
      rw [ha] at HHa
      rw [hb] at HHb
      have hva := of_decide_eq_true ha
      have hvb := of_decide_eq_true hb
      have HE : Hid (pathI ps a b = ints (pathN ps a.toNat b.toNat)) := Lib.hid (if_pos ⟨hva, hvb⟩)
      obtain ⟨x, rfl⟩ : ∃ x : Nat, a = (x : Int) := ⟨a.toNat, by omega⟩
      obtain ⟨y, rfl⟩ : ∃ y : Nat, b = (y : Int) := ⟨b.toNat, by omega⟩
      rw [Int.toNat_natCast, Int.toNat_natCast] at HE
      have HX : Hid (x < ps.length) := Lib.hid (by omega)
      have HY1 : Hid (y < ps.length) := Lib.hid (by omega)
      clear ha hb hva hvb
      gi_wp2_with (refine ⟨trivial, hdd _, ?_⟩; gi_at_call 54; first | (refine (callsIn_wide.2 HHa.out).mono ?_; rintro e w1 ⟨rfl, hw⟩; rw [hw]; clear hw w1 HHa) | (refine (callsIn_wide.2 HHb.out).mono ?_; rintro e w1 ⟨rfl, hw⟩; rw [hw]; clear hw w1))
      clear ct ca cb
      gi_loopw [5] (fun z wr => ∃ (t : Nat) (pre : List Int), z = .int .i64 t ∧ t < ps.length ∧ pre ++ ints (pathN ps t y) = pathI ps (x : Int) (y : Int) ∧ J pre wr ∧ PathAt wr T g Bt Ba Bb ps (x : Int) (y : Int)) (fun z _ => distL ps (intOf z).toNat y)
      case atStart => exact ⟨x, [], rfl, HX.out, by rw [HE.out]; rfl, HJ0.out, HP.out⟩
      case round =>
        obtain ⟨t, pre, rfl, ht, hpre, hJ, hP⟩ := hrel
        have HPr := Lib.hid hpre
        have HTt := Lib.hid ht
        have hsplit : Hid (∃ q, ints (pathN ps t y) = (t : Int) :: q ∧ (t = y → q = []) ∧ (t ≠ y → q = ints (pathN ps (nextN ps t y) y))) := Lib.hid (by
          by_cases hty : t = y
          · refine ⟨[], ?_, fun _ => rfl, fun h => absurd hty h⟩
            rw [hty, pathN_self]; rfl
          · refine ⟨_, ?_, fun h => absurd h hty, fun _ => rfl⟩
            rw [G.pathN_step ht HY1.out hty]; rfl)
        obtain ⟨q, hq, hq1, hq2⟩ := hsplit.out
        have HQ1 := Lib.hid hq1
        have HQ2 := Lib.hid hq2
        rw [hq] at HPr
        clear hpre hsplit hq hq1 hq2 ht
        have hlen : pre ++ [(t : Int)] <+: pathI ps (x : Int) (y : Int) := ⟨q, by rw [← HPr.out]; simp⟩
        obtain ⟨fn, tmps, assign, body, hy, hR⟩ := HY.out pre (t : Int) wr hJ hlen
        try dsimp only at hy
        have HRR := Lib.hid hR
        have HPa := Lib.hid hP
        clear hR hJ hP hlen
        obtain ⟨_, ct, ca, cb⟩ := HPa.out
        clear ct ca cb
        by_cases hty : t = y
        · have hq := HQ1.out hty
          subst hq
          have HFin : Hid (pre ++ [(t : Int)] = pathI ps (x : Int) (y : Int)) := HPr
          have t1 : ((t : Int) != (y : Int)) = false := by simp [hty]
          clear hty
          gi_wp2
          refine ⟨hdd _, HRR.out.mono ?_⟩
          rintro e W3 (⟨rfl, hJ3, hk3⟩ | ⟨rfl, hJx3⟩)
          · have cb : W3.cell? ⟨Bb, 0, none⟩ = some (.int .i64 (y : Int)) := (HPa.out.stay hk3).2.2.2
            have HJ3 := Lib.hid hJ3
            clear hJ3 hk3
            gi_wp2
            go_end0
            exact ⟨⟨_, rfl⟩, .inl ⟨_, HFin.out, HJ3.out⟩⟩
          · gi_wp2
            go_end0
            exact ⟨⟨_, rfl⟩, .inr ⟨_, ⟨[], by rw [List.append_nil]; exact HFin.out⟩, hJx3⟩⟩
        · have hq := HQ2.out hty
          have hN := G.nextN_is (a := t) (b := y) HTt.out HY1.out hty
          have HI : Hid (nextI ps (t : Int) (y : Int) = (nextN ps t y : Nat)) := Lib.hid (by have := HTt.out; have := HY1.out; unfold nextI; rw [if_pos (by omega), if_neg (by omega)]; rfl)
          have t1 : ((t : Int) != (y : Int)) = true := by simp; omega
          obtain ⟨m2, hm2⟩ : ∃ m2, m2 = nextN ps t y := ⟨_, rfl⟩
          rw [← hm2] at hN HI hq
          have HN := Lib.hid hN
          have HPr2 : Hid (pre ++ [(t : Int)] ++ ints (pathN ps m2 y) = pathI ps (x : Int) (y : Int)) := Lib.hid (by rw [← HPr.out, hq]; simp)
          clear hty hN hq hm2 HPr HQ1 HQ2
          gi_wp2
          refine ⟨hdd _, HRR.out.mono ?_⟩
          rintro e W3 (⟨rfl, hJ3, hk3⟩ | ⟨rfl, hJx3⟩)
          · have hP3 := HPa.out.stay hk3
            have HN3 := Lib.hid (nxt_any T g ps (t : Int) (y : Int) W3 hP3.1 G)
            rw [HI.out] at HN3
            have HP3 := Lib.hid hP3
            obtain ⟨_, ct, ca, cb⟩ := hP3
            have HJ3 := Lib.hid hJ3
            clear hJ3 hk3
            gi_wp2_with (refine ⟨trivial, hdd _, ?_⟩; gi_at_call 33; refine (callsIn_wide.2 HN3.out).mono ?_; rintro e w1 ⟨rfl, hw⟩; rw [hw]; clear hw w1)
            go_roundw
            case rel => exact ⟨m2, _, rfl, HN.out.1, HPr2.out, HJ3.out, HP3.out⟩
            case measure => have := HN.out.2.2; simp only [intOf, Int.toNat_natCast]; omega
          · gi_wp2
            go_end0
            exact ⟨⟨_, rfl⟩, .inr ⟨_, ⟨_, HPr2.out⟩, hJx3⟩⟩

theorem path_seq (T g Bt Ba Bb : Nat) (ps : List Int) (G : Gr.Good ps) (a b : Int) (w : World) (hP : PathAt w T g Bt Ba Bb ps a b) (hlt : ∀ x, PathB T g Bt Ba Bb x → x < w.heap.size) :
    SeqN (.func (.func 102) #[] #[.pointer (some ⟨Bt, 0, none⟩), .pointer (some ⟨Ba, 0, none⟩), .pointer (some ⟨Bb, 0, none⟩)]) (pathI ps a b) (PathB T g Bt Ba Bb) w := by
  refine ⟨_, _, rfl, enters_of Try.func102 (by kernel_rfl) rfl, hlt, ?_⟩
  intro m W hm hs l J Jx W1 hW hJ hJx hY h0
  have hs1 : Stay (PathB T g Bt Ba Bb) w W1 := hs.trans (Stay.below hW (fun b hb => Nat.lt_of_lt_of_le (hlt b hb) hs.1))
  exact path1_in m l T g Bt Ba Bb ps G a b J Jx (fun pre x W hj hp => hY pre x W hj (by have := hp.length_le; simp at this; omega)) W1 (hP.stay hs1) h0
/-- What Path leaves. -/
def PathR (D : Nat → Prop) (l : List Int) (w : World) (e : Ending) (w' : World) : Prop := ∃ v R, e = .returned v ∧ SeqN v l R w' ∧ Below w.heap.size w w' ∧ ∀ b, R b → D b ∨ w.heap.size ≤ b
theorem path_code (T g : Nat) (ps : List Int) (a b : Int) (w : World) (h : IsTr w T g ps) (G : Gr.Good ps) :
    Calls Try.prog 90 #[.pointer (some ⟨T, 0, none⟩), .int .i64 a, .int .i64 b] w (PathR (TrB T g) (pathI ps a b) w) := by
  have HT := Lib.hid h
  clear h
  go_enter Try.func90, Try.ntmps90
  go_wp2
  go_ret
  have k1 := ((Blk.new w 36 #[.pointer (some ⟨T, 0, none⟩)]).alloc (.cells #[.int .i64 a] 3)).alloc (.cells #[.int .i64 b] 3)
  have k2 := (Blk.new (w.alloc (.cells #[.pointer (some ⟨T, 0, none⟩)] 36)) 3 #[.int .i64 a]).alloc (.cells #[.int .i64 b] 3)
  have k3 := Blk.new ((w.alloc (.cells #[.pointer (some ⟨T, 0, none⟩)] 36)).alloc (.cells #[.int .i64 a] 3)) 3 #[.int .i64 b]
  have hb : Below w.heap.size w (((w.alloc (.cells #[.pointer (some ⟨T, 0, none⟩)] 36)).alloc (.cells #[.int .i64 a] 3)).alloc (.cells #[.int .i64 b] 3)) :=
    (((Below.refl _ w).alloc (Nat.le_refl _) _).alloc (by simp) _).alloc (by simp; omega) _
  have l1 := k1.lt
  have hT := HT.out.below_ hb
  refine ⟨_, PathB T g _ _ _, rfl, path_seq T g w.heap.size (w.heap.size + 1) (w.heap.size + 2) ps G a b _ ⟨hT, k1.cell 0, ?_, ?_⟩ ?_, hb, ?_⟩
  · have := k2.cell 0; simpa using this
  · have := k3.cell 0; simpa using this
  · rintro x (hx | rfl | rfl | rfl)
    · exact hT.lt x hx
    · exact l1
    · simp
    · simp
  · rintro x (hx | rfl | rfl | rfl)
    · exact .inl hx
    · exact .inr (Nat.le_refl _)
    · right; omega
    · right; omega

/-- A function that goes over numbers; a round is told that its number is one of them. -/
def SeqM (v : Value) (l : List Int) (R : Nat → Prop) (w : World) : Prop :=
  ∃ gf lb, v = .func (.func gf) #[] lb ∧ (∀ args u, (callFunc gf args).run Try.prog u = .ok (.enter gf args) u) ∧ (∀ b, R b → b < w.heap.size) ∧
    ∀ m W, 1 ≤ m → Stay R w W → SeqStopsK Fence.wide m Try.prog gf lb (fun x : { x : Int // x ∈ l } => #[Value.int .i64 x.1]) (Stay R) (fun ys => ys.map (·.1) = l) (fun pre => pre.map (·.1) <+: l) l.length W
theorem SeqM.stay {v : Value} {l : List Int} {R : Nat → Prop} {w W : World} (h : SeqM v l R w) (hs : Stay R w W) : SeqM v l R W := by
  obtain ⟨gf, lb, e, h1, h2, h3⟩ := h
  exact ⟨gf, lb, e, h1, fun b hb => Nat.lt_of_lt_of_le (h2 b hb) hs.1, fun m W' hm hW => h3 m W' hm (hs.trans hW)⟩
theorem SeqM.lt {v : Value} {l : List Int} {R : Nat → Prop} {w : World} (h : SeqM v l R w) : ∀ b, R b → b < w.heap.size := by
  obtain ⟨_, _, _, _, h2, _⟩ := h
  exact h2
theorem SeqM.seq {gf : Nat} {lb : Array Value} {l : List Int} {R : Nat → Prop} {w : World} (h : SeqM (.func (.func gf) #[] lb) l R w) :
    SeqStopsK Fence.wide 8 Try.prog gf lb (fun x : { x : Int // x ∈ l } => #[Value.int .i64 x.1]) (Stay R) (fun ys => ys.map (·.1) = l) (fun pre => pre.map (·.1) <+: l) l.length w := by
  obtain ⟨gf', lb', e, _, _, h3⟩ := h
  injection e with e1 _ e2
  injection e1 with e1
  subst e1; subst e2
  exact h3 8 w (by omega) (Stay.refl _ _)
/-- What Path leaves, told so. -/
def PathM (D : Nat → Prop) (l : List Int) (w : World) (e : Ending) (w' : World) : Prop := ∃ v R, e = .returned v ∧ SeqM v l R w' ∧ Below w.heap.size w w' ∧ ∀ b, R b → D b ∨ w.heap.size ≤ b
/-! A nil tree. -/
end Go.Proofs.Ytiaafhcfeeekeaa.Pk
