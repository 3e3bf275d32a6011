/- The document's answer for trees (fletchref04): Path. -/
import Derived.Test.YtcomiininaemhaaGrNext
namespace Go.Proofs.Ytcomiininaemhaa.Gr
variable {ps : List Int}
def pathF (ps : List Int) : Nat → Nat → Nat → List Nat
  | 0, a, _ => [a]
  | f + 1, a, b => a :: pathF ps f (nextN ps a b) b
/-- The nodes from one to another. -/
def pathN (ps : List Int) (a b : Nat) : List Nat := pathF ps (distL ps a b) a b
theorem pathN_self (ps : List Int) (b : Nat) : pathN ps b b = [b] := by
  unfold pathN
  rw [show distL ps b b = 0 from dist_self b]; rfl
theorem Good.pathN_step (G : Good ps) {a b : Nat} (ha : a < ps.length) (hb : b < ps.length) (hab : a ≠ b) : pathN ps a b = a :: pathN ps (nextN ps a b) b := by
  have h := (G.nextN_is ha hb hab).2.2
  unfold pathN
  rw [← h]; rfl
theorem Good.pathN_way (G : Good ps) {b : Nat} (hb : b < ps.length) : ∀ (f a : Nat), a < ps.length → distL ps a b ≤ f → Way ps.length (root ps) (par ps) (dep ps) a b (pathN ps a b) := by
  intro f
  induction f with
  | zero =>
    intro a ha h
    have : a = b := G.rt.dist_zero ha hb (Nat.le_zero.1 h)
    subst this
    rw [pathN_self]; exact way_self a ha
  | succ f ih =>
    intro a ha h
    by_cases hab : a = b
    · subst hab
      rw [pathN_self]; exact way_self a ha
    · obtain ⟨h1, h2, h3⟩ := G.nextN_is ha hb hab
      rw [G.pathN_step ha hb hab]
      exact Way.cons (ih _ h1 (by omega)) ha ((G.near_iff h1 ha).1 h2) h3
theorem Good.way_path (G : Good ps) {a b : Nat} (ha : a < ps.length) (hb : b < ps.length) : Way ps.length (root ps) (par ps) (dep ps) a b (pathN ps a b) := G.pathN_way hb _ a ha (Nat.le_refl _)
theorem Good.pathN_len (G : Good ps) {a b : Nat} (ha : a < ps.length) (hb : b < ps.length) : (pathN ps a b).length = distL ps a b + 1 := (G.way_path ha hb).len
def ints (l : List Nat) : List Int := l.map fun x : Nat => (x : Int)
def pathI (ps : List Int) (a b : Int) : List Int := if (0 ≤ a ∧ a < (ps.length : Int)) ∧ (0 ≤ b ∧ b < (ps.length : Int)) then ints (pathN ps a.toNat b.toNat) else []
end Go.Proofs.Ytcomiininaemhaa.Gr
namespace Go.Proofs.Ytcomiininaemhaa.Pk
open Go.RowKit Go.Proofs.Ytcomiininaemhaa.Gr
set_option linter.unusedVariables false
theorem OwnN.lit (w : World) (B : Nat) (x : Int) (hB : B ≤ w.heap.size) : OwnN (w.alloc (.cells #[.int .i64 x] 3)) B (.slice (some ⟨w.heap.size, 0, none⟩) 1 1) [x] :=
  ⟨rfl, .inr ⟨w.heap.size, 1, _, rfl, hB, heap_alloc_new w _, Nat.le_refl _, by unfold maxLen; omega, rfl, rfl⟩⟩

set_option maxHeartbeats 4000000 in
theorem path_any (A : Option Addr) (n c : Nat) (ps : List Int) (a b : Int) (w : World) (B : Nat) (hr : Reads w B 1 A n (nms ps)) (hB : B ≤ w.heap.size) (G : Gr.Good ps) :
    Calls Try.prog 25 #[.slice A n c, .int .i64 a, .int .i64 b] w fun e w' => ∃ v, e = .returned v ∧ OwnN w' w.heap.size v (pathI ps a b) ∧ Below w.heap.size w w' := by
  have HL := Lib.hid hr.plen
  have HR := Lib.hid hr
  have hn : n ≤ 32 := by rw [← HL.out]; exact G.few
  clear hr
  go_enter Try.func25, Try.ntmps25
  by_cases a1 : a < 0
  · have HE : Hid (pathI ps a b = []) := Lib.hid (if_neg (by omega))
    go_wp2
    go_ret
    exact ⟨_, rfl, by rw [HE.out]; exact OwnN.none_ _ _, Below.refl _ _⟩
  · by_cases a2 : (n : Int) ≤ a
    · have HE : Hid (pathI ps a b = []) := Lib.hid (if_neg (by rw [HL.out]; omega))
      go_wp2
      go_ret
      exact ⟨_, rfl, by rw [HE.out]; exact OwnN.none_ _ _, Below.refl _ _⟩
    · by_cases b1 : b < 0
      · have HE : Hid (pathI ps a b = []) := Lib.hid (if_neg (by rw [HL.out]; omega))
        go_wp2
        go_ret
        exact ⟨_, rfl, by rw [HE.out]; exact OwnN.none_ _ _, Below.refl _ _⟩
      · by_cases b2 : (n : Int) ≤ b
        · have HE : Hid (pathI ps a b = []) := Lib.hid (if_neg (by rw [HL.out]; omega))
          go_wp2
          go_ret
          exact ⟨_, rfl, by rw [HE.out]; exact OwnN.none_ _ _, Below.refl _ _⟩
        · obtain ⟨x, rfl⟩ : ∃ x : Nat, a = (x : Int) := ⟨a.toNat, by omega⟩
          obtain ⟨y, rfl⟩ : ∃ y : Nat, b = (y : Int) := ⟨b.toNat, by omega⟩
          have hx : x < n := by omega
          have hy : y < n := by omega
          have HX := Lib.hid hx
          have HY := Lib.hid hy
          have HE : Hid (pathI ps (x : Int) (y : Int) = ints (pathN ps x y)) := Lib.hid (by unfold pathI; rw [if_pos (by rw [HL.out]; omega)]; rfl)
          clear a1 b1
          go_wp2
          go_loopw [8, 9] (fun o z wr => ∃ (t : Nat) (l : List Nat), z = .int .i64 t ∧ t < n ∧ l ++ pathN ps t y = pathN ps x y ∧ OwnN wr w.heap.size o (ints (l ++ [t])) ∧ Below w.heap.size w wr) (fun _ z _ => distL ps (intOf z).toNat y)
          case atStart => exact ⟨x, [], rfl, hx, rfl, OwnN.lit w _ _ (Nat.le_refl _), (Below.refl _ _).alloc (Nat.le_refl _) _⟩
          case round =>
            obtain ⟨t, l, rfl, ht, hl, hown, hbel⟩ := hrel
            have HLl := Lib.hid hl
            have HO := Lib.hid hown
            have HW := Lib.hid hbel
            clear hl hown hbel
            obtain ⟨w1, rfl⟩ : ∃ w1 : World, w1 = wr := ⟨_, rfl⟩
            by_cases hty : t = y
            · have HF : Hid (ints (l ++ [t]) = ints (pathN ps x y)) := Lib.hid (by rw [← HLl.out, hty, pathN_self])
              subst hty
              go_wp2
              go_ret
              exact ⟨_, rfl, by rw [HE.out, ← HF.out]; exact HO.out, HW.out⟩
            · have hN := G.nextN_is (a := t) (b := y) (by rw [HL.out]; exact ht) (by rw [HL.out]; exact hy) hty
              have hS := G.pathN_step (a := t) (b := y) (by rw [HL.out]; exact ht) (by rw [HL.out]; exact hy) hty
              have HI : Hid (nextI ps (t : Int) (y : Int) = (nextN ps t y : Nat)) := Lib.hid (by unfold nextI; rw [if_pos (by rw [HL.out]; omega), if_neg (by omega)]; rfl)
              have hlen : (ints (l ++ [t])).length ≤ 32 := by
                have h1 := congrArg List.length HLl.out
                rw [List.length_append, G.pathN_len (by rw [HL.out]; exact ht) (by rw [HL.out]; exact HY.out), G.pathN_len (by rw [HL.out]; exact HX.out) (by rw [HL.out]; exact HY.out)] at h1
                have h2 := (G.far (f := y) (by rw [HL.out]; exact HY.out)).lt x (by rw [HL.out]; exact HX.out)
                rw [HL.out] at h2
                simp only [ints, List.length_map, List.length_append, List.length_singleton]
                have h3 : distL ps x y < n := h2
                omega
              obtain ⟨m, hm⟩ : ∃ m, m = nextN ps t y := ⟨_, rfl⟩
              rw [← hm] at hN hS HI
              have HN := Lib.hid hN
              have HS := Lib.hid hS
              have HLen := Lib.hid hlen
              have t1 : ((t : Int) != (y : Int)) = true := by simp; omega
              clear hN hS hlen hm
              go_wp2_with (first
                | (go_at_call 35; go_must (refine (next_any A n c ps t y w1 B (HR.out.below (HW.out.mono hB)) (by have := HW.out.size; omega) G).mono ?_); rintro e w2 ⟨rfl, hb2⟩; rw [HI.out]; have HW2 := Lib.hid (HW.out.trans (hb2.mono HW.out.size)); have HO3 := Lib.hid (HO.out.below hb2); clear hb2)
                | (at_builtin; refine appN w2 (m : Int) _ rfl (.tmp 38) (.tmp 40) rfl w.heap.size _ (ints (l ++ [t])) rfl HO3.out w2.heap.size rfl rfl (by have := HLen.out; omega) HW2.out.size ?_; intro v3 w3 hown3 hb3 _; have HO4 := Lib.hid hown3; have HW3 := Lib.hid (HW2.out.trans hb3); clear hown3 hb3))
              go_roundw
              case rel => exact ⟨m, l ++ [t], rfl, by have := HN.out.1; rw [HL.out] at this; exact this, by rw [List.append_assoc]; show l ++ (t :: pathN ps m y) = _; rw [← HS.out]; exact HLl.out, by have := HO4.out; simpa [ints] using this, HW3.out⟩
              case measure => have := HN.out.2.2; simp [intOf]; omega
end Go.Proofs.Ytcomiininaemhaa.Pk
