/- The tree's rise and the table's From and All: functions that go over the rows. -/
import Derived.Test.YtcjfammfplcigaaTreeTab
import Derived.Test.YtcjfammfplcigaaRange
import Derived.RangeFuncKeeps
import Derived.Stop.RegionWithIn
namespace Go.Proofs.Ytcjfammfplcigaa.Pk
open Go.RowKit Go.Shelf Go.Proofs.Ytcjfammfplcigaa.Tb
set_option linter.unusedVariables false
attribute [local go_sem] Oper.semAt_some

theorem roundIn_any {m m' : Nat} {P : Program} {l : Nat} {f : FuncId} {tmps : Array Value} {assign body : Code} {w : World} {R : Ending → World → Prop}
    (h : RoundIn Fence.wide m P l f tmps assign body w R) : RoundIn Fence.wide m' P l f tmps assign body w R := ⟨h.1, fun c cs _ => h.2 c cs (room_wide _)⟩
theorem hdd (k : Nat) : Fence.wide.depth.isSome = true → 1 ≤ k := fun h => by cases h
theorem yieldAt_any {m : Nat} (m' : Nat) {P : Program} {l : Nat} {args : Array Value} {W : World} {R : Ending → World → Prop} (h : YieldAt Fence.wide m P l args W R) : YieldAt Fence.wide m' P l args W R := by
  obtain ⟨fn, tmps, assign, body, hy, hR⟩ := h
  exact ⟨fn, tmps, assign, body, hy, roundIn_any hR⟩

/-- The rows from a number on. -/
def fromL (k : Int) (l : List Rw) : List Rw := l.filter fun x => decide (k ≤ x.1)
theorem fromL_append (k : Int) (a b : List Rw) : fromL k (a ++ b) = fromL k a ++ fromL k b := List.filter_append ..
theorem fromL_cons (k : Int) (x : Rw) (l : List Rw) : fromL k (x :: l) = if k ≤ x.1 then x :: fromL k l else fromL k l := by
  unfold fromL
  rw [List.filter_cons]
  by_cases h : k ≤ x.1
  · rw [if_pos h, if_pos (by simpa using h)]
  · rw [if_neg h, if_neg (by simpa using h)]
theorem fromL_none {k : Int} {l : List Rw} (h : ∀ y ∈ l, y.1 < k) : fromL k l = [] := by
  unfold fromL
  rw [List.filter_eq_nil_iff]
  intro y hy
  have := h y hy
  simp; omega
/-- The cells that a node's walk reads. -/
def NodeAt (W : World) (b : Nat) (l : Tr) (k : Int) (v : ByteArray) (r : Tr) : Prop :=
  W.cell? ⟨b, 0, none⟩ = some (.int .i64 k) ∧ W.cell? ⟨b, 1, none⟩ = some (.string v) ∧ W.cell? ⟨b, 2, none⟩ = some (.pointer l.p) ∧ W.cell? ⟨b, 3, none⟩ = some (.pointer r.p)
theorem IsT.cells4 {W : World} {b : Nat} {l : Tr} {k : Int} {v : ByteArray} {r : Tr} (h : IsT W (.node b l k v r)) : NodeAt W b l k v r :=
  ⟨h.1.cell 0, h.1.cell 1, h.1.cell 2, h.1.cell 3⟩
theorem IsT.stayR {R : Nat → Prop} {W W' : World} {T : Tr} (h : IsT W T) (hR : ∀ b, T.has b → R b) (hs : Stay R W W') : IsT W' T := h.stay fun b hb => hs.2 b (hR b hb)

/-- An operation of a region that draws is taken first; the slots stay literal. -/
theorem take_lit {F : Fence} {n : Nat} {P : Program} {md : Region.Mode} {ops : Array Oper} {Q : Exit → Act → World → Prop} {i d : Nat} {oi : Oper} {v : Value} {fuel : Nat} {listed : Array Bool} {ts ts' : Array Value} {ds : List Deferred} {w : World} (hro : F.round = none) (hi : ops[i]? = some oi) (hd : oi.dst = some d)
    (hs : Region.noSelect ops = true) (hf : Region.free md ops listed i = true) (hr : (Region.ready md ops listed).contains i = true)
    (hQ : ∀ c a w, Q (.panic c) (a.put oi.dst v) w → Q (.panic c) a w) (hy : YieldsFenced P ops oi v { tmps := ts, defers := ds }) (ht : ts.setIfInBounds d v = ts')
    (h : wpAnyIn F n P md ops Q fuel (listed.setIfInBounds i true) { tmps := ts', defers := ds } w) : wpAnyIn F n P md ops Q (fuel + 1) listed { tmps := ts, defers := ds } w :=
  wpAnyIn_take hro hi hs hf hr hQ hy (by unfold Act.put; rw [hd]; subst ht; exact h)

set_option maxRecDepth 100000 in
set_option maxHeartbeats 4000000 in
theorem rise_in (l : Nat) (C : List Rw → Rw → Prop) (R : Nat → Prop) (J Jx : List Rw → World → Prop) (k : Int) (hD : ∀ pre W, J pre W → J pre W.drew)
    (hY : ∀ m pre (x : Rw) W, J pre W → C pre x → YieldAt Fence.wide m Try.prog l #[.int .i64 x.1, .string x.2] W fun e W' =>
      (e = .returned (.bool true) ∧ J (pre ++ [x]) W' ∧ Stay R W W') ∨ (e = .returned (.bool false) ∧ Jx (pre ++ [x]) W')) (T : Tr) :
    ∀ (n : Nat) (pre : List Rw) (W : World), IsT W T → (∀ b, T.has b → R b) → Rises T.rows → J pre W → (∀ q x, q ++ [x] <+: fromL k T.rows → C (pre ++ q) x) →
      CallsIn Fence.wide n Try.prog 39 #[.pointer T.p, .int .i64 k, .func (.yield l) #[] #[]] W fun e W' =>
        (e = .returned (.bool true) ∧ J (pre ++ fromL k T.rows) W' ∧ Stay R W W') ∨ (e = .returned (.bool false) ∧ ∃ q, q <+: fromL k T.rows ∧ Jx (pre ++ q) W') := by
  induction T with
  | leaf =>
    intro n pre W _ _ _ hJ _
    have hp : Tr.leaf.p = none := rfl
    have h0 : fromL k Tr.leaf.rows = [] := rfl
    rw [hp, h0]
    refine callsIn_of_wp Try.func39 rfl trivial ?_ rfl
    simp only [Try.ntmps39, List.size_toArray, List.length_cons, List.length_nil, Nat.reduceAdd, Nat.reduceSub, Array.replicate_succ, Array.replicate_zero, List.push_toArray, List.append_toArray, List.nil_append, List.cons_append]
    gi_wp2
    go_ret
    exact .inl ⟨rfl, by simpa using hJ, Stay.refl _ _⟩
  | node b tl x v tr ihl ihr =>
    intro n pre W hT hR hRi hJ hN
    have hp : (Tr.node b tl x v tr).p = some ⟨b, 0, none⟩ := rfl
    obtain ⟨h1, h2, h3, h4⟩ := Rises.parts (by rw [rows_node] at hRi; exact hRi)
    obtain ⟨X0, X1, X2, X3⟩ := hT.cells4
    have hRl : ∀ b, tl.has b → R b := fun b hb => hR b (.inr (.inl hb))
    have hRr : ∀ b, tr.has b → R b := fun b hb => hR b (.inr (.inr hb))
    rw [hp]
    by_cases hx : x < k
    · have hE : fromL k (Tr.node b tl x v tr).rows = fromL k tr.rows := by
        rw [rows_node, fromL_append, fromL_cons, if_neg (show ¬ k ≤ x by omega), fromL_none (fun y hy => by have := h3 y hy; simp at this; omega)]; rfl
      rw [hE] at hN ⊢
      have IH := Lib.hid (ihr (n - 1) pre W hT.2.2.2 hRr h2 hJ hN)
      clear ihl ihr hT hR hRi hJ hD hY h1 h2 h3 h4 hRl hRr X1 X2 hE
      refine callsIn_of_wp Try.func39 rfl trivial ?_ rfl
      simp only [Try.ntmps39, List.size_toArray, List.length_cons, List.length_nil, Nat.reduceAdd, Nat.reduceSub, Array.replicate_succ, Array.replicate_zero, List.push_toArray, List.append_toArray, List.nil_append, List.cons_append]
      gi_wp2_with (refine ⟨trivial, hdd _, ?_⟩; gi_at_call 39; refine IH.out.mono ?_; clear IH; rintro e W1 (⟨rfl, hJ1, hs1⟩ | ⟨rfl, q, hq, hx1⟩))
      · go_ret
        exact .inl ⟨rfl, hJ1, hs1⟩
      · go_ret
        exact .inr ⟨rfl, q, hq, hx1⟩
    · have hE : fromL k (Tr.node b tl x v tr).rows = fromL k tl.rows ++ (x, v) :: fromL k tr.rows := by
        rw [rows_node, fromL_append, fromL_cons, if_pos (show k ≤ x by omega)]
      rw [hE] at hN ⊢
      have hN1 : C (pre ++ fromL k tl.rows) (x, v) := hN _ _ ⟨fromL k tr.rows, by simp⟩
      have hN2 : ∀ q y, q ++ [y] <+: fromL k tl.rows → C (pre ++ q) y := fun q y h => hN q y (h.trans (List.prefix_append ..))
      have hN3 : ∀ q y, q ++ [y] <+: fromL k tr.rows → C (pre ++ fromL k tl.rows ++ [(x, v)] ++ q) y := fun q y ⟨t, ht⟩ => by
        have := hN (fromL k tl.rows ++ (x, v) :: q) y ⟨t, by rw [← ht]; simp⟩
        simpa [List.append_assoc] using this
      have hge : k ≤ x := by omega
      have hy2 : ∀ W1, J (pre ++ fromL k tl.rows) W1 → Stay R W W1 → YieldAt Fence.wide (n - 1) Try.prog l #[.int .i64 x, .string v] W1 fun e W2 =>
          (e = .returned (.bool true) ∧ J (pre ++ fromL k tl.rows ++ [(x, v)]) W2 ∧ Stay R W W2 ∧ W2.cell? ⟨b, 3, none⟩ = some (.pointer tr.p) ∧ IsT W2 tr) ∨ (e = .returned (.bool false) ∧ Jx (pre ++ fromL k tl.rows ++ [(x, v)]) W2) := fun W1 hJ1 hb1 =>
        YieldAt.mono (hY (n - 1) _ (x, v) W1 hJ1 hN1) fun e W2 h => h.elim
          (fun ⟨he, hj, hb2⟩ => .inl ⟨he, hj, hb1.trans hb2, (hT.stayR hR (hb1.trans hb2)).cells4.2.2.2, (hT.stayR hR (hb1.trans hb2)).2.2.2⟩) .inr
      have ih1 := (ihl (n - 1) pre W.drew hT.drew.2.2.1 hRl h1 (hD _ _ hJ) hN2).mono (R' := fun e W1 =>
          (e = .returned (.bool true) ∧ NodeAt W1 b tl x v tr ∧ YieldAt Fence.wide (n - 1) Try.prog l #[.int .i64 x, .string v] W1 fun e W2 =>
            (e = .returned (.bool true) ∧ J (pre ++ fromL k tl.rows ++ [(x, v)]) W2 ∧ Stay R W W2 ∧ W2.cell? ⟨b, 3, none⟩ = some (.pointer tr.p) ∧ IsT W2 tr) ∨ (e = .returned (.bool false) ∧ Jx (pre ++ fromL k tl.rows ++ [(x, v)]) W2)) ∨
          (e = .returned (.bool false) ∧ ∃ q, q <+: fromL k tl.rows ∧ Jx (pre ++ q) W1))
        (fun e W1 h => h.elim (fun ⟨he, hj, hb1⟩ => .inl ⟨he, (hT.drew.stayR hR hb1).cells4, hy2 W1 hj hb1⟩) .inr)
      have IH1 := Lib.hid ih1
      have IH2 := Lib.hid (fun W2 hr hj => ihr (n - 1) (pre ++ fromL k tl.rows ++ [(x, v)]) W2 hr hRr h2 hj hN3)
      clear hy2 ihl ihr ih1 hT hR hRi hJ hD hY h1 h2 h3 h4 hRl hRr hE hx hN hN1 hN2 hN3
      refine callsIn_of_wp Try.func39 rfl trivial ?_ rfl
      simp only [Try.ntmps39, List.size_toArray, List.length_cons, List.length_nil, Nat.reduceAdd, Nat.reduceSub, Array.replicate_succ, Array.replicate_zero, List.push_toArray, List.append_toArray, List.nil_append, List.cons_append]
      gi_wp2
      refine wpIn_region_any (by kernel_rfl) ?_
      change wpAnyIn _ _ _ _ _ _ _ _ _ (World.drew _)
      refine take_lit (i := 0) rfl rfl rfl (by kernel_rfl) (by kernel_rfl) (by kernel_rfl) (fun _ _ _ h => h) ⟨Or.inl ⟨by rfl, fun _ => rfl⟩, fun _ => rfl⟩ (by simp only [List.setIfInBounds_toArray, List.set_cons_succ, List.set_cons_zero]; first | done | rfl) ?_
      refine take_lit (i := 1) rfl rfl rfl (by kernel_rfl) (by kernel_rfl) (by kernel_rfl) (fun _ _ _ h => h) ⟨Or.inl ⟨by rfl, fun _ => rfl⟩, fun _ => rfl⟩ (by simp only [List.setIfInBounds_toArray, List.set_cons_succ, List.set_cons_zero]; first | done | rfl) ?_
      refine take_lit (i := 2) (v := ?_) rfl rfl rfl (by kernel_rfl) (by kernel_rfl) (by kernel_rfl) (fun _ _ _ h => h) ⟨Or.inl ⟨by rfl, ?_⟩, fun _ => rfl⟩ rfl ?_
      rotate_left
      · intro w; go_simp; first | done | with_reducible rfl
      simp only [List.setIfInBounds_toArray, List.set_cons_succ, List.set_cons_zero]
      refine take_lit (i := 4) rfl rfl rfl (by kernel_rfl) (by kernel_rfl) (by kernel_rfl) (fun _ _ _ h => h) ⟨Or.inl ⟨by rfl, fun _ => rfl⟩, fun _ => rfl⟩ (by simp only [List.setIfInBounds_toArray, List.set_cons_succ, List.set_cons_zero]; first | done | rfl) ?_
      refine take_lit (i := 5) rfl rfl rfl (by kernel_rfl) (by kernel_rfl) (by kernel_rfl) (fun _ _ _ h => h) ⟨Or.inl ⟨by rfl, fun _ => rfl⟩, fun _ => rfl⟩ (by simp only [List.setIfInBounds_toArray, List.set_cons_succ, List.set_cons_zero]; first | done | rfl) ?_
      refine wpAnyIn_ready (rs := [3]) (by kernel_rfl) (by simp) (AllReadyIn.cons rfl (fun K hK => ?_) AllReadyIn.nil)
      go_simp
      refine hK _ _ ?_
      clear hK K
      refine wpAnyIn_ready (rs := [6]) (by kernel_rfl) (by simp) (AllReadyIn.cons rfl (fun K hK => ?_) AllReadyIn.nil)
      go_simp
      refine ⟨trivial, hdd _, ?_⟩
      refine IH1.out.mono ?_
      rintro e W1 (⟨rfl, ⟨Y0, Y1, Y2, Y3⟩, fn, tmps, assign, body, hy, hR⟩ | ⟨rfl, q, hq, hx1⟩)
      · refine hK _ _ ?_
        clear hK K
        refine take_lit (i := 7) rfl rfl rfl (by kernel_rfl) (by kernel_rfl) (by kernel_rfl) (fun _ _ _ h => h) ⟨Or.inl ⟨by rfl, fun _ => rfl⟩, fun _ => rfl⟩ (by simp only [List.setIfInBounds_toArray, List.set_cons_succ, List.set_cons_zero]; first | done | rfl) ?_
        refine take_lit (i := 8) rfl rfl rfl (by kernel_rfl) (by kernel_rfl) (by kernel_rfl) (fun _ _ _ h => h) ⟨Or.inl ⟨by rfl, fun _ => rfl⟩, fun _ => rfl⟩ (by simp only [List.setIfInBounds_toArray, List.set_cons_succ, List.set_cons_zero]; first | done | rfl) ?_
        refine take_lit (i := 9) rfl rfl rfl (by kernel_rfl) (by kernel_rfl) (by kernel_rfl) (fun _ _ _ h => h) ⟨Or.inl ⟨by rfl, fun _ => rfl⟩, fun _ => rfl⟩ (by simp only [List.setIfInBounds_toArray, List.set_cons_succ, List.set_cons_zero]; first | done | rfl) ?_
        refine take_lit (i := 10) rfl rfl rfl (by kernel_rfl) (by kernel_rfl) (by kernel_rfl) (fun _ _ _ h => h) ⟨Or.inl ⟨by rfl, fun _ => rfl⟩, fun _ => rfl⟩ (by simp only [List.setIfInBounds_toArray, List.set_cons_succ, List.set_cons_zero]; first | done | rfl) ?_
        refine take_lit (i := 11) (v := ?_) rfl rfl rfl (by kernel_rfl) (by kernel_rfl) (by kernel_rfl) (fun _ _ _ h => h) ⟨Or.inl ⟨by rfl, ?_⟩, fun _ => rfl⟩ rfl ?_
        rotate_left
        · intro w; go_simp; first | done | with_reducible rfl
        simp only [List.setIfInBounds_toArray, List.set_cons_succ, List.set_cons_zero]
        refine take_lit (i := 13) rfl rfl rfl (by kernel_rfl) (by kernel_rfl) (by kernel_rfl) (fun _ _ _ h => h) ⟨Or.inl ⟨by rfl, fun _ => rfl⟩, fun _ => rfl⟩ (by simp only [List.setIfInBounds_toArray, List.set_cons_succ, List.set_cons_zero]; first | done | rfl) ?_
        refine take_lit (i := 14) rfl rfl rfl (by kernel_rfl) (by kernel_rfl) (by kernel_rfl) (fun _ _ _ h => h) ⟨Or.inl ⟨by rfl, fun _ => rfl⟩, fun _ => rfl⟩ (by simp only [List.setIfInBounds_toArray, List.set_cons_succ, List.set_cons_zero]; first | done | rfl) ?_
        refine take_lit (i := 15) (v := ?_) rfl rfl rfl (by kernel_rfl) (by kernel_rfl) (by kernel_rfl) (fun _ _ _ h => h) ⟨Or.inl ⟨by rfl, ?_⟩, fun _ => rfl⟩ rfl ?_
        rotate_left
        · intro w; go_simp; first | done | with_reducible rfl
        simp only [List.setIfInBounds_toArray, List.set_cons_succ, List.set_cons_zero]
        refine wpAnyIn_ready (rs := [12, 16]) (by kernel_rfl) (by simp) (AllReadyIn.cons rfl (fun K hK => ?_) (AllReadyIn.cons rfl (fun K hK => ?_) AllReadyIn.nil))
        · go_simp
          refine hK _ _ ?_
          clear hK K
          refine wpAnyIn_ready (rs := [16]) (by kernel_rfl) (by simp) (AllReadyIn.cons rfl (fun K hK => ?_) AllReadyIn.nil)
          go_simp
          refine hK _ _ ?_
          clear hK K
          refine wpAnyIn_ready (rs := [17]) (by kernel_rfl) (by simp) (AllReadyIn.cons rfl (fun K hK => ?_) AllReadyIn.nil)
          go_simp
          try refine ⟨hdd _, ?_⟩
          refine hR.mono ?_
          rintro e W2 (⟨rfl, hJ2, hb2, c2, hr2⟩ | ⟨rfl, hx2⟩)
          · refine hK _ _ ?_
            clear hK K hy hR
            refine take_lit (i := 18) rfl rfl rfl (by kernel_rfl) (by kernel_rfl) (by kernel_rfl) (fun _ _ _ h => h) ⟨Or.inl ⟨by rfl, fun _ => rfl⟩, fun _ => rfl⟩ (by simp only [List.setIfInBounds_toArray, List.set_cons_succ, List.set_cons_zero]; first | done | rfl) ?_
            refine take_lit (i := 19) rfl rfl rfl (by kernel_rfl) (by kernel_rfl) (by kernel_rfl) (fun _ _ _ h => h) ⟨Or.inl ⟨by rfl, fun _ => rfl⟩, fun _ => rfl⟩ (by simp only [List.setIfInBounds_toArray, List.set_cons_succ, List.set_cons_zero]; first | done | rfl) ?_
            refine take_lit (i := 20) rfl rfl rfl (by kernel_rfl) (by kernel_rfl) (by kernel_rfl) (fun _ _ _ h => h) ⟨Or.inl ⟨by rfl, fun _ => rfl⟩, fun _ => rfl⟩ (by simp only [List.setIfInBounds_toArray, List.set_cons_succ, List.set_cons_zero]; first | done | rfl) ?_
            refine take_lit (i := 21) rfl rfl rfl (by kernel_rfl) (by kernel_rfl) (by kernel_rfl) (fun _ _ _ h => h) ⟨Or.inl ⟨by rfl, fun _ => rfl⟩, fun _ => rfl⟩ (by simp only [List.setIfInBounds_toArray, List.set_cons_succ, List.set_cons_zero]; first | done | rfl) ?_
            refine take_lit (i := 22) (v := ?_) rfl rfl rfl (by kernel_rfl) (by kernel_rfl) (by kernel_rfl) (fun _ _ _ h => h) ⟨Or.inl ⟨by rfl, ?_⟩, fun _ => rfl⟩ rfl ?_
            rotate_left
            · intro w; go_simp; first | done | with_reducible rfl
            simp only [List.setIfInBounds_toArray, List.set_cons_succ, List.set_cons_zero]
            refine take_lit (i := 24) rfl rfl rfl (by kernel_rfl) (by kernel_rfl) (by kernel_rfl) (fun _ _ _ h => h) ⟨Or.inl ⟨by rfl, fun _ => rfl⟩, fun _ => rfl⟩ (by simp only [List.setIfInBounds_toArray, List.set_cons_succ, List.set_cons_zero]; first | done | rfl) ?_
            refine take_lit (i := 25) rfl rfl rfl (by kernel_rfl) (by kernel_rfl) (by kernel_rfl) (fun _ _ _ h => h) ⟨Or.inl ⟨by rfl, fun _ => rfl⟩, fun _ => rfl⟩ (by simp only [List.setIfInBounds_toArray, List.set_cons_succ, List.set_cons_zero]; first | done | rfl) ?_
            refine wpAnyIn_ready (rs := [23]) (by kernel_rfl) (by simp) (AllReadyIn.cons rfl (fun K hK => ?_) AllReadyIn.nil)
            go_simp
            refine hK _ _ ?_
            clear hK K
            refine wpAnyIn_ready (rs := [26]) (by kernel_rfl) (by simp) (AllReadyIn.cons rfl (fun K hK => ?_) AllReadyIn.nil)
            go_simp
            refine ⟨trivial, hdd _, ?_⟩
            refine (IH2.out _ hr2 hJ2).mono ?_
            rintro e W3 (⟨rfl, hJ3, hb3⟩ | ⟨rfl, q, hq, hx3⟩)
            · refine hK _ _ ?_
              clear hK K
              refine take_lit (i := 27) rfl rfl rfl (by kernel_rfl) (by kernel_rfl) (by kernel_rfl) (fun _ _ _ h => h) ⟨Or.inl ⟨by rfl, fun _ => rfl⟩, fun _ => rfl⟩ (by simp only [List.setIfInBounds_toArray, List.set_cons_succ, List.set_cons_zero]; first | done | rfl) ?_
              refine take_lit (i := 28) rfl rfl rfl (by kernel_rfl) (by kernel_rfl) (by kernel_rfl) (fun _ _ _ h => h) ⟨Or.inl ⟨by rfl, fun _ => rfl⟩, fun _ => rfl⟩ (by simp only [List.setIfInBounds_toArray, List.set_cons_succ, List.set_cons_zero]; first | done | rfl) ?_
              refine wpAnyIn_done (by kernel_rfl) ?_ _
              gi_wp2
              go_ret
              exact .inl ⟨rfl, by simpa [List.append_assoc] using hJ3, hb2.trans hb3⟩
            · refine hK _ _ ?_
              clear hK K
              refine take_lit (i := 27) rfl rfl rfl (by kernel_rfl) (by kernel_rfl) (by kernel_rfl) (fun _ _ _ h => h) ⟨Or.inl ⟨by rfl, fun _ => rfl⟩, fun _ => rfl⟩ (by simp only [List.setIfInBounds_toArray, List.set_cons_succ, List.set_cons_zero]; first | done | rfl) ?_
              refine take_lit (i := 28) rfl rfl rfl (by kernel_rfl) (by kernel_rfl) (by kernel_rfl) (fun _ _ _ h => h) ⟨Or.inl ⟨by rfl, fun _ => rfl⟩, fun _ => rfl⟩ (by simp only [List.setIfInBounds_toArray, List.set_cons_succ, List.set_cons_zero]; first | done | rfl) ?_
              refine wpAnyIn_done (by kernel_rfl) ?_ _
              gi_wp2
              go_ret
              obtain ⟨r, hr⟩ := hq
              exact .inr ⟨rfl, fromL k tl.rows ++ (x, v) :: q, ⟨r, by simp [← hr]⟩, by simpa [List.append_assoc] using hx3⟩
          · refine hK _ _ ?_
            clear hK K hy hR
            refine take_lit (i := 18) rfl rfl rfl (by kernel_rfl) (by kernel_rfl) (by kernel_rfl) (fun _ _ _ h => h) ⟨Or.inl ⟨by rfl, fun _ => rfl⟩, fun _ => rfl⟩ (by simp only [List.setIfInBounds_toArray, List.set_cons_succ, List.set_cons_zero]; first | done | rfl) ?_
            refine take_lit (i := 19) rfl rfl rfl (by kernel_rfl) (by kernel_rfl) (by kernel_rfl) (fun _ _ _ h => h) ⟨Or.inl ⟨by rfl, fun _ => rfl⟩, fun _ => rfl⟩ (by simp only [List.setIfInBounds_toArray, List.set_cons_succ, List.set_cons_zero]; first | done | rfl) ?_
            refine take_lit (i := 20) (v := undef) rfl rfl rfl (by kernel_rfl) (by kernel_rfl) (by kernel_rfl) (fun _ _ _ h => h) ⟨Or.inr ⟨by rfl, rfl⟩, fun _ => rfl⟩ (by simp only [List.setIfInBounds_toArray, List.set_cons_succ, List.set_cons_zero]; first | done | rfl) ?_
            refine take_lit (i := 21) (v := undef) rfl rfl rfl (by kernel_rfl) (by kernel_rfl) (by kernel_rfl) (fun _ _ _ h => h) ⟨Or.inr ⟨by rfl, rfl⟩, fun _ => rfl⟩ (by simp only [List.setIfInBounds_toArray, List.set_cons_succ, List.set_cons_zero]; first | done | rfl) ?_
            refine take_lit (i := 22) (v := undef) rfl rfl rfl (by kernel_rfl) (by kernel_rfl) (by kernel_rfl) (fun _ _ _ h => h) ⟨Or.inr ⟨by rfl, rfl⟩, fun _ => rfl⟩ (by simp only [List.setIfInBounds_toArray, List.set_cons_succ, List.set_cons_zero]; first | done | rfl) ?_
            refine take_lit (i := 23) (v := undef) rfl rfl rfl (by kernel_rfl) (by kernel_rfl) (by kernel_rfl) (fun _ _ _ h => h) ⟨Or.inr ⟨by rfl, rfl⟩, fun _ => rfl⟩ (by simp only [List.setIfInBounds_toArray, List.set_cons_succ, List.set_cons_zero]; first | done | rfl) ?_
            refine take_lit (i := 24) (v := undef) rfl rfl rfl (by kernel_rfl) (by kernel_rfl) (by kernel_rfl) (fun _ _ _ h => h) ⟨Or.inr ⟨by rfl, rfl⟩, fun _ => rfl⟩ (by simp only [List.setIfInBounds_toArray, List.set_cons_succ, List.set_cons_zero]; first | done | rfl) ?_
            refine take_lit (i := 25) (v := undef) rfl rfl rfl (by kernel_rfl) (by kernel_rfl) (by kernel_rfl) (fun _ _ _ h => h) ⟨Or.inr ⟨by rfl, rfl⟩, fun _ => rfl⟩ (by simp only [List.setIfInBounds_toArray, List.set_cons_succ, List.set_cons_zero]; first | done | rfl) ?_
            refine wpAnyIn_ready (rs := [26]) (by kernel_rfl) (by simp) (AllReadyIn.cons rfl (fun K hK => ?_) AllReadyIn.nil)
            go_simp
            refine ⟨trivial, ?_⟩
            refine hK _ _ ?_
            clear hK K
            refine take_lit (i := 27) rfl rfl rfl (by kernel_rfl) (by kernel_rfl) (by kernel_rfl) (fun _ _ _ h => h) ⟨Or.inl ⟨by rfl, fun _ => rfl⟩, fun _ => rfl⟩ (by simp only [List.setIfInBounds_toArray, List.set_cons_succ, List.set_cons_zero]; first | done | rfl) ?_
            refine take_lit (i := 28) rfl rfl rfl (by kernel_rfl) (by kernel_rfl) (by kernel_rfl) (fun _ _ _ h => h) ⟨Or.inl ⟨by rfl, fun _ => rfl⟩, fun _ => rfl⟩ (by simp only [List.setIfInBounds_toArray, List.set_cons_succ, List.set_cons_zero]; first | done | rfl) ?_
            refine wpAnyIn_done (by kernel_rfl) ?_ _
            gi_wp2
            go_ret
            exact .inr ⟨rfl, fromL k tl.rows ++ [(x, v)], ⟨fromL k tr.rows, by simp⟩, by simpa [List.append_assoc] using hx2⟩
        · go_simp
          refine hK _ _ ?_
          clear hK K
          refine wpAnyIn_ready (rs := [12]) (by kernel_rfl) (by simp) (AllReadyIn.cons rfl (fun K hK => ?_) AllReadyIn.nil)
          go_simp
          refine hK _ _ ?_
          clear hK K
          refine wpAnyIn_ready (rs := [17]) (by kernel_rfl) (by simp) (AllReadyIn.cons rfl (fun K hK => ?_) AllReadyIn.nil)
          go_simp
          try refine ⟨hdd _, ?_⟩
          refine hR.mono ?_
          rintro e W2 (⟨rfl, hJ2, hb2, c2, hr2⟩ | ⟨rfl, hx2⟩)
          · refine hK _ _ ?_
            clear hK K hy hR
            refine take_lit (i := 18) rfl rfl rfl (by kernel_rfl) (by kernel_rfl) (by kernel_rfl) (fun _ _ _ h => h) ⟨Or.inl ⟨by rfl, fun _ => rfl⟩, fun _ => rfl⟩ (by simp only [List.setIfInBounds_toArray, List.set_cons_succ, List.set_cons_zero]; first | done | rfl) ?_
            refine take_lit (i := 19) rfl rfl rfl (by kernel_rfl) (by kernel_rfl) (by kernel_rfl) (fun _ _ _ h => h) ⟨Or.inl ⟨by rfl, fun _ => rfl⟩, fun _ => rfl⟩ (by simp only [List.setIfInBounds_toArray, List.set_cons_succ, List.set_cons_zero]; first | done | rfl) ?_
            refine take_lit (i := 20) rfl rfl rfl (by kernel_rfl) (by kernel_rfl) (by kernel_rfl) (fun _ _ _ h => h) ⟨Or.inl ⟨by rfl, fun _ => rfl⟩, fun _ => rfl⟩ (by simp only [List.setIfInBounds_toArray, List.set_cons_succ, List.set_cons_zero]; first | done | rfl) ?_
            refine take_lit (i := 21) rfl rfl rfl (by kernel_rfl) (by kernel_rfl) (by kernel_rfl) (fun _ _ _ h => h) ⟨Or.inl ⟨by rfl, fun _ => rfl⟩, fun _ => rfl⟩ (by simp only [List.setIfInBounds_toArray, List.set_cons_succ, List.set_cons_zero]; first | done | rfl) ?_
            refine take_lit (i := 22) (v := ?_) rfl rfl rfl (by kernel_rfl) (by kernel_rfl) (by kernel_rfl) (fun _ _ _ h => h) ⟨Or.inl ⟨by rfl, ?_⟩, fun _ => rfl⟩ rfl ?_
            rotate_left
            · intro w; go_simp; first | done | with_reducible rfl
            simp only [List.setIfInBounds_toArray, List.set_cons_succ, List.set_cons_zero]
            refine take_lit (i := 24) rfl rfl rfl (by kernel_rfl) (by kernel_rfl) (by kernel_rfl) (fun _ _ _ h => h) ⟨Or.inl ⟨by rfl, fun _ => rfl⟩, fun _ => rfl⟩ (by simp only [List.setIfInBounds_toArray, List.set_cons_succ, List.set_cons_zero]; first | done | rfl) ?_
            refine take_lit (i := 25) rfl rfl rfl (by kernel_rfl) (by kernel_rfl) (by kernel_rfl) (fun _ _ _ h => h) ⟨Or.inl ⟨by rfl, fun _ => rfl⟩, fun _ => rfl⟩ (by simp only [List.setIfInBounds_toArray, List.set_cons_succ, List.set_cons_zero]; first | done | rfl) ?_
            refine wpAnyIn_ready (rs := [23]) (by kernel_rfl) (by simp) (AllReadyIn.cons rfl (fun K hK => ?_) AllReadyIn.nil)
            go_simp
            refine hK _ _ ?_
            clear hK K
            refine wpAnyIn_ready (rs := [26]) (by kernel_rfl) (by simp) (AllReadyIn.cons rfl (fun K hK => ?_) AllReadyIn.nil)
            go_simp
            refine ⟨trivial, hdd _, ?_⟩
            refine (IH2.out _ hr2 hJ2).mono ?_
            rintro e W3 (⟨rfl, hJ3, hb3⟩ | ⟨rfl, q, hq, hx3⟩)
            · refine hK _ _ ?_
              clear hK K
              refine take_lit (i := 27) rfl rfl rfl (by kernel_rfl) (by kernel_rfl) (by kernel_rfl) (fun _ _ _ h => h) ⟨Or.inl ⟨by rfl, fun _ => rfl⟩, fun _ => rfl⟩ (by simp only [List.setIfInBounds_toArray, List.set_cons_succ, List.set_cons_zero]; first | done | rfl) ?_
              refine take_lit (i := 28) rfl rfl rfl (by kernel_rfl) (by kernel_rfl) (by kernel_rfl) (fun _ _ _ h => h) ⟨Or.inl ⟨by rfl, fun _ => rfl⟩, fun _ => rfl⟩ (by simp only [List.setIfInBounds_toArray, List.set_cons_succ, List.set_cons_zero]; first | done | rfl) ?_
              refine wpAnyIn_done (by kernel_rfl) ?_ _
              gi_wp2
              go_ret
              exact .inl ⟨rfl, by simpa [List.append_assoc] using hJ3, hb2.trans hb3⟩
            · refine hK _ _ ?_
              clear hK K
              refine take_lit (i := 27) rfl rfl rfl (by kernel_rfl) (by kernel_rfl) (by kernel_rfl) (fun _ _ _ h => h) ⟨Or.inl ⟨by rfl, fun _ => rfl⟩, fun _ => rfl⟩ (by simp only [List.setIfInBounds_toArray, List.set_cons_succ, List.set_cons_zero]; first | done | rfl) ?_
              refine take_lit (i := 28) rfl rfl rfl (by kernel_rfl) (by kernel_rfl) (by kernel_rfl) (fun _ _ _ h => h) ⟨Or.inl ⟨by rfl, fun _ => rfl⟩, fun _ => rfl⟩ (by simp only [List.setIfInBounds_toArray, List.set_cons_succ, List.set_cons_zero]; first | done | rfl) ?_
              refine wpAnyIn_done (by kernel_rfl) ?_ _
              gi_wp2
              go_ret
              obtain ⟨r, hr⟩ := hq
              exact .inr ⟨rfl, fromL k tl.rows ++ (x, v) :: q, ⟨r, by simp [← hr]⟩, by simpa [List.append_assoc] using hx3⟩
          · refine hK _ _ ?_
            clear hK K hy hR
            refine take_lit (i := 18) rfl rfl rfl (by kernel_rfl) (by kernel_rfl) (by kernel_rfl) (fun _ _ _ h => h) ⟨Or.inl ⟨by rfl, fun _ => rfl⟩, fun _ => rfl⟩ (by simp only [List.setIfInBounds_toArray, List.set_cons_succ, List.set_cons_zero]; first | done | rfl) ?_
            refine take_lit (i := 19) rfl rfl rfl (by kernel_rfl) (by kernel_rfl) (by kernel_rfl) (fun _ _ _ h => h) ⟨Or.inl ⟨by rfl, fun _ => rfl⟩, fun _ => rfl⟩ (by simp only [List.setIfInBounds_toArray, List.set_cons_succ, List.set_cons_zero]; first | done | rfl) ?_
            refine take_lit (i := 20) (v := undef) rfl rfl rfl (by kernel_rfl) (by kernel_rfl) (by kernel_rfl) (fun _ _ _ h => h) ⟨Or.inr ⟨by rfl, rfl⟩, fun _ => rfl⟩ (by simp only [List.setIfInBounds_toArray, List.set_cons_succ, List.set_cons_zero]; first | done | rfl) ?_
            refine take_lit (i := 21) (v := undef) rfl rfl rfl (by kernel_rfl) (by kernel_rfl) (by kernel_rfl) (fun _ _ _ h => h) ⟨Or.inr ⟨by rfl, rfl⟩, fun _ => rfl⟩ (by simp only [List.setIfInBounds_toArray, List.set_cons_succ, List.set_cons_zero]; first | done | rfl) ?_
            refine take_lit (i := 22) (v := undef) rfl rfl rfl (by kernel_rfl) (by kernel_rfl) (by kernel_rfl) (fun _ _ _ h => h) ⟨Or.inr ⟨by rfl, rfl⟩, fun _ => rfl⟩ (by simp only [List.setIfInBounds_toArray, List.set_cons_succ, List.set_cons_zero]; first | done | rfl) ?_
            refine take_lit (i := 23) (v := undef) rfl rfl rfl (by kernel_rfl) (by kernel_rfl) (by kernel_rfl) (fun _ _ _ h => h) ⟨Or.inr ⟨by rfl, rfl⟩, fun _ => rfl⟩ (by simp only [List.setIfInBounds_toArray, List.set_cons_succ, List.set_cons_zero]; first | done | rfl) ?_
            refine take_lit (i := 24) (v := undef) rfl rfl rfl (by kernel_rfl) (by kernel_rfl) (by kernel_rfl) (fun _ _ _ h => h) ⟨Or.inr ⟨by rfl, rfl⟩, fun _ => rfl⟩ (by simp only [List.setIfInBounds_toArray, List.set_cons_succ, List.set_cons_zero]; first | done | rfl) ?_
            refine take_lit (i := 25) (v := undef) rfl rfl rfl (by kernel_rfl) (by kernel_rfl) (by kernel_rfl) (fun _ _ _ h => h) ⟨Or.inr ⟨by rfl, rfl⟩, fun _ => rfl⟩ (by simp only [List.setIfInBounds_toArray, List.set_cons_succ, List.set_cons_zero]; first | done | rfl) ?_
            refine wpAnyIn_ready (rs := [26]) (by kernel_rfl) (by simp) (AllReadyIn.cons rfl (fun K hK => ?_) AllReadyIn.nil)
            go_simp
            refine ⟨trivial, ?_⟩
            refine hK _ _ ?_
            clear hK K
            refine take_lit (i := 27) rfl rfl rfl (by kernel_rfl) (by kernel_rfl) (by kernel_rfl) (fun _ _ _ h => h) ⟨Or.inl ⟨by rfl, fun _ => rfl⟩, fun _ => rfl⟩ (by simp only [List.setIfInBounds_toArray, List.set_cons_succ, List.set_cons_zero]; first | done | rfl) ?_
            refine take_lit (i := 28) rfl rfl rfl (by kernel_rfl) (by kernel_rfl) (by kernel_rfl) (fun _ _ _ h => h) ⟨Or.inl ⟨by rfl, fun _ => rfl⟩, fun _ => rfl⟩ (by simp only [List.setIfInBounds_toArray, List.set_cons_succ, List.set_cons_zero]; first | done | rfl) ?_
            refine wpAnyIn_done (by kernel_rfl) ?_ _
            gi_wp2
            go_ret
            exact .inr ⟨rfl, fromL k tl.rows ++ [(x, v)], ⟨fromL k tr.rows, by simp⟩, by simpa [List.append_assoc] using hx2⟩
      · refine hK _ _ ?_
        clear hK K
        refine take_lit (i := 7) rfl rfl rfl (by kernel_rfl) (by kernel_rfl) (by kernel_rfl) (fun _ _ _ h => h) ⟨Or.inl ⟨by rfl, fun _ => rfl⟩, fun _ => rfl⟩ (by simp only [List.setIfInBounds_toArray, List.set_cons_succ, List.set_cons_zero]; first | done | rfl) ?_
        refine take_lit (i := 8) (v := undef) rfl rfl rfl (by kernel_rfl) (by kernel_rfl) (by kernel_rfl) (fun _ _ _ h => h) ⟨Or.inr ⟨by rfl, rfl⟩, fun _ => rfl⟩ (by simp only [List.setIfInBounds_toArray, List.set_cons_succ, List.set_cons_zero]; first | done | rfl) ?_
        refine take_lit (i := 9) (v := undef) rfl rfl rfl (by kernel_rfl) (by kernel_rfl) (by kernel_rfl) (fun _ _ _ h => h) ⟨Or.inr ⟨by rfl, rfl⟩, fun _ => rfl⟩ (by simp only [List.setIfInBounds_toArray, List.set_cons_succ, List.set_cons_zero]; first | done | rfl) ?_
        refine take_lit (i := 10) (v := undef) rfl rfl rfl (by kernel_rfl) (by kernel_rfl) (by kernel_rfl) (fun _ _ _ h => h) ⟨Or.inr ⟨by rfl, rfl⟩, fun _ => rfl⟩ (by simp only [List.setIfInBounds_toArray, List.set_cons_succ, List.set_cons_zero]; first | done | rfl) ?_
        refine take_lit (i := 11) (v := undef) rfl rfl rfl (by kernel_rfl) (by kernel_rfl) (by kernel_rfl) (fun _ _ _ h => h) ⟨Or.inr ⟨by rfl, rfl⟩, fun _ => rfl⟩ (by simp only [List.setIfInBounds_toArray, List.set_cons_succ, List.set_cons_zero]; first | done | rfl) ?_
        refine take_lit (i := 12) (v := undef) rfl rfl rfl (by kernel_rfl) (by kernel_rfl) (by kernel_rfl) (fun _ _ _ h => h) ⟨Or.inr ⟨by rfl, rfl⟩, fun _ => rfl⟩ (by simp only [List.setIfInBounds_toArray, List.set_cons_succ, List.set_cons_zero]; first | done | rfl) ?_
        refine take_lit (i := 13) (v := undef) rfl rfl rfl (by kernel_rfl) (by kernel_rfl) (by kernel_rfl) (fun _ _ _ h => h) ⟨Or.inr ⟨by rfl, rfl⟩, fun _ => rfl⟩ (by simp only [List.setIfInBounds_toArray, List.set_cons_succ, List.set_cons_zero]; first | done | rfl) ?_
        refine take_lit (i := 14) (v := undef) rfl rfl rfl (by kernel_rfl) (by kernel_rfl) (by kernel_rfl) (fun _ _ _ h => h) ⟨Or.inr ⟨by rfl, rfl⟩, fun _ => rfl⟩ (by simp only [List.setIfInBounds_toArray, List.set_cons_succ, List.set_cons_zero]; first | done | rfl) ?_
        refine take_lit (i := 15) (v := undef) rfl rfl rfl (by kernel_rfl) (by kernel_rfl) (by kernel_rfl) (fun _ _ _ h => h) ⟨Or.inr ⟨by rfl, rfl⟩, fun _ => rfl⟩ (by simp only [List.setIfInBounds_toArray, List.set_cons_succ, List.set_cons_zero]; first | done | rfl) ?_
        refine take_lit (i := 16) (v := undef) rfl rfl rfl (by kernel_rfl) (by kernel_rfl) (by kernel_rfl) (fun _ _ _ h => h) ⟨Or.inr ⟨by rfl, rfl⟩, fun _ => rfl⟩ (by simp only [List.setIfInBounds_toArray, List.set_cons_succ, List.set_cons_zero]; first | done | rfl) ?_
        refine take_lit (i := 17) (v := undef) rfl rfl rfl (by kernel_rfl) (by kernel_rfl) (by kernel_rfl) (fun _ _ _ h => h) ⟨Or.inr ⟨by rfl, rfl⟩, fun _ => rfl⟩ (by simp only [List.setIfInBounds_toArray, List.set_cons_succ, List.set_cons_zero]; first | done | rfl) ?_
        refine take_lit (i := 18) rfl rfl rfl (by kernel_rfl) (by kernel_rfl) (by kernel_rfl) (fun _ _ _ h => h) ⟨Or.inl ⟨by rfl, fun _ => rfl⟩, fun _ => rfl⟩ (by simp only [List.setIfInBounds_toArray, List.set_cons_succ, List.set_cons_zero]; first | done | rfl) ?_
        refine take_lit (i := 19) rfl rfl rfl (by kernel_rfl) (by kernel_rfl) (by kernel_rfl) (fun _ _ _ h => h) ⟨Or.inl ⟨by rfl, fun _ => rfl⟩, fun _ => rfl⟩ (by simp only [List.setIfInBounds_toArray, List.set_cons_succ, List.set_cons_zero]; first | done | rfl) ?_
        refine take_lit (i := 20) (v := undef) rfl rfl rfl (by kernel_rfl) (by kernel_rfl) (by kernel_rfl) (fun _ _ _ h => h) ⟨Or.inr ⟨by rfl, rfl⟩, fun _ => rfl⟩ (by simp only [List.setIfInBounds_toArray, List.set_cons_succ, List.set_cons_zero]; first | done | rfl) ?_
        refine take_lit (i := 21) (v := undef) rfl rfl rfl (by kernel_rfl) (by kernel_rfl) (by kernel_rfl) (fun _ _ _ h => h) ⟨Or.inr ⟨by rfl, rfl⟩, fun _ => rfl⟩ (by simp only [List.setIfInBounds_toArray, List.set_cons_succ, List.set_cons_zero]; first | done | rfl) ?_
        refine take_lit (i := 22) (v := undef) rfl rfl rfl (by kernel_rfl) (by kernel_rfl) (by kernel_rfl) (fun _ _ _ h => h) ⟨Or.inr ⟨by rfl, rfl⟩, fun _ => rfl⟩ (by simp only [List.setIfInBounds_toArray, List.set_cons_succ, List.set_cons_zero]; first | done | rfl) ?_
        refine take_lit (i := 23) (v := undef) rfl rfl rfl (by kernel_rfl) (by kernel_rfl) (by kernel_rfl) (fun _ _ _ h => h) ⟨Or.inr ⟨by rfl, rfl⟩, fun _ => rfl⟩ (by simp only [List.setIfInBounds_toArray, List.set_cons_succ, List.set_cons_zero]; first | done | rfl) ?_
        refine take_lit (i := 24) (v := undef) rfl rfl rfl (by kernel_rfl) (by kernel_rfl) (by kernel_rfl) (fun _ _ _ h => h) ⟨Or.inr ⟨by rfl, rfl⟩, fun _ => rfl⟩ (by simp only [List.setIfInBounds_toArray, List.set_cons_succ, List.set_cons_zero]; first | done | rfl) ?_
        refine take_lit (i := 25) (v := undef) rfl rfl rfl (by kernel_rfl) (by kernel_rfl) (by kernel_rfl) (fun _ _ _ h => h) ⟨Or.inr ⟨by rfl, rfl⟩, fun _ => rfl⟩ (by simp only [List.setIfInBounds_toArray, List.set_cons_succ, List.set_cons_zero]; first | done | rfl) ?_
        refine wpAnyIn_ready (rs := [26]) (by kernel_rfl) (by simp) (AllReadyIn.cons rfl (fun K hK => ?_) AllReadyIn.nil)
        go_simp
        refine ⟨trivial, ?_⟩
        refine hK _ _ ?_
        clear hK K
        refine take_lit (i := 27) rfl rfl rfl (by kernel_rfl) (by kernel_rfl) (by kernel_rfl) (fun _ _ _ h => h) ⟨Or.inl ⟨by rfl, fun _ => rfl⟩, fun _ => rfl⟩ (by simp only [List.setIfInBounds_toArray, List.set_cons_succ, List.set_cons_zero]; first | done | rfl) ?_
        refine take_lit (i := 28) rfl rfl rfl (by kernel_rfl) (by kernel_rfl) (by kernel_rfl) (fun _ _ _ h => h) ⟨Or.inl ⟨by rfl, fun _ => rfl⟩, fun _ => rfl⟩ (by simp only [List.setIfInBounds_toArray, List.set_cons_succ, List.set_cons_zero]; first | done | rfl) ?_
        refine wpAnyIn_done (by kernel_rfl) ?_ _
        gi_wp2
        go_ret
        exact .inr ⟨rfl, q, hq.trans ⟨(x, v) :: fromL k tr.rows, rfl⟩, hx1⟩
end Go.Proofs.Ytcjfammfplcigaa.Pk
