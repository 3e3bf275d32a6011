/- Package tree: Dist. -/
import Derived.Test.YtcomiininaemhaaTrPath
namespace Go.Proofs.Ytcomiininaemhaa.Pk
open Go.RowKit Go.Shelf Go.Proofs.Ytcomiininaemhaa.Gr
set_option linter.unusedVariables false
attribute [local go_sem] Oper.semAt_some

theorem stay_set {D : Nat → Prop} {V : World} {x : Nat} {u : Value} (hx : ¬ D x) : Stay D V (V.setCell ⟨x, 0, none⟩ u) :=
  ⟨by simp [World.setCell], fun b hb => Below.heap_setCell _ ⟨x, 0, none⟩ _ b (fun e => hx (by simp at e; subst e; exact hb))⟩
theorem own_blk {β : Type} (B x : Nat) (t : TypeId) (f : β → Value) : OwnFrom (β := β) B (fun s W => Blk W x t #[f s]) := Own.from (I := fun (s : β) W => Blk W x t #[f s]) (fun s A W row hs hg hr => blk_kept hs hg hr) B
/-- How many edges lie between; -1: no such nodes. -/
def distI (ps : List Int) (a b : Int) : Int := ((pathI ps a b).length : Int) - 1
set_option maxRecDepth 100000 in
set_option maxHeartbeats 4000000 in
/-- Of whatever has a Path. -/
theorem dist_val (tv : Value) (D : Nat → Prop) (l : List Int) (a b : Int) (w : World) (hD : ∀ x, D x → x < w.heap.size) (hlen : l.length ≤ 32)
    (hP : ∀ W, Below w.heap.size w W → Calls Try.prog 38 #[tv, .int .i64 a, .int .i64 b] W (PathR D l W)) :
    Calls Try.prog 26 #[tv, .int .i64 a, .int .i64 b] w fun e w' => e = .returned (.int .i64 ((l.length : Int) - 1)) ∧ Below w.heap.size w w' := by
  have HD := Lib.hid hD
  have HLe := Lib.hid hlen
  clear hD hlen
  obtain ⟨W0, hW0⟩ : ∃ W0, W0 = w.alloc (.cells #[.int .i64 (-1)] 3) := ⟨_, rfl⟩
  have hk0 : Blk W0 w.heap.size 3 #[.int .i64 (-1)] := hW0 ▸ Blk.new w _ _
  have hb0 : Below w.heap.size w W0 := hW0 ▸ (Below.refl _ w).alloc (Nat.le_refl _) _
  have HK0 := Lib.hid hk0
  have HB0 := Lib.hid hb0
  clear hk0 hb0
  have HP := Lib.hid (hP W0 HB0.out)
  clear hP
  refine (callsIn_wide (n := 9)).1 ?_
  refine callsIn_of_wp_marks Try.func26 rfl trivial ?_ rfl
  simp only [Try.ntmps26, List.size_toArray, List.length_cons, List.length_nil, Nat.reduceAdd, Nat.reduceSub, Array.replicate_succ, Array.replicate_zero, List.push_toArray, List.append_toArray, List.nil_append, List.cons_append]
  refine wpIn_wide.2 ?_
  go_wp2_with fail
  rw [← hW0]
  refine HP.out.mono ?_
  rintro e w1 ⟨v, R, rfl, hs, hb1, hR⟩
  have hsq := hs
  obtain ⟨gf, lb, rfl, en, hRl, _⟩ := hs
  have SQ := Lib.hid hsq
  have EN := Lib.hid en
  have HK1 := Lib.hid (HK0.out.below hb1 HK0.out.lt)
  have HB1 := Lib.hid (HB0.out.trans (hb1.mono HB0.out.size))
  have HRx : Hid (∀ b, R b → b ≠ w.heap.size) := Lib.hid (fun b hb e => by
    subst e
    rcases hR _ hb with h | h
    · have := HD.out _ h; omega
    · have := HK0.out.lt; omega)
  have hxs : w.heap.size < w1.heap.size := HK1.out.lt
  obtain ⟨x0, hx0⟩ : ∃ x0, x0 = w.heap.size := ⟨_, rfl⟩
  have HX0 := Lib.hid hx0
  rw [← hx0] at HK1 HRx hxs ⊢
  clear hsq en hRl hb1 hR hx0 hW0 HP HK0
  go_wp2
  refine (wpIn_wide (n := 9)).1 ?_
  refine' wpIn_rangeFunc_ownG (α := Int) rfl (by omega) (gf := gf) (lb := lb) rfl trivial EN.out
    SQ.out.seq (fun h k => h.trans k) (stay_b SQ.out.lt) (Below.refl _ _) (fun _ => rfl)
    (fun pre W => Blk W x0 3 #[.int .i64 ((pre.length : Int) - 1)] ∧ Only w1 W x0)
    (fun c pre W => False)
    (OwnFrom.and (own_blk _ x0 _ (fun pre : List Int => .int .i64 ((pre.length : Int) - 1))) (own_only w1 x0))
    (fun c => fun s A B row hs hg hr => hs)
    ⟨by simpa using HK1.out, Only.refl _ _⟩
    _ ?assign ?body ?done ?stop
  case assign =>
    intro l x W K hK
    gi_wp2
    exact hK
  case body =>
    rintro lp pre y V ⟨hbx, hOnly⟩ hlt
    obtain ⟨z, hz⟩ : ∃ z, z = (pre.length : Int) - 1 := ⟨_, rfl⟩
    have hz1 : -1 ≤ z ∧ z ≤ 32 := by have := HLe.out; omega
    have HZ := Lib.hid hz
    rw [← hz] at hbx
    have cx : V.cell? ⟨x0, 0, none⟩ = some (.int .i64 z) := by rw [hbx.cell]; rfl
    have fx : V.frozen? ⟨x0, 0, none⟩ = false := hbx.frozen 0
    have HBx := Lib.hid hbx
    clear hbx hz
    gi_wp2
    exact ⟨(KeepsOthers.setCell _ _ _).from _, stay_set (fun h => HRx.out _ h rfl), by
      have := blk_put HBx.out (.int .i64 (z + 1))
      rw [List.length_append, show ((pre.length + [y].length : Nat) : Int) - 1 = z + 1 by rw [HZ.out]; simp]; exact this, hOnly.set _ _⟩
  case stop =>
    rintro D cc pre V hD hpre hf hK
    exact hf.elim
  case done =>
    rintro D ys V hD rfl ⟨hbx, hOnly⟩ hK
    obtain ⟨z, hz⟩ : ∃ z, z = (ys.length : Int) - 1 := ⟨_, rfl⟩
    have HDi : Hid ((ys.length : Int) - 1 = z) := Lib.hid hz.symm
    rw [← hz] at hbx
    have cx : V.cell? ⟨x0, 0, none⟩ = some (.int .i64 z) := by rw [hbx.cell]; rfl
    clear hbx hz
    go_wp2
    have hlD : D < V.heap.size := by
      rcases Nat.lt_or_ge D V.heap.size with h1 | h1
      · exact h1
      · rw [Array.getElem?_eq_none h1] at hK; cases hK
    refine Marks.leave (B := w1.heap.size) [_] _ ⟨D, rfl, hD, hlD, hK, by simp, trivial⟩ (fun W' hb => ?_)
    refine ⟨.int .i64 z, by simp [results, Try.f26, go_sem], by rw [HDi.out], ?_⟩
    have h1 := Only.below HB1.out hOnly (by rw [HX0.out]; exact Nat.le_refl _) HB1.out.size
    exact h1.trans (hb.mono HB1.out.size)
theorem dist_any (T g : Nat) (ps : List Int) (a b : Int) (w : World) (h : IsTr w T g ps) (G : Gr.Good ps) (hlen : (pathI ps a b).length ≤ 32) :
    Calls Try.prog 26 #[.pointer (some ⟨T, 0, none⟩), .int .i64 a, .int .i64 b] w fun e w' => e = .returned (.int .i64 (distI ps a b)) ∧ Below w.heap.size w w' :=
  dist_val _ (TrB T g) _ a b w h.lt hlen fun W hW => path_code T g ps a b W (h.below_ hW) G
theorem dist_nil (a b : Int) (w : World) :
    Calls Try.prog 26 #[.pointer none, .int .i64 a, .int .i64 b] w fun e w' => e = .returned (.int .i64 (-1)) ∧ Below w.heap.size w w' :=
  dist_val _ (fun _ => False) [] a b w (fun _ h => h.elim) (by simp) fun W hW => path_nil a b W
end Go.Proofs.Ytcomiininaemhaa.Pk
