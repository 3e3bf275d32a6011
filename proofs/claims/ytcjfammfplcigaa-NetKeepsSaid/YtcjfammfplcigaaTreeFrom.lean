/- The functions that the table's From and All answer. -/
import Derived.Test.YtcjfammfplcigaaTreeRise
namespace Go.Proofs.Ytcjfammfplcigaa.Pk
open Go.RowKit Go.Shelf Go.Proofs.Ytcjfammfplcigaa.Tb
set_option linter.unusedVariables false
attribute [local go_sem] Oper.semAt_some

theorem grown_drew (W : World) : W.grownBy W.drew none := ⟨rfl, rfl, rfl, Nat.le_refl _, fun _ _ _ => rfl⟩
theorem abides_drew {β : Type} {B : Nat} {J : β → World → Prop} (h : AbidesFrom B J) (s : β) (W : World) (hJ : J s W) : J s W.drew := h s W _ none hJ (grown_drew W) (fun r e => by cases e)

set_option maxHeartbeats 1000000 in
/-- The function that From answers. -/
theorem from1_in (m l Bt Bk : Nat) (C : List Rw → Rw → Prop) (t : Tr) (k : Int) (R : Nat → Prop) (hR : ∀ b, t.has b → R b) (hRi : Rises t.rows) (J Jx : List Rw → World → Prop) (hD : ∀ pre W, J pre W → J pre W.drew)
    (hY : ∀ pre (x : Rw) W, J pre W → C pre x → YieldAt Fence.wide (m - 1) Try.prog l #[.int .i64 x.1, .string x.2] W fun e W' =>
      (e = .returned (.bool true) ∧ J (pre ++ [x]) W' ∧ Stay R W W') ∨ (e = .returned (.bool false) ∧ Jx (pre ++ [x]) W'))
    (W : World) (hBt : W.cell? ⟨Bt, 0, none⟩ = some (.pointer t.p)) (hBk : W.cell? ⟨Bk, 0, none⟩ = some (.int .i64 k)) (hT : IsT W t) (h0 : J [] W) (hC : ∀ q x, q ++ [x] <+: fromL k t.rows → C q x) :
    CallsIn Fence.wide m Try.prog 38 #[.func (.yield l) #[] #[], .pointer (some ⟨Bt, 0, none⟩), .pointer (some ⟨Bk, 0, none⟩)] W fun e W' => (∃ v, e = .returned v) ∧
      ((∃ ys, ys = fromL k t.rows ∧ J ys W') ∨ (∃ pre, pre <+: fromL k t.rows ∧ Jx pre W')) := by
  have hp := Lib.hid (rise_in l C R J Jx k hD (fun m pre x W hj hl => yieldAt_any m (hY pre x W hj hl)) t (m - 1) [] W hT hR hRi h0 (fun q x h => by simpa using hC q x h))
  clear hY hT h0 hD hC
  refine callsIn_of_wp Try.func38 rfl trivial ?_ rfl
  simp only [Try.ntmps38, List.size_toArray, List.length_cons, List.length_nil, Nat.reduceAdd, Nat.reduceSub, Array.replicate_succ, Array.replicate_zero, List.push_toArray, List.append_toArray, List.nil_append, List.cons_append]
  gi_wp2_with (refine ⟨trivial, hdd _, ?_⟩; gi_at_call 39; refine hp.out.mono ?_; clear hp; rintro e W1 (⟨rfl, hJ1, _⟩ | ⟨rfl, q, hq, hx⟩))
  · go_end0
    exact ⟨⟨_, rfl⟩, .inl ⟨_, rfl, by simpa using hJ1⟩⟩
  · go_end0
    exact ⟨⟨_, rfl⟩, .inr ⟨q, hq, by simpa using hx⟩⟩

theorem from_seq (t : Tr) (k : Int) (Bt Bk : Nat) (w : World) (hBt : Blk w Bt 60 #[.pointer t.p]) (hBk : Blk w Bk 3 #[.int .i64 k]) (hT : IsT w t) (hRi : Rises t.rows) :
    SeqC (.func (.func 38) #[] #[.pointer (some ⟨Bt, 0, none⟩), .pointer (some ⟨Bk, 0, none⟩)]) (fromL k t.rows) (fun b => b = Bt ∨ b = Bk ∨ t.has b) w := by
  refine ⟨_, _, rfl, enters_of Try.func38 (by kernel_rfl) rfl, ?_, ?_⟩
  · intro b hb
    rcases hb with rfl | rfl | hb
    · exact hBt.lt
    · exact hBk.lt
    · exact hT.lt b hb
  · intro m W hm hs l J Jx W1 hW hJ hJx hY h0
    have hs1 : Stay (fun b => b = Bt ∨ b = Bk ∨ t.has b) w W1 := hs.trans (Stay.below hW (fun b hb => by
      have := hs.1
      rcases hb with rfl | rfl | hb
      · have := hBt.lt; omega
      · have := hBk.lt; omega
      · have := hT.lt b hb; omega))
    refine from1_in m l Bt Bk (fun pre x => pre.length < (fromL k t.rows).length) t k _ (fun b hb => .inr (.inr hb)) hRi J Jx (fun pre W => abides_drew hJ pre W) hY W1 ?_ ?_ (hT.stay fun b hb => hs1.2 b (.inr (.inr hb))) h0 (fun q x h => by have := h.length_le; simp at this; omega)
    · exact (World.cell?_of_block (a := ⟨Bt, 0, none⟩) (hs1.2 Bt (.inl rfl))).trans (hBt.cell 0)
    · exact (World.cell?_of_block (a := ⟨Bk, 0, none⟩) (hs1.2 Bk (.inr (.inl rfl)))).trans (hBk.cell 0)

theorem from_any (T : Nat) (t : Tr) (k : Int) (w : World) (h : IsTab w T t) :
    Calls Try.prog 36 #[.pointer (some ⟨T, 0, none⟩), .int .i64 k] w fun e w' =>
      ∃ Bt Bk, e = .returned (.func (.func 38) #[] #[.pointer (some ⟨Bt, 0, none⟩), .pointer (some ⟨Bk, 0, none⟩)]) ∧ w.heap.size ≤ Bt ∧ w.heap.size ≤ Bk ∧
        Blk w' Bt 60 #[.pointer t.p] ∧ Blk w' Bk 3 #[.int .i64 k] ∧ Below w.heap.size w w' := by
  have H := Lib.hid (fun w1 (hb : Below w.heap.size w w1) => root_any T t w1 (h.1.below hb h.1.lt))
  clear h
  go_enter Try.func36, Try.ntmps36
  go_wp2_with fail
  refine (H.out _ ((Below.refl _ w).alloc (Nat.le_refl _) _)).mono ?_
  rintro e w' ⟨rfl, rfl⟩
  go_wp2
  go_ret
  exact ⟨w.heap.size + 1, w.heap.size, rfl, by omega, Nat.le_refl _, by have := Blk.new (w.alloc (.cells #[.int .i64 k] 3)) 60 #[.pointer t.p]; rwa [World.size_alloc] at this, (Blk.new w _ _).alloc _, ((Below.refl _ w).alloc (Nat.le_refl _) _).alloc (by simp) _⟩

theorem fromL_all {w : World} {t : Tr} (h : IsT w t) : fromL (-9223372036854775808) t.rows = t.rows := by
  unfold fromL
  rw [List.filter_eq_self]
  intro y hy
  simpa using (h.keys y hy).1
theorem yields_from (T : Nat) (t : Tr) (k : Int) (w : World) (h : IsTab w T t) (e : Ending) (w' : World)
    (hx : ∃ Bt Bk, e = .returned (.func (.func 38) #[] #[.pointer (some ⟨Bt, 0, none⟩), .pointer (some ⟨Bk, 0, none⟩)]) ∧ w.heap.size ≤ Bt ∧ w.heap.size ≤ Bk ∧
        Blk w' Bt 60 #[.pointer t.p] ∧ Blk w' Bk 3 #[.int .i64 k] ∧ Below w.heap.size w w') :
    Yields (fromL k t.rows) (fun b => b = T) (fun b => b = T ∨ t.has b) w e w' := by
  obtain ⟨Bt, Bk, he, h1, h2, h3, h4, h5⟩ := hx
  have hT := h.1.lt
  refine ⟨_, _, he, from_seq t k Bt Bk w' h3 h4 (h.2.1.below h5) h.2.2, h5, ?_, ?_⟩
  · intro b hb
    rcases hb with rfl | rfl | hb
    · exact .inr h1
    · exact .inr h2
    · exact .inl (.inr hb)
  · intro b hb hs
    have hs' : b = T := hs
    rcases hb with rfl | rfl | hb
    · omega
    · omega
    · subst hs'
      exact IsT.not_has h.1 (by decide) h.2.1 hb
theorem all_any (T : Nat) (t : Tr) (w : World) (h : IsTab w T t) :
    Calls Try.prog 28 #[.pointer (some ⟨T, 0, none⟩)] w (Yields t.rows (fun b => b = T) (fun b => b = T ∨ t.has b) w) := by
  have H := Lib.hid (from_any T t (-9223372036854775808) w h)
  have HY := Lib.hid (fun e w' hx => yields_from T t (-9223372036854775808) w h e w' hx)
  rw [fromL_all h.2.1] at HY
  clear h
  go_enter Try.func28, Try.ntmps28
  go_wp2_with fail
  refine H.out.mono ?_
  rintro e w' ⟨Bt, Bk, rfl, h1, h2, h3, h4, h5⟩
  have HZ := Lib.hid (HY.out _ w' ⟨Bt, Bk, rfl, h1, h2, h3, h4, h5⟩)
  clear h1 h2 h3 h4 h5 H HY
  go_wp2
  go_ret
  exact HZ.out
end Go.Proofs.Ytcjfammfplcigaa.Pk
