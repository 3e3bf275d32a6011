/- The table's All, as a function whose rounds may turn what came to them, and are told that what has come is a beginning of the rows. -/
import Derived.Test.YtcjfammfplcigaaTreeNil
namespace Go.Proofs.Ytcjfammfplcigaa.Pk
open Go.RowKit Go.Shelf Go.Proofs.Ytcjfammfplcigaa.Tb
set_option linter.unusedVariables false
def encT (x : Rw) : Array Value := #[Value.int .i64 x.1, Value.string x.2]
def SeqT (v : Value) (rows : List Rw) (R : Nat → Prop) (w : World) : Prop :=
  ∃ gf lb, v = .func (.func gf) #[] lb ∧ (∀ args u, (callFunc gf args).run Try.prog u = .ok (.enter gf args) u) ∧ (∀ b, R b → b < w.heap.size) ∧
    ∀ m W, Stay R w W → GoesF m Try.prog gf #[] lb encT (Stay R) (fun ys => ys = rows) (fun pre => pre <+: rows) (fun _ pre x _ => pre ++ [x] <+: rows) (fun _ _ _ => False) W
theorem SeqT.stay {v : Value} {rows : List Rw} {R : Nat → Prop} {w W : World} (h : SeqT v rows R w) (hs : Stay R w W) : SeqT v rows R W := by
  obtain ⟨gf, lb, e, h1, h2, h3⟩ := h
  exact ⟨gf, lb, e, h1, fun b hb => Nat.lt_of_lt_of_le (h2 b hb) hs.1, fun m W' hW => h3 m W' (hs.trans hW)⟩
theorem SeqT.lt {v : Value} {rows : List Rw} {R : Nat → Prop} {w : World} (h : SeqT v rows R w) : ∀ b, R b → b < w.heap.size := by
  obtain ⟨_, _, _, _, h2, _⟩ := h
  exact h2
theorem SeqT.at_ {gf : Nat} {lb : Array Value} {rows : List Rw} {R : Nat → Prop} {w : World} (h : SeqT (.func (.func gf) #[] lb) rows R w) (m : Nat) :
    GoesF m Try.prog gf #[] lb encT (Stay R) (fun ys => ys = rows) (fun pre => pre <+: rows) (fun _ pre x _ => pre ++ [x] <+: rows) (fun _ _ _ => False) w := by
  obtain ⟨gf', lb', e, _, _, h3⟩ := h
  injection e with e1 _ e2
  injection e1 with e1
  subst e1; subst e2
  exact h3 m w (Stay.refl_ _ _)
theorem from_seqT (t : Tr) (k : Int) (Bt Bk : Nat) (w : World) (hBt : Blk w Bt 60 #[.pointer t.p]) (hBk : Blk w Bk 3 #[.int .i64 k]) (hT : IsT w t) (hRi : Rises t.rows) :
    SeqT (.func (.func 38) #[] #[.pointer (some ⟨Bt, 0, none⟩), .pointer (some ⟨Bk, 0, none⟩)]) (fromL k t.rows) (fun b => b = Bt ∨ b = Bk ∨ t.has b) w := by
  refine ⟨_, _, rfl, enters_of Try.func38 (by kernel_rfl) rfl, ?_, ?_⟩
  · intro b hb
    rcases hb with rfl | rfl | hb
    · exact hBt.lt
    · exact hBk.lt
    · exact hT.lt b hb
  · intro m W hs l J Jx W1 hW hJ hJx hY h0
    have hs1 : Stay (fun b => b = Bt ∨ b = Bk ∨ t.has b) w W1 := hs.trans (Stay.below hW (fun b hb => by
      have := hs.1
      rcases hb with rfl | rfl | hb
      · have := hBt.lt; omega
      · have := hBk.lt; omega
      · have := hT.lt b hb; omega))
    refine from1_in m l Bt Bk (fun pre x => pre ++ [x] <+: fromL k t.rows) t k _ (fun b hb => .inr (.inr hb)) hRi J Jx (fun pre W h => hJ pre W W.drew none h (grown_drew W) (fun r e => by cases e)) (fun pre x W hj hc => (hY pre x W hj hc).mono (fun e W' h => h.2)) W1 ?_ ?_ (hT.stay fun b hb => hs1.2 b (.inr (.inr hb))) h0 (fun q x h => h)
    · exact (World.cell?_of_block (a := ⟨Bt, 0, none⟩) (hs1.2 Bt (.inl rfl))).trans (hBt.cell 0)
    · exact (World.cell?_of_block (a := ⟨Bk, 0, none⟩) (hs1.2 Bk (.inr (.inl rfl)))).trans (hBk.cell 0)
/-- What All leaves. -/
def AllT (rows : List Rw) (H : Nat → Prop) (w : World) (e : Ending) (w' : World) : Prop :=
  ∃ v R, e = .returned v ∧ SeqT v rows R w' ∧ Below w.heap.size w w' ∧ ∀ b, R b → H b ∨ w.heap.size ≤ b
theorem allT_of (t : Tr) (w : World) (hT : IsT w t) (hR : Rises t.rows) (e : Ending) (w' : World)
    (hx : ∃ Bt Bk, e = .returned (.func (.func 38) #[] #[.pointer (some ⟨Bt, 0, none⟩), .pointer (some ⟨Bk, 0, none⟩)]) ∧ w.heap.size ≤ Bt ∧ w.heap.size ≤ Bk ∧
        Blk w' Bt 60 #[.pointer t.p] ∧ Blk w' Bk 3 #[.int .i64 (-9223372036854775808)] ∧ Below w.heap.size w w') : AllT t.rows t.has w e w' := by
  obtain ⟨Bt, Bk, he, h1, h2, h3, h4, h5⟩ := hx
  have := from_seqT t _ Bt Bk w' h3 h4 (hT.below h5) hR
  rw [fromL_all hT] at this
  refine ⟨_, _, he, this, h5, ?_⟩
  intro b hb
  rcases hb with rfl | rfl | hb
  · exact .inr h1
  · exact .inr h2
  · exact .inl hb
theorem all_anyT (T : Nat) (t : Tr) (w : World) (h : IsTab w T t) :
    Calls Try.prog 28 #[.pointer (some ⟨T, 0, none⟩)] w (AllT t.rows t.has w) := by
  have H := Lib.hid (from_any T t (-9223372036854775808) w h)
  have HY := Lib.hid (fun e w' hx => allT_of t w h.2.1 h.2.2 e w' hx)
  clear h
  go_enter Try.func28, Try.ntmps28
  go_wp2_with fail
  refine H.out.mono ?_
  rintro e w' ⟨Bt, Bk, rfl, h1, h2, h3, h4, h5⟩
  have HZ := Lib.hid (HY.out _ w' ⟨Bt, Bk, rfl, h1, h2, h3, h4, h5⟩)
  clear h1 h2 h3 h4 h5 H HY
  go_wp2
  go_ret
  exact HZ.out
theorem from_nilT (w : World) :
    Calls Try.prog 36 #[.pointer none, .int .i64 (-9223372036854775808)] w fun e w' =>
      ∃ Bt Bk, e = .returned (.func (.func 38) #[] #[.pointer (some ⟨Bt, 0, none⟩), .pointer (some ⟨Bk, 0, none⟩)]) ∧ w.heap.size ≤ Bt ∧ w.heap.size ≤ Bk ∧
        Blk w' Bt 60 #[.pointer none] ∧ Blk w' Bk 3 #[.int .i64 (-9223372036854775808)] ∧ Below w.heap.size w w' := by
  have H := Lib.hid (fun w1 => root_nil w1)
  go_enter Try.func36, Try.ntmps36
  go_wp2_with fail
  refine (H.out _).mono ?_
  rintro e w' ⟨rfl, rfl⟩
  go_wp2
  go_ret
  have hBt := Blk.new (w.alloc (.cells #[.int .i64 (-9223372036854775808)] 3)) 60 #[.pointer none]
  have hBk := (Blk.new w 3 #[.int .i64 (-9223372036854775808)]).alloc (.cells #[.pointer none] 60)
  rw [World.size_alloc] at hBt
  exact ⟨w.heap.size + 1, w.heap.size, rfl, by omega, Nat.le_refl _, hBt, hBk, ((Below.refl _ w).alloc (Nat.le_refl _) _).alloc (by simp) _⟩
theorem all_nilT (w : World) :
    Calls Try.prog 28 #[.pointer none] w (AllT [] (fun _ => False) w) := by
  have H := Lib.hid (from_nilT w)
  have HY := Lib.hid (fun e w' hx => allT_of .leaf w trivial List.Pairwise.nil e w' hx)
  go_enter Try.func28, Try.ntmps28
  go_wp2_with fail
  refine H.out.mono ?_
  rintro e w' ⟨Bt, Bk, rfl, h1, h2, h3, h4, h5⟩
  have HZ := Lib.hid (HY.out _ w' ⟨Bt, Bk, rfl, h1, h2, h3, h4, h5⟩)
  clear h1 h2 h3 h4 h5 H HY
  go_wp2
  go_ret
  exact HZ.out
end Go.Proofs.Ytcjfammfplcigaa.Pk
