/- What a table's All, From and Back promise: a function that goes over the rows, as long as the blocks that it reads stay. -/
import Derived.Test.YtgkmlggcmmdafaaTabWords
import Derived.Test.YtgkmlggcmmdafaaRange
import Derived.WideShapes
import Derived.ChangeKeysEq
namespace Go.Proofs.Ytgkmlggcmmdafaa.Pk
open Go.RowKit Go.Shelf Go.Proofs.Ytgkmlggcmmdafaa.Tb
set_option linter.unusedVariables false

theorem text_ne {a b : ByteArray} (h : a ≠ b) : (a.toList == b.toList) = false := by
  rw [beq_eq_false_iff_ne]
  intro e
  rw [ByteArray.toList_eq, ByteArray.toList_eq] at e
  exact h (WideShapes.bytes_inj e)
/-- A function that goes over the rows. -/
def SeqC (v : Value) (rows : List Rw) (R : Nat → Prop) (w : World) : Prop :=
  ∃ gf lb, v = .func (.func gf) #[] lb ∧ (∀ args u, (callFunc gf args).run Try.prog u = .ok (.enter gf args) u) ∧ (∀ b, R b → b < w.heap.size) ∧
    ∀ m W, 1 ≤ m → Stay R w W → SeqStopsK Fence.wide m Try.prog gf lb (fun x : Rw => #[Value.int .i64 x.1, Value.string x.2]) (Stay R) (fun ys => ys = rows) (fun pre => pre <+: rows) rows.length W
theorem Stay.refl (D : Nat → Prop) (w : World) : Stay D w w := ⟨Nat.le_refl _, fun _ _ => rfl⟩
theorem Stay.trans {D : Nat → Prop} {a b c : World} (h : Stay D a b) (k : Stay D b c) : Stay D a c := ⟨Nat.le_trans h.1 k.1, fun i hi => (k.2 i hi).trans (h.2 i hi)⟩
theorem SeqC.stay {v : Value} {rows : List Rw} {R : Nat → Prop} {w W : World} (h : SeqC v rows R w) (hs : Stay R w W) : SeqC v rows R W := by
  obtain ⟨gf, lb, e, h1, h2, h3⟩ := h
  exact ⟨gf, lb, e, h1, fun b hb => Nat.lt_of_lt_of_le (h2 b hb) hs.1, fun m W' hm hW => h3 m W' hm (hs.trans hW)⟩
theorem SeqC.at_ {gf : Nat} {lb : Array Value} {rows : List Rw} {R : Nat → Prop} {w : World} (h : SeqC (.func (.func gf) #[] lb) rows R w) (m : Nat) (hm : 1 ≤ m) :
    SeqStopsK Fence.wide m Try.prog gf lb (fun x : Rw => #[Value.int .i64 x.1, Value.string x.2]) (Stay R) (fun ys => ys = rows) (fun pre => pre <+: rows) rows.length w := by
  obtain ⟨gf', lb', e, _, _, h3⟩ := h
  injection e with e1 _ e2
  injection e1 with e1
  subst e1; subst e2
  exact h3 m w hm (Stay.refl _ _)
theorem SeqC.seq {gf : Nat} {lb : Array Value} {rows : List Rw} {R : Nat → Prop} {w : World} (h : SeqC (.func (.func gf) #[] lb) rows R w) :
    SeqStopsK Fence.wide 8 Try.prog gf lb (fun x : Rw => #[Value.int .i64 x.1, Value.string x.2]) (Stay R) (fun ys => ys = rows) (fun pre => pre <+: rows) rows.length w := h.at_ 8 (by omega)
theorem SeqC.lt {v : Value} {rows : List Rw} {R : Nat → Prop} {w : World} (h : SeqC v rows R w) : ∀ b, R b → b < w.heap.size := by
  obtain ⟨_, _, _, _, h2, _⟩ := h
  exact h2
theorem stay_b {D : Nat → Prop} {w : World} (hD : ∀ b, D b → b < w.heap.size) : ∀ (W : World) (l : Nat) (o o' : Obj), w.heap.size ≤ l → W.heap[l]? = some o → o.isCells = false → o.isWalk = false → Stay D W (W.putObj l o') := by
  intro W l o o' hl _ _ _
  exact ⟨by simp [World.putObj], fun b hb => World.putObj_heap_other (by have := hD b hb; omega)⟩
theorem stay_set {D : Nat → Prop} {V : World} {x : Nat} {u : Value} (hx : ¬ D x) : Stay D V (V.setCell ⟨x, 0, none⟩ u) :=
  ⟨by simp [World.setCell], fun b hb => Below.heap_setCell _ ⟨x, 0, none⟩ _ b (fun e => hx (by simp at e; subst e; exact hb))⟩
theorem Stay.only {D : Nat → Prop} {w w' : World} {x : Nat} (h : Only w w' x) (hD : ∀ b, D b → b < w.heap.size ∧ b ≠ x) : Stay D w w' :=
  ⟨h.size, fun b hb => h.block b (hD b hb).1 (fun e => (hD b hb).2 (by injection e))⟩

/-- What a call that answers such a function leaves. -/
def GoesV (Tv : World → List Rw → (Nat → Prop) → (Nat → Prop) → Prop) (l rows : List Rw) (S D : Nat → Prop) (w : World) (e : Ending) (w' : World) : Prop :=
  ∃ v R S' D', e = .returned v ∧ SeqC v rows R w' ∧ Tv w' l S' D' ∧ Turned S w w' ∧ From S S' w ∧ From D D' w ∧ From D R w ∧ ∀ b, R b → ¬ S' b
def Goes (Tb : World → Nat → List Rw → (Nat → Prop) → (Nat → Prop) → Prop) (T : Nat) (l rows : List Rw) (S D : Nat → Prop) (w : World) (e : Ending) (w' : World) : Prop := GoesV (fun w l S D => Tb w T l S D) l rows S D w e w'
/-- What a call leaves, whatever is looked at. -/
def AfterV (Tv : World → List Rw → (Nat → Prop) → (Nat → Prop) → Prop) (l : List Rw) (S D : Nat → Prop) (w : World) (v : Value) (e : Ending) (w' : World) : Prop :=
  e = .returned v ∧ ∃ S' D', Tv w' l S' D' ∧ Turned S w w' ∧ From S S' w ∧ From D D' w
/-- A value whose All and From go over rows. -/
structure SeqV (tv : Value) (Tv : World → List Rw → (Nat → Prop) → (Nat → Prop) → Prop) : Prop where
  stay : ∀ {w w' l S D}, Tv w l S D → Stay D w w' → Tv w' l S D
  lt : ∀ {w l S D}, Tv w l S D → ∀ b, D b → b < w.heap.size
  sub : ∀ {w l S D}, Tv w l S D → ∀ b, S b → D b
  all : ∀ w l S D, Tv w l S D → l.length ≤ 4398046511104 → Calls Try.prog 15 #[tv] w (GoesV Tv l l S D w)
  from_ : ∀ w l S D k, Tv w l S D → -9223372036854775808 ≤ k → k ≤ 9223372036854775807 → l.length ≤ 4398046511104 →
    Calls Try.prog 16 #[tv, .int .i64 k] w (GoesV Tv l (l.filter fun x => decide (k ≤ x.1)) S D w)
/-- What a call that answers such a function leaves, when it only makes memory. -/
def Yields (rows : List Rw) (S D : Nat → Prop) (w : World) (e : Ending) (w' : World) : Prop :=
  ∃ v R, e = .returned v ∧ SeqC v rows R w' ∧ Below w.heap.size w w' ∧ From D R w ∧ ∀ b, R b → ¬ S b
structure SeqP (Tb : World → Nat → List Rw → (Nat → Prop) → (Nat → Prop) → Prop) : Prop where
  qall : ∀ w T l S D, Tb w T l S D → l.length ≤ 4398046511104 → Calls Try.prog 15 #[.pointer (some ⟨T, 0, none⟩)] w (Yields l S D w)
  qfrom : ∀ w T l S D k, Tb w T l S D → -9223372036854775808 ≤ k → k ≤ 9223372036854775807 → l.length ≤ 4398046511104 →
    Calls Try.prog 16 #[.pointer (some ⟨T, 0, none⟩), .int .i64 k] w (Yields (l.filter fun x => decide (k ≤ x.1)) S D w)
theorem Yields.goes {Tb : World → Nat → List Rw → (Nat → Prop) → (Nat → Prop) → Prop} (C : TableC Tb) {w w' : World} {T : Nat} {l rows : List Rw} {S D : Nat → Prop} {e : Ending} (h : Tb w T l S D) (hy : Yields rows S D w e w') : Goes Tb T l rows S D w e w' := by
  obtain ⟨v, R, he, hs, hb, hf, hr⟩ := hy
  exact ⟨v, R, S, D, he, hs, C.next h hb, Turned.of hb (Nat.le_refl _) S, From.refl _ _, From.refl _ _, hf, hr⟩
theorem SeqP.val {Tb : World → Nat → List Rw → (Nat → Prop) → (Nat → Prop) → Prop} (C : TableC Tb) (P : SeqP Tb) (T : Nat) : SeqV (.pointer (some ⟨T, 0, none⟩)) (fun w l S D => Tb w T l S D) :=
  ⟨fun h k => C.stay h k, fun h => C.lt h, fun h => C.sub h, fun w l S D h hl => (P.qall w T l S D h hl).mono fun e w' hy => hy.goes C h, fun w l S D k h h1 h2 hl => (P.qfrom w T l S D k h h1 h2 hl).mono fun e w' hy => hy.goes C h⟩
/-- Where a range over rows stands: its counter's box. -/
def AtN (rows : List Rw) (x : Nat) (pre : List Rw) (W : World) : Prop := pre <+: rows ∧ Blk W x 3 #[.int .i64 (pre.length : Nat)]
theorem pre_more {rows pre : List Rw} {x r : Rw} (h : pre <+: rows) (hr : rows[pre.length]? = some r) (e : x = r) : pre ++ [x] <+: rows := by
  obtain ⟨s, rfl⟩ := h
  rw [List.getElem?_append_right (Nat.le_refl _), Nat.sub_self] at hr
  cases s with
  | nil => simp at hr
  | cons y s =>
    simp at hr
    subst hr; subst e
    exact ⟨s, by simp⟩
theorem pre_wrong {rows pre : List Rw} {x r : Rw} (hr : rows[pre.length]? = some r) (e : x ≠ r) : ¬ pre ++ [x] <+: rows := by
  rintro ⟨s, rfl⟩
  rw [List.append_assoc, List.getElem?_append_right (Nat.le_refl _), Nat.sub_self] at hr
  simp at hr
  exact e hr
theorem pre_long {rows pre : List Rw} {x : Rw} (h : rows.length ≤ pre.length) : ¬ pre ++ [x] <+: rows := by
  intro hp
  have := hp.length_le
  simp at this
  omega
end Go.Proofs.Ytgkmlggcmmdafaa.Pk
