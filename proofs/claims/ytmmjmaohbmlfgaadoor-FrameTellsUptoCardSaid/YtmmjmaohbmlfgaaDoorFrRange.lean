/- What the program's Frames promises (to be proved of the code that lands); what lies where while it is ranged over. -/
import Derived.Test.YtmmjmaohbmlfgaaDoorFrChain
import Derived.Test.YtmmjmaohbmlfgaaDoorRangeF
namespace Go.Proofs.YtmmjmaohbmlfgaaDoor.Pk
open Go.RowKit Go.Shelf Go.Proofs.YtmmjmaohbmlfgaaDoor.Crc Go.Proofs.YtmmjmaohbmlfgaaDoor.Fr
set_option linter.unusedVariables false

theorem Stay.refl_ (D : Nat → Prop) (w : World) : Stay D w w := ⟨Nat.le_refl _, fun _ _ => rfl⟩
theorem Stay.trans {D : Nat → Prop} {a b c : World} (h : Stay D a b) (k : Stay D b c) : Stay D a c := ⟨Nat.le_trans h.1 k.1, fun g hg => (k.2 g hg).trans (h.2 g hg)⟩
theorem stay_b {D : Nat → Prop} {w : World} (hD : ∀ b, D b → b < w.heap.size) : ∀ (W : World) (l : Nat) (o o' : Obj), w.heap.size ≤ l → W.heap[l]? = some o → o.isCells = false → o.isWalk = false → Stay D W (W.putObj l o') := by
  intro W l o o' hl _ _ _
  exact ⟨by simp [World.putObj], fun b hb => World.putObj_heap_other (by have := hD b hb; omega)⟩
theorem stay_setAt {D : Nat → Prop} {V : World} {x o : Nat} {u : Value} (hx : ¬ D x) : Stay D V (V.setCell ⟨x, o, none⟩ u) :=
  ⟨by simp [World.setCell], fun b hb => Below.heap_setCell _ ⟨x, o, none⟩ _ b (fun e => hx (by simp at e; subst e; exact hb))⟩
theorem keepsAll_setAt {B x i : Nat} (W : World) (hx : x < B) (u : Value) : KeepsAll B W (W.setCell ⟨x, i, none⟩ u) :=
  ⟨by simp [World.setCell], fun k hB hk => Below.heap_setCell W ⟨x, i, none⟩ u k (by show ¬ k = x; omega)⟩
/-- What lies below, but some blocks, lies as it lay. -/
structure OnlyS (S : Nat → Prop) (w V : World) : Prop where
  os : V.os = w.os
  tape : V.tape = w.tape
  output : V.output = w.output
  size : w.heap.size ≤ V.heap.size
  block : ∀ i, i < w.heap.size → ¬ S i → V.heap[i]? = w.heap[i]?
section
variable {S : Nat → Prop} {w V : World}
theorem OnlyS.refl (S : Nat → Prop) (w : World) : OnlyS S w w := ⟨rfl, rfl, rfl, Nat.le_refl _, fun _ _ _ => rfl⟩
theorem OnlyS.set (h : OnlyS S w V) {x : Nat} (hx : S x) (u : Value) : OnlyS S w (V.setCell ⟨x, 0, none⟩ u) :=
  ⟨h.os, h.tape, h.output, by have := h.size; simpa [World.setCell] using this, fun i hi hn => (Below.heap_setCell V ⟨x, 0, none⟩ u i (fun e => by simp at e; subst e; exact hn hx)).trans (h.block i hi hn)⟩
theorem OnlyS.drewN (h : OnlyS S w V) (k : Nat) : OnlyS S w (V.drewN k) := ⟨h.os, h.tape, h.output, h.size, h.block⟩
theorem OnlyS.below {W' : World} (h : OnlyS S w V) (hb : Below V.heap.size V W') : OnlyS S w W' :=
  ⟨hb.os.trans h.os, hb.tape.trans h.tape, hb.output.trans h.output, Nat.le_trans h.size hb.size, fun i hi hn => (hb.block i (Nat.lt_of_lt_of_le hi h.size)).trans (h.block i hi hn)⟩
theorem OnlyS.blk {g : Nat} {t : TypeId} {cs : Array Value} (h : OnlyS S w V) (hg : Blk w g t cs) (hx : ¬ S g) : Blk V g t cs := (h.block g hg.lt hx).trans hg
theorem OnlyS.reads {B size n : Nat} {A : Option Addr} {xs : List Value} (h : OnlyS S w V) (hr : Reads w B size A n xs) (hB : B ≤ w.heap.size) (hx : 0 < n → ∀ ad, A = some ad → ¬ S ad.block) : Reads V B size A n xs := by
  refine ⟨hr.1, fun hn => ?_⟩
  obtain ⟨ad, e, hb, hc⟩ := hr.2 hn
  refine ⟨ad, e, hb, fun j u hu => (World.cell?_of_block (h.block _ (by rw [block_of_add]; omega) (by rw [block_of_add]; exact hx hn ad e))).trans (hc j u hu)⟩
theorem OnlyS.stay {D : Nat → Prop} (h : OnlyS S w V) (hD : ∀ b, D b → b < w.heap.size ∧ ¬ S b) : Stay D w V := ⟨h.size, fun b hb => h.block b (hD b hb).1 (hD b hb).2⟩
theorem OnlyS.bel {B : Nat} {a : World} (h : Below B a w) (k : OnlyS S w V) (hS : ∀ b, S b → B ≤ b) (hB : B ≤ w.heap.size) : Below B a V :=
  ⟨k.os.trans h.os, k.tape.trans h.tape, k.output.trans h.output, Nat.le_trans h.size k.size, fun i hi => (k.block i (by omega) (fun e => by have := hS i e; omega)).trans (h.block i hi)⟩
theorem OnlyS.marks {B : Nat} {ds : List Deferred} (h : Marks B ds w) (k : OnlyS S w V) (hS : ∀ b, S b → ∃ t cs, Blk w b t cs) : Marks B ds V :=
  h.keep k.size (fun q ⟨d, hd, he⟩ => k.block q (h.lt d hd q he) (fun hs => by
    obtain ⟨t, cs, hb⟩ := hS q hs
    obtain ⟨D, e1, _, h2, h3⟩ := h.mem d hd
    rw [e1] at he
    injection he with he
    injection he with he
    subst he
    unfold Blk at hb
    rw [hb] at h3; cases h3))
theorem own_onlyS {β : Type} (W1 : World) (S : Nat → Prop) : OwnFrom (β := β) W1.heap.size (fun _ W => OnlyS S W1 W) := by
  intro s A B row h hg hr
  refine ⟨hg.os.trans h.os, hg.tape.trans h.tape, hg.output.trans h.output, Nat.le_trans h.size hg.size, fun k hk hne => ?_⟩
  refine (hg.block k (Nat.lt_of_lt_of_le hk h.size) (fun e => ?_)).trans (h.block k hk hne)
  have := (hr k e.symm).1
  omega
end

/-- What comes in a round over frames: the place, the payload as it lies, its bytes. -/
structure FrX where
  at_ : Nat
  A : Option Addr
  n : Nat
  c : Nat
  p : List Int
def encF (x : FrX) : Array Value := #[.int .i64 (x.at_ : Int), .slice x.A x.n x.c]
def keyF (x : FrX) : Nat × List Int := (x.at_, x.p)
def fseq (b : List Int) : List (Nat × List Int) := (List.range (frames b).length).map fun i => (atN b i, (frames b).getD i [])
@[simp] theorem fseq_length (b : List Int) : (fseq b).length = (frames b).length := by simp [fseq]
theorem fseq_get {b : List Int} {i : Nat} {p : List Int} (h : (frames b)[i]? = some p) : (fseq b)[i]? = some (atN b i, p) := by
  obtain ⟨h1, h2⟩ := List.getElem?_eq_some_iff.1 h
  rw [fseq, List.getElem?_map, List.getElem?_range h1]
  simp [List.getD, h]
/-- The block of the payload that came. -/
def frF (x : FrX) (k : Nat) : Prop := (Value.slice x.A x.n x.c).ownBlock = some k
/-- What may come: the next frame, its payload in memory of its own, from block B on, none of the blocks R, none of a payload's that came before. -/
def OkF (b : List Int) (R : Nat → Prop) (B : Nat) (pre : List FrX) (x : FrX) (W : World) : Prop :=
  (pre ++ [x]).map keyF <+: fseq b ∧ OwnB W B (.slice x.A x.n x.c) x.p ∧ ∀ g, (Value.slice x.A x.n x.c).ownBlock = some g → ¬ R g ∧ ∀ y ∈ pre, ¬ frF y g
theorem OkF.next {b : List Int} {R : Nat → Prop} {B : Nat} {pre : List FrX} {x : FrX} {W : World} (h : OkF b R B pre x W) : pre.length < (frames b).length ∧ x.at_ = atN b pre.length ∧ (frames b)[pre.length]? = some x.p ∧ pre.length + 1 ≤ (frames b).length := by
  obtain ⟨t, ht⟩ := h.1
  have hl := congrArg List.length ht
  simp only [List.length_append, List.length_map, List.length_singleton, fseq_length] at hl
  have hlt : pre.length < (frames b).length := by omega
  have hg : (frames b)[pre.length]? = some (frames b)[pre.length] := List.getElem?_eq_getElem hlt
  have h1 := fseq_get hg
  rw [← ht] at h1
  simp [keyF] at h1
  refine ⟨hlt, h1.1, by rw [hg, h1.2], by omega⟩
theorem OkF.put {b : List Int} {R : Nat → Prop} (B : Nat) (pre : List FrX) (x : FrX) (W : World) (l : Nat) (o o' : Obj) (hl : W.heap[l]? = some o) (ho : o.isCells = false) (h : OkF b R B pre x W) : OkF b R B pre x (W.putObj l o') := by
  refine ⟨h.1, h.2.1.stay fun g e => World.putObj_heap_other (fun e2 => ?_), h.2.2⟩
  obtain ⟨cs, hh⟩ := own_kind h.2.1 g e
  subst e2
  rw [hh] at hl
  injection hl with hl
  subst hl
  simp [Obj.isCells] at ho
/-- What a round may change of what is younger than the range's own memory: the payload that came. -/
def frB (B : Nat) (x : FrX) (k : Nat) : Prop := frF x k
theorem OkF.fr {b : List Int} {R : Nat → Prop} (B : Nat) (pre : List FrX) (x : FrX) (W : World) (k : Nat) (h : OkF b R B pre x W) (hk : frB B x k) : B ≤ k := own_base h.2.1 k hk
/-- A function that goes over the good frames of b. -/
def SeqF (v : Value) (b : List Int) (R : Nat → Prop) (w : World) : Prop :=
  ∃ gf pb lb, v = .func (.func gf) pb lb ∧ (∀ args u, (callFunc gf args).run Tryd.prog u = .ok (.enter gf args) u) ∧ (∀ g, R g → g < w.heap.size) ∧
    ∀ m W, Stay R w W → GoesF m Tryd.prog gf pb lb encF (Stay R) (fun ys => ys.map keyF = fseq b) (fun pre => pre.map keyF <+: fseq b) (OkF b R) frB W
theorem SeqF.stay {v : Value} {b : List Int} {R : Nat → Prop} {w W : World} (h : SeqF v b R w) (hs : Stay R w W) : SeqF v b R W := by
  obtain ⟨gf, pb, lb, e, h1, h2, h3⟩ := h
  exact ⟨gf, pb, lb, e, h1, fun g hg => Nat.lt_of_lt_of_le (h2 g hg) hs.1, fun m W' hW => h3 m W' (hs.trans hW)⟩
theorem SeqF.lt {v : Value} {b : List Int} {R : Nat → Prop} {w : World} (h : SeqF v b R w) : ∀ g, R g → g < w.heap.size := by
  obtain ⟨_, _, _, _, _, h2, _⟩ := h
  exact h2
theorem SeqF.atF {gf : Nat} {pb lb : Array Value} {b : List Int} {R : Nat → Prop} {w : World} (h : SeqF (.func (.func gf) pb lb) b R w) (m : Nat) :
    GoesF m Tryd.prog gf pb lb encF (Stay R) (fun ys => ys.map keyF = fseq b) (fun pre => pre.map keyF <+: fseq b) (OkF b R) frB w := by
  obtain ⟨gf', pb', lb', e, _, _, h3⟩ := h
  injection e with e1 e3 e2
  injection e1 with e1
  subst e1; subst e2; subst e3
  exact h3 m w (Stay.refl_ _ _)
theorem SeqF.at_ {gf : Nat} {pb lb : Array Value} {b : List Int} {R : Nat → Prop} {w : World} (h : SeqF (.func (.func gf) pb lb) b R w) (m : Nat) :
    GoesW m Tryd.prog gf pb lb encF (Stay R) (fun ys => ys.map keyF = fseq b) (fun pre => pre.map keyF <+: fseq b) (OkF b R) w := (h.atF m).toW
def FramesP (b : List Int) (w : World) (e : Ending) (w' : World) : Prop := ∃ v R, e = .returned v ∧ SeqF v b R w' ∧ Below w.heap.size w w' ∧ ∀ g, R g → g = 0 ∨ w.heap.size ≤ g
def FramesC : Prop := ∀ (A : Option Addr) (n c : Nat) (b : List Int) (w : World), Tab w → Reads w w.heap.size 1 A n (bts b) → n ≤ c → Bytes b → n ≤ 17179869184 → Calls Tryd.prog 14 #[.slice A n c] w (FramesP b w)
theorem done_len {b : List Int} {ys : List FrX} (h : ys.map keyF = fseq b) : ys.length = (frames b).length := by
  have := congrArg List.length h
  simpa using this
theorem pre_len {b : List Int} {ys : List FrX} (h : ys.map keyF <+: fseq b) : ys.length ≤ (frames b).length := by
  have := h.length_le
  simpa using this
end Go.Proofs.YtmmjmaohbmlfgaaDoor.Pk
