/- The program's net and the document's side by side, and blocks that are neither's. -/
import Derived.Test.YtcjfammfplcigaaNtAll
import Derived.Test.YtcjfammfplcigaaNtRef2
namespace Go.Proofs.Ytcjfammfplcigaa.Pk
open Go.RowKit Go.Shelf Go.Proofs.Ytcjfammfplcigaa.Nt
set_option linter.unusedVariables false
def Pair (Nb : World → Nat → Li → (Nat → Prop) → (Nat → Prop) → Prop) (w1 : World) (T M : Nat) (l m : Li) (K : Nat → Prop) (W : World) : Prop :=
  ∃ S D S', Nb W T l S D ∧ RN W M m S' ∧ (∀ b, D b → ¬ S' b) ∧ (∀ b, D b → w1.heap.size ≤ b) ∧ (∀ b, S' b → w1.heap.size ≤ b) ∧ Below w1.heap.size w1 W ∧ ∀ b, K b → b < W.heap.size ∧ ¬ D b ∧ ¬ S' b
/-- The blocks of K lie as they lay. -/
abbrev Lie (K : Nat → Prop) (W W' : World) : Prop := ∀ b, K b → W'.heap[b]? = W.heap[b]?
theorem Blk.lie {K : Nat → Prop} {W W' : World} {g : Nat} {t : TypeId} {cs : Array Value} (h : Blk W g t cs) (hl : Lie K W W') (hk : K g) : Blk W' g t cs := (hl g hk).trans h
section
variable {Nb : Nat → World → Nat → Li → (Nat → Prop) → (Nat → Prop) → Prop} {kc : Nat} {w1 W W' : World} {T M : Nat} {l m : Li} {K : Nat → Prop}
theorem Pair.bel (h : Pair (Nb kc) w1 T M l m K W) : Below w1.heap.size w1 W := by obtain ⟨_, _, _, _, _, _, _, _, h, _⟩ := h; exact h
theorem Pair.lt (h : Pair (Nb kc) w1 T M l m K W) : ∀ b, K b → b < W.heap.size := by obtain ⟨_, _, _, _, _, _, _, _, _, h⟩ := h; exact fun b hb => (h b hb).1
theorem Pair.few (h : Pair (Nb kc) w1 T M l m K W) (C : NetC Nb) : l.length ≤ 512 := by obtain ⟨_, _, _, h, _⟩ := h; exact C.few h
theorem Pair.next (h : Pair (Nb kc) w1 T M l m K W) (C : NetC Nb) (hb : Below W.heap.size W W') : Pair (Nb kc) w1 T M l m K W' := by
  obtain ⟨S, D, S', h1, h2, h3, h4, h5, h6, h7⟩ := h
  exact ⟨S, D, S', C.next h1 hb, h2.next hb, h3, h4, h5, h6.trans (hb.mono h6.size), fun b hb' => ⟨Nat.lt_of_lt_of_le (h7 b hb').1 hb.size, (h7 b hb').2⟩⟩
theorem Pair.less {K' : Nat → Prop} (h : Pair (Nb kc) w1 T M l m K W) (hk : ∀ b, K' b → K b) : Pair (Nb kc) w1 T M l m K' W := by
  obtain ⟨S, D, S', h1, h2, h3, h4, h5, h6, h7⟩ := h
  exact ⟨S, D, S', h1, h2, h3, h4, h5, h6, fun b hb => h7 b (hk b hb)⟩
/-- What is answered in memory of its own, by a call that turns nothing. -/
theorem Pair.own (h : Pair (Nb kc) w1 T M l m K W) (C : NetC Nb) (hb : Below W.heap.size W W') {v : Value} {x : List Int} (ho : OwnR W' W.heap.size v x) : Pair (Nb kc) w1 T M l m (fun b => K b ∨ v.ownBlock = some b) W' := by
  obtain ⟨S, D, S', h1, h2, h3, h4, h5, h6, h7⟩ := h
  refine ⟨S, D, S', C.next h1 hb, h2.next hb, h3, h4, h5, h6.trans (hb.mono h6.size), ?_⟩
  rintro b (hk | hv)
  · exact ⟨Nat.lt_of_lt_of_le (h7 b hk).1 hb.size, (h7 b hk).2⟩
  · have h8 := owr_base ho b hv
    exact ⟨owr_ltP ho b hv, fun hd => by have := C.lt h1 b hd; omega, fun hs => by have := h2.lt b hs; omega⟩
/-- A call that turns the program's net. -/
theorem Pair.nturn {l' : Li} (C : NetC Nb) {kd : Nat} {S D S' : Nat → Prop} (h1 : Nb kc W T l S D) (h2 : RN W M m S') (h3 : ∀ b, D b → ¬ S' b) (h4 : ∀ b, D b → w1.heap.size ≤ b) (h5 : ∀ b, S' b → w1.heap.size ≤ b) (h6 : Below w1.heap.size w1 W) (h7 : ∀ b, K b → b < W.heap.size ∧ ¬ D b ∧ ¬ S' b)
    {S2 D2 : Nat → Prop} (k1 : Nb kd W' T l' S2 D2) (k2 : Turned S W W') (k4 : From D D2 W) {V : Nat → Prop} (hV : ∀ b, V b → b < W'.heap.size ∧ W.heap.size ≤ b ∧ ¬ D2 b) :
    Pair (Nb kd) w1 T M l' m (fun b => K b ∨ V b) W' ∧ Lie K W W' := by
  have hS : ∀ b, S b → D b := C.sub h1
  refine ⟨⟨S2, D2, S', k1, h2.stay (Stay.turned k2 (fun b hb => ⟨h2.lt b hb, fun hs => h3 b (hS b hs) hb⟩)), fun b hb hs => ?_, from_base k4 h4 h6.size, h5, k2.below h6 h6.size (fun b hb => h4 b (hS b hb)), ?_⟩, fun b hb => k2.block b (h7 b hb).1 (fun hs => (h7 b hb).2.1 (hS b hs))⟩
  · rcases k4 b hb with hd | hw
    · exact h3 b hd hs
    · have := h2.lt b hs; omega
  · rintro b (hk | hv)
    · obtain ⟨q1, q2, q3⟩ := h7 b hk
      exact ⟨Nat.lt_of_lt_of_le q1 k2.size, fun hd => by rcases k4 b hd with hd | hw; exact q2 hd; omega, q3⟩
    · obtain ⟨q1, q2, q3⟩ := hV b hv
      exact ⟨q1, q3, fun hs => by have := h2.lt b hs; omega⟩
/-- A call that turns the document's net. -/
theorem Pair.mturn {m' : Li} (C : NetC Nb) {S D S' : Nat → Prop} (h1 : Nb kc W T l S D) (h2 : RN W M m S') (h3 : ∀ b, D b → ¬ S' b) (h4 : ∀ b, D b → w1.heap.size ≤ b) (h5 : ∀ b, S' b → w1.heap.size ≤ b) (h6 : Below w1.heap.size w1 W) (h7 : ∀ b, K b → b < W.heap.size ∧ ¬ D b ∧ ¬ S' b)
    {S2 : Nat → Prop} (k1 : RN W' M m' S2) (k2 : Turned S' W W') (k4 : From S' S2 W) {V : Nat → Prop} (hV : ∀ b, V b → b < W'.heap.size ∧ W.heap.size ≤ b ∧ ¬ S2 b) :
    Pair (Nb kc) w1 T M l m' (fun b => K b ∨ V b) W' ∧ Lie K W W' := by
  refine ⟨⟨S, D, S2, C.stay h1 (Stay.turned k2 (fun b hb => ⟨C.lt h1 b hb, fun hs => h3 b hb hs⟩)), k1, fun b hb hs => ?_, h4, from_base k4 h5 h6.size, k2.below h6 h6.size h5, ?_⟩, fun b hb => k2.block b (h7 b hb).1 (fun hs => (h7 b hb).2.2 hs)⟩
  · rcases k4 b hs with hd | hw
    · exact h3 b hb hd
    · have := C.lt h1 b hb; omega
  · rintro b (hk | hv)
    · obtain ⟨q1, q2, q3⟩ := h7 b hk
      exact ⟨Nat.lt_of_lt_of_le q1 k2.size, q2, fun hd => by rcases k4 b hd with hd | hw; exact q3 hd; omega⟩
    · obtain ⟨q1, q2, q3⟩ := hV b hv
      exact ⟨q1, fun hd => by have := C.lt h1 b hd; omega, q3⟩
theorem Pair.up {kd : Nat} (h : Pair (Nb kc) w1 T M l m K W) (C : NetC Nb) (hk : kc ≤ kd) : Pair (Nb kd) w1 T M l m K W := by
  obtain ⟨S, D, S', h1, h2⟩ := h
  exact ⟨S, D, S', C.up h1 hk, h2⟩
theorem Pair.nsend (h : Pair (Nb kc) w1 T M l m K W) (C : NetC Nb) (hk : kc < KM) {A : Option Addr} {n c : Nat} {x : List Int} (hs : Short LM l) (hr : Reads W W.heap.size 1 A n (bts x)) (hc : n ≤ c) (hn : n ≤ LM) (hx : ∀ y ∈ x, 0 ≤ y ∧ y ≤ 255) :
    Calls Try.prog 10 #[.pointer (some ⟨T, 0, none⟩), .slice A n c] W fun e w' => e = .returned (.bool (decide (l.length < 512))) ∧ Pair (Nb (kc + 1)) w1 T M (sendN l x) m K w' ∧ Lie K W w' := by
  obtain ⟨S, D, S', h1, h2, h3, h4, h5, h6, h7⟩ := h
  refine (C.send kc W T l S D A n c x h1 hk hs hr hc hn hx).mono ?_
  rintro e w' ⟨rfl, S2, D2, k1, k2, k3, k4, _⟩
  have := Pair.nturn C h1 h2 h3 h4 h5 h6 h7 k1 k2 k4 (V := fun _ => False) (fun b hb => hb.elim)
  exact ⟨rfl, this.1.less (fun b hb => .inl hb), this.2⟩
theorem Pair.msend (h : Pair (Nb kc) w1 T M l m K W) (C : NetC Nb) {A : Option Addr} {n c : Nat} {x : List Int} (hl : m.length ≤ 512) (hr : Reads W W.heap.size 1 A n (bts x)) (hn : n ≤ LM) :
    Calls Try.prog 11 #[.pointer (some ⟨M, 0, none⟩), .slice A n c] W fun e w' => e = .returned (.bool (decide (m.length < 512))) ∧ Pair (Nb kc) w1 T M l (sendN m x) K w' ∧ Lie K W w' := by
  obtain ⟨S, D, S', h1, h2, h3, h4, h5, h6, h7⟩ := h
  refine (refsend_any M m S' A n c x W h2 hl hr hn).mono ?_
  rintro e w' ⟨rfl, S2, k1, k2, k4⟩
  have := Pair.mturn C h1 h2 h3 h4 h5 h6 h7 k1 k2 k4 (V := fun _ => False) (fun b hb => hb.elim)
  exact ⟨rfl, this.1.less (fun b hb => .inl hb), this.2⟩
theorem Pair.ndouble (h : Pair (Nb kc) w1 T M l m K W) (C : NetC Nb) (hk : kc < KM) (i : Int) (hs : Short LM l) (i1 : -9223372036854775808 ≤ i) (i2 : i ≤ 9223372036854775807) :
    Calls Try.prog 17 #[.pointer (some ⟨T, 0, none⟩), .int .i64 i] W fun e w' => e = .returned (.bool (dblB l i)) ∧ Pair (Nb (kc + 1)) w1 T M (dblN l i) m K w' ∧ Lie K W w' := by
  obtain ⟨S, D, S', h1, h2, h3, h4, h5, h6, h7⟩ := h
  refine (C.double kc W T l S D i h1 hk hs i1 i2).mono ?_
  rintro e w' ⟨rfl, S2, D2, k1, k2, k3, k4, _⟩
  have := Pair.nturn C h1 h2 h3 h4 h5 h6 h7 k1 k2 k4 (V := fun _ => False) (fun b hb => hb.elim)
  exact ⟨rfl, this.1.less (fun b hb => .inl hb), this.2⟩
theorem Pair.mdouble (h : Pair (Nb kc) w1 T M l m K W) (C : NetC Nb) (i : Int) (hl : m.length ≤ 512) (hs : Short LM m) (i1 : -9223372036854775808 ≤ i) (i2 : i ≤ 9223372036854775807) :
    Calls Try.prog 18 #[.pointer (some ⟨M, 0, none⟩), .int .i64 i] W fun e w' => e = .returned (.bool (dblB m i)) ∧ Pair (Nb kc) w1 T M l (dblN m i) K w' ∧ Lie K W w' := by
  obtain ⟨S, D, S', h1, h2, h3, h4, h5, h6, h7⟩ := h
  refine (refdouble_any M m S' i W h2 hl ⟨i1, i2⟩ hs).mono ?_
  rintro e w' ⟨rfl, S2, k1, k2, k4⟩
  have := Pair.mturn C h1 h2 h3 h4 h5 h6 h7 k1 k2 k4 (V := fun _ => False) (fun b hb => hb.elim)
  exact ⟨rfl, this.1.less (fun b hb => .inl hb), this.2⟩
theorem Pair.nat_ (h : Pair (Nb kc) w1 T M l m K W) (C : NetC Nb) (i : Int) (hs : Short LM l) (i1 : -9223372036854775808 ≤ i) (i2 : i ≤ 9223372036854775807) :
    Calls Try.prog 12 #[.pointer (some ⟨T, 0, none⟩), .int .i64 i] W fun e w' => ∃ A n c, e = .returned (.tuple #[.slice A n c, .bool (inN l i)]) ∧ OwnR w' W.heap.size (.slice A n c) (atN l i) ∧ Pair (Nb kc) w1 T M l m (fun b => K b ∨ (Value.slice A n c).ownBlock = some b) w' ∧ Lie K W w' := by
  have H := h
  obtain ⟨S, D, S', h1, h2, h3, h4, h5, h6, h7⟩ := h
  refine (C.at_ kc W T l S D i h1 hs i1 i2).mono ?_
  rintro e w' ⟨v, rfl, ho, hb⟩
  obtain ⟨A, n, c, rfl⟩ := owr_slice ho
  exact ⟨A, n, c, rfl, ho, H.own C hb ho, fun b hk => hb.block b (h7 b hk).1⟩
theorem Pair.mat (h : Pair (Nb kc) w1 T M l m K W) (C : NetC Nb) (i : Int) (hl : m.length ≤ 512) (hs : Short LM m) (i1 : -9223372036854775808 ≤ i) (i2 : i ≤ 9223372036854775807) :
    Calls Try.prog 13 #[.pointer (some ⟨M, 0, none⟩), .int .i64 i] W fun e w' => ∃ A n c, e = .returned (.tuple #[.slice A n c, .bool (inN m i)]) ∧ OwnR w' W.heap.size (.slice A n c) (atN m i) ∧ Pair (Nb kc) w1 T M l m (fun b => K b ∨ (Value.slice A n c).ownBlock = some b) w' ∧ Lie K W w' := by
  have H := h
  obtain ⟨S, D, S', h1, h2, h3, h4, h5, h6, h7⟩ := h
  refine (refat_any M m S' i W h2 hl ⟨i1, i2⟩ hs).mono ?_
  rintro e w' ⟨v, rfl, ho, hb⟩
  have ho := OwnB.r ho
  obtain ⟨A, n, c, rfl⟩ := owr_slice ho
  exact ⟨A, n, c, rfl, ho, H.own C hb ho, fun b hk => hb.block b (h7 b hk).1⟩
theorem Pair.ntake (h : Pair (Nb kc) w1 T M l m K W) (C : NetC Nb) (i : Int) (hs : Short LM l) (i1 : -9223372036854775808 ≤ i) (i2 : i ≤ 9223372036854775807) :
    Calls Try.prog 14 #[.pointer (some ⟨T, 0, none⟩), .int .i64 i] W fun e w' => ∃ A n c, e = .returned (.tuple #[.slice A n c, .bool (inN l i)]) ∧ OwnR w' W.heap.size (.slice A n c) (atN l i) ∧ Pair (Nb kc) w1 T M (takeN l i) m (fun b => K b ∨ (Value.slice A n c).ownBlock = some b) w' ∧ Lie K W w' := by
  obtain ⟨S, D, S', h1, h2, h3, h4, h5, h6, h7⟩ := h
  refine (C.take kc W T l S D i h1 hs i1 i2).mono ?_
  rintro e w' ⟨v, rfl, ho, S2, D2, k1, k2, k3, k4, k5⟩
  obtain ⟨A, n, c, rfl⟩ := owr_slice ho
  have := Pair.nturn C h1 h2 h3 h4 h5 h6 h7 k1 k2 k4 (V := fun b => (Value.slice A n c).ownBlock = some b) (fun b hb => ⟨owr_ltP ho b hb, owr_base ho b hb, k5 b hb⟩)
  exact ⟨A, n, c, rfl, ho, this.1, this.2⟩
theorem Pair.mtake (h : Pair (Nb kc) w1 T M l m K W) (C : NetC Nb) (i : Int) (hl : m.length ≤ 512) (hs : Short LM m) (i1 : -9223372036854775808 ≤ i) (i2 : i ≤ 9223372036854775807) :
    Calls Try.prog 15 #[.pointer (some ⟨M, 0, none⟩), .int .i64 i] W fun e w' => ∃ A n c, e = .returned (.tuple #[.slice A n c, .bool (inN m i)]) ∧ OwnR w' W.heap.size (.slice A n c) (atN m i) ∧ Pair (Nb kc) w1 T M l (takeN m i) (fun b => K b ∨ (Value.slice A n c).ownBlock = some b) w' ∧ Lie K W w' := by
  obtain ⟨S, D, S', h1, h2, h3, h4, h5, h6, h7⟩ := h
  refine (reftake_n M m S' i W h2 hl ⟨i1, i2⟩ hs).mono ?_
  rintro e w' ⟨v, rfl, ho, S2, k1, k2, k4, k5⟩
  have ho := OwnB.r ho
  obtain ⟨A, n, c, rfl⟩ := owr_slice ho
  have := Pair.mturn C h1 h2 h3 h4 h5 h6 h7 k1 k2 k4 (V := fun b => (Value.slice A n c).ownBlock = some b) (fun b hb => ⟨owr_ltP ho b hb, owr_base ho b hb, k5 b hb⟩)
  exact ⟨A, n, c, rfl, ho, this.1, this.2⟩
theorem Pair.len (h : Pair (Nb kc) w1 T M l m K W) (C : NetC Nb) : Calls Try.prog 19 #[.pointer (some ⟨T, 0, none⟩)] W fun e w' => e = .returned (.int .i64 (l.length : Int)) ∧ Below W.heap.size W w' := by
  obtain ⟨S, D, S', h1, _⟩ := h
  exact C.len kc W T l S D h1
/-- The document's list, as it lies. -/
theorem Pair.under (h : Pair (Nb kc) w1 T M l m K W) : ∃ A c, W.cell? ⟨M, 0, none⟩ = some (.slice A m.length c) ∧ M < W.heap.size ∧ w1.heap.size ≤ M ∧ ¬ K M := by
  obtain ⟨S, D, S', h1, h2, h3, h4, h5, h6, h7⟩ := h
  obtain ⟨v, ps, q1, q2, q3, q4, q5⟩ := h2
  obtain ⟨A, c, rfl, _, _⟩ := q2.reads
  have hS : S' M := by rw [q5]; exact .inl rfl
  refine ⟨A, c, ?_, q1.lt, h5 M hS, fun hk => (h7 M hk).2.2 hS⟩
  have hn : ps.length = m.length := by rw [← q4]; simp [Piece.bytes]
  rw [q1.cell, ← hn]; rfl
theorem Pair.start (h : AtNt (Nb kc) w1 T [] W) (C : NetC Nb) : Pair (Nb kc) w1 T W.heap.size [] [] (fun _ => False) (W.alloc (.cells #[.slice none 0 0] 30)) := by
  obtain ⟨S, D, h1, h2, h3⟩ := h
  have hb : Below W.heap.size W (W.alloc (.cells #[.slice none 0 0] 30)) := (Below.refl _ _).alloc (Nat.le_refl _) _
  refine ⟨S, D, fun b => b = W.heap.size ∨ (Value.slice none 0 0).ownBlock = some b ∨ ∃ p ∈ ([] : List Piece), p.val.ownBlock = some b, C.next h1 hb, ⟨.slice none 0 0, [], Blk.new W _ _, OwnP.none_ _ _, fun p hp => by simp at hp, rfl, rfl⟩, ?_, h2, ?_, h3.trans (hb.mono h3.size), fun b hb => hb.elim⟩
  · rintro b hd (rfl | hv | ⟨p, hp, _⟩)
    · have := C.lt h1 _ hd; omega
    · simp [Value.ownBlock] at hv
    · simp at hp
  · rintro b (rfl | hv | ⟨p, hp, _⟩)
    · exact h3.size
    · simp [Value.ownBlock] at hv
    · simp at hp
/-- A block of the law's own beside the nets. -/
theorem Pair.boxed {x : Nat} {o : Obj} (h : Pair (Nb kc) w1 T M l m K W) (C : NetC Nb) (hx : x = W.heap.size) (hw : W' = W.alloc o) : Pair (Nb kc) w1 T M l m (fun b => K b ∨ b = x) W' := by
  subst hx; subst hw
  have hb : Below W.heap.size W (W.alloc o) := (Below.refl _ _).alloc (Nat.le_refl _) _
  obtain ⟨S, D, S', h1, h2, h3, h4, h5, h6, h7⟩ := h
  refine ⟨S, D, S', C.next h1 hb, h2.next hb, h3, h4, h5, h6.trans (hb.mono h6.size), ?_⟩
  rintro b (hk | rfl)
  · exact ⟨Nat.lt_of_lt_of_le (h7 b hk).1 hb.size, (h7 b hk).2⟩
  · exact ⟨by rw [World.size_alloc]; omega, fun hd => by have := C.lt h1 _ hd; omega, fun hs => by have := h2.lt _ hs; omega⟩
end
end Go.Proofs.Ytcjfammfplcigaa.Pk
