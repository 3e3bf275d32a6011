/- Two nets of the program side by side, what a range reads (K), and memory of the law's own (V). -/
import Derived.Test.YtcjfammfplcigaaNtPairU
namespace Go.Proofs.Ytcjfammfplcigaa.Pk
open Go.RowKit Go.Shelf Go.Proofs.Ytcjfammfplcigaa.Nt
set_option linter.unusedVariables false
def Tw (Nb : World → Nat → Li → (Nat → Prop) → (Nat → Prop) → Prop) (w1 : World) (T T' : Nat) (l : Li) (K V : Nat → Prop) (W : World) : Prop :=
  ∃ S D S2 D2, Nb W T l S D ∧ Nb W T' [] S2 D2 ∧ (∀ b, D b → ¬ D2 b) ∧ (∀ b, D b → w1.heap.size ≤ b) ∧ (∀ b, D2 b → w1.heap.size ≤ b) ∧ Below w1.heap.size w1 W ∧
    (∀ b, K b → b < W.heap.size ∧ ¬ S b ∧ ¬ V b) ∧ ∀ b, V b → b < W.heap.size ∧ w1.heap.size ≤ b ∧ ¬ D b ∧ ¬ D2 b
/-- All that lay lies as it lay, but some blocks. -/
theorem OnlyS.setAt_ {S : Nat → Prop} {w V : World} (h : OnlyS S w V) {x o : Nat} (hx : S x) (u : Value) : OnlyS S w (V.setCell ⟨x, o, none⟩ u) :=
  ⟨h.os, h.tape, h.output, by have := h.size; simpa [World.setCell] using this, fun i hi hn => (Below.heap_setCell V ⟨x, o, none⟩ u i (fun e => by simp at e; subst e; exact hn hx)).trans (h.block i hi hn)⟩
section
variable {Nb : Nat → World → Nat → Li → (Nat → Prop) → (Nat → Prop) → Prop} {kc : Nat} {w1 W W' : World} {T T' : Nat} {l : Li} {K V : Nat → Prop}
theorem Tw.bel (h : Tw (Nb kc) w1 T T' l K V W) : Below w1.heap.size w1 W := by obtain ⟨_, _, _, _, _, _, _, _, _, h, _⟩ := h; exact h
theorem Tw.ltV (h : Tw (Nb kc) w1 T T' l K V W) : ∀ b, V b → b < W.heap.size ∧ w1.heap.size ≤ b := by obtain ⟨_, _, _, _, _, _, _, _, _, _, _, h⟩ := h; exact fun b hb => ⟨(h b hb).1, (h b hb).2.1⟩
theorem Tw.ltK (h : Tw (Nb kc) w1 T T' l K V W) : ∀ b, K b → b < W.heap.size ∧ ¬ V b := by obtain ⟨_, _, _, _, _, _, _, _, _, _, h, _⟩ := h; exact fun b hb => ⟨(h b hb).1, (h b hb).2.2⟩
theorem Tw.less {K2 V2 : Nat → Prop} (h : Tw (Nb kc) w1 T T' l K V W) (hk : ∀ b, K2 b → K b) (hv : ∀ b, V2 b → V b) : Tw (Nb kc) w1 T T' l K2 V2 W := by
  obtain ⟨S, D, S2, D2, h1, h2, h3, h4, h5, h6, h7, h8⟩ := h
  exact ⟨S, D, S2, D2, h1, h2, h3, h4, h5, h6, fun b hb => ⟨(h7 b (hk b hb)).1, (h7 b (hk b hb)).2.1, fun e => (h7 b (hk b hb)).2.2 (hv b e)⟩, fun b hb => h8 b (hv b hb)⟩
theorem Tw.next (h : Tw (Nb kc) w1 T T' l K V W) (C : NetC Nb) (hb : Below W.heap.size W W') : Tw (Nb kc) w1 T T' l K V W' := by
  obtain ⟨S, D, S2, D2, h1, h2, h3, h4, h5, h6, h7, h8⟩ := h
  exact ⟨S, D, S2, D2, C.next h1 hb, C.next h2 hb, h3, h4, h5, h6.trans (hb.mono h6.size), fun b hk => ⟨Nat.lt_of_lt_of_le (h7 b hk).1 hb.size, (h7 b hk).2⟩, fun b hv => ⟨Nat.lt_of_lt_of_le (h8 b hv).1 hb.size, (h8 b hv).2⟩⟩
theorem Tw.drewN (h : Tw (Nb kc) w1 T T' l K V W) (C : NetC Nb) (k : Nat) : Tw (Nb kc) w1 T T' l K V (W.drewN k) := h.next C (below_drewN (Below.refl _ _) k)
/-- New blocks are the law's own. -/
theorem Tw.newV {V2 : Nat → Prop} (h : Tw (Nb kc) w1 T T' l K V W) (C : NetC Nb) (hb : Below W.heap.size W W') (hv : ∀ b, V2 b → W.heap.size ≤ b ∧ b < W'.heap.size) : Tw (Nb kc) w1 T T' l K (fun b => V b ∨ V2 b) W' := by
  obtain ⟨S, D, S2, D2, h1, h2, h3, h4, h5, h6, h7, h8⟩ := h
  refine ⟨S, D, S2, D2, C.next h1 hb, C.next h2 hb, h3, h4, h5, h6.trans (hb.mono h6.size), fun b hk => ⟨Nat.lt_of_lt_of_le (h7 b hk).1 hb.size, (h7 b hk).2.1, ?_⟩, ?_⟩
  · rintro (e | e)
    · exact (h7 b hk).2.2 e
    · have := (hv b e).1; have := (h7 b hk).1; omega
  · rintro b (e | e)
    · exact ⟨Nat.lt_of_lt_of_le (h8 b e).1 hb.size, (h8 b e).2⟩
    · have h9 := hv b e
      exact ⟨h9.2, Nat.le_trans h6.size h9.1, fun hd => by have := C.lt h1 b hd; omega, fun hd => by have := C.lt h2 b hd; omega⟩
theorem Tw.own (h : Tw (Nb kc) w1 T T' l K V W) (C : NetC Nb) (hb : Below W.heap.size W W') {v : Value} {x : List Int} (ho : OwnR W' W.heap.size v x) : Tw (Nb kc) w1 T T' l K (fun b => V b ∨ v.ownBlock = some b) W' :=
  h.newV C hb (fun b e => ⟨owr_base ho b e, owr_ltP ho b e⟩)
/-- The law turns memory of its own. -/
theorem Tw.turn {V2 : Nat → Prop} (h : Tw (Nb kc) w1 T T' l K V W) (C : NetC Nb) (k : OnlyS V2 W W') (hv : ∀ b, V2 b → V b) : Tw (Nb kc) w1 T T' l K V W' ∧ Lie K W W' := by
  obtain ⟨S, D, S2, D2, h1, h2, h3, h4, h5, h6, h7, h8⟩ := h
  refine ⟨⟨S, D, S2, D2, C.stay h1 (k.stay (fun b hb => ⟨C.lt h1 b hb, fun e => (h8 b (hv b e)).2.2.1 hb⟩)), C.stay h2 (k.stay (fun b hb => ⟨C.lt h2 b hb, fun e => (h8 b (hv b e)).2.2.2 hb⟩)), h3, h4, h5,
    OnlyS.bel h6 k (fun b e => (h8 b (hv b e)).2.1) h6.size, fun b hk => ⟨Nat.lt_of_lt_of_le (h7 b hk).1 k.size, (h7 b hk).2⟩, fun b e => ⟨Nat.lt_of_lt_of_le (h8 b e).1 k.size, (h8 b e).2⟩⟩, fun b hk => k.block b (h7 b hk).1 (fun e => (h7 b hk).2.2 (hv b e))⟩
/-- A call that turns the net. -/
theorem Tw.nturn {l' : Li} (C : NetC Nb) {kd : Nat} (hkd : kc ≤ kd) {S D S2 D2 : Nat → Prop} (h1 : Nb kc W T l S D) (h2 : Nb kc W T' [] S2 D2) (h3 : ∀ b, D b → ¬ D2 b) (h4 : ∀ b, D b → w1.heap.size ≤ b) (h5 : ∀ b, D2 b → w1.heap.size ≤ b) (h6 : Below w1.heap.size w1 W)
    (h7 : ∀ b, K b → b < W.heap.size ∧ ¬ S b ∧ ¬ V b) (h8 : ∀ b, V b → b < W.heap.size ∧ w1.heap.size ≤ b ∧ ¬ D b ∧ ¬ D2 b)
    {S' D' : Nat → Prop} (k1 : Nb kd W' T l' S' D') (k2 : Turned S W W') (k3 : From S S' W) (k4 : From D D' W) {V2 : Nat → Prop} (hV : ∀ b, V2 b → b < W'.heap.size ∧ W.heap.size ≤ b ∧ ¬ D' b) :
    Tw (Nb kd) w1 T T' l' K (fun b => V b ∨ V2 b) W' ∧ Lie K W W' ∧ Lie V W W' ∧ W.heap.size ≤ W'.heap.size := by
  have hS : ∀ b, S b → D b := C.sub h1
  refine ⟨⟨S', D', S2, D2, k1, C.stay (C.up h2 hkd) (Stay.turned k2 (fun b hb => ⟨C.lt h2 b hb, fun hs => h3 b (hS b hs) hb⟩)), ?_, from_base k4 h4 h6.size, h5, k2.below h6 h6.size (fun b hb => h4 b (hS b hb)), ?_, ?_⟩,
    fun b hb => k2.block b (h7 b hb).1 (h7 b hb).2.1, fun b hb => k2.block b (h8 b hb).1 (fun hs => (h8 b hb).2.2.1 (hS b hs)), k2.size⟩
  · intro b hb h2b
    rcases k4 b hb with hd | hw
    · exact h3 b hd h2b
    · have := C.lt h2 b h2b; omega
  · intro b hk
    obtain ⟨q1, q2, q3⟩ := h7 b hk
    refine ⟨Nat.lt_of_lt_of_le q1 k2.size, fun hs => ?_, ?_⟩
    · rcases k3 b hs with hd | hw
      · exact q2 hd
      · omega
    · rintro (e | e)
      · exact q3 e
      · have := (hV b e).2.1; omega
  · rintro b (e | e)
    · obtain ⟨q1, q2, q3, q4⟩ := h8 b e
      refine ⟨Nat.lt_of_lt_of_le q1 k2.size, q2, fun hd => ?_, q4⟩
      rcases k4 b hd with hd | hw
      · exact q3 hd
      · omega
    · obtain ⟨q1, q2, q3⟩ := hV b e
      exact ⟨q1, Nat.le_trans h6.size q2, q3, fun hd => by have := C.lt h2 b hd; omega⟩
theorem Tw.up {kd : Nat} (h : Tw (Nb kc) w1 T T' l K V W) (C : NetC Nb) (hk : kc ≤ kd) : Tw (Nb kd) w1 T T' l K V W := by
  obtain ⟨S, D, S2, D2, h1, h2, h3⟩ := h
  exact ⟨S, D, S2, D2, C.up h1 hk, C.up h2 hk, h3⟩
theorem Tw.send (h : Tw (Nb kc) w1 T T' l K V W) (C : NetC Nb) (hk : kc < KM) {A : Option Addr} {n c : Nat} {x : List Int} (hs : Short LM l) (hr : Reads W W.heap.size 1 A n (bts x)) (hc : n ≤ c) (hn : n ≤ LM) (hx : ∀ y ∈ x, 0 ≤ y ∧ y ≤ 255) :
    Calls Try.prog 10 #[.pointer (some ⟨T, 0, none⟩), .slice A n c] W fun e w' => e = .returned (.bool (decide (l.length < 512))) ∧ Tw (Nb (kc + 1)) w1 T T' (sendN l x) K V w' ∧ Lie K W w' ∧ Lie V W w' ∧ W.heap.size ≤ w'.heap.size := by
  obtain ⟨S, D, S2, D2, h1, h2, h3, h4, h5, h6, h7, h8⟩ := h
  refine (C.send kc W T l S D A n c x h1 hk hs hr hc hn hx).mono ?_
  rintro e w' ⟨rfl, S', D', k1, k2, k3, k4, _⟩
  have := Tw.nturn C (Nat.le_succ kc) h1 h2 h3 h4 h5 h6 h7 h8 k1 k2 k3 k4 (V2 := fun _ => False) (fun b hb => hb.elim)
  exact ⟨rfl, this.1.less (fun b hb => hb) (fun b hb => .inl hb), this.2⟩
theorem Tw.at_ (h : Tw (Nb kc) w1 T T' l K V W) (C : NetC Nb) (i : Int) (hs : Short LM l) (i1 : -9223372036854775808 ≤ i) (i2 : i ≤ 9223372036854775807) :
    Calls Try.prog 12 #[.pointer (some ⟨T, 0, none⟩), .int .i64 i] W fun e w' => ∃ A n c, e = .returned (.tuple #[.slice A n c, .bool (inN l i)]) ∧ OwnR w' W.heap.size (.slice A n c) (atN l i) ∧ Tw (Nb kc) w1 T T' l K (fun b => V b ∨ (Value.slice A n c).ownBlock = some b) w' ∧ Below W.heap.size W w' := by
  have H := h
  obtain ⟨S, D, S2, D2, h1, h2, h3, h4, h5, h6, h7, h8⟩ := h
  refine (C.at_ kc W T l S D i h1 hs i1 i2).mono ?_
  rintro e w' ⟨v, rfl, ho, hb⟩
  obtain ⟨A, n, c, rfl⟩ := owr_slice ho
  exact ⟨A, n, c, rfl, ho, H.own C hb ho, hb⟩
theorem Tw.take (h : Tw (Nb kc) w1 T T' l K V W) (C : NetC Nb) (i : Int) (hs : Short LM l) (i1 : -9223372036854775808 ≤ i) (i2 : i ≤ 9223372036854775807) :
    Calls Try.prog 14 #[.pointer (some ⟨T, 0, none⟩), .int .i64 i] W fun e w' => ∃ A n c, e = .returned (.tuple #[.slice A n c, .bool (inN l i)]) ∧ OwnR w' W.heap.size (.slice A n c) (atN l i) ∧ Tw (Nb kc) w1 T T' (takeN l i) K (fun b => V b ∨ (Value.slice A n c).ownBlock = some b) w' ∧ Lie K W w' ∧ Lie V W w' ∧ W.heap.size ≤ w'.heap.size := by
  obtain ⟨S, D, S2, D2, h1, h2, h3, h4, h5, h6, h7, h8⟩ := h
  refine (C.take kc W T l S D i h1 hs i1 i2).mono ?_
  rintro e w' ⟨v, rfl, ho, S', D', k1, k2, k3, k4, k5⟩
  obtain ⟨A, n, c, rfl⟩ := owr_slice ho
  have := Tw.nturn C (Nat.le_refl kc) h1 h2 h3 h4 h5 h6 h7 h8 k1 k2 k3 k4 (V2 := fun b => (Value.slice A n c).ownBlock = some b) (fun b hb => ⟨owr_ltP ho b hb, owr_base ho b hb, k5 b hb⟩)
  exact ⟨A, n, c, rfl, ho, this.1, this.2⟩
theorem Tw.all (h : Tw (Nb kc) w1 T T' l (fun _ => False) V W) (C : NetC Nb) (hs : Short LM l) :
    Calls Try.prog 20 #[.pointer (some ⟨T, 0, none⟩)] W fun e w' => ∃ v R, e = .returned v ∧ SeqNt v l R w' ∧ Tw (Nb kc) w1 T T' l R V w' ∧ Below W.heap.size W w' := by
  obtain ⟨S, D, S2, D2, h1, h2, h3, h4, h5, h6, h7, h8⟩ := h
  refine (C.all kc W T l S D h1 hs).mono ?_
  rintro e w' ⟨v, R, rfl, k1, k2, k3⟩
  refine ⟨v, R, rfl, k1, ⟨S, D, S2, D2, C.next h1 k2, C.next h2 k2, h3, h4, h5, h6.trans (k2.mono h6.size), fun b hb => ?_, fun b hb => ⟨Nat.lt_of_lt_of_le (h8 b hb).1 k2.size, (h8 b hb).2⟩⟩, k2⟩
  refine ⟨k1.lt b hb, fun hs => ?_, fun hv => ?_⟩
  · rcases k3 b hb with hd | hw
    · exact hd.2 hs
    · have := C.lt h1 b (C.sub h1 b hs); omega
  · rcases k3 b hb with hd | hw
    · exact (h8 b hv).2.2.1 hd.1
    · have := (h8 b hv).1; omega
theorem Tw.olen (h : Tw (Nb kc) w1 T T' l K V W) (C : NetC Nb) : Calls Try.prog 19 #[.pointer (some ⟨T', 0, none⟩)] W fun e w' => e = .returned (.int .i64 0) ∧ Below W.heap.size W w' := by
  obtain ⟨S, D, S2, D2, h1, h2, _⟩ := h
  exact C.len kc W T' [] S2 D2 h2
theorem Tw.start (h : AtNt (Nb kc) w1 T [] W) (C : NetC Nb) (h2 : AtNt (Nb kc) W T' [] W') : Tw (Nb kc) w1 T T' [] (fun _ => False) (fun _ => False) W' := by
  obtain ⟨S, D, a1, a2, a3⟩ := h
  obtain ⟨S2, D2, b1, b2, b3⟩ := h2
  refine ⟨S, D, S2, D2, C.next a1 b3, b1, fun b hd h2 => ?_, a2, fun b hb => Nat.le_trans a3.size (b2 b hb), a3.trans (b3.mono a3.size), fun b hb => hb.elim, fun b hb => hb.elim⟩
  have := C.lt a1 b hd
  have := b2 b h2
  omega
end
end Go.Proofs.Ytcjfammfplcigaa.Pk
