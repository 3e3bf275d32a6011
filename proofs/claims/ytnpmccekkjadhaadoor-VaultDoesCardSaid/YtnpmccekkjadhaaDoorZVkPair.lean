/- The program's vault and the document's, side by side. -/
import Derived.Test.YtnpmccekkjadhaaDoorZVkHeld
import Derived.Test.YtnpmccekkjadhaaDoorZVlt
namespace Go.Proofs.YtnpmccekkjadhaaDoor.Pk
open Go.RowKit Go.Proofs.YtnpmccekkjadhaaDoor.Crc Go.Proofs.YtnpmccekkjadhaaDoor.Fr Go.Proofs.YtnpmccekkjadhaaDoor.Dk Go.Proofs.YtnpmccekkjadhaaDoor.Vk
set_option linter.unusedVariables false
section
variable {w w' : World} {Q R : Nat} {d : DK} {v : VK} {U : Nat → Prop}
/-- The disk of the document's vault, by itself. -/
theorem ModR.disk (h : ModR w Q R d v U) : ∃ S, DkR w R d S ∧ (∀ b, S b → U b) ∧ ∀ d' w' S', DkR w' R d' S' → Turned S w w' → From S S' w → ∃ U', ModR w' Q R d' v U' ∧ Turned U w w' ∧ From U U' w := by
  obtain ⟨S, T, h1, h2, h3, rfl⟩ := h
  refine ⟨S, h1, fun b hb => .inl hb, fun d' w' S' k t f => ?_⟩
  have hT := h2.lt
  have hap : ∀ b, S' b → ¬ T b := from_apart f h3 hT
  refine ⟨fun b => S' b ∨ T b, ⟨S', T, k, h2.stay ⟨t.size, fun b hb => t.block b (hT b hb) (fun hs => h3 b hs hb)⟩, hap, rfl⟩, ?_, ?_⟩
  · exact ⟨t.os, t.tape, t.output, t.size, fun i hi hn => t.block i hi (fun hs => hn (.inl hs))⟩
  · rintro b (hb | hb)
    · exact (f b hb).imp .inl id
    · exact .inl (.inr hb)
theorem ModR.vault (h : ModR w Q R d v U) : ∃ T, VaS w Q R v T := by
  obtain ⟨S, T, _, h2, _, _⟩ := h
  exact ⟨T, h2⟩
theorem ModP.drewN (h : ModP w Q R d v U) (n : Nat) : ModP (w.drewN n) Q R d v U := h.next (below_drewN (Below.refl _ _) n)
theorem ModR.drewN (h : ModR w Q R d v U) (n : Nat) : ModR (w.drewN n) Q R d v U := h.next (below_drewN (Below.refl _ _) n)
theorem room_any {lo hi n c : Nat} {A : Option Addr} (h : RoomL w lo hi A n c) (hh : hi ≤ w.heap.size) : RoomL w 0 w.heap.size A n c := by
  rcases h with h1 | ⟨g, off, cur, e, h0, hlt, hx, h2⟩
  · exact .inl h1
  · exact .inr ⟨g, off, cur, e, Nat.zero_le _, Nat.lt_of_lt_of_le hlt hh, hx, h2⟩
theorem room_in {lo hi n c : Nat} {A : Option Addr} (h : RoomL w lo hi A n c) : ∀ b, ablk A b → lo ≤ b ∧ b < hi := by
  rintro b ⟨ad, e, rfl⟩
  rcases h with ⟨e2, _⟩ | ⟨g, off, cur, e2, h1, h2, _⟩
  · rw [e] at e2; cases e2
  · rw [e] at e2; injection e2 with e2; rw [e2]; exact ⟨h1, h2⟩
end
/-- What the document's Open leaves, as a vault with its disk. -/
theorem OpnR.out {R : Nat} {d : DK} {s : List Int} {S : Nat → Prop} {w w' : World} {e : Ending} (h : OpnR R d s S w e w') :
    ((opn d s).1 ≠ 0 ∧ e = .returned (.tuple #[.pointer none, .int .i64 (opn d s).1]) ∧ ∃ S', DkR w' R (opn d s).2.1 S' ∧ Turned S w w' ∧ From S S' w) ∨
    ((opn d s).1 = 0 ∧ ∃ v Q As ns cs Ar cr U' ps, (opn d s).2.2 = some v ∧ e = .returned (.tuple #[.pointer (some ⟨Q, 0, none⟩), .int .i64 0]) ∧ ModR w' Q R (opn d s).2.1 v U' ∧ Turned S w w' ∧ From S U' w ∧
      VaB w' Q R v (.slice As ns cs) (.slice Ar v.rs.length cr) ∧ Reads w' w'.heap.size 1 As ns (bts v.s) ∧ RdL w' w'.heap.size Ar v.rs.length ps ∧ Piece.bytes ps = v.rs) := by
  obtain ⟨S', hD, ht, hf, ⟨hne, rfl⟩ | ⟨h0, v, Q, vs, vr, lo, hi, hv, rfl, hb, h1, h2, h3, h4, hsn, hrc, hap⟩⟩ := h
  · exact .inl ⟨hne, rfl, S', hD, ht, hf⟩
  · obtain ⟨As, ns, cs, rfl, hns, hls, hrs, _⟩ := hsn
    obtain ⟨Ar, nr, cr, ps, rfl, hps, hrr, hrm, _⟩ := hrc
    have hnr : v.rs.length = nr := by have h1 := hrr.len; have h2 := congrArg List.length hps; simp [Piece.bytes] at h2; omega
    subst hnr
    refine .inr ⟨h0, v, Q, As, ns, cs, Ar, cr, _, ps, hv, rfl, ⟨S', _, hD, ⟨As, ns, cs, Ar, cr, hb, room_any hrm h4, rfl⟩, ?_, rfl⟩, ht, ?_, hb, hrs.more h4, hrr.more h4, hps⟩
    · rintro b hs (rfl | hb')
      · exact hap _ hs ⟨h2, h3⟩
      · exact hap b hs (room_in hrm b hb')
    · rintro b (hs | rfl | hb')
      · exact hf b hs
      · exact .inr (Nat.le_trans h1 h2)
      · exact .inr (Nat.le_trans h1 (room_in hrm b hb').1)
/-- Both sides: the program's disk d, the document's disk o, the vaults alike or none, in blocks of their own, all newer than world w0. -/
structure Side (w0 : World) (R R' : Nat) (d o : DK) (ov : Option VK) (pv pw : Value) (U U' : Nat → Prop) (w : World) : Prop where
  at_ : (ov = none ∧ pv = .pointer none ∧ pw = .pointer none ∧ DkP w R d U ∧ DkR w R' o U') ∨ ∃ v Q Q', ov = some v ∧ pv = .pointer (some ⟨Q, 0, none⟩) ∧ pw = .pointer (some ⟨Q', 0, none⟩) ∧ ModP w Q R d v U ∧ ModR w Q' R' o v U'
  ap : ∀ b, U b → ¬ U' b
  n1 : ∀ b, U b → w0.heap.size ≤ b
  n2 : ∀ b, U' b → w0.heap.size ≤ b
  bel : Below w0.heap.size w0 w
section
variable {w0 w w' w1 w2 : World} {Q Q' R R' : Nat} {d d' d1 o o' : DK} {v v1 : VK} {ov : Option VK} {pv pw : Value} {U U' V V' : Nat → Prop}
theorem Side.lt (h : Side w0 R R' d o ov pv pw U U' w) : (∀ b, U b → b < w.heap.size) ∧ ∀ b, U' b → b < w.heap.size := by
  rcases h.at_ with ⟨_, _, _, h1, h2⟩ | ⟨v, Q, Q', _, _, _, h1, h2⟩
  · exact ⟨h1.lt, h2.lt⟩
  · exact ⟨h1.lt, h2.lt⟩
theorem Side.next (h : Side w0 R R' d o ov pv pw U U' w) (hb : Below w.heap.size w w') : Side w0 R R' d o ov pv pw U U' w' := by
  refine ⟨?_, h.ap, h.n1, h.n2, h.bel.trans (hb.mono h.bel.size)⟩
  rcases h.at_ with ⟨e0, e1, e2, h1, h2⟩ | ⟨v, Q, Q', e0, e1, e2, h1, h2⟩
  · exact .inl ⟨e0, e1, e2, h1.next hb, h2.next hb⟩
  · exact .inr ⟨v, Q, Q', e0, e1, e2, h1.next hb, h2.next hb⟩
/-- What is done to the program's disk alone. -/
theorem Side.diskP (h : Side w0 R R' d o ov pv pw U U' w) : ∃ S, DkP w R d S ∧ (∀ b, S b → U b) ∧ ∀ d' w' S', DkP w' R d' S' → Turned S w w' → From S S' w → ∃ V, Side w0 R R' d' o ov pv pw V U' w' ∧ From U V w := by
  have hl := h.lt
  rcases h.at_ with ⟨e0, e1, e2, h1, h2⟩ | ⟨v, Q, Q', e0, e1, e2, h1, h2⟩
  · exact ⟨U, h1, fun _ h => h, fun d' w' S' k t f => ⟨S', ⟨.inl ⟨e0, e1, e2, k, h2.stay (Stay.turned t fun b hb => ⟨hl.2 b hb, fun hs => h.ap b hs hb⟩)⟩, from_apart f h.ap hl.2, from_base f h.n1 h.bel.size, h.n2, t.below h.bel h.bel.size h.n1⟩, f⟩⟩
  · obtain ⟨S, k1, k2, k3⟩ := h1.disk
    refine ⟨S, k1, k2, fun d' w' S' k t f => ?_⟩
    obtain ⟨V, m1, t, f⟩ := k3 d' w' S' k t f
    exact ⟨V, ⟨.inr ⟨v, Q, Q', e0, e1, e2, m1, h2.stay (Stay.turned t fun b hb => ⟨hl.2 b hb, fun hs => h.ap b hs hb⟩)⟩, from_apart f h.ap hl.2, from_base f h.n1 h.bel.size, h.n2, t.below h.bel h.bel.size h.n1⟩, f⟩
/-- What is done to the document's disk alone. -/
theorem Side.diskR (h : Side w0 R R' d o ov pv pw U U' w) : ∃ S, DkR w R' o S ∧ (∀ b, S b → U' b) ∧ ∀ o' w' S', DkR w' R' o' S' → Turned S w w' → From S S' w → ∃ V, Side w0 R R' d o' ov pv pw U V w' := by
  have hl := h.lt
  have hap : ∀ b, U' b → ¬ U b := fun b h1 h2 => h.ap b h2 h1
  rcases h.at_ with ⟨e0, e1, e2, h1, h2⟩ | ⟨v, Q, Q', e0, e1, e2, h1, h2⟩
  · exact ⟨U', h2, fun _ h => h, fun d' w' S' k t f => ⟨S', .inl ⟨e0, e1, e2, h1.stay (Stay.turned t fun b hb => ⟨hl.1 b hb, fun hs => hap b hs hb⟩), k⟩, fun b h1 h2 => from_apart f hap hl.1 b h2 h1, h.n1, from_base f h.n2 h.bel.size, t.below h.bel h.bel.size h.n2⟩⟩
  · obtain ⟨S, k1, k2, k3⟩ := h2.disk
    refine ⟨S, k1, k2, fun d' w' S' k t f => ?_⟩
    obtain ⟨V, m1, t, f⟩ := k3 d' w' S' k t f
    exact ⟨V, .inr ⟨v, Q, Q', e0, e1, e2, h1.stay (Stay.turned t fun b hb => ⟨hl.1 b hb, fun hs => hap b hs hb⟩), m1⟩, fun b h1 h2 => from_apart f hap hl.1 b h2 h1, h.n1, from_base f h.n2 h.bel.size, t.below h.bel h.bel.size h.n2⟩
theorem Side.both (h : Side w0 R R' d o ov pv pw U U' w) : Both w R R' d pv pw := by
  rcases h.at_ with ⟨_, e1, e2, _, _⟩ | ⟨v, Q, Q', _, e1, e2, h1, h2⟩
  · exact .inl ⟨e1, e2⟩
  · obtain ⟨T, hT⟩ := h2.vault
    exact .inr ⟨Q, Q', v, U, T, e1, e2, h1, hT⟩
/-- A call of the program's vault, then one of the document's. -/
theorem step_one (hR : ModR w Q' R' o v U') (ap : ∀ b, U b → ¬ U' b) (n1 : ∀ b, U b → w0.heap.size ≤ b) (bel : Below w0.heap.size w0 w) (t1 : Turned U w w1) (f1 : From U V w) :
    ModR w1 Q' R' o v U' ∧ (∀ b, V b → ¬ U' b) ∧ (∀ b, V b → w0.heap.size ≤ b) ∧ Below w0.heap.size w0 w1 :=
  ⟨hR.stay (Stay.turned t1 fun b hb => ⟨hR.lt b hb, fun hs => ap b hs hb⟩), from_apart f1 ap hR.lt, from_base f1 n1 bel.size, t1.below bel bel.size n1⟩
theorem step_two (k1 : ModP w1 Q R d1 v1 V) (ap : ∀ b, V b → ¬ U' b) (n1 : ∀ b, V b → w0.heap.size ≤ b) (n2 : ∀ b, U' b → w0.heap.size ≤ b) (bel : Below w0.heap.size w0 w1) (k2 : ModR w2 Q' R' d1 v1 V') (t2 : Turned U' w1 w2) (f2 : From U' V' w1) :
    Side w0 R R' d1 d1 (some v1) (.pointer (some ⟨Q, 0, none⟩)) (.pointer (some ⟨Q', 0, none⟩)) V V' w2 :=
  ⟨.inr ⟨v1, Q, Q', rfl, rfl, rfl, k1.stay (Stay.turned t2 fun b hb => ⟨k1.lt b hb, fun hs => ap b hb hs⟩), k2⟩, fun b h1 h2 => from_apart f2 (fun b h1 h2 => ap b h2 h1) k1.lt b h2 h1, n1, from_base f2 n2 bel.size, t2.below bel bel.size n2⟩
end
end Go.Proofs.YtnpmccekkjadhaaDoor.Pk
