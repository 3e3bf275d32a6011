/- Two readers at one state: the program's and the document's. -/
import Derived.Test.YtkgkiplidjoamaaPackRefReader
namespace Go.Proofs.Ytkgkiplidjoamaa.Pk
open Go.RowKit
set_option linter.unusedVariables false

/-- Bytes lie in no reader's block. -/
theorem far_gen {w : World} {R T n n' c' B : Nat} {A A' : Option Addr} {l : List Int} {bad : Bool} (hb : Blk w R T #[.slice A' n' c', .bool bad]) (h : Reads w B 1 A n (bts l)) (hn : 0 < n) : ∀ ad, A = some ad → ad.block ≠ R := by
  rintro ad rfl e
  obtain ⟨b, off, e2, hbb, hc⟩ := h.u8 hn
  injection e2 with e2
  subst e2
  simp at e
  subst e
  have h0 := hc 0 hn
  rw [hb.cell] at h0
  rcases Nat.lt_or_ge (off + 0) 2 with h1 | h1
  · rcases Nat.lt_or_ge (off + 0) 1 with h2 | h2
    · rw [show off + 0 = 0 by omega] at h0; simp at h0
    · rw [show off + 0 = 1 by omega] at h0; simp at h0
  · rw [Array.getElem?_eq_none (by simpa using h1)] at h0; cases h0
theorem Reads.only {w w' : World} {R B n : Nat} {A : Option Addr} {xs : List Value} (h : Reads w B 1 A n xs) (ho : Only w w' R) (hB : B ≤ w.heap.size) (hf : 0 < n → ∀ ad, A = some ad → ad.block ≠ R) : Reads w' B 1 A n xs := by
  refine ⟨h.1, fun hn => ?_⟩
  obtain ⟨ad, e, hb, hc⟩ := h.2 hn
  refine ⟨ad, e, hb, fun j u hu => ?_⟩
  rw [← hc j u hu]
  exact World.cell?_of_block (ho.block _ (by rw [block_of_add]; omega) (fun e2 => by rw [block_of_add] at e2; injection e2 with e2; exact hf hn ad e e2))
theorem RF.only {w w' : World} {M R T n c : Nat} {A : Option Addr} {l : List Int} {bad b : Bool} (h : RF w M l bad) (ho : Only w w' R) (hne : M ≠ R) (hR : Blk w R T #[.slice A n c, .bool b]) : RF w' M l bad := by
  obtain ⟨A1, n1, c1, hbk, h1, h2, h3, h4, h5⟩ := h
  exact ⟨A1, n1, c1, (ho.block M hbk.lt (fun e => by injection e with e; exact hne e)).trans hbk, h1, h2, h3, (h4.only ho (Nat.le_refl _) (far_gen hR h4)).more ho.size, h5⟩
theorem RD.only {w w' : World} {M R T n c : Nat} {A : Option Addr} {l : List Int} {bad b : Bool} (h : RD w M l bad) (ho : Only w w' R) (hne : M ≠ R) (hR : Blk w R T #[.slice A n c, .bool b]) : RD w' M l bad := by
  obtain ⟨A1, n1, c1, hbk, h1, h2, h3, h4, h5⟩ := h
  exact ⟨A1, n1, c1, (ho.block M hbk.lt (fun e => by injection e with e; exact hne e)).trans hbk, h1, h2, h3, (h4.only ho (Nat.le_refl _) (far_gen hR h4)).more ho.size, h5⟩
theorem ValB.only {w w' : World} {R T n c : Nat} {A : Option Addr} {l : List Int} {v : Value} {b : Bool} (h : ValB w v l) (ho : Only w w' R) (hR : Blk w R T #[.slice A n c, .bool b]) : ValB w' v l := by
  obtain ⟨A1, n1, c1, rfl, h1, h2, h3⟩ := h
  exact ⟨A1, n1, c1, rfl, h1, h2, (h3.only ho (Nat.le_refl _) (far_gen hR h3)).more ho.size⟩
theorem RF.blk {w : World} {M : Nat} {l : List Int} {bad : Bool} (h : RF w M l bad) : ∃ A n c, Blk w M 43 #[.slice A n c, .bool bad] := by
  obtain ⟨A, n, c, hb, _⟩ := h; exact ⟨A, n, c, hb⟩
theorem RD.blk {w : World} {M : Nat} {l : List Int} {bad : Bool} (h : RD w M l bad) : ∃ A n c, Blk w M 55 #[.slice A n c, .bool bad] := by
  obtain ⟨A, n, c, hb, _⟩ := h; exact ⟨A, n, c, hb⟩
theorem RF.below {w w' : World} {M : Nat} {l : List Int} {bad : Bool} (h : RF w M l bad) (hb : Below w.heap.size w w') : RF w' M l bad := by
  obtain ⟨A1, n1, c1, hbk, h1, h2, h3, h4, h5⟩ := h
  exact ⟨A1, n1, c1, hbk.below hb hbk.lt, h1, h2, h3, (h4.below hb).more hb.size, h5⟩
theorem RD.below {w w' : World} {M : Nat} {l : List Int} {bad : Bool} (h : RD w M l bad) (hb : Below w.heap.size w w') : RD w' M l bad := by
  obtain ⟨A1, n1, c1, hbk, h1, h2, h3, h4, h5⟩ := h
  exact ⟨A1, n1, c1, hbk.below hb hbk.lt, h1, h2, h3, (h4.below hb).more hb.size, h5⟩

/-- Both readers, at one state: what the document's has left, and whether there was a fault. -/
def Two (w : World) (R M : Nat) (l : List Int) (bad : Bool) : Prop := RD w R (if bad then [] else l) bad ∧ RF w M l bad
theorem Two.below {w w' : World} {R M : Nat} {l : List Int} {bad : Bool} (h : Two w R M l bad) (hb : Below w.heap.size w w') : Two w' R M l bad := ⟨h.1.below hb, h.2.below hb⟩


def nV (L : List Int) (bad : Bool) : Int := if bad then 0 else (tkv L).1
def nB (L : List Int) (bad : Bool) : Bool := if bad then true else rnB L
def nL (L : List Int) (bad : Bool) : List Int := if bad then L else rnL L
def bV (L : List Int) (bad : Bool) (x : Int) : List Int := if bad then [] else pcT L x
def bB (L : List Int) (bad : Bool) (x : Int) : Bool := if bad then true else rpB L x
def bL (L : List Int) (bad : Bool) (x : Int) : List Int := if bad then L else rpL L x
theorem tkv_nil : tkv [] = (0, 0) := by decide
theorem n_eq (L : List Int) (bad : Bool) : (tkv (if bad then [] else L)).1 = nV L bad ∧ numL (if bad then [] else L) = (if nB L bad then [] else nL L bad) ∧ numB (if bad then [] else L) bad = nB L bad := by
  cases bad
  · simp only [nV, nB, nL, numL, numB, rnL, rnB, Bool.false_eq_true, if_false]
    split <;> simp
  · simp [nV, nB, numL, numB, tkv_nil]
theorem b_eq (L : List Int) (bad : Bool) (x : Int) : pcT (if bad then [] else L) x = bV L bad x ∧ pcL (if bad then [] else L) x = (if bB L bad x then [] else bL L bad x) ∧ pcB (if bad then [] else L) x bad = bB L bad x := by
  cases bad
  · refine ⟨rfl, ?_, ?_⟩
    · by_cases hx : 0 ≤ x ∧ x ≤ (L.length : Int) <;> simp [bB, bL, pcL, rpL, rpB, hx]
    · by_cases hx : 0 ≤ x ∧ x ≤ (L.length : Int) <;> simp [bB, pcB, rpB, hx]
  · simp [bV, bB, pcT, pcL, pcB]

theorem bV_len (L : List Int) (bad : Bool) (x : Int) : (bV L bad x).length ≤ L.length := by
  cases bad
  · exact pcT_len L x
  · simp [bV]
theorem RF.len {w : World} {M : Nat} {l : List Int} {bad : Bool} (h : RF w M l bad) : l.length ≤ 140737488355328 := by
  obtain ⟨A, n, c, _, _, h1, h2, _⟩ := h; omega
theorem bV_one (L : List Int) (bad : Bool) : bV L bad 1 = [] ∨ ∃ x, bV L bad 1 = [x] := by
  cases bad
  · rcases pcT_one L with h | ⟨c, r, _, h⟩
    · exact .inl h
    · exact .inr ⟨c, h⟩
  · exact .inl rfl

section
variable {w : World} {R M : Nat} {L : List Int} {bad : Bool}
theorem t_num (h : Two w R M L bad) (hne : R ≠ M) : Calls Try.prog 20 #[.pointer (some ⟨R, 0, none⟩)] w fun e w' => e = .returned (.int .i64 (nV L bad)) ∧
    RD w' R (if nB L bad then [] else nL L bad) (nB L bad) ∧ RF w' M L bad ∧ Only w w' R := by
  obtain ⟨A, n, c, hb⟩ := h.1.blk
  obtain ⟨e1, e2, e3⟩ := n_eq L bad
  refine (number_any R _ bad w h.1).mono ?_
  rintro e w' ⟨rfl, h1, h2⟩
  rw [e1]; rw [e2, e3] at h1
  exact ⟨rfl, h1, h.2.only h2 (Ne.symm hne) hb, h2⟩
theorem t_rnum {l' : List Int} {b' : Bool} (h : RF w M L bad) (hR : RD w R l' b') (hne : R ≠ M) : Calls Try.prog 21 #[.pointer (some ⟨M, 0, none⟩)] w fun e w' => e = .returned (.int .i64 (nV L bad)) ∧
    RF w' M (nL L bad) (nB L bad) ∧ RD w' R l' b' ∧ Only w w' M := by
  obtain ⟨A, n, c, hb⟩ := h.blk
  cases bad
  · refine (rnum_ok M L w h).mono ?_
    rintro e w' ⟨rfl, h1, h2⟩
    exact ⟨rfl, h1, hR.only h2 hne hb, h2⟩
  · refine (rnum_bad M L w h).mono ?_
    rintro e w' ⟨rfl, rfl⟩
    exact ⟨rfl, h, hR, Only.refl _ _⟩
theorem t_byte2 {l' : List Int} {b' : Bool} (h : RD w R (if bad then [] else L) bad) (hF : RF w M l' b') (hne : R ≠ M) : Calls Try.prog 23 #[.pointer (some ⟨R, 0, none⟩)] w fun e w' => e = .returned (.int .u8 ((bV L bad 1).getD 0 0)) ∧
    RD w' R (if bB L bad 1 then [] else bL L bad 1) (bB L bad 1) ∧ RF w' M l' b' ∧ Only w w' R := by
  obtain ⟨A, n, c, hb⟩ := h.blk
  obtain ⟨e1, e2, e3⟩ := b_eq L bad 1
  refine (byte_any R _ bad w h).mono ?_
  rintro e w' ⟨rfl, h1, h2⟩
  rw [e1]; rw [e2, e3] at h1
  exact ⟨rfl, h1, hF.only h2 (Ne.symm hne) hb, h2⟩
theorem t_byte (h : Two w R M L bad) (hne : R ≠ M) (hT : True) : Calls Try.prog 23 #[.pointer (some ⟨R, 0, none⟩)] w fun e w' => e = .returned (.int .u8 ((bV L bad 1).getD 0 0)) ∧
    RD w' R (if bB L bad 1 then [] else bL L bad 1) (bB L bad 1) ∧ RF w' M L bad ∧ Only w w' R := by
  obtain ⟨A, n, c, hb⟩ := h.1.blk
  obtain ⟨e1, e2, e3⟩ := b_eq L bad 1
  refine (byte_any R _ bad w h.1).mono ?_
  rintro e w' ⟨rfl, h1, h2⟩
  rw [e1]; rw [e2, e3] at h1
  exact ⟨rfl, h1, h.2.only h2 (Ne.symm hne) hb, h2⟩
theorem t_bytes (x : Int) (h : Two w R M L bad) (hne : R ≠ M) : Calls Try.prog 24 #[.pointer (some ⟨R, 0, none⟩), .int .i64 x] w fun e w' => ∃ v, e = .returned v ∧ ValB w' v (bV L bad x) ∧
    RD w' R (if bB L bad x then [] else bL L bad x) (bB L bad x) ∧ RF w' M L bad ∧ Only w w' R := by
  obtain ⟨A, n, c, hb⟩ := h.1.blk
  obtain ⟨e1, e2, e3⟩ := b_eq L bad x
  refine (bytes_any R _ bad x w h.1).mono ?_
  rintro e w' ⟨v, rfl, h0, h1, h2⟩
  rw [e1] at h0; rw [e2, e3] at h1
  exact ⟨v, rfl, h0.val, h1, h.2.only h2 (Ne.symm hne) hb, h2⟩
theorem t_rbytes (x : Int) {l' : List Int} {b' : Bool} (h : RF w M L bad) (hR : RD w R l' b') (hne : R ≠ M) : Calls Try.prog 22 #[.pointer (some ⟨M, 0, none⟩), .int .i64 x] w fun e w' => ∃ v, e = .returned v ∧ ValB w' v (bV L bad x) ∧
    RF w' M (bL L bad x) (bB L bad x) ∧ RD w' R l' b' ∧ Only w w' M := by
  obtain ⟨A, n, c, hb⟩ := h.blk
  cases bad
  · refine (rbytes_ok M L x w h).mono ?_
    rintro e w' ⟨v, rfl, h0, h1, h2⟩
    exact ⟨v, rfl, h0, h1, hR.only h2 hne hb, h2⟩
  · refine (rbytes_bad M L x w h).mono ?_
    rintro e w' ⟨rfl, h1, h2⟩
    exact ⟨_, rfl, ⟨none, 0, 0, rfl, Nat.le_refl _, rfl, Reads.none_⟩, h1, hR.only h2 hne hb, h2⟩
end
end Go.Proofs.Ytkgkiplidjoamaa.Pk
