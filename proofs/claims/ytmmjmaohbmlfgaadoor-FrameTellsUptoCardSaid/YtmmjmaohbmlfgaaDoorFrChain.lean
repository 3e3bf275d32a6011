/- Frames one behind the other, out of lists that came in; appends as steps of a region. -/
import Derived.Test.YtmmjmaohbmlfgaaDoorFrWakes
import Derived.Test.YtmmjmaohbmlfgaaDoorArgF
import Derived.Deep.RegionLaw
import Derived.Deep.RegionLawGrows
namespace Go.Proofs.YtmmjmaohbmlfgaaDoor.Pk
open Go.RowKit Go.Proofs.YtmmjmaohbmlfgaaDoor.Ar Go.Proofs.YtmmjmaohbmlfgaaDoor.Crc Go.Proofs.YtmmjmaohbmlfgaaDoor.Fr
set_option linter.unusedVariables false

/-- Bytes of any slice behind those that are owned, as one step of a region. -/
theorem stepB {ops : Array Oper} {o : Oper} {a : Act} {K : Act → World → Prop} {Q : Exit → Act → World → Prop} {E : Prop} (w : World) (hgd : o.guard = none) (s x : Operand)
    (ho : o.op = .call { callee := .builtin .append, args := #[s, x], argTypes := #[22, 22] }) (B : Nat) (v : Value) (l : List Int) (hs : a.eval s = v) (hown : OwnB w B v l)
    (B' : Nat) (A : Option Addr) (c : Nat) (r : List Int) (n : Nat) (hx : a.eval x = .slice A n c) (hr : Reads w B' 1 A n (bts r)) (hlen : l.length + n ≤ 140737488355328) (hB : B ≤ w.heap.size)
    (h : ∀ A' n' c' w', OwnB w' B (.slice A' n' c') (l ++ r) → w.grownBy w' v.ownBlock → ((Value.slice A' n' c').ownBlock = v.ownBlock ∨ (Value.slice A' n' c').ownBlock = some w.heap.size) → K (a.put o.dst (.slice A' n' c')) w') :
    if Region.wanted o (yielded ops a.tmps) = true then Oper.wp Tryd.prog o a w K Q else E := by
  obtain ⟨i0, hi0, hz0, hz1, hz2⟩ := info_parts u8_info
  refine step_append_any (P := Tryd.prog) w hgd s x _ ho B 5 i0 _ 1 1 Tryd.underlying22 hi0 hz0 hz1 hz2 rfl (by omega) v l.length (bts l) hs hown B' A n c (bts r) hx hr (bts_one r)
    (by unfold maxLen; omega) (by omega) hB ?_
  intro v' w' ho hg hat
  have hv := OwnB.app ho
  obtain ⟨A', n', c', rfl⟩ := own_slice hv
  exact h A' n' c' w' hv hg hat
/-- Bytes behind an empty literal, as one step of a region. -/
theorem stepE {ops : Array Oper} {o : Oper} {a : Act} {K : Act → World → Prop} {Q : Exit → Act → World → Prop} {E : Prop} (w : World) (k : Nat) (hgd : o.guard = none) (s x : Operand)
    (ho : o.op = .call { callee := .builtin .append, args := #[s, x], argTypes := #[22, 22] }) (hs : a.eval s = .slice (some ⟨k, 0, none⟩) 0 0) (hk : OwnB w k (.slice (some ⟨k, 0, none⟩) 0 0) [])
    (B' : Nat) (A : Option Addr) (c : Nat) (r : List Int) (n : Nat) (hx : a.eval x = .slice A n c) (hr : Reads w B' 1 A n (bts r)) (hlen : n ≤ 140737488355328) (hB : k ≤ w.heap.size)
    (h : ∀ A' n' c' w', OwnB w' k (.slice A' n' c') r → Below k w w' → K (a.put o.dst (.slice A' n' c')) w') :
    if Region.wanted o (yielded ops a.tmps) = true then Oper.wp Tryd.prog o a w K Q else E := by
  refine stepB w hgd s x ho k _ [] hs hk B' A c r n hx hr (by simp; omega) hB ?_
  intro A' n' c' w' hown hg hat
  exact h A' n' c' w' (by simpa using hown) ((Below.refl _ _).grown hg hB (own_base hk))
theorem below_drew_alloc (w : World) (o : Obj) : Below w.heap.size w (w.drew.alloc o) := (⟨rfl, rfl, rfl, Nat.le_refl _, fun _ _ => rfl⟩ : Below w.heap.size w w.drew).alloc (Nat.le_refl _) o

theorem RdL.take {w : World} {B : Nat} {A : Option Addr} {n k : Nat} {ps : List Piece} (h : RdL w B A n ps) (hk : k ≤ n) : RdL w B A k (ps.take k) := by
  refine ⟨⟨by simp [h.len]; omega, fun hn => ?_⟩, fun p hp => h.2 p (List.mem_of_mem_take hp)⟩
  obtain ⟨ad, e, hb, hc⟩ := h.1.2 (by omega)
  refine ⟨ad, e, hb, fun j u hu => hc j u ?_⟩
  rw [List.map_take] at hu
  rcases Nat.lt_or_ge j k with h1 | h1
  · rw [List.getElem?_take_of_lt h1] at hu; exact hu
  · rw [List.getElem?_eq_none (by simp; omega)] at hu; cases hu
theorem bytes_take (ps : List Piece) (k : Nat) : Piece.bytes (ps.take k) = (Piece.bytes ps).take k := by unfold Piece.bytes; rw [List.map_take]
theorem bytes_next {ps : List Piece} {k : Nat} {p : Piece} (h : ps[k]? = some p) : Piece.bytes (ps.take (k + 1)) = Piece.bytes (ps.take k) ++ [p.l] := by
  obtain ⟨h1, h2⟩ := List.getElem?_eq_some_iff.1 h
  rw [List.take_succ_eq_append_getElem h1, h2]
  simp [Piece.bytes]
theorem run_head {P : Program} {t e : TypeId} (ht : P.underlying t = some (.slice e)) (hi : (P.info? e).map (·.size) = some 1) (a : Option Addr) (n c j : Nat) (h2 : j ≤ c) (w : World) :
    (Instr.slice t (.slice a n c) none (some (.int .i64 (j : Int))) none).run P w = .ok (.slice a j c) w := by
  obtain ⟨f, hi1, hi2⟩ := Option.map_eq_some_iff.1 hi
  have e3 : (0 : Int) ≤ (j : Int) := by omega
  have e4 : (j : Int) ≤ (c : Int) := by omega
  cases a <;> simp [Instr.slice, run_underlying ht, go_sem, Instr.sliceBounds, sizeOf, typeInfo, hi1, h2, Addr.add]
theorem own_rowlen {w : World} {B : Nat} {A : Option Addr} {n c : Nat} {ps : List Piece} (h : OwnP w B (.slice A n c) ps) : ps.length = n ∧ n ≤ c := by
  obtain ⟨A', c', e, hc', _⟩ := reads_own h
  injection e with e1 e2 e3
  omega
theorem OwnL.rd {w : World} {B : Nat} {A : Option Addr} {n c : Nat} {ps : List Piece} (h : OwnL w B (.slice A n c) ps) (hs : ∀ p ∈ ps, p.l.length ≤ 4611686018427387904) : RdL w w.heap.size A n ps := by
  obtain ⟨A', c', e, _, hr⟩ := h.reads hs
  have hl := (own_rowlen h.row).1
  injection e with e1 e2 e3
  rw [e1]
  rw [hl] at hr
  exact hr
theorem frames_fits {rs : List Piece} {b : List Int} (e : Piece.bytes rs = frames b) : ∀ p ∈ rs, p.l.length ≤ 4611686018427387904 := fun p hp => by
  have h1 : p.l ∈ frames b := by rw [← e]; exact List.mem_map.2 ⟨p, hp, rfl⟩
  have := frames_fit b p.l h1
  omega
theorem encs_sum {ps : List Piece} (h : ∀ p ∈ ps, p.l.length = p.n) : (encs (Piece.bytes ps)).length ≤ 9 * sumN ps := by
  induction ps with
  | nil => exact Nat.le_refl _
  | cons p r ih =>
    have h1 := ih (fun q hq => h q (by simp [hq]))
    have h2 := h p (by simp)
    show (encs (p.l :: Piece.bytes r)).length ≤ _
    rw [encs_cons, List.length_append, enc_length]
    simp only [sumN]
    omega
theorem encs_part (ps : List Piece) (k : Nat) : (encs (Piece.bytes (ps.take k))).length ≤ (encs (Piece.bytes ps)).length := by
  have h1 : Piece.bytes ps = Piece.bytes (ps.take k) ++ Piece.bytes (ps.drop k) := by unfold Piece.bytes; rw [← List.map_append, List.take_append_drop]
  rw [h1, encs_app, List.length_append]
  omega
/-- What is known of lists that came in. -/
theorem argL_facts {w : World} {a : Option Addr} {n c : Nat} {ps : List Piece} (h : ArgL w a n c ps) (hs : sumN ps ≤ 1048576) : (∀ k, (encs (Piece.bytes (ps.take k))).length ≤ 9437184) ∧ (∀ k, ∀ p ∈ Piece.bytes (ps.take k), Bytes p) ∧ n ≤ 1048576 := by
  have h1 := encs_sum (ps := ps) (fun p hp => by have := (h.1.2 p hp).1.1; simpa using this)
  refine ⟨fun k => by have := encs_part ps k; omega, fun k p hp => ?_, ?_⟩
  · obtain ⟨q, hq, rfl⟩ := List.mem_map.1 hp
    exact (h.2.2 q (List.mem_of_mem_take hq)).2
  · have := sumN_len ps
    have := h.1.len
    omega
theorem fit_snoc {ps : List (List Int)} {p : List Int} (h : Fit ps) (hp : p.length ≤ 1048576) : Fit (ps ++ [p]) := fun q hq => by
  rcases List.mem_append.1 hq with hq | hq
  · exact h q hq
  · obtain rfl : q = p := by simpa using hq
    exact hp
end Go.Proofs.YtmmjmaohbmlfgaaDoor.Pk
