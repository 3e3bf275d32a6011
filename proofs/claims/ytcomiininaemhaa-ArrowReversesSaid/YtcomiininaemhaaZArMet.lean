/- The law's own walk along the arrows: what is met is marked. -/
import Derived.Test.YtcomiininaemhaaZWArrowGoes
import Derived.Test.YtcomiininaemhaaZRs
namespace Go.Proofs.Ytcomiininaemhaa.Gr
set_option linter.unusedVariables false
structure Wlk (ar : List Int) (f : Int) (n : Nat) (pre met : List Int) (bs : List Bool) (x : Int) : Prop where
  al : ar.length = n
  fol : followI ar f = pre ++ folF ar (bs.count false + 1) met x
  len : bs.length = n
  mem : ∀ v, v < n → bs[v]? = some (decide ((v : Int) ∈ met))
  size : pre.length + bs.count false = n
theorem Wlk.start {ar : List Int} {f : Int} {n : Nat} (h : ar.length = n) : Wlk ar f n [] [] (List.replicate n false) f where
  al := h
  fol := by unfold followI; rw [h]; simp
  len := by simp
  mem := fun v hv => by simp [hv]
  size := by simp
theorem Wlk.step {ar : List Int} {f : Int} {n : Nat} {pre met : List Int} {bs : List Bool} {v : Nat} (h : Wlk ar f n pre met bs (v : Int)) (hv : v < n) (hb : bs[v]? = some false) :
    Wlk ar f n (pre ++ [(v : Int)]) ((v : Int) :: met) (bs.set v true) (at_ ar v) ∧ pre.length < n ∧ (bs.set v true).count false + 1 = bs.count false := by
  have hvb : v < bs.length := by rw [h.len]; exact hv
  have hg : bs[v] = false := by rw [List.getElem?_eq_getElem hvb] at hb; injection hb
  have hpos : 0 < bs.count false := List.count_pos_iff.2 (List.mem_of_getElem? hb)
  have hc : (bs.set v true).count false = bs.count false - 1 := by
    rw [List.count_set hvb, hg]; simp
  have hnm : (v : Int) ∉ met := by
    have := h.mem v hv
    rw [hb] at this
    injection this with this
    simpa using this.symm
  have hal := h.al
  refine ⟨⟨h.al, ?_, by simpa using h.len, fun u hu => ?_, ?_⟩, ?_, by omega⟩
  · rw [h.fol, show bs.count false + 1 = ((bs.set v true).count false + 1) + 1 by omega]
    conv => lhs; rw [folF]
    rw [if_pos ⟨by omega, by omega, hnm⟩]
    simp
  · by_cases e : u = v
    · subst e
      rw [List.getElem?_set_self hvb]; simp
    · rw [List.getElem?_set_ne (Ne.symm e), h.mem u hu]
      simp only [List.mem_cons]
      congr 1
      apply decide_eq_decide.2
      constructor
      · intro h; exact .inr h
      · rintro (h | h)
        · exact absurd (by omega) e
        · exact h
  · rw [List.length_append, hc]; have := h.size; simp; omega
  · have := h.size; omega
theorem Wlk.stop {ar : List Int} {f : Int} {n : Nat} {pre met : List Int} {bs : List Bool} {x : Int} (h : Wlk ar f n pre met bs x) (hx : 0 ≤ x → x < (n : Int) → bs[x.toNat]? = some true) : pre = followI ar f := by
  have hal := h.al
  rw [h.fol]
  conv => rhs; rw [folF]
  rw [if_neg ?_]
  · simp
  · rintro ⟨h1, h2, h3⟩
    have h4 := h.mem x.toNat (by omega)
    rw [hx h1 (by omega), Int.toNat_of_nonneg h1] at h4
    injection h4 with h4
    exact h3 (by simpa using h4.symm)
theorem Wlk.le {ar : List Int} {f : Int} {n : Nat} {pre met : List Int} {bs : List Bool} {x : Int} (h : Wlk ar f n pre met bs x) : pre.length ≤ n := by have := h.size; omega
end Go.Proofs.Ytcomiininaemhaa.Gr
namespace Go.Proofs.Ytcomiininaemhaa.Pk
open Go.RowKit Go.Shelf Go.Proofs.Ytcomiininaemhaa.Gr
set_option linter.unusedVariables false
theorem bool_infoT : (Try.prog.info? 4).map (fun i => (i.zero, i.size, i.bytes)) = some (some (.bool false), 1, 1) := by kernel_rfl
def blT (l : List Bool) : List Value := l.map Value.bool
/-- A block of marks. -/
def BlkT (w : World) (g : Nat) (l : List Bool) : Prop := Blk w g 4 (blT l).toArray
theorem BlkT.at_ {w : World} {g : Nat} {l : List Bool} (h : BlkT w g l) {t : Nat} {b : Bool} (ht : l[t]? = some b) : w.cell? ⟨g, t, none⟩ = some (.bool b) := by
  rw [Blk.cell h, List.getElem?_toArray]
  simp [blT, ht]
theorem BlkT.set_ {w : World} {g : Nat} {l : List Bool} (h : BlkT w g l) (i : Nat) (x : Bool) : BlkT (w.setCell ⟨g, i, none⟩ (.bool x)) g (l.set i x) := by
  have := Blk.set_ h i (.bool x)
  unfold BlkT
  have e : (blT (l.set i x)).toArray = (blT l).toArray.setIfInBounds i (.bool x) := by simp [blT]
  rw [e]; exact this
theorem makeBt {ops : Array Oper} {rest : List Oper} {o : Oper} {a : Act} {Q : Exit → Act → World → Prop} (w : World) (hg : o.guard = none) (l c : Operand) (hop : o.op = Op.makeSlice 40 l c)
    (kl kc : IntKind) (L C : Int) (n : Nat) (hl : a.eval l = .int kl L) (hc : a.eval c = .int kc C) (hL : L = (n : Int)) (hC : C = (n : Int)) (b2 : n ≤ 17592186044416)
    (hK : ∀ w', BlkT w' w.heap.size (List.replicate n false) → Below w.heap.size w w' → wpList Try.prog ops Q rest (a.put o.dst (.slice (some ⟨w.heap.size, 0, none⟩) n n)) w') :
    wpList Try.prog ops Q (o :: rest) a w := by
  obtain ⟨i0, hi0, hz0, hz1, hz2⟩ := info_parts bool_infoT
  refine wpList_make_full w hg l c _ hop w.heap.size 4 i0 _ 1 Try.underlying40 hi0 hz0 hz1 kl kc L C n hl hc hL hC (by rw [hz2]; omega) (by unfold maxLen; omega) (Nat.le_refl _) (fun w' ho hg => hK w' ?_ ((Below.refl _ _).grown hg (Nat.le_refl _) (by simp)))
  have e : (madeCells (Value.bool false).cells (n * 1)).toList = blT (List.replicate n false) := by
    rw [Nat.mul_one]
    show (madeCells #[Value.bool false] n).toList = _
    rw [toList_madeCells_one]
    simp [blT]
  rw [e] at ho
  rcases ho.2 with ⟨h1, _⟩ | ⟨g, cap, cur, he, hb, hh, h3, h4, h5, h6⟩
  · cases h1
  · simp only [Value.slice.injEq, Option.some.injEq, Addr.mk.injEq] at he
    obtain ⟨⟨rfl, _⟩, _, rfl⟩ := he
    have hc : cur = (blT (List.replicate n false)).toArray := by
      apply Array.ext'
      rw [← h6, List.take_of_length_le (by simp [h5])]
    unfold BlkT Blk
    rw [← hc]; exact hh
end Go.Proofs.Ytcomiininaemhaa.Pk
