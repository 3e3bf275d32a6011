/- Lists of arrows: those that are legal, those that are quiet, what a find makes of them. -/
import Derived.Test.YtcomiininaemhaaArMath
import Derived.Test.YtcomiininaemhaaGrPath
namespace Go.Proofs.Ytcomiininaemhaa.Gr
set_option linter.unusedVariables false
variable {ps : List Int}
/-- The next node towards b; b itself there. -/
def nx (ps : List Int) (a b : Nat) : Nat := if a = b then b else nextN ps a b
theorem Good.nx_is (G : Good ps) : Nx ps.length (root ps) (par ps) (dep ps) (nx ps) where
  self := fun b _ => if_pos rfl
  lt := fun a b ha hb => by
    unfold nx
    split
    · exact hb
    · rename_i h; exact (G.nextN_is ha hb h).1
  nr := fun a b ha hb hab => by
    unfold nx
    rw [if_neg hab]
    obtain ⟨h1, h2, _⟩ := G.nextN_is ha hb hab
    exact (G.near_iff h1 ha).1 h2
  dn := fun a b ha hb hab => by
    unfold nx
    rw [if_neg hab]
    exact (G.nextN_is ha hb hab).2.2
theorem nextI_nx {a b : Nat} (ha : a < ps.length) (hb : b < ps.length) : nextI ps (a : Int) (b : Int) = (nx ps a b : Nat) := by
  unfold nextI nx
  rw [if_pos (by omega)]
  by_cases h : a = b
  · rw [if_pos (by omega), if_pos h]
  · rw [if_neg (by omega), if_neg h]
    rfl
def at_ (ar : List Int) (v : Nat) : Int := ar.getD v (-1)
theorem at_map {n : Nat} {f : Nat → Int} {v : Nat} (h : v < n) : at_ ((List.range n).map f) v = f v := by
  unfold at_
  rw [List.getD_eq_getElem?_getD, List.getElem?_map, List.getElem?_range h]
  rfl
theorem at_ext {n : Nat} {f : Nat → Int} {l : List Int} (hl : l.length = n) (h : ∀ v, v < n → at_ l v = f v) : l = (List.range n).map f := by
  apply List.ext_getElem?
  intro i
  rcases Nat.lt_or_ge i n with hi | hi
  · have h1 := h i hi
    unfold at_ at h1
    rw [List.getD_eq_getElem?_getD, List.getElem?_eq_getElem (by omega)] at h1
    rw [List.getElem?_map, List.getElem?_range hi, List.getElem?_eq_getElem (by omega)]
    simp at h1 ⊢
    exact h1
  · rw [List.getElem?_eq_none (by omega), List.getElem?_eq_none (by simp; omega)]
/-- All arrows lead to one node. -/
def towardN (ps : List Int) (s : Nat) : List Int := (List.range ps.length).map fun v => ((nx ps v s : Nat) : Int)
def towardI (ps : List Int) (h : Int) : List Int := if 0 ≤ h ∧ h < (ps.length : Int) then towardN ps h.toNat else []
theorem towardI_nat {s : Nat} (hs : s < ps.length) : towardI ps (s : Int) = towardN ps s := by
  unfold towardI
  rw [if_pos (by omega)]
  rfl
theorem towardN_len (s : Nat) : (towardN ps s).length = ps.length := by simp [towardN]
theorem towardN_at {s v : Nat} (hv : v < ps.length) : at_ (towardN ps s) v = ((nx ps v s : Nat) : Int) := at_map hv
def LegalL (ps ar : List Int) : Prop := ar.length = ps.length ∧ ∀ v, v < ps.length → 0 ≤ at_ ar v ∧ at_ ar v < (ps.length : Int) ∧ (at_ ar v = (v : Int) ∨ nearL ps v (at_ ar v).toNat = true)
def sinksN (ar : List Int) : List Nat := (List.range ar.length).filter fun v => decide (at_ ar v = (v : Int))
def sinksI (ar : List Int) : List Int := (sinksN ar).map fun v => ((v : Nat) : Int)
def EdgesL (ps ar : List Int) : Prop := ∀ u, u < ps.length → ∀ v, v < ps.length → u < v → nearL ps u v = true → ¬ (at_ ar u = (v : Int) ↔ at_ ar v = (u : Int))
def QuietL (ps ar : List Int) : Prop := LegalL ps ar ∧ (sinksN ar).length = 1 ∧ EdgesL ps ar
instance (ps ar : List Int) : Decidable (LegalL ps ar) := by unfold LegalL; exact inferInstance
instance (ps ar : List Int) : Decidable (EdgesL ps ar) := by unfold EdgesL; exact inferInstance
instance (ps ar : List Int) : Decidable (QuietL ps ar) := by unfold QuietL; exact inferInstance
theorem nearL_symm {a b : Nat} (h : nearL ps a b = true) : nearL ps b a = true := by
  unfold nearL at h ⊢
  rw [Bool.or_comm]
  exact h
theorem mem_sinks {ar : List Int} {v : Nat} : v ∈ sinksN ar ↔ v < ar.length ∧ at_ ar v = (v : Int) := by
  unfold sinksN
  rw [List.mem_filter, List.mem_range, decide_eq_true_eq]
theorem sinksN_nodup (ar : List Int) : (sinksN ar).Nodup := List.nodup_range.filter _
/-- What is quiet leads to one node, and what leads to one node is quiet. -/
theorem Good.quiet_iff (G : Good ps) {ar : List Int} : QuietL ps ar ↔ ∃ s, s < ps.length ∧ ar = towardN ps s := by
  constructor
  · rintro ⟨⟨hl, hok⟩, hs, he⟩
    obtain ⟨s, hse⟩ : ∃ s, sinksN ar = [s] := List.length_eq_one_iff.1 hs
    have hsm : s ∈ sinksN ar := by rw [hse]; simp
    obtain ⟨h1, h2⟩ := mem_sinks.1 hsm
    rw [hl] at h1
    have hfn : ∀ v, v < ps.length → (((at_ ar v).toNat : Nat) : Int) = at_ ar v := fun v hv => by have := (hok v hv).1; omega
    have Q : Qt ps.length (root ps) (par ps) (fun v => (at_ ar v).toNat) s := {
      lt := fun v hv => by have := hok v hv; omega
      lg := fun v hv => by
        obtain ⟨h3, h4, h5⟩ := hok v hv
        rcases h5 with h5 | h5
        · left; omega
        · right; exact (G.near_iff (by omega) hv).1 (nearL_symm h5)
      hs := h1
      sink := by show (at_ ar s).toNat = s; omega
      one := fun v hv h => by
        have h9 : (at_ ar v).toNat = v := h
        have h3 : v ∈ sinksN ar := mem_sinks.2 ⟨by omega, by have := hfn v hv; omega⟩
        rw [hse] at h3
        simpa using h3
      edge := fun u v hu hv hn => by
        have h3 := (G.near_iff hu hv).2 hn
        have hu' := hfn u hu
        have hv' := hfn v hv
        have hne : u ≠ v := fun e => by
          subst e
          rcases G.rt.step hu hv hu hn with h | h <;> omega
        show ((at_ ar u).toNat = v ↔ ¬ (at_ ar v).toNat = u)
        rcases Nat.lt_or_gt_of_ne hne with h | h
        · have h4 := he u hu v hv h h3
          constructor
          · intro h5 h6; exact h4 ⟨fun _ => by omega, fun _ => by omega⟩
          · intro h5
            exact Classical.byContradiction fun h6 => h4 ⟨fun h7 => absurd (by omega) h6, fun h7 => absurd (by omega) h5⟩
        · have h4 := he v hv u hu h (nearL_symm h3)
          constructor
          · intro h5 h6; exact h4 ⟨fun _ => by omega, fun _ => by omega⟩
          · intro h5
            exact Classical.byContradiction fun h6 => h4 ⟨fun h7 => absurd (by omega) h5, fun h7 => absurd (by omega) h6⟩ }
    refine ⟨s, h1, at_ext hl fun v hv => ?_⟩
    have h3 : (at_ ar v).toNat = nx ps v s := Q.toward G.rt G.nx_is v hv
    rw [← h3, hfn v hv]
  · rintro ⟨s, hs, rfl⟩
    have Q := G.nx_is.quiet G.rt hs
    have hat : ∀ v, v < ps.length → at_ (towardN ps s) v = ((nx ps v s : Nat) : Int) := fun v hv => towardN_at hv
    refine ⟨⟨towardN_len s, fun v hv => ?_⟩, ?_, fun u hu v hv huv hn => ?_⟩
    · rw [hat v hv]
      have h1 : nx ps v s < ps.length := Q.lt v hv
      refine ⟨by omega, by omega, ?_⟩
      rcases Q.lg v hv with h2 | h2
      · left; have h3 : nx ps v s = v := h2; rw [h3]
      · right; exact nearL_symm ((G.near_iff h1 hv).2 h2)
    · have h1 : sinksN (towardN ps s) = [s] := by
        have hm : ∀ v, v ∈ sinksN (towardN ps s) ↔ v = s := by
          intro v
          rw [mem_sinks, towardN_len]
          constructor
          · rintro ⟨h1, h2⟩
            rw [hat v h1] at h2
            exact Q.one v h1 (by show nx ps v s = v; omega)
          · rintro rfl
            refine ⟨hs, ?_⟩
            rw [hat v hs]
            have h3 : nx ps v v = v := Q.sink
            rw [h3]
        have hd := sinksN_nodup (towardN ps s)
        cases hc : sinksN (towardN ps s) with
        | nil => have := (hm s).2 rfl; rw [hc] at this; cases this
        | cons x l =>
          rw [hc] at hd hm
          have hx : x = s := (hm x).1 (by simp)
          cases l with
          | nil => rw [hx]
          | cons y l =>
            have hy : y = s := (hm y).1 (by simp)
            rw [hx, hy] at hd
            simp at hd
      rw [h1]
      rfl
    · rw [hat u hu, hat v hv]
      have h1 : (nx ps u s = v ↔ ¬ nx ps v s = u) := Q.edge u v hu hv ((G.near_iff hu hv).1 hn)
      intro h2
      by_cases h3 : nx ps u s = v
      · exact (h1.1 h3) (by have := h2.1 (by omega); omega)
      · have h4 : nx ps v s = u := Classical.byContradiction fun h5 => h3 (h1.2 h5)
        exact h3 (by have := h2.2 (by omega); omega)
/-- What a find makes of the arrows, k steps away from its sender. -/
def mixN (ps : List Int) (a s k : Nat) : List Int := (List.range ps.length).map fun v => if distL ps a v + distL ps v s = distL ps a s ∧ distL ps a v ≤ k then ((nx ps v a : Nat) : Int) else ((nx ps v s : Nat) : Int)
theorem set_map {n : Nat} {f g : Nat → Int} {i : Nat} {x : Int} (hi : i < n) (h1 : g i = x) (h2 : ∀ v, v < n → v ≠ i → g v = f v) : ((List.range n).map f).set i x = (List.range n).map g := by
  refine at_ext (by simp) fun v hv => ?_
  unfold at_
  by_cases e : v = i
  · subst e
    rw [List.getD_eq_getElem?_getD, List.getElem?_set_self (by simpa using hv), h1]
    rfl
  · rw [List.getD_eq_getElem?_getD, List.getElem?_set_ne (Ne.symm e), List.getElem?_map, List.getElem?_range hv, h2 v hv e]
    rfl
theorem Good.mix_zero (G : Good ps) {a s : Nat} (ha : a < ps.length) (hs : s < ps.length) : (towardN ps s).set a (a : Int) = mixN ps a s 0 := by
  refine set_map ha ?_ fun v hv hne => if_neg ?_
  · rw [if_pos ⟨by unfold distL; rw [dist_self]; omega, by unfold distL; rw [dist_self]; exact Nat.le_refl _⟩, G.nx_is.self a ha]
  · rintro ⟨_, h⟩
    exact hne (G.rt.dist_zero ha hv (by unfold distL at h; omega)).symm
/-- One node alone stands on the way at each step. -/
theorem Good.on_one (G : Good ps) {a s u v : Nat} (ha : a < ps.length) (hs : s < ps.length) (hu : u < ps.length) (hv : v < ps.length) (h1 : distL ps a u + distL ps u s = distL ps a s) (h2 : distL ps a v + distL ps v s = distL ps a s) (h3 : distL ps a u = distL ps a v) : u = v := by
  have W := G.way_path ha hs
  obtain ⟨i, hi⟩ := List.getElem?_of_mem ((W.mem G.rt ha hs u).2 ⟨hu, h1⟩)
  obtain ⟨j, hj⟩ := List.getElem?_of_mem ((W.mem G.rt ha hs v).2 ⟨hv, h2⟩)
  have e1 := W.dist_from G.rt ha hs i u hi
  have e2 := W.dist_from G.rt ha hs j v hj
  unfold distL at h3
  have e : i = j := by omega
  subst e
  rw [hi] at hj
  injection hj
theorem Good.mix_succ (G : Good ps) {a s p k : Nat} (ha : a < ps.length) (hs : s < ps.length) (hp : p < ps.length) (h1 : distL ps a p + distL ps p s = distL ps a s) (h2 : distL ps a p = k) (hne : p ≠ s) :
    nx ps p s < ps.length ∧ distL ps a (nx ps p s) = k + 1 ∧ distL ps a (nx ps p s) + distL ps (nx ps p s) s = distL ps a s ∧ at_ (mixN ps a s k) (nx ps p s) = ((nx ps (nx ps p s) s : Nat) : Int) ∧ (mixN ps a s k).set (nx ps p s) (p : Int) = mixN ps a s (k + 1) := by
  obtain ⟨q1, q2, q3, q4⟩ := G.nx_is.hop G.rt ha hs hp h1 hne
  have hk : distL ps a (nx ps p s) = k + 1 := by unfold distL at h2 ⊢; omega
  refine ⟨q1, hk, q3, ?_, set_map q1 ?_ fun v hv hvn => ?_⟩
  · unfold mixN
    rw [at_map q1, if_neg (by omega)]
  · rw [if_pos ⟨q3, by omega⟩, q4]
  · by_cases h5 : distL ps a v + distL ps v s = distL ps a s
    · by_cases h6 : distL ps a v ≤ k
      · rw [if_pos ⟨h5, by omega⟩, if_pos ⟨h5, h6⟩]
      · have h7 : ¬ distL ps a v ≤ k + 1 := fun h8 => hvn (G.on_one ha hs hv q1 h5 q3 (by omega))
        rw [if_neg (fun h => h7 h.2), if_neg (fun h => h6 h.2)]
    · rw [if_neg (fun h => h5 h.1), if_neg (fun h => h5 h.1)]
theorem Good.mix_full (G : Good ps) {a s : Nat} (ha : a < ps.length) (hs : s < ps.length) : mixN ps a s (distL ps a s) = towardN ps a := by
  unfold mixN towardN
  apply List.map_congr_left
  intro v hv
  have hv' := List.mem_range.1 hv
  by_cases h : distL ps a v + distL ps v s = distL ps a s
  · rw [if_pos ⟨h, by omega⟩]
  · rw [if_neg (fun h2 => h h2.1), G.nx_is.off G.rt ha hs hv' h]
end Go.Proofs.Ytcomiininaemhaa.Gr
