/- Lists of arrows: those that are legal, those that are quiet, what a find makes of them. -/
import Derived.Test.YtcomiininaemhaaZGra
import Derived.Test.YtcomiininaemhaaZGrd
import Derived.Test.YtcomiininaemhaaZNm
import Derived.Deep.QuietTactic
import Derived.BigQuiet
import Derived.Deep.DeepMust
namespace Go.Proofs.Ytcomiininaemhaa.Gr
set_option linter.unusedVariables false
variable {ps : List Int}
/-- The next node towards b; b itself there. -/
def nx (ps : List Int) (a b : Nat) : Nat := if a = b then b else nextN ps a b
theorem Good.nx_is (G : Good ps) : Nx ps.length (root ps) (par ps) (dep ps) (nx ps) where
  self := fun b _ => if_pos rfl
  lt := fun a b ha hb => by
    unfold nx
    split
    · exact hb
    · rename_i h; exact (G.nextN_is ha hb h).1
  nr := fun a b ha hb hab => by
    unfold nx
    rw [if_neg hab]
    obtain ⟨h1, h2, _⟩ := G.nextN_is ha hb hab
    exact (G.near_iff h1 ha).1 h2
  dn := fun a b ha hb hab => by
    unfold nx
    rw [if_neg hab]
    exact (G.nextN_is ha hb hab).2.2
theorem nextI_nx {a b : Nat} (ha : a < ps.length) (hb : b < ps.length) : nextI ps (a : Int) (b : Int) = (nx ps a b : Nat) := by
  unfold nextI nx
  rw [if_pos (by omega)]
  by_cases h : a = b
  · rw [if_pos (by omega), if_pos h]
  · rw [if_neg (by omega), if_neg h]
    rfl
def at_ (ar : List Int) (v : Nat) : Int := ar.getD v (-1)
theorem at_map {n : Nat} {f : Nat → Int} {v : Nat} (h : v < n) : at_ ((List.range n).map f) v = f v := by
  unfold at_
  rw [List.getD_eq_getElem?_getD, List.getElem?_map, List.getElem?_range h]
  rfl
theorem at_ext {n : Nat} {f : Nat → Int} {l : List Int} (hl : l.length = n) (h : ∀ v, v < n → at_ l v = f v) : l = (List.range n).map f := by
  apply List.ext_getElem?
  intro i
  rcases Nat.lt_or_ge i n with hi | hi
  · have h1 := h i hi
    unfold at_ at h1
    rw [List.getD_eq_getElem?_getD, List.getElem?_eq_getElem (by omega)] at h1
    rw [List.getElem?_map, List.getElem?_range hi, List.getElem?_eq_getElem (by omega)]
    simp at h1 ⊢
    exact h1
  · rw [List.getElem?_eq_none (by omega), List.getElem?_eq_none (by simp; omega)]
/-- All arrows lead to one node. -/
def towardN (ps : List Int) (s : Nat) : List Int := (List.range ps.length).map fun v => ((nx ps v s : Nat) : Int)
def towardI (ps : List Int) (h : Int) : List Int := if 0 ≤ h ∧ h < (ps.length : Int) then towardN ps h.toNat else []
theorem towardI_nat {s : Nat} (hs : s < ps.length) : towardI ps (s : Int) = towardN ps s := by
  unfold towardI
  rw [if_pos (by omega)]
  rfl
theorem towardN_len (s : Nat) : (towardN ps s).length = ps.length := by simp [towardN]
theorem towardN_at {s v : Nat} (hv : v < ps.length) : at_ (towardN ps s) v = ((nx ps v s : Nat) : Int) := at_map hv
def LegalL (ps ar : List Int) : Prop := ar.length = ps.length ∧ ∀ v, v < ps.length → 0 ≤ at_ ar v ∧ at_ ar v < (ps.length : Int) ∧ (at_ ar v = (v : Int) ∨ nearL ps v (at_ ar v).toNat = true)
def sinksN (ar : List Int) : List Nat := (List.range ar.length).filter fun v => decide (at_ ar v = (v : Int))
def sinksI (ar : List Int) : List Int := (sinksN ar).map fun v => ((v : Nat) : Int)
def EdgesL (ps ar : List Int) : Prop := ∀ u, u < ps.length → ∀ v, v < ps.length → u < v → nearL ps u v = true → ¬ (at_ ar u = (v : Int) ↔ at_ ar v = (u : Int))
def QuietL (ps ar : List Int) : Prop := LegalL ps ar ∧ (sinksN ar).length = 1 ∧ EdgesL ps ar
instance (ps ar : List Int) : Decidable (LegalL ps ar) := by unfold LegalL; exact inferInstance
instance (ps ar : List Int) : Decidable (EdgesL ps ar) := by unfold EdgesL; exact inferInstance
instance (ps ar : List Int) : Decidable (QuietL ps ar) := by unfold QuietL; exact inferInstance
theorem nearL_symm {a b : Nat} (h : nearL ps a b = true) : nearL ps b a = true := by
  unfold nearL at h ⊢
  rw [Bool.or_comm]
  exact h
theorem mem_sinks {ar : List Int} {v : Nat} : v ∈ sinksN ar ↔ v < ar.length ∧ at_ ar v = (v : Int) := by
  unfold sinksN
  rw [List.mem_filter, List.mem_range, decide_eq_true_eq]
theorem sinksN_nodup (ar : List Int) : (sinksN ar).Nodup := List.nodup_range.filter _
/-- What is quiet leads to one node, and what leads to one node is quiet. -/
theorem Good.quiet_iff (G : Good ps) {ar : List Int} : QuietL ps ar ↔ ∃ s, s < ps.length ∧ ar = towardN ps s := by
  constructor
  · rintro ⟨⟨hl, hok⟩, hs, he⟩
    obtain ⟨s, hse⟩ : ∃ s, sinksN ar = [s] := List.length_eq_one_iff.1 hs
    have hsm : s ∈ sinksN ar := by rw [hse]; simp
    obtain ⟨h1, h2⟩ := mem_sinks.1 hsm
    rw [hl] at h1
    have hfn : ∀ v, v < ps.length → (((at_ ar v).toNat : Nat) : Int) = at_ ar v := fun v hv => by have := (hok v hv).1; omega
    have Q : Qt ps.length (root ps) (par ps) (fun v => (at_ ar v).toNat) s := {
      lt := fun v hv => by have := hok v hv; omega
      lg := fun v hv => by
        obtain ⟨h3, h4, h5⟩ := hok v hv
        rcases h5 with h5 | h5
        · left; omega
        · right; exact (G.near_iff (by omega) hv).1 (nearL_symm h5)
      hs := h1
      sink := by show (at_ ar s).toNat = s; omega
      one := fun v hv h => by
        have h9 : (at_ ar v).toNat = v := h
        have h3 : v ∈ sinksN ar := mem_sinks.2 ⟨by omega, by have := hfn v hv; omega⟩
        rw [hse] at h3
        simpa using h3
      edge := fun u v hu hv hn => by
        have h3 := (G.near_iff hu hv).2 hn
        have hu' := hfn u hu
        have hv' := hfn v hv
        have hne : u ≠ v := fun e => by
          subst e
          rcases G.rt.step hu hv hu hn with h | h <;> omega
        show ((at_ ar u).toNat = v ↔ ¬ (at_ ar v).toNat = u)
        rcases Nat.lt_or_gt_of_ne hne with h | h
        · have h4 := he u hu v hv h h3
          constructor
          · intro h5 h6; exact h4 ⟨fun _ => by omega, fun _ => by omega⟩
          · intro h5
            exact Classical.byContradiction fun h6 => h4 ⟨fun h7 => absurd (by omega) h6, fun h7 => absurd (by omega) h5⟩
        · have h4 := he v hv u hu h (nearL_symm h3)
          constructor
          · intro h5 h6; exact h4 ⟨fun _ => by omega, fun _ => by omega⟩
          · intro h5
            exact Classical.byContradiction fun h6 => h4 ⟨fun h7 => absurd (by omega) h5, fun h7 => absurd (by omega) h6⟩ }
    refine ⟨s, h1, at_ext hl fun v hv => ?_⟩
    have h3 : (at_ ar v).toNat = nx ps v s := Q.toward G.rt G.nx_is v hv
    rw [← h3, hfn v hv]
  · rintro ⟨s, hs, rfl⟩
    have Q := G.nx_is.quiet G.rt hs
    have hat : ∀ v, v < ps.length → at_ (towardN ps s) v = ((nx ps v s : Nat) : Int) := fun v hv => towardN_at hv
    refine ⟨⟨towardN_len s, fun v hv => ?_⟩, ?_, fun u hu v hv huv hn => ?_⟩
    · rw [hat v hv]
      have h1 : nx ps v s < ps.length := Q.lt v hv
      refine ⟨by omega, by omega, ?_⟩
      rcases Q.lg v hv with h2 | h2
      · left; have h3 : nx ps v s = v := h2; rw [h3]
      · right; exact nearL_symm ((G.near_iff h1 hv).2 h2)
    · have h1 : sinksN (towardN ps s) = [s] := by
        have hm : ∀ v, v ∈ sinksN (towardN ps s) ↔ v = s := by
          intro v
          rw [mem_sinks, towardN_len]
          constructor
          · rintro ⟨h1, h2⟩
            rw [hat v h1] at h2
            exact Q.one v h1 (by show nx ps v s = v; omega)
          · rintro rfl
            refine ⟨hs, ?_⟩
            rw [hat v hs]
            have h3 : nx ps v v = v := Q.sink
            rw [h3]
        have hd := sinksN_nodup (towardN ps s)
        cases hc : sinksN (towardN ps s) with
        | nil => have := (hm s).2 rfl; rw [hc] at this; cases this
        | cons x l =>
          rw [hc] at hd hm
          have hx : x = s := (hm x).1 (by simp)
          cases l with
          | nil => rw [hx]
          | cons y l =>
            have hy : y = s := (hm y).1 (by simp)
            rw [hx, hy] at hd
            simp at hd
      rw [h1]
      rfl
    · rw [hat u hu, hat v hv]
      have h1 : (nx ps u s = v ↔ ¬ nx ps v s = u) := Q.edge u v hu hv ((G.near_iff hu hv).1 hn)
      intro h2
      by_cases h3 : nx ps u s = v
      · exact (h1.1 h3) (by have := h2.1 (by omega); omega)
      · have h4 : nx ps v s = u := Classical.byContradiction fun h5 => h3 (h1.2 h5)
        exact h3 (by have := h2.2 (by omega); omega)
/-- What a find makes of the arrows, k steps away from its sender. -/
def mixN (ps : List Int) (a s k : Nat) : List Int := (List.range ps.length).map fun v => if distL ps a v + distL ps v s = distL ps a s ∧ distL ps a v ≤ k then ((nx ps v a : Nat) : Int) else ((nx ps v s : Nat) : Int)
theorem set_map {n : Nat} {f g : Nat → Int} {i : Nat} {x : Int} (hi : i < n) (h1 : g i = x) (h2 : ∀ v, v < n → v ≠ i → g v = f v) : ((List.range n).map f).set i x = (List.range n).map g := by
  refine at_ext (by simp) fun v hv => ?_
  unfold at_
  by_cases e : v = i
  · subst e
    rw [List.getD_eq_getElem?_getD, List.getElem?_set_self (by simpa using hv), h1]
    rfl
  · rw [List.getD_eq_getElem?_getD, List.getElem?_set_ne (Ne.symm e), List.getElem?_map, List.getElem?_range hv, h2 v hv e]
    rfl
theorem Good.mix_zero (G : Good ps) {a s : Nat} (ha : a < ps.length) (hs : s < ps.length) : (towardN ps s).set a (a : Int) = mixN ps a s 0 := by
  refine set_map ha ?_ fun v hv hne => if_neg ?_
  · rw [if_pos ⟨by unfold distL; rw [dist_self]; omega, by unfold distL; rw [dist_self]; exact Nat.le_refl _⟩, G.nx_is.self a ha]
  · rintro ⟨_, h⟩
    exact hne (G.rt.dist_zero ha hv (by unfold distL at h; omega)).symm
/-- One node alone stands on the way at each step. -/
theorem Good.on_one (G : Good ps) {a s u v : Nat} (ha : a < ps.length) (hs : s < ps.length) (hu : u < ps.length) (hv : v < ps.length) (h1 : distL ps a u + distL ps u s = distL ps a s) (h2 : distL ps a v + distL ps v s = distL ps a s) (h3 : distL ps a u = distL ps a v) : u = v := by
  have W := G.way_path ha hs
  obtain ⟨i, hi⟩ := List.getElem?_of_mem ((W.mem G.rt ha hs u).2 ⟨hu, h1⟩)
  obtain ⟨j, hj⟩ := List.getElem?_of_mem ((W.mem G.rt ha hs v).2 ⟨hv, h2⟩)
  have e1 := W.dist_from G.rt ha hs i u hi
  have e2 := W.dist_from G.rt ha hs j v hj
  unfold distL at h3
  have e : i = j := by omega
  subst e
  rw [hi] at hj
  injection hj
theorem Good.mix_succ (G : Good ps) {a s p k : Nat} (ha : a < ps.length) (hs : s < ps.length) (hp : p < ps.length) (h1 : distL ps a p + distL ps p s = distL ps a s) (h2 : distL ps a p = k) (hne : p ≠ s) :
    nx ps p s < ps.length ∧ distL ps a (nx ps p s) = k + 1 ∧ distL ps a (nx ps p s) + distL ps (nx ps p s) s = distL ps a s ∧ at_ (mixN ps a s k) (nx ps p s) = ((nx ps (nx ps p s) s : Nat) : Int) ∧ (mixN ps a s k).set (nx ps p s) (p : Int) = mixN ps a s (k + 1) := by
  obtain ⟨q1, q2, q3, q4⟩ := G.nx_is.hop G.rt ha hs hp h1 hne
  have hk : distL ps a (nx ps p s) = k + 1 := by unfold distL at h2 ⊢; omega
  refine ⟨q1, hk, q3, ?_, set_map q1 ?_ fun v hv hvn => ?_⟩
  · unfold mixN
    rw [at_map q1, if_neg (by omega)]
  · rw [if_pos ⟨q3, by omega⟩, q4]
  · by_cases h5 : distL ps a v + distL ps v s = distL ps a s
    · by_cases h6 : distL ps a v ≤ k
      · rw [if_pos ⟨h5, by omega⟩, if_pos ⟨h5, h6⟩]
      · have h7 : ¬ distL ps a v ≤ k + 1 := fun h8 => hvn (G.on_one ha hs hv q1 h5 q3 (by omega))
        rw [if_neg (fun h => h7 h.2), if_neg (fun h => h6 h.2)]
    · rw [if_neg (fun h => h5 h.1), if_neg (fun h => h5 h.1)]
theorem Good.mix_full (G : Good ps) {a s : Nat} (ha : a < ps.length) (hs : s < ps.length) : mixN ps a s (distL ps a s) = towardN ps a := by
  unfold mixN towardN
  apply List.map_congr_left
  intro v hv
  have hv' := List.mem_range.1 hv
  by_cases h : distL ps a v + distL ps v s = distL ps a s
  · rw [if_pos ⟨h, by omega⟩]
  · rw [if_neg (fun h2 => h h2.1), G.nx_is.off G.rt ha hs hv' h]
end Go.Proofs.Ytcomiininaemhaa.Gr

/- The document's answer for arrows (fletchref12): Toward, Legal. -/
namespace Go.Proofs.Ytcomiininaemhaa.Pk
open Go.RowKit Go.Proofs.Ytcomiininaemhaa.Gr
set_option linter.unusedVariables false
/-- Numbers as they lie. -/
def Ints (l : List Int) : Prop := ∀ x ∈ l, -9223372036854775808 ≤ x ∧ x ≤ 9223372036854775807
theorem at_in {l : List Int} {v : Nat} (h : v < l.length) : at_ l v ∈ l := by
  unfold at_
  rw [List.getD_eq_getElem?_getD, List.getElem?_eq_getElem h]
  exact List.getElem_mem h
theorem at_get {l : List Int} {v : Nat} (h : v < l.length) : l.getD v 0 = at_ l v := by
  unfold at_
  rw [List.getD_eq_getElem?_getD, List.getD_eq_getElem?_getD, List.getElem?_eq_getElem h]
  rfl
theorem Reads.arr {w : World} {B : Nat} {A : Option Addr} {n : Nat} {l : List Int} (h : Reads w B 1 A n (nms l)) (hn : 0 < n) :
    ∃ b off, A = some ⟨b, off, none⟩ ∧ b < B ∧ ∀ v, v < n → w.cell? ⟨b, off + v, none⟩ = some (.int .i64 (Gr.at_ l v)) := by
  obtain ⟨b, off, e, hb, hc⟩ := h.i64 hn
  have hl := h.plen
  exact ⟨b, off, e, hb, fun v hv => by rw [hc v hv, at_get (by omega)]⟩
theorem toward_next {ps : List Int} {s k : Nat} (hk : k < ps.length) : (towardN ps s).take (k + 1) = (towardN ps s).take k ++ [((nx ps k s : Nat) : Int)] := by
  have hl := towardN_len (ps := ps) s
  rw [List.take_succ_eq_append_getElem (by omega)]
  congr 2
  have h1 := towardN_at (ps := ps) (s := s) hk
  unfold Gr.at_ at h1
  rw [List.getD_eq_getElem?_getD, List.getElem?_eq_getElem (by omega)] at h1
  exact h1
set_option maxHeartbeats 4000000 in
theorem reftoward_any (A : Option Addr) (n c : Nat) (ps : List Int) (h : Int) (w : World) (B : Nat) (hr : Reads w B 1 A n (nms ps)) (hB : B ≤ w.heap.size) (G : Gr.Good ps) (hh : -9223372036854775808 ≤ h ∧ h ≤ 9223372036854775807) :
    Calls Try.prog 19 #[.slice A n c, .int .i64 h] w fun e w' => ∃ v, e = .returned v ∧ OwnN w' w.heap.size v (towardI ps h) ∧ Below w.heap.size w w' := by
  have HL := Lib.hid hr.plen
  have HR := Lib.hid hr
  have hn : n ≤ 32 := by rw [← HL.out]; exact G.few
  clear hr
  by_cases h1 : h < 0
  · have HE : Hid (towardI ps h = []) := Lib.hid (if_neg (by omega))
    have t1 : decide (h < 0) = true := decide_eq_true h1
    go_enter Try.func19, Try.ntmps19
    go_wp2
    go_ret
    exact ⟨_, rfl, by rw [HE.out]; exact OwnN.none_ _ _, Below.refl _ _⟩
  by_cases h2 : h < (n : Int)
  case neg =>
    have HE : Hid (towardI ps h = []) := Lib.hid (if_neg (by rw [HL.out]; omega))
    have t1 : decide (h < 0) = false := decide_eq_false h1
    have t2 : decide ((n : Int) ≤ h) = true := decide_eq_true (by omega)
    go_enter Try.func19, Try.ntmps19
    go_wp2
    go_ret
    exact ⟨_, rfl, by rw [HE.out]; exact OwnN.none_ _ _, Below.refl _ _⟩
  case pos =>
  obtain ⟨s, rfl⟩ : ∃ s : Nat, h = (s : Int) := ⟨h.toNat, by omega⟩
  have HS : Hid (s < ps.length) := Lib.hid (by rw [HL.out]; omega)
  have HE : Hid (towardI ps (s : Int) = towardN ps s) := Lib.hid (towardI_nat HS.out)
  have HLn : Hid ((towardN ps s).length = n) := Lib.hid ((towardN_len s).trans HL.out)
  have hsn : s < n := by omega
  have t1 : decide ((s : Int) < 0) = false := decide_eq_false h1
  have t2 : decide (n ≤ s) = false := decide_eq_false (by omega)
  have HN := Lib.hid (fun (v : Nat) (hv : v < n) => nextI_nx (ps := ps) (a := v) (b := s) (by rw [HL.out]; exact hv) HS.out)
  clear h1 h2
  go_enter Try.func19, Try.ntmps19
  go_wp2
  go_loopw [5, 6, 18] (fun x _ j wr => ∃ i : Nat, j = .int .i64 i ∧ i ≤ n ∧ OwnN wr w.heap.size x ((towardN ps s).take i) ∧ Below w.heap.size w wr) (fun _ _ j _ => n - (intOf j).toNat)
  case atStart => exact ⟨0, rfl, by omega, OwnN.none_ _ _, Below.refl _ _⟩
  case round =>
    obtain ⟨i, rfl, hi, hown, hb⟩ := hrel
    obtain ⟨w1, rfl⟩ : ∃ w1 : World, w1 = wr := ⟨_, rfl⟩
    have HO := Lib.hid hown
    have HBw := Lib.hid hb
    clear hown hb
    by_cases hlt : i < n
    · have HNx := Lib.hid (toward_next (ps := ps) (s := s) (k := i) (by rw [HL.out]; exact hlt))
      have hc := next_any A n c ps (i : Int) (s : Int) w1 B (HR.out.below (HBw.out.mono hB)) (Nat.le_trans hB HBw.out.size) G
      rw [HN.out i hlt] at hc
      have HC := Lib.hid hc
      obtain ⟨y, hy⟩ : ∃ y, y = nx ps i s := ⟨_, rfl⟩
      rw [← hy] at HC HNx
      have HTk : Hid (((towardN ps s).take i).length ≤ 32) := Lib.hid (by rw [List.length_take]; omega)
      clear hc hy
      go_wp2_with fail
      refine HC.out.mono ?_
      rintro e w2 ⟨rfl, hb2⟩
      have HO2 := Lib.hid (HO.out.below hb2)
      have HB2 := Lib.hid (HBw.out.trans (hb2.mono HBw.out.size))
      clear hb2
      go_wp2_with (at_builtin; refine appN w2 (y : Int) _ rfl (.tmp 21) (.tmp 26) rfl w.heap.size _ ((towardN ps s).take i) rfl HO2.out w2.heap.size rfl rfl (by have := HTk.out; omega) HB2.out.size ?_; intro v3 w3 hown3 hb3 _; have HO3 := Lib.hid hown3; have HB3 := Lib.hid (HB2.out.trans hb3); clear hown3 hb3)
      go_roundw
      case rel => exact ⟨i + 1, by go_num, by omega, by rw [HNx.out]; exact HO3.out, HB3.out⟩
      case measure => simp [intOf]; omega
    · have HF : Hid ((towardN ps s).take i = towardN ps s) := Lib.hid (List.take_of_length_le (by rw [HLn.out]; omega))
      rw [HF.out] at HO
      go_wp2
      go_ret
      exact ⟨_, rfl, by rw [HE.out]; exact HO.out, HBw.out⟩
/-- Legal so far. -/
def LegalTo (ps ar : List Int) (k : Nat) : Prop := ∀ v, v < k → 0 ≤ Gr.at_ ar v ∧ Gr.at_ ar v < (ps.length : Int) ∧ (Gr.at_ ar v = (v : Int) ∨ nearL ps v (Gr.at_ ar v).toNat = true)
theorem LegalTo.next {ps ar : List Int} {k : Nat} (h : LegalTo ps ar k) (hk : 0 ≤ Gr.at_ ar k ∧ Gr.at_ ar k < (ps.length : Int) ∧ (Gr.at_ ar k = (k : Int) ∨ nearL ps k (Gr.at_ ar k).toNat = true)) : LegalTo ps ar (k + 1) := by
  intro v hv
  by_cases e : v = k
  · rw [e]; exact hk
  · exact h v (by omega)
set_option maxHeartbeats 4000000 in
theorem reflegal_any (A : Option Addr) (n c : Nat) (ps : List Int) (A' : Option Addr) (n' c' : Nat) (ar : List Int) (w : World) (B : Nat) (hr : Reads w B 1 A n (nms ps)) (hr' : Reads w B 1 A' n' (nms ar)) (hn : n ≤ 32) (hn' : n' ≤ 17592186044416) (hi : Ints ar) :
    Calls Try.prog 20 #[.slice A n c, .slice A' n' c'] w fun e w' => e = .returned (.bool (decide (LegalL ps ar))) ∧ w' = w := by
  obtain ⟨r, hr9⟩ : ∃ r, r = decide (LegalL ps ar) := ⟨_, rfl⟩
  rw [← hr9]
  have HF : Hid (¬ LegalL ps ar → r = false) := Lib.hid (fun h => by rw [hr9]; exact decide_eq_false h)
  have HT : Hid (LegalL ps ar → r = true) := Lib.hid (fun h => by rw [hr9]; exact decide_eq_true h)
  clear hr9
  have HL := Lib.hid hr.plen
  have HL' := Lib.hid hr'.plen
  have HR := Lib.hid hr
  have HR' := Lib.hid hr'
  have HI := Lib.hid hi
  clear hr hr' hi
  by_cases h1 : n' = n
  case neg =>
    have t1 : ((n' : Int) == (n : Int)) = false := by simp; omega
    have hrf : r = false := HF.out (fun h => h1 (by have := h.1; rw [HL.out, HL'.out] at this; exact this))
    clear h1
    go_enter Try.func20, Try.ntmps20
    go_wp2
    go_ret
    exact ⟨by first | rfl | (rw [hrf]; rfl), rfl⟩
  case pos =>
  subst h1
  go_enter Try.func20, Try.ntmps20
  go_wp2
  go_loop [5, 6, 14] (fun _ _ j => ∃ i : Nat, j = .int .i64 i ∧ i ≤ n' ∧ LegalTo ps ar i) (fun _ _ j => n' - (intOf j).toNat)
  case atStart => exact ⟨0, rfl, by omega, fun v hv => by omega⟩
  case round =>
    obtain ⟨i, rfl, hi, hle⟩ := hrel
    have HLe := Lib.hid hle
    clear hle
    by_cases hlt : i < n'
    · obtain ⟨b, off, rfl, _, hc⟩ := HR'.out.arr (by omega)
      have cx := hc i hlt
      have hx := HI.out _ (at_in (l := ar) (v := i) (by rw [HL'.out]; exact hlt))
      obtain ⟨x, hxe⟩ : ∃ x, x = Gr.at_ ar i := ⟨_, rfl⟩
      rw [← hxe] at cx hx
      have HXe := Lib.hid hxe
      clear hc hxe
      by_cases g1 : x < 0
      · have t1 : decide (x < 0) = true := decide_eq_true g1
        have hrf : r = false := HF.out (fun h => by have := (h.2 i (by rw [HL.out]; exact hlt)).1; rw [← HXe.out] at this; omega)
        clear g1
        go_wp2
        go_ret
        exact ⟨by first | rfl | (rw [hrf]; rfl), rfl⟩
      have t1 : decide (x < 0) = false := decide_eq_false g1
      by_cases g2 : (n' : Int) ≤ x
      · have t2 : decide ((n' : Int) ≤ x) = true := decide_eq_true g2
        have hrf : r = false := HF.out (fun h => by have := (h.2 i (by rw [HL.out]; exact hlt)).2.1; rw [← HXe.out, HL.out] at this; omega)
        clear g1 g2
        go_wp2
        go_ret
        exact ⟨by first | rfl | (rw [hrf]; rfl), rfl⟩
      have t2 : decide ((n' : Int) ≤ x) = false := decide_eq_false g2
      by_cases g3 : x = (i : Int)
      · subst g3
        have HNx := Lib.hid (HLe.out.next (by rw [← HXe.out]; exact ⟨by omega, by rw [HL.out]; omega, .inl rfl⟩))
        clear g1 g2
        go_wp2
        go_round
        case rel => exact ⟨i + 1, by go_num, by omega, HNx.out⟩
        case measure => simp [intOf]; omega
      have t3 : (x == (i : Int)) = false := by simpa using g3
      obtain ⟨y, rfl⟩ : ∃ y : Nat, x = (y : Int) := ⟨x.toNat, by omega⟩
      have hyn : y < n' := by omega
      have hyi : ¬ (y = i) := by omega
      have t4 : ((y : Int) != (i : Int)) = true := by simp; omega
      have HNr := Lib.hid (near_any A n' c ps i y w B HR.out hlt hyn)
      by_cases g4 : nearL ps i y = true
      · have HNx := Lib.hid (HLe.out.next (by rw [← HXe.out]; exact ⟨by omega, by rw [HL.out]; omega, .inr (by simpa using g4)⟩))
        rw [g4] at HNr
        clear g1 g2 g3 g4
        go_wp2_with fail
        refine HNr.out.mono ?_
        rintro e w2 ⟨rfl, hw⟩
        rw [hw]
        clear hw w2
        go_wp2
        go_round
        case rel => exact ⟨i + 1, by go_num, by omega, HNx.out⟩
        case measure => simp [intOf]; omega
      · have hrf : r = false := HF.out (fun h => by
          have h3 := (h.2 i (by rw [HL.out]; exact hlt)).2.2
          rw [← HXe.out] at h3
          rcases h3 with h3 | h3
          · exact g3 h3
          · exact g4 (by simpa using h3))
        have g5 : nearL ps i y = false := by simpa using g4
        rw [g5] at HNr
        clear g1 g2 g3 g4 g5
        go_wp2_with fail
        refine HNr.out.mono ?_
        rintro e w2 ⟨rfl, hw⟩
        rw [hw]
        clear hw w2
        go_wp2
        go_ret
        exact ⟨by first | rfl | (rw [hrf]; rfl), rfl⟩
    · have hrt : r = true := HT.out ⟨by rw [HL.out, HL'.out], fun v hv => HLe.out v (by rw [HL.out] at hv; omega)⟩
      go_wp2
      go_ret
      exact ⟨by first | rfl | (rw [hrt]; rfl), rfl⟩
end Go.Proofs.Ytcomiininaemhaa.Pk

/- The document's answer for arrows (fletchref12): Quiet. -/
namespace Go.Proofs.Ytcomiininaemhaa.Pk
open Go.RowKit Go.Proofs.Ytcomiininaemhaa.Gr
set_option linter.unusedVariables false
/-- How many of the first k are sinks. -/
def sinksTo (ar : List Int) (k : Nat) : Nat := ((List.range k).filter fun v => decide (Gr.at_ ar v = (v : Int))).length
theorem sinksTo_succ (ar : List Int) (k : Nat) : sinksTo ar (k + 1) = sinksTo ar k + (if Gr.at_ ar k = (k : Int) then 1 else 0) := by
  unfold sinksTo
  rw [List.range_succ, List.filter_append, List.length_append]
  congr 1
  by_cases h : Gr.at_ ar k = (k : Int)
  · simp [h]
  · simp [h]
theorem sinksTo_all (ar : List Int) : sinksTo ar ar.length = (sinksN ar).length := rfl
theorem sinksTo_le (ar : List Int) (k : Nat) : sinksTo ar k ≤ k := by
  unfold sinksTo
  exact Nat.le_trans (List.length_filter_le _ _) (by simp)
def EdgeOk (ps ar : List Int) (u v : Nat) : Prop := u < v → nearL ps u v = true → ¬ (Gr.at_ ar u = (v : Int) ↔ Gr.at_ ar v = (u : Int))
def RowOk (ps ar : List Int) (u k : Nat) : Prop := ∀ v, v < k → EdgeOk ps ar u v
theorem RowOk.next {ps ar : List Int} {u k : Nat} (h : RowOk ps ar u k) (hk : EdgeOk ps ar u k) : RowOk ps ar u (k + 1) := by
  intro v hv
  by_cases e : v = k
  · rw [e]; exact hk
  · exact h v (by omega)
def RowsOk (ps ar : List Int) (k : Nat) : Prop := ∀ u, u < k → RowOk ps ar u ps.length
theorem RowsOk.next {ps ar : List Int} {k : Nat} (h : RowsOk ps ar k) (hk : RowOk ps ar k ps.length) : RowsOk ps ar (k + 1) := by
  intro u hu
  by_cases e : u = k
  · rw [e]; exact hk
  · exact h u (by omega)
set_option maxRecDepth 100000 in
set_option maxHeartbeats 4000000 in
theorem refquiet_any (A : Option Addr) (n c : Nat) (ps : List Int) (A' : Option Addr) (n' c' : Nat) (ar : List Int) (w : World) (B : Nat) (hr : Reads w B 1 A n (nms ps)) (hr' : Reads w B 1 A' n' (nms ar)) (hB : B ≤ w.heap.size) (hn : n ≤ 32) (hn' : n' ≤ 17592186044416) (hi : Ints ar) :
    Calls Try.prog 21 #[.slice A n c, .slice A' n' c'] w fun e w' => e = .returned (.bool (decide (QuietL ps ar))) ∧ Below w.heap.size w w' := by
  have HL := Lib.hid hr.plen
  have HL' := Lib.hid hr'.plen
  have HR := Lib.hid hr
  have HR' := Lib.hid hr'
  have HI := Lib.hid hi
  have HLg := Lib.hid (reflegal_any A n c ps A' n' c' ar w B hr hr' hn hn' hi)
  clear hr hr' hi
  obtain ⟨r, hr9⟩ : ∃ r, r = decide (QuietL ps ar) := ⟨_, rfl⟩
  rw [← hr9]
  have HF : Hid (¬ QuietL ps ar → r = false) := Lib.hid (fun h => by rw [hr9]; exact decide_eq_false h)
  have HT : Hid (QuietL ps ar → r = true) := Lib.hid (fun h => by rw [hr9]; exact decide_eq_true h)
  clear hr9
  by_cases h1 : LegalL ps ar
  case neg =>
    rw [decide_eq_false h1] at HLg
    have hrf : r = false := HF.out (fun h => h1 h.1)
    clear h1
    go_enter Try.func21, Try.ntmps21
    go_wp2_with fail
    refine HLg.out.mono ?_
    rintro e w2 ⟨rfl, hw⟩
    rw [hw]
    clear hw w2
    go_wp2
    go_ret
    exact ⟨by first | rfl | (rw [hrf]; rfl), Below.refl _ _⟩
  case pos =>
  rw [decide_eq_true h1] at HLg
  have hnn : n' = n := by have := h1.1; rw [HL.out, HL'.out] at this; exact this
  subst hnn
  have HLe := Lib.hid h1
  clear h1
  go_enter Try.func21, Try.ntmps21
  go_wp2_with fail
  refine HLg.out.mono ?_
  rintro e w2 ⟨rfl, hw⟩
  rw [hw]
  clear hw w2
  go_wp2
  go_loop [5, 6, 7, 16] (fun s _ _ j => ∃ i : Nat, j = .int .i64 i ∧ i ≤ n' ∧ s = .int .i64 ((sinksTo ar i : Nat) : Int)) (fun _ _ _ j => n' - (intOf j).toNat)
  case atStart => exact ⟨0, rfl, by omega, rfl⟩
  case round =>
    obtain ⟨i, rfl, hi, rfl⟩ := hrel
    have hle := sinksTo_le ar i
    have HS := Lib.hid (sinksTo_succ ar i)
    obtain ⟨q, hq⟩ : ∃ q, q = sinksTo ar i := ⟨_, rfl⟩
    rw [← hq] at hle HS ⊢
    have HQ := Lib.hid hq
    clear hq
    by_cases hlt : i < n'
    · obtain ⟨b, off, rfl, _, hc⟩ := HR'.out.arr (by omega)
      have cx := hc i hlt
      obtain ⟨x, hxe⟩ : ∃ x, x = Gr.at_ ar i := ⟨_, rfl⟩
      rw [← hxe] at cx HS
      clear hc hxe
      by_cases hx : x = (i : Int)
      · rw [if_pos hx] at HS
        subst hx
        go_wp2
        go_round
        case rel => exact ⟨i + 1, by go_num, by omega, by rw [HS.out]; rfl⟩
        case measure => simp [intOf]; omega
      · rw [if_neg hx] at HS
        have t1 : (x == (i : Int)) = false := by simpa using hx
        clear hx
        go_wp2
        go_round
        case rel => exact ⟨i + 1, by go_num, by omega, by rw [HS.out]; rfl⟩
        case measure => simp [intOf]; omega
    · have HSk : Hid (q = (sinksN ar).length) := Lib.hid (by rw [HQ.out, ← sinksTo_all, HL'.out]; congr 1; omega)
      clear HS HQ hle
      go_wp2
      go_loopw [8, 29] (fun _ j wr => ∃ u : Nat, j = .int .i64 u ∧ u ≤ n' ∧ RowsOk ps ar u ∧ Below w.heap.size w wr) (fun _ j _ => n' - (intOf j).toNat)
      case atStart => exact ⟨0, rfl, by omega, fun u hu => by omega, Below.refl _ _⟩
      case round =>
        obtain ⟨u, rfl, hu, hrows, hbel⟩ := hrel
        have HRo := Lib.hid hrows
        have HBu := Lib.hid hbel
        clear hrows hbel
        obtain ⟨w1, rfl⟩ : ∃ w1 : World, w1 = wr := ⟨_, rfl⟩
        by_cases hlu : u < n'
        · have HUn := Lib.hid hlu
          go_wp2
          go_loopw [9, 34] (fun _ j wr => ∃ v : Nat, j = .int .i64 v ∧ v ≤ n' ∧ RowOk ps ar u v ∧ Below w.heap.size w wr) (fun _ j _ => n' - (intOf j).toNat)
          case atStart => exact ⟨0, rfl, by omega, fun v hv => by omega, HBu.out⟩
          case round =>
            obtain ⟨v, rfl, hv, hrow, hbel⟩ := hrel
            have HRw := Lib.hid hrow
            have HBv := Lib.hid hbel
            clear hrow hbel
            obtain ⟨w2, rfl⟩ : ∃ w2 : World, w2 = wr := ⟨_, rfl⟩
            by_cases hlv : v < n'
            · obtain ⟨b, off, rfl, _, hc⟩ := (HR'.out.below (HBv.out.mono hB)).arr (by omega)
              have cu := hc u hlu
              have cv := hc v hlv
              obtain ⟨x, hxe⟩ : ∃ x, x = Gr.at_ ar u := ⟨_, rfl⟩
              obtain ⟨y, hye⟩ : ∃ y, y = Gr.at_ ar v := ⟨_, rfl⟩
              rw [← hxe] at cu
              rw [← hye] at cv
              have HXe := Lib.hid hxe
              have HYe := Lib.hid hye
              clear hc hxe hye
              have HQ : Hid (∀ q, Calls Try.prog 36 #[.slice A n' c, .int .i64 (u : Int), .int .i64 (v : Int)] (w2.drewN q) fun e w' => e = .returned (.bool (nearL ps u v)) ∧ w' = w2.drewN q) :=
                Lib.hid fun q => near_any A n' c ps u v (w2.drewN q) B ((HR.out.below (HBv.out.mono hB)).drewN q) hlu hlv
              by_cases g1 : u < v
              case neg =>
                have t1 : decide (u < v) = false := decide_eq_false g1
                have HNx := Lib.hid (HRw.out.next (fun h => absurd h g1))
                clear g1
                go_wp2
                go_quiet ((go_at_call 36; exact Calls.quiet_of_same (HQ.out _)))
                go_wp2
                go_roundw
                case rel => exact ⟨v + 1, by go_num, by omega, HNx.out, bel_dn HBv.out _⟩
                case measure => simp [intOf]; omega
              case pos =>
              have t1 : decide (u < v) = true := decide_eq_true g1
              by_cases g2 : nearL ps u v = true
              case neg =>
                have HNx := Lib.hid (HRw.out.next (fun _ h => absurd h g2))
                have g3 : nearL ps u v = false := by simpa using g2
                rw [g3] at HQ
                clear g1 g2 g3
                go_wp2
                go_quiet ((go_at_call 36; exact Calls.quiet_of_same (HQ.out _)))
                go_wp2
                go_roundw
                case rel => exact ⟨v + 1, by go_num, by omega, HNx.out, bel_dn HBv.out _⟩
                case measure => simp [intOf]; omega
              case pos =>
              by_cases g3 : (x = (v : Int) ↔ y = (u : Int))
              case pos =>
                have hrf : r = false := HF.out (fun h => h.2.2 u (by rw [HL.out]; exact hlu) v (by rw [HL.out]; exact hlv) g1 g2 (by rw [← HXe.out, ← HYe.out]; exact g3))
                rw [g2] at HQ
                have t2 : ((x == (v : Int)) == (y == (u : Int))) = true := by
                  by_cases e1 : x = (v : Int)
                  · rw [(show (x == (v : Int)) = true by simpa using e1), (show (y == (u : Int)) = true by simpa using g3.1 e1)]; rfl
                  · have e2 : ¬ y = (u : Int) := fun h => e1 (g3.2 h)
                    rw [(show (x == (v : Int)) = false by simpa using e1), (show (y == (u : Int)) = false by simpa using e2)]; rfl
                clear g1 g2 g3
                go_wp2
                go_quiet ((go_at_call 36; exact Calls.quiet_of_same (HQ.out _)))
                go_wp2
                go_ret
                exact ⟨by first | rfl | (rw [hrf]; rfl), bel_dn HBv.out _⟩
              case neg =>
                have HNx := Lib.hid (HRw.out.next (fun _ _ h => g3 (by rw [HXe.out, HYe.out]; exact h)))
                rw [g2] at HQ
                have t2 : ((x == (v : Int)) == (y == (u : Int))) = false := by
                  by_cases e1 : x = (v : Int)
                  · have e2 : ¬ y = (u : Int) := fun h => g3 ⟨fun _ => h, fun _ => e1⟩
                    rw [(show (x == (v : Int)) = true by simpa using e1), (show (y == (u : Int)) = false by simpa using e2)]; rfl
                  · have e2 : y = (u : Int) := Classical.byContradiction fun h => g3 ⟨fun h2 => absurd h2 e1, fun h2 => absurd h2 h⟩
                    rw [(show (x == (v : Int)) = false by simpa using e1), (show (y == (u : Int)) = true by simpa using e2)]; rfl
                clear g1 g2 g3
                go_wp2
                go_quiet ((go_at_call 36; exact Calls.quiet_of_same (HQ.out _)))
                go_wp2
                go_roundw
                case rel => exact ⟨v + 1, by go_num, by omega, HNx.out, bel_dn HBv.out _⟩
                case measure => simp [intOf]; omega
            · have HNx : Hid (RowsOk ps ar (u + 1)) := Lib.hid (HRo.out.next (by have h1 := HRw.out; rwa [show v = ps.length by rw [HL.out]; omega] at h1))
              go_wp2
              go_roundw
              case rel => exact ⟨u + 1, by go_num, by omega, HNx.out, HBv.out⟩
              case measure => simp [intOf]; omega
        · have HE : Hid (EdgesL ps ar) := Lib.hid (fun a ha b hb hab hn => HRo.out a (by rw [HL.out] at ha; omega) b hb hab hn)
          by_cases hq : q = 1
          · have hrt : r = true := HT.out ⟨HLe.out, by rw [← HSk.out]; exact hq, HE.out⟩
            subst hq
            go_wp2
            go_ret
            exact ⟨by first | rfl | (rw [hrt]; rfl), HBu.out⟩
          · have hrf : r = false := HF.out (fun h => hq (by rw [HSk.out]; exact h.2.1))
            have t1 : ((q : Int) == 1) = false := by simp; omega
            clear hq
            go_wp2
            go_ret
            exact ⟨by first | rfl | (rw [hrf]; rfl), HBu.out⟩
end Go.Proofs.Ytcomiininaemhaa.Pk

/- The document's answer for arrows (fletchref12): Run. -/
namespace Go.Proofs.Ytcomiininaemhaa.Gr
set_option linter.unusedVariables false
variable {ps : List Int}
theorem Good.sinks_toward (G : Good ps) {s : Nat} (hs : s < ps.length) : sinksN (towardN ps s) = [s] := by
  obtain ⟨x, hx⟩ := List.length_eq_one_iff.1 (G.quiet_iff.2 ⟨s, hs, rfl⟩).2.1
  have hm : x ∈ sinksN (towardN ps s) := by rw [hx]; simp
  obtain ⟨h1, h2⟩ := mem_sinks.1 hm
  rw [towardN_len] at h1
  rw [towardN_at h1] at h2
  have h3 : x = s := (G.nx_is.quiet G.rt hs).one x h1 (by show nx ps x s = x; omega)
  rw [hx, h3]
/-- What a whole find answers. -/
def runI (ps ar : List Int) (f : Int) : List Int × Int := if QuietL ps ar ∧ 0 ≤ f ∧ f < (ps.length : Int) then (towardN ps f.toNat, (((sinksN ar).headD 0 : Nat) : Int)) else ([], -1)
theorem Good.runI_yes (G : Good ps) {s a : Nat} (hs : s < ps.length) (ha : a < ps.length) : runI ps (towardN ps s) (a : Int) = (towardN ps a, (s : Int)) := by
  unfold runI
  rw [if_pos ⟨G.quiet_iff.2 ⟨s, hs, rfl⟩, by omega, by omega⟩, G.sinks_toward hs]
  rfl
end Go.Proofs.Ytcomiininaemhaa.Gr
namespace Go.Proofs.Ytcomiininaemhaa.Pk
open Go.RowKit Go.Proofs.Ytcomiininaemhaa.Gr
set_option linter.unusedVariables false
theorem OwnN.lowN {w : World} {B B' : Nat} {v : Value} {l : List Int} (h : OwnN w B v l) (hB : B' ≤ B) : OwnN w B' v l := by
  obtain ⟨h1, h2⟩ := h
  refine ⟨h1, ?_⟩
  rcases h2 with h2 | ⟨g, cap, cur, rfl, hb, hr⟩
  · exact .inl h2
  · exact .inr ⟨g, cap, cur, rfl, by omega, hr⟩
theorem OwnN.row_ {w : World} {B : Nat} {v : Value} {l : List Int} (h : OwnN w B v l) (h0 : 0 < l.length) : ∃ g c, v = .slice (some ⟨g, 0, none⟩) l.length c := by
  obtain ⟨h1, ⟨e, e2⟩ | ⟨g, cap, cur, e, _⟩⟩ := h
  · omega
  · exact ⟨g, cap, e⟩
set_option maxRecDepth 100000 in
set_option maxHeartbeats 4000000 in
theorem refrun_any (A : Option Addr) (n c : Nat) (ps : List Int) (A' : Option Addr) (n' c' : Nat) (ar : List Int) (f : Int) (w : World) (B : Nat) (hr : Reads w B 1 A n (nms ps)) (hr' : Reads w B 1 A' n' (nms ar)) (hB : B ≤ w.heap.size) (G : Gr.Good ps) (hn' : n' ≤ 17592186044416) (hi : Ints ar)
    (hf : -9223372036854775808 ≤ f ∧ f ≤ 9223372036854775807) :
    Calls Try.prog 23 #[.slice A n c, .slice A' n' c', .int .i64 f] w fun e w' => ∃ v, e = .returned (.tuple #[v, .int .i64 (runI ps ar f).2]) ∧ OwnN w' w.heap.size v (runI ps ar f).1 ∧ Below w.heap.size w w' := by
  have HL := Lib.hid hr.plen
  have HL' := Lib.hid hr'.plen
  have hn : n ≤ 32 := by rw [← HL.out]; exact G.few
  have HR' := Lib.hid hr'
  have HQu := Lib.hid (refquiet_any A n c ps A' n' c' ar w B hr hr' hB hn hn' hi)
  clear hr hr' hi
  by_cases h1 : QuietL ps ar
  case neg =>
    rw [decide_eq_false h1] at HQu
    have HE : Hid (runI ps ar f = ([], -1)) := Lib.hid (if_neg (fun h => h1 h.1))
    rw [HE.out]
    clear h1
    go_enter Try.func23, Try.ntmps23
    go_wp2_with fail
    refine HQu.out.mono ?_
    rintro e w2 ⟨rfl, hb2⟩
    have HB2 := Lib.hid hb2
    clear hb2
    go_wp2
    exact bodyPost_ret (v := .tuple #[.slice none 0 0, .int .i64 (-1)]) (by simp [results, Try.f23, go_sem]) rfl ⟨.slice none 0 0, rfl, OwnN.none_ _ _, HB2.out⟩
  case pos =>
  rw [decide_eq_true h1] at HQu
  by_cases h2 : f < 0
  case pos =>
    have t1 : decide (f < 0) = true := decide_eq_true h2
    have HE : Hid (runI ps ar f = ([], -1)) := Lib.hid (if_neg (fun h => by omega))
    rw [HE.out]
    clear h1 h2
    go_enter Try.func23, Try.ntmps23
    go_wp2_with fail
    refine HQu.out.mono ?_
    rintro e w2 ⟨rfl, hb2⟩
    have HB2 := Lib.hid hb2
    clear hb2
    go_wp2
    exact bodyPost_ret (v := .tuple #[.slice none 0 0, .int .i64 (-1)]) (by simp [results, Try.f23, go_sem]) rfl ⟨.slice none 0 0, rfl, OwnN.none_ _ _, HB2.out⟩
  case neg =>
  have t1 : decide (f < 0) = false := decide_eq_false h2
  obtain ⟨s, hs, rfl⟩ := G.quiet_iff.1 h1
  have hnn : n' = n := by rw [← HL'.out, ← HL.out]; exact towardN_len s
  subst hnn
  by_cases h3 : (n' : Int) ≤ f
  case pos =>
    have t2 : decide ((n' : Int) ≤ f) = true := decide_eq_true h3
    have HE : Hid (runI ps (towardN ps s) f = ([], -1)) := Lib.hid (if_neg (fun h => by have := h.2.2; rw [HL.out] at this; omega))
    rw [HE.out]
    clear h1 h2
    go_enter Try.func23, Try.ntmps23
    go_wp2_with fail
    refine HQu.out.mono ?_
    rintro e w2 ⟨rfl, hb2⟩
    have HB2 := Lib.hid hb2
    clear hb2
    go_wp2
    exact bodyPost_ret (v := .tuple #[.slice none 0 0, .int .i64 (-1)]) (by simp [results, Try.f23, go_sem]) rfl ⟨.slice none 0 0, rfl, OwnN.none_ _ _, HB2.out⟩
  case neg =>
  obtain ⟨a, rfl⟩ : ∃ a : Nat, f = (a : Int) := ⟨f.toNat, by omega⟩
  have han : a < n' := by omega
  have ha : a < ps.length := by rw [HL.out]; exact han
  have t2 : decide (n' ≤ a) = false := decide_eq_false (by omega)
  rw [G.runI_yes hs ha]
  have Ha := Lib.hid ha
  have Hs := Lib.hid hs
  have HG := Lib.hid G
  have HTl : Hid ((towardN ps s).length = n') := Lib.hid HL'.out
  have HMl : Hid (∀ k, (mixN ps a s k).length = n') := Lib.hid (fun k => by simp [mixN, HL.out])
  clear h1 h2 h3 ha hs G
  go_enter Try.func23, Try.ntmps23
  go_wp2_with fail
  refine HQu.out.mono ?_
  rintro e w2 ⟨rfl, hb2⟩
  have HB2 := Lib.hid hb2
  have HR2 := Lib.hid (HR'.out.below (hb2.mono hB))
  have hB2 := Nat.le_trans hB hb2.size
  clear hb2
  go_wp2_with (at_builtin; refine appNE w2 rfl (.tmp 26) (.tmp 27) rfl rfl B A' c' (towardN ps s) n' rfl HR2.out hB2 (by omega) ?_; intro v3 w3 ho3 hb3; obtain ⟨g, c3, rfl⟩ := ho3.row_ (by rw [HTl.out]; omega); rw [HTl.out] at ho3 ⊢; have HO3 := Lib.hid ho3; have HB3 := Lib.hid (HB2.out.trans (hb3.mono HB2.out.size)); obtain ⟨_, hg1, hg2, hg3, hg4⟩ := ho3.at_; have cx : w3.cell? ⟨g, a, none⟩ = some (.int .i64 ((nx ps a s : Nat) : Int)) := by { rw [hg3 a han, at_get (by rw [HTl.out]; exact han), towardN_at Ha.out] }; have fz := hg4 a; clear ho3 hb3 hg1 hg2 hg3 hg4)
  have HO4 : Hid (OwnN (w3.setCell ⟨g, a, none⟩ (.int .i64 (a : Int))) w2.heap.size (.slice (some ⟨g, 0, none⟩) n' c3) (mixN ps a s 0)) := Lib.hid (by rw [← HG.out.mix_zero Ha.out Hs.out]; exact HO3.out.set_ a (a : Int))
  have HB4 : Hid (Below w.heap.size w (w3.setCell ⟨g, a, none⟩ (.int .i64 (a : Int)))) := Lib.hid (HB3.out.setCell (p := ⟨g, a, none⟩) (by have h1 := ownN_base HO3.out g rfl; have h2 := HB2.out.size; show w.heap.size ≤ g; omega) _)
  have Hgl : Hid (w.heap.size ≤ g) := Lib.hid (by have h1 := ownN_base HO3.out g rfl; have h2 := HB2.out.size; omega)
  clear cx fz
  go_loopw [9, 10, 11] (fun x y _ wr => ∃ p : Nat, x = .int .i64 p ∧ p < n' ∧ distL ps a p + distL ps p s = distL ps a s ∧ y = .int .i64 ((nx ps p s : Nat) : Int) ∧ OwnN wr w2.heap.size (.slice (some ⟨g, 0, none⟩) n' c3) (mixN ps a s (distL ps a p)) ∧ Below w.heap.size w wr) (fun x _ _ _ => n' - distL ps a (intOf x).toNat)
  case atStart => exact ⟨a, rfl, han, by unfold distL; rw [dist_self]; omega, rfl, by rw [show distL ps a a = 0 from dist_self a]; exact HO4.out, HB4.out⟩
  case round =>
    obtain ⟨p, rfl, hp, hon, rfl, hown, hbel⟩ := hrel
    obtain ⟨w5, rfl⟩ : ∃ w5 : World, w5 = wr := ⟨_, rfl⟩
    have HO5 := Lib.hid hown
    have HB5 := Lib.hid hbel
    have HOn := Lib.hid hon
    clear hown hbel hon
    have hpl : p < ps.length := by rw [HL.out]; exact hp
    by_cases hps : p = s
    · subst hps
      have hself : nx ps p p = p := if_pos rfl
      rw [hself]
      have HF : Hid (mixN ps a p (distL ps a p) = towardN ps a) := Lib.hid (HG.out.mix_full Ha.out Hs.out)
      rw [HF.out] at HO5
      clear hself
      go_wp2
      exact bodyPost_ret (v := .tuple #[.slice (some ⟨g, 0, none⟩) n' c3, .int .i64 (p : Int)]) (by have h9 := HTl.out; simp [results, Try.f23, go_sem, h9]) rfl ⟨_, rfl, HO5.out.lowN HB2.out.size, HB5.out⟩
    · obtain ⟨q1, q2, q3, q4, q5⟩ := HG.out.mix_succ (k := distL ps a p) Ha.out Hs.out hpl HOn.out rfl hps
      obtain ⟨y, hy⟩ : ∃ y, y = nx ps p s := ⟨_, rfl⟩
      rw [← hy] at q1 q2 q3 q4 q5 ⊢
      have hyp : y ≠ p := fun e => by rw [e] at q2; omega
      have hyn : y < n' := by rw [← HL.out]; exact q1
      have hyz : ((y : Int) != (p : Int)) = true := by simp; omega
      obtain ⟨_, hg1, hg2, hg3, hg4⟩ := HO5.out.at_
      have cy : w5.cell? ⟨g, y, none⟩ = some (.int .i64 ((nx ps y s : Nat) : Int)) := by rw [hg3 y hyn, at_get (by rw [HMl.out]; exact hyn), q4]
      have fy := hg4 y
      have HD : Hid (distL ps a y = distL ps a p + 1 ∧ distL ps a s < n') := Lib.hid ⟨q2, by have := HG.out.rt.dist_lt Ha.out Hs.out; rw [HL.out] at this; exact this⟩
      have HOy := Lib.hid q3
      have HO6 : Hid (OwnN (w5.setCell ⟨g, y, none⟩ (.int .i64 (p : Int))) w2.heap.size (.slice (some ⟨g, 0, none⟩) n' c3) (mixN ps a s (distL ps a p + 1))) := Lib.hid (by rw [← q5]; exact HO5.out.set_ y (p : Int))
      have HB6 : Hid (Below w.heap.size w (w5.setCell ⟨g, y, none⟩ (.int .i64 (p : Int)))) := Lib.hid (HB5.out.setCell (p := ⟨g, y, none⟩) Hgl.out _)
      clear q1 q2 q3 q4 q5 hg1 hg2 hg3 hg4 hy hps
      go_wp2
      go_roundw
      case rel => exact ⟨y, rfl, hyn, HOy.out, rfl, by rw [HD.out.1]; exact HO6.out, HB6.out⟩
      case measure =>
        have h1 := HD.out.1
        have h2 := HD.out.2
        have h3 := HOy.out
        simp [intOf]
        omega
end Go.Proofs.Ytcomiininaemhaa.Pk
