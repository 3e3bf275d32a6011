/- Lists of parents in memory; what a list's fault is. -/
import Derived.Test.YtiaafhcfeeekeaaZRange
import Derived.Test.YtiaafhcfeeekeaaProg
import Derived.Test.YtiaafhcfeeekeaaZGrList
import Derived.Lib.Hide
import Derived.LoopTactic
import Derived.Outline
import Derived.Deep.QuietTactic
import Derived.BigQuiet
import Derived.Deep.DeepMust
import Derived.Test.YtiaafhcfeeekeaaZChFacts
namespace Go.Proofs.Ytiaafhcfeeekeaa.Pk
open Go.RowKit Go.Proofs.Ytiaafhcfeeekeaa.Gr
set_option linter.unusedVariables false

theorem pa_get {ps : List Int} {v : Nat} (h : v < ps.length) : ps.getD v 0 = pa ps v := by
  unfold pa
  simp [List.getD, h]
theorem Reads.pa {w : World} {B : Nat} {A : Option Addr} {n : Nat} {ps : List Int} (h : Reads w B 1 A n (nms ps)) (hn : 0 < n) :
    ∃ b off, A = some ⟨b, off, none⟩ ∧ b < B ∧ ∀ v, v < n → w.cell? ⟨b, off + v, none⟩ = some (.int .i64 (pa ps v)) := by
  obtain ⟨b, off, e, hb, hc⟩ := h.i64 hn
  have hl : ps.length = n := by have := h.1; simpa [nms] using this
  exact ⟨b, off, e, hb, fun v hv => by rw [hc v hv, pa_get (by omega)]⟩
theorem Reads.plen {w : World} {B : Nat} {A : Option Addr} {n : Nat} {ps : List Int} (h : Reads w B 1 A n (nms ps)) : ps.length = n := by have := h.1; simpa [nms] using this

/-- The first kind of fault. -/
def faultA (ps : List Int) (v : Nat) : Prop := pa ps v < -1 ∨ (ps.length : Int) ≤ pa ps v ∨ pa ps v = (v : Int) ∨ (pa ps v = -1 ∧ ∃ u, u < v ∧ pa ps u = -1)
/-- What Check must answer. -/
def ChkIs (ps : List Int) (p e : Int) : Prop :=
  (ps.length = 0 ∧ p = 0 ∧ e = 1) ∨ (32 < ps.length ∧ p = 0 ∧ e = 3) ∨
  ((0 < ps.length ∧ ps.length ≤ 32) ∧ ((∃ v, v < ps.length ∧ p = (v : Int) ∧ e = 10 ∧ faultA ps v ∧ ∀ u, u < v → ¬ faultA ps u) ∨
    ((∀ u, u < ps.length → ¬ faultA ps u) ∧ ((∃ v, v < ps.length ∧ p = (v : Int) ∧ e = 10 ∧ climb ps ps.length (v : Int) ≠ -1 ∧ ∀ u, u < v → climb ps ps.length (u : Int) = -1) ∨
      ((∀ u, u < ps.length → climb ps ps.length (u : Int) = -1) ∧ p = 0 ∧ e = 0)))))
theorem least_one {P : Nat → Prop} {v v' : Nat} (h : P v) (h' : P v') (k : ∀ u, u < v → ¬ P u) (k' : ∀ u, u < v' → ¬ P u) : v = v' := by
  rcases Nat.lt_trichotomy v v' with h1 | h1 | h1
  · exact absurd h (k' v h1)
  · exact h1
  · exact absurd h' (k v' h1)
theorem ChkIs.only {ps : List Int} {p e p' e' : Int} (h : ChkIs ps p e) (h' : ChkIs ps p' e') : p = p' ∧ e = e' := by
  rcases h with ⟨a, b, c⟩ | ⟨a, b, c⟩ | ⟨a, h⟩ <;> rcases h' with ⟨a', b', c'⟩ | ⟨a', b', c'⟩ | ⟨a', h'⟩ <;> first | omega | skip
  rcases h with ⟨v, v1, v2, v3, v4, v5⟩ | ⟨n1, h⟩ <;> rcases h' with ⟨u, u1, u2, u3, u4, u5⟩ | ⟨n1', h'⟩
  · have := least_one v4 u4 v5 u5
    subst this
    exact ⟨by omega, by omega⟩
  · exact absurd v4 (n1' v v1)
  · exact absurd u4 (n1 u u1)
  · rcases h with ⟨v, v1, v2, v3, v4, v5⟩ | ⟨n2, v2, v3⟩ <;> rcases h' with ⟨u, u1, u2, u3, u4, u5⟩ | ⟨n2', u2, u3⟩
    · have := least_one (P := fun x => climb ps ps.length (x : Int) ≠ -1) v4 u4 (fun x hx hn => hn (v5 x hx)) (fun x hx hn => hn (u5 x hx))
      subst this
      exact ⟨by omega, by omega⟩
    · exact absurd (n2' v v1) v4
    · exact absurd (n2 u u1) u4
    · exact ⟨by omega, by omega⟩
theorem ChkIs.good {ps : List Int} {p : Int} (h : ChkIs ps p 0) : Gr.Good ps ∧ p = 0 := by
  rcases h with ⟨a, b, c⟩ | ⟨a, b, c⟩ | ⟨a, h⟩
  · omega
  · omega
  · rcases h with ⟨v, v1, v2, v3, v4, v5⟩ | ⟨n1, h⟩
    · omega
    · rcases h with ⟨v, v1, v2, v3, v4, v5⟩ | ⟨n2, v2, v3⟩
      · omega
      · refine ⟨⟨a.1, a.2, fun v hv => ?_, fun u v hu hv h1 h2 => ?_, n2⟩, v2⟩
        · have hf := n1 v hv
          have f1 : ¬ pa ps v < -1 := fun h => hf (.inl h)
          have f2 : ¬ (ps.length : Int) ≤ pa ps v := fun h => hf (.inr (.inl h))
          have f3 : ¬ pa ps v = (v : Int) := fun h => hf (.inr (.inr (.inl h)))
          exact ⟨by omega, by omega, f3⟩
        · rcases Nat.lt_trichotomy u v with h3 | h3 | h3
          · exact absurd (show faultA ps v from .inr (.inr (.inr ⟨h2, u, h3, h1⟩))) (n1 v hv)
          · exact h3
          · exact absurd (show faultA ps u from .inr (.inr (.inr ⟨h1, v, h3, h2⟩))) (n1 u hu)
theorem good_chk {ps : List Int} (G : Gr.Good ps) : ChkIs ps 0 0 := by
  refine .inr (.inr ⟨⟨G.pos, G.few⟩, .inr ⟨fun u hu h => ?_, .inr ⟨G.all, rfl, rfl⟩⟩⟩)
  have hr := G.rng u hu
  rcases h with h | h | h | ⟨h, x, hx, hx2⟩
  · omega
  · omega
  · omega
  · have := G.one u x hu (by omega) h hx2
    omega
theorem climb_step (ps : List Int) (k v : Nat) : ∀ (x : Int), climb ps (k + 1) x = if climb ps k x = -1 then -1 else pa ps (climb ps k x).toNat := by
  induction k with
  | zero => intro x; rfl
  | succ k ih =>
    intro x
    show (if x = -1 then -1 else climb ps (k + 1) (pa ps x.toNat)) = _
    by_cases hx : x = -1
    · rw [if_pos hx]
      have : climb ps (k + 1) x = -1 := by rw [hx]; rfl
      rw [if_pos this]
    · rw [if_neg hx, ih]
      have : climb ps (k + 1) x = climb ps k (pa ps x.toNat) := by
        show (if x = -1 then -1 else _) = _
        rw [if_neg hx]
      rw [this]

theorem climb_rng {ps : List Int} (h : ∀ v, v < ps.length → -1 ≤ pa ps v ∧ pa ps v < (ps.length : Int)) (v : Nat) (hv : v < ps.length) : ∀ k, -1 ≤ climb ps k (v : Int) ∧ climb ps k (v : Int) < (ps.length : Int) := by
  intro k
  induction k with
  | zero => exact ⟨by show -1 ≤ (v : Int); omega, by show (v : Int) < _; omega⟩
  | succ k ih =>
    rw [climb_step ps k 0]
    by_cases hc : climb ps k (v : Int) = -1
    · rw [if_pos hc]; omega
    · rw [if_neg hc]
      exact h _ (by omega)
theorem rng_of {ps : List Int} (h : ∀ u, u < ps.length → ¬ faultA ps u) : ∀ v, v < ps.length → -1 ≤ pa ps v ∧ pa ps v < (ps.length : Int) := by
  intro v hv
  have hf := h v hv
  have f1 : ¬ pa ps v < -1 := fun h => hf (.inl h)
  have f2 : ¬ (ps.length : Int) ≤ pa ps v := fun h => hf (.inr (.inl h))
  omega

/-- What the first loop knows of the nodes that it has seen. -/
def RootsAt (ps : List Int) (v rt : Nat) : Prop := (∀ u, u < v → ¬ faultA ps u) ∧ ((rt = 0 ∧ ∀ u, u < v → pa ps u ≠ -1) ∨ (rt = 1 ∧ ∃ u, u < v ∧ pa ps u = -1))
end Go.Proofs.Ytiaafhcfeeekeaa.Pk

/- Numbers of the call's own: what owns them, and how they are appended to. -/
namespace Go.Proofs.Ytiaafhcfeeekeaa.Pk
open Go.RowKit
set_option linter.unusedVariables false

theorem int_info : (Try.prog.info? 3).map (fun i => (i.zero, i.size, i.bytes)) = some (some (.int .i64 0), 1, 8) := by kernel_rfl
/-- The value owns the numbers l, in new memory from block B on. -/
def OwnN (w : World) (B : Nat) (v : Value) (l : List Int) : Prop := w.ownsRow B 3 1 v l.length (nms l)
theorem OwnN.none_ (w : World) (B : Nat) : OwnN w B (.slice none 0 0) [] := ⟨rfl, .inl ⟨rfl, rfl⟩⟩
theorem OwnN.alloc {w : World} {B : Nat} {v : Value} {l : List Int} (h : OwnN w B v l) (o : Obj) : OwnN (w.alloc o) B v l := World.ownsRow.alloc h o
theorem OwnN.below {w w' : World} {B : Nat} {v : Value} {l : List Int} (h : OwnN w B v l) (hb : Below w.heap.size w w') : OwnN w' B v l := by
  obtain ⟨h1, h2⟩ := h
  refine ⟨h1, ?_⟩
  rcases h2 with h2 | ⟨g, cap, cur, e, hg, hh, hr⟩
  · exact .inl h2
  · refine .inr ⟨g, cap, cur, e, hg, ?_, hr⟩
    have hlt : g < w.heap.size := by
      rcases Nat.lt_or_ge g w.heap.size with hlt | hge
      · exact hlt
      · rw [Array.getElem?_eq_none hge] at hh; cases hh
    rw [hb.block g hlt]; exact hh
theorem OwnN.reads {w : World} {B : Nat} {v : Value} {l : List Int} (h : OwnN w B v l) : ∃ A c, v = .slice A l.length c ∧ l.length ≤ c ∧ Reads w w.heap.size 1 A l.length (nms l) := by
  have h2 := h
  obtain ⟨h1, ⟨rfl, e⟩ | ⟨g, cap, cur, rfl, _, _, hc, _⟩⟩ := h2
  · obtain rfl : l = [] := List.length_eq_zero_iff.1 e
    exact ⟨none, 0, rfl, by simp, Reads.none_⟩
  · exact ⟨_, cap, rfl, hc, Reads.of_own h⟩
theorem ownN_base {w : World} {base : Nat} {v : Value} {l : List Int} (h : OwnN w base v l) : ∀ k, v.ownBlock = some k → base ≤ k := by
  intro k hk
  rcases h.2 with ⟨rfl, _⟩ | ⟨g, cap, cur, rfl, hb, _⟩
  · simp [Value.ownBlock] at hk
  · simp [Value.ownBlock] at hk; omega
theorem ownN_lt {w : World} {B : Nat} {v : Value} {l : List Int} (h : OwnN w B v l) : ∀ g, v.ownBlock = some g → g < w.heap.size := by
  intro g hg
  rcases h.2 with ⟨rfl, _⟩ | ⟨g', cap, cur, rfl, _, hh, _⟩
  · simp [Value.ownBlock] at hg
  · simp [Value.ownBlock] at hg
    subst hg
    rcases Nat.lt_or_ge g' w.heap.size with h' | h'
    · exact h'
    · rw [Array.getElem?_eq_none h'] at hh; cases hh
/-- One number more, out of a new box. -/
theorem appN {ops : Array Oper} {rest : List Oper} {o : Oper} {a : Act} {Q : Exit → Act → World → Prop} (w : World) (k : Int) (T : TypeId) (hgd : o.guard = none) (so x : Operand)
    (ho : o.op = .call { callee := .builtin .append, args := #[so, x], argTypes := #[22, 22] }) (B : Nat) (v : Value) (l : List Int) (hs : a.eval so = v) (hown : OwnN w B v l)
    (g : Nat) (hg : g = w.heap.size) (hx : a.eval x = .slice (some ⟨g, 0, none⟩) 1 1) (hlen : (l.length + 1) * 8 ≤ 140737488355328) (hB : B ≤ w.heap.size)
    (h : ∀ v' w', OwnN w' B v' (l ++ [k]) → Below B w w' → (w.alloc (.cells #[.int .i64 k] T)).grownBy w' v.ownBlock → wpList Try.prog ops Q rest (a.put o.dst v') w') : wpList Try.prog ops Q (o :: rest) a (w.alloc (.cells #[.int .i64 k] T)) := by
  subst hg
  obtain ⟨i0, hi0, hz0, hz1, hz2⟩ := info_parts int_info
  refine wpList_append_own _ hgd so x _ ho B 3 i0 _ 1 8 Try.underlying22 hi0 hz0 hz1 hz2 rfl (by omega) v l.length (nms l) hs (World.ownsRow.alloc hown _) ⟨w.heap.size, 0, none⟩ 1 1 (nms [k]) hx rfl ?_ (nms_one _)
    (by unfold maxLen; omega) (by omega) (by simp; omega) ?_
  · intro j u hj
    match j, hj with
    | 0, hj => simp [nms] at hj; subst hj; simp [Addr.add]
    | j + 1, hj => simp [nms] at hj
  · intro v' w' ho hg _
    refine h v' w' ?_ (((Below.refl _ _).alloc hB _).grown hg (by simp; omega) (ownN_base hown)) hg
    unfold OwnN
    rw [← nms_append, List.length_append]; exact ho
end Go.Proofs.Ytiaafhcfeeekeaa.Pk

/- The document's answer for trees (fletchref04): Neighbours. -/
namespace Go.Proofs.Ytiaafhcfeeekeaa.Pk
open Go.RowKit Go.Proofs.Ytiaafhcfeeekeaa.Gr
set_option linter.unusedVariables false

/-- The neighbours of v below k. -/
def nbs (ps : List Int) (v k : Nat) : List Int := List.map (fun u : Nat => (u : Int)) (List.filter (fun u : Nat => nearL ps u v) (List.range k))
theorem nbs_succ (ps : List Int) (v k : Nat) : nbs ps v (k + 1) = if nearL ps k v = true then nbs ps v k ++ [(k : Int)] else nbs ps v k := by
  unfold nbs
  rw [List.range_succ, List.filter_append, List.map_append]
  by_cases h : nearL ps k v = true
  · rw [if_pos h]; simp [h]
  · rw [if_neg h]; simp [h]
theorem nbs_len (ps : List Int) (v k : Nat) : (nbs ps v k).length ≤ k := by
  unfold nbs
  rw [List.length_map]
  exact Nat.le_trans (List.length_filter_le _ _) (by simp)
def nbsI (ps : List Int) (v : Int) : List Int := if 0 ≤ v ∧ v < (ps.length : Int) then nbs ps v.toNat ps.length else []

end Go.Proofs.Ytiaafhcfeeekeaa.Pk

/- Distances that are found round by round. -/
namespace Go.Proofs.Ytiaafhcfeeekeaa.Gr
set_option linter.unusedVariables false

/-- What the rounds need to know of the distances from one node. -/
structure Far (n f : Nat) (d : Nat → Nat) (nr : Nat → Nat → Bool) : Prop where
  step : ∀ u v, u < n → v < n → nr u v = true → d u = d v + 1 ∨ d v = d u + 1
  nearer : ∀ x, x < n → d x ≠ 0 → ∃ y, y < n ∧ nr x y = true ∧ d y + 1 = d x
  zero : ∀ x, x < n → (d x = 0 ↔ x = f)
  lt : ∀ x, x < n → d x < n
/-- In round r, at the nodes v and u. -/
structure Wave (d : Nat → Nat) (nr : Nat → Nat → Bool) (n r v u : Nat) (ds : List Int) : Prop where
  len : ds.length = n
  low : ∀ x, x < n → d x ≤ r → ds.getD x 0 = (d x : Int)
  high : ∀ x, x < n → r + 1 < d x → ds.getD x 0 = -1
  mid : ∀ x, x < n → d x = r + 1 → ds.getD x 0 = -1 ∨ ds.getD x 0 = (r : Int) + 1
  past : ∀ x y, x < n → d x = r + 1 → y < v → d y = r → nr x y = true → ds.getD x 0 = (r : Int) + 1
  here : ∀ x, x < n → d x = r + 1 → d v = r → nr x v = true → x < u → ds.getD x 0 = (r : Int) + 1

variable {n f r v u : Nat} {d : Nat → Nat} {nr : Nat → Nat → Bool} {ds : List Int}
theorem Wave.at_ (W : Wave d nr n r v u ds) {y : Nat} (hy : y < n) : ds.getD y 0 = (r : Int) ↔ d y = r := by
  constructor
  · intro h
    rcases Nat.lt_trichotomy (d y) (r + 1) with h1 | h1 | h1
    · have := W.low y hy (by omega); omega
    · rcases W.mid y hy h1 with h2 | h2 <;> omega
    · have := W.high y hy h1; omega
  · intro h
    have := W.low y hy (by omega); omega
theorem getD_set_ne {ds : List Int} {u y : Nat} {x : Int} (h : u ≠ y) : (ds.set u x).getD y 0 = ds.getD y 0 := by
  simp [List.getD, List.getElem?_set_ne h]
theorem Wave.done (H : Far n f d nr) (W : Wave d nr n n 0 0 ds) : ds = (List.range n).map fun x => (d x : Int) := by
  have hl := W.len
  apply List.ext_getElem (by simp [hl])
  intro i h1 h2
  have := W.low i (by omega) (by have := H.lt i (by omega); omega)
  rw [List.getD_eq_getElem?_getD, List.getElem?_eq_getElem h1] at this
  simpa using this

variable {ps : List Int}
/-- The distance in a good list. -/
def distL (ps : List Int) (a b : Nat) : Nat := dist (par ps) (dep ps) a b
theorem Good.far (G : Good ps) {f : Nat} (hf : f < ps.length) : Far ps.length f (fun x => distL ps x f) (nearL ps) where
  step := fun u v hu hv h => G.rt.step hu hv hf ((G.near_iff hu hv).1 h)
  nearer := by
    intro x hx h
    have hne : x ≠ f := fun e => h (by subst e; exact dist_self x)
    obtain ⟨y, hy, hn, hd⟩ := G.rt.nearer _ x f hx hf hne (Nat.le_refl _)
    exact ⟨y, hy, (G.near_iff hx hy).2 (near_symm hn), hd⟩
  zero := by
    intro x hx
    constructor
    · exact fun h => G.rt.dist_zero hx hf h
    · rintro rfl; exact dist_self x
  lt := fun x hx => G.rt.dist_lt hx hf
end Go.Proofs.Ytiaafhcfeeekeaa.Gr

/- A block of numbers; a block made. -/
namespace Go.Proofs.Ytiaafhcfeeekeaa.Pk
open Go.RowKit Go.Proofs.Ytiaafhcfeeekeaa.Gr
set_option linter.unusedVariables false

/-- A block that holds the numbers. -/
def BlkN (w : World) (g : Nat) (ds : List Int) : Prop := Blk w g 3 (nms ds).toArray
theorem BlkN.num {w : World} {g : Nat} {ds : List Int} (h : BlkN w g ds) {i : Nat} (hi : i < ds.length) : w.cell? ⟨g, i, none⟩ = some (.int .i64 (ds.getD i 0)) := by
  rw [Blk.cell h]
  rw [List.getElem?_toArray]
  exact nms_get hi
theorem BlkN.set_ {w : World} {g : Nat} {ds : List Int} (h : BlkN w g ds) (i : Nat) (x : Int) : BlkN (w.setCell ⟨g, i, none⟩ (.int .i64 x)) g (ds.set i x) := by
  have := Blk.set_ h i (.int .i64 x)
  unfold BlkN
  have e : (nms (ds.set i x)).toArray = (nms ds).toArray.setIfInBounds i (.int .i64 x) := by
    simp [nms]
  rw [e]; exact this
theorem BlkN.reads {w : World} {g : Nat} {ds : List Int} (h : BlkN w g ds) {n : Nat} (hn : ds.length = n) : Reads w (g + 1) 1 (some ⟨g, 0, none⟩) n (nms ds) := by
  refine ⟨by simp [hn], fun _ => ⟨_, rfl, by simp, fun i u hu => ?_⟩⟩
  have := Blk.cell h i
  rw [List.getElem?_toArray, hu] at this
  unfold Addr.add
  by_cases h0 : i = 0
  · subst h0; simpa using this
  · simpa [h0] using this

end Go.Proofs.Ytiaafhcfeeekeaa.Pk

/- The next node on the way: what it is. -/
namespace Go.Proofs.Ytiaafhcfeeekeaa.Gr
variable {ps : List Int}
def nextN (ps : List Int) (a b : Nat) : Nat := ((List.range ps.length).find? fun v => nearL ps v a && decide (distL ps v b + 1 = distL ps a b)).getD 0
theorem Good.nextN_is (G : Good ps) {a b : Nat} (ha : a < ps.length) (hb : b < ps.length) (hab : a ≠ b) :
    nextN ps a b < ps.length ∧ nearL ps (nextN ps a b) a = true ∧ distL ps (nextN ps a b) b + 1 = distL ps a b := by
  obtain ⟨y, hy, hn, hd⟩ := G.rt.nearer _ a b ha hb hab (Nat.le_refl _)
  have hn' := (G.near_iff hy ha).2 hn
  unfold nextN
  cases hf : (List.range ps.length).find? fun v => nearL ps v a && decide (distL ps v b + 1 = distL ps a b) with
  | none =>
    have h1 := List.find?_eq_none.1 hf y (List.mem_range.2 hy)
    rw [hn', Bool.true_and] at h1
    exact absurd (decide_eq_true hd) h1
  | some v =>
    have h1 := List.find?_some hf
    have h2 := List.mem_of_find?_eq_some hf
    simp only [Option.getD_some]
    simp only [Bool.and_eq_true, decide_eq_true_eq] at h1
    exact ⟨List.mem_range.1 h2, h1.1, h1.2⟩
theorem Good.nextN_only (G : Good ps) {a b v : Nat} (ha : a < ps.length) (hb : b < ps.length) (hab : a ≠ b) (hv : v < ps.length) (hn : nearL ps v a = true) (hd : distL ps v b + 1 = distL ps a b) : v = nextN ps a b := by
  obtain ⟨h1, h2, h3⟩ := G.nextN_is ha hb hab
  exact G.rt.only _ a b v _ ha hb hv h1 (Nat.le_refl _) ((G.near_iff hv ha).1 hn) ((G.near_iff h1 ha).1 h2) hd h3
def nextI (ps : List Int) (a b : Int) : Int := if (0 ≤ a ∧ a < (ps.length : Int)) ∧ (0 ≤ b ∧ b < (ps.length : Int)) then (if a = b then b else (nextN ps a.toNat b.toNat : Nat)) else -1
end Go.Proofs.Ytiaafhcfeeekeaa.Gr

/- The next node on the way, on lists of parents. -/
namespace Go.Proofs.Ytiaafhcfeeekeaa.Gr
set_option linter.unusedVariables false
variable {ps : List Int}
/-- The next node towards b; b itself there. -/
def nx (ps : List Int) (a b : Nat) : Nat := if a = b then b else nextN ps a b
theorem Good.nx_is (G : Good ps) : Nx ps.length (root ps) (par ps) (dep ps) (nx ps) where
  self := fun b _ => if_pos rfl
  lt := fun a b ha hb => by
    unfold nx
    split
    · exact hb
    · rename_i h; exact (G.nextN_is ha hb h).1
  nr := fun a b ha hb hab => by
    unfold nx
    rw [if_neg hab]
    obtain ⟨h1, h2, _⟩ := G.nextN_is ha hb hab
    exact (G.near_iff h1 ha).1 h2
  dn := fun a b ha hb hab => by
    unfold nx
    rw [if_neg hab]
    exact (G.nextN_is ha hb hab).2.2
theorem nextI_nx {a b : Nat} (ha : a < ps.length) (hb : b < ps.length) : nextI ps (a : Int) (b : Int) = (nx ps a b : Nat) := by
  unfold nextI nx
  rw [if_pos (by omega)]
  by_cases h : a = b
  · rw [if_pos (by omega), if_pos h]
  · rw [if_neg (by omega), if_neg h]
    rfl
end Go.Proofs.Ytiaafhcfeeekeaa.Gr

/- Which states can be; the first ones. -/
namespace Go.Proofs.Ytiaafhcfeeekeaa.Pk
open Go.Proofs.Ytiaafhcfeeekeaa.Gr
set_option linter.unusedVariables false
def MeantS (n k : Int) (m : Mg) : Prop := 0 ≤ m.o ∧ m.o < k ∧ 0 ≤ m.n ∧ m.n < n ∧ 0 ≤ m.v ∧ m.v < n
instance (n k : Int) (m : Mg) : Decidable (MeantS n k m) := by unfold MeantS; exact inferInstance
def HomesS (n : Nat) (hs : List Int) : Prop := (1 ≤ hs.length ∧ hs.length ≤ 8) ∧ ∀ h ∈ hs, 0 ≤ h ∧ h < (n : Int)
instance (n : Nat) (hs : List Int) : Decidable (HomesS n hs) := by unfold HomesS; exact inferInstance
/-- How many wait or hold, of all objects. -/
def sumK : List Ow → Nat
  | [] => 0
  | o :: r => openK o.c + sumK r
def OwnOk (ps : List Int) (me : Int) (o : Ow) : Prop :=
  (o.a = me ∨ o.a ∈ nbsI ps me) ∧ (0 ≤ o.m ∧ o.m ≤ 1099511627776) ∧ GoodK o.c me (decide (o.a = me)) ∧ ∀ c ∈ o.c, c.n ≤ o.m ∧ c.d < (ps.length : Int)
instance (ps : List Int) (me : Int) (o : Ow) : Decidable (OwnOk ps me o) := by unfold OwnOk; exact inferInstance
def SideOk (n k : Int) (e : Hf) : Prop := e.Be ∧ ∀ m ∈ e.o, MeantS n k m
instance (n k : Int) (e : Hf) : Decidable (SideOk n k e) := by unfold SideOk; exact inferInstance
/-- The locates that are open: their numbers rise. -/
def AsksOk (k q : Int) : Int → List Ak → Prop
  | _, [] => True
  | last, a :: r => (0 ≤ a.o ∧ a.o < k) ∧ (last < a.n ∧ a.n ≤ q) ∧ AsksOk k q a.n r
def AsksOk.dec (k q : Int) : ∀ (last : Int) (l : List Ak), Decidable (AsksOk k q last l)
  | _, [] => .isTrue trivial
  | last, a :: r => by unfold AsksOk; exact @instDecidableAnd _ _ _ (@instDecidableAnd _ _ _ (AsksOk.dec k q a.n r))
instance (k q last : Int) (l : List Ak) : Decidable (AsksOk k q last l) := AsksOk.dec k q last l
def GotOk (n k q : Int) (f : Fnd) : Prop := (0 ≤ f.o ∧ f.o < k) ∧ (1 ≤ f.n ∧ f.n ≤ q) ∧ 0 ≤ f.w ∧ f.w < n
instance (n k q : Int) (f : Fnd) : Decidable (GotOk n k q f) := by unfold GotOk; exact inferInstance
structure GoodS (ps : List Int) (s : St) : Prop where
  me : 0 ≤ s.me ∧ s.me < (ps.length : Int)
  many : 1 ≤ s.os.length ∧ s.os.length ≤ 8
  os : ∀ o ∈ s.os, OwnOk ps s.me o
  ps_ : s.es.map (·.p) = nbsI ps s.me
  es : ∀ e ∈ s.es, SideOk (ps.length : Int) (s.os.length : Int) e
  q : 0 ≤ s.q ∧ s.q ≤ 1099511627776
  an : s.as_.length ≤ 4
  gn : s.gs.length ≤ 4
  as_ : AsksOk (s.os.length : Int) s.q 0 s.as_
  gs : ∀ f ∈ s.gs, GotOk (ps.length : Int) (s.os.length : Int) s.q f
  few : sumK s.os ≤ 8
/-- The state in which a node begins. -/
def firstS (ps hs : List Int) (me : Int) : St :=
  ⟨me, hs.map fun h => ⟨nextI ps me h, 0, if h = me then [⟨0, 3, -1, 0⟩] else []⟩, (nbsI ps me).map fun v => ⟨v, 0, [], 0⟩, 0, [], []⟩
theorem sumK_rest (f : Int → Ow) (h : ∀ x, openK (f x).c = 0) : ∀ hs : List Int, sumK (hs.map f) = 0
  | [] => rfl
  | x :: r => by rw [List.map_cons, sumK, h, sumK_rest f h r]
theorem first_good {ps hs : List Int} (G : Gr.Good ps) (hn : ps.length ≤ 32) {me : Int} (h0 : 0 ≤ me) (h1 : me < (ps.length : Int)) (hh : HomesS ps.length hs) : GoodS ps (firstS ps hs me) := by
  obtain ⟨m, rfl⟩ : ∃ m : Nat, me = (m : Int) := ⟨me.toNat, by omega⟩
  have hm : m < ps.length := by omega
  have key : ∀ h : Nat, h < ps.length → (nextI ps (m : Int) (h : Int) = (m : Int) ↔ h = m) ∧ (nextI ps (m : Int) (h : Int) = (m : Int) ∨ nextI ps (m : Int) (h : Int) ∈ nbsI ps (m : Int)) := by
    intro h hh
    rw [nextI_nx hm hh]
    have X := G.nx_is
    by_cases e : h = m
    · subst e
      rw [X.self h hh]
      exact ⟨⟨fun _ => rfl, fun _ => rfl⟩, .inl rfl⟩
    · have hlt := X.lt m h hm hh
      have hne : nx ps m h ≠ m := fun hx => by
        have := X.dn m h hm hh (fun e2 => e e2.symm)
        rw [hx] at this
        omega
      refine ⟨⟨fun hx => absurd (show nx ps m h = m by omega) hne, fun hx => absurd hx e⟩, .inr ?_⟩
      unfold nbsI
      rw [if_pos ⟨by omega, by omega⟩]
      unfold nbs
      refine List.mem_map.2 ⟨nx ps m h, List.mem_filter.2 ⟨List.mem_range.2 hlt, ?_⟩, rfl⟩
      rw [show ((m : Int)).toNat = m by omega]
      exact (G.near_iff hlt hm).2 (X.nr m h hm hh (fun e2 => e e2.symm))
  have bound : ∀ v ∈ nbsI ps (m : Int), 0 ≤ v ∧ v < (ps.length : Int) := by
    intro v hv
    unfold nbsI at hv
    rw [if_pos ⟨h0, h1⟩] at hv
    unfold nbs at hv
    obtain ⟨u, hu, rfl⟩ := List.mem_map.1 hv
    have := List.mem_range.1 (List.mem_filter.1 hu).1
    omega
  refine ⟨⟨h0, h1⟩, by unfold firstS; simpa using hh.1, ?_, by unfold firstS; simp [Function.comp_def], ?_, by unfold firstS; simp, by unfold firstS; simp, by unfold firstS; simp, trivial, fun f hf => by unfold firstS at hf; simp at hf, ?_⟩
  · intro o ho
    obtain ⟨h, hin, rfl⟩ := List.mem_map.1 ho
    obtain ⟨q1, q2⟩ := hh.2 h hin
    obtain ⟨k, rfl⟩ : ∃ k : Nat, h = (k : Int) := ⟨h.toNat, by omega⟩
    obtain ⟨e1, e2⟩ := key k (by omega)
    show OwnOk ps (m : Int) _
    refine ⟨e2, ⟨by simp, by simp⟩, ?_, ?_⟩
    · by_cases hk : k = m
      · subst hk
        have := e1.2 rfl
        simp only [this, decide_true, if_true]
        refine ⟨fun _ => by simp, fun i hi => ?_⟩
        have : i = 0 := by simpa using hi
        subst this
        exact ⟨⟨by show (0 : Int) ≤ 0; omega, by show (0 : Int) ≤ 1099511627776; omega, by show (1 : Int) ≤ 3; omega, by show (3 : Int) ≤ 3; omega⟩, fun h => absurd h (by omega), fun _ => rfl, by rw [if_pos ⟨rfl, rfl⟩]; exact ⟨rfl, rfl⟩⟩
      · have hne : ¬ nextI ps (m : Int) (k : Int) = (m : Int) := fun h => hk (e1.1 h)
        have hkm : ¬ ((k : Int) = (m : Int)) := by omega
        simp only [hne, hkm, decide_false, if_false]
        exact ⟨fun h => (by cases h), fun i hi => (by simp at hi)⟩
    · intro c hc
      have hc : c ∈ (if (k : Int) = (m : Int) then [(⟨0, 3, -1, 0⟩ : Ce)] else []) := hc
      split at hc
      · rw [List.mem_singleton.1 hc]
        exact ⟨by show (0 : Int) ≤ 0; omega, by show (-1 : Int) < _; omega⟩
      · cases hc
  · intro e he
    obtain ⟨v, hv, rfl⟩ := List.mem_map.1 he
    obtain ⟨b1, b2⟩ := bound v hv
    refine ⟨⟨b1, by show v ≤ 31; omega, by show (0 : Int) ≤ 0; omega, by show (0 : Int) ≤ 0; omega, by show (0 : Int) ≤ 1099511627776; omega, by simp, by simp, fun m hm => by cases hm⟩, fun m hm => by cases hm⟩
  · have : sumK (firstS ps hs (m : Int)).os = 0 := sumK_rest _ (fun x => by
      by_cases hx : x = (m : Int)
      · simp [hx, openK]
      · simp [hx, openK]) hs
    omega
end Go.Proofs.Ytiaafhcfeeekeaa.Pk
