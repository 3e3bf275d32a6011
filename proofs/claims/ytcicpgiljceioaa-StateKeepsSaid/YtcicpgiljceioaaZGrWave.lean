/- The document's answer for trees (fletchref04): Near; what a list's fault is. -/
import Derived.Test.YtcicpgiljceioaaZWords
import Derived.Test.YtcicpgiljceioaaProg
import Derived.Test.YtcicpgiljceioaaZGrList
import Derived.Lib.Hide
import Derived.LoopTactic
import Derived.Outline
import Derived.Deep.QuietTactic
import Derived.BigQuiet
import Derived.Deep.DeepMust
namespace Go.Proofs.Ytcicpgiljceioaa.Pk
open Go.RowKit Go.Proofs.Ytcicpgiljceioaa.Gr
set_option linter.unusedVariables false

theorem pa_get {ps : List Int} {v : Nat} (h : v < ps.length) : ps.getD v 0 = pa ps v := by
  unfold pa
  simp [List.getD, h]
theorem Reads.pa {w : World} {B : Nat} {A : Option Addr} {n : Nat} {ps : List Int} (h : Reads w B 1 A n (nms ps)) (hn : 0 < n) :
    ∃ b off, A = some ⟨b, off, none⟩ ∧ b < B ∧ ∀ v, v < n → w.cell? ⟨b, off + v, none⟩ = some (.int .i64 (pa ps v)) := by
  obtain ⟨b, off, e, hb, hc⟩ := h.i64 hn
  have hl : ps.length = n := by have := h.1; simpa [nms] using this
  exact ⟨b, off, e, hb, fun v hv => by rw [hc v hv, pa_get (by omega)]⟩
theorem Reads.plen {w : World} {B : Nat} {A : Option Addr} {n : Nat} {ps : List Int} (h : Reads w B 1 A n (nms ps)) : ps.length = n := by have := h.1; simpa [nms] using this

theorem near_any (A : Option Addr) (n c : Nat) (ps : List Int) (a b : Nat) (w : World) (B : Nat) (hr : Reads w B 1 A n (nms ps)) (ha : a < n) (hb : b < n) :
    Calls Try.prog 60 #[.slice A n c, .int .i64 (a : Int), .int .i64 (b : Int)] w fun e w' => e = .returned (.bool (nearL ps a b)) ∧ w' = w := by
  obtain ⟨bl, off, rfl, hbb, hc⟩ := hr.pa (by omega)
  have c1 := hc a ha
  have c2 := hc b hb
  clear hc hr
  go_enter Try.func60, Try.ntmps60
  by_cases h1 : pa ps a = (b : Int)
  · have t1 : (pa ps a == (b : Int)) = true := by simp [h1]
    have HE : Hid (nearL ps a b = true) := Lib.hid (by unfold nearL; rw [t1]; rfl)
    clear h1
    go_wp2_with fail
    go_ret
    exact ⟨by rw [HE.out]; rfl, rfl⟩
  · have t1 : (pa ps a == (b : Int)) = false := by simp [h1]
    have HE : Hid (nearL ps a b = (pa ps b == (a : Int))) := Lib.hid (by unfold nearL; rw [t1]; rfl)
    clear h1
    go_wp2_with fail
    go_ret
    exact ⟨by rw [HE.out]; rfl, rfl⟩

/-- The first kind of fault. -/
def faultA (ps : List Int) (v : Nat) : Prop := pa ps v < -1 ∨ (ps.length : Int) ≤ pa ps v ∨ pa ps v = (v : Int) ∨ (pa ps v = -1 ∧ ∃ u, u < v ∧ pa ps u = -1)
/-- What Check must answer. -/
def ChkIs (ps : List Int) (p e : Int) : Prop :=
  (ps.length = 0 ∧ p = 0 ∧ e = 1) ∨ (32 < ps.length ∧ p = 0 ∧ e = 3) ∨
  ((0 < ps.length ∧ ps.length ≤ 32) ∧ ((∃ v, v < ps.length ∧ p = (v : Int) ∧ e = 10 ∧ faultA ps v ∧ ∀ u, u < v → ¬ faultA ps u) ∨
    ((∀ u, u < ps.length → ¬ faultA ps u) ∧ ((∃ v, v < ps.length ∧ p = (v : Int) ∧ e = 10 ∧ climb ps ps.length (v : Int) ≠ -1 ∧ ∀ u, u < v → climb ps ps.length (u : Int) = -1) ∨
      ((∀ u, u < ps.length → climb ps ps.length (u : Int) = -1) ∧ p = 0 ∧ e = 0)))))
theorem least_one {P : Nat → Prop} {v v' : Nat} (h : P v) (h' : P v') (k : ∀ u, u < v → ¬ P u) (k' : ∀ u, u < v' → ¬ P u) : v = v' := by
  rcases Nat.lt_trichotomy v v' with h1 | h1 | h1
  · exact absurd h (k' v h1)
  · exact h1
  · exact absurd h' (k v' h1)
theorem ChkIs.only {ps : List Int} {p e p' e' : Int} (h : ChkIs ps p e) (h' : ChkIs ps p' e') : p = p' ∧ e = e' := by
  rcases h with ⟨a, b, c⟩ | ⟨a, b, c⟩ | ⟨a, h⟩ <;> rcases h' with ⟨a', b', c'⟩ | ⟨a', b', c'⟩ | ⟨a', h'⟩ <;> first | omega | skip
  rcases h with ⟨v, v1, v2, v3, v4, v5⟩ | ⟨n1, h⟩ <;> rcases h' with ⟨u, u1, u2, u3, u4, u5⟩ | ⟨n1', h'⟩
  · have := least_one v4 u4 v5 u5
    subst this
    exact ⟨by omega, by omega⟩
  · exact absurd v4 (n1' v v1)
  · exact absurd u4 (n1 u u1)
  · rcases h with ⟨v, v1, v2, v3, v4, v5⟩ | ⟨n2, v2, v3⟩ <;> rcases h' with ⟨u, u1, u2, u3, u4, u5⟩ | ⟨n2', u2, u3⟩
    · have := least_one (P := fun x => climb ps ps.length (x : Int) ≠ -1) v4 u4 (fun x hx hn => hn (v5 x hx)) (fun x hx hn => hn (u5 x hx))
      subst this
      exact ⟨by omega, by omega⟩
    · exact absurd (n2' v v1) v4
    · exact absurd (n2 u u1) u4
    · exact ⟨by omega, by omega⟩
theorem ChkIs.good {ps : List Int} {p : Int} (h : ChkIs ps p 0) : Gr.Good ps ∧ p = 0 := by
  rcases h with ⟨a, b, c⟩ | ⟨a, b, c⟩ | ⟨a, h⟩
  · omega
  · omega
  · rcases h with ⟨v, v1, v2, v3, v4, v5⟩ | ⟨n1, h⟩
    · omega
    · rcases h with ⟨v, v1, v2, v3, v4, v5⟩ | ⟨n2, v2, v3⟩
      · omega
      · refine ⟨⟨a.1, a.2, fun v hv => ?_, fun u v hu hv h1 h2 => ?_, n2⟩, v2⟩
        · have hf := n1 v hv
          have f1 : ¬ pa ps v < -1 := fun h => hf (.inl h)
          have f2 : ¬ (ps.length : Int) ≤ pa ps v := fun h => hf (.inr (.inl h))
          have f3 : ¬ pa ps v = (v : Int) := fun h => hf (.inr (.inr (.inl h)))
          exact ⟨by omega, by omega, f3⟩
        · rcases Nat.lt_trichotomy u v with h3 | h3 | h3
          · exact absurd (show faultA ps v from .inr (.inr (.inr ⟨h2, u, h3, h1⟩))) (n1 v hv)
          · exact h3
          · exact absurd (show faultA ps u from .inr (.inr (.inr ⟨h1, v, h3, h2⟩))) (n1 u hu)
theorem good_chk {ps : List Int} (G : Gr.Good ps) : ChkIs ps 0 0 := by
  refine .inr (.inr ⟨⟨G.pos, G.few⟩, .inr ⟨fun u hu h => ?_, .inr ⟨G.all, rfl, rfl⟩⟩⟩)
  have hr := G.rng u hu
  rcases h with h | h | h | ⟨h, x, hx, hx2⟩
  · omega
  · omega
  · omega
  · have := G.one u x hu (by omega) h hx2
    omega
theorem climb_step (ps : List Int) (k v : Nat) : ∀ (x : Int), climb ps (k + 1) x = if climb ps k x = -1 then -1 else pa ps (climb ps k x).toNat := by
  induction k with
  | zero => intro x; rfl
  | succ k ih =>
    intro x
    show (if x = -1 then -1 else climb ps (k + 1) (pa ps x.toNat)) = _
    by_cases hx : x = -1
    · rw [if_pos hx]
      have : climb ps (k + 1) x = -1 := by rw [hx]; rfl
      rw [if_pos this]
    · rw [if_neg hx, ih]
      have : climb ps (k + 1) x = climb ps k (pa ps x.toNat) := by
        show (if x = -1 then -1 else _) = _
        rw [if_neg hx]
      rw [this]

theorem climb_rng {ps : List Int} (h : ∀ v, v < ps.length → -1 ≤ pa ps v ∧ pa ps v < (ps.length : Int)) (v : Nat) (hv : v < ps.length) : ∀ k, -1 ≤ climb ps k (v : Int) ∧ climb ps k (v : Int) < (ps.length : Int) := by
  intro k
  induction k with
  | zero => exact ⟨by show -1 ≤ (v : Int); omega, by show (v : Int) < _; omega⟩
  | succ k ih =>
    rw [climb_step ps k 0]
    by_cases hc : climb ps k (v : Int) = -1
    · rw [if_pos hc]; omega
    · rw [if_neg hc]
      exact h _ (by omega)
theorem rng_of {ps : List Int} (h : ∀ u, u < ps.length → ¬ faultA ps u) : ∀ v, v < ps.length → -1 ≤ pa ps v ∧ pa ps v < (ps.length : Int) := by
  intro v hv
  have hf := h v hv
  have f1 : ¬ pa ps v < -1 := fun h => hf (.inl h)
  have f2 : ¬ (ps.length : Int) ≤ pa ps v := fun h => hf (.inr (.inl h))
  omega

/-- What the first loop knows of the nodes that it has seen. -/
def RootsAt (ps : List Int) (v rt : Nat) : Prop := (∀ u, u < v → ¬ faultA ps u) ∧ ((rt = 0 ∧ ∀ u, u < v → pa ps u ≠ -1) ∨ (rt = 1 ∧ ∃ u, u < v ∧ pa ps u = -1))
end Go.Proofs.Ytcicpgiljceioaa.Pk

/- Numbers of the call's own: what owns them, and how they are appended to. -/
namespace Go.Proofs.Ytcicpgiljceioaa.Pk
open Go.RowKit
set_option linter.unusedVariables false

theorem int_info : (Try.prog.info? 3).map (fun i => (i.zero, i.size, i.bytes)) = some (some (.int .i64 0), 1, 8) := by kernel_rfl
/-- The value owns the numbers l, in new memory from block B on. -/
def OwnN (w : World) (B : Nat) (v : Value) (l : List Int) : Prop := w.ownsRow B 3 1 v l.length (nms l)
theorem OwnN.none_ (w : World) (B : Nat) : OwnN w B (.slice none 0 0) [] := ⟨rfl, .inl ⟨rfl, rfl⟩⟩
theorem OwnN.alloc {w : World} {B : Nat} {v : Value} {l : List Int} (h : OwnN w B v l) (o : Obj) : OwnN (w.alloc o) B v l := World.ownsRow.alloc h o
theorem OwnN.below {w w' : World} {B : Nat} {v : Value} {l : List Int} (h : OwnN w B v l) (hb : Below w.heap.size w w') : OwnN w' B v l := by
  obtain ⟨h1, h2⟩ := h
  refine ⟨h1, ?_⟩
  rcases h2 with h2 | ⟨g, cap, cur, e, hg, hh, hr⟩
  · exact .inl h2
  · refine .inr ⟨g, cap, cur, e, hg, ?_, hr⟩
    have hlt : g < w.heap.size := by
      rcases Nat.lt_or_ge g w.heap.size with hlt | hge
      · exact hlt
      · rw [Array.getElem?_eq_none hge] at hh; cases hh
    rw [hb.block g hlt]; exact hh
theorem OwnN.reads {w : World} {B : Nat} {v : Value} {l : List Int} (h : OwnN w B v l) : ∃ A c, v = .slice A l.length c ∧ l.length ≤ c ∧ Reads w w.heap.size 1 A l.length (nms l) := by
  have h2 := h
  obtain ⟨h1, ⟨rfl, e⟩ | ⟨g, cap, cur, rfl, _, _, hc, _⟩⟩ := h2
  · obtain rfl : l = [] := List.length_eq_zero_iff.1 e
    exact ⟨none, 0, rfl, by simp, Reads.none_⟩
  · exact ⟨_, cap, rfl, hc, Reads.of_own h⟩
theorem ownN_base {w : World} {base : Nat} {v : Value} {l : List Int} (h : OwnN w base v l) : ∀ k, v.ownBlock = some k → base ≤ k := by
  intro k hk
  rcases h.2 with ⟨rfl, _⟩ | ⟨g, cap, cur, rfl, hb, _⟩
  · simp [Value.ownBlock] at hk
  · simp [Value.ownBlock] at hk; omega
theorem ownN_lt {w : World} {B : Nat} {v : Value} {l : List Int} (h : OwnN w B v l) : ∀ g, v.ownBlock = some g → g < w.heap.size := by
  intro g hg
  rcases h.2 with ⟨rfl, _⟩ | ⟨g', cap, cur, rfl, _, hh, _⟩
  · simp [Value.ownBlock] at hg
  · simp [Value.ownBlock] at hg
    subst hg
    rcases Nat.lt_or_ge g' w.heap.size with h' | h'
    · exact h'
    · rw [Array.getElem?_eq_none h'] at hh; cases hh
/-- One number more, out of a new box. -/
theorem appN {ops : Array Oper} {rest : List Oper} {o : Oper} {a : Act} {Q : Exit → Act → World → Prop} (w : World) (k : Int) (T : TypeId) (hgd : o.guard = none) (so x : Operand)
    (ho : o.op = .call { callee := .builtin .append, args := #[so, x], argTypes := #[22, 22] }) (B : Nat) (v : Value) (l : List Int) (hs : a.eval so = v) (hown : OwnN w B v l)
    (g : Nat) (hg : g = w.heap.size) (hx : a.eval x = .slice (some ⟨g, 0, none⟩) 1 1) (hlen : (l.length + 1) * 8 ≤ 140737488355328) (hB : B ≤ w.heap.size)
    (h : ∀ v' w', OwnN w' B v' (l ++ [k]) → Below B w w' → (w.alloc (.cells #[.int .i64 k] T)).grownBy w' v.ownBlock → wpList Try.prog ops Q rest (a.put o.dst v') w') : wpList Try.prog ops Q (o :: rest) a (w.alloc (.cells #[.int .i64 k] T)) := by
  subst hg
  obtain ⟨i0, hi0, hz0, hz1, hz2⟩ := info_parts int_info
  refine wpList_append_own _ hgd so x _ ho B 3 i0 _ 1 8 Try.underlying22 hi0 hz0 hz1 hz2 rfl (by omega) v l.length (nms l) hs (World.ownsRow.alloc hown _) ⟨w.heap.size, 0, none⟩ 1 1 (nms [k]) hx rfl ?_ (nms_one _)
    (by unfold maxLen; omega) (by omega) (by simp; omega) ?_
  · intro j u hj
    match j, hj with
    | 0, hj => simp [nms] at hj; subst hj; simp [Addr.add]
    | j + 1, hj => simp [nms] at hj
  · intro v' w' ho hg _
    refine h v' w' ?_ (((Below.refl _ _).alloc hB _).grown hg (by simp; omega) (ownN_base hown)) hg
    unfold OwnN
    rw [← nms_append, List.length_append]; exact ho
end Go.Proofs.Ytcicpgiljceioaa.Pk

/- The document's answer for trees (fletchref04): Neighbours. -/
namespace Go.Proofs.Ytcicpgiljceioaa.Pk
open Go.RowKit Go.Proofs.Ytcicpgiljceioaa.Gr
set_option linter.unusedVariables false

/-- The neighbours of v below k. -/
def nbs (ps : List Int) (v k : Nat) : List Int := List.map (fun u : Nat => (u : Int)) (List.filter (fun u : Nat => nearL ps u v) (List.range k))
theorem nbs_succ (ps : List Int) (v k : Nat) : nbs ps v (k + 1) = if nearL ps k v = true then nbs ps v k ++ [(k : Int)] else nbs ps v k := by
  unfold nbs
  rw [List.range_succ, List.filter_append, List.map_append]
  by_cases h : nearL ps k v = true
  · rw [if_pos h]; simp [h]
  · rw [if_neg h]; simp [h]
theorem nbs_len (ps : List Int) (v k : Nat) : (nbs ps v k).length ≤ k := by
  unfold nbs
  rw [List.length_map]
  exact Nat.le_trans (List.length_filter_le _ _) (by simp)
def nbsI (ps : List Int) (v : Int) : List Int := if 0 ≤ v ∧ v < (ps.length : Int) then nbs ps v.toNat ps.length else []

end Go.Proofs.Ytcicpgiljceioaa.Pk

/- Distances that are found round by round. -/
namespace Go.Proofs.Ytcicpgiljceioaa.Gr
set_option linter.unusedVariables false

/-- What the rounds need to know of the distances from one node. -/
structure Far (n f : Nat) (d : Nat → Nat) (nr : Nat → Nat → Bool) : Prop where
  step : ∀ u v, u < n → v < n → nr u v = true → d u = d v + 1 ∨ d v = d u + 1
  nearer : ∀ x, x < n → d x ≠ 0 → ∃ y, y < n ∧ nr x y = true ∧ d y + 1 = d x
  zero : ∀ x, x < n → (d x = 0 ↔ x = f)
  lt : ∀ x, x < n → d x < n
/-- In round r, at the nodes v and u. -/
structure Wave (d : Nat → Nat) (nr : Nat → Nat → Bool) (n r v u : Nat) (ds : List Int) : Prop where
  len : ds.length = n
  low : ∀ x, x < n → d x ≤ r → ds.getD x 0 = (d x : Int)
  high : ∀ x, x < n → r + 1 < d x → ds.getD x 0 = -1
  mid : ∀ x, x < n → d x = r + 1 → ds.getD x 0 = -1 ∨ ds.getD x 0 = (r : Int) + 1
  past : ∀ x y, x < n → d x = r + 1 → y < v → d y = r → nr x y = true → ds.getD x 0 = (r : Int) + 1
  here : ∀ x, x < n → d x = r + 1 → d v = r → nr x v = true → x < u → ds.getD x 0 = (r : Int) + 1

variable {n f r v u : Nat} {d : Nat → Nat} {nr : Nat → Nat → Bool} {ds : List Int}
theorem Wave.at_ (W : Wave d nr n r v u ds) {y : Nat} (hy : y < n) : ds.getD y 0 = (r : Int) ↔ d y = r := by
  constructor
  · intro h
    rcases Nat.lt_trichotomy (d y) (r + 1) with h1 | h1 | h1
    · have := W.low y hy (by omega); omega
    · rcases W.mid y hy h1 with h2 | h2 <;> omega
    · have := W.high y hy h1; omega
  · intro h
    have := W.low y hy (by omega); omega
theorem Wave.low_iff (W : Wave d nr n r v u ds) {y : Nat} (hy : y < n) (h : ds.getD y 0 < 0) : r < d y := by
  rcases Nat.lt_or_ge r (d y) with h1 | h1
  · exact h1
  · have := W.low y hy h1; omega
theorem Wave.step_no (W : Wave d nr n r v u ds) (hv : v < n) (hu : u < n) (h : ¬ (ds.getD v 0 = (r : Int) ∧ ds.getD u 0 < 0 ∧ nr u v = true)) : Wave d nr n r v (u + 1) ds where
  len := W.len
  low := W.low
  high := W.high
  mid := W.mid
  past := W.past
  here := by
    intro x hx h1 h2 h3 h4
    rcases Nat.lt_or_ge x u with h5 | h5
    · exact W.here x hx h1 h2 h3 h5
    · obtain rfl : x = u := by omega
      rcases W.mid x hx h1 with h6 | h6
      · exact absurd ⟨(W.at_ hv).2 h2, by omega, h3⟩ h
      · exact h6
theorem getD_set_self {ds : List Int} {u : Nat} {x : Int} (h : u < ds.length) : (ds.set u x).getD u 0 = x := by
  simp [List.getD, h]
theorem getD_set_ne {ds : List Int} {u y : Nat} {x : Int} (h : u ≠ y) : (ds.set u x).getD y 0 = ds.getD y 0 := by
  simp [List.getD, List.getElem?_set_ne h]
theorem Wave.step_yes (H : Far n f d nr) (W : Wave d nr n r v u ds) (hv : v < n) (hu : u < n) (h1 : ds.getD v 0 = (r : Int)) (h2 : ds.getD u 0 < 0) (h3 : nr u v = true) : Wave d nr n r v (u + 1) (ds.set u ((r : Int) + 1)) := by
  have hl := W.len
  have dv := (W.at_ hv).1 h1
  have du0 := W.low_iff hu h2
  have du : d u = r + 1 := by rcases H.step u v hu hv h3 with h | h <;> omega
  have key : ∀ x, x < n → d x = r + 1 → ds.getD x 0 = (r : Int) + 1 → (ds.set u ((r : Int) + 1)).getD x 0 = (r : Int) + 1 := by
    intro x hx hx1 hx2
    by_cases e : u = x
    · subst e; exact getD_set_self (by omega)
    · rw [getD_set_ne e]; exact hx2
  refine ⟨by simp [hl], fun x hx h => ?_, fun x hx h => ?_, fun x hx h => ?_, fun x y hx h hy hy2 hn => key x hx h (W.past x y hx h hy hy2 hn), fun x hx h hd hn hlt => ?_⟩
  · rw [getD_set_ne (by intro e; subst e; omega)]; exact W.low x hx h
  · rw [getD_set_ne (by intro e; subst e; omega)]; exact W.high x hx h
  · by_cases e : u = x
    · subst e; exact .inr (getD_set_self (by omega))
    · rw [getD_set_ne e]; exact W.mid x hx h
  · by_cases e : u = x
    · subst e; exact getD_set_self (by omega)
    · rw [getD_set_ne e]; exact W.here x hx h hd hn (by omega)
theorem Wave.next_v (W : Wave d nr n r v n ds) : Wave d nr n r (v + 1) 0 ds where
  len := W.len
  low := W.low
  high := W.high
  mid := W.mid
  past := by
    intro x y hx h1 hy h2 h3
    rcases Nat.lt_or_ge y v with h5 | h5
    · exact W.past x y hx h1 h5 h2 h3
    · obtain rfl : y = v := by omega
      exact W.here x hx h1 h2 h3 hx
  here := fun x hx h1 h2 h3 h4 => by omega
theorem Wave.next_r (H : Far n f d nr) (W : Wave d nr n r n 0 ds) : Wave d nr n (r + 1) 0 0 ds where
  len := W.len
  low := by
    intro x hx h
    rcases Nat.lt_or_ge r (d x) with h1 | h1
    · have hx1 : d x = r + 1 := by omega
      obtain ⟨y, hy, hn, hd⟩ := H.nearer x hx (by omega)
      rw [W.past x y hx hx1 hy (by omega) hn, hx1]; omega
    · exact W.low x hx h1
  high := fun x hx h => W.high x hx (by omega)
  mid := fun x hx h => .inl (W.high x hx (by omega))
  past := fun x y hx h1 hy h2 h3 => by omega
  here := fun x hx h1 h2 h3 h4 => by omega
theorem Wave.start (H : Far n f d nr) (hf : f < n) : Wave d nr n 0 0 0 ((List.replicate n (-1 : Int)).set f 0) := by
  have key : ∀ x, x < n → d x ≠ 0 → ((List.replicate n (-1 : Int)).set f 0).getD x 0 = -1 := by
    intro x hx h
    have hne : f ≠ x := fun e => h ((H.zero x hx).2 e.symm)
    rw [getD_set_ne hne]
    simp [List.getD, hx]
  refine ⟨by simp, fun x hx h => ?_, fun x hx h => key x hx (by omega), fun x hx h => .inl (key x hx (by omega)), fun x y hx h1 hy h2 h3 => by omega, fun x hx h1 h2 h3 h4 => by omega⟩
  have : x = f := (H.zero x hx).1 (by omega)
  subst this
  rw [getD_set_self (by simpa using hx)]
  have : d x = 0 := by omega
  omega
theorem Wave.done (H : Far n f d nr) (W : Wave d nr n n 0 0 ds) : ds = (List.range n).map fun x => (d x : Int) := by
  have hl := W.len
  apply List.ext_getElem (by simp [hl])
  intro i h1 h2
  have := W.low i (by omega) (by have := H.lt i (by omega); omega)
  rw [List.getD_eq_getElem?_getD, List.getElem?_eq_getElem h1] at this
  simpa using this

variable {ps : List Int}
/-- The distance in a good list. -/
def distL (ps : List Int) (a b : Nat) : Nat := dist (par ps) (dep ps) a b
theorem Good.far (G : Good ps) {f : Nat} (hf : f < ps.length) : Far ps.length f (fun x => distL ps x f) (nearL ps) where
  step := fun u v hu hv h => G.rt.step hu hv hf ((G.near_iff hu hv).1 h)
  nearer := by
    intro x hx h
    have hne : x ≠ f := fun e => h (by subst e; exact dist_self x)
    obtain ⟨y, hy, hn, hd⟩ := G.rt.nearer _ x f hx hf hne (Nat.le_refl _)
    exact ⟨y, hy, (G.near_iff hx hy).2 (near_symm hn), hd⟩
  zero := by
    intro x hx
    constructor
    · exact fun h => G.rt.dist_zero hx hf h
    · rintro rfl; exact dist_self x
  lt := fun x hx => G.rt.dist_lt hx hf
end Go.Proofs.Ytcicpgiljceioaa.Gr
