/- How rows of any kind that come in are opened. -/
import Derived.Test.YtcicpgiljceioaaZRange
import Derived.Test.YtcicpgiljceioaaZKind
import Derived.Lib.SmallJoins
import Derived.Deep.Slices
import Derived.Deep.Fields
import Derived.Deep.Grids
import Derived.ChangeSame
import Derived.Test.YtcicpgiljceioaaZWords
import Derived.Test.YtcicpgiljceioaaProg
import Derived.LoopTactic
import Derived.Outline
import Derived.Lib.Hide
import Derived.WalkKit
namespace Go.Proofs.Ytcicpgiljceioaa.Ar
open Go.ChangeShapes Go.WideShapes Go.ChangeAt Go.RowKit Go.Deep Go.Joins Go.Proofs.Ytcicpgiljceioaa.Pk
set_option linter.unusedVariables false
theorem weightsAll_mem {H : Type} {P : Program} {e : TypeId} {d : DataW H} {l : List (DataW H)} {x : Nat} (h : d ∈ l) (hx : x ∈ d.weights P e) : x ∈ DataW.weightsAll P e l := by
  induction l with
  | nil => cases h
  | cons y r ih =>
    simp only [DataW.weightsAll, List.mem_append]
    rcases List.mem_cons.1 h with rfl | h
    · exact .inl hx
    · exact .inr (ih h)
/-- No part of an argument is longer than a machine reaches. -/
def WtsOk {H : Type} (t : TypeId) (d : DataW H) : Prop := ∀ x ∈ d.weights Try.prog t, x ≤ 140737488351232
theorem wts_arg {H : Type} {ts : List TypeId} {ds : List (DataW H)} (h : (DataW.weightsEach Try.prog ts ds).all (· ≤ reachBytes) = true) {j : Nat} {t : TypeId} {d : DataW H} (ht : ts[j]? = some t) (hd : ds[j]? = some d) : WtsOk t d := fun x hx => by
  have := List.all_eq_true.1 h _ (DataW.weights_mem_each ht hd x hx)
  have h2 : x ≤ reachBytes := by simpa using this
  exact h2
section
variable {H : Type} {enc : TypeId × Value → H} {W : World}
theorem open_slice_fields {P : Program} {w : World} {base : Nat} {spare : Nat → Bool} {held : Bool} {t e : TypeId} {fs : Array Field} {fuel : Nat} {cs : List Value} {x : DataW H × List MemPlace} (ht : P.underlying t = some (.slice e)) (he : P.underlying e = some (.struct fs))
    (hone : oneCellFields P fs = true) (hC : P.cellsOf e = fs.size) (h : DataW.trod enc P w base spare held fuel t cs = some x) :
    (cs = [.slice none 0 0] ∧ x = (.nil, [])) ∨
    ∃ (a : Addr) (len cap m : Nat) (D : Nat → DataW H) (Pl : Nat → List MemPlace), cs = [.slice (some a) len cap] ∧ base ≤ a.block ∧ len ≤ cap ∧ cap ≤ maxLen ∧ m = (if spare a.block then cap else len) ∧
      x = (.slice ((List.range len).map D) ((List.range (m - len)).map fun j => D (len + j)), MemPlace.row a (m * fs.size) ++ (List.range m).flatMap Pl) ∧
      ∀ i, i < m → ∃ (ys : List (DataW H × List MemPlace)) (n : Nat), D i = .agg (ys.map (·.1)) ∧ Pl i = ys.flatMap (·.2) ∧ ys.length = fs.size ∧
        ∀ (j : Nat) (f : Field), fs[j]? = some f → ∃ (v : Value) (y : DataW H × List MemPlace), w.cell? (a.add (i * fs.size + j)) = some v ∧ ys[j]? = some y ∧ DataW.trod enc P w base spare held n f.type [v] = some y := by
  rcases open_slice ht h with h0 | ⟨a, len, cap, m, n, D, Pl, hcs, hb, hl, hm, hmm, hx, hi⟩
  · exact .inl h0
  · refine .inr ⟨a, len, cap, m, D, Pl, hcs, hb, hl, hm, hmm, by rw [hC] at hx; exact hx, fun i him => ?_⟩
    obtain ⟨cs', hc, ht'⟩ := hi i him
    rw [hC] at hc
    obtain ⟨ys, n', hn', hy, hlen, hyl, hf⟩ := DataW.trod_struct he ht'
    obtain ⟨_, hcl, hat⟩ := World.cells?_some hc
    simp only [Prod.mk.injEq] at hy
    refine ⟨ys, n', hy.1, hy.2, hyl, fun j f hj => ?_⟩
    obtain ⟨ho, hk⟩ := hone_of hone j f hj
    have hjl : j < fs.size := (Array.getElem?_eq_some_iff.1 hj).1
    have hcell := hat j hjl
    have hv : cs'[j]? = some (cs'[j]'(by omega)) := List.getElem?_eq_getElem (by omega)
    have h1 := hf j f hj
    rw [ho, hk] at h1
    have hone' : (cs'.drop j).take 1 = [cs'[j]'(by omega)] := by
      rw [List.drop_eq_getElem_cons (by omega)]
      rfl
    rw [hone'] at h1
    have hys : ys[j]? = some (ys[j]'(by omega)) := List.getElem?_eq_getElem (by omega)
    refine ⟨_, _, ?_, hys, h1.trans hys⟩
    rw [← Go.Deep.add_add, hcell, hv]
/-- What one element's fields say. -/
def ElemOk {α : Type} (enc : TypeId × Value → H) (W : World) (R : Row α) (P : α → Prop) (fs : Array Field) : Prop :=
  ∀ (d : DataW H) (ys : List (DataW H × List MemPlace)) (n : Nat) (u : Nat → Value), WtsOk R.T d → d = .agg (ys.map (·.1)) →
    (∀ j f, fs[j]? = some f → ∃ y, ys[j]? = some y ∧ DataW.trod enc Try.prog W 0 (fun _ => true) true n f.type [u j] = some y) → ∃ r : α, P r ∧ ∀ j, j < R.k → (R.enc r)[j]? = some (u j)
theorem open_row {α : Type} [Inhabited α] (R : Row α) (P : α → Prop) {fs : Array Field} (hs : Try.prog.underlying R.T = some (.struct fs)) (hone : oneCellFields Try.prog fs = true) (hC : Try.prog.cellsOf R.T = fs.size) (hk : fs.size = R.k) (hbo : Try.prog.bytesOf R.T = R.by_)
    (elem : ElemOk enc W R P fs) {fuel : Nat} {v : Value} {y : DataW H × List MemPlace} (hf : DataW.trod enc Try.prog W 0 (fun _ => true) true fuel R.S [v] = some y) (hb : WtsOk R.S y.1) :
    ∃ a n c l, v = .slice a n c ∧ Reads W W.heap.size R.k a n (R.cells l) ∧ n ≤ c ∧ n * R.by_ ≤ 140737488351232 ∧ ∀ r ∈ l, P r := by
  rcases open_slice_fields R.und hs hone hC hf with ⟨hcs, _⟩ | ⟨x, len, cap, m, D, Pl, hcs, _, hl, hm, hmm, hx, hi⟩
  · simp at hcs
    subst hcs
    exact ⟨none, 0, 0, [], rfl, Reads.none_, Nat.le_refl _, by omega, fun x hx => by cases hx⟩
  · simp at hcs
    subst hcs
    obtain ⟨n, hn⟩ : ∃ n, n = len := ⟨_, rfl⟩
    subst hn
    simp only [if_true] at hmm
    subst hmm
    have hd : y.1 = .slice ((List.range n).map D) ((List.range (m - n)).map fun j => D (n + j)) := by rw [hx]
    have hbs := hb ((((List.range n).map D).length + ((List.range (m - n)).map fun j => D (n + j)).length) * Try.prog.bytesOf R.T) (by rw [hd]; simp [DataW.weights, R.und])
    have hbe : ∀ i, i < n → WtsOk R.T (D i) := fun i hi x hx => hb x (by
      rw [hd]
      simp only [DataW.weights, R.und]
      exact List.mem_cons_of_mem _ (List.mem_append_left _ (weightsAll_mem (List.mem_map.2 ⟨i, List.mem_range.2 hi, rfl⟩) hx)))
    rw [hbo] at hbs
    simp only [List.length_map, List.length_range] at hbs
    have hbn : n * R.by_ ≤ 140737488351232 := Nat.le_trans (Nat.mul_le_mul_right _ (by omega)) hbs
    have each : ∀ i, i < n → ∃ r : α, P r ∧ ∀ j, j < R.k → W.cell? (x.add (i * R.k + j)) = (R.enc r)[j]? := by
      intro i hin
      obtain ⟨ys, n', hD, _, hyl, hall⟩ := hi i (by omega)
      obtain ⟨u, hu⟩ := choose_lt (α := Value) (n := fs.size) (p := fun j v => ∀ f, fs[j]? = some f → ∃ y, W.cell? (x.add (i * fs.size + j)) = some v ∧ ys[j]? = some y ∧ DataW.trod enc Try.prog W 0 (fun _ => true) true n' f.type [v] = some y)
        (fun j hj => by
          obtain ⟨v, y, h1, h2, h3⟩ := hall j fs[j] (Array.getElem?_eq_getElem hj)
          exact ⟨v, fun f hf => by rw [Array.getElem?_eq_getElem hj] at hf; injection hf with hf; subst hf; exact ⟨y, h1, h2, h3⟩⟩)
      obtain ⟨r, hP, hr⟩ := elem (D i) ys n' u (hbe i hin) hD (fun j f hj => by
        obtain ⟨y, _, h2, h3⟩ := hu j (Array.getElem?_eq_some_iff.1 hj).1 f hj
        exact ⟨y, h2, h3⟩)
      refine ⟨r, hP, fun j hj => ?_⟩
      obtain ⟨y, h1, _, _⟩ := hu j (by omega) fs[j] (Array.getElem?_eq_getElem (by omega))
      rw [hr j hj, ← hk, h1]
    obtain ⟨g, hg⟩ := choose_lt (α := α) (p := fun i r => P r ∧ ∀ j, j < R.k → W.cell? (x.add (i * R.k + j)) = (R.enc r)[j]?) each
    refine ⟨some x, n, m, (List.range n).map g, rfl, ⟨by simp, fun hn => ⟨x, rfl, ?_, fun j u hj => ?_⟩⟩, hl, hbn, fun r hr' => ?_⟩
    · have h0 := (hg 0 (by omega)).2 0 R.pos
      rw [List.getElem?_eq_getElem (by rw [R.len]; exact R.pos)] at h0
      have := lt_heap h0
      simpa [block_of_add] using this
    · have hjn : j < n * R.k := by
        have := (List.getElem?_eq_some_iff.1 hj).1
        simpa using this
      have hdj : j / R.k < n := (Nat.div_lt_iff_lt_mul R.pos).2 hjn
      have hmj : j % R.k < R.k := Nat.mod_lt _ R.pos
      have hq : ((List.range n).map g)[j / R.k]? = some (g (j / R.k)) := by rw [List.getElem?_map, List.getElem?_range hdj]; rfl
      have he : j / R.k * R.k + j % R.k = j := by rw [Nat.mul_comm]; exact Nat.div_add_mod j R.k
      have hc := R.cells_get hq hmj
      rw [he] at hc
      have := (hg (j / R.k) hdj).2 _ hmj
      rw [he] at this
      rw [this, ← hc, hj]
    · obtain ⟨i, hi, rfl⟩ := List.mem_map.1 hr'
      exact (hg i (by simpa using hi)).1
end
end Go.Proofs.Ytcicpgiljceioaa.Ar

/- Cells as they lie: four ints. -/
namespace Go.Proofs.Ytcicpgiljceioaa.Pk
open Go.RowKit
set_option linter.unusedVariables false
/-- A request: its number, its state, its successor's node and number. -/
structure Ce where
  n : Int
  s : Int
  d : Int
  x : Int
  deriving DecidableEq
def Ce.zero : Ce := ⟨0, 0, 0, 0⟩
def Ce.val (m : Ce) : Value := .agg #[.int .i64 m.n, .int .i64 m.s, .int .i64 m.d, .int .i64 m.x]
structure Ce.I (m : Ce) : Prop where
  n : -9223372036854775808 ≤ m.n ∧ m.n ≤ 9223372036854775807
  s : -9223372036854775808 ≤ m.s ∧ m.s ≤ 9223372036854775807
  d : -9223372036854775808 ≤ m.d ∧ m.d ≤ 9223372036854775807
  x : -9223372036854775808 ≤ m.x ∧ m.x ≤ 9223372036854775807
end Go.Proofs.Ytcicpgiljceioaa.Pk

/- Plain mathematics of numbers as bytes: what a number's bytes are, and what bytes begin with. -/
namespace Go.Proofs.Ytcicpgiljceioaa.Pk

/-- The bytes of a number (fuel first): seven bits each, the lowest first. -/
def enc : Nat → Int → List Int
  | 0, x => [x]
  | n + 1, x => if x < 128 then [x] else (x % 128 + 128) :: enc n (x / 128)

/-- What bytes begin with: the number and how many bytes, within n bytes. -/
def tk : Nat → List Int → Option (Int × Nat)
  | 0, _ => none
  | _ + 1, [] => none
  | n + 1, c :: r => if c < 128 then some (c, 1) else
      match tk n r with
      | some (x, k) => if x = 0 then none else some (c - 128 + 128 * x, k + 1)
      | none => none

def isB (l : List Int) : Prop := ∀ c ∈ l, 0 ≤ c ∧ c ≤ 255

/-- y fits in m + 1 sevens of bits. -/
def fits (m : Nat) (y : Int) : Prop := y < 128 ^ (m + 1)

theorem fits_top (x : Int) (h : x ≤ 9223372036854775807) : fits 8 x := by
  unfold fits; simp only [Int.reducePow, Nat.reduceAdd]; omega

theorem fits_down {m : Nat} {y : Int} (h : fits m y) (hy : ¬ y < 128) : ∃ m', m = m' + 1 ∧ fits m' (y / 128) := by
  unfold fits at *
  cases m with
  | zero => simp at h; omega
  | succ m =>
    refine ⟨m, rfl, ?_⟩
    rw [Int.pow_succ] at h; omega

theorem enc_lo (n : Nat) {x : Int} (h : x < 128) : enc n x = [x] := by
  cases n <;> simp [enc]; omega

theorem enc_hi (n : Nat) {x : Int} (h : ¬ x < 128) : enc (n + 1) x = (x % 128 + 128) :: enc n (x / 128) := by
  simp [enc, h]

theorem enc_len_pos (n : Nat) (x : Int) : 1 ≤ (enc n x).length := by
  cases n <;> simp [enc]; split <;> simp

theorem enc_len_le (n : Nat) : ∀ (x : Int), (enc n x).length ≤ n + 1 := by
  induction n with
  | zero => intro x; simp [enc]
  | succ n ih => intro x; unfold enc; split <;> simp; exact ih _

theorem enc_isB (n : Nat) : ∀ (x : Int), 0 ≤ x → fits n x → isB (enc n x) := by
  induction n with
  | zero => intro x h0 h1 c hc; simp [enc] at hc; simp [fits] at h1; subst hc; omega
  | succ n ih =>
    intro x h0 h1 c hc
    unfold enc at hc
    split at hc
    · simp at hc; subst hc; omega
    · rename_i hx
      simp at hc
      rcases hc with rfl | hc
      · omega
      · obtain ⟨m', hm, h2⟩ := fits_down h1 hx
        obtain rfl : n = m' := by omega
        exact ih (x / 128) (by omega) h2 c hc

/-- What was put is taken, whatever stands behind. -/
theorem tk_enc (n : Nat) : ∀ (x : Int) (r : List Int), 0 ≤ x → fits n x → tk (n + 1) (enc n x ++ r) = some (x, (enc n x).length) := by
  induction n with
  | zero => intro x r h0 h1; simp [fits] at h1; simp [enc, tk, h1]
  | succ n ih =>
    intro x r h0 h1
    by_cases hx : x < 128
    · rw [enc_lo _ hx]; simp [tk, hx]
    · obtain ⟨m', hm, h2⟩ := fits_down h1 hx
      obtain rfl : n = m' := by omega
      rw [enc_hi _ hx, List.cons_append]
      have e := ih (x / 128) r (by omega) h2
      rw [tk, e]
      rw [if_neg (by omega)]
      simp only []
      rw [if_neg (by omega)]
      simp; omega

/-- What is taken is a number, and its bytes are those that are taken. -/
theorem enc_tk (n : Nat) : ∀ (l : List Int) (x : Int) (k : Nat), isB l → tk (n + 1) l = some (x, k) → 0 ≤ x ∧ fits n x ∧ 1 ≤ k ∧ k ≤ l.length ∧ k ≤ n + 1 ∧ enc n x = l.take k := by
  induction n with
  | zero =>
    intro l x k hb h
    cases l with
    | nil => simp [tk] at h
    | cons c r =>
      have := hb c (by simp)
      by_cases hc : c < 128
      · simp [tk, hc] at h; obtain ⟨rfl, rfl⟩ := h; simp [enc, fits]; omega
      · simp [tk, hc] at h
  | succ n ih =>
    intro l x k hb h
    cases l with
    | nil => simp [tk] at h
    | cons c r =>
      have hc0 := hb c (by simp)
      by_cases hc : c < 128
      · simp [tk, hc] at h; obtain ⟨rfl, rfl⟩ := h
        refine ⟨by omega, ?_, by omega, by simp, by omega, ?_⟩
        · unfold fits
          have : (128 : Int) ^ 1 ≤ 128 ^ (n + 1 + 1) := by
            have := Nat.pow_le_pow_right (n := 128) (by omega) (show 1 ≤ n + 1 + 1 by omega)
            exact_mod_cast this
          omega
        · rw [enc_lo _ hc]; simp
      · rw [tk, if_neg hc] at h
        cases ht : tk (n + 1) r with
        | none => rw [ht] at h; simp at h
        | some p =>
          obtain ⟨y, j⟩ := p
          rw [ht] at h
          simp only [] at h
          by_cases hy : y = 0
          · rw [if_pos hy] at h; simp at h
          · rw [if_neg hy] at h
            simp at h
            obtain ⟨rfl, rfl⟩ := h
            obtain ⟨g1, g2, g3, g4, g5, g6⟩ := ih r y j (fun d hd => hb d (by simp [hd])) ht
            refine ⟨by omega, ?_, by omega, by simp; omega, by omega, ?_⟩
            · unfold fits at *
              rw [Int.pow_succ]; omega
            · rw [enc_hi _ (by omega)]
              have e1 : (c - 128 + 128 * y) % 128 + 128 = c := by omega
              have e2 : (c - 128 + 128 * y) / 128 = y := by omega
              rw [e1, e2, g6]; simp

theorem tk_len {n : Nat} {l : List Int} {x : Int} {k : Nat} (hb : isB l) (h : tk n l = some (x, k)) : 0 ≤ x ∧ 1 ≤ k ∧ k ≤ l.length ∧ k ≤ n := by
  cases n with
  | zero => simp [tk] at h
  | succ n => have := enc_tk n l x k hb h; omega

/-- What Take answers. -/
def tkv (l : List Int) : Int × Nat := (tk 9 l).getD (0, 0)

/-- Take's own loop: at place i, x gathered, n rounds left, r the bytes that are left. -/
def tgo : Nat → Nat → Int → List Int → Int × Nat
  | 0, _, _, _ => (0, 0)
  | _ + 1, _, _, [] => (0, 0)
  | n + 1, i, x, c :: r => if 128 ≤ c then tgo n (i + 1) (x + (c - 128) * 128 ^ i) r else if c = 0 ∧ 0 < i then (0, 0) else (x + c * 128 ^ i, i + 1)

theorem tgo_tk (n : Nat) : ∀ (i : Nat) (x : Int) (l : List Int), isB l → tgo n i x l = match tk n l with
    | some (y, k) => if 0 < i ∧ y = 0 then (0, 0) else (x + y * 128 ^ i, i + k)
    | none => (0, 0) := by
  induction n with
  | zero => intro i x l hb; simp [tgo, tk]
  | succ n ih =>
    intro i x l hb
    cases l with
    | nil => simp [tgo, tk]
    | cons c r =>
      have hc := hb c (by simp)
      have hr : isB r := fun d hd => hb d (by simp [hd])
      by_cases h : 128 ≤ c
      · rw [tgo, if_pos h, tk, if_neg (by omega), ih _ _ _ hr]
        cases ht : tk n r with
        | none => simp
        | some p =>
          obtain ⟨y, k⟩ := p
          have hy := tk_len hr ht
          simp only []
          by_cases hy0 : y = 0
          · rw [if_pos hy0, if_pos ⟨by omega, hy0⟩]
          · rw [if_neg hy0, if_neg (by omega)]
            simp only []
            rw [if_neg (by omega)]
            have e : x + (c - 128) * 128 ^ i + y * 128 ^ (i + 1) = x + (c - 128 + 128 * y) * 128 ^ i := by
              rw [Int.pow_succ, Int.add_mul, Int.add_assoc, Int.mul_comm (128 ^ i) 128, ← Int.mul_assoc, Int.mul_comm y 128]
            rw [e, show i + 1 + k = i + (k + 1) by omega]
      · have et : tk (n + 1) (c :: r) = some (c, 1) := by rw [tk, if_pos (by omega)]
        rw [tgo, if_neg h, et]
        simp only []
        by_cases hz : c = 0
        · by_cases hi : 0 < i
          · rw [if_pos ⟨hz, hi⟩, if_pos ⟨hi, hz⟩]
          · rw [if_neg (by omega), if_neg (by omega)]
        · rw [if_neg (by omega), if_neg (by omega)]

theorem tgo_top (l : List Int) (hb : isB l) : tgo 9 0 0 l = tkv l := by
  rw [tgo_tk 9 0 0 l hb, tkv]
  cases tk 9 l with
  | none => rfl
  | some p => obtain ⟨y, k⟩ := p; simp

/-- What Take answers is none, or a number with its very bytes. -/
theorem tkv_cases (l : List Int) (hb : isB l) : tkv l = (0, 0) ∨ ∃ y k, tkv l = (y, k) ∧ 0 ≤ y ∧ y ≤ 9223372036854775807 ∧ 1 ≤ k ∧ k ≤ l.length ∧ k ≤ 9 ∧ enc 8 y = l.take k := by
  unfold tkv
  cases h : tk 9 l with
  | none => exact .inl rfl
  | some p =>
    obtain ⟨y, k⟩ := p
    obtain ⟨h1, h2, h3, h4, h5, h6⟩ := enc_tk 8 l y k hb h
    refine .inr ⟨y, k, rfl, h1, ?_, h3, h4, h5, h6⟩
    unfold fits at h2
    simp only [Int.reducePow, Nat.reduceAdd] at h2
    omega

theorem encmax_len (x : Int) : (enc 8 (max x 0)).length = (enc 8 x).length := by
  by_cases h : 0 ≤ x
  · rw [Int.max_eq_left h]
  · rw [Int.max_eq_right (by omega), enc_lo _ (show x < 128 by omega), enc_lo _ (show (0 : Int) < 128 by omega)]; rfl

/-- The bytes of numbers, one behind the other. -/
def encs (xs : List Int) : List Int := xs.flatMap fun x => enc 8 (max x 0)
theorem encs_nil : encs [] = [] := rfl
theorem encs_snoc (xs : List Int) (k : Nat) (h : k < xs.length) : encs (xs.take (k + 1)) = encs (xs.take k) ++ enc 8 (max (xs.getD k 0) 0) := by
  rw [List.take_succ_eq_append_getElem h, List.getD_eq_getElem?_getD, List.getElem?_eq_getElem h]
  unfold encs
  rw [List.flatMap_append]; simp
theorem encs_len (xs : List Int) : (encs xs).length ≤ 9 * xs.length := by
  induction xs with
  | nil => simp [encs]
  | cons x r ih =>
    have := enc_len_le 8 (max x 0)
    have e : encs (x :: r) = enc 8 (max x 0) ++ encs r := rfl
    rw [e, List.length_append, List.length_cons]
    omega

open Go.RowKit in
theorem or_step (k : Nat) (y d : Int) (hk : k ≤ 8) (h0 : 0 ≤ y) (h1 : y < 128 ^ k) (h2 : 0 ≤ d) (h3 : d ≤ 127) :
    bits .or .i64 y (wrap64 (d * 2 ^ (7 * k))) = y + d * 128 ^ k ∧ y + d * 128 ^ k < 128 ^ (k + 1) ∧ 0 ≤ y + d * 128 ^ k := by
  have comm : ∀ a b : Int, bits .or .i64 a b = bits .or .i64 b a := fun a b => by simp only [bits]; rw [BitVec.or_comm]
  rw [comm]
  have hw : ∀ n : Int, 0 ≤ n → n < 2 ^ 63 → IntKind.i64.wrap n = n := fun n a b => by rw [IntKind.wrap_i64]; omega
  have key : ∀ j : Nat, j ≤ 56 → (128 : Int) ^ k = 2 ^ j → (2 : Int) ^ (7 * k) = 2 ^ j → d * 2 ^ j < 2 ^ 63 → (2 : Int) ^ j < 2 ^ 63 → bits .or .i64 (wrap64 (d * 2 ^ (7 * k))) y = y + d * 128 ^ k := by
    intro j hj e1 e2 hlt hj2
    have hd0 : 0 ≤ d * 2 ^ j := Int.mul_nonneg h2 (by exact_mod_cast Nat.zero_le _)
    rw [e2, e1]
    rw [e1] at h1
    rw [IntWalk.wrap64_in _ ⟨by omega, by omega⟩]
    rw [bits_join .i64 63 (by decide) hw j _ y hd0 (Int.mul_emod_left _ _) hlt h0 h1 (by omega)]
    omega
  have hkk : k = 0 ∨ k = 1 ∨ k = 2 ∨ k = 3 ∨ k = 4 ∨ k = 5 ∨ k = 6 ∨ k = 7 ∨ k = 8 := by omega
  rcases hkk with rfl | rfl | rfl | rfl | rfl | rfl | rfl | rfl | rfl
  · exact ⟨key 0 (by omega) (by decide) (by decide) (by omega) (by omega), by simp at *; omega, by simp at *; omega⟩
  · exact ⟨key 7 (by omega) (by decide) (by decide) (by omega) (by omega), by simp at *; omega, by simp at *; omega⟩
  · exact ⟨key 14 (by omega) (by decide) (by decide) (by omega) (by omega), by simp at *; omega, by simp at *; omega⟩
  · exact ⟨key 21 (by omega) (by decide) (by decide) (by omega) (by omega), by simp at *; omega, by simp at *; omega⟩
  · exact ⟨key 28 (by omega) (by decide) (by decide) (by omega) (by omega), by simp at *; omega, by simp at *; omega⟩
  · exact ⟨key 35 (by omega) (by decide) (by decide) (by omega) (by omega), by simp at *; omega, by simp at *; omega⟩
  · exact ⟨key 42 (by omega) (by decide) (by decide) (by omega) (by omega), by simp at *; omega, by simp at *; omega⟩
  · exact ⟨key 49 (by omega) (by decide) (by decide) (by omega) (by omega), by simp at *; omega, by simp at *; omega⟩
  · exact ⟨key 56 (by omega) (by decide) (by decide) (by omega) (by omega), by simp at *; omega, by simp at *; omega⟩
end Go.Proofs.Ytcicpgiljceioaa.Pk
