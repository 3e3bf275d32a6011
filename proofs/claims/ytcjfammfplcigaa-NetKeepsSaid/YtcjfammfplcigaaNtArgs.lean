/- How arguments that are lists of bytes, or lists of these, are opened; what their size gives. -/
import Derived.Test.YtcjfammfplcigaaRows
import Derived.Test.YtcjfammfplcigaaPc
import Derived.Deep.Matrix
import Derived.WalkKit
import Derived.ProofKit
import Derived.OpenShut
import Derived.ShutString
import Derived.ChangeOld
import Derived.Below
import Derived.SizedLaws
import Derived.Deep.CondSized
import Derived.JoinedCond
namespace Go.Proofs.Ytcjfammfplcigaa.Ar
open Go.ChangeShapes Go.WideShapes Go.ChangeAt Go.RowKit Go.Proofs.Ytcjfammfplcigaa.Pk
set_option linter.unusedVariables false

theorem own : ownKnob Try.prog.godebug = none := by kernel_rfl
theorem laidOut : laidOutB Try.prog = true := by kernel_rfl
theorem bytes5 : Try.prog.bytesOf 5 = 1 := by kernel_rfl

/-- A list of bytes that came in. -/
def ArgB (w : World) (a : Option Addr) (n c : Nat) (l : List Int) : Prop := Reads w w.heap.size 1 a n (bts l) ∧ n ≤ c ∧ c ≤ 140737488351232 ∧ ∀ x ∈ l, 0 ≤ x ∧ x ≤ 255

theorem bulk_one {H : Type} (d : DataW H) : 1 ≤ Rows.uptoBulk d := by
  cases d with
  | lit l => cases l <;> simp [Rows.uptoBulk]
  | nil => simp [Rows.uptoBulk]
  | ptr d => simp [Rows.uptoBulk]
  | slice elems spare => simp [Rows.uptoBulk]
  | agg parts => simp [Rows.uptoBulk]
  | iface t d => simp [Rows.uptoBulk]
  | map entries => simp [Rows.uptoBulk]
  | held h => simp [Rows.uptoBulk]
theorem bulk_length {H : Type} (l : List (DataW H)) : l.length ≤ Rows.uptoBulkAll l := by
  induction l with
  | nil => simp [Rows.uptoBulkAll]
  | cons x r ih => have := bulk_one x; simp only [Rows.uptoBulkAll, List.length_cons]; omega
theorem bulk_slice {H : Type} (elems spare : List (DataW H)) : elems.length + spare.length + 1 ≤ Rows.uptoBulk (.slice elems spare) := by
  have h1 := bulk_length elems
  have h2 := bulk_length spare
  simp only [Rows.uptoBulk]
  omega
theorem bulk_all {H : Type} {l : List (DataW H)} (hk : Rows.uptoSmall H l = true) : Rows.uptoBulkAll l ≤ 1048576 := of_decide_eq_true hk

section
variable {H : Type} {enc : TypeId × Value → H} {W : World} {d : DataW H} {ps : List MemPlace}

theorem u8_rng {n : Int} (h : (Lit.int .u8 n).wf = true) : 0 ≤ n ∧ n ≤ 255 := by
  simpa [Lit.wf, IntKind.min, IntKind.max, IntKind.signed, IntKind.bits] using h
theorem i64_rng {n : Int} (h : (Lit.int .i64 n).wf = true) : -9223372036854775808 ≤ n ∧ n ≤ 9223372036854775807 := by
  simpa [Lit.wf, IntKind.min, IntKind.max, IntKind.signed, IntKind.bits] using h

theorem u32_rng {n : Int} (h : (Lit.int .u32 n).wf = true) : 0 ≤ n ∧ n ≤ 4294967295 := by
  simpa [Lit.wf, IntKind.min, IntKind.max, IntKind.signed, IntKind.bits] using h

theorem lt_heap {w : World} {a : Addr} {u : Value} (h : w.cell? a = some u) : a.block < w.heap.size := by
  rcases Nat.lt_or_ge a.block w.heap.size with h1 | h1
  · exact h1
  · unfold World.cell? at h
    rw [Array.getElem?_eq_none h1] at h
    simp at h

theorem open_raw {t e : TypeId} {k : IntKind} {a : Option Addr} {n c : Nat} (ht : Try.prog.underlying t = some (.slice e)) (he : Try.prog.underlying e = some (.int k)) (hc : Try.prog.cellsOf e = 1)
    (h : DataW.Trod enc Try.prog W 0 (fun _ => true) true t (.slice a n c) d ps) (hsz : ∀ elems spare, d = .slice elems spare → (elems.length + spare.length) * Try.prog.bytesOf e ≤ reachBytes) :
    ∃ l : List Int, Reads W W.heap.size 1 a n (l.map (Value.int k)) ∧ n ≤ c ∧ c * Try.prog.bytesOf e ≤ reachBytes ∧ (∀ x ∈ l, (Lit.int k x).wf = true) ∧ (n < Rows.uptoBulk d) := by
  obtain ⟨fuel, hf⟩ := h
  rcases open_ints ht he hc hf with ⟨hcs, hx⟩ | ⟨x, l, c', zs, hcs, _, hl, hm, hz, hx, hcell, hwz⟩
  · simp [Value.cells] at hcs
    obtain ⟨rfl, rfl, rfl⟩ := hcs
    exact ⟨[], Reads.none_, Nat.le_refl _, by simp, by simp, bulk_one d⟩
  · simp [Value.cells] at hcs
    obtain ⟨rfl, rfl, rfl⟩ := hcs
    simp only [if_true] at hz
    have hd : d = .slice (lits k (zs.take n)) (lits k (zs.drop n)) := by
      simp only [Prod.mk.injEq] at hx; exact hx.1
    have hr := hsz _ _ hd
    have hbu := bulk_slice (H := H) (lits k (zs.take n)) (lits k (zs.drop n))
    rw [← hd] at hbu
    simp only [lits, List.length_map, List.length_take, List.length_drop] at hr hbu
    rw [show min n zs.length + (zs.length - n) = c by omega] at hr
    refine ⟨zs.take n, ⟨by simp; omega, fun hn => ⟨x, rfl, ?_, fun j u hj => ?_⟩⟩, hl, hr, fun y hy => hwz y (List.mem_of_mem_take hy), by omega⟩
    · have := lt_heap (hcell 0 (by omega))
      simpa [Pk.block_of_add] using this
    · rw [List.getElem?_map] at hj
      have hjn : j < n := by
        rcases Nat.lt_or_ge j n with h1 | h1
        · exact h1
        · rw [List.getElem?_eq_none (by simp; omega)] at hj; simp at hj
      rw [List.getElem?_take_of_lt hjn, List.getElem?_eq_getElem (by omega)] at hj
      simp at hj
      rw [hcell j (by omega), ← hj, List.getD_eq_getElem?_getD, List.getElem?_eq_getElem (by omega)]; rfl

theorem open_b {a : Option Addr} {n c : Nat} (h : DataW.Trod enc Try.prog W 0 (fun _ => true) true 31 (.slice a n c) d ps)
    (hsz : ∀ elems spare, d = .slice elems spare → (elems.length + spare.length) * Try.prog.bytesOf 5 ≤ reachBytes) : ∃ l, ArgB W a n c l ∧ n < Rows.uptoBulk d := by
  obtain ⟨l, h1, h2, h3, h4, h5⟩ := open_raw Try.underlying31 Try.underlying5 (by kernel_rfl) h hsz
  rw [bytes5] at h3
  unfold reachBytes at h3
  exact ⟨l, ⟨h1, h2, by omega, fun x hx => u8_rng (h4 x hx)⟩, h5⟩
end
theorem bytes3 : Try.prog.bytesOf 3 = 8 := by kernel_rfl
/-- A list of numbers that came in. -/
def ArgN (w : World) (a : Option Addr) (n c : Nat) (l : List Int) : Prop := Reads w w.heap.size 1 a n (nms l) ∧ n ≤ c ∧ c * 8 ≤ 140737488351232 ∧ ∀ x ∈ l, -9223372036854775808 ≤ x ∧ x ≤ 9223372036854775807
theorem open_n {H : Type} {enc : TypeId × Value → H} {W : World} {d : DataW H} {ps : List MemPlace} {a : Option Addr} {n c : Nat} (h : DataW.Trod enc Try.prog W 0 (fun _ => true) true 44 (.slice a n c) d ps)
    (hsz : ∀ elems spare, d = .slice elems spare → (elems.length + spare.length) * Try.prog.bytesOf 3 ≤ reachBytes) : ∃ l, ArgN W a n c l ∧ n < Rows.uptoBulk d := by
  obtain ⟨l, h1, h2, h3, h4, h5⟩ := open_raw Try.underlying44 Try.underlying3 (by kernel_rfl) h hsz
  rw [bytes3] at h3
  unfold reachBytes at h3
  exact ⟨l, ⟨h1, h2, by omega, fun x hx => i64_rng (h4 x hx)⟩, h5⟩
/-- A list of lists of bytes that came in. -/
def ArgL (w : World) (a : Option Addr) (n c : Nat) (ps : List Piece) : Prop := RdL w w.heap.size a n ps ∧ n ≤ c ∧ ∀ p ∈ ps, p.n ≤ p.c ∧ ∀ x ∈ p.l, 0 ≤ x ∧ x ≤ 255
theorem cellsSl : Try.prog.cellsOf 31 = 1 := by kernel_rfl
theorem cellsBy : Try.prog.cellsOf 5 = 1 := by kernel_rfl
theorem bulk_row {H : Type} (k : IntKind) (a : Option Addr) (l : Nat) (z : List Int) (h : a = none → z.length = 0) (hl : l ≤ z.length) : l + 1 ≤ Rows.uptoBulk (Deep.intRow (H := H) k a l z) := by
  cases a with
  | none => have := h rfl; have := bulk_one (H := H) (Deep.intRow k none l z); omega
  | some ad =>
    have := bulk_slice (H := H) (lits k (z.take l)) (lits k (z.drop l))
    simp only [lits, List.length_map, List.length_take, List.length_drop] at this
    have e : Deep.intRow (H := H) k (some ad) l z = .slice (lits k (z.take l)) (lits k (z.drop l)) := rfl
    rw [e]
    simp only [lits]
    omega
theorem bulk_rows {H : Type} (ps : List Piece) (ds : List (DataW H)) (h : ds.length = ps.length) (hr : ∀ (i : Nat) (p : Piece) (d : DataW H), ps[i]? = some p → ds[i]? = some d → p.n + 1 ≤ Rows.uptoBulk d) : sumN ps ≤ Rows.uptoBulkAll ds := by
  induction ps generalizing ds with
  | nil => exact Nat.zero_le _
  | cons p r ih =>
    cases ds with
    | nil => simp at h
    | cons d ds =>
      have h1 := hr 0 p d rfl rfl
      have h2 := ih ds (by simpa using h) (fun i p' d' h3 h4 => hr (i + 1) p' d' (by simpa using h3) (by simpa using h4))
      simp only [sumN, Rows.uptoBulkAll]
      omega
theorem weightsAll_mem {H : Type} {P : Program} {e : TypeId} {d : DataW H} {l : List (DataW H)} {x : Nat} (h : d ∈ l) (hx : x ∈ d.weights P e) : x ∈ DataW.weightsAll P e l := by
  induction l with
  | nil => cases h
  | cons y r ih =>
    simp only [DataW.weightsAll, List.mem_append]
    rcases List.mem_cons.1 h with rfl | h
    · exact .inl hx
    · exact .inr (ih h)
/-- No part of an argument is longer than a machine reaches. -/
def WtsOk {H : Type} (t : TypeId) (d : DataW H) : Prop := ∀ x ∈ d.weights Try.prog t, x ≤ 140737488351232
theorem wts_arg {H : Type} {ts : List TypeId} {ds : List (DataW H)} (h : (DataW.weightsEach Try.prog ts ds).all (· ≤ reachBytes) = true) {j : Nat} {t : TypeId} {d : DataW H} (ht : ts[j]? = some t) (hd : ds[j]? = some d) : WtsOk t d := fun x hx => by
  have := List.all_eq_true.1 h _ (DataW.weights_mem_each ht hd x hx)
  have h2 : x ≤ reachBytes := by simpa using this
  exact h2

theorem open_L {H : Type} {enc : TypeId × Value → H} {W : World} {d : DataW H} {ps : List MemPlace} {a : Option Addr} {n c : Nat} (h : DataW.Trod enc Try.prog W 0 (fun _ => true) true 28 (.slice a n c) d ps) (hk : Rows.uptoBulk d ≤ 1048576) :
    ∃ qs : List Piece, ArgL W a n c qs ∧ sumN qs < Rows.uptoBulk d := by
  obtain ⟨fuel, hf⟩ := h
  rcases Deep.open_int_rows Try.underlying28 Try.underlying31 Try.underlying5 cellsSl cellsBy hf with ⟨hcs, hx⟩ | ⟨x, len, cap, A, L, C, Z, hcs, _, hl, hm, hx, hall⟩
  · simp [Value.cells] at hcs
    obtain ⟨rfl, rfl, rfl⟩ := hcs
    exact ⟨[], ⟨⟨Reads.none_, fun p hp => by simp at hp⟩, Nat.le_refl _, fun p hp => by simp at hp⟩, bulk_one d⟩
  · simp [Value.cells] at hcs
    obtain ⟨rfl, rfl, rfl⟩ := hcs
    unfold maxLen at hm
    have hsum : sumN ((List.range n).map fun r => (⟨A r, L r, C r, (Z r).take (L r)⟩ : Piece)) < Rows.uptoBulk d := by
      have hd : d = .slice ((List.range n).map fun r => Deep.intRow .u8 (A r) (L r) (Z r)) ((List.range (c - n)).map fun j => Deep.intRow .u8 (A (n + j)) (L (n + j)) (Z (n + j))) := by
        simp only [Prod.mk.injEq] at hx; exact hx.1
      have h1 := bulk_rows (H := H) ((List.range n).map fun r => (⟨A r, L r, C r, (Z r).take (L r)⟩ : Piece)) ((List.range n).map fun r => Deep.intRow .u8 (A r) (L r) (Z r)) (by simp) (fun i p d h2 h3 => by
        simp only [List.getElem?_map] at h2 h3
        have hi : i < n := by
          rcases Nat.lt_or_ge i n with h4 | h4
          · exact h4
          · rw [List.getElem?_eq_none (by simpa using h4)] at h2; simp at h2
        rw [List.getElem?_eq_getElem (by simpa using hi)] at h2 h3
        simp at h2 h3
        rw [← h2, ← h3]
        obtain ⟨_, h5, h6, h7, _, h9, _⟩ := hall i (by omega)
        exact bulk_row .u8 (A i) (L i) (Z i) (fun e => by have := h9 e; omega) (by omega))
      rw [hd]
      simp only [Rows.uptoBulk]
      omega
    refine ⟨(List.range n).map fun r => ⟨A r, L r, C r, (Z r).take (L r)⟩, ⟨⟨⟨by simp, fun hn => ⟨x, rfl, ?_, fun j u hj => ?_⟩⟩, fun p hp => ?_⟩, hl, fun p hp => ?_⟩, ?_⟩
    · have := lt_heap (hall 0 (by omega)).1
      simpa [block_of_add] using this
    · simp only [List.getElem?_map, Option.map_map] at hj
      have hjn : j < n := by
        rcases Nat.lt_or_ge j n with h1 | h1
        · exact h1
        · rw [List.getElem?_eq_none (by simpa using h1)] at hj; simp at hj
      rw [List.getElem?_eq_getElem (by simpa using hjn)] at hj
      simp at hj
      rw [(hall j (by omega)).1, ← hj]; rfl
    · have hpm := hp
      obtain ⟨r, hr, rfl⟩ := List.mem_map.1 hp
      have hr' : r < n := by simpa using hr
      obtain ⟨_, h1, h2, h3, h4, h5, h6⟩ := hall r (by omega)
      unfold maxLen at h2
      refine ⟨⟨by simp; omega, fun hn => ?_⟩, by have := sumN_mem hpm; simp only at this; show L r ≤ _; omega⟩
      have hn' : 0 < L r := hn
      cases hA : A r with
      | none => have := h5 hA; omega
      | some ad =>
        obtain ⟨_, hcell⟩ := h6 ad hA
        refine ⟨ad, rfl, ?_, fun j u hu => ?_⟩
        · have := lt_heap (hcell 0 (by omega))
          simpa [block_of_add] using this
        · have hj : j < L r := by
            rcases Nat.lt_or_ge j (L r) with h7 | h7
            · exact h7
            · rw [List.getElem?_eq_none (by simp; omega)] at hu; cases hu
          rw [hcell j (by omega)]
          simp only [bts, List.getElem?_map] at hu
          rw [List.getElem?_take_of_lt hj, List.getElem?_eq_getElem (by omega)] at hu
          simp at hu
          rw [← hu, List.getD_eq_getElem?_getD, List.getElem?_eq_getElem (by omega)]; rfl
    · obtain ⟨r, hr, rfl⟩ := List.mem_map.1 hp
      have hr' : r < n := by simpa using hr
      obtain ⟨_, h1, h2, h3, h4, h5, h6⟩ := hall r (by omega)
      exact ⟨h1, fun y hy => u8_rng (h4 y (List.mem_of_mem_take hy))⟩
    · exact hsum
/-- The same, whatever the bulk: no part is longer than a machine reaches. -/
theorem open_LF {H : Type} {enc : TypeId × Value → H} {W : World} {d : DataW H} {ps : List MemPlace} {a : Option Addr} {n c : Nat} (h : DataW.Trod enc Try.prog W 0 (fun _ => true) true 28 (.slice a n c) d ps) (hk : WtsOk 28 d) :
    ∃ qs : List Piece, ArgL W a n c qs ∧ n ≤ 140737488351232 ∧ ∀ p ∈ qs, p.n ≤ 140737488351232 := by
  obtain ⟨fuel, hf⟩ := h
  rcases Deep.open_int_rows Try.underlying28 Try.underlying31 Try.underlying5 cellsSl cellsBy hf with ⟨hcs, hx⟩ | ⟨x, len, cap, A, L, C, Z, hcs, _, hl, hm, hx, hall⟩
  · simp [Value.cells] at hcs
    obtain ⟨rfl, rfl, rfl⟩ := hcs
    exact ⟨[], ⟨⟨Reads.none_, fun p hp => by simp at hp⟩, Nat.le_refl _, fun p hp => by simp at hp⟩, Nat.zero_le _, fun p hp => by simp at hp⟩
  · simp [Value.cells] at hcs
    obtain ⟨rfl, rfl, rfl⟩ := hcs
    unfold maxLen at hm
    have hd : d = .slice ((List.range n).map fun r => Deep.intRow .u8 (A r) (L r) (Z r)) ((List.range (c - n)).map fun j => Deep.intRow .u8 (A (n + j)) (L (n + j)) (Z (n + j))) := by
      simp only [Prod.mk.injEq] at hx; exact hx.1
    have hbs := hk ((((List.range n).map fun r => Deep.intRow (H := H) .u8 (A r) (L r) (Z r)).length + ((List.range (c - n)).map fun j => Deep.intRow (H := H) .u8 (A (n + j)) (L (n + j)) (Z (n + j))).length) * Try.prog.bytesOf 31) (by rw [hd]; simp [DataW.weights, Try.underlying28])
    rw [show Try.prog.bytesOf 31 = 24 by kernel_rfl] at hbs
    simp only [List.length_map, List.length_range] at hbs
    have hbe : ∀ i, i < n → L i ≤ 140737488351232 := fun i hi => by
      obtain ⟨_, h5, h6, h7, _, h9, _⟩ := hall i (by omega)
      cases hA : A i with
      | none => have := h9 hA; omega
      | some ad =>
        have h1 := hk (((lits (H := H) .u8 ((Z i).take (L i))).length + (lits (H := H) .u8 ((Z i).drop (L i))).length) * Try.prog.bytesOf 5) (by
          rw [hd]
          simp only [DataW.weights, Try.underlying28]
          refine List.mem_cons_of_mem _ (List.mem_append_left _ (weightsAll_mem (List.mem_map.2 ⟨i, List.mem_range.2 hi, rfl⟩) ?_))
          rw [hA]
          simp [Deep.intRow, lits, DataW.weights, Try.underlying31])
        rw [show Try.prog.bytesOf 5 = 1 by kernel_rfl] at h1
        simp only [lits, List.length_map, List.length_take, List.length_drop] at h1
        omega
    refine ⟨(List.range n).map fun r => ⟨A r, L r, C r, (Z r).take (L r)⟩, ⟨⟨⟨by simp, fun hn => ⟨x, rfl, ?_, fun j u hj => ?_⟩⟩, fun p hp => ?_⟩, hl, fun p hp => ?_⟩, ?_⟩
    · have := lt_heap (hall 0 (by omega)).1
      simpa [block_of_add] using this
    · simp only [List.getElem?_map, Option.map_map] at hj
      have hjn : j < n := by
        rcases Nat.lt_or_ge j n with h1 | h1
        · exact h1
        · rw [List.getElem?_eq_none (by simpa using h1)] at hj; simp at hj
      rw [List.getElem?_eq_getElem (by simpa using hjn)] at hj
      simp at hj
      rw [(hall j (by omega)).1, ← hj]; rfl
    · have hpm := hp
      obtain ⟨r, hr, rfl⟩ := List.mem_map.1 hp
      have hr' : r < n := by simpa using hr
      obtain ⟨_, h1, h2, h3, h4, h5, h6⟩ := hall r (by omega)
      unfold maxLen at h2
      refine ⟨⟨by simp; omega, fun hn => ?_⟩, by have := hbe r hr'; show L r ≤ _; omega⟩
      have hn' : 0 < L r := hn
      cases hA : A r with
      | none => have := h5 hA; omega
      | some ad =>
        obtain ⟨_, hcell⟩ := h6 ad hA
        refine ⟨ad, rfl, ?_, fun j u hu => ?_⟩
        · have := lt_heap (hcell 0 (by omega))
          simpa [block_of_add] using this
        · have hj : j < L r := by
            rcases Nat.lt_or_ge j (L r) with h7 | h7
            · exact h7
            · rw [List.getElem?_eq_none (by simp; omega)] at hu; cases hu
          rw [hcell j (by omega)]
          simp only [bts, List.getElem?_map] at hu
          rw [List.getElem?_take_of_lt hj, List.getElem?_eq_getElem (by omega)] at hu
          simp at hu
          rw [← hu, List.getD_eq_getElem?_getD, List.getElem?_eq_getElem (by omega)]; rfl
    · obtain ⟨r, hr, rfl⟩ := List.mem_map.1 hp
      have hr' : r < n := by simpa using hr
      obtain ⟨_, h1, h2, h3, h4, h5, h6⟩ := hall r (by omega)
      exact ⟨h1, fun y hy => u8_rng (h4 y (List.mem_of_mem_take hy))⟩
    · refine ⟨by omega, fun p hp => ?_⟩
      obtain ⟨r, hr, rfl⟩ := List.mem_map.1 hp
      exact hbe r (by simpa using hr)
end Go.Proofs.Ytcjfammfplcigaa.Ar
