/- Messages in memory: five cells each. -/
import Derived.Test.YtcicpgiljceioaaZStVal
import Derived.Maps.AppendAt
import Derived.OwnWalk
import Derived.Test.YtcicpgiljceioaaZGrWave
namespace Go.Proofs.Ytcicpgiljceioaa.Pk
open Go.RowKit
set_option linter.unusedVariables false
def Mg.cells (m : Mg) : List Value := [.int .i64 m.k, .int .i64 m.o, .int .i64 m.n, .int .i64 m.u, .int .i64 m.v]
def mgs (l : List Mg) : List Value := l.flatMap Mg.cells
theorem mgs_cons (r : Mg) (l : List Mg) : mgs (r :: l) = .int .i64 r.k :: .int .i64 r.o :: .int .i64 r.n :: .int .i64 r.u :: .int .i64 r.v :: mgs l := rfl
@[simp] theorem mgs_length (l : List Mg) : (mgs l).length = l.length * 5 := by
  induction l with
  | nil => rfl
  | cons r l ih => rw [mgs_cons]; simp [ih]; omega
theorem mgs_get {l : List Mg} {k : Nat} {r : Mg} (h : l[k]? = some r) : (mgs l)[k * 5]? = some (.int .i64 r.k) ∧ (mgs l)[k * 5 + 1]? = some (.int .i64 r.o) ∧ (mgs l)[k * 5 + 2]? = some (.int .i64 r.n) ∧ (mgs l)[k * 5 + 3]? = some (.int .i64 r.u) ∧ (mgs l)[k * 5 + 4]? = some (.int .i64 r.v) := by
  induction l generalizing k with
  | nil => simp at h
  | cons x l ih =>
    rw [mgs_cons]
    match k, h with
    | 0, h => simp at h; subst h; exact ⟨rfl, rfl, rfl, rfl, rfl⟩
    | k + 1, h =>
      have := ih (k := k) (by simpa using h)
      rw [show (k + 1) * 5 = k * 5 + 1 + 1 + 1 + 1 + 1 by omega]
      simpa using this
theorem Reads.mgs_ {w : World} {B : Nat} {A : Option Addr} {n : Nat} {l : List Mg} (h : Reads w B 5 A n (mgs l)) (hn : 0 < n) :
    ∃ b off, A = some ⟨b, off, none⟩ ∧ b < B ∧ ∀ i r, l[i]? = some r → w.cell? ⟨b, off + i * 5, none⟩ = some (.int .i64 r.k) ∧ w.cell? ⟨b, off + i * 5 + 1, none⟩ = some (.int .i64 r.o) ∧
      w.cell? ⟨b, off + i * 5 + 2, none⟩ = some (.int .i64 r.n) ∧ w.cell? ⟨b, off + i * 5 + 3, none⟩ = some (.int .i64 r.u) ∧ w.cell? ⟨b, off + i * 5 + 4, none⟩ = some (.int .i64 r.v) := by
  obtain ⟨ad, rfl, hb, hc⟩ := h.2 hn
  have hl : 0 < (mgs l).length := by rw [h.1]; omega
  have h0 := hc 0 _ (List.getElem?_eq_getElem hl)
  obtain ⟨b, off, spot⟩ := ad
  have hs : spot = none := by simpa [Addr.add] using World.cell?_spot h0
  subst hs
  have hat : ∀ j u, (mgs l)[j]? = some u → w.cell? ⟨b, off + j, none⟩ = some u := by
    intro j u hu
    have := hc j u hu
    unfold Addr.add at this
    by_cases hj : j = 0
    · subst hj; simpa using this
    · simpa [hj] using this
  refine ⟨b, off, rfl, hb, fun i r hr => ?_⟩
  obtain ⟨h1, h2, h3, h4, h5⟩ := mgs_get hr
  exact ⟨hat _ _ h1, by rw [Nat.add_assoc]; exact hat _ _ h2, by rw [Nat.add_assoc]; exact hat _ _ h3, by rw [Nat.add_assoc]; exact hat _ _ h4, by rw [Nat.add_assoc]; exact hat _ _ h5⟩
theorem Reads.mlen {w : World} {B : Nat} {A : Option Addr} {n : Nat} {l : List Mg} (h : Reads w B 5 A n (mgs l)) : l.length = n := by
  have := h.1; simp at this; omega
end Go.Proofs.Ytcicpgiljceioaa.Pk

/- Messages of the call's own: what a list of them owns, and how it grows. -/
namespace Go.Proofs.Ytcicpgiljceioaa.Pk
open Go.RowKit
set_option linter.unusedVariables false
theorem mgs_append (l m : List Mg) : mgs (l ++ m) = mgs l ++ mgs m := List.flatMap_append ..
theorem mgs_one (l : List Mg) : ∀ u ∈ mgs l, u.oneCell' = true := by
  intro u hu
  obtain ⟨r, _, h⟩ := List.mem_flatMap.1 hu
  simp [Mg.cells] at h
  rcases h with rfl | rfl | rfl | rfl | rfl <;> rfl
theorem msg_info : (Try.prog.info? 45).map (fun i => (i.zero, i.size, i.bytes)) = some (some (.agg #[.int .i64 0, .int .i64 0, .int .i64 0, .int .i64 0, .int .i64 0]), 5, 40) := by kernel_rfl
/-- The value owns the messages. -/
def OwnG (w : World) (B : Nat) (v : Value) (l : List Mg) : Prop := w.ownsRow B 45 5 v l.length (mgs l)
theorem OwnG.none_ (w : World) (B : Nat) : OwnG w B (.slice none 0 0) [] := ⟨rfl, .inl ⟨rfl, rfl⟩⟩
theorem OwnG.alloc {w : World} {B : Nat} {v : Value} {l : List Mg} (h : OwnG w B v l) (o : Obj) : OwnG (w.alloc o) B v l := World.ownsRow.alloc h o
theorem ownG_base {w : World} {base : Nat} {v : Value} {l : List Mg} (h : OwnG w base v l) : ∀ k, v.ownBlock = some k → base ≤ k := by
  intro k hk
  rcases h.2 with ⟨rfl, _⟩ | ⟨g, cap, cur, rfl, hb, _⟩
  · simp [Value.ownBlock] at hk
  · simp [Value.ownBlock] at hk; omega
theorem ownG_lt {w : World} {B : Nat} {v : Value} {l : List Mg} (h : OwnG w B v l) : ∀ g, v.ownBlock = some g → g < w.heap.size := by
  intro g hg
  rcases h.2 with ⟨rfl, _⟩ | ⟨g', cap, cur, rfl, _, hh, _⟩
  · simp [Value.ownBlock] at hg
  · simp [Value.ownBlock] at hg
    subst hg
    rcases Nat.lt_or_ge g' w.heap.size with h' | h'
    · exact h'
    · rw [Array.getElem?_eq_none h'] at hh; cases hh
theorem OwnG.stay {w w' : World} {B : Nat} {v : Value} {l : List Mg} (h : OwnG w B v l) (hk : ∀ g, v.ownBlock = some g → w'.heap[g]? = w.heap[g]?) : OwnG w' B v l := by
  obtain ⟨h1, h2⟩ := h
  refine ⟨h1, ?_⟩
  rcases h2 with h2 | ⟨g, cap, cur, rfl, hg, hh, hr⟩
  · exact .inl h2
  · exact .inr ⟨g, cap, cur, rfl, hg, (hk g rfl).trans hh, hr⟩
theorem OwnG.below {w w' : World} {B : Nat} {v : Value} {l : List Mg} (h : OwnG w B v l) (hb : Below w.heap.size w w') : OwnG w' B v l := h.stay fun g e => hb.block g (ownG_lt h g e)
theorem OwnG.reads {w : World} {B : Nat} {v : Value} {l : List Mg} (h : OwnG w B v l) : ∃ A c, v = .slice A l.length c ∧ l.length ≤ c ∧ Reads w w.heap.size 5 A l.length (mgs l) := by
  have h2 := h
  obtain ⟨h1, ⟨rfl, e⟩ | ⟨g, cap, cur, rfl, _, _, hc, _⟩⟩ := h2
  · obtain rfl : l = [] := List.length_eq_zero_iff.1 e
    exact ⟨none, 0, rfl, by simp, Reads.none_⟩
  · exact ⟨_, cap, rfl, hc, Reads.of_own h⟩
theorem ownG_slice {w : World} {B : Nat} {v : Value} {l : List Mg} (h : OwnG w B v l) : ∃ A n c, v = .slice A n c := by
  obtain ⟨A, c, e, _, _⟩ := h.reads
  exact ⟨A, _, c, e⟩
/-- One message more, out of a new box. -/
theorem appG {ops : Array Oper} {rest : List Oper} {o : Oper} {a : Act} {Q : Exit → Act → World → Prop} (w : World) (m : Mg) (T : TypeId) (hgd : o.guard = none) (so x : Operand)
    (ho : o.op = .call { callee := .builtin .append, args := #[so, x], argTypes := #[58, 58] }) (B : Nat) (v : Value) (l : List Mg) (hs : a.eval so = v) (hown : OwnG w B v l)
    (g : Nat) (hg : g = w.heap.size) (hx : a.eval x = .slice (some ⟨g, 0, none⟩) 1 1) (hlen : (l.length + 1) * 40 ≤ 140737488355328) (hB : B ≤ w.heap.size)
    (h : ∀ v' w', OwnG w' B v' (l ++ [m]) → Below B w w' → (w.alloc (.cells #[.int .i64 m.k, .int .i64 m.o, .int .i64 m.n, .int .i64 m.u, .int .i64 m.v] T)).grownBy w' v.ownBlock → (v'.ownBlock = v.ownBlock ∨ v'.ownBlock = some (w.heap.size + 1)) → wpList Try.prog ops Q rest (a.put o.dst v') w') : wpList Try.prog ops Q (o :: rest) a (w.alloc (.cells #[.int .i64 m.k, .int .i64 m.o, .int .i64 m.n, .int .i64 m.u, .int .i64 m.v] T)) := by
  subst hg
  obtain ⟨i0, hi0, hz0, hz1, hz2⟩ := info_parts msg_info
  refine wpList_append_own_at (P := Try.prog) _ hgd so x _ ho B 45 i0 _ 5 40 Try.underlying58 hi0 hz0 hz1 hz2 rfl (by omega) v l.length (mgs l) hs (World.ownsRow.alloc hown _) ⟨w.heap.size, 0, none⟩ 1 1 (mgs [m]) hx rfl ?_ (mgs_one _)
    (by unfold maxLen; omega) (by omega) (by simp; omega) ?_
  · intro j u hj
    match j, hj with
    | 0, hj => simp [mgs, Mg.cells] at hj; subst hj; simp [Addr.add]
    | 1, hj => simp [mgs, Mg.cells] at hj; subst hj; simp [Addr.add]
    | 2, hj => simp [mgs, Mg.cells] at hj; subst hj; simp [Addr.add]
    | 3, hj => simp [mgs, Mg.cells] at hj; subst hj; simp [Addr.add]
    | 4, hj => simp [mgs, Mg.cells] at hj; subst hj; simp [Addr.add]
    | j + 5, hj => simp [mgs, Mg.cells] at hj
  · intro v' w' ho hg _ hat
    refine h v' w' ?_ (((Below.refl _ _).alloc hB _).grown hg (by simp; omega) (ownG_base hown)) hg (by simpa using hat)
    unfold OwnG
    rw [mgs_append, List.length_append]; exact ho
end Go.Proofs.Ytcicpgiljceioaa.Pk

/- Sides as they lie; what Good of package half promises. -/
namespace Go.Proofs.Ytcicpgiljceioaa.Pk
open Go.RowKit
set_option linter.unusedVariables false
def Hf.val (h : Hf) (v : Value) : Value := .agg #[.int .i64 h.p, .int .i64 h.b, v, .int .i64 h.s]
/-- Ints of 64 bits. -/
structure Hf.I (h : Hf) : Prop where
  p : -9223372036854775808 ≤ h.p ∧ h.p ≤ 9223372036854775807
  b : -9223372036854775808 ≤ h.b ∧ h.b ≤ 9223372036854775807
  s : -9223372036854775808 ≤ h.s ∧ h.s ≤ 9223372036854775807
  o : ∀ m ∈ h.o, m.I
theorem Hf.Be.i {h : Hf} (hb : h.Be) : h.I := by
  obtain ⟨h1, h2, h3, h4, h5, h6, h7, h8⟩ := hb
  exact ⟨by omega, by omega, by omega, fun m hm => (h8 m hm).i⟩
/-- A side as it is handed over: its list is read. -/
structure InH (w : World) (h : Hf) (A : Option Addr) (n c : Nat) : Prop where
  rd : Reads w w.heap.size 5 A n (mgs h.o)
  cap : n ≤ c
  few : n ≤ 3518437208883
  i : h.I
theorem InH.len {w : World} {h : Hf} {A : Option Addr} {n c : Nat} (k : InH w h A n c) : h.o.length = n := k.rd.mlen
theorem InH.next {w w' : World} {h : Hf} {A : Option Addr} {n c : Nat} (k : InH w h A n c) (hb : Below w.heap.size w w') : InH w' h A n c := ⟨(k.rd.below hb).more hb.size, k.cap, k.few, k.i⟩
/-- A side that is answered: its list is its own. -/
def OutH (w' : World) (B : Nat) (h : Hf) (v : Value) : Prop := OwnG w' B v h.o
def GoodH : Prop := ∀ (h : Hf) (A : Option Addr) (n c : Nat) (w : World), InH w h A n c →
  Calls Try.prog 62 #[h.val (.slice A n c)] w fun e w' => e = .returned (.bool (decide h.Be)) ∧ Below w.heap.size w w'
end Go.Proofs.Ytcicpgiljceioaa.Pk

/- The document's answers for messages: Valid, Put, Fault, Take. -/
namespace Go.Proofs.Ytcicpgiljceioaa.Pk
open Go.RowKit
set_option linter.unusedVariables false
/-- The ways through Valid. -/
theorem be_ways (k o n u v : Int) : k < 1 ∨ (1 ≤ k ∧ 4 < k) ∨ (1 ≤ k ∧ k ≤ 4 ∧ o < 0) ∨ (1 ≤ k ∧ k ≤ 4 ∧ 0 ≤ o ∧ 7 < o) ∨ (1 ≤ k ∧ k ≤ 4 ∧ 0 ≤ o ∧ o ≤ 7 ∧ n < 0) ∨ (1 ≤ k ∧ k ≤ 4 ∧ 0 ≤ o ∧ o ≤ 7 ∧ 0 ≤ n ∧ 31 < n) ∨ (1 ≤ k ∧ k ≤ 4 ∧ 0 ≤ o ∧ o ≤ 7 ∧ 0 ≤ n ∧ n ≤ 31 ∧ u < 1) ∨
    (1 ≤ k ∧ k ≤ 4 ∧ 0 ≤ o ∧ o ≤ 7 ∧ 0 ≤ n ∧ n ≤ 31 ∧ 1 ≤ u ∧ 1099511627776 < u) ∨ (1 ≤ k ∧ k ≤ 4 ∧ 0 ≤ o ∧ o ≤ 7 ∧ 0 ≤ n ∧ n ≤ 31 ∧ 1 ≤ u ∧ u ≤ 1099511627776) := by omega
set_option maxHeartbeats 4000000 in
theorem refvalid_any (m : Mg) (w : World) (hm : m.I) : Calls Try.prog 63 #[m.val] w fun e w' => e = .returned (.bool (decide m.Be)) ∧ Below w.heap.size w w' := by
  obtain ⟨k, o, n, u, v⟩ := m
  obtain ⟨⟨ik, jk⟩, ⟨io, jo⟩, ⟨in_, jn⟩, ⟨iu, ju⟩, ⟨iv, jv⟩⟩ := hm
  simp only at ik jk io jo in_ jn iu ju iv jv
  obtain ⟨t, ht⟩ : ∃ t, t = decide (Mg.Be ⟨k, o, n, u, v⟩) := ⟨_, rfl⟩
  have HF : Hid (¬ Mg.Be ⟨k, o, n, u, v⟩ → t = false) := Lib.hid (fun h => by rw [ht]; exact decide_eq_false h)
  have HY : Hid (Mg.Be ⟨k, o, n, u, v⟩ → t = true) := Lib.hid (fun h => by rw [ht]; exact decide_eq_true h)
  rw [← ht]
  clear ht
  unfold Mg.val
  simp only
  rcases be_ways k o n u v with h1 | ⟨h1, h2⟩ | ⟨h1, h2, h3⟩ | ⟨h1, h2, h3, h4⟩ | ⟨h1, h2, h3, h4, h5⟩ | ⟨h1, h2, h3, h4, h5, h6⟩ | ⟨h1, h2, h3, h4, h5, h6, h7⟩ | ⟨h1, h2, h3, h4, h5, h6, h7, h8⟩ | ⟨h1, h2, h3, h4, h5, h6, h7, h8⟩
  case inr.inr.inr.inr.inr.inr.inr.inr =>
    have b1 : decide (k < 1) = false := by simp; omega
    have b2 : decide (4 < k) = false := by simp; omega
    have b3 : decide (o < 0) = false := by simp; omega
    have b4 : decide (8 ≤ o) = false := by simp; omega
    have b5 : decide (n < 0) = false := by simp; omega
    have b6 : decide (32 ≤ n) = false := by simp; omega
    have b7 : decide (u < 1) = false := by simp; omega
    have b8 : decide (1099511627776 < u) = false := by simp; omega
    by_cases hk : k = 4
    case pos =>
      subst hk
      by_cases hv : 0 ≤ v ∧ v ≤ 31
      case pos =>
        obtain ⟨hv1, hv2⟩ := hv
        obtain rfl := HY.out ⟨h1, h2, h3, h4, h5, h6, h7, h8, fun _ => ⟨hv1, hv2⟩, fun h => absurd rfl h⟩
        have b9 : decide (v < 0) = false := by simp; omega
        have b10 : decide (v < 32) = true := by simp; omega
        have b11 : decide (0 ≤ v) = true := by simp; omega
        go_enter Try.func63, Try.ntmps63
        go_wp2
        go_ret
        exact ⟨rfl, (Below.refl _ w).alloc (Nat.le_refl _) _⟩
      obtain rfl := HF.out (fun h => hv (h.2.2.2.2.2.2.2.2.1 rfl))
      rcases (show (v < 0 ∧ decide (0 ≤ v) = false) ∨ (0 ≤ v ∧ decide (v < 32) = false ∧ decide (0 ≤ v) = true) by simp; omega) with ⟨hv1, hv2⟩ | ⟨hv1, hv2, hv3⟩
      all_goals
        clear hv
        go_enter Try.func63, Try.ntmps63
        go_wp2
        go_ret
        exact ⟨rfl, (Below.refl _ w).alloc (Nat.le_refl _) _⟩
    case neg =>
      have tk : (k == 4) = false := by simpa using hk
      by_cases hv : v = 0
      case pos =>
        obtain rfl := HY.out ⟨h1, h2, h3, h4, h5, h6, h7, h8, fun h => absurd h hk, fun _ => hv⟩
        subst hv
        go_enter Try.func63, Try.ntmps63
        go_wp2
        go_ret
        exact ⟨rfl, (Below.refl _ w).alloc (Nat.le_refl _) _⟩
      obtain rfl := HF.out (fun h => hv (h.2.2.2.2.2.2.2.2.2 hk))
      have tv : (v == 0) = false := by simpa using hv
      go_enter Try.func63, Try.ntmps63
      go_wp2
      go_ret
      exact ⟨rfl, (Below.refl _ w).alloc (Nat.le_refl _) _⟩
  all_goals
    obtain rfl := HF.out (fun h => by have h' := h; unfold Mg.Be at h'; simp only at h'; omega)
    go_enter Try.func63, Try.ntmps63
    go_wp2
    go_ret
    exact ⟨rfl, (Below.refl _ w).alloc (Nat.le_refl _) _⟩
end Go.Proofs.Ytcicpgiljceioaa.Pk
