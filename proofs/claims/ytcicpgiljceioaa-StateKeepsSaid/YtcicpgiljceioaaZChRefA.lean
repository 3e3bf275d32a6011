/- Cells of any list behind cells of one's own; behind an empty literal. -/
import Derived.Test.YtcicpgiljceioaaZCeOwn
import Derived.Deep.AppendLies
import Derived.Deep.RegionLaw
import Derived.Deep.RegionLawGrows
import Derived.Test.YtcicpgiljceioaaZPackMath
import Derived.Outline
import Derived.Test.YtcicpgiljceioaaZChFacts
import Derived.Deep.QuietTactic
import Derived.BigQuiet
namespace Go.Proofs.Ytcicpgiljceioaa.Pk
open Go.RowKit
set_option linter.unusedVariables false
theorem OwnK.app_ {w : World} {B n k : Nat} {v : Value} {l r : List Ce} (hn : n = l.length) (hk : k = r.length) (h : w.ownsRow B 57 4 v (n + k) (ces l ++ ces r)) : OwnK w B v (l ++ r) := by
  unfold OwnK
  rw [ces_append, List.length_append, ← hn, ← hk]
  exact h
theorem appKs {ops : Array Oper} {rest : List Oper} {o : Oper} {a : Act} {Q : Exit → Act → World → Prop} (w : World) (hgd : o.guard = none) (s x : Operand)
    (ho : o.op = .call { callee := .builtin .append, args := #[s, x], argTypes := #[53, 53] }) (B : Nat) (v : Value) (l : List Ce) (hs : a.eval s = v) (hown : OwnK w B v l)
    (B' : Nat) (A : Option Addr) (c : Nat) (r : List Ce) (n : Nat) (hx : a.eval x = .slice A n c) (hr : Reads w B' 4 A n (ces r)) (hlen : (l.length + n) * 32 ≤ 140737488355328) (hB : B ≤ w.heap.size)
    (h : ∀ v' w', OwnK w' B v' (l ++ r) → Below B w w' → (v'.ownBlock = v.ownBlock ∨ v'.ownBlock = some w.heap.size) → w.grownBy w' v.ownBlock → wpList Try.prog ops Q rest (a.put o.dst v') w') : wpList Try.prog ops Q (o :: rest) a w := by
  obtain ⟨i0, hi0, hz0, hz1, hz2⟩ := info_parts cell_info
  have hnr : n = r.length := hr.klen.symm
  refine wpList_append_any _ hgd s x _ ho B 57 i0 _ 4 32 Try.underlying53 hi0 hz0 hz1 hz2 rfl (by omega) v l.length (ces l) hs hown B' A n c (ces r) hx hr (ces_one r)
    (by unfold maxLen; omega) (by omega) hB ?_
  intro v' w' ho hg hat
  exact h v' w' (OwnK.app_ rfl hnr ho) ((Below.refl _ _).grown hg hB (ownK_base hown)) hat hg
theorem OwnK.fresh (w : World) (B : Nat) (hB : B ≤ w.heap.size) : OwnK (w.alloc (.cells #[] 57)) B (.slice (some ⟨w.heap.size, 0, none⟩) 0 0) [] :=
  ⟨rfl, .inr ⟨w.heap.size, 0, #[], rfl, hB, heap_alloc_new w _, Nat.le_refl _, by unfold maxLen; omega, rfl, rfl⟩⟩
/-- Cells of any list behind an empty literal. -/
theorem appKE {ops : Array Oper} {rest : List Oper} {o : Oper} {a : Act} {Q : Exit → Act → World → Prop} (w : World) (hgd : o.guard = none) (s x : Operand)
    (ho : o.op = .call { callee := .builtin .append, args := #[s, x], argTypes := #[53, 53] }) (B : Nat) (hs : a.eval s = .slice (some ⟨w.heap.size, 0, none⟩) 0 0)
    (B' : Nat) (A : Option Addr) (c : Nat) (r : List Ce) (n : Nat) (hx : a.eval x = .slice A n c) (hr : Reads w B' 4 A n (ces r)) (hB' : B' ≤ w.heap.size) (hlen : n * 32 ≤ 140737488355328) (hB : B ≤ w.heap.size)
    (h : ∀ v' w', OwnK w' B v' r → Below B w w' → wpList Try.prog ops Q rest (a.put o.dst v') w') : wpList Try.prog ops Q (o :: rest) a (w.alloc (.cells #[] 57)) := by
  refine appKs _ hgd s x ho B _ [] hs (OwnK.fresh w B hB) B' A c r n hx (hr.alloc hB' _) (by simp; omega) (by simp; omega) ?_
  intro v' w' ho' hb' _ _
  exact h v' w' (by simpa using ho') (((Below.refl _ _).alloc hB _).trans hb')
/-- Cells of any list behind those that are owned, as one step of a region. -/
theorem stepK {ops : Array Oper} {o : Oper} {a : Act} {K : Act → World → Prop} {Q : Exit → Act → World → Prop} {E : Prop} (w : World) (hgd : o.guard = none) (s x : Operand)
    (ho : o.op = .call { callee := .builtin .append, args := #[s, x], argTypes := #[53, 53] }) (B : Nat) (v : Value) (l : List Ce) (hs : a.eval s = v) (hown : OwnK w B v l)
    (B' : Nat) (A : Option Addr) (c : Nat) (r : List Ce) (n : Nat) (hx : a.eval x = .slice A n c) (hr : Reads w B' 4 A n (ces r)) (hlen : (l.length + n) * 32 ≤ 140737488355328) (hB : B ≤ w.heap.size)
    (h : ∀ A' n' c' w', OwnK w' B (.slice A' n' c') (l ++ r) → w.grownBy w' v.ownBlock → ((Value.slice A' n' c').ownBlock = v.ownBlock ∨ (Value.slice A' n' c').ownBlock = some w.heap.size) → K (a.put o.dst (.slice A' n' c')) w') :
    if Region.wanted o (yielded ops a.tmps) = true then Oper.wp Try.prog o a w K Q else E := by
  obtain ⟨i0, hi0, hz0, hz1, hz2⟩ := info_parts cell_info
  have hnr : n = r.length := hr.klen.symm
  refine step_append_any (P := Try.prog) w hgd s x _ ho B 57 i0 _ 4 32 Try.underlying53 hi0 hz0 hz1 hz2 rfl (by omega) v l.length (ces l) hs hown B' A n c (ces r) hx hr (ces_one r)
    (by unfold maxLen; omega) (by omega) hB ?_
  intro v' w' ho hg hat
  have hv := OwnK.app_ rfl hnr ho
  obtain ⟨A', n', c', rfl⟩ := ownK_slice hv
  exact h A' n' c' w' hv hg hat
/-- Bytes behind an empty literal, as one step of a region. -/
theorem stepKE {ops : Array Oper} {o : Oper} {a : Act} {K : Act → World → Prop} {Q : Exit → Act → World → Prop} {E : Prop} (w : World) (k : Nat) (hgd : o.guard = none) (s x : Operand)
    (ho : o.op = .call { callee := .builtin .append, args := #[s, x], argTypes := #[53, 53] }) (hs : a.eval s = .slice (some ⟨k, 0, none⟩) 0 0) (hk : OwnK w k (.slice (some ⟨k, 0, none⟩) 0 0) [])
    (B' : Nat) (A : Option Addr) (c : Nat) (r : List Ce) (n : Nat) (hx : a.eval x = .slice A n c) (hr : Reads w B' 4 A n (ces r)) (hlen : n * 32 ≤ 140737488355328) (hB : k ≤ w.heap.size)
    (h : ∀ A' n' c' w', OwnK w' k (.slice A' n' c') r → Below k w w' → K (a.put o.dst (.slice A' n' c')) w') :
    if Region.wanted o (yielded ops a.tmps) = true then Oper.wp Try.prog o a w K Q else E := by
  refine stepK w hgd s x ho k _ [] hs hk B' A c r n hx hr (by simp; omega) hB ?_
  intro A' n' c' w' hown hg hat
  exact h A' n' c' w' (by simpa using hown) ((Below.refl _ _).grown hg hB (ownK_base hk))
theorem below_drew_allocK (w : World) (o : Obj) : Below w.heap.size w (w.drew.alloc o) := (⟨rfl, rfl, rfl, Nat.le_refl _, fun _ _ => rfl⟩ : Below w.heap.size w w.drew).alloc (Nat.le_refl _) o
theorem below_setK {B : Nat} {w V : World} (h : Below B w V) {x : Nat} (hx : B ≤ x) (o : Nat) (u : Value) : Below B w (V.setCell ⟨x, o, none⟩ u) := h.setCell (p := ⟨x, o, none⟩) hx u
theorem reads_cell (w : World) (T : TypeId) (m : Ce) : Reads (w.alloc (.cells #[.int .i64 m.n, .int .i64 m.s, .int .i64 m.d, .int .i64 m.x] T)) (w.heap.size + 1) 4 (some ⟨w.heap.size, 0, none⟩) 1 (ces [m]) := by
  refine ⟨rfl, fun _ => ⟨_, rfl, by simp, fun j u hj => ?_⟩⟩
  match j, hj with
  | 0, hj => simp [ces, Ce.cells] at hj; subst hj; simp [Addr.add]
  | 1, hj => simp [ces, Ce.cells] at hj; subst hj; simp [Addr.add]
  | 2, hj => simp [ces, Ce.cells] at hj; subst hj; simp [Addr.add]
  | 3, hj => simp [ces, Ce.cells] at hj; subst hj; simp [Addr.add]
  | j + 4, hj => simp [ces, Ce.cells] at hj
theorem reads_blkK {w : World} {g : Nat} {T : TypeId} {m : Ce} (h : Blk w g T #[.int .i64 m.n, .int .i64 m.s, .int .i64 m.d, .int .i64 m.x]) : Reads w (g + 1) 4 (some ⟨g, 0, none⟩) 1 (ces [m]) := by
  refine ⟨rfl, fun _ => ⟨_, rfl, by simp, fun j u hj => ?_⟩⟩
  match j, hj with
  | 0, hj => simp [ces, Ce.cells] at hj; subst hj; exact h.cell 0
  | 1, hj => simp [ces, Ce.cells] at hj; subst hj; exact h.cell 1
  | 2, hj => simp [ces, Ce.cells] at hj; subst hj; exact h.cell 2
  | 3, hj => simp [ces, Ce.cells] at hj; subst hj; exact h.cell 3
  | j + 4, hj => simp [ces, Ce.cells] at hj
theorem below_drewK {B : Nat} {w w' : World} (h : Below B w w') (n : Nat) : Below B w (w'.drewN n) := ⟨h.os, h.tape, h.output, h.size, h.block⟩
/-- A list of cells that is handed over. -/
structure InK (w : World) (l : List Ce) (A : Option Addr) (n c : Nat) : Prop where
  rd : Reads w w.heap.size 4 A n (ces l)
  cap : n ≤ c
  few : n ≤ 4398046511000
  i : ∀ m ∈ l, m.I
theorem InK.len {w : World} {l : List Ce} {A : Option Addr} {n c : Nat} (h : InK w l A n c) : l.length = n := h.rd.klen
theorem InK.next {w w' : World} {l : List Ce} {A : Option Addr} {n c : Nat} (h : InK w l A n c) (hb : Below w.heap.size w w') : InK w' l A n c := ⟨(h.rd.below hb).more hb.size, h.cap, h.few, h.i⟩
end Go.Proofs.Ytcicpgiljceioaa.Pk

/- Two cells compared. -/
namespace Go.Proofs.Ytcicpgiljceioaa.Pk
open Go.RowKit
set_option linter.unusedVariables false
section
attribute [local go_sem] Oper.semAt_some
set_option maxHeartbeats 4000000 in
theorem eq_cell (a b c d a' b' c' d' : Int) (w : World) : (Op.equalIn 10000 57 (.agg #[.int .i64 a, .int .i64 b, .int .i64 c, .int .i64 d]) (.agg #[.int .i64 a', .int .i64 b', .int .i64 c', .int .i64 d'])).run Try.prog w = .ok (decide ((⟨a, b, c, d⟩ : Ce) = ⟨a', b', c', d'⟩)) w := by
  have u3 := Try.underlying3
  have a3 := Try.isAgg3
  have z3 := Try.sizeOf3
  have hst : Try.prog.stoodInHeld 57 = false := by kernel_rfl
  rw [show (10000 : Nat) = 9999 + 1 from rfl, Op.equalIn]
  simp only [Sem.run_bind, run_underlying Try.underlying57, Result.andThen_ok]
  go_simp
  by_cases h1 : a = a' <;> by_cases h2 : b = b' <;> by_cases h3 : c = c' <;> by_cases h4 : d = d' <;> simp [h1, h2, h3, h4]
end
end Go.Proofs.Ytcicpgiljceioaa.Pk

/- The document's answers (fletchref13): Open, Same. -/
namespace Go.Proofs.Ytcicpgiljceioaa.Pk
open Go.RowKit
set_option linter.unusedVariables false
attribute [local go_sem] Oper.semAt_some
theorem openK_take {l : List Ce} {i : Nat} (h : i < l.length) : openK (l.take (i + 1)) = openK (l.take i) + (if (ceA l i).s = 1 ∨ (ceA l i).s = 2 then 1 else 0) := by
  unfold openK
  rw [List.take_add_one, ceA_get h, Option.toList, List.filter_append, List.length_append]
  by_cases hs : (ceA l i).s = 1 ∨ (ceA l i).s = 2
  · rw [if_pos hs]; simp [hs]
  · rw [if_neg hs]; simp [hs]
theorem openK_le (l : List Ce) : openK l ≤ l.length := List.length_filter_le _ _
set_option maxHeartbeats 4000000 in
theorem refopen_any (A : Option Addr) (n c : Nat) (l : List Ce) (w : World) (hin : InK w l A n c) :
    Calls Try.prog 40 #[.slice A n c] w fun e w' => e = .returned (.int .i64 (openK l : Nat)) ∧ Below w.heap.size w w' := by
  have HI := Lib.hid hin
  have HL := Lib.hid hin.len
  have hn := hin.few
  clear hin
  go_enter Try.func40, Try.ntmps40
  go_wp2
  go_loopw [3, 5, 8] (fun x _ j wr => ∃ i : Nat, j = .int .i64 i ∧ i ≤ n ∧ x = .int .i64 (openK (l.take i) : Nat) ∧ Below w.heap.size w wr) (fun _ _ j _ => n - (intOf j).toNat)
  case atStart => exact ⟨0, rfl, by omega, rfl, Below.refl _ _⟩
  case round =>
    obtain ⟨i, rfl, hi, rfl, hb⟩ := hrel
    obtain ⟨w1, rfl⟩ : ∃ w1 : World, w1 = wr := ⟨_, rfl⟩
    have HB := Lib.hid hb
    clear hb
    by_cases hlt : i < n
    · obtain ⟨b, off, rfl, _, hc⟩ := (HI.out.next HB.out).rd.ces_ (by omega)
      have HT := Lib.hid (openK_take (l := l) (i := i) (by rw [HL.out]; exact hlt))
      have HLe := Lib.hid (openK_le (l.take i))
      have hcg := hc i _ (ceA_get (by rw [HL.out]; exact hlt))
      obtain ⟨r, hr⟩ : ∃ r, r = ceA l i := ⟨_, rfl⟩
      rw [← hr] at HT hcg
      obtain ⟨rn, rs, rd, rx⟩ := r
      simp only at HT hcg
      obtain ⟨m0, m1, m2, m3⟩ := hcg
      obtain ⟨k, hk⟩ : ∃ k, k = openK (l.take i) := ⟨_, rfl⟩
      have hk2 : k ≤ n := by rw [hk]; have := HLe.out; rw [List.length_take] at this; omega
      rw [← hk] at HT ⊢
      clear hc hr hk
      have HB2 : Hid (Below w.heap.size w (w1.alloc (.cells #[.int .i64 rn, .int .i64 rs, .int .i64 rd, .int .i64 rx] 57))) := Lib.hid (HB.out.alloc HB.out.size _)
      by_cases h1 : rs = 1
      · have t1 : (rs == 1) = true := by simp [h1]
        have HS : Hid (openK (l.take (i + 1)) = k + 1) := Lib.hid (by rw [HT.out, if_pos (.inl h1)])
        clear h1
        go_wp2
        go_roundw
        case rel => exact ⟨i + 1, by go_num, by omega, by rw [HS.out]; go_num, HB2.out⟩
        case measure => simp [intOf]; omega
      · have t1 : (rs == 1) = false := by simp [h1]
        by_cases h2 : rs = 2
        · have t2 : (rs == 2) = true := by simp [h2]
          have HS : Hid (openK (l.take (i + 1)) = k + 1) := Lib.hid (by rw [HT.out, if_pos (.inr h2)])
          clear h1 h2
          go_wp2
          go_roundw
          case rel => exact ⟨i + 1, by go_num, by omega, by rw [HS.out]; go_num, HB2.out⟩
          case measure => simp [intOf]; omega
        · have t2 : (rs == 2) = false := by simp [h2]
          have HS : Hid (openK (l.take (i + 1)) = k) := Lib.hid (by rw [HT.out, if_neg (by omega)]; rfl)
          clear h1 h2
          go_wp2
          go_roundw
          case rel => exact ⟨i + 1, by go_num, by omega, by rw [HS.out], HB2.out⟩
          case measure => simp [intOf]; omega
    · have HF : Hid (openK (l.take i) = openK l) := Lib.hid (by rw [List.take_of_length_le (by rw [HL.out]; omega)])
      rw [HF.out]
      go_wp2
      go_ret
      exact ⟨rfl, HB.out⟩
theorem OwnK.sl {w : World} {B : Nat} {v : Value} {l : List Ce} (h : OwnK w B v l) : ∃ A c, v = .slice A l.length c := by
  obtain ⟨A, c, e, _⟩ := h.reads
  exact ⟨A, c, e⟩
theorem ownK_reads {w : World} {B : Nat} {A : Option Addr} {n c : Nat} {l : List Ce} (h : OwnK w B (.slice A n c) l) : Reads w w.heap.size 4 A n (ces l) := by
  obtain ⟨A', c', e, _, hr⟩ := OwnK.reads h
  injection e with e1 e2 e3
  subst e1; subst e2
  exact hr
theorem OwnK.lowK {w : World} {B B' : Nat} {v : Value} {l : List Ce} (h : OwnK w B v l) (hB : B' ≤ B) : OwnK w B' v l := by
  obtain ⟨h1, h2⟩ := h
  refine ⟨h1, ?_⟩
  rcases h2 with h2 | ⟨g, cap, cur, rfl, hb, hr⟩
  · exact .inl h2
  · exact .inr ⟨g, cap, cur, rfl, by omega, hr⟩
theorem ce_eq {a b : Ce} : a = b ↔ a.n = b.n ∧ a.s = b.s ∧ a.d = b.d ∧ a.x = b.x := by
  obtain ⟨a1, a2, a3, a4⟩ := a
  obtain ⟨b1, b2, b3, b4⟩ := b
  simp
def AlikeK (l r : List Ce) (k : Nat) : Prop := ∀ j, j < k → ceA l j = ceA r j
theorem alikeK_all {l r : List Ce} {n : Nat} (h : AlikeK l r n) (hl : l.length = n) (hr : r.length = n) : l = r := by
  apply List.ext_getElem?
  intro i
  rcases Nat.lt_or_ge i n with h1 | h1
  · rw [ceA_get (by omega), ceA_get (by omega), h i h1]
  · rw [List.getElem?_eq_none (by omega), List.getElem?_eq_none (by omega)]
theorem below_drewC {B : Nat} {w w' : World} (h : Below B w w') (n : Nat) : Below B w (w'.drewN n) := ⟨h.os, h.tape, h.output, h.size, h.block⟩
set_option maxHeartbeats 4000000 in
theorem sameK (A A' : Option Addr) (n c n' c' : Nat) (l r : List Ce) (w : World) (hl : Reads w w.heap.size 4 A n (ces l)) (hr : Reads w w.heap.size 4 A' n' (ces r)) (hn : n ≤ 4611686018427387904) :
    Calls Try.prog 32 #[.slice A n c, .slice A' n' c'] w fun e w' => e = .returned (.bool (decide (l = r))) ∧ Below w.heap.size w w' := by
  have HL := Lib.hid hl.klen
  have HR := Lib.hid hr.klen
  have HRl := Lib.hid hl
  have HRr := Lib.hid hr
  clear hl hr
  obtain ⟨res, hres⟩ : ∃ res, res = decide (l = r) := ⟨_, rfl⟩
  have HRe := Lib.hid hres
  rw [← hres]
  clear hres
  by_cases h1 : n = n'
  case neg =>
    have t1 : ((n : Int) != (n' : Int)) = true := by simp; omega
    have HS : Hid (res = false) := Lib.hid (by rw [HRe.out]; exact decide_eq_false (fun e => h1 (by rw [← HL.out, ← HR.out, e])))
    rw [HS.out]
    clear h1
    go_enter Try.func32, Try.ntmps32
    go_wp2
    go_ret
    exact ⟨rfl, Below.refl _ _⟩
  case pos =>
  subst h1
  have t1 : ((n : Int) != (n : Int)) = false := by simp
  go_enter Try.func32, Try.ntmps32
  go_wp2
  go_loopw [5, 13] (fun _ j wr => ∃ i : Nat, j = .int .i64 i ∧ i ≤ n ∧ AlikeK l r i ∧ ∃ k, wr = w.drewN k) (fun _ j _ => n - (intOf j).toNat)
  case atStart => exact ⟨0, rfl, by omega, (fun j hj => by omega), 0, rfl⟩
  case round =>
    obtain ⟨i, rfl, hi, hal, k, rfl⟩ := hrel
    have HA := Lib.hid hal
    clear hal
    by_cases hlt : i < n
    · obtain ⟨b, off, rfl, _, hc⟩ := HRl.out.ces_ (by omega)
      obtain ⟨b', off', rfl, _, hc'⟩ := HRr.out.ces_ (by omega)
      obtain ⟨m0, m1, m2, m3⟩ := hc i _ (ceA_get (by rw [HL.out]; exact hlt))
      obtain ⟨q0, q1, q2, q3⟩ := hc' i _ (ceA_get (by rw [HR.out]; exact hlt))
      have HEq : Hid ((ceA l i = ceA r i) ↔ ((⟨(ceA l i).n, (ceA l i).s, (ceA l i).d, (ceA l i).x⟩ : Ce) = ⟨(ceA r i).n, (ceA r i).s, (ceA r i).d, (ceA r i).x⟩)) := Lib.hid Iff.rfl
      obtain ⟨x0, h0⟩ : ∃ x, x = (ceA l i).n := ⟨_, rfl⟩
      obtain ⟨x1, h1⟩ : ∃ x, x = (ceA l i).s := ⟨_, rfl⟩
      obtain ⟨x2, h2⟩ : ∃ x, x = (ceA l i).d := ⟨_, rfl⟩
      obtain ⟨x3, h3⟩ : ∃ x, x = (ceA l i).x := ⟨_, rfl⟩
      obtain ⟨y0, g0⟩ : ∃ x, x = (ceA r i).n := ⟨_, rfl⟩
      obtain ⟨y1, g1⟩ : ∃ x, x = (ceA r i).s := ⟨_, rfl⟩
      obtain ⟨y2, g2⟩ : ∃ x, x = (ceA r i).d := ⟨_, rfl⟩
      obtain ⟨y3, g3⟩ : ∃ x, x = (ceA r i).x := ⟨_, rfl⟩
      rw [← h0, ← h1, ← h2, ← h3, ← g0, ← g1, ← g2, ← g3] at HEq
      rw [← h0] at m0; rw [← h1] at m1; rw [← h2] at m2; rw [← h3] at m3
      rw [← g0] at q0; rw [← g1] at q1; rw [← g2] at q2; rw [← g3] at q3
      have cs : ∀ k, (w.drewN k).cell? ⟨b, off + i * 4, none⟩ = some (.int .i64 x0) ∧ (w.drewN k).cell? ⟨b, off + i * 4 + 1, none⟩ = some (.int .i64 x1) ∧ (w.drewN k).cell? ⟨b, off + i * 4 + 2, none⟩ = some (.int .i64 x2) ∧ (w.drewN k).cell? ⟨b, off + i * 4 + 3, none⟩ = some (.int .i64 x3) := fun _ => ⟨m0, m1, m2, m3⟩
      have cs' : ∀ k, (w.drewN k).cell? ⟨b', off' + i * 4, none⟩ = some (.int .i64 y0) ∧ (w.drewN k).cell? ⟨b', off' + i * 4 + 1, none⟩ = some (.int .i64 y1) ∧ (w.drewN k).cell? ⟨b', off' + i * 4 + 2, none⟩ = some (.int .i64 y2) ∧ (w.drewN k).cell? ⟨b', off' + i * 4 + 3, none⟩ = some (.int .i64 y3) := fun _ => ⟨q0, q1, q2, q3⟩
      have c0 := fun k => (cs k).1
      have c1 := fun k => (cs k).2.1
      have c2 := fun k => (cs k).2.2.1
      have c3 := fun k => (cs k).2.2.2
      have d0 := fun k => (cs' k).1
      have d1 := fun k => (cs' k).2.1
      have d2 := fun k => (cs' k).2.2.1
      have d3 := fun k => (cs' k).2.2.2
      clear hc hc' h0 h1 h2 h3 g0 g1 g2 g3 m0 m1 m2 m3 q0 q1 q2 q3 cs cs'
      by_cases he : (⟨x0, x1, x2, x3⟩ : Ce) = ⟨y0, y1, y2, y3⟩
      · have HN : Hid (AlikeK l r (i + 1)) := Lib.hid (fun j hj => by
          rcases Nat.lt_or_ge j i with h | h
          · exact HA.out j h
          · obtain rfl : j = i := by omega
            exact HEq.out.2 he)
        have ke2 : ∀ W : World, (Op.equalIn 10000 57 (.agg #[.int .i64 x0, .int .i64 x1, .int .i64 x2, .int .i64 x3]) (.agg #[.int .i64 y0, .int .i64 y1, .int .i64 y2, .int .i64 y3])).run Try.prog W = .ok true W := fun W => by rw [eq_cell, decide_eq_true he]
        clear he
        go_wp2_with fail
        go_quiet (fail)
        go_wp2
        go_roundw
        case rel => exact ⟨i + 1, by go_num, by omega, HN.out, _, rfl⟩
        case measure => simp [intOf]; omega
      · have ke2 : ∀ W : World, (Op.equalIn 10000 57 (.agg #[.int .i64 x0, .int .i64 x1, .int .i64 x2, .int .i64 x3]) (.agg #[.int .i64 y0, .int .i64 y1, .int .i64 y2, .int .i64 y3])).run Try.prog W = .ok false W := fun W => by rw [eq_cell, decide_eq_false he]
        have HS : Hid (res = false) := Lib.hid (by rw [HRe.out]; exact decide_eq_false (fun e => he (HEq.out.1 (by rw [e]))))
        clear he
        go_wp2_with fail
        go_quiet (fail)
        go_wp2
        go_ret
        exact ⟨by rw [HS.out]; rfl, below_drewC (below_drewC (Below.refl _ w) k) _⟩
    · have HS : Hid (res = true) := Lib.hid (by rw [HRe.out]; exact decide_eq_true (alikeK_all HA.out (by rw [HL.out]; omega) (by rw [HR.out]; omega)))
      go_wp2
      go_ret
      exact ⟨by rw [HS.out]; rfl, below_drewC (Below.refl _ w) k⟩
end Go.Proofs.Ytcicpgiljceioaa.Pk
