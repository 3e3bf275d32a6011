/- What stays, what is counted on: the shape of a state behind a step; P15.1 without the document's answer. -/
import Derived.Test.YtiaafhcfeeekeaaZCoLose
import Derived.Test.YtiaafhcfeeekeaaZCoWakeA
import Derived.Test.YtiaafhcfeeekeaaZStPut
import Derived.Test.YtiaafhcfeeekeaaZStMath
import Derived.Test.YtiaafhcfeeekeaaProg
import Derived.OrdersHeld
import Derived.Deep.RegionHeld3
import Derived.Lib.Hide
import Derived.Test.YtiaafhcfeeekeaaZTrCheck
namespace Go.Proofs.Ytiaafhcfeeekeaa.Pk
open Go.Proofs.Ytiaafhcfeeekeaa.Gr
set_option linter.unusedVariables false
/-- The same node, the same numbers, the same peers. -/
structure Calm (s t : St) : Prop where
  me : t.me = s.me
  ms : t.os.map (·.m) = s.os.map (·.m)
  ps_ : t.es.map (·.p) = s.es.map (·.p)
  q : t.q = s.q
theorem Calm.refl (s : St) : Calm s s := ⟨rfl, rfl, rfl, rfl⟩
theorem Calm.trans {s t u : St} (h : Calm s t) (k : Calm t u) : Calm s u := ⟨k.me.trans h.me, k.ms.trans h.ms, k.ps_.trans h.ps_, k.q.trans h.q⟩
theorem Calm.os_len {s t : St} (h : Calm s t) : t.os.length = s.os.length := by have := congrArg List.length h.ms; simpa using this
theorem Calm.es_len {s t : St} (h : Calm s t) : t.es.length = s.es.length := by have := congrArg List.length h.ps_; simpa using this
theorem map_set_same {α β : Type} (f : α → β) (l : List α) (i : Nat) (x d : α) (h : f x = f (l.getD i d)) : (l.set i x).map f = l.map f := by
  rw [List.map_set]
  by_cases hi : i < l.length
  · apply List.ext_getElem?
    intro j
    by_cases hj : i = j
    · subst hj
      rw [List.getElem?_set_self (by simpa using hi), List.getElem?_map, List.getElem?_eq_getElem hi, Option.map_some, h, List.getD_eq_getElem?_getD, List.getElem?_eq_getElem hi]; rfl
    · rw [List.getElem?_set_ne hj]
  · rw [List.set_eq_of_length_le (by simp; omega)]
theorem calm_setO {s : St} {k : Nat} {o : Ow} (h : o.m = (objA s k).m) : Calm s (setO s k o) := ⟨rfl, map_set_same (·.m) s.os k o ⟨0, 0, []⟩ h, rfl, rfl⟩
theorem calm_setE {s : St} {i : Nat} {e : Hf} (h : e.p = (sideA s i).p) : Calm s (setE s i e) := ⟨rfl, rfl, map_set_same (·.p) s.es i e Hf.zero h, rfl⟩
theorem push_cases (s : St) (p : Int) (m : Mg) : (pushS s p m).1 = s ∨ ∃ i, edgeAt s p = some i ∧ i < s.es.length ∧ (pushS s p m).1 = setE s i ((sideA s i).add m) := by
  by_cases he : (pushS s p m).2 = 0
  · rcases push_sides he with ⟨_, h⟩ | ⟨i, h1, h2, _, h4⟩
    · exact .inl h
    · exact .inr ⟨i, h1, h2, h4⟩
  · refine .inl ?_
    unfold pushS at he ⊢
    cases h : edgeAt s p with
    | none => rfl
    | some i =>
      rw [h] at he
      simp only at he ⊢
      split
      · rename_i h0
        rw [if_pos h0] at he
        exact absurd rfl he
      · rfl
theorem push_calm (s : St) (p : Int) (m : Mg) : Calm s (pushS s p m).1 := by
  rcases push_cases s p m with h | ⟨i, _, _, h⟩
  · rw [h]; exact Calm.refl s
  · rw [h]; exact calm_setE rfl
theorem pass_calm (s : St) (m : Mg) : Calm s (passS s m) := by
  unfold passS
  split
  · exact calm_setO rfl
  · exact Calm.refl s
theorem tell_calm (s : St) (m : Mg) : Calm s (tellS s m) := by
  have h := tell_os s m
  exact ⟨h.2.2.1, by rw [h.1], by rw [h.2.1], h.2.2.2⟩
theorem toward_calm (ps : List Int) (s : St) (m : Mg) : Calm s (towardS ps s m).1 := by
  unfold towardS
  split
  · exact push_calm ..
  · split
    · exact pass_calm ..
    · exact tell_calm ..
theorem seek_calm (ps : List Int) (s : St) (m : Mg) : Calm s (seekS ps s m).1 := by
  unfold seekS
  split
  · exact push_calm ..
  · exact toward_calm ..
theorem find_calm (ps : List Int) (s : St) (f : Int) (m : Mg) : Calm s (findS ps s f m).1 := by
  unfold findS
  split
  · exact Calm.refl s
  · split
    · refine Calm.trans ?_ (push_calm ..)
      exact calm_setO rfl
    · split
      · refine Calm.trans ?_ (toward_calm ..)
        exact calm_setO rfl
      · exact calm_setO rfl
theorem come_calm (ps : List Int) (s : St) (f : Int) (m : Mg) : Calm s (comeS ps s f m).1 := by
  unfold comeS
  split
  · exact seek_calm ..
  · split
    · exact toward_calm ..
    · exact find_calm ..
theorem gram_calm {ps : List Int} {s : St} {g : Gm} (h : GoodS ps s) : Calm s (gramS ps s g).1 := by
  unfold gramS
  split
  · exact Calm.refl s
  · cases hi : edgeAt s g.f with
    | none => exact Calm.refl s
    | some i =>
      have hq := hheard_good (h.es _ (side_mem (edgeAt_some hi).1)).1 g.a
      simp only
      split
      · refine Calm.trans ?_ (come_calm ..)
        exact calm_setE hq.2.1
      · exact calm_setE hq.2.1
theorem rel_calm (ps : List Int) (s : St) (k : Nat) : Calm s (relS ps s k).1 := by
  unfold relS
  split
  · exact Calm.refl s
  · split
    · exact calm_setO rfl
    · refine Calm.trans ?_ (toward_calm ..)
      exact calm_setO rfl
/-- Numbers: an acquire makes the object's next one, a locate the node's. -/
structure Counted (s t : St) (ev : Ev) (n : Int) : Prop where
  me : t.me = s.me
  os : t.os.length = s.os.length
  ps_ : t.es.map (·.p) = s.es.map (·.p)
  ms : ∀ k : Nat, k < s.os.length → (objA t k).m = (objA s k).m + (if ev.k = 1 ∧ ev.o = (k : Int) then 1 else 0)
  n1 : ev.k = 1 → n = (objA t ev.o.toNat).m
  q : t.q = s.q + (if ev.k = 3 then 1 else 0)
  n3 : ev.k = 3 → n = t.q
  n0 : ev.k ≠ 1 → ev.k ≠ 3 → n = 0
theorem calm_m {s t : St} (h : Calm s t) {k : Nat} (hk : k < s.os.length) : (objA t k).m = (objA s k).m := by
  have h1 := congrArg (fun l => l[k]?) h.ms
  have hk2 : k < t.os.length := by rw [h.os_len]; exact hk
  simp only [List.getElem?_map, List.getElem?_eq_getElem hk, List.getElem?_eq_getElem hk2, Option.map_some, Option.some.injEq] at h1
  unfold objA
  rw [List.getD_eq_getElem?_getD, List.getD_eq_getElem?_getD, List.getElem?_eq_getElem hk, List.getElem?_eq_getElem hk2]
  exact h1
theorem Calm.counted {s t : St} {ev : Ev} (h : Calm s t) (h1 : ev.k ≠ 1) (h3 : ev.k ≠ 3) : Counted s t ev 0 :=
  ⟨h.me, h.os_len, h.ps_, fun k hk => by rw [calm_m h hk, if_neg (fun q => h1 q.1), Int.add_zero], fun q => absurd q h1, by rw [h.q, if_neg h3, Int.add_zero], fun q => absurd q h3, fun _ _ => rfl⟩
/-- P15.1, the numbers; and the shape that P15.2 asks. -/
theorem step_counts {ps : List Int} {s : St} {ev : Ev} (h : GoodS ps s) (he : (stepS ps s ev).2.2 = 0) : Counted s (stepS ps s ev).1 ev (stepS ps s ev).2.1 := by
  unfold stepS at he ⊢
  by_cases h1 : ev.k < 1 ∨ 4 < ev.k
  · rw [if_pos h1] at he; cases he
  rw [if_neg h1] at he ⊢
  by_cases h4 : ev.k = 4
  · rw [if_pos h4] at he ⊢
    exact (gram_calm h).counted (by omega) (by omega)
  rw [if_neg h4] at he ⊢
  by_cases h3 : ev.o < 0 ∨ (s.os.length : Int) ≤ ev.o
  · rw [if_pos h3] at he; cases he
  rw [if_neg h3] at he ⊢
  have hk : ev.o.toNat < s.os.length := by omega
  have hko : ev.o = (ev.o.toNat : Int) := by omega
  by_cases ha : ev.k = 1
  · rw [if_pos ha] at he ⊢
    unfold acqS at he ⊢
    by_cases h8 : 8 ≤ sumK s.os
    · rw [if_pos h8] at he; cases he
    rw [if_neg h8] at he ⊢
    by_cases hM : (objA s ev.o.toNat).m = 1099511627776
    · rw [if_pos hM] at he; cases he
    rw [if_neg hM] at he ⊢
    by_cases hs : (objA s ev.o.toNat).a = s.me
    · rw [if_pos hs]
      refine ⟨rfl, by show (s.os.set _ _).length = _; rw [List.length_set], rfl, fun k hk2 => ?_, fun _ => ?_, ?_, fun q => by omega, fun q => absurd ha q⟩
      · show (objA (setO s ev.o.toNat _) k).m = _
        rw [objA_setO s _ hk]
        by_cases hj : k = ev.o.toNat
        · rw [if_pos hj, if_pos ⟨ha, by omega⟩, hj]
        · rw [if_neg hj, if_neg (by omega), Int.add_zero]
      · show _ = (objA (setO s ev.o.toNat _) _).m
        rw [objA_setO s _ hk, if_pos rfl]
      · show s.q = _
        rw [if_neg (by omega), Int.add_zero]
    · rw [if_neg hs] at he ⊢
      by_cases hp : (pushS s (objA s ev.o.toNat).a ⟨1, (ev.o.toNat : Int), s.me, (objA s ev.o.toNat).m + 1, 0⟩).2 = 0
      · rw [if_pos hp]
        have hc := push_calm s (objA s ev.o.toNat).a ⟨1, (ev.o.toNat : Int), s.me, (objA s ev.o.toNat).m + 1, 0⟩
        have hk2 : ev.o.toNat < (pushS s (objA s ev.o.toNat).a ⟨1, (ev.o.toNat : Int), s.me, (objA s ev.o.toNat).m + 1, 0⟩).1.os.length := by rw [hc.os_len]; exact hk
        refine ⟨hc.me, by show (List.set _ _ _).length = _; rw [List.length_set, hc.os_len], hc.ps_, fun k hk3 => ?_, fun _ => ?_, ?_, fun q => by omega, fun q => absurd ha q⟩
        · show (objA (setO _ ev.o.toNat _) k).m = _
          rw [objA_setO _ _ hk2]
          by_cases hj : k = ev.o.toNat
          · rw [if_pos hj, if_pos ⟨ha, by omega⟩, hj]
          · rw [if_neg hj, if_neg (by omega), Int.add_zero, calm_m hc hk3]
        · show _ = (objA (setO _ ev.o.toNat _) _).m
          rw [objA_setO _ _ hk2, if_pos rfl]
        · show (pushS _ _ _).1.q = _
          rw [hc.q, if_neg (by omega), Int.add_zero]
      · rw [if_neg hp] at he
        exact absurd he hp
  rw [if_neg ha] at he ⊢
  by_cases hr : ev.k = 2
  · rw [if_pos hr] at he ⊢
    exact (rel_calm ps s _).counted (by omega) (by omega)
  rw [if_neg hr] at he ⊢
  unfold locS at he ⊢
  by_cases h4 : 4 ≤ s.as_.length
  · rw [if_pos h4] at he; cases he
  rw [if_neg h4] at he ⊢
  by_cases hM : s.q = 1099511627776
  · rw [if_pos hM] at he; cases he
  rw [if_neg hM] at he ⊢
  have hc := seek_calm ps { s with q := s.q + 1, as_ := s.as_ ++ [⟨(ev.o.toNat : Int), s.q + 1⟩] } ⟨3, (ev.o.toNat : Int), s.me, s.q + 1, 0⟩
  exact ⟨hc.me, hc.os_len, hc.ps_, fun k hk2 => by
      rw [if_neg (by omega), Int.add_zero]
      exact calm_m hc hk2, fun q => absurd q ha, by
      rw [if_pos (by omega)]
      exact hc.q, fun _ => hc.q.symm, fun _ q => by omega⟩
end Go.Proofs.Ytiaafhcfeeekeaa.Pk

/- What package state promises (to be proved of the code that lands). -/
namespace Go.Proofs.Ytiaafhcfeeekeaa.Pk
open Go.RowKit Go.Proofs.Ytiaafhcfeeekeaa.Gr
set_option linter.unusedVariables false
def StHomesP : Prop := ∀ (T g : Nat) (ps : List Int) (A : Option Addr) (n c : Nat) (hs : List Int) (w : World), IsTr w T g ps → Gr.Good ps → InN w hs A n c →
  Calls Try.prog 32 #[.pointer (some ⟨T, 0, none⟩), .slice A n c] w fun e w' => e = .returned (.int .i64 (homesE ps.length hs)) ∧ Below w.heap.size w w'
def StHomesZ : Prop := ∀ (A : Option Addr) (n c : Nat) (hs : List Int) (w : World), InN w hs A n c → Calls Try.prog 32 #[.pointer none, .slice A n c] w fun e w' => e = .returned (.int .i64 2) ∧ Below w.heap.size w w'
def StMeantP : Prop := ∀ (T g : Nat) (ps : List Int) (k : Int) (m : Mg) (w : World), IsTr w T g ps → Gr.Good ps → I64 k → m.I →
  Calls Try.prog 52 #[.pointer (some ⟨T, 0, none⟩), .int .i64 k, m.val] w fun e w' => e = .returned (.bool (decide (MeantS (ps.length : Int) k m))) ∧ Below w.heap.size w w'
def StMeantZ : Prop := ∀ (k : Int) (m : Mg) (w : World), I64 k → m.I → Calls Try.prog 52 #[.pointer none, .int .i64 k, m.val] w fun e w' => e = .returned (.bool false) ∧ Below w.heap.size w w'
def StOpenP : Prop := ∀ (s : StL) (w : World), InS w s → Calls Try.prog 29 #[s.val] w fun e w' => e = .returned (.int .i64 (openW s.v.os)) ∧ Below w.heap.size w w'

def StCopyP : Prop := ∀ (s : StL) (w : World), InS w s → Calls Try.prog 23 #[s.val] w fun e w' => ∃ s2 : StL, e = .returned s2.val ∧ s2.v = s.v ∧ OwnS w' w.heap.size s2 ∧ Below w.heap.size w w'
end Go.Proofs.Ytiaafhcfeeekeaa.Pk

/- The landed within, below and has of package state. -/
namespace Go.Proofs.Ytiaafhcfeeekeaa.Pk
open Go.RowKit Go.Proofs.Ytiaafhcfeeekeaa.Gr
set_option linter.unusedVariables false
theorem swithin_any {x a b : Int} (w : World) : Calls Try.prog 49 #[.int .i64 x, .int .i64 a, .int .i64 b] w fun e w' => e = .returned (.bool (decide (a ≤ x ∧ x ≤ b))) ∧ w' = w := by
  by_cases h0 : a ≤ x
  · have b1 : decide (a ≤ x) = true := decide_eq_true h0
    by_cases h1 : x ≤ b
    · have b2 : decide (x ≤ b) = true := decide_eq_true h1
      have HG : Hid (decide (a ≤ x ∧ x ≤ b) = true) := Lib.hid (decide_eq_true ⟨h0, h1⟩)
      rw [HG.out]
      clear h0 h1
      go_enter Try.func49, Try.ntmps49
      go_wp2
      go_ret
      exact ⟨rfl, rfl⟩
    · have b2 : decide (x ≤ b) = false := decide_eq_false h1
      have HG : Hid (decide (a ≤ x ∧ x ≤ b) = false) := Lib.hid (decide_eq_false (fun h => h1 h.2))
      rw [HG.out]
      clear h0 h1
      go_enter Try.func49, Try.ntmps49
      go_wp2
      go_ret
      exact ⟨rfl, rfl⟩
  · have b1 : decide (a ≤ x) = false := decide_eq_false h0
    have HG : Hid (decide (a ≤ x ∧ x ≤ b) = false) := Lib.hid (decide_eq_false (fun h => h0 h.1))
    rw [HG.out]
    clear h0
    go_enter Try.func49, Try.ntmps49
    go_wp2
    go_ret
    exact ⟨rfl, rfl⟩
theorem sbelow_any {x k : Int} (w : World) : Calls Try.prog 47 #[.int .i64 x, .int .i64 k] w fun e w' => e = .returned (.bool (decide (0 ≤ x ∧ x < k))) ∧ w' = w := by
  by_cases h0 : 0 ≤ x
  · have b1 : decide (0 ≤ x) = true := decide_eq_true h0
    by_cases h1 : x < k
    · have b2 : decide (x < k) = true := decide_eq_true h1
      have HG : Hid (decide (0 ≤ x ∧ x < k) = true) := Lib.hid (decide_eq_true ⟨h0, h1⟩)
      rw [HG.out]
      clear h0 h1
      go_enter Try.func47, Try.ntmps47
      go_wp2
      go_ret
      exact ⟨rfl, rfl⟩
    · have b2 : decide (x < k) = false := decide_eq_false h1
      have HG : Hid (decide (0 ≤ x ∧ x < k) = false) := Lib.hid (decide_eq_false (fun h => h1 h.2))
      rw [HG.out]
      clear h0 h1
      go_enter Try.func47, Try.ntmps47
      go_wp2
      go_ret
      exact ⟨rfl, rfl⟩
  · have b1 : decide (0 ≤ x) = false := decide_eq_false h0
    have HG : Hid (decide (0 ≤ x ∧ x < k) = false) := Lib.hid (decide_eq_false (fun h => h0 h.1))
    rw [HG.out]
    clear h0
    go_enter Try.func47, Try.ntmps47
    go_wp2
    go_ret
    exact ⟨rfl, rfl⟩
/-- Is it a node of the tree? -/
theorem shas_any (T g : Nat) (ps : List Int) (v : Int) (w : World) (h : IsTr w T g ps) :
    Calls Try.prog 25 #[.pointer (some ⟨T, 0, none⟩), .int .i64 v] w fun e w' => e = .returned (.bool (decide (0 ≤ v ∧ v < (ps.length : Int)))) ∧ w' = w := by
  have HS := Lib.hid (size_any T g ps w h)
  have HB := Lib.hid (sbelow_any (x := v) (k := (ps.length : Int)) w)
  obtain ⟨q, hq⟩ : ∃ q, q = decide (0 ≤ v ∧ v < (ps.length : Int)) := ⟨_, rfl⟩
  rw [← hq] at HB ⊢
  clear h hq
  go_enter Try.func25, Try.ntmps25
  go_wp2_with fail
  refine HS.out.mono ?_
  rintro e w1 ⟨rfl, hw⟩
  rw [hw]
  clear hw w1
  go_wp2_with fail
  refine HB.out.mono ?_
  rintro e w1 ⟨rfl, hw⟩
  rw [hw]
  clear hw w1
  go_wp2_with fail
  go_ret
  exact ⟨rfl, rfl⟩
end Go.Proofs.Ytiaafhcfeeekeaa.Pk

/- The landed Homes and Meant of package state. -/
namespace Go.Proofs.Ytiaafhcfeeekeaa.Pk
open Go.RowKit Go.Proofs.Ytiaafhcfeeekeaa.Gr
set_option linter.unusedVariables false
attribute [local go_sem] Oper.semAt_some
theorem withinB {x a b : Int} (r : Bool) (w : World) (h : decide (a ≤ x ∧ x ≤ b) = r) : Calls Try.prog 49 #[.int .i64 x, .int .i64 a, .int .i64 b] w fun e w' => e = .returned (.bool r) ∧ w' = w := h ▸ swithin_any w
theorem belowB {x k : Int} (r : Bool) (w : World) (h : decide (0 ≤ x ∧ x < k) = r) : Calls Try.prog 47 #[.int .i64 x, .int .i64 k] w fun e w' => e = .returned (.bool r) ∧ w' = w := h ▸ sbelow_any w
theorem hasB_ {T g : Nat} {ps : List Int} {v : Int} (r : Bool) (w : World) (h : IsTr w T g ps) (hr : decide (0 ≤ v ∧ v < (ps.length : Int)) = r) :
    Calls Try.prog 25 #[.pointer (some ⟨T, 0, none⟩), .int .i64 v] w fun e w' => e = .returned (.bool r) ∧ w' = w := hr ▸ shas_any T g ps v w h
set_option maxHeartbeats 4000000 in
theorem homesS : StHomesP := by
  intro T g ps A n c hs w htr G hin
  have HT := Lib.hid htr
  have HR := Lib.hid hin.rd
  have HL : Hid (hs.length = n) := Lib.hid hin.len
  have hfew := hin.few
  clear htr hin G
  unfold homesE
  by_cases h8 : 1 ≤ n ∧ n ≤ 8
  · have HW := Lib.hid (withinB (x := (n : Int)) (a := 1) (b := 8) true w (decide_eq_true (by omega)))
    go_enter Try.func32, Try.ntmps32
    go_wp2_with fail
    refine HW.out.mono ?_
    rintro e w' ⟨rfl, hw⟩
    rw [hw]
    clear hw w'
    go_wp2_with fail
    go_loop [17] (fun j => ∃ i : Nat, j = .int .i64 i ∧ i ≤ n ∧ ∀ k, k < i → 0 ≤ hs.getD k 0 ∧ hs.getD k 0 < (ps.length : Int)) (fun j => n - (intOf j).toNat)
    case atStart => exact ⟨0, rfl, by omega, fun k hk => by omega⟩
    case round =>
      obtain ⟨i, rfl, hi, hall⟩ := hrel
      have HA := Lib.hid hall
      clear hall
      by_cases hlt : i < n
      · obtain ⟨b, off, rfl, _, hc⟩ := HR.out.i64 (by omega)
        have m0 := hc i hlt
        have HX : Hid (∀ x, x = hs.getD i 0 → x ∈ hs) := Lib.hid (fun x hx => by
          rw [hx, List.getD_eq_getElem?_getD, List.getElem?_eq_getElem (by rw [HL.out]; exact hlt)]
          exact List.getElem_mem _)
        obtain ⟨x, hx⟩ : ∃ x, x = hs.getD i 0 := ⟨_, rfl⟩
        rw [← hx] at m0
        have HM := Lib.hid (HX.out x hx)
        have HXx := Lib.hid hx
        clear hc hx HX
        by_cases hq : 0 ≤ x ∧ x < (ps.length : Int)
        · have HH := Lib.hid (hasB_ (v := x) true w HT.out (decide_eq_true hq))
          have HN : Hid (∀ k, k < i + 1 → 0 ≤ hs.getD k 0 ∧ hs.getD k 0 < (ps.length : Int)) := Lib.hid (fun k hk => by
            rcases Nat.lt_or_ge k i with hk2 | hk2
            · exact HA.out k hk2
            · have : k = i := by omega
              subst this
              rw [← HXx.out]; exact hq)
          clear hq
          go_wp2_with (refine HH.out.mono ?_; rintro e w' ⟨rfl, hw⟩; rw [hw]; clear hw w')
          go_round
          case rel => exact ⟨i + 1, by go_num, by omega, HN.out⟩
          case measure => simp [intOf]; omega
        · have HH := Lib.hid (hasB_ (v := x) false w HT.out (decide_eq_false hq))
          have HD : Hid (¬ HomesS ps.length hs) := Lib.hid (fun hh => hq (hh.2 x HM.out))
          clear hq
          go_wp2_with (refine HH.out.mono ?_; rintro e w' ⟨rfl, hw⟩; rw [hw]; clear hw w')
          go_ret
          exact ⟨by first | rfl | (rw [if_neg HD.out]; rfl), Below.refl _ _⟩
      · have HD : Hid (HomesS ps.length hs) := Lib.hid ⟨by rw [HL.out]; exact h8, fun h hh => by
          obtain ⟨k, hk⟩ := List.getElem?_of_mem hh
          have h3 := (List.getElem?_eq_some_iff.1 hk).1
          have := HA.out k (by rw [HL.out] at h3; omega)
          rw [List.getD_eq_getElem?_getD, hk] at this
          exact this⟩
        go_wp2_with fail
        go_ret
        exact ⟨by first | rfl | (rw [if_pos HD.out]; rfl), Below.refl _ _⟩
  · have HD : Hid (¬ HomesS ps.length hs) := Lib.hid (fun hh => h8 (by have := hh.1; rw [HL.out] at this; exact this))
    have HW := Lib.hid (withinB (x := (n : Int)) (a := 1) (b := 8) false w (decide_eq_false (by omega)))
    clear h8
    go_enter Try.func32, Try.ntmps32
    go_wp2_with fail
    refine HW.out.mono ?_
    rintro e w' ⟨rfl, hw⟩
    rw [hw]
    clear hw w'
    go_wp2_with fail
    go_ret
    exact ⟨by first | rfl | (rw [if_neg HD.out]; rfl), Below.refl _ _⟩
set_option maxHeartbeats 4000000 in
theorem meantS : StMeantP := by
  intro T g ps k m w htr G hk hm
  obtain ⟨mk, mo, mn, mu, mv⟩ := m
  clear hk hm G
  unfold Mg.val
  simp only
  obtain ⟨w1, hw1⟩ : ∃ w1, w1 = w.alloc (.cells #[.int .i64 mk, .int .i64 mo, .int .i64 mn, .int .i64 mu, .int .i64 mv] 30) := ⟨_, rfl⟩
  have hb1 : Below w.heap.size w w1 := hw1 ▸ (Below.refl _ w).alloc (Nat.le_refl _) _
  have HB := Lib.hid hb1
  have HT := Lib.hid (htr.below_ hb1)
  have HBl := fun r h => Lib.hid (belowB (x := mo) (k := k) r w1 h)
  have HN := fun r h => Lib.hid (hasB_ (v := mn) r w1 HT.out h)
  have HV := fun r h => Lib.hid (hasB_ (v := mv) r w1 HT.out h)
  clear htr hb1
  by_cases h0 : 0 ≤ mo ∧ mo < k
  · have H0 := HBl true (decide_eq_true h0)
    by_cases h1 : 0 ≤ mn ∧ mn < (ps.length : Int)
    · have H1 := HN true (decide_eq_true h1)
      by_cases h2 : 0 ≤ mv ∧ mv < (ps.length : Int)
      · have H2 := HV true (decide_eq_true h2)
        have hd : decide (MeantS (ps.length : Int) k ⟨mk, mo, mn, mu, mv⟩) = true := decide_eq_true (by unfold MeantS; simp only; omega)
        rw [hd]
        clear hd h0 h1 h2 HBl HN HV
        go_enter Try.func52, Try.ntmps52
        go_wp2_with fail
        rw [← hw1]
        refine H0.out.mono ?_
        rintro e w' ⟨rfl, hw⟩
        rw [hw, hw1]
        clear hw w'
        go_wp2_with fail
        rw [← hw1]
        refine H1.out.mono ?_
        rintro e w' ⟨rfl, hw⟩
        rw [hw, hw1]
        clear hw w'
        go_wp2_with fail
        rw [← hw1]
        refine H2.out.mono ?_
        rintro e w' ⟨rfl, hw⟩
        rw [hw]
        clear hw w' hw1
        go_wp2_with fail
        go_ret
        exact ⟨rfl, HB.out⟩
      · have H2 := HV false (decide_eq_false h2)
        have hd : decide (MeantS (ps.length : Int) k ⟨mk, mo, mn, mu, mv⟩) = false := decide_eq_false (by unfold MeantS; simp only; omega)
        rw [hd]
        clear hd h0 h1 h2 HBl HN HV
        go_enter Try.func52, Try.ntmps52
        go_wp2_with fail
        rw [← hw1]
        refine H0.out.mono ?_
        rintro e w' ⟨rfl, hw⟩
        rw [hw, hw1]
        clear hw w'
        go_wp2_with fail
        rw [← hw1]
        refine H1.out.mono ?_
        rintro e w' ⟨rfl, hw⟩
        rw [hw, hw1]
        clear hw w'
        go_wp2_with fail
        rw [← hw1]
        refine H2.out.mono ?_
        rintro e w' ⟨rfl, hw⟩
        rw [hw]
        clear hw w' hw1
        go_wp2_with fail
        go_ret
        exact ⟨rfl, HB.out⟩
    · have H1 := HN false (decide_eq_false h1)
      have hd : decide (MeantS (ps.length : Int) k ⟨mk, mo, mn, mu, mv⟩) = false := decide_eq_false (by unfold MeantS; simp only; omega)
      rw [hd]
      clear hd h0 h1 HBl HN HV
      go_enter Try.func52, Try.ntmps52
      go_wp2_with fail
      rw [← hw1]
      refine H0.out.mono ?_
      rintro e w' ⟨rfl, hw⟩
      rw [hw, hw1]
      clear hw w'
      go_wp2_with fail
      rw [← hw1]
      refine H1.out.mono ?_
      rintro e w' ⟨rfl, hw⟩
      rw [hw]
      clear hw w' hw1
      go_wp2_with fail
      go_ret
      exact ⟨rfl, HB.out⟩
  · have H0 := HBl false (decide_eq_false h0)
    have hd : decide (MeantS (ps.length : Int) k ⟨mk, mo, mn, mu, mv⟩) = false := decide_eq_false (by unfold MeantS; simp only; omega)
    rw [hd]
    clear hd h0 HBl HN HV
    go_enter Try.func52, Try.ntmps52
    go_wp2_with fail
    rw [← hw1]
    refine H0.out.mono ?_
    rintro e w' ⟨rfl, hw⟩
    rw [hw]
    clear hw w' hw1
    go_wp2_with fail
    go_ret
    exact ⟨rfl, HB.out⟩
end Go.Proofs.Ytiaafhcfeeekeaa.Pk

/- The document's answer for trees (fletchref04): Near. -/
namespace Go.Proofs.Ytiaafhcfeeekeaa.Pk
open Go.RowKit Go.Proofs.Ytiaafhcfeeekeaa.Gr
set_option linter.unusedVariables false





















end Go.Proofs.Ytiaafhcfeeekeaa.Pk

/- The document's answer for trees (fletchref04): Dists. -/
namespace Go.Proofs.Ytiaafhcfeeekeaa.Pk
open Go.RowKit Go.Proofs.Ytiaafhcfeeekeaa.Gr
set_option linter.unusedVariables false







































































































































end Go.Proofs.Ytiaafhcfeeekeaa.Pk

/- The document's answer for trees (fletchref04): Next. -/
namespace Go.Proofs.Ytiaafhcfeeekeaa.Pk
open Go.RowKit Go.Proofs.Ytiaafhcfeeekeaa.Gr
set_option linter.unusedVariables false

end Go.Proofs.Ytiaafhcfeeekeaa.Pk

/- The document's answer for trees (fletchref04): Neighbours. -/
namespace Go.Proofs.Ytiaafhcfeeekeaa.Pk
open Go.RowKit Go.Proofs.Ytiaafhcfeeekeaa.Gr
set_option linter.unusedVariables false






















































end Go.Proofs.Ytiaafhcfeeekeaa.Pk

/- A region that draws its order and ends with one operation for which all others are waited: what is held need not hold behind that one. -/
namespace Go.Proofs.Ytiaafhcfeeekeaa.Pk
open Go.RowKit
set_option linter.unusedVariables false
section
variable {P : Program} {ops : Array Oper} {Q : Exit → Act → World → Prop} {md : Region.Mode} {S : World → Prop} {L : Nat}
/-- Whatever comes up next, S holds behind it, unless it is number L. -/
def AnyL (P : Program) (md : Region.Mode) (ops : Array Oper) (Q : Exit → Act → World → Prop) (S : World → Prop) (L : Nat) : Nat → Array Bool → Act → World → Prop
  | 0, d, a, w => Region.ready md ops d = [] ∧ Q .normal a w
  | k + 1, d, a, w => (Region.ready md ops d = [] → Q .normal a w) ∧
      ∀ i ∈ Region.ready md ops d, wpOp P ops Q i (fun a' w' => (i ≠ L → S w') ∧ AnyL P md ops Q S L k (d.setIfInBounds i true) a' w') a w
theorem AnyL.any : ∀ (k : Nat) (d : Array Bool) (a : Act) (w : World), AnyL P md ops Q S L k d a w → wpAny P md ops Q k d a w := by
  intro k
  induction k with
  | zero => exact fun _ _ _ h => h
  | succ k ih => exact fun d a w h => ⟨h.1, fun i hi => wpOp_mono (fun a' w' h' => ih _ a' w' h'.2) (h.2 i hi)⟩
/-- Number L waits for number i. -/
def WaitsFor (md : Region.Mode) (ops : Array Oper) (L i : Nat) : Bool := match ops[L]? with
  | some o => o.after.any (fun e => Region.binds md e && e.on == i)
  | none => false
theorem waitsFor_spec {i : Nat} (h : WaitsFor md ops L i = true) : ∃ o, ops[L]? = some o ∧ ∃ e ∈ o.after, Region.binds md e = true ∧ e.on = i := by
  unfold WaitsFor at h
  split at h
  · rename_i o ho
    obtain ⟨q, hq, hb⟩ := Array.any_eq_true.1 h
    simp only [Bool.and_eq_true, beq_iff_eq] at hb
    exact ⟨o, ho, o.after[q], Array.getElem_mem hq, hb.1, hb.2⟩
  · cases h
theorem AnyL.take (i : Nat) {oi : Oper} (v : Value) {k : Nat} {d : Array Bool} {a : Act} {w : World} (hi : ops[i]? = some oi) (hs : Region.noSelect ops = true) (hf : Region.free md ops d i = true)
    (hr : (Region.ready md ops d).contains i = true) (hw : WaitsFor md ops L i = true) (hQ : ∀ c a w, Q (.panic c) (a.put oi.dst v) w → Q (.panic c) a w) (hy : YieldsIf P ops S oi v a) (hS : S w)
    (h : AnyL P md ops Q S L k (d.setIfInBounds i true) (a.put oi.dst v) w) : AnyL P md ops Q S L (k + 1) d a w := by
  have key : ∀ (k : Nat) (d : Array Bool) (a : Act) (w : World), (∀ j oj, ops[j]? = some oj → j ≠ i → d.getD j true = false → (∀ e ∈ oj.after, Region.binds md e = true → e.on ≠ i) → oi.apart ops oj = true) →
      i ∈ Region.ready md ops d → YieldsIf P ops S oi v a → S w → AnyL P md ops Q S L k (d.setIfInBounds i true) (a.put oi.dst v) w → AnyL P md ops Q S L (k + 1) d a w := by
    intro k
    induction k with
    | zero =>
      intro d a w _ hr hy hS H
      refine ⟨fun h => (by rw [h] at hr; cases hr), fun j hj => ?_⟩
      by_cases e : j = i
      · rw [e]; exact hy.wpOp hi hS ⟨fun _ => hS, H⟩
      · have h1 := ready_mono hj e
        rw [H.1] at h1
        cases h1
    | succ k ih =>
      intro d a w hfr hr hy hS H
      refine ⟨fun h => (by rw [h] at hr; cases hr), fun j hj => ?_⟩
      by_cases e : j = i
      · rw [e]; exact hy.wpOp hi hS ⟨fun _ => hS, H⟩
      · obtain ⟨hun, oj, hoj, hall⟩ := mem_ready.1 hj
        have hi0 := (mem_ready.1 hr).1
        have hno : ∀ e ∈ oj.after, Region.binds md e = true → e.on ≠ i := by
          intro e he hb e2
          have h1 := hall e he hb
          rw [e2] at h1
          rcases Nat.lt_or_ge i d.size with h3 | h3
          · simp [h3] at hi0 h1; rw [hi0] at h1; cases h1
          · simp [Array.getElem?_eq_none h3] at h1
        have hjL : j ≠ L := by
          rintro rfl
          obtain ⟨o, ho, e, he, hb, he2⟩ := waitsFor_spec hw
          rw [hoj] at ho
          injection ho with ho
          subst ho
          exact hno e he hb he2
        refine wpOp_mono ?_ (wpOp_putIf hoj (hfr j oj hoj e hun hno) (fun cs b => Region.noSelect_spec hs i oi cs b hi) (fun cs b => Region.noSelect_spec hs j oj cs b hoj) hQ hy (H.2 j (ready_mono hj e)))
        rintro a' w' ⟨hy', hS', H'⟩
        refine ⟨hS', ih _ a' w' (fun q oq hq hqi hqu hqn => hfr q oq hq hqi ?_ hqn) (ready_mono hr (Ne.symm e)) hy' (hS' hjL) ?_⟩
        · by_cases hjq : j = q
          · subst hjq; exact hun
          · rw [getD_set_ne true hjq] at hqu; exact hqu
        · rw [Array.setIfInBounds_comm _ _ e]
          exact H'
  exact key k d a w (fun j oj h1 h2 h3 h4 => Region.free_spec hi hf j oj h1 h2 h3 h4) (by simpa using hr) hy hS h
/-- One alone may come up. -/
theorem AnyL.one (i : Nat) {o : Oper} {k : Nat} {d : Array Bool} {a : Act} {w : World} (hr : Region.ready md ops d = [i]) (ho : ops[i]? = some o)
    (h : ∀ K' : Act → World → Prop, Hid (∀ a w, (i ≠ L → S w) → AnyL P md ops Q S L k (d.setIfInBounds i true) a w → K' a w) → if Region.wanted o (yielded ops a.tmps) = true then Oper.wp P o a w K' Q else K' (a.put o.dst undef) w) :
    AnyL P md ops Q S L (k + 1) d a w := by
  refine ⟨fun h0 => (by rw [h0] at hr; cases hr), fun j hj => ?_⟩
  rw [hr] at hj
  obtain rfl := List.mem_singleton.1 hj
  exact wpOp_step ho (fun K' hK => h K' (Lib.hid (fun a w hS hW => hK a w ⟨hS, hW⟩)))
theorem AnyL.done {d : Array Bool} {a : Act} {w : World} (hr : Region.ready md ops d = []) (h : Q .normal a w) : ∀ k, AnyL P md ops Q S L k d a w
  | 0 => ⟨hr, h⟩
  | _ + 1 => ⟨fun _ => h, by rw [hr]; simp⟩
theorem region_last {id : Nat} {a : Act} {w : World} (L : Nat) (S : World → Prop) (hm : P.follows .mixedOrders = true) (h : AnyL P .any ops Q S L ops.size (Array.replicate ops.size false) a w.drew) : (Code.region id ops true).wp P Q a w :=
  wp_region_any hm (AnyL.any _ _ _ _ h)
end
end Go.Proofs.Ytiaafhcfeeekeaa.Pk

/- The document's answers (fletchref14): First. -/
namespace Go.Proofs.Ytiaafhcfeeekeaa.Pk
open Go.RowKit Go.Proofs.Ytiaafhcfeeekeaa.Gr
set_option linter.unusedVariables false
attribute [local go_sem] Oper.semAt_some
def ownF (ps : List Int) (me h : Int) : Ow := ⟨nextI ps me h, 0, if h = me then [⟨0, 3, -1, 0⟩] else []⟩



























































































































































































































end Go.Proofs.Ytiaafhcfeeekeaa.Pk

/- Trees by their list of parents: where Next leads. -/
namespace Go.Proofs.Ytiaafhcfeeekeaa.Gr
set_option linter.unusedVariables false
variable {ps : List Int}
theorem Good.pa_par (G : Good ps) {v : Nat} (hv : v < ps.length) (h : pa ps v ≠ -1) : pa ps v = (par ps v : Nat) ∧ par ps v < ps.length ∧ v ≠ root ps := by
  have h1 := G.rng v hv
  unfold par
  exact ⟨by omega, by omega, fun e => h ((G.root_iff hv).2 e)⟩
theorem Good.anc (G : Good ps) : ∀ (k a b : Nat), b < ps.length → climb ps k (b : Int) = (a : Int) → a < ps.length ∧ dep ps b = dep ps a + k ∧ distL ps a b = k := by
  intro k
  induction k with
  | zero =>
    intro a b hb h
    have : a = b := by simp only [climb] at h; omega
    subst this
    exact ⟨hb, rfl, dist_self a⟩
  | succ k ih =>
    intro a b hb h
    rw [climb_succ] at h
    have hp : pa ps b ≠ -1 := fun e => by rw [e, climb_neg] at h; omega
    obtain ⟨h1, h2, h3⟩ := G.pa_par hb hp
    rw [h1] at h
    obtain ⟨i1, i2, i3⟩ := ih a (par ps b) h2 h
    obtain ⟨_, u2⟩ := G.rt.up b hb h3
    refine ⟨i1, by omega, ?_⟩
    obtain ⟨_, e2⟩ := G.rt.e2' i1 hb (by omega)
    have i3' : dist (par ps) (dep ps) a (par ps b) = k := i3
    show dist (par ps) (dep ps) a b = k + 1
    rw [e2, i3']; omega
theorem Good.next_down (G : Good ps) {k a b v : Nat} (hb : b < ps.length) (hc : climb ps k (b : Int) = (v : Int)) (hp : pa ps v = (a : Int)) (hab : a ≠ b) : v = nextN ps a b := by
  obtain ⟨v1, v2, v3⟩ := G.anc k v b hb hc
  have hc2 : climb ps (k + 1) (b : Int) = (a : Int) := by
    have : ∀ (k : Nat) (x : Int), climb ps (k + 1) x = if climb ps k x = -1 then -1 else pa ps (climb ps k x).toNat := by
      intro k
      induction k with
      | zero => intro x; rfl
      | succ k ih =>
        intro x
        show (if x = -1 then -1 else climb ps (k + 1) (pa ps x.toNat)) = _
        by_cases hx : x = -1
        · rw [if_pos hx]
          have : climb ps (k + 1) x = -1 := by rw [hx]; rfl
          rw [if_pos this]
        · rw [if_neg hx, ih]
          have : climb ps (k + 1) x = climb ps k (pa ps x.toNat) := by
            show (if x = -1 then -1 else _) = _
            rw [if_neg hx]
          rw [this]
    rw [this, hc, if_neg (by omega), Int.toNat_natCast, hp]
  obtain ⟨a1, a2, a3⟩ := G.anc (k + 1) a b hb hc2
  exact G.nextN_only a1 hb hab v1 (by unfold nearL; rw [hp]; simp) (by rw [v3, a3])
theorem Good.off (G : Good ps) {a : Nat} (ha : a < ps.length) : ∀ (f b : Nat), b < ps.length → dep ps b ≤ f → (∀ j, climb ps j (b : Int) ≠ -1 → pa ps (climb ps j (b : Int)).toNat ≠ (a : Int)) → a ≠ b → a ≠ root ps ∧ distL ps a b = 1 + distL ps (par ps a) b := by
  intro f
  induction f with
  | zero =>
    intro b hb hf h hab
    exact G.rt.e1 ha hb hab (by omega)
  | succ f ih =>
    intro b hb hf h hab
    rcases Nat.lt_or_ge (dep ps a) (dep ps b) with hd | hd
    · obtain ⟨b1, b2⟩ := G.rt.e2' ha hb hd
      have hp : pa ps b ≠ -1 := fun e => b1 ((G.root_iff hb).1 e)
      obtain ⟨h1, h2, h3⟩ := G.pa_par hb hp
      obtain ⟨_, u2⟩ := G.rt.up b hb b1
      have h0 := h 0 (by show (b : Int) ≠ -1; omega)
      have h0' : pa ps b ≠ (a : Int) := h0
      obtain ⟨i1, i2⟩ := ih (par ps b) h2 (by omega) (fun j => by
        have := h (j + 1)
        rw [climb_succ, h1] at this
        exact this) (by omega)
      obtain ⟨p1, p2⟩ := G.rt.up a ha i1
      obtain ⟨_, c2⟩ := G.rt.e2' p1 hb (by omega)
      refine ⟨i1, ?_⟩
      have i2' : dist (par ps) (dep ps) a (par ps b) = 1 + dist (par ps) (dep ps) (par ps a) (par ps b) := i2
      show dist (par ps) (dep ps) a b = 1 + dist (par ps) (dep ps) (par ps a) b
      rw [b2, c2, i2']
    · exact G.rt.e1 ha hb hab hd
theorem Good.next_up (G : Good ps) {a b : Nat} (ha : a < ps.length) (hb : b < ps.length) (h : ∀ j, climb ps j (b : Int) ≠ -1 → pa ps (climb ps j (b : Int)).toNat ≠ (a : Int)) (hab : a ≠ b) : pa ps a = (nextN ps a b : Nat) := by
  obtain ⟨h1, h2⟩ := G.off ha _ b hb (Nat.le_refl _) h hab
  obtain ⟨p1, p2, p3⟩ := G.pa_par ha (fun e => h1 ((G.root_iff ha).1 e))
  rw [p1, G.nextN_only ha hb hab p2 (by unfold nearL; rw [p1]; simp) (by omega)]
theorem climb_one (k : Nat) : ∀ (x : Int), climb ps (k + 1) x = if climb ps k x = -1 then -1 else pa ps (climb ps k x).toNat := by
  induction k with
  | zero => intro x; rfl
  | succ k ih =>
    intro x
    show (if x = -1 then -1 else climb ps (k + 1) (pa ps x.toNat)) = _
    by_cases hx : x = -1
    · rw [if_pos hx]
      have : climb ps (k + 1) x = -1 := by rw [hx]; rfl
      rw [if_pos this]
    · rw [if_neg hx, ih]
      have : climb ps (k + 1) x = climb ps k (pa ps x.toNat) := by
        show (if x = -1 then -1 else _) = _
        rw [if_neg hx]
      rw [this]
theorem climb_stays {k : Nat} {x : Int} (h : climb ps k x = -1) : ∀ d, climb ps (k + d) x = -1
  | 0 => h
  | d + 1 => by rw [show k + (d + 1) = (k + d) + 1 by omega, climb_one, climb_stays h d, if_pos rfl]
end Go.Proofs.Ytiaafhcfeeekeaa.Gr
