/- Arrows and cells alike: the laws' sameOwn. -/
import Derived.Test.YtiaafhcfeeekeaaZStSame
import Derived.Test.YtiaafhcfeeekeaaZTrMath
namespace Go.Proofs.Ytiaafhcfeeekeaa.Pk
open Go.RowKit
set_option linter.unusedVariables false
def StL.only (s : StL) : StL := ⟨0, s.os, s.so, [], ⟨none, 0, 0⟩, 0, [], ⟨none, 0, 0⟩, [], ⟨none, 0, 0⟩⟩
theorem inr_none {α : Type} (R : Row α) (w : World) : InR R w ⟨none, 0, 0⟩ [] := ⟨⟨by rw [R.cells_length]; rfl, fun h => absurd h (by show ¬ 0 < 0; omega)⟩, Nat.le_refl _, by show 0 * R.by_ ≤ _; omega⟩
theorem InS.only {w : World} {s : StL} (h : InS w s) : InS w s.only :=
  ⟨by show I64 0; unfold I64; omega, by show I64 0; unfold I64; omega, h.os, inr_none _ _, inr_none _ _, inr_none _ _, h.o, fun x hx => (by cases hx), fun x hx => (by cases hx), fun x hx => (by cases hx)⟩
theorem only_eq (s t : StL) : s.only.v = t.only.v ↔ s.v.os = t.v.os :=
  ⟨fun h => (by have k := congrArg St.os h; exact k), fun h => by
    have h : s.os.map (·.v) = t.os.map (·.v) := h
    show St.mk 0 (s.os.map (·.v)) [] 0 [] [] = St.mk 0 (t.os.map (·.v)) [] 0 [] []
    rw [h]⟩
set_option maxRecDepth 100000 in
set_option maxHeartbeats 8000000 in
theorem sameown_any (s t : StL) (w : World) (hs : InS w s) (ht : InS w t) :
    Calls Try.prog 16 #[s.val, t.val] w fun e w' => e = .returned (.bool (decide (s.v.os = t.v.os))) ∧ Below w.heap.size w w' := by
  obtain ⟨p, hp⟩ : ∃ p, p = w.heap.size := ⟨_, rfl⟩
  obtain ⟨pt, hpt⟩ : ∃ x, x = p + 1 := ⟨_, rfl⟩
  obtain ⟨wa, hwa⟩ : ∃ wa, wa = w.alloc (.cells s.val.cells 28) := ⟨_, rfl⟩
  obtain ⟨W1, hW1⟩ : ∃ W1, W1 = wa.alloc (.cells t.val.cells 28) := ⟨_, rfl⟩
  have hsa : wa.heap.size = p + 1 := by rw [hwa, World.size_alloc, hp]
  have hba : Below w.heap.size w wa := hwa ▸ (Below.refl _ _).alloc (Nat.le_refl _) _
  have HB1 : Hid (Below w.heap.size w W1) := Lib.hid (hW1 ▸ hba.alloc (by omega) _)
  have HKp : Hid (Blk W1 p 28 s.val.cells) := Lib.hid (by rw [hW1, hwa, hp]; exact (Blk.new w _ _).alloc _)
  have HKt : Hid (Blk W1 pt 28 t.val.cells) := Lib.hid (by rw [hW1, hpt, ← hsa]; exact Blk.new wa _ _)
  obtain ⟨r, hr⟩ : ∃ r, r = decide (s.v.os = t.v.os) := ⟨_, rfl⟩
  have HC := Lib.hid ((refsames_any s.only t.only W1 (hs.only.next HB1.out) (ht.only.next HB1.out)).mono fun e w' h => (show e = .returned (.bool r) ∧ Below W1.heap.size W1 w' from ⟨by rw [h.1, hr, decide_eq_decide.2 (only_eq s t)], h.2⟩))
  rw [← hr]
  clear hr hs ht
  obtain ⟨me, os, ⟨A, n, c⟩, es, ⟨A', n', c'⟩, q, as_, ⟨Aa, na, ca⟩, gs, ⟨Ag, ng, cg⟩⟩ := s
  obtain ⟨me2, os2, ⟨D, m, d⟩, es2, ⟨D', m', d'⟩, q2, as2, ⟨Da, ma, da⟩, gs2, ⟨Dg, mg, dg⟩⟩ := t
  simp only [StL.val, Sl.val, StL.only, Value.cells] at HKp HKt HC hwa hW1 ⊢
  have x1 : W1.cell? ⟨p, 1, none⟩ = some (.slice A n c) := HKp.out.cell 1
  have x2 : W1.cell? ⟨pt, 1, none⟩ = some (.slice D m d) := HKt.out.cell 1
  go_enter Try.func16, Try.ntmps16
  go_wp2_with fail
  rw [← hwa, ← hW1, ← hp, ← hpt]
  clear hwa hW1 hp hpt hsa hba
  go_wp2_with fail
  refine HC.out.mono ?_
  rintro e w2 ⟨rfl, hb⟩
  have HB2 := Lib.hid (HB1.out.trans (hb.mono HB1.out.size))
  clear hb
  go_wp2
  go_ret
  exact ⟨rfl, HB2.out⟩
end Go.Proofs.Ytiaafhcfeeekeaa.Pk

/- P15.1, what is sent and where arrows turn; P15.5, datagrams that come again. -/
namespace Go.Proofs.Ytiaafhcfeeekeaa.Pk
open Go.Proofs.Ytiaafhcfeeekeaa.Gr
set_option linter.unusedVariables false
/-- How many messages were ever pushed on a side. -/
def endN (s : St) (i : Nat) : Int := (sideA s i).b + ((sideA s i).o.length : Int)
/-- One message at most was pushed. -/
def OneMore (s t : St) : Prop := ∃ (j : Nat) (d : Int), (d = 0 ∨ d = 1) ∧ ∀ i, endN t i = endN s i + (if i = j then d else 0)
theorem OneMore.refl (s : St) : OneMore s s := ⟨0, 0, .inl rfl, fun i => by split <;> omega⟩
theorem OneMore.of_same {s t u : St} (h : ∀ i, endN t i = endN s i) (k : OneMore t u) : OneMore s u := by
  obtain ⟨j, d, hd, hi⟩ := k
  exact ⟨j, d, hd, fun i => by rw [hi i, h i]⟩
theorem sideA_setE (s : St) {i j : Nat} (e : Hf) (hi : i < s.es.length) : sideA (setE s i e) j = if j = i then e else sideA s j := by
  unfold sideA setE
  simp only
  by_cases h : j = i
  · subst h
    rw [if_pos rfl, List.getD_eq_getElem?_getD, List.getElem?_set_self hi]; rfl
  · rw [if_neg h, List.getD_eq_getElem?_getD, List.getElem?_set_ne (Ne.symm h), ← List.getD_eq_getElem?_getD]
/-- A message may be pushed; nothing is heard, and nothing taken. -/
structure Sent (s t : St) : Prop where
  one : OneMore s t
  seen : ∀ i, (sideA t i).s = (sideA s i).s
  base : ∀ i, (sideA t i).b = (sideA s i).b
theorem Sent.refl (s : St) : Sent s s := ⟨OneMore.refl s, fun _ => rfl, fun _ => rfl⟩
theorem Sent.of_es {s t u : St} (h : t.es = s.es) (k : Sent t u) : Sent s u := by
  have e : ∀ i, sideA t i = sideA s i := fun i => by unfold sideA; rw [h]
  exact ⟨OneMore.of_same (fun i => by unfold endN; rw [e]) k.one, fun i => by rw [k.seen, e], fun i => by rw [k.base, e]⟩
theorem Sent.es_same {s t : St} (h : t.es = s.es) : Sent s t := Sent.of_es (t := t) h (Sent.refl t)
theorem push_sent (s : St) (p : Int) (m : Mg) : Sent s (pushS s p m).1 := by
  rcases push_cases s p m with h | ⟨i, _, hi, h⟩
  · rw [h]; exact Sent.refl s
  · rw [h]
    refine ⟨⟨i, 1, .inr rfl, fun j => ?_⟩, fun j => ?_, fun j => ?_⟩
    · unfold endN
      rw [sideA_setE s _ hi]
      by_cases hj : j = i
      · subst hj
        rw [if_pos rfl, if_pos rfl]
        show (sideA s j).b + (((sideA s j).o ++ [m]).length : Int) = _
        rw [List.length_append]; simp; omega
      · rw [if_neg hj, if_neg hj]; omega
    · rw [sideA_setE s _ hi]
      by_cases hj : j = i
      · subst hj; rw [if_pos rfl]; rfl
      · rw [if_neg hj]
    · rw [sideA_setE s _ hi]
      by_cases hj : j = i
      · subst hj; rw [if_pos rfl]; rfl
      · rw [if_neg hj]
theorem pass_es (s : St) (m : Mg) : (passS s m).es = s.es := by unfold passS; split <;> rfl
theorem pass_arr (s : St) (m : Mg) (k : Nat) : (objA (passS s m) k).a = (objA s k).a := by
  unfold passS
  split
  · rename_i h
    have hk : m.o.toNat < s.os.length := Classical.byContradiction fun hn => by
      have e : objA s m.o.toNat = ⟨0, 0, []⟩ := by unfold objA; rw [List.getD_eq_getElem?_getD, List.getElem?_eq_none (by omega)]; rfl
      rw [e] at h
      exact absurd h.1 (by simp)
    rw [objA_setO s _ hk]
    by_cases hj : k = m.o.toNat
    · subst hj; rw [if_pos rfl]
    · rw [if_neg hj]
  · rfl
theorem toward_sent (ps : List Int) (s : St) (m : Mg) : Sent s (towardS ps s m).1 := by
  unfold towardS
  split
  · exact push_sent ..
  · split
    · exact Sent.es_same (pass_es ..)
    · exact Sent.es_same (tell_os s m).2.1
theorem toward_arr (ps : List Int) (s : St) (m : Mg) (k : Nat) : (objA (towardS ps s m).1 k).a = (objA s k).a := by
  unfold towardS
  split
  · rw [objA_push]
  · split
    · exact pass_arr ..
    · show (objA (tellS s m) k).a = _
      unfold objA; rw [(tell_os s m).1]
theorem seek_sent (ps : List Int) (s : St) (m : Mg) : Sent s (seekS ps s m).1 := by
  unfold seekS
  split
  · exact push_sent ..
  · exact toward_sent ..
theorem seek_arr (ps : List Int) (s : St) (m : Mg) (k : Nat) : (objA (seekS ps s m).1 k).a = (objA s k).a := by
  unfold seekS
  split
  · rw [objA_push]
  · exact toward_arr ..
theorem find_sent (ps : List Int) (s : St) (f : Int) (m : Mg) : Sent s (findS ps s f m).1 := by
  unfold findS
  split
  · exact Sent.refl s
  · split
    · refine Sent.of_es ?_ (push_sent ..); rfl
    · split
      · refine Sent.of_es ?_ (toward_sent ..); rfl
      · exact Sent.es_same rfl
theorem find_arr (ps : List Int) (s : St) (f : Int) (m : Mg) (hk : m.o.toNat < s.os.length) (k : Nat) : (objA (findS ps s f m).1 k).a = if m.n ≠ s.me ∧ k = m.o.toNat then f else (objA s k).a := by
  have hset : ∀ o : Ow, o.a = f → m.n ≠ s.me → (objA (setO s m.o.toNat o) k).a = if m.n ≠ s.me ∧ k = m.o.toNat then f else (objA s k).a := fun o ho hn => by
    rw [objA_setO s _ hk]
    by_cases hj : k = m.o.toNat
    · rw [if_pos hj, if_pos ⟨hn, hj⟩, ho]
    · rw [if_neg hj, if_neg (fun q => hj q.2)]
  unfold findS
  split
  · rename_i h; rw [if_neg (fun q => q.1 h)]
  · rename_i hn
    split
    · rw [objA_push]; exact hset _ rfl hn
    · split
      · rw [toward_arr]; exact hset _ rfl hn
      · exact hset _ rfl hn
theorem come_sent (ps : List Int) (s : St) (f : Int) (m : Mg) : Sent s (comeS ps s f m).1 := by
  unfold comeS
  split
  · exact seek_sent ..
  · split
    · exact toward_sent ..
    · exact find_sent ..
theorem come_arr (ps : List Int) (s : St) (f : Int) (m : Mg) (hk : m.o.toNat < s.os.length) (k : Nat) : (objA (comeS ps s f m).1 k).a = if m.k = 1 ∧ m.n ≠ s.me ∧ k = m.o.toNat then f else (objA s k).a := by
  unfold comeS
  split
  · rw [seek_arr, if_neg (by omega)]
  · split
    · rw [toward_arr, if_neg (by omega)]
    · rename_i h
      rw [find_arr ps s f m hk]
      have h1 : m.k = 1 := Classical.byContradiction fun q => h q
      by_cases hc : m.n ≠ s.me ∧ k = m.o.toNat
      · rw [if_pos hc, if_pos ⟨h1, hc⟩]
      · rw [if_neg hc, if_neg (fun q => hc q.2)]
theorem heard_end {h : Hf} (hb : h.Be) (a : Int) : (hheard h a).1.b + ((hheard h a).1.o.length : Int) = h.b + (h.o.length : Int) ∧ (¬ h.News a → (hheard h a).1 = h) ∧ (h.News a → (hheard h a).1.b = a) := by
  unfold hheard
  rw [if_pos hb]
  split
  · rename_i hn
    refine ⟨?_, fun q => absurd hn q, fun _ => rfl⟩
    obtain ⟨h1, h2⟩ := hn
    show a + ((h.o.drop _).length : Int) = _
    rw [List.length_drop]; omega
  · rename_i hn
    exact ⟨rfl, fun _ => rfl, fun q => absurd q hn⟩
/-- Something was taken. -/
def TookS (s t : St) : Prop := ∃ i, i < s.es.length ∧ (sideA t i).s ≠ (sideA s i).s
/-- What a datagram does, laid open. -/
theorem gram_open {ps : List Int} {s : St} {g : Gm} (h : GoodS ps s) (he : (gramS ps s g).2 = 0) : ComesS ps s g ∧ ((edgeAt s g.f = none ∧ (gramS ps s g).1 = s) ∨ ∃ i, edgeAt s g.f = some i ∧ i < s.es.length ∧
    ((0 < g.s ∧ g.s = (sideA s i).s + 1 ∧ (gramS ps s g).1 = (comeS ps (setE s i (hheard (sideA s i) g.a).1.one) g.f g.m).1) ∨
     (¬ (0 < g.s ∧ g.s = (sideA s i).s + 1 ∧ (sideA s i).s < 1099511627776) ∧ (gramS ps s g).1 = setE s i (hheard (sideA s i) g.a).1))) := by
  unfold gramS at he ⊢
  by_cases hc : ComesS ps s g
  · rw [if_neg (by simpa using hc)] at he ⊢
    refine ⟨hc, ?_⟩
    cases hi : edgeAt s g.f with
    | none => exact .inl ⟨rfl, rfl⟩
    | some i =>
      obtain ⟨hil, _⟩ := edgeAt_some hi
      have hq := hheard_good (h.es _ (side_mem hil)).1 g.a
      refine .inr ⟨i, rfl, hil, ?_⟩
      simp only
      by_cases hf : 0 < g.s ∧ hfits (hheard (sideA s i) g.a).1 g.s = true
      · rw [if_pos hf]
        have h9 := of_decide_eq_true (show decide _ = true from hf.2)
        exact .inl ⟨hf.1, by rw [← hq.2.2.1]; exact h9.2.2, rfl⟩
      · rw [if_neg hf]
        refine .inr ⟨fun q => hf ⟨q.1, ?_⟩, rfl⟩
        unfold hfits
        exact decide_eq_true ⟨hq.1, by rw [hq.2.2.1]; exact q.2.2, by rw [hq.2.2.1]; exact q.2.1⟩
  · rw [if_pos hc] at he; cases he
/-- What a datagram sends, and which arrow it turns. -/
theorem gram_sends {ps : List Int} {s : St} {g : Gm} (h : GoodS ps s) (he : (gramS ps s g).2 = 0) : OneMore s (gramS ps s g).1 ∧ ∀ k : Nat, k < s.os.length →
    ((TookS s (gramS ps s g).1 ∧ g.m.k = 1 ∧ g.m.o = (k : Int) ∧ g.m.n ≠ s.me) → (objA (gramS ps s g).1 k).a = g.f) ∧
    (¬ (TookS s (gramS ps s g).1 ∧ g.m.k = 1 ∧ g.m.o = (k : Int) ∧ g.m.n ≠ s.me) → (objA (gramS ps s g).1 k).a = (objA s k).a) := by
  obtain ⟨hc, h1 | ⟨i, hi, hil, h2 | h2⟩⟩ := gram_open h he
  · rw [h1.2]
    refine ⟨OneMore.refl s, fun k hk => ⟨fun q => ?_, fun _ => rfl⟩⟩
    obtain ⟨⟨j, _, hj⟩, _⟩ := q
    exact absurd rfl hj
  · obtain ⟨hs, hfit, e⟩ := h2
    have hq := hheard_good (h.es _ (side_mem hil)).1 g.a
    have hen := heard_end (h.es _ (side_mem hil)).1 g.a
    have hse : ∀ j, endN (setE s i (hheard (sideA s i) g.a).1.one) j = endN s j := fun j => by
      unfold endN
      rw [sideA_setE s _ hil]
      by_cases hj : j = i
      · subst hj; rw [if_pos rfl]; exact hen.1
      · rw [if_neg hj]
    have hS := come_sent ps (setE s i (hheard (sideA s i) g.a).1.one) g.f g.m
    have hM : MeantS (ps.length : Int) (s.os.length : Int) g.m := by
      rcases hc.2.2.2 with h0 | h0
      · omega
      · exact h0
    have hk0 : g.m.o.toNat < (setE s i (hheard (sideA s i) g.a).1.one).os.length := by have := hM.1; have := hM.2.1; show g.m.o.toNat < s.os.length; omega
    have hA := come_arr ps (setE s i (hheard (sideA s i) g.a).1.one) g.f g.m hk0
    rw [e]
    have htook : TookS s (comeS ps (setE s i (hheard (sideA s i) g.a).1.one) g.f g.m).1 := ⟨i, hil, by
      rw [hS.seen, sideA_setE s _ hil, if_pos rfl]
      show (hheard (sideA s i) g.a).1.s + 1 ≠ _
      rw [hq.2.2.1]; omega⟩
    refine ⟨OneMore.of_same hse hS.one, fun k hk => ⟨fun q => ?_, fun q => ?_⟩⟩
    · rw [hA, if_pos ⟨q.2.1, q.2.2.2, by omega⟩]
    · rw [hA, if_neg (fun q2 => q ⟨htook, q2.1, by have := hM.1; omega, q2.2.1⟩)]; rfl
  · obtain ⟨hfit, e⟩ := h2
    have hq := hheard_good (h.es _ (side_mem hil)).1 g.a
    have hen := heard_end (h.es _ (side_mem hil)).1 g.a
    rw [e]
    refine ⟨OneMore.of_same (fun j => ?_) (OneMore.refl _), fun k hk => ⟨fun q => ?_, fun _ => rfl⟩⟩
    · unfold endN
      rw [sideA_setE s _ hil]
      by_cases hj : j = i
      · subst hj; rw [if_pos rfl]; exact hen.1
      · rw [if_neg hj]
    · obtain ⟨⟨j, _, hj⟩, _⟩ := q
      refine absurd ?_ hj
      rw [sideA_setE s _ hil]
      by_cases hj : j = i
      · subst hj; rw [if_pos rfl]; exact hq.2.2.1
      · rw [if_neg hj]
theorem rel_sent (ps : List Int) (s : St) (k : Nat) : Sent s (relS ps s k).1 := by
  unfold relS
  split
  · exact Sent.refl s
  · split
    · exact Sent.es_same rfl
    · refine Sent.of_es ?_ (toward_sent ..); rfl
theorem rel_arr (ps : List Int) (s : St) (k j : Nat) (hk : k < s.os.length) : (objA (relS ps s k).1 j).a = (objA s j).a := by
  have hset : ∀ o : Ow, o.a = (objA s k).a → (objA (setO s k o) j).a = (objA s j).a := fun o ho => by
    rw [objA_setO s _ hk]
    by_cases hj : j = k
    · rw [if_pos hj, ho, hj]
    · rw [if_neg hj]
  unfold relS
  split
  · rfl
  · split
    · exact hset _ rfl
    · rw [toward_arr]; exact hset _ rfl
/-- P15.1: what is sent, where arrows turn. -/
theorem step_sends {ps : List Int} {s : St} {ev : Ev} (h : GoodS ps s) (he : (stepS ps s ev).2.2 = 0) : OneMore s (stepS ps s ev).1 ∧ ∀ k : Nat, k < s.os.length →
    (ev.k = 1 ∧ ev.o = (k : Int) → (objA (stepS ps s ev).1 k).a = s.me) ∧
    (¬ (ev.k = 1 ∧ ev.o = (k : Int)) → (ev.k = 4 ∧ TookS s (stepS ps s ev).1 ∧ ev.g.m.k = 1 ∧ ev.g.m.o = (k : Int) ∧ ev.g.m.n ≠ s.me) → (objA (stepS ps s ev).1 k).a = ev.g.f) ∧
    (¬ (ev.k = 1 ∧ ev.o = (k : Int)) → ¬ (ev.k = 4 ∧ TookS s (stepS ps s ev).1 ∧ ev.g.m.k = 1 ∧ ev.g.m.o = (k : Int) ∧ ev.g.m.n ≠ s.me) → (objA (stepS ps s ev).1 k).a = (objA s k).a) := by
  unfold stepS at he ⊢
  by_cases h1 : ev.k < 1 ∨ 4 < ev.k
  · rw [if_pos h1] at he; cases he
  rw [if_neg h1] at he ⊢
  by_cases h4 : ev.k = 4
  · rw [if_pos h4] at he ⊢
    obtain ⟨h5, h6⟩ := gram_sends h he
    refine ⟨h5, fun k hk => ⟨fun q => by omega, fun _ q => (h6 k hk).1 q.2, fun _ q => (h6 k hk).2 (fun q2 => q ⟨h4, q2⟩)⟩⟩
  rw [if_neg h4] at he ⊢
  by_cases h3 : ev.o < 0 ∨ (s.os.length : Int) ≤ ev.o
  · rw [if_pos h3] at he; cases he
  rw [if_neg h3] at he ⊢
  have hk : ev.o.toNat < s.os.length := by omega
  by_cases ha : ev.k = 1
  · rw [if_pos ha] at he ⊢
    unfold acqS at he ⊢
    by_cases h8 : 8 ≤ sumK s.os
    · rw [if_pos h8] at he; cases he
    rw [if_neg h8] at he ⊢
    by_cases hM : (objA s ev.o.toNat).m = 1099511627776
    · rw [if_pos hM] at he; cases he
    rw [if_neg hM] at he ⊢
    by_cases hs : (objA s ev.o.toNat).a = s.me
    · rw [if_pos hs]
      refine ⟨OneMore.of_same (fun j => rfl) (OneMore.refl _), fun k hk2 => ⟨fun q => ?_, fun q q2 => by omega, fun q _ => ?_⟩⟩
      · show (objA (setO s ev.o.toNat _) k).a = _
        rw [objA_setO s _ hk, if_pos (by omega)]
      · show (objA (setO s ev.o.toNat _) k).a = _
        rw [objA_setO s _ hk, if_neg (fun hj => q ⟨ha, by omega⟩)]
    · rw [if_neg hs] at he ⊢
      by_cases hp : (pushS s (objA s ev.o.toNat).a ⟨1, (ev.o.toNat : Int), s.me, (objA s ev.o.toNat).m + 1, 0⟩).2 = 0
      · rw [if_pos hp]
        have hc := push_calm s (objA s ev.o.toNat).a ⟨1, (ev.o.toNat : Int), s.me, (objA s ev.o.toNat).m + 1, 0⟩
        have hS := push_sent s (objA s ev.o.toNat).a ⟨1, (ev.o.toNat : Int), s.me, (objA s ev.o.toNat).m + 1, 0⟩
        have hk2 : ev.o.toNat < (pushS s (objA s ev.o.toNat).a ⟨1, (ev.o.toNat : Int), s.me, (objA s ev.o.toNat).m + 1, 0⟩).1.os.length := by rw [hc.os_len]; exact hk
        refine ⟨hS.one, fun k hk3 => ⟨fun q => ?_, fun q q2 => by omega, fun q _ => ?_⟩⟩
        · show (objA (setO _ ev.o.toNat _) k).a = _
          rw [objA_setO _ _ hk2, if_pos (by omega)]
        · show (objA (setO _ ev.o.toNat _) k).a = _
          rw [objA_setO _ _ hk2, if_neg (fun hj => q ⟨ha, by omega⟩), objA_push]
      · rw [if_neg hp] at he
        exact absurd he hp
  rw [if_neg ha] at he ⊢
  by_cases hr : ev.k = 2
  · rw [if_pos hr] at he ⊢
    exact ⟨(rel_sent ps s _).one, fun k hk2 => ⟨fun q => by omega, fun _ q => by omega, fun _ _ => rel_arr ps s _ k hk⟩⟩
  rw [if_neg hr] at he ⊢
  unfold locS at he ⊢
  by_cases h4 : 4 ≤ s.as_.length
  · rw [if_pos h4] at he; cases he
  rw [if_neg h4] at he ⊢
  by_cases hM : s.q = 1099511627776
  · rw [if_pos hM] at he; cases he
  rw [if_neg hM] at he ⊢
  refine ⟨OneMore.of_same (fun j => rfl) (seek_sent ps { s with q := s.q + 1, as_ := s.as_ ++ [⟨(ev.o.toNat : Int), s.q + 1⟩] } ⟨3, (ev.o.toNat : Int), s.me, s.q + 1, 0⟩).one, fun k hk2 => ⟨fun q => by omega, fun _ q => by omega, fun _ _ => ?_⟩⟩
  exact seek_arr ps _ _ k
/-- The peers are all different. -/
theorem edge_at {ps : List Int} {s : St} (h : GoodS ps s) {j : Nat} (hj : j < s.es.length) {p : Int} (hp : (sideA s j).p = p) : edgeAt s p = some j := by
  have hnd : (nbsI ps s.me).Nodup := by
    unfold nbsI
    split
    · unfold nbs
      show List.Pairwise (· ≠ ·) _
      rw [List.pairwise_map]
      refine List.Pairwise.imp ?_ (List.Pairwise.filter _ List.nodup_range)
      intro a b hab e
      exact hab (by omega)
    · exact List.nodup_nil
  rw [← h.ps_] at hnd
  unfold edgeAt
  rw [List.findIdx?_eq_some_iff_getElem]
  have ej : ∀ i (hi : i < s.es.length), s.es[i] = sideA s i := fun i hi => by
    unfold sideA; rw [List.getD_eq_getElem?_getD, List.getElem?_eq_getElem hi]; rfl
  refine ⟨hj, by rw [ej j hj]; simpa using hp, fun i hij => ?_⟩
  rw [ej i (by omega)]
  have h9 := List.pairwise_iff_getElem.1 hnd i j (by simpa using (by omega : i < s.es.length)) (by simpa using hj) hij
  rw [List.getElem_map, List.getElem_map, ej i (by omega), ej j hj, hp] at h9
  simpa using h9
theorem setE_self (s : St) (i : Nat) : setE s i (sideA s i) = s := by
  have e : s.es.set i (sideA s i) = s.es := by
    apply List.ext_getElem?
    intro j
    by_cases hj : i = j
    · subst hj
      by_cases hi : i < s.es.length
      · rw [List.getElem?_set_self hi, List.getElem?_eq_getElem hi]
        unfold sideA; rw [List.getD_eq_getElem?_getD, List.getElem?_eq_getElem hi]; rfl
      · rw [List.set_eq_of_length_le (by omega)]
    · rw [List.getElem?_set_ne hj]
  unfold setE
  rw [e]
theorem edgeAt_peers {s t : St} (h : t.es.map (·.p) = s.es.map (·.p)) (p : Int) : edgeAt t p = edgeAt s p := by
  have e : ∀ l : List Hf, l.findIdx? (fun e => decide (e.p = p)) = (l.map (·.p)).findIdx? (fun x => decide (x = p)) := fun l => by
    rw [List.findIdx?_map]; rfl
  unfold edgeAt
  rw [e, e, h]
/-- P15.5: no news, no change. -/
theorem gram_old {ps : List Int} {s : St} {g : Gm} (h : GoodS ps s) (he : (gramS ps s g).2 = 0) {j : Nat} (hj : j < s.es.length) (hp : (sideA s j).p = g.f)
    (hn : ¬ ((sideA s j).News g.a ∨ (0 < g.s ∧ g.s - 1 = (sideA s j).s))) : (gramS ps s g).1 = s := by
  obtain ⟨hc, h1 | ⟨i, hi, hil, h2⟩⟩ := gram_open h he
  · exact h1.2
  · rw [edge_at h hj hp] at hi
    cases hi
    rcases h2 with h2 | h2
    · exact absurd ⟨h2.1, by omega⟩ (fun q => hn (.inr q))
    · rw [h2.2, (heard_end (h.es _ (side_mem hil)).1 g.a).2.1 (fun q => hn (.inl q)), setE_self]
/-- P15.5: a second time. -/
theorem gram_twice {ps : List Int} (G : Gr.Good ps) {s : St} {g : Gm} (h : GoodS ps s) (he : (gramS ps s g).2 = 0) :
    (gramS ps (gramS ps s g).1 g).2 = 0 ∧ ((∀ j, j < s.es.length → (sideA s j).p = g.f → g.a ≤ (sideA s j).b + ((sideA s j).o.length : Int)) → (gramS ps (gramS ps s g).1 g).1 = (gramS ps s g).1) := by
  have hg := gram_good G h he
  have hC := gram_calm (g := g) h
  obtain ⟨hc, h0⟩ := gram_open h he
  generalize ha : (gramS ps s g).1 = a at hg hC h0 ⊢
  have hc2 : ComesS ps a g := by
    refine ⟨hc.1, by rw [hC.me]; exact hc.2.1, by rw [hC.me]; exact hc.2.2.1, ?_⟩
    rw [hC.os_len]; exact hc.2.2.2
  have key : ∀ i, edgeAt s g.f = some i → i < s.es.length → ¬ (0 < g.s ∧ g.s = (sideA a i).s + 1) → (g.a ≤ (sideA s i).b + ((sideA s i).o.length : Int) → ¬ (sideA a i).News g.a) →
      (gramS ps a g).2 = 0 ∧ (g.a ≤ (sideA s i).b + ((sideA s i).o.length : Int) → (gramS ps a g).1 = a) := by
    intro i hi hil hf hw
    have hil2 : i < a.es.length := by rw [hC.es_len]; exact hil
    have hq := hheard_good (hg.es _ (side_mem hil2)).1 g.a
    have hnf : ¬ (0 < g.s ∧ hfits (hheard (sideA a i) g.a).1 g.s = true) := fun q => by
      have h9 := of_decide_eq_true (show decide _ = true from q.2)
      exact hf ⟨q.1, by rw [← hq.2.2.1]; exact h9.2.2⟩
    unfold gramS
    rw [if_neg (by simpa using hc2), edgeAt_peers hC.ps_, hi]
    simp only
    rw [if_neg hnf]
    refine ⟨rfl, fun q => ?_⟩
    show setE a i _ = a
    rw [(heard_end (hg.es _ (side_mem hil2)).1 g.a).2.1 (hw q), setE_self]
  rcases h0 with h1 | ⟨i, hi, hil, h2⟩
  · have e : gramS ps a g = (a, 0) := by
      unfold gramS
      rw [if_neg (by simpa using hc2), edgeAt_peers hC.ps_, h1.1]
    rw [e]
    exact ⟨rfl, fun _ => rfl⟩
  · have hip := (edgeAt_some hi).2
    have hb := (h.es _ (side_mem hil)).1
    have hq := hheard_good hb g.a
    have hen := heard_end hb g.a
    have hbase : (sideA a i).b = (hheard (sideA s i) g.a).1.b ∧ ((sideA a i).s = (sideA s i).s + 1 ∧ g.s = (sideA s i).s + 1 ∨ (sideA a i).s = (sideA s i).s ∧ ¬ (0 < g.s ∧ g.s = (sideA s i).s + 1 ∧ (sideA s i).s < 1099511627776)) := by
      rcases h2 with ⟨_, hf, e⟩ | ⟨hf, e⟩
      · have hS := come_sent ps (setE s i (hheard (sideA s i) g.a).1.one) g.f g.m
        rw [e]
        refine ⟨by rw [hS.base, sideA_setE s _ hil, if_pos rfl]; rfl, .inl ⟨?_, hf⟩⟩
        rw [hS.seen, sideA_setE s _ hil, if_pos rfl]
        show (hheard (sideA s i) g.a).1.s + 1 = _
        rw [hq.2.2.1]
      · rw [e, sideA_setE s _ hil, if_pos rfl]
        exact ⟨rfl, .inr ⟨hq.2.2.1, hf⟩⟩
    have hgs := hc.1
    have := key i hi hil (fun q => by
      rcases hbase.2 with ⟨h5, h6⟩ | ⟨h5, h6⟩
      · omega
      · refine h6 ⟨q.1, by omega, ?_⟩
        have hle : g.s ≤ 1099511627776 := by
          have := hgs
          unfold Gm.Be at this
          omega
        omega) (fun q hN => by
      have hlt := hN.1
      rw [hbase.1] at hlt
      by_cases hn : (sideA s i).News g.a
      · rw [hen.2.2 hn] at hlt; omega
      · rw [hen.2.1 hn] at hlt
        exact hn ⟨hlt, q⟩)
    exact ⟨this.1, fun q => this.2 (q i hil hip)⟩
end Go.Proofs.Ytiaafhcfeeekeaa.Pk
