/- Lists of lists of bytes: those of the call's own; how one is appended to; how two are read side by side. -/
import Derived.Test.YtmmjmaohbmlfgaaDoorFrRef2
import Derived.Test.YtmmjmaohbmlfgaaDoorSameF
import Derived.Deep.RegionHeld3
import Derived.Deep.DeepMust
namespace Go.Proofs.YtmmjmaohbmlfgaaDoor.Pk
open Go.RowKit Go.Proofs.YtmmjmaohbmlfgaaDoor.Crc Go.Proofs.YtmmjmaohbmlfgaaDoor.Fr
set_option linter.unusedVariables false

theorem sl_info : (Tryd.prog.info? 22).map (fun i => (i.zero, i.size, i.bytes)) = some (some (.slice none 0 0), 1, 24) := by kernel_rfl
/-- The value owns the pieces. -/
def OwnP (w : World) (B : Nat) (v : Value) (ps : List Piece) : Prop := w.ownsRow B 22 1 v ps.length (ps.map Piece.val)
theorem OwnP.none_ (w : World) (B : Nat) : OwnP w B (.slice none 0 0) [] := ⟨rfl, .inl ⟨rfl, rfl⟩⟩
theorem pieces_one (ps : List Piece) : ∀ u ∈ ps.map Piece.val, u.oneCell' = true := by
  intro u hu
  obtain ⟨x, _, rfl⟩ := List.mem_map.1 hu
  rfl
theorem OwnP.lt {w : World} {B : Nat} {v : Value} {ps : List Piece} (h : OwnP w B v ps) : ∀ g, v.ownBlock = some g → g < w.heap.size := own_lt h
theorem OwnP.stay {w w' : World} {B : Nat} {v : Value} {ps : List Piece} (h : OwnP w B v ps) (hk : ∀ g, v.ownBlock = some g → w'.heap[g]? = w.heap[g]?) : OwnP w' B v ps := by
  obtain ⟨h1, h2⟩ := h
  refine ⟨h1, ?_⟩
  rcases h2 with h2 | ⟨g, cap, cur, rfl, hg, hh, hr⟩
  · exact .inl h2
  · exact .inr ⟨g, cap, cur, rfl, hg, (hk g rfl).trans hh, hr⟩
/-- One piece more, out of a new box. -/
theorem appL {ops : Array Oper} {rest : List Oper} {o : Oper} {a : Act} {Q : Exit → Act → World → Prop} (w : World) (y : Piece) (T : TypeId) (hgd : o.guard = none) (s x : Operand)
    (ho : o.op = .call { callee := .builtin .append, args := #[s, x], argTypes := #[29, 29] }) (B : Nat) (v : Value) (ps : List Piece) (hs : a.eval s = v) (hown : OwnP w B v ps)
    (hx : a.eval x = .slice (some ⟨w.heap.size, 0, none⟩) 1 1) (hlen : (ps.length + 1) * 24 ≤ 140737488355328) (hB : B ≤ w.heap.size)
    (h : ∀ v' w', OwnP w' B v' (ps ++ [y]) → w.grownBy w' v.ownBlock → wpList Tryd.prog ops Q rest (a.put o.dst v') w') : wpList Tryd.prog ops Q (o :: rest) a (w.alloc (.cells #[.slice y.a y.n y.c] T)) := by
  obtain ⟨i0, hi0, hz0, hz1, hz2⟩ := info_parts sl_info
  refine wpList_append_own _ hgd s x _ ho B 22 i0 _ 1 24 Tryd.underlying29 hi0 hz0 hz1 hz2 rfl (by omega) v ps.length (ps.map Piece.val) hs (World.ownsRow.alloc hown _) ⟨w.heap.size, 0, none⟩ 1 1 ([y].map Piece.val) hx rfl ?_ (pieces_one [y])
    (by unfold maxLen; omega) (by omega) (by simp; omega) ?_
  · intro j u hj
    match j, hj with
    | 0, hj => simp [Piece.val] at hj; subst hj; simp [Addr.add]
    | j + 1, hj => simp at hj
  · intro v' w' ho hg _
    refine h v' w' ?_ ⟨hg.os, hg.tape, hg.output, by have := hg.size; simp at this; omega, fun i hi hn => (hg.block i (by simp; omega) hn).trans (Below.heap_alloc w _ i hi)⟩
    unfold OwnP
    rw [List.map_append, List.length_append]; exact ho

/-- The value owns the pieces, and each of them owns its bytes. -/
structure OwnL (w : World) (B : Nat) (v : Value) (ps : List Piece) : Prop where
  row : OwnP w B v ps
  each : ∀ p ∈ ps, OwnB w B p.val p.l
  apart : ps.Pairwise fun p q => ∀ g, p.val.ownBlock = some g → q.val.ownBlock = some g → False
section
variable {w w' : World} {B : Nat} {v v' : Value} {ps : List Piece}
theorem u8_ne_sl : 5 ≠ 22 := by decide
theorem own_kind {e : TypeId} {n : Nat} {xs : List Value} (h : w.ownsRow B e 1 v n xs) : ∀ g, v.ownBlock = some g → ∃ cs, w.heap[g]? = some (.cells cs e (0, 0)) := by
  intro g hg
  rcases h.2 with ⟨rfl, _⟩ | ⟨g', cap, cur, rfl, _, hh, _⟩
  · simp [Value.ownBlock] at hg
  · simp [Value.ownBlock] at hg
    subst hg
    exact ⟨cur, hh⟩
theorem OwnL.none_ (w : World) (B : Nat) : OwnL w B (.slice none 0 0) [] := ⟨OwnP.none_ w B, (fun p hp => by simp at hp), List.Pairwise.nil⟩
theorem OwnL.off (h : OwnL w B v ps) : ∀ p ∈ ps, ∀ g, p.val.ownBlock = some g → v.ownBlock = some g → False := fun p hp g h1 h2 => by
  obtain ⟨c1, e1⟩ := own_kind (h.each p hp) g h1
  obtain ⟨c2, e2⟩ := own_kind h.row g h2
  rw [e1] at e2
  injection e2 with e2
  injection e2 with _ e2 _
  exact u8_ne_sl e2
theorem OwnL.lt (h : OwnL w B v ps) : ∀ p ∈ ps, ∀ g, p.val.ownBlock = some g → g < w.heap.size := fun p hp => (h.each p hp).lt
theorem OwnL.next (h : OwnL w B v ps) (hb : Below w.heap.size w w') : OwnL w' B v ps :=
  ⟨h.row.stay fun g e => hb.block g (h.row.lt g e), fun p hp => (h.each p hp).keep hb (Nat.le_refl _), h.apart⟩
theorem OwnL.mono {B' : Nat} (h : OwnL w B v ps) (hB : B' ≤ B) : OwnL w B' v ps := by
  refine ⟨?_, fun p hp => (h.each p hp).mono hB, h.apart⟩
  obtain ⟨h1, h2⟩ := h.row
  refine ⟨h1, ?_⟩
  rcases h2 with h2 | ⟨g, cap, cur, e, hg, hr⟩
  · exact .inl h2
  · exact .inr ⟨g, cap, cur, e, by omega, hr⟩
/-- A piece more. -/
theorem OwnL.push {y : Piece} (h : OwnL w B v ps) (hy : OwnB w B y.val y.l) (hn : ∀ p ∈ ps, ∀ g, p.val.ownBlock = some g → y.val.ownBlock = some g → False) (hp : OwnP w' B v' (ps ++ [y])) (hg : w.grownBy w' v.ownBlock) : OwnL w' B v' (ps ++ [y]) := by
  have hoff : ∀ g, y.val.ownBlock = some g → v.ownBlock = some g → False := fun g h1 h2 => by
    obtain ⟨c1, e1⟩ := own_kind hy g h1
    obtain ⟨c2, e2⟩ := own_kind h.row g h2
    rw [e1] at e2
    injection e2 with e2
    injection e2 with _ e2 _
    exact u8_ne_sl e2
  refine ⟨hp, fun p hp => ?_, ?_⟩
  · rcases List.mem_append.1 hp with hp | hp
    · exact (h.each p hp).stay fun g e => hg.block g ((h.each p hp).lt g e) (fun e2 => h.off p hp g e e2.symm)
    · obtain rfl : p = y := by simpa using hp
      exact hy.stay fun g e => hg.block g (hy.lt g e) (fun e2 => hoff g e e2.symm)
  · rw [List.pairwise_append]
    exact ⟨h.apart, List.pairwise_singleton _ _, fun p hpm q hq g h1 h2 => by
      obtain rfl : q = y := by simpa using hq
      exact hn p hpm g h1 h2⟩
/-- How lists of bytes are read. -/
def RdL (w : World) (B : Nat) (A : Option Addr) (n : Nat) (ps : List Piece) : Prop := Reads w B 1 A n (ps.map Piece.val) ∧ ∀ p ∈ ps, Reads w B 1 p.a p.n (bts p.l) ∧ p.n ≤ 4611686018427387904
theorem RdL.len {A : Option Addr} {n : Nat} (h : RdL w B A n ps) : ps.length = n := by have := h.1.1; simpa using this
theorem RdL.below {A : Option Addr} {n : Nat} (h : RdL w B A n ps) (hb : Below B w w') : RdL w' B A n ps := ⟨h.1.below hb, fun p hp => ⟨(h.2 p hp).1.below hb, (h.2 p hp).2⟩⟩
theorem RdL.more {A : Option Addr} {n B' : Nat} (h : RdL w B A n ps) (hB : B ≤ B') : RdL w B' A n ps := ⟨h.1.more hB, fun p hp => ⟨(h.2 p hp).1.more hB, (h.2 p hp).2⟩⟩
theorem OwnL.reads (h : OwnL w B v ps) (hs : ∀ p ∈ ps, p.l.length ≤ 4611686018427387904) : ∃ A c, v = .slice A ps.length c ∧ ps.length ≤ c ∧ RdL w w.heap.size A ps.length ps := by
  obtain ⟨A, c, e, hc, hr⟩ := reads_own h.row
  refine ⟨A, c, e, hc, hr, fun p hp => ?_⟩
  have h1 := own_reads (h.each p hp)
  have h2 := (own_len (h.each p hp)).1
  exact ⟨h1, by have := hs p hp; omega⟩
/-- A piece in a list. -/
theorem RdL.at_ {A : Option Addr} {n k : Nat} (h : RdL w B A n ps) (hk : k < n) :
    ∃ b off p, A = some ⟨b, off, none⟩ ∧ ps[k]? = some p ∧ p ∈ ps ∧ b < B ∧ w.cell? ⟨b, off + k, none⟩ = some (.slice p.a p.n p.c) := by
  obtain ⟨b, off, e, hb, hc⟩ := h.1.flat (by omega)
  have hl := h.len
  have hg : ps[k]? = some ps[k] := List.getElem?_eq_getElem (by omega)
  exact ⟨b, off, ps[k], e, hg, List.getElem_mem _, hb, hc k _ (by rw [List.getElem?_map, hg]; rfl)⟩
end

/-- The first k lists of both are the same. -/
def LikeL (ps qs : List Piece) (k : Nat) : Prop := ∀ j p q, j < k → ps[j]? = some p → qs[j]? = some q → p.l = q.l
theorem like_all {ps qs : List Piece} (hl : ps.length = qs.length) (h : LikeL ps qs ps.length) : Piece.bytes ps = Piece.bytes qs := by
  unfold Piece.bytes
  apply List.ext_getElem (by simpa using hl)
  intro i h1 h2
  simp only [List.length_map] at h1 h2
  simp only [List.getElem_map]
  exact h i _ _ h1 (List.getElem?_eq_getElem h1) (List.getElem?_eq_getElem h2)
theorem like_not {ps qs : List Piece} {k : Nat} {p q : Piece} (hp : ps[k]? = some p) (hq : qs[k]? = some q) (h : p.l ≠ q.l) : decide (Piece.bytes ps = Piece.bytes qs) = false := by
  simp only [decide_eq_false_iff_not]
  intro e
  have := congrArg (fun l => l[k]?) e
  simp [Piece.bytes, hp, hq] at this
  exact h this

set_option maxHeartbeats 1600000 in
theorem alike_any (A A' : Option Addr) (n c n' c' : Nat) (ps qs : List Piece) (w : World) (B B' : Nat) (hp : RdL w B A n ps) (hq : RdL w B' A' n' qs) (hn : n ≤ 4611686018427387904) :
    Calls Tryd.prog 15 #[.slice A n c, .slice A' n' c'] w fun e w' => e = .returned (.bool (decide (Piece.bytes ps = Piece.bytes qs))) ∧ ∃ k, w' = w.drewN k := by
  have HL : Hid (ps.length = n ∧ qs.length = n') := Lib.hid ⟨hp.len, hq.len⟩
  have HP := Lib.hid hp
  have HQ := Lib.hid hq
  clear hp hq
  by_cases hnn : n = n'
  · subst hnn
    go_enter Tryd.func15, Tryd.ntmps15
    go_wp2
    go_loopw [5, 13] (fun _ j wr => ∃ (k d : Nat), j = .int .i64 k ∧ k ≤ n ∧ LikeL ps qs k ∧ wr = w.drewN d) (fun _ j _ => n - (intOf j).toNat)
    case atStart => exact ⟨0, 0, rfl, by omega, fun j _ _ hj => by omega, rfl⟩
    case round =>
      obtain ⟨k, d, rfl, hk, ht, rfl⟩ := hrel
      have HT := Lib.hid ht
      clear ht
      by_cases hlt : k < n
      · obtain ⟨b, off, p, rfl, hpk, hpm, _, hx⟩ := HP.out.at_ hlt
        obtain ⟨b', off', q, rfl, hqk, hqm, _, hy⟩ := HQ.out.at_ hlt
        have HPk := Lib.hid hpk
        have HQk := Lib.hid hqk
        have HS := Lib.hid (fun z => same_any p.a q.a p.n p.c q.n q.c p.l q.l (w.drewN z) B B' ((HP.out.2 p hpm).1) ((HQ.out.2 q hqm).1) (HP.out.2 p hpm).2)
        clear hpk hqk hpm hqm
        by_cases he : p.l = q.l
        · rw [decide_eq_true he] at HS
          have HN : Hid (LikeL ps qs (k + 1)) := Lib.hid (fun j p' q' hj h1 h2 => by
            rcases Nat.lt_or_ge j k with h | h
            · exact HT.out j p' q' h h1 h2
            · obtain rfl : j = k := by omega
              rw [HPk.out] at h1
              rw [HQk.out] at h2
              injection h1 with h1
              injection h2 with h2
              rw [← h1, ← h2]; exact he)
          clear he
          go_wp2_with fail
          go_region_held3 (fun w' => w'.cell? ⟨b, off + k, none⟩ = some (.slice p.a p.n p.c) ∧ w'.cell? ⟨b', off' + k, none⟩ = some (.slice q.a q.n q.c)) (first | exact ⟨hx, hy⟩ | go_keep) (first
            | (go_at_call 12; go_must (refine (HS.out (d + 1)).mono ?_; rintro e w' ⟨rfl, z, rfl⟩)))
          all_goals
            go_wp2
            go_roundw
            case rel => exact ⟨k + 1, _, by go_num, by omega, HN.out, rfl⟩
            case measure => simp [intOf]; omega
        · rw [decide_eq_false he] at HS
          have HF : Hid (decide (Piece.bytes ps = Piece.bytes qs) = false) := Lib.hid (like_not HPk.out HQk.out he)
          clear he
          go_wp2_with fail
          go_region_held3 (fun w' => w'.cell? ⟨b, off + k, none⟩ = some (.slice p.a p.n p.c) ∧ w'.cell? ⟨b', off' + k, none⟩ = some (.slice q.a q.n q.c)) (first | exact ⟨hx, hy⟩ | go_keep) (first
            | (go_at_call 12; go_must (refine (HS.out (d + 1)).mono ?_; rintro e w' ⟨rfl, z, rfl⟩)))
          all_goals
            go_wp2
            go_ret
            exact ⟨by rw [HF.out]; rfl, _, rfl⟩
      · obtain rfl : k = n := by omega
        have HF : Hid (decide (Piece.bytes ps = Piece.bytes qs) = true) := Lib.hid (decide_eq_true (like_all (by rw [HL.out.1, HL.out.2]) (by rw [HL.out.1]; exact HT.out)))
        go_wp2
        go_ret
        exact ⟨by rw [HF.out]; rfl, d, rfl⟩
  · have HF : Hid (decide (Piece.bytes ps = Piece.bytes qs) = false) := Lib.hid (by
      simp only [decide_eq_false_iff_not]
      intro e
      have := congrArg List.length e
      simp only [Piece.bytes, List.length_map] at this
      rw [HL.out.1, HL.out.2] at this
      exact hnn this)
    have t1 : ((n : Int) != (n' : Int)) = true := by simp; omega
    clear hnn
    go_enter Tryd.func15, Tryd.ntmps15
    go_wp2
    go_ret
    exact ⟨by rw [HF.out]; rfl, 0, rfl⟩
end Go.Proofs.YtmmjmaohbmlfgaaDoor.Pk
