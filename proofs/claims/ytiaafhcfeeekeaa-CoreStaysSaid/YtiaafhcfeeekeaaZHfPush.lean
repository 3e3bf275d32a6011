/- The library's slices.Grow of nothing and slices.Concat, of messages. -/
import Derived.Test.YtiaafhcfeeekeaaZMgApp
import Derived.Test.YtiaafhcfeeekeaaZHfCodeA
import Derived.Lib.AppendZeros
import Derived.Test.YtiaafhcfeeekeaaZStGoodEdge
import Derived.BigRegion
import Derived.Deep.RegionHeld3
import Derived.Deep.DeepMust
import Derived.Test.YtiaafhcfeeekeaaZHfSpec
namespace Go.Proofs.Ytiaafhcfeeekeaa.Pk
open Go.RowKit
set_option linter.unusedVariables false
theorem run_appZM (w : World) (ty : TypeId) (n : Nat) (h0 : 0 < n) (hn : n * 40 ≤ 281474976710656) : ∃ c cur, n ≤ c ∧ c ≤ maxLen ∧ cur.size = c * 5 ∧
    (Builtin.append_ #[48, 3] ty #[.slice none 0 0, .int .i64 (n : Int)]).run Try.prog w = .ok (.slice (some ⟨w.heap.size, 0, none⟩) n c) (w.drew.alloc (.cells cur 30)) := by
  obtain ⟨i0, hi0, hz0, hz1, hz2⟩ := info_parts msg_info
  have h := Lib.run_append_nil_zeros (P := Try.prog) w 48 3 ty 30 i0 _ .i64 .i64 Try.underlying48 Try.underlying3 hi0 hz0 n h0 (by omega) (by omega) (by rw [hz2]; omega)
  have hle := grownCap_ge w n 0 30
  have hmx := grownCap_le_maxLen w n 0 30 (by unfold maxLen; omega)
  refine ⟨_, _, hle, hmx, ?_, h⟩
  have hzc : (Value.agg #[.int .i64 0, .int .i64 0, .int .i64 0, .int .i64 0, .int .i64 0]).cells.size = 5 := rfl
  rw [Array.size_append, size_zeroCells, size_zeroCells, hzc]
  omega
theorem run_headM {P : Program} {t e : TypeId} (ht : P.underlying t = some (.slice e)) (hi : (P.info? e).map (·.size) = some 5) (a : Option Addr) (n c : Nat) (w : World) :
    (Instr.slice t (.slice a n c) none (some (.int .i64 0)) none).run P w = .ok (.slice a 0 c) w := by
  obtain ⟨f, hi1, hi2⟩ := Option.map_eq_some_iff.1 hi
  cases a <;> simp [Instr.slice, run_underlying ht, go_sem, Instr.sliceBounds, sizeOf, typeInfo, hi1, Addr.add]

set_option maxRecDepth 100000 in
set_option maxHeartbeats 1600000 in
theorem growM (n : Nat) (hn : n * 40 ≤ 281474976710656) (w : World) :
    Calls Try.prog 103 #[.slice none 0 0, .int .i64 (n : Int)] w fun e w' => ∃ v, e = .returned v ∧ OwnG w' w.heap.size v [] ∧ Below w.heap.size w w' := by
  have kz : ∀ u : World, (Instr.slice 48 (.slice none 0 0) none (some (.int .i64 0)) none).run Try.prog u = .ok (.slice none 0 0) u := fun u => run_headM Try.underlying48 (by kernel_rfl) none 0 0 u
  by_cases h0 : 0 < n
  · obtain ⟨c, cur, h1, h2, h3, h4⟩ := run_appZM w 48 n h0 hn
    have kc : ∀ u : World, (Instr.slice 48 (.slice (some ⟨w.heap.size, 0, none⟩) n c) none (some (.int .i64 0)) none).run Try.prog u = .ok (.slice (some ⟨w.heap.size, 0, none⟩) 0 c) u := fun u => run_headM Try.underlying48 (by kernel_rfl) _ n c u
    have H1 := Lib.hid h1
    have H2 := Lib.hid h2
    have H3 := Lib.hid h3
    clear h1 h2 h3
    go_enter Try.func103, Try.ntmps103
    go_wp2_with (at_builtin; refine Lib.wpList_append_run _ rfl _ _ _ _ rfl _ _ rfl rfl _ _ h4 ?_)
    go_ret
    refine ⟨_, rfl, ⟨rfl, .inr ⟨w.heap.size, c, cur, rfl, Nat.le_refl _, heap_alloc_new w.drew _, Nat.zero_le _, H2.out, H3.out, rfl⟩⟩, ?_⟩
    exact (⟨rfl, rfl, rfl, Nat.le_refl _, fun _ _ => rfl⟩ : Below w.heap.size w w.drew).alloc (Nat.le_refl _) _
  · obtain rfl : n = 0 := by omega
    go_enter Try.func103, Try.ntmps103
    go_wp2
    go_ret
    exact ⟨_, rfl, OwnG.none_ _ _, Below.refl _ _⟩
/-- A slice of messages, with the messages that it reads as. -/
structure MPc where
  a : Option Addr
  n : Nat
  c : Nat
  l : List Mg
def MPc.val (p : MPc) : Value := .slice p.a p.n p.c
def MPc.Ok (w : World) (B : Nat) (p : MPc) : Prop := Reads w B 5 p.a p.n (mgs p.l) ∧ p.n ≤ p.c
/-- A slice of slices of messages. -/
def MLists (w : World) (B : Nat) (A : Option Addr) (n : Nat) (ps : List MPc) : Prop := Reads w B 1 A n (ps.map MPc.val) ∧ ∀ p ∈ ps, p.Ok w B
theorem MLists.length {w : World} {B : Nat} {A : Option Addr} {n : Nat} {ps : List MPc} (h : MLists w B A n ps) : ps.length = n := by
  have := h.1.1; simpa using this
theorem MLists.keep {w w' : World} {B : Nat} {A : Option Addr} {n : Nat} {ps : List MPc} (h : MLists w B A n ps) (hk : ∀ p : Addr, p.block < B → w'.cell? p = w.cell? p) : MLists w' B A n ps :=
  ⟨h.1.keep hk, fun p hp => ⟨(h.2 p hp).1.keep hk, (h.2 p hp).2⟩⟩
theorem MLists.below {w w' : World} {B : Nat} {A : Option Addr} {n : Nat} {ps : List MPc} (h : MLists w B A n ps) (hb : Below B w w') : MLists w' B A n ps := h.keep fun _ hp => hb.cell hp
theorem MLists.at_ {w : World} {B : Nat} {A : Option Addr} {n k : Nat} {ps : List MPc} (h : MLists w B A n ps) (hk : k < n) :
    ∃ b off p, A = some ⟨b, off, none⟩ ∧ ps[k]? = some p ∧ p.Ok w B ∧ w.cell? ⟨b, off + k, none⟩ = some (.slice p.a p.n p.c) := by
  obtain ⟨b, off, e, _, hc⟩ := h.1.flat (by omega)
  have hl := h.length
  have hg : ps[k]? = some ps[k] := List.getElem?_eq_getElem (by omega)
  exact ⟨b, off, ps[k], e, hg, h.2 _ (List.getElem_mem _), hc k _ (by rw [List.getElem?_map, hg]; rfl)⟩
def allM (ps : List MPc) : List Mg := (ps.map (·.l)).flatten
theorem allM_app (ps qs : List MPc) : allM (ps ++ qs) = allM ps ++ allM qs := by simp [allM]
theorem allM_take (ps : List MPc) (k : Nat) : (allM (ps.take k)).length ≤ (allM ps).length := by
  have h : allM ps = allM (ps.take k) ++ allM (ps.drop k) := by rw [← allM_app, List.take_append_drop]
  rw [h, List.length_append]; omega
theorem allM_next {ps : List MPc} {k : Nat} {p : MPc} (h : ps[k]? = some p) : allM (ps.take (k + 1)) = allM (ps.take k) ++ p.l := by
  obtain ⟨h1, h2⟩ := List.getElem?_eq_some_iff.1 h
  rw [List.take_succ_eq_append_getElem h1, allM_app, h2]
  simp [allM]

set_option maxRecDepth 100000 in
set_option maxHeartbeats 1600000 in
theorem concatM (A : Option Addr) (n c : Nat) (ps : List MPc) (w : World) (hl : MLists w w.heap.size A n ps) (hn : n ≤ 1048576) (ht : (allM ps).length * 40 ≤ 140737488355328) :
    Calls Try.prog 100 #[.slice A n c] w fun e w' => ∃ v, e = .returned v ∧ OwnG w' w.heap.size v (allM ps) ∧ Below w.heap.size w w' := by
  have RL := Lib.hid hl
  have HT := Lib.hid ht
  have HPl : Hid (∀ p ∈ ps, p.l.length = p.n) := Lib.hid (fun p hp => (hl.2 p hp).1.mlen)
  clear hl ht
  go_enter Try.func100, Try.ntmps100
  go_wp2
  go_loop [3, 5, 11] (fun s x i => ∃ k : Nat, i = .int .i64 k ∧ k ≤ n ∧ s = .int .i64 (((allM (ps.take k)).length : Nat) : Int)) (fun _ _ i => n - (intOf i).toNat)
  case atStart => exact ⟨0, rfl, by omega, rfl⟩
  case round =>
    obtain ⟨k, rfl, hk, rfl⟩ := hrel
    have hle := allM_take ps k
    obtain ⟨s, hs⟩ : ∃ s, s = (allM (ps.take k)).length := ⟨_, rfl⟩
    rw [← hs] at hle ⊢
    have hs2 : s ≤ 3518437208883 := by have := HT.out; omega
    have HS := Lib.hid hs
    clear hs hle
    by_cases hlt : k < n
    · obtain ⟨b, off, p, rfl, hp, hok, hx⟩ := RL.out.at_ hlt
      have hpl := HPl.out p (List.mem_of_getElem? hp)
      have hnx := allM_next hp
      have hle2 := allM_take ps (k + 1)
      rw [hnx, List.length_append, ← HS.out, hpl] at hle2
      have hs3 : s + p.n ≤ 3518437208883 := by have := HT.out; omega
      have HN : Hid ((allM (ps.take (k + 1))).length = s + p.n) := Lib.hid (by rw [hnx, List.length_append, ← HS.out, hpl])
      obtain ⟨pa, pn, pc, pl⟩ := p
      simp only at hs3 HN hx
      clear hpl hnx hle2 hok hp
      go_wp2
      go_round
      case rel => exact ⟨k + 1, by go_num, by omega, by rw [HN.out]; rfl⟩
      case measure => simp [intOf]; omega
    · have HE : Hid (s = (allM ps).length) := Lib.hid (by rw [HS.out, List.take_of_length_le (by rw [RL.out.length]; omega)])
      clear HS
      go_wp2_with fail
      refine (growM s (by omega) w).mono ?_
      rintro e w1 ⟨v1, rfl, ho1, hb1⟩
      obtain ⟨A1, n1, c1, rfl⟩ := ownG_slice ho1
      have HO1 := Lib.hid ho1
      have HB1 := Lib.hid hb1
      clear ho1 hb1 hlt hk
      go_wp2
      go_loopw [6, 8, 27] (fun v x i wr => ∃ k : Nat, i = .int .i64 k ∧ k ≤ n ∧ OwnG wr w.heap.size v (allM (ps.take k)) ∧ Below w.heap.size w wr) (fun _ _ i _ => n - (intOf i).toNat)
      case atStart => exact ⟨0, rfl, by omega, HO1.out, HB1.out⟩
      case round =>
        obtain ⟨k, rfl, hk, hown, hbel⟩ := hrel
        obtain ⟨w2, rfl⟩ : ∃ w2 : World, w2 = wr := ⟨_, rfl⟩
        obtain ⟨A2, n2, c2, rfl⟩ := ownG_slice hown
        have HO2 := Lib.hid hown
        have HB2 := Lib.hid hbel
        clear hown hbel
        by_cases hlt : k < n
        · obtain ⟨b, off, p, rfl, hp, hok, hx⟩ := (RL.out.below HB2.out).at_ hlt
          have hpl := HPl.out p (List.mem_of_getElem? hp)
          have hnx := allM_next hp
          have hle2 := allM_take ps (k + 1)
          rw [hnx, List.length_append, hpl] at hle2
          have hs3 : Hid (((allM (ps.take k)).length + p.n) * 40 ≤ 140737488355328) := Lib.hid (Nat.le_trans (Nat.mul_le_mul_right 40 hle2) HT.out)
          have HN := Lib.hid hnx
          have HOk := Lib.hid hok.1
          obtain ⟨pa, pn, pc, pl⟩ := p
          simp only at hs3 HN hx HOk
          clear hpl hnx hle2 hok hp
          go_wp2_with (at_builtin; refine appM w2 rfl (.tmp 31) (.tmp 32) rfl w.heap.size _ _ rfl HO2.out w.heap.size pa pc pl pn rfl HOk.out hs3.out HB2.out.size ?_; intro v3 w3 hown3 hb3 _ _; have HO3 := Lib.hid hown3; have HB3 := Lib.hid (HB2.out.trans hb3); clear hown3 hb3)
          go_roundw
          case rel => exact ⟨k + 1, by go_num, by omega, by rw [HN.out]; exact HO3.out, HB3.out⟩
          case measure => simp [intOf]; omega
        · have HE2 : Hid (ps.take k = ps) := Lib.hid (List.take_of_length_le (by rw [RL.out.length]; omega))
          go_wp2
          go_ret
          exact ⟨_, rfl, by rw [← HE2.out]; exact HO2.out, HB2.out⟩
end Go.Proofs.Ytiaafhcfeeekeaa.Pk

/- The landed last, apart and Good of package half. -/
namespace Go.Proofs.Ytiaafhcfeeekeaa.Pk
open Go.RowKit
set_option linter.unusedVariables false
theorem last_any {p b s : Int} (A : Option Addr) (n c : Nat) (w : World) (hb : -9223372036854775808 ≤ b ∧ b ≤ 9223372036854775807) (hn : n ≤ 3518437208883) (hnc : n ≤ c) :
    Calls Try.prog 87 #[.agg #[.int .i64 p, .int .i64 b, .slice A n c, .int .i64 s]] w fun e w' => e = .returned (.int .i64 (IntKind.i64.wrap (b + (n : Int)))) ∧ Below w.heap.size w w' := by
  obtain ⟨q, hq⟩ : ∃ q, IntKind.i64.wrap (b + (n : Int)) = q := ⟨_, rfl⟩
  rw [hq]
  go_enter Try.func87, Try.ntmps87
  go_wp2
  go_ret
  exact ⟨rfl, (Below.refl _ w).alloc (Nat.le_refl _) _⟩
theorem OwnG.lower {w : World} {B B' : Nat} {v : Value} {l : List Mg} (h : OwnG w B v l) (hB : B' ≤ B) : OwnG w B' v l := by
  obtain ⟨h1, h2⟩ := h
  refine ⟨h1, ?_⟩
  rcases h2 with h2 | ⟨g, cap, cur, rfl, hb, hr⟩
  · exact .inl h2
  · exact .inr ⟨g, cap, cur, rfl, by omega, hr⟩
theorem pair_reads (w : World) (T : TypeId) (a b : Value) : Reads (w.alloc (.cells #[a, b] T)) (w.heap.size + 1) 1 (some ⟨w.heap.size, 0, none⟩) 2 [a, b] := by
  refine ⟨rfl, fun _ => ⟨_, rfl, by simp, fun j u hj => ?_⟩⟩
  match j, hj with
  | 0, hj => simp at hj; subst hj; simp [Addr.add]
  | 1, hj => simp at hj; subst hj; simp [Addr.add]
  | j + 2, hj => simp at hj
set_option maxHeartbeats 1600000 in
theorem apart_any (A1 : Option Addr) (n1 c1 : Nat) (l1 : List Mg) (A2 : Option Addr) (n2 c2 : Nat) (l2 : List Mg) (w : World) (h1 : Reads w w.heap.size 5 A1 n1 (mgs l1)) (h2 : Reads w w.heap.size 5 A2 n2 (mgs l2)) (k1 : n1 ≤ c1) (k2 : n2 ≤ c2)
    (ht : (l1.length + l2.length) * 40 ≤ 140737488355328) :
    Calls Try.prog 88 #[.slice A1 n1 c1, .slice A2 n2 c2] w fun e w' => ∃ v, e = .returned v ∧ OwnG w' w.heap.size v (l1 ++ l2) ∧ Below w.heap.size w w' := by
  have HL : Hid (MLists (w.alloc (.cells #[.slice A1 n1 c1, .slice A2 n2 c2] 48)) (w.alloc (.cells #[.slice A1 n1 c1, .slice A2 n2 c2] 48)).heap.size (some ⟨w.heap.size, 0, none⟩) 2 [⟨A1, n1, c1, l1⟩, ⟨A2, n2, c2, l2⟩]) := Lib.hid (by
    refine ⟨by rw [World.size_alloc]; exact pair_reads w _ _ _, fun p hp => ?_⟩
    rcases List.mem_cons.1 hp with rfl | hp
    · exact ⟨(h1.alloc (Nat.le_refl _) _).more (by simp), k1⟩
    · obtain rfl := List.mem_singleton.1 hp
      exact ⟨(h2.alloc (Nat.le_refl _) _).more (by simp), k2⟩)
  have HA : Hid (allM [⟨A1, n1, c1, l1⟩, ⟨A2, n2, c2, l2⟩] = l1 ++ l2) := Lib.hid (by simp [allM])
  have HT := Lib.hid ht
  clear h1 h2 ht
  go_enter Try.func88, Try.ntmps88
  go_wp2_with fail
  refine (concatM _ 2 2 _ _ HL.out (by omega) (by rw [HA.out, List.length_append]; exact HT.out)).mono ?_
  rintro e w2 ⟨v, rfl, ho, hb⟩
  obtain ⟨A3, n3, c3, rfl⟩ := ownG_slice ho
  have HO : Hid (OwnG w2 w.heap.size (.slice A3 n3 c3) (l1 ++ l2)) := Lib.hid (by rw [HA.out] at ho; exact ho.lower (by simp))
  have HB : Hid (Below w.heap.size w w2) := Lib.hid (((Below.refl _ w).alloc (Nat.le_refl _) _).trans (hb.mono (by simp)))
  clear ho hb
  go_wp2
  go_ret
  exact ⟨_, rfl, HO.out, HB.out⟩
end Go.Proofs.Ytiaafhcfeeekeaa.Pk

/- The document's Push, Heard, Fits, Take of a side. -/
namespace Go.Proofs.Ytiaafhcfeeekeaa.Pk
open Go.RowKit
set_option linter.unusedVariables false
/-- A side laid into its box. -/
theorem edge_set {V : World} {x : Nat} {t : TypeId} {a0 a1 a2 a3 : Value} (h : Blk V x t #[a0, a1, a2, a3]) (u0 u1 u2 u3 : Value) : ∃ V5, V5 = ((((V.setCell ⟨x, 0, none⟩ u0).setCell ⟨x, 1, none⟩ u1).setCell ⟨x, 2, none⟩ u2).setCell ⟨x, 3, none⟩ u3) ∧
    Blk V5 x t #[u0, u1, u2, u3] ∧ (∀ B w, B ≤ x → Below B w V → Below B w V5) ∧ (∀ B v l, OwnG V B v l → v.ownBlock ≠ some x → OwnG V5 B v l) := by
  have h0 : Blk (V.setCell ⟨x, 0, none⟩ u0) x t #[u0, a1, a2, a3] := by have := h.set_ 0 u0; simpa using this
  have h1 : Blk ((V.setCell ⟨x, 0, none⟩ u0).setCell ⟨x, 1, none⟩ u1) x t #[u0, u1, a2, a3] := by have := h0.set_ 1 u1; simpa using this
  have h2 : Blk (((V.setCell ⟨x, 0, none⟩ u0).setCell ⟨x, 1, none⟩ u1).setCell ⟨x, 2, none⟩ u2) x t #[u0, u1, u2, a3] := by have := h1.set_ 2 u2; simpa using this
  have h3 : Blk ((((V.setCell ⟨x, 0, none⟩ u0).setCell ⟨x, 1, none⟩ u1).setCell ⟨x, 2, none⟩ u2).setCell ⟨x, 3, none⟩ u3) x t #[u0, u1, u2, u3] := by have := h2.set_ 3 u3; simpa using this
  refine ⟨_, rfl, h3, fun B w hx hb => below_setG (below_setG (below_setG (below_setG hb hx 0 u0) hx 1 u1) hx 2 u2) hx 3 u3, fun B v l ho hv => ho.stay (fun g e => ?_)⟩
  have hg : ∀ (U : World) (i : Nat) (u : Value), (U.setCell ⟨x, i, none⟩ u).heap[g]? = U.heap[g]? := fun U i u => Below.heap_setCell U ⟨x, i, none⟩ u g (fun e2 => hv (by simp at e2; rw [e, e2]))
  rw [hg, hg, hg, hg]
end Go.Proofs.Ytiaafhcfeeekeaa.Pk

/- The landed Push of package half. -/
namespace Go.Proofs.Ytiaafhcfeeekeaa.Pk
open Go.RowKit
set_option linter.unusedVariables false
set_option maxRecDepth 100000 in
set_option maxHeartbeats 4000000 in
theorem pushH : PushH := by
  intro h m A n c w hin hm
  obtain ⟨r, hr⟩ : ∃ r, r = hpush h m := ⟨_, rfl⟩
  have HP := Lib.hid hr
  rw [← hr]
  clear hr
  obtain ⟨p, b, o, s⟩ := h
  obtain ⟨mk, mo, mn, mu, mv⟩ := m
  have HV := Lib.hid (fun w' => validC _ w' hm)
  unfold Mg.val at HV ⊢
  simp only at HV ⊢
  clear hm
  have HL : Hid (o.length = n) := Lib.hid hin.len
  have HIn := Lib.hid hin
  have HG := Lib.hid (fun w' (hb : Below w.heap.size w w') => goodH _ A n c w' (hin.next hb))
  have HR := Lib.hid hin.rd
  have hfew := hin.few
  have hnc := hin.cap
  obtain ⟨⟨ip, jp⟩, ⟨ib, jb⟩, ⟨is_, js⟩, -⟩ := hin.i
  unfold Hf.val at HG ⊢
  simp only at HG HR ip jp ib jb is_ js ⊢
  clear hin
  go_enter Try.func95, Try.ntmps95
  obtain ⟨x1, hx1⟩ : ∃ x, x = w.heap.size := ⟨_, rfl⟩
  obtain ⟨x2, hx2⟩ : ∃ x, x = x1 + 1 := ⟨_, rfl⟩
  obtain ⟨pr, hpr⟩ : ∃ x, x = x2 + 1 := ⟨_, rfl⟩
  obtain ⟨wa, hwa⟩ : ∃ wa, wa = w.alloc (.cells #[.int .i64 p, .int .i64 b, .slice A n c, .int .i64 s] 50) := ⟨_, rfl⟩
  obtain ⟨wb, hwb⟩ : ∃ wb, wb = wa.alloc (.cells #[.int .i64 mk, .int .i64 mo, .int .i64 mn, .int .i64 mu, .int .i64 mv] 30) := ⟨_, rfl⟩
  obtain ⟨w1, hw1⟩ : ∃ w1, w1 = wb.alloc (.cells #[.int .i64 0, .int .i64 0, .slice none 0 0, .int .i64 0] 50) := ⟨_, rfl⟩
  have hsa : wa.heap.size = x1 + 1 := by rw [hwa, World.size_alloc, hx1]
  have hsb : wb.heap.size = x2 + 1 := by rw [hwb, World.size_alloc, hsa, hx2]
  have hba : Below w.heap.size w wa := hwa ▸ (Below.refl _ _).alloc (Nat.le_refl _) _
  have hbb : Below w.heap.size w wb := hwb ▸ hba.alloc (by omega) _
  have HB1 : Hid (Below w.heap.size w w1) := Lib.hid (hw1 ▸ hbb.alloc (by omega) _)
  have HE1 : Hid (Blk w1 x1 50 #[.int .i64 p, .int .i64 b, .slice A n c, .int .i64 s]) := Lib.hid (by rw [hw1, hwb, hwa, hx1]; exact ((Blk.new w _ _).alloc _).alloc _)
  have HM1 : Hid (Blk w1 x2 30 #[.int .i64 mk, .int .i64 mo, .int .i64 mn, .int .i64 mu, .int .i64 mv]) := Lib.hid (by rw [hw1, hwb, hx2, ← hsa]; exact (Blk.new wa _ _).alloc _)
  have HK1 : Hid (Blk w1 pr 50 #[.int .i64 0, .int .i64 0, .slice none 0 0, .int .i64 0]) := Lib.hid (by rw [hw1, hpr, ← hsb]; exact Blk.new wb _ _)
  have HPr : Hid (w.heap.size + 2 = pr) := Lib.hid (by omega)
  have HX1 : Hid (w.heap.size = x1) := Lib.hid (by omega)
  have HNe : Hid (x1 ≠ pr ∧ x2 ≠ pr) := Lib.hid (by omega)
  go_wp2_with fail
  rw [← hwa, ← hwb, ← hw1, ← hx1, ← hx2, ← hpr]
  clear hwa hwb hw1 hx1 hx2 hpr hsa hsb hba hbb wa wb
  refine (HG.out w1 HB1.out).mono ?_
  rintro e w2 ⟨rfl, hb2⟩
  have HB2 := Lib.hid (HB1.out.trans (hb2.mono HB1.out.size))
  have HE2 := Lib.hid (HE1.out.below hb2 HE1.out.lt)
  have HM2 := Lib.hid (HM1.out.below hb2 HM1.out.lt)
  have HK2 := Lib.hid (HK1.out.below hb2 HK1.out.lt)
  clear hb2 HE1 HK1 HB1
  clear HM1
  by_cases hbe : Hf.Be ⟨p, b, o, s⟩
  case neg =>
    have HS : Hid (r = (Hf.zero, 24)) := Lib.hid (by rw [HP.out]; exact if_neg hbe)
    rw [decide_eq_false hbe]
    clear hbe
    have k2 := HK2.out
    have x0_ : w2.cell? ⟨pr, 0, none⟩ = some (.int .i64 0) := k2.cell 0
    have x1_ : w2.cell? ⟨pr, 1, none⟩ = some (.int .i64 0) := k2.cell 1
    have x2_ : w2.cell? ⟨pr, 2, none⟩ = some (.slice none 0 0) := k2.cell 2
    have x3_ : w2.cell? ⟨pr, 3, none⟩ = some (.int .i64 0) := k2.cell 3
    have f0_ : w2.frozen? ⟨pr, 0, none⟩ = false := k2.frozen 0
    have f1_ : w2.frozen? ⟨pr, 1, none⟩ = false := k2.frozen 1
    have f2_ : w2.frozen? ⟨pr, 2, none⟩ = false := k2.frozen 2
    have f3_ : w2.frozen? ⟨pr, 3, none⟩ = false := k2.frozen 3
    obtain ⟨w5, hw5, k5, hb5, ho5⟩ := edge_set k2 (.int .i64 0) (.int .i64 0) (.slice none 0 0) (.int .i64 0)
    have HB5 := Lib.hid (hb5 w.heap.size w (by have := HPr.out; omega) HB2.out)
    have HW5 := Lib.hid hw5
    have y0_ : w5.cell? ⟨pr, 0, none⟩ = some (.int .i64 0) := k5.cell 0
    have y1_ : w5.cell? ⟨pr, 1, none⟩ = some (.int .i64 0) := k5.cell 1
    have y2_ : w5.cell? ⟨pr, 2, none⟩ = some (.slice none 0 0) := k5.cell 2
    have y3_ : w5.cell? ⟨pr, 3, none⟩ = some (.int .i64 0) := k5.cell 3
    clear k2 hw5 k5 hb5 ho5
    go_wp2
    rw [← HW5.out]
    refine bodyPost_ret (v := .tuple #[.agg #[.int .i64 0, .int .i64 0, .slice none 0 0, .int .i64 0], .int .i64 (24)]) (by simp [results, Try.f95, go_sem, y0_, y1_, y2_, y3_]) rfl ⟨.slice none 0 0, ?_, ?_, HB5.out⟩
    · rw [HS.out]; rfl
    · rw [HS.out]; exact OwnG.none_ _ _
  case pos =>
  have HBe := Lib.hid hbe
  rw [decide_eq_true hbe]
  clear hbe
  have m0 : w2.cell? ⟨x2, 0, none⟩ = some (.int .i64 mk) := HM2.out.cell 0
  have m1 : w2.cell? ⟨x2, 1, none⟩ = some (.int .i64 mo) := HM2.out.cell 1
  have m2 : w2.cell? ⟨x2, 2, none⟩ = some (.int .i64 mn) := HM2.out.cell 2
  have m3 : w2.cell? ⟨x2, 3, none⟩ = some (.int .i64 mu) := HM2.out.cell 3
  have m4 : w2.cell? ⟨x2, 4, none⟩ = some (.int .i64 mv) := HM2.out.cell 4
  go_wp2_with fail
  refine (HV.out w2).mono ?_
  rintro e w3 ⟨rfl, hb3⟩
  have HB3 := Lib.hid (HB2.out.trans (hb3.mono HB2.out.size))
  have HE3 := Lib.hid (HE2.out.below hb3 HE2.out.lt)
  have HM3 := Lib.hid (HM2.out.below hb3 HM2.out.lt)
  have HK3 := Lib.hid (HK2.out.below hb3 HK2.out.lt)
  clear hb3 HE2 HM2 HK2 HB2 m0 m1 m2 m3 m4
  by_cases hmb : Mg.Be ⟨mk, mo, mn, mu, mv⟩
  case neg =>
    have HS : Hid (r = (Hf.zero, 1)) := Lib.hid (by rw [HP.out]; exact (if_pos HBe.out).trans (if_neg hmb))
    rw [decide_eq_false hmb]
    clear hmb
    have k2 := HK3.out
    have x0_ : w3.cell? ⟨pr, 0, none⟩ = some (.int .i64 0) := k2.cell 0
    have x1_ : w3.cell? ⟨pr, 1, none⟩ = some (.int .i64 0) := k2.cell 1
    have x2_ : w3.cell? ⟨pr, 2, none⟩ = some (.slice none 0 0) := k2.cell 2
    have x3_ : w3.cell? ⟨pr, 3, none⟩ = some (.int .i64 0) := k2.cell 3
    have f0_ : w3.frozen? ⟨pr, 0, none⟩ = false := k2.frozen 0
    have f1_ : w3.frozen? ⟨pr, 1, none⟩ = false := k2.frozen 1
    have f2_ : w3.frozen? ⟨pr, 2, none⟩ = false := k2.frozen 2
    have f3_ : w3.frozen? ⟨pr, 3, none⟩ = false := k2.frozen 3
    obtain ⟨w5, hw5, k5, hb5, ho5⟩ := edge_set k2 (.int .i64 0) (.int .i64 0) (.slice none 0 0) (.int .i64 0)
    have HB5 := Lib.hid (hb5 w.heap.size w (by have := HPr.out; omega) HB3.out)
    have HW5 := Lib.hid hw5
    have y0_ : w5.cell? ⟨pr, 0, none⟩ = some (.int .i64 0) := k5.cell 0
    have y1_ : w5.cell? ⟨pr, 1, none⟩ = some (.int .i64 0) := k5.cell 1
    have y2_ : w5.cell? ⟨pr, 2, none⟩ = some (.slice none 0 0) := k5.cell 2
    have y3_ : w5.cell? ⟨pr, 3, none⟩ = some (.int .i64 0) := k5.cell 3
    clear k2 hw5 k5 hb5 ho5
    go_wp2
    rw [← HW5.out]
    refine bodyPost_ret (v := .tuple #[.agg #[.int .i64 0, .int .i64 0, .slice none 0 0, .int .i64 0], .int .i64 (1)]) (by simp [results, Try.f95, go_sem, y0_, y1_, y2_, y3_]) rfl ⟨.slice none 0 0, ?_, ?_, HB5.out⟩
    · rw [HS.out]; rfl
    · rw [HS.out]; exact OwnG.none_ _ _
  case pos =>
  have HMb := Lib.hid hmb
  rw [decide_eq_true hmb]
  clear hmb
  have hb9 : 0 ≤ b ∧ b ≤ 1099511627776 := by
    obtain ⟨g1, g2, g3, g4, g5, g6, g7, g8⟩ := HBe.out
    simp only [HL.out] at g3 g7
    omega
  have HRm := Lib.hid (fun w => room_any (p := p) (s := s) A n c w hb9 hfew hnc)
  obtain ⟨M, hM⟩ : ∃ M, M = min 1024 (1099511627776 - b) - (n : Int) := ⟨_, rfl⟩
  rw [← hM] at HRm
  have e0 : w3.cell? ⟨x1, 0, none⟩ = some (.int .i64 p) := HE3.out.cell 0
  have e1 : w3.cell? ⟨x1, 1, none⟩ = some (.int .i64 b) := HE3.out.cell 1
  have e2 : w3.cell? ⟨x1, 2, none⟩ = some (.slice A n c) := HE3.out.cell 2
  have e3 : w3.cell? ⟨x1, 3, none⟩ = some (.int .i64 s) := HE3.out.cell 3
  have HMd := Lib.hid hM
  clear hM
  go_wp2_with fail
  refine (HRm.out w3).mono ?_
  rintro e w4 ⟨rfl, hb4⟩
  have HB4 := Lib.hid (HB3.out.trans (hb4.mono HB3.out.size))
  have HE4 := Lib.hid (HE3.out.below hb4 HE3.out.lt)
  have HM4 := Lib.hid (HM3.out.below hb4 HM3.out.lt)
  have HK4 := Lib.hid (HK3.out.below hb4 HK3.out.lt)
  clear hb4 HE3 HM3 HK3 HB3 e0 e1 e2 e3
  by_cases hfu : Hf.Full ⟨p, b, o, s⟩
  case pos =>
    have hm0 : (M == 0) = true := by
      have g := HBe.out
      obtain ⟨g1, g2, g3, g4, g5, g6, g7, g8⟩ := g
      have g9 := hfu
      unfold Hf.Full at g9
      simp only [HL.out] at g6 g7 g9
      have := HMd.out
      simp
      omega
    have HS : Hid (r = (Hf.zero, 23)) := Lib.hid (by rw [HP.out]; exact (if_pos HBe.out).trans ((if_pos HMb.out).trans (if_pos hfu)))
    clear hfu
    have k2 := HK4.out
    have x0_ : w4.cell? ⟨pr, 0, none⟩ = some (.int .i64 0) := k2.cell 0
    have x1_ : w4.cell? ⟨pr, 1, none⟩ = some (.int .i64 0) := k2.cell 1
    have x2_ : w4.cell? ⟨pr, 2, none⟩ = some (.slice none 0 0) := k2.cell 2
    have x3_ : w4.cell? ⟨pr, 3, none⟩ = some (.int .i64 0) := k2.cell 3
    have f0_ : w4.frozen? ⟨pr, 0, none⟩ = false := k2.frozen 0
    have f1_ : w4.frozen? ⟨pr, 1, none⟩ = false := k2.frozen 1
    have f2_ : w4.frozen? ⟨pr, 2, none⟩ = false := k2.frozen 2
    have f3_ : w4.frozen? ⟨pr, 3, none⟩ = false := k2.frozen 3
    obtain ⟨w5, hw5, k5, hb5, ho5⟩ := edge_set k2 (.int .i64 0) (.int .i64 0) (.slice none 0 0) (.int .i64 0)
    have HB5 := Lib.hid (hb5 w.heap.size w (by have := HPr.out; omega) HB4.out)
    have HW5 := Lib.hid hw5
    have y0_ : w5.cell? ⟨pr, 0, none⟩ = some (.int .i64 0) := k5.cell 0
    have y1_ : w5.cell? ⟨pr, 1, none⟩ = some (.int .i64 0) := k5.cell 1
    have y2_ : w5.cell? ⟨pr, 2, none⟩ = some (.slice none 0 0) := k5.cell 2
    have y3_ : w5.cell? ⟨pr, 3, none⟩ = some (.int .i64 0) := k5.cell 3
    clear k2 hw5 k5 hb5 ho5
    go_wp2
    rw [← HW5.out]
    refine bodyPost_ret (v := .tuple #[.agg #[.int .i64 0, .int .i64 0, .slice none 0 0, .int .i64 0], .int .i64 (23)]) (by simp [results, Try.f95, go_sem, y0_, y1_, y2_, y3_]) rfl ⟨.slice none 0 0, ?_, ?_, HB5.out⟩
    · rw [HS.out]; rfl
    · rw [HS.out]; exact OwnG.none_ _ _
  case neg =>
  have hm0 : (M == 0) = false := by
    have g := HBe.out
    obtain ⟨g1, g2, g3, g4, g5, g6, g7, g8⟩ := g
    have g9 := hfu
    unfold Hf.Full at g9
    simp only [HL.out] at g6 g7 g9
    have := HMd.out
    simp
    omega
  have hn : n ≤ 1024 := by
    have g := HBe.out.2.2.2.2.2.1
    simpa only [HL.out] using g
  have HS : Hid (r = (⟨p, b, o ++ [⟨mk, mo, mn, mu, mv⟩], s⟩, 0)) := Lib.hid (by rw [HP.out]; exact (if_pos HBe.out).trans ((if_pos HMb.out).trans (if_neg hfu)))
  clear hfu
  have e2 : w4.cell? ⟨x1, 2, none⟩ = some (.slice A n c) := HE4.out.cell 2
  have m0 : w4.cell? ⟨x2, 0, none⟩ = some (.int .i64 mk) := HM4.out.cell 0
  have m1 : w4.cell? ⟨x2, 1, none⟩ = some (.int .i64 mo) := HM4.out.cell 1
  have m2 : w4.cell? ⟨x2, 2, none⟩ = some (.int .i64 mn) := HM4.out.cell 2
  have m3 : w4.cell? ⟨x2, 3, none⟩ = some (.int .i64 mu) := HM4.out.cell 3
  have m4 : w4.cell? ⟨x2, 4, none⟩ = some (.int .i64 mv) := HM4.out.cell 4
  go_wp2_with fail
  refine (apart_any A n c o (some ⟨w4.heap.size, 0, none⟩) 1 1 [⟨mk, mo, mn, mu, mv⟩] _ (((HR.out.below HB4.out).alloc HB4.out.size _).more (by have := HB4.out.size; simp; omega)) (by have := reads_msg w4 30 ⟨mk, mo, mn, mu, mv⟩; exact this.more (by simp)) hnc (by omega) (by rw [HL.out]; simp; omega)).mono ?_
  rintro e w5 ⟨v5, rfl, ho5, hb5⟩
  obtain ⟨A5, n5, c5, rfl⟩ := ownG_slice ho5
  have hb45 : Below w4.heap.size w4 w5 := ((Below.refl _ w4).alloc (Nat.le_refl _) _).trans (hb5.mono (by simp))
  have HO5 := Lib.hid (ho5.lower (B' := w4.heap.size) (by simp))
  have HB5 := Lib.hid (HB4.out.trans (hb45.mono HB4.out.size))
  have HE5 := Lib.hid (HE4.out.below hb45 HE4.out.lt)
  have HK5 := Lib.hid (HK4.out.below hb45 HK4.out.lt)
  have HXl := Lib.hid HE4.out.lt
  have HKl := Lib.hid HK4.out.lt
  clear hb5 hb45 ho5 e2 m0 m1 m2 m3 m4 HE4 HM4 HK4
  have hx2 : w5.cell? ⟨x1, 2, none⟩ = some (.slice A n c) := HE5.out.cell 2
  have hf2 : w5.frozen? ⟨x1, 2, none⟩ = false := HE5.out.frozen 2
  have HE6 : Hid (Blk (w5.setCell ⟨x1, 2, none⟩ (.slice A5 n5 c5)) x1 50 #[.int .i64 p, .int .i64 b, .slice A5 n5 c5, .int .i64 s]) := Lib.hid (by have := HE5.out.set_ 2 (.slice A5 n5 c5); simpa using this)
  have HK6 : Hid (Blk (w5.setCell ⟨x1, 2, none⟩ (.slice A5 n5 c5)) pr 50 #[.int .i64 0, .int .i64 0, .slice none 0 0, .int .i64 0]) := Lib.hid (HK5.out.far (p := ⟨x1, 2, none⟩) (fun e => HNe.out.1 e.symm) _)
  have HB6 : Hid (Below w.heap.size w (w5.setCell ⟨x1, 2, none⟩ (.slice A5 n5 c5))) := Lib.hid (below_setG HB5.out (by have := HX1.out; omega) 2 _)
  have HO6 : Hid (OwnG (w5.setCell ⟨x1, 2, none⟩ (.slice A5 n5 c5)) w4.heap.size (.slice A5 n5 c5) (o ++ [⟨mk, mo, mn, mu, mv⟩])) := Lib.hid (HO5.out.stay (fun g e => Below.heap_setCell w5 ⟨x1, 2, none⟩ _ g (by have := ownG_base HO5.out g e; have := HXl.out; simp; omega)))
  have z0 : (w5.setCell ⟨x1, 2, none⟩ (.slice A5 n5 c5)).cell? ⟨x1, 0, none⟩ = some (.int .i64 p) := HE6.out.cell 0
  have z1 : (w5.setCell ⟨x1, 2, none⟩ (.slice A5 n5 c5)).cell? ⟨x1, 1, none⟩ = some (.int .i64 b) := HE6.out.cell 1
  have z2 : (w5.setCell ⟨x1, 2, none⟩ (.slice A5 n5 c5)).cell? ⟨x1, 2, none⟩ = some (.slice A5 n5 c5) := HE6.out.cell 2
  have z3 : (w5.setCell ⟨x1, 2, none⟩ (.slice A5 n5 c5)).cell? ⟨x1, 3, none⟩ = some (.int .i64 s) := HE6.out.cell 3
  have x0_ : (w5.setCell ⟨x1, 2, none⟩ (.slice A5 n5 c5)).cell? ⟨pr, 0, none⟩ = some (.int .i64 0) := HK6.out.cell 0
  have f0_ : (w5.setCell ⟨x1, 2, none⟩ (.slice A5 n5 c5)).frozen? ⟨pr, 0, none⟩ = false := HK6.out.frozen 0
  have x1_ : (w5.setCell ⟨x1, 2, none⟩ (.slice A5 n5 c5)).cell? ⟨pr, 1, none⟩ = some (.int .i64 0) := HK6.out.cell 1
  have f1_ : (w5.setCell ⟨x1, 2, none⟩ (.slice A5 n5 c5)).frozen? ⟨pr, 1, none⟩ = false := HK6.out.frozen 1
  have x2_ : (w5.setCell ⟨x1, 2, none⟩ (.slice A5 n5 c5)).cell? ⟨pr, 2, none⟩ = some (.slice none 0 0) := HK6.out.cell 2
  have f2_ : (w5.setCell ⟨x1, 2, none⟩ (.slice A5 n5 c5)).frozen? ⟨pr, 2, none⟩ = false := HK6.out.frozen 2
  have x3_ : (w5.setCell ⟨x1, 2, none⟩ (.slice A5 n5 c5)).cell? ⟨pr, 3, none⟩ = some (.int .i64 0) := HK6.out.cell 3
  have f3_ : (w5.setCell ⟨x1, 2, none⟩ (.slice A5 n5 c5)).frozen? ⟨pr, 3, none⟩ = false := HK6.out.frozen 3
  obtain ⟨w7, hw7, k7, hb7, ho7⟩ := edge_set HK6.out (.int .i64 p) (.int .i64 b) (.slice A5 n5 c5) (.int .i64 s)
  have HB7 := Lib.hid (hb7 w.heap.size w (by have := HPr.out; omega) HB6.out)
  have HW7 := Lib.hid hw7
  have HO7 : Hid (OwnG w7 w.heap.size (.slice A5 n5 c5) (o ++ [⟨mk, mo, mn, mu, mv⟩])) := Lib.hid (OwnG.lower (ho7 _ _ _ HO6.out (fun e => by have := ownG_base HO6.out _ e; have := HKl.out; omega)) HB4.out.size)
  have y0_ : w7.cell? ⟨pr, 0, none⟩ = some (.int .i64 p) := k7.cell 0
  have y1_ : w7.cell? ⟨pr, 1, none⟩ = some (.int .i64 b) := k7.cell 1
  have y2_ : w7.cell? ⟨pr, 2, none⟩ = some (.slice A5 n5 c5) := k7.cell 2
  have y3_ : w7.cell? ⟨pr, 3, none⟩ = some (.int .i64 s) := k7.cell 3
  clear hw7 k7 hb7 ho7
  go_wp2
  rw [← HW7.out]
  refine bodyPost_ret (v := .tuple #[.agg #[.int .i64 p, .int .i64 b, .slice A5 n5 c5, .int .i64 s], .int .i64 0]) (by simp [results, Try.f95, go_sem, y0_, y1_, y2_, y3_]) rfl ⟨.slice A5 n5 c5, ?_, ?_, HB7.out⟩
  · rw [HS.out]
  · rw [HS.out]; exact HO7.out
end Go.Proofs.Ytiaafhcfeeekeaa.Pk
