/- The library's slices.Grow of nothing and slices.Concat, of messages. -/
import Derived.Test.YtneijohbmphheaaMgApp
import Derived.Test.YtneijohbmphheaaHfSpec
import Derived.Lib.AppendZeros
namespace Go.Proofs.Ytneijohbmphheaa.Pk
open Go.RowKit
set_option linter.unusedVariables false
theorem run_appZM (w : World) (ty : TypeId) (n : Nat) (h0 : 0 < n) (hn : n * 40 ≤ 281474976710656) : ∃ c cur, n ≤ c ∧ c ≤ maxLen ∧ cur.size = c * 5 ∧
    (Builtin.append_ #[22, 3] ty #[.slice none 0 0, .int .i64 (n : Int)]).run Try.prog w = .ok (.slice (some ⟨w.heap.size, 0, none⟩) n c) (w.drew.alloc (.cells cur 26)) := by
  obtain ⟨i0, hi0, hz0, hz1, hz2⟩ := info_parts msg_info
  have h := Lib.run_append_nil_zeros (P := Try.prog) w 22 3 ty 26 i0 _ .i64 .i64 Try.underlying22 Try.underlying3 hi0 hz0 n h0 (by omega) (by omega) (by rw [hz2]; omega)
  have hle := grownCap_ge w n 0 26
  have hmx := grownCap_le_maxLen w n 0 26 (by unfold maxLen; omega)
  refine ⟨_, _, hle, hmx, ?_, h⟩
  have hzc : (Value.agg #[.int .i64 0, .int .i64 0, .int .i64 0, .int .i64 0, .int .i64 0]).cells.size = 5 := rfl
  rw [Array.size_append, size_zeroCells, size_zeroCells, hzc]
  omega
theorem run_headM {P : Program} {t e : TypeId} (ht : P.underlying t = some (.slice e)) (hi : (P.info? e).map (·.size) = some 5) (a : Option Addr) (n c : Nat) (w : World) :
    (Instr.slice t (.slice a n c) none (some (.int .i64 0)) none).run P w = .ok (.slice a 0 c) w := by
  obtain ⟨f, hi1, hi2⟩ := Option.map_eq_some_iff.1 hi
  cases a <;> simp [Instr.slice, run_underlying ht, go_sem, Instr.sliceBounds, sizeOf, typeInfo, hi1, Addr.add]

set_option maxRecDepth 100000 in
set_option maxHeartbeats 1600000 in
theorem growM (n : Nat) (hn : n * 40 ≤ 281474976710656) (w : World) :
    Calls Try.prog 32 #[.slice none 0 0, .int .i64 (n : Int)] w fun e w' => ∃ v, e = .returned v ∧ OwnG w' w.heap.size v [] ∧ Below w.heap.size w w' := by
  have kz : ∀ u : World, (Instr.slice 22 (.slice none 0 0) none (some (.int .i64 0)) none).run Try.prog u = .ok (.slice none 0 0) u := fun u => run_headM Try.underlying22 (by kernel_rfl) none 0 0 u
  by_cases h0 : 0 < n
  · obtain ⟨c, cur, h1, h2, h3, h4⟩ := run_appZM w 22 n h0 hn
    have kc : ∀ u : World, (Instr.slice 22 (.slice (some ⟨w.heap.size, 0, none⟩) n c) none (some (.int .i64 0)) none).run Try.prog u = .ok (.slice (some ⟨w.heap.size, 0, none⟩) 0 c) u := fun u => run_headM Try.underlying22 (by kernel_rfl) _ n c u
    have H1 := Lib.hid h1
    have H2 := Lib.hid h2
    have H3 := Lib.hid h3
    clear h1 h2 h3
    go_enter Try.func32, Try.ntmps32
    go_wp2_with (at_builtin; refine Lib.wpList_append_run _ rfl _ _ _ _ rfl _ _ rfl rfl _ _ h4 ?_)
    go_ret
    refine ⟨_, rfl, ⟨rfl, .inr ⟨w.heap.size, c, cur, rfl, Nat.le_refl _, heap_alloc_new w.drew _, Nat.zero_le _, H2.out, H3.out, rfl⟩⟩, ?_⟩
    exact (⟨rfl, rfl, rfl, Nat.le_refl _, fun _ _ => rfl⟩ : Below w.heap.size w w.drew).alloc (Nat.le_refl _) _
  · obtain rfl : n = 0 := by omega
    go_enter Try.func32, Try.ntmps32
    go_wp2
    go_ret
    exact ⟨_, rfl, OwnG.none_ _ _, Below.refl _ _⟩
/-- A slice of messages, with the messages that it reads as. -/
structure MPc where
  a : Option Addr
  n : Nat
  c : Nat
  l : List Mg
def MPc.val (p : MPc) : Value := .slice p.a p.n p.c
def MPc.Ok (w : World) (B : Nat) (p : MPc) : Prop := Reads w B 5 p.a p.n (mgs p.l) ∧ p.n ≤ p.c
/-- A slice of slices of messages. -/
def MLists (w : World) (B : Nat) (A : Option Addr) (n : Nat) (ps : List MPc) : Prop := Reads w B 1 A n (ps.map MPc.val) ∧ ∀ p ∈ ps, p.Ok w B
theorem MLists.length {w : World} {B : Nat} {A : Option Addr} {n : Nat} {ps : List MPc} (h : MLists w B A n ps) : ps.length = n := by
  have := h.1.1; simpa using this
theorem MLists.keep {w w' : World} {B : Nat} {A : Option Addr} {n : Nat} {ps : List MPc} (h : MLists w B A n ps) (hk : ∀ p : Addr, p.block < B → w'.cell? p = w.cell? p) : MLists w' B A n ps :=
  ⟨h.1.keep hk, fun p hp => ⟨(h.2 p hp).1.keep hk, (h.2 p hp).2⟩⟩
theorem MLists.below {w w' : World} {B : Nat} {A : Option Addr} {n : Nat} {ps : List MPc} (h : MLists w B A n ps) (hb : Below B w w') : MLists w' B A n ps := h.keep fun _ hp => hb.cell hp
theorem MLists.at_ {w : World} {B : Nat} {A : Option Addr} {n k : Nat} {ps : List MPc} (h : MLists w B A n ps) (hk : k < n) :
    ∃ b off p, A = some ⟨b, off, none⟩ ∧ ps[k]? = some p ∧ p.Ok w B ∧ w.cell? ⟨b, off + k, none⟩ = some (.slice p.a p.n p.c) := by
  obtain ⟨b, off, e, _, hc⟩ := h.1.flat (by omega)
  have hl := h.length
  have hg : ps[k]? = some ps[k] := List.getElem?_eq_getElem (by omega)
  exact ⟨b, off, ps[k], e, hg, h.2 _ (List.getElem_mem _), hc k _ (by rw [List.getElem?_map, hg]; rfl)⟩
def allM (ps : List MPc) : List Mg := (ps.map (·.l)).flatten
theorem allM_app (ps qs : List MPc) : allM (ps ++ qs) = allM ps ++ allM qs := by simp [allM]
theorem allM_take (ps : List MPc) (k : Nat) : (allM (ps.take k)).length ≤ (allM ps).length := by
  have h : allM ps = allM (ps.take k) ++ allM (ps.drop k) := by rw [← allM_app, List.take_append_drop]
  rw [h, List.length_append]; omega
theorem allM_next {ps : List MPc} {k : Nat} {p : MPc} (h : ps[k]? = some p) : allM (ps.take (k + 1)) = allM (ps.take k) ++ p.l := by
  obtain ⟨h1, h2⟩ := List.getElem?_eq_some_iff.1 h
  rw [List.take_succ_eq_append_getElem h1, allM_app, h2]
  simp [allM]

set_option maxRecDepth 100000 in
set_option maxHeartbeats 1600000 in
theorem concatM (A : Option Addr) (n c : Nat) (ps : List MPc) (w : World) (hl : MLists w w.heap.size A n ps) (hn : n ≤ 1048576) (ht : (allM ps).length * 40 ≤ 140737488355328) :
    Calls Try.prog 31 #[.slice A n c] w fun e w' => ∃ v, e = .returned v ∧ OwnG w' w.heap.size v (allM ps) ∧ Below w.heap.size w w' := by
  have RL := Lib.hid hl
  have HT := Lib.hid ht
  have HPl : Hid (∀ p ∈ ps, p.l.length = p.n) := Lib.hid (fun p hp => (hl.2 p hp).1.mlen)
  clear hl ht
  go_enter Try.func31, Try.ntmps31
  go_wp2
  go_loop [3, 5, 11] (fun s x i => ∃ k : Nat, i = .int .i64 k ∧ k ≤ n ∧ s = .int .i64 (((allM (ps.take k)).length : Nat) : Int)) (fun _ _ i => n - (intOf i).toNat)
  case atStart => exact ⟨0, rfl, by omega, rfl⟩
  case round =>
    obtain ⟨k, rfl, hk, rfl⟩ := hrel
    have hle := allM_take ps k
    obtain ⟨s, hs⟩ : ∃ s, s = (allM (ps.take k)).length := ⟨_, rfl⟩
    rw [← hs] at hle ⊢
    have hs2 : s ≤ 3518437208883 := by have := HT.out; omega
    have HS := Lib.hid hs
    clear hs hle
    by_cases hlt : k < n
    · obtain ⟨b, off, p, rfl, hp, hok, hx⟩ := RL.out.at_ hlt
      have hpl := HPl.out p (List.mem_of_getElem? hp)
      have hnx := allM_next hp
      have hle2 := allM_take ps (k + 1)
      rw [hnx, List.length_append, ← HS.out, hpl] at hle2
      have hs3 : s + p.n ≤ 3518437208883 := by have := HT.out; omega
      have HN : Hid ((allM (ps.take (k + 1))).length = s + p.n) := Lib.hid (by rw [hnx, List.length_append, ← HS.out, hpl])
      obtain ⟨pa, pn, pc, pl⟩ := p
      simp only at hs3 HN hx
      clear hpl hnx hle2 hok hp
      go_wp2
      go_round
      case rel => exact ⟨k + 1, by go_num, by omega, by rw [HN.out]; rfl⟩
      case measure => simp [intOf]; omega
    · have HE : Hid (s = (allM ps).length) := Lib.hid (by rw [HS.out, List.take_of_length_le (by rw [RL.out.length]; omega)])
      clear HS
      go_wp2_with fail
      refine (growM s (by omega) w).mono ?_
      rintro e w1 ⟨v1, rfl, ho1, hb1⟩
      obtain ⟨A1, n1, c1, rfl⟩ := ownG_slice ho1
      have HO1 := Lib.hid ho1
      have HB1 := Lib.hid hb1
      clear ho1 hb1 hlt hk
      go_wp2
      go_loopw [6, 8, 27] (fun v x i wr => ∃ k : Nat, i = .int .i64 k ∧ k ≤ n ∧ OwnG wr w.heap.size v (allM (ps.take k)) ∧ Below w.heap.size w wr) (fun _ _ i _ => n - (intOf i).toNat)
      case atStart => exact ⟨0, rfl, by omega, HO1.out, HB1.out⟩
      case round =>
        obtain ⟨k, rfl, hk, hown, hbel⟩ := hrel
        obtain ⟨w2, rfl⟩ : ∃ w2 : World, w2 = wr := ⟨_, rfl⟩
        obtain ⟨A2, n2, c2, rfl⟩ := ownG_slice hown
        have HO2 := Lib.hid hown
        have HB2 := Lib.hid hbel
        clear hown hbel
        by_cases hlt : k < n
        · obtain ⟨b, off, p, rfl, hp, hok, hx⟩ := (RL.out.below HB2.out).at_ hlt
          have hpl := HPl.out p (List.mem_of_getElem? hp)
          have hnx := allM_next hp
          have hle2 := allM_take ps (k + 1)
          rw [hnx, List.length_append, hpl] at hle2
          have hs3 : Hid (((allM (ps.take k)).length + p.n) * 40 ≤ 140737488355328) := Lib.hid (Nat.le_trans (Nat.mul_le_mul_right 40 hle2) HT.out)
          have HN := Lib.hid hnx
          have HOk := Lib.hid hok.1
          obtain ⟨pa, pn, pc, pl⟩ := p
          simp only at hs3 HN hx HOk
          clear hpl hnx hle2 hok hp
          go_wp2_with (at_builtin; refine appM w2 rfl (.tmp 31) (.tmp 32) rfl w.heap.size _ _ rfl HO2.out w.heap.size pa pc pl pn rfl HOk.out hs3.out HB2.out.size ?_; intro v3 w3 hown3 hb3 _ _; have HO3 := Lib.hid hown3; have HB3 := Lib.hid (HB2.out.trans hb3); clear hown3 hb3)
          go_roundw
          case rel => exact ⟨k + 1, by go_num, by omega, by rw [HN.out]; exact HO3.out, HB3.out⟩
          case measure => simp [intOf]; omega
        · have HE2 : Hid (ps.take k = ps) := Lib.hid (List.take_of_length_le (by rw [RL.out.length]; omega))
          go_wp2
          go_ret
          exact ⟨_, rfl, by rw [← HE2.out]; exact HO2.out, HB2.out⟩
end Go.Proofs.Ytneijohbmphheaa.Pk
