/- The library's slices.Concat of slices of bytes. -/
import Derived.Test.YtmmjmaohbmlfgaaDoorFrGrow
namespace Go.Proofs.YtmmjmaohbmlfgaaDoor.Pk
open Go.RowKit Go.Proofs.YtmmjmaohbmlfgaaDoor.Crc Go.Proofs.YtmmjmaohbmlfgaaDoor.Fr
set_option linter.unusedVariables false
/-- All bytes of some pieces, one behind the other. -/
def allB (ps : List Piece) : List Int := (Piece.bytes ps).flatten
theorem allB_app (ps qs : List Piece) : allB (ps ++ qs) = allB ps ++ allB qs := by simp [allB, Piece.bytes]
theorem allB_take (ps : List Piece) (k : Nat) : (allB (ps.take k)).length ≤ (allB ps).length := by
  have h : allB ps = allB (ps.take k) ++ allB (ps.drop k) := by rw [← allB_app, List.take_append_drop]
  rw [h, List.length_append]; omega
theorem allB_next {ps : List Piece} {k : Nat} {p : Piece} (h : ps[k]? = some p) : allB (ps.take (k + 1)) = allB (ps.take k) ++ p.l := by
  obtain ⟨h1, h2⟩ := List.getElem?_eq_some_iff.1 h
  rw [List.take_succ_eq_append_getElem h1, allB_app, h2]
  simp [allB, Piece.bytes]

set_option maxHeartbeats 1600000 in
theorem concat_any (A : Option Addr) (n c : Nat) (ps : List Piece) (w : World) (hl : Lists w w.heap.size A n ps) (hn : n ≤ 1048576) (ht : (allB ps).length ≤ 140737488355328) :
    Calls Tryd.prog 20 #[.slice A n c] w fun e w' => ∃ v, e = .returned v ∧ OwnB w' w.heap.size v (allB ps) ∧ Below w.heap.size w w' := by
  have RL := Lib.hid hl
  have HT := Lib.hid ht
  have HPl : Hid (∀ p ∈ ps, p.l.length = p.n) := Lib.hid (fun p hp => by have := (hl.2 p hp).1.1; simpa using this)
  clear hl ht
  go_enter Tryd.func20, Tryd.ntmps20
  go_wp2
  go_loop [3, 5, 11] (fun s x i => ∃ k : Nat, i = .int .i64 k ∧ k ≤ n ∧ s = .int .i64 (((allB (ps.take k)).length : Nat) : Int)) (fun _ _ i => n - (intOf i).toNat)
  case atStart => exact ⟨0, rfl, by omega, rfl⟩
  case round =>
    obtain ⟨k, rfl, hk, rfl⟩ := hrel
    have hle := allB_take ps k
    obtain ⟨s, hs⟩ : ∃ s, s = (allB (ps.take k)).length := ⟨_, rfl⟩
    rw [← hs] at hle ⊢
    have hs2 : s ≤ 140737488355328 := Nat.le_trans hle HT.out
    have HS := Lib.hid hs
    clear hs hle
    by_cases hlt : k < n
    · obtain ⟨b, off, p, rfl, hp, hok, hx, -⟩ := RL.out.at_ hlt
      have hpl := HPl.out p (List.mem_of_getElem? hp)
      have hnx := allB_next hp
      have hle2 := allB_take ps (k + 1)
      rw [hnx, List.length_append, ← HS.out, hpl] at hle2
      have hs3 : s + p.n ≤ 140737488355328 := Nat.le_trans hle2 HT.out
      have HN : Hid ((allB (ps.take (k + 1))).length = s + p.n) := Lib.hid (by rw [hnx, List.length_append, ← HS.out, hpl])
      obtain ⟨pa, pn, pc, pl⟩ := p
      simp only at hs3 HN hx
      clear hpl hnx hle2 hok hp
      go_wp2
      go_round
      case rel => exact ⟨k + 1, by go_num, by omega, by rw [HN.out]; rfl⟩
      case measure => simp [intOf]; omega
    · have HE : Hid (s = (allB ps).length) := Lib.hid (by rw [HS.out, List.take_of_length_le (by rw [RL.out.length]; omega)])
      clear HS
      go_wp2_with fail
      refine (grow_any s (by omega) w).mono ?_
      rintro e w1 ⟨v1, rfl, ho1, hb1⟩
      obtain ⟨A1, n1, c1, rfl⟩ := own_slice ho1
      have HO1 := Lib.hid ho1
      have HB1 := Lib.hid hb1
      clear ho1 hb1 hlt hk
      go_wp2
      go_loopw [6, 8, 27] (fun v x i wr => ∃ k : Nat, i = .int .i64 k ∧ k ≤ n ∧ OwnB wr w.heap.size v (allB (ps.take k)) ∧ Below w.heap.size w wr) (fun _ _ i _ => n - (intOf i).toNat)
      case atStart => exact ⟨0, rfl, by omega, HO1.out, HB1.out⟩
      case round =>
        obtain ⟨k, rfl, hk, hown, hbel⟩ := hrel
        obtain ⟨w2, rfl⟩ : ∃ w2 : World, w2 = wr := ⟨_, rfl⟩
        obtain ⟨A2, n2, c2, rfl⟩ := own_slice hown
        have HO2 := Lib.hid hown
        have HB2 := Lib.hid hbel
        clear hown hbel
        by_cases hlt : k < n
        · obtain ⟨b, off, p, rfl, hp, hok, hx, -⟩ := (RL.out.below HB2.out).at_ hlt
          have hpl := HPl.out p (List.mem_of_getElem? hp)
          have hnx := allB_next hp
          have hle2 := allB_take ps (k + 1)
          rw [hnx, List.length_append, hpl] at hle2
          have hs3 : Hid ((allB (ps.take k)).length + p.n ≤ 140737488355328) := Lib.hid (Nat.le_trans hle2 HT.out)
          have HN := Lib.hid hnx
          have HOk := Lib.hid hok.1
          obtain ⟨pa, pn, pc, pl⟩ := p
          simp only at hs3 HN hx HOk
          clear hpl hnx hle2 hok hp
          go_wp2_with (at_builtin; refine appB w2 rfl (.tmp 31) (.tmp 32) rfl w.heap.size _ _ rfl HO2.out w.heap.size pa pc pl pn rfl HOk.out hs3.out HB2.out.size ?_; intro v3 w3 hown3 hb3 _ _; have HO3 := Lib.hid hown3; have HB3 := Lib.hid (HB2.out.trans hb3); clear hown3 hb3)
          go_roundw
          case rel => exact ⟨k + 1, by go_num, by omega, by rw [HN.out]; exact HO3.out, HB3.out⟩
          case measure => simp [intOf]; omega
        · have HE2 : Hid (ps.take k = ps) := Lib.hid (List.take_of_length_le (by rw [RL.out.length]; omega))
          go_wp2
          go_ret
          exact ⟨_, rfl, by rw [← HE2.out]; exact HO2.out, HB2.out⟩
end Go.Proofs.YtmmjmaohbmlfgaaDoor.Pk
