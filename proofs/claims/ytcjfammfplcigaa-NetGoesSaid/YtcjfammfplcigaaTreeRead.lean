/- The tree's find, nth and the table's root. -/
import Derived.Test.YtcjfammfplcigaaTree
import Derived.Deep.LoopGhost
namespace Go.Proofs.Ytcjfammfplcigaa.Pk
open Go.RowKit Go.Proofs.Ytcjfammfplcigaa.Tb
set_option linter.unusedVariables false

/-- The subtree whose top has the number k. -/
def Tr.seek (k : Int) : Tr → Tr
  | .leaf => .leaf
  | .node b l x v r => if x = k then .node b l x v r else if k < x then l.seek k else r.seek k
/-- The subtree whose top is the i-th. -/
def Tr.pick (i : Nat) : Tr → Tr
  | .leaf => .leaf
  | .node b l x v r => if i < l.len then l.pick i else if l.len < i then r.pick (i - l.len - 1) else .node b l x v r
theorem seek_node (k : Int) (b : Nat) (l : Tr) (x : Int) (v : ByteArray) (r : Tr) : (Tr.node b l x v r).seek k = if x = k then .node b l x v r else if k < x then l.seek k else r.seek k := rfl
theorem pick_node (i : Nat) (b : Nat) (l : Tr) (x : Int) (v : ByteArray) (r : Tr) : (Tr.node b l x v r).pick i = if i < l.len then l.pick i else if l.len < i then r.pick (i - l.len - 1) else .node b l x v r := rfl

set_option maxHeartbeats 2000000 in
theorem find_tree (T : Tr) (k : Int) (w : World) (h : IsT w T) :
    Calls Try.prog 33 #[.pointer T.p, .int .i64 k] w fun e w' => e = .returned (.pointer (T.seek k).p) ∧ w' = w := by
  go_enter Try.func33, Try.ntmps33
  go_wp2
  go_loopg [0] T.len (fun n p wr => w = wr ∧ ∃ S : Tr, p = .pointer S.p ∧ IsT w S ∧ S.len = n ∧ Hid (S.seek k = T.seek k))
  case atStart => exact ⟨rfl, T, rfl, h, rfl, Lib.hid rfl⟩
  case round =>
    obtain ⟨rfl, S, rfl, hS, hn, hk⟩ := hrel
    cases S with
    | leaf =>
      have hp : Tr.leaf.p = none := rfl
      rw [hp]
      clear hS hn
      go_wp2
      go_ret
      exact ⟨by rw [← hk.out]; rfl, rfl⟩
    | node b l x v r =>
      have hp : (Tr.node b l x v r).p = some ⟨b, 0, none⟩ := rfl
      have X0 := hS.1.cell 0
      have X2 := hS.1.cell 2
      have X3 := hS.1.cell 3
      simp only [ncells] at X0 X2 X3
      have HN := Lib.hid (hn.symm.trans (len_node b l x v r))
      have HT := Lib.hid hS
      have HS := Lib.hid hk.out
      rw [hp]
      clear hS hn hk
      by_cases he : x = k
      · subst he
        have hx : (x == x) = true := by simp
        go_wp2
        go_ret
        exact ⟨by rw [← HS.out, seek_node, if_pos rfl]; rfl, rfl⟩
      · have hx : (x == k) = false := by simpa using he
        by_cases hlt : k < x
        · have HQ : Hid (l.seek k = T.seek k) := Lib.hid (by rw [← HS.out, seek_node, if_neg he, if_pos hlt])
          clear he
          go_wp2
          go_roundg l.len
          case measure => have := HN.out; omega
          case rel => exact ⟨rfl, l, rfl, HT.out.2.2.1, rfl, HQ⟩
        · have HQ : Hid (r.seek k = T.seek k) := Lib.hid (by rw [← HS.out, seek_node, if_neg he, if_neg hlt])
          clear he
          have hge : x ≤ k := by omega
          clear hlt
          go_wp2
          go_roundg r.len
          case measure => have := HN.out; omega
          case rel => exact ⟨rfl, r, rfl, HT.out.2.2.2, rfl, HQ⟩

set_option maxHeartbeats 2000000 in
theorem nth_tree (T : Tr) (i : Nat) (w : World) (h : IsT w T) (hi : i < T.len) (hT : T.len ≤ 1000000000000000000) :
    Calls Try.prog 30 #[.pointer T.p, .int .i64 (i : Int)] w fun e w' => e = .returned (.pointer (T.pick i).p) ∧ w' = w := by
  go_enter Try.func30, Try.ntmps30
  go_wp2
  go_loopg [0, 1] T.len (fun n p q wr => w = wr ∧ ∃ (S : Tr) (j : Nat), p = .pointer S.p ∧ q = .int .i64 (j : Int) ∧ IsT w S ∧ S.len = n ∧ j < S.len ∧ S.len ≤ 1000000000000000000 ∧ Hid (S.pick j = T.pick i))
  case atStart => exact ⟨rfl, T, i, rfl, rfl, h, rfl, hi, hT, Lib.hid rfl⟩
  case round =>
    obtain ⟨rfl, S, j, rfl, rfl, hS, hn, hj, hle, hk⟩ := hrel
    cases S with
    | leaf => rw [len_leaf] at hj; omega
    | node b l x v r =>
      have hp : (Tr.node b l x v r).p = some ⟨b, 0, none⟩ := rfl
      have X2 := hS.1.cell 2
      have X3 := hS.1.cell 3
      simp only [ncells] at X2 X3
      rw [len_node] at hn hj hle
      have hcl := count_any l w hS.2.2.1
      have HN := Lib.hid hn
      have HT := Lib.hid hS
      have HS := Lib.hid hk.out
      rw [hp]
      clear hS hn hk
      go_wp2_with fail
      refine hcl.mono ?_
      rintro e w' ⟨rfl, rfl⟩
      clear hcl
      by_cases h1 : j < l.len
      · have HQ : Hid (l.pick j = T.pick i) := Lib.hid (by rw [← HS.out, pick_node, if_pos h1])
        have h2 : (j : Int) < (l.len : Int) := by omega
        go_wp2
        go_roundg l.len
        case measure => have := HN.out; omega
        case rel => exact ⟨rfl, l, j, rfl, rfl, HT.out.2.2.1, rfl, h1, by omega, HQ⟩
      · by_cases h2 : l.len < j
        · have HQ : Hid (r.pick (j - l.len - 1) = T.pick i) := Lib.hid (by rw [← HS.out, pick_node, if_neg h1, if_pos h2])
          have h3 : (l.len : Int) < (j : Int) := by omega
          have h4 : (l.len : Int) ≤ (j : Int) := by omega
          have h5 : ¬ (j : Int) < (l.len : Int) := by omega
          go_wp2
          go_roundg r.len
          case measure => have := HN.out; omega
          case rel => exact ⟨rfl, r, j - l.len - 1, rfl, by go_num, HT.out.2.2.2, rfl, by omega, by omega, HQ⟩
        · have h3 : j = l.len := by omega
          subst h3
          have h5 : ¬ (l.len : Int) < (l.len : Int) := by omega
          go_wp2
          go_ret
          exact ⟨by rw [← HS.out, pick_node, if_neg h1, if_neg h1]; rfl, rfl⟩
end Go.Proofs.Ytcjfammfplcigaa.Pk
