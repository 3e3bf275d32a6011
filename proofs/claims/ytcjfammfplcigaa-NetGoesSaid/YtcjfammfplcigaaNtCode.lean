/- Package net: what a net is in memory (a table of texts, each under a number above those ahead of it), and the calls that only read it. -/
import Derived.Test.YtcjfammfplcigaaTreeGoes
import Derived.Test.YtcjfammfplcigaaNtMath2
import Derived.Test.YtcjfammfplcigaaNtWakes
namespace Go.Proofs.Ytcjfammfplcigaa.Pk
open Go.RowKit Go.Shelf Go.Proofs.Ytcjfammfplcigaa.Tb Go.Proofs.Ytcjfammfplcigaa.Nt
set_option linter.unusedVariables false
/-- The rows are those of what is under way; none under a number above k. -/
structure RowsN (k : Nat) (rows : List Rw) (l : Li) : Prop where
  texts : rows.map (·.2) = l.map strOfNums
  bytes : Bys l
  keys : ∀ r ∈ rows, 1 ≤ r.1 ∧ r.1 ≤ (k : Int)
  few : l.length ≤ 512
def Nq (kc : Nat) (w : World) (T : Nat) (l : Li) (S D : Nat → Prop) : Prop :=
  ∃ (tb : Nat) (t : Tr), Blk w T 50 #[.pointer (some ⟨tb, 0, none⟩)] ∧ IsTab w tb t ∧ RowsN kc t.rows l ∧ S = (fun b => b = tb) ∧ D = fun b => b = T ∨ b = tb ∨ t.has b
theorem RowsN.len {k : Nat} {rows : List Rw} {l : Li} (h : RowsN k rows l) : rows.length = l.length := by
  have := congrArg List.length h.texts
  simpa using this
theorem RowsN.nth {k : Nat} {rows : List Rw} {l : Li} (h : RowsN k rows l) {i : Nat} (hi : i < l.length) : ∃ x p, rows[i]? = some (x, strOfNums p) ∧ l[i]? = some p ∧ (∀ y ∈ p, 0 ≤ y ∧ y ≤ 255) ∧ 1 ≤ x ∧ x ≤ (k : Int) := by
  have hlr : i < rows.length := by rw [h.len]; exact hi
  have hr : rows[i]? = some rows[i] := List.getElem?_eq_getElem hlr
  have hp : l[i]? = some l[i] := List.getElem?_eq_getElem hi
  have ht := congrArg (fun (z : List ByteArray) => z[i]?) h.texts
  simp only [List.getElem?_map, hr, hp, Option.map_some, Option.some.injEq] at ht
  refine ⟨rows[i].1, l[i], ?_, hp, h.bytes _ (List.getElem_mem hi), h.keys _ (List.getElem_mem _)⟩
  rw [hr, ← ht]
theorem flight_any (T : Nat) (p : Option Addr) (w : World) (h : Blk w T 50 #[.pointer p]) :
    Calls Try.prog 22 #[.pointer (some ⟨T, 0, none⟩)] w fun e w' => e = .returned (.pointer p) ∧ w' = w := by
  have X := h.cell 0
  go_enter Try.func22, Try.ntmps22
  go_wp2_with fail
  go_ret
  exact ⟨rfl, rfl⟩
theorem flight_nil (w : World) :
    Calls Try.prog 22 #[.pointer none] w fun e w' => e = .returned (.pointer none) ∧ w' = w := by
  go_enter Try.func22, Try.ntmps22
  go_wp2_with fail
  go_ret
  exact ⟨rfl, rfl⟩
theorem lenN (T tb : Nat) (t : Tr) (w : World) (h : Blk w T 50 #[.pointer (some ⟨tb, 0, none⟩)]) (ht : IsTab w tb t) :
    Calls Try.prog 19 #[.pointer (some ⟨T, 0, none⟩)] w fun e w' => e = .returned (.int .i64 (t.len : Int)) ∧ w' = w := by
  have H1 := Lib.hid (flight_any T _ w h)
  have H2 := Lib.hid (len_any tb t w ht)
  clear h ht
  go_enter Try.func19, Try.ntmps19
  go_wp2_with fail
  refine H1.out.mono ?_
  rintro e w' ⟨rfl, hw⟩
  rw [hw]; clear hw w'
  go_wp2_with fail
  refine H2.out.mono ?_
  rintro e w' ⟨rfl, hw⟩
  rw [hw]; clear hw w'
  go_wp2
  go_ret
  exact ⟨rfl, rfl⟩
theorem lenN_nil (w : World) :
    Calls Try.prog 19 #[.pointer none] w fun e w' => e = .returned (.int .i64 0) ∧ w' = w := by
  have H1 := Lib.hid (flight_nil w)
  have H2 := Lib.hid (len_nil w)
  go_enter Try.func19, Try.ntmps19
  go_wp2_with fail
  refine H1.out.mono ?_
  rintro e w' ⟨rfl, hw⟩
  rw [hw]; clear hw w'
  go_wp2_with fail
  refine H2.out.mono ?_
  rintro e w' ⟨rfl, hw⟩
  rw [hw]; clear hw w'
  go_wp2
  go_ret
  exact ⟨rfl, rfl⟩
/-- A text's bytes. -/
theorem conv_s (w : World) (l : List Int) : (convert 9 31 (.string (strOfNums l))).run Try.prog w = .ok (.slice (some ⟨w.heap.size, 0, none⟩) l.length (grownCap w l.length 0 5)) (Lib.bytesWorld w 5 (strOfNums l)) := by
  have := Lib.run_convert_string_bytes (P := Try.prog) w 9 31 5 (strOfNums l) (u := .string) Try.underlying9 Try.underlying31 Try.underlying5
  rw [show (strOfNums l).size = l.length by simp [strOfNums, ByteArray.size]] at this
  exact this
set_option maxRecDepth 100000 in
theorem atN_any (kc T tb : Nat) (t : Tr) (l : Li) (i : Int) (w : World) (h : Blk w T 50 #[.pointer (some ⟨tb, 0, none⟩)]) (ht : IsTab w tb t) (hl : RowsN kc t.rows l) :
    Calls Try.prog 12 #[.pointer (some ⟨T, 0, none⟩), .int .i64 i] w fun e w' => ∃ v, e = .returned (.tuple #[v, .bool (inN l i)]) ∧ OwnR w' w.heap.size v (atN l i) ∧ Below w.heap.size w w' := by
  have hn : t.len = l.length := hl.len
  have H1 := Lib.hid (flight_any T _ w h)
  have H2 := Lib.hid (nth_any tb t i w ht (by have := hl.few; omega))
  have H3 := Lib.hid (fun k => get_any tb t k w ht)
  by_cases hi : inN l i = true
  · obtain ⟨j, rfl, hj⟩ := inN_iff.1 hi
    obtain ⟨x, p, hx, hp, hb, hx1, hx2⟩ := hl.nth hj
    have hat : atN l (j : Int) = p := by unfold atN; rw [if_pos hi, Int.toNat_natCast, List.getD_eq_getElem?_getD, hp]; rfl
    have hun := (at_nth ht.2.2 hx).2
    have hc : (0 : Int) ≤ (j : Int) ∧ (j : Int) < (t.len : Int) := by omega
    rw [if_pos hc, decide_eq_true hc, Int.toNat_natCast, hx] at H2
    have HG := Lib.hid (H3.out x)
    rw [hun] at HG
    have HCv := Lib.hid (conv_s w p)
    have HOc := Lib.hid (OwnR.conv w p hb)
    rw [hi, hat]
    clear h ht hl H3 hun hx hp hb hat hn hc hi
    go_enter Try.func12, Try.ntmps12
    go_wp2_with fail
    refine H1.out.mono ?_
    rintro e w' ⟨rfl, hw⟩
    rw [hw]; clear hw w'
    go_wp2_with fail
    refine H2.out.mono ?_
    rintro e w' ⟨rfl, hw⟩
    rw [hw]; clear hw w'
    go_wp2_with fail
    refine H1.out.mono ?_
    rintro e w' ⟨rfl, hw⟩
    rw [hw]; clear hw w'
    go_wp2_with fail
    refine HG.out.mono ?_
    rintro e w' ⟨rfl, hw⟩
    rw [hw]; clear hw w'
    have cv := HCv.out
    go_wp2
    go_ret2
    exact ⟨_, rfl, HOc.out.1, HOc.out.2⟩
  · have hi' : inN l i = false := by simpa using hi
    have hat : atN l i = [] := by unfold atN; rw [if_neg hi]
    have hc : ¬ ((0 : Int) ≤ i ∧ i < (t.len : Int)) := by
      intro hc
      exact hi (by unfold inN; rw [decide_eq_true_eq]; omega)
    rw [if_neg hc, decide_eq_false hc] at H2
    rw [hi', hat]
    clear h ht hl H3 hi hi' hat hn hc
    go_enter Try.func12, Try.ntmps12
    go_wp2_with fail
    refine H1.out.mono ?_
    rintro e w' ⟨rfl, hw⟩
    rw [hw]; clear hw w'
    go_wp2_with fail
    refine H2.out.mono ?_
    rintro e w' ⟨rfl, hw⟩
    rw [hw]; clear hw w'
    go_wp2
    go_ret2
    exact ⟨_, rfl, OwnR.nil_ _ _, Below.refl _ _⟩
end Go.Proofs.Ytcjfammfplcigaa.Pk
