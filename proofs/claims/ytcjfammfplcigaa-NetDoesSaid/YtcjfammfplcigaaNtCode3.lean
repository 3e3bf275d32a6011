/- Package net: New, Take, Double; a nil net. -/
import Derived.Test.YtcjfammfplcigaaNtCode2
namespace Go.Proofs.Ytcjfammfplcigaa.Pk
open Go.RowKit Go.Shelf Go.Proofs.Ytcjfammfplcigaa.Tb Go.Proofs.Ytcjfammfplcigaa.Nt
set_option linter.unusedVariables false
theorem atN_bytes {l : Li} (h : Bys l) (i : Int) : ∀ y ∈ atN l i, 0 ≤ y ∧ y ≤ 255 := by
  by_cases hi : inN l i = true
  · exact h _ (atN_mem hi)
  · unfold atN; rw [if_neg hi]; intro y hy; cases hy
theorem newQ (w : World) : Calls Try.prog 9 #[] w fun e w' => ∃ T tb, e = .returned (.pointer (some ⟨T, 0, none⟩)) ∧ Blk w' T 50 #[.pointer (some ⟨tb, 0, none⟩)] ∧ IsTab w' tb .leaf ∧ Below w.heap.size w w' ∧ w.heap.size ≤ T ∧ w.heap.size ≤ tb := by
  have H := Lib.hid (fun w1 => new_any w1)
  go_enter Try.func9, Try.ntmps9
  go_wp2_with fail
  refine (H.out _).mono ?_
  rintro e w1 ⟨tb, rfl, htb, ht, hb⟩
  have HT := Lib.hid ht
  have HB := Lib.hid hb
  have HTb := Lib.hid htb
  clear ht hb htb
  go_wp2
  go_ret
  have hx : Below w1.heap.size w1 (w1.alloc (.cells #[.pointer (some ⟨tb, 0, none⟩)] 50)) := (Below.refl _ _).alloc (Nat.le_refl _) _
  exact ⟨_, tb, rfl, Blk.new w1 _ _, HT.out.below hx, HB.out.trans (hx.mono HB.out.size), HB.out.size, by rw [HTb.out]; exact Nat.le_refl _⟩
set_option maxRecDepth 100000 in
theorem takeQ (kc T tb : Nat) (t : Tr) (l : Li) (i : Int) (w : World) (h : Blk w T 50 #[.pointer (some ⟨tb, 0, none⟩)]) (ht : IsTab w tb t) (hl : RowsN kc t.rows l) :
    Calls Try.prog 14 #[.pointer (some ⟨T, 0, none⟩), .int .i64 i] w fun e w' => ∃ v, e = .returned (.tuple #[v, .bool (inN l i)]) ∧ OwnR w' w.heap.size v (atN l i) ∧
      ∃ t', Blk w' T 50 #[.pointer (some ⟨tb, 0, none⟩)] ∧ IsTab w' tb t' ∧ RowsN kc t'.rows (takeN l i) ∧ Turned (fun b => b = tb) w w' ∧ (∀ b, t'.has b → t.has b ∨ w.heap.size ≤ b) ∧ ∀ g, v.ownBlock = some g → ¬ t'.has g := by
  have hn : t.len = l.length := hl.len
  have HA := Lib.hid (atN_any kc T tb t l i w h ht hl)
  have HT := Lib.hid h
  have HI := Lib.hid ht
  have HL := Lib.hid hl
  have HN := Lib.hid (net_ne h ht)
  have hlt := h.lt
  have hlb := ht.1.lt
  by_cases hi : inN l i = true
  · obtain ⟨j, rfl, hj⟩ := inN_iff.1 hi
    obtain ⟨x, p, hx, hp, hby, hx1, hx2⟩ := hl.nth hj
    have hc : (0 : Int) ≤ (j : Int) ∧ (j : Int) < (t.len : Int) := by omega
    have HF := Lib.hid (fun w2 (hb : Below w.heap.size w w2) => flight_any T _ w2 (h.below hb hlt))
    have HNt : Hid (∀ w2, Below w.heap.size w w2 → Calls Try.prog 23 #[.pointer (some ⟨tb, 0, none⟩), .int .i64 (j : Int)] w2 fun e w' => e = .returned (.tuple #[.int .i64 x, .bool true]) ∧ w' = w2) := Lib.hid (fun w2 hb => by
      have := nth_any tb t (j : Int) w2 (ht.below hb) (by have := hl.few; omega)
      rw [if_pos hc, decide_eq_true hc, Int.toNat_natCast, hx] at this
      exact this)
    have HDl := Lib.hid (fun w2 (hb : Below w.heap.size w w2) => delete_tree tb t x w2 (ht.below hb) (by have := hl.few; omega))
    have HDr : Hid (del x t.rows = t.rows.eraseIdx j) := Lib.hid (del_nth ht.2.2 hx)
    have HTk : Hid (takeN l (j : Int) = l.eraseIdx j) := Lib.hid (by unfold takeN; rw [if_pos hi, Int.toNat_natCast])
    rw [hi] at HA ⊢
    clear h ht hl hx hp hby hc hi
    go_enter Try.func14, Try.ntmps14
    go_wp2_with fail
    refine HA.out.mono ?_
    rintro e w2 ⟨v, rfl, ho, hb⟩
    have HO := Lib.hid ho
    have HB := Lib.hid hb
    clear ho hb
    go_wp2_with fail
    refine (HF.out w2 HB.out).mono ?_
    rintro e w' ⟨rfl, hw⟩
    rw [hw]; clear hw w'
    go_wp2_with fail
    refine (HNt.out w2 HB.out).mono ?_
    rintro e w' ⟨rfl, hw⟩
    rw [hw]; clear hw w'
    go_wp2_with fail
    refine (HF.out w2 HB.out).mono ?_
    rintro e w' ⟨rfl, hw⟩
    rw [hw]; clear hw w'
    go_wp2_with fail
    refine (HDl.out w2 HB.out).mono ?_
    rintro e w3 ⟨rfl, t2, ht2, hr2, htn, hx2⟩
    have HZ : Hid (OwnR w3 w.heap.size v (atN l (j : Int)) ∧ ∃ t', Blk w3 T 50 #[.pointer (some ⟨tb, 0, none⟩)] ∧ IsTab w3 tb t' ∧ RowsN kc t'.rows (takeN l (j : Int)) ∧ Turned (fun b => b = tb) w w3 ∧ (∀ b, t'.has b → t.has b ∨ w.heap.size ≤ b) ∧ ∀ g, v.ownBlock = some g → ¬ t'.has g) := Lib.hid (by
      refine ⟨HO.out.stay fun g hg => htn.block g (owr_ltP HO.out g hg) (fun e => by have := owr_base HO.out g hg; omega), t2, ?_, ht2, ?_, ?_, ?_, ?_⟩
      · exact (htn.block T (Nat.lt_of_lt_of_le hlt HB.out.size) HN.out).trans (HT.out.below HB.out hlt)
      · rw [hr2, HDr.out, HTk.out]; exact HL.out.take j
      · exact (Turned.of HB.out (Nat.le_refl _) _).trans htn (fun _ _ h => h)
      · intro b hb
        rcases hx2 b hb with h | h
        · exact .inl h
        · exact .inr (Nat.le_trans HB.out.size h)
      · intro g hg hh
        have h1 := owr_base HO.out g hg
        have h2 := owr_ltP HO.out g hg
        rcases hx2 g hh with h | h
        · have := HI.out.2.1.lt g h; omega
        · omega)
    clear ht2 hr2 htn hx2
    go_wp2
    go_ret2
    exact ⟨v, rfl, HZ.out⟩
  · have hi' : inN l i = false := by simpa using hi
    have htk : takeN l i = l := by unfold takeN; rw [if_neg hi]
    rw [hi'] at HA ⊢
    rw [htk]
    clear h ht hl hi hi' htk
    go_enter Try.func14, Try.ntmps14
    go_wp2_with fail
    refine HA.out.mono ?_
    rintro e w2 ⟨v, rfl, ho, hb⟩
    have HO := Lib.hid ho
    have HB := Lib.hid hb
    clear ho hb
    go_wp2
    go_ret2
    exact ⟨v, rfl, HO.out, t, HT.out.below HB.out hlt, HI.out.below HB.out, HL.out, Turned.of HB.out (Nat.le_refl _) _, fun b hb => .inl hb, fun g hg hh => by have := HI.out.2.1.lt g hh; have := owr_base HO.out g hg; omega⟩
set_option maxRecDepth 100000 in
theorem doubleQ (kc T tb : Nat) (t : Tr) (l : Li) (i : Int) (w : World) (h : Blk w T 50 #[.pointer (some ⟨tb, 0, none⟩)]) (ht : IsTab w tb t) (hl : RowsN kc t.rows l) (hk : kc < KM) :
    Calls Try.prog 17 #[.pointer (some ⟨T, 0, none⟩), .int .i64 i] w fun e w' => e = .returned (.bool (dblB l i)) ∧ AftQ (kc + 1) T tb t (dblN l i) w w' := by
  have HA := Lib.hid (atN_any kc T tb t l i w h ht hl)
  have HT := Lib.hid h
  have HI := Lib.hid ht
  have HL := Lib.hid hl
  have hlt := h.lt
  have HS := Lib.hid (fun A n c w2 (hb : Below w.heap.size w w2) (hr : Reads w2 w2.heap.size 1 A n (bts (atN l i))) => sendQ kc T tb t l A n c (atN l i) w2 (h.below hb hlt) (ht.below hb) hl hk hr (atN_bytes hl.bytes i))
  by_cases hi : inN l i = true
  · have hd : dblN l i = sendN l (atN l i) := if_pos hi
    have hb : dblB l i = decide (l.length < 512) := by unfold dblB; rw [hi]; simp
    rw [hd, hb]
    rw [hi] at HA
    clear h ht hl hi hd hb
    go_enter Try.func17, Try.ntmps17
    go_wp2_with fail
    refine HA.out.mono ?_
    rintro e w2 ⟨v, rfl, ho, hb⟩
    obtain ⟨A, n, c, rfl⟩ := owr_slice ho
    have HO := Lib.hid ho
    have HB := Lib.hid hb
    clear ho hb
    go_wp2_with fail
    refine (HS.out A n c w2 HB.out (owr_reads HO.out)).mono ?_
    rintro e w3 ⟨rfl, t2, k1, k2, k3, k4, k5⟩
    have HZ : Hid (AftQ (kc + 1) T tb t (sendN l (atN l i)) w w3) := Lib.hid ⟨t2, k1, k2, k3, (Turned.of HB.out (Nat.le_refl _) _).trans k4 (fun _ _ h => h), fun b hb => (k5 b hb).elim .inl (fun h => .inr (Nat.le_trans HB.out.size h))⟩
    clear k1 k2 k3 k4 k5
    go_wp2
    go_ret
    exact ⟨rfl, HZ.out⟩
  · have hi' : inN l i = false := by simpa using hi
    have hd : dblN l i = l := if_neg hi
    have hb : dblB l i = false := by unfold dblB; rw [hi']; simp
    rw [hd, hb]
    rw [hi'] at HA
    clear h ht hl hi hi' hd hb
    go_enter Try.func17, Try.ntmps17
    go_wp2_with fail
    refine HA.out.mono ?_
    rintro e w2 ⟨v, rfl, ho, hb⟩
    have HB := Lib.hid hb
    clear ho hb
    go_wp2
    go_ret
    exact ⟨rfl, t, HT.out.below HB.out hlt, HI.out.below HB.out, HL.out.up (by omega), Turned.of HB.out (Nat.le_refl _) _, fun b hb => .inl hb⟩
theorem nth_nilAny (i : Int) (w : World) : Calls Try.prog 23 #[.pointer none, .int .i64 i] w fun e w' => e = .returned (.tuple #[.int .i64 0, .bool false]) ∧ w' = w := by
  have H1 := Lib.hid (len_nil w)
  rcases Int.lt_or_le i 0 with h0 | h0
  · go_enter Try.func23, Try.ntmps23
    go_wp2
    go_ret2
    exact ⟨rfl, rfl⟩
  · go_enter Try.func23, Try.ntmps23
    go_wp2_with fail
    refine H1.out.mono ?_
    rintro e w' ⟨rfl, hw⟩
    rw [hw]; clear hw w'
    go_wp2
    go_ret2
    exact ⟨rfl, rfl⟩
theorem at_nilQ (i : Int) (w : World) : Calls Try.prog 12 #[.pointer none, .int .i64 i] w fun e w' => ∃ v, e = .returned (.tuple #[v, .bool false]) ∧ OwnR w' w.heap.size v [] ∧ Below w.heap.size w w' := by
  have H1 := Lib.hid (flight_nil w)
  have H2 := Lib.hid (nth_nilAny i w)
  go_enter Try.func12, Try.ntmps12
  go_wp2_with fail
  refine H1.out.mono ?_
  rintro e w' ⟨rfl, hw⟩
  rw [hw]; clear hw w'
  go_wp2_with fail
  refine H2.out.mono ?_
  rintro e w' ⟨rfl, hw⟩
  rw [hw]; clear hw w'
  go_wp2
  go_ret2
  exact ⟨_, rfl, OwnR.nil_ _ _, Below.refl _ _⟩
theorem take_nilQ (i : Int) (w : World) : Calls Try.prog 14 #[.pointer none, .int .i64 i] w fun e w' => ∃ v, e = .returned (.tuple #[v, .bool false]) ∧ OwnR w' w.heap.size v [] ∧ Below w.heap.size w w' := by
  have H1 := Lib.hid (at_nilQ i w)
  go_enter Try.func14, Try.ntmps14
  go_wp2_with fail
  refine H1.out.mono ?_
  rintro e w2 ⟨v, rfl, ho, hb⟩
  have HO := Lib.hid ho
  have HB := Lib.hid hb
  clear ho hb
  go_wp2
  go_ret2
  exact ⟨v, rfl, HO.out, HB.out⟩
theorem double_nilQ (i : Int) (w : World) : Calls Try.prog 17 #[.pointer none, .int .i64 i] w fun e w' => e = .returned (.bool false) ∧ Below w.heap.size w w' := by
  have H1 := Lib.hid (at_nilQ i w)
  go_enter Try.func17, Try.ntmps17
  go_wp2_with fail
  refine H1.out.mono ?_
  rintro e w2 ⟨v, rfl, ho, hb⟩
  have HB := Lib.hid hb
  clear ho hb
  go_wp2
  go_ret
  exact ⟨rfl, HB.out⟩
end Go.Proofs.Ytcjfammfplcigaa.Pk
