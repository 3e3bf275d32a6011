/- Package net: the calls that turn a net. -/
import Derived.Test.YtcjfammfplcigaaNtCode
import Derived.Deep.RegionHeld3
import Derived.Deep.DeepMust
import Derived.BigRegion
namespace Go.Proofs.Ytcjfammfplcigaa.Pk
open Go.RowKit Go.Shelf Go.Proofs.Ytcjfammfplcigaa.Tb Go.Proofs.Ytcjfammfplcigaa.Nt
set_option linter.unusedVariables false
theorem RowsN.up {k k' : Nat} {rows : List Rw} {l : Li} (h : RowsN k rows l) (hk : k ≤ k') : RowsN k' rows l := ⟨h.texts, h.bytes, fun r hr => ⟨(h.keys r hr).1, by have := (h.keys r hr).2; omega⟩, h.few⟩
/-- The number of the last one, 0 if there is none. -/
def lastK (rows : List Rw) : Int := if 0 ≤ (rows.length : Int) - 1 ∧ (rows.length : Int) - 1 < (rows.length : Int) then ((rows[((rows.length : Int) - 1).toNat]?.map (·.1)).getD 0) else 0
theorem lastK_most {rows : List Rw} (hR : Rises rows) : ∀ y ∈ rows, y.1 < lastK rows + 1 := by
  intro y hy
  have hpos : 0 < rows.length := List.length_pos_of_mem hy
  unfold lastK
  rw [if_pos ⟨by omega, by omega⟩, show ((rows.length : Int) - 1).toNat = rows.length - 1 by omega]
  have hg : rows[rows.length - 1]? = some rows[rows.length - 1] := List.getElem?_eq_getElem (by omega)
  have := last_most hR (k := rows[rows.length - 1].1) (v := rows[rows.length - 1].2) hg y hy
  rw [hg]
  simp
  omega
theorem RowsN.last_ {k : Nat} {rows : List Rw} {l : Li} (h : RowsN k rows l) : 0 ≤ lastK rows ∧ lastK rows ≤ (k : Int) := by
  unfold lastK
  split
  · rename_i hc
    have hlt : rows.length - 1 < rows.length := by omega
    rw [show ((rows.length : Int) - 1).toNat = rows.length - 1 by omega]
    have hg : rows[rows.length - 1]? = some rows[rows.length - 1] := List.getElem?_eq_getElem hlt
    rw [hg]
    have := h.keys _ (List.getElem_mem hlt)
    simp
    omega
  · omega
theorem send_few_ {l : Li} (h : l.length < 512) {x : List Int} : sendN l x = l ++ [x] := if_pos h
theorem RowsN.send {k : Nat} {rows : List Rw} {l : Li} (h : RowsN k rows l) (hR : Rises rows) (hl : l.length < 512) {x : List Int} (hx : ∀ y ∈ x, 0 ≤ y ∧ y ≤ 255) : RowsN (k + 1) (ins (lastK rows + 1) (strOfNums x) rows) (sendN l x) := by
  rw [ins_end (lastK_most hR), send_few_ hl]
  refine ⟨by simp [h.texts], ?_, ?_, by simp; omega⟩
  · intro y hy
    rcases List.mem_append.1 hy with hy | hy
    · exact h.bytes y hy
    · obtain rfl : y = x := by simpa using hy
      exact hx
  · intro r hr
    rcases List.mem_append.1 hr with hr | hr
    · have := h.keys r hr; omega
    · obtain rfl : r = (lastK rows + 1, strOfNums x) := by simpa using hr
      have := h.last_
      simp
      omega
theorem map_erase {α β : Type} (f : α → β) (l : List α) (i : Nat) : (l.eraseIdx i).map f = (l.map f).eraseIdx i := by
  simp [List.eraseIdx_eq_take_drop_succ, List.map_take, List.map_drop]
theorem RowsN.take {k : Nat} {rows : List Rw} {l : Li} (h : RowsN k rows l) (i : Nat) : RowsN k (rows.eraseIdx i) (l.eraseIdx i) := by
  refine ⟨?_, fun y hy => h.bytes y (List.mem_of_mem_eraseIdx hy), fun r hr => h.keys r (List.mem_of_mem_eraseIdx hr), Nat.le_trans (List.length_eraseIdx_le ..) h.few⟩
  have := h.texts
  rw [map_erase, map_erase, this]
theorem net_ne {w : World} {T tb : Nat} {t : Tr} (h : Blk w T 50 #[.pointer (some ⟨tb, 0, none⟩)]) (ht : IsTab w tb t) : T ≠ tb := by
  intro e
  subst e
  have h1 := ht.1
  unfold Blk at h h1
  rw [h] at h1
  injection h1 with h1
  injection h1 with _ h1
  exact absurd h1 (by decide)
/-- What a call that may turn a net leaves. -/
def AftQ (kc : Nat) (T tb : Nat) (t : Tr) (l' : Li) (w w' : World) : Prop :=
  ∃ t', Blk w' T 50 #[.pointer (some ⟨tb, 0, none⟩)] ∧ IsTab w' tb t' ∧ RowsN kc t'.rows l' ∧ Turned (fun b => b = tb) w w' ∧ ∀ b, t'.has b → t.has b ∨ w.heap.size ≤ b
theorem wrap_in {k : Int} (h1 : -9223372036854775808 ≤ k) (h2 : k ≤ 9223372036854775807) : IntKind.i64.wrap k = k := IntWalk.i64_in _ (by omega)
set_option maxRecDepth 100000 in
set_option maxHeartbeats 2000000 in
theorem sendQ (kc T tb : Nat) (t : Tr) (l : Li) (A : Option Addr) (n c : Nat) (x : List Int) (w : World) (h : Blk w T 50 #[.pointer (some ⟨tb, 0, none⟩)]) (ht : IsTab w tb t) (hl : RowsN kc t.rows l) (hk : kc < KM) (hr : Reads w w.heap.size 1 A n (bts x)) (hx : ∀ y ∈ x, 0 ≤ y ∧ y ≤ 255) :
    Calls Try.prog 10 #[.pointer (some ⟨T, 0, none⟩), .slice A n c] w fun e w' => e = .returned (.bool (decide (l.length < 512))) ∧ AftQ (kc + 1) T tb t (sendN l x) w w' := by
  have hn : t.len = l.length := hl.len
  have H1 := Lib.hid (fun q => flight_any T _ (w.drewN q) (h.drewN q))
  have HLn := Lib.hid (lenN T tb t w h ht)
  by_cases hf : l.length < 512
  · have H2 := Lib.hid (nth_any tb t ((t.len : Int) - 1) w ht (by omega))
    have hlk : (if 0 ≤ (t.len : Int) - 1 ∧ (t.len : Int) - 1 < (t.len : Int) then ((t.rows[((t.len : Int) - 1).toNat]?.map (·.1)).getD 0) else 0) = lastK t.rows := rfl
    rw [hlk] at H2
    obtain ⟨k, hk1⟩ : ∃ k, k = lastK t.rows := ⟨_, rfl⟩
    have hkb := hl.last_
    rw [← hk1] at H2 hkb
    have HPt := Lib.hid (fun q => put_tree tb t (k + 1) (strOfNums x) (by have : KM = 4611686018427387904 := rfl; omega) (w.drewN q) (ht.below (below_drewN (Below.refl _ _) q)) (by omega))
    have HKb : Hid (k + 1 ≤ 9223372036854775807 ∧ -9223372036854775808 ≤ k + 1) := Lib.hid (by have : KM = 4611686018427387904 := rfl; omega)
    have HAt : Hid (at_ (k + 1) t.rows = none) := Lib.hid (at_end (by rw [hk1]; exact lastK_most ht.2.2))
    have HRn := Lib.hid (hl.send ht.2.2 hf hx)
    rw [← hk1] at HRn
    rw [hn] at H2 HLn
    have HTl := Lib.hid h
    have HTT := Lib.hid (net_ne h ht)
    have cv := fun q => conv_b (hr.drewN q) c
    have HKM : Hid (kc < 4611686018427387904) := Lib.hid hk
    have tf : decide (l.length < 512) = true := decide_eq_true hf
    rw [tf]
    clear h ht hl hlk hk1 hk hr hx tf hn
    go_enter Try.func10, Try.ntmps10
    go_wp2_with fail
    refine HLn.out.mono ?_
    rintro e w' ⟨rfl, hw⟩
    rw [hw]; clear hw w'
    go_wp2_with fail
    refine (H1.out 0).mono ?_
    rintro e w' ⟨rfl, hw⟩
    rw [hw]; clear hw w'
    go_wp2_with fail
    refine HLn.out.mono ?_
    rintro e w' ⟨rfl, hw⟩
    rw [hw]; clear hw w'
    have ov : ∀ y : Int, 0 ≤ y → y ≤ (kc : Int) → y + 1 ≤ 9223372036854775807 := fun y _ h2 => by have := HKM.out; omega
    have e1 := hkb.1
    have e2 := ov k hkb.1 hkb.2
    go_wp2_with fail
    refine H2.out.mono ?_
    rintro e w' ⟨rfl, hw⟩
    rw [hw]; clear hw w'
    go_wp2_with fail
    clear e1 e2 ov hkb
    have kov : k + 1 ≤ 9223372036854775807 ∧ -9223372036854775808 ≤ k + 1 := HKb.out
    refine wp_region_noPanic ?_
    have cv1 := cv 1
    have hwr : IntKind.i64.wrap (k + 1) = k + 1 := wrap_in (by omega) (by omega)
    refine (wpIn_wide (n := 9)).1 ?_
    refine wpIn_region_any (by kernel_rfl) ?_
    change wpAnyIn _ _ _ _ _ _ _ _ _ (World.drewN w 1)
    refine take_lit (i := 0) rfl rfl rfl (by kernel_rfl) (by kernel_rfl) (by kernel_rfl) (fun _ _ _ h => h) ⟨Or.inl ⟨by rfl, fun _ => rfl⟩, fun _ => rfl⟩ (by simp only [List.setIfInBounds_toArray, List.set_cons_succ, List.set_cons_zero]; first | done | rfl) ?_
    refine take_lit (i := 2) rfl rfl rfl (by kernel_rfl) (by kernel_rfl) (by kernel_rfl) (fun _ _ _ h => h) ⟨Or.inl ⟨by rfl, fun _ => rfl⟩, fun _ => rfl⟩ (by simp only [List.setIfInBounds_toArray, List.set_cons_succ, List.set_cons_zero]; first | done | rfl) ?_
    refine take_lit (i := 3) (v := ?_) rfl rfl rfl (by kernel_rfl) (by kernel_rfl) (by kernel_rfl) (fun _ _ _ h => h) ⟨Or.inl ⟨by rfl, ?_⟩, fun _ => rfl⟩ rfl ?_
    rotate_left
    · intro w; go_simp; first | done | with_reducible rfl
    simp only [List.setIfInBounds_toArray, List.set_cons_succ, List.set_cons_zero]
    refine take_lit (i := 4) rfl rfl rfl (by kernel_rfl) (by kernel_rfl) (by kernel_rfl) (fun _ _ _ h => h) ⟨Or.inl ⟨by rfl, fun _ => rfl⟩, fun _ => rfl⟩ (by simp only [List.setIfInBounds_toArray, List.set_cons_succ, List.set_cons_zero]; first | done | rfl) ?_
    refine wpAnyIn_ready (rs := [1, 5]) (by kernel_rfl) (by simp) (AllReadyIn.cons rfl (fun K hK => ?_) (AllReadyIn.cons rfl (fun K hK => ?_) AllReadyIn.nil))
    · go_simp
      refine ⟨trivial, (callsIn_wide.2 (H1.out 1)).mono ?_⟩
      rintro e w' ⟨rfl, hw⟩
      rw [hw]; clear hw w'
      refine hK _ _ ?_
      clear hK K
      refine wpAnyIn_ready (rs := [5]) (by kernel_rfl) (by simp) (AllReadyIn.cons rfl (fun K hK => ?_) AllReadyIn.nil)
      go_simp
      refine hK _ _ ?_
      clear hK K
      refine wpAnyIn_ready (rs := [6]) (by kernel_rfl) (by simp) (AllReadyIn.cons rfl (fun K hK => ?_) AllReadyIn.nil)
      go_simp
      refine ⟨trivial, (callsIn_wide.2 (HPt.out 1)).mono ?_⟩
      rintro e w2 ⟨rfl, t2, ht2, hr2, htn, hx2⟩
      have HZ : Hid (AftQ (kc + 1) T tb t (sendN l x) w w2) := Lib.hid ⟨t2, (htn.block T HTl.out.lt HTT.out).trans HTl.out, ht2, by rw [hr2]; exact HRn.out, ⟨htn.os, htn.tape, htn.output, htn.size, htn.block⟩, hx2⟩
      clear ht2 hr2 htn hx2
      rw [HAt.out]
      refine hK _ _ ?_
      clear hK K
      refine take_lit (i := 7) rfl rfl rfl (by kernel_rfl) (by kernel_rfl) (by kernel_rfl) (fun _ _ _ h => h) ⟨Or.inl ⟨by rfl, fun _ => rfl⟩, fun _ => rfl⟩ (by simp only [List.setIfInBounds_toArray, List.set_cons_succ, List.set_cons_zero]; first | done | rfl) ?_
      refine wpAnyIn_done (by kernel_rfl) ?_ _
      refine NoPanic.normal ?_
      go_wp2
      go_ret
      exact ⟨rfl, HZ.out⟩
    · go_simp
      refine hK _ _ ?_
      clear hK K
      refine wpAnyIn_ready (rs := [1]) (by kernel_rfl) (by simp) (AllReadyIn.cons rfl (fun K hK => ?_) AllReadyIn.nil)
      go_simp
      refine ⟨trivial, (callsIn_wide.2 (H1.out 1)).mono ?_⟩
      rintro e w' ⟨rfl, hw⟩
      rw [hw]; clear hw w'
      refine hK _ _ ?_
      clear hK K
      refine wpAnyIn_ready (rs := [6]) (by kernel_rfl) (by simp) (AllReadyIn.cons rfl (fun K hK => ?_) AllReadyIn.nil)
      go_simp
      refine ⟨trivial, (callsIn_wide.2 (HPt.out 1)).mono ?_⟩
      rintro e w2 ⟨rfl, t2, ht2, hr2, htn, hx2⟩
      have HZ : Hid (AftQ (kc + 1) T tb t (sendN l x) w w2) := Lib.hid ⟨t2, (htn.block T HTl.out.lt HTT.out).trans HTl.out, ht2, by rw [hr2]; exact HRn.out, ⟨htn.os, htn.tape, htn.output, htn.size, htn.block⟩, hx2⟩
      clear ht2 hr2 htn hx2
      rw [HAt.out]
      refine hK _ _ ?_
      clear hK K
      refine take_lit (i := 7) rfl rfl rfl (by kernel_rfl) (by kernel_rfl) (by kernel_rfl) (fun _ _ _ h => h) ⟨Or.inl ⟨by rfl, fun _ => rfl⟩, fun _ => rfl⟩ (by simp only [List.setIfInBounds_toArray, List.set_cons_succ, List.set_cons_zero]; first | done | rfl) ?_
      refine wpAnyIn_done (by kernel_rfl) ?_ _
      refine NoPanic.normal ?_
      go_wp2
      go_ret
      exact ⟨rfl, HZ.out⟩
  · have tf : decide (l.length < 512) = false := decide_eq_false hf
    rw [tf, show sendN l x = l from if_neg hf]
    rw [hn] at HLn
    have HZ : Hid (AftQ (kc + 1) T tb t l w w) := Lib.hid ⟨t, h, ht, hl.up (by omega), Turned.refl _ _, fun b hb => .inl hb⟩
    clear h ht hl hk hr hx tf hn
    go_enter Try.func10, Try.ntmps10
    go_wp2_with fail
    refine HLn.out.mono ?_
    rintro e w' ⟨rfl, hw⟩
    rw [hw]; clear hw w'
    go_wp2
    go_ret
    exact ⟨rfl, HZ.out⟩
end Go.Proofs.Ytcjfammfplcigaa.Pk
