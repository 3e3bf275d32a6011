/- The walk of the law CrcKeeps: what is handed in stays and isn't kept. -/
import Derived.Test.YtkpdifepecpagaaDoorCrcParts
import Derived.Test.YtkpdifepecpagaaDoorHold
import Derived.Test.YtkpdifepecpagaaDoorArgs
import Derived.Deep.QuietTactic
import Derived.BigQuiet
import Derived.Deep.RegionHeld3
import Derived.Deep.DeepMust
import Derived.Laws.BytesArg
namespace Go.Proofs.YtkpdifepecpagaaDoor.Pk
open Go.RowKit Go.Proofs.YtkpdifepecpagaaDoor.Ar Go.Proofs.YtkpdifepecpagaaDoor.Crc
set_option linter.unusedVariables false

/-- A list of two pieces that was just made. -/
theorem lists_two (w : World) (p q : Piece) (T : TypeId) (hp : p.Ok w w.heap.size) (hq : q.Ok w w.heap.size) : Lists (w.alloc (.cells #[p.val, q.val] T)) (w.heap.size + 1) (some ⟨w.heap.size, 0, none⟩) 2 [p, q] := by
  have ha : ∀ r : Piece, r.Ok w w.heap.size → r.Ok (w.alloc (.cells #[p.val, q.val] T)) (w.heap.size + 1) := fun r hr => ⟨(hr.1.alloc (Nat.le_refl _) _).more (by omega), hr.2⟩
  refine ⟨reads_new w _ T _ 2 _ rfl rfl (by omega), fun r hr => ?_⟩
  simp at hr
  rcases hr with rfl | rfl
  · exact ha _ hp
  · exact ha _ hq
theorem piece_ok {lo hi n c : Nat} {A : Option Addr} {l : List Int} {w : World} (h : Held lo hi (RowI lo hi A n (bts l)) w) (hc : n ≤ c) (hn : n ≤ 9223372036854775807) (hb : Bytes l) : Piece.Ok w w.heap.size ⟨A, n, c, l⟩ := ⟨RowI.reads h, hc, hn, hb⟩
theorem take_app (l : List Int) (x : Int) (n : Nat) (h : l.length = n) : (l ++ [x]).take n = l := by subst h; simp

theorem last_app (l : List Int) (x : Int) (n : Nat) (h : l.length = n) : (l ++ [x]).getD n 0 = x := by subst h; simp
/-- The text of the bytes that a slice reads as. -/
theorem conv_b {w : World} {B n : Nat} {A : Option Addr} {l : List Int} (h : Reads w B 1 A n (bts l)) (c : Nat) : (convert 23 9 (.slice A n c)).run Tryd.prog w = .ok (.string (strOfNums l)) w := by
  have hlen : l.length = n := by have := h.1; simp at this; exact this
  rcases A with _ | ad
  · have h0 := h.nil rfl
    subst h0
    obtain rfl : l = [] := List.length_eq_zero_iff.1 hlen
    exact run_convert_bytes_nil w 23 5 Tryd.underlying23 Tryd.underlying5 0 c 9 Tryd.underlying9
  · have hl : (loadCells ad n).run Tryd.prog w = .ok (l.map (Value.int .u8)).toArray w := by
      have := run_loadCells_list (P := Tryd.prog) w ad (l.map (Value.int .u8)) (fun j v hj => by
        have hjn : 0 < n := by
          rcases Nat.eq_zero_or_pos n with h1 | h1
          · obtain rfl : l = [] := List.length_eq_zero_iff.1 (by omega)
            simp at hj
          · exact h1
        obtain ⟨ad', e, _, hc⟩ := h.2 hjn
        injection e with e
        subst e
        exact hc j v hj)
      simpa [hlen] using this
    rw [run_convert_bytes_string w 23 9 5 _ n c Tryd.underlying23 Tryd.underlying5 Tryd.underlying9, run_bytesToString w _ n c l hl, foldl_push_bytes]
    simp [strOfNums, ByteArray.empty, ByteArray.emptyWithCapacity]
    rfl

set_option maxRecDepth 100000 in
set_option maxHeartbeats 4000000 in
theorem law_CrcKeeps (a : Option Addr) (n c : Nat) (l : List Int) (b : Option Addr) (m d : Nat) (r : List Int) (w : World) (ht : Tab w) (h : ArgB w a n c l) (h' : ArgB w b m d r) :
    Calls Tryd.prog 7 #[.slice a n c, .slice b m d] w fun e w' => e = .returned (.bool true) ∧ Below w.heap.size w w' := by
  obtain ⟨hr, hnc, hc, hB⟩ := h
  obtain ⟨hr', hmd, hd, hB'⟩ := h'
  have HB : Hid (Bytes l) := hB
  have HB' : Hid (Bytes r) := hB'
  have HL : Hid (l.length = n) := by have := hr.1; simp at this; exact this
  have HL' : Hid (r.length = m) := by have := hr'.1; simp at this; exact this
  have hA := RowI.of hr
  have hA' := RowI.of hr'
  have HT := Lib.hid ht
  clear hB hr hB' hr' ht
  go_enter Tryd.func7, Tryd.ntmps7
  go_wp2_with fail
  refine (wakes_any w HT.out).mono ?_
  rintro e w1 ⟨rfl, hb1⟩
  replace hA := hA.below hb1
  replace hA' := hA'.below hb1
  have s1 := hb1.size
  have bel := hb1
  go_wp2_with (first
    | (at_builtin; refine appE w1 rfl (.tmp 12) (.tmp 13) rfl w1.heap.size rfl w1.heap.size a c l n rfl (RowI.reads hA) (Nat.le_refl _) (by omega) (Nat.le_refl _) ?_; intro v2 w2 hown2 hb2; have s2 := hb2.size)
    | (at_builtin; refine appB _ rfl (.tmp 14) (.tmp 15) rfl w1.heap.size v2 l rfl (hown2.alloc _) (w2.heap.size + 1) _ 1 [7] 1 rfl (reads_new w2 _ _ _ 1 (bts [7]) rfl rfl (by omega)) (by have := HL.out; omega) (by simp; omega) ?_; intro v3 w3 hown3 hb3 _ _; obtain ⟨Ax, nx, cx, rfl, hcx, hnx, -⟩ := hown3.val; obtain rfl : nx = n + 1 := (by have := HL.out; rw [← hnx]; simp; omega); have hxA := OwnI.of hown3; have hcx0 : ¬ (cx = 0) := (by omega); have hcx1 : n ≤ cx := (by omega); have hcx2 : (n : Int) ≤ (cx : Int) := (by omega); have hb13 : Below w1.heap.size w1 w3 := (hb2.alloc s2 _).trans hb3; have s3 := hb13.size; replace hA := hA.below hb13; replace hA' := hA'.below hb13; replace bel := bel.trans (hb13.mono bel.size); clear hown2 hb2 hown3 hb3)
    | (at_builtin; refine appE w3 rfl (.tmp 17) (.tmp 18) rfl w3.heap.size rfl w3.heap.size b d r m rfl (RowI.reads hA') (Nat.le_refl _) (by omega) (Nat.le_refl _) ?_; intro v4 w4 hown4 hb4; have s4 := hb4.size)
    | (at_builtin; refine appB _ rfl (.tmp 19) (.tmp 20) rfl w3.heap.size v4 r rfl (hown4.alloc _) (w4.heap.size + 1) _ 1 [8] 1 rfl (reads_new w4 _ _ _ 1 (bts [8]) rfl rfl (by omega)) (by have := HL'.out; omega) (by simp; omega) ?_; intro v5 w5 hown5 hb5 _ _; obtain ⟨Ay, ny, cy, rfl, hcy, hny, -⟩ := hown5.val; obtain rfl : ny = m + 1 := (by have := HL'.out; rw [← hny]; simp; omega); have hyA := OwnI.of hown5; have hcy0 : ¬ (cy = 0) := (by omega); have hcy1 : m ≤ cy := (by omega); have hcy2 : (m : Int) ≤ (cy : Int) := (by omega); have hb35 : Below w3.heap.size w3 w5 := (hb4.alloc s4 _).trans hb5; have s5 := hb35.size; replace hA := hA.below hb35; replace hA' := hA'.below hb35; replace hxA := hxA.below hb35; replace bel := bel.trans (hb35.mono bel.size); clear hown4 hb4 hown5 hb5))
  have hx1 := (OwnI.rowHeld hxA)
  have hy1 := (OwnI.rowHeld hyA)
  have px : Piece.Ok w5 w5.heap.size ⟨Ax, n, cx, l⟩ := by
    have := (RowI.reads hx1).take (k := n) (by omega)
    rw [take_app l 7 n HL.out] at this
    exact ⟨this, by omega, by show n ≤ _; omega, HB.out⟩
  have py : Piece.Ok w5 w5.heap.size ⟨Ay, m, cy, r⟩ := by
    have := (RowI.reads hy1).take (k := m) (by omega)
    rw [take_app r 8 m HL'.out] at this
    exact ⟨this, by omega, by show m ≤ _; omega, HB'.out⟩
  have PX := Lib.hid px
  have PY := Lib.hid py
  clear px py hx1 hy1
  have HT5 := Lib.hid (HT.out.next bel)
  have HP : Hid (Calls Tryd.prog 15 #[.slice (some ⟨w5.heap.size, 0, none⟩) 2 2] (w5.alloc (.cells #[.slice Ax n cx, .slice Ay m cy] 23)).drew fun e w' => e = .returned (.int .u32 (sums 0 [l, r] : Nat)) ∧ Below w5.heap.size w5 w') :=
    Lib.hid ((parts_any _ 2 2 [⟨Ax, n, cx, l⟩, ⟨Ay, m, cy, r⟩] (w5.alloc (.cells #[.slice Ax n cx, .slice Ay m cy] 23)).drew _ (lists_two w5 ⟨Ax, n, cx, l⟩ ⟨Ay, m, cy, r⟩ 23 PX.out PY.out) (by omega) (HT5.out.alloc _)).mono fun e w' ⟨he, hw⟩ => ⟨he, by subst hw; exact below_drewN ((Below.refl _ _).alloc (Nat.le_refl _) _) 1⟩)
  have hsum : sums 0 [l, r] < 4294967296 := crc_lt HB'.out (crc_lt HB.out (by omega))
  obtain ⟨S, hS⟩ : ∃ S, S = sums 0 [l, r] := ⟨_, rfl⟩
  rw [← hS] at HP hsum
  have HS := Lib.hid hS
  clear hS
  go_wp2
  go_region_held3 (fun _ => True) (first | trivial) (first | (go_at_call 15; go_must (refine HP.out.mono ?_; rintro e w6 ⟨rfl, hb6⟩)))
  have s6 := hb6.size
  replace hA := hA.below hb6
  replace hA' := hA'.below hb6
  replace hxA := hxA.below hb6
  replace hyA := hyA.below hb6
  replace bel := bel.trans (hb6.mono bel.size)
  have hx1 := (OwnI.rowHeld hxA)
  have hy1 := (OwnI.rowHeld hyA)
  have px : Reads w6 w6.heap.size 1 Ax n (bts l) := by
    have := (RowI.reads hx1).take (k := n) (by omega)
    rwa [take_app l 7 n HL.out] at this
  have py : Reads w6 w6.heap.size 1 Ay m (bts r) := by
    have := (RowI.reads hy1).take (k := m) (by omega)
    rwa [take_app r 8 m HL'.out] at this
  have HT6 := Lib.hid (HT.out.next bel)
  obtain ⟨S1, hS1⟩ : ∃ S, S = crc 0 l := ⟨_, rfl⟩
  have hsum1 : S1 < 4294967296 := by rw [hS1]; exact crc_lt HB.out (by omega)
  have HQ1 : Hid (∀ q, Calls Tryd.prog 13 #[.slice Ax n cx] (w6.drewN q) fun e w' => e = .returned (.int .u32 (S1 : Nat)) ∧ w' = w6.drewN q) := by
    rw [hS1]
    exact Lib.hid fun q => (sum_any Ax n cx l (w6.drewN q) _ (px.drewN q) (by omega) HB.out (HT6.out.drewN q)).mono fun e w' ⟨he, hw⟩ => ⟨he, hw.symm⟩
  have HQ2 : Hid (∀ q, Calls Tryd.prog 11 #[.int .u32 (S1 : Int), .slice Ay m cy] (w6.drewN q) fun e w' => e = .returned (.int .u32 (S : Nat)) ∧ w' = w6.drewN q) := by
    have e : S = crc S1 r := by rw [HS.out, hS1]; rfl
    rw [e]
    exact Lib.hid fun q => (add_any Ay m cy S1 r (w6.drewN q) _ (py.drewN q) (by omega) HB'.out hsum1 (HT6.out.drewN q)).mono fun e w' ⟨he, hw⟩ => ⟨he, hw.symm⟩
  have PX6 := Lib.hid px
  have PY6 := Lib.hid py
  clear hS1 px py hx1 hy1 PX PY
  go_wp2
  go_quiet ((first | (go_at_call 13; exact Calls.quiet_of_same (HQ1.out _)) | (go_at_call 11; exact Calls.quiet_of_same (HQ2.out _))))
  go_wp2
  obtain ⟨w7, hw7⟩ : ∃ w7, w7 = w6.drewN nq := ⟨_, rfl⟩
  have hm7 : Mod w.heap.size w.heap.size w6 w7 := hw7 ▸ Mod.drawn _ _ w6 nq
  rw [← hw7]
  have s7 := hm7.size
  replace bel := hm7.below bel (by omega) bel.size
  replace hA := hA.mod hm7 (by omega)
  replace hA' := hA'.mod hm7 (by omega)
  replace hxA := hxA.mod hm7 (by omega)
  replace hyA := hyA.mod hm7 (by omega)
  have px7 : Reads w7 w6.heap.size 1 Ax n (bts l) := hw7 ▸ PX6.out.drewN nq
  have py7 : Reads w7 w6.heap.size 1 Ay m (bts r) := hw7 ▸ PY6.out.drewN nq
  obtain ⟨tl, htl⟩ : ∃ t, t = strOfNums l := ⟨_, rfl⟩
  obtain ⟨tr, htr⟩ : ∃ t, t = strOfNums r := ⟨_, rfl⟩
  have k1 : ∀ q, (convert 23 9 (.slice Ax n cx)).run Tryd.prog (w7.drewN q) = .ok (.string tl) (w7.drewN q) := fun q => by rw [htl]; exact conv_b (px7.drewN q) cx
  have k2 : ∀ q, (convert 23 9 (.slice a n c)).run Tryd.prog (w7.drewN q) = .ok (.string tl) (w7.drewN q) := fun q => by rw [htl]; exact conv_b ((RowI.reads hA).drewN q) c
  have k3 : ∀ q, (convert 23 9 (.slice Ay m cy)).run Tryd.prog (w7.drewN q) = .ok (.string tr) (w7.drewN q) := fun q => by rw [htr]; exact conv_b (py7.drewN q) cy
  have k4 : ∀ q, (convert 23 9 (.slice b m d)).run Tryd.prog (w7.drewN q) = .ok (.string tr) (w7.drewN q) := fun q => by rw [htr]; exact conv_b ((RowI.reads hA').drewN q) d
  obtain ⟨gx, rfl, hgx1, hgx2, hgx3, cx7, fx7, -⟩ := hxA.out.store (i := n) (by omega)
  obtain ⟨gy, rfl, hgy1, hgy2, hgy3, cy8, fy8, -⟩ := hyA.out.store (i := m) (by omega)
  rw [last_app l 7 n HL.out] at cx7
  rw [last_app r 8 m HL'.out] at cy8
  clear hw7 htl htr px7 py7 fx7 fy8
  go_quiet (fail)
  go_wp2
  obtain ⟨w8, hw8⟩ : ∃ w8, w8 = w7.drewN nq := ⟨_, rfl⟩
  have hm8 : Mod w.heap.size w.heap.size w7 w8 := hw8 ▸ Mod.drawn _ _ w7 nq
  rw [← hw8]
  have s8 := hm8.size
  replace bel := hm8.below bel (by omega) bel.size
  replace hA := hA.mod hm8 (by omega)
  replace hA' := hA'.mod hm8 (by omega)
  replace hxA := hxA.mod hm8 (by omega)
  clear hw8 k1 k2 k3 k4 cx7 cy8 hyA PX6 PY6
  go_loopw [9, 78] (fun i j wr => ∃ (k : Nat) (l' : List Int), j = .int .i64 k ∧ k ≤ n + 1 ∧ OwnI w1.heap.size w3.heap.size (.slice (some ⟨gx, 0, none⟩) (n + 1) cx) l' wr ∧ Mod w1.heap.size w3.heap.size w8 wr) (fun _ j _ => n + 1 - (intOf j).toNat)
  case atStart => exact ⟨0, _, rfl, by omega, hxA.out, Mod.refl _ _ _⟩
  case round =>
    clear hxA
    obtain ⟨k3, l3, rfl, hk3, hO, hm9⟩ := hrel
    obtain ⟨w9, rfl⟩ : ∃ w9 : World, w9 = wr := ⟨_, rfl⟩
    by_cases hlt3 : k3 < n + 1
    · obtain ⟨gq, e, _, _, _, hc1, hf1, hst⟩ := hO.store (i := k3) hlt3
      injection e with e; injection e with e; subst e
      obtain ⟨ho2, hm2⟩ := hst 3
      have HO2 := Lib.hid ho2
      have HM2 := Lib.hid (hm9.trans hm2)
      clear hst ho2 hm2 hO hm9
      go_wp2
      go_roundw
      case rel => exact ⟨k3 + 1, _, by go_num, by omega, HO2.out, HM2.out⟩
      case measure => simp [intOf]; omega
    · have s9 := hm9.size
      replace bel := hm9.below bel (by omega) bel.size
      replace hA := hA.mod hm9 (by omega)
      replace hA' := hA'.mod hm9 (by omega)
      clear hO hm9
      have HT9 := Lib.hid (HT.out.next bel)
      have HR : Hid (Calls Tryd.prog 15 #[.slice (some ⟨w9.heap.size, 0, none⟩) 2 2] (w9.alloc (.cells #[.slice a n c, .slice b m d] 23)) fun e w' => e = .returned (.int .u32 (S : Nat)) ∧ Below w9.heap.size w9 w') := by
        rw [HS.out]
        exact Lib.hid ((parts_any _ 2 2 [⟨a, n, c, l⟩, ⟨b, m, d, r⟩] _ _ (lists_two w9 ⟨a, n, c, l⟩ ⟨b, m, d, r⟩ 23 (piece_ok hA hnc (by omega) HB.out) (piece_ok hA' hmd (by omega) HB'.out)) (by omega) (HT9.out.alloc _)).mono fun e w' ⟨he, hw⟩ => ⟨he, by subst hw; exact (Below.refl _ _).alloc (Nat.le_refl _) _⟩)
      go_wp2_with (go_at_call 15; refine HR.out.mono ?_; rintro e w10 ⟨rfl, hb10⟩)
      go_ret
      exact ⟨rfl, bel.trans (hb10.mono bel.size)⟩
end Go.Proofs.YtkpdifepecpagaaDoor.Pk
