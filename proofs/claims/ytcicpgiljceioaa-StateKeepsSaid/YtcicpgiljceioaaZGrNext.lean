/- The document's answer for trees (fletchref04): Dists. -/
import Derived.Test.YtcicpgiljceioaaZGrWave
namespace Go.Proofs.Ytcicpgiljceioaa.Pk
open Go.RowKit Go.Proofs.Ytcicpgiljceioaa.Gr
set_option linter.unusedVariables false

/-- A block that holds the numbers. -/
def BlkN (w : World) (g : Nat) (ds : List Int) : Prop := Blk w g 3 (nms ds).toArray
theorem BlkN.num {w : World} {g : Nat} {ds : List Int} (h : BlkN w g ds) {i : Nat} (hi : i < ds.length) : w.cell? ⟨g, i, none⟩ = some (.int .i64 (ds.getD i 0)) := by
  rw [Blk.cell h]
  rw [List.getElem?_toArray]
  exact nms_get hi
theorem BlkN.set_ {w : World} {g : Nat} {ds : List Int} (h : BlkN w g ds) (i : Nat) (x : Int) : BlkN (w.setCell ⟨g, i, none⟩ (.int .i64 x)) g (ds.set i x) := by
  have := Blk.set_ h i (.int .i64 x)
  unfold BlkN
  have e : (nms (ds.set i x)).toArray = (nms ds).toArray.setIfInBounds i (.int .i64 x) := by
    simp [nms]
  rw [e]; exact this
theorem BlkN.reads {w : World} {g : Nat} {ds : List Int} (h : BlkN w g ds) {n : Nat} (hn : ds.length = n) : Reads w (g + 1) 1 (some ⟨g, 0, none⟩) n (nms ds) := by
  refine ⟨by simp [hn], fun _ => ⟨_, rfl, by simp, fun i u hu => ?_⟩⟩
  have := Blk.cell h i
  rw [List.getElem?_toArray, hu] at this
  unfold Addr.add
  by_cases h0 : i = 0
  · subst h0; simpa using this
  · simpa [h0] using this

/-- New memory of n zeros, as a block. -/
theorem makeN {ops : Array Oper} {rest : List Oper} {o : Oper} {a : Act} {Q : Exit → Act → World → Prop} (w : World) (hg : o.guard = none) (l c : Operand) (hop : o.op = Op.makeSlice 22 l c)
    (kl kc : IntKind) (L C : Int) (n : Nat) (hl : a.eval l = .int kl L) (hc : a.eval c = .int kc C) (hL : L = (n : Int)) (hC : C = (n : Int)) (b2 : n ≤ 1099511627776)
    (hK : ∀ w', BlkN w' w.heap.size (List.replicate n 0) → Below w.heap.size w w' → wpList Try.prog ops Q rest (a.put o.dst (.slice (some ⟨w.heap.size, 0, none⟩) n n)) w') :
    wpList Try.prog ops Q (o :: rest) a w := by
  obtain ⟨i0, hi0, hz0, hz1, hz2⟩ := info_parts int_info
  refine wpList_make_full w hg l c _ hop w.heap.size 3 i0 _ 1 Try.underlying22 hi0 hz0 hz1 kl kc L C n hl hc hL hC (by rw [hz2]; omega) (by unfold maxLen; omega) (Nat.le_refl _) (fun w' ho hg => hK w' ?_ ((Below.refl _ _).grown hg (Nat.le_refl _) (by simp)))
  have e : (madeCells (Value.int .i64 0).cells (n * 1)).toList = nms (List.replicate n 0) := by
    rw [Nat.mul_one]
    show (madeCells #[Value.int .i64 0] n).toList = _
    rw [toList_madeCells_one]
    simp [nms]
  rw [e] at ho
  rcases ho.2 with ⟨h1, _⟩ | ⟨g, cap, cur, he, hb, hh, h3, h4, h5, h6⟩
  · cases h1
  · simp only [Value.slice.injEq, Option.some.injEq, Addr.mk.injEq] at he
    obtain ⟨⟨rfl, _⟩, _, rfl⟩ := he
    have hc : cur = (nms (List.replicate n 0)).toArray := by
      apply Array.ext'
      rw [← h6, List.take_of_length_le (by simp [h5])]
    unfold BlkN Blk
    rw [← hc]; exact hh
theorem fill_step {n i : Nat} (h : i < n) : (List.replicate i (-1 : Int) ++ List.replicate (n - i) 0).set i (-1) = List.replicate (i + 1) (-1) ++ List.replicate (n - (i + 1)) 0 := by
  obtain ⟨m, rfl⟩ : ∃ m, n = i + 1 + m := ⟨n - (i + 1), by omega⟩
  rw [show i + 1 + m - i = m + 1 by omega, show i + 1 + m - (i + 1) = m by omega, List.replicate_succ, List.set_append_right _ _ (by simp)]
  simp [List.replicate_succ']

set_option maxHeartbeats 4000000 in
theorem dists_any (A : Option Addr) (n c : Nat) (ps : List Int) (f : Nat) (w : World) (B : Nat) (hr : Reads w B 1 A n (nms ps)) (hB : B ≤ w.heap.size) (hn : n ≤ 32) (hf : f < n) (d : Nat → Nat) (hd : Far n f d (nearL ps)) :
    Calls Try.prog 59 #[.slice A n c, .int .i64 (f : Int)] w fun e w' => e = .returned (.slice (some ⟨w.heap.size, 0, none⟩) n n) ∧ BlkN w' w.heap.size ((List.range n).map fun x => (d x : Int)) ∧ Below w.heap.size w w' := by
  have HR := Lib.hid hr
  have HD := Lib.hid hd
  clear hr hd
  obtain ⟨g, hg⟩ : ∃ g, g = w.heap.size := ⟨_, rfl⟩
  have HG := Lib.hid hg
  rw [← hg]
  clear hg
  go_enter Try.func59, Try.ntmps59
  go_wp2_with (refine makeN w rfl (.tmp 13) (.tmp 13) rfl .i64 .i64 _ _ n rfl rfl rfl rfl (by omega) ?_; rw [← HG.out]; intro w1 hb1 hbel1; have HB1 := Lib.hid hb1; have HW1 := Lib.hid hbel1; clear hb1 hbel1)
  go_loopw [7] (fun x wr => ∃ i : Nat, x = .int .i64 i ∧ i ≤ n ∧ BlkN wr g (List.replicate i (-1) ++ List.replicate (n - i) 0) ∧ Below g w wr) (fun x _ => n - (intOf x).toNat)
  case atStart => exact ⟨0, rfl, by omega, by simpa using HB1.out, HW1.out⟩
  case round =>
    obtain ⟨i, rfl, hi, hb, hbel⟩ := hrel
    have HB := Lib.hid hb
    have HW := Lib.hid hbel
    clear hb hbel
    by_cases hlt : i < n
    · have cx := HB.out.num (i := i) (by simp; omega)
      have fz := Blk.frozen HB.out i
      have HS := Lib.hid (fill_step hlt)
      go_wp2
      go_roundw
      case rel => exact ⟨i + 1, by go_num, by omega, by have := HB.out.set_ i (-1); rw [HS.out] at this; exact this, HW.out.setCell (by simp) _⟩
      case measure => simp [intOf]; omega
    · have HF : Hid (List.replicate i (-1 : Int) ++ List.replicate (n - i) 0 = List.replicate n (-1)) := Lib.hid (by
        have : i = n := by omega
        subst this; simp)
      have HB2 : Hid (BlkN wr g (List.replicate n (-1))) := Lib.hid (by rw [← HF.out]; exact HB.out)
      have cx := HB2.out.num (i := f) (by simp; omega)
      have fz := Blk.frozen HB2.out f
      have HS := Lib.hid (Wave.start HD.out hf)
      go_wp2
      go_loopw [8] (fun x wr => ∃ (r : Nat) (ds : List Int), x = .int .i64 r ∧ r ≤ n ∧ BlkN wr g ds ∧ Wave d (nearL ps) n r 0 0 ds ∧ Below g w wr) (fun x _ => n - (intOf x).toNat)
      case atStart => exact ⟨0, _, rfl, by omega, HB2.out.set_ f 0, HS.out, HW.out.setCell (by simp) _⟩
      case round =>
        obtain ⟨r, ds, rfl, hrn, hb, hwv, hbel⟩ := hrel
        have HBr := Lib.hid hb
        have HV := Lib.hid hwv
        have HWr := Lib.hid hbel
        clear hb hwv hbel
        by_cases hlt : r < n
        · have HRn := Lib.hid hlt
          go_wp2
          go_loopw [9] (fun x wr => ∃ (v : Nat) (ds : List Int), x = .int .i64 v ∧ v ≤ n ∧ BlkN wr g ds ∧ Wave d (nearL ps) n r v 0 ds ∧ Below g w wr) (fun x _ => n - (intOf x).toNat)
          case atStart => exact ⟨0, ds, rfl, by omega, HBr.out, HV.out, HWr.out⟩
          case round =>
            obtain ⟨v, ds, rfl, hvn, hb, hwv, hbel⟩ := hrel
            have HBv := Lib.hid hb
            have HVv := Lib.hid hwv
            have HWv := Lib.hid hbel
            clear hb hwv hbel
            by_cases hlv : v < n
            · have HVn := Lib.hid hlv
              go_wp2
              go_loopw [10] (fun x wr => ∃ (u : Nat) (ds : List Int), x = .int .i64 u ∧ u ≤ n ∧ BlkN wr g ds ∧ Wave d (nearL ps) n r v u ds ∧ Below g w wr) (fun x _ => n - (intOf x).toNat)
              case atStart => exact ⟨0, ds, rfl, by omega, HBv.out, HVv.out, HWv.out⟩
              case round =>
                obtain ⟨u, ds, rfl, hun, hb, hwv, hbel⟩ := hrel
                have HBu := Lib.hid hb
                have HVu := Lib.hid hwv
                have HWu := Lib.hid hbel
                clear hb hwv hbel
                obtain ⟨w1, rfl⟩ : ∃ w1 : World, w1 = wr := ⟨_, rfl⟩
                by_cases hlu : u < n
                · have cv := HBu.out.num (i := v) (by rw [HVu.out.len]; exact hlv)
                  have cu := HBu.out.num (i := u) (by rw [HVu.out.len]; exact hlu)
                  have fz := Blk.frozen HBu.out u
                  obtain ⟨x, hx⟩ : ∃ x, x = ds.getD v 0 := ⟨_, rfl⟩
                  obtain ⟨y, hy⟩ : ∃ y, y = ds.getD u 0 := ⟨_, rfl⟩
                  rw [← hx] at cv
                  rw [← hy] at cu
                  have HX := Lib.hid hx
                  have HY := Lib.hid hy
                  clear hx hy
                  by_cases h1 : x = (r : Int)
                  · by_cases h2 : y < 0
                    · by_cases h3 : nearL ps u v = true
                      · have HN := Lib.hid (Wave.step_yes HD.out HVu.out hlv hlu (by rw [← HX.out]; exact h1) (by rw [← HY.out]; exact h2) h3)
                        subst h1
                        go_wp2_with (go_at_call 60; go_must (refine (near_any A n c ps u v w1 B (HR.out.below (HWu.out.mono (by rw [HG.out]; exact hB))) hlu hlv).mono ?_); rintro e w2 ⟨rfl, hw2⟩; subst hw2; rw [h3])
                        go_roundw
                        case rel => exact ⟨u + 1, _, by go_num, by omega, HBu.out.set_ u _, HN.out, HWu.out.setCell (by simp) _⟩
                        case measure => simp [intOf]; omega
                      · have h3' : nearL ps u v = false := by simpa using h3
                        have HN := Lib.hid (HVu.out.step_no hlv hlu (fun h => h3 h.2.2))
                        subst h1
                        go_wp2_with (go_at_call 60; go_must (refine (near_any A n c ps u v w1 B (HR.out.below (HWu.out.mono (by rw [HG.out]; exact hB))) hlu hlv).mono ?_); rintro e w2 ⟨rfl, hw2⟩; subst hw2; rw [h3'])
                        go_roundw
                        case rel => exact ⟨u + 1, ds, by go_num, by omega, HBu.out, HN.out, HWu.out⟩
                        case measure => simp [intOf]; omega
                    · have HN := Lib.hid (HVu.out.step_no hlv hlu (fun h => h2 (by rw [HY.out]; exact h.2.1)))
                      subst h1
                      have h2' : 0 ≤ y := by omega
                      clear h2
                      go_wp2
                      go_roundw
                      case rel => exact ⟨u + 1, ds, by go_num, by omega, HBu.out, HN.out, HWu.out⟩
                      case measure => simp [intOf]; omega
                  · have HN := Lib.hid (HVu.out.step_no hlv hlu (fun h => h1 (by rw [HX.out]; exact h.1)))
                    have t1 : (x == (r : Int)) = false := by simp [h1]
                    clear h1
                    go_wp2
                    go_roundw
                    case rel => exact ⟨u + 1, ds, by go_num, by omega, HBu.out, HN.out, HWu.out⟩
                    case measure => simp [intOf]; omega
                · have HN : Hid (Wave d (nearL ps) n r (v + 1) 0 ds) := Lib.hid (by
                    have : u = n := by omega
                    have h := HVu.out
                    rw [this] at h
                    exact h.next_v)
                  go_wp2
                  go_roundw
                  case rel => have := HVn.out; exact ⟨v + 1, ds, by go_num, by omega, HBu.out, HN.out, HWu.out⟩
                  case measure => have := HVn.out; simp [intOf]; omega
            · have HN : Hid (Wave d (nearL ps) n (r + 1) 0 0 ds) := Lib.hid (by
                have : v = n := by omega
                have h := HVv.out
                rw [this] at h
                exact Wave.next_r HD.out h)
              go_wp2
              go_roundw
              case rel => have := HRn.out; exact ⟨r + 1, ds, by go_num, by omega, HBv.out, HN.out, HWv.out⟩
              case measure => have := HRn.out; simp [intOf]; omega
        · have HF : Hid (ds = (List.range n).map fun x => (d x : Int)) := Lib.hid (by
            have : r = n := by omega
            have h := HV.out
            rw [this] at h
            exact Wave.done HD.out h)
          go_wp2
          go_ret
          exact ⟨rfl, by rw [← HF.out]; exact HBr.out, HWr.out⟩
end Go.Proofs.Ytcicpgiljceioaa.Pk

/- The document's answer for trees (fletchref04): Next. -/
namespace Go.Proofs.Ytcicpgiljceioaa.Gr
variable {ps : List Int}
def nextN (ps : List Int) (a b : Nat) : Nat := ((List.range ps.length).find? fun v => nearL ps v a && decide (distL ps v b + 1 = distL ps a b)).getD 0
theorem Good.nextN_is (G : Good ps) {a b : Nat} (ha : a < ps.length) (hb : b < ps.length) (hab : a ≠ b) :
    nextN ps a b < ps.length ∧ nearL ps (nextN ps a b) a = true ∧ distL ps (nextN ps a b) b + 1 = distL ps a b := by
  obtain ⟨y, hy, hn, hd⟩ := G.rt.nearer _ a b ha hb hab (Nat.le_refl _)
  have hn' := (G.near_iff hy ha).2 hn
  unfold nextN
  cases hf : (List.range ps.length).find? fun v => nearL ps v a && decide (distL ps v b + 1 = distL ps a b) with
  | none =>
    have h1 := List.find?_eq_none.1 hf y (List.mem_range.2 hy)
    rw [hn', Bool.true_and] at h1
    exact absurd (decide_eq_true hd) h1
  | some v =>
    have h1 := List.find?_some hf
    have h2 := List.mem_of_find?_eq_some hf
    simp only [Option.getD_some]
    simp only [Bool.and_eq_true, decide_eq_true_eq] at h1
    exact ⟨List.mem_range.1 h2, h1.1, h1.2⟩
theorem Good.nextN_only (G : Good ps) {a b v : Nat} (ha : a < ps.length) (hb : b < ps.length) (hab : a ≠ b) (hv : v < ps.length) (hn : nearL ps v a = true) (hd : distL ps v b + 1 = distL ps a b) : v = nextN ps a b := by
  obtain ⟨h1, h2, h3⟩ := G.nextN_is ha hb hab
  exact G.rt.only _ a b v _ ha hb hv h1 (Nat.le_refl _) ((G.near_iff hv ha).1 hn) ((G.near_iff h1 ha).1 h2) hd h3
def nextI (ps : List Int) (a b : Int) : Int := if (0 ≤ a ∧ a < (ps.length : Int)) ∧ (0 ≤ b ∧ b < (ps.length : Int)) then (if a = b then b else (nextN ps a.toNat b.toNat : Nat)) else -1
end Go.Proofs.Ytcicpgiljceioaa.Gr
namespace Go.Proofs.Ytcicpgiljceioaa.Pk
open Go.RowKit Go.Proofs.Ytcicpgiljceioaa.Gr
set_option linter.unusedVariables false

theorem bel_dn {B : Nat} {a w : World} (h : Below B a w) (n : Nat) : Below B a (w.drewN n) := ⟨h.os, h.tape, h.output, h.size, h.block⟩
set_option maxHeartbeats 4000000 in
theorem next_any (A : Option Addr) (n c : Nat) (ps : List Int) (a b : Int) (w : World) (B : Nat) (hr : Reads w B 1 A n (nms ps)) (hB : B ≤ w.heap.size) (G : Gr.Good ps) :
    Calls Try.prog 34 #[.slice A n c, .int .i64 a, .int .i64 b] w fun e w' => e = .returned (.int .i64 (nextI ps a b)) ∧ Below w.heap.size w w' := by
  have HL := Lib.hid hr.plen
  have HR := Lib.hid hr
  have hn : n ≤ 32 := by rw [← HL.out]; exact G.few
  clear hr
  go_enter Try.func34, Try.ntmps34
  by_cases a1 : a < 0
  · have HE : Hid (nextI ps a b = -1) := Lib.hid (if_neg (by omega))
    go_wp2
    go_ret
    exact ⟨by rw [HE.out]; rfl, Below.refl _ _⟩
  · by_cases a2 : (n : Int) ≤ a
    · have HE : Hid (nextI ps a b = -1) := Lib.hid (if_neg (by rw [HL.out]; omega))
      go_wp2
      go_ret
      exact ⟨by rw [HE.out]; rfl, Below.refl _ _⟩
    · by_cases b1 : b < 0
      · have HE : Hid (nextI ps a b = -1) := Lib.hid (if_neg (by rw [HL.out]; omega))
        go_wp2
        go_ret
        exact ⟨by rw [HE.out]; rfl, Below.refl _ _⟩
      · by_cases b2 : (n : Int) ≤ b
        · have HE : Hid (nextI ps a b = -1) := Lib.hid (if_neg (by rw [HL.out]; omega))
          go_wp2
          go_ret
          exact ⟨by rw [HE.out]; rfl, Below.refl _ _⟩
        · obtain ⟨x, rfl⟩ : ∃ x : Nat, a = (x : Int) := ⟨a.toNat, by omega⟩
          obtain ⟨y, rfl⟩ : ∃ y : Nat, b = (y : Int) := ⟨b.toNat, by omega⟩
          have hx : x < n := by omega
          have hy : y < n := by omega
          have HX := Lib.hid hx
          have HY := Lib.hid hy
          by_cases hxy : x = y
          · subst hxy
            have HE : Hid (nextI ps (x : Int) (x : Int) = (x : Int)) := Lib.hid (by unfold nextI; rw [if_pos (by rw [HL.out]; omega), if_pos rfl])
            go_wp2
            go_ret
            exact ⟨by rw [HE.out]; rfl, Below.refl _ _⟩
          · have HE : Hid (nextI ps (x : Int) (y : Int) = (nextN ps x y : Nat)) := Lib.hid (by unfold nextI; rw [if_pos (by rw [HL.out]; omega), if_neg (by omega)]; rfl)
            have t1 : ((x : Int) == (y : Int)) = false := by simp; omega
            have HNE := Lib.hid hxy
            clear a1 b1
            go_wp2_with (go_at_call 59; go_must (refine (dists_any A n c ps y w B HR.out hB hn HY.out (fun v => distL ps v y) (by have := G.far (f := y) (by rw [HL.out]; exact HY.out); rw [HL.out] at this; exact this)).mono ?_); rintro e w1 ⟨rfl, hb1, hbel1⟩; have HB1 := Lib.hid hb1; have HW1 := Lib.hid hbel1; clear hb1 hbel1)
            go_loopw [9] (fun z wr => ∃ v : Nat, z = .int .i64 v ∧ v ≤ n ∧ (∀ u, u < v → u ≠ nextN ps x y) ∧ BlkN wr w.heap.size ((List.range n).map fun v => (distL ps v y : Int)) ∧ Below w.heap.size w wr) (fun z _ => n - (intOf z).toNat)
            case atStart => exact ⟨0, rfl, by omega, fun u hu => by omega, HB1.out, HW1.out⟩
            case round =>
              obtain ⟨v, rfl, hv, hno, hb, hbel⟩ := hrel
              have HNo := Lib.hid hno
              have HBv := Lib.hid hb
              have HWv := Lib.hid hbel
              clear hno hb hbel
              obtain ⟨w2, rfl⟩ : ∃ w2 : World, w2 = wr := ⟨_, rfl⟩
              have hNi := G.nextN_is (a := x) (b := y) (by rw [HL.out]; exact hx) (by rw [HL.out]; exact hy) hxy
              have HNi := Lib.hid hNi
              clear hNi
              by_cases hlt : v < n
              · have cv : w2.cell? ⟨w.heap.size, v, none⟩ = some (.int .i64 (distL ps v y : Int)) := by
                  have := HBv.out.num (i := v) (by simp; exact hlt)
                  rw [this]; simp [List.getD, hlt]
                have cx : w2.cell? ⟨w.heap.size, x, none⟩ = some (.int .i64 (distL ps x y : Int)) := by
                  have := HBv.out.num (i := x) (by simp; exact hx)
                  rw [this]; simp [List.getD, hx]
                have HQ : Hid (∀ q, Calls Try.prog 60 #[.slice A n c, .int .i64 (v : Int), .int .i64 (x : Int)] (w2.drewN q) fun e w' => e = .returned (.bool (nearL ps v x)) ∧ w' = w2.drewN q) :=
                  Lib.hid fun q => near_any A n c ps v x (w2.drewN q) B ((HR.out.below (HWv.out.mono hB)).drewN q) hlt HX.out
                have dlt : distL ps x y < 32 ∧ distL ps v y < 32 := by
                  have h1 := (G.far (f := y) (by rw [HL.out]; exact hy)).lt x (by rw [HL.out]; exact hx)
                  have h2 := (G.far (f := y) (by rw [HL.out]; exact hy)).lt v (by rw [HL.out]; exact hlt)
                  rw [HL.out] at h1 h2
                  exact ⟨Nat.lt_of_lt_of_le h1 hn, Nat.lt_of_lt_of_le h2 hn⟩
                obtain ⟨dx, hdx⟩ : ∃ dx, dx = distL ps x y := ⟨_, rfl⟩
                obtain ⟨dv, hdv⟩ : ∃ dv, dv = distL ps v y := ⟨_, rfl⟩
                rw [← hdx] at cx dlt
                rw [← hdv] at cv dlt
                have HDX := Lib.hid hdx
                have HDV := Lib.hid hdv
                clear hdx hdv
                obtain ⟨d1, d2⟩ := dlt
                by_cases h1 : nearL ps v x = true
                · rw [h1] at HQ
                  by_cases h2 : dv + 1 = dx
                  · have HF : Hid (v = nextN ps x y) := Lib.hid (G.nextN_only (by rw [HL.out]; exact hx) (by rw [HL.out]; exact hy) hxy (by rw [HL.out]; exact hlt) h1 (by rw [← HDX.out, ← HDV.out]; exact h2))
                    subst h2
                    go_wp2
                    go_quiet ((go_at_call 60; exact Calls.quiet_of_same (HQ.out _)))
                    go_wp2
                    go_ret
                    exact ⟨by rw [HE.out, ← HF.out]; rfl, bel_dn HWv.out _⟩
                  · have HN : Hid (∀ u, u < v + 1 → u ≠ nextN ps x y) := Lib.hid (fun u hu => by
                      rcases Nat.lt_or_ge u v with h | h
                      · exact HNo.out u h
                      · have : u = v := by omega
                        subst this
                        intro e
                        have h3 := HNi.out.2.2
                        rw [← e, ← HDV.out, ← HDX.out] at h3
                        exact h2 h3)
                    have t2 : ((dv : Int) == (dx : Int) - 1) = false := by simp; omega
                    go_wp2
                    go_quiet ((go_at_call 60; exact Calls.quiet_of_same (HQ.out _)))
                    go_wp2
                    go_roundw
                    case rel => exact ⟨v + 1, by go_num, by omega, HN.out, Blk.drewN HBv.out _, bel_dn HWv.out _⟩
                    case measure => simp [intOf]; omega
                · have h1' : nearL ps v x = false := by simpa using h1
                  rw [h1'] at HQ
                  have HN : Hid (∀ u, u < v + 1 → u ≠ nextN ps x y) := Lib.hid (fun u hu => by
                    rcases Nat.lt_or_ge u v with h | h
                    · exact HNo.out u h
                    · have : u = v := by omega
                      subst this
                      intro e
                      have h3 := HNi.out.2.1
                      rw [← e] at h3
                      exact h1 h3)
                  go_wp2
                  go_quiet ((go_at_call 60; exact Calls.quiet_of_same (HQ.out _)))
                  go_wp2
                  go_roundw
                  case rel => exact ⟨v + 1, by go_num, by omega, HN.out, Blk.drewN HBv.out _, bel_dn HWv.out _⟩
                  case measure => simp [intOf]; omega
              · have := HNo.out _ (show nextN ps x y < v by have h := HNi.out.1; rw [HL.out] at h; omega)
                exact absurd rfl this
end Go.Proofs.Ytcicpgiljceioaa.Pk
