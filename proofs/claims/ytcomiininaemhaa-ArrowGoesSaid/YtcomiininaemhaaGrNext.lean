/- The document's answer for trees (fletchref04): Next. -/
import Derived.Test.YtcomiininaemhaaGrDists
namespace Go.Proofs.Ytcomiininaemhaa.Gr
variable {ps : List Int}
def nextN (ps : List Int) (a b : Nat) : Nat := ((List.range ps.length).find? fun v => nearL ps v a && decide (distL ps v b + 1 = distL ps a b)).getD 0
theorem Good.nextN_is (G : Good ps) {a b : Nat} (ha : a < ps.length) (hb : b < ps.length) (hab : a ≠ b) :
    nextN ps a b < ps.length ∧ nearL ps (nextN ps a b) a = true ∧ distL ps (nextN ps a b) b + 1 = distL ps a b := by
  obtain ⟨y, hy, hn, hd⟩ := G.rt.nearer _ a b ha hb hab (Nat.le_refl _)
  have hn' := (G.near_iff hy ha).2 hn
  unfold nextN
  cases hf : (List.range ps.length).find? fun v => nearL ps v a && decide (distL ps v b + 1 = distL ps a b) with
  | none =>
    have h1 := List.find?_eq_none.1 hf y (List.mem_range.2 hy)
    rw [hn', Bool.true_and] at h1
    exact absurd (decide_eq_true hd) h1
  | some v =>
    have h1 := List.find?_some hf
    have h2 := List.mem_of_find?_eq_some hf
    simp only [Option.getD_some]
    simp only [Bool.and_eq_true, decide_eq_true_eq] at h1
    exact ⟨List.mem_range.1 h2, h1.1, h1.2⟩
theorem Good.nextN_only (G : Good ps) {a b v : Nat} (ha : a < ps.length) (hb : b < ps.length) (hab : a ≠ b) (hv : v < ps.length) (hn : nearL ps v a = true) (hd : distL ps v b + 1 = distL ps a b) : v = nextN ps a b := by
  obtain ⟨h1, h2, h3⟩ := G.nextN_is ha hb hab
  exact G.rt.only _ a b v _ ha hb hv h1 (Nat.le_refl _) ((G.near_iff hv ha).1 hn) ((G.near_iff h1 ha).1 h2) hd h3
def nextI (ps : List Int) (a b : Int) : Int := if (0 ≤ a ∧ a < (ps.length : Int)) ∧ (0 ≤ b ∧ b < (ps.length : Int)) then (if a = b then b else (nextN ps a.toNat b.toNat : Nat)) else -1
end Go.Proofs.Ytcomiininaemhaa.Gr
namespace Go.Proofs.Ytcomiininaemhaa.Pk
open Go.RowKit Go.Proofs.Ytcomiininaemhaa.Gr
set_option linter.unusedVariables false

theorem bel_dn {B : Nat} {a w : World} (h : Below B a w) (n : Nat) : Below B a (w.drewN n) := ⟨h.os, h.tape, h.output, h.size, h.block⟩
set_option maxHeartbeats 4000000 in
theorem next_any (A : Option Addr) (n c : Nat) (ps : List Int) (a b : Int) (w : World) (B : Nat) (hr : Reads w B 1 A n (nms ps)) (hB : B ≤ w.heap.size) (G : Gr.Good ps) :
    Calls Try.prog 35 #[.slice A n c, .int .i64 a, .int .i64 b] w fun e w' => e = .returned (.int .i64 (nextI ps a b)) ∧ Below w.heap.size w w' := by
  have HL := Lib.hid hr.plen
  have HR := Lib.hid hr
  have hn : n ≤ 32 := by rw [← HL.out]; exact G.few
  clear hr
  go_enter Try.func35, Try.ntmps35
  by_cases a1 : a < 0
  · have HE : Hid (nextI ps a b = -1) := Lib.hid (if_neg (by omega))
    go_wp2
    go_ret
    exact ⟨by rw [HE.out]; rfl, Below.refl _ _⟩
  · by_cases a2 : (n : Int) ≤ a
    · have HE : Hid (nextI ps a b = -1) := Lib.hid (if_neg (by rw [HL.out]; omega))
      go_wp2
      go_ret
      exact ⟨by rw [HE.out]; rfl, Below.refl _ _⟩
    · by_cases b1 : b < 0
      · have HE : Hid (nextI ps a b = -1) := Lib.hid (if_neg (by rw [HL.out]; omega))
        go_wp2
        go_ret
        exact ⟨by rw [HE.out]; rfl, Below.refl _ _⟩
      · by_cases b2 : (n : Int) ≤ b
        · have HE : Hid (nextI ps a b = -1) := Lib.hid (if_neg (by rw [HL.out]; omega))
          go_wp2
          go_ret
          exact ⟨by rw [HE.out]; rfl, Below.refl _ _⟩
        · obtain ⟨x, rfl⟩ : ∃ x : Nat, a = (x : Int) := ⟨a.toNat, by omega⟩
          obtain ⟨y, rfl⟩ : ∃ y : Nat, b = (y : Int) := ⟨b.toNat, by omega⟩
          have hx : x < n := by omega
          have hy : y < n := by omega
          have HX := Lib.hid hx
          have HY := Lib.hid hy
          by_cases hxy : x = y
          · subst hxy
            have HE : Hid (nextI ps (x : Int) (x : Int) = (x : Int)) := Lib.hid (by unfold nextI; rw [if_pos (by rw [HL.out]; omega), if_pos rfl])
            go_wp2
            go_ret
            exact ⟨by rw [HE.out]; rfl, Below.refl _ _⟩
          · have HE : Hid (nextI ps (x : Int) (y : Int) = (nextN ps x y : Nat)) := Lib.hid (by unfold nextI; rw [if_pos (by rw [HL.out]; omega), if_neg (by omega)]; rfl)
            have t1 : ((x : Int) == (y : Int)) = false := by simp; omega
            have HNE := Lib.hid hxy
            clear a1 b1
            go_wp2_with (go_at_call 43; go_must (refine (dists_any A n c ps y w B HR.out hB hn HY.out (fun v => distL ps v y) (by have := G.far (f := y) (by rw [HL.out]; exact HY.out); rw [HL.out] at this; exact this)).mono ?_); rintro e w1 ⟨rfl, hb1, hbel1⟩; have HB1 := Lib.hid hb1; have HW1 := Lib.hid hbel1; clear hb1 hbel1)
            go_loopw [9] (fun z wr => ∃ v : Nat, z = .int .i64 v ∧ v ≤ n ∧ (∀ u, u < v → u ≠ nextN ps x y) ∧ BlkN wr w.heap.size ((List.range n).map fun v => (distL ps v y : Int)) ∧ Below w.heap.size w wr) (fun z _ => n - (intOf z).toNat)
            case atStart => exact ⟨0, rfl, by omega, fun u hu => by omega, HB1.out, HW1.out⟩
            case round =>
              obtain ⟨v, rfl, hv, hno, hb, hbel⟩ := hrel
              have HNo := Lib.hid hno
              have HBv := Lib.hid hb
              have HWv := Lib.hid hbel
              clear hno hb hbel
              obtain ⟨w2, rfl⟩ : ∃ w2 : World, w2 = wr := ⟨_, rfl⟩
              have hNi := G.nextN_is (a := x) (b := y) (by rw [HL.out]; exact hx) (by rw [HL.out]; exact hy) hxy
              have HNi := Lib.hid hNi
              clear hNi
              by_cases hlt : v < n
              · have cv : w2.cell? ⟨w.heap.size, v, none⟩ = some (.int .i64 (distL ps v y : Int)) := by
                  have := HBv.out.num (i := v) (by simp; exact hlt)
                  rw [this]; simp [List.getD, hlt]
                have cx : w2.cell? ⟨w.heap.size, x, none⟩ = some (.int .i64 (distL ps x y : Int)) := by
                  have := HBv.out.num (i := x) (by simp; exact hx)
                  rw [this]; simp [List.getD, hx]
                have HQ : Hid (∀ q, Calls Try.prog 36 #[.slice A n c, .int .i64 (v : Int), .int .i64 (x : Int)] (w2.drewN q) fun e w' => e = .returned (.bool (nearL ps v x)) ∧ w' = w2.drewN q) :=
                  Lib.hid fun q => near_any A n c ps v x (w2.drewN q) B ((HR.out.below (HWv.out.mono hB)).drewN q) hlt HX.out
                have dlt : distL ps x y < 32 ∧ distL ps v y < 32 := by
                  have h1 := (G.far (f := y) (by rw [HL.out]; exact hy)).lt x (by rw [HL.out]; exact hx)
                  have h2 := (G.far (f := y) (by rw [HL.out]; exact hy)).lt v (by rw [HL.out]; exact hlt)
                  rw [HL.out] at h1 h2
                  exact ⟨Nat.lt_of_lt_of_le h1 hn, Nat.lt_of_lt_of_le h2 hn⟩
                obtain ⟨dx, hdx⟩ : ∃ dx, dx = distL ps x y := ⟨_, rfl⟩
                obtain ⟨dv, hdv⟩ : ∃ dv, dv = distL ps v y := ⟨_, rfl⟩
                rw [← hdx] at cx dlt
                rw [← hdv] at cv dlt
                have HDX := Lib.hid hdx
                have HDV := Lib.hid hdv
                clear hdx hdv
                obtain ⟨d1, d2⟩ := dlt
                by_cases h1 : nearL ps v x = true
                · rw [h1] at HQ
                  by_cases h2 : dv + 1 = dx
                  · have HF : Hid (v = nextN ps x y) := Lib.hid (G.nextN_only (by rw [HL.out]; exact hx) (by rw [HL.out]; exact hy) hxy (by rw [HL.out]; exact hlt) h1 (by rw [← HDX.out, ← HDV.out]; exact h2))
                    subst h2
                    go_wp2
                    go_quiet ((go_at_call 36; exact Calls.quiet_of_same (HQ.out _)))
                    go_wp2
                    go_ret
                    exact ⟨by rw [HE.out, ← HF.out]; rfl, bel_dn HWv.out _⟩
                  · have HN : Hid (∀ u, u < v + 1 → u ≠ nextN ps x y) := Lib.hid (fun u hu => by
                      rcases Nat.lt_or_ge u v with h | h
                      · exact HNo.out u h
                      · have : u = v := by omega
                        subst this
                        intro e
                        have h3 := HNi.out.2.2
                        rw [← e, ← HDV.out, ← HDX.out] at h3
                        exact h2 h3)
                    have t2 : ((dv : Int) == (dx : Int) - 1) = false := by simp; omega
                    go_wp2
                    go_quiet ((go_at_call 36; exact Calls.quiet_of_same (HQ.out _)))
                    go_wp2
                    go_roundw
                    case rel => exact ⟨v + 1, by go_num, by omega, HN.out, Blk.drewN HBv.out _, bel_dn HWv.out _⟩
                    case measure => simp [intOf]; omega
                · have h1' : nearL ps v x = false := by simpa using h1
                  rw [h1'] at HQ
                  have HN : Hid (∀ u, u < v + 1 → u ≠ nextN ps x y) := Lib.hid (fun u hu => by
                    rcases Nat.lt_or_ge u v with h | h
                    · exact HNo.out u h
                    · have : u = v := by omega
                      subst this
                      intro e
                      have h3 := HNi.out.2.1
                      rw [← e] at h3
                      exact h1 h3)
                  go_wp2
                  go_quiet ((go_at_call 36; exact Calls.quiet_of_same (HQ.out _)))
                  go_wp2
                  go_roundw
                  case rel => exact ⟨v + 1, by go_num, by omega, HN.out, Blk.drewN HBv.out _, bel_dn HWv.out _⟩
                  case measure => simp [intOf]; omega
              · have := HNo.out _ (show nextN ps x y < v by have h := HNi.out.1; rw [HL.out] at h; omega)
                exact absurd rfl this
end Go.Proofs.Ytcomiininaemhaa.Pk
