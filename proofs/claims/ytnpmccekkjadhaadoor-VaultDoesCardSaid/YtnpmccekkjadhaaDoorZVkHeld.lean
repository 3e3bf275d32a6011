/- The law's own 'held': the two disks are the same, and the vaults. -/
import Derived.Test.YtnpmccekkjadhaaDoorZVlt
import Derived.Test.YtnpmccekkjadhaaDoorZWak
import Derived.Test.YtnpmccekkjadhaaDoorZDskB
import Derived.Deep.RegionHeld3
import Derived.Deep.DeepMust
namespace Go.Proofs.YtnpmccekkjadhaaDoor.Pk
open Go.RowKit Go.Proofs.YtnpmccekkjadhaaDoor.Crc Go.Proofs.YtnpmccekkjadhaaDoor.Fr Go.Proofs.YtnpmccekkjadhaaDoor.Dk Go.Proofs.YtnpmccekkjadhaaDoor.Vk
set_option linter.unusedVariables false

/-- Both vaults, or none. -/
def Both (w : World) (R R' : Nat) (d : DK) (pv pw : Value) : Prop :=
  (pv = .pointer none ∧ pw = .pointer none) ∨ ∃ Q Q' v U T, pv = .pointer (some ⟨Q, 0, none⟩) ∧ pw = .pointer (some ⟨Q', 0, none⟩) ∧ ModP w Q R d v U ∧ VaS w Q' R' v T

set_option maxRecDepth 100000 in
set_option maxHeartbeats 8000000 in
theorem held_any (countC : CountC) (genC : GenC) (R R' : Nat) (d : DK) (S S' : Nat → Prop) (pv pw : Value) (w : World) (h : DkP w R d S) (h' : DkR w R' d S') (hb : Both w R R' d pv pw) (M m : Nat) (hfit : d.fit M m) (hM : M ≤ 1073741824) (hm : m ≤ 1152921504606846976) :
    Calls Tryd.prog 25 #[.pointer (some ⟨R, 0, none⟩), .pointer (some ⟨R', 0, none⟩), pv, pw] w fun e w' => e = .returned (.bool true) ∧ Below w.heap.size w w' := by
  have HC := Lib.hid countC
  have HGe := Lib.hid genC
  have H := Lib.hid h
  have H' := Lib.hid h'
  have HB := Lib.hid hb
  have HLs : Hid (d.f0.all.length ≤ 140737488355328 ∧ d.f1.all.length ≤ 140737488355328) := Lib.hid ⟨Nat.le_trans hfit.l0 (by omega), Nat.le_trans hfit.l1 (by omega)⟩
  have HLt : Hid (d.f0.s.length ≤ 4611686018427387904 ∧ d.f1.s.length ≤ 4611686018427387904) := Lib.hid ⟨by have := HLs.out.1; rw [FL.all_len] at this; omega, by have := HLs.out.2; rw [FL.all_len] at this; omega⟩
  have hcl : d.cnt ≤ 1152921504606846976 := Nat.le_trans hfit.c hm
  obtain ⟨v, hbk, hv, hS⟩ := h'
  have z4 : w.cell? ⟨R', 4, none⟩ = some (.bool d.on) := by rw [hbk.cell]; rfl
  have z5 : w.cell? ⟨R', 5, none⟩ = some (.int .i64 (d.cnt : Int)) := by rw [hbk.cell]; rfl
  obtain ⟨A0, n0, c0, e0, l0, q0, r0, _⟩ := hv.rd 0 (by omega)
  obtain ⟨A1, n1, c1, e1, l1, q1, r1, _⟩ := hv.rd 1 (by omega)
  replace l0 : d.f0.s.length = n0 := l0
  replace l1 : d.f1.s.length = n1 := l1
  replace r0 : Reads w w.heap.size 1 A0 n0 (bts d.f0.s) := r0
  replace r1 : Reads w w.heap.size 1 A1 n1 (bts d.f1.s) := r1
  have z0 : w.cell? ⟨R', 0, none⟩ = some (.slice A0 n0 c0) := by rw [hbk.cell, ← e0]; rfl
  have z1 : w.cell? ⟨R', 1, none⟩ = some (.slice A1 n1 c1) := by rw [hbk.cell, ← e1]; rfl
  have hRl : R' < w.heap.size := hbk.lt
  have HX := Lib.hid (And.intro r0 (And.intro r1 (And.intro l0 l1)))
  have HZ4 := Lib.hid z4
  clear h hb hfit countC genC hbk hv hS e0 e1 l0 l1 r0 r1 q0 q1
  go_enter Tryd.func25, Tryd.ntmps25
  go_wp2_with fail
  go_region_held3 (fun w' => w'.cell? ⟨R', 4, none⟩ = some (.bool d.on) ∧ w'.cell? ⟨R', 5, none⟩ = some (.int .i64 (d.cnt : Int)) ∧ w'.cell? ⟨R', 0, none⟩ = some (.slice A0 n0 c0) ∧ w'.cell? ⟨R', 1, none⟩ = some (.slice A1 n1 c1)) (first | exact ⟨z4, z5, z0, z1⟩ | exact Z15 | exact Z17 | go_keep) (first
    | (go_at_call 30; go_must (refine (down_any R d S _ (by exact H.out.drewN 1)).mono ?_; rintro e w14 ⟨rfl, rfl⟩))
    | (go_at_call 26; go_must (refine (writes_any R d S _ (by exact H.out.drewN 1)).mono ?_; rintro e w14 ⟨rfl, rfl⟩))
    | (go_at_call_of 49 (Value.int IntKind.i64 0); go_must (refine (safe_any R 0 d S _ (by exact H.out.drewN 1) HLs.out.1 HLs.out.2).mono ?_; rw [show d.sf 0 = d.f0.s from rfl]; rintro e w15 ⟨A15, n15, c15, rfl, o15, b15⟩; have B15 : Hid (Below w.heap.size w w15) := Lib.hid ⟨b15.os, b15.tape, b15.output, b15.size, b15.block⟩; have Z15 := And.intro ((B15.out.cell (p := ⟨R', 4, none⟩) hRl).trans z4) (And.intro ((B15.out.cell (p := ⟨R', 5, none⟩) hRl).trans z5) (And.intro ((B15.out.cell (p := ⟨R', 0, none⟩) hRl).trans z0) ((B15.out.cell (p := ⟨R', 1, none⟩) hRl).trans z1))); have O15 := Lib.hid o15; have hL15 : n15 ≤ 4611686018427387904 := (by have h1 := (own_len O15.out).1; have := HLt.out.1; omega); clear o15 b15))
    | (go_at_call_of 23 (Value.slice A0 n0 c0); go_must (refine (same_any A15 A0 n15 c15 n0 c0 d.f0.s d.f0.s _ w15.heap.size w.heap.size (by exact own_reads O15.out) (by exact HX.out.1.below B15.out) hL15).mono ?_; rw [decide_eq_true rfl]; rintro e w16 ⟨rfl, k16, rfl⟩))
    | (go_at_call_of 49 (Value.int IntKind.i64 1); go_must (refine (safe_any R 1 d S _ (by exact (H.out.next B15.out).drewN k16) HLs.out.1 HLs.out.2).mono ?_; rw [show d.sf 1 = d.f1.s from rfl]; rintro e w17 ⟨A17, n17, c17, rfl, o17, b17⟩; have B17 : Hid (Below w.heap.size w w17) := Lib.hid (B15.out.trans (Below.mono ⟨b17.os, b17.tape, b17.output, b17.size, b17.block⟩ B15.out.size)); have Z17 := And.intro ((B17.out.cell (p := ⟨R', 4, none⟩) hRl).trans z4) (And.intro ((B17.out.cell (p := ⟨R', 5, none⟩) hRl).trans z5) (And.intro ((B17.out.cell (p := ⟨R', 0, none⟩) hRl).trans z0) ((B17.out.cell (p := ⟨R', 1, none⟩) hRl).trans z1))); have O17 := Lib.hid o17; have hL17 : n17 ≤ 4611686018427387904 := (by have h1 := (own_len O17.out).1; have := HLt.out.2; omega); clear o17 b17))
    | (go_at_call_of 23 (Value.slice A1 n1 c1); go_must (refine (same_any A17 A1 n17 c17 n1 c1 d.f1.s d.f1.s _ w17.heap.size w.heap.size (by exact own_reads O17.out) (by exact HX.out.2.1.below B17.out) hL17).mono ?_; rw [decide_eq_true rfl]; rintro e w18 ⟨rfl, k18, rfl⟩)))
  all_goals
    have B18 : Hid (Below w.heap.size w (w17.drewN k18)) := Lib.hid (below_drewN B17.out k18)
    have hz18 : (w17.drewN k18).cell? ⟨R', 4, none⟩ = some (.bool d.on) := (B18.out.cell (p := ⟨R', 4, none⟩) hRl).trans HZ4.out
    obtain ⟨w18, hw18⟩ : ∃ w18, w18 = w17.drewN k18 := ⟨_, rfl⟩
    rw [← hw18] at B18 hz18 ⊢
    clear hw18 Z15 Z17 O15 O17 hL15 hL17 B15 B17 HX HZ4 z0 z1 z4 z5
    by_cases hon : d.on = true
    rotate_left
    · have hon : d.on = false := by simpa using hon
      rw [hon] at hz18

      rcases HB.out with ⟨rfl, rfl⟩ | ⟨Q, Q', vk, U, T, rfl, rfl, hmod, hva⟩
      · go_wp2
        go_ret
        exact ⟨rfl, B18.out⟩
      · have HMd := Lib.hid (hmod.next B18.out)
        obtain ⟨As, ns, cs, Ar, cr, hvb, _, _⟩ := hva
        have hQ : Q' < w.heap.size := hvb.lt
        have y4 : w18.cell? ⟨Q', 4, none⟩ = some (.slice Ar vk.rs.length cr) := (B18.out.cell (p := ⟨Q', 4, none⟩) hQ).trans (by rw [hvb.cell]; rfl)
        have y2 : w18.cell? ⟨Q', 2, none⟩ = some (.int .i64 (vk.g : Int)) := (B18.out.cell (p := ⟨Q', 2, none⟩) hQ).trans (by rw [hvb.cell]; rfl)
        clear hmod hvb
        go_wp2_with fail
        go_region_held3 (fun w' => w'.cell? ⟨Q', 4, none⟩ = some (.slice Ar vk.rs.length cr) ∧ w'.cell? ⟨Q', 2, none⟩ = some (.int .i64 (vk.g : Int))) (first | exact ⟨y4, y2⟩ | go_keep) (first
          | (go_at_call 28; go_must (refine (HC.out Q R d vk U _ (by exact HMd.out.next (below_drewN (Below.refl _ _) 1))).mono ?_; rintro e w30 ⟨rfl, rfl⟩))
          | (go_at_call 27; go_must (refine (HGe.out Q R d vk U _ (by exact HMd.out.next (below_drewN (Below.refl _ _) 1))).mono ?_; rintro e w30 ⟨rfl, rfl⟩)))
        all_goals
          go_wp2
          go_ret
          exact ⟨rfl, below_drewN B18.out 1⟩
    rw [hon] at hz18
    have R0 := read_any R 0 d S w18 (H.out.next B18.out) HLs.out.1 HLs.out.2
    rw [show d.rd 0 = d.f0.all from by unfold DK.rd; rw [if_pos (no_on hon (.inl rfl))]; rfl, no_on hon (.inl rfl)] at R0
    have HR0 := Lib.hid R0
    have HR1 : Hid (∀ w19, Below w18.heap.size w18 w19 → Calls Tryd.prog 50 #[.pointer (some ⟨R, 0, none⟩), .int .i64 1] w19 (RdP d.f1.all 0 w19)) := Lib.hid (fun w19 b19 => by
      have R1 := read_any R 1 d S w19 ((H.out.next B18.out).next b19) HLs.out.1 HLs.out.2
      rwa [show d.rd 1 = d.f1.all from by unfold DK.rd; rw [if_pos (no_on hon (.inr rfl))]; rfl, no_on hon (.inr rfl)] at R1)
    clear R0
    go_wp2_with fail
    refine HR0.out.mono ?_
    rintro e w19 ⟨A19, n19, c19, rfl, o19, b19⟩
    have O19 := Lib.hid o19
    have B19 := Lib.hid b19
    clear o19 b19 HR0
    go_wp2_with fail
    refine (HR1.out w19 B19.out).mono ?_
    rintro e w20 ⟨A20, n20, c20, rfl, o20, b20⟩
    have O20 := Lib.hid o20
    have B20 : Hid (Below w.heap.size w w20) := Lib.hid (B18.out.trans ((B19.out.trans (b20.mono B19.out.size)).mono B18.out.size))
    have O19 := Lib.hid (O19.out.keep b20 (Nat.le_refl _))
    clear o20 b20 HR1 B19
    go_wp2_with fail
    refine (all_ref R' 0 (.inl rfl) d S' w20 (H'.out.next B20.out) HLs.out.1 HLs.out.2).mono ?_
    rintro e w21 ⟨A21, n21, c21, rfl, o21, b21⟩
    have hl19 : n19 ≤ 4611686018427387904 := by have h1 := (own_len O19.out).1; have := HLs.out.1; omega
    have hl20 : n20 ≤ 4611686018427387904 := by have h1 := (own_len O20.out).1; have := HLs.out.2; omega
    have HS1 : Hid (∀ q, Calls Tryd.prog 23 #[.slice A19 n19 c19, .slice A21 n21 c21] (w21.drewN q) fun e w' => e = .returned (.bool true) ∧ ∃ k, w' = (w21.drewN q).drewN k) := Lib.hid (fun q => by
      have h := same_any A19 A21 n19 c19 n21 c21 d.f0.all d.f0.all (w21.drewN q) _ _ (own_reads (O19.out.keep (below_drewN b21 q) (Nat.le_refl _))) (own_reads o21) hl19
      rwa [decide_eq_true rfl] at h)
    have O20 := Lib.hid (O20.out.keep b21 (Nat.le_refl _))
    have B21 := Lib.hid (B20.out.trans (b21.mono B20.out.size))
    clear o21 b21 O19 B20
    go_wp2_with fail
    refine (HS1.out 0).mono ?_
    rintro e w22 ⟨rfl, k22, rfl⟩
    have B22 : Hid (Below w.heap.size w (w21.drewN k22)) := Lib.hid (below_drewN B21.out k22)
    have O22 : Hid (OwnB (w21.drewN k22) w19.heap.size (.slice A20 n20 c20) d.f1.all) := O20
    obtain ⟨w22, hw22⟩ : ∃ w22, w22 = w21.drewN k22 := ⟨_, rfl⟩
    have hw22' : (w21.drewN 0).drewN k22 = w22 := by rw [hw22]; rfl
    first | rw [hw22'] | rw [← hw22]
    rw [← hw22] at B22 O22
    clear hw22 hw22' HS1 B21 O20
    go_wp2_with fail
    refine (all_ref R' 1 (.inr rfl) d S' w22 (H'.out.next B22.out) HLs.out.1 HLs.out.2).mono ?_
    rintro e w23 ⟨A23, n23, c23, rfl, o23, b23⟩
    have HS2 : Hid (∀ q, Calls Tryd.prog 23 #[.slice A20 n20 c20, .slice A23 n23 c23] (w23.drewN q) fun e w' => e = .returned (.bool true) ∧ ∃ k, w' = (w23.drewN q).drewN k) := Lib.hid (fun q => by
      have h := same_any A20 A23 n20 c20 n23 c23 d.f1.all d.f1.all (w23.drewN q) _ _ (own_reads (O22.out.keep (below_drewN b23 q) (Nat.le_refl _))) (own_reads o23) hl20
      rwa [decide_eq_true rfl] at h)
    have B23 := Lib.hid (B22.out.trans (b23.mono B22.out.size))
    clear o23 b23 O22 B22
    go_wp2_with fail
    refine (HS2.out 0).mono ?_
    rintro e w24 ⟨rfl, k24, rfl⟩
    have B24 : Hid (Below w.heap.size w (w23.drewN k24)) := Lib.hid (below_drewN B23.out k24)
    obtain ⟨w24, hw24⟩ : ∃ w24, w24 = w23.drewN k24 := ⟨_, rfl⟩
    have hw24' : (w23.drewN 0).drewN k24 = w24 := by rw [hw24]; rfl
    first | rw [hw24'] | rw [← hw24]
    rw [← hw24] at B24
    clear hw24 hw24' HS2 B23

    rcases HB.out with ⟨rfl, rfl⟩ | ⟨Q, Q', vk, U, T, rfl, rfl, hmod, hva⟩
    · go_wp2
      go_ret
      exact ⟨rfl, B24.out⟩
    · have HMd := Lib.hid (hmod.next B24.out)
      obtain ⟨As, ns, cs, Ar, cr, hvb, _, _⟩ := hva
      have hQ : Q' < w.heap.size := hvb.lt
      have y4 : w24.cell? ⟨Q', 4, none⟩ = some (.slice Ar vk.rs.length cr) := (B24.out.cell (p := ⟨Q', 4, none⟩) hQ).trans (by rw [hvb.cell]; rfl)
      have y2 : w24.cell? ⟨Q', 2, none⟩ = some (.int .i64 (vk.g : Int)) := (B24.out.cell (p := ⟨Q', 2, none⟩) hQ).trans (by rw [hvb.cell]; rfl)
      clear hmod hvb
      go_wp2_with fail
      go_region_held3 (fun w' => w'.cell? ⟨Q', 4, none⟩ = some (.slice Ar vk.rs.length cr) ∧ w'.cell? ⟨Q', 2, none⟩ = some (.int .i64 (vk.g : Int))) (first | exact ⟨y4, y2⟩ | go_keep) (first
        | (go_at_call 28; go_must (refine (HC.out Q R d vk U _ (by exact HMd.out.next (below_drewN (Below.refl _ _) 1))).mono ?_; rintro e w30 ⟨rfl, rfl⟩))
        | (go_at_call 27; go_must (refine (HGe.out Q R d vk U _ (by exact HMd.out.next (below_drewN (Below.refl _ _) 1))).mono ?_; rintro e w30 ⟨rfl, rfl⟩)))
      all_goals
        go_wp2
        go_ret
        exact ⟨rfl, below_drewN B24.out 1⟩
end Go.Proofs.YtnpmccekkjadhaaDoor.Pk
