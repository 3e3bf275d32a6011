/- The document's net: its calls. -/
import Derived.Test.YtcjfammfplcigaaPc
import Derived.Test.YtcjfammfplcigaaNtMath
import Derived.Outline
import Derived.Lib.Hide
import Derived.LoopTactic
import Derived.Deep.RegionHeld3
import Derived.Deep.DeepMust
import Derived.BigRegion
import Derived.Deep.RegionLaw
namespace Go.Proofs.Ytcjfammfplcigaa.Pk
open Go.RowKit Go.Proofs.Ytcjfammfplcigaa.Nt
set_option linter.unusedVariables false
/-- The document's net in memory, in blocks of S. -/
def RN (w : World) (M : Nat) (l : Li) (S : Nat → Prop) : Prop :=
  ∃ v ps, Blk w M 30 #[v] ∧ OwnP w 0 v ps ∧ (∀ p ∈ ps, OwnB w 0 p.val p.l) ∧ Piece.bytes ps = l ∧ S = fun b => b = M ∨ v.ownBlock = some b ∨ ∃ p ∈ ps, p.val.ownBlock = some b
section
variable {w w' : World} {M : Nat} {l : Li} {S : Nat → Prop}
theorem RN.lt (h : RN w M l S) : ∀ b, S b → b < w.heap.size := by
  obtain ⟨v, ps, h1, h2, h3, _, rfl⟩ := h
  rintro b (rfl | hb | ⟨p, hp, hb⟩)
  · exact h1.lt
  · exact h2.lt b hb
  · exact (h3 p hp).lt b hb
theorem RN.stay (h : RN w M l S) (hs : Stay S w w') : RN w' M l S := by
  obtain ⟨v, ps, h1, h2, h3, h4, rfl⟩ := h
  refine ⟨v, ps, (hs.2 M (.inl rfl)).trans h1, h2.stay (fun g hg => hs.2 g (.inr (.inl hg))), fun p hp => (h3 p hp).stay (fun g hg => hs.2 g (.inr (.inr ⟨p, hp, hg⟩))), h4, rfl⟩
theorem RN.next (h : RN w M l S) (hb : Below w.heap.size w w') : RN w' M l S := h.stay (Stay.below hb h.lt)
end
/-- A datagram more. -/
theorem RN.push {w w10 w11 : World} {M : Nat} {v v11 : Value} {ps : List Piece} {y : Piece} (h1 : Blk w M 30 #[v]) (h2 : OwnP w 0 v ps) (h3 : ∀ p ∈ ps, OwnB w 0 p.val p.l)
    (hb : Below w.heap.size w w10) (hy : OwnB w10 w.heap.size y.val y.l) (h11 : OwnP w11 0 v11 (ps ++ [y])) (hg : w10.grownBy w11 v.ownBlock) (hat : v11.ownBlock = v.ownBlock ∨ ∃ g, v11.ownBlock = some g ∧ w.heap.size ≤ g) :
    ∃ S', RN (w11.setCell ⟨M, 0, none⟩ v11) M (Piece.bytes ps ++ [y.l]) S' ∧ Turned (fun b => b = M ∨ v.ownBlock = some b ∨ ∃ p ∈ ps, p.val.ownBlock = some b) w (w11.setCell ⟨M, 0, none⟩ v11) ∧ From (fun b => b = M ∨ v.ownBlock = some b ∨ ∃ p ∈ ps, p.val.ownBlock = some b) S' w := by
  have hMv : v.ownBlock ≠ some M := own_blk_ne h2 h1 (by decide)
  have h1' := h1.below hb h1.lt
  have h1g : Blk w11 M 30 #[v] := h1'.grown hg (fun e => hMv e.symm)
  have hnM : ∀ g, g ≠ M → (w11.setCell ⟨M, 0, none⟩ v11).heap[g]? = w11.heap[g]? := fun g hg => Below.heap_setCell w11 ⟨M, 0, none⟩ _ g (by simpa using hg)
  have hv11 : ∀ g, v11.ownBlock = some g → g ≠ M := fun g hg e => own_blk_ne h11 h1g (by decide) (by rw [← e]; exact hg)
  have hyl := hy.keep (w' := w10) (Below.refl _ _) (Nat.le_refl _)
  have hpy : ∀ p ∈ ps ++ [y], OwnB w11 0 p.val p.l := by
    intro p hp
    have hp10 : OwnB w10 0 p.val p.l := by
      rcases List.mem_append.1 hp with hp | hp
      · exact (h3 p hp).stay (fun g hgp => hb.block g ((h3 p hp).lt g hgp))
      · obtain rfl : p = y := by simpa using hp
        exact hy.mono (Nat.zero_le _)
    refine hp10.stay (fun g hgp => hg.block g (hp10.lt g hgp) (fun e => ?_))
    have h2' : OwnP w10 0 v ps := h2.next hb
    exact kinds_ne hp10 h2' u8_ne_sl g hgp e.symm
  have hpM : ∀ p ∈ ps ++ [y], ∀ g, p.val.ownBlock = some g → g ≠ M := fun p hp g hgp e => own_blk_ne (hpy p hp) h1g (by decide) (by rw [← e]; exact hgp)
  refine ⟨_, ⟨v11, ps ++ [y], ?_, h11.stay (fun g hg => hnM g (hv11 g hg)), fun p hp => (hpy p hp).stay (fun g hgp => hnM g (hpM p hp g hgp)), by simp [Piece.bytes], rfl⟩, ?_, ?_⟩
  · exact h1g.set_ 0 v11
  · refine ⟨hg.os.trans hb.os, hg.tape.trans hb.tape, hg.output.trans hb.output, ?_, fun i hi hn => ?_⟩
    · have := hb.size; have := hg.size; simp [World.setCell]; omega
    · have hiM : i ≠ M := fun e => hn (.inl e)
      rw [hnM i hiM, hg.block i (by have := hb.size; omega) (fun e => hn (.inr (.inl e.symm))), hb.block i hi]
  · rintro b (rfl | hbv | ⟨p, hp, hbp⟩)
    · exact .inl (.inl rfl)
    · rcases hat with e | ⟨g, e, hge⟩
      · exact .inl (.inr (.inl (e ▸ hbv)))
      · rw [e] at hbv; injection hbv with hbv; exact .inr (by omega)
    · rcases List.mem_append.1 hp with hp | hp
      · exact .inl (.inr (.inr ⟨p, hp, hbp⟩))
      · obtain rfl : p = y := by simpa using hp
        exact .inr (own_base hy b hbp)
set_option maxRecDepth 100000 in
set_option maxHeartbeats 4000000 in
theorem refsend_any (M : Nat) (l : Li) (S : Nat → Prop) (A : Option Addr) (n c : Nat) (x : List Int) (w : World) (h : RN w M l S) (hl : l.length ≤ 512) (hr : Reads w w.heap.size 1 A n (bts x)) (hn : n ≤ 140737488355328) :
    Calls Try.prog 11 #[.pointer (some ⟨M, 0, none⟩), .slice A n c] w fun e w' => e = .returned (.bool (decide (l.length < 512))) ∧ ∃ S', RN w' M (sendN l x) S' ∧ Turned S w w' ∧ From S S' w := by
  have H := Lib.hid h
  have HR := Lib.hid hr
  obtain ⟨v, ps, h1, h2, h3, h4, hS⟩ := h
  have hps : ps.length = l.length := by rw [← h4]; simp [Piece.bytes]
  obtain ⟨Au, cu, rfl, hcu, hru⟩ := h2.reads
  rw [hps] at hcu hru h1 h2 hS
  have H1 := Lib.hid h1
  have H2 := Lib.hid h2
  have H3 := Lib.hid h3
  have H4 := Lib.hid h4
  have HS := Lib.hid hS
  have HPs := Lib.hid hps
  have x0 : w.cell? ⟨M, 0, none⟩ = some (.slice Au l.length cu) := h1.cell 0
  have f0 : w.frozen? ⟨M, 0, none⟩ = false := h1.frozen 0
  obtain ⟨k, hk⟩ : ∃ k, k = l.length := ⟨_, rfl⟩
  rw [← hk] at x0 hl ⊢
  have HK := Lib.hid hk
  clear h1 h2 h3 h4 hS hps hr hru hk hcu
  by_cases h5 : k < 512
  case neg =>
    have t5 : decide (k < 512) = false := by simp; omega
    have t6 : decide ((512 : Int) ≤ (k : Int)) = true := by simp; omega
    rw [t5]
    go_enter Try.func11, Try.ntmps11
    go_wp2
    go_ret
    refine ⟨rfl, S, ?_, Turned.refl S w, From.refl S w⟩
    unfold sendN
    rw [← HK.out, if_neg h5]
    exact H.out
  case pos =>
    have t5 : decide (k < 512) = true := by simp; omega
    have t6 : decide ((512 : Int) ≤ (k : Int)) = false := by simp; omega
    rw [t5]
    go_enter Try.func11, Try.ntmps11
    go_wp2_with fail
    have hMl : M < w.heap.size := H1.out.lt
    have HO2 : Hid (OwnP w 0 (.slice Au k cu) ps) := Lib.hid (by rw [HK.out]; exact H2.out)
    have HB1 : Hid (Blk w M 30 #[.slice Au k cu]) := Lib.hid (by rw [HK.out]; exact H1.out)
    have hMv : (Value.slice Au k cu).ownBlock ≠ some M := own_blk_ne HO2.out HB1.out (by decide)
    have HMv := Lib.hid hMv
    have z0 : (w.alloc (Obj.cells #[] 5)).cell? ⟨M, 0, none⟩ = some (.slice Au k cu) := (World.cell?_alloc_lt w _ ⟨M, 0, none⟩ hMl).trans x0
    clear hMv
    go_region_law (first
      | (refine stepE _ w.heap.size rfl (.tmp 16) (.tmp 17) rfl rfl (OwnB.fresh _ _ (Nat.le_refl _)) w.heap.size A c x n rfl (HR.out.alloc (Nat.le_refl _) _) (by omega) (by simp) ?_; intro A10 n10 c10 w10 hown10 hb10; have hb10' : Below w.heap.size w w10 := (below_drew_alloc w _).trans hb10; have y0 : w10.cell? ⟨M, 0, none⟩ = some (.slice Au k cu) := (hb10'.cell (p := ⟨M, 0, none⟩) hMl).trans x0; have g0 : w10.frozen? ⟨M, 0, none⟩ = false := (H1.out.below hb10' hMl).frozen 0; have y1 : (w10.alloc (.cells #[.slice A10 n10 c10] 31)).cell? ⟨M, 0, none⟩ = some (.slice Au k cu) := (World.cell?_alloc_lt w10 _ ⟨M, 0, none⟩ (Nat.lt_of_lt_of_le hMl hb10'.size)).trans y0; have HW10 := Lib.hid hown10; have HB10 := Lib.hid hb10'; clear hown10 hb10 hb10')
      | (refine stepP (w10.alloc (.cells #[.slice A10 n10 c10] 31)) rfl (.tmp 15) (.tmp 19) rfl 0 (.slice Au k cu) ps rfl ((HO2.out.next HB10.out).next ((Below.refl _ _).alloc (Nat.le_refl _) _)) (w10.heap.size + 1) (some ⟨w10.heap.size, 0, none⟩) 1 [⟨A10, n10, c10, x⟩] 1 rfl (reads_new w10 _ _ _ 1 _ rfl rfl (by omega)) (by have := HPs.out; have := HK.out; omega) (Nat.zero_le _) ?_; intro A11 n11 c11 w11 hown11 hg11 hat11; have hgg := grown_from ((Below.refl _ w10).alloc (Nat.le_refl _) (.cells #[.slice A10 n10 c10] 31)) hg11; have y0 : w11.cell? ⟨M, 0, none⟩ = some (.slice Au k cu) := ((HB1.out.below HB10.out hMl).grown hgg (fun e => HMv.out e.symm)).cell 0; have g0 : w11.frozen? ⟨M, 0, none⟩ = false := ((HB1.out.below HB10.out hMl).grown hgg (fun e => HMv.out e.symm)).frozen 0; have HG11 := Lib.hid hgg; have HA11 := Lib.hid hat11; have HW11 := Lib.hid hown11; clear hgg hown11 hg11 hat11))
    all_goals
      have HPu := Lib.hid (RN.push (y := ⟨A10, n10, c10, x⟩) HB1.out HO2.out H3.out HB10.out HW10.out HW11.out HG11.out (HA11.out.imp id (fun e => ⟨_, e, by have := HB10.out.size; simp; omega⟩)))
      go_wp2
      go_ret
      refine ⟨rfl, ?_⟩
      rw [HS.out, ← HK.out]
      obtain ⟨S', r1, r2, r3⟩ := HPu.out
      unfold sendN
      rw [if_pos (by rw [← HK.out]; exact h5), ← H4.out]
      exact ⟨S', r1, r2, r3⟩
set_option maxRecDepth 100000 in
set_option maxHeartbeats 4000000 in
theorem refat_any (M : Nat) (l : Li) (S : Nat → Prop) (i : Int) (w : World) (h : RN w M l S) (hl : l.length ≤ 512) (hi : -9223372036854775808 ≤ i ∧ i ≤ 9223372036854775807) (hs : Short 140737488355328 l) :
    Calls Try.prog 13 #[.pointer (some ⟨M, 0, none⟩), .int .i64 i] w fun e w' => ∃ v, e = .returned (.tuple #[v, .bool (inN l i)]) ∧ OwnB w' w.heap.size v (atN l i) ∧ Below w.heap.size w w' := by
  have hat := atN_len hs i
  obtain ⟨v, ps, h1, h2, h3, h4, hS⟩ := h
  have hps : ps.length = l.length := by rw [← h4]; simp [Piece.bytes]
  obtain ⟨Au, cu, rfl, hcu, hru⟩ := h2.reads
  rw [hps] at hcu hru h1
  have x0 : w.cell? ⟨M, 0, none⟩ = some (.slice Au l.length cu) := h1.cell 0
  obtain ⟨hi1, hi2⟩ := hi
  by_cases hin : inN l i = true
  case neg =>
    have hin' : inN l i = false := by simpa using hin
    have e0 : atN l i = [] := by unfold atN; rw [if_neg hin]
    have hno : ¬ (0 ≤ i ∧ i < (l.length : Int)) := by unfold inN at hin; simpa using hin
    rw [hin', e0]
    have hw2 : decide (i < 0) = true ∨ (decide (i < 0) = false ∧ decide ((l.length : Int) ≤ i) = true) := by
      by_cases h0 : i < 0
      · exact .inl (by simpa using h0)
      · exact .inr ⟨by simpa using h0, by simp; omega⟩
    clear h1 h2 h3 h4 hS hps hcu hru hin hin' e0 hno hs hat
    obtain ⟨k, hk⟩ : ∃ k, k = l.length := ⟨_, rfl⟩
    rw [← hk] at x0 hw2 hl
    clear hk
    rcases hw2 with hb | ⟨hb, hb2⟩
    all_goals
      go_enter Try.func13, Try.ntmps13
      go_wp2
      go_ret2
      exact ⟨.slice none 0 0, rfl, OwnB.nil_ _ _, Below.refl _ _⟩
  case pos =>
    obtain ⟨j, rfl, hj⟩ := inN_iff.1 hin
    have hpj : ps[j]? = some ps[j] := List.getElem?_eq_getElem (by omega)
    obtain ⟨y, hy⟩ : ∃ y, y = ps[j] := ⟨_, rfl⟩
    have hym : y ∈ ps := by rw [hy]; exact List.getElem_mem _
    have hyl : atN l (j : Int) = y.l := by
      unfold atN
      rw [if_pos hin, Int.toNat_natCast, ← h4, List.getD_eq_getElem?_getD]
      unfold Piece.bytes
      rw [List.getElem?_map, hpj, hy]
      rfl
    obtain ⟨ay, ny, cy, ly⟩ := y
    simp only at hyl
    have HY := Lib.hid (own_reads (show OwnB w 0 (.slice ay ny cy) ly from h3 _ hym))
    have hny : ny ≤ 140737488355328 := by have h5 := (own_len (show OwnB w 0 (.slice ay ny cy) ly from h3 _ hym)).1; rw [hyl] at hat; omega
    obtain ⟨b, off, rfl, hb, hc⟩ := hru.flat (by omega)
    have hcj := hc j _ (by rw [List.getElem?_map, hpj, ← hy]; rfl)
    simp only [Piece.val] at hcj
    rw [hin, hyl]
    have hMl : M < w.heap.size := h1.lt
    clear h1 h2 h3 h4 hS hps hcu hru hin hs hat hpj hy hym hyl hc
    obtain ⟨k, hk⟩ : ∃ k, k = l.length := ⟨_, rfl⟩
    rw [← hk] at x0 hj hl
    clear hk
    have t1 : decide ((j : Int) < 0) = false := by simp
    have t2 : decide ((k : Int) ≤ (j : Int)) = false := by simp; omega
    go_enter Try.func13, Try.ntmps13
    go_wp2_with (at_builtin; refine appE w rfl (.tmp 17) (.tmp 24) rfl w.heap.size rfl w.heap.size ay cy ly ny rfl HY.out (Nat.le_refl _) hny (Nat.le_refl _) ?_; intro v2 w2 hown2 hb2; have HO2 := Lib.hid hown2; have HB2 := Lib.hid hb2; clear hown2 hb2)
    go_ret2
    exact ⟨v2, rfl, HO2.out, HB2.out⟩
end Go.Proofs.Ytcjfammfplcigaa.Pk
