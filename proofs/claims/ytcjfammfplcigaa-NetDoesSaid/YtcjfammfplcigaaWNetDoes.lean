/- The walk of the law NetDoes. -/
import Derived.Test.YtcjfammfplcigaaNtPairU
import Derived.Test.YtcjfammfplcigaaNtMany
import Derived.LoopN
import Derived.Test.YtcjfammfplcigaaRegRound
import Derived.Deep.QuietTactic
namespace Go.Proofs.Ytcjfammfplcigaa.Pk
open Go.RowKit Go.Shelf Go.Proofs.Ytcjfammfplcigaa.Ar Go.Proofs.Ytcjfammfplcigaa.Nt
set_option linter.unusedVariables false
attribute [local go_sem] Oper.semAt_some encN
set_option maxRecDepth 100000 in
set_option maxHeartbeats 16000000 in
theorem law_NetDoes {Nb : Nat → World → Nat → Li → (Nat → Prop) → (Nat → Prop) → Prop} (C : NetC Nb) (a : Option Addr) (n c : Nat) (l : List OpT) (w : World) (h : ArgT w a n c l) :
    Calls Try.prog 3 #[.slice a n c] w fun e w' => e = .returned (.bool true) ∧ Below w.heap.size w w' := by
  obtain ⟨hr, hnc, hn, hok⟩ := h
  have HC := Lib.hid C
  have HR := Lib.hid hr
  have HK := Lib.hid hok
  have HL : Hid (l.length = n) := Lib.hid hr.olen
  clear C hr hok
  refine (callsIn_wide (n := 9)).1 ?_
  refine callsIn_of_wp_marks Try.func3 rfl trivial ?_ rfl
  simp only [Try.ntmps3, List.size_toArray, List.length_cons, List.length_nil, Nat.reduceAdd, Nat.reduceSub, Array.replicate_succ, Array.replicate_zero, List.push_toArray, List.append_toArray, List.nil_append, List.cons_append]
  refine wpIn_wide.2 ?_
  obtain ⟨u, hu'⟩ : ∃ u, u = w.heap.size := ⟨_, rfl⟩
  obtain ⟨W0, hW0⟩ : ∃ W0, W0 = w.alloc (.cells #[.bool false] 4) := ⟨_, rfl⟩
  have HB0 : Hid (Below u w W0) := Lib.hid (by
    rw [hW0, hu']
    exact (Below.refl _ w).alloc (Nat.le_refl _) _)
  have HK0 : Hid (Blk W0 u 4 #[.bool false]) := Lib.hid (by rw [hW0, hu']; exact Blk.new w _ _)
  have HU := Lib.hid hu'
  go_wp2_with fail
  rw [← hW0, ← hu']
  clear hW0 hu'
  refine (wakes_any HC.out _).mono ?_
  rintro e w1 ⟨rfl, hb1⟩
  have HK1 : Hid (Blk w1 u 4 #[.bool false]) := Lib.hid (HK0.out.below hb1 HK0.out.lt)
  have HB1 : Hid (Below u w w1) := Lib.hid (HB0.out.trans (hb1.mono (Nat.le_of_lt HK0.out.lt)))
  clear hb1 HK0 HB0
  have hu1 : u < w1.heap.size := HK1.out.lt
  have c1 : w1.cell? ⟨u, 0, none⟩ = some (.bool false) := by rw [HK1.out.cell]; rfl
  have f1 : w1.frozen? ⟨u, 0, none⟩ = false := HK1.out.frozen 0
  have HMy := Lib.hid (many_any a n c l w w1 HR.out (by have := HB1.out; rwa [HU.out] at this) hn)
  go_wp2_with fail
  refine HMy.out.mono ?_
  rintro e w2 ⟨b, rfl, hb2⟩
  have HB2 : Hid (Below u w w2) := Lib.hid (HB1.out.trans (hb2.mono (Nat.le_of_lt hu1)))
  have HK2 : Hid (Blk w2 u 4 #[.bool false]) := Lib.hid (HK1.out.below hb2 hu1)
  clear hb2 HMy HB1 HK1 c1 f1
  have hu2 : u < w2.heap.size := HK2.out.lt
  have c2 : w2.cell? ⟨u, 0, none⟩ = some (.bool false) := by rw [HK2.out.cell]; rfl
  have f2 : w2.frozen? ⟨u, 0, none⟩ = false := HK2.out.frozen 0
  cases b with
  | true =>
    go_wp2
    have k9 : OnlyS (fun b => b = u) w2 (w2.setCell ⟨u, 0, none⟩ (.bool true)) := OnlyS.set (S := fun b => b = u) (OnlyS.refl (fun b => b = u) w2) (x := u) rfl (.bool true)
    have hk9 := blk_put HK2.out (.bool true)
    have hB10 := OnlyS.bel HB2.out k9 (fun b hb => by omega) (Nat.le_of_lt (show u < w2.heap.size from HK2.out.lt))
    refine Marks.leave (B := (u + 1)) [] _ trivial (fun W' hb => ?_)
    have c5 : W'.cell? ⟨u, 0, none⟩ = some (.bool true) := by rw [hb.cell (p := ⟨u, 0, none⟩) (show u < (u + 1) by omega), hk9.cell]; rfl
    refine ⟨.bool true, by simp [results, Try.f3, go_sem, c5], rfl, ?_⟩
    rw [← HU.out]
    exact hB10.trans (hb.mono (by omega))
  | false =>
  go_wp2_with fail
  refine (AtNt.new HC.out _).mono ?_
  rintro e w3 ⟨T, rfl, h3⟩
  obtain ⟨M, hM⟩ : ∃ M, M = w3.heap.size := ⟨_, rfl⟩
  obtain ⟨w4, hw4⟩ : ∃ w4, w4 = w3.alloc (.cells #[.slice none 0 0] 30) := ⟨_, rfl⟩
  have HP4 : Hid (Pair (Nb 0) w2 T M [] [] (fun _ => False) w4) := Lib.hid (by rw [hM, hw4]; exact Pair.start h3 HC.out)
  have hM4 : w4.heap.size = M + 1 := by rw [hw4, World.size_alloc, hM]
  obtain ⟨xm, hxm⟩ : ∃ xm, xm = M + 1 := ⟨_, rfl⟩
  obtain ⟨w5, hw5⟩ : ∃ w5, w5 = w4.alloc (.cells #[.pointer (some ⟨M, 0, none⟩)] 27) := ⟨_, rfl⟩
  have HP5 : Hid (Pair (Nb 0) w2 T M [] [] (fun b => b = xm) w5) := Lib.hid ((Pair.boxed HP4.out HC.out (by rw [hxm, hM4]) hw5).less (fun b hb => .inr hb))
  have HX5 : Hid (Blk w5 xm 27 #[.pointer (some ⟨M, 0, none⟩)]) := Lib.hid (by rw [hw5, hxm, ← hM4]; exact Blk.new w4 _ _)
  clear h3 HP4
  go_wp2
  rw [← hw4, ← hM, ← hw5, ← hxm]
  clear hw4 hM hw5 hM4 hxm
  have HBw : Hid (∀ {kd L L' K} W, Pair (Nb kd) w2 T M L L' K W → Below w.heap.size w W) := Lib.hid (fun W h => by
    have := HB2.out
    rw [HU.out] at this
    exact this.trans (h.bel.mono this.size))
  go_loopw [6, 7, 8, 9, 10, 11, 33] (fun _ _ _ _ _ _ j wr => ∃ (k : Nat) (L : Li), j = .int .i64 k ∧ k ≤ n ∧ Pair (Nb (600 * k)) w2 T M L L (fun b => b = xm) wr ∧ Blk wr xm 27 #[.pointer (some ⟨M, 0, none⟩)] ∧ Short LM L) (fun _ _ _ _ _ _ j _ => n - (intOf j).toNat)
  case atStart => exact ⟨0, [], rfl, by omega, HP5.out, HX5.out, fun x hx => by cases hx⟩
  case round =>
    obtain ⟨k, L, rfl, hk, hp, hbx, hsh⟩ := hrel
    obtain ⟨w5, rfl⟩ : ∃ w5 : World, w5 = wr := ⟨_, rfl⟩
    clear HP5 HX5
    have HP5 := Lib.hid hp
    have HX5 := Lib.hid hbx
    have HSh := Lib.hid hsh
    have HFew := Lib.hid (hp.few HC.out)
    clear hp hsh hbx
    by_cases hlt : k < n
    · obtain ⟨b, off, rfl, hbb, hc⟩ := (HR.out.below (HBw.out w5 HP5.out)).ops_ (by omega)
      obtain ⟨o, ho⟩ : ∃ o, l[k]? = some o := ⟨_, List.getElem?_eq_getElem (by have := HL.out; omega)⟩
      obtain ⟨c0, c1, c3⟩ := hc k o ho
      have HOk := Lib.hid (HK.out o (List.mem_of_getElem? ho))
      obtain ⟨x, hx⟩ : ∃ x, x = o.kind := ⟨_, rfl⟩
      have hx1 : -9223372036854775808 ≤ x ∧ x ≤ 9223372036854775807 := by rw [hx]; exact HOk.out.2.2.2.2.2.2
      rw [← hx] at c0
      clear hc ho hx
      obtain ⟨xo, hxo⟩ : ∃ xo, xo = w5.heap.size := ⟨_, rfl⟩
      obtain ⟨w6, hw6⟩ : ∃ w6, w6 = w5.alloc (.cells #[.int .i64 x, .int .i64 o.i, .slice o.A o.m o.q] 33) := ⟨_, rfl⟩
      have HKo : Hid (Blk w6 xo 33 #[.int .i64 x, .int .i64 o.i, .slice o.A o.m o.q]) := Lib.hid (by rw [hw6, hxo]; exact Blk.new w5 _ _)
      have HP6 : Hid (Pair (Nb (600 * k)) w2 T M L L (fun b => b = xm ∨ b = xo) w6) := Lib.hid (Pair.boxed HP5.out HC.out hxo hw6)
      have HXm : Hid (Blk w6 xm 27 #[.pointer (some ⟨M, 0, none⟩)]) := Lib.hid (by rw [hw6]; exact HX5.out.alloc _)
      have d0 := HKo.out.cell 0
      have d1 := HKo.out.cell 1
      have d2 := HKo.out.cell 2
      by_cases h0 : x = 0
      · subst h0
        have HSn := Lib.hid (fun z => (HP6.out.next HC.out (below_drewN (Below.refl _ _) z)).nsend HC.out (km (by omega)) (A := o.A) (n := o.m) (c := o.q) HSh.out (((HOk.out.1.below (HBw.out w6 HP6.out)).more (HBw.out w6 HP6.out).size).drewN z) HOk.out.2.2.1 (Nat.le_trans HOk.out.2.1 (by show _ ≤ 140737488355328; omega)) HOk.out.2.2.2.1)
        have HSm := Lib.hid (fun (w7 : World) (h : Pair (Nb (600 * k + 1)) w2 T M (sendN L o.b) L (fun b => b = xm ∨ b = xo) w7) => h.msend HC.out (A := o.A) (n := o.m) (c := o.q) HFew.out ((HOk.out.1.below (HBw.out w7 h)).more (HBw.out w7 h).size) (Nat.le_trans HOk.out.2.1 (by show _ ≤ 140737488355328; omega)))
        go_wp2_with fail
        rw [← hw6, ← hxo]
        clear hw6 hxo
        have x6 : w6.cell? ⟨xm, 0, none⟩ = some (.pointer (some ⟨M, 0, none⟩)) := HXm.out.cell 0
        refine wp_region_noPanic ?_
        go_region_held3 (fun w' => w'.cell? ⟨xm, 0, none⟩ = some (.pointer (some ⟨M, 0, none⟩)) ∧ w'.cell? ⟨xo, 2, none⟩ = some (.slice o.A o.m o.q)) (first | exact ⟨x6, d2⟩ | exact Z1 | exact Z2 | go_keep) (first
          | (go_at_call 10; go_must (refine (HSn.out 1).mono ?_; rintro e w7 ⟨rfl, hp7, hl7⟩; have HP7 := Lib.hid hp7; have K7 := Lib.hid (HXm.out.lie hl7 (.inl rfl)); have O7 := Lib.hid (HKo.out.lie hl7 (.inr rfl)); have Z1 : w7.cell? ⟨xm, 0, none⟩ = some (.pointer (some ⟨M, 0, none⟩)) ∧ w7.cell? ⟨xo, 2, none⟩ = some (.slice o.A o.m o.q) := ⟨K7.out.cell 0, O7.out.cell 2⟩; clear hp7 hl7))
          | (go_at_call 11; go_must (refine (HSm.out _ (HP7.out.next HC.out (by first | exact Below.refl _ _ | exact below_drewN (Below.refl _ _) 1))).mono ?_; rintro e w8 ⟨rfl, hp8, hl8⟩; have HP8 := Lib.hid hp8; have K8 := Lib.hid (K7.out.lie hl8 (.inl rfl)); have O8 := Lib.hid (O7.out.lie hl8 (.inr rfl)); have Z2 : w8.cell? ⟨xm, 0, none⟩ = some (.pointer (some ⟨M, 0, none⟩)) ∧ w8.cell? ⟨xo, 2, none⟩ = some (.slice o.A o.m o.q) := ⟨K8.out.cell 0, O8.out.cell 2⟩; clear hp8 hl8)))
        all_goals refine NoPanic.normal ?_
        all_goals go_wp2_with fail
        all_goals
          obtain ⟨LL, hLL⟩ : ∃ LL, LL = sendN L o.b := ⟨_, rfl⟩
          rw [← hLL] at HP8
          have HSL : Hid (Short LM LL) := Lib.hid (by rw [hLL]; exact HSh.out.send (by have := HOk.out.1.1; have h2 := HOk.out.2.1; simp at this; show o.b.length ≤ 140737488355328; omega))
          have HPf : Hid (Pair (Nb (600 * (k + 1))) w2 T M LL LL (fun b => b = xm ∨ b = xo) w8) := Lib.hid (HP8.out.up HC.out (by omega))
          have hfew := HPf.out.few HC.out
          clear hLL
          obtain ⟨Au, cu, xu, hMl, _, hMK⟩ := HPf.out.under
          have x8 : w8.cell? ⟨xm, 0, none⟩ = some (.pointer (some ⟨M, 0, none⟩)) := K8.out.cell 0
          have hxml : xm < w8.heap.size := K8.out.lt
          have HLn := Lib.hid (fun z => (HPf.out.next HC.out (below_drewN (Below.refl _ _) z)).len HC.out)
          refine wp_region_noPanic ?_
          go_region_held3 (fun w' => w'.cell? ⟨xm, 0, none⟩ = some (.pointer (some ⟨M, 0, none⟩)) ∧ w'.cell? ⟨M, 0, none⟩ = some (.slice Au LL.length cu)) (first | exact ⟨x8, xu⟩ | exact Z3 | exact Z4 | go_keep) (first
            | (go_at_call 19; (refine (HLn.out 1).mono ?_; rintro e w9 ⟨rfl, hb9⟩; have HB9 : Hid (Below w8.heap.size w8 w9) := Lib.hid ((below_drewN (Below.refl _ _) 1).trans hb9); have HP9 := Lib.hid (HPf.out.next HC.out HB9.out); have Z3 : w9.cell? ⟨xm, 0, none⟩ = some (.pointer (some ⟨M, 0, none⟩)) ∧ w9.cell? ⟨M, 0, none⟩ = some (.slice Au LL.length cu) := ⟨(HB9.out.cell (p := ⟨xm, 0, none⟩) hxml).trans x8, (HB9.out.cell (p := ⟨M, 0, none⟩) hMl).trans xu⟩; clear hb9))
            | (go_at_call 19; go_must (refine (HP9.out.len HC.out).mono ?_; rintro e w10 ⟨rfl, hb10⟩; have HB10 : Hid (Below w8.heap.size w8 w10) := Lib.hid (HB9.out.trans (hb10.mono HB9.out.size)); have Z4 : w10.cell? ⟨xm, 0, none⟩ = some (.pointer (some ⟨M, 0, none⟩)) ∧ w10.cell? ⟨M, 0, none⟩ = some (.slice Au LL.length cu) := ⟨(HB10.out.cell (p := ⟨xm, 0, none⟩) hxml).trans x8, (HB10.out.cell (p := ⟨M, 0, none⟩) hMl).trans xu⟩; clear hb10)))
          all_goals refine NoPanic.normal ?_
          all_goals go_wp2
          all_goals go_roundw
          case rel => exact ⟨k + 1, LL, by go_num, by omega, (HPf.out.next HC.out HB10.out).less (fun b hb => .inl hb), K8.out.below HB10.out hxml, HSL.out⟩
          case measure => simp [intOf]; omega
      · by_cases h3 : x = 3
        · subst h3
          have HSn := Lib.hid (fun z => (HP6.out.next HC.out (below_drewN (Below.refl _ _) z)).ndouble HC.out (km (by omega)) o.i HSh.out HOk.out.2.2.2.2.1 HOk.out.2.2.2.2.2.1)
          have HSm := Lib.hid (fun (w7 : World) (h : Pair (Nb (600 * k + 1)) w2 T M (dblN L o.i) L (fun b => b = xm ∨ b = xo) w7) => h.mdouble HC.out o.i HFew.out HSh.out HOk.out.2.2.2.2.1 HOk.out.2.2.2.2.2.1)
          go_wp2_with fail
          rw [← hw6, ← hxo]
          clear hw6 hxo
          have x6 : w6.cell? ⟨xm, 0, none⟩ = some (.pointer (some ⟨M, 0, none⟩)) := HXm.out.cell 0
          refine wp_region_noPanic ?_
          go_region_held3 (fun w' => w'.cell? ⟨xm, 0, none⟩ = some (.pointer (some ⟨M, 0, none⟩)) ∧ w'.cell? ⟨xo, 1, none⟩ = some (.int .i64 o.i)) (first | exact ⟨x6, d1⟩ | exact Z1 | exact Z2 | go_keep) (first
            | (go_at_call 17; go_must (refine (HSn.out 1).mono ?_; rintro e w7 ⟨rfl, hp7, hl7⟩; have HP7 := Lib.hid hp7; have K7 := Lib.hid (HXm.out.lie hl7 (.inl rfl)); have O7 := Lib.hid (HKo.out.lie hl7 (.inr rfl)); have Z1 : w7.cell? ⟨xm, 0, none⟩ = some (.pointer (some ⟨M, 0, none⟩)) ∧ w7.cell? ⟨xo, 1, none⟩ = some (.int .i64 o.i) := ⟨K7.out.cell 0, O7.out.cell 1⟩; clear hp7 hl7))
            | (go_at_call 18; go_must (refine (HSm.out _ (HP7.out.next HC.out (by first | exact Below.refl _ _ | exact below_drewN (Below.refl _ _) 1))).mono ?_; rintro e w8 ⟨rfl, hp8, hl8⟩; have HP8 := Lib.hid hp8; have K8 := Lib.hid (K7.out.lie hl8 (.inl rfl)); have O8 := Lib.hid (O7.out.lie hl8 (.inr rfl)); have Z2 : w8.cell? ⟨xm, 0, none⟩ = some (.pointer (some ⟨M, 0, none⟩)) ∧ w8.cell? ⟨xo, 1, none⟩ = some (.int .i64 o.i) := ⟨K8.out.cell 0, O8.out.cell 1⟩; clear hp8 hl8)))
          all_goals refine NoPanic.normal ?_
          all_goals go_wp2_with fail
          all_goals
            obtain ⟨LL, hLL⟩ : ∃ LL, LL = dblN L o.i := ⟨_, rfl⟩
            rw [← hLL] at HP8
            have HSL : Hid (Short LM LL) := Lib.hid (by rw [hLL]; exact HSh.out.dbl _)
            have HPf : Hid (Pair (Nb (600 * (k + 1))) w2 T M LL LL (fun b => b = xm ∨ b = xo) w8) := Lib.hid (HP8.out.up HC.out (by omega))
            have hfew := HPf.out.few HC.out
            clear hLL
            obtain ⟨Au, cu, xu, hMl, _, hMK⟩ := HPf.out.under
            have x8 : w8.cell? ⟨xm, 0, none⟩ = some (.pointer (some ⟨M, 0, none⟩)) := K8.out.cell 0
            have hxml : xm < w8.heap.size := K8.out.lt
            have HLn := Lib.hid (fun z => (HPf.out.next HC.out (below_drewN (Below.refl _ _) z)).len HC.out)
            refine wp_region_noPanic ?_
            go_region_held3 (fun w' => w'.cell? ⟨xm, 0, none⟩ = some (.pointer (some ⟨M, 0, none⟩)) ∧ w'.cell? ⟨M, 0, none⟩ = some (.slice Au LL.length cu)) (first | exact ⟨x8, xu⟩ | exact Z3 | exact Z4 | go_keep) (first
              | (go_at_call 19; (refine (HLn.out 1).mono ?_; rintro e w9 ⟨rfl, hb9⟩; have HB9 : Hid (Below w8.heap.size w8 w9) := Lib.hid ((below_drewN (Below.refl _ _) 1).trans hb9); have HP9 := Lib.hid (HPf.out.next HC.out HB9.out); have Z3 : w9.cell? ⟨xm, 0, none⟩ = some (.pointer (some ⟨M, 0, none⟩)) ∧ w9.cell? ⟨M, 0, none⟩ = some (.slice Au LL.length cu) := ⟨(HB9.out.cell (p := ⟨xm, 0, none⟩) hxml).trans x8, (HB9.out.cell (p := ⟨M, 0, none⟩) hMl).trans xu⟩; clear hb9))
              | (go_at_call 19; go_must (refine (HP9.out.len HC.out).mono ?_; rintro e w10 ⟨rfl, hb10⟩; have HB10 : Hid (Below w8.heap.size w8 w10) := Lib.hid (HB9.out.trans (hb10.mono HB9.out.size)); have Z4 : w10.cell? ⟨xm, 0, none⟩ = some (.pointer (some ⟨M, 0, none⟩)) ∧ w10.cell? ⟨M, 0, none⟩ = some (.slice Au LL.length cu) := ⟨(HB10.out.cell (p := ⟨xm, 0, none⟩) hxml).trans x8, (HB10.out.cell (p := ⟨M, 0, none⟩) hMl).trans xu⟩; clear hb10)))
            all_goals refine NoPanic.normal ?_
            all_goals go_wp2
            all_goals go_roundw
            case rel => exact ⟨k + 1, LL, by go_num, by omega, (HPf.out.next HC.out HB10.out).less (fun b hb => .inl hb), K8.out.below HB10.out hxml, HSL.out⟩
            case measure => simp [intOf]; omega
        · by_cases h4 : x = 4
          · subst h4
            go_wp2_with fail
            rw [← hw6, ← hxo]
            clear hw6 hxo
            go_loopw [11] (fun z wr => ∃ (y : Nat) (LL : Li), z = .int .i64 y ∧ y ≤ 600 ∧ Pair (Nb (600 * k + y)) w2 T M LL LL (fun b => b = xm ∨ b = xo) wr ∧ Short LM LL ∧ Blk wr xm 27 #[.pointer (some ⟨M, 0, none⟩)] ∧ Blk wr xo 33 #[.int .i64 4, .int .i64 o.i, .slice o.A o.m o.q]) (fun z _ => 600 - (intOf z).toNat)
            case atStart => exact ⟨0, L, rfl, by omega, HP6.out, HSh.out, HXm.out, HKo.out⟩
            case round =>
              obtain ⟨y, LA, rfl, hy, hpa, hsa, hxa, hka⟩ := hrel
              obtain ⟨wa, rfl⟩ : ∃ wa : World, wa = wr := ⟨_, rfl⟩
              have HPA := Lib.hid hpa
              have HSA := Lib.hid hsa
              have HXA := Lib.hid hxa
              have HKA := Lib.hid hka
              have HFA := Lib.hid (hpa.few HC.out)
              clear hpa hsa hxa hka d0 d1 d2
              have d0 := HKA.out.cell 0
              have d1 := HKA.out.cell 1
              have d2 := HKA.out.cell 2
              have x6 : wa.cell? ⟨xm, 0, none⟩ = some (.pointer (some ⟨M, 0, none⟩)) := HXA.out.cell 0
              have hoi := HOk.out.2.2.2.2
              by_cases ha : (y : Int) < o.i
              · by_cases hb : y < 600
                · have HSn := Lib.hid (fun z => (HPA.out.next HC.out (below_drewN (Below.refl _ _) z)).nsend HC.out (km (by omega)) (A := o.A) (n := o.m) (c := o.q) HSA.out (((HOk.out.1.below (HBw.out wa HPA.out)).more (HBw.out wa HPA.out).size).drewN z) HOk.out.2.2.1 (Nat.le_trans HOk.out.2.1 (by show _ ≤ 140737488355328; omega)) HOk.out.2.2.2.1)
                  have HSm := Lib.hid (fun (w7 : World) (h : Pair (Nb (600 * k + y + 1)) w2 T M (sendN LA o.b) LA (fun b => b = xm ∨ b = xo) w7) => h.msend HC.out (A := o.A) (n := o.m) (c := o.q) HFA.out ((HOk.out.1.below (HBw.out w7 h)).more (HBw.out w7 h).size) (Nat.le_trans HOk.out.2.1 (by show _ ≤ 140737488355328; omega)))
                  go_wp2_with fail
                  refine wp_region_noPanic ?_
                  go_region_held3 (fun w' => w'.cell? ⟨xm, 0, none⟩ = some (.pointer (some ⟨M, 0, none⟩)) ∧ w'.cell? ⟨xo, 2, none⟩ = some (.slice o.A o.m o.q)) (first | exact ⟨x6, d2⟩ | exact Z1 | exact Z2 | go_keep) (first
                    | (go_at_call 10; go_must (refine (HSn.out 1).mono ?_; rintro e w7 ⟨rfl, hp7, hl7⟩; have HP7 := Lib.hid hp7; have K7 := Lib.hid (HXA.out.lie hl7 (.inl rfl)); have O7 := Lib.hid (HKA.out.lie hl7 (.inr rfl)); have Z1 : w7.cell? ⟨xm, 0, none⟩ = some (.pointer (some ⟨M, 0, none⟩)) ∧ w7.cell? ⟨xo, 2, none⟩ = some (.slice o.A o.m o.q) := ⟨K7.out.cell 0, O7.out.cell 2⟩; clear hp7 hl7))
                    | (go_at_call 11; go_must (refine (HSm.out _ (HP7.out.next HC.out (by first | exact Below.refl _ _ | exact below_drewN (Below.refl _ _) 1))).mono ?_; rintro e w8 ⟨rfl, hp8, hl8⟩; have HP8 := Lib.hid hp8; have K8 := Lib.hid (K7.out.lie hl8 (.inl rfl)); have O8 := Lib.hid (O7.out.lie hl8 (.inr rfl)); have Z2 : w8.cell? ⟨xm, 0, none⟩ = some (.pointer (some ⟨M, 0, none⟩)) ∧ w8.cell? ⟨xo, 2, none⟩ = some (.slice o.A o.m o.q) := ⟨K8.out.cell 0, O8.out.cell 2⟩; clear hp8 hl8)))
                  all_goals refine NoPanic.normal ?_
                  all_goals go_wp2
                  all_goals go_roundw
                  case rel => exact ⟨y + 1, sendN LA o.b, by go_num, by omega, HP8.out, HSA.out.send (by have := HOk.out.1.1; have h2 := HOk.out.2.1; simp at this; show o.b.length ≤ 140737488355328; omega), K8.out, O8.out⟩
                  case measure => simp [intOf]; omega
                · go_wp2_with fail
                  obtain ⟨LL, hLL⟩ : ∃ LL, LL = LA := ⟨_, rfl⟩
                  rw [← hLL] at HPA
                  have HSL : Hid (Short LM LL) := Lib.hid (by rw [hLL]; exact HSA.out)
                  have HPf : Hid (Pair (Nb (600 * (k + 1))) w2 T M LL LL (fun b => b = xm ∨ b = xo) wa) := Lib.hid (HPA.out.up HC.out (by omega))
                  have hfew := HPf.out.few HC.out
                  clear hLL
                  obtain ⟨Au, cu, xu, hMl, _, hMK⟩ := HPf.out.under
                  have x8 : wa.cell? ⟨xm, 0, none⟩ = some (.pointer (some ⟨M, 0, none⟩)) := HXA.out.cell 0
                  have hxml : xm < wa.heap.size := HXA.out.lt
                  have HLn := Lib.hid (fun z => (HPf.out.next HC.out (below_drewN (Below.refl _ _) z)).len HC.out)
                  refine wp_region_noPanic ?_
                  go_region_held3 (fun w' => w'.cell? ⟨xm, 0, none⟩ = some (.pointer (some ⟨M, 0, none⟩)) ∧ w'.cell? ⟨M, 0, none⟩ = some (.slice Au LL.length cu)) (first | exact ⟨x8, xu⟩ | exact Z3 | exact Z4 | go_keep) (first
                    | (go_at_call 19; (refine (HLn.out 1).mono ?_; rintro e w9 ⟨rfl, hb9⟩; have HB9 : Hid (Below wa.heap.size wa w9) := Lib.hid ((below_drewN (Below.refl _ _) 1).trans hb9); have HP9 := Lib.hid (HPf.out.next HC.out HB9.out); have Z3 : w9.cell? ⟨xm, 0, none⟩ = some (.pointer (some ⟨M, 0, none⟩)) ∧ w9.cell? ⟨M, 0, none⟩ = some (.slice Au LL.length cu) := ⟨(HB9.out.cell (p := ⟨xm, 0, none⟩) hxml).trans x8, (HB9.out.cell (p := ⟨M, 0, none⟩) hMl).trans xu⟩; clear hb9))
                    | (go_at_call 19; go_must (refine (HP9.out.len HC.out).mono ?_; rintro e w10 ⟨rfl, hb10⟩; have HB10 : Hid (Below wa.heap.size wa w10) := Lib.hid (HB9.out.trans (hb10.mono HB9.out.size)); have Z4 : w10.cell? ⟨xm, 0, none⟩ = some (.pointer (some ⟨M, 0, none⟩)) ∧ w10.cell? ⟨M, 0, none⟩ = some (.slice Au LL.length cu) := ⟨(HB10.out.cell (p := ⟨xm, 0, none⟩) hxml).trans x8, (HB10.out.cell (p := ⟨M, 0, none⟩) hMl).trans xu⟩; clear hb10)))
                  all_goals refine NoPanic.normal ?_
                  all_goals go_wp2
                  all_goals go_roundw
                  case rel => exact ⟨k + 1, LL, by go_num, by omega, (HPf.out.next HC.out HB10.out).less (fun b hb => .inl hb), HXA.out.below HB10.out hxml, HSL.out⟩
                  case measure => simp [intOf]; omega
              · go_wp2_with fail
                obtain ⟨LL, hLL⟩ : ∃ LL, LL = LA := ⟨_, rfl⟩
                rw [← hLL] at HPA
                have HSL : Hid (Short LM LL) := Lib.hid (by rw [hLL]; exact HSA.out)
                have HPf : Hid (Pair (Nb (600 * (k + 1))) w2 T M LL LL (fun b => b = xm ∨ b = xo) wa) := Lib.hid (HPA.out.up HC.out (by omega))
                have hfew := HPf.out.few HC.out
                clear hLL
                obtain ⟨Au, cu, xu, hMl, _, hMK⟩ := HPf.out.under
                have x8 : wa.cell? ⟨xm, 0, none⟩ = some (.pointer (some ⟨M, 0, none⟩)) := HXA.out.cell 0
                have hxml : xm < wa.heap.size := HXA.out.lt
                have HLn := Lib.hid (fun z => (HPf.out.next HC.out (below_drewN (Below.refl _ _) z)).len HC.out)
                refine wp_region_noPanic ?_
                go_region_held3 (fun w' => w'.cell? ⟨xm, 0, none⟩ = some (.pointer (some ⟨M, 0, none⟩)) ∧ w'.cell? ⟨M, 0, none⟩ = some (.slice Au LL.length cu)) (first | exact ⟨x8, xu⟩ | exact Z3 | exact Z4 | go_keep) (first
                  | (go_at_call 19; (refine (HLn.out 1).mono ?_; rintro e w9 ⟨rfl, hb9⟩; have HB9 : Hid (Below wa.heap.size wa w9) := Lib.hid ((below_drewN (Below.refl _ _) 1).trans hb9); have HP9 := Lib.hid (HPf.out.next HC.out HB9.out); have Z3 : w9.cell? ⟨xm, 0, none⟩ = some (.pointer (some ⟨M, 0, none⟩)) ∧ w9.cell? ⟨M, 0, none⟩ = some (.slice Au LL.length cu) := ⟨(HB9.out.cell (p := ⟨xm, 0, none⟩) hxml).trans x8, (HB9.out.cell (p := ⟨M, 0, none⟩) hMl).trans xu⟩; clear hb9))
                  | (go_at_call 19; go_must (refine (HP9.out.len HC.out).mono ?_; rintro e w10 ⟨rfl, hb10⟩; have HB10 : Hid (Below wa.heap.size wa w10) := Lib.hid (HB9.out.trans (hb10.mono HB9.out.size)); have Z4 : w10.cell? ⟨xm, 0, none⟩ = some (.pointer (some ⟨M, 0, none⟩)) ∧ w10.cell? ⟨M, 0, none⟩ = some (.slice Au LL.length cu) := ⟨(HB10.out.cell (p := ⟨xm, 0, none⟩) hxml).trans x8, (HB10.out.cell (p := ⟨M, 0, none⟩) hMl).trans xu⟩; clear hb10)))
                all_goals refine NoPanic.normal ?_
                all_goals go_wp2
                all_goals go_roundw
                case rel => exact ⟨k + 1, LL, by go_num, by omega, (HPf.out.next HC.out HB10.out).less (fun b hb => .inl hb), HXA.out.below HB10.out hxml, HSL.out⟩
                case measure => simp [intOf]; omega
          · by_cases h12 : x = 1 ∨ x = 2
            · have HX12 := Lib.hid h12
              by_cases h1 : x = 1
              · subst h1
                clear h12
                go_wp2_with fail
                rw [← hw6, ← hxo]
                clear hw6 hxo
                refine (HP6.out.nat_ HC.out o.i HSh.out HOk.out.2.2.2.2.1 HOk.out.2.2.2.2.2.1).mono ?_
                rintro e w7 ⟨A1, n1, c1_, rfl, ho1, hp7, hl7⟩
                have HP7 := Lib.hid hp7
                have HO1 := Lib.hid ho1
                have K7 := Lib.hid (HXm.out.lie hl7 (.inl rfl))
                have O7 := Lib.hid (HKo.out.lie hl7 (.inr rfl))
                have x7 : w7.cell? ⟨xm, 0, none⟩ = some (.pointer (some ⟨M, 0, none⟩)) := K7.out.cell 0
                have e7 : w7.cell? ⟨xo, 1, none⟩ = some (.int .i64 o.i) := O7.out.cell 1
                clear ho1 hp7 hl7 d0 d1 d2
                go_wp2_with fail
                refine (HP7.out.mat HC.out o.i HFew.out HSh.out HOk.out.2.2.2.2.1 HOk.out.2.2.2.2.2.1).mono ?_
                rintro e w8 ⟨A2, n2, c2_, rfl, ho2, hp8, hl8⟩
                have HP8 := Lib.hid hp8
                have HO2 := Lib.hid ho2
                have K8 := Lib.hid (K7.out.lie hl8 (.inl (.inl rfl)))
                have O8 := Lib.hid (O7.out.lie hl8 (.inl (.inr rfl)))
                have HO1b := Lib.hid (HO1.out.stay (fun g hg => hl8 g (.inr hg)))
                have x8 : w8.cell? ⟨xm, 0, none⟩ = some (.pointer (some ⟨M, 0, none⟩)) := K8.out.cell 0
                have d8 : w8.cell? ⟨xo, 0, none⟩ = some (.int .i64 1) := O8.out.cell 0
                have e8 : w8.cell? ⟨xo, 1, none⟩ = some (.int .i64 o.i) := O8.out.cell 1
                clear ho2 hp8 hl8 HP7 HO1 x7 e7
                have hI : (inN L o.i != inN L o.i) = false := by simp
                have HSa := Lib.hid (same_any A1 A2 n1 c1_ n2 c2_ _ _ w8 w8.heap.size w8.heap.size (owr_reads HO1b.out) (owr_reads HO2.out) (by have h1 := (owr_len HO1b.out).1; have h2 := atN_len HSh.out o.i; show n1 ≤ 4611686018427387904; have h3 : LM = 140737488355328 := rfl; omega))
                rw [decide_eq_true (show atN L o.i = atN L o.i from rfl)] at HSa
                obtain ⟨bI, hbI⟩ : ∃ bI, bI = inN L o.i := ⟨_, rfl⟩
                rw [← hbI] at hI ⊢
                clear hbI
                go_wp2_with fail
                refine HSa.out.mono ?_
                rintro e wz ⟨rfl, kz, hkz⟩
                have HPZ : Hid (Pair (Nb (600 * k)) w2 T M L L (fun b => b = xm ∨ b = xo) wz) := Lib.hid (by rw [hkz]; exact (HP8.out.next HC.out (below_drewN (Below.refl _ _) kz)).less (fun b hb => .inl (.inl hb)))
                have KZ : Hid (Blk wz xm 27 #[.pointer (some ⟨M, 0, none⟩)]) := Lib.hid (by rw [hkz]; exact K8.out.drewN kz)
                clear hkz HSa
                go_wp2_with fail
                obtain ⟨LL, hLL⟩ : ∃ LL, LL = L := ⟨_, rfl⟩
                rw [← hLL] at HPZ
                have HSL : Hid (Short LM LL) := Lib.hid (by rw [hLL]; exact HSh.out)
                have HPf : Hid (Pair (Nb (600 * (k + 1))) w2 T M LL LL (fun b => b = xm ∨ b = xo) wz) := Lib.hid (HPZ.out.up HC.out (by omega))
                have hfew := HPf.out.few HC.out
                clear hLL
                obtain ⟨Au, cu, xu, hMl, _, hMK⟩ := HPf.out.under
                have x8 : wz.cell? ⟨xm, 0, none⟩ = some (.pointer (some ⟨M, 0, none⟩)) := KZ.out.cell 0
                have hxml : xm < wz.heap.size := KZ.out.lt
                have HLn := Lib.hid (fun z => (HPf.out.next HC.out (below_drewN (Below.refl _ _) z)).len HC.out)
                refine wp_region_noPanic ?_
                go_region_held3 (fun w' => w'.cell? ⟨xm, 0, none⟩ = some (.pointer (some ⟨M, 0, none⟩)) ∧ w'.cell? ⟨M, 0, none⟩ = some (.slice Au LL.length cu)) (first | exact ⟨x8, xu⟩ | exact Z3 | exact Z4 | go_keep) (first
                  | (go_at_call 19; (refine (HLn.out 1).mono ?_; rintro e w9 ⟨rfl, hb9⟩; have HB9 : Hid (Below wz.heap.size wz w9) := Lib.hid ((below_drewN (Below.refl _ _) 1).trans hb9); have HP9 := Lib.hid (HPf.out.next HC.out HB9.out); have Z3 : w9.cell? ⟨xm, 0, none⟩ = some (.pointer (some ⟨M, 0, none⟩)) ∧ w9.cell? ⟨M, 0, none⟩ = some (.slice Au LL.length cu) := ⟨(HB9.out.cell (p := ⟨xm, 0, none⟩) hxml).trans x8, (HB9.out.cell (p := ⟨M, 0, none⟩) hMl).trans xu⟩; clear hb9))
                  | (go_at_call 19; go_must (refine (HP9.out.len HC.out).mono ?_; rintro e w10 ⟨rfl, hb10⟩; have HB10 : Hid (Below wz.heap.size wz w10) := Lib.hid (HB9.out.trans (hb10.mono HB9.out.size)); have Z4 : w10.cell? ⟨xm, 0, none⟩ = some (.pointer (some ⟨M, 0, none⟩)) ∧ w10.cell? ⟨M, 0, none⟩ = some (.slice Au LL.length cu) := ⟨(HB10.out.cell (p := ⟨xm, 0, none⟩) hxml).trans x8, (HB10.out.cell (p := ⟨M, 0, none⟩) hMl).trans xu⟩; clear hb10)))
                all_goals refine NoPanic.normal ?_
                all_goals go_wp2
                all_goals go_roundw
                case rel => exact ⟨k + 1, LL, by go_num, by omega, (HPf.out.next HC.out HB10.out).less (fun b hb => .inl hb), KZ.out.below HB10.out hxml, HSL.out⟩
                case measure => simp [intOf]; omega
              · obtain rfl : x = 2 := by rcases h12 with h | h; exact absurd h h1; exact h
                clear h12 h1
                go_wp2_with fail
                rw [← hw6, ← hxo]
                clear hw6 hxo
                refine (HP6.out.nat_ HC.out o.i HSh.out HOk.out.2.2.2.2.1 HOk.out.2.2.2.2.2.1).mono ?_
                rintro e w7 ⟨A1, n1, c1_, rfl, ho1, hp7, hl7⟩
                have HP7 := Lib.hid hp7
                have HO1 := Lib.hid ho1
                have K7 := Lib.hid (HXm.out.lie hl7 (.inl rfl))
                have O7 := Lib.hid (HKo.out.lie hl7 (.inr rfl))
                have x7 : w7.cell? ⟨xm, 0, none⟩ = some (.pointer (some ⟨M, 0, none⟩)) := K7.out.cell 0
                have e7 : w7.cell? ⟨xo, 1, none⟩ = some (.int .i64 o.i) := O7.out.cell 1
                clear ho1 hp7 hl7 d0 d1 d2
                go_wp2_with fail
                refine (HP7.out.mat HC.out o.i HFew.out HSh.out HOk.out.2.2.2.2.1 HOk.out.2.2.2.2.2.1).mono ?_
                rintro e w8 ⟨A2, n2, c2_, rfl, ho2, hp8, hl8⟩
                have HP8 := Lib.hid hp8
                have HO2 := Lib.hid ho2
                have K8 := Lib.hid (K7.out.lie hl8 (.inl (.inl rfl)))
                have O8 := Lib.hid (O7.out.lie hl8 (.inl (.inr rfl)))
                have HO1b := Lib.hid (HO1.out.stay (fun g hg => hl8 g (.inr hg)))
                have x8 : w8.cell? ⟨xm, 0, none⟩ = some (.pointer (some ⟨M, 0, none⟩)) := K8.out.cell 0
                have d8 : w8.cell? ⟨xo, 0, none⟩ = some (.int .i64 2) := O8.out.cell 0
                have e8 : w8.cell? ⟨xo, 1, none⟩ = some (.int .i64 o.i) := O8.out.cell 1
                clear ho2 hp8 hl8 HP7 HO1 x7 e7
                go_wp2_with fail
                refine (HP8.out.ntake HC.out o.i HSh.out HOk.out.2.2.2.2.1 HOk.out.2.2.2.2.2.1).mono ?_
                rintro e w9 ⟨A3, n3, c3_, rfl, ho3, hp9, hl9⟩
                have HPn := Lib.hid hp9
                have HO3 := Lib.hid ho3
                have K9 := Lib.hid (K8.out.lie hl9 (.inl (.inl (.inl rfl))))
                have O9 := Lib.hid (O8.out.lie hl9 (.inl (.inl (.inr rfl))))
                have x9 : w9.cell? ⟨xm, 0, none⟩ = some (.pointer (some ⟨M, 0, none⟩)) := K9.out.cell 0
                have e9 : w9.cell? ⟨xo, 1, none⟩ = some (.int .i64 o.i) := O9.out.cell 1
                clear ho3 hp9 hl9 HP8 HO1b HO2 x8 d8 e8
                go_wp2_with fail
                refine (HPn.out.mtake HC.out o.i HFew.out HSh.out HOk.out.2.2.2.2.1 HOk.out.2.2.2.2.2.1).mono ?_
                rintro e w10 ⟨A4, n4, c4_, rfl, ho4, hp10, hl10⟩
                have HPm := Lib.hid hp10
                have HO4 := Lib.hid ho4
                have K10 := Lib.hid (K9.out.lie hl10 (.inl (.inl (.inl (.inl rfl)))))
                have HO3b := Lib.hid (HO3.out.stay (fun g hg => hl10 g (.inr hg)))
                clear ho4 hp10 hl10 HPn HO3 x9 e9
                have hI : (inN L o.i != inN L o.i) = false := by simp
                have HSa := Lib.hid (same_any A3 A4 n3 c3_ n4 c4_ _ _ w10 w10.heap.size w10.heap.size (owr_reads HO3b.out) (owr_reads HO4.out) (by have h1 := (owr_len HO3b.out).1; have h2 := atN_len HSh.out o.i; show n3 ≤ 4611686018427387904; have h3 : LM = 140737488355328 := rfl; omega))
                rw [decide_eq_true (show atN L o.i = atN L o.i from rfl)] at HSa
                obtain ⟨bI, hbI⟩ : ∃ bI, bI = inN L o.i := ⟨_, rfl⟩
                rw [← hbI] at hI ⊢
                clear hbI
                go_wp2_with fail
                refine HSa.out.mono ?_
                rintro e wz ⟨rfl, kz, hkz⟩
                have HPZ : Hid (Pair (Nb (600 * k)) w2 T M (takeN L o.i) (takeN L o.i) (fun b => b = xm ∨ b = xo) wz) := Lib.hid (by rw [hkz]; exact (HPm.out.next HC.out (below_drewN (Below.refl _ _) kz)).less (fun b hb => .inl (.inl (.inl (.inl hb)))))
                have KZ : Hid (Blk wz xm 27 #[.pointer (some ⟨M, 0, none⟩)]) := Lib.hid (by rw [hkz]; exact K10.out.drewN kz)
                clear hkz HSa
                go_wp2_with fail
                obtain ⟨LL, hLL⟩ : ∃ LL, LL = takeN L o.i := ⟨_, rfl⟩
                rw [← hLL] at HPZ
                have HSL : Hid (Short LM LL) := Lib.hid (by rw [hLL]; exact HSh.out.take _)
                have HPf : Hid (Pair (Nb (600 * (k + 1))) w2 T M LL LL (fun b => b = xm ∨ b = xo) wz) := Lib.hid (HPZ.out.up HC.out (by omega))
                have hfew := HPf.out.few HC.out
                clear hLL
                obtain ⟨Au, cu, xu, hMl, _, hMK⟩ := HPf.out.under
                have x8 : wz.cell? ⟨xm, 0, none⟩ = some (.pointer (some ⟨M, 0, none⟩)) := KZ.out.cell 0
                have hxml : xm < wz.heap.size := KZ.out.lt
                have HLn := Lib.hid (fun z => (HPf.out.next HC.out (below_drewN (Below.refl _ _) z)).len HC.out)
                refine wp_region_noPanic ?_
                go_region_held3 (fun w' => w'.cell? ⟨xm, 0, none⟩ = some (.pointer (some ⟨M, 0, none⟩)) ∧ w'.cell? ⟨M, 0, none⟩ = some (.slice Au LL.length cu)) (first | exact ⟨x8, xu⟩ | exact Z3 | exact Z4 | go_keep) (first
                  | (go_at_call 19; (refine (HLn.out 1).mono ?_; rintro e w9 ⟨rfl, hb9⟩; have HB9 : Hid (Below wz.heap.size wz w9) := Lib.hid ((below_drewN (Below.refl _ _) 1).trans hb9); have HP9 := Lib.hid (HPf.out.next HC.out HB9.out); have Z3 : w9.cell? ⟨xm, 0, none⟩ = some (.pointer (some ⟨M, 0, none⟩)) ∧ w9.cell? ⟨M, 0, none⟩ = some (.slice Au LL.length cu) := ⟨(HB9.out.cell (p := ⟨xm, 0, none⟩) hxml).trans x8, (HB9.out.cell (p := ⟨M, 0, none⟩) hMl).trans xu⟩; clear hb9))
                  | (go_at_call 19; go_must (refine (HP9.out.len HC.out).mono ?_; rintro e w10 ⟨rfl, hb10⟩; have HB10 : Hid (Below wz.heap.size wz w10) := Lib.hid (HB9.out.trans (hb10.mono HB9.out.size)); have Z4 : w10.cell? ⟨xm, 0, none⟩ = some (.pointer (some ⟨M, 0, none⟩)) ∧ w10.cell? ⟨M, 0, none⟩ = some (.slice Au LL.length cu) := ⟨(HB10.out.cell (p := ⟨xm, 0, none⟩) hxml).trans x8, (HB10.out.cell (p := ⟨M, 0, none⟩) hMl).trans xu⟩; clear hb10)))
                all_goals refine NoPanic.normal ?_
                all_goals go_wp2
                all_goals go_roundw
                case rel => exact ⟨k + 1, LL, by go_num, by omega, (HPf.out.next HC.out HB10.out).less (fun b hb => .inl hb), KZ.out.below HB10.out hxml, HSL.out⟩
                case measure => simp [intOf]; omega
            · have h1 : ¬ (x = 1) := fun h => h12 (.inl h)
              have h2 : ¬ (x = 2) := fun h => h12 (.inr h)
              clear h12
              go_wp2_with fail
              rw [← hw6, ← hxo]
              clear hw6 hxo
              obtain ⟨LL, hLL⟩ : ∃ LL, LL = L := ⟨_, rfl⟩
              rw [← hLL] at HP6
              have HSL : Hid (Short LM LL) := Lib.hid (by rw [hLL]; exact HSh.out)
              have HPf : Hid (Pair (Nb (600 * (k + 1))) w2 T M LL LL (fun b => b = xm ∨ b = xo) w6) := Lib.hid (HP6.out.up HC.out (by omega))
              have hfew := HPf.out.few HC.out
              clear hLL
              obtain ⟨Au, cu, xu, hMl, _, hMK⟩ := HPf.out.under
              have x8 : w6.cell? ⟨xm, 0, none⟩ = some (.pointer (some ⟨M, 0, none⟩)) := HXm.out.cell 0
              have hxml : xm < w6.heap.size := HXm.out.lt
              have HLn := Lib.hid (fun z => (HPf.out.next HC.out (below_drewN (Below.refl _ _) z)).len HC.out)
              refine wp_region_noPanic ?_
              go_region_held3 (fun w' => w'.cell? ⟨xm, 0, none⟩ = some (.pointer (some ⟨M, 0, none⟩)) ∧ w'.cell? ⟨M, 0, none⟩ = some (.slice Au LL.length cu)) (first | exact ⟨x8, xu⟩ | exact Z3 | exact Z4 | go_keep) (first
                | (go_at_call 19; (refine (HLn.out 1).mono ?_; rintro e w9 ⟨rfl, hb9⟩; have HB9 : Hid (Below w6.heap.size w6 w9) := Lib.hid ((below_drewN (Below.refl _ _) 1).trans hb9); have HP9 := Lib.hid (HPf.out.next HC.out HB9.out); have Z3 : w9.cell? ⟨xm, 0, none⟩ = some (.pointer (some ⟨M, 0, none⟩)) ∧ w9.cell? ⟨M, 0, none⟩ = some (.slice Au LL.length cu) := ⟨(HB9.out.cell (p := ⟨xm, 0, none⟩) hxml).trans x8, (HB9.out.cell (p := ⟨M, 0, none⟩) hMl).trans xu⟩; clear hb9))
                | (go_at_call 19; go_must (refine (HP9.out.len HC.out).mono ?_; rintro e w10 ⟨rfl, hb10⟩; have HB10 : Hid (Below w6.heap.size w6 w10) := Lib.hid (HB9.out.trans (hb10.mono HB9.out.size)); have Z4 : w10.cell? ⟨xm, 0, none⟩ = some (.pointer (some ⟨M, 0, none⟩)) ∧ w10.cell? ⟨M, 0, none⟩ = some (.slice Au LL.length cu) := ⟨(HB10.out.cell (p := ⟨xm, 0, none⟩) hxml).trans x8, (HB10.out.cell (p := ⟨M, 0, none⟩) hMl).trans xu⟩; clear hb10)))
              all_goals refine NoPanic.normal ?_
              all_goals go_wp2
              all_goals go_roundw
              case rel => exact ⟨k + 1, LL, by go_num, by omega, (HPf.out.next HC.out HB10.out).less (fun b hb => .inl hb), HXm.out.below HB10.out hxml, HSL.out⟩
              case measure => simp [intOf]; omega
    · obtain rfl : k = n := by omega
      obtain ⟨Au, cu, ps, xu, hrd, hpb, hMl, hcu⟩ := HP5.out.rdl HSh.out
      have HRd := Lib.hid hrd
      have HPb := Lib.hid hpb
      have HAl := Lib.hid (HP5.out.all HC.out HSh.out)
      have hx5 : w5.cell? ⟨xm, 0, none⟩ = some (.pointer (some ⟨M, 0, none⟩)) := HX5.out.cell 0
      clear hrd hpb
      go_wp2_with fail
      refine HAl.out.mono ?_
      rintro e w6 ⟨v6, R, rfl, hseq, hb6⟩
      have HB6 := Lib.hid hb6
      have SE6 := Lib.hid hseq
      have HRl : Hid (∀ g, R g → g < w6.heap.size) := Lib.hid hseq.lt
      clear hseq hb6
      obtain ⟨gf, pb, lb, hv6, en, hq1, hq2⟩ := SE6.out
      clear hq1 hq2
      subst hv6
      have EN := Lib.hid en
      clear en
      have hfn2 := fun (W : World) (gf : Nat) (pb cs : Array Value) => run_eql_func_nil (P := Try.prog) W 41 (.func gf) pb cs Try.underlying41
      go_wp2
      clear hfn2
      obtain ⟨nL, hnL⟩ : ∃ nL, nL = L.length := ⟨_, rfl⟩
      rw [← hnL] at xu HRd hcu
      have HNL := Lib.hid hnL
      have hnb : nL ≤ 512 := by rw [hnL]; exact HFew.out
      clear hnL
      have hs56 : w5.heap.size ≤ w6.heap.size := HB6.out.size
      have hs25 : w2.heap.size ≤ w5.heap.size := HP5.out.bel.size
      have hM6 : M < w6.heap.size := by omega
      have HKu6 : Hid (Blk w6 u 4 #[.bool false]) := Lib.hid ((HK2.out.below HP5.out.bel hu2).below HB6.out (by omega))
      have HBu6 : Hid (Below u w w6) := Lib.hid ((HB2.out.trans (HP5.out.bel.mono (Nat.le_of_lt hu2))).trans (HB6.out.mono (by omega)))
      have HXm6 : Hid (Blk w6 xm 27 #[.pointer (some ⟨M, 0, none⟩)]) := Lib.hid (HX5.out.below HB6.out HX5.out.lt)
      have HcM : Hid (w6.cell? ⟨M, 0, none⟩ = some (.slice Au nL cu)) := Lib.hid ((HB6.out.cell (p := ⟨M, 0, none⟩) hMl).trans xu)
      have HRd6 : Hid (RdL w6 w6.heap.size Au nL ps) := Lib.hid ((HRd.out.below HB6.out).more hs56)
      have hxm6 : xm < w6.heap.size := HXm6.out.lt
      have hu6 : u < w6.heap.size := HKu6.out.lt
      have HBW0 : Hid (Below w6.heap.size w6 w6) := Lib.hid (Below.refl _ _)
      have HMW0 : Hid (Marks w6.heap.size [] w6) := Lib.hid trivial
      clear xu hx5 hMl
      refine wp_loop_rounds 3 ?_
      rw [rounds_succ]
      go_wp2
      obtain ⟨xk, hxk⟩ : ∃ xk, xk = w6.heap.size := ⟨_, rfl⟩
      obtain ⟨W1, hW1⟩ : ∃ W1, W1 = w6.alloc (.cells #[.int .i64 0] 3) := ⟨_, rfl⟩
      have hsW : w6.heap.size ≤ w6.heap.size := HBW0.out.size
      have hb1 : Below w6.heap.size w6 W1 := hW1 ▸ (Below.refl _ _).alloc (Nat.le_refl _) _
      have HKn1 : Hid (Blk W1 xk 3 #[.int .i64 0]) := Lib.hid (by rw [hW1, hxk]; exact Blk.new w6 _ _)
      have HBW1 := Lib.hid (HBW0.out.trans (hb1.mono hsW))
      have HM1 := Lib.hid (HMW0.out.below hb1)
      have SE1 := Lib.hid (SE6.out.stay (w := w6) (W := W1) ⟨HBW1.out.size, fun g hg => HBW1.out.block g (HRl.out g hg)⟩)
      have hx1 : w6.heap.size ≤ xk := by omega
      have hx2 : xk < W1.heap.size := HKn1.out.lt
      rw [← hW1, ← hxk]
      clear hW1 hxk hb1 hsW
      obtain ⟨S, hS⟩ : ∃ S : Nat → Prop, S = fun b => b = xk := ⟨_, rfl⟩
      have S1 : S xk := by rw [hS]
      have HSe : Hid (∀ b, S b → b = xk) := Lib.hid (fun b h => by rw [hS] at h; exact h)
      clear hS
      refine (wpIn_wide (n := 9)).1 ?_
      refine' range_boundWS (α := NtX) (gf := gf) (pb := pb) (lb := lb) rfl EN.out (SE1.out.at_ _) (fun h k => h.trans k) (stay_b SE1.out.lt) (fun _ => rfl) OkN.put
        (fun pre V => Blk V xk 3 #[.int .i64 (pre.length : Nat)] ∧ OnlyS S W1 V)
        (fun cc pre V => False)
        (Std.and (std_blk (x := xk) (by omega)) (std_onlyS W1 S))
        (fun cc => fun s A B hs ht => hs)
        ⟨HKn1.out, OnlyS.refl _ _⟩
        _ ?assign1 ?body1 ?done1 ?stop1
      case assign1 =>
        intro lp y V K hK
        gi_wp2
        exact hK
      case stop1 =>
        rintro D cc pre V hD hpre hf hK
        exact hf.elim
      case body1 =>
        rintro lp pre ⟨yat, yA, yn, yc, yp⟩ V hlp hrec ⟨hbn, hO⟩ ⟨B', hB', hok⟩
        obtain ⟨hqlt, hyat, hyp⟩ := hok.next
        obtain ⟨q, hq⟩ : ∃ q, q = pre.length := ⟨_, rfl⟩
        rw [← hq] at hbn hqlt hyat hyp
        obtain rfl : q = yat := hyat.symm
        rw [← HNL.out] at hqlt
        have HBV : Hid (Below w6.heap.size w6 V) := Lib.hid (OnlyS.bel HBW1.out hO (fun b hb => by have := HSe.out b hb; omega) HBW1.out.size)
        have HRdV := Lib.hid (HRd6.out.below HBV.out)
        obtain ⟨b', off', p, rfl, hpk, hpm, hgb, hx'⟩ := HRdV.out.at_ hqlt
        have HYp : Hid (yp = p.l) := Lib.hid (by rw [← HPb.out, bytes_get hpk] at hyp; injection hyp with hyp; exact hyp.symm)
        have cn : V.cell? ⟨xk, 0, none⟩ = some (.int .i64 (q : Int)) := by rw [hbn.cell]; rfl
        have fn : V.frozen? ⟨xk, 0, none⟩ = false := hbn.frozen 0
        have cm : V.cell? ⟨xm, 0, none⟩ = some (.pointer (some ⟨M, 0, none⟩)) := (HXm6.out.below HBV.out hxm6).cell 0
        have cM : V.cell? ⟨M, 0, none⟩ = some (.slice (some ⟨b', off', none⟩) nL cu) := (HBV.out.cell (p := ⟨M, 0, none⟩) hM6).trans HcM.out
        have HYr := Lib.hid (owr_reads hok.2.1)
        have HYl := Lib.hid (owr_len hok.2.1)
        have HPr := Lib.hid (HRdV.out.2 p hpm)
        have HBn := Lib.hid hbn
        have HOs := Lib.hid hO
        have HQq := Lib.hid hq
        have HRx : Hid (¬ R xk) := Lib.hid (fun h => by have := HRl.out _ h; omega)
        have hqn : (q : Int) < (nL : Int) := by omega
        clear hbn hO hq hok hpk hpm hyp HRdV
        have HSm := Lib.hid (fun z => same_any yA p.a yn yc p.n p.c yp p.l (V.drewN z) _ _ (HYr.out.drewN z) (HPr.out.1.drewN z) (by have h1 : yp.length = yn := HYl.out.1; have h2 : p.l.length = p.n := (by simpa using HPr.out.1.1); have h3 : p.n ≤ 4611686018427387904 := HPr.out.2; rw [HYp.out] at h1; omega))
        rw [decide_eq_true HYp.out] at HSm
        have tq : ((q : Int) != (q : Int)) = false := by simp
        have tn : decide (nL ≤ q) = false := by simp; omega
        gi_wp2
        refine region_quiet_round (F := Fence.wide) rfl (by kernel_rfl) (by kernel_rfl) (by kernel_rfl) ?_
        repeat (gi_big_quiet_step (fail))
        refine BigFrame.wpQuietIn_want (fun _ _ _ _ => trivial) (by rfl) ?_
        intro K_ hK_
        gi_big_quiet_op
        gi_big_quiet_call (first | exact Calls.quiet_of (HSm.out _) | exact callsIn_wide.2 (Calls.quiet_of (HSm.out _)))
        repeat (gi_big_quiet_step (fail))
        refine wpQuietIn_nil ?_
        rintro _ ⟨z, rfl⟩
        have cn1 : (V.drewN z).cell? ⟨xk, 0, none⟩ = some (.int .i64 (q : Int)) := cn
        have fn1 : (V.drewN z).frozen? ⟨xk, 0, none⟩ = false := fn
        gi_wp2
        refine ⟨((KeepsAll.refl _ V).drewN z).trans (KeepsAll.setCell _ hx2 _), Stay.trans (Stay.refl_ _ _) (stay_setAt HRx.out), ?_, (HOs.out.drewN z).set S1 _⟩
        have := blk_put (HBn.out.drewN z) (.int .i64 ((q : Int) + 1))
        rw [List.length_append, ← HQq.out]; exact this
      case done1 =>
        rintro D1 ys V1 hD hys ⟨hbn, hO⟩ hK
        have hyl : ys.length = nL := by
          have h1 := congrArg List.length hys
          simp at h1
          have := HNL.out
          omega
        rw [hyl] at hbn
        have hbV := OnlyS.bel HBW1.out hO (fun b hb => by have := HSe.out b hb; omega) HBW1.out.size
        have hmk := OnlyS.marks HM1.out hO (fun b hb => by rw [HSe.out b hb]; exact ⟨_, _, HKn1.out⟩)
        have HMV1 := Lib.hid (hmk.cons (fun d hd k e => by have := HM1.out.lt d hd k e; omega) (by omega) hK)
        have cn : V1.cell? ⟨xk, 0, none⟩ = some (.int .i64 (nL : Int)) := by rw [hbn.cell]; rfl
        have cm : V1.cell? ⟨xm, 0, none⟩ = some (.pointer (some ⟨M, 0, none⟩)) := (HXm6.out.below hbV hxm6).cell 0
        have cM : V1.cell? ⟨M, 0, none⟩ = some (.slice Au nL cu) := (hbV.cell (p := ⟨M, 0, none⟩) hM6).trans HcM.out
        have HBV1 := Lib.hid hbV
        clear hbn hO hK hmk hbV hys hyl
        go_wp2
        go_quiet (fail)
        obtain ⟨X1, hX1⟩ : ∃ X1, X1 = V1.drewN nq := ⟨_, rfl⟩
        have HBX1 : Hid (Below w6.heap.size w6 X1) := Lib.hid (by rw [hX1]; exact below_drewN HBV1.out nq)
        have HMX1 : Hid (Marks w6.heap.size _ X1) := Lib.hid (by rw [hX1]; exact HMV1.out.below (below_drewN (Below.refl _ _) nq))
        rw [← hX1]
        clear hX1
        go_wp2
        clear cn cm cM HKn1 HBW1 HM1 SE1 hx1 hx2 S1 HSe
        rw [rounds_succ]
        go_wp2
        obtain ⟨xk, hxk⟩ : ∃ xk, xk = X1.heap.size := ⟨_, rfl⟩
        obtain ⟨W1, hW1⟩ : ∃ W1, W1 = X1.alloc (.cells #[.int .i64 0] 3) := ⟨_, rfl⟩
        have hsW : w6.heap.size ≤ X1.heap.size := HBX1.out.size
        have hb1 : Below X1.heap.size X1 W1 := hW1 ▸ (Below.refl _ _).alloc (Nat.le_refl _) _
        have HKn1 : Hid (Blk W1 xk 3 #[.int .i64 0]) := Lib.hid (by rw [hW1, hxk]; exact Blk.new X1 _ _)
        have HBW1 := Lib.hid (HBX1.out.trans (hb1.mono hsW))
        have HM1 := Lib.hid (HMX1.out.below hb1)
        have SE1 := Lib.hid (SE6.out.stay (w := w6) (W := W1) ⟨HBW1.out.size, fun g hg => HBW1.out.block g (HRl.out g hg)⟩)
        have hx1 : w6.heap.size ≤ xk := by omega
        have hx2 : xk < W1.heap.size := HKn1.out.lt
        rw [← hW1, ← hxk]
        clear hW1 hxk hb1 hsW
        obtain ⟨S, hS⟩ : ∃ S : Nat → Prop, S = fun b => b = xk := ⟨_, rfl⟩
        have S1 : S xk := by rw [hS]
        have HSe : Hid (∀ b, S b → b = xk) := Lib.hid (fun b h => by rw [hS] at h; exact h)
        clear hS
        refine (wpIn_wide (n := 9)).1 ?_
        refine' range_boundWS (α := NtX) (gf := gf) (pb := pb) (lb := lb) rfl EN.out (SE1.out.at_ _) (fun h k => h.trans k) (stay_b SE1.out.lt) (fun _ => rfl) OkN.put
          (fun pre V => Blk V xk 3 #[.int .i64 (pre.length : Nat)] ∧ OnlyS S W1 V)
          (fun cc pre V => False)
          (Std.and (std_blk (x := xk) (by omega)) (std_onlyS W1 S))
          (fun cc => fun s A B hs ht => hs)
          ⟨HKn1.out, OnlyS.refl _ _⟩
          _ ?assign2 ?body2 ?done2 ?stop2
        case assign2 =>
          intro lp y V K hK
          gi_wp2
          exact hK
        case stop2 =>
          rintro D cc pre V hD hpre hf hK
          exact hf.elim
        case body2 =>
          rintro lp pre ⟨yat, yA, yn, yc, yp⟩ V hlp hrec ⟨hbn, hO⟩ ⟨B', hB', hok⟩
          obtain ⟨hqlt, hyat, hyp⟩ := hok.next
          obtain ⟨q, hq⟩ : ∃ q, q = pre.length := ⟨_, rfl⟩
          rw [← hq] at hbn hqlt hyat hyp
          obtain rfl : q = yat := hyat.symm
          rw [← HNL.out] at hqlt
          have HBV : Hid (Below w6.heap.size w6 V) := Lib.hid (OnlyS.bel HBW1.out hO (fun b hb => by have := HSe.out b hb; omega) HBW1.out.size)
          have HRdV := Lib.hid (HRd6.out.below HBV.out)
          obtain ⟨b', off', p, rfl, hpk, hpm, hgb, hx'⟩ := HRdV.out.at_ hqlt
          have HYp : Hid (yp = p.l) := Lib.hid (by rw [← HPb.out, bytes_get hpk] at hyp; injection hyp with hyp; exact hyp.symm)
          have cn : V.cell? ⟨xk, 0, none⟩ = some (.int .i64 (q : Int)) := by rw [hbn.cell]; rfl
          have fn : V.frozen? ⟨xk, 0, none⟩ = false := hbn.frozen 0
          have cm : V.cell? ⟨xm, 0, none⟩ = some (.pointer (some ⟨M, 0, none⟩)) := (HXm6.out.below HBV.out hxm6).cell 0
          have cM : V.cell? ⟨M, 0, none⟩ = some (.slice (some ⟨b', off', none⟩) nL cu) := (HBV.out.cell (p := ⟨M, 0, none⟩) hM6).trans HcM.out
          have HYr := Lib.hid (owr_reads hok.2.1)
          have HYl := Lib.hid (owr_len hok.2.1)
          have HPr := Lib.hid (HRdV.out.2 p hpm)
          have HBn := Lib.hid hbn
          have HOs := Lib.hid hO
          have HQq := Lib.hid hq
          have HRx : Hid (¬ R xk) := Lib.hid (fun h => by have := HRl.out _ h; omega)
          have hqn : (q : Int) < (nL : Int) := by omega
          clear hbn hO hq hok hpk hpm hyp HRdV
          have HSm := Lib.hid (fun z => same_any yA p.a yn yc p.n p.c yp p.l (V.drewN z) _ _ (HYr.out.drewN z) (HPr.out.1.drewN z) (by have h1 : yp.length = yn := HYl.out.1; have h2 : p.l.length = p.n := (by simpa using HPr.out.1.1); have h3 : p.n ≤ 4611686018427387904 := HPr.out.2; rw [HYp.out] at h1; omega))
          rw [decide_eq_true HYp.out] at HSm
          have tq : ((q : Int) != (q : Int)) = false := by simp
          have tn : decide (nL ≤ q) = false := by simp; omega
          gi_wp2
          refine region_quiet_round (F := Fence.wide) rfl (by kernel_rfl) (by kernel_rfl) (by kernel_rfl) ?_
          repeat (gi_big_quiet_step (fail))
          refine BigFrame.wpQuietIn_want (fun _ _ _ _ => trivial) (by rfl) ?_
          intro K_ hK_
          gi_big_quiet_op
          gi_big_quiet_call (first | exact Calls.quiet_of (HSm.out _) | exact callsIn_wide.2 (Calls.quiet_of (HSm.out _)))
          repeat (gi_big_quiet_step (fail))
          refine wpQuietIn_nil ?_
          rintro _ ⟨z, rfl⟩
          have cn1 : (V.drewN z).cell? ⟨xk, 0, none⟩ = some (.int .i64 (q : Int)) := cn
          have fn1 : (V.drewN z).frozen? ⟨xk, 0, none⟩ = false := fn
          gi_wp2
          refine ⟨((KeepsAll.refl _ V).drewN z).trans (KeepsAll.setCell _ hx2 _), Stay.trans (Stay.refl_ _ _) (stay_setAt HRx.out), ?_, (HOs.out.drewN z).set S1 _⟩
          have := blk_put (HBn.out.drewN z) (.int .i64 ((q : Int) + 1))
          rw [List.length_append, ← HQq.out]; exact this
        case done2 =>
          rintro D2 ys V2 hD hys ⟨hbn, hO⟩ hK
          have hyl : ys.length = nL := by
            have h1 := congrArg List.length hys
            simp at h1
            have := HNL.out
            omega
          rw [hyl] at hbn
          have hbV := OnlyS.bel HBW1.out hO (fun b hb => by have := HSe.out b hb; omega) HBW1.out.size
          have hmk := OnlyS.marks HM1.out hO (fun b hb => by rw [HSe.out b hb]; exact ⟨_, _, HKn1.out⟩)
          have HMV2 := Lib.hid (hmk.cons (fun d hd k e => by have := HM1.out.lt d hd k e; omega) (by omega) hK)
          have cn : V2.cell? ⟨xk, 0, none⟩ = some (.int .i64 (nL : Int)) := by rw [hbn.cell]; rfl
          have cm : V2.cell? ⟨xm, 0, none⟩ = some (.pointer (some ⟨M, 0, none⟩)) := (HXm6.out.below hbV hxm6).cell 0
          have cM : V2.cell? ⟨M, 0, none⟩ = some (.slice Au nL cu) := (hbV.cell (p := ⟨M, 0, none⟩) hM6).trans HcM.out
          have HBV2 := Lib.hid hbV
          clear hbn hO hK hmk hbV hys hyl
          go_wp2
          go_quiet (fail)
          obtain ⟨X2, hX2⟩ : ∃ X2, X2 = V2.drewN nq := ⟨_, rfl⟩
          have HBX2 : Hid (Below w6.heap.size w6 X2) := Lib.hid (by rw [hX2]; exact below_drewN HBV2.out nq)
          have HMX2 : Hid (Marks w6.heap.size _ X2) := Lib.hid (by rw [hX2]; exact HMV2.out.below (below_drewN (Below.refl _ _) nq))
          rw [← hX2]
          clear hX2
          go_wp2
          clear cn cm cM HKn1 HBW1 HM1 SE1 hx1 hx2 S1 HSe
          rw [rounds_succ]
          go_wp2_with fail
          refine (HC.out.nat_ _ 0 (by omega) (by omega)).mono ?_
          rintro e Y1 ⟨v1, rfl, _, hy1⟩
          have HBY1 := Lib.hid (HBX2.out.trans (hy1.mono HBX2.out.size))
          have HMY1 := Lib.hid (HMX2.out.below hy1)
          clear hy1
          go_wp2_with fail
          refine (HC.out.ntake _ 0 (by omega) (by omega)).mono ?_
          rintro e Y2 ⟨v2, rfl, _, hy2⟩
          have HBY2 := Lib.hid (HBY1.out.trans (hy2.mono HBY1.out.size))
          have HMY2 := Lib.hid (HMY1.out.below hy2)
          clear hy2
          go_wp2_with fail
          refine (HC.out.nall _).mono ?_
          rintro e Y3 ⟨v3, R3, rfl, hseq3, hy3, _⟩
          have HBY3 := Lib.hid (HBY2.out.trans (hy3.mono HBY2.out.size))
          have HMY3 := Lib.hid (HMY2.out.below hy3)
          have SE3 := Lib.hid hseq3
          clear hy3 hseq3 HMY1 HBY1 HMY2 HBY2
          obtain ⟨gf3, pb3, lb3, hv3, en3, hq1, hq2⟩ := SE3.out
          clear hq1 hq2
          subst hv3
          have EN3 := Lib.hid en3
          clear en3
          go_wp2
          obtain ⟨S0, hS0⟩ : ∃ S0 : Nat → Prop, S0 = fun _ => False := ⟨_, rfl⟩
          have HS0 : Hid (∀ b, S0 b → False) := Lib.hid (fun b h => by rw [hS0] at h; exact h)
          clear hS0
          refine (wpIn_wide (n := 9)).1 ?_
          refine' range_boundWS (α := NtX) (gf := gf3) (pb := pb3) (lb := lb3) rfl EN3.out (SE3.out.at_ _) (fun h k => h.trans k) (stay_b SE3.out.lt) (fun _ => rfl) OkN.put
            (fun pre V => OnlyS S0 Y3 V)
            (fun cc pre V => False)
            (std_onlyS Y3 S0)
            (fun cc => fun s A B hs ht => hs)
            (OnlyS.refl _ _)
            _ ?assign3 ?body3 ?done3 ?stop3
          case assign3 =>
            intro lp y V K hK
            gi_wp2
            exact hK
          case stop3 =>
            rintro D cc pre V hD hpre hf hK
            exact hf.elim
          case body3 =>
            rintro lp pre y V hlp hrec hO ⟨B', hB', hok⟩
            exact absurd hok.next.1 (by simp)
          case done3 =>
            rintro D3 ys V3 hD hys hO hK
            have hbV := OnlyS.bel HBY3.out hO (fun b hb => (HS0.out b hb).elim) HBY3.out.size
            have hmk := OnlyS.marks HMY3.out hO (fun b hb => (HS0.out b hb).elim)
            have HM3 := Lib.hid (hmk.cons (fun d hd k e => by have := HMY3.out.lt d hd k e; omega) (by have := HBY3.out.size; omega) hK)
            have HB3 := Lib.hid hbV
            have HBu3 := Lib.hid (HBu6.out.trans (HB3.out.mono (Nat.le_of_lt hu6)))
            have HKu3 := Lib.hid (HKu6.out.below HB3.out hu6)
            clear hbV hmk hO hK hys
            go_wp2_with fail
            refine (HC.out.nsend V3 none 0 0 [] Reads.none_ (Nat.le_refl _) (by show (0 : Nat) ≤ 140737488355328; omega)).mono ?_
            rintro e Y4 ⟨rfl, hy4⟩
            have HB4 := Lib.hid (HB3.out.trans (hy4.mono HB3.out.size))
            have HM4 := Lib.hid (HM3.out.below hy4)
            clear hy4
            go_wp2_with fail
            refine (HC.out.ndouble _ 0 (by omega) (by omega)).mono ?_
            rintro e Y5 ⟨rfl, hy5⟩
            have HB5 := Lib.hid (HB4.out.trans (hy5.mono HB4.out.size))
            have HM5 := Lib.hid (HM4.out.below hy5)
            clear hy5
            go_wp2_with fail
            refine (HC.out.nlen _).mono ?_
            rintro e Y6 ⟨rfl, hy6⟩
            have HB6_ := Lib.hid (HB5.out.trans (hy6.mono HB5.out.size))
            have HM6_ := Lib.hid (HM5.out.below hy6)
            clear hy6
            have HBu7 := Lib.hid (HBu6.out.trans (HB6_.out.mono (Nat.le_of_lt hu6)))
            have HKu7 := Lib.hid (HKu6.out.below HB6_.out hu6)
            have cu : Y6.cell? ⟨u, 0, none⟩ = some (.bool false) := by rw [HKu7.out.cell]; rfl
            have fu : Y6.frozen? ⟨u, 0, none⟩ = false := HKu7.out.frozen 0
            go_wp2
            have k9 : OnlyS (fun b => b = u) Y6 (Y6.setCell ⟨u, 0, none⟩ (.bool true)) := OnlyS.set (S := fun b => b = u) (OnlyS.refl (fun b => b = u) Y6) (x := u) rfl (.bool true)
            have hk9 := blk_put HKu7.out (.bool true)
            have hB10 := OnlyS.bel HBu7.out k9 (fun b hb => by omega) (Nat.le_of_lt (show u < Y6.heap.size from HKu7.out.lt))
            refine Marks.leave (B := w6.heap.size) _ _ (OnlyS.marks HM6_.out k9 (fun b hb => ⟨_, _, (show Blk Y6 b 4 #[.bool false] by rw [hb]; exact HKu7.out)⟩)) (fun W' hb => ?_)
            have c5 : W'.cell? ⟨u, 0, none⟩ = some (.bool true) := by rw [hb.cell (p := ⟨u, 0, none⟩) (show u < w6.heap.size by omega), hk9.cell]; rfl
            refine ⟨.bool true, by simp [results, Try.f3, go_sem, c5], rfl, ?_⟩
            rw [← HU.out]
            exact hB10.trans (hb.mono (by omega))
end Go.Proofs.Ytcjfammfplcigaa.Pk
