/- Package arrow as it landed: Quiet. -/
import Derived.Test.YtcomiininaemhaaZAc2
import Derived.Test.YtcomiininaemhaaZArQuiet
import Derived.Test.YtcomiininaemhaaZRng
namespace Go.Proofs.Ytcomiininaemhaa.Pk
open Go.RowKit Go.Shelf Go.Proofs.Ytcomiininaemhaa.Gr
set_option linter.unusedVariables false
attribute [local go_sem] Oper.semAt_some
set_option maxHeartbeats 4000000 in
theorem quietZ : QuietZ := by
  intro A n c ar w hin
  have HI := Lib.hid hin
  have HZ := Lib.hid (fun (W : World) (h : InA W ar A n c) => legalZ A n c ar W h)
  clear hin
  go_enter Try.func15, Try.ntmps15
  go_wp2_with fail
  obtain ⟨s1, hs1⟩ : ∃ x, x = w.heap.size + 1 := ⟨_, rfl⟩
  obtain ⟨W1, hW1⟩ : ∃ W1, W1 = (w.alloc (.cells #[.slice A n c] 26)).alloc (.cells #[.bool false] 4) := ⟨_, rfl⟩
  have hb1 : Below w.heap.size w W1 := hW1 ▸ ((Below.refl _ _).alloc (Nat.le_refl _) _).alloc (by simp) _
  have HR1 : Hid (Blk W1 s1 4 #[.bool false]) := Lib.hid (by have := Blk.new (w.alloc (.cells #[.slice A n c] 26)) 4 #[.bool false]; rw [World.size_alloc] at this; rw [hW1, hs1]; exact this)
  have HB1 := Lib.hid hb1
  have HQ := Lib.hid (HZ.out W1 (HI.out.next hb1))
  have hxs : w.heap.size ≤ s1 := by omega
  rw [← hW1, ← hs1]
  clear hb1 hW1 hs1
  refine HQ.out.mono ?_
  rintro e w2 ⟨rfl, hb2⟩
  have HR2 := Lib.hid (HR1.out.below hb2 HR1.out.lt)
  have HB2 := Lib.hid (HB1.out.trans (hb2.mono HB1.out.size))
  have cr : w2.cell? ⟨s1, 0, none⟩ = some (.bool false) := HR2.out.cell 0
  have fr : w2.frozen? ⟨s1, 0, none⟩ = false := HR2.out.frozen 0
  clear hb2
  go_wp2
  refine bodyPost_ret (v := .bool false) (by have hk9 := (blk_put HR2.out (.bool false)).cell 0; simp [results, Try.f15, go_sem, hk9]) rfl ⟨rfl, HB2.out.setCell (p := ⟨s1, 0, none⟩) hxs _⟩
set_option maxHeartbeats 4000000 in
set_option maxRecDepth 100000 in
theorem quietA : QuietA := by
  intro T g ps A n c ar w hT G hin
  obtain ⟨r, hr9⟩ : ∃ r, r = decide (QuietL ps ar) := ⟨_, rfl⟩
  rw [← hr9]
  have HFr : Hid (¬ QuietL ps ar → r = false) := Lib.hid (fun h => by rw [hr9]; exact decide_eq_false h)
  have HTr : Hid (QuietL ps ar → r = true) := Lib.hid (fun h => by rw [hr9]; exact decide_eq_true h)
  clear hr9
  have HT := Lib.hid hT
  have HG := Lib.hid G
  have HI := Lib.hid hin
  have HL := Lib.hid hin.len
  have hn := hin.few
  have HZ := Lib.hid (fun (W : World) (hb : Below w.heap.size w W) => legalA T g ps A n c ar W (hT.below hb hT.lt) G (hin.next hb))
  clear hT G hin
  refine (callsIn_wide (n := 9)).1 ?_
  refine callsIn_of_wp_marks Try.func15 rfl trivial ?_ rfl
  refine wpIn_wide.2 ?_
  simp only [Try.ntmps15, List.size_toArray, List.length_cons, List.length_nil, Nat.reduceAdd, Nat.reduceSub, Array.replicate_succ, Array.replicate_zero, List.push_toArray, List.append_toArray, List.nil_append, List.cons_append]
  go_wp2_with fail
  obtain ⟨s0, hs0⟩ : ∃ x, x = w.heap.size := ⟨_, rfl⟩
  obtain ⟨s1, hs1⟩ : ∃ x, x = w.heap.size + 1 := ⟨_, rfl⟩
  obtain ⟨W1, hW1⟩ : ∃ W1, W1 = (w.alloc (.cells #[.slice A n c] 26)).alloc (.cells #[.bool false] 4) := ⟨_, rfl⟩
  have hb1 : Below w.heap.size w W1 := hW1 ▸ ((Below.refl _ _).alloc (Nat.le_refl _) _).alloc (by simp) _
  have HA1 : Hid (Blk W1 s0 26 #[.slice A n c]) := Lib.hid (by rw [hW1, hs0]; exact (Blk.new w _ _).alloc _)
  have HR1 : Hid (Blk W1 s1 4 #[.bool false]) := Lib.hid (by have := Blk.new (w.alloc (.cells #[.slice A n c] 26)) 4 #[.bool false]; rw [World.size_alloc] at this; rw [hW1, hs1]; exact this)
  have HB1 := Lib.hid hb1
  have HQ := Lib.hid (HZ.out W1 hb1)
  have HX : Hid (w.heap.size ≤ s0 ∧ w.heap.size ≤ s1 ∧ s0 ≠ s1) := Lib.hid (by omega)
  have HT1 := Lib.hid (HT.out.below hb1 HT.out.lt)
  rw [← hW1, ← hs1, ← hs0]
  clear hb1 hW1 hs1 hs0 HZ
  by_cases hlg : LegalL ps ar
  case neg =>
    rw [decide_eq_false hlg] at HQ
    have hrf : r = false := HFr.out (fun h => hlg h.1)
    clear hlg
    refine HQ.out.mono ?_
    rintro e w2 ⟨rfl, hb2⟩
    have HR2 := Lib.hid (HR1.out.below hb2 HR1.out.lt)
    have HB2 := Lib.hid (HB1.out.trans (hb2.mono HB1.out.size))
    have cr : w2.cell? ⟨s1, 0, none⟩ = some (.bool false) := HR2.out.cell 0
    have fr : w2.frozen? ⟨s1, 0, none⟩ = false := HR2.out.frozen 0
    clear hb2
    go_wp2
    refine Marks.leave (B := w2.heap.size) [] _ trivial (fun W' hb => ?_)
    have hk9 := blk_put HR2.out (.bool false)
    have c5 : W'.cell? ⟨s1, 0, none⟩ = some (.bool false) := by rw [hb.cell (p := ⟨s1, 0, none⟩) HR2.out.lt, hk9.cell]; rfl
    exact ⟨.bool false, by simp [results, Try.f15, go_sem, c5], by first | rfl | rw [hrf], (HB2.out.setCell (p := ⟨s1, 0, none⟩) HX.out.2.1 _).trans (hb.mono HB2.out.size)⟩
  case pos =>
  rw [decide_eq_true hlg] at HQ
  have HLg := Lib.hid hlg
  have HQe : Hid ((∀ y ∈ edgesTo ps ps.length, EdgeOn ar y) → r = true) := Lib.hid (fun h => HTr.out (HG.out.quiet_of HLg.out (edgesL_of h)))
  have hnp : n = ps.length := by rw [← HL.out]; exact hlg.1
  have hnpos : 0 < n := by rw [hnp]; exact HG.out.pos
  have HNp := Lib.hid hnp
  clear hlg hnp
  refine HQ.out.mono ?_
  rintro e w2 ⟨rfl, hb2⟩
  have HA2 := Lib.hid (HA1.out.below hb2 HA1.out.lt)
  have HR2 := Lib.hid (HR1.out.below hb2 HR1.out.lt)
  have HB2 := Lib.hid (HB1.out.trans (hb2.mono HB1.out.size))
  have HT2 := Lib.hid (HT1.out.below_ hb2)
  clear hb2
  have HE := Lib.hid (edges_codeO T g ps w2 HT2.out HG.out)
  go_wp2_with fail
  refine HE.out.mono ?_
  rintro e w4 ⟨ve, Re, rfl, hse, hb4, hRe⟩
  have HA4 := Lib.hid (HA2.out.below hb4 HA2.out.lt)
  have HR4 := Lib.hid (HR2.out.below hb4 HR2.out.lt)
  have HB4 := Lib.hid (HB2.out.trans (hb4.mono HB2.out.size))
  have HI4 := Lib.hid (HI.out.next HB4.out)
  have SE4 := Lib.hid hse
  have HRe : Hid (¬ Re s1) := Lib.hid (fun h => by
    have h1 := HX.out
    have h2 := HR2.out.lt
    rcases hRe _ h with h3 | h3
    · have := HT.out.lt _ h3; omega
    · omega)
  have ls1 : s1 < w4.heap.size := HR4.out.lt
  clear hse hb4 HT2 HA2 HR2 HA1 HR1 HE HQ
  obtain ⟨gfe, lbe, hve, ene, hq1, hq2⟩ := SE4.out
  clear hq1 hq2 hRe
  subst hve
  have ENE := Lib.hid ene
  clear ene
  go_wp2_with fail
  refine (wpIn_wide (n := 9)).1 ?_
  refine' range_boundO (α := Int × Int) (gf := gfe) (pb := #[]) (lb := lbe) rfl ENE.out (SE4.out.at_ _) (fun h k => h.trans k) (stay_b SE4.out.lt) (fun _ => rfl)
    (fun pre W => (∀ y ∈ pre, EdgeOn ar y) ∧ OnlyS (fun _ => False) w4 W)
    (fun cc pre W => cc = .ret ∧ r = false ∧ OnlyS (fun b => b = s1) w4 W ∧ Blk W s1 4 #[.bool false])
    (OwnFrom.and (fun s A B row hs hg hr => hs) (own_onlyS w4 _))
    (fun cc => OwnFrom.and (fun s A B row hs hg hr => hs) (OwnFrom.and (fun s A B row hs hg hr => hs) (OwnFrom.and (own_onlyS w4 _) (Own.from (I := fun (pre : List (Int × Int)) W => Blk W s1 4 #[.bool false]) (fun s A B row hs hg hr => blk_kept hs hg hr) _))))
    ⟨(fun y hy => by cases hy), OnlyS.refl _ _⟩
    _ ?assign ?body ?done ?stop
  case assign =>
    intro lp y V K hK
    gi_wp2
    exact hK
  case body =>
    rintro lp pre y V hlp hrec ⟨hpre, hO⟩ hok
    obtain ⟨u, v, rfl, huv, hv, hnr⟩ := edge_rnd hok
    rw [← HNp.out] at hv
    have hu : u < n := by omega
    have HA5 := hO.blk HA4.out (fun h => h)
    have HR5 := Lib.hid (hO.blk HR4.out (fun h => h))
    have krd := hO.reads HI4.out.rd (Nat.le_refl _) (fun _ _ _ h => h)
    obtain ⟨b, off, rfl, hbb, hcell⟩ := krd.arr hnpos
    have cu := hcell u hu
    have cv := hcell v hv
    have ca : V.cell? ⟨s0, 0, none⟩ = some (.slice (some ⟨b, off, none⟩) n c) := by rw [HA5.cell]; rfl
    have cr : V.cell? ⟨s1, 0, none⟩ = some (.bool false) := HR5.out.cell 0
    have fr : V.frozen? ⟨s1, 0, none⟩ = false := HR5.out.frozen 0
    obtain ⟨x, hx⟩ : ∃ x, x = Gr.at_ ar u := ⟨_, rfl⟩
    obtain ⟨z, hz⟩ : ∃ z, z = Gr.at_ ar v := ⟨_, rfl⟩
    rw [← hx] at cu
    rw [← hz] at cv
    have hun : (u : Int) < (n : Int) := by omega
    have hvn : (v : Int) < (n : Int) := by omega
    have HOn : Hid (EdgeOn ar ((u : Int), (v : Int)) ↔ ¬ (x = (v : Int) ↔ z = (u : Int))) := Lib.hid (by unfold EdgeOn; rw [hx, hz]; simp)
    have HPr := Lib.hid hpre
    have HOs := Lib.hid hO
    have HBad : Hid (¬ EdgeOn ar ((u : Int), (v : Int)) → r = false) := Lib.hid (fun h => HFr.out (fun hq => h (by
      have h1 := hq.2.2 u (by rw [← HNp.out]; exact hu) v (by rw [← HNp.out]; exact hv) huv hnr
      unfold EdgeOn
      simpa using h1)))
    clear hcell krd HA5 hO hpre hok hx hz huv hnr hbb
    by_cases g1 : x = (v : Int)
    · have t1 : (x == (v : Int)) = true := by simp [g1]
      by_cases g2 : z = (u : Int)
      · have t2 : (z == (u : Int)) = true := by simp [g2]
        have hrf : r = false := HBad.out (fun h => HOn.out.1 h ⟨fun _ => g2, fun _ => g1⟩)
        clear g1 g2
        gi_wp2
        refine region_quiet_round (F := Fence.wide) rfl (by kernel_rfl) (by kernel_rfl) (by kernel_rfl) ?_
        repeat (gi_big_quiet_step (fail))
        refine wpQuietIn_nil ?_
        rintro _ ⟨nq, rfl⟩
        gi_wp2
        refine ⟨((KeepsAll.refl _ V).drewN nq).trans (KeepsAll.setCell _ ls1 _), rfl, hrf, ?_, ?_⟩
        · exact (OnlyS.drewN ⟨HOs.out.os, HOs.out.tape, HOs.out.output, HOs.out.size, fun i h1 _ => HOs.out.block i h1 (fun h => h)⟩ nq).set (S := fun b => b = s1) rfl _
        · exact blk_put (HR5.out.drewN nq) _
      · have t2 : (z == (u : Int)) = false := by simp [g2]
        have HE : Hid (EdgeOn ar ((u : Int), (v : Int))) := Lib.hid (HOn.out.2 (fun h => g2 (h.1 g1)))
        clear g1 g2
        gi_wp2
        refine region_quiet_round (F := Fence.wide) rfl (by kernel_rfl) (by kernel_rfl) (by kernel_rfl) ?_
        repeat (gi_big_quiet_step (fail))
        refine wpQuietIn_nil ?_
        rintro _ ⟨nq, rfl⟩
        gi_wp2
        refine ⟨(KeepsAll.refl _ V).drewN nq, ⟨Nat.le_refl _, fun _ _ => rfl⟩, fun y hy => ?_, HOs.out.drewN nq⟩
        rcases List.mem_append.1 hy with h | h
        · exact HPr.out y h
        · rw [List.mem_singleton.1 h]; exact HE.out
    · have t1 : (x == (v : Int)) = false := by simp [g1]
      by_cases g2 : z = (u : Int)
      · have t2 : (z == (u : Int)) = true := by simp [g2]
        have HE : Hid (EdgeOn ar ((u : Int), (v : Int))) := Lib.hid (HOn.out.2 (fun h => g1 (h.2 g2)))
        clear g1 g2
        gi_wp2
        refine region_quiet_round (F := Fence.wide) rfl (by kernel_rfl) (by kernel_rfl) (by kernel_rfl) ?_
        repeat (gi_big_quiet_step (fail))
        refine wpQuietIn_nil ?_
        rintro _ ⟨nq, rfl⟩
        gi_wp2
        refine ⟨(KeepsAll.refl _ V).drewN nq, ⟨Nat.le_refl _, fun _ _ => rfl⟩, fun y hy => ?_, HOs.out.drewN nq⟩
        rcases List.mem_append.1 hy with h | h
        · exact HPr.out y h
        · rw [List.mem_singleton.1 h]; exact HE.out
      · have t2 : (z == (u : Int)) = false := by simp [g2]
        have hrf : r = false := HBad.out (fun h => HOn.out.1 h ⟨fun h => absurd h g1, fun h => absurd h g2⟩)
        clear g1 g2
        gi_wp2
        refine region_quiet_round (F := Fence.wide) rfl (by kernel_rfl) (by kernel_rfl) (by kernel_rfl) ?_
        repeat (gi_big_quiet_step (fail))
        refine wpQuietIn_nil ?_
        rintro _ ⟨nq, rfl⟩
        gi_wp2
        refine ⟨((KeepsAll.refl _ V).drewN nq).trans (KeepsAll.setCell _ ls1 _), rfl, hrf, ?_, ?_⟩
        · exact (OnlyS.drewN ⟨HOs.out.os, HOs.out.tape, HOs.out.output, HOs.out.size, fun i h1 _ => HOs.out.block i h1 (fun h => h)⟩ nq).set (S := fun b => b = s1) rfl _
        · exact blk_put (HR5.out.drewN nq) _
  case stop =>
    rintro D cc pre V hD hpre ⟨rfl, hrf, hO, hbr⟩ hK
    have HMk : Hid (Marks w4.heap.size [{ target := .collected D, args := #[] }] V) := Lib.hid (Marks.cons (show Marks w4.heap.size [] V from trivial) (fun d hd k e => by cases hd) hD hK)
    have HBr := Lib.hid hbr
    have HBv : Hid (Below w.heap.size w V) := Lib.hid (OnlyS.bel HB4.out hO (fun b hb => by rw [hb]; exact HX.out.2.1) HB4.out.size)
    clear hO hbr hK hpre
    refine wpIn_wide.2 ?_
    go_wp2
    refine Marks.leave (B := w4.heap.size) _ _ HMk.out (fun W' hb => ?_)
    have c5 : W'.cell? ⟨s1, 0, none⟩ = some (.bool false) := by rw [hb.cell (p := ⟨s1, 0, none⟩) (show s1 < w4.heap.size from ls1), HBr.out.cell]; rfl
    refine ⟨.bool false, by simp [results, Try.f15, go_sem, c5], by first | rfl | rw [hrf], ?_⟩
    exact HBv.out.trans (hb.mono HB4.out.size)
  case done =>
    rintro D1 ys V1 hD1 hys ⟨hpre, hO⟩ hK
    have hrt : r = true := HQe.out (by rw [← hys]; exact hpre)
    have HMk : Hid (Marks w4.heap.size [{ target := .collected D1, args := #[] }] V1) := Lib.hid (Marks.cons (show Marks w4.heap.size [] V1 from trivial) (fun d hd k e => by cases hd) hD1 hK)
    have HR5 := Lib.hid (hO.blk HR4.out (fun h => h))
    have HBv : Hid (Below w.heap.size w V1) := Lib.hid (OnlyS.bel HB4.out hO (fun b hb => hb.elim) HB4.out.size)
    have cr : V1.cell? ⟨s1, 0, none⟩ = some (.bool false) := HR5.out.cell 0
    have fr : V1.frozen? ⟨s1, 0, none⟩ = false := HR5.out.frozen 0
    clear hO hK hpre hys
    go_wp2
    have k9 : OnlyS (fun b => b = s1) V1 (V1.setCell ⟨s1, 0, none⟩ (.bool true)) := OnlyS.set (S := fun b => b = s1) (OnlyS.refl (fun b => b = s1) V1) (x := s1) rfl (.bool true)
    have hk9 := blk_put HR5.out (.bool true)
    have hB10 := OnlyS.bel HBv.out k9 (fun b hb => by rw [hb]; exact HX.out.2.1) HBv.out.size
    refine Marks.leave (B := w4.heap.size) _ _ (OnlyS.marks HMk.out k9 (fun b hb => ⟨_, _, (show Blk V1 b 4 #[.bool false] by rw [hb]; exact HR5.out)⟩)) (fun W' hb => ?_)
    have c5 : W'.cell? ⟨s1, 0, none⟩ = some (.bool true) := by rw [hb.cell (p := ⟨s1, 0, none⟩) (show s1 < w4.heap.size from ls1), hk9.cell]; rfl
    refine ⟨.bool true, by simp [results, Try.f15, go_sem, c5], by first | rfl | rw [hrt], ?_⟩
    exact hB10.trans (hb.mono HB4.out.size)
end Go.Proofs.Ytcomiininaemhaa.Pk
