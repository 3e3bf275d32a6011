/- The walk of the law TreeMeets. -/
import Derived.Test.YtadfcinfnbfefaaTrMeet
import Derived.Test.YtadfcinfnbfefaaArgE
namespace Go.Proofs.Ytadfcinfnbfefaa.Pk
open Go.RowKit Go.Shelf Go.Proofs.Ytadfcinfnbfefaa.Gr Go.Proofs.Ytadfcinfnbfefaa.Ar
set_option linter.unusedVariables false
attribute [local go_sem] Oper.semAt_some

set_option maxRecDepth 100000 in
set_option maxHeartbeats 8000000 in
theorem law_TreeMeets (a : Option Addr) (n c : Nat) (l : List Int) (x y z : Int) (w : World) (h : ArgN w a n c l) (hx : -9223372036854775808 ≤ x ∧ x ≤ 9223372036854775807) (hy : -9223372036854775808 ≤ y ∧ y ≤ 9223372036854775807) (hz : -9223372036854775808 ≤ z ∧ z ≤ 9223372036854775807) :
    Calls Try.prog 10 #[.slice a n c, .agg #[.int .i64 x, .int .i64 y, .int .i64 z]] w fun e w' => e = .returned (.bool true) ∧ Below w.heap.size w w' := by
  obtain ⟨hr, hnc, hc8, _⟩ := h
  have hbig : n ≤ 4611686018427387904 := by omega
  have HR := Lib.hid hr
  have HL := Lib.hid hr.plen
  clear hr hx hy hz
  refine (callsIn_wide (n := 9)).1 ?_
  refine callsIn_of_wp_marks Try.func10 rfl trivial ?_ rfl
  simp only [Try.ntmps10, List.size_toArray, List.length_cons, List.length_nil, Nat.reduceAdd, Nat.reduceSub, Array.replicate_succ, Array.replicate_zero, List.push_toArray, List.append_toArray, List.nil_append, List.cons_append]
  refine wpIn_wide.2 ?_
  obtain ⟨u, hu⟩ : ∃ u, u = w.heap.size := ⟨_, rfl⟩
  obtain ⟨W0, hW0⟩ : ∃ W0, W0 = w.alloc (.cells #[.int .i64 x, .int .i64 y, .int .i64 z] 40) := ⟨_, rfl⟩
  have hb0 : Below w.heap.size w W0 := hW0 ▸ (Below.refl _ w).alloc (Nat.le_refl _) _
  have ke : Blk W0 u 40 #[.int .i64 x, .int .i64 y, .int .i64 z] := by rw [hW0, hu]; exact Blk.new w _ _
  have HU := Lib.hid hu
  have HB0 := Lib.hid hb0
  have HK0 := Lib.hid ke
  have hs0 : u < W0.heap.size := ke.lt
  have hwu : w.heap.size ≤ u := by omega
  go_wp2_with fail
  rw [← hW0]
  rw [← hu]
  clear hW0 hb0 ke hu
  refine (wakes_any _).mono ?_
  rintro e w1 ⟨rfl, hb1⟩
  have HB1 := Lib.hid (HB0.out.trans (hb1.mono HB0.out.size))
  have HK1 := Lib.hid (HK0.out.below hb1 HK0.out.lt)
  have HR1 := Lib.hid (HR.out.below HB1.out)
  have hs1 : u < w1.heap.size := HK1.out.lt
  clear hb1 HK0 HB0
  go_wp2_with fail
  refine (new_any a n c l w1 _ HR1.out (by omega) hbig).mono ?_
  rintro e w2 ⟨hb2, ⟨T, g, rfl, hc2, ht2, hTl, hgl, _⟩ | ⟨p2, e2, rfl, hc2, hne⟩⟩
  case inr =>
    have HB2 := Lib.hid (HB1.out.trans (hb2.mono (by omega)))
    have t1 : (e2 != 0) = true := by simp [hne]
    clear hb2 hc2 hne
    go_wp2
    refine Marks.leave (B := w2.heap.size) [] _ trivial (fun W' hb => ?_)
    have := HB2.out.size
    exact ⟨.bool true, by simp [results, Try.f10, go_sem], rfl, HB2.out.trans (hb.mono (by omega))⟩
  obtain ⟨G, _⟩ := hc2.good
  have HT2 := Lib.hid ht2
  have HB2 := Lib.hid (HB1.out.trans (hb2.mono (by omega)))
  have HK2 := Lib.hid (HK1.out.below hb2 HK1.out.lt)
  have hs2 : w1.heap.size ≤ w2.heap.size := hb2.size
  have hn : 0 < n ∧ n ≤ 32 := by rw [← HL.out]; exact ⟨G.pos, G.few⟩
  obtain ⟨hn1, hn2⟩ := hn
  have c0 : w2.cell? ⟨u, 0, none⟩ = some (.int .i64 x) := by rw [HK2.out.cell]; rfl
  have c1 : w2.cell? ⟨u, 1, none⟩ = some (.int .i64 y) := by rw [HK2.out.cell]; rfl
  have c2 : w2.cell? ⟨u, 2, none⟩ = some (.int .i64 z) := by rw [HK2.out.cell]; rfl
  have hTu := HT2.out.lt T (.inl rfl)
  have hgu := HT2.out.lt g (.inr rfl)
  clear ht2 hb2 hc2 HB1 HK1 HR1
  rcases Int.lt_or_le x 0 with hx0 | hx0
  · go_wp2
    refine Marks.leave (B := w2.heap.size) [] _ trivial (fun W' hb => ?_)
    have := HB2.out.size
    exact ⟨.bool true, by simp [results, Try.f10, go_sem], rfl, HB2.out.trans (hb.mono (by omega))⟩
  rcases Int.lt_or_le x (n : Int) with hx1 | hx1
  rotate_left
  · go_wp2
    refine Marks.leave (B := w2.heap.size) [] _ trivial (fun W' hb => ?_)
    have := HB2.out.size
    exact ⟨.bool true, by simp [results, Try.f10, go_sem], rfl, HB2.out.trans (hb.mono (by omega))⟩
  rcases Int.lt_or_le y 0 with hy0 | hy0
  · go_wp2
    refine Marks.leave (B := w2.heap.size) [] _ trivial (fun W' hb => ?_)
    have := HB2.out.size
    exact ⟨.bool true, by simp [results, Try.f10, go_sem], rfl, HB2.out.trans (hb.mono (by omega))⟩
  rcases Int.lt_or_le y (n : Int) with hy1 | hy1
  rotate_left
  · go_wp2
    refine Marks.leave (B := w2.heap.size) [] _ trivial (fun W' hb => ?_)
    have := HB2.out.size
    exact ⟨.bool true, by simp [results, Try.f10, go_sem], rfl, HB2.out.trans (hb.mono (by omega))⟩
  rcases Int.lt_or_le z 0 with hz0 | hz0
  · go_wp2
    refine Marks.leave (B := w2.heap.size) [] _ trivial (fun W' hb => ?_)
    have := HB2.out.size
    exact ⟨.bool true, by simp [results, Try.f10, go_sem], rfl, HB2.out.trans (hb.mono (by omega))⟩
  rcases Int.lt_or_le z (n : Int) with hz1 | hz1
  rotate_left
  · go_wp2
    refine Marks.leave (B := w2.heap.size) [] _ trivial (fun W' hb => ?_)
    have := HB2.out.size
    exact ⟨.bool true, by simp [results, Try.f10, go_sem], rfl, HB2.out.trans (hb.mono (by omega))⟩
  have HMk := Lib.hid (fun W' (hb : BlkN W' w2.heap.size (List.replicate n 0)) (hbel : Below w2.heap.size w2 W') => show Hid (MeetAt w u W'.heap.size w2.heap.size T g n l x y z (W'.alloc (.cells #[.slice (some ⟨w2.heap.size, 0, none⟩) n n] 22)) (fun _ => 0)) from Lib.hid (by
    have hlt : w2.heap.size < W'.heap.size := Blk.lt hb
    have hb2 := hbel.alloc hbel.size (.cells #[.slice (some ⟨w2.heap.size, 0, none⟩) n n] 22)
    refine ⟨?_, Blk.new W' _ _, HK2.out.below hb2 HK2.out.lt, HT2.out.below_ hb2, HB2.out.trans (hb2.mono HB2.out.size), by omega, by omega, by omega, by omega, HB2.out.size⟩
    rw [numsF_zero]; exact Blk.alloc hb _))
  go_wp2_with (refine makeN w2 rfl (.tmp 59) (.tmp 59) rfl .i64 .i64 _ _ n rfl rfl rfl rfl (by omega) ?_; intro w3 hb3 hbel3; have HM0 := HMk.out w3 hb3 hbel3; have hs3 := hbel3.size; have hu3 : u < w3.heap.size := by { omega }; have d0 : w3.cell? ⟨u, 0, none⟩ = some (.int .i64 x) := by { rw [hbel3.cell (p := ⟨u, 0, none⟩) HK2.out.lt]; exact c0 }; have d1 : w3.cell? ⟨u, 1, none⟩ = some (.int .i64 y) := by { rw [hbel3.cell (p := ⟨u, 1, none⟩) HK2.out.lt]; exact c1 }; have d2 : w3.cell? ⟨u, 2, none⟩ = some (.int .i64 z) := by { rw [hbel3.cell (p := ⟨u, 2, none⟩) HK2.out.lt]; exact c2 }; clear hb3 hbel3 c0 c1 c2)
  obtain ⟨W1, hW1⟩ : ∃ W1, W1 = w3.alloc (.cells #[.slice (some ⟨w2.heap.size, 0, none⟩) n n] 22) := ⟨_, rfl⟩
  obtain ⟨xb, hxb⟩ : ∃ xb, xb = w3.heap.size := ⟨_, rfl⟩
  obtain ⟨go, hgo⟩ : ∃ go, go = w2.heap.size := ⟨_, rfl⟩
  rw [← hW1, ← hxb, ← hgo] at HM0
  rw [← hW1, ← hxb, ← hgo]
  have HF0 : Hid (∀ v, (fun _ : Nat => 0) v ≤ 0) := Lib.hid (fun v => Nat.le_refl _)
  have HMs0 : Hid (Marks w2.heap.size [] W1) := Lib.hid trivial
  have hw2W : w2.heap.size ≤ W1.heap.size := by rw [hW1, World.size_alloc]; omega
  obtain ⟨p, rfl⟩ : ∃ p : Nat, x = (p : Int) := ⟨x.toNat, by omega⟩
  obtain ⟨q, rfl⟩ : ∃ q : Nat, y = (q : Int) := ⟨y.toNat, by omega⟩
  obtain ⟨r, rfl⟩ : ∃ r : Nat, z = (r : Int) := ⟨z.toNat, by omega⟩
  have HPn : Hid (p < l.length ∧ q < l.length ∧ r < l.length) := Lib.hid (by rw [HL.out]; omega)
  have HGo := Lib.hid hgo
  clear hx0 hy0 hz0 hx1 hy1 hz1 d0 d1 d2 hu3 hs3 HMk hTu hgu hTl hgl hW1 hxb hgo
  refine (path_codeM T g l (p : Int) (q : Int) W1 HM0.out.tr G).mono ?_
  rintro e wp1 ⟨v, R, rfl, hsq, hb, hR⟩
  have SQ : Hid (SeqM v (pathI l (p : Int) (q : Int)) R wp1) := Lib.hid hsq
  obtain ⟨gf, lb, rfl, en, hRl, _⟩ := hsq
  have EN := Lib.hid en
  have HMm1 := Lib.hid (HM0.out.step hb)
  have HRx : Hid (∀ b, R b → b ≠ go) := Lib.hid (fun b hb' e => by
    subst e
    rcases hR _ hb' with h | h
    · rcases h with h | h
      · exact HM0.out.ne.2.2.1 h
      · exact HM0.out.ne.2.2.2.1 h
    · have := Blk.lt HM0.out.on; omega)
  have HMs1 := Lib.hid (HMs0.out.below hb)
  have hw1 : w2.heap.size ≤ wp1.heap.size := Nat.le_trans hw2W hb.size
  have HPl := Lib.hid (Nat.le_trans (G.path_le (p : Int) (q : Int)) G.few)
  clear en hRl hb hR HM0 HMs0 hw2W
  go_wp2
  refine (wpIn_wide (n := 9)).1 ?_
  refine' wpIn_rangeFunc_ownG (α := { x : Int // x ∈ pathI l (p : Int) (q : Int) }) rfl (by omega) (gf := gf) (lb := lb) rfl trivial EN.out
    SQ.out.seq (fun h k => h.trans k) (stay_b SQ.out.lt) (Below.refl _ _) (fun _ => rfl)
    (fun pre W => BlkN W go (numsF (fun v => 0 + cntF (pre.map (·.1)) v) n) ∧ Only wp1 W go)
    (fun c pre W => False)
    (OwnFrom.and (own_blks _ go _ (fun pre : List { x : Int // x ∈ pathI l (p : Int) (q : Int) } => (nms (numsF (fun v => 0 + cntF (pre.map (·.1)) v) n)).toArray)) (own_only wp1 go))
    (fun c => fun s A B row hs hg hr => hs)
    ⟨HMm1.out.on, Only.refl _ _⟩
    _ ?assign ?body ?done ?stop
  case assign =>
    intro l x W K hK
    gi_wp2
    exact hK
  case body =>
    rintro lp pre ⟨xv, hxm⟩ V ⟨hbk, hOnly⟩ hlt
    obtain ⟨t, rfl, ht⟩ := pathI_mem G hxm
    rw [HL.out] at ht
    have HM2 := Lib.hid (HMm1.out.turn hOnly hbk)
    have cx : V.cell? ⟨xb, 0, none⟩ = some (.slice (some ⟨go, 0, none⟩) n n) := by rw [HM2.out.box.cell]; rfl
    have ct := hbk.num (i := t) (by simpa using ht)
    have ft : V.frozen? ⟨go, t, none⟩ = false := Blk.frozen hbk t
    rw [numsF_get ht] at ct
    have hm : 0 + cntF (pre.map (·.1)) t ≤ 1000 := by
      have h1 := HF0.out t
      have h2 : cntF (pre.map (·.1)) t ≤ (pre.map (·.1)).length := List.count_le_length
      have h3 := HPl.out
      rw [List.length_map] at h2
      try simp only at h1
      omega
    obtain ⟨m, hmm⟩ : ∃ m, m = 0 + cntF (pre.map (·.1)) t := ⟨_, rfl⟩
    rw [← hmm] at ct hm
    have HMe := Lib.hid hmm
    have HBk := Lib.hid hbk
    have HO := Lib.hid hOnly
    clear hbk hOnly hmm hlt
    gi_wp2
    refine ⟨(KeepsOthers.setCell _ _ _).from _, stay_setAt (fun h => HRx.out _ h rfl), ?_, HO.out.set _ _⟩
    have h1 := HBk.out.set_ t ((m : Int) + 1)
    rw [HMe.out] at h1
    have h2 := numsF_set (f := fun v => 0 + cntF (pre.map (·.1)) v) (g := fun v => 0 + cntF ((pre ++ [(⟨(t : Int), hxm⟩ : { x : Int // x ∈ pathI l (p : Int) (q : Int) })]).map (·.1)) v) (n := n) (t := t) ht (fun v => by
      rw [List.map_append]
      show _ + cntF (pre.map (·.1) ++ [(t : Int)]) v = _
      rw [cntF_snoc]
      by_cases hv : v = t
      · rw [if_pos hv, if_pos hv]; omega
      · rw [if_neg hv, if_neg hv])
    rw [h2] at h1
    rw [HMe.out]; exact h1
  case stop =>
    rintro D cc pre V hD hpre hf hK
    exact hf.elim
  case done =>
    rintro D1 ys V1 hD1 hys ⟨hbk, hOnly⟩ hK
    rw [hys] at hbk
    have hM1 := HMm1.out.turn hOnly hbk
    have HM1 := Lib.hid hM1
    have hM0 := HMs1.out.only hOnly (Blk.lt_blk HMm1.out.on)
    have HMs1 := Lib.hid (hM0.cons (fun d hd k e => by have := HMs1.out.lt d hd k e; omega) (by omega) hK)
    have hw2W : w2.heap.size ≤ V1.heap.size := Nat.le_trans hw1 hOnly.size
    have HF1 : Hid (∀ v, (fun v => 0 + cntF (pathI l (p : Int) (q : Int)) v) v ≤ 1 * 32) := Lib.hid (fun v => by
      have h1 := HF0.out v
      have h2 : cntF (pathI l (p : Int) (q : Int)) v ≤ (pathI l (p : Int) (q : Int)).length := List.count_le_length
      have h3 := HPl.out
      try simp only at h1 ⊢
      omega)
    have d0 : V1.cell? ⟨u, 0, none⟩ = some (.int .i64 (p : Int)) := by rw [hM1.ends.cell]; rfl
    have d1 : V1.cell? ⟨u, 1, none⟩ = some (.int .i64 (q : Int)) := by rw [hM1.ends.cell]; rfl
    have d2 : V1.cell? ⟨u, 2, none⟩ = some (.int .i64 (r : Int)) := by rw [hM1.ends.cell]; rfl
    have cx : V1.cell? ⟨xb, 0, none⟩ = some (.slice (some ⟨go, 0, none⟩) n n) := by rw [hM1.box.cell]; rfl
    clear hbk hOnly hM0 hK hM1 hys HMm1
    clear cx
    go_wp2_with fail
    clear d0 d1 d2
    refine (path_codeM T g l (q : Int) (r : Int) V1 HM1.out.tr G).mono ?_
    rintro e wp2 ⟨v, R, rfl, hsq, hb, hR⟩
    have SQ : Hid (SeqM v (pathI l (q : Int) (r : Int)) R wp2) := Lib.hid hsq
    obtain ⟨gf, lb, rfl, en, hRl, _⟩ := hsq
    have EN := Lib.hid en
    have HMm2 := Lib.hid (HM1.out.step hb)
    have HRx : Hid (∀ b, R b → b ≠ go) := Lib.hid (fun b hb' e => by
      subst e
      rcases hR _ hb' with h | h
      · rcases h with h | h
        · exact HM1.out.ne.2.2.1 h
        · exact HM1.out.ne.2.2.2.1 h
      · have := Blk.lt HM1.out.on; omega)
    have HMs2 := Lib.hid (HMs1.out.below hb)
    have hw2 : w2.heap.size ≤ wp2.heap.size := Nat.le_trans hw2W hb.size
    have HPl := Lib.hid (Nat.le_trans (G.path_le (q : Int) (r : Int)) G.few)
    clear en hRl hb hR HM1 HMs1 hw2W
    go_wp2
    refine (wpIn_wide (n := 9)).1 ?_
    refine' wpIn_rangeFunc_ownG (α := { x : Int // x ∈ pathI l (q : Int) (r : Int) }) rfl (by omega) (gf := gf) (lb := lb) rfl trivial EN.out
      SQ.out.seq (fun h k => h.trans k) (stay_b SQ.out.lt) (Below.refl _ _) (fun _ => rfl)
      (fun pre W => BlkN W go (numsF (fun v => (0 + cntF (pathI l (p : Int) (q : Int)) v) + cntF (pre.map (·.1)) v) n) ∧ Only wp2 W go)
      (fun c pre W => False)
      (OwnFrom.and (own_blks _ go _ (fun pre : List { x : Int // x ∈ pathI l (q : Int) (r : Int) } => (nms (numsF (fun v => (0 + cntF (pathI l (p : Int) (q : Int)) v) + cntF (pre.map (·.1)) v) n)).toArray)) (own_only wp2 go))
      (fun c => fun s A B row hs hg hr => hs)
      ⟨HMm2.out.on, Only.refl _ _⟩
      _ ?assign ?body ?done ?stop
    case assign =>
      intro l x W K hK
      gi_wp2
      exact hK
    case body =>
      rintro lp pre ⟨xv, hxm⟩ V ⟨hbk, hOnly⟩ hlt
      obtain ⟨t, rfl, ht⟩ := pathI_mem G hxm
      rw [HL.out] at ht
      have HM2 := Lib.hid (HMm2.out.turn hOnly hbk)
      have cx : V.cell? ⟨xb, 0, none⟩ = some (.slice (some ⟨go, 0, none⟩) n n) := by rw [HM2.out.box.cell]; rfl
      have ct := hbk.num (i := t) (by simpa using ht)
      have ft : V.frozen? ⟨go, t, none⟩ = false := Blk.frozen hbk t
      rw [numsF_get ht] at ct
      have hm : (0 + cntF (pathI l (p : Int) (q : Int)) t) + cntF (pre.map (·.1)) t ≤ 1000 := by
        have h1 := HF1.out t
        have h2 : cntF (pre.map (·.1)) t ≤ (pre.map (·.1)).length := List.count_le_length
        have h3 := HPl.out
        rw [List.length_map] at h2
        try simp only at h1
        omega
      obtain ⟨m, hmm⟩ : ∃ m, m = (0 + cntF (pathI l (p : Int) (q : Int)) t) + cntF (pre.map (·.1)) t := ⟨_, rfl⟩
      rw [← hmm] at ct hm
      have HMe := Lib.hid hmm
      have HBk := Lib.hid hbk
      have HO := Lib.hid hOnly
      clear hbk hOnly hmm hlt
      gi_wp2
      refine ⟨(KeepsOthers.setCell _ _ _).from _, stay_setAt (fun h => HRx.out _ h rfl), ?_, HO.out.set _ _⟩
      have h1 := HBk.out.set_ t ((m : Int) + 1)
      rw [HMe.out] at h1
      have h2 := numsF_set (f := fun v => (0 + cntF (pathI l (p : Int) (q : Int)) v) + cntF (pre.map (·.1)) v) (g := fun v => (0 + cntF (pathI l (p : Int) (q : Int)) v) + cntF ((pre ++ [(⟨(t : Int), hxm⟩ : { x : Int // x ∈ pathI l (q : Int) (r : Int) })]).map (·.1)) v) (n := n) (t := t) ht (fun v => by
        rw [List.map_append]
        show _ + cntF (pre.map (·.1) ++ [(t : Int)]) v = _
        rw [cntF_snoc]
        by_cases hv : v = t
        · rw [if_pos hv, if_pos hv]; omega
        · rw [if_neg hv, if_neg hv])
      rw [h2] at h1
      rw [HMe.out]; exact h1
    case stop =>
      rintro D cc pre V hD hpre hf hK
      exact hf.elim
    case done =>
      rintro D2 ys V2 hD2 hys ⟨hbk, hOnly⟩ hK
      rw [hys] at hbk
      have hM2 := HMm2.out.turn hOnly hbk
      have HM2 := Lib.hid hM2
      have hM0 := HMs2.out.only hOnly (Blk.lt_blk HMm2.out.on)
      have HMs2 := Lib.hid (hM0.cons (fun d hd k e => by have := HMs2.out.lt d hd k e; omega) (by omega) hK)
      have hw2W : w2.heap.size ≤ V2.heap.size := Nat.le_trans hw2 hOnly.size
      have HF2 : Hid (∀ v, (fun v => (0 + cntF (pathI l (p : Int) (q : Int)) v) + cntF (pathI l (q : Int) (r : Int)) v) v ≤ 2 * 32) := Lib.hid (fun v => by
        have h1 := HF1.out v
        have h2 : cntF (pathI l (q : Int) (r : Int)) v ≤ (pathI l (q : Int) (r : Int)).length := List.count_le_length
        have h3 := HPl.out
        try simp only at h1 ⊢
        omega)
      have d0 : V2.cell? ⟨u, 0, none⟩ = some (.int .i64 (p : Int)) := by rw [hM2.ends.cell]; rfl
      have d1 : V2.cell? ⟨u, 1, none⟩ = some (.int .i64 (q : Int)) := by rw [hM2.ends.cell]; rfl
      have d2 : V2.cell? ⟨u, 2, none⟩ = some (.int .i64 (r : Int)) := by rw [hM2.ends.cell]; rfl
      have cx : V2.cell? ⟨xb, 0, none⟩ = some (.slice (some ⟨go, 0, none⟩) n n) := by rw [hM2.box.cell]; rfl
      clear hbk hOnly hM0 hK hM2 hys HMm2
      clear cx
      go_wp2_with fail
      clear d0 d1 d2
      refine (path_codeM T g l (r : Int) (p : Int) V2 HM2.out.tr G).mono ?_
      rintro e wp3 ⟨v, R, rfl, hsq, hb, hR⟩
      have SQ : Hid (SeqM v (pathI l (r : Int) (p : Int)) R wp3) := Lib.hid hsq
      obtain ⟨gf, lb, rfl, en, hRl, _⟩ := hsq
      have EN := Lib.hid en
      have HMm3 := Lib.hid (HM2.out.step hb)
      have HRx : Hid (∀ b, R b → b ≠ go) := Lib.hid (fun b hb' e => by
        subst e
        rcases hR _ hb' with h | h
        · rcases h with h | h
          · exact HM2.out.ne.2.2.1 h
          · exact HM2.out.ne.2.2.2.1 h
        · have := Blk.lt HM2.out.on; omega)
      have HMs3 := Lib.hid (HMs2.out.below hb)
      have hw3 : w2.heap.size ≤ wp3.heap.size := Nat.le_trans hw2W hb.size
      have HPl := Lib.hid (Nat.le_trans (G.path_le (r : Int) (p : Int)) G.few)
      clear en hRl hb hR HM2 HMs2 hw2W
      go_wp2
      refine (wpIn_wide (n := 9)).1 ?_
      refine' wpIn_rangeFunc_ownG (α := { x : Int // x ∈ pathI l (r : Int) (p : Int) }) rfl (by omega) (gf := gf) (lb := lb) rfl trivial EN.out
        SQ.out.seq (fun h k => h.trans k) (stay_b SQ.out.lt) (Below.refl _ _) (fun _ => rfl)
        (fun pre W => BlkN W go (numsF (fun v => ((0 + cntF (pathI l (p : Int) (q : Int)) v) + cntF (pathI l (q : Int) (r : Int)) v) + cntF (pre.map (·.1)) v) n) ∧ Only wp3 W go)
        (fun c pre W => False)
        (OwnFrom.and (own_blks _ go _ (fun pre : List { x : Int // x ∈ pathI l (r : Int) (p : Int) } => (nms (numsF (fun v => ((0 + cntF (pathI l (p : Int) (q : Int)) v) + cntF (pathI l (q : Int) (r : Int)) v) + cntF (pre.map (·.1)) v) n)).toArray)) (own_only wp3 go))
        (fun c => fun s A B row hs hg hr => hs)
        ⟨HMm3.out.on, Only.refl _ _⟩
        _ ?assign ?body ?done ?stop
      case assign =>
        intro l x W K hK
        gi_wp2
        exact hK
      case body =>
        rintro lp pre ⟨xv, hxm⟩ V ⟨hbk, hOnly⟩ hlt
        obtain ⟨t, rfl, ht⟩ := pathI_mem G hxm
        rw [HL.out] at ht
        have HM2 := Lib.hid (HMm3.out.turn hOnly hbk)
        have cx : V.cell? ⟨xb, 0, none⟩ = some (.slice (some ⟨go, 0, none⟩) n n) := by rw [HM2.out.box.cell]; rfl
        have ct := hbk.num (i := t) (by simpa using ht)
        have ft : V.frozen? ⟨go, t, none⟩ = false := Blk.frozen hbk t
        rw [numsF_get ht] at ct
        have hm : ((0 + cntF (pathI l (p : Int) (q : Int)) t) + cntF (pathI l (q : Int) (r : Int)) t) + cntF (pre.map (·.1)) t ≤ 1000 := by
          have h1 := HF2.out t
          have h2 : cntF (pre.map (·.1)) t ≤ (pre.map (·.1)).length := List.count_le_length
          have h3 := HPl.out
          rw [List.length_map] at h2
          try simp only at h1
          omega
        obtain ⟨m, hmm⟩ : ∃ m, m = ((0 + cntF (pathI l (p : Int) (q : Int)) t) + cntF (pathI l (q : Int) (r : Int)) t) + cntF (pre.map (·.1)) t := ⟨_, rfl⟩
        rw [← hmm] at ct hm
        have HMe := Lib.hid hmm
        have HBk := Lib.hid hbk
        have HO := Lib.hid hOnly
        clear hbk hOnly hmm hlt
        gi_wp2
        refine ⟨(KeepsOthers.setCell _ _ _).from _, stay_setAt (fun h => HRx.out _ h rfl), ?_, HO.out.set _ _⟩
        have h1 := HBk.out.set_ t ((m : Int) + 1)
        rw [HMe.out] at h1
        have h2 := numsF_set (f := fun v => ((0 + cntF (pathI l (p : Int) (q : Int)) v) + cntF (pathI l (q : Int) (r : Int)) v) + cntF (pre.map (·.1)) v) (g := fun v => ((0 + cntF (pathI l (p : Int) (q : Int)) v) + cntF (pathI l (q : Int) (r : Int)) v) + cntF ((pre ++ [(⟨(t : Int), hxm⟩ : { x : Int // x ∈ pathI l (r : Int) (p : Int) })]).map (·.1)) v) (n := n) (t := t) ht (fun v => by
          rw [List.map_append]
          show _ + cntF (pre.map (·.1) ++ [(t : Int)]) v = _
          rw [cntF_snoc]
          by_cases hv : v = t
          · rw [if_pos hv, if_pos hv]; omega
          · rw [if_neg hv, if_neg hv])
        rw [h2] at h1
        rw [HMe.out]; exact h1
      case stop =>
        rintro D cc pre V hD hpre hf hK
        exact hf.elim
      case done =>
        rintro D3 ys V3 hD3 hys ⟨hbk, hOnly⟩ hK
        rw [hys] at hbk
        have hM3 := HMm3.out.turn hOnly hbk
        have HM3 := Lib.hid hM3
        have hM0 := HMs3.out.only hOnly (Blk.lt_blk HMm3.out.on)
        have HMs3 := Lib.hid (hM0.cons (fun d hd k e => by have := HMs3.out.lt d hd k e; omega) (by omega) hK)
        have hw2W : w2.heap.size ≤ V3.heap.size := Nat.le_trans hw3 hOnly.size
        have HF3 : Hid (∀ v, (fun v => ((0 + cntF (pathI l (p : Int) (q : Int)) v) + cntF (pathI l (q : Int) (r : Int)) v) + cntF (pathI l (r : Int) (p : Int)) v) v ≤ 3 * 32) := Lib.hid (fun v => by
          have h1 := HF2.out v
          have h2 : cntF (pathI l (r : Int) (p : Int)) v ≤ (pathI l (r : Int) (p : Int)).length := List.count_le_length
          have h3 := HPl.out
          try simp only at h1 ⊢
          omega)
        have d0 : V3.cell? ⟨u, 0, none⟩ = some (.int .i64 (p : Int)) := by rw [hM3.ends.cell]; rfl
        have d1 : V3.cell? ⟨u, 1, none⟩ = some (.int .i64 (q : Int)) := by rw [hM3.ends.cell]; rfl
        have d2 : V3.cell? ⟨u, 2, none⟩ = some (.int .i64 (r : Int)) := by rw [hM3.ends.cell]; rfl
        have cx : V3.cell? ⟨xb, 0, none⟩ = some (.slice (some ⟨go, 0, none⟩) n n) := by rw [hM3.box.cell]; rfl
        clear hbk hOnly hM0 hK hM3 hys HMm3
        clear d0 d1 d2
        have HOne : Hid (((List.range n).filter fun v => decide ((((0 + cntF (pathI l (p : Int) (q : Int)) v) + cntF (pathI l (q : Int) (r : Int)) v) + cntF (pathI l (r : Int) (p : Int)) v) = 3)).length = 1) := Lib.hid (by
          obtain ⟨h1, h2, h3⟩ := HPn.out
          have h4 := G.meet_one h1 h2 h3
          rw [HL.out] at h4
          rw [← h4]
          congr 2
          funext v
          rw [show (((0 + cntF (pathI l (p : Int) (q : Int)) v) + cntF (pathI l (q : Int) (r : Int)) v) + cntF (pathI l (r : Int) (p : Int)) v) = cntF (pathI l (p : Int) (q : Int)) v + cntF (pathI l (q : Int) (r : Int)) v + cntF (pathI l (r : Int) (p : Int)) v by omega])
        obtain ⟨F, hF⟩ : ∃ F : Nat → Nat, F = fun v => (((0 + cntF (pathI l (p : Int) (q : Int)) v) + cntF (pathI l (q : Int) (r : Int)) v) + cntF (pathI l (r : Int) (p : Int)) v) := ⟨_, rfl⟩
        have HOne2 : Hid (((List.range n).filter fun v => decide (F v = 3)).length = 1) := Lib.hid (by rw [hF]; exact HOne.out)
        have HM4 : Hid (MeetAt w u xb go T g n l (p : Int) (q : Int) (r : Int) V3 F) := Lib.hid (by rw [hF]; exact HM3.out)
        have HF4 : Hid (∀ v, F v ≤ 96) := Lib.hid (by rw [hF]; exact HF3.out)
        clear hF HOne HM3 HF3 HF2 HF1 HF0
        go_wp2
        go_loop [12, 102] (fun m j => ∃ i : Nat, j = .int .i64 i ∧ i ≤ n ∧ m = .int .i64 (((List.range i).filter fun v => decide (F v = 3)).length : Nat)) (fun _ j => n - (intOf j).toNat)
        case atStart => exact ⟨0, rfl, by omega, rfl⟩
        case round =>
          obtain ⟨i, rfl, hi, rfl⟩ := hrel
          by_cases hlt : i < n
          · have ci := HM4.out.on.num (i := i) (by simpa using hlt)
            rw [numsF_get hlt] at ci
            have hFi := HF4.out i
            have hml : ((List.range i).filter fun v => decide (F v = 3)).length ≤ 32 := by
              have := List.length_filter_le (fun v => decide (F v = 3)) (List.range i)
              rw [List.length_range] at this
              omega
            obtain ⟨m, hm⟩ : ∃ m, m = ((List.range i).filter fun v => decide (F v = 3)).length := ⟨_, rfl⟩
            have HS : Hid (((List.range (i + 1)).filter fun v => decide (F v = 3)).length = if F i = 3 then m + 1 else m) := Lib.hid (by
              rw [List.range_succ, List.filter_append, List.length_append, hm]
              by_cases h3 : F i = 3
              · rw [if_pos h3]; simp [h3]
              · rw [if_neg h3]; simp [h3])
            rw [← hm] at hml
            rw [← hm]
            clear hm
            obtain ⟨f, hf⟩ : ∃ f, f = F i := ⟨_, rfl⟩
            rw [← hf] at ci hFi HS
            clear hf
            by_cases h3 : f = 3
            · have HS2 : Hid (((List.range (i + 1)).filter fun v => decide (F v = 3)).length = m + 1) := Lib.hid (by rw [HS.out, if_pos h3])
              subst h3
              go_wp2
              go_round
              case rel => exact ⟨i + 1, by go_num, by omega, by rw [HS2.out]; go_num⟩
              case measure => simp [intOf]; omega
            · have HS2 : Hid (((List.range (i + 1)).filter fun v => decide (F v = 3)).length = m) := Lib.hid (by rw [HS.out, if_neg h3])
              have t1 : ((f : Int) == 3) = false := by simp; omega
              clear h3
              go_wp2
              go_round
              case rel => exact ⟨i + 1, by go_num, by omega, by rw [HS2.out]⟩
              case measure => simp [intOf]; omega
          · have hi2 : i = n := by omega
            subst hi2
            rw [HOne2.out]
            go_wp2
            refine Marks.leave (B := w2.heap.size) _ _ HMs3.out (fun W' hb => ?_)
            have := HM4.out.bel.size
            have := HB2.out.size
            exact ⟨.bool true, by simp [results, Try.f10, go_sem], rfl, HM4.out.bel.trans (hb.mono (by omega))⟩
end Go.Proofs.Ytadfcinfnbfefaa.Pk
