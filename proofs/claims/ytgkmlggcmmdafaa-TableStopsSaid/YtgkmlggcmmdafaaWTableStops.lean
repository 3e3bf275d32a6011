/- The walk of the law TableStops, from a table's promises. -/
import Derived.Test.YtgkmlggcmmdafaaTabBox
import Derived.Scope
import Derived.Laws.EntriesVeiled
import Derived.Test.YtgkmlggcmmdafaaRangeIn
namespace Go.Proofs.Ytgkmlggcmmdafaa.Pk
open Go.RowKit Go.Shelf Go.Proofs.Ytgkmlggcmmdafaa.Tb Go.Proofs.Ytgkmlggcmmdafaa.Ar
set_option linter.unusedVariables false
attribute [local go_sem] Oper.semAt_some

set_option maxRecDepth 100000 in
set_option maxHeartbeats 8000000 in
theorem law_TableStops {Tb : World → Nat → List Rw → (Nat → Prop) → (Nat → Prop) → Prop} (C : TableC Tb) (P : SeqP Tb) (a : Option Addr) (m d : Nat) (os : List Cl) (st : Int) (w : World) (h : ArgC w a m d os) (hst0 : -9223372036854775808 ≤ st ∧ st ≤ 9223372036854775807) :
    Calls Try.prog 5 #[.slice a m d, .int .i64 st] w fun e w' => e = .returned (.bool true) ∧ Below w.heap.size w w' := by
  obtain ⟨hr, hmd, hd, hk⟩ := h
  obtain ⟨hst01, hst02⟩ := hst0
  have HC := Lib.hid C
  have HP := Lib.hid P
  have HR := Lib.hid hr
  have HK := Lib.hid hk
  have HM := Lib.hid hr.clen
  clear C P hr hk
  refine (callsIn_wide (n := 9)).1 ?_
  refine callsIn_of_wp_marks Try.func5 rfl trivial ?_ rfl
  simp only [Try.ntmps5, List.size_toArray, List.length_cons, List.length_nil, Nat.reduceAdd, Nat.reduceSub, Array.replicate_succ, Array.replicate_zero, List.push_toArray, List.append_toArray, List.nil_append, List.cons_append]
  refine wpIn_wide.2 ?_
  go_wp2_with fail
  obtain ⟨w0, hw0⟩ : ∃ w0, w0 = w.alloc (.cells #[.int .i64 st] 3) := ⟨_, rfl⟩
  have es : w.heap.size + 1 = w0.heap.size := by rw [hw0]; simp
  have hbw : Below w.heap.size w w0 := hw0 ▸ (Below.refl _ _).alloc (Nat.le_refl _) _
  have hst : Blk w0 w.heap.size 3 #[.int .i64 st] := hw0 ▸ Blk.new w _ _
  have HBW := Lib.hid hbw
  rw [← hw0, es]
  obtain ⟨sb, hsb⟩ : ∃ sb, sb = w.heap.size := ⟨_, rfl⟩
  rw [← hsb] at es hbw hst ⊢
  have HBW0 := Lib.hid hbw
  have HST := Lib.hid hst
  have HR := Lib.hid ((HR.out.below (hsb ▸ hbw)).more (B' := w0.heap.size) (by omega))
  clear hw0 hbw hst hsb
  have kr0 := Blk.new w0 4 #[.bool false]
  have hb0 : Below w0.heap.size w0 (w0.alloc (.cells #[.bool false] 4)) := (Below.refl _ _).alloc (Nat.le_refl _) _
  refine wp_scope_straight ?_
  go_wp2_with fail
  refine (wakes_any HC.out _).mono ?_
  rintro e w1 ⟨rfl, hb1⟩
  have kr1 := kr0.below hb1 (by simp)
  have hb1' := hb0.trans (hb1.mono (by simp))
  have hs1 : w0.heap.size + 1 ≤ w1.heap.size := by have := hb1.size; simpa using this
  have HKR1 := Lib.hid kr1
  have HB1 := Lib.hid hb1'
  clear kr0 hb0 hb1 kr1 hb1'
  go_wp2_with fail
  refine (HC.out.new w1).mono ?_
  rintro e w2 ⟨T, S, D, rfl, h2, hb2, hD2⟩
  have hs2 := hb2.size
  have HB2 := Lib.hid (HB1.out.trans (hb2.mono (by omega)))
  have HKR2 := Lib.hid (HKR1.out.below hb2 (by omega))
  have HT2 := Lib.hid h2
  have HD2 : Hid (∀ b, D b → w0.heap.size ≤ b ∧ b ≠ w2.heap.size ∧ b ≠ w0.heap.size) := Lib.hid fun b hb => by
    have h3 := hD2 b hb
    have h4 := HC.out.lt h2 b hb
    exact ⟨by omega, by omega, by omega⟩
  clear hb2 h2 hD2
  go_wp2
  have hat0 : AtBox Tb T w2.heap.size w0.heap.size 0 w0 (w2.alloc (.cells #[.slice none 0 0] 26)) :=
    ⟨[], none, 0, 0, S, D, Blk.new w2 _ _, HKR2.out.alloc _, Nat.le_refl _, Reads.none_, fun h => absurd h (by omega), HC.out.stay HT2.out (Stay.below ((Below.refl w2.heap.size w2).alloc (Nat.le_refl _) _) (HC.out.lt HT2.out)), Nat.le_refl _, HB2.out.alloc HB2.out.size _, HD2.out⟩
  have HA0 := Lib.hid hat0
  clear hat0
  have hg1 : w0.heap.size < w2.heap.size := by omega
  go_loopw [8, 21] (fun _ j wr => ∃ i : Nat, j = .int .i64 i ∧ i ≤ m ∧ AtBox Tb T w2.heap.size w0.heap.size i w0 wr) (fun _ j _ => m - (intOf j).toNat)
  case atStart => exact ⟨0, rfl, by omega, HA0.out⟩
  case round =>
    obtain ⟨i, rfl, hi, l, A, n, c, S3, D3, hkb, hkr, hnc, hr3, hf3, ht3, hni, hb3, hd3⟩ := hrel
    obtain ⟨w3, rfl⟩ : ∃ w3 : World, w3 = wr := ⟨_, rfl⟩
    have HKB := Lib.hid hkb
    have HKR := Lib.hid hkr
    have HR3 := Lib.hid hr3
    have HF3 := Lib.hid hf3
    have HT3 := Lib.hid ht3
    have HB3 := Lib.hid hb3
    have HD3 := Lib.hid hd3
    have cb : w3.cell? ⟨w2.heap.size, 0, none⟩ = some (.slice A n c) := by rw [hkb.cell]; rfl
    have hgl := hkb.lt
    clear hkb hkr hr3 hf3 ht3 hb3 hd3
    by_cases hlt : i < m
    · obtain ⟨b, off, rfl, hbb, hc⟩ := (HR.out.below HB3.out).calls (by omega)
      obtain ⟨r, hr⟩ : ∃ r, os[i]? = some r := ⟨_, List.getElem?_eq_getElem (by rw [HM.out]; exact hlt)⟩
      obtain ⟨x0, x1, x2⟩ := hc i r hr
      obtain ⟨kd, k, s⟩ := r
      have hkr := HK.out _ (List.mem_of_getElem? hr)
      simp only at x0 x1 x2 hkr
      have HKR' := Lib.hid hkr
      clear hc hr hkr
      have s3 := HB3.out.size
      have HB4 := Lib.hid (HB3.out.alloc s3 (.cells #[.int .i64 kd, .int .i64 k, .string s] 28))
      have HR4 : Hid (Reads (w3.alloc (.cells #[.int .i64 kd, .int .i64 k, .string s] 28)) (w3.alloc (.cells #[.int .i64 kd, .int .i64 k, .string s] 28)).heap.size 2 A n (rws l)) := Lib.hid ((HR3.out.alloc (Nat.le_refl _) _).more (by simp))
      have HT4 := Lib.hid (HC.out.stay HT3.out (Stay.below ((Below.refl w3.heap.size w3).alloc (Nat.le_refl _) (.cells #[.int .i64 kd, .int .i64 k, .string s] 28)) (HC.out.lt HT3.out)))
      go_wp2_with fail
      refine (one_any HC.out _ T l S3 D3 A n c kd k s HT4.out HR4.out HF3.out HKR'.out (by omega) hnc).mono ?_
      rintro e w5 ⟨A5, n5, c5, S5, D5, rfl, hnc5, hr5, hf5, ht5, tu5, fs5, fd5⟩
      have hl5 : n5 ≤ i + 1 := by have h1 := hr5.rlen; have h2 := does_length kd k s l; have h3 := HR3.out.rlen; omega
      have hSne : ∀ b, S3 b → b ≠ w2.heap.size ∧ b ≠ w0.heap.size := fun b hb => (HD3.out b (HC.out.sub HT3.out b hb)).2
      have hkb5 := (HKB.out.alloc (.cells #[.int .i64 kd, .int .i64 k, .string s] 28)).turned tu5 (fun h => (hSne _ h).1 rfl)
      have hkr5 := (HKR.out.alloc (.cells #[.int .i64 kd, .int .i64 k, .string s] 28)).turned tu5 (fun h => (hSne _ h).2 rfl)
      have cb5 : w5.cell? ⟨w2.heap.size, 0, none⟩ = some (.slice A n c) := by rw [hkb5.cell]; rfl
      have cf5 : w5.frozen? ⟨w2.heap.size, 0, none⟩ = false := hkb5.frozen 0
      have HFin : Hid (AtBox Tb T w2.heap.size w0.heap.size (i + 1) w0 (w5.setCell ⟨w2.heap.size, 0, none⟩ (.slice A5 n5 c5))) := Lib.hid (by
        have hD5 := from_box fd5 HD3.out (by simp; omega) (by simp; omega) (by simp; omega)
        have hb5 := tu5.below HB4.out HB4.out.size (fun b hb => (HD3.out b (HC.out.sub HT3.out b hb)).1)
        refine ⟨_, A5, n5, c5, S5, D5, blk_put hkb5 _, hkr5.far (p := ⟨w2.heap.size, 0, none⟩) (by simp; omega) _, hnc5, ?_, hf5, HC.out.stay ht5 ⟨by simp [World.setCell], fun b hb => Below.heap_setCell _ ⟨w2.heap.size, 0, none⟩ _ b (by simp; exact (hD5 b hb).2.1)⟩, hl5, hb5.setCell (p := ⟨w2.heap.size, 0, none⟩) (by simp; omega) _, hD5⟩
        have := hr5.setFar (g := w2.heap.size) (u := .slice A5 n5 c5) (reads_ne_box hkb5 hr5)
        exact this.more (by simp [World.setCell]))
      clear hr5 hf5 ht5 tu5 fs5 fd5 hkb5 hkr5 hSne
      go_wp2
      go_roundw
      case rel => exact ⟨i + 1, by go_num, by omega, HFin.out⟩
      case measure => simp [intOf]; omega
    · have HN := Lib.hid HR3.out.rlen
      by_cases h64 : 64 < n
      · have cr : w3.cell? ⟨w0.heap.size, 0, none⟩ = some (.bool false) := by rw [HKR.out.cell]; rfl
        have frr : w3.frozen? ⟨w0.heap.size, 0, none⟩ = false := HKR.out.frozen 0
        go_wp2
        have kr2 := blk_put HKR.out (.bool true)
        rw [Exit.noGoto_ret]
        go_big_unhide
        refine Marks.leave (B := w0.heap.size + 1) [] _ trivial (fun W' hb => ?_)
        have c5 : W'.cell? ⟨w0.heap.size, 0, none⟩ = some (.bool true) := by
          rw [hb.cell (p := ⟨w0.heap.size, 0, none⟩) (by simp), kr2.cell]; rfl
        refine ⟨.bool true, ?_, rfl, HBW.out.trans (((HB3.out.setCell (p := ⟨w0.heap.size, 0, none⟩) (by simp) _).trans (hb.mono (by omega))).mono (HBW.out.size))⟩
        simp [results, Try.f5, go_sem, c5]
      · have hl42 : l.length ≤ 4398046511104 := by have := HN.out; omega
        have HRi := Lib.hid (HC.out.rises HT3.out)
        go_wp2_with fail
        refine (HP.out.qall _ T l S3 D3 HT3.out hl42).mono ?_
        rintro e W1 ⟨v7, R, rfl, hq7, hb7, gr7, rs7⟩
        obtain ⟨gf, lb, rfl, en7, hR7, hq7'⟩ := hq7
        have SQ : Hid (SeqC (.func (.func gf) #[] lb) l R W1) := Lib.hid ⟨gf, lb, rfl, en7, hR7, hq7'⟩
        have EN := Lib.hid en7
        have HKB1 := Lib.hid (HKB.out.below hb7 hgl)
        have HKR1' := Lib.hid (HKR.out.below hb7 HKR.out.lt)
        have HST1 := Lib.hid ((HST.out.below HB3.out HST.out.lt).below hb7 (HST.out.below HB3.out HST.out.lt).lt)
        have HR1 := Lib.hid (HR3.out.below hb7)
        have HB1' := Lib.hid (HB3.out.trans (hb7.mono HB3.out.size))
        have hs31 := hb7.size
        clear hq7' en7 hR7 hb7 gr7 rs7
        have hfn := fun (W : World) (gf : Nat) (cs : Array Value) => run_eql_func_nil (P := Try.prog) W 37 (.func gf) #[] cs Try.underlying37
        go_wp2
        have hbx : Below W1.heap.size W1 ((W1.alloc (.cells #[.func (.func gf) #[] lb] 37)).alloc (.cells #[.int .i64 0] 3)) := ((Below.refl _ _).alloc (Nat.le_refl _) _).alloc (by simp) _
        have ka := (Blk.new W1 37 #[.func (.func gf) #[] lb]).alloc (.cells #[.int .i64 0] 3)
        have ki := Blk.new (W1.alloc (.cells #[.func (.func gf) #[] lb] 37)) 3 #[.int .i64 0]
        rw [World.size_alloc] at ki
        obtain ⟨ab, hab⟩ : ∃ x, x = W1.heap.size := ⟨_, rfl⟩
        obtain ⟨W2, hW2⟩ : ∃ x, x = (W1.alloc (.cells #[.func (.func gf) #[] lb] 37)).alloc (.cells #[.int .i64 0] 3) := ⟨_, rfl⟩
        have hW2s : W2.heap.size = ab + 2 := by rw [hW2, hab]; simp
        rw [← hW2, ← hab] at ka ki hbx ⊢
        have hgl1 : w2.heap.size < ab := by rw [hab]; exact HKB1.out.lt
        have hrl1 : w0.heap.size < ab := by rw [hab]; exact HKR1'.out.lt
        have hsl1 : sb < ab := by omega
        have hs3a : w3.heap.size ≤ ab := by rw [hab]; exact hs31
        have HKB2 := Lib.hid (HKB1.out.below (hab ▸ hbx) HKB1.out.lt)
        have HKR2' := Lib.hid (HKR1'.out.below (hab ▸ hbx) HKR1'.out.lt)
        have HST2 := Lib.hid (HST1.out.below (hab ▸ hbx) HST1.out.lt)
        have HR2 := Lib.hid (HR1.out.below ((hab ▸ hbx : Below W1.heap.size W1 W2).mono hs31))
        have HBW2 := Lib.hid (HB1'.out.trans ((hab ▸ hbx : Below W1.heap.size W1 W2).mono HB1'.out.size))
        have SQ2 := Lib.hid (SQ.out.stay (Stay.below (hab ▸ hbx) SQ.out.lt))
        have HRx : Hid (∀ b, R b → b < ab) := Lib.hid fun b hb => by rw [hab]; exact SQ.out.lt b hb
        have HKA := Lib.hid ka
        have HKI := Lib.hid ki
        clear hbx ka ki hW2 hab hfn
        have ca : W2.cell? ⟨ab, 0, none⟩ = some (.func (.func gf) #[] lb) := by rw [HKA.out.cell]; rfl
        have hlk : (l.map (·.1)).length = n := by rw [List.length_map, HN.out]
        have HLK := Lib.hid hlk
        clear cb hlk
        refine wp_label ?_
        go_wp2
        refine (wpIn_wide (n := 9)).1 ?_
        refine' range_outer (α := Rw) rfl (by omega) (gf := gf) (lb := lb) rfl trivial EN.out
          SQ2.out.seq (fun h k => h.trans k) (stay_b SQ2.out.lt) (Below.refl _ _) (fun _ => rfl)
          (fun pre W => (pre.map (·.1) <+: l.map (·.1) ∧ (pre.length = 0 ∨ (pre.length : Int) < st) ∧ Blk W (ab + 1) 3 #[.int .i64 (pre.length : Nat)]) ∧ Only W2 W (ab + 1))
          (fun c pre W => c = .ret ∧ ¬ pre.map (·.1) <+: l.map (·.1) ∨ (c = .exit 2 ∧ pre.map (·.1) <+: l.map (·.1) ∧ 0 < pre.length ∧ (st < 1 → pre.length = 1) ∧ (1 ≤ st → (pre.length : Int) = st) ∧ Blk W (ab + 1) 3 #[.int .i64 (pre.length : Nat)]) ∧ Only W2 W (ab + 1))
          (OwnFrom.and (Own.from (fun s A B row hs hg hr => ⟨hs.1, hs.2.1, blk_kept hs.2.2 hg hr⟩) _) (own_only W2 (ab + 1)))
          (fun c => fun s A B row hs hg hr => hs.elim .inl (fun hs => .inr ⟨⟨hs.1.1, hs.1.2.1, hs.1.2.2.1, hs.1.2.2.2.1, hs.1.2.2.2.2.1, blk_kept hs.1.2.2.2.2.2 hg (fun r e => (hr r e).2)⟩, own_only (β := Unit) W2 (ab + 1) () A B row hs.2 hg hr⟩))
          ⟨⟨⟨l.map (·.1), rfl⟩, .inl rfl, HKI.out⟩, Only.refl _ _⟩
          (fun W => Stay.refl _ _) _ ?assign ?body ?done ?stop
        case assign =>
          intro l x W K hK
          gi_wp2
          exact hK
        case body =>
          rintro lp pre ⟨y1, y2⟩ V hlp ⟨rec, hrec⟩ ⟨⟨hpre, hst2, hki⟩, hOnly⟩ hlt
          have bl : ∀ k, k < ab + 1 → V.heap[k]? = W2.heap[k]? := fun k hk => hOnly.block k (by omega) (fun e => by injection e with e; omega)
          have ka : Blk V ab 37 #[.func (.func gf) #[] lb] := (bl _ (by omega)).trans HKA.out
          have kb : Blk V w2.heap.size 26 #[.slice A n c] := (bl _ (by omega)).trans HKB2.out
          have kr : Blk V w0.heap.size 4 #[.bool false] := (bl _ (by omega)).trans HKR2'.out
          have ks : Blk V sb 3 #[.int .i64 st] := (bl _ (by omega)).trans HST2.out
          have hrd : Reads V w3.heap.size 2 A n (rws l) := HR2.out.keep (fun p hp => World.cell?_of_block (bl _ (by omega)))
          have hsq : SeqC (.func (.func gf) #[] lb) l R V := SQ2.out.stay (Stay.only hOnly (fun b hb => by have h1 := HRx.out b hb; exact ⟨by omega, by omega⟩))
          obtain ⟨q, hq⟩ : ∃ q, q = pre.length := ⟨_, rfl⟩
          have HQ := Lib.hid hq
          rw [← hq] at hki hst2 hlt
          have hqn : q < n := by rw [HN.out] at hlt; exact hlt
          obtain ⟨b, off, rfl, hbb, hcell⟩ := hrd.rows (by omega)
          obtain ⟨r2, hr2'⟩ : ∃ r2, l[q]? = some r2 := ⟨_, List.getElem?_eq_getElem hlt⟩
          obtain ⟨c1, c2⟩ := hcell q r2 hr2'
          obtain ⟨rk, rv⟩ := r2
          simp only at c1 c2
          have HVk : Hid ((l.map (·.1))[(pre.map (·.1)).length]? = some rk) := Lib.hid (by rw [List.length_map, ← HQ.out, List.getElem?_map, hr2']; rfl)
          have ci : V.cell? ⟨ab + 1, 0, none⟩ = some (.int .i64 (q : Int)) := by rw [hki.cell]; rfl
          have fi : V.frozen? ⟨ab + 1, 0, none⟩ = false := hki.frozen 0
          have cb : V.cell? ⟨w2.heap.size, 0, none⟩ = some (.slice (some ⟨b, off, none⟩) n c) := by rw [kb.cell]; rfl
          have cr : V.cell? ⟨w0.heap.size, 0, none⟩ = some (.bool false) := by rw [kr.cell]; rfl
          have frr : V.frozen? ⟨w0.heap.size, 0, none⟩ = false := kr.frozen 0
          have hVs : ab + 2 ≤ V.heap.size := by have := hOnly.size; omega
          have cav : V.cell? ⟨ab, 0, none⟩ = some (.func (.func gf) #[] lb) := by rw [ka.cell]; rfl
          have HPr := Lib.hid hpre
          have HKI3 := Lib.hid hki
          have HKB3 := Lib.hid kb
          have HKR3 := Lib.hid kr
          have HKS3 := Lib.hid ks
          have HKA3 := Lib.hid ka
          have HO3 := Lib.hid hOnly
          have HR3v := Lib.hid hrd
          have HS3 := Lib.hid hsq
          have HS2 := Lib.hid hst2
          have hst2' := hst2
          clear hpre hki kb kr ks ka hOnly hrd hsq hst2 hq bl hcell ca hst2'
          by_cases h1 : rk = y1
          · subst h1
            have t1 : (rk != rk) = false := by simp
            have HI : Hid ((pre ++ [(rk, y2)]).map (·.1) <+: l.map (·.1)) := Lib.hid (by
              rw [List.map_append]
              obtain ⟨s, hs⟩ := HPr.out
              have hk := HVk.out
              rw [← hs, List.getElem?_append_right (Nat.le_refl _), Nat.sub_self] at hk
              cases s with
              | nil => simp at hk
              | cons y s => simp at hk; subst hk; exact ⟨s, by rw [← hs]; simp⟩)
            have cav2 : (V.alloc (.cells #[.int .i64 0] 3)).cell? ⟨ab, 0, none⟩ = some (.func (.func gf) #[] lb) := by rw [(HKA3.out.alloc _).cell]; rfl
            have hrec2 : (V.alloc (.cells #[.int .i64 0] 3)).heap[lp]? = some (.loop rec) := (Below.heap_alloc _ _ _ (Array.getElem?_eq_some_iff.1 hrec).1).trans hrec
            have knb := Blk.new V 3 #[.int .i64 0]
            have hBV : Below V.heap.size V (V.alloc (.cells #[.int .i64 0] 3)) := (Below.refl _ _).alloc (Nat.le_refl _) _
            have hV2s : (V.alloc (.cells #[.int .i64 0] 3)).heap.size = V.heap.size + 1 := by simp
            have SQV := Lib.hid (HS3.out.stay (Stay.below hBV (fun b hb => by have := HRx.out b hb; omega)))
            gi_wp2
            obtain ⟨V2, hV2⟩ : ∃ x, x = V.alloc (.cells #[.int .i64 0] 3) := ⟨_, rfl⟩
            obtain ⟨nb, hnb⟩ : ∃ x, x = V.heap.size := ⟨_, rfl⟩
            rw [← hV2] at hrec2 knb hBV hV2s SQV ⊢
            rw [← hnb] at knb hV2s hVs hBV ⊢
            have hRV2 : Reads V2 w3.heap.size 2 (some ⟨b, off, none⟩) n (rws l) := HR3v.out.below (hBV.mono (by omega))
            have HKB4 := Lib.hid (HKB3.out.below (hnb ▸ hBV) HKB3.out.lt)
            have HKR4 := Lib.hid (HKR3.out.below (hnb ▸ hBV) HKR3.out.lt)
            have HNB := Lib.hid knb
            have HRV2 := Lib.hid hRV2
            clear ci fi cb cr frr cav cav2 knb hRV2 c1 c2 t1 hV2
            refine' range_inner (α := Rw) (l₀ := lp) (r₀ := rec) rfl hrec2 (by omega) (gf := gf) (lb := lb) rfl trivial EN.out
              ((SQV.out.at_ 6 (by omega)).inRound lp) (fun h k => h.trans k) (stay_b SQV.out.lt) (Below.refl _ _) (fun _ => rfl)
              (fun pre W => (pre.map (·.1) <+: l.map (·.1) ∧ pre.length ≤ q ∧ Blk W nb 3 #[.int .i64 (pre.length : Nat)]) ∧ Only V2 W nb)
              (fun c pre W => c = .ret ∧ ¬ pre.map (·.1) <+: l.map (·.1) ∨ c = .exit 4 ∧ Only V2 W nb)
              (OwnFrom.and (Own.from (fun s A B row hs hg hr => ⟨hs.1, hs.2.1, blk_kept hs.2.2 hg hr⟩) _) (own_only V2 nb))
              (fun c => fun s A B row hs hg hr => hs.elim .inl (fun hs => .inr ⟨hs.1, own_only (β := Unit) V2 nb () A B row hs.2 hg hr⟩))
              ⟨⟨⟨l.map (·.1), rfl⟩, Nat.zero_le _, HNB.out⟩, Only.refl _ _⟩
              (fun W => Stay.refl _ _) _ ?assign3 ?body3 ?done3 ?stop3
            case assign3 =>
              intro l x W K hK
              gi_wp2
              exact hK
            case body3 =>
              rintro lq pre2 ⟨z1, z2⟩ U ⟨⟨hpre2, hle2, hkn⟩, hO⟩ hlt2
              have bu : ∀ k, k < nb → U.heap[k]? = V2.heap[k]? := fun k hk => hO.block k (by omega) (fun e => by injection e with e; omega)
              have kb : Blk U w2.heap.size 26 #[.slice (some ⟨b, off, none⟩) n c] := (bu _ (by omega)).trans HKB4.out
              have kr : Blk U w0.heap.size 4 #[.bool false] := (bu _ (by omega)).trans HKR4.out
              have ki : Blk U (ab + 1) 3 #[.int .i64 (q : Int)] := (bu _ (by omega)).trans ((hBV.block _ (by omega)).trans HKI3.out)
              have hrd : Reads U w3.heap.size 2 (some ⟨b, off, none⟩) n (rws l) := HRV2.out.keep (fun p hp => World.cell?_of_block (bu _ (by omega)))
              obtain ⟨p, hp⟩ : ∃ p, p = pre2.length := ⟨_, rfl⟩
              have HP2 := Lib.hid hp
              rw [← hp] at hkn hle2 hlt2
              have hpn : p < n := by rw [HN.out] at hlt2; exact hlt2
              obtain ⟨b', off', hbe, hbb', hcell⟩ := hrd.rows (by omega)
              injection hbe with hbe
              injection hbe with hbe1 hbe2
              subst hbe1; subst hbe2
              obtain ⟨r2, hr2'⟩ : ∃ r2, l[p]? = some r2 := ⟨_, List.getElem?_eq_getElem hlt2⟩
              obtain ⟨c1, c2⟩ := hcell p r2 hr2'
              obtain ⟨rk2, rv2⟩ := r2
              simp only at c1 c2
              have HVk2 : Hid ((l.map (·.1))[(pre2.map (·.1)).length]? = some rk2) := Lib.hid (by rw [List.length_map, ← HP2.out, List.getElem?_map, hr2']; rfl)
              have cn : U.cell? ⟨nb, 0, none⟩ = some (.int .i64 (p : Int)) := by rw [hkn.cell]; rfl
              have fn : U.frozen? ⟨nb, 0, none⟩ = false := hkn.frozen 0
              have ci : U.cell? ⟨ab + 1, 0, none⟩ = some (.int .i64 (q : Int)) := by rw [ki.cell]; rfl
              have cb : U.cell? ⟨w2.heap.size, 0, none⟩ = some (.slice (some ⟨b, off, none⟩) n c) := by rw [kb.cell]; rfl
              have cr : U.cell? ⟨w0.heap.size, 0, none⟩ = some (.bool false) := by rw [kr.cell]; rfl
              have frr : U.frozen? ⟨w0.heap.size, 0, none⟩ = false := kr.frozen 0
              have hne7 : nb ≠ ab + 1 := by omega
              have hne8 : ab + 1 ≠ nb := by omega
              have HPr2 := Lib.hid hpre2
              have hnb' := hnb
              have HKN := Lib.hid hkn
              have HO2 := Lib.hid hO
              have hRnb : Hid (¬ R nb) := Lib.hid (fun h => by have := HRx.out _ h; omega)
              clear hpre2 hkn kb kr ki hO hrd hp bu hcell hr2' hnb'
              subst hnb
              by_cases h2 : rk2 = z1
              · subst h2
                have t2 : (rk2 != rk2) = false := by simp
                have HI2 : Hid ((pre2 ++ [(rk2, z2)]).map (·.1) <+: l.map (·.1)) := Lib.hid (by
                  rw [List.map_append]
                  obtain ⟨s, hs⟩ := HPr2.out
                  have hk := HVk2.out
                  rw [← hs, List.getElem?_append_right (Nat.le_refl _), Nat.sub_self] at hk
                  cases s with
                  | nil => simp at hk
                  | cons y s => simp at hk; subst hk; exact ⟨s, by rw [← hs]; simp⟩)
                by_cases hgt : (q : Int) < (p : Int) + 1
                · have t3 : decide ((q : Int) < (p : Int) + 1) = true := by simpa using hgt
                  gi_wp2
                  exact ⟨(KeepsOthers.setCell _ _ _).from _, .inr ⟨rfl, HO2.out.set _ _⟩⟩
                · have t3 : decide ((q : Int) < (p : Int) + 1) = false := by simpa using hgt
                  gi_wp2
                  exact ⟨(KeepsOthers.setCell _ _ _).from _, stay_set hRnb.out, ⟨HI2.out, by rw [List.length_append, ← HP2.out]; simp; omega, by rw [List.length_append, ← HP2.out]; exact blk_put HKN.out _⟩, HO2.out.set _ _⟩
              · have t2 : (rk2 != z1) = true := by simp [h2]
                have HI2 : Hid (¬ (pre2 ++ [(z1, z2)]).map (·.1) <+: l.map (·.1)) := Lib.hid (by
                  rw [List.map_append]
                  rintro ⟨s, hs⟩
                  have hk := HVk2.out
                  rw [← hs, List.append_assoc, List.getElem?_append_right (Nat.le_refl _), Nat.sub_self] at hk
                  simp at hk
                  exact h2 hk.symm)
                clear h2
                gi_wp2
                exact ⟨(KeepsOthers.setCell _ _ _).from _, .inl ⟨rfl, HI2.out⟩⟩
            case stop3 =>
              rintro cc pre2 U hp2 hx
              rcases hx with ⟨rfl, hw⟩ | ⟨rfl, hO⟩
              · exact absurd (hp2.map _) hw
              have bu : ∀ k, k < nb → U.heap[k]? = V.heap[k]? := fun k hk => (hO.block k (by omega) (fun e => by injection e with e; omega)).trans (hBV.block k (by omega))
              have HKIU : Hid (Blk U (ab + 1) 3 #[.int .i64 (q : Int)]) := Lib.hid ((bu _ (by omega)).trans HKI3.out)
              have HKSU : Hid (Blk U sb 3 #[.int .i64 st]) := Lib.hid ((bu _ (by omega)).trans HKS3.out)
              have HOU : Hid (Only W2 U (ab + 1)) := Lib.hid ⟨hO.os.trans (hBV.os.trans HO3.out.os), hO.tape.trans (hBV.tape.trans HO3.out.tape), hO.output.trans (hBV.output.trans HO3.out.output), by have h1 := hO.size; have h2 := HO3.out.size; omega, fun k hk hne => (bu k (by have := HO3.out.size; omega)).trans (HO3.out.block k hk hne)⟩
              have HKF : Hid (KeepsFrom (ab + 2) V U) := Lib.hid ⟨by have := hO.size; omega, fun k o _ hk _ => (bu k (by rw [hnb]; exact (Array.getElem?_eq_some_iff.1 hk).1)).trans hk⟩
              have HStU : Hid (Stay R V U) := Lib.hid ⟨by have := hO.size; omega, fun k hk => bu k (by have := HRx.out k hk; omega)⟩
              have cu1 : U.cell? ⟨ab + 1, 0, none⟩ = some (.int .i64 (q : Int)) := by rw [HKIU.out.cell]; rfl
              have fu1 : U.frozen? ⟨ab + 1, 0, none⟩ = false := HKIU.out.frozen 0
              have cu2 : U.cell? ⟨sb, 0, none⟩ = some (.int .i64 st) := by rw [HKSU.out.cell]; rfl
              have hne5 : ab + 1 ≠ sb := by omega
              have hne6 : sb ≠ ab + 1 := by omega
              clear bu hO
              by_cases hge : st ≤ (q : Int) + 1
              · have t9 : decide (st ≤ (q : Int) + 1) = true := by simpa using hge
                gi_wp2
                exact ⟨by first | exact HKF.out.trans ((KeepsOthers.setCell _ _ _).from _) | (rw [hW2s]; exact HKF.out.trans ((KeepsOthers.setCell _ _ _).from _)), .inr ⟨⟨rfl, HI.out, by simp, fun h => by rw [List.length_append, ← HQ.out]; simp; rcases HS2.out with h' | h' <;> omega, fun h => by rw [List.length_append, ← HQ.out]; simp; rcases HS2.out with h' | h' <;> omega, by rw [List.length_append, ← HQ.out]; exact blk_put HKIU.out _⟩, HOU.out.set _ _⟩⟩
              · have t9 : decide (st ≤ (q : Int) + 1) = false := by simpa using hge
                gi_wp2
                exact ⟨HKF.out.trans ((KeepsOthers.setCell _ _ _).from _), HStU.out.trans (stay_set (fun h => by have := HRx.out _ h; omega)), ⟨HI.out, .inr (by rw [List.length_append, ← HQ.out]; simp; omega), by rw [List.length_append, ← HQ.out]; exact blk_put HKIU.out _⟩, HOU.out.set _ _⟩
            case done3 =>
              rintro xs U _ ⟨_, hO⟩
              have bu : ∀ k, k < nb → U.heap[k]? = V.heap[k]? := fun k hk => (hO.block k (by omega) (fun e => by injection e with e; omega)).trans (hBV.block k (by omega))
              have HKIU : Hid (Blk U (ab + 1) 3 #[.int .i64 (q : Int)]) := Lib.hid ((bu _ (by omega)).trans HKI3.out)
              have HKSU : Hid (Blk U sb 3 #[.int .i64 st]) := Lib.hid ((bu _ (by omega)).trans HKS3.out)
              have HOU : Hid (Only W2 U (ab + 1)) := Lib.hid ⟨hO.os.trans (hBV.os.trans HO3.out.os), hO.tape.trans (hBV.tape.trans HO3.out.tape), hO.output.trans (hBV.output.trans HO3.out.output), by have h1 := hO.size; have h2 := HO3.out.size; omega, fun k hk hne => (bu k (by have := HO3.out.size; omega)).trans (HO3.out.block k hk hne)⟩
              have HKF : Hid (KeepsFrom (ab + 2) V U) := Lib.hid ⟨by have := hO.size; omega, fun k o _ hk _ => (bu k (by rw [hnb]; exact (Array.getElem?_eq_some_iff.1 hk).1)).trans hk⟩
              have HStU : Hid (Stay R V U) := Lib.hid ⟨by have := hO.size; omega, fun k hk => bu k (by have := HRx.out k hk; omega)⟩
              have cu1 : U.cell? ⟨ab + 1, 0, none⟩ = some (.int .i64 (q : Int)) := by rw [HKIU.out.cell]; rfl
              have fu1 : U.frozen? ⟨ab + 1, 0, none⟩ = false := HKIU.out.frozen 0
              have cu2 : U.cell? ⟨sb, 0, none⟩ = some (.int .i64 st) := by rw [HKSU.out.cell]; rfl
              have hne5 : ab + 1 ≠ sb := by omega
              have hne6 : sb ≠ ab + 1 := by omega
              clear bu hO
              by_cases hge : st ≤ (q : Int) + 1
              · have t9 : decide (st ≤ (q : Int) + 1) = true := by simpa using hge
                gi_wp2
                exact ⟨by first | exact HKF.out.trans ((KeepsOthers.setCell _ _ _).from _) | (rw [hW2s]; exact HKF.out.trans ((KeepsOthers.setCell _ _ _).from _)), .inr ⟨⟨rfl, HI.out, by simp, fun h => by rw [List.length_append, ← HQ.out]; simp; rcases HS2.out with h' | h' <;> omega, fun h => by rw [List.length_append, ← HQ.out]; simp; rcases HS2.out with h' | h' <;> omega, by rw [List.length_append, ← HQ.out]; exact blk_put HKIU.out _⟩, HOU.out.set _ _⟩⟩
              · have t9 : decide (st ≤ (q : Int) + 1) = false := by simpa using hge
                gi_wp2
                exact ⟨HKF.out.trans ((KeepsOthers.setCell _ _ _).from _), HStU.out.trans (stay_set (fun h => by have := HRx.out _ h; omega)), ⟨HI.out, .inr (by rw [List.length_append, ← HQ.out]; simp; omega), by rw [List.length_append, ← HQ.out]; exact blk_put HKIU.out _⟩, HOU.out.set _ _⟩
          · have t1 : (rk != y1) = true := by simp [h1]
            have HI : Hid (¬ (pre ++ [(y1, y2)]).map (·.1) <+: l.map (·.1)) := Lib.hid (by
              rw [List.map_append]
              rintro ⟨s, hs⟩
              have hk := HVk.out
              rw [← hs, List.append_assoc, List.getElem?_append_right (Nat.le_refl _), Nat.sub_self] at hk
              simp at hk
              exact h1 hk.symm)
            clear h1
            gi_wp2
            exact ⟨(KeepsOthers.setCell _ _ _).from _, .inl ⟨rfl, HI.out⟩⟩
        case stop =>
          rintro D cc pre V hD hpre hx hK
          rcases hx with ⟨rfl, hw⟩ | ⟨⟨rfl, hp, h0, h1, h2, hb⟩, hO⟩
          · exact absurd (hpre.map _) hw
          · obtain ⟨k, hk⟩ : ∃ k, k = pre.length := ⟨_, rfl⟩
            rw [← hk] at h0 h1 h2 hb
            have hkn : k ≤ n := by have := hp.length_le; rw [HLK.out, List.length_map] at this; omega
            have hkA : st < 1 → k ≤ 1 := fun h => by have := h1 h; omega
            have hkB : 1 ≤ st → (if (n : Int) < st then (n : Int) else st) = (k : Int) := fun h => by have := h2 h; split <;> omega
            clear h0 h1 h2 hp
            gi_wp2
            have bl : ∀ j, j < ab + 1 → V.heap[j]? = W2.heap[j]? := fun j hj => hO.block j (by omega) (fun e => by injection e with e; omega)
            have ks : Blk V sb 3 #[.int .i64 st] := (bl _ (by omega)).trans HST2.out
            have kb : Blk V w2.heap.size 26 #[.slice A n c] := (bl _ (by omega)).trans HKB2.out
            have kr : Blk V w0.heap.size 4 #[.bool false] := (bl _ (by omega)).trans HKR2'.out
            have cs : V.cell? ⟨sb, 0, none⟩ = some (.int .i64 st) := by rw [ks.cell]; rfl
            have ci : V.cell? ⟨ab + 1, 0, none⟩ = some (.int .i64 (k : Int)) := by rw [hb.cell]; rfl
            have cb : V.cell? ⟨w2.heap.size, 0, none⟩ = some (.slice A n c) := by rw [kb.cell]; rfl
            have cr : V.cell? ⟨w0.heap.size, 0, none⟩ = some (.bool false) := by rw [kr.cell]; rfl
            have frr : V.frozen? ⟨w0.heap.size, 0, none⟩ = false := kr.frozen 0
            have KR := Lib.hid kr
            have HBV : Hid (Below w0.heap.size w0 V) := Lib.hid (Only.below HBW2.out hO (by omega) HBW2.out.size)
            have hm0 : Marks (w0.heap.size + 1) [] V := trivial
            have HMk := Lib.hid (hm0.cons (D := D) (fun d hd => by cases hd) (by omega) hK)
            have km : ∀ W : World, (Builtin.min_ #[3, 3] 3 #[.int .i64 st, .int .i64 (n : Int)]).run Try.prog W = .ok (.int .i64 (if (n : Int) < st then (n : Int) else st)) W := fun W => by
              simp only [Builtin.min_, List.foldlM, Builtin.min2, pure_bind]
              rfl
            clear ks kb kr hO hm0 hK bl ca
            by_cases hs1' : st < 1
            · have t1 : decide (st < 1) = true := by simpa using hs1'
              have t2 : decide ((k : Int) ≤ 1) = true := by have := hkA hs1'; simp; omega
              have hmin : (if (n : Int) < st then (n : Int) else st) = st := if_neg (by omega)
              rw [hmin] at km
              have hk01 : k = 0 ∨ k = 1 := by have := hkA hs1'; omega
              clear hkA hkB hmin t2 hk hkn
              clear hs1'
              rcases hk01 with rfl | rfl
              all_goals
                go_wp2
                have kr2 := blk_put KR.out (.bool true)
                have ho : Only V (V.setCell ⟨w0.heap.size, 0, none⟩ (.bool true)) w0.heap.size := (Only.refl _ _).set _ _
                (try rw [Exit.noGoto_ret])
                (try go_big_unhide)
                refine Marks.leave (B := w0.heap.size + 1) _ _ (HMk.out.only ho KR.out) (fun W' hb' => ?_)
                have c5 : W'.cell? ⟨w0.heap.size, 0, none⟩ = some (.bool true) := by
                  rw [hb'.cell (p := ⟨w0.heap.size, 0, none⟩) (by simp), kr2.cell]; rfl
                refine ⟨.bool true, ?_, rfl, HBW.out.trans (((HBV.out.setCell (p := ⟨w0.heap.size, 0, none⟩) (by simp) _).trans (hb'.mono (by omega))).mono HBW.out.size)⟩
                simp [results, Try.f5, go_sem, c5]
            · have t1 : decide (st < 1) = false := by simpa using hs1'
              have hmin := hkB (by omega)
              rw [hmin] at km
              have t4 : ((k : Int) == (k : Int)) = true := by simp
              clear hkA hkB hs1' hmin
              go_wp2
              have kr2 := blk_put KR.out (.bool true)
              have ho : Only V (V.setCell ⟨w0.heap.size, 0, none⟩ (.bool true)) w0.heap.size := (Only.refl _ _).set _ _
              (try rw [Exit.noGoto_ret])
              (try go_big_unhide)
              refine Marks.leave (B := w0.heap.size + 1) _ _ (HMk.out.only ho KR.out) (fun W' hb' => ?_)
              have c5 : W'.cell? ⟨w0.heap.size, 0, none⟩ = some (.bool true) := by
                rw [hb'.cell (p := ⟨w0.heap.size, 0, none⟩) (by simp), kr2.cell]; rfl
              refine ⟨.bool true, ?_, rfl, HBW.out.trans (((HBV.out.setCell (p := ⟨w0.heap.size, 0, none⟩) (by simp) _).trans (hb'.mono (by omega))).mono HBW.out.size)⟩
              simp [results, Try.f5, go_sem, c5]
        case done =>
          rintro D ys V hD rfl ⟨⟨hp, hst3, hb⟩, hO⟩ hK
          obtain ⟨k, hk⟩ : ∃ k, k = ys.length := ⟨_, rfl⟩
          rw [← hk] at hst3 hb
          have hkn : k = n := by rw [hk, HN.out]
          have hkA : st < 1 → k ≤ 1 := fun h => by rcases hst3 with h' | h' <;> omega
          have hkB : 1 ≤ st → (if (n : Int) < st then (n : Int) else st) = (k : Int) := fun h => by rcases hst3 with h' | h' <;> split <;> omega
          clear hst3 hp
          have bl : ∀ j, j < ab + 1 → V.heap[j]? = W2.heap[j]? := fun j hj => hO.block j (by omega) (fun e => by injection e with e; omega)
          have ks : Blk V sb 3 #[.int .i64 st] := (bl _ (by omega)).trans HST2.out
          have kb : Blk V w2.heap.size 26 #[.slice A n c] := (bl _ (by omega)).trans HKB2.out
          have kr : Blk V w0.heap.size 4 #[.bool false] := (bl _ (by omega)).trans HKR2'.out
          have cs : V.cell? ⟨sb, 0, none⟩ = some (.int .i64 st) := by rw [ks.cell]; rfl
          have ci : V.cell? ⟨ab + 1, 0, none⟩ = some (.int .i64 (k : Int)) := by rw [hb.cell]; rfl
          have cb : V.cell? ⟨w2.heap.size, 0, none⟩ = some (.slice A n c) := by rw [kb.cell]; rfl
          have cr : V.cell? ⟨w0.heap.size, 0, none⟩ = some (.bool false) := by rw [kr.cell]; rfl
          have frr : V.frozen? ⟨w0.heap.size, 0, none⟩ = false := kr.frozen 0
          have KR := Lib.hid kr
          have HBV : Hid (Below w0.heap.size w0 V) := Lib.hid (Only.below HBW2.out hO (by omega) HBW2.out.size)
          have hm0 : Marks (w0.heap.size + 1) [] V := trivial
          have HMk := Lib.hid (hm0.cons (D := D) (fun d hd => by cases hd) (by omega) hK)
          have km : ∀ W : World, (Builtin.min_ #[3, 3] 3 #[.int .i64 st, .int .i64 (n : Int)]).run Try.prog W = .ok (.int .i64 (if (n : Int) < st then (n : Int) else st)) W := fun W => by
            simp only [Builtin.min_, List.foldlM, Builtin.min2, pure_bind]
            rfl
          clear ks kb kr hO hm0 hK bl ca
          by_cases hs1' : st < 1
          · have t1 : decide (st < 1) = true := by simpa using hs1'
            have t2 : decide ((k : Int) ≤ 1) = true := by have := hkA hs1'; simp; omega
            have hmin : (if (n : Int) < st then (n : Int) else st) = st := if_neg (by omega)
            rw [hmin] at km
            have hk01 : k = 0 ∨ k = 1 := by have := hkA hs1'; omega
            clear hkA hkB hmin t2 hk hkn
            clear hs1'
            rcases hk01 with rfl | rfl
            all_goals
              go_wp2
              have kr2 := blk_put KR.out (.bool true)
              have ho : Only V (V.setCell ⟨w0.heap.size, 0, none⟩ (.bool true)) w0.heap.size := (Only.refl _ _).set _ _
              (try rw [Exit.noGoto_ret])
              (try go_big_unhide)
              refine Marks.leave (B := w0.heap.size + 1) _ _ (HMk.out.only ho KR.out) (fun W' hb' => ?_)
              have c5 : W'.cell? ⟨w0.heap.size, 0, none⟩ = some (.bool true) := by
                rw [hb'.cell (p := ⟨w0.heap.size, 0, none⟩) (by simp), kr2.cell]; rfl
              refine ⟨.bool true, ?_, rfl, HBW.out.trans (((HBV.out.setCell (p := ⟨w0.heap.size, 0, none⟩) (by simp) _).trans (hb'.mono (by omega))).mono HBW.out.size)⟩
              simp [results, Try.f5, go_sem, c5]
          · have t1 : decide (st < 1) = false := by simpa using hs1'
            have hmin := hkB (by omega)
            rw [hmin] at km
            have t4 : ((k : Int) == (k : Int)) = true := by simp
            clear hkA hkB hs1' hmin
            go_wp2
            have kr2 := blk_put KR.out (.bool true)
            have ho : Only V (V.setCell ⟨w0.heap.size, 0, none⟩ (.bool true)) w0.heap.size := (Only.refl _ _).set _ _
            (try rw [Exit.noGoto_ret])
            (try go_big_unhide)
            refine Marks.leave (B := w0.heap.size + 1) _ _ (HMk.out.only ho KR.out) (fun W' hb' => ?_)
            have c5 : W'.cell? ⟨w0.heap.size, 0, none⟩ = some (.bool true) := by
              rw [hb'.cell (p := ⟨w0.heap.size, 0, none⟩) (by simp), kr2.cell]; rfl
            refine ⟨.bool true, ?_, rfl, HBW.out.trans (((HBV.out.setCell (p := ⟨w0.heap.size, 0, none⟩) (by simp) _).trans (hb'.mono (by omega))).mono HBW.out.size)⟩
            simp [results, Try.f5, go_sem, c5]
end Go.Proofs.Ytgkmlggcmmdafaa.Pk
