/- The walk of the law NetKeeps. -/
import Derived.Test.YtcjfammfplcigaaNtTwo
import Derived.Test.YtcjfammfplcigaaNtAll
import Derived.Test.YtcjfammfplcigaaRegRound
import Derived.Deep.QuietTactic
namespace Go.Proofs.Ytcjfammfplcigaa.Pk
open Go.RowKit Go.Shelf Go.Proofs.Ytcjfammfplcigaa.Ar Go.Proofs.Ytcjfammfplcigaa.Nt
set_option linter.unusedVariables false
attribute [local go_sem] Oper.semAt_some encN
set_option maxRecDepth 100000 in
set_option maxHeartbeats 16000000 in
theorem law_NetKeeps {Nb : Nat → World → Nat → Li → (Nat → Prop) → (Nat → Prop) → Prop} (C : NetC Nb) (a : Option Addr) (n c : Nat) (ps : List Piece) (i : Int) (w : World) (h : ArgL w a n c ps) (hn : n ≤ 140737488351232) (hps : ∀ p ∈ ps, p.n ≤ 140737488351232) (hi : -9223372036854775808 ≤ i ∧ i ≤ 9223372036854775807) :
    Calls Try.prog 4 #[.slice a n c, .int .i64 i] w fun e w' => e = .returned (.bool true) ∧ Below w.heap.size w w' := by
  obtain ⟨hr, hnc, hok⟩ := h
  have HC := Lib.hid C
  have HR := Lib.hid hr
  have HK := Lib.hid hok
  have HPn := Lib.hid hps
  have HL : Hid (ps.length = n) := Lib.hid hr.len
  obtain ⟨hi1, hi2⟩ := hi
  clear C hr hok hps
  refine (callsIn_wide (n := 9)).1 ?_
  refine callsIn_of_wp_marks Try.func4 rfl trivial ?_ rfl
  simp only [Try.ntmps4, List.size_toArray, List.length_cons, List.length_nil, Nat.reduceAdd, Nat.reduceSub, Array.replicate_succ, Array.replicate_zero, List.push_toArray, List.append_toArray, List.nil_append, List.cons_append]
  refine wpIn_wide.2 ?_
  obtain ⟨u, hu'⟩ : ∃ u, u = w.heap.size := ⟨_, rfl⟩
  obtain ⟨W0, hW0⟩ : ∃ W0, W0 = (w.alloc (.cells #[.slice a n c] 28)).alloc (.cells #[.bool false] 4) := ⟨_, rfl⟩
  have HB0 : Hid (Below u w W0) := Lib.hid (by
    rw [hW0, hu']
    exact ((Below.refl _ w).alloc (Nat.le_refl _) _).alloc (by simp) _)
  have HKs0 : Hid (Blk W0 u 28 #[.slice a n c]) := Lib.hid (by rw [hW0, hu']; exact (Blk.new w _ _).alloc _)
  have HK0 : Hid (Blk W0 (u + 1) 4 #[.bool false]) := Lib.hid (by
    have := Blk.new (w.alloc (.cells #[.slice a n c] 28)) 4 #[.bool false]
    rw [World.size_alloc, ← hu'] at this
    rw [hW0]; exact this)
  have HU := Lib.hid hu'
  go_wp2_with fail
  rw [← hW0, ← hu']
  clear hW0 hu'
  refine (wakes_any HC.out _).mono ?_
  rintro e w1 ⟨rfl, hb1⟩
  have HK1 : Hid (Blk w1 (u + 1) 4 #[.bool false]) := Lib.hid (HK0.out.below hb1 HK0.out.lt)
  have HKs1 : Hid (Blk w1 u 28 #[.slice a n c]) := Lib.hid (HKs0.out.below hb1 HKs0.out.lt)
  have HB1 : Hid (Below u w w1) := Lib.hid (HB0.out.trans (hb1.mono (by have := HK0.out.lt; omega)))
  clear hb1 HK0 HB0 HKs0
  have hu1 : u + 1 < w1.heap.size := HK1.out.lt
  have c1 : w1.cell? ⟨u + 1, 0, none⟩ = some (.bool false) := by rw [HK1.out.cell]; rfl
  have f1 : w1.frozen? ⟨u + 1, 0, none⟩ = false := HK1.out.frozen 0
  have cp : w1.cell? ⟨u, 0, none⟩ = some (.slice a n c) := by rw [HKs1.out.cell]; rfl
  rcases Nat.lt_or_ge 500 n with hbig | hbig
  · have hb : ¬ ((n : Int) ≤ 500) := by omega
    go_wp2
    have k9 : OnlyS (fun b => b = u + 1) w1 (w1.setCell ⟨u + 1, 0, none⟩ (.bool true)) := OnlyS.set (S := fun b => b = u + 1) (OnlyS.refl (fun b => b = u + 1) w1) (x := u + 1) rfl (.bool true)
    have hk9 := blk_put HK1.out (.bool true)
    have hB10 := OnlyS.bel HB1.out k9 (fun b hb => by omega) (Nat.le_of_lt (show u < w1.heap.size by have : u + 1 < w1.heap.size := HK1.out.lt; omega))
    refine Marks.leave (B := (u + 2)) [] _ trivial (fun W' hb => ?_)
    have c5 : W'.cell? ⟨u + 1, 0, none⟩ = some (.bool true) := by rw [hb.cell (p := ⟨u + 1, 0, none⟩) (show u + 1 < (u + 2) by omega), hk9.cell]; rfl
    refine ⟨.bool true, by simp [results, Try.f4, go_sem, c5], rfl, ?_⟩
    rw [← HU.out]
    exact hB10.trans (hb.mono (by omega))
  go_wp2_with fail
  refine (AtNt.new HC.out _).mono ?_
  rintro e w2 ⟨T, rfl, h2⟩
  have H2 := Lib.hid h2
  clear h2
  go_wp2_with fail
  refine (AtNt.new HC.out _).mono ?_
  rintro e w3 ⟨T', rfl, h3⟩
  have HT3 : Hid (Tw (Nb 0) w1 T T' [] (fun _ => False) (fun _ => False) w3) := Lib.hid (Tw.start H2.out HC.out h3)
  clear h3 H2
  have HBw : Hid (∀ {kd l K V} W, Tw (Nb kd) w1 T T' l K V W → Below w.heap.size w W ∧ Below w1.heap.size w1 W) := Lib.hid (fun W h => by
    have := HB1.out
    rw [HU.out] at this
    exact ⟨this.trans (h.bel.mono this.size), h.bel⟩)
  have cp3 : w3.cell? ⟨u, 0, none⟩ = some (.slice a n c) := ((HBw.out w3 HT3.out).2.cell (p := ⟨u, 0, none⟩) (show u < w1.heap.size by omega)).trans cp
  have HSh : Hid (∀ k, Short LM (Piece.bytes (ps.take k))) := Lib.hid (fun k => short_take HR.out HPn.out k)
  have HFw : Hid (∀ k, (Piece.bytes (ps.take k)).length < 512) := Lib.hid (fun k => by have := HL.out; simp [Piece.bytes]; omega)
  go_wp2
  go_loopw [8, 9, 10, 38] (fun _ _ _ j wr => ∃ (k : Nat), j = .int .i64 k ∧ k ≤ n ∧ Tw (Nb k) w1 T T' (Piece.bytes (ps.take k)) (fun _ => False) (fun _ => False) wr) (fun _ _ _ j _ => n - (intOf j).toNat)
  case atStart => exact ⟨0, rfl, by omega, HT3.out⟩
  case round =>
    obtain ⟨k, rfl, hk, hat⟩ := hrel
    obtain ⟨w5, rfl⟩ : ∃ w5 : World, w5 = wr := ⟨_, rfl⟩
    have HT5 := Lib.hid hat
    have hs5 : w1.heap.size ≤ w5.heap.size := hat.bel.size
    clear hat HT3
    by_cases hlt : k < n
    · obtain ⟨g, off, p, rfl, hpk, hpm, hgb, hx5⟩ := (HR.out.below (HBw.out w5 HT5.out).1).at_ hlt
      have hs5w : w.heap.size ≤ w5.heap.size := (HBw.out w5 HT5.out).1.size
      have HPr : Hid (Reads w5 w5.heap.size 1 p.a p.n (bts p.l)) := Lib.hid (((HR.out.2 p hpm).1.below (HBw.out w5 HT5.out).1).more hs5w)
      have HPa : Hid (∀ W, Below w.heap.size w W → Reads W W.heap.size 1 p.a p.n (bts p.l)) := Lib.hid (fun W hb => ((HR.out.2 p hpm).1.below hb).more hb.size)
      have HPl : Hid (p.l.length = p.n) := Lib.hid (by have := (HR.out.2 p hpm).1.1; simpa using this)
      have HPx : Hid (∀ y ∈ p.l, 0 ≤ y ∧ y ≤ 255) := Lib.hid (HK.out p hpm).2
      have hpn : p.n ≤ 140737488351232 := HPn.out p hpm
      have HNx := Lib.hid (bytes_next hpk)
      clear hpk hpm
      go_wp2_with (first
        | (at_builtin; refine appE w5 rfl (.tmp 42) (.tmp 43) rfl w5.heap.size rfl w5.heap.size p.a p.c p.l p.n rfl HPr.out (Nat.le_refl _) (by omega) (Nat.le_refl _) ?_; intro v6 w6 hown6 hb6; have s6 := hb6.size)
        | (at_builtin; refine appB _ rfl (.tmp 44) (.tmp 45) rfl w5.heap.size v6 p.l rfl (hown6.alloc _) (w6.heap.size + 1) _ 1 [71] 1 rfl (reads_new w6 _ _ _ 1 (bts [71]) rfl rfl (by omega)) (by have := HPl.out; omega) (by simp; omega) ?_; intro v7 w7 hown7 hb7 _ _; obtain ⟨Am, nm, cm, rfl, hcm, hnm, -⟩ := hown7.val; obtain rfl : nm = p.n + 1 := (by have := HPl.out; rw [← hnm]; simp; omega); have hcm0 : ¬ (cm = 0) := (by omega); have hcm1 : p.n ≤ cm := (by omega); have hcm2 : (p.n : Int) ≤ (cm : Int) := (by omega); have hb57 : Below w5.heap.size w5 w7 := (hb6.alloc s6 _).trans hb7; have HO7 := Lib.hid hown7; have HB57 := Lib.hid hb57; clear hown6 hb6 hown7 hb7 hb57 hnm s6))
      have HT7 := Lib.hid (HT5.out.own HC.out HB57.out (OwnB.r HO7.out))
      have HOI7 : Hid (OwnI w5.heap.size w7.heap.size (.slice Am (p.n + 1) cm) (p.l ++ [71]) w7) := Lib.hid ⟨HO7.out, own_ltP HO7.out⟩
      have hrm : Reads w7 w7.heap.size 1 Am p.n (bts p.l) := by
        have h1 := (HOI7.out.row.2.2.2.take (k := p.n) (by omega)).1
        rw [app_take _ _ _ HPl.out] at h1
        exact h1
      have HSd := Lib.hid (HT7.out.send HC.out (km (by omega)) (HSh.out k) hrm hcm1 (Nat.le_trans hpn (by show _ ≤ 140737488355328; omega)) HPx.out)
      clear hrm
      refine HSd.out.mono ?_
      rintro e w8 ⟨rfl, h8, -, hl8, hs8⟩
      rw [send_few (HFw.out k), ← HNx.out] at h8
      have HT8 := Lib.hid h8
      have HOI8 : Hid (OwnI w5.heap.size w7.heap.size (.slice Am (p.n + 1) cm) (p.l ++ [71]) w8) := Lib.hid ⟨HO7.out.stay (fun g e => hl8 g (.inr e)), HOI7.out.2⟩
      have tk : decide ((Piece.bytes (ps.take k)).length < 512) = true := decide_eq_true (HFw.out k)
      rw [tk]
      clear h8 hl8 HSd tk
      have hrm : Reads w8 w8.heap.size 1 Am p.n (bts p.l) := by
        have h1 := (HOI8.out.row.2.2.2.take (k := p.n) (by omega)).1
        rw [app_take _ _ _ HPl.out] at h1
        exact h1.more hs8
      have HSm := Lib.hid (same_any Am p.a p.n cm p.n p.c p.l p.l w8 _ _ hrm (HPa.out w8 (HBw.out w8 HT8.out).1) (by omega))
      rw [decide_eq_true (show p.l = p.l from rfl)] at HSm
      obtain ⟨gm, rfl, -, -, -, c71, -, -⟩ := HOI8.out.store (i := p.n) (by omega)
      have e71 : (p.l ++ [71]).getD p.n 0 = (71 : Int) := by rw [← HPl.out]; simp [List.getD_eq_getElem?_getD]
      rw [e71] at c71
      clear e71
      clear hrm
      go_wp2_with fail
      refine HSm.out.mono ?_
      rintro e w9 ⟨rfl, z9, hw9⟩
      have HT9 := Lib.hid (show Tw (Nb _) w1 T T' _ _ _ w9 from hw9 ▸ HT8.out.drewN HC.out z9)
      have HOI9 : Hid (OwnI w5.heap.size w7.heap.size (.slice (some ⟨gm, 0, none⟩) (p.n + 1) cm) (p.l ++ [71]) w9) := Lib.hid (by rw [hw9]; exact HOI8.out)
      have c71 : w9.cell? ⟨gm, p.n, none⟩ = some (.int .u8 71) := by rw [hw9]; exact c71
      clear hw9 HSm HOI8 HT8
      go_wp2
      clear c71
      go_loopw [10, 73] (fun _ j wr => ∃ (t : Nat) (l' : List Int), j = .int .i64 t ∧ t ≤ p.n + 1 ∧ OwnI w5.heap.size w7.heap.size (.slice (some ⟨gm, 0, none⟩) (p.n + 1) cm) l' wr ∧ OnlyS (fun b => (Value.slice (some ⟨gm, 0, none⟩) (p.n + 1) cm).ownBlock = some b) w9 wr) (fun _ j _ => p.n + 1 - (intOf j).toNat)
      case atStart => exact ⟨0, _, rfl, by omega, HOI9.out, OnlyS.refl _ _⟩
      case round =>
        obtain ⟨t, l1, rfl, ht, hO, ho2⟩ := hrel
        obtain ⟨wb, rfl⟩ : ∃ wb : World, wb = wr := ⟨_, rfl⟩
        by_cases ht2 : t < p.n + 1
        · obtain ⟨gq, e, _, _, _, hc1, hf1, hst⟩ := hO.store (i := t) ht2
          injection e with e; injection e with e; subst e
          have HOm := Lib.hid (hst 1).1
          have HMm := Lib.hid (OnlyS.setAt_ ho2 (S := fun b => (Value.slice (some ⟨gm, 0, none⟩) (p.n + 1) cm).ownBlock = some b) (x := gm) (o := t) rfl (.int .u8 1))
          clear hst hO ho2
          go_wp2
          go_roundw
          case rel => exact ⟨t + 1, _, by go_num, by omega, HOm.out, HMm.out⟩
          case measure => simp [intOf]; omega
        · have HTb := Lib.hid (HT9.out.turn HC.out ho2 (fun b e => .inr e)).1
          clear hO ho2
          go_wp2
          go_roundw
          case rel => exact ⟨k + 1, by go_num, by omega, HTb.out.less (fun b h => h) (fun b h => h.elim)⟩
          case measure => simp [intOf]; omega
    · obtain rfl : k = n := by omega
      rw [List.take_of_length_le (Nat.le_of_eq HL.out)] at HT5
      have HShA : Hid (Short LM (Piece.bytes ps)) := Lib.hid (by have := HSh.out k; rwa [List.take_of_length_le (Nat.le_of_eq HL.out)] at this)
      have HFb : Hid ((Piece.bytes ps).length = k) := Lib.hid (by rw [← HL.out]; simp [Piece.bytes])
      obtain ⟨l0, hl0⟩ : ∃ l0, l0 = Piece.bytes ps := ⟨_, rfl⟩
      rw [← hl0] at HT5 HShA HFb
      have HP0 := Lib.hid hl0
      clear hl0 HSh HFw
      go_wp2_with fail
      refine (HT5.out.all HC.out HShA.out).mono ?_
      rintro e w6 ⟨v6, R, rfl, hseq, ht6, hb6⟩
      have SE6 := Lib.hid hseq
      have HT6 := Lib.hid ht6
      have HRl : Hid (∀ g, R g → g < w6.heap.size) := Lib.hid hseq.lt
      have hsw6 : w1.heap.size ≤ w6.heap.size := ht6.bel.size
      clear hseq ht6 hb6
      obtain ⟨gf, pb, lb, hv6, en, hq1, hq2⟩ := SE6.out
      clear hq1 hq2
      subst hv6
      have EN := Lib.hid en
      clear en
      have hfn2 := fun (W : World) (gf : Nat) (pb cs : Array Value) => run_eql_func_nil (P := Try.prog) W 41 (.func gf) pb cs Try.underlying41
      go_wp2_with fail
      clear hfn2
      refine (HT6.out.at_ HC.out i HShA.out hi1 hi2).mono ?_
      rintro e w7 ⟨A7, n7, c7, rfl, ho7, ht7, hb7⟩
      have HT7 := Lib.hid ht7
      have SE7 := Lib.hid (SE6.out.stay ⟨hb7.size, fun b hb => hb7.block b (HRl.out b hb)⟩)
      have HO7 : Hid (OwnJ w6.heap.size w7.heap.size (.slice A7 n7 c7) (atN l0 i) w7) := Lib.hid ⟨ho7, owr_ltP ho7⟩
      have hn7 : n7 ≤ 140737488355328 := by have h1 := (owr_len ho7).1; have h2 := atN_len HShA.out i; have h3 : LM = 140737488355328 := rfl; omega
      have cp7 : w7.cell? ⟨u, 0, none⟩ = some (.slice a k c) := ((HBw.out w7 ht7).2.cell (p := ⟨u, 0, none⟩) (show u < w1.heap.size by omega)).trans cp
      clear ho7 ht7 hb7
      rcases Int.lt_or_le i 0 with hneg | hpos
      · have HI : Hid (inN l0 i = false) := Lib.hid (by unfold inN; rw [decide_eq_false_iff_not]; omega)
        have ti : decide (0 ≤ i) = false := by simp; omega
        have hI := HI.out
        rw [hI]
        clear hI
        go_wp2
        go_loopw [14, 103] (fun _ j wr => ∃ (t : Nat) (l' : List Int), j = .int .i64 t ∧ t ≤ n7 ∧ OwnJ w6.heap.size w7.heap.size (.slice A7 n7 c7) l' wr ∧ OnlyS (fun b => (Value.slice A7 n7 c7).ownBlock = some b) w7 wr) (fun _ j _ => n7 - (intOf j).toNat)
        case atStart => exact ⟨0, _, rfl, by omega, HO7.out, OnlyS.refl _ _⟩
        case round =>
          obtain ⟨t, l1, rfl, ht, hO, ho2⟩ := hrel
          obtain ⟨wb7, rfl⟩ : ∃ wb : World, wb = wr := ⟨_, rfl⟩
          by_cases ht2 : t < n7
          · obtain ⟨gq, rfl, _, _, _, hc1, hf1, hst⟩ := hO.store (i := t) ht2
            have HOm := Lib.hid (hst 2).1
            have HMm := Lib.hid (OnlyS.setAt_ ho2 (S := fun b => (Value.slice (some ⟨gq, 0, none⟩) n7 c7).ownBlock = some b) (x := gq) (o := t) rfl (.int .u8 2))
            clear hst hO ho2
            go_wp2
            go_roundw
            case rel => exact ⟨t + 1, _, by go_num, by omega, HOm.out, HMm.out⟩
            case measure => simp [intOf]; omega
          · have HOl := Lib.hid ho2
            clear hO ho2 ht
            have HTb := Lib.hid (HT7.out.turn HC.out HOl.out (fun b e => .inr e)).1
            have HSb := Lib.hid (SE7.out.stay ⟨HOl.out.size, fun b hb => (HT7.out.turn HC.out HOl.out (fun b e => .inr e)).2 b hb⟩)
            clear HOl
            go_wp2_with fail
            refine (HTb.out.take HC.out i HShA.out hi1 hi2).mono ?_
            rintro e w8 ⟨A8, n8, c8, rfl, ho8, ht8, hl8, hv8, hs8⟩
            have HT8 := Lib.hid ht8
            have SE8 := Lib.hid (HSb.out.stay ⟨hs8, hl8⟩)
            have HO8 : Hid (OwnJ wb7.heap.size w8.heap.size (.slice A8 n8 c8) (atN l0 i) w8) := Lib.hid ⟨ho8, owr_ltP ho8⟩
            have HSw8 := (HBw.out w8 ht8).2.size
            have hn8 : n8 ≤ 140737488355328 := by have h1 := (owr_len ho8).1; have h2 := atN_len HShA.out i; have h3 : LM = 140737488355328 := rfl; omega
            have cp8 : w8.cell? ⟨u, 0, none⟩ = some (.slice a k c) := ((HBw.out w8 ht8).2.cell (p := ⟨u, 0, none⟩) (show u < w1.heap.size by omega)).trans cp
            clear ho8 ht8 hl8 hv8
            rw [HI.out]
            obtain ⟨w9, hw9a⟩ : ∃ w9, w9 = w8 := ⟨_, rfl⟩
            rw [← hw9a]
            have hw9 : w9 = w8.drewN 0 := hw9a
            clear hw9a
            have HT9 := Lib.hid (show Tw (Nb _) w1 T T' _ _ _ w9 from hw9 ▸ HT8.out.drewN HC.out _)
            have SE9 : Hid (SeqNt (.func (.func gf) pb lb) l0 R w9) := Lib.hid (by rw [hw9]; exact SE8.out.stay ⟨Nat.le_refl _, fun _ _ => rfl⟩)
            have HO9 : Hid (OwnJ wb7.heap.size w8.heap.size (.slice A8 n8 c8) (atN l0 i) w9) := Lib.hid (by rw [hw9]; exact HO8.out)
            clear hw9 cp8 HT8 SE8 HO8
            go_wp2
            go_loopw [16, 128] (fun _ j wr => ∃ (t : Nat) (l' : List Int), j = .int .i64 t ∧ t ≤ n8 ∧ OwnJ wb7.heap.size w8.heap.size (.slice A8 n8 c8) l' wr ∧ OnlyS (fun b => (Value.slice A8 n8 c8).ownBlock = some b) w9 wr) (fun _ j _ => n8 - (intOf j).toNat)
            case atStart => exact ⟨0, _, rfl, by omega, HO9.out, OnlyS.refl _ _⟩
            case round =>
              obtain ⟨t, l1, rfl, ht, hO, ho2⟩ := hrel
              obtain ⟨wb9, rfl⟩ : ∃ wb : World, wb = wr := ⟨_, rfl⟩
              by_cases ht2 : t < n8
              · obtain ⟨gq, rfl, _, _, _, hc1, hf1, hst⟩ := hO.store (i := t) ht2
                have HOm := Lib.hid (hst 3).1
                have HMm := Lib.hid (OnlyS.setAt_ ho2 (S := fun b => (Value.slice (some ⟨gq, 0, none⟩) n8 c8).ownBlock = some b) (x := gq) (o := t) rfl (.int .u8 3))
                clear hst hO ho2
                go_wp2
                go_roundw
                case rel => exact ⟨t + 1, _, by go_num, by omega, HOm.out, HMm.out⟩
                case measure => simp [intOf]; omega
              · have HOl := Lib.hid ho2
                clear hO ho2 ht
                have HTc := Lib.hid (HT9.out.turn HC.out HOl.out (fun b e => .inr e)).1
                have SEc := Lib.hid (SE9.out.stay ⟨HOl.out.size, fun b hb => (HT9.out.turn HC.out HOl.out (fun b e => .inr e)).2 b hb⟩)
                clear HOl
                have kc := fun (w : World) (C : Array Value) (n c : Nat) => Lib.run_convert_bytes_const (P := Try.prog) w 31 5 C n c Try.underlying31 Try.underlying5
                obtain ⟨wl, hwl⟩ : ∃ wl, wl = wb9.alloc (.cells #[.int .u8 108, .int .u8 97, .int .u8 116, .int .u8 101] 5 (4, 5)) := ⟨_, rfl⟩
                have hbl : Below wb9.heap.size wb9 wl := hwl ▸ (Below.refl _ _).alloc (Nat.le_refl _) _
                have HRd : Hid (Reads wl wl.heap.size 1 (some ⟨wb9.heap.size, 0, none⟩) 4 (bts [108, 97, 116, 101])) := Lib.hid (by
                  rw [hwl]
                  exact reads_marked wb9 _ _ _ _ 4 (bts [108, 97, 116, 101]) rfl rfl (by simp))
                have HTl := Lib.hid (HTc.out.next HC.out hbl)
                have SEl := Lib.hid (SEc.out.stay ⟨hbl.size, fun b hb => hbl.block b (HTc.out.ltK b hb).1⟩)
                clear hbl
                go_wp2_with fail
                rw [← hwl]
                clear hwl
                refine (HTl.out.send HC.out (km (by omega)) (HShA.out.take _) HRd.out (by omega) (by show (4 : Nat) ≤ 140737488355328; omega) (by simp)).mono ?_
                rintro e wm ⟨rfl, htm, hlm, -, hsm⟩
                have HTm := Lib.hid htm
                have SEm := Lib.hid (SEl.out.stay ⟨hsm, hlm⟩)
                clear htm hlm hsm kc HTl SEl HTc SEc
                go_wp2
                obtain ⟨xk, hxk⟩ : ∃ xk, xk = wm.heap.size := ⟨_, rfl⟩
                obtain ⟨W1, hW1⟩ : ∃ W1, W1 = wm.alloc (.cells #[.int .i64 0] 3) := ⟨_, rfl⟩
                have hb1 : Below wm.heap.size wm W1 := hW1 ▸ (Below.refl _ _).alloc (Nat.le_refl _) _
                have HKn1 : Hid (Blk W1 xk 3 #[.int .i64 0]) := Lib.hid (by rw [hW1, hxk]; exact Blk.new wm _ _)
                have HT1 := Lib.hid (HTm.out.newV (V2 := fun b => b = xk) HC.out hb1 (fun b e => by have := HKn1.out.lt; omega))
                have SE1 := Lib.hid (SEm.out.stay ⟨hb1.size, fun b hb => hb1.block b (HTm.out.ltK b hb).1⟩)
                have HRx : Hid (∀ b, R b → b < W1.heap.size ∧ b ≠ xk) := Lib.hid (fun b hb => ⟨(HT1.out.ltK b hb).1, fun e => (HT1.out.ltK b hb).2 (.inr e)⟩)
                have hxw : w1.heap.size ≤ xk ∧ xk < W1.heap.size := ⟨by have := (HBw.out wm HTm.out).2.size; omega, HKn1.out.lt⟩
                obtain ⟨hx1, hx2⟩ := hxw
                have HBW1 := Lib.hid (HBw.out W1 HT1.out).2
                have HKr1 := Lib.hid (HK1.out.below HBW1.out HK1.out.lt)
                have HKp1 := Lib.hid (HKs1.out.below HBW1.out HKs1.out.lt)
                rw [← hW1, ← hxk]
                clear hW1 hxk hb1 HTm SEm
                obtain ⟨S, hS⟩ : ∃ S : Nat → Prop, S = fun b => b = xk := ⟨_, rfl⟩
                have S1 : S xk := by rw [hS]
                have HSe : Hid (∀ b, S b → b = xk) := Lib.hid (fun b h => by rw [hS] at h; exact h)
                clear hS
                refine (wpIn_wide (n := 9)).1 ?_
                refine' range_boundFS (α := NtX) (gf := gf) (pb := pb) (lb := lb) rfl EN.out (SE1.out.atF _) OkN.fr (fun h k => h.trans k) (stay_b SE1.out.lt) (fun _ => rfl) OkN.put
                  (fun pre V => Blk V xk 3 #[.int .i64 (pre.length : Nat)] ∧ OnlyS S W1 V)
                  (fun cc pre V => False)
                  (Std.and (std_blk (x := xk) (by omega)) (std_onlyS W1 S))
                  (fun cc => fun s A B hs ht => hs)
                  ⟨HKn1.out, OnlyS.refl _ _⟩
                  _ ?assign1 ?body1 ?done1 ?stop1
                case assign1 =>
                  intro lp y V K hK
                  gi_wp2
                  exact hK
                case stop1 =>
                  rintro D cc pre V hD hpre hf hK
                  exact hf.elim
                case body1 =>
                  rintro lp pre ⟨yat, yA, yn, yc, yp⟩ V hlp hrec ⟨hbn, hO⟩ ⟨B', hB', _, hok⟩
                  obtain ⟨hqlt, hyat, hyp⟩ := hok.next
                  obtain ⟨m, hm⟩ : ∃ m, m = pre.length := ⟨_, rfl⟩
                  rw [← hm] at hbn hqlt hyat hyp
                  obtain rfl : m = yat := hyat.symm
                  rw [HFb.out] at hqlt
                  have HBV : Hid (Below w1.heap.size w1 V) := Lib.hid (OnlyS.bel HBW1.out hO (fun b hb => by have := HSe.out b hb; omega) HBW1.out.size)
                  have HBVw : Hid (Below w.heap.size w V) := Lib.hid (by
                    have := HB1.out
                    rw [HU.out] at this
                    exact this.trans (HBV.out.mono this.size))
                  obtain ⟨g1, off1, p1, hA1, hpk1, hpm1, hgb1, hx1v⟩ := (HR.out.below HBVw.out).at_ hqlt
                  have HYp : Hid (yp = p1.l) := Lib.hid (by rw [HP0.out, bytes_get hpk1] at hyp; injection hyp with hyp; exact hyp.symm)
                  have HPr := Lib.hid (((HR.out.2 p1 hpm1).1.below HBVw.out).more HBVw.out.size)
                  have hp1n : p1.n ≤ 140737488351232 := HPn.out p1 hpm1
                  have cn : V.cell? ⟨xk, 0, none⟩ = some (.int .i64 (m : Int)) := by rw [hbn.cell]; rfl
                  have fn : V.frozen? ⟨xk, 0, none⟩ = false := hbn.frozen 0
                  have cb : V.cell? ⟨u, 0, none⟩ = some (.slice (some ⟨g1, off1, none⟩) k c) := by rw [← hA1]; exact (HBV.out.cell (p := ⟨u, 0, none⟩) (show u < w1.heap.size by omega)).trans cp
                  have HYr := Lib.hid (owr_reads hok.2.1)
                  have HYl := Lib.hid (owr_len hok.2.1)
                  have HOw : Hid (OwnJ B' V.heap.size (.slice yA yn yc) yp V) := Lib.hid ⟨hok.2.1, owr_ltP hok.2.1⟩
                  have HOff : Hid (∀ b, (Value.slice yA yn yc).ownBlock = some b → B' ≤ b ∧ b < V.heap.size ∧ ¬ R b) := Lib.hid (fun b hb => ⟨owr_base hok.2.1 b hb, owr_ltP hok.2.1 b hb, (hok.2.2 b hb).1⟩)
                  have hyn : yn ≤ 140737488355328 := by
                    have h1 : yp.length = yn := HYl.out.1
                    have h2 : p1.l.length = p1.n := by simpa using HPr.out.1
                    rw [HYp.out] at h1
                    omega
                  have HBn := Lib.hid hbn
                  have HOs := Lib.hid hO
                  have HQq := Lib.hid hm
                  have hVs : W1.heap.size ≤ V.heap.size := hO.size
                  have hqn : (m : Int) < (k : Int) := by omega
                  clear hbn hO hm hok hpk1 hpm1 hyp hA1
                  have HSm := Lib.hid (fun z => same_any yA p1.a yn yc p1.n p1.c yp p1.l (V.drewN z) _ _ (HYr.out.drewN z) (HPr.out.drewN z) (by omega))
                  rw [decide_eq_true HYp.out] at HSm
                  have tq : ((m : Int) != (m : Int)) = false := by simp
                  have tn : decide (k ≤ m) = false := by simp; omega
                  gi_wp2_with (refine ⟨trivial, ?_⟩; gi_at_call 16; refine (CallsIn.inRound lp (callsIn_wide.2 (HSm.out 0))).mono ?_; rintro e V1 ⟨rfl, z, hz⟩)
                  have HOz : Hid (OwnJ B' V.heap.size (.slice yA yn yc) yp (V.drewN z)) := Lib.hid HOw.out
                  have HSz : Hid (OnlyS (fun b => (Value.slice yA yn yc).ownBlock = some b) V (V.drewN z)) := Lib.hid ((OnlyS.refl _ _).drewN z)
                  clear HSm cn fn cb hx1v HOw
                  gi_loopw [20, 162] (fun _ j wr => ∃ (t : Nat) (l' : List Int), j = .int .i64 t ∧ t ≤ yn ∧ OwnJ B' V.heap.size (.slice yA yn yc) l' wr ∧ OnlyS (fun b => (Value.slice yA yn yc).ownBlock = some b) V wr) (fun _ j _ => yn - (intOf j).toNat)
                  case atStart => exact ⟨0, _, rfl, by omega, HOz.out, HSz.out⟩
                  case round =>
                    obtain ⟨t, l1, rfl, ht, hOo, ho2⟩ := hrel
                    obtain ⟨V2, rfl⟩ : ∃ V2 : World, V2 = wr := ⟨_, rfl⟩
                    by_cases ht2 : t < yn
                    · obtain ⟨gq, rfl, _, _, _, hc1, hf1, hst⟩ := hOo.store (i := t) ht2
                      have HOm := Lib.hid (hst 4).1
                      have HMm := Lib.hid (OnlyS.setAt_ ho2 (S := fun b => (Value.slice (some ⟨gq, 0, none⟩) yn yc).ownBlock = some b) (x := gq) (o := t) rfl (.int .u8 4))
                      clear hst hOo ho2
                      gi_wp2
                      go_roundw
                      case rel => exact ⟨t + 1, _, by go_num, by omega, HOm.out, HMm.out⟩
                      case measure => simp [intOf]; omega
                    · have hVx : V2.heap[xk]? = V.heap[xk]? := ho2.block xk (by omega) (fun e => by have := (HOff.out xk e).1; omega)
                      have HKx : Hid (Blk V2 xk 3 #[.int .i64 (m : Nat)]) := Lib.hid (hVx.trans HBn.out)
                      have cn : V2.cell? ⟨xk, 0, none⟩ = some (.int .i64 (m : Int)) := by rw [HKx.out.cell]; rfl
                      have fn : V2.frozen? ⟨xk, 0, none⟩ = false := HKx.out.frozen 0
                      have HFin : Hid (KeepsF W1.heap.size (frNB (W1.heap.size + 2) ⟨m, yA, yn, yc, yp⟩) V (V2.setCell ⟨xk, 0, none⟩ (.int .i64 ((m : Int) + 1))) ∧ Stay R V (V2.setCell ⟨xk, 0, none⟩ (.int .i64 ((m : Int) + 1))) ∧
                          Blk (V2.setCell ⟨xk, 0, none⟩ (.int .i64 ((m : Int) + 1))) xk 3 #[.int .i64 ((pre ++ [(⟨m, yA, yn, yc, yp⟩ : NtX)]).length : Nat)] ∧ OnlyS S W1 (V2.setCell ⟨xk, 0, none⟩ (.int .i64 ((m : Int) + 1)))) := Lib.hid (by
                        refine ⟨KeepsF.trans ⟨ho2.size, fun b h1 h2 h3 => ho2.block b h2 (fun e => h3 e)⟩ ((KeepsAll.setCell V2 hx2 _).but _), Stay.trans ⟨ho2.size, fun b hb => ho2.block b (by have := (HRx.out b hb).1; omega) (fun e => (HOff.out b e).2.2 hb)⟩ (stay_setAt (fun h => (HRx.out _ h).2 rfl)), ?_, ?_⟩
                        · have := blk_put HKx.out (.int .i64 ((m : Int) + 1))
                          rw [List.length_append, ← HQq.out]; exact this
                        · refine OnlyS.set ?_ S1 _
                          exact ⟨ho2.os.trans HOs.out.os, ho2.tape.trans HOs.out.tape, ho2.output.trans HOs.out.output, Nat.le_trans HOs.out.size ho2.size, fun b h1 h2 => (ho2.block b (by omega) (fun e => by have := (HOff.out b e).1; omega)).trans (HOs.out.block b h1 h2)⟩)
                      clear hOo ho2 hVx
                      gi_wp2
                      exact HFin.out
                case done1 =>
                  rintro D1 ys V2 hD1 hys ⟨hbn, hO⟩ hK
                  have hyk : ys.length = k := by
                    have h1 := congrArg List.length hys
                    simp at h1
                    have := HFb.out
                    omega
                  rw [hyk] at hbn
                  have HT2 := Lib.hid (HT1.out.turn HC.out hO (fun b e => .inr (HSe.out b e))).1
                  have SE2 := Lib.hid (SE1.out.stay ⟨hO.size, fun b hb => (HT1.out.turn HC.out hO (fun b e => .inr (HSe.out b e))).2 b hb⟩)
                  have HKn2 : Hid (Blk V2 xk 3 #[.int .i64 (k : Nat)]) := Lib.hid hbn
                  have HM2 : Hid (Marks w1.heap.size [{ target := .collected D1, args := #[] }] V2) := Lib.hid (Marks.cons (ds := []) trivial (fun d hd => by simp at hd) (by omega) hK)
                  have hV2s : W1.heap.size ≤ V2.heap.size := hO.size
                  clear hbn hO hK hys hyk
                  go_wp2
                  obtain ⟨S0, hS0⟩ : ∃ S0 : Nat → Prop, S0 = fun _ => False := ⟨_, rfl⟩
                  have HS0 : Hid (∀ b, S0 b → False) := Lib.hid (fun b h => by rw [hS0] at h; exact h)
                  clear hS0
                  have HBV2 := Lib.hid (HBw.out V2 HT2.out).2
                  refine (wpIn_wide (n := 9)).1 ?_
                  refine' range_boundWS (α := NtX) (gf := gf) (pb := pb) (lb := lb) rfl EN.out (SE2.out.at_ _) (fun h k => h.trans k) (stay_b SE2.out.lt) (fun _ => rfl) OkN.put
                    (fun pre V => OnlyS S0 V2 V)
                    (fun cc pre V => False)
                    (std_onlyS V2 S0)
                    (fun cc => fun s A B hs ht => hs)
                    (OnlyS.refl _ _)
                    _ ?assign2 ?body2 ?done2 ?stop2
                  case assign2 =>
                    intro lp y V K hK
                    gi_wp2
                    exact hK
                  case stop2 =>
                    rintro D cc pre V hD hpre hf hK
                    exact hf.elim
                  case body2 =>
                    rintro lp pre ⟨yat, yA, yn, yc, yp⟩ V hlp hrec hO ⟨B', hB', hok⟩
                    obtain ⟨hqlt, hyat, hyp⟩ := hok.next
                    obtain ⟨m, hm⟩ : ∃ m, m = pre.length := ⟨_, rfl⟩
                    rw [← hm] at hqlt hyat hyp
                    obtain rfl : m = yat := hyat.symm
                    rw [HFb.out] at hqlt
                    have HBV : Hid (Below w1.heap.size w1 V) := Lib.hid (OnlyS.bel HBV2.out hO (fun b hb => (HS0.out b hb).elim) HBV2.out.size)
                    have HBVw : Hid (Below w.heap.size w V) := Lib.hid (by
                      have := HB1.out
                      rw [HU.out] at this
                      exact this.trans (HBV.out.mono this.size))
                    obtain ⟨g1, off1, p1, hA1, hpk1, hpm1, hgb1, hx1v⟩ := (HR.out.below HBVw.out).at_ hqlt
                    have HYp : Hid (yp = p1.l) := Lib.hid (by rw [HP0.out, bytes_get hpk1] at hyp; injection hyp with hyp; exact hyp.symm)
                    have HPr := Lib.hid (((HR.out.2 p1 hpm1).1.below HBVw.out).more HBVw.out.size)
                    have hp1n : p1.n ≤ 140737488351232 := HPn.out p1 hpm1
                    have cb : V.cell? ⟨u, 0, none⟩ = some (.slice (some ⟨g1, off1, none⟩) k c) := by rw [← hA1]; exact (HBV.out.cell (p := ⟨u, 0, none⟩) (show u < w1.heap.size by omega)).trans cp
                    have HYr := Lib.hid (owr_reads hok.2.1)
                    have HYl := Lib.hid (owr_len hok.2.1)
                    have hyn : yn ≤ 140737488355328 := by
                      have h1 : yp.length = yn := HYl.out.1
                      have h2 : p1.l.length = p1.n := by simpa using HPr.out.1
                      rw [HYp.out] at h1
                      omega
                    have HOs := Lib.hid hO
                    have hqn : (m : Int) < (k : Int) := by omega
                    clear hO hm hok hpk1 hpm1 hyp hA1
                    have HSm := Lib.hid (fun z => same_any yA p1.a yn yc p1.n p1.c yp p1.l (V.drewN z) _ _ (HYr.out.drewN z) (HPr.out.drewN z) (by omega))
                    rw [decide_eq_true HYp.out] at HSm
                    gi_wp2_with (refine ⟨trivial, ?_⟩; gi_at_call 16; refine (CallsIn.inRound lp (callsIn_wide.2 (HSm.out 0))).mono ?_; rintro e V1 ⟨rfl, z, hz⟩)
                    exact ⟨(KeepsAll.refl _ V).drewN z, Stay.refl_ _ _, HOs.out.drewN z⟩
                  case done2 =>
                    rintro D2 ys V3 hD2 hys hO hK
                    have HT3_ := Lib.hid (HT2.out.turn HC.out hO (fun b e => (HS0.out b e).elim)).1
                    have HM3 := Lib.hid ((OnlyS.marks HM2.out hO (fun b hb => (HS0.out b hb).elim)).cons (fun d hd k e => by have := HM2.out.lt d hd k e; omega) (by omega) hK)
                    have HKn3 := Lib.hid (hO.blk HKn2.out (fun h => HS0.out _ h))
                    clear hO hK hys
                    have HBV3 := Lib.hid (HBw.out V3 HT3_.out).2
                    have cn : V3.cell? ⟨xk, 0, none⟩ = some (.int .i64 (k : Int)) := by rw [HKn3.out.cell]; rfl
                    have cb : V3.cell? ⟨u, 0, none⟩ = some (.slice a k c) := (HBV3.out.cell (p := ⟨u, 0, none⟩) (show u < w1.heap.size by omega)).trans cp
                    go_wp2_with fail
                    refine (HT3_.out.olen HC.out).mono ?_
                    rintro e V4 ⟨rfl, h4⟩
                    have HM4 := Lib.hid (HM3.out.below h4)
                    have HBV4 := Lib.hid (HBV3.out.trans (h4.mono HBV3.out.size))
                    have HBu4 : Hid (Below u w V4) := Lib.hid (HB1.out.trans (HBV4.out.mono (by omega)))
                    have HKr4 := Lib.hid (HK1.out.below HBV4.out HK1.out.lt)
                    have cu : V4.cell? ⟨u + 1, 0, none⟩ = some (.bool false) := by rw [HKr4.out.cell]; rfl
                    have fu : V4.frozen? ⟨u + 1, 0, none⟩ = false := HKr4.out.frozen 0
                    clear h4
                    go_wp2
                    have k9 : OnlyS (fun b => b = u + 1) V4 (V4.setCell ⟨u + 1, 0, none⟩ (.bool true)) := OnlyS.set (S := fun b => b = u + 1) (OnlyS.refl (fun b => b = u + 1) V4) (x := u + 1) rfl (.bool true)
                    have hk9 := blk_put HKr4.out (.bool true)
                    have hB10 := OnlyS.bel HBu4.out k9 (fun b hb => by omega) (Nat.le_of_lt (show u < V4.heap.size by have : u + 1 < V4.heap.size := HKr4.out.lt; omega))
                    refine Marks.leave (B := w1.heap.size) _ _ (OnlyS.marks HM4.out k9 (fun b hb => ⟨_, _, (show Blk V4 b 4 #[.bool false] by rw [hb]; exact HKr4.out)⟩)) (fun W' hb => ?_)
                    have c5 : W'.cell? ⟨u + 1, 0, none⟩ = some (.bool true) := by rw [hb.cell (p := ⟨u + 1, 0, none⟩) (show u + 1 < w1.heap.size by omega), hk9.cell]; rfl
                    refine ⟨.bool true, by simp [results, Try.f4, go_sem, c5], rfl, ?_⟩
                    rw [← HU.out]
                    exact hB10.trans (hb.mono (by omega))
      rcases Int.lt_or_le i (k : Int) with hin | hout
      · have HI : Hid (inN l0 i = true) := Lib.hid (by unfold inN; rw [decide_eq_true_eq, HFb.out]; omega)
        have ti : decide (0 ≤ i) = true := by simp; omega
        have tj : decide (i < (k : Int)) = true := by simp; omega
        have hI := HI.out
        rw [hI]
        clear hI
        obtain ⟨q, rfl⟩ : ∃ q : Nat, i = (q : Int) := ⟨i.toNat, by omega⟩
        have hik : q < k := by omega
        obtain ⟨g, off, p, rfl, hpk, hpm, hgb, hxp⟩ := HR.out.at_ hik
        have HPk := Lib.hid hpk
        have HPa : Hid (∀ W, Below w.heap.size w W → Reads W W.heap.size 1 p.a p.n (bts p.l)) := Lib.hid (fun W hb => ((HR.out.2 p hpm).1.below hb).more hb.size)
        clear hpk hpm
        go_wp2
        go_loopw [14, 103] (fun _ j wr => ∃ (t : Nat) (l' : List Int), j = .int .i64 t ∧ t ≤ n7 ∧ OwnJ w6.heap.size w7.heap.size (.slice A7 n7 c7) l' wr ∧ OnlyS (fun b => (Value.slice A7 n7 c7).ownBlock = some b) w7 wr) (fun _ j _ => n7 - (intOf j).toNat)
        case atStart => exact ⟨0, _, rfl, by omega, HO7.out, OnlyS.refl _ _⟩
        case round =>
          obtain ⟨t, l1, rfl, ht, hO, ho2⟩ := hrel
          obtain ⟨wb7, rfl⟩ : ∃ wb : World, wb = wr := ⟨_, rfl⟩
          by_cases ht2 : t < n7
          · obtain ⟨gq, rfl, _, _, _, hc1, hf1, hst⟩ := hO.store (i := t) ht2
            have HOm := Lib.hid (hst 2).1
            have HMm := Lib.hid (OnlyS.setAt_ ho2 (S := fun b => (Value.slice (some ⟨gq, 0, none⟩) n7 c7).ownBlock = some b) (x := gq) (o := t) rfl (.int .u8 2))
            clear hst hO ho2
            go_wp2
            go_roundw
            case rel => exact ⟨t + 1, _, by go_num, by omega, HOm.out, HMm.out⟩
            case measure => simp [intOf]; omega
          · have HOl := Lib.hid ho2
            clear hO ho2 ht
            have HTb := Lib.hid (HT7.out.turn HC.out HOl.out (fun b e => .inr e)).1
            have HSb := Lib.hid (SE7.out.stay ⟨HOl.out.size, fun b hb => (HT7.out.turn HC.out HOl.out (fun b e => .inr e)).2 b hb⟩)
            clear HOl
            go_wp2_with fail
            refine (HTb.out.take HC.out (q : Int) HShA.out hi1 hi2).mono ?_
            rintro e w8 ⟨A8, n8, c8, rfl, ho8, ht8, hl8, hv8, hs8⟩
            have HT8 := Lib.hid ht8
            have SE8 := Lib.hid (HSb.out.stay ⟨hs8, hl8⟩)
            have HO8 : Hid (OwnJ wb7.heap.size w8.heap.size (.slice A8 n8 c8) (atN l0 (q : Int)) w8) := Lib.hid ⟨ho8, owr_ltP ho8⟩
            have HSw8 := (HBw.out w8 ht8).2.size
            have hn8 : n8 ≤ 140737488355328 := by have h1 := (owr_len ho8).1; have h2 := atN_len HShA.out (q : Int); have h3 : LM = 140737488355328 := rfl; omega
            have HAt : Hid (atN l0 (q : Int) = p.l) := Lib.hid (by rw [HP0.out]; exact bytes_at HPk.out)
            have HRp8 := Lib.hid (HPa.out w8 (HBw.out w8 ht8).1)
            have HPn8 : Hid (p.l.length = n8) := Lib.hid (by rw [← HAt.out]; exact (owr_len ho8).1)
            have HSm := Lib.hid (same_any A8 p.a n8 c8 p.n p.c (atN l0 (q : Int)) p.l w8 _ _ (owr_reads ho8) HRp8.out (by omega))
            rw [decide_eq_true HAt.out] at HSm
            have hx8 : w8.cell? ⟨g, off + q, none⟩ = some (.slice p.a p.n p.c) := ((HBw.out w8 ht8).1.cell (p := ⟨g, off + q, none⟩) hgb).trans hxp
            have cp8 : w8.cell? ⟨u, 0, none⟩ = some (.slice (some ⟨g, off, none⟩) k c) := ((HBw.out w8 ht8).2.cell (p := ⟨u, 0, none⟩) (show u < w1.heap.size by omega)).trans cp
            clear ho8 ht8 hl8 hv8
            rw [HI.out]
            go_wp2_with fail
            refine HSm.out.mono ?_
            rintro e w9 ⟨rfl, z9, hw9⟩
            have HT9 := Lib.hid (show Tw (Nb _) w1 T T' _ _ _ w9 from hw9 ▸ HT8.out.drewN HC.out _)
            have SE9 : Hid (SeqNt (.func (.func gf) pb lb) l0 R w9) := Lib.hid (by rw [hw9]; exact SE8.out.stay ⟨Nat.le_refl _, fun _ _ => rfl⟩)
            have HO9 : Hid (OwnJ wb7.heap.size w8.heap.size (.slice A8 n8 c8) (atN l0 (q : Int)) w9) := Lib.hid (by rw [hw9]; exact HO8.out)
            clear hw9 cp8 HT8 SE8 HO8
            go_wp2
            go_loopw [16, 128] (fun _ j wr => ∃ (t : Nat) (l' : List Int), j = .int .i64 t ∧ t ≤ n8 ∧ OwnJ wb7.heap.size w8.heap.size (.slice A8 n8 c8) l' wr ∧ OnlyS (fun b => (Value.slice A8 n8 c8).ownBlock = some b) w9 wr) (fun _ j _ => n8 - (intOf j).toNat)
            case atStart => exact ⟨0, _, rfl, by omega, HO9.out, OnlyS.refl _ _⟩
            case round =>
              obtain ⟨t, l1, rfl, ht, hO, ho2⟩ := hrel
              obtain ⟨wb9, rfl⟩ : ∃ wb : World, wb = wr := ⟨_, rfl⟩
              by_cases ht2 : t < n8
              · obtain ⟨gq, rfl, _, _, _, hc1, hf1, hst⟩ := hO.store (i := t) ht2
                have HOm := Lib.hid (hst 3).1
                have HMm := Lib.hid (OnlyS.setAt_ ho2 (S := fun b => (Value.slice (some ⟨gq, 0, none⟩) n8 c8).ownBlock = some b) (x := gq) (o := t) rfl (.int .u8 3))
                clear hst hO ho2
                go_wp2
                go_roundw
                case rel => exact ⟨t + 1, _, by go_num, by omega, HOm.out, HMm.out⟩
                case measure => simp [intOf]; omega
              · have HOl := Lib.hid ho2
                clear hO ho2 ht
                have HTc := Lib.hid (HT9.out.turn HC.out HOl.out (fun b e => .inr e)).1
                have SEc := Lib.hid (SE9.out.stay ⟨HOl.out.size, fun b hb => (HT9.out.turn HC.out HOl.out (fun b e => .inr e)).2 b hb⟩)
                clear HOl
                have kc := fun (w : World) (C : Array Value) (n c : Nat) => Lib.run_convert_bytes_const (P := Try.prog) w 31 5 C n c Try.underlying31 Try.underlying5
                obtain ⟨wl, hwl⟩ : ∃ wl, wl = wb9.alloc (.cells #[.int .u8 108, .int .u8 97, .int .u8 116, .int .u8 101] 5 (4, 5)) := ⟨_, rfl⟩
                have hbl : Below wb9.heap.size wb9 wl := hwl ▸ (Below.refl _ _).alloc (Nat.le_refl _) _
                have HRd : Hid (Reads wl wl.heap.size 1 (some ⟨wb9.heap.size, 0, none⟩) 4 (bts [108, 97, 116, 101])) := Lib.hid (by
                  rw [hwl]
                  exact reads_marked wb9 _ _ _ _ 4 (bts [108, 97, 116, 101]) rfl rfl (by simp))
                have HTl := Lib.hid (HTc.out.next HC.out hbl)
                have SEl := Lib.hid (SEc.out.stay ⟨hbl.size, fun b hb => hbl.block b (HTc.out.ltK b hb).1⟩)
                clear hbl
                go_wp2_with fail
                rw [← hwl]
                clear hwl
                refine (HTl.out.send HC.out (km (by omega)) (HShA.out.take _) HRd.out (by omega) (by show (4 : Nat) ≤ 140737488355328; omega) (by simp)).mono ?_
                rintro e wm ⟨rfl, htm, hlm, -, hsm⟩
                have HTm := Lib.hid htm
                have SEm := Lib.hid (SEl.out.stay ⟨hsm, hlm⟩)
                clear htm hlm hsm kc HTl SEl HTc SEc
                go_wp2
                obtain ⟨xk, hxk⟩ : ∃ xk, xk = wm.heap.size := ⟨_, rfl⟩
                obtain ⟨W1, hW1⟩ : ∃ W1, W1 = wm.alloc (.cells #[.int .i64 0] 3) := ⟨_, rfl⟩
                have hb1 : Below wm.heap.size wm W1 := hW1 ▸ (Below.refl _ _).alloc (Nat.le_refl _) _
                have HKn1 : Hid (Blk W1 xk 3 #[.int .i64 0]) := Lib.hid (by rw [hW1, hxk]; exact Blk.new wm _ _)
                have HT1 := Lib.hid (HTm.out.newV (V2 := fun b => b = xk) HC.out hb1 (fun b e => by have := HKn1.out.lt; omega))
                have SE1 := Lib.hid (SEm.out.stay ⟨hb1.size, fun b hb => hb1.block b (HTm.out.ltK b hb).1⟩)
                have HRx : Hid (∀ b, R b → b < W1.heap.size ∧ b ≠ xk) := Lib.hid (fun b hb => ⟨(HT1.out.ltK b hb).1, fun e => (HT1.out.ltK b hb).2 (.inr e)⟩)
                have hxw : w1.heap.size ≤ xk ∧ xk < W1.heap.size := ⟨by have := (HBw.out wm HTm.out).2.size; omega, HKn1.out.lt⟩
                obtain ⟨hx1, hx2⟩ := hxw
                have HBW1 := Lib.hid (HBw.out W1 HT1.out).2
                have HKr1 := Lib.hid (HK1.out.below HBW1.out HK1.out.lt)
                have HKp1 := Lib.hid (HKs1.out.below HBW1.out HKs1.out.lt)
                rw [← hW1, ← hxk]
                clear hW1 hxk hb1 HTm SEm
                obtain ⟨S, hS⟩ : ∃ S : Nat → Prop, S = fun b => b = xk := ⟨_, rfl⟩
                have S1 : S xk := by rw [hS]
                have HSe : Hid (∀ b, S b → b = xk) := Lib.hid (fun b h => by rw [hS] at h; exact h)
                clear hS
                refine (wpIn_wide (n := 9)).1 ?_
                refine' range_boundFS (α := NtX) (gf := gf) (pb := pb) (lb := lb) rfl EN.out (SE1.out.atF _) OkN.fr (fun h k => h.trans k) (stay_b SE1.out.lt) (fun _ => rfl) OkN.put
                  (fun pre V => Blk V xk 3 #[.int .i64 (pre.length : Nat)] ∧ OnlyS S W1 V)
                  (fun cc pre V => False)
                  (Std.and (std_blk (x := xk) (by omega)) (std_onlyS W1 S))
                  (fun cc => fun s A B hs ht => hs)
                  ⟨HKn1.out, OnlyS.refl _ _⟩
                  _ ?assign1 ?body1 ?done1 ?stop1
                case assign1 =>
                  intro lp y V K hK
                  gi_wp2
                  exact hK
                case stop1 =>
                  rintro D cc pre V hD hpre hf hK
                  exact hf.elim
                case body1 =>
                  rintro lp pre ⟨yat, yA, yn, yc, yp⟩ V hlp hrec ⟨hbn, hO⟩ ⟨B', hB', _, hok⟩
                  obtain ⟨hqlt, hyat, hyp⟩ := hok.next
                  obtain ⟨m, hm⟩ : ∃ m, m = pre.length := ⟨_, rfl⟩
                  rw [← hm] at hbn hqlt hyat hyp
                  obtain rfl : m = yat := hyat.symm
                  rw [HFb.out] at hqlt
                  have HBV : Hid (Below w1.heap.size w1 V) := Lib.hid (OnlyS.bel HBW1.out hO (fun b hb => by have := HSe.out b hb; omega) HBW1.out.size)
                  have HBVw : Hid (Below w.heap.size w V) := Lib.hid (by
                    have := HB1.out
                    rw [HU.out] at this
                    exact this.trans (HBV.out.mono this.size))
                  obtain ⟨g1, off1, p1, hA1, hpk1, hpm1, hgb1, hx1v⟩ := (HR.out.below HBVw.out).at_ hqlt
                  have HYp : Hid (yp = p1.l) := Lib.hid (by rw [HP0.out, bytes_get hpk1] at hyp; injection hyp with hyp; exact hyp.symm)
                  have HPr := Lib.hid (((HR.out.2 p1 hpm1).1.below HBVw.out).more HBVw.out.size)
                  have hp1n : p1.n ≤ 140737488351232 := HPn.out p1 hpm1
                  have cn : V.cell? ⟨xk, 0, none⟩ = some (.int .i64 (m : Int)) := by rw [hbn.cell]; rfl
                  have fn : V.frozen? ⟨xk, 0, none⟩ = false := hbn.frozen 0
                  have cb : V.cell? ⟨u, 0, none⟩ = some (.slice (some ⟨g1, off1, none⟩) k c) := by rw [← hA1]; exact (HBV.out.cell (p := ⟨u, 0, none⟩) (show u < w1.heap.size by omega)).trans cp
                  have HYr := Lib.hid (owr_reads hok.2.1)
                  have HYl := Lib.hid (owr_len hok.2.1)
                  have HOw : Hid (OwnJ B' V.heap.size (.slice yA yn yc) yp V) := Lib.hid ⟨hok.2.1, owr_ltP hok.2.1⟩
                  have HOff : Hid (∀ b, (Value.slice yA yn yc).ownBlock = some b → B' ≤ b ∧ b < V.heap.size ∧ ¬ R b) := Lib.hid (fun b hb => ⟨owr_base hok.2.1 b hb, owr_ltP hok.2.1 b hb, (hok.2.2 b hb).1⟩)
                  have hyn : yn ≤ 140737488355328 := by
                    have h1 : yp.length = yn := HYl.out.1
                    have h2 : p1.l.length = p1.n := by simpa using HPr.out.1
                    rw [HYp.out] at h1
                    omega
                  have HBn := Lib.hid hbn
                  have HOs := Lib.hid hO
                  have HQq := Lib.hid hm
                  have hVs : W1.heap.size ≤ V.heap.size := hO.size
                  have hqn : (m : Int) < (k : Int) := by omega
                  clear hbn hO hm hok hpk1 hpm1 hyp hA1
                  have HSm := Lib.hid (fun z => same_any yA p1.a yn yc p1.n p1.c yp p1.l (V.drewN z) _ _ (HYr.out.drewN z) (HPr.out.drewN z) (by omega))
                  rw [decide_eq_true HYp.out] at HSm
                  have tq : ((m : Int) != (m : Int)) = false := by simp
                  have tn : decide (k ≤ m) = false := by simp; omega
                  gi_wp2_with (refine ⟨trivial, ?_⟩; gi_at_call 16; refine (CallsIn.inRound lp (callsIn_wide.2 (HSm.out 0))).mono ?_; rintro e V1 ⟨rfl, z, hz⟩)
                  have HOz : Hid (OwnJ B' V.heap.size (.slice yA yn yc) yp (V.drewN z)) := Lib.hid HOw.out
                  have HSz : Hid (OnlyS (fun b => (Value.slice yA yn yc).ownBlock = some b) V (V.drewN z)) := Lib.hid ((OnlyS.refl _ _).drewN z)
                  clear HSm cn fn cb hx1v HOw
                  gi_loopw [20, 162] (fun _ j wr => ∃ (t : Nat) (l' : List Int), j = .int .i64 t ∧ t ≤ yn ∧ OwnJ B' V.heap.size (.slice yA yn yc) l' wr ∧ OnlyS (fun b => (Value.slice yA yn yc).ownBlock = some b) V wr) (fun _ j _ => yn - (intOf j).toNat)
                  case atStart => exact ⟨0, _, rfl, by omega, HOz.out, HSz.out⟩
                  case round =>
                    obtain ⟨t, l1, rfl, ht, hOo, ho2⟩ := hrel
                    obtain ⟨V2, rfl⟩ : ∃ V2 : World, V2 = wr := ⟨_, rfl⟩
                    by_cases ht2 : t < yn
                    · obtain ⟨gq, rfl, _, _, _, hc1, hf1, hst⟩ := hOo.store (i := t) ht2
                      have HOm := Lib.hid (hst 4).1
                      have HMm := Lib.hid (OnlyS.setAt_ ho2 (S := fun b => (Value.slice (some ⟨gq, 0, none⟩) yn yc).ownBlock = some b) (x := gq) (o := t) rfl (.int .u8 4))
                      clear hst hOo ho2
                      gi_wp2
                      go_roundw
                      case rel => exact ⟨t + 1, _, by go_num, by omega, HOm.out, HMm.out⟩
                      case measure => simp [intOf]; omega
                    · have hVx : V2.heap[xk]? = V.heap[xk]? := ho2.block xk (by omega) (fun e => by have := (HOff.out xk e).1; omega)
                      have HKx : Hid (Blk V2 xk 3 #[.int .i64 (m : Nat)]) := Lib.hid (hVx.trans HBn.out)
                      have cn : V2.cell? ⟨xk, 0, none⟩ = some (.int .i64 (m : Int)) := by rw [HKx.out.cell]; rfl
                      have fn : V2.frozen? ⟨xk, 0, none⟩ = false := HKx.out.frozen 0
                      have HFin : Hid (KeepsF W1.heap.size (frNB (W1.heap.size + 2) ⟨m, yA, yn, yc, yp⟩) V (V2.setCell ⟨xk, 0, none⟩ (.int .i64 ((m : Int) + 1))) ∧ Stay R V (V2.setCell ⟨xk, 0, none⟩ (.int .i64 ((m : Int) + 1))) ∧
                          Blk (V2.setCell ⟨xk, 0, none⟩ (.int .i64 ((m : Int) + 1))) xk 3 #[.int .i64 ((pre ++ [(⟨m, yA, yn, yc, yp⟩ : NtX)]).length : Nat)] ∧ OnlyS S W1 (V2.setCell ⟨xk, 0, none⟩ (.int .i64 ((m : Int) + 1)))) := Lib.hid (by
                        refine ⟨KeepsF.trans ⟨ho2.size, fun b h1 h2 h3 => ho2.block b h2 (fun e => h3 e)⟩ ((KeepsAll.setCell V2 hx2 _).but _), Stay.trans ⟨ho2.size, fun b hb => ho2.block b (by have := (HRx.out b hb).1; omega) (fun e => (HOff.out b e).2.2 hb)⟩ (stay_setAt (fun h => (HRx.out _ h).2 rfl)), ?_, ?_⟩
                        · have := blk_put HKx.out (.int .i64 ((m : Int) + 1))
                          rw [List.length_append, ← HQq.out]; exact this
                        · refine OnlyS.set ?_ S1 _
                          exact ⟨ho2.os.trans HOs.out.os, ho2.tape.trans HOs.out.tape, ho2.output.trans HOs.out.output, Nat.le_trans HOs.out.size ho2.size, fun b h1 h2 => (ho2.block b (by omega) (fun e => by have := (HOff.out b e).1; omega)).trans (HOs.out.block b h1 h2)⟩)
                      clear hOo ho2 hVx
                      gi_wp2
                      exact HFin.out
                case done1 =>
                  rintro D1 ys V2 hD1 hys ⟨hbn, hO⟩ hK
                  have hyk : ys.length = k := by
                    have h1 := congrArg List.length hys
                    simp at h1
                    have := HFb.out
                    omega
                  rw [hyk] at hbn
                  have HT2 := Lib.hid (HT1.out.turn HC.out hO (fun b e => .inr (HSe.out b e))).1
                  have SE2 := Lib.hid (SE1.out.stay ⟨hO.size, fun b hb => (HT1.out.turn HC.out hO (fun b e => .inr (HSe.out b e))).2 b hb⟩)
                  have HKn2 : Hid (Blk V2 xk 3 #[.int .i64 (k : Nat)]) := Lib.hid hbn
                  have HM2 : Hid (Marks w1.heap.size [{ target := .collected D1, args := #[] }] V2) := Lib.hid (Marks.cons (ds := []) trivial (fun d hd => by simp at hd) (by omega) hK)
                  have hV2s : W1.heap.size ≤ V2.heap.size := hO.size
                  clear hbn hO hK hys hyk
                  go_wp2
                  obtain ⟨S0, hS0⟩ : ∃ S0 : Nat → Prop, S0 = fun _ => False := ⟨_, rfl⟩
                  have HS0 : Hid (∀ b, S0 b → False) := Lib.hid (fun b h => by rw [hS0] at h; exact h)
                  clear hS0
                  have HBV2 := Lib.hid (HBw.out V2 HT2.out).2
                  refine (wpIn_wide (n := 9)).1 ?_
                  refine' range_boundWS (α := NtX) (gf := gf) (pb := pb) (lb := lb) rfl EN.out (SE2.out.at_ _) (fun h k => h.trans k) (stay_b SE2.out.lt) (fun _ => rfl) OkN.put
                    (fun pre V => OnlyS S0 V2 V)
                    (fun cc pre V => False)
                    (std_onlyS V2 S0)
                    (fun cc => fun s A B hs ht => hs)
                    (OnlyS.refl _ _)
                    _ ?assign2 ?body2 ?done2 ?stop2
                  case assign2 =>
                    intro lp y V K hK
                    gi_wp2
                    exact hK
                  case stop2 =>
                    rintro D cc pre V hD hpre hf hK
                    exact hf.elim
                  case body2 =>
                    rintro lp pre ⟨yat, yA, yn, yc, yp⟩ V hlp hrec hO ⟨B', hB', hok⟩
                    obtain ⟨hqlt, hyat, hyp⟩ := hok.next
                    obtain ⟨m, hm⟩ : ∃ m, m = pre.length := ⟨_, rfl⟩
                    rw [← hm] at hqlt hyat hyp
                    obtain rfl : m = yat := hyat.symm
                    rw [HFb.out] at hqlt
                    have HBV : Hid (Below w1.heap.size w1 V) := Lib.hid (OnlyS.bel HBV2.out hO (fun b hb => (HS0.out b hb).elim) HBV2.out.size)
                    have HBVw : Hid (Below w.heap.size w V) := Lib.hid (by
                      have := HB1.out
                      rw [HU.out] at this
                      exact this.trans (HBV.out.mono this.size))
                    obtain ⟨g1, off1, p1, hA1, hpk1, hpm1, hgb1, hx1v⟩ := (HR.out.below HBVw.out).at_ hqlt
                    have HYp : Hid (yp = p1.l) := Lib.hid (by rw [HP0.out, bytes_get hpk1] at hyp; injection hyp with hyp; exact hyp.symm)
                    have HPr := Lib.hid (((HR.out.2 p1 hpm1).1.below HBVw.out).more HBVw.out.size)
                    have hp1n : p1.n ≤ 140737488351232 := HPn.out p1 hpm1
                    have cb : V.cell? ⟨u, 0, none⟩ = some (.slice (some ⟨g1, off1, none⟩) k c) := by rw [← hA1]; exact (HBV.out.cell (p := ⟨u, 0, none⟩) (show u < w1.heap.size by omega)).trans cp
                    have HYr := Lib.hid (owr_reads hok.2.1)
                    have HYl := Lib.hid (owr_len hok.2.1)
                    have hyn : yn ≤ 140737488355328 := by
                      have h1 : yp.length = yn := HYl.out.1
                      have h2 : p1.l.length = p1.n := by simpa using HPr.out.1
                      rw [HYp.out] at h1
                      omega
                    have HOs := Lib.hid hO
                    have hqn : (m : Int) < (k : Int) := by omega
                    clear hO hm hok hpk1 hpm1 hyp hA1
                    have HSm := Lib.hid (fun z => same_any yA p1.a yn yc p1.n p1.c yp p1.l (V.drewN z) _ _ (HYr.out.drewN z) (HPr.out.drewN z) (by omega))
                    rw [decide_eq_true HYp.out] at HSm
                    gi_wp2_with (refine ⟨trivial, ?_⟩; gi_at_call 16; refine (CallsIn.inRound lp (callsIn_wide.2 (HSm.out 0))).mono ?_; rintro e V1 ⟨rfl, z, hz⟩)
                    exact ⟨(KeepsAll.refl _ V).drewN z, Stay.refl_ _ _, HOs.out.drewN z⟩
                  case done2 =>
                    rintro D2 ys V3 hD2 hys hO hK
                    have HT3_ := Lib.hid (HT2.out.turn HC.out hO (fun b e => (HS0.out b e).elim)).1
                    have HM3 := Lib.hid ((OnlyS.marks HM2.out hO (fun b hb => (HS0.out b hb).elim)).cons (fun d hd k e => by have := HM2.out.lt d hd k e; omega) (by omega) hK)
                    have HKn3 := Lib.hid (hO.blk HKn2.out (fun h => HS0.out _ h))
                    clear hO hK hys
                    have HBV3 := Lib.hid (HBw.out V3 HT3_.out).2
                    have cn : V3.cell? ⟨xk, 0, none⟩ = some (.int .i64 (k : Int)) := by rw [HKn3.out.cell]; rfl
                    have cb : V3.cell? ⟨u, 0, none⟩ = some (.slice (some ⟨g, off, none⟩) k c) := (HBV3.out.cell (p := ⟨u, 0, none⟩) (show u < w1.heap.size by omega)).trans cp
                    go_wp2_with fail
                    refine (HT3_.out.olen HC.out).mono ?_
                    rintro e V4 ⟨rfl, h4⟩
                    have HM4 := Lib.hid (HM3.out.below h4)
                    have HBV4 := Lib.hid (HBV3.out.trans (h4.mono HBV3.out.size))
                    have HBu4 : Hid (Below u w V4) := Lib.hid (HB1.out.trans (HBV4.out.mono (by omega)))
                    have HKr4 := Lib.hid (HK1.out.below HBV4.out HK1.out.lt)
                    have cu : V4.cell? ⟨u + 1, 0, none⟩ = some (.bool false) := by rw [HKr4.out.cell]; rfl
                    have fu : V4.frozen? ⟨u + 1, 0, none⟩ = false := HKr4.out.frozen 0
                    clear h4
                    go_wp2
                    have k9 : OnlyS (fun b => b = u + 1) V4 (V4.setCell ⟨u + 1, 0, none⟩ (.bool true)) := OnlyS.set (S := fun b => b = u + 1) (OnlyS.refl (fun b => b = u + 1) V4) (x := u + 1) rfl (.bool true)
                    have hk9 := blk_put HKr4.out (.bool true)
                    have hB10 := OnlyS.bel HBu4.out k9 (fun b hb => by omega) (Nat.le_of_lt (show u < V4.heap.size by have : u + 1 < V4.heap.size := HKr4.out.lt; omega))
                    refine Marks.leave (B := w1.heap.size) _ _ (OnlyS.marks HM4.out k9 (fun b hb => ⟨_, _, (show Blk V4 b 4 #[.bool false] by rw [hb]; exact HKr4.out)⟩)) (fun W' hb => ?_)
                    have c5 : W'.cell? ⟨u + 1, 0, none⟩ = some (.bool true) := by rw [hb.cell (p := ⟨u + 1, 0, none⟩) (show u + 1 < w1.heap.size by omega), hk9.cell]; rfl
                    refine ⟨.bool true, by simp [results, Try.f4, go_sem, c5], rfl, ?_⟩
                    rw [← HU.out]
                    exact hB10.trans (hb.mono (by omega))
      · have HI : Hid (inN l0 i = false) := Lib.hid (by unfold inN; rw [decide_eq_false_iff_not, HFb.out]; omega)
        have ti : decide (0 ≤ i) = true := by simp; omega
        have tj : decide (i < (k : Int)) = false := by simp; omega
        have hI := HI.out
        rw [hI]
        clear hI
        go_wp2
        go_loopw [14, 103] (fun _ j wr => ∃ (t : Nat) (l' : List Int), j = .int .i64 t ∧ t ≤ n7 ∧ OwnJ w6.heap.size w7.heap.size (.slice A7 n7 c7) l' wr ∧ OnlyS (fun b => (Value.slice A7 n7 c7).ownBlock = some b) w7 wr) (fun _ j _ => n7 - (intOf j).toNat)
        case atStart => exact ⟨0, _, rfl, by omega, HO7.out, OnlyS.refl _ _⟩
        case round =>
          obtain ⟨t, l1, rfl, ht, hO, ho2⟩ := hrel
          obtain ⟨wb7, rfl⟩ : ∃ wb : World, wb = wr := ⟨_, rfl⟩
          by_cases ht2 : t < n7
          · obtain ⟨gq, rfl, _, _, _, hc1, hf1, hst⟩ := hO.store (i := t) ht2
            have HOm := Lib.hid (hst 2).1
            have HMm := Lib.hid (OnlyS.setAt_ ho2 (S := fun b => (Value.slice (some ⟨gq, 0, none⟩) n7 c7).ownBlock = some b) (x := gq) (o := t) rfl (.int .u8 2))
            clear hst hO ho2
            go_wp2
            go_roundw
            case rel => exact ⟨t + 1, _, by go_num, by omega, HOm.out, HMm.out⟩
            case measure => simp [intOf]; omega
          · have HOl := Lib.hid ho2
            clear hO ho2 ht
            have HTb := Lib.hid (HT7.out.turn HC.out HOl.out (fun b e => .inr e)).1
            have HSb := Lib.hid (SE7.out.stay ⟨HOl.out.size, fun b hb => (HT7.out.turn HC.out HOl.out (fun b e => .inr e)).2 b hb⟩)
            clear HOl
            go_wp2_with fail
            refine (HTb.out.take HC.out i HShA.out hi1 hi2).mono ?_
            rintro e w8 ⟨A8, n8, c8, rfl, ho8, ht8, hl8, hv8, hs8⟩
            have HT8 := Lib.hid ht8
            have SE8 := Lib.hid (HSb.out.stay ⟨hs8, hl8⟩)
            have HO8 : Hid (OwnJ wb7.heap.size w8.heap.size (.slice A8 n8 c8) (atN l0 i) w8) := Lib.hid ⟨ho8, owr_ltP ho8⟩
            have HSw8 := (HBw.out w8 ht8).2.size
            have hn8 : n8 ≤ 140737488355328 := by have h1 := (owr_len ho8).1; have h2 := atN_len HShA.out i; have h3 : LM = 140737488355328 := rfl; omega
            have cp8 : w8.cell? ⟨u, 0, none⟩ = some (.slice a k c) := ((HBw.out w8 ht8).2.cell (p := ⟨u, 0, none⟩) (show u < w1.heap.size by omega)).trans cp
            clear ho8 ht8 hl8 hv8
            rw [HI.out]
            obtain ⟨w9, hw9a⟩ : ∃ w9, w9 = w8 := ⟨_, rfl⟩
            rw [← hw9a]
            have hw9 : w9 = w8.drewN 0 := hw9a
            clear hw9a
            have HT9 := Lib.hid (show Tw (Nb _) w1 T T' _ _ _ w9 from hw9 ▸ HT8.out.drewN HC.out _)
            have SE9 : Hid (SeqNt (.func (.func gf) pb lb) l0 R w9) := Lib.hid (by rw [hw9]; exact SE8.out.stay ⟨Nat.le_refl _, fun _ _ => rfl⟩)
            have HO9 : Hid (OwnJ wb7.heap.size w8.heap.size (.slice A8 n8 c8) (atN l0 i) w9) := Lib.hid (by rw [hw9]; exact HO8.out)
            clear hw9 cp8 HT8 SE8 HO8
            go_wp2
            go_loopw [16, 128] (fun _ j wr => ∃ (t : Nat) (l' : List Int), j = .int .i64 t ∧ t ≤ n8 ∧ OwnJ wb7.heap.size w8.heap.size (.slice A8 n8 c8) l' wr ∧ OnlyS (fun b => (Value.slice A8 n8 c8).ownBlock = some b) w9 wr) (fun _ j _ => n8 - (intOf j).toNat)
            case atStart => exact ⟨0, _, rfl, by omega, HO9.out, OnlyS.refl _ _⟩
            case round =>
              obtain ⟨t, l1, rfl, ht, hO, ho2⟩ := hrel
              obtain ⟨wb9, rfl⟩ : ∃ wb : World, wb = wr := ⟨_, rfl⟩
              by_cases ht2 : t < n8
              · obtain ⟨gq, rfl, _, _, _, hc1, hf1, hst⟩ := hO.store (i := t) ht2
                have HOm := Lib.hid (hst 3).1
                have HMm := Lib.hid (OnlyS.setAt_ ho2 (S := fun b => (Value.slice (some ⟨gq, 0, none⟩) n8 c8).ownBlock = some b) (x := gq) (o := t) rfl (.int .u8 3))
                clear hst hO ho2
                go_wp2
                go_roundw
                case rel => exact ⟨t + 1, _, by go_num, by omega, HOm.out, HMm.out⟩
                case measure => simp [intOf]; omega
              · have HOl := Lib.hid ho2
                clear hO ho2 ht
                have HTc := Lib.hid (HT9.out.turn HC.out HOl.out (fun b e => .inr e)).1
                have SEc := Lib.hid (SE9.out.stay ⟨HOl.out.size, fun b hb => (HT9.out.turn HC.out HOl.out (fun b e => .inr e)).2 b hb⟩)
                clear HOl
                have kc := fun (w : World) (C : Array Value) (n c : Nat) => Lib.run_convert_bytes_const (P := Try.prog) w 31 5 C n c Try.underlying31 Try.underlying5
                obtain ⟨wl, hwl⟩ : ∃ wl, wl = wb9.alloc (.cells #[.int .u8 108, .int .u8 97, .int .u8 116, .int .u8 101] 5 (4, 5)) := ⟨_, rfl⟩
                have hbl : Below wb9.heap.size wb9 wl := hwl ▸ (Below.refl _ _).alloc (Nat.le_refl _) _
                have HRd : Hid (Reads wl wl.heap.size 1 (some ⟨wb9.heap.size, 0, none⟩) 4 (bts [108, 97, 116, 101])) := Lib.hid (by
                  rw [hwl]
                  exact reads_marked wb9 _ _ _ _ 4 (bts [108, 97, 116, 101]) rfl rfl (by simp))
                have HTl := Lib.hid (HTc.out.next HC.out hbl)
                have SEl := Lib.hid (SEc.out.stay ⟨hbl.size, fun b hb => hbl.block b (HTc.out.ltK b hb).1⟩)
                clear hbl
                go_wp2_with fail
                rw [← hwl]
                clear hwl
                refine (HTl.out.send HC.out (km (by omega)) (HShA.out.take _) HRd.out (by omega) (by show (4 : Nat) ≤ 140737488355328; omega) (by simp)).mono ?_
                rintro e wm ⟨rfl, htm, hlm, -, hsm⟩
                have HTm := Lib.hid htm
                have SEm := Lib.hid (SEl.out.stay ⟨hsm, hlm⟩)
                clear htm hlm hsm kc HTl SEl HTc SEc
                go_wp2
                obtain ⟨xk, hxk⟩ : ∃ xk, xk = wm.heap.size := ⟨_, rfl⟩
                obtain ⟨W1, hW1⟩ : ∃ W1, W1 = wm.alloc (.cells #[.int .i64 0] 3) := ⟨_, rfl⟩
                have hb1 : Below wm.heap.size wm W1 := hW1 ▸ (Below.refl _ _).alloc (Nat.le_refl _) _
                have HKn1 : Hid (Blk W1 xk 3 #[.int .i64 0]) := Lib.hid (by rw [hW1, hxk]; exact Blk.new wm _ _)
                have HT1 := Lib.hid (HTm.out.newV (V2 := fun b => b = xk) HC.out hb1 (fun b e => by have := HKn1.out.lt; omega))
                have SE1 := Lib.hid (SEm.out.stay ⟨hb1.size, fun b hb => hb1.block b (HTm.out.ltK b hb).1⟩)
                have HRx : Hid (∀ b, R b → b < W1.heap.size ∧ b ≠ xk) := Lib.hid (fun b hb => ⟨(HT1.out.ltK b hb).1, fun e => (HT1.out.ltK b hb).2 (.inr e)⟩)
                have hxw : w1.heap.size ≤ xk ∧ xk < W1.heap.size := ⟨by have := (HBw.out wm HTm.out).2.size; omega, HKn1.out.lt⟩
                obtain ⟨hx1, hx2⟩ := hxw
                have HBW1 := Lib.hid (HBw.out W1 HT1.out).2
                have HKr1 := Lib.hid (HK1.out.below HBW1.out HK1.out.lt)
                have HKp1 := Lib.hid (HKs1.out.below HBW1.out HKs1.out.lt)
                rw [← hW1, ← hxk]
                clear hW1 hxk hb1 HTm SEm
                obtain ⟨S, hS⟩ : ∃ S : Nat → Prop, S = fun b => b = xk := ⟨_, rfl⟩
                have S1 : S xk := by rw [hS]
                have HSe : Hid (∀ b, S b → b = xk) := Lib.hid (fun b h => by rw [hS] at h; exact h)
                clear hS
                refine (wpIn_wide (n := 9)).1 ?_
                refine' range_boundFS (α := NtX) (gf := gf) (pb := pb) (lb := lb) rfl EN.out (SE1.out.atF _) OkN.fr (fun h k => h.trans k) (stay_b SE1.out.lt) (fun _ => rfl) OkN.put
                  (fun pre V => Blk V xk 3 #[.int .i64 (pre.length : Nat)] ∧ OnlyS S W1 V)
                  (fun cc pre V => False)
                  (Std.and (std_blk (x := xk) (by omega)) (std_onlyS W1 S))
                  (fun cc => fun s A B hs ht => hs)
                  ⟨HKn1.out, OnlyS.refl _ _⟩
                  _ ?assign1 ?body1 ?done1 ?stop1
                case assign1 =>
                  intro lp y V K hK
                  gi_wp2
                  exact hK
                case stop1 =>
                  rintro D cc pre V hD hpre hf hK
                  exact hf.elim
                case body1 =>
                  rintro lp pre ⟨yat, yA, yn, yc, yp⟩ V hlp hrec ⟨hbn, hO⟩ ⟨B', hB', _, hok⟩
                  obtain ⟨hqlt, hyat, hyp⟩ := hok.next
                  obtain ⟨m, hm⟩ : ∃ m, m = pre.length := ⟨_, rfl⟩
                  rw [← hm] at hbn hqlt hyat hyp
                  obtain rfl : m = yat := hyat.symm
                  rw [HFb.out] at hqlt
                  have HBV : Hid (Below w1.heap.size w1 V) := Lib.hid (OnlyS.bel HBW1.out hO (fun b hb => by have := HSe.out b hb; omega) HBW1.out.size)
                  have HBVw : Hid (Below w.heap.size w V) := Lib.hid (by
                    have := HB1.out
                    rw [HU.out] at this
                    exact this.trans (HBV.out.mono this.size))
                  obtain ⟨g1, off1, p1, hA1, hpk1, hpm1, hgb1, hx1v⟩ := (HR.out.below HBVw.out).at_ hqlt
                  have HYp : Hid (yp = p1.l) := Lib.hid (by rw [HP0.out, bytes_get hpk1] at hyp; injection hyp with hyp; exact hyp.symm)
                  have HPr := Lib.hid (((HR.out.2 p1 hpm1).1.below HBVw.out).more HBVw.out.size)
                  have hp1n : p1.n ≤ 140737488351232 := HPn.out p1 hpm1
                  have cn : V.cell? ⟨xk, 0, none⟩ = some (.int .i64 (m : Int)) := by rw [hbn.cell]; rfl
                  have fn : V.frozen? ⟨xk, 0, none⟩ = false := hbn.frozen 0
                  have cb : V.cell? ⟨u, 0, none⟩ = some (.slice (some ⟨g1, off1, none⟩) k c) := by rw [← hA1]; exact (HBV.out.cell (p := ⟨u, 0, none⟩) (show u < w1.heap.size by omega)).trans cp
                  have HYr := Lib.hid (owr_reads hok.2.1)
                  have HYl := Lib.hid (owr_len hok.2.1)
                  have HOw : Hid (OwnJ B' V.heap.size (.slice yA yn yc) yp V) := Lib.hid ⟨hok.2.1, owr_ltP hok.2.1⟩
                  have HOff : Hid (∀ b, (Value.slice yA yn yc).ownBlock = some b → B' ≤ b ∧ b < V.heap.size ∧ ¬ R b) := Lib.hid (fun b hb => ⟨owr_base hok.2.1 b hb, owr_ltP hok.2.1 b hb, (hok.2.2 b hb).1⟩)
                  have hyn : yn ≤ 140737488355328 := by
                    have h1 : yp.length = yn := HYl.out.1
                    have h2 : p1.l.length = p1.n := by simpa using HPr.out.1
                    rw [HYp.out] at h1
                    omega
                  have HBn := Lib.hid hbn
                  have HOs := Lib.hid hO
                  have HQq := Lib.hid hm
                  have hVs : W1.heap.size ≤ V.heap.size := hO.size
                  have hqn : (m : Int) < (k : Int) := by omega
                  clear hbn hO hm hok hpk1 hpm1 hyp hA1
                  have HSm := Lib.hid (fun z => same_any yA p1.a yn yc p1.n p1.c yp p1.l (V.drewN z) _ _ (HYr.out.drewN z) (HPr.out.drewN z) (by omega))
                  rw [decide_eq_true HYp.out] at HSm
                  have tq : ((m : Int) != (m : Int)) = false := by simp
                  have tn : decide (k ≤ m) = false := by simp; omega
                  gi_wp2_with (refine ⟨trivial, ?_⟩; gi_at_call 16; refine (CallsIn.inRound lp (callsIn_wide.2 (HSm.out 0))).mono ?_; rintro e V1 ⟨rfl, z, hz⟩)
                  have HOz : Hid (OwnJ B' V.heap.size (.slice yA yn yc) yp (V.drewN z)) := Lib.hid HOw.out
                  have HSz : Hid (OnlyS (fun b => (Value.slice yA yn yc).ownBlock = some b) V (V.drewN z)) := Lib.hid ((OnlyS.refl _ _).drewN z)
                  clear HSm cn fn cb hx1v HOw
                  gi_loopw [20, 162] (fun _ j wr => ∃ (t : Nat) (l' : List Int), j = .int .i64 t ∧ t ≤ yn ∧ OwnJ B' V.heap.size (.slice yA yn yc) l' wr ∧ OnlyS (fun b => (Value.slice yA yn yc).ownBlock = some b) V wr) (fun _ j _ => yn - (intOf j).toNat)
                  case atStart => exact ⟨0, _, rfl, by omega, HOz.out, HSz.out⟩
                  case round =>
                    obtain ⟨t, l1, rfl, ht, hOo, ho2⟩ := hrel
                    obtain ⟨V2, rfl⟩ : ∃ V2 : World, V2 = wr := ⟨_, rfl⟩
                    by_cases ht2 : t < yn
                    · obtain ⟨gq, rfl, _, _, _, hc1, hf1, hst⟩ := hOo.store (i := t) ht2
                      have HOm := Lib.hid (hst 4).1
                      have HMm := Lib.hid (OnlyS.setAt_ ho2 (S := fun b => (Value.slice (some ⟨gq, 0, none⟩) yn yc).ownBlock = some b) (x := gq) (o := t) rfl (.int .u8 4))
                      clear hst hOo ho2
                      gi_wp2
                      go_roundw
                      case rel => exact ⟨t + 1, _, by go_num, by omega, HOm.out, HMm.out⟩
                      case measure => simp [intOf]; omega
                    · have hVx : V2.heap[xk]? = V.heap[xk]? := ho2.block xk (by omega) (fun e => by have := (HOff.out xk e).1; omega)
                      have HKx : Hid (Blk V2 xk 3 #[.int .i64 (m : Nat)]) := Lib.hid (hVx.trans HBn.out)
                      have cn : V2.cell? ⟨xk, 0, none⟩ = some (.int .i64 (m : Int)) := by rw [HKx.out.cell]; rfl
                      have fn : V2.frozen? ⟨xk, 0, none⟩ = false := HKx.out.frozen 0
                      have HFin : Hid (KeepsF W1.heap.size (frNB (W1.heap.size + 2) ⟨m, yA, yn, yc, yp⟩) V (V2.setCell ⟨xk, 0, none⟩ (.int .i64 ((m : Int) + 1))) ∧ Stay R V (V2.setCell ⟨xk, 0, none⟩ (.int .i64 ((m : Int) + 1))) ∧
                          Blk (V2.setCell ⟨xk, 0, none⟩ (.int .i64 ((m : Int) + 1))) xk 3 #[.int .i64 ((pre ++ [(⟨m, yA, yn, yc, yp⟩ : NtX)]).length : Nat)] ∧ OnlyS S W1 (V2.setCell ⟨xk, 0, none⟩ (.int .i64 ((m : Int) + 1)))) := Lib.hid (by
                        refine ⟨KeepsF.trans ⟨ho2.size, fun b h1 h2 h3 => ho2.block b h2 (fun e => h3 e)⟩ ((KeepsAll.setCell V2 hx2 _).but _), Stay.trans ⟨ho2.size, fun b hb => ho2.block b (by have := (HRx.out b hb).1; omega) (fun e => (HOff.out b e).2.2 hb)⟩ (stay_setAt (fun h => (HRx.out _ h).2 rfl)), ?_, ?_⟩
                        · have := blk_put HKx.out (.int .i64 ((m : Int) + 1))
                          rw [List.length_append, ← HQq.out]; exact this
                        · refine OnlyS.set ?_ S1 _
                          exact ⟨ho2.os.trans HOs.out.os, ho2.tape.trans HOs.out.tape, ho2.output.trans HOs.out.output, Nat.le_trans HOs.out.size ho2.size, fun b h1 h2 => (ho2.block b (by omega) (fun e => by have := (HOff.out b e).1; omega)).trans (HOs.out.block b h1 h2)⟩)
                      clear hOo ho2 hVx
                      gi_wp2
                      exact HFin.out
                case done1 =>
                  rintro D1 ys V2 hD1 hys ⟨hbn, hO⟩ hK
                  have hyk : ys.length = k := by
                    have h1 := congrArg List.length hys
                    simp at h1
                    have := HFb.out
                    omega
                  rw [hyk] at hbn
                  have HT2 := Lib.hid (HT1.out.turn HC.out hO (fun b e => .inr (HSe.out b e))).1
                  have SE2 := Lib.hid (SE1.out.stay ⟨hO.size, fun b hb => (HT1.out.turn HC.out hO (fun b e => .inr (HSe.out b e))).2 b hb⟩)
                  have HKn2 : Hid (Blk V2 xk 3 #[.int .i64 (k : Nat)]) := Lib.hid hbn
                  have HM2 : Hid (Marks w1.heap.size [{ target := .collected D1, args := #[] }] V2) := Lib.hid (Marks.cons (ds := []) trivial (fun d hd => by simp at hd) (by omega) hK)
                  have hV2s : W1.heap.size ≤ V2.heap.size := hO.size
                  clear hbn hO hK hys hyk
                  go_wp2
                  obtain ⟨S0, hS0⟩ : ∃ S0 : Nat → Prop, S0 = fun _ => False := ⟨_, rfl⟩
                  have HS0 : Hid (∀ b, S0 b → False) := Lib.hid (fun b h => by rw [hS0] at h; exact h)
                  clear hS0
                  have HBV2 := Lib.hid (HBw.out V2 HT2.out).2
                  refine (wpIn_wide (n := 9)).1 ?_
                  refine' range_boundWS (α := NtX) (gf := gf) (pb := pb) (lb := lb) rfl EN.out (SE2.out.at_ _) (fun h k => h.trans k) (stay_b SE2.out.lt) (fun _ => rfl) OkN.put
                    (fun pre V => OnlyS S0 V2 V)
                    (fun cc pre V => False)
                    (std_onlyS V2 S0)
                    (fun cc => fun s A B hs ht => hs)
                    (OnlyS.refl _ _)
                    _ ?assign2 ?body2 ?done2 ?stop2
                  case assign2 =>
                    intro lp y V K hK
                    gi_wp2
                    exact hK
                  case stop2 =>
                    rintro D cc pre V hD hpre hf hK
                    exact hf.elim
                  case body2 =>
                    rintro lp pre ⟨yat, yA, yn, yc, yp⟩ V hlp hrec hO ⟨B', hB', hok⟩
                    obtain ⟨hqlt, hyat, hyp⟩ := hok.next
                    obtain ⟨m, hm⟩ : ∃ m, m = pre.length := ⟨_, rfl⟩
                    rw [← hm] at hqlt hyat hyp
                    obtain rfl : m = yat := hyat.symm
                    rw [HFb.out] at hqlt
                    have HBV : Hid (Below w1.heap.size w1 V) := Lib.hid (OnlyS.bel HBV2.out hO (fun b hb => (HS0.out b hb).elim) HBV2.out.size)
                    have HBVw : Hid (Below w.heap.size w V) := Lib.hid (by
                      have := HB1.out
                      rw [HU.out] at this
                      exact this.trans (HBV.out.mono this.size))
                    obtain ⟨g1, off1, p1, hA1, hpk1, hpm1, hgb1, hx1v⟩ := (HR.out.below HBVw.out).at_ hqlt
                    have HYp : Hid (yp = p1.l) := Lib.hid (by rw [HP0.out, bytes_get hpk1] at hyp; injection hyp with hyp; exact hyp.symm)
                    have HPr := Lib.hid (((HR.out.2 p1 hpm1).1.below HBVw.out).more HBVw.out.size)
                    have hp1n : p1.n ≤ 140737488351232 := HPn.out p1 hpm1
                    have cb : V.cell? ⟨u, 0, none⟩ = some (.slice (some ⟨g1, off1, none⟩) k c) := by rw [← hA1]; exact (HBV.out.cell (p := ⟨u, 0, none⟩) (show u < w1.heap.size by omega)).trans cp
                    have HYr := Lib.hid (owr_reads hok.2.1)
                    have HYl := Lib.hid (owr_len hok.2.1)
                    have hyn : yn ≤ 140737488355328 := by
                      have h1 : yp.length = yn := HYl.out.1
                      have h2 : p1.l.length = p1.n := by simpa using HPr.out.1
                      rw [HYp.out] at h1
                      omega
                    have HOs := Lib.hid hO
                    have hqn : (m : Int) < (k : Int) := by omega
                    clear hO hm hok hpk1 hpm1 hyp hA1
                    have HSm := Lib.hid (fun z => same_any yA p1.a yn yc p1.n p1.c yp p1.l (V.drewN z) _ _ (HYr.out.drewN z) (HPr.out.drewN z) (by omega))
                    rw [decide_eq_true HYp.out] at HSm
                    gi_wp2_with (refine ⟨trivial, ?_⟩; gi_at_call 16; refine (CallsIn.inRound lp (callsIn_wide.2 (HSm.out 0))).mono ?_; rintro e V1 ⟨rfl, z, hz⟩)
                    exact ⟨(KeepsAll.refl _ V).drewN z, Stay.refl_ _ _, HOs.out.drewN z⟩
                  case done2 =>
                    rintro D2 ys V3 hD2 hys hO hK
                    have HT3_ := Lib.hid (HT2.out.turn HC.out hO (fun b e => (HS0.out b e).elim)).1
                    have HM3 := Lib.hid ((OnlyS.marks HM2.out hO (fun b hb => (HS0.out b hb).elim)).cons (fun d hd k e => by have := HM2.out.lt d hd k e; omega) (by omega) hK)
                    have HKn3 := Lib.hid (hO.blk HKn2.out (fun h => HS0.out _ h))
                    clear hO hK hys
                    have HBV3 := Lib.hid (HBw.out V3 HT3_.out).2
                    have cn : V3.cell? ⟨xk, 0, none⟩ = some (.int .i64 (k : Int)) := by rw [HKn3.out.cell]; rfl
                    have cb : V3.cell? ⟨u, 0, none⟩ = some (.slice a k c) := (HBV3.out.cell (p := ⟨u, 0, none⟩) (show u < w1.heap.size by omega)).trans cp
                    go_wp2_with fail
                    refine (HT3_.out.olen HC.out).mono ?_
                    rintro e V4 ⟨rfl, h4⟩
                    have HM4 := Lib.hid (HM3.out.below h4)
                    have HBV4 := Lib.hid (HBV3.out.trans (h4.mono HBV3.out.size))
                    have HBu4 : Hid (Below u w V4) := Lib.hid (HB1.out.trans (HBV4.out.mono (by omega)))
                    have HKr4 := Lib.hid (HK1.out.below HBV4.out HK1.out.lt)
                    have cu : V4.cell? ⟨u + 1, 0, none⟩ = some (.bool false) := by rw [HKr4.out.cell]; rfl
                    have fu : V4.frozen? ⟨u + 1, 0, none⟩ = false := HKr4.out.frozen 0
                    clear h4
                    go_wp2
                    have k9 : OnlyS (fun b => b = u + 1) V4 (V4.setCell ⟨u + 1, 0, none⟩ (.bool true)) := OnlyS.set (S := fun b => b = u + 1) (OnlyS.refl (fun b => b = u + 1) V4) (x := u + 1) rfl (.bool true)
                    have hk9 := blk_put HKr4.out (.bool true)
                    have hB10 := OnlyS.bel HBu4.out k9 (fun b hb => by omega) (Nat.le_of_lt (show u < V4.heap.size by have : u + 1 < V4.heap.size := HKr4.out.lt; omega))
                    refine Marks.leave (B := w1.heap.size) _ _ (OnlyS.marks HM4.out k9 (fun b hb => ⟨_, _, (show Blk V4 b 4 #[.bool false] by rw [hb]; exact HKr4.out)⟩)) (fun W' hb => ?_)
                    have c5 : W'.cell? ⟨u + 1, 0, none⟩ = some (.bool true) := by rw [hb.cell (p := ⟨u + 1, 0, none⟩) (show u + 1 < w1.heap.size by omega), hk9.cell]; rfl
                    refine ⟨.bool true, by simp [results, Try.f4, go_sem, c5], rfl, ?_⟩
                    rw [← HU.out]
                    exact hB10.trans (hb.mono (by omega))
end Go.Proofs.Ytcjfammfplcigaa.Pk
