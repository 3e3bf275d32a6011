/- The walk of the law NetGoes. -/
import Derived.Test.YtcjfammfplcigaaNtFlag
namespace Go.Proofs.Ytcjfammfplcigaa.Pk
open Go.RowKit Go.Shelf Go.Proofs.Ytcjfammfplcigaa.Ar Go.Proofs.Ytcjfammfplcigaa.Nt
set_option linter.unusedVariables false
attribute [local go_sem] Oper.semAt_some encN
set_option maxRecDepth 100000 in
set_option maxHeartbeats 16000000 in
theorem law_NetGoes {Nb : Nat → World → Nat → Li → (Nat → Prop) → (Nat → Prop) → Prop} (C : NetC Nb) (a : Option Addr) (n c : Nat) (ps : List Piece) (bt : Option Addr) (m d : Nat) (ts : List Int) (w : World) (h : ArgL w a n c ps) (hn : n ≤ 140737488351232) (hps : ∀ p ∈ ps, p.n ≤ 140737488351232) (h2 : ArgN w bt m d ts) :
    Calls Try.prog 5 #[.slice a n c, .slice bt m d] w fun e w' => e = .returned (.bool true) ∧ Below w.heap.size w w' := by
  obtain ⟨hr, hnc, hok⟩ := h
  have HC := Lib.hid C
  have HR := Lib.hid hr
  have HK := Lib.hid hok
  have HPn := Lib.hid hps
  have HL : Hid (ps.length = n) := Lib.hid hr.len
  obtain ⟨ht, hmd, hd8, htb⟩ := h2
  have HTr := Lib.hid ht
  have HTb := Lib.hid htb
  have HTl : Hid (ts.length = m) := Lib.hid (by have := ht.1; simpa [nms] using this)
  clear ht htb
  clear C hr hok hps
  refine (callsIn_wide (n := 9)).1 ?_
  refine callsIn_of_wp_marks Try.func5 rfl trivial ?_ rfl
  simp only [Try.ntmps5, List.size_toArray, List.length_cons, List.length_nil, Nat.reduceAdd, Nat.reduceSub, Array.replicate_succ, Array.replicate_zero, List.push_toArray, List.append_toArray, List.nil_append, List.cons_append]
  refine wpIn_wide.2 ?_
  obtain ⟨q0, hq0⟩ : ∃ q0, q0 = w.heap.size := ⟨_, rfl⟩
  obtain ⟨u, hu'⟩ : ∃ u, u = q0 + 1 := ⟨_, rfl⟩
  obtain ⟨W0, hW0⟩ : ∃ W0, W0 = (w.alloc (.cells #[.slice a n c] 28)).alloc (.cells #[.bool false] 4) := ⟨_, rfl⟩
  have HB0 : Hid (Below q0 w W0) := Lib.hid (by
    rw [hW0, hq0]
    exact ((Below.refl _ w).alloc (Nat.le_refl _) _).alloc (by simp) _)
  have HL0 : Hid (Blk W0 q0 28 #[.slice a n c]) := Lib.hid (by rw [hW0, hq0]; exact (Blk.new w _ _).alloc _)
  have HK0 : Hid (Blk W0 u 4 #[.bool false]) := Lib.hid (by
    have := Blk.new (w.alloc (.cells #[.slice a n c] 28)) 4 #[.bool false]
    rw [World.size_alloc, ← hq0, ← hu'] at this
    rw [hW0]; exact this)
  have HU := Lib.hid hq0
  have hqu : q0 < u := by omega
  go_wp2_with fail
  rw [← hW0, ← hq0, ← hu']
  clear hW0 hq0 hu'
  refine (wakes_any HC.out _).mono ?_
  rintro e w1 ⟨rfl, hb1⟩
  have HK1 : Hid (Blk w1 u 4 #[.bool false]) := Lib.hid (HK0.out.below hb1 HK0.out.lt)
  have HL1 : Hid (Blk w1 q0 28 #[.slice a n c]) := Lib.hid (HL0.out.below hb1 HL0.out.lt)
  have HB1 : Hid (Below q0 w w1) := Lib.hid (HB0.out.trans (hb1.mono (by have := HL0.out.lt; omega)))
  clear hb1 HK0 HB0 HL0
  have hu1 : u < w1.heap.size := HK1.out.lt
  have c1 : w1.cell? ⟨u, 0, none⟩ = some (.bool false) := by rw [HK1.out.cell]; rfl
  have f1 : w1.frozen? ⟨u, 0, none⟩ = false := HK1.out.frozen 0
  have cl1 : w1.cell? ⟨q0, 0, none⟩ = some (.slice a n c) := by rw [HL1.out.cell]; rfl
  rcases Nat.lt_or_ge 400 n with hbig | hbig
  · have hb : ¬ ((n : Int) ≤ 400) := by omega
    go_wp2
    have k9 : OnlyS (fun b => b = u) w1 (w1.setCell ⟨u, 0, none⟩ (.bool true)) := OnlyS.set (S := fun b => b = u) (OnlyS.refl (fun b => b = u) w1) (x := u) rfl (.bool true)
    have hk9 := blk_put HK1.out (.bool true)
    have hB10 := OnlyS.bel HB1.out k9 (fun b hb => by omega) (by have := (show u < w1.heap.size from HK1.out.lt); omega)
    refine Marks.leave (B := (u + 1)) [] _ trivial (fun W' hb => ?_)
    have c5 : W'.cell? ⟨u, 0, none⟩ = some (.bool true) := by rw [hb.cell (p := ⟨u, 0, none⟩) (show u < (u + 1) by omega), hk9.cell]; rfl
    refine ⟨.bool true, by simp [results, Try.f5, go_sem, c5], rfl, ?_⟩
    rw [← HU.out]
    exact hB10.trans (hb.mono (by omega))
  rcases Nat.lt_or_ge 400 m with hbig2 | hbig2
  · have hb : ¬ ((m : Int) ≤ 400) := by omega
    go_wp2
    have k9 : OnlyS (fun b => b = u) w1 (w1.setCell ⟨u, 0, none⟩ (.bool true)) := OnlyS.set (S := fun b => b = u) (OnlyS.refl (fun b => b = u) w1) (x := u) rfl (.bool true)
    have hk9 := blk_put HK1.out (.bool true)
    have hB10 := OnlyS.bel HB1.out k9 (fun b hb => by omega) (by have := (show u < w1.heap.size from HK1.out.lt); omega)
    refine Marks.leave (B := (u + 1)) [] _ trivial (fun W' hb => ?_)
    have c5 : W'.cell? ⟨u, 0, none⟩ = some (.bool true) := by rw [hb.cell (p := ⟨u, 0, none⟩) (show u < (u + 1) by omega), hk9.cell]; rfl
    refine ⟨.bool true, by simp [results, Try.f5, go_sem, c5], rfl, ?_⟩
    rw [← HU.out]
    exact hB10.trans (hb.mono (by omega))
  go_wp2_with fail
  refine (AtNt.new HC.out _).mono ?_
  rintro e w2 ⟨T, rfl, h2⟩
  have H2 := Lib.hid h2
  have HB3 : Hid (∀ {kd l} W, AtNt (Nb kd) w1 T l W → Below w.heap.size w W) := Lib.hid (fun W h => by
    have := HB1.out
    rw [HU.out] at this
    exact this.trans (h.bel.mono this.size))
  have HS3 : Hid (∀ {kd l} W, AtNt (Nb kd) w1 T l W → w.heap.size ≤ W.heap.size) := Lib.hid (fun W h => (HB3.out W h).size)
  have HSh : Hid (∀ k, Short LM (Piece.bytes (ps.take k))) := Lib.hid (fun k => short_take HR.out HPn.out k)
  have HFw : Hid (∀ k, (Piece.bytes (ps.take k)).length < 512) := Lib.hid (fun k => by have := HL.out; simp [Piece.bytes]; omega)
  have HUS := Lib.hid h2.bel.size
  have cl2 : w2.cell? ⟨q0, 0, none⟩ = some (.slice a n c) := (h2.bel.cell (p := ⟨q0, 0, none⟩) (show q0 < w1.heap.size by omega)).trans cl1
  clear h2
  go_wp2
  go_loopw [6, 7, 36] (fun _ _ j wr => ∃ (k : Nat), j = .int .i64 k ∧ k ≤ n ∧ AtNt (Nb k) w1 T (Piece.bytes (ps.take k)) wr) (fun _ _ j _ => n - (intOf j).toNat)
  case atStart => exact ⟨0, rfl, by omega, H2.out⟩
  case round =>
    clear cl2
    obtain ⟨k, rfl, hk, hat⟩ := hrel
    obtain ⟨w3, rfl⟩ : ∃ w3 : World, w3 = wr := ⟨_, rfl⟩
    have H3 := Lib.hid hat
    have hs3 := hat.bel.size
    clear hat
    by_cases hlt : k < n
    · obtain ⟨g, off, p, rfl, hpk, hpm, hgb, hx3⟩ := (HR.out.below (HB3.out w3 H3.out)).at_ hlt
      have HPr : Hid (Reads w3 w3.heap.size 1 p.a p.n (bts p.l)) := Lib.hid (((HR.out.2 p hpm).1.below (HB3.out w3 H3.out)).more (HS3.out w3 H3.out))
      have HPc : Hid (p.n ≤ p.c) := Lib.hid (HK.out p hpm).1
      have HPm := Lib.hid (HPn.out p hpm)
      have HSd := Lib.hid (H3.out.send HC.out (km (by omega)) (A := p.a) (n := p.n) (c := p.c) (HSh.out k) HPr.out HPc.out (Nat.le_trans HPm.out (by show _ ≤ 140737488355328; omega)) (HK.out p hpm).2)
      rw [decide_eq_true (HFw.out k)] at HSd
      have HNx := Lib.hid (bytes_next hpk)
      have HLk : Hid ((Piece.bytes (ps.take (k + 1))).length = k + 1) := Lib.hid (by have := HL.out; simp [Piece.bytes]; omega)
      clear hpk hpm
      go_wp2_with fail
      refine HSd.out.mono ?_
      rintro e w4 ⟨rfl, h4⟩
      rw [send_few (HFw.out k), ← HNx.out] at h4
      have H4 := Lib.hid h4
      have HLn := Lib.hid (h4.len HC.out)
      rw [HLk.out] at HLn
      clear h4
      go_wp2_with fail
      refine HLn.out.mono ?_
      rintro e w5 ⟨rfl, hb5⟩
      have H5 := Lib.hid (H4.out.next HC.out hb5)
      clear hb5
      go_wp2
      go_roundw
      case rel => exact ⟨k + 1, by go_num, by omega, H5.out⟩
      case measure => simp [intOf]; omega
    · obtain rfl : k = n := by omega
      rw [List.take_of_length_le (Nat.le_of_eq HL.out)] at H3
      have HBw := Lib.hid (HB3.out w3 H3.out)
      have hs4 : u < w3.heap.size := Nat.lt_of_lt_of_le hu1 hs3
      have HFb : Hid ((Piece.bytes ps).length = k) := Lib.hid (by rw [← HL.out]; simp [Piece.bytes])
      have hs5 : q0 < w3.heap.size := by omega
      have cl3 : w3.cell? ⟨q0, 0, none⟩ = some (.slice a k c) := (H3.out.bel.cell (p := ⟨q0, 0, none⟩) (show q0 < w1.heap.size by omega)).trans cl1
      go_wp2_with (first
        | (refine makeBl w3 rfl (.tmp 54) (.tmp 54) rfl .i64 .i64 _ _ k rfl rfl rfl rfl (by omega) ?_; intro w4 hbl hb4; have hg4 : w3.heap.size < w4.heap.size := Blk.lt hbl)
        | fail)
      obtain ⟨g, hg⟩ : ∃ g, g = w3.heap.size := ⟨_, rfl⟩
      obtain ⟨xl, hxl⟩ : ∃ xl, xl = w4.heap.size := ⟨_, rfl⟩
      obtain ⟨w5, hw5⟩ : ∃ w5, w5 = w4.alloc (.cells #[.slice (some ⟨w3.heap.size, 0, none⟩) k k] 45) := ⟨_, rfl⟩
      have hb5 : Below w4.heap.size w4 w5 := hw5 ▸ (Below.refl _ _).alloc (Nat.le_refl _) _
      obtain ⟨l, hl⟩ : ∃ l, l = Piece.bytes ps := ⟨_, rfl⟩
      rw [← hl] at H3 HFb
      have HL5 := Lib.hid hl
      have hgx : g < xl := by omega
      have HG5 : Hid (AtG (Nb k) w1 g xl T k l (List.replicate k false) w5) := Lib.hid (by
        refine AtG.of H3.out HC.out (hb4.trans (hb5.mono (Nat.le_of_lt hg4))) (by omega) (by omega) (by omega) ?_ ?_ (by simp)
        · have := Blk.below hbl hb5 hg4
          rw [hg]; exact this
        · rw [hw5, hxl, hg]; exact Blk.new w4 _ _)
      rw [← hw5, ← hg, ← hxl]
      have hug : u < g := by omega
      clear hg hxl hw5 hb5 hbl hb4 hg4 hl cl3 hs3 hs4 hs5
      go_loopw [9, 58] (fun _ j wr => ∃ (r : Nat) (bs : List Bool), j = .int .i64 r ∧ r ≤ k ∧ (∀ y, y < r → bs[y]? = some true) ∧ AtG (Nb k) w1 g xl T k l bs wr) (fun _ j _ => k - (intOf j).toNat)
      case atStart => exact ⟨0, _, rfl, by omega, fun y hy => by omega, HG5.out⟩
      case round =>
        obtain ⟨r, bs, rfl, hr, hbs, hat⟩ := hrel
        obtain ⟨w6, rfl⟩ : ∃ w6 : World, w6 = wr := ⟨_, rfl⟩
        have H6 := Lib.hid hat
        have HBs := Lib.hid hbs
        clear hat hbs
        by_cases hlt : r < k
        · have cx := H6.out.m.box.cell 0
          have fx := Blk.frozen H6.out.m.row r
          obtain ⟨b0, hb0⟩ : ∃ b0, bs[r]? = some b0 := by
            have := H6.out.m.len
            exact ⟨_, List.getElem?_eq_getElem (by omega)⟩
          have cg := H6.out.m.row.at_ hb0
          go_wp2
          go_roundw
          case rel =>
            refine ⟨r + 1, bs.set r true, by go_num, by omega, fun y hy => ?_, H6.out.set_ HC.out r true⟩
            have := H6.out.m.len
            rw [List.getElem?_set]
            by_cases e : r = y
            · subst e; rw [if_pos rfl, if_pos (by omega)]
            · rw [if_neg e]; exact HBs.out y (by omega)
          case measure => simp [intOf]; omega
        · obtain rfl : r = k := by omega
          have hall : bs = List.replicate r true := by
            have hl := H6.out.m.len
            apply List.ext_getElem (by simpa using hl)
            intro i h1 h2
            have := HBs.out i (by omega)
            rw [List.getElem?_eq_getElem h1] at this
            simpa using this
          have H7 : Hid (AtG (Nb r) w1 g xl T r (sel bs l) bs w6) := Lib.hid (by rw [hall, ← HFb.out, sel_all, HFb.out, ← hall]; exact H6.out)
          clear hall HBs HG5 H6
          have HBW : Hid (∀ {kd L bs} W, AtG (Nb kd) w1 g xl T r L bs W → Below w.heap.size w W) := Lib.hid (fun W h => by
            have := HB1.out
            rw [HU.out] at this
            exact this.trans (h.m.bel.mono this.size))
          have HShl : Hid (∀ bs, Short LM (sel bs l)) := Lib.hid (fun bs x hx => by
            have h1 := HSh.out r
            rw [List.take_of_length_le (Nat.le_of_eq HL.out), ← HL5.out] at h1
            exact h1 x (sel_mem x hx))
          have cx6 := H7.out.m.box.cell 0
          go_wp2
          go_loopw [11, 12, 13, 14, 15, 16, 17, 67] (fun _ _ _ _ _ _ _ j wr => ∃ (y : Nat) (bs : List Bool), j = .int .i64 y ∧ y ≤ m ∧ AtG (Nb r) w1 g xl T r (sel bs l) bs wr) (fun _ _ _ _ _ _ _ j _ => m - (intOf j).toNat)
          case atStart => exact ⟨0, bs, rfl, by omega, H7.out⟩
          case round =>
            clear cx6
            obtain ⟨y, bs, rfl, hy, hat⟩ := hrel
            obtain ⟨w7, rfl⟩ : ∃ w7 : World, w7 = wr := ⟨_, rfl⟩
            have H8 := Lib.hid hat
            clear hat
            by_cases hlt2 : y < m
            · obtain ⟨bb, ob, rfl, hbb, hcb⟩ := (HTr.out.below (HBW.out w7 H8.out)).i64 (by omega)
              have ct := hcb y hlt2
              obtain ⟨t, ht⟩ : ∃ t, t = ts.getD y 0 := ⟨_, rfl⟩
              rw [← ht] at ct
              have HTt : Hid (-9223372036854775808 ≤ t ∧ t ≤ 9223372036854775807) := Lib.hid (HTb.out t (by rw [ht, List.getD_eq_getElem?_getD, List.getElem?_eq_getElem (by have := HTl.out; omega)]; exact List.getElem_mem _))
              have cx := H8.out.m.box.cell 0
              clear hcb ht
              have ht1 := HTt.out.1
              have ht2 := HTt.out.2
              go_wp2
              go_loopw [12, 13, 14, 15, 73] (fun x z _ _ j wr => ∃ (q : Nat) (at_ kk : Int), j = .int .i64 q ∧ q ≤ r ∧ x = .int .i64 at_ ∧ z = .int .i64 kk ∧ Look bs t q at_ kk ∧ wr = w7) (fun _ _ _ _ j _ => r - (intOf j).toNat)
              case atStart => exact ⟨0, -1, 0, rfl, by omega, rfl, rfl, Look.start bs t, rfl⟩
              case round =>
                obtain ⟨q, at_, kk, rfl, hq, rfl, rfl, hlook, rfl⟩ := hrel
                obtain ⟨hk1, hk2, hk3, hk4⟩ := hlook.bounds
                rw [H8.out.m.len] at hk4
                have HLo := Lib.hid hlook
                clear hlook
                by_cases hlt3 : q < r
                · obtain ⟨b0, hb0⟩ : ∃ b0, bs[q]? = some b0 := by
                    have := H8.out.m.len
                    exact ⟨_, List.getElem?_eq_getElem (by omega)⟩
                  have cg := H8.out.m.row.at_ hb0
                  have HB0 := Lib.hid hb0
                  clear hb0
                  cases b0 with
                  | false =>
                    go_wp2
                    go_roundw
                    case rel => exact ⟨q + 1, at_, kk, by go_num, by omega, rfl, rfl, HLo.out.no HB0.out, trivial⟩
                    case measure => simp [intOf]; omega
                  | true =>
                    by_cases hat : at_ < 0
                    · by_cases hkt : kk = t
                      · go_wp2
                        go_roundw
                        case rel => exact ⟨q + 1, q, kk + 1, by go_num, by omega, rfl, by go_num, HLo.out.hit HB0.out hat hkt, trivial⟩
                        case measure => simp [intOf]; omega
                      · go_wp2
                        go_roundw
                        case rel => exact ⟨q + 1, at_, kk + 1, by go_num, by omega, rfl, by go_num, HLo.out.miss HB0.out hat hkt, trivial⟩
                        case measure => simp [intOf]; omega
                    · go_wp2
                      go_roundw
                      case rel => exact ⟨q + 1, at_, kk, by go_num, by omega, rfl, rfl, HLo.out.had (by omega), trivial⟩
                      case measure => simp [intOf]; omega
                · obtain rfl : q = r := by omega
                  have HDn := Lib.hid (Look.done (l := l) (by rw [H8.out.m.len, HFb.out]) (by rw [H8.out.m.len]; exact HLo.out))
                  have HTk := Lib.hid (H8.out.take HC.out t (HShl.out bs) ht1 ht2)
                  clear HLo
                  rcases HDn.out with ⟨hat, hin⟩ | ⟨aa, hat, hal, hin, hato, htk⟩
                  · have HIn := Lib.hid hin
                    rw [HIn.out] at HTk
                    have hat0 : ¬ (0 ≤ at_) := by omega
                    clear HDn hin
                    go_wp2_with fail
                    refine HTk.out.mono ?_
                    rintro e w8 ⟨A8, n8, c8, rfl, hr8, hl8, h8⟩
                    have H9 : Hid (AtG (Nb q) w1 g xl T q (sel bs l) bs w8) := Lib.hid (by have := h8; unfold takeN at this; rw [HIn.out] at this; exact this)
                    clear hr8 hl8 h8 HTk
                    go_wp2
                    go_roundw
                    case rel => exact ⟨y + 1, bs, by go_num, by omega, H9.out⟩
                    case measure => simp [intOf]; omega
                  · have HIn := Lib.hid hin
                    rw [HIn.out] at HTk
                    have hat0 : 0 ≤ at_ := by omega
                    obtain ⟨b2, off2, p2, ha2, hpk2, hpm2, hgb2, hx2⟩ := HR.out.at_ (show aa < q by have := HFb.out; omega)
                    have HPe : Hid (atN (sel bs l) t = p2.l) := Lib.hid (by rw [hato, HL5.out, List.getD_eq_getElem?_getD, bytes_get hpk2]; rfl)
                    rw [HPe.out] at HTk
                    have HP2 := Lib.hid (HR.out.2 p2 hpm2)
                    have HTk2 : Hid (takeN (sel bs l) t = sel (bs.set aa false) l) := Lib.hid htk
                    subst hat
                    subst ha2
                    have halq : aa < q := by have := HFb.out; omega
                    clear HDn hin hato htk hpk2 hpm2 hal
                    go_wp2_with fail
                    refine HTk.out.mono ?_
                    rintro e w8 ⟨A8, n8, c8, rfl, hr8, hl8, h8⟩
                    rw [HTk2.out] at h8
                    have H9 := Lib.hid h8
                    have HR8 := Lib.hid hr8
                    have HL8 := Lib.hid hl8
                    clear hr8 hl8 h8 HTk
                    have cl8 : w8.cell? ⟨q0, 0, none⟩ = some (.slice (some ⟨b2, off2, none⟩) q c) := (H9.out.m.bel.cell (p := ⟨q0, 0, none⟩) (show q0 < w1.heap.size by omega)).trans cl1
                    have cx8 := H9.out.m.box.cell 0
                    have hx8 := ((HBW.out w8 H9.out).cell (p := ⟨b2, off2 + aa, none⟩) (show b2 < w.heap.size from hgb2)).trans hx2
                    have HSm := Lib.hid (same_any A8 p2.a n8 c8 p2.n p2.c p2.l p2.l w8 _ _ HR8.out (HP2.out.1.below (HBW.out w8 H9.out)) (by have h1 := HL8.out; have h2 := HP2.out.1.1; have h3 := HP2.out.2; simp at h2; omega))
                    rw [decide_eq_true rfl] at HSm
                    clear hx2
                    go_wp2_with fail
                    refine HSm.out.mono ?_
                    rintro e w9 ⟨rfl, z, rfl⟩
                    have H10 : Hid (AtG (Nb q) w1 g xl T q (sel (bs.set aa false) l) bs (w8.drewN z)) := Lib.hid (H9.out.next HC.out (below_drewN (Below.refl _ _) z))
                    have cx10 := H10.out.m.box.cell 0
                    have fg10 := Blk.frozen H10.out.m.row aa
                    obtain ⟨b0, hb0⟩ : ∃ b0, bs[aa]? = some b0 := by
                      have := H10.out.m.len
                      exact ⟨_, List.getElem?_eq_getElem (by omega)⟩
                    have cg10 := H10.out.m.row.at_ hb0
                    clear hb0 cx8
                    go_wp2
                    go_roundw
                    case rel => exact ⟨y + 1, bs.set aa false, by go_num, by omega, H10.out.set_ HC.out aa false⟩
                    case measure => simp [intOf]; omega
            · obtain rfl : y = m := by omega
              obtain ⟨x8, hx8⟩ : ∃ x8, x8 = w7.heap.size := ⟨_, rfl⟩
              obtain ⟨W8, hW8⟩ : ∃ W8, W8 = w7.alloc (.cells #[.int .i64 0] 3) := ⟨_, rfl⟩
              have HKk8 : Hid (Blk W8 x8 3 #[.int .i64 0]) := Lib.hid (by rw [hW8, hx8]; exact Blk.new w7 _ _)
              have HB78 : Hid (Below x8 w7 W8) := Lib.hid (by rw [hW8, hx8]; exact (Below.refl _ _).alloc (Nat.le_refl _) _)
              have HAll := Lib.hid (H8.out.all HC.out (W' := W8) (HShl.out bs) (by have := HB78.out; rwa [hx8] at this))
              have hx8l : x8 < W8.heap.size := HKk8.out.lt
              have hxl8 : xl < x8 := by have := H8.out.m.box.lt; omega
              have hg8 : g < x8 := by have := Blk.lt H8.out.m.row; omega
              go_wp2_with fail
              rw [← hW8, ← hx8]
              have HX8 := Lib.hid hx8
              clear hW8 hx8
              refine HAll.out.mono ?_
              rintro e w9 ⟨v9, R, rfl, hseq, hb9, hR⟩
              have HB79 : Hid (Below x8 w7 w9) := Lib.hid (HB78.out.trans (hb9.mono (by omega)))
              have HKk9 : Hid (Blk w9 x8 3 #[.int .i64 0]) := Lib.hid (HKk8.out.below hb9 HKk8.out.lt)
              have HRx : Hid (¬ R x8) := Lib.hid (fun h => by have := HX8.out; rcases hR _ h with h1 | h1 <;> omega)
              have hx9 : x8 < w9.heap.size := HKk9.out.lt
              have SE9 := Lib.hid hseq
              have HLs : Hid ((sel bs l).length = cnt bs r) := Lib.hid (by rw [sel_length (by rw [H8.out.m.len, HFb.out]), H8.out.m.len])
              have HBl : Hid (bs.length = r) := Lib.hid H8.out.m.len
              clear hseq hb9 hR HAll HKk8 HB78
              obtain ⟨gf, pb, lb, hv9, en, hq1, hq2⟩ := SE9.out
              clear hq1 hq2
              subst hv9
              have EN := Lib.hid en
              clear en
              go_wp2
              obtain ⟨S, hS⟩ : ∃ S : Nat → Prop, S = fun b => b = x8 := ⟨_, rfl⟩
              have S1 : S x8 := by rw [hS]
              have HSe : Hid (∀ b, S b → b = x8) := Lib.hid (fun b h => by rw [hS] at h; exact h)
              clear hS
              refine (wpIn_wide (n := 9)).1 ?_
              refine' range_boundWS (α := NtX) (gf := gf) (pb := pb) (lb := lb) rfl EN.out (SE9.out.at_ _) (fun h k => h.trans k) (stay_b SE9.out.lt) (fun _ => rfl) OkN.put
                (fun pre W => (∃ i, i ≤ r ∧ cnt bs i = pre.length ∧ Blk W x8 3 #[.int .i64 (i : Nat)]) ∧ OnlyS S w9 W)
                (fun cc pre W => False)
                (Std.and (I := fun (pre : List NtX) W => ∃ i, i ≤ r ∧ cnt bs i = pre.length ∧ Blk W x8 3 #[.int .i64 (i : Nat)]) (fun s A B hs ht => by obtain ⟨i, h1, h2, h3⟩ := hs; exact ⟨i, h1, h2, h3.std ht (by omega)⟩) (std_onlyS w9 S))
                (fun cc => fun s A B hs ht => hs)
                ⟨⟨0, by omega, cnt_zero bs, HKk9.out⟩, OnlyS.refl _ _⟩
                _ ?assign ?body ?done ?stop
              case stop =>
                rintro D3 cc pre V hD3 hpre hF hK
                exact hF.elim
              case assign =>
                intro lp y V K hK
                gi_wp2
                exact hK
              case body =>
                rintro lp pre ⟨yat, yA, yn, yc, yp⟩ V hlp hrec ⟨⟨i, hir, hci, hbn⟩, hO⟩ ⟨B', hB', hok⟩
                obtain ⟨hqlt, hyat, hyp⟩ := hok.next
                rw [← hci] at hqlt hyat hyp
                obtain rfl : (cnt bs i) = yat := hyat.symm
                have HYp := Lib.hid hyp
                have HQl := Lib.hid hqlt
                have HCi := Lib.hid hci
                have HYr := Lib.hid (owr_reads hok.2.1)
                have HYl := Lib.hid (owr_len hok.2.1)
                have HOw := Lib.hid hok.2.1
                have HOs := Lib.hid hO
                have HBn := Lib.hid hbn
                clear hqlt hyat hyp hci hok hO hbn
                gi_wp2
                gi_loopw [121] (fun _ wr => ∃ j, i ≤ j ∧ j ≤ r ∧ cnt bs j = cnt bs i ∧ Blk wr x8 3 #[.int .i64 (j : Nat)] ∧ OnlyS S V wr) (fun _ wr => r - (intOf ((wr.cell? ⟨x8, 0, none⟩).getD undef)).toNat)
                case atStart => exact ⟨i, by omega, hir, rfl, HBn.out, OnlyS.refl _ _⟩
                case round =>
                  obtain ⟨j, hij, hjr, hcj, hbn, hO⟩ := hrel
                  obtain ⟨w10, rfl⟩ : ∃ w10 : World, w10 = wr := ⟨_, rfl⟩
                  have HBV : Hid (Below x8 w7 w10) := Lib.hid (OnlyS.bel HB79.out (onlyS_trans HOs.out hO) (fun b hb => by have := HSe.out b hb; omega) (by omega))
                  have HM := Lib.hid (H8.out.m.box.below HBV.out hxl8)
                  have HG := Lib.hid (Blk.below H8.out.m.row HBV.out hg8)
                  have HBn1 := Lib.hid hbn
                  have HO1 := Lib.hid hO
                  have HCj := Lib.hid hcj
                  have cn : w10.cell? ⟨x8, 0, none⟩ = some (.int .i64 (j : Int)) := by rw [hbn.cell]; rfl
                  have fn : w10.frozen? ⟨x8, 0, none⟩ = false := hbn.frozen 0
                  have cx : w10.cell? ⟨xl, 0, none⟩ = some (.slice (some ⟨g, 0, none⟩) r r) := by rw [HM.out.cell]; rfl
                  clear hbn hO hcj
                  have hjr2 : j < r := by
                    have h1 := HQl.out
                    rw [HLs.out, ← HCj.out] at h1
                    rcases Nat.lt_or_ge j r with h | h
                    · exact h
                    · obtain rfl : j = r := by omega
                      omega
                  obtain ⟨b0, hb0⟩ : ∃ b0, bs[j]? = some b0 := ⟨_, List.getElem?_eq_getElem (by have := HBl.out; omega)⟩
                  have cg : w10.cell? ⟨g, j, none⟩ = some (.bool b0) := BlkB.at_ HG.out hb0
                  have HB0 := Lib.hid hb0
                  clear hb0
                  cases b0 with
                  | false =>
                    gi_wp2
                    go_roundw
                    case rel =>
                      refine ⟨j + 1, by omega, by omega, by rw [cnt_succ HB0.out]; simpa using HCj.out, ?_, HO1.out.set S1 _⟩
                      have := blk_put HBn1.out (.int .i64 ((j : Int) + 1))
                      exact this
                    case measure => 
                      have h1 := blk_put HBn1.out (.int .i64 ((j : Int) + 1))
                      rw [h1.cell, cn]
                      simp [intOf]; omega
                  | true =>
                    obtain ⟨b3, off3, p3, ha3, hpk3, hpm3, hgb3, hx3⟩ := HR.out.at_ hjr2
                    subst ha3
                    have hbw := (HBW.out w7 H8.out).trans (HBV.out.mono (by have := (HBW.out w7 H8.out).size; have := HX8.out; omega))
                    have HBw3 := Lib.hid hbw
                    have hx10 := (hbw.cell (p := ⟨b3, off3 + j, none⟩) (show b3 < w.heap.size from hgb3)).trans hx3
                    have cl10 : w10.cell? ⟨q0, 0, none⟩ = some (.slice (some ⟨b3, off3, none⟩) r c) := (HBV.out.cell (p := ⟨q0, 0, none⟩) (show q0 < x8 by omega)).trans ((H8.out.m.bel.cell (p := ⟨q0, 0, none⟩) (show q0 < w1.heap.size by omega)).trans cl1)
                    have HPe : Hid (yp = p3.l) := Lib.hid (by
                      have h1 := HYp.out
                      rw [← HCj.out, sel_get (by rw [HBl.out, HFb.out]) HB0.out, HL5.out, bytes_get hpk3] at h1
                      injection h1 with h1
                      exact h1.symm)
                    have HP3 := Lib.hid (HR.out.2 p3 hpm3)
                    have HY10 : Hid (Reads w10 w10.heap.size 1 yA yn (bts yp)) := Lib.hid (owr_reads (HOw.out.stay (fun gg e => HO1.out.block gg (owr_ltP HOw.out gg e) (fun hs => by have h1 := HSe.out _ hs; have h2 := owr_base HOw.out gg e; omega))))
                    have HSm := Lib.hid (same_any yA p3.a yn yc p3.n p3.c yp p3.l w10 _ _ HY10.out (HP3.out.1.below HBw3.out) (by have h1 : yp.length = yn := HYl.out.1; have h2 : p3.l.length = p3.n := (by simpa using HP3.out.1.1); have h3 : p3.n ≤ 4611686018427387904 := HP3.out.2; rw [HPe.out] at h1; omega))
                    rw [decide_eq_true HPe.out] at HSm
                    clear hbw hx3 hpk3 hpm3
                    gi_wp2_with (refine ⟨trivial, ?_⟩; refine (CallsIn.inRound lp (callsIn_wide.2 HSm.out)).mono ?_; rintro e V1 ⟨rfl, z, hz⟩; have cn1 : V1.cell? ⟨x8, 0, none⟩ = some (.int .i64 (j : Int)) := hz ▸ cn; have fn1 : V1.frozen? ⟨x8, 0, none⟩ = false := hz ▸ fn; have HZ := Lib.hid hz; clear hz)
                    have HO2 : Hid (OnlyS S V (V1.setCell ⟨x8, 0, none⟩ (.int .i64 ((j : Int) + 1)))) := Lib.hid ((HZ.out ▸ HO1.out.drewN z).set S1 _)
                    refine ⟨onlyS_keeps HO2.out (fun k hk => by have := HSe.out k hk; omega), HO2.out.stay (fun b hb => ⟨Nat.lt_of_lt_of_le (SE9.out.lt b hb) HOs.out.size, fun hs => by have h1 := HSe.out b hs; subst h1; exact HRx.out hb⟩), ⟨j + 1, by omega, ?_, ?_⟩, onlyS_trans HOs.out HO2.out⟩
                    · rw [List.length_append, ← HCi.out, cnt_succ HB0.out, HCj.out]; rfl
                    · have h1 : Blk V1 x8 3 #[.int .i64 (j : Int)] := HZ.out ▸ HBn1.out
                      exact blk_put h1 (.int .i64 ((j : Int) + 1))
              case done =>
                rintro D3 ys V hD3 hys ⟨⟨i, hir, hci, hbn⟩, hO⟩ hK
                have hcr : cnt bs i = cnt bs r := by
                  have h1 := congrArg List.length hys
                  simp at h1
                  rw [hci, h1, HLs.out]
                have HCr := Lib.hid hcr
                have HMk : Hid (Marks w9.heap.size ({ target := .collected D3, args := #[] } :: []) V) := Lib.hid (Marks.cons (ds := []) trivial (fun d hd => by cases hd) hD3 hK)
                have HOs := Lib.hid hO
                have HBn := Lib.hid hbn
                have HBn0 : Hid (Blk V x8 3 #[.int .i64 (i : Nat)]) := HBn
                clear hcr hci hys hK hO hbn
                go_wp2
                go_loopw [149] (fun _ wr => ∃ j, j ≤ r ∧ cnt bs j = cnt bs r ∧ Blk wr x8 3 #[.int .i64 (j : Nat)] ∧ OnlyS S V wr) (fun _ wr => r - (intOf ((wr.cell? ⟨x8, 0, none⟩).getD undef)).toNat)
                case atStart => exact ⟨i, hir, HCr.out, HBn.out, OnlyS.refl _ _⟩
                case round =>
                  obtain ⟨j, hjr, hcj, hbn, hO⟩ := hrel
                  obtain ⟨w10, rfl⟩ : ∃ w10 : World, w10 = wr := ⟨_, rfl⟩
                  have HBV : Hid (Below x8 w7 w10) := Lib.hid (OnlyS.bel HB79.out (onlyS_trans HOs.out hO) (fun b hb => by have := HSe.out b hb; omega) (by omega))
                  have HM := Lib.hid (H8.out.m.box.below HBV.out hxl8)
                  have HG := Lib.hid (Blk.below H8.out.m.row HBV.out hg8)
                  have HBn1 := Lib.hid hbn
                  have HO1 := Lib.hid hO
                  have HCj := Lib.hid hcj
                  have cn : w10.cell? ⟨x8, 0, none⟩ = some (.int .i64 (j : Int)) := by rw [hbn.cell]; rfl
                  have fn : w10.frozen? ⟨x8, 0, none⟩ = false := hbn.frozen 0
                  have cx : w10.cell? ⟨xl, 0, none⟩ = some (.slice (some ⟨g, 0, none⟩) r r) := by rw [HM.out.cell]; rfl
                  clear hbn hO hcj
                  by_cases hjr2 : j < r
                  · obtain ⟨b0, hb0⟩ : ∃ b0, bs[j]? = some b0 := ⟨_, List.getElem?_eq_getElem (by have := HBl.out; omega)⟩
                    cases b0 with
                    | true =>
                      have h1 := cnt_succ hb0
                      have h2 := cnt_mono bs (show j + 1 ≤ r by omega)
                      have h3 := HCj.out
                      simp at h1
                      omega
                    | false =>
                      have cg : w10.cell? ⟨g, j, none⟩ = some (.bool false) := BlkB.at_ HG.out hb0
                      have HB0 := Lib.hid hb0
                      clear hb0
                      go_wp2
                      go_roundw
                      case rel =>
                        refine ⟨j + 1, by omega, by rw [cnt_succ HB0.out]; simpa using HCj.out, ?_, HO1.out.set S1 _⟩
                        exact blk_put HBn1.out (.int .i64 ((j : Int) + 1))
                      case measure =>
                        have h1 := blk_put HBn1.out (.int .i64 ((j : Int) + 1))
                        rw [h1.cell, cn]
                        simp [intOf]; omega
                  · obtain rfl : j = r := by omega
                    have HK7 := Lib.hid (HK1.out.below H8.out.m.bel hu1)
                    have HK10 := Lib.hid (HK7.out.below HBV.out (show u < x8 by omega))
                    have cu10 : w10.cell? ⟨u, 0, none⟩ = some (.bool false) := by rw [HK10.out.cell]; rfl
                    have fu10 : w10.frozen? ⟨u, 0, none⟩ = false := HK10.out.frozen 0
                    have HBq : Hid (Below q0 w w10) := Lib.hid ((HB1.out.trans (H8.out.m.bel.mono (by omega))).trans (HBV.out.mono (by omega)))
                    have HMk1 := Lib.hid (OnlyS.marks HMk.out HO1.out (fun b hb => by rw [HSe.out b hb]; exact ⟨_, _, HBn0.out⟩))
                    go_wp2
                    have k9 : OnlyS (fun b => b = u) w10 (w10.setCell ⟨u, 0, none⟩ (.bool true)) := OnlyS.set (S := fun b => b = u) (OnlyS.refl (fun b => b = u) w10) (x := u) rfl (.bool true)
                    have hk9 := blk_put HK10.out (.bool true)
                    have hB10 := OnlyS.bel HBq.out k9 (fun b hb => by omega) (by have := (show u < w10.heap.size from HK10.out.lt); omega)
                    refine Marks.leave (B := w9.heap.size) _ _ (OnlyS.marks HMk1.out k9 (fun b hb => ⟨_, _, (show Blk w10 b 4 #[.bool false] by rw [hb]; exact HK10.out)⟩)) (fun W' hb => ?_)
                    have c5 : W'.cell? ⟨u, 0, none⟩ = some (.bool true) := by rw [hb.cell (p := ⟨u, 0, none⟩) (show u < w9.heap.size by omega), hk9.cell]; rfl
                    refine ⟨.bool true, by simp [results, Try.f5, go_sem, c5], rfl, ?_⟩
                    rw [← HU.out]
                    exact hB10.trans (hb.mono (by omega))
end Go.Proofs.Ytcjfammfplcigaa.Pk
