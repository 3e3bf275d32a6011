/- The walk of the law TreeKeeps. -/
import Derived.Test.YtadfcinfnbfefaaTrRange
import Derived.Test.YtadfcinfnbfefaaGrNbs
import Derived.Test.YtadfcinfnbfefaaGrWalk2
import Derived.Test.YtadfcinfnbfefaaSameN
import Derived.Test.YtadfcinfnbfefaaArgN
namespace Go.Proofs.Ytadfcinfnbfefaa.Pk
open Go.RowKit Go.Shelf Go.Proofs.Ytadfcinfnbfefaa.Gr Go.Proofs.Ytadfcinfnbfefaa.Ar
set_option linter.unusedVariables false

theorem Reads.takeN {w : World} {B : Nat} {A : Option Addr} {n k : Nat} {l : List Int} (h : Reads w B 1 A n (nms l)) (hk : k ≤ n) : Reads w B 1 A k (nms (l.take k)) := by
  have hl : l.length = n := by have := h.1; simp at this; exact this
  refine ⟨by simp; omega, fun h0 => ?_⟩
  obtain ⟨ad, e, hb, hc⟩ := h.2 (by omega)
  refine ⟨ad, e, hb, fun j u hj => hc j u ?_⟩
  unfold nms at *
  rw [List.map_take, List.getElem?_take] at hj
  split at hj
  · exact hj
  · cases hj
/-- One number of one's own is turned. -/
theorem OwnN.set_ {w : World} {B g n c : Nat} {l : List Int} (h : OwnN w B (.slice (some ⟨g, 0, none⟩) n c) l) (i : Nat) (x : Int) : OwnN (w.setCell ⟨g, i, none⟩ (.int .i64 x)) B (.slice (some ⟨g, 0, none⟩) n c) (l.set i x) := by
  obtain ⟨h1, ⟨e, _⟩ | ⟨g', cap, cur, e, hb, hh, h3, h4, h5, h6⟩⟩ := h
  · cases e
  · simp only [Value.slice.injEq, Option.some.injEq, Addr.mk.injEq] at e
    obtain ⟨⟨rfl, _⟩, rfl, rfl⟩ := e
    have hk : Blk (w.setCell ⟨g, i, none⟩ (.int .i64 x)) g 3 (cur.setIfInBounds i (.int .i64 x)) := Blk.set_ hh i _
    refine ⟨by simp [nms], .inr ⟨g, c, _, by simp, hb, hk, by simpa using h3, h4, by simpa using h5, ?_⟩⟩
    rw [Array.toList_setIfInBounds, List.length_set, List.take_set, h6]
    simp [nms]
theorem OwnN.at_ {w : World} {B g n c : Nat} {l : List Int} (h : OwnN w B (.slice (some ⟨g, 0, none⟩) n c) l) : n = l.length ∧ B ≤ g ∧ g < w.heap.size ∧ (∀ i, i < n → w.cell? ⟨g, i, none⟩ = some (.int .i64 (l.getD i 0))) ∧ ∀ i, w.frozen? ⟨g, i, none⟩ = false := by
  have hlt := ownN_lt h g rfl
  have hbs := ownN_base h g rfl
  obtain ⟨A, c', e, hc, hr⟩ := h.reads
  obtain ⟨h1, ⟨e', _⟩ | ⟨g', cap, cur, e', hb, hh, h3, h4, h5, h6⟩⟩ := h
  · cases e'
  · simp only [Value.slice.injEq, Option.some.injEq, Addr.mk.injEq] at e e'
    obtain ⟨⟨rfl, _⟩, rfl, rfl⟩ := e'
    obtain ⟨rfl, hn, rfl⟩ := e
    refine ⟨hn, hbs, hlt, fun i hi => ?_, fun i => Blk.frozen (t := 3) (cs := cur) hh i⟩
    obtain ⟨b, off, eb, _, hcell⟩ := hr.i64 (by omega)
    simp only [Option.some.injEq, Addr.mk.injEq] at eb
    obtain ⟨rfl, rfl, _⟩ := eb
    have := hcell i (by omega)
    simpa using this

theorem OwnN.some_ {w : World} {B : Nat} {v : Value} {l : List Int} (h : OwnN w B v l) (hl : 0 < l.length) : ∃ g c, v = .slice (some ⟨g, 0, none⟩) l.length c ∧ l.length ≤ c := by
  obtain ⟨h1, ⟨e, h0⟩ | ⟨g, cap, cur, e, hb, hh, h3, _⟩⟩ := h
  · omega
  · exact ⟨g, cap, e, h3⟩
set_option maxRecDepth 100000 in
set_option maxHeartbeats 8000000 in
theorem law_TreeKeeps (a : Option Addr) (n c : Nat) (l : List Int) (x : Int) (w : World) (h : ArgN w a n c l) (hx : -9223372036854775808 ≤ x ∧ x ≤ 9223372036854775807) :
    Calls Try.prog 8 #[.slice a n c, .int .i64 x] w fun e w' => e = .returned (.bool true) ∧ Below w.heap.size w w' := by
  obtain ⟨hr, hnc, hc8, _⟩ := h
  have hbig : n ≤ 4611686018427387904 := by omega
  have HR := Lib.hid hr
  have HL := Lib.hid hr.plen
  clear hr hx
  go_enter Try.func8, Try.ntmps8
  go_wp2_with fail
  refine (wakes_any w).mono ?_
  rintro e w1 ⟨rfl, hb1⟩
  have HB1 := Lib.hid hb1
  have HR1 := Lib.hid (HR.out.below hb1)
  have hs1 := hb1.size
  clear hb1
  go_wp2_with (first
    | (at_builtin; refine appNE w1 rfl (.tmp 17) (.tmp 18) rfl rfl w.heap.size a c l n rfl HR1.out hs1 (by omega) ?_; intro v2 w2 hown2 hb2; have HO2 := Lib.hid hown2; have HB2 := Lib.hid hb2; clear hown2 hb2)
    | (at_builtin; refine appN w2 71 _ rfl (.tmp 19) (.tmp 20) rfl w1.heap.size _ l rfl HO2.out w2.heap.size rfl rfl (by rw [HL.out]; omega) HB2.out.size ?_; intro v3 w3 hown3 hb3 _; obtain ⟨g3, c3, rfl, hc3⟩ := hown3.some_ (by simp); have e1 : (l ++ [71]).length = n + 1 := by { simp [HL.out] }; rw [e1] at hc3 hown3 ⊢; clear e1; have HO3 := Lib.hid hown3; have HB3 := Lib.hid (HB2.out.trans hb3); have hci : (n : Int) ≤ (c3 : Int) := by { omega }; have hc0 : ¬ c3 = 0 := by { omega }; have hcn : n ≤ c3 := by { omega }; clear hown3 hb3))
  try rw [HL.out]
  have ha3 := HO3.out.at_
  obtain ⟨hx0, hg3, hg3lt, hcell3, hfr3⟩ := ha3
  clear hx0
  have HC3 := Lib.hid hcell3
  have HP3 : Hid (Reads w3 w3.heap.size 1 (some ⟨g3, 0, none⟩) n (nms l)) := Lib.hid (by
    obtain ⟨A, c', e, _, hr3⟩ := HO3.out.reads
    simp only [Value.slice.injEq] at e
    obtain ⟨e1, e2, e3⟩ := e
    rw [← e1, ← e2] at hr3
    have := hr3.takeN (k := n) (by omega)
    rwa [List.take_append_of_le_length (by rw [HL.out]; omega), List.take_of_length_le (by rw [HL.out]; omega)] at this)
  have HR3 := Lib.hid (HR1.out.below (HB3.out.mono hs1))
  have hs3 : w1.heap.size ≤ w3.heap.size := HB3.out.size
  clear hcell3 hfr3
  refine (new_any (some ⟨g3, 0, none⟩) n c3 l w3 _ HP3.out (Nat.le_refl _) hbig).mono ?_
  rintro e w4 ⟨hb4, hcase⟩
  have HB4 := Lib.hid hb4
  have HP4 := Lib.hid (HP3.out.below hb4)
  have HR4 := Lib.hid (HR3.out.below (hb4.mono (by omega)))
  have HO4 := Lib.hid (HO3.out.below hb4)
  have hs4 : w3.heap.size ≤ w4.heap.size := hb4.size
  have c71 : w4.cell? ⟨g3, n, none⟩ = some (.int .i64 71) := by
    rw [HO4.out.at_.2.2.2.1 n (by omega)]
    simp [List.getD, HL.out]
  have hn1 : n < n + 1 := by omega
  have hn2 : (n : Int) < (n : Int) + 1 := by omega
  have HS4 := Lib.hid (same_refl (some ⟨g3, 0, none⟩) a n c3 n c l w4 _ _ HP4.out HR4.out (by omega))
  clear hb4
  rcases hcase with ⟨T, g, rfl, hck, ht, hT, hg, hTg⟩ | ⟨p, er, rfl, hck, hne⟩
  case inr =>
    have t1 : (er != 0) = true := by simp [hne]
    clear hck hne
    go_wp2_with (go_at_call 20; refine HS4.out.mono ?_; rintro e w5 ⟨rfl, k5, rfl⟩; have c71' : (w4.drewN k5).cell? ⟨g3, n, none⟩ = some (.int .i64 71) := c71)
    go_ret
    exact ⟨rfl, bel_dn (HB1.out.trans ((HB3.out.trans (HB4.out.mono hs3)).mono hs1)) k5⟩
  obtain ⟨G, _⟩ := hck.good
  have HT4 := Lib.hid ht
  clear hck ht
  go_wp2_with (go_at_call 20; refine HS4.out.mono ?_; rintro e w5 ⟨rfl, k5, rfl⟩; have c71' : (w4.drewN k5).cell? ⟨g3, n, none⟩ = some (.int .i64 71) := c71)
  have HB5 := Lib.hid (bel_dn HB4.out k5)
  have HO5 := Lib.hid (HO4.out.drewN k5)
  have HR5 := Lib.hid (HR4.out.drewN k5)
  have HT5 := Lib.hid (HT4.out.drewN k5)
  have hs5 : w3.heap.size ≤ (w4.drewN k5).heap.size := hs4
  have hTl := HT4.out.lt T (.inl rfl)
  have hgl := HT4.out.lt g (.inr rfl)
  have hTl5 : T < (w4.drewN k5).heap.size := hTl
  have hgl5 : g < (w4.drewN k5).heap.size := hgl
  obtain ⟨w5, hw5⟩ : ∃ w5, w5 = w4.drewN k5 := ⟨_, rfl⟩
  rw [← hw5] at HB5 HO5 HR5 HT5 hs5 hTl5 hgl5 ⊢
  clear hw5 c71 c71' HS4 HO4 HR4 HP4 HP3 HC3 HR3
  go_loopw [51] (fun j wr => ∃ (i : Nat) (L : List Int), j = .int .i64 i ∧ i ≤ n + 1 ∧ OwnN wr w1.heap.size (.slice (some ⟨g3, 0, none⟩) (n + 1) c3) L ∧ Only w5 wr g3) (fun j _ => n + 1 - (intOf j).toNat)
  case atStart => exact ⟨0, _, rfl, by omega, HO5.out, Only.refl _ _⟩
  case round =>
    obtain ⟨i, L, rfl, hi, hown, hO⟩ := hrel
    obtain ⟨w6, rfl⟩ : ∃ w6 : World, w6 = wr := ⟨_, rfl⟩
    have HO6 := Lib.hid hown
    have HOn := Lib.hid hO
    clear hown hO
    by_cases hlt : i < n + 1
    · obtain ⟨_, _, _, hc6, hf6⟩ := HO6.out.at_
      have ci := hc6 i hlt
      have fi := hf6 i
      have hi1 : (i : Int) < (n : Int) + 1 := by omega
      clear hc6 hf6
      go_wp2
      go_roundw
      case rel => exact ⟨i + 1, _, by go_num, by omega, HO6.out.set_ i 5, HOn.out.set i _⟩
      case measure => simp [intOf]; omega
    · have HT6 := Lib.hid (HOn.out.tr HT5.out (fun b hb => by rcases hb with rfl | rfl <;> omega))
      have hs6 := HOn.out.size
      have HB6 := Lib.hid (Only.below (HB3.out.trans (HB5.out.mono hs3)) HOn.out hg3 (by omega))
      have HR6 := Lib.hid (HR1.out.below (HB6.out.mono hs1))
      have hi1 : ¬ (i : Int) < (n : Int) + 1 := by omega
      have hi2 : i = n + 1 := by omega
      subst hi2
      have HX6 := Lib.hid (nbrs_any T g l x w6 HT6.out G.few)
      have hkl : (nbsI l x).length ≤ 32 := by
        have h1 := G.few
        unfold nbsI
        split
        · have := nbs_len l x.toNat l.length; omega
        · simp
      obtain ⟨k, hk⟩ : ∃ k, k = nbsI l x := ⟨_, rfl⟩
      rw [← hk] at HX6 hkl
      have HKq := Lib.hid hk
      clear hk hi1 hlt
      go_wp2_with fail
      refine HX6.out.mono ?_
      rintro e w7 ⟨va, rfl, howna, hb7⟩
      obtain ⟨Aa, ca, rfl, hca, _⟩ := howna.reads
      have HA7 := Lib.hid howna
      have HB7 := Lib.hid (HB6.out.trans (hb7.mono (by omega)))
      have HT7 := Lib.hid (HT6.out.below_ hb7)
      have HR7 := Lib.hid (HR6.out.below (hb7.mono (by omega)))
      have hs7 : w6.heap.size ≤ w7.heap.size := hb7.size
      have HX7 := Lib.hid (nbrs_any T g l x w7 HT7.out G.few)
      rw [← HKq.out] at HX7
      clear howna hb7
      go_wp2_with fail
      refine HX7.out.mono ?_
      rintro e w8 ⟨vb, rfl, hownb, hb8⟩
      obtain ⟨Ab, cb, rfl, hcb, _⟩ := hownb.reads
      have HA8 := Lib.hid (HA7.out.below hb8)
      have HBn := Lib.hid hownb
      have HB8 := Lib.hid (HB7.out.trans (hb8.mono (by omega)))
      have HT8 := Lib.hid (HT7.out.below_ hb8)
      have hs8 : w7.heap.size ≤ w8.heap.size := hb8.size
      have HD8 : Hid (∀ q, (Value.slice Ab k.length cb).ownBlock = some q → some q ≠ (Value.slice Aa k.length ca).ownBlock) := Lib.hid (fun q hq e => by
        have h1 := ownN_base HBn.out q hq
        have h2 := ownN_lt HA7.out q e.symm
        omega)
      clear hownb hb8
      go_wp2
      go_loopw [66] (fun j wr => ∃ (i : Nat) (L : List Int), j = .int .i64 i ∧ i ≤ k.length ∧ L.length = k.length ∧ OwnN wr w6.heap.size (.slice Aa k.length ca) L ∧ w8.grownBy wr (Value.slice Aa k.length ca).ownBlock) (fun j _ => k.length - (intOf j).toNat)
      case atStart => exact ⟨0, k, rfl, by omega, rfl, HA8.out, World.grownBy.refl _ _⟩
      case round =>
        obtain ⟨i, L, rfl, hi, hLk, hown, hO⟩ := hrel
        obtain ⟨w9, rfl⟩ : ∃ w9 : World, w9 = wr := ⟨_, rfl⟩
        have HO9 := Lib.hid hown
        have HG9 := Lib.hid hO
        have HLk := Lib.hid hLk
        clear hown hO hLk
        by_cases hlt : i < k.length
        · obtain ⟨ga, ca', e0, _⟩ := HO9.out.some_ (by rw [HLk.out]; omega)
          have eA : Aa = some ⟨ga, 0, none⟩ := by
            simp only [Value.slice.injEq] at e0
            exact e0.1
          subst eA
          clear e0
          obtain ⟨hx0, hx1, hx2, hc9, hf9⟩ := HO9.out.at_
          have ci := hc9 i hlt
          have fi := hf9 i
          clear hc9 hf9 hx0 hx1 hx2
          go_wp2
          go_roundw
          case rel => exact ⟨i + 1, _, by go_num, by omega, by rw [List.length_set, HLk.out], HO9.out.set_ i (-9), HG9.out.trans (Only.set (Only.refl _ ga) i _)⟩
          case measure => simp [intOf]; omega
        · have hAb : ∀ q, (Value.slice Aa k.length ca).ownBlock = some q → w6.heap.size ≤ q := ownN_base HA8.out
          have HB9 := Lib.hid (HB8.out.grown HG9.out (by omega) (fun q hq => by have := hAb q hq; omega))
          have HN9 := Lib.hid (HBn.out.grown HG9.out HD8.out)
          have HT9 := Lib.hid (HT8.out.stay ⟨HG9.out.size, fun b hb => HG9.out.block b (HT8.out.lt b hb) (fun e => by have := hAb b e.symm; rcases hb with rfl | rfl <;> omega)⟩)
          have hs9 := HG9.out.size
          have hi2 : i = k.length := by omega
          subst hi2
          clear hAb hlt
          go_wp2
          go_loopw [12, 13] (fun v j wr => ∃ (i : Nat) (M : List Int), j = .int .i64 i ∧ i ≤ 20 ∧ M.length = k.length + i ∧ OwnN wr w6.heap.size v M ∧ OwnN wr w7.heap.size (.slice Ab k.length cb) k ∧ IsTr wr T g l ∧ Below w1.heap.size w1 wr ∧ (∀ q, (Value.slice Ab k.length cb).ownBlock = some q → some q ≠ v.ownBlock) ∧ w9.heap.size ≤ wr.heap.size) (fun _ j _ => 20 - (intOf j).toNat)
          case atStart => exact ⟨0, L, rfl, by omega, by rw [HLk.out]; rfl, HO9.out, HN9.out, HT9.out, HB9.out, HD8.out, Nat.le_refl _⟩
          case round =>
            obtain ⟨i, M, rfl, hi, hM, hown, hbn, ht, hb, hd, hsz⟩ := hrel
            obtain ⟨w10, rfl⟩ : ∃ w10 : World, w10 = wr := ⟨_, rfl⟩
            have HO10 := Lib.hid hown
            have HN10 := Lib.hid hbn
            have HT10 := Lib.hid ht
            have HB10 := Lib.hid hb
            have HD10 := Lib.hid hd
            have HM := Lib.hid hM
            clear hown hbn ht hb hd hM
            by_cases hlt : i < 20
            · go_wp2_with (at_builtin; refine appNs _ rfl (.tmp 78) (.tmp 79) rfl w6.heap.size _ M rfl (HO10.out.alloc _) (w10.heap.size + 1) (some ⟨w10.heap.size, 0, none⟩) 1 [-8] 1 rfl (reads_new w10 _ _ _ 1 _ rfl rfl (Nat.lt_succ_self _)) (by have := HM.out; omega) (by simp; omega) ?_; intro v11 w11 hown11 hb11 hat11 hg11; have HO11 := Lib.hid hown11; have HG11 := Lib.hid hg11; have HA11 := Lib.hid hat11; have hs11 := hg11.size; clear hown11 hb11 hat11 hg11)
              have hs11' : w10.heap.size + 1 ≤ w11.heap.size := by simpa using hs11
              clear hs11
              have hAb : ∀ q, _ = some q → w6.heap.size ≤ q := ownN_base HO10.out
              go_roundw
              case rel => exact ⟨i + 1, _, by go_num, by omega, by rw [List.length_append, HM.out]; rfl, HO11.out, (HN10.out.alloc _).grown HG11.out HD10.out,
                (HT10.out.alloc _).stay ⟨HG11.out.size, fun b hb => HG11.out.block b ((HT10.out.alloc _).lt b hb) (fun e => by have := hAb b e.symm; rcases hb with rfl | rfl <;> omega)⟩,
                (HB10.out.alloc (by omega) _).grown HG11.out (by simp; omega) (fun q hq => by have := hAb q hq; omega),
                fun q hq => by
                  rcases HA11.out with h | h
                  · rw [h]; exact HD10.out q hq
                  · rw [h]
                    have := ownN_lt HN10.out q hq
                    simp; omega, by omega⟩
              case measure => simp [intOf]; omega
            · have hi2 : i = 20 := by omega
              subst hi2
              obtain ⟨AL, cL, rfl, hcL, _⟩ := HO10.out.reads
              have HR10 := Lib.hid (HR1.out.below (HB10.out.mono hs1))
              rw [HM.out] at hcL ⊢
              clear hlt
              go_wp2_with fail
              refine (nbs_any a n c l x w10 _ HR10.out (by omega) (by have h1 := G.few; have h2 := HL.out; omega)).mono ?_
              rintro e w11 ⟨v11, rfl, hown11, hb11⟩
              rw [← HKq.out] at hown11
              obtain ⟨A11, c11, rfl, hc11, hr11⟩ := hown11.reads
              obtain ⟨Ab', cb', eb, _, hrb⟩ := (HN10.out.below hb11).reads
              obtain ⟨rfl, rfl⟩ : Ab = Ab' ∧ cb = cb' := by injection eb with h1 h2 h3; exact ⟨h1, h3⟩
              have HT11 := Lib.hid (HT10.out.below_ hb11)
              have HB11 := Lib.hid (HB10.out.trans (hb11.mono (by omega)))
              have HO11 := Lib.hid hown11
              have HS11 := Lib.hid (same_refl Ab A11 k.length cb k.length c11 k w11 _ _ hrb hr11 (by omega))
              have hs11 := hb11.size
              clear hown11 hb11 hr11 hrb eb hc11
              go_wp2_with fail
              refine HS11.out.mono ?_
              rintro e w12 ⟨rfl, k12, rfl⟩
              have HT12 := Lib.hid (HT11.out.drewN k12)
              have HB12 := Lib.hid (bel_dn HB11.out k12)
              have HO12 := Lib.hid (HO11.out.drewN k12)
              have hs12 : w10.heap.size ≤ (w11.drewN k12).heap.size := hs11
              obtain ⟨w12, hw12⟩ : ∃ w12, w12 = w11.drewN k12 := ⟨_, rfl⟩
              rw [← hw12] at HT12 HB12 HO12 hs12 ⊢
              clear hw12
              have HX12 := Lib.hid (nbrs_any T g l x w12 HT12.out G.few)
              rw [← HKq.out] at HX12
              go_wp2_with fail
              refine HX12.out.mono ?_
              rintro e w13 ⟨v13, rfl, hown13, hb13⟩
              obtain ⟨A13, c13, rfl, _, hr13⟩ := hown13.reads
              obtain ⟨A14, c14, e14, _, hr14⟩ := (HO12.out.below hb13).reads
              obtain ⟨rfl, rfl⟩ : A11 = A14 ∧ c11 = c14 := by injection e14 with h1 h2 h3; exact ⟨h1, h3⟩
              have HB13 := Lib.hid (HB12.out.trans (hb13.mono (by omega)))
              have HS13 := Lib.hid (same_refl A13 A11 k.length c13 k.length c11 k w13 _ _ hr13 hr14 (by omega))
              clear hown13 hb13 hr13 hr14 e14
              go_wp2_with fail
              refine HS13.out.mono ?_
              rintro e w14 ⟨rfl, k14, rfl⟩
              go_wp2
              go_ret
              exact ⟨by simp, bel_dn (HB1.out.trans (HB13.out.mono hs1)) k14⟩
end Go.Proofs.Ytadfcinfnbfefaa.Pk
