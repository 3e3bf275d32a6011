/- The walk of the law WireChains. -/
import Derived.Test.YtdfjgfonbbgfcaaWiWakes
import Derived.Test.YtdfjgfonbbgfcaaWiList
import Derived.Test.YtdfjgfonbbgfcaaWiChain
import Derived.Test.YtdfjgfonbbgfcaaWiEq
import Derived.Test.YtdfjgfonbbgfcaaHold
import Derived.Test.YtdfjgfonbbgfcaaSets
import Derived.Deep.RegionHeld3
import Derived.Deep.DeepMust
namespace Go.Proofs.Ytdfjgfonbbgfcaa.Pk
open Go.RowKit Go.Proofs.Ytdfjgfonbbgfcaa.Ar
set_option linter.unusedVariables false
theorem encs_len_ge (xs : List Int) : xs.length ≤ (encs xs).length := by
  induction xs with
  | nil => simp [encs]
  | cons x r ih =>
    have := enc_len_pos 8 (max x 0)
    have e : encs (x :: r) = enc 8 (max x 0) ++ encs r := rfl
    rw [e, List.length_append, List.length_cons]
    omega
theorem cells5 {w : World} {p : Nat} {t : TypeId} {k o d u v : Int} (h : Blk w p t #[.int .i64 k, .int .i64 o, .int .i64 d, .int .i64 u, .int .i64 v]) : w.cell? ⟨p, 0, none⟩ = some (.int .i64 k) ∧ w.cell? ⟨p, 1, none⟩ = some (.int .i64 o) ∧ w.cell? ⟨p, 2, none⟩ = some (.int .i64 d) ∧ w.cell? ⟨p, 3, none⟩ = some (.int .i64 u) ∧ w.cell? ⟨p, 4, none⟩ = some (.int .i64 v) := ⟨h.cell 0, h.cell 1, h.cell 2, h.cell 3, h.cell 4⟩
set_option maxRecDepth 100000 in
set_option maxHeartbeats 8000000 in
theorem law_WireChains (validC : ValidC) (putC : PutC) (takeC : TakeC) (a : Option Addr) (n c : Nat) (ls : List Mg) (b : Option Addr) (m e : Nat) (r : List Int) (w : World) (h : ArgG w a n c ls) (h' : ArgB w b m e r) (hu : m ≤ 1048576) :
    Calls Try.prog 7 #[.slice a n c, .slice b m e] w fun e w' => e = .returned (.bool true) ∧ Below w.heap.size w w' := by
  obtain ⟨hg, hnc, hn0, hI⟩ := h
  obtain ⟨hr, hme, hcx, hB⟩ := h'
  have hB' : isB r := fun x hx => hB x hx
  have HBr := Lib.hid hB'
  have HG := Lib.hid hg
  have HI := Lib.hid hI
  have HR := Lib.hid hr
  have HM : Hid (r.length = m) := Lib.hid (by have := hr.1; simpa using this)
  have HLn : Hid (ls.length = n) := Lib.hid hg.mlen
  have HW := Lib.hid (fun u => wakes_any putC u)
  have HVa := Lib.hid validC
  have HPu := Lib.hid putC
  have HTa := Lib.hid takeC
  clear hg hr hB hB' hI putC validC takeC
  go_enter Try.func7, Try.ntmps7
  go_wp2_with fail
  refine (HW.out w).mono ?_
  rintro e1 w1 ⟨rfl, hb1⟩
  have HB1 := Lib.hid hb1
  clear hb1
  by_cases hn2 : 512 < n
  case pos =>
    go_wp2
    go_ret
    exact ⟨rfl, HB1.out⟩
  go_wp2
  go_loopw [5, 6, 8, 21] (fun vb vg _ j wr => ∃ (i : Nat) (A5 : Option Addr) (n5 c5 : Nat) (A6 : Option Addr) (n6 c6 : Nat), vb = .slice A5 n5 c5 ∧ vg = .slice A6 n6 c6 ∧ j = .int .i64 i ∧ i ≤ n ∧ OwnB wr w1.heap.size (.slice A5 n5 c5) (mputs (ls.take i)) ∧ OwnG wr w1.heap.size (.slice A6 n6 c6) (goods (ls.take i)) ∧
    (∀ g, (Value.slice A6 n6 c6).ownBlock = some g → (Value.slice A5 n5 c5).ownBlock = some g → False) ∧ Below w1.heap.size w1 wr) (fun _ _ _ j _ => n - (intOf j).toNat)
  case atStart => exact ⟨0, none, 0, 0, none, 0, 0, rfl, rfl, rfl, by omega, ⟨rfl, .inl ⟨rfl, rfl⟩⟩, OwnG.none_ _ _, fun g h => by simp [Value.ownBlock] at h, Below.refl _ _⟩
  case round =>
    obtain ⟨i, A5, n5, c5, A6, n6, c6, rfl, rfl, rfl, hi, hob, hog, hap, hb⟩ := hrel
    obtain ⟨w2, rfl⟩ : ∃ w2 : World, w2 = wr := ⟨_, rfl⟩
    have HOb := Lib.hid hob
    have HOg := Lib.hid hog
    have HAp := Lib.hid hap
    have HB12 := Lib.hid hb
    have HB2 := Lib.hid (HB1.out.trans (hb.mono HB1.out.size))
    have hs2 := hb.size
    have hl5 := own_len hob
    have hc5 : n5 ≤ c5 := hl5.2
    have hL5 : n5 ≤ 45 * n := by
      have h1 := mputs_len (ls.take i)
      have h2 : (ls.take i).length ≤ n := by rw [List.length_take, HLn.out]; omega
      have h3 : 45 * (ls.take i).length ≤ 45 * n := Nat.mul_le_mul_left 45 h2
      omega
    have hL6 : (goods (ls.take i)).length ≤ n := by
      have h1 := goods_len (ls.take i)
      rw [List.length_take, HLn.out] at h1
      omega
    have HL6 := Lib.hid hL6
    have HL5 := Lib.hid hl5.1
    clear hob hog hap hb hl5 hL6
    by_cases hlt : i < n
    · obtain ⟨g, off, rfl, hgb, hcs⟩ := (HG.out.below HB2.out).mgs_ (by omega)
      obtain ⟨M, hM⟩ : ∃ M, ls[i]? = some M := ⟨_, List.getElem?_eq_getElem (by rw [HLn.out]; exact hlt)⟩
      obtain ⟨x0, x1, x2, x3, x4⟩ := hcs i M hM
      have HMi := Lib.hid (HI.out M (List.mem_of_getElem? hM))
      have HGn := Lib.hid (goods_next hM)
      have HPn := Lib.hid (mputs_next hM)
      have HPl := Lib.hid M.put_len
      have HVm := Lib.hid (fun u => HVa.out M u HMi.out)
      have HPm := Lib.hid (fun A n c l u h1 h2 h3 h4 => HPu.out A n c l M u h1 h2 h3 h4 HMi.out)
      have HiB := Lib.hid (isB_puts (ls.take i))
      obtain ⟨t, ht⟩ : ∃ t, t = decide M.Be := ⟨_, rfl⟩
      rw [← ht] at HVm
      have HTt := Lib.hid ht
      clear hcs hM ht
      obtain ⟨k', o', d', u', v'⟩ := M
      unfold Mg.val at HVm HPm
      simp only at x0 x1 x2 x3 x4 HVm HPm
      obtain ⟨p, hp⟩ : ∃ p, p = w2.heap.size := ⟨_, rfl⟩
      obtain ⟨w3, hw3⟩ : ∃ w3, w3 = w2.alloc (.cells #[.int .i64 k', .int .i64 o', .int .i64 d', .int .i64 u', .int .i64 v'] 24) := ⟨_, rfl⟩
      have hb3 : Below w2.heap.size w2 w3 := hw3 ▸ (Below.refl _ _).alloc (Nat.le_refl _) _
      have HK3 : Hid (Blk w3 p 24 #[.int .i64 k', .int .i64 o', .int .i64 d', .int .i64 u', .int .i64 v']) := Lib.hid (by rw [hw3, hp]; exact Blk.new w2 _ _)
      have HPw : Hid (p = w2.heap.size) := Lib.hid hp
      have HB23 := Lib.hid hb3
      go_wp2_with fail
      rw [← hw3, ← hp]
      clear hw3 hp hb3
      refine (HVm.out w3).mono ?_
      rintro e2 w4 ⟨rfl, hb4⟩
      have HB24 := Lib.hid (HB23.out.trans (hb4.mono HB23.out.size))
      have HK4 := Lib.hid (HK3.out.below hb4 HK3.out.lt)
      have HOb4 := Lib.hid (HOb.out.keep HB24.out (Nat.le_refl _))
      have HOg4 := Lib.hid (HOg.out.below HB24.out)
      have HB14 := Lib.hid (HB12.out.trans (HB24.out.mono hs2))
      have hs4 := HB14.out.size
      obtain ⟨y0, y1, y2, y3, y4⟩ := cells5 HK4.out
      clear hb4 HB23 HK3
      cases t
      case false =>
        have HGz : Hid ((if Mg.Be ⟨k', o', d', u', v'⟩ then [(⟨k', o', d', u', v'⟩ : Mg)] else []) = []) := Lib.hid (if_neg (of_decide_eq_false HTt.out.symm))
        have HPc := Lib.hid (HPm.out A5 n5 c5 (mputs (ls.take i)) w4 (own_reads HOb4.out) hc5 HiB.out (by omega))
        go_wp2_with fail
        refine HPc.out.mono ?_
        rintro e3 w5 ⟨v5, rfl, ho5, hb5⟩
        obtain ⟨A7, n7, c7, rfl⟩ := own_slice ho5
        have HO5 := Lib.hid ho5
        have HOg5 := Lib.hid (HOg4.out.below hb5)
        have HB15 := Lib.hid (HB14.out.trans (hb5.mono hs4))
        have HOgl := Lib.hid (fun g h => ownG_lt HOg4.out g h)
        clear ho5 hb5 HPc
        go_wp2
        go_roundw
        case rel => exact ⟨i + 1, A7, n7, c7, A6, n6, c6, rfl, rfl, by go_num, by omega, by rw [HPn.out]; exact HO5.out.mono hs4, by rw [HGn.out, HGz.out, List.append_nil]; exact HOg5.out, fun g h1 h2 => by have := HOgl.out g h1; have := own_base HO5.out g h2; omega, HB15.out⟩
        case measure => simp [intOf]; omega
      case true =>
        have HGz : Hid ((if Mg.Be ⟨k', o', d', u', v'⟩ then [(⟨k', o', d', u', v'⟩ : Mg)] else []) = [⟨k', o', d', u', v'⟩]) := Lib.hid (if_pos (of_decide_eq_true HTt.out.symm))
        have hpl : p < w4.heap.size := HK4.out.lt
        go_wp2_with (at_builtin; refine appG w4 ⟨k', o', d', u', v'⟩ _ rfl (.tmp 27) (.tmp 29) rfl w1.heap.size _ (goods (ls.take i)) rfl HOg4.out w4.heap.size rfl rfl (by have := HL6.out; omega) hs4 ?_; intro v5 w5 hown5 hb5 hg5 hat5; have HO5 := Lib.hid hown5; have HB5 := Lib.hid hb5; have HGr := Lib.hid hg5; have HAt := Lib.hid hat5; obtain ⟨A8, n8, c8, rfl⟩ := ownG_slice hown5; clear hown5 hb5 hg5 hat5; have HKe : Hid (∀ x, x < w4.heap.size → (∀ g, (Value.slice A6 n6 c6).ownBlock = some g → g ≠ x) → w5.heap[x]? = w4.heap[x]?) := Lib.hid (fun x h1 h2 => (HGr.out.block x (by simp; omega) (fun e => h2 x e.symm rfl)).trans (Below.heap_alloc w4 _ x h1)); have HK5 : Hid (Blk w5 p 24 #[.int .i64 k', .int .i64 o', .int .i64 d', .int .i64 u', .int .i64 v']) := Lib.hid ((HKe.out p hpl (fun g h => by have := ownG_lt HOg.out g h; have := HPw.out; omega)).trans HK4.out); obtain ⟨z0, z1, z2, z3, z4⟩ := cells5 HK5.out)
        have hs5 : w4.heap.size + 1 ≤ w5.heap.size := by have := HGr.out.size; simpa using this
        have HOb5 := Lib.hid (HOb4.out.stay (fun g h => HKe.out g (own_lt HOb4.out g h) (fun g2 h2 e => HAp.out g2 h2 (e ▸ h))))
        have HPc := Lib.hid (HPm.out A5 n5 c5 (mputs (ls.take i)) w5 (own_reads HOb5.out) hc5 HiB.out (by omega))
        refine HPc.out.mono ?_
        rintro e3 w6 ⟨v6, rfl, ho6, hb6⟩
        obtain ⟨A7, n7, c7, rfl⟩ := own_slice ho6
        have HO6 := Lib.hid ho6
        have HOg6 := Lib.hid (HO5.out.below hb6)
        have HB15 := Lib.hid (HB14.out.trans (HB5.out.mono (Nat.le_refl _)))
        have HB16 := Lib.hid (HB15.out.trans (hb6.mono (by omega)))
        have HOgl := Lib.hid (fun g h => ownG_lt HO5.out g h)
        clear ho6 hb6 HPc
        go_wp2
        go_roundw
        case rel => exact ⟨i + 1, A7, n7, c7, A8, n8, c8, rfl, rfl, by go_num, by omega, by rw [HPn.out]; exact HO6.out.mono (by omega), by rw [HGn.out, HGz.out]; exact HOg6.out, fun g h1 h2 => by have := HOgl.out g h1; have := own_base HO6.out g h2; omega, HB16.out⟩
        case measure => simp [intOf]; omega
    · obtain rfl : n = i := by omega
      have HTl : Hid (ls.take n = ls) := Lib.hid (by rw [← HLn.out, List.take_length])
      have HR2 := Lib.hid ((HR.out.below HB2.out).more HB2.out.size)
      go_wp2_with (at_builtin; refine appB w2 rfl (.tmp 35) (.tmp 36) rfl w1.heap.size _ (mputs (ls.take n)) rfl HOb.out w2.heap.size b e r m rfl HR2.out (by have := HL5.out; omega) hs2 ?_; intro v3 w3 hown3 hb3 hat3 hg3; obtain ⟨A7, n7, c7, rfl⟩ := own_slice hown3; have HO3 := Lib.hid hown3; have HB13 := Lib.hid (HB12.out.trans hb3); have HG3 := Lib.hid (HOg.out.stay (w' := w3) (fun g h => hg3.block g (ownG_lt HOg.out g h) (fun e => HAp.out g h e.symm))); clear hown3 hb3 hat3 hg3)
      obtain ⟨gs, hgs⟩ : ∃ gs, gs = goods ls := ⟨_, rfl⟩
      have HGs : Hid (∀ m ∈ gs, m.Be) := Lib.hid (by rw [hgs]; exact goods_be)
      obtain ⟨A8, c8, e8, _, hrg⟩ := HG3.out.reads
      rw [HTl.out, ← hgs] at e8 hrg
      injection e8 with e81 e82 e83
      subst e81; subst e82; subst e83
      have HRg := Lib.hid hrg
      have hn8 : gs.length ≤ n := by rw [hgs, ← HLn.out]; exact goods_len ls
      have HRb : Hid (Reads w3 w3.heap.size 1 A7 n7 (bts (mputs (gs.drop 0) ++ r))) := Lib.hid (by
        have h1 := own_reads HO3.out
        rw [HTl.out, mputs_goods, ← hgs] at h1
        exact h1)
      have hc7 : n7 ≤ c7 := (own_len HO3.out).2
      have hn7 : n7 ≤ 2097152 := by
        have h1 := (own_len HO3.out).1
        rw [List.length_append, HM.out] at h1
        have := HL5.out
        omega
      have HB3 := Lib.hid (HB1.out.trans (HB13.out.mono HB1.out.size))
      obtain ⟨q, hq⟩ : ∃ q, q = gs.length := ⟨_, rfl⟩
      have HQ := Lib.hid hq
      rw [← hq] at HRg hn8 ⊢
      clear hgs hrg HL5 HL6 HOb HOg HAp HB12 HB2 HO3 HG3 HTl hL5 hq
      go_wp2
      go_loopw [5, 10, 11, 12, 13, 40] (fun vb _ _ _ _ j wr => ∃ (i : Nat) (Ab : Option Addr) (nb cb : Nat), vb = .slice Ab nb cb ∧ j = .int .i64 i ∧ i ≤ q ∧ nb ≤ cb ∧ nb ≤ n7 ∧ Reads wr w3.heap.size 1 Ab nb (bts (mputs (gs.drop i) ++ r)) ∧ Below w3.heap.size w3 wr) (fun _ _ _ _ _ j _ => q - (intOf j).toNat)
      case atStart => exact ⟨0, A7, n7, c7, rfl, rfl, by omega, hc7, Nat.le_refl _, HRb.out, Below.refl _ _⟩
      case round =>
        clear HRb
        obtain ⟨i, Ab, nb, cb, rfl, rfl, hi, hcb, hnb, hrb, hb⟩ := hrel
        obtain ⟨w4, rfl⟩ : ∃ w4 : World, w4 = wr := ⟨_, rfl⟩
        have HRb := Lib.hid hrb
        have HB34 := Lib.hid hb
        have HB4 := Lib.hid (HB3.out.trans (hb.mono HB3.out.size))
        have hLb : (mputs (gs.drop i) ++ r).length = nb := by have := hrb.1; simpa using this
        have HLb := Lib.hid hLb
        have hs4 := hb.size
        clear hrb hb hLb
        by_cases hlt : i < q
        · obtain ⟨g, off, rfl, hgb, hcs⟩ := (HRg.out.below HB34.out).mgs_ (by omega)
          obtain ⟨M, hM⟩ : ∃ M, gs[i]? = some M := ⟨_, List.getElem?_eq_getElem (by rw [← HQ.out]; exact hlt)⟩
          obtain ⟨x0, x1, x2, x3, x4⟩ := hcs i M hM
          have hBe := HGs.out M (List.mem_of_getElem? hM)
          have hdr : mputs (gs.drop i) ++ r = M.bytes ++ (mputs (gs.drop (i + 1)) ++ r) := by rw [mputs_drop hM hBe, List.append_assoc]
          obtain ⟨z, hz⟩ : ∃ z, z = M.bytes.length := ⟨_, rfl⟩
          have hz1 : 0 < z := by
            have h1 := M.nums_len
            have h2 := encs_len_ge M.nums
            rw [hz]
            unfold Mg.bytes
            split at h1 <;> omega
          have hzn : z ≤ nb := by
            have h1 := HLb.out
            rw [hdr, List.length_append] at h1
            omega
          have HRn : Hid (Reads w4 w3.heap.size 1 (cutA Ab cb z) (nb - z) (bts (mputs (gs.drop (i + 1)) ++ r))) := Lib.hid (by
            have h1 := reads_cut (c := cb) HRb.out hzn (Nat.le_refl _) hcb
            rw [← HLb.out, List.take_length, HLb.out, hdr, hz, List.drop_left] at h1
            rw [hz]; exact h1)
          have HTk := Lib.hid (fun u h => HTa.out Ab nb cb (mputs (gs.drop i) ++ r) u w3.heap.size h hcb (isB_app (isB_puts _) HBr.out) (by omega))
          rw [show wtake (mputs (gs.drop i) ++ r) = (M, z, 0) by rw [hdr, wtake_put hBe, hz]] at HTk
          clear hcs hM hdr hz hBe
          obtain ⟨k', o', d', u', v'⟩ := M
          unfold Mg.val at HTk
          simp only at x0 x1 x2 x3 x4 HTk
          obtain ⟨w5, hw5⟩ : ∃ w5, w5 = w4.alloc (.cells #[.int .i64 k', .int .i64 o', .int .i64 d', .int .i64 u', .int .i64 v'] 24) := ⟨_, rfl⟩
          have hb5 : Below w4.heap.size w4 w5 := hw5 ▸ (Below.refl _ _).alloc (Nat.le_refl _) _
          obtain ⟨p, hp⟩ : ∃ p, p = w4.heap.size := ⟨_, rfl⟩
          have HK5 : Hid (Blk w5 p 24 #[.int .i64 k', .int .i64 o', .int .i64 d', .int .i64 u', .int .i64 v']) := Lib.hid (by rw [hw5, hp]; exact Blk.new w4 _ _)
          have HB45 := Lib.hid hb5
          go_wp2_with fail
          rw [← hw5, ← hp]
          clear hw5 hb5 hp
          refine (HTk.out w5 (HRb.out.keep fun x hx => HB45.out.cell (Nat.lt_of_lt_of_le hx hs4))).mono ?_
          rintro e4 w6 ⟨rfl, hb6⟩
          have HB46 := Lib.hid (HB45.out.trans (hb6.mono HB45.out.size))
          have HK6 := Lib.hid (HK5.out.below hb6 HK5.out.lt)
          obtain ⟨y0, y1, y2, y3, y4⟩ := cells5 HK6.out
          have hpl : p < w6.heap.size := HK6.out.lt
          have ke : ∀ W : World, (Op.equalIn 10000 24 (.agg #[.int .i64 k', .int .i64 o', .int .i64 d', .int .i64 u', .int .i64 v']) (.agg #[.int .i64 k', .int .i64 o', .int .i64 d', .int .i64 u', .int .i64 v'])).run Try.prog W = .ok true W := fun W => by rw [eq_msg]; simp
          have kc := fun (w : World) => run_cut1 (P := Try.prog) Try.underlying22 (by kernel_rfl) Ab nb cb z hzn w
          have hzi : (z : Int) ≤ (nb : Int) := by omega
          obtain ⟨w7, hw7⟩ : ∃ w7, w7 = w6.alloc (.cells #[.int .i64 k', .int .i64 o', .int .i64 d', .int .i64 u', .int .i64 v'] 24) := ⟨_, rfl⟩
          have HB47 : Hid (Below w4.heap.size w4 w7) := Lib.hid (by rw [hw7]; exact HB46.out.alloc HB46.out.size _)
          have HW7 := Lib.hid hw7
          clear hb6 hw7 HTk HK5
          go_wp2
          rw [← HW7.out]
          go_roundw
          case rel => exact ⟨i + 1, _, _, _, rfl, by go_num, by omega, by omega, by omega, HRn.out.keep fun x hx => HB47.out.cell (Nat.lt_of_lt_of_le hx hs4), HB34.out.trans (HB47.out.mono hs4)⟩
          case measure => simp [intOf]; omega
        · obtain rfl : q = i := by omega
          have HRz : Hid (Reads w4 w3.heap.size 1 Ab nb (bts r)) := Lib.hid (by
            have h1 := HRb.out
            rw [HQ.out, List.drop_length] at h1
            exact h1)
          have HSm := Lib.hid (same_any Ab b nb cb m e r r w4 _ _ HRz.out (HR.out.below HB4.out) (by omega))
          rw [decide_eq_true rfl] at HSm
          go_wp2_with fail
          refine HSm.out.mono ?_
          rintro e5 w5 ⟨rfl, k5, rfl⟩
          go_wp2
          go_ret
          exact ⟨rfl, below_drewN HB4.out _⟩
end Go.Proofs.Ytdfjgfonbbgfcaa.Pk
