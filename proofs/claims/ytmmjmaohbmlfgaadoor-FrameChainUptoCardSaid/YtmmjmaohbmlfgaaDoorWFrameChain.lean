/- The walk of the law FrameChain. -/
import Derived.Test.YtmmjmaohbmlfgaaDoorFrChain
namespace Go.Proofs.YtmmjmaohbmlfgaaDoor.Pk
open Go.RowKit Go.Proofs.YtmmjmaohbmlfgaaDoor.Ar Go.Proofs.YtmmjmaohbmlfgaaDoor.Crc Go.Proofs.YtmmjmaohbmlfgaaDoor.Fr
set_option linter.unusedVariables false

set_option maxRecDepth 100000 in
set_option maxHeartbeats 8000000 in
theorem law_FrameChain (encC : EncC) (endC : EndC) (allC : AllC) (a : Option Addr) (n c : Nat) (ps : List Piece) (b : Option Addr) (m d : Nat) (l : List Int) (x : Int) (w : World) (ht : Tab w) (h : ArgL w a n c ps) (h' : ArgB w b m d l) (hx : -9223372036854775808 ≤ x ∧ x ≤ 9223372036854775807) (hu : sumN ps + m ≤ 1048576) :
    Calls Tryd.prog 5 #[.slice a n c, .slice b m d, .int .i64 x] w fun e w' => e = .returned (.bool true) ∧ Below w.heap.size w w' := by
  obtain ⟨hlen, hby, hn⟩ := argL_facts h (by omega)
  have HLen := Lib.hid hlen
  have HBy := Lib.hid hby
  obtain ⟨hr, hnc, hok⟩ := h
  obtain ⟨hr', hmd, hd, hB'⟩ := h'
  have HE := Lib.hid encC
  have HD := Lib.hid endC
  have HA := Lib.hid allC
  have HT := Lib.hid ht
  have HR := Lib.hid hr
  have HK := Lib.hid hok
  have HR' := Lib.hid hr'
  have HB' : Hid (Bytes l) := Lib.hid hB'
  have HL : Hid (ps.length = n) := Lib.hid hr.len
  have HL' : Hid (l.length = m) := Lib.hid (by have := hr'.1; simpa using this)
  clear encC endC allC ht hr hok hr' hB' hlen hby
  go_enter Tryd.func5, Tryd.ntmps5
  go_wp2_with fail
  refine (wakes_any HE.out HD.out w HT.out).mono ?_
  rintro e w1 ⟨rfl, hb1⟩
  have HB1 := Lib.hid hb1
  clear hb1
  go_wp2
  go_loopw [7, 9, 10, 11, 20] (fun v _ _ _ j wr => ∃ k : Nat, j = .int .i64 k ∧ k ≤ n ∧ Fit (Piece.bytes (ps.take k)) ∧ OwnB wr w.heap.size v (encs (Piece.bytes (ps.take k))) ∧ Below w.heap.size w wr) (fun _ _ _ _ j _ => n - (intOf j).toNat)
  case atStart => exact ⟨0, rfl, by omega, (fun p hp => by simp [Piece.bytes] at hp), OwnB.nil_ _ _, HB1.out⟩
  case round =>
    obtain ⟨k, rfl, hk, hfit, hown, hbel⟩ := hrel
    obtain ⟨w2, rfl⟩ : ∃ w2 : World, w2 = wr := ⟨_, rfl⟩
    obtain ⟨A2, n2, c2, rfl⟩ := own_slice hown
    have hl2 := own_len hown
    have hl3 := HLen.out k
    have HFt := Lib.hid hfit
    have HO2 := Lib.hid hown
    have HB2 := Lib.hid hbel
    obtain ⟨Z, hZ⟩ : ∃ Z, Z = encs (Piece.bytes (ps.take k)) := ⟨_, rfl⟩
    rw [← hZ] at HO2 hl2 hl3
    have HZ := Lib.hid hZ
    clear hfit hown hbel hZ
    by_cases hlt : k < n
    · obtain ⟨g, off, p, rfl, hpk, hpm, hgb, hx2⟩ := (HR.out.below HB2.out).at_ hlt
      have hp1 := (HR.out.2 p hpm).1
      have HP1 : Hid (Reads w2 w2.heap.size 1 p.a p.n (bts p.l)) := Lib.hid ((hp1.below HB2.out).more HB2.out.size)
      have HPl : Hid (p.l.length = p.n) := Lib.hid (by have := hp1.1; simpa using this)
      have hpn : p.n ≤ 1048576 := by have := sumN_mem hpm; omega
      have HX := Lib.hid (HE.out p.a p.n p.c p.l w2 (HT.out.next HB2.out) HP1.out (HK.out p hpm).1 (HK.out p hpm).2 (by omega))
      have HNx := Lib.hid (bytes_next hpk)
      have hl4 := HLen.out (k + 1)
      rw [HNx.out, encs_snoc, ← HZ.out, List.length_append, enc_length, HPl.out] at hl4
      clear hpk hpm hp1
      go_wp2_with fail
      refine HX.out.mono ?_
      rintro e w3 ⟨hb3, ⟨hs, A3, n3, c3, rfl, ho3⟩ | ⟨hs, rfl⟩⟩
      case inr => have := HPl.out; omega
      have hl5 := own_len ho3
      rw [enc_length, HPl.out] at hl5
      have HO3 := Lib.hid ho3
      have HQ3 := Lib.hid (HO2.out.keep hb3 (Nat.le_refl _))
      have HB3 := Lib.hid (HB2.out.trans (hb3.mono HB2.out.size))
      clear ho3 hb3 HX
      go_wp2_with (at_builtin; refine appB w3 rfl (.tmp 43) (.tmp 44) rfl w.heap.size _ Z rfl HQ3.out w3.heap.size A3 c3 (enc p.l) n3 rfl (own_reads HO3.out) (by omega) HB3.out.size ?_; intro v4 w4 hown4 hb4 _ _; obtain ⟨A4, n4, c4, rfl⟩ := own_slice hown4; have HO4 := Lib.hid hown4; have HB4 := Lib.hid (HB3.out.trans hb4); clear hown4 hb4)
      go_roundw
      case rel => exact ⟨k + 1, by go_num, by omega, by rw [HNx.out]; exact fit_snoc HFt.out (by rw [HPl.out]; exact hpn), by rw [HNx.out, encs_snoc, ← HZ.out]; exact HO4.out, HB4.out⟩
      case measure => simp [intOf]; omega
    · obtain rfl : k = n := by omega
      have hall : ps.take k = ps := List.take_of_length_le (by rw [HL.out]; exact Nat.le_refl _)
      rw [hall] at HZ HFt
      have HZb : Hid (Bytes Z) := Lib.hid (by
        rw [HZ.out]
        have := HBy.out k
        rw [hall] at this
        exact encs_bytes this)
      clear hall
      have hm2 : m ≤ 1048576 := by omega
      have HR2 := Lib.hid ((HR'.out.below HB2.out).more HB2.out.size)
      go_wp2_with (first
        | (at_builtin; refine appE w2 rfl (.tmp 47) (.tmp 48) rfl w2.heap.size rfl w2.heap.size A2 c2 Z n2 rfl (own_reads HO2.out) (Nat.le_refl _) (by omega) (Nat.le_refl _) ?_; intro v3 w3 hown3 hb3; obtain ⟨A3, n3, c3, rfl⟩ := own_slice hown3; have HO3 := Lib.hid hown3; have HB3 := Lib.hid hb3; clear hown3 hb3)
        | (at_builtin; refine appB w3 rfl (.tmp 49) (.tmp 50) rfl w2.heap.size _ Z rfl HO3.out w2.heap.size b d l m rfl (HR2.out.below HB3.out) (by omega) HB3.out.size ?_; intro v4 w4 hown4 hb4 _ _; obtain ⟨A4, n4, c4, rfl⟩ := own_slice hown4; have HO4 := Lib.hid hown4; have HB4 := Lib.hid (HB3.out.trans hb4); clear hown4 hb4))
      have hl4 := own_len HO4.out
      rw [List.length_append, HL'.out] at hl4
      have HX := Lib.hid (HA.out A4 n4 c4 (Z ++ l) w4 (HT.out.next (HB2.out.trans (HB4.out.mono HB2.out.size))) (own_reads HO4.out) hl4.2 (HZb.out.app HB'.out) (by omega))
      have HB4' := Lib.hid (HB2.out.trans (HB4.out.mono HB2.out.size))
      have HO2' := Lib.hid (HO2.out.keep HB4.out (Nat.le_refl _))
      refine HX.out.mono ?_
      rintro e w5 ⟨hb5, A5, n5, c5, qs, rfl, ho5, hq5⟩
      have hl5 := own_rowlen ho5.row
      have hfr : frames (Z ++ l) = Piece.bytes ps ++ frames l := by rw [HZ.out]; exact frames_app HFt.out l
      rw [hfr] at hq5
      have hkn5 : k ≤ n5 := by
        have h1 := congrArg List.length hq5
        simp only [Piece.bytes, List.length_map, List.length_append] at h1
        have := HL.out
        omega
      have HRd5 := Lib.hid (ho5.rd (fun p hp => by
        have h1 : p.l ∈ frames (Z ++ l) := by rw [hfr, ← hq5]; exact List.mem_map.2 ⟨p, hp, rfl⟩
        have := frames_fit _ p.l h1
        omega))
      have HB5 := Lib.hid (HB4'.out.trans (hb5.mono HB4'.out.size))
      have HO5 := Lib.hid (HO2'.out.keep hb5 (Nat.le_refl _))
      have HEq : Hid (decide (Piece.bytes (qs.take k) = Piece.bytes ps) = true) := Lib.hid (decide_eq_true (by
        rw [bytes_take, hq5]
        rw [List.take_append_of_le_length (by simp [Piece.bytes, HL.out]), List.take_of_length_le (by simp [Piece.bytes, HL.out])]))
      have HZ5 := Lib.hid (alike_any A5 a k c5 k c (qs.take k) ps w5 _ _ (HRd5.out.take hkn5) (HR.out.below HB5.out) (by omega))
      rw [HEq.out] at HZ5
      have hkc5 : k ≤ c5 := by omega
      have kd : ∀ u : World, (Instr.slice 29 (.slice A5 n5 c5) none (some (.int .i64 (k : Int))) none).run Tryd.prog u = .ok (.slice A5 k c5) u := fun u => run_head Tryd.underlying29 (by kernel_rfl) A5 n5 c5 k hkc5 u
      have hlt5 : ¬ n5 < k := by omega
      clear hb5 ho5 hq5 hl5 hfr HX HRd5 HO3 HB3 HO4 HB4 HO2' HB4' hl4
      go_wp2_with fail
      refine HZ5.out.mono ?_
      rintro e w6 ⟨rfl, z, rfl⟩
      have HB6 : Hid (Below w.heap.size w (w5.drewN z)) := Lib.hid (below_drewN HB5.out z)
      have HO6 : Hid (OwnB (w5.drewN z) w.heap.size (.slice A2 n2 c2) Z) := HO5
      obtain ⟨w6, hw6⟩ : ∃ w6, w6 = w5.drewN z := ⟨_, rfl⟩
      rw [← hw6] at HB6 HO6 ⊢
      have HX := Lib.hid (HE.out b m d l w6 (HT.out.next HB6.out) ((HR'.out.below HB6.out).more HB6.out.size) hmd HB'.out (by omega))
      clear hw6 HZ5 HEq kd HB5 HO5 hlt5
      go_wp2_with fail
      refine HX.out.mono ?_
      rintro e w7 ⟨hb7, ⟨hs, A7, n7, c7, rfl, ho7⟩ | ⟨hs, rfl⟩⟩
      case inr => have := HL'.out; omega
      have hl7 := own_len ho7
      rw [enc_length, HL'.out] at hl7
      have HO7 := Lib.hid ho7
      have HB7 := Lib.hid (HB6.out.trans (hb7.mono HB6.out.size))
      have HQ7 := Lib.hid (HO6.out.keep hb7 (Nat.le_refl _))
      clear ho7 hb7 HX HB6 HO6
      by_cases hcut : 0 ≤ x ∧ x < (n7 : Int)
      rotate_left
      · have way : x < 0 ∨ (n7 : Int) ≤ x := by omega
        rcases way with hx0 | hx0
        case' inr =>
          have hx9 : ¬ x < 0 := by omega
        all_goals
          clear hcut
          go_wp2
          go_ret
          exact ⟨rfl, HB7.out⟩
      obtain ⟨q, rfl⟩ : ∃ q : Nat, x = (q : Int) := ⟨x.toNat, by omega⟩
      have hq7 : q < n7 := by omega
      have kc : ∀ u : World, (Instr.slice 22 (.slice A7 n7 c7) none (some (.int .i64 (q : Int))) none).run Tryd.prog u = .ok (.slice A7 q c7) u := fun u => run_head Tryd.underlying22 (by kernel_rfl) A7 n7 c7 q (by omega) u
      obtain ⟨T, hT⟩ : ∃ T, T = (enc l).take q := ⟨_, rfl⟩
      have HRt : Hid (Reads w7 w7.heap.size 1 A7 q (bts T)) := Lib.hid (by rw [hT]; exact (own_reads HO7.out).take (by omega))
      have HTb : Hid (Bytes T) := Lib.hid (by rw [hT]; exact (enc_bytes HB'.out).take q)
      have HTn : Hid (fst T = none) := Lib.hid (by rw [hT]; exact cut_none (by rw [HL'.out]; exact hm2) (by rw [enc_length, HL'.out]; omega))
      have HTl : Hid (T.length = q) := Lib.hid (by rw [hT, List.length_take, enc_length, HL'.out]; omega)
      have HFr : Hid (frames (Z ++ T) = Piece.bytes ps) := Lib.hid (by rw [HZ.out, frames_app HFt.out, frames_stop HTn.out, List.append_nil])
      have HEn : Hid (fend (Z ++ T) = n2) := Lib.hid (by unfold fend; rw [HFr.out, ← HZ.out]; exact hl2.1)
      have hx1 : ¬ (q : Int) < 0 := by omega
      have hx2 : ¬ (n7 : Int) ≤ (q : Int) := by omega
      clear hcut hT
      go_wp2_with fail
      go_region_law (first
        | (refine stepE _ w7.heap.size rfl (.tmp 91) (.tmp 92) rfl rfl (OwnB.fresh _ _ (Nat.le_refl _)) w7.heap.size A2 c2 Z n2 rfl ((own_reads HQ7.out).alloc (Nat.le_refl _) _) (by omega) (by simp) ?_; intro A8 n8 c8 w8 hown8 hb8; have HO8 := Lib.hid hown8; have HB8 : Hid (Below w7.heap.size w7 w8) := Lib.hid ((below_drew_alloc w7 _).trans hb8); clear hown8 hb8)
        | (refine stepB w8 rfl (.tmp 93) (.tmp 96) rfl w7.heap.size (.slice A8 n8 c8) Z rfl HO8.out w7.heap.size A7 c7 T q rfl (HRt.out.below HB8.out) (by omega) HB8.out.size ?_; intro A9 n9 c9 w9 hown9 hg9 hat9; have HO9 := Lib.hid hown9; have HB9 := Lib.hid (HB8.out.grown hg9 HB8.out.size (own_base HO8.out)); clear hown9 hg9 hat9))
      all_goals
        have hl9 := own_len HO9.out
        rw [List.length_append, HTl.out] at hl9
        have HB9' := Lib.hid (HB7.out.trans (HB9.out.mono HB7.out.size))
        have HX := Lib.hid (HA.out A9 n9 c9 (Z ++ T) w9 (HT.out.next HB9'.out) (own_reads HO9.out) hl9.2 (HZb.out.app HTb.out) (by omega))
        go_wp2_with fail
        refine HX.out.mono ?_
        rintro e w10 ⟨hb10, A10, n10, c10, rs, rfl, ho10, hq10⟩
        rw [HFr.out] at hq10
        have HB10 := Lib.hid (HB9'.out.trans (hb10.mono HB9'.out.size))
        have HRd10 := Lib.hid (ho10.rd (fun p hp => by
          have h1 : p.l ∈ frames (Z ++ T) := by rw [HFr.out, ← hq10]; exact List.mem_map.2 ⟨p, hp, rfl⟩
          have := frames_fit _ p.l h1
          omega))
        have hn10 : n10 ≤ 4611686018427387904 := by
          have h1 := congrArg List.length hq10
          simp only [Piece.bytes, List.length_map] at h1
          have h2 := HL.out
          have h3 := (own_rowlen ho10.row).1
          omega
        have HZ10 := Lib.hid (alike_any A10 a n10 c10 k c rs ps w10 _ _ HRd10.out (HR.out.below HB10.out) hn10)
        rw [decide_eq_true hq10] at HZ10
        have HO10 := Lib.hid (HO9.out.keep hb10 (Nat.le_refl _))
        clear hb10 ho10 hq10 HX HRd10
        go_wp2_with fail
        refine HZ10.out.mono ?_
        rintro e w11 ⟨rfl, y, rfl⟩
        have HB11 := Lib.hid (below_drewN HB10.out y)
        have HY := Lib.hid (HD.out A9 n9 c9 (Z ++ T) (w10.drewN y) (HT.out.next HB11.out) (own_reads HO10.out) hl9.2 (HZb.out.app HTb.out) (by omega))
        unfold EndP at HY
        rw [HEn.out] at HY
        go_wp2_with fail
        refine HY.out.mono ?_
        rintro e w12 ⟨rfl, hb12⟩
        have HB12 := Lib.hid (HB11.out.trans (hb12.mono HB11.out.size))
        clear hb12
        go_wp2
        go_ret
        exact ⟨rfl, HB12.out⟩
end Go.Proofs.YtmmjmaohbmlfgaaDoor.Pk
