/- The walk of the law FrameTells. -/
import Derived.Test.YtmmjmaohbmlfgaaDoorFrChain
import Derived.Laws.BitsAllLaws
namespace Go.Proofs.YtmmjmaohbmlfgaaDoor.Pk
open Go.RowKit Go.Proofs.YtmmjmaohbmlfgaaDoor.Ar Go.Proofs.YtmmjmaohbmlfgaaDoor.Crc Go.Proofs.YtmmjmaohbmlfgaaDoor.Fr
set_option linter.unusedVariables false

/-- A byte is stored into an owned slice. -/
theorem ownB_store {w : World} {B n c i : Nat} {A : Option Addr} {l : List Int} (h : OwnB w B (.slice A n c) l) (hin : i < n) :
    ∃ g, A = some ⟨g, 0, none⟩ ∧ B ≤ g ∧ g < w.heap.size ∧ w.cell? ⟨g, i, none⟩ = some (.int .u8 (l.getD i 0)) ∧ w.frozen? ⟨g, i, none⟩ = false ∧
      ∀ x, OwnB (w.setCell ⟨g, i, none⟩ (.int .u8 x)) B (.slice A n c) (l.set i x) ∧ Below B w (w.setCell ⟨g, i, none⟩ (.int .u8 x)) := by
  obtain ⟨g, e, h1, _, h3, h4, h5, h6⟩ := OwnI.store (lo := B) (hi := w.heap.size) ⟨h, own_lt h⟩ hin
  exact ⟨g, e, h1, h3, h4, h5, fun x => ⟨(h6 x).1.1, (Below.refl _ _).setCell (p := ⟨g, i, none⟩) h1 _⟩⟩

/-- Behind k payloads: the bytes so far, and where the spoilt frame begins (-1: none is). -/
def Tl (ps : List Piece) (which at_ : Int) (k : Nat) (b : List Int) (fr : Int) : Prop :=
  (b.length = (encs (Piece.bytes (ps.take k))).length ∧ Bytes b ∧ Fit (Piece.bytes (ps.take k))) ∧
  ((fr = -1 ∧ b = encs (Piece.bytes (ps.take k))) ∨
   ∃ (j : Nat) (p : Piece) (t : Nat) (c : Int) (r : List Int), which = (j : Int) ∧ j < k ∧ ps[j]? = some p ∧ t < 4 + p.l.length ∧ (0 ≤ c ∧ c ≤ 255) ∧ (enc p.l).getD (4 + t) 0 ≠ c ∧ fr = ((encs (Piece.bytes (ps.take j))).length : Int) ∧ b = encs (Piece.bytes (ps.take j)) ++ ((enc p.l).set (4 + t) c ++ r))
theorem fit_mono {ps : List Piece} {j k : Nat} (h : Fit (Piece.bytes (ps.take k))) (hj : j ≤ k) : Fit (Piece.bytes (ps.take j)) := fun p hp => by
  refine h p ?_
  obtain ⟨q, hq, rfl⟩ := List.mem_map.1 hp
  refine List.mem_map.2 ⟨q, ?_, rfl⟩
  have e : ps.take j = (ps.take k).take j := by rw [List.take_take, Nat.min_eq_left hj]
  rw [e] at hq
  exact List.mem_of_mem_take hq
/-- What stands behind all payloads. -/
theorem Tl.none_ {ps : List Piece} {which at_ : Int} {b : List Int} {fr : Int} (h : Tl ps which at_ ps.length b fr) (hf : fr < 0) : frames b = Piece.bytes ps ∧ fend b = b.length := by
  obtain ⟨⟨_, _, hfit⟩, ⟨_, h2⟩ | ⟨j, p, t, c, r, _, _, _, _, _, _, h2, _⟩⟩ := h
  · rw [List.take_length] at h2 hfit
    have h3 := frames_all hfit
    rw [← h2] at h3
    refine ⟨h3, ?_⟩
    unfold fend
    rw [h3, ← h2]
  · omega
theorem Tl.some_ {ps : List Piece} {which at_ : Int} {b : List Int} {fr : Int} (hok : ∀ p ∈ ps, Bytes p.l) (h : Tl ps which at_ ps.length b fr) (hf : 0 ≤ fr) : ∃ j : Nat, which = (j : Int) ∧ j < ps.length ∧ frames b = Piece.bytes (ps.take j) ∧ (fend b : Int) = fr := by
  obtain ⟨⟨_, _, hfit⟩, ⟨h1, _⟩ | ⟨j, p, t, c, r, hw, hj, hp, ht, hc, hne, h2, h3⟩⟩ := h
  · omega
  · have hfj := fit_mono hfit (Nat.le_of_lt hj)
    have hpm := List.mem_of_getElem? hp
    have hpl : p.l.length ≤ 1048576 := by
      rw [List.take_length] at hfit
      exact hfit p.l (List.mem_map.2 ⟨p, hpm, rfl⟩)
    have h4 := spoilt_none (r := r) hpl (hok p hpm) ht hc hne
    have h5 : frames b = Piece.bytes (ps.take j) := by rw [h3, frames_app hfj, frames_stop h4, List.append_nil]
    refine ⟨j, hw, hj, h5, ?_⟩
    unfold fend
    rw [h5, h2]

set_option maxRecDepth 100000 in
set_option maxHeartbeats 8000000 in
theorem law_FrameTells (encC : EncC) (endC : EndC) (allC : AllC) (a : Option Addr) (n c : Nat) (ps : List Piece) (x y : Int) (w : World) (ht : Tab w) (h : ArgL w a n c ps) (hx : -9223372036854775808 ≤ x ∧ x ≤ 9223372036854775807) (hy : -9223372036854775808 ≤ y ∧ y ≤ 9223372036854775807) (hu : sumN ps ≤ 1048576) :
    Calls Tryd.prog 8 #[.slice a n c, .int .i64 x, .int .i64 y] w fun e w' => e = .returned (.bool true) ∧ Below w.heap.size w w' := by
  obtain ⟨hlen, hby, hn⟩ := argL_facts h (by omega)
  have HLen := Lib.hid hlen
  have HBy := Lib.hid hby
  obtain ⟨hr, hnc, hok⟩ := h
  have HE := Lib.hid encC
  have HD := Lib.hid endC
  have HA := Lib.hid allC
  have HT := Lib.hid ht
  have HR := Lib.hid hr
  have HK := Lib.hid hok
  have HL : Hid (ps.length = n) := Lib.hid hr.len
  clear encC endC allC ht hr hok hlen hby
  go_enter Tryd.func8, Tryd.ntmps8
  go_wp2_with fail
  refine (wakes_any HE.out HD.out w HT.out).mono ?_
  rintro e w1 ⟨rfl, hb1⟩
  have HB1 := Lib.hid hb1
  clear hb1
  go_wp2
  go_loopw [7, 8, 9, 10, 11, 12, 17] (fun v fv _ _ _ _ j wr => ∃ (k : Nat) (Z : List Int) (fr : Int), j = .int .i64 k ∧ k ≤ n ∧ fv = .int .i64 fr ∧ (-1 ≤ fr ∧ fr ≤ 9437184) ∧ Tl ps x y k Z fr ∧ OwnB wr w.heap.size v Z ∧ Below w.heap.size w wr) (fun _ _ _ _ _ _ j _ => n - (intOf j).toNat)
  case atStart => exact ⟨0, [], -1, rfl, by omega, rfl, by omega, ⟨⟨rfl, (fun p hp => by simp at hp), (fun p hp => by simp [Piece.bytes] at hp)⟩, .inl ⟨rfl, rfl⟩⟩, OwnB.nil_ _ _, HB1.out⟩
  case round =>
    obtain ⟨k, Z, fr, rfl, hk, rfl, hfr, htl, hown, hbel⟩ := hrel
    obtain ⟨w2, rfl⟩ : ∃ w2 : World, w2 = wr := ⟨_, rfl⟩
    obtain ⟨A2, n2, c2, rfl⟩ := own_slice hown
    have hl2 := own_len hown
    have hl3 := HLen.out k
    rw [← htl.1.1] at hl3
    have HTl := Lib.hid htl
    have HO2 := Lib.hid hown
    have HB2 := Lib.hid hbel
    clear htl hown hbel
    by_cases hlt : k < n
    · obtain ⟨g, off, p, rfl, hpk, hpm, hgb, hx2⟩ := (HR.out.below HB2.out).at_ hlt
      have hp1 := (HR.out.2 p hpm).1
      have HP1 : Hid (Reads w2 w2.heap.size 1 p.a p.n (bts p.l)) := Lib.hid ((hp1.below HB2.out).more HB2.out.size)
      have HPl : Hid (p.l.length = p.n) := Lib.hid (by have := hp1.1; simpa using this)
      have HPb : Hid (Bytes p.l) := Lib.hid (HK.out p hpm).2
      have hpn : p.n ≤ 1048576 := by have := sumN_mem hpm; omega
      have HX := Lib.hid (HE.out p.a p.n p.c p.l w2 (HT.out.next HB2.out) HP1.out (HK.out p hpm).1 HPb.out (by omega))
      have HPk := Lib.hid hpk
      have HNx := Lib.hid (bytes_next hpk)
      have hl4 := HLen.out (k + 1)
      rw [HNx.out, encs_snoc, List.length_append, ← HTl.out.1.1, enc_length, HPl.out] at hl4
      clear hpk hpm hp1
      go_wp2_with fail
      refine HX.out.mono ?_
      rintro e w3 ⟨hb3, ⟨hs, A3, n3, c3, rfl, ho3⟩ | ⟨hs, rfl⟩⟩
      case inr => have := HPl.out; omega
      have hl5 := own_len ho3
      rw [enc_length, HPl.out] at hl5
      have HO3 := Lib.hid ho3
      have HQ3 := Lib.hid (HO2.out.keep hb3 (Nat.le_refl _))
      have HB3 := Lib.hid (HB2.out.trans (hb3.mono HB2.out.size))
      have HS3 : Hid (w2.heap.size ≤ w3.heap.size) := Lib.hid hb3.size
      have HFit : Hid (Fit (Piece.bytes (ps.take (k + 1)))) := Lib.hid (by rw [HNx.out]; exact fit_snoc HTl.out.1.2.2 (by rw [HPl.out]; exact hpn))
      clear ho3 hb3 HX
      have hit : (x = (k : Int) ∧ 0 ≤ y ∧ y < (n3 : Int) - 4) ∨ ¬ (x = (k : Int) ∧ 0 ≤ y ∧ y < (n3 : Int) - 4) := Classical.em _
      rcases hit with ⟨hx0, hy0, hy1⟩ | hno
      · subst hx0
        obtain ⟨t, rfl⟩ : ∃ t : Nat, y = (t : Int) := ⟨y.toNat, by omega⟩
        obtain ⟨i, hi⟩ : ∃ i : Nat, i = 4 + t := ⟨_, rfl⟩
        have ei : 4 + (t : Int) = (i : Int) := by omega
        have hin : i < n3 := by omega
        have hin2 : (i : Int) < (n3 : Int) := by omega
        obtain ⟨g3, rfl, hg1, hg2, hc3, hf3, hst⟩ := ownB_store HO3.out hin
        have hyb := bytes_getD (enc_bytes HPb.out) i
        obtain ⟨z, hz⟩ : ∃ z : Nat, z = ((enc p.l).getD i 0).toNat := ⟨_, rfl⟩
        have hz2 : ((enc p.l).getD i 0) = (z : Int) := by omega
        rw [hz2] at hc3
        obtain ⟨q, hq⟩ : ∃ q : Nat, q = z ^^^ 85 := ⟨_, rfl⟩
        have hzb : z < 256 := by omega
        have ex : bits .xor .u8 (z : Int) 85 = (q : Int) := by rw [hq]; exact u8_xor_nat z 85 hzb (by omega)
        have hqb : q < 256 := by rw [hq]; exact Nat.xor_lt_two_pow (n := 8) hzb (by omega)
        have hqz : q ≠ z := by
          rw [hq]
          intro e
          have h1 : z ^^^ (z ^^^ 85) = z ^^^ z := by rw [e]
          rw [xor_back, Nat.xor_self] at h1
          omega
        have hfr0 : fr = -1 ∧ Z = encs (Piece.bytes (ps.take k)) := by
          rcases HTl.out.2 with h1 | ⟨j, _, _, _, _, h2, h3, _⟩
          · exact h1
          · omega
        obtain ⟨hfr1, hZ⟩ := hfr0
        have HZ := Lib.hid hZ
        have HST := Lib.hid (hst (q : Int))
        have HQ4 : Hid (OwnB (w3.setCell ⟨g3, i, none⟩ (.int .u8 (q : Int))) w.heap.size (.slice A2 n2 c2) Z) := Lib.hid (HQ3.out.stay fun g' e => Below.heap_setCell w3 ⟨g3, i, none⟩ _ g' (fun e2 => by have := HO2.out.lt g' e; simp at e2; omega))
        have HRf := Lib.hid (own_reads HST.out.1)
        have hsz4 : (w3.setCell ⟨g3, i, none⟩ (.int .u8 (q : Int))).heap.size = w3.heap.size := by simp [World.setCell]
        have HB4 : Hid (Below w.heap.size w (w3.setCell ⟨g3, i, none⟩ (.int .u8 (q : Int)))) := Lib.hid (HB3.out.setCell (p := ⟨g3, i, none⟩) (Nat.le_trans HB2.out.size hg1) _)
        have HTn : Hid (Tl ps (k : Int) (t : Int) (k + 1) (Z ++ (enc p.l).set i (q : Int)) (n2 : Int)) := Lib.hid (by
          refine ⟨⟨?_, ?_, HFit.out⟩, .inr ⟨k, p, t, (q : Int), [], rfl, by omega, HPk.out, by rw [HPl.out]; omega, by omega, by rw [← hi, hz2]; omega, ?_, ?_⟩⟩
          · rw [HNx.out, encs_snoc, ← HZ.out]; simp
          · refine HTl.out.1.2.1.app ?_
            intro v hv
            rcases List.mem_or_eq_of_mem_set hv with h1 | rfl
            · exact enc_bytes HPb.out v h1
            · omega
          · rw [← HZ.out, hl2.1]
          · rw [← HZ.out, hi, List.append_nil])
        subst hfr1
        clear hst hZ hi hz hz2 hq hqz hyb
        go_wp2_with (at_builtin; refine appB _ rfl (.tmp 55) (.tmp 56) rfl w.heap.size _ Z rfl HQ4.out _ (some ⟨g3, 0, none⟩) c3 ((enc p.l).set i (q : Int)) n3 rfl HRf.out (by omega) HB4.out.size ?_; intro v4 w4 hown4 hb4 _ _; obtain ⟨A4, n4, c4, rfl⟩ := own_slice hown4; have HO4 := Lib.hid hown4; have HB5 := Lib.hid (HB4.out.trans hb4); clear hown4 hb4)
        go_roundw
        case rel => exact ⟨k + 1, _, (n2 : Int), by go_num, by omega, rfl, by omega, HTn.out, HO4.out, HB5.out⟩
        case measure => simp [intOf]; omega
      · have HTn : Hid (Tl ps x y (k + 1) (Z ++ enc p.l) fr) := Lib.hid (by
          refine ⟨⟨?_, HTl.out.1.2.1.app (enc_bytes HPb.out), HFit.out⟩, ?_⟩
          · rw [HNx.out, encs_snoc, List.length_append, List.length_append, ← HTl.out.1.1]
          · rcases HTl.out.2 with ⟨h1, h2⟩ | ⟨j, p', t, c', r, h1, h2, h3, h4, h5, h6, h7, h8⟩
            · exact .inl ⟨h1, by rw [HNx.out, encs_snoc, ← h2]⟩
            · exact .inr ⟨j, p', t, c', r ++ enc p.l, h1, by omega, h3, h4, h5, h6, h7, by rw [h8]; simp⟩)
        have way : x ≠ (k : Int) ∨ (x = (k : Int) ∧ y < 0) ∨ (x = (k : Int) ∧ 0 ≤ y ∧ (n3 : Int) - 4 ≤ y) := by omega
        rcases way with h1 | ⟨h1, h2⟩ | ⟨h1, h2, h3⟩
        case' inl.inr.inl =>
          have t1 : ((k : Int) == x) = false := beq_eq_false_iff_ne.2 (fun e => h1 e.symm)
          clear h1
        case' inl.inr.inr.inl => subst h1
        case' inl.inr.inr.inr => subst h1
        all_goals
          clear hno
          go_wp2_with (at_builtin; refine appB w3 rfl (.tmp 55) (.tmp 56) rfl w.heap.size _ Z rfl HQ3.out w3.heap.size A3 c3 (enc p.l) n3 rfl (own_reads HO3.out) (by omega) HB3.out.size ?_; intro v4 w4 hown4 hb4 _ _; obtain ⟨A4, n4, c4, rfl⟩ := own_slice hown4; have HO4 := Lib.hid hown4; have HB4 := Lib.hid (HB3.out.trans hb4); clear hown4 hb4)
          go_roundw
          case rel => exact ⟨k + 1, _, fr, by go_num, by omega, rfl, hfr, HTn.out, HO4.out, HB4.out⟩
          case measure => simp [intOf]; omega
    · obtain rfl : k = n := by omega
      have HZb : Hid (Bytes Z) := Lib.hid HTl.out.1.2.1
      have HX := Lib.hid (fun z => HA.out A2 n2 c2 Z (w2.drewN z) ((HT.out.next HB2.out).drewN z) (own_reads HO2.out) hl2.2 HZb.out (by omega))
      rcases Int.lt_or_le fr 0 with hf0 | hf0
      · obtain ⟨hfs, hfe⟩ := Tl.none_ (by rw [HL.out]; exact HTl.out) hf0
        have HFs := Lib.hid hfs
        have HFe : Hid (fend Z = n2) := Lib.hid (by rw [hfe]; exact hl2.1)
        clear hfs hfe
        go_wp2_with fail
        refine (HX.out 0).mono ?_
        rintro e w3 ⟨hb3, A3, n3, c3, qs, rfl, ho3, hq3⟩
        have HB3 := Lib.hid (HB2.out.trans ((show Below w2.heap.size w2 w3 from ⟨hb3.os, hb3.tape, hb3.output, hb3.size, hb3.block⟩).mono HB2.out.size))
        have HO3 : Hid (OwnB w3 w.heap.size (.slice A2 n2 c2) Z) := Lib.hid (HO2.out.keep (show Below w2.heap.size w2 w3 from ⟨hb3.os, hb3.tape, hb3.output, hb3.size, hb3.block⟩) (Nat.le_refl _))
        have HRd := Lib.hid (ho3.rd (frames_fits hq3))
        have hn3 : n3 = k := by
          have h1 := congrArg List.length hq3
          rw [HFs.out] at h1
          simp only [Piece.bytes, List.length_map] at h1
          have h2 := (own_rowlen ho3.row).1
          have h3 := HL.out
          omega
        have HY := Lib.hid (alike_any A3 a n3 c3 k c qs ps w3 _ _ HRd.out (HR.out.below HB3.out) (by omega))
        rw [decide_eq_true (hq3.trans HFs.out)] at HY
        clear hb3 ho3 hq3 HRd hn3 HX
        go_wp2_with fail
        refine HY.out.mono ?_
        rintro e w4 ⟨rfl, z, rfl⟩
        have HB4 := Lib.hid (below_drewN HB3.out z)
        have HV := Lib.hid (HD.out A2 n2 c2 Z (w3.drewN z) (HT.out.next HB4.out) (own_reads HO3.out) hl2.2 HZb.out (by omega))
        unfold EndP at HV
        rw [HFe.out] at HV
        go_wp2_with fail
        refine HV.out.mono ?_
        rintro e w5 ⟨rfl, hb5⟩
        have HB5 := Lib.hid (HB4.out.trans (hb5.mono HB4.out.size))
        clear hb5
        go_wp2
        go_ret
        exact ⟨rfl, HB5.out⟩
      · obtain ⟨j, rfl, hj, hfs, hfe⟩ := Tl.some_ (fun p hp => (HK.out p hp).2) (by rw [HL.out]; exact HTl.out) hf0
        rw [HL.out] at hj
        have HFs := Lib.hid hfs
        have HFe := Lib.hid hfe
        have hfn : ¬ fr < 0 := by omega
        have kd : ∀ u : World, (Instr.slice 29 (.slice a k c) none (some (.int .i64 (j : Int))) none).run Tryd.prog u = .ok (.slice a j c) u := fun u => run_head Tryd.underlying29 (by kernel_rfl) a k c j (by omega) u
        have HV := Lib.hid (fun (w' : World) (hb : Below w.heap.size w w') (ho : OwnB w' w.heap.size (.slice A2 n2 c2) Z) => HD.out A2 n2 c2 Z w' (HT.out.next hb) (own_reads ho) hl2.2 HZb.out (by omega))
        unfold EndP at HV
        rw [HFe.out] at HV
        clear hfs hfe
        go_wp2_with fail
        go_region_held3 (fun w' => True) (trivial) (first
          | (go_at_call 16; go_must (refine (HX.out 1).mono ?_; rintro e w3 ⟨hb3, A3, n3, c3, qs, rfl, ho3, hq3⟩; have HC3 : Hid (Below w2.heap.size w2 w3) := Lib.hid ⟨hb3.os, hb3.tape, hb3.output, hb3.size, hb3.block⟩; have HB3 := Lib.hid (HB2.out.trans (HC3.out.mono HB2.out.size)); have HO3 : Hid (OwnB w3 w.heap.size (.slice A2 n2 c2) Z) := Lib.hid (HO2.out.keep HC3.out (Nat.le_refl _)); have HRd := Lib.hid (ho3.rd (frames_fits hq3)); have HQ3 := Lib.hid (hq3.trans HFs.out); have hn3 : n3 ≤ 4611686018427387904 := (by have h1 := congrArg List.length HQ3.out; simp only [Piece.bytes, List.length_map, List.length_take] at h1; have h2 := (own_rowlen ho3.row).1; have h3 := HL.out; omega); clear hb3 ho3 hq3))
          | (go_at_call 15; go_must (refine (alike_any A3 a n3 c3 j c qs (ps.take j) _ w3.heap.size w.heap.size (by exact HRd.out) (by exact (HR.out.below HB3.out).take (by omega)) hn3).mono ?_; rw [decide_eq_true HQ3.out]; rintro e w4 ⟨rfl, z, rfl⟩))
          | (go_at_call 17; go_must (refine (HV.out _ (by exact below_drewN HB3.out z) (by exact HO3.out)).mono ?_; rintro e w5 ⟨rfl, hb5⟩; have HB5 := Lib.hid ((below_drewN HB3.out z).trans (hb5.mono HB3.out.size)); clear hb5)))
        all_goals
          go_wp2
          go_ret
          exact ⟨rfl, HB5.out⟩
end Go.Proofs.YtmmjmaohbmlfgaaDoor.Pk
