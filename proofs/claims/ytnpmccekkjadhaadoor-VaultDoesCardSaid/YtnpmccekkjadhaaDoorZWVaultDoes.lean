/- The walk of the law VaultDoes (written by gen_does.py). -/
import Derived.Test.YtnpmccekkjadhaaDoorZWak
import Derived.Test.YtnpmccekkjadhaaDoorZVkHeavy
import Derived.Test.YtnpmccekkjadhaaDoorZVkKept
import Derived.Test.YtnpmccekkjadhaaDoorZVkPair
import Derived.Test.YtnpmccekkjadhaaDoorZRefB
import Derived.Test.YtnpmccekkjadhaaDoorZRef
namespace Go.Proofs.YtnpmccekkjadhaaDoor.Pk
open Go.RowKit Go.Proofs.YtnpmccekkjadhaaDoor.Ar Go.Proofs.YtnpmccekkjadhaaDoor.Crc Go.Proofs.YtnpmccekkjadhaaDoor.Fr Go.Proofs.YtnpmccekkjadhaaDoor.Dk Go.Proofs.YtnpmccekkjadhaaDoor.Vk
set_option linter.unusedVariables false

set_option maxRecDepth 100000 in
set_option maxHeartbeats 16000000 in
theorem law_VaultDoes (openC : OpenC) (appendC : AppendC) (ckpC : CkpC) (countC : CountC) (genC : GenC) (a : Option Addr) (n c : Nat) (l : List Int) (b : Option Addr) (m e : Nat) (r : List Int) (f : Option Addr) (k j : Nat) (os : List OpV) (w : World) (ht : Tab w) (h1 : ArgB w a n c l) (h2 : ArgB w b m e r) (h3 : ArgV w f k j os) :
    Calls Tryd.prog 3 #[.slice a n c, .slice b m e, .slice f k j] w fun e w' => e = .returned (.bool true) ∧ Below w.heap.size w w' := by
  have HArg := Lib.hid h3
  obtain ⟨hr1, hc1, hx1, hB1⟩ := h1
  obtain ⟨hr2, hc2, hx2, hB2⟩ := h2
  have hnm : n + m ≤ 562949953421312 := by omega
  clear hx1 hx2
  obtain ⟨hro, hkj, _, hok⟩ := h3
  have HO := Lib.hid openC
  have HA := Lib.hid appendC
  have HCk := Lib.hid ckpC
  have HC := Lib.hid countC
  have HGe := Lib.hid genC
  have HT := Lib.hid ht
  have HR1 := Lib.hid hr1
  have HR2 := Lib.hid hr2
  have HB1 : Hid (Bytes l) := Lib.hid hB1
  have HB2 : Hid (Bytes r) := Lib.hid hB2
  have HL1 : Hid (l.length = n) := Lib.hid (by have := hr1.1; simpa using this)
  have HL2 : Hid (r.length = m) := Lib.hid (by have := hr2.1; simpa using this)
  have HRO := Lib.hid hro
  have HK := Lib.hid hok
  have HM : Hid (os.length = k) := Lib.hid hro.olen
  have hp := ht.pos
  have HP := Lib.hid hp
  clear openC appendC ckpC countC genC ht hro hok hp hr1 hr2 hB1 hB2 hc1 hc2
  go_enter Tryd.func3, Tryd.ntmps3
  go_wp2_with fail
  refine (wakes_any HO.out HA.out w HT.out).mono ?_
  rintro e1 w1 ⟨rfl, hb1⟩
  have HW1 := Lib.hid hb1
  clear hb1
  go_wp2_with fail
  refine (heavy_any a b f n m k c e j os w1 (by omega) (ArgV.next HArg.out HW1.out)).mono ?_
  rintro e2 w2 ⟨hb2, y, rfl, hy⟩
  have HW2 := Lib.hid (HW1.out.trans (hb2.mono HW1.out.size))
  clear hb2
  cases y
  case true =>
    go_wp2
    go_ret
    exact ⟨rfl, HW2.out⟩
  case false =>
  obtain ⟨hy1, hk2⟩ := hy rfl
  have hbulk : n + m ≤ 2097152 := by omega
  clear hnm
  have HY := Lib.hid hy1
  clear hy hy1
  go_wp2_with fail
  refine (load_any a b n c m e l r w2 ((HR1.out.below HW2.out).more HW2.out.size) ((HR2.out.below HW2.out).more HW2.out.size) (by omega) (by omega)).mono ?_
  rintro e3 w3 ⟨R, S, rfl, hD, hS, hb3⟩
  have HW3 := Lib.hid (HW2.out.trans (hb3.mono HW2.out.size))
  go_wp2_with fail
  refine (load_ref a b n c m e l r w3 ((HR1.out.below HW3.out).more HW3.out.size) ((HR2.out.below HW3.out).more HW3.out.size) (by omega) (by omega)).mono ?_
  rintro e4 w4 ⟨R', S', rfl, hD', hS', hb4⟩
  have HS4 : Hid (Side w R R' (DK.new l r) (DK.new l r) none (.pointer none) (.pointer none) S S' w4) := Lib.hid ⟨.inl ⟨rfl, rfl, rfl, hD.next hb4, hD'⟩, fun b h1 h2 => by have := hD.lt b h1; have := hS' b h2; omega, fun b hb => Nat.le_trans HW2.out.size (hS b hb), fun b hb => Nat.le_trans HW3.out.size (hS' b hb), HW3.out.trans (hb4.mono HW3.out.size)⟩
  obtain ⟨t, hte⟩ : ∃ t, t = n + m := ⟨_, rfl⟩
  have HFt4 : Hid ((DK.new l r).fit t 0) := Lib.hid (DK.fit.new l r (by have := HL1.out; omega) (by have := HL2.out; omega))
  have HDb4 : Hid (DkB (DK.new l r)) := Lib.hid ⟨by show Bytes (l ++ []); rw [List.append_nil]; exact HB1.out, by show Bytes (r ++ []); rw [List.append_nil]; exact HB2.out⟩
  rw [← hte] at HY
  clear hD hS hb3 hD' hS' hb4 hte HR1 HR2 HB1 HB2 HL1 HL2
  go_wp2
  go_loopw [9, 10, 12, 13, 14, 15, 16, 33] (fun s9 s10 _ _ _ _ _ i wr => ∃ (q : Nat) (d : DK) (ov : Option VK) (U U' : Nat → Prop), i = .int .i64 q ∧ q ≤ k ∧ Side w R R' d d ov s9 s10 U U' wr ∧ d.fit (t + bSum os q + q * 16) (4 * q) ∧ DkB d ∧ ∀ v, ov = some v → Vok v (t + bSum os q + q * 16)) (fun _ _ _ _ _ _ _ i _ => k - (intOf i).toNat)
  case atStart => exact ⟨0, _, none, S, S', rfl, by omega, HS4.out, HFt4.out.mono (by omega) (by omega), HDb4.out, fun v h => by cases h⟩
  case round =>
    obtain ⟨q, d, ov, U, U', rfl, hq, hSd, hFt, hDb, hVk⟩ := hrel
    obtain ⟨w6, rfl⟩ : ∃ w6 : World, w6 = wr := ⟨_, rfl⟩
    have HSd := Lib.hid hSd
    have HDb := Lib.hid hDb
    clear hSd hDb HS4 HFt4 HDb4
    by_cases hlt : q < k
    rotate_left
    · obtain rfl : q = k := by omega
      go_wp2
      go_ret
      exact ⟨rfl, HSd.out.bel⟩
    obtain ⟨pb, off, rfl, hbb, hcs⟩ := (HRO.out.below HSd.out.bel).ops_ (by omega)
    obtain ⟨o, ho⟩ : ∃ o, os[q]? = some o := ⟨_, List.getElem?_eq_getElem (by rw [HM.out]; exact hlt)⟩
    obtain ⟨x0, x1, x2, x3⟩ := hcs q o ho
    have hkr := HK.out o (List.mem_of_getElem? ho)
    have hnx := bSum_next ho
    have hle := bSum_le (l := os) (k := q) (j := k) (by omega)
    obtain ⟨kd, on, ok, ob, oA, om, oq⟩ := o
    simp only at x0 x1 x2 x3 hnx
    obtain ⟨M, hMe⟩ : ∃ M, M = t + bSum os q + q * 16 := ⟨_, rfl⟩
    have hM : M ≤ 2113536 := by have := HY.out; omega
    have HNx : Hid (t + bSum os (q + 1) + (q + 1) * 16 = M + om + 16) := Lib.hid (by rw [hnx, hMe]; omega)
    rw [← hMe] at hFt hVk
    have HFt := Lib.hid hFt
    have HVk := Lib.hid hVk
    have HRb : Hid (Reads w w.heap.size 1 oA om (bts ob)) := Lib.hid hkr.1
    have hom : om ≤ 2097152 := by have h1 := bSum_le (l := os) (k := q + 1) (j := k) (by omega); have := HY.out; omega
    have homq : om ≤ oq := hkr.2.2.1
    have HBo : Hid (Bytes ob) := Lib.hid hkr.2.2.2.1
    have HNm := Lib.hid hkr.2.2.2.2
    have HOl : Hid (ob.length = om) := Lib.hid (by have := hkr.1.1; simpa using this)
    clear hcs ho hkr hnx hle hMe hFt hVk
    obtain ⟨w7, hw7⟩ : ∃ w7, w7 = w6.alloc (.cells #[.int .i64 kd, .int .i64 on, .int .i64 ok, .slice oA om oq] 33) := ⟨_, rfl⟩
    have hb7 : Below w6.heap.size w6 w7 := hw7 ▸ (Below.refl _ _).alloc (Nat.le_refl _) _
    have HO7 : Hid (Blk w7 w6.heap.size 33 #[.int .i64 kd, .int .i64 on, .int .i64 ok, .slice oA om oq]) := Lib.hid (hw7 ▸ Blk.new w6 _ _)
    obtain ⟨p, hp⟩ : ∃ p, p = w6.heap.size := ⟨_, rfl⟩
    have HUp : Hid ((∀ b, U b → b < p) ∧ ∀ b, U' b → b < p) := Lib.hid (hp ▸ HSd.out.lt)
    rw [← hp] at HO7
    have hp7 : p < w7.heap.size := HO7.out.lt
    have HS7 := Lib.hid (HSd.out.next hb7)
    have HR7 : Hid (Reads w7 w7.heap.size 1 oA om (bts ob)) := Lib.hid ((HRb.out.below HS7.out.bel).more HS7.out.bel.size)
    have y0 : w7.cell? ⟨p, 0, none⟩ = some (.int .i64 kd) := by rw [HO7.out.cell]; rfl
    have y1 : w7.cell? ⟨p, 1, none⟩ = some (.int .i64 on) := by rw [HO7.out.cell]; rfl
    have y2 : w7.cell? ⟨p, 2, none⟩ = some (.int .i64 ok) := by rw [HO7.out.cell]; rfl
    have y3 : w7.cell? ⟨p, 3, none⟩ = some (.slice oA om oq) := by rw [HO7.out.cell]; rfl
    clear hb7 HSd

    by_cases h0 : kd = 0
    case pos =>
     subst h0
     have hcase := HS7.out.at_
     rcases hcase with ⟨rfl, rfl, rfl, _, _⟩ | ⟨v, Q, Q', rfl, rfl, rfl, hmP, hmR⟩
     case inl =>

      have HS9 := HS7
      have HFt9 := HFt
      have HDb9 := HDb
      have HVk9 : Hid (∀ v, none = some v → Vok v (M + om + 16)) := Lib.hid (fun v h => (HVk.out v h).mono (by omega))
      have HHd := Lib.hid (by
        obtain ⟨S9, hD9, _, _⟩ := HS9.out.diskP
        obtain ⟨S9', hD9', _, _⟩ := HS9.out.diskR
        exact held_any HC.out HGe.out R R' d S9 S9' _ _ w7 hD9 hD9' HS9.out.both _ _ HFt9.out (by omega) (by omega))
      go_wp2_with fail
      rw [← hw7]
      clear hw7
      refine HHd.out.mono ?_
      rintro e10 w10 ⟨rfl, hb10⟩
      have HS10 := Lib.hid (HS9.out.next hb10)
      clear hb10 HHd
      go_wp2
      go_roundw
      case rel => exact ⟨q + 1, d, none, _, _, by go_num, by omega, HS10.out, (by rw [HNx.out]; exact HFt9.out.mono (by have := HOl.out; omega) (by omega)), HDb9.out, (by rw [HNx.out]; exact HVk9.out)⟩
      case measure => simp [intOf]; omega

     case inr =>
      have HmP := Lib.hid hmP
      have HmR := Lib.hid hmR
      have hvk := HVk.out v rfl
      have hrs := hvk.rs
      have HFrP : Hid (Free U oA om) := Lib.hid (free_base HRb.out HS7.out.n1)
      have HFrR : Hid (Free U' oA om) := Lib.hid (free_base HRb.out HS7.out.n2)
      obtain ⟨x, hx⟩ : ∃ x, x = (apd d v ob).1 := ⟨_, rfl⟩
      obtain ⟨d8, hd8⟩ : ∃ d8, d8 = (apd d v ob).2.1 := ⟨_, rfl⟩
      obtain ⟨v8, hv8⟩ : ∃ v8, v8 = (apd d v ob).2.2 := ⟨_, rfl⟩
      have HAp : Hid (∀ i, Calls Tryd.prog 12 #[.pointer (some ⟨Q, 0, none⟩), .slice oA om oq] (w7.drewN i) (AftP Q R d8 v8 U (w7.drewN i) x)) := Lib.hid (fun i => by
        rw [hx, hd8, hv8]
        exact HA.out Q R oA om oq ob d v U (w7.drewN i) (HT.out.next (below_drewN HS7.out.bel i)) (fun h0 => by have := HS7.out.n1 0 h0; have := HP.out; omega) (HmP.out.drewN i) HR7.out homq HBo.out HFrP.out hvk.file (by omega) (by omega) _ _ HFt.out (by omega) (by omega))
      have HAr : Hid (∀ w8, ModR w8 Q' R' d v U' → Below w.heap.size w w8 → Calls Tryd.prog 13 #[.pointer (some ⟨Q', 0, none⟩), .slice oA om oq] w8 (AftM Q' R' d8 v8 U' w8 x)) := Lib.hid (fun w8 hm8 hb8 => by
        rw [hx, hd8, hv8]
        exact appendR_any Q' R' oA om oq ob d v U' w8 hm8 ((HRb.out.below hb8).more hb8.size) HBo.out HFrR.out hvk.file (by omega) (by omega) _ _ HFt.out (by omega) (by omega))
      have HFt9 : Hid (d8.fit (M + om + 16) (4 * q + 4)) := Lib.hid (by rw [hd8]; exact (apd_fit HFt.out v ob).mono (by have := HOl.out; omega) (by omega))
      have HDb9 : Hid (DkB d8) := Lib.hid (by rw [hd8]; exact DkB.apd HDb.out v HBo.out)
      have HVk9 : Hid (∀ v, some v8 = some v → Vok v (M + om + 16)) := Lib.hid (fun v' h => by injection h with h; rw [← h, hv8]; exact (apd_vok hvk).mono (by omega))
      clear hmP hmR hvk hrs hx hd8 hv8 HFt HDb HVk
      go_wp2_with fail
      rw [← hw7, ← hp]
      clear hw7 hp
      go_region_held3 (fun w' => w'.cell? ⟨p, 3, none⟩ = some (.slice oA om oq)) (first | exact y3 | exact Y8 | exact Y9 | go_keep) (first
        | (go_at_call 12; go_must (refine (HAp.out 1).mono ?_; rintro e8 w8 ⟨rfl, V, k1, t1, f1⟩; have K1 := Lib.hid k1; have ST := Lib.hid (step_one (HmR.out.drewN 1) HS7.out.ap HS7.out.n1 (below_drewN HS7.out.bel 1) t1 f1); have HO8 : Hid (Blk w8 p 33 #[.int .i64 0, .int .i64 on, .int .i64 ok, .slice oA om oq]) := Lib.hid ((t1.block p hp7 (fun hs => by have := HUp.out.1 p hs; omega)).trans HO7.out); have Y8 : w8.cell? ⟨p, 3, none⟩ = some (.slice oA om oq) := (by rw [HO8.out.cell]; rfl); have hp8 : p < w8.heap.size := HO8.out.lt; clear k1 t1 f1))
        | (go_at_call 13; go_must (refine (HAr.out w8 ST.out.1 ST.out.2.2.2).mono ?_; rintro e9 w9 ⟨rfl, V', k2, t2, f2⟩; have HS9 := Lib.hid (step_two K1.out ST.out.2.1 ST.out.2.2.1 HS7.out.n2 ST.out.2.2.2 k2 t2 f2); have Y9 : w9.cell? ⟨p, 3, none⟩ = some (.slice oA om oq) := (by rw [(show Blk w9 p 33 _ from (t2.block p hp8 (fun hs => by have := HUp.out.2 p hs; omega)).trans HO8.out).cell]; rfl); clear k2 t2 f2)))
      all_goals

       have HHd := Lib.hid (by
         obtain ⟨S9, hD9, _, _⟩ := HS9.out.diskP
         obtain ⟨S9', hD9', _, _⟩ := HS9.out.diskR
         exact held_any HC.out HGe.out R R' d8 S9 S9' _ _ w9 hD9 hD9' HS9.out.both _ _ HFt9.out (by omega) (by omega))
       go_wp2_with fail
       refine HHd.out.mono ?_
       rintro e10 w10 ⟨rfl, hb10⟩
       have HS10 := Lib.hid (HS9.out.next hb10)
       clear hb10 HHd
       go_wp2
       go_roundw
       case rel => exact ⟨q + 1, d8, (some v8), _, _, by go_num, by omega, HS10.out, (by rw [HNx.out]; exact HFt9.out.mono (by have := HOl.out; omega) (by omega)), HDb9.out, (by rw [HNx.out]; exact HVk9.out)⟩
       case measure => simp [intOf]; omega

    case neg =>
    have c0 : (kd == 0) = false := by simp [h0]

    by_cases h1 : kd = 1
    case pos =>
     subst h1
     have hcase := HS7.out.at_
     rcases hcase with ⟨rfl, rfl, rfl, _, _⟩ | ⟨v, Q, Q', rfl, rfl, rfl, hmP, hmR⟩
     case inl =>

      have HS9 := HS7
      have HFt9 := HFt
      have HDb9 := HDb
      have HVk9 : Hid (∀ v, none = some v → Vok v (M + om + 16)) := Lib.hid (fun v h => (HVk.out v h).mono (by omega))
      have HHd := Lib.hid (by
        obtain ⟨S9, hD9, _, _⟩ := HS9.out.diskP
        obtain ⟨S9', hD9', _, _⟩ := HS9.out.diskR
        exact held_any HC.out HGe.out R R' d S9 S9' _ _ w7 hD9 hD9' HS9.out.both _ _ HFt9.out (by omega) (by omega))
      go_wp2_with fail
      rw [← hw7]
      clear hw7
      refine HHd.out.mono ?_
      rintro e10 w10 ⟨rfl, hb10⟩
      have HS10 := Lib.hid (HS9.out.next hb10)
      clear hb10 HHd
      go_wp2
      go_roundw
      case rel => exact ⟨q + 1, d, none, _, _, by go_num, by omega, HS10.out, (by rw [HNx.out]; exact HFt9.out.mono (by have := HOl.out; omega) (by omega)), HDb9.out, (by rw [HNx.out]; exact HVk9.out)⟩
      case measure => simp [intOf]; omega

     case inr =>
      have HmP := Lib.hid hmP
      have HmR := Lib.hid hmR
      have hvk := HVk.out v rfl
      have hrs := hvk.rs
      have HFrP : Hid (Free U oA om) := Lib.hid (free_base HRb.out HS7.out.n1)
      have HFrR : Hid (Free U' oA om) := Lib.hid (free_base HRb.out HS7.out.n2)
      obtain ⟨x, hx⟩ : ∃ x, x = (ckp d v ob).1 := ⟨_, rfl⟩
      obtain ⟨d8, hd8⟩ : ∃ d8, d8 = (ckp d v ob).2.1 := ⟨_, rfl⟩
      obtain ⟨v8, hv8⟩ : ∃ v8, v8 = (ckp d v ob).2.2 := ⟨_, rfl⟩
      have HAp : Hid (∀ i, Calls Tryd.prog 14 #[.pointer (some ⟨Q, 0, none⟩), .slice oA om oq] (w7.drewN i) (AftP Q R d8 v8 U (w7.drewN i) x)) := Lib.hid (fun i => by
        rw [hx, hd8, hv8]
        exact HCk.out Q R oA om oq ob d v U (w7.drewN i) (HT.out.next (below_drewN HS7.out.bel i)) (fun h0 => by have := HS7.out.n1 0 h0; have := HP.out; omega) (HmP.out.drewN i) HR7.out homq HBo.out HFrP.out hvk.file (by omega) hvk.g _ _ HFt.out (by omega) (by omega))
      have HAr : Hid (∀ w8, ModR w8 Q' R' d v U' → Below w.heap.size w w8 → Calls Tryd.prog 15 #[.pointer (some ⟨Q', 0, none⟩), .slice oA om oq] w8 (AftM Q' R' d8 v8 U' w8 x)) := Lib.hid (fun w8 hm8 hb8 => by
        rw [hx, hd8, hv8]
        exact ckpR_any Q' R' oA om oq ob d v U' w8 hm8 ((HRb.out.below hb8).more hb8.size) HBo.out HFrR.out hvk.file (by omega) hvk.g _ _ HFt.out (by omega) (by omega))
      have HFt9 : Hid (d8.fit (M + om + 16) (4 * q + 4)) := Lib.hid (by rw [hd8]; exact (ckp_fit HFt.out v ob).mono (by have := HOl.out; omega) (by omega))
      have HDb9 : Hid (DkB d8) := Lib.hid (by rw [hd8]; exact DkB.ckp HDb.out v HBo.out)
      have HVk9 : Hid (∀ v, some v8 = some v → Vok v (M + om + 16)) := Lib.hid (fun v' h => by injection h with h; rw [← h, hv8]; exact (ckp_vok hvk).mono (by omega))
      clear hmP hmR hvk hrs hx hd8 hv8 HFt HDb HVk
      go_wp2_with fail
      rw [← hw7, ← hp]
      clear hw7 hp
      go_region_held3 (fun w' => w'.cell? ⟨p, 3, none⟩ = some (.slice oA om oq)) (first | exact y3 | exact Y8 | exact Y9 | go_keep) (first
        | (go_at_call 14; go_must (refine (HAp.out 1).mono ?_; rintro e8 w8 ⟨rfl, V, k1, t1, f1⟩; have K1 := Lib.hid k1; have ST := Lib.hid (step_one (HmR.out.drewN 1) HS7.out.ap HS7.out.n1 (below_drewN HS7.out.bel 1) t1 f1); have HO8 : Hid (Blk w8 p 33 #[.int .i64 1, .int .i64 on, .int .i64 ok, .slice oA om oq]) := Lib.hid ((t1.block p hp7 (fun hs => by have := HUp.out.1 p hs; omega)).trans HO7.out); have Y8 : w8.cell? ⟨p, 3, none⟩ = some (.slice oA om oq) := (by rw [HO8.out.cell]; rfl); have hp8 : p < w8.heap.size := HO8.out.lt; clear k1 t1 f1))
        | (go_at_call 15; go_must (refine (HAr.out w8 ST.out.1 ST.out.2.2.2).mono ?_; rintro e9 w9 ⟨rfl, V', k2, t2, f2⟩; have HS9 := Lib.hid (step_two K1.out ST.out.2.1 ST.out.2.2.1 HS7.out.n2 ST.out.2.2.2 k2 t2 f2); have Y9 : w9.cell? ⟨p, 3, none⟩ = some (.slice oA om oq) := (by rw [(show Blk w9 p 33 _ from (t2.block p hp8 (fun hs => by have := HUp.out.2 p hs; omega)).trans HO8.out).cell]; rfl); clear k2 t2 f2)))
      all_goals

       have HHd := Lib.hid (by
         obtain ⟨S9, hD9, _, _⟩ := HS9.out.diskP
         obtain ⟨S9', hD9', _, _⟩ := HS9.out.diskR
         exact held_any HC.out HGe.out R R' d8 S9 S9' _ _ w9 hD9 hD9' HS9.out.both _ _ HFt9.out (by omega) (by omega))
       go_wp2_with fail
       refine HHd.out.mono ?_
       rintro e10 w10 ⟨rfl, hb10⟩
       have HS10 := Lib.hid (HS9.out.next hb10)
       clear hb10 HHd
       go_wp2
       go_roundw
       case rel => exact ⟨q + 1, d8, (some v8), _, _, by go_num, by omega, HS10.out, (by rw [HNx.out]; exact HFt9.out.mono (by have := HOl.out; omega) (by omega)), HDb9.out, (by rw [HNx.out]; exact HVk9.out)⟩
       case measure => simp [intOf]; omega

    case neg =>
    have c1 : (kd == 1) = false := by simp [h1]

    by_cases h2 : kd = 2
    case pos =>
      subst h2
      obtain ⟨S7, hD7, hS7, hst7⟩ := HS7.out.diskP
      have HD7 := Lib.hid hD7
      have HSub7 := Lib.hid hS7
      have HSt7 := Lib.hid hst7
      have HLs : Hid (d.f0.all.length ≤ 140737488355328 ∧ d.f1.all.length ≤ 140737488355328) := Lib.hid ⟨Nat.le_trans HFt.out.l0 (by omega), Nat.le_trans HFt.out.l1 (by omega)⟩
      clear hD7 hS7 hst7
      go_wp2_with fail
      rw [← hw7, ← hp]
      clear hw7 hp
      refine (arm_any R on ok d S7 w7 HD7.out).mono ?_
      rintro e8 w8 ⟨rfl, S8, hD8, t8, f8⟩
      obtain ⟨V8, hs8, _⟩ := HSt7.out _ w8 S8 hD8 t8 f8
      have HO8 : Hid (Blk w8 p 33 #[.int .i64 2, .int .i64 on, .int .i64 ok, .slice oA om oq]) := Lib.hid ((t8.block p hp7 (fun hs => by have := HUp.out.1 p (HSub7.out p hs); omega)).trans HO7.out)
      have hp8 : p < w8.heap.size := HO8.out.lt
      have Y1 : w8.cell? ⟨p, 1, none⟩ = some (.int .i64 on) := by rw [HO8.out.cell]; rfl
      have Y2 : w8.cell? ⟨p, 2, none⟩ = some (.int .i64 ok) := by rw [HO8.out.cell]; rfl
      obtain ⟨S8', hD8', _, hst8⟩ := hs8.diskR
      have HD8 := Lib.hid hD8'
      have HSt8 := Lib.hid hst8
      clear hD8 t8 f8 hs8 hD8' hst8 y0 y1 y2 y3
      go_wp2_with fail
      refine (arm_ref R' on ok d S8' w8 HD8.out).mono ?_
      rintro e9 w9 ⟨rfl, S9, hD9, t9, f9⟩
      obtain ⟨V9, hs9⟩ := HSt8.out _ w9 S9 hD9 t9 f9
      have HS9 := Lib.hid hs9
      obtain ⟨d9, hd9⟩ : ∃ d9, d9 = d.arm on ok := ⟨_, rfl⟩
      rw [← hd9] at HS9
      have HFt9 : Hid (d9.fit (M + om + 16) (4 * q + 4)) := Lib.hid (by rw [hd9]; exact (fit_arm HFt.out on ok HNm.out.1 HNm.out.2.1 HNm.out.2.2).mono (by omega) (by omega))
      have HDb9 : Hid (DkB d9) := Lib.hid (by rw [hd9]; exact DkB.arm HDb.out on ok)
      have HVk9 : Hid (∀ v, ov = some v → Vok v (M + om + 16)) := Lib.hid (fun v h => (HVk.out v h).mono (by omega))
      clear hD9 t9 f9 hs9 hd9

      have HHd := Lib.hid (by
        obtain ⟨S9, hD9, _, _⟩ := HS9.out.diskP
        obtain ⟨S9', hD9', _, _⟩ := HS9.out.diskR
        exact held_any HC.out HGe.out R R' d9 S9 S9' _ _ w9 hD9 hD9' HS9.out.both _ _ HFt9.out (by omega) (by omega))
      go_wp2_with fail
      refine HHd.out.mono ?_
      rintro e10 w10 ⟨rfl, hb10⟩
      have HS10 := Lib.hid (HS9.out.next hb10)
      clear hb10 HHd
      go_wp2
      go_roundw
      case rel => exact ⟨q + 1, d9, ov, _, _, by go_num, by omega, HS10.out, (by rw [HNx.out]; exact HFt9.out.mono (by have := HOl.out; omega) (by omega)), HDb9.out, (by rw [HNx.out]; exact HVk9.out)⟩
      case measure => simp [intOf]; omega

    case neg =>
    have c2 : (kd == 2) = false := by simp [h2]

    by_cases h3 : kd = 3
    case pos =>
      subst h3
      obtain ⟨S7, hD7, hS7, hst7⟩ := HS7.out.diskP
      have HD7 := Lib.hid hD7
      have HSub7 := Lib.hid hS7
      have HSt7 := Lib.hid hst7
      have HLs : Hid (d.f0.all.length ≤ 140737488355328 ∧ d.f1.all.length ≤ 140737488355328) := Lib.hid ⟨Nat.le_trans HFt.out.l0 (by omega), Nat.le_trans HFt.out.l1 (by omega)⟩
      clear hD7 hS7 hst7
      go_wp2_with fail
      rw [← hw7, ← hp]
      clear hw7 hp
      refine (off_any R ok d S7 w7 HD7.out (by have := HLs.out.1; omega) (by have := HLs.out.2; omega)).mono ?_
      rintro e8 w8 ⟨rfl, S8, hD8, t8, f8⟩
      obtain ⟨V8, hs8, _⟩ := HSt7.out _ w8 S8 hD8 t8 f8
      have HO8 : Hid (Blk w8 p 33 #[.int .i64 3, .int .i64 on, .int .i64 ok, .slice oA om oq]) := Lib.hid ((t8.block p hp7 (fun hs => by have := HUp.out.1 p (HSub7.out p hs); omega)).trans HO7.out)
      have hp8 : p < w8.heap.size := HO8.out.lt
      have Y2 : w8.cell? ⟨p, 2, none⟩ = some (.int .i64 ok) := by rw [HO8.out.cell]; rfl
      obtain ⟨S8', hD8', _, hst8⟩ := hs8.diskR
      have HD8 := Lib.hid hD8'
      have HSt8 := Lib.hid hst8
      clear hD8 t8 f8 hs8 hD8' hst8 y0 y1 y2 y3
      go_wp2_with fail
      refine (off_ref R' ok d S8' w8 HD8.out HLs.out.1 HLs.out.2).mono ?_
      rintro e9 w9 ⟨rfl, S9, hD9, t9, f9⟩
      obtain ⟨V9, hs9⟩ := HSt8.out _ w9 S9 hD9 t9 f9
      have HS9 := Lib.hid hs9
      obtain ⟨d9, hd9⟩ : ∃ d9, d9 = d.offs ok := ⟨_, rfl⟩
      rw [← hd9] at HS9
      have HFt9 : Hid (d9.fit (M + om + 16) (4 * q + 4)) := Lib.hid (by rw [hd9]; exact (HFt.out.offs ok).mono (by omega) (by omega))
      have HDb9 : Hid (DkB d9) := Lib.hid (by rw [hd9]; exact DkB.offs HDb.out ok)
      have HVk9 : Hid (∀ v, ov = some v → Vok v (M + om + 16)) := Lib.hid (fun v h => (HVk.out v h).mono (by omega))
      clear hD9 t9 f9 hs9 hd9

      have HHd := Lib.hid (by
        obtain ⟨S9, hD9, _, _⟩ := HS9.out.diskP
        obtain ⟨S9', hD9', _, _⟩ := HS9.out.diskR
        exact held_any HC.out HGe.out R R' d9 S9 S9' _ _ w9 hD9 hD9' HS9.out.both _ _ HFt9.out (by omega) (by omega))
      go_wp2_with fail
      refine HHd.out.mono ?_
      rintro e10 w10 ⟨rfl, hb10⟩
      have HS10 := Lib.hid (HS9.out.next hb10)
      clear hb10 HHd
      go_wp2
      go_roundw
      case rel => exact ⟨q + 1, d9, ov, _, _, by go_num, by omega, HS10.out, (by rw [HNx.out]; exact HFt9.out.mono (by have := HOl.out; omega) (by omega)), HDb9.out, (by rw [HNx.out]; exact HVk9.out)⟩
      case measure => simp [intOf]; omega

    case neg =>
    have c3 : (kd == 3) = false := by simp [h3]

    by_cases h4 : kd = 4
    case pos =>
      subst h4
      obtain ⟨S7, hD7, hS7, hst7⟩ := HS7.out.diskP
      have HD7 := Lib.hid hD7
      have HSub7 := Lib.hid hS7
      have HSt7 := Lib.hid hst7
      clear hD7 hS7 hst7
      go_wp2_with fail
      rw [← hw7, ← hp]
      clear hw7 hp
      refine (on_any R d S7 w7 HD7.out).mono ?_
      rintro e8 w8 ⟨rfl, S8, hD8, t8, f8⟩
      obtain ⟨V8, hs8, hfv⟩ := HSt7.out _ w8 S8 hD8 t8 f8
      have HO8 : Hid (Blk w8 p 33 #[.int .i64 4, .int .i64 on, .int .i64 ok, .slice oA om oq]) := Lib.hid ((t8.block p hp7 (fun hs => by have := HUp.out.1 p (HSub7.out p hs); omega)).trans HO7.out)
      have hp8 : p < w8.heap.size := HO8.out.lt
      obtain ⟨S8', hD8', hS8', hst8⟩ := hs8.diskR
      have hself := hD8'.self
      have hRp : R' ≠ p := fun e => by have := HUp.out.2 R' (hS8' R' hself); omega
      obtain ⟨w9, hw9⟩ : ∃ w9, w9 = w8.setCell ⟨R', 4, none⟩ (.bool true) := ⟨_, rfl⟩
      have hk9 : DkR w9 R' d.ons S8' := hw9 ▸ hD8'.num 4 (.bool true) rfl (fun v => rfl)
      have ht9 : Turned S8' w8 w9 := hw9 ▸ (Turned.refl S8' w8).set (p := ⟨R', 4, none⟩) hself _
      obtain ⟨V9, hs9⟩ := hst8 d.ons w9 S8' hk9 ht9 (From.refl _ _)
      have HS8 := Lib.hid hs9
      have z4 : w8.cell? ⟨R', 4, none⟩ = some (.bool d.on) := by obtain ⟨v, hbk, _, _⟩ := hD8'; rw [hbk.cell]; rfl
      have f4 : w8.frozen? ⟨R', 4, none⟩ = false := by obtain ⟨v, hbk, _, _⟩ := hD8'; exact hbk.frozen 4
      have HO9 : Hid (Blk w9 p 33 #[.int .i64 4, .int .i64 on, .int .i64 ok, .slice oA om oq]) := Lib.hid ((ht9.block p hp8 (fun hs => by have := HUp.out.2 p (hS8' p hs); omega)).trans HO8.out)
      have hp9 : p < w9.heap.size := HO9.out.lt
      have Y3 : w8.cell? ⟨p, 3, none⟩ = some (.slice oA om oq) := by rw [HO8.out.cell]; rfl
      have HV8 : Hid (∀ b, V8 b → b ≠ p) := Lib.hid (fun b hb e => by subst e; rcases hfv b hb with h1 | h1; have := HUp.out.1 b h1; omega; omega)
      have HFt8 : Hid (d.ons.fit M (4 * q)) := Lib.hid (fit_ons HFt.out)
      have HDb8 : Hid (DkB d.ons) := Lib.hid (DkB.ons HDb.out)
      obtain ⟨d9, hd9⟩ : ∃ d9, d9 = d.ons := ⟨_, rfl⟩
      rw [← hd9] at HS8 HFt8 HDb8
      clear hD8 t8 f8 hfv hs8 hD8' hS8' hself hst8 hs9 hk9 ht9 y0 y1 y2 y3 hd9

      obtain ⟨SP, hDP, hSP, _⟩ := HS8.out.diskP
      obtain ⟨SR, hDR, hSR, _⟩ := HS8.out.diskR
      have hn1 : Hid (∀ b, SP b → w.heap.size ≤ b) := Lib.hid (fun b hb => HS8.out.n1 b (hSP b hb))
      have hn2 : Hid (∀ b, SR b → w.heap.size ≤ b) := Lib.hid (fun b hb => HS8.out.n2 b (hSR b hb))
      have hapx : Hid (∀ b, SP b → ¬ SR b) := Lib.hid (fun b h1 h2 => HS8.out.ap b (hSP b h1) (hSR b h2))
      have HPp : Hid (¬ SP p) := Lib.hid (fun hs => by have := HV8.out p (hSP p hs); omega)
      have HOp := Lib.hid (HO.out R oA om oq ob d9 SP w9 (HT.out.next HS8.out.bel) (fun h0 => by have := hn1.out 0 h0; have := HP.out; omega) hDP ((HRb.out.below HS8.out.bel).more HS8.out.bel.size) homq HBo.out HDb8.out (free_base HRb.out hn1.out) (by omega) _ _ HFt8.out (by omega) (by omega))
      have HOr : Hid (∀ w10, DkR w10 R' d9 SR → Below w.heap.size w w10 → Calls Tryd.prog 22 #[.pointer (some ⟨R', 0, none⟩), .slice oA om oq] w10 (OpnR R' d9 ob SR w10)) := Lib.hid (fun w10 h10 b10 => openR_any R' oA om oq ob d9 SR w10 h10 ((HRb.out.below b10).more b10.size) HBo.out HDb8.out (by omega) (free_base HRb.out hn2.out) _ _ HFt8.out (by omega) (by omega))
      have HDR := Lib.hid hDR
      obtain ⟨d10, hd10⟩ : ∃ d10, d10 = (opn d9 ob).2.1 := ⟨_, rfl⟩
      obtain ⟨x, hx⟩ : ∃ x, x = (opn d9 ob).1 := ⟨_, rfl⟩
      have HFt9' : Hid (d10.fit (M + om + 16) (4 * q + 4)) := Lib.hid (by rw [hd10]; exact (opn_fit HFt8.out ob).mono (by have := HOl.out; omega) (by omega))
      have HDb9' : Hid (DkB d10) := Lib.hid (by rw [hd10]; exact DkB.opn HDb8.out HBo.out)
      have HHx := Lib.hid (And.intro hd10 hx)
      clear hDP hSP hDR hSR hd10 hx
      go_wp2_with fail
      rw [← hw9]
      clear hw9
      refine HOp.out.mono ?_
      rintro e10 w10 hop
      have hsome := opn_some (d := d9) (s := ob)
      rcases hsome with ⟨z0, vk, zv⟩ | ⟨z0, zv⟩
      case inl =>
        rcases hop with ⟨hne, _⟩ | ⟨_, v', Q, vs, vr, V, lo, hi, hv, rfl, hm10, t10, f10, hlo, hhi, hsn, hrc, _⟩
        · exact absurd z0 hne
        rw [zv] at hv
        injection hv with hv
        subst hv
        rw [← HHx.out.1] at hm10
        have HSn := Lib.hid hsn
        have HRc := Lib.hid hrc
        obtain ⟨As, ns, cs, rfl, _, _, _, _⟩ := hsn
        obtain ⟨Ar, nr, cr, ps, rfl, _, _, _, _⟩ := hrc
        have HM10 := Lib.hid hm10
        have HDR10 : Hid (DkR w10 R' d9 SR) := Lib.hid (HDR.out.stay (Stay.turned t10 fun b hb => ⟨HDR.out.lt b hb, fun hs => hapx.out b hs hb⟩))
        have HB10 : Hid (Below w.heap.size w w10) := Lib.hid (t10.below HS8.out.bel HS8.out.bel.size hn1.out)
        have HAp10 : Hid ((∀ b, V b → ¬ SR b) ∧ ∀ b, V b → w.heap.size ≤ b) := Lib.hid ⟨from_apart f10 hapx.out HDR.out.lt, from_base f10 hn1.out HS8.out.bel.size⟩
        have HO10 : Hid (Blk w10 p 33 #[.int .i64 4, .int .i64 on, .int .i64 ok, .slice oA om oq]) := Lib.hid ((t10.block p hp9 HPp.out).trans HO9.out)
        have Y3 : w10.cell? ⟨p, 3, none⟩ = some (.slice oA om oq) := by rw [HO10.out.cell]; rfl
        have hp10 : p < w10.heap.size := HO10.out.lt
        have HLo : Hid (∀ g, lo ≤ g → ¬ SR g) := Lib.hid (fun g h1 hs => by have := HDR.out.lt g hs; omega)
        have HHi := Lib.hid hhi
        have HZv := Lib.hid zv
        have HZ0 := Lib.hid z0
        clear hm10 t10 f10 hlo hhi zv z0 HOp
        go_wp2_with fail
        refine (HOr.out w10 HDR10.out HB10.out).mono ?_
        rintro e11 w11 hor
        rcases hor.out with ⟨hne, _⟩ | ⟨_, v', Q', As', ns', cs', Ar', cr', V', ps', hv, rfl, hm11, t11, f11, hb11, hr11, hrd11, hps11⟩
        · exact absurd HZ0.out hne
        rw [HZv.out] at hv
        injection hv with hv
        subst hv
        rw [← HHx.out.1] at hm11
        have HS11 := Lib.hid (step_two HM10.out HAp10.out.1 HAp10.out.2 hn2.out HB10.out hm11 t11 f11)
        have y5 : w11.cell? ⟨Q', 3, none⟩ = some (.slice As' ns' cs') := by rw [hb11.cell]; rfl
        have y6 : w11.cell? ⟨Q', 4, none⟩ = some (.slice Ar' vk.rs.length cr') := by rw [hb11.cell]; rfl
        have hkeep : ∀ g, lo ≤ g → g < hi → w11.heap[g]? = w10.heap[g]? := fun g g1 g2 => t11.block g (Nat.lt_of_lt_of_le g2 HHi.out) (HLo.out g g1)
        obtain ⟨_, _, _, e7, _, hls7, hrs7, _⟩ := HSn.out.stay hkeep
        obtain ⟨_, _, _, ps7, e8, hps7, hrr7, _, _⟩ := HRc.out.stay hkeep
        injection e7 with a1 a2 a3
        subst a1; subst a2; subst a3
        injection e8 with a1 a2 a3
        subst a1; subst a2; subst a3
        have hvk := opn_vok HFt8.out HZv.out
        have hsl7 : vk.s.length ≤ 4194304 := by have := opn_slen HZv.out; have := HOl.out; omega
        have hnr7 : nr = vk.rs.length := by have h1 := hrr7.len; have h2 := congrArg List.length hps7; simp [Piece.bytes] at h2; omega
        have hsame : Hid (∀ q, Calls Tryd.prog 23 #[.slice As ns cs, .slice As' ns' cs'] (w11.drewN q) fun e w' => e = .returned (.bool true) ∧ ∃ k, w' = (w11.drewN q).drewN k) := Lib.hid (fun q => by
          have h := same_any As As' ns cs ns' cs' vk.s vk.s (w11.drewN q) _ _ hrs7 hr11 (by omega)
          rwa [decide_eq_true rfl] at h)
        obtain ⟨nr', hnr'⟩ : ∃ nr', nr' = vk.rs.length := ⟨_, rfl⟩
        rw [← hnr'] at y6 hrd11
        have halike : Hid (∀ q, Calls Tryd.prog 24 #[.slice Ar nr cr, .slice Ar' nr' cr'] (w11.drewN q) fun e w' => e = .returned (.bool true) ∧ ∃ k, w' = (w11.drewN q).drewN k) := Lib.hid (fun q => by
          have h := alike_any Ar Ar' nr cr nr' cr' ps7 ps' (w11.drewN q) _ _ hrr7 hrd11 (by have := hvk.rs; omega)
          rwa [decide_eq_true (hps7.trans hps11.symm)] at h)
        have HVk9 : Hid (∀ v, some vk = some v → Vok v (M + om + 16)) := Lib.hid (fun v' h => by injection h with h; rw [← h]; exact hvk.mono (by omega))
        clear hm11 t11 f11 hb11 hr11 hrd11 hps11 hkeep hls7 hrs7 hps7 hrr7 hvk hsl7 hnr7 hnr' hor Y3 HSn HRc HM10 HDR10
        go_wp2_with fail
        refine (hsame.out 0).mono ?_
        rintro e12 w12 ⟨rfl, k12, rfl⟩
        go_wp2_with fail
        refine (halike.out _).mono ?_
        rintro e13 w13 ⟨rfl, k13, rfl⟩
        obtain ⟨w13, hw13⟩ : ∃ w13, w13 = (w11.drewN k12).drewN k13 := ⟨_, rfl⟩
        have hb13 : Below w11.heap.size w11 w13 := by rw [hw13]; exact (below_drewN (Below.refl _ _) _).trans ((below_drewN (Below.refl _ _) _).mono (Nat.le_refl _))
        rw [← hw13]
        have HS9 := Lib.hid (HS11.out.next hb13)
        have HFt9 := HFt9'
        have HDb9 := HDb9'
        clear hw13 hb13 HS11 hsame halike y5 y6

        have HHd := Lib.hid (by
          obtain ⟨S9, hD9, _, _⟩ := HS9.out.diskP
          obtain ⟨S9', hD9', _, _⟩ := HS9.out.diskR
          exact held_any HC.out HGe.out R R' d10 S9 S9' _ _ w13 hD9 hD9' HS9.out.both _ _ HFt9.out (by omega) (by omega))
        go_wp2_with fail
        refine HHd.out.mono ?_
        rintro e10 w10 ⟨rfl, hb10⟩
        have HS10 := Lib.hid (HS9.out.next hb10)
        clear hb10 HHd
        go_wp2
        go_roundw
        case rel => exact ⟨q + 1, d10, (some vk), _, _, by go_num, by omega, HS10.out, (by rw [HNx.out]; exact HFt9.out.mono (by have := HOl.out; omega) (by omega)), HDb9.out, (by rw [HNx.out]; exact HVk9.out)⟩
        case measure => simp [intOf]; omega

      case inr =>
        rcases hop with ⟨_, rfl, S10, hD10, t10, f10⟩ | ⟨h0, _⟩
        rotate_left
        · exact absurd h0 z0
        rw [← HHx.out.1] at hD10
        have hz : x ≠ 0 := by rw [HHx.out.2]; exact z0
        rw [← HHx.out.2]
        have HD10 := Lib.hid hD10
        have HDR10 : Hid (DkR w10 R' d9 SR) := Lib.hid (HDR.out.stay (Stay.turned t10 fun b hb => ⟨HDR.out.lt b hb, fun hs => hapx.out b hs hb⟩))
        have HB10 : Hid (Below w.heap.size w w10) := Lib.hid (t10.below HS8.out.bel HS8.out.bel.size hn1.out)
        have HAp10 : Hid ((∀ b, S10 b → ¬ SR b) ∧ ∀ b, S10 b → w.heap.size ≤ b) := Lib.hid ⟨from_apart f10 hapx.out HDR.out.lt, from_base f10 hn1.out HS8.out.bel.size⟩
        have HO10 : Hid (Blk w10 p 33 #[.int .i64 4, .int .i64 on, .int .i64 ok, .slice oA om oq]) := Lib.hid ((t10.block p hp9 HPp.out).trans HO9.out)
        have Y3 : w10.cell? ⟨p, 3, none⟩ = some (.slice oA om oq) := by rw [HO10.out.cell]; rfl
        have hp10 : p < w10.heap.size := HO10.out.lt
        have HZ0 := Lib.hid z0
        have tx : (x == 0) = false := by simp [hz]
        clear hD10 t10 f10 zv z0 HOp
        go_wp2_with fail
        refine (HOr.out w10 HDR10.out HB10.out).mono ?_
        rintro e11 w11 hor
        rcases hor.out with ⟨_, rfl, S11, hD11, t11, f11⟩ | ⟨h0, _⟩
        rotate_left
        · exact absurd h0 HZ0.out
        rw [← HHx.out.1] at hD11
        rw [← HHx.out.2]
        have HS9 : Hid (Side w R R' d10 d10 none (.pointer none) (.pointer none) S10 S11 w11) := Lib.hid ⟨.inl ⟨rfl, rfl, rfl, HD10.out.stay (Stay.turned t11 fun b hb => ⟨HD10.out.lt b hb, fun hs => HAp10.out.1 b hb hs⟩), hD11⟩, fun b h1 h2 => from_apart f11 (fun b h1 h2 => HAp10.out.1 b h2 h1) HD10.out.lt b h2 h1, HAp10.out.2, from_base f11 hn2.out HB10.out.size, t11.below HB10.out HB10.out.size hn2.out⟩
        have HFt9 := HFt9'
        have HDb9 := HDb9'
        have HVk9 : Hid (∀ v, (none : Option VK) = some v → Vok v (M + om + 16)) := Lib.hid (fun v' h => by cases h)
        clear hD11 t11 f11 hor Y3 HDR10 HD10

        have HHd := Lib.hid (by
          obtain ⟨S9, hD9, _, _⟩ := HS9.out.diskP
          obtain ⟨S9', hD9', _, _⟩ := HS9.out.diskR
          exact held_any HC.out HGe.out R R' d10 S9 S9' _ _ w11 hD9 hD9' HS9.out.both _ _ HFt9.out (by omega) (by omega))
        go_wp2_with fail
        refine HHd.out.mono ?_
        rintro e10 w10 ⟨rfl, hb10⟩
        have HS10 := Lib.hid (HS9.out.next hb10)
        clear hb10 HHd
        go_wp2
        go_roundw
        case rel => exact ⟨q + 1, d10, none, _, _, by go_num, by omega, HS10.out, (by rw [HNx.out]; exact HFt9.out.mono (by have := HOl.out; omega) (by omega)), HDb9.out, (by rw [HNx.out]; exact HVk9.out)⟩
        case measure => simp [intOf]; omega

    case neg =>
    have c4 : (kd == 4) = false := by simp [h4]

    by_cases h5 : kd = 5
    case pos =>
      subst h5

      obtain ⟨SP, hDP, hSP, _⟩ := HS7.out.diskP
      obtain ⟨SR, hDR, hSR, _⟩ := HS7.out.diskR
      have hn1 : Hid (∀ b, SP b → w.heap.size ≤ b) := Lib.hid (fun b hb => HS7.out.n1 b (hSP b hb))
      have hn2 : Hid (∀ b, SR b → w.heap.size ≤ b) := Lib.hid (fun b hb => HS7.out.n2 b (hSR b hb))
      have hapx : Hid (∀ b, SP b → ¬ SR b) := Lib.hid (fun b h1 h2 => HS7.out.ap b (hSP b h1) (hSR b h2))
      have HPp : Hid (¬ SP p) := Lib.hid (fun hs => by have := HUp.out.1 p (hSP p hs); omega)
      have HOp := Lib.hid (HO.out R oA om oq ob d SP w7 (HT.out.next HS7.out.bel) (fun h0 => by have := hn1.out 0 h0; have := HP.out; omega) hDP ((HRb.out.below HS7.out.bel).more HS7.out.bel.size) homq HBo.out HDb.out (free_base HRb.out hn1.out) (by omega) _ _ HFt.out (by omega) (by omega))
      have HOr : Hid (∀ w10, DkR w10 R' d SR → Below w.heap.size w w10 → Calls Tryd.prog 22 #[.pointer (some ⟨R', 0, none⟩), .slice oA om oq] w10 (OpnR R' d ob SR w10)) := Lib.hid (fun w10 h10 b10 => openR_any R' oA om oq ob d SR w10 h10 ((HRb.out.below b10).more b10.size) HBo.out HDb.out (by omega) (free_base HRb.out hn2.out) _ _ HFt.out (by omega) (by omega))
      have HDR := Lib.hid hDR
      obtain ⟨d10, hd10⟩ : ∃ d10, d10 = (opn d ob).2.1 := ⟨_, rfl⟩
      obtain ⟨x, hx⟩ : ∃ x, x = (opn d ob).1 := ⟨_, rfl⟩
      have HFt9' : Hid (d10.fit (M + om + 16) (4 * q + 4)) := Lib.hid (by rw [hd10]; exact (opn_fit HFt.out ob).mono (by have := HOl.out; omega) (by omega))
      have HDb9' : Hid (DkB d10) := Lib.hid (by rw [hd10]; exact DkB.opn HDb.out HBo.out)
      have HHx := Lib.hid (And.intro hd10 hx)
      clear hDP hSP hDR hSR hd10 hx
      go_wp2_with fail
      rw [← hw7, ← hp]
      clear hw7 hp
      refine HOp.out.mono ?_
      rintro e10 w10 hop
      have hsome := opn_some (d := d) (s := ob)
      rcases hsome with ⟨z0, vk, zv⟩ | ⟨z0, zv⟩
      case inl =>
        rcases hop with ⟨hne, _⟩ | ⟨_, v', Q, vs, vr, V, lo, hi, hv, rfl, hm10, t10, f10, hlo, hhi, hsn, hrc, _⟩
        · exact absurd z0 hne
        rw [zv] at hv
        injection hv with hv
        subst hv
        rw [← HHx.out.1] at hm10
        have HSn := Lib.hid hsn
        have HRc := Lib.hid hrc
        obtain ⟨As, ns, cs, rfl, _, _, _, _⟩ := hsn
        obtain ⟨Ar, nr, cr, ps, rfl, _, _, _, _⟩ := hrc
        have HM10 := Lib.hid hm10
        have HDR10 : Hid (DkR w10 R' d SR) := Lib.hid (HDR.out.stay (Stay.turned t10 fun b hb => ⟨HDR.out.lt b hb, fun hs => hapx.out b hs hb⟩))
        have HB10 : Hid (Below w.heap.size w w10) := Lib.hid (t10.below HS7.out.bel HS7.out.bel.size hn1.out)
        have HAp10 : Hid ((∀ b, V b → ¬ SR b) ∧ ∀ b, V b → w.heap.size ≤ b) := Lib.hid ⟨from_apart f10 hapx.out HDR.out.lt, from_base f10 hn1.out HS7.out.bel.size⟩
        have HO10 : Hid (Blk w10 p 33 #[.int .i64 5, .int .i64 on, .int .i64 ok, .slice oA om oq]) := Lib.hid ((t10.block p hp7 HPp.out).trans HO7.out)
        have Y3 : w10.cell? ⟨p, 3, none⟩ = some (.slice oA om oq) := by rw [HO10.out.cell]; rfl
        have hp10 : p < w10.heap.size := HO10.out.lt
        have HLo : Hid (∀ g, lo ≤ g → ¬ SR g) := Lib.hid (fun g h1 hs => by have := HDR.out.lt g hs; omega)
        have HHi := Lib.hid hhi
        have HZv := Lib.hid zv
        have HZ0 := Lib.hid z0
        clear hm10 t10 f10 hlo hhi zv z0 HOp
        go_wp2_with fail
        refine (HOr.out w10 HDR10.out HB10.out).mono ?_
        rintro e11 w11 hor
        rcases hor.out with ⟨hne, _⟩ | ⟨_, v', Q', As', ns', cs', Ar', cr', V', ps', hv, rfl, hm11, t11, f11, hb11, hr11, hrd11, hps11⟩
        · exact absurd HZ0.out hne
        rw [HZv.out] at hv
        injection hv with hv
        subst hv
        rw [← HHx.out.1] at hm11
        have HS11 := Lib.hid (step_two HM10.out HAp10.out.1 HAp10.out.2 hn2.out HB10.out hm11 t11 f11)
        have y5 : w11.cell? ⟨Q', 3, none⟩ = some (.slice As' ns' cs') := by rw [hb11.cell]; rfl
        have y6 : w11.cell? ⟨Q', 4, none⟩ = some (.slice Ar' vk.rs.length cr') := by rw [hb11.cell]; rfl
        have hkeep : ∀ g, lo ≤ g → g < hi → w11.heap[g]? = w10.heap[g]? := fun g g1 g2 => t11.block g (Nat.lt_of_lt_of_le g2 HHi.out) (HLo.out g g1)
        obtain ⟨_, _, _, e7, _, hls7, hrs7, _⟩ := HSn.out.stay hkeep
        obtain ⟨_, _, _, ps7, e8, hps7, hrr7, _, _⟩ := HRc.out.stay hkeep
        injection e7 with a1 a2 a3
        subst a1; subst a2; subst a3
        injection e8 with a1 a2 a3
        subst a1; subst a2; subst a3
        have hvk := opn_vok HFt.out HZv.out
        have hsl7 : vk.s.length ≤ 4194304 := by have := opn_slen HZv.out; have := HOl.out; omega
        have hnr7 : nr = vk.rs.length := by have h1 := hrr7.len; have h2 := congrArg List.length hps7; simp [Piece.bytes] at h2; omega
        have hsame : Hid (∀ q, Calls Tryd.prog 23 #[.slice As ns cs, .slice As' ns' cs'] (w11.drewN q) fun e w' => e = .returned (.bool true) ∧ ∃ k, w' = (w11.drewN q).drewN k) := Lib.hid (fun q => by
          have h := same_any As As' ns cs ns' cs' vk.s vk.s (w11.drewN q) _ _ hrs7 hr11 (by omega)
          rwa [decide_eq_true rfl] at h)
        obtain ⟨nr', hnr'⟩ : ∃ nr', nr' = vk.rs.length := ⟨_, rfl⟩
        rw [← hnr'] at y6 hrd11
        have halike : Hid (∀ q, Calls Tryd.prog 24 #[.slice Ar nr cr, .slice Ar' nr' cr'] (w11.drewN q) fun e w' => e = .returned (.bool true) ∧ ∃ k, w' = (w11.drewN q).drewN k) := Lib.hid (fun q => by
          have h := alike_any Ar Ar' nr cr nr' cr' ps7 ps' (w11.drewN q) _ _ hrr7 hrd11 (by have := hvk.rs; omega)
          rwa [decide_eq_true (hps7.trans hps11.symm)] at h)
        have HVk9 : Hid (∀ v, some vk = some v → Vok v (M + om + 16)) := Lib.hid (fun v' h => by injection h with h; rw [← h]; exact hvk.mono (by omega))
        clear hm11 t11 f11 hb11 hr11 hrd11 hps11 hkeep hls7 hrs7 hps7 hrr7 hvk hsl7 hnr7 hnr' hor Y3 HSn HRc HM10 HDR10
        go_wp2_with fail
        refine (hsame.out 0).mono ?_
        rintro e12 w12 ⟨rfl, k12, rfl⟩
        go_wp2_with fail
        refine (halike.out _).mono ?_
        rintro e13 w13 ⟨rfl, k13, rfl⟩
        obtain ⟨w13, hw13⟩ : ∃ w13, w13 = (w11.drewN k12).drewN k13 := ⟨_, rfl⟩
        have hb13 : Below w11.heap.size w11 w13 := by rw [hw13]; exact (below_drewN (Below.refl _ _) _).trans ((below_drewN (Below.refl _ _) _).mono (Nat.le_refl _))
        rw [← hw13]
        have HS9 := Lib.hid (HS11.out.next hb13)
        have HFt9 := HFt9'
        have HDb9 := HDb9'
        clear hw13 hb13 HS11 hsame halike y5 y6

        have HHd := Lib.hid (by
          obtain ⟨S9, hD9, _, _⟩ := HS9.out.diskP
          obtain ⟨S9', hD9', _, _⟩ := HS9.out.diskR
          exact held_any HC.out HGe.out R R' d10 S9 S9' _ _ w13 hD9 hD9' HS9.out.both _ _ HFt9.out (by omega) (by omega))
        go_wp2_with fail
        refine HHd.out.mono ?_
        rintro e10 w10 ⟨rfl, hb10⟩
        have HS10 := Lib.hid (HS9.out.next hb10)
        clear hb10 HHd
        go_wp2
        go_roundw
        case rel => exact ⟨q + 1, d10, (some vk), _, _, by go_num, by omega, HS10.out, (by rw [HNx.out]; exact HFt9.out.mono (by have := HOl.out; omega) (by omega)), HDb9.out, (by rw [HNx.out]; exact HVk9.out)⟩
        case measure => simp [intOf]; omega

      case inr =>
        rcases hop with ⟨_, rfl, S10, hD10, t10, f10⟩ | ⟨h0, _⟩
        rotate_left
        · exact absurd h0 z0
        rw [← HHx.out.1] at hD10
        have hz : x ≠ 0 := by rw [HHx.out.2]; exact z0
        rw [← HHx.out.2]
        have HD10 := Lib.hid hD10
        have HDR10 : Hid (DkR w10 R' d SR) := Lib.hid (HDR.out.stay (Stay.turned t10 fun b hb => ⟨HDR.out.lt b hb, fun hs => hapx.out b hs hb⟩))
        have HB10 : Hid (Below w.heap.size w w10) := Lib.hid (t10.below HS7.out.bel HS7.out.bel.size hn1.out)
        have HAp10 : Hid ((∀ b, S10 b → ¬ SR b) ∧ ∀ b, S10 b → w.heap.size ≤ b) := Lib.hid ⟨from_apart f10 hapx.out HDR.out.lt, from_base f10 hn1.out HS7.out.bel.size⟩
        have HO10 : Hid (Blk w10 p 33 #[.int .i64 5, .int .i64 on, .int .i64 ok, .slice oA om oq]) := Lib.hid ((t10.block p hp7 HPp.out).trans HO7.out)
        have Y3 : w10.cell? ⟨p, 3, none⟩ = some (.slice oA om oq) := by rw [HO10.out.cell]; rfl
        have hp10 : p < w10.heap.size := HO10.out.lt
        have HZ0 := Lib.hid z0
        have tx : (x == 0) = false := by simp [hz]
        clear hD10 t10 f10 zv z0 HOp
        go_wp2_with fail
        refine (HOr.out w10 HDR10.out HB10.out).mono ?_
        rintro e11 w11 hor
        rcases hor.out with ⟨_, rfl, S11, hD11, t11, f11⟩ | ⟨h0, _⟩
        rotate_left
        · exact absurd h0 HZ0.out
        rw [← HHx.out.1] at hD11
        rw [← HHx.out.2]
        have HS9 : Hid (Side w R R' d10 d10 none (.pointer none) (.pointer none) S10 S11 w11) := Lib.hid ⟨.inl ⟨rfl, rfl, rfl, HD10.out.stay (Stay.turned t11 fun b hb => ⟨HD10.out.lt b hb, fun hs => HAp10.out.1 b hb hs⟩), hD11⟩, fun b h1 h2 => from_apart f11 (fun b h1 h2 => HAp10.out.1 b h2 h1) HD10.out.lt b h2 h1, HAp10.out.2, from_base f11 hn2.out HB10.out.size, t11.below HB10.out HB10.out.size hn2.out⟩
        have HFt9 := HFt9'
        have HDb9 := HDb9'
        have HVk9 : Hid (∀ v, (none : Option VK) = some v → Vok v (M + om + 16)) := Lib.hid (fun v' h => by cases h)
        clear hD11 t11 f11 hor Y3 HDR10 HD10

        have HHd := Lib.hid (by
          obtain ⟨S9, hD9, _, _⟩ := HS9.out.diskP
          obtain ⟨S9', hD9', _, _⟩ := HS9.out.diskR
          exact held_any HC.out HGe.out R R' d10 S9 S9' _ _ w11 hD9 hD9' HS9.out.both _ _ HFt9.out (by omega) (by omega))
        go_wp2_with fail
        refine HHd.out.mono ?_
        rintro e10 w10 ⟨rfl, hb10⟩
        have HS10 := Lib.hid (HS9.out.next hb10)
        clear hb10 HHd
        go_wp2
        go_roundw
        case rel => exact ⟨q + 1, d10, none, _, _, by go_num, by omega, HS10.out, (by rw [HNx.out]; exact HFt9.out.mono (by have := HOl.out; omega) (by omega)), HDb9.out, (by rw [HNx.out]; exact HVk9.out)⟩
        case measure => simp [intOf]; omega

    case neg =>
    have c5 : (kd == 5) = false := by simp [h5]

    have HS9 := HS7
    have HFt9 := HFt
    have HDb9 := HDb
    have HVk9 : Hid (∀ v, ov = some v → Vok v (M + om + 16)) := Lib.hid (fun v h => (HVk.out v h).mono (by omega))
    have HHd := Lib.hid (by
      obtain ⟨S9, hD9, _, _⟩ := HS9.out.diskP
      obtain ⟨S9', hD9', _, _⟩ := HS9.out.diskR
      exact held_any HC.out HGe.out R R' d S9 S9' _ _ w7 hD9 hD9' HS9.out.both _ _ HFt9.out (by omega) (by omega))
    go_wp2_with fail
    rw [← hw7]
    clear hw7
    refine HHd.out.mono ?_
    rintro e10 w10 ⟨rfl, hb10⟩
    have HS10 := Lib.hid (HS9.out.next hb10)
    clear hb10 HHd
    go_wp2
    go_roundw
    case rel => exact ⟨q + 1, d, ov, _, _, by go_num, by omega, HS10.out, (by rw [HNx.out]; exact HFt9.out.mono (by have := HOl.out; omega) (by omega)), HDb9.out, (by rw [HNx.out]; exact HVk9.out)⟩
    case measure => simp [intOf]; omega
end Go.Proofs.YtnpmccekkjadhaaDoor.Pk
