/- Package frame: Encode. -/
import Derived.Test.YtmmjmaohbmlfgaaDoorFrCat
import Derived.Test.YtmmjmaohbmlfgaaDoorFrNum
namespace Go.Proofs.YtmmjmaohbmlfgaaDoor.Pk
open Go.RowKit Go.Proofs.YtmmjmaohbmlfgaaDoor.Crc Go.Proofs.YtmmjmaohbmlfgaaDoor.Fr
set_option linter.unusedVariables false
set_option maxHeartbeats 4000000 in
theorem encC : EncC := by
  intro A n c p w ht hr hnc hby hn
  have HL : Hid (p.length = n) := Lib.hid (by have := hr.1; simpa using this)
  have HR := Lib.hid hr
  have HB := Lib.hid hby
  have HT := Lib.hid ht
  have HNc := Lib.hid hnc
  clear hr hby ht
  by_cases hlong : 1048576 < n
  · go_enter Tryd.func10, Tryd.ntmps10
    go_wp2
    go_ret2
    exact ⟨Below.refl _ _, .inr ⟨by rw [HL.out]; exact hlong, rfl⟩⟩
  · have hn2 : n ≤ 1048576 := by omega
    go_enter Tryd.func10, Tryd.ntmps10
    go_wp2_with fail
    refine (bytesOf_any n (by omega) w).mono ?_
    rintro e w1 ⟨rfl, ho1, hb1⟩
    obtain ⟨B0, hB0⟩ : ∃ B0, B0 = w.heap.size := ⟨_, rfl⟩
    rw [← hB0] at ho1 hb1 ⊢
    have hl1 := own_len ho1
    have HO1 := Lib.hid ho1
    have HB1 := Lib.hid hb1
    have HB0 := Lib.hid hB0
    have HSz : Hid (∀ V, Below B0 w V → B0 ≤ V.heap.size) := Lib.hid (fun V hV => by rw [HB0.out]; exact hV.size)
    clear ho1 hb1 hB0
    obtain ⟨s, hs⟩ : ∃ s, s = fsum p := ⟨_, rfl⟩
    have hs4 : s < 4294967296 := by rw [hs]; exact fsum_lt HB.out
    have HSf := Lib.hid hs
    clear hs
    go_wp2_with fail
    obtain ⟨w2, hw2⟩ : ∃ w2, w2 = w1.alloc (.cells #[.slice (some ⟨B0, 0, none⟩) 4 4, .slice A n c] 22) := ⟨_, rfl⟩
    have hb2 : Below w1.heap.size w1 w2 := hw2 ▸ (Below.refl _ _).alloc (Nat.le_refl _) _
    have HB2 := Lib.hid (HB1.out.trans (hb2.mono (HSz.out _ HB1.out)))
    have HO2 := Lib.hid (HO1.out.keep hb2 (Nat.le_refl _))
    have HR0 : Hid (Reads w B0 1 A n (bts p)) := Lib.hid (by rw [HB0.out]; exact HR.out)
    have HT0 : Hid (∀ V, Below B0 w V → Tab V) := Lib.hid (fun V hV => HT.out.next (by rw [← HB0.out]; exact hV))
    have hLs : Lists w2 w2.heap.size (some ⟨w1.heap.size, 0, none⟩) 2 [⟨some ⟨B0, 0, none⟩, 4, 4, le4 n⟩, ⟨A, n, c, p⟩] := by
      refine ⟨?_, fun q hq => ?_⟩
      · have := reads_new w1 #[.slice (some ⟨B0, 0, none⟩) 4 4, .slice A n c] 22 w2.heap.size 2 [.slice (some ⟨B0, 0, none⟩) 4 4, .slice A n c] rfl rfl (by rw [hw2]; simp)
        rw [← hw2] at this
        exact this
      · rcases List.mem_cons.1 hq with rfl | hq
        · exact ⟨own_reads HO2.out, Nat.le_refl _, (by show 4 ≤ _; omega), le4_bytes n⟩
        · obtain rfl := List.mem_singleton.1 hq
          exact ⟨(HR0.out.below HB2.out).more (HSz.out _ HB2.out), HNc.out, (by show n ≤ _; omega), HB.out⟩
    have hsum : sums 0 (Piece.bytes [⟨some ⟨B0, 0, none⟩, 4, 4, le4 n⟩, ⟨A, n, c, p⟩]) = s := by
      rw [HSf.out, sums_flat]
      unfold fsum
      rw [HL.out]
      simp [Piece.bytes]
    have HPt := Lib.hid (parts_any (some ⟨w1.heap.size, 0, none⟩) 2 2 _ w2 _ hLs (by omega) (HT0.out _ HB2.out))
    rw [hsum] at HPt
    rw [← hw2]
    clear hw2 hb2 hLs hsum
    refine HPt.out.mono ?_
    rintro e w3 ⟨rfl, hw⟩
    rw [← hw]
    clear hw w3 HPt
    go_wp2_with fail
    refine (bytesOf_any s hs4 w2).mono ?_
    rintro e w4 ⟨rfl, ho4, hb4⟩
    obtain ⟨B4, hB4⟩ : ∃ B4, B4 = w2.heap.size := ⟨_, rfl⟩
    rw [← hB4] at ho4 hb4 ⊢
    have HB4 := Lib.hid (HB2.out.trans (hb4.mono (by rw [hB4]; exact (HSz.out _ HB2.out))))
    have HO4 := Lib.hid ho4
    have HO14 := Lib.hid (HO2.out.keep hb4 (by rw [hB4]; exact Nat.le_refl _))
    clear ho4 hb4 hB4
    go_wp2_with fail
    obtain ⟨w5, hw5⟩ : ∃ w5, w5 = w4.alloc (.cells #[.slice (some ⟨B0, 0, none⟩) 4 4, .slice (some ⟨B4, 0, none⟩) 4 4, .slice A n c] 22) := ⟨_, rfl⟩
    have hb5 : Below w4.heap.size w4 w5 := hw5 ▸ (Below.refl _ _).alloc (Nat.le_refl _) _
    have HB5 := Lib.hid (HB4.out.trans (hb5.mono (HSz.out _ HB4.out)))
    have hLs : Lists w5 w5.heap.size (some ⟨w4.heap.size, 0, none⟩) 3 [⟨some ⟨B0, 0, none⟩, 4, 4, le4 n⟩, ⟨some ⟨B4, 0, none⟩, 4, 4, le4 s⟩, ⟨A, n, c, p⟩] := by
      refine ⟨?_, fun q hq => ?_⟩
      · have := reads_new w4 #[.slice (some ⟨B0, 0, none⟩) 4 4, .slice (some ⟨B4, 0, none⟩) 4 4, .slice A n c] 22 w5.heap.size 3 [.slice (some ⟨B0, 0, none⟩) 4 4, .slice (some ⟨B4, 0, none⟩) 4 4, .slice A n c] rfl rfl (by rw [hw5]; simp)
        rw [← hw5] at this
        exact this
      · rcases List.mem_cons.1 hq with rfl | hq
        · exact ⟨own_reads (HO14.out.keep hb5 (Nat.le_refl _)), Nat.le_refl _, (by show 4 ≤ _; omega), le4_bytes n⟩
        · rcases List.mem_cons.1 hq with rfl | hq
          · exact ⟨own_reads (HO4.out.keep hb5 (Nat.le_refl _)), Nat.le_refl _, (by show 4 ≤ _; omega), le4_bytes s⟩
          · obtain rfl := List.mem_singleton.1 hq
            exact ⟨(HR0.out.below HB5.out).more (HSz.out _ HB5.out), HNc.out, (by show n ≤ _; omega), HB.out⟩
    have hall : allB [⟨some ⟨B0, 0, none⟩, 4, 4, le4 n⟩, ⟨some ⟨B4, 0, none⟩, 4, 4, le4 s⟩, ⟨A, n, c, p⟩] = enc p := by
      unfold enc
      rw [HL.out, ← HSf.out]
      simp [allB, Piece.bytes]
    have HCt := Lib.hid (concat_any (some ⟨w4.heap.size, 0, none⟩) 3 3 _ w5 hLs (by omega) (by rw [hall, enc_length, HL.out]; omega))
    rw [hall] at HCt
    rw [← hw5]
    clear hw5 hb5 hLs hall
    refine HCt.out.mono ?_
    rintro e w6 ⟨v6, rfl, ho6, hb6⟩
    obtain ⟨A6, n6, c6, rfl⟩ := own_slice ho6
    have HO6 := Lib.hid (ho6.mono (HSz.out _ HB5.out))
    have HB6 := Lib.hid (HB5.out.trans (hb6.mono (HSz.out _ HB5.out)))
    clear ho6 hb6 HCt
    go_wp2
    go_ret2
    refine ⟨by rw [← HB0.out]; exact HB6.out, .inl ⟨by rw [HL.out]; exact hn2, A6, n6, c6, rfl, by rw [← HB0.out]; exact HO6.out⟩⟩
end Go.Proofs.YtmmjmaohbmlfgaaDoor.Pk
