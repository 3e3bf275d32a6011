/- The walk of the law FrameMakes. -/
import Derived.Test.YtmmjmaohbmlfgaaDoorFrWakes
import Derived.Test.YtmmjmaohbmlfgaaDoorArgF
namespace Go.Proofs.YtmmjmaohbmlfgaaDoor.Pk
open Go.RowKit Go.Proofs.YtmmjmaohbmlfgaaDoor.Ar Go.Proofs.YtmmjmaohbmlfgaaDoor.Crc Go.Proofs.YtmmjmaohbmlfgaaDoor.Fr
set_option linter.unusedVariables false

set_option maxHeartbeats 1600000 in
theorem law_FrameMakes (encC : EncC) (endC : EndC) (a : Option Addr) (n c : Nat) (l : List Int) (w : World) (ht : Tab w) (h : ArgB w a n c l) :
    Calls Tryd.prog 3 #[.slice a n c] w fun e w' => e = .returned (.bool true) ∧ Below w.heap.size w w' := by
  obtain ⟨hr, hnc, hc, hB⟩ := h
  have HE := Lib.hid encC
  have HD := Lib.hid endC
  have HT := Lib.hid ht
  have HR := Lib.hid hr
  have HB : Hid (Bytes l) := Lib.hid hB
  have HL : Hid (l.length = n) := Lib.hid (by have := hr.1; simpa using this)
  have HNC := Lib.hid hnc
  clear encC endC ht hr hB
  go_enter Tryd.func3, Tryd.ntmps3
  go_wp2_with fail
  refine (wakes_any HE.out HD.out w HT.out).mono ?_
  rintro e w1 ⟨rfl, hb1⟩
  have HB1 := Lib.hid hb1
  have HX := Lib.hid (HE.out a n c l w1 (HT.out.next hb1) ((HR.out.below hb1).more hb1.size) HNC.out HB.out (by omega))
  clear hb1
  go_wp2_with fail
  refine HX.out.mono ?_
  intro e w2 h2
  have HB2 := Lib.hid (HB1.out.trans (h2.1.mono HB1.out.size))
  have HY := Lib.hid (refEnc_any a n c l w2 ((HR.out.below HB2.out).more HB2.out.size) HB.out (by omega))
  rcases h2 with ⟨hb2, ⟨hs, A2, n2, c2, rfl, ho2⟩ | ⟨hs, rfl⟩⟩
  · have HO2 := Lib.hid ho2
    have HS := Lib.hid hs
    clear ho2 hb2 hs HX
    go_wp2_with fail
    refine HY.out.mono ?_
    rintro e w3 ⟨hb3, ⟨_, A3, n3, c3, rfl, ho3⟩ | ⟨hs3, _⟩⟩
    case inr => have := HS.out; omega
    have HB3 := Lib.hid (HB2.out.trans (hb3.mono HB2.out.size))
    have hl2 := own_len HO2.out
    have HZ := Lib.hid (same_any A2 A3 n2 c2 n3 c3 (enc l) (enc l) w3 w2.heap.size w3.heap.size ((own_reads HO2.out).below hb3) (own_reads ho3) (by have := HS.out; rw [enc_length] at hl2; omega))
    rw [decide_eq_true rfl] at HZ
    clear hb3 ho3 hl2
    go_wp2_with fail
    refine HZ.out.mono ?_
    rintro e w4 ⟨rfl, k, rfl⟩
    go_wp2
    go_ret
    exact ⟨rfl, below_drewN HB3.out k⟩
  · have HS := Lib.hid hs
    clear hb2 hs HX
    go_wp2_with fail
    refine HY.out.mono ?_
    rintro e w3 ⟨hb3, ⟨hs3, _⟩ | ⟨_, rfl⟩⟩
    case inl => have := HS.out; omega
    have HB3 := Lib.hid (HB2.out.trans (hb3.mono HB2.out.size))
    have HZ := Lib.hid (same_any none none 0 0 0 0 [] [] w3 0 0 Reads.none_ Reads.none_ (by omega))
    rw [decide_eq_true rfl] at HZ
    clear hb3
    go_wp2_with fail
    refine HZ.out.mono ?_
    rintro e w4 ⟨rfl, k, rfl⟩
    go_wp2
    go_ret
    exact ⟨rfl, below_drewN HB3.out k⟩
end Go.Proofs.YtmmjmaohbmlfgaaDoor.Pk
