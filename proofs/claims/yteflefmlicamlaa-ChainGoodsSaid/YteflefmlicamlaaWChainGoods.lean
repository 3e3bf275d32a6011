/- The walk of the law ChainGoods. -/
import Derived.Test.YteflefmlicamlaaChWakes
import Derived.Test.YteflefmlicamlaaChRef4
namespace Go.Proofs.Yteflefmlicamlaa.Pk
open Go.RowKit
set_option linter.unusedVariables false
set_option maxHeartbeats 4000000 in
theorem law_ChainGoods (HGo : GoodP) (HOp : OpenP) (HSu : SuccP) (HRe : RelP) (A : Option Addr) (n c : Nat) (l : List Ce) (me : Int) (sink : Bool) (w : World) (hin : InK w l A n c) (hm : J64 me) :
    Calls Try.prog 3 #[.slice A n c, .int .i64 me, .bool sink] w fun e w' => e = .returned (.bool true) ∧ Below w.heap.size w w' := by
  have HW := Lib.hid (wakesC HSu HRe w)
  have HI := Lib.hid hin
  have HG := Lib.hid (fun (W : World) (hb : Below w.heap.size w W) => HGo A n c l me sink W (hin.next hb) hm)
  have HR := Lib.hid (fun (W : World) (hb : Below w.heap.size w W) => refgood_any A n c l me sink W (hin.next hb))
  have HO := Lib.hid (fun (W : World) (hb : Below w.heap.size w W) => HOp A n c l W (hin.next hb))
  have HP := Lib.hid (fun (W : World) (hb : Below w.heap.size w W) => refopen_any A n c l W (hin.next hb))
  clear hin HGo HOp HSu HRe
  obtain ⟨r, hr⟩ : ∃ r, r = decide (GoodK l me sink) := ⟨_, rfl⟩
  obtain ⟨k, hk⟩ : ∃ k, k = openK l := ⟨_, rfl⟩
  rw [← hr] at HG HR
  rw [← hk] at HO HP
  have t1 : (r == r) = true := by simp
  have t2 : ((k : Int) == (k : Int)) = true := by simp
  clear hr hk
  go_enter Try.func3, Try.ntmps3
  go_wp2_with fail
  refine HW.out.mono ?_
  rintro e w1 ⟨rfl, hb1⟩
  have HB1 := Lib.hid hb1
  clear hb1
  go_wp2_with fail
  refine (HG.out w1 HB1.out).mono ?_
  rintro e w2 ⟨rfl, hb2⟩
  have HB2 := Lib.hid (HB1.out.trans (hb2.mono HB1.out.size))
  clear hb2
  go_wp2_with fail
  refine (HR.out w2 HB2.out).mono ?_
  rintro e w3 ⟨rfl, hb3⟩
  have HB3 := Lib.hid (HB2.out.trans (hb3.mono HB2.out.size))
  clear hb3
  go_wp2_with fail
  refine (HO.out w3 HB3.out).mono ?_
  rintro e w4 ⟨rfl, hb4⟩
  have HB4 := Lib.hid (HB3.out.trans (hb4.mono HB3.out.size))
  clear hb4
  go_wp2_with fail
  refine (HP.out w4 HB4.out).mono ?_
  rintro e w5 ⟨rfl, hb5⟩
  have HB5 := Lib.hid (HB4.out.trans (hb5.mono HB4.out.size))
  clear hb5
  go_wp2
  go_ret
  exact ⟨rfl, HB5.out⟩
end Go.Proofs.Yteflefmlicamlaa.Pk
