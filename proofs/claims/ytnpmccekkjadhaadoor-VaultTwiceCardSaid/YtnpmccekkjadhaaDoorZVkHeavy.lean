/- The law's own 'heavy'. -/
import Derived.Test.YtnpmccekkjadhaaDoorZArgV
import Derived.Test.YtnpmccekkjadhaaDoorZDskB
namespace Go.Proofs.YtnpmccekkjadhaaDoor.Pk
open Go.RowKit Go.Proofs.YtnpmccekkjadhaaDoor.Ar Go.Proofs.YtnpmccekkjadhaaDoor.Crc Go.Proofs.YtnpmccekkjadhaaDoor.Fr
set_option linter.unusedVariables false

/-- The bytes of the first k calls. -/
def bSum (l : List OpV) (k : Nat) : Nat := ((l.take k).map OpV.m).sum
theorem bSum_next {l : List OpV} {k : Nat} {r : OpV} (h : l[k]? = some r) : bSum l (k + 1) = bSum l k + r.m := by
  unfold bSum
  rw [List.take_add_one, h]
  simp
theorem bSum_zero (l : List OpV) : bSum l 0 = 0 := by simp [bSum]
theorem bSum_mono {l : List OpV} {k : Nat} : bSum l k ≤ bSum l (k + 1) := by
  cases h : l[k]? with
  | none =>
    have h1 := List.getElem?_eq_none_iff.1 h
    unfold bSum
    rw [List.take_of_length_le h1, List.take_of_length_le (by omega)]
    exact Nat.le_refl _
  | some r => rw [bSum_next h]; omega
theorem bSum_le {l : List OpV} {k j : Nat} (h : k ≤ j) : bSum l k ≤ bSum l j := by
  induction j with
  | zero => obtain rfl : k = 0 := by omega
            exact Nat.le_refl _
  | succ j ih =>
    rcases Nat.lt_or_ge k (j + 1) with h1 | h1
    · exact Nat.le_trans (ih (by omega)) bSum_mono
    · obtain rfl : k = j + 1 := by omega
      exact Nat.le_refl _
/-- More bytes than are played, or not: what follows if not. -/
def HvR (w : World) (t k : Nat) (l : List OpV) (e : Ending) (w' : World) : Prop := Below w.heap.size w w' ∧ ∃ y : Bool, e = .returned (.bool y) ∧ (y = false → t + bSum l k ≤ 2097152 ∧ k ≤ 1024)

set_option maxRecDepth 100000 in
set_option maxHeartbeats 1600000 in
theorem heavy_any (a b v : Option Addr) (n m k c e j : Nat) (l : List OpV) (w : World) (hn : n + m ≤ 562949953421312) (h : ArgV w v k j l) : Calls Tryd.prog 9 #[.slice a n c, .slice b m e, .slice v k j] w (HvR w (n + m) k l) := by
  obtain ⟨hro, hkj, hk, hok⟩ := h
  have HRO := Lib.hid hro
  have HK := Lib.hid hok
  have HM : Hid (l.length = k) := Lib.hid hro.olen
  clear hro hok
  go_enter Tryd.func9, Tryd.ntmps9
  obtain ⟨t, ht⟩ : ∃ t, t = n + m := ⟨_, rfl⟩
  have hw : IntKind.i64.wrap ((n : Int) + (m : Int)) = (t : Int) := by rw [IntWalk.i64_in _ (by omega), ht]; simp
  rw [← ht] at hn ⊢
  clear ht
  go_wp2
  go_loopw [7, 9, 17] (fun x _ i wr => ∃ q : Nat, x = .int .i64 ((t + bSum l q : Nat) : Int) ∧ i = .int .i64 q ∧ q ≤ k ∧ (0 < q → t + bSum l q ≤ 2097152) ∧ Below w.heap.size w wr) (fun _ _ i _ => k - (intOf i).toNat)
  case atStart => exact ⟨0, by rw [bSum_zero]; rfl, rfl, by omega, by omega, Below.refl _ _⟩
  case round =>
    obtain ⟨q, rfl, rfl, hq, hs, hb⟩ := hrel
    obtain ⟨w3, rfl⟩ : ∃ w3 : World, w3 = wr := ⟨_, rfl⟩
    have HB := Lib.hid hb
    have hs4 : t + bSum l q ≤ 562949953421312 := by
      rcases Nat.eq_zero_or_pos q with h0 | h0
      · subst h0; rw [bSum_zero]; omega
      · have := hs h0; omega
    obtain ⟨s, hse⟩ : ∃ s, s = t + bSum l q := ⟨_, rfl⟩
    rw [← hse] at hs hs4 ⊢
    have HSe := Lib.hid hse
    clear hb hse
    by_cases hlt : q < k
    · obtain ⟨pb, off, rfl, hbb, hcs⟩ := (HRO.out.below HB.out).ops_ (by omega)
      obtain ⟨r, hr⟩ : ∃ r, l[q]? = some r := ⟨_, List.getElem?_eq_getElem (by rw [HM.out]; exact hlt)⟩
      obtain ⟨x0, x1, x2, x3⟩ := hcs q r hr
      have hrm := (HK.out r (List.mem_of_getElem? hr)).2.1
      have HNx := Lib.hid (bSum_next hr)
      obtain ⟨kd, on, ok, ob, oA, om, oq⟩ := r
      simp only at x0 x1 x2 x3 hrm
      clear hcs hr hs
      obtain ⟨u, hu⟩ : ∃ u, u = s + om := ⟨_, rfl⟩
      have hw2 : IntKind.i64.wrap ((s : Int) + (om : Int)) = (u : Int) := by rw [IntWalk.i64_in _ (by omega), hu]; simp
      have HU : Hid (u = t + bSum l (q + 1)) := Lib.hid (by rw [HNx.out, hu, HSe.out]; show _ + om = t + (_ + om); omega)
      clear hu
      by_cases hbig : 2097152 < u
      case pos =>
        go_wp2
        go_ret
        exact ⟨(HB.out.alloc HB.out.size _), true, rfl, fun h => by cases h⟩
      go_wp2
      go_roundw
      case rel => exact ⟨q + 1, by rw [HU.out], by go_num, by omega, fun _ => by have := HU.out; omega, HB.out.alloc HB.out.size _⟩
      case measure => simp [intOf]; omega
    · obtain rfl : q = k := by omega
      by_cases h1 : 2097152 < s
      case pos =>
        have t1 : decide ((2097152 : Int) < (s : Int)) = true := by simp; omega
        go_wp2
        go_ret
        exact ⟨HB.out, true, rfl, fun h => by cases h⟩
      have t1 : decide ((2097152 : Int) < (s : Int)) = false := by simp; omega
      by_cases h2 : 1024 < q
      case pos =>
        have t2 : decide ((1024 : Int) < (q : Int)) = true := by simp; omega
        go_wp2
        go_ret
        exact ⟨HB.out, true, rfl, fun h => by cases h⟩
      have t2 : decide ((1024 : Int) < (q : Int)) = false := by simp; omega
      go_wp2
      go_ret
      exact ⟨HB.out, false, rfl, fun _ => by have := HSe.out; omega⟩
end Go.Proofs.YtnpmccekkjadhaaDoor.Pk
