/- The walk of pack.Put: it answers new memory: the bytes that were there, and those of the numbers behind them. -/
import Derived.Test.YtmegpbejknmjbaaDoorPackMath
import Derived.Test.YtmegpbejknmjbaaDoorPackSize
import Derived.Test.YtmegpbejknmjbaaDoorWords
import Derived.Test.YtmegpbejknmjbaaDoorBytes
import Derived.Test.YtmegpbejknmjbaaDoorProg
import Derived.LoopTactic
import Derived.Outline
import Derived.Lib.Hide
namespace Go.Proofs.YtmegpbejknmjbaaDoor.Pk
open Go.RowKit
set_option linter.unusedVariables false

theorem enc_step {f : Nat} {y : Int} {p q : List Int} (hy : ¬ y < 128) (hf : fits f y) (e : p ++ enc f y = q) : ∃ g, fits g (y / 128) ∧ (p ++ [y % 128 + 128]) ++ enc g (y / 128) = q := by
  obtain ⟨g, rfl, h2⟩ := fits_down hf hy
  exact ⟨g, h2, by rw [← e, enc_hi _ hy]; simp⟩
theorem enc_parts {f : Nat} {y x : Int} {p : List Int} (e : p ++ enc f y = enc 8 x) : p.length + 1 ≤ 9 := by
  have h1 := enc_len_pos f y
  have h2 := enc_len_le 8 x
  rw [← e, List.length_append] at h2
  omega
theorem encs_take_len (xs : List Int) (k : Nat) : (encs (xs.take k)).length ≤ 9 * k := by
  have h1 := encs_len (xs.take k)
  have h2 := List.length_take_le k xs
  omega

set_option maxHeartbeats 1600000 in
theorem put_any (A X : Option Addr) (n c m d : Nat) (l xs : List Int) (w : World) (hb : Reads w w.heap.size 1 A n (bts l)) (hx : Reads w w.heap.size 1 X m (nms xs))
    (hsz : n + 9 * m ≤ 140737488355328) (hm : m ≤ d) (hw : ∀ x ∈ xs, x ≤ 9223372036854775807) :
    Calls Tryd.prog 26 #[.slice A n c, .slice X m d] w fun e w' => ∃ v, e = .returned v ∧ OwnB w' w.heap.size v (l ++ encs xs) ∧ Below w.heap.size w w' := by
  have HB := Lib.hid hb
  have HX := Lib.hid hx
  have HW := Lib.hid hw
  clear hb hx hw
  go_enter Tryd.func26, Tryd.ntmps26
  go_wp2
  go_loop [5, 7, 15] (fun s x j => ∃ (S k : Nat), s = .int .i64 S ∧ j = .int .i64 k ∧ k ≤ m ∧ S ≤ n + 9 * k) (fun _ _ j => m - (intOf j).toNat)
  case atStart => exact ⟨n, 0, rfl, rfl, by omega, by omega⟩
  case round =>
    obtain ⟨S, k, rfl, rfl, hk, hS⟩ := hrel
    by_cases hlt : k < m
    · obtain ⟨b, off, rfl, hbb, hc⟩ := HX.out.i64 (by omega)
      have hcx := hc k hlt
      have hxw := HW.out (xs.getD k 0) (by rw [List.getD_eq_getElem?_getD, List.getElem?_eq_getElem (by have := HX.out.1; simp at this; omega)]; exact List.getElem_mem _)
      obtain ⟨x, hxx⟩ : ∃ x, x = xs.getD k 0 := ⟨_, rfl⟩
      rw [← hxx] at hcx hxw
      clear hxx hc
      have HC := size_any x w hxw
      have H9 := enc_len_le 8 x
      go_wp2_with (go_at_call 40; refine HC.mono ?_; rintro e w' ⟨rfl, rfl⟩)
      go_round
      case rel => exact ⟨S + (enc 8 x).length, k + 1, by go_num, by go_num, by omega, by omega⟩
      case measure => simp [intOf]; omega
    · have Hn : l.length = n := by have := HB.out.1; simpa using this
      have HN := Lib.hid Hn
      clear Hn
      go_wp2_with (first
        | (at_make; refine makeB w rfl _ _ rfl w.heap.size .i64 .i64 S S rfl rfl rfl (by omega) (Nat.le_refl _) ?_; intro w1 hown1 hb1)
        | (at_builtin; refine appB _ rfl (.tmp 25) (.tmp 26) rfl w.heap.size _ [] rfl hown1 w.heap.size A c l n rfl (HB.out.below hb1) (by simp; omega) hb1.size ?_; intro v2 w2 hown2 hb12 hat2 hg2))
      have hb2 : Below w.heap.size w w2 := hb1.trans hb12
      have ho2 : OwnB w2 w.heap.size v2 (l ++ encs (xs.take 0)) := by
        rw [List.take_zero, encs_nil, List.append_nil]
        simpa using hown2
      have HM : Hid (xs.length = m) := by have := HX.out.1; simp at this; exact this
      clear hown1 hg2 hat2 hown2 hb1 hb12 hS hk hlt
      go_loopw [8, 10, 30] (fun v x j wr => ∃ k : Nat, j = .int .i64 k ∧ k ≤ m ∧ OwnB wr w.heap.size v (l ++ encs (xs.take k)) ∧ Below w.heap.size w wr) (fun _ _ j _ => m - (intOf j).toNat)
      case atStart => exact ⟨0, rfl, by omega, ho2, hb2⟩
      case round =>
        clear ho2 hb2
        obtain ⟨k, rfl, hk, hown, hbel⟩ := hrel
        obtain ⟨wo, rfl⟩ : ∃ wo : World, wo = wr := ⟨_, rfl⟩
        by_cases hlt : k < m
        · obtain ⟨b, off, rfl, hbb, hc⟩ := HX.out.i64 (by omega)
          have hcx := (hbel.cell (p := ⟨b, off + k, none⟩) hbb).trans (hc k hlt)
          have hxw := HW.out (xs.getD k 0) (by rw [List.getD_eq_getElem?_getD, List.getElem?_eq_getElem (by rw [HM.out]; exact hlt)]; exact List.getElem_mem _)
          have HS := Lib.hid (encs_snoc xs k (by rw [HM.out]; exact hlt))
          have HL := encs_take_len xs k
          obtain ⟨x, hxx⟩ : ∃ x, x = xs.getD k 0 := ⟨_, rfl⟩
          rw [← hxx] at hcx hxw HS
          clear hxx hc
          obtain ⟨q, hq⟩ : ∃ q, q = enc 8 (max x 0) := ⟨_, rfl⟩
          have HQ := Lib.hid hq
          rw [← hq] at HS
          clear hq
          obtain ⟨pre, hpre⟩ : ∃ pre, pre = l ++ encs (xs.take k) := ⟨_, rfl⟩
          rw [← hpre] at hown
          have HPl : pre.length ≤ n + 9 * k := by rw [hpre, List.length_append, HN.out]; omega
          have HP := Lib.hid hpre
          clear hpre HL
          by_cases hx0 : 0 ≤ x
          all_goals
            go_wp2
            go_loopw [8, 10] (fun v z wr => ∃ (y : Int) (f : Nat) (p : List Int), z = .int .i64 y ∧ 0 ≤ y ∧ fits f y ∧ OwnB wr w.heap.size v (pre ++ p) ∧ p ++ enc f y = q ∧ Below w.heap.size w wr) (fun _ z _ => (intOf z).toNat)
            case atStart =>
              first
                | exact ⟨x, 8, [], rfl, hx0, fits_top x hxw, by simpa using hown, by rw [HQ.out, Int.max_eq_left hx0]; rfl, hbel⟩
                | exact ⟨0, 8, [], rfl, by omega, fits_top 0 (by omega), by simpa using hown, by rw [HQ.out, Int.max_eq_right (by omega)]; rfl, hbel⟩
            case round =>
              clear hown hbel hcx
              obtain ⟨y, f, p, rfl, hy0, hf, hown, hpq, hbel⟩ := hrel
              have HF := Lib.hid hf
              have HPQ := Lib.hid hpq
              have hpl : p.length + 1 ≤ 9 := enc_parts (hpq.trans HQ.out)
              have hll : (pre ++ p).length ≤ n + 9 * k + 8 := by rw [List.length_append]; omega
              clear hf hpq
              obtain ⟨wi, rfl⟩ : ∃ wi : World, wi = wr := ⟨_, rfl⟩
              have hsz1 := hbel.size
              by_cases hy : y < 128
              · go_wp2_with (at_builtin; refine app1 wi y _ rfl (.tmp 47) (.tmp 50) rfl w.heap.size _ (pre ++ p) rfl hown rfl (by omega) hsz1 ?_; intro v3 w3 hown3 hb3)
                go_roundw
                case rel =>
                  refine ⟨k + 1, by go_num, by omega, ?_, hbel.trans hb3⟩
                  have e : l ++ encs (xs.take (k + 1)) = pre ++ p ++ [y] := by
                    rw [HS.out, HP.out, ← HPQ.out, enc_lo f hy]; simp
                  rw [e]; exact hown3
                case measure => simp [intOf]; omega
              · go_wp2_with (at_builtin; refine app1 wi (y % 128 + 128) _ rfl (.tmp 40) (.tmp 45) rfl w.heap.size _ (pre ++ p) rfl hown rfl (by omega) hsz1 ?_; intro v3 w3 hown3 hb3)
                go_roundw
                case rel =>
                  obtain ⟨g, hg, e⟩ := enc_step hy HF.out HPQ.out
                  exact ⟨y / 128, g, p ++ [y % 128 + 128], rfl, by omega, hg, by rw [← List.append_assoc]; exact hown3, e, hbel.trans hb3⟩
                case measure => simp [intOf]; omega
        · go_wp2
          go_ret
          refine ⟨_, rfl, ?_, hbel⟩
          have e : xs.take k = xs := List.take_of_length_le (by rw [HM.out]; omega)
          rw [e] at hown
          exact hown
end Go.Proofs.YtmegpbejknmjbaaDoor.Pk
