/- The walks of the document's answers for numbers as bytes: Put and Take. -/
import Derived.Test.YtmegpbejknmjbaaDoorPackRefMath
import Derived.Test.YtmegpbejknmjbaaDoorPackTake
import Derived.Test.YtmegpbejknmjbaaDoorPackPut
namespace Go.Proofs.YtmegpbejknmjbaaDoor.Pk
open Go.RowKit
set_option linter.unusedVariables false

set_option maxHeartbeats 1600000 in
theorem refput_any (A : Option Addr) (n c : Nat) (l : List Int) (x : Int) (w : World) (hb : Reads w w.heap.size 1 A n (bts l)) (hsz : n + 9 ≤ 140737488355328) (hx : x ≤ 9223372036854775807) :
    Calls Tryd.prog 28 #[.slice A n c, .int .i64 x] w fun e w' => ∃ v, e = .returned v ∧ OwnB w' w.heap.size v (l ++ enc 8 (max x 0)) ∧ Below w.heap.size w w' := by
  have HN : Hid (l.length = n) := by have := hb.1; simp at this; exact this
  have HB := Lib.hid hb
  clear hb
  have hl : l.length ≤ n := by rw [HN.out]; omega
  obtain ⟨q, hq⟩ : ∃ q, q = enc 8 (max x 0) := ⟨_, rfl⟩
  rw [← hq]
  have HQ := Lib.hid hq
  clear hq
  by_cases hx0 : x < 0
  all_goals
    go_enter Tryd.func28, Tryd.ntmps28
    go_wp2_with (at_builtin; refine appE w rfl (.tmp 6) (.tmp 7) rfl w.heap.size rfl w.heap.size A c l n rfl HB.out (Nat.le_refl _) (by omega) (Nat.le_refl _) ?_; intro v2 w2 hown2 hb2)
    go_loopw [1, 5] (fun z v wr => ∃ (y : Int) (f : Nat) (p : List Int), z = .int .i64 y ∧ 0 ≤ y ∧ y ≤ 9223372036854775807 ∧ fits f y ∧ OwnB wr w.heap.size v (l ++ p) ∧ p ++ enc f y = q ∧ Below w.heap.size w wr) (fun z _ _ => (intOf z).toNat)
    case atStart =>
      first
        | exact ⟨x, 8, [], rfl, by omega, by omega, fits_top x hx, by simpa using hown2, by rw [HQ.out, Int.max_eq_left (by omega)]; rfl, hb2⟩
        | exact ⟨0, 8, [], rfl, by omega, by omega, fits_top 0 (by omega), by simpa using hown2, by rw [HQ.out, Int.max_eq_right (by omega)]; rfl, hb2⟩
    case round =>
      clear hown2 hb2
      obtain ⟨y, f, p, rfl, hy0, hym, hf, hown, hpq, hbel⟩ := hrel
      have HF := Lib.hid hf
      have HPQ := Lib.hid hpq
      have hpl : p.length + 1 ≤ 9 := enc_parts (hpq.trans HQ.out)
      have hll : (l ++ p).length ≤ n + 8 := by rw [List.length_append]; omega
      clear hf hpq
      obtain ⟨wi, rfl⟩ : ∃ wi : World, wi = wr := ⟨_, rfl⟩
      have hsz1 := hbel.size
      by_cases hy : y < 128
      · go_wp2_with (at_builtin; refine app1 wi y _ rfl (.tmp 22) (.tmp 25) rfl w.heap.size _ (l ++ p) rfl hown rfl (by omega) hsz1 ?_; intro v3 w3 hown3 hb3)
        go_ret
        refine ⟨_, rfl, ?_, hbel.trans hb3⟩
        have e : l ++ q = l ++ p ++ [y] := by rw [← HPQ.out, enc_lo f hy]; simp
        rw [e]; exact hown3
      · go_wp2_with (at_builtin; refine app1 wi (y % 128 + 128) _ rfl (.tmp 13) (.tmp 18) rfl w.heap.size _ (l ++ p) rfl hown rfl (by omega) hsz1 ?_; intro v3 w3 hown3 hb3)
        go_roundw
        case rel =>
          obtain ⟨g, hg, e⟩ := enc_step hy HF.out HPQ.out
          exact ⟨y / 128, g, p ++ [y % 128 + 128], rfl, by omega, by omega, hg, by rw [← List.append_assoc]; exact hown3, e, hbel.trans hb3⟩
        case measure => simp [intOf]; omega

/-- The second loop of the document's Take: from the last byte down. -/
def Down (l : List Int) (k : Nat) (s i : Value) : Prop := (∃ j : Nat, i = .int .i64 j ∧ j ≤ k ∧ s = .int .i64 (gat l k (j + 1))) ∨ (i = .int .i64 (-1) ∧ s = .int .i64 (gat l k 0))

theorem down_step (l : List Int) (k j : Nat) (g z : Int) (hj : j ≤ k) (h : gat l k j = z % 128 + 128 * g) : Down l k (Value.int IntKind.i64 (g * 128 + z % 128)) (Value.int IntKind.i64 ((j : Int) - 1)) := by
  have e : g * 128 + z % 128 = gat l k j := by rw [h]; omega
  rw [e]
  cases j with
  | zero => exact .inr ⟨rfl, rfl⟩
  | succ j => exact .inl ⟨j, by congr 1; omega, by omega, rfl⟩

set_option maxHeartbeats 1600000 in
theorem reftake_any (A : Option Addr) (n c : Nat) (l : List Int) (w : World) (B : Nat) (h : Reads w B 1 A n (bts l)) (hB : isB l) (hn : n ≤ 4611686018427387904) :
    Calls Tryd.prog 33 #[.slice A n c] w fun e w' => e = .returned (.tuple #[.int .i64 (tkv l).1, .int .i64 ((tkv l).2 : Nat)]) ∧ w = w' := by
  have HL : Hid (l.length = n) := by have := h.1; simp at this; exact this
  have HR := Lib.hid h
  have HB := Lib.hid hB
  clear h hB
  have HZ := Lib.hid (high_zero l)
  go_enter Tryd.func33, Tryd.ntmps33
  go_wp2
  go_loop [4] (fun j => ∃ (k : Nat), j = .int .i64 k ∧ k ≤ n ∧ High l k) (fun j => n - (intOf j).toNat)
  case atStart => exact ⟨0, rfl, by omega, HZ.out⟩
  case round =>
    clear HZ
    obtain ⟨k, rfl, hk, hh⟩ := hrel
    have HH := Lib.hid hh
    clear hh
    by_cases hlt : k < n
    · obtain ⟨b, off, rfl, hbb, hc⟩ := HR.out.u8 (by omega)
      have hcx := hc k hlt
      have HC := Lib.hid hc
      have hm := HB.out _ (getD_mem l k (by rw [HL.out]; exact hlt))
      obtain ⟨x, hxx⟩ : ∃ x, x = l.getD k 0 := ⟨_, rfl⟩
      rw [← hxx] at hcx hm
      have HX := Lib.hid hxx
      clear hxx hc
      obtain ⟨hm1, hm2⟩ := hm
      by_cases hx : 128 ≤ x
      · go_wp2
        go_round
        case rel => exact ⟨k + 1, by go_num, by omega, high_succ HH.out (by rw [HL.out]; exact hlt) (by rw [← HX.out]; exact hx)⟩
        case measure => simp [intOf]; omega
      · have HE : Hid (lead l = k) := lead_of l k HH.out (.inr (by rw [← HX.out]; omega))
        by_cases h9 : 9 ≤ k
        · have HT : Hid (tkv l = (0, 0)) := tkv_none l HB.out (by rw [HE.out]; omega)
          go_wp2
          go_ret2
          exact ⟨by rw [HT.out]; rfl, rfl⟩
        · by_cases hz : 0 < k ∧ x = 0
          · obtain ⟨hz1, hz2⟩ := hz
            have HT : Hid (tkv l = (0, 0)) := tkv_none l HB.out (by rw [HE.out, ← HX.out]; omega)
            subst hz2
            go_wp2
            go_ret2
            exact ⟨by rw [HT.out]; rfl, rfl⟩
          · have HT : Hid (tkv l = (val (l.take (k + 1)), k + 1)) := by
              have := tkv_some l HB.out (by rw [HE.out, ← HX.out, HL.out]; omega)
              rw [HE.out] at this; exact this
            have d9 : decide ((9 : Int) ≤ (k : Int)) = false := by simp; omega
            have hst : Down l k (.int .i64 0) (.int .i64 k) := .inl ⟨k, rfl, Nat.le_refl _, by rw [gat_start]⟩
            have HST := Lib.hid hst
            clear hst
            rcases (show (0 < k ∧ (x == 0) = false) ∨ ¬ 0 < k by rcases Nat.eq_zero_or_pos k with h | h; exact .inr (by omega); exact .inl ⟨h, by simp; omega⟩) with ⟨hk0, hk1⟩ | hk0
            all_goals
              go_wp2
              go_loop [5, 6] (fun s i => Down l k s i) (fun _ i => (intOf i + 1).toNat)
              case atStart => exact HST.out
              case round =>
                clear HST
                rcases hrel with ⟨j, rfl, hj, rfl⟩ | ⟨rfl, rfl⟩
                · have hcj := HC.out j (by omega)
                  have hgb := gat_bd l k (j + 1) (by omega) (by omega)
                  have HS := Lib.hid (gat_step l k j (by rw [HL.out]; exact hlt) hj)
                  have hmj := HB.out _ (getD_mem l j (by rw [HL.out]; omega))
                  obtain ⟨z, hz⟩ : ∃ z, z = l.getD j 0 := ⟨_, rfl⟩
                  obtain ⟨g, hg⟩ : ∃ g, g = gat l k (j + 1) := ⟨_, rfl⟩
                  rw [← hz] at hcj HS hmj
                  rw [← hg] at HS hgb ⊢
                  clear hz hg
                  obtain ⟨hg1, hg2⟩ := hgb
                  obtain ⟨hm1, hm2⟩ := hmj
                  go_wp2
                  go_round
                  case rel => exact down_step l k j g z hj HS.out
                  case measure => simp only [intOf]; omega
                · have HT2 : Hid (gat l k 0 = (tkv l).1 ∧ (tkv l).2 = k + 1) := by rw [HT.out]; exact ⟨gat_end l k, rfl⟩
                  obtain ⟨g, hg⟩ : ∃ g, g = gat l k 0 := ⟨_, rfl⟩
                  rw [← hg] at HT2 ⊢
                  clear hg
                  go_wp2
                  go_ret2
                  refine ⟨?_, rfl⟩
                  rw [← HT2.out.1, HT2.out.2]; rfl
    · have HT : Hid (tkv l = (0, 0)) := by
        have e := lead_of l k HH.out (.inl (by rw [HL.out]; omega))
        exact tkv_none l HB.out (by rw [e, HL.out]; omega)
      go_wp2
      go_ret2
      exact ⟨by rw [HT.out]; rfl, rfl⟩
end Go.Proofs.YtmegpbejknmjbaaDoor.Pk
