/- The document's frames: four, Encode. -/
import Derived.Test.YtmmjmaohbmlfgaaDoorFrMath
import Derived.Test.YtmmjmaohbmlfgaaDoorFrParts
import Derived.Test.YtmmjmaohbmlfgaaDoorSets
import Derived.Test.YtmmjmaohbmlfgaaDoorHold
import Derived.Outline
import Derived.Lib.Hide
import Derived.BigQuiet
import Derived.BigRegion
namespace Go.Proofs.YtmmjmaohbmlfgaaDoor.Pk
open Go.RowKit Go.Proofs.YtmmjmaohbmlfgaaDoor.Crc Go.Proofs.YtmmjmaohbmlfgaaDoor.Fr
set_option linter.unusedVariables false

theorem OwnB.lit {w : World} {B : Nat} {cs : Array Value} {l : List Int} (h : cs.toList = bts l) (hB : B ≤ w.heap.size) (hl : l.length ≤ 1048576) : OwnB (w.alloc (.cells cs 5)) B (.slice (some ⟨w.heap.size, 0, none⟩) l.length l.length) l := by
  have hs : cs.size = l.length := by rw [← Array.length_toList, h]; simp
  refine ⟨by simp, .inr ⟨w.heap.size, l.length, cs, by rfl, hB, heap_alloc_new w _, Nat.le_refl _, by unfold maxLen; omega, by omega, ?_⟩⟩
  rw [h, List.take_of_length_le (by simp)]

set_option maxHeartbeats 800000 in
theorem four_any (x : Nat) (hx : x < 4294967296) (w : World) :
    Calls Tryd.prog 21 #[.int .u32 (x : Int)] w fun e w' => e = .returned (.slice (some ⟨w.heap.size, 0, none⟩) 4 4) ∧ OwnB w' w.heap.size (.slice (some ⟨w.heap.size, 0, none⟩) 4 4) (le4 x) ∧ Below w.heap.size w w' := by
  go_enter Tryd.func21, Tryd.ntmps21
  go_wp2
  go_ret
  refine ⟨rfl, OwnB.lit (l := le4 x) ?_ (Nat.le_refl _) (by simp), (Below.refl _ _).alloc (Nat.le_refl _) _⟩
  show [Value.int .u8 _, Value.int .u8 _, Value.int .u8 _, Value.int .u8 _] = [Value.int .u8 _, Value.int .u8 _, Value.int .u8 _, Value.int .u8 _]
  congr 1
  congr 1
  congr 1
  congr 1
  congr 1
  omega

/-- What an Encode answers. -/
def EncP (p : List Int) (w : World) (e : Ending) (w' : World) : Prop :=
  Below w.heap.size w w' ∧ ((p.length ≤ 1048576 ∧ ∃ A n c, e = .returned (.tuple #[.slice A n c, .int .i64 0]) ∧ OwnB w' w.heap.size (.slice A n c) (enc p)) ∨ (1048576 < p.length ∧ e = .returned (.tuple #[.slice none 0 0, .int .i64 3])))
theorem own_slice {w : World} {B : Nat} {v : Value} {l : List Int} (h : OwnB w B v l) : ∃ A n c, v = .slice A n c := by
  obtain ⟨A, c, rfl, _, _⟩ := h.reads
  exact ⟨A, _, c, rfl⟩
theorem own_len {w : World} {B : Nat} {A : Option Addr} {n c : Nat} {l : List Int} (h : OwnB w B (.slice A n c) l) : l.length = n ∧ n ≤ c := by
  obtain ⟨A', c', e, hc, _⟩ := h.reads
  injection e with e1 e2 e3
  omega
theorem own_reads {w : World} {B : Nat} {A : Option Addr} {n c : Nat} {l : List Int} (h : OwnB w B (.slice A n c) l) : Reads w w.heap.size 1 A n (bts l) := by
  obtain ⟨A', c', e, _, hr⟩ := h.reads
  have := (own_len h).1
  injection e with e1 e2 e3
  rw [e1]; rw [this] at hr; exact hr

set_option maxHeartbeats 1600000 in
theorem refEnc_any (A : Option Addr) (n c : Nat) (p : List Int) (w : World) (hr : Reads w w.heap.size 1 A n (bts p)) (hby : Bytes p) (hn : n ≤ 9223372036854775807) :
    Calls Tryd.prog 11 #[.slice A n c] w (EncP p w) := by
  have HL : Hid (p.length = n) := Lib.hid (by have := hr.1; simpa using this)
  have HR := Lib.hid hr
  have HB := Lib.hid hby
  clear hr hby
  by_cases hlong : 1048576 < n
  · go_enter Tryd.func11, Tryd.ntmps11
    go_wp2
    go_ret2
    exact ⟨Below.refl _ _, .inr ⟨by rw [HL.out]; exact hlong, rfl⟩⟩
  · have hn2 : n ≤ 1048576 := by omega
    go_enter Tryd.func11, Tryd.ntmps11
    go_wp2_with fail
    refine (four_any n (by omega) w).mono ?_
    rintro e w1 ⟨rfl, ho1, hb1⟩
    have HO1 := Lib.hid ho1
    have HB1 := Lib.hid hb1
    have HR1 := Lib.hid ((HR.out.below hb1).more hb1.size)
    have HE : Hid (le4 n ++ p = le4 p.length ++ p) := Lib.hid (by rw [HL.out])
    have HS : Hid (crc 0 (le4 n ++ p) = fsum p) := Lib.hid (by unfold fsum; rw [HL.out])
    have hs4 : fsum p < 4294967296 := fsum_lt HB.out
    obtain ⟨s, hs⟩ : ∃ s, s = fsum p := ⟨_, rfl⟩
    rw [← hs] at hs4 HS
    have HSf := Lib.hid hs
    clear ho1 hb1 hs
    go_wp2_with (first
      | (at_builtin; refine appE w1 rfl (.tmp 13) (.tmp 14) rfl w1.heap.size rfl w1.heap.size _ 4 (le4 n) 4 rfl (own_reads HO1.out) (Nat.le_refl _) (by omega) (Nat.le_refl _) ?_; intro v2 w2 hown2 hb2; obtain ⟨A2, n2, c2, rfl⟩ := own_slice hown2; have HO2 := Lib.hid hown2; have HB2 := Lib.hid hb2; clear hown2 hb2)
      | (at_builtin; refine appB w2 rfl (.tmp 15) (.tmp 16) rfl w1.heap.size _ (le4 n) rfl HO2.out w1.heap.size A c p n rfl (HR1.out.below HB2.out) (by simp; omega) HB2.out.size ?_; intro v3 w3 hown3 hb3 _ _; obtain ⟨A3, n3, c3, rfl⟩ := own_slice hown3; have hl3 := own_len hown3; have HO3 := Lib.hid hown3; have HB3 := Lib.hid (HB2.out.trans hb3); clear hown3 hb3)
      | (go_at_call 22; refine (refSum_any A3 n3 c3 (le4 n ++ p) w3 w3.heap.size (own_reads HO3.out) (by have h1 := hl3.1; have h2 := HL.out; simp at h1; omega) ((le4_bytes n).app HB.out)).mono ?_; rw [HS.out]; rintro e w4 ⟨rfl, hw⟩; rw [← hw]; clear hw w4)
      | (go_at_call 21; refine (four_any s hs4 w3).mono ?_; rintro e w5 ⟨rfl, ho5, hb5⟩; have HO5 := Lib.hid ho5; have HB5 := Lib.hid (HB3.out.trans (hb5.mono HB3.out.size)); have HR5 := Lib.hid ((HR1.out.below HB5.out).more HB5.out.size); have HQ5 : Hid (Reads w5 w5.heap.size 1 _ 4 (bts (le4 n))) := Lib.hid (((own_reads HO1.out).below HB5.out).more HB5.out.size); clear ho5 hb5)
      | (at_builtin; refine appE w5 rfl (.tmp 20) (.tmp 21) rfl w5.heap.size rfl w5.heap.size _ 4 (le4 n) 4 rfl HQ5.out (Nat.le_refl _) (by omega) (Nat.le_refl _) ?_; intro v6 w6 hown6 hb6; obtain ⟨A6, n6, c6, rfl⟩ := own_slice hown6; have HO6 := Lib.hid hown6; have HB6 := Lib.hid hb6; clear hown6 hb6)
      | (at_builtin; refine appB w6 rfl (.tmp 22) (.tmp 23) rfl w5.heap.size _ (le4 n) rfl HO6.out w5.heap.size _ 4 (le4 s) 4 rfl ((own_reads HO5.out).below HB6.out) (by simp) HB6.out.size ?_; intro v7 w7 hown7 hb7 _ _; obtain ⟨A7, n7, c7, rfl⟩ := own_slice hown7; have HO7 := Lib.hid hown7; have HB7 := Lib.hid (HB6.out.trans hb7); clear hown7 hb7)
      | (at_builtin; refine appB w7 rfl (.tmp 24) (.tmp 25) rfl w5.heap.size _ (le4 n ++ le4 s) rfl HO7.out w5.heap.size A c p n rfl (HR5.out.below HB7.out) (by simp; omega) HB7.out.size ?_; intro v8 w8 hown8 hb8 _ _; obtain ⟨A8, n8, c8, rfl⟩ := own_slice hown8; have HO8 := Lib.hid hown8; have HB8 := Lib.hid (HB7.out.trans hb8); clear hown8 hb8))
    go_ret2
    have hw5 : w.heap.size ≤ w5.heap.size := Nat.le_trans HB1.out.size HB5.out.size
    refine ⟨((HB1.out.trans (HB5.out.mono HB1.out.size)).trans (HB8.out.mono hw5)), .inl ⟨by rw [HL.out]; exact hn2, A8, n8, c8, rfl, ?_⟩⟩
    have e1 : le4 n ++ le4 s ++ p = enc p := by
      unfold enc
      rw [HL.out, HSf.out, List.append_assoc]
    rw [← e1]
    exact HO8.out.mono hw5
end Go.Proofs.YtmmjmaohbmlfgaaDoor.Pk
