/- What the program's frames promise (to be proved of the code that lands); the statements' own 'wakes'. -/
import Derived.Test.YtmmjmaohbmlfgaaDoorFrRef3
import Derived.Test.YtmmjmaohbmlfgaaDoorCrcTabW
import Derived.Lib.SlBytesConst
namespace Go.Proofs.YtmmjmaohbmlfgaaDoor.Pk
open Go.RowKit Go.Proofs.YtmmjmaohbmlfgaaDoor.Crc Go.Proofs.YtmmjmaohbmlfgaaDoor.Fr
set_option linter.unusedVariables false

def EncC : Prop := ∀ (A : Option Addr) (n c : Nat) (p : List Int) (w : World), Tab w → Reads w w.heap.size 1 A n (bts p) → n ≤ c → Bytes p → n ≤ 140737488355328 → Calls Tryd.prog 10 #[.slice A n c] w (EncP p w)
def EndP (b : List Int) (w : World) (e : Ending) (w' : World) : Prop := e = .returned (.int .i64 (fend b : Nat)) ∧ Below w.heap.size w w'
def EndC : Prop := ∀ (A : Option Addr) (n c : Nat) (b : List Int) (w : World), Tab w → Reads w w.heap.size 1 A n (bts b) → n ≤ c → Bytes b → n ≤ 17179869184 → Calls Tryd.prog 17 #[.slice A n c] w (EndP b w)
def AllP (b : List Int) (w : World) (e : Ending) (w' : World) : Prop := Below w.heap.size w w' ∧ ∃ A n c ps, e = .returned (.slice A n c) ∧ OwnL w' w.heap.size (.slice A n c) ps ∧ Piece.bytes ps = frames b
def AllC : Prop := ∀ (A : Option Addr) (n c : Nat) (b : List Int) (w : World), Tab w → Reads w w.heap.size 1 A n (bts b) → n ≤ c → Bytes b → n ≤ 17179869184 → Calls Tryd.prog 16 #[.slice A n c] w (AllP b w)

theorem enc_a : (enc [97]).getD 0 0 = 1 ∧ (enc [97]).getD 8 0 = 97 ∧ (enc [97]).length = 9 ∧ fend (enc [97]) = 9 := by
  refine ⟨rfl, rfl, rfl, ?_⟩
  unfold fend
  have h := frames_all (ps := [[97]]) (fun p hp => by simp at hp; subst hp; decide)
  rw [encs_cons, encs_nil, List.append_nil] at h
  rw [h]
  rfl

set_option maxHeartbeats 1600000 in
theorem wakes_any (hE : EncC) (hD : EndC) (w : World) (h : Tab w) : Calls Tryd.prog 9 #[] w fun e w' => e = .returned (.bool true) ∧ Below w.heap.size w w' := by
  have HT := Lib.hid h
  have HE := Lib.hid hE
  have HD := Lib.hid hD
  clear h hE hD
  have kc := fun (w : World) (C : Array Value) (n c : Nat) => Lib.run_convert_bytes_const (P := Tryd.prog) w 22 5 C n c Tryd.underlying22 Tryd.underlying5
  go_enter Tryd.func9, Tryd.ntmps9
  go_wp2_with fail
  have hb0 : Below w.heap.size w (w.alloc (.cells #[.int .u8 97] 5 (1, 2))) := (Below.refl _ _).alloc (Nat.le_refl _) _
  refine (HE.out (some ⟨w.heap.size, 0, none⟩) 1 1 [97] _ (HT.out.next hb0) (reads_marked w _ _ _ _ 1 (bts [97]) rfl rfl (by simp)) (Nat.le_refl _) (by unfold Bytes; decide) (by omega)).mono ?_
  rintro e w1 ⟨hb1, ⟨_, A1, n1, c1, rfl, ho1⟩ | ⟨h1, _⟩⟩
  case inr => simp at h1
  obtain ⟨e0, e8, el, ee⟩ := enc_a
  have hl1 := own_len ho1
  obtain rfl : n1 = 9 := by rw [← hl1.1]; exact el
  obtain ⟨g, off, rfl, hbb, hc⟩ := (own_reads ho1).u8 (by omega)
  have c0 : w1.cell? ⟨g, off, none⟩ = some (.int .u8 1) := by have := hc 0 (by omega); rw [e0] at this; exact this
  have c8 := hc 8 (by omega)
  rw [e8] at c8
  have HB1 := Lib.hid (hb0.trans (hb1.mono hb0.size))
  have HX := Lib.hid (HD.out _ 9 c1 (enc [97]) w1 (HT.out.next HB1.out) (own_reads ho1) hl1.2 (enc_bytes (by unfold Bytes; decide)) (by omega))
  unfold EndP at HX
  rw [ee] at HX
  clear hb0 hb1 ho1 hc e0 e8 el ee hl1 kc
  go_wp2_with fail
  refine HX.out.mono ?_
  rintro e w2 ⟨rfl, hb2⟩
  have HB2 := Lib.hid (HB1.out.trans (hb2.mono HB1.out.size))
  clear hb2
  go_wp2
  go_ret
  exact ⟨rfl, HB2.out⟩
end Go.Proofs.YtmmjmaohbmlfgaaDoor.Pk
