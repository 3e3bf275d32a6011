/- A net that is newer than a world; the law's own 'wakes'. -/
import Derived.Test.YtcjfammfplcigaaNtSpec
import Derived.Test.YtcjfammfplcigaaSameNt
import Derived.Lib.SlBytesConst
import Derived.ShutString
import Derived.Deep.RegionHeld3
import Derived.Deep.DeepMust
namespace Go.Proofs.Ytcjfammfplcigaa.Pk
open Go.RowKit Go.Proofs.Ytcjfammfplcigaa.Nt
set_option linter.unusedVariables false
/-- The text of the bytes that a slice reads as. -/
theorem conv_b {w : World} {B n : Nat} {A : Option Addr} {l : List Int} (h : Reads w B 1 A n (bts l)) (c : Nat) : (convert 31 9 (.slice A n c)).run Try.prog w = .ok (.string (strOfNums l)) w := by
  have hlen : l.length = n := by have := h.1; simp at this; exact this
  rcases A with _ | ad
  · have h0 := h.nil rfl
    subst h0
    obtain rfl : l = [] := List.length_eq_zero_iff.1 hlen
    exact run_convert_bytes_nil w 31 5 Try.underlying31 Try.underlying5 0 c 9 Try.underlying9
  · have hl : (loadCells ad n).run Try.prog w = .ok (l.map (Value.int .u8)).toArray w := by
      have := run_loadCells_list (P := Try.prog) w ad (l.map (Value.int .u8)) (fun j v hj => by
        have hjn : 0 < n := by
          rcases Nat.eq_zero_or_pos n with h1 | h1
          · obtain rfl : l = [] := List.length_eq_zero_iff.1 (by omega)
            simp at hj
          · exact h1
        obtain ⟨ad', e, _, hc⟩ := h.2 hjn
        injection e with e
        subst e
        exact hc j v hj)
      simpa [hlen] using this
    rw [run_convert_bytes_string w 31 9 5 _ n c Try.underlying31 Try.underlying5 Try.underlying9, run_bytesToString w _ n c l hl, foldl_push_bytes]
    simp [strOfNums, ByteArray.empty, ByteArray.emptyWithCapacity]
    rfl

/-- A net all of whose blocks are newer than world w0, which stands otherwise. -/
def AtNt (Nb : World → Nat → Li → (Nat → Prop) → (Nat → Prop) → Prop) (w0 : World) (T : Nat) (l : Li) (w : World) : Prop := ∃ S D, Nb w T l S D ∧ (∀ b, D b → w0.heap.size ≤ b) ∧ Below w0.heap.size w0 w
section
variable {Nb : Nat → World → Nat → Li → (Nat → Prop) → (Nat → Prop) → Prop} {kc : Nat} {w0 w w' : World} {T : Nat} {l l' : Li}
theorem AtNt.bel (h : AtNt (Nb kc) w0 T l w) : Below w0.heap.size w0 w := by obtain ⟨_, _, _, _, h⟩ := h; exact h
theorem AtNt.few (h : AtNt (Nb kc) w0 T l w) (C : NetC Nb) : l.length ≤ 512 := by obtain ⟨_, _, h, _, _⟩ := h; exact C.few h
theorem AtNt.next (h : AtNt (Nb kc) w0 T l w) (C : NetC Nb) (hb : Below w.heap.size w w') : AtNt (Nb kc) w0 T l w' := by
  obtain ⟨S, D, h1, h2, h3⟩ := h
  exact ⟨S, D, C.next h1 hb, h2, h3.trans (hb.mono h3.size)⟩
theorem AtNt.drewN (h : AtNt (Nb kc) w0 T l w) (C : NetC Nb) (n : Nat) : AtNt (Nb kc) w0 T l (w.drewN n) := h.next C (below_drewN (Below.refl _ _) n)
theorem AtNt.alloc (h : AtNt (Nb kc) w0 T l w) (C : NetC Nb) (o : Obj) : AtNt (Nb kc) w0 T l (w.alloc o) := h.next C ((Below.refl _ _).alloc (Nat.le_refl _) _)
theorem AtNt.new (C : NetC Nb) (w : World) : Calls Try.prog 9 #[] w fun e w' => ∃ T, e = .returned (.pointer (some ⟨T, 0, none⟩)) ∧ AtNt (Nb 0) w T [] w' := by
  refine (C.new w).mono ?_
  rintro e w' ⟨T, S, D, rfl, h1, h2, h3⟩
  exact ⟨T, rfl, S, D, h1, h3, h2⟩
theorem AtNt.up {kd : Nat} (h : AtNt (Nb kc) w0 T l w) (C : NetC Nb) (hk : kc ≤ kd) : AtNt (Nb kd) w0 T l w := by
  obtain ⟨S, D, h1, h2, h3⟩ := h
  exact ⟨S, D, C.up h1 hk, h2, h3⟩
theorem AtNt.send (h : AtNt (Nb kc) w0 T l w) (C : NetC Nb) (hk : kc < KM) {A : Option Addr} {n c : Nat} {x : List Int} (hs : Short LM l) (hr : Reads w w.heap.size 1 A n (bts x)) (hc : n ≤ c) (hn : n ≤ LM) (hx : ∀ y ∈ x, 0 ≤ y ∧ y ≤ 255) :
    Calls Try.prog 10 #[.pointer (some ⟨T, 0, none⟩), .slice A n c] w fun e w' => e = .returned (.bool (decide (l.length < 512))) ∧ AtNt (Nb (kc + 1)) w0 T (sendN l x) w' := by
  obtain ⟨S, D, h1, h2, h3⟩ := h
  refine (C.send kc w T l S D A n c x h1 hk hs hr hc hn hx).mono ?_
  rintro e w' ⟨rfl, S', D', k1, k2, k3, k4, _⟩
  exact ⟨rfl, S', D', k1, from_base k4 h2 h3.size, k2.below h3 h3.size (fun b hb => h2 b (C.sub h1 b hb))⟩
theorem AtNt.double (h : AtNt (Nb kc) w0 T l w) (C : NetC Nb) (hk : kc < KM) (i : Int) (hs : Short LM l) (h1 : -9223372036854775808 ≤ i) (h2 : i ≤ 9223372036854775807) :
    Calls Try.prog 17 #[.pointer (some ⟨T, 0, none⟩), .int .i64 i] w fun e w' => e = .returned (.bool (dblB l i)) ∧ AtNt (Nb (kc + 1)) w0 T (dblN l i) w' := by
  obtain ⟨S, D, k, k2, k3⟩ := h
  refine (C.double kc w T l S D i k hk hs h1 h2).mono ?_
  rintro e w' ⟨rfl, S', D', q1, q2, q3, q4, _⟩
  exact ⟨rfl, S', D', q1, from_base q4 k2 k3.size, q2.below k3 k3.size (fun b hb => k2 b (C.sub k b hb))⟩
theorem AtNt.len (h : AtNt (Nb kc) w0 T l w) (C : NetC Nb) : Calls Try.prog 19 #[.pointer (some ⟨T, 0, none⟩)] w fun e w' => e = .returned (.int .i64 (l.length : Int)) ∧ Below w.heap.size w w' := by
  obtain ⟨S, D, k, _, _⟩ := h
  exact C.len kc w T l S D k
/-- Take: the answer's memory is no net's. -/
theorem AtNt.take (h : AtNt (Nb kc) w0 T l w) (C : NetC Nb) (i : Int) (hs : Short LM l) (h1 : -9223372036854775808 ≤ i) (h2 : i ≤ 9223372036854775807) :
    Calls Try.prog 14 #[.pointer (some ⟨T, 0, none⟩), .int .i64 i] w fun e w' => ∃ v, e = .returned (.tuple #[v, .bool (inN l i)]) ∧ OwnR w' w.heap.size v (atN l i) ∧ ∃ S' D', Nb kc w' T (takeN l i) S' D' ∧ (∀ b, D' b → w0.heap.size ≤ b) ∧ Below w0.heap.size w0 w' ∧ ∀ g, v.ownBlock = some g → ¬ D' g := by
  obtain ⟨S, D, k, k2, k3⟩ := h
  refine (C.take kc w T l S D i k hs h1 h2).mono ?_
  rintro e w' ⟨v, rfl, ho, S', D', q1, q2, q3, q4, q5⟩
  exact ⟨v, rfl, ho, S', D', q1, from_base q4 k2 k3.size, q2.below k3 k3.size (fun b hb => k2 b (C.sub k b hb)), q5⟩
end
set_option maxRecDepth 100000 in
set_option maxHeartbeats 4000000 in
theorem wakes_any {Nb : Nat → World → Nat → Li → (Nat → Prop) → (Nat → Prop) → Prop} (C : NetC Nb) (w : World) : Calls Try.prog 7 #[] w fun e w' => e = .returned (.bool true) ∧ Below w.heap.size w w' := by
  have HC := Lib.hid C
  clear C
  have kc := fun (w : World) (C : Array Value) (n c : Nat) => Lib.run_convert_bytes_const (P := Try.prog) w 31 5 C n c Try.underlying31 Try.underlying5
  go_enter Try.func7, Try.ntmps7
  go_wp2_with fail
  refine (AtNt.new HC.out w).mono ?_
  rintro e w1 ⟨T, rfl, h1⟩
  have H1 := Lib.hid h1
  clear h1
  obtain ⟨w2, hw2⟩ : ∃ w2, w2 = w1.alloc (.cells #[.int .u8 97] 5 (1, 2)) := ⟨_, rfl⟩
  have hb2 : Below w1.heap.size w1 w2 := hw2 ▸ (Below.refl _ _).alloc (Nat.le_refl _) _
  have hrd : Reads w2 w2.heap.size 1 (some ⟨w1.heap.size, 0, none⟩) 1 (bts [97]) := by
    rw [hw2]
    exact reads_marked w1 _ _ _ _ 1 (bts [97]) rfl rfl (by simp)
  have HRd := Lib.hid hrd
  have HW2 := Lib.hid hw2
  have H2 := Lib.hid (H1.out.next HC.out hb2)
  clear hw2 hb2 hrd
  go_wp2_with fail
  rw [← HW2.out]
  refine (H2.out.send HC.out (km (by omega)) (fun y hy => Nat.le_trans ((by decide : ∀ y ∈ ([] : Li), y.length ≤ 1) y hy) (by show (1 : Nat) ≤ 140737488355328; omega)) HRd.out (by omega) (by show (1 : Nat) ≤ 140737488355328; omega) (by simp)).mono ?_
  rintro e w3 ⟨rfl, h3⟩
  rw [show sendN [] [97] = [[97]] from rfl] at h3
  have H3 := Lib.hid h3
  clear h3 HRd HW2
  obtain ⟨w4, hw4⟩ : ∃ w4, w4 = w3.alloc (.cells #[.int .u8 98] 5 (1, 2)) := ⟨_, rfl⟩
  have hb4 : Below w3.heap.size w3 w4 := hw4 ▸ (Below.refl _ _).alloc (Nat.le_refl _) _
  have hrd : Reads w4 w4.heap.size 1 (some ⟨w3.heap.size, 0, none⟩) 1 (bts [98]) := by
    rw [hw4]
    exact reads_marked w3 _ _ _ _ 1 (bts [98]) rfl rfl (by simp)
  have HRd := Lib.hid hrd
  have HW4 := Lib.hid hw4
  have H4 := Lib.hid (H3.out.next HC.out hb4)
  clear hw4 hb4 hrd
  go_wp2_with fail
  rw [← HW4.out]
  refine (H4.out.send HC.out (km (by omega)) (fun y hy => Nat.le_trans ((by decide : ∀ y ∈ ([[97]] : Li), y.length ≤ 1) y hy) (by show (1 : Nat) ≤ 140737488355328; omega)) HRd.out (by omega) (by show (1 : Nat) ≤ 140737488355328; omega) (by simp)).mono ?_
  rintro e w5 ⟨rfl, h5⟩
  rw [show sendN [[97]] [98] = [[97], [98]] from rfl] at h5
  have H5 := Lib.hid h5
  clear h5 HRd HW4
  go_wp2_with fail
  refine (H5.out.double HC.out (km (by omega)) 0 (fun y hy => Nat.le_trans ((by decide : ∀ y ∈ ([[97], [98]] : Li), y.length ≤ 1) y hy) (by show (1 : Nat) ≤ 140737488355328; omega)) (by omega) (by omega)).mono ?_
  rintro e w6 ⟨rfl, h6⟩
  rw [show dblN [[97], [98]] 0 = [[97], [98], [97]] from rfl] at h6
  rw [show dblB [[97], [98]] 0 = true from rfl]
  have H6 := Lib.hid h6
  clear h6
  go_wp2_with fail
  refine (H6.out.len HC.out).mono ?_
  rintro e w7 ⟨rfl, hb7⟩
  have H7 := Lib.hid (H6.out.next HC.out hb7)
  clear hb7
  go_wp2_with fail
  refine (H7.out.take HC.out 1 (fun y hy => Nat.le_trans ((by decide : ∀ y ∈ ([[97], [98], [97]] : Li), y.length ≤ 1) y hy) (by show (1 : Nat) ≤ 140737488355328; omega)) (by omega) (by omega)).mono ?_
  rintro e w8 ⟨v8, rfl, ho, S8, D8, hn8, hd8, hb8, _⟩
  rw [show takeN [[97], [98], [97]] 1 = [[97], [97]] from rfl] at hn8
  rw [show atN [[97], [98], [97]] 1 = [98] from rfl] at ho
  rw [show inN [[97], [98], [97]] 1 = true from rfl]
  obtain ⟨A8, n8, c8, rfl⟩ := owr_slice ho
  obtain rfl : n8 = 1 := (owr_len ho).1.symm
  have H8 : Hid (AtNt (Nb (0 + 1 + 1 + 1)) w T [[97], [97]] w8) := Lib.hid ⟨S8, D8, hn8, hd8, hb8⟩
  have cv : ∀ q, (convert 31 9 (.slice A8 1 c8)).run Try.prog (w8.drewN q) = .ok (.string ⟨#[98]⟩) (w8.drewN q) := fun q => conv_b ((owr_reads ho).drewN q) c8
  have cv0 : (convert 31 9 (.slice A8 1 c8)).run Try.prog w8 = .ok (.string ⟨#[98]⟩) w8 := conv_b (owr_reads ho) c8
  clear ho hn8 hd8 hb8
  have HL := Lib.hid (fun q => (H8.out.drewN HC.out q).len HC.out)
  clear kc
  go_wp2_with fail
  refine (HL.out 0).mono ?_
  rintro e w9 ⟨rfl, hb9⟩
  have HB9 : Hid (Below w.heap.size w w9) := Lib.hid ((below_drewN H8.out.bel 0).trans (hb9.mono H8.out.bel.size))
  clear hb9
  go_wp2
  go_ret
  exact ⟨rfl, HB9.out⟩
end Go.Proofs.Ytcjfammfplcigaa.Pk
