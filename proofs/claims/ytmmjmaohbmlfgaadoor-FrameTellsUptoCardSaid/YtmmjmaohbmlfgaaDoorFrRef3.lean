/- The document's frames: All. -/
import Derived.Test.YtmmjmaohbmlfgaaDoorFrOwn
namespace Go.Proofs.YtmmjmaohbmlfgaaDoor.Pk
open Go.RowKit Go.Proofs.YtmmjmaohbmlfgaaDoor.Crc Go.Proofs.YtmmjmaohbmlfgaaDoor.Fr
set_option linter.unusedVariables false

theorem frames_bytes {b : List Int} (h : Bytes b) : ∀ p ∈ frames b, Bytes p := by
  obtain ⟨t, h1, _, _⟩ := frames_spec b.length b (Nat.le_refl _)
  intro p hp x hx
  have h2 : x ∈ encs (frames b) := List.mem_flatMap.2 ⟨p, hp, by unfold enc; simp [hx]⟩
  exact h x (by rw [h1]; exact List.mem_append_left _ h2)
theorem encs_count (ps : List (List Int)) : 8 * ps.length ≤ (encs ps).length := by
  induction ps with
  | nil => simp
  | cons p ps ih => rw [encs_cons, List.length_append, enc_length]; simp only [List.length_cons]; omega
theorem frames_count (b : List Int) : 8 * (frames b).length ≤ b.length := Nat.le_trans (encs_count _) (fend_le b)
/-- What the document's All answers. -/
def AllR (b : List Int) (w : World) (e : Ending) (w' : World) : Prop :=
  Below w.heap.size w w' ∧ ∃ A n c ps, e = .returned (.tuple #[.slice A n c, .int .i64 (fend b : Nat)]) ∧ OwnL w' w.heap.size (.slice A n c) ps ∧ Piece.bytes ps = frames b

set_option maxHeartbeats 3200000 in
theorem refAll_any (A : Option Addr) (n c : Nat) (b : List Int) (w : World) (hr : Reads w w.heap.size 1 A n (bts b)) (hnc : n ≤ c) (hby : Bytes b) (hn : n ≤ 17179869184) :
    Calls Tryd.prog 13 #[.slice A n c] w (AllR b w) := by
  have HL : Hid (b.length = n) := Lib.hid (by have := hr.1; simpa using this)
  have HR := Lib.hid hr
  have HB := Lib.hid hby
  have HNC := Lib.hid hnc
  have hfl : (frames b).length ≤ 2147483648 := by have h1 := frames_count b; have h2 := HL.out; omega
  obtain ⟨N, hN⟩ : ∃ N, N = (frames b).length := ⟨_, rfl⟩
  rw [← hN] at hfl
  have HN := Lib.hid hN
  clear hr hby hnc hN
  go_enter Tryd.func13, Tryd.ntmps13
  go_wp2
  go_loopw [4, 5, 6, 7] (fun v x _ _ wr => ∃ (k : Nat) (ps : List Piece), k ≤ N ∧ x = .int .i64 (atN b k : Nat) ∧ OwnL wr w.heap.size v ps ∧ Piece.bytes ps = (frames b).take k ∧ Below w.heap.size w wr) (fun _ x _ _ _ => n - (intOf x).toNat)
  case atStart => exact ⟨0, [], by omega, rfl, OwnL.none_ _ _, rfl, Below.refl _ _⟩
  case round =>
    obtain ⟨k, ps, hk, rfl, hown, hps, hbel⟩ := hrel
    obtain ⟨w1, rfl⟩ : ∃ w1 : World, w1 = wr := ⟨_, rfl⟩
    obtain ⟨at_, hat⟩ : ∃ a, a = atN b k := ⟨_, rfl⟩
    have hat2 : at_ ≤ n := by rw [hat, ← HL.out]; exact atN_le b k
    rw [← hat]
    have HO := Lib.hid hown
    have HPs := Lib.hid hps
    have HBe := Lib.hid hbel
    have HAt := Lib.hid hat
    have kc : ∀ u : World, (Instr.slice 22 (.slice A n c) (some (.int .i64 (at_ : Int))) none none).run Tryd.prog u = .ok (.slice (cutA A c at_) (n - at_) (c - at_)) u := fun u => run_cut1 Tryd.underlying22 (by kernel_rfl) A n c at_ hat2 u
    have HF := Lib.hid (first_any (cutA A c at_) (n - at_) (c - at_) (b.drop at_) w1 (by
      have h1 := reads_cut HR.out (i := at_) (j := n) hat2 (Nat.le_refl _) HNC.out
      rw [List.take_of_length_le (by rw [HL.out]; exact Nat.le_refl _)] at h1
      exact (h1.below hbel).more hbel.size) (by have := HNC.out; omega) (HB.out.drop at_) (by omega))
    have hpl : ps.length = k := by
      have h1 := congrArg List.length hps
      simp only [Piece.bytes, List.length_map, List.length_take] at h1
      rw [h1, ← HN.out]; omega
    obtain ⟨A1, c1, rfl, hc1, _⟩ := reads_own hown.row
    rw [hpl] at hc1 HO ⊢
    have HPl := Lib.hid hpl
    clear hown hps hbel hat hpl
    by_cases hlt : k < N
    · obtain ⟨p, hp⟩ : ∃ p, (frames b)[k]? = some p := ⟨_, List.getElem?_eq_getElem (by rw [← HN.out]; exact hlt)⟩
      obtain ⟨hm1, hm2⟩ := at_more hp
      rw [← HAt.out] at hm1 hm2
      have hle := atN_le b (k + 1)
      rw [hm2, HL.out] at hle
      have HM := Lib.hid hm1
      have HM2 := Lib.hid hm2
      have HTk : Hid ((frames b).take (k + 1) = (frames b).take k ++ [p]) := Lib.hid (by
        obtain ⟨h1, h2⟩ := List.getElem?_eq_some_iff.1 hp
        rw [List.take_succ_eq_append_getElem h1, h2])
      clear hp hm1 hm2
      go_wp2_with fail
      refine HF.out.mono ?_
      rintro e w2 ⟨hb2, ⟨p', A2, n2, c2, hfp, rfl, ho2⟩ | ⟨hno, _⟩⟩
      case inr => rw [HM.out] at hno; cases hno
      obtain rfl : p' = p := by rw [HM.out] at hfp; injection hfp with h; exact h.symm
      obtain ⟨m, hm⟩ : ∃ m, m = p'.length := ⟨_, rfl⟩
      rw [← hm] at hle
      have HMl := Lib.hid hm
      have HO2 := Lib.hid (HO.out.next hb2)
      have HB2 := Lib.hid (HBe.out.trans (hb2.mono HBe.out.size))
      have HY := Lib.hid ho2
      have HYn : Hid (∀ q ∈ ps, ∀ g, q.val.ownBlock = some g → (Value.slice A2 n2 c2).ownBlock = some g → False) := Lib.hid (fun q hq g h1 h2 => by
        have := HO.out.lt q hq g h1
        have := ho2.base g h2
        omega)
      rw [← hm]
      have t1 : (((8 + m : Nat) : Int) == 0) = false := beq_eq_false_iff_ne.2 (by omega)
      clear hb2 ho2 hfp hm HF
      go_wp2_with (at_builtin; refine appL w2 ⟨A2, n2, c2, p'⟩ _ rfl (.tmp 19) (.tmp 21) rfl w.heap.size _ ps rfl HO2.out.row rfl (by have := HPl.out; omega) HB2.out.size ?_; intro v3 w3 hown3 hg3; have HO3 := Lib.hid (OwnL.push (y := ⟨A2, n2, c2, p'⟩) HO2.out (HY.out.mono HBe.out.size) HYn.out hown3 hg3); have HB3 := Lib.hid (HB2.out.grown hg3 HB2.out.size (own_base HO2.out.row)); clear hown3 hg3)
      go_roundw
      case rel => exact ⟨k + 1, ps ++ [⟨A2, n2, c2, p'⟩], by omega, by rw [HM2.out, ← HMl.out]; go_num, HO3.out, by rw [HTk.out, ← HPs.out]; simp [Piece.bytes], HB3.out⟩
      case measure => simp [intOf]; omega
    · obtain rfl : k = N := by omega
      have HE : Hid (at_ = fend b) := Lib.hid (by rw [HAt.out, HN.out]; exact atN_all b)
      have HNo : Hid (fst (b.drop at_) = none) := Lib.hid (by rw [HE.out]; exact at_end b)
      go_wp2_with fail
      refine HF.out.mono ?_
      rintro e w2 ⟨hb2, ⟨p', A2, n2, c2, hfp, _, _⟩ | ⟨_, rfl⟩⟩
      case inl => rw [HNo.out] at hfp; cases hfp
      have HO2 := Lib.hid (HO.out.next hb2)
      have HB2 := Lib.hid (HBe.out.trans (hb2.mono HBe.out.size))
      clear hb2 HF
      go_wp2
      go_ret2
      exact ⟨HB2.out, A1, k, c1, ps, by rw [← HE.out]; rfl, HO2.out, by rw [HPs.out, HN.out, List.take_length]⟩
end Go.Proofs.YtmmjmaohbmlfgaaDoor.Pk
