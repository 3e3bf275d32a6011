/- Package arrow as it landed: Run. -/
import Derived.Test.YtcomiininaemhaaZAc3
import Derived.Scope
namespace Go.Proofs.Ytcomiininaemhaa.Gr
set_option linter.unusedVariables false
variable {ps : List Int}
/-- A find on its way: it stands at p, came from q. -/
structure RunAt (ps : List Int) (a s q p : Nat) (L : List Int) : Prop where
  lt : p < ps.length
  qlt : q < ps.length
  on : distL ps a p + distL ps p s = distL ps a s
  len : L.length = ps.length
  nxt : at_ L p = ((nx ps p s : Nat) : Int)
  set : L.set p (q : Int) = mixN ps a s (distL ps a p)
theorem Good.run_start (G : Good ps) {a s : Nat} (ha : a < ps.length) (hs : s < ps.length) : RunAt ps a s a a (towardN ps s) := by
  have h0 : distL ps a a = 0 := dist_self a
  exact ⟨ha, ha, by omega, towardN_len s, towardN_at ha, by rw [h0]; exact G.mix_zero ha hs⟩
theorem Good.run_step (G : Good ps) {a s q p : Nat} {L : List Int} (ha : a < ps.length) (hs : s < ps.length) (h : RunAt ps a s q p L) (hne : p ≠ s) :
    RunAt ps a s p (nx ps p s) (L.set p (q : Int)) ∧ nx ps p s ≠ p ∧ distL ps a (nx ps p s) = distL ps a p + 1 := by
  obtain ⟨q1, q2, q3, q4, q5⟩ := G.mix_succ (k := distL ps a p) ha hs h.lt h.on rfl hne
  refine ⟨⟨q1, h.lt, q3, by rw [List.length_set]; exact h.len, by rw [h.set]; exact q4, by rw [h.set, q5, q2]⟩, fun e => by rw [e] at q2; omega, q2⟩
theorem Good.run_end (G : Good ps) {a s q p : Nat} {L : List Int} (ha : a < ps.length) (hs : s < ps.length) (h : RunAt ps a s q p L) (he : p = s) : L.set p (q : Int) = towardN ps a ∧ at_ L p = (p : Int) := by
  subst he
  refine ⟨by rw [h.set, G.mix_full ha hs], ?_⟩
  rw [h.nxt]
  unfold nx
  rw [if_pos rfl]
end Go.Proofs.Ytcomiininaemhaa.Gr
namespace Go.Proofs.Ytcomiininaemhaa.Pk
open Go.RowKit Go.Shelf Go.Proofs.Ytcomiininaemhaa.Gr
set_option linter.unusedVariables false
attribute [local go_sem] Oper.semAt_some
set_option maxHeartbeats 4000000 in
set_option maxRecDepth 100000 in
theorem runA : RunA := by
  intro T g ps A n c ar f w hT G hin hf
  have HT := Lib.hid hT
  have HG := Lib.hid G
  have HI := Lib.hid hin
  have HL := Lib.hid hin.len
  have hn := hin.few
  have HQ := Lib.hid (quietA T g ps A n c ar w hT G hin)
  have HS := Lib.hid (fun (W : World) (hb : Below w.heap.size w W) => size_any T g ps W (hT.below hb hT.lt))
  have HH := Lib.hid (fun (W : World) => hasA ps.length f W)
  obtain ⟨m, hm⟩ : ∃ m, m = ps.length := ⟨_, rfl⟩
  have HN := Lib.hid hm
  have hm32 : m ≤ 32 := by rw [hm]; exact G.few
  rw [← hm] at HS HH
  clear hT G hin hm
  by_cases h1 : QuietL ps ar
  case neg =>
    rw [decide_eq_false h1] at HQ
    have HE : Hid (runI ps ar f = ([], -1)) := Lib.hid (if_neg (fun h => h1 h.1))
    rw [HE.out]
    clear h1
    go_enter Try.func22, Try.ntmps22
    go_wp2_with fail
    refine wp_scope_straight ?_
    go_wp2_with fail
    refine HQ.out.mono ?_
    rintro e w2 ⟨rfl, hb2⟩
    have HB2 := Lib.hid hb2
    clear hb2
    go_wp2
    try rw [Exit.noGoto_ret]
    exact bodyPost_ret (v := .tuple #[.slice none 0 0, .int .i64 (-1)]) (by simp [results, Try.f22, go_sem]) rfl ⟨.slice none 0 0, rfl, OwnN.none_ _ _, HB2.out⟩
  case pos =>
  rw [decide_eq_true h1] at HQ
  obtain ⟨s, hs, rfl⟩ := HG.out.quiet_iff.1 h1
  have hnm : n = m := by rw [← HL.out, HN.out]; exact towardN_len s
  subst hnm
  by_cases h2 : 0 ≤ f ∧ f < (n : Int)
  case neg =>
    have HF : Hid (hasZ n f = false) := Lib.hid (decide_eq_false h2)
    rw [HF.out] at HH
    have HE : Hid (runI ps (towardN ps s) f = ([], -1)) := Lib.hid (if_neg (fun h => h2 (by rw [HN.out]; exact h.2)))
    rw [HE.out]
    clear h1 h2
    go_enter Try.func22, Try.ntmps22
    go_wp2_with fail
    refine wp_scope_straight ?_
    go_wp2_with fail
    refine HQ.out.mono ?_
    rintro e w2 ⟨rfl, hb2⟩
    have HB2 := Lib.hid hb2
    clear hb2
    go_wp2_with fail
    refine (HS.out w2 HB2.out).mono ?_
    rintro e w3 ⟨rfl, hw⟩
    rw [hw]
    clear hw w3
    go_wp2_with fail
    refine (HH.out w2).mono ?_
    rintro e w3 ⟨rfl, hw⟩
    rw [hw]
    clear hw w3
    go_wp2
    try rw [Exit.noGoto_ret]
    exact bodyPost_ret (v := .tuple #[.slice none 0 0, .int .i64 (-1)]) (by simp [results, Try.f22, go_sem]) rfl ⟨.slice none 0 0, rfl, OwnN.none_ _ _, HB2.out⟩
  case pos =>
  have HF : Hid (hasZ n f = true) := Lib.hid (decide_eq_true h2)
  rw [HF.out] at HH
  obtain ⟨a, rfl⟩ : ∃ a : Nat, f = (a : Int) := ⟨f.toNat, by omega⟩
  have ha : a < ps.length := by rw [← HN.out]; omega
  rw [HG.out.runI_yes hs ha]
  have Ha := Lib.hid ha
  have Hs := Lib.hid hs
  have hn0 : 0 < n := by omega
  clear h1 h2 ha hs
  go_enter Try.func22, Try.ntmps22
  go_wp2_with fail
  refine wp_scope_straight ?_
  go_wp2_with fail
  refine HQ.out.mono ?_
  rintro e w2 ⟨rfl, hb2⟩
  have HB2 := Lib.hid hb2
  clear hb2
  go_wp2_with fail
  refine (HS.out w2 HB2.out).mono ?_
  rintro e w3 ⟨rfl, hw⟩
  rw [hw]
  clear hw w3
  go_wp2_with fail
  refine (HH.out w2).mono ?_
  rintro e w3 ⟨rfl, hw⟩
  rw [hw]
  clear hw w3
  have HI2 := Lib.hid (HI.out.next HB2.out)
  have HC := Lib.hid (clone_any A n c _ w2 w2.heap.size HI2.out.rd (Nat.le_refl _) hn0 (by omega))
  go_wp2_with fail
  refine HC.out.mono ?_
  rintro e w3 ⟨v3, rfl, ho3, hb3⟩
  obtain ⟨gg, c3, rfl⟩ := ho3.row_ (by rw [HL.out]; exact hn0)
  rw [HL.out] at ho3 ⊢
  have HO3 := Lib.hid ho3
  have HB3 := Lib.hid (HB2.out.trans (hb3.mono HB2.out.size))
  have HSz := Lib.hid (HB2.out.size)
  clear hb3 ho3
  go_wp2
  refine wp_label ?_
  go_wp2
  go_loopw [8, 9, 10, 11] (fun x y _ _ wr => ∃ (q p : Nat) (L : List Int), x = .int .i64 (q : Int) ∧ y = .int .i64 (p : Int) ∧ RunAt ps a s q p L ∧ OwnN wr w2.heap.size (.slice (some ⟨gg, 0, none⟩) n c3) L ∧ Below w.heap.size w wr) (fun _ y _ _ _ => n - distL ps a (intOf y).toNat)
  case atStart => exact ⟨a, a, _, rfl, rfl, HG.out.run_start Ha.out Hs.out, HO3.out, HB3.out⟩
  case round =>
    obtain ⟨q, p, L, rfl, rfl, hr, hown, hbel⟩ := hrel
    obtain ⟨w5, rfl⟩ : ∃ w5 : World, w5 = wr := ⟨_, rfl⟩
    have HRu := Lib.hid hr
    have HO5 := Lib.hid hown
    have HB5 := Lib.hid hbel
    have hpn : p < n := by rw [HN.out]; exact hr.lt
    have HLl : Hid (L.length = n) := Lib.hid (by rw [hr.len, HN.out])
    clear hr hown hbel
    obtain ⟨-, hg1, hg2, hg3, -⟩ := HO5.out.at_
    have cp : w5.cell? ⟨gg, p, none⟩ = some (.int .i64 ((nx ps p s : Nat) : Int)) := by rw [hg3 p hpn, at_get (by rw [HLl.out]; exact hpn), HRu.out.nxt]
    have HO6 := Lib.hid (fun (V : World) (h : OwnN V w2.heap.size (.slice (some ⟨gg, 0, none⟩) n c3) L) => h.set_ p (q : Int))
    have Hgg : Hid (w.heap.size ≤ gg) := Lib.hid (by have := HSz.out; omega)
    have hpi : (p : Int) < (n : Int) := by omega
    clear hg1 hg2 hg3
    have HI1 : Hid (I64 (p : Int) ∧ I64 (q : Int) ∧ I64 ((nx ps p s : Nat) : Int)) := Lib.hid (by
      have h1 := HRu.out.qlt
      have h2 : nx ps p s < ps.length := HG.out.nx_is.lt p s HRu.out.lt Hs.out
      rw [← HN.out] at h1 h2
      unfold I64
      omega)
    have HSt := Lib.hid (stepA (p : Int) ((nx ps p s : Nat) : Int) (q : Int) w5 HI1.out.1 HI1.out.2.2 HI1.out.2.1)
    by_cases hps : p = s
    · have HE := Lib.hid (HG.out.run_end Ha.out Hs.out HRu.out hps)
      subst hps
      have hself : nx ps p p = p := if_pos rfl
      rw [hself] at HSt cp
      rw [if_pos rfl] at HSt
      clear hself
      go_wp2_with fail
      refine HSt.out.mono ?_
      rintro e w6 ⟨rfl, hb6⟩
      have HO7 := Lib.hid (HO6.out w6 (OwnN.below HO5.out hb6))
      have fp : w6.frozen? ⟨gg, p, none⟩ = false := (OwnN.at_ (OwnN.below HO5.out hb6)).2.2.2.2 p
      have cp6 := ((OwnN.at_ (OwnN.below HO5.out hb6)).2.2.2.1 p hpn)
      obtain ⟨z6, hz6⟩ : ∃ z, z = L.getD p 0 := ⟨_, rfl⟩
      rw [← hz6] at cp6
      clear hz6
      have HB7 : Hid (Below w.heap.size w (w6.setCell ⟨gg, p, none⟩ (.int .i64 (q : Int)))) := Lib.hid ((HB5.out.trans (hb6.mono HB5.out.size)).setCell (p := ⟨gg, p, none⟩) Hgg.out _)
      clear hb6 cp
      rw [HE.out.1] at HO7
      go_wp2
      rw [Exit.noGoto_ret]
      exact bodyPost_ret (v := .tuple #[.slice (some ⟨gg, 0, none⟩) n c3, .int .i64 (p : Int)]) (by simp [results, Try.f22, go_sem]) rfl ⟨_, rfl, HO7.out.lowN HSz.out, HB7.out⟩
    · obtain ⟨h1, h2, h3⟩ := HG.out.run_step Ha.out Hs.out HRu.out hps
      have HRn := Lib.hid h1
      obtain ⟨y, hy⟩ : ∃ y, y = nx ps p s := ⟨_, rfl⟩
      rw [← hy] at h2 h3 HSt cp HRn
      rw [if_neg (show ¬ ((y : Nat) : Int) = (p : Int) by omega)] at HSt
      have HD := Lib.hid h3
      clear h1 h2 h3 hy hps
      go_wp2_with fail
      refine HSt.out.mono ?_
      rintro e w6 ⟨rfl, hb6⟩
      have HO7 := Lib.hid (HO6.out w6 (OwnN.below HO5.out hb6))
      have fp : w6.frozen? ⟨gg, p, none⟩ = false := (OwnN.at_ (OwnN.below HO5.out hb6)).2.2.2.2 p
      have cp6 := ((OwnN.at_ (OwnN.below HO5.out hb6)).2.2.2.1 p hpn)
      obtain ⟨z6, hz6⟩ : ∃ z, z = L.getD p 0 := ⟨_, rfl⟩
      rw [← hz6] at cp6
      clear hz6
      have HB7 : Hid (Below w.heap.size w (w6.setCell ⟨gg, p, none⟩ (.int .i64 (q : Int)))) := Lib.hid ((HB5.out.trans (hb6.mono HB5.out.size)).setCell (p := ⟨gg, p, none⟩) Hgg.out _)
      clear hb6 cp
      have HDl : Hid (distL ps a y ≤ distL ps a s ∧ distL ps a s < n) := Lib.hid (by
        have h1 := HRn.out.on
        have h2 := HG.out.rt.dist_lt Ha.out Hs.out
        rw [← HN.out] at h2
        exact ⟨by omega, h2⟩)
      go_wp2
      go_roundw
      case rel => exact ⟨p, y, _, rfl, rfl, HRn.out, HO7.out, HB7.out⟩
      case measure =>
        have h1 := HD.out
        have h2 := HDl.out
        simp [intOf]
        omega
end Go.Proofs.Ytcomiininaemhaa.Pk
