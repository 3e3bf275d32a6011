/- The document's answer for arrows (fletchref12): Run. -/
import Derived.Test.YtcomiininaemhaaArRef2
import Derived.Test.YtcomiininaemhaaNumApp
namespace Go.Proofs.Ytcomiininaemhaa.Gr
set_option linter.unusedVariables false
variable {ps : List Int}
theorem Good.sinks_toward (G : Good ps) {s : Nat} (hs : s < ps.length) : sinksN (towardN ps s) = [s] := by
  obtain ⟨x, hx⟩ := List.length_eq_one_iff.1 (G.quiet_iff.2 ⟨s, hs, rfl⟩).2.1
  have hm : x ∈ sinksN (towardN ps s) := by rw [hx]; simp
  obtain ⟨h1, h2⟩ := mem_sinks.1 hm
  rw [towardN_len] at h1
  rw [towardN_at h1] at h2
  have h3 : x = s := (G.nx_is.quiet G.rt hs).one x h1 (by show nx ps x s = x; omega)
  rw [hx, h3]
/-- What a whole find answers. -/
def runI (ps ar : List Int) (f : Int) : List Int × Int := if QuietL ps ar ∧ 0 ≤ f ∧ f < (ps.length : Int) then (towardN ps f.toNat, (((sinksN ar).headD 0 : Nat) : Int)) else ([], -1)
theorem Good.runI_yes (G : Good ps) {s a : Nat} (hs : s < ps.length) (ha : a < ps.length) : runI ps (towardN ps s) (a : Int) = (towardN ps a, (s : Int)) := by
  unfold runI
  rw [if_pos ⟨G.quiet_iff.2 ⟨s, hs, rfl⟩, by omega, by omega⟩, G.sinks_toward hs]
  rfl
end Go.Proofs.Ytcomiininaemhaa.Gr
namespace Go.Proofs.Ytcomiininaemhaa.Pk
open Go.RowKit Go.Proofs.Ytcomiininaemhaa.Gr
set_option linter.unusedVariables false
theorem OwnN.lowN {w : World} {B B' : Nat} {v : Value} {l : List Int} (h : OwnN w B v l) (hB : B' ≤ B) : OwnN w B' v l := by
  obtain ⟨h1, h2⟩ := h
  refine ⟨h1, ?_⟩
  rcases h2 with h2 | ⟨g, cap, cur, rfl, hb, hr⟩
  · exact .inl h2
  · exact .inr ⟨g, cap, cur, rfl, by omega, hr⟩
theorem OwnN.row_ {w : World} {B : Nat} {v : Value} {l : List Int} (h : OwnN w B v l) (h0 : 0 < l.length) : ∃ g c, v = .slice (some ⟨g, 0, none⟩) l.length c := by
  obtain ⟨h1, ⟨e, e2⟩ | ⟨g, cap, cur, e, _⟩⟩ := h
  · omega
  · exact ⟨g, cap, e⟩
set_option maxRecDepth 100000 in
set_option maxHeartbeats 4000000 in
theorem refrun_any (A : Option Addr) (n c : Nat) (ps : List Int) (A' : Option Addr) (n' c' : Nat) (ar : List Int) (f : Int) (w : World) (B : Nat) (hr : Reads w B 1 A n (nms ps)) (hr' : Reads w B 1 A' n' (nms ar)) (hB : B ≤ w.heap.size) (G : Gr.Good ps) (hn' : n' ≤ 17592186044416) (hi : Ints ar)
    (hf : -9223372036854775808 ≤ f ∧ f ≤ 9223372036854775807) :
    Calls Try.prog 23 #[.slice A n c, .slice A' n' c', .int .i64 f] w fun e w' => ∃ v, e = .returned (.tuple #[v, .int .i64 (runI ps ar f).2]) ∧ OwnN w' w.heap.size v (runI ps ar f).1 ∧ Below w.heap.size w w' := by
  have HL := Lib.hid hr.plen
  have HL' := Lib.hid hr'.plen
  have hn : n ≤ 32 := by rw [← HL.out]; exact G.few
  have HR' := Lib.hid hr'
  have HQu := Lib.hid (refquiet_any A n c ps A' n' c' ar w B hr hr' hB hn hn' hi)
  clear hr hr' hi
  by_cases h1 : QuietL ps ar
  case neg =>
    rw [decide_eq_false h1] at HQu
    have HE : Hid (runI ps ar f = ([], -1)) := Lib.hid (if_neg (fun h => h1 h.1))
    rw [HE.out]
    clear h1
    go_enter Try.func23, Try.ntmps23
    go_wp2_with fail
    refine HQu.out.mono ?_
    rintro e w2 ⟨rfl, hb2⟩
    have HB2 := Lib.hid hb2
    clear hb2
    go_wp2
    exact bodyPost_ret (v := .tuple #[.slice none 0 0, .int .i64 (-1)]) (by simp [results, Try.f23, go_sem]) rfl ⟨.slice none 0 0, rfl, OwnN.none_ _ _, HB2.out⟩
  case pos =>
  rw [decide_eq_true h1] at HQu
  by_cases h2 : f < 0
  case pos =>
    have t1 : decide (f < 0) = true := decide_eq_true h2
    have HE : Hid (runI ps ar f = ([], -1)) := Lib.hid (if_neg (fun h => by omega))
    rw [HE.out]
    clear h1 h2
    go_enter Try.func23, Try.ntmps23
    go_wp2_with fail
    refine HQu.out.mono ?_
    rintro e w2 ⟨rfl, hb2⟩
    have HB2 := Lib.hid hb2
    clear hb2
    go_wp2
    exact bodyPost_ret (v := .tuple #[.slice none 0 0, .int .i64 (-1)]) (by simp [results, Try.f23, go_sem]) rfl ⟨.slice none 0 0, rfl, OwnN.none_ _ _, HB2.out⟩
  case neg =>
  have t1 : decide (f < 0) = false := decide_eq_false h2
  obtain ⟨s, hs, rfl⟩ := G.quiet_iff.1 h1
  have hnn : n' = n := by rw [← HL'.out, ← HL.out]; exact towardN_len s
  subst hnn
  by_cases h3 : (n' : Int) ≤ f
  case pos =>
    have t2 : decide ((n' : Int) ≤ f) = true := decide_eq_true h3
    have HE : Hid (runI ps (towardN ps s) f = ([], -1)) := Lib.hid (if_neg (fun h => by have := h.2.2; rw [HL.out] at this; omega))
    rw [HE.out]
    clear h1 h2
    go_enter Try.func23, Try.ntmps23
    go_wp2_with fail
    refine HQu.out.mono ?_
    rintro e w2 ⟨rfl, hb2⟩
    have HB2 := Lib.hid hb2
    clear hb2
    go_wp2
    exact bodyPost_ret (v := .tuple #[.slice none 0 0, .int .i64 (-1)]) (by simp [results, Try.f23, go_sem]) rfl ⟨.slice none 0 0, rfl, OwnN.none_ _ _, HB2.out⟩
  case neg =>
  obtain ⟨a, rfl⟩ : ∃ a : Nat, f = (a : Int) := ⟨f.toNat, by omega⟩
  have han : a < n' := by omega
  have ha : a < ps.length := by rw [HL.out]; exact han
  have t2 : decide (n' ≤ a) = false := decide_eq_false (by omega)
  rw [G.runI_yes hs ha]
  have Ha := Lib.hid ha
  have Hs := Lib.hid hs
  have HG := Lib.hid G
  have HTl : Hid ((towardN ps s).length = n') := Lib.hid HL'.out
  have HMl : Hid (∀ k, (mixN ps a s k).length = n') := Lib.hid (fun k => by simp [mixN, HL.out])
  clear h1 h2 h3 ha hs G
  go_enter Try.func23, Try.ntmps23
  go_wp2_with fail
  refine HQu.out.mono ?_
  rintro e w2 ⟨rfl, hb2⟩
  have HB2 := Lib.hid hb2
  have HR2 := Lib.hid (HR'.out.below (hb2.mono hB))
  have hB2 := Nat.le_trans hB hb2.size
  clear hb2
  go_wp2_with (at_builtin; refine appNE w2 rfl (.tmp 26) (.tmp 27) rfl rfl B A' c' (towardN ps s) n' rfl HR2.out hB2 (by omega) ?_; intro v3 w3 ho3 hb3; obtain ⟨g, c3, rfl⟩ := ho3.row_ (by rw [HTl.out]; omega); rw [HTl.out] at ho3 ⊢; have HO3 := Lib.hid ho3; have HB3 := Lib.hid (HB2.out.trans (hb3.mono HB2.out.size)); obtain ⟨_, hg1, hg2, hg3, hg4⟩ := ho3.at_; have cx : w3.cell? ⟨g, a, none⟩ = some (.int .i64 ((nx ps a s : Nat) : Int)) := by { rw [hg3 a han, at_get (by rw [HTl.out]; exact han), towardN_at Ha.out] }; have fz := hg4 a; clear ho3 hb3 hg1 hg2 hg3 hg4)
  have HO4 : Hid (OwnN (w3.setCell ⟨g, a, none⟩ (.int .i64 (a : Int))) w2.heap.size (.slice (some ⟨g, 0, none⟩) n' c3) (mixN ps a s 0)) := Lib.hid (by rw [← HG.out.mix_zero Ha.out Hs.out]; exact HO3.out.set_ a (a : Int))
  have HB4 : Hid (Below w.heap.size w (w3.setCell ⟨g, a, none⟩ (.int .i64 (a : Int)))) := Lib.hid (HB3.out.setCell (p := ⟨g, a, none⟩) (by have h1 := ownN_base HO3.out g rfl; have h2 := HB2.out.size; show w.heap.size ≤ g; omega) _)
  have Hgl : Hid (w.heap.size ≤ g) := Lib.hid (by have h1 := ownN_base HO3.out g rfl; have h2 := HB2.out.size; omega)
  clear cx fz
  go_loopw [9, 10, 11] (fun x y _ wr => ∃ p : Nat, x = .int .i64 p ∧ p < n' ∧ distL ps a p + distL ps p s = distL ps a s ∧ y = .int .i64 ((nx ps p s : Nat) : Int) ∧ OwnN wr w2.heap.size (.slice (some ⟨g, 0, none⟩) n' c3) (mixN ps a s (distL ps a p)) ∧ Below w.heap.size w wr) (fun x _ _ _ => n' - distL ps a (intOf x).toNat)
  case atStart => exact ⟨a, rfl, han, by unfold distL; rw [dist_self]; omega, rfl, by rw [show distL ps a a = 0 from dist_self a]; exact HO4.out, HB4.out⟩
  case round =>
    obtain ⟨p, rfl, hp, hon, rfl, hown, hbel⟩ := hrel
    obtain ⟨w5, rfl⟩ : ∃ w5 : World, w5 = wr := ⟨_, rfl⟩
    have HO5 := Lib.hid hown
    have HB5 := Lib.hid hbel
    have HOn := Lib.hid hon
    clear hown hbel hon
    have hpl : p < ps.length := by rw [HL.out]; exact hp
    by_cases hps : p = s
    · subst hps
      have hself : nx ps p p = p := if_pos rfl
      rw [hself]
      have HF : Hid (mixN ps a p (distL ps a p) = towardN ps a) := Lib.hid (HG.out.mix_full Ha.out Hs.out)
      rw [HF.out] at HO5
      clear hself
      go_wp2
      exact bodyPost_ret (v := .tuple #[.slice (some ⟨g, 0, none⟩) n' c3, .int .i64 (p : Int)]) (by have h9 := HTl.out; simp [results, Try.f23, go_sem, h9]) rfl ⟨_, rfl, HO5.out.lowN HB2.out.size, HB5.out⟩
    · obtain ⟨q1, q2, q3, q4, q5⟩ := HG.out.mix_succ (k := distL ps a p) Ha.out Hs.out hpl HOn.out rfl hps
      obtain ⟨y, hy⟩ : ∃ y, y = nx ps p s := ⟨_, rfl⟩
      rw [← hy] at q1 q2 q3 q4 q5 ⊢
      have hyp : y ≠ p := fun e => by rw [e] at q2; omega
      have hyn : y < n' := by rw [← HL.out]; exact q1
      have hyz : ((y : Int) != (p : Int)) = true := by simp; omega
      obtain ⟨_, hg1, hg2, hg3, hg4⟩ := HO5.out.at_
      have cy : w5.cell? ⟨g, y, none⟩ = some (.int .i64 ((nx ps y s : Nat) : Int)) := by rw [hg3 y hyn, at_get (by rw [HMl.out]; exact hyn), q4]
      have fy := hg4 y
      have HD : Hid (distL ps a y = distL ps a p + 1 ∧ distL ps a s < n') := Lib.hid ⟨q2, by have := HG.out.rt.dist_lt Ha.out Hs.out; rw [HL.out] at this; exact this⟩
      have HOy := Lib.hid q3
      have HO6 : Hid (OwnN (w5.setCell ⟨g, y, none⟩ (.int .i64 (p : Int))) w2.heap.size (.slice (some ⟨g, 0, none⟩) n' c3) (mixN ps a s (distL ps a p + 1))) := Lib.hid (by rw [← q5]; exact HO5.out.set_ y (p : Int))
      have HB6 : Hid (Below w.heap.size w (w5.setCell ⟨g, y, none⟩ (.int .i64 (p : Int)))) := Lib.hid (HB5.out.setCell (p := ⟨g, y, none⟩) Hgl.out _)
      clear q1 q2 q3 q4 q5 hg1 hg2 hg3 hg4 hy hps
      go_wp2
      go_roundw
      case rel => exact ⟨y, rfl, hyn, HOy.out, rfl, by rw [HD.out.1]; exact HO6.out, HB6.out⟩
      case measure =>
        have h1 := HD.out.1
        have h2 := HD.out.2
        have h3 := HOy.out
        simp [intOf]
        omega
end Go.Proofs.Ytcomiininaemhaa.Pk
