/- Package net keeps the promises of a net. -/
import Derived.Test.YtcjfammfplcigaaNtAllP
import Derived.Laws.EntriesVeiled
namespace Go.Proofs.Ytcjfammfplcigaa.Pk
open Go.RowKit Go.Shelf Go.Proofs.Ytcjfammfplcigaa.Tb Go.Proofs.Ytcjfammfplcigaa.Nt
set_option linter.unusedVariables false
theorem all_seq (x gf : Nat) (lb : Array Value) (rows : List Rw) (l0 : Li) (R : Nat → Prop) (hfew : l0.length ≤ 512) (ht : rows.map (·.2) = l0.map strOfNums) (hby : Bys l0) (w : World)
    (hx : Blk w x 57 #[.func (.func gf) #[] lb]) (hs : SeqT (.func (.func gf) #[] lb) rows R w) :
    SeqNt (.func (.func 29) #[] #[.pointer (some ⟨x, 0, none⟩)]) l0 (RQ x R) w := by
  refine ⟨_, _, _, rfl, enters_of Try.func29 (by kernel_rfl) rfl, ?_, ?_⟩
  · rintro g (rfl | h)
    · exact hx.lt
    · exact hs.lt g h
  · intro m W hW l J Jx W1 hb hJ hJx hY h0
    have h1 : Stay (RQ x R) w W1 := hW.trans (Stay.below hb (fun g hg => by
      have := hW.1
      rcases hg with rfl | h
      · have := hx.lt; omega
      · have := hs.lt g h; omega))
    exact all1_in m l x gf lb rows l0 R hfew ht hby J Jx W1 hJ hJx hY ((h1.2 x (.inl rfl)).trans hx) (hs.stay ⟨h1.1, fun b hb => h1.2 b (.inr hb)⟩) h0
/-- What All leaves. -/
def AllQ (l : Li) (H : Nat → Prop) (w : World) (e : Ending) (w' : World) : Prop := ∃ v R, e = .returned v ∧ SeqNt v l R w' ∧ Below w.heap.size w w' ∧ ∀ g, R g → H g ∨ w.heap.size ≤ g
theorem allQ (T tb : Nat) (t : Tr) (l : Li) (w : World) (h : Blk w T 50 #[.pointer (some ⟨tb, 0, none⟩)]) (ht : IsTab w tb t) (hfew : l.length ≤ 512) (htx : t.rows.map (·.2) = l.map strOfNums) (hby : Bys l) :
    Calls Try.prog 20 #[.pointer (some ⟨T, 0, none⟩)] w (AllQ l t.has w) := by
  have H1 := Lib.hid (flight_any T _ w h)
  have H2 := Lib.hid (all_anyT tb t w ht)
  have HT := Lib.hid htx
  have HB := Lib.hid hby
  clear h ht htx hby
  go_enter Try.func20, Try.ntmps20
  go_wp2_with fail
  refine H1.out.mono ?_
  rintro e w' ⟨rfl, hw⟩
  rw [hw]; clear hw w'
  go_wp2_with fail
  refine H2.out.mono ?_
  rintro e w2 ⟨v, R, rfl, hs, hb, hr⟩
  obtain ⟨gf, lb, rfl, _⟩ := id hs
  have hba : Below w2.heap.size w2 (w2.alloc (.cells #[.func (.func gf) #[] lb] 57)) := (Below.refl _ _).alloc (Nat.le_refl _) _
  have HZ : Hid (AllQ l t.has w (.returned (.func (.func 29) #[] #[.pointer (some ⟨w2.heap.size, 0, none⟩)])) (w2.alloc (.cells #[.func (.func gf) #[] lb] 57))) := Lib.hid
    ⟨_, _, rfl, all_seq w2.heap.size gf lb t.rows l R hfew HT.out HB.out _ (Blk.new w2 _ _) (hs.stay (Stay.below hba hs.lt)), hb.trans (hba.mono hb.size), fun g hg => by
      rcases hg with rfl | h
      · exact .inr hb.size
      · exact hr g h⟩
  clear hs hb hr hba
  go_wp2
  go_ret
  exact HZ.out
theorem all_nilQ (w : World) :
    Calls Try.prog 20 #[.pointer none] w (AllQ [] (fun _ => False) w) := by
  have H1 := Lib.hid (flight_nil w)
  have H2 := Lib.hid (all_nilT w)
  go_enter Try.func20, Try.ntmps20
  go_wp2_with fail
  refine H1.out.mono ?_
  rintro e w' ⟨rfl, hw⟩
  rw [hw]; clear hw w'
  go_wp2_with fail
  refine H2.out.mono ?_
  rintro e w2 ⟨v, R, rfl, hs, hb, hr⟩
  obtain ⟨gf, lb, rfl, _⟩ := id hs
  have hba : Below w2.heap.size w2 (w2.alloc (.cells #[.func (.func gf) #[] lb] 57)) := (Below.refl _ _).alloc (Nat.le_refl _) _
  have HZ : Hid (AllQ [] (fun _ => False) w (.returned (.func (.func 29) #[] #[.pointer (some ⟨w2.heap.size, 0, none⟩)])) (w2.alloc (.cells #[.func (.func gf) #[] lb] 57))) := Lib.hid
    ⟨_, _, rfl, all_seq w2.heap.size gf lb [] [] R (by simp) rfl (fun y hy => by cases hy) _ (Blk.new w2 _ _) (hs.stay (Stay.below hba hs.lt)), hb.trans (hba.mono hb.size), fun g hg => by
      rcases hg with rfl | h
      · exact .inr hb.size
      · exact hr g h⟩
  clear hs hb hr hba
  go_wp2
  go_ret
  exact HZ.out
theorem AftQ.aft {kc T tb : Nat} {t : Tr} {l : Li} {w w' : World} (h : AftQ kc T tb t l w w') : AftN (Nq kc) T l (fun b => b = tb) (fun b => b = T ∨ b = tb ∨ t.has b) w w' fun _ => True := by
  obtain ⟨t', h1, h2, h3, h4, h5⟩ := h
  refine ⟨_, _, ⟨tb, t', h1, h2, h3, rfl, rfl⟩, h4, From.refl _ _, ?_, trivial⟩
  rintro b (rfl | rfl | hb)
  · exact .inl (.inl rfl)
  · exact .inl (.inr (.inl rfl))
  · exact (h5 b hb).elim (fun h => .inl (.inr (.inr h))) .inr
theorem netC : NetC Nq where
  up := by
    rintro kc kd w T l S D ⟨tb, t, h1, h2, h3, rfl, rfl⟩ hk
    exact ⟨tb, t, h1, h2, h3.up hk, rfl, rfl⟩
  stay := by
    rintro kc w w' T l S D ⟨tb, t, h1, h2, h3, rfl, rfl⟩ hs
    exact ⟨tb, t, (hs.2 T (.inl rfl)).trans h1, h2.stay fun b hb => hs.2 b (.inr hb), h3, rfl, rfl⟩
  lt := by
    rintro kc w T l S D ⟨tb, t, h1, h2, h3, rfl, rfl⟩ b hb
    rcases hb with rfl | rfl | hb
    · exact h1.lt
    · exact h2.1.lt
    · exact h2.2.1.lt b hb
  sub := by
    rintro kc w T l S D ⟨tb, t, h1, h2, h3, rfl, rfl⟩ b hb
    exact .inr (.inl hb)
  few := by
    rintro kc w T l S D ⟨tb, t, h1, h2, h3, rfl, rfl⟩
    exact h3.few
  new := fun w => (newQ w).mono fun e w' ⟨T, tb, he, h1, h2, h3, h4, h5⟩ => ⟨T, _, _, he, ⟨tb, .leaf, h1, h2, ⟨rfl, (fun y hy => by cases hy), (fun r hr => by cases hr), by simp⟩, rfl, rfl⟩, h3, fun b hb => by
    rcases hb with rfl | rfl | hb
    · exact h4
    · exact h5
    · exact hb.elim⟩
  send := by
    rintro kc w T l S D A n c x ⟨tb, t, h1, h2, h3, rfl, rfl⟩ hk hs hr hc hn hx
    exact (sendQ kc T tb t l A n c x w h1 h2 h3 hk hr hx).mono fun e w' ⟨he, ha⟩ => ⟨he, ha.aft⟩
  len := by
    rintro kc w T l S D ⟨tb, t, h1, h2, h3, rfl, rfl⟩
    exact (lenN T tb t w h1 h2).mono fun e w' ⟨he, hw⟩ => ⟨by rw [he, show t.len = l.length from h3.len], by rw [hw]; exact Below.refl _ _⟩
  at_ := by
    rintro kc w T l S D i ⟨tb, t, h1, h2, h3, rfl, rfl⟩ hs i1 i2
    exact atN_any kc T tb t l i w h1 h2 h3
  take := by
    rintro kc w T l S D i ⟨tb, t, h1, h2, h3, rfl, rfl⟩ hs i1 i2
    have e1 := h1.lt
    have e2 := h2.1.lt
    refine (takeQ kc T tb t l i w h1 h2 h3).mono fun e w' ⟨v, he, ho, t', k1, k2, k3, k4, k5, k6⟩ => ⟨v, he, ho, _, _, ⟨tb, t', k1, k2, k3, rfl, rfl⟩, k4, From.refl _ _, ?_, ?_⟩
    · rintro b (rfl | rfl | hb)
      · exact .inl (.inl rfl)
      · exact .inl (.inr (.inl rfl))
      · exact (k5 b hb).elim (fun h => .inl (.inr (.inr h))) .inr
    · intro g hg hd
      have := owr_base ho g hg
      rcases hd with rfl | rfl | hd
      · omega
      · omega
      · exact k6 g hg hd
  double := by
    rintro kc w T l S D i ⟨tb, t, h1, h2, h3, rfl, rfl⟩ hk hs i1 i2
    exact (doubleQ kc T tb t l i w h1 h2 h3 hk).mono fun e w' ⟨he, ha⟩ => ⟨he, ha.aft⟩
  all := by
    rintro kc w T l S D ⟨tb, t, h1, h2, h3, rfl, rfl⟩ hs
    refine (allQ T tb t l w h1 h2 h3.few h3.texts h3.bytes).mono fun e w' ⟨v, R, he, k1, k2, k3⟩ => ⟨v, R, he, k1, k2, fun g hg => ?_⟩
    rcases k3 g hg with h | h
    · exact .inl ⟨.inr (.inr h), fun e => IsT.not_has h2.1 (by decide) h2.2.1 (by have e : g = tb := e; rw [← e]; exact h)⟩
    · exact .inr h
  nsend := by
    intro w A n c x hr hc hn
    exact send_nilQ A n c x w hr
  nlen := fun w => (lenN_nil w).mono fun e w' ⟨he, hw⟩ => ⟨he, by rw [hw]; exact Below.refl _ _⟩
  nat_ := fun w i i1 i2 => at_nilQ i w
  ntake := fun w i i1 i2 => take_nilQ i w
  ndouble := fun w i i1 i2 => double_nilQ i w
  nall := fun w => (all_nilQ w).mono fun e w' ⟨v, R, he, k1, k2, k3⟩ => ⟨v, R, he, k1, k2, fun g hg => (k3 g hg).elim (fun h => h.elim) id⟩
end Go.Proofs.Ytcjfammfplcigaa.Pk
