/- The landed Left of package half: the function that it answers goes over the numbers and messages of a side. -/
import Derived.Test.YtneijohbmphheaaHfHeard
import Derived.Test.YtneijohbmphheaaRangeS
import Derived.Test.YtneijohbmphheaaHfSeqW
namespace Go.Proofs.Ytneijohbmphheaa.Pk
open Go.RowKit Go.Shelf
set_option linter.unusedVariables false
theorem hddL (k : Nat) : Fence.wide.depth.isSome = true → 1 ≤ k := fun h => by cases h
/-- A side in a box of its own, over messages of its own. -/
def LeftAt (W : World) (x : Nat) (h : Hf) (A : Option Addr) (n c : Nat) : Prop := Blk W x 24 #[.int .i64 h.p, .int .i64 h.b, .slice A n c, .int .i64 h.s] ∧ OwnG W 0 (.slice A n c) h.o
def LeftB (x : Nat) (A : Option Addr) (n c : Nat) (g : Nat) : Prop := g = x ∨ (Value.slice A n c).ownBlock = some g
theorem LeftAt.stay {W W' : World} {x : Nat} {h : Hf} {A : Option Addr} {n c : Nat} (k : LeftAt W x h A n c) (hs : Stay (LeftB x A n c) W W') : LeftAt W' x h A n c :=
  ⟨(hs.2 x (.inl rfl)).trans k.1, k.2.stay (fun g e => hs.2 g (.inr e))⟩
theorem LeftAt.lt {W : World} {x : Nat} {h : Hf} {A : Option Addr} {n c : Nat} (k : LeftAt W x h A n c) : ∀ g, LeftB x A n c g → g < W.heap.size := by
  rintro g (rfl | e)
  · exact k.1.lt
  · exact ownG_lt k.2 g e
theorem hnum_take {b : Int} {o : List Mg} {k : Nat} {m : Mg} (h : o[k]? = some m) : (hnum b o).take k ++ [(b + 1 + (k : Int), m)] = (hnum b o).take (k + 1) := by
  have hg : (hnum b o)[k]? = some (b + 1 + (k : Int), m) := by rw [hnum_get, h]; rfl
  obtain ⟨h1, h2⟩ := List.getElem?_eq_some_iff.1 hg
  rw [List.take_succ_eq_append_getElem h1, h2]
set_option maxRecDepth 100000 in
set_option maxHeartbeats 4000000 in
theorem left1_in (m l x : Nat) (h : Hf) (A : Option Addr) (n c : Nat) (hb : 0 ≤ h.b ∧ h.b ≤ 1099511627776) (hn : n ≤ 1024) (J Jx : List (Int × Mg) → World → Prop) (W : World) (hJ : ∀ q W1 o, J q W1 → J q (W1.alloc o))
    (hY : ∀ pre y W1, J pre W1 → OkH (hnum h.b h.o) W.heap.size pre y W1 → YieldAt Fence.wide (m - 1) Try.prog l (encH y) W1 fun e W' => KeepsAll W.heap.size W1 W' ∧
      ((e = .returned (.bool true) ∧ J (pre ++ [y]) W' ∧ Stay (LeftB x A n c) W1 W') ∨ (e = .returned (.bool false) ∧ Jx (pre ++ [y]) W')))
    (hP : LeftAt W x h A n c) (h0 : J [] W) :
    CallsIn Fence.wide m Try.prog 29 #[.func (.yield l) #[] #[], .pointer (some ⟨x, 0, none⟩)] W fun e W' => (∃ v, e = .returned v) ∧
      ((∃ ys, ys = hnum h.b h.o ∧ J ys W') ∨ (∃ pre, pre <+: hnum h.b h.o ∧ Jx pre W')) := by
  obtain ⟨p, b, o, s⟩ := h
  simp only at hb hY hP ⊢
  have HL : Hid (o.length = n) := Lib.hid (by
    obtain ⟨A2, c2, e, _, _⟩ := hP.2.reads
    injection e with _ e _
    exact e.symm)
  have HP := Lib.hid hP
  have c2 : W.cell? ⟨x, 2, none⟩ = some (.slice A n c) := hP.1.cell 2
  have HJ := Lib.hid hJ
  have HY := Lib.hid hY
  have HJ0 := Lib.hid h0
  have HXl := Lib.hid hP.1.lt
  have hnc : n ≤ c := by
    obtain ⟨A2, c2, e, h2, _⟩ := hP.2.reads
    injection e with _ e e3
    omega
  clear hP hY h0 hJ
  refine callsIn_of_wp Try.func29 rfl trivial ?_ rfl
  simp only [Try.ntmps29, List.size_toArray, List.length_cons, List.length_nil, Nat.reduceAdd, Nat.reduceSub, Array.replicate_succ, Array.replicate_zero, List.push_toArray, List.append_toArray, List.nil_append, List.cons_append]
  gi_wp2_with fail
  clear c2
  gi_loopw [3, 4, 8] (fun _ _ j wr => ∃ k : Nat, j = .int .i64 k ∧ k ≤ n ∧ J ((hnum b o).take k) wr ∧ LeftAt wr x ⟨p, b, o, s⟩ A n c ∧ W.heap.size ≤ wr.heap.size) (fun _ _ j _ => n - (intOf j).toNat)
  case atStart => exact ⟨0, rfl, by omega, HJ0.out, HP.out, Nat.le_refl _⟩
  case round =>
    obtain ⟨k, rfl, hk, hJk, hE, hBw⟩ := hrel
    obtain ⟨w1, rfl⟩ : ∃ w1 : World, w1 = wr := ⟨_, rfl⟩
    have HJk := Lib.hid hJk
    have HE := Lib.hid hE
    clear hJk hE
    by_cases hlt : k < n
    · obtain ⟨A3, c3, e3, _, hr3⟩ := HE.out.2.reads
      simp only at e3 hr3
      rw [HL.out] at e3 hr3
      obtain ⟨rfl, rfl⟩ : A = A3 ∧ c = c3 := by injection e3 with h1 h2 h3; exact ⟨h1, h3⟩
      obtain ⟨g, off, rfl, hgb, hc⟩ := hr3.mgs_ (by omega)
      obtain ⟨mm, hm⟩ : ∃ m, o[k]? = some m := ⟨_, List.getElem?_eq_getElem (by rw [HL.out]; exact hlt)⟩
      obtain ⟨m0, m1, m2, m3, m4⟩ := hc k mm hm
      have HNx := Lib.hid (hnum_take (b := b) hm)
      obtain ⟨mk, mo, mn, mu, mv⟩ := mm
      simp only at m0 m1 m2 m3 m4
      clear hc hr3 e3 hm
      have hst : Stay (LeftB x (some ⟨g, off, none⟩) n c) w1 (w1.alloc (.cells #[.int .i64 mk, .int .i64 mo, .int .i64 mn, .int .i64 mu, .int .i64 mv] 26)) := Stay.below ((Below.refl _ w1).alloc (Nat.le_refl _) _) HE.out.lt
      have HEV := Lib.hid (HE.out.stay hst)
      have HJV : Hid (J ((hnum b o).take k) (w1.alloc (.cells #[.int .i64 mk, .int .i64 mo, .int .i64 mn, .int .i64 mu, .int .i64 mv] 26))) := Lib.hid (HJ.out _ w1 _ HJk.out)
      have HPre : Hid ((hnum b o).take (k + 1) <+: hnum b o) := Lib.hid (List.take_prefix _ _)
      obtain ⟨fn, tmps, assign, body, hy, hR⟩ := HY.out _ (b + 1 + (k : Int), ⟨mk, mo, mn, mu, mv⟩) (w1.alloc (.cells #[.int .i64 mk, .int .i64 mo, .int .i64 mn, .int .i64 mu, .int .i64 mv] 26)) HJV.out (by show _ ++ [_] <+: _; rw [HNx.out]; exact HPre.out)
      replace hy : (Instr.yield l #[.int .i64 (b + 1 + (k : Int)), .agg #[.int .i64 mk, .int .i64 mo, .int .i64 mn, .int .i64 mu, .int .i64 mv]]).run Try.prog (w1.alloc (.cells #[.int .i64 mk, .int .i64 mo, .int .i64 mn, .int .i64 mu, .int .i64 mv] 26)) = .ok (.round l fn tmps assign body) (w1.alloc (.cells #[.int .i64 mk, .int .i64 mo, .int .i64 mn, .int .i64 mu, .int .i64 mv] 26)) := hy
      have HRR := Lib.hid hR
      have cb : (w1.alloc (.cells #[.int .i64 mk, .int .i64 mo, .int .i64 mn, .int .i64 mu, .int .i64 mv] 26)).cell? ⟨x, 1, none⟩ = some (.int .i64 b) := HEV.out.1.cell 1
      have hsz : W.heap.size ≤ (w1.alloc (.cells #[.int .i64 mk, .int .i64 mo, .int .i64 mn, .int .i64 mu, .int .i64 mv] 26)).heap.size := by simp; omega
      clear hR hst
      gi_wp2
      refine ⟨hddL _, HRR.out.mono ?_⟩
      clear HRR cb hy
      rintro e w4 ⟨hka, ⟨rfl, hJ4, hs4⟩ | ⟨rfl, hx4⟩⟩
      · have HJ4 := Lib.hid hJ4
        have HE4 := Lib.hid (HEV.out.stay hs4)
        have hB4 := Nat.le_trans hsz hka.size
        rw [HNx.out] at HJ4
        clear hJ4 hs4 hka
        gi_wp2
        go_roundw
        case rel => exact ⟨k + 1, by go_num, by omega, HJ4.out, HE4.out, hB4⟩
        case measure => simp [intOf]; omega
      · have HX4 := Lib.hid hx4
        rw [HNx.out] at HX4
        clear hx4 hka
        gi_wp2
        first | go_end0 | refine bodyPost_ret (results_none rfl _ _ _) rfl ?_
        exact ⟨⟨_, rfl⟩, .inr ⟨_, HPre.out, HX4.out⟩⟩
    · have hk2 : k = n := by omega
      subst hk2
      have HAll : Hid ((hnum b o).take k = hnum b o) := Lib.hid (List.take_of_length_le (by rw [hnum_length, HL.out]; exact Nat.le_refl _))
      rw [HAll.out] at HJk
      gi_wp2
      first | go_end0 | refine bodyPost_ret (results_none rfl _ _ _) rfl ?_
      exact ⟨⟨_, rfl⟩, .inl ⟨_, rfl, HJk.out⟩⟩
theorem left_seq (x : Nat) (h : Hf) (A : Option Addr) (n c : Nat) (hb : 0 ≤ h.b ∧ h.b ≤ 1099511627776) (hn : n ≤ 1024) (w : World) (hP : LeftAt w x h A n c) :
    SeqH (.func (.func 29) #[] #[.pointer (some ⟨x, 0, none⟩)]) (hnum h.b h.o) (LeftB x A n c) w := by
  refine ⟨_, _, _, rfl, enters_of Try.func29 (by kernel_rfl) rfl, hP.lt, ?_⟩
  intro m W hs l J Jx W1 hW hJ hJx hY h0
  have hs1 : Stay (LeftB x A n c) w W1 := StayH.trans hs (Stay.below hW (fun b hb => Nat.lt_of_lt_of_le (hP.lt b hb) hs.1))
  exact left1_in m l x h A n c hb hn J Jx W1 (fun q W1 o h => hJ.alloc o h) hY (hP.stay hs1) h0
theorem left_seqW (x : Nat) (h : Hf) (A : Option Addr) (n c : Nat) (hb : 0 ≤ h.b ∧ h.b ≤ 1099511627776) (hn : n ≤ 1024) (w : World) (hP : LeftAt w x h A n c) :
    SeqW (.func (.func 29) #[] #[.pointer (some ⟨x, 0, none⟩)]) (hnum h.b h.o) (LeftB x A n c) w := by
  refine ⟨_, _, _, rfl, enters_of Try.func29 (by kernel_rfl) rfl, hP.lt, ?_⟩
  intro m W hs l J Jx W1 hW hJ hJx hY h0
  have hs1 : Stay (LeftB x A n c) w W1 := StayH.trans hs (Stay.below hW (fun b hb => Nat.lt_of_lt_of_le (hP.lt b hb) hs.1))
  exact left1_in m l x h A n c hb hn J Jx W1 (fun q W1 o h => hJ.alloc o h) hY (hP.stay hs1) h0
/-- What Left goes over is what word of seen would leave. -/
theorem hleft_heard (h : Hf) (seen q : Int) (hq : h.Be → q = h.b + (h.o.length : Int)) : hleft h seen = hnum (hheard h (min seen q)).1.b (hheard h (min seen q)).1.o := by
  by_cases hb : h.Be
  · have e := hq hb
    rw [hleft_drop hb]
    unfold hheard
    rw [if_pos hb]
    by_cases hn : h.News (min seen q)
    · rw [if_pos hn]
      obtain ⟨n1, n2⟩ := hn
      show (hnum h.b h.o).drop (seen - h.b).toNat = hnum (min seen q) (h.o.drop (min seen q - h.b).toNat)
      apply List.ext_getElem?
      intro i
      rw [List.getElem?_drop, hnum_get, hnum_get, List.getElem?_drop]
      by_cases hs : seen ≤ q
      · rw [Int.min_eq_left hs] at *
        cases h.o[(seen - h.b).toNat + i]? with
        | none => rfl
        | some m => simp; omega
      · rw [Int.min_eq_right (by omega)] at *
        rw [List.getElem?_eq_none (by omega), List.getElem?_eq_none (by omega)]
        rfl
    · rw [if_neg hn]
      unfold Hf.News at hn
      show (hnum h.b h.o).drop (seen - h.b).toNat = hnum h.b h.o
      by_cases hs : seen ≤ h.b
      · rw [show (seen - h.b).toNat = 0 by omega]; rfl
      · have h0 : h.o.length = 0 := by omega
        have h1 : h.o = [] := List.length_eq_zero_iff.1 h0
        rw [h1]
        simp [hnum]
  · rw [hleft_not hb]
    unfold hheard
    rw [if_neg hb]
    rfl
theorem heard_b (h : Hf) (a : Int) : 0 ≤ (hheard h a).1.b ∧ (hheard h a).1.b ≤ 1099511627776 := by
  unfold hheard
  split
  · rename_i hb
    obtain ⟨g1, g2, g3, g4, g5, g6, g7, g8⟩ := hb
    split
    · rename_i hn
      obtain ⟨n1, n2⟩ := hn
      show 0 ≤ a ∧ a ≤ 1099511627776
      omega
    · show 0 ≤ h.b ∧ h.b ≤ 1099511627776
      omega
  · exact ⟨by decide, by decide⟩
end Go.Proofs.Ytneijohbmphheaa.Pk
