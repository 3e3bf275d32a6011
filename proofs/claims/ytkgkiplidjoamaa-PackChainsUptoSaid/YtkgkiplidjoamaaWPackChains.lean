/- The walk of the law PackChains: numbers that are put one behind the other are gone over in their order, each in its place. -/
import Derived.Test.YtkgkiplidjoamaaPackIter
import Derived.Test.YtkgkiplidjoamaaPackChainMath
import Derived.Test.YtkgkiplidjoamaaPackWakes
import Derived.Test.YtkgkiplidjoamaaArgs
namespace Go.Proofs.Ytkgkiplidjoamaa.Pk
open Go.RowKit Go.Shelf Go.Proofs.Ytkgkiplidjoamaa.Ar
set_option linter.unusedVariables false
attribute [local go_sem] Oper.semAt_some

/-- The loop's invariant. -/
def ChAt (w : World) (N X : Nat) (b : Option Addr) (m d : Nat) (xs : List Int) (pre : List (Nat × Int)) (W : World) : Prop :=
  ∃ k : Nat, pre = chain xs k ∧ k ≤ m ∧ Blk W N 3 #[.int .i64 (k : Int)] ∧ Blk W (N + 1) 3 #[.int .i64 (tot xs k : Nat)] ∧ Blk W X 23 #[.slice b m d] ∧ Blk W (X + 1) 4 #[.bool false]
theorem blk_one {W : World} {g : Nat} {t : TypeId} {u : Value} (h : Blk W g t #[u]) (v : Value) : Blk (W.setCell ⟨g, 0, none⟩ v) g t #[v] := by
  have := h.set_ 0 v
  simpa using this
theorem chain_goes {w W : World} {N X Bs g B5 : Nat} {b : Option Addr} {m d k : Nat} {xs : List Int} {y : Int} {x : Nat × Int} (hX : X + 2 ≤ N) (hBs : N + 2 ≤ Bs) (hg : N + 2 ≤ g) (hw : w.heap.size ≤ N) (hk : k < m) (hl : xs.length = m) (hy : y = xs.getD k 0)
    (hn : Blk W N 3 #[.int .i64 (k : Int)]) (ha : Blk W (N + 1) 3 #[.int .i64 (tot xs k : Nat)]) (hx : Blk W X 23 #[.slice b m d]) (hr : Blk W (X + 1) 4 #[.bool false]) (hI : chain xs k ++ [x] = chain xs (k + 1)) (hB : Below w.heap.size w W) :
    let W' := ((W.setCell ⟨N + 1, 0, none⟩ (.int .i64 ((tot xs k : Int) + ((enc 8 y).length : Int)))).setCell ⟨N, 0, none⟩ (.int .i64 ((k : Int) + 1))).drew
    KeepsFrom B5 W W' ∧ KeepB Bs g W W' ∧ ChAt w N X b m d xs (chain xs k ++ [x]) W' ∧ Below w.heap.size w W' := by
  intro W'
  refine ⟨(((KeepsOthers.setCell W _ _).trans (KeepsOthers.setCell _ _ _)).trans (KeepsOthers.drew _)).from _, ⟨?_, ?_, ?_⟩, ⟨k + 1, hI, by omega, ?_, ?_, ?_, ?_⟩, ((hB.setCell (p := ⟨N + 1, 0, none⟩) (by simp; omega) _).setCell (p := ⟨N, 0, none⟩) (by simpa using hw) _).drew⟩
  · simp [W', World.setCell, World.drew]
  · exact (Below.heap_setCell _ ⟨N, 0, none⟩ _ Bs (by simp; omega)).trans (Below.heap_setCell _ ⟨N + 1, 0, none⟩ _ Bs (by simp; omega))
  · exact (Below.heap_setCell _ ⟨N, 0, none⟩ _ g (by simp; omega)).trans (Below.heap_setCell _ ⟨N + 1, 0, none⟩ _ g (by simp; omega))
  · have := blk_one (hn.far (p := ⟨N + 1, 0, none⟩) (by simp) (.int .i64 ((tot xs k : Int) + ((enc 8 y).length : Int)))) (.int .i64 ((k : Int) + 1))
    exact this.drew
  · have := (blk_one ha (.int .i64 ((tot xs k : Int) + ((enc 8 y).length : Int)))).far (p := ⟨N, 0, none⟩) (by simp) (.int .i64 ((k : Int) + 1))
    rw [tot_succ xs k (by omega), ← hy, encmax_len]
    exact this.drew
  · exact ((hx.far (p := ⟨N + 1, 0, none⟩) (by simp; omega) _).far (p := ⟨N, 0, none⟩) (by simp; omega) _).drew
  · exact ((hr.far (p := ⟨N + 1, 0, none⟩) (by simp; omega) _).far (p := ⟨N, 0, none⟩) (by simp; omega) _).drew

/-- Something else than the next one has come. -/
def ChWrong (xs : List Int) (m : Nat) (pre : List (Nat × Int)) : Prop := ∃ (k : Nat) (x : Nat × Int), pre = chain xs k ++ [x] ∧ k < m ∧ x ≠ (tot xs k, max (xs.getD k 0) 0)
theorem chWrong_mk {xs : List Int} {m k : Nat} {x : Nat × Int} (hk : k < m) (h : x ≠ (tot xs k, max (xs.getD k 0) 0)) : ChWrong xs m (chain xs k ++ [x]) := ⟨k, x, rfl, hk, h⟩

set_option maxRecDepth 100000 in
set_option maxHeartbeats 4000000 in
theorem law_PackChains (b : Option Addr) (m d : Nat) (xs : List Int) (a : Option Addr) (n c : Nat) (l : List Int) (w : World) (hx : ArgN w b m d xs) (h : ArgB w a n c l) (hu : m + n ≤ 1048576) :
    Calls Try.prog 9 #[.slice b m d, .slice a n c] w fun e w' => e = .returned (.bool true) ∧ Below w.heap.size w w' := by
  obtain ⟨hr, hnc, hc, hB⟩ := h
  obtain ⟨hrx, hmd, hd, hX⟩ := hx
  have HL : Hid (l.length = n) := by have := hr.1; simp at this; exact this
  have HM : Hid (xs.length = m) := by have := hrx.1; simp at this; exact this
  have HB := Lib.hid hB
  have HR := Lib.hid hr
  have HX := Lib.hid hX
  have HRX := Lib.hid hrx
  clear hB hr hrx hX hc hd
  refine (callsIn_wide (n := 9)).1 ?_
  refine callsIn_of_wp_marks Try.func9 rfl trivial ?_ rfl
  simp only [Try.ntmps9, List.size_toArray, List.length_cons, List.length_nil, Nat.reduceAdd, Nat.reduceSub, Array.replicate_succ, Array.replicate_zero, List.push_toArray, List.append_toArray, List.nil_append, List.cons_append]
  refine wpIn_wide.2 ?_
  have kx := (Blk.new w 23 #[.slice b m d]).alloc (.cells #[.bool false] 4)
  have kr := Blk.new (w.alloc (.cells #[.slice b m d] 23)) 4 #[.bool false]
  rw [World.size_alloc] at kr
  go_wp2_with fail
  refine (wakes_any _).mono ?_
  rintro e w1 ⟨rfl, hb1⟩
  have hbel1 : Below w.heap.size w w1 := (((Below.refl _ _).alloc (Nat.le_refl _) _).alloc (by simp) _).trans (hb1.mono (by simp; omega))
  have kx1 := kx.below hb1 (by simp; omega)
  have kr1 := kr.below hb1 (by simp)
  have hs1 : w.heap.size + 2 ≤ w1.heap.size := by have := hb1.size; simp at this; omega
  clear kx kr hb1
  have cx := kx1.cell 0
  simp only [List.getElem?_toArray, List.getElem?_cons_zero] at cx
  go_wp2_with fail
  refine (put_any none b 0 0 m d [] xs w1 Reads.none_ ((HRX.out.below hbel1).more hbel1.size) (by omega) hmd (fun x hx => (HX.out x hx).2)).mono ?_
  rw [List.nil_append]
  rintro e w2 ⟨v2, rfl, hown2, hb2⟩
  have hbel2 := hbel1.trans (hb2.mono hbel1.size)
  have kx2 := kx1.below hb2 (by omega)
  have kr2 := kr1.below hb2 (by omega)
  have hel := encs_len xs
  rw [HM.out] at hel
  clear kx1 kr1 cx
  go_wp2_with (at_builtin; refine appB w2 rfl (.tmp 13) (.tmp 14) rfl w1.heap.size _ _ rfl hown2 w.heap.size a c l n rfl (HR.out.below hbel2) (by omega) hb2.size ?_; intro v3 w3 hown3 hb3 hx1 hx2; clear hx1 hx2; obtain ⟨A3, n3, c3, rfl, hc3, hn3, hr3⟩ := hown3.val)
  clear hown3
  have hbel3 := hbel2.trans (hb3.mono (show w.heap.size ≤ w1.heap.size by omega))
  have kx3 := kx2.below hb3 (by omega)
  have kr3 := kr2.below hb3 (by omega)
  have hs3 : w1.heap.size ≤ w3.heap.size := Nat.le_trans hb2.size hb3.size
  have hXw : ∀ x ∈ xs, x ≤ 9223372036854775807 := fun x hx => (HX.out x hx).2
  have HXw := Lib.hid hXw
  clear hXw
  have hnl : n3 ≤ 9 * m + n := by rw [← hn3, List.length_append, HL.out]; omega
  have HN3 := Lib.hid hn3
  have HBB : Hid (isB (encs xs ++ l)) := isB_app (isB_encs HXw.out) HB.out
  have kn := (Blk.new w3 3 #[.int .i64 0]).alloc (.cells #[.int .i64 0] 3)
  have ka := Blk.new (w3.alloc (.cells #[.int .i64 0] 3)) 3 #[.int .i64 0]
  rw [World.size_alloc] at ka
  have kx4 := (kx3.alloc (.cells #[.int .i64 0] 3)).alloc (.cells #[.int .i64 0] 3)
  have kr4 := (kr3.alloc (.cells #[.int .i64 0] 3)).alloc (.cells #[.int .i64 0] 3)
  have hbel4 : Below w.heap.size w ((w3.alloc (.cells #[.int .i64 0] 3)).alloc (.cells #[.int .i64 0] 3)) := (hbel3.alloc hbel3.size _).alloc (by have := hbel3.size; simp; omega) _
  clear hb2 hb3 kx2 kr2 kx3 kr3 hn3 hown2
  refine (numbers_any A3 n3 c3 (encs xs ++ l) _ (((hr3.alloc (Nat.le_refl _) _).alloc (by simp) _).more (by simp; omega)) HBB.out (by omega)).mono ?_
  rintro e w5 ⟨Bs, g, A5, n5, c5, rfl, hBs1, hBs2, hg2, hg1, hn5, hc5, hS5, hb5⟩
  have hbel5 := hbel4.trans (hb5.mono hbel4.size)
  have kx5 := kx4.below hb5 (by simp; omega)
  have kr5 := kr4.below hb5 (by simp; omega)
  have kn5 := kn.below hb5 (by simp; omega)
  have ka5 := ka.below hb5 (by simp)
  simp only [World.size_alloc] at hBs1 hg1
  clear kx4 kr4 kn ka hb5 hbel4
  go_wp2
  obtain ⟨X, hX0⟩ : ∃ X, X = w.heap.size := ⟨_, rfl⟩
  obtain ⟨N0, hN0⟩ : ∃ N0, N0 = w3.heap.size := ⟨_, rfl⟩
  have hNX : w.heap.size + 2 ≤ w3.heap.size := by omega
  have hBW : w3.heap.size + 2 ≤ Bs := hBs1
  have hgW : w3.heap.size + 2 ≤ g := hg1
  refine (wpIn_wide (n := 9)).1 ?_
  refine wpIn_rangeFunc_ownG (α := Nat × Int) rfl (by omega) (gf := 30) (lb := #[.pointer (some ⟨Bs, 0, none⟩)]) rfl trivial (enters_of Try.func30 (by kernel_rfl) rfl)
    (iter_stops 8 (by omega) Bs g A5 n5 c5 (encs xs ++ l) (by have := HN3.out; omega) hc5 HBB.out w5 hBs2 hg2 hS5) KeepB.trans (keepB_b hBs2 hg2) (Below.refl _ _) (fun _ => rfl)
    (fun pre W => ChAt w w3.heap.size w.heap.size b m d xs pre W ∧ Below w.heap.size w W)
    (fun c pre W => ((c = .ret ∧ ChWrong xs m pre) ∨
      (c = .exit 0 ∧ Blk W w3.heap.size 3 #[.int .i64 (m : Int)] ∧ Blk W (w3.heap.size + 1) 3 #[.int .i64 (tot xs m : Nat)] ∧ Blk W w.heap.size 23 #[.slice b m d] ∧ Blk W (w.heap.size + 1) 4 #[.bool false])) ∧ Below w.heap.size w W)
    (OwnFrom.and (Own.from (fun s A B row hs hg hr => by
      obtain ⟨k, e1, e2, e3, e4, e5, e6⟩ := hs
      exact ⟨k, e1, e2, blk_kept e3 hg hr, blk_kept e4 hg hr, blk_kept e5 hg hr, blk_kept e6 hg hr⟩) _) (ownFrom_below (Nat.le_refl _) hbel5.size))
    (fun c => OwnFrom.and (Own.from (fun s A B row hs hg hr => by
      rcases hs with hs | ⟨e1, e3, e4, e5, e6⟩
      · exact .inl hs
      · exact .inr ⟨e1, blk_kept e3 hg hr, blk_kept e4 hg hr, blk_kept e5 hg hr, blk_kept e6 hg hr⟩) _) (ownFrom_below (Nat.le_refl _) hbel5.size))
    ⟨⟨0, rfl, by omega, kn5, by rw [tot_zero]; exact ka5, kx5, kr5⟩, hbel5⟩
    (fun x => { tmps := #[.slice b m d, .slice a n c, .pointer (some ⟨w.heap.size, 0, none⟩), undef, .pointer (some ⟨w.heap.size + 1, 0, none⟩), .slice A3 n3 c3, .pointer (some ⟨w3.heap.size, 0, none⟩), .pointer (some ⟨w3.heap.size + 1, 0, none⟩),
      .int .i64 (x.1 : Int), .int .i64 x.2, .bool true, .bool false, .slice b m d, v2, .slice a n c, .slice A3 n3 c3, .slice A3 n3 c3, .func (.func 30) #[] #[.pointer (some ⟨Bs, 0, none⟩)], .int .i64 (x.1 : Int), .int .i64 x.2,
      undef, undef, undef, undef, undef, undef, undef, undef, undef, undef, undef, undef, undef, undef, undef, undef, undef, undef, undef, undef, undef, undef, undef, undef, undef, undef, undef, undef, undef, undef, undef, undef, undef, undef, undef, undef, undef, undef], defers := [] }) ?assign ?body ?done ?stop
  case assign =>
    intro l x W K hK
    gi_wp2
    exact hK
  case body =>
    rintro lp pre ⟨x1, x2⟩ W ⟨⟨k, rfl, hk, hn, ha, hxb, hrb⟩, hB⟩ hlt
    clear hlt
    have cn : W.cell? ⟨w3.heap.size, 0, none⟩ = some (.int .i64 (k : Int)) := by rw [hn.cell]; rfl
    have ca : W.cell? ⟨w3.heap.size + 1, 0, none⟩ = some (.int .i64 (tot xs k : Nat)) := by rw [ha.cell]; rfl
    have cx : W.cell? ⟨w.heap.size, 0, none⟩ = some (.slice b m d) := by rw [hxb.cell]; rfl
    have cr : W.cell? ⟨w.heap.size + 1, 0, none⟩ = some (.bool false) := by rw [hrb.cell]; rfl
    have fr : W.frozen? ⟨w.heap.size + 1, 0, none⟩ = false := hrb.frozen 0
    have fn : W.frozen? ⟨w3.heap.size, 0, none⟩ = false := hn.frozen 0
    have fa : W.frozen? ⟨w3.heap.size + 1, 0, none⟩ = false := ha.frozen 0
    by_cases hkm : k = m
    · have hkm1 : ((k : Int) == (m : Int)) = true := by rw [hkm]; simp
      have HK := Lib.hid hkm
      clear hkm
      gi_wp2
      have hkm := HK.out
      subst hkm
      exact ⟨KeepsFrom.refl _ _, .inr ⟨rfl, hn, ha, hxb, hrb⟩, hB⟩
    · have hfol : Try.prog.follows .mixedOrders = true := by kernel_rfl
      have hkm1 : ((k : Int) == (m : Int)) = false := beq_eq_false_iff_ne.2 (by omega)
      have hkl : k < m := by omega
      have hkl2 : (k : Int) < (m : Int) := by omega
      obtain ⟨b', off, rfl, hbb, hcell⟩ := HRX.out.i64 (by omega)
      have hcx := (hB.cell (p := ⟨b', off + k, none⟩) hbb).trans (hcell k hkl)
      have hxw := HX.out (xs.getD k 0) (by rw [List.getD_eq_getElem?_getD, List.getElem?_eq_getElem (by rw [HM.out]; exact hkl)]; exact List.getElem_mem _)
      obtain ⟨y, hyy⟩ : ∃ y, y = xs.getD k 0 := ⟨_, rfl⟩
      rw [← hyy] at hcx hxw
      have HY := Lib.hid hyy
      clear hyy hcell
      obtain ⟨hy1, hy2⟩ := hxw
      have htk := tot_le xs k
      have he9 := enc_len_le 8 y
      by_cases hy0 : 0 ≤ y
      · have HZ : Hid (max y 0 = y) := (Int.max_eq_left hy0)
        
        by_cases h1 : x1 = tot xs k
        · have t1 : ((x1 : Int) != (tot xs k : Int)) = false := by rw [h1]; simp
          by_cases h2 : x2 = y
          · have t2 : (x2 != y) = false := by rw [h2]; simp
            have HI : Hid (chain xs k ++ [(x1, x2)] = chain xs (k + 1)) := by
              show chain xs k ++ [(x1, x2)] = chain xs (k + 1)
              rw [chain_succ, h1, h2, ← HY.out, HZ.out]
            clear h1 h2
            gi_wp2
            gi_region_with_o (refine ⟨trivial, ?_⟩; gi_at_call 13; refine (CallsIn.inRound lp (callsIn_wide.2 (size_any y _ hy2))).mono ?_; rintro e w' ⟨rfl, rfl⟩)
            all_goals gi_wp2
            all_goals exact chain_goes hNX hBW hgW (by omega) hkl HM.out HY.out hn ha hxb hrb HI.out hB
          · have t2 : (x2 != y) = true := by simp [h2]
            have HW : Hid ((x1, x2) ≠ (tot xs k, max (xs.getD k 0) 0)) := fun e => h2 (by have := congrArg Prod.snd e; rw [← HY.out, HZ.out] at this; exact this)
            clear h1 h2
            gi_wp2
            exact ⟨(KeepsOthers.setCell _ _ _).from _, .inl ⟨rfl, chWrong_mk hkl HW.out⟩, hB.trans (Below.setCell (Below.refl _ _) (p := ⟨w.heap.size + 1, 0, none⟩) (by simp) _)⟩
        · have t1 : ((x1 : Int) != (tot xs k : Int)) = true := by simp; omega
          have HW : Hid ((x1, x2) ≠ (tot xs k, max (xs.getD k 0) 0)) := fun e => h1 (congrArg Prod.fst e)
          clear h1
          gi_wp2
          exact ⟨(KeepsOthers.setCell _ _ _).from _, .inl ⟨rfl, chWrong_mk hkl HW.out⟩, hB.trans (Below.setCell (Below.refl _ _) (p := ⟨w.heap.size + 1, 0, none⟩) (by simp) _)⟩
      · have HZ : Hid (max y 0 = 0) := (Int.max_eq_right (by omega))
        have hy0n : y < 0 := by omega
        by_cases h1 : x1 = tot xs k
        · have t1 : ((x1 : Int) != (tot xs k : Int)) = false := by rw [h1]; simp
          by_cases h2 : x2 = 0
          · have t2 : (x2 != 0) = false := by rw [h2]; simp
            have HI : Hid (chain xs k ++ [(x1, x2)] = chain xs (k + 1)) := by
              show chain xs k ++ [(x1, x2)] = chain xs (k + 1)
              rw [chain_succ, h1, h2, ← HY.out, HZ.out]
            clear h1 h2
            gi_wp2
            gi_region_with_o (refine ⟨trivial, ?_⟩; gi_at_call 13; refine (CallsIn.inRound lp (callsIn_wide.2 (size_any y _ hy2))).mono ?_; rintro e w' ⟨rfl, rfl⟩)
            all_goals gi_wp2
            all_goals exact chain_goes hNX hBW hgW (by omega) hkl HM.out HY.out hn ha hxb hrb HI.out hB
          · have t2 : (x2 != 0) = true := by simp [h2]
            have HW : Hid ((x1, x2) ≠ (tot xs k, max (xs.getD k 0) 0)) := fun e => h2 (by have := congrArg Prod.snd e; rw [← HY.out, HZ.out] at this; exact this)
            clear h1 h2
            gi_wp2
            exact ⟨(KeepsOthers.setCell _ _ _).from _, .inl ⟨rfl, chWrong_mk hkl HW.out⟩, hB.trans (Below.setCell (Below.refl _ _) (p := ⟨w.heap.size + 1, 0, none⟩) (by simp) _)⟩
        · have t1 : ((x1 : Int) != (tot xs k : Int)) = true := by simp; omega
          have HW : Hid ((x1, x2) ≠ (tot xs k, max (xs.getD k 0) 0)) := fun e => h1 (congrArg Prod.fst e)
          clear h1
          gi_wp2
          exact ⟨(KeepsOthers.setCell _ _ _).from _, .inl ⟨rfl, chWrong_mk hkl HW.out⟩, hB.trans (Below.setCell (Below.refl _ _) (p := ⟨w.heap.size + 1, 0, none⟩) (by simp) _)⟩
  case done =>
    rintro D ys W hD rfl ⟨⟨k, hys, hk, hn, ha, hxb, hrb⟩, hB⟩ hK
    have hkm : k = m := by
      have := chain_all (k := k) HXw.out (by rw [HM.out]; exact hk) hys.symm
      rw [HM.out] at this; exact this
    subst hkm
    have cn : W.cell? ⟨w3.heap.size, 0, none⟩ = some (.int .i64 (k : Int)) := by rw [hn.cell]; rfl
    have ca : W.cell? ⟨w3.heap.size + 1, 0, none⟩ = some (.int .i64 (tot xs k : Nat)) := by rw [ha.cell]; rfl
    have cx : W.cell? ⟨w.heap.size, 0, none⟩ = some (.slice b k d) := by rw [hxb.cell]; rfl
    have cr : W.cell? ⟨w.heap.size + 1, 0, none⟩ = some (.bool false) := by rw [hrb.cell]; rfl
    have fr : W.frozen? ⟨w.heap.size + 1, 0, none⟩ = false := hrb.frozen 0
    have HK := Lib.hid hK
    have hte : ((tot xs k : Int) == (n3 : Int) - (n : Int)) = true := by
      have h1 := HN3.out
      have h2 := tot_all xs
      rw [HM.out] at h2
      rw [List.length_append, HL.out] at h1
      simp; omega
    have hwD : w.heap.size ≤ D := Nat.le_trans hbel5.size hD
    clear hK hys
    go_wp2
    have hK' := (KeepsOthers.setCell W ⟨w.heap.size + 1, 0, none⟩ (.bool true)).same D _ HK.out rfl
    refine ⟨by simp, .inl ⟨_, _, rfl, run_takeDeferred hK', ?_⟩⟩
    have hc5 := cell_kept (World.cell?_setCell_same' W ⟨w.heap.size + 1, 0, none⟩ (.bool true) (by rw [cr]; rfl)) (grownBy_putObj' _ D (.deferred none)) (fun r e => by cases e; exact ⟨_, hK', rfl⟩)
    refine ⟨.bool true, ?_, rfl, (hB.setCell (p := ⟨w.heap.size + 1, 0, none⟩) (by simp) _).trans (belowK_b (w := w) (Nat.le_refl _) _ D _ _ hwD hK' rfl rfl)⟩
    simp [results, Try.f9, go_sem, hc5]
  case stop =>
    rintro D cc pre W hD hpre ⟨⟨rfl, hw⟩ | ⟨rfl, hn, ha, hxb, hrb⟩, hB⟩ hK
    · obtain ⟨k, x, rfl, hk, hne⟩ := hw
      exact absurd (chain_wrong HXw.out (by rw [HM.out]; exact hk) hpre) hne
    · have cn : W.cell? ⟨w3.heap.size, 0, none⟩ = some (.int .i64 (m : Int)) := by rw [hn.cell]; rfl
      have ca : W.cell? ⟨w3.heap.size + 1, 0, none⟩ = some (.int .i64 (tot xs m : Nat)) := by rw [ha.cell]; rfl
      have cx : W.cell? ⟨w.heap.size, 0, none⟩ = some (.slice b m d) := by rw [hxb.cell]; rfl
      have cr : W.cell? ⟨w.heap.size + 1, 0, none⟩ = some (.bool false) := by rw [hrb.cell]; rfl
      have fr : W.frozen? ⟨w.heap.size + 1, 0, none⟩ = false := hrb.frozen 0
      have HK := Lib.hid hK
      have hte : ((tot xs m : Int) == (n3 : Int) - (n : Int)) = true := by
        have h1 := HN3.out
        have h2 := tot_all xs
        rw [HM.out] at h2
        rw [List.length_append, HL.out] at h1
        simp; omega
      have hwD : w.heap.size ≤ D := Nat.le_trans hbel5.size hD
      clear hK hpre
      refine wpIn_wide.2 ?_
      go_wp2
      have hK' := (KeepsOthers.setCell W ⟨w.heap.size + 1, 0, none⟩ (.bool true)).same D _ HK.out rfl
      refine ⟨by simp, .inl ⟨_, _, rfl, run_takeDeferred hK', ?_⟩⟩
      have hc5 := cell_kept (World.cell?_setCell_same' W ⟨w.heap.size + 1, 0, none⟩ (.bool true) (by rw [cr]; rfl)) (grownBy_putObj' _ D (.deferred none)) (fun r e => by cases e; exact ⟨_, hK', rfl⟩)
      refine ⟨.bool true, ?_, rfl, (hB.setCell (p := ⟨w.heap.size + 1, 0, none⟩) (by simp) _).trans (belowK_b (w := w) (Nat.le_refl _) _ D _ _ hwD hK' rfl rfl)⟩
      simp [results, Try.f9, go_sem, hc5]
end Go.Proofs.Ytkgkiplidjoamaa.Pk
