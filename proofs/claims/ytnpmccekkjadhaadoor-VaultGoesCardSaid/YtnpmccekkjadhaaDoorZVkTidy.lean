/- The program's vault: the newer file; begin and tidy. -/
import Derived.Test.YtnpmccekkjadhaaDoorZRun
import Derived.Test.YtnpmccekkjadhaaDoorZGat
namespace Go.Proofs.YtnpmccekkjadhaaDoor.Pk
open Go.RowKit Go.Proofs.YtnpmccekkjadhaaDoor.Crc Go.Proofs.YtnpmccekkjadhaaDoor.Fr Go.Proofs.YtnpmccekkjadhaaDoor.Dk Go.Proofs.YtnpmccekkjadhaaDoor.Vk
set_option linter.unusedVariables false
section
variable {w0 wT wi w' : World} {R Q : Nat} {U T : Nat → Prop} {d d' : DK} {cs : Array Value} {fl : Int} {g cnt : Value} {res : Int × DK} {M m : Nat} {rest : List Ro} {x : Int}
theorem OnV.next (h : OnV w0 R Q U T wT d cs wi) (hb : Below wi.heap.size wi w') : OnV w0 R Q U T wT d cs w' := by
  obtain ⟨S', h1, t, f, ap, hq⟩ := h.ex
  have hs := h.stay
  exact ⟨⟨S', h1.next hb, t.next hb, f, ap, hq⟩, h.blk.below hb h.blk.lt, ⟨Nat.le_trans hs.1 hb.size, fun b hT => (hb.block b (Nat.lt_of_lt_of_le (h.tlt b hT) hs.1)).trans (hs.2 b hT)⟩, h.tlt, h.tq, h.uq⟩
theorem RunV.next (h : RunV w0 R Q U T wT fl g cnt res M m rest x wi) (hb : Below wi.heap.size wi w') : RunV w0 R Q U T wT fl g cnt res M m rest x w' := by
  obtain ⟨d, h1, h2⟩ := h
  exact ⟨d, h1.next hb, h2⟩
/-- A new block is to stay, too. -/
theorem RunV.box (h : RunV w0 R Q U T wT fl g cnt res M m rest x wi) (o : Obj) : RunV w0 R Q U (fun b => T b ∨ b = wi.heap.size) (wi.alloc o) fl g cnt res M m rest x (wi.alloc o) := by
  obtain ⟨d, h1, h2⟩ := h
  have hb : Below wi.heap.size wi (wi.alloc o) := (Below.refl _ wi).alloc (Nat.le_refl _) _
  obtain ⟨S', k1, t, f, ap, hq⟩ := h1.ex
  have hs := h1.stay
  have hQ := h1.blk.lt
  refine ⟨d, ⟨⟨S', k1.next hb, t.next hb, f, fun b hb' hT => ?_, hq⟩, h1.blk.below hb hQ, ⟨Nat.le_refl _, fun _ _ => rfl⟩, fun b hT => ?_, fun hT => ?_, h1.uq⟩, h2⟩
  · rcases hT with hT | rfl
    · exact ap b hb' hT
    · have := k1.lt _ hb'; omega
  · rcases hT with hT | rfl
    · have := h1.tlt b hT; have := hs.1; simp; omega
    · simp
  · rcases hT with hT | hT
    · exact h1.tq hT
    · omega
theorem RunV.unbox {P : Nat → Prop} {w1 : World} (h0 : RunV w0 R Q U T wT fl g cnt res M m rest x w1) {M' m' : Nat} {rest' : List Ro} {x' : Int} (h : RunV w0 R Q U (fun b => T b ∨ P b) w1 fl g cnt res M' m' rest' x' wi) : RunV w0 R Q U T wT fl g cnt res M' m' rest' x' wi := by
  obtain ⟨d, h1, h2⟩ := h
  obtain ⟨d0, k1, _⟩ := h0
  obtain ⟨S', j1, t, f, ap, hq⟩ := h1.ex
  exact ⟨d, ⟨⟨S', j1, t, f, fun b hb hT => ap b hb (.inl hT), hq⟩, h1.blk, ⟨Nat.le_trans k1.stay.1 h1.stay.1, fun b hT => (h1.stay.2 b (.inl hT)).trans (k1.stay.2 b hT)⟩, k1.tlt, k1.tq, h1.uq⟩, h2⟩
theorem reads_stayT {A : Option Addr} {n : Nat} {xs : List Value} (hs : Stay T wT wi) (hr : Reads wT wT.heap.size 1 A n xs) (hT : 0 < n → ∀ ad, A = some ad → T ad.block) : Reads wi wi.heap.size 1 A n xs :=
  ⟨hr.1, fun hn => by
    obtain ⟨ad, e, hb, hc⟩ := hr.2 hn
    exact ⟨ad, e, Nat.lt_of_lt_of_le hb hs.1, fun j u hu => (World.cell?_of_block (by rw [block_of_add]; exact hs.2 _ (hT hn ad e))).trans (hc j u hu)⟩⟩
end
set_option maxRecDepth 100000 in
set_option maxHeartbeats 1600000 in
theorem newer_any (g0 g1 : Nat) (a1 a2 a3 a4 a6 a7 a8 a9 : Value) (w : World) :
    Calls Tryd.prog 43 #[.agg #[.int .u64 (g0 : Int), a1, a2, a3, a4, .int .u64 (g1 : Int), a6, a7, a8, a9]] w fun e w' => e = .returned (.int .i64 (if g0 < g1 then 1 else 0)) ∧ Below w.heap.size w w' := by
  by_cases h : g0 < g1
  · rw [if_pos h]
    go_enter Tryd.func43, Tryd.ntmps43
    go_wp2
    go_ret
    exact ⟨rfl, (Below.refl _ w).alloc (Nat.le_refl _) _⟩
  · rw [if_neg h]
    go_enter Tryd.func43, Tryd.ntmps43
    go_wp2
    go_ret
    exact ⟨rfl, (Below.refl _ w).alloc (Nat.le_refl _) _⟩
set_option maxRecDepth 100000 in
set_option maxHeartbeats 1600000 in
theorem vbegin_any {w0 wT w : World} {R Q : Nat} {U T : Nat → Prop} {fl : Int} {g cnt : Value} {res : Int × DK} {M m : Nat} {x : Int} (A : Option Addr) (n c : Nat) (b : List Int) (l0 l1 : Nat) (hl0 : l0 ≤ 1073741824) (hl1 : l1 ≤ 1073741824) (a0 a1 a2 a4 a5 a6 a7 a9 : Value)
    (h : RunV w0 R Q U T wT fl g cnt res M m ((if l0 = 0 then [] else [.T 0 0]) ++ ([.A 0 b, .S 0] ++ (if l1 = 0 then [] else [.T 1 0]))) x w) (hr : Reads wT wT.heap.size 1 A n (bts b)) (hT : 0 < n → ∀ ad, A = some ad → T ad.block) (hM : M + n ≤ 140737488355328) (hm : m + 4 ≤ 4611686018427387904) :
    Calls Tryd.prog 46 #[.pointer (some ⟨Q, 0, none⟩), .agg #[a0, a1, a2, .int .i64 (l0 : Int), a4, a5, a6, a7, .int .i64 (l1 : Int), a9], .slice A n c] w fun e w' => e = .returned (.tuple #[]) ∧ ∃ x', RunV w0 R Q U T wT fl g cnt res (M + n) (m + 4) [] x' w' := by
  have H := Lib.hid h
  have HRd := Lib.hid hr
  have HT := Lib.hid hT
  clear h hr hT
  go_enter Tryd.func46, Tryd.ntmps46
  obtain ⟨Fb, hFb⟩ : ∃ Fb, Fb = w.heap.size := ⟨_, rfl⟩
  obtain ⟨w1, hw1⟩ : ∃ w1, w1 = w.alloc (.cells #[a0, a1, a2, .int .i64 (l0 : Int), a4, a5, a6, a7, .int .i64 (l1 : Int), a9] 76) := ⟨_, rfl⟩
  have kb : Blk w1 Fb 76 #[a0, a1, a2, .int .i64 (l0 : Int), a4, a5, a6, a7, .int .i64 (l1 : Int), a9] := by rw [hw1, hFb]; exact Blk.new w _ _
  have HK := Lib.hid kb
  have HN : Hid (RunV w0 R Q U T wT fl g cnt res M m ((if l0 = 0 then [] else [.T 0 0]) ++ ([.A 0 b, .S 0] ++ (if l1 = 0 then [] else [.T 1 0]))) x w1) := Lib.hid (by rw [hw1]; exact H.out.next ((Below.refl _ w).alloc (Nat.le_refl _) _))
  have HX := Lib.hid (H.out.box (.cells #[a0, a1, a2, .int .i64 (l0 : Int), a4, a5, a6, a7, .int .i64 (l1 : Int), a9] 76))
  rw [← hw1, ← hFb] at HX
  obtain ⟨T', hT'⟩ : ∃ T' : Nat → Prop, T' = fun b => T b ∨ b = Fb := ⟨_, rfl⟩
  have HTF : Hid (T' Fb) := Lib.hid (by rw [hT']; exact .inr rfl)
  have HTT : Hid (∀ b, T b → T' b) := Lib.hid (fun b hb => by rw [hT']; exact .inl hb)
  have HUn : Hid (∀ V x', RunV w0 R Q U T' w1 fl g cnt res (M + n) (m + 4) [] x' V → ∃ x', RunV w0 R Q U T wT fl g cnt res (M + n) (m + 4) [] x' V) := Lib.hid (fun V x' hV => ⟨x', RunV.unbox HN.out (by rw [hT'] at hV; exact hV)⟩)
  have HR1 : Hid (Reads w1 w1.heap.size 1 A n (bts b)) := Lib.hid (reads_stayT HN.out.stay HRd.out HT.out)
  have HTA : Hid (0 < n → ∀ ad, A = some ad → T' ad.block) := Lib.hid (fun h1 ad e => HTT.out _ (HT.out h1 ad e))
  rw [← hT'] at HX
  have c3 : w1.cell? ⟨Fb, 3, none⟩ = some (.int .i64 (l0 : Int)) := kb.cell 3
  have c8 : w1.cell? ⟨Fb, 8, none⟩ = some (.int .i64 (l1 : Int)) := kb.cell 8
  clear kb hT' H HN HRd HT
  obtain ⟨tl, htl⟩ : ∃ tl : List Ro, tl = (if l1 = 0 then [] else [.T 1 0]) := ⟨_, rfl⟩
  rw [← htl] at HX
  have HTl := Lib.hid htl
  clear htl
  by_cases hz0 : l0 = 0
  case' pos =>
    have HY : Hid (RunV w0 R Q U T' w1 fl g cnt res M (m + 1) (.A 0 b :: .S 0 :: tl) x w1) := Lib.hid (RunV.more (by simpa [hz0] using HX.out) (Nat.le_refl _) (by omega))
    have hp0 : l0 ≤ 0 := by omega
    clear hz0
    go_wp2_with fail
    rw [← hw1, ← hFb]
    clear hw1 hFb
    obtain ⟨wv, hwv⟩ : ∃ e, e = w1 := ⟨_, rfl⟩
    have HYv : Hid (RunV w0 R Q U T' w1 fl g cnt res M (m + 1) (.A 0 b :: .S 0 :: tl) x wv) := Lib.hid (by rw [hwv]; exact HY.out)
    rw [← hwv]
    clear hwv HY
    obtain ⟨xv, hxv⟩ : ∃ e, e = x := ⟨_, rfl⟩
    rw [← hxv] at HYv
    clear hxv
  case' neg =>
    have HY : Hid (RunV w0 R Q U T' w1 fl g cnt res M m (.T 0 0 :: .A 0 b :: .S 0 :: tl) x w1) := Lib.hid (by simpa [hz0] using HX.out)
    have hp0 : 0 < l0 := by omega
    go_wp2_with fail
    rw [← hw1, ← hFb]
    clear hw1 hFb
    refine (vcut_any 0 0 HY.out (by omega) (by omega)).mono ?_
    rintro e wv ⟨rfl, xv, hv⟩
    have HYv := Lib.hid hv
    clear hv
    go_wp2_with fail
  all_goals
    refine (vput_any 0 A n c b HYv.out (reads_stayT HYv.out.stay HR1.out HTA.out) hM (by omega)).mono ?_
    rintro e wu ⟨rfl, xu, hu⟩
    have HU := Lib.hid hu
    have d8 : wu.cell? ⟨Fb, 8, none⟩ = some (.int .i64 (l1 : Int)) := (World.cell?_of_block (a := ⟨Fb, 8, none⟩) (hu.stay.2 Fb HTF.out)).trans c8
    clear hu
    by_cases hz1 : l1 = 0
    · have HE := Lib.hid (HUn.out _ _ (RunV.more (by have h := HU.out; rw [HTl.out, if_pos hz1] at h; exact h) (Nat.le_refl _) (by omega)))
      have hp1 : l1 ≤ 0 := by omega
      clear hz1
      go_wp2
      go_end0
      exact ⟨rfl, HE.out⟩
    · have HZ : Hid (RunV w0 R Q U T' w1 fl g cnt res (M + n) (m + 3) [.T 1 0] xu wu) := Lib.hid (by have h := HU.out; rw [HTl.out, if_neg hz1] at h; exact h)
      have hp1 : 0 < l1 := by omega
      go_wp2_with fail
      refine (vcut_any 1 0 HZ.out hM (by omega)).mono ?_
      rintro e wz ⟨rfl, xz, hz⟩
      have HE := Lib.hid (HUn.out _ _ hz)
      clear hz
      go_wp2
      go_end0
      exact ⟨rfl, HE.out⟩

set_option maxRecDepth 100000 in
set_option maxHeartbeats 3200000 in
theorem vtidy0_any {w0 wT w : World} {R Q : Nat} {U T : Nat → Prop} {g cnt : Value} {res : Int × DK} {M m : Nat} {x : Int} (g0 l0 e0 g1 l1 e1 : Nat) (hl0 : l0 ≤ 1073741824) (hl1 : l1 ≤ 1073741824) (he0 : e0 ≤ 1073741824) (he1 : e1 ≤ 1073741824) (A1 : Option Addr) (n1 c1 : Nat) (A2 : Option Addr) (n2 c2 : Nat) (A6 : Option Addr) (n6 c6 : Nat) (A7 : Option Addr) (n7 c7 : Nat)
    (h : RunV w0 R Q U T wT 0 g cnt res M m ((if l1 = 0 then [] else [.T 1 0]) ++ ((if e0 < l0 then [.T 0 (e0 : Nat)] else []) ++ [.S 0])) x w) (hM : M ≤ 140737488355328) (hm : m + 3 ≤ 4611686018427387904) :
    Calls Tryd.prog 45 #[.pointer (some ⟨Q, 0, none⟩), .agg #[.int .u64 (g0 : Int), .slice A1 n1 c1, .slice A2 n2 c2, .int .i64 (l0 : Int), .int .i64 (e0 : Int), .int .u64 (g1 : Int), .slice A6 n6 c6, .slice A7 n7 c7, .int .i64 (l1 : Int), .int .i64 (e1 : Int)]] w fun e w' => e = .returned (.tuple #[]) ∧ ∃ x', RunV w0 R Q U T wT 0 g cnt res M (m + 3) [] x' w' := by
  have H := Lib.hid h
  clear h
  go_enter Tryd.func45, Tryd.ntmps45
  obtain ⟨Fb, hFb⟩ : ∃ Fb, Fb = w.heap.size := ⟨_, rfl⟩
  obtain ⟨w1, hw1⟩ : ∃ w1, w1 = w.alloc (.cells #[.int .u64 (g0 : Int), .slice A1 n1 c1, .slice A2 n2 c2, .int .i64 (l0 : Int), .int .i64 (e0 : Int), .int .u64 (g1 : Int), .slice A6 n6 c6, .slice A7 n7 c7, .int .i64 (l1 : Int), .int .i64 (e1 : Int)] 76) := ⟨_, rfl⟩
  have kb : Blk w1 Fb 76 #[.int .u64 (g0 : Int), .slice A1 n1 c1, .slice A2 n2 c2, .int .i64 (l0 : Int), .int .i64 (e0 : Int), .int .u64 (g1 : Int), .slice A6 n6 c6, .slice A7 n7 c7, .int .i64 (l1 : Int), .int .i64 (e1 : Int)] := by rw [hw1, hFb]; exact Blk.new w _ _
  have HN : Hid (RunV w0 R Q U T wT 0 g cnt res M m ((if l1 = 0 then [] else [.T 1 0]) ++ ((if e0 < l0 then [.T 0 (e0 : Nat)] else []) ++ [.S 0])) x w1) := Lib.hid (by rw [hw1]; exact H.out.next ((Below.refl _ w).alloc (Nat.le_refl _) _))
  have HX := Lib.hid (H.out.box (.cells #[.int .u64 (g0 : Int), .slice A1 n1 c1, .slice A2 n2 c2, .int .i64 (l0 : Int), .int .i64 (e0 : Int), .int .u64 (g1 : Int), .slice A6 n6 c6, .slice A7 n7 c7, .int .i64 (l1 : Int), .int .i64 (e1 : Int)] 76))
  rw [← hw1, ← hFb] at HX
  obtain ⟨T', hT'⟩ : ∃ T' : Nat → Prop, T' = fun b => T b ∨ b = Fb := ⟨_, rfl⟩
  have HTF : Hid (T' Fb) := Lib.hid (by rw [hT']; exact .inr rfl)
  have HUn : Hid (∀ V x', RunV w0 R Q U T' w1 0 g cnt res M (m + 3) [] x' V → ∃ x', RunV w0 R Q U T wT 0 g cnt res M (m + 3) [] x' V) := Lib.hid (fun V x' hV => ⟨x', RunV.unbox HN.out (by rw [hT'] at hV; exact hV)⟩)
  rw [← hT'] at HX
  have q1 : w.cell? ⟨Q, 1, none⟩ = some (.int .i64 0) := H.out.cells.2.1
  have qlt : Q < w.heap.size := H.out.blk.lt
  have k0 : w1.cell? ⟨Fb, 0, none⟩ = some (.int .u64 (g0 : Int)) := kb.cell 0
  have k1 : w1.cell? ⟨Fb, 1, none⟩ = some (.slice A1 n1 c1) := kb.cell 1
  have k2 : w1.cell? ⟨Fb, 2, none⟩ = some (.slice A2 n2 c2) := kb.cell 2
  have k3 : w1.cell? ⟨Fb, 3, none⟩ = some (.int .i64 (l0 : Int)) := kb.cell 3
  have k4 : w1.cell? ⟨Fb, 4, none⟩ = some (.int .i64 (e0 : Int)) := kb.cell 4
  have k5 : w1.cell? ⟨Fb, 5, none⟩ = some (.int .u64 (g1 : Int)) := kb.cell 5
  have k6 : w1.cell? ⟨Fb, 6, none⟩ = some (.slice A6 n6 c6) := kb.cell 6
  have k7 : w1.cell? ⟨Fb, 7, none⟩ = some (.slice A7 n7 c7) := kb.cell 7
  have k8 : w1.cell? ⟨Fb, 8, none⟩ = some (.int .i64 (l1 : Int)) := kb.cell 8
  have k9 : w1.cell? ⟨Fb, 9, none⟩ = some (.int .i64 (e1 : Int)) := kb.cell 9
  have HK := Lib.hid kb
  clear kb hT' H HN
  obtain ⟨tl, htl⟩ : ∃ tl : List Ro, tl = (if e0 < l0 then [.T 0 (e0 : Nat)] else []) ++ [.S 0] := ⟨_, rfl⟩
  rw [← htl] at HX
  have HTl := Lib.hid htl
  clear htl
  by_cases hz0 : l1 = 0
  case' pos =>
    have HYv : Hid (RunV w0 R Q U T' w1 0 g cnt res M (m + 1) tl x w1) := Lib.hid (RunV.more (by simpa [hz0] using HX.out) (Nat.le_refl _) (by omega))
    have hp0 : l1 ≤ 0 := by omega
    obtain ⟨Gb, hGb⟩ : ∃ Gb, Gb = w1.heap.size := ⟨_, rfl⟩
    have hGw : w.heap.size + 1 = Gb := by rw [hGb, hw1]; simp
    obtain ⟨W2, hW2⟩ : ∃ W2, W2 = w1.alloc (.cells #[.int .u64 (g0 : Int), .slice A1 n1 c1, .slice A2 n2 c2, .int .i64 (l0 : Int), .int .i64 (e0 : Int)] 75) := ⟨_, rfl⟩
    have HB := Lib.hid (HYv.out.box (.cells #[.int .u64 (g0 : Int), .slice A1 n1 c1, .slice A2 n2 c2, .int .i64 (l0 : Int), .int .i64 (e0 : Int)] 75))
    have kG : Blk W2 Gb 75 #[.int .u64 (g0 : Int), .slice A1 n1 c1, .slice A2 n2 c2, .int .i64 (l0 : Int), .int .i64 (e0 : Int)] := by rw [hW2, hGb]; exact Blk.new w1 _ _
    rw [← hW2, ← hGb] at HB
    have EW1 := Lib.hid hw1
    have EGw := Lib.hid hGw
    have EW2 := Lib.hid hW2
    have EFb := Lib.hid hFb
    clear hz0
    obtain ⟨T3, hT3⟩ : ∃ T3 : Nat → Prop, T3 = fun b => T' b ∨ b = Gb := ⟨_, rfl⟩
    have HTG : Hid (T3 Gb) := Lib.hid (by rw [hT3]; exact .inr rfl)
    have y1 : W2.cell? ⟨Q, 1, none⟩ = some (.int .i64 0) := HB.out.cells.2.1
    have y4 : W2.cell? ⟨Gb, 4, none⟩ = some (.int .i64 (e0 : Int)) := kG.cell 4
    have HUn3 : Hid (∀ V x', RunV w0 R Q U T3 W2 0 g cnt res M (m + 3) [] x' V → ∃ x', RunV w0 R Q U T wT 0 g cnt res M (m + 3) [] x' V) := Lib.hid (fun V x' hV => by
      have h1 := HYv.out.next (w' := W2) (by rw [hW2]; exact (Below.refl _ _).alloc (Nat.le_refl _) _)
      exact HUn.out V x' (RunV.unbox h1 (by rw [hT3] at hV; exact hV)))
    rw [← hT3, HTl.out] at HB
    clear kG hT3 hw1 hGw hW2 hFb hGb
    by_cases he : e0 < l0
    · rw [if_pos he] at HB
      have HB2 : Hid (RunV w0 R Q U T3 W2 0 g cnt res M (m + 1) (.T 0 (e0 : Nat) :: [.S 0]) x W2) := Lib.hid HB.out
      have HCt := Lib.hid (fun q => vcut_any 0 (e0 : Nat) (HB2.out.next (below_drewN (Below.refl _ W2) q)) hM (by omega))
      go_wp2_with fail
      rw [← EW1.out, EGw.out, ← EW2.out]
      go_region_held3 (fun w' => w'.cell? ⟨Q, 1, none⟩ = some (.int .i64 0) ∧ w'.cell? ⟨Gb, 4, none⟩ = some (.int .i64 (e0 : Int))) (first | exact ⟨y1, y4⟩ | exact ⟨Z0, Z1⟩ | go_keep) (first
        | (go_at_call 38; go_must (refine (HCt.out 1).mono ?_; rintro e wz ⟨rfl, xz, hz⟩; have Z0 : wz.cell? ⟨Q, 1, none⟩ = some (.int .i64 0) := hz.cells.2.1; have Z1 : wz.cell? ⟨Gb, 4, none⟩ = some (.int .i64 (e0 : Int)) := (World.cell?_of_block (a := ⟨Gb, 4, none⟩) (hz.stay.2 Gb HTG.out)).trans y4; have HZz := Lib.hid hz; clear hz)))
      all_goals
        go_wp2_with fail
        refine (vsync_any 0 HZz.out hM (by omega)).mono ?_
        rintro e wy ⟨rfl, xy, hy⟩
        have HE := Lib.hid (HUn3.out _ _ hy)
        clear hy
        go_wp2
        go_end0
        exact ⟨rfl, HE.out⟩
    · rw [if_neg he, List.nil_append] at HB
      have he' : l0 ≤ e0 := by omega
      clear he
      go_wp2_with fail
      rw [← EW1.out, EGw.out, ← EW2.out]
      refine (vsync_any 0 HB.out hM (by omega)).mono ?_
      rintro e wy ⟨rfl, xy, hy⟩
      have HE := Lib.hid (HUn3.out _ _ (hy.more (Nat.le_refl _) (by omega)))
      clear hy
      go_wp2
      go_end0
      exact ⟨rfl, HE.out⟩
  case' neg =>
    have HY : Hid (RunV w0 R Q U T' w1 0 g cnt res M m (.T 1 0 :: tl) x w1) := Lib.hid (by simpa [hz0] using HX.out)
    have hp0 : 0 < l1 := by omega
    go_wp2_with fail
    rw [← hw1, ← hFb]
    refine (vcut_any 1 0 HY.out (by omega) (by omega)).mono ?_
    rintro e wv ⟨rfl, xv, hv⟩
    have HYv := Lib.hid hv
    have kV : Blk wv Fb 76 #[.int .u64 (g0 : Int), .slice A1 n1 c1, .slice A2 n2 c2, .int .i64 (l0 : Int), .int .i64 (e0 : Int), .int .u64 (g1 : Int), .slice A6 n6 c6, .slice A7 n7 c7, .int .i64 (l1 : Int), .int .i64 (e1 : Int)] := (hv.stay.2 Fb HTF.out).trans HK.out
    have v1 : wv.cell? ⟨Q, 1, none⟩ = some (.int .i64 0) := hv.cells.2.1
    have qlv : Q < wv.heap.size := hv.blk.lt
    have m0 : wv.cell? ⟨Fb, 0, none⟩ = some (.int .u64 (g0 : Int)) := kV.cell 0
    have m1 : wv.cell? ⟨Fb, 1, none⟩ = some (.slice A1 n1 c1) := kV.cell 1
    have m2 : wv.cell? ⟨Fb, 2, none⟩ = some (.slice A2 n2 c2) := kV.cell 2
    have m3 : wv.cell? ⟨Fb, 3, none⟩ = some (.int .i64 (l0 : Int)) := kV.cell 3
    have m4 : wv.cell? ⟨Fb, 4, none⟩ = some (.int .i64 (e0 : Int)) := kV.cell 4
    have m5 : wv.cell? ⟨Fb, 5, none⟩ = some (.int .u64 (g1 : Int)) := kV.cell 5
    have m6 : wv.cell? ⟨Fb, 6, none⟩ = some (.slice A6 n6 c6) := kV.cell 6
    have m7 : wv.cell? ⟨Fb, 7, none⟩ = some (.slice A7 n7 c7) := kV.cell 7
    have m8 : wv.cell? ⟨Fb, 8, none⟩ = some (.int .i64 (l1 : Int)) := kV.cell 8
    have m9 : wv.cell? ⟨Fb, 9, none⟩ = some (.int .i64 (e1 : Int)) := kV.cell 9
    obtain ⟨Gb, hGb⟩ : ∃ Gb, Gb = wv.heap.size := ⟨_, rfl⟩
    obtain ⟨W2, hW2⟩ : ∃ W2, W2 = wv.alloc (.cells #[.int .u64 (g0 : Int), .slice A1 n1 c1, .slice A2 n2 c2, .int .i64 (l0 : Int), .int .i64 (e0 : Int)] 75) := ⟨_, rfl⟩
    have HB := Lib.hid (HYv.out.box (.cells #[.int .u64 (g0 : Int), .slice A1 n1 c1, .slice A2 n2 c2, .int .i64 (l0 : Int), .int .i64 (e0 : Int)] 75))
    have kG : Blk W2 Gb 75 #[.int .u64 (g0 : Int), .slice A1 n1 c1, .slice A2 n2 c2, .int .i64 (l0 : Int), .int .i64 (e0 : Int)] := by rw [hW2, hGb]; exact Blk.new wv _ _
    rw [← hW2, ← hGb] at HB
    have EGb := Lib.hid hGb
    have EW2 := Lib.hid hW2
    clear hv kV hw1 hFb
    obtain ⟨T3, hT3⟩ : ∃ T3 : Nat → Prop, T3 = fun b => T' b ∨ b = Gb := ⟨_, rfl⟩
    have HTG : Hid (T3 Gb) := Lib.hid (by rw [hT3]; exact .inr rfl)
    have y1 : W2.cell? ⟨Q, 1, none⟩ = some (.int .i64 0) := HB.out.cells.2.1
    have y4 : W2.cell? ⟨Gb, 4, none⟩ = some (.int .i64 (e0 : Int)) := kG.cell 4
    have HUn3 : Hid (∀ V x', RunV w0 R Q U T3 W2 0 g cnt res M (m + 3) [] x' V → ∃ x', RunV w0 R Q U T wT 0 g cnt res M (m + 3) [] x' V) := Lib.hid (fun V x' hV => by
      have h1 := HYv.out.next (w' := W2) (by rw [hW2]; exact (Below.refl _ _).alloc (Nat.le_refl _) _)
      exact HUn.out V x' (RunV.unbox h1 (by rw [hT3] at hV; exact hV)))
    rw [← hT3, HTl.out] at HB
    clear kG hT3 hGb hW2
    by_cases he : e0 < l0
    · rw [if_pos he] at HB
      have HB2 : Hid (RunV w0 R Q U T3 W2 0 g cnt res M (m + 1) (.T 0 (e0 : Nat) :: [.S 0]) xv W2) := Lib.hid HB.out
      have HCt := Lib.hid (fun q => vcut_any 0 (e0 : Nat) (HB2.out.next (below_drewN (Below.refl _ W2) q)) hM (by omega))
      go_wp2_with fail
      rw [← EGb.out, ← EW2.out]
      go_region_held3 (fun w' => w'.cell? ⟨Q, 1, none⟩ = some (.int .i64 0) ∧ w'.cell? ⟨Gb, 4, none⟩ = some (.int .i64 (e0 : Int))) (first | exact ⟨y1, y4⟩ | exact ⟨Z0, Z1⟩ | go_keep) (first
        | (go_at_call 38; go_must (refine (HCt.out 1).mono ?_; rintro e wz ⟨rfl, xz, hz⟩; have Z0 : wz.cell? ⟨Q, 1, none⟩ = some (.int .i64 0) := hz.cells.2.1; have Z1 : wz.cell? ⟨Gb, 4, none⟩ = some (.int .i64 (e0 : Int)) := (World.cell?_of_block (a := ⟨Gb, 4, none⟩) (hz.stay.2 Gb HTG.out)).trans y4; have HZz := Lib.hid hz; clear hz)))
      all_goals
        go_wp2_with fail
        refine (vsync_any 0 HZz.out hM (by omega)).mono ?_
        rintro e wy ⟨rfl, xy, hy⟩
        have HE := Lib.hid (HUn3.out _ _ hy)
        clear hy
        go_wp2
        go_end0
        exact ⟨rfl, HE.out⟩
    · rw [if_neg he, List.nil_append] at HB
      have he' : l0 ≤ e0 := by omega
      clear he
      go_wp2_with fail
      rw [← EGb.out, ← EW2.out]
      refine (vsync_any 0 HB.out hM (by omega)).mono ?_
      rintro e wy ⟨rfl, xy, hy⟩
      have HE := Lib.hid (HUn3.out _ _ (hy.more (Nat.le_refl _) (by omega)))
      clear hy
      go_wp2
      go_end0
      exact ⟨rfl, HE.out⟩

set_option maxRecDepth 100000 in
set_option maxHeartbeats 3200000 in
theorem vtidy1_any {w0 wT w : World} {R Q : Nat} {U T : Nat → Prop} {g cnt : Value} {res : Int × DK} {M m : Nat} {x : Int} (g0 l0 e0 g1 l1 e1 : Nat) (hl0 : l0 ≤ 1073741824) (hl1 : l1 ≤ 1073741824) (he0 : e0 ≤ 1073741824) (he1 : e1 ≤ 1073741824) (A1 : Option Addr) (n1 c1 : Nat) (A2 : Option Addr) (n2 c2 : Nat) (A6 : Option Addr) (n6 c6 : Nat) (A7 : Option Addr) (n7 c7 : Nat)
    (h : RunV w0 R Q U T wT 1 g cnt res M m ((if l0 = 0 then [] else [.T 0 0]) ++ ((if e1 < l1 then [.T 1 (e1 : Nat)] else []) ++ [.S 1])) x w) (hM : M ≤ 140737488355328) (hm : m + 3 ≤ 4611686018427387904) :
    Calls Tryd.prog 45 #[.pointer (some ⟨Q, 0, none⟩), .agg #[.int .u64 (g0 : Int), .slice A1 n1 c1, .slice A2 n2 c2, .int .i64 (l0 : Int), .int .i64 (e0 : Int), .int .u64 (g1 : Int), .slice A6 n6 c6, .slice A7 n7 c7, .int .i64 (l1 : Int), .int .i64 (e1 : Int)]] w fun e w' => e = .returned (.tuple #[]) ∧ ∃ x', RunV w0 R Q U T wT 1 g cnt res M (m + 3) [] x' w' := by
  have H := Lib.hid h
  clear h
  go_enter Tryd.func45, Tryd.ntmps45
  obtain ⟨Fb, hFb⟩ : ∃ Fb, Fb = w.heap.size := ⟨_, rfl⟩
  obtain ⟨w1, hw1⟩ : ∃ w1, w1 = w.alloc (.cells #[.int .u64 (g0 : Int), .slice A1 n1 c1, .slice A2 n2 c2, .int .i64 (l0 : Int), .int .i64 (e0 : Int), .int .u64 (g1 : Int), .slice A6 n6 c6, .slice A7 n7 c7, .int .i64 (l1 : Int), .int .i64 (e1 : Int)] 76) := ⟨_, rfl⟩
  have kb : Blk w1 Fb 76 #[.int .u64 (g0 : Int), .slice A1 n1 c1, .slice A2 n2 c2, .int .i64 (l0 : Int), .int .i64 (e0 : Int), .int .u64 (g1 : Int), .slice A6 n6 c6, .slice A7 n7 c7, .int .i64 (l1 : Int), .int .i64 (e1 : Int)] := by rw [hw1, hFb]; exact Blk.new w _ _
  have HN : Hid (RunV w0 R Q U T wT 1 g cnt res M m ((if l0 = 0 then [] else [.T 0 0]) ++ ((if e1 < l1 then [.T 1 (e1 : Nat)] else []) ++ [.S 1])) x w1) := Lib.hid (by rw [hw1]; exact H.out.next ((Below.refl _ w).alloc (Nat.le_refl _) _))
  have HX := Lib.hid (H.out.box (.cells #[.int .u64 (g0 : Int), .slice A1 n1 c1, .slice A2 n2 c2, .int .i64 (l0 : Int), .int .i64 (e0 : Int), .int .u64 (g1 : Int), .slice A6 n6 c6, .slice A7 n7 c7, .int .i64 (l1 : Int), .int .i64 (e1 : Int)] 76))
  rw [← hw1, ← hFb] at HX
  obtain ⟨T', hT'⟩ : ∃ T' : Nat → Prop, T' = fun b => T b ∨ b = Fb := ⟨_, rfl⟩
  have HTF : Hid (T' Fb) := Lib.hid (by rw [hT']; exact .inr rfl)
  have HUn : Hid (∀ V x', RunV w0 R Q U T' w1 1 g cnt res M (m + 3) [] x' V → ∃ x', RunV w0 R Q U T wT 1 g cnt res M (m + 3) [] x' V) := Lib.hid (fun V x' hV => ⟨x', RunV.unbox HN.out (by rw [hT'] at hV; exact hV)⟩)
  rw [← hT'] at HX
  have q1 : w.cell? ⟨Q, 1, none⟩ = some (.int .i64 1) := H.out.cells.2.1
  have qlt : Q < w.heap.size := H.out.blk.lt
  have k0 : w1.cell? ⟨Fb, 0, none⟩ = some (.int .u64 (g0 : Int)) := kb.cell 0
  have k1 : w1.cell? ⟨Fb, 1, none⟩ = some (.slice A1 n1 c1) := kb.cell 1
  have k2 : w1.cell? ⟨Fb, 2, none⟩ = some (.slice A2 n2 c2) := kb.cell 2
  have k3 : w1.cell? ⟨Fb, 3, none⟩ = some (.int .i64 (l0 : Int)) := kb.cell 3
  have k4 : w1.cell? ⟨Fb, 4, none⟩ = some (.int .i64 (e0 : Int)) := kb.cell 4
  have k5 : w1.cell? ⟨Fb, 5, none⟩ = some (.int .u64 (g1 : Int)) := kb.cell 5
  have k6 : w1.cell? ⟨Fb, 6, none⟩ = some (.slice A6 n6 c6) := kb.cell 6
  have k7 : w1.cell? ⟨Fb, 7, none⟩ = some (.slice A7 n7 c7) := kb.cell 7
  have k8 : w1.cell? ⟨Fb, 8, none⟩ = some (.int .i64 (l1 : Int)) := kb.cell 8
  have k9 : w1.cell? ⟨Fb, 9, none⟩ = some (.int .i64 (e1 : Int)) := kb.cell 9
  have HK := Lib.hid kb
  clear kb hT' H HN
  obtain ⟨tl, htl⟩ : ∃ tl : List Ro, tl = (if e1 < l1 then [.T 1 (e1 : Nat)] else []) ++ [.S 1] := ⟨_, rfl⟩
  rw [← htl] at HX
  have HTl := Lib.hid htl
  clear htl
  by_cases hz0 : l0 = 0
  case' pos =>
    have HYv : Hid (RunV w0 R Q U T' w1 1 g cnt res M (m + 1) tl x w1) := Lib.hid (RunV.more (by simpa [hz0] using HX.out) (Nat.le_refl _) (by omega))
    have hp0 : l0 ≤ 0 := by omega
    obtain ⟨Gb, hGb⟩ : ∃ Gb, Gb = w1.heap.size := ⟨_, rfl⟩
    have hGw : w.heap.size + 1 = Gb := by rw [hGb, hw1]; simp
    obtain ⟨W2, hW2⟩ : ∃ W2, W2 = w1.alloc (.cells #[.int .u64 (g1 : Int), .slice A6 n6 c6, .slice A7 n7 c7, .int .i64 (l1 : Int), .int .i64 (e1 : Int)] 75) := ⟨_, rfl⟩
    have HB := Lib.hid (HYv.out.box (.cells #[.int .u64 (g1 : Int), .slice A6 n6 c6, .slice A7 n7 c7, .int .i64 (l1 : Int), .int .i64 (e1 : Int)] 75))
    have kG : Blk W2 Gb 75 #[.int .u64 (g1 : Int), .slice A6 n6 c6, .slice A7 n7 c7, .int .i64 (l1 : Int), .int .i64 (e1 : Int)] := by rw [hW2, hGb]; exact Blk.new w1 _ _
    rw [← hW2, ← hGb] at HB
    have EW1 := Lib.hid hw1
    have EGw := Lib.hid hGw
    have EW2 := Lib.hid hW2
    have EFb := Lib.hid hFb
    clear hz0
    obtain ⟨T3, hT3⟩ : ∃ T3 : Nat → Prop, T3 = fun b => T' b ∨ b = Gb := ⟨_, rfl⟩
    have HTG : Hid (T3 Gb) := Lib.hid (by rw [hT3]; exact .inr rfl)
    have y1 : W2.cell? ⟨Q, 1, none⟩ = some (.int .i64 1) := HB.out.cells.2.1
    have y4 : W2.cell? ⟨Gb, 4, none⟩ = some (.int .i64 (e1 : Int)) := kG.cell 4
    have HUn3 : Hid (∀ V x', RunV w0 R Q U T3 W2 1 g cnt res M (m + 3) [] x' V → ∃ x', RunV w0 R Q U T wT 1 g cnt res M (m + 3) [] x' V) := Lib.hid (fun V x' hV => by
      have h1 := HYv.out.next (w' := W2) (by rw [hW2]; exact (Below.refl _ _).alloc (Nat.le_refl _) _)
      exact HUn.out V x' (RunV.unbox h1 (by rw [hT3] at hV; exact hV)))
    rw [← hT3, HTl.out] at HB
    clear kG hT3 hw1 hGw hW2 hFb hGb
    by_cases he : e1 < l1
    · rw [if_pos he] at HB
      have HB2 : Hid (RunV w0 R Q U T3 W2 1 g cnt res M (m + 1) (.T 1 (e1 : Nat) :: [.S 1]) x W2) := Lib.hid HB.out
      have HCt := Lib.hid (fun q => vcut_any 1 (e1 : Nat) (HB2.out.next (below_drewN (Below.refl _ W2) q)) hM (by omega))
      go_wp2_with fail
      rw [← EW1.out, EGw.out, ← EW2.out]
      go_region_held3 (fun w' => w'.cell? ⟨Q, 1, none⟩ = some (.int .i64 1) ∧ w'.cell? ⟨Gb, 4, none⟩ = some (.int .i64 (e1 : Int))) (first | exact ⟨y1, y4⟩ | exact ⟨Z0, Z1⟩ | go_keep) (first
        | (go_at_call 38; go_must (refine (HCt.out 1).mono ?_; rintro e wz ⟨rfl, xz, hz⟩; have Z0 : wz.cell? ⟨Q, 1, none⟩ = some (.int .i64 1) := hz.cells.2.1; have Z1 : wz.cell? ⟨Gb, 4, none⟩ = some (.int .i64 (e1 : Int)) := (World.cell?_of_block (a := ⟨Gb, 4, none⟩) (hz.stay.2 Gb HTG.out)).trans y4; have HZz := Lib.hid hz; clear hz)))
      all_goals
        go_wp2_with fail
        refine (vsync_any 1 HZz.out hM (by omega)).mono ?_
        rintro e wy ⟨rfl, xy, hy⟩
        have HE := Lib.hid (HUn3.out _ _ hy)
        clear hy
        go_wp2
        go_end0
        exact ⟨rfl, HE.out⟩
    · rw [if_neg he, List.nil_append] at HB
      have he' : l1 ≤ e1 := by omega
      clear he
      go_wp2_with fail
      rw [← EW1.out, EGw.out, ← EW2.out]
      refine (vsync_any 1 HB.out hM (by omega)).mono ?_
      rintro e wy ⟨rfl, xy, hy⟩
      have HE := Lib.hid (HUn3.out _ _ (hy.more (Nat.le_refl _) (by omega)))
      clear hy
      go_wp2
      go_end0
      exact ⟨rfl, HE.out⟩
  case' neg =>
    have HY : Hid (RunV w0 R Q U T' w1 1 g cnt res M m (.T 0 0 :: tl) x w1) := Lib.hid (by simpa [hz0] using HX.out)
    have hp0 : 0 < l0 := by omega
    go_wp2_with fail
    rw [← hw1, ← hFb]
    refine (vcut_any 0 0 HY.out (by omega) (by omega)).mono ?_
    rintro e wv ⟨rfl, xv, hv⟩
    have HYv := Lib.hid hv
    have kV : Blk wv Fb 76 #[.int .u64 (g0 : Int), .slice A1 n1 c1, .slice A2 n2 c2, .int .i64 (l0 : Int), .int .i64 (e0 : Int), .int .u64 (g1 : Int), .slice A6 n6 c6, .slice A7 n7 c7, .int .i64 (l1 : Int), .int .i64 (e1 : Int)] := (hv.stay.2 Fb HTF.out).trans HK.out
    have v1 : wv.cell? ⟨Q, 1, none⟩ = some (.int .i64 1) := hv.cells.2.1
    have qlv : Q < wv.heap.size := hv.blk.lt
    have m0 : wv.cell? ⟨Fb, 0, none⟩ = some (.int .u64 (g0 : Int)) := kV.cell 0
    have m1 : wv.cell? ⟨Fb, 1, none⟩ = some (.slice A1 n1 c1) := kV.cell 1
    have m2 : wv.cell? ⟨Fb, 2, none⟩ = some (.slice A2 n2 c2) := kV.cell 2
    have m3 : wv.cell? ⟨Fb, 3, none⟩ = some (.int .i64 (l0 : Int)) := kV.cell 3
    have m4 : wv.cell? ⟨Fb, 4, none⟩ = some (.int .i64 (e0 : Int)) := kV.cell 4
    have m5 : wv.cell? ⟨Fb, 5, none⟩ = some (.int .u64 (g1 : Int)) := kV.cell 5
    have m6 : wv.cell? ⟨Fb, 6, none⟩ = some (.slice A6 n6 c6) := kV.cell 6
    have m7 : wv.cell? ⟨Fb, 7, none⟩ = some (.slice A7 n7 c7) := kV.cell 7
    have m8 : wv.cell? ⟨Fb, 8, none⟩ = some (.int .i64 (l1 : Int)) := kV.cell 8
    have m9 : wv.cell? ⟨Fb, 9, none⟩ = some (.int .i64 (e1 : Int)) := kV.cell 9
    obtain ⟨Gb, hGb⟩ : ∃ Gb, Gb = wv.heap.size := ⟨_, rfl⟩
    obtain ⟨W2, hW2⟩ : ∃ W2, W2 = wv.alloc (.cells #[.int .u64 (g1 : Int), .slice A6 n6 c6, .slice A7 n7 c7, .int .i64 (l1 : Int), .int .i64 (e1 : Int)] 75) := ⟨_, rfl⟩
    have HB := Lib.hid (HYv.out.box (.cells #[.int .u64 (g1 : Int), .slice A6 n6 c6, .slice A7 n7 c7, .int .i64 (l1 : Int), .int .i64 (e1 : Int)] 75))
    have kG : Blk W2 Gb 75 #[.int .u64 (g1 : Int), .slice A6 n6 c6, .slice A7 n7 c7, .int .i64 (l1 : Int), .int .i64 (e1 : Int)] := by rw [hW2, hGb]; exact Blk.new wv _ _
    rw [← hW2, ← hGb] at HB
    have EGb := Lib.hid hGb
    have EW2 := Lib.hid hW2
    clear hv kV hw1 hFb
    obtain ⟨T3, hT3⟩ : ∃ T3 : Nat → Prop, T3 = fun b => T' b ∨ b = Gb := ⟨_, rfl⟩
    have HTG : Hid (T3 Gb) := Lib.hid (by rw [hT3]; exact .inr rfl)
    have y1 : W2.cell? ⟨Q, 1, none⟩ = some (.int .i64 1) := HB.out.cells.2.1
    have y4 : W2.cell? ⟨Gb, 4, none⟩ = some (.int .i64 (e1 : Int)) := kG.cell 4
    have HUn3 : Hid (∀ V x', RunV w0 R Q U T3 W2 1 g cnt res M (m + 3) [] x' V → ∃ x', RunV w0 R Q U T wT 1 g cnt res M (m + 3) [] x' V) := Lib.hid (fun V x' hV => by
      have h1 := HYv.out.next (w' := W2) (by rw [hW2]; exact (Below.refl _ _).alloc (Nat.le_refl _) _)
      exact HUn.out V x' (RunV.unbox h1 (by rw [hT3] at hV; exact hV)))
    rw [← hT3, HTl.out] at HB
    clear kG hT3 hGb hW2
    by_cases he : e1 < l1
    · rw [if_pos he] at HB
      have HB2 : Hid (RunV w0 R Q U T3 W2 1 g cnt res M (m + 1) (.T 1 (e1 : Nat) :: [.S 1]) xv W2) := Lib.hid HB.out
      have HCt := Lib.hid (fun q => vcut_any 1 (e1 : Nat) (HB2.out.next (below_drewN (Below.refl _ W2) q)) hM (by omega))
      go_wp2_with fail
      rw [← EGb.out, ← EW2.out]
      go_region_held3 (fun w' => w'.cell? ⟨Q, 1, none⟩ = some (.int .i64 1) ∧ w'.cell? ⟨Gb, 4, none⟩ = some (.int .i64 (e1 : Int))) (first | exact ⟨y1, y4⟩ | exact ⟨Z0, Z1⟩ | go_keep) (first
        | (go_at_call 38; go_must (refine (HCt.out 1).mono ?_; rintro e wz ⟨rfl, xz, hz⟩; have Z0 : wz.cell? ⟨Q, 1, none⟩ = some (.int .i64 1) := hz.cells.2.1; have Z1 : wz.cell? ⟨Gb, 4, none⟩ = some (.int .i64 (e1 : Int)) := (World.cell?_of_block (a := ⟨Gb, 4, none⟩) (hz.stay.2 Gb HTG.out)).trans y4; have HZz := Lib.hid hz; clear hz)))
      all_goals
        go_wp2_with fail
        refine (vsync_any 1 HZz.out hM (by omega)).mono ?_
        rintro e wy ⟨rfl, xy, hy⟩
        have HE := Lib.hid (HUn3.out _ _ hy)
        clear hy
        go_wp2
        go_end0
        exact ⟨rfl, HE.out⟩
    · rw [if_neg he, List.nil_append] at HB
      have he' : l1 ≤ e1 := by omega
      clear he
      go_wp2_with fail
      rw [← EGb.out, ← EW2.out]
      refine (vsync_any 1 HB.out hM (by omega)).mono ?_
      rintro e wy ⟨rfl, xy, hy⟩
      have HE := Lib.hid (HUn3.out _ _ (hy.more (Nat.le_refl _) (by omega)))
      clear hy
      go_wp2
      go_end0
      exact ⟨rfl, HE.out⟩
end Go.Proofs.YtnpmccekkjadhaaDoor.Pk
