/- The walk of the law HalfDelivers. -/
import Derived.Test.YtneijohbmphheaaHfWakes
import Derived.Test.YtneijohbmphheaaHfMoves
import Derived.Test.YtneijohbmphheaaHfKeep
import Derived.Test.YtneijohbmphheaaCrOwn
import Derived.Test.YtneijohbmphheaaHdMem
import Derived.Test.YtneijohbmphheaaHfSeqW
import Derived.Test.YtneijohbmphheaaRegLast
import Derived.Test.YtneijohbmphheaaRangeO2
import Derived.Test.YtneijohbmphheaaRegRound
import Derived.Test.YtneijohbmphheaaRangeA
import Derived.Test.YtneijohbmphheaaWiEq
import Derived.Deep.RegionHeld3
import Derived.Deep.QuietTactic
import Derived.BigQuiet
namespace Go.Proofs.Ytneijohbmphheaa.Pk
open Go.RowKit Go.Shelf Go.Proofs.Ytneijohbmphheaa.Ar
set_option linter.unusedVariables false
attribute [local go_sem] Oper.semAt_some encH
theorem hddD (k : Nat) : Fence.wide.depth.isSome = true → 1 ≤ k := fun h => by cases h
/-- What holds between the moves. -/
structure DvM (w : World) (xr xf xt xp xu : Nat) (P : List Mg) (fb ts : Nat) (U : List Cr) (Af : Option Addr) (nf cf : Nat) (At : Option Addr) (nt ct : Nat) (Ap : Option Addr) (np cp : Nat) (Ac : Option Addr) (nc cc : Nat) (Au : Option Addr) (nu cu : Nat) (ds : List Deferred) (V : World) : Prop where
  dv : Dv P fb ts U
  x : DvX w xr xf xt xp xu (fb : Int) (ts : Int) (P.drop fb) [] P (P.take ts) U (.slice Af nf cf) (.slice At nt ct) (.slice Ap np cp) (.slice Ac nc cc) (.slice Au nu cu) ds V
theorem cutK {P : Program} {c d : Code} {Q : Exit → Act → World → Prop} {K J : Act → World → Prop} {G : Prop} (hK : ∀ a w, Code.wp P (c.seq d) Q a w → K a w) (tail : ∀ a w, J a w → Code.wp P d Q a w) (main : (∀ a w, Code.wp P c (Exit.then J Q) a w → K a w) → G) : G :=
  main fun a w h => hK a w (wp_seq (wp_mono h fun e a' w' hq => by cases e <;> first | exact tail _ _ hq | exact hq))
set_option maxRecDepth 100000 in
set_option maxHeartbeats 16000000 in
theorem law_HalfDelivers (HG : GoodH) (HP : PushH) (HF : FitsH) (HH : HeardH) (HT : TookH) (HLe : LeftW) (A : Option Addr) (n c : Nat) (l : List Mv) (w : World) (hk : ArgM w A n c l) :
    Calls Try.prog 6 #[.slice A n c] w fun e w' => e = .returned (.bool true) ∧ Below w.heap.size w w' := by
  have HW := Lib.hid (fun w => wakes_any HP HF HH w)
  have HRd := Lib.hid hk.1
  have HMi := Lib.hid hk.2.2.2
  have HL := Lib.hid hk.1.vlen
  clear hk
  have HG := Lib.hid HG
  have HP := Lib.hid HP
  have HF := Lib.hid HF
  have HH := Lib.hid HH
  have HT := Lib.hid HT
  have HLe := Lib.hid HLe
  refine (callsIn_wide (n := 9)).1 ?_
  refine callsIn_of_wp_marks Try.func6 rfl trivial ?_ rfl
  simp only [Try.ntmps6, List.size_toArray, List.length_cons, List.length_nil, Nat.reduceAdd, Nat.reduceSub, Array.replicate_succ, Array.replicate_zero, List.push_toArray, List.append_toArray, List.nil_append, List.cons_append]
  refine wpIn_wide.2 ?_
  obtain ⟨xr, hxr⟩ : ∃ x, x = w.heap.size := ⟨_, rfl⟩
  obtain ⟨w0, hw0⟩ : ∃ v, v = w.alloc (.cells #[.bool false] 4) := ⟨_, rfl⟩
  have HB0 : Hid (Below w.heap.size w w0) := Lib.hid (hw0 ▸ (Below.refl _ _).alloc (Nat.le_refl _) _)
  have HXxr_0 : Hid (Blk w0 xr 4 #[.bool false]) := Lib.hid (by rw [hw0, hxr]; exact Blk.new w _ _)
  have HXr : Hid (xr = w.heap.size) := Lib.hid hxr
  go_wp2_with fail
  rw [← hw0, ← hxr]
  clear hw0 hxr
  refine (HW.out w0).mono ?_
  rintro e w1 ⟨rfl, hb⟩
  have HB1 := Lib.hid (HB0.out.trans (hb.mono HB0.out.size))
  have HXxr_1 := Lib.hid (HXxr_0.out.below hb HXxr_0.out.lt)
  clear hb
  have cr : w1.cell? ⟨xr, 0, none⟩ = some (.bool false) := HXxr_1.out.cell 0
  have fr : w1.frozen? ⟨xr, 0, none⟩ = false := HXxr_1.out.frozen 0
  have lr : xr < w1.heap.size := HXxr_1.out.lt
  by_cases h512 : 512 < n
  case pos =>
    have t1 : (512 : Int) < (n : Int) := by omega
    go_wp2
    have k9 : OnlyS (fun b => b = xr) w1 (w1.setCell ⟨xr, 0, none⟩ (.bool true)) := OnlyS.set (S := fun b => b = xr) (OnlyS.refl (fun b => b = xr) w1) (x := xr) rfl (.bool true)
    have hk9 := blk_put HXxr_1.out (.bool true)
    have hB10 := OnlyS.bel HB1.out k9 (fun b hb => by have := HXr.out; omega) HB1.out.size
    refine Marks.leave (B := xr + 1) _ _ (OnlyS.marks (show Marks (xr + 1) [] w1 from trivial) k9 (fun b hb => ⟨_, _, (show Blk w1 b 4 #[.bool false] by rw [hb]; exact HXxr_1.out)⟩)) (fun W' hb => ?_)
    have c5 : W'.cell? ⟨xr, 0, none⟩ = some (.bool true) := by rw [hb.cell (p := ⟨xr, 0, none⟩) (show xr < xr + 1 by omega), hk9.cell]; rfl
    refine ⟨.bool true, by simp [results, Try.f6, go_sem, c5], rfl, ?_⟩
    exact hB10.trans (hb.mono (by have := HXr.out; omega))
  case neg =>
  have t1 : ¬ ((512 : Int) < (n : Int)) := by omega
  have hn : n ≤ 512 := by omega
  go_wp2
  obtain ⟨xf, hxf⟩ : ∃ x, x = w1.heap.size := ⟨_, rfl⟩
  obtain ⟨wf, hwf⟩ : ∃ v, v = w1.alloc (.cells #[.int .i64 1, .int .i64 0, .slice none 0 0, .int .i64 0] 24) := ⟨_, rfl⟩
  have sf : wf.heap.size = xf + 1 := by rw [hwf, World.size_alloc, hxf]
  obtain ⟨xt, hxt⟩ : ∃ x, x = xf + 1 := ⟨_, rfl⟩
  obtain ⟨wt, hwt⟩ : ∃ v, v = wf.alloc (.cells #[.int .i64 0, .int .i64 0, .slice none 0 0, .int .i64 0] 24) := ⟨_, rfl⟩
  have st : wt.heap.size = xt + 1 := by rw [hwt, World.size_alloc, sf, hxt]
  obtain ⟨xp, hxp⟩ : ∃ x, x = xt + 1 := ⟨_, rfl⟩
  obtain ⟨wp, hwp⟩ : ∃ v, v = wt.alloc (.cells #[.slice none 0 0] 22) := ⟨_, rfl⟩
  have sp : wp.heap.size = xp + 1 := by rw [hwp, World.size_alloc, st, hxp]
  obtain ⟨xu, hxu⟩ : ∃ x, x = xp + 1 := ⟨_, rfl⟩
  obtain ⟨w2, hw2⟩ : ∃ v, v = wp.alloc (.cells #[.slice none 0 0] 43) := ⟨_, rfl⟩
  have s2 : w2.heap.size = xu + 1 := by rw [hw2, World.size_alloc, sp, hxu]
  rw [← hwf, ← hwt, ← hwp, ← hw2, ← hxf, ← hxt, ← hxp, ← hxu]
  have HDv0 : Hid (DvM w xr xf xt xp xu [] 0 0 [] none 0 0 none 0 0 none 0 0 none 0 0 none 0 0 [] w2) := by
    have b1 : Below w1.heap.size w1 wf := hwf ▸ (Below.refl _ _).alloc (Nat.le_refl _) _
    have b2 : Below wf.heap.size wf wt := hwt ▸ (Below.refl _ _).alloc (Nat.le_refl _) _
    have b3 : Below wt.heap.size wt wp := hwp ▸ (Below.refl _ _).alloc (Nat.le_refl _) _
    have b4 : Below wp.heap.size wp w2 := hw2 ▸ (Below.refl _ _).alloc (Nat.le_refl _) _
    have kf : Blk wf xf 24 #[.int .i64 1, .int .i64 ((0 : Nat) : Int), .slice none 0 0, .int .i64 0] := by rw [hwf, hxf]; exact Blk.new w1 _ _
    have kt : Blk wt xt 24 #[.int .i64 0, .int .i64 0, .slice none 0 0, .int .i64 ((0 : Nat) : Int)] := by rw [hwt, hxt, ← sf]; exact Blk.new wf _ _
    have kp : Blk wp xp 22 #[.slice none 0 0] := by rw [hwp, hxp, ← st]; exact Blk.new wt _ _
    have ku : Blk w2 xu 43 #[.slice none 0 0] := by rw [hw2, hxu, ← sp]; exact Blk.new wp _ _
    have c1 := HB1.out.size
    have c2 := b1.size
    have c3 := b2.size
    have c4 := b3.size
    refine Lib.hid ⟨Dv.begin, ⟨?_, ?_, ?_, ?_, kp.below b4 kp.lt, ku, OwnG.none_ _ _, OwnG.none_ _ _, OwnG.none_ _ _, OwnG.none_ _ _, OwnC.none_ _ _, fun g h => ?_, fun g h => ?_, trivial⟩⟩
    · exact (((HB1.out.trans (b1.mono c1)).trans (b2.mono (by omega))).trans (b3.mono (by omega))).trans (b4.mono (by omega))
    · have k1 := HXxr_1.out.below b1 HXxr_1.out.lt
      have k2 := k1.below b2 k1.lt
      have k3 := k2.below b3 k2.lt
      exact k3.below b4 k3.lt
    · have k2 := kf.below b2 kf.lt
      have k3 := k2.below b3 k2.lt
      exact k3.below b4 k3.lt
    · have k3 := kt.below b3 kt.lt
      exact k3.below b4 k3.lt
    · cases h
    · cases h
  have HXo : Hid (w.heap.size ≤ xr ∧ xr < xf ∧ xt = xf + 1 ∧ xp = xf + 2 ∧ xu = xf + 3) := Lib.hid (by have := HXr.out; omega)
  clear hwf hwt hwp hw2 hxf hxt hxp hxu sf st sp s2 cr fr lr t1
  refine wp_loop (fun a V => ∃ (i : Nat) (ds : List Deferred) (Ac : Option Addr) (nc cc : Nat), a = { tmps := #[.slice A n c, a.tmps.getD 1 undef, .pointer (some ⟨xr, 0, none⟩), .pointer (some ⟨xf, 0, none⟩), .pointer (some ⟨xt, 0, none⟩), .pointer (some ⟨xp, 0, none⟩), .slice Ac nc cc, .pointer (some ⟨xu, 0, none⟩), a.tmps.getD 8 undef, a.tmps.getD 9 undef, a.tmps.getD 10 undef, a.tmps.getD 11 undef, a.tmps.getD 12 undef, a.tmps.getD 13 undef, a.tmps.getD 14 undef, a.tmps.getD 15 undef, a.tmps.getD 16 undef, a.tmps.getD 17 undef, a.tmps.getD 18 undef, a.tmps.getD 19 undef, a.tmps.getD 20 undef, a.tmps.getD 21 undef, a.tmps.getD 22 undef, a.tmps.getD 23 undef, a.tmps.getD 24 undef, a.tmps.getD 25 undef, a.tmps.getD 26 undef, a.tmps.getD 27 undef, a.tmps.getD 28 undef, a.tmps.getD 29 undef, a.tmps.getD 30 undef, a.tmps.getD 31 undef, a.tmps.getD 32 undef, .slice A n c, .int .i64 (n : Int), .int .i64 (i : Int), a.tmps.getD 36 undef, a.tmps.getD 37 undef, a.tmps.getD 38 undef, a.tmps.getD 39 undef, a.tmps.getD 40 undef, a.tmps.getD 41 undef, a.tmps.getD 42 undef, a.tmps.getD 43 undef, a.tmps.getD 44 undef, a.tmps.getD 45 undef, a.tmps.getD 46 undef, a.tmps.getD 47 undef, a.tmps.getD 48 undef, a.tmps.getD 49 undef, a.tmps.getD 50 undef, a.tmps.getD 51 undef, a.tmps.getD 52 undef, a.tmps.getD 53 undef, a.tmps.getD 54 undef, a.tmps.getD 55 undef, a.tmps.getD 56 undef, a.tmps.getD 57 undef, a.tmps.getD 58 undef, a.tmps.getD 59 undef, a.tmps.getD 60 undef, a.tmps.getD 61 undef, a.tmps.getD 62 undef, a.tmps.getD 63 undef, a.tmps.getD 64 undef, a.tmps.getD 65 undef, a.tmps.getD 66 undef, a.tmps.getD 67 undef, a.tmps.getD 68 undef, a.tmps.getD 69 undef, a.tmps.getD 70 undef, a.tmps.getD 71 undef, a.tmps.getD 72 undef, a.tmps.getD 73 undef, a.tmps.getD 74 undef, a.tmps.getD 75 undef, a.tmps.getD 76 undef, a.tmps.getD 77 undef, a.tmps.getD 78 undef, a.tmps.getD 79 undef, a.tmps.getD 80 undef, a.tmps.getD 81 undef, a.tmps.getD 82 undef, a.tmps.getD 83 undef, a.tmps.getD 84 undef, a.tmps.getD 85 undef, a.tmps.getD 86 undef, a.tmps.getD 87 undef, a.tmps.getD 88 undef, a.tmps.getD 89 undef, a.tmps.getD 90 undef, a.tmps.getD 91 undef, a.tmps.getD 92 undef, a.tmps.getD 93 undef, a.tmps.getD 94 undef, a.tmps.getD 95 undef, a.tmps.getD 96 undef, a.tmps.getD 97 undef, a.tmps.getD 98 undef, a.tmps.getD 99 undef, a.tmps.getD 100 undef, a.tmps.getD 101 undef, a.tmps.getD 102 undef, a.tmps.getD 103 undef, a.tmps.getD 104 undef, a.tmps.getD 105 undef, a.tmps.getD 106 undef, a.tmps.getD 107 undef, a.tmps.getD 108 undef, a.tmps.getD 109 undef, a.tmps.getD 110 undef, a.tmps.getD 111 undef, a.tmps.getD 112 undef, a.tmps.getD 113 undef, a.tmps.getD 114 undef, a.tmps.getD 115 undef, a.tmps.getD 116 undef, a.tmps.getD 117 undef, a.tmps.getD 118 undef, a.tmps.getD 119 undef, a.tmps.getD 120 undef, a.tmps.getD 121 undef, a.tmps.getD 122 undef, a.tmps.getD 123 undef, a.tmps.getD 124 undef, a.tmps.getD 125 undef, a.tmps.getD 126 undef, a.tmps.getD 127 undef, a.tmps.getD 128 undef, a.tmps.getD 129 undef, a.tmps.getD 130 undef, a.tmps.getD 131 undef, a.tmps.getD 132 undef, a.tmps.getD 133 undef, a.tmps.getD 134 undef, a.tmps.getD 135 undef, a.tmps.getD 136 undef, a.tmps.getD 137 undef, a.tmps.getD 138 undef, a.tmps.getD 139 undef, a.tmps.getD 140 undef, a.tmps.getD 141 undef, a.tmps.getD 142 undef, a.tmps.getD 143 undef, a.tmps.getD 144 undef, a.tmps.getD 145 undef, a.tmps.getD 146 undef, a.tmps.getD 147 undef, a.tmps.getD 148 undef, a.tmps.getD 149 undef, a.tmps.getD 150 undef, a.tmps.getD 151 undef, a.tmps.getD 152 undef, a.tmps.getD 153 undef, a.tmps.getD 154 undef, a.tmps.getD 155 undef, a.tmps.getD 156 undef, a.tmps.getD 157 undef, a.tmps.getD 158 undef, a.tmps.getD 159 undef, a.tmps.getD 160 undef, a.tmps.getD 161 undef, a.tmps.getD 162 undef, a.tmps.getD 163 undef, a.tmps.getD 164 undef, a.tmps.getD 165 undef, a.tmps.getD 166 undef, a.tmps.getD 167 undef, a.tmps.getD 168 undef, a.tmps.getD 169 undef, a.tmps.getD 170 undef, a.tmps.getD 171 undef, a.tmps.getD 172 undef, a.tmps.getD 173 undef, a.tmps.getD 174 undef, a.tmps.getD 175 undef, a.tmps.getD 176 undef, a.tmps.getD 177 undef, a.tmps.getD 178 undef, a.tmps.getD 179 undef, a.tmps.getD 180 undef, a.tmps.getD 181 undef, a.tmps.getD 182 undef, a.tmps.getD 183 undef, a.tmps.getD 184 undef, a.tmps.getD 185 undef, a.tmps.getD 186 undef, a.tmps.getD 187 undef, a.tmps.getD 188 undef, a.tmps.getD 189 undef, a.tmps.getD 190 undef, a.tmps.getD 191 undef, a.tmps.getD 192 undef, a.tmps.getD 193 undef, a.tmps.getD 194 undef, a.tmps.getD 195 undef, a.tmps.getD 196 undef, a.tmps.getD 197 undef, a.tmps.getD 198 undef, a.tmps.getD 199 undef, a.tmps.getD 200 undef, a.tmps.getD 201 undef, a.tmps.getD 202 undef, a.tmps.getD 203 undef, a.tmps.getD 204 undef, a.tmps.getD 205 undef, a.tmps.getD 206 undef, a.tmps.getD 207 undef, a.tmps.getD 208 undef, a.tmps.getD 209 undef, a.tmps.getD 210 undef, a.tmps.getD 211 undef, a.tmps.getD 212 undef, a.tmps.getD 213 undef, a.tmps.getD 214 undef, a.tmps.getD 215 undef, a.tmps.getD 216 undef, a.tmps.getD 217 undef, a.tmps.getD 218 undef, a.tmps.getD 219 undef, a.tmps.getD 220 undef, a.tmps.getD 221 undef, a.tmps.getD 222 undef, a.tmps.getD 223 undef, a.tmps.getD 224 undef, a.tmps.getD 225 undef, a.tmps.getD 226 undef], defers := ds } ∧ i ≤ n ∧ ∃ P fb ts U Af nf cf At nt ct Ap np cp Au nu cu, (P.length ≤ i ∧ U.length ≤ 512 * i) ∧ DvM w xr xf xt xp xu P fb ts U Af nf cf At nt ct Ap np cp Ac nc cc Au nu cu ds V) (fun a _ => n - (intOf (a.tmps.getD 35 undef)).toNat) ?_ ?_
  case refine_1 => exact ⟨0, [], none, 0, 0, rfl, by omega, _, _, _, _, _, _, _, _, _, _, _, _, _, _, _, _, ⟨Nat.le_refl _, Nat.le_refl _⟩, HDv0.out⟩
  rintro a V ⟨i, ds, Ac, nc, cc, ha, hi, P, fb, ts, U, Af, nf, cf, At, nt, ct, Ap, np, cp, Au, nu, cu, hPi, hM⟩
  obtain ⟨u, hu⟩ : ∃ u : Nat → Value, ∀ j, a.tmps.getD j undef = u j := ⟨_, fun _ => rfl⟩
  simp only [hu] at ha
  clear hu
  subst ha
  clear HDv0 w2
  have HM := Lib.hid hM
  have HPi := Lib.hid hPi
  clear hM hPi
  by_cases hlt : i < n
  case neg =>
    have cr : V.cell? ⟨xr, 0, none⟩ = some (.bool false) := HM.out.x.br.cell 0
    have fr : V.frozen? ⟨xr, 0, none⟩ = false := HM.out.x.br.frozen 0
    go_wp2
    have k9 : OnlyS (fun b => b = xr) V (V.setCell ⟨xr, 0, none⟩ (.bool true)) := OnlyS.set (S := fun b => b = xr) (OnlyS.refl (fun b => b = xr) V) (x := xr) rfl (.bool true)
    have hk9 := blk_put HM.out.x.br (.bool true)
    have hB10 := OnlyS.bel HM.out.x.bel k9 (fun b hb => by have := HXr.out; omega) HM.out.x.bel.size
    refine Marks.leave (B := xu + 1) _ _ (OnlyS.marks HM.out.x.mks k9 (fun b hb => ⟨_, _, (show Blk V b 4 #[.bool false] by rw [hb]; exact HM.out.x.br)⟩)) (fun W' hb => ?_)
    have c5 : W'.cell? ⟨xr, 0, none⟩ = some (.bool true) := by rw [hb.cell (p := ⟨xr, 0, none⟩) (show xr < xu + 1 by have := HXo.out; omega), hk9.cell]; rfl
    refine ⟨.bool true, by simp [results, Try.f6, go_sem, c5], rfl, ?_⟩
    exact hB10.trans (hb.mono (by have := HXr.out; have := HXo.out; omega))
  case pos =>
  have hlen : i < l.length := by have := HL.out; omega
  obtain ⟨gv, ov, hAv, hbv, hcv⟩ := (HRd.out.below HM.out.x.bel).mvs_ (by omega)
  obtain ⟨x, hx⟩ : ∃ x, l[i]? = some x := ⟨_, List.getElem?_eq_getElem hlen⟩
  obtain ⟨d0, d1, d2⟩ := hcv i x hx
  have HAv := Lib.hid hAv
  have HIx := Lib.hid (HMi.out x (List.mem_of_getElem? hx))
  obtain ⟨xk, xi, xn⟩ := x
  simp only at d0 d1 d2
  clear hcv hx hbv hAv
  go_wp2_with fail
  rename_i K2 hK2 K1 hK1 K0 hK0
  have HOr : Hid (Ord w xr xf xt xp xu) := Lib.hid (by have := HXo.out; unfold Ord; omega)
  refine cutK (J := fun a V => ∃ (ds : List Deferred) (Ac : Option Addr) (nc cc : Nat), a = { tmps := #[.slice A n c, a.tmps.getD 1 undef, .pointer (some ⟨xr, 0, none⟩), .pointer (some ⟨xf, 0, none⟩), .pointer (some ⟨xt, 0, none⟩), .pointer (some ⟨xp, 0, none⟩), .slice Ac nc cc, .pointer (some ⟨xu, 0, none⟩), a.tmps.getD 8 undef, a.tmps.getD 9 undef, a.tmps.getD 10 undef, a.tmps.getD 11 undef, a.tmps.getD 12 undef, a.tmps.getD 13 undef, a.tmps.getD 14 undef, a.tmps.getD 15 undef, a.tmps.getD 16 undef, a.tmps.getD 17 undef, a.tmps.getD 18 undef, a.tmps.getD 19 undef, a.tmps.getD 20 undef, a.tmps.getD 21 undef, a.tmps.getD 22 undef, a.tmps.getD 23 undef, a.tmps.getD 24 undef, a.tmps.getD 25 undef, a.tmps.getD 26 undef, a.tmps.getD 27 undef, a.tmps.getD 28 undef, a.tmps.getD 29 undef, a.tmps.getD 30 undef, a.tmps.getD 31 undef, a.tmps.getD 32 undef, .slice A n c, .int .i64 (n : Int), .int .i64 (i : Int), a.tmps.getD 36 undef, a.tmps.getD 37 undef, a.tmps.getD 38 undef, a.tmps.getD 39 undef, a.tmps.getD 40 undef, a.tmps.getD 41 undef, a.tmps.getD 42 undef, a.tmps.getD 43 undef, a.tmps.getD 44 undef, a.tmps.getD 45 undef, a.tmps.getD 46 undef, a.tmps.getD 47 undef, a.tmps.getD 48 undef, a.tmps.getD 49 undef, a.tmps.getD 50 undef, a.tmps.getD 51 undef, a.tmps.getD 52 undef, a.tmps.getD 53 undef, a.tmps.getD 54 undef, a.tmps.getD 55 undef, a.tmps.getD 56 undef, a.tmps.getD 57 undef, a.tmps.getD 58 undef, a.tmps.getD 59 undef, a.tmps.getD 60 undef, a.tmps.getD 61 undef, a.tmps.getD 62 undef, a.tmps.getD 63 undef, a.tmps.getD 64 undef, a.tmps.getD 65 undef, a.tmps.getD 66 undef, a.tmps.getD 67 undef, a.tmps.getD 68 undef, a.tmps.getD 69 undef, a.tmps.getD 70 undef, a.tmps.getD 71 undef, a.tmps.getD 72 undef, a.tmps.getD 73 undef, a.tmps.getD 74 undef, a.tmps.getD 75 undef, a.tmps.getD 76 undef, a.tmps.getD 77 undef, a.tmps.getD 78 undef, a.tmps.getD 79 undef, a.tmps.getD 80 undef, a.tmps.getD 81 undef, a.tmps.getD 82 undef, a.tmps.getD 83 undef, a.tmps.getD 84 undef, a.tmps.getD 85 undef, a.tmps.getD 86 undef, a.tmps.getD 87 undef, a.tmps.getD 88 undef, a.tmps.getD 89 undef, a.tmps.getD 90 undef, a.tmps.getD 91 undef, a.tmps.getD 92 undef, a.tmps.getD 93 undef, a.tmps.getD 94 undef, a.tmps.getD 95 undef, a.tmps.getD 96 undef, a.tmps.getD 97 undef, a.tmps.getD 98 undef, a.tmps.getD 99 undef, a.tmps.getD 100 undef, a.tmps.getD 101 undef, a.tmps.getD 102 undef, a.tmps.getD 103 undef, a.tmps.getD 104 undef, a.tmps.getD 105 undef, a.tmps.getD 106 undef, a.tmps.getD 107 undef, a.tmps.getD 108 undef, a.tmps.getD 109 undef, a.tmps.getD 110 undef, a.tmps.getD 111 undef, a.tmps.getD 112 undef, a.tmps.getD 113 undef, a.tmps.getD 114 undef, a.tmps.getD 115 undef, a.tmps.getD 116 undef, a.tmps.getD 117 undef, a.tmps.getD 118 undef, a.tmps.getD 119 undef, a.tmps.getD 120 undef, a.tmps.getD 121 undef, a.tmps.getD 122 undef, a.tmps.getD 123 undef, a.tmps.getD 124 undef, a.tmps.getD 125 undef, a.tmps.getD 126 undef, a.tmps.getD 127 undef, a.tmps.getD 128 undef, a.tmps.getD 129 undef, a.tmps.getD 130 undef, a.tmps.getD 131 undef, a.tmps.getD 132 undef, a.tmps.getD 133 undef, a.tmps.getD 134 undef, a.tmps.getD 135 undef, a.tmps.getD 136 undef, a.tmps.getD 137 undef, a.tmps.getD 138 undef, a.tmps.getD 139 undef, a.tmps.getD 140 undef, a.tmps.getD 141 undef, a.tmps.getD 142 undef, a.tmps.getD 143 undef, a.tmps.getD 144 undef, a.tmps.getD 145 undef, a.tmps.getD 146 undef, a.tmps.getD 147 undef, a.tmps.getD 148 undef, a.tmps.getD 149 undef, a.tmps.getD 150 undef, a.tmps.getD 151 undef, a.tmps.getD 152 undef, a.tmps.getD 153 undef, a.tmps.getD 154 undef, a.tmps.getD 155 undef, a.tmps.getD 156 undef, a.tmps.getD 157 undef, a.tmps.getD 158 undef, a.tmps.getD 159 undef, a.tmps.getD 160 undef, a.tmps.getD 161 undef, a.tmps.getD 162 undef, a.tmps.getD 163 undef, a.tmps.getD 164 undef, a.tmps.getD 165 undef, a.tmps.getD 166 undef, a.tmps.getD 167 undef, a.tmps.getD 168 undef, a.tmps.getD 169 undef, a.tmps.getD 170 undef, a.tmps.getD 171 undef, a.tmps.getD 172 undef, a.tmps.getD 173 undef, a.tmps.getD 174 undef, a.tmps.getD 175 undef, a.tmps.getD 176 undef, a.tmps.getD 177 undef, a.tmps.getD 178 undef, a.tmps.getD 179 undef, a.tmps.getD 180 undef, a.tmps.getD 181 undef, a.tmps.getD 182 undef, a.tmps.getD 183 undef, a.tmps.getD 184 undef, a.tmps.getD 185 undef, a.tmps.getD 186 undef, a.tmps.getD 187 undef, a.tmps.getD 188 undef, a.tmps.getD 189 undef, a.tmps.getD 190 undef, a.tmps.getD 191 undef, a.tmps.getD 192 undef, a.tmps.getD 193 undef, a.tmps.getD 194 undef, a.tmps.getD 195 undef, a.tmps.getD 196 undef, a.tmps.getD 197 undef, a.tmps.getD 198 undef, a.tmps.getD 199 undef, a.tmps.getD 200 undef, a.tmps.getD 201 undef, a.tmps.getD 202 undef, a.tmps.getD 203 undef, a.tmps.getD 204 undef, a.tmps.getD 205 undef, a.tmps.getD 206 undef, a.tmps.getD 207 undef, a.tmps.getD 208 undef, a.tmps.getD 209 undef, a.tmps.getD 210 undef, a.tmps.getD 211 undef, a.tmps.getD 212 undef, a.tmps.getD 213 undef, a.tmps.getD 214 undef, a.tmps.getD 215 undef, a.tmps.getD 216 undef, a.tmps.getD 217 undef, a.tmps.getD 218 undef, a.tmps.getD 219 undef, a.tmps.getD 220 undef, a.tmps.getD 221 undef, a.tmps.getD 222 undef, a.tmps.getD 223 undef, a.tmps.getD 224 undef, a.tmps.getD 225 undef, a.tmps.getD 226 undef], defers := ds } ∧ ∃ P fb ts U Af nf cf At nt ct Ap np cp Au nu cu, (P.length ≤ i + 1 ∧ U.length ≤ 512 * (i + 1)) ∧ DvM w xr xf xt xp xu P fb ts U Af nf cf At nt ct Ap np cp Ac nc cc Au nu cu ds V) hK1 ?tail ?main
  case tail =>
    clear hK0 K0 hK1 K1
    rintro a V2 ⟨ds2, Ac2, nc2, cc2, ha, P2, fb2, ts2, U2, Af2, nf2, cf2, At2, nt2, ct2, Ap2, np2, cp2, Au2, nu2, cu2, hPi2, hM2⟩
    obtain ⟨u2, hu2⟩ : ∃ u : Nat → Value, ∀ j, a.tmps.getD j undef = u j := ⟨_, fun _ => rfl⟩
    simp only [hu2] at ha
    clear hu2
    subst ha
    have hnp2 : np2 = P2.length := (OwnG.mlen hM2.x.op).symm
    subst hnp2
    have hnc2 : nc2 = ts2 := by have h1 := (OwnG.mlen hM2.x.oc).symm; rw [List.length_take] at h1; have h2 := hM2.dv.tp; omega
    subst hnc2
    have HM2 := Lib.hid hM2
    have HPi2 := Lib.hid hPi2
    have ZM : Hid (V = V ∧ HM = HM) := Lib.hid ⟨rfl, rfl⟩
    clear hM2 hPi2 ZM
    have hfew := HM2.out.dv.few
    have hft := HM2.out.dv.ft
    have htp := HM2.out.dv.tp
    have hG1 := HG.out (frm P2 fb2) Af2 nf2 cf2 V2 (OutH.in_ (h := frm P2 fb2) HM2.out.x.of_ HM2.out.dv.frm_be.i (by show (P2.drop fb2).length ≤ _; rw [List.length_drop]; omega))
    rw [decide_eq_true HM2.out.dv.frm_be] at hG1
    simp only [Hf.val, frm] at hG1
    have HG1 := Lib.hid hG1
    have hG2 := fun W (hb : Below V2.heap.size V2 W) => HG.out (tow nc2) At2 nt2 ct2 W (OutH.in_ (h := tow nc2) (HM2.out.x.below hb).ot HM2.out.dv.tow_be.i (by show (0 : Nat) ≤ _; omega))
    rw [decide_eq_true HM2.out.dv.tow_be] at hG2
    simp only [Hf.val, tow] at hG2
    have HG2 := Lib.hid hG2
    have t1 : decide ((P2.length : Int) < (nc2 : Int)) = false := decide_eq_false (by omega)
    have t2 : decide ((nc2 : Int) < (fb2 : Int)) = false := decide_eq_false (by omega)
    clear hG1 hG2
    have cf0 : V2.cell? ⟨xf, 0, none⟩ = some (.int .i64 1) := HM2.out.x.bf.cell 0
    have cf1 : V2.cell? ⟨xf, 1, none⟩ = some (.int .i64 (fb2 : Int)) := HM2.out.x.bf.cell 1
    have cf2 : V2.cell? ⟨xf, 2, none⟩ = some (.slice Af2 nf2 cf2) := HM2.out.x.bf.cell 2
    have cf3 : V2.cell? ⟨xf, 3, none⟩ = some (.int .i64 0) := HM2.out.x.bf.cell 3
    go_wp2_with fail
    refine HG1.out.mono ?_
    rintro e W1 ⟨rfl, hb1⟩
    have HB1' := Lib.hid hb1
    have HX1' := Lib.hid (HM2.out.x.below hb1)
    clear hb1 cf0 cf1 cf2 cf3
    have ct0 : W1.cell? ⟨xt, 0, none⟩ = some (.int .i64 0) := HX1'.out.bt.cell 0
    have ct1 : W1.cell? ⟨xt, 1, none⟩ = some (.int .i64 0) := HX1'.out.bt.cell 1
    have ct2 : W1.cell? ⟨xt, 2, none⟩ = some (.slice At2 nt2 ct2) := HX1'.out.bt.cell 2
    have ct3 : W1.cell? ⟨xt, 3, none⟩ = some (.int .i64 (nc2 : Int)) := HX1'.out.bt.cell 3
    go_wp2_with fail
    refine (HG2.out W1 HB1'.out).mono ?_
    rintro e W2 ⟨rfl, hb2⟩
    have HB2' := Lib.hid (HB1'.out.trans (hb2.mono HB1'.out.size))
    have HX2' := Lib.hid (HX1'.out.below hb2)
    clear hb2 ct0 ct1 ct2 ct3 HB1' HX1'
    have lt2 : xt < W2.heap.size := HX2'.out.bt.lt
    have lf2 : xf < W2.heap.size := HX2'.out.bf.lt
    have lp2 : xp < W2.heap.size := HX2'.out.bp.lt
    have cf0 : W2.cell? ⟨xf, 0, none⟩ = some (.int .i64 1) := HX2'.out.bf.cell 0
    have cf1 : W2.cell? ⟨xf, 1, none⟩ = some (.int .i64 (fb2 : Int)) := HX2'.out.bf.cell 1
    have cf2 : W2.cell? ⟨xf, 2, none⟩ = some (.slice Af2 nf2 cf2) := HX2'.out.bf.cell 2
    have cf3 : W2.cell? ⟨xf, 3, none⟩ = some (.int .i64 0) := HX2'.out.bf.cell 3
    have ct0 : W2.cell? ⟨xt, 0, none⟩ = some (.int .i64 0) := HX2'.out.bt.cell 0
    have ct1 : W2.cell? ⟨xt, 1, none⟩ = some (.int .i64 0) := HX2'.out.bt.cell 1
    have ct2 : W2.cell? ⟨xt, 2, none⟩ = some (.slice At2 nt2 ct2) := HX2'.out.bt.cell 2
    have ct3 : W2.cell? ⟨xt, 3, none⟩ = some (.int .i64 (nc2 : Int)) := HX2'.out.bt.cell 3
    have cp0 : W2.cell? ⟨xp, 0, none⟩ = some (.slice Ap2 P2.length cp2) := HX2'.out.bp.cell 0
    go_wp2_with fail
    have HX2x := HX2'
    clear lt2 lf2 lp2 cf0 cf1 cf2 cf3 ct0 ct1 ct2 ct3 cp0 t1 t2
    refine wp_loop (fun a W => ∃ (k : Nat), a = { tmps := #[.slice A n c, a.tmps.getD 1 undef, .pointer (some ⟨xr, 0, none⟩), .pointer (some ⟨xf, 0, none⟩), .pointer (some ⟨xt, 0, none⟩), .pointer (some ⟨xp, 0, none⟩), .slice Ac2 nc2 cc2, .pointer (some ⟨xu, 0, none⟩), a.tmps.getD 8 undef, a.tmps.getD 9 undef, a.tmps.getD 10 undef, a.tmps.getD 11 undef, a.tmps.getD 12 undef, a.tmps.getD 13 undef, a.tmps.getD 14 undef, a.tmps.getD 15 undef, a.tmps.getD 16 undef, a.tmps.getD 17 undef, a.tmps.getD 18 undef, a.tmps.getD 19 undef, a.tmps.getD 20 undef, a.tmps.getD 21 undef, a.tmps.getD 22 undef, a.tmps.getD 23 undef, a.tmps.getD 24 undef, a.tmps.getD 25 undef, a.tmps.getD 26 undef, a.tmps.getD 27 undef, a.tmps.getD 28 undef, a.tmps.getD 29 undef, a.tmps.getD 30 undef, a.tmps.getD 31 undef, a.tmps.getD 32 undef, .slice A n c, .int .i64 (n : Int), .int .i64 (i : Int), a.tmps.getD 36 undef, a.tmps.getD 37 undef, a.tmps.getD 38 undef, a.tmps.getD 39 undef, a.tmps.getD 40 undef, a.tmps.getD 41 undef, a.tmps.getD 42 undef, a.tmps.getD 43 undef, a.tmps.getD 44 undef, a.tmps.getD 45 undef, a.tmps.getD 46 undef, a.tmps.getD 47 undef, a.tmps.getD 48 undef, a.tmps.getD 49 undef, a.tmps.getD 50 undef, a.tmps.getD 51 undef, a.tmps.getD 52 undef, a.tmps.getD 53 undef, a.tmps.getD 54 undef, a.tmps.getD 55 undef, a.tmps.getD 56 undef, a.tmps.getD 57 undef, a.tmps.getD 58 undef, a.tmps.getD 59 undef, a.tmps.getD 60 undef, a.tmps.getD 61 undef, a.tmps.getD 62 undef, a.tmps.getD 63 undef, a.tmps.getD 64 undef, a.tmps.getD 65 undef, a.tmps.getD 66 undef, a.tmps.getD 67 undef, a.tmps.getD 68 undef, a.tmps.getD 69 undef, a.tmps.getD 70 undef, a.tmps.getD 71 undef, a.tmps.getD 72 undef, a.tmps.getD 73 undef, a.tmps.getD 74 undef, a.tmps.getD 75 undef, a.tmps.getD 76 undef, a.tmps.getD 77 undef, a.tmps.getD 78 undef, a.tmps.getD 79 undef, a.tmps.getD 80 undef, a.tmps.getD 81 undef, a.tmps.getD 82 undef, a.tmps.getD 83 undef, a.tmps.getD 84 undef, a.tmps.getD 85 undef, a.tmps.getD 86 undef, a.tmps.getD 87 undef, a.tmps.getD 88 undef, a.tmps.getD 89 undef, a.tmps.getD 90 undef, a.tmps.getD 91 undef, a.tmps.getD 92 undef, a.tmps.getD 93 undef, a.tmps.getD 94 undef, a.tmps.getD 95 undef, a.tmps.getD 96 undef, a.tmps.getD 97 undef, a.tmps.getD 98 undef, a.tmps.getD 99 undef, a.tmps.getD 100 undef, a.tmps.getD 101 undef, a.tmps.getD 102 undef, a.tmps.getD 103 undef, a.tmps.getD 104 undef, a.tmps.getD 105 undef, a.tmps.getD 106 undef, a.tmps.getD 107 undef, a.tmps.getD 108 undef, a.tmps.getD 109 undef, a.tmps.getD 110 undef, a.tmps.getD 111 undef, a.tmps.getD 112 undef, a.tmps.getD 113 undef, a.tmps.getD 114 undef, a.tmps.getD 115 undef, a.tmps.getD 116 undef, a.tmps.getD 117 undef, a.tmps.getD 118 undef, a.tmps.getD 119 undef, a.tmps.getD 120 undef, a.tmps.getD 121 undef, a.tmps.getD 122 undef, a.tmps.getD 123 undef, a.tmps.getD 124 undef, a.tmps.getD 125 undef, a.tmps.getD 126 undef, a.tmps.getD 127 undef, a.tmps.getD 128 undef, a.tmps.getD 129 undef, a.tmps.getD 130 undef, a.tmps.getD 131 undef, a.tmps.getD 132 undef, a.tmps.getD 133 undef, a.tmps.getD 134 undef, a.tmps.getD 135 undef, a.tmps.getD 136 undef, a.tmps.getD 137 undef, a.tmps.getD 138 undef, a.tmps.getD 139 undef, a.tmps.getD 140 undef, a.tmps.getD 141 undef, a.tmps.getD 142 undef, a.tmps.getD 143 undef, a.tmps.getD 144 undef, a.tmps.getD 145 undef, a.tmps.getD 146 undef, a.tmps.getD 147 undef, a.tmps.getD 148 undef, a.tmps.getD 149 undef, a.tmps.getD 150 undef, a.tmps.getD 151 undef, a.tmps.getD 152 undef, a.tmps.getD 153 undef, a.tmps.getD 154 undef, a.tmps.getD 155 undef, a.tmps.getD 156 undef, a.tmps.getD 157 undef, a.tmps.getD 158 undef, a.tmps.getD 159 undef, a.tmps.getD 160 undef, a.tmps.getD 161 undef, a.tmps.getD 162 undef, a.tmps.getD 163 undef, a.tmps.getD 164 undef, a.tmps.getD 165 undef, a.tmps.getD 166 undef, a.tmps.getD 167 undef, a.tmps.getD 168 undef, a.tmps.getD 169 undef, a.tmps.getD 170 undef, a.tmps.getD 171 undef, a.tmps.getD 172 undef, a.tmps.getD 173 undef, a.tmps.getD 174 undef, a.tmps.getD 175 undef, a.tmps.getD 176 undef, a.tmps.getD 177 undef, a.tmps.getD 178 undef, a.tmps.getD 179 undef, .slice Ac2 nc2 cc2, .int .i64 (nc2 : Int), .int .i64 (k : Int), a.tmps.getD 183 undef, a.tmps.getD 184 undef, a.tmps.getD 185 undef, a.tmps.getD 186 undef, a.tmps.getD 187 undef, a.tmps.getD 188 undef, a.tmps.getD 189 undef, a.tmps.getD 190 undef, a.tmps.getD 191 undef, a.tmps.getD 192 undef, a.tmps.getD 193 undef, a.tmps.getD 194 undef, a.tmps.getD 195 undef, a.tmps.getD 196 undef, a.tmps.getD 197 undef, a.tmps.getD 198 undef, a.tmps.getD 199 undef, a.tmps.getD 200 undef, a.tmps.getD 201 undef, a.tmps.getD 202 undef, a.tmps.getD 203 undef, a.tmps.getD 204 undef, a.tmps.getD 205 undef, a.tmps.getD 206 undef, a.tmps.getD 207 undef, a.tmps.getD 208 undef, a.tmps.getD 209 undef, a.tmps.getD 210 undef, a.tmps.getD 211 undef, a.tmps.getD 212 undef, a.tmps.getD 213 undef, a.tmps.getD 214 undef, a.tmps.getD 215 undef, a.tmps.getD 216 undef, a.tmps.getD 217 undef, a.tmps.getD 218 undef, a.tmps.getD 219 undef, a.tmps.getD 220 undef, a.tmps.getD 221 undef, a.tmps.getD 222 undef, a.tmps.getD 223 undef, a.tmps.getD 224 undef, a.tmps.getD 225 undef, a.tmps.getD 226 undef], defers := ds2 } ∧ k ≤ nc2 ∧ Below W2.heap.size W2 W) (fun a _ => nc2 - (intOf (a.tmps.getD 182 undef)).toNat) ?_ ?_
    case refine_1 => exact ⟨0, rfl, by omega, Below.refl _ _⟩
    rintro a W ⟨k, ha, hk, hbW⟩
    obtain ⟨u3, hu3⟩ : ∃ u : Nat → Value, ∀ j, a.tmps.getD j undef = u j := ⟨_, fun _ => rfl⟩
    simp only [hu3] at ha
    clear hu3
    subst ha
    have HXW := Lib.hid (HX2'.out.below hbW)
    have HBW := Lib.hid hbW
    clear hbW
    by_cases hlk : k < nc2
    case pos =>
      obtain ⟨gc, oc', hAc, hgc, hcc⟩ := (OwnG.reads_ HXW.out.oc).mgs_ (by omega)
      subst hAc
      obtain ⟨gp, op', hAp, hgp, hcp⟩ := (OwnG.reads_ HXW.out.op).mgs_ (by omega)
      subst hAp
      obtain ⟨m, hm⟩ : ∃ m, P2[k]? = some m := ⟨_, List.getElem?_eq_getElem (by omega)⟩
      obtain ⟨c0, c1, c2, c3, c4⟩ := hcc k m (by rw [List.getElem?_take, if_pos hlk]; exact hm)
      obtain ⟨d0, d1, d2, d3, d4⟩ := hcp k m hm
      obtain ⟨mk, mo, mn, mu, mv⟩ := m
      simp only at c0 c1 c2 c3 c4 d0 d1 d2 d3 d4
      have ke : ∀ W : World, (Op.equalIn 10000 26 (.agg #[.int .i64 mk, .int .i64 mo, .int .i64 mn, .int .i64 mu, .int .i64 mv]) (.agg #[.int .i64 mk, .int .i64 mo, .int .i64 mn, .int .i64 mu, .int .i64 mv])).run Try.prog W = .ok true W := fun W => by rw [eq_msg]; simp
      have lp2 : xp < W.heap.size := HXW.out.bp.lt
      have cp0 : W.cell? ⟨xp, 0, none⟩ = some (.slice (some ⟨gp, op', none⟩) P2.length cp2) := HXW.out.bp.cell 0
      have zk : (k : Int) < (nc2 : Int) := by omega
      have zp : (k : Int) < (P2.length : Int) := by omega
      clear hcc hcp hm
      go_wp2
      go_quiet (fail)
      go_wp2
      refine ⟨⟨k + 1, rfl, by omega, below_drewN_ (HBW.out.alloc HBW.out.size _) _⟩, ?_⟩
      show nc2 - ((k : Int) + 1).toNat < nc2 - ((k : Int)).toNat
      omega
    case neg =>
    have zk : ¬ ((k : Int) < (nc2 : Int)) := by omega
    clear hlk hk
    obtain ⟨xk, hxk⟩ : ∃ xk, xk = W.heap.size := ⟨_, rfl⟩
    obtain ⟨W3, hW3⟩ : ∃ v, v = W.alloc (.cells #[.int .i64 (nc2 : Int)] 3) := ⟨_, rfl⟩
    have hb3 : Below W.heap.size W W3 := hW3 ▸ (Below.refl _ _).alloc (Nat.le_refl _) _
    have HKn3 : Hid (Blk W3 xk 3 #[.int .i64 (nc2 : Int)]) := Lib.hid (by rw [hW3, hxk]; exact Blk.new W _ _)
    have HXk : Hid (xk = W.heap.size) := Lib.hid hxk
    have HX3 := Lib.hid (HXW.out.below hb3)
    have HLq := Lib.hid (fun i => HM2.out.dv.left nc2 hft i)
    have HLn := Lib.hid (HM2.out.dv.left_len nc2 hft)
    have hc := HLe.out (frm P2 fb2) (nc2 : Int) Af2 nf2 cf2 W3 (OutH.in_ (h := frm P2 fb2) HX3.out.of_ HM2.out.dv.frm_be.i (by show (P2.drop fb2).length ≤ _; rw [List.length_drop]; omega)) (by omega) (by omega)
    obtain ⟨lq, hlq⟩ : ∃ lq, lq = hleft (frm P2 fb2) (nc2 : Int) := ⟨_, rfl⟩
    rw [← hlq] at hc HLq HLn
    clear hlq
    simp only [Hf.val, frm] at hc
    have HC := Lib.hid hc
    clear hc
    have lf2 : xf < W.heap.size := HXW.out.bf.lt
    have lt2 : xt < W.heap.size := HXW.out.bt.lt
    have cf0 : W.cell? ⟨xf, 0, none⟩ = some (.int .i64 1) := HXW.out.bf.cell 0
    have cf1 : W.cell? ⟨xf, 1, none⟩ = some (.int .i64 (fb2 : Int)) := HXW.out.bf.cell 1
    have cf2 : W.cell? ⟨xf, 2, none⟩ = some (.slice Af2 nf2 cf2) := HXW.out.bf.cell 2
    have cf3 : W.cell? ⟨xf, 3, none⟩ = some (.int .i64 0) := HXW.out.bf.cell 3
    have ct0 : W.cell? ⟨xt, 0, none⟩ = some (.int .i64 0) := HXW.out.bt.cell 0
    have ct1 : W.cell? ⟨xt, 1, none⟩ = some (.int .i64 0) := HXW.out.bt.cell 1
    have ct2 : W.cell? ⟨xt, 2, none⟩ = some (.slice At2 nt2 ct2) := HXW.out.bt.cell 2
    have ct3 : W.cell? ⟨xt, 3, none⟩ = some (.int .i64 (nc2 : Int)) := HXW.out.bt.cell 3
    go_wp2_with fail
    rw [← hW3, ← hxk]
    clear hW3 hxk lf2 lt2 cf0 cf1 cf2 cf3 ct0 ct1 ct2 ct3 zk
    refine HC.out.mono ?_
    rintro e W4 ⟨v4, R, rfl, hse, -, hb4, hR⟩
    obtain ⟨gf, pb, lb, rfl, en, -, -⟩ := id hse
    have EN := Lib.hid en
    have SE4 := Lib.hid hse
    have HRlt := Lib.hid hse.lt
    have HKn4 := Lib.hid (HKn3.out.below hb4 HKn3.out.lt)
    have HX4 := Lib.hid (HX3.out.below hb4)
    have HRx : Hid (¬ R xk) := Lib.hid (fun h => by have h1 := hR xk h; have h2 := HKn3.out.lt; omega)
    have hx2 : xk < W4.heap.size := HKn4.out.lt
    clear hse hb4 hb3 hR en HC HKn3 HX3
    obtain ⟨S, hS⟩ : ∃ S : Nat → Prop, S = fun b => b = xk := ⟨_, rfl⟩
    have S1 : S xk := by rw [hS]
    have HSe : Hid (∀ b, S b → b = xk) := Lib.hid (fun b h => by rw [hS] at h; exact h)
    clear hS
    have HXS : Hid (∀ V, OnlyS S W4 V → DvX w xr xf xt xp xu (fb2 : Int) (nc2 : Int) (P2.drop fb2) [] P2 (P2.take nc2) U2 (.slice Af2 nf2 cf2) (.slice At2 nt2 ct2) (.slice Ap2 P2.length cp2) (.slice Ac2 nc2 cc2) (.slice Au2 nu2 cu2) ds2 V) := Lib.hid (fun V hO => by
      have ho := HOr.out
      unfold Ord at ho
      have h9 := HXk.out
      have hlu := HXW.out.bu.lt
      refine HX4.out.only hO (fun b hb => by have := HSe.out b hb; have := HXW.out.bel.size; omega) (fun b hb => by rw [HSe.out b hb]; exact ⟨_, _, HKn4.out⟩) (fun h => ?_) (fun h => ?_) (fun h => ?_) (fun h => ?_) (fun h => ?_) (fun g e h => ?_) (fun g e h => ?_) (fun g e h => ?_) (fun g e h => ?_) (fun g e h => ?_)
      · have := HSe.out _ h; omega
      · have := HSe.out _ h; omega
      · have := HSe.out _ h; omega
      · have := HSe.out _ h; omega
      · have := HSe.out _ h; omega
      · have := HSe.out _ h; have := ownG_lt HXW.out.of_ g e; omega
      · have := HSe.out _ h; have := ownG_lt HXW.out.ot g e; omega
      · have := HSe.out _ h; have := ownG_lt HXW.out.op g e; omega
      · have := HSe.out _ h; have := ownG_lt HXW.out.oc g e; omega
      · have := HSe.out _ h; have := ownC_lt HXW.out.ou g e; omega)
    go_wp2_with fail
    apply with_fun (α := Int × Mg → Nat → Act)
    intro F hF
    refine (wpIn_wide (n := 9)).1 ?_
    refine' range_boundWA (α := Int × Mg) (gf := gf) (pb := pb) (lb := lb) rfl EN.out (SE4.out.at_ _) (fun h k => StayH.trans h k) (stay_b SE4.out.lt) (fun _ => rfl) OkH.put
      (fun pre V => Blk V xk 3 #[.int .i64 ((nc2 + pre.length : Nat) : Int)] ∧ OnlyS S W4 V)
      (fun cc pre V => False)
      (Std.and (std_blk (x := xk) hx2) (std_onlyS W4 S))
      (fun cc => fun s A B hs ht => hs)
      ⟨HKn4.out, OnlyS.refl _ _⟩
      (fun p V => ∃ xx : Nat, W4.heap.size ≤ xx ∧ Blk V xk 3 #[.int .i64 ((nc2 + p.1.length : Nat) : Int)] ∧ OnlyS S W4 V ∧ Blk V xx 26 #[.int .i64 p.2.1.2.k, .int .i64 p.2.1.2.o, .int .i64 p.2.1.2.n, .int .i64 p.2.1.2.u, .int .i64 p.2.1.2.v] ∧ p.1 ++ [p.2.1] <+: lq ∧ p.2.2 = F p.2.1 xx)
      ?ia1 ?assign1 ?body1 ?done1 ?stop1
    case ia1 =>
      rintro p A B row ⟨xx, h1, h2, h3, h4, h5⟩ hg hr
      exact ⟨xx, h1, blk_kept h2 hg (fun r e => (hr r e).2), (own_onlyS W4 S) p A B row h3 hg hr, blk_kept h4 hg (fun r e => (hr r e).2), h5⟩
    case assign1 =>
      rintro lp pre y V K ⟨hbn, hO⟩ ⟨B', hB', hok⟩ hK
      obtain ⟨xx, hxx⟩ : ∃ xx, xx = V.heap.size := ⟨_, rfl⟩
      obtain ⟨V2, hV2⟩ : ∃ v, v = V.alloc (.cells #[.int .i64 y.2.k, .int .i64 y.2.o, .int .i64 y.2.n, .int .i64 y.2.u, .int .i64 y.2.v] 26) := ⟨_, rfl⟩
      have hba : Below V.heap.size V V2 := hV2 ▸ (Below.refl _ _).alloc (Nat.le_refl _) _
      have hfin : KeepsAll W4.heap.size V V2 ∧ Stay R V V2 ∧ ∃ xx' : Nat, xx' = xx ∧ W4.heap.size ≤ xx' ∧ Blk V2 xk 3 #[.int .i64 ((nc2 + pre.length : Nat) : Int)] ∧ OnlyS S W4 V2 ∧ Blk V2 xx' 26 #[.int .i64 y.2.k, .int .i64 y.2.o, .int .i64 y.2.n, .int .i64 y.2.u, .int .i64 y.2.v] ∧ pre ++ [y] <+: lq :=
        ⟨⟨hba.size, fun k _ hk => hba.block k hk⟩, ⟨hba.size, fun g hg => hba.block g (by have := HRlt.out g hg; have := hO.size; omega)⟩, xx, rfl, by have := hO.size; omega, hbn.below hba hbn.lt, hO.below hba, by rw [hV2, hxx]; exact Blk.new V _ _, hok⟩
      have HFin := Lib.hid hfin
      have HK := Lib.hid hK
      clear hfin hba hbn hO hok hK
      gi_wp2_with fail
      rw [← hV2, ← hxx]
      obtain ⟨f1, f2, xx', rfl, f3, f4, f5, f6, f7⟩ := HFin.out
      refine HK.out _ _ f1 f2 ⟨xx', f3, f4, f5, f6, f7, ?_⟩
      rw [hF]
    case stop1 =>
      rintro D cc pre V hD hpre hf hK
      exact hf.elim
    case body1 =>
      rintro lp pre ⟨sx, ⟨zk, zo, zn, zu, zv⟩⟩ a' V hlp hrec ⟨xx, hxm1, hbn, hO, hmb, hok, ha'⟩
      obtain ⟨hlt, hgt⟩ := OkH.next (B := 0) (W := V) hok
      simp only at hbn hmb hok ha' hgt hlt
      rw [hF] at ha'
      simp only at ha'
      subst ha'
      have cm0 : V.cell? ⟨xx, 0, none⟩ = some (.int .i64 zk) := hmb.cell 0
      have cm1 : V.cell? ⟨xx, 1, none⟩ = some (.int .i64 zo) := hmb.cell 1
      have cm2 : V.cell? ⟨xx, 2, none⟩ = some (.int .i64 zn) := hmb.cell 2
      have cm3 : V.cell? ⟨xx, 3, none⟩ = some (.int .i64 zu) := hmb.cell 3
      have cm4 : V.cell? ⟨xx, 4, none⟩ = some (.int .i64 zv) := hmb.cell 4
      obtain ⟨m, hm⟩ : ∃ m, m = nc2 + pre.length := ⟨_, rfl⟩
      rw [← hm] at hbn
      rw [HLq.out, ← hm] at hgt
      obtain ⟨mz, hmz, hmz2⟩ := Option.map_eq_some_iff.1 hgt
      injection hmz2 with hs1 hs2
      subst hs2
      have hsx : sx = (m : Int) + 1 := by omega
      subst hsx
      have hmn : m < P2.length := (List.getElem?_eq_some_iff.1 hmz).1
      have hXV := HXS.out V hO
      obtain ⟨gp, op', hAp, hgp, hcp⟩ := (OwnG.reads_ hXV.op).mgs_ (by omega)
      subst hAp
      obtain ⟨d0, d1, d2, d3, d4⟩ := hcp m _ hmz
      simp only at d0 d1 d2 d3 d4
      have cn : V.cell? ⟨xk, 0, none⟩ = some (.int .i64 (m : Int)) := by rw [hbn.cell]; rfl
      have fn : V.frozen? ⟨xk, 0, none⟩ = false := hbn.frozen 0
      have cp0 : V.cell? ⟨xp, 0, none⟩ = some (.slice (some ⟨gp, op', none⟩) P2.length cp2) := hXV.bp.cell 0
      have hwi1 : (0 : Int) ≤ (m : Int) := by omega
      have hwi2 : (m : Int) < (P2.length : Int) := by omega
      have tn : decide (P2.length ≤ m) = false := by simp; omega
      have ke : ∀ W : World, (Op.equalIn 10000 26 (.agg #[.int .i64 zk, .int .i64 zo, .int .i64 zn, .int .i64 zu, .int .i64 zv]) (.agg #[.int .i64 zk, .int .i64 zo, .int .i64 zn, .int .i64 zu, .int .i64 zv])).run Try.prog W = .ok true W := fun W => by rw [eq_msg]; simp
      have HBn := Lib.hid hbn
      have HOs := Lib.hid hO
      have HQq := Lib.hid hm
      clear hbn hO hm hok hgt hlt hcp hmb hXV hmz hs1
      gi_wp2_with fail
      refine region_quiet_round (F := Fence.wide) rfl (by kernel_rfl) (by kernel_rfl) (by kernel_rfl) ?_
      repeat (gi_big_quiet_step (fail))
      refine wpQuietIn_nil ?_
      rintro _ ⟨z, rfl⟩
      have cn1 : (V.drewN z).cell? ⟨xk, 0, none⟩ = some (.int .i64 (m : Int)) := cn
      have fn1 : (V.drewN z).frozen? ⟨xk, 0, none⟩ = false := fn
      gi_wp2
      refine ⟨((KeepsAll.refl _ V).drewN z).trans (KeepsAll.setCell _ hx2 _), StayH.trans (StayH.refl _ _) (stay_setAt HRx.out), ?_, (HOs.out.drewN z).set S1 _⟩
      have := blk_put (HBn.out.drewN z) (.int .i64 ((m : Int) + 1))
      rw [List.length_append, ← Nat.add_assoc, ← HQq.out]; exact this
    case done1 =>
    rintro D1 ys W5 hD hys ⟨hbn, hO⟩ hK
    subst hys
    have hXV := HXS.out W5 hO
    have hmk : Marks (xu + 1) ({ target := .collected D1, args := #[] } :: ds2) W5 := hXV.mks.cons (fun d hd k e => by have h1 := HX4.out.mks.lt d hd k e; omega) (by have h1 := HX4.out.bu.lt; omega) hK
    have HX5 : Hid (DvX w xr xf xt xp xu (fb2 : Int) (nc2 : Int) (P2.drop fb2) [] P2 (P2.take nc2) U2 (.slice Af2 nf2 cf2) (.slice At2 nt2 ct2) (.slice Ap2 P2.length cp2) (.slice Ac2 nc2 cc2) (.slice Au2 nu2 cu2) ({ target := .collected D1, args := #[] } :: ds2) W5) := Lib.hid { hXV with mks := hmk }
    have hqn : nc2 + ys.length = P2.length := by rw [HLn.out]; omega
    rw [hqn] at hbn
    have cn : W5.cell? ⟨xk, 0, none⟩ = some (.int .i64 (P2.length : Int)) := by rw [hbn.cell]; rfl
    have cp0 : W5.cell? ⟨xp, 0, none⟩ = some (.slice Ap2 P2.length cp2) := hXV.bp.cell 0
    clear hbn hO hK hmk hXV hF F
    go_wp2_with fail
    refine ⟨⟨i + 1, _, Ac2, nc2, cc2, rfl, by omega, P2, fb2, nc2, U2, Af2, nf2, cf2, At2, nt2, ct2, Ap2, P2.length, cp2, Au2, nu2, cu2, HPi2.out, HM2.out.dv, HX5.out⟩, ?_⟩
    show n - ((i : Int) + 1).toNat < n - ((i : Int)).toNat
    omega
  case main =>
  intro hcut
  clear hK1
  have hAv := HAv.out
  clear HAv
  subst hAv
  have zi : (i : Int) < (n : Int) := by omega
  by_cases hk0 : xk = 0
  case pos =>
    subst hk0
    have hnp : np = P.length := (OwnG.mlen HM.out.x.op).symm
    subst hnp
    have hPl : P.length ≤ 511 := by have := HPi.out; omega
    have hpush := HM.out.dv.push (nth_be (j := P.length) (by omega)) (by omega)
    have HDv := Lib.hid hpush.2
    obtain ⟨V1, hV1⟩ : ∃ v, v = V.alloc (.cells #[.int .i64 0, .int .i64 xi, .int .i64 xn] 45) := ⟨_, rfl⟩
    obtain ⟨V2, hV2⟩ : ∃ v, v = V1.alloc (.cells #[.int .i64 1, .int .i64 0, .int .i64 0, .int .i64 (1 + (P.length : Int)), .int .i64 0] 26) := ⟨_, rfl⟩
    have hb1 : Below V.heap.size V V1 := hV1 ▸ (Below.refl _ _).alloc (Nat.le_refl _) _
    have hb2 : Below V1.heap.size V1 V2 := hV2 ▸ (Below.refl _ _).alloc (Nat.le_refl _) _
    have HX2 := Lib.hid ((HM.out.x.below hb1).below hb2)
    obtain ⟨xm, hxm⟩ : ∃ x, x = V.heap.size + 1 := ⟨_, rfl⟩
    have s1 : V1.heap.size = xm := by rw [hV1, World.size_alloc, hxm]
    have HKm2 : Hid (Blk V2 xm 26 #[.int .i64 1, .int .i64 0, .int .i64 0, .int .i64 (1 + (P.length : Int)), .int .i64 0]) := Lib.hid (by rw [hV2, ← s1]; exact Blk.new V1 _ _)
    have HXm : Hid (xu < xm) := Lib.hid (by have := HM.out.x.bu.lt; omega)
    have hc := HP.out (frm P fb) (nth P.length) Af nf cf V2 (OutH.in_ (h := frm P fb) HX2.out.of_ HM.out.dv.frm_be.i (by show (P.drop fb).length ≤ _; rw [List.length_drop]; omega)) (nth_be (j := P.length) (by omega)).i
    rw [hpush.1] at hc
    clear hpush
    simp only [Hf.val, frm, nth, Mg.val] at hc
    have HC := Lib.hid hc
    clear hc
    have lp : xp < V.heap.size := HM.out.x.bp.lt
    have cp0 : V.cell? ⟨xp, 0, none⟩ = some (.slice Ap P.length cp) := HM.out.x.bp.cell 0
    have lf : xf < V.heap.size := HM.out.x.bf.lt
    have cf0 : V.cell? ⟨xf, 0, none⟩ = some (.int .i64 1) := HM.out.x.bf.cell 0
    have cf1 : V.cell? ⟨xf, 1, none⟩ = some (.int .i64 (fb : Int)) := HM.out.x.bf.cell 1
    have cf2 : V.cell? ⟨xf, 2, none⟩ = some (.slice Af nf cf) := HM.out.x.bf.cell 2
    have cf3 : V.cell? ⟨xf, 3, none⟩ = some (.int .i64 0) := HM.out.x.bf.cell 3
    go_wp2_with fail
    rw [← hV1, ← hV2, ← hxm]
    clear hV1 hV2 hxm s1 hb1 hb2 lp cp0 lf cf0 cf1 cf2 cf3 V1
    rename_i K3 hK3 K4 hK4
    have HK3 := Lib.hid hK3
    clear hK3
    refine HC.out.mono ?_
    rintro e V3 ⟨v3, rfl, ho, hb3⟩
    obtain ⟨A3, n3, c3, rfl⟩ := ownG_slice ho
    have HX3 := Lib.hid (HX2.out.below hb3)
    have HO3 : Hid (OwnG V3 V2.heap.size (.slice A3 n3 c3) ((P ++ [nth P.length]).drop fb)) := Lib.hid ho
    have HKm3 := Lib.hid (HKm2.out.below hb3 HKm2.out.lt)
    clear ho hb3
    obtain ⟨V4, hV4⟩ : ∃ v, v = (V3.alloc (.cells #[.int .i64 1, .int .i64 (fb : Int), .slice A3 n3 c3, .int .i64 0] 24)) := ⟨_, rfl⟩
    obtain ⟨xe, hxe⟩ : ∃ x, x = V3.heap.size := ⟨_, rfl⟩
    have HKe4 : Hid (Blk V4 xe 24 #[.int .i64 1, .int .i64 (fb : Int), .slice A3 n3 c3, .int .i64 0]) := Lib.hid (by rw [hV4, hxe]; exact Blk.new V3 _ _)
    have HX4 : Hid (DvX w xr xf xt xp xu (fb : Int) (ts : Int) (P.drop fb) [] P (P.take ts) U (.slice Af nf cf) (.slice At nt ct) (.slice Ap P.length cp) (.slice Ac nc cc) (.slice Au nu cu) ds V4) := Lib.hid (HX3.out.below (hV4 ▸ (Below.refl _ _).alloc (Nat.le_refl _) _))
    have HO4 : Hid (OwnG V4 V2.heap.size (.slice A3 n3 c3) ((P ++ [nth P.length]).drop fb)) := Lib.hid (by rw [hV4]; exact HO3.out.alloc _)
    have HKm4 : Hid (Blk V4 xm 26 #[.int .i64 1, .int .i64 0, .int .i64 0, .int .i64 (1 + (P.length : Int)), .int .i64 0]) := Lib.hid (by rw [hV4]; exact HKm3.out.alloc _)
    have hlt2 : xu < V2.heap.size := HX2.out.bu.lt
    have HX5 : Hid (DvX w xr xf xt xp xu (fb : Int) (ts : Int) ((P ++ [nth P.length]).drop fb) [] P (P.take ts) U (.slice A3 n3 c3) (.slice At nt ct) (.slice Ap P.length cp) (.slice Ac nc cc) (.slice Au nu cu) ds ((((V4.setCell ⟨xf, 0, none⟩ (.int .i64 1)).setCell ⟨xf, 1, none⟩ (.int .i64 (fb : Int))).setCell ⟨xf, 2, none⟩ (.slice A3 n3 c3)).setCell ⟨xf, 3, none⟩ (.int .i64 0))) := Lib.hid (HX4.out.setf HOr.out (fb : Int) (HO4.out.lower0 (by omega)) (fun g e => ⟨fun e' => by have h1 := ownG_base HO3.out g e; have h2 := ownG_lt HX2.out.op g e'; omega, fun e' => by have h1 := ownG_base HO3.out g e; have h2 := ownG_lt HX2.out.oc g e'; omega⟩))
    have HKm5 : Hid (Blk ((((V4.setCell ⟨xf, 0, none⟩ (.int .i64 1)).setCell ⟨xf, 1, none⟩ (.int .i64 (fb : Int))).setCell ⟨xf, 2, none⟩ (.slice A3 n3 c3)).setCell ⟨xf, 3, none⟩ (.int .i64 0)) xm 26 #[.int .i64 1, .int .i64 0, .int .i64 0, .int .i64 (1 + (P.length : Int)), .int .i64 0]) := Lib.hid ((((HKm4.out.far (p := ⟨xf, 0, none⟩) (by have h1 := HXm.out; have h2 := HOr.out; unfold Ord at h2; intro h3; simp only at h3; omega) _).far (p := ⟨xf, 1, none⟩) (by have h1 := HXm.out; have h2 := HOr.out; unfold Ord at h2; intro h3; simp only at h3; omega) _).far (p := ⟨xf, 2, none⟩) (by have h1 := HXm.out; have h2 := HOr.out; unfold Ord at h2; intro h3; simp only at h3; omega) _).far (p := ⟨xf, 3, none⟩) (by have h1 := HXm.out; have h2 := HOr.out; unfold Ord at h2; intro h3; simp only at h3; omega) _)
    go_wp2_with fail
    rw [← hV4, ← hxe]
    refine HK3.out _ _ ?_
    clear hV4 hxe HX3 HO3 HKm3 HKm2 HX2 HK3
    have le4 : xe < V4.heap.size := HKe4.out.lt
    have lf4 : xf < V4.heap.size := HX4.out.bf.lt
    have p0 : V4.cell? ⟨xf, 0, none⟩ = some (.int .i64 1) := HX4.out.bf.cell 0
    have p1 : V4.cell? ⟨xf, 1, none⟩ = some (.int .i64 (fb : Int)) := HX4.out.bf.cell 1
    have p2 : V4.cell? ⟨xf, 2, none⟩ = some (.slice Af nf cf) := HX4.out.bf.cell 2
    have p3 : V4.cell? ⟨xf, 3, none⟩ = some (.int .i64 0) := HX4.out.bf.cell 3
    have q0 : V4.frozen? ⟨xf, 0, none⟩ = false := HX4.out.bf.frozen 0
    have q1 : V4.frozen? ⟨xf, 1, none⟩ = false := HX4.out.bf.frozen 1
    have q2 : V4.frozen? ⟨xf, 2, none⟩ = false := HX4.out.bf.frozen 2
    have q3 : V4.frozen? ⟨xf, 3, none⟩ = false := HX4.out.bf.frozen 3
    have r0 : V4.cell? ⟨xe, 0, none⟩ = some (.int .i64 1) := HKe4.out.cell 0
    have r1 : V4.cell? ⟨xe, 1, none⟩ = some (.int .i64 (fb : Int)) := HKe4.out.cell 1
    have r2 : V4.cell? ⟨xe, 2, none⟩ = some (.slice A3 n3 c3) := HKe4.out.cell 2
    have r3 : V4.cell? ⟨xe, 3, none⟩ = some (.int .i64 0) := HKe4.out.cell 3
    have m0 : ((((V4.setCell ⟨xf, 0, none⟩ (.int .i64 1)).setCell ⟨xf, 1, none⟩ (.int .i64 (fb : Int))).setCell ⟨xf, 2, none⟩ (.slice A3 n3 c3)).setCell ⟨xf, 3, none⟩ (.int .i64 0)).cell? ⟨xm, 0, none⟩ = some (.int .i64 1) := HKm5.out.cell 0
    have m1 : ((((V4.setCell ⟨xf, 0, none⟩ (.int .i64 1)).setCell ⟨xf, 1, none⟩ (.int .i64 (fb : Int))).setCell ⟨xf, 2, none⟩ (.slice A3 n3 c3)).setCell ⟨xf, 3, none⟩ (.int .i64 0)).cell? ⟨xm, 1, none⟩ = some (.int .i64 0) := HKm5.out.cell 1
    have m2 : ((((V4.setCell ⟨xf, 0, none⟩ (.int .i64 1)).setCell ⟨xf, 1, none⟩ (.int .i64 (fb : Int))).setCell ⟨xf, 2, none⟩ (.slice A3 n3 c3)).setCell ⟨xf, 3, none⟩ (.int .i64 0)).cell? ⟨xm, 2, none⟩ = some (.int .i64 0) := HKm5.out.cell 2
    have m3 : ((((V4.setCell ⟨xf, 0, none⟩ (.int .i64 1)).setCell ⟨xf, 1, none⟩ (.int .i64 (fb : Int))).setCell ⟨xf, 2, none⟩ (.slice A3 n3 c3)).setCell ⟨xf, 3, none⟩ (.int .i64 0)).cell? ⟨xm, 3, none⟩ = some (.int .i64 (1 + (P.length : Int))) := HKm5.out.cell 3
    have m4 : ((((V4.setCell ⟨xf, 0, none⟩ (.int .i64 1)).setCell ⟨xf, 1, none⟩ (.int .i64 (fb : Int))).setCell ⟨xf, 2, none⟩ (.slice A3 n3 c3)).setCell ⟨xf, 3, none⟩ (.int .i64 0)).cell? ⟨xm, 4, none⟩ = some (.int .i64 0) := HKm5.out.cell 4
    have cp5 : ((((V4.setCell ⟨xf, 0, none⟩ (.int .i64 1)).setCell ⟨xf, 1, none⟩ (.int .i64 (fb : Int))).setCell ⟨xf, 2, none⟩ (.slice A3 n3 c3)).setCell ⟨xf, 3, none⟩ (.int .i64 0)).cell? ⟨xp, 0, none⟩ = some (.slice Ap P.length cp) := HX5.out.bp.cell 0
    go_wp2_with (at_builtin; refine appG ((((V4.setCell ⟨xf, 0, none⟩ (.int .i64 1)).setCell ⟨xf, 1, none⟩ (.int .i64 (fb : Int))).setCell ⟨xf, 2, none⟩ (.slice A3 n3 c3)).setCell ⟨xf, 3, none⟩ (.int .i64 0)) (nth P.length) 26 rfl (.tmp 56) (.tmp 58) rfl (xu + 1) (.slice Ap P.length cp) P rfl HX5.out.op V4.heap.size (by simp [World.setCell]) rfl (by omega) HX5.out.bu.lt ?_; intro v6 w6 ho hb hgr hat; obtain ⟨A6, n6, c6, rfl⟩ := ownG_slice ho; have HO6 := Lib.hid ho; have HGr := Lib.hid hgr; have HAt := Lib.hid hat; have kp6 : Blk w6 xp 22 #[.slice Ap P.length cp] := (HX5.out.bp.alloc _).grown hgr (fun e => by have h1 := ownG_base HX5.out.op xp e.symm; have h2 := HOr.out; unfold Ord at h2; omega); have d6 : w6.cell? ⟨xp, 0, none⟩ = some (.slice Ap P.length cp) := kp6.cell 0; have e6 : w6.frozen? ⟨xp, 0, none⟩ = false := kp6.frozen 0; clear ho hb hgr hat kp6)
    have HX6 := Lib.hid ((HX5.out.below ((Below.refl _ _).alloc (Nat.le_refl _) _)).growP HOr.out HGr.out HO6.out (by rw [World.size_alloc]; exact HAt.out))
    exact ⟨ds, Ac, nc, cc, rfl, P ++ [nth P.length], fb, ts, U, A3, n3, c3, At, nt, ct, A6, n6, c6, Au, nu, cu, ⟨by have := HPi.out; rw [List.length_append]; simp; omega, by have := HPi.out; omega⟩, HDv.out, by have h1 := HX6.out; rw [List.take_append_of_le_length HM.out.dv.tp]; exact h1⟩
  case neg =>
  by_cases hk1 : xk = 1
  case pos =>
    subst hk1
    obtain ⟨x9, hx9⟩ : ∃ x, x = V.heap.size := ⟨_, rfl⟩
    obtain ⟨V1, hV1⟩ : ∃ v, v = V.alloc (.cells #[.int .i64 1, .int .i64 xi, .int .i64 xn] 45) := ⟨_, rfl⟩
    obtain ⟨V2, hV2⟩ : ∃ v, v = V1.alloc (.cells #[.int .i64 0] 3) := ⟨_, rfl⟩
    have hb1 : Below V.heap.size V V1 := hV1 ▸ (Below.refl _ _).alloc (Nat.le_refl _) _
    have hb2 : Below V1.heap.size V1 V2 := hV2 ▸ (Below.refl _ _).alloc (Nat.le_refl _) _
    have HX2 := Lib.hid ((HM.out.x.below hb1).below hb2)
    obtain ⟨xq, hxq⟩ : ∃ x, x = x9 + 1 := ⟨_, rfl⟩
    have s1 : V1.heap.size = xq := by rw [hV1, World.size_alloc, hxq, hx9]
    have HKx2 : Hid (Blk V2 x9 45 #[.int .i64 1, .int .i64 xi, .int .i64 xn]) := Lib.hid (by rw [hV2, hV1, hx9]; exact (Blk.new V _ _).alloc _)
    have HKn2 : Hid (Blk V2 xq 3 #[.int .i64 0]) := Lib.hid (by rw [hV2, ← s1]; exact Blk.new V1 _ _)
    have HXq : Hid (x9 = V.heap.size ∧ xq = x9 + 1) := Lib.hid ⟨hx9, hxq⟩
    have hfew := HM.out.dv.few
    have hft := HM.out.dv.ft
    have htp := HM.out.dv.tp
    have HLn := Lib.hid (HM.out.dv.left_len fb (Nat.le_refl _))
    have HMo := Lib.hid (fun (i : Nat) (x : Int × Mg) (hx : (hleft (frm P fb) (fb : Int))[i]? = some x) => HM.out.dv.more hx 0)
    have hc := HLe.out (frm P fb) (fb : Int) Af nf cf V2 (OutH.in_ (h := frm P fb) HX2.out.of_ HM.out.dv.frm_be.i (by show (P.drop fb).length ≤ _; rw [List.length_drop]; omega)) (by omega) (by omega)
    obtain ⟨lq, hlq⟩ : ∃ lq, lq = hleft (frm P fb) (fb : Int) := ⟨_, rfl⟩
    rw [← hlq] at hc HMo HLn
    clear hlq
    simp only [Hf.val, frm] at hc
    have HC := Lib.hid hc
    clear hc
    have lf : xf < V.heap.size := HM.out.x.bf.lt
    have cf0 : V.cell? ⟨xf, 0, none⟩ = some (.int .i64 1) := HM.out.x.bf.cell 0
    have cf1 : V.cell? ⟨xf, 1, none⟩ = some (.int .i64 (fb : Int)) := HM.out.x.bf.cell 1
    have cf2 : V.cell? ⟨xf, 2, none⟩ = some (.slice Af nf cf) := HM.out.x.bf.cell 2
    have cf3 : V.cell? ⟨xf, 3, none⟩ = some (.int .i64 0) := HM.out.x.bf.cell 3
    go_wp2_with fail
    rw [← hV1, ← hV2, ← hx9, ← hxq]
    clear hV1 hV2 hx9 hxq s1 hb1 hb2 lf cf0 cf1 cf2 cf3 V1
    refine HC.out.mono ?_
    rintro e W4 ⟨v4, R, rfl, -, hsw, hb4, hR⟩
    obtain ⟨gf, pb, lb, rfl, en, hrl, -⟩ := id hsw
    have EN := Lib.hid en
    have SW4 := Lib.hid hsw
    have HRlt := Lib.hid hrl
    have HKn4 := Lib.hid (HKn2.out.below hb4 HKn2.out.lt)
    have HKx4 := Lib.hid (HKx2.out.below hb4 HKx2.out.lt)
    have HX4 := Lib.hid (HX2.out.below hb4)
    have HRx : Hid (∀ g, g < V2.heap.size → ¬ R g) := Lib.hid (fun g h h2 => by have h1 := hR g h2; omega)
    have HV2 : Hid (xq < V2.heap.size ∧ V2.heap.size ≤ W4.heap.size) := Lib.hid ⟨HKn2.out.lt, hb4.size⟩
    have hx2 : xq < W4.heap.size := HKn4.out.lt
    have HUb : Hid (∀ g, (Value.slice Au nu cu).ownBlock = some g → g < V2.heap.size) := Lib.hid (fun g e => ownC_lt HX2.out.ou g e)
    clear hsw hb4 hR en hrl HC HKn2 HKx2 HX2
    have HSq : Hid (∀ (V : World) (U' : List Cr) (vu' z u : Value), Blk V xq 3 #[z] → DvX w xr xf xt xp xu (fb : Int) (ts : Int) (P.drop fb) [] P (P.take ts) U' (.slice Af nf cf) (.slice At nt ct) (.slice Ap np cp) (.slice Ac nc cc) vu' ds V →
        DvX w xr xf xt xp xu (fb : Int) (ts : Int) (P.drop fb) [] P (P.take ts) U' (.slice Af nf cf) (.slice At nt ct) (.slice Ap np cp) (.slice Ac nc cc) vu' ds (V.setCell ⟨xq, 0, none⟩ u)) := Lib.hid (fun V U' vu' z u hB hX => by
      have hk : OnlyS (fun b => b = xq) V (V.setCell ⟨xq, 0, none⟩ u) := (OnlyS.refl (fun b => b = xq) V).set rfl _
      have h0 := HM.out.x
      have ho := HOr.out
      unfold Ord at ho
      have hlu := h0.bu.lt
      have hxx := HXq.out
      refine hX.only hk (fun b hb => by have := h0.bel.size; omega) (fun b hb => by cases hb; exact ⟨_, _, hB⟩) (by omega) (by omega) (by omega) (by omega) (by omega) (fun g e h => ?_) (fun g e h => ?_) (fun g e h => ?_) (fun g e h => ?_) (fun g e h => ?_)
      · have := ownG_lt h0.of_ g e; omega
      · have := ownG_lt h0.ot g e; omega
      · have := ownG_lt h0.op g e; omega
      · have := ownG_lt h0.oc g e; omega
      · subst h
        unfold Blk at hB
        rcases hX.ou.2 with ⟨e6, _⟩ | ⟨g6, cap6, cur6, e6, _, hh6, _⟩
        · rw [e6] at e; simp [Value.ownBlock] at e
        · rw [e6] at e
          simp [Value.ownBlock] at e
          subst e
          rw [hB] at hh6
          injection hh6 with hh6
          injection hh6 with _ e7
          exact absurd e7 (by decide))
    go_wp2_with fail
    apply with_fun (α := Int × Mg → Nat → Act)
    intro F hF
    refine (wpIn_wide (n := 9)).1 ?_
    refine' range_boundWO (α := Int × Mg) (gf := gf) (pb := pb) (lb := lb) rfl EN.out (SW4.out.at_ _) (fun h k => StayH.trans h k) (stay_b HRlt.out) (fun _ => rfl) OkH.put
      (fun pre V => Blk V xq 3 #[.int .i64 (pre.length : Nat)] ∧ Blk V x9 45 #[.int .i64 1, .int .i64 xi, .int .i64 xn] ∧ W4.heap.size ≤ V.heap.size ∧ ∃ (U' : List Cr) (vu' : Value), (¬ (0 ≤ xi ∧ xi < ((pre.length : Nat) : Int)) → U' = U ∧ vu' = .slice Au nu cu) ∧ U'.length ≤ U.length + 1 ∧ Dv P fb ts U' ∧ DvX w xr xf xt xp xu (fb : Int) (ts : Int) (P.drop fb) [] P (P.take ts) U' (.slice Af nf cf) (.slice At nt ct) (.slice Ap np cp) (.slice Ac nc cc) vu' ds V)
      (fun cc pre V => False)
      ?own1 (fun cc => fun s A B row hs hg hr => hs)
      ⟨HKn4.out, HKx4.out, Nat.le_refl _, U, .slice Au nu cu, fun _ => ⟨rfl, rfl⟩, Nat.le_succ _, HM.out.dv, HX4.out⟩
      (fun p V => ∃ xx : Nat, W4.heap.size ≤ xx ∧ (Blk V xq 3 #[.int .i64 (p.1.length : Nat)] ∧ Blk V x9 45 #[.int .i64 1, .int .i64 xi, .int .i64 xn] ∧ W4.heap.size ≤ V.heap.size ∧ ∃ (U' : List Cr) (vu' : Value), (¬ (0 ≤ xi ∧ xi < ((p.1.length : Nat) : Int)) → U' = U ∧ vu' = .slice Au nu cu) ∧ U'.length ≤ U.length + 1 ∧ Dv P fb ts U' ∧ DvX w xr xf xt xp xu (fb : Int) (ts : Int) (P.drop fb) [] P (P.take ts) U' (.slice Af nf cf) (.slice At nt ct) (.slice Ap np cp) (.slice Ac nc cc) vu' ds V) ∧ Blk V xx 26 #[.int .i64 p.2.1.2.k, .int .i64 p.2.1.2.o, .int .i64 p.2.1.2.n, .int .i64 p.2.1.2.u, .int .i64 p.2.1.2.v] ∧ p.1 ++ [p.2.1] <+: lq ∧ p.2.2 = F p.2.1 xx)
      ?ia1 ?assign1 ?body1 ?done1 ?stop1
    case own1 =>
      rintro pre A B row ⟨h1, h2, h3, U', vu', h4, h5, h6, h7⟩ hg hr
      exact ⟨blk_kept h1 hg (fun r e => (hr r e).2), blk_kept h2 hg (fun r e => (hr r e).2), Nat.le_trans h3 hg.size, U', vu', h4, h5, h6, h7.ownF hg hr HX4.out.bel.size HX4.out.mks.lt⟩
    case ia1 =>
      rintro p A B row ⟨xx, h0, ⟨h1, h2, h3, U', vu', h4, h5, h6, h7⟩, h8, h9⟩ hg hr
      exact ⟨xx, h0, ⟨blk_kept h1 hg (fun r e => (hr r e).2), blk_kept h2 hg (fun r e => (hr r e).2), Nat.le_trans h3 hg.size, U', vu', h4, h5, h6, h7.ownF hg hr HX4.out.bel.size HX4.out.mks.lt⟩, blk_kept h8 hg (fun r e => (hr r e).2), h9⟩
    case assign1 =>
      rintro lp pre y V K ⟨h1, h2, h3, U', vu', h4, h5, h6, h7⟩ ⟨B', hB', hok⟩ hK
      obtain ⟨xx, hxx⟩ : ∃ xx, xx = V.heap.size := ⟨_, rfl⟩
      obtain ⟨V3, hV3⟩ : ∃ v, v = V.alloc (.cells #[.int .i64 y.2.k, .int .i64 y.2.o, .int .i64 y.2.n, .int .i64 y.2.u, .int .i64 y.2.v] 26) := ⟨_, rfl⟩
      have hba : Below V.heap.size V V3 := hV3 ▸ (Below.refl _ _).alloc (Nat.le_refl _) _
      have hfin : KeepsAll W4.heap.size V V3 ∧ Stay R V V3 ∧ ∃ xx' : Nat, xx' = xx ∧ W4.heap.size ≤ xx' ∧ (Blk V3 xq 3 #[.int .i64 (pre.length : Nat)] ∧ Blk V3 x9 45 #[.int .i64 1, .int .i64 xi, .int .i64 xn] ∧ W4.heap.size ≤ V3.heap.size ∧ ∃ (U' : List Cr) (vu' : Value), (¬ (0 ≤ xi ∧ xi < ((pre.length : Nat) : Int)) → U' = U ∧ vu' = .slice Au nu cu) ∧ U'.length ≤ U.length + 1 ∧ Dv P fb ts U' ∧ DvX w xr xf xt xp xu (fb : Int) (ts : Int) (P.drop fb) [] P (P.take ts) U' (.slice Af nf cf) (.slice At nt ct) (.slice Ap np cp) (.slice Ac nc cc) vu' ds V3) ∧ Blk V3 xx' 26 #[.int .i64 y.2.k, .int .i64 y.2.o, .int .i64 y.2.n, .int .i64 y.2.u, .int .i64 y.2.v] ∧ pre ++ [y] <+: lq :=
        ⟨⟨hba.size, fun k _ hk => hba.block k hk⟩, ⟨hba.size, fun g hg => hba.block g (by have := HRlt.out g hg; omega)⟩, xx, rfl, by omega, ⟨h1.below hba h1.lt, h2.below hba h2.lt, Nat.le_trans h3 hba.size, U', vu', h4, h5, h6, h7.below hba⟩, by rw [hV3, hxx]; exact Blk.new V _ _, hok⟩
      have HFin := Lib.hid hfin
      have HK := Lib.hid hK
      clear hfin hba h1 h2 h3 h4 h5 h6 h7 hok hK
      gi_wp2_with fail
      rw [← hV3, ← hxx]
      obtain ⟨f1, f2, xx', rfl, f3, f4, f5, f6⟩ := HFin.out
      refine HK.out _ _ f1 f2 ⟨xx', f3, f4, f5, f6, ?_⟩
      rw [hF]
    case stop1 =>
      rintro D cc pre V hD hpre hf hK
      exact hf.elim
    case body1 =>
      rintro lp pre ⟨sx, ⟨zk, zo, zn, zu, zv⟩⟩ a' V hlp hrec ⟨xx, hxm1, ⟨hbn, hbx, hsz, U', vu', hu1, hu2, hu3, hu4⟩, hmb, hok, ha'⟩
      obtain ⟨hlt, hgt⟩ := OkH.next (B := 0) (W := V) hok
      simp only at hbn hmb hok ha' hgt hlt hu1
      rw [hF] at ha'
      simp only at ha'
      subst ha'
      obtain ⟨Au', nu', cu', rfl⟩ := ownC_slice hu4.ou
      have hsx : -1 ≤ sx ∧ sx ≤ 2000 := by
        have h1 := (HMo.out _ _ hgt).at_ ⟨sx, ⟨zk, zo, zn, zu, zv⟩, 0⟩ (by simp)
        rcases h1 with ⟨h1, _⟩ | ⟨h1, h2⟩
        · simp only at h1; omega
        · have h3 := (List.getElem?_eq_some_iff.1 h2).1
          simp only at h1 h3
          omega
      obtain ⟨m, hm⟩ : ∃ m, m = pre.length := ⟨_, rfl⟩
      rw [← hm] at hbn hu1 hlt hgt
      have cn : V.cell? ⟨xq, 0, none⟩ = some (.int .i64 (m : Int)) := by rw [hbn.cell]; rfl
      have fn : V.frozen? ⟨xq, 0, none⟩ = false := hbn.frozen 0
      have cx1 : V.cell? ⟨x9, 1, none⟩ = some (.int .i64 xi) := hbx.cell 1
      have hm9 : m < 2000 := by have := HLn.out; omega
      have HBn := Lib.hid hbn
      have HBx := Lib.hid hbx
      have HSz := Lib.hid hsz
      have HU1 := Lib.hid hu1
      have HU2 := Lib.hid hu2
      have HU3 := Lib.hid hu3
      have HU4 := Lib.hid hu4
      have HMb := Lib.hid hmb
      have HQq := Lib.hid hm
      have HGt := Lib.hid hgt
      clear hbn hbx hu1 hu2 hu3 hu4 hmb hm hok hgt hlt
      by_cases he : (m : Int) = xi
      case neg =>
        have te : ((m : Int) == xi) = false := by simpa using he
        have hk : OnlyS (fun b => b = xq) V (V.setCell ⟨xq, 0, none⟩ (.int .i64 ((m : Int) + 1))) := (OnlyS.refl (fun b => b = xq) V).set rfl _
        have HFin : Hid (KeepsAll W4.heap.size V (V.setCell ⟨xq, 0, none⟩ (.int .i64 ((m : Int) + 1))) ∧ Stay R V (V.setCell ⟨xq, 0, none⟩ (.int .i64 ((m : Int) + 1))) ∧ Blk (V.setCell ⟨xq, 0, none⟩ (.int .i64 ((m : Int) + 1))) xq 3 #[.int .i64 ((pre ++ [(sx, (⟨zk, zo, zn, zu, zv⟩ : Mg))]).length : Nat)] ∧ Blk (V.setCell ⟨xq, 0, none⟩ (.int .i64 ((m : Int) + 1))) x9 45 #[.int .i64 1, .int .i64 xi, .int .i64 xn] ∧ W4.heap.size ≤ (V.setCell ⟨xq, 0, none⟩ (.int .i64 ((m : Int) + 1))).heap.size ∧ ∃ (U' : List Cr) (vu' : Value), (¬ (0 ≤ xi ∧ xi < (((pre ++ [(sx, (⟨zk, zo, zn, zu, zv⟩ : Mg))]).length : Nat) : Int)) → U' = U ∧ vu' = .slice Au nu cu) ∧ U'.length ≤ U.length + 1 ∧ Dv P fb ts U' ∧ DvX w xr xf xt xp xu (fb : Int) (ts : Int) (P.drop fb) [] P (P.take ts) U' (.slice Af nf cf) (.slice At nt ct) (.slice Ap np cp) (.slice Ac nc cc) vu' ds (V.setCell ⟨xq, 0, none⟩ (.int .i64 ((m : Int) + 1)))) := Lib.hid (by
          have hxx := HXq.out
          have hx8 := HV2.out
          have hu := HX4.out.bu.lt
          refine ⟨KeepsAll.setCell _ hx2 _, stay_setAt (HRx.out xq (by omega)), ?_, hk.blk HBx.out (by omega), Nat.le_trans HSz.out hk.size, U', .slice Au' nu' cu', fun h => HU1.out (fun h2 => h (by rw [List.length_append, ← HQq.out]; simp; omega)), HU2.out, HU3.out, ?_⟩
          · have := blk_put HBn.out (.int .i64 ((m : Int) + 1))
            rw [List.length_append, ← HQq.out]; exact this
          · exact HSq.out V U' _ _ _ HBn.out HU4.out)
        clear hk he
        gi_wp2
        exact HFin.out
      case pos =>
        obtain ⟨hU', hv'⟩ := HU1.out (by omega)
        subst hU'
        injection hv' with e1 e2 e3
        subst e1; subst e2; subst e3
        subst he
        have cu0 : V.cell? ⟨xu, 0, none⟩ = some (.slice Au' nu' cu') := HU4.out.bu.cell 0
        have lu : xu < V.heap.size := HU4.out.bu.lt
        have lq_ : xq < V.heap.size := HBn.out.lt
        have HUl : Hid (U'.length + 1 ≤ 262145) := Lib.hid (by have := HPi.out; omega)
        have cm0 : V.cell? ⟨xx, 0, none⟩ = some (.int .i64 zk) := HMb.out.cell 0
        have cm1 : V.cell? ⟨xx, 1, none⟩ = some (.int .i64 zo) := HMb.out.cell 1
        have cm2 : V.cell? ⟨xx, 2, none⟩ = some (.int .i64 zn) := HMb.out.cell 2
        have cm3 : V.cell? ⟨xx, 3, none⟩ = some (.int .i64 zu) := HMb.out.cell 3
        have cm4 : V.cell? ⟨xx, 4, none⟩ = some (.int .i64 zv) := HMb.out.cell 4
        have HXv : Hid (DvX w xr xf xt xp xu (fb : Int) (ts : Int) (P.drop fb) [] P (P.take ts) U' (.slice Af nf cf) (.slice At nt ct) (.slice Ap np cp) (.slice Ac nc cc) (.slice Au' nu' cu') ds (V.alloc (.cells #[.int .i64 sx, .int .i64 zk, .int .i64 zo, .int .i64 zn, .int .i64 zu, .int .i64 zv, .int .i64 0] 47))) := Lib.hid (HU4.out.below ((Below.refl _ _).alloc (Nat.le_refl _) _))
        have HBv : Hid (Blk (V.alloc (.cells #[.int .i64 sx, .int .i64 zk, .int .i64 zo, .int .i64 zn, .int .i64 zu, .int .i64 zv, .int .i64 0] 47)) xq 3 #[.int .i64 (m : Int)]) := Lib.hid (HBn.out.alloc _)
        have HBw : Hid (Blk (V.alloc (.cells #[.int .i64 sx, .int .i64 zk, .int .i64 zo, .int .i64 zn, .int .i64 zu, .int .i64 zv, .int .i64 0] 47)) x9 45 #[.int .i64 1, .int .i64 (m : Int), .int .i64 xn]) := Lib.hid (HBx.out.alloc _)
        have HNq : Hid (xu ≠ xq ∧ xu ≠ x9 ∧ x9 ≠ xq) := Lib.hid (by have h1 := HXq.out; have h2 := HM.out.x.bu.lt; omega)
        gi_wp2_with (gi_at_builtin; refine appCIn V ⟨sx, ⟨zk, zo, zn, zu, zv⟩, 0⟩ 47 rfl (.tmp 72) (.tmp 76) rfl (xu + 1) (.slice Au' nu' cu') U' rfl HU4.out.ou rfl (by have := HUl.out; omega) HU4.out.bu.lt ?_; intro v6 w6 ho hgr; obtain ⟨A6, n6, c6, rfl⟩ := ownC_slice ho; have HO6 := Lib.hid ho; have HGr := Lib.hid hgr; have kq6 : Blk w6 xq 3 #[.int .i64 (m : Int)] := HBv.out.grown hgr (fun e => by have h1 := (show (Value.slice Au' nu' cu').ownBlock ≠ some xq from blk_rowC HBv.out (by decide) HXv.out.ou); exact absurd e.symm h1); have HKq6 : Hid (Blk (w6.setCell ⟨xu, 0, none⟩ (.slice A6 n6 c6)) xq 3 #[.int .i64 (m : Int)]) := Lib.hid (kq6.far (p := ⟨xu, 0, none⟩) (fun e => HNq.out.1 e.symm) _); have kp6 : Blk w6 xu 43 #[.slice Au' nu' cu'] := HXv.out.bu.grown hgr (fun e => by have h1 := ownC_base HXv.out.ou xu e.symm; omega); have d6 : w6.cell? ⟨xu, 0, none⟩ = some (.slice Au' nu' cu') := kp6.cell 0; have e6 : w6.frozen? ⟨xu, 0, none⟩ = false := kp6.frozen 0; have d7 : (w6.setCell ⟨xu, 0, none⟩ (.slice A6 n6 c6)).cell? ⟨xq, 0, none⟩ = some (.int .i64 (m : Int)) := HKq6.out.cell 0; have e7 : (w6.setCell ⟨xu, 0, none⟩ (.slice A6 n6 c6)).frozen? ⟨xq, 0, none⟩ = false := HKq6.out.frozen 0; clear ho hgr kp6 kq6)
        have HX6 := Lib.hid (HXv.out.putU HOr.out HGr.out HO6.out)
        have kk : ∀ k, k < V.heap.size → k ≠ xq → k ≠ xu → (Value.slice Au' nu' cu').ownBlock ≠ some k → ((w6.setCell ⟨xu, 0, none⟩ (.slice A6 n6 c6)).setCell ⟨xq, 0, none⟩ (.int .i64 ((m : Int) + 1))).heap[k]? = V.heap[k]? := fun k h1 h2 h3 h4 =>
          (Below.heap_setCell _ ⟨xq, 0, none⟩ _ k (fun e => h2 (by simpa using e))).trans ((Below.heap_setCell _ ⟨xu, 0, none⟩ _ k (fun e => h3 (by simpa using e))).trans ((HGr.out.block k (by simp; omega) (fun e => h4 e.symm)).trans (Below.heap_alloc _ _ _ h1)))
        have hsz9 : V.heap.size ≤ ((w6.setCell ⟨xu, 0, none⟩ (.slice A6 n6 c6)).setCell ⟨xq, 0, none⟩ (.int .i64 ((m : Int) + 1))).heap.size := by
          have := HGr.out.size
          simp [World.setCell] at this ⊢
          omega
        have h8 := HV2.out
        have h9 := HXq.out
        have h10 := HM.out.x.bu.lt
        refine ⟨⟨hsz9, fun k h1 h2 => kk k h2 (by omega) (by omega) (fun e => by have := HUb.out k e; omega)⟩, ⟨hsz9, fun g hg => kk g (by have h1 := HRlt.out g hg; have h2 := HSz.out; omega) (fun e => HRx.out g (by omega) hg) (fun e => HRx.out g (by omega) hg) (fun e => HRx.out g (HUb.out g e) hg)⟩, ?_, ?_, Nat.le_trans HSz.out hsz9, U' ++ [⟨sx, ⟨zk, zo, zn, zu, zv⟩, 0⟩], .slice A6 n6 c6, fun h => by exfalso; rw [List.length_append, ← HQq.out, List.length_singleton] at h; omega, by simp, HMo.out m _ HGt.out, ?_⟩
        · have := blk_put HKq6.out (.int .i64 ((m : Int) + 1))
          rw [List.length_append, ← HQq.out]; exact this
        · exact (kk x9 HBx.out.lt (by omega) (by omega) (fun e => by have h1 := (show (Value.slice Au' nu' cu').ownBlock ≠ some x9 from blk_rowC HBw.out (by decide) HXv.out.ou); exact absurd e h1)).trans HBx.out
        · exact HSq.out _ _ _ _ _ HKq6.out HX6.out
    case done1 =>
    rintro D1 ys W5 hD hys ⟨hbn, hbx, hsz, U', vu', hu1, hu2, hu3, hu4⟩ hK
    subst hys
    obtain ⟨Au', nu', cu', rfl⟩ := ownC_slice hu4.ou
    have hmk : Marks (xu + 1) ({ target := .collected D1, args := #[] } :: ds) W5 := hu4.mks.cons (fun d hd k e => by have h1 := HX4.out.mks.lt d hd k e; omega) (by have h1 := HX4.out.bu.lt; omega) hK
    have HX5 : Hid (DvX w xr xf xt xp xu (fb : Int) (ts : Int) (P.drop fb) [] P (P.take ts) U' (.slice Af nf cf) (.slice At nt ct) (.slice Ap np cp) (.slice Ac nc cc) (.slice Au' nu' cu') ({ target := .collected D1, args := #[] } :: ds) W5) := Lib.hid { hu4 with mks := hmk }
    have HDv := Lib.hid hu3
    have HLl := Lib.hid hu2
    clear hbn hbx hsz hu1 hu2 hu3 hu4 hK hmk hF F
    go_wp2_with fail
    exact ⟨_, Ac, nc, cc, rfl, P, fb, ts, U', Af, nf, cf, At, nt, ct, Ap, np, cp, Au', nu', cu', ⟨by have := HPi.out; omega, by have h1 := HPi.out; have h2 := HLl.out; omega⟩, HDv.out, HX5.out⟩
  case neg =>
  by_cases hk2 : xk = 2
  case pos =>
    subst hk2
    have lu : xu < V.heap.size := HM.out.x.bu.lt
    have cu0 : V.cell? ⟨xu, 0, none⟩ = some (.slice Au nu cu) := HM.out.x.bu.cell 0
    have lt_ : xt < V.heap.size := HM.out.x.bt.lt
    have ct3 : V.cell? ⟨xt, 3, none⟩ = some (.int .i64 (ts : Int)) := HM.out.x.bt.cell 3
    obtain ⟨V1, hV1⟩ : ∃ v, v = (V.alloc (.cells #[.int .i64 2, .int .i64 xi, .int .i64 xn] 45)) := ⟨_, rfl⟩
    have hs1 : V1.heap.size = V.heap.size + 1 := by rw [hV1, World.size_alloc]
    have HX1 : Hid (DvX w xr xf xt xp xu (fb : Int) (ts : Int) (P.drop fb) [] P (P.take ts) U (.slice Af nf cf) (.slice At nt ct) (.slice Ap np cp) (.slice Ac nc cc) (.slice Au nu cu) ds ((V.alloc (.cells #[.int .i64 2, .int .i64 xi, .int .i64 xn] 45)).alloc (.cells #[.int .i64 0, .int .i64 0, .int .i64 0, .int .i64 0, .int .i64 0, .int .i64 0, .int .i64 (ts : Int)] 47))) := Lib.hid (by rw [← hV1]; exact (HM.out.x.below (hV1 ▸ (Below.refl _ _).alloc (Nat.le_refl _) _)).below ((Below.refl _ _).alloc (Nat.le_refl _) _))
    have HRx : Hid (Reads ((V.alloc (.cells #[.int .i64 2, .int .i64 xi, .int .i64 xn] 45)).alloc (.cells #[.int .i64 0, .int .i64 0, .int .i64 0, .int .i64 0, .int .i64 0, .int .i64 0, .int .i64 (ts : Int)] 47)) ((V.alloc (.cells #[.int .i64 2, .int .i64 xi, .int .i64 xn] 45)).alloc (.cells #[.int .i64 0, .int .i64 0, .int .i64 0, .int .i64 0, .int .i64 0, .int .i64 0, .int .i64 (ts : Int)] 47)).heap.size 7 (some ⟨V.heap.size + 1, 0, none⟩) 1 (crs [⟨0, ⟨0, 0, 0, 0, 0⟩, (ts : Int)⟩])) := Lib.hid (by rw [← hV1, ← hs1]; exact (reads_cr V1 47 ⟨0, ⟨0, 0, 0, 0, 0⟩, (ts : Int)⟩).more (by simp))
    clear hs1 hV1 V1
    go_wp2_with (at_builtin; refine appC ((V.alloc (.cells #[.int .i64 2, .int .i64 xi, .int .i64 xn] 45)).alloc (.cells #[.int .i64 0, .int .i64 0, .int .i64 0, .int .i64 0, .int .i64 0, .int .i64 0, .int .i64 (ts : Int)] 47)) rfl (.tmp 82) (.tmp 86) rfl (xu + 1) (.slice Au nu cu) U rfl HX1.out.ou ((V.alloc (.cells #[.int .i64 2, .int .i64 xi, .int .i64 xn] 45)).alloc (.cells #[.int .i64 0, .int .i64 0, .int .i64 0, .int .i64 0, .int .i64 0, .int .i64 0, .int .i64 (ts : Int)] 47)).heap.size (some ⟨V.heap.size + 1, 0, none⟩) 1 [⟨0, ⟨0, 0, 0, 0, 0⟩, (ts : Int)⟩] 1 rfl HRx.out (by have := HPi.out; omega) HX1.out.bu.lt ?_; intro v6 w6 ho hb hat hgr; obtain ⟨A6, n6, c6, rfl⟩ := ownC_slice ho; have HO6 := Lib.hid ho; have HGr := Lib.hid hgr; have kp6 : Blk w6 xu 43 #[.slice Au nu cu] := HX1.out.bu.grown hgr (fun e => by have h1 := ownC_base HX1.out.ou xu e.symm; omega); have d6 : w6.cell? ⟨xu, 0, none⟩ = some (.slice Au nu cu) := kp6.cell 0; have e6 : w6.frozen? ⟨xu, 0, none⟩ = false := kp6.frozen 0; clear ho hb hgr hat kp6)
    have HX6 := Lib.hid (HX1.out.putU HOr.out HGr.out HO6.out)
    exact ⟨ds, Ac, nc, cc, rfl, P, fb, ts, U ++ [⟨0, ⟨0, 0, 0, 0, 0⟩, (ts : Int)⟩], Af, nf, cf, At, nt, ct, Ap, np, cp, A6, n6, c6, ⟨by have := HPi.out; omega, by have := HPi.out; rw [List.length_append]; simp; omega⟩, HM.out.dv.word ⟨0, 0, 0, 0, 0⟩, HX6.out⟩
  case neg =>
  by_cases hk3 : xk = 3
  case pos =>
    subst hk3
    have hnu : nu = U.length := (ownC_reads HM.out.x.ou).1.symm
    subst hnu
    have lu : xu < V.heap.size := HM.out.x.bu.lt
    have cu0 : V.cell? ⟨xu, 0, none⟩ = some (.slice Au U.length cu) := HM.out.x.bu.cell 0
    have HUl : Hid (U.length ≤ 262144) := Lib.hid (by have := HPi.out; omega)
    have hul := HUl.out
    by_cases h0 : xi < 0
    case pos =>
      have t0 : decide (xi < 0) = true := decide_eq_true h0
      clear h0
      go_wp2_with fail
      refine ⟨⟨i + 1, ds, Ac, nc, cc, rfl, by omega, P, fb, ts, U, Af, nf, cf, At, nt, ct, Ap, np, cp, Au, U.length, cu, ⟨by have := HPi.out; omega, by have := HPi.out; omega⟩, HM.out.dv, HM.out.x.below ((Below.refl _ _).alloc (Nat.le_refl _) _)⟩, ?_⟩
      show n - ((i : Int) + 1).toNat < n - ((i : Int)).toNat
      omega
    case neg =>
    have t0 : decide (xi < 0) = false := decide_eq_false h0
    by_cases h1 : (U.length : Int) ≤ xi
    case pos =>
      have t1 : decide ((U.length : Int) ≤ xi) = true := decide_eq_true h1
      clear h0 h1
      go_wp2_with fail
      refine ⟨⟨i + 1, ds, Ac, nc, cc, rfl, by omega, P, fb, ts, U, Af, nf, cf, At, nt, ct, Ap, np, cp, Au, U.length, cu, ⟨by have := HPi.out; omega, by have := HPi.out; omega⟩, HM.out.dv, HM.out.x.below ((Below.refl _ _).alloc (Nat.le_refl _) _)⟩, ?_⟩
      show n - ((i : Int) + 1).toNat < n - ((i : Int)).toNat
      omega
    case neg =>
    have t1 : decide ((U.length : Int) ≤ xi) = false := decide_eq_false h1
    obtain ⟨j, hj⟩ : ∃ j : Nat, xi = (j : Int) := ⟨xi.toNat, by omega⟩
    subst hj
    have hjl : j < U.length := by omega
    clear h0 h1
    obtain ⟨hrl, hcu, hrc⟩ := ownC_reads HM.out.x.ou
    obtain ⟨gu, ou, rfl, hgu, hcc⟩ := hrc.crs_ (by omega)
    obtain ⟨r, hr⟩ : ∃ r, U[j]? = some r := ⟨_, List.getElem?_eq_getElem hjl⟩
    obtain ⟨y0, y1, y2, y3, y4, y5, y6⟩ := hcc j r hr
    have HMem : Hid (r ∈ U) := Lib.hid (List.mem_of_getElem? hr)
    obtain ⟨cq, ⟨mk, mo, mn, mu, mv⟩, ca⟩ := r
    simp only at y0 y1 y2 y3 y4 y5 y6
    clear hcc hrc hr hrl
    obtain ⟨V1, hV1⟩ : ∃ v, v = (V.alloc (.cells #[.int .i64 3, .int .i64 (j : Int), .int .i64 xn] 45)) := ⟨_, rfl⟩
    obtain ⟨V2, hV2⟩ : ∃ v, v = V1.alloc (.cells #[.int .i64 cq, .int .i64 mk, .int .i64 mo, .int .i64 mn, .int .i64 mu, .int .i64 mv, .int .i64 ca] 47) := ⟨_, rfl⟩
    have hb1 : Below V.heap.size V V1 := hV1 ▸ (Below.refl _ _).alloc (Nat.le_refl _) _
    have hb2 : Below V1.heap.size V1 V2 := hV2 ▸ (Below.refl _ _).alloc (Nat.le_refl _) _
    have HX2 := Lib.hid ((HM.out.x.below hb1).below hb2)
    obtain ⟨xc, hxc⟩ : ∃ x, x = V.heap.size + 1 := ⟨_, rfl⟩
    have s1 : V1.heap.size = xc := by rw [hV1, World.size_alloc, hxc]
    have HKc2 : Hid (Blk V2 xc 47 #[.int .i64 cq, .int .i64 mk, .int .i64 mo, .int .i64 mn, .int .i64 mu, .int .i64 mv, .int .i64 ca]) := Lib.hid (by rw [hV2, ← s1]; exact Blk.new V1 _ _)
    have HXc : Hid (xu < xc) := Lib.hid (by have := HM.out.x.bu.lt; omega)
    by_cases hq : cq = 0
    case pos =>
      subst hq
      have hca : 0 ≤ ca ∧ ca ≤ (ts : Int) := by
        rcases HM.out.dv.at_ _ HMem.out with ⟨_, h2, h3⟩ | ⟨h2, _⟩
        · exact ⟨h2, h3⟩
        · simp at h2
      have htp := HM.out.dv.tp
      have hfew := HM.out.dv.few
      have hhd := HM.out.dv.heard hca.1 hca.2
      obtain ⟨f', hf'⟩ : ∃ f', f' = max fb ca.toNat := ⟨_, rfl⟩
      rw [← hf'] at hhd
      have HDv := Lib.hid hhd.2
      have hc := HH.out (frm P fb) ca Af nf cf V2 (OutH.in_ (h := frm P fb) HX2.out.of_ HM.out.dv.frm_be.i (by show (P.drop fb).length ≤ _; rw [List.length_drop]; omega)) (by omega) (by omega)
      rw [hhd.1] at hc
      clear hhd hf'
      simp only [Hf.val, frm] at hc
      have HC := Lib.hid hc
      clear hc
      have lf : xf < V.heap.size := HM.out.x.bf.lt
      have cf0 : V.cell? ⟨xf, 0, none⟩ = some (.int .i64 1) := HM.out.x.bf.cell 0
      have cf1 : V.cell? ⟨xf, 1, none⟩ = some (.int .i64 (fb : Int)) := HM.out.x.bf.cell 1
      have cf2 : V.cell? ⟨xf, 2, none⟩ = some (.slice Af nf cf) := HM.out.x.bf.cell 2
      have cf3 : V.cell? ⟨xf, 3, none⟩ = some (.int .i64 0) := HM.out.x.bf.cell 3
      go_wp2_with fail
      rw [← hV1, ← hV2, ← hxc]
      clear hV1 hV2 hxc s1 hb1 hb2 lf cf0 cf1 cf2 cf3 V1
      rename_i K3 hK3 K4 hK4
      have HK3 := Lib.hid hK3
      clear hK3
      refine HC.out.mono ?_
      rintro e V3 ⟨v3, rfl, ho, hb3⟩
      obtain ⟨A3, n3, c3, rfl⟩ := ownG_slice ho
      obtain ⟨V4, hV4⟩ : ∃ v, v = (V3.alloc (.cells #[.int .i64 1, .int .i64 (f' : Int), .slice A3 n3 c3, .int .i64 0] 24)) := ⟨_, rfl⟩
      obtain ⟨xe, hxe⟩ : ∃ x, x = V3.heap.size := ⟨_, rfl⟩
      have HKe4 : Hid (Blk V4 xe 24 #[.int .i64 1, .int .i64 (f' : Int), .slice A3 n3 c3, .int .i64 0]) := Lib.hid (by rw [hV4, hxe]; exact Blk.new V3 _ _)
      have HX4 : Hid (DvX w xr xf xt xp xu (fb : Int) (ts : Int) (P.drop fb) [] P (P.take ts) U (.slice Af nf cf) (.slice At nt ct) (.slice Ap np cp) (.slice Ac nc cc) (.slice (some ⟨gu, ou, none⟩) U.length cu) ds V4) := Lib.hid ((HX2.out.below hb3).below (hV4 ▸ (Below.refl _ _).alloc (Nat.le_refl _) _))
      have HO4 : Hid (OwnG V4 V2.heap.size (.slice A3 n3 c3) (P.drop f')) := Lib.hid (by rw [hV4]; exact OwnG.alloc ho _)
      have hlt2 : xu < V2.heap.size := HX2.out.bu.lt
      have HX5 : Hid (DvX w xr xf xt xp xu (f' : Int) (ts : Int) (P.drop f') [] P (P.take ts) U (.slice A3 n3 c3) (.slice At nt ct) (.slice Ap np cp) (.slice Ac nc cc) (.slice (some ⟨gu, ou, none⟩) U.length cu) ds ((((V4.setCell ⟨xf, 0, none⟩ (.int .i64 1)).setCell ⟨xf, 1, none⟩ (.int .i64 (f' : Int))).setCell ⟨xf, 2, none⟩ (.slice A3 n3 c3)).setCell ⟨xf, 3, none⟩ (.int .i64 0))) := Lib.hid (HX4.out.setf HOr.out (f' : Int) (HO4.out.lower0 (by omega)) (fun g e => ⟨fun e' => by have h1 := ownG_base HO4.out g e; have h2 := ownG_lt HX2.out.op g e'; omega, fun e' => by have h1 := ownG_base HO4.out g e; have h2 := ownG_lt HX2.out.oc g e'; omega⟩))
      clear ho hb3
      go_wp2_with fail
      rw [← hV4, ← hxe]
      refine HK3.out _ _ ?_
      clear hV4 hxe HX2 HK3
      have le4 : xe < V4.heap.size := HKe4.out.lt
      have lf4 : xf < V4.heap.size := HX4.out.bf.lt
      have p0 : V4.cell? ⟨xf, 0, none⟩ = some (.int .i64 1) := HX4.out.bf.cell 0
      have p1 : V4.cell? ⟨xf, 1, none⟩ = some (.int .i64 (fb : Int)) := HX4.out.bf.cell 1
      have p2 : V4.cell? ⟨xf, 2, none⟩ = some (.slice Af nf cf) := HX4.out.bf.cell 2
      have p3 : V4.cell? ⟨xf, 3, none⟩ = some (.int .i64 0) := HX4.out.bf.cell 3
      have q0 : V4.frozen? ⟨xf, 0, none⟩ = false := HX4.out.bf.frozen 0
      have q1 : V4.frozen? ⟨xf, 1, none⟩ = false := HX4.out.bf.frozen 1
      have q2 : V4.frozen? ⟨xf, 2, none⟩ = false := HX4.out.bf.frozen 2
      have q3 : V4.frozen? ⟨xf, 3, none⟩ = false := HX4.out.bf.frozen 3
      have r0 : V4.cell? ⟨xe, 0, none⟩ = some (.int .i64 1) := HKe4.out.cell 0
      have r1 : V4.cell? ⟨xe, 1, none⟩ = some (.int .i64 (f' : Int)) := HKe4.out.cell 1
      have r2 : V4.cell? ⟨xe, 2, none⟩ = some (.slice A3 n3 c3) := HKe4.out.cell 2
      have r3 : V4.cell? ⟨xe, 3, none⟩ = some (.int .i64 0) := HKe4.out.cell 3
      go_wp2_with fail
      exact ⟨ds, Ac, nc, cc, rfl, P, f', ts, U, A3, n3, c3, At, nt, ct, Ap, np, cp, some ⟨gu, ou, none⟩, U.length, cu, ⟨by have := HPi.out; omega, by have := HPi.out; omega⟩, HDv.out, HX5.out⟩
    case neg =>
    have tq : (cq == 0) = false := by simpa using hq
    have hq1 : 1 ≤ cq ∧ P[(cq - 1).toNat]? = some ⟨mk, mo, mn, mu, mv⟩ := by
      rcases HM.out.dv.at_ _ HMem.out with ⟨h2, _⟩ | h2
      · exact absurd h2 hq
      · exact h2
    have htp := HM.out.dv.tp
    have hfew := HM.out.dv.few
    have hq9 : cq ≤ 512 := by have := (List.getElem?_eq_some_iff.1 hq1.2).1; omega
    have hq0 := hq1.1
    clear hq1 hq
    have hct : At = none ∨ True := .inr trivial
    have hc := HF.out (tow ts) cq At nt ct V2 (OutH.in_ (h := tow ts) HX2.out.ot HM.out.dv.tow_be.i (by show (0 : Nat) ≤ _; omega)) (by omega) (by omega)
    rw [HM.out.dv.fits] at hc
    simp only [Hf.val, tow] at hc
    have HC := Lib.hid hc
    clear hc hct
    have lt_ : xt < V.heap.size := HM.out.x.bt.lt
    have ltV2 : xt < V2.heap.size := HX2.out.bt.lt
    have cf0 : V.cell? ⟨xt, 0, none⟩ = some (.int .i64 0) := HM.out.x.bt.cell 0
    have cf1 : V.cell? ⟨xt, 1, none⟩ = some (.int .i64 0) := HM.out.x.bt.cell 1
    have cf2 : V.cell? ⟨xt, 2, none⟩ = some (.slice At nt ct) := HM.out.x.bt.cell 2
    have cf3 : V.cell? ⟨xt, 3, none⟩ = some (.int .i64 (ts : Int)) := HM.out.x.bt.cell 3
    go_wp2_with fail
    rw [← hV1, ← hV2, ← hxc]
    clear hV1 hV2 hxc s1 hb1 hb2 lt_ cf0 cf1 cf2 cf3 V1
    refine HC.out.mono ?_
    rintro e V3 ⟨rfl, hb3⟩
    have HX3 := Lib.hid (HX2.out.below hb3)
    have HKc3 := Lib.hid (HKc2.out.below hb3 HKc2.out.lt)
    clear hb3 HC HX2 HKc2
    by_cases hf : cq = (ts : Int) + 1
    case neg =>
      rw [decide_eq_false hf]
      clear hf
      go_wp2_with fail
      exact ⟨ds, Ac, nc, cc, rfl, P, fb, ts, U, Af, nf, cf, At, nt, ct, Ap, np, cp, some ⟨gu, ou, none⟩, U.length, cu, ⟨by have := HPi.out; omega, by have := HPi.out; omega⟩, HM.out.dv, HX3.out⟩
    case pos =>
    rw [decide_eq_true hf]
    obtain ⟨hp1, hp2, hp3⟩ := HM.out.dv.took HMem.out hf
    have HDv := Lib.hid hp3
    have HTk := Lib.hid hp2
    clear hf hp1 hp2 hp3
    have hc := HT.out (tow ts) At nt ct V3 (OutH.in_ (h := tow ts) HX3.out.ot HM.out.dv.tow_be.i (by show (0 : Nat) ≤ _; omega))
    rw [HM.out.dv.take] at hc
    simp only [Hf.val, tow] at hc
    have HC := Lib.hid hc
    clear hc ltV2
    have cf0 : V3.cell? ⟨xt, 0, none⟩ = some (.int .i64 0) := HX3.out.bt.cell 0
    have cf1 : V3.cell? ⟨xt, 1, none⟩ = some (.int .i64 0) := HX3.out.bt.cell 1
    have cf2 : V3.cell? ⟨xt, 2, none⟩ = some (.slice At nt ct) := HX3.out.bt.cell 2
    have cf3 : V3.cell? ⟨xt, 3, none⟩ = some (.int .i64 (ts : Int)) := HX3.out.bt.cell 3
    go_wp2_with fail
    rename_i K3 hK3 K4 hK4
    have HK3 := Lib.hid hK3
    clear hK3 cf0 cf1 cf2 cf3
    refine HC.out.mono ?_
    rintro e V4 ⟨v3, rfl, ho, hb3⟩
    obtain ⟨A3, n3, c3, rfl⟩ := ownG_slice ho
    obtain ⟨V5, hV5⟩ : ∃ v, v = V4.alloc (.cells #[.int .i64 0, .int .i64 0, .slice A3 n3 c3, .int .i64 ((ts : Int) + 1)] 24) := ⟨_, rfl⟩
    obtain ⟨xe, hxe⟩ : ∃ x, x = V4.heap.size := ⟨_, rfl⟩
    have HKe5 : Hid (Blk V5 xe 24 #[.int .i64 0, .int .i64 0, .slice A3 n3 c3, .int .i64 ((ts : Int) + 1)]) := Lib.hid (by rw [hV5, hxe]; exact Blk.new V4 _ _)
    have hb5 : Below V4.heap.size V4 V5 := hV5 ▸ (Below.refl _ _).alloc (Nat.le_refl _) _
    have HX5 := Lib.hid ((HX3.out.below hb3).below hb5)
    have HKc5 := Lib.hid ((HKc3.out.below hb3 HKc3.out.lt).below hb5 (HKc3.out.below hb3 HKc3.out.lt).lt)
    have HO5 : Hid (OwnG V5 V3.heap.size (.slice A3 n3 c3) []) := Lib.hid (by rw [hV5]; exact OwnG.alloc ho _)
    have hlt3 : xu < V3.heap.size := HX3.out.bu.lt
    have HX6 : Hid (DvX w xr xf xt xp xu (fb : Int) ((ts : Int) + 1) (P.drop fb) [] P (P.take ts) U (.slice Af nf cf) (.slice A3 n3 c3) (.slice Ap np cp) (.slice Ac nc cc) (.slice (some ⟨gu, ou, none⟩) U.length cu) ds ((((V5.setCell ⟨xt, 0, none⟩ (.int .i64 0)).setCell ⟨xt, 1, none⟩ (.int .i64 0)).setCell ⟨xt, 2, none⟩ (.slice A3 n3 c3)).setCell ⟨xt, 3, none⟩ (.int .i64 ((ts : Int) + 1)))) := Lib.hid (HX5.out.sett HOr.out ((ts : Int) + 1) (HO5.out.lower0 (by omega)) (fun g e => ⟨fun e' => by have h1 := ownG_base HO5.out g e; have h2 := ownG_lt HX3.out.op g e'; omega, fun e' => by have h1 := ownG_base HO5.out g e; have h2 := ownG_lt HX3.out.oc g e'; omega⟩))
    have HKc6 : Hid (Blk ((((V5.setCell ⟨xt, 0, none⟩ (.int .i64 0)).setCell ⟨xt, 1, none⟩ (.int .i64 0)).setCell ⟨xt, 2, none⟩ (.slice A3 n3 c3)).setCell ⟨xt, 3, none⟩ (.int .i64 ((ts : Int) + 1))) xc 47 #[.int .i64 cq, .int .i64 mk, .int .i64 mo, .int .i64 mn, .int .i64 mu, .int .i64 mv, .int .i64 ca]) := Lib.hid ((((HKc5.out.far (p := ⟨xt, 0, none⟩) (by have h1 := HXc.out; have h2 := HOr.out; unfold Ord at h2; intro h3; simp only at h3; omega) _).far (p := ⟨xt, 1, none⟩) (by have h1 := HXc.out; have h2 := HOr.out; unfold Ord at h2; intro h3; simp only at h3; omega) _).far (p := ⟨xt, 2, none⟩) (by have h1 := HXc.out; have h2 := HOr.out; unfold Ord at h2; intro h3; simp only at h3; omega) _).far (p := ⟨xt, 3, none⟩) (by have h1 := HXc.out; have h2 := HOr.out; unfold Ord at h2; intro h3; simp only at h3; omega) _)
    clear ho hb3 hb5
    go_wp2_with fail
    rw [← hV5, ← hxe]
    refine HK3.out _ _ ?_
    clear hV5 hxe HX3 HK3
    have le5 : xe < V5.heap.size := HKe5.out.lt
    have lt5 : xt < V5.heap.size := HX5.out.bt.lt
    have p0 : V5.cell? ⟨xt, 0, none⟩ = some (.int .i64 0) := HX5.out.bt.cell 0
    have p1 : V5.cell? ⟨xt, 1, none⟩ = some (.int .i64 0) := HX5.out.bt.cell 1
    have p2 : V5.cell? ⟨xt, 2, none⟩ = some (.slice At nt ct) := HX5.out.bt.cell 2
    have p3 : V5.cell? ⟨xt, 3, none⟩ = some (.int .i64 (ts : Int)) := HX5.out.bt.cell 3
    have q0 : V5.frozen? ⟨xt, 0, none⟩ = false := HX5.out.bt.frozen 0
    have q1 : V5.frozen? ⟨xt, 1, none⟩ = false := HX5.out.bt.frozen 1
    have q2 : V5.frozen? ⟨xt, 2, none⟩ = false := HX5.out.bt.frozen 2
    have q3 : V5.frozen? ⟨xt, 3, none⟩ = false := HX5.out.bt.frozen 3
    have r0 : V5.cell? ⟨xe, 0, none⟩ = some (.int .i64 0) := HKe5.out.cell 0
    have r1 : V5.cell? ⟨xe, 1, none⟩ = some (.int .i64 0) := HKe5.out.cell 1
    have r2 : V5.cell? ⟨xe, 2, none⟩ = some (.slice A3 n3 c3) := HKe5.out.cell 2
    have r3 : V5.cell? ⟨xe, 3, none⟩ = some (.int .i64 ((ts : Int) + 1)) := HKe5.out.cell 3
    have m0 : ((((V5.setCell ⟨xt, 0, none⟩ (.int .i64 0)).setCell ⟨xt, 1, none⟩ (.int .i64 0)).setCell ⟨xt, 2, none⟩ (.slice A3 n3 c3)).setCell ⟨xt, 3, none⟩ (.int .i64 ((ts : Int) + 1))).cell? ⟨xc, 0, none⟩ = some (.int .i64 cq) := HKc6.out.cell 0
    have m1 : ((((V5.setCell ⟨xt, 0, none⟩ (.int .i64 0)).setCell ⟨xt, 1, none⟩ (.int .i64 0)).setCell ⟨xt, 2, none⟩ (.slice A3 n3 c3)).setCell ⟨xt, 3, none⟩ (.int .i64 ((ts : Int) + 1))).cell? ⟨xc, 1, none⟩ = some (.int .i64 mk) := HKc6.out.cell 1
    have m2 : ((((V5.setCell ⟨xt, 0, none⟩ (.int .i64 0)).setCell ⟨xt, 1, none⟩ (.int .i64 0)).setCell ⟨xt, 2, none⟩ (.slice A3 n3 c3)).setCell ⟨xt, 3, none⟩ (.int .i64 ((ts : Int) + 1))).cell? ⟨xc, 2, none⟩ = some (.int .i64 mo) := HKc6.out.cell 2
    have m3 : ((((V5.setCell ⟨xt, 0, none⟩ (.int .i64 0)).setCell ⟨xt, 1, none⟩ (.int .i64 0)).setCell ⟨xt, 2, none⟩ (.slice A3 n3 c3)).setCell ⟨xt, 3, none⟩ (.int .i64 ((ts : Int) + 1))).cell? ⟨xc, 3, none⟩ = some (.int .i64 mn) := HKc6.out.cell 3
    have m4 : ((((V5.setCell ⟨xt, 0, none⟩ (.int .i64 0)).setCell ⟨xt, 1, none⟩ (.int .i64 0)).setCell ⟨xt, 2, none⟩ (.slice A3 n3 c3)).setCell ⟨xt, 3, none⟩ (.int .i64 ((ts : Int) + 1))).cell? ⟨xc, 4, none⟩ = some (.int .i64 mu) := HKc6.out.cell 4
    have m5 : ((((V5.setCell ⟨xt, 0, none⟩ (.int .i64 0)).setCell ⟨xt, 1, none⟩ (.int .i64 0)).setCell ⟨xt, 2, none⟩ (.slice A3 n3 c3)).setCell ⟨xt, 3, none⟩ (.int .i64 ((ts : Int) + 1))).cell? ⟨xc, 5, none⟩ = some (.int .i64 mv) := HKc6.out.cell 5
    have m6 : ((((V5.setCell ⟨xt, 0, none⟩ (.int .i64 0)).setCell ⟨xt, 1, none⟩ (.int .i64 0)).setCell ⟨xt, 2, none⟩ (.slice A3 n3 c3)).setCell ⟨xt, 3, none⟩ (.int .i64 ((ts : Int) + 1))).cell? ⟨xc, 6, none⟩ = some (.int .i64 ca) := HKc6.out.cell 6
    have hcl : (P.take ts).length ≤ 512 := by rw [List.length_take]; omega
    go_wp2_with (at_builtin; refine appG ((((V5.setCell ⟨xt, 0, none⟩ (.int .i64 0)).setCell ⟨xt, 1, none⟩ (.int .i64 0)).setCell ⟨xt, 2, none⟩ (.slice A3 n3 c3)).setCell ⟨xt, 3, none⟩ (.int .i64 ((ts : Int) + 1))) ⟨mk, mo, mn, mu, mv⟩ 26 rfl (.tmp 146) (.tmp 149) rfl (xu + 1) (.slice Ac nc cc) (P.take ts) rfl HX6.out.oc V5.heap.size (by simp [World.setCell]) rfl (by omega) HX6.out.bu.lt ?_; intro v7 w7 ho hb hgr hat; obtain ⟨A7, n7, c7, rfl⟩ := ownG_slice ho; have HO7 := Lib.hid ho; have HGr := Lib.hid hgr; have HAt := Lib.hid hat; clear ho hb hgr hat)
    have HX7 := Lib.hid ((HX6.out.below ((Below.refl _ _).alloc (Nat.le_refl _) _)).growC HOr.out HGr.out HO7.out (by rw [World.size_alloc]; exact HAt.out))
    exact ⟨ds, A7, n7, c7, rfl, P, fb, ts + 1, U, Af, nf, cf, A3, n3, c3, Ap, np, cp, some ⟨gu, ou, none⟩, U.length, cu, ⟨by have := HPi.out; omega, by have := HPi.out; omega⟩, HDv.out, by have h1 := HX7.out; rw [HTk.out]; exact h1⟩
  case neg =>
  by_cases hk4 : xk = 4
  case pos =>
    subst hk4
    have hnu : nu = U.length := (ownC_reads HM.out.x.ou).1.symm
    subst hnu
    have lu : xu < V.heap.size := HM.out.x.bu.lt
    have cu0 : V.cell? ⟨xu, 0, none⟩ = some (.slice Au U.length cu) := HM.out.x.bu.cell 0
    have HUl : Hid (U.length ≤ 262144) := Lib.hid (by have := HPi.out; omega)
    have hul := HUl.out
    by_cases h0 : xi < 0
    case pos =>
      have t0 : decide (xi < 0) = true := decide_eq_true h0
      clear h0
      go_wp2_with fail
      refine ⟨⟨i + 1, ds, Ac, nc, cc, rfl, by omega, P, fb, ts, U, Af, nf, cf, At, nt, ct, Ap, np, cp, Au, U.length, cu, ⟨by have := HPi.out; omega, by have := HPi.out; omega⟩, HM.out.dv, HM.out.x.below ((Below.refl _ _).alloc (Nat.le_refl _) _)⟩, ?_⟩
      show n - ((i : Int) + 1).toNat < n - ((i : Int)).toNat
      omega
    case neg =>
    have t0 : decide (xi < 0) = false := decide_eq_false h0
    by_cases h1 : (U.length : Int) ≤ xi
    case pos =>
      have t1 : decide ((U.length : Int) ≤ xi) = true := decide_eq_true h1
      clear h0 h1
      go_wp2_with fail
      refine ⟨⟨i + 1, ds, Ac, nc, cc, rfl, by omega, P, fb, ts, U, Af, nf, cf, At, nt, ct, Ap, np, cp, Au, U.length, cu, ⟨by have := HPi.out; omega, by have := HPi.out; omega⟩, HM.out.dv, HM.out.x.below ((Below.refl _ _).alloc (Nat.le_refl _) _)⟩, ?_⟩
      show n - ((i : Int) + 1).toNat < n - ((i : Int)).toNat
      omega
    case neg =>
    have t1 : decide ((U.length : Int) ≤ xi) = false := decide_eq_false h1
    obtain ⟨j, hj⟩ : ∃ j : Nat, xi = (j : Int) := ⟨xi.toNat, by omega⟩
    subst hj
    have hjl : j < U.length := by omega
    clear h0 h1
    obtain ⟨hrl, hcu, hrc⟩ := ownC_reads HM.out.x.ou
    obtain ⟨gu, ou, rfl, hgu, hcc⟩ := hrc.crs_ (by omega)
    obtain ⟨r, hr⟩ : ∃ r, U[j]? = some r := ⟨_, List.getElem?_eq_getElem hjl⟩
    obtain ⟨y0, y1, y2, y3, y4, y5, y6⟩ := hcc j r hr
    have HMem : Hid (r ∈ U) := Lib.hid (List.mem_of_getElem? hr)
    obtain ⟨cq, ⟨mk, mo, mn, mu, mv⟩, ca⟩ := r
    simp only at y0 y1 y2 y3 y4 y5 y6
    clear hcc hrc hr hrl
    obtain ⟨x9, hx9⟩ : ∃ x, x = V.heap.size := ⟨_, rfl⟩
    obtain ⟨V1, hV1⟩ : ∃ v, v = (V.alloc (.cells #[.int .i64 4, .int .i64 (j : Int), .int .i64 xn] 45)) := ⟨_, rfl⟩
    obtain ⟨V2, hV2⟩ : ∃ v, v = V1.alloc (.cells #[.int .i64 cq, .int .i64 mk, .int .i64 mo, .int .i64 mn, .int .i64 mu, .int .i64 mv, .int .i64 ca] 47) := ⟨_, rfl⟩
    have hb1 : Below V.heap.size V V1 := hV1 ▸ (Below.refl _ _).alloc (Nat.le_refl _) _
    have hb2 : Below V1.heap.size V1 V2 := hV2 ▸ (Below.refl _ _).alloc (Nat.le_refl _) _
    have HX2 := Lib.hid ((HM.out.x.below hb1).below hb2)
    obtain ⟨xc, hxc⟩ : ∃ x, x = x9 + 1 := ⟨_, rfl⟩
    have HKx2 : Hid (Blk V2 x9 45 #[.int .i64 4, .int .i64 (j : Int), .int .i64 xn]) := Lib.hid (by rw [hV2, hV1, hx9]; exact (Blk.new V _ _).alloc _)
    have HRc := Lib.hid (ownC_reads HX2.out.ou).2.2
    go_wp2_with fail
    rw [← hV1, ← hV2, ← hx9, ← hxc]
    clear hV1 hV2 hb1 hb2 V1 y0 y1 y2 y3 y4 y5 y6 cu0 t0 t1 hx9 hxc
    have cu0 : V2.cell? ⟨xu, 0, none⟩ = some (.slice (some ⟨gu, ou, none⟩) U.length cu) := HX2.out.bu.cell 0
    have fu0 : V2.frozen? ⟨xu, 0, none⟩ = false := HX2.out.bu.frozen 0
    have lu2 : xu < V2.heap.size := HX2.out.bu.lt
    have l92 : x9 < V2.heap.size := HKx2.out.lt
    have cx1 : V2.cell? ⟨x9, 1, none⟩ = some (.int .i64 (j : Int)) := HKx2.out.cell 1
    have cut1 := fun W : World => run_headC (some ⟨gu, ou, none⟩) U.length cu j (by omega) (by omega) W
    obtain ⟨j1, hj1⟩ : ∃ j1, j1 = j + 1 := ⟨_, rfl⟩
    have hwj : IntKind.i64.wrap ((j : Int) + 1) = (j1 : Int) := by rw [IntWalk.i64_in _ (by omega)]; omega
    have zj : (j1 : Int) ≤ (U.length : Int) := by omega
    have hj1u : j1 ≤ U.length := by omega
    have zj0 : (0 : Int) ≤ (j1 : Int) := by omega
    obtain ⟨A', hA'⟩ : ∃ z, (if cu = j1 then some (⟨gu, ou, none⟩ : Addr) else some ⟨gu, ou + j1 * 7, none⟩) = z := ⟨_, rfl⟩
    obtain ⟨n', hn'⟩ : ∃ z, U.length - j1 = z := ⟨_, rfl⟩
    obtain ⟨c', hc'⟩ : ∃ z, cu - j1 = z := ⟨_, rfl⟩
    have HR1 : Hid (Reads V2 V2.heap.size 7 (some ⟨gu, ou, none⟩) j (crs (U.take j))) := Lib.hid (readsC_take HRc.out (by omega))
    have HR2 : Hid (Reads V2 V2.heap.size 7 A' n' (crs (U.drop (j + 1)))) := Lib.hid (by
      have h1 := Reads.cut HRc.out hj1u hcu
      have h2 : (if cu = j1 then some (⟨gu, ou, none⟩ : Addr) else (some (⟨gu, ou, none⟩ : Addr)).map (·.add (j1 * 7))) = A' := by
        rw [← hA']
        split
        · rfl
        · have : ¬ (j1 * 7 = 0) := by omega
          simp [Addr.add, this]
      rw [h2, hn'] at h1
      rw [crs_drop, ← hj1]
      exact h1)
    have hnn : n' ≤ 262144 := by omega
    have hjj : j ≤ 262144 := by omega
    have zj2 : (j : Int) ≤ (cu : Int) := by omega
    have zj3 : (0 : Int) ≤ (j : Int) := by omega
    have HTl : Hid ((U.take j).length = j) := Lib.hid (by rw [List.length_take]; omega)
    have HJ1 := Lib.hid hj1
    clear hj1
    refine wp_region_noPanic ?_
    have hS0 : (fun W : World => W.cell? ⟨x9, 1, none⟩ = some (.int .i64 (j : Int)) ∧ W.cell? ⟨xu, 0, none⟩ = some (.slice (some ⟨gu, ou, none⟩) U.length cu)) V2.drew := ⟨cx1, cu0⟩
    refine region_last 12 (fun W : World => W.cell? ⟨x9, 1, none⟩ = some (.int .i64 (j : Int)) ∧ W.cell? ⟨xu, 0, none⟩ = some (.slice (some ⟨gu, ou, none⟩) U.length cu)) (by kernel_rfl) ?_
    refine AnyL.take 1 (.slice (some ⟨gu, ou, none⟩) U.length cu) rfl (by kernel_rfl) (by kernel_rfl) (by kernel_rfl) (by kernel_rfl) (fun _ _ _ h => h) (Or.inl ⟨by rfl, fun W hW => ?_⟩) hS0 ?_
    · obtain ⟨hW1, hW2⟩ := hW
      go_simp
    simp only [Act.put, List.setIfInBounds_toArray]
    refine AnyL.take 2 (.pointer (some ⟨x9, 1, none⟩)) rfl (by kernel_rfl) (by kernel_rfl) (by kernel_rfl) (by kernel_rfl) (fun _ _ _ h => h) (Or.inl ⟨by rfl, fun W hW => ?_⟩) hS0 ?_
    · obtain ⟨hW1, hW2⟩ := hW
      go_simp
    simp only [Act.put]
    refine AnyL.take 3 (.int .i64 (j : Int)) rfl (by kernel_rfl) (by kernel_rfl) (by kernel_rfl) (by kernel_rfl) (fun _ _ _ h => h) (Or.inl ⟨by rfl, fun W hW => ?_⟩) hS0 ?_
    · obtain ⟨hW1, hW2⟩ := hW
      go_simp
    simp only [Act.put]
    refine AnyL.take 4 (.slice (some ⟨gu, ou, none⟩) j cu) rfl (by kernel_rfl) (by kernel_rfl) (by kernel_rfl) (by kernel_rfl) (fun _ _ _ h => h) (Or.inl ⟨by rfl, fun W hW => ?_⟩) hS0 ?_
    · obtain ⟨hW1, hW2⟩ := hW
      go_simp
    simp only [Act.put]
    refine AnyL.take 6 (.slice (some ⟨gu, ou, none⟩) U.length cu) rfl (by kernel_rfl) (by kernel_rfl) (by kernel_rfl) (by kernel_rfl) (fun _ _ _ h => h) (Or.inl ⟨by rfl, fun W hW => ?_⟩) hS0 ?_
    · obtain ⟨hW1, hW2⟩ := hW
      go_simp
    simp only [Act.put]
    refine AnyL.take 7 (.pointer (some ⟨x9, 1, none⟩)) rfl (by kernel_rfl) (by kernel_rfl) (by kernel_rfl) (by kernel_rfl) (fun _ _ _ h => h) (Or.inl ⟨by rfl, fun W hW => ?_⟩) hS0 ?_
    · obtain ⟨hW1, hW2⟩ := hW
      go_simp
    simp only [Act.put]
    refine AnyL.take 8 (.int .i64 (j : Int)) rfl (by kernel_rfl) (by kernel_rfl) (by kernel_rfl) (by kernel_rfl) (fun _ _ _ h => h) (Or.inl ⟨by rfl, fun W hW => ?_⟩) hS0 ?_
    · obtain ⟨hW1, hW2⟩ := hW
      go_simp
    simp only [Act.put]
    refine AnyL.take 9 (.int .i64 (j1 : Int)) rfl (by kernel_rfl) (by kernel_rfl) (by kernel_rfl) (by kernel_rfl) (fun _ _ _ h => h) (Or.inl ⟨by rfl, fun W hW => ?_⟩) hS0 ?_
    · obtain ⟨hW1, hW2⟩ := hW
      go_simp
    simp only [Act.put]
    refine AnyL.take 10 (.slice A' n' c') rfl (by kernel_rfl) (by kernel_rfl) (by kernel_rfl) (by kernel_rfl) (fun _ _ _ h => h) (Or.inl ⟨by rfl, fun W hW => ?_⟩) hS0 ?_
    · obtain ⟨hW1, hW2⟩ := hW
      go_simp
    simp only [Act.put]
    refine AnyL.one 0 (by kernel_rfl) rfl ?_
    intro K' hK
    rw [if_pos (by rfl)]
    go_wp2_with fail
    refine hK.out _ _ (fun _ => ⟨(HKx2.out.drew.alloc _).cell 1, (HX2.out.bu.drew.alloc _).cell 0⟩) ?_
    clear hK
    refine AnyL.one 5 (by kernel_rfl) rfl ?_
    intro K' hK
    refine stepC _ rfl (.tmp 109) (.tmp 113) rfl V2.heap.size (.slice (some ⟨V2.heap.size, 0, none⟩) 0 0) [] rfl (by exact OwnC.fresh V2.drew _ (Nat.le_refl _)) V2.heap.size (some ⟨gu, ou, none⟩) cu (U.take j) j rfl (by exact (HR1.out.keep (fun _ _ => rfl)).alloc (Nat.le_refl _) _) (by simp; omega) (by simp) ?_
    intro A8 n8 c8 w8 ho8 hg8
    have HO8 : Hid (OwnC w8 V2.heap.size (.slice A8 n8 c8) (U.take j)) := Lib.hid ho8
    have HB8 : Hid (Below V2.heap.size V2 w8) := Lib.hid ((below_drew_allocG V2 _).grown hg8 (by simp) (fun g e => by simp [Value.ownBlock] at e; omega))
    refine hK.out _ _ (fun _ => ⟨(HKx2.out.below HB8.out l92).cell 1, (HX2.out.bu.below HB8.out lu2).cell 0⟩) ?_
    simp only [Act.put, List.setIfInBounds_toArray]
    clear hK ho8 hg8
    refine AnyL.one 11 (by kernel_rfl) rfl ?_
    intro K' hK
    refine stepC w8 rfl (.tmp 114) (.tmp 119) rfl V2.heap.size (.slice A8 n8 c8) (U.take j) rfl HO8.out V2.heap.size A' c' (U.drop (j + 1)) n' rfl (by exact HR2.out.below HB8.out) (by rw [HTl.out]; omega) HB8.out.size ?_
    intro A9 n9 c9 w9 ho9 hg9
    have HO9 := Lib.hid ho9
    have HB9 : Hid (Below V2.heap.size V2 w9) := Lib.hid (HB8.out.grown hg9 HB8.out.size (fun g e => ownC_base HO8.out g e))
    have cu9 : w9.cell? ⟨xu, 0, none⟩ = some (.slice (some ⟨gu, ou, none⟩) U.length cu) := (HX2.out.bu.below HB9.out lu2).cell 0
    have fu9 : w9.frozen? ⟨xu, 0, none⟩ = false := (HX2.out.bu.below HB9.out lu2).frozen 0
    refine hK.out _ _ (fun _ => ⟨(HKx2.out.below HB9.out l92).cell 1, cu9⟩) ?_
    simp only [Act.put]
    clear hK ho9 hg9
    refine AnyL.one 12 (by kernel_rfl) rfl ?_
    intro K' hK
    rw [if_pos (by rfl)]
    go_wp2_with fail
    refine hK.out _ _ (fun h => absurd rfl h) ?_
    clear hK
    refine AnyL.done (by kernel_rfl) ?_ _
    refine NoPanic.normal ?_
    have HX9 := Lib.hid (HX2.out.putU (V' := w9) HOr.out ⟨HB9.out.os, HB9.out.tape, HB9.out.output, HB9.out.size, fun k hk _ => HB9.out.block k hk⟩ (vu' := .slice A9 n9 c9) (U' := U.take j ++ U.drop (j + 1)) (OwnC.lower HO9.out (by have := HX2.out.bu.lt; omega)))
    have HUd : Hid ((U.take j ++ U.drop (j + 1)).length ≤ U.length) := Lib.hid (by rw [List.length_append, List.length_take, List.length_drop]; omega)
    go_wp2_with fail
    refine ⟨⟨i + 1, ds, Ac, nc, cc, rfl, by omega, P, fb, ts, U.take j ++ U.drop (j + 1), Af, nf, cf, At, nt, ct, Ap, np, cp, A9, n9, c9, ⟨by have := HPi.out; omega, by have h1 := HPi.out; have h2 := HUd.out; omega⟩, HM.out.dv.lose j, HX9.out⟩, ?_⟩
    show n - ((i : Int) + 1).toNat < n - ((i : Int)).toNat
    omega
  case neg =>
  go_wp2_with fail
  exact ⟨ds, Ac, nc, cc, rfl, P, fb, ts, U, Af, nf, cf, At, nt, ct, Ap, np, cp, Au, nu, cu, ⟨by have := HPi.out; omega, by have := HPi.out; omega⟩, HM.out.dv, HM.out.x.below ((Below.refl _ _).alloc (Nat.le_refl _) _)⟩
end Go.Proofs.Ytneijohbmphheaa.Pk
