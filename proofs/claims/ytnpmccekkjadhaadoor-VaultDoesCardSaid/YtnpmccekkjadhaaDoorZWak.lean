/- Two lists of lists, as far as they are the same. -/
import Derived.Test.YtnpmccekkjadhaaDoorZFrm
import Derived.Test.YtnpmccekkjadhaaDoorZMem
import Derived.LoopTactic
import Derived.Outline
import Derived.Lib.Hide
import Derived.Deep.QuietTactic
import Derived.BigQuiet
import Derived.Deep.RegionHeld3
import Derived.Deep.DeepMust
import Derived.Test.YtnpmccekkjadhaaDoorZVlt
import Derived.Lib.SlBytesConst
import Derived.Test.YtnpmccekkjadhaaDoorZMath
namespace Go.Proofs.YtnpmccekkjadhaaDoor.Pk
open Go.RowKit Go.Proofs.YtnpmccekkjadhaaDoor.Crc Go.Proofs.YtnpmccekkjadhaaDoor.Fr
set_option linter.unusedVariables false

/-- The first k lists of both are the same. -/
def LikeL (ps qs : List Piece) (k : Nat) : Prop := ∀ j p q, j < k → ps[j]? = some p → qs[j]? = some q → p.l = q.l
theorem like_all {ps qs : List Piece} (hl : ps.length = qs.length) (h : LikeL ps qs ps.length) : Piece.bytes ps = Piece.bytes qs := by
  unfold Piece.bytes
  apply List.ext_getElem (by simpa using hl)
  intro i h1 h2
  simp only [List.length_map] at h1 h2
  simp only [List.getElem_map]
  exact h i _ _ h1 (List.getElem?_eq_getElem h1) (List.getElem?_eq_getElem h2)
theorem like_not {ps qs : List Piece} {k : Nat} {p q : Piece} (hp : ps[k]? = some p) (hq : qs[k]? = some q) (h : p.l ≠ q.l) : decide (Piece.bytes ps = Piece.bytes qs) = false := by
  simp only [decide_eq_false_iff_not]
  intro e
  have := congrArg (fun l => l[k]?) e
  simp [Piece.bytes, hp, hq] at this
  exact h this

end Go.Proofs.YtnpmccekkjadhaaDoor.Pk

/- The walk of the statements' own 'same': two lists of bytes are the same. -/
namespace Go.Proofs.YtnpmccekkjadhaaDoor.Pk
open Go.RowKit
set_option linter.unusedVariables false

/-- The first k bytes of both are the same. -/
def Alike (l r : List Int) (k : Nat) : Prop := ∀ j, j < k → l.getD j 0 = r.getD j 0
theorem alike_all {l r : List Int} (h : Alike l r l.length) (hl : l.length = r.length) : l = r := by
  apply List.ext_getElem hl
  intro i h1 h2
  have := h i h1
  rw [List.getD_eq_getElem?_getD, List.getD_eq_getElem?_getD, List.getElem?_eq_getElem h1, List.getElem?_eq_getElem h2] at this
  simpa using this
theorem alike_not {l r : List Int} {k : Nat} (h : l.getD k 0 ≠ r.getD k 0) : decide (l = r) = false := by
  simp only [decide_eq_false_iff_not]
  intro e; exact h (by rw [e])
theorem alike_succ {l r : List Int} {k : Nat} (h : Alike l r k) (e : l.getD k 0 = r.getD k 0) : Alike l r (k + 1) := by
  intro j hj
  rcases Nat.lt_or_ge j k with h1 | h1
  · exact h j h1
  · obtain rfl : j = k := by omega
    exact e
theorem alike_len {l r : List Int} (h : l.length ≠ r.length) : decide (l = r) = false := by
  simp only [decide_eq_false_iff_not]
  intro e; exact h (by rw [e])

set_option maxHeartbeats 800000 in
theorem same_any (A A' : Option Addr) (n c n' c' : Nat) (l r : List Int) (w : World) (B B' : Nat) (hl : Reads w B 1 A n (bts l)) (hr : Reads w B' 1 A' n' (bts r)) (hn : n ≤ 4611686018427387904) :
    Calls Tryd.prog 23 #[.slice A n c, .slice A' n' c'] w fun e w' => e = .returned (.bool (decide (l = r))) ∧ ∃ k, w' = w.drewN k := by
  have HL : Hid (l.length = n) := by have := hl.1; simp at this; exact this
  have HR : Hid (r.length = n') := by have := hr.1; simp at this; exact this
  have RL := Lib.hid hl
  have RR := Lib.hid hr
  clear hl hr
  by_cases hnn : n = n'
  · subst hnn
    go_enter Tryd.func23, Tryd.ntmps23
    go_wp2
    go_loopw [5, 13] (fun i j wr => ∃ (k q : Nat), j = .int .i64 k ∧ k ≤ n ∧ Alike l r k ∧ wr = w.drewN q) (fun _ j _ => n - (intOf j).toNat)
    case atStart => exact ⟨0, 0, rfl, by omega, fun j hj => by omega, rfl⟩
    case round =>
      obtain ⟨k, q, rfl, hk, ht, rfl⟩ := hrel
      have HT := Lib.hid ht
      clear ht
      by_cases hlt : k < n
      · obtain ⟨b, off, rfl, hbb, hc⟩ := RL.out.u8 (by omega)
        obtain ⟨b', off', rfl, hbb', hc'⟩ := RR.out.u8 (by omega)
        have hx := hc k hlt
        have hy := hc' k hlt
        clear hc hc'
        obtain ⟨x, hxx⟩ : ∃ x, x = l.getD k 0 := ⟨_, rfl⟩
        obtain ⟨y, hyy⟩ : ∃ y, y = r.getD k 0 := ⟨_, rfl⟩
        rw [← hxx] at hx
        rw [← hyy] at hy
        have HX := Lib.hid hxx
        have HY := Lib.hid hyy
        clear hxx hyy
        by_cases hxy : x = y
        · have HE : Hid (l.getD k 0 = r.getD k 0) := by rw [← HX.out, ← HY.out, hxy]; rfl
          have hne : (y != y) = false := by simp
          subst hxy
          go_wp2
          go_quiet (fail)
          go_wp2
          go_roundw
          case rel => exact ⟨k + 1, _, by go_num, by omega, alike_succ HT.out HE.out, rfl⟩
          case measure => simp [intOf]; omega
        · have HE : Hid (decide (l = r) = false) := alike_not (k := k) (by rw [← HX.out, ← HY.out]; exact hxy)
          have hne : (x != y) = true := by simp [hxy]
          go_wp2
          go_quiet (fail)
          go_wp2
          go_ret
          exact ⟨by rw [HE.out]; rfl, _, World.drewN_drewN _ _ _⟩
      · have HE : Hid (decide (l = r) = true) := by
          have : k = n := by omega
          subst this
          rw [decide_eq_true_eq]
          exact alike_all (by rw [HL.out]; exact HT.out) (by rw [HL.out, HR.out])
        go_wp2
        go_ret
        exact ⟨by rw [HE.out]; rfl, _, rfl⟩
  · have hne : ((n : Int) == (n' : Int)) = false := by simp; omega
    have hne : ((n : Int) != (n' : Int)) = true := by simp; omega
    have HE : Hid (decide (l = r) = false) := alike_len (by rw [HL.out, HR.out]; exact hnn)
    go_enter Tryd.func23, Tryd.ntmps23
    go_wp2
    go_ret
    exact ⟨by rw [HE.out]; rfl, 0, rfl⟩
end Go.Proofs.YtnpmccekkjadhaaDoor.Pk

/- The law's own 'alike'. -/
namespace Go.Proofs.YtnpmccekkjadhaaDoor.Pk
open Go.RowKit Go.Proofs.YtnpmccekkjadhaaDoor.Crc Go.Proofs.YtnpmccekkjadhaaDoor.Fr
set_option linter.unusedVariables false

set_option maxHeartbeats 1600000 in
theorem alike_any (A A' : Option Addr) (n c n' c' : Nat) (ps qs : List Piece) (w : World) (B B' : Nat) (hp : RdL w B A n ps) (hq : RdL w B' A' n' qs) (hn : n ≤ 4611686018427387904) :
    Calls Tryd.prog 24 #[.slice A n c, .slice A' n' c'] w fun e w' => e = .returned (.bool (decide (Piece.bytes ps = Piece.bytes qs))) ∧ ∃ k, w' = w.drewN k := by
  have HL : Hid (ps.length = n ∧ qs.length = n') := Lib.hid ⟨hp.len, hq.len⟩
  have HP := Lib.hid hp
  have HQ := Lib.hid hq
  clear hp hq
  by_cases hnn : n = n'
  · subst hnn
    go_enter Tryd.func24, Tryd.ntmps24
    go_wp2
    go_loopw [5, 13] (fun _ j wr => ∃ (k d : Nat), j = .int .i64 k ∧ k ≤ n ∧ LikeL ps qs k ∧ wr = w.drewN d) (fun _ j _ => n - (intOf j).toNat)
    case atStart => exact ⟨0, 0, rfl, by omega, fun j _ _ hj => by omega, rfl⟩
    case round =>
      obtain ⟨k, d, rfl, hk, ht, rfl⟩ := hrel
      have HT := Lib.hid ht
      clear ht
      by_cases hlt : k < n
      · obtain ⟨b, off, p, rfl, hpk, hpm, _, hx⟩ := HP.out.at_ hlt
        obtain ⟨b', off', q, rfl, hqk, hqm, _, hy⟩ := HQ.out.at_ hlt
        have HPk := Lib.hid hpk
        have HQk := Lib.hid hqk
        have HS := Lib.hid (fun z => same_any p.a q.a p.n p.c q.n q.c p.l q.l (w.drewN z) B B' ((HP.out.2 p hpm).1) ((HQ.out.2 q hqm).1) (HP.out.2 p hpm).2)
        clear hpk hqk hpm hqm
        by_cases he : p.l = q.l
        · rw [decide_eq_true he] at HS
          have HN : Hid (LikeL ps qs (k + 1)) := Lib.hid (fun j p' q' hj h1 h2 => by
            rcases Nat.lt_or_ge j k with h | h
            · exact HT.out j p' q' h h1 h2
            · obtain rfl : j = k := by omega
              rw [HPk.out] at h1
              rw [HQk.out] at h2
              injection h1 with h1
              injection h2 with h2
              rw [← h1, ← h2]; exact he)
          clear he
          go_wp2_with fail
          go_region_held3 (fun w' => w'.cell? ⟨b, off + k, none⟩ = some (.slice p.a p.n p.c) ∧ w'.cell? ⟨b', off' + k, none⟩ = some (.slice q.a q.n q.c)) (first | exact ⟨hx, hy⟩ | go_keep) (first
            | (go_at_call 23; go_must (refine (HS.out (d + 1)).mono ?_; rintro e w' ⟨rfl, z, rfl⟩)))
          all_goals
            go_wp2
            go_roundw
            case rel => exact ⟨k + 1, _, by go_num, by omega, HN.out, rfl⟩
            case measure => simp [intOf]; omega
        · rw [decide_eq_false he] at HS
          have HF : Hid (decide (Piece.bytes ps = Piece.bytes qs) = false) := Lib.hid (like_not HPk.out HQk.out he)
          clear he
          go_wp2_with fail
          go_region_held3 (fun w' => w'.cell? ⟨b, off + k, none⟩ = some (.slice p.a p.n p.c) ∧ w'.cell? ⟨b', off' + k, none⟩ = some (.slice q.a q.n q.c)) (first | exact ⟨hx, hy⟩ | go_keep) (first
            | (go_at_call 23; go_must (refine (HS.out (d + 1)).mono ?_; rintro e w' ⟨rfl, z, rfl⟩)))
          all_goals
            go_wp2
            go_ret
            exact ⟨by rw [HF.out]; rfl, _, rfl⟩
      · obtain rfl : k = n := by omega
        have HF : Hid (decide (Piece.bytes ps = Piece.bytes qs) = true) := Lib.hid (decide_eq_true (like_all (by rw [HL.out.1, HL.out.2]) (by rw [HL.out.1]; exact HT.out)))
        go_wp2
        go_ret
        exact ⟨by rw [HF.out]; rfl, d, rfl⟩
  · have HF : Hid (decide (Piece.bytes ps = Piece.bytes qs) = false) := Lib.hid (by
      simp only [decide_eq_false_iff_not]
      intro e
      have := congrArg List.length e
      simp only [Piece.bytes, List.length_map] at this
      rw [HL.out.1, HL.out.2] at this
      exact hnn this)
    have t1 : ((n : Int) != (n' : Int)) = true := by simp; omega
    clear hnn
    go_enter Tryd.func24, Tryd.ntmps24
    go_wp2
    go_ret
    exact ⟨by rw [HF.out]; rfl, 0, rfl⟩
end Go.Proofs.YtnpmccekkjadhaaDoor.Pk

/- The law's own 'wakes'. -/
namespace Go.Proofs.YtnpmccekkjadhaaDoor.Vk
open Go.Proofs.YtnpmccekkjadhaaDoor.Crc Go.Proofs.YtnpmccekkjadhaaDoor.Fr Go.Proofs.YtnpmccekkjadhaaDoor.Dk
theorem new_calm (a b : List Int) : Calm (DK.new a b) := ⟨rfl, rfl⟩
/-- A new disk's vault. -/
theorem opn_new (s : List Int) (hs : s.length ≤ 1048568) : ∃ d', opn (DK.new [] []) s = (0, d', some ⟨0, 1, s, [], 0⟩) ∧ Fresh d' ⟨0, 1, s, [], 0⟩ := by
  obtain ⟨d', v, h1, h2⟩ := opn_calm (new_calm [] []) (fun x hx => by simp [DK.new, FL.all] at hx) (fun x hx => by simp [DK.new, FL.all] at hx) s hs
  have h3 := h1
  unfold opn at h3
  rw [if_neg (by omega), if_neg (by simp [DK.new]), if_pos (by
    have : (DK.get (DK.new [] []) (fileOf (DK.new [] []))).all = [] := by unfold DK.get; split <;> rfl
    rw [this, gen_nil])] at h3
  have h4 : (runs (opsNew (DK.new [] []) s) (DK.new [] [])).1 = 0 := congrArg Prod.fst h3
  have h5 := congrArg (fun x => x.2.2) h3
  simp only [h4, if_true] at h5
  injection h5 with h5
  subst h5
  exact ⟨d', h1, h2⟩
theorem Fresh.bytes {d : DK} {v : VK} (h : Fresh d v) (hs : Bytes v.s) (hr : ∀ r ∈ v.rs, Bytes r) : Bytes d.f0.all ∧ Bytes d.f1.all := by
  have hm : Bytes (d.get v.file).all := by rw [h.all]; exact (fg_bytes hs).app (encs_bytes hr)
  have ho : Bytes (d.get (1 - v.file)).all := by rw [h.other]; intro x hx; simp [FL.all] at hx
  rcases h.file with e | e <;> rw [e] at hm ho
  · exact ⟨hm, ho⟩
  · exact ⟨ho, hm⟩
end Go.Proofs.YtnpmccekkjadhaaDoor.Vk
namespace Go.Proofs.YtnpmccekkjadhaaDoor.Pk
open Go.RowKit Go.Proofs.YtnpmccekkjadhaaDoor.Crc Go.Proofs.YtnpmccekkjadhaaDoor.Fr Go.Proofs.YtnpmccekkjadhaaDoor.Dk Go.Proofs.YtnpmccekkjadhaaDoor.Vk
set_option linter.unusedVariables false
/-- The text of the bytes that a slice reads as. -/
theorem conv_b {w : World} {B n : Nat} {A : Option Addr} {l : List Int} (h : Reads w B 1 A n (bts l)) (c : Nat) : (convert 22 9 (.slice A n c)).run Tryd.prog w = .ok (.string (strOfNums l)) w := by
  have hlen : l.length = n := by have := h.1; simp at this; exact this
  rcases A with _ | ad
  · have h0 := h.nil rfl
    subst h0
    obtain rfl : l = [] := List.length_eq_zero_iff.1 hlen
    exact run_convert_bytes_nil w 22 5 Tryd.underlying22 Tryd.underlying5 0 c 9 Tryd.underlying9
  · have hl : (loadCells ad n).run Tryd.prog w = .ok (l.map (Value.int .u8)).toArray w := by
      have := run_loadCells_list (P := Tryd.prog) w ad (l.map (Value.int .u8)) (fun j v hj => by
        have hjn : 0 < n := by
          rcases Nat.eq_zero_or_pos n with h1 | h1
          · obtain rfl : l = [] := List.length_eq_zero_iff.1 (by omega)
            simp at hj
          · exact h1
        obtain ⟨ad', e, _, hc⟩ := h.2 hjn
        injection e with e
        subst e
        exact hc j v hj)
      simpa [hlen] using this
    rw [run_convert_bytes_string w 22 9 5 _ n c Tryd.underlying22 Tryd.underlying5 Tryd.underlying9, run_bytesToString w _ n c l hl, foldl_push_bytes]
    simp [strOfNums, ByteArray.empty, ByteArray.emptyWithCapacity]
    rfl


/-- A vault whose blocks are all newer than world w0, which stands otherwise. -/
structure AtV (w0 : World) (Q R : Nat) (d : DK) (v : VK) (U : Nat → Prop) (w : World) : Prop where
  mod : ModP w Q R d v U
  new : ∀ b, U b → w0.heap.size ≤ b
  bel : Below w0.heap.size w0 w
section
variable {w0 w w' : World} {Q R : Nat} {d d' : DK} {v v' : VK} {U U' : Nat → Prop}
theorem AtV.next (h : AtV w0 Q R d v U w) (hb : Below w.heap.size w w') : AtV w0 Q R d v U w' := ⟨h.mod.next hb, h.new, h.bel.trans (hb.mono h.bel.size)⟩
theorem AtV.step (h : AtV w0 Q R d v U w) (k : ModP w' Q R d' v' U') (t : Turned U w w') (g : From U U' w) : AtV w0 Q R d' v' U' w' := ⟨k, from_base g h.new h.bel.size, t.below h.bel h.bel.size h.new⟩
theorem AtV.aft {x : Int} {e : Ending} (h : AtV w0 Q R d v U w) (k : AftP Q R d' v' U w x e w') : e = .returned (.int .i64 x) ∧ ∃ U', AtV w0 Q R d' v' U' w' := by
  obtain ⟨e1, U', h2, t, g⟩ := k
  exact ⟨e1, U', h.step h2 t g⟩
theorem AtV.zero (h : AtV w0 Q R d v U w) (ht : Tab w0) : ¬ U 0 := fun hu => by have := h.new 0 hu; have := ht.pos; omega
theorem AtV.tab (h : AtV w0 Q R d v U w) (ht : Tab w0) : Tab w := ht.next h.bel
end
set_option maxRecDepth 100000 in
set_option maxHeartbeats 4000000 in
theorem wakes_any (openC : OpenC) (appendC : AppendC) (w : World) (h : Tab w) : Calls Tryd.prog 8 #[] w fun e w' => e = .returned (.bool true) ∧ Below w.heap.size w w' := by
  have HT := Lib.hid h
  have HO := Lib.hid openC
  have HA := Lib.hid appendC
  have hp := h.pos
  have HP := Lib.hid hp
  clear h openC appendC hp
  obtain ⟨d1, e1, f1⟩ := opn_new [115] (by simp)
  have HE1 := Lib.hid e1
  have HF1 := Lib.hid f1
  obtain ⟨d2, e2, f2⟩ := apd_fresh f1 [97] (by simp)
  have HE2 := Lib.hid e2
  have HF2 := Lib.hid f2
  obtain ⟨e3, f3, _⟩ := opn_fresh f2 [] (by simp)
  have HE3 := Lib.hid e3
  have fit0 : (DK.new [] []).fit 0 0 := DK.fit.new [] [] (by simp) (by simp)
  have fit1 := opn_fit fit0 [115]
  rw [e1] at fit1
  have fit2 := apd_fit fit1 ⟨0, 1, [115], [], 0⟩ [97]
  rw [e2] at fit2
  have HT1 := Lib.hid fit1
  have HT2 := Lib.hid fit2
  have HT0 := Lib.hid fit0
  clear e1 f1 e2 f2 e3 f3 fit0 fit1 fit2
  have kc := fun (w : World) (C : Array Value) (n c : Nat) => Lib.run_convert_bytes_const (P := Tryd.prog) w 22 5 C n c Tryd.underlying22 Tryd.underlying5
  go_enter Tryd.func8, Tryd.ntmps8
  go_wp2_with fail
  refine (new_any w).mono ?_
  rintro e w1 ⟨R, S, rfl, hD, hS, hb1⟩
  have HB1 := Lib.hid hb1
  have HD1 := Lib.hid hD
  have HS1 := Lib.hid hS
  have hs1 := hb1.size
  clear hb1 hD hS
  go_wp2_with fail
  obtain ⟨w2, hw2⟩ : ∃ w2, w2 = w1.alloc (.cells #[.int .u8 115] 5 (1, 2)) := ⟨_, rfl⟩
  have hb2 : Below w1.heap.size w1 w2 := hw2 ▸ (Below.refl _ _).alloc (Nat.le_refl _) _
  have hrd : Reads w2 w2.heap.size 1 (some ⟨w1.heap.size, 0, none⟩) 1 (bts [115]) := by
    rw [hw2]
    exact reads_marked w1 _ _ _ _ 1 (bts [115]) rfl rfl (by simp)
  rw [← hw2]
  have HB2 := Lib.hid (HB1.out.trans (hb2.mono hs1))
  refine (HO.out R _ 1 1 [115] (DK.new [] []) S w2 (HT.out.next HB2.out) (fun h0 => by have := HS1.out 0 h0; have := HP.out; omega) (HD1.out.next hb2) hrd (Nat.le_refl _) (by unfold Bytes; decide) ⟨fun x hx => by simp [DK.new, FL.all] at hx, fun x hx => by simp [DK.new, FL.all] at hx⟩
    (fun _ ad e hs => by injection e with e; have := HD1.out.lt ad.block hs; rw [← e] at this; exact Nat.lt_irrefl _ this) (by omega) 0 0 HT0.out (by omega) (by omega)).mono ?_
  rintro e w3 hop
  unfold OpnP at hop
  rw [HE1.out] at hop
  rcases hop with ⟨hne, _⟩ | ⟨_, v, Q, vs, vr, U, lo, hi, hv, rfl, hm, ht3, hf3, hlo, hhi, hsn, hrc, hap⟩
  · exact absurd rfl hne
  injection hv with hv
  subst hv
  obtain ⟨As, ns, cs, rfl, hns, hls, hrs, _⟩ := hsn
  obtain ⟨Ar, nr, cr, ps, rfl, hps, hrr, _, _⟩ := hrc
  have hnr : nr = 0 := by
    have h2 : ps = [] := by have h3 : ps.map (·.l) = [] := hps; simpa using h3
    have h1 := hrr.len
    rw [h2] at h1
    exact h1.symm
  subst hnr
  simp only [List.length_cons, List.length_nil] at hls
  subst hls
  have hV : AtV w Q R d1 ⟨0, 1, [115], [], 0⟩ U w3 := ⟨hm, from_base hf3 (fun b hb => HS1.out b hb) HB2.out.size, ht3.below HB2.out HB2.out.size HS1.out⟩
  have cv := conv_b hrs cs
  rw [show strOfNums [115] = ⟨#[115]⟩ from rfl] at cv
  have HV := Lib.hid hV
  clear hw2 hb2 hrd hm ht3 hf3 hlo hhi hrs hrr hps hap hV
  go_wp2_with fail
  obtain ⟨w4, hw4⟩ : ∃ w4, w4 = w3.alloc (.cells #[.int .u8 97] 5 (1, 2)) := ⟨_, rfl⟩
  have hb4 : Below w3.heap.size w3 w4 := hw4 ▸ (Below.refl _ _).alloc (Nat.le_refl _) _
  have hrd : Reads w4 w4.heap.size 1 (some ⟨w3.heap.size, 0, none⟩) 1 (bts [97]) := by
    rw [hw4]
    exact reads_marked w3 _ _ _ _ 1 (bts [97]) rfl rfl (by simp)
  have hV4 := HV.out.next hb4
  rw [← hw4]
  refine (HA.out Q R _ 1 1 [97] d1 _ U w4 (hV4.tab HT.out) (hV4.zero HT.out) hV4.mod hrd (Nat.le_refl _) (by unfold Bytes; decide)
    (fun _ ad e hs => by injection e with e; have := HV.out.mod.lt ad.block hs; rw [← e] at this; exact Nat.lt_irrefl _ this) (.inl rfl) (by omega) (by simp) _ _ HT1.out (by simp) (by omega)).mono ?_
  rintro e w5 hap5
  rw [HE2.out] at hap5
  obtain ⟨rfl, U5, hV5⟩ := hV4.aft hap5
  have HV5 := Lib.hid hV5
  clear hw4 hb4 hrd hV4 hap5 hV5
  go_wp2_with fail
  obtain ⟨S5, hD5, hSU, _⟩ := HV5.out.mod.disk
  refine (HO.out R none 0 0 [] d2 S5 w5 (HV5.out.tab HT.out) (fun h0 => HV5.out.zero HT.out (hSU 0 h0)) hD5 Reads.none_ (Nat.le_refl _) (fun x hx => by simp at hx) (HF2.out.bytes (by unfold Bytes; decide) (fun r hr => by simp at hr; subst hr; unfold Bytes; decide))
    (fun h0 => by omega) (by omega) _ _ HT2.out (by simp) (by omega)).mono ?_
  rintro e w6 hop
  unfold OpnP at hop
  rw [HE3.out] at hop
  rcases hop with ⟨hne, _⟩ | ⟨_, v, Q6, vs, vr, U6, lo, hi, hv, rfl, hm, ht6, hf6, hlo, hhi, hsn, hrc, hap⟩
  · exact absurd rfl hne
  injection hv with hv
  subst hv
  obtain ⟨As6, ns6, cs6, rfl, hns, hls, hrs, _⟩ := hsn
  obtain ⟨Ar6, nr6, cr6, ps, rfl, hps, hrr, _, _⟩ := hrc
  simp only [List.length_cons, List.length_nil] at hls
  subst hls
  have hps1 : ∃ p, ps = [p] ∧ p.l = [97] := by
    have h3 : ps.map (·.l) = [[97]] := hps
    rcases ps with _ | ⟨p, _ | ⟨q, r⟩⟩
    · simp at h3
    · exact ⟨p, rfl, by simpa using h3⟩
    · simp at h3
  obtain ⟨p, rfl, hpl⟩ := hps1
  have hnr : nr6 = 1 := hrr.len.symm
  subst hnr
  obtain ⟨b, off, p', rfl, hp', hpm, hbb, hx⟩ := hrr.at_ (k := 0) (by omega)
  obtain rfl : p = p' := by simpa using hp'
  have hrp := (hrr.2 p hpm).1
  have hpn : p.n = 1 := by have := hrp.1; rw [hpl] at this; simp at this; omega
  have cv := conv_b hrs cs6
  rw [show strOfNums [115] = ⟨#[115]⟩ from rfl] at cv
  have cp := conv_b hrp p.c
  rw [hpl, show strOfNums [97] = ⟨#[97]⟩ from rfl] at cp
  rw [Nat.add_zero] at hx
  have HB6 : Hid (Below w.heap.size w w6) := Lib.hid (ht6.below HV5.out.bel HV5.out.bel.size (fun b hb => HV5.out.new b (hSU b hb)))
  obtain ⟨pa, pn, pc, pl⟩ := p
  simp only at hx cp hpn
  clear hm ht6 hf6 hlo hhi hrs hrr hps hap hrp hpm hp' hpl hpn hD5 hSU
  go_wp2
  go_ret
  exact ⟨rfl, HB6.out⟩
end Go.Proofs.YtnpmccekkjadhaaDoor.Pk

/- A disk's bytes stay bytes. -/
namespace Go.Proofs.YtnpmccekkjadhaaDoor.Pk
open Go.RowKit Go.Proofs.YtnpmccekkjadhaaDoor.Crc Go.Proofs.YtnpmccekkjadhaaDoor.Fr Go.Proofs.YtnpmccekkjadhaaDoor.Dk Go.Proofs.YtnpmccekkjadhaaDoor.Vk
set_option linter.unusedVariables false
theorem DkB.put {d : DK} (h : DkB d) (f : Int) {x : FL} (hx : Bytes x.all) : DkB (d.put f x) := by
  unfold DK.put
  split
  · exact ⟨h.1, hx⟩
  · exact ⟨hx, h.2⟩
theorem lose_bytes {x : FL} (h : Bytes x.all) (k : Int) : Bytes (x.lose k).all := by
  intro y hy
  simp only [FL.lose, FL.all, List.append_nil] at hy
  refine h y ?_
  unfold FL.all
  rcases List.mem_append.1 hy with h1 | h1
  · exact List.mem_append_left _ h1
  · exact List.mem_append_right _ (List.mem_of_mem_take h1)
theorem DkB.offs {d : DK} (h : DkB d) (k : Int) : DkB (d.offs k) := by
  unfold DK.offs
  split
  · exact ⟨lose_bytes h.1 k, lose_bytes h.2 k⟩
  · exact h
theorem DkB.raw {d : DK} (h : DkB d) : DkB d.raw := by
  unfold DK.raw
  split
  · exact DkB.offs (d := d.count) h d.keep
  · exact h
theorem DkB.dk {d : DK} (h : DkB d) (o : Ro) (hb : ∀ f b, o = .A f b → Bytes b) : DkB (o.dk d) := by
  cases o with
  | A f b =>
    show DkB (d.app f b)
    unfold DK.app
    split
    · refine DkB.raw (h.put f ?_)
      show Bytes ((d.get f).s ++ ((d.get f).w ++ b))
      rw [← List.append_assoc]
      exact (h.get f).app (hb f b rfl)
    · exact h
  | S f =>
    show DkB (d.syn f)
    unfold DK.syn
    split
    · split
      · exact h.raw
      · refine h.raw.put f ?_
        show Bytes ((d.get f).all ++ [])
        rw [List.append_nil]
        exact h.get f
    · exact h
  | T f n =>
    show DkB (d.tru f n)
    unfold DK.tru
    split
    · split
      · exact h.raw
      · refine h.raw.put f ?_
        intro y hy
        refine h.get f y ?_
        unfold FL.all at hy ⊢
        rcases List.mem_append.1 hy with h1 | h1
        · exact List.mem_append_left _ (List.mem_of_mem_take h1)
        · exact List.mem_append_right _ (List.mem_of_mem_take h1)
    · exact h
theorem DkB.runs {os : List Ro} {d : DK} (h : DkB d) (hb : ∀ o ∈ os, ∀ f b, o = .A f b → Bytes b) : DkB (runs os d).2 := by
  induction os generalizing d with
  | nil => exact h
  | cons o os ih =>
    have h1 := h.dk o (hb o (by simp))
    unfold Vk.runs
    split
    · exact ih h1 (fun q hq => hb q (by simp [hq]))
    · exact h1
theorem DkB.opn {d : DK} (h : DkB d) {s : List Int} (hs : Bytes s) : DkB (opn d s).2.1 := by
  unfold Vk.opn
  split
  · exact h
  split
  · exact h
  split
  · refine h.runs (fun o ho f b e => ?_)
    subst e
    unfold opsNew at ho
    simp only [List.mem_append, List.mem_cons, List.not_mem_nil, or_false] at ho
    rcases ho with ho | (ho | ho) | ho
    · split at ho <;> simp at ho
    · injection ho with _ e; rw [e]; exact fg_bytes hs
    · cases ho
    · split at ho <;> simp at ho
  · refine h.runs (fun o ho f b e => ?_)
    subst e
    unfold opsOld at ho
    simp only [List.mem_append, List.mem_cons, List.not_mem_nil, or_false] at ho
    rcases ho with ho | ho | ho
    · split at ho <;> simp at ho
    · split at ho <;> simp at ho
    · cases ho
theorem DkB.apd {d : DK} (h : DkB d) (v : VK) {r : List Int} (hr : Bytes r) : DkB (apd d v r).2.1 := by
  unfold Vk.apd
  split
  · exact h
  split
  · refine h.runs (fun o ho f b e => ?_)
    subst e
    simp only [List.mem_cons, List.not_mem_nil, or_false] at ho
    rcases ho with ho | ho
    · injection ho with _ e; rw [e]; exact enc_bytes hr
    · cases ho
  · exact h
theorem DkB.ckp {d : DK} (h : DkB d) (v : VK) {s : List Int} (hs : Bytes s) : DkB (ckp d v s).2.1 := by
  unfold Vk.ckp
  split
  · exact h
  split
  · exact h
  split
  · have h1 : DkB (Vk.runs [.A (1 - v.file) (fg (v.g + 1) s), .S (1 - v.file)] d).2 := h.runs (fun o ho f b e => by
      subst e
      simp only [List.mem_cons, List.not_mem_nil, or_false] at ho
      rcases ho with ho | ho
      · injection ho with _ e; rw [e]; exact fg_bytes hs
      · cases ho)
    simp only
    split
    · exact h1.runs (fun o ho f b e => by
        subst e
        simp at ho)
    · exact h1
  · exact h
theorem fresh_few {d : DK} {v : VK} {M m : Nat} (h : Fresh d v) (hf : d.fit M m) : v.rs.length ≤ M := by
  have h1 := frames_count (fg v.g v.s ++ encs v.rs)
  rw [fresh_frames h.len h.fit] at h1
  have h2 := hf.get v.file
  rw [h.all] at h2
  simp only [List.length_cons] at h1
  omega
end Go.Proofs.YtnpmccekkjadhaaDoor.Pk

/- What stays true of a vault through its calls; plain mathematics. -/
namespace Go.Proofs.YtnpmccekkjadhaaDoor.Vk
open Go.Proofs.YtnpmccekkjadhaaDoor.Crc Go.Proofs.YtnpmccekkjadhaaDoor.Fr Go.Proofs.YtnpmccekkjadhaaDoor.Dk Go.Proofs.YtnpmccekkjadhaaDoor.Pk
set_option linter.unusedVariables false
/-- A vault's numbers: its file, no more than N records, its generation. -/
structure Vok (v : VK) (N : Nat) : Prop where
  file : v.file = 0 ∨ v.file = 1
  rs : v.rs.length ≤ N
  g : v.g ≤ 4611686018427387904
theorem Vok.mono {v : VK} {N N' : Nat} (h : Vok v N) (hN : N ≤ N') : Vok v N' := ⟨h.file, Nat.le_trans h.rs hN, h.g⟩
theorem opn_vok {d : DK} {s : List Int} {M m : Nat} (hf : d.fit M m) {v : VK} (h : (opn d s).2.2 = some v) : Vok v M := by
  unfold opn at h
  split at h
  · cases h
  split at h
  · cases h
  split at h
  · simp only at h
    split at h
    · injection h with h
      subst h
      exact ⟨.inl rfl, Nat.zero_le _, by show 1 ≤ _; omega⟩
    · cases h
  · simp only at h
    split at h
    · injection h with h
      subst h
      refine ⟨fileOf_ok d, ?_, gen_le _⟩
      show (recs _).length ≤ M
      have h1 := frames_count (d.get (fileOf d)).all
      have h2 := hf.get (fileOf d)
      unfold recs
      rw [List.length_tail]
      omega
    · cases h
theorem opn_slen {d : DK} {s : List Int} {v : VK} (h : (opn d s).2.2 = some v) : v.s.length ≤ 1048576 + s.length := by
  unfold opn at h
  split at h
  · cases h
  split at h
  · cases h
  split at h
  · simp only at h
    split at h
    · injection h with h
      subst h
      show s.length ≤ _
      omega
    · cases h
  · simp only at h
    split at h
    · injection h with h
      subst h
      show (snap _).length ≤ _
      have h1 := frames_fit (d.get (fileOf d)).all
      unfold snap
      rw [List.length_drop]
      cases hf : frames (d.get (fileOf d)).all with
      | nil => simp
      | cons p r =>
        have := h1 p (by rw [hf]; simp)
        simp only [List.headD_cons]
        omega
    · cases h
theorem apd_vok {d : DK} {v : VK} {r : List Int} {N : Nat} (h : Vok v N) : Vok (apd d v r).2.2 (N + 1) := by
  unfold apd
  split
  · exact h.mono (by omega)
  split
  · simp only
    split
    · exact ⟨h.file, by show (v.rs ++ [r]).length ≤ _; have := h.rs; simp; omega, h.g⟩
    · exact ⟨h.file, by show v.rs.length ≤ _; have := h.rs; omega, h.g⟩
  · exact h.mono (by omega)
theorem ckp_vok {d : DK} {v : VK} {s : List Int} {N : Nat} (h : Vok v N) : Vok (ckp d v s).2.2 N := by
  unfold ckp
  split
  · exact h
  split
  · exact h
  rename_i hg
  split
  · simp only
    split
    · exact ⟨by show 1 - v.file = 0 ∨ 1 - v.file = 1; have := h.file; omega, Nat.zero_le _, by show v.g + 1 ≤ _; omega⟩
    · exact ⟨h.file, h.rs, h.g⟩
  · exact h
/-- An answer other than OK leaves no vault; OK leaves one. -/
theorem opn_some {d : DK} {s : List Int} : ((opn d s).1 = 0 ∧ ∃ v, (opn d s).2.2 = some v) ∨ ((opn d s).1 ≠ 0 ∧ (opn d s).2.2 = none) := by
  unfold opn
  split
  · exact .inr ⟨by simp, rfl⟩
  split
  · exact .inr ⟨by simp, rfl⟩
  split
  · simp only
    by_cases h : (runs (opsNew d s) d).1 = 0
    · exact .inl ⟨h, by rw [if_pos h]; exact ⟨_, rfl⟩⟩
    · exact .inr ⟨h, by rw [if_neg h]⟩
  · simp only
    by_cases h : (runs (opsOld d (fileOf d)) d).1 = 0
    · exact .inl ⟨h, by rw [if_pos h]; exact ⟨_, rfl⟩⟩
    · exact .inr ⟨h, by rw [if_neg h]⟩
/-- Files alone: what is armed, and where the power goes or comes, makes no bytes. -/
theorem DkB.arm {d : DK} (h : DkB d) (n k : Int) : DkB (d.arm n k) := h
theorem DkB.ons {d : DK} (h : DkB d) : DkB d.ons := h
theorem fit_arm {d : DK} {M m : Nat} (h : d.fit M m) (n k : Int) (hn : n ≤ 9223372036854775807) (h0 : -9223372036854775808 ≤ k) (h1 : k ≤ 9223372036854775807) : (d.arm n k).fit M m := ⟨h.l0, h.l1, h.c, by simp [DK.arm]; omega, h0, h1⟩
theorem fit_ons {d : DK} {M m : Nat} (h : d.fit M m) : d.ons.fit M m := ⟨h.l0, h.l1, h.c, h.a, h.k0, h.k1⟩
end Go.Proofs.YtnpmccekkjadhaaDoor.Vk
