/- A tree's edges and walks as functions to range over: a round is told that what has come is a beginning of the whole. -/
import Derived.Test.YtohlgimbohkepaaTrWalk
import Derived.Test.YtohlgimbohkepaaRangeO
namespace Go.Proofs.Ytohlgimbohkepaa.Pk
open Go.RowKit Go.Shelf Go.Proofs.Ytohlgimbohkepaa.Gr
set_option linter.unusedVariables false

/-- A function that goes over pairs; a round is told that what has come is a beginning of them. -/
def SeqO (v : Value) (l : List (Int × Int)) (R : Nat → Prop) (w : World) : Prop :=
  ∃ gf lb, v = .func (.func gf) #[] lb ∧ (∀ args u, (callFunc gf args).run Try.prog u = .ok (.enter gf args) u) ∧ (∀ b, R b → b < w.heap.size) ∧
    ∀ m W, Stay R w W → GoesO m Try.prog gf #[] lb (fun x : Int × Int => #[Value.int .i64 x.1, Value.int .i64 x.2]) (Stay R) (fun ys => ys = l) (fun pre => pre <+: l) (fun pre x => pre ++ [x] <+: l) W
theorem SeqO.stay {v : Value} {l : List (Int × Int)} {R : Nat → Prop} {w W : World} (h : SeqO v l R w) (hs : Stay R w W) : SeqO v l R W := by
  obtain ⟨gf, lb, e, h1, h2, h3⟩ := h
  exact ⟨gf, lb, e, h1, fun b hb => Nat.lt_of_lt_of_le (h2 b hb) hs.1, fun m W' hW => h3 m W' (hs.trans hW)⟩
theorem SeqO.lt {v : Value} {l : List (Int × Int)} {R : Nat → Prop} {w : World} (h : SeqO v l R w) : ∀ b, R b → b < w.heap.size := by
  obtain ⟨_, _, _, _, h2, _⟩ := h
  exact h2
theorem SeqO.at_ {gf : Nat} {lb : Array Value} {l : List (Int × Int)} {R : Nat → Prop} {w : World} (h : SeqO (.func (.func gf) #[] lb) l R w) (m : Nat) :
    GoesO m Try.prog gf #[] lb (fun x : Int × Int => #[Value.int .i64 x.1, Value.int .i64 x.2]) (Stay R) (fun ys => ys = l) (fun pre => pre <+: l) (fun pre x => pre ++ [x] <+: l) w := by
  obtain ⟨gf', lb', e, _, _, h3⟩ := h
  injection e with e1 _ e2
  injection e1 with e1
  subst e1; subst e2
  exact h3 m w (Stay.refl _ _)

set_option maxRecDepth 100000 in
set_option maxHeartbeats 4000000 in
theorem edges1_inO (m l T g Bt : Nat) (ps : List Int) (G : Gr.Good ps) (J Jx : List (Int × Int) → World → Prop) (B : Nat) (hJ : OwnFrom B J)
    (hY : ∀ pre (x : Int × Int) W, J pre W → pre ++ [x] <+: edgesTo ps ps.length → YieldAt Fence.wide (m - 1) Try.prog l #[.int .i64 x.1, .int .i64 x.2] W fun e W' => KeepsAll B W W' ∧
      ((e = .returned (.bool true) ∧ J (pre ++ [x]) W' ∧ Stay (EdgeB T g Bt) W W') ∨ (e = .returned (.bool false) ∧ Jx (pre ++ [x]) W')))
    (W : World) (hB : B ≤ W.heap.size) (hP : EdgeAt W T g Bt ps) (h0 : J [] W) :
    CallsIn Fence.wide m Try.prog 35 #[.func (.yield l) #[] #[], .pointer (some ⟨Bt, 0, none⟩)] W fun e W' => (∃ v, e = .returned v) ∧
      ((∃ ys, ys = edgesTo ps ps.length ∧ J ys W') ∨ (∃ pre, pre <+: edgesTo ps ps.length ∧ Jx pre W')) := by
  have HP := Lib.hid hP
  have HS := Lib.hid (size_any T g ps W hP.1)
  have ct : W.cell? ⟨Bt, 0, none⟩ = some (.pointer (some ⟨T, 0, none⟩)) := hP.2.cell 0
  have HJ := Lib.hid hJ
  have HY := Lib.hid hY
  have HJ0 := Lib.hid h0
  obtain ⟨n, hn⟩ : ∃ n, n = ps.length := ⟨_, rfl⟩
  have HN := Lib.hid hn
  have hn32 : n ≤ 32 := by rw [hn]; exact G.few
  rw [← hn] at HS HY ⊢
  clear hP hY h0 hJ hn
  refine callsIn_of_wp Try.func35 rfl trivial ?_ rfl
  simp only [Try.ntmps35, List.size_toArray, List.length_cons, List.length_nil, Nat.reduceAdd, Nat.reduceSub, Array.replicate_succ, Array.replicate_zero, List.push_toArray, List.append_toArray, List.nil_append, List.cons_append]
  gi_wp2_with (refine ⟨trivial, hdd _, ?_⟩; gi_at_call 15; refine (callsIn_wide.2 HS.out).mono ?_; rintro e w1 ⟨rfl, hw⟩; rw [hw]; clear hw w1)
  clear ct
  gi_loopw [8] (fun j wr => ∃ k : Nat, j = .int .i64 k ∧ k ≤ n ∧ J (edgesTo ps k) wr ∧ EdgeAt wr T g Bt ps ∧ B ≤ wr.heap.size) (fun j _ => n - (intOf j).toNat)
  case atStart => exact ⟨0, rfl, by omega, HJ0.out, HP.out, hB⟩
  case round =>
    obtain ⟨k, rfl, hk, hJk, hE, hBw⟩ := hrel
    obtain ⟨w1, rfl⟩ : ∃ w1 : World, w1 = wr := ⟨_, rfl⟩
    have HJk := Lib.hid hJk
    have HE := Lib.hid hE
    clear hJk hE
    by_cases hlt : k < n
    · have ct : w1.cell? ⟨Bt, 0, none⟩ = some (.pointer (some ⟨T, 0, none⟩)) := HE.out.2.cell 0
      have HX := Lib.hid (nbrs_any T g ps (k : Int) w1 HE.out.1 G.few)
      have HNb : Hid (nbsI ps (k : Int) = nbs ps k ps.length) := Lib.hid (by have := HN.out; unfold nbsI; rw [if_pos (by omega)]; rfl)
      have HKn := Lib.hid hlt
      gi_wp2_with (refine ⟨trivial, hdd _, ?_⟩; gi_at_call 17; refine (callsIn_wide.2 HX.out).mono ?_; rintro e w2 ⟨x, rfl, hown, hb2⟩; rw [HNb.out] at hown; obtain ⟨A2, c2, rfl, hc2, _⟩ := hown.reads; have HO := Lib.hid (hown.base hBw); have HJ2 := Lib.hid (ownFrom_below HJ.out HJk.out hb2); have HE2 := Lib.hid (HE.out.below hb2); have hB2 := Nat.le_trans hBw hb2.size; clear hown hb2 ct)
      obtain ⟨L, hL⟩ : ∃ L, L = nbs ps k ps.length := ⟨_, rfl⟩
      obtain ⟨q, hq⟩ : ∃ q, q = L.length := ⟨_, rfl⟩
      have hq32 : q ≤ 32 := by rw [hq, hL]; exact Nat.le_trans (nbs_len ps k _) G.few
      rw [← hL] at HO hc2
      rw [← hL, ← hq]
      rw [← hq] at hc2
      have HLq := Lib.hid hq
      have HLd := Lib.hid hL
      clear hq hL HX
      gi_loopw [15] (fun j wr => ∃ i : Nat, j = .int .i64 i ∧ i ≤ q ∧ J (edgesTo ps k ++ rowE k (L.take i)) wr ∧ EdgeAt wr T g Bt ps ∧ B ≤ wr.heap.size ∧ OwnN wr B (.slice A2 q c2) L) (fun j _ => q - (intOf j).toNat)
      case atStart => exact ⟨0, rfl, by omega, by rw [List.take_zero]; show J (edgesTo ps k ++ []) w2; rw [List.append_nil]; exact HJ2.out, HE2.out, hB2, by rw [HLq.out]; exact HO.out⟩
      case round =>
        obtain ⟨i, rfl, hi, hJi, hEi, hBi, hOi⟩ := hrel
        obtain ⟨w3, rfl⟩ : ∃ w3 : World, w3 = wr := ⟨_, rfl⟩
        have HJi := Lib.hid hJi
        have HEi := Lib.hid hEi
        have HOi := Lib.hid hOi
        clear hJi hEi hOi
        by_cases hlt : i < q
        · obtain ⟨A3, c3, e3, _, hr3⟩ := HOi.out.reads
          rw [← HLq.out] at e3 hr3
          obtain ⟨rfl, rfl⟩ : A2 = A3 ∧ c2 = c3 := by injection e3 with h1 h2 h3; exact ⟨h1, h3⟩
          obtain ⟨b, off, rfl, hbb, hc⟩ := hr3.i64 (by omega)
          have cx := hc i hlt
          clear hc hr3 e3
          obtain ⟨v, hv⟩ : ∃ v, v = L.getD i 0 := ⟨_, rfl⟩
          rw [← hv] at cx
          have hget : L[i]? = some v := by rw [hv]; simp [List.getD, HLq.out ▸ hlt]
          have hmem : v ∈ nbs ps k ps.length := by rw [← HLd.out]; exact List.mem_of_getElem? hget
          obtain ⟨x, rfl, hx1, hx2⟩ := nbs_in hmem
          have HSn : Hid (rowE k (L.take (i + 1)) = if (k : Int) < (x : Int) then rowE k (L.take i) ++ [((k : Int), (x : Int))] else rowE k (L.take i)) := Lib.hid (by
            rw [List.take_add_one, hget]; exact rowE_snoc k (L.take i) (x : Int))
          clear hv hget hmem
          by_cases hkx : (k : Int) < (x : Int)
          · have HS2 : Hid (edgesTo ps k ++ rowE k (L.take i) ++ [((k : Int), (x : Int))] = edgesTo ps k ++ rowE k (L.take (i + 1))) := Lib.hid (by rw [HSn.out, if_pos hkx, List.append_assoc])
            have HPre : Hid (edgesTo ps k ++ rowE k (L.take (i + 1)) <+: edgesTo ps n) := Lib.hid (by
              have h1 : edgesTo ps k ++ rowE k (L.take (i + 1)) <+: edgesTo ps (k + 1) := by
                rw [edgesTo_succ, ← HLd.out]
                exact List.prefix_append_right_inj _ |>.2 (rowE_pre (List.take_prefix _ _))
              exact h1.trans (edgesTo_pre ps HKn.out))
            obtain ⟨fn, tmps, assign, body, hy, hR⟩ := HY.out _ ((k : Int), (x : Int)) w3 HJi.out (by rw [HS2.out]; exact HPre.out)
            try dsimp only at hy
            have HRR := Lib.hid hR
            have hkx2 : k < x := by omega
            clear hR
            gi_wp2
            refine ⟨hdd _, HRR.out.mono ?_⟩
            rintro e w4 ⟨hka, ⟨rfl, hJ4, hs4⟩ | ⟨rfl, hx4⟩⟩
            · have HJ4 := Lib.hid hJ4
              have HE4 := Lib.hid (HEi.out.stay hs4)
              have HO4 := Lib.hid (HOi.out.keepsAll hka)
              have hB4 := Nat.le_trans hBi hka.size
              rw [HS2.out] at HJ4
              clear hJ4 hs4 hka hy
              gi_wp2
              go_roundw
              case rel => exact ⟨i + 1, by go_num, by omega, HJ4.out, HE4.out, hB4, HO4.out⟩
              case measure => simp [intOf]; omega
            · have HX4 := Lib.hid hx4
              rw [HS2.out] at HX4
              clear hx4 hka hy
              gi_wp2
              first | go_end0 | refine bodyPost_ret (results_none rfl _ _ _) rfl ?_
              exact ⟨⟨_, rfl⟩, .inr ⟨_, HPre.out, HX4.out⟩⟩
          · have HS2 : Hid (rowE k (L.take (i + 1)) = rowE k (L.take i)) := Lib.hid (by rw [HSn.out, if_neg hkx])
            have hkx2 : (x : Int) ≤ (k : Int) := by omega
            clear hkx
            gi_wp2
            refine ⟨fun _ h => (by cases h), ?_⟩
            gi_wp2
            go_roundw
            case rel => exact ⟨i + 1, by go_num, by omega, by rw [HS2.out]; exact HJi.out, HEi.out, hBi, HOi.out⟩
            case measure => simp [intOf]; omega
        · have hi2 : i = q := by omega
          subst hi2
          have HJn : Hid (J (edgesTo ps (k + 1)) w3) := Lib.hid (by
            have h1 := HJi.out
            rw [List.take_of_length_le (by rw [← HLq.out]; exact Nat.le_refl _), HLd.out, ← edgesTo_succ] at h1
            exact h1)
          gi_wp2
          go_roundw
          case rel => exact ⟨k + 1, by go_num, by have := HKn.out; omega, HJn.out, HEi.out, hBi⟩
          case measure => have := HKn.out; simp [intOf]; omega
    · have hk2 : k = n := by omega
      subst hk2
      gi_wp2
      first | go_end0 | refine bodyPost_ret (results_none rfl _ _ _) rfl ?_
      exact ⟨⟨_, rfl⟩, .inl ⟨_, rfl, HJk.out⟩⟩

theorem edges_seqO (T g Bt : Nat) (ps : List Int) (G : Gr.Good ps) (w : World) (hP : EdgeAt w T g Bt ps) :
    SeqO (.func (.func 35) #[] #[.pointer (some ⟨Bt, 0, none⟩)]) (edgesTo ps ps.length) (EdgeB T g Bt) w := by
  refine ⟨_, _, rfl, enters_of Try.func35 (by kernel_rfl) rfl, hP.lt, ?_⟩
  intro m W hs l J Jx W1 hW hJ hJx hY h0
  have hs1 : Stay (EdgeB T g Bt) w W1 := hs.trans (Stay.below hW (fun b hb => Nat.lt_of_lt_of_le (hP.lt b hb) hs.1))
  exact edges1_inO m l T g Bt ps G J Jx W1.heap.size hJ hY W1 (Nat.le_refl _) (hP.stay hs1) h0
/-- What Edges and Walk leave. -/
def SeqOR (D : Nat → Prop) (l : List (Int × Int)) (w : World) (e : Ending) (w' : World) : Prop := ∃ v R, e = .returned v ∧ SeqO v l R w' ∧ Below w.heap.size w w' ∧ ∀ b, R b → D b ∨ w.heap.size ≤ b
theorem edges_codeO (T g : Nat) (ps : List Int) (w : World) (h : IsTr w T g ps) (G : Gr.Good ps) :
    Calls Try.prog 25 #[.pointer (some ⟨T, 0, none⟩)] w (SeqOR (TrB T g) (edgesTo ps ps.length) w) := by
  have HT := Lib.hid h
  clear h
  go_enter Try.func25, Try.ntmps25
  go_wp2
  go_ret
  have hb : Below w.heap.size w (w.alloc (.cells #[.pointer (some ⟨T, 0, none⟩)] 27)) := (Below.refl _ w).alloc (Nat.le_refl _) _
  refine ⟨_, EdgeB T g w.heap.size, rfl, edges_seqO T g w.heap.size ps G _ ⟨HT.out.below_ hb, Blk.new w _ _⟩, hb, ?_⟩
  rintro x (hx | rfl)
  · exact .inl hx
  · exact .inr (Nat.le_refl _)
set_option maxRecDepth 100000 in
set_option maxHeartbeats 4000000 in
theorem beyond_inO (l T g : Nat) (LL : List (Int × Int)) (R : Nat → Prop) (hR : ∀ b, TrB T g b → R b) (ps : List Int) (G : Gr.Good ps) (f : Nat) (hf : f < ps.length) (J Jx : List (Int × Int) → World → Prop) (B : Nat) (hJ : OwnFrom B J)
    (hY : ∀ m pre (x : Int × Int) W, J pre W → pre ++ [x] <+: LL → YieldAt Fence.wide m Try.prog l #[.int .i64 x.1, .int .i64 x.2] W fun e W' => KeepsAll B W W' ∧
      ((e = .returned (.bool true) ∧ J (pre ++ [x]) W' ∧ Stay R W W') ∨ (e = .returned (.bool false) ∧ Jx (pre ++ [x]) W'))) :
    ∀ (k m : Nat) (pre : List (Int × Int)) (W : World) (a : Nat) (back : Int), B ≤ W.heap.size → IsTr W T g ps → a < ps.length → ps.length ≤ distL ps f a + k → Whence ps f a back → J pre W → pre ++ walkQ ps f k a <+: LL →
      CallsIn Fence.wide m Try.prog 37 #[.pointer (some ⟨T, 0, none⟩), .int .i64 back, .int .i64 (a : Int), .int .i64 (distL ps f a : Int), .func (.yield l) #[] #[]] W fun e W' => KeepsAll B W W' ∧
        ((e = .returned (.bool true) ∧ J (pre ++ walkQ ps f k a) W' ∧ Stay (TrB T g) W W') ∨ (e = .returned (.bool false) ∧ ∃ q, q <+: walkQ ps f k a ∧ Jx (pre ++ q) W')) := by
  have HJ := Lib.hid hJ
  have HY := Lib.hid hY
  have HRs := Lib.hid hR
  clear hJ hY hR
  intro k
  induction k with
  | zero =>
    intro m pre W a back hB hT ha hk _ _ _
    have h1 : distL ps f a < ps.length := G.rt.dist_lt hf ha
    omega
  | succ k ih =>
    intro m pre W a back hB hT ha hk hw hJ0 hN
    have HI := Lib.hid ih
    have HW := Lib.hid hw
    have HA := Lib.hid ha
    have HT := Lib.hid hT
    have HNl := Lib.hid hN
    have hd32 : distL ps f a < 32 := Nat.lt_of_lt_of_le (G.rt.dist_lt hf ha) G.few
    have hlen : pre ++ [((a : Int), (distL ps f a : Int))] <+: LL := by
      rw [walkQ_succ] at hN
      exact List.IsPrefix.trans (List.prefix_append_right_inj _ |>.2 ⟨_, rfl⟩) hN
    obtain ⟨d, hd⟩ : ∃ d, d = distL ps f a := ⟨_, rfl⟩
    have HK : Hid (ps.length ≤ d + (k + 1)) := Lib.hid (by rw [hd]; exact hk)
    obtain ⟨fn, tmps, assign, body, hy, hR⟩ := HY.out (m - 1) pre ((a : Int), (d : Int)) W hJ0 (by rw [hd]; exact hlen)
    try dsimp only at hy
    have HRR := Lib.hid hR
    rw [← hd] at hd32
    rw [← hd]
    have HD := Lib.hid hd
    clear ih hw ha hT hN hJ0 hk hd hR hlen
    refine callsIn_of_wp Try.func37 rfl trivial ?_ rfl
    simp only [Try.ntmps37, List.size_toArray, List.length_cons, List.length_nil, Nat.reduceAdd, Nat.reduceSub, Array.replicate_succ, Array.replicate_zero, List.push_toArray, List.append_toArray, List.nil_append, List.cons_append]
    gi_wp2
    refine ⟨hdd _, HRR.out.mono ?_⟩
    rintro e w1 ⟨hka, ⟨rfl, hJ1, hs1⟩ | ⟨rfl, hx1⟩⟩
    · have HJ1 := Lib.hid hJ1
      have HT1 := Lib.hid (HT.out.stay (hs1.sub HRs.out))
      have HK1 := Lib.hid hka
      have HS1 := Lib.hid (hs1.sub HRs.out)
      have hB1 := Nat.le_trans hB hka.size
      have HX := Lib.hid (nbrs_any T g ps (a : Int) w1 HT1.out G.few)
      have HNb : Hid (nbsI ps (a : Int) = nbs ps a ps.length) := Lib.hid (by have := HA.out; unfold nbsI; rw [if_pos (by omega)]; rfl)
      clear hJ1 hs1 hka hy
      gi_wp2_with (refine ⟨trivial, hdd _, ?_⟩; gi_at_call 17; refine (callsIn_wide.2 HX.out).mono ?_; rintro e w2 ⟨x, rfl, hown, hb2⟩; rw [HNb.out] at hown; obtain ⟨A2, c2, rfl, hc2, _⟩ := hown.reads; have HO := Lib.hid (hown.base hB1); have HJ2 := Lib.hid (ownFrom_below HJ.out HJ1.out hb2); have HT2 := Lib.hid (HT1.out.below_ hb2); have HK2 := Lib.hid (HK1.out.trans (KeepsAll.of_below hb2)); have HS2 := Lib.hid (HS1.out.trans (Stay.below hb2 HT1.out.lt)); have hB2 := Nat.le_trans hB1 hb2.size; clear hown hb2)
      obtain ⟨L, hL⟩ : ∃ L, L = nbs ps a ps.length := ⟨_, rfl⟩
      obtain ⟨q, hq⟩ : ∃ q, q = L.length := ⟨_, rfl⟩
      have hq32 : q ≤ 32 := by rw [hq, hL]; exact Nat.le_trans (nbs_len ps a _) G.few
      rw [← hL] at HO hc2
      rw [← hL, ← hq]
      rw [← hq] at hc2
      have HLq := Lib.hid hq
      have HLd := Lib.hid hL
      have HAll : Hid (laidQ ps f k a back L = walkQ ps f (k + 1) a) := Lib.hid (by rw [hL]; exact laidQ_all G hf HA.out HW.out)
      clear hq hL HX HJ1 HK1 HS1 HT1
      gi_loopw [22] (fun j wr => ∃ i : Nat, j = .int .i64 i ∧ i ≤ q ∧ J (pre ++ laidQ ps f k a back (L.take i)) wr ∧ IsTr wr T g ps ∧ B ≤ wr.heap.size ∧ OwnN wr B (.slice A2 q c2) L ∧ KeepsAll B W wr ∧ Stay (TrB T g) W wr) (fun j _ => q - (intOf j).toNat)
      case atStart => exact ⟨0, rfl, by omega, by rw [List.take_zero, laidQ_nil, ← HD.out]; exact HJ2.out, HT2.out, hB2, by rw [HLq.out]; exact HO.out, HK2.out, HS2.out⟩
      case round =>
        obtain ⟨i, rfl, hi, hJi, hTi, hBi, hOi, hKi, hSi⟩ := hrel
        obtain ⟨w3, rfl⟩ : ∃ w3 : World, w3 = wr := ⟨_, rfl⟩
        have HJi := Lib.hid hJi
        have HTi := Lib.hid hTi
        have HOi := Lib.hid hOi
        have HKi := Lib.hid hKi
        have HSi := Lib.hid hSi
        clear hJi hTi hOi hKi hSi
        by_cases hlt : i < q
        · obtain ⟨A3, c3, e3, _, hr3⟩ := HOi.out.reads
          rw [← HLq.out] at e3 hr3
          obtain ⟨rfl, rfl⟩ : A2 = A3 ∧ c2 = c3 := by injection e3 with h1 h2 h3; exact ⟨h1, h3⟩
          obtain ⟨b, off, rfl, hbb, hc⟩ := hr3.i64 (by omega)
          have cx := hc i hlt
          clear hc hr3 e3
          obtain ⟨v, hv⟩ : ∃ v, v = L.getD i 0 := ⟨_, rfl⟩
          rw [← hv] at cx
          have hget : L[i]? = some v := by rw [hv]; simp [List.getD, HLq.out ▸ hlt]
          have hmem : v ∈ nbs ps a ps.length := by rw [← HLd.out]; exact List.mem_of_getElem? hget
          obtain ⟨x, rfl, hx1, hx2⟩ := nbs_in hmem
          have HSn : Hid (laidQ ps f k a back (L.take (i + 1)) = if (x : Int) ≠ back then laidQ ps f k a back (L.take i) ++ walkQ ps f k x else laidQ ps f k a back (L.take i)) := Lib.hid (by
            rw [List.take_add_one, hget]; exact laidQ_snoc ps f k a back (L.take i) (x : Int))
          have HX1 := Lib.hid hx1
          have HX2 := Lib.hid hx2
          clear hv hget hmem hx1 hx2
          by_cases hb : (x : Int) = back
          · have HS2 : Hid (laidQ ps f k a back (L.take (i + 1)) = laidQ ps f k a back (L.take i)) := Lib.hid (by rw [HSn.out, if_neg (by simp [hb])])
            have t1 : ((x : Int) != back) = false := by simp [hb]
            clear hb
            gi_wp2
            refine ⟨trivial, ?_⟩
            gi_wp2
            go_roundw
            case rel => exact ⟨i + 1, by go_num, by omega, by rw [HS2.out]; exact HJi.out, HTi.out, hBi, HOi.out, HKi.out, HSi.out⟩
            case measure => simp [intOf]; omega
          · have HS2 : Hid (laidQ ps f k a back (L.take (i + 1)) = laidQ ps f k a back (L.take i) ++ walkQ ps f k x) := Lib.hid (by rw [HSn.out, if_pos hb])
            have t1 : ((x : Int) != back) = true := by simp [hb]
            have HDx : Hid (distL ps f x = d + 1) := Lib.hid (by rw [HD.out]; exact (G.kid_iff hf HA.out HW.out HX1.out HX2.out).1 hb)
            have HWh : Hid (Whence ps f x (a : Int)) := Lib.hid (G.whence_kid HA.out HX1.out HX2.out (by rw [HDx.out, HD.out]))
            have HPre : Hid (laidQ ps f k a back (L.take (i + 1)) <+: walkQ ps f (k + 1) a) := Lib.hid (by rw [← HAll.out]; exact laidQ_pre (List.take_prefix _ _))
            have HQ := Lib.hid (HI.out (m - 1) (pre ++ laidQ ps f k a back (L.take i)) w3 x (a : Int) hBi HTi.out HX1.out (by rw [HDx.out]; have := HK.out; omega) HWh.out HJi.out (by
              have h1 := HPre.out
              rw [HS2.out] at h1
              rw [List.append_assoc]
              exact List.IsPrefix.trans (List.prefix_append_right_inj _ |>.2 h1) HNl.out))
            rw [HDx.out] at HQ
            clear hb
            gi_wp2_with (refine ⟨trivial, hdd _, ?_⟩; gi_at_call 37; refine HQ.out.mono ?_; clear HQ; rintro e w4 ⟨hka, ⟨rfl, hJ4, hs4⟩ | ⟨rfl, q4, hq4, hx4⟩⟩)
            · have HJ4 : Hid (J (pre ++ laidQ ps f k a back (L.take (i + 1))) w4) := Lib.hid (by rw [HS2.out, ← List.append_assoc]; exact hJ4)
              have HT4 := Lib.hid (HTi.out.stay hs4)
              have HO4 := Lib.hid (HOi.out.keepsAll hka)
              have HK4 := Lib.hid (HKi.out.trans hka)
              have HS4 := Lib.hid (HSi.out.trans hs4)
              have hB4 := Nat.le_trans hBi hka.size
              clear hJ4 hs4 hka
              go_roundw
              case rel => exact ⟨i + 1, by go_num, by omega, HJ4.out, HT4.out, hB4, HO4.out, HK4.out, HS4.out⟩
              case measure => simp [intOf]; omega
            · have HX4 : Hid (KeepsAll B W w4 ∧ ∃ q, q <+: walkQ ps f (k + 1) a ∧ Jx (pre ++ q) w4) := Lib.hid ⟨HKi.out.trans hka, laidQ ps f k a back (L.take i) ++ q4, by
                obtain ⟨r4, hr4⟩ := hq4
                refine List.IsPrefix.trans ⟨r4, ?_⟩ HPre.out
                rw [HS2.out, List.append_assoc, hr4], by rw [← List.append_assoc]; exact hx4⟩
              clear hq4 hx4 hka
              go_ret
              exact ⟨HX4.out.1, .inr ⟨rfl, HX4.out.2⟩⟩
        · have hi2 : i = q := by omega
          subst hi2
          have HJn : Hid (J (pre ++ walkQ ps f (k + 1) a) w3) := Lib.hid (by
            have h1 := HJi.out
            rw [List.take_of_length_le (by rw [← HLq.out]; exact Nat.le_refl _), HAll.out] at h1
            exact h1)
          gi_wp2
          go_ret
          exact ⟨HKi.out, .inl ⟨rfl, HJn.out, HSi.out⟩⟩
    · have HX1 : Hid (KeepsAll B W w1 ∧ ∃ q, q <+: walkQ ps f (k + 1) a ∧ Jx (pre ++ q) w1) := Lib.hid ⟨hka, [((a : Int), (d : Int))], by rw [walkQ_succ, HD.out]; exact ⟨_, rfl⟩, hx1⟩
      clear hx1 hka hy
      gi_wp2
      go_ret
      exact ⟨HX1.out.1, .inr ⟨rfl, HX1.out.2⟩⟩

set_option maxRecDepth 100000 in
set_option maxHeartbeats 4000000 in
theorem walk1_inO (m l T g Bt Bf : Nat) (ps : List Int) (G : Gr.Good ps) (f : Int) (J Jx : List (Int × Int) → World → Prop) (B : Nat) (hJ : OwnFrom B J)
    (hY : ∀ pre (x : Int × Int) W, J pre W → pre ++ [x] <+: walkI ps f → YieldAt Fence.wide (m - 1) Try.prog l #[.int .i64 x.1, .int .i64 x.2] W fun e W' => KeepsAll B W W' ∧
      ((e = .returned (.bool true) ∧ J (pre ++ [x]) W' ∧ Stay (WalkB T g Bt Bf) W W') ∨ (e = .returned (.bool false) ∧ Jx (pre ++ [x]) W')))
    (W : World) (hB : B ≤ W.heap.size) (hP : WalkAt W T g Bt Bf ps f) (h0 : J [] W) :
    CallsIn Fence.wide m Try.prog 36 #[.func (.yield l) #[] #[], .pointer (some ⟨Bt, 0, none⟩), .pointer (some ⟨Bf, 0, none⟩)] W fun e W' => (∃ v, e = .returned v) ∧
      ((∃ ys, ys = walkI ps f ∧ J ys W') ∨ (∃ pre, pre <+: walkI ps f ∧ Jx pre W')) := by
  have HH := Lib.hid (has_any T g ps f W hP.1)
  have ct : W.cell? ⟨Bt, 0, none⟩ = some (.pointer (some ⟨T, 0, none⟩)) := hP.2.1.cell 0
  have cf : W.cell? ⟨Bf, 0, none⟩ = some (.int .i64 f) := hP.2.2.cell 0
  cases hb : hasB ps f with
  | false =>
    have HE : Hid (walkI ps f = []) := Lib.hid (if_neg (of_decide_eq_false hb))
    have HJ0 := Lib.hid h0
    rw [hb] at HH
    clear hP hY h0 hJ
    refine callsIn_of_wp Try.func36 rfl trivial ?_ rfl
    simp only [Try.ntmps36, List.size_toArray, List.length_cons, List.length_nil, Nat.reduceAdd, Nat.reduceSub, Array.replicate_succ, Array.replicate_zero, List.push_toArray, List.append_toArray, List.nil_append, List.cons_append]
    gi_wp2_with (refine ⟨trivial, hdd _, ?_⟩; gi_at_call 32; refine (callsIn_wide.2 HH.out).mono ?_; rintro e w1 ⟨rfl, hw⟩; rw [hw]; clear hw w1)
    first | go_end0 | refine bodyPost_ret (results_none rfl _ _ _) rfl ?_
    exact ⟨⟨_, rfl⟩, .inl ⟨[], HE.out.symm, HJ0.out⟩⟩
  | true =>
    have hv := of_decide_eq_true hb
    have HE : Hid (walkI ps f = walkQ ps f.toNat ps.length f.toNat) := Lib.hid (if_pos hv)
    obtain ⟨x, rfl⟩ : ∃ x : Nat, f = (x : Int) := ⟨f.toNat, by omega⟩
    rw [Int.toNat_natCast] at HE
    rw [hb] at HH
    have hx : x < ps.length := by omega
    have hd0 : distL ps x x = 0 := dist_self x
    have HQ := beyond_inO l T g (walkI ps (x : Int)) (WalkB T g Bt Bf) (fun b hb => .inl hb) ps G x hx J Jx B hJ (fun m' pre y W1 hj hl => yieldAt_any m' (hY pre y W1 hj hl)) ps.length (m - 1) [] W x (-1) hB hP.1 hx (by omega) (.inl ⟨rfl, rfl⟩) h0 (by rw [HE.out, List.nil_append]; exact List.prefix_refl _)
    rw [hd0] at HQ
    have HQ := Lib.hid HQ
    clear hP hY h0 hJ hv hb
    refine callsIn_of_wp Try.func36 rfl trivial ?_ rfl
    simp only [Try.ntmps36, List.size_toArray, List.length_cons, List.length_nil, Nat.reduceAdd, Nat.reduceSub, Array.replicate_succ, Array.replicate_zero, List.push_toArray, List.append_toArray, List.nil_append, List.cons_append]
    gi_wp2_with (first
      | (refine ⟨trivial, hdd _, ?_⟩; gi_at_call 32; refine (callsIn_wide.2 HH.out).mono ?_; rintro e w1 ⟨rfl, hw⟩; rw [hw]; clear hw w1)
      | (refine ⟨trivial, hdd _, ?_⟩; gi_at_call 37; refine HQ.out.mono ?_; clear HQ; rintro e w4 ⟨hka, ⟨rfl, hJ4, hs4⟩ | ⟨rfl, q4, hq4, hx4⟩⟩))
    · first | go_end0 | refine bodyPost_ret (results_none rfl _ _ _) rfl ?_
      exact ⟨⟨_, rfl⟩, .inl ⟨_, by rw [HE.out, List.nil_append], hJ4⟩⟩
    · first | go_end0 | refine bodyPost_ret (results_none rfl _ _ _) rfl ?_
      exact ⟨⟨_, rfl⟩, .inr ⟨q4, by rw [HE.out]; exact hq4, hx4⟩⟩
theorem walk_seqO (T g Bt Bf : Nat) (ps : List Int) (G : Gr.Good ps) (f : Int) (w : World) (hP : WalkAt w T g Bt Bf ps f) :
    SeqO (.func (.func 36) #[] #[.pointer (some ⟨Bt, 0, none⟩), .pointer (some ⟨Bf, 0, none⟩)]) (walkI ps f) (WalkB T g Bt Bf) w := by
  refine ⟨_, _, rfl, enters_of Try.func36 (by kernel_rfl) rfl, hP.lt, ?_⟩
  intro m W hs l J Jx W1 hW hJ hJx hY h0
  have hs1 : Stay (WalkB T g Bt Bf) w W1 := hs.trans (Stay.below hW (fun b hb => Nat.lt_of_lt_of_le (hP.lt b hb) hs.1))
  exact walk1_inO m l T g Bt Bf ps G f J Jx W1.heap.size hJ hY W1 (Nat.le_refl _) (hP.stay hs1) h0
theorem walk_codeO (T g : Nat) (ps : List Int) (f : Int) (w : World) (h : IsTr w T g ps) (G : Gr.Good ps) :
    Calls Try.prog 26 #[.pointer (some ⟨T, 0, none⟩), .int .i64 f] w (SeqOR (TrB T g) (walkI ps f) w) := by
  have HT := Lib.hid h
  clear h
  go_enter Try.func26, Try.ntmps26
  go_wp2
  go_ret
  have k1 := (Blk.new w 27 #[.pointer (some ⟨T, 0, none⟩)]).alloc (.cells #[.int .i64 f] 3)
  have k2 := Blk.new (w.alloc (.cells #[.pointer (some ⟨T, 0, none⟩)] 27)) 3 #[.int .i64 f]
  rw [World.size_alloc] at k2
  have hb : Below w.heap.size w ((w.alloc (.cells #[.pointer (some ⟨T, 0, none⟩)] 27)).alloc (.cells #[.int .i64 f] 3)) := ((Below.refl _ w).alloc (Nat.le_refl _) _).alloc (by simp) _
  refine ⟨_, WalkB T g w.heap.size (w.heap.size + 1), rfl, walk_seqO T g w.heap.size (w.heap.size + 1) ps G f _ ⟨HT.out.below_ hb, k1, k2⟩, hb, ?_⟩
  rintro x (hx | rfl | rfl)
  · exact .inl hx
  · exact .inr (Nat.le_refl _)
  · right; omega
end Go.Proofs.Ytohlgimbohkepaa.Pk
