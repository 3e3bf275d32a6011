/- Package tree: Edges and the function that it answers. -/
import Derived.Test.YtcomiininaemhaaZTrb
import Derived.Test.YtcomiininaemhaaZRng
import Derived.Test.YtcomiininaemhaaZNm
namespace Go.Proofs.Ytcomiininaemhaa.Gr
set_option linter.unusedVariables false
/-- The edges of u to what lies in L and is greater. -/
def rowE (u : Nat) (L : List Int) : List (Int × Int) := (L.filter fun v => decide ((u : Int) < v)).map fun v => ((u : Int), v)
theorem rowE_snoc (u : Nat) (L : List Int) (v : Int) : rowE u (L ++ [v]) = if (u : Int) < v then rowE u L ++ [((u : Int), v)] else rowE u L := by
  unfold rowE
  rw [List.filter_append, List.map_append]
  by_cases h : (u : Int) < v
  · rw [if_pos h]; simp [h]
  · rw [if_neg h]; simp [h]
theorem rowE_pre {u : Nat} {L M : List Int} (h : L <+: M) : rowE u L <+: rowE u M := by
  obtain ⟨r, rfl⟩ := h
  unfold rowE
  rw [List.filter_append, List.map_append]
  exact ⟨_, rfl⟩
end Go.Proofs.Ytcomiininaemhaa.Gr
namespace Go.Proofs.Ytcomiininaemhaa.Pk
open Go.RowKit Go.Shelf Go.Proofs.Ytcomiininaemhaa.Gr
set_option linter.unusedVariables false
attribute [local go_sem] Oper.semAt_some
/-- All edges from the nodes below k. -/
def edgesTo (ps : List Int) (k : Nat) : List (Int × Int) := (List.range k).flatMap fun u => rowE u (nbs ps u ps.length)
theorem edgesTo_succ (ps : List Int) (k : Nat) : edgesTo ps (k + 1) = edgesTo ps k ++ rowE k (nbs ps k ps.length) := by
  unfold edgesTo
  rw [List.range_succ, List.flatMap_append]
  simp
theorem edgesTo_pre (ps : List Int) {k m : Nat} (h : k ≤ m) : edgesTo ps k <+: edgesTo ps m := by
  obtain ⟨d, rfl⟩ : ∃ d, m = k + d := ⟨m - k, by omega⟩
  induction d with
  | zero => exact ⟨[], by simp⟩
  | succ d ih =>
    have h1 := edgesTo_succ ps (k + d)
    rw [show k + (d + 1) = k + d + 1 by omega, h1]
    exact (ih (by omega)).trans ⟨_, rfl⟩
/-- A function that goes over pairs, whose rounds leave alone what it made itself. -/
def SeqE (v : Value) (l : List (Int × Int)) (R : Nat → Prop) (w : World) : Prop :=
  ∃ gf lb, v = .func (.func gf) #[] lb ∧ (∀ args u, (callFunc gf args).run Try.prog u = .ok (.enter gf args) u) ∧ (∀ b, R b → b < w.heap.size) ∧
    ∀ m W, Stay R w W → GoesB m Try.prog gf #[] lb (fun x : Int × Int => #[Value.int .i64 x.1, Value.int .i64 x.2]) (Stay R) (fun ys => ys = l) (fun pre => pre <+: l) l.length W
theorem SeqE.stay {v : Value} {l : List (Int × Int)} {R : Nat → Prop} {w W : World} (h : SeqE v l R w) (hs : Stay R w W) : SeqE v l R W := by
  obtain ⟨gf, lb, e, h1, h2, h3⟩ := h
  exact ⟨gf, lb, e, h1, fun b hb => Nat.lt_of_lt_of_le (h2 b hb) hs.1, fun m W' hW => h3 m W' (hs.trans hW)⟩
theorem SeqE.lt {v : Value} {l : List (Int × Int)} {R : Nat → Prop} {w : World} (h : SeqE v l R w) : ∀ b, R b → b < w.heap.size := by
  obtain ⟨_, _, _, _, h2, _⟩ := h
  exact h2
theorem SeqE.at_ {gf : Nat} {lb : Array Value} {l : List (Int × Int)} {R : Nat → Prop} {w : World} (h : SeqE (.func (.func gf) #[] lb) l R w) (m : Nat) :
    GoesB m Try.prog gf #[] lb (fun x : Int × Int => #[Value.int .i64 x.1, Value.int .i64 x.2]) (Stay R) (fun ys => ys = l) (fun pre => pre <+: l) l.length w := by
  obtain ⟨gf', lb', e, _, _, h3⟩ := h
  injection e with e1 _ e2
  injection e1 with e1
  subst e1; subst e2
  exact h3 m w (Stay.refl _ _)
theorem OwnN.keepsAll {w w' : World} {B : Nat} {v : Value} {l : List Int} (h : OwnN w B v l) (hk : KeepsAll B w w') : OwnN w' B v l := by
  have hlt := ownN_lt h
  obtain ⟨h1, h2⟩ := h
  refine ⟨h1, ?_⟩
  rcases h2 with h2 | ⟨g, cap, cur, rfl, hb, hh, hr⟩
  · exact .inl h2
  · exact .inr ⟨g, cap, cur, rfl, hb, (hk.same g hb (hlt g rfl)).trans hh, hr⟩
theorem OwnN.base {w : World} {B B' : Nat} {v : Value} {l : List Int} (h : OwnN w B v l) (hB : B' ≤ B) : OwnN w B' v l := by
  obtain ⟨h1, h2⟩ := h
  refine ⟨h1, ?_⟩
  rcases h2 with h2 | ⟨g, cap, cur, rfl, hb, hr⟩
  · exact .inl h2
  · exact .inr ⟨g, cap, cur, rfl, by omega, hr⟩
theorem ownFrom_below {β : Type} {B : Nat} {J : β → World → Prop} (h : OwnFrom B J) {s : β} {W W' : World} (hJ : J s W) (hb : Below W.heap.size W W') : J s W' :=
  h s W W' none hJ ⟨hb.os, hb.tape, hb.output, hb.size, fun i hi _ => hb.block i hi⟩ (fun r e => by cases e)
/-- The blocks that the edges are read from. -/
def EdgeB (T g Bt : Nat) (b : Nat) : Prop := TrB T g b ∨ b = Bt
def EdgeAt (W : World) (T g Bt : Nat) (ps : List Int) : Prop := IsTr W T g ps ∧ Blk W Bt 27 #[.pointer (some ⟨T, 0, none⟩)]
theorem EdgeAt.stay {W W' : World} {T g Bt : Nat} {ps : List Int} (h : EdgeAt W T g Bt ps) (hs : Stay (EdgeB T g Bt) W W') : EdgeAt W' T g Bt ps :=
  ⟨h.1.stay (hs.sub fun b hb => .inl hb), (hs.2 Bt (.inr rfl)).trans h.2⟩
theorem EdgeAt.below {W W' : World} {T g Bt : Nat} {ps : List Int} (h : EdgeAt W T g Bt ps) (hb : Below W.heap.size W W') : EdgeAt W' T g Bt ps :=
  ⟨h.1.below_ hb, h.2.below hb h.2.lt⟩
theorem EdgeAt.lt {W : World} {T g Bt : Nat} {ps : List Int} (h : EdgeAt W T g Bt ps) : ∀ b, EdgeB T g Bt b → b < W.heap.size := by
  rintro b (hb | rfl)
  · exact h.1.lt b hb
  · exact h.2.lt

set_option maxRecDepth 100000 in
set_option maxHeartbeats 4000000 in
theorem edges1_in (m l T g Bt : Nat) (ps : List Int) (G : Gr.Good ps) (J Jx : List (Int × Int) → World → Prop) (B : Nat) (hJ : OwnFrom B J)
    (hY : ∀ pre (x : Int × Int) W, J pre W → pre.length < (edgesTo ps ps.length).length → YieldAt Fence.wide (m - 1) Try.prog l #[.int .i64 x.1, .int .i64 x.2] W fun e W' => KeepsAll B W W' ∧
      ((e = .returned (.bool true) ∧ J (pre ++ [x]) W' ∧ Stay (EdgeB T g Bt) W W') ∨ (e = .returned (.bool false) ∧ Jx (pre ++ [x]) W')))
    (W : World) (hB : B ≤ W.heap.size) (hP : EdgeAt W T g Bt ps) (h0 : J [] W) :
    CallsIn Fence.wide m Try.prog 41 #[.func (.yield l) #[] #[], .pointer (some ⟨Bt, 0, none⟩)] W fun e W' => (∃ v, e = .returned v) ∧
      ((∃ ys, ys = edgesTo ps ps.length ∧ J ys W') ∨ (∃ pre, pre <+: edgesTo ps ps.length ∧ Jx pre W')) := by
  have HP := Lib.hid hP
  have HS := Lib.hid (size_any T g ps W hP.1)
  have ct : W.cell? ⟨Bt, 0, none⟩ = some (.pointer (some ⟨T, 0, none⟩)) := hP.2.cell 0
  have HJ := Lib.hid hJ
  have HY := Lib.hid hY
  have HJ0 := Lib.hid h0
  obtain ⟨n, hn⟩ : ∃ n, n = ps.length := ⟨_, rfl⟩
  have HN := Lib.hid hn
  have hn32 : n ≤ 32 := by rw [hn]; exact G.few
  rw [← hn] at HS HY ⊢
  clear hP hY h0 hJ hn
  refine callsIn_of_wp Try.func41 rfl trivial ?_ rfl
  simp only [Try.ntmps41, List.size_toArray, List.length_cons, List.length_nil, Nat.reduceAdd, Nat.reduceSub, Array.replicate_succ, Array.replicate_zero, List.push_toArray, List.append_toArray, List.nil_append, List.cons_append]
  gi_wp2_with (refine ⟨trivial, hdd _, ?_⟩; gi_at_call 28; refine (callsIn_wide.2 HS.out).mono ?_; rintro e w1 ⟨rfl, hw⟩; rw [hw]; clear hw w1)
  clear ct
  gi_loopw [8] (fun j wr => ∃ k : Nat, j = .int .i64 k ∧ k ≤ n ∧ J (edgesTo ps k) wr ∧ EdgeAt wr T g Bt ps ∧ B ≤ wr.heap.size) (fun j _ => n - (intOf j).toNat)
  case atStart => exact ⟨0, rfl, by omega, HJ0.out, HP.out, hB⟩
  case round =>
    obtain ⟨k, rfl, hk, hJk, hE, hBw⟩ := hrel
    obtain ⟨w1, rfl⟩ : ∃ w1 : World, w1 = wr := ⟨_, rfl⟩
    have HJk := Lib.hid hJk
    have HE := Lib.hid hE
    clear hJk hE
    by_cases hlt : k < n
    · have ct : w1.cell? ⟨Bt, 0, none⟩ = some (.pointer (some ⟨T, 0, none⟩)) := HE.out.2.cell 0
      have HX := Lib.hid (nbrs_any T g ps (k : Int) w1 HE.out.1 G.few)
      have HNb : Hid (nbsI ps (k : Int) = nbs ps k ps.length) := Lib.hid (by have := HN.out; unfold nbsI; rw [if_pos (by omega)]; rfl)
      have HKn := Lib.hid hlt
      gi_wp2_with (refine ⟨trivial, hdd _, ?_⟩; gi_at_call 31; refine (callsIn_wide.2 HX.out).mono ?_; rintro e w2 ⟨x, rfl, hown, hb2⟩; rw [HNb.out] at hown; obtain ⟨A2, c2, rfl, hc2, _⟩ := hown.reads; have HO := Lib.hid (hown.base hBw); have HJ2 := Lib.hid (ownFrom_below HJ.out HJk.out hb2); have HE2 := Lib.hid (HE.out.below hb2); have hB2 := Nat.le_trans hBw hb2.size; clear hown hb2 ct)
      obtain ⟨L, hL⟩ : ∃ L, L = nbs ps k ps.length := ⟨_, rfl⟩
      obtain ⟨q, hq⟩ : ∃ q, q = L.length := ⟨_, rfl⟩
      have hq32 : q ≤ 32 := by rw [hq, hL]; exact Nat.le_trans (nbs_len ps k _) G.few
      rw [← hL] at HO hc2
      rw [← hL, ← hq]
      rw [← hq] at hc2
      have HLq := Lib.hid hq
      have HLd := Lib.hid hL
      clear hq hL HX
      gi_loopw [15] (fun j wr => ∃ i : Nat, j = .int .i64 i ∧ i ≤ q ∧ J (edgesTo ps k ++ rowE k (L.take i)) wr ∧ EdgeAt wr T g Bt ps ∧ B ≤ wr.heap.size ∧ OwnN wr B (.slice A2 q c2) L) (fun j _ => q - (intOf j).toNat)
      case atStart => exact ⟨0, rfl, by omega, by rw [List.take_zero]; show J (edgesTo ps k ++ []) w2; rw [List.append_nil]; exact HJ2.out, HE2.out, hB2, by rw [HLq.out]; exact HO.out⟩
      case round =>
        obtain ⟨i, rfl, hi, hJi, hEi, hBi, hOi⟩ := hrel
        obtain ⟨w3, rfl⟩ : ∃ w3 : World, w3 = wr := ⟨_, rfl⟩
        have HJi := Lib.hid hJi
        have HEi := Lib.hid hEi
        have HOi := Lib.hid hOi
        clear hJi hEi hOi
        by_cases hlt : i < q
        · obtain ⟨A3, c3, e3, _, hr3⟩ := HOi.out.reads
          rw [← HLq.out] at e3 hr3
          obtain ⟨rfl, rfl⟩ : A2 = A3 ∧ c2 = c3 := by injection e3 with h1 h2 h3; exact ⟨h1, h3⟩
          obtain ⟨b, off, rfl, hbb, hc⟩ := hr3.i64 (by omega)
          have cx := hc i hlt
          clear hc hr3 e3
          obtain ⟨v, hv⟩ : ∃ v, v = L.getD i 0 := ⟨_, rfl⟩
          rw [← hv] at cx
          have hget : L[i]? = some v := by rw [hv]; simp [List.getD, HLq.out ▸ hlt]
          have hmem : v ∈ nbs ps k ps.length := by rw [← HLd.out]; exact List.mem_of_getElem? hget
          obtain ⟨x, rfl, hx1, hx2⟩ := nbs_in hmem
          have HSn : Hid (rowE k (L.take (i + 1)) = if (k : Int) < (x : Int) then rowE k (L.take i) ++ [((k : Int), (x : Int))] else rowE k (L.take i)) := Lib.hid (by
            rw [List.take_add_one, hget]; exact rowE_snoc k (L.take i) (x : Int))
          clear hv hget hmem
          by_cases hkx : (k : Int) < (x : Int)
          · have HS2 : Hid (edgesTo ps k ++ rowE k (L.take i) ++ [((k : Int), (x : Int))] = edgesTo ps k ++ rowE k (L.take (i + 1))) := Lib.hid (by rw [HSn.out, if_pos hkx, List.append_assoc])
            have HPre : Hid (edgesTo ps k ++ rowE k (L.take (i + 1)) <+: edgesTo ps n) := Lib.hid (by
              have h1 : edgesTo ps k ++ rowE k (L.take (i + 1)) <+: edgesTo ps (k + 1) := by
                rw [edgesTo_succ, ← HLd.out]
                exact List.prefix_append_right_inj _ |>.2 (rowE_pre (List.take_prefix _ _))
              exact h1.trans (edgesTo_pre ps HKn.out))
            have hlen : (edgesTo ps k ++ rowE k (L.take i)).length < (edgesTo ps n).length := by
              have h1 := HPre.out.length_le
              rw [← HS2.out] at h1
              simp only [List.length_append, List.length_singleton] at h1 ⊢
              omega
            obtain ⟨fn, tmps, assign, body, hy, hR⟩ := HY.out _ ((k : Int), (x : Int)) w3 HJi.out hlen
            try dsimp only at hy
            have HRR := Lib.hid hR
            have hkx2 : k < x := by omega
            clear hR hlen
            gi_wp2
            refine ⟨hdd _, HRR.out.mono ?_⟩
            rintro e w4 ⟨hka, ⟨rfl, hJ4, hs4⟩ | ⟨rfl, hx4⟩⟩
            · have HJ4 := Lib.hid hJ4
              have HE4 := Lib.hid (HEi.out.stay hs4)
              have HO4 := Lib.hid (HOi.out.keepsAll hka)
              have hB4 := Nat.le_trans hBi hka.size
              rw [HS2.out] at HJ4
              clear hJ4 hs4 hka hy
              gi_wp2
              go_roundw
              case rel => exact ⟨i + 1, by go_num, by omega, HJ4.out, HE4.out, hB4, HO4.out⟩
              case measure => simp [intOf]; omega
            · have HX4 := Lib.hid hx4
              rw [HS2.out] at HX4
              clear hx4 hka hy
              gi_wp2
              first | go_end0 | refine bodyPost_ret (results_none rfl _ _ _) rfl ?_
              exact ⟨⟨_, rfl⟩, .inr ⟨_, HPre.out, HX4.out⟩⟩
          · have HS2 : Hid (rowE k (L.take (i + 1)) = rowE k (L.take i)) := Lib.hid (by rw [HSn.out, if_neg hkx])
            have hkx2 : (x : Int) ≤ (k : Int) := by omega
            clear hkx
            gi_wp2
            refine ⟨fun _ h => (by cases h), ?_⟩
            gi_wp2
            go_roundw
            case rel => exact ⟨i + 1, by go_num, by omega, by rw [HS2.out]; exact HJi.out, HEi.out, hBi, HOi.out⟩
            case measure => simp [intOf]; omega
        · have hi2 : i = q := by omega
          subst hi2
          have HJn : Hid (J (edgesTo ps (k + 1)) w3) := Lib.hid (by
            have h1 := HJi.out
            rw [List.take_of_length_le (by rw [← HLq.out]; exact Nat.le_refl _), HLd.out, ← edgesTo_succ] at h1
            exact h1)
          gi_wp2
          go_roundw
          case rel => exact ⟨k + 1, by go_num, by have := HKn.out; omega, HJn.out, HEi.out, hBi⟩
          case measure => have := HKn.out; simp [intOf]; omega
    · have hk2 : k = n := by omega
      subst hk2
      gi_wp2
      first | go_end0 | refine bodyPost_ret (results_none rfl _ _ _) rfl ?_
      exact ⟨⟨_, rfl⟩, .inl ⟨_, rfl, HJk.out⟩⟩

theorem edges_seq (T g Bt : Nat) (ps : List Int) (G : Gr.Good ps) (w : World) (hP : EdgeAt w T g Bt ps) :
    SeqE (.func (.func 41) #[] #[.pointer (some ⟨Bt, 0, none⟩)]) (edgesTo ps ps.length) (EdgeB T g Bt) w := by
  refine ⟨_, _, rfl, enters_of Try.func41 (by kernel_rfl) rfl, hP.lt, ?_⟩
  intro m W hs l J Jx W1 hW hJ hJx hY h0
  have hs1 : Stay (EdgeB T g Bt) w W1 := hs.trans (Stay.below hW (fun b hb => Nat.lt_of_lt_of_le (hP.lt b hb) hs.1))
  exact edges1_in m l T g Bt ps G J Jx W1.heap.size hJ hY W1 (Nat.le_refl _) (hP.stay hs1) h0
/-- What Edges and Walk leave. -/
def SeqER (D : Nat → Prop) (l : List (Int × Int)) (w : World) (e : Ending) (w' : World) : Prop := ∃ v R, e = .returned v ∧ SeqE v l R w' ∧ Below w.heap.size w w' ∧ ∀ b, R b → D b ∨ w.heap.size ≤ b
theorem edges_code (T g : Nat) (ps : List Int) (w : World) (h : IsTr w T g ps) (G : Gr.Good ps) :
    Calls Try.prog 32 #[.pointer (some ⟨T, 0, none⟩)] w (SeqER (TrB T g) (edgesTo ps ps.length) w) := by
  have HT := Lib.hid h
  clear h
  go_enter Try.func32, Try.ntmps32
  go_wp2
  go_ret
  have hb : Below w.heap.size w (w.alloc (.cells #[.pointer (some ⟨T, 0, none⟩)] 27)) := (Below.refl _ w).alloc (Nat.le_refl _) _
  refine ⟨_, EdgeB T g w.heap.size, rfl, edges_seq T g w.heap.size ps G _ ⟨HT.out.below_ hb, Blk.new w _ _⟩, hb, ?_⟩
  rintro x (hx | rfl)
  · exact .inl hx
  · exact .inr (Nat.le_refl _)
end Go.Proofs.Ytcomiininaemhaa.Pk

/- A tree's edges as a function to range over: a round is told that what has come is a beginning of the whole. -/
namespace Go.Proofs.Ytcomiininaemhaa.Pk
open Go.RowKit Go.Shelf Go.Proofs.Ytcomiininaemhaa.Gr
set_option linter.unusedVariables false

/-- A function that goes over pairs; a round is told that what has come is a beginning of them. -/
def SeqO (v : Value) (l : List (Int × Int)) (R : Nat → Prop) (w : World) : Prop :=
  ∃ gf lb, v = .func (.func gf) #[] lb ∧ (∀ args u, (callFunc gf args).run Try.prog u = .ok (.enter gf args) u) ∧ (∀ b, R b → b < w.heap.size) ∧
    ∀ m W, Stay R w W → GoesO m Try.prog gf #[] lb (fun x : Int × Int => #[Value.int .i64 x.1, Value.int .i64 x.2]) (Stay R) (fun ys => ys = l) (fun pre => pre <+: l) (fun pre x => pre ++ [x] <+: l) W
theorem SeqO.stay {v : Value} {l : List (Int × Int)} {R : Nat → Prop} {w W : World} (h : SeqO v l R w) (hs : Stay R w W) : SeqO v l R W := by
  obtain ⟨gf, lb, e, h1, h2, h3⟩ := h
  exact ⟨gf, lb, e, h1, fun b hb => Nat.lt_of_lt_of_le (h2 b hb) hs.1, fun m W' hW => h3 m W' (hs.trans hW)⟩
theorem SeqO.lt {v : Value} {l : List (Int × Int)} {R : Nat → Prop} {w : World} (h : SeqO v l R w) : ∀ b, R b → b < w.heap.size := by
  obtain ⟨_, _, _, _, h2, _⟩ := h
  exact h2
theorem SeqO.at_ {gf : Nat} {lb : Array Value} {l : List (Int × Int)} {R : Nat → Prop} {w : World} (h : SeqO (.func (.func gf) #[] lb) l R w) (m : Nat) :
    GoesO m Try.prog gf #[] lb (fun x : Int × Int => #[Value.int .i64 x.1, Value.int .i64 x.2]) (Stay R) (fun ys => ys = l) (fun pre => pre <+: l) (fun pre x => pre ++ [x] <+: l) w := by
  obtain ⟨gf', lb', e, _, _, h3⟩ := h
  injection e with e1 _ e2
  injection e1 with e1
  subst e1; subst e2
  exact h3 m w (Stay.refl _ _)

set_option maxRecDepth 100000 in
set_option maxHeartbeats 4000000 in
theorem edges1_inO (m l T g Bt : Nat) (ps : List Int) (G : Gr.Good ps) (J Jx : List (Int × Int) → World → Prop) (B : Nat) (hJ : OwnFrom B J)
    (hY : ∀ pre (x : Int × Int) W, J pre W → pre ++ [x] <+: edgesTo ps ps.length → YieldAt Fence.wide (m - 1) Try.prog l #[.int .i64 x.1, .int .i64 x.2] W fun e W' => KeepsAll B W W' ∧
      ((e = .returned (.bool true) ∧ J (pre ++ [x]) W' ∧ Stay (EdgeB T g Bt) W W') ∨ (e = .returned (.bool false) ∧ Jx (pre ++ [x]) W')))
    (W : World) (hB : B ≤ W.heap.size) (hP : EdgeAt W T g Bt ps) (h0 : J [] W) :
    CallsIn Fence.wide m Try.prog 41 #[.func (.yield l) #[] #[], .pointer (some ⟨Bt, 0, none⟩)] W fun e W' => (∃ v, e = .returned v) ∧
      ((∃ ys, ys = edgesTo ps ps.length ∧ J ys W') ∨ (∃ pre, pre <+: edgesTo ps ps.length ∧ Jx pre W')) := by
  have HP := Lib.hid hP
  have HS := Lib.hid (size_any T g ps W hP.1)
  have ct : W.cell? ⟨Bt, 0, none⟩ = some (.pointer (some ⟨T, 0, none⟩)) := hP.2.cell 0
  have HJ := Lib.hid hJ
  have HY := Lib.hid hY
  have HJ0 := Lib.hid h0
  obtain ⟨n, hn⟩ : ∃ n, n = ps.length := ⟨_, rfl⟩
  have HN := Lib.hid hn
  have hn32 : n ≤ 32 := by rw [hn]; exact G.few
  rw [← hn] at HS HY ⊢
  clear hP hY h0 hJ hn
  refine callsIn_of_wp Try.func41 rfl trivial ?_ rfl
  simp only [Try.ntmps41, List.size_toArray, List.length_cons, List.length_nil, Nat.reduceAdd, Nat.reduceSub, Array.replicate_succ, Array.replicate_zero, List.push_toArray, List.append_toArray, List.nil_append, List.cons_append]
  gi_wp2_with (refine ⟨trivial, hdd _, ?_⟩; gi_at_call 28; refine (callsIn_wide.2 HS.out).mono ?_; rintro e w1 ⟨rfl, hw⟩; rw [hw]; clear hw w1)
  clear ct
  gi_loopw [8] (fun j wr => ∃ k : Nat, j = .int .i64 k ∧ k ≤ n ∧ J (edgesTo ps k) wr ∧ EdgeAt wr T g Bt ps ∧ B ≤ wr.heap.size) (fun j _ => n - (intOf j).toNat)
  case atStart => exact ⟨0, rfl, by omega, HJ0.out, HP.out, hB⟩
  case round =>
    obtain ⟨k, rfl, hk, hJk, hE, hBw⟩ := hrel
    obtain ⟨w1, rfl⟩ : ∃ w1 : World, w1 = wr := ⟨_, rfl⟩
    have HJk := Lib.hid hJk
    have HE := Lib.hid hE
    clear hJk hE
    by_cases hlt : k < n
    · have ct : w1.cell? ⟨Bt, 0, none⟩ = some (.pointer (some ⟨T, 0, none⟩)) := HE.out.2.cell 0
      have HX := Lib.hid (nbrs_any T g ps (k : Int) w1 HE.out.1 G.few)
      have HNb : Hid (nbsI ps (k : Int) = nbs ps k ps.length) := Lib.hid (by have := HN.out; unfold nbsI; rw [if_pos (by omega)]; rfl)
      have HKn := Lib.hid hlt
      gi_wp2_with (refine ⟨trivial, hdd _, ?_⟩; gi_at_call 31; refine (callsIn_wide.2 HX.out).mono ?_; rintro e w2 ⟨x, rfl, hown, hb2⟩; rw [HNb.out] at hown; obtain ⟨A2, c2, rfl, hc2, _⟩ := hown.reads; have HO := Lib.hid (hown.base hBw); have HJ2 := Lib.hid (ownFrom_below HJ.out HJk.out hb2); have HE2 := Lib.hid (HE.out.below hb2); have hB2 := Nat.le_trans hBw hb2.size; clear hown hb2 ct)
      obtain ⟨L, hL⟩ : ∃ L, L = nbs ps k ps.length := ⟨_, rfl⟩
      obtain ⟨q, hq⟩ : ∃ q, q = L.length := ⟨_, rfl⟩
      have hq32 : q ≤ 32 := by rw [hq, hL]; exact Nat.le_trans (nbs_len ps k _) G.few
      rw [← hL] at HO hc2
      rw [← hL, ← hq]
      rw [← hq] at hc2
      have HLq := Lib.hid hq
      have HLd := Lib.hid hL
      clear hq hL HX
      gi_loopw [15] (fun j wr => ∃ i : Nat, j = .int .i64 i ∧ i ≤ q ∧ J (edgesTo ps k ++ rowE k (L.take i)) wr ∧ EdgeAt wr T g Bt ps ∧ B ≤ wr.heap.size ∧ OwnN wr B (.slice A2 q c2) L) (fun j _ => q - (intOf j).toNat)
      case atStart => exact ⟨0, rfl, by omega, by rw [List.take_zero]; show J (edgesTo ps k ++ []) w2; rw [List.append_nil]; exact HJ2.out, HE2.out, hB2, by rw [HLq.out]; exact HO.out⟩
      case round =>
        obtain ⟨i, rfl, hi, hJi, hEi, hBi, hOi⟩ := hrel
        obtain ⟨w3, rfl⟩ : ∃ w3 : World, w3 = wr := ⟨_, rfl⟩
        have HJi := Lib.hid hJi
        have HEi := Lib.hid hEi
        have HOi := Lib.hid hOi
        clear hJi hEi hOi
        by_cases hlt : i < q
        · obtain ⟨A3, c3, e3, _, hr3⟩ := HOi.out.reads
          rw [← HLq.out] at e3 hr3
          obtain ⟨rfl, rfl⟩ : A2 = A3 ∧ c2 = c3 := by injection e3 with h1 h2 h3; exact ⟨h1, h3⟩
          obtain ⟨b, off, rfl, hbb, hc⟩ := hr3.i64 (by omega)
          have cx := hc i hlt
          clear hc hr3 e3
          obtain ⟨v, hv⟩ : ∃ v, v = L.getD i 0 := ⟨_, rfl⟩
          rw [← hv] at cx
          have hget : L[i]? = some v := by rw [hv]; simp [List.getD, HLq.out ▸ hlt]
          have hmem : v ∈ nbs ps k ps.length := by rw [← HLd.out]; exact List.mem_of_getElem? hget
          obtain ⟨x, rfl, hx1, hx2⟩ := nbs_in hmem
          have HSn : Hid (rowE k (L.take (i + 1)) = if (k : Int) < (x : Int) then rowE k (L.take i) ++ [((k : Int), (x : Int))] else rowE k (L.take i)) := Lib.hid (by
            rw [List.take_add_one, hget]; exact rowE_snoc k (L.take i) (x : Int))
          clear hv hget hmem
          by_cases hkx : (k : Int) < (x : Int)
          · have HS2 : Hid (edgesTo ps k ++ rowE k (L.take i) ++ [((k : Int), (x : Int))] = edgesTo ps k ++ rowE k (L.take (i + 1))) := Lib.hid (by rw [HSn.out, if_pos hkx, List.append_assoc])
            have HPre : Hid (edgesTo ps k ++ rowE k (L.take (i + 1)) <+: edgesTo ps n) := Lib.hid (by
              have h1 : edgesTo ps k ++ rowE k (L.take (i + 1)) <+: edgesTo ps (k + 1) := by
                rw [edgesTo_succ, ← HLd.out]
                exact List.prefix_append_right_inj _ |>.2 (rowE_pre (List.take_prefix _ _))
              exact h1.trans (edgesTo_pre ps HKn.out))
            obtain ⟨fn, tmps, assign, body, hy, hR⟩ := HY.out _ ((k : Int), (x : Int)) w3 HJi.out (by rw [HS2.out]; exact HPre.out)
            try dsimp only at hy
            have HRR := Lib.hid hR
            have hkx2 : k < x := by omega
            clear hR
            gi_wp2
            refine ⟨hdd _, HRR.out.mono ?_⟩
            rintro e w4 ⟨hka, ⟨rfl, hJ4, hs4⟩ | ⟨rfl, hx4⟩⟩
            · have HJ4 := Lib.hid hJ4
              have HE4 := Lib.hid (HEi.out.stay hs4)
              have HO4 := Lib.hid (HOi.out.keepsAll hka)
              have hB4 := Nat.le_trans hBi hka.size
              rw [HS2.out] at HJ4
              clear hJ4 hs4 hka hy
              gi_wp2
              go_roundw
              case rel => exact ⟨i + 1, by go_num, by omega, HJ4.out, HE4.out, hB4, HO4.out⟩
              case measure => simp [intOf]; omega
            · have HX4 := Lib.hid hx4
              rw [HS2.out] at HX4
              clear hx4 hka hy
              gi_wp2
              first | go_end0 | refine bodyPost_ret (results_none rfl _ _ _) rfl ?_
              exact ⟨⟨_, rfl⟩, .inr ⟨_, HPre.out, HX4.out⟩⟩
          · have HS2 : Hid (rowE k (L.take (i + 1)) = rowE k (L.take i)) := Lib.hid (by rw [HSn.out, if_neg hkx])
            have hkx2 : (x : Int) ≤ (k : Int) := by omega
            clear hkx
            gi_wp2
            refine ⟨fun _ h => (by cases h), ?_⟩
            gi_wp2
            go_roundw
            case rel => exact ⟨i + 1, by go_num, by omega, by rw [HS2.out]; exact HJi.out, HEi.out, hBi, HOi.out⟩
            case measure => simp [intOf]; omega
        · have hi2 : i = q := by omega
          subst hi2
          have HJn : Hid (J (edgesTo ps (k + 1)) w3) := Lib.hid (by
            have h1 := HJi.out
            rw [List.take_of_length_le (by rw [← HLq.out]; exact Nat.le_refl _), HLd.out, ← edgesTo_succ] at h1
            exact h1)
          gi_wp2
          go_roundw
          case rel => exact ⟨k + 1, by go_num, by have := HKn.out; omega, HJn.out, HEi.out, hBi⟩
          case measure => have := HKn.out; simp [intOf]; omega
    · have hk2 : k = n := by omega
      subst hk2
      gi_wp2
      first | go_end0 | refine bodyPost_ret (results_none rfl _ _ _) rfl ?_
      exact ⟨⟨_, rfl⟩, .inl ⟨_, rfl, HJk.out⟩⟩

theorem edges_seqO (T g Bt : Nat) (ps : List Int) (G : Gr.Good ps) (w : World) (hP : EdgeAt w T g Bt ps) :
    SeqO (.func (.func 41) #[] #[.pointer (some ⟨Bt, 0, none⟩)]) (edgesTo ps ps.length) (EdgeB T g Bt) w := by
  refine ⟨_, _, rfl, enters_of Try.func41 (by kernel_rfl) rfl, hP.lt, ?_⟩
  intro m W hs l J Jx W1 hW hJ hJx hY h0
  have hs1 : Stay (EdgeB T g Bt) w W1 := hs.trans (Stay.below hW (fun b hb => Nat.lt_of_lt_of_le (hP.lt b hb) hs.1))
  exact edges1_inO m l T g Bt ps G J Jx W1.heap.size hJ hY W1 (Nat.le_refl _) (hP.stay hs1) h0
/-- What Edges and Walk leave. -/
def SeqOR (D : Nat → Prop) (l : List (Int × Int)) (w : World) (e : Ending) (w' : World) : Prop := ∃ v R, e = .returned v ∧ SeqO v l R w' ∧ Below w.heap.size w w' ∧ ∀ b, R b → D b ∨ w.heap.size ≤ b
theorem edges_codeO (T g : Nat) (ps : List Int) (w : World) (h : IsTr w T g ps) (G : Gr.Good ps) :
    Calls Try.prog 32 #[.pointer (some ⟨T, 0, none⟩)] w (SeqOR (TrB T g) (edgesTo ps ps.length) w) := by
  have HT := Lib.hid h
  clear h
  go_enter Try.func32, Try.ntmps32
  go_wp2
  go_ret
  have hb : Below w.heap.size w (w.alloc (.cells #[.pointer (some ⟨T, 0, none⟩)] 27)) := (Below.refl _ w).alloc (Nat.le_refl _) _
  refine ⟨_, EdgeB T g w.heap.size, rfl, edges_seqO T g w.heap.size ps G _ ⟨HT.out.below_ hb, Blk.new w _ _⟩, hb, ?_⟩
  rintro x (hx | rfl)
  · exact .inl hx
  · exact .inr (Nat.le_refl _)
end Go.Proofs.Ytcomiininaemhaa.Pk
