/- Package tree: Dist. -/
import Derived.Test.YtcicpgiljceioaaZTrPath
import Derived.Test.YtcicpgiljceioaaZStSpec
import Derived.Test.YtcicpgiljceioaaZChRefA
namespace Go.Proofs.Ytcicpgiljceioaa.Pk
open Go.RowKit Go.Shelf Go.Proofs.Ytcicpgiljceioaa.Gr
set_option linter.unusedVariables false
attribute [local go_sem] Oper.semAt_some

theorem stay_set {D : Nat → Prop} {V : World} {x : Nat} {u : Value} (hx : ¬ D x) : Stay D V (V.setCell ⟨x, 0, none⟩ u) :=
  ⟨by simp [World.setCell], fun b hb => Below.heap_setCell _ ⟨x, 0, none⟩ _ b (fun e => hx (by simp at e; subst e; exact hb))⟩
theorem own_blk {β : Type} (B x : Nat) (t : TypeId) (f : β → Value) : OwnFrom (β := β) B (fun s W => Blk W x t #[f s]) := Own.from (I := fun (s : β) W => Blk W x t #[f s]) (fun s A W row hs hg hr => blk_kept hs hg hr) B
/-- How many edges lie between; -1: no such nodes. -/
def distI (ps : List Int) (a b : Int) : Int := ((pathI ps a b).length : Int) - 1
set_option maxRecDepth 100000 in
set_option maxHeartbeats 4000000 in
/-- Of whatever has a Path. -/
theorem dist_val (tv : Value) (D : Nat → Prop) (l : List Int) (a b : Int) (w : World) (hD : ∀ x, D x → x < w.heap.size) (hlen : l.length ≤ 32)
    (hP : ∀ W, Below w.heap.size w W → Calls Try.prog 72 #[tv, .int .i64 a, .int .i64 b] W (PathR D l W)) :
    Calls Try.prog 67 #[tv, .int .i64 a, .int .i64 b] w fun e w' => e = .returned (.int .i64 ((l.length : Int) - 1)) ∧ Below w.heap.size w w' := by
  have HD := Lib.hid hD
  have HLe := Lib.hid hlen
  clear hD hlen
  obtain ⟨W0, hW0⟩ : ∃ W0, W0 = w.alloc (.cells #[.int .i64 (-1)] 3) := ⟨_, rfl⟩
  have hk0 : Blk W0 w.heap.size 3 #[.int .i64 (-1)] := hW0 ▸ Blk.new w _ _
  have hb0 : Below w.heap.size w W0 := hW0 ▸ (Below.refl _ w).alloc (Nat.le_refl _) _
  have HK0 := Lib.hid hk0
  have HB0 := Lib.hid hb0
  clear hk0 hb0
  have HP := Lib.hid (hP W0 HB0.out)
  clear hP
  refine (callsIn_wide (n := 9)).1 ?_
  refine callsIn_of_wp_marks Try.func67 rfl trivial ?_ rfl
  simp only [Try.ntmps67, List.size_toArray, List.length_cons, List.length_nil, Nat.reduceAdd, Nat.reduceSub, Array.replicate_succ, Array.replicate_zero, List.push_toArray, List.append_toArray, List.nil_append, List.cons_append]
  refine wpIn_wide.2 ?_
  go_wp2_with fail
  rw [← hW0]
  refine HP.out.mono ?_
  rintro e w1 ⟨v, R, rfl, hs, hb1, hR⟩
  have hsq := hs
  obtain ⟨gf, lb, rfl, en, hRl, _⟩ := hs
  have SQ := Lib.hid hsq
  have EN := Lib.hid en
  have HK1 := Lib.hid (HK0.out.below hb1 HK0.out.lt)
  have HB1 := Lib.hid (HB0.out.trans (hb1.mono HB0.out.size))
  have HRx : Hid (∀ b, R b → b ≠ w.heap.size) := Lib.hid (fun b hb e => by
    subst e
    rcases hR _ hb with h | h
    · have := HD.out _ h; omega
    · have := HK0.out.lt; omega)
  have hxs : w.heap.size < w1.heap.size := HK1.out.lt
  obtain ⟨x0, hx0⟩ : ∃ x0, x0 = w.heap.size := ⟨_, rfl⟩
  have HX0 := Lib.hid hx0
  rw [← hx0] at HK1 HRx hxs ⊢
  clear hsq en hRl hb1 hR hx0 hW0 HP HK0
  go_wp2
  refine (wpIn_wide (n := 9)).1 ?_
  refine' wpIn_rangeFunc_ownG (α := Int) rfl (by omega) (gf := gf) (lb := lb) rfl trivial EN.out
    SQ.out.seq (fun h k => h.trans k) (stay_b SQ.out.lt) (Below.refl _ _) (fun _ => rfl)
    (fun pre W => Blk W x0 3 #[.int .i64 ((pre.length : Int) - 1)] ∧ Only w1 W x0)
    (fun c pre W => False)
    (OwnFrom.and (own_blk _ x0 _ (fun pre : List Int => .int .i64 ((pre.length : Int) - 1))) (own_only w1 x0))
    (fun c => fun s A B row hs hg hr => hs)
    ⟨by simpa using HK1.out, Only.refl _ _⟩
    _ ?assign ?body ?done ?stop
  case assign =>
    intro l x W K hK
    gi_wp2
    exact hK
  case body =>
    rintro lp pre y V ⟨hbx, hOnly⟩ hlt
    obtain ⟨z, hz⟩ : ∃ z, z = (pre.length : Int) - 1 := ⟨_, rfl⟩
    have hz1 : -1 ≤ z ∧ z ≤ 32 := by have := HLe.out; omega
    have HZ := Lib.hid hz
    rw [← hz] at hbx
    have cx : V.cell? ⟨x0, 0, none⟩ = some (.int .i64 z) := by rw [hbx.cell]; rfl
    have fx : V.frozen? ⟨x0, 0, none⟩ = false := hbx.frozen 0
    have HBx := Lib.hid hbx
    clear hbx hz
    gi_wp2
    exact ⟨(KeepsOthers.setCell _ _ _).from _, stay_set (fun h => HRx.out _ h rfl), by
      have := blk_put HBx.out (.int .i64 (z + 1))
      rw [List.length_append, show ((pre.length + [y].length : Nat) : Int) - 1 = z + 1 by rw [HZ.out]; simp]; exact this, hOnly.set _ _⟩
  case stop =>
    rintro D cc pre V hD hpre hf hK
    exact hf.elim
  case done =>
    rintro D ys V hD rfl ⟨hbx, hOnly⟩ hK
    obtain ⟨z, hz⟩ : ∃ z, z = (ys.length : Int) - 1 := ⟨_, rfl⟩
    have HDi : Hid ((ys.length : Int) - 1 = z) := Lib.hid hz.symm
    rw [← hz] at hbx
    have cx : V.cell? ⟨x0, 0, none⟩ = some (.int .i64 z) := by rw [hbx.cell]; rfl
    clear hbx hz
    go_wp2
    have hlD : D < V.heap.size := by
      rcases Nat.lt_or_ge D V.heap.size with h1 | h1
      · exact h1
      · rw [Array.getElem?_eq_none h1] at hK; cases hK
    refine Marks.leave (B := w1.heap.size) [_] _ ⟨D, rfl, hD, hlD, hK, by simp, trivial⟩ (fun W' hb => ?_)
    refine ⟨.int .i64 z, by simp [results, Try.f67, go_sem], by rw [HDi.out], ?_⟩
    have h1 := Only.below HB1.out hOnly (by rw [HX0.out]; exact Nat.le_refl _) HB1.out.size
    exact h1.trans (hb.mono HB1.out.size)
theorem dist_any (T g : Nat) (ps : List Int) (a b : Int) (w : World) (h : IsTr w T g ps) (G : Gr.Good ps) (hlen : (pathI ps a b).length ≤ 32) :
    Calls Try.prog 67 #[.pointer (some ⟨T, 0, none⟩), .int .i64 a, .int .i64 b] w fun e w' => e = .returned (.int .i64 (distI ps a b)) ∧ Below w.heap.size w w' :=
  dist_val _ (TrB T g) _ a b w h.lt hlen fun W hW => path_code T g ps a b W (h.below_ hW) G
theorem dist_nil (a b : Int) (w : World) :
    Calls Try.prog 67 #[.pointer none, .int .i64 a, .int .i64 b] w fun e w' => e = .returned (.int .i64 (-1)) ∧ Below w.heap.size w w' :=
  dist_val _ (fun _ => False) [] a b w (fun _ h => h.elim) (by simp) fun W hW => path_nil a b W
end Go.Proofs.Ytcicpgiljceioaa.Pk

/- So near are just a node itself and its neighbours; the landed clauses of a state that can be. -/
namespace Go.Proofs.Ytcicpgiljceioaa.Gr
set_option linter.unusedVariables false
theorem Good.dist_le_one {ps : List Int} (G : Good ps) {a b : Nat} (ha : a < ps.length) (hb : b < ps.length) : distL ps a b ≤ 1 ↔ (a = b ∨ nearL ps b a = true) := by
  constructor
  · intro h
    by_cases hab : a = b
    · exact .inl hab
    · obtain ⟨v, hv, hn, hd⟩ := G.rt.nearer _ a b ha hb hab (Nat.le_refl _)
      have h2 : distL ps v b + 1 = distL ps a b := hd
      have h3 : distL ps v b = 0 := by omega
      have h4 : v = b := G.rt.dist_zero hv hb h3
      subst h4
      exact .inr ((G.near_iff hv ha).2 hn)
  · rintro (h | h)
    · subst h
      have : distL ps a a = 0 := dist_self a
      omega
    · have hn := (G.near_iff hb ha).1 h
      have h0 : distL ps b b = 0 := dist_self b
      rcases G.rt.step hb ha hb hn with h1 | h1
      · have h1 : distL ps b b = distL ps a b + 1 := h1
        omega
      · have h1 : distL ps a b = distL ps b b + 1 := h1
        omega
theorem Good.dist_near {ps : List Int} (G : Good ps) {me : Int} (h0 : 0 ≤ me) (h1 : me < (ps.length : Int)) (a : Int) : (0 ≤ Pk.distI ps me a ∧ Pk.distI ps me a ≤ 1) ↔ (a = me ∨ a ∈ Pk.nbsI ps me) := by
  unfold Pk.distI pathI
  by_cases ha : 0 ≤ a ∧ a < (ps.length : Int)
  · rw [if_pos ⟨⟨h0, h1⟩, ha⟩]
    have k0 : me.toNat < ps.length := by omega
    have k1 : a.toNat < ps.length := by omega
    simp only [ints, List.length_map]
    rw [G.pathN_len k0 k1]
    have h := G.dist_le_one k0 k1
    constructor
    · intro hd
      rcases h.1 (by omega) with e | e
      · exact .inl (by omega)
      · right
        unfold Pk.nbsI
        rw [if_pos ⟨h0, h1⟩]
        unfold Pk.nbs
        exact List.mem_map.2 ⟨a.toNat, List.mem_filter.2 ⟨List.mem_range.2 k1, e⟩, by omega⟩
    · intro hd
      have : distL ps me.toNat a.toNat ≤ 1 := by
        refine h.2 ?_
        rcases hd with e | e
        · exact .inl (by omega)
        · right
          unfold Pk.nbsI at e
          rw [if_pos ⟨h0, h1⟩] at e
          unfold Pk.nbs at e
          obtain ⟨u, hu, e2⟩ := List.mem_map.1 e
          have h3 := (List.mem_filter.1 hu).2
          have : a.toNat = u := by omega
          rw [this]; exact h3
      omega
  · rw [if_neg (fun h => ha h.2)]
    simp only [List.length_nil]
    constructor
    · intro h; omega
    · rintro (e | e)
      · omega
      · exfalso
        unfold Pk.nbsI at e
        rw [if_pos ⟨h0, h1⟩] at e
        unfold Pk.nbs at e
        obtain ⟨u, hu, e2⟩ := List.mem_map.1 e
        have := List.mem_range.1 (List.mem_filter.1 hu).1
        omega
end Go.Proofs.Ytcicpgiljceioaa.Gr

/- What package chain's Good and Open promise (to be proved of the code that lands). -/
namespace Go.Proofs.Ytcicpgiljceioaa.Pk
open Go.RowKit
set_option linter.unusedVariables false
def J64 (x : Int) : Prop := -9223372036854775808 ≤ x ∧ x ≤ 9223372036854775807
def GoodP : Prop := ∀ (A : Option Addr) (n c : Nat) (l : List Ce) (me : Int) (sink : Bool) (w : World), InK w l A n c → J64 me →
  Calls Try.prog 68 #[.slice A n c, .int .i64 me, .bool sink] w fun e w' => e = .returned (.bool (decide (GoodK l me sink))) ∧ Below w.heap.size w w'
def OpenP : Prop := ∀ (A : Option Addr) (n c : Nat) (l : List Ce) (w : World), InK w l A n c →
  Calls Try.prog 39 #[.slice A n c] w fun e w' => e = .returned (.int .i64 (openK l : Nat)) ∧ Below w.heap.size w w'
end Go.Proofs.Ytcicpgiljceioaa.Pk

/- Lists of cells that a call answered, handed over again; their cells. -/
namespace Go.Proofs.Ytcicpgiljceioaa.Pk
open Go.RowKit
set_option linter.unusedVariables false
theorem OwnK.inK {w : World} {B n c : Nat} {A : Option Addr} {l : List Ce} (h : OwnK w B (.slice A n c) l) (hf : l.length ≤ 4398046511000) (hi : ∀ m ∈ l, m.I) : InK w l A n c := by
  obtain ⟨A', c', e, hc, hr⟩ := OwnK.reads h
  injection e with e1 e2 e3
  subst e1; subst e2; subst e3
  exact ⟨hr, hc, hf, hi⟩
theorem InK.cells {w : World} {l : List Ce} {A : Option Addr} {n c : Nat} (h : InK w l A n c) (hn : 0 < n) : ∃ b off, A = some ⟨b, off, none⟩ ∧ ∀ W, Below w.heap.size w W → ∀ i r, l[i]? = some r →
    W.cell? ⟨b, off + i * 4, none⟩ = some (.int .i64 r.n) ∧ W.cell? ⟨b, off + i * 4 + 1, none⟩ = some (.int .i64 r.s) ∧ W.cell? ⟨b, off + i * 4 + 2, none⟩ = some (.int .i64 r.d) ∧ W.cell? ⟨b, off + i * 4 + 3, none⟩ = some (.int .i64 r.x) := by
  obtain ⟨b, off, e, _, hc⟩ := h.rd.ces_ hn
  refine ⟨b, off, e, fun W hW => ?_⟩
  obtain ⟨b', off', e', _, hc'⟩ := (h.next hW).rd.ces_ hn
  rw [e] at e'
  injection e' with e'
  injection e' with e1 e2 _
  subst e1; subst e2
  exact hc'
theorem ceA_I {l : List Ce} (h : ∀ m ∈ l, m.I) {i : Nat} (hi : i < l.length) : (ceA l i).I := h _ (List.mem_of_getElem? (ceA_get hi))
theorem j64 {x : Int} (h : -9223372036854775808 ≤ x) (h2 : x ≤ 9223372036854775807) : J64 x := ⟨h, h2⟩
end Go.Proofs.Ytcicpgiljceioaa.Pk

/- The landed Open of package chain. -/
namespace Go.Proofs.Ytcicpgiljceioaa.Pk
open Go.RowKit
set_option linter.unusedVariables false
attribute [local go_sem] Oper.semAt_some
set_option maxHeartbeats 4000000 in
theorem openC : OpenP := by
  intro A n c l w hin
  have HI := Lib.hid hin
  have HL := Lib.hid hin.len
  have hn := hin.few
  clear hin
  go_enter Try.func39, Try.ntmps39
  go_wp2
  go_loopw [3, 5, 8] (fun x _ j wr => ∃ i : Nat, j = .int .i64 i ∧ i ≤ n ∧ x = .int .i64 (openK (l.take i) : Nat) ∧ Below w.heap.size w wr) (fun _ _ j _ => n - (intOf j).toNat)
  case atStart => exact ⟨0, rfl, by omega, rfl, Below.refl _ _⟩
  case round =>
    obtain ⟨i, rfl, hi, rfl, hb⟩ := hrel
    obtain ⟨w1, rfl⟩ : ∃ w1 : World, w1 = wr := ⟨_, rfl⟩
    have HB := Lib.hid hb
    clear hb
    by_cases hlt : i < n
    · obtain ⟨b, off, rfl, _, hc⟩ := (HI.out.next HB.out).rd.ces_ (by omega)
      have HT := Lib.hid (openK_take (l := l) (i := i) (by rw [HL.out]; exact hlt))
      have HLe := Lib.hid (openK_le (l.take i))
      have hcg := hc i _ (ceA_get (by rw [HL.out]; exact hlt))
      obtain ⟨r, hr⟩ : ∃ r, r = ceA l i := ⟨_, rfl⟩
      rw [← hr] at HT hcg
      obtain ⟨rn, rs, rd, rx⟩ := r
      simp only at HT hcg
      obtain ⟨m0, m1, m2, m3⟩ := hcg
      obtain ⟨k, hk⟩ : ∃ k, k = openK (l.take i) := ⟨_, rfl⟩
      have hk2 : k ≤ n := by rw [hk]; have := HLe.out; rw [List.length_take] at this; omega
      rw [← hk] at HT ⊢
      clear hc hr hk
      have HB2 : Hid (Below w.heap.size w (w1.alloc (.cells #[.int .i64 rn, .int .i64 rs, .int .i64 rd, .int .i64 rx] 57))) := Lib.hid (HB.out.alloc HB.out.size _)
      by_cases h1 : rs = 1
      · have t1 : (rs == 1) = true := by simp [h1]
        have HS : Hid (openK (l.take (i + 1)) = k + 1) := Lib.hid (by rw [HT.out, if_pos (.inl h1)])
        clear h1
        go_wp2
        go_roundw
        case rel => exact ⟨i + 1, by go_num, by omega, by rw [HS.out]; go_num, HB2.out⟩
        case measure => simp [intOf]; omega
      · have t1 : (rs == 1) = false := by simp [h1]
        by_cases h2 : rs = 2
        · have t2 : (rs == 2) = true := by simp [h2]
          have HS : Hid (openK (l.take (i + 1)) = k + 1) := Lib.hid (by rw [HT.out, if_pos (.inr h2)])
          clear h1 h2
          go_wp2
          go_roundw
          case rel => exact ⟨i + 1, by go_num, by omega, by rw [HS.out]; go_num, HB2.out⟩
          case measure => simp [intOf]; omega
        · have t2 : (rs == 2) = false := by simp [h2]
          have HS : Hid (openK (l.take (i + 1)) = k) := Lib.hid (by rw [HT.out, if_neg (by omega)]; rfl)
          clear h1 h2
          go_wp2
          go_roundw
          case rel => exact ⟨i + 1, by go_num, by omega, by rw [HS.out], HB2.out⟩
          case measure => simp [intOf]; omega
    · have HF : Hid (openK (l.take i) = openK l) := Lib.hid (by rw [List.take_of_length_le (by rw [HL.out]; omega)])
      rw [HF.out]
      go_wp2
      go_ret
      exact ⟨rfl, HB.out⟩
end Go.Proofs.Ytcicpgiljceioaa.Pk

/- The landed Open of package state. -/
namespace Go.Proofs.Ytcicpgiljceioaa.Pk
open Go.RowKit
set_option linter.unusedVariables false
set_option maxRecDepth 100000 in
set_option maxHeartbeats 4000000 in
theorem openS_any (s : StL) (w : World) (hin : InS w s) :
    Calls Try.prog 17 #[s.val] w fun e w' => e = .returned (.int .i64 (openW s.v.os)) ∧ Below w.heap.size w w' := by
  have HI := Lib.hid hin
  have HL := Lib.hid hin.os.len
  have hn : s.so.n * 40 ≤ 140737488351232 := hin.os.few
  obtain ⟨me, os, ⟨A, n, c⟩, es, se, q, as_, sa, gs, sg⟩ := s
  simp only at hn HL
  clear hin
  obtain ⟨ve, hve⟩ : ∃ v, v = se.val := ⟨_, rfl⟩
  obtain ⟨va, hva⟩ : ∃ v, v = sa.val := ⟨_, rfl⟩
  obtain ⟨vg, hvg⟩ : ∃ v, v = sg.val := ⟨_, rfl⟩
  show Calls Try.prog 17 #[.agg #[.int .i64 me, .slice A n c, se.val, .int .i64 q, sa.val, sg.val]] w fun e w' => e = .returned (.int .i64 (openW (os.map (·.v)))) ∧ Below w.heap.size w w'
  rw [← hve, ← hva, ← hvg]
  clear hve hva hvg
  have HB0 : Hid (Below w.heap.size w (w.alloc (.cells #[.int .i64 me, .slice A n c, ve, .int .i64 q, va, vg] 30))) := Lib.hid ((Below.refl _ _).alloc (Nat.le_refl _) _)
  go_enter Try.func17, Try.ntmps17
  go_wp2
  go_loopw [3, 9] (fun x j wr => ∃ i : Nat, j = .int .i64 i ∧ i ≤ n ∧ x = .int .i64 (wrap64 (sumK ((os.take i).map (·.v)) : Int)) ∧ Below w.heap.size w wr) (fun _ j _ => n - (intOf j).toNat)
  case atStart => exact ⟨0, rfl, by omega, by simp [sumK, wrap64], HB0.out⟩
  case round =>
    obtain ⟨i, rfl, hi, rfl, hb⟩ := hrel
    obtain ⟨w1, rfl⟩ : ∃ w1 : World, w1 = wr := ⟨_, rfl⟩
    have HB := Lib.hid hb
    clear hb HB0
    by_cases hlt : i < n
    · have hil : i < os.length := by rw [HL.out]; exact hlt
      obtain ⟨b, off, rfl, _, hc⟩ := owR.spots (HI.out.os.next HB.out).rd (show 0 < n by omega)
      have hg := owA_get hil
      have HOk := Lib.hid (HI.out.o _ (List.mem_of_getElem? hg))
      have HS := Lib.hid (sumK_take hil)
      obtain ⟨r, hr⟩ : ∃ r, r = owA os i := ⟨_, rfl⟩
      rw [← hr] at hg HOk HS
      have m0 := hc i r hg 0 _ rfl
      have m1 := hc i r hg 1 _ rfl
      have m2 := hc i r hg 2 _ rfl
      obtain ⟨⟨ra, rm, rc⟩, ⟨A1, n1, c1⟩⟩ := r
      simp only [owR, Nat.add_zero, Sl.val, ← Nat.add_assoc] at m0 m1 m2 HS
      have HB2 : Hid (Below w.heap.size w (w1.alloc (.cells #[.int .i64 ra, .int .i64 rm, .slice A1 n1 c1] 55))) := Lib.hid (HB.out.alloc HB.out.size _)
      have HK := Lib.hid (openC A1 n1 c1 rc _ ((HOk.out.next HB2.out).c.inK HOk.out.i))
      obtain ⟨k, hk⟩ : ∃ k, k = openK rc := ⟨_, rfl⟩
      obtain ⟨t, ht⟩ : ∃ t : Int, t = (sumK ((os.take i).map (·.v)) : Int) := ⟨_, rfl⟩
      have HN : Hid (wrap64 (wrap64 t + (k : Int)) = wrap64 (sumK ((os.take (i + 1)).map (·.v)) : Int)) := Lib.hid (by rw [wrap_on, HS.out, ht, hk]; congr 1)
      rw [← hk] at HK
      rw [← ht]
      clear hc hr hg HOk HS hk ht
      go_wp2_with fail
      refine HK.out.mono ?_
      rintro e w2 ⟨rfl, hb⟩
      have HB3 := Lib.hid (HB2.out.trans (hb.mono HB2.out.size))
      clear hb
      go_wp2
      go_roundw
      case rel => exact ⟨i + 1, by go_num, by omega, by rw [← HN.out], HB3.out⟩
      case measure => simp [intOf]; omega
    · have HF : Hid ((os.take i).map (·.v) = os.map (·.v)) := Lib.hid (by rw [List.take_of_length_le (by rw [HL.out]; omega)])
      rw [HF.out]
      go_wp2
      go_ret
      exact ⟨rfl, HB.out⟩
theorem openS : StOpenP := openS_any
end Go.Proofs.Ytcicpgiljceioaa.Pk
