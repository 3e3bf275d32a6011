/- The document's Fault and Take of a message. -/
import Derived.Test.YtmegpbejknmjbaaDoorWiRef
import Derived.Test.YtmegpbejknmjbaaDoorCut
import Derived.Test.YtmegpbejknmjbaaDoorSets
namespace Go.Proofs.YtmegpbejknmjbaaDoor.Pk
open Go.RowKit
set_option linter.unusedVariables false
theorem fault_low {l : List Int} {i : Nat} (hi : i < l.length) (h : l.getD i 0 < 128) : fault l = 31 := by
  unfold fault
  rw [if_neg]
  rintro ⟨_, h2⟩
  have := h2 (l.getD i 0) (by rw [List.getD_eq_getElem?_getD, List.getElem?_eq_getElem hi]; exact List.getElem_mem _)
  omega
theorem fault_long {l : List Int} (h : 8 < l.length) : fault l = 31 := by
  unfold fault
  rw [if_neg]
  rintro ⟨h1, _⟩
  omega
theorem fault_all {l : List Int} (h1 : l.length ≤ 8) (h : High l l.length) : fault l = 30 := fault_high (fun c hc => by
  obtain ⟨i, hi, rfl⟩ := List.getElem_of_mem hc
  have := h.2 i hi
  rwa [List.getD_eq_getElem?_getD, List.getElem?_eq_getElem hi] at this) h1
set_option maxHeartbeats 1600000 in
theorem reffault_any (A : Option Addr) (n c : Nat) (l : List Int) (w : World) (B : Nat) (h : Reads w B 1 A n (bts l)) (hB : isB l) (hn : n ≤ 4611686018427387904) :
    Calls Tryd.prog 34 #[.slice A n c] w fun e w' => e = .returned (.int .i64 (fault l)) ∧ w' = w := by
  have HL : Hid (l.length = n) := by have := h.1; simp at this; exact this
  have HR := Lib.hid h
  have HB := Lib.hid hB
  have HZ := Lib.hid (high_zero l)
  obtain ⟨q, hq⟩ : ∃ q, q = fault l := ⟨_, rfl⟩
  rw [← hq]
  have HQ := Lib.hid hq
  clear h hB hq
  by_cases h8 : 8 < n
  · obtain rfl : q = 31 := HQ.out.trans (fault_long (by have := HL.out; omega))
    go_enter Tryd.func34, Tryd.ntmps34
    go_wp2
    go_ret
    exact ⟨rfl, rfl⟩
  go_enter Tryd.func34, Tryd.ntmps34
  go_wp2
  go_loop [2, 3] (fun _ j => ∃ (k : Nat), j = .int .i64 k ∧ k ≤ n ∧ High l k) (fun _ j => n - (intOf j).toNat)
  case atStart => exact ⟨0, rfl, by omega, HZ.out⟩
  case round =>
    clear HZ
    obtain ⟨k, rfl, hk, hh⟩ := hrel
    have HH := Lib.hid hh
    clear hh
    by_cases hlt : k < n
    · obtain ⟨b, off, rfl, hbb, hc⟩ := HR.out.u8 (by omega)
      have hcx := hc k hlt
      have hm := HB.out _ (getD_mem l k (by rw [HL.out]; exact hlt))
      obtain ⟨x, hxx⟩ : ∃ x, x = l.getD k 0 := ⟨_, rfl⟩
      rw [← hxx] at hcx hm
      have HX := Lib.hid hxx
      clear hxx hc
      obtain ⟨hm1, hm2⟩ := hm
      by_cases hx : x < 128
      · obtain rfl : q = 31 := HQ.out.trans (fault_low (i := k) (by have := HL.out; omega) (by rw [← HX.out]; exact hx))
        go_wp2
        go_ret
        exact ⟨rfl, rfl⟩
      · go_wp2
        go_round
        case rel => exact ⟨k + 1, by go_num, by omega, high_succ HH.out (by rw [HL.out]; exact hlt) (by rw [← HX.out]; omega)⟩
        case measure => simp [intOf]; omega
    · obtain rfl : n = k := by omega
      obtain rfl : q = 30 := HQ.out.trans (fault_all (by have := HL.out; omega) (by rw [HL.out]; exact HH.out))
      go_wp2
      go_ret
      exact ⟨rfl, rfl⟩
theorem isB_drop_ {l : List Int} (h : isB l) (k : Nat) : isB (l.drop k) := fun c hc => h c (List.mem_of_mem_drop hc)
/-- How far Take's rounds are. -/
structure TkR (l : List Int) (n : Nat) (xs : List Int) (a : Nat) : Prop where
  len : xs.length ≤ 5
  five : xs.length = 5 → xs.getD 0 0 = 4
  at_ : a ≤ n
  rg : ∀ x ∈ xs, 0 ≤ x ∧ x ≤ 9223372036854775807
  go : wgo (6 - xs.length) xs a l = wtake l
theorem TkR.start (l : List Int) (n : Nat) : TkR l n [] 0 := ⟨by simp, fun h => by simp at h, by omega, fun x h => by simp at h, rfl⟩
theorem TkR.stop {l : List Int} {n : Nat} {xs : List Int} {a : Nat} (h : TkR l n xs a) (hm : more xs) (h0 : (tkv (l.drop a)).2 = 0) : wtake l = (Mg.zero, 0, fault (l.drop a)) := by
  rw [← h.go]
  have h1 := h.len
  obtain ⟨f, hf⟩ : ∃ f, 6 - xs.length = f + 1 := ⟨5 - xs.length, by omega⟩
  rw [hf, wgo, if_pos hm, if_pos h0]
theorem TkR.step {l : List Int} {n : Nat} {xs : List Int} {a k : Nat} {y : Int} (h : TkR l n xs a) (hm : more xs) (ht : tkv (l.drop a) = (y, k)) (h0 : k ≠ 0) (hk : a + k ≤ n) (hy : 0 ≤ y ∧ y ≤ 9223372036854775807) : TkR l n (xs ++ [y]) (a + k) := by
  have h1 := h.len
  have h2 : xs.length ≤ 4 := by rcases hm with h3 | ⟨h3, _⟩ <;> omega
  refine ⟨by simp; omega, fun h5 => ?_, hk, fun x hx => ?_, ?_⟩
  · simp at h5
    rcases hm with h3 | ⟨h3, h4⟩
    · omega
    · cases xs with
      | nil => simp at h3
      | cons b r => simpa using h4
  · rcases List.mem_append.1 hx with hx | hx
    · exact h.rg x hx
    · obtain rfl : x = y := by simpa using hx
      exact hy
  · rw [← h.go]
    obtain ⟨f, hf⟩ : ∃ f, 6 - xs.length = f + 1 := ⟨5 - xs.length, by omega⟩
    rw [hf, wgo, if_pos hm, ht, if_neg h0]
    have e : 6 - (xs ++ [y]).length = f := by simp; omega
    rw [e]
theorem TkR.done {l : List Int} {n : Nat} {xs : List Int} {a : Nat} (h : TkR l n xs a) (hm : ¬ more xs) : wtake l = if (Mg.of xs).Be then (Mg.of xs, a, 0) else (Mg.zero, 0, 31) := by
  rw [← h.go]
  have h1 := h.len
  obtain ⟨f, hf⟩ : ∃ f, 6 - xs.length = f + 1 := ⟨5 - xs.length, by omega⟩
  rw [hf, wgo, if_neg hm]
theorem TkR.get {l : List Int} {n : Nat} {xs : List Int} {a : Nat} (h : TkR l n xs a) (i : Nat) : 0 ≤ xs.getD i 0 ∧ xs.getD i 0 ≤ 9223372036854775807 := by
  rcases Nat.lt_or_ge i xs.length with hi | hi
  · exact h.rg _ (by rw [List.getD_eq_getElem?_getD, List.getElem?_eq_getElem hi]; exact List.getElem_mem _)
  · rw [List.getD_eq_getElem?_getD, List.getElem?_eq_none hi]; exact ⟨Int.le_refl _, by show (0 : Int) ≤ _; omega⟩
theorem mg_i {z0 z1 z2 z3 z4 : Int} (h : (0 ≤ z0 ∧ z0 ≤ 9223372036854775807) ∧ (0 ≤ z1 ∧ z1 ≤ 9223372036854775807) ∧ (0 ≤ z2 ∧ z2 ≤ 9223372036854775807) ∧ (0 ≤ z3 ∧ z3 ≤ 9223372036854775807) ∧ (0 ≤ z4 ∧ z4 ≤ 9223372036854775807)) : Mg.I ⟨z0, z1, z2, z3, z4⟩ := by
  obtain ⟨⟨a0, b0⟩, ⟨a1, b1⟩, ⟨a2, b2⟩, ⟨a3, b3⟩, a4, b4⟩ := h
  exact ⟨⟨by show _ ≤ z0; omega, b0⟩, ⟨by show _ ≤ z1; omega, b1⟩, ⟨by show _ ≤ z2; omega, b2⟩, ⟨by show _ ≤ z3; omega, b3⟩, ⟨by show _ ≤ z4; omega, b4⟩⟩
def lenOf : Value → Nat
  | .slice _ n _ => n
  | _ => 0
theorem below_setAt {B : Nat} {w V : World} (h : Below B w V) {x : Nat} (hx : B ≤ x) (o : Nat) (u : Value) : Below B w (V.setCell ⟨x, o, none⟩ u) :=
  ⟨h.os, h.tape, h.output, by have := h.size; simpa [World.setCell] using this, fun i hi => (Below.heap_setCell V ⟨x, o, none⟩ u i (by show ¬ i = x; omega)).trans (h.block i hi)⟩
/-- A message laid into its box. -/
theorem msg_set {V : World} {x : Nat} {t : TypeId} {a0 a1 a2 a3 a4 : Value} (h : Blk V x t #[a0, a1, a2, a3, a4]) (u0 u1 u2 u3 u4 : Value) : ∃ V5, V5 = (((((V.setCell ⟨x, 0, none⟩ u0).setCell ⟨x, 1, none⟩ u1).setCell ⟨x, 2, none⟩ u2).setCell ⟨x, 3, none⟩ u3).setCell ⟨x, 4, none⟩ u4) ∧
    Blk V5 x t #[u0, u1, u2, u3, u4] ∧ (∀ B w, B ≤ x → Below B w V → Below B w V5) :=
  ⟨_, rfl, ((((h.set_ 0 u0).set_ 1 u1).set_ 2 u2).set_ 3 u3).set_ 4 u4, fun B w hx hb => below_setAt (below_setAt (below_setAt (below_setAt (below_setAt hb hx 0 u0) hx 1 u1) hx 2 u2) hx 3 u3) hx 4 u4⟩
set_option maxRecDepth 100000 in
set_option maxHeartbeats 4000000 in
theorem reftake8_any (A : Option Addr) (n c : Nat) (l : List Int) (w : World) (B : Nat) (h : Reads w B 1 A n (bts l)) (hc : n ≤ c) (hB : isB l) (hBw : B ≤ w.heap.size) (hn : n ≤ 4611686018427387904) :
    Calls Tryd.prog 35 #[.slice A n c] w fun e w' => e = .returned (.tuple #[(wtake l).1.val, .int .i64 ((wtake l).2.1 : Int), .int .i64 (wtake l).2.2]) ∧ Below w.heap.size w w' := by
  have HL : Hid (l.length = n) := by have := h.1; simp at this; exact this
  have HR := Lib.hid (h.more hBw)
  have HB := Lib.hid hB
  clear h hB
  go_enter Tryd.func35, Tryd.ntmps35
  obtain ⟨p, hp⟩ : ∃ p, p = w.heap.size := ⟨_, rfl⟩
  obtain ⟨w1, hw1⟩ : ∃ w1, w1 = w.alloc (.cells #[.int .i64 0, .int .i64 0, .int .i64 0, .int .i64 0, .int .i64 0] 24) := ⟨_, rfl⟩
  have hb1 : Below w.heap.size w w1 := hw1 ▸ (Below.refl _ _).alloc (Nat.le_refl _) _
  have k1 : Blk w1 p 24 #[.int .i64 0, .int .i64 0, .int .i64 0, .int .i64 0, .int .i64 0] := by rw [hw1, hp]; exact Blk.new w _ _
  have HB1 := Lib.hid hb1
  have HK1 := Lib.hid k1
  have hs1 := hb1.size
  have HPw : Hid (p = w.heap.size) := Lib.hid hp
  go_wp2
  rw [← hw1, ← hp]
  clear hw1 hp hb1 k1
  go_loopw [5, 6, 7, 8] (fun ns at_ _ _ wr => ∃ (xs : List Int) (a : Nat) (X : Option Addr) (cx : Nat), ns = .slice X xs.length cx ∧ at_ = .int .i64 a ∧ OwnN wr w1.heap.size (.slice X xs.length cx) xs ∧ TkR l n xs a ∧ Below w1.heap.size w1 wr) (fun ns _ _ _ _ => 6 - lenOf ns)
  case atStart => exact ⟨[], 0, none, 0, rfl, rfl, OwnN.none_ _ _, TkR.start l n, Below.refl _ _⟩
  case round =>
    obtain ⟨xs, a, X, cx, rfl, rfl, ho, hT, hb⟩ := hrel
    obtain ⟨w2, rfl⟩ : ∃ w2 : World, w2 = wr := ⟨_, rfl⟩
    obtain ⟨q, hq⟩ : ∃ q, q = xs.length := ⟨_, rfl⟩
    have hq5 : q ≤ 5 := by rw [hq]; exact hT.len
    have han : a ≤ n := hT.at_
    have HQ := Lib.hid hq
    have HO := Lib.hid ho
    have HTk := Lib.hid hT
    have HB2 := Lib.hid (HB1.out.trans (hb.mono hs1))
    have HB12 := Lib.hid hb
    have k2 := HK1.out.below hb HK1.out.lt
    have HK2 := Lib.hid k2
    have hs2 := hb.size
    obtain ⟨_, _, e, hcx, hrx⟩ := ho.reads
    injection e with e1 _ e3
    subst e1; subst e3
    have HRx := Lib.hid hrx
    rw [← hq]
    rw [← hq] at hcx
    clear ho hT hb k2 hq hrx
    have HRl : Hid (Reads w2 w2.heap.size 1 A n (bts l)) := Lib.hid ((HR.out.below HB2.out).more HB2.out.size)
    have HRc : Hid (Reads w2 w2.heap.size 1 (cutA A c a) (n - a) (bts (l.drop a))) := Lib.hid (by
      have h1 := reads_cut (c := c) HRl.out han (Nat.le_refl _) hc
      rw [← HL.out, List.take_length, HL.out] at h1
      exact h1)
    have HT := Lib.hid (reftake_any (cutA A c a) (n - a) (c - a) (l.drop a) w2 w2.heap.size HRc.out (isB_drop_ HB.out a) (by omega))
    have HFa := Lib.hid (reffault_any (cutA A c a) (n - a) (c - a) (l.drop a) w2 w2.heap.size HRc.out (isB_drop_ HB.out a) (by omega))
    have kc : ∀ u : World, (Instr.slice 22 (.slice A n c) (some (.int .i64 (a : Int))) none none).run Tryd.prog u = .ok (.slice (cutA A c a) (n - a) (c - a)) u := fun u => run_cut1 Tryd.underlying22 (by kernel_rfl) A n c a han u
    have hain : (a : Int) ≤ (n : Int) := by omega
    have HC := Lib.hid (tkv_cases (l.drop a) (isB_drop_ HB.out a))
    have hdl : (l.drop a).length = n - a := by rw [List.length_drop, HL.out]
    have HDl := Lib.hid hdl
    clear hdl
    by_cases h4 : q < 4
    case pos =>
      have HMo : Hid (more xs) := Lib.hid (.inl (by have := HQ.out; omega))
      have t1 : decide ((q : Int) < 4) = true := by simp; omega
      rcases HC.out with ht | ⟨y, k, ht, y0, y1, k1, k2, k3, _⟩
      · have HS := Lib.hid (HTk.out.stop HMo.out (by rw [ht]))
        rw [ht] at HT
        clear ht
        go_wp2_with fail
        refine HT.out.mono ?_
        rintro e w3 ⟨rfl, hw⟩
        rw [← hw]
        clear hw w3
        go_wp2_with fail
        refine HFa.out.mono ?_
        rintro e w3 ⟨rfl, hw⟩
        rw [hw]
        clear hw w3
        have k2 := HK2.out
        have x0 : w2.cell? ⟨p, 0, none⟩ = some (.int .i64 0) := k2.cell 0
        have x1 : w2.cell? ⟨p, 1, none⟩ = some (.int .i64 0) := k2.cell 1
        have x2 : w2.cell? ⟨p, 2, none⟩ = some (.int .i64 0) := k2.cell 2
        have x3 : w2.cell? ⟨p, 3, none⟩ = some (.int .i64 0) := k2.cell 3
        have x4 : w2.cell? ⟨p, 4, none⟩ = some (.int .i64 0) := k2.cell 4
        have f0 : w2.frozen? ⟨p, 0, none⟩ = false := k2.frozen 0
        have f1 : w2.frozen? ⟨p, 1, none⟩ = false := k2.frozen 1
        have f2 : w2.frozen? ⟨p, 2, none⟩ = false := k2.frozen 2
        have f3 : w2.frozen? ⟨p, 3, none⟩ = false := k2.frozen 3
        have f4 : w2.frozen? ⟨p, 4, none⟩ = false := k2.frozen 4
        obtain ⟨w5, hw5, k5, hb5⟩ := msg_set k2 (.int .i64 0) (.int .i64 0) (.int .i64 0) (.int .i64 0) (.int .i64 0)
        have HB5 := Lib.hid (hb5 w.heap.size w (by have := HPw.out; omega) HB2.out)
        have HW5 := Lib.hid hw5
        have y0 : w5.cell? ⟨p, 0, none⟩ = some (.int .i64 0) := k5.cell 0
        have y1 : w5.cell? ⟨p, 1, none⟩ = some (.int .i64 0) := k5.cell 1
        have y2 : w5.cell? ⟨p, 2, none⟩ = some (.int .i64 0) := k5.cell 2
        have y3 : w5.cell? ⟨p, 3, none⟩ = some (.int .i64 0) := k5.cell 3
        have y4 : w5.cell? ⟨p, 4, none⟩ = some (.int .i64 0) := k5.cell 4
        clear k2 hw5 k5 hb5
        go_wp2
        rw [← HW5.out]
        refine bodyPost_ret (v := .tuple #[Mg.zero.val, .int .i64 0, .int .i64 (fault (l.drop a))]) (by simp [results, Tryd.f35, go_sem, y0, y1, y2, y3, y4, Mg.val, Mg.zero]) rfl ⟨?_, HB5.out⟩
        rw [HS.out]
        rfl
      · have hk0 : ((k : Int) == 0) = false := beq_eq_false_iff_ne.2 (by omega)
        have hkn : a + k ≤ n := by have := HDl.out; omega
        obtain ⟨a2, ha2⟩ : ∃ a2, a2 = a + k := ⟨_, rfl⟩
        have hwr : IntKind.i64.wrap ((a : Int) + (k : Int)) = (a2 : Int) := by rw [IntWalk.i64_in _ (by omega), ha2]; simp
        have HTn : Hid (TkR l n (xs ++ [y]) a2) := Lib.hid (by rw [ha2]; exact HTk.out.step HMo.out ht (by omega) hkn ⟨y0, y1⟩)
        rw [ht] at HT
        clear ht ha2 k3
        go_wp2_with fail
        refine HT.out.mono ?_
        rintro e w3 ⟨rfl, hw⟩
        rw [← hw]
        clear hw w3
        have HOq : Hid (OwnN w2 w1.heap.size (.slice X q cx) xs) := Lib.hid (by rw [HQ.out]; exact HO.out)
        go_wp2_with (at_builtin; refine appN w2 y _ rfl (.tmp 38) (.tmp 40) rfl w1.heap.size _ xs rfl HOq.out w2.heap.size rfl rfl (by have := HQ.out; omega) hs2 ?_; intro v3 w3 hown3 hb3 _; obtain ⟨X3, c3, rfl, _, _⟩ := hown3.reads; have HO3 := Lib.hid hown3; have HB3 := Lib.hid (HB12.out.trans (hb3.mono (Nat.le_refl _))); clear hown3 hb3)
        go_roundw
        case rel => exact ⟨xs ++ [y], a2, X3, c3, by rw [List.length_append]; rfl, rfl, HO3.out, HTn.out, HB3.out⟩
        case measure => simp [lenOf]; have := HQ.out; omega
    case neg =>
    have t1 : decide ((q : Int) < 4) = false := by simp; omega
    obtain ⟨g, off, rfl, hgb, hcs⟩ := HRx.out.i64 (by have := HQ.out; omega)
    have hc0 := hcs 0 (by have := HQ.out; omega)
    have hc1 := hcs 1 (by have := HQ.out; omega)
    have hc2 := hcs 2 (by have := HQ.out; omega)
    have hc3 := hcs 3 (by have := HQ.out; omega)
    obtain ⟨z0, hz0⟩ : ∃ z, z = xs.getD 0 0 := ⟨_, rfl⟩
    obtain ⟨z1, hz1⟩ : ∃ z, z = xs.getD 1 0 := ⟨_, rfl⟩
    obtain ⟨z2, hz2⟩ : ∃ z, z = xs.getD 2 0 := ⟨_, rfl⟩
    obtain ⟨z3, hz3⟩ : ∃ z, z = xs.getD 3 0 := ⟨_, rfl⟩
    obtain ⟨z4, hz4⟩ : ∃ z, z = xs.getD 4 0 := ⟨_, rfl⟩
    rw [← hz0] at hc0
    rw [← hz1] at hc1
    rw [← hz2] at hc2
    rw [← hz3] at hc3
    have HZ : Hid (Mg.of xs = ⟨z0, z1, z2, z3, z4⟩) := Lib.hid (by rw [hz0, hz1, hz2, hz3, hz4]; rfl)
    have HZR : Hid ((0 ≤ z0 ∧ z0 ≤ 9223372036854775807) ∧ (0 ≤ z1 ∧ z1 ≤ 9223372036854775807) ∧ (0 ≤ z2 ∧ z2 ≤ 9223372036854775807) ∧ (0 ≤ z3 ∧ z3 ≤ 9223372036854775807) ∧ (0 ≤ z4 ∧ z4 ≤ 9223372036854775807)) := Lib.hid (by
      rw [hz0, hz1, hz2, hz3, hz4]
      exact ⟨HTk.out.get 0, HTk.out.get 1, HTk.out.get 2, HTk.out.get 3, HTk.out.get 4⟩)
    have HZ0 := Lib.hid hz0
    have HCs := Lib.hid hcs
    have HZ4 := Lib.hid hz4
    clear hz0 hz1 hz2 hz3 hz4 hcs
    simp only [Nat.add_zero] at hc0
    by_cases h5 : q = 4
    case pos =>
      have hqi : ((q : Int) == 4) = true := by rw [h5]; rfl
      have hlx : 4 ≤ q := by omega
      have hlx2 : q < 5 := by omega
      have HQ4 := Lib.hid h5
      clear h5
      by_cases h6 : z0 = 4
      case pos =>
        have HMo : Hid (more xs) := Lib.hid (.inr ⟨by have := HQ.out; have := HQ4.out; omega, by rw [← HZ0.out]; exact h6⟩)
        have t2 : (z0 == 4) = true := by simpa using h6
        clear h6
        rcases HC.out with ht | ⟨y, k, ht, y0, y1, k1, k2, k3, _⟩
        · have HS := Lib.hid (HTk.out.stop HMo.out (by rw [ht]))
          rw [ht] at HT
          clear ht
          go_wp2_with fail
          refine HT.out.mono ?_
          rintro e w3 ⟨rfl, hw⟩
          rw [← hw]
          clear hw w3
          go_wp2_with fail
          refine HFa.out.mono ?_
          rintro e w3 ⟨rfl, hw⟩
          rw [hw]
          clear hw w3
          have k2 := HK2.out
          have x0 : w2.cell? ⟨p, 0, none⟩ = some (.int .i64 0) := k2.cell 0
          have x1 : w2.cell? ⟨p, 1, none⟩ = some (.int .i64 0) := k2.cell 1
          have x2 : w2.cell? ⟨p, 2, none⟩ = some (.int .i64 0) := k2.cell 2
          have x3 : w2.cell? ⟨p, 3, none⟩ = some (.int .i64 0) := k2.cell 3
          have x4 : w2.cell? ⟨p, 4, none⟩ = some (.int .i64 0) := k2.cell 4
          have f0 : w2.frozen? ⟨p, 0, none⟩ = false := k2.frozen 0
          have f1 : w2.frozen? ⟨p, 1, none⟩ = false := k2.frozen 1
          have f2 : w2.frozen? ⟨p, 2, none⟩ = false := k2.frozen 2
          have f3 : w2.frozen? ⟨p, 3, none⟩ = false := k2.frozen 3
          have f4 : w2.frozen? ⟨p, 4, none⟩ = false := k2.frozen 4
          obtain ⟨w5, hw5, k5, hb5⟩ := msg_set k2 (.int .i64 0) (.int .i64 0) (.int .i64 0) (.int .i64 0) (.int .i64 0)
          have HB5 := Lib.hid (hb5 w.heap.size w (by have := HPw.out; omega) HB2.out)
          have HW5 := Lib.hid hw5
          have y0 : w5.cell? ⟨p, 0, none⟩ = some (.int .i64 0) := k5.cell 0
          have y1 : w5.cell? ⟨p, 1, none⟩ = some (.int .i64 0) := k5.cell 1
          have y2 : w5.cell? ⟨p, 2, none⟩ = some (.int .i64 0) := k5.cell 2
          have y3 : w5.cell? ⟨p, 3, none⟩ = some (.int .i64 0) := k5.cell 3
          have y4 : w5.cell? ⟨p, 4, none⟩ = some (.int .i64 0) := k5.cell 4
          clear k2 hw5 k5 hb5
          go_wp2
          rw [← HW5.out]
          refine bodyPost_ret (v := .tuple #[Mg.zero.val, .int .i64 0, .int .i64 (fault (l.drop a))]) (by simp [results, Tryd.f35, go_sem, y0, y1, y2, y3, y4, Mg.val, Mg.zero]) rfl ⟨?_, HB5.out⟩
          rw [HS.out]
          rfl
        · have hk0 : ((k : Int) == 0) = false := beq_eq_false_iff_ne.2 (by omega)
          have hkn : a + k ≤ n := by have := HDl.out; omega
          obtain ⟨a2, ha2⟩ : ∃ a2, a2 = a + k := ⟨_, rfl⟩
          have hwr : IntKind.i64.wrap ((a : Int) + (k : Int)) = (a2 : Int) := by rw [IntWalk.i64_in _ (by omega), ha2]; simp
          have HTn : Hid (TkR l n (xs ++ [y]) a2) := Lib.hid (by rw [ha2]; exact HTk.out.step HMo.out ht (by omega) hkn ⟨y0, y1⟩)
          rw [ht] at HT
          clear ht ha2 k3
          go_wp2_with fail
          refine HT.out.mono ?_
          rintro e w3 ⟨rfl, hw⟩
          rw [← hw]
          clear hw w3
          have HOq : Hid (OwnN w2 w1.heap.size (.slice (some ⟨g, off, none⟩) q cx) xs) := Lib.hid (by rw [HQ.out]; exact HO.out)
          go_wp2_with (at_builtin; refine appN w2 y _ rfl (.tmp 38) (.tmp 40) rfl w1.heap.size _ xs rfl HOq.out w2.heap.size rfl rfl (by have := HQ.out; omega) hs2 ?_; intro v3 w3 hown3 hb3 _; obtain ⟨X3, c3, rfl, _, _⟩ := hown3.reads; have HO3 := Lib.hid hown3; have HB3 := Lib.hid (HB12.out.trans (hb3.mono (Nat.le_refl _))); clear hown3 hb3)
          go_roundw
          case rel => exact ⟨xs ++ [y], a2, X3, c3, by rw [List.length_append]; rfl, rfl, HO3.out, HTn.out, HB3.out⟩
          case measure => simp [lenOf]; have := HQ.out; omega
      case neg =>
        have HMo : Hid (¬ more xs) := Lib.hid (by
          rintro (h7 | ⟨_, h7⟩)
          · have := HQ.out; omega
          · exact h6 (HZ0.out.trans h7))
        have t2 : (z0 == 4) = false := by simpa using h6
        clear h6
        go_wp2
        go_region
        go_wp2_with fail
        have e4 : z4 = 0 := by rw [HZ4.out, List.getD_eq_getElem?_getD, List.getElem?_eq_none (by have := HQ.out; have := HQ4.out; omega)]; rfl
        rw [e4] at HZ HZR
        clear e4
        obtain ⟨pm, hpm⟩ : ∃ pm, pm = w2.heap.size := ⟨_, rfl⟩
        obtain ⟨w3, hw3⟩ : ∃ w3, w3 = (w2.alloc (.cells #[.int .i64 z0, .int .i64 z1, .int .i64 z2, .int .i64 z3, .int .i64 0] 24)).drew := ⟨_, rfl⟩
        have hb3 : Below w2.heap.size w2 w3 := by rw [hw3]; exact below_drewN ((Below.refl _ _).alloc (Nat.le_refl _) _) 1
        have kM : Blk w3 pm 24 #[.int .i64 z0, .int .i64 z1, .int .i64 z2, .int .i64 z3, .int .i64 0] := by rw [hw3, hpm]; exact (Blk.new w2 _ _).drewN 1
        have HB3 := Lib.hid (HB2.out.trans (hb3.mono HB2.out.size))
        have HK3 := Lib.hid (HK2.out.below hb3 HK2.out.lt)
        have HKM := Lib.hid kM
        have HPm : Hid (p < pm) := Lib.hid (by rw [hpm]; exact HK2.out.lt)
        have HI : Hid (Mg.I ⟨z0, z1, z2, z3, 0⟩) := Lib.hid (mg_i HZR.out)
        have HV := Lib.hid (refvalid_any ⟨z0, z1, z2, z3, 0⟩ w3 HI.out)
        obtain ⟨t, ht⟩ : ∃ t, t = decide (Mg.Be ⟨z0, z1, z2, z3, 0⟩) := ⟨_, rfl⟩
        rw [← ht] at HV
        have HTt := Lib.hid ht
        rw [← hw3, ← hpm]
        clear hw3 hpm hb3 kM ht
        refine HV.out.mono ?_
        rintro e w4 ⟨rfl, hb4⟩
        have HB4 := Lib.hid (HB3.out.trans (hb4.mono HB3.out.size))
        have HK4 := Lib.hid (HK3.out.below hb4 HK3.out.lt)
        have kM := HKM.out.below hb4 HKM.out.lt
        have m0 : w4.cell? ⟨pm, 0, none⟩ = some (.int .i64 z0) := kM.cell 0
        have m1 : w4.cell? ⟨pm, 1, none⟩ = some (.int .i64 z1) := kM.cell 1
        have m2 : w4.cell? ⟨pm, 2, none⟩ = some (.int .i64 z2) := kM.cell 2
        have m3 : w4.cell? ⟨pm, 3, none⟩ = some (.int .i64 z3) := kM.cell 3
        have m4 : w4.cell? ⟨pm, 4, none⟩ = some (.int .i64 0) := kM.cell 4
        clear hb4 kM HV HB3 HK3
        cases t
        case false =>
          have HS : Hid (wtake l = (Mg.zero, 0, 31)) := Lib.hid (by
            rw [HTk.out.done HMo.out, HZ.out, if_neg (of_decide_eq_false HTt.out.symm)])
          have k2 := HK4.out
          have x0 : w4.cell? ⟨p, 0, none⟩ = some (.int .i64 0) := k2.cell 0
          have x1 : w4.cell? ⟨p, 1, none⟩ = some (.int .i64 0) := k2.cell 1
          have x2 : w4.cell? ⟨p, 2, none⟩ = some (.int .i64 0) := k2.cell 2
          have x3 : w4.cell? ⟨p, 3, none⟩ = some (.int .i64 0) := k2.cell 3
          have x4 : w4.cell? ⟨p, 4, none⟩ = some (.int .i64 0) := k2.cell 4
          have f0 : w4.frozen? ⟨p, 0, none⟩ = false := k2.frozen 0
          have f1 : w4.frozen? ⟨p, 1, none⟩ = false := k2.frozen 1
          have f2 : w4.frozen? ⟨p, 2, none⟩ = false := k2.frozen 2
          have f3 : w4.frozen? ⟨p, 3, none⟩ = false := k2.frozen 3
          have f4 : w4.frozen? ⟨p, 4, none⟩ = false := k2.frozen 4
          obtain ⟨w5, hw5, k5, hb5⟩ := msg_set k2 (.int .i64 0) (.int .i64 0) (.int .i64 0) (.int .i64 0) (.int .i64 0)
          have HB5 := Lib.hid (hb5 w.heap.size w (by have := HPw.out; omega) HB4.out)
          have HW5 := Lib.hid hw5
          have y0 : w5.cell? ⟨p, 0, none⟩ = some (.int .i64 0) := k5.cell 0
          have y1 : w5.cell? ⟨p, 1, none⟩ = some (.int .i64 0) := k5.cell 1
          have y2 : w5.cell? ⟨p, 2, none⟩ = some (.int .i64 0) := k5.cell 2
          have y3 : w5.cell? ⟨p, 3, none⟩ = some (.int .i64 0) := k5.cell 3
          have y4 : w5.cell? ⟨p, 4, none⟩ = some (.int .i64 0) := k5.cell 4
          clear k2 hw5 k5 hb5
          go_wp2
          rw [← HW5.out]
          refine bodyPost_ret (v := .tuple #[Mg.zero.val, .int .i64 0, .int .i64 31]) (by simp [results, Tryd.f35, go_sem, y0, y1, y2, y3, y4, Mg.val, Mg.zero]) rfl ⟨?_, HB5.out⟩
          rw [HS.out]
          rfl
        case true =>
          have HS : Hid (wtake l = (⟨z0, z1, z2, z3, 0⟩, a, 0)) := Lib.hid (by
            rw [HTk.out.done HMo.out, HZ.out, if_pos (of_decide_eq_true HTt.out.symm)])
          have k2 := HK4.out
          have x0 : w4.cell? ⟨p, 0, none⟩ = some (.int .i64 0) := k2.cell 0
          have x1 : w4.cell? ⟨p, 1, none⟩ = some (.int .i64 0) := k2.cell 1
          have x2 : w4.cell? ⟨p, 2, none⟩ = some (.int .i64 0) := k2.cell 2
          have x3 : w4.cell? ⟨p, 3, none⟩ = some (.int .i64 0) := k2.cell 3
          have x4 : w4.cell? ⟨p, 4, none⟩ = some (.int .i64 0) := k2.cell 4
          have f0 : w4.frozen? ⟨p, 0, none⟩ = false := k2.frozen 0
          have f1 : w4.frozen? ⟨p, 1, none⟩ = false := k2.frozen 1
          have f2 : w4.frozen? ⟨p, 2, none⟩ = false := k2.frozen 2
          have f3 : w4.frozen? ⟨p, 3, none⟩ = false := k2.frozen 3
          have f4 : w4.frozen? ⟨p, 4, none⟩ = false := k2.frozen 4
          obtain ⟨w5, hw5, k5, hb5⟩ := msg_set k2 (.int .i64 z0) (.int .i64 z1) (.int .i64 z2) (.int .i64 z3) (.int .i64 0)
          have HB5 := Lib.hid (hb5 w.heap.size w (by have := HPw.out; omega) HB4.out)
          have HW5 := Lib.hid hw5
          have y0 : w5.cell? ⟨p, 0, none⟩ = some (.int .i64 z0) := k5.cell 0
          have y1 : w5.cell? ⟨p, 1, none⟩ = some (.int .i64 z1) := k5.cell 1
          have y2 : w5.cell? ⟨p, 2, none⟩ = some (.int .i64 z2) := k5.cell 2
          have y3 : w5.cell? ⟨p, 3, none⟩ = some (.int .i64 z3) := k5.cell 3
          have y4 : w5.cell? ⟨p, 4, none⟩ = some (.int .i64 0) := k5.cell 4
          clear k2 hw5 k5 hb5
          go_wp2
          rw [← HW5.out]
          refine bodyPost_ret (v := .tuple #[Mg.val ⟨z0, z1, z2, z3, 0⟩, .int .i64 (a : Int), .int .i64 0]) (by simp [results, Tryd.f35, go_sem, y0, y1, y2, y3, y4, Mg.val]) rfl ⟨?_, HB5.out⟩
          rw [HS.out]
    case neg =>
      have hq55 : Hid (q = 5) := Lib.hid (by omega)
      have hqi : ((q : Int) == 4) = false := by simpa using (show ¬ (q : Int) = 4 by omega)
      have hqj : ((q : Int) == 5) = true := by simpa using (show (q : Int) = 5 by omega)
      have hlx : 5 ≤ q := by omega
      have hc4 := HCs.out 4 (by have := HQ.out; omega)
      rw [← HZ4.out] at hc4
      have HMo : Hid (¬ more xs) := Lib.hid (by
        rintro (h7 | ⟨h7, _⟩)
        · have := HQ.out; have := hq55.out; omega
        · have := HQ.out; have := hq55.out; omega)
      clear h5
      go_wp2
      go_region
      go_wp2_with fail
      obtain ⟨pm, hpm⟩ : ∃ pm, pm = w2.heap.size := ⟨_, rfl⟩
      obtain ⟨w3, hw3⟩ : ∃ w3, w3 = (w2.alloc (.cells #[.int .i64 z0, .int .i64 z1, .int .i64 z2, .int .i64 z3, .int .i64 z4] 24)).drew := ⟨_, rfl⟩
      have hb3 : Below w2.heap.size w2 w3 := by rw [hw3]; exact below_drewN ((Below.refl _ _).alloc (Nat.le_refl _) _) 1
      have kM : Blk w3 pm 24 #[.int .i64 z0, .int .i64 z1, .int .i64 z2, .int .i64 z3, .int .i64 z4] := by rw [hw3, hpm]; exact (Blk.new w2 _ _).drewN 1
      have HB3 := Lib.hid (HB2.out.trans (hb3.mono HB2.out.size))
      have HK3 := Lib.hid (HK2.out.below hb3 HK2.out.lt)
      have HKM := Lib.hid kM
      have HPm : Hid (p < pm) := Lib.hid (by rw [hpm]; exact HK2.out.lt)
      have HI : Hid (Mg.I ⟨z0, z1, z2, z3, z4⟩) := Lib.hid (mg_i HZR.out)
      have HV := Lib.hid (refvalid_any ⟨z0, z1, z2, z3, z4⟩ w3 HI.out)
      obtain ⟨t, ht⟩ : ∃ t, t = decide (Mg.Be ⟨z0, z1, z2, z3, z4⟩) := ⟨_, rfl⟩
      rw [← ht] at HV
      have HTt := Lib.hid ht
      rw [← hw3, ← hpm]
      clear hw3 hpm hb3 kM ht
      refine HV.out.mono ?_
      rintro e w4 ⟨rfl, hb4⟩
      have HB4 := Lib.hid (HB3.out.trans (hb4.mono HB3.out.size))
      have HK4 := Lib.hid (HK3.out.below hb4 HK3.out.lt)
      have kM := HKM.out.below hb4 HKM.out.lt
      have m0 : w4.cell? ⟨pm, 0, none⟩ = some (.int .i64 z0) := kM.cell 0
      have m1 : w4.cell? ⟨pm, 1, none⟩ = some (.int .i64 z1) := kM.cell 1
      have m2 : w4.cell? ⟨pm, 2, none⟩ = some (.int .i64 z2) := kM.cell 2
      have m3 : w4.cell? ⟨pm, 3, none⟩ = some (.int .i64 z3) := kM.cell 3
      have m4 : w4.cell? ⟨pm, 4, none⟩ = some (.int .i64 z4) := kM.cell 4
      clear hb4 kM HV HB3 HK3
      cases t
      case false =>
        have HS : Hid (wtake l = (Mg.zero, 0, 31)) := Lib.hid (by
          rw [HTk.out.done HMo.out, HZ.out, if_neg (of_decide_eq_false HTt.out.symm)])
        have k2 := HK4.out
        have x0 : w4.cell? ⟨p, 0, none⟩ = some (.int .i64 0) := k2.cell 0
        have x1 : w4.cell? ⟨p, 1, none⟩ = some (.int .i64 0) := k2.cell 1
        have x2 : w4.cell? ⟨p, 2, none⟩ = some (.int .i64 0) := k2.cell 2
        have x3 : w4.cell? ⟨p, 3, none⟩ = some (.int .i64 0) := k2.cell 3
        have x4 : w4.cell? ⟨p, 4, none⟩ = some (.int .i64 0) := k2.cell 4
        have f0 : w4.frozen? ⟨p, 0, none⟩ = false := k2.frozen 0
        have f1 : w4.frozen? ⟨p, 1, none⟩ = false := k2.frozen 1
        have f2 : w4.frozen? ⟨p, 2, none⟩ = false := k2.frozen 2
        have f3 : w4.frozen? ⟨p, 3, none⟩ = false := k2.frozen 3
        have f4 : w4.frozen? ⟨p, 4, none⟩ = false := k2.frozen 4
        obtain ⟨w5, hw5, k5, hb5⟩ := msg_set k2 (.int .i64 0) (.int .i64 0) (.int .i64 0) (.int .i64 0) (.int .i64 0)
        have HB5 := Lib.hid (hb5 w.heap.size w (by have := HPw.out; omega) HB4.out)
        have HW5 := Lib.hid hw5
        have y0 : w5.cell? ⟨p, 0, none⟩ = some (.int .i64 0) := k5.cell 0
        have y1 : w5.cell? ⟨p, 1, none⟩ = some (.int .i64 0) := k5.cell 1
        have y2 : w5.cell? ⟨p, 2, none⟩ = some (.int .i64 0) := k5.cell 2
        have y3 : w5.cell? ⟨p, 3, none⟩ = some (.int .i64 0) := k5.cell 3
        have y4 : w5.cell? ⟨p, 4, none⟩ = some (.int .i64 0) := k5.cell 4
        clear k2 hw5 k5 hb5
        go_wp2
        rw [← HW5.out]
        refine bodyPost_ret (v := .tuple #[Mg.zero.val, .int .i64 0, .int .i64 31]) (by simp [results, Tryd.f35, go_sem, y0, y1, y2, y3, y4, Mg.val, Mg.zero]) rfl ⟨?_, HB5.out⟩
        rw [HS.out]
        rfl
      case true =>
        have HS : Hid (wtake l = (⟨z0, z1, z2, z3, z4⟩, a, 0)) := Lib.hid (by
          rw [HTk.out.done HMo.out, HZ.out, if_pos (of_decide_eq_true HTt.out.symm)])
        have k2 := HK4.out
        have x0 : w4.cell? ⟨p, 0, none⟩ = some (.int .i64 0) := k2.cell 0
        have x1 : w4.cell? ⟨p, 1, none⟩ = some (.int .i64 0) := k2.cell 1
        have x2 : w4.cell? ⟨p, 2, none⟩ = some (.int .i64 0) := k2.cell 2
        have x3 : w4.cell? ⟨p, 3, none⟩ = some (.int .i64 0) := k2.cell 3
        have x4 : w4.cell? ⟨p, 4, none⟩ = some (.int .i64 0) := k2.cell 4
        have f0 : w4.frozen? ⟨p, 0, none⟩ = false := k2.frozen 0
        have f1 : w4.frozen? ⟨p, 1, none⟩ = false := k2.frozen 1
        have f2 : w4.frozen? ⟨p, 2, none⟩ = false := k2.frozen 2
        have f3 : w4.frozen? ⟨p, 3, none⟩ = false := k2.frozen 3
        have f4 : w4.frozen? ⟨p, 4, none⟩ = false := k2.frozen 4
        obtain ⟨w5, hw5, k5, hb5⟩ := msg_set k2 (.int .i64 z0) (.int .i64 z1) (.int .i64 z2) (.int .i64 z3) (.int .i64 z4)
        have HB5 := Lib.hid (hb5 w.heap.size w (by have := HPw.out; omega) HB4.out)
        have HW5 := Lib.hid hw5
        have y0 : w5.cell? ⟨p, 0, none⟩ = some (.int .i64 z0) := k5.cell 0
        have y1 : w5.cell? ⟨p, 1, none⟩ = some (.int .i64 z1) := k5.cell 1
        have y2 : w5.cell? ⟨p, 2, none⟩ = some (.int .i64 z2) := k5.cell 2
        have y3 : w5.cell? ⟨p, 3, none⟩ = some (.int .i64 z3) := k5.cell 3
        have y4 : w5.cell? ⟨p, 4, none⟩ = some (.int .i64 z4) := k5.cell 4
        clear k2 hw5 k5 hb5
        go_wp2
        rw [← HW5.out]
        refine bodyPost_ret (v := .tuple #[Mg.val ⟨z0, z1, z2, z3, z4⟩, .int .i64 (a : Int), .int .i64 0]) (by simp [results, Tryd.f35, go_sem, y0, y1, y2, y3, y4, Mg.val]) rfl ⟨?_, HB5.out⟩
        rw [HS.out]
end Go.Proofs.YtmegpbejknmjbaaDoor.Pk
