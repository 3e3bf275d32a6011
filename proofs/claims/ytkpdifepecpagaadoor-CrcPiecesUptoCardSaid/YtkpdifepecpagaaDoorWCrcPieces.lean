/- The walk of the law CrcPieces: however bytes are cut, the sum is the same. -/
import Derived.Test.YtkpdifepecpagaaDoorCrcParts
import Derived.Test.YtkpdifepecpagaaDoorBytes
import Derived.Test.YtkpdifepecpagaaDoorArgs
namespace Go.Proofs.YtkpdifepecpagaaDoor.Pk
open Go.RowKit Go.Proofs.YtkpdifepecpagaaDoor.Ar Go.Proofs.YtkpdifepecpagaaDoor.Crc
set_option linter.unusedVariables false

/-- Where a slice of a slice begins. -/
def cutA (a : Option Addr) (c k : Nat) : Option Addr := if c = k then a else a.map (·.add k)
theorem run_cut2 {P : Program} {t e : TypeId} (ht : P.underlying t = some (.slice e)) (hi : (P.info? e).map (·.size) = some 1) (a : Option Addr) (n c i j : Nat) (h1 : i ≤ j) (h2 : j ≤ c) (w : World) :
    (Instr.slice t (.slice a n c) (some (.int .i64 (i : Int))) (some (.int .i64 (j : Int))) none).run P w = .ok (.slice (cutA a c i) (j - i) (c - i)) w := by
  obtain ⟨f, hi1, hi2⟩ := Option.map_eq_some_iff.1 hi
  have e1 : (0 : Int) ≤ (i : Int) := by omega
  have e2 : (i : Int) ≤ (j : Int) := by omega
  have e3 : (0 : Int) ≤ (j : Int) := by omega
  have e4 : (j : Int) ≤ (c : Int) := by omega
  simp [Instr.slice, run_underlying ht, go_sem, Instr.sliceBounds, sizeOf, typeInfo, hi1, hi2, cutA, h1, h2]
theorem run_cut1 {P : Program} {t e : TypeId} (ht : P.underlying t = some (.slice e)) (hi : (P.info? e).map (·.size) = some 1) (a : Option Addr) (n c i : Nat) (h1 : i ≤ n) (w : World) :
    (Instr.slice t (.slice a n c) (some (.int .i64 (i : Int))) none none).run P w = .ok (.slice (cutA a c i) (n - i) (c - i)) w := by
  obtain ⟨f, hi1, hi2⟩ := Option.map_eq_some_iff.1 hi
  simp [Instr.slice, run_underlying ht, go_sem, Instr.sliceBounds, sizeOf, typeInfo, hi1, hi2, cutA, h1]
theorem reads_cut {w : World} {B n c i j : Nat} {a : Option Addr} {l : List Int} (h : Reads w B 1 a n (bts l)) (h1 : i ≤ j) (h2 : j ≤ n) (h3 : n ≤ c) : Reads w B 1 (cutA a c i) (j - i) (bts ((l.take j).drop i)) := by
  have := (h.take h2).cut (k := i) (cap := c) h1 (by omega)
  unfold bts at this ⊢
  rw [Nat.mul_one, ← List.map_drop] at this
  exact this

theorem sl_info : (Tryd.prog.info? 23).map (fun i => (i.zero, i.size, i.bytes)) = some (some (.slice none 0 0), 1, 24) := by kernel_rfl
/-- The value owns the pieces. -/
def OwnP (w : World) (B : Nat) (v : Value) (ps : List Piece) : Prop := w.ownsRow B 23 1 v ps.length (ps.map Piece.val)
theorem OwnP.none_ (w : World) (B : Nat) : OwnP w B (.slice none 0 0) [] := ⟨rfl, .inl ⟨rfl, rfl⟩⟩
theorem pieces_one (ps : List Piece) : ∀ u ∈ ps.map Piece.val, u.oneCell' = true := by
  intro u hu
  obtain ⟨x, _, rfl⟩ := List.mem_map.1 hu
  rfl
/-- One piece more, out of a new box. -/
theorem appP {ops : Array Oper} {rest : List Oper} {o : Oper} {a : Act} {Q : Exit → Act → World → Prop} (w : World) (y : Piece) (T : TypeId) (hgd : o.guard = none) (s x : Operand)
    (ho : o.op = .call { callee := .builtin .append, args := #[s, x], argTypes := #[28, 28] }) (B : Nat) (v : Value) (ps : List Piece) (hs : a.eval s = v) (hown : OwnP w B v ps)
    (hx : a.eval x = .slice (some ⟨w.heap.size, 0, none⟩) 1 1) (hlen : (ps.length + 1) * 24 ≤ 140737488355328) (hB : B ≤ w.heap.size)
    (h : ∀ v' w', OwnP w' B v' (ps ++ [y]) → Below B w w' → wpList Tryd.prog ops Q rest (a.put o.dst v') w') : wpList Tryd.prog ops Q (o :: rest) a (w.alloc (.cells #[.slice y.a y.n y.c] T)) := by
  obtain ⟨i0, hi0, hz0, hz1, hz2⟩ := info_parts sl_info
  refine wpList_append_own _ hgd s x _ ho B 23 i0 _ 1 24 Tryd.underlying28 hi0 hz0 hz1 hz2 rfl (by omega) v ps.length (ps.map Piece.val) hs (World.ownsRow.alloc hown _) ⟨w.heap.size, 0, none⟩ 1 1 ([y].map Piece.val) hx rfl ?_ (pieces_one [y])
    (by unfold maxLen; omega) (by omega) (by simp; omega) ?_
  · intro j u hj
    match j, hj with
    | 0, hj => simp [Piece.val] at hj; subst hj; simp [Addr.add]
    | j + 1, hj => simp at hj
  · intro v' w' ho hg _
    refine h v' w' ?_ (((Below.refl _ _).alloc hB _).grown hg (by simp; omega) (own_base hown))
    unfold OwnP
    rw [List.map_append, List.length_append]; exact ho

set_option maxRecDepth 100000 in
set_option maxHeartbeats 4000000 in
theorem law_CrcPieces (a : Option Addr) (n c : Nat) (l : List Int) (b : Option Addr) (m d : Nat) (xs : List Int) (w : World) (ht : Tab w) (h : ArgB w a n c l) (hx : ArgN w b m d xs) (hu : n + m ≤ 1048576) :
    Calls Tryd.prog 5 #[.slice a n c, .slice b m d] w fun e w' => e = .returned (.bool true) ∧ Below w.heap.size w w' := by
  obtain ⟨hr, hnc, hc, hB⟩ := h
  obtain ⟨hrx, hmd, hd, hX⟩ := hx
  have HB : Hid (Bytes l) := hB
  have HL : Hid (l.length = n) := by have := hr.1; simp at this; exact this
  have HM : Hid (xs.length = m) := by have := hrx.1; simp at this; exact this
  have HA := Lib.hid hr
  have HX := Lib.hid hrx
  have HT := Lib.hid ht
  clear hB hr hrx ht hX hd
  go_enter Tryd.func5, Tryd.ntmps5
  go_wp2_with fail
  refine (wakes_any w HT.out).mono ?_
  rintro e w1 ⟨rfl, hb1⟩
  have HA1 := Lib.hid ((HA.out.below hb1).more hb1.size)
  have HX1 := Lib.hid ((HX.out.below hb1).more hb1.size)
  have HT1 := Lib.hid (HT.out.next hb1)
  have s1 := hb1.size
  clear HA HX HT
  go_wp2
  go_loopw [5, 6, 7, 9, 14] (fun v at_ s x j wr => ∃ (k i : Nat) (ps : List Piece), j = .int .i64 k ∧ k ≤ m ∧ at_ = .int .i64 i ∧ i ≤ n ∧ s = .int .u32 ((crc 0 (l.take i) : Nat) : Int) ∧ OwnP wr w1.heap.size v ps ∧ ps.length ≤ k ∧ (Piece.bytes ps).flatten = l.take i ∧ (∀ p ∈ ps, p.Ok w1 w1.heap.size) ∧ Below w1.heap.size w1 wr) (fun _ _ _ _ j _ => m - (intOf j).toNat)
  case atStart => exact ⟨0, 0, [], rfl, by omega, rfl, by omega, by rw [List.take_zero, crc_nil]; rfl, OwnP.none_ _ _, Nat.le_refl _, by rw [List.take_zero]; rfl, (fun p hp => by simp at hp), Below.refl _ _⟩
  case round =>
    obtain ⟨k, i, ps, rfl, hk, rfl, hi, rfl, hO, hpl, hfl, hok, hb2⟩ := hrel
    obtain ⟨w2, rfl⟩ : ∃ w2 : World, w2 = wr := ⟨_, rfl⟩
    have s2 := hb2.size
    have HF := Lib.hid hfl
    have HK := Lib.hid hok
    have HO := Lib.hid hO
    have HB2 := Lib.hid hb2
    have hsum : crc 0 (l.take i) < 4294967296 := crc_lt (HB.out.take i) (by omega)
    obtain ⟨S, hS⟩ : ∃ S, S = crc 0 (l.take i) := ⟨_, rfl⟩
    rw [← hS] at hsum ⊢
    have HS := Lib.hid hS
    clear hfl hok hO hb2 hS
    have HA2 := Lib.hid (HA1.out.below HB2.out)
    have HX2 := Lib.hid (HX1.out.below HB2.out)
    have HT2 := Lib.hid (HT1.out.next HB2.out)
    by_cases hlt : k < m
    · obtain ⟨bx, ox, rfl, _, hcx⟩ := HX2.out.i64 (by omega)
      have hxk := hcx k hlt
      clear hcx
      obtain ⟨x, hxx⟩ : ∃ x, x = xs.getD k 0 := ⟨_, rfl⟩
      rw [← hxx] at hxk
      clear hxx
      by_cases h1 : x < (i : Int)
      · have h1' : decide (x < (i : Int)) = true := by simpa using h1
        go_wp2
        go_roundw
        case rel => exact ⟨k + 1, i, ps, by go_num, by omega, rfl, hi, by rw [HS.out], HO.out, by omega, HF.out, HK.out, HB2.out⟩
        case measure => simp [intOf]; omega
      · by_cases h2 : (n : Int) < x
        · have h1' : decide (x < (i : Int)) = false := by simpa using h1
          go_wp2
          go_roundw
          case rel => exact ⟨k + 1, i, ps, by go_num, by omega, rfl, hi, by rw [HS.out], HO.out, by omega, HF.out, HK.out, HB2.out⟩
          case measure => simp [intOf]; omega
        · obtain ⟨q, rfl⟩ := Int.eq_ofNat_of_zero_le (show 0 ≤ x by omega)
          have hiq : i ≤ q := by omega
          have hqn : q ≤ n := by omega
          have h1' : decide ((q : Int) < (i : Int)) = false := by simpa using h1
          have h2' : decide ((n : Int) < (q : Int)) = false := by simpa using h2
          have kc : ∀ u : World, (Instr.slice 23 (.slice a n c) (some (.int .i64 (i : Int))) (some (.int .i64 (q : Int))) none).run Tryd.prog u = .ok (.slice (cutA a c i) (q - i) (c - i)) u := fun u => run_cut2 Tryd.underlying23 (by kernel_rfl) a n c i q hiq (by omega) u
          have pok : Piece.Ok w1 w1.heap.size ⟨cutA a c i, q - i, c - i, (l.take q).drop i⟩ := ⟨reads_cut HA1.out hiq hqn hnc, by show q - i ≤ c - i; omega, by show q - i ≤ _; omega, (HB.out.take q).drop i⟩
          have HP := Lib.hid pok
          have hnext : l.take i ++ (l.take q).drop i = l.take q := by
            have e : (l.take q).take i = l.take i := by rw [List.take_take]; congr 1; omega
            rw [← e]; exact List.take_append_drop i (l.take q)
          have HN := Lib.hid hnext
          clear h1 h2 pok hnext
          go_wp2_with (first
            | (at_builtin; refine appP w2 ⟨cutA a c i, q - i, c - i, (l.take q).drop i⟩ _ rfl (.tmp 27) (.tmp 32) rfl w1.heap.size _ ps rfl HO.out rfl (by omega) s2 ?_; intro v3 w3 hown3 hb3; have HO3 := Lib.hid hown3; have HB3 := Lib.hid (HB2.out.trans hb3); clear hown3 hb3)
            | (go_at_call 11; refine (add_any (cutA a c i) (q - i) (c - i) S ((l.take q).drop i) w3 _ (HP.out.1.below HB3.out) (by omega) HP.out.2.2.2 hsum (HT1.out.next HB3.out)).mono ?_; rintro e w4 ⟨rfl, rfl⟩))
          go_roundw
          case rel =>
            refine ⟨k + 1, q, ps ++ [⟨cutA a c i, q - i, c - i, (l.take q).drop i⟩], by go_num, by omega, rfl, hqn, ?_, HO3.out, by simp; omega, ?_, ?_, HB3.out⟩
            · rw [HS.out, crc_append, HN.out]
            · have e : (Piece.bytes (ps ++ [⟨cutA a c i, q - i, c - i, (l.take q).drop i⟩])).flatten = (Piece.bytes ps).flatten ++ (l.take q).drop i := by simp [Piece.bytes]
              rw [e, HF.out, HN.out]
            · intro p hp
              rcases List.mem_append.1 hp with hp | hp
              · exact HK.out p hp
              · simp at hp; subst hp; exact HP.out
          case measure => simp [intOf]; omega
    · have kc : ∀ u : World, (Instr.slice 23 (.slice a n c) (some (.int .i64 (i : Int))) none none).run Tryd.prog u = .ok (.slice (cutA a c i) (n - i) (c - i)) u := fun u => run_cut1 Tryd.underlying23 (by kernel_rfl) a n c i hi u
      have pok : Piece.Ok w1 w1.heap.size ⟨cutA a c i, n - i, c - i, l.drop i⟩ := by
        refine ⟨?_, by show n - i ≤ c - i; omega, by show n - i ≤ _; omega, HB.out.drop i⟩
        have := reads_cut HA1.out hi (Nat.le_refl n) hnc
        rwa [List.take_of_length_le (by rw [HL.out]; exact Nat.le_refl _)] at this
      have HP := Lib.hid pok
      have hall : crc S (l.drop i) = crc 0 l := by rw [HS.out, crc_append, List.take_append_drop]
      obtain ⟨R, hR⟩ : ∃ R, R = crc 0 l := ⟨_, rfl⟩
      have HR := Lib.hid hR
      have HAll : Hid (crc S (l.drop i) = R) := by rw [hR]; exact Lib.hid hall
      have hparts : sums 0 (Piece.bytes (ps ++ [⟨cutA a c i, n - i, c - i, l.drop i⟩])) = R := by
        have e : (Piece.bytes (ps ++ [⟨cutA a c i, n - i, c - i, l.drop i⟩])).flatten = (Piece.bytes ps).flatten ++ l.drop i := by simp [Piece.bytes]
        rw [sums_flat, e, HF.out, List.take_append_drop, hR]
      have HPa := Lib.hid hparts
      clear pok hall hR hparts
      go_wp2_with (at_builtin; refine appP w2 ⟨cutA a c i, n - i, c - i, l.drop i⟩ _ rfl (.tmp 42) (.tmp 46) rfl w1.heap.size _ ps rfl HO.out rfl (by omega) s2 ?_; intro v3 w3 hown3 hb3; obtain ⟨A3, c3, rfl, hc3, hr3⟩ := reads_own hown3; have HO3 := Lib.hid hown3; have HB3 := Lib.hid (HB2.out.trans hb3); have HR3 := Lib.hid hr3; clear hown3 hb3 hr3)
      refine (add_any (cutA a c i) (n - i) (c - i) S (l.drop i) w3 _ (HP.out.1.below HB3.out) (by omega) HP.out.2.2.2 hsum (HT1.out.next HB3.out)).mono ?_
      rw [HAll.out]
      rintro e w4 ⟨rfl, rfl⟩
      go_wp2_with fail
      refine (sum_any a n c l w3 _ (HA1.out.below HB3.out) (by omega) HB.out (HT1.out.next HB3.out)).mono ?_
      rw [← HR.out]
      rintro e w4 ⟨rfl, rfl⟩
      go_wp2_with fail
      have hls : Lists w3 w3.heap.size A3 (ps.length + 1) (ps ++ [(⟨cutA a c i, n - i, c - i, l.drop i⟩ : Piece)]) := by
        refine ⟨by have := HR3.out; rwa [List.length_append, List.length_singleton] at this, fun p hp => ?_⟩
        have hp1 : p.Ok w1 w1.heap.size := by
          rcases List.mem_append.1 hp with hp | hp
          · exact HK.out p hp
          · simp at hp; subst hp; exact HP.out
        exact ⟨(hp1.1.below HB3.out).more HB3.out.size, hp1.2⟩
      have hlen : ps.length + 1 ≤ 9223372036854775807 := by omega
      have hpa := parts_any A3 _ c3 _ w3 _ hls hlen (HT1.out.next HB3.out)
      rw [HPa.out] at hpa
      ((with_reducible refine hpa.mono ?_))
      clear hpa hls hlen
      rintro e w4 ⟨rfl, rfl⟩
      go_wp2_with fail
      refine (sum_any a n c l w3 _ (HA1.out.below HB3.out) (by omega) HB.out (HT1.out.next HB3.out)).mono ?_
      rw [← HR.out]
      rintro e w4 ⟨rfl, rfl⟩
      go_wp2
      go_ret
      exact ⟨rfl, hb1.trans (HB3.out.mono s1)⟩
end Go.Proofs.YtkpdifepecpagaaDoor.Pk
