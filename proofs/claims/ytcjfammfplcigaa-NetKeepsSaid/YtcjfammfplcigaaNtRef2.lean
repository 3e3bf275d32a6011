/- The document's net: Take and Double. -/
import Derived.Test.YtcjfammfplcigaaNtRef
namespace Go.Proofs.Ytcjfammfplcigaa.Pk
open Go.RowKit Go.Proofs.Ytcjfammfplcigaa.Nt
set_option linter.unusedVariables false
/-- A datagram less: the list is another one. -/
theorem RN.pick {w w11 : World} {M : Nat} {v v11 : Value} {ps qs : List Piece} (h1 : Blk w M 30 #[v]) (h2 : OwnP w 0 v ps) (h3 : ∀ p ∈ ps, OwnB w 0 p.val p.l)
    (hb : Below w.heap.size w w11) (h11 : OwnP w11 0 v11 qs) (hq : ∀ p ∈ qs, p ∈ ps) (hat : ∀ g, v11.ownBlock = some g → w.heap.size ≤ g) :
    ∃ S', RN (w11.setCell ⟨M, 0, none⟩ v11) M (Piece.bytes qs) S' ∧ Turned (fun b => b = M ∨ v.ownBlock = some b ∨ ∃ p ∈ ps, p.val.ownBlock = some b) w (w11.setCell ⟨M, 0, none⟩ v11) ∧ From (fun b => b = M ∨ v.ownBlock = some b ∨ ∃ p ∈ ps, p.val.ownBlock = some b) S' w ∧ ∀ b, S' b → b = M ∨ v11.ownBlock = some b ∨ ∃ p ∈ ps, p.val.ownBlock = some b := by
  have h1g : Blk w11 M 30 #[v] := h1.below hb h1.lt
  have hnM : ∀ g, g ≠ M → (w11.setCell ⟨M, 0, none⟩ v11).heap[g]? = w11.heap[g]? := fun g hg => Below.heap_setCell w11 ⟨M, 0, none⟩ _ g (by simpa using hg)
  have hv11 : ∀ g, v11.ownBlock = some g → g ≠ M := fun g hg e => by have := hat g hg; have := h1.lt; omega
  have hp11 : ∀ p ∈ ps, OwnB w11 0 p.val p.l := fun p hp => (h3 p hp).stay (fun g hgp => hb.block g ((h3 p hp).lt g hgp))
  have hpM : ∀ p ∈ ps, ∀ g, p.val.ownBlock = some g → g ≠ M := fun p hp g hgp e => own_blk_ne (hp11 p hp) h1g (by decide) (by rw [← e]; exact hgp)
  refine ⟨_, ⟨v11, qs, h1g.set_ 0 v11, h11.stay (fun g hg => hnM g (hv11 g hg)), fun p hp => (hp11 p (hq p hp)).stay (fun g hgp => hnM g (hpM p (hq p hp) g hgp)), rfl, rfl⟩, ?_, ?_, ?_⟩
  · refine ⟨hb.os, hb.tape, hb.output, ?_, fun i hi hn => ?_⟩
    · have := hb.size; simp [World.setCell]; omega
    · have hiM : i ≠ M := fun e => hn (.inl e)
      rw [hnM i hiM, hb.block i hi]
  · rintro b (rfl | hbv | ⟨p, hp, hbp⟩)
    · exact .inl (.inl rfl)
    · exact .inr (hat b hbv)
    · exact .inl (.inr (.inr ⟨p, hq p hp, hbp⟩))
  · rintro b (rfl | hbv | ⟨p, hp, hbp⟩)
    · exact .inl rfl
    · exact .inr (.inl hbv)
    · exact .inr (.inr ⟨p, hq p hp, hbp⟩)
set_option maxRecDepth 100000 in
set_option maxHeartbeats 4000000 in
theorem reftake_n (M : Nat) (l : Li) (S : Nat → Prop) (i : Int) (w : World) (h : RN w M l S) (hl : l.length ≤ 512) (hi : -9223372036854775808 ≤ i ∧ i ≤ 9223372036854775807) (hs : Short 140737488355328 l) :
    Calls Try.prog 15 #[.pointer (some ⟨M, 0, none⟩), .int .i64 i] w fun e w' => ∃ v, e = .returned (.tuple #[v, .bool (inN l i)]) ∧ OwnB w' w.heap.size v (atN l i) ∧ ∃ S', RN w' M (takeN l i) S' ∧ Turned S w w' ∧ From S S' w ∧ ∀ g, v.ownBlock = some g → ¬ S' g := by
  have HA := Lib.hid (refat_any M l S i w h hl hi hs)
  have H := Lib.hid h
  by_cases hin : inN l i = true
  case neg =>
    have hin' : inN l i = false := by simpa using hin
    have e0 : takeN l i = l := by unfold takeN; rw [if_neg hin]
    rw [hin'] at HA ⊢
    rw [e0]
    clear hin hin' e0 hs hi h
    go_enter Try.func15, Try.ntmps15
    go_wp2_with fail
    refine HA.out.mono ?_
    rintro e w2 ⟨v2, rfl, ho, hb⟩
    have HO := Lib.hid ho
    have HB := Lib.hid hb
    clear ho hb
    go_wp2
    go_ret2
    exact ⟨v2, rfl, HO.out, S, H.out.next HB.out, Turned.of HB.out (Nat.le_refl _) S, From.refl S w, fun g hg hS => by have := own_base HO.out g hg; have := H.out.lt g hS; omega⟩
  case pos =>
    rw [hin] at HA ⊢
    obtain ⟨j, rfl, hj⟩ := inN_iff.1 hin
    have e0 : takeN l (j : Int) = l.eraseIdx j := by unfold takeN; rw [if_pos hin, Int.toNat_natCast]
    rw [e0]
    obtain ⟨v, ps, h1, h2, h3, h4, hS⟩ := h
    have hps : ps.length = l.length := by rw [← h4]; simp [Piece.bytes]
    have e1 : l.eraseIdx j = Piece.bytes (ps.take j ++ ps.drop (j + 1)) := by rw [← h4]; unfold Piece.bytes; rw [List.eraseIdx_eq_take_drop_succ, List.map_append, List.map_take, List.map_drop]
    rw [e1]
    obtain ⟨Au, cu, rfl, hcu, hru⟩ := h2.reads
    rw [hps] at hcu hru h1 h2 hS
    have x0 : w.cell? ⟨M, 0, none⟩ = some (.slice Au l.length cu) := h1.cell 0
    have H1 := Lib.hid h1
    have H2 := Lib.hid h2
    have H3 := Lib.hid h3
    have HS := Lib.hid hS
    have HPs := Lib.hid hps
    have HRu := Lib.hid hru
    obtain ⟨k, hk⟩ : ∃ k, k = l.length := ⟨_, rfl⟩
    rw [← hk] at x0 hj hl hcu H1 H2 HS HPs HRu
    have hMl : M < w.heap.size := H1.out.lt
    have e2 : ∀ V : World, (Instr.slice 28 (.slice Au k cu) none (some (.int .i64 (j : Int))) none).run Try.prog V = .ok (.slice Au j cu) V := fun V => run_head Try.underlying28 (by kernel_rfl) Au k cu j (by omega) V
    obtain ⟨j1, hj1⟩ : ∃ j1, j1 = j + 1 := ⟨_, rfl⟩
    have hj1k : j1 ≤ k := by omega
    have e3 : ∀ V : World, (Instr.slice 28 (.slice Au k cu) (some (.int .i64 (j1 : Int))) none none).run Try.prog V = .ok (.slice (cutA Au cu j1) (k - j1) (cu - j1)) V := fun V => run_cut1 Try.underlying28 (by kernel_rfl) Au k cu j1 hj1k V
    have hwr : IntKind.i64.wrap ((j : Int) + 1) = (j1 : Int) := by rw [IntWalk.i64_in _ (by omega), hj1]; simp
    have HJ1 := Lib.hid hj1
    clear h1 h2 h3 h4 hS hps hru hin e0 e1 hs hi hk hj1
    go_enter Try.func15, Try.ntmps15
    go_wp2_with fail
    refine HA.out.mono ?_
    rintro e w2 ⟨v2, rfl, ho, hb⟩
    have HO := Lib.hid ho
    have HB := Lib.hid hb
    have hMl2 : M < w2.heap.size := Nat.lt_of_lt_of_le hMl hb.size
    have x2 : w2.cell? ⟨M, 0, none⟩ = some (.slice Au k cu) := (hb.cell (p := ⟨M, 0, none⟩) hMl).trans x0
    have f2 : w2.frozen? ⟨M, 0, none⟩ = false := (H1.out.below hb hMl).frozen 0
    clear ho hb x0 HA
    have HR2 : Hid (Reads w2 w2.heap.size 1 Au k (ps.map Piece.val)) := Lib.hid ((HRu.out.below HB.out).more HB.out.size)
    have hlt : j < k := hj
    have z2 : (w2.alloc (Obj.cells #[] 31)).cell? ⟨M, 0, none⟩ = some (.slice Au k cu) := (World.cell?_alloc_lt w2 _ ⟨M, 0, none⟩ hMl2).trans x2
    have HK2 : Hid (Blk w2 M 30 #[.slice Au k cu]) := Lib.hid (H1.out.below HB.out hMl)
    go_wp2_with fail
    go_region_law (first
      | (refine stepP _ rfl (.tmp 16) (.tmp 22) rfl w2.heap.size (.slice (some ⟨w2.heap.size, 0, none⟩) 0 0) [] rfl (OwnP.fresh _ _ (Nat.le_refl _)) w2.heap.size Au cu (ps.take j) j rfl (by rw [List.map_take]; exact (reads_takeV HR2.out (by omega)).alloc (Nat.le_refl _) _) (by simp; omega) (by simp) ?_; intro A10 n10 c10 w10 hown10 hg10 hat10; have hb10 : Below w2.heap.size w2 w10 := (below_drew_alloc w2 _).grown hg10 (by simp) (fun g hg => by simp [Value.ownBlock] at hg; omega); have y0 : w10.cell? ⟨M, 0, none⟩ = some (.slice Au k cu) := (hb10.cell (p := ⟨M, 0, none⟩) hMl2).trans x2; have g0 : w10.frozen? ⟨M, 0, none⟩ = false := (HK2.out.below hb10 hMl2).frozen 0; have HW10 := Lib.hid hown10; have HB10 := Lib.hid hb10; clear hown10 hg10 hat10 hb10)
      | (refine stepP w10 rfl (.tmp 23) (.tmp 30) rfl w2.heap.size (.slice A10 n10 c10) (ps.take j) rfl HW10.out w2.heap.size (cutA Au cu j1) (cu - j1) (ps.drop (j + 1)) (k - j1) rfl (by rw [← HJ1.out, List.map_drop]; exact (reads_dropV HR2.out (by omega) hcu).below HB10.out) (by simp; omega) HB10.out.size ?_; intro A11 n11 c11 w11 hown11 hg11 hat11; have hb11 := HB10.out.grown hg11 HB10.out.size (own_base HW10.out); have y0 : w11.cell? ⟨M, 0, none⟩ = some (.slice Au k cu) := (hb11.cell (p := ⟨M, 0, none⟩) hMl2).trans x2; have g0 : w11.frozen? ⟨M, 0, none⟩ = false := (HK2.out.below hb11 hMl2).frozen 0; have HB11 := Lib.hid hb11; have HW11 := Lib.hid hown11; clear hown11 hg11 hat11 hb11))
    all_goals
      have HPk := Lib.hid (RN.pick H1.out H2.out H3.out (HB.out.trans (HB11.out.mono HB.out.size)) (HW11.out.mono (Nat.zero_le _)) (fun p hp => by rcases List.mem_append.1 hp with hp | hp; exact List.mem_of_mem_take hp; exact List.mem_of_mem_drop hp) (fun g hg => Nat.le_trans HB.out.size (own_base HW11.out g hg)))
      go_wp2
      go_ret2
      obtain ⟨S', r1, r2, r3, r4⟩ := HPk.out
      refine ⟨v2, rfl, ?_, S', r1, by rw [HS.out]; exact r2, by rw [HS.out]; exact r3, fun g hg hS' => ?_⟩
      · refine (HO.out.keep HB11.out (Nat.le_refl _)).stay (fun g hg => Below.heap_setCell w11 ⟨M, 0, none⟩ _ g (fun e => ?_))
        have := own_base HO.out g hg
        simp at e
        omega
      · rcases r4 g hS' with h5 | h5 | ⟨p, hp, h5⟩
        · have := own_base HO.out g hg; omega
        · have h6 := own_base HW11.out g h5
          have h7 := HO.out.lt g hg
          omega
        · have := own_base HO.out g hg
          have := (H3.out p hp).lt g h5
          omega
set_option maxRecDepth 100000 in
set_option maxHeartbeats 4000000 in
theorem refdouble_any (M : Nat) (l : Li) (S : Nat → Prop) (i : Int) (w : World) (h : RN w M l S) (hl : l.length ≤ 512) (hi : -9223372036854775808 ≤ i ∧ i ≤ 9223372036854775807) (hs : Short 140737488355328 l) :
    Calls Try.prog 18 #[.pointer (some ⟨M, 0, none⟩), .int .i64 i] w fun e w' => e = .returned (.bool (dblB l i)) ∧ ∃ S', RN w' M (dblN l i) S' ∧ Turned S w w' ∧ From S S' w := by
  have HA := Lib.hid (refat_any M l S i w h hl hi hs)
  have H := Lib.hid h
  have hlat := atN_len hs i
  have HSd := Lib.hid (fun A n c x u hu hr hn => refsend_any M l S A n c x u hu hl hr hn)
  obtain ⟨r, hr⟩ : ∃ r, r = inN l i := ⟨_, rfl⟩
  obtain ⟨x, hx⟩ : ∃ x, x = atN l i := ⟨_, rfl⟩
  have HD : Hid (dblN l i = if r then sendN l x else l) := Lib.hid (by unfold dblN; rw [hr, hx])
  have HDb : Hid (dblB l i = (r && decide (l.length < 512))) := Lib.hid (by unfold dblB; rw [hr])
  rw [← hr, ← hx] at HA
  rw [← hx] at hlat
  clear hr hx h hs hi
  go_enter Try.func18, Try.ntmps18
  go_wp2_with fail
  refine HA.out.mono ?_
  rintro e w2 ⟨v2, rfl, ho, hb⟩
  obtain ⟨A2, n2, c2, rfl⟩ := own_slice ho
  have HO := Lib.hid ho
  have HB := Lib.hid hb
  clear ho hb
  cases r
  case false =>
    go_wp2
    go_ret
    rw [HD.out, HDb.out]
    exact ⟨rfl, S, H.out.next HB.out, Turned.of HB.out (Nat.le_refl _) S, From.refl S w⟩
  case true =>
    have HSn := Lib.hid (HSd.out A2 n2 c2 x w2 (H.out.next HB.out) (own_reads HO.out) (by have := (own_len HO.out).1; omega))
    go_wp2_with fail
    refine HSn.out.mono ?_
    rintro e w3 ⟨rfl, S', r1, r2, r3⟩
    have R1 := Lib.hid r1
    have R2 := Lib.hid ((Turned.of HB.out (Nat.le_refl _) S).trans r2 (fun b _ h => h))
    have R3 := Lib.hid (From.trans (From.refl S w) r3 HB.out.size)
    clear r1 r2 r3
    go_wp2
    go_ret
    rw [HD.out, HDb.out]
    exact ⟨rfl, S', R1.out, R2.out, R3.out⟩
end Go.Proofs.Ytcjfammfplcigaa.Pk
