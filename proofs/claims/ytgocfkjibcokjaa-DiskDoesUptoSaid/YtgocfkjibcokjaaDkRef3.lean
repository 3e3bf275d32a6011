/- The document's disk: Off. -/
import Derived.Test.YtgocfkjibcokjaaDkRef2
namespace Go.Proofs.Ytgocfkjibcokjaa.Pk
open Go.RowKit Go.Proofs.Ytgocfkjibcokjaa.Dk Go.Proofs.Ytgocfkjibcokjaa.Ar
set_option linter.unusedVariables false

theorem RefS.drew {w : World} {v : Value} {l : List Int} (h : RefS w v l) : RefS w.drew v l := h.stay (Nat.le_refl _) fun _ _ _ => rfl
theorem grown_from {w w1 w2 : World} {r : Option Nat} (h : Below w.heap.size w w1) (k : w1.grownBy w2 r) : w.grownBy w2 r :=
  ⟨k.os.trans h.os, k.tape.trans h.tape, k.output.trans h.output, Nat.le_trans h.size k.size, fun g hg hr => (k.block g (Nat.lt_of_lt_of_le hg h.size) hr).trans (h.block g hg)⟩
theorem below_drew_alloc (w : World) (o : Obj) : Below w.heap.size w (w.drew.alloc o) := (⟨rfl, rfl, rfl, Nat.le_refl _, fun _ _ => rfl⟩ : Below w.heap.size w w.drew).alloc (Nat.le_refl _) o
/-- Where the loop over the files stands. -/
def midD (sa wa sb wb : List Int) (kn cnt left : Nat) (keep : Int) (F : Nat) : DK :=
  ⟨if F = 0 then ⟨sa, wa⟩ else ⟨sa ++ wa.take kn, []⟩, if F = 0 ∨ F = 1 then ⟨sb, wb⟩ else ⟨sb ++ wb.take kn, []⟩, true, cnt, left, keep⟩
theorem four {p : Nat → Prop} (h0 : p 0) (h1 : p 1) (h2 : p 2) (h3 : p 3) : ∀ j, j < 4 → p j := fun j hj => by
  have : j = 0 ∨ j = 1 ∨ j = 2 ∨ j = 3 := by omega
  rcases this with rfl | rfl | rfl | rfl
  · exact h0
  · exact h1
  · exact h2
  · exact h3
theorem take_more {l : List Int} {i : Nat} (h : i < l.length) : l.take i ++ [l.getD i 0] = l.take (i + 1) := by
  rw [List.getD_eq_getElem?_getD, List.getElem?_eq_getElem h, List.take_add_one, List.getElem?_eq_getElem h]
  rfl
set_option maxHeartbeats 3200000 in
theorem off_ref (R : Nat) (k : Int) (d : DK) (S : Nat → Prop) (w : World) (h : DkR w R d S) (hl0 : d.f0.all.length ≤ 140737488355328) (hl1 : d.f1.all.length ≤ 140737488355328) :
    Calls Try.prog 53 #[.pointer (some ⟨R, 0, none⟩), .int .i64 k] w (AftR R (d.offs k) S w (.tuple #[])) := by
  have HS : Hid (S R) := Lib.hid h.self
  obtain ⟨⟨sa, wa⟩, ⟨sb, wb⟩, on, cnt, left, keep⟩ := d
  have H := Lib.hid h
  have c4 : w.cell? ⟨R, 4, none⟩ = some (.bool on) := by obtain ⟨v, hbk, hv, rfl⟩ := h; rw [hbk.cell]; rfl
  cases on with
  | false =>
    clear h
    go_enter Try.func53, Try.ntmps53
    go_wp2
    first | go_end0 | refine bodyPost_ret (results_none rfl _ _ _) rfl ?_
    exact ⟨rfl, S, H.out, Turned.refl _ _, From.refl _ _⟩
  | true =>
    have la : sa.length + wa.length ≤ 140737488355328 := by simpa [FL.all] using hl0
    have lb : sb.length + wb.length ≤ 140737488355328 := by simpa [FL.all] using hl1
    obtain ⟨kn, hkn⟩ : ∃ kn : Nat, kn = k.toNat := ⟨_, rfl⟩
    have HKn := Lib.hid hkn
    clear h hl0 hl1 hkn
    go_enter Try.func53, Try.ntmps53
    go_wp2
    clear c4
    go_loopw [4, 5] (fun j _ wr => ∃ (F : Nat) (S' : Nat → Prop), j = .int .i64 F ∧ F ≤ 2 ∧ DkR wr R (midD sa wa sb wb kn cnt left keep F) S' ∧ Turned S w wr ∧ From S S' w) (fun j _ _ => 2 - (intOf j).toNat)
    case atStart => exact ⟨0, S, rfl, by omega, H.out, Turned.refl _ _, From.refl _ _⟩
    case round =>
      obtain ⟨F, S1, rfl, hF, h1, t1, g1⟩ := hrel
      obtain ⟨w1, rfl⟩ : ∃ w1 : World, w1 = wr := ⟨_, rfl⟩
      have H1 := Lib.hid h1
      have T1 := Lib.hid t1
      have G1 := Lib.hid g1
      clear h1 t1 g1
      have way : F = 0 ∨ F = 1 ∨ F = 2 := by omega
      rcases way with rfl | rfl | rfl
      · rw [show ((0 : Nat) : Int) = 0 from rfl]
        go_wp2
        go_loopw [5] (fun j wr => ∃ (i : Nat) (S' : Nat → Prop), j = .int .i64 i ∧ i ≤ wa.length ∧ i ≤ kn ∧ DkR wr R (⟨⟨sa ++ wa.take i, wa⟩, ⟨sb, wb⟩, true, cnt, left, keep⟩ : DK) S' ∧ Turned S w wr ∧ From S S' w) (fun j _ => wa.length - (intOf j).toNat)
        case atStart => exact ⟨0, S1, rfl, by omega, by omega, by rw [List.take_zero, List.append_nil]; exact H1.out, T1.out, G1.out⟩
        case round =>
          obtain ⟨i, S2, rfl, hi1, hi2, h2, t2, g2⟩ := hrel
          obtain ⟨w2, rfl⟩ : ∃ w2 : World, w2 = wr := ⟨_, rfl⟩
          have H2 := Lib.hid h2
          have T2 := Lib.hid t2
          have G2 := Lib.hid g2
          obtain ⟨v, hbk, hv, rfl⟩ := h2
          have HB := Lib.hid hbk
          have HV := Lib.hid hv
          have hrs := hv.rd 0 (by omega)
          obtain ⟨Aw, nw, cw, ew, hlw, hcw, hrw, _⟩ := hv.rd 2 (by omega)
          replace hlw : wa.length = nw := hlw
          replace hrw : Reads w2 w2.heap.size 1 Aw nw (bts wa) := hrw
          have x2 : w2.cell? ⟨R, 2, none⟩ = some (.slice Aw nw cw) := by rw [hbk.cell, ← ew]; rfl
          have f2 : w2.frozen? ⟨R, 2, none⟩ = false := hbk.frozen 2
          clear t2 g2
          by_cases hlt : i < nw ∧ (i : Int) < k
          · obtain ⟨hi3, hi4⟩ := hlt
            obtain ⟨As, ns, cs, es, hls, hcs, hrd, _⟩ := id hrs
            have x1 : w2.cell? ⟨R, 0, none⟩ = some (.slice As ns cs) := by rw [hbk.cell, ← es]; rfl
            replace hrs : RefS w2 (.slice As ns cs) (sa ++ wa.take i) := by rw [← es]; exact hrs
            have hEs : v 0 = .slice As ns cs := es
            obtain ⟨bw, ow, rfl, hbw, hcell⟩ := hrw.u8 (by omega)
            have xb := hcell i hi3
            obtain ⟨x, hx⟩ : ∃ x, x = wa.getD i 0 := ⟨_, rfl⟩
            rw [← hx] at xb
            have hmore : sa ++ wa.take i ++ [x] = sa ++ wa.take (i + 1) := by rw [hx, List.append_assoc, take_more (by omega)]
            have z1 : (w2.alloc (Obj.cells #[.int .u8 x] 5)).cell? ⟨R, 0, none⟩ = some (.slice As ns cs) := (World.cell?_alloc_lt w2 _ ⟨R, 0, none⟩ hbk.lt).trans x1
            have hll : (sa ++ wa.take i).length + 1 ≤ 140737488355328 := by rw [List.length_append, List.length_take]; omega
            have HRs := Lib.hid hrs
            have HMo := Lib.hid hmore
            have HLL := Lib.hid hll
            have HEs := Lib.hid hEs
            have HI := Lib.hid (And.intro hi1 hi2)
            have hi5 : decide ((i : Int) < k) = true := decide_eq_true hi4
            have hi6 : (i : Int) < (nw : Int) := by omega
            clear hv hbk hrs hrd hcell hmore hll hls hcs hrw hx ew es hEs
            go_wp2_with fail
            go_region_law (refine stepR (w2.drew.alloc (Obj.cells #[.int .u8 x] 5)) rfl (.tmp 38) (.tmp 48) rfl (.slice As ns cs) (sa ++ wa.take i) rfl (HRs.out.drew.alloc _) (w2.heap.size + 1) (some ⟨w2.heap.size, 0, none⟩) 1 [x] 1 rfl (reads_new w2.drew _ _ _ 1 (bts [x]) rfl rfl (by show w2.heap.size < _; omega)) (by omega) HLL.out ?_; intro A9 n9 c9 w9 hown9 hg9 hat9; have hg := grown_from (below_drew_alloc w2 _) hg9; have hb9 := HB.out.grown hg (by rw [← HEs.out]; exact fun e => HV.out.ne 0 (by omega) e.symm); have y1 : w9.cell? ⟨R, 0, none⟩ = some (.slice As ns cs) := by { rw [hb9.cell, ← HEs.out]; rfl }; have y2 : w9.frozen? ⟨R, 0, none⟩ = false := hb9.frozen 0; have HG9 := Lib.hid hg; have HW9 := Lib.hid hown9; have HA9 := Lib.hid hat9; clear hown9 hg9 hat9 hg hb9)
            all_goals
              have P := RefV.put (k := 0) (d' := (⟨⟨sa ++ wa.take (i + 1), wa⟩, ⟨sb, wb⟩, true, cnt, left, keep⟩ : DK)) HB.out HV.out (by omega) (by rw [HEs.out]; exact HG9.out) (RefS.own HW9.out) HW9.out.lt (fun g e => by
                rw [HEs.out]
                rcases HA9.out g e with h1 | h1
                · exact .inl h1
                · refine .inr (Nat.le_trans ?_ h1)
                  simp) (four (HMo.out.symm) rfl rfl rfl) ⟨rfl, rfl, rfl, rfl⟩
              have HP := Lib.hid P
              clear P
              go_wp2
              go_roundw
              case rel => exact ⟨i + 1, _, by go_num, by omega, by have := HKn.out; omega, HP.out.1, T2.out.also G2.out HP.out.2.1, G2.out.trans HP.out.2.2 T2.out.size⟩
              case measure => simp [intOf]; omega
          · have hstop : wa.take i = wa.take kn := by
              have := HKn.out
              by_cases h5 : i < nw
              · have : i = kn := by omega
                rw [this]
              · rw [List.take_of_length_le (by omega), List.take_of_length_le (by omega)]
            have HSt := Lib.hid hstop
            have P := RefV.put (k := 2) (w1 := w2) (u := .slice none 0 0) (l := []) (d' := (⟨⟨sa ++ wa.take i, []⟩, ⟨sb, wb⟩, true, cnt, left, keep⟩ : DK)) HB.out HV.out (by omega) (grown_of_below (Below.refl _ _) _) (RefS.nil_ _) (fun g e => by simp [Value.ownBlock] at e) (fun g e => by simp [Value.ownBlock] at e) (four rfl rfl rfl rfl) ⟨rfl, rfl, rfl, rfl⟩
            have HP := Lib.hid P
            clear P hstop hv hbk hrs hrw
            by_cases h5 : i < nw
            · have h6 : ¬ (i : Int) < k := fun e => hlt ⟨h5, e⟩
              have h7 : decide ((i : Int) < k) = false := decide_eq_false h6
              clear hlt
              go_wp2
              go_roundw
              case rel =>
                refine ⟨1, _, by go_num, by omega, ?_, T2.out.also G2.out HP.out.2.1, G2.out.trans HP.out.2.2 T2.out.size⟩
                have := HP.out.1
                rw [HSt.out] at this
                exact this
              case measure => simp [intOf]
            · clear hlt
              go_wp2
              go_roundw
              case rel =>
                refine ⟨1, _, by go_num, by omega, ?_, T2.out.also G2.out HP.out.2.1, G2.out.trans HP.out.2.2 T2.out.size⟩
                have := HP.out.1
                rw [HSt.out] at this
                exact this
              case measure => simp [intOf]
      · rw [show ((1 : Nat) : Int) = 1 from rfl]
        go_wp2
        go_loopw [5] (fun j wr => ∃ (i : Nat) (S' : Nat → Prop), j = .int .i64 i ∧ i ≤ wb.length ∧ i ≤ kn ∧ DkR wr R (⟨⟨sa ++ wa.take kn, []⟩, ⟨sb ++ wb.take i, wb⟩, true, cnt, left, keep⟩ : DK) S' ∧ Turned S w wr ∧ From S S' w) (fun j _ => wb.length - (intOf j).toNat)
        case atStart => exact ⟨0, S1, rfl, by omega, by omega, by rw [List.take_zero, List.append_nil]; exact H1.out, T1.out, G1.out⟩
        case round =>
          obtain ⟨i, S2, rfl, hi1, hi2, h2, t2, g2⟩ := hrel
          obtain ⟨w2, rfl⟩ : ∃ w2 : World, w2 = wr := ⟨_, rfl⟩
          have H2 := Lib.hid h2
          have T2 := Lib.hid t2
          have G2 := Lib.hid g2
          obtain ⟨v, hbk, hv, rfl⟩ := h2
          have HB := Lib.hid hbk
          have HV := Lib.hid hv
          have hrs := hv.rd 1 (by omega)
          obtain ⟨Aw, nw, cw, ew, hlw, hcw, hrw, _⟩ := hv.rd 3 (by omega)
          replace hlw : wb.length = nw := hlw
          replace hrw : Reads w2 w2.heap.size 1 Aw nw (bts wb) := hrw
          have x2 : w2.cell? ⟨R, 3, none⟩ = some (.slice Aw nw cw) := by rw [hbk.cell, ← ew]; rfl
          have f2 : w2.frozen? ⟨R, 3, none⟩ = false := hbk.frozen 3
          clear t2 g2
          by_cases hlt : i < nw ∧ (i : Int) < k
          · obtain ⟨hi3, hi4⟩ := hlt
            obtain ⟨As, ns, cs, es, hls, hcs, hrd, _⟩ := id hrs
            have x1 : w2.cell? ⟨R, 1, none⟩ = some (.slice As ns cs) := by rw [hbk.cell, ← es]; rfl
            replace hrs : RefS w2 (.slice As ns cs) (sb ++ wb.take i) := by rw [← es]; exact hrs
            have hEs : v 1 = .slice As ns cs := es
            obtain ⟨bw, ow, rfl, hbw, hcell⟩ := hrw.u8 (by omega)
            have xb := hcell i hi3
            obtain ⟨x, hx⟩ : ∃ x, x = wb.getD i 0 := ⟨_, rfl⟩
            rw [← hx] at xb
            have hmore : sb ++ wb.take i ++ [x] = sb ++ wb.take (i + 1) := by rw [hx, List.append_assoc, take_more (by omega)]
            have z1 : (w2.alloc (Obj.cells #[.int .u8 x] 5)).cell? ⟨R, 1, none⟩ = some (.slice As ns cs) := (World.cell?_alloc_lt w2 _ ⟨R, 1, none⟩ hbk.lt).trans x1
            have hll : (sb ++ wb.take i).length + 1 ≤ 140737488355328 := by rw [List.length_append, List.length_take]; omega
            have HRs := Lib.hid hrs
            have HMo := Lib.hid hmore
            have HLL := Lib.hid hll
            have HEs := Lib.hid hEs
            have HI := Lib.hid (And.intro hi1 hi2)
            have hi5 : decide ((i : Int) < k) = true := decide_eq_true hi4
            have hi6 : (i : Int) < (nw : Int) := by omega
            clear hv hbk hrs hrd hcell hmore hll hls hcs hrw hx ew es hEs
            go_wp2_with fail
            go_region_law (refine stepR (w2.drew.alloc (Obj.cells #[.int .u8 x] 5)) rfl (.tmp 38) (.tmp 48) rfl (.slice As ns cs) (sb ++ wb.take i) rfl (HRs.out.drew.alloc _) (w2.heap.size + 1) (some ⟨w2.heap.size, 0, none⟩) 1 [x] 1 rfl (reads_new w2.drew _ _ _ 1 (bts [x]) rfl rfl (by show w2.heap.size < _; omega)) (by omega) HLL.out ?_; intro A9 n9 c9 w9 hown9 hg9 hat9; have hg := grown_from (below_drew_alloc w2 _) hg9; have hb9 := HB.out.grown hg (by rw [← HEs.out]; exact fun e => HV.out.ne 1 (by omega) e.symm); have y1 : w9.cell? ⟨R, 1, none⟩ = some (.slice As ns cs) := by { rw [hb9.cell, ← HEs.out]; rfl }; have y2 : w9.frozen? ⟨R, 1, none⟩ = false := hb9.frozen 1; have HG9 := Lib.hid hg; have HW9 := Lib.hid hown9; have HA9 := Lib.hid hat9; clear hown9 hg9 hat9 hg hb9)
            all_goals
              have P := RefV.put (k := 1) (d' := (⟨⟨sa ++ wa.take kn, []⟩, ⟨sb ++ wb.take (i + 1), wb⟩, true, cnt, left, keep⟩ : DK)) HB.out HV.out (by omega) (by rw [HEs.out]; exact HG9.out) (RefS.own HW9.out) HW9.out.lt (fun g e => by
                rw [HEs.out]
                rcases HA9.out g e with h1 | h1
                · exact .inl h1
                · refine .inr (Nat.le_trans ?_ h1)
                  simp) (four rfl (HMo.out.symm) rfl rfl) ⟨rfl, rfl, rfl, rfl⟩
              have HP := Lib.hid P
              clear P
              go_wp2
              go_roundw
              case rel => exact ⟨i + 1, _, by go_num, by omega, by have := HKn.out; omega, HP.out.1, T2.out.also G2.out HP.out.2.1, G2.out.trans HP.out.2.2 T2.out.size⟩
              case measure => simp [intOf]; omega
          · have hstop : wb.take i = wb.take kn := by
              have := HKn.out
              by_cases h5 : i < nw
              · have : i = kn := by omega
                rw [this]
              · rw [List.take_of_length_le (by omega), List.take_of_length_le (by omega)]
            have HSt := Lib.hid hstop
            have P := RefV.put (k := 3) (w1 := w2) (u := .slice none 0 0) (l := []) (d' := (⟨⟨sa ++ wa.take kn, []⟩, ⟨sb ++ wb.take i, []⟩, true, cnt, left, keep⟩ : DK)) HB.out HV.out (by omega) (grown_of_below (Below.refl _ _) _) (RefS.nil_ _) (fun g e => by simp [Value.ownBlock] at e) (fun g e => by simp [Value.ownBlock] at e) (four rfl rfl rfl rfl) ⟨rfl, rfl, rfl, rfl⟩
            have HP := Lib.hid P
            clear P hstop hv hbk hrs hrw
            by_cases h5 : i < nw
            · have h6 : ¬ (i : Int) < k := fun e => hlt ⟨h5, e⟩
              have h7 : decide ((i : Int) < k) = false := decide_eq_false h6
              clear hlt
              go_wp2
              go_roundw
              case rel =>
                refine ⟨2, _, by go_num, by omega, ?_, T2.out.also G2.out HP.out.2.1, G2.out.trans HP.out.2.2 T2.out.size⟩
                have := HP.out.1
                rw [HSt.out] at this
                exact this
              case measure => simp [intOf]
            · clear hlt
              go_wp2
              go_roundw
              case rel =>
                refine ⟨2, _, by go_num, by omega, ?_, T2.out.also G2.out HP.out.2.1, G2.out.trans HP.out.2.2 T2.out.size⟩
                have := HP.out.1
                rw [HSt.out] at this
                exact this
              case measure => simp [intOf]
      · obtain ⟨v, hbk, hv, hS1⟩ := H1.out
        have x4 : w1.cell? ⟨R, 4, none⟩ = some (.bool true) := by rw [hbk.cell]; rfl
        have f4 : w1.frozen? ⟨R, 4, none⟩ = false := hbk.frozen 4
        have x6 : w1.cell? ⟨R, 6, none⟩ = some (.int .i64 (left : Int)) := by rw [hbk.cell]; rfl
        have f6 : w1.frozen? ⟨R, 6, none⟩ = false := hbk.frozen 6
        have HR1 : Hid (S1 R) := Lib.hid H1.out.self
        have hd : DkR ((w1.setCell ⟨R, 4, none⟩ (.bool false)).setCell ⟨R, 6, none⟩ (.int .i64 0)) R (DK.offs k ⟨⟨sa, wa⟩, ⟨sb, wb⟩, true, cnt, left, keep⟩) S1 := by
          have h1 : DkR (w1.setCell ⟨R, 4, none⟩ (.bool false)) R ⟨⟨sa ++ wa.take kn, []⟩, ⟨sb ++ wb.take kn, []⟩, false, cnt, left, keep⟩ S1 := H1.out.num 4 _ rfl (fun v => rfl)
          have h2 := h1.num (d' := ⟨⟨sa ++ wa.take kn, []⟩, ⟨sb ++ wb.take kn, []⟩, false, cnt, 0, keep⟩) 6 (.int .i64 0) rfl (fun v => rfl)
          rw [HKn.out] at h2
          exact h2
        have HD := Lib.hid hd
        clear hbk hv hS1 hd
        go_wp2
        go_end0
        exact ⟨rfl, S1, HD.out, (T1.out.also G1.out (Turned.refl S1 w1)).trans (((Turned.refl S1 w1).set HR1.out _).set HR1.out _) (fun b hb hs => by
          rcases G1.out b hs with h1 | h1
          · exact h1
          · omega), G1.out⟩
end Go.Proofs.Ytgocfkjibcokjaa.Pk
