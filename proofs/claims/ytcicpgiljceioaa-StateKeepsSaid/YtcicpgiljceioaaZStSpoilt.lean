/- What fletchlaw14's spoilt does to a state of one's own: it answers true, and turns only its blocks. -/
import Derived.Test.YtcicpgiljceioaaZStFam2
import Derived.Test.YtcicpgiljceioaaZStSpec
namespace Go.Proofs.Ytcicpgiljceioaa.Pk
open Go.RowKit
set_option linter.unusedVariables false
attribute [local go_sem] Oper.semAt_some
set_option maxRecDepth 100000 in
set_option maxHeartbeats 32000000 in
theorem spoilt_any (s : StL) (w : World) (B : Nat) (hs : OwnS w B s) (hin : InS w s) (hB : B ≤ w.heap.size) :
    Calls Try.prog 25 #[s.val] w fun e w' => e = .returned (.bool true) ∧ OnlyS (stB s) w w' := by
  obtain ⟨p, hp⟩ : ∃ p, p = w.heap.size := ⟨_, rfl⟩
  obtain ⟨W1, hW1⟩ : ∃ W1, W1 = w.alloc (.cells s.val.cells 30) := ⟨_, rfl⟩
  have hb1 : Below w.heap.size w W1 := hW1 ▸ (Below.refl _ _).alloc (Nat.le_refl _) _
  have HKp : Hid (Blk W1 p 30 s.val.cells) := Lib.hid (by rw [hW1, hp]; exact Blk.new w _ _)
  have hpS : ¬ stB s p := by
    rintro ⟨v, hv, e⟩
    have : p < w.heap.size := by
      rcases List.mem_append.1 hv with h | h
      · exact hs.os.under v h p e
      · rcases List.mem_append.1 h with h | h
        · exact hs.es.under v h p e
        · rcases List.mem_cons.1 h with rfl | h
          · exact hs.as_.lt p e
          · rw [List.mem_singleton.1 h] at e; exact hs.gs.lt p e
    omega
  have hF0 := (hs.below hb1).fam (S := stB s) (fun g h => h)
  obtain ⟨S, hS⟩ : ∃ S, S = stB s := ⟨_, rfl⟩
  rw [← hS] at hF0 hpS ⊢
  have HO : Hid (OnlyS S w W1) := Lib.hid ((OnlyS.refl S w).below hb1)
  have HPS := Lib.hid hpS
  have HBB : Hid (B ≤ W1.heap.size) := Lib.hid (Nat.le_trans hB hb1.size)
  obtain ⟨me, os, ⟨Ao, n, co⟩, es, ⟨Ae, m, ce⟩, q, as_, ⟨Aa, na, ca⟩, gs, ⟨Ag, ng, cg⟩⟩ := s
  have L1 : Hid (os.length = n) := Lib.hid hin.os.len
  have L2 : Hid (es.length = m) := Lib.hid hin.es.len
  have L3 : Hid (as_.length = na) := Lib.hid hin.as_.len
  have L4 : Hid (gs.length = ng) := Lib.hid hin.gs.len
  have b1 : n * 40 ≤ 140737488351232 := hin.os.few
  have b2 : m * 48 ≤ 140737488351232 := hin.es.few
  have b3 : na * 16 ≤ 140737488351232 := hin.as_.few
  have b4 : ng * 24 ≤ 140737488351232 := hin.gs.few
  have k1 : n ≤ co := hin.os.cap
  have k2 : m ≤ ce := hin.es.cap
  have k3 : na ≤ ca := hin.as_.cap
  have k4 : ng ≤ cg := hin.gs.cap
  have N1 : Hid (∀ j, (os.getD j default).v.c.length ≤ 4398046510976) := Lib.hid (fun j => by
    rw [List.getD_eq_getElem?_getD]
    cases e : os[j]? with
    | none => simp [default]
    | some x =>
      have h1 := (hin.o x (List.mem_of_getElem? e)).c
      have h2 : x.s.n * 32 ≤ 140737488351232 := h1.few
      have h3 := h1.len
      show x.v.c.length ≤ _
      omega)
  have N2 : Hid (∀ j, (es.getD j default).v.o.length ≤ 3518437208780) := Lib.hid (fun j => by
    rw [List.getD_eq_getElem?_getD]
    cases e : es[j]? with
    | none => simp [default]
    | some x =>
      have h1 := (hin.e x (List.mem_of_getElem? e)).o
      have h2 : x.s.n * 40 ≤ 140737488351232 := h1.few
      have h3 := h1.len
      show x.v.o.length ≤ _
      omega)
  have C1 : Hid (∀ j x, os[j]? = some x → (os.getD j default).s = x.s) := Lib.hid (fun j x h => by rw [List.getD_eq_getElem?_getD, h]; rfl)
  have C2 : Hid (∀ j x, es[j]? = some x → (es.getD j default).s = x.s) := Lib.hid (fun j x h => by rw [List.getD_eq_getElem?_getD, h]; rfl)
  unfold sp0 at hF0
  simp only at hF0
  obtain ⟨cs0, hcs0⟩ : ∃ f : Nat → Sl, f = fun i => (os.getD i default).s := ⟨_, rfl⟩
  obtain ⟨cl0, hcl0⟩ : ∃ f : Nat → List Ce, f = fun i => (os.getD i default).v.c := ⟨_, rfl⟩
  obtain ⟨ms0, hms0⟩ : ∃ f : Nat → Sl, f = fun i => (es.getD i default).s := ⟨_, rfl⟩
  obtain ⟨ml0, hml0⟩ : ∃ f : Nat → List Mg, f = fun i => (es.getD i default).v.o := ⟨_, rfl⟩
  rw [← hcs0, ← hcl0, ← hms0, ← hml0] at hF0
  have D1 : Hid (∀ j x, os[j]? = some x → cs0 j = x.s) := Lib.hid (fun j x h => by rw [hcs0]; exact C1.out j x h)
  have D2 : Hid (∀ j x, es[j]? = some x → ms0 j = x.s) := Lib.hid (fun j x h => by rw [hms0]; exact C2.out j x h)
  have M1 : Hid (∀ j, (cl0 j).length ≤ 4398046510976) := Lib.hid (fun j => by rw [hcl0]; exact N1.out j)
  have M2 : Hid (∀ j, (ml0 j).length ≤ 3518437208780) := Lib.hid (fun j => by rw [hml0]; exact N2.out j)
  have HF := Lib.hid hF0
  clear hF0 hs hin hcs0 hcl0 hms0 hml0 C1 C2 N1 N2 hS hpS hB
  simp only [StL.val, Sl.val, Value.cells] at HKp hW1 ⊢
  have y := HKp.out.cell 1
  go_enter Try.func25, Try.ntmps25
  go_wp2_with fail
  rw [← hW1, ← hp]
  clear hW1 hp hb1 y
  have HF0 := Lib.hid HF.out
  have kp : Blk W1 p 30 #[.int .i64 me, .slice Ao n co, .slice Ae m ce, .int .i64 q, .slice Aa na ca, .slice Ag ng cg] := HF.out.only.blk HKp.out HPS.out
  have y := kp.cell 1
  go_wp2_with fail
  clear kp y
  go_loopw [3, 26] (fun r j wr => ∃ (i : Nat) (vr : Sl) (cl : Nat → List Ce), j = .int .i64 i ∧ i ≤ n ∧ r = vr.val ∧ Fam W1 S wr ((⟨⟨Ao, n, co⟩, os, ⟨Ae, m, ce⟩, es, ⟨Aa, na, ca⟩, as_, ⟨Ag, ng, cg⟩, gs, vr, (List.range i).map cs0, ⟨none, 0, 0⟩, [], cs0, cl, ms0, ml0⟩ : Sp).fam B) ∧ ∀ j, j < i → ∀ x ∈ cl j, x.n = (j : Int)) (fun _ j _ => n - (intOf j).toNat)
  case atStart => exact ⟨0, ⟨none, 0, 0⟩, cl0, rfl, by omega, rfl, HF.out, fun j hj => by omega⟩
  case round =>
    obtain ⟨i, ⟨Ar, nr, cr⟩, cl, rfl, hi, rfl, hF, hA⟩ := hrel
    obtain ⟨V0, rfl⟩ : ∃ V : World, V = wr := ⟨_, rfl⟩
    have HF := Lib.hid hF
    have HA := Lib.hid hA
    clear hF hA
    simp only [Sl.val]
    by_cases hlt : i < n
    case pos =>
      have kp : Blk V0 p 30 #[.int .i64 me, .slice Ao n co, .slice Ae m ce, .int .i64 q, .slice Aa na ca, .slice Ag ng cg] := HF.out.only.blk HKp.out HPS.out
      have ho : owR.Own V0 B (.slice Ao n co) os := HF.out.own .so
      obtain ⟨gr, rfl, -, -, hcc, hfr, -⟩ := ho.cell (show 0 < n by omega)
      have hil : i < os.length := by rw [L1.out]; exact hlt
      obtain ⟨rr, hrr⟩ : ∃ r, os[i]? = some r := ⟨_, List.getElem?_eq_getElem hil⟩
      have HRr := Lib.hid hrr
      have hsi := D1.out i rr hrr
      obtain ⟨rv, ⟨A1, n1, c1⟩⟩ := rr
      replace hsi : cs0 i = ⟨A1, n1, c1⟩ := hsi
      have HSi := Lib.hid hsi
      have hlr : (cl i).length = n1 := by
        have h : ceR.Own V0 B (cs0 i).val (cl i) := HF.out.own (.c i)
        rw [hsi] at h
        exact h.rd.1
      have hn1c : n1 ≤ c1 := by
        have h : ceR.Own V0 B (cs0 i).val (cl i) := HF.out.own (.c i)
        rw [hsi] at h
        exact h.rd.2.1
      have hn1 : n1 ≤ 4398046510976 := by
        have h2 : ceR.Own W1 B (cs0 i).val (cl0 i) := HF0.out.own (.c i)
        rw [hsi] at h2
        have e2 : (cl0 i).length = n1 := h2.rd.1
        have e3 := M1.out i
        omega
      have y := kp.cell 1
      have e2 := ho.at_ hrr (j := 2) rfl
      simp only [owR, Sl.val] at e2
      have hid1 : i < n := hlt
      clear hfr hsi hrr ho hlr hcc hil
      go_wp2_with fail
      clear y e2 kp
      go_loopw [36] (fun j wr => ∃ (k : Nat) (cl2 : Nat → List Ce), j = .int .i64 k ∧ k ≤ n1 ∧ Fam W1 S wr ((⟨⟨some ⟨gr, 0, none⟩, n, co⟩, os, ⟨Ae, m, ce⟩, es, ⟨Aa, na, ca⟩, as_, ⟨Ag, ng, cg⟩, gs, ⟨Ar, nr, cr⟩, (List.range i).map cs0, ⟨none, 0, 0⟩, [], cs0, cl2, ms0, ml0⟩ : Sp).fam B) ∧ (∀ j, j < i → ∀ x ∈ cl2 j, x.n = (j : Int)) ∧ (∀ t x, t < k → (cl2 i)[t]? = some x → x.n = (i : Int))) (fun j _ => n1 - (intOf j).toNat)
      case atStart => exact ⟨0, cl, rfl, by omega, HF.out, HA.out, fun t x ht => by omega⟩
      case round =>
        obtain ⟨k, cl2, rfl, hk, hFu, hA2, hA3⟩ := hrel
        obtain ⟨U0, rfl⟩ : ∃ V : World, V = wr := ⟨_, rfl⟩
        have HFu := Lib.hid hFu
        have HA2 := Lib.hid hA2
        have HA3 := Lib.hid hA3
        clear hFu hA2 hA3
        have kp : Blk U0 p 30 #[.int .i64 me, .slice (some ⟨gr, 0, none⟩) n co, .slice Ae m ce, .int .i64 q, .slice Aa na ca, .slice Ag ng cg] := HFu.out.only.blk HKp.out HPS.out
        have y := kp.cell 1
        have ho : owR.Own U0 B (.slice (some ⟨gr, 0, none⟩) n co) os := HFu.out.own .so
        have e2 := ho.at_ HRr.out (j := 2) rfl
        simp only [owR, Sl.val] at e2
        have hoc0 : ceR.Own U0 B (cs0 i).val (cl2 i) := HFu.out.own (.c i)
        rw [HSi.out] at hoc0
        have hoc : ceR.Own U0 B (.slice A1 n1 c1) (cl2 i) := hoc0
        clear hoc0 ho
        by_cases hlt2 : k < n1
        case pos =>
          obtain ⟨gc, rfl, -, -, hcc1, -, -⟩ := hoc.cell (show 0 < n1 by omega)
          have hlen : (cl2 i).length = n1 := hoc.rd.1
          obtain ⟨x, hx⟩ : ∃ x, (cl2 i)[k]? = some x := ⟨_, List.getElem?_eq_getElem (by omega)⟩
          have f0 := hoc.at_ hx (j := 0) rfl
          have l0 := hoc.fz_ (show 0 < n1 by omega) (k * 4 + 0)
          have f1 := hoc.at_ hx (j := 1) rfl
          have l1 := hoc.fz_ (show 0 < n1 by omega) (k * 4 + 1)
          have f2 := hoc.at_ hx (j := 2) rfl
          have l2 := hoc.fz_ (show 0 < n1 by omega) (k * 4 + 2)
          have f3 := hoc.at_ hx (j := 3) rfl
          have l3 := hoc.fz_ (show 0 < n1 by omega) (k * 4 + 3)
          simp only [ceR, Nat.add_zero] at f0 f1 f2 f3 l0 l1 l2 l3
          have HN : Hid (Fam W1 S ((((U0.setCell ⟨gc, k * 4, none⟩ (.int .i64 (i : Int))).setCell ⟨gc, k * 4 + 1, none⟩ (.int .i64 0)).setCell ⟨gc, k * 4 + 2, none⟩ (.int .i64 0)).setCell ⟨gc, k * 4 + 3, none⟩ (.int .i64 0)) ((⟨⟨some ⟨gr, 0, none⟩, n, co⟩, os, ⟨Ae, m, ce⟩, es, ⟨Aa, na, ca⟩, as_, ⟨Ag, ng, cg⟩, gs, ⟨Ar, nr, cr⟩, (List.range i).map cs0, ⟨none, 0, 0⟩, [], cs0, (upd cl2 i ((cl2 i).set k ⟨(i : Int), 0, 0, 0⟩)), ms0, ml0⟩ : Sp).fam B)) := Lib.hid (by
            have h := HFu.out.put (.c i) (B := B) (R := ceR) (g := gc) (n := n1) (c := c1) (i := k) (l := cl2 i) (by show ceR.item B (cs0 i).val _ = _; rw [HSi.out]; rfl) hcc1 hx ⟨(i : Int), 0, 0, 0⟩
            rw [show (Value.slice (some ⟨gc, 0, none⟩) n1 c1) = (Sl.mk (some ⟨gc, 0, none⟩) n1 c1).val from rfl, up_c] at h
            have e : upd cs0 i (Sl.mk (some ⟨gc, 0, none⟩) n1 c1) = cs0 := by rw [← show cs0 i = _ from HSi.out]; exact upd_same _ _
            simp only [e] at h
            exact h)
          have HN2 : Hid (∀ j, j < i → ∀ x ∈ upd cl2 i ((cl2 i).set k ⟨(i : Int), 0, 0, 0⟩) j, x.n = (j : Int)) := Lib.hid (fun j hj => by rw [upd_ne _ _ (by omega)]; exact HA2.out j hj)
          have HN3 : Hid (∀ t x, t < k + 1 → (upd cl2 i ((cl2 i).set k ⟨(i : Int), 0, 0, 0⟩) i)[t]? = some x → x.n = (i : Int)) := Lib.hid (by rw [upd_at]; exact all_set (i := i) HA3.out rfl)
          have hid2 : k < n1 := hlt2
          clear hoc hx hlen hcc1
          go_wp2_with fail
          go_roundw
          case rel => exact ⟨k + 1, _, by go_num, by omega, HN.out, HN2.out, HN3.out⟩
          case measure => simp [intOf]; omega
        case neg =>
          have HAll : Hid (∀ x ∈ cl2 i, x.n = (i : Int)) := Lib.hid (mem_all HA3.out (by rw [hoc.rd.1]; omega))
          have hbn : Below U0.heap.size U0 (U0.alloc (.cells #[.slice A1 n1 c1] 53)) := (Below.refl _ _).alloc (Nat.le_refl _) _
          have HBn := Lib.hid hbn
          have hov : slcR.Own U0 B (.slice Ar nr cr) ((List.range i).map cs0) := HFu.out.own .vr
          have HOv := Lib.hid hov
          have HBu : Hid (B ≤ U0.heap.size) := Lib.hid (Nat.le_trans HBB.out HFu.out.only.size)
          clear hov hbn hoc
          go_wp2_with (at_builtin; refine Row.app slcR (U0.alloc (.cells #[.slice A1 n1 c1] 53)) rfl (.tmp 50) (.tmp 57) rfl B (.slice Ar nr cr) ((List.range i).map cs0) rfl (HOv.out.below HBn.out) (U0.heap.size + 1) (some ⟨U0.heap.size, 0, none⟩) 1 [⟨A1, n1, c1⟩] 1 rfl (Row.reads_new slcR U0 #[.slice A1 n1 c1] 53 [⟨A1, n1, c1⟩] rfl) (by { show (((List.range i).map cs0).length + 1) * 24 ≤ _; simp; omega }) (by { have h1 := HBn.out.size; have h2 := HBu.out; omega }) ?_; intro v8 V8 ho8 hg8 hl8; obtain ⟨A8, c8, e8⟩ := ho8.slk (k := i + 1) (by simp); subst e8; have HN : Hid (Fam W1 S V8 ((⟨⟨some ⟨gr, 0, none⟩, n, co⟩, os, ⟨Ae, m, ce⟩, es, ⟨Aa, na, ca⟩, as_, ⟨Ag, ng, cg⟩, gs, ⟨A8, i + 1, c8⟩, (List.range (i + 1)).map cs0, ⟨none, 0, 0⟩, [], cs0, cl2, ms0, ml0⟩ : Sp).fam B)) := Lib.hid (by { have h := HFu.out.app .vr (R := slcR) (B := B) (v := .slice Ar nr cr) (v' := Sl.val ⟨A8, i + 1, c8⟩) rfl HBn.out ho8 hg8 hl8; rw [up_vr] at h; rw [map_range_snoc, HSi.out]; exact h }); clear ho8 hg8 hl8)
          go_roundw
          case rel =>
            refine ⟨i + 1, ⟨A8, i + 1, c8⟩, cl2, by go_num, by omega, rfl, HN.out, fun j hj => ?_⟩
            rcases Nat.lt_or_ge j i with h | h
            · exact HA2.out j h
            · obtain rfl : j = i := by omega
              exact HAll.out
          case measure => simp [intOf]; omega
    case neg =>
      have hnr : nr = n := by
        have h : slcR.Own V0 B (Sl.val ⟨Ar, nr, cr⟩) ((List.range i).map cs0) := HF.out.own .vr
        have h1 := h.rd.1
        simp at h1
        omega
      have hin2 : i = n := by omega
      have HF2 : Hid (Fam W1 S V0 ((⟨⟨Ao, n, co⟩, os, ⟨Ae, m, ce⟩, es, ⟨Aa, na, ca⟩, as_, ⟨Ag, ng, cg⟩, gs, ⟨Ar, n, cr⟩, (List.range n).map cs0, ⟨none, 0, 0⟩, [], cs0, cl, ms0, ml0⟩ : Sp).fam B)) := Lib.hid (by have h := HF.out; rw [hnr, hin2] at h; exact h)
      have HA2 : Hid (∀ j, j < n → ∀ x ∈ cl j, x.n = (j : Int)) := Lib.hid (fun j hj => HA.out j (by omega))
      have HH : Hid (∃ f, f = cl) := Lib.hid ⟨_, rfl⟩
      obtain ⟨cl1, hcl⟩ : ∃ f : Nat → List Ce, f = cl := ⟨_, rfl⟩
      rw [← hcl] at HF2 HA2
      have HAcl1 := Lib.hid HA2.out
      have HFn := Lib.hid HF2.out
      clear HF HA HF2 HA2 hcl HH hin2
      have hnr2 := hnr.symm
      clear hnr
      subst hnr2
      have HF := Lib.hid HFn.out
      clear HFn
      have LCcl1 : Hid (∀ j, (cl1 j).length ≤ 4398046510976) := Lib.hid (fun j => by
        have h : ceR.Own V0 B (cs0 j).val (cl1 j) := HF.out.own (.c j)
        have h2 : ceR.Own W1 B (cs0 j).val (cl0 j) := HF0.out.own (.c j)
        have e1 := Row.Own.rd h
        have e2 := Row.Own.rd h2
        have e3 := M1.out j
        omega)
      have kp : Blk V0 p 30 #[.int .i64 me, .slice Ao n co, .slice Ae m ce, .int .i64 q, .slice Aa na ca, .slice Ag ng cg] := HF.out.only.blk HKp.out HPS.out
      have y := kp.cell 2
      go_wp2_with fail
      clear kp y
      go_loopw [4, 63] (fun r j wr => ∃ (i : Nat) (vr : Sl) (cl : Nat → List Mg), j = .int .i64 i ∧ i ≤ m ∧ r = vr.val ∧ Fam W1 S wr ((⟨⟨Ao, n, co⟩, os, ⟨Ae, m, ce⟩, es, ⟨Aa, na, ca⟩, as_, ⟨Ag, ng, cg⟩, gs, ⟨Ar, n, cr⟩, (List.range n).map cs0, vr, (List.range i).map ms0, cs0, cl1, ms0, cl⟩ : Sp).fam B) ∧ ∀ j, j < i → ∀ x ∈ cl j, x.u = (j : Int)) (fun _ j _ => m - (intOf j).toNat)
      case atStart => exact ⟨0, ⟨none, 0, 0⟩, ml0, rfl, by omega, rfl, HF.out, fun j hj => by omega⟩
      case round =>
        obtain ⟨i, ⟨Aq, nr, cq⟩, cl, rfl, hi, rfl, hF, hA⟩ := hrel
        obtain ⟨V0, rfl⟩ : ∃ V : World, V = wr := ⟨_, rfl⟩
        have HF := Lib.hid hF
        have HA := Lib.hid hA
        clear hF hA
        simp only [Sl.val]
        by_cases hlt : i < m
        case pos =>
          have kp : Blk V0 p 30 #[.int .i64 me, .slice Ao n co, .slice Ae m ce, .int .i64 q, .slice Aa na ca, .slice Ag ng cg] := HF.out.only.blk HKp.out HPS.out
          have ho : sdR.Own V0 B (.slice Ae m ce) es := HF.out.own .se
          obtain ⟨gr, rfl, -, -, hcc, hfr, -⟩ := ho.cell (show 0 < m by omega)
          have hil : i < es.length := by rw [L2.out]; exact hlt
          obtain ⟨rr, hrr⟩ : ∃ r, es[i]? = some r := ⟨_, List.getElem?_eq_getElem hil⟩
          have HRr := Lib.hid hrr
          have hsi := D2.out i rr hrr
          obtain ⟨rv, ⟨A1, n1, c1⟩⟩ := rr
          replace hsi : ms0 i = ⟨A1, n1, c1⟩ := hsi
          have HSi := Lib.hid hsi
          have hlr : (cl i).length = n1 := by
            have h : mgR.Own V0 B (ms0 i).val (cl i) := HF.out.own (.m i)
            rw [hsi] at h
            exact h.rd.1
          have hn1c : n1 ≤ c1 := by
            have h : mgR.Own V0 B (ms0 i).val (cl i) := HF.out.own (.m i)
            rw [hsi] at h
            exact h.rd.2.1
          have hn1 : n1 ≤ 3518437208780 := by
            have h2 : mgR.Own W1 B (ms0 i).val (ml0 i) := HF0.out.own (.m i)
            rw [hsi] at h2
            have e2 : (ml0 i).length = n1 := h2.rd.1
            have e3 := M2.out i
            omega
          have y := kp.cell 2
          have e2 := ho.at_ hrr (j := 2) rfl
          simp only [sdR, Sl.val] at e2
          have hid1 : i < m := hlt
          clear hfr hsi hrr ho hlr hcc hil
          go_wp2_with fail
          clear y e2 kp
          go_loopw [73] (fun j wr => ∃ (k : Nat) (cl2 : Nat → List Mg), j = .int .i64 k ∧ k ≤ n1 ∧ Fam W1 S wr ((⟨⟨Ao, n, co⟩, os, ⟨some ⟨gr, 0, none⟩, m, ce⟩, es, ⟨Aa, na, ca⟩, as_, ⟨Ag, ng, cg⟩, gs, ⟨Ar, n, cr⟩, (List.range n).map cs0, ⟨Aq, nr, cq⟩, (List.range i).map ms0, cs0, cl1, ms0, cl2⟩ : Sp).fam B) ∧ (∀ j, j < i → ∀ x ∈ cl2 j, x.u = (j : Int)) ∧ (∀ t x, t < k → (cl2 i)[t]? = some x → x.u = (i : Int))) (fun j _ => n1 - (intOf j).toNat)
          case atStart => exact ⟨0, cl, rfl, by omega, HF.out, HA.out, fun t x ht => by omega⟩
          case round =>
            obtain ⟨k, cl2, rfl, hk, hFu, hA2, hA3⟩ := hrel
            obtain ⟨U0, rfl⟩ : ∃ V : World, V = wr := ⟨_, rfl⟩
            have HFu := Lib.hid hFu
            have HA2 := Lib.hid hA2
            have HA3 := Lib.hid hA3
            clear hFu hA2 hA3
            have kp : Blk U0 p 30 #[.int .i64 me, .slice Ao n co, .slice (some ⟨gr, 0, none⟩) m ce, .int .i64 q, .slice Aa na ca, .slice Ag ng cg] := HFu.out.only.blk HKp.out HPS.out
            have y := kp.cell 2
            have ho : sdR.Own U0 B (.slice (some ⟨gr, 0, none⟩) m ce) es := HFu.out.own .se
            have e2 := ho.at_ HRr.out (j := 2) rfl
            simp only [sdR, Sl.val] at e2
            have hoc0 : mgR.Own U0 B (ms0 i).val (cl2 i) := HFu.out.own (.m i)
            rw [HSi.out] at hoc0
            have hoc : mgR.Own U0 B (.slice A1 n1 c1) (cl2 i) := hoc0
            clear hoc0 ho
            by_cases hlt2 : k < n1
            case pos =>
              obtain ⟨gc, rfl, -, -, hcc1, -, -⟩ := hoc.cell (show 0 < n1 by omega)
              have hlen : (cl2 i).length = n1 := hoc.rd.1
              obtain ⟨x, hx⟩ : ∃ x, (cl2 i)[k]? = some x := ⟨_, List.getElem?_eq_getElem (by omega)⟩
              have f0 := hoc.at_ hx (j := 0) rfl
              have l0 := hoc.fz_ (show 0 < n1 by omega) (k * 5 + 0)
              have f1 := hoc.at_ hx (j := 1) rfl
              have l1 := hoc.fz_ (show 0 < n1 by omega) (k * 5 + 1)
              have f2 := hoc.at_ hx (j := 2) rfl
              have l2 := hoc.fz_ (show 0 < n1 by omega) (k * 5 + 2)
              have f3 := hoc.at_ hx (j := 3) rfl
              have l3 := hoc.fz_ (show 0 < n1 by omega) (k * 5 + 3)
              have f4 := hoc.at_ hx (j := 4) rfl
              have l4 := hoc.fz_ (show 0 < n1 by omega) (k * 5 + 4)
              simp only [mgR, Nat.add_zero] at f0 f1 f2 f3 f4 l0 l1 l2 l3 l4
              have HN : Hid (Fam W1 S (((((U0.setCell ⟨gc, k * 5, none⟩ (.int .i64 0)).setCell ⟨gc, k * 5 + 1, none⟩ (.int .i64 0)).setCell ⟨gc, k * 5 + 2, none⟩ (.int .i64 0)).setCell ⟨gc, k * 5 + 3, none⟩ (.int .i64 (i : Int))).setCell ⟨gc, k * 5 + 4, none⟩ (.int .i64 0)) ((⟨⟨Ao, n, co⟩, os, ⟨some ⟨gr, 0, none⟩, m, ce⟩, es, ⟨Aa, na, ca⟩, as_, ⟨Ag, ng, cg⟩, gs, ⟨Ar, n, cr⟩, (List.range n).map cs0, ⟨Aq, nr, cq⟩, (List.range i).map ms0, cs0, cl1, ms0, (upd cl2 i ((cl2 i).set k ⟨0, 0, 0, (i : Int), 0⟩))⟩ : Sp).fam B)) := Lib.hid (by
                have h := HFu.out.put (.m i) (B := B) (R := mgR) (g := gc) (n := n1) (c := c1) (i := k) (l := cl2 i) (by show mgR.item B (ms0 i).val _ = _; rw [HSi.out]; rfl) hcc1 hx ⟨0, 0, 0, (i : Int), 0⟩
                rw [show (Value.slice (some ⟨gc, 0, none⟩) n1 c1) = (Sl.mk (some ⟨gc, 0, none⟩) n1 c1).val from rfl, up_m] at h
                have e : upd ms0 i (Sl.mk (some ⟨gc, 0, none⟩) n1 c1) = ms0 := by rw [← show ms0 i = _ from HSi.out]; exact upd_same _ _
                simp only [e] at h
                exact h)
              have HN2 : Hid (∀ j, j < i → ∀ x ∈ upd cl2 i ((cl2 i).set k ⟨0, 0, 0, (i : Int), 0⟩) j, x.u = (j : Int)) := Lib.hid (fun j hj => by rw [upd_ne _ _ (by omega)]; exact HA2.out j hj)
              have HN3 : Hid (∀ t x, t < k + 1 → (upd cl2 i ((cl2 i).set k ⟨0, 0, 0, (i : Int), 0⟩) i)[t]? = some x → x.u = (i : Int)) := Lib.hid (by rw [upd_at]; exact all_set (i := i) HA3.out rfl)
              have hid2 : k < n1 := hlt2
              clear hoc hx hlen hcc1
              go_wp2_with fail
              go_roundw
              case rel => exact ⟨k + 1, _, by go_num, by omega, HN.out, HN2.out, HN3.out⟩
              case measure => simp [intOf]; omega
            case neg =>
              have HAll : Hid (∀ x ∈ cl2 i, x.u = (i : Int)) := Lib.hid (mem_all HA3.out (by rw [hoc.rd.1]; omega))
              have hbn : Below U0.heap.size U0 (U0.alloc (.cells #[.slice A1 n1 c1] 58)) := (Below.refl _ _).alloc (Nat.le_refl _) _
              have HBn := Lib.hid hbn
              have hov : slmR.Own U0 B (.slice Aq nr cq) ((List.range i).map ms0) := HFu.out.own .vo
              have HOv := Lib.hid hov
              have HBu : Hid (B ≤ U0.heap.size) := Lib.hid (Nat.le_trans HBB.out HFu.out.only.size)
              clear hov hbn hoc
              go_wp2_with (at_builtin; refine Row.app slmR (U0.alloc (.cells #[.slice A1 n1 c1] 58)) rfl (.tmp 87) (.tmp 94) rfl B (.slice Aq nr cq) ((List.range i).map ms0) rfl (HOv.out.below HBn.out) (U0.heap.size + 1) (some ⟨U0.heap.size, 0, none⟩) 1 [⟨A1, n1, c1⟩] 1 rfl (Row.reads_new slmR U0 #[.slice A1 n1 c1] 58 [⟨A1, n1, c1⟩] rfl) (by { show (((List.range i).map ms0).length + 1) * 24 ≤ _; simp; omega }) (by { have h1 := HBn.out.size; have h2 := HBu.out; omega }) ?_; intro v8 V8 ho8 hg8 hl8; obtain ⟨A8, c8, e8⟩ := ho8.slk (k := i + 1) (by simp); subst e8; have HN : Hid (Fam W1 S V8 ((⟨⟨Ao, n, co⟩, os, ⟨some ⟨gr, 0, none⟩, m, ce⟩, es, ⟨Aa, na, ca⟩, as_, ⟨Ag, ng, cg⟩, gs, ⟨Ar, n, cr⟩, (List.range n).map cs0, ⟨A8, i + 1, c8⟩, (List.range (i + 1)).map ms0, cs0, cl1, ms0, cl2⟩ : Sp).fam B)) := Lib.hid (by { have h := HFu.out.app .vo (R := slmR) (B := B) (v := .slice Aq nr cq) (v' := Sl.val ⟨A8, i + 1, c8⟩) rfl HBn.out ho8 hg8 hl8; rw [up_vo] at h; rw [map_range_snoc, HSi.out]; exact h }); clear ho8 hg8 hl8)
              go_roundw
              case rel =>
                refine ⟨i + 1, ⟨A8, i + 1, c8⟩, cl2, by go_num, by omega, rfl, HN.out, fun j hj => ?_⟩
                rcases Nat.lt_or_ge j i with h | h
                · exact HA2.out j h
                · obtain rfl : j = i := by omega
                  exact HAll.out
              case measure => simp [intOf]; omega
        case neg =>
          have hnr : nr = m := by
            have h : slmR.Own V0 B (Sl.val ⟨Aq, nr, cq⟩) ((List.range i).map ms0) := HF.out.own .vo
            have h1 := h.rd.1
            simp at h1
            omega
          have hin2 : i = m := by omega
          have HF2 : Hid (Fam W1 S V0 ((⟨⟨Ao, n, co⟩, os, ⟨Ae, m, ce⟩, es, ⟨Aa, na, ca⟩, as_, ⟨Ag, ng, cg⟩, gs, ⟨Ar, n, cr⟩, (List.range n).map cs0, ⟨Aq, m, cq⟩, (List.range m).map ms0, cs0, cl1, ms0, cl⟩ : Sp).fam B)) := Lib.hid (by have h := HF.out; rw [hnr, hin2] at h; exact h)
          have HA2 : Hid (∀ j, j < m → ∀ x ∈ cl j, x.u = (j : Int)) := Lib.hid (fun j hj => HA.out j (by omega))
          have HH : Hid (∃ f, f = cl) := Lib.hid ⟨_, rfl⟩
          obtain ⟨ml1, hcl⟩ : ∃ f : Nat → List Mg, f = cl := ⟨_, rfl⟩
          rw [← hcl] at HF2 HA2
          have HAml1 := Lib.hid HA2.out
          have HFn := Lib.hid HF2.out
          clear HF HA HF2 HA2 hcl HH hin2
          have hnr2 := hnr.symm
          clear hnr
          subst hnr2
          have HF := Lib.hid HFn.out
          clear HFn
          have LCml1 : Hid (∀ j, (ml1 j).length ≤ 3518437208780) := Lib.hid (fun j => by
            have h : mgR.Own V0 B (ms0 j).val (ml1 j) := HF.out.own (.m j)
            have h2 : mgR.Own W1 B (ms0 j).val (ml0 j) := HF0.out.own (.m j)
            have e1 := Row.Own.rd h
            have e2 := Row.Own.rd h2
            have e3 := M2.out j
            omega)
          go_wp2_with fail
          go_loopw [99] (fun j wr => ∃ (i : Nat) (cs : Nat → Sl) (cl : Nat → List Ce), j = .int .i64 i ∧ i ≤ n ∧ Fam W1 S wr ((⟨⟨Ao, n, co⟩, os, ⟨Ae, m, ce⟩, es, ⟨Aa, na, ca⟩, as_, ⟨Ag, ng, cg⟩, gs, ⟨Ar, n, cr⟩, (List.range n).map cs, ⟨Aq, m, cq⟩, (List.range m).map ms0, cs, cl, ms0, ml1⟩ : Sp).fam B) ∧ (∀ j, j < n → ∀ x ∈ cl j, x.n = (j : Int)) ∧ (∀ j, (cl j).length ≤ 4398046510988) ∧ ∀ j, i ≤ j → (cl j).length ≤ 4398046510976) (fun j _ => n - (intOf j).toNat)
          case atStart => exact ⟨0, cs0, cl1, rfl, by omega, HF.out, HAcl1.out, fun j => Nat.le_trans (LCcl1.out j) (by omega), fun j _ => LCcl1.out j⟩
          case round =>
            obtain ⟨i, cs, cl, rfl, hi, hF, hA, hc1, hc2⟩ := hrel
            obtain ⟨V0, rfl⟩ : ∃ V : World, V = wr := ⟨_, rfl⟩
            clear HF
            have HF := Lib.hid hF
            have HA := Lib.hid hA
            have HC1 := Lib.hid hc1
            have HC2 := Lib.hid hc2
            clear hF hA hc1 hc2
            by_cases hlt : i < n
            case pos =>
              have hov : slcR.Own V0 B (.slice Ar n cr) ((List.range n).map cs) := HF.out.own .vr
              obtain ⟨gv, rfl, -, -, hcc, -, -⟩ := hov.cell (show 0 < n by omega)
              have HCc := Lib.hid hcc
              have hid1 : i < n := hlt
              clear hov hcc
              go_wp2_with fail
              go_loopw [10] (fun z wr => ∃ (t : Nat) (cs2 : Nat → Sl) (cl2 : Nat → List Ce), z = .int .i64 t ∧ t ≤ 12 ∧ Fam W1 S wr ((⟨⟨Ao, n, co⟩, os, ⟨Ae, m, ce⟩, es, ⟨Aa, na, ca⟩, as_, ⟨Ag, ng, cg⟩, gs, ⟨some ⟨gv, 0, none⟩, n, cr⟩, (List.range n).map cs2, ⟨Aq, m, cq⟩, (List.range m).map ms0, cs2, cl2, ms0, ml1⟩ : Sp).fam B) ∧ (∀ j, j < n → ∀ x ∈ cl2 j, x.n = (j : Int)) ∧ (∀ j, (cl2 j).length ≤ 4398046510988) ∧ (∀ j, i + 1 ≤ j → (cl2 j).length ≤ 4398046510976) ∧ (cl2 i).length ≤ 4398046510976 + t) (fun z _ => 12 - (intOf z).toNat)
              case atStart => exact ⟨0, cs, cl, rfl, by omega, HF.out, HA.out, HC1.out, fun j hj => HC2.out j (by omega), HC2.out i (Nat.le_refl _)⟩
              case round =>
                obtain ⟨t, cs2, cl2, rfl, ht, hFu, hA2, hc1, hc2, hc3⟩ := hrel
                obtain ⟨U0, rfl⟩ : ∃ V : World, V = wr := ⟨_, rfl⟩
                have HFu := Lib.hid hFu
                have HA2 := Lib.hid hA2
                have HD1 := Lib.hid hc1
                have HD2 := Lib.hid hc2
                have HD3 := Lib.hid hc3
                clear hFu hA2 hc1 hc2 hc3
                by_cases hlt2 : t < 12
                case pos =>
                  have hov : slcR.Own U0 B (.slice (some ⟨gv, 0, none⟩) n cr) ((List.range n).map cs2) := HFu.out.own .vr
                  have e2 := hov.at_ (map_range_at cs2 hlt) (j := 0) rfl
                  rcases hsi : cs2 i with ⟨A1, n1, c1⟩
                  rw [hsi] at e2
                  simp only [slcR, Sl.val, Nat.mul_one, Nat.add_zero] at e2
                  have HSi := Lib.hid hsi
                  have hoc0 : ceR.Own U0 B (cs2 i).val (cl2 i) := HFu.out.own (.c i)
                  rw [hsi] at hoc0
                  have hoc : ceR.Own U0 B (.slice A1 n1 c1) (cl2 i) := hoc0
                  have HLn : Hid ((cl2 i).length = n1) := Lib.hid hoc.rd.1
                  have hn1b : n1 ≤ 4398046510976 + t := by rw [← HLn.out]; exact HD3.out
                  have HOc := Lib.hid hoc
                  have hbn : Below U0.heap.size U0 (U0.alloc (.cells #[.int .i64 (i : Int), .int .i64 0, .int .i64 0, .int .i64 0] 57)) := (Below.refl _ _).alloc (Nat.le_refl _) _
                  have HBn := Lib.hid hbn
                  have HBu : Hid (B ≤ U0.heap.size) := Lib.hid (Nat.le_trans HBB.out HFu.out.only.size)
                  have hid2 : t < 12 := hlt2
                  have m1 : i < n := hid1
                  clear hov hsi hoc0 hoc hbn
                  go_wp2_with (at_builtin; refine Row.app ceR (U0.alloc (.cells #[.int .i64 (i : Int), .int .i64 0, .int .i64 0, .int .i64 0] 57)) rfl (.tmp 111) (.tmp 114) rfl B (.slice A1 n1 c1) (cl2 i) rfl (HOc.out.below HBn.out) (U0.heap.size + 1) (some ⟨U0.heap.size, 0, none⟩) 1 [⟨(i : Int), 0, 0, 0⟩] 1 rfl (Row.reads_new ceR U0 #[.int .i64 (i : Int), .int .i64 0, .int .i64 0, .int .i64 0] 57 [⟨(i : Int), 0, 0, 0⟩] rfl) (by { show ((cl2 i).length + 1) * 32 ≤ _; rw [HLn.out]; omega }) (by { have h1 := HBn.out.size; have h2 := HBu.out; omega }) ?_; intro v8 V8 ho8 hg8 hl8; obtain ⟨A8, c8, e8⟩ := ho8.slk (k := n1 + 1) (by { have := HLn.out; simp; omega }); subst e8; have HN : Hid (Fam W1 S V8 ((⟨⟨Ao, n, co⟩, os, ⟨Ae, m, ce⟩, es, ⟨Aa, na, ca⟩, as_, ⟨Ag, ng, cg⟩, gs, ⟨some ⟨gv, 0, none⟩, n, cr⟩, (List.range n).map cs2, ⟨Aq, m, cq⟩, (List.range m).map ms0, (upd cs2 i ⟨A8, n1 + 1, c8⟩), (upd cl2 i (cl2 i ++ [⟨(i : Int), 0, 0, 0⟩])), ms0, ml1⟩ : Sp).fam B)) := Lib.hid (by { have h := HFu.out.app (.c i) (R := ceR) (B := B) (v := .slice A1 n1 c1) (v' := Sl.val ⟨A8, n1 + 1, c8⟩) (l := cl2 i) (by { show ceR.item B (cs2 i).val _ = _; rw [HSi.out]; rfl }) HBn.out ho8 hg8 hl8; rw [up_c] at h; exact h }); have hov8 : slcR.Own V8 B (.slice (some ⟨gv, 0, none⟩) n cr) ((List.range n).map cs2) := HN.out.own .vr; have j1 := hov8.at_ (map_range_at cs2 m1) (j := 0) rfl; have j2 := hov8.fz_ (show 0 < n by omega) (i * 1 + 0); rw [HSi.out] at j1; simp only [slcR, Sl.val, Nat.mul_one, Nat.add_zero] at j1 j2; clear ho8 hg8 hl8 hov8)
                  have HN2 : Hid (Fam W1 S (V8.setCell ⟨gv, i, none⟩ (.slice A8 (n1 + 1) c8)) ((⟨⟨Ao, n, co⟩, os, ⟨Ae, m, ce⟩, es, ⟨Aa, na, ca⟩, as_, ⟨Ag, ng, cg⟩, gs, ⟨some ⟨gv, 0, none⟩, n, cr⟩, (List.range n).map (upd cs2 i ⟨A8, n1 + 1, c8⟩), ⟨Aq, m, cq⟩, (List.range m).map ms0, (upd cs2 i ⟨A8, n1 + 1, c8⟩), (upd cl2 i (cl2 i ++ [⟨(i : Int), 0, 0, 0⟩])), ms0, ml1⟩ : Sp).fam B)) := Lib.hid (by
                    have h := HN.out.put .vr (B := B) (R := slcR) (g := gv) (n := n) (c := cr) (i := i) (l := (List.range n).map cs2) rfl HCc.out (map_range_at cs2 m1) ⟨A8, n1 + 1, c8⟩
                    rw [show (Value.slice (some ⟨gv, 0, none⟩) n cr) = (Sl.mk (some ⟨gv, 0, none⟩) n cr).val from rfl, up_vr, ← range_upd] at h
                    have e : putC V8 gv (i * slcR.k) (slcR.enc ⟨A8, n1 + 1, c8⟩) = V8.setCell ⟨gv, i, none⟩ (.slice A8 (n1 + 1) c8) := by show V8.setCell ⟨gv, i * 1, none⟩ _ = _; rw [Nat.mul_one]; rfl
                    rw [e] at h
                    exact h)
                  have HA9 : Hid (∀ j, j < n → ∀ x ∈ upd cl2 i (cl2 i ++ [⟨(i : Int), 0, 0, 0⟩]) j, x.n = (j : Int)) := Lib.hid (fun j hj => by
                    by_cases e : j = i
                    · subst e; rw [upd_at]; exact mem_snoc (HA2.out j hj) rfl
                    · rw [upd_ne _ _ e]; exact HA2.out j hj)
                  have HL9 : Hid (∀ j, j ≠ i → upd cl2 i (cl2 i ++ [⟨(i : Int), 0, 0, 0⟩]) j = cl2 j) := Lib.hid (fun j e => upd_ne _ _ e)
                  have HL8 : Hid ((upd cl2 i (cl2 i ++ [⟨(i : Int), 0, 0, 0⟩]) i).length = n1 + 1) := Lib.hid (by rw [upd_at, List.length_append, HLn.out]; rfl)
                  go_roundw
                  case rel =>
                    refine ⟨t + 1, _, _, by go_num, by omega, HN2.out, HA9.out, fun j => ?_, fun j hj => ?_, ?_⟩
                    · by_cases e : j = i
                      · subst e; rw [HL8.out]; omega
                      · rw [HL9.out j e]; exact HD1.out j
                    · rw [HL9.out j (by omega)]; exact HD2.out j hj
                    · rw [HL8.out]; omega
                  case measure => simp [intOf]; omega
                case neg =>
                  go_wp2_with fail
                  go_roundw
                  case rel => exact ⟨i + 1, cs2, cl2, by go_num, by omega, HFu.out, HA2.out, HD1.out, HD2.out⟩
                  case measure => simp [intOf]; omega
            case neg =>
              obtain ⟨cs3, hq1⟩ : ∃ f : Nat → Sl, f = cs := ⟨_, rfl⟩
              obtain ⟨cl3, hq2⟩ : ∃ f : Nat → List Ce, f = cl := ⟨_, rfl⟩
              have HFn : Hid (Fam W1 S V0 ((⟨⟨Ao, n, co⟩, os, ⟨Ae, m, ce⟩, es, ⟨Aa, na, ca⟩, as_, ⟨Ag, ng, cg⟩, gs, ⟨Ar, n, cr⟩, (List.range n).map cs3, ⟨Aq, m, cq⟩, (List.range m).map ms0, cs3, cl3, ms0, ml1⟩ : Sp).fam B)) := Lib.hid (by rw [hq1, hq2]; exact HF.out)
              have HAcl3 : Hid (∀ j, j < n → ∀ x ∈ cl3 j, x.n = (j : Int)) := Lib.hid (by rw [hq2]; exact HA.out)
              have LDcl3 : Hid (∀ j, (cl3 j).length ≤ 4398046510988) := Lib.hid (by rw [hq2]; exact HC1.out)
              clear HF HA HC1 HC2 hq1 hq2
              have HF := Lib.hid HFn.out
              clear HFn
              go_wp2_with fail
              go_loopw [120] (fun j wr => ∃ (i : Nat) (cs : Nat → Sl) (cl : Nat → List Mg), j = .int .i64 i ∧ i ≤ m ∧ Fam W1 S wr ((⟨⟨Ao, n, co⟩, os, ⟨Ae, m, ce⟩, es, ⟨Aa, na, ca⟩, as_, ⟨Ag, ng, cg⟩, gs, ⟨Ar, n, cr⟩, (List.range n).map cs3, ⟨Aq, m, cq⟩, (List.range m).map cs, cs3, cl3, cs, cl⟩ : Sp).fam B) ∧ (∀ j, j < m → ∀ x ∈ cl j, x.u = (j : Int)) ∧ (∀ j, (cl j).length ≤ 3518437208792) ∧ ∀ j, i ≤ j → (cl j).length ≤ 3518437208780) (fun j _ => m - (intOf j).toNat)
              case atStart => exact ⟨0, ms0, ml1, rfl, by omega, HF.out, HAml1.out, fun j => Nat.le_trans (LCml1.out j) (by omega), fun j _ => LCml1.out j⟩
              case round =>
                obtain ⟨i, cs, cl, rfl, hi, hF, hA, hc1, hc2⟩ := hrel
                obtain ⟨V0, rfl⟩ : ∃ V : World, V = wr := ⟨_, rfl⟩
                clear HF
                have HF := Lib.hid hF
                have HA := Lib.hid hA
                have HC1 := Lib.hid hc1
                have HC2 := Lib.hid hc2
                clear hF hA hc1 hc2
                by_cases hlt : i < m
                case pos =>
                  have hov : slmR.Own V0 B (.slice Aq m cq) ((List.range m).map cs) := HF.out.own .vo
                  obtain ⟨gv, rfl, -, -, hcc, -, -⟩ := hov.cell (show 0 < m by omega)
                  have HCc := Lib.hid hcc
                  have hid1 : i < m := hlt
                  clear hov hcc
                  go_wp2_with fail
                  go_loopw [12] (fun z wr => ∃ (t : Nat) (cs2 : Nat → Sl) (cl2 : Nat → List Mg), z = .int .i64 t ∧ t ≤ 12 ∧ Fam W1 S wr ((⟨⟨Ao, n, co⟩, os, ⟨Ae, m, ce⟩, es, ⟨Aa, na, ca⟩, as_, ⟨Ag, ng, cg⟩, gs, ⟨Ar, n, cr⟩, (List.range n).map cs3, ⟨some ⟨gv, 0, none⟩, m, cq⟩, (List.range m).map cs2, cs3, cl3, cs2, cl2⟩ : Sp).fam B) ∧ (∀ j, j < m → ∀ x ∈ cl2 j, x.u = (j : Int)) ∧ (∀ j, (cl2 j).length ≤ 3518437208792) ∧ (∀ j, i + 1 ≤ j → (cl2 j).length ≤ 3518437208780) ∧ (cl2 i).length ≤ 3518437208780 + t) (fun z _ => 12 - (intOf z).toNat)
                  case atStart => exact ⟨0, cs, cl, rfl, by omega, HF.out, HA.out, HC1.out, fun j hj => HC2.out j (by omega), HC2.out i (Nat.le_refl _)⟩
                  case round =>
                    obtain ⟨t, cs2, cl2, rfl, ht, hFu, hA2, hc1, hc2, hc3⟩ := hrel
                    obtain ⟨U0, rfl⟩ : ∃ V : World, V = wr := ⟨_, rfl⟩
                    have HFu := Lib.hid hFu
                    have HA2 := Lib.hid hA2
                    have HD1 := Lib.hid hc1
                    have HD2 := Lib.hid hc2
                    have HD3 := Lib.hid hc3
                    clear hFu hA2 hc1 hc2 hc3
                    by_cases hlt2 : t < 12
                    case pos =>
                      have hov : slmR.Own U0 B (.slice (some ⟨gv, 0, none⟩) m cq) ((List.range m).map cs2) := HFu.out.own .vo
                      have e2 := hov.at_ (map_range_at cs2 hlt) (j := 0) rfl
                      rcases hsi : cs2 i with ⟨A1, n1, c1⟩
                      rw [hsi] at e2
                      simp only [slmR, Sl.val, Nat.mul_one, Nat.add_zero] at e2
                      have HSi := Lib.hid hsi
                      have hoc0 : mgR.Own U0 B (cs2 i).val (cl2 i) := HFu.out.own (.m i)
                      rw [hsi] at hoc0
                      have hoc : mgR.Own U0 B (.slice A1 n1 c1) (cl2 i) := hoc0
                      have HLn : Hid ((cl2 i).length = n1) := Lib.hid hoc.rd.1
                      have hn1b : n1 ≤ 3518437208780 + t := by rw [← HLn.out]; exact HD3.out
                      have HOc := Lib.hid hoc
                      have hbn : Below U0.heap.size U0 (U0.alloc (.cells #[.int .i64 0, .int .i64 0, .int .i64 0, .int .i64 (i : Int), .int .i64 0] 45)) := (Below.refl _ _).alloc (Nat.le_refl _) _
                      have HBn := Lib.hid hbn
                      have HBu : Hid (B ≤ U0.heap.size) := Lib.hid (Nat.le_trans HBB.out HFu.out.only.size)
                      have hid2 : t < 12 := hlt2
                      have m1 : i < m := hid1
                      clear hov hsi hoc0 hoc hbn
                      go_wp2_with (at_builtin; refine Row.app mgR (U0.alloc (.cells #[.int .i64 0, .int .i64 0, .int .i64 0, .int .i64 (i : Int), .int .i64 0] 45)) rfl (.tmp 132) (.tmp 135) rfl B (.slice A1 n1 c1) (cl2 i) rfl (HOc.out.below HBn.out) (U0.heap.size + 1) (some ⟨U0.heap.size, 0, none⟩) 1 [⟨0, 0, 0, (i : Int), 0⟩] 1 rfl (Row.reads_new mgR U0 #[.int .i64 0, .int .i64 0, .int .i64 0, .int .i64 (i : Int), .int .i64 0] 45 [⟨0, 0, 0, (i : Int), 0⟩] rfl) (by { show ((cl2 i).length + 1) * 40 ≤ _; rw [HLn.out]; omega }) (by { have h1 := HBn.out.size; have h2 := HBu.out; omega }) ?_; intro v8 V8 ho8 hg8 hl8; obtain ⟨A8, c8, e8⟩ := ho8.slk (k := n1 + 1) (by { have := HLn.out; simp; omega }); subst e8; have HN : Hid (Fam W1 S V8 ((⟨⟨Ao, n, co⟩, os, ⟨Ae, m, ce⟩, es, ⟨Aa, na, ca⟩, as_, ⟨Ag, ng, cg⟩, gs, ⟨Ar, n, cr⟩, (List.range n).map cs3, ⟨some ⟨gv, 0, none⟩, m, cq⟩, (List.range m).map cs2, cs3, cl3, (upd cs2 i ⟨A8, n1 + 1, c8⟩), (upd cl2 i (cl2 i ++ [⟨0, 0, 0, (i : Int), 0⟩]))⟩ : Sp).fam B)) := Lib.hid (by { have h := HFu.out.app (.m i) (R := mgR) (B := B) (v := .slice A1 n1 c1) (v' := Sl.val ⟨A8, n1 + 1, c8⟩) (l := cl2 i) (by { show mgR.item B (cs2 i).val _ = _; rw [HSi.out]; rfl }) HBn.out ho8 hg8 hl8; rw [up_m] at h; exact h }); have hov8 : slmR.Own V8 B (.slice (some ⟨gv, 0, none⟩) m cq) ((List.range m).map cs2) := HN.out.own .vo; have j1 := hov8.at_ (map_range_at cs2 m1) (j := 0) rfl; have j2 := hov8.fz_ (show 0 < m by omega) (i * 1 + 0); rw [HSi.out] at j1; simp only [slmR, Sl.val, Nat.mul_one, Nat.add_zero] at j1 j2; clear ho8 hg8 hl8 hov8)
                      have HN2 : Hid (Fam W1 S (V8.setCell ⟨gv, i, none⟩ (.slice A8 (n1 + 1) c8)) ((⟨⟨Ao, n, co⟩, os, ⟨Ae, m, ce⟩, es, ⟨Aa, na, ca⟩, as_, ⟨Ag, ng, cg⟩, gs, ⟨Ar, n, cr⟩, (List.range n).map cs3, ⟨some ⟨gv, 0, none⟩, m, cq⟩, (List.range m).map (upd cs2 i ⟨A8, n1 + 1, c8⟩), cs3, cl3, (upd cs2 i ⟨A8, n1 + 1, c8⟩), (upd cl2 i (cl2 i ++ [⟨0, 0, 0, (i : Int), 0⟩]))⟩ : Sp).fam B)) := Lib.hid (by
                        have h := HN.out.put .vo (B := B) (R := slmR) (g := gv) (n := m) (c := cq) (i := i) (l := (List.range m).map cs2) rfl HCc.out (map_range_at cs2 m1) ⟨A8, n1 + 1, c8⟩
                        rw [show (Value.slice (some ⟨gv, 0, none⟩) m cq) = (Sl.mk (some ⟨gv, 0, none⟩) m cq).val from rfl, up_vo, ← range_upd] at h
                        have e : putC V8 gv (i * slmR.k) (slmR.enc ⟨A8, n1 + 1, c8⟩) = V8.setCell ⟨gv, i, none⟩ (.slice A8 (n1 + 1) c8) := by show V8.setCell ⟨gv, i * 1, none⟩ _ = _; rw [Nat.mul_one]; rfl
                        rw [e] at h
                        exact h)
                      have HA9 : Hid (∀ j, j < m → ∀ x ∈ upd cl2 i (cl2 i ++ [⟨0, 0, 0, (i : Int), 0⟩]) j, x.u = (j : Int)) := Lib.hid (fun j hj => by
                        by_cases e : j = i
                        · subst e; rw [upd_at]; exact mem_snoc (HA2.out j hj) rfl
                        · rw [upd_ne _ _ e]; exact HA2.out j hj)
                      have HL9 : Hid (∀ j, j ≠ i → upd cl2 i (cl2 i ++ [⟨0, 0, 0, (i : Int), 0⟩]) j = cl2 j) := Lib.hid (fun j e => upd_ne _ _ e)
                      have HL8 : Hid ((upd cl2 i (cl2 i ++ [⟨0, 0, 0, (i : Int), 0⟩]) i).length = n1 + 1) := Lib.hid (by rw [upd_at, List.length_append, HLn.out]; rfl)
                      go_roundw
                      case rel =>
                        refine ⟨t + 1, _, _, by go_num, by omega, HN2.out, HA9.out, fun j => ?_, fun j hj => ?_, ?_⟩
                        · by_cases e : j = i
                          · subst e; rw [HL8.out]; omega
                          · rw [HL9.out j e]; exact HD1.out j
                        · rw [HL9.out j (by omega)]; exact HD2.out j hj
                        · rw [HL8.out]; omega
                      case measure => simp [intOf]; omega
                    case neg =>
                      go_wp2_with fail
                      go_roundw
                      case rel => exact ⟨i + 1, cs2, cl2, by go_num, by omega, HFu.out, HA2.out, HD1.out, HD2.out⟩
                      case measure => simp [intOf]; omega
                case neg =>
                  obtain ⟨ms3, hq1⟩ : ∃ f : Nat → Sl, f = cs := ⟨_, rfl⟩
                  obtain ⟨ml3, hq2⟩ : ∃ f : Nat → List Mg, f = cl := ⟨_, rfl⟩
                  have HFn : Hid (Fam W1 S V0 ((⟨⟨Ao, n, co⟩, os, ⟨Ae, m, ce⟩, es, ⟨Aa, na, ca⟩, as_, ⟨Ag, ng, cg⟩, gs, ⟨Ar, n, cr⟩, (List.range n).map cs3, ⟨Aq, m, cq⟩, (List.range m).map ms3, cs3, cl3, ms3, ml3⟩ : Sp).fam B)) := Lib.hid (by rw [hq1, hq2]; exact HF.out)
                  have HAml3 : Hid (∀ j, j < m → ∀ x ∈ ml3 j, x.u = (j : Int)) := Lib.hid (by rw [hq2]; exact HA.out)
                  have LDml3 : Hid (∀ j, (ml3 j).length ≤ 3518437208792) := Lib.hid (by rw [hq2]; exact HC1.out)
                  clear HF HA HC1 HC2 hq1 hq2
                  have HF := Lib.hid HFn.out
                  clear HFn
                  go_wp2_with fail
                  go_loopw [141] (fun j wr => ∃ (i : Nat), j = .int .i64 i ∧ i ≤ n ∧ Fam W1 S wr ((⟨⟨Ao, n, co⟩, os, ⟨Ae, m, ce⟩, es, ⟨Aa, na, ca⟩, as_, ⟨Ag, ng, cg⟩, gs, ⟨Ar, n, cr⟩, (List.range n).map cs3, ⟨Aq, m, cq⟩, (List.range m).map ms3, cs3, cl3, ms3, ml3⟩ : Sp).fam B)) (fun j _ => n - (intOf j).toNat)
                  case atStart => exact ⟨0, rfl, by omega, HF.out⟩
                  case round =>
                    obtain ⟨i, rfl, hi, hF⟩ := hrel
                    obtain ⟨V0, rfl⟩ : ∃ V : World, V = wr := ⟨_, rfl⟩
                    clear HF
                    have HF := Lib.hid hF
                    clear hF
                    by_cases hlt : i < n
                    case pos =>
                      have hov : slcR.Own V0 B (.slice Ar n cr) ((List.range n).map cs3) := HF.out.own .vr
                      obtain ⟨gv, rfl, -, -, -, -, -⟩ := hov.cell (show 0 < n by omega)
                      have e2 := hov.at_ (map_range_at cs3 hlt) (j := 0) rfl
                      rcases hsi : cs3 i with ⟨A1, n1, c1⟩
                      rw [hsi] at e2
                      simp only [slcR, Sl.val, Nat.mul_one, Nat.add_zero] at e2
                      have HSi := Lib.hid hsi
                      have hlr : (cl3 i).length = n1 := by
                        have h : ceR.Own V0 B (cs3 i).val (cl3 i) := HF.out.own (.c i)
                        rw [hsi] at h
                        exact h.rd.1
                      have hn1 : n1 ≤ 4398046510988 := by rw [← hlr]; exact LDcl3.out i
                      have HLr := Lib.hid hlr
                      have hid1 : i < n := hlt
                      clear hov hsi hlr
                      go_wp2_with fail
                      clear e2
                      go_loopw [149] (fun j wr => ∃ (k : Nat), j = .int .i64 k ∧ k ≤ n1 ∧ Fam W1 S wr ((⟨⟨Ao, n, co⟩, os, ⟨Ae, m, ce⟩, es, ⟨Aa, na, ca⟩, as_, ⟨Ag, ng, cg⟩, gs, ⟨some ⟨gv, 0, none⟩, n, cr⟩, (List.range n).map cs3, ⟨Aq, m, cq⟩, (List.range m).map ms3, cs3, cl3, ms3, ml3⟩ : Sp).fam B)) (fun j _ => n1 - (intOf j).toNat)
                      case atStart => exact ⟨0, rfl, by omega, HF.out⟩
                      case round =>
                        obtain ⟨k, rfl, hk, hFu⟩ := hrel
                        obtain ⟨U0, rfl⟩ : ∃ V : World, V = wr := ⟨_, rfl⟩
                        have HFu := Lib.hid hFu
                        clear hFu
                        by_cases hlt2 : k < n1
                        case pos =>
                          have hoc0 : ceR.Own U0 B (cs3 i).val (cl3 i) := HFu.out.own (.c i)
                          rw [HSi.out] at hoc0
                          have hoc : ceR.Own U0 B (.slice A1 n1 c1) (cl3 i) := hoc0
                          obtain ⟨gc, rfl, -, -, -, -, -⟩ := hoc.cell (show 0 < n1 by omega)
                          obtain ⟨x, hx⟩ : ∃ x, (cl3 i)[k]? = some x := ⟨_, List.getElem?_eq_getElem (by rw [HLr.out]; exact hlt2)⟩
                          have hxn := HAcl3.out i hid1 x (List.mem_of_getElem? hx)
                          have f0 := hoc.at_ hx (j := 0) rfl
                          have f1 := hoc.at_ hx (j := 1) rfl
                          have f2 := hoc.at_ hx (j := 2) rfl
                          have f3 := hoc.at_ hx (j := 3) rfl
                          obtain ⟨xa, xb, xc, xd⟩ := x
                          simp only [ceR, Nat.add_zero] at f0 f1 f2 f3
                          have tn : (xa != (i : Int)) = false := by have h : xa = (i : Int) := hxn; simp [h]
                          have HN : Hid (Fam W1 S (U0.alloc (.cells #[.int .i64 xa, .int .i64 xb, .int .i64 xc, .int .i64 xd] 57)) ((⟨⟨Ao, n, co⟩, os, ⟨Ae, m, ce⟩, es, ⟨Aa, na, ca⟩, as_, ⟨Ag, ng, cg⟩, gs, ⟨some ⟨gv, 0, none⟩, n, cr⟩, (List.range n).map cs3, ⟨Aq, m, cq⟩, (List.range m).map ms3, cs3, cl3, ms3, ml3⟩ : Sp).fam B)) := Lib.hid (HFu.out.below ((Below.refl _ _).alloc (Nat.le_refl _) _))
                          have hid2 : k < n1 := hlt2
                          clear hoc0 hoc hx hxn
                          go_wp2_with fail
                          go_roundw
                          case rel => exact ⟨k + 1, by go_num, by omega, HN.out⟩
                          case measure => simp [intOf]; omega
                        case neg =>
                          go_wp2_with fail
                          go_roundw
                          case rel => exact ⟨i + 1, by go_num, by omega, HFu.out⟩
                          case measure => simp [intOf]; omega
                    case neg =>
                      go_wp2_with fail
                      go_loopw [161] (fun j wr => ∃ (i : Nat), j = .int .i64 i ∧ i ≤ m ∧ Fam W1 S wr ((⟨⟨Ao, n, co⟩, os, ⟨Ae, m, ce⟩, es, ⟨Aa, na, ca⟩, as_, ⟨Ag, ng, cg⟩, gs, ⟨Ar, n, cr⟩, (List.range n).map cs3, ⟨Aq, m, cq⟩, (List.range m).map ms3, cs3, cl3, ms3, ml3⟩ : Sp).fam B)) (fun j _ => m - (intOf j).toNat)
                      case atStart => exact ⟨0, rfl, by omega, HF.out⟩
                      case round =>
                        obtain ⟨i, rfl, hi, hF⟩ := hrel
                        obtain ⟨V0, rfl⟩ : ∃ V : World, V = wr := ⟨_, rfl⟩
                        clear HF
                        have HF := Lib.hid hF
                        clear hF
                        by_cases hlt : i < m
                        case pos =>
                          have hov : slmR.Own V0 B (.slice Aq m cq) ((List.range m).map ms3) := HF.out.own .vo
                          obtain ⟨gv, rfl, -, -, -, -, -⟩ := hov.cell (show 0 < m by omega)
                          have e2 := hov.at_ (map_range_at ms3 hlt) (j := 0) rfl
                          rcases hsi : ms3 i with ⟨A1, n1, c1⟩
                          rw [hsi] at e2
                          simp only [slmR, Sl.val, Nat.mul_one, Nat.add_zero] at e2
                          have HSi := Lib.hid hsi
                          have hlr : (ml3 i).length = n1 := by
                            have h : mgR.Own V0 B (ms3 i).val (ml3 i) := HF.out.own (.m i)
                            rw [hsi] at h
                            exact h.rd.1
                          have hn1 : n1 ≤ 3518437208792 := by rw [← hlr]; exact LDml3.out i
                          have HLr := Lib.hid hlr
                          have hid1 : i < m := hlt
                          clear hov hsi hlr
                          go_wp2_with fail
                          clear e2
                          go_loopw [169] (fun j wr => ∃ (k : Nat), j = .int .i64 k ∧ k ≤ n1 ∧ Fam W1 S wr ((⟨⟨Ao, n, co⟩, os, ⟨Ae, m, ce⟩, es, ⟨Aa, na, ca⟩, as_, ⟨Ag, ng, cg⟩, gs, ⟨Ar, n, cr⟩, (List.range n).map cs3, ⟨some ⟨gv, 0, none⟩, m, cq⟩, (List.range m).map ms3, cs3, cl3, ms3, ml3⟩ : Sp).fam B)) (fun j _ => n1 - (intOf j).toNat)
                          case atStart => exact ⟨0, rfl, by omega, HF.out⟩
                          case round =>
                            obtain ⟨k, rfl, hk, hFu⟩ := hrel
                            obtain ⟨U0, rfl⟩ : ∃ V : World, V = wr := ⟨_, rfl⟩
                            have HFu := Lib.hid hFu
                            clear hFu
                            by_cases hlt2 : k < n1
                            case pos =>
                              have hoc0 : mgR.Own U0 B (ms3 i).val (ml3 i) := HFu.out.own (.m i)
                              rw [HSi.out] at hoc0
                              have hoc : mgR.Own U0 B (.slice A1 n1 c1) (ml3 i) := hoc0
                              obtain ⟨gc, rfl, -, -, -, -, -⟩ := hoc.cell (show 0 < n1 by omega)
                              obtain ⟨x, hx⟩ : ∃ x, (ml3 i)[k]? = some x := ⟨_, List.getElem?_eq_getElem (by rw [HLr.out]; exact hlt2)⟩
                              have hxn := HAml3.out i hid1 x (List.mem_of_getElem? hx)
                              have f0 := hoc.at_ hx (j := 0) rfl
                              have f1 := hoc.at_ hx (j := 1) rfl
                              have f2 := hoc.at_ hx (j := 2) rfl
                              have f3 := hoc.at_ hx (j := 3) rfl
                              have f4 := hoc.at_ hx (j := 4) rfl
                              obtain ⟨xa, xb, xc, xd, xe⟩ := x
                              simp only [mgR, Nat.add_zero] at f0 f1 f2 f3 f4
                              have tn : (xd != (i : Int)) = false := by have h : xd = (i : Int) := hxn; simp [h]
                              have HN : Hid (Fam W1 S (U0.alloc (.cells #[.int .i64 xa, .int .i64 xb, .int .i64 xc, .int .i64 xd, .int .i64 xe] 45)) ((⟨⟨Ao, n, co⟩, os, ⟨Ae, m, ce⟩, es, ⟨Aa, na, ca⟩, as_, ⟨Ag, ng, cg⟩, gs, ⟨Ar, n, cr⟩, (List.range n).map cs3, ⟨some ⟨gv, 0, none⟩, m, cq⟩, (List.range m).map ms3, cs3, cl3, ms3, ml3⟩ : Sp).fam B)) := Lib.hid (HFu.out.below ((Below.refl _ _).alloc (Nat.le_refl _) _))
                              have hid2 : k < n1 := hlt2
                              clear hoc0 hoc hx hxn
                              go_wp2_with fail
                              go_roundw
                              case rel => exact ⟨k + 1, by go_num, by omega, HN.out⟩
                              case measure => simp [intOf]; omega
                            case neg =>
                              go_wp2_with fail
                              go_roundw
                              case rel => exact ⟨i + 1, by go_num, by omega, HFu.out⟩
                              case measure => simp [intOf]; omega
                        case neg =>
                          have kp : Blk V0 p 30 #[.int .i64 me, .slice Ao n co, .slice Ae m ce, .int .i64 q, .slice Aa na ca, .slice Ag ng cg] := HF.out.only.blk HKp.out HPS.out
                          have y := kp.cell 1
                          go_wp2_with fail
                          clear kp y
                          go_loopw [182] (fun j wr => ∃ (i : Nat) (l : List OwL), j = .int .i64 i ∧ i ≤ n ∧ Fam W1 S wr ((⟨⟨Ao, n, co⟩, l, ⟨Ae, m, ce⟩, es, ⟨Aa, na, ca⟩, as_, ⟨Ag, ng, cg⟩, gs, ⟨Ar, n, cr⟩, (List.range n).map cs3, ⟨Aq, m, cq⟩, (List.range m).map ms3, cs3, cl3, ms3, ml3⟩ : Sp).fam B)) (fun j _ => n - (intOf j).toNat)
                          case atStart => exact ⟨0, os, rfl, by omega, HF.out⟩
                          case round =>
                            obtain ⟨i, l, rfl, hi, hF⟩ := hrel
                            obtain ⟨V0, rfl⟩ : ∃ V : World, V = wr := ⟨_, rfl⟩
                            clear HF
                            have HF := Lib.hid hF
                            clear hF
                            by_cases hlt : i < n
                            case pos =>
                              have kp : Blk V0 p 30 #[.int .i64 me, .slice Ao n co, .slice Ae m ce, .int .i64 q, .slice Aa na ca, .slice Ag ng cg] := HF.out.only.blk HKp.out HPS.out
                              have ho : owR.Own V0 B (.slice Ao n co) l := HF.out.own .so
                              obtain ⟨gr, rfl, -, -, hcc, -, -⟩ := ho.cell (show 0 < n by omega)
                              have hll : l.length = n := ho.rd.1
                              obtain ⟨x, hx⟩ : ∃ x, l[i]? = some x := ⟨_, List.getElem?_eq_getElem (by omega)⟩
                              have f0 := ho.at_ hx (j := 0) rfl
                              have l0 := ho.fz_ (show 0 < n by omega) (i * 3 + 0)
                              have f1 := ho.at_ hx (j := 1) rfl
                              have l1 := ho.fz_ (show 0 < n by omega) (i * 3 + 1)
                              have f2 := ho.at_ hx (j := 2) rfl
                              have l2 := ho.fz_ (show 0 < n by omega) (i * 3 + 2)
                              simp only [owR, Nat.add_zero] at f0 f1 f2 l0 l1 l2
                              have y := kp.cell 1
                              have HN : Hid (Fam W1 S (((V0.setCell ⟨gr, i * 3, none⟩ (.int .i64 (-5))).setCell ⟨gr, i * 3 + 1, none⟩ (.int .i64 0)).setCell ⟨gr, i * 3 + 2, none⟩ (.slice none 0 0)) ((⟨⟨some ⟨gr, 0, none⟩, n, co⟩, (l.set i ⟨⟨-5, 0, []⟩, ⟨none, 0, 0⟩⟩), ⟨Ae, m, ce⟩, es, ⟨Aa, na, ca⟩, as_, ⟨Ag, ng, cg⟩, gs, ⟨Ar, n, cr⟩, (List.range n).map cs3, ⟨Aq, m, cq⟩, (List.range m).map ms3, cs3, cl3, ms3, ml3⟩ : Sp).fam B)) := Lib.hid (by
                                have h := HF.out.put .so (B := B) (R := owR) (g := gr) (n := n) (c := co) (i := i) (l := l) rfl hcc hx ⟨⟨-5, 0, []⟩, ⟨none, 0, 0⟩⟩
                                rw [show (Value.slice (some ⟨gr, 0, none⟩) n co) = (Sl.mk (some ⟨gr, 0, none⟩) n co).val from rfl, up_so] at h
                                exact h)
                              have hid1 : i < n := hlt
                              clear ho hcc hx hll kp
                              go_wp2_with fail
                              go_roundw
                              case rel => exact ⟨i + 1, _, by go_num, by omega, HN.out⟩
                              case measure => simp [intOf]; omega
                            case neg =>
                              obtain ⟨os9, hq1⟩ : ∃ f : List OwL, f = l := ⟨_, rfl⟩
                              have HFn : Hid (Fam W1 S V0 ((⟨⟨Ao, n, co⟩, os9, ⟨Ae, m, ce⟩, es, ⟨Aa, na, ca⟩, as_, ⟨Ag, ng, cg⟩, gs, ⟨Ar, n, cr⟩, (List.range n).map cs3, ⟨Aq, m, cq⟩, (List.range m).map ms3, cs3, cl3, ms3, ml3⟩ : Sp).fam B)) := Lib.hid (by rw [hq1]; exact HF.out)
                              clear HF hq1
                              have HF := Lib.hid HFn.out
                              clear HFn
                              have kp : Blk V0 p 30 #[.int .i64 me, .slice Ao n co, .slice Ae m ce, .int .i64 q, .slice Aa na ca, .slice Ag ng cg] := HF.out.only.blk HKp.out HPS.out
                              have y := kp.cell 2
                              go_wp2_with fail
                              clear kp y
                              go_loopw [194] (fun j wr => ∃ (i : Nat) (l : List SdL), j = .int .i64 i ∧ i ≤ m ∧ Fam W1 S wr ((⟨⟨Ao, n, co⟩, os9, ⟨Ae, m, ce⟩, l, ⟨Aa, na, ca⟩, as_, ⟨Ag, ng, cg⟩, gs, ⟨Ar, n, cr⟩, (List.range n).map cs3, ⟨Aq, m, cq⟩, (List.range m).map ms3, cs3, cl3, ms3, ml3⟩ : Sp).fam B)) (fun j _ => m - (intOf j).toNat)
                              case atStart => exact ⟨0, es, rfl, by omega, HF.out⟩
                              case round =>
                                obtain ⟨i, l, rfl, hi, hF⟩ := hrel
                                obtain ⟨V0, rfl⟩ : ∃ V : World, V = wr := ⟨_, rfl⟩
                                clear HF
                                have HF := Lib.hid hF
                                clear hF
                                by_cases hlt : i < m
                                case pos =>
                                  have kp : Blk V0 p 30 #[.int .i64 me, .slice Ao n co, .slice Ae m ce, .int .i64 q, .slice Aa na ca, .slice Ag ng cg] := HF.out.only.blk HKp.out HPS.out
                                  have ho : sdR.Own V0 B (.slice Ae m ce) l := HF.out.own .se
                                  obtain ⟨gr, rfl, -, -, hcc, -, -⟩ := ho.cell (show 0 < m by omega)
                                  have hll : l.length = m := ho.rd.1
                                  obtain ⟨x, hx⟩ : ∃ x, l[i]? = some x := ⟨_, List.getElem?_eq_getElem (by omega)⟩
                                  have f0 := ho.at_ hx (j := 0) rfl
                                  have l0 := ho.fz_ (show 0 < m by omega) (i * 4 + 0)
                                  have f1 := ho.at_ hx (j := 1) rfl
                                  have l1 := ho.fz_ (show 0 < m by omega) (i * 4 + 1)
                                  have f2 := ho.at_ hx (j := 2) rfl
                                  have l2 := ho.fz_ (show 0 < m by omega) (i * 4 + 2)
                                  have f3 := ho.at_ hx (j := 3) rfl
                                  have l3 := ho.fz_ (show 0 < m by omega) (i * 4 + 3)
                                  simp only [sdR, Nat.add_zero] at f0 f1 f2 f3 l0 l1 l2 l3
                                  have y := kp.cell 2
                                  have HN : Hid (Fam W1 S ((((V0.setCell ⟨gr, i * 4, none⟩ (.int .i64 (-5))).setCell ⟨gr, i * 4 + 1, none⟩ (.int .i64 0)).setCell ⟨gr, i * 4 + 2, none⟩ (.slice none 0 0)).setCell ⟨gr, i * 4 + 3, none⟩ (.int .i64 0)) ((⟨⟨Ao, n, co⟩, os9, ⟨some ⟨gr, 0, none⟩, m, ce⟩, (l.set i ⟨⟨-5, 0, [], 0⟩, ⟨none, 0, 0⟩⟩), ⟨Aa, na, ca⟩, as_, ⟨Ag, ng, cg⟩, gs, ⟨Ar, n, cr⟩, (List.range n).map cs3, ⟨Aq, m, cq⟩, (List.range m).map ms3, cs3, cl3, ms3, ml3⟩ : Sp).fam B)) := Lib.hid (by
                                    have h := HF.out.put .se (B := B) (R := sdR) (g := gr) (n := m) (c := ce) (i := i) (l := l) rfl hcc hx ⟨⟨-5, 0, [], 0⟩, ⟨none, 0, 0⟩⟩
                                    rw [show (Value.slice (some ⟨gr, 0, none⟩) m ce) = (Sl.mk (some ⟨gr, 0, none⟩) m ce).val from rfl, up_se] at h
                                    exact h)
                                  have hid1 : i < m := hlt
                                  clear ho hcc hx hll kp
                                  go_wp2_with fail
                                  go_roundw
                                  case rel => exact ⟨i + 1, _, by go_num, by omega, HN.out⟩
                                  case measure => simp [intOf]; omega
                                case neg =>
                                  obtain ⟨es9, hq1⟩ : ∃ f : List SdL, f = l := ⟨_, rfl⟩
                                  have HFn : Hid (Fam W1 S V0 ((⟨⟨Ao, n, co⟩, os9, ⟨Ae, m, ce⟩, es9, ⟨Aa, na, ca⟩, as_, ⟨Ag, ng, cg⟩, gs, ⟨Ar, n, cr⟩, (List.range n).map cs3, ⟨Aq, m, cq⟩, (List.range m).map ms3, cs3, cl3, ms3, ml3⟩ : Sp).fam B)) := Lib.hid (by rw [hq1]; exact HF.out)
                                  clear HF hq1
                                  have HF := Lib.hid HFn.out
                                  clear HFn
                                  have kp : Blk V0 p 30 #[.int .i64 me, .slice Ao n co, .slice Ae m ce, .int .i64 q, .slice Aa na ca, .slice Ag ng cg] := HF.out.only.blk HKp.out HPS.out
                                  have y := kp.cell 4
                                  go_wp2_with fail
                                  clear kp y
                                  go_loopw [206] (fun j wr => ∃ (i : Nat) (l : List Ak), j = .int .i64 i ∧ i ≤ na ∧ Fam W1 S wr ((⟨⟨Ao, n, co⟩, os9, ⟨Ae, m, ce⟩, es9, ⟨Aa, na, ca⟩, l, ⟨Ag, ng, cg⟩, gs, ⟨Ar, n, cr⟩, (List.range n).map cs3, ⟨Aq, m, cq⟩, (List.range m).map ms3, cs3, cl3, ms3, ml3⟩ : Sp).fam B)) (fun j _ => na - (intOf j).toNat)
                                  case atStart => exact ⟨0, as_, rfl, by omega, HF.out⟩
                                  case round =>
                                    obtain ⟨i, l, rfl, hi, hF⟩ := hrel
                                    obtain ⟨V0, rfl⟩ : ∃ V : World, V = wr := ⟨_, rfl⟩
                                    clear HF
                                    have HF := Lib.hid hF
                                    clear hF
                                    by_cases hlt : i < na
                                    case pos =>
                                      have kp : Blk V0 p 30 #[.int .i64 me, .slice Ao n co, .slice Ae m ce, .int .i64 q, .slice Aa na ca, .slice Ag ng cg] := HF.out.only.blk HKp.out HPS.out
                                      have ho : akR.Own V0 B (.slice Aa na ca) l := HF.out.own .sa
                                      obtain ⟨gr, rfl, -, -, hcc, -, -⟩ := ho.cell (show 0 < na by omega)
                                      have hll : l.length = na := ho.rd.1
                                      obtain ⟨x, hx⟩ : ∃ x, l[i]? = some x := ⟨_, List.getElem?_eq_getElem (by omega)⟩
                                      have f0 := ho.at_ hx (j := 0) rfl
                                      have l0 := ho.fz_ (show 0 < na by omega) (i * 2 + 0)
                                      have f1 := ho.at_ hx (j := 1) rfl
                                      have l1 := ho.fz_ (show 0 < na by omega) (i * 2 + 1)
                                      simp only [akR, Nat.add_zero] at f0 f1 l0 l1
                                      have y := kp.cell 4
                                      have HN : Hid (Fam W1 S ((V0.setCell ⟨gr, i * 2, none⟩ (.int .i64 0)).setCell ⟨gr, i * 2 + 1, none⟩ (.int .i64 (-5))) ((⟨⟨Ao, n, co⟩, os9, ⟨Ae, m, ce⟩, es9, ⟨some ⟨gr, 0, none⟩, na, ca⟩, (l.set i ⟨0, -5⟩), ⟨Ag, ng, cg⟩, gs, ⟨Ar, n, cr⟩, (List.range n).map cs3, ⟨Aq, m, cq⟩, (List.range m).map ms3, cs3, cl3, ms3, ml3⟩ : Sp).fam B)) := Lib.hid (by
                                        have h := HF.out.put .sa (B := B) (R := akR) (g := gr) (n := na) (c := ca) (i := i) (l := l) rfl hcc hx ⟨0, -5⟩
                                        rw [show (Value.slice (some ⟨gr, 0, none⟩) na ca) = (Sl.mk (some ⟨gr, 0, none⟩) na ca).val from rfl, up_sa] at h
                                        exact h)
                                      have hid1 : i < na := hlt
                                      clear ho hcc hx hll kp
                                      go_wp2_with fail
                                      go_roundw
                                      case rel => exact ⟨i + 1, _, by go_num, by omega, HN.out⟩
                                      case measure => simp [intOf]; omega
                                    case neg =>
                                      obtain ⟨as9, hq1⟩ : ∃ f : List Ak, f = l := ⟨_, rfl⟩
                                      have HFn : Hid (Fam W1 S V0 ((⟨⟨Ao, n, co⟩, os9, ⟨Ae, m, ce⟩, es9, ⟨Aa, na, ca⟩, as9, ⟨Ag, ng, cg⟩, gs, ⟨Ar, n, cr⟩, (List.range n).map cs3, ⟨Aq, m, cq⟩, (List.range m).map ms3, cs3, cl3, ms3, ml3⟩ : Sp).fam B)) := Lib.hid (by rw [hq1]; exact HF.out)
                                      clear HF hq1
                                      have HF := Lib.hid HFn.out
                                      clear HFn
                                      have kp : Blk V0 p 30 #[.int .i64 me, .slice Ao n co, .slice Ae m ce, .int .i64 q, .slice Aa na ca, .slice Ag ng cg] := HF.out.only.blk HKp.out HPS.out
                                      have y := kp.cell 5
                                      go_wp2_with fail
                                      clear kp y
                                      go_loopw [218] (fun j wr => ∃ (i : Nat) (l : List Fnd), j = .int .i64 i ∧ i ≤ ng ∧ Fam W1 S wr ((⟨⟨Ao, n, co⟩, os9, ⟨Ae, m, ce⟩, es9, ⟨Aa, na, ca⟩, as9, ⟨Ag, ng, cg⟩, l, ⟨Ar, n, cr⟩, (List.range n).map cs3, ⟨Aq, m, cq⟩, (List.range m).map ms3, cs3, cl3, ms3, ml3⟩ : Sp).fam B)) (fun j _ => ng - (intOf j).toNat)
                                      case atStart => exact ⟨0, gs, rfl, by omega, HF.out⟩
                                      case round =>
                                        obtain ⟨i, l, rfl, hi, hF⟩ := hrel
                                        obtain ⟨V0, rfl⟩ : ∃ V : World, V = wr := ⟨_, rfl⟩
                                        clear HF
                                        have HF := Lib.hid hF
                                        clear hF
                                        by_cases hlt : i < ng
                                        case pos =>
                                          have kp : Blk V0 p 30 #[.int .i64 me, .slice Ao n co, .slice Ae m ce, .int .i64 q, .slice Aa na ca, .slice Ag ng cg] := HF.out.only.blk HKp.out HPS.out
                                          have ho : fdR.Own V0 B (.slice Ag ng cg) l := HF.out.own .sg
                                          obtain ⟨gr, rfl, -, -, hcc, -, -⟩ := ho.cell (show 0 < ng by omega)
                                          have hll : l.length = ng := ho.rd.1
                                          obtain ⟨x, hx⟩ : ∃ x, l[i]? = some x := ⟨_, List.getElem?_eq_getElem (by omega)⟩
                                          have f0 := ho.at_ hx (j := 0) rfl
                                          have l0 := ho.fz_ (show 0 < ng by omega) (i * 3 + 0)
                                          have f1 := ho.at_ hx (j := 1) rfl
                                          have l1 := ho.fz_ (show 0 < ng by omega) (i * 3 + 1)
                                          have f2 := ho.at_ hx (j := 2) rfl
                                          have l2 := ho.fz_ (show 0 < ng by omega) (i * 3 + 2)
                                          simp only [fdR, Nat.add_zero] at f0 f1 f2 l0 l1 l2
                                          have y := kp.cell 5
                                          have HN : Hid (Fam W1 S (((V0.setCell ⟨gr, i * 3, none⟩ (.int .i64 0)).setCell ⟨gr, i * 3 + 1, none⟩ (.int .i64 (-5))).setCell ⟨gr, i * 3 + 2, none⟩ (.int .i64 0)) ((⟨⟨Ao, n, co⟩, os9, ⟨Ae, m, ce⟩, es9, ⟨Aa, na, ca⟩, as9, ⟨some ⟨gr, 0, none⟩, ng, cg⟩, (l.set i ⟨0, -5, 0⟩), ⟨Ar, n, cr⟩, (List.range n).map cs3, ⟨Aq, m, cq⟩, (List.range m).map ms3, cs3, cl3, ms3, ml3⟩ : Sp).fam B)) := Lib.hid (by
                                            have h := HF.out.put .sg (B := B) (R := fdR) (g := gr) (n := ng) (c := cg) (i := i) (l := l) rfl hcc hx ⟨0, -5, 0⟩
                                            rw [show (Value.slice (some ⟨gr, 0, none⟩) ng cg) = (Sl.mk (some ⟨gr, 0, none⟩) ng cg).val from rfl, up_sg] at h
                                            exact h)
                                          have hid1 : i < ng := hlt
                                          clear ho hcc hx hll kp
                                          go_wp2_with fail
                                          go_roundw
                                          case rel => exact ⟨i + 1, _, by go_num, by omega, HN.out⟩
                                          case measure => simp [intOf]; omega
                                        case neg =>
                                          obtain ⟨gs9, hq1⟩ : ∃ f : List Fnd, f = l := ⟨_, rfl⟩
                                          have HFn : Hid (Fam W1 S V0 ((⟨⟨Ao, n, co⟩, os9, ⟨Ae, m, ce⟩, es9, ⟨Aa, na, ca⟩, as9, ⟨Ag, ng, cg⟩, gs9, ⟨Ar, n, cr⟩, (List.range n).map cs3, ⟨Aq, m, cq⟩, (List.range m).map ms3, cs3, cl3, ms3, ml3⟩ : Sp).fam B)) := Lib.hid (by rw [hq1]; exact HF.out)
                                          clear HF hq1
                                          have HF := Lib.hid HFn.out
                                          clear HFn
                                          go_wp2_with fail
                                          go_ret
                                          exact ⟨rfl, HO.out.trans_ HF.out.only⟩
end Go.Proofs.Ytcicpgiljceioaa.Pk
