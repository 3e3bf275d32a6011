/- The document's answers (fletchref14): First. -/
import Derived.Test.YtcicpgiljceioaaZStCopyM
import Derived.Test.YtcicpgiljceioaaZCeOwn
import Derived.Test.YtcicpgiljceioaaZGrNext
import Derived.Test.YtcicpgiljceioaaZGrNbs
import Derived.Test.YtcicpgiljceioaaZRegLast
namespace Go.Proofs.Ytcicpgiljceioaa.Pk
open Go.RowKit Go.Proofs.Ytcicpgiljceioaa.Gr
set_option linter.unusedVariables false
attribute [local go_sem] Oper.semAt_some
def ownF (ps : List Int) (me h : Int) : Ow := ⟨nextI ps me h, 0, if h = me then [⟨0, 3, -1, 0⟩] else []⟩
set_option maxRecDepth 100000 in
set_option maxHeartbeats 4000000 in
theorem reffirst_any (Ap : Option Addr) (np cp : Nat) (ps : List Int) (A : Option Addr) (n c : Nat) (hs : List Int) (me : Int) (w : World) (hp : Reads w w.heap.size 1 Ap np (nms ps)) (hr : Reads w w.heap.size 1 A n (nms hs)) (G : Gr.Good ps) (h0 : 0 ≤ me) (h1 : me < (ps.length : Int)) (hh : HomesS ps.length hs) :
    Calls Try.prog 15 #[.slice Ap np cp, .slice A n c, .int .i64 me] w fun e w' => ∃ s2 : StL, e = .returned s2.val ∧ s2.v = firstS ps hs me ∧ OwnS w' w.heap.size s2 ∧ Below w.heap.size w w' := by
  have HL : Hid (hs.length = n) := Lib.hid hr.plen
  have HLp : Hid (ps.length = np) := Lib.hid hp.plen
  have hn8 : n ≤ 8 := by have := hh.1.2; rw [hr.plen] at this; exact this
  have HR := Lib.hid hr
  have HP := Lib.hid hp
  have HG := Lib.hid G
  have HH := Lib.hid hh
  clear hr hp G hh
  go_enter Try.func15, Try.ntmps15
  obtain ⟨pr, hpr⟩ : ∃ p, p = w.heap.size := ⟨_, rfl⟩
  obtain ⟨x, hx⟩ : ∃ x, x = pr + 1 := ⟨_, rfl⟩
  obtain ⟨wa, hwa⟩ : ∃ wa, wa = w.alloc (.cells #[.int .i64 0, .slice none 0 0, .slice none 0 0, .int .i64 0, .slice none 0 0, .slice none 0 0] 30) := ⟨_, rfl⟩
  obtain ⟨W1, hW1⟩ : ∃ W1, W1 = wa.alloc (.cells #[.int .i64 me, .slice none 0 0, .slice none 0 0, .int .i64 0, .slice none 0 0, .slice none 0 0] 30) := ⟨_, rfl⟩
  have hsa : wa.heap.size = pr + 1 := by rw [hwa, World.size_alloc, hpr]
  have hba : Below w.heap.size w wa := hwa ▸ (Below.refl _ _).alloc (Nat.le_refl _) _
  have hb1 : Below wa.heap.size wa W1 := hW1 ▸ (Below.refl _ _).alloc (Nat.le_refl _) _
  have HBa := Lib.hid hba
  have HKr : Hid (Blk wa pr 30 #[.int .i64 0, .slice none 0 0, .slice none 0 0, .int .i64 0, .slice none 0 0, .slice none 0 0]) := Lib.hid (by rw [hwa, hpr]; exact Blk.new w _ _)
  have hbx : Blk W1 x 30 #[.int .i64 me, .slice none 0 0, .slice none 0 0, .int .i64 0, .slice none 0 0, .slice none 0 0] := by rw [hW1, hx, ← hsa]; exact Blk.new wa _ _
  obtain ⟨B2, hB2⟩ : ∃ B2, B2 = W1.heap.size := ⟨_, rfl⟩
  have hup : ∀ m, Under m [(.slice none 0 0 : Value), .slice none 0 0] := fun m v hv g hg => by
    rcases List.mem_cons.1 hv with rfl | hv
    · cases hg
    · rw [List.mem_singleton.1 hv] at hg; cases hg
  have HJ0 : Hid (CopyJ wa me 0 [] [] x B2 (.slice none 0 0) (.slice none 0 0) (.slice none 0 0) (.slice none 0 0) [] W1) := Lib.hid ⟨hbx, Row.Own.none_ _ _, Row.Own.none_ _ _, hb1, by omega, by rw [hB2]; exact hbx.lt, hup B2, by simp [ownB], by simp [ownB], List.nodup_nil, Nat.le_of_eq hB2, OwnO.none_ _ _⟩
  have HPr : Hid (pr = w.heap.size) := Lib.hid hpr
  have HX1 : Hid (x = pr + 1) := Lib.hid hx
  have HSa := Lib.hid hsa
  go_wp2_with fail
  rw [← hwa, ← hW1, ← hpr, ← hx]
  clear hwa hW1 hpr hx hsa hba hb1 hbx hB2
  go_loopw [17] (fun j wr => ∃ i : Nat, j = .int .i64 i ∧ i ≤ n ∧ ∃ vo lo, lo.map (·.v) = (hs.take i).map (ownF ps me) ∧ CopyJ wa me 0 [] [] x B2 (.slice none 0 0) (.slice none 0 0) (.slice none 0 0) vo lo wr) (fun j _ => n - (intOf j).toNat)
  case atStart => exact ⟨0, rfl, by omega, _, [], rfl, HJ0.out⟩
  case round =>
    obtain ⟨i, rfl, hi, vo, lo, hlo, hJ⟩ := hrel
    obtain ⟨V0, rfl⟩ : ∃ V : World, V = wr := ⟨_, rfl⟩
    have HJ := Lib.hid hJ
    have HLo2 := Lib.hid hlo
    obtain ⟨Ao, co, rfl⟩ := hJ.o.row.sl
    obtain ⟨no, hno⟩ : ∃ k, k = lo.length := ⟨_, rfl⟩
    rw [← hno] at HJ
    have HNo := Lib.hid hno
    clear hJ hlo hno
    have HBV : Hid (Below w.heap.size w V0) := Lib.hid (HBa.out.trans (HJ.out.bel.mono HBa.out.size))
    by_cases hlt : i < n
    · obtain ⟨b, off, rfl, hbw, hc⟩ := (HR.out.below HBV.out).i64 (by omega)
      have m0 := hc i hlt
      have HTk : Hid ((hs.take (i + 1)).map (ownF ps me) = (hs.take i).map (ownF ps me) ++ [ownF ps me (hs.getD i 0)]) := Lib.hid (by
        have hil : i < hs.length := by rw [HL.out]; exact hlt
        rw [List.take_add_one, List.getD_eq_getElem?_getD, List.getElem?_eq_getElem hil, List.map_append]; rfl)
      have HZ : Hid (0 ≤ hs.getD i 0 ∧ hs.getD i 0 < (ps.length : Int)) := Lib.hid (by
        have hil : i < hs.length := by rw [HL.out]; exact hlt
        refine HH.out.2 _ ?_
        rw [List.getD_eq_getElem?_getD, List.getElem?_eq_getElem hil]; exact List.getElem_mem hil)
      obtain ⟨z, hz⟩ : ∃ z, z = hs.getD i 0 := ⟨_, rfl⟩
      rw [← hz] at m0 HTk HZ
      have HNx := Lib.hid (next_any Ap np cp ps me z V0 w.heap.size (HP.out.below HBV.out) HBV.out.size HG.out)
      obtain ⟨y, hy⟩ : ∃ y, y = nextI ps me z := ⟨_, rfl⟩
      rw [← hy] at HNx
      have HY := Lib.hid hy
      clear hc hz hbw hy
      go_wp2_with fail
      refine HNx.out.mono ?_
      rintro e V2 ⟨rfl, hb2⟩
      have HB02 := Lib.hid hb2
      obtain ⟨bx, hbx⟩ : ∃ q, q = V2.heap.size := ⟨_, rfl⟩
      obtain ⟨V3, hV3⟩ : ∃ V, V = V2.alloc (.cells #[.int .i64 y, .int .i64 0, .slice none 0 0] 55) := ⟨_, rfl⟩
      have hb23 : Below V2.heap.size V2 V3 := hV3 ▸ (Below.refl _ _).alloc (Nat.le_refl _) _
      have HKx : Hid (Blk V3 bx 55 #[.int .i64 y, .int .i64 0, .slice none 0 0]) := Lib.hid (by rw [hV3, hbx]; exact Blk.new V2 _ _)
      have HS3 : Hid (V3.heap.size = bx + 1) := Lib.hid (by rw [hV3, World.size_alloc, hbx])
      have HS32 : Hid (V3.heap.size = V2.heap.size + 1) := Lib.hid (by rw [hV3, World.size_alloc])
      have HB03 : Hid (Below V0.heap.size V0 V3) := Lib.hid (hb2.trans (hb23.mono hb2.size))
      have HX3 : Hid (Blk V3 x 30 #[.int .i64 me, .slice Ao no co, .slice none 0 0, .int .i64 0, .slice none 0 0, .slice none 0 0]) := Lib.hid (HJ.out.box.below HB03.out HJ.out.box.lt)
      have HBx : Hid (V0.heap.size ≤ bx) := Lib.hid (by rw [hbx]; exact hb2.size)
      have HXl : Hid (x < V0.heap.size) := Lib.hid HJ.out.box.lt
      have HLn : Hid (no = i) := Lib.hid (by
        have h1 := congrArg List.length HLo2.out
        rw [List.length_map, List.length_map, List.length_take] at h1
        have h2 := HNo.out
        have h3 := HL.out
        omega)
      clear hb2 hb23
      by_cases hzm : z = me
      · have t1 : (z == me) = true := by simp [hzm]
        have HF : Hid (ownF ps me z = ⟨y, 0, [⟨0, 3, -1, 0⟩]⟩) := Lib.hid (by unfold ownF; rw [if_pos hzm, HY.out])
        have hne : bx ≠ x := by have := HBx.out; have := HXl.out; omega
        have hne2 : x ≠ bx := by have := HBx.out; have := HXl.out; omega
        clear hzm
        go_wp2_with (first
          | (at_builtin; rw [← hV3, ← hbx]; clear hV3 hbx; refine Row.app ceR (V3.alloc (.cells #[.int .i64 0, .int .i64 3, .int .i64 (-1), .int .i64 0] 57)) rfl (.tmp 30) (.tmp 32) rfl V3.heap.size (.slice none 0 0) [] rfl (Row.Own.none_ _ _) (bx + 1 + 1) (some ⟨bx + 1, 0, none⟩) 1 [⟨0, 3, -1, 0⟩] 1 rfl (by { have h := Row.reads_new ceR V3 #[.int .i64 0, .int .i64 3, .int .i64 (-1), .int .i64 0] 57 [⟨0, 3, -1, 0⟩] rfl; rw [HS3.out] at h; exact h }) (by { show (0 + 1) * 32 ≤ _; omega }) (by simp) ?_; intro v5 V5 ho5 hg5 _; obtain ⟨A5, c5, e5⟩ := ho5.slk (k := 1) rfl; subst e5; have HB35 : Hid (Below V3.heap.size V3 V5) := Lib.hid (((Below.refl _ _).alloc (Nat.le_refl _) _).grown hg5 (by simp) (fun k e => by cases e)); have HK5 := Lib.hid (HKx.out.below HB35.out HKx.out.lt); obtain ⟨V6, hV6⟩ : ∃ V, V = V5.setCell ⟨bx, 2, none⟩ (.slice A5 1 c5) := ⟨_, rfl⟩; have nb : ownB (.slice A5 1 c5) ≠ some bx := (fun e => by { have h1 := ho5.base bx e; have h2 := HKx.out.lt; omega }); have HB06 : Hid (Below V0.heap.size V0 V6) := Lib.hid (by { rw [hV6]; exact (HB03.out.trans (HB35.out.mono HB03.out.size)).setCell (p := ⟨bx, 2, none⟩) HBx.out _ }); have HO6 : Hid (ceR.Own V6 V0.heap.size (.slice A5 1 c5) [⟨0, 3, -1, 0⟩]) := Lib.hid (by { rw [hV6]; exact (ho5.low HB03.out.size).stay (fun g e => setc_other _ _ _ _ _ (fun e2 => nb (by rw [e, e2]))) }); have HB07 : Hid (Below V0.heap.size V0 (V6.alloc (.cells #[.int .i64 y, .int .i64 0, .slice A5 1 c5] 55))) := Lib.hid (HB06.out.alloc HB06.out.size _); have HO7 : Hid (ceR.Own (V6.alloc (.cells #[.int .i64 y, .int .i64 0, .slice A5 1 c5] 55)) V0.heap.size (.slice A5 1 c5) [⟨0, 3, -1, 0⟩]) := Lib.hid (HO6.out.alloc _); have HX7 : Hid (Blk (V6.alloc (.cells #[.int .i64 y, .int .i64 0, .slice A5 1 c5] 55)) x 30 #[.int .i64 me, .slice Ao no co, .slice none 0 0, .int .i64 0, .slice none 0 0, .slice none 0 0]) := Lib.hid (HJ.out.box.below HB07.out HJ.out.box.lt); have k0 := HK5.out.cell 0; have k1 := HK5.out.cell 1; have k2 := HK5.out.cell 2; have l2 := HK5.out.frozen 2; have x0 : V5.cell? ⟨x, 1, none⟩ = some (.slice Ao no co) := (HX3.out.below HB35.out HX3.out.lt).cell 1; have HV6 := Lib.hid hV6; have HS6 : Hid (V6.heap.size = V5.heap.size) := Lib.hid (by { rw [hV6]; exact setc_size _ _ _ _ }); clear ho5 hg5 nb hV6)
          | (at_builtin; rw [← HV6.out]; refine Row.app owR (V6.alloc (.cells #[.int .i64 y, .int .i64 0, .slice A5 1 c5] 55)) rfl (.tmp 36) (.tmp 38) rfl B2 (.slice Ao no co) lo rfl (HJ.out.o.row.below HB07.out) (V5.heap.size + 1) (some ⟨V5.heap.size, 0, none⟩) 1 [⟨⟨y, 0, [⟨0, 3, -1, 0⟩]⟩, ⟨A5, 1, c5⟩⟩] 1 rfl (by { have h := Row.reads_new owR V6 #[.int .i64 y, .int .i64 0, .slice A5 1 c5] 55 [⟨⟨y, 0, [⟨0, 3, -1, 0⟩]⟩, ⟨A5, 1, c5⟩⟩] rfl; rw [HS6.out] at h; exact h }) (by { have h1 := HLn.out; have h2 := HNo.out; show (lo.length + 1) * 40 ≤ _; omega }) (by { have h1 := HB07.out.size; have h2 := HJ.out.sz; omega }) ?_; intro v8 V8 ho8 hg8 hl8; obtain ⟨A8, c8, e8⟩ := ho8.slk (k := no + 1) (by { have h2 := HNo.out; simp; omega }); subst e8; have HPu := Lib.hid (HJ.out.push (y := ⟨⟨y, 0, [⟨0, 3, -1, 0⟩]⟩, ⟨A5, 1, c5⟩⟩) HB07.out HO7.out ho8 hg8 hl8); have nx : some x ≠ ownB (.slice Ao no co) := (fun e => by { have h1 := HJ.out.o.row.base x e.symm; have h2 := HJ.out.lt; omega }); have HX8 := Lib.hid ((hg8.block x HX7.out.lt nx).trans HX7.out); have x1 := Blk.cell HX8.out 1; have l1 := Blk.frozen HX8.out 1; clear ho8 hg8 hl8 nx))
        go_roundw
        case rel => exact ⟨i + 1, by go_num, by omega, _, lo ++ [⟨⟨y, 0, [⟨0, 3, -1, 0⟩]⟩, ⟨A5, 1, c5⟩⟩], by rw [HTk.out, List.map_append, HLo2.out, HF.out]; rfl, HPu.out⟩
        case measure => simp [intOf]; omega
      · have t1 : (z == me) = false := by simp [hzm]
        have HF : Hid (ownF ps me z = ⟨y, 0, []⟩) := Lib.hid (by unfold ownF; rw [if_neg hzm, HY.out])
        have HB07 : Hid (Below V0.heap.size V0 (V3.alloc (.cells #[.int .i64 y, .int .i64 0, .slice none 0 0] 55))) := Lib.hid (HB03.out.alloc HB03.out.size _)
        have HO7 : Hid (ceR.Own (V3.alloc (.cells #[.int .i64 y, .int .i64 0, .slice none 0 0] 55)) V0.heap.size (.slice none 0 0) []) := Lib.hid (Row.Own.none_ _ _)
        have HX7 : Hid (Blk (V3.alloc (.cells #[.int .i64 y, .int .i64 0, .slice none 0 0] 55)) x 30 #[.int .i64 me, .slice Ao no co, .slice none 0 0, .int .i64 0, .slice none 0 0, .slice none 0 0]) := Lib.hid (HJ.out.box.below HB07.out HJ.out.box.lt)
        have x0 : V3.cell? ⟨x, 1, none⟩ = some (.slice Ao no co) := HX3.out.cell 1
        have x02 : V2.cell? ⟨x, 1, none⟩ = some (.slice Ao no co) := (HJ.out.box.below HB02.out HJ.out.box.lt).cell 1
        have hxl2 : x < V2.heap.size := by have := HXl.out; have := HB02.out.size; omega
        have hne : V2.heap.size ≠ x := by omega
        have hne2 : x ≠ V2.heap.size := by omega
        clear hzm
        go_wp2_with (at_builtin; rw [← hV3]; refine Row.app owR (V3.alloc (.cells #[.int .i64 y, .int .i64 0, .slice none 0 0] 55)) rfl (.tmp 36) (.tmp 38) rfl B2 (.slice Ao no co) lo rfl (HJ.out.o.row.below HB07.out) ((V2.heap.size + 1) + 1) (some ⟨(V2.heap.size + 1), 0, none⟩) 1 [⟨⟨y, 0, []⟩, ⟨none, 0, 0⟩⟩] 1 rfl (by { have h := Row.reads_new owR V3 #[.int .i64 y, .int .i64 0, .slice none 0 0] 55 [⟨⟨y, 0, []⟩, ⟨none, 0, 0⟩⟩] rfl; rw [HS32.out] at h; exact h }) (by { have h1 := HLn.out; have h2 := HNo.out; show (lo.length + 1) * 40 ≤ _; omega }) (by { have h1 := HB07.out.size; have h2 := HJ.out.sz; omega }) ?_; intro v8 V8 ho8 hg8 hl8; obtain ⟨A8, c8, e8⟩ := ho8.slk (k := no + 1) (by { have h2 := HNo.out; simp; omega }); subst e8; have HPu := Lib.hid (HJ.out.push (y := ⟨⟨y, 0, []⟩, ⟨none, 0, 0⟩⟩) HB07.out HO7.out ho8 hg8 hl8); have nx : some x ≠ ownB (.slice Ao no co) := (fun e => by { have h1 := HJ.out.o.row.base x e.symm; have h2 := HJ.out.lt; omega }); have HX8 := Lib.hid ((hg8.block x HX7.out.lt nx).trans HX7.out); have x1 := Blk.cell HX8.out 1; have l1 := Blk.frozen HX8.out 1; clear ho8 hg8 hl8 nx)
        go_roundw
        case rel => exact ⟨i + 1, by go_num, by omega, _, lo ++ [⟨⟨y, 0, []⟩, ⟨none, 0, 0⟩⟩], by rw [HTk.out, List.map_append, HLo2.out, HF.out]; rfl, HPu.out⟩
        case measure => simp [intOf]; omega
    · have HF : Hid (lo.map (·.v) = hs.map (ownF ps me)) := Lib.hid (by rw [HLo2.out, List.take_of_length_le (by rw [HL.out]; omega)])
      have HNb := Lib.hid (nbs_any Ap np cp ps me V0 w.heap.size (HP.out.below HBV.out) HBV.out.size (by have h1 := HLp.out; have h2 := HG.out.few; omega))
      go_wp2_with fail
      refine HNb.out.mono ?_
      rintro e V1 ⟨vn, rfl, hon, hb⟩
      have HJ1 := Lib.hid (HJ.out.below hb)
      obtain ⟨An, cn, rfl, hcn, hrn⟩ := hon.reads
      obtain ⟨m, hm⟩ : ∃ m, m = (nbsI ps me).length := ⟨_, rfl⟩
      rw [← hm] at hcn hrn ⊢
      have HM := Lib.hid hm
      have hm32 : m ≤ 32 := by
        rw [hm]
        unfold nbsI
        split
        · exact Nat.le_trans (nbs_len _ _ _) HG.out.few
        · simp
      have HRn := Lib.hid hrn
      have HK0 := Lib.hid HJ1.out.k
      obtain ⟨B3, hB3⟩ : ∃ B3, B3 = V1.heap.size := ⟨_, rfl⟩
      rw [← hB3] at HK0 HRn
      have HB3 : Hid (B3 = V1.heap.size) := Lib.hid hB3
      have HNx2 : Hid (∀ ad, An = some ad → ad.block ≠ x) := Lib.hid (fun ad e => by
        have h1 := ownN_base hon ad.block (by rw [e]; rfl)
        have h2 := HJ.out.box.lt
        omega)
      clear hb hon hrn hB3 hm hcn
      go_wp2_with fail
      go_loopw [46] (fun j wr => ∃ i : Nat, j = .int .i64 i ∧ i ≤ m ∧ ∃ ve le, le.map (·.v) = ((nbsI ps me).take i).map (fun v => (⟨v, 0, [], 0⟩ : Hf)) ∧ CopyK wa me 0 [] [] x B2 B3 (.slice none 0 0) (.slice none 0 0) (.slice Ao no co) lo ve le wr ∧ ∀ k, k < B3 → k ≠ x → wr.heap[k]? = V1.heap[k]?) (fun j _ => m - (intOf j).toNat)
      case atStart => exact ⟨0, rfl, by omega, _, [], rfl, HK0.out, fun _ _ _ => rfl⟩
      case round =>
        obtain ⟨i, rfl, hi, ve, le, hle, hJ, hst⟩ := hrel
        obtain ⟨V0, rfl⟩ : ∃ V : World, V = wr := ⟨_, rfl⟩
        have HSt := Lib.hid hst
        have HK := Lib.hid hJ
        have HLe2 := Lib.hid hle
        obtain ⟨Ae, ce, rfl⟩ := hJ.e.row.sl
        obtain ⟨ne, hne⟩ : ∃ k, k = le.length := ⟨_, rfl⟩
        rw [← hne] at HK
        have HNe := Lib.hid hne
        clear hJ hle hne hst
        have HBV : Hid (Below w.heap.size w V0) := Lib.hid (HBa.out.trans (HK.out.j.bel.mono HBa.out.size))
        have HBx := Lib.hid HK.out.j.box
        by_cases hlt : i < m
        · have HRv : Hid (Reads V0 B3 1 An m (nms (nbsI ps me))) := Lib.hid ⟨HRn.out.1, fun hm0 => by
            obtain ⟨ad, e, hb9, hc9⟩ := HRn.out.2 hm0
            exact ⟨ad, e, hb9, fun j u hu => (World.cell?_of_block (a := ad.add j) (by rw [block_of_add]; exact HSt.out _ hb9 (HNx2.out ad e))).trans (hc9 j u hu)⟩⟩
          obtain ⟨b, off, rfl, hbw, hc⟩ := HRv.out.i64 (by omega)
          have m0 := hc i hlt
          have HTk : Hid (((nbsI ps me).take (i + 1)).map (fun v => (⟨v, 0, [], 0⟩ : Hf)) = ((nbsI ps me).take i).map (fun v => (⟨v, 0, [], 0⟩ : Hf)) ++ [⟨(nbsI ps me).getD i 0, 0, [], 0⟩]) := Lib.hid (by
            have hil : i < (nbsI ps me).length := by rw [← HM.out]; exact hlt
            rw [List.take_add_one, List.getD_eq_getElem?_getD, List.getElem?_eq_getElem hil, List.map_append]; rfl)
          obtain ⟨z, hz⟩ : ∃ z, z = (nbsI ps me).getD i 0 := ⟨_, rfl⟩
          rw [← hz] at m0 HTk
          clear hc hz hbw
          have HLn : Hid (ne = i) := Lib.hid (by
            have h1 := congrArg List.length HLe2.out
            rw [List.length_map, List.length_map, List.length_take] at h1
            have h2 := HNe.out
            have h3 := HM.out
            omega)
          have HB07 : Hid (Below V0.heap.size V0 (V0.alloc (.cells #[.int .i64 z, .int .i64 0, .slice none 0 0, .int .i64 0] 60))) := Lib.hid ((Below.refl _ _).alloc (Nat.le_refl _) _)
          have HX7 := Lib.hid (HBx.out.below HB07.out HBx.out.lt)
          have x0 : V0.cell? ⟨x, 2, none⟩ = some (.slice Ae ne ce) := HBx.out.cell 2
          go_wp2_with (at_builtin; refine Row.app sdR (V0.alloc (.cells #[.int .i64 z, .int .i64 0, .slice none 0 0, .int .i64 0] 60)) rfl (.tmp 51) (.tmp 54) rfl B3 (.slice Ae ne ce) le rfl (HK.out.e.row.below HB07.out) (V0.heap.size + 1) (some ⟨V0.heap.size, 0, none⟩) 1 [⟨⟨z, 0, [], 0⟩, ⟨none, 0, 0⟩⟩] 1 rfl (Row.reads_new sdR V0 #[.int .i64 z, .int .i64 0, .slice none 0 0, .int .i64 0] 60 [⟨⟨z, 0, [], 0⟩, ⟨none, 0, 0⟩⟩] rfl) (by { have h1 := HLn.out; have h2 := HNe.out; show (le.length + 1) * 48 ≤ _; omega }) (by { have h1 := HB07.out.size; have h2 := HK.out.sz; omega }) ?_; intro v8 V8 ho8 hg8 hl8; obtain ⟨A8, c8, e8⟩ := ho8.slk (k := ne + 1) (by { have h2 := HNe.out; simp; omega }); subst e8; have HPu := Lib.hid (HK.out.push (y := ⟨⟨z, 0, [], 0⟩, ⟨none, 0, 0⟩⟩) HB07.out (Row.Own.none_ _ _) ho8 hg8 hl8); have nx : some x ≠ ownB (.slice Ae ne ce) := (fun e => by { have h1 := HK.out.e.row.base x e.symm; have h2 := HK.out.j.lt; have h3 := HK.out.l23; omega }); have HX8 := Lib.hid ((hg8.block x HX7.out.lt nx).trans HX7.out); have HSt8 : Hid (∀ k, k < B3 → k ≠ x → (V8.setCell ⟨x, 2, none⟩ (.slice A8 (ne + 1) c8)).heap[k]? = V1.heap[k]?) := Lib.hid (fun k hk hkx => by { have h2 := HK.out.sz; exact (setc_other _ _ _ _ _ hkx).trans ((hg8.block k (by { have h1 := HB07.out.size; omega }) (fun e => by { have h1 := HK.out.e.row.base k e.symm; omega })).trans ((HB07.out.block k (by omega)).trans (HSt.out k hk hkx))) }); have x1 := Blk.cell HX8.out 2; have l1 := Blk.frozen HX8.out 2; clear ho8 hg8 hl8 nx)
          go_roundw
          case rel => exact ⟨i + 1, by go_num, by omega, _, le ++ [⟨⟨z, 0, [], 0⟩, ⟨none, 0, 0⟩⟩], by rw [HTk.out, List.map_append, HLe2.out]; rfl, HPu.out, HSt8.out⟩
          case measure => simp [intOf]; omega
        · have HGe : Hid (le.map (·.v) = (nbsI ps me).map (fun v => (⟨v, 0, [], 0⟩ : Hf))) := Lib.hid (by rw [HLe2.out, List.take_of_length_le (by rw [← HM.out]; omega)])
          have HOw := Lib.hid (HK.out.own (Nat.le_refl wa.heap.size))
          have HKr9 := Lib.hid (HKr.out.below HK.out.j.bel HKr.out.lt)
          have hprlt := HKr.out.lt
          obtain ⟨V9, hV9, k9, b9, o9⟩ := set6 HKr9.out (.int .i64 me) (.slice Ao no co) (.slice Ae ne ce) (.int .i64 0) (.slice none 0 0) (.slice none 0 0)
          have HV9 := Lib.hid hV9
          have HB9 : Hid (Below w.heap.size w V9) := Lib.hid (b9 _ _ (by have := HPr.out; omega) HBV.out)
          have HO9 : Hid (OwnS V9 w.heap.size ⟨me, lo, ⟨Ao, no, co⟩, le, ⟨Ae, ne, ce⟩, 0, [], ⟨none, 0, 0⟩, [], ⟨none, 0, 0⟩⟩) := Lib.hid ((HOw.out.stay (fun g hg1 _ => o9 g (by omega))).low HBa.out.size)
          have q0 := HBx.out.cell 0
          have q1 := HBx.out.cell 1
          have q2 := HBx.out.cell 2
          have q3 := HBx.out.cell 3
          have q4 := HBx.out.cell 4
          have q5 := HBx.out.cell 5
          have y0 := HKr9.out.cell 0
          have y1 := HKr9.out.cell 1
          have y2 := HKr9.out.cell 2
          have y3 := HKr9.out.cell 3
          have y4 := HKr9.out.cell 4
          have y5 := HKr9.out.cell 5
          have f0 := HKr9.out.frozen 0
          have f1 := HKr9.out.frozen 1
          have f2 := HKr9.out.frozen 2
          have f3 := HKr9.out.frozen 3
          have f4 := HKr9.out.frozen 4
          have f5 := HKr9.out.frozen 5
          have z0 : V9.cell? ⟨pr, 0, none⟩ = some (.int .i64 me) := k9.cell 0
          have z1 : V9.cell? ⟨pr, 1, none⟩ = some (.slice Ao no co) := k9.cell 1
          have z2 : V9.cell? ⟨pr, 2, none⟩ = some (.slice Ae ne ce) := k9.cell 2
          have z3 : V9.cell? ⟨pr, 3, none⟩ = some (.int .i64 0) := k9.cell 3
          have z4 : V9.cell? ⟨pr, 4, none⟩ = some (.slice none 0 0) := k9.cell 4
          have z5 : V9.cell? ⟨pr, 5, none⟩ = some (.slice none 0 0) := k9.cell 5
          clear hV9 b9 o9 k9
          go_wp2_with fail
          rw [← HV9.out]
          refine bodyPost_ret (v := .agg #[.int .i64 me, .slice Ao no co, .slice Ae ne ce, .int .i64 0, .slice none 0 0, .slice none 0 0]) (by simp [results, Try.f15, go_sem, z0, z1, z2, z3, z4, z5]) rfl ⟨⟨me, lo, ⟨Ao, no, co⟩, le, ⟨Ae, ne, ce⟩, 0, [], ⟨none, 0, 0⟩, [], ⟨none, 0, 0⟩⟩, rfl, ?_, HO9.out, HB9.out⟩
          unfold StL.v firstS
          simp only [HF.out, HGe.out]
          rfl
end Go.Proofs.Ytcicpgiljceioaa.Pk
