/- The document's vault: Open. -/
import Derived.Test.YtnpmccekkjadhaaDoorZRefB
import Derived.Test.YtnpmccekkjadhaaDoorZLook
import Derived.Deep.RegionHeld3
import Derived.Deep.DeepMust
import Derived.Test.YtnpmccekkjadhaaDoorZDskB
namespace Go.Proofs.YtnpmccekkjadhaaDoor.Pk
open Go.RowKit Go.Proofs.YtnpmccekkjadhaaDoor.Crc Go.Proofs.YtnpmccekkjadhaaDoor.Fr Go.Proofs.YtnpmccekkjadhaaDoor.Dk Go.Proofs.YtnpmccekkjadhaaDoor.Vk
set_option linter.unusedVariables false
/-- The document's vault at block Q over the disk at R. -/
def VaB (w : World) (Q R : Nat) (v : VK) (vs vr : Value) : Prop := Blk w Q 48 #[.pointer (some ⟨R, 0, none⟩), .int .i64 v.file, .int .i64 (v.g : Int), vs, vr, .int .i64 v.sick]
/-- What the document's Open leaves. -/
def OpnR (R : Nat) (d : DK) (s : List Int) (S : Nat → Prop) (w : World) (e : Ending) (w' : World) : Prop :=
  ∃ S', DkR w' R (opn d s).2.1 S' ∧ Turned S w w' ∧ From S S' w ∧
    (((opn d s).1 ≠ 0 ∧ e = .returned (.tuple #[.pointer none, .int .i64 (opn d s).1])) ∨
     ((opn d s).1 = 0 ∧ ∃ v Q vs vr lo hi, (opn d s).2.2 = some v ∧ e = .returned (.tuple #[.pointer (some ⟨Q, 0, none⟩), .int .i64 0]) ∧ VaB w' Q R v vs vr ∧ w.heap.size ≤ lo ∧ lo ≤ Q ∧ Q < hi ∧ hi ≤ w'.heap.size ∧
       SnV w' lo hi vs v.s ∧ RcV w' lo hi vr v.rs ∧ ∀ b, S' b → ¬ (lo ≤ b ∧ b < hi)))
/-- What Look answers, by itself. -/
theorem LookP.out {b : List Int} {w w' : World} {vs vr : Value} (h : (gen b = 0 ∧ vs = .slice none 0 0 ∧ vr = .slice none 0 0) ∨ (gen b ≠ 0 ∧ SnV w' w.heap.size w'.heap.size vs (snap b) ∧ RcV w' w.heap.size w'.heap.size vr (recs b))) :
    ∃ A n c A' n' c', vs = .slice A n c ∧ vr = .slice A' n' c' := by
  rcases h with ⟨_, rfl, rfl⟩ | ⟨_, ⟨A, n, c, rfl, _⟩, ⟨A', n', c', _, rfl, _⟩⟩
  · exact ⟨_, _, _, _, _, _, rfl, rfl⟩
  · exact ⟨_, _, _, _, _, _, rfl, rfl⟩
def DkB (d : DK) : Prop := Bytes d.f0.all ∧ Bytes d.f1.all
theorem DkB.get {d : DK} (h : DkB d) (f : Int) : Bytes (d.get f).all := by unfold DK.get; split; exact h.2; exact h.1

set_option maxRecDepth 100000 in
set_option maxHeartbeats 8000000 in
theorem openR_any (R : Nat) (A : Option Addr) (n c : Nat) (s : List Int) (d : DK) (S : Nat → Prop) (w : World) (h : DkR w R d S) (hr : Reads w w.heap.size 1 A n (bts s)) (hby : Bytes s) (hB : DkB d) (hn : n ≤ 1073741824) (hfree : Free S A n) (M m : Nat) (hfit : d.fit M m) (hM : M ≤ 1073741824) (hm : m ≤ 1152921504606846976) :
    Calls Tryd.prog 22 #[.pointer (some ⟨R, 0, none⟩), .slice A n c] w (OpnR R d s S w) := by
  have hsl : s.length = n := by have := hr.1; simpa using this
  have HX := Lib.hid (firstR_any 1 (by omega) A n c s w hr hby (by omega))
  have HL := Lib.hid hsl
  have HR := Lib.hid hr
  have HBs := Lib.hid hby
  have HB := Lib.hid hB
  have HF := Lib.hid hfit
  have HD := Lib.hid h
  have HFr := Lib.hid hfree
  clear h hr hby hB hfit hsl hfree
  go_enter Tryd.func22, Tryd.ntmps22
  go_wp2_with fail
  refine HX.out.mono ?_
  rintro e w1 ⟨hb1, ⟨hl1, A1, n1, c1, rfl, ho1⟩ | ⟨hl1, rfl⟩⟩
  case inr =>
    have HO : Hid (opn d s = (3, d, none)) := Lib.hid (by unfold opn; rw [if_pos hl1])
    have HB1 := Lib.hid hb1
    clear hb1 hl1 HX
    go_wp2
    go_ret2
    refine ⟨S, ?_, Turned.of HB1.out (Nat.le_refl _) S, From.refl _ _, .inl ⟨?_, ?_⟩⟩
    · rw [HO.out]; exact HD.out.next HB1.out
    · rw [HO.out]; show (3 : Int) ≠ 0; decide
    · rw [HO.out]; rfl
  case inl =>
    have hD1 := HD.out.next hb1
    have x4 : w1.cell? ⟨R, 4, none⟩ = some (.bool d.on) := by
      obtain ⟨v, hk, _, _⟩ := hD1
      rw [hk.cell]; rfl
    have HO1 := Lib.hid ho1
    have HB1 := Lib.hid hb1
    have HD1 := Lib.hid hD1
    have hl1' : Hid (s.length ≤ 1048568) := Lib.hid hl1
    have hsz1 : w.heap.size ≤ w1.heap.size := hb1.size
    clear ho1 hb1 hD1 hl1 HX
    by_cases hon : d.on = true
    case neg =>
      have hon' : d.on = false := by simpa using hon
      have HO : Hid (opn d s = (40, d, none)) := Lib.hid (by unfold opn; rw [if_neg (by have := hl1'.out; omega), if_pos hon'])
      rw [hon'] at x4
      clear hon
      go_wp2
      go_ret2
      refine ⟨S, ?_, Turned.of HB1.out (Nat.le_refl _) S, From.refl _ _, .inl ⟨?_, ?_⟩⟩
      · rw [HO.out]; exact HD1.out
      · rw [HO.out]; show (40 : Int) ≠ 0; decide
      · rw [HO.out]; rfl
    case pos =>
      rw [hon] at x4
      have HOn := Lib.hid hon
      have hF0 := HF.out.l0
      have hF1 := HF.out.l1
      have HA0 := Lib.hid (all_ref R 0 (.inl rfl) d S w1 HD1.out (by omega) (by omega))
      go_wp2_with fail
      refine HA0.out.mono ?_
      rintro e w2 ⟨A2, n2, c2, rfl, ho2, hb2⟩
      have hn2 := own_len ho2
      have hn2M : n2 ≤ 17179869184 := by rw [← hn2.1]; show d.f0.all.length ≤ _; omega
      have HL0 := Lib.hid (look_any A2 n2 c2 (d.get 0).all w2 (own_reads ho2) hn2.2 (HB.out.get 0) hn2M)
      have HB2 := Lib.hid (HB1.out.trans (hb2.mono hsz1))
      have HD2 := Lib.hid (HD1.out.next hb2)
      have hsz2 : w.heap.size ≤ w2.heap.size := HB2.out.size
      have HO2 := Lib.hid (HO1.out.keep hb2 (Nat.le_refl _))
      clear ho2 hb2 HA0 x4 hn2
      go_wp2_with fail
      refine HL0.out.mono ?_
      rintro e w3 ⟨hb3, vs0, vr0, rfl, hl0⟩
      obtain ⟨As0, ns0, cs0, Ar0, nr0, cr0, rfl, rfl⟩ := LookP.out hl0
      have HB3 := Lib.hid (HB2.out.trans (hb3.mono hsz2))
      have HD3 := Lib.hid (HD2.out.next hb3)
      have HO3 := Lib.hid (HO2.out.keep hb3 (Nat.le_refl _))
      have hsz3 : w.heap.size ≤ w3.heap.size := HB3.out.size
      have HQ0 := Lib.hid hl0
      have HS23 : Hid (w.heap.size ≤ w2.heap.size ∧ w2.heap.size ≤ w3.heap.size) := Lib.hid ⟨hsz2, hb3.size⟩
      have HA1 := Lib.hid (all_ref R 1 (.inr rfl) d S w3 HD3.out (by omega) (by omega))
      clear hb3 hl0 HL0
      go_wp2_with fail
      refine HA1.out.mono ?_
      rintro e w4 ⟨A4, n4, c4, rfl, ho4, hb4⟩
      have hn4 := own_len ho4
      have hn4M : n4 ≤ 17179869184 := by rw [← hn4.1]; show d.f1.all.length ≤ _; omega
      have HL1 := Lib.hid (look_any A4 n4 c4 (d.get 1).all w4 (own_reads ho4) hn4.2 (HB.out.get 1) hn4M)
      have HB4 := Lib.hid (HB3.out.trans (hb4.mono hsz3))
      have HD4 := Lib.hid (HD3.out.next hb4)
      have HO4 := Lib.hid (HO3.out.keep hb4 (Nat.le_refl _))
      have HE34 := Lib.hid hb4
      have hsz4 : w.heap.size ≤ w4.heap.size := HB4.out.size
      clear ho4 hb4 HA1 hn4
      go_wp2_with fail
      refine HL1.out.mono ?_
      rintro e w5 ⟨hb5, vs1, vr1, rfl, hl1⟩
      obtain ⟨As1, ns1, cs1, Ar1, nr1, cr1, rfl, rfl⟩ := LookP.out hl1
      have HB5 := Lib.hid (HB4.out.trans (hb5.mono hsz4))
      have HD5 := Lib.hid (HD4.out.next hb5)
      have HO5 := Lib.hid (HO4.out.keep hb5 (Nat.le_refl _))
      have HE35 := Lib.hid (HE34.out.trans (hb5.mono HE34.out.size))
      have hsz5 : w.heap.size ≤ w5.heap.size := HB5.out.size
      have HQ1 := Lib.hid hl1
      clear hb5 hl1 HL1
      obtain ⟨g0, hg0⟩ : ∃ g, g = gen (d.get 0).all := ⟨_, rfl⟩
      obtain ⟨g1, hg1⟩ : ∃ g, g = gen (d.get 1).all := ⟨_, rfl⟩
      obtain ⟨e0, he0⟩ : ∃ g, g = fend (d.get 0).all := ⟨_, rfl⟩
      obtain ⟨e1, he1⟩ : ∃ g, g = fend (d.get 1).all := ⟨_, rfl⟩
      rw [← hg0, ← hg1, ← he0, ← he1]
      have HG0 := Lib.hid hg0
      have HG1 := Lib.hid hg1
      have HE0 := Lib.hid he0
      have HE1 := Lib.hid he1
      have hg0l : g0 ≤ 4611686018427387904 := by rw [hg0]; exact gen_le _
      have hg1l : g1 ≤ 4611686018427387904 := by rw [hg1]; exact gen_le _
      clear hg0 hg1 he0 he1
      by_cases hc1 : g0 < g1
      case pos =>
        obtain ⟨wB, hwB⟩ : ∃ wB, wB = (w5.alloc (.cells #[.pointer (some ⟨R, 0, none⟩), .int .i64 0, .int .i64 (g0 : Int), .slice As0 ns0 cs0, .slice Ar0 nr0 cr0, .int .i64 0] 48)).alloc (.cells #[.pointer (some ⟨R, 0, none⟩), .int .i64 1, .int .i64 (g1 : Int), .slice As1 ns1 cs1, .slice Ar1 nr1 cr1, .int .i64 0] 48) := ⟨_, rfl⟩
        obtain ⟨Q, hQ⟩ : ∃ Q, Q = w5.heap.size + 1 := ⟨_, rfl⟩
        have hbB : Below w5.heap.size w5 wB := by rw [hwB]; exact ((Below.refl _ w5).alloc (Nat.le_refl _) _).alloc (by simp) _
        have hvb : VaB wB Q R ⟨1, g1, snap (d.get 1).all, recs (d.get 1).all, 0⟩ (.slice As1 ns1 cs1) (.slice Ar1 nr1 cr1) := by rw [hwB, hQ, ← (show (w5.alloc (.cells #[.pointer (some ⟨R, 0, none⟩), .int .i64 0, .int .i64 (g0 : Int), .slice As0 ns0 cs0, .slice Ar0 nr0 cr0, .int .i64 0] 48)).heap.size = w5.heap.size + 1 from by simp)]; exact Blk.new _ _ _
        have HFo : Hid (fileOf d = 1) := Lib.hid (by unfold fileOf; rw [if_pos (by show gen (d.get 0).all < gen (d.get 1).all; rw [← HG0.out, ← HG1.out]; exact hc1)])
        have HGm : Hid (gen (d.get 1).all = g1) := Lib.hid (HG1.out.symm)
        have HEm : Hid (fend (d.get 1).all = e1) := Lib.hid (HE1.out.symm)
        have hQs : w.heap.size ≤ Q ∧ Q < wB.heap.size := by rw [hQ]; exact ⟨by omega, by rw [hwB]; simp⟩
        have hbr : g1 ≠ 0 := by omega
        have HSn : Hid (SnV wB w.heap.size wB.heap.size (.slice As1 ns1 cs1) (snap (d.get 1).all)) := Lib.hid (by
          rcases HQ1.out with ⟨hz, _⟩ | ⟨_, q1, q2⟩
          · exact absurd (HG1.out.trans hz) hbr
          · exact ((SnV.more (SnV.stay q1 (fun g h1 h2 => hbB.block g h2)) hbB.size)).lower HB4.out.size)
        have HRc : Hid (RcV wB w.heap.size wB.heap.size (.slice Ar1 nr1 cr1) (recs (d.get 1).all)) := Lib.hid (by
          rcases HQ1.out with ⟨hz, _⟩ | ⟨_, q1, q2⟩
          · exact absurd (HG1.out.trans hz) hbr
          · exact ((RcV.more (RcV.stay q2 (fun g h1 h2 => hbB.block g h2)) hbB.size)).lower HB4.out.size)
        have HBB := Lib.hid (HB5.out.trans (hbB.mono hsz5))
        have HDB := Lib.hid (HD5.out.next hbB)
        have tg : ((g1 : Int) == 0) = false := by simp; omega
        have x1 : wB.cell? ⟨Q, 1, none⟩ = some (.int .i64 1) := hvb.cell 1
        have x2 : wB.cell? ⟨Q, 2, none⟩ = some (.int .i64 (g1 : Int)) := hvb.cell 2
        have HVb := Lib.hid hvb
        have hsB : w.heap.size ≤ wB.heap.size := HBB.out.size

        go_wp2_with fail
        rw [← hwB, ← hQ]
        clear hwB hQ hbB
        have hQT : w.heap.size ≤ Q ∧ Q < wB.heap.size := hQs
        obtain ⟨T, hTd⟩ : ∃ T : Nat → Prop, T = fun b => w.heap.size ≤ b ∧ b < wB.heap.size := ⟨_, rfl⟩
        have HTQ : Hid (T Q) := Lib.hid (by rw [hTd]; exact hQT)
        have HTi : Hid (∀ b, w.heap.size ≤ b → b < wB.heap.size → T b) := Lib.hid (fun b h1 h2 => by rw [hTd]; exact ⟨h1, h2⟩)
        obtain ⟨os, hos⟩ : ∃ os, os = opsOld d 1 := ⟨_, rfl⟩
        have HOp : Hid (opn d s = ((runs os d).1, (runs os d).2, if (runs os d).1 = 0 then some ⟨1, g1, snap (d.get 1).all, recs (d.get 1).all, 0⟩ else none)) := Lib.hid (by
          unfold opn
          rw [if_neg (by have := hl1'.out; omega), if_neg (by rw [HOn.out]; simp), HFo.out, if_neg (by rw [HGm.out]; exact hbr), HGm.out, hos])
        have HFail : Hid (∀ x w', x ≠ 0 → FailR w R S T wB os d x w' → OpnR R d s S w (.returned (.tuple #[.pointer none, .int .i64 x])) w') := Lib.hid (by
          rintro x w' hx ⟨d', hon', hrun⟩
          obtain ⟨S', q1, q2, q3, q4⟩ := hon'.ex
          exact ⟨S', by rw [HOp.out, hrun]; exact q1, q2, q3, .inl ⟨by rw [HOp.out, hrun]; exact hx, by rw [HOp.out, hrun]⟩⟩)
        have HR0 : Hid (RunR w R S T wB os d M m ((if (d.get 0).all = [] then [] else [.T 0 0]) ++ ((if fend (d.get 1).all < (d.get 1).all.length then [.T 1 (fend (d.get 1).all : Nat)] else []) ++ [.S 1])) d wB) := Lib.hid
          ⟨by rw [hTd]; exact OnR.start HDB.out (fun b hb => hb.2) (fun b hb hT => by have := HD.out.lt b hb; omega) HBB.out, trivial, HF.out, by rw [hos]; rfl⟩
        have HAp : Hid (∀ S' : Nat → Prop, (∀ b, S' b → ¬ T b) → ∀ b, S' b → ¬ (w.heap.size ≤ b ∧ b < wB.heap.size)) := Lib.hid (fun S' h b hb hT => h b hb (HTi.out b hT.1 hT.2))
        clear hvb hos hTd
        refine (RunR.all HR0.out 0 (.inl rfl) (by omega)).mono ?_
        rintro e w6 ⟨A6, n6, c6, rfl, hl6, hR6⟩
        have HR6 := Lib.hid hR6
        have HL6 := Lib.hid hl6
        have x16 : w6.cell? ⟨Q, 1, none⟩ = some (.int .i64 1) := hR6.cell HTQ.out x1
        clear hR6 hl6
        obtain ⟨tr, htr⟩ : ∃ tr : List Ro, tr = (if fend (d.get 1).all < (d.get 1).all.length then [.T 1 (fend (d.get 1).all : Nat)] else []) ++ [.S 1] := ⟨_, rfl⟩
        have HTr := Lib.hid htr
        rw [← htr] at HR6
        clear htr
        by_cases hoe : n6 = 0
        case' pos =>
          subst hoe
          have HRv : Hid (RunR w R S T wB os d M (m + 1) tr d w6) := Lib.hid (by
            have h := HR6.out
            rw [if_pos (List.length_eq_zero_iff.1 HL6.out), List.nil_append] at h
            exact ⟨h.on, h.pow, h.fit.mono (Nat.le_refl _) (by omega), h.run⟩)
          have HGv : Hid (d.get 1 = d.get 1) := Lib.hid rfl
          obtain ⟨dv, hdv⟩ : ∃ e, e = d := ⟨_, rfl⟩
          replace HRv : Hid (RunR w R S T wB os d M (m + 1) tr dv w6) := by rw [hdv]; exact HRv
          replace HGv : Hid (dv.get 1 = d.get 1) := by rw [hdv]; exact HGv
          clear hdv
          go_wp2_with fail
          obtain ⟨wv, hwv⟩ : ∃ e, e = w6 := ⟨_, rfl⟩
          rw [← hwv] at HRv
          rw [← hwv]
          clear hwv x16
        case' neg =>
          have HRt : Hid (RunR w R S T wB os d M m (.T 0 0 :: tr) d w6) := Lib.hid (by
            have h := HR6.out
            rw [if_neg (fun h0 => hoe (by rw [← HL6.out, h0]; rfl))] at h
            exact h)
          have hoe' : 0 < n6 := by omega
          clear hoe
          go_wp2_with fail
          refine (RunR.tru HRt.out (.inl rfl) (by omega) (by omega)).mono ?_
          rintro e wv (⟨x, hx, tx, rfl, hf⟩ | ⟨rfl, dv, hR7, hg7⟩)
          case inl =>
            have HFl := Lib.hid (HFail.out x wv hx hf)
            clear hf hx
            go_wp2
            go_ret2
            exact HFl.out
          case' inr =>
            have HRv : Hid (RunR w R S T wB os d M (m + 1) tr dv wv) := Lib.hid hR7
            have HGv : Hid (dv.get 1 = d.get 1) := Lib.hid (hg7 1 (.inr rfl) (by show (1 : Int) ≠ 0; decide))
            have x17 : wv.cell? ⟨Q, 1, none⟩ = some (.int .i64 1) := hR7.cell HTQ.out x1
            clear hR7 hg7
            go_wp2_with fail
        all_goals
          refine (RunR.all HRv.out 1 (.inr rfl) (by omega)).mono ?_
          rintro e w8 ⟨A8, n8, c8, rfl, hl8, hR8⟩
          rw [HGv.out] at hl8
          have HL8 := Lib.hid hl8
          have HR8 := Lib.hid hR8
          have x18 : w8.cell? ⟨Q, 1, none⟩ = some (.int .i64 1) := hR8.cell HTQ.out x1
          clear hl8 hR8
          by_cases hge : e1 < n8
          case' pos =>
            have HRt : Hid (RunR w R S T wB os d M (m + 1) [.T 1 (e1 : Nat), .S 1] dv w8) := Lib.hid (by
              have h := HR8.out
              rw [HTr.out, if_pos (by rw [HEm.out, HL8.out]; exact hge), HEm.out] at h
              exact h)
            go_wp2_with fail
            refine (RunR.tru HRt.out (.inr rfl) (by omega) (by omega)).mono ?_
            rintro e wz (⟨x, hx, tx, rfl, hf⟩ | ⟨rfl, dz, hR9, hg9⟩)
            case inl =>
              have HFl := Lib.hid (HFail.out x wz hx hf)
              clear hf hx
              go_wp2
              go_ret2
              exact HFl.out
            case' inr =>
              have HRz : Hid (RunR w R S T wB os d M (m + 2) [.S 1] dz wz) := Lib.hid hR9
              have x19 : wz.cell? ⟨Q, 1, none⟩ = some (.int .i64 1) := hR9.cell HTQ.out x1
              clear hR9 hg9
              go_wp2_with fail
          case' neg =>
            have HRz : Hid (RunR w R S T wB os d M (m + 2) [.S 1] dv w8) := Lib.hid (by
              have h := HR8.out
              rw [HTr.out, if_neg (by rw [HEm.out, HL8.out]; exact hge), List.nil_append] at h
              exact ⟨h.on, h.pow, h.fit.mono (Nat.le_refl _) (by omega), h.run⟩)
            have hge' : n8 ≤ e1 := by omega
            go_wp2_with fail
          all_goals
            refine (RunR.syn HRz.out (.inr rfl) (by omega) (by omega)).mono ?_
            rintro e wy (⟨x, hx, tx, rfl, hf⟩ | ⟨rfl, dy, hR10, hg10⟩)
            case inl =>
              have HFl := Lib.hid (HFail.out x wy hx hf)
              clear hf hx
              go_wp2
              go_ret2
              exact HFl.out
            case inr =>
              have HRy := Lib.hid hR10
              clear hR10 hg10
              go_wp2
              go_ret2
              have hrun : runs os d = (0, dy) := HRy.out.run
              obtain ⟨S', q1, q2, q3, q4⟩ := HRy.out.on.ex
              have hst := HRy.out.on.stay
              refine ⟨S', by rw [HOp.out, hrun]; exact q1, q2, q3, .inr ⟨by rw [HOp.out, hrun], _, Q, .slice As1 ns1 cs1, .slice Ar1 nr1 cr1, w.heap.size, wB.heap.size, by rw [HOp.out, hrun]; rfl, rfl, ?_, Nat.le_refl _, hQT.1, hQT.2, hst.1, ?_, ?_, HAp.out S' q4⟩⟩
              · exact (hst.2 Q HTQ.out).trans HVb.out
              · exact HSn.out.stay fun g h1 h2 => hst.2 g (HTi.out g h1 h2)
              · exact HRc.out.stay fun g h1 h2 => hst.2 g (HTi.out g h1 h2)
      case neg =>
        by_cases hz : g0 = 0
        case pos =>
          have hg10 : g1 = 0 := by omega
          subst hz
          obtain ⟨wB, hwB⟩ : ∃ wB, wB = w5.alloc (.cells #[.pointer (some ⟨R, 0, none⟩), .int .i64 0, .int .i64 0, .slice As0 ns0 cs0, .slice Ar0 nr0 cr0, .int .i64 0] 48) := ⟨_, rfl⟩
          have hbB : Below w5.heap.size w5 wB := by rw [hwB]; exact (Below.refl _ w5).alloc (Nat.le_refl _) _
          have HFo : Hid (fileOf d = 0) := Lib.hid (by unfold fileOf; rw [if_neg (by show ¬ gen (d.get 0).all < gen (d.get 1).all; rw [← HG0.out, ← HG1.out]; exact hc1)])
          have HBB := Lib.hid (HB5.out.trans (hbB.mono hsz5))
          have HDB := Lib.hid (HD5.out.next hbB)
          have HOB := Lib.hid (HO5.out.keep hbB (Nat.le_refl _))
          have hsB : w.heap.size ≤ wB.heap.size := HBB.out.size
          have HRB := Lib.hid (HR.out.below HBB.out)
          obtain ⟨T, hTd⟩ : ∃ T : Nat → Prop, T = fun b => (w.heap.size ≤ b ∧ b < wB.heap.size) ∨ (0 < n ∧ ∃ ad, A = some ad ∧ b = ad.block) := ⟨_, rfl⟩
          have HTi : Hid (∀ b, w.heap.size ≤ b → b < wB.heap.size → T b) := Lib.hid (fun b h1 h2 => by rw [hTd]; exact .inl ⟨h1, h2⟩)
          have HTa : Hid (0 < n → ∀ ad, A = some ad → T ad.block) := Lib.hid (fun h1 ad h2 => by rw [hTd]; exact .inr ⟨h1, ad, h2, rfl⟩)
          obtain ⟨os, hos⟩ : ∃ os, os = opsNew d s := ⟨_, rfl⟩
          have HOp : Hid (opn d s = ((runs os d).1, (runs os d).2, if (runs os d).1 = 0 then some ⟨0, 1, s, [], 0⟩ else none)) := Lib.hid (by
            unfold opn
            rw [if_neg (by have := hl1'.out; omega), if_neg (by rw [HOn.out]; simp), HFo.out, if_pos HG0.out.symm, hos])
          have HFail : Hid (∀ x w', x ≠ 0 → FailR w R S T wB os d x w' → OpnR R d s S w (.returned (.tuple #[.pointer none, .int .i64 x])) w') := Lib.hid (by
            rintro x w' hx ⟨d', hon', hrun⟩
            obtain ⟨S', q1, q2, q3, q4⟩ := hon'.ex
            exact ⟨S', by rw [HOp.out, hrun]; exact q1, q2, q3, .inl ⟨by rw [HOp.out, hrun]; exact hx, by rw [HOp.out, hrun]⟩⟩)
          have HR0 : Hid (RunR w R S T wB os d M m ((if (d.get 0).all = [] then [] else [.T 0 0]) ++ ([.A 0 (fg 1 s), .S 0] ++ (if (d.get 1).all = [] then [] else [.T 1 0]))) d wB) := Lib.hid
            ⟨by
              rw [hTd]
              refine OnR.start HDB.out (fun b hb => ?_) (fun b hb hT => ?_) HBB.out
              · rcases hb with hb | ⟨h1, ad, h2, rfl⟩
                · exact hb.2
                · obtain ⟨ad', e', hlt, _⟩ := HR.out.2 h1
                  rw [h2] at e'; injection e' with e'; rw [e']; omega
              · have h3 := HD.out.lt b hb
                rcases hT with h4 | ⟨h1, ad, h2, rfl⟩
                · omega
                · exact HFr.out h1 ad h2 hb, trivial, HF.out, by rw [hos]; rfl⟩
          clear hos hTd
          go_wp2_with fail
          rw [← hwB]
          clear hwB hbB
          refine (RunR.all HR0.out 0 (.inl rfl) (by omega)).mono ?_
          rintro e w6 ⟨A6, n6, c6, rfl, hl6, hR6⟩
          have HR6 := Lib.hid hR6
          have HL6 := Lib.hid hl6
          clear hR6 hl6
          obtain ⟨tr, htr⟩ : ∃ tr : List Ro, tr = (if (d.get 1).all = [] then [] else [.T 1 0]) := ⟨_, rfl⟩
          have HTr := Lib.hid htr
          rw [← htr] at HR6
          clear htr
          by_cases hoe : n6 = 0
          case' pos =>
            subst hoe
            have HRv : Hid (RunR w R S T wB os d M (m + 1) (.A 0 (fg 1 s) :: .S 0 :: tr) d w6) := Lib.hid (by
              have h := HR6.out
              rw [if_pos (List.length_eq_zero_iff.1 HL6.out), List.nil_append] at h
              exact ⟨h.on, h.pow, h.fit.mono (Nat.le_refl _) (by omega), h.run⟩)
            have HGv : Hid (d.get 1 = d.get 1) := Lib.hid rfl
            obtain ⟨dv, hdv⟩ : ∃ e, e = d := ⟨_, rfl⟩
            replace HRv : Hid (RunR w R S T wB os d M (m + 1) (.A 0 (fg 1 s) :: .S 0 :: tr) dv w6) := by rw [hdv]; exact HRv
            replace HGv : Hid (dv.get 1 = d.get 1) := by rw [hdv]; exact HGv
            obtain ⟨wv, hwv⟩ : ∃ e, e = w6 := ⟨_, rfl⟩
            rw [← hwv] at HRv
            clear hdv
            go_wp2_with fail
            rw [← hwv]
            clear hwv
          case' neg =>
            have HRt : Hid (RunR w R S T wB os d M m (.T 0 0 :: .A 0 (fg 1 s) :: .S 0 :: tr) d w6) := Lib.hid (by
              have h := HR6.out
              rw [if_neg (fun h0 => hoe (by rw [← HL6.out, h0]; rfl))] at h
              exact h)
            have hoe' : 0 < n6 := by omega
            clear hoe
            go_wp2_with fail
            refine (RunR.tru HRt.out (.inl rfl) (by omega) (by omega)).mono ?_
            rintro e wv (⟨x, hx, tx, rfl, hf⟩ | ⟨rfl, dv, hR7, hg7⟩)
            case inl =>
              have HFl := Lib.hid (HFail.out x wv hx hf)
              clear hf hx
              go_wp2
              go_ret2
              exact HFl.out
            case' inr =>
              have HRv : Hid (RunR w R S T wB os d M (m + 1) (.A 0 (fg 1 s) :: .S 0 :: tr) dv wv) := Lib.hid hR7
              have HGv : Hid (dv.get 1 = d.get 1) := Lib.hid (hg7 1 (.inr rfl) (by show (1 : Int) ≠ 0; decide))
              clear hR7 hg7
              go_wp2_with fail
          all_goals
            have hrd : Reads wv wv.heap.size 1 A1 n1 (bts (fg 1 s)) := own_reads (HOB.out.stay fun g e => HRv.out.on.stay.2 g (HTi.out g (own_base HOB.out g e) (own_lt HOB.out g e)))
            have hn1 : n1 ≤ 1048584 := by
              have h1 := (own_len HOB.out).1
              have h2 := hl1'.out
              rw [fg_length] at h1
              omega
            refine (RunR.app HRv.out (.inl rfl) A1 n1 c1 hrd (by omega) (by omega)).mono ?_
            rintro e w8 (⟨x, hx, tx, rfl, hf⟩ | ⟨rfl, d8, hR8, hg8⟩)
            case inl =>
              have HFl := Lib.hid (HFail.out x w8 hx hf)
              clear hf hx hrd
              go_wp2
              go_ret2
              exact HFl.out
            case inr =>
              have hM8 : M + Ro.len (.A 0 (fg 1 s)) ≤ 2147483648 := by
                show M + (fg 1 s).length ≤ _
                have h2 := hl1'.out
                rw [fg_length]; omega
              have HR8 := Lib.hid hR8
              have HG8 : Hid (d8.get 1 = d.get 1) := Lib.hid ((hg8 1 (.inr rfl) (by show (1 : Int) ≠ 0; decide)).trans HGv.out)
              clear hR8 hg8 hrd
              go_wp2_with fail
              refine (RunR.syn HR8.out (.inl rfl) (by omega) (by omega)).mono ?_
              rintro e w9 (⟨x, hx, tx, rfl, hf⟩ | ⟨rfl, d9, hR9, hg9⟩)
              case inl =>
                have HFl := Lib.hid (HFail.out x w9 hx hf)
                clear hf hx
                go_wp2
                go_ret2
                exact HFl.out
              case inr =>
                have HR9 := Lib.hid hR9
                have HG9 : Hid (d9.get 1 = d.get 1) := Lib.hid ((hg9 1 (.inr rfl) (by show (1 : Int) ≠ 0; decide)).trans HG8.out)
                clear hR9 hg9
                go_wp2_with fail
                refine (RunR.all HR9.out 1 (.inr rfl) (by show M + Ro.len (.A 0 (fg 1 s)) ≤ _; omega)).mono ?_
                rintro e w10 ⟨A10, n10, c10, rfl, hl10, hR10⟩
                rw [HG9.out] at hl10
                have HL10 := Lib.hid hl10
                have HR10 := Lib.hid hR10
                clear hl10 hR10
                by_cases hoe : n10 = 0
                case' pos =>
                  subst hoe
                  obtain ⟨dz, wz, hwz, hz⟩ : ∃ dz wz, wz = w10 ∧ ∃ M' m', RunR w R S T wB os d M' m' [] dz wz := ⟨d9, w10, rfl, _, _, by
                    have h := HR10.out
                    rw [HTr.out, if_pos (List.length_eq_zero_iff.1 HL10.out)] at h
                    exact h⟩
                  have HRz := Lib.hid hz
                  obtain ⟨M', m', hz⟩ := hz
                  have hrs : Reads wz wz.heap.size 1 A n (bts s) := ⟨HRB.out.1, fun h0 => by
                    obtain ⟨ad, e1, hb, hc⟩ := HRB.out.2 h0
                    have hs1 := hz.on.stay.1
                    exact ⟨ad, e1, by omega, fun j u hu => (World.cell?_of_block (by rw [block_of_add]; exact hz.on.stay.2 _ (HTa.out h0 ad e1))).trans (hc j u hu)⟩⟩
                  have HRs := Lib.hid hrs
                  rw [← hwz]
                  clear hz hrs hwz
                case' neg =>
                  have HRt : Hid (RunR w R S T wB os d (M + Ro.len (.A 0 (fg 1 s)) + Ro.len (.S 0)) (m + 1 + 1 + 1) [.T 1 0] d9 w10) := Lib.hid (by
                    have h := HR10.out
                    rw [HTr.out, if_neg (fun h0 => hoe (by rw [← HL10.out, h0]; rfl))] at h
                    exact h)
                  have hoe' : 0 < n10 := by omega
                  clear hoe
                  go_wp2_with fail
                  refine (RunR.tru HRt.out (.inr rfl) (by show M + Ro.len (.A 0 (fg 1 s)) ≤ _; omega) (by omega)).mono ?_
                  rintro e wz (⟨x, hx, tx, rfl, hf⟩ | ⟨rfl, dz, hz, hg11⟩)
                  case inl =>
                    have HFl := Lib.hid (HFail.out x wz hx hf)
                    clear hf hx
                    go_wp2
                    go_ret2
                    exact HFl.out
                  case' inr =>
                    have HRz : Hid (∃ M' m', RunR w R S T wB os d M' m' [] dz wz) := Lib.hid ⟨_, _, hz⟩
                    have hrs : Reads wz wz.heap.size 1 A n (bts s) := ⟨HRB.out.1, fun h0 => by
                      obtain ⟨ad, e1, hb, hc⟩ := HRB.out.2 h0
                      have hs1 := hz.on.stay.1
                      exact ⟨ad, e1, by omega, fun j u hu => (World.cell?_of_block (by rw [block_of_add]; exact hz.on.stay.2 _ (HTa.out h0 ad e1))).trans (hc j u hu)⟩⟩
                    have HRs := Lib.hid hrs
                    clear hz hg11 hrs
                all_goals
                  go_wp2_with (at_builtin; refine appE wz rfl (.tmp 107) (.tmp 108) rfl wz.heap.size rfl wz.heap.size A c s n rfl HRs.out (Nat.le_refl _) (by omega) (Nat.le_refl _) ?_; intro v12 w12 hown12 hb12; obtain ⟨A12, n12, c12, rfl⟩ := own_slice hown12; have HO12 := Lib.hid hown12; have HB12 := Lib.hid hb12; clear hown12 hb12)
                  go_ret2
                  obtain ⟨M', m', hz⟩ := HRz.out
                  have hrun : runs os d = (0, dz) := hz.run
                  obtain ⟨wF, hwF⟩ : ∃ wF, wF = w12.alloc (.cells #[.pointer (some ⟨R, 0, none⟩), .int .i64 0, .int .i64 1, .slice A12 n12 c12, .slice none 0 0, .int .i64 0] 48) := ⟨_, rfl⟩
                  have hbF : Below w12.heap.size w12 wF := by rw [hwF]; exact (Below.refl _ _).alloc (Nat.le_refl _) _
                  have hbz := HB12.out.trans (hbF.mono HB12.out.size)
                  obtain ⟨S', p1, p2, q3, p4⟩ := hz.on.ex
                  have q1 := p1.next hbz
                  have q2 := p2.next hbz
                  have hsz : wz.heap.size ≤ w12.heap.size := HB12.out.size
                  have hsS : ∀ b, S' b → b < wz.heap.size := p1.lt
                  rw [← hwF]
                  refine ⟨S', by rw [HOp.out, hrun]; exact q1, q2, q3, .inr ⟨by rw [HOp.out, hrun], ⟨0, 1, s, [], 0⟩, w12.heap.size, .slice A12 n12 c12, .slice none 0 0, wz.heap.size, wF.heap.size, by rw [HOp.out, hrun]; rfl, rfl, by rw [hwF]; exact Blk.new _ _ _, ?_, hsz, by rw [hwF]; simp, Nat.le_refl _, ?_, ?_, ?_⟩⟩
                  · have h1 := hz.on.stay.1; omega
                  · have h1 := HO12.out.keep hbF (Nat.le_refl _)
                    exact ⟨A12, n12, c12, rfl, (own_len h1).2, (own_len h1).1, own_reads h1, fun h0 ad e => own_base h1 ad.block (by
                      rcases h1.2 with ⟨e2, _⟩ | ⟨g', cap, cur, e2, _⟩
                      · injection e2 with e2; rw [e] at e2; cases e2
                      · injection e2 with e2; rw [e] at e2; injection e2 with e2; rw [e, e2]; rfl)⟩
                  · exact ⟨none, 0, 0, [], rfl, rfl, ⟨Reads.none_, fun p hp => by simp at hp⟩, .inl ⟨rfl, rfl, rfl⟩, fun p hp => by simp at hp⟩
                  · intro b hb hlo
                    have := hsS b hb
                    omega
        case neg =>
          obtain ⟨wB, hwB⟩ : ∃ wB, wB = w5.alloc (.cells #[.pointer (some ⟨R, 0, none⟩), .int .i64 0, .int .i64 (g0 : Int), .slice As0 ns0 cs0, .slice Ar0 nr0 cr0, .int .i64 0] 48) := ⟨_, rfl⟩
          obtain ⟨Q, hQ⟩ : ∃ Q, Q = w5.heap.size := ⟨_, rfl⟩
          have hbB : Below w5.heap.size w5 wB := by rw [hwB]; exact (Below.refl _ w5).alloc (Nat.le_refl _) _
          have hvb : VaB wB Q R ⟨0, g0, snap (d.get 0).all, recs (d.get 0).all, 0⟩ (.slice As0 ns0 cs0) (.slice Ar0 nr0 cr0) := by rw [hwB, hQ]; exact Blk.new _ _ _
          have HFo : Hid (fileOf d = 0) := Lib.hid (by unfold fileOf; rw [if_neg (by show ¬ gen (d.get 0).all < gen (d.get 1).all; rw [← HG0.out, ← HG1.out]; exact hc1)])
          have HGm : Hid (gen (d.get 0).all = g0) := Lib.hid (HG0.out.symm)
          have HEm : Hid (fend (d.get 0).all = e0) := Lib.hid (HE0.out.symm)
          have hQs : w.heap.size ≤ Q ∧ Q < wB.heap.size := by rw [hQ]; exact ⟨hsz5, by rw [hwB]; simp⟩
          have hbr : g0 ≠ 0 := by omega
          have HSn : Hid (SnV wB w.heap.size wB.heap.size (.slice As0 ns0 cs0) (snap (d.get 0).all)) := Lib.hid (by
            rcases HQ0.out with ⟨hz, _⟩ | ⟨_, q1, q2⟩
            · exact absurd (HG0.out.trans hz) hbr
            · exact ((SnV.more (SnV.stay q1 (fun g h1 h2 => (hbB.block g (Nat.lt_of_lt_of_le h2 HE35.out.size)).trans (HE35.out.block g h2))) (Nat.le_trans HE35.out.size hbB.size))).lower HB2.out.size)
          have HRc : Hid (RcV wB w.heap.size wB.heap.size (.slice Ar0 nr0 cr0) (recs (d.get 0).all)) := Lib.hid (by
            rcases HQ0.out with ⟨hz, _⟩ | ⟨_, q1, q2⟩
            · exact absurd (HG0.out.trans hz) hbr
            · exact ((RcV.more (RcV.stay q2 (fun g h1 h2 => (hbB.block g (Nat.lt_of_lt_of_le h2 HE35.out.size)).trans (HE35.out.block g h2))) (Nat.le_trans HE35.out.size hbB.size))).lower HB2.out.size)
          have HBB := Lib.hid (HB5.out.trans (hbB.mono hsz5))
          have HDB := Lib.hid (HD5.out.next hbB)
          have tg : ((g0 : Int) == 0) = false := by simp; omega
          have x1 : wB.cell? ⟨Q, 1, none⟩ = some (.int .i64 0) := hvb.cell 1
          have x2 : wB.cell? ⟨Q, 2, none⟩ = some (.int .i64 (g0 : Int)) := hvb.cell 2
          have HVb := Lib.hid hvb
          have hsB : w.heap.size ≤ wB.heap.size := HBB.out.size

          go_wp2_with fail
          rw [← hwB, ← hQ]
          clear hwB hQ hbB
          have hQT : w.heap.size ≤ Q ∧ Q < wB.heap.size := hQs
          obtain ⟨T, hTd⟩ : ∃ T : Nat → Prop, T = fun b => w.heap.size ≤ b ∧ b < wB.heap.size := ⟨_, rfl⟩
          have HTQ : Hid (T Q) := Lib.hid (by rw [hTd]; exact hQT)
          have HTi : Hid (∀ b, w.heap.size ≤ b → b < wB.heap.size → T b) := Lib.hid (fun b h1 h2 => by rw [hTd]; exact ⟨h1, h2⟩)
          obtain ⟨os, hos⟩ : ∃ os, os = opsOld d 0 := ⟨_, rfl⟩
          have HOp : Hid (opn d s = ((runs os d).1, (runs os d).2, if (runs os d).1 = 0 then some ⟨0, g0, snap (d.get 0).all, recs (d.get 0).all, 0⟩ else none)) := Lib.hid (by
            unfold opn
            rw [if_neg (by have := hl1'.out; omega), if_neg (by rw [HOn.out]; simp), HFo.out, if_neg (by rw [HGm.out]; exact hbr), HGm.out, hos])
          have HFail : Hid (∀ x w', x ≠ 0 → FailR w R S T wB os d x w' → OpnR R d s S w (.returned (.tuple #[.pointer none, .int .i64 x])) w') := Lib.hid (by
            rintro x w' hx ⟨d', hon', hrun⟩
            obtain ⟨S', q1, q2, q3, q4⟩ := hon'.ex
            exact ⟨S', by rw [HOp.out, hrun]; exact q1, q2, q3, .inl ⟨by rw [HOp.out, hrun]; exact hx, by rw [HOp.out, hrun]⟩⟩)
          have HR0 : Hid (RunR w R S T wB os d M m ((if (d.get 1).all = [] then [] else [.T 1 0]) ++ ((if fend (d.get 0).all < (d.get 0).all.length then [.T 0 (fend (d.get 0).all : Nat)] else []) ++ [.S 0])) d wB) := Lib.hid
            ⟨by rw [hTd]; exact OnR.start HDB.out (fun b hb => hb.2) (fun b hb hT => by have := HD.out.lt b hb; omega) HBB.out, trivial, HF.out, by rw [hos]; rfl⟩
          have HAp : Hid (∀ S' : Nat → Prop, (∀ b, S' b → ¬ T b) → ∀ b, S' b → ¬ (w.heap.size ≤ b ∧ b < wB.heap.size)) := Lib.hid (fun S' h b hb hT => h b hb (HTi.out b hT.1 hT.2))
          clear hvb hos hTd
          refine (RunR.all HR0.out 1 (.inr rfl) (by omega)).mono ?_
          rintro e w6 ⟨A6, n6, c6, rfl, hl6, hR6⟩
          have HR6 := Lib.hid hR6
          have HL6 := Lib.hid hl6
          have x16 : w6.cell? ⟨Q, 1, none⟩ = some (.int .i64 0) := hR6.cell HTQ.out x1
          clear hR6 hl6
          obtain ⟨tr, htr⟩ : ∃ tr : List Ro, tr = (if fend (d.get 0).all < (d.get 0).all.length then [.T 0 (fend (d.get 0).all : Nat)] else []) ++ [.S 0] := ⟨_, rfl⟩
          have HTr := Lib.hid htr
          rw [← htr] at HR6
          clear htr
          by_cases hoe : n6 = 0
          case' pos =>
            subst hoe
            have HRv : Hid (RunR w R S T wB os d M (m + 1) tr d w6) := Lib.hid (by
              have h := HR6.out
              rw [if_pos (List.length_eq_zero_iff.1 HL6.out), List.nil_append] at h
              exact ⟨h.on, h.pow, h.fit.mono (Nat.le_refl _) (by omega), h.run⟩)
            have HGv : Hid (d.get 0 = d.get 0) := Lib.hid rfl
            obtain ⟨dv, hdv⟩ : ∃ e, e = d := ⟨_, rfl⟩
            replace HRv : Hid (RunR w R S T wB os d M (m + 1) tr dv w6) := by rw [hdv]; exact HRv
            replace HGv : Hid (dv.get 0 = d.get 0) := by rw [hdv]; exact HGv
            clear hdv
            go_wp2_with fail
            obtain ⟨wv, hwv⟩ : ∃ e, e = w6 := ⟨_, rfl⟩
            rw [← hwv] at HRv
            rw [← hwv]
            clear hwv x16
          case' neg =>
            have HRt : Hid (RunR w R S T wB os d M m (.T 1 0 :: tr) d w6) := Lib.hid (by
              have h := HR6.out
              rw [if_neg (fun h0 => hoe (by rw [← HL6.out, h0]; rfl))] at h
              exact h)
            have hoe' : 0 < n6 := by omega
            clear hoe
            go_wp2_with fail
            refine (RunR.tru HRt.out (.inr rfl) (by omega) (by omega)).mono ?_
            rintro e wv (⟨x, hx, tx, rfl, hf⟩ | ⟨rfl, dv, hR7, hg7⟩)
            case inl =>
              have HFl := Lib.hid (HFail.out x wv hx hf)
              clear hf hx
              go_wp2
              go_ret2
              exact HFl.out
            case' inr =>
              have HRv : Hid (RunR w R S T wB os d M (m + 1) tr dv wv) := Lib.hid hR7
              have HGv : Hid (dv.get 0 = d.get 0) := Lib.hid (hg7 0 (.inl rfl) (by show (0 : Int) ≠ 1; decide))
              have x17 : wv.cell? ⟨Q, 1, none⟩ = some (.int .i64 0) := hR7.cell HTQ.out x1
              clear hR7 hg7
              go_wp2_with fail
          all_goals
            refine (RunR.all HRv.out 0 (.inl rfl) (by omega)).mono ?_
            rintro e w8 ⟨A8, n8, c8, rfl, hl8, hR8⟩
            rw [HGv.out] at hl8
            have HL8 := Lib.hid hl8
            have HR8 := Lib.hid hR8
            have x18 : w8.cell? ⟨Q, 1, none⟩ = some (.int .i64 0) := hR8.cell HTQ.out x1
            clear hl8 hR8
            by_cases hge : e0 < n8
            case' pos =>
              have HRt : Hid (RunR w R S T wB os d M (m + 1) [.T 0 (e0 : Nat), .S 0] dv w8) := Lib.hid (by
                have h := HR8.out
                rw [HTr.out, if_pos (by rw [HEm.out, HL8.out]; exact hge), HEm.out] at h
                exact h)
              go_wp2_with fail
              refine (RunR.tru HRt.out (.inl rfl) (by omega) (by omega)).mono ?_
              rintro e wz (⟨x, hx, tx, rfl, hf⟩ | ⟨rfl, dz, hR9, hg9⟩)
              case inl =>
                have HFl := Lib.hid (HFail.out x wz hx hf)
                clear hf hx
                go_wp2
                go_ret2
                exact HFl.out
              case' inr =>
                have HRz : Hid (RunR w R S T wB os d M (m + 2) [.S 0] dz wz) := Lib.hid hR9
                have x19 : wz.cell? ⟨Q, 1, none⟩ = some (.int .i64 0) := hR9.cell HTQ.out x1
                clear hR9 hg9
                go_wp2_with fail
            case' neg =>
              have HRz : Hid (RunR w R S T wB os d M (m + 2) [.S 0] dv w8) := Lib.hid (by
                have h := HR8.out
                rw [HTr.out, if_neg (by rw [HEm.out, HL8.out]; exact hge), List.nil_append] at h
                exact ⟨h.on, h.pow, h.fit.mono (Nat.le_refl _) (by omega), h.run⟩)
              have hge' : n8 ≤ e0 := by omega
              go_wp2_with fail
            all_goals
              refine (RunR.syn HRz.out (.inl rfl) (by omega) (by omega)).mono ?_
              rintro e wy (⟨x, hx, tx, rfl, hf⟩ | ⟨rfl, dy, hR10, hg10⟩)
              case inl =>
                have HFl := Lib.hid (HFail.out x wy hx hf)
                clear hf hx
                go_wp2
                go_ret2
                exact HFl.out
              case inr =>
                have HRy := Lib.hid hR10
                clear hR10 hg10
                go_wp2
                go_ret2
                have hrun : runs os d = (0, dy) := HRy.out.run
                obtain ⟨S', q1, q2, q3, q4⟩ := HRy.out.on.ex
                have hst := HRy.out.on.stay
                refine ⟨S', by rw [HOp.out, hrun]; exact q1, q2, q3, .inr ⟨by rw [HOp.out, hrun], _, Q, .slice As0 ns0 cs0, .slice Ar0 nr0 cr0, w.heap.size, wB.heap.size, by rw [HOp.out, hrun]; rfl, rfl, ?_, Nat.le_refl _, hQT.1, hQT.2, hst.1, ?_, ?_, HAp.out S' q4⟩⟩
                · exact (hst.2 Q HTQ.out).trans HVb.out
                · exact HSn.out.stay fun g h1 h2 => hst.2 g (HTi.out g h1 h2)
                · exact HRc.out.stay fun g h1 h2 => hst.2 g (HTi.out g h1 h2)
end Go.Proofs.YtnpmccekkjadhaaDoor.Pk

/- The document's vault with its disk; Append. -/
namespace Go.Proofs.YtnpmccekkjadhaaDoor.Pk
open Go.RowKit Go.Proofs.YtnpmccekkjadhaaDoor.Crc Go.Proofs.YtnpmccekkjadhaaDoor.Fr Go.Proofs.YtnpmccekkjadhaaDoor.Dk Go.Proofs.YtnpmccekkjadhaaDoor.Vk
set_option linter.unusedVariables false
/-- The document's vault at Q, made of the blocks T. -/
def VaS (w : World) (Q R : Nat) (v : VK) (T : Nat → Prop) : Prop :=
  ∃ As ns cs Ar cr, VaB w Q R v (.slice As ns cs) (.slice Ar v.rs.length cr) ∧ RoomL w 0 w.heap.size Ar v.rs.length cr ∧ T = fun b => b = Q ∨ ablk Ar b
theorem room_ne {w : World} {B hi n c : Nat} {A : Option Addr} (h : RoomL w B hi A n c) {Q : Nat} {t : TypeId} {cs : Array Value} (hQ : Blk w Q t cs) (ht : t ≠ 22) : ¬ ablk A Q := by
  rintro ⟨ad, e, rfl⟩
  rcases h with ⟨e2, _⟩ | ⟨g, off, cur, e2, _, _, hh, _⟩
  · rw [e] at e2; cases e2
  · rw [e] at e2; injection e2 with e2
    subst e2
    exact Blk.ne_ hQ (show Blk w g 22 cur from hh) ht rfl
theorem VaS.lt {w : World} {Q R : Nat} {v : VK} {T : Nat → Prop} (h : VaS w Q R v T) : ∀ b, T b → b < w.heap.size := by
  obtain ⟨As, ns, cs, Ar, cr, hb, hr, rfl⟩ := h
  rintro b (rfl | hb')
  · exact hb.lt
  · exact hr.lt b hb'
theorem VaS.stay {w w' : World} {Q R : Nat} {v : VK} {T : Nat → Prop} (h : VaS w Q R v T) (hs : Stay T w w') : VaS w' Q R v T := by
  obtain ⟨As, ns, cs, Ar, cr, hb, hr, rfl⟩ := h
  refine ⟨As, ns, cs, Ar, cr, (hs.2 Q (.inl rfl)).trans hb, ?_, rfl⟩
  rcases hr with h1 | ⟨g, off, cur, e, h0, hlt, hh, h2⟩
  · exact .inl h1
  · exact .inr ⟨g, off, cur, e, h0, Nat.lt_of_lt_of_le hlt hs.1, (hs.2 g (.inr ⟨_, e, rfl⟩)).trans hh, h2⟩
/-- The document's vault with its disk, made of the blocks U. -/
def ModR (w : World) (Q R : Nat) (d : DK) (v : VK) (U : Nat → Prop) : Prop := ∃ S T, DkR w R d S ∧ VaS w Q R v T ∧ (∀ b, S b → ¬ T b) ∧ U = fun b => S b ∨ T b
def AftM (Q R : Nat) (d : DK) (v : VK) (U : Nat → Prop) (w : World) (x : Int) (e : Ending) (w' : World) : Prop :=
  e = .returned (.int .i64 x) ∧ ∃ U', ModR w' Q R d v U' ∧ Turned U w w' ∧ From U U' w
section
variable {w w' : World} {Q R : Nat} {d : DK} {v : VK} {U : Nat → Prop}
theorem ModR.lt (h : ModR w Q R d v U) : ∀ b, U b → b < w.heap.size := by
  obtain ⟨S, T, h1, h2, _, rfl⟩ := h
  rintro b (hb | hb)
  · exact h1.lt b hb
  · exact h2.lt b hb
theorem ModR.stay (h : ModR w Q R d v U) (hs : Stay U w w') : ModR w' Q R d v U := by
  obtain ⟨S, T, h1, h2, h3, rfl⟩ := h
  exact ⟨S, T, h1.stay ⟨hs.1, fun b hb => hs.2 b (.inl hb)⟩, h2.stay ⟨hs.1, fun b hb => hs.2 b (.inr hb)⟩, h3, rfl⟩
theorem ModR.next (h : ModR w Q R d v U) (hb : Below w.heap.size w w') : ModR w' Q R d v U := h.stay (Stay.below hb h.lt)
/-- The error that a vault answers again. -/
theorem ModR.sick (h : ModR w Q R d v U) (x : Int) : ModR (w.setCell ⟨Q, 5, none⟩ (.int .i64 x)) Q R d { v with sick := x } U ∧ U Q := by
  obtain ⟨S, T, h1, ⟨As, ns, cs, Ar, cr, hb, hr, rfl⟩, h3, rfl⟩ := h
  have hne := room_ne hr hb (by decide)
  have hfar : ∀ b, b ≠ Q → (w.setCell ⟨Q, 5, none⟩ (.int .i64 x)).heap[b]? = w.heap[b]? := fun b hb => Below.heap_setCell w ⟨Q, 5, none⟩ _ b (by show ¬ b = Q; exact hb)
  have hsz : w.heap.size ≤ (w.setCell ⟨Q, 5, none⟩ (.int .i64 x)).heap.size := by simp [World.setCell]
  refine ⟨⟨S, _, h1.stay ⟨hsz, fun b hb' => hfar b (fun e => h3 b hb' (.inl e))⟩, ⟨As, ns, cs, Ar, cr, hb.set_ 5 _, ?_, rfl⟩, h3, rfl⟩, .inr (.inl rfl)⟩
  rcases hr with h4 | ⟨g, off, cur, e, h0, hlt, hh, h5⟩
  · exact .inl h4
  · exact .inr ⟨g, off, cur, e, h0, Nat.lt_of_lt_of_le hlt hsz, (hfar g (fun e2 => hne ⟨_, e, e2.symm⟩)).trans hh, h5⟩
theorem RoomL.next {n c : Nat} {A : Option Addr} (h : RoomL w 0 w.heap.size A n c) (hb : Below w.heap.size w w') : RoomL w' 0 w'.heap.size A n c :=
  (h.stay fun g h1 h2 => hb.block g h2).more hb.size
/-- What stands of a vault whose disk went on. -/
theorem OnR.mod {w0 wT wi : World} {S T Tv : Nat → Prop} {d' : DK} (h : OnR w0 R S T wT d' wi) (hV : VaS wT Q R v Tv) (hT : ∀ b, Tv b → T b) : ∃ U', ModR wi Q R d' v U' ∧ Turned (fun b => S b ∨ Tv b) w0 wi ∧ From (fun b => S b ∨ Tv b) U' w0 := by
  obtain ⟨S', h1, t, f, ap⟩ := h.ex
  refine ⟨fun b => S' b ∨ Tv b, ⟨S', Tv, h1, hV.stay ⟨h.stay.1, fun b hb => h.stay.2 b (hT b hb)⟩, fun b hb hv => ap b hb (hT b hv), rfl⟩, ?_, ?_⟩
  · exact ⟨t.os, t.tape, t.output, t.size, fun i hi hn => t.block i hi (fun hs => hn (.inl hs))⟩
  · rintro b (hb | hb)
    · rcases f b hb with h2 | h2
      · exact .inl (.inl h2)
      · exact .inr h2
    · exact .inl (.inr hb)
end

set_option maxRecDepth 100000 in
set_option maxHeartbeats 8000000 in
theorem appendR_any (Q R : Nat) (A : Option Addr) (n c : Nat) (r : List Int) (d : DK) (v : VK) (U : Nat → Prop) (w : World) (hm : ModR w Q R d v U) (hr : Reads w w.heap.size 1 A n (bts r)) (hby : Bytes r) (hfree : Free U A n) (hf : v.file = 0 ∨ v.file = 1)
    (hn : n ≤ 1073741824) (hl : v.rs.length ≤ 1073741824) (M m : Nat) (hfit : d.fit M m) (hM : M ≤ 1073741824) (hmm : m ≤ 1152921504606846976) :
    Calls Tryd.prog 13 #[.pointer (some ⟨Q, 0, none⟩), .slice A n c] w (AftM Q R (apd d v r).2.1 (apd d v r).2.2 U w (apd d v r).1) := by
  have hsl : r.length = n := by have := hr.1; simpa using this
  have HX := Lib.hid (refEnc_any A n c r w hr hby (by omega))
  have HL := Lib.hid hsl
  have HR := Lib.hid hr
  have HF := Lib.hid hfit
  have HMo := Lib.hid hm
  have HFr := Lib.hid hfree
  have HFi := Lib.hid hf
  clear hm hr hby hfit hsl hfree
  go_enter Tryd.func13, Tryd.ntmps13
  go_wp2_with fail
  refine HX.out.mono ?_
  rintro e w1 ⟨hb1, ⟨hl1, A1, n1, c1, rfl, ho1⟩ | ⟨hl1, rfl⟩⟩
  case inr =>
    have HO : Hid (apd d v r = (3, d, v)) := Lib.hid (by unfold apd; rw [if_pos hl1])
    have HB1 := Lib.hid hb1
    clear hb1 hl1 HX
    go_wp2
    go_ret
    exact ⟨by rw [HO.out]; rfl, U, by rw [HO.out]; exact HMo.out.next HB1.out, Turned.of HB1.out (Nat.le_refl _) U, From.refl _ _⟩
  case inl =>
    have hm1 := HMo.out.next hb1
    have HM1 := Lib.hid hm1
    obtain ⟨S, Tv, hD, hV, hap, hU⟩ := hm1
    obtain ⟨As, ns, cs, Ar, cr, hvb, hroom, hTv⟩ := hV
    obtain ⟨vf, vg, vsn, vrs, vk⟩ := v
    simp only at hf hl hvb hroom
    have x0 : w1.cell? ⟨Q, 0, none⟩ = some (.pointer (some ⟨R, 0, none⟩)) := hvb.cell 0
    have x1 : w1.cell? ⟨Q, 1, none⟩ = some (.int .i64 vf) := hvb.cell 1
    have x5 : w1.cell? ⟨Q, 5, none⟩ = some (.int .i64 vk) := hvb.cell 5
    have f5 : w1.frozen? ⟨Q, 5, none⟩ = false := hvb.frozen 5
    have HB1 := Lib.hid hb1
    have HO1 := Lib.hid ho1
    have HL1 := Lib.hid hl1
    have HD1 := Lib.hid hD
    have HVb := Lib.hid hvb
    have HRm := Lib.hid hroom
    have HAp := Lib.hid hap
    have HTv := Lib.hid hTv
    have HU := Lib.hid hU
    have hsz1 : w.heap.size ≤ w1.heap.size := hb1.size
    clear hb1 ho1 hl1 hD hvb hroom hap hTv hU HX
    by_cases hk : vk = 0
    case neg =>
      have HO : Hid (apd d ⟨vf, vg, vsn, vrs, vk⟩ r = (vk, d, ⟨vf, vg, vsn, vrs, vk⟩)) := Lib.hid (apd_sick hk HL1.out)
      have tk : (vk != 0) = true := by simpa using hk
      go_wp2
      go_ret
      exact ⟨by rw [HO.out]; rfl, U, by rw [HO.out]; exact HM1.out, Turned.of HB1.out (Nat.le_refl _) U, From.refl _ _⟩
    case pos =>
      subst hk
      obtain ⟨T, hTd⟩ : ∃ T : Nat → Prop, T = fun b => Tv b ∨ (w.heap.size ≤ b ∧ b < w1.heap.size) ∨ (0 < n ∧ ablk A b) := ⟨_, rfl⟩
      have HVs : Hid (VaS w1 Q R ⟨vf, vg, vsn, vrs, 0⟩ Tv) := Lib.hid ⟨As, ns, cs, Ar, cr, HVb.out, HRm.out, HTv.out⟩
      have HT1 : Hid (OnR w R S T w1 d w1) := Lib.hid (by
        refine OnR.start HD1.out (fun b hb => ?_) (fun b hb hT => ?_) HB1.out
        · rw [hTd] at hb
          rcases hb with hb | hb | ⟨h0, ad, e, rfl⟩
          · exact HVs.out.lt b hb
          · exact hb.2
          · obtain ⟨ad', e', hlt, _⟩ := HR.out.2 h0
            rw [e] at e'; injection e' with e'; rw [e']; omega
        · rw [hTd] at hT
          have hUb : U b := by rw [HU.out]; exact .inl hb
          rcases hT with h2 | h2 | ⟨h0, ad, e, rfl⟩
          · exact HAp.out b hb h2
          · have := HMo.out.lt b hUb; omega
          · exact HFr.out h0 ad e hUb)
      have HTT : Hid (∀ b, Tv b → T b) := Lib.hid (fun b hb => by rw [hTd]; exact .inl hb)
      have HTi : Hid (∀ b, w.heap.size ≤ b → b < w1.heap.size → T b) := Lib.hid (fun b h1 h2 => by rw [hTd]; exact .inr (.inl ⟨h1, h2⟩))
      have HTa : Hid (0 < n → ∀ ad, A = some ad → T ad.block) := Lib.hid (fun h1 ad h2 => by rw [hTd]; exact .inr (.inr ⟨h1, ad, h2, rfl⟩))
      have HTQ : Hid (T Q) := Lib.hid (HTT.out Q (by rw [HTv.out]; exact .inl rfl))
      have hUe : (fun b => S b ∨ Tv b) = U := HU.out.symm
      clear hTd
      obtain ⟨os, hos⟩ : ∃ os : List Ro, os = [.A vf (enc r), .S vf] := ⟨_, rfl⟩
      have HR0 : Hid (RunR w R S T w1 os d M m [.A vf (enc r), .S vf] d w1) := Lib.hid ⟨HT1.out, trivial, HF.out, by rw [hos]⟩
      have HOp : Hid (apd d ⟨vf, vg, vsn, vrs, 0⟩ r = ((runs os d).1, (runs os d).2, if (runs os d).1 = 0 then ⟨vf, vg, vsn, vrs ++ [r], 0⟩ else ⟨vf, vg, vsn, vrs, (runs os d).1⟩)) := Lib.hid (by
        unfold apd
        rw [if_neg (by have := HL1.out; omega), if_pos rfl, hos])
      have HFail : Hid (∀ x w', x ≠ 0 → FailR w R S T w1 os d x w' → AftM Q R (apd d ⟨vf, vg, vsn, vrs, 0⟩ r).2.1 (apd d ⟨vf, vg, vsn, vrs, 0⟩ r).2.2 U w (apd d ⟨vf, vg, vsn, vrs, 0⟩ r).1 (.returned (.int .i64 x)) (w'.setCell ⟨Q, 5, none⟩ (.int .i64 x))) := Lib.hid (by
        rintro x w' hx ⟨d', hon', hrun⟩
        rw [HOp.out, hrun, if_neg hx]
        obtain ⟨U', q1, q2, q3⟩ := hon'.mod HVs.out HTT.out
        obtain ⟨q4, q5⟩ := q1.sick x
        rw [hUe] at q2 q3
        exact ⟨rfl, U', q4, q2.set (by rw [HU.out]; exact .inr (by rw [HTv.out]; exact .inl rfl)) _, q3⟩)
      clear hos
      obtain ⟨ee, hee⟩ : ∃ ee, ee = d.appE vf := ⟨_, rfl⟩
      have hn1 : n1 ≤ 1048584 := by
        have h1 := (own_len HO1.out).1
        have h2 := HL1.out
        rw [enc_length] at h1
        omega
      have HA : Hid (∀ q, Calls Tryd.prog 35 #[.pointer (some ⟨R, 0, none⟩), .int .i64 vf, .slice A1 n1 c1] (w1.drewN q) fun e w' => e = .returned (.int .i64 ee) ∧ OnR w R S T w1 (d.app vf (enc r)) w') := Lib.hid (fun q => by
        rw [hee]
        exact (HT1.out.next (below_drewN (Below.refl _ _) q)).app vf A1 n1 c1 (enc r) (own_reads HO1.out) M m HF.out (by omega) (by omega))
      have HEe := Lib.hid hee
      clear hee
      go_wp2_with fail
      go_region_held3 (fun w' => w'.cell? ⟨Q, 0, none⟩ = some (.pointer (some ⟨R, 0, none⟩)) ∧ w'.cell? ⟨Q, 1, none⟩ = some (.int .i64 vf)) (first | exact ⟨x0, x1⟩ | go_keep) (first
        | (go_at_call 35; go_must (refine (HA.out _).mono ?_; rintro e w2 ⟨rfl, hon2⟩; have HT2 := Lib.hid hon2; have hb2 : w2.heap[Q]? = w1.heap[Q]? := hon2.stay.2 Q HTQ.out; have y0 : w2.cell? ⟨Q, 0, none⟩ = some (.pointer (some ⟨R, 0, none⟩)) := (World.cell?_of_block (a := ⟨Q, 0, none⟩) hb2).trans x0; have y1 : w2.cell? ⟨Q, 1, none⟩ = some (.int .i64 vf) := (World.cell?_of_block (a := ⟨Q, 1, none⟩) hb2).trans x1; have y5 : w2.cell? ⟨Q, 5, none⟩ = some (.int .i64 0) := (World.cell?_of_block (a := ⟨Q, 5, none⟩) hb2).trans x5; have yf : w2.frozen? ⟨Q, 5, none⟩ = false := (World.frozen?_of_block (a := ⟨Q, 5, none⟩) hb2).trans f5; clear hon2 hb2)))
      rcases HR0.out.step (o := .A vf (enc r)) HFi.out (e := .returned (.int .i64 ee)) (by rw [HEe.out]; rfl) HT2.out with ⟨x, hx, tx, he, hfl⟩ | ⟨he, d2, hR2, hg2⟩
      case inl =>
        obtain rfl : ee = x := by injection he with he; injection he
        have HFl := Lib.hid (HFail.out ee w2 hx hfl)
        have te : (ee == 0) = false := by simpa using hx
        clear hfl he hx
        go_wp2
        go_ret
        exact HFl.out
      case inr =>
        obtain rfl : ee = 0 := by injection he with he; injection he
        have HR2 := Lib.hid hR2
        obtain ⟨e2, hee2⟩ : ∃ ee, ee = d2.appE vf := ⟨_, rfl⟩
        have HS2 : Hid (∀ q, Calls Tryd.prog 36 #[.pointer (some ⟨R, 0, none⟩), .int .i64 vf] (w2.drewN q) fun e w' => e = .returned (.int .i64 e2) ∧ OnR w R S T w1 (d2.syn vf) w') := Lib.hid (fun q => by
          rw [hee2]
          exact (HR2.out.on.next (below_drewN (Below.refl _ _) q)).syn vf _ _ HR2.out.fit (by show M + (enc r).length ≤ _; have h1 := (own_len HO1.out).1; omega) (by omega))
        have HEe2 := Lib.hid hee2
        clear hee2 he hR2 hg2
        go_wp2_with fail
        go_region_held3 (fun w' => w'.cell? ⟨Q, 0, none⟩ = some (.pointer (some ⟨R, 0, none⟩)) ∧ w'.cell? ⟨Q, 1, none⟩ = some (.int .i64 vf)) (first | exact ⟨y0, y1⟩ | go_keep) (first
          | (go_at_call 36; go_must (refine (HS2.out _).mono ?_; rintro e w3 ⟨rfl, hon3⟩; have HT3 := Lib.hid hon3; have hb3 : w3.heap[Q]? = w1.heap[Q]? := hon3.stay.2 Q HTQ.out; have z0 : w3.cell? ⟨Q, 0, none⟩ = some (.pointer (some ⟨R, 0, none⟩)) := (World.cell?_of_block (a := ⟨Q, 0, none⟩) hb3).trans x0; have z1 : w3.cell? ⟨Q, 1, none⟩ = some (.int .i64 vf) := (World.cell?_of_block (a := ⟨Q, 1, none⟩) hb3).trans x1; have z5 : w3.cell? ⟨Q, 5, none⟩ = some (.int .i64 0) := (World.cell?_of_block (a := ⟨Q, 5, none⟩) hb3).trans x5; have zf : w3.frozen? ⟨Q, 5, none⟩ = false := (World.frozen?_of_block (a := ⟨Q, 5, none⟩) hb3).trans f5; clear hon3 hb3)))
        rcases HR2.out.step (o := .S vf) HFi.out (e := .returned (.int .i64 e2)) (by rw [HEe2.out]; rfl) HT3.out with ⟨x, hx, tx, he, hfl⟩ | ⟨he, d3, hR3, hg3⟩
        case inl =>
          obtain rfl : e2 = x := by injection he with he; injection he
          have HFl := Lib.hid (HFail.out e2 w3 hx hfl)
          clear hfl he hx
          go_wp2
          go_ret
          exact HFl.out
        case inr =>
          obtain rfl : e2 = 0 := by injection he with he; injection he
          have HR3 := Lib.hid hR3
          have hst3 := hR3.on.stay
          have hb3 : w3.heap[Q]? = w1.heap[Q]? := hst3.2 Q HTQ.out
          have v3 : VaB w3 Q R ⟨vf, vg, vsn, vrs, 0⟩ (.slice As ns cs) (.slice Ar vrs.length cr) := hb3.trans HVb.out
          have hrm3 : RoomL w3 0 w3.heap.size Ar vrs.length cr := by
            have h1 := HVs.out.stay (w' := w3) ⟨hst3.1, fun b hb => hst3.2 b (HTT.out b hb)⟩
            rcases HRm.out with h4 | ⟨g, off, cur, e, h0, hlt, hh, h5⟩
            · exact .inl h4
            · exact .inr ⟨g, off, cur, e, h0, Nat.lt_of_lt_of_le hlt hst3.1, (hst3.2 g (HTT.out g (by rw [HTv.out]; exact .inr ⟨_, e, rfl⟩))).trans hh, h5⟩
          have hrd3 : Reads w3 w3.heap.size 1 A n (bts r) := ⟨HR.out.1, fun h0 => by
            obtain ⟨ad, e1, hb, hc⟩ := HR.out.2 h0
            exact ⟨ad, e1, by have := hst3.1; omega, fun j u hu => (World.cell?_of_block (by rw [block_of_add]; exact hst3.2 _ (HTa.out h0 ad e1))).trans ((HB1.out.cell (by rw [block_of_add]; exact hb)).trans (hc j u hu))⟩⟩
          have z4 : w3.cell? ⟨Q, 4, none⟩ = some (.slice Ar vrs.length cr) := v3.cell 4
          have HV3 := Lib.hid v3
          have HRm3 := Lib.hid hrm3
          have HRd3 := Lib.hid hrd3
          have hQ3 : Q < w3.heap.size := v3.lt
          have hrun : Hid (runs os d = (0, d3)) := Lib.hid hR3.run
          clear he hR3 hg3 hst3 hb3 v3 hrm3 hrd3
          go_wp2_with fail
          go_region_law (first
            | (refine stepE _ w3.heap.size rfl (.tmp 57) (.tmp 58) rfl rfl (OwnB.fresh _ _ (Nat.le_refl _)) w3.heap.size A c r n rfl (HRd3.out.alloc (Nat.le_refl _) _) (by omega) (by simp) ?_; intro A10 n10 c10 w10 hown10 hb10; have hb10' : Below w3.heap.size w3 w10 := (below_drew_alloc w3 _).trans hb10; have zz : w10.cell? ⟨Q, 4, none⟩ = some (.slice Ar vrs.length cr) := (hb10'.cell (p := ⟨Q, 4, none⟩) hQ3).trans z4; have HW10 := Lib.hid hown10; have HB10 := Lib.hid hb10'; have HRm10 := Lib.hid (HRm3.out.next hb10'); have HV10 := Lib.hid (HV3.out.below hb10' hQ3); have zz2 : (w10.alloc (.cells #[.slice A10 n10 c10] 22)).cell? ⟨Q, 4, none⟩ = some (.slice Ar vrs.length cr) := (World.cell?_alloc_lt w10 _ ⟨Q, 4, none⟩ HV10.out.lt).trans zz; clear hown10 hb10 hb10')
            | (refine stepOff rfl (.tmp 56) (.tmp 60) rfl Ar vrs.length cr rfl (HRm10.out.next ((Below.refl _ w10).alloc (Nat.le_refl _) _)) w10.heap.size ⟨A10, n10, c10, r⟩ _ rfl (Blk.new _ _ _) (by omega) ?_; intro A11 c11 w11 hroom11 ht11 hbl11; have HRm11 := Lib.hid hroom11; have HT11 := Lib.hid ht11; have HBl11 := Lib.hid hbl11; have hQ11 : w11.heap[Q]? = w10.heap[Q]? := (ht11.block Q (by simp; have := HV10.out.lt; omega) (room_ne HRm10.out HV10.out (by decide))).trans (Below.heap_alloc w10 _ Q HV10.out.lt); have zf4 : w11.frozen? ⟨Q, 4, none⟩ = false := (World.frozen?_of_block (a := ⟨Q, 4, none⟩) hQ11).trans (HV10.out.frozen 4); have zc4 : w11.cell? ⟨Q, 4, none⟩ = some (.slice Ar vrs.length cr) := (World.cell?_of_block (a := ⟨Q, 4, none⟩) hQ11).trans zz; clear hroom11 ht11 hbl11))
          all_goals
            go_wp2
            go_ret
            obtain ⟨S', p1, p2, p3, p4⟩ := HR3.out.on.ex
            have hwa : Below w3.heap.size w3 (w10.alloc (.cells #[.slice A10 n10 c10] 22)) := HB10.out.trans ((Below.refl _ w10).alloc HB10.out.size _)
            have ht : Turned Tv w3 w11 := (Turned.of hwa (Nat.le_refl _) Tv).trans HT11.out (fun b hb hbl => by rw [HTv.out]; exact .inr hbl)
            have hTvQ : Tv Q := by rw [HTv.out]; exact .inl rfl
            have ht2 : Turned Tv w3 (w11.setCell ⟨Q, 4, none⟩ (.slice A11 (vrs.length + 1) c11)) := ht.set (p := ⟨Q, 4, none⟩) hTvQ _
            have hv11 : VaB w11 Q R ⟨vf, vg, vsn, vrs, 0⟩ (.slice As ns cs) (.slice Ar vrs.length cr) := hQ11.trans HV10.out
            have hne := room_ne HRm11.out hv11 (by decide)
            have hS3 := p1.lt
            rw [HOp.out, hrun.out]
            refine ⟨rfl, fun b => S' b ∨ (b = Q ∨ ablk A11 b), ⟨S', _, p1.stay ⟨ht2.size, fun b hb => ht2.block b (hS3 b hb) (fun hv => p4 b hb (HTT.out b hv))⟩, ⟨As, ns, cs, A11, c11, ?_, ?_, rfl⟩, ?_, rfl⟩, ?_, ?_⟩
            · have h1 := hv11.set_ 4 (.slice A11 (vrs.length + 1) c11)
              show VaB _ Q R ⟨vf, vg, vsn, vrs ++ [r], 0⟩ _ (.slice A11 (vrs ++ [r]).length c11)
              rw [show (vrs ++ [r]).length = vrs.length + 1 by simp]
              exact h1
            · show RoomL _ 0 _ A11 (vrs ++ [r]).length c11
              rw [show (vrs ++ [r]).length = vrs.length + 1 by simp]
              rcases HRm11.out with h4 | ⟨g, off, cur, e, h0, hlt, hh, h5⟩
              · exact .inl h4
              · exact .inr ⟨g, off, cur, e, h0, by simpa [World.setCell] using hlt, (Below.heap_setCell w11 ⟨Q, 4, none⟩ _ g (fun e2 => hne ⟨_, e, e2.symm⟩)).trans hh, h5⟩
            · rintro b hb (rfl | hb2)
              · exact p4 b hb (HTT.out b hTvQ)
              · rcases HBl11.out b hb2 with h1 | h1
                · exact p4 b hb (HTT.out b (by rw [HTv.out]; exact .inr h1))
                · have h2 := hS3 b hb
                  have h3 := hwa.size
                  omega
            · have h1 : Turned U w w3 := ⟨p2.os, p2.tape, p2.output, p2.size, fun i hi hn => p2.block i hi (fun hs => hn (by rw [← hUe]; exact .inl hs))⟩
              exact h1.trans ht2 (fun b hb hv => by rw [← hUe]; exact .inr hv)
            · rintro b (hb | rfl | hb)
              · rcases p3 b hb with h1 | h1
                · exact .inl (by rw [← hUe]; exact .inl h1)
                · exact .inr h1
              · exact .inl (by rw [← hUe]; exact .inr hTvQ)
              · rcases HBl11.out b hb with h1 | h1
                · exact .inl (by rw [← hUe]; exact .inr (by rw [HTv.out]; exact .inr h1))
                · have h2 := hwa.size
                  have h3 := p2.size
                  exact .inr (by omega)
end Go.Proofs.YtnpmccekkjadhaaDoor.Pk

/- The program's vault in memory: THE ONE TEXT THAT HANGS ON HOW IT IS WRITTEN (at cf5cad0: disk, file, generation, count, sick). -/
namespace Go.Proofs.YtnpmccekkjadhaaDoor.Pk
open Go.RowKit Go.Proofs.YtnpmccekkjadhaaDoor.Crc Go.Proofs.YtnpmccekkjadhaaDoor.Fr Go.Proofs.YtnpmccekkjadhaaDoor.Dk Go.Proofs.YtnpmccekkjadhaaDoor.Vk
set_option linter.unusedVariables false
/-- The program's vault at Q over the disk at R, made of the blocks T. -/
def VaC (w : World) (Q R : Nat) (v : VK) (T : Nat → Prop) : Prop :=
  Blk w Q 68 #[.pointer (some ⟨R, 0, none⟩), .int .i64 v.file, .int .u64 (v.g : Int), .int .i64 (v.rs.length : Int), .int .i64 v.sick] ∧ v.g ≤ 4611686018427387904 ∧ T = fun b => b = Q
theorem VaC.lt {w : World} {Q R : Nat} {v : VK} {T : Nat → Prop} (h : VaC w Q R v T) : ∀ b, T b → b < w.heap.size := by
  obtain ⟨hb, _, rfl⟩ := h
  rintro b rfl
  exact hb.lt
theorem VaC.stay {w w' : World} {Q R : Nat} {v : VK} {T : Nat → Prop} (h : VaC w Q R v T) (hs : Stay T w w') : VaC w' Q R v T := by
  obtain ⟨hb, hg, rfl⟩ := h
  exact ⟨(hs.2 Q rfl).trans hb, hg, rfl⟩
end Go.Proofs.YtnpmccekkjadhaaDoor.Pk

/- The document's vault: Checkpoint. -/
namespace Go.Proofs.YtnpmccekkjadhaaDoor.Pk
open Go.RowKit Go.Proofs.YtnpmccekkjadhaaDoor.Crc Go.Proofs.YtnpmccekkjadhaaDoor.Fr Go.Proofs.YtnpmccekkjadhaaDoor.Dk Go.Proofs.YtnpmccekkjadhaaDoor.Vk
set_option linter.unusedVariables false
set_option maxRecDepth 100000 in
set_option maxHeartbeats 8000000 in
theorem ckpR_any (Q R : Nat) (A : Option Addr) (n c : Nat) (s : List Int) (d : DK) (v : VK) (U : Nat → Prop) (w : World) (hm : ModR w Q R d v U) (hr : Reads w w.heap.size 1 A n (bts s)) (hby : Bytes s) (hfree : Free U A n) (hf : v.file = 0 ∨ v.file = 1)
    (hn : n ≤ 1073741824) (hg : v.g ≤ 4611686018427387904) (M m : Nat) (hfit : d.fit M m) (hM : M ≤ 1073741824) (hmm : m ≤ 1152921504606846976) :
    Calls Tryd.prog 15 #[.pointer (some ⟨Q, 0, none⟩), .slice A n c] w (AftM Q R (ckp d v s).2.1 (ckp d v s).2.2 U w (ckp d v s).1) := by
  have hsl : s.length = n := by have := hr.1; simpa using this
  have HX := Lib.hid (firstR_any (v.g + 1) (by omega) A n c s w hr hby (by omega))
  have HL := Lib.hid hsl
  have HR := Lib.hid hr
  have HBy := Lib.hid hby
  have HF := Lib.hid hfit
  have HMo := Lib.hid hm
  have HFr := Lib.hid hfree
  obtain ⟨S0, Tv0, hD0, ⟨As0, ns0, cs0, Ar0, cr0, hvb0, hroom0, hTv0⟩, hap0, hU0⟩ := hm
  obtain ⟨vf, vg, vsn, vrs, vk⟩ := v
  simp only at hf hg HX
  have x2 : w.cell? ⟨Q, 2, none⟩ = some (.int .i64 (vg : Int)) := hvb0.cell 2
  have eg : (vg : Int) + 1 = ((vg + 1 : Nat) : Int) := by omega
  rw [← eg] at HX
  clear eg
  clear hr hby hfit hsl hfree hD0 hvb0 hroom0 hTv0 hap0 hU0
  go_enter Tryd.func15, Tryd.ntmps15
  go_wp2_with fail
  refine HX.out.mono ?_
  rintro e w1 ⟨hb1, ⟨hl1, A1, n1, c1, rfl, ho1⟩ | ⟨hl1, rfl⟩⟩
  case inr =>
    have HO : Hid (ckp d ⟨vf, vg, vsn, vrs, vk⟩ s = (3, d, ⟨vf, vg, vsn, vrs, vk⟩)) := Lib.hid (by unfold ckp; rw [if_pos hl1])
    have HB1 := Lib.hid hb1
    clear hb1 hl1 HX
    go_wp2
    go_ret
    exact ⟨by rw [HO.out]; rfl, U, by rw [HO.out]; exact HMo.out.next HB1.out, Turned.of HB1.out (Nat.le_refl _) U, From.refl _ _⟩
  case inl =>
    have hm1 := HMo.out.next hb1
    have HM1 := Lib.hid hm1
    obtain ⟨S, Tv, hD, hV, hap, hU⟩ := hm1
    obtain ⟨As, ns, cs, Ar, cr, hvb, hroom, hTv⟩ := hV
    simp only at hvb hroom
    have x0 : w1.cell? ⟨Q, 0, none⟩ = some (.pointer (some ⟨R, 0, none⟩)) := hvb.cell 0
    have x1 : w1.cell? ⟨Q, 1, none⟩ = some (.int .i64 vf) := hvb.cell 1
    have x2' : w1.cell? ⟨Q, 2, none⟩ = some (.int .i64 (vg : Int)) := hvb.cell 2
    have x5 : w1.cell? ⟨Q, 5, none⟩ = some (.int .i64 vk) := hvb.cell 5
    have f5 : w1.frozen? ⟨Q, 5, none⟩ = false := hvb.frozen 5
    have HB1 := Lib.hid hb1
    have HO1 := Lib.hid ho1
    have HL1 := Lib.hid hl1
    have HD1 := Lib.hid hD
    have HVb := Lib.hid hvb
    have HRm := Lib.hid hroom
    have HAp := Lib.hid hap
    have HTv := Lib.hid hTv
    have HU := Lib.hid hU
    have hsz1 : w.heap.size ≤ w1.heap.size := hb1.size
    clear hb1 ho1 hl1 hD hvb hroom hap hTv hU HX x2
    by_cases hgm : 4611686018427387904 ≤ vg
    case pos =>
      have HO : Hid (ckp d ⟨vf, vg, vsn, vrs, vk⟩ s = (23, d, ⟨vf, vg, vsn, vrs, vk⟩)) := Lib.hid (by unfold ckp; rw [if_neg (by have := HL1.out; omega), if_pos hgm])
      have tg : decide ((4611686018427387904 : Int) ≤ (vg : Int)) = true := by simp; omega
      clear hgm hg
      go_wp2
      go_ret
      exact ⟨by rw [HO.out]; rfl, U, by rw [HO.out]; exact HM1.out, Turned.of HB1.out (Nat.le_refl _) U, From.refl _ _⟩
    have HGl : Hid (vg < 4611686018427387904) := Lib.hid (by omega)
    have tg : decide ((4611686018427387904 : Int) ≤ (vg : Int)) = false := by simp; omega
    have hv63 : vg ≤ 4611686018427387903 := by omega
    clear hgm hg
    by_cases hk : vk = 0
    case neg =>
      have HO : Hid (ckp d ⟨vf, vg, vsn, vrs, vk⟩ s = (vk, d, ⟨vf, vg, vsn, vrs, vk⟩)) := Lib.hid (ckp_sick hk HL1.out HGl.out)
      have tk : (vk != 0) = true := by simpa using hk
      go_wp2
      go_ret
      exact ⟨by rw [HO.out]; rfl, U, by rw [HO.out]; exact HM1.out, Turned.of HB1.out (Nat.le_refl _) U, From.refl _ _⟩
    case pos =>
      subst hk
      obtain ⟨T, hTd⟩ : ∃ T : Nat → Prop, T = fun b => Tv b ∨ (w.heap.size ≤ b ∧ b < w1.heap.size) ∨ (0 < n ∧ ablk A b) := ⟨_, rfl⟩
      have HVs : Hid (VaS w1 Q R ⟨vf, vg, vsn, vrs, 0⟩ Tv) := Lib.hid ⟨As, ns, cs, Ar, cr, HVb.out, HRm.out, HTv.out⟩
      have HT1 : Hid (OnR w R S T w1 d w1) := Lib.hid (by
        refine OnR.start HD1.out (fun b hb => ?_) (fun b hb hT => ?_) HB1.out
        · rw [hTd] at hb
          rcases hb with hb | hb | ⟨h0, ad, e, rfl⟩
          · exact HVs.out.lt b hb
          · exact hb.2
          · obtain ⟨ad', e', hlt, _⟩ := HR.out.2 h0
            rw [e] at e'; injection e' with e'; rw [e']; omega
        · rw [hTd] at hT
          have hUb : U b := by rw [HU.out]; exact .inl hb
          rcases hT with h2 | h2 | ⟨h0, ad, e, rfl⟩
          · exact HAp.out b hb h2
          · have := HMo.out.lt b hUb; omega
          · exact HFr.out h0 ad e hUb)
      have HTT : Hid (∀ b, Tv b → T b) := Lib.hid (fun b hb => by rw [hTd]; exact .inl hb)
      have HTi : Hid (∀ b, w.heap.size ≤ b → b < w1.heap.size → T b) := Lib.hid (fun b h1 h2 => by rw [hTd]; exact .inr (.inl ⟨h1, h2⟩))
      have HTa : Hid (0 < n → ∀ ad, A = some ad → T ad.block) := Lib.hid (fun h1 ad h2 => by rw [hTd]; exact .inr (.inr ⟨h1, ad, h2, rfl⟩))
      have HTvQ : Hid (Tv Q) := Lib.hid (by rw [HTv.out]; exact .inl rfl)
      have HTQ : Hid (T Q) := Lib.hid (HTT.out Q HTvQ.out)
      have hUe : (fun b => S b ∨ Tv b) = U := HU.out.symm
      clear hTd
      have hn1 : n1 ≤ 1048584 := by
        have h1 := (own_len HO1.out).1
        have h2 := HL1.out
        rw [fg_length] at h1
        omega
      have hM1 : M + (fg (vg + 1) s).length ≤ 2147483648 := by have h1 := (own_len HO1.out).1; omega
      rcases hf with rfl | rfl
      · obtain ⟨os, hos⟩ : ∃ os : List Ro, os = [.A 1 (fg (vg + 1) s), .S 1] := ⟨_, rfl⟩
        have HR0 : Hid (RunR w R S T w1 os d M m [.A 1 (fg (vg + 1) s), .S 1] d w1) := Lib.hid ⟨HT1.out, trivial, HF.out, by rw [hos]⟩
        have HOp : Hid (ckp d ⟨0, vg, vsn, vrs, 0⟩ s = if (runs os d).1 = 0 then ((runs [.T 0 0] (runs os d).2).1, (runs [.T 0 0] (runs os d).2).2, ⟨1, vg + 1, s, [], (runs [.T 0 0] (runs os d).2).1⟩) else ((runs os d).1, (runs os d).2, ⟨0, vg, vsn, vrs, (runs os d).1⟩)) := Lib.hid (by
          unfold ckp
          rw [if_neg (by have := HL1.out; omega), if_neg (by show ¬ _ ≤ vg; have := HGl.out; omega), if_pos rfl, hos]
          rfl)
        have HFail : Hid (∀ x w', x ≠ 0 → FailR w R S T w1 os d x w' → AftM Q R (ckp d ⟨0, vg, vsn, vrs, 0⟩ s).2.1 (ckp d ⟨0, vg, vsn, vrs, 0⟩ s).2.2 U w (ckp d ⟨0, vg, vsn, vrs, 0⟩ s).1 (.returned (.int .i64 x)) (w'.setCell ⟨Q, 5, none⟩ (.int .i64 x))) := Lib.hid (by
          rintro x w' hx ⟨d', hon', hrun⟩
          rw [HOp.out, hrun, if_neg hx]
          obtain ⟨U', q1, q2, q3⟩ := hon'.mod HVs.out HTT.out
          obtain ⟨q4, q5⟩ := q1.sick x
          rw [hUe] at q2 q3
          exact ⟨rfl, U', q4, q2.set (by rw [HU.out]; exact .inr HTvQ.out) _, q3⟩)
        clear hos
        go_wp2_with fail
        refine (RunR.app HR0.out (.inr rfl) A1 n1 c1 (own_reads HO1.out) (by omega) (by omega)).mono ?_
        rintro e w2 (⟨x, hx, tx, rfl, hf⟩ | ⟨rfl, d2, hR2, hg2⟩)
        case inl =>
          have HFl := Lib.hid (HFail.out x w2 hx hf)
          have te : (x == 0) = false := by simpa using hx
          have hb2 : w2.heap[Q]? = w1.heap[Q]? := by obtain ⟨d', h1, _⟩ := hf; exact h1.stay.2 Q HTQ.out
          have yf : w2.frozen? ⟨Q, 5, none⟩ = false := (World.frozen?_of_block (a := ⟨Q, 5, none⟩) hb2).trans f5
          have y5 : w2.cell? ⟨Q, 5, none⟩ = some (.int .i64 0) := (World.cell?_of_block (a := ⟨Q, 5, none⟩) hb2).trans x5
          clear hf hx hb2
          go_wp2
          go_ret
          exact HFl.out
        case inr =>
          have HR2 := Lib.hid hR2
          have hb2 : w2.heap[Q]? = w1.heap[Q]? := hR2.on.stay.2 Q HTQ.out
          have y0 : w2.cell? ⟨Q, 0, none⟩ = some (.pointer (some ⟨R, 0, none⟩)) := (World.cell?_of_block (a := ⟨Q, 0, none⟩) hb2).trans x0
          clear hR2 hg2 hb2
          go_wp2_with fail
          refine (RunR.syn HR2.out (.inr rfl) (by show M + (fg (vg + 1) s).length ≤ _; omega) (by omega)).mono ?_
          rintro e w3 (⟨x, hx, tx, rfl, hf⟩ | ⟨rfl, d3, hR3, hg3⟩)
          case inl =>
            have HFl := Lib.hid (HFail.out x w3 hx hf)
            have hb2 : w3.heap[Q]? = w1.heap[Q]? := by obtain ⟨d', h1, _⟩ := hf; exact h1.stay.2 Q HTQ.out
            have yf : w3.frozen? ⟨Q, 5, none⟩ = false := (World.frozen?_of_block (a := ⟨Q, 5, none⟩) hb2).trans f5
            have y5 : w3.cell? ⟨Q, 5, none⟩ = some (.int .i64 0) := (World.cell?_of_block (a := ⟨Q, 5, none⟩) hb2).trans x5
            clear hf hx hb2
            go_wp2
            go_ret
            exact HFl.out
          case inr =>
            have hst3 := hR3.on.stay
            have hrun : Hid (runs os d = (0, d3)) := Lib.hid hR3.run
            have v3 : Blk w3 Q 48 #[.pointer (some ⟨R, 0, none⟩), .int .i64 0, .int .i64 (vg : Int), .slice As ns cs, .slice Ar vrs.length cr, .int .i64 0] := (hst3.2 Q HTQ.out).trans HVb.out
            obtain ⟨w4, hw4⟩ : ∃ w4, w4 = (w3.setCell ⟨Q, 1, none⟩ (.int .i64 1)).setCell ⟨Q, 2, none⟩ (.int .i64 ((vg : Int) + 1)) := ⟨_, rfl⟩
            have v4 : Blk w4 Q 48 #[.pointer (some ⟨R, 0, none⟩), .int .i64 1, .int .i64 ((vg : Int) + 1), .slice As ns cs, .slice Ar vrs.length cr, .int .i64 0] := by rw [hw4]; exact (v3.set_ 1 _).set_ 2 _
            have ht4 : Turned (fun b => b = Q) w3 w4 := by rw [hw4]; exact ((Turned.refl (fun b => b = Q) w3).set (p := ⟨Q, 1, none⟩) rfl _).set (p := ⟨Q, 2, none⟩) rfl _
            have hsz3 := hst3.1
            have hA4 : 0 < n → ∀ ad, A = some ad → ad.block ≠ Q := fun h0 ad e e2 => HFr.out h0 ad e (by rw [HU.out, e2]; exact .inr HTvQ.out)
            have hrd4 : Reads w4 w4.heap.size 1 A n (bts s) := ⟨HR.out.1, fun h0 => by
              obtain ⟨ad, e1, hb, hc⟩ := HR.out.2 h0
              have hs4 := ht4.size
              refine ⟨ad, e1, by omega, fun j u hu => ?_⟩
              refine (World.cell?_of_block (by rw [block_of_add]; exact (ht4.block _ (by omega) (hA4 h0 ad e1)).trans (hst3.2 _ (HTa.out h0 ad e1)))).trans ((HB1.out.cell (by rw [block_of_add]; exact hb)).trans (hc j u hu))⟩
            have y0 : w3.cell? ⟨Q, 0, none⟩ = some (.pointer (some ⟨R, 0, none⟩)) := v3.cell 0
            have y1 : w3.cell? ⟨Q, 1, none⟩ = some (.int .i64 0) := v3.cell 1
            have y2 : w3.cell? ⟨Q, 2, none⟩ = some (.int .i64 (vg : Int)) := v3.cell 2
            have yf1 : w3.frozen? ⟨Q, 1, none⟩ = false := v3.frozen 1
            have yf2 : w3.frozen? ⟨Q, 2, none⟩ = false := v3.frozen 2
            have HR3 := Lib.hid hR3
            have HV4 := Lib.hid v4
            have HTu4 := Lib.hid ht4
            have HRd4 := Lib.hid hrd4
            clear hR3 hg3 hst3 v3 v4 ht4 hrd4 hA4
            have HW4 : Hid ((w3.setCell ⟨Q, 1, none⟩ (.int .i64 1)).setCell ⟨Q, 2, none⟩ (.int .i64 ((vg : Int) + 1)) = w4) := Lib.hid hw4.symm
            have HZ4 : Hid (w3.heap.size = w4.heap.size) := Lib.hid (by rw [hw4]; simp [World.setCell])
            clear hw4
            go_wp2_with (at_builtin; rw [HW4.out, HZ4.out]; refine appE w4 rfl (.tmp 74) (.tmp 75) rfl w4.heap.size rfl w4.heap.size A c s n rfl HRd4.out (Nat.le_refl _) (by omega) (Nat.le_refl _) ?_; intro v5 w5 hown5 hb5; obtain ⟨A5, n5, c5, rfl⟩ := own_slice hown5; have HO5 := Lib.hid hown5; have HB5 := Lib.hid hb5; have v5 := HV4.out.below hb5 HV4.out.lt; have q0 : w5.cell? ⟨Q, 0, none⟩ = some (.pointer (some ⟨R, 0, none⟩)) := v5.cell 0; have q3 : w5.cell? ⟨Q, 3, none⟩ = some (.slice As ns cs) := v5.cell 3; have q4 : w5.cell? ⟨Q, 4, none⟩ = some (.slice Ar vrs.length cr) := v5.cell 4; have qf3 : w5.frozen? ⟨Q, 3, none⟩ = false := v5.frozen 3; have qf4 : w5.frozen? ⟨Q, 4, none⟩ = false := v5.frozen 4; have HV5 := Lib.hid v5; clear hown5 hb5 v5)
            obtain ⟨w6, hw6⟩ : ∃ w6, w6 = (w5.setCell ⟨Q, 3, none⟩ (.slice A5 n5 c5)).setCell ⟨Q, 4, none⟩ (.slice none 0 0) := ⟨_, rfl⟩
            rw [← hw6]
            have v6 : Blk w6 Q 48 #[.pointer (some ⟨R, 0, none⟩), .int .i64 1, .int .i64 ((vg : Int) + 1), .slice A5 n5 c5, .slice none 0 0, .int .i64 0] := by rw [hw6]; exact (HV5.out.set_ 3 _).set_ 4 _
            have ht6 : Turned (fun b => b = Q) w3 w6 := by
              have h1 : Turned (fun b => b = Q) w3 w5 := HTu4.out.next HB5.out
              rw [hw6]
              exact (h1.set (p := ⟨Q, 3, none⟩) rfl _).set (p := ⟨Q, 4, none⟩) rfl _
            have hVs6 : VaS w6 Q R ⟨1, vg + 1, s, [], 0⟩ (fun b => b = Q ∨ ablk none b) := ⟨A5, n5, c5, none, 0, v6, .inl ⟨rfl, rfl, rfl⟩, rfl⟩
            have HR6 : Hid (RunR w R (fun b => S b ∨ Tv b) (fun b => b = Q) w6 [.T 0 0] d3 (M + Ro.len (.A 1 (fg (vg + 1) s)) + Ro.len (.S 1)) (m + 1 + 1) [.T 0 0] d3 w6) := Lib.hid (by
              obtain ⟨S', p1, p2, p3, p4⟩ := HR3.out.on.ex
              have hS3 := p1.lt
              refine ⟨⟨⟨S', p1.stay ⟨ht6.size, fun b hb => ht6.block b (hS3 b hb) (fun e => p4 b hb (by rw [e]; exact HTQ.out))⟩, ?_, ?_, fun b hb e => p4 b hb (by rw [e]; exact HTQ.out)⟩, ⟨Nat.le_refl _, fun _ _ => rfl⟩, fun b e => by rw [e]; exact v6.lt⟩, HR3.out.pow, HR3.out.fit, rfl⟩
              · have h1 : Turned (fun b => S b ∨ Tv b) w w3 := ⟨p2.os, p2.tape, p2.output, p2.size, fun i hi hn => p2.block i hi (fun hs => hn (.inl hs))⟩
                exact h1.trans ht6 (fun b hb e => .inr (by rw [e]; exact HTvQ.out))
              · rintro b hb
                rcases p3 b hb with h1 | h1
                · exact .inl (.inl h1)
                · exact .inr h1)
            have HV6 := Lib.hid hVs6
            have HFin : Hid (∀ d' w7 x, OnR w R (fun b => S b ∨ Tv b) (fun b => b = Q) w6 d' w7 → ∃ U', ModR w7 Q R d' ⟨1, vg + 1, s, [], 0⟩ U' ∧ Turned U w w7 ∧ From U U' w ∧ ModR (w7.setCell ⟨Q, 5, none⟩ (.int .i64 x)) Q R d' ⟨1, vg + 1, s, [], x⟩ U' ∧ Turned U w (w7.setCell ⟨Q, 5, none⟩ (.int .i64 x))) := Lib.hid (by
              intro d' w7 x hon
              obtain ⟨U', q1, q2, q3⟩ := hon.mod HV6.out (fun b hb => by
                rcases hb with rfl | ⟨ad, e, _⟩
                · rfl
                · cases e)
              have hsub : ∀ b, ((S b ∨ Tv b) ∨ (b = Q ∨ ablk none b)) → U b := by
                rintro b (hb | rfl | ⟨ad, e, _⟩)
                · rw [← hUe]; exact hb
                · rw [← hUe]; exact .inr HTvQ.out
                · cases e
              have t7 : Turned U w w7 := ⟨q2.os, q2.tape, q2.output, q2.size, fun i hi hn => q2.block i hi (fun hs => hn (hsub i hs))⟩
              refine ⟨U', q1, t7, fun b hb => (q3 b hb).imp (hsub b) id, (q1.sick x).1, t7.set (p := ⟨Q, 5, none⟩) (hsub Q (.inr (.inl rfl))) _⟩)
            have r5 : w6.cell? ⟨Q, 5, none⟩ = some (.int .i64 0) := v6.cell 5
            have rf5 : w6.frozen? ⟨Q, 5, none⟩ = false := v6.frozen 5
            have hM6 : M + (fg (vg + 1) s).length + 0 ≤ 2147483648 := by omega
            clear hw6 v6 ht6 hVs6 y0 y1 y2 yf1 yf2
            refine (RunR.tru HR6.out (.inl rfl) (Nat.le_trans hM6 (by omega)) (by omega)).mono ?_
            rintro e w7 (⟨x, hx, tx, rfl, hf⟩ | ⟨rfl, d7, hR7, hg7⟩)
            case inl =>
              obtain ⟨d', hon7, hrun7⟩ := hf
              have hb7 : w7.heap[Q]? = w6.heap[Q]? := hon7.stay.2 Q rfl
              have s5 : w7.cell? ⟨Q, 5, none⟩ = some (.int .i64 0) := (World.cell?_of_block (a := ⟨Q, 5, none⟩) hb7).trans r5
              have sf5 : w7.frozen? ⟨Q, 5, none⟩ = false := (World.frozen?_of_block (a := ⟨Q, 5, none⟩) hb7).trans rf5
              have HE := Lib.hid (HFin.out d' w7 x hon7)
              have HRn := Lib.hid hrun7
              clear hon7 hrun7 hb7
              go_wp2
              go_ret
              obtain ⟨U', q1, q2, q3, q4, q5⟩ := HE.out
              rw [HOp.out, hrun.out, if_pos rfl, HRn.out]
              exact ⟨rfl, U', q4, q5, q3⟩
            case inr =>
              have HE := Lib.hid (HFin.out d7 w7 0 hR7.on)
              have HRn : Hid (runs [.T 0 0] d3 = (0, d7)) := Lib.hid hR7.run
              clear hR7 hg7
              go_wp2
              go_ret
              obtain ⟨U', q1, q2, q3, q4, q5⟩ := HE.out
              rw [HOp.out, hrun.out, if_pos rfl, HRn.out]
              exact ⟨rfl, U', q1, q2, q3⟩
      · obtain ⟨os, hos⟩ : ∃ os : List Ro, os = [.A 0 (fg (vg + 1) s), .S 0] := ⟨_, rfl⟩
        have HR0 : Hid (RunR w R S T w1 os d M m [.A 0 (fg (vg + 1) s), .S 0] d w1) := Lib.hid ⟨HT1.out, trivial, HF.out, by rw [hos]⟩
        have HOp : Hid (ckp d ⟨1, vg, vsn, vrs, 0⟩ s = if (runs os d).1 = 0 then ((runs [.T 1 0] (runs os d).2).1, (runs [.T 1 0] (runs os d).2).2, ⟨0, vg + 1, s, [], (runs [.T 1 0] (runs os d).2).1⟩) else ((runs os d).1, (runs os d).2, ⟨1, vg, vsn, vrs, (runs os d).1⟩)) := Lib.hid (by
          unfold ckp
          rw [if_neg (by have := HL1.out; omega), if_neg (by show ¬ _ ≤ vg; have := HGl.out; omega), if_pos rfl, hos]
          rfl)
        have HFail : Hid (∀ x w', x ≠ 0 → FailR w R S T w1 os d x w' → AftM Q R (ckp d ⟨1, vg, vsn, vrs, 0⟩ s).2.1 (ckp d ⟨1, vg, vsn, vrs, 0⟩ s).2.2 U w (ckp d ⟨1, vg, vsn, vrs, 0⟩ s).1 (.returned (.int .i64 x)) (w'.setCell ⟨Q, 5, none⟩ (.int .i64 x))) := Lib.hid (by
          rintro x w' hx ⟨d', hon', hrun⟩
          rw [HOp.out, hrun, if_neg hx]
          obtain ⟨U', q1, q2, q3⟩ := hon'.mod HVs.out HTT.out
          obtain ⟨q4, q5⟩ := q1.sick x
          rw [hUe] at q2 q3
          exact ⟨rfl, U', q4, q2.set (by rw [HU.out]; exact .inr HTvQ.out) _, q3⟩)
        clear hos
        go_wp2_with fail
        refine (RunR.app HR0.out (.inl rfl) A1 n1 c1 (own_reads HO1.out) (by omega) (by omega)).mono ?_
        rintro e w2 (⟨x, hx, tx, rfl, hf⟩ | ⟨rfl, d2, hR2, hg2⟩)
        case inl =>
          have HFl := Lib.hid (HFail.out x w2 hx hf)
          have te : (x == 0) = false := by simpa using hx
          have hb2 : w2.heap[Q]? = w1.heap[Q]? := by obtain ⟨d', h1, _⟩ := hf; exact h1.stay.2 Q HTQ.out
          have yf : w2.frozen? ⟨Q, 5, none⟩ = false := (World.frozen?_of_block (a := ⟨Q, 5, none⟩) hb2).trans f5
          have y5 : w2.cell? ⟨Q, 5, none⟩ = some (.int .i64 0) := (World.cell?_of_block (a := ⟨Q, 5, none⟩) hb2).trans x5
          clear hf hx hb2
          go_wp2
          go_ret
          exact HFl.out
        case inr =>
          have HR2 := Lib.hid hR2
          have hb2 : w2.heap[Q]? = w1.heap[Q]? := hR2.on.stay.2 Q HTQ.out
          have y0 : w2.cell? ⟨Q, 0, none⟩ = some (.pointer (some ⟨R, 0, none⟩)) := (World.cell?_of_block (a := ⟨Q, 0, none⟩) hb2).trans x0
          clear hR2 hg2 hb2
          go_wp2_with fail
          refine (RunR.syn HR2.out (.inl rfl) (by show M + (fg (vg + 1) s).length ≤ _; omega) (by omega)).mono ?_
          rintro e w3 (⟨x, hx, tx, rfl, hf⟩ | ⟨rfl, d3, hR3, hg3⟩)
          case inl =>
            have HFl := Lib.hid (HFail.out x w3 hx hf)
            have hb2 : w3.heap[Q]? = w1.heap[Q]? := by obtain ⟨d', h1, _⟩ := hf; exact h1.stay.2 Q HTQ.out
            have yf : w3.frozen? ⟨Q, 5, none⟩ = false := (World.frozen?_of_block (a := ⟨Q, 5, none⟩) hb2).trans f5
            have y5 : w3.cell? ⟨Q, 5, none⟩ = some (.int .i64 0) := (World.cell?_of_block (a := ⟨Q, 5, none⟩) hb2).trans x5
            clear hf hx hb2
            go_wp2
            go_ret
            exact HFl.out
          case inr =>
            have hst3 := hR3.on.stay
            have hrun : Hid (runs os d = (0, d3)) := Lib.hid hR3.run
            have v3 : Blk w3 Q 48 #[.pointer (some ⟨R, 0, none⟩), .int .i64 1, .int .i64 (vg : Int), .slice As ns cs, .slice Ar vrs.length cr, .int .i64 0] := (hst3.2 Q HTQ.out).trans HVb.out
            obtain ⟨w4, hw4⟩ : ∃ w4, w4 = (w3.setCell ⟨Q, 1, none⟩ (.int .i64 0)).setCell ⟨Q, 2, none⟩ (.int .i64 ((vg : Int) + 1)) := ⟨_, rfl⟩
            have v4 : Blk w4 Q 48 #[.pointer (some ⟨R, 0, none⟩), .int .i64 0, .int .i64 ((vg : Int) + 1), .slice As ns cs, .slice Ar vrs.length cr, .int .i64 0] := by rw [hw4]; exact (v3.set_ 1 _).set_ 2 _
            have ht4 : Turned (fun b => b = Q) w3 w4 := by rw [hw4]; exact ((Turned.refl (fun b => b = Q) w3).set (p := ⟨Q, 1, none⟩) rfl _).set (p := ⟨Q, 2, none⟩) rfl _
            have hsz3 := hst3.1
            have hA4 : 0 < n → ∀ ad, A = some ad → ad.block ≠ Q := fun h0 ad e e2 => HFr.out h0 ad e (by rw [HU.out, e2]; exact .inr HTvQ.out)
            have hrd4 : Reads w4 w4.heap.size 1 A n (bts s) := ⟨HR.out.1, fun h0 => by
              obtain ⟨ad, e1, hb, hc⟩ := HR.out.2 h0
              have hs4 := ht4.size
              refine ⟨ad, e1, by omega, fun j u hu => ?_⟩
              refine (World.cell?_of_block (by rw [block_of_add]; exact (ht4.block _ (by omega) (hA4 h0 ad e1)).trans (hst3.2 _ (HTa.out h0 ad e1)))).trans ((HB1.out.cell (by rw [block_of_add]; exact hb)).trans (hc j u hu))⟩
            have y0 : w3.cell? ⟨Q, 0, none⟩ = some (.pointer (some ⟨R, 0, none⟩)) := v3.cell 0
            have y1 : w3.cell? ⟨Q, 1, none⟩ = some (.int .i64 1) := v3.cell 1
            have y2 : w3.cell? ⟨Q, 2, none⟩ = some (.int .i64 (vg : Int)) := v3.cell 2
            have yf1 : w3.frozen? ⟨Q, 1, none⟩ = false := v3.frozen 1
            have yf2 : w3.frozen? ⟨Q, 2, none⟩ = false := v3.frozen 2
            have HR3 := Lib.hid hR3
            have HV4 := Lib.hid v4
            have HTu4 := Lib.hid ht4
            have HRd4 := Lib.hid hrd4
            clear hR3 hg3 hst3 v3 v4 ht4 hrd4 hA4
            have HW4 : Hid ((w3.setCell ⟨Q, 1, none⟩ (.int .i64 0)).setCell ⟨Q, 2, none⟩ (.int .i64 ((vg : Int) + 1)) = w4) := Lib.hid hw4.symm
            have HZ4 : Hid (w3.heap.size = w4.heap.size) := Lib.hid (by rw [hw4]; simp [World.setCell])
            clear hw4
            go_wp2_with (at_builtin; rw [HW4.out, HZ4.out]; refine appE w4 rfl (.tmp 74) (.tmp 75) rfl w4.heap.size rfl w4.heap.size A c s n rfl HRd4.out (Nat.le_refl _) (by omega) (Nat.le_refl _) ?_; intro v5 w5 hown5 hb5; obtain ⟨A5, n5, c5, rfl⟩ := own_slice hown5; have HO5 := Lib.hid hown5; have HB5 := Lib.hid hb5; have v5 := HV4.out.below hb5 HV4.out.lt; have q0 : w5.cell? ⟨Q, 0, none⟩ = some (.pointer (some ⟨R, 0, none⟩)) := v5.cell 0; have q3 : w5.cell? ⟨Q, 3, none⟩ = some (.slice As ns cs) := v5.cell 3; have q4 : w5.cell? ⟨Q, 4, none⟩ = some (.slice Ar vrs.length cr) := v5.cell 4; have qf3 : w5.frozen? ⟨Q, 3, none⟩ = false := v5.frozen 3; have qf4 : w5.frozen? ⟨Q, 4, none⟩ = false := v5.frozen 4; have HV5 := Lib.hid v5; clear hown5 hb5 v5)
            obtain ⟨w6, hw6⟩ : ∃ w6, w6 = (w5.setCell ⟨Q, 3, none⟩ (.slice A5 n5 c5)).setCell ⟨Q, 4, none⟩ (.slice none 0 0) := ⟨_, rfl⟩
            rw [← hw6]
            have v6 : Blk w6 Q 48 #[.pointer (some ⟨R, 0, none⟩), .int .i64 0, .int .i64 ((vg : Int) + 1), .slice A5 n5 c5, .slice none 0 0, .int .i64 0] := by rw [hw6]; exact (HV5.out.set_ 3 _).set_ 4 _
            have ht6 : Turned (fun b => b = Q) w3 w6 := by
              have h1 : Turned (fun b => b = Q) w3 w5 := HTu4.out.next HB5.out
              rw [hw6]
              exact (h1.set (p := ⟨Q, 3, none⟩) rfl _).set (p := ⟨Q, 4, none⟩) rfl _
            have hVs6 : VaS w6 Q R ⟨0, vg + 1, s, [], 0⟩ (fun b => b = Q ∨ ablk none b) := ⟨A5, n5, c5, none, 0, v6, .inl ⟨rfl, rfl, rfl⟩, rfl⟩
            have HR6 : Hid (RunR w R (fun b => S b ∨ Tv b) (fun b => b = Q) w6 [.T 1 0] d3 (M + Ro.len (.A 0 (fg (vg + 1) s)) + Ro.len (.S 0)) (m + 1 + 1) [.T 1 0] d3 w6) := Lib.hid (by
              obtain ⟨S', p1, p2, p3, p4⟩ := HR3.out.on.ex
              have hS3 := p1.lt
              refine ⟨⟨⟨S', p1.stay ⟨ht6.size, fun b hb => ht6.block b (hS3 b hb) (fun e => p4 b hb (by rw [e]; exact HTQ.out))⟩, ?_, ?_, fun b hb e => p4 b hb (by rw [e]; exact HTQ.out)⟩, ⟨Nat.le_refl _, fun _ _ => rfl⟩, fun b e => by rw [e]; exact v6.lt⟩, HR3.out.pow, HR3.out.fit, rfl⟩
              · have h1 : Turned (fun b => S b ∨ Tv b) w w3 := ⟨p2.os, p2.tape, p2.output, p2.size, fun i hi hn => p2.block i hi (fun hs => hn (.inl hs))⟩
                exact h1.trans ht6 (fun b hb e => .inr (by rw [e]; exact HTvQ.out))
              · rintro b hb
                rcases p3 b hb with h1 | h1
                · exact .inl (.inl h1)
                · exact .inr h1)
            have HV6 := Lib.hid hVs6
            have HFin : Hid (∀ d' w7 x, OnR w R (fun b => S b ∨ Tv b) (fun b => b = Q) w6 d' w7 → ∃ U', ModR w7 Q R d' ⟨0, vg + 1, s, [], 0⟩ U' ∧ Turned U w w7 ∧ From U U' w ∧ ModR (w7.setCell ⟨Q, 5, none⟩ (.int .i64 x)) Q R d' ⟨0, vg + 1, s, [], x⟩ U' ∧ Turned U w (w7.setCell ⟨Q, 5, none⟩ (.int .i64 x))) := Lib.hid (by
              intro d' w7 x hon
              obtain ⟨U', q1, q2, q3⟩ := hon.mod HV6.out (fun b hb => by
                rcases hb with rfl | ⟨ad, e, _⟩
                · rfl
                · cases e)
              have hsub : ∀ b, ((S b ∨ Tv b) ∨ (b = Q ∨ ablk none b)) → U b := by
                rintro b (hb | rfl | ⟨ad, e, _⟩)
                · rw [← hUe]; exact hb
                · rw [← hUe]; exact .inr HTvQ.out
                · cases e
              have t7 : Turned U w w7 := ⟨q2.os, q2.tape, q2.output, q2.size, fun i hi hn => q2.block i hi (fun hs => hn (hsub i hs))⟩
              refine ⟨U', q1, t7, fun b hb => (q3 b hb).imp (hsub b) id, (q1.sick x).1, t7.set (p := ⟨Q, 5, none⟩) (hsub Q (.inr (.inl rfl))) _⟩)
            have r5 : w6.cell? ⟨Q, 5, none⟩ = some (.int .i64 0) := v6.cell 5
            have rf5 : w6.frozen? ⟨Q, 5, none⟩ = false := v6.frozen 5
            have hM6 : M + (fg (vg + 1) s).length + 0 ≤ 2147483648 := by omega
            clear hw6 v6 ht6 hVs6 y0 y1 y2 yf1 yf2
            refine (RunR.tru HR6.out (.inr rfl) (Nat.le_trans hM6 (by omega)) (by omega)).mono ?_
            rintro e w7 (⟨x, hx, tx, rfl, hf⟩ | ⟨rfl, d7, hR7, hg7⟩)
            case inl =>
              obtain ⟨d', hon7, hrun7⟩ := hf
              have hb7 : w7.heap[Q]? = w6.heap[Q]? := hon7.stay.2 Q rfl
              have s5 : w7.cell? ⟨Q, 5, none⟩ = some (.int .i64 0) := (World.cell?_of_block (a := ⟨Q, 5, none⟩) hb7).trans r5
              have sf5 : w7.frozen? ⟨Q, 5, none⟩ = false := (World.frozen?_of_block (a := ⟨Q, 5, none⟩) hb7).trans rf5
              have HE := Lib.hid (HFin.out d' w7 x hon7)
              have HRn := Lib.hid hrun7
              clear hon7 hrun7 hb7
              go_wp2
              go_ret
              obtain ⟨U', q1, q2, q3, q4, q5⟩ := HE.out
              rw [HOp.out, hrun.out, if_pos rfl, HRn.out]
              exact ⟨rfl, U', q4, q5, q3⟩
            case inr =>
              have HE := Lib.hid (HFin.out d7 w7 0 hR7.on)
              have HRn : Hid (runs [.T 1 0] d3 = (0, d7)) := Lib.hid hR7.run
              clear hR7 hg7
              go_wp2
              go_ret
              obtain ⟨U', q1, q2, q3, q4, q5⟩ := HE.out
              rw [HOp.out, hrun.out, if_pos rfl, HRn.out]
              exact ⟨rfl, U', q1, q2, q3⟩
end Go.Proofs.YtnpmccekkjadhaaDoor.Pk

/- What the program's vault promises (to be proved of the code that lands). -/
namespace Go.Proofs.YtnpmccekkjadhaaDoor.Pk
open Go.RowKit Go.Proofs.YtnpmccekkjadhaaDoor.Crc Go.Proofs.YtnpmccekkjadhaaDoor.Fr Go.Proofs.YtnpmccekkjadhaaDoor.Dk Go.Proofs.YtnpmccekkjadhaaDoor.Vk
set_option linter.unusedVariables false
/-- The program's vault with its disk, made of the blocks U. -/
def ModP (w : World) (Q R : Nat) (d : DK) (v : VK) (U : Nat → Prop) : Prop := ∃ S T, DkP w R d S ∧ VaC w Q R v T ∧ (∀ b, S b → ¬ T b) ∧ U = fun b => S b ∨ T b
def AftP (Q R : Nat) (d : DK) (v : VK) (U : Nat → Prop) (w : World) (x : Int) (e : Ending) (w' : World) : Prop :=
  e = .returned (.int .i64 x) ∧ ∃ U', ModP w' Q R d v U' ∧ Turned U w w' ∧ From U U' w
section
variable {w w' : World} {Q R : Nat} {d : DK} {v : VK} {U : Nat → Prop}
theorem ModP.lt (h : ModP w Q R d v U) : ∀ b, U b → b < w.heap.size := by
  obtain ⟨S, T, h1, h2, _, rfl⟩ := h
  rintro b (hb | hb)
  · exact h1.lt b hb
  · exact h2.lt b hb
theorem ModP.stay (h : ModP w Q R d v U) (hs : Stay U w w') : ModP w' Q R d v U := by
  obtain ⟨S, T, h1, h2, h3, rfl⟩ := h
  exact ⟨S, T, h1.stay ⟨hs.1, fun b hb => hs.2 b (.inl hb)⟩, h2.stay ⟨hs.1, fun b hb => hs.2 b (.inr hb)⟩, h3, rfl⟩
theorem ModP.next (h : ModP w Q R d v U) (hb : Below w.heap.size w w') : ModP w' Q R d v U := h.stay (Stay.below hb h.lt)
/-- The disk of a vault, by itself: what is done to it alone leaves the vault. -/
theorem ModP.disk (h : ModP w Q R d v U) : ∃ S, DkP w R d S ∧ (∀ b, S b → U b) ∧ ∀ d' w' S', DkP w' R d' S' → Turned S w w' → From S S' w → ∃ U', ModP w' Q R d' v U' ∧ Turned U w w' ∧ From U U' w := by
  obtain ⟨S, T, h1, h2, h3, rfl⟩ := h
  refine ⟨S, h1, fun b hb => .inl hb, fun d' w' S' k t f => ?_⟩
  have hT := h2.lt
  have hap : ∀ b, S' b → ¬ T b := from_apart f h3 hT
  refine ⟨fun b => S' b ∨ T b, ⟨S', T, k, h2.stay ⟨t.size, fun b hb => t.block b (hT b hb) (fun hs => h3 b hs hb)⟩, hap, rfl⟩, ?_, ?_⟩
  · exact ⟨t.os, t.tape, t.output, t.size, fun i hi hn => t.block i hi (fun hs => hn (.inl hs))⟩
  · rintro b (hb | hb)
    · exact (f b hb).imp .inl id
    · exact .inl (.inr hb)
end
/-- What the program's Open leaves. -/
def OpnP (R : Nat) (d : DK) (s : List Int) (S : Nat → Prop) (w : World) (e : Ending) (w' : World) : Prop :=
  ((opn d s).1 ≠ 0 ∧ e = .returned (.tuple #[.pointer none, .slice none 0 0, .slice none 0 0, .int .i64 (opn d s).1]) ∧ ∃ S', DkP w' R (opn d s).2.1 S' ∧ Turned S w w' ∧ From S S' w) ∨
  ((opn d s).1 = 0 ∧ ∃ v Q vs vr U' lo hi, (opn d s).2.2 = some v ∧ e = .returned (.tuple #[.pointer (some ⟨Q, 0, none⟩), vs, vr, .int .i64 0]) ∧ ModP w' Q R (opn d s).2.1 v U' ∧ Turned S w w' ∧ From S U' w ∧
    w.heap.size ≤ lo ∧ hi ≤ w'.heap.size ∧ SnV w' lo hi vs v.s ∧ RcV w' lo hi vr v.rs ∧ ∀ b, U' b → ¬ (lo ≤ b ∧ b < hi))
def OpenC : Prop := ∀ (R : Nat) (A : Option Addr) (n c : Nat) (s : List Int) (d : DK) (S : Nat → Prop) (w : World), Tab w → ¬ S 0 → DkP w R d S → Reads w w.heap.size 1 A n (bts s) → n ≤ c → Bytes s → DkB d → Free S A n → n ≤ 1073741824 →
  ∀ (M m : Nat), d.fit M m → M ≤ 1073741824 → m ≤ 1152921504606846976 → Calls Tryd.prog 21 #[.pointer (some ⟨R, 0, none⟩), .slice A n c] w (OpnP R d s S w)
def AppendC : Prop := ∀ (Q R : Nat) (A : Option Addr) (n c : Nat) (r : List Int) (d : DK) (v : VK) (U : Nat → Prop) (w : World), Tab w → ¬ U 0 → ModP w Q R d v U → Reads w w.heap.size 1 A n (bts r) → n ≤ c → Bytes r → Free U A n → v.file = 0 ∨ v.file = 1 → n ≤ 1073741824 → v.rs.length ≤ 1073741824 →
  ∀ (M m : Nat), d.fit M m → M ≤ 1073741824 → m ≤ 1152921504606846976 → Calls Tryd.prog 12 #[.pointer (some ⟨Q, 0, none⟩), .slice A n c] w (AftP Q R (apd d v r).2.1 (apd d v r).2.2 U w (apd d v r).1)
def CkpC : Prop := ∀ (Q R : Nat) (A : Option Addr) (n c : Nat) (s : List Int) (d : DK) (v : VK) (U : Nat → Prop) (w : World), Tab w → ¬ U 0 → ModP w Q R d v U → Reads w w.heap.size 1 A n (bts s) → n ≤ c → Bytes s → Free U A n → v.file = 0 ∨ v.file = 1 → n ≤ 1073741824 → v.g ≤ 4611686018427387904 →
  ∀ (M m : Nat), d.fit M m → M ≤ 1073741824 → m ≤ 1152921504606846976 → Calls Tryd.prog 14 #[.pointer (some ⟨Q, 0, none⟩), .slice A n c] w (AftP Q R (ckp d v s).2.1 (ckp d v s).2.2 U w (ckp d v s).1)
def CountC : Prop := ∀ (Q R : Nat) (d : DK) (v : VK) (U : Nat → Prop) (w : World), ModP w Q R d v U → Calls Tryd.prog 28 #[.pointer (some ⟨Q, 0, none⟩)] w fun e w' => e = .returned (.int .i64 (v.rs.length : Int)) ∧ w = w'
def GenC : Prop := ∀ (Q R : Nat) (d : DK) (v : VK) (U : Nat → Prop) (w : World), ModP w Q R d v U → Calls Tryd.prog 27 #[.pointer (some ⟨Q, 0, none⟩)] w fun e w' => e = .returned (.int .i64 (v.g : Int)) ∧ w = w'
end Go.Proofs.YtnpmccekkjadhaaDoor.Pk
