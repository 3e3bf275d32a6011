/- The contracts of the statements' own find and put. -/
import Derived.Test.YtgkmlggcmmdafaaRowWords
import Derived.Test.YtgkmlggcmmdafaaRowMath
import Derived.LoopTactic
import Derived.Outline
import Derived.Lib.Hide
import Derived.Deep.QuietTactic
import Derived.BigQuiet
namespace Go.Proofs.Ytgkmlggcmmdafaa.Pk
open Go.RowKit Go.Proofs.Ytgkmlggcmmdafaa.Tb
set_option linter.unusedVariables false

/-- What find answers: the place, or -1. -/
def findI (k : Int) (l : List Rw) : Int := match at_ k l with | some i => (i : Int) | none => -1
theorem at_from {k : Int} {l : List Rw} {j : Nat} (h : at_ k (l.take j) = none) {r : Rw} (hr : l[j]? = some r) : (r.1 = k → at_ k l = some j) ∧ (r.1 ≠ k → at_ k (l.take (j + 1)) = none) := by
  induction l generalizing j with
  | nil => simp at hr
  | cons x l ih =>
    match j with
    | 0 =>
      simp at hr; subst hr
      refine ⟨fun e => by rw [at_cons, if_pos e], fun e => ?_⟩
      rw [List.take_succ_cons, at_cons, if_neg e]; simp [at_]
    | j + 1 =>
      rw [List.take_succ_cons, at_cons] at h
      by_cases hx : x.1 = k
      · rw [if_pos hx] at h; cases h
      · rw [if_neg hx] at h
        obtain ⟨h1, h2⟩ := ih (j := j) (by simpa using h) (by simpa using hr)
        refine ⟨fun e => by rw [at_cons, if_neg hx, h1 e]; rfl, fun e => ?_⟩
        rw [List.take_succ_cons, at_cons, if_neg hx, h2 e]; rfl

set_option maxHeartbeats 800000 in
theorem find_any (A : Option Addr) (n c : Nat) (l : List Rw) (k : Int) (w : World) (B : Nat) (hl : Reads w B 2 A n (rws l)) (hB : B ≤ w.heap.size) (hn : n ≤ 9223372036854775807) :
    Calls Try.prog 19 #[.slice A n c, .int .i64 k] w fun e w' => e = .returned (.int .i64 (findI k l)) ∧ Below w.heap.size w w' := by
  have HL := Lib.hid hl.rlen
  have RL := Lib.hid hl
  clear hl
  go_enter Try.func19, Try.ntmps19
  go_wp2
  go_loopw [5, 6, 9] (fun _ _ j wr => ∃ i : Nat, j = .int .i64 i ∧ i ≤ n ∧ at_ k (l.take i) = none ∧ Below w.heap.size w wr) (fun _ _ j _ => n - (intOf j).toNat)
  case atStart => exact ⟨0, rfl, by omega, by simp [at_], Below.refl _ _⟩
  case round =>
    obtain ⟨i, rfl, hi, hno, hb⟩ := hrel
    obtain ⟨w1, rfl⟩ : ∃ w1 : World, w1 = wr := ⟨_, rfl⟩
    have HN := Lib.hid hno
    have HBw := Lib.hid hb
    clear hno hb
    by_cases hlt : i < n
    · obtain ⟨b, off, rfl, hbb, hc⟩ := (RL.out.below (B := B) (HBw.out.mono hB)).rows (by omega)
      obtain ⟨r, hr⟩ : ∃ r, l[i]? = some r := ⟨_, List.getElem?_eq_getElem (by rw [HL.out]; exact hlt)⟩
      obtain ⟨hx, hy⟩ := hc i r hr
      have HR := Lib.hid hr
      clear hc hr
      obtain ⟨rk, rv⟩ := r
      simp only at hx hy
      by_cases he : rk = k
      · subst he
        have HF : Hid (findI rk l = (i : Int)) := by
          have := (at_from HN.out HR.out).1 rfl
          unfold findI; rw [this]; exact Lib.hid rfl
        go_wp2
        go_ret
        exact ⟨by rw [HF.out]; rfl, HBw.out.alloc HBw.out.size _⟩
      · have he' : (rk == k) = false := by simpa using he
        have HF := Lib.hid ((at_from HN.out HR.out).2 he)
        clear he
        go_wp2
        go_roundw
        case rel => exact ⟨i + 1, by go_num, by omega, HF.out, HBw.out.alloc HBw.out.size _⟩
        case measure => simp [intOf]; omega
    · have HF : Hid (findI k l = -1) := by
        have h1 : at_ k l = none := by have := HN.out; rwa [List.take_of_length_le (by rw [HL.out]; omega)] at this
        unfold findI; rw [h1]; exact Lib.hid rfl
      have hb := HBw.out
      go_wp2
      go_ret
      exact ⟨by rw [HF.out]; rfl, hb⟩

/-- Slots of put's loop: the rows out, whether the row is laid, whether it is fresh. -/
def PutAt (k : Int) (s : ByteArray) (l : List Rw) (W : World) (B : Nat) (v : Value) (laid fresh : Bool) (wr : World) : Prop :=
  ∃ out, turns k s l = (out, laid, fresh) ∧ OwnR wr B v out ∧ out.length ≤ l.length + laid.toNat ∧ Below W.heap.size W wr ∧ B ≤ wr.heap.size

set_option maxHeartbeats 4000000 in
theorem put_any (A : Option Addr) (n c : Nat) (l : List Rw) (k : Int) (s : ByteArray) (w : World) (B : Nat) (hl : Reads w B 2 A n (rws l)) (hB : B ≤ w.heap.size) (hn : (n + 1) * 24 ≤ 140737488355328) :
    Calls Try.prog 18 #[.slice A n c, .int .i64 k, .string s] w fun e w' => ∃ v, e = .returned (.tuple #[v, .bool (putL k s l).2]) ∧ OwnR w' w.heap.size v (putL k s l).1 ∧ (putL k s l).1.length ≤ n + 1 ∧ Below w.heap.size w w' := by
  have HL := Lib.hid hl.rlen
  have RL := Lib.hid hl
  clear hl
  go_enter Try.func18, Try.ntmps18
  go_wp2
  go_loopw [8, 9, 10, 12, 15] (fun v la fr _ j wr => ∃ (i : Nat) (laid fresh : Bool), j = .int .i64 i ∧ i ≤ n ∧ la = .bool laid ∧ fr = .bool fresh ∧ PutAt k s (l.take i) w w.heap.size v laid fresh wr) (fun _ _ _ _ j _ => n - (intOf j).toNat)
  case atStart => exact ⟨0, false, true, rfl, by omega, rfl, rfl, [], rfl, OwnR.none_ _ _, by simp, Below.refl _ _, Nat.le_refl _⟩
  case round =>
    obtain ⟨i, laid, fresh, rfl, hi, rfl, rfl, out, ht, hown, hlen, hb, hB1⟩ := hrel
    obtain ⟨w1, rfl⟩ : ∃ w1 : World, w1 = wr := ⟨_, rfl⟩
    have HTn := Lib.hid ht
    have HO := Lib.hid hown
    have HBw := Lib.hid hb
    have hlen2 : out.length ≤ i + laid.toNat := by rw [List.length_take, HL.out] at hlen; omega
    clear ht hown hb hlen
    by_cases hlt : i < n
    · obtain ⟨b, off, rfl, hbb, hc⟩ := (RL.out.below (B := B) (HBw.out.mono hB)).rows (by omega)
      obtain ⟨r, hr⟩ : ∃ r, l[i]? = some r := ⟨_, List.getElem?_eq_getElem (by rw [HL.out]; exact hlt)⟩
      obtain ⟨hx, hy⟩ := hc i r hr
      have HS : Hid (turns k s (l.take (i + 1)) = turn k s (out, laid, fresh) r) := by
        rw [List.take_add_one, hr, ← HTn.out]; exact Lib.hid (turns_snoc _ _ _ _)
      have HK : Hid ((l.take (i + 1)).length = i + 1) := Lib.hid (by rw [List.length_take, HL.out]; omega)
      clear hc hr
      obtain ⟨rk, rv⟩ := r
      simp only at hx hy
      by_cases he : rk = k
      · subst he
        have HN : Hid (turns rk s (l.take (i + 1)) = (out, laid, false)) := by
          rw [HS.out]; exact Lib.hid (if_pos rfl)
        go_wp2
        go_roundw
        case rel => exact ⟨i + 1, laid, false, by go_num, by omega, rfl, rfl, out, HN.out, HO.out.alloc _, by rw [HK.out]; omega, HBw.out.alloc HBw.out.size _, by simp; omega⟩
        case measure => simp [intOf]; omega
      · have he' : (rk == k) = false := by simpa using he
        by_cases hg : k < rk ∧ laid = false
        · have HN : Hid (turns k s (l.take (i + 1)) = (out ++ [(k, s), (rk, rv)], true, fresh)) := by
            rw [HS.out]; exact Lib.hid ((if_neg he).trans (if_pos hg))
          obtain ⟨hg1, rfl⟩ := hg
          simp at hlen2
          clear he
          have hL : (out ++ [(k, s)]).length = out.length + 1 := by simp
          have f0 : out.length + 1 ≤ n := by omega
          have f1 : (out.length + 1) * 24 ≤ 140737488355328 := Nat.le_trans (Nat.mul_le_mul_right 24 (Nat.le_succ_of_le f0)) hn
          have f2 : ((out ++ [(k, s)]).length + 1) * 24 ≤ 140737488355328 := Nat.le_trans (Nat.mul_le_mul_right 24 (Nat.succ_le_succ (hL ▸ f0))) hn
          clear hL
          have F1 := Lib.hid f1
          have F2 := Lib.hid f2
          clear f1 f2
          go_wp2_with (first
            | (at_builtin; refine appR (w1.alloc (.cells #[.int .i64 rk, .string rv] 34)) k s _ rfl (.tmp 31) (.tmp 35) rfl w.heap.size _ out rfl (HO.out.alloc _) (w1.heap.size + 1) (by simp) rfl F1.out (by simp; omega) ?_; intro v2 w2 hown2 hb2 hg2; have HO2 := Lib.hid hown2; have HBX : Blk w2 w1.heap.size 34 #[.int .i64 rk, .string rv] := ((Blk.new w1 _ _).alloc _).grown hg2 (fun e => by have := ownR_lt HO.out _ e.symm; omega); have X0 : w2.cell? ⟨w1.heap.size, 0, none⟩ = some (.int .i64 rk) := HBX.cell 0; have X1 : w2.cell? ⟨w1.heap.size, 1, none⟩ = some (.string rv) := HBX.cell 1; have HB2 := Lib.hid ((HBw.out.alloc HBw.out.size _).trans (hb2.mono (Nat.le_refl _))); clear hown2 hb2 hg2 HBX)
            | (at_builtin; refine appR w2 rk rv _ rfl (.tmp 37) (.tmp 39) rfl w.heap.size v2 (out ++ [(k, s)]) rfl HO2.out w2.heap.size rfl rfl F2.out HB2.out.size ?_; intro v3 w3 hown3 hb3 _; have HO3 := Lib.hid hown3; have HB3 := Lib.hid (HB2.out.trans (hb3.mono (Nat.le_refl _))); clear hown3 hb3))
          go_roundw
          case rel => exact ⟨i + 1, true, fresh, by go_num, by omega, rfl, rfl, _, HN.out, by have := HO3.out; rwa [List.append_assoc] at this, by rw [HK.out]; simp; omega, HB3.out, HB3.out.size⟩
          case measure => simp [intOf]; omega
        · have HN : Hid (turns k s (l.take (i + 1)) = (out ++ [(rk, rv)], laid, fresh)) := by
            rw [HS.out]; exact Lib.hid ((if_neg he).trans (if_neg hg))
          have f0 : out.length + 1 ≤ n + 1 := by cases laid <;> simp at hlen2 <;> omega
          have f1 : (out.length + 1) * 24 ≤ 140737488355328 := Nat.le_trans (Nat.mul_le_mul_right 24 f0) hn
          have F1 := Lib.hid f1
          have HK2 : Hid ((out ++ [(rk, rv)]).length ≤ (l.take (i + 1)).length + laid.toNat) := Lib.hid (by rw [HK.out]; simp; omega)
          clear f0 f1 hlen2 he
          by_cases hgt : k < rk
          · obtain rfl : laid = true := by cases laid with | true => rfl | false => exact absurd ⟨hgt, rfl⟩ hg
            clear hg
            go_wp2_with (at_builtin; refine appR (w1.alloc (.cells #[.int .i64 rk, .string rv] 34)) rk rv _ rfl (.tmp 37) (.tmp 39) rfl w.heap.size _ out rfl (HO.out.alloc _) (w1.heap.size + 1) (by simp) rfl F1.out (by simp; omega) ?_; intro v3 w3 hown3 hb3 _; have HO3 := Lib.hid hown3; have HB3 := Lib.hid ((HBw.out.alloc HBw.out.size _).trans hb3); clear hown3 hb3)
            go_roundw
            case rel => exact ⟨i + 1, true, fresh, by go_num, by omega, rfl, rfl, _, HN.out, HO3.out, HK2.out, HB3.out, HB3.out.size⟩
            case measure => simp [intOf]; omega
          · have hgt' : decide (k < rk) = false := by simpa using hgt
            clear hg
            go_wp2_with (at_builtin; refine appR (w1.alloc (.cells #[.int .i64 rk, .string rv] 34)) rk rv _ rfl (.tmp 37) (.tmp 39) rfl w.heap.size _ out rfl (HO.out.alloc _) (w1.heap.size + 1) (by simp) rfl F1.out (by simp; omega) ?_; intro v3 w3 hown3 hb3 _; have HO3 := Lib.hid hown3; have HB3 := Lib.hid ((HBw.out.alloc HBw.out.size _).trans hb3); clear hown3 hb3)
            go_roundw
            case rel => exact ⟨i + 1, laid, fresh, by go_num, by omega, rfl, rfl, _, HN.out, HO3.out, HK2.out, HB3.out, HB3.out.size⟩
            case measure => simp [intOf]; omega
    · have HE : Hid (turns k s l = (out, laid, fresh)) := by
        have := HTn.out; rw [List.take_of_length_le (by rw [HL.out]; omega)] at this; exact Lib.hid this
      have HP : Hid (putL k s l = (if laid then out else out ++ [(k, s)], fresh)) := by
        unfold putL; rw [HE.out]; exact Lib.hid rfl
      cases laid with
      | true =>
        have hl1 : out.length ≤ n + 1 := by simp at hlen2; omega
        have HP2 : Hid (putL k s l = (out, fresh)) := HP.out ▸ Lib.hid rfl
        clear hlen2
        go_wp2
        go_ret2
        exact ⟨u8, by rw [HP2.out]; rfl, by rw [HP2.out]; exact HO.out, by rw [HP2.out]; exact hl1, HBw.out⟩
      | false =>
        have hl1 : out.length ≤ n := by simp at hlen2; omega
        have HP2 : Hid (putL k s l = (out ++ [(k, s)], fresh)) := HP.out ▸ Lib.hid rfl
        have f1 : (out.length + 1) * 24 ≤ 140737488355328 := Nat.le_trans (Nat.mul_le_mul_right 24 (Nat.succ_le_succ hl1)) hn
        have F1 := Lib.hid f1
        clear hlen2 f1
        go_wp2_with (at_builtin; refine appR w1 k s _ rfl (.tmp 44) (.tmp 48) rfl w.heap.size _ out rfl HO.out w1.heap.size rfl rfl F1.out HBw.out.size ?_; intro v3 w3 hown3 hb3 _; have HO3 := Lib.hid hown3; have HB3 := Lib.hid (HBw.out.trans hb3); clear hown3 hb3)
        go_ret2
        exact ⟨v3, by rw [HP2.out]; rfl, by rw [HP2.out]; exact HO3.out, by rw [HP2.out]; simp; omega, HB3.out⟩
end Go.Proofs.Ytgkmlggcmmdafaa.Pk
