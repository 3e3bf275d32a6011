/- Package tree: slices.Index, fits and Check by the list of parents. -/
import Derived.Test.YtcicpgiljceioaaZGrWave
import Derived.Lib.Hide
import Derived.Outline
import Derived.Scope
import Derived.Deep.QuietTactic
import Derived.BigQuiet
import Derived.Deep.DeepMust
import Derived.LoopTactic
namespace Go.Proofs.Ytcicpgiljceioaa.Pk
open Go.RowKit Go.Proofs.Ytcicpgiljceioaa.Gr
set_option linter.unusedVariables false

/-- The first place of a number; -1: none. -/
def IdxIs (ps : List Int) (x i : Int) : Prop := (∃ u, u < ps.length ∧ i = (u : Int) ∧ pa ps u = x ∧ ∀ u', u' < u → pa ps u' ≠ x) ∨ (i = -1 ∧ ∀ u, u < ps.length → pa ps u ≠ x)
set_option maxHeartbeats 1000000 in
theorem idx_any (A : Option Addr) (n c : Nat) (ps : List Int) (x : Int) (w : World) (B : Nat) (hr : Reads w B 1 A n (nms ps)) (hbig : n ≤ 4611686018427387904) :
    Calls Try.prog 66 #[.slice A n c, .int .i64 x] w fun e w' => ∃ i, e = .returned (.int .i64 i) ∧ IdxIs ps x i ∧ w' = w := by
  have HL := Lib.hid hr.plen
  have HR := Lib.hid hr
  clear hr
  go_enter Try.func66, Try.ntmps66
  go_wp2
  go_loop [8] (fun y => ∃ v : Nat, y = .int .i64 v ∧ v ≤ n ∧ ∀ u, u < v → pa ps u ≠ x) (fun y => n - (intOf y).toNat)
  case atStart => exact ⟨0, rfl, by omega, fun u hu => by omega⟩
  case round =>
    obtain ⟨v, rfl, hv, hno⟩ := hrel
    have HN := Lib.hid hno
    clear hno
    by_cases hlt : v < n
    · obtain ⟨b, off, rfl, hbb, hc⟩ := HR.out.pa (by omega)
      have cv := hc v hlt
      clear hc
      obtain ⟨p, hp⟩ : ∃ p, p = pa ps v := ⟨_, rfl⟩
      have HP := Lib.hid hp
      rw [← hp] at cv
      clear hp
      by_cases h1 : x = p
      · have HF : Hid (IdxIs ps x (v : Int)) := Lib.hid (.inl ⟨v, by rw [HL.out]; exact hlt, rfl, by rw [← HP.out]; exact h1.symm, HN.out⟩)
        have t1 : (x == p) = true := by simp [h1]
        clear h1
        go_wp2
        go_ret
        exact ⟨_, rfl, HF.out, rfl⟩
      · have HS : Hid (∀ u, u < v + 1 → pa ps u ≠ x) := Lib.hid (fun u hu => by
          rcases Nat.lt_or_ge u v with h | h
          · exact HN.out u h
          · have : u = v := by omega
            subst this
            rw [← HP.out]; exact fun e => h1 e.symm)
        have t1 : (x == p) = false := by simp [h1]
        clear h1
        go_wp2
        go_round
        case rel => exact ⟨v + 1, by go_num, by omega, HS.out⟩
        case measure => simp [intOf]; omega
    · have HF : Hid (IdxIs ps x (-1)) := Lib.hid (.inr ⟨rfl, fun u hu => HN.out u (by rw [HL.out] at hu; omega)⟩)
      go_wp2
      go_ret
      exact ⟨_, rfl, HF.out, rfl⟩

theorem idx_first {ps : List Int} {v : Nat} {i : Int} (h : IdxIs ps (-1) i) (hv : v < ps.length) (hp : pa ps v = -1) : i = (v : Int) ↔ ¬ ∃ u, u < v ∧ pa ps u = -1 := by
  rcases h with ⟨u, hu, rfl, h1, h2⟩ | ⟨rfl, h2⟩
  · constructor
    · rintro e ⟨x, hx, hx2⟩
      have : u = v := by omega
      subst this
      exact h2 x hx hx2
    · intro hno
      rcases Nat.lt_trichotomy u v with h3 | h3 | h3
      · exact absurd ⟨u, h3, h1⟩ hno
      · rw [h3]
      · exact absurd hp (h2 v h3)
  · exact absurd hp (h2 v hv)
theorem fault_root {ps : List Int} {v : Nat} {i : Int} (h : IdxIs ps (-1) i) (hv : v < ps.length) (hp : pa ps v = -1) : i = (v : Int) ↔ ¬ faultA ps v := by
  rw [idx_first h hv hp]
  unfold faultA
  constructor
  · rintro h1 (h2 | h2 | h2 | ⟨_, h2⟩)
    · omega
    · omega
    · omega
    · exact h1 h2
  · intro h1 h2
    exact h1 (.inr (.inr (.inr ⟨hp, h2⟩)))
theorem fault_else {ps : List Int} {v : Nat} (hp : pa ps v ≠ -1) : ¬ faultA ps v ↔ 0 ≤ pa ps v ∧ pa ps v < (ps.length : Int) ∧ pa ps v ≠ (v : Int) := by
  unfold faultA
  constructor
  · intro h
    refine ⟨?_, ?_, fun e => h (.inr (.inr (.inl e)))⟩
    · rcases Int.lt_or_le (pa ps v) 0 with h1 | h1
      · exact absurd (.inl (by omega)) h
      · exact h1
    · rcases Int.lt_or_le (pa ps v) (ps.length : Int) with h1 | h1
      · exact h1
      · exact absurd (.inr (.inl h1)) h
  · rintro ⟨h1, h2, h3⟩ (h | h | h | ⟨h, _⟩)
    · omega
    · omega
    · exact h3 h
    · exact hp h

/-- What fits leaves. -/
def FitsR (ps : List Int) (v : Nat) (w : World) (e : Ending) (w' : World) : Prop := ∃ ok, e = .returned (.bool ok) ∧ (ok = true ↔ ¬ faultA ps v) ∧ w' = w
set_option maxHeartbeats 1000000 in
theorem fits_any (A : Option Addr) (n c : Nat) (ps : List Int) (v : Nat) (w : World) (B : Nat) (hr : Reads w B 1 A n (nms ps)) (hv : v < n) (hn : n ≤ 32) :
    Calls Try.prog 58 #[.slice A n c, .int .i64 (v : Int)] w (FitsR ps v w) := by
  have HL := Lib.hid hr.plen
  have HR := Lib.hid hr
  obtain ⟨b, off, rfl, hbb, hc⟩ := hr.pa (by omega)
  have cv := hc v hv
  clear hr hc
  obtain ⟨p, hp⟩ : ∃ p, p = pa ps v := ⟨_, rfl⟩
  have HP := Lib.hid hp
  rw [← hp] at cv
  clear hp
  go_enter Try.func58, Try.ntmps58
  by_cases h1 : p = -1
  · subst h1
    have HI := Lib.hid (fun (W : World) (h : Reads W B 1 (some ⟨b, off, none⟩) n (nms ps)) => idx_any (some ⟨b, off, none⟩) n c ps (-1) W B h (by omega))
    go_wp2_with fail
    refine (HI.out _ HR.out).mono ?_
    rintro e w1 ⟨i, rfl, hi, rfl⟩
    have HF := Lib.hid (fault_root hi (by rw [HL.out]; exact hv) HP.out.symm)
    by_cases h2 : i = (v : Int)
    · have t1 : (i == (v : Int)) = true := by simp [h2]
      have HG : Hid (¬ faultA ps v) := Lib.hid (HF.out.1 h2)
      clear h2 hi
      go_wp2
      go_ret
      exact ⟨_, rfl, ⟨fun _ => HG.out, fun _ => rfl⟩, rfl⟩
    · have t1 : (i == (v : Int)) = false := by simp [h2]
      have HG : Hid (¬ ¬ faultA ps v) := Lib.hid (fun h => h2 (HF.out.2 h))
      clear h2 hi
      go_wp2
      go_ret
      exact ⟨_, rfl, ⟨fun h => (by cases h), fun h => absurd h HG.out⟩, rfl⟩
  · have HF := Lib.hid (fault_else (ps := ps) (v := v) (by rw [← HP.out]; exact h1))
    have t1 : (p == -1) = false := by simp [h1]
    rw [← HP.out, HL.out] at HF
    by_cases h2 : p < 0
    · have HG : Hid (¬ ¬ faultA ps v) := Lib.hid (fun h => by have := (HF.out.1 h).1; omega)
      clear h1
      go_wp2
      go_ret
      exact ⟨_, rfl, ⟨fun h => (by cases h), fun h => absurd h HG.out⟩, rfl⟩
    · by_cases h3 : (n : Int) ≤ p
      · have HG : Hid (¬ ¬ faultA ps v) := Lib.hid (fun h => by have := (HF.out.1 h).2.1; omega)
        have h2' : 0 ≤ p := by omega
        clear h1 h2
        go_wp2
        go_ret
        exact ⟨_, rfl, ⟨fun h => (by cases h), fun h => absurd h HG.out⟩, rfl⟩
      · have h2' : 0 ≤ p := by omega
        have h3' : p < (n : Int) := by omega
        by_cases h4 : p = (v : Int)
        · have HG : Hid (¬ ¬ faultA ps v) := Lib.hid (fun h => (HF.out.1 h).2.2 h4)
          have t4 : (p != (v : Int)) = false := by simp [h4]
          clear h1 h2 h3 h4
          go_wp2
          go_ret
          exact ⟨_, rfl, ⟨fun h => (by cases h), fun h => absurd h HG.out⟩, rfl⟩
        · have HG : Hid (¬ faultA ps v) := Lib.hid (HF.out.2 ⟨h2', h3', h4⟩)
          have t4 : (p != (v : Int)) = true := by simp [h4]
          clear h1 h2 h3 h4
          go_wp2
          go_ret
          exact ⟨_, rfl, ⟨fun _ => HG.out, fun _ => rfl⟩, rfl⟩
end Go.Proofs.Ytcicpgiljceioaa.Pk

/- Package tree: Check by the list of parents. -/
namespace Go.Proofs.Ytcicpgiljceioaa.Pk
open Go.RowKit Go.Proofs.Ytcicpgiljceioaa.Gr
set_option linter.unusedVariables false

/-- What Check leaves. -/
def ChkR (ps : List Int) (w : World) (e : Ending) (w' : World) : Prop := ∃ p er, e = .returned (.tuple #[.int .i64 p, .int .i64 er]) ∧ ChkIs ps p er ∧ w' = w
set_option maxHeartbeats 4000000 in
theorem chk_any (A : Option Addr) (n c : Nat) (ps : List Int) (w : World) (B : Nat) (hr : Reads w B 1 A n (nms ps)) (hbig : n ≤ 4611686018427387904) :
    Calls Try.prog 30 #[.slice A n c] w (ChkR ps w) := by
  have HL := Lib.hid hr.plen
  have HR := Lib.hid hr
  clear hr
  go_enter Try.func30, Try.ntmps30
  go_wp2
  refine wp_scope_straight ?_
  by_cases h0 : n = 0
  · subst h0
    go_wp2
    try rw [Exit.noGoto_ret]
    go_ret2
    exact ⟨_, _, rfl, .inl ⟨HL.out, rfl, rfl⟩, rfl⟩
  · have hz : ((n : Int) == 0) = false := by simp; omega
    by_cases h32 : 32 < n
    · have h32' : (32 : Int) < (n : Int) := by omega
      go_wp2
      try rw [Exit.noGoto_ret]
      go_ret2
      exact ⟨_, _, rfl, .inr (.inl ⟨by rw [HL.out]; exact h32, rfl, rfl⟩), rfl⟩
    · have h32' : (n : Int) ≤ 32 := by omega
      have hn32 : n ≤ 32 := by omega
      obtain ⟨b, off, rfl, hbb, hc⟩ := HR.out.pa (by omega)
      have HC := Lib.hid hc
      clear hc
      go_wp2
      go_loop [17] (fun y => ∃ v : Nat, y = .int .i64 v ∧ v ≤ n ∧ ∀ u, u < v → ¬ faultA ps u) (fun y => n - (intOf y).toNat)
      case atStart => exact ⟨0, rfl, by omega, fun u hu => by omega⟩
      case round =>
        obtain ⟨v, rfl, hv, hno⟩ := hrel
        have HN := Lib.hid hno
        clear hno
        by_cases hlt : v < n
        · rcases Classical.em (faultA ps v) with hfa | hfa
          · have HF := Lib.hid ((fits_any (some ⟨b, off, none⟩) n c ps v w B HR.out hlt hn32).mono (R' := fun e w' => e = .returned (.bool false) ∧ w' = w) (fun e w' ⟨ok, h1, h2, h3⟩ => ⟨by rw [h1]; cases ok with
              | true => exact absurd hfa (h2.1 rfl)
              | false => rfl, h3⟩))
            have HFi : Hid (ChkIs ps (v : Int) 10) := Lib.hid (.inr (.inr ⟨⟨by rw [HL.out]; omega, by rw [HL.out]; omega⟩, .inl ⟨v, by rw [HL.out]; exact hlt, rfl, rfl, hfa, HN.out⟩⟩))
            clear hfa
            go_wp2_with (go_at_call 58; go_must (refine HF.out.mono ?_); rintro e w1 ⟨rfl, rfl⟩)
            try rw [Exit.noGoto_ret]
            go_ret2
            exact ⟨_, _, rfl, HFi.out, rfl⟩
          · have HF := Lib.hid ((fits_any (some ⟨b, off, none⟩) n c ps v w B HR.out hlt hn32).mono (R' := fun e w' => e = .returned (.bool true) ∧ w' = w) (fun e w' ⟨ok, h1, h2, h3⟩ => ⟨by rw [h1, h2.2 hfa], h3⟩))
            have HS : Hid (∀ u, u < v + 1 → ¬ faultA ps u) := Lib.hid (fun u hu => by
              rcases Nat.lt_or_ge u v with h | h
              · exact HN.out u h
              · have : u = v := by omega
                subst this
                exact hfa)
            clear hfa
            go_wp2_with (go_at_call 58; go_must (refine HF.out.mono ?_); rintro e w1 ⟨rfl, rfl⟩)
            go_round
            case rel => exact ⟨v + 1, by go_num, by omega, HS.out⟩
            case measure => simp [intOf]; omega
        · have HNo : Hid (∀ u, u < n → ¬ faultA ps u) := Lib.hid (fun u hu => HN.out u (by omega))
          clear HN
          have HG : Hid (∀ v, v < n → ∀ k, -1 ≤ climb ps k (v : Int) ∧ climb ps k (v : Int) < (n : Int)) := Lib.hid (fun v hv k => by
            have hl := HL.out
            have := climb_rng (rng_of (fun u hu => HNo.out u (by omega))) v (by omega) k
            rw [hl] at this; exact this)
          go_wp2
          refine wp_label ?_
          go_wp2
          go_loop [28] (fun x => ∃ v : Nat, x = .int .i64 v ∧ v ≤ n ∧ ∀ u, u < v → climb ps n (u : Int) = -1) (fun x => n - (intOf x).toNat)
          case atStart => exact ⟨0, rfl, by omega, fun u hu => by omega⟩
          case round =>
            obtain ⟨v, rfl, hv, hall⟩ := hrel
            have HA := Lib.hid hall
            clear hall
            by_cases hlt : v < n
            · go_wp2
              go_loop [6, 34] (fun x y => ∃ (k m : Nat), x = .int .i64 m ∧ (m : Int) = climb ps k (v : Int) ∧ m < n ∧ y = .int .i64 k ∧ k ≤ n) (fun _ y => n - (intOf y).toNat)
              case atStart => exact ⟨0, v, rfl, rfl, hlt, rfl, by omega⟩
              case round =>
                obtain ⟨k, m, rfl, hm, hmn, rfl, hk⟩ := hrel
                have HM := Lib.hid hm
                clear hm
                have HST : Hid (climb ps (k + 1) (v : Int) = pa ps m) := Lib.hid (by
                  rw [climb_step ps k 0, if_neg (by rw [← HM.out]; omega), ← HM.out]; rfl)
                have cm := HC.out m hmn
                obtain ⟨x, hx⟩ : ∃ x, x = pa ps m := ⟨_, rfl⟩
                rw [← hx] at cm
                have HXE := Lib.hid hx
                clear hx
                by_cases hkn : k < n
                · by_cases hx1 : x = -1
                  · have HN : Hid (∀ u, u < v + 1 → climb ps n (u : Int) = -1) := Lib.hid (fun u hu => by
                      rcases Nat.lt_or_ge u v with h | h
                      · exact HA.out u h
                      · have : u = v := by omega
                        subst this
                        exact climb_more (k + 1) n _ (by rw [HST.out, ← HXE.out]; exact hx1) (by omega))
                    have HB := Lib.hid hlt
                    subst hx1
                    go_wp2
                    go_round
                    case rel => exact ⟨v + 1, by go_num, by have := HB.out; omega, HN.out⟩
                    case measure => have := HB.out; simp [intOf]; omega
                  · have hcl : -1 ≤ x ∧ x < (n : Int) := by
                      have := HG.out v hlt (k + 1)
                      rw [HST.out, ← HXE.out] at this; exact this
                    have t1 : (x == -1) = false := by simp [hx1]
                    obtain ⟨q, rfl⟩ : ∃ q : Nat, x = (q : Int) := ⟨x.toNat, by omega⟩
                    have hq : q < n := by omega
                    have HN : Hid ((q : Int) = climb ps (k + 1) (v : Int)) := Lib.hid (by rw [HST.out]; exact HXE.out)
                    clear hx1 hcl
                    go_wp2
                    go_round
                    case rel => exact ⟨k + 1, q, rfl, HN.out, hq, by go_num, by omega⟩
                    case measure => simp [intOf]; omega
                · have HF : Hid (ChkIs ps (v : Int) 10) := Lib.hid (.inr (.inr ⟨⟨by rw [HL.out]; omega, by rw [HL.out]; omega⟩, .inr ⟨fun u hu => HNo.out u (by rw [← HL.out]; exact hu), .inl ⟨v, by rw [HL.out]; exact hlt, rfl, rfl, by
                    have : k = n := by omega
                    rw [HL.out, ← this, ← HM.out]; omega, fun u hu => by rw [HL.out]; exact HA.out u hu⟩⟩⟩))
                  clear cm
                  go_wp2
                  try rw [Exit.noGoto_ret]
                  go_ret2
                  exact ⟨_, _, rfl, HF.out, rfl⟩
            · have HF : Hid (ChkIs ps 0 0) := Lib.hid (.inr (.inr ⟨⟨by rw [HL.out]; omega, by rw [HL.out]; omega⟩, .inr ⟨fun u hu => HNo.out u (by rw [← HL.out]; exact hu), .inr ⟨fun u hu => by rw [HL.out]; exact HA.out u (by rw [HL.out] at hu; omega), rfl, rfl⟩⟩⟩))
              go_wp2
              try rw [Exit.noGoto_ret]
              go_ret2
              exact ⟨_, _, rfl, HF.out, rfl⟩
end Go.Proofs.Ytcicpgiljceioaa.Pk

/- Numbers of any slice behind those of the call's own; one of one's own turned. -/
namespace Go.Proofs.Ytcicpgiljceioaa.Pk
open Go.RowKit
set_option linter.unusedVariables false
/-- Numbers of any slice behind those of the call's own. -/
theorem appNs {ops : Array Oper} {rest : List Oper} {o : Oper} {a : Act} {Q : Exit → Act → World → Prop} (w : World) (hgd : o.guard = none) (s x : Operand)
    (ho : o.op = .call { callee := .builtin .append, args := #[s, x], argTypes := #[22, 22] }) (B : Nat) (v : Value) (l : List Int) (hs : a.eval s = v) (hown : OwnN w B v l)
    (B' : Nat) (A : Option Addr) (c : Nat) (r : List Int) (n : Nat) (hx : a.eval x = .slice A n c) (hr : Reads w B' 1 A n (nms r)) (hlen : (l.length + n) * 8 ≤ 140737488355328) (hB : B ≤ w.heap.size)
    (h : ∀ v' w', OwnN w' B v' (l ++ r) → Below B w w' → (v'.ownBlock = v.ownBlock ∨ v'.ownBlock = some w.heap.size) → w.grownBy w' v.ownBlock → wpList Try.prog ops Q rest (a.put o.dst v') w') : wpList Try.prog ops Q (o :: rest) a w := by
  obtain ⟨i0, hi0, hz0, hz1, hz2⟩ := info_parts int_info
  refine wpList_append_any _ hgd s x _ ho B 3 i0 _ 1 8 Try.underlying22 hi0 hz0 hz1 hz2 rfl (by omega) v l.length (nms l) hs hown B' A n c (nms r) hx hr (nms_one r)
    (by unfold maxLen; omega) (by omega) hB ?_
  intro v' w' ho hg hat
  have hr' : r.length = n := by have := hr.1; simp [nms] at this; omega
  refine h v' w' ?_ ((Below.refl _ _).grown hg hB (ownN_base hown)) hat hg
  unfold OwnN
  rw [← nms_append, List.length_append, hr']; exact ho
theorem OwnN.fresh (w : World) (B : Nat) (hB : B ≤ w.heap.size) : OwnN (w.alloc (.cells #[] 3)) B (.slice (some ⟨w.heap.size, 0, none⟩) 0 0) [] :=
  ⟨rfl, .inr ⟨w.heap.size, 0, #[], rfl, hB, heap_alloc_new w _, Nat.le_refl _, by unfold maxLen; omega, rfl, rfl⟩⟩
/-- Numbers of any slice behind an empty literal. -/
theorem appNE {ops : Array Oper} {rest : List Oper} {o : Oper} {a : Act} {Q : Exit → Act → World → Prop} (w : World) (hgd : o.guard = none) (s x : Operand)
    (ho : o.op = .call { callee := .builtin .append, args := #[s, x], argTypes := #[22, 22] }) (hs : a.eval s = .slice (some ⟨w.heap.size, 0, none⟩) 0 0)
    (B' : Nat) (A : Option Addr) (c : Nat) (r : List Int) (n : Nat) (hx : a.eval x = .slice A n c) (hr : Reads w B' 1 A n (nms r)) (hB' : B' ≤ w.heap.size) (hlen : n * 8 ≤ 140737488355328)
    (h : ∀ v' w', OwnN w' w.heap.size v' r → Below w.heap.size w w' → wpList Try.prog ops Q rest (a.put o.dst v') w') : wpList Try.prog ops Q (o :: rest) a (w.alloc (.cells #[] 3)) := by
  refine appNs _ hgd s x ho w.heap.size _ [] hs (OwnN.fresh w _ (Nat.le_refl _)) B' A c r n hx (hr.alloc hB' _) (by simp; omega) (by simp) ?_
  intro v' w' ho' hb' _ _
  exact h v' w' (by simpa using ho') (((Below.refl _ _).alloc (Nat.le_refl _) _).trans hb')

/-- One number of one's own is turned. -/
theorem OwnN.set_ {w : World} {B g n c : Nat} {l : List Int} (h : OwnN w B (.slice (some ⟨g, 0, none⟩) n c) l) (i : Nat) (x : Int) : OwnN (w.setCell ⟨g, i, none⟩ (.int .i64 x)) B (.slice (some ⟨g, 0, none⟩) n c) (l.set i x) := by
  obtain ⟨h1, ⟨e, _⟩ | ⟨g', cap, cur, e, hb, hh, h3, h4, h5, h6⟩⟩ := h
  · cases e
  · simp only [Value.slice.injEq, Option.some.injEq, Addr.mk.injEq] at e
    obtain ⟨⟨rfl, _⟩, rfl, rfl⟩ := e
    have hk : Blk (w.setCell ⟨g, i, none⟩ (.int .i64 x)) g 3 (cur.setIfInBounds i (.int .i64 x)) := Blk.set_ hh i _
    refine ⟨by simp [nms], .inr ⟨g, c, _, by simp, hb, hk, by simpa using h3, h4, by simpa using h5, ?_⟩⟩
    rw [Array.toList_setIfInBounds, List.length_set, List.take_set, h6]
    simp [nms]
theorem OwnN.at_ {w : World} {B g n c : Nat} {l : List Int} (h : OwnN w B (.slice (some ⟨g, 0, none⟩) n c) l) : n = l.length ∧ B ≤ g ∧ g < w.heap.size ∧ (∀ i, i < n → w.cell? ⟨g, i, none⟩ = some (.int .i64 (l.getD i 0))) ∧ ∀ i, w.frozen? ⟨g, i, none⟩ = false := by
  have hlt := ownN_lt h g rfl
  have hbs := ownN_base h g rfl
  obtain ⟨A, c', e, hc, hr⟩ := h.reads
  obtain ⟨h1, ⟨e', _⟩ | ⟨g', cap, cur, e', hb, hh, h3, h4, h5, h6⟩⟩ := h
  · cases e'
  · simp only [Value.slice.injEq, Option.some.injEq, Addr.mk.injEq] at e e'
    obtain ⟨⟨rfl, _⟩, rfl, rfl⟩ := e'
    obtain ⟨rfl, hn, rfl⟩ := e
    refine ⟨hn, hbs, hlt, fun i hi => ?_, fun i => Blk.frozen (t := 3) (cs := cur) hh i⟩
    obtain ⟨b, off, eb, _, hcell⟩ := hr.i64 (by omega)
    simp only [Option.some.injEq, Addr.mk.injEq] at eb
    obtain ⟨rfl, rfl, _⟩ := eb
    have := hcell i (by omega)
    simpa using this

end Go.Proofs.Ytcicpgiljceioaa.Pk
