/- Package tree: slices.Index, fits and Check by the list of parents. -/
import Derived.Test.YtcomiininaemhaaZGrb
import Derived.Lib.Hide
import Derived.Outline
import Derived.Scope
import Derived.Deep.QuietTactic
import Derived.BigQuiet
import Derived.Deep.DeepMust
import Derived.LoopTactic
import Derived.Test.YtcomiininaemhaaZNm
import Derived.Test.YtcomiininaemhaaZRs
import Derived.Test.YtcomiininaemhaaZRng
import Derived.Test.YtcomiininaemhaaZGrd
import Derived.Lib.SliceRun
import Derived.RangeFuncKeeps
import Derived.Stop.RegionWithIn
namespace Go.Proofs.Ytcomiininaemhaa.Pk
open Go.RowKit Go.Proofs.Ytcomiininaemhaa.Gr
set_option linter.unusedVariables false

/-- The first place of a number; -1: none. -/
def IdxIs (ps : List Int) (x i : Int) : Prop := (∃ u, u < ps.length ∧ i = (u : Int) ∧ pa ps u = x ∧ ∀ u', u' < u → pa ps u' ≠ x) ∨ (i = -1 ∧ ∀ u, u < ps.length → pa ps u ≠ x)
set_option maxHeartbeats 1000000 in
theorem idx_any (A : Option Addr) (n c : Nat) (ps : List Int) (x : Int) (w : World) (B : Nat) (hr : Reads w B 1 A n (nms ps)) (hbig : n ≤ 4611686018427387904) :
    Calls Try.prog 40 #[.slice A n c, .int .i64 x] w fun e w' => ∃ i, e = .returned (.int .i64 i) ∧ IdxIs ps x i ∧ w' = w := by
  have HL := Lib.hid hr.plen
  have HR := Lib.hid hr
  clear hr
  go_enter Try.func40, Try.ntmps40
  go_wp2
  go_loop [8] (fun y => ∃ v : Nat, y = .int .i64 v ∧ v ≤ n ∧ ∀ u, u < v → pa ps u ≠ x) (fun y => n - (intOf y).toNat)
  case atStart => exact ⟨0, rfl, by omega, fun u hu => by omega⟩
  case round =>
    obtain ⟨v, rfl, hv, hno⟩ := hrel
    have HN := Lib.hid hno
    clear hno
    by_cases hlt : v < n
    · obtain ⟨b, off, rfl, hbb, hc⟩ := HR.out.pa (by omega)
      have cv := hc v hlt
      clear hc
      obtain ⟨p, hp⟩ : ∃ p, p = pa ps v := ⟨_, rfl⟩
      have HP := Lib.hid hp
      rw [← hp] at cv
      clear hp
      by_cases h1 : x = p
      · have HF : Hid (IdxIs ps x (v : Int)) := Lib.hid (.inl ⟨v, by rw [HL.out]; exact hlt, rfl, by rw [← HP.out]; exact h1.symm, HN.out⟩)
        have t1 : (x == p) = true := by simp [h1]
        clear h1
        go_wp2
        go_ret
        exact ⟨_, rfl, HF.out, rfl⟩
      · have HS : Hid (∀ u, u < v + 1 → pa ps u ≠ x) := Lib.hid (fun u hu => by
          rcases Nat.lt_or_ge u v with h | h
          · exact HN.out u h
          · have : u = v := by omega
            subst this
            rw [← HP.out]; exact fun e => h1 e.symm)
        have t1 : (x == p) = false := by simp [h1]
        clear h1
        go_wp2
        go_round
        case rel => exact ⟨v + 1, by go_num, by omega, HS.out⟩
        case measure => simp [intOf]; omega
    · have HF : Hid (IdxIs ps x (-1)) := Lib.hid (.inr ⟨rfl, fun u hu => HN.out u (by rw [HL.out] at hu; omega)⟩)
      go_wp2
      go_ret
      exact ⟨_, rfl, HF.out, rfl⟩

theorem idx_first {ps : List Int} {v : Nat} {i : Int} (h : IdxIs ps (-1) i) (hv : v < ps.length) (hp : pa ps v = -1) : i = (v : Int) ↔ ¬ ∃ u, u < v ∧ pa ps u = -1 := by
  rcases h with ⟨u, hu, rfl, h1, h2⟩ | ⟨rfl, h2⟩
  · constructor
    · rintro e ⟨x, hx, hx2⟩
      have : u = v := by omega
      subst this
      exact h2 x hx hx2
    · intro hno
      rcases Nat.lt_trichotomy u v with h3 | h3 | h3
      · exact absurd ⟨u, h3, h1⟩ hno
      · rw [h3]
      · exact absurd hp (h2 v h3)
  · exact absurd hp (h2 v hv)
theorem fault_root {ps : List Int} {v : Nat} {i : Int} (h : IdxIs ps (-1) i) (hv : v < ps.length) (hp : pa ps v = -1) : i = (v : Int) ↔ ¬ faultA ps v := by
  rw [idx_first h hv hp]
  unfold faultA
  constructor
  · rintro h1 (h2 | h2 | h2 | ⟨_, h2⟩)
    · omega
    · omega
    · omega
    · exact h1 h2
  · intro h1 h2
    exact h1 (.inr (.inr (.inr ⟨hp, h2⟩)))
theorem fault_else {ps : List Int} {v : Nat} (hp : pa ps v ≠ -1) : ¬ faultA ps v ↔ 0 ≤ pa ps v ∧ pa ps v < (ps.length : Int) ∧ pa ps v ≠ (v : Int) := by
  unfold faultA
  constructor
  · intro h
    refine ⟨?_, ?_, fun e => h (.inr (.inr (.inl e)))⟩
    · rcases Int.lt_or_le (pa ps v) 0 with h1 | h1
      · exact absurd (.inl (by omega)) h
      · exact h1
    · rcases Int.lt_or_le (pa ps v) (ps.length : Int) with h1 | h1
      · exact h1
      · exact absurd (.inr (.inl h1)) h
  · rintro ⟨h1, h2, h3⟩ (h | h | h | ⟨h, _⟩)
    · omega
    · omega
    · exact h3 h
    · exact hp h

/-- What fits leaves. -/
def FitsR (ps : List Int) (v : Nat) (w : World) (e : Ending) (w' : World) : Prop := ∃ ok, e = .returned (.bool ok) ∧ (ok = true ↔ ¬ faultA ps v) ∧ w' = w
set_option maxHeartbeats 1000000 in
theorem fits_any (A : Option Addr) (n c : Nat) (ps : List Int) (v : Nat) (w : World) (B : Nat) (hr : Reads w B 1 A n (nms ps)) (hv : v < n) (hn : n ≤ 32) :
    Calls Try.prog 42 #[.slice A n c, .int .i64 (v : Int)] w (FitsR ps v w) := by
  have HL := Lib.hid hr.plen
  have HR := Lib.hid hr
  obtain ⟨b, off, rfl, hbb, hc⟩ := hr.pa (by omega)
  have cv := hc v hv
  clear hr hc
  obtain ⟨p, hp⟩ : ∃ p, p = pa ps v := ⟨_, rfl⟩
  have HP := Lib.hid hp
  rw [← hp] at cv
  clear hp
  go_enter Try.func42, Try.ntmps42
  by_cases h1 : p = -1
  · subst h1
    have HI := Lib.hid (fun (W : World) (h : Reads W B 1 (some ⟨b, off, none⟩) n (nms ps)) => idx_any (some ⟨b, off, none⟩) n c ps (-1) W B h (by omega))
    go_wp2_with fail
    refine (HI.out _ HR.out).mono ?_
    rintro e w1 ⟨i, rfl, hi, rfl⟩
    have HF := Lib.hid (fault_root hi (by rw [HL.out]; exact hv) HP.out.symm)
    by_cases h2 : i = (v : Int)
    · have t1 : (i == (v : Int)) = true := by simp [h2]
      have HG : Hid (¬ faultA ps v) := Lib.hid (HF.out.1 h2)
      clear h2 hi
      go_wp2
      go_ret
      exact ⟨_, rfl, ⟨fun _ => HG.out, fun _ => rfl⟩, rfl⟩
    · have t1 : (i == (v : Int)) = false := by simp [h2]
      have HG : Hid (¬ ¬ faultA ps v) := Lib.hid (fun h => h2 (HF.out.2 h))
      clear h2 hi
      go_wp2
      go_ret
      exact ⟨_, rfl, ⟨fun h => (by cases h), fun h => absurd h HG.out⟩, rfl⟩
  · have HF := Lib.hid (fault_else (ps := ps) (v := v) (by rw [← HP.out]; exact h1))
    have t1 : (p == -1) = false := by simp [h1]
    rw [← HP.out, HL.out] at HF
    by_cases h2 : p < 0
    · have HG : Hid (¬ ¬ faultA ps v) := Lib.hid (fun h => by have := (HF.out.1 h).1; omega)
      clear h1
      go_wp2
      go_ret
      exact ⟨_, rfl, ⟨fun h => (by cases h), fun h => absurd h HG.out⟩, rfl⟩
    · by_cases h3 : (n : Int) ≤ p
      · have HG : Hid (¬ ¬ faultA ps v) := Lib.hid (fun h => by have := (HF.out.1 h).2.1; omega)
        have h2' : 0 ≤ p := by omega
        clear h1 h2
        go_wp2
        go_ret
        exact ⟨_, rfl, ⟨fun h => (by cases h), fun h => absurd h HG.out⟩, rfl⟩
      · have h2' : 0 ≤ p := by omega
        have h3' : p < (n : Int) := by omega
        by_cases h4 : p = (v : Int)
        · have HG : Hid (¬ ¬ faultA ps v) := Lib.hid (fun h => (HF.out.1 h).2.2 h4)
          have t4 : (p != (v : Int)) = false := by simp [h4]
          clear h1 h2 h3 h4
          go_wp2
          go_ret
          exact ⟨_, rfl, ⟨fun h => (by cases h), fun h => absurd h HG.out⟩, rfl⟩
        · have HG : Hid (¬ faultA ps v) := Lib.hid (HF.out.2 ⟨h2', h3', h4⟩)
          have t4 : (p != (v : Int)) = true := by simp [h4]
          clear h1 h2 h3 h4
          go_wp2
          go_ret
          exact ⟨_, rfl, ⟨fun _ => HG.out, fun _ => rfl⟩, rfl⟩
end Go.Proofs.Ytcomiininaemhaa.Pk

/- Package tree: Check by the list of parents. -/
namespace Go.Proofs.Ytcomiininaemhaa.Pk
open Go.RowKit Go.Proofs.Ytcomiininaemhaa.Gr
set_option linter.unusedVariables false

/-- What Check leaves. -/
def ChkR (ps : List Int) (w : World) (e : Ending) (w' : World) : Prop := ∃ p er, e = .returned (.tuple #[.int .i64 p, .int .i64 er]) ∧ ChkIs ps p er ∧ w' = w
set_option maxHeartbeats 4000000 in
theorem chk_any (A : Option Addr) (n c : Nat) (ps : List Int) (w : World) (B : Nat) (hr : Reads w B 1 A n (nms ps)) (hbig : n ≤ 4611686018427387904) :
    Calls Try.prog 33 #[.slice A n c] w (ChkR ps w) := by
  have HL := Lib.hid hr.plen
  have HR := Lib.hid hr
  clear hr
  go_enter Try.func33, Try.ntmps33
  go_wp2
  refine wp_scope_straight ?_
  by_cases h0 : n = 0
  · subst h0
    go_wp2
    try rw [Exit.noGoto_ret]
    go_ret2
    exact ⟨_, _, rfl, .inl ⟨HL.out, rfl, rfl⟩, rfl⟩
  · have hz : ((n : Int) == 0) = false := by simp; omega
    by_cases h32 : 32 < n
    · have h32' : (32 : Int) < (n : Int) := by omega
      go_wp2
      try rw [Exit.noGoto_ret]
      go_ret2
      exact ⟨_, _, rfl, .inr (.inl ⟨by rw [HL.out]; exact h32, rfl, rfl⟩), rfl⟩
    · have h32' : (n : Int) ≤ 32 := by omega
      have hn32 : n ≤ 32 := by omega
      obtain ⟨b, off, rfl, hbb, hc⟩ := HR.out.pa (by omega)
      have HC := Lib.hid hc
      clear hc
      go_wp2
      go_loop [17] (fun y => ∃ v : Nat, y = .int .i64 v ∧ v ≤ n ∧ ∀ u, u < v → ¬ faultA ps u) (fun y => n - (intOf y).toNat)
      case atStart => exact ⟨0, rfl, by omega, fun u hu => by omega⟩
      case round =>
        obtain ⟨v, rfl, hv, hno⟩ := hrel
        have HN := Lib.hid hno
        clear hno
        by_cases hlt : v < n
        · rcases Classical.em (faultA ps v) with hfa | hfa
          · have HF := Lib.hid ((fits_any (some ⟨b, off, none⟩) n c ps v w B HR.out hlt hn32).mono (R' := fun e w' => e = .returned (.bool false) ∧ w' = w) (fun e w' ⟨ok, h1, h2, h3⟩ => ⟨by rw [h1]; cases ok with
              | true => exact absurd hfa (h2.1 rfl)
              | false => rfl, h3⟩))
            have HFi : Hid (ChkIs ps (v : Int) 10) := Lib.hid (.inr (.inr ⟨⟨by rw [HL.out]; omega, by rw [HL.out]; omega⟩, .inl ⟨v, by rw [HL.out]; exact hlt, rfl, rfl, hfa, HN.out⟩⟩))
            clear hfa
            go_wp2_with (go_at_call 42; go_must (refine HF.out.mono ?_); rintro e w1 ⟨rfl, rfl⟩)
            try rw [Exit.noGoto_ret]
            go_ret2
            exact ⟨_, _, rfl, HFi.out, rfl⟩
          · have HF := Lib.hid ((fits_any (some ⟨b, off, none⟩) n c ps v w B HR.out hlt hn32).mono (R' := fun e w' => e = .returned (.bool true) ∧ w' = w) (fun e w' ⟨ok, h1, h2, h3⟩ => ⟨by rw [h1, h2.2 hfa], h3⟩))
            have HS : Hid (∀ u, u < v + 1 → ¬ faultA ps u) := Lib.hid (fun u hu => by
              rcases Nat.lt_or_ge u v with h | h
              · exact HN.out u h
              · have : u = v := by omega
                subst this
                exact hfa)
            clear hfa
            go_wp2_with (go_at_call 42; go_must (refine HF.out.mono ?_); rintro e w1 ⟨rfl, rfl⟩)
            go_round
            case rel => exact ⟨v + 1, by go_num, by omega, HS.out⟩
            case measure => simp [intOf]; omega
        · have HNo : Hid (∀ u, u < n → ¬ faultA ps u) := Lib.hid (fun u hu => HN.out u (by omega))
          clear HN
          have HG : Hid (∀ v, v < n → ∀ k, -1 ≤ climb ps k (v : Int) ∧ climb ps k (v : Int) < (n : Int)) := Lib.hid (fun v hv k => by
            have hl := HL.out
            have := climb_rng (rng_of (fun u hu => HNo.out u (by omega))) v (by omega) k
            rw [hl] at this; exact this)
          go_wp2
          refine wp_label ?_
          go_wp2
          go_loop [28] (fun x => ∃ v : Nat, x = .int .i64 v ∧ v ≤ n ∧ ∀ u, u < v → climb ps n (u : Int) = -1) (fun x => n - (intOf x).toNat)
          case atStart => exact ⟨0, rfl, by omega, fun u hu => by omega⟩
          case round =>
            obtain ⟨v, rfl, hv, hall⟩ := hrel
            have HA := Lib.hid hall
            clear hall
            by_cases hlt : v < n
            · go_wp2
              go_loop [6, 34] (fun x y => ∃ (k m : Nat), x = .int .i64 m ∧ (m : Int) = climb ps k (v : Int) ∧ m < n ∧ y = .int .i64 k ∧ k ≤ n) (fun _ y => n - (intOf y).toNat)
              case atStart => exact ⟨0, v, rfl, rfl, hlt, rfl, by omega⟩
              case round =>
                obtain ⟨k, m, rfl, hm, hmn, rfl, hk⟩ := hrel
                have HM := Lib.hid hm
                clear hm
                have HST : Hid (climb ps (k + 1) (v : Int) = pa ps m) := Lib.hid (by
                  rw [climb_step ps k 0, if_neg (by rw [← HM.out]; omega), ← HM.out]; rfl)
                have cm := HC.out m hmn
                obtain ⟨x, hx⟩ : ∃ x, x = pa ps m := ⟨_, rfl⟩
                rw [← hx] at cm
                have HXE := Lib.hid hx
                clear hx
                by_cases hkn : k < n
                · by_cases hx1 : x = -1
                  · have HN : Hid (∀ u, u < v + 1 → climb ps n (u : Int) = -1) := Lib.hid (fun u hu => by
                      rcases Nat.lt_or_ge u v with h | h
                      · exact HA.out u h
                      · have : u = v := by omega
                        subst this
                        exact climb_more (k + 1) n _ (by rw [HST.out, ← HXE.out]; exact hx1) (by omega))
                    have HB := Lib.hid hlt
                    subst hx1
                    go_wp2
                    go_round
                    case rel => exact ⟨v + 1, by go_num, by have := HB.out; omega, HN.out⟩
                    case measure => have := HB.out; simp [intOf]; omega
                  · have hcl : -1 ≤ x ∧ x < (n : Int) := by
                      have := HG.out v hlt (k + 1)
                      rw [HST.out, ← HXE.out] at this; exact this
                    have t1 : (x == -1) = false := by simp [hx1]
                    obtain ⟨q, rfl⟩ : ∃ q : Nat, x = (q : Int) := ⟨x.toNat, by omega⟩
                    have hq : q < n := by omega
                    have HN : Hid ((q : Int) = climb ps (k + 1) (v : Int)) := Lib.hid (by rw [HST.out]; exact HXE.out)
                    clear hx1 hcl
                    go_wp2
                    go_round
                    case rel => exact ⟨k + 1, q, rfl, HN.out, hq, by go_num, by omega⟩
                    case measure => simp [intOf]; omega
                · have HF : Hid (ChkIs ps (v : Int) 10) := Lib.hid (.inr (.inr ⟨⟨by rw [HL.out]; omega, by rw [HL.out]; omega⟩, .inr ⟨fun u hu => HNo.out u (by rw [← HL.out]; exact hu), .inl ⟨v, by rw [HL.out]; exact hlt, rfl, rfl, by
                    have : k = n := by omega
                    rw [HL.out, ← this, ← HM.out]; omega, fun u hu => by rw [HL.out]; exact HA.out u hu⟩⟩⟩))
                  clear cm
                  go_wp2
                  try rw [Exit.noGoto_ret]
                  go_ret2
                  exact ⟨_, _, rfl, HF.out, rfl⟩
            · have HF : Hid (ChkIs ps 0 0) := Lib.hid (.inr (.inr ⟨⟨by rw [HL.out]; omega, by rw [HL.out]; omega⟩, .inr ⟨fun u hu => HNo.out u (by rw [← HL.out]; exact hu), .inr ⟨fun u hu => by rw [HL.out]; exact HA.out u (by rw [HL.out] at hu; omega), rfl, rfl⟩⟩⟩))
              go_wp2
              try rw [Exit.noGoto_ret]
              go_ret2
              exact ⟨_, _, rfl, HF.out, rfl⟩
end Go.Proofs.Ytcomiininaemhaa.Pk

/- Package tree: a tree in memory; New, Size, Root, has. -/
namespace Go.Proofs.Ytcomiininaemhaa.Pk
open Go.RowKit Go.Proofs.Ytcomiininaemhaa.Gr
set_option linter.unusedVariables false

theorem run_eql_nil (W : World) (b off n c : Nat) : (binOp .eql 26 (.slice (some ⟨b, off, none⟩) n c) (.slice none 0 0)).run Try.prog W = .ok (.bool false) W :=
  Lib.run_eql_slice_nil W _ _ (some ⟨b, off, none⟩) n c 0 0 Try.underlying26
/-- A copy of numbers, if there are some. -/
theorem clone_any (A : Option Addr) (n c : Nat) (ps : List Int) (w : World) (B : Nat) (hr : Reads w B 1 A n (nms ps)) (hB : B ≤ w.heap.size) (h0 : 0 < n) (hlen : n * 8 ≤ 140737488355328) :
    Calls Try.prog 34 #[.slice A n c] w fun e w' => ∃ v, e = .returned v ∧ OwnN w' w.heap.size v ps ∧ Below w.heap.size w w' := by
  have HR := Lib.hid hr
  obtain ⟨b, off, rfl, hbb, hc⟩ := hr.pa h0
  clear hr hc
  have E0 := run_eql_nil w b off n c
  go_enter Try.func34, Try.ntmps34
  go_wp2_with (at_builtin; refine appNE w rfl (.tmp 5) (.tmp 6) rfl rfl B (some ⟨b, off, none⟩) c ps n rfl HR.out hB hlen ?_; intro v2 w2 hown2 hb2; have HO := Lib.hid hown2; have HB := Lib.hid hb2; clear hown2 hb2)
  go_ret
  exact ⟨_, rfl, HO.out, HB.out⟩

/-- The tree in block T, its list in block g. -/
def IsTr (w : World) (T g : Nat) (ps : List Int) : Prop := ∃ c cur, Blk w T 60 #[.slice (some ⟨g, 0, none⟩) ps.length c] ∧ Blk w g 3 cur ∧ cur.toList.take ps.length = nms ps ∧ ps.length ≤ c
/-- The tree's blocks. -/
def TrB (T g : Nat) (b : Nat) : Prop := b = T ∨ b = g
theorem Stay.only {D : Nat → Prop} {w w' : World} {x : Nat} (h : Only w w' x) (hD : ∀ b, D b → b < w.heap.size ∧ b ≠ x) : Stay D w w' :=
  ⟨h.size, fun b hb => h.block b (hD b hb).1 (fun e => (hD b hb).2 (by injection e))⟩
section
variable {w w' : World} {T g : Nat} {ps : List Int}
theorem IsTr.stay (h : IsTr w T g ps) (hs : Stay (TrB T g) w w') : IsTr w' T g ps := by
  obtain ⟨c, cur, h1, h2, h3⟩ := h
  exact ⟨c, cur, (hs.2 T (.inl rfl)).trans h1, (hs.2 g (.inr rfl)).trans h2, h3⟩
theorem IsTr.lt (h : IsTr w T g ps) : ∀ b, TrB T g b → b < w.heap.size := by
  obtain ⟨c, cur, h1, h2, h3⟩ := h
  rintro b (rfl | rfl)
  · exact h1.lt
  · exact h2.lt
theorem IsTr.below {B : Nat} (h : IsTr w T g ps) (hb : Below B w w') (hB : ∀ b, TrB T g b → b < B) : IsTr w' T g ps := h.stay (Stay.below hb hB)
theorem IsTr.below_ (h : IsTr w T g ps) (hb : Below w.heap.size w w') : IsTr w' T g ps := h.below hb h.lt
theorem IsTr.drewN (h : IsTr w T g ps) (k : Nat) : IsTr (w.drewN k) T g ps := h.stay ⟨Nat.le_refl _, fun _ _ => rfl⟩
theorem IsTr.alloc (h : IsTr w T g ps) (o : Obj) : IsTr (w.alloc o) T g ps := h.below_ ((Below.refl _ _).alloc (Nat.le_refl _) _)
/-- What its functions load. -/
theorem IsTr.cells (h : IsTr w T g ps) : ∃ c, ps.length ≤ c ∧ w.cell? ⟨T, 0, none⟩ = some (.slice (some ⟨g, 0, none⟩) ps.length c) ∧ Reads w w.heap.size 1 (some ⟨g, 0, none⟩) ps.length (nms ps) ∧ ∀ v, v < ps.length → w.cell? ⟨g, v, none⟩ = some (.int .i64 (pa ps v)) := by
  obtain ⟨c, cur, h1, h2, h3, h4⟩ := h
  have hcell : ∀ j u, (nms ps)[j]? = some u → w.cell? ⟨g, j, none⟩ = some u := by
    intro j u hu
    rw [h2.cell]
    rw [← h3] at hu
    rw [← hu, List.getElem?_take]
    split
    · simp
    · rename_i hj
      rw [List.getElem?_take, if_neg hj] at hu
      cases hu
  refine ⟨c, h4, h1.cell 0, ⟨by simp, fun _ => ⟨_, rfl, h2.lt, fun j u hu => ?_⟩⟩, fun v hv => ?_⟩
  · have e : (⟨g, 0, none⟩ : Addr).add j = ⟨g, j, none⟩ := by unfold Addr.add; by_cases hj : j = 0 <;> simp [hj]
    rw [e]; exact hcell j u hu
  · have := hcell v _ (nms_get hv)
    rw [this, pa_get hv]
end
/-- What New leaves. -/
def NewR (ps : List Int) (w : World) (e : Ending) (w' : World) : Prop :=
  Below w.heap.size w w' ∧ ((∃ T g, e = .returned (.tuple #[.pointer (some ⟨T, 0, none⟩), .int .i64 0]) ∧ ChkIs ps 0 0 ∧ IsTr w' T g ps ∧ w.heap.size ≤ T ∧ w.heap.size ≤ g ∧ T ≠ g) ∨
    (∃ p er, e = .returned (.tuple #[.pointer none, .int .i64 er]) ∧ ChkIs ps p er ∧ er ≠ 0))
theorem ChkIs.code {ps : List Int} {p er : Int} (h : ChkIs ps p er) : er = 0 ∨ er = 1 ∨ er = 3 ∨ er = 10 := by
  rcases h with ⟨a, b, c⟩ | ⟨a, b, c⟩ | ⟨a, ⟨v, v1, v2, v3, v4, v5⟩ | ⟨n1, ⟨v, v1, v2, v3, v4, v5⟩ | ⟨n2, v2, v3⟩⟩⟩ <;> omega
set_option maxHeartbeats 2000000 in
theorem new_any (A : Option Addr) (n c : Nat) (ps : List Int) (w : World) (B : Nat) (hr : Reads w B 1 A n (nms ps)) (hB : B ≤ w.heap.size) (hbig : n ≤ 4611686018427387904) :
    Calls Try.prog 18 #[.slice A n c] w (NewR ps w) := by
  have HL := Lib.hid hr.plen
  have HR := Lib.hid hr
  have HC := Lib.hid (chk_any A n c ps w B hr hbig)
  clear hr
  go_enter Try.func18, Try.ntmps18
  go_wp2_with fail
  refine HC.out.mono ?_
  rintro e w1 ⟨p, er, rfl, hck, rfl⟩
  by_cases he : er = 0
  · subst he
    obtain ⟨G, rfl⟩ := hck.good
    have HK := Lib.hid hck
    clear hck
    have hn : 0 < n ∧ n ≤ 32 := by have h1 := G.pos; have h2 := G.few; rw [HL.out] at h1 h2; exact ⟨h1, h2⟩
    obtain ⟨hn1, hn2⟩ := hn
    have HCl := Lib.hid (clone_any A n c ps w1 B HR.out hB hn1 (by omega))
    go_wp2_with (go_at_call 34; go_must (refine HCl.out.mono ?_); rintro e w2 ⟨v, rfl, hown, hbel⟩; obtain ⟨hpl, ⟨rfl, hz⟩ | ⟨g, cap, cur, rfl, hg, hh, hcap, hmx, hsz, htk⟩⟩ := hown)
    · have := G.pos; omega
    · go_ret2
      have hb2 := hbel.alloc hbel.size (.cells #[.slice (some ⟨g, 0, none⟩) ps.length cap] 60)
      have hlt : g < w2.heap.size := Blk.lt (t := 3) (cs := cur) hh
      refine ⟨hb2, .inl ⟨w2.heap.size, g, rfl, HK.out, ⟨cap, cur, Blk.new w2 _ _, Blk.alloc hh _, ?_, hcap⟩, hbel.size, hg, by omega⟩⟩
      rw [← htk, Nat.mul_one]
  · have HK := Lib.hid hck
    have t1 : (er != 0) = true := by simp [he]
    have HE := Lib.hid he
    clear hck he
    go_wp2
    go_ret2
    exact ⟨Below.refl _ _, .inr ⟨p, er, rfl, HK.out, HE.out⟩⟩

theorem size_any (T g : Nat) (ps : List Int) (w : World) (h : IsTr w T g ps) :
    Calls Try.prog 28 #[.pointer (some ⟨T, 0, none⟩)] w fun e w' => e = .returned (.int .i64 (ps.length : Nat)) ∧ w' = w := by
  obtain ⟨c, hc, X, _, _⟩ := h.cells
  clear h
  go_enter Try.func28, Try.ntmps28
  go_wp2_with fail
  go_ret
  exact ⟨rfl, rfl⟩
theorem size_nil (w : World) : Calls Try.prog 28 #[.pointer none] w fun e w' => e = .returned (.int .i64 0) ∧ w' = w := by
  go_enter Try.func28, Try.ntmps28
  go_wp2_with fail
  go_ret
  exact ⟨rfl, rfl⟩
/-- Is there such a node? -/
def hasB (ps : List Int) (v : Int) : Bool := decide (0 ≤ v ∧ v < (ps.length : Int))
theorem has_any (T g : Nat) (ps : List Int) (v : Int) (w : World) (h : IsTr w T g ps) :
    Calls Try.prog 39 #[.pointer (some ⟨T, 0, none⟩), .int .i64 v] w fun e w' => e = .returned (.bool (hasB ps v)) ∧ w' = w := by
  have HS := Lib.hid (size_any T g ps w h)
  clear h
  go_enter Try.func39, Try.ntmps39
  by_cases h1 : 0 ≤ v
  · by_cases h2 : v < (ps.length : Int)
    · have HE : Hid (hasB ps v = true) := Lib.hid (decide_eq_true ⟨h1, h2⟩)
      go_wp2_with (go_at_call 28; go_must (refine HS.out.mono ?_); rintro e w1 ⟨rfl, rfl⟩)
      go_ret
      exact ⟨by rw [HE.out]; rfl, rfl⟩
    · have HE : Hid (hasB ps v = false) := Lib.hid (decide_eq_false (fun h => h2 h.2))
      have HT : Hid (decide (v < (ps.length : Int)) = false) := Lib.hid (decide_eq_false h2)
      clear h2
      go_wp2_with (go_at_call 28; go_must (refine HS.out.mono ?_); rintro e w1 ⟨rfl, rfl⟩)
      go_ret
      refine ⟨?_, rfl⟩
      rw [HE.out, ← HT.out]; rfl
  · have HE : Hid (hasB ps v = false) := Lib.hid (decide_eq_false (fun h => h1 h.1))
    have h1' : v < 0 := by omega
    clear h1
    go_wp2_with fail
    go_ret
    exact ⟨by rw [HE.out]; rfl, rfl⟩
theorem has_nil (v : Int) (w : World) :
    Calls Try.prog 39 #[.pointer none, .int .i64 v] w fun e w' => e = .returned (.bool false) ∧ w' = w := by
  have HS := Lib.hid (size_nil w)
  go_enter Try.func39, Try.ntmps39
  by_cases h1 : 0 ≤ v
  · have HT : Hid (decide (v < 0) = false) := Lib.hid (decide_eq_false (by omega))
    go_wp2_with (go_at_call 28; go_must (refine HS.out.mono ?_); rintro e w1 ⟨rfl, rfl⟩)
    go_ret
    refine ⟨?_, rfl⟩
    rw [← HT.out]; rfl
  · have h1' : v < 0 := by omega
    clear h1
    go_wp2_with fail
    go_ret
    exact ⟨rfl, rfl⟩
end Go.Proofs.Ytcomiininaemhaa.Pk

/- Trees by their list of parents: where Next leads. -/
namespace Go.Proofs.Ytcomiininaemhaa.Gr
set_option linter.unusedVariables false
variable {ps : List Int}
theorem Good.pa_par (G : Good ps) {v : Nat} (hv : v < ps.length) (h : pa ps v ≠ -1) : pa ps v = (par ps v : Nat) ∧ par ps v < ps.length ∧ v ≠ root ps := by
  have h1 := G.rng v hv
  unfold par
  exact ⟨by omega, by omega, fun e => h ((G.root_iff hv).2 e)⟩
theorem Good.anc (G : Good ps) : ∀ (k a b : Nat), b < ps.length → climb ps k (b : Int) = (a : Int) → a < ps.length ∧ dep ps b = dep ps a + k ∧ distL ps a b = k := by
  intro k
  induction k with
  | zero =>
    intro a b hb h
    have : a = b := by simp only [climb] at h; omega
    subst this
    exact ⟨hb, rfl, dist_self a⟩
  | succ k ih =>
    intro a b hb h
    rw [climb_succ] at h
    have hp : pa ps b ≠ -1 := fun e => by rw [e, climb_neg] at h; omega
    obtain ⟨h1, h2, h3⟩ := G.pa_par hb hp
    rw [h1] at h
    obtain ⟨i1, i2, i3⟩ := ih a (par ps b) h2 h
    obtain ⟨_, u2⟩ := G.rt.up b hb h3
    refine ⟨i1, by omega, ?_⟩
    obtain ⟨_, e2⟩ := G.rt.e2' i1 hb (by omega)
    have i3' : dist (par ps) (dep ps) a (par ps b) = k := i3
    show dist (par ps) (dep ps) a b = k + 1
    rw [e2, i3']; omega
theorem Good.next_down (G : Good ps) {k a b v : Nat} (hb : b < ps.length) (hc : climb ps k (b : Int) = (v : Int)) (hp : pa ps v = (a : Int)) (hab : a ≠ b) : v = nextN ps a b := by
  obtain ⟨v1, v2, v3⟩ := G.anc k v b hb hc
  have hc2 : climb ps (k + 1) (b : Int) = (a : Int) := by
    have : ∀ (k : Nat) (x : Int), climb ps (k + 1) x = if climb ps k x = -1 then -1 else pa ps (climb ps k x).toNat := by
      intro k
      induction k with
      | zero => intro x; rfl
      | succ k ih =>
        intro x
        show (if x = -1 then -1 else climb ps (k + 1) (pa ps x.toNat)) = _
        by_cases hx : x = -1
        · rw [if_pos hx]
          have : climb ps (k + 1) x = -1 := by rw [hx]; rfl
          rw [if_pos this]
        · rw [if_neg hx, ih]
          have : climb ps (k + 1) x = climb ps k (pa ps x.toNat) := by
            show (if x = -1 then -1 else _) = _
            rw [if_neg hx]
          rw [this]
    rw [this, hc, if_neg (by omega), Int.toNat_natCast, hp]
  obtain ⟨a1, a2, a3⟩ := G.anc (k + 1) a b hb hc2
  exact G.nextN_only a1 hb hab v1 (by unfold nearL; rw [hp]; simp) (by rw [v3, a3])
theorem Good.off (G : Good ps) {a : Nat} (ha : a < ps.length) : ∀ (f b : Nat), b < ps.length → dep ps b ≤ f → (∀ j, climb ps j (b : Int) ≠ -1 → pa ps (climb ps j (b : Int)).toNat ≠ (a : Int)) → a ≠ b → a ≠ root ps ∧ distL ps a b = 1 + distL ps (par ps a) b := by
  intro f
  induction f with
  | zero =>
    intro b hb hf h hab
    exact G.rt.e1 ha hb hab (by omega)
  | succ f ih =>
    intro b hb hf h hab
    rcases Nat.lt_or_ge (dep ps a) (dep ps b) with hd | hd
    · obtain ⟨b1, b2⟩ := G.rt.e2' ha hb hd
      have hp : pa ps b ≠ -1 := fun e => b1 ((G.root_iff hb).1 e)
      obtain ⟨h1, h2, h3⟩ := G.pa_par hb hp
      obtain ⟨_, u2⟩ := G.rt.up b hb b1
      have h0 := h 0 (by show (b : Int) ≠ -1; omega)
      have h0' : pa ps b ≠ (a : Int) := h0
      obtain ⟨i1, i2⟩ := ih (par ps b) h2 (by omega) (fun j => by
        have := h (j + 1)
        rw [climb_succ, h1] at this
        exact this) (by omega)
      obtain ⟨p1, p2⟩ := G.rt.up a ha i1
      obtain ⟨_, c2⟩ := G.rt.e2' p1 hb (by omega)
      refine ⟨i1, ?_⟩
      have i2' : dist (par ps) (dep ps) a (par ps b) = 1 + dist (par ps) (dep ps) (par ps a) (par ps b) := i2
      show dist (par ps) (dep ps) a b = 1 + dist (par ps) (dep ps) (par ps a) b
      rw [b2, c2, i2']
    · exact G.rt.e1 ha hb hab hd
theorem Good.next_up (G : Good ps) {a b : Nat} (ha : a < ps.length) (hb : b < ps.length) (h : ∀ j, climb ps j (b : Int) ≠ -1 → pa ps (climb ps j (b : Int)).toNat ≠ (a : Int)) (hab : a ≠ b) : pa ps a = (nextN ps a b : Nat) := by
  obtain ⟨h1, h2⟩ := G.off ha _ b hb (Nat.le_refl _) h hab
  obtain ⟨p1, p2, p3⟩ := G.pa_par ha (fun e => h1 ((G.root_iff ha).1 e))
  rw [p1, G.nextN_only ha hb hab p2 (by unfold nearL; rw [p1]; simp) (by omega)]
theorem climb_one (k : Nat) : ∀ (x : Int), climb ps (k + 1) x = if climb ps k x = -1 then -1 else pa ps (climb ps k x).toNat := by
  induction k with
  | zero => intro x; rfl
  | succ k ih =>
    intro x
    show (if x = -1 then -1 else climb ps (k + 1) (pa ps x.toNat)) = _
    by_cases hx : x = -1
    · rw [if_pos hx]
      have : climb ps (k + 1) x = -1 := by rw [hx]; rfl
      rw [if_pos this]
    · rw [if_neg hx, ih]
      have : climb ps (k + 1) x = climb ps k (pa ps x.toNat) := by
        show (if x = -1 then -1 else _) = _
        rw [if_neg hx]
      rw [this]
theorem climb_stays {k : Nat} {x : Int} (h : climb ps k x = -1) : ∀ d, climb ps (k + d) x = -1
  | 0 => h
  | d + 1 => by rw [show k + (d + 1) = (k + d) + 1 by omega, climb_one, climb_stays h d, if_pos rfl]
end Go.Proofs.Ytcomiininaemhaa.Gr

/- Package tree: Neighbours and Next. -/
namespace Go.Proofs.Ytcomiininaemhaa.Pk
open Go.RowKit Go.Proofs.Ytcomiininaemhaa.Gr
set_option linter.unusedVariables false

theorem OwnN.drewN {w : World} {B : Nat} {v : Value} {l : List Int} (h : OwnN w B v l) (k : Nat) : OwnN (w.drewN k) B v l := h
set_option maxHeartbeats 2000000 in
theorem nbrs_any (T g : Nat) (ps : List Int) (v : Int) (w : World) (h : IsTr w T g ps) (hn : ps.length ≤ 32) :
    Calls Try.prog 31 #[.pointer (some ⟨T, 0, none⟩), .int .i64 v] w fun e w' => ∃ x, e = .returned x ∧ OwnN w' w.heap.size x (nbsI ps v) ∧ Below w.heap.size w w' := by
  have HT := Lib.hid h
  have HH := Lib.hid (has_any T g ps v w h)
  obtain ⟨c, hc, X, _, _⟩ := h.cells
  obtain ⟨n, hnn⟩ : ∃ n, n = ps.length := ⟨_, rfl⟩
  have HN := Lib.hid hnn
  rw [← hnn] at hn hc X
  clear h hnn
  go_enter Try.func31, Try.ntmps31
  cases hb : hasB ps v with
  | false =>
    have HE : Hid (nbsI ps v = []) := Lib.hid (if_neg (of_decide_eq_false hb))
    rw [hb] at HH
    clear X
    go_wp2_with (go_at_call 39; go_must (refine HH.out.mono ?_); rintro e w1 ⟨rfl, rfl⟩)
    go_ret
    exact ⟨_, rfl, by rw [HE.out]; exact OwnN.none_ _ _, Below.refl _ _⟩
  | true =>
    have hv := of_decide_eq_true hb
    rw [hb] at HH
    rw [← HN.out] at hv
    obtain ⟨m, rfl⟩ : ∃ m : Nat, v = (m : Int) := ⟨v.toNat, by omega⟩
    have hm : m < n := by omega
    have HE : Hid (nbsI ps (m : Int) = nbs ps m n) := Lib.hid (by unfold nbsI; rw [if_pos (by rw [← HN.out]; omega), ← HN.out]; rfl)
    have HM := Lib.hid hm
    clear hv hb
    go_wp2_with (go_at_call 39; go_must (refine HH.out.mono ?_); rintro e w1 ⟨rfl, hw⟩; rw [hw]; clear hw w1)
    go_loopw [5, 17] (fun x j wr => ∃ i : Nat, j = .int .i64 i ∧ i ≤ n ∧ OwnN wr w.heap.size x (nbs ps m i) ∧ Below w.heap.size w wr) (fun _ j _ => n - (intOf j).toNat)
    case atStart => exact ⟨0, rfl, by omega, OwnN.none_ _ _, Below.refl _ _⟩
    case round =>
      obtain ⟨i, rfl, hi, hown, hb⟩ := hrel
      obtain ⟨w1, rfl⟩ : ∃ w1 : World, w1 = wr := ⟨_, rfl⟩
      have HO := Lib.hid hown
      have HB := Lib.hid hb
      clear hown hb X
      by_cases hlt : i < n
      · have HS := Lib.hid (nbs_succ ps m i)
        have HLn := Lib.hid (nbs_len ps m i)
        obtain ⟨c', hc', X, _, hcell⟩ := (HT.out.below HB.out HT.out.lt).cells
        have ci := hcell i (by rw [← HN.out]; exact hlt)
        have cm := hcell m (by rw [← HN.out]; exact HM.out)
        rw [← HN.out] at X
        clear hcell
        obtain ⟨x, hx⟩ : ∃ x, x = pa ps i := ⟨_, rfl⟩
        obtain ⟨y, hy⟩ : ∃ y, y = pa ps m := ⟨_, rfl⟩
        rw [← hx] at ci
        rw [← hy] at cm
        have HX := Lib.hid hx
        have HY := Lib.hid hy
        clear hx hy
        by_cases h1 : x = (m : Int)
        · have HN2 : Hid (nbs ps m (i + 1) = nbs ps m i ++ [(i : Int)]) := Lib.hid (by rw [HS.out, if_pos (by unfold nearL; rw [← HX.out, h1]; simp)])
          have t1 : (x == (m : Int)) = true := by simp [h1]
          clear h1
          go_wp2_with (at_builtin; refine appN w1 (i : Int) _ rfl (.tmp 36) (.tmp 38) rfl w.heap.size _ (nbs ps m i) rfl HO.out w1.heap.size rfl rfl (by have := HLn.out; omega) HB.out.size ?_; intro v3 w3 hown3 hb3 _; have HO3 := Lib.hid hown3; have HB3 := Lib.hid (HB.out.trans hb3); clear hown3 hb3)
          go_roundw
          case rel => exact ⟨i + 1, by go_num, by omega, by rw [HN2.out]; exact HO3.out, HB3.out⟩
          case measure => simp [intOf]; omega
        · have t1 : (x == (m : Int)) = false := by simp [h1]
          by_cases h2 : y = (i : Int)
          · have HN2 : Hid (nbs ps m (i + 1) = nbs ps m i ++ [(i : Int)]) := Lib.hid (by rw [HS.out, if_pos (by unfold nearL; rw [← HY.out, h2]; simp)])
            have t2 : (y == (i : Int)) = true := by simp [h2]
            clear h1 h2
            go_wp2_with (at_builtin; refine appN w1 (i : Int) _ rfl (.tmp 36) (.tmp 38) rfl w.heap.size _ (nbs ps m i) rfl HO.out w1.heap.size rfl rfl (by have := HLn.out; omega) HB.out.size ?_; intro v3 w3 hown3 hb3 _; have HO3 := Lib.hid hown3; have HB3 := Lib.hid (HB.out.trans hb3); clear hown3 hb3)
            go_roundw
            case rel => exact ⟨i + 1, by go_num, by omega, by rw [HN2.out]; exact HO3.out, HB3.out⟩
            case measure => simp [intOf]; omega
          · have HN2 : Hid (nbs ps m (i + 1) = nbs ps m i) := Lib.hid (by rw [HS.out, if_neg (by unfold nearL; rw [← HX.out, ← HY.out]; simp [h1, h2])])
            have t2 : (y == (i : Int)) = false := by simp [h2]
            clear h1 h2
            go_wp2
            go_roundw
            case rel => exact ⟨i + 1, by go_num, by omega, by rw [HN2.out]; exact HO.out, HB.out⟩
            case measure => simp [intOf]; omega
      · have HF : Hid (nbsI ps (m : Int) = nbs ps m i) := Lib.hid (by rw [HE.out]; congr 1; omega)
        go_wp2
        go_ret
        exact ⟨_, rfl, by rw [HF.out]; exact HO.out, HB.out⟩

theorem nextI_none {ps : List Int} {a b : Int} (h : hasB ps a = false ∨ hasB ps b = false) : nextI ps a b = -1 := by
  unfold nextI
  apply if_neg
  rintro ⟨h1, h2⟩
  rcases h with h | h
  · exact of_decide_eq_false h h1
  · exact of_decide_eq_false h h2
/-- What the climb has not met. -/
def NotYet (ps : List Int) (a b k : Nat) : Prop := ∀ j, j < k → climb ps j (b : Int) ≠ -1 ∧ pa ps (climb ps j (b : Int)).toNat ≠ (a : Int)
def mes (ps : List Int) (z : Int) : Nat := if z = -1 then 0 else dep ps z.toNat + 1
theorem mes_lt {ps : List Int} {p : Int} {m : Nat} (h : p ≠ -1 → dep ps p.toNat < dep ps m) : mes ps p < mes ps (m : Int) := by
  unfold mes
  rw [if_neg (show ¬ (m : Int) = -1 by omega), Int.toNat_natCast]
  by_cases hp : p = -1
  · rw [if_pos hp]; omega
  · rw [if_neg hp]; have := h hp; omega
set_option maxHeartbeats 2000000 in
theorem nxt_any (T g : Nat) (ps : List Int) (a b : Int) (w : World) (h : IsTr w T g ps) (G : Gr.Good ps) :
    Calls Try.prog 29 #[.pointer (some ⟨T, 0, none⟩), .int .i64 a, .int .i64 b] w fun e w' => e = .returned (.int .i64 (nextI ps a b)) ∧ w' = w := by
  have HT := Lib.hid h
  have HHa := Lib.hid (has_any T g ps a w h)
  have HHb := Lib.hid (has_any T g ps b w h)
  obtain ⟨c, hc, X, _, hcell⟩ := h.cells
  have HCe := Lib.hid hcell
  obtain ⟨n, hnn⟩ : ∃ n, n = ps.length := ⟨_, rfl⟩
  have HN := Lib.hid hnn
  have hn : n ≤ 32 := by rw [hnn]; exact G.few
  rw [← hnn] at hc X
  clear h hnn hcell
  go_enter Try.func29, Try.ntmps29
  cases ha : hasB ps a with
  | false =>
    have HE := Lib.hid (nextI_none (a := a) (b := b) (.inl ha))
    rw [ha] at HHa
    clear X
    go_wp2_with (go_at_call 39; go_must (refine HHa.out.mono ?_); rintro e w1 ⟨rfl, hw⟩; rw [hw]; clear hw w1)
    go_ret
    exact ⟨by rw [HE.out]; rfl, rfl⟩
  | true =>
    cases hb : hasB ps b with
    | false =>
      have HE := Lib.hid (nextI_none (a := a) (b := b) (.inr hb))
      rw [ha] at HHa
      rw [hb] at HHb
      clear X
      go_wp2_with (go_at_call 39; first | (refine HHa.out.mono ?_; rintro e w1 ⟨rfl, hw⟩; rw [hw]; clear hw w1 HHa) | (refine HHb.out.mono ?_; rintro e w1 ⟨rfl, hw⟩; rw [hw]; clear hw w1))
      go_ret
      exact ⟨by rw [HE.out]; rfl, rfl⟩
    | true =>
      rw [ha] at HHa
      rw [hb] at HHb
      have hva := of_decide_eq_true ha
      have hvb := of_decide_eq_true hb
      rw [← HN.out] at hva hvb
      obtain ⟨x, rfl⟩ : ∃ x : Nat, a = (x : Int) := ⟨a.toNat, by omega⟩
      obtain ⟨y, rfl⟩ : ∃ y : Nat, b = (y : Int) := ⟨b.toNat, by omega⟩
      have hx : x < n := by omega
      have hy : y < n := by omega
      have HX := Lib.hid hx
      have HY := Lib.hid hy
      clear ha hb hva hvb
      by_cases hxy : x = y
      · subst hxy
        have HE : Hid (nextI ps (x : Int) (x : Int) = (x : Int)) := Lib.hid (by unfold nextI; rw [if_pos (by rw [← HN.out]; omega), if_pos rfl])
        clear X
        go_wp2_with (go_at_call 39; refine HHa.out.mono ?_; rintro e w1 ⟨rfl, hw⟩; rw [hw]; clear hw w1)
        go_ret
        exact ⟨by rw [HE.out]; rfl, rfl⟩
      · have HE : Hid (nextI ps (x : Int) (y : Int) = (nextN ps x y : Nat)) := Lib.hid (by unfold nextI; rw [if_pos (by rw [← HN.out]; omega), if_neg (by omega)]; rfl)
        have t1 : ((x : Int) == (y : Int)) = false := by simp; omega
        have HNE := Lib.hid hxy
        clear hxy
        go_wp2_with (go_at_call 39; first | (refine HHa.out.mono ?_; rintro e w1 ⟨rfl, hw⟩; rw [hw]; clear hw w1 HHa) | (refine HHb.out.mono ?_; rintro e w1 ⟨rfl, hw⟩; rw [hw]; clear hw w1))
        go_loop [7] (fun z => ∃ k : Nat, z = .int .i64 (climb ps k (y : Int)) ∧ NotYet ps x y k) (fun z => mes ps (intOf z))
        case atStart => exact ⟨0, rfl, fun j hj => by omega⟩
        case round =>
          obtain ⟨k, rfl, hno⟩ := hrel
          have HNo := Lib.hid hno
          clear hno
          obtain ⟨z, hz⟩ : ∃ z, z = climb ps k (y : Int) := ⟨_, rfl⟩
          have HZ := Lib.hid hz
          rw [← hz]
          clear hz
          have hzr : -1 ≤ z ∧ z < (n : Int) := by
            have := climb_rng (fun v hv => ⟨(G.rng v hv).1, (G.rng v hv).2.1⟩) y (by rw [← HN.out]; exact HY.out) k
            rw [← HN.out, ← HZ.out] at this; exact this
          by_cases hz1 : z = -1
          · have cx := HCe.out x (by rw [← HN.out]; exact hx)
            have HF : Hid (pa ps x = (nextN ps x y : Nat)) := Lib.hid (G.next_up (by rw [← HN.out]; exact HX.out) (by rw [← HN.out]; exact HY.out) (fun j hj => by
              rcases Nat.lt_or_ge j k with h | h
              · exact (HNo.out j h).2
              · exfalso
                apply hj
                have h2 := climb_stays (ps := ps) (k := k) (x := (y : Int)) (by rw [← HZ.out]; exact hz1) (j - k)
                rwa [show k + (j - k) = j by omega] at h2) HNE.out)
            rw [HF.out] at cx
            have t2 : (z != -1) = false := by simp [hz1]
            clear hzr
            subst hz1
            go_wp2
            go_ret
            exact ⟨by rw [HE.out]; rfl, rfl⟩
          · obtain ⟨m, rfl⟩ : ∃ m : Nat, z = (m : Int) := ⟨z.toNat, by omega⟩
            have hm : m < n := by omega
            have cm := HCe.out m (by rw [← HN.out]; exact hm)
            obtain ⟨p, hp⟩ : ∃ p, p = pa ps m := ⟨_, rfl⟩
            have HP := Lib.hid hp
            rw [← hp] at cm
            have t2 : ((m : Int) != -1) = true := by simp
            have HA := Lib.hid (G.anc k m y (by rw [← HN.out]; exact HY.out) HZ.out.symm)
            clear hp hzr hz1
            by_cases h1 : p = (x : Int)
            · have HF : Hid (m = nextN ps x y) := Lib.hid (G.next_down (by rw [← HN.out]; exact HY.out) HZ.out.symm (by rw [← HP.out]; exact h1) HNE.out)
              have t3 : (p == (x : Int)) = true := by simp [h1]
              clear h1
              go_wp2
              go_ret
              exact ⟨by rw [HE.out, ← HF.out]; rfl, rfl⟩
            · have t3 : (p == (x : Int)) = false := by simp [h1]
              have HS : Hid (p = climb ps (k + 1) (y : Int)) := Lib.hid (by rw [climb_one, ← HZ.out, if_neg (by omega), HP.out]; rfl)
              have HNx : Hid (NotYet ps x y (k + 1)) := Lib.hid (fun j hj => by
                rcases Nat.lt_or_ge j k with h | h
                · exact HNo.out j h
                · have : j = k := by omega
                  subst this
                  rw [← HZ.out, Int.toNat_natCast, ← HP.out]
                  exact ⟨by omega, h1⟩)
              have HD : Hid (p ≠ -1 → dep ps p.toNat < dep ps m) := Lib.hid (fun hp1 => by
                rw [HP.out] at hp1 ⊢
                have hm' : m < ps.length := by rw [← HN.out]; exact hm
                obtain ⟨q1, q2, q3⟩ := G.pa_par hm' hp1
                obtain ⟨_, u2⟩ := G.rt.up m hm' q3
                rw [q1, Int.toNat_natCast]; omega)
              clear h1
              go_wp2
              go_round
              case rel => exact ⟨k + 1, by rw [HS.out], HNx.out⟩
              case measure =>
                exact mes_lt HD.out
end Go.Proofs.Ytcomiininaemhaa.Pk

/- Package tree: Path, the function that it answers, and Dist. -/
namespace Go.Proofs.Ytcomiininaemhaa.Pk
open Go.RowKit Go.Shelf Go.Proofs.Ytcomiininaemhaa.Gr
set_option linter.unusedVariables false
attribute [local go_sem] Oper.semAt_some

theorem roundIn_any {m m' : Nat} {P : Program} {l : Nat} {f : FuncId} {tmps : Array Value} {assign body : Code} {w : World} {R : Ending → World → Prop}
    (h : RoundIn Fence.wide m P l f tmps assign body w R) : RoundIn Fence.wide m' P l f tmps assign body w R := ⟨h.1, fun c cs _ => h.2 c cs (room_wide _)⟩
theorem hdd (k : Nat) : Fence.wide.depth.isSome = true → 1 ≤ k := fun h => by cases h
theorem yieldAt_any {m : Nat} (m' : Nat) {P : Program} {l : Nat} {args : Array Value} {W : World} {R : Ending → World → Prop} (h : YieldAt Fence.wide m P l args W R) : YieldAt Fence.wide m' P l args W R := by
  obtain ⟨fn, tmps, assign, body, hy, hR⟩ := h
  exact ⟨fn, tmps, assign, body, hy, roundIn_any hR⟩
/-- One number, as a loop variable has it. -/
def enc1 (x : Int) : Array Value := #[Value.int .i64 x]
/-- A function that goes over numbers. -/
def SeqN (v : Value) (l : List Int) (R : Nat → Prop) (w : World) : Prop :=
  ∃ gf lb, v = .func (.func gf) #[] lb ∧ (∀ args u, (callFunc gf args).run Try.prog u = .ok (.enter gf args) u) ∧ (∀ b, R b → b < w.heap.size) ∧
    ∀ m W, 1 ≤ m → Stay R w W → SeqStopsK Fence.wide m Try.prog gf lb (fun x : Int => #[Value.int .i64 x]) (Stay R) (fun ys => ys = l) (fun pre => pre <+: l) l.length W
theorem SeqN.stay {v : Value} {l : List Int} {R : Nat → Prop} {w W : World} (h : SeqN v l R w) (hs : Stay R w W) : SeqN v l R W := by
  obtain ⟨gf, lb, e, h1, h2, h3⟩ := h
  exact ⟨gf, lb, e, h1, fun b hb => Nat.lt_of_lt_of_le (h2 b hb) hs.1, fun m W' hm hW => h3 m W' hm (hs.trans hW)⟩
theorem SeqN.lt {v : Value} {l : List Int} {R : Nat → Prop} {w : World} (h : SeqN v l R w) : ∀ b, R b → b < w.heap.size := by
  obtain ⟨_, _, _, _, h2, _⟩ := h
  exact h2
theorem SeqN.seq {gf : Nat} {lb : Array Value} {l : List Int} {R : Nat → Prop} {w : World} (h : SeqN (.func (.func gf) #[] lb) l R w) :
    SeqStopsK Fence.wide 8 Try.prog gf lb (fun x : Int => #[Value.int .i64 x]) (Stay R) (fun ys => ys = l) (fun pre => pre <+: l) l.length w := by
  obtain ⟨gf', lb', e, _, _, h3⟩ := h
  injection e with e1 _ e2
  injection e1 with e1
  subst e1; subst e2
  exact h3 8 w (by omega) (Stay.refl _ _)

/-- The blocks that a path reads. -/
def PathB (T g Bt Ba Bb : Nat) (b : Nat) : Prop := TrB T g b ∨ b = Bt ∨ b = Ba ∨ b = Bb
/-- What it finds there. -/
def PathAt (W : World) (T g Bt Ba Bb : Nat) (ps : List Int) (a b : Int) : Prop :=
  IsTr W T g ps ∧ W.cell? ⟨Bt, 0, none⟩ = some (.pointer (some ⟨T, 0, none⟩)) ∧ W.cell? ⟨Ba, 0, none⟩ = some (.int .i64 a) ∧ W.cell? ⟨Bb, 0, none⟩ = some (.int .i64 b)
theorem PathAt.stay {W W' : World} {T g Bt Ba Bb : Nat} {ps : List Int} {a b : Int} (h : PathAt W T g Bt Ba Bb ps a b) (hs : Stay (PathB T g Bt Ba Bb) W W') : PathAt W' T g Bt Ba Bb ps a b := by
  obtain ⟨h1, h2, h3, h4⟩ := h
  exact ⟨h1.stay (hs.sub fun b hb => .inl hb), (World.cell?_of_block (a := ⟨Bt, 0, none⟩) (hs.2 Bt (.inr (.inl rfl)))).trans h2,
    (World.cell?_of_block (a := ⟨Ba, 0, none⟩) (hs.2 Ba (.inr (.inr (.inl rfl))))).trans h3, (World.cell?_of_block (a := ⟨Bb, 0, none⟩) (hs.2 Bb (.inr (.inr (.inr rfl))))).trans h4⟩
theorem pathI_none {ps : List Int} {a b : Int} (h : hasB ps a = false ∨ hasB ps b = false) : pathI ps a b = [] := by
  unfold pathI
  apply if_neg
  rintro ⟨h1, h2⟩
  rcases h with h | h
  · exact of_decide_eq_false h h1
  · exact of_decide_eq_false h h2

set_option maxRecDepth 100000 in
set_option maxHeartbeats 4000000 in
theorem path1_in (m l T g Bt Ba Bb : Nat) (ps : List Int) (G : Gr.Good ps) (a b : Int) (J Jx : List Int → World → Prop)
    (hY : ∀ pre (x : Int) W, J pre W → pre ++ [x] <+: pathI ps a b → YieldAt Fence.wide (m - 1) Try.prog l #[.int .i64 x] W fun e W' =>
      (e = .returned (.bool true) ∧ J (pre ++ [x]) W' ∧ Stay (PathB T g Bt Ba Bb) W W') ∨ (e = .returned (.bool false) ∧ Jx (pre ++ [x]) W'))
    (W : World) (hP : PathAt W T g Bt Ba Bb ps a b) (h0 : J [] W) :
    CallsIn Fence.wide m Try.prog 44 #[.func (.yield l) #[] #[], .pointer (some ⟨Bt, 0, none⟩), .pointer (some ⟨Ba, 0, none⟩), .pointer (some ⟨Bb, 0, none⟩)] W fun e W' => (∃ v, e = .returned v) ∧
      ((∃ ys, ys = pathI ps a b ∧ J ys W') ∨ (∃ pre, pre <+: pathI ps a b ∧ Jx pre W')) := by
  have HP := Lib.hid hP
  have HHa := Lib.hid (has_any T g ps a W hP.1)
  have HHb := Lib.hid (has_any T g ps b W hP.1)
  obtain ⟨_, ct, ca, cb⟩ := hP
  have HY := Lib.hid hY
  have HJ0 := Lib.hid h0
  clear hY h0
  refine callsIn_of_wp Try.func44 rfl trivial ?_ rfl
  simp only [Try.ntmps44, List.size_toArray, List.length_cons, List.length_nil, Nat.reduceAdd, Nat.reduceSub, Array.replicate_succ, Array.replicate_zero, List.push_toArray, List.append_toArray, List.nil_append, List.cons_append]
  cases ha : hasB ps a with
  | false =>
    have HE := Lib.hid (pathI_none (a := a) (b := b) (.inl ha))
    rw [ha] at HHa
    gi_wp2_with (refine ⟨trivial, hdd _, ?_⟩; gi_at_call 39; refine (callsIn_wide.2 HHa.out).mono ?_; rintro e w1 ⟨rfl, hw⟩; rw [hw]; clear hw w1)
    refine ⟨trivial, ?_⟩
    gi_wp2
    first | go_end0 | refine bodyPost_ret (results_none rfl _ _ _) rfl ?_
    exact ⟨⟨_, rfl⟩, .inl ⟨[], HE.out.symm, HJ0.out⟩⟩
  | true =>
    cases hb : hasB ps b with
    | false =>
      have HE := Lib.hid (pathI_none (a := a) (b := b) (.inr hb))
      rw [ha] at HHa
      rw [hb] at HHb
      gi_wp2_with (refine ⟨trivial, hdd _, ?_⟩; gi_at_call 39; first | (refine (callsIn_wide.2 HHa.out).mono ?_; rintro e w1 ⟨rfl, hw⟩; rw [hw]; clear hw w1 HHa) | (refine (callsIn_wide.2 HHb.out).mono ?_; rintro e w1 ⟨rfl, hw⟩; rw [hw]; clear hw w1))
      first | go_end0 | refine bodyPost_ret (results_none rfl _ _ _) rfl ?_
      exact ⟨⟨_, rfl⟩, .inl ⟨[], HE.out.symm, HJ0.out⟩⟩
    | true =>
      rw [ha] at HHa
      rw [hb] at HHb
      have hva := of_decide_eq_true ha
      have hvb := of_decide_eq_true hb
      have HE : Hid (pathI ps a b = ints (pathN ps a.toNat b.toNat)) := Lib.hid (if_pos ⟨hva, hvb⟩)
      obtain ⟨x, rfl⟩ : ∃ x : Nat, a = (x : Int) := ⟨a.toNat, by omega⟩
      obtain ⟨y, rfl⟩ : ∃ y : Nat, b = (y : Int) := ⟨b.toNat, by omega⟩
      rw [Int.toNat_natCast, Int.toNat_natCast] at HE
      have HX : Hid (x < ps.length) := Lib.hid (by omega)
      have HY1 : Hid (y < ps.length) := Lib.hid (by omega)
      clear ha hb hva hvb
      gi_wp2_with (refine ⟨trivial, hdd _, ?_⟩; gi_at_call 39; first | (refine (callsIn_wide.2 HHa.out).mono ?_; rintro e w1 ⟨rfl, hw⟩; rw [hw]; clear hw w1 HHa) | (refine (callsIn_wide.2 HHb.out).mono ?_; rintro e w1 ⟨rfl, hw⟩; rw [hw]; clear hw w1))
      clear ct ca cb
      gi_loopw [5] (fun z wr => ∃ (t : Nat) (pre : List Int), z = .int .i64 t ∧ t < ps.length ∧ pre ++ ints (pathN ps t y) = pathI ps (x : Int) (y : Int) ∧ J pre wr ∧ PathAt wr T g Bt Ba Bb ps (x : Int) (y : Int)) (fun z _ => distL ps (intOf z).toNat y)
      case atStart => exact ⟨x, [], rfl, HX.out, by rw [HE.out]; rfl, HJ0.out, HP.out⟩
      case round =>
        obtain ⟨t, pre, rfl, ht, hpre, hJ, hP⟩ := hrel
        have HPr := Lib.hid hpre
        have HTt := Lib.hid ht
        have hsplit : Hid (∃ q, ints (pathN ps t y) = (t : Int) :: q ∧ (t = y → q = []) ∧ (t ≠ y → q = ints (pathN ps (nextN ps t y) y))) := Lib.hid (by
          by_cases hty : t = y
          · refine ⟨[], ?_, fun _ => rfl, fun h => absurd hty h⟩
            rw [hty, pathN_self]; rfl
          · refine ⟨_, ?_, fun h => absurd h hty, fun _ => rfl⟩
            rw [G.pathN_step ht HY1.out hty]; rfl)
        obtain ⟨q, hq, hq1, hq2⟩ := hsplit.out
        have HQ1 := Lib.hid hq1
        have HQ2 := Lib.hid hq2
        rw [hq] at HPr
        clear hpre hsplit hq hq1 hq2 ht
        have hlen : pre ++ [(t : Int)] <+: pathI ps (x : Int) (y : Int) := ⟨q, by rw [← HPr.out]; simp⟩
        obtain ⟨fn, tmps, assign, body, hy, hR⟩ := HY.out pre (t : Int) wr hJ hlen
        try dsimp only at hy
        have HRR := Lib.hid hR
        have HPa := Lib.hid hP
        clear hR hJ hP hlen
        obtain ⟨_, ct, ca, cb⟩ := HPa.out
        clear ct ca cb
        by_cases hty : t = y
        · have hq := HQ1.out hty
          subst hq
          have HFin : Hid (pre ++ [(t : Int)] = pathI ps (x : Int) (y : Int)) := HPr
          have t1 : ((t : Int) != (y : Int)) = false := by simp [hty]
          clear hty
          gi_wp2
          refine ⟨hdd _, HRR.out.mono ?_⟩
          rintro e W3 (⟨rfl, hJ3, hk3⟩ | ⟨rfl, hJx3⟩)
          · have cb : W3.cell? ⟨Bb, 0, none⟩ = some (.int .i64 (y : Int)) := (HPa.out.stay hk3).2.2.2
            have HJ3 := Lib.hid hJ3
            clear hJ3 hk3
            gi_wp2
            go_end0
            exact ⟨⟨_, rfl⟩, .inl ⟨_, HFin.out, HJ3.out⟩⟩
          · gi_wp2
            go_end0
            exact ⟨⟨_, rfl⟩, .inr ⟨_, ⟨[], by rw [List.append_nil]; exact HFin.out⟩, hJx3⟩⟩
        · have hq := HQ2.out hty
          have hN := G.nextN_is (a := t) (b := y) HTt.out HY1.out hty
          have HI : Hid (nextI ps (t : Int) (y : Int) = (nextN ps t y : Nat)) := Lib.hid (by have := HTt.out; have := HY1.out; unfold nextI; rw [if_pos (by omega), if_neg (by omega)]; rfl)
          have t1 : ((t : Int) != (y : Int)) = true := by simp; omega
          obtain ⟨m2, hm2⟩ : ∃ m2, m2 = nextN ps t y := ⟨_, rfl⟩
          rw [← hm2] at hN HI hq
          have HN := Lib.hid hN
          have HPr2 : Hid (pre ++ [(t : Int)] ++ ints (pathN ps m2 y) = pathI ps (x : Int) (y : Int)) := Lib.hid (by rw [← HPr.out, hq]; simp)
          clear hty hN hq hm2 HPr HQ1 HQ2
          gi_wp2
          refine ⟨hdd _, HRR.out.mono ?_⟩
          rintro e W3 (⟨rfl, hJ3, hk3⟩ | ⟨rfl, hJx3⟩)
          · have hP3 := HPa.out.stay hk3
            have HN3 := Lib.hid (nxt_any T g ps (t : Int) (y : Int) W3 hP3.1 G)
            rw [HI.out] at HN3
            have HP3 := Lib.hid hP3
            obtain ⟨_, ct, ca, cb⟩ := hP3
            have HJ3 := Lib.hid hJ3
            clear hJ3 hk3
            gi_wp2_with (refine ⟨trivial, hdd _, ?_⟩; gi_at_call 29; refine (callsIn_wide.2 HN3.out).mono ?_; rintro e w1 ⟨rfl, hw⟩; rw [hw]; clear hw w1)
            go_roundw
            case rel => exact ⟨m2, _, rfl, HN.out.1, HPr2.out, HJ3.out, HP3.out⟩
            case measure => have := HN.out.2.2; simp only [intOf, Int.toNat_natCast]; omega
          · gi_wp2
            go_end0
            exact ⟨⟨_, rfl⟩, .inr ⟨_, ⟨_, HPr2.out⟩, hJx3⟩⟩

theorem path_seq (T g Bt Ba Bb : Nat) (ps : List Int) (G : Gr.Good ps) (a b : Int) (w : World) (hP : PathAt w T g Bt Ba Bb ps a b) (hlt : ∀ x, PathB T g Bt Ba Bb x → x < w.heap.size) :
    SeqN (.func (.func 44) #[] #[.pointer (some ⟨Bt, 0, none⟩), .pointer (some ⟨Ba, 0, none⟩), .pointer (some ⟨Bb, 0, none⟩)]) (pathI ps a b) (PathB T g Bt Ba Bb) w := by
  refine ⟨_, _, rfl, enters_of Try.func44 (by kernel_rfl) rfl, hlt, ?_⟩
  intro m W hm hs l J Jx W1 hW hJ hJx hY h0
  have hs1 : Stay (PathB T g Bt Ba Bb) w W1 := hs.trans (Stay.below hW (fun b hb => Nat.lt_of_lt_of_le (hlt b hb) hs.1))
  exact path1_in m l T g Bt Ba Bb ps G a b J Jx (fun pre x W hj hp => hY pre x W hj (by have := hp.length_le; simp at this; omega)) W1 (hP.stay hs1) h0
/-- What Path leaves. -/
def PathR (D : Nat → Prop) (l : List Int) (w : World) (e : Ending) (w' : World) : Prop := ∃ v R, e = .returned v ∧ SeqN v l R w' ∧ Below w.heap.size w w' ∧ ∀ b, R b → D b ∨ w.heap.size ≤ b
theorem path_code (T g : Nat) (ps : List Int) (a b : Int) (w : World) (h : IsTr w T g ps) (G : Gr.Good ps) :
    Calls Try.prog 38 #[.pointer (some ⟨T, 0, none⟩), .int .i64 a, .int .i64 b] w (PathR (TrB T g) (pathI ps a b) w) := by
  have HT := Lib.hid h
  clear h
  go_enter Try.func38, Try.ntmps38
  go_wp2
  go_ret
  have k1 := ((Blk.new w 27 #[.pointer (some ⟨T, 0, none⟩)]).alloc (.cells #[.int .i64 a] 3)).alloc (.cells #[.int .i64 b] 3)
  have k2 := (Blk.new (w.alloc (.cells #[.pointer (some ⟨T, 0, none⟩)] 27)) 3 #[.int .i64 a]).alloc (.cells #[.int .i64 b] 3)
  have k3 := Blk.new ((w.alloc (.cells #[.pointer (some ⟨T, 0, none⟩)] 27)).alloc (.cells #[.int .i64 a] 3)) 3 #[.int .i64 b]
  have hb : Below w.heap.size w (((w.alloc (.cells #[.pointer (some ⟨T, 0, none⟩)] 27)).alloc (.cells #[.int .i64 a] 3)).alloc (.cells #[.int .i64 b] 3)) :=
    (((Below.refl _ w).alloc (Nat.le_refl _) _).alloc (by simp) _).alloc (by simp; omega) _
  have l1 := k1.lt
  have hT := HT.out.below_ hb
  refine ⟨_, PathB T g _ _ _, rfl, path_seq T g w.heap.size (w.heap.size + 1) (w.heap.size + 2) ps G a b _ ⟨hT, k1.cell 0, ?_, ?_⟩ ?_, hb, ?_⟩
  · have := k2.cell 0; simpa using this
  · have := k3.cell 0; simpa using this
  · rintro x (hx | rfl | rfl | rfl)
    · exact hT.lt x hx
    · exact l1
    · simp
    · simp
  · rintro x (hx | rfl | rfl | rfl)
    · exact .inl hx
    · exact .inr (Nat.le_refl _)
    · right; omega
    · right; omega

/-- A function that goes over numbers; a round is told that its number is one of them. -/
def SeqM (v : Value) (l : List Int) (R : Nat → Prop) (w : World) : Prop :=
  ∃ gf lb, v = .func (.func gf) #[] lb ∧ (∀ args u, (callFunc gf args).run Try.prog u = .ok (.enter gf args) u) ∧ (∀ b, R b → b < w.heap.size) ∧
    ∀ m W, 1 ≤ m → Stay R w W → SeqStopsK Fence.wide m Try.prog gf lb (fun x : { x : Int // x ∈ l } => #[Value.int .i64 x.1]) (Stay R) (fun ys => ys.map (·.1) = l) (fun pre => pre.map (·.1) <+: l) l.length W
theorem SeqM.stay {v : Value} {l : List Int} {R : Nat → Prop} {w W : World} (h : SeqM v l R w) (hs : Stay R w W) : SeqM v l R W := by
  obtain ⟨gf, lb, e, h1, h2, h3⟩ := h
  exact ⟨gf, lb, e, h1, fun b hb => Nat.lt_of_lt_of_le (h2 b hb) hs.1, fun m W' hm hW => h3 m W' hm (hs.trans hW)⟩
theorem SeqM.lt {v : Value} {l : List Int} {R : Nat → Prop} {w : World} (h : SeqM v l R w) : ∀ b, R b → b < w.heap.size := by
  obtain ⟨_, _, _, _, h2, _⟩ := h
  exact h2
theorem SeqM.seq {gf : Nat} {lb : Array Value} {l : List Int} {R : Nat → Prop} {w : World} (h : SeqM (.func (.func gf) #[] lb) l R w) :
    SeqStopsK Fence.wide 8 Try.prog gf lb (fun x : { x : Int // x ∈ l } => #[Value.int .i64 x.1]) (Stay R) (fun ys => ys.map (·.1) = l) (fun pre => pre.map (·.1) <+: l) l.length w := by
  obtain ⟨gf', lb', e, _, _, h3⟩ := h
  injection e with e1 _ e2
  injection e1 with e1
  subst e1; subst e2
  exact h3 8 w (by omega) (Stay.refl _ _)
theorem path_seqM (T g Bt Ba Bb : Nat) (ps : List Int) (G : Gr.Good ps) (a b : Int) (w : World) (hP : PathAt w T g Bt Ba Bb ps a b) (hlt : ∀ x, PathB T g Bt Ba Bb x → x < w.heap.size) :
    SeqM (.func (.func 44) #[] #[.pointer (some ⟨Bt, 0, none⟩), .pointer (some ⟨Ba, 0, none⟩), .pointer (some ⟨Bb, 0, none⟩)]) (pathI ps a b) (PathB T g Bt Ba Bb) w := by
  refine ⟨_, _, rfl, enters_of Try.func44 (by kernel_rfl) rfl, hlt, ?_⟩
  intro m W hm hs l J Jx W1 hW hJ hJx hY h0
  have hs1 : Stay (PathB T g Bt Ba Bb) w W1 := hs.trans (Stay.below hW (fun b hb => Nat.lt_of_lt_of_le (hlt b hb) hs.1))
  refine (path1_in m l T g Bt Ba Bb ps G a b (fun pre W => ∃ ys : List { x : Int // x ∈ pathI ps a b }, ys.map (·.1) = pre ∧ J ys W) (fun pre W => ∃ ys : List { x : Int // x ∈ pathI ps a b }, ys.map (·.1) = pre ∧ Jx ys W) (fun pre x W hj hp => ?_) W1 (hP.stay hs1) ⟨[], rfl, h0⟩).mono ?_
  · obtain ⟨ys, hys, hj⟩ := hj
    have hx : x ∈ pathI ps a b := hp.subset (by simp)
    refine (hY ys ⟨x, hx⟩ W hj ?_).mono ?_
    · have := hp.length_le
      rw [← hys] at this
      simp at this
      omega
    · rintro e W' (⟨h1, h2, h3⟩ | ⟨h1, h2⟩)
      · exact .inl ⟨h1, ⟨_, by rw [List.map_append, hys]; rfl, h2⟩, h3⟩
      · exact .inr ⟨h1, ⟨_, by rw [List.map_append, hys]; rfl, h2⟩⟩
  · rintro e W' ⟨h1, ⟨ys, rfl, zs, hzs, hj⟩ | ⟨pre, hp, zs, hzs, hj⟩⟩
    · exact ⟨h1, .inl ⟨zs, hzs, hj⟩⟩
    · exact ⟨h1, .inr ⟨zs, by show zs.map (·.1) <+: _; rw [hzs]; exact hp, hj⟩⟩
/-- What Path leaves, told so. -/
def PathM (D : Nat → Prop) (l : List Int) (w : World) (e : Ending) (w' : World) : Prop := ∃ v R, e = .returned v ∧ SeqM v l R w' ∧ Below w.heap.size w w' ∧ ∀ b, R b → D b ∨ w.heap.size ≤ b
theorem path_codeM (T g : Nat) (ps : List Int) (a b : Int) (w : World) (h : IsTr w T g ps) (G : Gr.Good ps) :
    Calls Try.prog 38 #[.pointer (some ⟨T, 0, none⟩), .int .i64 a, .int .i64 b] w (PathM (TrB T g) (pathI ps a b) w) := by
  have HT := Lib.hid h
  clear h
  go_enter Try.func38, Try.ntmps38
  go_wp2
  go_ret
  have k1 := ((Blk.new w 27 #[.pointer (some ⟨T, 0, none⟩)]).alloc (.cells #[.int .i64 a] 3)).alloc (.cells #[.int .i64 b] 3)
  have k2 := (Blk.new (w.alloc (.cells #[.pointer (some ⟨T, 0, none⟩)] 27)) 3 #[.int .i64 a]).alloc (.cells #[.int .i64 b] 3)
  have k3 := Blk.new ((w.alloc (.cells #[.pointer (some ⟨T, 0, none⟩)] 27)).alloc (.cells #[.int .i64 a] 3)) 3 #[.int .i64 b]
  have hb : Below w.heap.size w (((w.alloc (.cells #[.pointer (some ⟨T, 0, none⟩)] 27)).alloc (.cells #[.int .i64 a] 3)).alloc (.cells #[.int .i64 b] 3)) :=
    (((Below.refl _ w).alloc (Nat.le_refl _) _).alloc (by simp) _).alloc (by simp; omega) _
  have l1 := k1.lt
  have hT := HT.out.below_ hb
  refine ⟨_, PathB T g _ _ _, rfl, path_seqM T g w.heap.size (w.heap.size + 1) (w.heap.size + 2) ps G a b _ ⟨hT, k1.cell 0, ?_, ?_⟩ ?_, hb, ?_⟩
  · have := k2.cell 0; simpa using this
  · have := k3.cell 0; simpa using this
  · rintro x (hx | rfl | rfl | rfl)
    · exact hT.lt x hx
    · exact l1
    · simp
    · simp
  · rintro x (hx | rfl | rfl | rfl)
    · exact .inl hx
    · exact .inr (Nat.le_refl _)
    · right; omega
    · right; omega

/-! A nil tree. -/
theorem nbrs_nil (v : Int) (w : World) : Calls Try.prog 31 #[.pointer none, .int .i64 v] w fun e w' => e = .returned (.slice none 0 0) ∧ w' = w := by
  have H := Lib.hid (has_nil v w)
  go_enter Try.func31, Try.ntmps31
  go_wp2_with (go_at_call 39; refine H.out.mono ?_; rintro e w1 ⟨rfl, hw⟩; rw [hw]; clear hw w1)
  go_ret
  exact ⟨rfl, rfl⟩
theorem nxt_nil (a b : Int) (w : World) : Calls Try.prog 29 #[.pointer none, .int .i64 a, .int .i64 b] w fun e w' => e = .returned (.int .i64 (-1)) ∧ w' = w := by
  have H := Lib.hid (has_nil a w)
  go_enter Try.func29, Try.ntmps29
  go_wp2_with (go_at_call 39; refine H.out.mono ?_; rintro e w1 ⟨rfl, hw⟩; rw [hw]; clear hw w1)
  go_ret
  exact ⟨rfl, rfl⟩
set_option maxHeartbeats 1000000 in
theorem path1_nil (m l Bt Ba Bb : Nat) (a : Int) (J : List Int → World → Prop) (Q : World → Prop)
    (W : World) (ct : W.cell? ⟨Bt, 0, none⟩ = some (.pointer none)) (ca : W.cell? ⟨Ba, 0, none⟩ = some (.int .i64 a)) (h0 : J [] W) :
    CallsIn Fence.wide m Try.prog 44 #[.func (.yield l) #[] #[], .pointer (some ⟨Bt, 0, none⟩), .pointer (some ⟨Ba, 0, none⟩), .pointer (some ⟨Bb, 0, none⟩)] W fun e W' => (∃ v, e = .returned v) ∧
      ((∃ ys, ys = [] ∧ J ys W') ∨ (∃ pre, pre <+: ([] : List Int) ∧ Q W')) := by
  have HHa := Lib.hid (has_nil a W)
  have HJ0 := Lib.hid h0
  clear h0
  refine callsIn_of_wp Try.func44 rfl trivial ?_ rfl
  simp only [Try.ntmps44, List.size_toArray, List.length_cons, List.length_nil, Nat.reduceAdd, Nat.reduceSub, Array.replicate_succ, Array.replicate_zero, List.push_toArray, List.append_toArray, List.nil_append, List.cons_append]
  gi_wp2_with (refine ⟨trivial, hdd _, ?_⟩; gi_at_call 39; refine (callsIn_wide.2 HHa.out).mono ?_; rintro e w1 ⟨rfl, hw⟩; rw [hw]; clear hw w1)
  refine ⟨trivial, ?_⟩
  gi_wp2
  first | go_end0 | refine bodyPost_ret (results_none rfl _ _ _) rfl ?_
  exact ⟨⟨_, rfl⟩, .inl ⟨[], rfl, HJ0.out⟩⟩
theorem path_nil (a b : Int) (w : World) :
    Calls Try.prog 38 #[.pointer none, .int .i64 a, .int .i64 b] w (PathR (fun _ => False) [] w) := by
  go_enter Try.func38, Try.ntmps38
  go_wp2
  go_ret
  have k1 := ((Blk.new w 27 #[.pointer none]).alloc (.cells #[.int .i64 a] 3)).alloc (.cells #[.int .i64 b] 3)
  have k2 := (Blk.new (w.alloc (.cells #[.pointer none] 27)) 3 #[.int .i64 a]).alloc (.cells #[.int .i64 b] 3)
  rw [World.size_alloc] at k2
  have hb : Below w.heap.size w (((w.alloc (.cells #[.pointer none] 27)).alloc (.cells #[.int .i64 a] 3)).alloc (.cells #[.int .i64 b] 3)) :=
    (((Below.refl _ w).alloc (Nat.le_refl _) _).alloc (by simp) _).alloc (by simp; omega) _
  have l1 := k1.lt
  have l2 := k2.lt
  refine ⟨_, fun x => x = w.heap.size ∨ x = w.heap.size + 1, rfl, ⟨_, _, rfl, enters_of Try.func44 (by kernel_rfl) rfl, ?_, ?_⟩, hb, ?_⟩
  · rintro x (rfl | rfl)
    · exact l1
    · exact l2
  · intro m W hm hs l J Jx W1 hW hJ hJx hY h0
    have hs1 := hs.trans (Stay.below hW (D := fun x => x = w.heap.size ∨ x = w.heap.size + 1) (fun x hx => by
      have := hs.1
      rcases hx with rfl | rfl <;> omega))
    refine (path1_nil m l w.heap.size (w.heap.size + 1) (w.heap.size + 1 + 1) a J (fun _ => False) W1 ?_ ?_ h0).mono ?_
    · exact (World.cell?_of_block (a := ⟨w.heap.size, 0, none⟩) (hs1.2 _ (.inl rfl))).trans (k1.cell 0)
    · exact (World.cell?_of_block (a := ⟨w.heap.size + 1, 0, none⟩) (hs1.2 _ (.inr rfl))).trans (k2.cell 0)
    · rintro e W' ⟨h1, h2 | ⟨_, _, h2⟩⟩
      · exact ⟨h1, .inl h2⟩
      · exact h2.elim
  · rintro x (rfl | rfl)
    · exact .inr (Nat.le_refl _)
    · right; omega
end Go.Proofs.Ytcomiininaemhaa.Pk

/- Package tree: Dist. -/
namespace Go.Proofs.Ytcomiininaemhaa.Pk
open Go.RowKit Go.Shelf Go.Proofs.Ytcomiininaemhaa.Gr
set_option linter.unusedVariables false
attribute [local go_sem] Oper.semAt_some

theorem stay_set {D : Nat → Prop} {V : World} {x : Nat} {u : Value} (hx : ¬ D x) : Stay D V (V.setCell ⟨x, 0, none⟩ u) :=
  ⟨by simp [World.setCell], fun b hb => Below.heap_setCell _ ⟨x, 0, none⟩ _ b (fun e => hx (by simp at e; subst e; exact hb))⟩
theorem own_blk {β : Type} (B x : Nat) (t : TypeId) (f : β → Value) : OwnFrom (β := β) B (fun s W => Blk W x t #[f s]) := Own.from (I := fun (s : β) W => Blk W x t #[f s]) (fun s A W row hs hg hr => blk_kept hs hg hr) B
/-- How many edges lie between; -1: no such nodes. -/
def distI (ps : List Int) (a b : Int) : Int := ((pathI ps a b).length : Int) - 1
set_option maxRecDepth 100000 in
set_option maxHeartbeats 4000000 in
/-- Of whatever has a Path. -/
theorem dist_val (tv : Value) (D : Nat → Prop) (l : List Int) (a b : Int) (w : World) (hD : ∀ x, D x → x < w.heap.size) (hlen : l.length ≤ 32)
    (hP : ∀ W, Below w.heap.size w W → Calls Try.prog 38 #[tv, .int .i64 a, .int .i64 b] W (PathR D l W)) :
    Calls Try.prog 26 #[tv, .int .i64 a, .int .i64 b] w fun e w' => e = .returned (.int .i64 ((l.length : Int) - 1)) ∧ Below w.heap.size w w' := by
  have HD := Lib.hid hD
  have HLe := Lib.hid hlen
  clear hD hlen
  obtain ⟨W0, hW0⟩ : ∃ W0, W0 = w.alloc (.cells #[.int .i64 (-1)] 3) := ⟨_, rfl⟩
  have hk0 : Blk W0 w.heap.size 3 #[.int .i64 (-1)] := hW0 ▸ Blk.new w _ _
  have hb0 : Below w.heap.size w W0 := hW0 ▸ (Below.refl _ w).alloc (Nat.le_refl _) _
  have HK0 := Lib.hid hk0
  have HB0 := Lib.hid hb0
  clear hk0 hb0
  have HP := Lib.hid (hP W0 HB0.out)
  clear hP
  refine (callsIn_wide (n := 9)).1 ?_
  refine callsIn_of_wp_marks Try.func26 rfl trivial ?_ rfl
  simp only [Try.ntmps26, List.size_toArray, List.length_cons, List.length_nil, Nat.reduceAdd, Nat.reduceSub, Array.replicate_succ, Array.replicate_zero, List.push_toArray, List.append_toArray, List.nil_append, List.cons_append]
  refine wpIn_wide.2 ?_
  go_wp2_with fail
  rw [← hW0]
  refine HP.out.mono ?_
  rintro e w1 ⟨v, R, rfl, hs, hb1, hR⟩
  have hsq := hs
  obtain ⟨gf, lb, rfl, en, hRl, _⟩ := hs
  have SQ := Lib.hid hsq
  have EN := Lib.hid en
  have HK1 := Lib.hid (HK0.out.below hb1 HK0.out.lt)
  have HB1 := Lib.hid (HB0.out.trans (hb1.mono HB0.out.size))
  have HRx : Hid (∀ b, R b → b ≠ w.heap.size) := Lib.hid (fun b hb e => by
    subst e
    rcases hR _ hb with h | h
    · have := HD.out _ h; omega
    · have := HK0.out.lt; omega)
  have hxs : w.heap.size < w1.heap.size := HK1.out.lt
  obtain ⟨x0, hx0⟩ : ∃ x0, x0 = w.heap.size := ⟨_, rfl⟩
  have HX0 := Lib.hid hx0
  rw [← hx0] at HK1 HRx hxs ⊢
  clear hsq en hRl hb1 hR hx0 hW0 HP HK0
  go_wp2
  refine (wpIn_wide (n := 9)).1 ?_
  refine' wpIn_rangeFunc_ownG (α := Int) rfl (by omega) (gf := gf) (lb := lb) rfl trivial EN.out
    SQ.out.seq (fun h k => h.trans k) (stay_b SQ.out.lt) (Below.refl _ _) (fun _ => rfl)
    (fun pre W => Blk W x0 3 #[.int .i64 ((pre.length : Int) - 1)] ∧ Only w1 W x0)
    (fun c pre W => False)
    (OwnFrom.and (own_blk _ x0 _ (fun pre : List Int => .int .i64 ((pre.length : Int) - 1))) (own_only w1 x0))
    (fun c => fun s A B row hs hg hr => hs)
    ⟨by simpa using HK1.out, Only.refl _ _⟩
    _ ?assign ?body ?done ?stop
  case assign =>
    intro l x W K hK
    gi_wp2
    exact hK
  case body =>
    rintro lp pre y V ⟨hbx, hOnly⟩ hlt
    obtain ⟨z, hz⟩ : ∃ z, z = (pre.length : Int) - 1 := ⟨_, rfl⟩
    have hz1 : -1 ≤ z ∧ z ≤ 32 := by have := HLe.out; omega
    have HZ := Lib.hid hz
    rw [← hz] at hbx
    have cx : V.cell? ⟨x0, 0, none⟩ = some (.int .i64 z) := by rw [hbx.cell]; rfl
    have fx : V.frozen? ⟨x0, 0, none⟩ = false := hbx.frozen 0
    have HBx := Lib.hid hbx
    clear hbx hz
    gi_wp2
    exact ⟨(KeepsOthers.setCell _ _ _).from _, stay_set (fun h => HRx.out _ h rfl), by
      have := blk_put HBx.out (.int .i64 (z + 1))
      rw [List.length_append, show ((pre.length + [y].length : Nat) : Int) - 1 = z + 1 by rw [HZ.out]; simp]; exact this, hOnly.set _ _⟩
  case stop =>
    rintro D cc pre V hD hpre hf hK
    exact hf.elim
  case done =>
    rintro D ys V hD rfl ⟨hbx, hOnly⟩ hK
    obtain ⟨z, hz⟩ : ∃ z, z = (ys.length : Int) - 1 := ⟨_, rfl⟩
    have HDi : Hid ((ys.length : Int) - 1 = z) := Lib.hid hz.symm
    rw [← hz] at hbx
    have cx : V.cell? ⟨x0, 0, none⟩ = some (.int .i64 z) := by rw [hbx.cell]; rfl
    clear hbx hz
    go_wp2
    have hlD : D < V.heap.size := by
      rcases Nat.lt_or_ge D V.heap.size with h1 | h1
      · exact h1
      · rw [Array.getElem?_eq_none h1] at hK; cases hK
    refine Marks.leave (B := w1.heap.size) [_] _ ⟨D, rfl, hD, hlD, hK, by simp, trivial⟩ (fun W' hb => ?_)
    refine ⟨.int .i64 z, by simp [results, Try.f26, go_sem], by rw [HDi.out], ?_⟩
    have h1 := Only.below HB1.out hOnly (by rw [HX0.out]; exact Nat.le_refl _) HB1.out.size
    exact h1.trans (hb.mono HB1.out.size)
theorem dist_any (T g : Nat) (ps : List Int) (a b : Int) (w : World) (h : IsTr w T g ps) (G : Gr.Good ps) (hlen : (pathI ps a b).length ≤ 32) :
    Calls Try.prog 26 #[.pointer (some ⟨T, 0, none⟩), .int .i64 a, .int .i64 b] w fun e w' => e = .returned (.int .i64 (distI ps a b)) ∧ Below w.heap.size w w' :=
  dist_val _ (TrB T g) _ a b w h.lt hlen fun W hW => path_code T g ps a b W (h.below_ hW) G
theorem dist_nil (a b : Int) (w : World) :
    Calls Try.prog 26 #[.pointer none, .int .i64 a, .int .i64 b] w fun e w' => e = .returned (.int .i64 (-1)) ∧ Below w.heap.size w w' :=
  dist_val _ (fun _ => False) [] a b w (fun _ h => h.elim) (by simp) fun W hW => path_nil a b W
end Go.Proofs.Ytcomiininaemhaa.Pk
