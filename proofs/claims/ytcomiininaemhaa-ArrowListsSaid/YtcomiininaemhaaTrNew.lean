/- Package tree: a tree in memory; New, Size, Root, has. -/
import Derived.Test.YtcomiininaemhaaTrCheck
import Derived.Test.YtcomiininaemhaaNums
import Derived.Test.YtcomiininaemhaaNumApp
import Derived.Test.YtcomiininaemhaaStay0
import Derived.Test.YtcomiininaemhaaRange
import Derived.Test.YtcomiininaemhaaGrNext
import Derived.Lib.SliceRun
namespace Go.Proofs.Ytcomiininaemhaa.Pk
open Go.RowKit Go.Proofs.Ytcomiininaemhaa.Gr
set_option linter.unusedVariables false

theorem run_eql_nil (W : World) (b off n c : Nat) : (binOp .eql 26 (.slice (some ⟨b, off, none⟩) n c) (.slice none 0 0)).run Try.prog W = .ok (.bool false) W :=
  Lib.run_eql_slice_nil W _ _ (some ⟨b, off, none⟩) n c 0 0 Try.underlying26
/-- A copy of numbers, if there are some. -/
theorem clone_any (A : Option Addr) (n c : Nat) (ps : List Int) (w : World) (B : Nat) (hr : Reads w B 1 A n (nms ps)) (hB : B ≤ w.heap.size) (h0 : 0 < n) (hlen : n * 8 ≤ 140737488355328) :
    Calls Try.prog 34 #[.slice A n c] w fun e w' => ∃ v, e = .returned v ∧ OwnN w' w.heap.size v ps ∧ Below w.heap.size w w' := by
  have HR := Lib.hid hr
  obtain ⟨b, off, rfl, hbb, hc⟩ := hr.pa h0
  clear hr hc
  have E0 := run_eql_nil w b off n c
  go_enter Try.func34, Try.ntmps34
  go_wp2_with (at_builtin; refine appNE w rfl (.tmp 5) (.tmp 6) rfl rfl B (some ⟨b, off, none⟩) c ps n rfl HR.out hB hlen ?_; intro v2 w2 hown2 hb2; have HO := Lib.hid hown2; have HB := Lib.hid hb2; clear hown2 hb2)
  go_ret
  exact ⟨_, rfl, HO.out, HB.out⟩

/-- The tree in block T, its list in block g. -/
def IsTr (w : World) (T g : Nat) (ps : List Int) : Prop := ∃ c cur, Blk w T 60 #[.slice (some ⟨g, 0, none⟩) ps.length c] ∧ Blk w g 3 cur ∧ cur.toList.take ps.length = nms ps ∧ ps.length ≤ c
/-- The tree's blocks. -/
def TrB (T g : Nat) (b : Nat) : Prop := b = T ∨ b = g
theorem Stay.only {D : Nat → Prop} {w w' : World} {x : Nat} (h : Only w w' x) (hD : ∀ b, D b → b < w.heap.size ∧ b ≠ x) : Stay D w w' :=
  ⟨h.size, fun b hb => h.block b (hD b hb).1 (fun e => (hD b hb).2 (by injection e))⟩
section
variable {w w' : World} {T g : Nat} {ps : List Int}
theorem IsTr.stay (h : IsTr w T g ps) (hs : Stay (TrB T g) w w') : IsTr w' T g ps := by
  obtain ⟨c, cur, h1, h2, h3⟩ := h
  exact ⟨c, cur, (hs.2 T (.inl rfl)).trans h1, (hs.2 g (.inr rfl)).trans h2, h3⟩
theorem IsTr.lt (h : IsTr w T g ps) : ∀ b, TrB T g b → b < w.heap.size := by
  obtain ⟨c, cur, h1, h2, h3⟩ := h
  rintro b (rfl | rfl)
  · exact h1.lt
  · exact h2.lt
theorem IsTr.below {B : Nat} (h : IsTr w T g ps) (hb : Below B w w') (hB : ∀ b, TrB T g b → b < B) : IsTr w' T g ps := h.stay (Stay.below hb hB)
theorem IsTr.below_ (h : IsTr w T g ps) (hb : Below w.heap.size w w') : IsTr w' T g ps := h.below hb h.lt
theorem IsTr.drewN (h : IsTr w T g ps) (k : Nat) : IsTr (w.drewN k) T g ps := h.stay ⟨Nat.le_refl _, fun _ _ => rfl⟩
theorem IsTr.alloc (h : IsTr w T g ps) (o : Obj) : IsTr (w.alloc o) T g ps := h.below_ ((Below.refl _ _).alloc (Nat.le_refl _) _)
/-- What its functions load. -/
theorem IsTr.cells (h : IsTr w T g ps) : ∃ c, ps.length ≤ c ∧ w.cell? ⟨T, 0, none⟩ = some (.slice (some ⟨g, 0, none⟩) ps.length c) ∧ Reads w w.heap.size 1 (some ⟨g, 0, none⟩) ps.length (nms ps) ∧ ∀ v, v < ps.length → w.cell? ⟨g, v, none⟩ = some (.int .i64 (pa ps v)) := by
  obtain ⟨c, cur, h1, h2, h3, h4⟩ := h
  have hcell : ∀ j u, (nms ps)[j]? = some u → w.cell? ⟨g, j, none⟩ = some u := by
    intro j u hu
    rw [h2.cell]
    rw [← h3] at hu
    rw [← hu, List.getElem?_take]
    split
    · simp
    · rename_i hj
      rw [List.getElem?_take, if_neg hj] at hu
      cases hu
  refine ⟨c, h4, h1.cell 0, ⟨by simp, fun _ => ⟨_, rfl, h2.lt, fun j u hu => ?_⟩⟩, fun v hv => ?_⟩
  · have e : (⟨g, 0, none⟩ : Addr).add j = ⟨g, j, none⟩ := by unfold Addr.add; by_cases hj : j = 0 <;> simp [hj]
    rw [e]; exact hcell j u hu
  · have := hcell v _ (nms_get hv)
    rw [this, pa_get hv]
end
/-- What New leaves. -/
def NewR (ps : List Int) (w : World) (e : Ending) (w' : World) : Prop :=
  Below w.heap.size w w' ∧ ((∃ T g, e = .returned (.tuple #[.pointer (some ⟨T, 0, none⟩), .int .i64 0]) ∧ ChkIs ps 0 0 ∧ IsTr w' T g ps ∧ w.heap.size ≤ T ∧ w.heap.size ≤ g ∧ T ≠ g) ∨
    (∃ p er, e = .returned (.tuple #[.pointer none, .int .i64 er]) ∧ ChkIs ps p er ∧ er ≠ 0))
theorem ChkIs.code {ps : List Int} {p er : Int} (h : ChkIs ps p er) : er = 0 ∨ er = 1 ∨ er = 3 ∨ er = 10 := by
  rcases h with ⟨a, b, c⟩ | ⟨a, b, c⟩ | ⟨a, ⟨v, v1, v2, v3, v4, v5⟩ | ⟨n1, ⟨v, v1, v2, v3, v4, v5⟩ | ⟨n2, v2, v3⟩⟩⟩ <;> omega
set_option maxHeartbeats 2000000 in
theorem new_any (A : Option Addr) (n c : Nat) (ps : List Int) (w : World) (B : Nat) (hr : Reads w B 1 A n (nms ps)) (hB : B ≤ w.heap.size) (hbig : n ≤ 4611686018427387904) :
    Calls Try.prog 18 #[.slice A n c] w (NewR ps w) := by
  have HL := Lib.hid hr.plen
  have HR := Lib.hid hr
  have HC := Lib.hid (chk_any A n c ps w B hr hbig)
  clear hr
  go_enter Try.func18, Try.ntmps18
  go_wp2_with fail
  refine HC.out.mono ?_
  rintro e w1 ⟨p, er, rfl, hck, rfl⟩
  by_cases he : er = 0
  · subst he
    obtain ⟨G, rfl⟩ := hck.good
    have HK := Lib.hid hck
    clear hck
    have hn : 0 < n ∧ n ≤ 32 := by have h1 := G.pos; have h2 := G.few; rw [HL.out] at h1 h2; exact ⟨h1, h2⟩
    obtain ⟨hn1, hn2⟩ := hn
    have HCl := Lib.hid (clone_any A n c ps w1 B HR.out hB hn1 (by omega))
    go_wp2_with (go_at_call 34; go_must (refine HCl.out.mono ?_); rintro e w2 ⟨v, rfl, hown, hbel⟩; obtain ⟨hpl, ⟨rfl, hz⟩ | ⟨g, cap, cur, rfl, hg, hh, hcap, hmx, hsz, htk⟩⟩ := hown)
    · have := G.pos; omega
    · go_ret2
      have hb2 := hbel.alloc hbel.size (.cells #[.slice (some ⟨g, 0, none⟩) ps.length cap] 60)
      have hlt : g < w2.heap.size := Blk.lt (t := 3) (cs := cur) hh
      refine ⟨hb2, .inl ⟨w2.heap.size, g, rfl, HK.out, ⟨cap, cur, Blk.new w2 _ _, Blk.alloc hh _, ?_, hcap⟩, hbel.size, hg, by omega⟩⟩
      rw [← htk, Nat.mul_one]
  · have HK := Lib.hid hck
    have t1 : (er != 0) = true := by simp [he]
    have HE := Lib.hid he
    clear hck he
    go_wp2
    go_ret2
    exact ⟨Below.refl _ _, .inr ⟨p, er, rfl, HK.out, HE.out⟩⟩

theorem size_any (T g : Nat) (ps : List Int) (w : World) (h : IsTr w T g ps) :
    Calls Try.prog 28 #[.pointer (some ⟨T, 0, none⟩)] w fun e w' => e = .returned (.int .i64 (ps.length : Nat)) ∧ w' = w := by
  obtain ⟨c, hc, X, _, _⟩ := h.cells
  clear h
  go_enter Try.func28, Try.ntmps28
  go_wp2_with fail
  go_ret
  exact ⟨rfl, rfl⟩
theorem size_nil (w : World) : Calls Try.prog 28 #[.pointer none] w fun e w' => e = .returned (.int .i64 0) ∧ w' = w := by
  go_enter Try.func28, Try.ntmps28
  go_wp2_with fail
  go_ret
  exact ⟨rfl, rfl⟩
/-- Is there such a node? -/
def hasB (ps : List Int) (v : Int) : Bool := decide (0 ≤ v ∧ v < (ps.length : Int))
theorem has_any (T g : Nat) (ps : List Int) (v : Int) (w : World) (h : IsTr w T g ps) :
    Calls Try.prog 39 #[.pointer (some ⟨T, 0, none⟩), .int .i64 v] w fun e w' => e = .returned (.bool (hasB ps v)) ∧ w' = w := by
  have HS := Lib.hid (size_any T g ps w h)
  clear h
  go_enter Try.func39, Try.ntmps39
  by_cases h1 : 0 ≤ v
  · by_cases h2 : v < (ps.length : Int)
    · have HE : Hid (hasB ps v = true) := Lib.hid (decide_eq_true ⟨h1, h2⟩)
      go_wp2_with (go_at_call 28; go_must (refine HS.out.mono ?_); rintro e w1 ⟨rfl, rfl⟩)
      go_ret
      exact ⟨by rw [HE.out]; rfl, rfl⟩
    · have HE : Hid (hasB ps v = false) := Lib.hid (decide_eq_false (fun h => h2 h.2))
      have HT : Hid (decide (v < (ps.length : Int)) = false) := Lib.hid (decide_eq_false h2)
      clear h2
      go_wp2_with (go_at_call 28; go_must (refine HS.out.mono ?_); rintro e w1 ⟨rfl, rfl⟩)
      go_ret
      refine ⟨?_, rfl⟩
      rw [HE.out, ← HT.out]; rfl
  · have HE : Hid (hasB ps v = false) := Lib.hid (decide_eq_false (fun h => h1 h.1))
    have h1' : v < 0 := by omega
    clear h1
    go_wp2_with fail
    go_ret
    exact ⟨by rw [HE.out]; rfl, rfl⟩
theorem has_nil (v : Int) (w : World) :
    Calls Try.prog 39 #[.pointer none, .int .i64 v] w fun e w' => e = .returned (.bool false) ∧ w' = w := by
  have HS := Lib.hid (size_nil w)
  go_enter Try.func39, Try.ntmps39
  by_cases h1 : 0 ≤ v
  · have HT : Hid (decide (v < 0) = false) := Lib.hid (decide_eq_false (by omega))
    go_wp2_with (go_at_call 28; go_must (refine HS.out.mono ?_); rintro e w1 ⟨rfl, rfl⟩)
    go_ret
    refine ⟨?_, rfl⟩
    rw [← HT.out]; rfl
  · have h1' : v < 0 := by omega
    clear h1
    go_wp2_with fail
    go_ret
    exact ⟨rfl, rfl⟩
end Go.Proofs.Ytcomiininaemhaa.Pk
