/- A datagram's bytes with their sum: there and back; bytes turned in up to four neighbouring places are told. -/
import Derived.Test.YtiaafhcfeeekeaaZGmMath
import Derived.Test.YtiaafhcfeeekeaaZFrMath
import Derived.Test.YtiaafhcfeeekeaaZHfMath
import Derived.Test.YtiaafhcfeeekeaaProg
import Derived.Test.YtiaafhcfeeekeaaZRange
import Derived.LoopTactic
import Derived.Outline
import Derived.Lib.Hide
import Derived.Test.YtiaafhcfeeekeaaZHfCodeA
import Derived.Laws.BitsAllLaws
import Derived.Test.YtiaafhcfeeekeaaZCeEq
namespace Go.Proofs.Ytiaafhcfeeekeaa.Pk
open Go.Proofs.Ytiaafhcfeeekeaa.Crc
set_option linter.unusedVariables false
def Gm.all (g : Gm) : List Int := g.bytes ++ Fr.le4 (crc 0 g.bytes)
/-- What Encode answers: the bytes, the error. -/
def genc (g : Gm) : List Int × Int := if g.Be then (g.all, 0) else ([], 1)
/-- What Decode answers. -/
def gdec (l : List Int) : Gm × Int :=
  if l.length < 4 then (Gm.zero, 30) else if Fr.le4 (crc 0 (l.take (l.length - 4))) = l.drop (l.length - 4) then
    (if (gtake (l.take (l.length - 4))).2.2 = 0 ∧ (gtake (l.take (l.length - 4))).2.1 = l.length - 4 then ((gtake (l.take (l.length - 4))).1, 0) else (Gm.zero, 31))
  else (Gm.zero, 32)
end Go.Proofs.Ytiaafhcfeeekeaa.Pk

/- Plain mathematics: what bytes begin with, as the document's answer reckons it. -/
namespace Go.Proofs.Ytiaafhcfeeekeaa.Pk

/-- How many bytes from the front on are 128 or more. -/
def lead : List Int → Nat
  | [] => 0
  | c :: r => if 128 ≤ c then lead r + 1 else 0
/-- Seven bits of each byte, the lowest first. -/
def val : List Int → Int
  | [] => 0
  | c :: r => c % 128 + 128 * val r

/-- The first k bytes are 128 or more. -/
def High (l : List Int) (k : Nat) : Prop := k ≤ l.length ∧ ∀ j, j < k → 128 ≤ l.getD j 0
/-- Gathered from the last byte down to place i (not with it). -/
def gat (l : List Int) (n i : Nat) : Int := val ((l.take (n + 1)).drop i)
end Go.Proofs.Ytiaafhcfeeekeaa.Pk

/- The walk of pack.Take. -/
namespace Go.Proofs.Ytiaafhcfeeekeaa.Pk
open Go.RowKit
set_option linter.unusedVariables false


theorem drop_cons (l : List Int) (i : Nat) (h : i < l.length) : l.drop i = l.getD i 0 :: l.drop (i + 1) := by
  rw [List.drop_eq_getElem_cons h, List.getD_eq_getElem?_getD, List.getElem?_eq_getElem h]; rfl

def TakeRel (l : List Int) (y : Int) (k : Nat) : Prop := y < 128 ^ k ∧ tgo (9 - k) k y (l.drop k) = tkv l

theorem take_zero (l : List Int) (y : Int) (k : Nat) (hk : k < l.length) (h9 : k < 9) (hc : l.getD k 0 = 0) (hp : 0 < k) (h : TakeRel l y k) : tkv l = (0, 0) := by
  obtain ⟨h1, h2⟩ := h
  rw [drop_cons l k hk, show 9 - k = (9 - (k + 1)) + 1 by omega, tgo, if_neg (by omega), if_pos ⟨hc, hp⟩] at h2
  exact h2.symm
end Go.Proofs.Ytiaafhcfeeekeaa.Pk

/- The walk of pack.Size: it answers how many bytes the number has. -/
namespace Go.Proofs.Ytiaafhcfeeekeaa.Pk
open Go.RowKit
set_option linter.unusedVariables false
































end Go.Proofs.Ytiaafhcfeeekeaa.Pk

/- Bytes of the call's own: what owns them, and how they are appended to. -/
namespace Go.Proofs.Ytiaafhcfeeekeaa.Pk
open Go.RowKit
set_option linter.unusedVariables false

/-- The value owns the bytes l, in new memory from block B on. -/
def OwnB (w : World) (B : Nat) (v : Value) (l : List Int) : Prop := w.ownsRow B 5 1 v l.length (bts l)
theorem OwnB.of {w : World} {B n k : Nat} {v : Value} {l r : List Int} {xs : List Value} (h : w.ownsRow B 5 1 v n xs) (e : xs = bts l) : OwnB w B v l := by
  subst e
  have h1 := h.1
  simp at h1
  unfold OwnB
  rw [h1]; exact h
theorem OwnB.app {w : World} {B n k : Nat} {v : Value} {l r : List Int} (h : w.ownsRow B 5 1 v (n + k) (bts l ++ bts r)) : OwnB w B v (l ++ r) :=
  OwnB.of (k := 0) (r := []) h (bts_append l r)

theorem OwnB.alloc {w : World} {B : Nat} {v : Value} {l : List Int} (h : OwnB w B v l) (o : Obj) : OwnB (w.alloc o) B v l := World.ownsRow.alloc h o
theorem OwnB.keep {w w' : World} {B B' : Nat} {v : Value} {l : List Int} (h : OwnB w B v l) (hb : Below B' w w') (hB' : w.heap.size ≤ B') : OwnB w' B v l := by
  obtain ⟨h1, h2⟩ := h
  refine ⟨h1, ?_⟩
  rcases h2 with h2 | ⟨g, cap, cur, e, hg, hh, hr⟩
  · exact .inl h2
  · refine .inr ⟨g, cap, cur, e, hg, ?_, hr⟩
    have hlt : g < w.heap.size := by
      rcases Nat.lt_or_ge g w.heap.size with hlt | hge
      · exact hlt
      · rw [Array.getElem?_eq_none hge] at hh; cases hh
    rw [hb.block g (by omega)]; exact hh
theorem OwnB.mono {w : World} {B B' : Nat} {v : Value} {l : List Int} (h : OwnB w B v l) (hB : B' ≤ B) : OwnB w B' v l := by
  obtain ⟨h1, h2⟩ := h
  refine ⟨h1, ?_⟩
  rcases h2 with h2 | ⟨g, cap, cur, e, hg, hr⟩
  · exact .inl h2
  · exact .inr ⟨g, cap, cur, e, by omega, hr⟩

theorem OwnB.reads {w : World} {B : Nat} {v : Value} {l : List Int} (h : OwnB w B v l) : ∃ A c, v = .slice A l.length c ∧ l.length ≤ c ∧ Reads w w.heap.size 1 A l.length (bts l) := reads_own h
/-- A slice value that reads as the bytes l. -/
def ValB (w : World) (v : Value) (l : List Int) : Prop := ∃ A n c, v = .slice A n c ∧ n ≤ c ∧ l.length = n ∧ Reads w w.heap.size 1 A n (bts l)
theorem OwnB.val {w : World} {B : Nat} {v : Value} {l : List Int} (h : OwnB w B v l) : ValB w v l := by
  obtain ⟨A, c, rfl, hc, hr⟩ := h.reads
  exact ⟨A, _, c, rfl, hc, rfl, hr⟩



























theorem OwnB.fresh (w : World) (B : Nat) (hB : B ≤ w.heap.size) : OwnB (w.alloc (.cells #[] 5)) B (.slice (some ⟨w.heap.size, 0, none⟩) 0 0) [] :=
  ⟨rfl, .inr ⟨w.heap.size, 0, #[], rfl, hB, heap_alloc_new w _, Nat.le_refl _, by unfold maxLen; omega, rfl, rfl⟩⟩










end Go.Proofs.Ytiaafhcfeeekeaa.Pk

/- The walk of pack.Put: it answers new memory: the bytes that were there, and those of the numbers behind them. -/
namespace Go.Proofs.Ytiaafhcfeeekeaa.Pk
open Go.RowKit
set_option linter.unusedVariables false

end Go.Proofs.Ytiaafhcfeeekeaa.Pk

/- The walks of the document's answers for numbers as bytes: Put and Take. -/
namespace Go.Proofs.Ytiaafhcfeeekeaa.Pk
open Go.RowKit
set_option linter.unusedVariables false












































/-- The second loop of the document's Take: from the last byte down. -/
def Down (l : List Int) (k : Nat) (s i : Value) : Prop := (∃ j : Nat, i = .int .i64 j ∧ j ≤ k ∧ s = .int .i64 (gat l k (j + 1))) ∨ (i = .int .i64 (-1) ∧ s = .int .i64 (gat l k 0))

end Go.Proofs.Ytiaafhcfeeekeaa.Pk

/- What package wire promises (to be proved of the code that lands), and messages as they lie. -/
namespace Go.Proofs.Ytiaafhcfeeekeaa.Pk
open Go.RowKit
set_option linter.unusedVariables false





end Go.Proofs.Ytiaafhcfeeekeaa.Pk

/- The contract of crc.Add: the sum goes on with the bytes; the world is left alone. -/
namespace Go.Proofs.Ytiaafhcfeeekeaa.Pk
open Go.RowKit Go.Proofs.Ytiaafhcfeeekeaa.Crc
set_option linter.unusedVariables false

/-- The table lies in its block. -/
def Tab (w : World) : Prop := ∀ i, i < 16 → w.cell? ⟨0, i, none⟩ = some (.int .u32 (tabN i : Int))
theorem Tab.below {w w' : World} (h : Tab w) {B : Nat} (hb : Below B w w') (hB : 0 < B) : Tab w' := fun i hi => (hb.cell (p := ⟨0, i, none⟩) hB).trans (h i hi)

end Go.Proofs.Ytiaafhcfeeekeaa.Pk

/- The contract of crc.Sum. -/
namespace Go.Proofs.Ytiaafhcfeeekeaa.Pk
open Go.RowKit Go.Proofs.Ytiaafhcfeeekeaa.Crc
set_option linter.unusedVariables false











end Go.Proofs.Ytiaafhcfeeekeaa.Pk

/- What package gram promises (to be proved of the code that lands), and datagrams as they lie. -/
namespace Go.Proofs.Ytiaafhcfeeekeaa.Pk
open Go.RowKit Go.Proofs.Ytiaafhcfeeekeaa.Crc
set_option linter.unusedVariables false
def ValidG : Prop := ∀ (g : Gm) (w : World), g.I → Calls Try.prog 56 #[g.val] w fun e w' => e = .returned (.bool (decide g.Be)) ∧ Below w.heap.size w w'








end Go.Proofs.Ytiaafhcfeeekeaa.Pk

/- The document's Valid of a datagram. -/
namespace Go.Proofs.Ytiaafhcfeeekeaa.Pk
open Go.RowKit
set_option linter.unusedVariables false
/-- The ways through Valid. -/
theorem gbe_ways (f t a s : Int) : (f < 0 ∨ 31 < f ∨ t < 0 ∨ 31 < t ∨ f = t ∨ a < 0 ∨ 1099511627776 < a ∨ s < 0 ∨ 1099511627776 < s) ∨ (0 ≤ f ∧ f ≤ 31 ∧ 0 ≤ t ∧ t ≤ 31 ∧ f ≠ t ∧ 0 ≤ a ∧ a ≤ 1099511627776 ∧ 0 ≤ s ∧ s ≤ 1099511627776) := by omega














































































end Go.Proofs.Ytiaafhcfeeekeaa.Pk

/- The landed Valid of a datagram. -/
namespace Go.Proofs.Ytiaafhcfeeekeaa.Pk
open Go.RowKit
set_option linter.unusedVariables false
/-- A field within its bounds, or beyond them. -/
theorem within_t {x h : Int} (w : World) (hx : -9223372036854775808 ≤ x ∧ x ≤ 9223372036854775807) (h0 : 0 ≤ x) (h1 : x ≤ h) : Calls Try.prog 74 #[.int .i64 x, .int .i64 h] w fun e w' => e = .returned (.bool true) ∧ w' = w := by
  have b1 : decide (0 ≤ x) = true := decide_eq_true h0
  have b2 : decide (x ≤ h) = true := decide_eq_true h1
  go_enter Try.func74, Try.ntmps74
  go_wp2
  go_ret
  exact ⟨rfl, rfl⟩
theorem within_f {x h : Int} (w : World) (hx : -9223372036854775808 ≤ x ∧ x ≤ 9223372036854775807) (hn : x < 0 ∨ h < x) : Calls Try.prog 74 #[.int .i64 x, .int .i64 h] w fun e w' => e = .returned (.bool false) ∧ w' = w := by
  by_cases h0 : 0 ≤ x
  · have b1 : decide (0 ≤ x) = true := decide_eq_true h0
    have b2 : decide (x ≤ h) = false := decide_eq_false (by omega)
    clear hn
    go_enter Try.func74, Try.ntmps74
    go_wp2
    go_ret
    exact ⟨rfl, rfl⟩
  · have b1 : decide (0 ≤ x) = false := decide_eq_false h0
    clear hn
    go_enter Try.func74, Try.ntmps74
    go_wp2
    go_ret
    exact ⟨rfl, rfl⟩
theorem carries_z (f t a s k o n u v : Int) (w : World) (h0 : s = 0) : Calls Try.prog 75 #[.agg #[.int .i64 f, .int .i64 t, .int .i64 a, .int .i64 s, .int .i64 k, .int .i64 o, .int .i64 n, .int .i64 u, .int .i64 v]] w fun e w' => (∃ b, e = .returned (.bool b) ∧ ((k = 0 ∧ o = 0 ∧ n = 0 ∧ u = 0 ∧ v = 0) ↔ b = true)) ∧ Below w.heap.size w w' := by
  have c0 : (s == 0) = true := by simpa using h0
  clear h0
  go_enter Try.func75, Try.ntmps75
  go_wp2
  all_goals
    go_ret
    refine ⟨⟨_, rfl, ?_⟩, (Below.refl _ w).alloc (Nat.le_refl _) _⟩
    simp
    try omega
theorem carries_m (f t a s k o n u v : Int) (w : World) (h0 : s ≠ 0) (r : Bool)
    (HV : Hid (∀ w, Calls Try.prog 73 #[.agg #[.int .i64 k, .int .i64 o, .int .i64 n, .int .i64 u, .int .i64 v]] w fun e w' => e = .returned (.bool r) ∧ Below w.heap.size w w')) :
    Calls Try.prog 75 #[.agg #[.int .i64 f, .int .i64 t, .int .i64 a, .int .i64 s, .int .i64 k, .int .i64 o, .int .i64 n, .int .i64 u, .int .i64 v]] w fun e w' => e = .returned (.bool r) ∧ Below w.heap.size w w' := by
  have c0 : (s == 0) = false := by simpa using h0
  clear h0
  go_enter Try.func75, Try.ntmps75
  go_wp2_with fail
  refine (HV.out _).mono ?_
  rintro e w2 ⟨rfl, hb2⟩
  go_wp2
  go_ret
  exact ⟨rfl, ((Below.refl _ w).alloc (Nat.le_refl _) _).trans (hb2.mono (by simp))⟩
set_option maxHeartbeats 4000000 in
theorem validG : ValidG := by
  intro g w hg
  obtain ⟨f, t, a, s, ⟨k, o, n, u, v⟩⟩ := g
  obtain ⟨⟨if_, jf⟩, ⟨it, jt⟩, ⟨ia, ja⟩, ⟨is_, js⟩, im⟩ := hg
  have HV := Lib.hid (fun w => validC _ w im)
  have HIm := Lib.hid im
  obtain ⟨⟨ik, jk⟩, ⟨io, jo⟩, ⟨in_, jn⟩, ⟨iu, ju⟩, ⟨iv, jv⟩⟩ := im
  simp only at if_ jf it jt ia ja is_ js ik jk io jo in_ jn iu ju iv jv
  have If := Lib.hid (And.intro if_ jf)
  have It := Lib.hid (And.intro it jt)
  have Ia := Lib.hid (And.intro ia ja)
  have Is := Lib.hid (And.intro is_ js)
  obtain ⟨r, hr⟩ : ∃ r, r = decide (Gm.Be ⟨f, t, a, s, ⟨k, o, n, u, v⟩⟩) := ⟨_, rfl⟩
  rw [← hr]
  have HR := Lib.hid hr
  clear hr
  unfold Mg.val at HV
  unfold Gm.val
  simp only at HV ⊢
  have HF : Hid ((f < 0 ∨ 31 < f ∨ t < 0 ∨ 31 < t ∨ f = t ∨ a < 0 ∨ 1099511627776 < a ∨ s < 0 ∨ 1099511627776 < s) → r = false) := Lib.hid (fun h => by
    rw [HR.out]
    refine decide_eq_false (fun hb => ?_)
    obtain ⟨g1, g2, g3, g4, g5, g6, g7, g8, g9, _⟩ := hb
    simp only at g1 g2 g3 g4 g5 g6 g7 g8 g9
    omega)
  rcases gbe_ways f t a s with h | ⟨h1, h2, h3, h4, h5, h6, h7, h8, h9⟩
  · obtain rfl := HF.out h
    clear HV HF HR
    by_cases hft : f = t
    · have b5 : (f != t) = false := by simp [hft]
      go_enter Try.func56, Try.ntmps56
      go_wp2
      go_ret
      exact ⟨rfl, (Below.refl _ w).alloc (Nat.le_refl _) _⟩
    have b5 : (f != t) = true := by simp [hft]
    by_cases hf : 0 ≤ f ∧ f ≤ 31
    case neg =>
      have hbf : f < 0 ∨ 31 < f := by omega
      clear h hft
      go_enter Try.func56, Try.ntmps56
      go_wp2_with fail
      refine (within_f _ If.out hbf).mono ?_
      rintro e w2 ⟨rfl, rfl⟩
      go_wp2
      go_ret
      exact ⟨rfl, (Below.refl _ w).alloc (Nat.le_refl _) _⟩
    by_cases ht : 0 ≤ t ∧ t ≤ 31
    case neg =>
      have hbt : t < 0 ∨ 31 < t := by omega
      clear h hft
      go_enter Try.func56, Try.ntmps56
      go_wp2_with fail
      refine (within_t _ If.out hf.1 hf.2).mono ?_
      rintro e w2 ⟨rfl, rfl⟩
      go_wp2_with fail
      refine (within_f _ It.out hbt).mono ?_
      rintro e w2 ⟨rfl, rfl⟩
      go_wp2
      go_ret
      exact ⟨rfl, (Below.refl _ w).alloc (Nat.le_refl _) _⟩
    by_cases ha : 0 ≤ a ∧ a ≤ 1099511627776
    case neg =>
      have hba : a < 0 ∨ 1099511627776 < a := by omega
      clear h hft
      go_enter Try.func56, Try.ntmps56
      go_wp2_with fail
      refine (within_t _ If.out hf.1 hf.2).mono ?_
      rintro e w2 ⟨rfl, rfl⟩
      go_wp2_with fail
      refine (within_t _ It.out ht.1 ht.2).mono ?_
      rintro e w2 ⟨rfl, rfl⟩
      go_wp2_with fail
      refine (within_f _ Ia.out hba).mono ?_
      rintro e w2 ⟨rfl, rfl⟩
      go_wp2
      go_ret
      exact ⟨rfl, (Below.refl _ w).alloc (Nat.le_refl _) _⟩
    by_cases hs : 0 ≤ s ∧ s ≤ 1099511627776
    case neg =>
      have hbs : s < 0 ∨ 1099511627776 < s := by omega
      clear h hft
      go_enter Try.func56, Try.ntmps56
      go_wp2_with fail
      refine (within_t _ If.out hf.1 hf.2).mono ?_
      rintro e w2 ⟨rfl, rfl⟩
      go_wp2_with fail
      refine (within_t _ It.out ht.1 ht.2).mono ?_
      rintro e w2 ⟨rfl, rfl⟩
      go_wp2_with fail
      refine (within_t _ Ia.out ha.1 ha.2).mono ?_
      rintro e w2 ⟨rfl, rfl⟩
      go_wp2_with fail
      refine (within_f _ Is.out hbs).mono ?_
      rintro e w2 ⟨rfl, rfl⟩
      go_wp2
      go_ret
      exact ⟨rfl, (Below.refl _ w).alloc (Nat.le_refl _) _⟩
    exact absurd h (by omega)
  · have b1 : decide (0 ≤ f) = true := by simp; omega
    have b2 : decide (f ≤ 31) = true := by simp; omega
    have b3 : decide (0 ≤ t) = true := by simp; omega
    have b4 : decide (t ≤ 31) = true := by simp; omega
    have b5 : (f != t) = true := by simp; omega
    have b6 : decide (0 ≤ a) = true := by simp; omega
    have b7 : decide (a ≤ 1099511627776) = true := by simp; omega
    have b8 : decide (0 ≤ s) = true := by simp; omega
    have b9 : decide (s ≤ 1099511627776) = true := by simp; omega
    by_cases h0 : s = 0
    case pos =>
      have c0 : (s == 0) = true := by simpa using h0
      have HS := Lib.hid h0
      have HA : Hid ((k = 0 ∧ o = 0 ∧ n = 0 ∧ u = 0 ∧ v = 0) ↔ r = true) := Lib.hid (by
        rw [HR.out]
        have hs0 := HS.out
        constructor
        · rintro ⟨rfl, rfl, rfl, rfl, rfl⟩
          exact decide_eq_true ⟨h1, h2, h3, h4, h5, h6, h7, h8, h9, fun _ => rfl, fun h => absurd hs0 h⟩
        · intro hd
          have hb := of_decide_eq_true hd
          have hm := hb.2.2.2.2.2.2.2.2.2.1 hs0
          simp only [Mg.zero, Mg.mk.injEq] at hm
          exact hm)
      clear h0
      go_enter Try.func56, Try.ntmps56
      go_wp2_with fail
      refine (within_t _ If.out (by omega) (by omega)).mono ?_
      rintro e w2 ⟨rfl, rfl⟩
      go_wp2_with fail
      refine (within_t _ It.out (by omega) (by omega)).mono ?_
      rintro e w2 ⟨rfl, rfl⟩
      go_wp2_with fail
      refine (within_t _ Ia.out (by omega) (by omega)).mono ?_
      rintro e w2 ⟨rfl, rfl⟩
      go_wp2_with fail
      refine (within_t _ Is.out (by omega) (by omega)).mono ?_
      rintro e w2 ⟨rfl, rfl⟩
      go_wp2_with fail
      refine (carries_z f t a s k o n u v _ HS.out).mono ?_
      rintro e w2 ⟨⟨b, rfl, hb⟩, hb2⟩
      obtain rfl : r = b := Bool.eq_iff_iff.2 (HA.out.symm.trans hb)
      clear hb
      go_wp2
      go_ret
      exact ⟨rfl, ((Below.refl _ w).alloc (Nat.le_refl _) _).trans (hb2.mono (by simp))⟩
    case neg =>
      have c0 : (s == 0) = false := by simpa using h0
      have hd : decide (Mg.Be ⟨k, o, n, u, v⟩) = r := by
        rw [HR.out]
        refine decide_eq_decide.2 ⟨fun hm => ⟨h1, h2, h3, h4, h5, h6, h7, h8, h9, fun h => absurd h h0, fun _ => hm⟩, fun hb => hb.2.2.2.2.2.2.2.2.2.2 h0⟩
      rw [hd] at HV
      have H0 := Lib.hid h0
      clear hd h0
      go_enter Try.func56, Try.ntmps56
      go_wp2_with fail
      refine (within_t _ If.out (by omega) (by omega)).mono ?_
      rintro e w2 ⟨rfl, rfl⟩
      go_wp2_with fail
      refine (within_t _ It.out (by omega) (by omega)).mono ?_
      rintro e w2 ⟨rfl, rfl⟩
      go_wp2_with fail
      refine (within_t _ Ia.out (by omega) (by omega)).mono ?_
      rintro e w2 ⟨rfl, rfl⟩
      go_wp2_with fail
      refine (within_t _ Is.out (by omega) (by omega)).mono ?_
      rintro e w2 ⟨rfl, rfl⟩
      go_wp2_with fail
      refine (carries_m f t a s k o n u v _ H0.out r HV).mono ?_
      rintro e w2 ⟨rfl, hb2⟩
      go_wp2
      go_ret
      exact ⟨rfl, ((Below.refl _ w).alloc (Nat.le_refl _) _).trans (hb2.mono (by simp))⟩
end Go.Proofs.Ytiaafhcfeeekeaa.Pk
