/- The contract of crc.Add: the sum goes on with the bytes; the world is left alone. -/
import Derived.Test.YtnpmccekkjadhaaDoorZMem
import Derived.Test.YtnpmccekkjadhaaDoorZMath
import Derived.Test.YtnpmccekkjadhaaDoorProg
import Derived.LoopTactic
import Derived.Outline
import Derived.Lib.Hide
import Derived.Laws.BitsAllLaws
import Derived.Lib.SlBytesConst
import Derived.BigQuiet
import Derived.BigRegion
import Derived.Deep.RegionHeld3
import Derived.Deep.DeepMust
import Derived.Deep.RegionLaw
import Derived.Deep.RegionLawGrows
namespace Go.Proofs.YtnpmccekkjadhaaDoor.Pk
open Go.RowKit Go.Proofs.YtnpmccekkjadhaaDoor.Crc
set_option linter.unusedVariables false

/-- The table lies in its block. -/
def Tab (w : World) : Prop := ∀ i, i < 16 → w.cell? ⟨0, i, none⟩ = some (.int .u32 (tabN i : Int))
theorem Tab.below {w w' : World} (h : Tab w) {B : Nat} (hb : Below B w w') (hB : 0 < B) : Tab w' := fun i hi => (hb.cell (p := ⟨0, i, none⟩) hB).trans (h i hi)

theorem x32 (a b : Nat) (ha : a < 4294967296) (hb : b < 4294967296) : bits .xor .u32 (a : Int) (b : Int) = ((a ^^^ b : Nat) : Int) := u32_xor_nat a b ha hb
theorem x32c (a : Nat) (c : Int) (ha : a < 4294967296) (hc : 0 ≤ c ∧ c ≤ 255) : bits .xor .u32 (a : Int) c = ((a ^^^ c.toNat : Nat) : Int) := by
  obtain ⟨C, rfl⟩ := Int.eq_ofNat_of_zero_le hc.1
  simpa using u32_xor_nat a C ha (by omega)
theorem xinv (a : Nat) (ha : a < 4294967296) : bits .xor .u32 IntKind.u32.max (a : Int) = (inv a : Int) := by
  rw [show IntKind.u32.max = ((4294967295 : Nat) : Int) from rfl, inv_eq]
  exact u32_xor_nat 4294967295 a (by omega) ha

theorem bytes_getD {l : List Int} (h : Bytes l) (k : Nat) : 0 ≤ l.getD k 0 ∧ l.getD k 0 ≤ 255 := by
  rw [List.getD_eq_getElem?_getD]
  rcases e : l[k]? with _ | x
  · simp
  · exact h x (List.mem_of_getElem? e)
theorem take_snoc {l : List Int} {k : Nat} (h : k < l.length) : l.take (k + 1) = l.take k ++ [l.getD k 0] := by
  rw [List.take_succ_eq_append_getElem h, List.getD_eq_getElem?_getD, List.getElem?_eq_getElem h]; rfl
/-- Four shifts by the table. -/
theorem nib {w : World} (hT : Tab w) {q : Nat} (hq : q < 4294967296) : ∃ d t v q' : Nat, d < 268435456 ∧ t < 16 ∧ v < 4294967296 ∧ (q : Int) / 16 = (d : Int) ∧ (q : Int).tmod 16 = (t : Int) ∧ (q : Int) % 16 = (t : Int) ∧
    bits .xor .u32 (d : Int) (v : Int) = (q' : Int) ∧ w.cell? ⟨0, t, none⟩ = some (.int .u32 (v : Int)) ∧ q' < 4294967296 ∧ q' = sh4 q := by
  have ht := tabN_small (q % 16) (by omega)
  refine ⟨q / 16, q % 16, tabN (q % 16), sh4 q, by omega, by omega, ht.2.1, by omega, ?_, by omega, ?_, hT _ (by omega), sh4_lt hq, rfl⟩
  · rw [Int.tmod_eq_emod_of_nonneg (by omega)]; omega
  · rw [x32 _ _ (by omega) ht.2.1, nib_eq]

set_option maxHeartbeats 800000 in
theorem add_any (A : Option Addr) (n c s : Nat) (l : List Int) (w : World) (B : Nat) (hl : Reads w B 1 A n (bts l)) (hn : n ≤ 9223372036854775807) (hby : Bytes l) (hs : s < 4294967296) (htab : Tab w) :
    Calls Tryd.prog 64 #[.int .u32 (s : Int), .slice A n c] w fun e w' => e = .returned (.int .u32 (crc s l : Nat)) ∧ w = w' := by
  have HL : Hid (l.length = n) := by have := hl.1; simp at this; exact this
  have RL := Lib.hid hl
  have HB := Lib.hid hby
  have HT := Lib.hid htab
  have hi := inv_lt hs
  have HI : Hid (bits .xor .u32 IntKind.u32.max (s : Int) = (inv s : Int)) := xinv s hs
  obtain ⟨si, hsi⟩ : ∃ x, x = inv s := ⟨_, rfl⟩
  rw [← hsi] at hi
  have HS := Lib.hid hsi
  have e0 : bits .xor .u32 IntKind.u32.max (s : Int) = (si : Int) := by rw [HI.out, hsi]
  clear hl hby htab hsi
  go_enter Tryd.func64, Tryd.ntmps64
  go_wp2
  clear e0
  go_loop [5, 7, 12] (fun r x i => ∃ k : Nat, i = .int .i64 k ∧ k ≤ n ∧ r = .int .u32 ((run si (l.take k) : Nat) : Int)) (fun _ _ i => n - (intOf i).toNat)
  case atStart => exact ⟨0, rfl, by omega, rfl⟩
  case round =>
    obtain ⟨k, rfl, hk, rfl⟩ := hrel
    have hr : run si (l.take k) < 4294967296 := run_lt (HB.out.take k) hi
    obtain ⟨r, hrr⟩ : ∃ x, x = run si (l.take k) := ⟨_, rfl⟩
    rw [← hrr] at hr ⊢
    have HR := Lib.hid hrr
    clear hrr
    by_cases hlt : k < n
    · obtain ⟨b, off, rfl, hbb, hc⟩ := RL.out.u8 (by omega)
      have hx := hc k hlt
      clear hc
      have hyb : 0 ≤ l.getD k 0 ∧ l.getD k 0 ≤ 255 := bytes_getD HB.out k
      obtain ⟨y, hyy⟩ : ∃ y, y = l.getD k 0 := ⟨_, rfl⟩
      rw [← hyy] at hx hyb
      have HY := Lib.hid hyy
      clear hyy
      obtain ⟨y0, y1⟩ := hyb
      obtain ⟨q0, h0, hq0⟩ : ∃ q, q < 4294967296 ∧ q = r ^^^ y.toNat := ⟨_, xor_lt hr (by omega), rfl⟩
      have e1 : bits .xor .u32 (r : Int) y = (q0 : Int) := by rw [hq0]; exact x32c r y hr ⟨y0, y1⟩
      obtain ⟨d0, t0, v0, q1, hd0, ht0, hv0, e2, e3, e4, e5, c0, h1, hq1⟩ := nib HT.out h0
      obtain ⟨d1, t1, v1, q2, hd1, ht1, hv1, e6, e7, e8, e9, c1, h2, hq2⟩ := nib HT.out h1
      have HQ : Hid (q2 = sh8 (r ^^^ y.toNat)) := by rw [hq2, hq1, hq0]; rfl
      clear hq2 hq1 hq0
      go_wp2
      go_round
      case rel => exact ⟨k + 1, by go_num, by omega, by rw [HQ.out, HR.out, HY.out, take_snoc (by rw [HL.out]; exact hlt), run_snoc]⟩
      case measure => simp [intOf]; omega
    · have ei : bits .xor .u32 IntKind.u32.max (r : Int) = (inv r : Int) := xinv r hr
      have HE : Hid (inv r = crc s l) := by
        rw [HR.out, HS.out, List.take_of_length_le (by rw [HL.out]; omega)]; rfl
      go_wp2
      go_ret
      exact ⟨by rw [← HE.out]; rfl, rfl⟩
end Go.Proofs.YtnpmccekkjadhaaDoor.Pk

/- The contract of the document's own answer: bit by bit it is the same sum. -/
namespace Go.Proofs.YtnpmccekkjadhaaDoor.Pk
open Go.RowKit Go.Proofs.YtnpmccekkjadhaaDoor.Crc
set_option linter.unusedVariables false

def shN : Nat → Nat → Nat
  | 0, r => r
  | k + 1, r => sh (shN k r)
theorem shN8 (r : Nat) : shN 8 r = sh8 r := rfl
theorem shN_lt (k : Nat) {r : Nat} (h : r < 4294967296) : shN k r < 4294967296 := by
  induction k with
  | zero => exact h
  | succ k ih => exact sh_lt ih
theorem bit_one {r : Nat} (hr : r < 4294967296) (h : r % 2 = 1) : bits .and .u32 (r : Int) 1 = 1 := by
  have := u32_and_nat r 1 hr (by omega)
  rw [Nat.and_one_is_mod, h] at this; exact this
theorem bit_none {r : Nat} (hr : r < 4294967296) (h : ¬ r % 2 = 1) : bits .and .u32 (r : Int) 1 = 0 := by
  have := u32_and_nat r 1 hr (by omega)
  rw [Nat.and_one_is_mod, show r % 2 = 0 by omega] at this; exact this
theorem sh_odd {r d : Nat} (hd : d = r / 2) (h : r % 2 = 1) (hr : r < 4294967296) : bits .xor .u32 (d : Int) 3988292384 = (sh r : Int) := by
  subst hd
  have := u32_xor_nat (r / 2) 3988292384 (by omega) (by omega)
  unfold sh
  rw [if_pos h]; exact this
theorem sh_evn {r d : Nat} (hd : d = r / 2) (h : ¬ r % 2 = 1) : d = sh r := by
  subst hd
  unfold sh
  rw [if_neg h, Nat.xor_zero]

set_option maxHeartbeats 1000000 in
theorem refAdd_any (A : Option Addr) (n c s : Nat) (l : List Int) (w : World) (B : Nat) (hl : Reads w B 1 A n (bts l)) (hn : n ≤ 9223372036854775807) (hby : Bytes l) (hs : s < 4294967296) :
    Calls Tryd.prog 68 #[.int .u32 (s : Int), .slice A n c] w fun e w' => e = .returned (.int .u32 (crc s l : Nat)) ∧ w = w' := by
  have HL : Hid (l.length = n) := by have := hl.1; simp at this; exact this
  have RL := Lib.hid hl
  have HB := Lib.hid hby
  have hi := inv_lt hs
  have HI : Hid (bits .xor .u32 IntKind.u32.max (s : Int) = (inv s : Int)) := xinv s hs
  obtain ⟨si, hsi⟩ : ∃ x, x = inv s := ⟨_, rfl⟩
  rw [← hsi] at hi
  have HS := Lib.hid hsi
  have e0 : bits .xor .u32 IntKind.u32.max (s : Int) = (si : Int) := by rw [HI.out, hsi]
  clear hl hby hsi
  go_enter Tryd.func68, Tryd.ntmps68
  go_wp2
  clear e0
  go_loop [5, 6, 7, 8] (fun r i _ _ => ∃ k : Nat, i = .int .i64 k ∧ k ≤ n ∧ r = .int .u32 ((run si (l.take k) : Nat) : Int)) (fun _ i _ _ => n - (intOf i).toNat)
  case atStart => exact ⟨0, rfl, by omega, rfl⟩
  case round =>
    obtain ⟨k, rfl, hk, rfl⟩ := hrel
    have hr : run si (l.take k) < 4294967296 := run_lt (HB.out.take k) hi
    obtain ⟨r, hrr⟩ : ∃ x, x = run si (l.take k) := ⟨_, rfl⟩
    rw [← hrr] at hr ⊢
    have HR := Lib.hid hrr
    clear hrr
    by_cases hlt : k < n
    · obtain ⟨b, off, rfl, hbb, hc⟩ := RL.out.u8 (by omega)
      have hx := hc k hlt
      clear hc
      have hyb : 0 ≤ l.getD k 0 ∧ l.getD k 0 ≤ 255 := bytes_getD HB.out k
      obtain ⟨y, hyy⟩ : ∃ y, y = l.getD k 0 := ⟨_, rfl⟩
      rw [← hyy] at hx hyb
      have HY := Lib.hid hyy
      clear hyy
      obtain ⟨y0, y1⟩ := hyb
      obtain ⟨q0, h0, hq0⟩ : ∃ q, q < 4294967296 ∧ q = r ^^^ y.toNat := ⟨_, xor_lt hr (by omega), rfl⟩
      have e1 : bits .xor .u32 (r : Int) y = (q0 : Int) := by rw [hq0]; exact x32c r y hr ⟨y0, y1⟩
      have HQ := Lib.hid hq0
      clear hq0
      go_wp2
      clear e1
      go_loop [5, 7, 8] (fun r i _ => ∃ j : Nat, i = .int .i64 j ∧ j ≤ 8 ∧ r = .int .u32 ((shN j q0 : Nat) : Int)) (fun _ i _ => 8 - (intOf i).toNat)
      case atStart => exact ⟨0, rfl, by omega, rfl⟩
      case round =>
        obtain ⟨j, rfl, hj, rfl⟩ := hrel
        have hz : shN j q0 < 4294967296 := shN_lt j h0
        obtain ⟨z, hzz⟩ : ∃ x, x = shN j q0 := ⟨_, rfl⟩
        rw [← hzz] at hz ⊢
        have HZ := Lib.hid hzz
        clear hzz
        obtain ⟨d, hd⟩ : ∃ d, d = z / 2 := ⟨_, rfl⟩
        have ed : (z : Int) / 2 = (d : Int) := by omega
        have HD := Lib.hid hd
        clear hd
        by_cases hj8 : j < 8
        · by_cases hodd : z % 2 = 1
          · have e2 := bit_one hz hodd
            have e3 := sh_odd HD.out hodd hz
            clear hodd
            go_wp2
            go_round
            case rel => exact ⟨j + 1, by go_num, by omega, by rw [HZ.out]; rfl⟩
            case measure => simp [intOf]; omega
          · have e2 := bit_none hz hodd
            have HE := Lib.hid (sh_evn HD.out hodd)
            clear hodd
            go_wp2
            go_round
            case rel => exact ⟨j + 1, by go_num, by omega, by rw [HE.out, HZ.out]; rfl⟩
            case measure => simp [intOf]; omega
        · obtain rfl : 8 = j := by omega
          go_wp2
          go_round
          case rel => exact ⟨k + 1, by go_num, by omega, by rw [HZ.out, shN8, HQ.out, HR.out, HY.out, take_snoc (by rw [HL.out]; exact hlt), run_snoc]⟩
          case measure => simp [intOf]; omega
    · have ei : bits .xor .u32 IntKind.u32.max (r : Int) = (inv r : Int) := xinv r hr
      have HE : Hid (inv r = crc s l) := by
        rw [HR.out, HS.out, List.take_of_length_le (by rw [HL.out]; omega)]; rfl
      go_wp2
      go_ret
      exact ⟨by rw [← HE.out]; rfl, rfl⟩

set_option maxHeartbeats 400000 in
theorem refSum_any (A : Option Addr) (n c : Nat) (l : List Int) (w : World) (B : Nat) (hl : Reads w B 1 A n (bts l)) (hn : n ≤ 9223372036854775807) (hby : Bytes l) :
    Calls Tryd.prog 57 #[.slice A n c] w fun e w' => e = .returned (.int .u32 (crc 0 l : Nat)) ∧ w = w' := by
  have HC : Hid (Calls Tryd.prog 68 #[.int .u32 0, .slice A n c] w fun e w' => e = .returned (.int .u32 (crc 0 l : Nat)) ∧ w = w') := refAdd_any A n c 0 l w B hl hn hby (by omega)
  clear hl hby
  go_enter Tryd.func57, Tryd.ntmps57
  go_wp2_with (go_at_call 68; refine HC.out.mono ?_; rintro e w' ⟨rfl, rfl⟩)
  go_ret
  exact ⟨rfl, rfl⟩
end Go.Proofs.YtnpmccekkjadhaaDoor.Pk

/- The table stays; a row with a mark behind it. -/
namespace Go.Proofs.YtnpmccekkjadhaaDoor.Pk
open Go.RowKit Go.Proofs.YtnpmccekkjadhaaDoor.Crc
set_option linter.unusedVariables false

theorem lt_heap0 {w : World} {a : Addr} {u : Value} (h : w.cell? a = some u) : a.block < w.heap.size := by
  rcases Nat.lt_or_ge a.block w.heap.size with h1 | h1
  · exact h1
  · unfold World.cell? at h
    rw [Array.getElem?_eq_none h1] at h
    simp at h
theorem Tab.pos {w : World} (h : Tab w) : 0 < w.heap.size := lt_heap0 (h 0 (by omega))
theorem Tab.next {w w' : World} (h : Tab w) (hb : Below w.heap.size w w') : Tab w' := h.below hb h.pos
theorem Tab.alloc {w : World} (h : Tab w) (o : Obj) : Tab (w.alloc o) := h.next ((Below.refl _ _).alloc (Nat.le_refl _) _)
theorem Tab.drewN {w : World} (h : Tab w) (n : Nat) : Tab (w.drewN n) := h


end Go.Proofs.YtnpmccekkjadhaaDoor.Pk

/- The contract of crc.Parts: the sum of all lists, one behind the other. -/
namespace Go.Proofs.YtnpmccekkjadhaaDoor.Pk
open Go.RowKit Go.Proofs.YtnpmccekkjadhaaDoor.Crc
set_option linter.unusedVariables false

/-- A slice of bytes, with the bytes that it reads as. -/
structure Piece where
  a : Option Addr
  n : Nat
  c : Nat
  l : List Int
def Piece.val (p : Piece) : Value := .slice p.a p.n p.c
/-- A piece reads as its bytes. -/
def Piece.Ok (w : World) (B : Nat) (p : Piece) : Prop := Reads w B 1 p.a p.n (bts p.l) ∧ p.n ≤ p.c ∧ p.n ≤ 9223372036854775807 ∧ Bytes p.l
/-- A slice of slices of bytes. -/
def Lists (w : World) (B : Nat) (A : Option Addr) (n : Nat) (ps : List Piece) : Prop := Reads w B 1 A n (ps.map Piece.val) ∧ ∀ p ∈ ps, p.Ok w B
def Piece.bytes (ps : List Piece) : List (List Int) := ps.map (·.l)

theorem Lists.length {w : World} {B : Nat} {A : Option Addr} {n : Nat} {ps : List Piece} (h : Lists w B A n ps) : ps.length = n := by
  have := h.1.1; simpa using this
theorem Lists.keep {w w' : World} {B : Nat} {A : Option Addr} {n : Nat} {ps : List Piece} (h : Lists w B A n ps) (hk : ∀ p : Addr, p.block < B → w'.cell? p = w.cell? p) : Lists w' B A n ps :=
  ⟨h.1.keep hk, fun p hp => ⟨(h.2 p hp).1.keep hk, (h.2 p hp).2⟩⟩
theorem Lists.below {w w' : World} {B : Nat} {A : Option Addr} {n : Nat} {ps : List Piece} (h : Lists w B A n ps) (hb : Below B w w') : Lists w' B A n ps := h.keep fun _ hp => hb.cell hp
/-- What stands at a place of the list. -/
theorem Lists.at_ {w : World} {B : Nat} {A : Option Addr} {n k : Nat} {ps : List Piece} (h : Lists w B A n ps) (hk : k < n) :
    ∃ b off p, A = some ⟨b, off, none⟩ ∧ ps[k]? = some p ∧ p.Ok w B ∧ w.cell? ⟨b, off + k, none⟩ = some (.slice p.a p.n p.c) ∧ (Piece.bytes (ps.take (k + 1))) = Piece.bytes (ps.take k) ++ [p.l] := by
  obtain ⟨b, off, e, _, hc⟩ := h.1.flat (by omega)
  have hl := h.length
  have hg : ps[k]? = some ps[k] := List.getElem?_eq_getElem (by omega)
  refine ⟨b, off, ps[k], e, hg, h.2 _ (List.getElem_mem _), hc k _ (by rw [List.getElem?_map, hg]; rfl), ?_⟩
  rw [List.take_succ_eq_append_getElem (by omega)]
  unfold Piece.bytes
  rw [List.map_append]; rfl
theorem Lists.bytes {w : World} {B : Nat} {A : Option Addr} {n : Nat} {ps : List Piece} (h : Lists w B A n ps) (k : Nat) : ∀ l ∈ Piece.bytes (ps.take k), Bytes l := by
  intro l hl
  obtain ⟨p, hp, rfl⟩ := List.mem_map.1 hl
  exact (h.2 p (List.mem_of_mem_take hp)).2.2.2

set_option maxHeartbeats 800000 in
theorem parts_any (A : Option Addr) (n c : Nat) (ps : List Piece) (w : World) (B : Nat) (hl : Lists w B A n ps) (hn : n ≤ 9223372036854775807) (htab : Tab w) :
    Calls Tryd.prog 52 #[.slice A n c] w fun e w' => e = .returned (.int .u32 (sums 0 (Piece.bytes ps) : Nat)) ∧ w = w' := by
  have RL := Lib.hid hl
  have HT := Lib.hid htab
  clear hl htab
  go_enter Tryd.func52, Tryd.ntmps52
  go_wp2
  go_loop [3, 5, 8] (fun s x i => ∃ k : Nat, i = .int .i64 k ∧ k ≤ n ∧ s = .int .u32 ((sums 0 (Piece.bytes (ps.take k)) : Nat) : Int)) (fun _ _ i => n - (intOf i).toNat)
  case atStart => exact ⟨0, rfl, by omega, rfl⟩
  case round =>
    obtain ⟨k, rfl, hk, rfl⟩ := hrel
    have hr : sums 0 (Piece.bytes (ps.take k)) < 4294967296 := sums_lt (RL.out.bytes k) (by omega)
    obtain ⟨r, hrr⟩ : ∃ x, x = sums 0 (Piece.bytes (ps.take k)) := ⟨_, rfl⟩
    rw [← hrr] at hr ⊢
    have HR := Lib.hid hrr
    clear hrr
    by_cases hlt : k < n
    · obtain ⟨b, off, p, rfl, -, hok, hx, hnext⟩ := RL.out.at_ hlt
      have HN := Lib.hid hnext
      have HO := Lib.hid hok
      clear hnext hok
      go_wp2_with (go_at_call 64; refine (add_any p.a p.n p.c r p.l w B HO.out.1 HO.out.2.2.1 HO.out.2.2.2 hr HT.out).mono ?_; rintro e w' ⟨rfl, rfl⟩)
      go_round
      case rel => exact ⟨k + 1, by go_num, by omega, by rw [HN.out, sums_snoc, ← HR.out]⟩
      case measure => simp [intOf]; omega
    · have HE : Hid (ps.take k = ps) := Lib.hid (List.take_of_length_le (by rw [RL.out.length]; omega))
      have HF : Hid (r = sums 0 (Piece.bytes ps)) := by rw [HR.out, HE.out]; exact Lib.hid rfl
      go_wp2
      go_ret
      exact ⟨by rw [← HF.out]; rfl, rfl⟩
end Go.Proofs.YtnpmccekkjadhaaDoor.Pk

/- The document's frames: four, Encode. -/
namespace Go.Proofs.YtnpmccekkjadhaaDoor.Pk
open Go.RowKit Go.Proofs.YtnpmccekkjadhaaDoor.Crc Go.Proofs.YtnpmccekkjadhaaDoor.Fr
set_option linter.unusedVariables false


set_option maxHeartbeats 800000 in
theorem four_any (x : Nat) (hx : x < 4294967296) (w : World) :
    Calls Tryd.prog 56 #[.int .u32 (x : Int)] w fun e w' => e = .returned (.slice (some ⟨w.heap.size, 0, none⟩) 4 4) ∧ OwnB w' w.heap.size (.slice (some ⟨w.heap.size, 0, none⟩) 4 4) (le4 x) ∧ Below w.heap.size w w' := by
  go_enter Tryd.func56, Tryd.ntmps56
  go_wp2
  go_ret
  refine ⟨rfl, OwnB.lit (l := le4 x) ?_ (Nat.le_refl _) (by simp), (Below.refl _ _).alloc (Nat.le_refl _) _⟩
  show [Value.int .u8 _, Value.int .u8 _, Value.int .u8 _, Value.int .u8 _] = [Value.int .u8 _, Value.int .u8 _, Value.int .u8 _, Value.int .u8 _]
  congr 1
  congr 1
  congr 1
  congr 1
  congr 1
  omega

/-- What an Encode answers. -/
def EncP (p : List Int) (w : World) (e : Ending) (w' : World) : Prop :=
  Below w.heap.size w w' ∧ ((p.length ≤ 1048576 ∧ ∃ A n c, e = .returned (.tuple #[.slice A n c, .int .i64 0]) ∧ OwnB w' w.heap.size (.slice A n c) (enc p)) ∨ (1048576 < p.length ∧ e = .returned (.tuple #[.slice none 0 0, .int .i64 3])))

set_option maxHeartbeats 1600000 in
theorem refEnc_any (A : Option Addr) (n c : Nat) (p : List Int) (w : World) (hr : Reads w w.heap.size 1 A n (bts p)) (hby : Bytes p) (hn : n ≤ 9223372036854775807) :
    Calls Tryd.prog 34 #[.slice A n c] w (EncP p w) := by
  have HL : Hid (p.length = n) := Lib.hid (by have := hr.1; simpa using this)
  have HR := Lib.hid hr
  have HB := Lib.hid hby
  clear hr hby
  by_cases hlong : 1048576 < n
  · go_enter Tryd.func34, Tryd.ntmps34
    go_wp2
    go_ret2
    exact ⟨Below.refl _ _, .inr ⟨by rw [HL.out]; exact hlong, rfl⟩⟩
  · have hn2 : n ≤ 1048576 := by omega
    go_enter Tryd.func34, Tryd.ntmps34
    go_wp2_with fail
    refine (four_any n (by omega) w).mono ?_
    rintro e w1 ⟨rfl, ho1, hb1⟩
    have HO1 := Lib.hid ho1
    have HB1 := Lib.hid hb1
    have HR1 := Lib.hid ((HR.out.below hb1).more hb1.size)
    have HE : Hid (le4 n ++ p = le4 p.length ++ p) := Lib.hid (by rw [HL.out])
    have HS : Hid (crc 0 (le4 n ++ p) = fsum p) := Lib.hid (by unfold fsum; rw [HL.out])
    have hs4 : fsum p < 4294967296 := fsum_lt HB.out
    obtain ⟨s, hs⟩ : ∃ s, s = fsum p := ⟨_, rfl⟩
    rw [← hs] at hs4 HS
    have HSf := Lib.hid hs
    clear ho1 hb1 hs
    go_wp2_with (first
      | (at_builtin; refine appE w1 rfl (.tmp 13) (.tmp 14) rfl w1.heap.size rfl w1.heap.size _ 4 (le4 n) 4 rfl (own_reads HO1.out) (Nat.le_refl _) (by omega) (Nat.le_refl _) ?_; intro v2 w2 hown2 hb2; obtain ⟨A2, n2, c2, rfl⟩ := own_slice hown2; have HO2 := Lib.hid hown2; have HB2 := Lib.hid hb2; clear hown2 hb2)
      | (at_builtin; refine appB w2 rfl (.tmp 15) (.tmp 16) rfl w1.heap.size _ (le4 n) rfl HO2.out w1.heap.size A c p n rfl (HR1.out.below HB2.out) (by simp; omega) HB2.out.size ?_; intro v3 w3 hown3 hb3 _ _; obtain ⟨A3, n3, c3, rfl⟩ := own_slice hown3; have hl3 := own_len hown3; have HO3 := Lib.hid hown3; have HB3 := Lib.hid (HB2.out.trans hb3); clear hown3 hb3)
      | (go_at_call 57; refine (refSum_any A3 n3 c3 (le4 n ++ p) w3 w3.heap.size (own_reads HO3.out) (by have h1 := hl3.1; have h2 := HL.out; simp at h1; omega) ((le4_bytes n).app HB.out)).mono ?_; rw [HS.out]; rintro e w4 ⟨rfl, hw⟩; rw [← hw]; clear hw w4)
      | (go_at_call 56; refine (four_any s hs4 w3).mono ?_; rintro e w5 ⟨rfl, ho5, hb5⟩; have HO5 := Lib.hid ho5; have HB5 := Lib.hid (HB3.out.trans (hb5.mono HB3.out.size)); have HR5 := Lib.hid ((HR1.out.below HB5.out).more HB5.out.size); have HQ5 : Hid (Reads w5 w5.heap.size 1 _ 4 (bts (le4 n))) := Lib.hid (((own_reads HO1.out).below HB5.out).more HB5.out.size); clear ho5 hb5)
      | (at_builtin; refine appE w5 rfl (.tmp 20) (.tmp 21) rfl w5.heap.size rfl w5.heap.size _ 4 (le4 n) 4 rfl HQ5.out (Nat.le_refl _) (by omega) (Nat.le_refl _) ?_; intro v6 w6 hown6 hb6; obtain ⟨A6, n6, c6, rfl⟩ := own_slice hown6; have HO6 := Lib.hid hown6; have HB6 := Lib.hid hb6; clear hown6 hb6)
      | (at_builtin; refine appB w6 rfl (.tmp 22) (.tmp 23) rfl w5.heap.size _ (le4 n) rfl HO6.out w5.heap.size _ 4 (le4 s) 4 rfl ((own_reads HO5.out).below HB6.out) (by simp) HB6.out.size ?_; intro v7 w7 hown7 hb7 _ _; obtain ⟨A7, n7, c7, rfl⟩ := own_slice hown7; have HO7 := Lib.hid hown7; have HB7 := Lib.hid (HB6.out.trans hb7); clear hown7 hb7)
      | (at_builtin; refine appB w7 rfl (.tmp 24) (.tmp 25) rfl w5.heap.size _ (le4 n ++ le4 s) rfl HO7.out w5.heap.size A c p n rfl (HR5.out.below HB7.out) (by simp; omega) HB7.out.size ?_; intro v8 w8 hown8 hb8 _ _; obtain ⟨A8, n8, c8, rfl⟩ := own_slice hown8; have HO8 := Lib.hid hown8; have HB8 := Lib.hid (HB7.out.trans hb8); clear hown8 hb8))
    go_ret2
    have hw5 : w.heap.size ≤ w5.heap.size := Nat.le_trans HB1.out.size HB5.out.size
    refine ⟨((HB1.out.trans (HB5.out.mono HB1.out.size)).trans (HB8.out.mono hw5)), .inl ⟨by rw [HL.out]; exact hn2, A8, n8, c8, rfl, ?_⟩⟩
    have e1 : le4 n ++ le4 s ++ p = enc p := by
      unfold enc
      rw [HL.out, HSf.out, List.append_assoc]
    rw [← e1]
    exact HO8.out.mono hw5
end Go.Proofs.YtnpmccekkjadhaaDoor.Pk

/- The document's frames: First. -/
namespace Go.Proofs.YtnpmccekkjadhaaDoor.Fr
set_option linter.unusedVariables false
/-- The number of the highest k of four bytes. -/
def hi4 (b : List Int) : Nat → Nat
  | 0 => 0
  | k + 1 => hi4 b k * 256 + (b.getD (3 - k) 0).toNat
theorem hi4_all (b : List Int) : hi4 b 4 = num4 b := by
  show (((0 * 256 + (b.getD 3 0).toNat) * 256 + (b.getD 2 0).toNat) * 256 + (b.getD 1 0).toNat) * 256 + (b.getD 0 0).toNat = num4 b
  unfold num4
  omega
theorem hi4_le {b : List Int} (h : ∀ x ∈ b, 0 ≤ x ∧ x ≤ 255) : ∀ k, k ≤ 4 → hi4 b k ≤ 4294967295 := by
  have hb : ∀ i, (b.getD i 0).toNat ≤ 255 := fun i => by
    rw [List.getD_eq_getElem?_getD]
    rcases e : b[i]? with _ | x
    · simp
    · have := h x (List.mem_of_getElem? e)
      simp; omega
  intro k hk
  have h0 := hb 0
  have h1 := hb 1
  have h2 := hb 2
  have h3 := hb 3
  have e0 : hi4 b 0 = 0 := rfl
  have e1 : hi4 b 1 = hi4 b 0 * 256 + (b.getD 3 0).toNat := rfl
  have e2 : hi4 b 2 = hi4 b 1 * 256 + (b.getD 2 0).toNat := rfl
  have e3 : hi4 b 3 = hi4 b 2 * 256 + (b.getD 1 0).toNat := rfl
  have e4 : hi4 b 4 = hi4 b 3 * 256 + (b.getD 0 0).toNat := rfl
  have : k = 0 ∨ k = 1 ∨ k = 2 ∨ k = 3 ∨ k = 4 := by omega
  rcases this with rfl | rfl | rfl | rfl | rfl <;> omega
theorem fst_short {b : List Int} (h : b.length < 8) : fst b = none := by unfold fst; rw [if_neg (fun hh => by omega)]
theorem fst_great {b : List Int} (h : 1048576 < num4 b ∨ b.length < num4 b + 8) : fst b = none := by unfold fst; rw [if_neg (fun hh => by omega)]
theorem fst_same {b : List Int} (h8 : 8 ≤ b.length) (h1 : num4 b ≤ 1048576) (h2 : num4 b + 8 ≤ b.length) (h : ∀ j, j < 8 → (enc ((b.drop 8).take (num4 b))).getD j 0 = b.getD j 0) : fst b = some ((b.drop 8).take (num4 b)) := by
  unfold fst
  refine if_pos ⟨h8, h1, h2, ?_⟩
  have hl : ((b.drop 8).take (num4 b)).length = num4 b := by rw [List.length_take, List.length_drop]; omega
  apply List.ext_getElem (by rw [List.length_take, enc_length, hl]; omega)
  intro i hi1 hi2
  rw [List.getElem_take]
  by_cases h8' : i < 8
  · have := h i h8'
    rw [List.getD_eq_getElem?_getD, List.getD_eq_getElem?_getD, List.getElem?_eq_getElem hi2, List.getElem?_eq_getElem (by omega)] at this
    exact this.symm
  · have e : (enc ((b.drop 8).take (num4 b))).drop 8 = (b.drop 8).take (num4 b) := enc_drop _
    have h3 : ((enc ((b.drop 8).take (num4 b))).drop 8)[i - 8]? = ((b.drop 8).take (num4 b))[i - 8]? := by rw [e]
    rw [List.getElem?_drop, show 8 + (i - 8) = i by omega] at h3
    rw [enc_length, hl] at hi2
    rw [List.getElem?_take_of_lt (by omega), List.getElem?_drop, show 8 + (i - 8) = i by omega, List.getElem?_eq_getElem (by rw [enc_length, hl]; exact hi2), List.getElem?_eq_getElem (by omega)] at h3
    injection h3 with h3
    exact h3.symm
theorem fst_other {b : List Int} {j : Nat} (hj : j < 8) (h : (enc ((b.drop 8).take (num4 b))).getD j 0 ≠ b.getD j 0) : fst b = none := by
  unfold fst
  rw [if_neg]
  rintro ⟨h1, h2, h3, h4⟩
  apply h
  rw [← h4, List.getD_eq_getElem?_getD, List.getD_eq_getElem?_getD, List.getElem?_take_of_lt (by omega)]
end Go.Proofs.YtnpmccekkjadhaaDoor.Fr
namespace Go.Proofs.YtnpmccekkjadhaaDoor.Pk
open Go.RowKit Go.Proofs.YtnpmccekkjadhaaDoor.Crc Go.Proofs.YtnpmccekkjadhaaDoor.Fr
set_option linter.unusedVariables false


/-- What the document's First answers. -/
def FstP (b : List Int) (w : World) (e : Ending) (w' : World) : Prop :=
  Below w.heap.size w w' ∧ ((∃ p A n c, fst b = some p ∧ e = .returned (.tuple #[.slice A n c, .int .i64 ((8 + p.length : Nat) : Int)]) ∧ OwnB w' w.heap.size (.slice A n c) p) ∨ (fst b = none ∧ e = .returned (.tuple #[.slice none 0 0, .int .i64 0])))

set_option maxHeartbeats 3200000 in
theorem first_any (A : Option Addr) (n c : Nat) (b : List Int) (w : World) (hr : Reads w w.heap.size 1 A n (bts b)) (hnc : n ≤ c) (hby : Bytes b) (hn : n ≤ 140737488355328) :
    Calls Tryd.prog 72 #[.slice A n c] w (FstP b w) := by
  have HL : Hid (b.length = n) := Lib.hid (by have := hr.1; simpa using this)
  have HR := Lib.hid hr
  have HB := Lib.hid hby
  by_cases h8 : n < 8
  · clear hr hby
    go_enter Tryd.func72, Tryd.ntmps72
    go_wp2
    go_ret2
    exact ⟨Below.refl _ _, .inr ⟨fst_short (by rw [HL.out]; exact h8), rfl⟩⟩
  obtain ⟨g, off, rfl, hbb, hc⟩ := hr.u8 (by omega)
  have HC := Lib.hid hc
  have hi8 : hi4 b 4 ≤ 4294967295 := hi4_le hby 4 (by omega)
  clear hr hby hc
  go_enter Tryd.func72, Tryd.ntmps72
  go_wp2
  go_loop [4, 5] (fun x i => ∃ k : Nat, k ≤ 4 ∧ i = .int .i64 (3 - (k : Int)) ∧ x = .int .i64 (hi4 b k : Nat)) (fun _ i => (intOf i + 1).toNat)
  case atStart => exact ⟨0, by omega, rfl, rfl⟩
  case round =>
    obtain ⟨k, hk, rfl, rfl⟩ := hrel
    have hx : hi4 b k ≤ 4294967295 := hi4_le HB.out k hk
    have way : k = 0 ∨ k = 1 ∨ k = 2 ∨ k = 3 ∨ k = 4 := by omega
    have step : ∀ j, j < 4 → k = j → ∃ y : Nat, w.cell? ⟨g, off + (3 - j), none⟩ = some (.int .u8 (y : Int)) ∧ y ≤ 255 ∧ hi4 b (j + 1) = hi4 b j * 256 + y := fun j hj e => by
      have h1 := HC.out (3 - j) (by omega)
      have h2 := bytes_getD HB.out (3 - j)
      refine ⟨(b.getD (3 - j) 0).toNat, ?_, by omega, rfl⟩
      rw [h1, Int.toNat_of_nonneg h2.1]
    have HSt := Lib.hid step
    clear step
    rcases way with rfl | rfl | rfl | rfl | rfl
    · obtain ⟨y, hy, hy2, hy3⟩ := HSt.out 0 (by omega) rfl
      obtain ⟨z, hz⟩ : ∃ z, z = hi4 b 0 := ⟨_, rfl⟩
      rw [← hz] at hx hy3 ⊢
      have HY := Lib.hid hy3
      have hyy : w.cell? ⟨g, off + 3, none⟩ = some (.int .u8 (y : Int)) := hy
      have hn0 : 3 < n := by omega
      clear hz hy3 hy
      go_wp2
      go_round
      case rel => exact ⟨0 + 1, by omega, by go_num, by rw [HY.out]; go_num⟩
      case measure => simp [intOf]
    · obtain ⟨y, hy, hy2, hy3⟩ := HSt.out 1 (by omega) rfl
      obtain ⟨z, hz⟩ : ∃ z, z = hi4 b 1 := ⟨_, rfl⟩
      rw [← hz] at hx hy3 ⊢
      have HY := Lib.hid hy3
      have hyy : w.cell? ⟨g, off + 2, none⟩ = some (.int .u8 (y : Int)) := hy
      have hn1 : 2 < n := by omega
      clear hz hy3 hy
      go_wp2
      go_round
      case rel => exact ⟨1 + 1, by omega, by go_num, by rw [HY.out]; go_num⟩
      case measure => simp [intOf]
    · obtain ⟨y, hy, hy2, hy3⟩ := HSt.out 2 (by omega) rfl
      obtain ⟨z, hz⟩ : ∃ z, z = hi4 b 2 := ⟨_, rfl⟩
      rw [← hz] at hx hy3 ⊢
      have HY := Lib.hid hy3
      have hyy : w.cell? ⟨g, off + 1, none⟩ = some (.int .u8 (y : Int)) := hy
      have hn2 : 1 < n := by omega
      clear hz hy3 hy
      go_wp2
      go_round
      case rel => exact ⟨2 + 1, by omega, by go_num, by rw [HY.out]; go_num⟩
      case measure => simp [intOf]
    · obtain ⟨y, hy, hy2, hy3⟩ := HSt.out 3 (by omega) rfl
      obtain ⟨z, hz⟩ : ∃ z, z = hi4 b 3 := ⟨_, rfl⟩
      rw [← hz] at hx hy3 ⊢
      have HY := Lib.hid hy3
      have hyy : w.cell? ⟨g, off, none⟩ = some (.int .u8 (y : Int)) := hy
      have hn3 : 0 < n := by omega
      clear hz hy3 hy
      go_wp2
      go_round
      case rel => exact ⟨3 + 1, by omega, by go_num, by rw [HY.out]; go_num⟩
      case measure => simp [intOf]
    · rw [hi4_all] at hx ⊢
      obtain ⟨m, hm⟩ : ∃ m, m = num4 b := ⟨_, rfl⟩
      rw [← hm] at hx ⊢
      have HMm := Lib.hid hm
      clear hm HSt hi8
      by_cases hgt : 1048576 < m
      · go_wp2
        go_ret2
        exact ⟨Below.refl _ _, .inr ⟨fst_great (.inl (by rw [← HMm.out]; exact hgt)), rfl⟩⟩
      by_cases hgt2 : n < m + 8
      · have hge : (m : Int) > (n : Int) - 8 := by omega
        go_wp2
        go_ret2
        exact ⟨Below.refl _ _, .inr ⟨fst_great (.inr (by rw [← HMm.out, HL.out]; exact hgt2)), rfl⟩⟩
      have hm2 : m ≤ 1048576 := by omega
      have hle : (m : Int) ≤ (n : Int) - 8 := by omega
      have hle2 : 8 + m ≤ n := by omega
      have kc : ∀ u : World, (Instr.slice 22 (.slice (some ⟨g, off, none⟩) n c) (some (.int .i64 8)) (some (.int .i64 (8 + (m : Int)))) none).run Tryd.prog u = .ok (.slice (cutA (some ⟨g, off, none⟩) c 8) m (c - 8)) u := fun u => by
        have h1 := run_cut2 (P := Tryd.prog) Tryd.underlying22 (by kernel_rfl) (some ⟨g, off, none⟩) n c 8 (8 + m) (by omega) (by omega) u
        rw [show 8 + m - 8 = m by omega, show ((8 + m : Nat) : Int) = 8 + (m : Int) by omega] at h1
        exact h1
      obtain ⟨q, hq⟩ : ∃ q, q = (b.drop 8).take m := ⟨_, rfl⟩
      have HRc : Hid (Reads w w.heap.size 1 (cutA (some ⟨g, off, none⟩) c 8) m (bts q)) := Lib.hid (by
        have h1 := reads_cut HR.out (i := 8) (j := 8 + m) (by omega) (by omega) hnc
        rw [show 8 + m - 8 = m by omega] at h1
        rw [hq, List.take_drop]
        exact h1)
      have HQ := Lib.hid hq
      have HQl : Hid (q.length = m) := Lib.hid (by rw [hq, List.length_take, List.length_drop, HL.out]; omega)
      have HQb : Hid (Bytes q) := Lib.hid (by rw [hq]; exact (HB.out.drop 8).take m)
      clear hq
      go_wp2_with (at_builtin; refine appE w rfl (.tmp 34) (.tmp 38) rfl w.heap.size rfl w.heap.size _ (c - 8) q m rfl HRc.out (Nat.le_refl _) (by omega) (Nat.le_refl _) ?_; intro v2 w2 hown2 hb2; obtain ⟨A2, n2, c2, rfl⟩ := own_slice hown2; have hl2 := own_len hown2; have HO2 := Lib.hid hown2; have HB2 := Lib.hid hb2; clear hown2 hb2)
      refine (refEnc_any A2 n2 c2 q w2 (own_reads HO2.out) HQb.out (by have := HQl.out; omega)).mono ?_
      rintro e w3 ⟨hb3, ⟨_, A3, n3, c3, rfl, ho3⟩ | ⟨h3, _⟩⟩
      case inr => have := HQl.out; omega
      have HB3 := Lib.hid (HB2.out.trans (hb3.mono HB2.out.size))
      have HW3 := Lib.hid (HO2.out.keep hb3 (Nat.le_refl _))
      have hl3 : (enc q).length = n3 := (own_len ho3).1
      have hn38 : 8 ≤ n3 := by rw [enc_length] at hl3; omega
      obtain ⟨g3, off3, rfl, hbb3, hc3⟩ := (own_reads ho3).u8 (by omega)
      have HC3 := Lib.hid hc3
      have HC0 := Lib.hid (fun k (hk : k < n) => (HB3.out.cell (p := ⟨g, off + k, none⟩) hbb).trans (HC.out k hk))
      clear hb3 ho3 hl2 hc3 HC
      go_wp2
      go_loopw [9] (fun x wr => ∃ (k d : Nat), k ≤ 8 ∧ x = .int .i64 k ∧ (∀ j, j < k → (enc q).getD j 0 = b.getD j 0) ∧ wr = w3.drewN d) (fun x _ => 8 - (intOf x).toNat)
      case atStart => exact ⟨0, 0, by omega, rfl, fun j hj => by omega, rfl⟩
      case round =>
        obtain ⟨k, d, hk, rfl, hal, rfl⟩ := hrel
        have HAl := Lib.hid hal
        clear hal
        by_cases hlt : k < 8
        · have x1 := HC3.out k (by omega)
          have x2 := HC0.out k (by omega)
          obtain ⟨y1, hy1⟩ : ∃ y, y = (enc q).getD k 0 := ⟨_, rfl⟩
          obtain ⟨y2, hy2⟩ : ∃ y, y = b.getD k 0 := ⟨_, rfl⟩
          rw [← hy1] at x1
          rw [← hy2] at x2
          have hkn : (k : Int) < (n : Int) := by omega
          have hkn3 : (k : Int) < (n3 : Int) := by omega
          by_cases he : y1 = y2
          · have HE : Hid ((enc q).getD k 0 = b.getD k 0) := Lib.hid (by rw [← hy1, ← hy2, he])
            subst he
            clear hy1 hy2
            go_wp2
            go_quiet (fail)
            go_wp2
            go_roundw
            case rel => exact ⟨k + 1, _, by omega, by go_num, fun j hj => by
              rcases Nat.lt_or_ge j k with h | h
              · exact HAl.out j h
              · obtain rfl : j = k := by omega
                exact HE.out, rfl⟩
            case measure => simp [intOf]; omega
          · have HE : Hid (fst b = none) := Lib.hid (fst_other hlt (by rw [← HMm.out, ← HQ.out, ← hy1, ← hy2]; exact he))
            have t1 : (y1 != y2) = true := by simp [he]
            clear hy1 hy2 he
            go_wp2
            go_quiet (fail)
            go_wp2
            go_ret2
            exact ⟨below_drewN (below_drewN HB3.out _) _, .inr ⟨HE.out, rfl⟩⟩
        · obtain rfl : k = 8 := by omega
          have HF : Hid (fst b = some q) := Lib.hid (by
            have h1 := fst_same (b := b) (by rw [HL.out]; omega) (by rw [← HMm.out]; exact hm2) (by rw [← HMm.out, HL.out]; omega)
            rw [← HMm.out, ← HQ.out] at h1
            exact h1 HAl.out)
          go_wp2
          go_ret2
          refine ⟨below_drewN HB3.out _, .inl ⟨q, A2, n2, c2, HF.out, ?_, HW3.out⟩⟩
          rw [HQl.out]
          go_num
end Go.Proofs.YtnpmccekkjadhaaDoor.Pk

/- Lists of lists of bytes: those of the call's own; how one is appended to; how two are read side by side. -/
namespace Go.Proofs.YtnpmccekkjadhaaDoor.Pk
open Go.RowKit Go.Proofs.YtnpmccekkjadhaaDoor.Crc Go.Proofs.YtnpmccekkjadhaaDoor.Fr
set_option linter.unusedVariables false

theorem sl_info : (Tryd.prog.info? 22).map (fun i => (i.zero, i.size, i.bytes)) = some (some (.slice none 0 0), 1, 24) := by kernel_rfl
/-- The value owns the pieces. -/
def OwnP (w : World) (B : Nat) (v : Value) (ps : List Piece) : Prop := w.ownsRow B 22 1 v ps.length (ps.map Piece.val)
theorem OwnP.none_ (w : World) (B : Nat) : OwnP w B (.slice none 0 0) [] := ⟨rfl, .inl ⟨rfl, rfl⟩⟩
theorem pieces_one (ps : List Piece) : ∀ u ∈ ps.map Piece.val, u.oneCell' = true := by
  intro u hu
  obtain ⟨x, _, rfl⟩ := List.mem_map.1 hu
  rfl
theorem OwnP.lt {w : World} {B : Nat} {v : Value} {ps : List Piece} (h : OwnP w B v ps) : ∀ g, v.ownBlock = some g → g < w.heap.size := own_lt h
theorem OwnP.stay {w w' : World} {B : Nat} {v : Value} {ps : List Piece} (h : OwnP w B v ps) (hk : ∀ g, v.ownBlock = some g → w'.heap[g]? = w.heap[g]?) : OwnP w' B v ps := by
  obtain ⟨h1, h2⟩ := h
  refine ⟨h1, ?_⟩
  rcases h2 with h2 | ⟨g, cap, cur, rfl, hg, hh, hr⟩
  · exact .inl h2
  · exact .inr ⟨g, cap, cur, rfl, hg, (hk g rfl).trans hh, hr⟩
/-- One piece more, out of a new box. -/
theorem appL {ops : Array Oper} {rest : List Oper} {o : Oper} {a : Act} {Q : Exit → Act → World → Prop} (w : World) (y : Piece) (T : TypeId) (hgd : o.guard = none) (s x : Operand)
    (ho : o.op = .call { callee := .builtin .append, args := #[s, x], argTypes := #[41, 41] }) (B : Nat) (v : Value) (ps : List Piece) (hs : a.eval s = v) (hown : OwnP w B v ps)
    (hx : a.eval x = .slice (some ⟨w.heap.size, 0, none⟩) 1 1) (hlen : (ps.length + 1) * 24 ≤ 140737488355328) (hB : B ≤ w.heap.size)
    (h : ∀ v' w', OwnP w' B v' (ps ++ [y]) → w.grownBy w' v.ownBlock → wpList Tryd.prog ops Q rest (a.put o.dst v') w') : wpList Tryd.prog ops Q (o :: rest) a (w.alloc (.cells #[.slice y.a y.n y.c] T)) := by
  obtain ⟨i0, hi0, hz0, hz1, hz2⟩ := info_parts sl_info
  refine wpList_append_own _ hgd s x _ ho B 22 i0 _ 1 24 Tryd.underlying41 hi0 hz0 hz1 hz2 rfl (by omega) v ps.length (ps.map Piece.val) hs (World.ownsRow.alloc hown _) ⟨w.heap.size, 0, none⟩ 1 1 ([y].map Piece.val) hx rfl ?_ (pieces_one [y])
    (by unfold maxLen; omega) (by omega) (by simp; omega) ?_
  · intro j u hj
    match j, hj with
    | 0, hj => simp [Piece.val] at hj; subst hj; simp [Addr.add]
    | j + 1, hj => simp at hj
  · intro v' w' ho hg _
    refine h v' w' ?_ ⟨hg.os, hg.tape, hg.output, by have := hg.size; simp at this; omega, fun i hi hn => (hg.block i (by simp; omega) hn).trans (Below.heap_alloc w _ i hi)⟩
    unfold OwnP
    rw [List.map_append, List.length_append]; exact ho

/-- The value owns the pieces, and each of them owns its bytes. -/
structure OwnL (w : World) (B : Nat) (v : Value) (ps : List Piece) : Prop where
  row : OwnP w B v ps
  each : ∀ p ∈ ps, OwnB w B p.val p.l
  apart : ps.Pairwise fun p q => ∀ g, p.val.ownBlock = some g → q.val.ownBlock = some g → False
section
variable {w w' : World} {B : Nat} {v v' : Value} {ps : List Piece}
theorem u8_ne_sl : 5 ≠ 22 := by decide
theorem own_kind {e : TypeId} {n : Nat} {xs : List Value} (h : w.ownsRow B e 1 v n xs) : ∀ g, v.ownBlock = some g → ∃ cs, w.heap[g]? = some (.cells cs e (0, 0)) := by
  intro g hg
  rcases h.2 with ⟨rfl, _⟩ | ⟨g', cap, cur, rfl, _, hh, _⟩
  · simp [Value.ownBlock] at hg
  · simp [Value.ownBlock] at hg
    subst hg
    exact ⟨cur, hh⟩
theorem OwnL.none_ (w : World) (B : Nat) : OwnL w B (.slice none 0 0) [] := ⟨OwnP.none_ w B, (fun p hp => by simp at hp), List.Pairwise.nil⟩
theorem OwnL.off (h : OwnL w B v ps) : ∀ p ∈ ps, ∀ g, p.val.ownBlock = some g → v.ownBlock = some g → False := fun p hp g h1 h2 => by
  obtain ⟨c1, e1⟩ := own_kind (h.each p hp) g h1
  obtain ⟨c2, e2⟩ := own_kind h.row g h2
  rw [e1] at e2
  injection e2 with e2
  injection e2 with _ e2 _
  exact u8_ne_sl e2
theorem OwnL.lt (h : OwnL w B v ps) : ∀ p ∈ ps, ∀ g, p.val.ownBlock = some g → g < w.heap.size := fun p hp => (h.each p hp).lt
theorem OwnL.next (h : OwnL w B v ps) (hb : Below w.heap.size w w') : OwnL w' B v ps :=
  ⟨h.row.stay fun g e => hb.block g (h.row.lt g e), fun p hp => (h.each p hp).keep hb (Nat.le_refl _), h.apart⟩
theorem OwnL.mono {B' : Nat} (h : OwnL w B v ps) (hB : B' ≤ B) : OwnL w B' v ps := by
  refine ⟨?_, fun p hp => (h.each p hp).mono hB, h.apart⟩
  obtain ⟨h1, h2⟩ := h.row
  refine ⟨h1, ?_⟩
  rcases h2 with h2 | ⟨g, cap, cur, e, hg, hr⟩
  · exact .inl h2
  · exact .inr ⟨g, cap, cur, e, by omega, hr⟩
/-- A piece more. -/
theorem OwnL.push {y : Piece} (h : OwnL w B v ps) (hy : OwnB w B y.val y.l) (hn : ∀ p ∈ ps, ∀ g, p.val.ownBlock = some g → y.val.ownBlock = some g → False) (hp : OwnP w' B v' (ps ++ [y])) (hg : w.grownBy w' v.ownBlock) : OwnL w' B v' (ps ++ [y]) := by
  have hoff : ∀ g, y.val.ownBlock = some g → v.ownBlock = some g → False := fun g h1 h2 => by
    obtain ⟨c1, e1⟩ := own_kind hy g h1
    obtain ⟨c2, e2⟩ := own_kind h.row g h2
    rw [e1] at e2
    injection e2 with e2
    injection e2 with _ e2 _
    exact u8_ne_sl e2
  refine ⟨hp, fun p hp => ?_, ?_⟩
  · rcases List.mem_append.1 hp with hp | hp
    · exact (h.each p hp).stay fun g e => hg.block g ((h.each p hp).lt g e) (fun e2 => h.off p hp g e e2.symm)
    · obtain rfl : p = y := by simpa using hp
      exact hy.stay fun g e => hg.block g (hy.lt g e) (fun e2 => hoff g e e2.symm)
  · rw [List.pairwise_append]
    exact ⟨h.apart, List.pairwise_singleton _ _, fun p hpm q hq g h1 h2 => by
      obtain rfl : q = y := by simpa using hq
      exact hn p hpm g h1 h2⟩
/-- How lists of bytes are read. -/
def RdL (w : World) (B : Nat) (A : Option Addr) (n : Nat) (ps : List Piece) : Prop := Reads w B 1 A n (ps.map Piece.val) ∧ ∀ p ∈ ps, Reads w B 1 p.a p.n (bts p.l) ∧ p.n ≤ 4611686018427387904
theorem RdL.len {A : Option Addr} {n : Nat} (h : RdL w B A n ps) : ps.length = n := by have := h.1.1; simpa using this
theorem RdL.below {A : Option Addr} {n : Nat} (h : RdL w B A n ps) (hb : Below B w w') : RdL w' B A n ps := ⟨h.1.below hb, fun p hp => ⟨(h.2 p hp).1.below hb, (h.2 p hp).2⟩⟩
theorem RdL.more {A : Option Addr} {n B' : Nat} (h : RdL w B A n ps) (hB : B ≤ B') : RdL w B' A n ps := ⟨h.1.more hB, fun p hp => ⟨(h.2 p hp).1.more hB, (h.2 p hp).2⟩⟩
theorem OwnL.reads (h : OwnL w B v ps) (hs : ∀ p ∈ ps, p.l.length ≤ 4611686018427387904) : ∃ A c, v = .slice A ps.length c ∧ ps.length ≤ c ∧ RdL w w.heap.size A ps.length ps := by
  obtain ⟨A, c, e, hc, hr⟩ := reads_own h.row
  refine ⟨A, c, e, hc, hr, fun p hp => ?_⟩
  have h1 := own_reads (h.each p hp)
  have h2 := (own_len (h.each p hp)).1
  exact ⟨h1, by have := hs p hp; omega⟩
/-- A piece in a list. -/
theorem RdL.at_ {A : Option Addr} {n k : Nat} (h : RdL w B A n ps) (hk : k < n) :
    ∃ b off p, A = some ⟨b, off, none⟩ ∧ ps[k]? = some p ∧ p ∈ ps ∧ b < B ∧ w.cell? ⟨b, off + k, none⟩ = some (.slice p.a p.n p.c) := by
  obtain ⟨b, off, e, hb, hc⟩ := h.1.flat (by omega)
  have hl := h.len
  have hg : ps[k]? = some ps[k] := List.getElem?_eq_getElem (by omega)
  exact ⟨b, off, ps[k], e, hg, List.getElem_mem _, hb, hc k _ (by rw [List.getElem?_map, hg]; rfl)⟩
end
/-- How much a list of lists holds. -/
def sumN : List Piece → Nat
  | [] => 0
  | p :: r => p.n + 1 + sumN r
theorem sumN_mem {p : Piece} {ps : List Piece} (h : p ∈ ps) : p.n + 1 ≤ sumN ps := by
  induction ps with
  | nil => cases h
  | cons q r ih =>
    simp only [sumN]
    rcases List.mem_cons.1 h with rfl | h
    · omega
    · have := ih h; omega
theorem sumN_len (ps : List Piece) : ps.length ≤ sumN ps := by
  induction ps with
  | nil => exact Nat.le_refl _
  | cons q r ih => simp only [sumN, List.length_cons]; omega
end Go.Proofs.YtnpmccekkjadhaaDoor.Pk

/- The document's frames: All. -/
namespace Go.Proofs.YtnpmccekkjadhaaDoor.Pk
open Go.RowKit Go.Proofs.YtnpmccekkjadhaaDoor.Crc Go.Proofs.YtnpmccekkjadhaaDoor.Fr
set_option linter.unusedVariables false

theorem frames_bytes {b : List Int} (h : Bytes b) : ∀ p ∈ frames b, Bytes p := by
  obtain ⟨t, h1, _, _⟩ := frames_spec b.length b (Nat.le_refl _)
  intro p hp x hx
  have h2 : x ∈ encs (frames b) := List.mem_flatMap.2 ⟨p, hp, by unfold enc; simp [hx]⟩
  exact h x (by rw [h1]; exact List.mem_append_left _ h2)
theorem encs_count (ps : List (List Int)) : 8 * ps.length ≤ (encs ps).length := by
  induction ps with
  | nil => simp
  | cons p ps ih => rw [encs_cons, List.length_append, enc_length]; simp only [List.length_cons]; omega
theorem frames_count (b : List Int) : 8 * (frames b).length ≤ b.length := Nat.le_trans (encs_count _) (fend_le b)
/-- What the document's All answers. -/
def AllR (b : List Int) (w : World) (e : Ending) (w' : World) : Prop :=
  Below w.heap.size w w' ∧ ∃ A n c ps, e = .returned (.tuple #[.slice A n c, .int .i64 (fend b : Nat)]) ∧ OwnL w' w.heap.size (.slice A n c) ps ∧ Piece.bytes ps = frames b

set_option maxHeartbeats 3200000 in
theorem refAll_any (A : Option Addr) (n c : Nat) (b : List Int) (w : World) (hr : Reads w w.heap.size 1 A n (bts b)) (hnc : n ≤ c) (hby : Bytes b) (hn : n ≤ 17179869184) :
    Calls Tryd.prog 61 #[.slice A n c] w (AllR b w) := by
  have HL : Hid (b.length = n) := Lib.hid (by have := hr.1; simpa using this)
  have HR := Lib.hid hr
  have HB := Lib.hid hby
  have HNC := Lib.hid hnc
  have hfl : (frames b).length ≤ 2147483648 := by have h1 := frames_count b; have h2 := HL.out; omega
  obtain ⟨N, hN⟩ : ∃ N, N = (frames b).length := ⟨_, rfl⟩
  rw [← hN] at hfl
  have HN := Lib.hid hN
  clear hr hby hnc hN
  go_enter Tryd.func61, Tryd.ntmps61
  go_wp2
  go_loopw [4, 5, 6, 7] (fun v x _ _ wr => ∃ (k : Nat) (ps : List Piece), k ≤ N ∧ x = .int .i64 (atN b k : Nat) ∧ OwnL wr w.heap.size v ps ∧ Piece.bytes ps = (frames b).take k ∧ Below w.heap.size w wr) (fun _ x _ _ _ => n - (intOf x).toNat)
  case atStart => exact ⟨0, [], by omega, rfl, OwnL.none_ _ _, rfl, Below.refl _ _⟩
  case round =>
    obtain ⟨k, ps, hk, rfl, hown, hps, hbel⟩ := hrel
    obtain ⟨w1, rfl⟩ : ∃ w1 : World, w1 = wr := ⟨_, rfl⟩
    obtain ⟨at_, hat⟩ : ∃ a, a = atN b k := ⟨_, rfl⟩
    have hat2 : at_ ≤ n := by rw [hat, ← HL.out]; exact atN_le b k
    rw [← hat]
    have HO := Lib.hid hown
    have HPs := Lib.hid hps
    have HBe := Lib.hid hbel
    have HAt := Lib.hid hat
    have kc : ∀ u : World, (Instr.slice 22 (.slice A n c) (some (.int .i64 (at_ : Int))) none none).run Tryd.prog u = .ok (.slice (cutA A c at_) (n - at_) (c - at_)) u := fun u => run_cut1 Tryd.underlying22 (by kernel_rfl) A n c at_ hat2 u
    have HF := Lib.hid (first_any (cutA A c at_) (n - at_) (c - at_) (b.drop at_) w1 (by
      have h1 := reads_cut HR.out (i := at_) (j := n) hat2 (Nat.le_refl _) HNC.out
      rw [List.take_of_length_le (by rw [HL.out]; exact Nat.le_refl _)] at h1
      exact (h1.below hbel).more hbel.size) (by have := HNC.out; omega) (HB.out.drop at_) (by omega))
    have hpl : ps.length = k := by
      have h1 := congrArg List.length hps
      simp only [Piece.bytes, List.length_map, List.length_take] at h1
      rw [h1, ← HN.out]; omega
    obtain ⟨A1, c1, rfl, hc1, _⟩ := reads_own hown.row
    rw [hpl] at hc1 HO ⊢
    have HPl := Lib.hid hpl
    clear hown hps hbel hat hpl
    by_cases hlt : k < N
    · obtain ⟨p, hp⟩ : ∃ p, (frames b)[k]? = some p := ⟨_, List.getElem?_eq_getElem (by rw [← HN.out]; exact hlt)⟩
      obtain ⟨hm1, hm2⟩ := at_more hp
      rw [← HAt.out] at hm1 hm2
      have hle := atN_le b (k + 1)
      rw [hm2, HL.out] at hle
      have HM := Lib.hid hm1
      have HM2 := Lib.hid hm2
      have HTk : Hid ((frames b).take (k + 1) = (frames b).take k ++ [p]) := Lib.hid (by
        obtain ⟨h1, h2⟩ := List.getElem?_eq_some_iff.1 hp
        rw [List.take_succ_eq_append_getElem h1, h2])
      clear hp hm1 hm2
      go_wp2_with fail
      refine HF.out.mono ?_
      rintro e w2 ⟨hb2, ⟨p', A2, n2, c2, hfp, rfl, ho2⟩ | ⟨hno, _⟩⟩
      case inr => rw [HM.out] at hno; cases hno
      obtain rfl : p' = p := by rw [HM.out] at hfp; injection hfp with h; exact h.symm
      obtain ⟨m, hm⟩ : ∃ m, m = p'.length := ⟨_, rfl⟩
      rw [← hm] at hle
      have HMl := Lib.hid hm
      have HO2 := Lib.hid (HO.out.next hb2)
      have HB2 := Lib.hid (HBe.out.trans (hb2.mono HBe.out.size))
      have HY := Lib.hid ho2
      have HYn : Hid (∀ q ∈ ps, ∀ g, q.val.ownBlock = some g → (Value.slice A2 n2 c2).ownBlock = some g → False) := Lib.hid (fun q hq g h1 h2 => by
        have := HO.out.lt q hq g h1
        have := ho2.base g h2
        omega)
      rw [← hm]
      have t1 : (((8 + m : Nat) : Int) == 0) = false := beq_eq_false_iff_ne.2 (by omega)
      clear hb2 ho2 hfp hm HF
      go_wp2_with (at_builtin; refine appL w2 ⟨A2, n2, c2, p'⟩ _ rfl (.tmp 19) (.tmp 21) rfl w.heap.size _ ps rfl HO2.out.row rfl (by have := HPl.out; omega) HB2.out.size ?_; intro v3 w3 hown3 hg3; have HO3 := Lib.hid (OwnL.push (y := ⟨A2, n2, c2, p'⟩) HO2.out (HY.out.mono HBe.out.size) HYn.out hown3 hg3); have HB3 := Lib.hid (HB2.out.grown hg3 HB2.out.size (own_base HO2.out.row)); clear hown3 hg3)
      go_roundw
      case rel => exact ⟨k + 1, ps ++ [⟨A2, n2, c2, p'⟩], by omega, by rw [HM2.out, ← HMl.out]; go_num, HO3.out, by rw [HTk.out, ← HPs.out]; simp [Piece.bytes], HB3.out⟩
      case measure => simp [intOf]; omega
    · obtain rfl : k = N := by omega
      have HE : Hid (at_ = fend b) := Lib.hid (by rw [HAt.out, HN.out]; exact atN_all b)
      have HNo : Hid (fst (b.drop at_) = none) := Lib.hid (by rw [HE.out]; exact at_end b)
      go_wp2_with fail
      refine HF.out.mono ?_
      rintro e w2 ⟨hb2, ⟨p', A2, n2, c2, hfp, _, _⟩ | ⟨_, rfl⟩⟩
      case inl => rw [HNo.out] at hfp; cases hfp
      have HO2 := Lib.hid (HO.out.next hb2)
      have HB2 := Lib.hid (HBe.out.trans (hb2.mono HBe.out.size))
      clear hb2 HF
      go_wp2
      go_ret2
      exact ⟨HB2.out, A1, k, c1, ps, by rw [← HE.out]; rfl, HO2.out, by rw [HPs.out, HN.out, List.take_length]⟩
end Go.Proofs.YtnpmccekkjadhaaDoor.Pk

/- What the program's frames promise. -/
namespace Go.Proofs.YtnpmccekkjadhaaDoor.Pk
open Go.RowKit Go.Proofs.YtnpmccekkjadhaaDoor.Crc Go.Proofs.YtnpmccekkjadhaaDoor.Fr
set_option linter.unusedVariables false

def EncC : Prop := ∀ (A : Option Addr) (n c : Nat) (p : List Int) (w : World), Tab w → Reads w w.heap.size 1 A n (bts p) → n ≤ c → Bytes p → n ≤ 140737488355328 → Calls Tryd.prog 32 #[.slice A n c] w (EncP p w)
def EndP (b : List Int) (w : World) (e : Ending) (w' : World) : Prop := e = .returned (.int .i64 (fend b : Nat)) ∧ Below w.heap.size w w'
def EndC : Prop := ∀ (A : Option Addr) (n c : Nat) (b : List Int) (w : World), Tab w → Reads w w.heap.size 1 A n (bts b) → n ≤ c → Bytes b → n ≤ 17179869184 → Calls Tryd.prog 69 #[.slice A n c] w (EndP b w)

theorem enc_a : (enc [97]).getD 0 0 = 1 ∧ (enc [97]).getD 8 0 = 97 ∧ (enc [97]).length = 9 ∧ fend (enc [97]) = 9 := by
  refine ⟨rfl, rfl, rfl, ?_⟩
  unfold fend
  have h := frames_all (ps := [[97]]) (fun p hp => by simp at hp; subst hp; decide)
  rw [encs_cons, encs_nil, List.append_nil] at h
  rw [h]
  rfl
end Go.Proofs.YtnpmccekkjadhaaDoor.Pk

/- Frames one behind the other, out of lists that came in; appends as steps of a region. -/
namespace Go.Proofs.YtnpmccekkjadhaaDoor.Pk
open Go.RowKit Go.Proofs.YtnpmccekkjadhaaDoor.Crc Go.Proofs.YtnpmccekkjadhaaDoor.Fr
set_option linter.unusedVariables false


theorem RdL.take {w : World} {B : Nat} {A : Option Addr} {n k : Nat} {ps : List Piece} (h : RdL w B A n ps) (hk : k ≤ n) : RdL w B A k (ps.take k) := by
  refine ⟨⟨by simp [h.len]; omega, fun hn => ?_⟩, fun p hp => h.2 p (List.mem_of_mem_take hp)⟩
  obtain ⟨ad, e, hb, hc⟩ := h.1.2 (by omega)
  refine ⟨ad, e, hb, fun j u hu => hc j u ?_⟩
  rw [List.map_take] at hu
  rcases Nat.lt_or_ge j k with h1 | h1
  · rw [List.getElem?_take_of_lt h1] at hu; exact hu
  · rw [List.getElem?_eq_none (by simp; omega)] at hu; cases hu
theorem bytes_take (ps : List Piece) (k : Nat) : Piece.bytes (ps.take k) = (Piece.bytes ps).take k := by unfold Piece.bytes; rw [List.map_take]
theorem bytes_next {ps : List Piece} {k : Nat} {p : Piece} (h : ps[k]? = some p) : Piece.bytes (ps.take (k + 1)) = Piece.bytes (ps.take k) ++ [p.l] := by
  obtain ⟨h1, h2⟩ := List.getElem?_eq_some_iff.1 h
  rw [List.take_succ_eq_append_getElem h1, h2]
  simp [Piece.bytes]
theorem own_rowlen {w : World} {B : Nat} {A : Option Addr} {n c : Nat} {ps : List Piece} (h : OwnP w B (.slice A n c) ps) : ps.length = n ∧ n ≤ c := by
  obtain ⟨A', c', e, hc', _⟩ := reads_own h
  injection e with e1 e2 e3
  omega
theorem OwnL.rd {w : World} {B : Nat} {A : Option Addr} {n c : Nat} {ps : List Piece} (h : OwnL w B (.slice A n c) ps) (hs : ∀ p ∈ ps, p.l.length ≤ 4611686018427387904) : RdL w w.heap.size A n ps := by
  obtain ⟨A', c', e, _, hr⟩ := h.reads hs
  have hl := (own_rowlen h.row).1
  injection e with e1 e2 e3
  rw [e1]
  rw [hl] at hr
  exact hr
theorem frames_fits {rs : List Piece} {b : List Int} (e : Piece.bytes rs = frames b) : ∀ p ∈ rs, p.l.length ≤ 4611686018427387904 := fun p hp => by
  have h1 : p.l ∈ frames b := by rw [← e]; exact List.mem_map.2 ⟨p, hp, rfl⟩
  have := frames_fit b p.l h1
  omega
theorem encs_sum {ps : List Piece} (h : ∀ p ∈ ps, p.l.length = p.n) : (encs (Piece.bytes ps)).length ≤ 9 * sumN ps := by
  induction ps with
  | nil => exact Nat.le_refl _
  | cons p r ih =>
    have h1 := ih (fun q hq => h q (by simp [hq]))
    have h2 := h p (by simp)
    show (encs (p.l :: Piece.bytes r)).length ≤ _
    rw [encs_cons, List.length_append, enc_length]
    simp only [sumN]
    omega
theorem encs_part (ps : List Piece) (k : Nat) : (encs (Piece.bytes (ps.take k))).length ≤ (encs (Piece.bytes ps)).length := by
  have h1 : Piece.bytes ps = Piece.bytes (ps.take k) ++ Piece.bytes (ps.drop k) := by unfold Piece.bytes; rw [← List.map_append, List.take_append_drop]
  rw [h1, encs_app, List.length_append]
  omega
end Go.Proofs.YtnpmccekkjadhaaDoor.Pk
