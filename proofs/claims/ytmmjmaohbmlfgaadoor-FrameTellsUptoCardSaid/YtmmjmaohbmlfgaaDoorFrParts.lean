/- The contract of crc.Parts: the sum of all lists, one behind the other. -/
import Derived.Test.YtmmjmaohbmlfgaaDoorCrcRef
import Derived.Test.YtmmjmaohbmlfgaaDoorCrcTabW
namespace Go.Proofs.YtmmjmaohbmlfgaaDoor.Pk
open Go.RowKit Go.Proofs.YtmmjmaohbmlfgaaDoor.Crc
set_option linter.unusedVariables false

/-- A slice of bytes, with the bytes that it reads as. -/
structure Piece where
  a : Option Addr
  n : Nat
  c : Nat
  l : List Int
def Piece.val (p : Piece) : Value := .slice p.a p.n p.c
/-- A piece reads as its bytes. -/
def Piece.Ok (w : World) (B : Nat) (p : Piece) : Prop := Reads w B 1 p.a p.n (bts p.l) ∧ p.n ≤ p.c ∧ p.n ≤ 9223372036854775807 ∧ Bytes p.l
/-- A slice of slices of bytes. -/
def Lists (w : World) (B : Nat) (A : Option Addr) (n : Nat) (ps : List Piece) : Prop := Reads w B 1 A n (ps.map Piece.val) ∧ ∀ p ∈ ps, p.Ok w B
def Piece.bytes (ps : List Piece) : List (List Int) := ps.map (·.l)

theorem Lists.length {w : World} {B : Nat} {A : Option Addr} {n : Nat} {ps : List Piece} (h : Lists w B A n ps) : ps.length = n := by
  have := h.1.1; simpa using this
theorem Lists.keep {w w' : World} {B : Nat} {A : Option Addr} {n : Nat} {ps : List Piece} (h : Lists w B A n ps) (hk : ∀ p : Addr, p.block < B → w'.cell? p = w.cell? p) : Lists w' B A n ps :=
  ⟨h.1.keep hk, fun p hp => ⟨(h.2 p hp).1.keep hk, (h.2 p hp).2⟩⟩
theorem Lists.below {w w' : World} {B : Nat} {A : Option Addr} {n : Nat} {ps : List Piece} (h : Lists w B A n ps) (hb : Below B w w') : Lists w' B A n ps := h.keep fun _ hp => hb.cell hp
/-- What stands at a place of the list. -/
theorem Lists.at_ {w : World} {B : Nat} {A : Option Addr} {n k : Nat} {ps : List Piece} (h : Lists w B A n ps) (hk : k < n) :
    ∃ b off p, A = some ⟨b, off, none⟩ ∧ ps[k]? = some p ∧ p.Ok w B ∧ w.cell? ⟨b, off + k, none⟩ = some (.slice p.a p.n p.c) ∧ (Piece.bytes (ps.take (k + 1))) = Piece.bytes (ps.take k) ++ [p.l] := by
  obtain ⟨b, off, e, _, hc⟩ := h.1.flat (by omega)
  have hl := h.length
  have hg : ps[k]? = some ps[k] := List.getElem?_eq_getElem (by omega)
  refine ⟨b, off, ps[k], e, hg, h.2 _ (List.getElem_mem _), hc k _ (by rw [List.getElem?_map, hg]; rfl), ?_⟩
  rw [List.take_succ_eq_append_getElem (by omega)]
  unfold Piece.bytes
  rw [List.map_append]; rfl
theorem Lists.bytes {w : World} {B : Nat} {A : Option Addr} {n : Nat} {ps : List Piece} (h : Lists w B A n ps) (k : Nat) : ∀ l ∈ Piece.bytes (ps.take k), Bytes l := by
  intro l hl
  obtain ⟨p, hp, rfl⟩ := List.mem_map.1 hl
  exact (h.2 p (List.mem_of_mem_take hp)).2.2.2

set_option maxHeartbeats 800000 in
theorem parts_any (A : Option Addr) (n c : Nat) (ps : List Piece) (w : World) (B : Nat) (hl : Lists w B A n ps) (hn : n ≤ 9223372036854775807) (htab : Tab w) :
    Calls Tryd.prog 19 #[.slice A n c] w fun e w' => e = .returned (.int .u32 (sums 0 (Piece.bytes ps) : Nat)) ∧ w = w' := by
  have RL := Lib.hid hl
  have HT := Lib.hid htab
  clear hl htab
  go_enter Tryd.func19, Tryd.ntmps19
  go_wp2
  go_loop [3, 5, 8] (fun s x i => ∃ k : Nat, i = .int .i64 k ∧ k ≤ n ∧ s = .int .u32 ((sums 0 (Piece.bytes (ps.take k)) : Nat) : Int)) (fun _ _ i => n - (intOf i).toNat)
  case atStart => exact ⟨0, rfl, by omega, rfl⟩
  case round =>
    obtain ⟨k, rfl, hk, rfl⟩ := hrel
    have hr : sums 0 (Piece.bytes (ps.take k)) < 4294967296 := sums_lt (RL.out.bytes k) (by omega)
    obtain ⟨r, hrr⟩ : ∃ x, x = sums 0 (Piece.bytes (ps.take k)) := ⟨_, rfl⟩
    rw [← hrr] at hr ⊢
    have HR := Lib.hid hrr
    clear hrr
    by_cases hlt : k < n
    · obtain ⟨b, off, p, rfl, -, hok, hx, hnext⟩ := RL.out.at_ hlt
      have HN := Lib.hid hnext
      have HO := Lib.hid hok
      clear hnext hok
      go_wp2_with (go_at_call 27; refine (add_any p.a p.n p.c r p.l w B HO.out.1 HO.out.2.2.1 HO.out.2.2.2 hr HT.out).mono ?_; rintro e w' ⟨rfl, rfl⟩)
      go_round
      case rel => exact ⟨k + 1, by go_num, by omega, by rw [HN.out, sums_snoc, ← HR.out]⟩
      case measure => simp [intOf]; omega
    · have HE : Hid (ps.take k = ps) := Lib.hid (List.take_of_length_le (by rw [RL.out.length]; omega))
      have HF : Hid (r = sums 0 (Piece.bytes ps)) := by rw [HR.out, HE.out]; exact Lib.hid rfl
      go_wp2
      go_ret
      exact ⟨by rw [← HF.out]; rfl, rfl⟩
end Go.Proofs.YtmmjmaohbmlfgaaDoor.Pk
