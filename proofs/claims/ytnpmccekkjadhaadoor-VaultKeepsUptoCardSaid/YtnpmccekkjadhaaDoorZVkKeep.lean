/- What VaultKeeps' walk leans on besides: opening anew with memory of its own; a nil vault. -/
import Derived.Test.YtnpmccekkjadhaaDoorZWak
import Derived.Test.YtnpmccekkjadhaaDoorZVkOpenP
import Derived.Test.YtnpmccekkjadhaaDoorZDskB
namespace Go.Proofs.YtnpmccekkjadhaaDoor.Pk
open Go.RowKit Go.Proofs.YtnpmccekkjadhaaDoor.Crc Go.Proofs.YtnpmccekkjadhaaDoor.Fr Go.Proofs.YtnpmccekkjadhaaDoor.Dk Go.Proofs.YtnpmccekkjadhaaDoor.Vk
set_option linter.unusedVariables false
/-- The law turns memory of its own, apart from the vault. -/
theorem AtV.mod_ {w0 w w' : World} {Q R : Nat} {d : DK} {v : VK} {U : Nat → Prop} {lo hi : Nat} (h : AtV w0 Q R d v U w) (k : Mod lo hi w w') (hlo : w0.heap.size ≤ lo) (ha : ∀ b, U b → ¬ (lo ≤ b ∧ b < hi)) : AtV w0 Q R d v U w' :=
  ⟨h.mod.stay ⟨k.size, fun b hb => k.block b (h.mod.lt b hb) (by have := ha b hb; omega)⟩, h.new, k.below h.bel hlo h.bel.size⟩
theorem appNil (w : World) : Calls Tryd.prog 12 #[.pointer none, .slice none 0 0] w fun e w' => e = .returned (.int .i64 2) ∧ w' = w := by
  go_enter Tryd.func12, Tryd.ntmps12
  go_wp2
  go_ret
  exact ⟨rfl, rfl⟩
theorem ckpNil (w : World) : Calls Tryd.prog 14 #[.pointer none, .slice none 0 0] w fun e w' => e = .returned (.int .i64 2) ∧ w' = w := by
  go_enter Tryd.func14, Tryd.ntmps14
  go_wp2
  go_ret
  exact ⟨rfl, rfl⟩
theorem cntNil (w : World) : Calls Tryd.prog 28 #[.pointer none] w fun e w' => e = .returned (.int .i64 0) ∧ w' = w := by
  go_enter Tryd.func28, Tryd.ntmps28
  go_wp2
  go_ret
  exact ⟨rfl, rfl⟩
theorem genNil (w : World) : Calls Tryd.prog 27 #[.pointer none] w fun e w' => e = .returned (.int .i64 0) ∧ w' = w := by
  go_enter Tryd.func27, Tryd.ntmps27
  go_wp2
  go_ret
  exact ⟨rfl, rfl⟩
/-- What opening anew leaves: the same vault, what is answered in memory of its own. -/
def ReoP (w0 : World) (R : Nat) (d : DK) (v : VK) (U : Nat → Prop) (w : World) (e : Ending) (w' : World) : Prop :=
  ∃ Q U' As ns cs Ar nr cr lo hi wB, e = .returned (.tuple #[.pointer (some ⟨Q, 0, none⟩), .slice As ns cs, .slice Ar nr cr, .int .i64 0]) ∧ AtV w0 Q R (d.syn v.file) v U' w' ∧ (∀ b, U' b → U b ∨ w.heap.size ≤ b) ∧ v.s.length = ns ∧ Reads w' w'.heap.size 1 As ns (bts v.s) ∧
    v.rs.length = nr ∧ (∃ ps, RdL w' w'.heap.size Ar nr ps ∧ Piece.bytes ps = v.rs) ∧ w.heap.size ≤ lo ∧ hi ≤ w'.heap.size ∧ (∀ b, U' b → ¬ (lo ≤ b ∧ b < hi)) ∧ wB.heap.size = hi ∧ (∀ b, lo ≤ b → b < hi → w'.heap[b]? = wB.heap[b]?) ∧ (∃ ps, OwnL wB lo (.slice Ar nr cr) ps ∧ Piece.bytes ps = v.rs)
theorem reopen_any (openQ : OpenQ) {w0 w : World} {Q R : Nat} {d : DK} {v : VK} {U : Nat → Prop} (ht : Tab w0) (h : AtV w0 Q R d v U w) (hf : Fresh d v) (hbs : Bytes v.s) (hbr : ∀ r ∈ v.rs, Bytes r) (M m : Nat) (hfit : d.fit M m) (hM : M ≤ 1073741824) (hm : m ≤ 1152921504606846976) :
    Calls Tryd.prog 21 #[.pointer (some ⟨R, 0, none⟩), .slice none 0 0] w (ReoP w0 R d v U w) := by
  obtain ⟨S, hD, hSU, _⟩ := h.mod.disk
  obtain ⟨q1, _, _⟩ := opn_fresh hf [] (by simp)
  refine (openQ R none 0 0 [] d S w (h.tab ht) (fun h0 => h.zero ht (hSU 0 h0)) hD Reads.none_ (Nat.le_refl _) (fun x hx => by simp at hx) (hf.bytes hbs hbr) (fun h0 => by omega) (by omega) M m hfit hM hm).mono ?_
  rintro e w' hop
  unfold OpnQ at hop
  rw [q1] at hop
  rcases hop with ⟨hne, _⟩ | ⟨_, v', Q', vs, vr, U', lo, hi, hv, rfl, hmd, ht4, hf4, hlo, hhi, hsn, hrc, hap, wB, hwB, hk, _, hown⟩
  · exact absurd rfl hne
  injection hv with hv
  subst hv
  obtain ⟨As, ns, cs, rfl, hns, hls, hrs, _⟩ := hsn
  obtain ⟨Ar, nr, cr, ps, rfl, hps, hrr, _, _⟩ := hrc
  have hnr : v.rs.length = nr := by have h1 := hrr.len; have h2 := congrArg List.length hps; simp [Piece.bytes] at h2; omega
  exact ⟨Q', U', As, ns, cs, Ar, nr, cr, lo, hi, wB, rfl, ⟨hmd, from_base hf4 (fun b hb => h.new b (hSU b hb)) h.bel.size, ht4.below h.bel h.bel.size (fun b hb => h.new b (hSU b hb))⟩, fun b hb => (hf4 b hb).imp (hSU b) id, hls, hrs.more hhi, hnr, ⟨ps, hrr.more hhi, hps⟩, hlo, hhi, hap, hwB, hk, hown⟩
theorem held_turned {lo hi : Nat} {p : World → Prop} {w w' : World} {U : Nat → Prop} (h : Held lo hi p w) (t : Turned U w w') (ha : ∀ b, U b → ¬ (lo ≤ b ∧ b < hi)) : Held lo hi p w' :=
  ⟨Nat.le_trans h.1 t.size, fun w2 hs hk => h.2 w2 (Nat.le_trans t.size hs) (fun i h1 h2 => (hk i h1 h2).trans (t.block i (Nat.lt_of_lt_of_le h2 h.1) (fun hu => ha i hu ⟨h1, h2⟩)))⟩
theorem one_ {lo hi n c : Nat} {A : Option Addr} {l : List Int} {x : Int} {w : World} (h : OwnI lo hi (.slice A (n + 1) c) (l ++ [x]) w) (hl : l.length = n) :
    ∃ g, A = some ⟨g, 0, none⟩ ∧ w.cell? ⟨g, n, none⟩ = some (.int .u8 x) := by
  subst hl
  obtain ⟨g, e, _, _, _, c1, _⟩ := h.store (i := l.length) (by omega)
  subst e
  exact ⟨g, rfl, by rw [c1]; simp⟩
end Go.Proofs.YtnpmccekkjadhaaDoor.Pk
