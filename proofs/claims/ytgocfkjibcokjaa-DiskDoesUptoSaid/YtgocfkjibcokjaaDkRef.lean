/- The document's disk in memory. -/
import Derived.Test.YtgocfkjibcokjaaDkTwo
import Derived.Maps.AppendAt
namespace Go.Proofs.Ytgocfkjibcokjaa.Pk
open Go.RowKit Go.Proofs.Ytgocfkjibcokjaa.Dk Go.Proofs.Ytgocfkjibcokjaa.Ar
set_option linter.unusedVariables false

/-- A slice that reads as l; it owns its row, or has no room. -/
def RefS (w : World) (v : Value) (l : List Int) : Prop :=
  ∃ A n c, v = .slice A n c ∧ l.length = n ∧ n ≤ c ∧ Reads w w.heap.size 1 A n (bts l) ∧ (OwnB w 0 v l ∨ (c = n ∧ (A = none → n = 0)))
theorem RefS.own {w : World} {v : Value} {l : List Int} {B : Nat} (h : OwnB w B v l) : RefS w v l := by
  obtain ⟨A, c, rfl, hc, hr⟩ := h.reads
  exact ⟨A, _, c, rfl, rfl, hc, hr, .inl (h.mono (Nat.zero_le _))⟩
theorem RefS.stay {w w' : World} {v : Value} {l : List Int} (h : RefS w v l) (hs : w.heap.size ≤ w'.heap.size) (hk : ∀ g, v.ownBlock = some g → g < w.heap.size → w'.heap[g]? = w.heap[g]?) : RefS w' v l := by
  obtain ⟨A, n, c, rfl, hl, hc, hr, hh⟩ := h
  refine ⟨A, n, c, rfl, hl, hc, ⟨hr.1, fun hn => ?_⟩, ?_⟩
  · obtain ⟨ad, rfl, hb, hcell⟩ := hr.2 hn
    exact ⟨ad, rfl, Nat.lt_of_lt_of_le hb hs, fun j u hu => (World.cell?_of_block (by rw [block_of_add]; exact hk _ rfl hb)).trans (hcell j u hu)⟩
  · rcases hh with h1 | h1
    · exact .inl (h1.stay fun g e => hk g e (h1.lt g e))
    · exact .inr h1
theorem RefS.alloc {w : World} {v : Value} {l : List Int} (h : RefS w v l) (o : Obj) : RefS (w.alloc o) v l := h.stay (by simp) fun g _ hg => Below.heap_alloc w o g hg
theorem RefS.nil_ (w : World) : RefS w (.slice none 0 0) [] := RefS.own (OwnB.nil_ w 0)

/-- Bytes of any slice behind such a one, as one step of a region. -/
theorem stepR {ops : Array Oper} {o : Oper} {a : Act} {K : Act → World → Prop} {Q : Exit → Act → World → Prop} {E : Prop} (w : World) (hgd : o.guard = none) (s x : Operand)
    (ho : o.op = .call { callee := .builtin .append, args := #[s, x], argTypes := #[46, 46] }) (v : Value) (l : List Int) (hs : a.eval s = v) (hv : RefS w v l)
    (B' : Nat) (A : Option Addr) (c : Nat) (r : List Int) (n : Nat) (hx : a.eval x = .slice A n c) (hr : Reads w B' 1 A n (bts r)) (h1 : 0 < n) (hlen : l.length + n ≤ 140737488355328)
    (h : ∀ A' n' c' w', OwnB w' 0 (.slice A' n' c') (l ++ r) → w.grownBy w' v.ownBlock → (∀ g, (Value.slice A' n' c').ownBlock = some g → v.ownBlock = some g ∨ w.heap.size ≤ g) → K (a.put o.dst (.slice A' n' c')) w') :
    if Region.wanted o (yielded ops a.tmps) = true then Oper.wp Try.prog o a w K Q else E := by
  obtain ⟨A0, n0, c0, rfl, hl, hc, hr0, hh⟩ := hv
  rcases hh with hown | ⟨hc0, hn0⟩
  · refine stepB w hgd s x ho 0 _ l hs hown B' A c r n hx hr hlen (Nat.zero_le _) ?_
    intro A' n' c' w' h1 h2 h3
    refine h A' n' c' w' h1 h2 (fun g e => ?_)
    rcases h3 with h3 | h3
    · exact .inl (by rw [← h3]; exact e)
    · rw [h3] at e; injection e with e; exact .inr (by omega)
  · subst hc0
    obtain ⟨i0, hi0, hz0, hz1, hz2⟩ := info_parts u8_info
    obtain ⟨ad, rfl, _, hcell⟩ := hr.2 h1
    refine step_append_grows (P := Try.prog) (w := w) hgd s x _ ho 5 i0 _ 1 1 Try.underlying46 hi0 hz0 hz1 hz2 rfl (by omega) A0 c0 c0 (bts l) hs (fun e => ⟨hn0 e, hn0 e⟩) hr0.1 ?_ ad n c (bts r) hx hr.1 hcell (bts_one r) (by omega) (by unfold maxLen; omega) (by omega) ?_
    · intro b hb j u hu
      by_cases hn : 0 < c0
      · obtain ⟨ad', e, _, hcell'⟩ := hr0.2 hn
        rw [hb] at e
        injection e with e
        subst e
        exact hcell' j u hu
      · have : l = [] := List.length_eq_zero_iff.1 (by omega)
        subst this
        simp [bts] at hu
    · intro v' w' hown hg
      have hv := OwnB.of (k := 0) (r := []) hown (bts_append l r)
      obtain ⟨A', n', c', rfl⟩ := own_slice hv
      exact h A' n' c' w' (hv.mono (Nat.zero_le _)) ⟨hg.os, hg.tape, hg.output, hg.size, fun g hg' _ => hg.block g hg' (by simp)⟩ (fun g e => .inr (hv.base g e))

/-- The lists of a disk, by their places. -/
def rl (d : DK) (k : Nat) : List Int := if k = 0 then d.f0.s else if k = 1 then d.f1.s else if k = 2 then d.f0.w else d.f1.w
def upd {α : Type} (v : Nat → α) (k : Nat) (x : α) (j : Nat) : α := if j = k then x else v j
def rcs (v : Nat → Value) (d : DK) : Array Value := #[v 0, v 1, v 2, v 3, .bool d.on, .int .i64 (d.cnt : Int), .int .i64 (d.left : Int), .int .i64 d.keep]
def rbl (R : Nat) (v : Nat → Value) (b : Nat) : Prop := b = R ∨ ∃ k, k < 4 ∧ (v k).ownBlock = some b
/-- What a disk's four slices are. -/
structure RefV (w : World) (R : Nat) (v : Nat → Value) (ls : Nat → List Int) : Prop where
  rd : ∀ k, k < 4 → RefS w (v k) (ls k)
  lt : ∀ k g, k < 4 → (v k).ownBlock = some g → g < w.heap.size
  ap : ∀ j k g, j < 4 → k < 4 → j ≠ k → (v j).ownBlock = some g → (v k).ownBlock = some g → False
  ne : ∀ k, k < 4 → (v k).ownBlock ≠ some R
/-- The document's disk at block R, made of the blocks S. -/
def DkR (w : World) (R : Nat) (d : DK) (S : Nat → Prop) : Prop :=
  ∃ v, Blk w R 60 (rcs v d) ∧ RefV w R v (rl d) ∧ S = rbl R v
section
variable {w w' w1 : World} {R : Nat} {d d' : DK} {S : Nat → Prop} {v : Nat → Value} {ls : Nat → List Int}
theorem RefV.stay (h : RefV w R v ls) (hs : w.heap.size ≤ w'.heap.size) (hk : ∀ k g, k < 4 → (v k).ownBlock = some g → w'.heap[g]? = w.heap[g]?) : RefV w' R v ls :=
  ⟨fun k h4 => (h.rd k h4).stay hs fun g e _ => hk k g h4 e, fun k g h4 e => Nat.lt_of_lt_of_le (h.lt k g h4 e) hs, h.ap, h.ne⟩
theorem DkR.lt (h : DkR w R d S) : ∀ b, S b → b < w.heap.size := by
  obtain ⟨v, hb, hv, rfl⟩ := h
  rintro b (rfl | ⟨k, hk, e⟩)
  · exact hb.lt
  · exact hv.lt k b hk e
theorem DkR.self (h : DkR w R d S) : S R := by obtain ⟨v, hb, hv, rfl⟩ := h; exact .inl rfl
theorem DkR.stay (h : DkR w R d S) (hs : Stay S w w') : DkR w' R d S := by
  obtain ⟨v, hb, hv, rfl⟩ := h
  exact ⟨v, (hs.2 R (.inl rfl)).trans hb, hv.stay hs.1 fun k g hk e => hs.2 g (.inr ⟨k, hk, e⟩), rfl⟩
theorem DkR.next (h : DkR w R d S) (hb : Below w.heap.size w w') : DkR w' R d S := h.stay (Stay.below hb h.lt)
theorem DkR.drewN (h : DkR w R d S) (n : Nat) : DkR (w.drewN n) R d S := h.stay (Stay.drewN S w n)
/-- One of the numbers is turned. -/
theorem DkR.num (h : DkR w R d S) (i : Nat) (u : Value) (hl : rl d' = rl d) (hc : ∀ v, rcs v d' = (rcs v d).setIfInBounds i u) : DkR (w.setCell ⟨R, i, none⟩ u) R d' S := by
  obtain ⟨v, hb, hv, rfl⟩ := h
  refine ⟨v, ?_, ?_, rfl⟩
  · rw [hc]; exact hb.set_ i u
  · rw [hl]; exact hv.stay (by simp [World.setCell]) fun k g hk e => Below.heap_setCell w ⟨R, i, none⟩ u g (fun e2 => hv.ne k hk (by rw [← (show g = R from e2)]; exact e))
/-- One of the slices is put in anew: w1 is what was made ahead of it. -/
theorem RefV.put {k : Nat} {u : Value} {l : List Int} (hb : Blk w R 60 (rcs v d)) (h : RefV w R v (rl d)) (hk : k < 4) (hg : w.grownBy w1 (v k).ownBlock) (hu : RefS w1 u l) (hul : ∀ g, u.ownBlock = some g → g < w1.heap.size)
    (hat : ∀ g, u.ownBlock = some g → (v k).ownBlock = some g ∨ w.heap.size ≤ g) (hl : ∀ j, j < 4 → rl d' j = upd (rl d) k l j) (hn : d'.on = d.on ∧ d'.cnt = d.cnt ∧ d'.left = d.left ∧ d'.keep = d.keep) :
    DkR (w1.setCell ⟨R, k, none⟩ u) R d' (rbl R (upd v k u)) ∧ Turned (rbl R v) w (w1.setCell ⟨R, k, none⟩ u) ∧ From (rbl R v) (rbl R (upd v k u)) w := by
  have hRk : some R ≠ (v k).ownBlock := fun e => h.ne k hk e.symm
  have hb1 := hb.grown hg hRk
  have hur : ∀ g, u.ownBlock = some g → g ≠ R := fun g e e2 => by
    rcases hat g e with h1 | h1
    · exact h.ne k hk (e2 ▸ h1)
    · have := hb.lt; omega
  have hset : ∀ (x : Value) (g : Nat), g ≠ R → (w1.setCell ⟨R, k, none⟩ x).heap[g]? = w1.heap[g]? := fun x g hne => Below.heap_setCell w1 ⟨R, k, none⟩ x g hne
  refine ⟨⟨upd v k u, ?_, ⟨?_, ?_, ?_, ?_⟩, rfl⟩, ?_, ?_⟩
  · have h1 := hb1.set_ k u
    have e : rcs (upd v k u) d' = (rcs v d).setIfInBounds k u := by
      unfold rcs
      rw [hn.1, hn.2.1, hn.2.2.1, hn.2.2.2]
      have : k = 0 ∨ k = 1 ∨ k = 2 ∨ k = 3 := by omega
      rcases this with rfl | rfl | rfl | rfl <;> rfl
    rw [e]; exact h1
  · intro j hj
    rw [hl j hj]
    unfold upd
    by_cases hjk : j = k
    · rw [if_pos hjk, if_pos hjk]
      exact hu.stay (by simp [World.setCell]) fun g e _ => hset u g (hur g e)
    · rw [if_neg hjk, if_neg hjk]
      refine (h.rd j hj).stay (by simp only [World.setCell, Array.size_modify]; exact hg.size) fun g e hlt => ?_
      rw [hset u g (fun e2 => h.ne j hj (e2 ▸ e))]
      exact hg.block g hlt (fun e2 => h.ap j k g hj hk hjk e e2.symm)
  · intro j g hj e
    show g < (w1.setCell ⟨R, k, none⟩ u).heap.size
    have hsz : (w1.setCell ⟨R, k, none⟩ u).heap.size = w1.heap.size := by simp [World.setCell]
    rw [hsz]
    unfold upd at e
    by_cases hjk : j = k
    · rw [if_pos hjk] at e; exact hul g e
    · rw [if_neg hjk] at e; exact Nat.lt_of_lt_of_le (h.lt j g hj e) hg.size
  · intro i j g hi hj hij ei ej
    unfold upd at ei ej
    by_cases h1 : i = k
    · rw [if_pos h1] at ei
      rw [if_neg (by omega)] at ej
      rcases hat g ei with h2 | h2
      · exact h.ap k j g hk hj (by omega) h2 ej
      · have := h.lt j g hj ej; omega
    · rw [if_neg h1] at ei
      by_cases h3 : j = k
      · rw [if_pos h3] at ej
        rcases hat g ej with h2 | h2
        · exact h.ap k i g hk hi (by omega) h2 ei
        · have := h.lt i g hi ei; omega
      · rw [if_neg h3] at ej
        exact h.ap i j g hi hj hij ei ej
  · intro j hj e
    unfold upd at e
    by_cases h1 : j = k
    · rw [if_pos h1] at e; exact hur R e rfl
    · rw [if_neg h1] at e; exact h.ne j hj e
  · exact ((Turned.refl _ _).grown hg (fun g e _ => .inr ⟨k, hk, e⟩)).set (.inl rfl) _
  · rintro g (rfl | ⟨j, hj, e⟩)
    · exact .inl (.inl rfl)
    · unfold upd at e
      by_cases h1 : j = k
      · rw [if_pos h1] at e
        rcases hat g e with h2 | h2
        · exact .inl (.inr ⟨k, hk, h2⟩)
        · exact .inr h2
      · rw [if_neg h1] at e
        exact .inl (.inr ⟨j, hj, e⟩)
theorem RefS.lt_own {B : Nat} {u : Value} {l : List Int} (h : OwnB w B u l) : ∀ g, u.ownBlock = some g → g < w.heap.size := h.lt
/-- What a call of the document's disk leaves. -/
def AftR (R : Nat) (d : DK) (S : Nat → Prop) (w : World) (v : Value) (e : Ending) (w' : World) : Prop :=
  e = .returned v ∧ ∃ S', DkR w' R d S' ∧ Turned S w w' ∧ From S S' w
theorem AftR.same {v : Value} (h : DkR w R d S) : AftR R d S w v (.returned v) w := ⟨rfl, S, h, Turned.refl _ _, From.refl _ _⟩
theorem grown_of_below (h : Below w.heap.size w w') (r : Option Nat) : w.grownBy w' r := ⟨h.os, h.tape, h.output, h.size, fun g hg _ => h.block g hg⟩
end
end Go.Proofs.Ytgocfkjibcokjaa.Pk
