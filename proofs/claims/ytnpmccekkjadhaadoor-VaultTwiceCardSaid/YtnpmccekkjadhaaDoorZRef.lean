/- The document's disk in memory. -/
import Derived.Test.YtnpmccekkjadhaaDoorZDskB
import Derived.Maps.AppendAt
import Derived.Deep.RegionLaw
namespace Go.Proofs.YtnpmccekkjadhaaDoor.Pk
open Go.RowKit Go.Proofs.YtnpmccekkjadhaaDoor.Dk
set_option linter.unusedVariables false
set_option maxRecDepth 100000

/-- A slice that reads as l; it owns its row, or has no room. -/
def RefS (w : World) (v : Value) (l : List Int) : Prop :=
  ∃ A n c, v = .slice A n c ∧ l.length = n ∧ n ≤ c ∧ Reads w w.heap.size 1 A n (bts l) ∧ (OwnB w 0 v l ∨ (c = n ∧ (A = none → n = 0)))
theorem RefS.own {w : World} {v : Value} {l : List Int} {B : Nat} (h : OwnB w B v l) : RefS w v l := by
  obtain ⟨A, c, rfl, hc, hr⟩ := h.reads
  exact ⟨A, _, c, rfl, rfl, hc, hr, .inl (h.mono (Nat.zero_le _))⟩
theorem RefS.stay {w w' : World} {v : Value} {l : List Int} (h : RefS w v l) (hs : w.heap.size ≤ w'.heap.size) (hk : ∀ g, v.ownBlock = some g → g < w.heap.size → w'.heap[g]? = w.heap[g]?) : RefS w' v l := by
  obtain ⟨A, n, c, rfl, hl, hc, hr, hh⟩ := h
  refine ⟨A, n, c, rfl, hl, hc, ⟨hr.1, fun hn => ?_⟩, ?_⟩
  · obtain ⟨ad, rfl, hb, hcell⟩ := hr.2 hn
    exact ⟨ad, rfl, Nat.lt_of_lt_of_le hb hs, fun j u hu => (World.cell?_of_block (by rw [block_of_add]; exact hk _ rfl hb)).trans (hcell j u hu)⟩
  · rcases hh with h1 | h1
    · exact .inl (h1.stay fun g e => hk g e (h1.lt g e))
    · exact .inr h1
theorem RefS.alloc {w : World} {v : Value} {l : List Int} (h : RefS w v l) (o : Obj) : RefS (w.alloc o) v l := h.stay (by simp) fun g _ hg => Below.heap_alloc w o g hg
theorem RefS.nil_ (w : World) : RefS w (.slice none 0 0) [] := RefS.own (OwnB.nil_ w 0)

/-- Bytes of any slice behind such a one, as one step of a region. -/
theorem stepR {ops : Array Oper} {o : Oper} {a : Act} {K : Act → World → Prop} {Q : Exit → Act → World → Prop} {E : Prop} (w : World) (hgd : o.guard = none) (s x : Operand)
    (ho : o.op = .call { callee := .builtin .append, args := #[s, x], argTypes := #[22, 22] }) (v : Value) (l : List Int) (hs : a.eval s = v) (hv : RefS w v l)
    (B' : Nat) (A : Option Addr) (c : Nat) (r : List Int) (n : Nat) (hx : a.eval x = .slice A n c) (hr : Reads w B' 1 A n (bts r)) (h1 : 0 < n) (hlen : l.length + n ≤ 140737488355328)
    (h : ∀ A' n' c' w', OwnB w' 0 (.slice A' n' c') (l ++ r) → w.grownBy w' v.ownBlock → (∀ g, (Value.slice A' n' c').ownBlock = some g → v.ownBlock = some g ∨ w.heap.size ≤ g) → K (a.put o.dst (.slice A' n' c')) w') :
    if Region.wanted o (yielded ops a.tmps) = true then Oper.wp Tryd.prog o a w K Q else E := by
  obtain ⟨A0, n0, c0, rfl, hl, hc, hr0, hh⟩ := hv
  rcases hh with hown | ⟨hc0, hn0⟩
  · refine stepB w hgd s x ho 0 _ l hs hown B' A c r n hx hr hlen (Nat.zero_le _) ?_
    intro A' n' c' w' h1 h2 h3
    refine h A' n' c' w' h1 h2 (fun g e => ?_)
    rcases h3 with h3 | h3
    · exact .inl (by rw [← h3]; exact e)
    · rw [h3] at e; injection e with e; exact .inr (by omega)
  · subst hc0
    obtain ⟨i0, hi0, hz0, hz1, hz2⟩ := info_parts u8_info
    obtain ⟨ad, rfl, _, hcell⟩ := hr.2 h1
    refine step_append_grows (P := Tryd.prog) (w := w) hgd s x _ ho 5 i0 _ 1 1 Tryd.underlying22 hi0 hz0 hz1 hz2 rfl (by omega) A0 c0 c0 (bts l) hs (fun e => ⟨hn0 e, hn0 e⟩) hr0.1 ?_ ad n c (bts r) hx hr.1 hcell (bts_one r) (by omega) (by unfold maxLen; omega) (by omega) ?_
    · intro b hb j u hu
      by_cases hn : 0 < c0
      · obtain ⟨ad', e, _, hcell'⟩ := hr0.2 hn
        rw [hb] at e
        injection e with e
        subst e
        exact hcell' j u hu
      · have : l = [] := List.length_eq_zero_iff.1 (by omega)
        subst this
        simp [bts] at hu
    · intro v' w' hown hg
      have hv := OwnB.of (k := 0) (r := []) hown (bts_append l r)
      obtain ⟨A', n', c', rfl⟩ := own_slice hv
      exact h A' n' c' w' (hv.mono (Nat.zero_le _)) ⟨hg.os, hg.tape, hg.output, hg.size, fun g hg' _ => hg.block g hg' (by simp)⟩ (fun g e => .inr (hv.base g e))

/-- The lists of a disk, by their places. -/
def rl (d : DK) (k : Nat) : List Int := if k = 0 then d.f0.s else if k = 1 then d.f1.s else if k = 2 then d.f0.w else d.f1.w
def upd {α : Type} (v : Nat → α) (k : Nat) (x : α) (j : Nat) : α := if j = k then x else v j
def rcs (v : Nat → Value) (d : DK) : Array Value := #[v 0, v 1, v 2, v 3, .bool d.on, .int .i64 (d.cnt : Int), .int .i64 (d.left : Int), .int .i64 d.keep]
def rbl (R : Nat) (v : Nat → Value) (b : Nat) : Prop := b = R ∨ ∃ k, k < 4 ∧ (v k).ownBlock = some b
/-- What a disk's four slices are. -/
structure RefV (w : World) (R : Nat) (v : Nat → Value) (ls : Nat → List Int) : Prop where
  rd : ∀ k, k < 4 → RefS w (v k) (ls k)
  lt : ∀ k g, k < 4 → (v k).ownBlock = some g → g < w.heap.size
  ap : ∀ j k g, j < 4 → k < 4 → j ≠ k → (v j).ownBlock = some g → (v k).ownBlock = some g → False
  ne : ∀ k, k < 4 → (v k).ownBlock ≠ some R
/-- The document's disk at block R, made of the blocks S. -/
def DkR (w : World) (R : Nat) (d : DK) (S : Nat → Prop) : Prop :=
  ∃ v, Blk w R 40 (rcs v d) ∧ RefV w R v (rl d) ∧ S = rbl R v
section
variable {w w' w1 : World} {R : Nat} {d d' : DK} {S : Nat → Prop} {v : Nat → Value} {ls : Nat → List Int}
theorem RefV.stay (h : RefV w R v ls) (hs : w.heap.size ≤ w'.heap.size) (hk : ∀ k g, k < 4 → (v k).ownBlock = some g → w'.heap[g]? = w.heap[g]?) : RefV w' R v ls :=
  ⟨fun k h4 => (h.rd k h4).stay hs fun g e _ => hk k g h4 e, fun k g h4 e => Nat.lt_of_lt_of_le (h.lt k g h4 e) hs, h.ap, h.ne⟩
theorem DkR.lt (h : DkR w R d S) : ∀ b, S b → b < w.heap.size := by
  obtain ⟨v, hb, hv, rfl⟩ := h
  rintro b (rfl | ⟨k, hk, e⟩)
  · exact hb.lt
  · exact hv.lt k b hk e
theorem DkR.self (h : DkR w R d S) : S R := by obtain ⟨v, hb, hv, rfl⟩ := h; exact .inl rfl
theorem DkR.stay (h : DkR w R d S) (hs : Stay S w w') : DkR w' R d S := by
  obtain ⟨v, hb, hv, rfl⟩ := h
  exact ⟨v, (hs.2 R (.inl rfl)).trans hb, hv.stay hs.1 fun k g hk e => hs.2 g (.inr ⟨k, hk, e⟩), rfl⟩
theorem DkR.next (h : DkR w R d S) (hb : Below w.heap.size w w') : DkR w' R d S := h.stay (Stay.below hb h.lt)
theorem DkR.drewN (h : DkR w R d S) (n : Nat) : DkR (w.drewN n) R d S := h.stay (Stay.drewN S w n)
/-- One of the numbers is turned. -/
theorem DkR.num (h : DkR w R d S) (i : Nat) (u : Value) (hl : rl d' = rl d) (hc : ∀ v, rcs v d' = (rcs v d).setIfInBounds i u) : DkR (w.setCell ⟨R, i, none⟩ u) R d' S := by
  obtain ⟨v, hb, hv, rfl⟩ := h
  refine ⟨v, ?_, ?_, rfl⟩
  · rw [hc]; exact hb.set_ i u
  · rw [hl]; exact hv.stay (by simp [World.setCell]) fun k g hk e => Below.heap_setCell w ⟨R, i, none⟩ u g (fun e2 => hv.ne k hk (by rw [← (show g = R from e2)]; exact e))
/-- One of the slices is put in anew: w1 is what was made ahead of it. -/
theorem RefV.put {k : Nat} {u : Value} {l : List Int} (hb : Blk w R 40 (rcs v d)) (h : RefV w R v (rl d)) (hk : k < 4) (hg : w.grownBy w1 (v k).ownBlock) (hu : RefS w1 u l) (hul : ∀ g, u.ownBlock = some g → g < w1.heap.size)
    (hat : ∀ g, u.ownBlock = some g → (v k).ownBlock = some g ∨ w.heap.size ≤ g) (hl : ∀ j, j < 4 → rl d' j = upd (rl d) k l j) (hn : d'.on = d.on ∧ d'.cnt = d.cnt ∧ d'.left = d.left ∧ d'.keep = d.keep) :
    DkR (w1.setCell ⟨R, k, none⟩ u) R d' (rbl R (upd v k u)) ∧ Turned (rbl R v) w (w1.setCell ⟨R, k, none⟩ u) ∧ From (rbl R v) (rbl R (upd v k u)) w := by
  have hRk : some R ≠ (v k).ownBlock := fun e => h.ne k hk e.symm
  have hb1 := hb.grown hg hRk
  have hur : ∀ g, u.ownBlock = some g → g ≠ R := fun g e e2 => by
    rcases hat g e with h1 | h1
    · exact h.ne k hk (e2 ▸ h1)
    · have := hb.lt; omega
  have hset : ∀ (x : Value) (g : Nat), g ≠ R → (w1.setCell ⟨R, k, none⟩ x).heap[g]? = w1.heap[g]? := fun x g hne => Below.heap_setCell w1 ⟨R, k, none⟩ x g hne
  refine ⟨⟨upd v k u, ?_, ⟨?_, ?_, ?_, ?_⟩, rfl⟩, ?_, ?_⟩
  · have h1 := hb1.set_ k u
    have e : rcs (upd v k u) d' = (rcs v d).setIfInBounds k u := by
      unfold rcs
      rw [hn.1, hn.2.1, hn.2.2.1, hn.2.2.2]
      have : k = 0 ∨ k = 1 ∨ k = 2 ∨ k = 3 := by omega
      rcases this with rfl | rfl | rfl | rfl <;> rfl
    rw [e]; exact h1
  · intro j hj
    rw [hl j hj]
    unfold upd
    by_cases hjk : j = k
    · rw [if_pos hjk, if_pos hjk]
      exact hu.stay (by simp [World.setCell]) fun g e _ => hset u g (hur g e)
    · rw [if_neg hjk, if_neg hjk]
      refine (h.rd j hj).stay (by simp only [World.setCell, Array.size_modify]; exact hg.size) fun g e hlt => ?_
      rw [hset u g (fun e2 => h.ne j hj (e2 ▸ e))]
      exact hg.block g hlt (fun e2 => h.ap j k g hj hk hjk e e2.symm)
  · intro j g hj e
    show g < (w1.setCell ⟨R, k, none⟩ u).heap.size
    have hsz : (w1.setCell ⟨R, k, none⟩ u).heap.size = w1.heap.size := by simp [World.setCell]
    rw [hsz]
    unfold upd at e
    by_cases hjk : j = k
    · rw [if_pos hjk] at e; exact hul g e
    · rw [if_neg hjk] at e; exact Nat.lt_of_lt_of_le (h.lt j g hj e) hg.size
  · intro i j g hi hj hij ei ej
    unfold upd at ei ej
    by_cases h1 : i = k
    · rw [if_pos h1] at ei
      rw [if_neg (by omega)] at ej
      rcases hat g ei with h2 | h2
      · exact h.ap k j g hk hj (by omega) h2 ej
      · have := h.lt j g hj ej; omega
    · rw [if_neg h1] at ei
      by_cases h3 : j = k
      · rw [if_pos h3] at ej
        rcases hat g ej with h2 | h2
        · exact h.ap k i g hk hi (by omega) h2 ei
        · have := h.lt i g hi ei; omega
      · rw [if_neg h3] at ej
        exact h.ap i j g hi hj hij ei ej
  · intro j hj e
    unfold upd at e
    by_cases h1 : j = k
    · rw [if_pos h1] at e; exact hur R e rfl
    · rw [if_neg h1] at e; exact h.ne j hj e
  · exact ((Turned.refl _ _).grown hg (fun g e _ => .inr ⟨k, hk, e⟩)).set (.inl rfl) _
  · rintro g (rfl | ⟨j, hj, e⟩)
    · exact .inl (.inl rfl)
    · unfold upd at e
      by_cases h1 : j = k
      · rw [if_pos h1] at e
        rcases hat g e with h2 | h2
        · exact .inl (.inr ⟨k, hk, h2⟩)
        · exact .inr h2
      · rw [if_neg h1] at e
        exact .inl (.inr ⟨j, hj, e⟩)
theorem RefS.lt_own {B : Nat} {u : Value} {l : List Int} (h : OwnB w B u l) : ∀ g, u.ownBlock = some g → g < w.heap.size := h.lt
/-- What a call of the document's disk leaves. -/
def AftR (R : Nat) (d : DK) (S : Nat → Prop) (w : World) (v : Value) (e : Ending) (w' : World) : Prop :=
  e = .returned v ∧ ∃ S', DkR w' R d S' ∧ Turned S w w' ∧ From S S' w
theorem AftR.same {v : Value} (h : DkR w R d S) : AftR R d S w v (.returned v) w := ⟨rfl, S, h, Turned.refl _ _, From.refl _ _⟩
theorem grown_of_below (h : Below w.heap.size w w') (r : Option Nat) : w.grownBy w' r := ⟨h.os, h.tape, h.output, h.size, fun g hg _ => h.block g hg⟩
end
end Go.Proofs.YtnpmccekkjadhaaDoor.Pk

/- The document's disk: raw, Arm, All. -/
namespace Go.Proofs.YtnpmccekkjadhaaDoor.Pk
open Go.RowKit Go.Proofs.YtnpmccekkjadhaaDoor.Dk
set_option linter.unusedVariables false

theorem DkR.blk {w w' : World} {R : Nat} {d d' : DK} {v : Nat → Value} (hb : Blk w R 40 (rcs v d)) (h : RefV w R v (rl d)) (hs : w'.heap.size = w.heap.size) (hk : ∀ b, b ≠ R → w'.heap[b]? = w.heap[b]?) (hb' : Blk w' R 40 (rcs v d')) (hl : rl d' = rl d) : DkR w' R d' (rbl R v) :=
  ⟨v, hb', hl ▸ h.stay (by omega) fun k g hk4 e => hk g (fun e2 => h.ne k hk4 (e2 ▸ e)), rfl⟩
set_option maxHeartbeats 800000 in
theorem raw_ref (R : Nat) (d : DK) (S : Nat → Prop) (w : World) (h : DkR w R d S) (hc : d.cnt ≤ 4611686018427387904) (ha : d.left ≤ 9223372036854775807) :
    Calls Tryd.prog 58 #[.pointer (some ⟨R, 0, none⟩)] w (AftR R d.count S w (.bool (decide (d.left = 1)))) := by
  have HS : Hid (S R) := Lib.hid h.self
  obtain ⟨f0, f1, on, cnt, left, keep⟩ := d
  have H := Lib.hid h
  obtain ⟨v, hbk, hv, rfl⟩ := h
  have c5 : w.cell? ⟨R, 5, none⟩ = some (.int .i64 (cnt : Int)) := by rw [hbk.cell]; rfl
  have e5 : w.frozen? ⟨R, 5, none⟩ = false := hbk.frozen 5
  have c6 : w.cell? ⟨R, 6, none⟩ = some (.int .i64 (left : Int)) := by rw [hbk.cell]; rfl
  have e6 : w.frozen? ⟨R, 6, none⟩ = false := hbk.frozen 6
  simp only at hc ha
  have hcn : DkR (w.setCell ⟨R, 5, none⟩ (.int .i64 ((cnt : Int) + 1))) R ⟨f0, f1, on, cnt + 1, left, keep⟩ (rbl R v) := H.out.num 5 _ rfl (fun v => rfl)
  have HC := Lib.hid hcn
  clear hbk hv hcn
  by_cases h0 : left = 0
  · subst h0
    go_enter Tryd.func58, Tryd.ntmps58
    go_wp2
    go_ret
    exact ⟨rfl, _, HC.out, (Turned.refl _ _).set HS.out _, From.refl _ _⟩
  have t0 : ((left : Int) == 0) = false := beq_eq_false_iff_ne.2 (by omega)
  have hln : DkR ((w.setCell ⟨R, 5, none⟩ (.int .i64 ((cnt : Int) + 1))).setCell ⟨R, 6, none⟩ (.int .i64 ((left : Int) - 1))) R ⟨f0, f1, on, cnt + 1, left - 1, keep⟩ (rbl R v) := HC.out.num 6 _ rfl (fun v => by
    have e : ((left - 1 : Nat) : Int) = (left : Int) - 1 := by omega
    simp only [rcs, e]
    rfl)
  have HLn := Lib.hid hln
  clear hln
  by_cases h1 : left = 1
  · subst h1
    go_enter Tryd.func58, Tryd.ntmps58
    go_wp2
    go_ret
    exact ⟨rfl, _, HLn.out, ((Turned.refl _ _).set HS.out _).set HS.out _, From.refl _ _⟩
  have t1 : ((left : Int) - 1 == 0) = false := beq_eq_false_iff_ne.2 (by omega)
  have HE : Hid (decide (left = 1) = false) := Lib.hid (decide_eq_false h1)
  clear h1
  go_enter Tryd.func58, Tryd.ntmps58
  go_wp2
  go_ret
  rw [HE.out]
  exact ⟨rfl, _, HLn.out, ((Turned.refl _ _).set HS.out _).set HS.out _, From.refl _ _⟩

set_option maxHeartbeats 800000 in
theorem arm_ref (R : Nat) (n k : Int) (d : DK) (S : Nat → Prop) (w : World) (h : DkR w R d S) :
    Calls Tryd.prog 17 #[.pointer (some ⟨R, 0, none⟩), .int .i64 n, .int .i64 k] w (AftR R (d.arm n k) S w (.tuple #[])) := by
  have HS : Hid (S R) := Lib.hid h.self
  obtain ⟨f0, f1, on, cnt, left, keep⟩ := d
  have H := Lib.hid h
  obtain ⟨v, hbk, hv, rfl⟩ := h
  have c6 : w.cell? ⟨R, 6, none⟩ = some (.int .i64 (left : Int)) := by rw [hbk.cell]; rfl
  have e6 : w.frozen? ⟨R, 6, none⟩ = false := hbk.frozen 6
  have c7 : w.cell? ⟨R, 7, none⟩ = some (.int .i64 keep) := by rw [hbk.cell]; rfl
  have e7 : w.frozen? ⟨R, 7, none⟩ = false := hbk.frozen 7
  have HB := Lib.hid hbk
  have HV := Lib.hid hv
  clear hbk hv
  have far : ∀ (W : World) (i : Nat) (u : Value) (b : Nat), b ≠ R → (W.setCell ⟨R, i, none⟩ u).heap[b]? = W.heap[b]? := fun W i u b hb => Below.heap_setCell W ⟨R, i, none⟩ u b hb
  have HFar := Lib.hid far
  clear far
  by_cases h0 : n < 0
  · have HN : Hid (n.toNat = 0) := Lib.hid (by omega)
    go_enter Tryd.func17, Tryd.ntmps17
    go_wp2
    go_end0
    refine ⟨rfl, rbl R v, DkR.blk HB.out HV.out (by simp [World.setCell]) (fun b hb => by rw [HFar.out _ _ _ b hb, HFar.out _ _ _ b hb, HFar.out _ _ _ b hb]) ?_ rfl, (((Turned.refl _ _).set HS.out _).set HS.out _).set HS.out _, From.refl _ _⟩
    have := ((HB.out.set_ 6 (.int .i64 n)).set_ 6 (.int .i64 0)).set_ 7 (.int .i64 k)
    have e : rcs v (DK.arm n k ⟨f0, f1, on, cnt, left, keep⟩) = (((rcs v ⟨f0, f1, on, cnt, left, keep⟩).setIfInBounds 6 (.int .i64 n)).setIfInBounds 6 (.int .i64 0)).setIfInBounds 7 (.int .i64 k) := by
      simp only [DK.arm, HN.out]
      rfl
    rw [e]; exact this
  · have HN : Hid ((n.toNat : Int) = n) := Lib.hid (by omega)
    go_enter Tryd.func17, Tryd.ntmps17
    go_wp2
    go_end0
    refine ⟨rfl, rbl R v, DkR.blk HB.out HV.out (by simp [World.setCell]) (fun b hb => by rw [HFar.out _ _ _ b hb, HFar.out _ _ _ b hb]) ?_ rfl, ((Turned.refl _ _).set HS.out _).set HS.out _, From.refl _ _⟩
    have := (HB.out.set_ 6 (.int .i64 n)).set_ 7 (.int .i64 k)
    have e : rcs v (DK.arm n k ⟨f0, f1, on, cnt, left, keep⟩) = ((rcs v ⟨f0, f1, on, cnt, left, keep⟩).setIfInBounds 6 (.int .i64 n)).setIfInBounds 7 (.int .i64 k) := by
      simp only [DK.arm, rcs, HN.out]
      rfl
    rw [e]; exact this

set_option maxHeartbeats 1600000 in
theorem all_ref (R : Nat) (f : Int) (hf : f = 0 ∨ f = 1) (d : DK) (S : Nat → Prop) (w : World) (h : DkR w R d S) (hl0 : d.f0.all.length ≤ 140737488355328) (hl1 : d.f1.all.length ≤ 140737488355328) :
    Calls Tryd.prog 48 #[.pointer (some ⟨R, 0, none⟩), .int .i64 f] w (SfP (d.get f).all w) := by
  obtain ⟨v, hbk, hv, rfl⟩ := h
  have HB := Lib.hid hbk
  rcases hf with rfl | rfl
  · obtain ⟨As, ns, cs, es, hls, hcs, hrs, _⟩ := hv.rd 0 (by omega)
    obtain ⟨Aw, nw, cw, ew, hlw, hcw, hrw, _⟩ := hv.rd 2 (by omega)
    replace hls : d.f0.s.length = ns := hls
    replace hlw : d.f0.w.length = nw := hlw
    replace hrs : Reads w w.heap.size 1 As ns (bts d.f0.s) := hrs
    replace hrw : Reads w w.heap.size 1 Aw nw (bts d.f0.w) := hrw
    have hlen : ns + nw ≤ 140737488355328 := by rw [FL.all_len] at hl0; omega
    have x1 : w.cell? ⟨R, 0, none⟩ = some (.slice As ns cs) := by rw [hbk.cell, ← es]; rfl
    have x2 : w.cell? ⟨R, 2, none⟩ = some (.slice Aw nw cw) := by rw [hbk.cell, ← ew]; rfl
    have z1 : (w.alloc (Obj.cells #[] 5)).cell? ⟨R, 0, none⟩ = some (.slice As ns cs) := (World.cell?_alloc_lt w _ ⟨R, 0, none⟩ hbk.lt).trans x1
    have z2 : (w.alloc (Obj.cells #[] 5)).cell? ⟨R, 2, none⟩ = some (.slice Aw nw cw) := (World.cell?_alloc_lt w _ ⟨R, 2, none⟩ hbk.lt).trans x2
    have HRs := Lib.hid hrs
    have HRw := Lib.hid hrw
    have HLs := Lib.hid hls
    have HLw := Lib.hid hlw
    clear hbk hv hl0 hl1 hls hlw hrs hrw hcs hcw es ew
    go_enter Tryd.func48, Tryd.ntmps48
    go_wp2_with fail
    go_region_law (first
      | (refine stepE _ w.heap.size rfl (.tmp 5) (.tmp 11) rfl rfl (OwnB.fresh _ _ (Nat.le_refl _)) w.heap.size As cs d.f0.s ns rfl (HRs.out.alloc (Nat.le_refl _) _) (by omega) (by simp) ?_; intro A10 n10 c10 w10 hown10 hb10; have hb10' : Below w.heap.size w w10 := ((⟨rfl, rfl, rfl, Nat.le_refl _, fun _ _ => rfl⟩ : Below w.heap.size w w.drew).alloc (Nat.le_refl _) _).trans hb10; have cc : w10.cell? ⟨R, 2, none⟩ = some (.slice Aw nw cw) := (hb10'.cell (p := ⟨R, 2, none⟩) HB.out.lt).trans x2; have HW10 := Lib.hid hown10; have HB10 := Lib.hid hb10'; clear hown10 hb10 hb10')
      | (refine stepB w10 rfl (.tmp 12) (.tmp 18) rfl w.heap.size (.slice A10 n10 c10) d.f0.s rfl HW10.out w.heap.size Aw cw d.f0.w nw rfl (HRw.out.below HB10.out) (by rw [HLs.out]; omega) HB10.out.size ?_; intro A11 n11 c11 w11 hown11 hg11 hat11; have HB11 := Lib.hid (HB10.out.grown hg11 HB10.out.size (own_base HW10.out)); have HW11 := Lib.hid hown11; clear hown11 hg11 hat11))
    all_goals go_wp2
    all_goals go_ret
    all_goals exact ⟨A11, n11, c11, rfl, HW11.out, HB11.out⟩
  · obtain ⟨As, ns, cs, es, hls, hcs, hrs, _⟩ := hv.rd 1 (by omega)
    obtain ⟨Aw, nw, cw, ew, hlw, hcw, hrw, _⟩ := hv.rd 3 (by omega)
    replace hls : d.f1.s.length = ns := hls
    replace hlw : d.f1.w.length = nw := hlw
    replace hrs : Reads w w.heap.size 1 As ns (bts d.f1.s) := hrs
    replace hrw : Reads w w.heap.size 1 Aw nw (bts d.f1.w) := hrw
    have hlen : ns + nw ≤ 140737488355328 := by rw [FL.all_len] at hl1; omega
    have x1 : w.cell? ⟨R, 1, none⟩ = some (.slice As ns cs) := by rw [hbk.cell, ← es]; rfl
    have x2 : w.cell? ⟨R, 3, none⟩ = some (.slice Aw nw cw) := by rw [hbk.cell, ← ew]; rfl
    have z1 : (w.alloc (Obj.cells #[] 5)).cell? ⟨R, 1, none⟩ = some (.slice As ns cs) := (World.cell?_alloc_lt w _ ⟨R, 1, none⟩ hbk.lt).trans x1
    have z2 : (w.alloc (Obj.cells #[] 5)).cell? ⟨R, 3, none⟩ = some (.slice Aw nw cw) := (World.cell?_alloc_lt w _ ⟨R, 3, none⟩ hbk.lt).trans x2
    have HRs := Lib.hid hrs
    have HRw := Lib.hid hrw
    have HLs := Lib.hid hls
    have HLw := Lib.hid hlw
    clear hbk hv hl0 hl1 hls hlw hrs hrw hcs hcw es ew
    go_enter Tryd.func48, Tryd.ntmps48
    go_wp2_with fail
    go_region_law (first
      | (refine stepE _ w.heap.size rfl (.tmp 5) (.tmp 11) rfl rfl (OwnB.fresh _ _ (Nat.le_refl _)) w.heap.size As cs d.f1.s ns rfl (HRs.out.alloc (Nat.le_refl _) _) (by omega) (by simp) ?_; intro A10 n10 c10 w10 hown10 hb10; have hb10' : Below w.heap.size w w10 := ((⟨rfl, rfl, rfl, Nat.le_refl _, fun _ _ => rfl⟩ : Below w.heap.size w w.drew).alloc (Nat.le_refl _) _).trans hb10; have cc : w10.cell? ⟨R, 3, none⟩ = some (.slice Aw nw cw) := (hb10'.cell (p := ⟨R, 3, none⟩) HB.out.lt).trans x2; have HW10 := Lib.hid hown10; have HB10 := Lib.hid hb10'; clear hown10 hb10 hb10')
      | (refine stepB w10 rfl (.tmp 12) (.tmp 18) rfl w.heap.size (.slice A10 n10 c10) d.f1.s rfl HW10.out w.heap.size Aw cw d.f1.w nw rfl (HRw.out.below HB10.out) (by rw [HLs.out]; omega) HB10.out.size ?_; intro A11 n11 c11 w11 hown11 hg11 hat11; have HB11 := Lib.hid (HB10.out.grown hg11 HB10.out.size (own_base HW10.out)); have HW11 := Lib.hid hown11; clear hown11 hg11 hat11))
    all_goals go_wp2
    all_goals go_ret
    all_goals exact ⟨A11, n11, c11, rfl, HW11.out, HB11.out⟩
end Go.Proofs.YtnpmccekkjadhaaDoor.Pk

/- The document's disk: Off. -/
namespace Go.Proofs.YtnpmccekkjadhaaDoor.Pk
open Go.RowKit Go.Proofs.YtnpmccekkjadhaaDoor.Dk
set_option linter.unusedVariables false

theorem RefS.drew {w : World} {v : Value} {l : List Int} (h : RefS w v l) : RefS w.drew v l := h.stay (Nat.le_refl _) fun _ _ _ => rfl
theorem grown_from {w w1 w2 : World} {r : Option Nat} (h : Below w.heap.size w w1) (k : w1.grownBy w2 r) : w.grownBy w2 r :=
  ⟨k.os.trans h.os, k.tape.trans h.tape, k.output.trans h.output, Nat.le_trans h.size k.size, fun g hg hr => (k.block g (Nat.lt_of_lt_of_le hg h.size) hr).trans (h.block g hg)⟩
/-- Where the loop over the files stands. -/
def midD (sa wa sb wb : List Int) (kn cnt left : Nat) (keep : Int) (F : Nat) : DK :=
  ⟨if F = 0 then ⟨sa, wa⟩ else ⟨sa ++ wa.take kn, []⟩, if F = 0 ∨ F = 1 then ⟨sb, wb⟩ else ⟨sb ++ wb.take kn, []⟩, true, cnt, left, keep⟩
theorem four {p : Nat → Prop} (h0 : p 0) (h1 : p 1) (h2 : p 2) (h3 : p 3) : ∀ j, j < 4 → p j := fun j hj => by
  have : j = 0 ∨ j = 1 ∨ j = 2 ∨ j = 3 := by omega
  rcases this with rfl | rfl | rfl | rfl
  · exact h0
  · exact h1
  · exact h2
  · exact h3
theorem take_more {l : List Int} {i : Nat} (h : i < l.length) : l.take i ++ [l.getD i 0] = l.take (i + 1) := by
  rw [List.getD_eq_getElem?_getD, List.getElem?_eq_getElem h, List.take_add_one, List.getElem?_eq_getElem h]
  rfl
set_option maxHeartbeats 3200000 in
theorem off_ref (R : Nat) (k : Int) (d : DK) (S : Nat → Prop) (w : World) (h : DkR w R d S) (hl0 : d.f0.all.length ≤ 140737488355328) (hl1 : d.f1.all.length ≤ 140737488355328) :
    Calls Tryd.prog 19 #[.pointer (some ⟨R, 0, none⟩), .int .i64 k] w (AftR R (d.offs k) S w (.tuple #[])) := by
  have HS : Hid (S R) := Lib.hid h.self
  obtain ⟨⟨sa, wa⟩, ⟨sb, wb⟩, on, cnt, left, keep⟩ := d
  have H := Lib.hid h
  have c4 : w.cell? ⟨R, 4, none⟩ = some (.bool on) := by obtain ⟨v, hbk, hv, rfl⟩ := h; rw [hbk.cell]; rfl
  cases on with
  | false =>
    clear h
    go_enter Tryd.func19, Tryd.ntmps19
    go_wp2
    first | go_end0 | refine bodyPost_ret (results_none rfl _ _ _) rfl ?_
    exact ⟨rfl, S, H.out, Turned.refl _ _, From.refl _ _⟩
  | true =>
    have la : sa.length + wa.length ≤ 140737488355328 := by simpa [FL.all] using hl0
    have lb : sb.length + wb.length ≤ 140737488355328 := by simpa [FL.all] using hl1
    obtain ⟨kn, hkn⟩ : ∃ kn : Nat, kn = k.toNat := ⟨_, rfl⟩
    have HKn := Lib.hid hkn
    clear h hl0 hl1 hkn
    go_enter Tryd.func19, Tryd.ntmps19
    go_wp2
    clear c4
    go_loopw [4, 5] (fun j _ wr => ∃ (F : Nat) (S' : Nat → Prop), j = .int .i64 F ∧ F ≤ 2 ∧ DkR wr R (midD sa wa sb wb kn cnt left keep F) S' ∧ Turned S w wr ∧ From S S' w) (fun j _ _ => 2 - (intOf j).toNat)
    case atStart => exact ⟨0, S, rfl, by omega, H.out, Turned.refl _ _, From.refl _ _⟩
    case round =>
      obtain ⟨F, S1, rfl, hF, h1, t1, g1⟩ := hrel
      obtain ⟨w1, rfl⟩ : ∃ w1 : World, w1 = wr := ⟨_, rfl⟩
      have H1 := Lib.hid h1
      have T1 := Lib.hid t1
      have G1 := Lib.hid g1
      clear h1 t1 g1
      have way : F = 0 ∨ F = 1 ∨ F = 2 := by omega
      rcases way with rfl | rfl | rfl
      · rw [show ((0 : Nat) : Int) = 0 from rfl]
        go_wp2
        go_loopw [5] (fun j wr => ∃ (i : Nat) (S' : Nat → Prop), j = .int .i64 i ∧ i ≤ wa.length ∧ i ≤ kn ∧ DkR wr R (⟨⟨sa ++ wa.take i, wa⟩, ⟨sb, wb⟩, true, cnt, left, keep⟩ : DK) S' ∧ Turned S w wr ∧ From S S' w) (fun j _ => wa.length - (intOf j).toNat)
        case atStart => exact ⟨0, S1, rfl, by omega, by omega, by rw [List.take_zero, List.append_nil]; exact H1.out, T1.out, G1.out⟩
        case round =>
          obtain ⟨i, S2, rfl, hi1, hi2, h2, t2, g2⟩ := hrel
          obtain ⟨w2, rfl⟩ : ∃ w2 : World, w2 = wr := ⟨_, rfl⟩
          have H2 := Lib.hid h2
          have T2 := Lib.hid t2
          have G2 := Lib.hid g2
          obtain ⟨v, hbk, hv, rfl⟩ := h2
          have HB := Lib.hid hbk
          have HV := Lib.hid hv
          have hrs := hv.rd 0 (by omega)
          obtain ⟨Aw, nw, cw, ew, hlw, hcw, hrw, _⟩ := hv.rd 2 (by omega)
          replace hlw : wa.length = nw := hlw
          replace hrw : Reads w2 w2.heap.size 1 Aw nw (bts wa) := hrw
          have x2 : w2.cell? ⟨R, 2, none⟩ = some (.slice Aw nw cw) := by rw [hbk.cell, ← ew]; rfl
          have f2 : w2.frozen? ⟨R, 2, none⟩ = false := hbk.frozen 2
          clear t2 g2
          by_cases hlt : i < nw ∧ (i : Int) < k
          · obtain ⟨hi3, hi4⟩ := hlt
            obtain ⟨As, ns, cs, es, hls, hcs, hrd, _⟩ := id hrs
            have x1 : w2.cell? ⟨R, 0, none⟩ = some (.slice As ns cs) := by rw [hbk.cell, ← es]; rfl
            replace hrs : RefS w2 (.slice As ns cs) (sa ++ wa.take i) := by rw [← es]; exact hrs
            have hEs : v 0 = .slice As ns cs := es
            obtain ⟨bw, ow, rfl, hbw, hcell⟩ := hrw.u8 (by omega)
            have xb := hcell i hi3
            obtain ⟨x, hx⟩ : ∃ x, x = wa.getD i 0 := ⟨_, rfl⟩
            rw [← hx] at xb
            have hmore : sa ++ wa.take i ++ [x] = sa ++ wa.take (i + 1) := by rw [hx, List.append_assoc, take_more (by omega)]
            have z1 : (w2.alloc (Obj.cells #[.int .u8 x] 5)).cell? ⟨R, 0, none⟩ = some (.slice As ns cs) := (World.cell?_alloc_lt w2 _ ⟨R, 0, none⟩ hbk.lt).trans x1
            have hll : (sa ++ wa.take i).length + 1 ≤ 140737488355328 := by rw [List.length_append, List.length_take]; omega
            have HRs := Lib.hid hrs
            have HMo := Lib.hid hmore
            have HLL := Lib.hid hll
            have HEs := Lib.hid hEs
            have HI := Lib.hid (And.intro hi1 hi2)
            have hi5 : decide ((i : Int) < k) = true := decide_eq_true hi4
            have hi6 : (i : Int) < (nw : Int) := by omega
            clear hv hbk hrs hrd hcell hmore hll hls hcs hrw hx ew es hEs
            go_wp2_with fail
            go_region_law (refine stepR (w2.drew.alloc (Obj.cells #[.int .u8 x] 5)) rfl (.tmp 38) (.tmp 48) rfl (.slice As ns cs) (sa ++ wa.take i) rfl (HRs.out.drew.alloc _) (w2.heap.size + 1) (some ⟨w2.heap.size, 0, none⟩) 1 [x] 1 rfl (reads_new w2.drew _ _ _ 1 (bts [x]) rfl rfl (by show w2.heap.size < _; omega)) (by omega) HLL.out ?_; intro A9 n9 c9 w9 hown9 hg9 hat9; have hg := grown_from (below_drew_alloc w2 _) hg9; have hb9 := HB.out.grown hg (by rw [← HEs.out]; exact fun e => HV.out.ne 0 (by omega) e.symm); have y1 : w9.cell? ⟨R, 0, none⟩ = some (.slice As ns cs) := by { rw [hb9.cell, ← HEs.out]; rfl }; have y2 : w9.frozen? ⟨R, 0, none⟩ = false := hb9.frozen 0; have HG9 := Lib.hid hg; have HW9 := Lib.hid hown9; have HA9 := Lib.hid hat9; clear hown9 hg9 hat9 hg hb9)
            all_goals
              have P := RefV.put (k := 0) (d' := (⟨⟨sa ++ wa.take (i + 1), wa⟩, ⟨sb, wb⟩, true, cnt, left, keep⟩ : DK)) HB.out HV.out (by omega) (by rw [HEs.out]; exact HG9.out) (RefS.own HW9.out) HW9.out.lt (fun g e => by
                rw [HEs.out]
                rcases HA9.out g e with h1 | h1
                · exact .inl h1
                · refine .inr (Nat.le_trans ?_ h1)
                  simp) (four (HMo.out.symm) rfl rfl rfl) ⟨rfl, rfl, rfl, rfl⟩
              have HP := Lib.hid P
              clear P
              go_wp2
              go_roundw
              case rel => exact ⟨i + 1, _, by go_num, by omega, by have := HKn.out; omega, HP.out.1, T2.out.also G2.out HP.out.2.1, G2.out.trans HP.out.2.2 T2.out.size⟩
              case measure => simp [intOf]; omega
          · have hstop : wa.take i = wa.take kn := by
              have := HKn.out
              by_cases h5 : i < nw
              · have : i = kn := by omega
                rw [this]
              · rw [List.take_of_length_le (by omega), List.take_of_length_le (by omega)]
            have HSt := Lib.hid hstop
            have P := RefV.put (k := 2) (w1 := w2) (u := .slice none 0 0) (l := []) (d' := (⟨⟨sa ++ wa.take i, []⟩, ⟨sb, wb⟩, true, cnt, left, keep⟩ : DK)) HB.out HV.out (by omega) (grown_of_below (Below.refl _ _) _) (RefS.nil_ _) (fun g e => by simp [Value.ownBlock] at e) (fun g e => by simp [Value.ownBlock] at e) (four rfl rfl rfl rfl) ⟨rfl, rfl, rfl, rfl⟩
            have HP := Lib.hid P
            clear P hstop hv hbk hrs hrw
            by_cases h5 : i < nw
            · have h6 : ¬ (i : Int) < k := fun e => hlt ⟨h5, e⟩
              have h7 : decide ((i : Int) < k) = false := decide_eq_false h6
              clear hlt
              go_wp2
              go_roundw
              case rel =>
                refine ⟨1, _, by go_num, by omega, ?_, T2.out.also G2.out HP.out.2.1, G2.out.trans HP.out.2.2 T2.out.size⟩
                have := HP.out.1
                rw [HSt.out] at this
                exact this
              case measure => simp [intOf]
            · clear hlt
              go_wp2
              go_roundw
              case rel =>
                refine ⟨1, _, by go_num, by omega, ?_, T2.out.also G2.out HP.out.2.1, G2.out.trans HP.out.2.2 T2.out.size⟩
                have := HP.out.1
                rw [HSt.out] at this
                exact this
              case measure => simp [intOf]
      · rw [show ((1 : Nat) : Int) = 1 from rfl]
        go_wp2
        go_loopw [5] (fun j wr => ∃ (i : Nat) (S' : Nat → Prop), j = .int .i64 i ∧ i ≤ wb.length ∧ i ≤ kn ∧ DkR wr R (⟨⟨sa ++ wa.take kn, []⟩, ⟨sb ++ wb.take i, wb⟩, true, cnt, left, keep⟩ : DK) S' ∧ Turned S w wr ∧ From S S' w) (fun j _ => wb.length - (intOf j).toNat)
        case atStart => exact ⟨0, S1, rfl, by omega, by omega, by rw [List.take_zero, List.append_nil]; exact H1.out, T1.out, G1.out⟩
        case round =>
          obtain ⟨i, S2, rfl, hi1, hi2, h2, t2, g2⟩ := hrel
          obtain ⟨w2, rfl⟩ : ∃ w2 : World, w2 = wr := ⟨_, rfl⟩
          have H2 := Lib.hid h2
          have T2 := Lib.hid t2
          have G2 := Lib.hid g2
          obtain ⟨v, hbk, hv, rfl⟩ := h2
          have HB := Lib.hid hbk
          have HV := Lib.hid hv
          have hrs := hv.rd 1 (by omega)
          obtain ⟨Aw, nw, cw, ew, hlw, hcw, hrw, _⟩ := hv.rd 3 (by omega)
          replace hlw : wb.length = nw := hlw
          replace hrw : Reads w2 w2.heap.size 1 Aw nw (bts wb) := hrw
          have x2 : w2.cell? ⟨R, 3, none⟩ = some (.slice Aw nw cw) := by rw [hbk.cell, ← ew]; rfl
          have f2 : w2.frozen? ⟨R, 3, none⟩ = false := hbk.frozen 3
          clear t2 g2
          by_cases hlt : i < nw ∧ (i : Int) < k
          · obtain ⟨hi3, hi4⟩ := hlt
            obtain ⟨As, ns, cs, es, hls, hcs, hrd, _⟩ := id hrs
            have x1 : w2.cell? ⟨R, 1, none⟩ = some (.slice As ns cs) := by rw [hbk.cell, ← es]; rfl
            replace hrs : RefS w2 (.slice As ns cs) (sb ++ wb.take i) := by rw [← es]; exact hrs
            have hEs : v 1 = .slice As ns cs := es
            obtain ⟨bw, ow, rfl, hbw, hcell⟩ := hrw.u8 (by omega)
            have xb := hcell i hi3
            obtain ⟨x, hx⟩ : ∃ x, x = wb.getD i 0 := ⟨_, rfl⟩
            rw [← hx] at xb
            have hmore : sb ++ wb.take i ++ [x] = sb ++ wb.take (i + 1) := by rw [hx, List.append_assoc, take_more (by omega)]
            have z1 : (w2.alloc (Obj.cells #[.int .u8 x] 5)).cell? ⟨R, 1, none⟩ = some (.slice As ns cs) := (World.cell?_alloc_lt w2 _ ⟨R, 1, none⟩ hbk.lt).trans x1
            have hll : (sb ++ wb.take i).length + 1 ≤ 140737488355328 := by rw [List.length_append, List.length_take]; omega
            have HRs := Lib.hid hrs
            have HMo := Lib.hid hmore
            have HLL := Lib.hid hll
            have HEs := Lib.hid hEs
            have HI := Lib.hid (And.intro hi1 hi2)
            have hi5 : decide ((i : Int) < k) = true := decide_eq_true hi4
            have hi6 : (i : Int) < (nw : Int) := by omega
            clear hv hbk hrs hrd hcell hmore hll hls hcs hrw hx ew es hEs
            go_wp2_with fail
            go_region_law (refine stepR (w2.drew.alloc (Obj.cells #[.int .u8 x] 5)) rfl (.tmp 38) (.tmp 48) rfl (.slice As ns cs) (sb ++ wb.take i) rfl (HRs.out.drew.alloc _) (w2.heap.size + 1) (some ⟨w2.heap.size, 0, none⟩) 1 [x] 1 rfl (reads_new w2.drew _ _ _ 1 (bts [x]) rfl rfl (by show w2.heap.size < _; omega)) (by omega) HLL.out ?_; intro A9 n9 c9 w9 hown9 hg9 hat9; have hg := grown_from (below_drew_alloc w2 _) hg9; have hb9 := HB.out.grown hg (by rw [← HEs.out]; exact fun e => HV.out.ne 1 (by omega) e.symm); have y1 : w9.cell? ⟨R, 1, none⟩ = some (.slice As ns cs) := by { rw [hb9.cell, ← HEs.out]; rfl }; have y2 : w9.frozen? ⟨R, 1, none⟩ = false := hb9.frozen 1; have HG9 := Lib.hid hg; have HW9 := Lib.hid hown9; have HA9 := Lib.hid hat9; clear hown9 hg9 hat9 hg hb9)
            all_goals
              have P := RefV.put (k := 1) (d' := (⟨⟨sa ++ wa.take kn, []⟩, ⟨sb ++ wb.take (i + 1), wb⟩, true, cnt, left, keep⟩ : DK)) HB.out HV.out (by omega) (by rw [HEs.out]; exact HG9.out) (RefS.own HW9.out) HW9.out.lt (fun g e => by
                rw [HEs.out]
                rcases HA9.out g e with h1 | h1
                · exact .inl h1
                · refine .inr (Nat.le_trans ?_ h1)
                  simp) (four rfl (HMo.out.symm) rfl rfl) ⟨rfl, rfl, rfl, rfl⟩
              have HP := Lib.hid P
              clear P
              go_wp2
              go_roundw
              case rel => exact ⟨i + 1, _, by go_num, by omega, by have := HKn.out; omega, HP.out.1, T2.out.also G2.out HP.out.2.1, G2.out.trans HP.out.2.2 T2.out.size⟩
              case measure => simp [intOf]; omega
          · have hstop : wb.take i = wb.take kn := by
              have := HKn.out
              by_cases h5 : i < nw
              · have : i = kn := by omega
                rw [this]
              · rw [List.take_of_length_le (by omega), List.take_of_length_le (by omega)]
            have HSt := Lib.hid hstop
            have P := RefV.put (k := 3) (w1 := w2) (u := .slice none 0 0) (l := []) (d' := (⟨⟨sa ++ wa.take kn, []⟩, ⟨sb ++ wb.take i, []⟩, true, cnt, left, keep⟩ : DK)) HB.out HV.out (by omega) (grown_of_below (Below.refl _ _) _) (RefS.nil_ _) (fun g e => by simp [Value.ownBlock] at e) (fun g e => by simp [Value.ownBlock] at e) (four rfl rfl rfl rfl) ⟨rfl, rfl, rfl, rfl⟩
            have HP := Lib.hid P
            clear P hstop hv hbk hrs hrw
            by_cases h5 : i < nw
            · have h6 : ¬ (i : Int) < k := fun e => hlt ⟨h5, e⟩
              have h7 : decide ((i : Int) < k) = false := decide_eq_false h6
              clear hlt
              go_wp2
              go_roundw
              case rel =>
                refine ⟨2, _, by go_num, by omega, ?_, T2.out.also G2.out HP.out.2.1, G2.out.trans HP.out.2.2 T2.out.size⟩
                have := HP.out.1
                rw [HSt.out] at this
                exact this
              case measure => simp [intOf]
            · clear hlt
              go_wp2
              go_roundw
              case rel =>
                refine ⟨2, _, by go_num, by omega, ?_, T2.out.also G2.out HP.out.2.1, G2.out.trans HP.out.2.2 T2.out.size⟩
                have := HP.out.1
                rw [HSt.out] at this
                exact this
              case measure => simp [intOf]
      · obtain ⟨v, hbk, hv, hS1⟩ := H1.out
        have x4 : w1.cell? ⟨R, 4, none⟩ = some (.bool true) := by rw [hbk.cell]; rfl
        have f4 : w1.frozen? ⟨R, 4, none⟩ = false := hbk.frozen 4
        have x6 : w1.cell? ⟨R, 6, none⟩ = some (.int .i64 (left : Int)) := by rw [hbk.cell]; rfl
        have f6 : w1.frozen? ⟨R, 6, none⟩ = false := hbk.frozen 6
        have HR1 : Hid (S1 R) := Lib.hid H1.out.self
        have hd : DkR ((w1.setCell ⟨R, 4, none⟩ (.bool false)).setCell ⟨R, 6, none⟩ (.int .i64 0)) R (DK.offs k ⟨⟨sa, wa⟩, ⟨sb, wb⟩, true, cnt, left, keep⟩) S1 := by
          have h1 : DkR (w1.setCell ⟨R, 4, none⟩ (.bool false)) R ⟨⟨sa ++ wa.take kn, []⟩, ⟨sb ++ wb.take kn, []⟩, false, cnt, left, keep⟩ S1 := H1.out.num 4 _ rfl (fun v => rfl)
          have h2 := h1.num (d' := ⟨⟨sa ++ wa.take kn, []⟩, ⟨sb ++ wb.take kn, []⟩, false, cnt, 0, keep⟩) 6 (.int .i64 0) rfl (fun v => rfl)
          rw [HKn.out] at h2
          exact h2
        have HD := Lib.hid hd
        clear hbk hv hS1 hd
        go_wp2
        go_end0
        exact ⟨rfl, S1, HD.out, (T1.out.also G1.out (Turned.refl S1 w1)).trans (((Turned.refl S1 w1).set HR1.out _).set HR1.out _) (fun b hb hs => by
          rcases G1.out b hs with h1 | h1
          · exact h1
          · omega), G1.out⟩
end Go.Proofs.YtnpmccekkjadhaaDoor.Pk
