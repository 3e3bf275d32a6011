/- Three paths between three nodes, counted; a list of counts in memory. -/
import Derived.Test.YtohlgimbohkepaaTrRange
import Derived.Test.YtohlgimbohkepaaGrPath
namespace Go.Proofs.Ytohlgimbohkepaa.Gr
set_option linter.unusedVariables false
/-- Counts, as a list. -/
def numsF (f : Nat → Nat) (n : Nat) : List Int := (List.range n).map fun v => (f v : Int)
@[simp] theorem numsF_length (f : Nat → Nat) (n : Nat) : (numsF f n).length = n := by simp [numsF]
theorem numsF_get {f : Nat → Nat} {n v : Nat} (h : v < n) : (numsF f n).getD v 0 = (f v : Int) := by simp [numsF, List.getD, h]
theorem numsF_set {f g : Nat → Nat} {n t : Nat} (h : t < n) (hg : ∀ v, g v = if v = t then f v + 1 else f v) : (numsF f n).set t ((f t : Int) + 1) = numsF g n := by
  apply List.ext_getElem (by simp)
  intro i h1 h2
  have hi : i < n := by simpa using h2
  rw [List.getElem_set]
  simp only [numsF, List.getElem_map, List.getElem_range]
  rw [hg i]
  by_cases e : t = i
  · subst e; simp
  · rw [if_neg e, if_neg (fun h => e h.symm)]
theorem numsF_zero (n : Nat) : numsF (fun _ => 0) n = List.replicate n 0 := by
  apply List.ext_getElem (by simp)
  intro i h1 h2
  simp [numsF]
/-- How often a node stands in a list. -/
def cntF (l : List Int) (v : Nat) : Nat := l.count (v : Int)
theorem cntF_snoc (l : List Int) (t v : Nat) : cntF (l ++ [(t : Int)]) v = if v = t then cntF l v + 1 else cntF l v := by
  unfold cntF
  rw [List.count_append, List.count_singleton]
  by_cases h : v = t
  · subst h; simp
  · rw [if_neg h]
    have : ((t : Int) == (v : Int)) = false := by simp; omega
    rw [this]; rfl
theorem pathI_mem {ps : List Int} {a b x : Int} (G : Good ps) (h : x ∈ pathI ps a b) : ∃ t : Nat, x = (t : Int) ∧ t < ps.length := by
  unfold pathI at h
  split at h
  · rename_i hab
    obtain ⟨t, ht, rfl⟩ := List.mem_map.1 h
    have ha : a.toNat < ps.length := by omega
    have hb : b.toNat < ps.length := by omega
    exact ⟨t, rfl, ((G.way_path ha hb).mem G.rt ha hb t).1 ht |>.1⟩
  · cases h
theorem pathI_nat {ps : List Int} {a b : Nat} (ha : a < ps.length) (hb : b < ps.length) : pathI ps (a : Int) (b : Int) = ints (pathN ps a b) := by
  unfold pathI
  rw [if_pos (by omega), Int.toNat_natCast, Int.toNat_natCast]
theorem ints_nodup {l : List Nat} (h : l.Nodup) : (ints l).Nodup := by
  unfold ints
  exact List.Pairwise.map _ (fun a b hab e => hab (by omega)) h
theorem mem_ints {l : List Nat} {v : Nat} : (v : Int) ∈ ints l ↔ v ∈ l := by
  unfold ints
  rw [List.mem_map]
  constructor
  · rintro ⟨t, ht, e⟩
    have : t = v := by omega
    subst this; exact ht
  · intro h; exact ⟨v, h, rfl⟩
theorem cntF_path {ps : List Int} (G : Good ps) {a b v : Nat} (ha : a < ps.length) (hb : b < ps.length) : cntF (pathI ps (a : Int) (b : Int)) v ≤ 1 ∧ (cntF (pathI ps (a : Int) (b : Int)) v = 1 ↔ v < ps.length ∧ distL ps a v + distL ps v b = distL ps a b) := by
  have hw := G.way_path ha hb
  rw [pathI_nat ha hb]
  have hn := ints_nodup hw.nodup
  have h1 : cntF (ints (pathN ps a b)) v ≤ 1 := List.nodup_iff_count.1 hn _
  refine ⟨h1, ?_⟩
  have hm := hw.mem G.rt ha hb v
  constructor
  · intro h
    have : (v : Int) ∈ ints (pathN ps a b) := List.count_pos_iff.1 (by unfold cntF at h; omega)
    exact hm.1 (mem_ints.1 this)
  · intro h
    have : (v : Int) ∈ ints (pathN ps a b) := mem_ints.2 (hm.2 h)
    have h2 := List.count_pos_iff.2 this
    unfold cntF at h1 ⊢
    omega
theorem one_filter {n v : Nat} {p : Nat → Bool} (hv : v < n) (hp : p v = true) (ho : ∀ x, x < n → p x = true → x = v) : ((List.range n).filter p).length = 1 := by
  have hn : ((List.range n).filter p).Nodup := List.Pairwise.filter _ List.nodup_range
  have hm : ∀ x, x ∈ (List.range n).filter p ↔ x = v := by
    intro x
    rw [List.mem_filter, List.mem_range]
    constructor
    · rintro ⟨h1, h2⟩; exact ho x h1 h2
    · rintro rfl; exact ⟨hv, hp⟩
  match hl : (List.range n).filter p, hn, hm with
  | [], _, hm => have := (hm v).2 rfl; cases this
  | [y], _, _ => rfl
  | y :: z :: r, hn, hm =>
    have h1 := (hm y).1 (by simp)
    have h2 := (hm z).1 (by simp)
    rw [h1, h2] at hn
    simp at hn
theorem Good.meet_one {ps : List Int} (G : Good ps) {a b c : Nat} (ha : a < ps.length) (hb : b < ps.length) (hc : c < ps.length) :
    ((List.range ps.length).filter fun v => decide (cntF (pathI ps (a : Int) (b : Int)) v + cntF (pathI ps (b : Int) (c : Int)) v + cntF (pathI ps (c : Int) (a : Int)) v = 3)).length = 1 := by
  obtain ⟨v, hv, ⟨m1, m2, m3⟩, ho⟩ := G.rt.meet ha hb hc
  have key : ∀ x, x < ps.length → (cntF (pathI ps (a : Int) (b : Int)) x + cntF (pathI ps (b : Int) (c : Int)) x + cntF (pathI ps (c : Int) (a : Int)) x = 3 ↔
      (distL ps a x + distL ps x b = distL ps a b ∧ distL ps b x + distL ps x c = distL ps b c ∧ distL ps c x + distL ps x a = distL ps c a)) := by
    intro x hx
    obtain ⟨k1, e1⟩ := cntF_path G (v := x) ha hb
    obtain ⟨k2, e2⟩ := cntF_path G (v := x) hb hc
    obtain ⟨k3, e3⟩ := cntF_path G (v := x) hc ha
    constructor
    · intro h
      exact ⟨(e1.1 (by omega)).2, (e2.1 (by omega)).2, (e3.1 (by omega)).2⟩
    · rintro ⟨h1, h2, h3⟩
      have := e1.2 ⟨hx, h1⟩
      have := e2.2 ⟨hx, h2⟩
      have := e3.2 ⟨hx, h3⟩
      omega
  exact one_filter hv (decide_eq_true ((key v hv).2 ⟨m1, m2, m3⟩)) (fun x hx hp => ho x hx ((key x hx).1 (of_decide_eq_true hp)))
end Go.Proofs.Ytohlgimbohkepaa.Gr
namespace Go.Proofs.Ytohlgimbohkepaa.Pk
open Go.RowKit Go.Shelf Go.Proofs.Ytohlgimbohkepaa.Gr
set_option linter.unusedVariables false
theorem stay_setAt {D : Nat → Prop} {V : World} {x o : Nat} {u : Value} (hx : ¬ D x) : Stay D V (V.setCell ⟨x, o, none⟩ u) :=
  ⟨by simp [World.setCell], fun b hb => Below.heap_setCell _ ⟨x, o, none⟩ _ b (fun e => hx (by simp at e; subst e; exact hb))⟩
theorem own_blks {β : Type} (B x : Nat) (t : TypeId) (f : β → Array Value) : OwnFrom (β := β) B (fun s W => Blk W x t (f s)) := Own.from (I := fun (s : β) W => Blk W x t (f s)) (fun s A W row hs hg hr => blk_kept hs hg hr) B
theorem Blk.lt_blk {W : World} {g : Nat} {ds : List Int} (h : BlkN W g ds) : Blk W g 3 (nms ds).toArray := h
/-- What the law TreeMeets knows between its ranges. -/
structure MeetAt (w : World) (u xb go T g n : Nat) (l : List Int) (x y z : Int) (W : World) (f : Nat → Nat) : Prop where
  on : BlkN W go (numsF f n)
  box : Blk W xb 22 #[.slice (some ⟨go, 0, none⟩) n n]
  ends : Blk W u 40 #[.int .i64 x, .int .i64 y, .int .i64 z]
  tr : IsTr W T g l
  bel : Below w.heap.size w W
  ne : go ≠ xb ∧ go ≠ u ∧ go ≠ T ∧ go ≠ g ∧ w.heap.size ≤ go
section
variable {w : World} {u xb go T g n : Nat} {l : List Int} {x y z : Int} {W V : World} {f f' : Nat → Nat}
theorem MeetAt.step (h : MeetAt w u xb go T g n l x y z W f) (hb : Below W.heap.size W V) : MeetAt w u xb go T g n l x y z V f :=
  ⟨Blk.below h.on hb (Blk.lt h.on), h.box.below hb h.box.lt, h.ends.below hb h.ends.lt, h.tr.below_ hb, h.bel.trans (hb.mono h.bel.size), h.ne⟩
theorem MeetAt.turn (h : MeetAt w u xb go T g n l x y z W f) (hO : Only W V go) (hb : BlkN V go (numsF f' n)) : MeetAt w u xb go T g n l x y z V f' :=
  ⟨hb, hO.blk h.box (Ne.symm h.ne.1), hO.blk h.ends (Ne.symm h.ne.2.1), hO.tr h.tr (fun b hb => by rcases hb with rfl | rfl; exact Ne.symm h.ne.2.2.1; exact Ne.symm h.ne.2.2.2.1), Only.below h.bel hO h.ne.2.2.2.2 h.bel.size, h.ne⟩
end
end Go.Proofs.Ytohlgimbohkepaa.Pk
