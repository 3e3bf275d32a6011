/- Numbers of any slice behind those of the call's own; one of one's own turned. -/
import Derived.Test.YtiaafhcfeeekeaaZStMath
import Derived.Test.YtiaafhcfeeekeaaZTrCheck
import Derived.Test.YtiaafhcfeeekeaaZStay0
import Derived.Test.YtiaafhcfeeekeaaZRange
import Derived.Lib.SliceRun
import Derived.Laws.OwnMore
namespace Go.Proofs.Ytiaafhcfeeekeaa.Pk
open Go.RowKit
set_option linter.unusedVariables false
/-- Numbers of any slice behind those of the call's own. -/
theorem appNs {ops : Array Oper} {rest : List Oper} {o : Oper} {a : Act} {Q : Exit → Act → World → Prop} (w : World) (hgd : o.guard = none) (s x : Operand)
    (ho : o.op = .call { callee := .builtin .append, args := #[s, x], argTypes := #[22, 22] }) (B : Nat) (v : Value) (l : List Int) (hs : a.eval s = v) (hown : OwnN w B v l)
    (B' : Nat) (A : Option Addr) (c : Nat) (r : List Int) (n : Nat) (hx : a.eval x = .slice A n c) (hr : Reads w B' 1 A n (nms r)) (hlen : (l.length + n) * 8 ≤ 140737488355328) (hB : B ≤ w.heap.size)
    (h : ∀ v' w', OwnN w' B v' (l ++ r) → Below B w w' → (v'.ownBlock = v.ownBlock ∨ v'.ownBlock = some w.heap.size) → w.grownBy w' v.ownBlock → wpList Try.prog ops Q rest (a.put o.dst v') w') : wpList Try.prog ops Q (o :: rest) a w := by
  obtain ⟨i0, hi0, hz0, hz1, hz2⟩ := info_parts int_info
  refine wpList_append_any _ hgd s x _ ho B 3 i0 _ 1 8 Try.underlying22 hi0 hz0 hz1 hz2 rfl (by omega) v l.length (nms l) hs hown B' A n c (nms r) hx hr (nms_one r)
    (by unfold maxLen; omega) (by omega) hB ?_
  intro v' w' ho hg hat
  have hr' : r.length = n := by have := hr.1; simp [nms] at this; omega
  refine h v' w' ?_ ((Below.refl _ _).grown hg hB (ownN_base hown)) hat hg
  unfold OwnN
  rw [← nms_append, List.length_append, hr']; exact ho
theorem OwnN.fresh (w : World) (B : Nat) (hB : B ≤ w.heap.size) : OwnN (w.alloc (.cells #[] 3)) B (.slice (some ⟨w.heap.size, 0, none⟩) 0 0) [] :=
  ⟨rfl, .inr ⟨w.heap.size, 0, #[], rfl, hB, heap_alloc_new w _, Nat.le_refl _, by unfold maxLen; omega, rfl, rfl⟩⟩
/-- Numbers of any slice behind an empty literal. -/
theorem appNE {ops : Array Oper} {rest : List Oper} {o : Oper} {a : Act} {Q : Exit → Act → World → Prop} (w : World) (hgd : o.guard = none) (s x : Operand)
    (ho : o.op = .call { callee := .builtin .append, args := #[s, x], argTypes := #[22, 22] }) (hs : a.eval s = .slice (some ⟨w.heap.size, 0, none⟩) 0 0)
    (B' : Nat) (A : Option Addr) (c : Nat) (r : List Int) (n : Nat) (hx : a.eval x = .slice A n c) (hr : Reads w B' 1 A n (nms r)) (hB' : B' ≤ w.heap.size) (hlen : n * 8 ≤ 140737488355328)
    (h : ∀ v' w', OwnN w' w.heap.size v' r → Below w.heap.size w w' → wpList Try.prog ops Q rest (a.put o.dst v') w') : wpList Try.prog ops Q (o :: rest) a (w.alloc (.cells #[] 3)) := by
  refine appNs _ hgd s x ho w.heap.size _ [] hs (OwnN.fresh w _ (Nat.le_refl _)) B' A c r n hx (hr.alloc hB' _) (by simp; omega) (by simp) ?_
  intro v' w' ho' hb' _ _
  exact h v' w' (by simpa using ho') (((Below.refl _ _).alloc (Nat.le_refl _) _).trans hb')

/-- One number of one's own is turned. -/
theorem OwnN.set_ {w : World} {B g n c : Nat} {l : List Int} (h : OwnN w B (.slice (some ⟨g, 0, none⟩) n c) l) (i : Nat) (x : Int) : OwnN (w.setCell ⟨g, i, none⟩ (.int .i64 x)) B (.slice (some ⟨g, 0, none⟩) n c) (l.set i x) := by
  obtain ⟨h1, ⟨e, _⟩ | ⟨g', cap, cur, e, hb, hh, h3, h4, h5, h6⟩⟩ := h
  · cases e
  · simp only [Value.slice.injEq, Option.some.injEq, Addr.mk.injEq] at e
    obtain ⟨⟨rfl, _⟩, rfl, rfl⟩ := e
    have hk : Blk (w.setCell ⟨g, i, none⟩ (.int .i64 x)) g 3 (cur.setIfInBounds i (.int .i64 x)) := Blk.set_ hh i _
    refine ⟨by simp [nms], .inr ⟨g, c, _, by simp, hb, hk, by simpa using h3, h4, by simpa using h5, ?_⟩⟩
    rw [Array.toList_setIfInBounds, List.length_set, List.take_set, h6]
    simp [nms]
theorem OwnN.at_ {w : World} {B g n c : Nat} {l : List Int} (h : OwnN w B (.slice (some ⟨g, 0, none⟩) n c) l) : n = l.length ∧ B ≤ g ∧ g < w.heap.size ∧ (∀ i, i < n → w.cell? ⟨g, i, none⟩ = some (.int .i64 (l.getD i 0))) ∧ ∀ i, w.frozen? ⟨g, i, none⟩ = false := by
  have hlt := ownN_lt h g rfl
  have hbs := ownN_base h g rfl
  obtain ⟨A, c', e, hc, hr⟩ := h.reads
  obtain ⟨h1, ⟨e', _⟩ | ⟨g', cap, cur, e', hb, hh, h3, h4, h5, h6⟩⟩ := h
  · cases e'
  · simp only [Value.slice.injEq, Option.some.injEq, Addr.mk.injEq] at e e'
    obtain ⟨⟨rfl, _⟩, rfl, rfl⟩ := e'
    obtain ⟨rfl, hn, rfl⟩ := e
    refine ⟨hn, hbs, hlt, fun i hi => ?_, fun i => Blk.frozen (t := 3) (cs := cur) hh i⟩
    obtain ⟨b, off, eb, _, hcell⟩ := hr.i64 (by omega)
    simp only [Option.some.injEq, Addr.mk.injEq] at eb
    obtain ⟨rfl, rfl, _⟩ := eb
    have := hcell i (by omega)
    simpa using this

end Go.Proofs.Ytiaafhcfeeekeaa.Pk

/- Package tree: a tree in memory; New, Size, Root, has. -/
namespace Go.Proofs.Ytiaafhcfeeekeaa.Pk
open Go.RowKit Go.Proofs.Ytiaafhcfeeekeaa.Gr
set_option linter.unusedVariables false

theorem run_eql_nil (W : World) (b off n c : Nat) : (binOp .eql 22 (.slice (some ⟨b, off, none⟩) n c) (.slice none 0 0)).run Try.prog W = .ok (.bool false) W :=
  Lib.run_eql_slice_nil W _ _ (some ⟨b, off, none⟩) n c 0 0 Try.underlying22
/-- A copy of numbers, if there are some. -/
theorem clone_any (A : Option Addr) (n c : Nat) (ps : List Int) (w : World) (B : Nat) (hr : Reads w B 1 A n (nms ps)) (hB : B ≤ w.heap.size) (h0 : 0 < n) (hlen : n * 8 ≤ 140737488355328) :
    Calls Try.prog 21 #[.slice A n c] w fun e w' => ∃ v, e = .returned v ∧ OwnN w' w.heap.size v ps ∧ Below w.heap.size w w' := by
  have HR := Lib.hid hr
  obtain ⟨b, off, rfl, hbb, hc⟩ := hr.pa h0
  clear hr hc
  have E0 := run_eql_nil w b off n c
  go_enter Try.func21, Try.ntmps21
  go_wp2_with (at_builtin; refine appNE w rfl (.tmp 5) (.tmp 6) rfl rfl B (some ⟨b, off, none⟩) c ps n rfl HR.out hB hlen ?_; intro v2 w2 hown2 hb2; have HO := Lib.hid hown2; have HB := Lib.hid hb2; clear hown2 hb2)
  go_ret
  exact ⟨_, rfl, HO.out, HB.out⟩

/-- The tree in block T, its list in block g. -/
def IsTr (w : World) (T g : Nat) (ps : List Int) : Prop := ∃ c cur, Blk w T 68 #[.slice (some ⟨g, 0, none⟩) ps.length c] ∧ Blk w g 3 cur ∧ cur.toList.take ps.length = nms ps ∧ ps.length ≤ c
/-- The tree's blocks. -/
def TrB (T g : Nat) (b : Nat) : Prop := b = T ∨ b = g
theorem Stay.only {D : Nat → Prop} {w w' : World} {x : Nat} (h : Only w w' x) (hD : ∀ b, D b → b < w.heap.size ∧ b ≠ x) : Stay D w w' :=
  ⟨h.size, fun b hb => h.block b (hD b hb).1 (fun e => (hD b hb).2 (by injection e))⟩
section
variable {w w' : World} {T g : Nat} {ps : List Int}
theorem IsTr.stay (h : IsTr w T g ps) (hs : Stay (TrB T g) w w') : IsTr w' T g ps := by
  obtain ⟨c, cur, h1, h2, h3⟩ := h
  exact ⟨c, cur, (hs.2 T (.inl rfl)).trans h1, (hs.2 g (.inr rfl)).trans h2, h3⟩
theorem IsTr.lt (h : IsTr w T g ps) : ∀ b, TrB T g b → b < w.heap.size := by
  obtain ⟨c, cur, h1, h2, h3⟩ := h
  rintro b (rfl | rfl)
  · exact h1.lt
  · exact h2.lt
theorem IsTr.below {B : Nat} (h : IsTr w T g ps) (hb : Below B w w') (hB : ∀ b, TrB T g b → b < B) : IsTr w' T g ps := h.stay (Stay.below hb hB)
theorem IsTr.below_ (h : IsTr w T g ps) (hb : Below w.heap.size w w') : IsTr w' T g ps := h.below hb h.lt
theorem IsTr.drewN (h : IsTr w T g ps) (k : Nat) : IsTr (w.drewN k) T g ps := h.stay ⟨Nat.le_refl _, fun _ _ => rfl⟩
theorem IsTr.alloc (h : IsTr w T g ps) (o : Obj) : IsTr (w.alloc o) T g ps := h.below_ ((Below.refl _ _).alloc (Nat.le_refl _) _)
/-- What its functions load. -/
theorem IsTr.cells (h : IsTr w T g ps) : ∃ c, ps.length ≤ c ∧ w.cell? ⟨T, 0, none⟩ = some (.slice (some ⟨g, 0, none⟩) ps.length c) ∧ Reads w w.heap.size 1 (some ⟨g, 0, none⟩) ps.length (nms ps) ∧ ∀ v, v < ps.length → w.cell? ⟨g, v, none⟩ = some (.int .i64 (pa ps v)) := by
  obtain ⟨c, cur, h1, h2, h3, h4⟩ := h
  have hcell : ∀ j u, (nms ps)[j]? = some u → w.cell? ⟨g, j, none⟩ = some u := by
    intro j u hu
    rw [h2.cell]
    rw [← h3] at hu
    rw [← hu, List.getElem?_take]
    split
    · simp
    · rename_i hj
      rw [List.getElem?_take, if_neg hj] at hu
      cases hu
  refine ⟨c, h4, h1.cell 0, ⟨by simp, fun _ => ⟨_, rfl, h2.lt, fun j u hu => ?_⟩⟩, fun v hv => ?_⟩
  · have e : (⟨g, 0, none⟩ : Addr).add j = ⟨g, j, none⟩ := by unfold Addr.add; by_cases hj : j = 0 <;> simp [hj]
    rw [e]; exact hcell j u hu
  · have := hcell v _ (nms_get hv)
    rw [this, pa_get hv]
end
/-- What New leaves. -/
def NewR (ps : List Int) (w : World) (e : Ending) (w' : World) : Prop :=
  Below w.heap.size w w' ∧ ((∃ T g, e = .returned (.tuple #[.pointer (some ⟨T, 0, none⟩), .int .i64 0]) ∧ ChkIs ps 0 0 ∧ IsTr w' T g ps ∧ w.heap.size ≤ T ∧ w.heap.size ≤ g ∧ T ≠ g) ∨
    (∃ p er, e = .returned (.tuple #[.pointer none, .int .i64 er]) ∧ ChkIs ps p er ∧ er ≠ 0))
theorem ChkIs.code {ps : List Int} {p er : Int} (h : ChkIs ps p er) : er = 0 ∨ er = 1 ∨ er = 3 ∨ er = 10 := by
  rcases h with ⟨a, b, c⟩ | ⟨a, b, c⟩ | ⟨a, ⟨v, v1, v2, v3, v4, v5⟩ | ⟨n1, ⟨v, v1, v2, v3, v4, v5⟩ | ⟨n2, v2, v3⟩⟩⟩ <;> omega
set_option maxHeartbeats 2000000 in
theorem new_any (A : Option Addr) (n c : Nat) (ps : List Int) (w : World) (B : Nat) (hr : Reads w B 1 A n (nms ps)) (hB : B ≤ w.heap.size) (hbig : n ≤ 4611686018427387904) :
    Calls Try.prog 11 #[.slice A n c] w (NewR ps w) := by
  have HL := Lib.hid hr.plen
  have HR := Lib.hid hr
  have HC := Lib.hid (chk_any A n c ps w B hr hbig)
  clear hr
  go_enter Try.func11, Try.ntmps11
  go_wp2_with fail
  refine HC.out.mono ?_
  rintro e w1 ⟨p, er, rfl, hck, rfl⟩
  by_cases he : er = 0
  · subst he
    obtain ⟨G, rfl⟩ := hck.good
    have HK := Lib.hid hck
    clear hck
    have hn : 0 < n ∧ n ≤ 32 := by have h1 := G.pos; have h2 := G.few; rw [HL.out] at h1 h2; exact ⟨h1, h2⟩
    obtain ⟨hn1, hn2⟩ := hn
    have HCl := Lib.hid (clone_any A n c ps w1 B HR.out hB hn1 (by omega))
    go_wp2_with (go_at_call 21; go_must (refine HCl.out.mono ?_); rintro e w2 ⟨v, rfl, hown, hbel⟩; obtain ⟨hpl, ⟨rfl, hz⟩ | ⟨g, cap, cur, rfl, hg, hh, hcap, hmx, hsz, htk⟩⟩ := hown)
    · have := G.pos; omega
    · go_ret2
      have hb2 := hbel.alloc hbel.size (.cells #[.slice (some ⟨g, 0, none⟩) ps.length cap] 68)
      have hlt : g < w2.heap.size := Blk.lt (t := 3) (cs := cur) hh
      refine ⟨hb2, .inl ⟨w2.heap.size, g, rfl, HK.out, ⟨cap, cur, Blk.new w2 _ _, Blk.alloc hh _, ?_, hcap⟩, hbel.size, hg, by omega⟩⟩
      rw [← htk, Nat.mul_one]
  · have HK := Lib.hid hck
    have t1 : (er != 0) = true := by simp [he]
    have HE := Lib.hid he
    clear hck he
    go_wp2
    go_ret2
    exact ⟨Below.refl _ _, .inr ⟨p, er, rfl, HK.out, HE.out⟩⟩

theorem size_any (T g : Nat) (ps : List Int) (w : World) (h : IsTr w T g ps) :
    Calls Try.prog 48 #[.pointer (some ⟨T, 0, none⟩)] w fun e w' => e = .returned (.int .i64 (ps.length : Nat)) ∧ w' = w := by
  obtain ⟨c, hc, X, _, _⟩ := h.cells
  clear h
  go_enter Try.func48, Try.ntmps48
  go_wp2_with fail
  go_ret
  exact ⟨rfl, rfl⟩
/-- Is there such a node? -/
def hasB (ps : List Int) (v : Int) : Bool := decide (0 ≤ v ∧ v < (ps.length : Int))
theorem has_any (T g : Nat) (ps : List Int) (v : Int) (w : World) (h : IsTr w T g ps) :
    Calls Try.prog 54 #[.pointer (some ⟨T, 0, none⟩), .int .i64 v] w fun e w' => e = .returned (.bool (hasB ps v)) ∧ w' = w := by
  have HS := Lib.hid (size_any T g ps w h)
  clear h
  go_enter Try.func54, Try.ntmps54
  by_cases h1 : 0 ≤ v
  · by_cases h2 : v < (ps.length : Int)
    · have HE : Hid (hasB ps v = true) := Lib.hid (decide_eq_true ⟨h1, h2⟩)
      go_wp2_with (go_at_call 48; go_must (refine HS.out.mono ?_); rintro e w1 ⟨rfl, rfl⟩)
      go_ret
      exact ⟨by rw [HE.out]; rfl, rfl⟩
    · have HE : Hid (hasB ps v = false) := Lib.hid (decide_eq_false (fun h => h2 h.2))
      have HT : Hid (decide (v < (ps.length : Int)) = false) := Lib.hid (decide_eq_false h2)
      clear h2
      go_wp2_with (go_at_call 48; go_must (refine HS.out.mono ?_); rintro e w1 ⟨rfl, rfl⟩)
      go_ret
      refine ⟨?_, rfl⟩
      rw [HE.out, ← HT.out]; rfl
  · have HE : Hid (hasB ps v = false) := Lib.hid (decide_eq_false (fun h => h1 h.1))
    have h1' : v < 0 := by omega
    clear h1
    go_wp2_with fail
    go_ret
    exact ⟨by rw [HE.out]; rfl, rfl⟩
end Go.Proofs.Ytiaafhcfeeekeaa.Pk

/- States that are handed over. -/
namespace Go.Proofs.Ytiaafhcfeeekeaa.Pk
open Go.RowKit Go.Proofs.Ytiaafhcfeeekeaa.Gr
set_option linter.unusedVariables false
/-- Numbers that are handed over. -/
structure InN (w : World) (l : List Int) (A : Option Addr) (n c : Nat) : Prop where
  rd : Reads w w.heap.size 1 A n (nms l)
  cap : n ≤ c
  few : n ≤ 17592186044416
  i : ∀ x ∈ l, I64 x
theorem InN.len {w : World} {l : List Int} {A : Option Addr} {n c : Nat} (h : InN w l A n c) : l.length = n := h.rd.plen
theorem InN.next {w w' : World} {l : List Int} {A : Option Addr} {n c : Nat} (h : InN w l A n c) (hb : Below w.heap.size w w') : InN w' l A n c := ⟨(h.rd.below hb).more hb.size, h.cap, h.few, h.i⟩
def homesE (n : Nat) (hs : List Int) : Int := if HomesS n hs then 0 else 1
def firstE (ps hs : List Int) (me : Int) : St × Int := if HomesS ps.length hs ∧ 0 ≤ me ∧ me < (ps.length : Int) then (firstS ps hs me, 0) else (St.zero, 1)
/-- Small enough to be handed over. -/
structure FewS (s : St) : Prop where
  me : I64 s.me
  q : I64 s.q
  os : s.os.length * 40 ≤ 140737488351232
  es : s.es.length * 48 ≤ 140737488351232
  as_ : s.as_.length * 16 ≤ 140737488351232
  gs : s.gs.length * 24 ≤ 140737488351232
  o : ∀ x ∈ s.os, I64 x.a ∧ I64 x.m ∧ x.c.length * 32 ≤ 140737488351232 ∧ ∀ y ∈ x.c, y.I
  e : ∀ x ∈ s.es, I64 x.p ∧ I64 x.b ∧ I64 x.s ∧ x.o.length * 40 ≤ 140737488351232 ∧ ∀ y ∈ x.o, y.I
  a : ∀ x ∈ s.as_, I64 x.o ∧ I64 x.n
  g : ∀ x ∈ s.gs, I64 x.o ∧ I64 x.n ∧ I64 x.w
theorem OwnS.few {w : World} {B : Nat} {s : StL} (h : OwnS w B s) (hf : FewS s.v) : InS w s := by
  have rd : ∀ {α : Type} {R : Row α} {sl : Sl} {l : List α}, R.Own w B sl.val l → l.length * R.by_ ≤ 140737488351232 → InR R w sl l := by
    intro α R sl l ho hl
    obtain ⟨h1, h2, h3⟩ := Row.Own.rd ho
    exact ⟨h3, h2, by rw [← h1]; exact hl⟩
  have ho : ∀ x ∈ s.os, x.v ∈ s.v.os := fun x hx => List.mem_map.2 ⟨x, hx, rfl⟩
  have he : ∀ x ∈ s.es, x.v ∈ s.v.es := fun x hx => List.mem_map.2 ⟨x, hx, rfl⟩
  refine ⟨hf.me, hf.q, rd h.os.row (by have := hf.os; unfold StL.v at this; simp only [List.length_map] at this; exact this), rd h.es.row (by have := hf.es; unfold StL.v at this; simp only [List.length_map] at this; exact this), rd h.as_ hf.as_, rd h.gs hf.gs, fun x hx => ?_, fun x hx => ?_, hf.a, hf.g⟩
  · obtain ⟨h1, h2, h3, h4⟩ := hf.o _ (ho x hx)
    exact ⟨h1, h2, rd (h.os.each x hx) h3, h4⟩
  · obtain ⟨h1, h2, h3, h4, h5⟩ := hf.e _ (he x hx)
    exact ⟨h1, h2, h3, rd (h.es.each x hx) h4, h5⟩
theorem InS.few {w : World} {s : StL} (h : InS w s) : FewS s.v := by
  have hmap : s.v.os = s.os.map (·.v) := rfl
  have hmap2 : s.v.es = s.es.map (·.v) := rfl
  refine ⟨h.me, h.q, by rw [hmap, List.length_map, h.os.len]; exact h.os.few, by rw [hmap2, List.length_map, h.es.len]; exact h.es.few, by have := h.as_.few; rw [← h.as_.len] at this; exact this, by have := h.gs.few; rw [← h.gs.len] at this; exact this, fun x hx => ?_, fun x hx => ?_, h.a, h.g⟩
  · obtain ⟨y, hy, rfl⟩ := List.mem_map.1 hx
    have k := h.o y hy
    exact ⟨k.a, k.m, by have := k.c.few; rw [← k.c.len] at this; exact this, k.i⟩
  · obtain ⟨y, hy, rfl⟩ := List.mem_map.1 hx
    have k := h.e y hy
    exact ⟨k.p, k.b, k.s, by have := k.o.few; rw [← k.o.len] at this; exact this, k.i⟩
theorem firstS_few {ps hs : List Int} (G : Gr.Good ps) {me : Int} (h0 : 0 ≤ me) (h1 : me < (ps.length : Int)) (hh : HomesS ps.length hs) : FewS (firstS ps hs me) := by
  have hn := G.few
  have gs := first_good G hn h0 h1 hh
  have hb : ∀ v ∈ nbsI ps me, 0 ≤ v ∧ v < (ps.length : Int) := by
    intro v hv
    unfold nbsI at hv
    rw [if_pos ⟨h0, h1⟩] at hv
    unfold nbs at hv
    obtain ⟨u, hu, rfl⟩ := List.mem_map.1 hv
    have := List.mem_range.1 (List.mem_filter.1 hu).1
    omega
  have hl : (nbsI ps me).length ≤ 32 := by
    unfold nbsI
    split
    · exact Nat.le_trans (nbs_len _ _ _) hn
    · simp
  refine ⟨⟨by show _ ≤ me; omega, by show me ≤ _; omega⟩, ⟨by show (_ : Int) ≤ 0; omega, by show (0 : Int) ≤ _; omega⟩, by have := gs.many.2; omega, by unfold firstS; simp only [List.length_map]; omega, by unfold firstS; simp, by unfold firstS; simp, fun x hx => ?_, fun x hx => ?_, fun x hx => (by unfold firstS at hx; simp at hx), fun x hx => (by unfold firstS at hx; simp at hx)⟩
  · have k := gs.os x hx
    have hx0 := hx
    obtain ⟨h, hh2, rfl⟩ := List.mem_map.1 hx
    refine ⟨?_, ⟨by show (_ : Int) ≤ 0; omega, by show (0 : Int) ≤ _; omega⟩, ?_, fun y hy => ?_⟩
    · rcases k.1 with e | e
      · rw [e]; exact ⟨by show _ ≤ me; omega, by show me ≤ _; omega⟩
      · have := hb _ e; constructor <;> omega
    · show (if h = me then [(⟨0, 3, -1, 0⟩ : Ce)] else []).length * 32 ≤ _
      split <;> simp
    · have hy : y ∈ (if h = me then [(⟨0, 3, -1, 0⟩ : Ce)] else []) := hy
      split at hy
      · rw [List.mem_singleton.1 hy]
        exact ⟨by constructor <;> simp, by constructor <;> simp, by constructor <;> simp, by constructor <;> simp⟩
      · cases hy
  · obtain ⟨v, hv, rfl⟩ := List.mem_map.1 hx
    have := hb v hv
    exact ⟨⟨by show _ ≤ v; omega, by show v ≤ _; omega⟩, ⟨by show (_ : Int) ≤ 0; omega, by show (0 : Int) ≤ _; omega⟩, ⟨by show (_ : Int) ≤ 0; omega, by show (0 : Int) ≤ _; omega⟩, by simp, fun y hy => by cases hy⟩
end Go.Proofs.Ytiaafhcfeeekeaa.Pk

/- Elements of a row of one's own that are written over; a row whose lists are copied one by one. -/
namespace Go.Proofs.Ytiaafhcfeeekeaa.Pk
open Go.RowKit
set_option linter.unusedVariables false
namespace Row
variable {α : Type} {R : Row α}
theorem cells_set {l : List α} {i j : Nat} {x x' : α} {u : Value} (hi : l[i]? = some x) (hj : j < R.k) (he : R.enc x' = (R.enc x).set j u) : R.cells (l.set i x') = (R.cells l).set (i * R.k + j) u := by
  induction l generalizing i with
  | nil => simp at hi
  | cons y l ih =>
    match i, hi with
    | 0, hi =>
      simp at hi; subst hi
      rw [List.set_cons_zero, R.cells_cons, R.cells_cons, Nat.zero_mul, Nat.zero_add, List.set_append_left _ _ (by rw [R.len]; exact hj), he]
    | i + 1, hi =>
      have h := ih (i := i) (by simpa using hi)
      rw [List.set_cons_succ, R.cells_cons, R.cells_cons, List.set_append_right _ _ (by rw [R.len, Nat.add_mul]; omega), R.len, h, show (i + 1) * R.k + j - R.k = i * R.k + j by rw [Nat.add_mul]; omega]
/-- One cell of an element is written. -/
theorem Own.put1 {w : World} {B g n c i j : Nat} {l : List α} {x x' : α} {u : Value} (h : R.Own w B (.slice (some ⟨g, 0, none⟩) n c) l) (hi : l[i]? = some x) (hj : j < R.k) (he : R.enc x' = (R.enc x).set j u) :
    R.Own (w.setCell ⟨g, i * R.k + j, none⟩ u) B (.slice (some ⟨g, 0, none⟩) n c) (l.set i x') := by
  rcases h with ⟨h, e⟩ | ⟨rfl, A, e⟩
  · left
    refine ⟨?_, e⟩
    have hn : l.length = n := (Own.rd (.inl ⟨h, e⟩)).1
    rw [hn] at h
    have := (h.stored (i * R.k + j) u).1
    rw [← cells_set hi hj he] at this
    rw [List.length_set, hn]
    exact this
  · simp at hi
end Row
theorem OwnE.stay_ {w w' : World} {B : Nat} {v : Value} {l : List SdL} (h : OwnE w B v l) (hk : ∀ g, ∀ u ∈ v :: sdS l, ownB u = some g → w'.heap[g]? = w.heap[g]?) : OwnE w' B v l :=
  ⟨h.row.stay fun g e => hk g _ List.mem_cons_self e, fun x hx => (h.each x hx).stay fun g e => hk g _ (List.mem_cons_of_mem _ (List.mem_map.2 ⟨x, hx, rfl⟩)) e, h.apart⟩
theorem below_setc {B : Nat} {a w : World} (h : Below B a w) {g : Nat} (hg : B ≤ g) (j : Nat) (u : Value) : Below B a (w.setCell ⟨g, j, none⟩ u) := h.setCell (p := ⟨g, j, none⟩) hg u
theorem blk_other {w : World} {g k : Nat} {T : TypeId} {cs : Array Value} (h : Blk w g T cs) (hk : g ≠ k) (j : Nat) (u : Value) : Blk (w.setCell ⟨k, j, none⟩ u) g T cs := (setc_other w k j u g hk).trans h
theorem ownB_some {g n c : Nat} (hc : c ≠ 0) : ownB (.slice (some ⟨g, 0, none⟩) n c) = some g := by simp [ownB, hc]
/-- The first objects' cells are copies already; the others' are the old ones. -/
structure HalfO (w : World) (B : Nat) (v : Value) (new rest : List OwL) : Prop where
  row : owR.Own w B v (new ++ rest)
  each : ∀ x ∈ new, ceR.Own w B x.s.val x.v.c
  apart : Apart (v :: owS new)
structure HalfE (w : World) (B : Nat) (v : Value) (new rest : List SdL) : Prop where
  row : sdR.Own w B v (new ++ rest)
  each : ∀ x ∈ new, mgR.Own w B x.s.val x.v.o
  apart : Apart (v :: sdS new)
theorem HalfO.begin {w : World} {B : Nat} {v : Value} {l : List OwL} (h : owR.Own w B v l) : HalfO w B v [] l := ⟨h, fun x hx => (by cases hx), Apart.one _⟩
theorem HalfE.begin {w : World} {B : Nat} {v : Value} {l : List SdL} (h : sdR.Own w B v l) : HalfE w B v [] l := ⟨h, fun x hx => (by cases hx), Apart.one _⟩
theorem HalfO.done {w : World} {B : Nat} {v : Value} {l : List OwL} (h : HalfO w B v l []) : OwnO w B v l := ⟨by have := h.row; rwa [List.append_nil] at this, h.each, h.apart⟩
theorem HalfE.done {w : World} {B : Nat} {v : Value} {l : List SdL} (h : HalfE w B v l []) : OwnE w B v l := ⟨by have := h.row; rwa [List.append_nil] at this, h.each, h.apart⟩
theorem HalfO.below {w w' : World} {B : Nat} {v : Value} {new rest : List OwL} (h : HalfO w B v new rest) (hb : Below w.heap.size w w') : HalfO w' B v new rest := ⟨h.row.below hb, fun x hx => (h.each x hx).below hb, h.apart⟩
theorem HalfE.below {w w' : World} {B : Nat} {v : Value} {new rest : List SdL} (h : HalfE w B v new rest) (hb : Below w.heap.size w w') : HalfE w' B v new rest := ⟨h.row.below hb, fun x hx => (h.each x hx).below hb, h.apart⟩
theorem HalfO.under {w : World} {B : Nat} {v : Value} {new rest : List OwL} (h : HalfO w B v new rest) : Under w.heap.size (v :: owS new) := fun u hu g hg => by
  rcases List.mem_cons.1 hu with rfl | hu
  · exact h.row.lt g hg
  · obtain ⟨x, hx, rfl⟩ := List.mem_map.1 hu
    exact (h.each x hx).lt g hg
theorem HalfE.under {w : World} {B : Nat} {v : Value} {new rest : List SdL} (h : HalfE w B v new rest) : Under w.heap.size (v :: sdS new) := fun u hu g hg => by
  rcases List.mem_cons.1 hu with rfl | hu
  · exact h.row.lt g hg
  · obtain ⟨x, hx, rfl⟩ := List.mem_map.1 hu
    exact (h.each x hx).lt g hg
theorem HalfO.step {w V : World} {B g n c : Nat} {new rest : List OwL} {x : OwL} {s2 : Sl} (h : HalfO w B (.slice (some ⟨g, 0, none⟩) n c) new (x :: rest)) (hc : c ≠ 0) (hB : B ≤ w.heap.size) (hb : Below w.heap.size w V) (hx : ceR.Own V w.heap.size s2.val x.v.c) :
    HalfO (V.setCell ⟨g, new.length * 3 + 2, none⟩ s2.val) B (.slice (some ⟨g, 0, none⟩) n c) (new ++ [⟨x.v, s2⟩]) rest := by
  have hg : ownB (.slice (some ⟨g, 0, none⟩) n c) = some g := ownB_some hc
  have hgl : g < w.heap.size := h.row.lt g hg
  refine ⟨?_, fun y hy => ?_, ?_⟩
  · have h1 := Row.Own.put1 (i := new.length) (j := 2) (x := x) (x' := (⟨x.v, s2⟩ : OwL)) (u := s2.val) (h.row.below hb) (by rw [List.getElem?_append_right (Nat.le_refl _), Nat.sub_self]; rfl) (by show 2 < 3; omega) rfl
    have e : (new ++ x :: rest).set new.length ⟨x.v, s2⟩ = (new ++ [⟨x.v, s2⟩]) ++ rest := by
      rw [List.set_append_right _ _ (Nat.le_refl _), Nat.sub_self, List.set_cons_zero, List.append_assoc]; rfl
    rw [e] at h1
    exact h1
  · rcases List.mem_append.1 hy with hy | hy
    · refine ((h.each y hy).below hb).stay fun k e => setc_other _ _ _ _ _ (fun e2 => ?_)
      subst e2
      exact h.apart.ne (a := []) (b := owS new) (v := .slice (some ⟨k, 0, none⟩) n c) (u := y.s.val) (List.mem_map.2 ⟨y, hy, rfl⟩) hg e rfl
    · obtain rfl := List.mem_singleton.1 hy
      refine (hx.low hB).stay fun k e => setc_other _ _ _ _ _ (fun e2 => ?_)
      have := hx.base k e
      omega
  · have h4 : owS (new ++ [⟨x.v, s2⟩]) = owS new ++ [s2.val] := by simp [owS]
    rw [h4]
    exact h.apart.push h.under hx.base
theorem HalfE.step {w V : World} {B g n c : Nat} {new rest : List SdL} {x : SdL} {s2 : Sl} (h : HalfE w B (.slice (some ⟨g, 0, none⟩) n c) new (x :: rest)) (hc : c ≠ 0) (hB : B ≤ w.heap.size) (hb : Below w.heap.size w V) (hx : mgR.Own V w.heap.size s2.val x.v.o) :
    HalfE (V.setCell ⟨g, new.length * 4 + 2, none⟩ s2.val) B (.slice (some ⟨g, 0, none⟩) n c) (new ++ [⟨x.v, s2⟩]) rest := by
  have hg : ownB (.slice (some ⟨g, 0, none⟩) n c) = some g := ownB_some hc
  have hgl : g < w.heap.size := h.row.lt g hg
  refine ⟨?_, fun y hy => ?_, ?_⟩
  · have h1 := Row.Own.put1 (i := new.length) (j := 2) (x := x) (x' := (⟨x.v, s2⟩ : SdL)) (u := s2.val) (h.row.below hb) (by rw [List.getElem?_append_right (Nat.le_refl _), Nat.sub_self]; rfl) (by show 2 < 4; omega) rfl
    have e : (new ++ x :: rest).set new.length ⟨x.v, s2⟩ = (new ++ [⟨x.v, s2⟩]) ++ rest := by
      rw [List.set_append_right _ _ (Nat.le_refl _), Nat.sub_self, List.set_cons_zero, List.append_assoc]; rfl
    rw [e] at h1
    exact h1
  · rcases List.mem_append.1 hy with hy | hy
    · refine ((h.each y hy).below hb).stay fun k e => setc_other _ _ _ _ _ (fun e2 => ?_)
      subst e2
      exact h.apart.ne (a := []) (b := sdS new) (v := .slice (some ⟨k, 0, none⟩) n c) (u := y.s.val) (List.mem_map.2 ⟨y, hy, rfl⟩) hg e rfl
    · obtain rfl := List.mem_singleton.1 hy
      refine (hx.low hB).stay fun k e => setc_other _ _ _ _ _ (fun e2 => ?_)
      have := hx.base k e
      omega
  · have h4 : sdS (new ++ [⟨x.v, s2⟩]) = sdS new ++ [s2.val] := by simp [sdS]
    rw [h4]
    exact h.apart.push h.under hx.base
end Go.Proofs.Ytiaafhcfeeekeaa.Pk
