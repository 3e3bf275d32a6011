/- Package tree: a tree in memory; New, Size, Root, has. -/
import Derived.Test.YtcicpgiljceioaaZNumApp
import Derived.Test.YtcicpgiljceioaaZGrWave
import Derived.Test.YtcicpgiljceioaaZSet0
import Derived.Test.YtcicpgiljceioaaZRange
import Derived.Test.YtcicpgiljceioaaZGrNext
import Derived.Lib.SliceRun
import Derived.Test.YtcicpgiljceioaaZStCopyM
import Derived.Test.YtcicpgiljceioaaZCeOwn
namespace Go.Proofs.Ytcicpgiljceioaa.Pk
open Go.RowKit Go.Proofs.Ytcicpgiljceioaa.Gr
set_option linter.unusedVariables false

theorem run_eql_nil (W : World) (b off n c : Nat) : (binOp .eql 22 (.slice (some ⟨b, off, none⟩) n c) (.slice none 0 0)).run Try.prog W = .ok (.bool false) W :=
  Lib.run_eql_slice_nil W _ _ (some ⟨b, off, none⟩) n c 0 0 Try.underlying22
/-- A copy of numbers, if there are some. -/
theorem clone_any (A : Option Addr) (n c : Nat) (ps : List Int) (w : World) (B : Nat) (hr : Reads w B 1 A n (nms ps)) (hB : B ≤ w.heap.size) (h0 : 0 < n) (hlen : n * 8 ≤ 140737488355328) :
    Calls Try.prog 31 #[.slice A n c] w fun e w' => ∃ v, e = .returned v ∧ OwnN w' w.heap.size v ps ∧ Below w.heap.size w w' := by
  have HR := Lib.hid hr
  obtain ⟨b, off, rfl, hbb, hc⟩ := hr.pa h0
  clear hr hc
  have E0 := run_eql_nil w b off n c
  go_enter Try.func31, Try.ntmps31
  go_wp2_with (at_builtin; refine appNE w rfl (.tmp 5) (.tmp 6) rfl rfl B (some ⟨b, off, none⟩) c ps n rfl HR.out hB hlen ?_; intro v2 w2 hown2 hb2; have HO := Lib.hid hown2; have HB := Lib.hid hb2; clear hown2 hb2)
  go_ret
  exact ⟨_, rfl, HO.out, HB.out⟩

/-- The tree in block T, its list in block g. -/
def IsTr (w : World) (T g : Nat) (ps : List Int) : Prop := ∃ c cur, Blk w T 73 #[.slice (some ⟨g, 0, none⟩) ps.length c] ∧ Blk w g 3 cur ∧ cur.toList.take ps.length = nms ps ∧ ps.length ≤ c
/-- The tree's blocks. -/
def TrB (T g : Nat) (b : Nat) : Prop := b = T ∨ b = g
theorem Stay.only {D : Nat → Prop} {w w' : World} {x : Nat} (h : Only w w' x) (hD : ∀ b, D b → b < w.heap.size ∧ b ≠ x) : Stay D w w' :=
  ⟨h.size, fun b hb => h.block b (hD b hb).1 (fun e => (hD b hb).2 (by injection e))⟩
section
variable {w w' : World} {T g : Nat} {ps : List Int}
theorem IsTr.stay (h : IsTr w T g ps) (hs : Stay (TrB T g) w w') : IsTr w' T g ps := by
  obtain ⟨c, cur, h1, h2, h3⟩ := h
  exact ⟨c, cur, (hs.2 T (.inl rfl)).trans h1, (hs.2 g (.inr rfl)).trans h2, h3⟩
theorem IsTr.lt (h : IsTr w T g ps) : ∀ b, TrB T g b → b < w.heap.size := by
  obtain ⟨c, cur, h1, h2, h3⟩ := h
  rintro b (rfl | rfl)
  · exact h1.lt
  · exact h2.lt
theorem IsTr.below {B : Nat} (h : IsTr w T g ps) (hb : Below B w w') (hB : ∀ b, TrB T g b → b < B) : IsTr w' T g ps := h.stay (Stay.below hb hB)
theorem IsTr.below_ (h : IsTr w T g ps) (hb : Below w.heap.size w w') : IsTr w' T g ps := h.below hb h.lt
theorem IsTr.drewN (h : IsTr w T g ps) (k : Nat) : IsTr (w.drewN k) T g ps := h.stay ⟨Nat.le_refl _, fun _ _ => rfl⟩
theorem IsTr.alloc (h : IsTr w T g ps) (o : Obj) : IsTr (w.alloc o) T g ps := h.below_ ((Below.refl _ _).alloc (Nat.le_refl _) _)
/-- What its functions load. -/
theorem IsTr.cells (h : IsTr w T g ps) : ∃ c, ps.length ≤ c ∧ w.cell? ⟨T, 0, none⟩ = some (.slice (some ⟨g, 0, none⟩) ps.length c) ∧ Reads w w.heap.size 1 (some ⟨g, 0, none⟩) ps.length (nms ps) ∧ ∀ v, v < ps.length → w.cell? ⟨g, v, none⟩ = some (.int .i64 (pa ps v)) := by
  obtain ⟨c, cur, h1, h2, h3, h4⟩ := h
  have hcell : ∀ j u, (nms ps)[j]? = some u → w.cell? ⟨g, j, none⟩ = some u := by
    intro j u hu
    rw [h2.cell]
    rw [← h3] at hu
    rw [← hu, List.getElem?_take]
    split
    · simp
    · rename_i hj
      rw [List.getElem?_take, if_neg hj] at hu
      cases hu
  refine ⟨c, h4, h1.cell 0, ⟨by simp, fun _ => ⟨_, rfl, h2.lt, fun j u hu => ?_⟩⟩, fun v hv => ?_⟩
  · have e : (⟨g, 0, none⟩ : Addr).add j = ⟨g, j, none⟩ := by unfold Addr.add; by_cases hj : j = 0 <;> simp [hj]
    rw [e]; exact hcell j u hu
  · have := hcell v _ (nms_get hv)
    rw [this, pa_get hv]
end
/-- What New leaves. -/
def NewR (ps : List Int) (w : World) (e : Ending) (w' : World) : Prop :=
  Below w.heap.size w w' ∧ ((∃ T g, e = .returned (.tuple #[.pointer (some ⟨T, 0, none⟩), .int .i64 0]) ∧ ChkIs ps 0 0 ∧ IsTr w' T g ps ∧ w.heap.size ≤ T ∧ w.heap.size ≤ g ∧ T ≠ g) ∨
    (∃ p er, e = .returned (.tuple #[.pointer none, .int .i64 er]) ∧ ChkIs ps p er ∧ er ≠ 0))
theorem ChkIs.code {ps : List Int} {p er : Int} (h : ChkIs ps p er) : er = 0 ∨ er = 1 ∨ er = 3 ∨ er = 10 := by
  rcases h with ⟨a, b, c⟩ | ⟨a, b, c⟩ | ⟨a, ⟨v, v1, v2, v3, v4, v5⟩ | ⟨n1, ⟨v, v1, v2, v3, v4, v5⟩ | ⟨n2, v2, v3⟩⟩⟩ <;> omega
set_option maxHeartbeats 2000000 in
theorem new_any (A : Option Addr) (n c : Nat) (ps : List Int) (w : World) (B : Nat) (hr : Reads w B 1 A n (nms ps)) (hB : B ≤ w.heap.size) (hbig : n ≤ 4611686018427387904) :
    Calls Try.prog 12 #[.slice A n c] w (NewR ps w) := by
  have HL := Lib.hid hr.plen
  have HR := Lib.hid hr
  have HC := Lib.hid (chk_any A n c ps w B hr hbig)
  clear hr
  go_enter Try.func12, Try.ntmps12
  go_wp2_with fail
  refine HC.out.mono ?_
  rintro e w1 ⟨p, er, rfl, hck, rfl⟩
  by_cases he : er = 0
  · subst he
    obtain ⟨G, rfl⟩ := hck.good
    have HK := Lib.hid hck
    clear hck
    have hn : 0 < n ∧ n ≤ 32 := by have h1 := G.pos; have h2 := G.few; rw [HL.out] at h1 h2; exact ⟨h1, h2⟩
    obtain ⟨hn1, hn2⟩ := hn
    have HCl := Lib.hid (clone_any A n c ps w1 B HR.out hB hn1 (by omega))
    go_wp2_with (go_at_call 31; go_must (refine HCl.out.mono ?_); rintro e w2 ⟨v, rfl, hown, hbel⟩; obtain ⟨hpl, ⟨rfl, hz⟩ | ⟨g, cap, cur, rfl, hg, hh, hcap, hmx, hsz, htk⟩⟩ := hown)
    · have := G.pos; omega
    · go_ret2
      have hb2 := hbel.alloc hbel.size (.cells #[.slice (some ⟨g, 0, none⟩) ps.length cap] 73)
      have hlt : g < w2.heap.size := Blk.lt (t := 3) (cs := cur) hh
      refine ⟨hb2, .inl ⟨w2.heap.size, g, rfl, HK.out, ⟨cap, cur, Blk.new w2 _ _, Blk.alloc hh _, ?_, hcap⟩, hbel.size, hg, by omega⟩⟩
      rw [← htk, Nat.mul_one]
  · have HK := Lib.hid hck
    have t1 : (er != 0) = true := by simp [he]
    have HE := Lib.hid he
    clear hck he
    go_wp2
    go_ret2
    exact ⟨Below.refl _ _, .inr ⟨p, er, rfl, HK.out, HE.out⟩⟩

theorem size_any (T g : Nat) (ps : List Int) (w : World) (h : IsTr w T g ps) :
    Calls Try.prog 57 #[.pointer (some ⟨T, 0, none⟩)] w fun e w' => e = .returned (.int .i64 (ps.length : Nat)) ∧ w' = w := by
  obtain ⟨c, hc, X, _, _⟩ := h.cells
  clear h
  go_enter Try.func57, Try.ntmps57
  go_wp2_with fail
  go_ret
  exact ⟨rfl, rfl⟩
theorem size_nil (w : World) : Calls Try.prog 57 #[.pointer none] w fun e w' => e = .returned (.int .i64 0) ∧ w' = w := by
  go_enter Try.func57, Try.ntmps57
  go_wp2_with fail
  go_ret
  exact ⟨rfl, rfl⟩
/-- Is there such a node? -/
def hasB (ps : List Int) (v : Int) : Bool := decide (0 ≤ v ∧ v < (ps.length : Int))
theorem has_any (T g : Nat) (ps : List Int) (v : Int) (w : World) (h : IsTr w T g ps) :
    Calls Try.prog 56 #[.pointer (some ⟨T, 0, none⟩), .int .i64 v] w fun e w' => e = .returned (.bool (hasB ps v)) ∧ w' = w := by
  have HS := Lib.hid (size_any T g ps w h)
  clear h
  go_enter Try.func56, Try.ntmps56
  by_cases h1 : 0 ≤ v
  · by_cases h2 : v < (ps.length : Int)
    · have HE : Hid (hasB ps v = true) := Lib.hid (decide_eq_true ⟨h1, h2⟩)
      go_wp2_with (go_at_call 57; go_must (refine HS.out.mono ?_); rintro e w1 ⟨rfl, rfl⟩)
      go_ret
      exact ⟨by rw [HE.out]; rfl, rfl⟩
    · have HE : Hid (hasB ps v = false) := Lib.hid (decide_eq_false (fun h => h2 h.2))
      have HT : Hid (decide (v < (ps.length : Int)) = false) := Lib.hid (decide_eq_false h2)
      clear h2
      go_wp2_with (go_at_call 57; go_must (refine HS.out.mono ?_); rintro e w1 ⟨rfl, rfl⟩)
      go_ret
      refine ⟨?_, rfl⟩
      rw [HE.out, ← HT.out]; rfl
  · have HE : Hid (hasB ps v = false) := Lib.hid (decide_eq_false (fun h => h1 h.1))
    have h1' : v < 0 := by omega
    clear h1
    go_wp2_with fail
    go_ret
    exact ⟨by rw [HE.out]; rfl, rfl⟩
theorem has_nil (v : Int) (w : World) :
    Calls Try.prog 56 #[.pointer none, .int .i64 v] w fun e w' => e = .returned (.bool false) ∧ w' = w := by
  have HS := Lib.hid (size_nil w)
  go_enter Try.func56, Try.ntmps56
  by_cases h1 : 0 ≤ v
  · have HT : Hid (decide (v < 0) = false) := Lib.hid (decide_eq_false (by omega))
    go_wp2_with (go_at_call 57; go_must (refine HS.out.mono ?_); rintro e w1 ⟨rfl, rfl⟩)
    go_ret
    refine ⟨?_, rfl⟩
    rw [← HT.out]; rfl
  · have h1' : v < 0 := by omega
    clear h1
    go_wp2_with fail
    go_ret
    exact ⟨rfl, rfl⟩
end Go.Proofs.Ytcicpgiljceioaa.Pk

/- What package state promises (to be proved of the code that lands). -/
namespace Go.Proofs.Ytcicpgiljceioaa.Pk
open Go.RowKit Go.Proofs.Ytcicpgiljceioaa.Gr
set_option linter.unusedVariables false
/-- Numbers that are handed over. -/
structure InN (w : World) (l : List Int) (A : Option Addr) (n c : Nat) : Prop where
  rd : Reads w w.heap.size 1 A n (nms l)
  cap : n ≤ c
  few : n ≤ 17592186044416
  i : ∀ x ∈ l, I64 x
theorem InN.len {w : World} {l : List Int} {A : Option Addr} {n c : Nat} (h : InN w l A n c) : l.length = n := h.rd.plen
theorem InN.next {w w' : World} {l : List Int} {A : Option Addr} {n c : Nat} (h : InN w l A n c) (hb : Below w.heap.size w w') : InN w' l A n c := ⟨(h.rd.below hb).more hb.size, h.cap, h.few, h.i⟩
def homesE (n : Nat) (hs : List Int) : Int := if HomesS n hs then 0 else 1
def firstE (ps hs : List Int) (me : Int) : St × Int := if HomesS ps.length hs ∧ 0 ≤ me ∧ me < (ps.length : Int) then (firstS ps hs me, 0) else (St.zero, 1)
def StHomesP : Prop := ∀ (T g : Nat) (ps : List Int) (A : Option Addr) (n c : Nat) (hs : List Int) (w : World), IsTr w T g ps → Gr.Good ps → InN w hs A n c →
  Calls Try.prog 11 #[.pointer (some ⟨T, 0, none⟩), .slice A n c] w fun e w' => e = .returned (.int .i64 (homesE ps.length hs)) ∧ Below w.heap.size w w'
def StHomesZ : Prop := ∀ (A : Option Addr) (n c : Nat) (hs : List Int) (w : World), InN w hs A n c → Calls Try.prog 11 #[.pointer none, .slice A n c] w fun e w' => e = .returned (.int .i64 2) ∧ Below w.heap.size w w'
def StFirstP : Prop := ∀ (T g : Nat) (ps : List Int) (A : Option Addr) (n c : Nat) (hs : List Int) (me : Int) (w : World), IsTr w T g ps → Gr.Good ps → InN w hs A n c → I64 me →
  Calls Try.prog 10 #[.pointer (some ⟨T, 0, none⟩), .slice A n c, .int .i64 me] w fun e w' => ∃ s2 : StL, e = .returned (.tuple #[s2.val, .int .i64 (firstE ps hs me).2]) ∧ s2.v = (firstE ps hs me).1 ∧ OwnS w' w.heap.size s2 ∧ Below w.heap.size w w'
def StFirstZ : Prop := ∀ (A : Option Addr) (n c : Nat) (hs : List Int) (me : Int) (w : World), InN w hs A n c → I64 me →
  Calls Try.prog 10 #[.pointer none, .slice A n c, .int .i64 me] w fun e w' => ∃ s2 : StL, e = .returned (.tuple #[s2.val, .int .i64 2]) ∧ s2.v = St.zero ∧ OwnS w' w.heap.size s2 ∧ Below w.heap.size w w'
def StMeantP : Prop := ∀ (T g : Nat) (ps : List Int) (k : Int) (m : Mg) (w : World), IsTr w T g ps → Gr.Good ps → I64 k → m.I →
  Calls Try.prog 20 #[.pointer (some ⟨T, 0, none⟩), .int .i64 k, m.val] w fun e w' => e = .returned (.bool (decide (MeantS (ps.length : Int) k m))) ∧ Below w.heap.size w w'
def StMeantZ : Prop := ∀ (k : Int) (m : Mg) (w : World), I64 k → m.I → Calls Try.prog 20 #[.pointer none, .int .i64 k, m.val] w fun e w' => e = .returned (.bool false) ∧ Below w.heap.size w w'
def StGoodP : Prop := ∀ (T g : Nat) (ps : List Int) (s : StL) (w : World), IsTr w T g ps → Gr.Good ps → InS w s →
  Calls Try.prog 16 #[.pointer (some ⟨T, 0, none⟩), s.val] w fun e w' => ∃ b, e = .returned (.bool b) ∧ (b = true ↔ GoodS ps s.v) ∧ Below w.heap.size w w'
def StGoodZ : Prop := ∀ (s : StL) (w : World), InS w s → Calls Try.prog 16 #[.pointer none, s.val] w fun e w' => e = .returned (.bool false) ∧ Below w.heap.size w w'
def StOpenP : Prop := ∀ (s : StL) (w : World), InS w s → Calls Try.prog 17 #[s.val] w fun e w' => e = .returned (.int .i64 (openW s.v.os)) ∧ Below w.heap.size w w'
def StSameP : Prop := ∀ (s t : StL) (w : World), InS w s → InS w t → Calls Try.prog 22 #[s.val, t.val] w fun e w' => e = .returned (.bool (decide (s.v = t.v))) ∧ Below w.heap.size w w'
def StCopyP : Prop := ∀ (s : StL) (w : World), InS w s → Calls Try.prog 23 #[s.val] w fun e w' => ∃ s2 : StL, e = .returned s2.val ∧ s2.v = s.v ∧ OwnS w' w.heap.size s2 ∧ Below w.heap.size w w'
/-- Small enough to be handed over. -/
structure FewS (s : St) : Prop where
  me : I64 s.me
  q : I64 s.q
  os : s.os.length * 40 ≤ 140737488351232
  es : s.es.length * 48 ≤ 140737488351232
  as_ : s.as_.length * 16 ≤ 140737488351232
  gs : s.gs.length * 24 ≤ 140737488351232
  o : ∀ x ∈ s.os, I64 x.a ∧ I64 x.m ∧ x.c.length * 32 ≤ 140737488351232 ∧ ∀ y ∈ x.c, y.I
  e : ∀ x ∈ s.es, I64 x.p ∧ I64 x.b ∧ I64 x.s ∧ x.o.length * 40 ≤ 140737488351232 ∧ ∀ y ∈ x.o, y.I
  a : ∀ x ∈ s.as_, I64 x.o ∧ I64 x.n
  g : ∀ x ∈ s.gs, I64 x.o ∧ I64 x.n ∧ I64 x.w
theorem OwnS.few {w : World} {B : Nat} {s : StL} (h : OwnS w B s) (hf : FewS s.v) : InS w s := by
  have rd : ∀ {α : Type} {R : Row α} {sl : Sl} {l : List α}, R.Own w B sl.val l → l.length * R.by_ ≤ 140737488351232 → InR R w sl l := by
    intro α R sl l ho hl
    obtain ⟨h1, h2, h3⟩ := Row.Own.rd ho
    exact ⟨h3, h2, by rw [← h1]; exact hl⟩
  have ho : ∀ x ∈ s.os, x.v ∈ s.v.os := fun x hx => List.mem_map.2 ⟨x, hx, rfl⟩
  have he : ∀ x ∈ s.es, x.v ∈ s.v.es := fun x hx => List.mem_map.2 ⟨x, hx, rfl⟩
  refine ⟨hf.me, hf.q, rd h.os.row (by have := hf.os; unfold StL.v at this; simp only [List.length_map] at this; exact this), rd h.es.row (by have := hf.es; unfold StL.v at this; simp only [List.length_map] at this; exact this), rd h.as_ hf.as_, rd h.gs hf.gs, fun x hx => ?_, fun x hx => ?_, hf.a, hf.g⟩
  · obtain ⟨h1, h2, h3, h4⟩ := hf.o _ (ho x hx)
    exact ⟨h1, h2, rd (h.os.each x hx) h3, h4⟩
  · obtain ⟨h1, h2, h3, h4, h5⟩ := hf.e _ (he x hx)
    exact ⟨h1, h2, h3, rd (h.es.each x hx) h4, h5⟩
theorem InS.few {w : World} {s : StL} (h : InS w s) : FewS s.v := by
  have hmap : s.v.os = s.os.map (·.v) := rfl
  have hmap2 : s.v.es = s.es.map (·.v) := rfl
  refine ⟨h.me, h.q, by rw [hmap, List.length_map, h.os.len]; exact h.os.few, by rw [hmap2, List.length_map, h.es.len]; exact h.es.few, by have := h.as_.few; rw [← h.as_.len] at this; exact this, by have := h.gs.few; rw [← h.gs.len] at this; exact this, fun x hx => ?_, fun x hx => ?_, h.a, h.g⟩
  · obtain ⟨y, hy, rfl⟩ := List.mem_map.1 hx
    have k := h.o y hy
    exact ⟨k.a, k.m, by have := k.c.few; rw [← k.c.len] at this; exact this, k.i⟩
  · obtain ⟨y, hy, rfl⟩ := List.mem_map.1 hx
    have k := h.e y hy
    exact ⟨k.p, k.b, k.s, by have := k.o.few; rw [← k.o.len] at this; exact this, k.i⟩
theorem firstS_few {ps hs : List Int} (G : Gr.Good ps) {me : Int} (h0 : 0 ≤ me) (h1 : me < (ps.length : Int)) (hh : HomesS ps.length hs) : FewS (firstS ps hs me) := by
  have hn := G.few
  have gs := first_good G hn h0 h1 hh
  have hb : ∀ v ∈ nbsI ps me, 0 ≤ v ∧ v < (ps.length : Int) := by
    intro v hv
    unfold nbsI at hv
    rw [if_pos ⟨h0, h1⟩] at hv
    unfold nbs at hv
    obtain ⟨u, hu, rfl⟩ := List.mem_map.1 hv
    have := List.mem_range.1 (List.mem_filter.1 hu).1
    omega
  have hl : (nbsI ps me).length ≤ 32 := by
    unfold nbsI
    split
    · exact Nat.le_trans (nbs_len _ _ _) hn
    · simp
  refine ⟨⟨by show _ ≤ me; omega, by show me ≤ _; omega⟩, ⟨by show (_ : Int) ≤ 0; omega, by show (0 : Int) ≤ _; omega⟩, by have := gs.many.2; omega, by unfold firstS; simp only [List.length_map]; omega, by unfold firstS; simp, by unfold firstS; simp, fun x hx => ?_, fun x hx => ?_, fun x hx => (by unfold firstS at hx; simp at hx), fun x hx => (by unfold firstS at hx; simp at hx)⟩
  · have k := gs.os x hx
    have hx0 := hx
    obtain ⟨h, hh2, rfl⟩ := List.mem_map.1 hx
    refine ⟨?_, ⟨by show (_ : Int) ≤ 0; omega, by show (0 : Int) ≤ _; omega⟩, ?_, fun y hy => ?_⟩
    · rcases k.1 with e | e
      · rw [e]; exact ⟨by show _ ≤ me; omega, by show me ≤ _; omega⟩
      · have := hb _ e; constructor <;> omega
    · show (if h = me then [(⟨0, 3, -1, 0⟩ : Ce)] else []).length * 32 ≤ _
      split <;> simp
    · have hy : y ∈ (if h = me then [(⟨0, 3, -1, 0⟩ : Ce)] else []) := hy
      split at hy
      · rw [List.mem_singleton.1 hy]
        exact ⟨by constructor <;> simp, by constructor <;> simp, by constructor <;> simp, by constructor <;> simp⟩
      · cases hy
  · obtain ⟨v, hv, rfl⟩ := List.mem_map.1 hx
    have := hb v hv
    exact ⟨⟨by show _ ≤ v; omega, by show v ≤ _; omega⟩, ⟨by show (_ : Int) ≤ 0; omega, by show (0 : Int) ≤ _; omega⟩, ⟨by show (_ : Int) ≤ 0; omega, by show (0 : Int) ≤ _; omega⟩, by simp, fun y hy => by cases hy⟩
end Go.Proofs.Ytcicpgiljceioaa.Pk
