/- Words on memory: a slice that reads as a list, a block known whole, an append onto a row of the call's own (after the guide's own blocks to copy). -/
import Derived.Below
import Derived.Laws.OwnMore
import Derived.Deep.AppendLies
import Derived.Deep.Draws
import Derived.Laws.Rows
import Derived.Maps.AppendAt
import Derived.RegionTactic
import Derived.OwnWalk
import Derived.WalkKit
import Derived.Test.YtnpmccekkjadhaaDoorProg
import Derived.Deep.RegionLaw
import Derived.Deep.RegionLawGrows
namespace Go.Proofs.YtnpmccekkjadhaaDoor.Pk
open Go.RowKit
set_option linter.unusedVariables false

theorem block_of_add (a : Addr) (n : Nat) : (a.add n).block = a.block := by unfold Addr.add; split <;> rfl
theorem add_of_add (a : Addr) (i j : Nat) : (a.add i).add j = a.add (i + j) := by
  unfold Addr.add
  by_cases hi : i = 0 <;> by_cases hj : j = 0 <;> simp [hi, hj, Nat.add_assoc]

def Reads (w : World) (B size : Nat) (A : Option Addr) (n : Nat) (xs : List Value) : Prop :=
  xs.length = n * size ∧ (0 < n → ∃ ad, A = some ad ∧ ad.block < B ∧ ∀ j u, xs[j]? = some u → w.cell? (ad.add j) = some u)

section
variable {w w' : World} {B B' size n : Nat} {A : Option Addr} {xs : List Value}
theorem Reads.none_ : Reads w B size A 0 [] := ⟨by simp, fun h => absurd h (by omega)⟩
theorem Reads.at_ {k : Nat} (h : Reads w B 1 A n xs) (hk : k < n) : ∃ ad u, A = some ad ∧ ad.block < B ∧ xs[k]? = some u ∧ w.cell? (ad.add k) = some u := by
  obtain ⟨ad, e, hb, hc⟩ := h.2 (by omega)
  have hl : k < xs.length := by have := h.1; omega
  exact ⟨ad, xs[k], e, hb, List.getElem?_eq_getElem hl, hc k _ (List.getElem?_eq_getElem hl)⟩
theorem Reads.keep (h : Reads w B size A n xs) (hk : ∀ p : Addr, p.block < B → w'.cell? p = w.cell? p) : Reads w' B size A n xs :=
  ⟨h.1, fun hn => by
    obtain ⟨ad, e, hb, hc⟩ := h.2 hn
    exact ⟨ad, e, hb, fun j u hu => (hk _ (by rw [block_of_add]; exact hb)).trans (hc j u hu)⟩⟩
theorem Reads.more (h : Reads w B size A n xs) (hB : B ≤ B') : Reads w B' size A n xs :=
  ⟨h.1, fun hn => by
    obtain ⟨ad, e, hb, hc⟩ := h.2 hn
    exact ⟨ad, e, by omega, hc⟩⟩
theorem Reads.below (h : Reads w B size A n xs) (hb : Below B w w') : Reads w' B size A n xs := h.keep fun _ hp => hb.cell hp
theorem Reads.drew (h : Reads w B size A n xs) : Reads w.drew B size A n xs := h
theorem Reads.drewN (h : Reads w B size A n xs) (k : Nat) : Reads (w.drewN k) B size A n xs := h
theorem Reads.alloc (h : Reads w B size A n xs) (hB : B ≤ w.heap.size) (o : Obj) : Reads (w.alloc o) B size A n xs := h.keep fun p hp => World.cell?_alloc_lt w o p (by omega)
theorem Reads.setCell (h : Reads w B size A n xs) {p : Addr} (hB : B ≤ p.block) (u : Value) : Reads (w.setCell p u) B size A n xs :=
  h.keep fun q hq => World.cell?_setCell_other w p q u (fun e => by subst e; omega)
theorem Reads.grown (h : Reads w B size A n xs) {row : Option Nat} (hg : w.grownBy w' row) (hB : B ≤ w.heap.size) (hr : ∀ g, row = some g → B ≤ g) : Reads w' B size A n xs :=
  h.keep fun p hp => World.cell?_of_block (hg.block p.block (by omega) (fun e => by have := hr _ e.symm; omega))
theorem Reads.cut (h : Reads w B size A n xs) {k cap : Nat} (hk : k ≤ n) (hc : n ≤ cap) :
    Reads w B size (if cap = k then A else A.map (·.add (k * size))) (n - k) (xs.drop (k * size)) := by
  refine ⟨by rw [List.length_drop, h.1, Nat.sub_mul], fun hn => ?_⟩
  obtain ⟨ad, rfl, hb, hcell⟩ := h.2 (by omega)
  rw [if_neg (by omega)]
  refine ⟨ad.add (k * size), rfl, by rw [block_of_add]; exact hb, fun j u hu => ?_⟩
  rw [add_of_add]
  exact hcell _ u (by rw [← hu, List.getElem?_drop])
theorem Reads.of_own {base : Nat} {e : TypeId} {c : Nat} (h : w.ownsRow base e size (.slice A n c) n xs) : Reads w w.heap.size size A n xs := by
  refine ⟨h.1, fun hn => ?_⟩
  obtain ⟨g, cap, hv, _, hlt⟩ := h.form hn
  have hA : A = some ⟨g, 0, none⟩ := by injection hv
  subst hA
  exact ⟨_, rfl, hlt, h.cells (g := g) rfl⟩
end

def Blk (w : World) (g : Nat) (t : TypeId) (cs : Array Value) : Prop := w.heap[g]? = some (.cells cs t (0, 0))

section
variable {w w' : World} {g : Nat} {t : TypeId} {cs : Array Value}
theorem Blk.lt (h : Blk w g t cs) : g < w.heap.size := by
  rcases Nat.lt_or_ge g w.heap.size with hlt | hge
  · exact hlt
  · unfold Blk at h; rw [Array.getElem?_eq_none hge] at h; cases h
theorem Blk.cell (h : Blk w g t cs) (i : Nat) : w.cell? ⟨g, i, none⟩ = cs[i]? := cell_of_row w g i cs t (0, 0) h
theorem Blk.frozen (h : Blk w g t cs) (i : Nat) : w.frozen? ⟨g, i, none⟩ = false := by
  unfold Blk at h
  simp [World.frozen?, h]
theorem Blk.new (w : World) (t : TypeId) (cs : Array Value) : Blk (w.alloc (.cells cs t)) w.heap.size t cs := heap_alloc_new w _
theorem Blk.drew (h : Blk w g t cs) : Blk w.drew g t cs := h
theorem Blk.drewN (h : Blk w g t cs) (n : Nat) : Blk (w.drewN n) g t cs := h
theorem Blk.alloc (h : Blk w g t cs) (o : Obj) : Blk (w.alloc o) g t cs := (Below.heap_alloc w o g h.lt).trans h
theorem Blk.set_ (h : Blk w g t cs) (i : Nat) (u : Value) : Blk (w.setCell ⟨g, i, none⟩ u) g t (cs.setIfInBounds i u) := by
  unfold Blk at h ⊢
  simp [World.setCell, Array.getElem?_modify, h]
theorem Blk.far (h : Blk w g t cs) {p : Addr} (hp : g ≠ p.block) (u : Value) : Blk (w.setCell p u) g t cs := (Below.heap_setCell w p u g hp).trans h
theorem Blk.below {B : Nat} (h : Blk w g t cs) (hb : Below B w w') (hg : g < B) : Blk w' g t cs := (hb.block g hg).trans h
theorem Blk.grown {row : Option Nat} (h : Blk w g t cs) (hb : w.grownBy w' row) (hg : some g ≠ row) : Blk w' g t cs := (hb.block g h.lt hg).trans h
theorem Blk.ne_ {g' : Nat} {t' : TypeId} {cs' : Array Value} (h : Blk w g t cs) (h' : Blk w g' t' cs') (hne : t ≠ t') : g ≠ g' := by
  rintro rfl
  unfold Blk at h h'
  rw [h] at h'
  injection h' with h'
  injection h' with _ ht
  exact hne ht
theorem own_blk_ne {base : Nat} {e : TypeId} {size n : Nat} {v : Value} {xs : List Value} (h : w.ownsRow base e size v n xs) (hg : Blk w g t cs) (hne : e ≠ t) : v.ownBlock ≠ some g := by
  rcases h.2 with ⟨rfl, _⟩ | ⟨g', cap, cur, rfl, _, hh, _⟩
  · simp [Value.ownBlock]
  · intro he
    have : g' = g := by simpa [Value.ownBlock] using he
    subst this
    exact Blk.ne_ (t := e) hh hg hne rfl
end

section
variable {P : Program} (w : World)

theorem run_append_of_nil (base : Nat) (t ty e : TypeId) (i : TypeInfo) (size : Nat) (ht : P.underlying t = some (.slice e)) (hi : P.info? e = some i)
    (v : Value) (n : Nat) (xs : List Value) (hown : w.ownsRow base e size v n xs) (c : Nat) : (Builtin.append_ #[t, t] ty #[v, .slice none 0 c]).run P w = .ok v w := by
  rcases hown.2 with ⟨rfl, rfl⟩ | ⟨g, cap, cur, rfl, _, _, hnc, _⟩
  · simp [Builtin.append_, run_underlying ht, sizeOf, typeInfo, hi, Builtin.lenOf, Builtin.firstCells]
  · simp [Builtin.append_, run_underlying ht, sizeOf, typeInfo, hi, Builtin.lenOf, Builtin.firstCells, hnc, storeCells]

theorem run_append_any (base : Nat) (t ty e : TypeId) (i : TypeInfo) (z : Value) (size bytes : Nat) (ht : P.underlying t = some (.slice e)) (hi : P.info? e = some i) (hz : i.zero = some z)
    (hsize : i.size = size) (hby : i.bytes = bytes) (hzs : z.cells.size = size) (hsz : 0 < size)
    (v : Value) (n : Nat) (xs : List Value) (hown : w.ownsRow base e size v n xs)
    (B : Nat) (A : Option Addr) (m c : Nat) (news : List Value) (hr : Reads w B size A m news) (h1 : ∀ u ∈ news, u.oneCell' = true)
    (h63 : n + m ≤ maxLen) (hbytes : (n + m) * bytes ≤ 140737488355328) (hbase : base ≤ w.heap.size) :
    ∃ v' w', (Builtin.append_ #[t, t] ty #[v, .slice A m c]).run P w = .ok v' w' ∧ w'.ownsRow base e size v' (n + m) (xs ++ news) ∧ w.grownBy w' v.ownBlock ∧
      (v'.ownBlock = v.ownBlock ∨ v'.ownBlock = some w.heap.size) := by
  rcases A with _ | ad
  · have hm : m = 0 := by
      rcases Nat.eq_zero_or_pos m with h0 | h0
      · exact h0
      · obtain ⟨ad, h, _⟩ := hr.2 h0
        cases h
    subst hm
    have hn : news = [] := List.eq_nil_of_length_eq_zero (by simpa using hr.1)
    subst hn
    exact ⟨v, w, run_append_of_nil w base t ty e i size ht hi v n xs hown c, by simpa using hown, World.grownBy.refl w _, .inl rfl⟩
  · have hcells : ∀ j u, news[j]? = some u → w.cell? (ad.add j) = some u := by
      intro j u hu
      rcases Nat.eq_zero_or_pos m with h0 | h0
      · subst h0
        have hn : news = [] := List.eq_nil_of_length_eq_zero (by simpa using hr.1)
        subst hn
        simp at hu
      · obtain ⟨ad', h, _, hc⟩ := hr.2 h0
        injection h with h
        subst h
        exact hc j u hu
    obtain ⟨v', w', hrun, h2, h3, _, h5⟩ := run_append_own_at (P := P) w base t ty e i z size bytes ht hi hz hsize hby hzs hsz v n xs hown ad m c news hr.1 hcells h1 h63 hbytes hbase
    exact ⟨v', w', hrun, h2, h3, h5⟩

theorem wp_append_any {o : Oper} {a : Act} {K : Act → World → Prop} {Q : Exit → Act → World → Prop} (s x : Operand) (t : TypeId)
    (ho : o.op = .call { callee := .builtin .append, args := #[s, x], argTypes := #[t, t] })
    (base : Nat) (e : TypeId) (i : TypeInfo) (z : Value) (size bytes : Nat) (ht : P.underlying t = some (.slice e)) (hi : P.info? e = some i) (hz : i.zero = some z)
    (hsize : i.size = size) (hby : i.bytes = bytes) (hzs : z.cells.size = size) (hsz : 0 < size)
    (v : Value) (n : Nat) (xs : List Value) (hs : a.eval s = v) (hown : w.ownsRow base e size v n xs)
    (B : Nat) (A : Option Addr) (m c : Nat) (news : List Value) (hx : a.eval x = .slice A m c) (hr : Reads w B size A m news) (h1 : ∀ u ∈ news, u.oneCell' = true)
    (h63 : n + m ≤ maxLen) (hbytes : (n + m) * bytes ≤ 140737488355328) (hbase : base ≤ w.heap.size)
    (h : ∀ v' w', w'.ownsRow base e size v' (n + m) (xs ++ news) → w.grownBy w' v.ownBlock → (v'.ownBlock = v.ownBlock ∨ v'.ownBlock = some w.heap.size) → K (a.put o.dst v') w') : o.wp P a w K Q := by
  obtain ⟨v', w', hrun, h2, h3, h4⟩ := run_append_any (P := P) w base t o.type e i z size bytes ht hi hz hsize hby hzs hsz v n xs hown B A m c news hr h1 h63 hbytes hbase
  unfold Oper.wp execOp
  simp only [ho, resolve, invoke, builtin, Sem.run_bind, Sem.run_pure, Result.andThen_ok, List.map_toArray, List.map_cons, List.map_nil, hs, hx, hrun]
  exact h v' w' h2 h3 h4

theorem wpList_append_any {ops : Array Oper} {rest : List Oper} {o : Oper} {a : Act} {Q : Exit → Act → World → Prop} (hgd : o.guard = none) (s x : Operand) (t : TypeId)
    (ho : o.op = .call { callee := .builtin .append, args := #[s, x], argTypes := #[t, t] })
    (base : Nat) (e : TypeId) (i : TypeInfo) (z : Value) (size bytes : Nat) (ht : P.underlying t = some (.slice e)) (hi : P.info? e = some i) (hz : i.zero = some z)
    (hsize : i.size = size) (hby : i.bytes = bytes) (hzs : z.cells.size = size) (hsz : 0 < size)
    (v : Value) (n : Nat) (xs : List Value) (hs : a.eval s = v) (hown : w.ownsRow base e size v n xs)
    (B : Nat) (A : Option Addr) (m c : Nat) (news : List Value) (hx : a.eval x = .slice A m c) (hr : Reads w B size A m news) (h1 : ∀ u ∈ news, u.oneCell' = true)
    (h63 : n + m ≤ maxLen) (hbytes : (n + m) * bytes ≤ 140737488355328) (hbase : base ≤ w.heap.size)
    (h : ∀ v' w', w'.ownsRow base e size v' (n + m) (xs ++ news) → w.grownBy w' v.ownBlock → (v'.ownBlock = v.ownBlock ∨ v'.ownBlock = some w.heap.size) → wpList P ops Q rest (a.put o.dst v') w') : wpList P ops Q (o :: rest) a w :=
  wpList_plain hgd fun _ hK => wp_append_any w s x t ho base e i z size bytes ht hi hz hsize hby hzs hsz v n xs hs hown B A m c news hx hr h1 h63 hbytes hbase fun v' w' h2 h3 h4 => hK _ _ (h v' w' h2 h3 h4)

theorem step_append_any {ops : Array Oper} {o : Oper} {a : Act} {K : Act → World → Prop} {Q : Exit → Act → World → Prop} {E : Prop} (hgd : o.guard = none) (s x : Operand) (t : TypeId)
    (ho : o.op = .call { callee := .builtin .append, args := #[s, x], argTypes := #[t, t] })
    (base : Nat) (e : TypeId) (i : TypeInfo) (z : Value) (size bytes : Nat) (ht : P.underlying t = some (.slice e)) (hi : P.info? e = some i) (hz : i.zero = some z)
    (hsize : i.size = size) (hby : i.bytes = bytes) (hzs : z.cells.size = size) (hsz : 0 < size)
    (v : Value) (n : Nat) (xs : List Value) (hs : a.eval s = v) (hown : w.ownsRow base e size v n xs)
    (B : Nat) (A : Option Addr) (m c : Nat) (news : List Value) (hx : a.eval x = .slice A m c) (hr : Reads w B size A m news) (h1 : ∀ u ∈ news, u.oneCell' = true)
    (h63 : n + m ≤ maxLen) (hbytes : (n + m) * bytes ≤ 140737488355328) (hbase : base ≤ w.heap.size)
    (h : ∀ v' w', w'.ownsRow base e size v' (n + m) (xs ++ news) → w.grownBy w' v.ownBlock → (v'.ownBlock = v.ownBlock ∨ v'.ownBlock = some w.heap.size) → K (a.put o.dst v') w') :
    if Region.wanted o (yielded ops a.tmps) = true then Oper.wp P o a w K Q else E := by
  have hw : Region.wanted o (yielded ops a.tmps) = true := by simp [Region.wanted, hgd]
  rw [if_pos hw]
  exact wp_append_any w s x t ho base e i z size bytes ht hi hz hsize hby hzs hsz v n xs hs hown B A m c news hx hr h1 h63 hbytes hbase h
end

/-- The bytes of a list, as cells. -/
def bts (l : List Int) : List Value := l.map (Value.int .u8)
@[simp] theorem bts_length (l : List Int) : (bts l).length = l.length := List.length_map ..
theorem bts_append (l r : List Int) : bts l ++ bts r = bts (l ++ r) := (List.map_append ..).symm
theorem bts_one (l : List Int) : ∀ u ∈ bts l, u.oneCell' = true := by
  intro u hu
  obtain ⟨x, _, rfl⟩ := List.mem_map.1 hu
  rfl
theorem bts_get {l : List Int} {k : Nat} (h : k < l.length) : (bts l)[k]? = some (.int .u8 (l.getD k 0)) := by
  unfold bts
  rw [List.getElem?_map, List.getD_eq_getElem?_getD, List.getElem?_eq_getElem h]; rfl
/-- Numbers of a list, as cells. -/
def nms (l : List Int) : List Value := l.map (Value.int .i64)
@[simp] theorem nms_length (l : List Int) : (nms l).length = l.length := List.length_map ..
theorem nms_append (l r : List Int) : nms l ++ nms r = nms (l ++ r) := (List.map_append ..).symm
theorem nms_one (l : List Int) : ∀ u ∈ nms l, u.oneCell' = true := by
  intro u hu
  obtain ⟨x, _, rfl⟩ := List.mem_map.1 hu
  rfl
theorem nms_get {l : List Int} {k : Nat} (h : k < l.length) : (nms l)[k]? = some (.int .i64 (l.getD k 0)) := by
  unfold nms
  rw [List.getElem?_map, List.getD_eq_getElem?_getD, List.getElem?_eq_getElem h]; rfl

/-- A slice with elements leads to a plain place. -/
theorem Reads.flat {w : World} {B : Nat} {A : Option Addr} {n : Nat} {xs : List Value} (h : Reads w B 1 A n xs) (hn : 0 < n) :
    ∃ b off, A = some ⟨b, off, none⟩ ∧ b < B ∧ ∀ j u, xs[j]? = some u → w.cell? ⟨b, off + j, none⟩ = some u := by
  obtain ⟨ad, rfl, hb, hc⟩ := h.2 hn
  have hl : 0 < xs.length := by rw [h.1]; omega
  have h0 := hc 0 _ (List.getElem?_eq_getElem hl)
  obtain ⟨b, off, spot⟩ := ad
  have hs : spot = none := by simpa [Addr.add] using World.cell?_spot h0
  subst hs
  refine ⟨b, off, rfl, hb, fun j u hu => ?_⟩
  have := hc j u hu
  unfold Addr.add at this
  by_cases hj : j = 0
  · subst hj; simpa using this
  · simpa [hj] using this
theorem Reads.u8 {w : World} {B : Nat} {A : Option Addr} {n : Nat} {l : List Int} (h : Reads w B 1 A n (bts l)) (hn : 0 < n) :
    ∃ b off, A = some ⟨b, off, none⟩ ∧ b < B ∧ ∀ i, i < n → w.cell? ⟨b, off + i, none⟩ = some (.int .u8 (l.getD i 0)) := by
  obtain ⟨b, off, rfl, hb, hc⟩ := h.flat hn
  exact ⟨b, off, rfl, hb, fun i hi => hc i _ (bts_get (by have := h.1; simp at this; omega))⟩
theorem Reads.i64 {w : World} {B : Nat} {A : Option Addr} {n : Nat} {l : List Int} (h : Reads w B 1 A n (nms l)) (hn : 0 < n) :
    ∃ b off, A = some ⟨b, off, none⟩ ∧ b < B ∧ ∀ i, i < n → w.cell? ⟨b, off + i, none⟩ = some (.int .i64 (l.getD i 0)) := by
  obtain ⟨b, off, rfl, hb, hc⟩ := h.flat hn
  exact ⟨b, off, rfl, hb, fun i hi => hc i _ (nms_get (by have := h.1; simp at this; omega))⟩

/-- A block that was just made reads as what it was made of. -/
theorem reads_new (w : World) (cs : Array Value) (T : TypeId) (B n : Nat) (xs : List Value) (h : cs.toList = xs) (hn : xs.length = n) (hB : w.heap.size < B) : Reads (w.alloc (.cells cs T)) B 1 (some ⟨w.heap.size, 0, none⟩) n xs := by
  subst h
  refine ⟨by rw [hn]; omega, fun _ => ⟨_, rfl, hB, fun j u hu => ?_⟩⟩
  have h0 : (w.alloc (.cells cs T)).cell? ⟨w.heap.size, j, none⟩ = cs[j]? := cell_of_row _ _ j cs T (0, 0) (heap_alloc_new w _)
  have e : (⟨w.heap.size, 0, none⟩ : Addr).add j = ⟨w.heap.size, j, none⟩ := by unfold Addr.add; by_cases hj : j = 0 <;> simp [hj]
  rw [e, h0]
  simpa using hu
theorem reads_at (w : World) (k : Nat) (hk : k = w.heap.size) (cs : Array Value) (T : TypeId) (B n : Nat) (xs : List Value) (h : cs.toList = xs) (hn : xs.length = n) (hB : k < B) : Reads (w.alloc (.cells cs T)) B 1 (some ⟨k, 0, none⟩) n xs := by
  subst hk; exact reads_new w cs T B n xs h hn hB
theorem reads_top (w : World) (cs : Array Value) (T : TypeId) (n : Nat) (xs : List Value) (h : cs.toList = xs) (hn : xs.length = n) : Reads (w.alloc (.cells cs T)) (w.alloc (.cells cs T)).heap.size 1 (some ⟨w.heap.size, 0, none⟩) n xs :=
  reads_new w cs T _ n xs h hn (by simp)
theorem reads_topd (w : World) (cs : Array Value) (T : TypeId) (n : Nat) (xs : List Value) (h : cs.toList = xs) (hn : xs.length = n) : Reads (w.alloc (.cells cs T)).drew (w.alloc (.cells cs T)).drew.heap.size 1 (some ⟨w.heap.size, 0, none⟩) n xs :=
  reads_top w cs T n xs h hn
/-- A value that owns its cells reads as them. -/
theorem reads_own {w : World} {base : Nat} {e : TypeId} {n : Nat} {v : Value} {xs : List Value} (h : w.ownsRow base e 1 v n xs) : ∃ A c, v = .slice A n c ∧ n ≤ c ∧ Reads w w.heap.size 1 A n xs := by
  have h2 := h
  obtain ⟨h1, ⟨rfl, rfl⟩ | ⟨g, cap, cur, rfl, _, _, hc, _⟩⟩ := h2
  · exact ⟨none, 0, rfl, Nat.le_refl _, Reads.of_own h⟩
  · exact ⟨_, cap, rfl, hc, Reads.of_own h⟩

theorem Reads.nil {w : World} {B : Nat} {A : Option Addr} {n : Nat} {xs : List Value} (h : Reads w B 1 A n xs) : A = none → n = 0 := by
  intro e
  rcases Nat.eq_zero_or_pos n with h0 | h0
  · exact h0
  · obtain ⟨ad, h1, _⟩ := h.2 h0
    rw [e] at h1; cases h1

/-- The first k bytes. -/
theorem Reads.take {w : World} {B : Nat} {A : Option Addr} {n k : Nat} {l : List Int} (h : Reads w B 1 A n (bts l)) (hk : k ≤ n) : Reads w B 1 A k (bts (l.take k)) := by
  have hl : l.length = n := by have := h.1; simp at this; exact this
  refine ⟨by simp; omega, fun h0 => ?_⟩
  obtain ⟨ad, e, hb, hc⟩ := h.2 (by omega)
  refine ⟨ad, e, hb, fun j u hj => hc j u ?_⟩
  unfold bts at *
  rw [List.map_take, List.getElem?_take] at hj
  split at hj
  · exact hj
  · cases hj

theorem run_equalIn_func_nil {P : Program} (w : World) (d : Nat) (t : TypeId) {x y z} (f : Fn) (ts cs : Array Value) (h : P.underlying t = some (.func x y z)) :
    (Op.equalIn (d + 1) t (.func f ts cs) .nilFunc).run P w = .ok false w := by simp [Op.equalIn, run_underlying h]
/-- 'f == nil' of a function. -/
theorem run_eql_func_nil {P : Program} (w : World) (t : TypeId) {x y z} (f : Fn) (ts cs : Array Value) (h : P.underlying t = some (.func x y z)) :
    (binOp .eql t (.func f ts cs) .nilFunc).run P w = .ok (.bool false) w := by
  simp only [binOp]
  simp [Op.equal, Op.maxDepth, run_equalIn_func_nil w 9999 t f ts cs h]

theorem bcell {W w1 : World} (hb : Below W.heap.size W w1) : (∀ b o, b < W.heap.size → w1.cell? ⟨b, o, none⟩ = W.cell? ⟨b, o, none⟩) ∧ (∀ b o, b < W.heap.size → w1.frozen? ⟨b, o, none⟩ = W.frozen? ⟨b, o, none⟩) :=
  ⟨fun b o h => hb.cell (p := ⟨b, o, none⟩) h, fun b o h => hb.frozen (p := ⟨b, o, none⟩) h⟩
end Go.Proofs.YtnpmccekkjadhaaDoor.Pk

/- Bytes of the call's own: what owns them, and how they are appended to. -/
namespace Go.Proofs.YtnpmccekkjadhaaDoor.Pk
open Go.RowKit
set_option linter.unusedVariables false

theorem u8_info : (Tryd.prog.info? 5).map (fun i => (i.zero, i.size, i.bytes)) = some (some (.int .u8 0), 1, 1) := by kernel_rfl

theorem own_base {w : World} {base : Nat} {e : TypeId} {size n : Nat} {v : Value} {xs : List Value} (h : w.ownsRow base e size v n xs) : ∀ k, v.ownBlock = some k → base ≤ k := by
  intro k hk
  rcases h.2 with ⟨rfl, _⟩ | ⟨g, cap, cur, rfl, hb, _⟩
  · simp [Value.ownBlock] at hk
  · simp [Value.ownBlock] at hk; omega

/-- The value owns the bytes l, in new memory from block B on. -/
def OwnB (w : World) (B : Nat) (v : Value) (l : List Int) : Prop := w.ownsRow B 5 1 v l.length (bts l)
theorem OwnB.of {w : World} {B n k : Nat} {v : Value} {l r : List Int} {xs : List Value} (h : w.ownsRow B 5 1 v n xs) (e : xs = bts l) : OwnB w B v l := by
  subst e
  have h1 := h.1
  simp at h1
  unfold OwnB
  rw [h1]; exact h
theorem OwnB.app {w : World} {B n k : Nat} {v : Value} {l r : List Int} (h : w.ownsRow B 5 1 v (n + k) (bts l ++ bts r)) : OwnB w B v (l ++ r) :=
  OwnB.of (k := 0) (r := []) h (bts_append l r)

theorem OwnB.alloc {w : World} {B : Nat} {v : Value} {l : List Int} (h : OwnB w B v l) (o : Obj) : OwnB (w.alloc o) B v l := World.ownsRow.alloc h o
theorem OwnB.keep {w w' : World} {B B' : Nat} {v : Value} {l : List Int} (h : OwnB w B v l) (hb : Below B' w w') (hB' : w.heap.size ≤ B') : OwnB w' B v l := by
  obtain ⟨h1, h2⟩ := h
  refine ⟨h1, ?_⟩
  rcases h2 with h2 | ⟨g, cap, cur, e, hg, hh, hr⟩
  · exact .inl h2
  · refine .inr ⟨g, cap, cur, e, hg, ?_, hr⟩
    have hlt : g < w.heap.size := by
      rcases Nat.lt_or_ge g w.heap.size with hlt | hge
      · exact hlt
      · rw [Array.getElem?_eq_none hge] at hh; cases hh
    rw [hb.block g (by omega)]; exact hh
theorem OwnB.mono {w : World} {B B' : Nat} {v : Value} {l : List Int} (h : OwnB w B v l) (hB : B' ≤ B) : OwnB w B' v l := by
  obtain ⟨h1, h2⟩ := h
  refine ⟨h1, ?_⟩
  rcases h2 with h2 | ⟨g, cap, cur, e, hg, hr⟩
  · exact .inl h2
  · exact .inr ⟨g, cap, cur, e, by omega, hr⟩

theorem below_drewN {B : Nat} {a w : World} (h : Below B a w) (n : Nat) : Below B a (w.drewN n) := ⟨h.os, h.tape, h.output, h.size, h.block⟩
theorem OwnB.reads {w : World} {B : Nat} {v : Value} {l : List Int} (h : OwnB w B v l) : ∃ A c, v = .slice A l.length c ∧ l.length ≤ c ∧ Reads w w.heap.size 1 A l.length (bts l) := reads_own h
/-- A slice value that reads as the bytes l. -/
def ValB (w : World) (v : Value) (l : List Int) : Prop := ∃ A n c, v = .slice A n c ∧ n ≤ c ∧ l.length = n ∧ Reads w w.heap.size 1 A n (bts l)
theorem OwnB.val {w : World} {B : Nat} {v : Value} {l : List Int} (h : OwnB w B v l) : ValB w v l := by
  obtain ⟨A, c, rfl, hc, hr⟩ := h.reads
  exact ⟨A, _, c, rfl, hc, rfl, hr⟩

/-- One byte more, out of a new box. -/
theorem app1 {ops : Array Oper} {rest : List Oper} {o : Oper} {a : Act} {Q : Exit → Act → World → Prop} (w : World) (y : Int) (T : TypeId) (hgd : o.guard = none) (s x : Operand)
    (ho : o.op = .call { callee := .builtin .append, args := #[s, x], argTypes := #[22, 22] }) (B : Nat) (v : Value) (l : List Int) (hs : a.eval s = v) (hown : OwnB w B v l)
    (hx : a.eval x = .slice (some ⟨w.heap.size, 0, none⟩) 1 1) (hlen : l.length + 1 ≤ 140737488355328) (hB : B ≤ w.heap.size)
    (h : ∀ v' w', OwnB w' B v' (l ++ [y]) → Below B w w' → wpList Tryd.prog ops Q rest (a.put o.dst v') w') : wpList Tryd.prog ops Q (o :: rest) a (w.alloc (.cells #[.int .u8 y] T)) := by
  obtain ⟨i0, hi0, hz0, hz1, hz2⟩ := info_parts u8_info
  refine wpList_append_own _ hgd s x _ ho B 5 i0 _ 1 1 Tryd.underlying22 hi0 hz0 hz1 hz2 rfl (by omega) v l.length (bts l) hs (World.ownsRow.alloc hown _) ⟨w.heap.size, 0, none⟩ 1 1 (bts [y]) hx rfl ?_ (bts_one [y])
    (by unfold maxLen; omega) (by omega) (by simp; omega) ?_
  · intro j u hj
    match j, hj with
    | 0, hj => simp [bts] at hj; subst hj; simp [Addr.add]
    | j + 1, hj => simp [bts] at hj
  · intro v' w' ho hg _
    exact h v' w' (OwnB.app ho) (((Below.refl _ _).alloc hB _).grown hg (by simp; omega) (own_base hown))

/-- Bytes of any slice behind those of the call's own. -/
theorem appB {ops : Array Oper} {rest : List Oper} {o : Oper} {a : Act} {Q : Exit → Act → World → Prop} (w : World) (hgd : o.guard = none) (s x : Operand)
    (ho : o.op = .call { callee := .builtin .append, args := #[s, x], argTypes := #[22, 22] }) (B : Nat) (v : Value) (l : List Int) (hs : a.eval s = v) (hown : OwnB w B v l)
    (B' : Nat) (A : Option Addr) (c : Nat) (r : List Int) (n : Nat) (hx : a.eval x = .slice A n c) (hr : Reads w B' 1 A n (bts r)) (hlen : l.length + n ≤ 140737488355328) (hB : B ≤ w.heap.size)
    (h : ∀ v' w', OwnB w' B v' (l ++ r) → Below B w w' → (v'.ownBlock = v.ownBlock ∨ v'.ownBlock = some w.heap.size) → w.grownBy w' v.ownBlock → wpList Tryd.prog ops Q rest (a.put o.dst v') w') : wpList Tryd.prog ops Q (o :: rest) a w := by
  obtain ⟨i0, hi0, hz0, hz1, hz2⟩ := info_parts u8_info
  refine wpList_append_any _ hgd s x _ ho B 5 i0 _ 1 1 Tryd.underlying22 hi0 hz0 hz1 hz2 rfl (by omega) v l.length (bts l) hs hown B' A n c (bts r) hx hr (bts_one r)
    (by unfold maxLen; omega) (by omega) hB ?_
  intro v' w' ho hg hat
  exact h v' w' (OwnB.app ho) ((Below.refl _ _).grown hg hB (own_base hown)) hat hg

theorem OwnB.fresh (w : World) (B : Nat) (hB : B ≤ w.heap.size) : OwnB (w.alloc (.cells #[] 5)) B (.slice (some ⟨w.heap.size, 0, none⟩) 0 0) [] :=
  ⟨rfl, .inr ⟨w.heap.size, 0, #[], rfl, hB, heap_alloc_new w _, Nat.le_refl _, by unfold maxLen; omega, rfl, rfl⟩⟩

/-- Bytes of any slice behind an empty literal. -/
theorem appE {ops : Array Oper} {rest : List Oper} {o : Oper} {a : Act} {Q : Exit → Act → World → Prop} (w : World) (hgd : o.guard = none) (s x : Operand)
    (ho : o.op = .call { callee := .builtin .append, args := #[s, x], argTypes := #[22, 22] }) (B : Nat) (hs : a.eval s = .slice (some ⟨w.heap.size, 0, none⟩) 0 0)
    (B' : Nat) (A : Option Addr) (c : Nat) (r : List Int) (n : Nat) (hx : a.eval x = .slice A n c) (hr : Reads w B' 1 A n (bts r)) (hB' : B' ≤ w.heap.size) (hlen : n ≤ 140737488355328) (hB : B ≤ w.heap.size)
    (h : ∀ v' w', OwnB w' B v' r → Below B w w' → wpList Tryd.prog ops Q rest (a.put o.dst v') w') : wpList Tryd.prog ops Q (o :: rest) a (w.alloc (.cells #[] 5)) := by
  refine appB _ hgd s x ho B _ [] hs (OwnB.fresh w B hB) B' A c r n hx (hr.alloc hB' _) (by simp; omega) (by simp; omega) ?_
  intro v' w' ho' hb' _ _
  exact h v' w' (by simpa using ho') (((Below.refl _ _).alloc hB _).trans hb')

theorem run_append_zero {P : Program} (w : World) (t ty e : TypeId) (i : TypeInfo) (ht : P.underlying t = some (.slice e)) (hi : P.info? e = some i) (A A' : Option Addr) (n c c' : Nat) (hnc : n ≤ c) :
    (Builtin.append_ #[t, t] ty #[.slice A n c, .slice A' 0 c']).run P w = .ok (.slice A n c) w := by
  cases A <;> cases A' <;> simp [Builtin.append_, run_underlying ht, sizeOf, typeInfo, hi, Builtin.lenOf, Builtin.firstCells, hnc, storeCells, loadCells, loadCellsFrom]

set_option maxRecDepth 100000 in
/-- Bytes of any slice behind a slice without room. -/
theorem appCut {ops : Array Oper} {rest : List Oper} {o : Oper} {a : Act} {Q : Exit → Act → World → Prop} (w : World) (hgd : o.guard = none) (s x : Operand)
    (ho : o.op = .call { callee := .builtin .append, args := #[s, x], argTypes := #[22, 22] }) (B : Nat) (A : Option Addr) (n : Nat) (l : List Int) (hs : a.eval s = .slice A n n) (hl : Reads w B 1 A n (bts l)) (hnil : A = none → n = 0)
    (B' : Nat) (A' : Option Addr) (m c : Nat) (r : List Int) (hx : a.eval x = .slice A' m c) (hr : Reads w B' 1 A' m (bts r)) (hlen : n + m ≤ 140737488355328) (hB : B ≤ w.heap.size)
    (h : ∀ v' w', ValB w' v' (l ++ r) → Below w.heap.size w w' → wpList Tryd.prog ops Q rest (a.put o.dst v') w') : wpList Tryd.prog ops Q (o :: rest) a w := by
  obtain ⟨i0, hi0, hz0, hz1, hz2⟩ := info_parts u8_info
  have hll : l.length = n := by have := hl.1; simp at this; exact this
  by_cases hm : m = 0
  · subst hm
    have hr0 : r = [] := by have := hr.1; simpa using this
    subst hr0
    refine wpList_plain hgd fun K hK => ?_
    have hrun := run_append_zero (P := Tryd.prog) w 22 o.type 5 i0 Tryd.underlying22 hi0 A A' n n c (Nat.le_refl _)
    unfold Oper.wp
    simp [execOp, ho, resolve, invoke, builtin, hs, hx, hrun, Result.andThen]
    exact hK _ _ (h _ _ ⟨A, n, n, rfl, Nat.le_refl _, by simpa using hll, by simpa using hl.more hB⟩ (Below.refl _ _))
  · obtain ⟨ad, rfl, _, hc⟩ := hr.2 (by omega)
    refine wpList_append_grows w hgd s x _ ho 5 i0 _ 1 1 Tryd.underlying22 hi0 hz0 hz1 hz2 rfl (by omega) A n n (bts l) hs (fun e => ⟨hnil e, hnil e⟩) hl.1 ?_ ad m c (bts r) hx hr.1 hc (bts_one r) (by omega) (by unfold maxLen; omega) (by omega) ?_
    · intro b hb j u hu
      by_cases hn : 0 < n
      · obtain ⟨ad', e, _, hcell⟩ := hl.2 hn
        rw [hb] at e
        injection e with e
        subst e
        exact hcell j u hu
      · have : l = [] := List.length_eq_zero_iff.1 (by omega)
        subst this
        simp [bts] at hu
    · intro v' w' hown hg
      exact h v' w' (OwnB.val (OwnB.of (k := 0) (r := []) hown (bts_append l r))) ((Below.refl _ _).grown hg (Nat.le_refl _) (by simp))

/-- New memory for bytes. -/
theorem makeB {ops : Array Oper} {rest : List Oper} {o : Oper} {a : Act} {Q : Exit → Act → World → Prop} (w : World) (hg : o.guard = none) (l c : Operand) (hop : o.op = Op.makeSlice 22 l c)
    (B : Nat) (kl kc : IntKind) (C : Int) (n : Nat) (hl : a.eval l = .int kl 0) (hc : a.eval c = .int kc C) (hC : C = (n : Int)) (b2 : n ≤ 281474976710656) (b4 : B ≤ w.heap.size)
    (hK : ∀ w', OwnB w' B (.slice (some ⟨w.heap.size, 0, none⟩) 0 n) [] → Below B w w' → wpList Tryd.prog ops Q rest (a.put o.dst (.slice (some ⟨w.heap.size, 0, none⟩) 0 n)) w') :
    wpList Tryd.prog ops Q (o :: rest) a w := by
  obtain ⟨i0, hi0, hz0, hz1, hz2⟩ := info_parts u8_info
  exact wpList_make_own w hg l c _ hop B 5 i0 _ 1 Tryd.underlying22 hi0 hz0 hz1 kl kc C n hl hc hC (by rw [hz2]; omega) (by unfold maxLen; omega) b4 (fun w' ho hg => hK w' ho ((Below.refl _ _).grown hg b4 (by simp)))
end Go.Proofs.YtnpmccekkjadhaaDoor.Pk

/- Owned bytes, slices of slices, appends as steps of a region: what many packages lean on. -/
namespace Go.Proofs.YtnpmccekkjadhaaDoor.Pk
open Go.RowKit
set_option linter.unusedVariables false

theorem own_slice {w : World} {B : Nat} {v : Value} {l : List Int} (h : OwnB w B v l) : ∃ A n c, v = .slice A n c := by
  obtain ⟨A, c, rfl, _, _⟩ := h.reads
  exact ⟨A, _, c, rfl⟩
theorem own_len {w : World} {B : Nat} {A : Option Addr} {n c : Nat} {l : List Int} (h : OwnB w B (.slice A n c) l) : l.length = n ∧ n ≤ c := by
  obtain ⟨A', c', e, hc, _⟩ := h.reads
  injection e with e1 e2 e3
  omega
theorem own_reads {w : World} {B : Nat} {A : Option Addr} {n c : Nat} {l : List Int} (h : OwnB w B (.slice A n c) l) : Reads w w.heap.size 1 A n (bts l) := by
  obtain ⟨A', c', e, _, hr⟩ := h.reads
  have := (own_len h).1
  injection e with e1 e2 e3
  rw [e1]; rw [this] at hr; exact hr
theorem OwnB.lit {w : World} {B : Nat} {cs : Array Value} {l : List Int} (h : cs.toList = bts l) (hB : B ≤ w.heap.size) (hl : l.length ≤ 1048576) : OwnB (w.alloc (.cells cs 5)) B (.slice (some ⟨w.heap.size, 0, none⟩) l.length l.length) l := by
  have hs : cs.size = l.length := by rw [← Array.length_toList, h]; simp
  refine ⟨by simp, .inr ⟨w.heap.size, l.length, cs, by rfl, hB, heap_alloc_new w _, Nat.le_refl _, by unfold maxLen; omega, by omega, ?_⟩⟩
  rw [h, List.take_of_length_le (by simp)]
def cutA (a : Option Addr) (c k : Nat) : Option Addr := if c = k then a else a.map (·.add k)
theorem run_cut1 {P : Program} {t e : TypeId} (ht : P.underlying t = some (.slice e)) (hi : (P.info? e).map (·.size) = some 1) (a : Option Addr) (n c i : Nat) (h1 : i ≤ n) (w : World) :
    (Instr.slice t (.slice a n c) (some (.int .i64 (i : Int))) none none).run P w = .ok (.slice (cutA a c i) (n - i) (c - i)) w := by
  obtain ⟨f, hi1, hi2⟩ := Option.map_eq_some_iff.1 hi
  simp [Instr.slice, run_underlying ht, go_sem, Instr.sliceBounds, sizeOf, typeInfo, hi1, hi2, cutA, h1]
theorem run_cut2 {P : Program} {t e : TypeId} (ht : P.underlying t = some (.slice e)) (hi : (P.info? e).map (·.size) = some 1) (a : Option Addr) (n c i j : Nat) (h1 : i ≤ j) (h2 : j ≤ c) (w : World) :
    (Instr.slice t (.slice a n c) (some (.int .i64 (i : Int))) (some (.int .i64 (j : Int))) none).run P w = .ok (.slice (cutA a c i) (j - i) (c - i)) w := by
  obtain ⟨f, hi1, hi2⟩ := Option.map_eq_some_iff.1 hi
  have e1 : (0 : Int) ≤ (i : Int) := by omega
  have e2 : (i : Int) ≤ (j : Int) := by omega
  have e3 : (0 : Int) ≤ (j : Int) := by omega
  have e4 : (j : Int) ≤ (c : Int) := by omega
  simp [Instr.slice, run_underlying ht, go_sem, Instr.sliceBounds, sizeOf, typeInfo, hi1, hi2, cutA, h1, h2]
theorem run_cut3 {P : Program} {t e : TypeId} (ht : P.underlying t = some (.slice e)) (hi : (P.info? e).map (·.size) = some 1) (a : Option Addr) (n c j : Nat) (h2 : j ≤ c) (w : World) :
    (Instr.slice t (.slice a n c) none (some (.int .i64 (j : Int))) (some (.int .i64 (j : Int)))).run P w = .ok (.slice a j j) w := by
  obtain ⟨f, hi1, hi2⟩ := Option.map_eq_some_iff.1 hi
  have e3 : (0 : Int) ≤ (j : Int) := by omega
  have e4 : (j : Int) ≤ (c : Int) := by omega
  cases a <;> simp [Instr.slice, run_underlying ht, go_sem, Instr.sliceBounds, sizeOf, typeInfo, hi1, h2, Addr.add]
theorem reads_cut {w : World} {B n c i j : Nat} {a : Option Addr} {l : List Int} (h : Reads w B 1 a n (bts l)) (h1 : i ≤ j) (h2 : j ≤ n) (h3 : n ≤ c) : Reads w B 1 (cutA a c i) (j - i) (bts ((l.take j).drop i)) := by
  have := (h.take h2).cut (k := i) (cap := c) h1 (by omega)
  unfold bts at this ⊢
  rw [Nat.mul_one, ← List.map_drop] at this
  exact this
theorem run_head {P : Program} {t e : TypeId} (ht : P.underlying t = some (.slice e)) (hi : (P.info? e).map (·.size) = some 1) (a : Option Addr) (n c j : Nat) (h2 : j ≤ c) (w : World) :
    (Instr.slice t (.slice a n c) none (some (.int .i64 (j : Int))) none).run P w = .ok (.slice a j c) w := by
  obtain ⟨f, hi1, hi2⟩ := Option.map_eq_some_iff.1 hi
  have e3 : (0 : Int) ≤ (j : Int) := by omega
  have e4 : (j : Int) ≤ (c : Int) := by omega
  cases a <;> simp [Instr.slice, run_underlying ht, go_sem, Instr.sliceBounds, sizeOf, typeInfo, hi1, h2, Addr.add]
/-- A row with a mark behind it reads as what it was made of. -/
theorem reads_marked (w : World) (cs : Array Value) (T : TypeId) (f : Nat × Nat) (B n : Nat) (xs : List Value) (h : cs.toList = xs) (hn : xs.length = n) (hB : w.heap.size < B) : Reads (w.alloc (.cells cs T f)) B 1 (some ⟨w.heap.size, 0, none⟩) n xs := by
  subst h
  refine ⟨by rw [hn]; omega, fun _ => ⟨_, rfl, hB, fun j u hu => ?_⟩⟩
  have h0 : (w.alloc (.cells cs T f)).cell? ⟨w.heap.size, j, none⟩ = cs[j]? := cell_of_row _ _ j cs T f (heap_alloc_new w _)
  have e : (⟨w.heap.size, 0, none⟩ : Addr).add j = ⟨w.heap.size, j, none⟩ := by unfold Addr.add; by_cases hj : j = 0 <;> simp [hj]
  rw [e, h0]
  simpa using hu
theorem below_drew_alloc (w : World) (o : Obj) : Below w.heap.size w (w.drew.alloc o) := (⟨rfl, rfl, rfl, Nat.le_refl _, fun _ _ => rfl⟩ : Below w.heap.size w w.drew).alloc (Nat.le_refl _) o
/-- Bytes of any slice behind those that are owned, as one step of a region. -/
theorem stepB {ops : Array Oper} {o : Oper} {a : Act} {K : Act → World → Prop} {Q : Exit → Act → World → Prop} {E : Prop} (w : World) (hgd : o.guard = none) (s x : Operand)
    (ho : o.op = .call { callee := .builtin .append, args := #[s, x], argTypes := #[22, 22] }) (B : Nat) (v : Value) (l : List Int) (hs : a.eval s = v) (hown : OwnB w B v l)
    (B' : Nat) (A : Option Addr) (c : Nat) (r : List Int) (n : Nat) (hx : a.eval x = .slice A n c) (hr : Reads w B' 1 A n (bts r)) (hlen : l.length + n ≤ 140737488355328) (hB : B ≤ w.heap.size)
    (h : ∀ A' n' c' w', OwnB w' B (.slice A' n' c') (l ++ r) → w.grownBy w' v.ownBlock → ((Value.slice A' n' c').ownBlock = v.ownBlock ∨ (Value.slice A' n' c').ownBlock = some w.heap.size) → K (a.put o.dst (.slice A' n' c')) w') :
    if Region.wanted o (yielded ops a.tmps) = true then Oper.wp Tryd.prog o a w K Q else E := by
  obtain ⟨i0, hi0, hz0, hz1, hz2⟩ := info_parts u8_info
  refine step_append_any (P := Tryd.prog) w hgd s x _ ho B 5 i0 _ 1 1 Tryd.underlying22 hi0 hz0 hz1 hz2 rfl (by omega) v l.length (bts l) hs hown B' A n c (bts r) hx hr (bts_one r)
    (by unfold maxLen; omega) (by omega) hB ?_
  intro v' w' ho hg hat
  have hv := OwnB.app ho
  obtain ⟨A', n', c', rfl⟩ := own_slice hv
  exact h A' n' c' w' hv hg hat
/-- Bytes behind an empty literal, as one step of a region. -/
theorem stepE {ops : Array Oper} {o : Oper} {a : Act} {K : Act → World → Prop} {Q : Exit → Act → World → Prop} {E : Prop} (w : World) (k : Nat) (hgd : o.guard = none) (s x : Operand)
    (ho : o.op = .call { callee := .builtin .append, args := #[s, x], argTypes := #[22, 22] }) (hs : a.eval s = .slice (some ⟨k, 0, none⟩) 0 0) (hk : OwnB w k (.slice (some ⟨k, 0, none⟩) 0 0) [])
    (B' : Nat) (A : Option Addr) (c : Nat) (r : List Int) (n : Nat) (hx : a.eval x = .slice A n c) (hr : Reads w B' 1 A n (bts r)) (hlen : n ≤ 140737488355328) (hB : k ≤ w.heap.size)
    (h : ∀ A' n' c' w', OwnB w' k (.slice A' n' c') r → Below k w w' → K (a.put o.dst (.slice A' n' c')) w') :
    if Region.wanted o (yielded ops a.tmps) = true then Oper.wp Tryd.prog o a w K Q else E := by
  refine stepB w hgd s x ho k _ [] hs hk B' A c r n hx hr (by simp; omega) hB ?_
  intro A' n' c' w' hown hg hat
  exact h A' n' c' w' (by simpa using hown) ((Below.refl _ _).grown hg hB (own_base hk))
end Go.Proofs.YtnpmccekkjadhaaDoor.Pk

/- Sets of blocks: those that a call may turn, those that stay, those that come to be. -/
namespace Go.Proofs.YtnpmccekkjadhaaDoor.Pk
open Go.RowKit
set_option linter.unusedVariables false

/-- Only blocks of S, and new ones, may have turned. -/
structure Turned (S : Nat → Prop) (w w' : World) : Prop where
  os : w'.os = w.os
  tape : w'.tape = w.tape
  output : w'.output = w.output
  size : w.heap.size ≤ w'.heap.size
  block : ∀ i, i < w.heap.size → ¬ S i → w'.heap[i]? = w.heap[i]?
theorem Turned.of {B : Nat} {w w' : World} (h : Below B w w') (hB : w.heap.size ≤ B) (S : Nat → Prop) : Turned S w w' := ⟨h.os, h.tape, h.output, h.size, fun i hi _ => h.block i (by omega)⟩
theorem Turned.refl (S : Nat → Prop) (w : World) : Turned S w w := ⟨rfl, rfl, rfl, Nat.le_refl _, fun _ _ _ => rfl⟩
theorem Turned.below {S : Nat → Prop} {B : Nat} {u w w' : World} (h : Turned S w w') (hu : Below B u w) (hB : B ≤ w.heap.size) (hS : ∀ b, S b → B ≤ b) : Below B u w' :=
  ⟨h.os.trans hu.os, h.tape.trans hu.tape, h.output.trans hu.output, Nat.le_trans hu.size h.size, fun i hi => (h.block i (by omega) (fun hs => by have := hS i hs; omega)).trans (hu.block i hi)⟩
theorem Turned.trans {S S' : Nat → Prop} {w w' w2 : World} (h : Turned S w w') (k : Turned S' w' w2) (hS : ∀ b, b < w.heap.size → S' b → S b) : Turned S w w2 :=
  ⟨k.os.trans h.os, k.tape.trans h.tape, k.output.trans h.output, Nat.le_trans h.size k.size, fun i hi hn => (k.block i (Nat.lt_of_lt_of_le hi h.size) (fun hs => hn (hS i hi hs))).trans (h.block i hi hn)⟩
theorem Turned.drewN {S : Nat → Prop} {w w' : World} (h : Turned S w w') (n : Nat) : Turned S w (w'.drewN n) := ⟨h.os, h.tape, h.output, h.size, h.block⟩
theorem Turned.drew {S : Nat → Prop} {w w' : World} (h : Turned S w w') : Turned S w w'.drew := ⟨h.os, h.tape, h.output, h.size, h.block⟩
theorem Turned.set {S : Nat → Prop} {w w' : World} (h : Turned S w w') {p : Addr} (hp : S p.block) (u : Value) : Turned S w (w'.setCell p u) :=
  ⟨h.os, h.tape, h.output, by simpa [World.setCell] using h.size, fun i hi hn => (Below.heap_setCell w' p u i (by rintro rfl; exact hn hp)).trans (h.block i hi hn)⟩
theorem Turned.alloc {S : Nat → Prop} {w w' : World} (h : Turned S w w') (o : Obj) : Turned S w (w'.alloc o) :=
  h.trans (Turned.of ((Below.refl w'.heap.size w').alloc (Nat.le_refl _) o) (Nat.le_refl _) S) (fun _ _ h => h)
theorem Turned.next {S : Nat → Prop} {w w' w2 : World} (h : Turned S w w') (k : Below w'.heap.size w' w2) : Turned S w w2 := h.trans (Turned.of k (Nat.le_refl _) S) (fun _ _ h => h)
theorem Turned.grown {S : Nat → Prop} {w w' w2 : World} (h : Turned S w w') {row : Option Nat} (k : w'.grownBy w2 row) (hr : ∀ g, row = some g → g < w.heap.size → S g) : Turned S w w2 :=
  ⟨k.os.trans h.os, k.tape.trans h.tape, k.output.trans h.output, Nat.le_trans h.size k.size, fun i hi hn => (k.block i (Nat.lt_of_lt_of_le hi h.size) (fun e => hn (hr i e.symm hi))).trans (h.block i hi hn)⟩
/-- The blocks of D stay. -/
def Stay (D : Nat → Prop) (w w' : World) : Prop := w.heap.size ≤ w'.heap.size ∧ ∀ b, D b → w'.heap[b]? = w.heap[b]?
theorem Stay.below {D : Nat → Prop} {B : Nat} {w w' : World} (h : Below B w w') (hD : ∀ b, D b → b < B) : Stay D w w' := ⟨h.size, fun b hb => h.block b (hD b hb)⟩
theorem Stay.drewN (D : Nat → Prop) (w : World) (n : Nat) : Stay D w (w.drewN n) := ⟨Nat.le_refl _, fun _ _ => rfl⟩
theorem Stay.turned {D S : Nat → Prop} {w w' : World} (h : Turned S w w') (hD : ∀ b, D b → b < w.heap.size ∧ ¬ S b) : Stay D w w' := ⟨h.size, fun b hb => h.block b (hD b hb).1 (hD b hb).2⟩
/-- Blocks of a set are old ones or new ones. -/
def From (S S' : Nat → Prop) (w : World) : Prop := ∀ b, S' b → S b ∨ w.heap.size ≤ b
theorem From.refl (S : Nat → Prop) (w : World) : From S S w := fun b h => .inl h
theorem From.trans {S S' S'' : Nat → Prop} {w w' : World} (h : From S S' w) (k : From S' S'' w') (hs : w.heap.size ≤ w'.heap.size) : From S S'' w := fun b hb => by
  rcases k b hb with h1 | h1
  · exact h b h1
  · exact .inr (by omega)
theorem From.back {S S' : Nat → Prop} {w w' : World} (h : From S S' w') (hs : w.heap.size ≤ w'.heap.size) : From S S' w := fun b hb => by
  rcases h b hb with h1 | h1
  · exact .inl h1
  · exact .inr (by omega)
theorem Turned.also {S S' : Nat → Prop} {w w' w2 : World} (h : Turned S w w') (hf : From S S' w) (k : Turned S' w' w2) : Turned S w w2 :=
  h.trans k (fun b hb hs => by rcases hf b hs with h1 | h1; exact h1; omega)
theorem from_base {S S' : Nat → Prop} {w : World} {B : Nat} (h : From S S' w) (hS : ∀ b, S b → B ≤ b) (hB : B ≤ w.heap.size) : ∀ b, S' b → B ≤ b := fun b hb => by
  rcases h b hb with h1 | h1
  · exact hS b h1
  · omega
theorem from_apart {S S' T : Nat → Prop} {w : World} (h : From S S' w) (hd : ∀ b, S b → ¬ T b) (hT : ∀ b, T b → b < w.heap.size) : ∀ b, S' b → ¬ T b := fun b hb ht => by
  rcases h b hb with h1 | h1
  · exact hd b h1 ht
  · have := hT b ht; omega
/-- A slice none of whose blocks lies in S. -/
def Free (S : Nat → Prop) (A : Option Addr) (n : Nat) : Prop := 0 < n → ∀ ad, A = some ad → ¬ S ad.block
theorem Reads.turned {S : Nat → Prop} {w w' : World} {size n : Nat} {A : Option Addr} {xs : List Value} (h : Reads w w.heap.size size A n xs) (hf : Free S A n) (ht : Turned S w w') : Reads w' w'.heap.size size A n xs :=
  ⟨h.1, fun hn => by
    obtain ⟨ad, e, hb, hc⟩ := h.2 hn
    exact ⟨ad, e, Nat.lt_of_lt_of_le hb ht.size, fun j u hu => (World.cell?_of_block (by rw [block_of_add]; exact ht.block _ hb (hf hn ad e))).trans (hc j u hu)⟩⟩
theorem Free.next {S S' : Nat → Prop} {w : World} {size n : Nat} {A : Option Addr} {xs : List Value} (hf : Free S A n) (h : Reads w w.heap.size size A n xs) (hS : From S S' w) : Free S' A n := fun hn ad e hs => by
  obtain ⟨ad', e', hb, _⟩ := h.2 hn
  rw [e] at e'; injection e' with e'; subst e'
  rcases hS _ hs with h1 | h1
  · exact hf hn ad e h1
  · omega
theorem free_base {S : Nat → Prop} {w : World} {B size n : Nat} {A : Option Addr} {xs : List Value} (h : Reads w B size A n xs) (hS : ∀ b, S b → B ≤ b) : Free S A n := fun hn ad e hs => by
  obtain ⟨ad', e', hb, _⟩ := h.2 hn
  rw [e] at e'; injection e' with e'; subst e'
  have := hS _ hs; omega

/-- A value that owns its bytes keeps them as long as its block stays. -/
theorem OwnB.stay {w w' : World} {B : Nat} {v : Value} {l : List Int} (h : OwnB w B v l) (hk : ∀ g, v.ownBlock = some g → w'.heap[g]? = w.heap[g]?) : OwnB w' B v l := by
  obtain ⟨h1, h2⟩ := h
  refine ⟨h1, ?_⟩
  rcases h2 with h2 | ⟨g, cap, cur, rfl, hg, hh, hr⟩
  · exact .inl h2
  · exact .inr ⟨g, cap, cur, rfl, hg, (hk g rfl).trans hh, hr⟩
theorem OwnB.lt {w : World} {B : Nat} {v : Value} {l : List Int} (h : OwnB w B v l) : ∀ g, v.ownBlock = some g → g < w.heap.size := by
  intro g hg
  rcases h.2 with ⟨rfl, _⟩ | ⟨g', cap, cur, rfl, _, hh, _⟩
  · simp [Value.ownBlock] at hg
  · simp [Value.ownBlock] at hg
    subst hg
    rcases Nat.lt_or_ge g' w.heap.size with h' | h'
    · exact h'
    · rw [Array.getElem?_eq_none h'] at hh; cases hh
theorem OwnB.base {w : World} {B : Nat} {v : Value} {l : List Int} (h : OwnB w B v l) : ∀ g, v.ownBlock = some g → B ≤ g := own_base h
theorem OwnB.free {w : World} {B : Nat} {A : Option Addr} {n c : Nat} {l : List Int} (h : OwnB w B (.slice A n c) l) {S : Nat → Prop} (hS : ∀ b, S b → b < B) : Free S A n := fun _ ad e hs => by
  subst e
  have h1 := h.base ad.block rfl
  have h2 := hS _ hs
  omega
theorem OwnB.nil_ (w : World) (B : Nat) : OwnB w B (.slice none 0 0) [] := ⟨rfl, .inl ⟨rfl, rfl⟩⟩
/-- The first k bytes of what is owned are owned. -/
theorem OwnB.cut {w : World} {B : Nat} {A : Option Addr} {n c k : Nat} {l : List Int} (h : OwnB w B (.slice A n c) l) (hk : k ≤ n) : OwnB w B (.slice A k c) (l.take k) := by
  have hl : l.length = n := by
    obtain ⟨A', c', e, _, _⟩ := h.reads
    injection e with _ e _; omega
  rcases h.2 with ⟨e, e0⟩ | ⟨g, cap, cur, e, hg, hh, hn, hm, hs, ht⟩
  · injection e with e1 e2 e3
    subst e1; subst e2; subst e3
    have hk0 : k = 0 := by omega
    subst hk0
    exact OwnB.nil_ w B
  · injection e with e1 e2 e3
    subst e1; subst e3
    have e4 : (l.take k).length = k := by rw [List.length_take]; omega
    refine ⟨by simp [e4], .inr ⟨g, c, cur, by rw [e4], hg, hh, by omega, hm, hs, ?_⟩⟩
    have e5 : bts (l.take k) = (bts l).take k := by unfold bts; rw [List.map_take]
    rw [e5, ← ht, e4, List.take_take]
    congr 1
    omega
end Go.Proofs.YtnpmccekkjadhaaDoor.Pk

/- Parts of memory that a call leaves alone: what lies from one block to another, and who turns it; memory that is made of zeros. -/
namespace Go.Proofs.YtnpmccekkjadhaaDoor.Pk
open Go.RowKit
set_option linter.unusedVariables false

/-- Only blocks from lo up to hi may have turned, and new blocks are there. -/
structure Mod (lo hi : Nat) (w w' : World) : Prop where
  os : w'.os = w.os
  tape : w'.tape = w.tape
  output : w'.output = w.output
  size : w.heap.size ≤ w'.heap.size
  block : ∀ i, i < w.heap.size → (i < lo ∨ hi ≤ i) → w'.heap[i]? = w.heap[i]?

section
variable {lo hi a b B : Nat} {w w' w2 : World} {p : World → Prop}
theorem Mod.of (h : Below w.heap.size w w') (lo hi : Nat) : Mod lo hi w w' := ⟨h.os, h.tape, h.output, h.size, fun i hi _ => h.block i hi⟩
theorem Mod.row {row : Option Nat} (h : w.grownBy w' row) (hr : ∀ g, row = some g → lo ≤ g ∧ g < hi) : Mod lo hi w w' :=
  ⟨h.os, h.tape, h.output, h.size, fun i hi' hn => h.block i hi' (fun e => by have := hr i e.symm; omega)⟩
theorem Mod.refl (lo hi : Nat) (w : World) : Mod lo hi w w := ⟨rfl, rfl, rfl, Nat.le_refl _, fun _ _ _ => rfl⟩
theorem Mod.trans (h : Mod lo hi w w') (k : Mod lo hi w' w2) : Mod lo hi w w2 :=
  ⟨k.os.trans h.os, k.tape.trans h.tape, k.output.trans h.output, Nat.le_trans h.size k.size, fun i h1 h2 => (k.block i (Nat.lt_of_lt_of_le h1 h.size) h2).trans (h.block i h1 h2)⟩
theorem Mod.below (h : Mod lo hi w w') {u : World} (hb : Below B u w) (h1 : B ≤ lo) (hB : B ≤ w.heap.size) : Below B u w' :=
  ⟨h.os.trans hb.os, h.tape.trans hb.tape, h.output.trans hb.output, Nat.le_trans hb.size h.size, fun i hi => (h.block i (by omega) (.inl (by omega))).trans (hb.block i hi)⟩
theorem Mod.drewN (h : Mod lo hi w w') (n : Nat) : Mod lo hi w (w'.drewN n) := ⟨h.os, h.tape, h.output, h.size, h.block⟩
theorem Mod.drew (h : Mod lo hi w w') : Mod lo hi w w'.drew := ⟨h.os, h.tape, h.output, h.size, h.block⟩
theorem Mod.drawn (lo hi : Nat) (w : World) (n : Nat) : Mod lo hi w (w.drewN n) := (Mod.refl lo hi w).drewN n
theorem Mod.drawn1 (lo hi : Nat) (w : World) : Mod lo hi w w.drew := (Mod.refl lo hi w).drew
/-- What the call's own and later blocks may turn to. -/
theorem Mod.late {row : Option Nat} (h : Mod lo hi w w') (k : w'.grownBy w2 row) (hr : ∀ g, row = some g → (lo ≤ g ∧ g < hi) ∨ w.heap.size ≤ g) : Mod lo hi w w2 :=
  ⟨k.os.trans h.os, k.tape.trans h.tape, k.output.trans h.output, Nat.le_trans h.size k.size, fun i h1 h2 =>
    (k.block i (Nat.lt_of_lt_of_le h1 h.size) (fun e => by have := hr i e.symm; omega)).trans (h.block i h1 h2)⟩

/-- p holds, and holds as long as the blocks from lo up to hi stay. -/
def Held (lo hi : Nat) (p : World → Prop) (w : World) : Prop := hi ≤ w.heap.size ∧ ∀ w', w.heap.size ≤ w'.heap.size → (∀ i, lo ≤ i → i < hi → w'.heap[i]? = w.heap[i]?) → p w'
theorem Held.out (h : Held lo hi p w) : p w := h.2 w (Nat.le_refl _) (fun _ _ _ => rfl)
theorem Held.mod (h : Held lo hi p w) (m : Mod a b w w') (hd : b ≤ lo ∨ hi ≤ a) : Held lo hi p w' :=
  ⟨Nat.le_trans h.1 m.size, fun w2 hs hk => h.2 w2 (Nat.le_trans m.size hs) (fun i h1 h2 => (hk i h1 h2).trans (m.block i (by have := h.1; omega) (by omega)))⟩
theorem Held.below (h : Held lo hi p w) (m : Below w.heap.size w w') : Held lo hi p w' := h.mod (Mod.of m 0 0) (.inl (Nat.zero_le _))
theorem Held.drewN (h : Held lo hi p w) (n : Nat) : Held lo hi p (w.drewN n) := h
theorem Held.drew (h : Held lo hi p w) : Held lo hi p w.drew := h
theorem Held.alloc (h : Held lo hi p w) (o : Obj) : Held lo hi p (w.alloc o) := h.below ((Below.refl _ _).alloc (Nat.le_refl _) _)
end

/-- The slice reads as xs, between the blocks lo and hi. -/
def RowI (lo hi : Nat) (A : Option Addr) (n : Nat) (xs : List Value) (w : World) : Prop := Reads w hi 1 A n xs ∧ (0 < n → ∀ ad, A = some ad → lo ≤ ad.block)
theorem RowI.held {lo hi n : Nat} {A : Option Addr} {xs : List Value} {w : World} (h : RowI lo hi A n xs w) (hh : hi ≤ w.heap.size) : Held lo hi (RowI lo hi A n xs) w := by
  refine ⟨hh, fun w' hs hk => ⟨⟨h.1.1, fun hn => ?_⟩, h.2⟩⟩
  obtain ⟨ad, e, hb, hc⟩ := h.1.2 hn
  refine ⟨ad, e, hb, fun j u hu => ?_⟩
  rw [← hc j u hu]
  exact World.cell?_of_block (hk _ (by rw [block_of_add]; exact h.2 hn ad e) (by rw [block_of_add]; exact hb))
theorem RowI.of {n : Nat} {A : Option Addr} {xs : List Value} {w : World} (h : Reads w w.heap.size 1 A n xs) : Held 0 w.heap.size (RowI 0 w.heap.size A n xs) w :=
  RowI.held ⟨h, fun _ _ _ => Nat.zero_le _⟩ (Nat.le_refl _)
theorem RowI.reads {lo hi n : Nat} {A : Option Addr} {xs : List Value} {w : World} (h : Held lo hi (RowI lo hi A n xs) w) : Reads w w.heap.size 1 A n xs := h.out.1.more h.1
theorem RowI.take {lo hi n k : Nat} {A : Option Addr} {l : List Int} {w : World} (h : RowI lo hi A n (bts l) w) (hk : k ≤ n) : RowI lo hi A k (bts (l.take k)) w :=
  ⟨h.1.take hk, fun h0 => h.2 (by omega)⟩

/-- The slice owns the bytes l, between the blocks lo and hi. -/
def OwnI (lo hi : Nat) (v : Value) (l : List Int) (w : World) : Prop := OwnB w lo v l ∧ ∀ g, v.ownBlock = some g → g < hi
theorem own_lt {w : World} {B n : Nat} {e : TypeId} {v : Value} {xs : List Value} (h : w.ownsRow B e 1 v n xs) : ∀ g, v.ownBlock = some g → g < w.heap.size := by
  intro g hg
  rcases h.2 with ⟨rfl, _⟩ | ⟨g', cap, cur, rfl, _, hh, _⟩
  · simp [Value.ownBlock] at hg
  · simp [Value.ownBlock] at hg
    subst hg
    rcases Nat.lt_or_ge g' w.heap.size with h' | h'
    · exact h'
    · rw [Array.getElem?_eq_none h'] at hh; cases hh
theorem OwnI.held {lo hi : Nat} {v : Value} {l : List Int} {w : World} (h : OwnI lo hi v l w) (hh : hi ≤ w.heap.size) : Held lo hi (OwnI lo hi v l) w := by
  refine ⟨hh, fun w' hs hk => ⟨?_, h.2⟩⟩
  obtain ⟨⟨h1, h2⟩, h3⟩ := h
  refine ⟨h1, ?_⟩
  rcases h2 with h2 | ⟨g, cap, cur, rfl, hg, hh', hr⟩
  · exact .inl h2
  · exact .inr ⟨g, cap, cur, rfl, hg, (hk g hg (h3 g rfl)).trans hh', hr⟩
theorem OwnI.of {lo : Nat} {v : Value} {l : List Int} {w : World} (h : OwnB w lo v l) : Held lo w.heap.size (OwnI lo w.heap.size v l) w :=
  OwnI.held ⟨h, own_lt h⟩ (Nat.le_refl _)
theorem OwnI.row {lo hi : Nat} {A : Option Addr} {n c : Nat} {l : List Int} {w : World} (h : OwnI lo hi (.slice A n c) l w) : l.length = n ∧ n ≤ c ∧ c ≤ maxLen ∧ RowI lo hi A n (bts l) w := by
  have hb := h.1
  obtain ⟨A', c', e, hc, hr⟩ := hb.reads
  injection e with e1 e2 e3
  subst e1; subst e2; subst e3
  refine ⟨rfl, hc, ?_, ?_⟩
  · rcases hb.2 with ⟨e, _⟩ | ⟨g, cap, cur, e, _, _, _, hm, _⟩
    · injection e with _ _ e; subst e; exact Nat.zero_le _
    · injection e with _ _ e; subst e; exact hm
  · rcases hb.2 with ⟨e, _⟩ | ⟨g, cap, cur, e, hg, _⟩
    · injection e with e1 e2 e3; rw [e2] at hr ⊢
      exact ⟨⟨hr.1, fun h0 => absurd h0 (by omega)⟩, fun h0 => absurd h0 (by omega)⟩
    · injection e with e1 e2 e3
      subst e1
      refine ⟨⟨hr.1, fun h0 => ?_⟩, fun _ ad e => by injection e with e; subst e; exact hg⟩
      obtain ⟨ad, e, hb', hc'⟩ := hr.2 h0
      injection e with e; subst e
      exact ⟨_, rfl, h.2 g rfl, hc'⟩
theorem OwnI.rowHeld {lo hi : Nat} {A : Option Addr} {n c : Nat} {l : List Int} {w : World} (h : Held lo hi (OwnI lo hi (.slice A n c) l) w) : Held lo hi (RowI lo hi A n (bts l)) w := h.out.row.2.2.2.held h.1

/-- A byte is stored into an owned slice. -/
theorem OwnI.store {lo hi : Nat} {A : Option Addr} {n c i : Nat} {l : List Int} {w : World} (h : OwnI lo hi (.slice A n c) l w) (hin : i < n) :
    ∃ g, A = some ⟨g, 0, none⟩ ∧ lo ≤ g ∧ g < hi ∧ g < w.heap.size ∧ w.cell? ⟨g, i, none⟩ = some (.int .u8 (l.getD i 0)) ∧ w.frozen? ⟨g, i, none⟩ = false ∧
      ∀ x, OwnI lo hi (.slice A n c) (l.set i x) (w.setCell ⟨g, i, none⟩ (.int .u8 x)) ∧ Mod lo hi w (w.setCell ⟨g, i, none⟩ (.int .u8 x)) := by
  have hl := h.row.1
  have hr := h.row.2.2.2.1
  obtain ⟨hb, h3⟩ := h
  have hlt := own_lt hb
  rcases hb.2 with ⟨e, e0⟩ | ⟨g, cap, cur, e, hg, hh, hn, hm, hs, ht⟩
  · omega
  · injection e with e1 e2 e3
    subst e1; subst e3
    obtain ⟨b, off, e4, hbb, hc⟩ := hr.u8 (by omega)
    injection e4 with e4
    injection e4 with e4 e5
    subst e4; subst e5
    simp only [Nat.zero_add] at hc
    refine ⟨g, rfl, hg, h3 g rfl, hlt g rfl, hc i hin, by simp [World.frozen?, hh], fun x => ⟨⟨⟨by simp, .inr ⟨g, c, cur.setIfInBounds i (.int .u8 x), by simp [hl], hg, by simp [World.setCell, Array.getElem?_modify, hh], by simp; omega, hm, by simpa using hs, ?_⟩⟩, h3⟩, ?_⟩⟩
    · apply List.ext_getElem?
      intro j
      have hj := congrArg (fun (z : List Value) => z[j]?) ht
      simp only [bts, List.getElem?_take, List.getElem?_map, Array.getElem?_toList, Nat.mul_one, hl] at hj
      simp only [bts, List.getElem?_take, List.getElem?_map, Array.getElem?_toList, List.length_set, Nat.mul_one, hl, Array.getElem?_setIfInBounds, List.getElem?_set]
      by_cases hji : j < n
      · rw [if_pos hji] at hj ⊢
        by_cases hij : i = j
        · subst hij
          rw [if_pos rfl, if_pos rfl, if_pos (by omega), if_pos (by omega)]; rfl
        · rw [if_neg hij, if_neg hij]; exact hj
      · rw [if_neg hji] at hj ⊢
        rw [if_neg (by omega)]
        exact hj
    · refine ⟨rfl, rfl, rfl, by simp [World.setCell], fun k hk hn => Below.heap_setCell w ⟨g, i, none⟩ _ k ?_⟩
      have := h3 g rfl
      simp only
      omega

theorem rowI_own {w : World} {lo n : Nat} {e : TypeId} {v : Value} {xs : List Value} (h : w.ownsRow lo e 1 v n xs) : ∃ A c, v = .slice A n c ∧ n ≤ c ∧ Held lo w.heap.size (RowI lo w.heap.size A n xs) w := by
  obtain ⟨A, c, rfl, hc, hr⟩ := reads_own h
  refine ⟨A, c, rfl, hc, RowI.held ⟨hr, fun hn ad e => ?_⟩ (Nat.le_refl _)⟩
  subst e
  exact own_base h ad.block rfl

/-- The bytes that a slice begins with. -/
theorem app_take (l r : List Int) (n : Nat) (h : l.length = n) : (l ++ r).take n = l := by subst h; simp

/-- New memory of n zeros. -/
theorem makeF {ops : Array Oper} {rest : List Oper} {o : Oper} {a : Act} {Q : Exit → Act → World → Prop} (w : World) (hg : o.guard = none) (l c : Operand) (hop : o.op = Op.makeSlice 22 l c)
    (B : Nat) (kl kc : IntKind) (L C : Int) (n : Nat) (hl : a.eval l = .int kl L) (hc : a.eval c = .int kc C) (hL : L = (n : Int)) (hC : C = (n : Int)) (b2 : n ≤ 281474976710656) (b4 : B ≤ w.heap.size)
    (hK : ∀ w', OwnB w' B (.slice (some ⟨w.heap.size, 0, none⟩) n n) (List.replicate n 0) → Below B w w' → wpList Tryd.prog ops Q rest (a.put o.dst (.slice (some ⟨w.heap.size, 0, none⟩) n n)) w') :
    wpList Tryd.prog ops Q (o :: rest) a w := by
  obtain ⟨i0, hi0, hz0, hz1, hz2⟩ := info_parts u8_info
  refine wpList_make_full w hg l c _ hop B 5 i0 _ 1 Tryd.underlying22 hi0 hz0 hz1 kl kc L C n hl hc hL hC (by rw [hz2]; omega) (by unfold maxLen; omega) b4 (fun w' ho hg => hK w' ?_ ((Below.refl _ _).grown hg b4 (by simp)))
  have e : (madeCells (Value.int .u8 0).cells (n * 1)).toList = bts (List.replicate n 0) := by
    rw [Nat.mul_one]
    show (madeCells #[Value.int .u8 0] n).toList = _
    rw [toList_madeCells_one]
    simp [bts]
  rw [e] at ho
  exact OwnB.of (k := 0) (r := []) ho rfl
end Go.Proofs.YtnpmccekkjadhaaDoor.Pk
