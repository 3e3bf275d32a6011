/- Messages as they lie: five ints. -/
import Derived.Test.YtcicpgiljceioaaZWiMath
import Derived.Test.YtcicpgiljceioaaZWords
import Derived.Test.YtcicpgiljceioaaProg
import Derived.LoopTactic
import Derived.Outline
import Derived.Lib.Hide
import Derived.Test.YtcicpgiljceioaaZKind
import Derived.Test.YtcicpgiljceioaaZPackMath
namespace Go.Proofs.Ytcicpgiljceioaa.Pk
open Go.RowKit
set_option linter.unusedVariables false
def Mg.val (m : Mg) : Value := .agg #[.int .i64 m.k, .int .i64 m.o, .int .i64 m.n, .int .i64 m.u, .int .i64 m.v]
/-- Five ints. -/
structure Mg.I (m : Mg) : Prop where
  k : -9223372036854775808 ≤ m.k ∧ m.k ≤ 9223372036854775807
  o : -9223372036854775808 ≤ m.o ∧ m.o ≤ 9223372036854775807
  n : -9223372036854775808 ≤ m.n ∧ m.n ≤ 9223372036854775807
  u : -9223372036854775808 ≤ m.u ∧ m.u ≤ 9223372036854775807
  v : -9223372036854775808 ≤ m.v ∧ m.v ≤ 9223372036854775807
theorem Mg.Be.i {m : Mg} (h : m.Be) : m.I := by
  obtain ⟨h1, h2, h3, h4, h5, h6, h7, h8, h9, h10⟩ := h
  have : -9223372036854775808 ≤ m.v ∧ m.v ≤ 9223372036854775807 := by
    by_cases hk : m.k = 4
    · have := h9 hk; omega
    · have := h10 hk; omega
  exact ⟨by omega, by omega, by omega, by omega, this⟩
end Go.Proofs.Ytcicpgiljceioaa.Pk

/- Plain mathematics of one side of an edge: what was pushed and not heard, what was heard of the peer's. -/
namespace Go.Proofs.Ytcicpgiljceioaa.Pk
set_option linter.unusedVariables false
/-- A side: the peer, how many it heard, the messages behind them, how many of the peer's were heard. -/
structure Hf where
  p : Int
  b : Int
  o : List Mg
  s : Int
deriving DecidableEq
def Hf.zero : Hf := ⟨0, 0, [], 0⟩
def allBe (l : List Mg) : Prop := ∀ m ∈ l, m.Be
instance (l : List Mg) : Decidable (allBe l) := by unfold allBe; exact inferInstance
def Hf.Be (h : Hf) : Prop := 0 ≤ h.p ∧ h.p ≤ 31 ∧ 0 ≤ h.b ∧ 0 ≤ h.s ∧ h.s ≤ 1099511627776 ∧ h.o.length ≤ 1024 ∧ h.b + (h.o.length : Int) ≤ 1099511627776 ∧ allBe h.o
instance (h : Hf) : Decidable h.Be := by unfold Hf.Be; exact inferInstance
/-- No room for a message more. -/
def Hf.Full (h : Hf) : Prop := h.o.length = 1024 ∨ h.b + (h.o.length : Int) = 1099511627776
instance (h : Hf) : Decidable h.Full := by unfold Hf.Full; exact inferInstance
/-- A number that is word of more. -/
def Hf.News (h : Hf) (a : Int) : Prop := h.b < a ∧ a ≤ h.b + (h.o.length : Int)
instance (h : Hf) (a : Int) : Decidable (h.News a) := by unfold Hf.News; exact inferInstance
def Hf.add (h : Hf) (m : Mg) : Hf := ⟨h.p, h.b, h.o ++ [m], h.s⟩
def Hf.cut (h : Hf) (a : Int) : Hf := ⟨h.p, a, h.o.drop (a - h.b).toNat, h.s⟩
def Hf.one (h : Hf) : Hf := ⟨h.p, h.b, h.o, h.s + 1⟩
def hpush (h : Hf) (m : Mg) : Hf × Int := if h.Be then (if m.Be then (if h.Full then (Hf.zero, 23) else (h.add m, 0)) else (Hf.zero, 1)) else (Hf.zero, 24)
def hheard (h : Hf) (a : Int) : Hf × Int := if h.Be then (if h.News a then (h.cut a, 0) else (h, 0)) else (Hf.zero, 24)
def hfits (h : Hf) (q : Int) : Bool := decide (h.Be ∧ h.s < 1099511627776 ∧ q = h.s + 1)
def htake (h : Hf) : Hf × Int := if h.Be then (if h.s = 1099511627776 then (Hf.zero, 23) else (h.one, 0)) else (Hf.zero, 24)
/-- The messages with their numbers, from number b + 1 on. -/
def hnum : Int → List Mg → List (Int × Mg)
  | _, [] => []
  | b, m :: r => (b + 1, m) :: hnum (b + 1) r
/-- What Left goes over. -/
def hleft (h : Hf) (seen : Int) : List (Int × Mg) := if h.Be then (hnum h.b h.o).filter (fun x => decide (seen < x.1)) else []
theorem hnum_length (b : Int) (l : List Mg) : (hnum b l).length = l.length := by
  induction l generalizing b with
  | nil => rfl
  | cons m r ih => simp [hnum, ih]
theorem hnum_get (b : Int) (l : List Mg) (i : Nat) : (hnum b l)[i]? = (l[i]?).map (fun m => (b + 1 + (i : Int), m)) := by
  induction l generalizing b i with
  | nil => simp [hnum]
  | cons m r ih =>
    cases i with
    | zero => simp [hnum]
    | succ i =>
      simp only [hnum, List.getElem?_cons_succ, ih]
      congr 1
      funext x
      congr 1
      omega
/-- Left is the numbered messages without the first ones. -/
theorem hnum_filter (b : Int) (l : List Mg) (seen : Int) : (hnum b l).filter (fun x => decide (seen < x.1)) = (hnum b l).drop (seen - b).toNat := by
  induction l generalizing b with
  | nil => simp [hnum]
  | cons m r ih =>
    simp only [hnum]
    by_cases h : seen < b + 1
    · have e : (seen - b).toNat = 0 := by omega
      have e2 : (seen - (b + 1)).toNat = 0 := by omega
      rw [List.filter_cons_of_pos (by simpa using h), ih (b + 1), e, e2]
      simp
    · obtain ⟨k, hk⟩ : ∃ k, (seen - b).toNat = k + 1 := ⟨(seen - b).toNat - 1, by omega⟩
      have e2 : (seen - (b + 1)).toNat = k := by omega
      rw [List.filter_cons_of_neg (by simpa using h), ih (b + 1), hk, e2]
      rfl
theorem hleft_drop {h : Hf} (hb : h.Be) (seen : Int) : hleft h seen = (hnum h.b h.o).drop (seen - h.b).toNat := by
  unfold hleft
  rw [if_pos hb, hnum_filter]
theorem hleft_not {h : Hf} (hb : ¬ h.Be) (seen : Int) : hleft h seen = [] := if_neg hb
theorem hleft_get {h : Hf} (hb : h.Be) (seen : Int) (i : Nat) : (hleft h seen)[i]? = (h.o[(seen - h.b).toNat + i]?).map (fun m => (h.b + 1 + ((seen - h.b).toNat + i : Nat), m)) := by
  rw [hleft_drop hb, List.getElem?_drop, hnum_get]
theorem hleft_length {h : Hf} (hb : h.Be) (seen : Int) : (hleft h seen).length = h.o.length - (seen - h.b).toNat := by
  rw [hleft_drop hb, List.length_drop, hnum_length]
theorem Hf.Be.add {h : Hf} (hb : h.Be) {m : Mg} (hm : m.Be) (hf : ¬ h.Full) : (h.add m).Be := by
  obtain ⟨h1, h2, h3, h4, h5, h6, h7, h8⟩ := hb
  unfold Hf.Full at hf
  refine ⟨h1, h2, h3, h4, h5, ?_, ?_, ?_⟩
  · show (h.o ++ [m]).length ≤ 1024
    rw [List.length_append]
    simp
    omega
  · show h.b + ((h.o ++ [m]).length : Int) ≤ _
    rw [List.length_append]
    simp
    omega
  · intro x hx
    rcases List.mem_append.1 (show x ∈ h.o ++ [m] from hx) with hx | hx
    · exact h8 x hx
    · obtain rfl : x = m := by simpa using hx
      exact hm
theorem Hf.Be.cut {h : Hf} (hb : h.Be) {a : Int} (hn : h.News a) : (h.cut a).Be := by
  obtain ⟨h1, h2, h3, h4, h5, h6, h7, h8⟩ := hb
  obtain ⟨n1, n2⟩ := hn
  refine ⟨h1, h2, ?_, h4, h5, ?_, ?_, fun x hx => h8 x (List.mem_of_mem_drop hx)⟩
  · show 0 ≤ a; omega
  · show (h.o.drop _).length ≤ 1024
    rw [List.length_drop]; omega
  · show a + ((h.o.drop (a - h.b).toNat).length : Int) ≤ _
    rw [List.length_drop]; omega
theorem Hf.Be.one {h : Hf} (hb : h.Be) (hs : h.s ≠ 1099511627776) : h.one.Be := by
  obtain ⟨h1, h2, h3, h4, h5, h6, h7, h8⟩ := hb
  exact ⟨h1, h2, h3, by show 0 ≤ h.s + 1; omega, by show h.s + 1 ≤ _; omega, h6, h7, h8⟩
theorem cut_len {h : Hf} {a : Int} (hn : h.News a) : (h.cut a).b + ((h.cut a).o.length : Int) = h.b + (h.o.length : Int) := by
  obtain ⟨n1, n2⟩ := hn
  show a + ((h.o.drop (a - h.b).toNat).length : Int) = _
  rw [List.length_drop]; omega
/-- Word that comes twice. -/
theorem cut_cut {h : Hf} {a b : Int} (ha : h.News a) (hb : (h.cut a).News b) : (h.cut a).cut b = h.cut b := by
  have h1 := cut_len ha
  obtain ⟨n1, n2⟩ := ha
  obtain ⟨m1, m2⟩ := hb
  rw [h1] at m2
  unfold Hf.cut at m1 ⊢
  simp only at m1 ⊢
  rw [List.drop_drop]
  congr 2
  omega
end Go.Proofs.Ytcicpgiljceioaa.Pk

/- A node's state, and how it lies in memory. -/
namespace Go.Proofs.Ytcicpgiljceioaa.Pk
open Go.RowKit
set_option linter.unusedVariables false
def I64 (x : Int) : Prop := -9223372036854775808 ≤ x ∧ x ≤ 9223372036854775807
/-- An object of a node; a side of an edge; a locate that is open; one that is answered; the state. -/
structure Ow where
  a : Int
  m : Int
  c : List Ce
  deriving DecidableEq
structure Ak where
  o : Int
  n : Int
  deriving DecidableEq
structure Fnd where
  o : Int
  n : Int
  w : Int
  deriving DecidableEq
structure St where
  me : Int
  os : List Ow
  es : List Hf
  q : Int
  as_ : List Ak
  gs : List Fnd
  deriving DecidableEq
def St.zero : St := ⟨0, [], [], 0, [], []⟩
/-- A slice as it lies. -/
structure Sl where
  A : Option Addr
  n : Nat
  c : Nat
def Sl.val (s : Sl) : Value := .slice s.A s.n s.c
/-- An object, a side as they lie: the list in them is a slice. -/
structure OwL where
  v : Ow
  s : Sl
structure SdL where
  v : Hf
  s : Sl
instance : Inhabited Ow := ⟨⟨0, 0, []⟩⟩
instance : Inhabited Sl := ⟨⟨none, 0, 0⟩⟩
instance : Inhabited OwL := ⟨⟨default, default⟩⟩
instance : Inhabited SdL := ⟨⟨⟨0, 0, [], 0⟩, default⟩⟩
instance : Inhabited Ak := ⟨⟨0, 0⟩⟩
instance : Inhabited Fnd := ⟨⟨0, 0, 0⟩⟩
instance : Inhabited Ce := ⟨Ce.zero⟩
instance : Inhabited Mg := ⟨⟨0, 0, 0, 0, 0⟩⟩
def ceR : Row Ce where
  enc m := [.int .i64 m.n, .int .i64 m.s, .int .i64 m.d, .int .i64 m.x]
  k := 4
  T := 57
  S := 53
  z := .agg #[.int .i64 0, .int .i64 0, .int .i64 0, .int .i64 0]
  by_ := 32
  len _ := rfl
  one x u hu := by simp at hu; rcases hu with rfl | rfl | rfl | rfl <;> rfl
  und := Try.underlying53
  info := by kernel_rfl
  zc := rfl
  pos := by omega
  bpos := by omega
def mgR : Row Mg where
  enc m := [.int .i64 m.k, .int .i64 m.o, .int .i64 m.n, .int .i64 m.u, .int .i64 m.v]
  k := 5
  T := 45
  S := 58
  z := .agg #[.int .i64 0, .int .i64 0, .int .i64 0, .int .i64 0, .int .i64 0]
  by_ := 40
  len _ := rfl
  one x u hu := by simp at hu; rcases hu with rfl | rfl | rfl | rfl | rfl <;> rfl
  und := Try.underlying58
  info := by kernel_rfl
  zc := rfl
  pos := by omega
  bpos := by omega
def owR : Row OwL where
  enc o := [.int .i64 o.v.a, .int .i64 o.v.m, o.s.val]
  k := 3
  T := 55
  S := 25
  z := .agg #[.int .i64 0, .int .i64 0, .slice none 0 0]
  by_ := 40
  len _ := rfl
  one x u hu := by simp [Sl.val] at hu; rcases hu with rfl | rfl | rfl <;> rfl
  und := Try.underlying25
  info := by kernel_rfl
  zc := rfl
  pos := by omega
  bpos := by omega
def sdR : Row SdL where
  enc e := [.int .i64 e.v.p, .int .i64 e.v.b, e.s.val, .int .i64 e.v.s]
  k := 4
  T := 60
  S := 26
  z := .agg #[.int .i64 0, .int .i64 0, .slice none 0 0, .int .i64 0]
  by_ := 48
  len _ := rfl
  one x u hu := by simp [Sl.val] at hu; rcases hu with rfl | rfl | rfl | rfl <;> rfl
  und := Try.underlying26
  info := by kernel_rfl
  zc := rfl
  pos := by omega
  bpos := by omega
def akR : Row Ak where
  enc m := [.int .i64 m.o, .int .i64 m.n]
  k := 2
  T := 64
  S := 27
  z := .agg #[.int .i64 0, .int .i64 0]
  by_ := 16
  len _ := rfl
  one x u hu := by simp at hu; rcases hu with rfl | rfl <;> rfl
  und := Try.underlying27
  info := by kernel_rfl
  zc := rfl
  pos := by omega
  bpos := by omega
def fdR : Row Fnd where
  enc m := [.int .i64 m.o, .int .i64 m.n, .int .i64 m.w]
  k := 3
  T := 62
  S := 28
  z := .agg #[.int .i64 0, .int .i64 0, .int .i64 0]
  by_ := 24
  len _ := rfl
  one x u hu := by simp at hu; rcases hu with rfl | rfl | rfl <;> rfl
  und := Try.underlying28
  info := by kernel_rfl
  zc := rfl
  pos := by omega
  bpos := by omega
/-- A list that is read at a slice. -/
structure InR {α : Type} (R : Row α) (w : World) (s : Sl) (l : List α) : Prop where
  rd : Reads w w.heap.size R.k s.A s.n (R.cells l)
  cap : s.n ≤ s.c
  few : s.n * R.by_ ≤ 140737488351232
theorem InR.len {α : Type} {R : Row α} {w : World} {s : Sl} {l : List α} (h : InR R w s l) : l.length = s.n := R.klen h.rd
theorem InR.next {α : Type} {R : Row α} {w w' : World} {s : Sl} {l : List α} (h : InR R w s l) (hb : Below w.heap.size w w') : InR R w' s l := ⟨(h.rd.below hb).more hb.size, h.cap, h.few⟩
/-- An object, a side, that came in. -/
structure OwL.Ok (w : World) (o : OwL) : Prop where
  a : I64 o.v.a
  m : I64 o.v.m
  c : InR ceR w o.s o.v.c
  i : ∀ x ∈ o.v.c, x.I
structure SdL.Ok (w : World) (e : SdL) : Prop where
  p : I64 e.v.p
  b : I64 e.v.b
  s : I64 e.v.s
  o : InR mgR w e.s e.v.o
  i : ∀ x ∈ e.v.o, x.I
theorem OwL.Ok.next {w w' : World} {o : OwL} (h : o.Ok w) (hb : Below w.heap.size w w') : o.Ok w' := ⟨h.a, h.m, h.c.next hb, h.i⟩
theorem SdL.Ok.next {w w' : World} {e : SdL} (h : e.Ok w) (hb : Below w.heap.size w w') : e.Ok w' := ⟨h.p, h.b, h.s, h.o.next hb, h.i⟩
/-- A state as it lies. -/
structure StL where
  me : Int
  os : List OwL
  so : Sl
  es : List SdL
  se : Sl
  q : Int
  as_ : List Ak
  sa : Sl
  gs : List Fnd
  sg : Sl
def StL.v (s : StL) : St := ⟨s.me, s.os.map (·.v), s.es.map (·.v), s.q, s.as_, s.gs⟩
def StL.val (s : StL) : Value := .agg #[.int .i64 s.me, s.so.val, s.se.val, .int .i64 s.q, s.sa.val, s.sg.val]
/-- A state that is handed over. -/
structure InS (w : World) (s : StL) : Prop where
  me : I64 s.me
  q : I64 s.q
  os : InR owR w s.so s.os
  es : InR sdR w s.se s.es
  as_ : InR akR w s.sa s.as_
  gs : InR fdR w s.sg s.gs
  o : ∀ x ∈ s.os, x.Ok w
  e : ∀ x ∈ s.es, x.Ok w
  a : ∀ x ∈ s.as_, I64 x.o ∧ I64 x.n
  g : ∀ x ∈ s.gs, I64 x.o ∧ I64 x.n ∧ I64 x.w
theorem InS.next {w w' : World} {s : StL} (h : InS w s) (hb : Below w.heap.size w w') : InS w' s :=
  ⟨h.me, h.q, h.os.next hb, h.es.next hb, h.as_.next hb, h.gs.next hb, fun x hx => (h.o x hx).next hb, fun x hx => (h.e x hx).next hb, h.a, h.g⟩
end Go.Proofs.Ytcicpgiljceioaa.Pk
