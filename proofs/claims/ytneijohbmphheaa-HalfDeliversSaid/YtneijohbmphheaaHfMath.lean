/- Plain mathematics of one side of an edge: what was pushed and not heard, what was heard of the peer's. -/
import Derived.Test.YtneijohbmphheaaWiMath
namespace Go.Proofs.Ytneijohbmphheaa.Pk
set_option linter.unusedVariables false
/-- A side: the peer, how many it heard, the messages behind them, how many of the peer's were heard. -/
structure Hf where
  p : Int
  b : Int
  o : List Mg
  s : Int
deriving DecidableEq
def Hf.zero : Hf := ⟨0, 0, [], 0⟩
def allBe (l : List Mg) : Prop := ∀ m ∈ l, m.Be
instance (l : List Mg) : Decidable (allBe l) := by unfold allBe; exact inferInstance
def Hf.Be (h : Hf) : Prop := 0 ≤ h.p ∧ h.p ≤ 31 ∧ 0 ≤ h.b ∧ 0 ≤ h.s ∧ h.s ≤ 1099511627776 ∧ h.o.length ≤ 1024 ∧ h.b + (h.o.length : Int) ≤ 1099511627776 ∧ allBe h.o
instance (h : Hf) : Decidable h.Be := by unfold Hf.Be; exact inferInstance
/-- No room for a message more. -/
def Hf.Full (h : Hf) : Prop := h.o.length = 1024 ∨ h.b + (h.o.length : Int) = 1099511627776
instance (h : Hf) : Decidable h.Full := by unfold Hf.Full; exact inferInstance
/-- A number that is word of more. -/
def Hf.News (h : Hf) (a : Int) : Prop := h.b < a ∧ a ≤ h.b + (h.o.length : Int)
instance (h : Hf) (a : Int) : Decidable (h.News a) := by unfold Hf.News; exact inferInstance
def Hf.add (h : Hf) (m : Mg) : Hf := ⟨h.p, h.b, h.o ++ [m], h.s⟩
def Hf.cut (h : Hf) (a : Int) : Hf := ⟨h.p, a, h.o.drop (a - h.b).toNat, h.s⟩
def Hf.one (h : Hf) : Hf := ⟨h.p, h.b, h.o, h.s + 1⟩
def hpush (h : Hf) (m : Mg) : Hf × Int := if h.Be then (if m.Be then (if h.Full then (Hf.zero, 23) else (h.add m, 0)) else (Hf.zero, 1)) else (Hf.zero, 24)
def hheard (h : Hf) (a : Int) : Hf × Int := if h.Be then (if h.News a then (h.cut a, 0) else (h, 0)) else (Hf.zero, 24)
def hfits (h : Hf) (q : Int) : Bool := decide (h.Be ∧ h.s < 1099511627776 ∧ q = h.s + 1)
def htake (h : Hf) : Hf × Int := if h.Be then (if h.s = 1099511627776 then (Hf.zero, 23) else (h.one, 0)) else (Hf.zero, 24)
/-- The messages with their numbers, from number b + 1 on. -/
def hnum : Int → List Mg → List (Int × Mg)
  | _, [] => []
  | b, m :: r => (b + 1, m) :: hnum (b + 1) r
/-- What Left goes over. -/
def hleft (h : Hf) (seen : Int) : List (Int × Mg) := if h.Be then (hnum h.b h.o).filter (fun x => decide (seen < x.1)) else []
theorem hnum_length (b : Int) (l : List Mg) : (hnum b l).length = l.length := by
  induction l generalizing b with
  | nil => rfl
  | cons m r ih => simp [hnum, ih]
theorem hnum_get (b : Int) (l : List Mg) (i : Nat) : (hnum b l)[i]? = (l[i]?).map (fun m => (b + 1 + (i : Int), m)) := by
  induction l generalizing b i with
  | nil => simp [hnum]
  | cons m r ih =>
    cases i with
    | zero => simp [hnum]
    | succ i =>
      simp only [hnum, List.getElem?_cons_succ, ih]
      congr 1
      funext x
      congr 1
      omega
/-- Left is the numbered messages without the first ones. -/
theorem hnum_filter (b : Int) (l : List Mg) (seen : Int) : (hnum b l).filter (fun x => decide (seen < x.1)) = (hnum b l).drop (seen - b).toNat := by
  induction l generalizing b with
  | nil => simp [hnum]
  | cons m r ih =>
    simp only [hnum]
    by_cases h : seen < b + 1
    · have e : (seen - b).toNat = 0 := by omega
      have e2 : (seen - (b + 1)).toNat = 0 := by omega
      rw [List.filter_cons_of_pos (by simpa using h), ih (b + 1), e, e2]
      simp
    · obtain ⟨k, hk⟩ : ∃ k, (seen - b).toNat = k + 1 := ⟨(seen - b).toNat - 1, by omega⟩
      have e2 : (seen - (b + 1)).toNat = k := by omega
      rw [List.filter_cons_of_neg (by simpa using h), ih (b + 1), hk, e2]
      rfl
theorem hleft_drop {h : Hf} (hb : h.Be) (seen : Int) : hleft h seen = (hnum h.b h.o).drop (seen - h.b).toNat := by
  unfold hleft
  rw [if_pos hb, hnum_filter]
theorem hleft_not {h : Hf} (hb : ¬ h.Be) (seen : Int) : hleft h seen = [] := if_neg hb
theorem hleft_get {h : Hf} (hb : h.Be) (seen : Int) (i : Nat) : (hleft h seen)[i]? = (h.o[(seen - h.b).toNat + i]?).map (fun m => (h.b + 1 + ((seen - h.b).toNat + i : Nat), m)) := by
  rw [hleft_drop hb, List.getElem?_drop, hnum_get]
theorem hleft_length {h : Hf} (hb : h.Be) (seen : Int) : (hleft h seen).length = h.o.length - (seen - h.b).toNat := by
  rw [hleft_drop hb, List.length_drop, hnum_length]
theorem Hf.Be.add {h : Hf} (hb : h.Be) {m : Mg} (hm : m.Be) (hf : ¬ h.Full) : (h.add m).Be := by
  obtain ⟨h1, h2, h3, h4, h5, h6, h7, h8⟩ := hb
  unfold Hf.Full at hf
  refine ⟨h1, h2, h3, h4, h5, ?_, ?_, ?_⟩
  · show (h.o ++ [m]).length ≤ 1024
    rw [List.length_append]
    simp
    omega
  · show h.b + ((h.o ++ [m]).length : Int) ≤ _
    rw [List.length_append]
    simp
    omega
  · intro x hx
    rcases List.mem_append.1 (show x ∈ h.o ++ [m] from hx) with hx | hx
    · exact h8 x hx
    · obtain rfl : x = m := by simpa using hx
      exact hm
theorem Hf.Be.cut {h : Hf} (hb : h.Be) {a : Int} (hn : h.News a) : (h.cut a).Be := by
  obtain ⟨h1, h2, h3, h4, h5, h6, h7, h8⟩ := hb
  obtain ⟨n1, n2⟩ := hn
  refine ⟨h1, h2, ?_, h4, h5, ?_, ?_, fun x hx => h8 x (List.mem_of_mem_drop hx)⟩
  · show 0 ≤ a; omega
  · show (h.o.drop _).length ≤ 1024
    rw [List.length_drop]; omega
  · show a + ((h.o.drop (a - h.b).toNat).length : Int) ≤ _
    rw [List.length_drop]; omega
theorem Hf.Be.one {h : Hf} (hb : h.Be) (hs : h.s ≠ 1099511627776) : h.one.Be := by
  obtain ⟨h1, h2, h3, h4, h5, h6, h7, h8⟩ := hb
  exact ⟨h1, h2, h3, by show 0 ≤ h.s + 1; omega, by show h.s + 1 ≤ _; omega, h6, h7, h8⟩
theorem cut_len {h : Hf} {a : Int} (hn : h.News a) : (h.cut a).b + ((h.cut a).o.length : Int) = h.b + (h.o.length : Int) := by
  obtain ⟨n1, n2⟩ := hn
  show a + ((h.o.drop (a - h.b).toNat).length : Int) = _
  rw [List.length_drop]; omega
/-- Word that comes twice. -/
theorem cut_cut {h : Hf} {a b : Int} (ha : h.News a) (hb : (h.cut a).News b) : (h.cut a).cut b = h.cut b := by
  have h1 := cut_len ha
  obtain ⟨n1, n2⟩ := ha
  obtain ⟨m1, m2⟩ := hb
  rw [h1] at m2
  unfold Hf.cut at m1 ⊢
  simp only at m1 ⊢
  rw [List.drop_drop]
  congr 2
  omega
end Go.Proofs.Ytneijohbmphheaa.Pk
