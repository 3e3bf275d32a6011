/- The mathematics of the sum: one shift, eight shifts, the sum of a list of bytes; it is linear and loses nothing. -/
namespace Go.Proofs.YtmegpbejknmjbaaDoor.Crc
set_option linter.unusedVariables false

/-- One shift: what falls out turns the rest. -/
def sh (r : Nat) : Nat := r / 2 ^^^ (if r % 2 = 1 then 3988292384 else 0)

theorem xor_lt {a b : Nat} (ha : a < 4294967296) (hb : b < 4294967296) : a ^^^ b < 4294967296 :=
  Nat.xor_lt_two_pow (n := 32) ha hb
theorem xor_mod2 (a b : Nat) : (a ^^^ b) % 2 = (a % 2) ^^^ (b % 2) := by
  simpa using Nat.xor_mod_two_pow (a := a) (b := b) (n := 1)
theorem xor_ac (a b c d : Nat) : (a ^^^ b) ^^^ (c ^^^ d) = (a ^^^ c) ^^^ (b ^^^ d) := by
  rw [Nat.xor_assoc, Nat.xor_assoc, ← Nat.xor_assoc b c d, Nat.xor_comm b c, Nat.xor_assoc c b d]
theorem xor_zero_eq {a b : Nat} (h : a ^^^ b = 0) : a = b := by
  have h1 : (a ^^^ b) ^^^ b = 0 ^^^ b := by rw [h]
  rw [Nat.xor_assoc, Nat.xor_self, Nat.xor_zero, Nat.zero_xor] at h1
  exact h1
theorem sh_lt {r : Nat} (h : r < 4294967296) : sh r < 4294967296 := by
  unfold sh
  refine xor_lt (by omega) ?_
  split <;> omega
theorem sh_zero : sh 0 = 0 := by decide
theorem sh_xor (a b : Nat) : sh (a ^^^ b) = sh a ^^^ sh b := by
  unfold sh
  rw [Nat.xor_div_two, xor_mod2, xor_ac]
  congr 1
  rcases Nat.mod_two_eq_zero_or_one a with ha | ha <;> rcases Nat.mod_two_eq_zero_or_one b with hb | hb <;> rw [ha, hb] <;> rfl
theorem sh_none {r : Nat} (h : r < 4294967296) (e : sh r = 0) : r = 0 := by
  unfold sh at e
  have := xor_zero_eq e
  split at this <;> omega
theorem sh_even (m : Nat) : sh (2 * m) = m := by
  unfold sh
  rw [if_neg (by omega), Nat.xor_zero]; omega

def sh4 (r : Nat) : Nat := sh (sh (sh (sh r)))
def sh8 (r : Nat) : Nat := sh4 (sh4 r)
theorem sh4_lt {r : Nat} (h : r < 4294967296) : sh4 r < 4294967296 := sh_lt (sh_lt (sh_lt (sh_lt h)))
theorem sh8_lt {r : Nat} (h : r < 4294967296) : sh8 r < 4294967296 := sh4_lt (sh4_lt h)
theorem sh4_xor (a b : Nat) : sh4 (a ^^^ b) = sh4 a ^^^ sh4 b := by unfold sh4; rw [sh_xor, sh_xor, sh_xor, sh_xor]
theorem sh8_xor (a b : Nat) : sh8 (a ^^^ b) = sh8 a ^^^ sh8 b := by unfold sh8; rw [sh4_xor, sh4_xor]
theorem sh8_zero : sh8 0 = 0 := by decide
theorem sh4_none {r : Nat} (h : r < 4294967296) (e : sh4 r = 0) : r = 0 :=
  sh_none h (sh_none (sh_lt h) (sh_none (sh_lt (sh_lt h)) (sh_none (sh_lt (sh_lt (sh_lt h))) e)))
theorem sh8_none {r : Nat} (h : r < 4294967296) (e : sh8 r = 0) : r = 0 := sh4_none h (sh4_none (sh4_lt h) e)
theorem sh4_even (m : Nat) : sh4 (16 * m) = m := by
  unfold sh4
  rw [show 16 * m = 2 * (2 * (2 * (2 * m))) by omega, sh_even, sh_even, sh_even, sh_even]
theorem sh8_even (m : Nat) : sh8 (256 * m) = m := by
  unfold sh8
  rw [show 256 * m = 16 * (16 * m) by omega, sh4_even, sh4_even]

/-- The table's numbers. -/
def tab : List Int := [0, 498536548, 997073096, 651767980, 1994146192, 1802195444, 1303535960, 1342533948, 3988292384, 4027552580, 3604390888, 3412177804, 2607071920, 2262029012, 2685067896, 3183342108]
def tabN (i : Nat) : Nat := (tab.getD i 0).toNat
theorem tab_length : tab.length = 16 := rfl
theorem tabN_small : ∀ m, m < 16 → tabN m = sh4 m ∧ tabN m < 4294967296 ∧ tab.getD m 0 = (tabN m : Int) := by decide
theorem split16 (r : Nat) : 16 * (r / 16) ^^^ r % 16 = r := by
  have h1 : (16 * (r / 16) ^^^ r % 16) / 16 = r / 16 := by
    have := Nat.xor_div_two_pow (a := 16 * (r / 16)) (b := r % 16) (n := 4)
    rw [show 2 ^ 4 = 16 from rfl] at this
    rw [this, show 16 * (r / 16) / 16 = r / 16 by omega, show r % 16 / 16 = 0 by omega, Nat.xor_zero]
  have h2 : (16 * (r / 16) ^^^ r % 16) % 16 = r % 16 := by
    have := Nat.xor_mod_two_pow (a := 16 * (r / 16)) (b := r % 16) (n := 4)
    rw [show 2 ^ 4 = 16 from rfl] at this
    rw [this, show 16 * (r / 16) % 16 = 0 by omega, show r % 16 % 16 = r % 16 by omega, Nat.zero_xor]
  omega
theorem nib_eq (r : Nat) : r / 16 ^^^ tabN (r % 16) = sh4 r := by
  conv => rhs; rw [← split16 r, sh4_xor, sh4_even]
  rw [(tabN_small (r % 16) (by omega)).1]

/-- The register behind the bytes of a list. -/
def run : Nat → List Int → Nat
  | r, [] => r
  | r, c :: l => run (sh8 (r ^^^ c.toNat)) l
/-- The number with all its bits turned. -/
def inv (r : Nat) : Nat := 4294967295 ^^^ r
/-- The sum s, gone on with the bytes l. -/
def crc (s : Nat) (l : List Int) : Nat := inv (run (inv s) l)
/-- A list of bytes. -/
def Bytes (l : List Int) : Prop := ∀ x ∈ l, 0 ≤ x ∧ x ≤ 255

theorem inv_lt {r : Nat} (h : r < 4294967296) : inv r < 4294967296 := xor_lt (by omega) h
theorem xor_back (k r : Nat) : k ^^^ (k ^^^ r) = r := by rw [← Nat.xor_assoc, Nat.xor_self, Nat.zero_xor]
theorem inv_eq (r : Nat) : inv r = 4294967295 ^^^ r := rfl
theorem inv_inv (r : Nat) : inv (inv r) = r := by
  rw [inv_eq, inv_eq]
  generalize 4294967295 = k
  exact xor_back k r
theorem xor_three (k x y z : Nat) : k ^^^ ((x ^^^ y) ^^^ z) = ((k ^^^ x) ^^^ (k ^^^ y)) ^^^ (k ^^^ z) := by
  rw [xor_ac k x k y, Nat.xor_self, Nat.zero_xor, ← Nat.xor_assoc, Nat.xor_comm k (x ^^^ y), Nat.xor_assoc]
theorem inv_inj {a b : Nat} (h : inv a = inv b) : a = b := by rw [← inv_inv a, h, inv_inv]
theorem Bytes.tail {c : Int} {l : List Int} (h : Bytes (c :: l)) : Bytes l := fun x hx => h x (List.mem_cons_of_mem _ hx)
theorem Bytes.head {c : Int} {l : List Int} (h : Bytes (c :: l)) : 0 ≤ c ∧ c ≤ 255 := h c (List.mem_cons_self ..)
theorem Bytes.app {l r : List Int} (h : Bytes l) (h' : Bytes r) : Bytes (l ++ r) := fun x hx => by
  rcases List.mem_append.1 hx with hx | hx
  · exact h x hx
  · exact h' x hx
theorem Bytes.take {l : List Int} (h : Bytes l) (k : Nat) : Bytes (l.take k) := fun x hx => h x (List.mem_of_mem_take hx)
theorem Bytes.drop {l : List Int} (h : Bytes l) (k : Nat) : Bytes (l.drop k) := fun x hx => h x (List.mem_of_mem_drop hx)
theorem run_lt {l : List Int} (h : Bytes l) {r : Nat} (hr : r < 4294967296) : run r l < 4294967296 := by
  induction l generalizing r with
  | nil => exact hr
  | cons c l ih => exact ih h.tail (sh8_lt (xor_lt hr (by have := h.head; omega)))
theorem crc_lt {l : List Int} (h : Bytes l) {s : Nat} (hs : s < 4294967296) : crc s l < 4294967296 := inv_lt (run_lt h (inv_lt hs))
theorem run_append (r : Nat) (a b : List Int) : run r (a ++ b) = run (run r a) b := by
  induction a generalizing r with
  | nil => rfl
  | cons c a ih => exact ih _
theorem crc_append (s : Nat) (a b : List Int) : crc (crc s a) b = crc s (a ++ b) := by
  unfold crc; rw [inv_inv, run_append]
theorem crc_nil (s : Nat) : crc s [] = s := inv_inv s
theorem run_snoc (r : Nat) (a : List Int) (c : Int) : run r (a ++ [c]) = sh8 (run r a ^^^ c.toNat) := by rw [run_append]; rfl

/-- Two lists of one length, place by place. -/
def mix (l r : List Int) : List Int := List.zipWith (fun x y => ((x.toNat ^^^ y.toNat : Nat) : Int)) l r
theorem run_mix {l r : List Int} (h : l.length = r.length) (a b : Nat) : run (a ^^^ b) (mix l r) = run a l ^^^ run b r := by
  induction l generalizing r a b with
  | nil =>
    cases r with
    | nil => rfl
    | cons y r => cases h
  | cons x l ih =>
    cases r with
    | nil => cases h
    | cons y r =>
      show run (sh8 ((a ^^^ b) ^^^ (((x.toNat ^^^ y.toNat : Nat) : Int)).toNat)) (mix l r) = _
      rw [Int.toNat_natCast, xor_ac, sh8_xor]
      exact ih (by simpa using h) _ _
theorem mix_length {l r : List Int} (h : l.length = r.length) : (mix l r).length = l.length := by simp [mix, h]
theorem mix3 {a b c : List Int} (h : a.length = b.length) (h' : a.length = c.length) : crc 0 (mix (mix a b) c) = (crc 0 a ^^^ crc 0 b) ^^^ crc 0 c := by
  unfold crc
  have h1 := run_mix (l := mix a b) (r := c) (by rw [mix_length h]; exact h') (inv 0 ^^^ inv 0) (inv 0)
  rw [run_mix h] at h1
  rw [Nat.xor_self, Nat.zero_xor] at h1
  rw [h1]
  exact xor_three _ _ _ _

theorem run_apart (l : List Int) {a b : Nat} (ha : a < 4294967296) (hb : b < 4294967296) (h : Bytes l) (e : run a l = run b l) : a = b := by
  induction l generalizing a b with
  | nil => exact e
  | cons c l ih =>
    have hc : c.toNat < 4294967296 := by have := h.head; omega
    have h1 := ih (sh8_lt (xor_lt ha hc)) (sh8_lt (xor_lt hb hc)) h.tail e
    have h2 : sh8 ((a ^^^ c.toNat) ^^^ (b ^^^ c.toNat)) = 0 := by rw [sh8_xor, h1, Nat.xor_self]
    have h3 := sh8_none (xor_lt (xor_lt ha hc) (xor_lt hb hc)) h2
    rw [xor_ac, Nat.xor_self, Nat.xor_zero] at h3
    exact xor_zero_eq h3
theorem crc_apart {l : List Int} {a b : Nat} (ha : a < 4294967296) (hb : b < 4294967296) (h : Bytes l) : crc a l = crc b l ↔ a = b :=
  ⟨fun e => inv_inj (run_apart l (inv_lt ha) (inv_lt hb) h (inv_inj e)), fun e => by rw [e]⟩

/-- No bit of a list's bytes is one. -/
def Clear (l : List Int) : Prop := ∀ x ∈ l, x = 0
theorem run_clear {l : List Int} (h : Clear l) : run 0 l = 0 := by
  induction l with
  | nil => rfl
  | cons c l ih =>
    obtain rfl : c = 0 := h c (List.mem_cons_self ..)
    exact ih fun x hx => h x (List.mem_cons_of_mem _ hx)
/-- The number whose bytes the list is, the first one the least. -/
def le : List Int → Nat
  | [] => 0
  | c :: l => c.toNat ^^^ 256 * le l
theorem le_lt {l : List Int} (h : Bytes l) : le l < 2 ^ (8 * l.length) := by
  induction l with
  | nil => simp [le]
  | cons c l ih =>
    have h1 := ih h.tail
    have h2 : 256 * le l < 2 ^ (8 * (c :: l).length) := by
      rw [List.length_cons, show 8 * (l.length + 1) = 8 * l.length + 8 by omega, Nat.pow_add]; omega
    refine Nat.xor_lt_two_pow ?_ h2
    have : 2 ^ 8 ≤ 2 ^ (8 * (c :: l).length) := Nat.pow_le_pow_right (by omega) (by simp only [List.length_cons]; omega)
    have := h.head
    omega
theorem le_none {l : List Int} (h : Bytes l) (e : le l = 0) : Clear l := by
  induction l with
  | nil => intro x hx; cases hx
  | cons c l ih =>
    have hc := h.head
    have h1 := xor_zero_eq (show c.toNat ^^^ 256 * le l = 0 from e)
    intro x hx
    rcases List.mem_cons.1 hx with rfl | hx
    · omega
    · exact ih h.tail (by omega) x hx
def sh8n : Nat → Nat → Nat
  | 0, r => r
  | n + 1, r => sh8n n (sh8 r)
theorem sh8n_xor (n a b : Nat) : sh8n n (a ^^^ b) = sh8n n a ^^^ sh8n n b := by
  induction n generalizing a b with
  | zero => rfl
  | succ n ih => show sh8n n (sh8 (a ^^^ b)) = _; rw [sh8_xor]; exact ih _ _
theorem sh8n_none {n r : Nat} (h : r < 4294967296) (e : sh8n n r = 0) : r = 0 := by
  induction n generalizing r with
  | zero => exact e
  | succ n ih => exact sh8_none h (ih (sh8_lt h) e)
theorem run_le (l : List Int) (h : Bytes l) (r : Nat) : run r l = sh8n l.length (r ^^^ le l) := by
  induction l generalizing r with
  | nil => rw [le, Nat.xor_zero]; rfl
  | cons c l ih =>
    show run (sh8 (r ^^^ c.toNat)) l = sh8n l.length (sh8 (r ^^^ (c.toNat ^^^ 256 * le l)))
    rw [ih h.tail, ← Nat.xor_assoc, sh8_xor _ (256 * le l), sh8_even]
theorem run_four {l : List Int} (h : Bytes l) (h4 : l.length ≤ 4) (e : run 0 l = 0) : Clear l := by
  rw [run_le l h, Nat.zero_xor] at e
  refine le_none h (sh8n_none ?_ e)
  have h1 := le_lt h
  have h2 : 2 ^ (8 * l.length) ≤ 2 ^ 32 := Nat.pow_le_pow_right (by omega) (by omega)
  omega
theorem clear_append {a b : List Int} : Clear (a ++ b) ↔ Clear a ∧ Clear b :=
  ⟨fun h => ⟨fun x hx => h x (List.mem_append_left _ hx), fun x hx => h x (List.mem_append_right _ hx)⟩,
   fun h x hx => (List.mem_append.1 hx).elim (h.1 x) (h.2 x)⟩
theorem run_back {l : List Int} (h : Clear l) {r : Nat} (hr : r < 4294967296) (e : run r l = 0) : r = 0 := by
  refine run_apart l hr (by omega) (fun x hx => by rw [h x hx]; omega) ?_
  rw [e, run_clear h]
/-- Bytes that are none but in four neighbouring places turn the register, where they are some. -/
theorem run_tells {a m z : List Int} (ha : Clear a) (hz : Clear z) (hm : Bytes m) (h4 : m.length ≤ 4) : run 0 (a ++ (m ++ z)) = 0 ↔ Clear m := by
  rw [run_append, run_clear ha, run_append]
  refine ⟨fun e => run_four hm h4 (run_back hz (run_lt hm (by omega)) e), fun e => ?_⟩
  rw [run_clear e, run_clear hz]

/-- What the first of the masks, laid from a place on, turn in a list of n bytes. -/
def turns (n p : Nat) (ms : List Int) : List Int := (List.range n).map fun j => if p ≤ j then ms.getD (j - p) 0 else 0
theorem turns_length (n p : Nat) (ms : List Int) : (turns n p ms).length = n := by simp [turns]
theorem turns_get {n p j : Nat} {ms : List Int} (h : j < n) : (turns n p ms)[j]? = some (if p ≤ j then ms.getD (j - p) 0 else 0) := by
  simp [turns, h]
theorem turns_split {n p : Nat} {ms : List Int} (hp : p ≤ n) : turns n p ms = List.replicate p 0 ++ (ms.take (n - p) ++ List.replicate (n - p - ms.length) 0) := by
  apply List.ext_getElem?
  intro j
  by_cases hj : j < n
  · rw [turns_get hj]
    by_cases h1 : p ≤ j
    · rw [if_pos h1, List.getElem?_append_right (by simpa using h1), List.length_replicate]
      by_cases h2 : j - p < ms.length
      · rw [List.getElem?_append_left (by simp; omega), List.getElem?_take_of_lt (by omega), List.getElem?_eq_getElem h2, List.getD_eq_getElem?_getD, List.getElem?_eq_getElem h2]; rfl
      · rw [List.getElem?_append_right (by simp; omega), List.getD_eq_getElem?_getD, List.getElem?_eq_none (by omega)]
        rw [List.getElem?_replicate, if_pos (by simp; omega)]; rfl
    · rw [if_neg h1, List.getElem?_append_left (by simp; omega), List.getElem?_replicate, if_pos (by omega)]
  · rw [List.getElem?_eq_none (by rw [turns_length]; omega), List.getElem?_eq_none (by simp; omega)]
theorem clear_zeros (n : Nat) : Clear (List.replicate n 0) := fun x hx => (List.mem_replicate.1 hx).2
theorem turns_tells {n p : Nat} {ms : List Int} (hp : p ≤ n) (h : Bytes ms) (h4 : ms.length ≤ 4) : run 0 (turns n p ms) = 0 ↔ Clear (turns n p ms) := by
  rw [turns_split hp, run_tells (clear_zeros _) (clear_zeros _) (h.take _) (by simp; omega), clear_append, clear_append]
  exact ⟨fun e => ⟨clear_zeros _, e, clear_zeros _⟩, fun e => e.2.1⟩
/-- Some byte isn't none. -/
def some1 (l : List Int) : Bool := l.any (· != 0)
theorem some1_clear (l : List Int) : some1 l = false ↔ Clear l := by
  unfold some1 Clear
  simp [List.any_eq_false]
/-- The theorem of the turned bytes. -/
theorem crc_tells {l ms : List Int} {p : Nat} (hl : Bytes l) (hp : p ≤ l.length) (h : Bytes ms) (h4 : ms.length ≤ 4) :
    (crc 0 l != crc 0 (mix l (turns l.length p ms))) = some1 (turns l.length p ms) := by
  have h1 : run (inv 0) (mix l (turns l.length p ms)) = run (inv 0) l ^^^ run 0 (turns l.length p ms) := by
    have := run_mix (l := l) (r := turns l.length p ms) (by rw [turns_length]) (inv 0) 0
    rwa [Nat.xor_zero] at this
  by_cases hc : Clear (turns l.length p ms)
  · rw [(some1_clear _).2 hc]
    unfold crc
    rw [h1, (turns_tells hp h h4).2 hc, Nat.xor_zero]; simp
  · have h2 : some1 (turns l.length p ms) = true := by
      cases h3 : some1 (turns l.length p ms)
      · exact absurd ((some1_clear _).1 h3) hc
      · rfl
    rw [h2, bne_iff_ne]
    intro e
    apply hc
    rw [← turns_tells hp h h4]
    have h3 := inv_inj e
    rw [h1] at h3
    have h4 : run (inv 0) l ^^^ (run (inv 0) l ^^^ run 0 (turns l.length p ms)) = run (inv 0) l ^^^ run (inv 0) l := by rw [← h3]
    rwa [← Nat.xor_assoc, Nat.xor_self, Nat.zero_xor] at h4
/-- A mask behind the masks so far. -/
theorem turns_next {l ms : List Int} {p : Nat} {m : Int} (hp : p + ms.length < l.length) :
    (mix l (turns l.length p ms)).set (p + ms.length) (((l.getD (p + ms.length) 0).toNat ^^^ m.toNat : Nat) : Int) = mix l (turns l.length p (ms ++ [m])) ∧
    some1 (turns l.length p (ms ++ [m])) = (some1 (turns l.length p ms) || m != 0) ∧ (mix l (turns l.length p ms)).getD (p + ms.length) 0 = ((l.getD (p + ms.length) 0).toNat : Int) := by
  have hg : ∀ (r : List Int) (j : Nat), j < l.length → (mix l (turns l.length p r))[j]? = some (((l.getD j 0).toNat ^^^ (if p ≤ j then r.getD (j - p) 0 else 0).toNat : Nat) : Int) := by
    intro r j hj
    unfold mix
    simp [List.getElem?_zipWith, turns_get hj, List.getElem?_eq_getElem hj]
  have hb : ∀ r : List Int, (mix l (turns l.length p r)).length = l.length := fun r => by rw [mix_length (by rw [turns_length])]
  refine ⟨?_, ?_, ?_⟩
  · apply List.ext_getElem?
    intro j
    by_cases hj : j < l.length
    · rw [hg _ _ hj, List.getElem?_set, hb]
      by_cases he : p + ms.length = j
      · subst he
        rw [if_pos rfl, if_pos (by omega), if_pos (by omega)]
        simp
      · rw [if_neg he, hg _ _ hj]
        by_cases h1 : p ≤ j
        · rw [if_pos h1, if_pos h1]
          by_cases h2 : j - p < ms.length
          · simp [List.getElem?_append_left h2]
          · have h3 : ms.getD (j - p) 0 = 0 := by rw [List.getD_eq_getElem?_getD, List.getElem?_eq_none (by omega)]; rfl
            have h4 : (ms ++ [m]).getD (j - p) 0 = 0 := by rw [List.getD_eq_getElem?_getD, List.getElem?_eq_none (by rw [List.length_append, List.length_singleton]; omega)]; rfl
            rw [h3, h4]
        · rw [if_neg h1, if_neg h1]
    · rw [List.getElem?_eq_none (by rw [List.length_set, hb]; omega), List.getElem?_eq_none (by rw [hb]; omega)]
  · rw [turns_split (by omega), turns_split (by omega)]
    unfold some1
    have e1 : ms.take (l.length - p) = ms := List.take_of_length_le (by omega)
    have e2 : (ms ++ [m]).take (l.length - p) = ms ++ [m] := List.take_of_length_le (by simp; omega)
    have z : ∀ n, (List.replicate n (0 : Int)).any (· != 0) = false := fun n => by simp
    rw [e1, e2]
    simp only [List.any_append, z, Bool.or_false, Bool.false_or]
    simp
  · rw [List.getD_eq_getElem?_getD, hg _ _ hp]
    simp
/-- A mask that lies beyond the list's end. -/
theorem turns_beyond {n p : Nat} {ms : List Int} {m : Int} (hp : n ≤ p + ms.length) : turns n p (ms ++ [m]) = turns n p ms := by
  apply List.ext_getElem?
  intro j
  by_cases hj : j < n
  · rw [turns_get hj, turns_get hj]
    by_cases h1 : p ≤ j
    · rw [if_pos h1, if_pos h1, List.getD_eq_getElem?_getD, List.getD_eq_getElem?_getD, List.getElem?_append_left (by omega)]
    · rw [if_neg h1, if_neg h1]
  · rw [List.getElem?_eq_none (by rw [turns_length]; omega), List.getElem?_eq_none (by rw [turns_length]; omega)]
theorem turns_none (n p : Nat) : turns n p [] = List.replicate n 0 := by
  apply List.ext_getElem?
  intro j
  by_cases hj : j < n
  · rw [turns_get hj, List.getElem?_replicate, if_pos hj]; simp
  · rw [List.getElem?_eq_none (by rw [turns_length]; omega), List.getElem?_eq_none (by simp; omega)]
theorem mix_zero {l : List Int} (h : Bytes l) : mix l (List.replicate l.length 0) = l := by
  induction l with
  | nil => rfl
  | cons c l ih =>
    have h1 := ih h.tail
    have h2 := h.head
    show ((c.toNat ^^^ (0 : Int).toNat : Nat) : Int) :: mix l (List.replicate l.length 0) = _
    rw [h1, show (0 : Int).toNat = 0 from rfl, Nat.xor_zero, Int.toNat_of_nonneg h2.1]
theorem bytes_mix {l r : List Int} (h : Bytes l) (h' : Bytes r) : Bytes (mix l r) := by
  intro x hx
  obtain ⟨i, hi, rfl⟩ := List.getElem_of_mem hx
  have hi' := hi
  simp only [mix, List.length_zipWith] at hi'
  simp only [mix, List.getElem_zipWith]
  have h1 := h (l[i]'(by omega)) (List.getElem_mem _)
  have h2 := h' (r[i]'(by omega)) (List.getElem_mem _)
  have : ((l[i]'(by omega)).toNat ^^^ (r[i]'(by omega)).toNat : Nat) < 2 ^ 8 := Nat.xor_lt_two_pow (by omega) (by omega)
  omega
/-- The sum of all lists, one behind the other. -/
def sums : Nat → List (List Int) → Nat
  | s, [] => s
  | s, l :: ls => sums (crc s l) ls
theorem sums_snoc (s : Nat) (ls : List (List Int)) (l : List Int) : sums s (ls ++ [l]) = crc (sums s ls) l := by
  induction ls generalizing s with
  | nil => rfl
  | cons x ls ih => exact ih _
theorem sums_flat (s : Nat) (ls : List (List Int)) : sums s ls = crc s ls.flatten := by
  induction ls generalizing s with
  | nil => exact (crc_nil s).symm
  | cons x ls ih => rw [List.flatten_cons, ← crc_append]; exact ih _
theorem sums_lt {ls : List (List Int)} (h : ∀ l ∈ ls, Bytes l) {s : Nat} (hs : s < 4294967296) : sums s ls < 4294967296 := by
  induction ls generalizing s with
  | nil => exact hs
  | cons x ls ih => exact ih (fun l hl => h l (List.mem_cons_of_mem _ hl)) (crc_lt (h x (List.mem_cons_self ..)) hs)
/-- The sum that the statements ask for first. -/
theorem crc_wakes : crc 0 [49, 50, 51, 52, 53, 54, 55, 56, 57] = 3421780262 := by decide +kernel
end Go.Proofs.YtmegpbejknmjbaaDoor.Crc
