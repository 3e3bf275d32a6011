/- The mathematics of the sum: one shift, eight shifts, the sum of a list of bytes; it is linear and loses nothing. -/
namespace Go.Proofs.YtnpmccekkjadhaaDoor.Crc
set_option linter.unusedVariables false

/-- One shift: what falls out turns the rest. -/
def sh (r : Nat) : Nat := r / 2 ^^^ (if r % 2 = 1 then 3988292384 else 0)

theorem xor_lt {a b : Nat} (ha : a < 4294967296) (hb : b < 4294967296) : a ^^^ b < 4294967296 :=
  Nat.xor_lt_two_pow (n := 32) ha hb
theorem xor_mod2 (a b : Nat) : (a ^^^ b) % 2 = (a % 2) ^^^ (b % 2) := by
  simpa using Nat.xor_mod_two_pow (a := a) (b := b) (n := 1)
theorem xor_ac (a b c d : Nat) : (a ^^^ b) ^^^ (c ^^^ d) = (a ^^^ c) ^^^ (b ^^^ d) := by
  rw [Nat.xor_assoc, Nat.xor_assoc, ← Nat.xor_assoc b c d, Nat.xor_comm b c, Nat.xor_assoc c b d]
theorem xor_zero_eq {a b : Nat} (h : a ^^^ b = 0) : a = b := by
  have h1 : (a ^^^ b) ^^^ b = 0 ^^^ b := by rw [h]
  rw [Nat.xor_assoc, Nat.xor_self, Nat.xor_zero, Nat.zero_xor] at h1
  exact h1
theorem sh_lt {r : Nat} (h : r < 4294967296) : sh r < 4294967296 := by
  unfold sh
  refine xor_lt (by omega) ?_
  split <;> omega
theorem sh_zero : sh 0 = 0 := by decide
theorem sh_xor (a b : Nat) : sh (a ^^^ b) = sh a ^^^ sh b := by
  unfold sh
  rw [Nat.xor_div_two, xor_mod2, xor_ac]
  congr 1
  rcases Nat.mod_two_eq_zero_or_one a with ha | ha <;> rcases Nat.mod_two_eq_zero_or_one b with hb | hb <;> rw [ha, hb] <;> rfl
theorem sh_none {r : Nat} (h : r < 4294967296) (e : sh r = 0) : r = 0 := by
  unfold sh at e
  have := xor_zero_eq e
  split at this <;> omega
theorem sh_even (m : Nat) : sh (2 * m) = m := by
  unfold sh
  rw [if_neg (by omega), Nat.xor_zero]; omega

def sh4 (r : Nat) : Nat := sh (sh (sh (sh r)))
def sh8 (r : Nat) : Nat := sh4 (sh4 r)
theorem sh4_lt {r : Nat} (h : r < 4294967296) : sh4 r < 4294967296 := sh_lt (sh_lt (sh_lt (sh_lt h)))
theorem sh8_lt {r : Nat} (h : r < 4294967296) : sh8 r < 4294967296 := sh4_lt (sh4_lt h)
theorem sh4_xor (a b : Nat) : sh4 (a ^^^ b) = sh4 a ^^^ sh4 b := by unfold sh4; rw [sh_xor, sh_xor, sh_xor, sh_xor]
theorem sh8_xor (a b : Nat) : sh8 (a ^^^ b) = sh8 a ^^^ sh8 b := by unfold sh8; rw [sh4_xor, sh4_xor]
theorem sh8_zero : sh8 0 = 0 := by decide
theorem sh4_none {r : Nat} (h : r < 4294967296) (e : sh4 r = 0) : r = 0 :=
  sh_none h (sh_none (sh_lt h) (sh_none (sh_lt (sh_lt h)) (sh_none (sh_lt (sh_lt (sh_lt h))) e)))
theorem sh8_none {r : Nat} (h : r < 4294967296) (e : sh8 r = 0) : r = 0 := sh4_none h (sh4_none (sh4_lt h) e)
theorem sh4_even (m : Nat) : sh4 (16 * m) = m := by
  unfold sh4
  rw [show 16 * m = 2 * (2 * (2 * (2 * m))) by omega, sh_even, sh_even, sh_even, sh_even]
theorem sh8_even (m : Nat) : sh8 (256 * m) = m := by
  unfold sh8
  rw [show 256 * m = 16 * (16 * m) by omega, sh4_even, sh4_even]

/-- The table's numbers. -/
def tab : List Int := [0, 498536548, 997073096, 651767980, 1994146192, 1802195444, 1303535960, 1342533948, 3988292384, 4027552580, 3604390888, 3412177804, 2607071920, 2262029012, 2685067896, 3183342108]
def tabN (i : Nat) : Nat := (tab.getD i 0).toNat
theorem tab_length : tab.length = 16 := rfl
theorem tabN_small : ∀ m, m < 16 → tabN m = sh4 m ∧ tabN m < 4294967296 ∧ tab.getD m 0 = (tabN m : Int) := by decide
theorem split16 (r : Nat) : 16 * (r / 16) ^^^ r % 16 = r := by
  have h1 : (16 * (r / 16) ^^^ r % 16) / 16 = r / 16 := by
    have := Nat.xor_div_two_pow (a := 16 * (r / 16)) (b := r % 16) (n := 4)
    rw [show 2 ^ 4 = 16 from rfl] at this
    rw [this, show 16 * (r / 16) / 16 = r / 16 by omega, show r % 16 / 16 = 0 by omega, Nat.xor_zero]
  have h2 : (16 * (r / 16) ^^^ r % 16) % 16 = r % 16 := by
    have := Nat.xor_mod_two_pow (a := 16 * (r / 16)) (b := r % 16) (n := 4)
    rw [show 2 ^ 4 = 16 from rfl] at this
    rw [this, show 16 * (r / 16) % 16 = 0 by omega, show r % 16 % 16 = r % 16 by omega, Nat.zero_xor]
  omega
theorem nib_eq (r : Nat) : r / 16 ^^^ tabN (r % 16) = sh4 r := by
  conv => rhs; rw [← split16 r, sh4_xor, sh4_even]
  rw [(tabN_small (r % 16) (by omega)).1]

/-- The register behind the bytes of a list. -/
def run : Nat → List Int → Nat
  | r, [] => r
  | r, c :: l => run (sh8 (r ^^^ c.toNat)) l
/-- The number with all its bits turned. -/
def inv (r : Nat) : Nat := 4294967295 ^^^ r
/-- The sum s, gone on with the bytes l. -/
def crc (s : Nat) (l : List Int) : Nat := inv (run (inv s) l)
/-- A list of bytes. -/
def Bytes (l : List Int) : Prop := ∀ x ∈ l, 0 ≤ x ∧ x ≤ 255

theorem inv_lt {r : Nat} (h : r < 4294967296) : inv r < 4294967296 := xor_lt (by omega) h
theorem xor_back (k r : Nat) : k ^^^ (k ^^^ r) = r := by rw [← Nat.xor_assoc, Nat.xor_self, Nat.zero_xor]
theorem inv_eq (r : Nat) : inv r = 4294967295 ^^^ r := rfl
theorem inv_inv (r : Nat) : inv (inv r) = r := by
  rw [inv_eq, inv_eq]
  generalize 4294967295 = k
  exact xor_back k r
theorem xor_three (k x y z : Nat) : k ^^^ ((x ^^^ y) ^^^ z) = ((k ^^^ x) ^^^ (k ^^^ y)) ^^^ (k ^^^ z) := by
  rw [xor_ac k x k y, Nat.xor_self, Nat.zero_xor, ← Nat.xor_assoc, Nat.xor_comm k (x ^^^ y), Nat.xor_assoc]
theorem inv_inj {a b : Nat} (h : inv a = inv b) : a = b := by rw [← inv_inv a, h, inv_inv]
theorem Bytes.tail {c : Int} {l : List Int} (h : Bytes (c :: l)) : Bytes l := fun x hx => h x (List.mem_cons_of_mem _ hx)
theorem Bytes.head {c : Int} {l : List Int} (h : Bytes (c :: l)) : 0 ≤ c ∧ c ≤ 255 := h c (List.mem_cons_self ..)
theorem Bytes.app {l r : List Int} (h : Bytes l) (h' : Bytes r) : Bytes (l ++ r) := fun x hx => by
  rcases List.mem_append.1 hx with hx | hx
  · exact h x hx
  · exact h' x hx
theorem Bytes.take {l : List Int} (h : Bytes l) (k : Nat) : Bytes (l.take k) := fun x hx => h x (List.mem_of_mem_take hx)
theorem Bytes.drop {l : List Int} (h : Bytes l) (k : Nat) : Bytes (l.drop k) := fun x hx => h x (List.mem_of_mem_drop hx)
theorem run_lt {l : List Int} (h : Bytes l) {r : Nat} (hr : r < 4294967296) : run r l < 4294967296 := by
  induction l generalizing r with
  | nil => exact hr
  | cons c l ih => exact ih h.tail (sh8_lt (xor_lt hr (by have := h.head; omega)))
theorem crc_lt {l : List Int} (h : Bytes l) {s : Nat} (hs : s < 4294967296) : crc s l < 4294967296 := inv_lt (run_lt h (inv_lt hs))
theorem run_append (r : Nat) (a b : List Int) : run r (a ++ b) = run (run r a) b := by
  induction a generalizing r with
  | nil => rfl
  | cons c a ih => exact ih _
theorem crc_append (s : Nat) (a b : List Int) : crc (crc s a) b = crc s (a ++ b) := by
  unfold crc; rw [inv_inv, run_append]
theorem crc_nil (s : Nat) : crc s [] = s := inv_inv s
theorem run_snoc (r : Nat) (a : List Int) (c : Int) : run r (a ++ [c]) = sh8 (run r a ^^^ c.toNat) := by rw [run_append]; rfl

/-- Two lists of one length, place by place. -/
def mix (l r : List Int) : List Int := List.zipWith (fun x y => ((x.toNat ^^^ y.toNat : Nat) : Int)) l r
theorem run_mix {l r : List Int} (h : l.length = r.length) (a b : Nat) : run (a ^^^ b) (mix l r) = run a l ^^^ run b r := by
  induction l generalizing r a b with
  | nil =>
    cases r with
    | nil => rfl
    | cons y r => cases h
  | cons x l ih =>
    cases r with
    | nil => cases h
    | cons y r =>
      show run (sh8 ((a ^^^ b) ^^^ (((x.toNat ^^^ y.toNat : Nat) : Int)).toNat)) (mix l r) = _
      rw [Int.toNat_natCast, xor_ac, sh8_xor]
      exact ih (by simpa using h) _ _
theorem mix_length {l r : List Int} (h : l.length = r.length) : (mix l r).length = l.length := by simp [mix, h]
theorem mix3 {a b c : List Int} (h : a.length = b.length) (h' : a.length = c.length) : crc 0 (mix (mix a b) c) = (crc 0 a ^^^ crc 0 b) ^^^ crc 0 c := by
  unfold crc
  have h1 := run_mix (l := mix a b) (r := c) (by rw [mix_length h]; exact h') (inv 0 ^^^ inv 0) (inv 0)
  rw [run_mix h] at h1
  rw [Nat.xor_self, Nat.zero_xor] at h1
  rw [h1]
  exact xor_three _ _ _ _

theorem run_apart (l : List Int) {a b : Nat} (ha : a < 4294967296) (hb : b < 4294967296) (h : Bytes l) (e : run a l = run b l) : a = b := by
  induction l generalizing a b with
  | nil => exact e
  | cons c l ih =>
    have hc : c.toNat < 4294967296 := by have := h.head; omega
    have h1 := ih (sh8_lt (xor_lt ha hc)) (sh8_lt (xor_lt hb hc)) h.tail e
    have h2 : sh8 ((a ^^^ c.toNat) ^^^ (b ^^^ c.toNat)) = 0 := by rw [sh8_xor, h1, Nat.xor_self]
    have h3 := sh8_none (xor_lt (xor_lt ha hc) (xor_lt hb hc)) h2
    rw [xor_ac, Nat.xor_self, Nat.xor_zero] at h3
    exact xor_zero_eq h3
theorem crc_apart {l : List Int} {a b : Nat} (ha : a < 4294967296) (hb : b < 4294967296) (h : Bytes l) : crc a l = crc b l ↔ a = b :=
  ⟨fun e => inv_inj (run_apart l (inv_lt ha) (inv_lt hb) h (inv_inj e)), fun e => by rw [e]⟩

/-- No bit of a list's bytes is one. -/
def Clear (l : List Int) : Prop := ∀ x ∈ l, x = 0
theorem run_clear {l : List Int} (h : Clear l) : run 0 l = 0 := by
  induction l with
  | nil => rfl
  | cons c l ih =>
    obtain rfl : c = 0 := h c (List.mem_cons_self ..)
    exact ih fun x hx => h x (List.mem_cons_of_mem _ hx)
/-- The number whose bytes the list is, the first one the least. -/
def le : List Int → Nat
  | [] => 0
  | c :: l => c.toNat ^^^ 256 * le l
theorem le_lt {l : List Int} (h : Bytes l) : le l < 2 ^ (8 * l.length) := by
  induction l with
  | nil => simp [le]
  | cons c l ih =>
    have h1 := ih h.tail
    have h2 : 256 * le l < 2 ^ (8 * (c :: l).length) := by
      rw [List.length_cons, show 8 * (l.length + 1) = 8 * l.length + 8 by omega, Nat.pow_add]; omega
    refine Nat.xor_lt_two_pow ?_ h2
    have : 2 ^ 8 ≤ 2 ^ (8 * (c :: l).length) := Nat.pow_le_pow_right (by omega) (by simp only [List.length_cons]; omega)
    have := h.head
    omega
theorem le_none {l : List Int} (h : Bytes l) (e : le l = 0) : Clear l := by
  induction l with
  | nil => intro x hx; cases hx
  | cons c l ih =>
    have hc := h.head
    have h1 := xor_zero_eq (show c.toNat ^^^ 256 * le l = 0 from e)
    intro x hx
    rcases List.mem_cons.1 hx with rfl | hx
    · omega
    · exact ih h.tail (by omega) x hx
def sh8n : Nat → Nat → Nat
  | 0, r => r
  | n + 1, r => sh8n n (sh8 r)
theorem sh8n_xor (n a b : Nat) : sh8n n (a ^^^ b) = sh8n n a ^^^ sh8n n b := by
  induction n generalizing a b with
  | zero => rfl
  | succ n ih => show sh8n n (sh8 (a ^^^ b)) = _; rw [sh8_xor]; exact ih _ _
theorem sh8n_none {n r : Nat} (h : r < 4294967296) (e : sh8n n r = 0) : r = 0 := by
  induction n generalizing r with
  | zero => exact e
  | succ n ih => exact sh8_none h (ih (sh8_lt h) e)
theorem run_le (l : List Int) (h : Bytes l) (r : Nat) : run r l = sh8n l.length (r ^^^ le l) := by
  induction l generalizing r with
  | nil => rw [le, Nat.xor_zero]; rfl
  | cons c l ih =>
    show run (sh8 (r ^^^ c.toNat)) l = sh8n l.length (sh8 (r ^^^ (c.toNat ^^^ 256 * le l)))
    rw [ih h.tail, ← Nat.xor_assoc, sh8_xor _ (256 * le l), sh8_even]
theorem run_four {l : List Int} (h : Bytes l) (h4 : l.length ≤ 4) (e : run 0 l = 0) : Clear l := by
  rw [run_le l h, Nat.zero_xor] at e
  refine le_none h (sh8n_none ?_ e)
  have h1 := le_lt h
  have h2 : 2 ^ (8 * l.length) ≤ 2 ^ 32 := Nat.pow_le_pow_right (by omega) (by omega)
  omega
theorem clear_append {a b : List Int} : Clear (a ++ b) ↔ Clear a ∧ Clear b :=
  ⟨fun h => ⟨fun x hx => h x (List.mem_append_left _ hx), fun x hx => h x (List.mem_append_right _ hx)⟩,
   fun h x hx => (List.mem_append.1 hx).elim (h.1 x) (h.2 x)⟩
theorem run_back {l : List Int} (h : Clear l) {r : Nat} (hr : r < 4294967296) (e : run r l = 0) : r = 0 := by
  refine run_apart l hr (by omega) (fun x hx => by rw [h x hx]; omega) ?_
  rw [e, run_clear h]
/-- Bytes that are none but in four neighbouring places turn the register, where they are some. -/
theorem run_tells {a m z : List Int} (ha : Clear a) (hz : Clear z) (hm : Bytes m) (h4 : m.length ≤ 4) : run 0 (a ++ (m ++ z)) = 0 ↔ Clear m := by
  rw [run_append, run_clear ha, run_append]
  refine ⟨fun e => run_four hm h4 (run_back hz (run_lt hm (by omega)) e), fun e => ?_⟩
  rw [run_clear e, run_clear hz]

/-- What the first of the masks, laid from a place on, turn in a list of n bytes. -/
def turns (n p : Nat) (ms : List Int) : List Int := (List.range n).map fun j => if p ≤ j then ms.getD (j - p) 0 else 0
theorem turns_length (n p : Nat) (ms : List Int) : (turns n p ms).length = n := by simp [turns]
theorem turns_get {n p j : Nat} {ms : List Int} (h : j < n) : (turns n p ms)[j]? = some (if p ≤ j then ms.getD (j - p) 0 else 0) := by
  simp [turns, h]
theorem turns_split {n p : Nat} {ms : List Int} (hp : p ≤ n) : turns n p ms = List.replicate p 0 ++ (ms.take (n - p) ++ List.replicate (n - p - ms.length) 0) := by
  apply List.ext_getElem?
  intro j
  by_cases hj : j < n
  · rw [turns_get hj]
    by_cases h1 : p ≤ j
    · rw [if_pos h1, List.getElem?_append_right (by simpa using h1), List.length_replicate]
      by_cases h2 : j - p < ms.length
      · rw [List.getElem?_append_left (by simp; omega), List.getElem?_take_of_lt (by omega), List.getElem?_eq_getElem h2, List.getD_eq_getElem?_getD, List.getElem?_eq_getElem h2]; rfl
      · rw [List.getElem?_append_right (by simp; omega), List.getD_eq_getElem?_getD, List.getElem?_eq_none (by omega)]
        rw [List.getElem?_replicate, if_pos (by simp; omega)]; rfl
    · rw [if_neg h1, List.getElem?_append_left (by simp; omega), List.getElem?_replicate, if_pos (by omega)]
  · rw [List.getElem?_eq_none (by rw [turns_length]; omega), List.getElem?_eq_none (by simp; omega)]
theorem clear_zeros (n : Nat) : Clear (List.replicate n 0) := fun x hx => (List.mem_replicate.1 hx).2
theorem turns_tells {n p : Nat} {ms : List Int} (hp : p ≤ n) (h : Bytes ms) (h4 : ms.length ≤ 4) : run 0 (turns n p ms) = 0 ↔ Clear (turns n p ms) := by
  rw [turns_split hp, run_tells (clear_zeros _) (clear_zeros _) (h.take _) (by simp; omega), clear_append, clear_append]
  exact ⟨fun e => ⟨clear_zeros _, e, clear_zeros _⟩, fun e => e.2.1⟩
/-- Some byte isn't none. -/
def some1 (l : List Int) : Bool := l.any (· != 0)
theorem some1_clear (l : List Int) : some1 l = false ↔ Clear l := by
  unfold some1 Clear
  simp [List.any_eq_false]
/-- The theorem of the turned bytes. -/
theorem crc_tells {l ms : List Int} {p : Nat} (hl : Bytes l) (hp : p ≤ l.length) (h : Bytes ms) (h4 : ms.length ≤ 4) :
    (crc 0 l != crc 0 (mix l (turns l.length p ms))) = some1 (turns l.length p ms) := by
  have h1 : run (inv 0) (mix l (turns l.length p ms)) = run (inv 0) l ^^^ run 0 (turns l.length p ms) := by
    have := run_mix (l := l) (r := turns l.length p ms) (by rw [turns_length]) (inv 0) 0
    rwa [Nat.xor_zero] at this
  by_cases hc : Clear (turns l.length p ms)
  · rw [(some1_clear _).2 hc]
    unfold crc
    rw [h1, (turns_tells hp h h4).2 hc, Nat.xor_zero]; simp
  · have h2 : some1 (turns l.length p ms) = true := by
      cases h3 : some1 (turns l.length p ms)
      · exact absurd ((some1_clear _).1 h3) hc
      · rfl
    rw [h2, bne_iff_ne]
    intro e
    apply hc
    rw [← turns_tells hp h h4]
    have h3 := inv_inj e
    rw [h1] at h3
    have h4 : run (inv 0) l ^^^ (run (inv 0) l ^^^ run 0 (turns l.length p ms)) = run (inv 0) l ^^^ run (inv 0) l := by rw [← h3]
    rwa [← Nat.xor_assoc, Nat.xor_self, Nat.zero_xor] at h4
/-- A mask behind the masks so far. -/
theorem turns_next {l ms : List Int} {p : Nat} {m : Int} (hp : p + ms.length < l.length) :
    (mix l (turns l.length p ms)).set (p + ms.length) (((l.getD (p + ms.length) 0).toNat ^^^ m.toNat : Nat) : Int) = mix l (turns l.length p (ms ++ [m])) ∧
    some1 (turns l.length p (ms ++ [m])) = (some1 (turns l.length p ms) || m != 0) ∧ (mix l (turns l.length p ms)).getD (p + ms.length) 0 = ((l.getD (p + ms.length) 0).toNat : Int) := by
  have hg : ∀ (r : List Int) (j : Nat), j < l.length → (mix l (turns l.length p r))[j]? = some (((l.getD j 0).toNat ^^^ (if p ≤ j then r.getD (j - p) 0 else 0).toNat : Nat) : Int) := by
    intro r j hj
    unfold mix
    simp [List.getElem?_zipWith, turns_get hj, List.getElem?_eq_getElem hj]
  have hb : ∀ r : List Int, (mix l (turns l.length p r)).length = l.length := fun r => by rw [mix_length (by rw [turns_length])]
  refine ⟨?_, ?_, ?_⟩
  · apply List.ext_getElem?
    intro j
    by_cases hj : j < l.length
    · rw [hg _ _ hj, List.getElem?_set, hb]
      by_cases he : p + ms.length = j
      · subst he
        rw [if_pos rfl, if_pos (by omega), if_pos (by omega)]
        simp
      · rw [if_neg he, hg _ _ hj]
        by_cases h1 : p ≤ j
        · rw [if_pos h1, if_pos h1]
          by_cases h2 : j - p < ms.length
          · simp [List.getElem?_append_left h2]
          · have h3 : ms.getD (j - p) 0 = 0 := by rw [List.getD_eq_getElem?_getD, List.getElem?_eq_none (by omega)]; rfl
            have h4 : (ms ++ [m]).getD (j - p) 0 = 0 := by rw [List.getD_eq_getElem?_getD, List.getElem?_eq_none (by rw [List.length_append, List.length_singleton]; omega)]; rfl
            rw [h3, h4]
        · rw [if_neg h1, if_neg h1]
    · rw [List.getElem?_eq_none (by rw [List.length_set, hb]; omega), List.getElem?_eq_none (by rw [hb]; omega)]
  · rw [turns_split (by omega), turns_split (by omega)]
    unfold some1
    have e1 : ms.take (l.length - p) = ms := List.take_of_length_le (by omega)
    have e2 : (ms ++ [m]).take (l.length - p) = ms ++ [m] := List.take_of_length_le (by simp; omega)
    have z : ∀ n, (List.replicate n (0 : Int)).any (· != 0) = false := fun n => by simp
    rw [e1, e2]
    simp only [List.any_append, z, Bool.or_false, Bool.false_or]
    simp
  · rw [List.getD_eq_getElem?_getD, hg _ _ hp]
    simp
/-- A mask that lies beyond the list's end. -/
theorem turns_beyond {n p : Nat} {ms : List Int} {m : Int} (hp : n ≤ p + ms.length) : turns n p (ms ++ [m]) = turns n p ms := by
  apply List.ext_getElem?
  intro j
  by_cases hj : j < n
  · rw [turns_get hj, turns_get hj]
    by_cases h1 : p ≤ j
    · rw [if_pos h1, if_pos h1, List.getD_eq_getElem?_getD, List.getD_eq_getElem?_getD, List.getElem?_append_left (by omega)]
    · rw [if_neg h1, if_neg h1]
  · rw [List.getElem?_eq_none (by rw [turns_length]; omega), List.getElem?_eq_none (by rw [turns_length]; omega)]
theorem turns_none (n p : Nat) : turns n p [] = List.replicate n 0 := by
  apply List.ext_getElem?
  intro j
  by_cases hj : j < n
  · rw [turns_get hj, List.getElem?_replicate, if_pos hj]; simp
  · rw [List.getElem?_eq_none (by rw [turns_length]; omega), List.getElem?_eq_none (by simp; omega)]
theorem mix_zero {l : List Int} (h : Bytes l) : mix l (List.replicate l.length 0) = l := by
  induction l with
  | nil => rfl
  | cons c l ih =>
    have h1 := ih h.tail
    have h2 := h.head
    show ((c.toNat ^^^ (0 : Int).toNat : Nat) : Int) :: mix l (List.replicate l.length 0) = _
    rw [h1, show (0 : Int).toNat = 0 from rfl, Nat.xor_zero, Int.toNat_of_nonneg h2.1]
theorem bytes_mix {l r : List Int} (h : Bytes l) (h' : Bytes r) : Bytes (mix l r) := by
  intro x hx
  obtain ⟨i, hi, rfl⟩ := List.getElem_of_mem hx
  have hi' := hi
  simp only [mix, List.length_zipWith] at hi'
  simp only [mix, List.getElem_zipWith]
  have h1 := h (l[i]'(by omega)) (List.getElem_mem _)
  have h2 := h' (r[i]'(by omega)) (List.getElem_mem _)
  have : ((l[i]'(by omega)).toNat ^^^ (r[i]'(by omega)).toNat : Nat) < 2 ^ 8 := Nat.xor_lt_two_pow (by omega) (by omega)
  omega
/-- The sum of all lists, one behind the other. -/
def sums : Nat → List (List Int) → Nat
  | s, [] => s
  | s, l :: ls => sums (crc s l) ls
theorem sums_snoc (s : Nat) (ls : List (List Int)) (l : List Int) : sums s (ls ++ [l]) = crc (sums s ls) l := by
  induction ls generalizing s with
  | nil => rfl
  | cons x ls ih => exact ih _
theorem sums_flat (s : Nat) (ls : List (List Int)) : sums s ls = crc s ls.flatten := by
  induction ls generalizing s with
  | nil => exact (crc_nil s).symm
  | cons x ls ih => rw [List.flatten_cons, ← crc_append]; exact ih _
theorem sums_lt {ls : List (List Int)} (h : ∀ l ∈ ls, Bytes l) {s : Nat} (hs : s < 4294967296) : sums s ls < 4294967296 := by
  induction ls generalizing s with
  | nil => exact hs
  | cons x ls ih => exact ih (fun l hl => h l (List.mem_cons_of_mem _ hl)) (crc_lt (h x (List.mem_cons_self ..)) hs)
/-- The sum that the statements ask for first. -/
theorem crc_wakes : crc 0 [49, 50, 51, 52, 53, 54, 55, 56, 57] = 3421780262 := by decide +kernel
end Go.Proofs.YtnpmccekkjadhaaDoor.Crc

/- Frames: a payload's bytes, what bytes begin with, the good frames of bytes; plain mathematics. -/
namespace Go.Proofs.YtnpmccekkjadhaaDoor.Fr
open Go.Proofs.YtnpmccekkjadhaaDoor.Crc
set_option linter.unusedVariables false

/-- A number in four bytes, the lowest first. -/
def le4 (n : Nat) : List Int := [((n % 256 : Nat) : Int), ((n / 256 % 256 : Nat) : Int), ((n / 65536 % 256 : Nat) : Int), ((n / 16777216 % 256 : Nat) : Int)]
/-- The number of the first four bytes. -/
def num4 (b : List Int) : Nat := (b.getD 0 0).toNat + 256 * ((b.getD 1 0).toNat + 256 * ((b.getD 2 0).toNat + 256 * (b.getD 3 0).toNat))
@[simp] theorem le4_length (n : Nat) : (le4 n).length = 4 := rfl
theorem num4_le4 {n : Nat} (h : n < 4294967296) (r : List Int) : num4 (le4 n ++ r) = n := by
  unfold num4 le4
  simp
  omega
theorem le4_bytes (n : Nat) : Bytes (le4 n) := by
  intro x hx
  unfold le4 at hx
  simp at hx
  rcases hx with rfl | rfl | rfl | rfl <;> omega
theorem le4_inj {a b : Nat} (ha : a < 4294967296) (hb : b < 4294967296) (h : le4 a = le4 b) : a = b := by
  have h1 := num4_le4 ha []
  have h2 := num4_le4 hb []
  rw [h] at h1
  omega
theorem bytes_app {a b : List Int} : Bytes (a ++ b) ↔ Bytes a ∧ Bytes b :=
  ⟨fun h => ⟨fun x hx => h x (List.mem_append_left _ hx), fun x hx => h x (List.mem_append_right _ hx)⟩, fun h => h.1.app h.2⟩

/-- A frame's sum; the frame. -/
def fsum (p : List Int) : Nat := crc 0 (le4 p.length ++ p)
def enc (p : List Int) : List Int := le4 p.length ++ (le4 (fsum p) ++ p)
@[simp] theorem enc_length (p : List Int) : (enc p).length = 8 + p.length := by simp [enc]; omega
theorem enc_bytes {p : List Int} (h : Bytes p) : Bytes (enc p) := (le4_bytes _).app ((le4_bytes _).app h)
theorem fsum_lt {p : List Int} (h : Bytes p) : fsum p < 4294967296 := crc_lt ((le4_bytes _).app h) (by omega)
theorem enc_drop (p : List Int) : (enc p).drop 8 = p := rfl
theorem num4_enc {p r : List Int} (h : p.length ≤ 1048576) : num4 (enc p ++ r) = p.length := by
  unfold enc
  rw [List.append_assoc]
  exact num4_le4 (by omega) _
theorem num4_pre {p b : List Int} (h : p.length ≤ 1048576) (hp : enc p <+: b) : num4 b = p.length := by
  obtain ⟨r, rfl⟩ := hp
  exact num4_enc h
/-- Two frames with which the same bytes begin. -/
theorem enc_one {p q b : List Int} (hp : p.length ≤ 1048576) (hq : q.length ≤ 1048576) (h1 : enc p <+: b) (h2 : enc q <+: b) : p = q := by
  have e : p.length = q.length := (num4_pre hp h1).symm.trans (num4_pre hq h2)
  have h3 : enc p = enc q := (List.prefix_of_prefix_length_le h1 h2 (by simp; omega)).eq_of_length (by simp; omega)
  rw [← enc_drop p, h3, enc_drop]

/-- The payload of the frame with which bytes begin. -/
def fst (b : List Int) : Option (List Int) :=
  if 8 ≤ b.length ∧ num4 b ≤ 1048576 ∧ num4 b + 8 ≤ b.length ∧ b.take (8 + num4 b) = enc ((b.drop 8).take (num4 b)) then some ((b.drop 8).take (num4 b)) else none
theorem fst_some {b p : List Int} : fst b = some p ↔ p.length ≤ 1048576 ∧ enc p <+: b := by
  constructor
  · intro h
    unfold fst at h
    split at h
    · rename_i hc
      obtain ⟨h1, h2, h3, h4⟩ := hc
      injection h with h
      subst h
      refine ⟨by rw [List.length_take, List.length_drop]; omega, ?_⟩
      rw [← h4]
      exact List.take_prefix _ _
    · cases h
  · rintro ⟨h1, h2⟩
    have hn := num4_pre h1 h2
    obtain ⟨r, rfl⟩ := h2
    unfold fst
    rw [hn]
    have e1 : ((enc p ++ r).drop 8).take p.length = p := by
      have : (enc p ++ r).drop 8 = p ++ r := rfl
      rw [this, List.take_left]
    have e2 : (enc p ++ r).take (8 + p.length) = enc p := by
      rw [← enc_length p, List.take_left]
    rw [e1, e2, if_pos ⟨by simp; omega, h1, by simp; omega, rfl⟩]
theorem fst_none {b : List Int} (h : ∀ p : List Int, p.length ≤ 1048576 → ¬ enc p <+: b) : fst b = none := by
  cases e : fst b with
  | none => rfl
  | some p =>
    have := fst_some.1 e
    exact absurd this.2 (h p this.1)
theorem fst_len {b p : List Int} (h : fst b = some p) : 8 + p.length ≤ b.length := by
  have := (fst_some.1 h).2.length_le
  simpa using this

/-- Frames one behind the other. -/
def encs (ps : List (List Int)) : List Int := ps.flatMap enc
def Fit (ps : List (List Int)) : Prop := ∀ p ∈ ps, p.length ≤ 1048576
@[simp] theorem encs_nil : encs [] = [] := rfl
theorem encs_cons (p : List Int) (ps : List (List Int)) : encs (p :: ps) = enc p ++ encs ps := rfl
theorem encs_app (ps qs : List (List Int)) : encs (ps ++ qs) = encs ps ++ encs qs := List.flatMap_append ..
theorem encs_snoc (ps : List (List Int)) (p : List Int) : encs (ps ++ [p]) = encs ps ++ enc p := by rw [encs_app, encs_cons, encs_nil, List.append_nil]
theorem encs_bytes {ps : List (List Int)} (h : ∀ p ∈ ps, Bytes p) : Bytes (encs ps) := by
  intro x hx
  obtain ⟨p, hp, hx⟩ := List.mem_flatMap.1 hx
  exact enc_bytes (h p hp) x hx

/-- The good frames of bytes. -/
def frN : Nat → List Int → List (List Int)
  | 0, _ => []
  | k + 1, b => match fst b with
    | none => []
    | some p => p :: frN k (b.drop (8 + p.length))
def frames (b : List Int) : List (List Int) := frN b.length b
def fend (b : List Int) : Nat := (encs (frames b)).length
theorem frN_more : ∀ (k m : Nat) (b : List Int), b.length ≤ k → b.length ≤ m → frN k b = frN m b
  | 0, 0, b, _, _ => rfl
  | 0, m + 1, b, h, _ => by
    obtain rfl : b = [] := List.length_eq_zero_iff.1 (by omega)
    have : fst [] = none := by unfold fst; rw [if_neg (fun h => by have := h.1; simp at this)]
    simp [frN, this]
  | k + 1, 0, b, _, h => by
    obtain rfl : b = [] := List.length_eq_zero_iff.1 (by omega)
    have : fst [] = none := by unfold fst; rw [if_neg (fun h => by have := h.1; simp at this)]
    simp [frN, this]
  | k + 1, m + 1, b, h1, h2 => by
    unfold frN
    cases e : fst b with
    | none => rfl
    | some p =>
      have := fst_len e
      show p :: frN k _ = p :: frN m _
      rw [frN_more k m (b.drop (8 + p.length)) (by rw [List.length_drop]; omega) (by rw [List.length_drop]; omega)]
theorem frames_stop {b : List Int} (h : fst b = none) : frames b = [] := by
  unfold frames
  cases e : b.length with
  | zero => rfl
  | succ k => unfold frN; rw [h]
theorem frames_step {b p : List Int} (h : fst b = some p) : frames b = p :: frames (b.drop (8 + p.length)) := by
  have hl := fst_len h
  unfold frames
  cases e : b.length with
  | zero => omega
  | succ k =>
    rw [frN, h]
    show p :: frN k _ = p :: frN _ _
    rw [frN_more k _ _ (by rw [List.length_drop]; omega) (Nat.le_refl _)]
theorem frames_app {ps : List (List Int)} (h : Fit ps) (t : List Int) : frames (encs ps ++ t) = ps ++ frames t := by
  induction ps with
  | nil => rfl
  | cons p ps ih =>
    have hp := h p (by simp)
    have h1 : fst (encs (p :: ps) ++ t) = some p := fst_some.2 ⟨hp, by rw [encs_cons, List.append_assoc]; exact List.prefix_append _ _⟩
    rw [frames_step h1, encs_cons, List.append_assoc, ← enc_length p, List.drop_left, ih (fun q hq => h q (by simp [hq]))]
    rfl
theorem frames_all {ps : List (List Int)} (h : Fit ps) : frames (encs ps) = ps := by
  have h1 := frames_app h []
  have : fst [] = none := by unfold fst; rw [if_neg (fun h => by have := h.1; simp at this)]
  rw [List.append_nil, frames_stop this, List.append_nil] at h1
  exact h1
/-- Bytes are their good frames, and something with which no frame begins. -/
theorem frames_spec : ∀ (k : Nat) (b : List Int), b.length ≤ k → ∃ t, b = encs (frames b) ++ t ∧ Fit (frames b) ∧ fst t = none
  | 0, b, h => by
    obtain rfl : b = [] := List.length_eq_zero_iff.1 (by omega)
    have : fst [] = none := by unfold fst; rw [if_neg (fun h => by have := h.1; simp at this)]
    exact ⟨[], by rw [frames_stop this]; rfl, by rw [frames_stop this]; exact (fun p hp => by simp at hp), this⟩
  | k + 1, b, h => by
    cases e : fst b with
    | none => exact ⟨b, by rw [frames_stop e]; rfl, by rw [frames_stop e]; exact (fun p hp => by simp at hp), e⟩
    | some p =>
      have hl := fst_len e
      obtain ⟨h1, r, h2⟩ := fst_some.1 e
      obtain ⟨t, ht, hf, hn⟩ := frames_spec k (b.drop (8 + p.length)) (by rw [List.length_drop]; omega)
      refine ⟨t, ?_, ?_, hn⟩
      · rw [frames_step e, encs_cons, List.append_assoc, ← ht, ← h2, ← enc_length p, List.drop_left]
      · rw [frames_step e]
        intro q hq
        rcases List.mem_cons.1 hq with rfl | hq
        · exact h1
        · exact hf q hq
theorem frames_fit (b : List Int) : Fit (frames b) := by
  obtain ⟨t, _, h, _⟩ := frames_spec b.length b (Nat.le_refl _)
  exact h
theorem fend_le (b : List Int) : fend b ≤ b.length := by
  obtain ⟨t, h, _, _⟩ := frames_spec b.length b (Nat.le_refl _)
  have := congrArg List.length h
  unfold fend
  rw [List.length_append] at this
  omega
/-- Where the frame at a place begins. -/
def atN (b : List Int) (i : Nat) : Nat := (encs ((frames b).take i)).length
theorem atN_le (b : List Int) (i : Nat) : atN b i ≤ b.length := by
  obtain ⟨t, h, _, _⟩ := frames_spec b.length b (Nat.le_refl _)
  have h1 := congrArg List.length h
  have h2 := congrArg List.length (congrArg encs (List.take_append_drop i (frames b)))
  rw [encs_app, List.length_append] at h2
  unfold atN
  rw [List.length_append] at h1
  omega
theorem atN_zero (b : List Int) : atN b 0 = 0 := rfl
theorem atN_all (b : List Int) : atN b (frames b).length = fend b := by unfold atN fend; rw [List.take_length]
theorem atN_drop (b : List Int) (i : Nat) : ∃ t, b.drop (atN b i) = encs ((frames b).drop i) ++ t ∧ fst t = none := by
  obtain ⟨t, h, _, hn⟩ := frames_spec b.length b (Nat.le_refl _)
  refine ⟨t, ?_, hn⟩
  have h2 : encs (frames b) = encs ((frames b).take i) ++ encs ((frames b).drop i) := by rw [← encs_app, List.take_append_drop]
  have h3 : b = encs ((frames b).take i) ++ (encs ((frames b).drop i) ++ t) := by rw [← List.append_assoc, ← h2]; exact h
  unfold atN
  conv => lhs; rw [h3]
  rw [List.drop_append_of_le_length (by rw [← h3]; exact Nat.le_refl _), List.drop_of_length_le (by rw [← h3]; exact Nat.le_refl _), List.nil_append]
theorem at_more {b p : List Int} {i : Nat} (h : (frames b)[i]? = some p) : fst (b.drop (atN b i)) = some p ∧ atN b (i + 1) = atN b i + (8 + p.length) := by
  have hi : i < (frames b).length := by
    rcases Nat.lt_or_ge i (frames b).length with h1 | h1
    · exact h1
    · rw [List.getElem?_eq_none h1] at h; cases h
  have hg : (frames b)[i] = p := by rw [List.getElem?_eq_getElem hi] at h; injection h
  obtain ⟨t, h1, _⟩ := atN_drop b i
  refine ⟨fst_some.2 ⟨frames_fit b p (List.mem_of_getElem? h), ?_⟩, ?_⟩
  · rw [h1, List.drop_eq_getElem_cons hi, hg, encs_cons, List.append_assoc]
    exact List.prefix_append _ _
  · unfold atN
    rw [List.take_succ_eq_append_getElem hi, hg, encs_snoc, List.length_append, enc_length]
theorem at_end (b : List Int) : fst (b.drop (fend b)) = none := by
  obtain ⟨t, h1, h2⟩ := atN_drop b (frames b).length
  rw [atN_all, List.drop_length] at h1
  rw [h1]
  exact h2

/-- A frame cut short is none. -/
theorem cut_none {p : List Int} {k : Nat} (hp : p.length ≤ 1048576) (hk : k < (enc p).length) : fst ((enc p).take k) = none := by
  refine fst_none fun q hq h => ?_
  have h1 := h.trans (List.take_prefix k (enc p))
  have e := enc_one hq hp h1 (List.prefix_refl _)
  subst e
  have := h.length_le
  rw [List.length_take] at this
  omega
/-- One byte that is turned turns the sum. -/
theorem crc_byte {a z : List Int} {c c' : Int} (ha : Bytes a) (hz : Bytes z) (hc : 0 ≤ c ∧ c ≤ 255) (hc' : 0 ≤ c' ∧ c' ≤ 255) (h : crc 0 (a ++ c :: z) = crc 0 (a ++ c' :: z)) : c = c' := by
  have h1 := inv_inj h
  rw [run_append, run_append] at h1
  have hr := run_lt ha (inv_lt (show 0 < 4294967296 by omega))
  have h2 : sh8 (run (inv 0) a ^^^ c.toNat) = sh8 (run (inv 0) a ^^^ c'.toNat) := run_apart z (sh8_lt (xor_lt hr (by omega))) (sh8_lt (xor_lt hr (by omega))) hz h1
  have h3 : sh8 ((run (inv 0) a ^^^ c.toNat) ^^^ (run (inv 0) a ^^^ c'.toNat)) = 0 := by rw [sh8_xor, h2, Nat.xor_self]
  have h4 := sh8_none (xor_lt (xor_lt hr (by omega)) (xor_lt hr (by omega))) h3
  have h5 := xor_zero_eq h4
  have h6 : c.toNat = c'.toNat := by
    have := congrArg (fun x => run (inv 0) a ^^^ x) h5
    simp only [xor_back] at this
    exact this
  omega
/-- A frame one of whose bytes behind the length is turned is none. -/
theorem spoilt_none {p r : List Int} {k : Nat} {c : Int} (hp : p.length ≤ 1048576) (hb : Bytes p) (hk : k < 4 + p.length) (hc : 0 ≤ c ∧ c ≤ 255) (hne : (enc p).getD (4 + k) 0 ≠ c) : fst ((enc p).set (4 + k) c ++ r) = none := by
  refine fst_none fun q hq h => ?_
  have e0 : (enc p).set (4 + k) c = le4 p.length ++ (le4 (fsum p) ++ p).set k c := by
    unfold enc
    rw [List.set_append_right _ _ (by simp)]
    simp
  have hn : num4 ((enc p).set (4 + k) c ++ r) = p.length := by rw [e0, List.append_assoc]; exact num4_le4 (by omega) _
  have hl : q.length = p.length := (num4_pre hq h).symm.trans hn
  have he : enc q = (enc p).set (4 + k) c := by
    have h1 := (List.prefix_of_prefix_length_le h (List.prefix_append _ _) (by simp; omega)).eq_of_length (by simp; omega)
    exact h1
  rw [e0] at he
  unfold enc at he
  rw [hl] at he
  have h1 := List.append_cancel_left he
  have hg : (le4 (fsum p) ++ p).getD k 0 ≠ c := by
    unfold enc at hne
    rw [List.getD_eq_getElem?_getD, List.getElem?_append_right (by simp)] at hne
    rw [List.getD_eq_getElem?_getD]
    simpa using hne
  by_cases h4 : k < 4
  · rw [List.set_append_left _ _ (by simpa using h4)] at h1
    have h2 := List.append_inj h1 (by simp)
    have hqp : q = p := h2.2
    subst hqp
    have h3 := h2.1
    apply hg
    rw [List.getD_eq_getElem?_getD, List.getElem?_append_left (by simpa using h4)]
    rw [h3, List.getElem?_set_self (by simpa using h4)]
    rfl
  · rw [List.set_append_right _ _ (by simp; omega)] at h1
    have h2 := List.append_inj h1 (by simp)
    rw [le4_length] at h2
    obtain ⟨j, rfl⟩ : ∃ j, k = 4 + j := ⟨k - 4, by omega⟩
    rw [show 4 + j - 4 = j by omega] at h2
    have hj : j < p.length := by omega
    have hqb : Bytes q := by
      rw [h2.2]
      intro x hx
      rcases List.mem_or_eq_of_mem_set hx with h5 | rfl
      · exact hb x h5
      · exact hc
    have hs := le4_inj (fsum_lt hqb) (fsum_lt hb) h2.1
    unfold fsum at hs
    rw [hl] at hs
    have ep : p = p.take j ++ p[j] :: p.drop (j + 1) := by
      rw [← List.drop_eq_getElem_cons hj, List.take_append_drop]
    have eq' : q = p.take j ++ c :: p.drop (j + 1) := by
      rw [h2.2, List.set_eq_take_append_cons_drop, if_pos hj]
    have hpj : 0 ≤ p[j] ∧ p[j] ≤ 255 := hb _ (List.getElem_mem hj)
    have hs2 : crc 0 ((le4 p.length ++ p.take j) ++ c :: p.drop (j + 1)) = crc 0 ((le4 p.length ++ p.take j) ++ p[j] :: p.drop (j + 1)) := by
      rw [List.append_assoc, List.append_assoc, ← ep, ← eq']
      exact hs
    have := crc_byte ((le4_bytes _).app (hb.take j)) (hb.drop (j + 1)) hc hpj hs2
    apply hg
    rw [List.getD_eq_getElem?_getD, List.getElem?_append_right (by simp), le4_length, show 4 + j - 4 = j by omega, List.getElem?_eq_getElem hj]
    exact this.symm
end Go.Proofs.YtnpmccekkjadhaaDoor.Fr

/- Two files whose power can go: what the document says of each call, as plain mathematics. -/
namespace Go.Proofs.YtnpmccekkjadhaaDoor.Dk
set_option linter.unusedVariables false

/-- A file: its safe bytes, its waiting ones. -/
structure FL where
  s : List Int
  w : List Int
/-- Two files; is the power on; raw writes; the armed one, counted from the next on (0: none); how many bytes will be kept. -/
structure DK where
  f0 : FL
  f1 : FL
  on : Bool
  cnt : Nat
  left : Nat
  keep : Int
def FL.all (f : FL) : List Int := f.s ++ f.w
def FL.lose (k : Int) (f : FL) : FL := ⟨f.s ++ f.w.take k.toNat, []⟩
def DK.get (d : DK) (f : Int) : FL := if f = 1 then d.f1 else d.f0
def DK.put (d : DK) (f : Int) (x : FL) : DK := if f = 1 then { d with f1 := x } else { d with f0 := x }
/-- The power goes. -/
def DK.offs (k : Int) (d : DK) : DK := if d.on = true then { d with f0 := d.f0.lose k, f1 := d.f1.lose k, on := false, left := 0 } else d
def DK.ons (d : DK) : DK := { d with on := true }
def DK.arm (n k : Int) (d : DK) : DK := { d with left := n.toNat, keep := k }
def DK.count (d : DK) : DK := { d with cnt := d.cnt + 1, left := d.left - 1 }
/-- A raw write, and what it answers. -/
def DK.raw (d : DK) : DK := if d.left = 1 then d.count.offs d.keep else d.count
def DK.rawE (d : DK) : Int := if d.left = 1 then 40 else 0
/-- Why nothing can be done with the file. -/
def DK.no (d : DK) (f : Int) : Int := if f = 0 ∨ f = 1 then (if d.on = true then 0 else 40) else 1
def DK.appE (d : DK) (f : Int) : Int := if d.no f = 0 then d.rawE else d.no f
def DK.app (d : DK) (f : Int) (b : List Int) : DK := if d.no f = 0 then (d.put f ⟨(d.get f).s, (d.get f).w ++ b⟩).raw else d
def DK.syn (d : DK) (f : Int) : DK := if d.no f = 0 then (if d.left = 1 then d.raw else d.raw.put f ⟨(d.get f).all, []⟩) else d
def DK.noT (d : DK) (f n : Int) : Int := if (f = 0 ∨ f = 1) ∧ (n < 0 ∨ ((d.get f).all.length : Int) < n) then 1 else d.no f
def DK.truE (d : DK) (f n : Int) : Int := if d.noT f n = 0 then d.rawE else d.noT f n
def DK.tru (d : DK) (f n : Int) : DK := if d.noT f n = 0 then (if d.left = 1 then d.raw else d.raw.put f ⟨(d.get f).s.take n.toNat, (d.get f).w.take (n.toNat - (d.get f).s.length)⟩) else d
def DK.rd (d : DK) (f : Int) : List Int := if d.no f = 0 then (d.get f).all else []
def DK.sf (d : DK) (f : Int) : List Int := if f = 0 ∨ f = 1 then (d.get f).s else []
def DK.new (a b : List Int) : DK := ⟨⟨a, []⟩, ⟨b, []⟩, true, 0, 0, 0⟩

/-- One call: kind, file, n, k, bytes. -/
structure Cm where
  kind : Int
  f : Int
  n : Int
  k : Int
  b : List Int
def DK.does (d : DK) (o : Cm) : DK :=
  if o.kind = 0 then d.app o.f o.b else if o.kind = 1 then d.syn o.f else if o.kind = 2 then d.tru o.f o.n else if o.kind = 3 then d.arm o.n o.k else if o.kind = 4 then d.offs o.k else if o.kind = 5 then d.ons else d
def DK.doesE (d : DK) (o : Cm) : Int :=
  if o.kind = 0 then d.appE o.f else if o.kind = 1 then d.appE o.f else if o.kind = 2 then d.truE o.f o.n else if o.kind = 6 then d.no o.f else 0
def DK.doesB (d : DK) (o : Cm) : List Int := if o.kind = 6 then d.rd o.f else []

/-- A disk's bounds: no file longer than M, no more than m raw writes, and what is armed and kept are numbers of the machine. -/
structure DK.fit (d : DK) (M m : Nat) : Prop where
  l0 : d.f0.all.length ≤ M
  l1 : d.f1.all.length ≤ M
  c : d.cnt ≤ m
  a : d.left ≤ 9223372036854775807
  k0 : -9223372036854775808 ≤ d.keep
  k1 : d.keep ≤ 9223372036854775807

theorem FL.lose_len (k : Int) (f : FL) : (f.lose k).all.length ≤ f.all.length := by
  simp [FL.lose, FL.all, List.length_take]; omega
theorem DK.fit.mono {d : DK} {M m M' m' : Nat} (h : d.fit M m) (h1 : M ≤ M') (h2 : m ≤ m') : d.fit M' m' := ⟨Nat.le_trans h.l0 h1, Nat.le_trans h.l1 h1, Nat.le_trans h.c h2, h.a, h.k0, h.k1⟩
theorem DK.fit.offs {d : DK} {M m : Nat} (h : d.fit M m) (k : Int) : (d.offs k).fit M m := by
  unfold DK.offs
  split
  · exact ⟨Nat.le_trans (FL.lose_len k d.f0) h.l0, Nat.le_trans (FL.lose_len k d.f1) h.l1, h.c, by simp, h.k0, h.k1⟩
  · exact h
theorem DK.fit.count {d : DK} {M m : Nat} (h : d.fit M m) : d.count.fit M (m + 1) := ⟨h.l0, h.l1, by have := h.c; simp [DK.count]; omega, by have := h.a; simp [DK.count]; omega, h.k0, h.k1⟩
theorem DK.fit.raw {d : DK} {M m : Nat} (h : d.fit M m) : d.raw.fit M (m + 1) := by
  unfold DK.raw
  split
  · exact h.count.offs _
  · exact h.count
theorem DK.fit.put {d : DK} {M m : Nat} (h : d.fit M m) (f : Int) (x : FL) (hx : x.all.length ≤ M) : (d.put f x).fit M m := by
  unfold DK.put
  split
  · exact ⟨h.l0, hx, h.c, h.a, h.k0, h.k1⟩
  · exact ⟨hx, h.l1, h.c, h.a, h.k0, h.k1⟩
theorem DK.fit.get {d : DK} {M m : Nat} (h : d.fit M m) (f : Int) : (d.get f).all.length ≤ M := by
  unfold DK.get
  split
  · exact h.l1
  · exact h.l0
theorem FL.all_len (f : FL) : f.all.length = f.s.length + f.w.length := by simp [FL.all]
theorem DK.fit.app {d : DK} {M m K : Nat} (h : d.fit M m) (f : Int) (b : List Int) (hb : b.length ≤ K) : (d.app f b).fit (M + K) (m + 1) := by
  unfold DK.app
  split
  · refine DK.fit.raw (DK.fit.put (h.mono (by omega) (Nat.le_refl _)) f _ ?_)
    have := h.get f
    simp [FL.all] at this ⊢
    omega
  · exact h.mono (by omega) (by omega)
theorem DK.fit.syn {d : DK} {M m : Nat} (h : d.fit M m) (f : Int) : (d.syn f).fit M (m + 1) := by
  unfold DK.syn
  split
  · split
    · exact h.raw
    · exact h.raw.put f _ (by have := h.get f; simpa [FL.all] using this)
  · exact h.mono (Nat.le_refl _) (by omega)
theorem DK.fit.tru {d : DK} {M m : Nat} (h : d.fit M m) (f n : Int) : (d.tru f n).fit M (m + 1) := by
  unfold DK.tru
  split
  · split
    · exact h.raw
    · refine h.raw.put f _ ?_
      have := h.get f
      simp [FL.all, List.length_take] at this ⊢
      omega
  · exact h.mono (Nat.le_refl _) (by omega)
/-- Behind one call. -/
theorem DK.fit.does {d : DK} {M m K : Nat} (h : d.fit M m) (o : Cm) (hb : o.b.length ≤ K) (hn : o.n ≤ 9223372036854775807) (hk0 : -9223372036854775808 ≤ o.k) (hk1 : o.k ≤ 9223372036854775807) : (d.does o).fit (M + K) (m + 1) := by
  unfold DK.does
  split
  · exact h.app _ _ hb
  split
  · exact (h.syn _).mono (by omega) (Nat.le_refl _)
  split
  · exact (h.tru _ _).mono (by omega) (Nat.le_refl _)
  split
  · exact ⟨Nat.le_trans h.l0 (by omega), Nat.le_trans h.l1 (by omega), Nat.le_trans h.c (by omega), by simp [DK.arm]; omega, hk0, hk1⟩
  split
  · exact (h.offs _).mono (by omega) (by omega)
  split
  · exact ⟨Nat.le_trans h.l0 (by omega), Nat.le_trans h.l1 (by omega), Nat.le_trans h.c (by omega), h.a, h.k0, h.k1⟩
  · exact h.mono (by omega) (by omega)
theorem DK.fit.new (a b : List Int) {M : Nat} (ha : a.length ≤ M) (hb : b.length ≤ M) : (DK.new a b).fit M 0 :=
  ⟨by simpa [DK.new, FL.all] using ha, by simpa [DK.new, FL.all] using hb, Nat.le_refl _, by simp [DK.new], by simp [DK.new], by simp [DK.new]⟩
end Go.Proofs.YtnpmccekkjadhaaDoor.Dk

/- A vault over two files: what the document says of each call, as plain mathematics. -/
namespace Go.Proofs.YtnpmccekkjadhaaDoor.Vk
open Go.Proofs.YtnpmccekkjadhaaDoor.Crc Go.Proofs.YtnpmccekkjadhaaDoor.Fr Go.Proofs.YtnpmccekkjadhaaDoor.Dk
set_option linter.unusedVariables false

/-- A number in k bytes, the lowest first. -/
def leN : Nat → Nat → List Int
  | 0, _ => []
  | k + 1, g => ((g % 256 : Nat) : Int) :: leN k (g / 256)
/-- The number of bytes, the lowest first. -/
def numL : List Int → Nat
  | [] => 0
  | x :: r => x.toNat + 256 * numL r
@[simp] theorem leN_length (k g : Nat) : (leN k g).length = k := by
  induction k generalizing g with
  | zero => rfl
  | succ k ih => simp [leN, ih]
theorem leN_snoc (k g : Nat) : leN (k + 1) g = leN k g ++ [((g / 256 ^ k % 256 : Nat) : Int)] := by
  induction k generalizing g with
  | zero => simp [leN]
  | succ k ih =>
    rw [leN, ih, leN]
    simp only [List.cons_append]
    rw [Nat.div_div_eq_div_mul, ← Nat.pow_succ']
theorem leN_bytes (k g : Nat) : Bytes (leN k g) := by
  induction k generalizing g with
  | zero => intro x hx; simp [leN] at hx
  | succ k ih =>
    intro x hx
    rcases List.mem_cons.1 hx with rfl | hx
    · omega
    · exact ih _ x hx
theorem numL_leN (k g : Nat) : numL (leN k g) = g % 256 ^ k := by
  induction k generalizing g with
  | zero => simp [leN, numL, Nat.mod_one]
  | succ k ih =>
    rw [leN, numL, ih]
    have h1 : g % 256 ^ (k + 1) = g % 256 + 256 * (g / 256 % 256 ^ k) := by rw [Nat.pow_succ', Nat.mod_mul]
    rw [h1]; omega
theorem numL_lt {l : List Int} (h : Bytes l) : numL l < 256 ^ l.length := by
  induction l with
  | nil => simp [numL]
  | cons x r ih =>
    have h1 := ih (fun y hy => h y (List.mem_cons_of_mem _ hy))
    have h2 := h x (by simp)
    rw [numL, List.length_cons, Nat.pow_succ']
    omega
theorem numL_drop {l : List Int} {i : Nat} (h : i < l.length) : numL (l.drop i) = (l.getD i 0).toNat + 256 * numL (l.drop (i + 1)) := by
  rw [List.drop_eq_getElem_cons h, numL]
  simp [List.getD, h]
def num8 (p : List Int) : Nat := numL (p.take 8)
theorem num8_le {g : Nat} (h : g < 18446744073709551616) (s : List Int) : num8 (leN 8 g ++ s) = g := by
  unfold num8
  rw [List.take_left' (leN_length 8 g), numL_leN]
  exact Nat.mod_eq_of_lt h
theorem num8_lt {p : List Int} (h : Bytes p) : num8 p < 18446744073709551616 := by
  have h1 := numL_lt (h.take 8)
  have h2 : (p.take 8).length ≤ 8 := by simp; omega
  have h3 : 256 ^ (p.take 8).length ≤ 256 ^ 8 := Nat.pow_le_pow_right (by omega) h2
  have h4 : 256 ^ 8 = 18446744073709551616 := by decide
  unfold num8
  omega

/-- The frame of a generation and a snapshot. -/
def fpay (g : Nat) (s : List Int) : List Int := leN 8 g ++ s
def fg (g : Nat) (s : List Int) : List Int := enc (fpay g s)
@[simp] theorem fpay_length (g : Nat) (s : List Int) : (fpay g s).length = 8 + s.length := by simp [fpay]
@[simp] theorem fg_length (g : Nat) (s : List Int) : (fg g s).length = 16 + s.length := by simp [fg]; omega
theorem fpay_bytes {g : Nat} {s : List Int} (h : Bytes s) : Bytes (fpay g s) := (leN_bytes 8 g).app h
theorem fg_bytes {g : Nat} {s : List Int} (h : Bytes s) : Bytes (fg g s) := enc_bytes (fpay_bytes h)
/-- A file's generation (0: it doesn't count), its snapshot, its records. -/
def gen (b : List Int) : Nat := match frames b with
  | [] => 0
  | p :: _ => if p.length < 8 ∨ num8 p < 1 ∨ 4611686018427387904 < num8 p then 0 else num8 p
def snap (b : List Int) : List Int := ((frames b).headD []).drop 8
def recs (b : List Int) : List (List Int) := (frames b).tail
theorem gen_le (b : List Int) : gen b ≤ 4611686018427387904 := by
  unfold gen
  split
  · omega
  · split <;> omega

/-- A raw write. -/
inductive Ro where
  | A (f : Int) (b : List Int)
  | S (f : Int)
  | T (f n : Int)
def Ro.dk : Ro → DK → DK
  | .A f b, d => d.app f b
  | .S f, d => d.syn f
  | .T f n, d => d.tru f n
def Ro.er : Ro → DK → Int
  | .A f _, d => d.appE f
  | .S f, d => d.appE f
  | .T f n, d => d.truE f n
/-- One raw write behind the other, up to the first that answers an error. -/
def runs : List Ro → DK → Int × DK
  | [], d => (0, d)
  | o :: os, d => if o.er d = 0 then runs os (o.dk d) else (o.er d, o.dk d)
theorem runs_ok {o : Ro} {os : List Ro} {d : DK} (h : o.er d = 0) : runs (o :: os) d = runs os (o.dk d) := by rw [runs, if_pos h]
theorem runs_er {o : Ro} {os : List Ro} {d : DK} (h : o.er d ≠ 0) : runs (o :: os) d = (o.er d, o.dk d) := by rw [runs, if_neg h]
def Ro.len : Ro → Nat
  | .A _ b => b.length
  | _ => 0
theorem Ro.fit {d : DK} {M m : Nat} (h : d.fit M m) (o : Ro) : (o.dk d).fit (M + o.len) (m + 1) := by
  cases o with
  | A f b => exact h.app f b (Nat.le_refl _)
  | S f => exact h.syn f
  | T f n => exact h.tru f n
theorem runs_fit (os : List Ro) {d : DK} {M m : Nat} (h : d.fit M m) : (runs os d).2.fit (M + (os.map Ro.len).sum) (m + os.length) := by
  induction os generalizing d M m with
  | nil => exact h
  | cons o os ih =>
    have h1 := Ro.fit h o
    unfold runs
    split
    · exact (ih h1).mono (by simp; omega) (by simp; omega)
    · exact h1.mono (by simp <;> omega) (by simp <;> omega)

/-- A vault: its file, the generation, the snapshot, the records, the error that it answers again. -/
structure VK where
  file : Int
  g : Nat
  s : List Int
  rs : List (List Int)
  sick : Int
/-- The vault's file of a disk. -/
def fileOf (d : DK) : Int := if gen d.f0.all < gen d.f1.all then 1 else 0
def opsNew (d : DK) (s : List Int) : List Ro := (if d.f0.all = [] then [] else [.T 0 0]) ++ ([.A 0 (fg 1 s), .S 0] ++ (if d.f1.all = [] then [] else [.T 1 0]))
def opsOld (d : DK) (f : Int) : List Ro := (if (d.get (1 - f)).all = [] then [] else [.T (1 - f) 0]) ++ ((if fend (d.get f).all < (d.get f).all.length then [.T f (fend (d.get f).all : Nat)] else []) ++ [.S f])
/-- What Open does: the error, the disk behind it, the vault. -/
def opn (d : DK) (s : List Int) : Int × DK × Option VK :=
  if 1048568 < s.length then (3, d, none) else if d.on = false then (40, d, none) else
  if gen (d.get (fileOf d)).all = 0 then (let r := runs (opsNew d s) d; (r.1, r.2, if r.1 = 0 then some ⟨0, 1, s, [], 0⟩ else none))
  else (let r := runs (opsOld d (fileOf d)) d; (r.1, r.2, if r.1 = 0 then some ⟨fileOf d, gen (d.get (fileOf d)).all, snap (d.get (fileOf d)).all, recs (d.get (fileOf d)).all, 0⟩ else none))
def apd (d : DK) (v : VK) (r : List Int) : Int × DK × VK :=
  if 1048576 < r.length then (3, d, v) else if v.sick = 0 then
    (let x := runs [.A v.file (enc r), .S v.file] d; (x.1, x.2, if x.1 = 0 then { v with rs := v.rs ++ [r] } else { v with sick := x.1 }))
  else (v.sick, d, v)
def ckp (d : DK) (v : VK) (s : List Int) : Int × DK × VK :=
  if 1048568 < s.length then (3, d, v) else if 4611686018427387904 ≤ v.g then (23, d, v) else if v.sick = 0 then
    (let x := runs [.A (1 - v.file) (fg (v.g + 1) s), .S (1 - v.file)] d;
     if x.1 = 0 then (let y := runs [.T v.file 0] x.2; (y.1, y.2, ⟨1 - v.file, v.g + 1, s, [], y.1⟩)) else (x.1, x.2, { v with sick := x.1 }))
  else (v.sick, d, v)
end Go.Proofs.YtnpmccekkjadhaaDoor.Vk

/- A vault over two files: what its calls do as long as the power is on, and where it goes; plain mathematics. -/
namespace Go.Proofs.YtnpmccekkjadhaaDoor.Vk
open Go.Proofs.YtnpmccekkjadhaaDoor.Crc Go.Proofs.YtnpmccekkjadhaaDoor.Fr Go.Proofs.YtnpmccekkjadhaaDoor.Dk
set_option linter.unusedVariables false

theorem get_put (d : DK) {f g : Int} (hf : f = 0 ∨ f = 1) (hg : g = 0 ∨ g = 1) (x : FL) : (d.put f x).get g = if g = f then x else d.get g := by
  rcases hf with rfl | rfl <;> rcases hg with rfl | rfl <;> rfl
theorem get_count (d : DK) (f : Int) : d.count.get f = d.get f := by unfold DK.get DK.count; split <;> rfl
/-- On, and nothing is armed. -/
structure Calm (d : DK) : Prop where
  on : d.on = true
  left : d.left = 0
theorem Calm.put {d : DK} (h : Calm d) (f : Int) (x : FL) : Calm (d.put f x) := by unfold DK.put; split <;> exact ⟨h.on, h.left⟩
theorem Calm.count {d : DK} (h : Calm d) : Calm d.count := ⟨h.on, by simp [DK.count, h.left]⟩
theorem Calm.raw {d : DK} (h : Calm d) : d.raw = d.count := by unfold DK.raw; rw [if_neg (by rw [h.left]; omega)]
theorem Calm.rawE {d : DK} (h : Calm d) : d.rawE = 0 := by unfold DK.rawE; rw [if_neg (by rw [h.left]; omega)]
theorem Calm.no {d : DK} (h : Calm d) {f : Int} (hf : f = 0 ∨ f = 1) : d.no f = 0 := by unfold DK.no; rw [if_pos hf, if_pos h.on]
theorem put_count (d : DK) (f : Int) (x : FL) : (d.put f x).count = d.count.put f x := by unfold DK.put DK.count; split <;> rfl
theorem cnt_put (d : DK) (f : Int) (x : FL) : (d.put f x).cnt = d.cnt := by unfold DK.put; split <;> rfl
theorem Calm.app {d : DK} (h : Calm d) {f : Int} (hf : f = 0 ∨ f = 1) (b : List Int) : d.appE f = 0 ∧ d.app f b = d.count.put f ⟨(d.get f).s, (d.get f).w ++ b⟩ := by
  refine ⟨by unfold DK.appE; rw [if_pos (h.no hf), h.rawE], ?_⟩
  unfold DK.app
  rw [if_pos (h.no hf), (h.put _ _).raw, put_count]
theorem Calm.syn {d : DK} (h : Calm d) {f : Int} (hf : f = 0 ∨ f = 1) : d.appE f = 0 ∧ d.syn f = d.count.put f ⟨(d.get f).all, []⟩ := by
  refine ⟨by unfold DK.appE; rw [if_pos (h.no hf), h.rawE], ?_⟩
  unfold DK.syn
  rw [if_pos (h.no hf), if_neg (by rw [h.left]; omega), h.raw]
theorem Calm.tru {d : DK} (h : Calm d) {f : Int} (hf : f = 0 ∨ f = 1) {n : Nat} (hn : n ≤ (d.get f).all.length) : d.truE f n = 0 ∧ d.tru f n = d.count.put f ⟨(d.get f).s.take n, (d.get f).w.take (n - (d.get f).s.length)⟩ := by
  have h0 : d.noT f n = 0 := by unfold DK.noT; rw [if_neg (by rintro ⟨_, h1 | h1⟩ <;> omega), h.no hf]
  refine ⟨by unfold DK.truE; rw [if_pos h0, h.rawE], ?_⟩
  unfold DK.tru
  rw [if_pos h0, if_neg (by rw [h.left]; omega), h.raw]
  simp
theorem Calm.tru0 {d : DK} (h : Calm d) {f : Int} (hf : f = 0 ∨ f = 1) : d.truE f 0 = 0 ∧ d.tru f 0 = d.count.put f ⟨[], []⟩ := by
  have y := h.tru hf (n := 0) (Nat.zero_le _)
  simpa using y
theorem fl_nil {f : FL} (h : f.all = []) : f = ⟨[], []⟩ := by
  obtain ⟨a, b⟩ := f
  have : a = [] ∧ b = [] := by simpa [FL.all] using h
  rw [this.1, this.2]
theorem one_sub {f : Int} (hf : f = 0 ∨ f = 1) : (1 - f = 0 ∨ 1 - f = 1) ∧ 1 - f ≠ f ∧ f ≠ 1 - f ∧ 1 - (1 - f) = f := by omega
theorem fileOf_ok (d : DK) : fileOf d = 0 ∨ fileOf d = 1 := by unfold fileOf; split <;> omega

/-- A vault whose last call went well: its file is the frame of its generation and its snapshot, and those of its records, all safe; the other file is empty. -/
structure Fresh (d : DK) (v : VK) : Prop where
  calm : Calm d
  file : v.file = 0 ∨ v.file = 1
  sick : v.sick = 0
  g1 : 1 ≤ v.g
  g2 : v.g ≤ 4611686018427387904
  mine : d.get v.file = ⟨fg v.g v.s ++ encs v.rs, []⟩
  other : d.get (1 - v.file) = ⟨[], []⟩
  len : v.s.length ≤ 1048568
  fit : Fit v.rs
theorem fresh_frames {g : Nat} {s : List Int} {rs : List (List Int)} (hs : s.length ≤ 1048568) (h : Fit rs) : frames (fg g s ++ encs rs) = fpay g s :: rs := by
  have : fg g s ++ encs rs = encs (fpay g s :: rs) := by rw [encs_cons]; rfl
  rw [this]
  refine frames_all (fun p hp => ?_)
  rcases List.mem_cons.1 hp with rfl | hp
  · simp; omega
  · exact h p hp
theorem fresh_gen {g : Nat} {s : List Int} {rs : List (List Int)} (hs : s.length ≤ 1048568) (h : Fit rs) (h1 : 1 ≤ g) (h2 : g ≤ 4611686018427387904) : gen (fg g s ++ encs rs) = g := by
  unfold gen
  rw [fresh_frames hs h]
  have e : num8 (fpay g s) = g := num8_le (by omega) s
  simp only [e, fpay_length]
  rw [if_neg (by omega)]
theorem fresh_snap {g : Nat} {s : List Int} {rs : List (List Int)} (hs : s.length ≤ 1048568) (h : Fit rs) : snap (fg g s ++ encs rs) = s ∧ recs (fg g s ++ encs rs) = rs := by
  unfold snap recs
  rw [fresh_frames hs h]
  refine ⟨?_, rfl⟩
  show (leN 8 g ++ s).drop 8 = s
  rw [List.drop_left' (leN_length 8 g)]
theorem fresh_end {g : Nat} {s : List Int} {rs : List (List Int)} (hs : s.length ≤ 1048568) (h : Fit rs) : fend (fg g s ++ encs rs) = (fg g s ++ encs rs).length := by
  unfold fend
  rw [fresh_frames hs h, encs_cons]
  rfl
theorem gen_nil : gen [] = 0 := by
  have : frames [] = [] := frames_stop (by unfold fst; rw [if_neg (fun h => by have := h.1; simp at this)])
  unfold gen; rw [this]
theorem Fresh.fileOf {d : DK} {v : VK} (h : Fresh d v) : fileOf d = v.file := by
  have hm := h.mine
  have ho := h.other
  have hg := fresh_gen h.len h.fit h.g1 h.g2
  have h1 := h.g1
  unfold Vk.fileOf
  rcases h.file with e | e <;> rw [e] at hm ho
  · have e0 : d.f0 = ⟨fg v.g v.s ++ encs v.rs, []⟩ := hm
    have e1 : d.f1 = ⟨[], []⟩ := ho
    rw [e0, e1, e]
    simp only [FL.all, List.append_nil]
    rw [gen_nil, if_neg (by omega)]
  · have e1 : d.f1 = ⟨fg v.g v.s ++ encs v.rs, []⟩ := hm
    have e0 : d.f0 = ⟨[], []⟩ := ho
    rw [e0, e1, e]
    simp only [FL.all, List.append_nil]
    rw [gen_nil, hg, if_pos (by omega)]
theorem Fresh.all {d : DK} {v : VK} (h : Fresh d v) : (d.get v.file).all = fg v.g v.s ++ encs v.rs := by rw [h.mine]; simp [FL.all]
/-- Opened anew: one raw write, the same vault. -/
theorem opn_fresh {d : DK} {v : VK} (h : Fresh d v) (s' : List Int) (hs : s'.length ≤ 1048568) : opn d s' = (0, d.syn v.file, some v) ∧ Fresh (d.syn v.file) v ∧ (d.syn v.file).cnt = d.cnt + 1 := by
  have hsy := h.calm.syn h.file
  obtain ⟨o1, o2, o3, o4⟩ := one_sub h.file
  have ho : (d.get (1 - v.file)).all = [] := by rw [h.other]; rfl
  refine ⟨?_, ?_, ?_⟩
  · unfold opn
    rw [if_neg (by omega), if_neg (by rw [h.calm.on]; simp), h.fileOf, h.all, fresh_gen h.len h.fit h.g1 h.g2, if_neg (by have := h.g1; omega)]
    have e : opsOld d v.file = [.S v.file] := by
      unfold opsOld
      rw [if_pos ho, h.all, fresh_end h.len h.fit, if_neg (by omega)]
      rfl
    have r : runs [.S v.file] d = (0, d.syn v.file) := by rw [runs_ok (show Ro.er (.S v.file) d = 0 from hsy.1)]; rfl
    obtain ⟨q1, q2⟩ := fresh_snap (g := v.g) h.len h.fit
    rw [e, r, q1, q2]
    have := h.sick
    obtain ⟨vf, vg, vs, vr, vk⟩ := v
    simp only at this
    subst this
    simp
  · rw [hsy.2]
    refine ⟨h.calm.count.put _ _, h.file, h.sick, h.g1, h.g2, ?_, ?_, h.len, h.fit⟩
    · rw [get_put _ h.file h.file, if_pos rfl, h.all]
    · rw [get_put _ h.file o1, if_neg o2, get_count, h.other]
  · rw [hsy.2, cnt_put]; rfl
theorem apd_fresh {d : DK} {v : VK} (h : Fresh d v) (r : List Int) (hr : r.length ≤ 1048576) : ∃ d', apd d v r = (0, d', { v with rs := v.rs ++ [r] }) ∧ Fresh d' { v with rs := v.rs ++ [r] } := by
  have ha := h.calm.app h.file (enc r)
  obtain ⟨o1, o2, o3, o4⟩ := one_sub h.file
  have c1 : Calm (d.app v.file (enc r)) := by rw [ha.2]; exact h.calm.count.put _ _
  have hs := c1.syn h.file
  have g1 : (d.app v.file (enc r)).get v.file = ⟨fg v.g v.s ++ encs v.rs, enc r⟩ := by rw [ha.2, get_put _ h.file h.file, if_pos rfl, h.mine]; rfl
  have g2 : (d.app v.file (enc r)).get (1 - v.file) = ⟨[], []⟩ := by rw [ha.2, get_put _ h.file o1, if_neg o2, get_count, h.other]
  refine ⟨(d.app v.file (enc r)).syn v.file, ?_, ?_⟩
  · unfold apd
    rw [if_neg (by omega), if_pos h.sick]
    have e : runs [.A v.file (enc r), .S v.file] d = (0, (d.app v.file (enc r)).syn v.file) := by
      rw [runs_ok (show Ro.er (.A v.file (enc r)) d = 0 from ha.1), runs_ok (show Ro.er (.S v.file) (Ro.dk (.A v.file (enc r)) d) = 0 from hs.1)]; rfl
    rw [e]; rfl
  · rw [hs.2]
    refine ⟨c1.count.put _ _, h.file, h.sick, h.g1, h.g2, ?_, ?_, h.len, ?_⟩
    · rw [get_put _ h.file h.file, if_pos rfl, g1]
      show FL.mk _ _ = FL.mk _ _
      congr 1
      simp only [FL.all]
      rw [encs_snoc, List.append_assoc]
    · show DK.get _ (1 - v.file) = _
      rw [get_put _ h.file o1, if_neg o2, get_count, g2]
    · intro p hp
      rcases List.mem_append.1 hp with h1 | h1
      · exact h.fit p h1
      · obtain rfl := List.mem_singleton.1 h1; exact hr
theorem ckp_fresh {d : DK} {v : VK} (h : Fresh d v) (s : List Int) (hs : s.length ≤ 1048568) (hg : v.g < 4611686018427387904) : ∃ d', ckp d v s = (0, d', ⟨1 - v.file, v.g + 1, s, [], 0⟩) ∧ Fresh d' ⟨1 - v.file, v.g + 1, s, [], 0⟩ := by
  obtain ⟨o1, o2, o3, o4⟩ := one_sub h.file
  have ha := h.calm.app o1 (fg (v.g + 1) s)
  obtain ⟨d1, hd1⟩ : ∃ d1, d1 = d.app (1 - v.file) (fg (v.g + 1) s) := ⟨_, rfl⟩
  have c1 : Calm d1 := by rw [hd1, ha.2]; exact h.calm.count.put _ _
  have y1 := c1.syn o1
  have g1 : d1.get (1 - v.file) = ⟨[], fg (v.g + 1) s⟩ := by rw [hd1, ha.2, get_put _ o1 o1, if_pos rfl, h.other]; rfl
  have g2 : d1.get v.file = ⟨fg v.g v.s ++ encs v.rs, []⟩ := by rw [hd1, ha.2, get_put _ o1 h.file, if_neg o3, get_count, h.mine]
  obtain ⟨d2, hd2⟩ : ∃ d2, d2 = d1.syn (1 - v.file) := ⟨_, rfl⟩
  have c2 : Calm d2 := by rw [hd2, y1.2]; exact c1.count.put _ _
  have g3 : d2.get (1 - v.file) = ⟨fg (v.g + 1) s, []⟩ := by rw [hd2, y1.2, get_put _ o1 o1, if_pos rfl, g1]; rfl
  have y2 := c2.tru0 h.file
  refine ⟨d2.tru v.file 0, ?_, ?_⟩
  · unfold ckp
    rw [if_neg (by omega), if_neg (by omega), if_pos h.sick]
    have e : runs [.A (1 - v.file) (fg (v.g + 1) s), .S (1 - v.file)] d = (0, d2) := by
      have q : Ro.er (.S (1 - v.file)) (Ro.dk (.A (1 - v.file) (fg (v.g + 1) s)) d) = 0 := by
        show (d.app (1 - v.file) (fg (v.g + 1) s)).appE (1 - v.file) = 0
        rw [← hd1]; exact y1.1
      rw [runs_ok (show Ro.er (.A (1 - v.file) (fg (v.g + 1) s)) d = 0 from ha.1), runs_ok q]
      show (0, (d.app (1 - v.file) (fg (v.g + 1) s)).syn (1 - v.file)) = _
      rw [← hd1, ← hd2]
    have e2 : runs [.T v.file 0] d2 = (0, d2.tru v.file 0) := by rw [runs_ok (show Ro.er (.T v.file 0) d2 = 0 from y2.1)]; rfl
    rw [e]
    show (if (0 : Int) = 0 then _ else _) = _
    rw [if_pos rfl]
    show ((runs [.T v.file 0] d2).1, (runs [.T v.file 0] d2).2, _) = _
    rw [e2]
  · have y3 := (c2.tru0 h.file).2
    rw [y3]
    refine ⟨c2.count.put _ _, o1, rfl, by show 1 ≤ v.g + 1; omega, by show v.g + 1 ≤ _; omega, ?_, ?_, hs, (fun p hp => by simp at hp)⟩
    · show DK.get _ (1 - v.file) = _
      rw [get_put _ h.file o1, if_neg o2, get_count, g3]
      simp [encs_nil]
    · show DK.get _ (1 - (1 - v.file)) = _
      rw [o4, get_put _ h.file h.file, if_pos rfl]
/-- Bytes of which the good frames alone are left. -/
theorem frames_cut (b : List Int) : b.take (fend b) = encs (frames b) := by
  obtain ⟨t, h, _, _⟩ := frames_spec b.length b (Nat.le_refl _)
  unfold fend
  conv => lhs; rw [h]
  rw [List.take_append_of_le_length (by rw [← h]; exact Nat.le_refl _)]
  rw [← h]
  exact List.take_length
theorem gen_pos {b : List Int} (h : gen b ≠ 0) (hb : Bytes b) : ∃ p rs, frames b = p :: rs ∧ 8 ≤ p.length ∧ 1 ≤ gen b ∧ p = fpay (gen b) (snap b) ∧ recs b = rs ∧ (snap b).length ≤ 1048568 ∧ Fit rs := by
  unfold gen at h
  split at h
  · exact absurd rfl h
  · rename_i p rs e
    split at h
    · exact absurd rfl h
    · rename_i hc
      have hg : gen b = num8 p := by unfold gen; rw [e]; simp only; rw [if_neg hc]
      have hf := frames_fit b
      rw [e] at hf
      have hp := hf p (by simp)
      have hs : snap b = p.drop 8 := by unfold snap; rw [e]; rfl
      refine ⟨p, rs, e, by omega, by omega, ?_, by unfold recs; rw [e]; rfl, by rw [hs, List.length_drop]; omega, fun q hq => hf q (by simp [hq])⟩
      have hpb : Bytes p := by
        intro x hx
        obtain ⟨t, ht, _, _⟩ := frames_spec b.length b (Nat.le_refl _)
        rw [e, encs_cons] at ht
        refine hb x ?_
        rw [ht]
        refine List.mem_append_left _ (List.mem_append_left _ ?_)
        unfold enc
        exact List.mem_append_right _ (List.mem_append_right _ hx)
      rw [hs, hg]
      unfold fpay
      have e8 : leN 8 (num8 p) = p.take 8 := by
        have : ∀ (l : List Int), Bytes l → leN l.length (numL l) = l := by
          intro l
          induction l with
          | nil => intro _; rfl
          | cons x r ih =>
            intro hl
            have hx := hl x (by simp)
            rw [List.length_cons, leN, numL]
            have h1 : (x.toNat + 256 * numL r) % 256 = x.toNat := by omega
            have h2 : (x.toNat + 256 * numL r) / 256 = numL r := by omega
            rw [h1, h2, ih (fun y hy => hl y (by simp [hy]))]
            congr 1
            omega
        have h3 := this (p.take 8) (hpb.take 8)
        rw [List.length_take, Nat.min_eq_left (by omega)] at h3
        exact h3
      rw [e8, List.take_append_drop]
/-- Opened over any disk whose power is on and stays on. -/
theorem opn_calm {d : DK} (hc : Calm d) (h0 : Bytes d.f0.all) (h1 : Bytes d.f1.all) (s : List Int) (hs : s.length ≤ 1048568) : ∃ d' v, opn d s = (0, d', some v) ∧ Fresh d' v := by
  have hF := fileOf_ok d
  obtain ⟨F, hFe⟩ : ∃ F, F = fileOf d := ⟨_, rfl⟩
  rw [← hFe] at hF
  obtain ⟨o1, o2, o3, o4⟩ := one_sub hF
  have hb : ∀ f : Int, Bytes (d.get f).all := fun f => by unfold DK.get; split <;> assumption
  unfold opn
  rw [if_neg (by omega), if_neg (by rw [hc.on]; simp), ← hFe]
  by_cases hg : gen (d.get F).all = 0
  · rw [if_pos hg]
    -- file 0 is emptied, where it has bytes
    obtain ⟨d1, c1, e1, g10, g11⟩ : ∃ d1, Calm d1 ∧ (∀ os, runs ((if d.f0.all = [] then [] else [.T 0 0]) ++ os) d = runs os d1) ∧ d1.get 0 = ⟨[], []⟩ ∧ d1.get 1 = d.f1 := by
      by_cases h : d.f0.all = []
      · exact ⟨d, hc, fun os => by rw [if_pos h]; rfl, fl_nil h, rfl⟩
      · have y := hc.tru0 (f := 0) (.inl rfl)
        refine ⟨d.tru 0 0, ?_, fun os => ?_, ?_, ?_⟩
        · rw [y.2]; exact hc.count.put _ _
        · rw [if_neg h]; exact runs_ok (show Ro.er (.T 0 0) d = 0 from y.1)
        · rw [y.2, get_put _ (.inl rfl) (.inl rfl), if_pos rfl]
        · rw [y.2, get_put _ (.inl rfl) (.inr rfl), if_neg (by omega), get_count]; rfl
    have ya := c1.app (f := 0) (.inl rfl) (fg 1 s)
    obtain ⟨d2, hd2⟩ : ∃ d2, d2 = d1.app 0 (fg 1 s) := ⟨_, rfl⟩
    rw [← hd2] at ya
    have c2 : Calm d2 := by rw [ya.2]; exact c1.count.put _ _
    have ys := c2.syn (f := 0) (.inl rfl)
    obtain ⟨d3, hd3⟩ : ∃ d3, d3 = d2.syn 0 := ⟨_, rfl⟩
    rw [← hd3] at ys
    have c3 : Calm d3 := by rw [ys.2]; exact c2.count.put _ _
    have g20 : d2.get 0 = ⟨[], fg 1 s⟩ := by rw [ya.2, get_put _ (.inl rfl) (.inl rfl), if_pos rfl, g10]; rfl
    have g21 : d2.get 1 = d.f1 := by rw [ya.2, get_put _ (.inl rfl) (.inr rfl), if_neg (by omega), get_count, g11]
    have g30 : d3.get 0 = ⟨fg 1 s, []⟩ := by rw [ys.2, get_put _ (.inl rfl) (.inl rfl), if_pos rfl, g20]; rfl
    have g31 : d3.get 1 = d.f1 := by rw [ys.2, get_put _ (.inl rfl) (.inr rfl), if_neg (by omega), get_count, g21]
    have e3 : ∀ os, runs ([.A 0 (fg 1 s), .S 0] ++ os) d1 = runs os d3 := fun os => by
      have q : Ro.er (.S 0) (Ro.dk (.A 0 (fg 1 s)) d1) = 0 := by show (d1.app 0 (fg 1 s)).appE 0 = 0; rw [← hd2]; exact ys.1
      rw [List.cons_append, runs_ok (show Ro.er (.A 0 (fg 1 s)) d1 = 0 from ya.1), List.cons_append, runs_ok q]
      show runs os ((d1.app 0 (fg 1 s)).syn 0) = _
      rw [← hd2, ← hd3]
    obtain ⟨d4, c4, e4, g40, g41⟩ : ∃ d4, Calm d4 ∧ runs (if d.f1.all = [] then [] else [.T 1 0]) d3 = (0, d4) ∧ d4.get 0 = ⟨fg 1 s, []⟩ ∧ d4.get 1 = ⟨[], []⟩ := by
      by_cases h : d.f1.all = []
      · exact ⟨d3, c3, by rw [if_pos h]; rfl, g30, by rw [g31]; exact fl_nil h⟩
      · have y := c3.tru0 (f := 1) (.inr rfl)
        refine ⟨d3.tru 1 0, ?_, ?_, ?_, ?_⟩
        · rw [y.2]; exact c3.count.put _ _
        · rw [if_neg h, runs_ok (show Ro.er (.T 1 0) d3 = 0 from y.1)]; rfl
        · rw [y.2, get_put _ (.inr rfl) (.inl rfl), if_neg (by omega), get_count, g30]
        · rw [y.2, get_put _ (.inr rfl) (.inr rfl), if_pos rfl]
    have er : runs (opsNew d s) d = (0, d4) := by
      unfold opsNew
      rw [e1, e3, e4]
    rw [er]
    refine ⟨d4, ⟨0, 1, s, [], 0⟩, rfl, c4, .inl rfl, rfl, by show 1 ≤ 1; omega, by show 1 ≤ _; omega, ?_, ?_, hs, (fun p hp => by simp at hp)⟩
    · show d4.get 0 = _; rw [g40]; simp [encs_nil]
    · exact g41
  · rw [if_neg hg]
    obtain ⟨p, rs, hfr, hp8, hg1, hpe, hre, hsl, hfi⟩ := gen_pos hg (hb F)
    obtain ⟨d1, c1, e1, g1o, g1m⟩ : ∃ d1, Calm d1 ∧ (∀ os, runs ((if (d.get (1 - F)).all = [] then [] else [.T (1 - F) 0]) ++ os) d = runs os d1) ∧ d1.get (1 - F) = ⟨[], []⟩ ∧ d1.get F = d.get F := by
      by_cases h : (d.get (1 - F)).all = []
      · exact ⟨d, hc, fun os => by rw [if_pos h]; rfl, fl_nil h, rfl⟩
      · have y := hc.tru0 o1
        refine ⟨d.tru (1 - F) 0, ?_, fun os => ?_, ?_, ?_⟩
        · rw [y.2]; exact hc.count.put _ _
        · rw [if_neg h]; exact runs_ok (show Ro.er (.T (1 - F) 0) d = 0 from y.1)
        · rw [y.2, get_put _ o1 o1, if_pos rfl]
        · rw [y.2, get_put _ o1 hF, if_neg o3, get_count]
    have hcut : (d.get F).all.take (fend (d.get F).all) = fg (gen (d.get F).all) (snap (d.get F).all) ++ encs (recs (d.get F).all) := by
      rw [frames_cut, hfr, encs_cons, hre]
      unfold fg
      rw [← hpe]
    obtain ⟨d2, c2, e2, g2o, g2m⟩ : ∃ d2, Calm d2 ∧ (∀ os, runs ((if fend (d.get F).all < (d.get F).all.length then [.T F (fend (d.get F).all : Nat)] else []) ++ os) d1 = runs os d2) ∧ d2.get (1 - F) = ⟨[], []⟩ ∧ (d2.get F).all = (d.get F).all.take (fend (d.get F).all) := by
      by_cases h : fend (d.get F).all < (d.get F).all.length
      · have y := c1.tru hF (n := fend (d.get F).all) (by rw [g1m]; omega)
        refine ⟨d1.tru F (fend (d.get F).all : Nat), ?_, fun os => ?_, ?_, ?_⟩
        · rw [y.2]; exact c1.count.put _ _
        · rw [if_pos h]; exact runs_ok (show Ro.er (.T F (fend (d.get F).all : Nat)) d1 = 0 from y.1)
        · rw [y.2, get_put _ hF o1, if_neg o2, get_count, g1o]
        · rw [y.2, get_put _ hF hF, if_pos rfl, g1m]
          simp only [FL.all]
          rw [List.take_append]
      · refine ⟨d1, c1, fun os => by rw [if_neg h]; rfl, g1o, ?_⟩
        rw [g1m, List.take_of_length_le (by omega)]
    have ys := c2.syn hF
    have er : runs (opsOld d F) d = (0, d2.syn F) := by
      unfold opsOld
      rw [e1, e2, runs_ok (show Ro.er (.S F) d2 = 0 from ys.1)]
      rfl
    rw [er]
    refine ⟨d2.syn F, ⟨F, gen (d.get F).all, snap (d.get F).all, recs (d.get F).all, 0⟩, rfl, ?_, hF, rfl, hg1, gen_le _, ?_, ?_, hsl, by rw [hre]; exact hfi⟩
    · rw [ys.2]; exact c2.count.put _ _
    · show (d2.syn F).get F = _
      rw [ys.2, get_put _ hF hF, if_pos rfl, g2m, hcut]
    · show (d2.syn F).get (1 - F) = _
      rw [ys.2, get_put _ hF o1, if_neg o2, get_count, g2o]
end Go.Proofs.YtnpmccekkjadhaaDoor.Vk

/- A vault over two files: where the power goes; plain mathematics. -/
namespace Go.Proofs.YtnpmccekkjadhaaDoor.Vk
open Go.Proofs.YtnpmccekkjadhaaDoor.Crc Go.Proofs.YtnpmccekkjadhaaDoor.Fr Go.Proofs.YtnpmccekkjadhaaDoor.Dk
set_option linter.unusedVariables false
theorem no_on {d : DK} (h : d.on = true) {f : Int} (hf : f = 0 ∨ f = 1) : d.no f = 0 := by unfold DK.no; rw [if_pos hf, if_pos h]
theorem put_on (d : DK) (f : Int) (x : FL) : (d.put f x).on = d.on ∧ (d.put f x).left = d.left := by unfold DK.put; split <;> exact ⟨rfl, rfl⟩
theorem raw_on {d : DK} (h : d.on = true) : (d.rawE = 0 ∧ d.raw.on = true ∧ d.left ≠ 1) ∨ (d.rawE = 40 ∧ d.raw.on = false ∧ d.left = 1) := by
  unfold DK.rawE DK.raw
  by_cases hl : d.left = 1
  · refine .inr ⟨by rw [if_pos hl], ?_, hl⟩
    rw [if_pos hl]
    unfold DK.offs
    rw [if_pos (by simpa [DK.count] using h)]
  · exact .inl ⟨by rw [if_neg hl], by rw [if_neg hl]; simpa [DK.count] using h, hl⟩
theorem app_on {d : DK} (h : d.on = true) {f : Int} (hf : f = 0 ∨ f = 1) (b : List Int) : (d.appE f = 0 ∧ (d.app f b).on = true) ∨ (d.appE f = 40 ∧ (d.app f b).on = false) := by
  unfold DK.appE DK.app
  rw [if_pos (no_on h hf), if_pos (no_on h hf)]
  obtain ⟨p1, p2⟩ := put_on d f ⟨(d.get f).s, (d.get f).w ++ b⟩
  have e : d.rawE = (d.put f ⟨(d.get f).s, (d.get f).w ++ b⟩).rawE := by unfold DK.rawE; rw [p2]
  rw [e]
  rcases raw_on (p1.trans h) with ⟨h1, h2, _⟩ | ⟨h1, h2, _⟩
  · exact .inl ⟨h1, h2⟩
  · exact .inr ⟨h1, h2⟩
theorem syn_on {d : DK} (h : d.on = true) {f : Int} (hf : f = 0 ∨ f = 1) : (d.appE f = 0 ∧ (d.syn f).on = true) ∨ (d.appE f = 40 ∧ (d.syn f).on = false) := by
  unfold DK.appE DK.syn
  rw [if_pos (no_on h hf), if_pos (no_on h hf)]
  rcases raw_on h with ⟨h1, h2, h3⟩ | ⟨h1, h2, h3⟩
  · exact .inl ⟨h1, by rw [if_neg h3, (put_on _ _ _).1]; exact h2⟩
  · exact .inr ⟨h1, by rw [if_pos h3]; exact h2⟩
/-- A record is appended, or the power goes. -/
theorem apd_on {d : DK} {v : VK} (h : d.on = true) (hf : v.file = 0 ∨ v.file = 1) (hk : v.sick = 0) {r : List Int} (hr : r.length ≤ 1048576) :
    ((apd d v r).1 = 0 ∧ (apd d v r).2.1.on = true ∧ (apd d v r).2.2 = { v with rs := v.rs ++ [r] }) ∨ ((apd d v r).1 = 40 ∧ (apd d v r).2.1.on = false ∧ (apd d v r).2.2 = { v with sick := 40 }) := by
  unfold apd
  rw [if_neg (by omega), if_pos hk]
  rcases app_on h hf (enc r) with ⟨h1, h2⟩ | ⟨h1, h2⟩
  · rw [runs_ok (show Ro.er (.A v.file (enc r)) d = 0 from h1)]
    rcases syn_on h2 hf with ⟨h3, h4⟩ | ⟨h3, h4⟩
    · rw [runs_ok (show Ro.er (.S v.file) (Ro.dk (.A v.file (enc r)) d) = 0 from h3)]
      exact .inl ⟨rfl, h4, rfl⟩
    · rw [runs_er (show Ro.er (.S v.file) (Ro.dk (.A v.file (enc r)) d) ≠ 0 from by show (d.app v.file (enc r)).appE v.file ≠ 0; rw [h3]; decide)]
      refine .inr ⟨h3, h4, ?_⟩
      show (if (d.app v.file (enc r)).appE v.file = 0 then _ else ({ v with sick := (d.app v.file (enc r)).appE v.file } : VK)) = _
      rw [h3]; rfl
  · rw [runs_er (show Ro.er (.A v.file (enc r)) d ≠ 0 from by show d.appE v.file ≠ 0; rw [h1]; decide)]
    refine .inr ⟨h1, h2, ?_⟩
    show (if d.appE v.file = 0 then _ else ({ v with sick := d.appE v.file } : VK)) = _
    rw [h1]; rfl
/-- A sick vault does nothing. -/
theorem apd_sick {d : DK} {v : VK} (hk : v.sick ≠ 0) {r : List Int} (hr : r.length ≤ 1048576) : apd d v r = (v.sick, d, v) := by
  unfold apd
  rw [if_neg (by omega), if_neg hk]
theorem ckp_sick {d : DK} {v : VK} (hk : v.sick ≠ 0) {s : List Int} (hs : s.length ≤ 1048568) (hg : v.g < 4611686018427387904) : ckp d v s = (v.sick, d, v) := by
  unfold ckp
  rw [if_neg (by omega), if_neg (by omega), if_neg hk]

/-- How long files may become, how many raw writes there may be. -/
theorem opn_fit {d : DK} {M m : Nat} (h : d.fit M m) (s : List Int) : (opn d s).2.1.fit (M + (16 + s.length)) (m + 4) := by
  have h0 : d.fit (M + (16 + s.length)) (m + 4) := h.mono (by omega) (by omega)
  unfold opn
  split
  · exact h0
  split
  · exact h0
  split
  · refine (runs_fit (opsNew d s) h).mono ?_ ?_
    · unfold opsNew; split <;> split <;> simp [Ro.len] <;> omega
    · unfold opsNew; split <;> split <;> simp
  · refine (runs_fit (opsOld d (fileOf d)) h).mono ?_ ?_
    · unfold opsOld; split <;> split <;> simp [Ro.len] <;> omega
    · unfold opsOld; split <;> split <;> simp
theorem apd_fit {d : DK} {M m : Nat} (h : d.fit M m) (v : VK) (r : List Int) : (apd d v r).2.1.fit (M + (8 + r.length)) (m + 2) := by
  have h0 : d.fit (M + (8 + r.length)) (m + 2) := h.mono (by omega) (by omega)
  unfold apd
  split
  · exact h0
  split
  · exact (runs_fit _ h).mono (by simp [Ro.len]) (by simp)
  · exact h0
theorem ckp_fit {d : DK} {M m : Nat} (h : d.fit M m) (v : VK) (s : List Int) : (ckp d v s).2.1.fit (M + (16 + s.length)) (m + 3) := by
  have h0 : d.fit (M + (16 + s.length)) (m + 3) := h.mono (by omega) (by omega)
  unfold ckp
  split
  · exact h0
  split
  · exact h0
  split
  · have h1 := runs_fit [.A (1 - v.file) (fg (v.g + 1) s), .S (1 - v.file)] h
    simp only
    split
    · exact (runs_fit [.T v.file 0] h1).mono (by simp [Ro.len]) (by simp)
    · exact h1.mono (by simp [Ro.len]) (by simp)
  · exact h0
/-- A raw write goes well only while the power is on. -/
theorem no_off {d : DK} (h : d.on ≠ true) {f : Int} : d.no f ≠ 0 := by
  unfold DK.no
  rw [if_neg h]
  split <;> omega
theorem Ro.er_on {d : DK} {o : Ro} (h : o.er d = 0) : d.on = true := by
  by_cases hon : d.on = true
  · exact hon
  · cases o with
    | A f b =>
      have h1 : d.appE f = 0 := h
      unfold DK.appE at h1
      rw [if_neg (no_off hon)] at h1
      exact absurd h1 (no_off hon)
    | S f =>
      have h1 : d.appE f = 0 := h
      unfold DK.appE at h1
      rw [if_neg (no_off hon)] at h1
      exact absurd h1 (no_off hon)
    | T f n =>
      have h1 : d.truE f n = 0 := h
      have h2 : d.noT f n ≠ 0 := by
        unfold DK.noT
        split
        · omega
        · exact no_off hon
      unfold DK.truE at h1
      rw [if_neg h2] at h1
      exact absurd h1 h2
/-- A raw write that goes well leaves the other file alone, and the power on. -/
def Ro.at_ : Ro → Int
  | .A f _ => f
  | .S f => f
  | .T f _ => f
theorem Ro.keep {d : DK} {o : Ro} (hon : d.on = true) (h : o.er d = 0) (hf : o.at_ = 0 ∨ o.at_ = 1) : (o.dk d).on = true ∧ ∀ g, (g = 0 ∨ g = 1) → g ≠ o.at_ → (o.dk d).get g = d.get g := by
  cases o with
  | A f b =>
    have hf : f = 0 ∨ f = 1 := hf
    have h1 : d.appE f = 0 := h
    unfold DK.appE at h1
    rw [if_pos (no_on hon hf)] at h1
    have hl : d.left ≠ 1 := fun e => by unfold DK.rawE at h1; rw [if_pos e] at h1; cases h1
    have hr : d.app f b = d.count.put f ⟨(d.get f).s, (d.get f).w ++ b⟩ := by
      unfold DK.app DK.raw
      rw [if_pos (no_on hon hf), if_neg (by rw [(put_on _ _ _).2]; exact hl), put_count]
    show (d.app f b).on = true ∧ ∀ g, _ → g ≠ f → (d.app f b).get g = _
    rw [hr]
    exact ⟨by rw [(put_on _ _ _).1]; exact hon, fun g hg hne => by rw [get_put _ hf hg, if_neg hne, get_count]⟩
  | S f =>
    have hf : f = 0 ∨ f = 1 := hf
    have h1 : d.appE f = 0 := h
    unfold DK.appE at h1
    rw [if_pos (no_on hon hf)] at h1
    have hl : d.left ≠ 1 := fun e => by unfold DK.rawE at h1; rw [if_pos e] at h1; cases h1
    have hr : d.syn f = d.count.put f ⟨(d.get f).all, []⟩ := by
      unfold DK.syn DK.raw
      rw [if_pos (no_on hon hf), if_neg hl, if_neg hl]
    show (d.syn f).on = true ∧ ∀ g, _ → g ≠ f → (d.syn f).get g = _
    rw [hr]
    exact ⟨by rw [(put_on _ _ _).1]; exact hon, fun g hg hne => by rw [get_put _ hf hg, if_neg hne, get_count]⟩
  | T f n =>
    have hf : f = 0 ∨ f = 1 := hf
    have h1 : d.truE f n = 0 := h
    unfold DK.truE at h1
    split at h1
    · rename_i hn
      have hl : d.left ≠ 1 := fun e => by unfold DK.rawE at h1; rw [if_pos e] at h1; cases h1
      have hr : d.tru f n = d.count.put f ⟨(d.get f).s.take n.toNat, (d.get f).w.take (n.toNat - (d.get f).s.length)⟩ := by
        unfold DK.tru DK.raw
        rw [if_pos hn, if_neg hl, if_neg hl]
      show (d.tru f n).on = true ∧ ∀ g, _ → g ≠ f → (d.tru f n).get g = _
      rw [hr]
      exact ⟨by rw [(put_on _ _ _).1]; exact hon, fun g hg hne => by rw [get_put _ hf hg, if_neg hne, get_count]⟩
    · rename_i hn
      exact absurd h1 hn
end Go.Proofs.YtnpmccekkjadhaaDoor.Vk
