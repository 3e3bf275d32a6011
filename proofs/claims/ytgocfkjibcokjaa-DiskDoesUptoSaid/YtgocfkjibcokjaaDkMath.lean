/- Two files whose power can go: what the document says of each call, as plain mathematics. -/
namespace Go.Proofs.Ytgocfkjibcokjaa.Dk
set_option linter.unusedVariables false

/-- A file: its safe bytes, its waiting ones. -/
structure FL where
  s : List Int
  w : List Int
/-- Two files; is the power on; raw writes; the armed one, counted from the next on (0: none); how many bytes will be kept. -/
structure DK where
  f0 : FL
  f1 : FL
  on : Bool
  cnt : Nat
  left : Nat
  keep : Int
def FL.all (f : FL) : List Int := f.s ++ f.w
def FL.lose (k : Int) (f : FL) : FL := ⟨f.s ++ f.w.take k.toNat, []⟩
def DK.get (d : DK) (f : Int) : FL := if f = 1 then d.f1 else d.f0
def DK.put (d : DK) (f : Int) (x : FL) : DK := if f = 1 then { d with f1 := x } else { d with f0 := x }
/-- The power goes. -/
def DK.offs (k : Int) (d : DK) : DK := if d.on = true then { d with f0 := d.f0.lose k, f1 := d.f1.lose k, on := false, left := 0 } else d
def DK.ons (d : DK) : DK := { d with on := true }
def DK.arm (n k : Int) (d : DK) : DK := { d with left := n.toNat, keep := k }
def DK.count (d : DK) : DK := { d with cnt := d.cnt + 1, left := d.left - 1 }
/-- A raw write, and what it answers. -/
def DK.raw (d : DK) : DK := if d.left = 1 then d.count.offs d.keep else d.count
def DK.rawE (d : DK) : Int := if d.left = 1 then 40 else 0
/-- Why nothing can be done with the file. -/
def DK.no (d : DK) (f : Int) : Int := if f = 0 ∨ f = 1 then (if d.on = true then 0 else 40) else 1
def DK.appE (d : DK) (f : Int) : Int := if d.no f = 0 then d.rawE else d.no f
def DK.app (d : DK) (f : Int) (b : List Int) : DK := if d.no f = 0 then (d.put f ⟨(d.get f).s, (d.get f).w ++ b⟩).raw else d
def DK.syn (d : DK) (f : Int) : DK := if d.no f = 0 then (if d.left = 1 then d.raw else d.raw.put f ⟨(d.get f).all, []⟩) else d
def DK.noT (d : DK) (f n : Int) : Int := if (f = 0 ∨ f = 1) ∧ (n < 0 ∨ ((d.get f).all.length : Int) < n) then 1 else d.no f
def DK.truE (d : DK) (f n : Int) : Int := if d.noT f n = 0 then d.rawE else d.noT f n
def DK.tru (d : DK) (f n : Int) : DK := if d.noT f n = 0 then (if d.left = 1 then d.raw else d.raw.put f ⟨(d.get f).s.take n.toNat, (d.get f).w.take (n.toNat - (d.get f).s.length)⟩) else d
def DK.rd (d : DK) (f : Int) : List Int := if d.no f = 0 then (d.get f).all else []
def DK.sf (d : DK) (f : Int) : List Int := if f = 0 ∨ f = 1 then (d.get f).s else []
def DK.new (a b : List Int) : DK := ⟨⟨a, []⟩, ⟨b, []⟩, true, 0, 0, 0⟩

/-- One call: kind, file, n, k, bytes. -/
structure Cm where
  kind : Int
  f : Int
  n : Int
  k : Int
  b : List Int
def DK.does (d : DK) (o : Cm) : DK :=
  if o.kind = 0 then d.app o.f o.b else if o.kind = 1 then d.syn o.f else if o.kind = 2 then d.tru o.f o.n else if o.kind = 3 then d.arm o.n o.k else if o.kind = 4 then d.offs o.k else if o.kind = 5 then d.ons else d
def DK.doesE (d : DK) (o : Cm) : Int :=
  if o.kind = 0 then d.appE o.f else if o.kind = 1 then d.appE o.f else if o.kind = 2 then d.truE o.f o.n else if o.kind = 6 then d.no o.f else 0
def DK.doesB (d : DK) (o : Cm) : List Int := if o.kind = 6 then d.rd o.f else []

/-- A disk's bounds: no file longer than M, no more than m raw writes, and what is armed and kept are numbers of the machine. -/
structure DK.fit (d : DK) (M m : Nat) : Prop where
  l0 : d.f0.all.length ≤ M
  l1 : d.f1.all.length ≤ M
  c : d.cnt ≤ m
  a : d.left ≤ 9223372036854775807
  k0 : -9223372036854775808 ≤ d.keep
  k1 : d.keep ≤ 9223372036854775807

theorem FL.lose_len (k : Int) (f : FL) : (f.lose k).all.length ≤ f.all.length := by
  simp [FL.lose, FL.all, List.length_take]; omega
theorem DK.fit.mono {d : DK} {M m M' m' : Nat} (h : d.fit M m) (h1 : M ≤ M') (h2 : m ≤ m') : d.fit M' m' := ⟨Nat.le_trans h.l0 h1, Nat.le_trans h.l1 h1, Nat.le_trans h.c h2, h.a, h.k0, h.k1⟩
theorem DK.fit.offs {d : DK} {M m : Nat} (h : d.fit M m) (k : Int) : (d.offs k).fit M m := by
  unfold DK.offs
  split
  · exact ⟨Nat.le_trans (FL.lose_len k d.f0) h.l0, Nat.le_trans (FL.lose_len k d.f1) h.l1, h.c, by simp, h.k0, h.k1⟩
  · exact h
theorem DK.fit.count {d : DK} {M m : Nat} (h : d.fit M m) : d.count.fit M (m + 1) := ⟨h.l0, h.l1, by have := h.c; simp [DK.count]; omega, by have := h.a; simp [DK.count]; omega, h.k0, h.k1⟩
theorem DK.fit.raw {d : DK} {M m : Nat} (h : d.fit M m) : d.raw.fit M (m + 1) := by
  unfold DK.raw
  split
  · exact h.count.offs _
  · exact h.count
theorem DK.fit.put {d : DK} {M m : Nat} (h : d.fit M m) (f : Int) (x : FL) (hx : x.all.length ≤ M) : (d.put f x).fit M m := by
  unfold DK.put
  split
  · exact ⟨h.l0, hx, h.c, h.a, h.k0, h.k1⟩
  · exact ⟨hx, h.l1, h.c, h.a, h.k0, h.k1⟩
theorem DK.fit.get {d : DK} {M m : Nat} (h : d.fit M m) (f : Int) : (d.get f).all.length ≤ M := by
  unfold DK.get
  split
  · exact h.l1
  · exact h.l0
theorem FL.all_len (f : FL) : f.all.length = f.s.length + f.w.length := by simp [FL.all]
theorem DK.fit.app {d : DK} {M m K : Nat} (h : d.fit M m) (f : Int) (b : List Int) (hb : b.length ≤ K) : (d.app f b).fit (M + K) (m + 1) := by
  unfold DK.app
  split
  · refine DK.fit.raw (DK.fit.put (h.mono (by omega) (Nat.le_refl _)) f _ ?_)
    have := h.get f
    simp [FL.all] at this ⊢
    omega
  · exact h.mono (by omega) (by omega)
theorem DK.fit.syn {d : DK} {M m : Nat} (h : d.fit M m) (f : Int) : (d.syn f).fit M (m + 1) := by
  unfold DK.syn
  split
  · split
    · exact h.raw
    · exact h.raw.put f _ (by have := h.get f; simpa [FL.all] using this)
  · exact h.mono (Nat.le_refl _) (by omega)
theorem DK.fit.tru {d : DK} {M m : Nat} (h : d.fit M m) (f n : Int) : (d.tru f n).fit M (m + 1) := by
  unfold DK.tru
  split
  · split
    · exact h.raw
    · refine h.raw.put f _ ?_
      have := h.get f
      simp [FL.all, List.length_take] at this ⊢
      omega
  · exact h.mono (Nat.le_refl _) (by omega)
/-- Behind one call. -/
theorem DK.fit.does {d : DK} {M m K : Nat} (h : d.fit M m) (o : Cm) (hb : o.b.length ≤ K) (hn : o.n ≤ 9223372036854775807) (hk0 : -9223372036854775808 ≤ o.k) (hk1 : o.k ≤ 9223372036854775807) : (d.does o).fit (M + K) (m + 1) := by
  unfold DK.does
  split
  · exact h.app _ _ hb
  split
  · exact (h.syn _).mono (by omega) (Nat.le_refl _)
  split
  · exact (h.tru _ _).mono (by omega) (Nat.le_refl _)
  split
  · exact ⟨Nat.le_trans h.l0 (by omega), Nat.le_trans h.l1 (by omega), Nat.le_trans h.c (by omega), by simp [DK.arm]; omega, hk0, hk1⟩
  split
  · exact (h.offs _).mono (by omega) (by omega)
  split
  · exact ⟨Nat.le_trans h.l0 (by omega), Nat.le_trans h.l1 (by omega), Nat.le_trans h.c (by omega), h.a, h.k0, h.k1⟩
  · exact h.mono (by omega) (by omega)
theorem DK.fit.new (a b : List Int) {M : Nat} (ha : a.length ≤ M) (hb : b.length ≤ M) : (DK.new a b).fit M 0 :=
  ⟨by simpa [DK.new, FL.all] using ha, by simpa [DK.new, FL.all] using hb, Nat.le_refl _, by simp [DK.new], by simp [DK.new], by simp [DK.new]⟩
end Go.Proofs.Ytgocfkjibcokjaa.Dk
