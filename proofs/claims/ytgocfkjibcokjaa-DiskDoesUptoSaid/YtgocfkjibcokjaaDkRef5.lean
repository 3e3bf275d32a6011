/- The document's disk: Truncate. -/
import Derived.Test.YtgocfkjibcokjaaDkRef4
namespace Go.Proofs.Ytgocfkjibcokjaa.Pk
open Go.RowKit Go.Proofs.Ytgocfkjibcokjaa.Dk Go.Proofs.Ytgocfkjibcokjaa.Ar
set_option linter.unusedVariables false

def cutA (a : Option Addr) (c k : Nat) : Option Addr := if c = k then a else a.map (·.add k)
theorem run_cut2 {P : Program} {t e : TypeId} (ht : P.underlying t = some (.slice e)) (hi : (P.info? e).map (·.size) = some 1) (a : Option Addr) (n c i j : Nat) (h1 : i ≤ j) (h2 : j ≤ c) (w : World) :
    (Instr.slice t (.slice a n c) (some (.int .i64 (i : Int))) (some (.int .i64 (j : Int))) none).run P w = .ok (.slice (cutA a c i) (j - i) (c - i)) w := by
  obtain ⟨f, hi1, hi2⟩ := Option.map_eq_some_iff.1 hi
  have e1 : (0 : Int) ≤ (i : Int) := by omega
  have e2 : (i : Int) ≤ (j : Int) := by omega
  have e3 : (0 : Int) ≤ (j : Int) := by omega
  have e4 : (j : Int) ≤ (c : Int) := by omega
  simp [Instr.slice, run_underlying ht, go_sem, Instr.sliceBounds, sizeOf, typeInfo, hi1, hi2, cutA, h1, h2]
theorem run_cut3 {P : Program} {t e : TypeId} (ht : P.underlying t = some (.slice e)) (hi : (P.info? e).map (·.size) = some 1) (a : Option Addr) (n c j : Nat) (h2 : j ≤ c) (w : World) :
    (Instr.slice t (.slice a n c) none (some (.int .i64 (j : Int))) (some (.int .i64 (j : Int)))).run P w = .ok (.slice a j j) w := by
  obtain ⟨f, hi1, hi2⟩ := Option.map_eq_some_iff.1 hi
  have e3 : (0 : Int) ≤ (j : Int) := by omega
  have e4 : (j : Int) ≤ (c : Int) := by omega
  cases a <;> simp [Instr.slice, run_underlying ht, go_sem, Instr.sliceBounds, sizeOf, typeInfo, hi1, h2, Addr.add]
theorem reads_cut {w : World} {B n c i j : Nat} {a : Option Addr} {l : List Int} (h : Reads w B 1 a n (bts l)) (h1 : i ≤ j) (h2 : j ≤ n) (h3 : n ≤ c) : Reads w B 1 (cutA a c i) (j - i) (bts ((l.take j).drop i)) := by
  have := (h.take h2).cut (k := i) (cap := c) h1 (by omega)
  unfold bts at this ⊢
  rw [Nat.mul_one, ← List.map_drop] at this
  exact this
/-- The first k bytes of what is owned, without room behind. -/
theorem RefS.cut {w : World} {B n c k : Nat} {A : Option Addr} {l : List Int} (h : OwnB w B (.slice A n c) l) (hk : k ≤ n) : RefS w (.slice A k k) (l.take k) := by
  have hl := (own_len h).1
  obtain ⟨A', c', e, hc, hr⟩ := h.reads
  injection e with e1 e2 e3
  subst e1
  rw [hl] at hr
  refine ⟨A, k, k, rfl, by rw [List.length_take]; omega, Nat.le_refl _, hr.take hk, .inr ⟨rfl, fun hA => ?_⟩⟩
  have := hr.nil hA
  omega
section
variable {w : World} {R : Nat} {d d' : DK} {v : Nat → Value}
/-- One of the slices is put in anew: one that lies in no block of the disk. -/
theorem RefV.put_free {k : Nat} {u : Value} {l : List Int} (hb : Blk w R 60 (rcs v d)) (h : RefV w R v (rl d)) (hk : k < 4) (hu : RefS w u l) (hul : ∀ g, u.ownBlock = some g → g < w.heap.size)
    (hat : ∀ g, u.ownBlock = some g → ¬ rbl R v g) (hl : ∀ j, j < 4 → rl d' j = upd (rl d) k l j) (hn : d'.on = d.on ∧ d'.cnt = d.cnt ∧ d'.left = d.left ∧ d'.keep = d.keep) :
    DkR (w.setCell ⟨R, k, none⟩ u) R d' (rbl R (upd v k u)) ∧ Turned (rbl R v) w (w.setCell ⟨R, k, none⟩ u) ∧ ∀ b, rbl R (upd v k u) b → rbl R v b ∨ u.ownBlock = some b := by
  have hset : ∀ (g : Nat), g ≠ R → (w.setCell ⟨R, k, none⟩ u).heap[g]? = w.heap[g]? := fun g hne => Below.heap_setCell w ⟨R, k, none⟩ u g hne
  have hur : ∀ g, u.ownBlock = some g → g ≠ R := fun g e e2 => hat g e (.inl e2)
  refine ⟨⟨upd v k u, ?_, ⟨?_, ?_, ?_, ?_⟩, rfl⟩, (Turned.refl _ _).set (.inl rfl) _, ?_⟩
  · have h1 := hb.set_ k u
    have e : rcs (upd v k u) d' = (rcs v d).setIfInBounds k u := by
      unfold rcs
      rw [hn.1, hn.2.1, hn.2.2.1, hn.2.2.2]
      have : k = 0 ∨ k = 1 ∨ k = 2 ∨ k = 3 := by omega
      rcases this with rfl | rfl | rfl | rfl <;> rfl
    rw [e]; exact h1
  · intro j hj
    rw [hl j hj]
    unfold upd
    by_cases hjk : j = k
    · rw [if_pos hjk, if_pos hjk]
      exact hu.stay (by simp [World.setCell]) fun g e _ => hset g (hur g e)
    · rw [if_neg hjk, if_neg hjk]
      exact (h.rd j hj).stay (by simp [World.setCell]) fun g e hlt => hset g (fun e2 => h.ne j hj (e2 ▸ e))
  · intro j g hj e
    have hsz : (w.setCell ⟨R, k, none⟩ u).heap.size = w.heap.size := by simp [World.setCell]
    rw [hsz]
    unfold upd at e
    by_cases hjk : j = k
    · rw [if_pos hjk] at e; exact hul g e
    · rw [if_neg hjk] at e; exact h.lt j g hj e
  · intro i j g hi hj hij ei ej
    unfold upd at ei ej
    by_cases h1 : i = k
    · rw [if_pos h1] at ei
      rw [if_neg (by omega)] at ej
      exact hat g ei (.inr ⟨j, hj, ej⟩)
    · rw [if_neg h1] at ei
      by_cases h3 : j = k
      · rw [if_pos h3] at ej
        exact hat g ej (.inr ⟨i, hi, ei⟩)
      · rw [if_neg h3] at ej
        exact h.ap i j g hi hj hij ei ej
  · intro j hj e
    unfold upd at e
    by_cases h1 : j = k
    · rw [if_pos h1] at e; exact hur R e rfl
    · rw [if_neg h1] at e; exact h.ne j hj e
  · rintro g (rfl | ⟨j, hj, e⟩)
    · exact .inl (.inl rfl)
    · unfold upd at e
      by_cases h1 : j = k
      · rw [if_pos h1] at e; exact .inr e
      · rw [if_neg h1] at e; exact .inl (.inr ⟨j, hj, e⟩)
end
theorem noT_out {d : DK} {f n : Int} (hf : ¬ (f = 0 ∨ f = 1)) : d.noT f n = 1 := by unfold DK.noT DK.no; rw [if_neg (fun h => hf h.1), if_neg hf]
theorem noT_bad {d : DK} {f n : Int} (hf : f = 0 ∨ f = 1) (hn : n < 0 ∨ ((d.get f).all.length : Int) < n) : d.noT f n = 1 := by unfold DK.noT; rw [if_pos ⟨hf, hn⟩]
theorem noT_ok {d : DK} {f : Int} {k : Nat} (hf : f = 0 ∨ f = 1) (hn : k ≤ (d.get f).all.length) : d.noT f (k : Int) = if d.on = true then 0 else 40 := by
  unfold DK.noT DK.no
  rw [if_neg (fun h => by have := h.2; omega), if_pos hf]
/-- What a Truncate that goes on leaves of the file. -/
theorem tru_ok {d : DK} {f : Int} {k : Nat} (hf : f = 0 ∨ f = 1) (hn : k ≤ (d.get f).all.length) (ho : d.on = true) (h1 : ¬ d.left = 1) :
    d.tru f (k : Int) = d.count.put f ⟨(d.get f).s.take k, (d.get f).w.take (k - (d.get f).s.length)⟩ ∧ d.truE f (k : Int) = 0 := by
  have h0 := noT_ok (d := d) hf hn
  rw [if_pos ho] at h0
  unfold DK.tru DK.truE DK.raw DK.rawE
  rw [h0, if_pos rfl, if_neg h1, if_neg h1, if_pos rfl, if_neg h1]
  exact ⟨rfl, rfl⟩
theorem tru_off {d : DK} {f : Int} {k : Nat} (hf : f = 0 ∨ f = 1) (hn : k ≤ (d.get f).all.length) (ho : d.on = true) (h1 : d.left = 1) :
    d.tru f (k : Int) = d.count.offs d.keep ∧ d.truE f (k : Int) = 40 := by
  have h0 := noT_ok (d := d) hf hn
  rw [if_pos ho] at h0
  unfold DK.tru DK.truE DK.raw DK.rawE
  rw [h0, if_pos rfl, if_pos h1, if_pos h1, if_pos rfl, if_pos h1]
  exact ⟨rfl, rfl⟩
theorem tru_same {d : DK} {f n : Int} {e : Int} (h : d.noT f n = e) (he : e ≠ 0) : d.tru f n = d ∧ d.truE f n = e := by
  unfold DK.tru DK.truE
  rw [h, if_neg he, if_neg he]
  exact ⟨rfl, rfl⟩
theorem AftR.via {R : Nat} {d : DK} {S : Nat → Prop} {w w1 : World} {v : Value} (h : DkR w R d S) (hb : Below w.heap.size w w1) : AftR R d S w v (.returned v) w1 :=
  ⟨rfl, S, h.next hb, Turned.of hb (Nat.le_refl _) S, From.refl _ _⟩

set_option maxHeartbeats 6400000 in
theorem trunc_ref (R : Nat) (f n : Int) (d : DK) (S : Nat → Prop) (w : World) (h : DkR w R d S) (M m : Nat) (hfit : d.fit M m) (hM : M ≤ 140737488355328) (hm : m ≤ 4611686018427387904) :
    Calls Try.prog 51 #[.pointer (some ⟨R, 0, none⟩), .int .i64 f, .int .i64 n] w (AftR R (d.tru f n) S w (.int .i64 (d.truE f n))) := by
  by_cases hf : f = 0 ∨ f = 1
  rotate_left
  · have tn0 : (f != 0) = true := by simp only [bne_iff_ne]; exact fun e => hf (.inl e)
    have tn1 : (f != 1) = true := by simp only [bne_iff_ne]; exact fun e => hf (.inr e)
    have HD := Lib.hid (tru_same (noT_out (d := d) (n := n) hf) (by omega))
    have H := Lib.hid h
    clear h hf
    go_enter Try.func51, Try.ntmps51
    go_wp2
    go_ret
    rw [HD.out.1, HD.out.2]
    exact AftR.same H.out
  have hla : d.f0.all.length ≤ 140737488355328 := Nat.le_trans hfit.l0 hM
  have hlb : d.f1.all.length ≤ 140737488355328 := Nat.le_trans hfit.l1 hM
  have HA := Lib.hid (all_ref R f hf d S w h hla hlb)
  have H := Lib.hid h
  have HFit := Lib.hid hfit
  have HF := Lib.hid hf
  have hlg : (d.get f).all.length ≤ 140737488355328 := Nat.le_trans (hfit.get f) hM
  have HLG := Lib.hid (And.intro hla hlb)
  have tf : ((f != 0) && (f != 1)) = false := by rcases hf with rfl | rfl <;> rfl
  by_cases hlow : n < 0
  · have HD := Lib.hid (tru_same (noT_bad (d := d) (n := n) hf (.inl hlow)) (by omega))
    clear h hfit hla hlb
    rcases hf with rfl | rfl
    all_goals
      go_enter Try.func51, Try.ntmps51
      go_wp2_with fail
      refine HA.out.mono ?_
      rintro e w1 ⟨A1, n1, c1, rfl, ho1, hb1⟩
      have HB1 := Lib.hid hb1
      clear ho1 hb1
      go_wp2
      go_ret
      rw [HD.out.1, HD.out.2]
      exact AftR.via H.out HB1.out
  obtain ⟨k, rfl⟩ := Int.eq_ofNat_of_zero_le (show 0 ≤ n by omega)
  by_cases hhi : (d.get f).all.length < k
  · have HD := Lib.hid (tru_same (noT_bad (d := d) (n := (k : Int)) hf (.inr (by omega))) (by omega))
    have HHi := Lib.hid hhi
    clear h hfit hla hlb hhi
    rcases hf with rfl | rfl
    all_goals
      go_enter Try.func51, Try.ntmps51
      go_wp2_with fail
      refine HA.out.mono ?_
      rintro e w1 ⟨A1, n1, c1, rfl, ho1, hb1⟩
      have HB1 := Lib.hid hb1
      have hn1 : n1 < k := by have := (own_len ho1).1; have := HHi.out; omega
      have tg : decide ((n1 : Int) < (k : Int)) = true := decide_eq_true (by omega)
      clear ho1 hb1
      go_wp2
      go_ret
      rw [HD.out.1, HD.out.2]
      exact AftR.via H.out HB1.out
  have hle : k ≤ (d.get f).all.length := by omega
  have HLe := Lib.hid hle
  clear hhi
  by_cases hon : d.on = true
  rotate_left
  · have HD := Lib.hid (tru_same (by rw [noT_ok hf hle, if_neg hon] : d.noT f (k : Int) = 40) (by omega))
    have c4 : w.cell? ⟨R, 4, none⟩ = some (.bool false) := by
      obtain ⟨v, hbk, hv, rfl⟩ := h
      rw [hbk.cell]
      have : d.on = false := by simpa using hon
      show some (Value.bool d.on) = _
      rw [this]
    have hRlt : R < w.heap.size := by obtain ⟨v, hbk, hv, rfl⟩ := h; exact hbk.lt
    clear h hfit hla hlb hle hon
    rcases hf with rfl | rfl
    all_goals
      go_enter Try.func51, Try.ntmps51
      go_wp2_with fail
      refine HA.out.mono ?_
      rintro e w1 ⟨A1, n1, c1, rfl, ho1, hb1⟩
      have HB1 := Lib.hid hb1
      have hn1 : ¬ n1 < k := by have := (own_len ho1).1; have := HLe.out; omega
      have tg : decide ((n1 : Int) < (k : Int)) = false := decide_eq_false (by omega)
      have c5 : w1.cell? ⟨R, 4, none⟩ = some (.bool false) := (hb1.cell (p := ⟨R, 4, none⟩) hRlt).trans c4
      clear ho1 hb1 c4
      go_wp2
      go_ret
      rw [HD.out.1, HD.out.2]
      exact AftR.via H.out HB1.out
  have HOn := Lib.hid hon
  by_cases h1 : d.left = 1
  · have HD := Lib.hid (tru_off hf hle hon h1)
    have c4 : w.cell? ⟨R, 4, none⟩ = some (.bool true) := by
      obtain ⟨v, hbk, hv, rfl⟩ := h
      rw [hbk.cell]
      show some (Value.bool d.on) = _
      rw [hon]
    have hRlt : R < w.heap.size := by obtain ⟨v, hbk, hv, rfl⟩ := h; exact hbk.lt
    have HL1 := Lib.hid h1
    clear h hfit hla hlb hle hon h1
    rcases hf with rfl | rfl
    all_goals
      go_enter Try.func51, Try.ntmps51
      go_wp2_with fail
      refine HA.out.mono ?_
      rintro e w1 ⟨A1, n1, c1, rfl, ho1, hb1⟩
      have HB1 := Lib.hid hb1
      have hn1 : ¬ n1 < k := by have := (own_len ho1).1; have := HLe.out; omega
      have tg : decide ((n1 : Int) < (k : Int)) = false := decide_eq_false (by omega)
      have c5 : w1.cell? ⟨R, 4, none⟩ = some (.bool true) := (hb1.cell (p := ⟨R, 4, none⟩) hRlt).trans c4
      have H1 := Lib.hid (H.out.next hb1)
      clear ho1 hb1 c4
      go_wp2_with fail
      refine (raw_ref R d S w1 H1.out (Nat.le_trans HFit.out.c hm) HFit.out.a).mono ?_
      rintro e w2 ⟨rfl, S2, h2, t2, g2⟩
      have H2 := Lib.hid h2
      have T2 := Lib.hid t2
      have G2 := Lib.hid g2
      have td : decide (d.left = 1) = true := decide_eq_true HL1.out
      have c7 : w2.cell? ⟨R, 7, none⟩ = some (.int .i64 d.keep) := by obtain ⟨v, hbk, hv, _⟩ := h2; rw [hbk.cell]; rfl
      clear h2 t2 g2
      go_wp2_with fail
      refine (off_ref R d.keep d.count S2 w2 H2.out HLG.out.1 HLG.out.2).mono ?_
      rintro e w3 ⟨rfl, S3, h3, t3, g3⟩
      have H3 := Lib.hid h3
      have T3 := Lib.hid (T2.out.also G2.out t3)
      have G3 := Lib.hid (G2.out.trans g3 T2.out.size)
      clear h3 t3 g3
      go_wp2
      go_ret
      rw [HD.out.1, HD.out.2]
      exact ⟨rfl, S3, H3.out, (Turned.of HB1.out (Nat.le_refl _) S).trans T3.out (fun _ _ h => h), G3.out.back HB1.out.size⟩
  have HD := Lib.hid (tru_ok hf hle hon h1)
  have c4 : w.cell? ⟨R, 4, none⟩ = some (.bool true) := by
    obtain ⟨v, hbk, hv, rfl⟩ := h
    rw [hbk.cell]
    show some (Value.bool d.on) = _
    rw [hon]
  have hRlt : R < w.heap.size := by obtain ⟨v, hbk, hv, rfl⟩ := h; exact hbk.lt
  have HL1 := Lib.hid h1
  clear h hfit hla hlb hle hon h1
  rcases hf with rfl | rfl
  · go_enter Try.func51, Try.ntmps51
    go_wp2_with fail
    refine HA.out.mono ?_
    rintro e w1 ⟨A1, n1, c1, rfl, ho1, hb1⟩
    have HB1 := Lib.hid hb1
    have hn1 : ¬ n1 < k := by have := (own_len ho1).1; have := HLe.out; omega
    have HN1 : Hid (d.f0.all.length = n1 ∧ n1 ≤ c1) := Lib.hid (own_len ho1)
    have tg : decide ((n1 : Int) < (k : Int)) = false := decide_eq_false (by omega)
    have c5 : w1.cell? ⟨R, 4, none⟩ = some (.bool true) := (hb1.cell (p := ⟨R, 4, none⟩) hRlt).trans c4
    have H1 := Lib.hid (H.out.next hb1)
    have HO1 := Lib.hid ho1
    clear ho1 hb1 c4
    go_wp2_with fail
    refine (raw_ref R d S w1 H1.out (Nat.le_trans HFit.out.c hm) HFit.out.a).mono ?_
    rintro e w2 ⟨rfl, S2, h2, t2, g2⟩
    have td : decide (d.left = 1) = false := decide_eq_false HL1.out
    have HFr : Hid (∀ g, (Value.slice A1 n1 c1).ownBlock = some g → ¬ S2 g) := Lib.hid (fun g e hs => by
      have hg := HO1.out.base g e
      have hg2 := HO1.out.lt g e
      rcases g2 g hs with h3 | h3
      · have := H.out.lt g h3; omega
      · omega)
    have HO2 : Hid (OwnB w2 w.heap.size (.slice A1 n1 c1) d.f0.all) := Lib.hid (HO1.out.stay fun g e => t2.block g (HO1.out.lt g e) (fun hs => by
      have hg := HO1.out.base g e
      have := H1.out.lt g hs
      have := H.out.lt g hs
      omega))
    have H2 := Lib.hid h2
    have T2 := Lib.hid t2
    have G2 := Lib.hid g2
    obtain ⟨v, hbk, hv, hS⟩ := h2
    subst hS
    have HB := Lib.hid hbk
    have HV := Lib.hid hv
    obtain ⟨As, ns, cs, es, hls, hcs, hrs, _⟩ := hv.rd 0 (by omega)
    replace hls : d.f0.s.length = ns := hls
    have HLs := Lib.hid hls
    have x1 : w2.cell? ⟨R, 0, none⟩ = some (.slice As ns cs) := by rw [hbk.cell, ← es]; rfl
    have y1 : w2.frozen? ⟨R, 0, none⟩ = false := hbk.frozen 0
    have x2 : w2.cell? ⟨R, 2, none⟩ = some (v 2) := by rw [hbk.cell]; rfl
    have y2 : w2.frozen? ⟨R, 2, none⟩ = false := hbk.frozen 2
    have hns : ns ≤ n1 := by have := HN1.out.1; rw [FL.all_len] at this; omega
    have hn2 : n1 ≤ 140737488355328 := by have := HN1.out.1; have := HLG.out.1; omega
    have hnc : n1 ≤ c1 := HN1.out.2
    have hkn : k ≤ n1 := by omega
    clear t2 g2 hbk hv hls hcs hrs es
    by_cases hks : k ≤ ns
    · have kc : ∀ u : World, (Instr.slice 46 (.slice A1 n1 c1) none (some (.int .i64 (k : Int))) (some (.int .i64 (k : Int)))).run Try.prog u = .ok (.slice A1 k k) u := fun u => run_cut3 Try.underlying46 (by kernel_rfl) A1 n1 c1 k (by omega) u
      have P := RefV.put_free (k := 0) (d' := ({ d.count with f0 := ⟨d.f0.all.take k, d.f0.w⟩ } : DK)) HB.out HV.out (by omega) (RefS.cut HO2.out hkn) (fun g e => HO2.out.lt g (by rw [← own_any A1 k k n1 c1]; exact e)) (fun g e => HFr.out g (by rw [← own_any A1 k k n1 c1]; exact e)) (four rfl rfl rfl rfl) ⟨rfl, rfl, rfl, rfl⟩
      have HP := Lib.hid P
      have HP13 := P.1
      obtain ⟨v3, hbk3, hv3, hS3⟩ := HP13
      have P2 := RefV.put (k := 2) (w1 := w2.setCell ⟨R, 0, none⟩ (.slice A1 k k)) (u := .slice none 0 0) (l := []) (d' := ({ d.count with f0 := ⟨d.f0.all.take k, []⟩ } : DK)) hbk3 hv3 (by omega) (grown_of_below (Below.refl _ _) _) (RefS.nil_ _) (fun g e => by simp [Value.ownBlock] at e) (fun g e => by simp [Value.ownBlock] at e) (four rfl rfl rfl rfl) ⟨rfl, rfl, rfl, rfl⟩
      rw [← hS3] at P2
      have HP2 := Lib.hid P2
      have HEq : Hid (DK.put d.count 0 ⟨d.f0.s.take k, d.f0.w.take (k - d.f0.s.length)⟩ = ({ d.count with f0 := ⟨d.f0.all.take k, []⟩ } : DK)) := Lib.hid (by
        have e1 : d.f0.all.take k = d.f0.s.take k := by
          unfold FL.all
          rw [List.take_append, HLs.out, Nat.sub_eq_zero_of_le hks, List.take_zero, List.append_nil]
        rw [HLs.out, Nat.sub_eq_zero_of_le hks, List.take_zero, e1]
        rfl)
      have hks' : (k : Int) ≤ (ns : Int) := by omega
      clear P P2 hbk3 hv3 hS3
      go_wp2_with fail
      go_region
      go_wp2
      go_ret
      rw [HD.out.1, HD.out.2]
      rw [show d.count.put 0 { s := List.take k (d.get 0).s, w := List.take (k - (d.get 0).s.length) (d.get 0).w } = _ from HEq.out]
      refine ⟨rfl, _, HP2.out.1.drewN 1, ((Turned.of HB1.out (Nat.le_refl _) S).trans ((T2.out.set H.out.self _).set H.out.self _).drew (fun _ _ h => h)), fun b hb => ?_⟩
      rcases HP2.out.2.2 b hb with h1 | h1
      · rcases HP.out.2.2 b h1 with h2 | h2
        · exact G2.out.back HB1.out.size b h2
        · exact .inr (HO1.out.base b (by rw [← own_any A1 k k n1 c1]; exact h2))
      · have h3 := T2.out.size
        have h4 := HB1.out.size
        simp [World.setCell] at h1
        right; omega
    · have hks' : ¬ (k : Int) ≤ (ns : Int) := by omega
      obtain ⟨L, hL⟩ : ∃ L, L = (d.f0.all.take k).drop ns := ⟨_, rfl⟩
      have HRd : Hid (Reads w2 w2.heap.size 1 (cutA A1 c1 ns) (k - ns) (bts L)) := Lib.hid (by
        obtain ⟨A', c', e, hc, hr⟩ := HO2.out.reads
        injection e with e1 e2 e3
        subst e1
        rw [HN1.out.1] at hr
        rw [hL]
        exact reads_cut hr (by omega) hkn hnc)
      have HEq : Hid (DK.put d.count 0 ⟨d.f0.s.take k, d.f0.w.take (k - d.f0.s.length)⟩ = ({ d.count with f0 := ⟨d.f0.s, L⟩ } : DK)) := Lib.hid (by
        have e1 : d.f0.s.take k = d.f0.s := List.take_of_length_le (by rw [HLs.out]; omega)
        have e2 : L = d.f0.w.take (k - d.f0.s.length) := by
          rw [hL]
          unfold FL.all
          rw [List.take_append, e1, ← HLs.out, List.drop_left]
        rw [e1, e2]
        rfl)
      have kc : ∀ u : World, (Instr.slice 46 (.slice A1 n1 c1) (some (.int .i64 (ns : Int))) (some (.int .i64 (k : Int))) none).run Try.prog u = .ok (.slice (cutA A1 c1 ns) (k - ns) (c1 - ns)) u := fun u => run_cut2 Try.underlying46 (by kernel_rfl) A1 n1 c1 ns k (by omega) (by omega) u
      clear hL
      go_wp2_with fail
      go_region_law (refine stepE _ w2.heap.size rfl (.tmp 65) (.tmp 69) rfl rfl (OwnB.fresh _ _ (Nat.le_refl _)) w2.heap.size (cutA A1 c1 ns) (c1 - ns) L (k - ns) rfl (HRd.out.alloc (Nat.le_refl _) _) (by omega) (by simp) ?_; intro A10 n10 c10 w10 hown10 hb10; have hb10' : Below w2.heap.size w2 w10 := (below_drew_alloc w2 _).trans hb10; have z2 : w10.cell? ⟨R, 2, none⟩ = some (v 2) := (hb10'.cell (p := ⟨R, 2, none⟩) HB.out.lt).trans x2; have zf : w10.frozen? ⟨R, 2, none⟩ = false := (HB.out.below hb10' HB.out.lt).frozen 2; have HW10 := Lib.hid hown10; have HB10 := Lib.hid hb10'; clear hown10 hb10 hb10')
      all_goals
        have P := RefV.put (k := 2) (w1 := w10) (d' := ({ d.count with f0 := ⟨d.f0.s, L⟩ } : DK)) HB.out HV.out (by omega) (grown_of_below HB10.out _) (RefS.own HW10.out) HW10.out.lt (fun g e => .inr (HW10.out.base g e)) (four rfl rfl rfl rfl) ⟨rfl, rfl, rfl, rfl⟩
        have HP := Lib.hid P
        clear P
        go_wp2
        go_ret
        rw [HD.out.1, HD.out.2]
        rw [show d.count.put 0 { s := List.take k (d.get 0).s, w := List.take (k - (d.get 0).s.length) (d.get 0).w } = _ from HEq.out]
        exact ⟨rfl, _, HP.out.1, (Turned.of HB1.out (Nat.le_refl _) S).trans (T2.out.also G2.out HP.out.2.1) (fun _ _ h => h), (G2.out.trans HP.out.2.2 T2.out.size).back HB1.out.size⟩
  · go_enter Try.func51, Try.ntmps51
    go_wp2_with fail
    refine HA.out.mono ?_
    rintro e w1 ⟨A1, n1, c1, rfl, ho1, hb1⟩
    have HB1 := Lib.hid hb1
    have hn1 : ¬ n1 < k := by have := (own_len ho1).1; have := HLe.out; omega
    have HN1 : Hid (d.f1.all.length = n1 ∧ n1 ≤ c1) := Lib.hid (own_len ho1)
    have tg : decide ((n1 : Int) < (k : Int)) = false := decide_eq_false (by omega)
    have c5 : w1.cell? ⟨R, 4, none⟩ = some (.bool true) := (hb1.cell (p := ⟨R, 4, none⟩) hRlt).trans c4
    have H1 := Lib.hid (H.out.next hb1)
    have HO1 := Lib.hid ho1
    clear ho1 hb1 c4
    go_wp2_with fail
    refine (raw_ref R d S w1 H1.out (Nat.le_trans HFit.out.c hm) HFit.out.a).mono ?_
    rintro e w2 ⟨rfl, S2, h2, t2, g2⟩
    have td : decide (d.left = 1) = false := decide_eq_false HL1.out
    have HFr : Hid (∀ g, (Value.slice A1 n1 c1).ownBlock = some g → ¬ S2 g) := Lib.hid (fun g e hs => by
      have hg := HO1.out.base g e
      have hg2 := HO1.out.lt g e
      rcases g2 g hs with h3 | h3
      · have := H.out.lt g h3; omega
      · omega)
    have HO2 : Hid (OwnB w2 w.heap.size (.slice A1 n1 c1) d.f1.all) := Lib.hid (HO1.out.stay fun g e => t2.block g (HO1.out.lt g e) (fun hs => by
      have hg := HO1.out.base g e
      have := H1.out.lt g hs
      have := H.out.lt g hs
      omega))
    have H2 := Lib.hid h2
    have T2 := Lib.hid t2
    have G2 := Lib.hid g2
    obtain ⟨v, hbk, hv, hS⟩ := h2
    subst hS
    have HB := Lib.hid hbk
    have HV := Lib.hid hv
    obtain ⟨As, ns, cs, es, hls, hcs, hrs, _⟩ := hv.rd 1 (by omega)
    replace hls : d.f1.s.length = ns := hls
    have HLs := Lib.hid hls
    have x1 : w2.cell? ⟨R, 1, none⟩ = some (.slice As ns cs) := by rw [hbk.cell, ← es]; rfl
    have y1 : w2.frozen? ⟨R, 1, none⟩ = false := hbk.frozen 1
    have x2 : w2.cell? ⟨R, 3, none⟩ = some (v 3) := by rw [hbk.cell]; rfl
    have y2 : w2.frozen? ⟨R, 3, none⟩ = false := hbk.frozen 3
    have hns : ns ≤ n1 := by have := HN1.out.1; rw [FL.all_len] at this; omega
    have hn2 : n1 ≤ 140737488355328 := by have := HN1.out.1; have := HLG.out.2; omega
    have hnc : n1 ≤ c1 := HN1.out.2
    have hkn : k ≤ n1 := by omega
    clear t2 g2 hbk hv hls hcs hrs es
    by_cases hks : k ≤ ns
    · have kc : ∀ u : World, (Instr.slice 46 (.slice A1 n1 c1) none (some (.int .i64 (k : Int))) (some (.int .i64 (k : Int)))).run Try.prog u = .ok (.slice A1 k k) u := fun u => run_cut3 Try.underlying46 (by kernel_rfl) A1 n1 c1 k (by omega) u
      have P := RefV.put_free (k := 1) (d' := ({ d.count with f1 := ⟨d.f1.all.take k, d.f1.w⟩ } : DK)) HB.out HV.out (by omega) (RefS.cut HO2.out hkn) (fun g e => HO2.out.lt g (by rw [← own_any A1 k k n1 c1]; exact e)) (fun g e => HFr.out g (by rw [← own_any A1 k k n1 c1]; exact e)) (four rfl rfl rfl rfl) ⟨rfl, rfl, rfl, rfl⟩
      have HP := Lib.hid P
      have HP13 := P.1
      obtain ⟨v3, hbk3, hv3, hS3⟩ := HP13
      have P2 := RefV.put (k := 3) (w1 := w2.setCell ⟨R, 1, none⟩ (.slice A1 k k)) (u := .slice none 0 0) (l := []) (d' := ({ d.count with f1 := ⟨d.f1.all.take k, []⟩ } : DK)) hbk3 hv3 (by omega) (grown_of_below (Below.refl _ _) _) (RefS.nil_ _) (fun g e => by simp [Value.ownBlock] at e) (fun g e => by simp [Value.ownBlock] at e) (four rfl rfl rfl rfl) ⟨rfl, rfl, rfl, rfl⟩
      rw [← hS3] at P2
      have HP2 := Lib.hid P2
      have HEq : Hid (DK.put d.count 1 ⟨d.f1.s.take k, d.f1.w.take (k - d.f1.s.length)⟩ = ({ d.count with f1 := ⟨d.f1.all.take k, []⟩ } : DK)) := Lib.hid (by
        have e1 : d.f1.all.take k = d.f1.s.take k := by
          unfold FL.all
          rw [List.take_append, HLs.out, Nat.sub_eq_zero_of_le hks, List.take_zero, List.append_nil]
        rw [HLs.out, Nat.sub_eq_zero_of_le hks, List.take_zero, e1]
        rfl)
      have hks' : (k : Int) ≤ (ns : Int) := by omega
      clear P P2 hbk3 hv3 hS3
      go_wp2_with fail
      go_region
      go_wp2
      go_ret
      rw [HD.out.1, HD.out.2]
      rw [show d.count.put 1 { s := List.take k (d.get 1).s, w := List.take (k - (d.get 1).s.length) (d.get 1).w } = _ from HEq.out]
      refine ⟨rfl, _, HP2.out.1.drewN 1, ((Turned.of HB1.out (Nat.le_refl _) S).trans ((T2.out.set H.out.self _).set H.out.self _).drew (fun _ _ h => h)), fun b hb => ?_⟩
      rcases HP2.out.2.2 b hb with h1 | h1
      · rcases HP.out.2.2 b h1 with h2 | h2
        · exact G2.out.back HB1.out.size b h2
        · exact .inr (HO1.out.base b (by rw [← own_any A1 k k n1 c1]; exact h2))
      · have h3 := T2.out.size
        have h4 := HB1.out.size
        simp [World.setCell] at h1
        right; omega
    · have hks' : ¬ (k : Int) ≤ (ns : Int) := by omega
      obtain ⟨L, hL⟩ : ∃ L, L = (d.f1.all.take k).drop ns := ⟨_, rfl⟩
      have HRd : Hid (Reads w2 w2.heap.size 1 (cutA A1 c1 ns) (k - ns) (bts L)) := Lib.hid (by
        obtain ⟨A', c', e, hc, hr⟩ := HO2.out.reads
        injection e with e1 e2 e3
        subst e1
        rw [HN1.out.1] at hr
        rw [hL]
        exact reads_cut hr (by omega) hkn hnc)
      have HEq : Hid (DK.put d.count 1 ⟨d.f1.s.take k, d.f1.w.take (k - d.f1.s.length)⟩ = ({ d.count with f1 := ⟨d.f1.s, L⟩ } : DK)) := Lib.hid (by
        have e1 : d.f1.s.take k = d.f1.s := List.take_of_length_le (by rw [HLs.out]; omega)
        have e2 : L = d.f1.w.take (k - d.f1.s.length) := by
          rw [hL]
          unfold FL.all
          rw [List.take_append, e1, ← HLs.out, List.drop_left]
        rw [e1, e2]
        rfl)
      have kc : ∀ u : World, (Instr.slice 46 (.slice A1 n1 c1) (some (.int .i64 (ns : Int))) (some (.int .i64 (k : Int))) none).run Try.prog u = .ok (.slice (cutA A1 c1 ns) (k - ns) (c1 - ns)) u := fun u => run_cut2 Try.underlying46 (by kernel_rfl) A1 n1 c1 ns k (by omega) (by omega) u
      clear hL
      go_wp2_with fail
      go_region_law (refine stepE _ w2.heap.size rfl (.tmp 65) (.tmp 69) rfl rfl (OwnB.fresh _ _ (Nat.le_refl _)) w2.heap.size (cutA A1 c1 ns) (c1 - ns) L (k - ns) rfl (HRd.out.alloc (Nat.le_refl _) _) (by omega) (by simp) ?_; intro A10 n10 c10 w10 hown10 hb10; have hb10' : Below w2.heap.size w2 w10 := (below_drew_alloc w2 _).trans hb10; have z2 : w10.cell? ⟨R, 3, none⟩ = some (v 3) := (hb10'.cell (p := ⟨R, 3, none⟩) HB.out.lt).trans x2; have zf : w10.frozen? ⟨R, 3, none⟩ = false := (HB.out.below hb10' HB.out.lt).frozen 3; have HW10 := Lib.hid hown10; have HB10 := Lib.hid hb10'; clear hown10 hb10 hb10')
      all_goals
        have P := RefV.put (k := 3) (w1 := w10) (d' := ({ d.count with f1 := ⟨d.f1.s, L⟩ } : DK)) HB.out HV.out (by omega) (grown_of_below HB10.out _) (RefS.own HW10.out) HW10.out.lt (fun g e => .inr (HW10.out.base g e)) (four rfl rfl rfl rfl) ⟨rfl, rfl, rfl, rfl⟩
        have HP := Lib.hid P
        clear P
        go_wp2
        go_ret
        rw [HD.out.1, HD.out.2]
        rw [show d.count.put 1 { s := List.take k (d.get 1).s, w := List.take (k - (d.get 1).s.length) (d.get 1).w } = _ from HEq.out]
        exact ⟨rfl, _, HP.out.1, (Turned.of HB1.out (Nat.le_refl _) S).trans (T2.out.also G2.out HP.out.2.1) (fun _ _ h => h), (G2.out.trans HP.out.2.2 T2.out.size).back HB1.out.size⟩
end Go.Proofs.Ytgocfkjibcokjaa.Pk
