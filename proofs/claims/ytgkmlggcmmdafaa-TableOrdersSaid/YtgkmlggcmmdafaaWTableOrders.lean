/- The walk of the law TableOrders, from a table's promises. -/
import Derived.Test.YtgkmlggcmmdafaaTabBox
import Derived.Test.YtgkmlggcmmdafaaTabBack
import Derived.Test.YtgkmlggcmmdafaaTabNil
import Derived.Deep.RegionHeld3
import Derived.Deep.DeepMust
namespace Go.Proofs.Ytgkmlggcmmdafaa.Pk
open Go.RowKit Go.Shelf Go.Proofs.Ytgkmlggcmmdafaa.Tb Go.Proofs.Ytgkmlggcmmdafaa.Ar
set_option linter.unusedVariables false
attribute [local go_sem] Oper.semAt_some

/-- Where a script's loop stands, the table's address in the box g, the result in the box r. -/
def AtTab (Tb : World → Nat → List Rw → (Nat → Prop) → (Nat → Prop) → Prop) (T g r : Nat) (i : Nat) (w wr : World) : Prop :=
  ∃ l S D, Blk wr g 24 #[.pointer (some ⟨T, 0, none⟩)] ∧ Blk wr r 4 #[.bool false] ∧ Tb wr T l S D ∧ l.length ≤ i ∧ Below w.heap.size w wr ∧ (∀ b, D b → w.heap.size ≤ b ∧ b ≠ g ∧ b ≠ r)

theorem own_turned {β : Type} (W1 : World) (X : Nat → Prop) : OwnFrom (β := β) W1.heap.size (fun _ W => Turned X W1 W) := by
  intro s A B row h hg hr
  refine ⟨hg.os.trans h.os, hg.tape.trans h.tape, hg.output.trans h.output, Nat.le_trans h.size hg.size, fun k hk hne => ?_⟩
  refine (hg.block k (Nat.lt_of_lt_of_le hk h.size) (fun e => ?_)).trans (h.block k hk hne)
  have := (hr k e.symm).1
  omega
theorem keepsFrom_below {B : Nat} {W W' : World} (h : Below W.heap.size W W') : KeepsFrom B W W' := ⟨h.size, fun k o _ hk ho => (h.block k (by
  rcases Nat.lt_or_ge k W.heap.size with h1 | h1
  · exact h1
  · rw [Array.getElem?_eq_none h1] at hk; cases hk)).trans hk⟩
theorem Turned.set {X : Nat → Prop} {w w' : World} (h : Turned X w w') {x : Nat} (hx : X x) (u : Value) : Turned X w (w'.setCell ⟨x, 0, none⟩ u) :=
  ⟨h.os, h.tape, h.output, by simpa [World.setCell] using h.size, fun i hi hn => (Below.heap_setCell w' ⟨x, 0, none⟩ u i (by rintro rfl; exact hn hx)).trans (h.block i hi hn)⟩
theorem Turned.next {X : Nat → Prop} {w w' w2 : World} (h : Turned X w w') (hb : Below w'.heap.size w' w2) : Turned X w w2 :=
  ⟨hb.os.trans h.os, hb.tape.trans h.tape, hb.output.trans h.output, Nat.le_trans h.size hb.size, fun i hi hn => (hb.block i (Nat.lt_of_lt_of_le hi h.size)).trans (h.block i hi hn)⟩
/-- The last number of a list, 0 of none. -/
def lastK (l : List Rw) : Int := (l.getLast?.map (·.1)).getD 0
theorem lastK_snoc (l : List Rw) (x : Rw) : lastK (l ++ [x]) = x.1 := by simp [lastK]
theorem rises_at {l : List Rw} (h : Rises l) {q : Nat} {rk : Int} {rv : ByteArray} (hr : l[q]? = some (rk, rv)) : under rk l = some rv := by
  induction l generalizing q with
  | nil => simp at hr
  | cons x l ih =>
    rw [look_cons]
    cases q with
    | zero => simp at hr; subst hr; rw [if_pos rfl]
    | succ q =>
      simp at hr
      have := h.head _ (List.mem_of_getElem? hr)
      simp only at this
      rw [if_neg (by omega)]
      exact ih h.tail hr
theorem rises_last {l pre : List Rw} (h : Rises l) (hp : pre <+: l) {rk : Int} {rv : ByteArray} (hr : l[pre.length]? = some (rk, rv)) (h0 : 0 < pre.length) : lastK pre < rk := by
  obtain ⟨s, rfl⟩ := hp
  rw [List.getElem?_append_right (Nat.le_refl _), Nat.sub_self] at hr
  have hs : (rk, rv) ∈ s := List.mem_of_getElem? hr
  cases hl : pre.getLast? with
  | none => rw [List.getLast?_eq_none_iff] at hl; subst hl; simp at h0
  | some y =>
    have hy : y ∈ pre := List.mem_of_getLast? hl
    have := (List.pairwise_append.1 h).2.2 y hy _ hs
    simpa [lastK, hl] using this

set_option maxRecDepth 100000 in
set_option maxHeartbeats 8000000 in
theorem law_TableOrders {Tb : World → Nat → List Rw → (Nat → Prop) → (Nat → Prop) → Prop} (C : TableC Tb) (P : SeqP Tb) (K : SeqK Tb) (a : Option Addr) (m d : Nat) (os : List Cl) (w : World) (h : ArgC w a m d os) :
    Calls Try.prog 7 #[.slice a m d] w fun e w' => e = .returned (.bool true) ∧ Below w.heap.size w w' := by
  obtain ⟨hr, hmd, hd, hk⟩ := h
  have HC := Lib.hid C
  have HP := Lib.hid P
  have HBk := Lib.hid K
  have HR := Lib.hid hr
  have HK := Lib.hid hk
  have HM := Lib.hid hr.clen
  clear C P K hr hk
  refine (callsIn_wide (n := 9)).1 ?_
  refine callsIn_of_wp_marks Try.func7 rfl trivial ?_ rfl
  simp only [Try.ntmps7, List.size_toArray, List.length_cons, List.length_nil, Nat.reduceAdd, Nat.reduceSub, Array.replicate_succ, Array.replicate_zero, List.push_toArray, List.append_toArray, List.nil_append, List.cons_append]
  refine wpIn_wide.2 ?_
  have kr0 := Blk.new w 4 #[.bool false]
  have hb0 : Below w.heap.size w (w.alloc (.cells #[.bool false] 4)) := (Below.refl _ _).alloc (Nat.le_refl _) _
  go_wp2_with fail
  refine (wakes_any HC.out _).mono ?_
  rintro e w1 ⟨rfl, hb1⟩
  have kr1 := kr0.below hb1 (by simp)
  have hb1' := hb0.trans (hb1.mono (by simp))
  have hs1 : w.heap.size + 1 ≤ w1.heap.size := by have := hb1.size; simpa using this
  have HKR1 := Lib.hid kr1
  have HB1 := Lib.hid hb1'
  clear kr0 hb0 hb1 kr1 hb1'
  go_wp2_with fail
  refine (HC.out.new w1).mono ?_
  rintro e w2 ⟨T, S, D, rfl, h2, hb2, hD2⟩
  have hs2 := hb2.size
  have HB2 := Lib.hid (HB1.out.trans (hb2.mono (by omega)))
  have HKR2 := Lib.hid (HKR1.out.below hb2 (by omega))
  have HT2 := Lib.hid h2
  have HD2 : Hid (∀ b, D b → w.heap.size ≤ b ∧ b ≠ w2.heap.size ∧ b ≠ w.heap.size) := Lib.hid fun b hb => by
    have h3 := hD2 b hb
    have h4 := HC.out.lt h2 b hb
    exact ⟨by omega, by omega, by omega⟩
  clear hb2 h2 hD2
  go_wp2
  have hg1 : w.heap.size < w2.heap.size := by omega
  have HA0 : Hid (AtTab Tb T w2.heap.size w.heap.size 0 w (w2.alloc (.cells #[.pointer (some ⟨T, 0, none⟩)] 24))) :=
    Lib.hid ⟨[], S, D, Blk.new w2 _ _, HKR2.out.alloc _, HC.out.stay HT2.out (Stay.below ((Below.refl w2.heap.size w2).alloc (Nat.le_refl _) _) (HC.out.lt HT2.out)), Nat.le_refl _, HB2.out.alloc HB2.out.size _, HD2.out⟩
  go_loopw [5, 6, 7, 8, 9, 28] (fun _ _ _ _ _ j wr => ∃ i : Nat, j = .int .i64 i ∧ i ≤ m ∧ AtTab Tb T w2.heap.size w.heap.size i w wr) (fun _ _ _ _ _ j _ => m - (intOf j).toNat)
  case atStart => exact ⟨0, rfl, by omega, HA0.out⟩
  case round =>
    obtain ⟨i, rfl, hi, l, S3, D3, hkb, hkr, ht3, hli, hb3, hd3⟩ := hrel
    obtain ⟨w3, rfl⟩ : ∃ w3 : World, w3 = wr := ⟨_, rfl⟩
    have HKB := Lib.hid hkb
    have HKR := Lib.hid hkr
    have HT3 := Lib.hid ht3
    have HB3 := Lib.hid hb3
    have HD3 := Lib.hid hd3
    have cb : w3.cell? ⟨w2.heap.size, 0, none⟩ = some (.pointer (some ⟨T, 0, none⟩)) := by rw [hkb.cell]; rfl
    have hgl := hkb.lt
    clear hkb hkr ht3 hb3 hd3
    by_cases hlt : i < m
    · obtain ⟨b, off, rfl, hbb, hc⟩ := (HR.out.below HB3.out).calls (by omega)
      obtain ⟨r, hr⟩ : ∃ r, os[i]? = some r := ⟨_, List.getElem?_eq_getElem (by rw [HM.out]; exact hlt)⟩
      obtain ⟨x0, x1, x2⟩ := hc i r hr
      obtain ⟨kd, k, s⟩ := r
      have hkr := HK.out _ (List.mem_of_getElem? hr)
      simp only at x0 x1 x2 hkr
      have HKR' := Lib.hid hkr
      clear hc hr hkr
      have s3 := HB3.out.size
      have HB4 := Lib.hid (HB3.out.alloc s3 (.cells #[.int .i64 kd, .int .i64 k, .string s] 28))
      have HT4 := Lib.hid (HC.out.next HT3.out ((Below.refl w3.heap.size w3).alloc (Nat.le_refl _) (.cells #[.int .i64 kd, .int .i64 k, .string s] 28)))
      go_wp2_with fail
      refine (nil_any HC.out _ T l S3 D3 kd k s HT4.out HKR'.out (by omega)).mono ?_
      rintro e w5 ⟨v5, b5, S5, D5, rfl, ht5, tu5, fs5, fd5⟩
      have hSne : ∀ b, S3 b → b ≠ w2.heap.size ∧ b ≠ w.heap.size ∧ b < w3.heap.size := fun b hb => ⟨(HD3.out b (HC.out.sub HT3.out b hb)).2.1, (HD3.out b (HC.out.sub HT3.out b hb)).2.2, HC.out.lt HT3.out b (HC.out.sub HT3.out b hb)⟩
      have HKB5 := Lib.hid ((HKB.out.alloc (.cells #[.int .i64 kd, .int .i64 k, .string s] 28)).turned tu5 (fun h => (hSne _ h).1 rfl))
      have HKR5 := Lib.hid ((HKR.out.alloc (.cells #[.int .i64 kd, .int .i64 k, .string s] 28)).turned tu5 (fun h => (hSne _ h).2.1 rfl))
      have HOX := Lib.hid ((Blk.new w3 28 #[.int .i64 kd, .int .i64 k, .string s]).turned tu5 (fun h => by have := (hSne _ h).2.2; omega))
      have HT5 := Lib.hid ht5
      have HD5 := Lib.hid (from_box fd5 HD3.out (by simp; omega) (by simp; omega) (by simp; omega))
      have HB5 := Lib.hid (tu5.below HB4.out HB4.out.size (fun b hb => (HD3.out b (HC.out.sub HT3.out b hb)).1))
      have HL5 : Hid ((does kd k s l).length ≤ i + 1) := Lib.hid (by have := does_length kd k s l; omega)
      have cb5 : w5.cell? ⟨w2.heap.size, 0, none⟩ = some (.pointer (some ⟨T, 0, none⟩)) := by rw [HKB5.out.cell]; rfl
      have y0 : w5.cell? ⟨w3.heap.size, 0, none⟩ = some (.int .i64 kd) := HOX.out.cell 0
      have y1 : w5.cell? ⟨w3.heap.size, 1, none⟩ = some (.int .i64 k) := HOX.out.cell 1
      have y2 : w5.cell? ⟨w3.heap.size, 2, none⟩ = some (.string s) := HOX.out.cell 2
      have HRi := Lib.hid (HC.out.rises HT3.out)
      obtain ⟨k1, k2⟩ := HKR'.out
      clear ht5 tu5 fs5 fd5 hSne cb
      by_cases h0 : kd = 0
      · subst h0
        have hg := HC.out.qget w5 T _ S5 D5 k HT5.out (by have := HL5.out; omega)
        rw [show does 0 k s l = ins k s l from rfl, look_ins HRi.out, if_pos rfl] at hg
        simp only [Option.getD_some, Option.isSome_some] at hg
        have HG := Lib.hid hg
        clear hg
        go_wp2_with fail
        refine HG.out.mono ?_
        rintro e w6 ⟨rfl, hb6⟩
        have z0 : w6.cell? ⟨w3.heap.size, 0, none⟩ = some (.int .i64 0) := (HOX.out.below hb6 HOX.out.lt).cell 0
        have z2 : w6.cell? ⟨w3.heap.size, 2, none⟩ = some (.string s) := (HOX.out.below hb6 HOX.out.lt).cell 2
        have HFin : Hid (AtTab Tb T w2.heap.size w.heap.size (i + 1) w w6) := Lib.hid ⟨_, S5, D5, HKB5.out.below hb6 HKB5.out.lt, HKR5.out.below hb6 HKR5.out.lt, HC.out.next HT5.out hb6, HL5.out, HB5.out.trans (hb6.mono HB5.out.size), HD5.out⟩
        clear hb6 y0 y1 y2 cb5
        go_wp2
        go_roundw
        case rel => exact ⟨i + 1, by go_num, by omega, HFin.out⟩
        case measure => simp [intOf]; omega
      · have e0 : (kd == 0) = false := by simpa using h0
        by_cases h2 : kd = 2
        · subst h2
          have hg := HC.out.qget w5 T _ S5 D5 k HT5.out (by have := HL5.out; omega)
          rw [show does 2 k s l = del k l from rfl, look_del HRi.out, if_pos rfl] at hg
          simp only [Option.getD_none, Option.isSome_none] at hg
          have HG := Lib.hid hg
          clear hg h0
          go_wp2_with fail
          refine HG.out.mono ?_
          rintro e w6 ⟨rfl, hb6⟩
          have HFin : Hid (AtTab Tb T w2.heap.size w.heap.size (i + 1) w w6) := Lib.hid ⟨_, S5, D5, HKB5.out.below hb6 HKB5.out.lt, HKR5.out.below hb6 HKR5.out.lt, HC.out.next HT5.out hb6, HL5.out, HB5.out.trans (hb6.mono HB5.out.size), HD5.out⟩
          clear hb6 y0 y1 y2 cb5
          go_wp2
          go_roundw
          case rel => exact ⟨i + 1, by go_num, by omega, HFin.out⟩
          case measure => simp [intOf]; omega
        · have e2 : (kd == 2) = false := by simpa using h2
          have HFin : Hid (AtTab Tb T w2.heap.size w.heap.size (i + 1) w w5) := Lib.hid ⟨_, S5, D5, HKB5.out, HKR5.out, HT5.out, HL5.out, HB5.out, HD5.out⟩
          clear h0 h2
          go_wp2
          go_roundw
          case rel => exact ⟨i + 1, by go_num, by omega, HFin.out⟩
          case measure => simp [intOf]; omega
    · have hl42 : l.length ≤ 4398046511104 := by omega
      have HRi := Lib.hid (HC.out.rises HT3.out)
      have hbx : Below w3.heap.size w3 ((w3.alloc (.cells #[.int .i64 0] 3)).alloc (.cells #[.int .i64 0] 3)) := ((Below.refl _ _).alloc (Nat.le_refl _) _).alloc (by simp) _
      have k0 := (Blk.new w3 3 #[.int .i64 0]).alloc (.cells #[.int .i64 0] 3)
      have k1 := Blk.new (w3.alloc (.cells #[.int .i64 0] 3)) 3 #[.int .i64 0]
      rw [World.size_alloc] at k1
      have cbx : ((w3.alloc (.cells #[.int .i64 0] 3)).alloc (.cells #[.int .i64 0] 3)).cell? ⟨w2.heap.size, 0, none⟩ = some (.pointer (some ⟨T, 0, none⟩)) := by rw [(HKB.out.below hbx hgl).cell]; rfl
      have HTx := Lib.hid (HC.out.next HT3.out hbx)
      go_wp2_with fail
      refine (HP.out.qall _ T l S3 D3 HTx.out hl42).mono ?_
      rintro e W1 ⟨v7, R, rfl, hq7, hb7, gr7, rs7⟩
      obtain ⟨gf, lb, rfl, en7, hR7, hq7'⟩ := hq7
      have SQ : Hid (SeqC (.func (.func gf) #[] lb) l R W1) := Lib.hid ⟨gf, lb, rfl, en7, hR7, hq7'⟩
      have EN := Lib.hid en7
      obtain ⟨x0, hx0⟩ : ∃ x, x = w3.heap.size := ⟨_, rfl⟩
      have hx1 : ((w3.alloc (.cells #[.int .i64 0] 3)).alloc (.cells #[.int .i64 0] 3)).heap.size = x0 + 2 := by simp [hx0]
      have HB31 := Lib.hid (hbx.trans (hb7.mono (by simp; omega)))
      have HK0 := Lib.hid (k0.below hb7 (by rw [hx1, ← hx0]; omega))
      have HK1 := Lib.hid (k1.below hb7 (by rw [hx1, ← hx0]; omega))
      have hxl : x0 + 2 ≤ W1.heap.size := by have := hb7.size; omega
      have hRx : ∀ b, R b → b ≠ x0 ∧ b ≠ x0 + 1 := fun b hb => by
        rcases gr7 b hb with h | h
        · have := HC.out.lt HT3.out b h; omega
        · rw [hx1] at h; omega
      have HRx := Lib.hid hRx
      have HTW := Lib.hid (HC.out.next HTx.out hb7)
      have HKBW := Lib.hid (HKB.out.below HB31.out hgl)
      have HKRW := Lib.hid (HKR.out.below HB31.out (by omega))
      have HDx : Hid (∀ b, D3 b → b < x0) := Lib.hid fun b hb => by rw [hx0]; exact HC.out.lt HT3.out b hb
      have HBW := Lib.hid (HB3.out.trans (HB31.out.mono HB3.out.size))
      rw [← hx0] at HK0 HK1 hgl ⊢
      clear cb cbx hbx k0 k1 hq7' en7 hR7 hb7 gr7 rs7 hx1 hRx hx0
      go_wp2
      refine (wpIn_wide (n := 9)).1 ?_
      refine' wpIn_rangeFunc_ownG (α := Rw) rfl (by omega) (gf := gf) (lb := lb) rfl trivial EN.out
        SQ.out.seq (fun h k => h.trans k) (stay_b SQ.out.lt) (Below.refl _ _) (fun _ => rfl)
        (fun pre W => (pre <+: l ∧ Blk W x0 3 #[.int .i64 (pre.length : Nat)] ∧ Blk W (x0 + 1) 3 #[.int .i64 (lastK pre)]) ∧ Turned (fun b => b = x0 ∨ b = x0 + 1) W1 W)
        (fun c pre W => c = .ret ∧ ¬ pre <+: l)
        (OwnFrom.and (Own.from (fun s A B row hs hg hr => ⟨hs.1, blk_kept hs.2.1 hg hr, blk_kept hs.2.2 hg hr⟩) _) (own_turned W1 _))
        (fun c => fun s A B row hs hg hr => hs)
        ⟨⟨⟨l, rfl⟩, HK0.out, HK1.out⟩, ⟨rfl, rfl, rfl, Nat.le_refl _, fun _ _ _ => rfl⟩⟩
        _ ?assign ?body ?done ?stop
      case assign =>
        intro l x W K hK
        gi_wp2
        exact hK
      case body =>
        rintro lp pre ⟨y1, y2⟩ V ⟨⟨hpre, hk0, hk1⟩, hTu⟩ hlt
        have bl : ∀ k, k < x0 → V.heap[k]? = W1.heap[k]? := fun k hk => hTu.block k (by omega) (by omega)
        have kb : Blk V w2.heap.size 24 #[.pointer (some ⟨T, 0, none⟩)] := (bl _ hgl).trans HKBW.out
        have kr : Blk V w.heap.size 4 #[.bool false] := (bl _ (by omega)).trans HKRW.out
        have hTV : Tb V T l S3 D3 := HC.out.stay HTW.out ⟨hTu.size, fun b hb => bl b (HDx.out b hb)⟩
        obtain ⟨q, hq⟩ : ∃ q, q = pre.length := ⟨_, rfl⟩
        have HQ := Lib.hid hq
        rw [← hq] at hk0 hlt
        obtain ⟨r2, hr2'⟩ : ∃ r2, l[q]? = some r2 := ⟨_, List.getElem?_eq_getElem hlt⟩
        obtain ⟨rk, rv⟩ := r2
        obtain ⟨lk, hlk⟩ : ∃ x, x = lastK pre := ⟨_, rfl⟩
        rw [← hlk] at hk1
        have hnth := HC.out.qnth V T l S3 D3 (q : Int) hTV (by omega) (by omega) hl42
        rw [if_pos ⟨by omega, by omega⟩, decide_eq_true (p := 0 ≤ (q : Int) ∧ (q : Int) < (l.length : Int)) ⟨by omega, by omega⟩, Int.toNat_natCast, hr2'] at hnth
        simp only [Option.map_some, Option.getD_some] at hnth
        have cb : V.cell? ⟨w2.heap.size, 0, none⟩ = some (.pointer (some ⟨T, 0, none⟩)) := by rw [kb.cell]; rfl
        have c0 : V.cell? ⟨x0, 0, none⟩ = some (.int .i64 (q : Int)) := by rw [hk0.cell]; rfl
        have HN := Lib.hid hnth
        have HV := Lib.hid hr2'
        have HPr := Lib.hid hpre
        have HLk := Lib.hid hlk
        have HKb := Lib.hid kb
        have HKr := Lib.hid kr
        have HTV := Lib.hid hTV
        have HX0 := Lib.hid hk0
        have HX1 := Lib.hid hk1
        have HTu := Lib.hid hTu
        clear hnth hr2' hpre hlk kb kr hTV hk0 hk1 hTu hq bl
        gi_wp2_with (refine ⟨trivial, ?_⟩; gi_at_call 21; refine (CallsIn.inRound lp (callsIn_wide.2 HN.out)).mono ?_; rintro e V1 ⟨rfl, hbV1⟩; have cb1 : V1.cell? ⟨w2.heap.size, 0, none⟩ = some (.pointer (some ⟨T, 0, none⟩)) := (by rw [(HKb.out.below hbV1 HKb.out.lt).cell]; rfl); have HV1 := Lib.hid hbV1; clear hbV1)
        have HTV1 := Lib.hid (HC.out.next HTV.out HV1.out)
        have hget := HC.out.qget V1 T l S3 D3 y1 HTV1.out hl42
        by_cases h1 : rk = y1
        · subst h1
          rw [rises_at HRi.out HV.out] at hget
          simp only [Option.getD_some, Option.isSome_some] at hget
          have HG := Lib.hid hget
          have t1 : (rk != rk) = false := by simp
          clear hget cb1
          refine ⟨trivial, ?_⟩
          refine (CallsIn.inRound lp (callsIn_wide.2 HG.out)).mono ?_
          rintro e V2 ⟨rfl, hb2⟩
          have HV2 := Lib.hid (HV1.out.trans (hb2.mono HV1.out.size))
          have n0 := HX0.out.below HV2.out HX0.out.lt
          have n1 := HX1.out.below HV2.out HX1.out.lt
          have nr := HKr.out.below HV2.out HKr.out.lt
          have c0' : V2.cell? ⟨x0, 0, none⟩ = some (.int .i64 (q : Int)) := by rw [n0.cell]; rfl
          have c1' : V2.cell? ⟨x0 + 1, 0, none⟩ = some (.int .i64 lk) := by rw [n1.cell]; rfl
          have f0' : V2.frozen? ⟨x0, 0, none⟩ = false := n0.frozen 0
          have f1' : V2.frozen? ⟨x0 + 1, 0, none⟩ = false := n1.frozen 0
          have cr' : V2.cell? ⟨w.heap.size, 0, none⟩ = some (.bool false) := by rw [nr.cell]; rfl
          have fr' : V2.frozen? ⟨w.heap.size, 0, none⟩ = false := nr.frozen 0
          have N0 := Lib.hid n0
          have N1 := Lib.hid n1
          clear hb2 n0 n1 nr cb c0
          by_cases h2 : rv = y2
          · subst h2
            have HI : Hid (pre ++ [(rk, rv)] <+: l) := Lib.hid (pre_more HPr.out (by rw [← HQ.out]; exact HV.out) rfl)
            have HFin : Hid (KeepsFrom W1.heap.size V ((V2.setCell ⟨x0 + 1, 0, none⟩ (.int .i64 rk)).setCell ⟨x0, 0, none⟩ (.int .i64 ((q : Int) + 1))) ∧ Stay R V ((V2.setCell ⟨x0 + 1, 0, none⟩ (.int .i64 rk)).setCell ⟨x0, 0, none⟩ (.int .i64 ((q : Int) + 1))) ∧
                ((pre ++ [(rk, rv)] <+: l ∧ Blk ((V2.setCell ⟨x0 + 1, 0, none⟩ (.int .i64 rk)).setCell ⟨x0, 0, none⟩ (.int .i64 ((q : Int) + 1))) x0 3 #[.int .i64 ((pre ++ [(rk, rv)]).length : Nat)] ∧ Blk ((V2.setCell ⟨x0 + 1, 0, none⟩ (.int .i64 rk)).setCell ⟨x0, 0, none⟩ (.int .i64 ((q : Int) + 1))) (x0 + 1) 3 #[.int .i64 (lastK (pre ++ [(rk, rv)]))]) ∧
                  Turned (fun b => b = x0 ∨ b = x0 + 1) W1 ((V2.setCell ⟨x0 + 1, 0, none⟩ (.int .i64 rk)).setCell ⟨x0, 0, none⟩ (.int .i64 ((q : Int) + 1))))) := by
              refine Lib.hid ⟨(keepsFrom_below HV2.out).trans (((KeepsOthers.setCell _ _ _).trans (KeepsOthers.setCell _ _ _)).from _), ?_, ⟨HI.out, ?_, ?_⟩, ((HTu.out.next HV2.out).set (.inr rfl) _).set (.inl rfl) _⟩
              · have hst : Stay R V V2 := Stay.below HV2.out (fun b hb => by have := SQ.out.lt b hb; have := HTu.out.size; omega)
                exact hst.trans ((stay_set (fun h => (HRx.out _ h).2 rfl)).trans (stay_set (fun h => (HRx.out _ h).1 rfl)))
              · rw [List.length_append, ← HQ.out]
                exact blk_put (N0.out.far (p := ⟨x0 + 1, 0, none⟩) (by simp) _) _
              · rw [lastK_snoc]
                exact (blk_put N1.out _).far (p := ⟨x0, 0, none⟩) (by simp) _
            by_cases hq0 : 0 < q
            · have hlt2 : lk < rk := by rw [HLk.out]; exact rises_last HRi.out HPr.out (by rw [← HQ.out]; exact HV.out) (by rw [← HQ.out]; exact hq0)
              have t3 : decide (rk ≤ lk) = false := by simp; omega
              have t4 : (0 : Int) < (q : Int) := by omega
              gi_wp2
              exact HFin.out
            · obtain rfl : q = 0 := by omega
              gi_wp2
              exact HFin.out
          · have HI : Hid (¬ pre ++ [(rk, y2)] <+: l) := Lib.hid (pre_wrong (by rw [← HQ.out]; exact HV.out) (fun e => h2 (congrArg Prod.snd e).symm))
            have t2 := text_ne h2
            clear h2
            gi_wp2
            exact ⟨(keepsFrom_below HV2.out).trans ((KeepsOthers.setCell _ _ _).from _), rfl, HI.out⟩
        · have HI : Hid (¬ pre ++ [(y1, y2)] <+: l) := Lib.hid (pre_wrong (by rw [← HQ.out]; exact HV.out) (fun e => h1 (congrArg Prod.fst e).symm))
          have t1 : (rk != y1) = true := by simp [h1]
          obtain ⟨us, hus⟩ : ∃ u, u = (under y1 l).getD ByteArray.empty := ⟨_, rfl⟩
          obtain ⟨ub, hub⟩ : ∃ u, u = (under y1 l).isSome := ⟨_, rfl⟩
          rw [← hus, ← hub] at hget
          have HG := Lib.hid hget
          clear hget cb1 hus hub h1
          refine ⟨trivial, ?_⟩
          refine (CallsIn.inRound lp (callsIn_wide.2 HG.out)).mono ?_
          rintro e V2 ⟨rfl, hb2⟩
          have HV2 := Lib.hid (HV1.out.trans (hb2.mono HV1.out.size))
          have nr := HKr.out.below HV2.out HKr.out.lt
          have cr' : V2.cell? ⟨w.heap.size, 0, none⟩ = some (.bool false) := by rw [nr.cell]; rfl
          have fr' : V2.frozen? ⟨w.heap.size, 0, none⟩ = false := nr.frozen 0
          clear hb2 nr cb c0
          gi_wp2
          exact ⟨(keepsFrom_below HV2.out).trans ((KeepsOthers.setCell _ _ _).from _), rfl, HI.out⟩
      case stop =>
        rintro D cc pre V hD hpre ⟨rfl, hw⟩ hK
        exact absurd hpre hw
      case done =>
        rintro D ys V hD rfl ⟨⟨hpre, hk0, hk1⟩, hTu⟩ hK
        have bl : ∀ k, k < x0 → V.heap[k]? = W1.heap[k]? := fun k hk => hTu.block k (by omega) (by omega)
        have HKb := Lib.hid (show Blk V w2.heap.size 24 #[.pointer (some ⟨T, 0, none⟩)] from (bl _ hgl).trans HKBW.out)
        have HKr := Lib.hid (show Blk V w.heap.size 4 #[.bool false] from (bl _ (by omega)).trans HKRW.out)
        have HTV : Hid (Tb V T ys S3 D3) := Lib.hid (HC.out.stay HTW.out ⟨hTu.size, fun b hb => bl b (HDx.out b hb)⟩)
        have HX0 := Lib.hid hk0
        have HBV : Hid (Below w.heap.size w V) := Lib.hid ⟨hTu.os.trans HBW.out.os, hTu.tape.trans HBW.out.tape, hTu.output.trans HBW.out.output, Nat.le_trans HBW.out.size hTu.size, fun i hi => (hTu.block i (by have := HBW.out.size; omega) (by omega)).trans (HBW.out.block i hi)⟩
        have hm0 : Marks (w.heap.size + 1) [] V := trivial
        have HMk := Lib.hid (hm0.cons (D := D) (fun d hd => by cases hd) (by omega) hK)
        have hVs : x0 + 2 ≤ V.heap.size := by have := hTu.size; omega
        have cb : V.cell? ⟨w2.heap.size, 0, none⟩ = some (.pointer (some ⟨T, 0, none⟩)) := by rw [HKb.out.cell]; rfl
        have c0 : V.cell? ⟨x0, 0, none⟩ = some (.int .i64 (ys.length : Nat)) := by rw [hk0.cell]; rfl
        have hlen := HC.out.qlen V.drew T ys S3 D3 (HC.out.stay HTV.out ⟨Nat.le_refl _, fun _ _ => rfl⟩) hl42
        have HLen := Lib.hid hlen
        obtain ⟨ln, hln⟩ : ∃ n, n = ys.length := ⟨_, rfl⟩
        rw [← hln] at c0 HX0 HLen hl42
        have HLn := Lib.hid hln
        clear hpre hk0 hk1 hTu hm0 hK hD bl hlen hln
        go_wp2
        go_region_held3 (fun w' => w'.cell? ⟨x0, 0, none⟩ = some (.int .i64 (ln : Nat)) ∧ w'.cell? ⟨w2.heap.size, 0, none⟩ = some (.pointer (some ⟨T, 0, none⟩))) (first | exact ⟨c0, cb⟩ | assumption | go_keep) (first
          | (go_at_call 12; go_must (refine HLen.out.mono ?_; rintro e V1 ⟨rfl, hb1⟩; have HV1 : Hid (Below V.heap.size V V1) := Lib.hid (((Below.refl V.heap.size V).drew).trans hb1); have cS : V1.cell? ⟨x0, 0, none⟩ = some (.int .i64 (ln : Nat)) ∧ V1.cell? ⟨w2.heap.size, 0, none⟩ = some (.pointer (some ⟨T, 0, none⟩)) := ⟨by rw [(HX0.out.below HV1.out HX0.out.lt).cell]; rfl, by rw [(HKb.out.below HV1.out HKb.out.lt).cell]; rfl⟩; clear hb1)))
        go_wp2_with fail
        refine (HBk.out.qback V1 T ys S3 D3 (HC.out.next HTV.out HV1.out) (by have := HLn.out; omega)).mono ?_
        rintro e W3 ⟨v8, R8, rfl, hq8, hb8, gr8, rs8⟩
        obtain ⟨gf8, pb8, rfl, en8, hR8, hq8'⟩ := hq8
        have SQ8 : Hid (SeqB (.func (.func gf8) pb8 #[]) ys.reverse R8 W3) := Lib.hid ⟨gf8, pb8, rfl, en8, hR8, hq8'⟩
        have EN8 := Lib.hid en8
        have HB13 := Lib.hid (HV1.out.trans (hb8.mono HV1.out.size))
        have HX3 := Lib.hid (HX0.out.below HB13.out HX0.out.lt)
        have HKB3 := Lib.hid (HKb.out.below HB13.out HKb.out.lt)
        have HKR3 := Lib.hid (HKr.out.below HB13.out HKr.out.lt)
        have HT3' := Lib.hid (HC.out.next HTV.out HB13.out)
        have HMk3 := Lib.hid (HMk.out.below HB13.out)
        have HB3' := Lib.hid (HBV.out.trans (HB13.out.mono HBV.out.size))
        have hxl3 : x0 + 2 ≤ W3.heap.size := by have := HB13.out.size; omega
        have HR8x : Hid (∀ b, R8 b → b ≠ x0) := Lib.hid fun b hb => by
          rcases gr8 b hb with h | h
          · have := HDx.out b h; omega
          · have := HV1.out.size; omega
        clear hq8' en8 hR8 hb8 gr8 rs8 c0 cb cS
        go_wp2
        refine (wpIn_wide (n := 9)).1 ?_
        refine' range_bound (α := Rw) (gf := gf8) (pb := pb8) (lb := #[]) rfl EN8.out
          (SQ8.out.at_ _) (fun h k => h.trans k) (stay_b SQ8.out.lt) (fun _ => rfl)
          (fun pre W => (pre.map (·.1) <+: ys.reverse.map (·.1) ∧ Blk W x0 3 #[.int .i64 ((ln : Int) - (pre.length : Nat))]) ∧ Only W3 W x0)
          (fun c pre W => c = .ret ∧ ¬ pre.map (·.1) <+: ys.reverse.map (·.1))
          (OwnFrom.and (Own.from (fun s A B row hs hg hr => ⟨hs.1, blk_kept hs.2 hg hr⟩) _) (own_only W3 x0))
          (fun c => fun s A B row hs hg hr => hs)
          ⟨⟨⟨ys.reverse.map (·.1), by simp⟩, by simpa using HX3.out⟩, Only.refl _ _⟩
          _ ?assign2 ?body2 ?done2 ?stop2
        case assign2 =>
          intro l x W K hK
          gi_wp2
          exact hK
        case body2 =>
          rintro lp pre ⟨y1, y2⟩ U hlp hlr ⟨⟨hpre, hao⟩, hOnly⟩ hlt
          clear hlr
          have bl : ∀ k, k < x0 → U.heap[k]? = W3.heap[k]? := fun k hk => hOnly.block k (by omega) (fun e => by injection e with e; omega)
          have kb : Blk U w2.heap.size 24 #[.pointer (some ⟨T, 0, none⟩)] := (bl _ hgl).trans HKB3.out
          have kr : Blk U w.heap.size 4 #[.bool false] := (bl _ (by omega)).trans HKR3.out
          have hTU : Tb U T ys S3 D3 := HC.out.stay HT3'.out ⟨hOnly.size, fun b hb => bl b (HDx.out b hb)⟩
          obtain ⟨q, hq⟩ : ∃ q, q = pre.length := ⟨_, rfl⟩
          have HQ := Lib.hid hq
          rw [← hq] at hao hlt
          rw [List.length_reverse, ← HLn.out] at hlt
          obtain ⟨z, hz⟩ : ∃ z : Nat, ln = q + 1 + z := ⟨ln - q - 1, by omega⟩
          have e1 : ((ln : Int) - (q : Int)) = (z : Int) + 1 := by omega
          rw [e1] at hao
          have cat : U.cell? ⟨x0, 0, none⟩ = some (.int .i64 ((z : Int) + 1)) := by rw [hao.cell]; rfl
          have fat : U.frozen? ⟨x0, 0, none⟩ = false := hao.frozen 0
          have ew : (z : Int) + 1 - 1 = (z : Int) := by omega
          obtain ⟨r2, hr2'⟩ : ∃ r2, ys[z]? = some r2 := ⟨_, List.getElem?_eq_getElem (by rw [← HLn.out]; omega)⟩
          obtain ⟨rk, rv⟩ := r2
          have HV : Hid (ys.reverse[q]? = some (rk, rv)) := Lib.hid (by rw [List.getElem?_reverse (by rw [← HLn.out]; omega), ← HLn.out, show ln - 1 - q = z by omega]; exact hr2')
          have HVk : Hid ((ys.reverse.map (·.1))[(pre.map (·.1)).length]? = some rk) := Lib.hid (by rw [List.length_map, ← HQ.out, List.getElem?_map, HV.out]; rfl)
          have hUz : Tb (U.setCell ⟨x0, 0, none⟩ (.int .i64 (z : Int))) T ys S3 D3 := HC.out.stay hTU (stay_set (fun h => by have := HDx.out _ h; omega))
          have hnth := HC.out.qnth _ T ys S3 D3 (z : Int) hUz (by omega) (by omega) (by have := HLn.out; omega)
          rw [if_pos ⟨by omega, by have := HLn.out; omega⟩, decide_eq_true (p := 0 ≤ (z : Int) ∧ (z : Int) < (ys.length : Int)) ⟨by omega, by have := HLn.out; omega⟩, Int.toNat_natCast, hr2'] at hnth
          simp only [Option.map_some, Option.getD_some] at hnth
          have hzn : (z : Int) < (ln : Int) := by omega
          have hne1 : x0 ≠ w2.heap.size := by omega
          have hne3 : w2.heap.size ≠ x0 := by omega
          have cb : (U.setCell ⟨x0, 0, none⟩ (.int .i64 (z : Int))).cell? ⟨w2.heap.size, 0, none⟩ = some (.pointer (some ⟨T, 0, none⟩)) := by rw [(kb.far (p := ⟨x0, 0, none⟩) (by simpa using hne3) _).cell]; rfl
          have HN := Lib.hid hnth
          have HPr := Lib.hid hpre
          have HKb2 := Lib.hid kb
          have HKr2 := Lib.hid kr
          have HAo := Lib.hid hao
          have HOnly := Lib.hid hOnly
          have hlen : ((ln : Int) - ((pre ++ [(y1, y2)]).length : Nat)) = (z : Int) := by rw [List.length_append, ← HQ.out]; simp; omega
          have HLn2 := Lib.hid hlen
          clear hnth hr2' hpre kb kr hTU hUz hao hOnly hq bl hz e1 hlen
          gi_wp2_with fail
          refine ⟨trivial, ?_⟩
          refine (CallsIn.inRound lp (callsIn_wide.2 HN.out)).mono ?_
          rintro e U1 ⟨rfl, hbU⟩
          have HU1 := Lib.hid hbU
          have hsz : (U.setCell ⟨x0, 0, none⟩ (.int .i64 (z : Int))).heap.size = U.heap.size := by simp [World.setCell]
          have nr := ((HKr2.out.far (p := ⟨x0, 0, none⟩) (by simp; omega) (.int .i64 (z : Int))).below HU1.out (by rw [hsz]; exact HKr2.out.lt))
          have cr : U1.cell? ⟨w.heap.size, 0, none⟩ = some (.bool false) := by rw [nr.cell]; rfl
          have frr : U1.frozen? ⟨w.heap.size, 0, none⟩ = false := nr.frozen 0
          have HKF : Hid (KeepsAll W3.heap.size U U1) := Lib.hid ((KeepsAll.setCell _ (by omega) _).trans (KeepsAll.of_below HU1.out))
          have HSt : Hid (Stay R8 U U1) := Lib.hid ((stay_set (fun h => HR8x.out _ h rfl)).trans (Stay.below HU1.out (fun b hb => by have h1 := SQ8.out.lt b hb; have h2 := HOnly.out.size; rw [hsz]; omega)))
          have HO1 : Hid (Only W3 U1 x0) := Lib.hid ((HOnly.out.set _ _).trans (Only.of HU1.out _))
          have HA1 : Hid (Blk U1 x0 3 #[.int .i64 (z : Int)]) := Lib.hid ((blk_put HAo.out _).below HU1.out (by rw [hsz]; exact HAo.out.lt))
          clear hbU nr cb cat fat
          by_cases h1 : rk = y1
          · have t1 : (rk != y1) = false := by simp [h1]
            have HI : Hid ((pre ++ [(y1, y2)]).map (·.1) <+: ys.reverse.map (·.1)) := Lib.hid (by
              rw [List.map_append]
              obtain ⟨s, hs⟩ := HPr.out
              have hk := HVk.out
              rw [← hs, List.getElem?_append_right (Nat.le_refl _), Nat.sub_self] at hk
              cases s with
              | nil => simp at hk
              | cons y s => simp at hk; subst hk; exact ⟨s, by rw [← hs]; simp [h1]⟩)
            clear h1
            gi_wp2
            exact ⟨HKF.out, HSt.out, ⟨HI.out, by rw [HLn2.out]; exact HA1.out⟩, HO1.out⟩
          · have t1 : (rk != y1) = true := by simp [h1]
            have HI : Hid (¬ (pre ++ [(y1, y2)]).map (·.1) <+: ys.reverse.map (·.1)) := Lib.hid (by
              rw [List.map_append]
              rintro ⟨s, hs⟩
              have hk := HVk.out
              rw [← hs, List.append_assoc, List.getElem?_append_right (Nat.le_refl _), Nat.sub_self] at hk
              simp at hk
              exact h1 hk.symm)
            clear h1
            gi_wp2
            exact ⟨HKF.out.trans (KeepsAll.setCell _ (by omega) _), rfl, HI.out⟩
        case stop2 =>
          rintro D cc pre U hD hpre ⟨rfl, hw⟩ hK
          exact absurd (hpre.map _) hw
        case done2 =>
          rintro D2 zs U hD rfl ⟨⟨hpre, hao⟩, hOnly⟩ hK
          have bl : ∀ k, k < x0 → U.heap[k]? = W3.heap[k]? := fun k hk => hOnly.block k (by omega) (fun e => by injection e with e; omega)
          have kr : Blk U w.heap.size 4 #[.bool false] := (bl _ (by omega)).trans HKR3.out
          rw [List.length_reverse, ← HLn.out] at hao
          have e0 : ((ln : Int) - (ln : Int)) = 0 := by omega
          rw [e0] at hao
          have cat : U.cell? ⟨x0, 0, none⟩ = some (.int .i64 0) := by rw [hao.cell]; rfl
          have cr : U.cell? ⟨w.heap.size, 0, none⟩ = some (.bool false) := by rw [kr.cell]; rfl
          have frr : U.frozen? ⟨w.heap.size, 0, none⟩ = false := kr.frozen 0
          have KR := Lib.hid kr
          have HBU : Hid (Below w.heap.size w U) := Lib.hid (Only.below HB3'.out hOnly (by omega) HB3'.out.size)
          have hm1 := HMk3.out.only hOnly HX3.out
          have HMk4 := Lib.hid (hm1.cons (D := D2) (fun d hd k e => Nat.lt_of_lt_of_le (HMk3.out.lt d hd k e) hD) (by omega) hK)
          clear kr hao hOnly hpre hK bl hm1
          go_wp2
          have kr2 := blk_put KR.out (.bool true)
          have ho : Only U (U.setCell ⟨w.heap.size, 0, none⟩ (.bool true)) w.heap.size := (Only.refl _ _).set _ _
          refine Marks.leave (B := w.heap.size + 1) _ _ (HMk4.out.only ho KR.out) (fun W' hb => ?_)
          have c5 : W'.cell? ⟨w.heap.size, 0, none⟩ = some (.bool true) := by
            rw [hb.cell (p := ⟨w.heap.size, 0, none⟩) (by simp), kr2.cell]; rfl
          refine ⟨.bool true, ?_, rfl, (HBU.out.setCell (p := ⟨w.heap.size, 0, none⟩) (by simp) _).trans (hb.mono (by omega))⟩
          simp [results, Try.f7, go_sem, c5]
end Go.Proofs.Ytgkmlggcmmdafaa.Pk
