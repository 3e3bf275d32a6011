/- The walk of the law GramKeeps. -/
import Derived.Test.YtmegpbejknmjbaaDoorGmWakes
import Derived.Test.YtmegpbejknmjbaaDoorGmArgs
import Derived.Test.YtmegpbejknmjbaaDoorGmEq
import Derived.Test.YtmegpbejknmjbaaDoorHold
import Derived.Test.YtmegpbejknmjbaaDoorSets
import Derived.Deep.RegionHeld3
import Derived.Deep.DeepMust
namespace Go.Proofs.YtmegpbejknmjbaaDoor.Pk
open Go.RowKit Go.Proofs.YtmegpbejknmjbaaDoor.Ar Go.Proofs.YtmegpbejknmjbaaDoor.Crc
set_option linter.unusedVariables false
theorem nine_ {lo hi n c : Nat} {A : Option Addr} {l : List Int} {w : World} (h : OwnI lo hi (.slice A (n + 9) c) (l ++ [71, 72, 73, 74, 75, 76, 77, 78, 79]) w) (hl : l.length = n) :
    ∃ g, A = some ⟨g, 0, none⟩ ∧ w.cell? ⟨g, n, none⟩ = some (.int .u8 71) ∧ w.cell? ⟨g, n + 8, none⟩ = some (.int .u8 79) := by
  subst hl
  obtain ⟨g, e, _, _, _, c1, _⟩ := h.store (i := l.length) (by omega)
  obtain ⟨g2, e2, _, _, _, c2, _⟩ := h.store (i := l.length + 8) (by omega)
  subst e
  injection e2 with e2; injection e2 with e2; subst e2
  refine ⟨g, rfl, by rw [c1]; simp, by rw [c2]; simp [List.getD_eq_getElem?_getD]⟩
/-- What two bands of blocks hold may turn. -/
def Two (a b c d : Nat) (i : Nat) : Prop := (a ≤ i ∧ i < b) ∨ (c ≤ i ∧ i < d)
theorem Held.turned {lo hi : Nat} {p : World → Prop} {w w' : World} {S : Nat → Prop} (h : Held lo hi p w) (m : Turned S w w') (hd : ∀ i, lo ≤ i → i < hi → ¬ S i) : Held lo hi p w' :=
  ⟨Nat.le_trans h.1 m.size, fun w2 hs hk => h.2 w2 (Nat.le_trans m.size hs) (fun i h1 h2 => (hk i h1 h2).trans (m.block i (by have := h.1; omega) (hd i h1 h2)))⟩
theorem own_move {w w' : World} {B : Nat} {v v2 : Value} {l : List Int} (h : OwnB w B v l) (hg : w.grownBy w' v2.ownBlock) (hne : ∀ g, v.ownBlock = some g → v2.ownBlock ≠ some g) : OwnB w' B v l :=
  h.stay (fun g hgv => hg.block g (h.lt g hgv) (fun e => hne g hgv e.symm))
set_option maxRecDepth 100000 in
set_option maxHeartbeats 8000000 in
theorem law_GramKeeps (putG : PutG) (encG : EncG) (decG : DecG) (a : Option Addr) (n c : Nat) (l : List Int) (m : Gm) (w : World) (ht : Tab w) (h : ArgB w a n c l) (hm : m.I) :
    Calls Tryd.prog 7 #[.slice a n c, m.val] w fun e w' => e = .returned (.bool true) ∧ Below w.heap.size w w' := by
  obtain ⟨hr, hnc, hcx, hB⟩ := h
  have hB' : isB l := fun x hx => hB x hx
  have HBl := Lib.hid hB'
  have HTb := Lib.hid ht
  have HL : Hid (l.length = n) := Lib.hid (by have := hr.1; simpa using this)
  have HR := Lib.hid hr
  have HW := Lib.hid (fun u h => wakes_any encG u h)
  have HP := Lib.hid (fun A c u hr hc => putG A n c l m u hr hc hB' (by omega) hm)
  have HE := Lib.hid (fun u h => encG m u h hm)
  have HD := Lib.hid decG
  have HPl := Lib.hid m.put_len
  have HEl : Hid ((genc m).1.length ≤ 85) := Lib.hid (by
    unfold genc
    split
    · rw [gall_len]; have := m.bytes_len; omega
    · simp)
  obtain ⟨q, hq⟩ : ∃ q, q = m.put := ⟨_, rfl⟩
  obtain ⟨E, hE⟩ : ∃ E, E = (genc m).1 := ⟨_, rfl⟩
  obtain ⟨er, her⟩ : ∃ er, er = (genc m).2 := ⟨_, rfl⟩
  rw [← hq] at HP HPl
  rw [← hE, ← her] at HE
  rw [← hE] at HEl
  clear hr hB hB' hm hq hE her ht putG encG decG
  obtain ⟨f, t, b, s, ⟨k, o, d, u, v⟩⟩ := m
  unfold Gm.val at HP HE ⊢
  simp only at HP HE ⊢
  go_enter Tryd.func7, Tryd.ntmps7
  obtain ⟨p, hp⟩ : ∃ p, p = w.heap.size := ⟨_, rfl⟩
  obtain ⟨w1, hw1⟩ : ∃ w1, w1 = w.alloc (.cells #[.int .i64 f, .int .i64 t, .int .i64 b, .int .i64 s, .int .i64 k, .int .i64 o, .int .i64 d, .int .i64 u, .int .i64 v] 26) := ⟨_, rfl⟩
  have hb1 : Below w.heap.size w w1 := hw1 ▸ (Below.refl _ _).alloc (Nat.le_refl _) _
  have HK1 : Hid (Blk w1 p 26 #[.int .i64 f, .int .i64 t, .int .i64 b, .int .i64 s, .int .i64 k, .int .i64 o, .int .i64 d, .int .i64 u, .int .i64 v]) := Lib.hid (by rw [hw1, hp]; exact Blk.new w _ _)
  have HB1 := Lib.hid hb1
  go_wp2_with fail
  rw [← hw1, ← hp]
  clear hw1 hp hb1
  refine (HW.out w1 (HTb.out.next HB1.out)).mono ?_
  rintro e w2 ⟨rfl, hb⟩
  have HB2 := Lib.hid (HB1.out.trans (hb.mono HB1.out.size))
  have HK2 := Lib.hid (HK1.out.below hb HK1.out.lt)
  have HR2 := Lib.hid ((HR.out.below HB2.out).more HB2.out.size)
  have hs2 := HB2.out.size
  clear hb HB1 HK1
  go_wp2_with (first
    | (at_builtin; refine appE w2 rfl (.tmp 22) (.tmp 23) rfl w2.heap.size rfl w2.heap.size a c l n rfl HR2.out (Nat.le_refl _) (by omega) (Nat.le_refl _) ?_; intro v3 w3 hown3 hb3; have s3 := hb3.size)
    | (at_builtin; refine appB _ rfl (.tmp 24) (.tmp 25) rfl w2.heap.size v3 l rfl (hown3.alloc _) (w3.heap.size + 1) _ 9 [71, 72, 73, 74, 75, 76, 77, 78, 79] 9 rfl (reads_new w3 _ _ _ 9 (bts [71, 72, 73, 74, 75, 76, 77, 78, 79]) rfl rfl (by omega)) (by have := HL.out; omega) (by simp; omega) ?_; intro v4 w4 hown4 hb4 _ _; obtain ⟨Am, nm, cm, rfl, hcm, hnm, -⟩ := hown4.val; obtain rfl : nm = n + 9 := (by have := HL.out; rw [← hnm]; simp; omega); have hmA := OwnI.of hown4; have hcm0 : ¬ (cm = 0) := (by omega); have hcm1 : n ≤ cm := (by omega); have hcm2 : (n : Int) ≤ (cm : Int) := (by omega); have hcm9 : n + 9 ≤ cm := (by omega); have hb24 : Below w2.heap.size w2 w4 := (hb3.alloc s3 _).trans hb4; have s4 := hb24.size; have HB4 := Lib.hid (HB2.out.trans (hb24.mono hs2)); have HK4 := Lib.hid (HK2.out.below hb24 HK2.out.lt); obtain ⟨x0_, x1_, x2_, x3_, x4_, x5_, x6_, x7_, x8_⟩ := cells9 HK4.out; clear hown3 hb3 hown4 hb4 hb24 hnm s3))
  have HMA := Lib.hid hmA
  have hrm := (RowI.reads (OwnI.rowHeld hmA)).take (k := n) (by omega)
  rw [app_take _ _ _ HL.out] at hrm
  have HRM := Lib.hid hrm
  have X4 := cells9 HK4.out
  clear hrm
  go_region_held3 (fun w' => w'.cell? ⟨p, 0, none⟩ = some (.int .i64 f) ∧ w'.cell? ⟨p, 1, none⟩ = some (.int .i64 t) ∧ w'.cell? ⟨p, 2, none⟩ = some (.int .i64 b) ∧ w'.cell? ⟨p, 3, none⟩ = some (.int .i64 s) ∧ w'.cell? ⟨p, 4, none⟩ = some (.int .i64 k) ∧ w'.cell? ⟨p, 5, none⟩ = some (.int .i64 o) ∧ w'.cell? ⟨p, 6, none⟩ = some (.int .i64 d) ∧ w'.cell? ⟨p, 7, none⟩ = some (.int .i64 u) ∧ w'.cell? ⟨p, 8, none⟩ = some (.int .i64 v)) (first | exact X4 | exact X5 | go_keep) (first
    | (go_at_call 15; go_must (refine (HP.out Am cm _ (by first | exact HRM.out | exact HRM.out.drewN _) hcm1).mono ?_; rintro e w5 ⟨v5, rfl, ho5, hb5⟩; replace hb5 : Below w4.heap.size w4 w5 := (by first | exact hb5 | exact below_by hb5); have X5 := cells9 (HK4.out.below hb5 HK4.out.lt))))
  replace ho5 : OwnB w5 w4.heap.size v5 (l ++ q) := ho5
  obtain ⟨A5, n5, c5, rfl⟩ := own_slice ho5
  have hl5 := own_len ho5
  rw [List.length_append, HL.out] at hl5
  have hn5 : n5 ≤ n + 81 := by have := HPl.out; omega
  have hc5 : n5 ≤ c5 := hl5.2
  have HE5 := Lib.hid hl5.1
  have HO5 := Lib.hid (OwnI.of ho5)
  have HM5 := Lib.hid (HMA.out.below hb5)
  have HB5 := Lib.hid (HB4.out.trans (hb5.mono HB4.out.size))
  have HK5 := Lib.hid (HK4.out.below hb5 HK4.out.lt)
  have s5 := hb5.size
  obtain ⟨y0_, y1_, y2_, y3_, y4_, y5_, y6_, y7_, y8_⟩ := cells9 HK5.out
  have hrm := (RowI.reads (OwnI.rowHeld HM5.out)).take (k := n) (by omega)
  rw [app_take _ _ _ HL.out] at hrm
  clear hmA HMA hl5 ho5 hb5 HB4 HK4 X4 X5 x0_ x1_ x2_ x3_ x4_ x5_ x6_ x7_ x8_
  go_wp2_with fail
  have HRM2 := Lib.hid hrm
  have X5 := cells9 HK5.out
  clear hrm
  go_region_held3 (fun w' => w'.cell? ⟨p, 0, none⟩ = some (.int .i64 f) ∧ w'.cell? ⟨p, 1, none⟩ = some (.int .i64 t) ∧ w'.cell? ⟨p, 2, none⟩ = some (.int .i64 b) ∧ w'.cell? ⟨p, 3, none⟩ = some (.int .i64 s) ∧ w'.cell? ⟨p, 4, none⟩ = some (.int .i64 k) ∧ w'.cell? ⟨p, 5, none⟩ = some (.int .i64 o) ∧ w'.cell? ⟨p, 6, none⟩ = some (.int .i64 d) ∧ w'.cell? ⟨p, 7, none⟩ = some (.int .i64 u) ∧ w'.cell? ⟨p, 8, none⟩ = some (.int .i64 v)) (first | exact X5 | exact X6 | go_keep) (first
    | (go_at_call 15; go_must (refine (HP.out Am cm _ (by first | exact HRM2.out | exact HRM2.out.drewN _) hcm1).mono ?_; rintro e w6 ⟨v6, rfl, ho6, hb6⟩; replace hb6 : Below w5.heap.size w5 w6 := (by first | exact hb6 | exact below_by hb6); have X6 := cells9 (HK5.out.below hb6 HK5.out.lt))))
  replace ho6 : OwnB w6 w5.heap.size v6 (l ++ q) := ho6
  obtain ⟨A6, n6, c6, rfl⟩ := own_slice ho6
  obtain rfl : n5 = n6 := by have h1 := (own_len ho6).1; rw [List.length_append, HL.out] at h1; have := HE5.out; omega
  have hc6 : n5 ≤ c6 := (own_len ho6).2
  have HO6 := Lib.hid (OwnI.of ho6)
  have HO56 := Lib.hid (HO5.out.below hb6)
  have HM6 := Lib.hid (HM5.out.below hb6)
  have HB6 := Lib.hid (HB5.out.trans (hb6.mono HB5.out.size))
  have HK6 := Lib.hid (HK5.out.below hb6 HK5.out.lt)
  have s6 := hb6.size
  obtain ⟨x0_, x1_, x2_, x3_, x4_, x5_, x6_, x7_, x8_⟩ := cells9 HK6.out
  clear ho6 hb6 HM5 HO5 HB5 HK5 X5 X6 y0_ y1_ y2_ y3_ y4_ y5_ y6_ y7_ y8_ HRM HRM2
  go_wp2_with fail
  refine (HE.out w6 (HTb.out.next HB6.out)).mono ?_
  rintro e w7 ⟨v7, rfl, ho7, hb7⟩
  obtain ⟨A7, n7, c7, rfl⟩ := own_slice ho7
  have hn7 : n7 ≤ 85 := by have := (own_len ho7).1; have := HEl.out; omega
  have hc7 : n7 ≤ c7 := (own_len ho7).2
  have HE7 := Lib.hid (own_len ho7).1
  have HO7 := Lib.hid (OwnI.of ho7)
  have HO67 := Lib.hid (HO6.out.below hb7)
  have HO57 := Lib.hid (HO56.out.below hb7)
  have HM7 := Lib.hid (HM6.out.below hb7)
  have HB7 := Lib.hid (HB6.out.trans (hb7.mono HB6.out.size))
  have HK7 := Lib.hid (HK6.out.below hb7 HK6.out.lt)
  have s7 := hb7.size
  obtain ⟨y0_, y1_, y2_, y3_, y4_, y5_, y6_, y7_, y8_⟩ := cells9 HK7.out
  clear ho7 hb7 HO6 HO56 HM6 HB6 HK6 x0_ x1_ x2_ x3_ x4_ x5_ x6_ x7_ x8_
  go_wp2_with fail
  refine (HE.out w7 (HTb.out.next HB7.out)).mono ?_
  rintro e w8 ⟨v8, rfl, ho8, hb8⟩
  obtain ⟨A8, n8, c8, rfl⟩ := own_slice ho8
  obtain rfl : n7 = n8 := by have := (own_len ho8).1; have := HE7.out; omega
  have hc8 : n7 ≤ c8 := (own_len ho8).2
  have HO8 := Lib.hid (OwnI.of ho8)
  have HO78 := Lib.hid (HO7.out.below hb8)
  have HO68 := Lib.hid (HO67.out.below hb8)
  have HO58 := Lib.hid (HO57.out.below hb8)
  have HM8 := Lib.hid (HM7.out.below hb8)
  have HB8 := Lib.hid (HB7.out.trans (hb8.mono HB7.out.size))
  have HR6 := Lib.hid (RowI.reads (OwnI.rowHeld HO68.out))
  have HR8 := Lib.hid (RowI.reads (OwnI.rowHeld HO8.out))
  have s8 := hb8.size
  clear ho8 hb8 HO7 HO67 HO57 HM7 HB7 HK7 y0_ y1_ y2_ y3_ y4_ y5_ y6_ y7_ y8_
  go_wp2_with (first
    | (at_builtin; refine appE w8 rfl (.tmp 49) (.tmp 50) rfl w8.heap.size rfl w8.heap.size A6 c6 (l ++ q) n5 rfl HR6.out (Nat.le_refl _) (by omega) (Nat.le_refl _) ?_; intro v9 w9 hown9 hb9; obtain ⟨A9, n9, c9, rfl⟩ := own_slice hown9; have HO9 := Lib.hid (OwnI.of hown9); have HO89 := Lib.hid (HO8.out.below hb9); have HO79 := Lib.hid (HO78.out.below hb9); have HO69 := Lib.hid (HO68.out.below hb9); have HO59 := Lib.hid (HO58.out.below hb9); have HM9 := Lib.hid (HM8.out.below hb9); have HB9 := Lib.hid (HB8.out.trans (hb9.mono HB8.out.size)); have HR89 := Lib.hid ((HR8.out.below hb9).more hb9.size); have s9 := hb9.size; have HE9 := Lib.hid (own_len hown9).1; clear hown9 hb9 HO8 HO78 HO68 HO58 HM8 HB8)
    | (at_builtin; refine appE w9 rfl (.tmp 52) (.tmp 53) rfl w9.heap.size rfl w9.heap.size A8 c8 E n7 rfl HR89.out (Nat.le_refl _) (by omega) (Nat.le_refl _) ?_; intro v10 w10 hown10 hb10; obtain ⟨A10, n10, c10, rfl⟩ := own_slice hown10; have HO10 := Lib.hid (OwnI.of hown10); have HO9a := Lib.hid (HO9.out.below hb10); have HO8a := Lib.hid (HO89.out.below hb10); have HO7a := Lib.hid (HO79.out.below hb10); have HO6a := Lib.hid (HO69.out.below hb10); have HO5a := Lib.hid (HO59.out.below hb10); have HMa := Lib.hid (HM9.out.below hb10); have HBa := Lib.hid (HB9.out.trans (hb10.mono HB9.out.size)); have s10 := hb10.size; have HE10 := Lib.hid (own_len hown10).1; clear hown10 hb10 HO9 HO89 HO79 HO69 HO59 HM9 HB9))
  obtain rfl : n5 = n9 := by have h1 := HE9.out; rw [List.length_append, HL.out] at h1; have := HE5.out; omega
  obtain rfl : n7 = n10 := by have := HE10.out; have := HE7.out; omega
  clear HR6 HR8 HR89
  have HDk := Lib.hid (HD.out Am (n + 9) cm (l ++ [71, 72, 73, 74, 75, 76, 77, 78, 79]) w10 w10.heap.size (HTb.out.next HBa.out) (RowI.reads (OwnI.rowHeld HMa.out)) hcm9 (isB_app HBl.out (by intro x hx; simp at hx; omega)) (by omega))
  refine HDk.out.mono ?_
  rintro e w11 ⟨rfl, hb11⟩
  have HBb := Lib.hid (HBa.out.trans (hb11.mono HBa.out.size))
  have HMb := Lib.hid (HMa.out.below hb11)
  have HO5b := Lib.hid (HO5a.out.below hb11)
  have HO6b := Lib.hid (HO6a.out.below hb11)
  have HO7b := Lib.hid (HO7a.out.below hb11)
  have HO8b := Lib.hid (HO8a.out.below hb11)
  have HO9b := Lib.hid (HO9a.out.below hb11)
  have HOab := Lib.hid (HO10.out.below hb11)
  have s11 := hb11.size
  clear hb11 HDk HBa HMa HO5a HO6a HO7a HO8a HO9a HO10
  have hrm := (RowI.reads (OwnI.rowHeld HMb.out)).take (k := n) (by omega)
  rw [app_take _ _ _ HL.out] at hrm
  have HSm := Lib.hid (same_any Am a n cm n c l l w11 _ _ hrm ((HR.out.below HBb.out).more HBb.out.size) (by omega))
  rw [decide_eq_true rfl] at HSm
  clear hrm
  go_wp2_with fail
  refine HSm.out.mono ?_
  rintro e w12 ⟨rfl, z8, hw12⟩
  have HB12 : Hid (Below w.heap.size w w12) := Lib.hid (by rw [hw12]; exact below_drewN HBb.out _)
  have HM12 : Hid (Held w2.heap.size w4.heap.size (OwnI w2.heap.size w4.heap.size (.slice Am (n + 9) cm) (l ++ [71, 72, 73, 74, 75, 76, 77, 78, 79])) w12) := Lib.hid (by rw [hw12]; exact HMb.out.drewN _)
  have HO5c : Hid (Held w4.heap.size w5.heap.size (OwnI w4.heap.size w5.heap.size (.slice A5 n5 c5) (l ++ q)) w12) := Lib.hid (by rw [hw12]; exact HO5b.out.drewN _)
  have HO6c : Hid (Held w5.heap.size w6.heap.size (OwnI w5.heap.size w6.heap.size (.slice A6 n5 c6) (l ++ q)) w12) := Lib.hid (by rw [hw12]; exact HO6b.out.drewN _)
  have HO7c : Hid (Held w6.heap.size w7.heap.size (OwnI w6.heap.size w7.heap.size (.slice A7 n7 c7) E) w12) := Lib.hid (by rw [hw12]; exact HO7b.out.drewN _)
  have HO8c : Hid (Held w7.heap.size w8.heap.size (OwnI w7.heap.size w8.heap.size (.slice A8 n7 c8) E) w12) := Lib.hid (by rw [hw12]; exact HO8b.out.drewN _)
  have HO9c : Hid (Held w8.heap.size w9.heap.size (OwnI w8.heap.size w9.heap.size (.slice A9 n5 c9) (l ++ q)) w12) := Lib.hid (by rw [hw12]; exact HO9b.out.drewN _)
  have HOac : Hid (Held w9.heap.size w10.heap.size (OwnI w9.heap.size w10.heap.size (.slice A10 n7 c10) E) w12) := Lib.hid (by rw [hw12]; exact HOab.out.drewN _)
  have hs12 : w11.heap.size ≤ w12.heap.size := by rw [hw12]; exact Nat.le_refl _
  obtain ⟨gm, rfl, c71, c79⟩ := nine_ HM12.out.out HL.out
  clear hw12 HSm HBb HMb HO5b HO6b HO7b HO8b HO9b HOab
  go_wp2
  go_loopw [14, 83] (fun _ j wr => ∃ (i : Nat) (l' : List Int), j = .int .i64 i ∧ i ≤ n + 9 ∧ OwnI w2.heap.size w4.heap.size (.slice (some ⟨gm, 0, none⟩) (n + 9) cm) l' wr ∧ Mod w2.heap.size w4.heap.size w12 wr) (fun _ j _ => n + 9 - (intOf j).toNat)
  case atStart => exact ⟨0, _, rfl, by omega, HM12.out.out, Mod.refl _ _ _⟩
  case round =>
    obtain ⟨i, l1, rfl, hi1, hO, hm⟩ := hrel
    obtain ⟨w13, rfl⟩ : ∃ w13 : World, w13 = wr := ⟨_, rfl⟩
    by_cases hi2 : i < n + 9
    · obtain ⟨gq, e, _, _, _, hc1, hf1, hst⟩ := hO.store (i := i) hi2
      injection e with e; injection e with e; subst e
      obtain ⟨ho2, hm2⟩ := hst 1
      have HOm := Lib.hid ho2
      have HMm := Lib.hid (hm.trans hm2)
      clear hst ho2 hm2 hO hm
      go_wp2
      go_roundw
      case rel => exact ⟨i + 1, _, by go_num, by omega, HOm.out, HMm.out⟩
      case measure => simp [intOf]; omega
    have HB13 := Lib.hid (hm.below HB12.out hs2 HB12.out.size)
    have HO5d := Lib.hid (HO5c.out.mod hm (.inl (Nat.le_refl _)))
    have HO6d := Lib.hid (HO6c.out.mod hm (.inl (by omega)))
    have HO7d := Lib.hid (HO7c.out.mod hm (.inl (by omega)))
    have HO8d := Lib.hid (HO8c.out.mod hm (.inl (by omega)))
    have HO9d := Lib.hid (HO9c.out.mod hm (.inl (by omega)))
    have HOad := Lib.hid (HOac.out.mod hm (.inl (by omega)))
    have hs13 := hm.size
    clear hO hm HB12 HM12 HO5c HO6c HO7c HO8c HO9c HOac
    go_wp2
    go_loopw [15, 92] (fun _ j wr => ∃ (i : Nat) (l' : List Int), j = .int .i64 i ∧ i ≤ n5 ∧ OwnI w4.heap.size w5.heap.size (.slice A5 n5 c5) l' wr ∧ Mod w4.heap.size w5.heap.size w13 wr) (fun _ j _ => n5 - (intOf j).toNat)
    case atStart => exact ⟨0, _, rfl, by omega, HO5d.out.out, Mod.refl _ _ _⟩
    case round =>
      obtain ⟨i, l1, rfl, hi1, hO, hm⟩ := hrel
      obtain ⟨w14, rfl⟩ : ∃ w14 : World, w14 = wr := ⟨_, rfl⟩
      by_cases hi2 : i < n5
      · obtain ⟨gq, e, _, _, _, hc1, hf1, hst⟩ := hO.store (i := i) hi2
        subst e
        obtain ⟨ho2, hm2⟩ := hst 2
        have HOm := Lib.hid ho2
        have HMm := Lib.hid (hm.trans hm2)
        clear hst ho2 hm2 hO hm
        go_wp2
        go_roundw
        case rel => exact ⟨i + 1, _, by go_num, by omega, HOm.out, HMm.out⟩
        case measure => simp [intOf]; omega
      have HB14 := Lib.hid (hm.below HB13.out (by omega) HB13.out.size)
      have HO6e := Lib.hid (HO6d.out.mod hm (.inl (Nat.le_refl _)))
      have HO7e := Lib.hid (HO7d.out.mod hm (.inl (by omega)))
      have HO8e := Lib.hid (HO8d.out.mod hm (.inl (by omega)))
      have HO9e := Lib.hid (HO9d.out.mod hm (.inl (by omega)))
      have HOae := Lib.hid (HOad.out.mod hm (.inl (by omega)))
      have HO5e := Lib.hid (OwnI.held hO (by have := HB14.out.size; have := hm.size; omega))
      have hla := hO.row.1
      have hs14 := hm.size
      clear hO hm HB13 HO5d HO6d HO7d HO8d HO9d HOad
      go_wp2
      go_loopw [16, 101] (fun _ j wr => ∃ (i : Nat) (l' : List Int), j = .int .i64 i ∧ i ≤ n7 ∧ OwnI w6.heap.size w7.heap.size (.slice A7 n7 c7) l' wr ∧ Mod w6.heap.size w7.heap.size w14 wr) (fun _ j _ => n7 - (intOf j).toNat)
      case atStart => exact ⟨0, _, rfl, by omega, HO7e.out.out, Mod.refl _ _ _⟩
      case round =>
        obtain ⟨i, l1b, rfl, hi1, hO, hm⟩ := hrel
        obtain ⟨w15, rfl⟩ : ∃ w15 : World, w15 = wr := ⟨_, rfl⟩
        by_cases hi2 : i < n7
        · obtain ⟨gq, e, _, _, _, hc1, hf1, hst⟩ := hO.store (i := i) hi2
          subst e
          obtain ⟨ho2, hm2⟩ := hst 3
          have HOm := Lib.hid ho2
          have HMm := Lib.hid (hm.trans hm2)
          clear hst ho2 hm2 hO hm
          go_wp2
          go_roundw
          case rel => exact ⟨i + 1, _, by go_num, by omega, HOm.out, HMm.out⟩
          case measure => simp [intOf]; omega
        have HB15 := Lib.hid (hm.below HB14.out (by omega) HB14.out.size)
        have HO5f := Lib.hid (HO5e.out.mod hm (.inr (by omega)))
        have HO6f := Lib.hid (HO6e.out.mod hm (.inr (Nat.le_refl _)))
        have HO8f := Lib.hid (HO8e.out.mod hm (.inl (Nat.le_refl _)))
        have HO9f := Lib.hid (HO9e.out.mod hm (.inl (by omega)))
        have HOaf := Lib.hid (HOae.out.mod hm (.inl (by omega)))
        have hs15 := hm.size
        have HOa2 := Lib.hid hO
        have hlb := hO.row.1
        clear hO hm HB14 HO5e HO6e HO7e HO8e HO9e HOae
        go_wp2
        go_loopw [17, 18, 19] (fun lv mv j wr => ∃ (i : Nat) (la lb : List Int) (A' A'' : Option Addr) (c' c'' : Nat), j = .int .i64 i ∧ i ≤ 40 ∧ lv = .slice A' (n5 + i) c' ∧ mv = .slice A'' (n7 + i) c'' ∧ la.length = n5 + i ∧ lb.length = n7 + i ∧ OwnB wr w4.heap.size (.slice A' (n5 + i) c') la ∧ OwnB wr w6.heap.size (.slice A'' (n7 + i) c'') lb ∧ (∀ g, (Value.slice A' (n5 + i) c').ownBlock = some g → (Value.slice A'' (n7 + i) c'').ownBlock ≠ some g) ∧ (∀ g, (Value.slice A' (n5 + i) c').ownBlock = some g → g < w5.heap.size ∨ w15.heap.size ≤ g) ∧ (∀ g, (Value.slice A'' (n7 + i) c'').ownBlock = some g → g < w7.heap.size ∨ w15.heap.size ≤ g) ∧ Turned (Two w4.heap.size w5.heap.size w6.heap.size w7.heap.size) w15 wr) (fun _ _ j _ => 40 - (intOf j).toNat)
        case atStart => exact ⟨0, l1, l1b, A5, A7, c5, c7, rfl, by omega, rfl, rfl, hla, hlb, HO5f.out.out.1, HOa2.out.1, fun g hg hg2 => by have h1 := HO5f.out.out.2 g hg; have h2 := own_base HOa2.out.1 g hg2; omega, fun g hg => .inl (HO5f.out.out.2 g hg), fun g hg => .inl (HOa2.out.2 g hg), Turned.refl _ _⟩
        case round =>
          obtain ⟨t9, l2, l3, A16, A17, c16, c17, rfl, ht, rfl, rfl, hl2, hl3, hO, hO2, hne, hbk, hbk2, hm⟩ := hrel
          obtain ⟨w16, rfl⟩ : ∃ w16 : World, w16 = wr := ⟨_, rfl⟩
          have HO := Lib.hid hO
          have HO2 := Lib.hid hO2
          have HNe := Lib.hid hne
          have HBk := Lib.hid hbk
          have HBk2 := Lib.hid hbk2
          have HMm := Lib.hid hm
          have HL2 := Lib.hid hl2
          have HL3 := Lib.hid hl3
          have s16 := hm.size
          clear hO hO2 hne hbk hbk2 hm hl2 hl3
          by_cases ht2 : t9 < 40
          · obtain ⟨x, hx⟩ : ∃ x, x = n5 + t9 := ⟨_, rfl⟩
            obtain ⟨x', hx'⟩ : ∃ x', x' = n7 + t9 := ⟨_, rfl⟩
            rw [← hx] at HO HNe HBk HL2 ⊢
            rw [← hx'] at HO2 HNe HBk2 HL3 ⊢
            have hxb : x ≤ n + 125 := by omega
            have hxb' : x' ≤ 125 := by omega
            have HX := Lib.hid hx
            have HX' := Lib.hid hx'
            have HRn : Hid (Reads (w16.alloc (.cells #[.int .u8 4] 5)) (w16.heap.size + 1) 1 (some ⟨w16.heap.size, 0, none⟩) 1 (bts [4])) := Lib.hid (reads_new w16 _ _ _ 1 (bts [4]) rfl rfl (by omega))
            clear hx hx'
            go_wp2_with (first
              | (at_builtin; refine appB _ rfl (.tmp 114) (.tmp 115) rfl w4.heap.size _ l2 rfl (HO.out.alloc _) (w16.heap.size + 1) _ 1 [4] 1 rfl HRn.out (by have := HL2.out; omega) (by simp; omega) ?_; intro v18 w18 hown18 hb18 hat18 hg18; obtain ⟨A18, n18, c18, rfl⟩ := own_slice hown18; have HO18 := Lib.hid hown18; have HAt := Lib.hid hat18; have HG := Lib.hid hg18; have s18 : w16.heap.size + 1 ≤ w18.heap.size := (by have := hg18.size; simpa using this); clear hown18 hb18 hat18 hg18)
              | (at_builtin; refine appB _ rfl (.tmp 117) (.tmp 118) rfl w6.heap.size _ l3 rfl ((own_move (HO2.out.alloc _) HG.out (fun g hg hg2 => HNe.out g hg2 hg)).alloc _) (w18.heap.size + 1) _ 1 [5] 1 rfl (reads_new w18 _ _ _ 1 (bts [5]) rfl rfl (by omega)) (by have := HL3.out; omega) (by simp; omega) ?_; intro v19 w19 hown19 hb19 hat19 hg19; obtain ⟨A19, n19, c19, rfl⟩ := own_slice hown19; have HO19 := Lib.hid hown19; have HAt2 := Lib.hid hat19; have HG2 := Lib.hid hg19; clear hown19 hb19 hat19 hg19))
            have hn18 : n18 = x + 1 := by have h1 := (own_len HO18.out).1; rw [List.length_append, HL2.out] at h1; exact h1.symm
            subst hn18
            have hn19 : n19 = x' + 1 := by have h1 := (own_len HO19.out).1; rw [List.length_append, HL3.out] at h1; exact h1.symm
            subst hn19
            have HRel : Hid (∃ (la lb : List Int) (A' A'' : Option Addr) (c' c'' : Nat), A18 = A' ∧ c18 = c' ∧ A19 = A'' ∧ c19 = c'' ∧ la.length = x + 1 ∧ lb.length = x' + 1 ∧ OwnB w19 w4.heap.size (.slice A' (x + 1) c') la ∧ OwnB w19 w6.heap.size (.slice A'' (x' + 1) c'') lb ∧ (∀ g, (Value.slice A' (x + 1) c').ownBlock = some g → (Value.slice A'' (x' + 1) c'').ownBlock ≠ some g) ∧ (∀ g, (Value.slice A' (x + 1) c').ownBlock = some g → g < w5.heap.size ∨ w15.heap.size ≤ g) ∧ (∀ g, (Value.slice A'' (x' + 1) c'').ownBlock = some g → g < w7.heap.size ∨ w15.heap.size ≤ g) ∧ Turned (Two w4.heap.size w5.heap.size w6.heap.size w7.heap.size) w15 w19) := Lib.hid (by
              have hlt1 := HO.out.lt
              have hlt2 := HO2.out.lt
              have hlt18 := HO18.out.lt
              have hA18 : ∀ g, (Value.slice A18 (x + 1) c18).ownBlock = some g → (Value.slice A16 x c16).ownBlock = some g ∨ w16.heap.size < g := by
                intro g hg
                rcases HAt.out with h1 | h1
                · exact .inl (h1.symm.trans hg)
                · right; rw [h1] at hg; injection hg with hg; simp at hg; omega
              have hA19 : ∀ g, (Value.slice A19 (x' + 1) c19).ownBlock = some g → (Value.slice A17 x' c17).ownBlock = some g ∨ w18.heap.size < g := by
                intro g hg
                rcases HAt2.out with h1 | h1
                · exact .inl (h1.symm.trans hg)
                · right; rw [h1] at hg; injection hg with hg; simp at hg; omega
              have hne2 : ∀ g, (Value.slice A18 (x + 1) c18).ownBlock = some g → (Value.slice A17 x' c17).ownBlock ≠ some g := by
                intro g hg hg2
                rcases hA18 g hg with h1 | h1
                · exact HNe.out g h1 hg2
                · have := hlt2 g hg2; omega
              refine ⟨l2 ++ [4], l3 ++ [5], A18, A19, c18, c19, rfl, rfl, rfl, rfl, by rw [List.length_append, HL2.out]; rfl, by rw [List.length_append, HL3.out]; rfl, own_move (HO18.out.alloc _) HG2.out (fun g hg hg2 => hne2 g hg hg2), HO19.out, ?_, ?_, ?_, ?_⟩
              · intro g hg hg2
                rcases hA19 g hg2 with h1 | h1
                · exact hne2 g hg h1
                · have := hlt18 g hg; omega
              · intro g hg
                rcases hA18 g hg with h1 | h1
                · exact HBk.out g h1
                · right; omega
              · intro g hg
                rcases hA19 g hg with h1 | h1
                · exact HBk2.out g h1
                · right; omega
              · refine ((((HMm.out.alloc _).grown HG.out (fun g hg hlt => ?_)).alloc _).grown HG2.out (fun g hg hlt => ?_))
                · have h1 := own_base HO.out g hg
                  rcases HBk.out g hg with h2 | h2
                  · exact .inl ⟨h1, h2⟩
                  · omega
                · have h1 := own_base HO2.out g hg
                  rcases HBk2.out g hg with h2 | h2
                  · exact .inr ⟨h1, h2⟩
                  · omega)
            go_roundw
            case rel =>
              obtain ⟨la, lb, A', A'', c', c'', rfl, rfl, rfl, rfl, h1, h2, h3, h4, h5, h6, h7, h8⟩ := HRel.out
              have e1 : x + 1 = n5 + (t9 + 1) := by rw [HX.out]; rfl
              have e2 : x' + 1 = n7 + (t9 + 1) := by rw [HX'.out]; rfl
              rw [e1] at h1 h3 h5 h6
              rw [e2] at h2 h4 h5 h7
              exact ⟨t9 + 1, la, lb, A18, A19, c18, c19, by go_num, by omega, by rw [← e1], by rw [← e2], h1, h2, h3, h4, h5, h6, h7, h8⟩
            case measure => simp [intOf]; omega
          · obtain rfl : 40 = t9 := by omega
            have HB16 := Lib.hid (HMm.out.below HB15.out HB15.out.size (fun i hi => by rcases hi with ⟨h1, _⟩ | ⟨h1, _⟩ <;> omega))
            have HO6g := HO6f.out.turned HMm.out (fun i h1 h2 hi => by rcases hi with ⟨h3, h4⟩ | ⟨h3, h4⟩ <;> omega)
            have HO8g := HO8f.out.turned HMm.out (fun i h1 h2 hi => by rcases hi with ⟨h3, h4⟩ | ⟨h3, h4⟩ <;> omega)
            have HO9g := HO9f.out.turned HMm.out (fun i h1 h2 hi => by rcases hi with ⟨h3, h4⟩ | ⟨h3, h4⟩ <;> omega)
            have HOag := HOaf.out.turned HMm.out (fun i h1 h2 hi => by rcases hi with ⟨h3, h4⟩ | ⟨h3, h4⟩ <;> omega)
            have HSm := Lib.hid (fun i => same_any A6 A9 n5 c6 n5 c9 (l ++ q) (l ++ q) (w16.drewN i) _ _ (RowI.reads (OwnI.rowHeld (HO6g.drewN i))) (RowI.reads (OwnI.rowHeld (HO9g.drewN i))) (by omega))
            rw [decide_eq_true rfl] at HSm
            have HSn := Lib.hid (fun i => same_any A8 A10 n7 c8 n7 c10 E E (w16.drewN i) _ _ (RowI.reads (OwnI.rowHeld (HO8g.drewN i))) (RowI.reads (OwnI.rowHeld (HOag.drewN i))) (by omega))
            rw [decide_eq_true rfl] at HSn
            have hwr : IntKind.i64.wrap ((n5 : Int) + 40) = ((n5 + 40 : Nat) : Int) := by rw [IntWalk.i64_in _ (by omega)]; rfl
            have teq : (((n5 + 40 : Nat) : Int) == ((n5 + 40 : Nat) : Int)) = true := by simp
            have hwr2 : IntKind.i64.wrap ((n7 : Int) + 40) = ((n7 + 40 : Nat) : Int) := by rw [IntWalk.i64_in _ (by omega)]; rfl
            have teq2 : (((n7 + 40 : Nat) : Int) == ((n7 + 40 : Nat) : Int)) = true := by simp
            clear HO6g HO8g HO9g HOag
            go_wp2_with fail
            refine (HSm.out 0).mono ?_
            rintro e w17 ⟨rfl, k17, rfl⟩
            go_wp2_with fail
            refine (HSn.out k17).mono ?_
            rintro e w18 ⟨rfl, k18, rfl⟩
            go_wp2
            go_ret
            exact ⟨rfl, below_drewN HB16.out _⟩
end Go.Proofs.YtmegpbejknmjbaaDoor.Pk
