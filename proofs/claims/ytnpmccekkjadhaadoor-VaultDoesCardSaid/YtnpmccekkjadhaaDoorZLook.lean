/- The document's vault: the frame of a generation and a snapshot. -/
import Derived.Test.YtnpmccekkjadhaaDoorZMath
import Derived.Test.YtnpmccekkjadhaaDoorZFrm
import Derived.Laws.BitsAllLaws
import Derived.BigQuiet
import Derived.Test.YtnpmccekkjadhaaDoorZMem
namespace Go.Proofs.YtnpmccekkjadhaaDoor.Pk
open Go.RowKit Go.Proofs.YtnpmccekkjadhaaDoor.Crc Go.Proofs.YtnpmccekkjadhaaDoor.Fr Go.Proofs.YtnpmccekkjadhaaDoor.Vk
set_option linter.unusedVariables false
theorem results_tmp4 {fn : Func} {t u v x : Tmp} (h : fn.results = #[.tmp t, .tmp u, .tmp v, .tmp x]) (tmps : Array Value) (P : Program) (w : World) :
    (results fn tmps).run P w = .ok (.tuple #[tmps.getD t undef, tmps.getD u undef, tmps.getD v undef, tmps.getD x undef]) w := by
  simp [results, h]
/-- What first answers. -/
def FirP (g : Nat) (s : List Int) (w : World) (e : Ending) (w' : World) : Prop :=
  Below w.heap.size w w' ∧ ((s.length ≤ 1048568 ∧ ∃ A n c, e = .returned (.tuple #[.slice A n c, .int .i64 0]) ∧ OwnB w' w.heap.size (.slice A n c) (fg g s)) ∨ (1048568 < s.length ∧ e = .returned (.tuple #[.slice none 0 0, .int .i64 3])))
theorem byte_at {g k : Nat} (hg : g < 9223372036854775808) : (((g / 256 ^ k : Nat) : Int) % 256) = ((g / 256 ^ k % 256 : Nat) : Int) := by omega
theorem shr_at (g k : Nat) : g / 256 ^ k / 256 = g / 256 ^ (k + 1) := by rw [Nat.div_div_eq_div_mul, Nat.pow_succ]

set_option maxRecDepth 100000 in
set_option maxHeartbeats 1600000 in
theorem firstR_any (g : Nat) (hg : g < 9223372036854775808) (A : Option Addr) (n c : Nat) (s : List Int) (w : World) (hr : Reads w w.heap.size 1 A n (bts s)) (hby : Bytes s) (hn : n ≤ 70368744177664) :
    Calls Tryd.prog 39 #[.int .i64 (g : Int), .slice A n c] w (FirP g s w) := by
  have HL : Hid (s.length = n) := Lib.hid (by have := hr.1; simpa using this)
  have HR := Lib.hid hr
  have HB := Lib.hid hby
  clear hr hby
  go_enter Tryd.func39, Tryd.ntmps39
  go_wp2
  go_loopw [6, 7, 8] (fun v x i wr => ∃ k : Nat, i = .int .i64 k ∧ k ≤ 8 ∧ x = .int .u64 ((g / 256 ^ k : Nat) : Int) ∧ OwnB wr w.heap.size v (leN k g) ∧ Below w.heap.size w wr) (fun _ _ i _ => 8 - (intOf i).toNat)
  case atStart => exact ⟨0, rfl, by omega, by simp, OwnB.nil_ _ _, Below.refl _ _⟩
  case round =>
    obtain ⟨k, rfl, hk, rfl, hown, hbel⟩ := hrel
    obtain ⟨w2, rfl⟩ : ∃ w2 : World, w2 = wr := ⟨_, rfl⟩
    obtain ⟨A2, n2, c2, rfl⟩ := own_slice hown
    have HL2 : Hid (k = n2) := Lib.hid (by have := (own_len hown).1; rwa [leN_length] at this)
    have HO := Lib.hid hown
    have HBe := Lib.hid hbel
    clear hown hbel
    obtain ⟨x, hx⟩ : ∃ x, x = g / 256 ^ k := ⟨_, rfl⟩
    have hx63 : x < 9223372036854775808 := by rw [hx]; exact Nat.lt_of_le_of_lt (Nat.div_le_self _ _) hg
    have HX := Lib.hid hx
    rw [← hx]
    clear hx
    by_cases hlt : k < 8
    · have HY : Hid ((x : Int) % 256 = ((g / 256 ^ k % 256 : Nat) : Int)) := Lib.hid (by rw [← HX.out]; omega)
      have HX1 : Hid (x / 256 = g / 256 ^ (k + 1)) := Lib.hid (by rw [HX.out, shr_at])
      go_wp2_with (at_builtin; refine app1 w2 ((x : Int) % 256) _ rfl (.tmp 15) (.tmp 18) rfl w.heap.size _ (leN k g) rfl HO.out rfl (by rw [leN_length]; omega) HBe.out.size ?_; intro v3 w3 hown3 hb3; have HO3 := Lib.hid hown3; have HB3 := Lib.hid (HBe.out.trans hb3); clear hown3 hb3)
      go_roundw
      case rel => exact ⟨k + 1, by go_num, by omega, by rw [← HX1.out]; rfl, by rw [leN_snoc, ← HY.out]; exact HO3.out, HB3.out⟩
      case measure => simp [intOf]; omega
    · have HK : Hid (k = 8) := Lib.hid (by omega)
      have HO8 : Hid (OwnB w2 w.heap.size (.slice A2 n2 c2) (leN 8 g)) := Lib.hid (by rw [← HK.out]; exact HO.out)
      have HRd : Hid (Reads w2 w.heap.size 1 A n (bts s)) := Lib.hid (HR.out.below HBe.out)
      clear HX
      go_wp2_with (at_builtin; refine appB w2 rfl (.tmp 22) (.tmp 23) rfl w.heap.size _ (leN 8 g) rfl HO8.out w.heap.size A c s n rfl HRd.out (by rw [leN_length]; omega) HBe.out.size ?_; intro v3 w3 hown3 hb3 _ _; obtain ⟨A3, n3, c3, rfl⟩ := own_slice hown3; have HO3 := Lib.hid hown3; have HB3 := Lib.hid (HBe.out.trans hb3); clear hown3 hb3)
      refine (refEnc_any A3 n3 c3 (leN 8 g ++ s) w3 (own_reads HO3.out) ((leN_bytes 8 g).app HB.out) (by have h1 := (own_len HO3.out).1; have h2 := HL.out; simp at h1; omega)).mono ?_
      rintro e w4 ⟨hb4, ⟨hl4, A4, n4, c4, rfl, ho4⟩ | ⟨hl4, rfl⟩⟩
      · have HO4 := Lib.hid ho4
        have HB4 := Lib.hid hb4
        have HL4 := Lib.hid hl4
        clear ho4 hb4 hl4
        go_wp2
        go_ret2
        refine ⟨HB3.out.trans (HB4.out.mono HB3.out.size), .inl ⟨by have := HL4.out; simp at this; omega, A4, n4, c4, rfl, HO4.out.mono HB3.out.size⟩⟩
      · have HB4 := Lib.hid hb4
        have HL4 := Lib.hid hl4
        clear hb4 hl4
        go_wp2
        go_ret2
        exact ⟨HB3.out.trans (HB4.out.mono HB3.out.size), .inr ⟨by have := HL4.out; simp at this; omega, rfl⟩⟩
end Go.Proofs.YtnpmccekkjadhaaDoor.Pk

/- The document's vault: what a file's bytes tell. -/
namespace Go.Proofs.YtnpmccekkjadhaaDoor.Pk
open Go.RowKit Go.Proofs.YtnpmccekkjadhaaDoor.Crc Go.Proofs.YtnpmccekkjadhaaDoor.Fr Go.Proofs.YtnpmccekkjadhaaDoor.Vk
set_option linter.unusedVariables false
/-- A value that reads as the bytes l, in memory from block B on. -/
def SnV (w : World) (B hi : Nat) (v : Value) (l : List Int) : Prop := ∃ A n c, v = .slice A n c ∧ n ≤ c ∧ l.length = n ∧ Reads w hi 1 A n (bts l) ∧ (0 < n → ∀ ad, A = some ad → B ≤ ad.block)
/-- A row of lists, of which one may append to what is read of it. -/
def RoomL (w : World) (B hi : Nat) (A : Option Addr) (n c : Nat) : Prop :=
  (A = none ∧ n = 0 ∧ c = 0) ∨ ∃ g off cur, A = some ⟨g, off, none⟩ ∧ B ≤ g ∧ g < hi ∧ w.heap[g]? = some (.cells cur 22 (0, 0)) ∧ off + c ≤ cur.size ∧ n ≤ c ∧ c ≤ maxLen
/-- A value that reads as the lists ls, in memory from block B on. -/
def RcV (w : World) (B hi : Nat) (v : Value) (ls : List (List Int)) : Prop :=
  ∃ A n c ps, v = .slice A n c ∧ Piece.bytes ps = ls ∧ RdL w hi A n ps ∧ RoomL w B hi A n c ∧ ∀ p ∈ ps, 0 < p.n → ∀ ad, p.a = some ad → B ≤ ad.block
section
variable {w w' : World} {B hi n c : Nat} {A : Option Addr} {v : Value}
theorem reads_stay {size : Nat} {xs : List Value} (h : Reads w hi size A n xs) (hB : 0 < n → ∀ ad, A = some ad → B ≤ ad.block) (hk : ∀ g, B ≤ g → g < hi → w'.heap[g]? = w.heap[g]?) : Reads w' hi size A n xs :=
  ⟨h.1, fun hn => by
    obtain ⟨ad, e, hb, hc⟩ := h.2 hn
    exact ⟨ad, e, hb, fun j u hu => (World.cell?_of_block (by rw [block_of_add]; exact hk _ (hB hn ad e) hb)).trans (hc j u hu)⟩⟩
theorem SnV.stay {l : List Int} (h : SnV w B hi v l) (hk : ∀ g, B ≤ g → g < hi → w'.heap[g]? = w.heap[g]?) : SnV w' B hi v l := by
  obtain ⟨A, n, c, e, h1, h2, h3, h4⟩ := h
  exact ⟨A, n, c, e, h1, h2, reads_stay h3 h4 hk, h4⟩
theorem SnV.more {l : List Int} {hi' : Nat} (h : SnV w B hi v l) (hh : hi ≤ hi') : SnV w B hi' v l := by
  obtain ⟨A, n, c, e, h1, h2, h3, h4⟩ := h
  exact ⟨A, n, c, e, h1, h2, h3.more hh, h4⟩
theorem RoomL.stay (h : RoomL w B hi A n c) (hk : ∀ g, B ≤ g → g < hi → w'.heap[g]? = w.heap[g]?) : RoomL w' B hi A n c := by
  rcases h with h | ⟨g, off, cur, e, h1, h2, h3, h4⟩
  · exact .inl h
  · exact .inr ⟨g, off, cur, e, h1, h2, (hk g h1 h2).trans h3, h4⟩
theorem RoomL.more {hi' : Nat} (h : RoomL w B hi A n c) (hh : hi ≤ hi') : RoomL w B hi' A n c := by
  rcases h with h | ⟨g, off, cur, e, h1, h2, h3, h4⟩
  · exact .inl h
  · exact .inr ⟨g, off, cur, e, h1, by omega, h3, h4⟩
theorem RcV.stay {ls : List (List Int)} (h : RcV w B hi v ls) (hk : ∀ g, B ≤ g → g < hi → w'.heap[g]? = w.heap[g]?) : RcV w' B hi v ls := by
  obtain ⟨A, n, c, ps, e, h1, h2, h3, h4⟩ := h
  refine ⟨A, n, c, ps, e, h1, ⟨reads_stay h2.1 (fun hn ad e2 => ?_) hk, fun p hp => ⟨reads_stay (h2.2 p hp).1 (h4 p hp) hk, (h2.2 p hp).2⟩⟩, h3.stay hk, h4⟩
  rcases h3 with ⟨e3, _⟩ | ⟨g, off, cur, e3, h5, _⟩
  · rw [e3] at e2; cases e2
  · rw [e3] at e2; injection e2 with e2; rw [← e2]; exact h5
theorem RcV.more {ls : List (List Int)} {hi' : Nat} (h : RcV w B hi v ls) (hh : hi ≤ hi') : RcV w B hi' v ls := by
  obtain ⟨A, n, c, ps, e, h1, h2, h3, h4⟩ := h
  exact ⟨A, n, c, ps, e, h1, h2.more hh, h3.more hh, h4⟩
theorem SnV.lower {l : List Int} {B' : Nat} (h : SnV w B hi v l) (hh : B' ≤ B) : SnV w B' hi v l := by
  obtain ⟨A, n, c, e, h1, h2, h3, h4⟩ := h
  exact ⟨A, n, c, e, h1, h2, h3, fun hn ad e2 => Nat.le_trans hh (h4 hn ad e2)⟩
theorem RcV.lower {ls : List (List Int)} {B' : Nat} (h : RcV w B hi v ls) (hh : B' ≤ B) : RcV w B' hi v ls := by
  obtain ⟨A, n, c, ps, e, h1, h2, h3, h4⟩ := h
  refine ⟨A, n, c, ps, e, h1, h2, ?_, fun p hp hn ad e2 => Nat.le_trans hh (h4 p hp hn ad e2)⟩
  rcases h3 with h | ⟨g, off, cur, e, h1, h2⟩
  · exact .inl h
  · exact .inr ⟨g, off, cur, e, Nat.le_trans hh h1, h2⟩
end
/-- What Look answers. -/
def LookP (b : List Int) (w : World) (e : Ending) (w' : World) : Prop :=
  Below w.heap.size w w' ∧ ∃ vs vr, e = .returned (.tuple #[.int .i64 (gen b : Nat), vs, vr, .int .i64 (fend b : Nat)]) ∧
    ((gen b = 0 ∧ vs = .slice none 0 0 ∧ vr = .slice none 0 0) ∨ (gen b ≠ 0 ∧ SnV w' w.heap.size w'.heap.size vs (snap b) ∧ RcV w' w.heap.size w'.heap.size vr (recs b)))
theorem gen_some {b : List Int} {p : List Int} {rs : List (List Int)} (h : frames b = p :: rs) : gen b = if p.length < 8 ∨ num8 p < 1 ∨ 4611686018427387904 < num8 p then 0 else num8 p := by unfold gen; rw [h]
theorem gen_none {b : List Int} (h : frames b = []) : gen b = 0 := by unfold gen; rw [h]
theorem cutA_block {A : Option Addr} {c k : Nat} {ad : Addr} (h : cutA A c k = some ad) : ∃ ad', A = some ad' ∧ ad.block = ad'.block := by
  unfold cutA at h
  split at h
  · exact ⟨ad, h, rfl⟩
  · obtain ⟨ad', h1, h2⟩ := Option.map_eq_some_iff.1 h
    exact ⟨ad', h1, by rw [← h2, block_of_add]⟩
theorem or_mul {a b : Nat} (hb : b < 256) : (a * 256) ||| b = b + 256 * a := by
  have h := Nat.two_pow_add_eq_or_of_lt (i := 8) (b := b) (by omega) a
  rw [show (2 : Nat) ^ 8 = 256 from rfl] at h
  rw [Nat.mul_comm a 256, ← h, Nat.add_comm]
theorem numL_up {l : List Int} (h : Bytes l) {k : Nat} (hk : k ≤ l.length) : numL (l.drop k) < 256 ^ (l.length - k) := by
  have := numL_lt (h.drop k)
  rwa [List.length_drop] at this

set_option maxRecDepth 100000 in
set_option maxHeartbeats 3200000 in
theorem look_any (A : Option Addr) (n c : Nat) (b : List Int) (w : World) (hr : Reads w w.heap.size 1 A n (bts b)) (hnc : n ≤ c) (hby : Bytes b) (hn : n ≤ 17179869184) :
    Calls Tryd.prog 47 #[.slice A n c] w (LookP b w) := by
  have HX := Lib.hid (refAll_any A n c b w hr hnc hby hn)
  have HBy := Lib.hid hby
  have HFc : Hid (∀ p ∈ frames b, p.length ≤ 1048576) := Lib.hid (frames_fit b)
  clear hr hby
  go_enter Tryd.func47, Tryd.ntmps47
  go_wp2_with fail
  refine HX.out.mono ?_
  rintro e w1 ⟨hb1, A1, n1, c1, ps, rfl, hL, hps⟩
  have HB1 := Lib.hid hb1
  have HL := Lib.hid hL
  have HPs := Lib.hid hps
  have hfit : ∀ p ∈ ps, p.l.length ≤ 1048576 := fun p hp => HFc.out p.l (by rw [← hps]; exact List.mem_map.2 ⟨p, hp, rfl⟩)
  have hrd := hL.rd (fun p hp => by have := hfit p hp; omega)
  have hln := hrd.len
  cases ps with
  | nil =>
    have h0 : Hid (gen b = 0) := Lib.hid (gen_none hps.symm)
    have hn1 : n1 = 0 := hln.symm
    subst hn1
    clear hb1 hL hps hfit hrd hln HX
    go_wp2
    (try simp only [Exit.inBlock, Exit.then]); refine bodyPost_ret (results_tmp4 rfl _ _ _) rfl ?_
    exact ⟨HB1.out, _, _, by rw [h0.out]; rfl, .inl ⟨h0.out, rfl, rfl⟩⟩
  | cons p rs =>
    have hg := gen_some (b := b) (p := p.l) (rs := Piece.bytes rs) hps.symm
    have hn1 : 0 < n1 := by rw [← hln]; simp
    have hpn : p.l.length = p.n := by have := (hrd.2 p (by simp)).1.1; simpa using this
    obtain ⟨g, off, p', rfl, hp', _, hgb, hx⟩ := hrd.at_ (k := 0) hn1
    obtain rfl : p = p' := by simpa using hp'
    rw [Nat.add_zero] at hx
    have HG := Lib.hid hg
    have HRd := Lib.hid hrd
    have HPn := Lib.hid hpn
    have HF := Lib.hid hfit
    have hpb : Bytes p.l := by
      have : p.l ∈ frames b := by rw [← hps]; exact List.mem_map.2 ⟨p, by simp, rfl⟩
      intro x hx
      obtain ⟨t, ht, _, _⟩ := frames_spec b.length b (Nat.le_refl _)
      refine HBy.out x ?_
      rw [ht]
      exact List.mem_append_left _ (List.mem_flatMap.2 ⟨p.l, this, by unfold enc; exact List.mem_append_right _ (List.mem_append_right _ hx)⟩)
    have HPb := Lib.hid hpb
    obtain ⟨pa, pn, pc, pl⟩ := p
    simp only at HPn HPb hx HG
    clear hb1 hL hps hfit hrd hln HX hg hpn hpb hp'
    have tn : ((n1 : Int) == 0) = false := by simp; omega
    by_cases h8 : pn < 8
    · have h0 : Hid (gen b = 0) := Lib.hid (by rw [HG.out, if_pos (.inl (by rw [HPn.out]; exact h8))])
      go_wp2
      (try simp only [Exit.inBlock, Exit.then]); refine bodyPost_ret (results_tmp4 rfl _ _ _) rfl ?_
      exact ⟨HB1.out, _, _, by rw [h0.out]; rfl, .inl ⟨h0.out, rfl, rfl⟩⟩
    · have HG2 : Hid (gen b = if num8 pl < 1 ∨ 4611686018427387904 < num8 pl then 0 else num8 pl) := Lib.hid (by
        rw [HG.out]
        have e : ¬ pl.length < 8 := by have := HPn.out; omega
        simp only [e, false_or])
      have hpr := (HRd.out.2 _ (List.mem_cons_self ..)).1
      simp only at hpr
      obtain ⟨b', off', rfl, hbb, hc⟩ := hpr.u8 (by omega)
      have HC : Hid (∀ i, i < pn → w1.cell? ⟨b', off' + i, none⟩ = some (.int .u8 (pl.getD i 0))) := Lib.hid hc
      have HT8 : Hid (Bytes (pl.take 8) ∧ (pl.take 8).length = 8) := Lib.hid ⟨HPb.out.take 8, by simp; have := HPn.out; omega⟩
      have h8' : 8 ≤ pn := by omega
      clear hc hpr h8 HG
      have t8 : decide ((pn : Int) < 8) = false := by simp; omega
      go_wp2
      go_loop [8, 9] (fun x i => ∃ k : Nat, k ≤ 8 ∧ i = .int .i64 ((k : Int) - 1) ∧ x = .int .u64 ((numL ((pl.take 8).drop k) : Nat) : Int)) (fun _ i => (intOf i + 1).toNat)
      case atStart => exact ⟨8, by omega, rfl, by rw [List.drop_of_length_le (by rw [HT8.out.2]; omega)]; rfl⟩
      case round =>
        obtain ⟨k, hk, rfl, rfl⟩ := hrel
        rcases k with _ | j
        · have HN : Hid (num8 pl = numL ((pl.take 8).drop 0)) := Lib.hid rfl
          obtain ⟨x, hx8⟩ : ∃ x, x = num8 pl := ⟨_, rfl⟩
          rw [← HN.out, ← hx8]
          have hx64 : x < 18446744073709551616 := by rw [hx8]; exact num8_lt HPb.out
          rw [← hx8] at HG2
          have HX8 := Lib.hid hx8
          clear hx8
          by_cases hbad : x < 1 ∨ 4611686018427387904 < x
          · have h0 : Hid (gen b = 0) := Lib.hid (by rw [HG2.out, if_pos hbad])
            by_cases hb1 : x < 1
            · obtain rfl : x = 0 := by omega
              clear hbad
              go_wp2
              (try simp only [Exit.inBlock, Exit.then]); refine bodyPost_ret (results_tmp4 rfl _ _ _) rfl ?_
              exact ⟨HB1.out, _, _, by rw [h0.out]; rfl, .inl ⟨h0.out, rfl, rfl⟩⟩
            · have hb2 : 4611686018427387904 < x := by omega
              have hb3 : 1 ≤ x := by omega
              clear hbad hb1
              go_wp2
              (try simp only [Exit.inBlock, Exit.then]); refine bodyPost_ret (results_tmp4 rfl _ _ _) rfl ?_
              exact ⟨HB1.out, _, _, by rw [h0.out]; rfl, .inl ⟨h0.out, rfl, rfl⟩⟩
          · have hb1 : 1 ≤ x := by omega
            have hb2 : x ≤ 4611686018427387904 := by omega
            have h0 : Hid (gen b = x) := Lib.hid (by rw [HG2.out, if_neg hbad])
            clear hbad
            have kt : ∀ u : World, (Instr.slice 22 (.slice (some ⟨b', off', none⟩) pn pc) (some (.int .i64 8)) none none).run Tryd.prog u = .ok (.slice (cutA (some ⟨b', off', none⟩) pc 8) (pn - 8) (pc - 8)) u := fun u => run_cut1 Tryd.underlying22 (by kernel_rfl) _ pn pc 8 h8' u
            have kr : ∀ u : World, (Instr.slice 41 (.slice (some ⟨g, off, none⟩) n1 c1) (some (.int .i64 1)) none none).run Tryd.prog u = .ok (.slice (cutA (some ⟨g, off, none⟩) c1 1) (n1 - 1) (c1 - 1)) u := fun u => run_cut1 Tryd.underlying41 (by kernel_rfl) _ n1 c1 1 hn1 u
            go_wp2
            go_quiet (fail)
            go_wp2
            (try simp only [Exit.inBlock, Exit.then]); refine bodyPost_ret (results_tmp4 rfl _ _ _) rfl ?_
            have hsn : snap b = pl.drop 8 := by unfold snap; rw [← HPs.out]; rfl
            have hrc : recs b = Piece.bytes rs := by unfold recs; rw [← HPs.out]; rfl
            have hpl := own_len (HL.out.each _ (List.mem_cons_self ..))
            have hrl := own_rowlen HL.out.row
            have hb' := own_base (HL.out.each _ (List.mem_cons_self ..)) b' rfl
            refine ⟨below_drewN (HB1.out) _, _, _, by rw [h0.out]; rfl, .inr ⟨by rw [h0.out]; omega, ⟨_, _, _, rfl, ?_, ?_, ?_, ?_⟩, _, _, _, rs, rfl, hrc.symm, ⟨?_, ?_⟩, ?_, ?_⟩⟩
            · exact Nat.sub_le_sub_right hpl.2 8
            · rw [hsn, List.length_drop, HPn.out]
            · have h1 := (HRd.out.2 _ (List.mem_cons_self ..)).1
              have h2 := reads_cut (c := pc) h1 h8' (Nat.le_refl _) hpl.2
              rw [← HPn.out, List.take_length, HPn.out] at h2
              rw [hsn]
              exact h2
            · intro _ ad e
              obtain ⟨ad', h1, h2⟩ := cutA_block e
              injection h1 with h1
              rw [h2, ← h1]
              exact hb'
            · have h1 := HRd.out.1.cut (k := 1) (cap := c1) hn1 hrl.2
              have h2 : Reads w1 w1.heap.size 1 (cutA (some ⟨g, off, none⟩) c1 1) (n1 - 1) (rs.map Piece.val) := by simpa [cutA] using h1
              exact h2
            · exact fun p hp => HRd.out.2 p (List.mem_cons_of_mem _ hp)
            · rcases HL.out.row.2 with ⟨e, _⟩ | ⟨g', cap, cur, e, hbg, hh, hnc', hcm, hsz, _⟩
              · injection e with e; cases e
              · injection e with e1 e2 e3
                injection e1 with e1
                injection e1 with e1 e4
                subst e1; subst e3; subst e4
                unfold cutA
                by_cases h1 : c1 = 1
                · rw [if_pos h1]
                  exact .inr ⟨g, 0, cur, rfl, hbg, hgb, hh, by omega, by have := hrl.2; omega, by omega⟩
                · rw [if_neg h1]
                  exact .inr ⟨g, 1, cur, rfl, hbg, hgb, hh, by omega, by have := hrl.2; omega, by omega⟩
            · intro p hp hpn ad e
              have h1 := HL.out.each p (List.mem_cons_of_mem _ hp)
              exact own_base h1 ad.block (by
                rcases h1.2 with ⟨e2, _⟩ | ⟨g', cap, cur, e2, _⟩
                · injection e2 with e2; rw [e] at e2; cases e2
                · injection e2 with e2
                  rw [e] at e2
                  injection e2 with e2
                  show Value.ownBlock (.slice p.a p.n p.c) = _
                  rw [e, e2]; rfl)
        · obtain ⟨x, hx0⟩ : ∃ x, x = numL ((pl.take 8).drop (j + 1)) := ⟨_, rfl⟩
          have hx56 : x < 72057594037927936 := by
            have h1 := numL_up HT8.out.1 (k := j + 1) (by rw [HT8.out.2]; omega)
            rw [HT8.out.2, ← hx0] at h1
            have h2 : 256 ^ (8 - (j + 1)) ≤ 256 ^ 7 := Nat.pow_le_pow_right (by omega) (by omega)
            have h3 : 256 ^ 7 = 72057594037927936 := by decide
            omega
          rw [← hx0]
          obtain ⟨y, hy⟩ : ∃ y : Nat, y = (pl.getD j 0).toNat := ⟨_, rfl⟩
          have hyr := bytes_getD HPb.out j
          have hy8 : y < 256 := by omega
          have cy := HC.out j (by omega)
          rw [show pl.getD j 0 = (y : Int) by omega] at cy
          obtain ⟨z, hz⟩ : ∃ z, z = y + 256 * x := ⟨_, rfl⟩
          have HZ : Hid (numL ((pl.take 8).drop j) = z) := Lib.hid (by
            rw [numL_drop (by rw [HT8.out.2]; omega), ← hx0, hz, hy]
            congr 2
            simp [List.getD, show j < 8 by omega])
          have yz : bits .or .u64 ((x : Int) * 256) (y : Int) = (z : Int) := by
            rw [show (x : Int) * 256 = ((x * 256 : Nat) : Int) by omega, u64_or_nat _ _ (by omega) (by omega), or_mul hy8, hz]
          have ej : (((j + 1 : Nat) : Int) - 1) = (j : Int) := by omega
          rw [ej]
          have hj8 : j < 8 := by omega
          clear hx0 hy hyr hz ej
          go_wp2
          go_round
          case rel => exact ⟨j, by omega, rfl, by rw [HZ.out]⟩
          case measure => simp [intOf] <;> omega
end Go.Proofs.YtnpmccekkjadhaaDoor.Pk

/- A row of lists is appended to, wherever it begins. -/
namespace Go.Proofs.YtnpmccekkjadhaaDoor.Pk
open Go.RowKit Go.Proofs.YtnpmccekkjadhaaDoor.Crc Go.Proofs.YtnpmccekkjadhaaDoor.Fr Go.Proofs.YtnpmccekkjadhaaDoor.Vk
set_option linter.unusedVariables false
/-- The block of an address. -/
def ablk (A : Option Addr) (b : Nat) : Prop := ∃ ad, A = some ad ∧ b = ad.block
theorem RoomL.lt {w : World} {B hi n c : Nat} {A : Option Addr} (h : RoomL w B hi A n c) : ∀ b, ablk A b → b < hi := by
  rintro b ⟨ad, e, rfl⟩
  rcases h with ⟨e2, _⟩ | ⟨g, off, cur, e2, _, h2, _⟩
  · rw [e] at e2; cases e2
  · rw [e] at e2; injection e2 with e2; rw [e2]; exact h2
set_option maxRecDepth 100000 in
/-- One list more, as one step of a region that draws. -/
theorem stepOff {ops : Array Oper} {o : Oper} {a : Act} {w : World} {K : Act → World → Prop} {Q : Exit → Act → World → Prop} {E : Prop} (hgd : o.guard = none) (s x : Operand)
    (ho : o.op = .call { callee := .builtin .append, args := #[s, x], argTypes := #[41, 41] }) (A : Option Addr) (n c : Nat) (hs : a.eval s = .slice A n c) (hroom : RoomL w 0 w.heap.size A n c)
    (g : Nat) (y : Piece) (T : TypeId) (hx : a.eval x = .slice (some ⟨g, 0, none⟩) 1 1) (hy : Blk w g T #[.slice y.a y.n y.c]) (hlen : (n + 1) * 24 ≤ 140737488355328)
    (h : ∀ A' c' w', RoomL w' 0 w'.heap.size A' (n + 1) c' → Turned (ablk A) w w' → (∀ b, ablk A' b → ablk A b ∨ w.heap.size ≤ b) → K (a.put o.dst (.slice A' (n + 1) c')) w') :
    if Region.wanted o (yielded ops a.tmps) = true then Oper.wp Tryd.prog o a w K Q else E := by
  obtain ⟨i0, hi0, hz0, hz1, hz2⟩ := info_parts sl_info
  have hyc : ∀ (j : Nat) (u : Value), [y.val][j]? = some u → w.cell? ((⟨g, 0, none⟩ : Addr).add j) = some u := fun j u hj => by
    match j, hj with
    | 0, hj => simp [Piece.val] at hj; subst hj; have := hy.cell 0; simpa [Addr.add] using this
    | j + 1, hj => simp at hj
  have hy1 : ∀ u ∈ [y.val], u.oneCell' = true := by intro u hu; simp at hu; subst hu; rfl
  by_cases hfull : c < n + 1
  · -- no room
    have hnone : A = none → n = 0 ∧ c = 0 := fun e => by
      rcases hroom with ⟨_, h1, h2⟩ | ⟨g', off, cur, e2, _⟩
      · exact ⟨h1, h2⟩
      · rw [e] at e2; cases e2
    obtain ⟨olds, hlo, hol⟩ : ∃ olds : List Value, olds.length = n * 1 ∧ ∀ b, A = some b → ∀ j u, olds[j]? = some u → w.cell? (b.add j) = some u := by
      rcases hroom with ⟨e, h1, h2⟩ | ⟨g', off, cur, e, _, _, hh, hc, hn, _⟩
      · exact ⟨[], by rw [h1]; rfl, fun b e2 => by rw [e] at e2; cases e2⟩
      · refine ⟨(cur.toList.drop off).take n, by simp; omega, fun b e2 j u hj => ?_⟩
        rw [e] at e2; injection e2 with e2; subst e2
        have hj2 : j < n := by
          rcases Nat.lt_or_ge j n with h3 | h3
          · exact h3
          · rw [List.getElem?_eq_none (by simp; omega)] at hj; cases hj
        rw [List.getElem?_take_of_lt hj2, List.getElem?_drop] at hj
        have h4 : w.cell? ⟨g', off + j, none⟩ = cur[off + j]? := cell_of_row w g' (off + j) cur _ (0, 0) hh
        have e5 : (⟨g', off, none⟩ : Addr).add j = ⟨g', off + j, none⟩ := by unfold Addr.add; by_cases hj : j = 0 <;> simp [hj]
        rw [e5, h4, ← hj]
        simp
    refine step_append_grows (P := Tryd.prog) hgd s x _ ho 22 i0 _ 1 24 Tryd.underlying41 hi0 hz0 hz1 hz2 rfl (by omega) A n c olds hs hnone hlo hol ⟨g, 0, none⟩ 1 1 [y.val] hx rfl hyc hy1 hfull (by unfold maxLen; omega) hlen ?_
    intro v' w' hown hgr
    rcases hown.2 with ⟨_, h0⟩ | ⟨g', cap, cur, rfl, hb, hh, hnc, hcm, hsz, _⟩
    · omega
    · refine h _ _ w' (.inr ⟨g', 0, cur, rfl, Nat.zero_le _, ?_, hh, by omega, by omega, hcm⟩) ⟨hgr.os, hgr.tape, hgr.output, hgr.size, fun i hi _ => hgr.block i hi (by simp)⟩ (fun b ⟨ad, e, hb'⟩ => .inr (by injection e with e; rw [hb', ← e]; exact hb))
      rcases Nat.lt_or_ge g' w'.heap.size with h3 | h3
      · exact h3
      · rw [Array.getElem?_eq_none h3] at hh; cases hh
  · -- room
    rcases hroom with ⟨e, h1, h2⟩ | ⟨g', off, cur, e, h0, hlt, hh, hc, hn, hcm⟩
    · omega
    · subst e
      have hsp : ∀ j, j < [y.val].length → (w.cell? ⟨g', off + n * 1 + j, none⟩).isSome = true ∧ w.frozen? ⟨g', off + n * 1 + j, none⟩ = false := fun j hj => by
        have hj0 : j = 0 := by simp at hj; exact hj
        subst hj0
        have h4 : w.cell? ⟨g', off + n * 1 + 0, none⟩ = cur[off + n * 1 + 0]? := cell_of_row w g' _ cur _ (0, 0) hh
        refine ⟨?_, by simp [World.frozen?, hh]⟩
        rw [h4, Array.getElem?_eq_getElem (by omega)]; rfl
      refine step_append_room (P := Tryd.prog) hgd s x _ ho 22 i0 1 Tryd.underlying41 hi0 hz1 g' off n c hs ⟨g, 0, none⟩ 1 1 [y.val] hx rfl hyc hy1 (by omega) hsp ?_
      have hset : w.setCells g' (off + n * 1) [y.val] = w.setCell ⟨g', off + n * 1, none⟩ y.val := by simp [World.setCells]
      rw [hset]
      refine h _ _ _ (.inr ⟨g', off, cur.setIfInBounds (off + n * 1) y.val, rfl, Nat.zero_le _, by simpa [World.setCell] using hlt, ?_, by simpa using hc, by omega, hcm⟩) ((Turned.refl _ _).set ⟨_, rfl, rfl⟩ _) (fun b hb => .inl hb)
      exact (show Blk w g' 22 cur from hh).set_ _ _
end Go.Proofs.YtnpmccekkjadhaaDoor.Pk
