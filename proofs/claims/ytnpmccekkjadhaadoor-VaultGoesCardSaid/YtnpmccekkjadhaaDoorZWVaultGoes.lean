/- The walk of the law VaultGoes (written by gen_goes.py). -/
import Derived.Test.YtnpmccekkjadhaaDoorZWak
import Derived.Test.YtnpmccekkjadhaaDoorZVkKept
import Derived.Test.YtnpmccekkjadhaaDoorZFrm
import Derived.Test.YtnpmccekkjadhaaDoorZDskB
namespace Go.Proofs.YtnpmccekkjadhaaDoor.Pk
open Go.RowKit Go.Proofs.YtnpmccekkjadhaaDoor.Ar Go.Proofs.YtnpmccekkjadhaaDoor.Crc Go.Proofs.YtnpmccekkjadhaaDoor.Fr Go.Proofs.YtnpmccekkjadhaaDoor.Dk Go.Proofs.YtnpmccekkjadhaaDoor.Vk
set_option linter.unusedVariables false

theorem AtV.grown {w0 w w' : World} {Q R : Nat} {d : DK} {v : VK} {U : Nat → Prop} {vr : Value} {ps : List Piece} (h : AtV w0 Q R d v U w) (ho : OwnL w w0.heap.size vr ps) (ha : ∀ g, vr.ownBlock = some g → ¬ U g) (hg : w.grownBy w' vr.ownBlock) : AtV w0 Q R d v U w' :=
  ⟨h.mod.stay ⟨hg.size, fun b hb => hg.block b (h.mod.lt b hb) (fun e => ha b e.symm hb)⟩, h.new, h.bel.grown hg h.bel.size (own_base ho.row)⟩

set_option maxRecDepth 100000 in
set_option maxHeartbeats 8000000 in
theorem law_VaultGoes (openC : OpenC) (appendC : AppendC) (ckpC : CkpC) (countC : CountC) (genC : GenC) (a : Option Addr) (k j : Nat) (l : List OpV) (w : World) (ht : Tab w) (h : ArgV w a k j l) :
    Calls Tryd.prog 6 #[.slice a k j] w fun e w' => e = .returned (.bool true) ∧ Below w.heap.size w w' := by
  have HArg := Lib.hid h
  obtain ⟨hro, hkj, _, hok⟩ := h
  have HO := Lib.hid openC
  have HA := Lib.hid appendC
  have HCk := Lib.hid ckpC
  have HC := Lib.hid countC
  have HGe := Lib.hid genC
  have HT := Lib.hid ht
  have HRO := Lib.hid hro
  have HK := Lib.hid hok
  have HM : Hid (l.length = k) := Lib.hid hro.olen
  have hp := ht.pos
  have HP := Lib.hid hp
  obtain ⟨d1, e1, f1⟩ := opn_new [102, 105, 114, 115, 116] (by simp)
  have HE1 := Lib.hid e1
  have HF1 := Lib.hid f1
  have fit0 : (DK.new [] []).fit 0 0 := DK.fit.new [] [] (by simp) (by simp)
  have HT0 := Lib.hid fit0
  have fit1 := opn_fit fit0 [102, 105, 114, 115, 116]
  rw [e1] at fit1
  have HT1 := Lib.hid fit1
  clear openC appendC ckpC countC genC ht hro hok hp e1 f1 fit0 fit1
  have kc := fun (w : World) (C : Array Value) (n c : Nat) => Lib.run_convert_bytes_const (P := Tryd.prog) w 22 5 C n c Tryd.underlying22 Tryd.underlying5
  go_enter Tryd.func6, Tryd.ntmps6
  go_wp2_with fail
  refine (wakes_any HO.out HA.out w HT.out).mono ?_
  rintro e w1 ⟨rfl, hb1⟩
  have HB1 := Lib.hid hb1
  clear hb1
  go_wp2_with fail
  refine (heavy_any none none a 0 0 k 0 0 j l w1 (by omega) (ArgV.next HArg.out HB1.out)).mono ?_
  rintro e w2 ⟨hb2, y, rfl, hy⟩
  have HB2 := Lib.hid (HB1.out.trans (hb2.mono HB1.out.size))
  clear hb2 hy
  cases y
  case true =>
    go_wp2
    go_ret
    exact ⟨rfl, HB2.out⟩
  case false =>
  by_cases hk2 : 200 < k
  case pos =>
    have t1 : decide ((200 : Int) < (k : Int)) = true := by simp; omega
    go_wp2
    go_ret
    exact ⟨rfl, HB2.out⟩
  have t1 : decide ((200 : Int) < (k : Int)) = false := by simp; omega
  go_wp2_with fail
  refine (new_any w2).mono ?_
  rintro e w3 ⟨R, S, rfl, hD, hS, hb3⟩
  have HB3 := Lib.hid (HB2.out.trans (hb3.mono HB2.out.size))
  have HS : Hid (∀ b, S b → w.heap.size ≤ b) := Lib.hid (fun b hb => Nat.le_trans HB2.out.size (hS b hb))
  have HD := Lib.hid hD
  clear hb3 hD hS t1
  go_wp2_with fail
  obtain ⟨w4, hw4⟩ : ∃ w4, w4 = w3.alloc (.cells #[.int .u8 102, .int .u8 105, .int .u8 114, .int .u8 115, .int .u8 116] 5 (5, 6)) := ⟨_, rfl⟩
  have hb4 : Below w3.heap.size w3 w4 := hw4 ▸ (Below.refl _ _).alloc (Nat.le_refl _) _
  have hrd : Reads w4 w4.heap.size 1 (some ⟨w3.heap.size, 0, none⟩) 5 (bts [102, 105, 114, 115, 116]) := by
    rw [hw4]
    exact reads_marked w3 _ _ _ _ 5 (bts [102, 105, 114, 115, 116]) rfl rfl (by simp)
  rw [← hw4]
  have HB4 := Lib.hid (HB3.out.trans (hb4.mono HB3.out.size))
  have HS3 : Hid (∀ b, S b → b < w3.heap.size) := Lib.hid HD.out.lt
  have hfr4 : Free S (some ⟨w3.heap.size, 0, none⟩) 5 := fun _ ad e hs => by injection e with e; have := HS3.out ad.block hs; rw [← e] at this; exact Nat.lt_irrefl _ this
  have HK4 : Hid (Kpt w.heap.size S (some ⟨w3.heap.size, 0, none⟩) 5 (.slice none 0 0) [102, 105, 114, 115, 116] [] w4) := Lib.hid (Kpt.fresh hrd hfr4 _)
  refine (HO.out R _ 5 5 [102, 105, 114, 115, 116] (DK.new [] []) S w4 (HT.out.next HB4.out) (fun h0 => by have := HS.out 0 h0; have := HP.out; omega) (HD.out.next hb4) hrd (Nat.le_refl _) (by unfold Bytes; decide) ⟨fun x hx => by simp [DK.new, FL.all] at hx, fun x hx => by simp [DK.new, FL.all] at hx⟩
    hfr4 (by omega) 0 0 HT0.out (by omega) (by omega)).mono ?_
  rintro e w5 hop
  unfold OpnP at hop
  rw [HE1.out] at hop
  rcases hop with ⟨hne, _⟩ | ⟨_, v, Q, vs, vr, U, lo, hi, hv, rfl, hm, ht5, hf5, hlo, hhi, hsn, hrc, hap⟩
  · exact absurd rfl hne
  injection hv with hv
  subst hv
  have HV : Hid (AtV w Q R d1 ⟨0, 1, [102, 105, 114, 115, 116], [], 0⟩ U w5) := Lib.hid ⟨hm, from_base hf5 HS.out HB4.out.size, ht5.below HB4.out HB4.out.size HS.out⟩
  have HK5 : Hid (Kpt w.heap.size U (some ⟨w3.heap.size, 0, none⟩) 5 (.slice none 0 0) [102, 105, 114, 115, 116] [] w5) := Lib.hid (HK4.out.turn ht5 hf5)
  obtain ⟨z, hz⟩ : ∃ z, z = w3.heap.size := ⟨_, rfl⟩
  rw [← hz] at HK5 ⊢
  clear hw4 hb4 hrd hfr4 HK4 kc hm ht5 hf5 hlo hhi hsn hrc hap HS3 HS HD HE1 HT0 hz
  go_wp2
  go_loopw [4, 5, 6, 7, 10, 12, 13, 14, 39] (fun s4 s5 s6 s7 _ _ _ _ i wr => ∃ (q : Nat) (d : DK) (vk : VK) (Q : Nat) (U : Nat → Prop) (ps : List Piece) (As : Option Addr) (ns cs : Nat), s4 = .slice As ns cs ∧ s6 = .int .i64 (vk.g : Int) ∧ s7 = .pointer (some ⟨Q, 0, none⟩) ∧ i = .int .i64 q ∧ q ≤ k ∧ AtV w Q R d vk U wr ∧ Kpt w.heap.size U As ns s5 vk.s ps wr ∧ Piece.bytes ps = vk.rs ∧
    Fresh d vk ∧ d.fit (32 + q * 65552) (4 + 4 * q) ∧ vk.g ≤ 1 + q ∧ Bytes vk.s ∧ (∀ r ∈ vk.rs, Bytes r) ∧ vk.s.length ≤ 65536) (fun _ _ _ _ _ _ _ _ i _ => k - (intOf i).toNat)
  case atStart => exact ⟨0, d1, ⟨0, 1, [102, 105, 114, 115, 116], [], 0⟩, Q, U, [], _, _, _, rfl, rfl, rfl, rfl, by omega, HV.out, HK5.out, rfl, HF1.out, HT1.out.mono (by simp) (by simp), by show 1 ≤ _; omega, by unfold Bytes; decide, (fun r hr => by cases hr), by show [102, 105, 114, 115, 116].length ≤ 65536; simp⟩
  case round =>
    obtain ⟨q, d, vk, Q, U, ps, As, ns, cs, rfl, rfl, rfl, rfl, hq, hV, hKp, hPs, hF, hFt, hG, hBs, hBr, hSl⟩ := hrel
    obtain ⟨w6, rfl⟩ : ∃ w6 : World, w6 = wr := ⟨_, rfl⟩
    obtain ⟨vf, vg, sn, rs, sk⟩ := vk
    obtain ⟨Ar, nr, cr, rfl, hsl, hrl⟩ := hKp.slices
    have HV := Lib.hid hV
    have HKp := Lib.hid hKp
    have hPs : Piece.bytes ps = rs := hPs
    have HPs := Lib.hid hPs
    have HF := Lib.hid hF
    have HFt := Lib.hid hFt
    have hG : vg ≤ 1 + q := hG
    have HBs : Hid (Bytes sn) := Lib.hid hBs
    have HBr : Hid (∀ r ∈ rs, Bytes r) := Lib.hid hBr
    have HSl : Hid (sn.length ≤ 65536) := Lib.hid hSl
    have HLn : Hid (sn.length = ns ∧ ps.length = nr) := Lib.hid ⟨hsl, hrl⟩
    have hrc : rs.length = nr := by rw [← hPs, ← hrl]; simp [Piece.bytes]
    have HRc := Lib.hid hrc
    have hnb : nr ≤ 1073741824 := by have h1 := fresh_few hF hFt; have h2 : rs.length ≤ 32 + q * 65552 := h1; omega
    clear hV hKp hPs hF hFt hBs hBr hSl hsl hrl hrc
    by_cases hlt : q < k
    rotate_left
    · obtain rfl : q = k := by omega
      go_wp2
      go_ret
      exact ⟨rfl, HV.out.bel⟩
    obtain ⟨pb, off, rfl, hbb, hcs⟩ := (HRO.out.below HV.out.bel).ops_ (by omega)
    obtain ⟨r, hr⟩ : ∃ r, l[q]? = some r := ⟨_, List.getElem?_eq_getElem (by rw [HM.out]; exact hlt)⟩
    obtain ⟨x0, x1, x2, x3⟩ := hcs q r hr
    have hkr := HK.out r (List.mem_of_getElem? hr)
    obtain ⟨kd, on, ok, ob, oA, om, oq⟩ := r
    simp only at x0 x1 x2 x3
    have HRb : Hid (Reads w w.heap.size 1 oA om (bts ob)) := Lib.hid hkr.1
    have homq : om ≤ oq := hkr.2.2.1
    have HBo : Hid (Bytes ob) := Lib.hid hkr.2.2.2.1
    have HOl : Hid (ob.length = om) := Lib.hid (by have := hkr.1.1; simpa using this)
    clear hcs hr hkr
    obtain ⟨w7, hw7⟩ : ∃ w7, w7 = w6.alloc (.cells #[.int .i64 kd, .int .i64 on, .int .i64 ok, .slice oA om oq] 33) := ⟨_, rfl⟩
    have hb7 : Below w6.heap.size w6 w7 := hw7 ▸ (Below.refl _ _).alloc (Nat.le_refl _) _
    have HO7 : Hid (Blk w7 w6.heap.size 33 #[.int .i64 kd, .int .i64 on, .int .i64 ok, .slice oA om oq]) := Lib.hid (hw7 ▸ Blk.new w6 _ _)
    obtain ⟨p, hp⟩ : ∃ p, p = w6.heap.size := ⟨_, rfl⟩
    have HUp : Hid (∀ b, U b → b < p) := Lib.hid (hp ▸ HV.out.mod.lt)
    rw [← hp] at HO7
    have hp7 : p < w7.heap.size := HO7.out.lt
    have HV7 := Lib.hid (HV.out.next hb7)
    have HK7 := Lib.hid (HKp.out.next hb7)
    have HR7 : Hid (Reads w7 w7.heap.size 1 oA om (bts ob)) := Lib.hid ((HRb.out.below HV7.out.bel).more HV7.out.bel.size)
    have HFr : Hid (Free U oA om) := Lib.hid (free_base HRb.out HV7.out.new)
    have y0 : w7.cell? ⟨p, 0, none⟩ = some (.int .i64 kd) := by rw [HO7.out.cell]; rfl
    have y3 : w7.cell? ⟨p, 3, none⟩ = some (.slice oA om oq) := by rw [HO7.out.cell]; rfl
    clear hb7 HV HKp

    by_cases hbig : 65536 < om
    case pos =>
      have t1 : decide ((65536 : Int) < (om : Int)) = true := by simp; omega
      go_wp2
      rw [← hw7]
      go_roundw
      case rel => exact ⟨q + 1, d, ⟨vf, vg, sn, rs, sk⟩, Q, U, ps, As, ns, cs, rfl, rfl, rfl, by go_num, by omega, HV7.out, HK7.out, HPs.out, HF.out, HFt.out.mono (by omega) (by omega), by show vg ≤ _; omega, HBs.out, HBr.out, HSl.out⟩
      case measure => simp [intOf]; omega
    have t1 : decide ((65536 : Int) < (om : Int)) = false := by simp; omega

    by_cases h0 : kd = 0
    case pos =>
      subst h0
      go_wp2_with fail
      rw [← hw7, ← hp]
      clear hw7 hp
      obtain ⟨d8, q1, q2⟩ := apd_fresh HF.out ob (by have := HOl.out; omega)
      have q2 : Fresh d8 ⟨vf, vg, sn, rs ++ [ob], sk⟩ := q2
      have q3 := apd_fit HFt.out ⟨vf, vg, sn, rs, sk⟩ ob
      have HAp := Lib.hid (HA.out Q R oA om oq ob d ⟨vf, vg, sn, rs, sk⟩ U w7 (HV7.out.tab HT.out) (HV7.out.zero HT.out) HV7.out.mod HR7.out homq HBo.out HFr.out HF.out.file (by omega) (by show rs.length ≤ _; rw [HRc.out]; exact hnb) _ _ HFt.out (by omega) (by omega))
      rw [q1] at HAp q3
      have HF8 := Lib.hid q2
      have HFt8 := Lib.hid q3
      clear q1 q2 q3
      refine HAp.out.mono ?_
      rintro e w8 hap
      obtain ⟨rfl, U8, hm8, ht8, hf8⟩ := hap
      have HV8 : Hid (AtV w Q R d8 ⟨vf, vg, sn, rs ++ [ob], sk⟩ U8 w8) := Lib.hid (HV7.out.step hm8 ht8 hf8)
      have HK8 := Lib.hid (HK7.out.turn ht8 hf8)
      have HO8 : Hid (Blk w8 p 33 #[.int .i64 0, .int .i64 on, .int .i64 ok, .slice oA om oq]) := Lib.hid ((ht8.block p hp7 (fun hs => by have := HUp.out p hs; omega)).trans HO7.out)
      have y3' : w8.cell? ⟨p, 3, none⟩ = some (.slice oA om oq) := by rw [HO8.out.cell]; rfl
      have hp8 : p < w8.heap.size := HO8.out.lt
      have HR8 : Hid (Reads w8 w8.heap.size 1 oA om (bts ob)) := Lib.hid ((HRb.out.below HV8.out.bel).more HV8.out.bel.size)
      have HU8 : Hid (∀ b, U8 b → b < w8.heap.size) := Lib.hid HV8.out.mod.lt
      have hbs8 := HV8.out.bel.size
      clear hm8 ht8 hf8 HAp y0 y3 HV7 HK7 HR7
      go_wp2_with (first
        | (at_builtin; refine appE w8 rfl (.tmp 57) (.tmp 59) rfl w8.heap.size rfl w8.heap.size oA oq ob om rfl HR8.out (Nat.le_refl _) (by omega) (Nat.le_refl _) ?_; intro v9 w9 hown9 hb9; obtain ⟨A9, n9, c9, rfl⟩ := own_slice hown9; have HO9 := Lib.hid hown9; have HB9 := Lib.hid hb9; have hbs9 := hb9.size; have HK9 := Lib.hid (HK8.out.next hb9); have HV9 := Lib.hid (HV8.out.next hb9); clear hown9 hb9)
        | (at_builtin; refine appL2 w9 ⟨A9, n9, c9, ob⟩ _ rfl (.tmp 56) (.tmp 61) rfl w.heap.size _ ps rfl HK9.out.recs.row rfl (by have := HLn.out; omega) HV9.out.bel.size ?_; intro v10 w10 hown10 hg10 hat10; have HK10 := Lib.hid (HK9.out.push (y := ⟨A9, n9, c9, ob⟩) HO9.out hbs8 HU8.out (fun p hp g e => HK8.out.recs.lt p hp g e) hown10 hg10 hat10 HV9.out.mod.lt); have HV10 := Lib.hid (HV9.out.grown HK9.out.recs HK9.out.a2 hg10); obtain ⟨A10, n10, c10, rfl, _, hl10⟩ := HK10.out.slices; have HL10 := Lib.hid hl10; clear hown10 hg10 hat10 hl10))

      have hrec : Hid ((⟨vf, vg, sn, rs ++ [ob], sk⟩ : VK).rs.length = n10) := Lib.hid (by have h1 := HL10.out; have h2 := HLn.out; have h3 := HRc.out; show (rs ++ [ob]).length = n10; simp at h1 ⊢; omega)
      have hct := Lib.hid (HC.out Q R d8 ⟨vf, vg, sn, rs ++ [ob], sk⟩ U8 w10 HV10.out.mod)
      rw [hrec.out] at hct
      have hgn := Lib.hid (HGe.out Q R d8 ⟨vf, vg, sn, rs ++ [ob], sk⟩ U8 w10 HV10.out.mod)
      go_wp2_with fail
      refine (hct.out).mono ?_
      rintro e w10 ⟨rfl, hw⟩
      rw [← hw]
      clear hw w10
      go_wp2_with fail
      refine (hgn.out).mono ?_
      rintro e w10 ⟨rfl, hw⟩
      rw [← hw]
      clear hw w10
      go_wp2
      go_roundw
      case rel => exact ⟨q + 1, d8, ⟨vf, vg, sn, rs ++ [ob], sk⟩, Q, U8, _, As, ns, cs, rfl, rfl, rfl, by go_num, by omega, HV10.out, HK10.out, (by rw [← HPs.out]; simp [Piece.bytes]), HF8.out, HFt8.out.mono (by have := HOl.out; omega) (by omega), by show vg ≤ _; omega, HBs.out, (fun r hr => by rcases List.mem_append.1 hr with hr | hr; exact HBr.out r hr; obtain rfl := List.mem_singleton.1 hr; exact HBo.out), HSl.out⟩
      case measure => simp [intOf]; omega

    case neg =>
    have c0 : (kd == 0) = false := by simp [h0]
    by_cases h1 : kd = 1
    case pos =>
      subst h1
      go_wp2_with fail
      rw [← hw7, ← hp]
      clear hw7 hp
      obtain ⟨g1, hg1⟩ : ∃ g1, g1 = vg + 1 := ⟨_, rfl⟩
      obtain ⟨d8, q1, q2⟩ := ckp_fresh HF.out ob (by have := HOl.out; omega) (by show vg < _; omega)
      have q1 : ckp d ⟨vf, vg, sn, rs, sk⟩ ob = (0, d8, ⟨1 - vf, g1, ob, [], 0⟩) := by rw [hg1]; exact q1
      have q2 : Fresh d8 ⟨1 - vf, g1, ob, [], 0⟩ := by rw [hg1]; exact q2
      have q3 := ckp_fit HFt.out ⟨vf, vg, sn, rs, sk⟩ ob
      have HAp := Lib.hid (HCk.out Q R oA om oq ob d ⟨vf, vg, sn, rs, sk⟩ U w7 (HV7.out.tab HT.out) (HV7.out.zero HT.out) HV7.out.mod HR7.out homq HBo.out HFr.out HF.out.file (by omega) (by show vg ≤ _; omega) _ _ HFt.out (by omega) (by omega))
      rw [q1] at HAp q3
      have HF8 := Lib.hid q2
      have HFt8 := Lib.hid q3
      have hwr : IntKind.i64.wrap ((vg : Int) + 1) = (g1 : Int) := by rw [IntWalk.i64_in _ (by omega), hg1]; simp
      have HG1 := Lib.hid hg1
      clear q1 q2 q3 hg1
      refine HAp.out.mono ?_
      rintro e w8 hap
      obtain ⟨rfl, U8, hm8, ht8, hf8⟩ := hap
      have HV8 : Hid (AtV w Q R d8 ⟨1 - vf, g1, ob, [], 0⟩ U8 w8) := Lib.hid (HV7.out.step hm8 ht8 hf8)
      have HO8 : Hid (Blk w8 p 33 #[.int .i64 1, .int .i64 on, .int .i64 ok, .slice oA om oq]) := Lib.hid ((ht8.block p hp7 (fun hs => by have := HUp.out p hs; omega)).trans HO7.out)
      have y3' : w8.cell? ⟨p, 3, none⟩ = some (.slice oA om oq) := by rw [HO8.out.cell]; rfl
      have hp8 : p < w8.heap.size := HO8.out.lt
      have HR8 : Hid (Reads w8 w8.heap.size 1 oA om (bts ob)) := Lib.hid ((HRb.out.below HV8.out.bel).more HV8.out.bel.size)
      have HU8 : Hid (∀ b, U8 b → b < w8.heap.size) := Lib.hid HV8.out.mod.lt
      have hbs8 := HV8.out.bel.size
      clear hm8 ht8 hf8 HAp y0 y3 HV7 HK7 HR7
      go_wp2_with (at_builtin; refine appE w8 rfl (.tmp 70) (.tmp 72) rfl w8.heap.size rfl w8.heap.size oA oq ob om rfl HR8.out (Nat.le_refl _) (by omega) (Nat.le_refl _) ?_; intro v9 w9 hown9 hb9; obtain ⟨A9, n9, c9, rfl⟩ := own_slice hown9; have HV9 := Lib.hid (HV8.out.next hb9); have HK9 : Hid (Kpt w.heap.size U8 A9 n9 (.slice none 0 0) ob [] w9) := Lib.hid (Kpt.fresh (own_reads hown9) (hown9.free HU8.out) _); clear hown9 hb9)

      have hrec : Hid ((⟨1 - vf, g1, ob, [], 0⟩ : VK).rs.length = 0) := Lib.hid (rfl)
      have hct := Lib.hid (HC.out Q R d8 ⟨1 - vf, g1, ob, [], 0⟩ U8 w9 HV9.out.mod)
      rw [hrec.out] at hct
      have hgn := Lib.hid (HGe.out Q R d8 ⟨1 - vf, g1, ob, [], 0⟩ U8 w9 HV9.out.mod)
      go_wp2_with fail
      refine (hct.out).mono ?_
      rintro e w10 ⟨rfl, hw⟩
      rw [← hw]
      clear hw w10
      go_wp2_with fail
      refine (hgn.out).mono ?_
      rintro e w10 ⟨rfl, hw⟩
      rw [← hw]
      clear hw w10
      go_wp2
      go_roundw
      case rel => exact ⟨q + 1, d8, ⟨1 - vf, g1, ob, [], 0⟩, Q, U8, [], A9, n9, c9, rfl, rfl, rfl, by go_num, by omega, HV9.out, HK9.out, rfl, HF8.out, HFt8.out.mono (by have := HOl.out; omega) (by omega), (by show g1 ≤ _; have := HG1.out; omega), HBo.out, (fun r hr => by cases hr), (by show ob.length ≤ _; have := HOl.out; omega)⟩
      case measure => simp [intOf]; omega

    case neg =>
    have c1 : (kd == 1) = false := by simp [h1]
    by_cases h45 : kd = 4 ∨ kd = 5
    case pos =>
     rcases h45 with rfl | rfl
     case inl =>

      go_wp2_with fail
      rw [← hw7, ← hp]
      clear hw7 hp
      obtain ⟨q1, q2, _⟩ := opn_fresh HF.out ob (by have := HOl.out; omega)
      obtain ⟨d8, hd8⟩ : ∃ d8, d8 = d.syn vf := ⟨_, rfl⟩
      have q1 : opn d ob = (0, d8, some ⟨vf, vg, sn, rs, sk⟩) := by rw [hd8]; exact q1
      have q2 : Fresh d8 ⟨vf, vg, sn, rs, sk⟩ := by rw [hd8]; exact q2
      have q3 := opn_fit HFt.out ob
      rw [q1] at q3
      have HF8 := Lib.hid q2
      have HFt8 := Lib.hid q3
      obtain ⟨S7, hD7, hSU, _⟩ := HV7.out.mod.disk
      have HSn : Hid (∀ b, S7 b → w.heap.size ≤ b) := Lib.hid (fun b hb => HV7.out.new b (hSU b hb))
      refine (HO.out R oA om oq ob d S7 w7 (HV7.out.tab HT.out) (fun h0 => HV7.out.zero HT.out (hSU 0 h0)) hD7 HR7.out homq HBo.out (HF.out.bytes HBs.out HBr.out) (fun h0 ad e hs => HFr.out h0 ad e (hSU _ hs)) (by omega) _ _ HFt.out (by omega) (by omega)).mono ?_
      rintro e w8 hop
      unfold OpnP at hop
      rw [q1] at hop
      rcases hop with ⟨hne, _⟩ | ⟨_, v8, Q8, vs8, vr8, U8, lo8, hi8, hv, rfl, hm8, ht8, hf8, hlo, hhi, hsn8, hrc8, _⟩
      · exact absurd rfl hne
      injection hv with hv
      subst hv
      obtain ⟨As8, ns8, cs8, rfl, hns8, hls8, hrs8, _⟩ := hsn8
      obtain ⟨Ar8, nr8, cr8, ps8, rfl, hps8, hrr8, _, _⟩ := hrc8
      have HV8 : Hid (AtV w Q8 R d8 ⟨vf, vg, sn, rs, sk⟩ U8 w8) := Lib.hid ⟨hm8, from_base hf8 HSn.out HV7.out.bel.size, ht8.below HV7.out.bel HV7.out.bel.size HSn.out⟩
      have HK8 : Hid (Kpt w.heap.size U8 As ns (.slice Ar nr cr) sn ps w8) := Lib.hid ((HK7.out.sub hSU).turn ht8 hf8)
      have hps8 : Piece.bytes ps8 = rs := hps8
      have hsame : Hid (∀ q, Calls Tryd.prog 23 #[.slice As8 ns8 cs8, .slice As ns cs] (w8.drewN q) fun e w' => e = .returned (.bool true) ∧ ∃ k, w' = (w8.drewN q).drewN k) := Lib.hid (fun q => by
        have h := same_any As8 As ns8 cs8 ns cs sn sn (w8.drewN q) _ _ hrs8 HK8.out.snap (by have h1 := hrs8.1; have h2 := HSl.out; simp at h1; omega)
        rwa [decide_eq_true rfl] at h)
      have halike : Hid (∀ q, Calls Tryd.prog 24 #[.slice Ar8 nr8 cr8, .slice Ar nr cr] (w8.drewN q) fun e w' => e = .returned (.bool true) ∧ ∃ k, w' = (w8.drewN q).drewN k) := Lib.hid (fun q => by
        obtain ⟨A', c', e', _, hrd⟩ := HK8.out.recs.reads (fun p hp => by
          have h1 : p.l ∈ rs := by rw [← HPs.out]; exact List.mem_map.2 ⟨p, hp, rfl⟩
          have := HF.out.fit p.l h1
          omega)
        injection e' with e1 e2 e3
        subst e1; subst e3
        have h := alike_any Ar8 Ar nr8 cr8 ps.length cr ps8 ps (w8.drewN q) _ _ hrr8 hrd (by have h1 := hrr8.len; have h2 := congrArg List.length hps8; have h3 := HRc.out; simp [Piece.bytes] at h2; omega)
        rw [decide_eq_true (hps8.trans HPs.out.symm)] at h
        rw [e2]
        exact h)
      clear q1 q2 q3 hd8 hSU hD7 hm8 ht8 hf8 hlo hhi hns8 hls8 hrs8 hps8 hrr8 y0 y3 HV7 HK7 HR7
      go_wp2_with fail
      refine (hsame.out 0).mono ?_
      rintro e9 w9 ⟨rfl, k9, rfl⟩
      go_wp2_with fail
      refine (halike.out _).mono ?_
      rintro e9 w9 ⟨rfl, k10, rfl⟩
      obtain ⟨w9, hw9⟩ : ∃ w9, w9 = (w8.drewN k9).drewN k10 := ⟨_, rfl⟩
      have hb9 : Below w8.heap.size w8 w9 := by rw [hw9]; exact (below_drewN (Below.refl _ _) _).trans ((below_drewN (Below.refl _ _) _).mono (Nat.le_refl _))
      rw [← hw9]
      have HV9 := Lib.hid (HV8.out.next hb9)
      have HK9 := Lib.hid (HK8.out.next hb9)
      clear hw9 hb9 HV8 HK8 hsame halike

      have hrec : Hid ((⟨vf, vg, sn, rs, sk⟩ : VK).rs.length = nr) := Lib.hid (HRc.out)
      have hct := Lib.hid (HC.out Q8 R d8 ⟨vf, vg, sn, rs, sk⟩ U8 w9 HV9.out.mod)
      rw [hrec.out] at hct
      have hgn := Lib.hid (HGe.out Q8 R d8 ⟨vf, vg, sn, rs, sk⟩ U8 w9 HV9.out.mod)
      go_wp2_with fail
      refine (hct.out).mono ?_
      rintro e w10 ⟨rfl, hw⟩
      rw [← hw]
      clear hw w10
      go_wp2_with fail
      refine (hgn.out).mono ?_
      rintro e w10 ⟨rfl, hw⟩
      rw [← hw]
      clear hw w10
      go_wp2
      go_roundw
      case rel => exact ⟨q + 1, d8, ⟨vf, vg, sn, rs, sk⟩, Q8, U8, ps, As, ns, cs, rfl, rfl, rfl, by go_num, by omega, HV9.out, HK9.out, HPs.out, HF8.out, HFt8.out.mono (by have := HOl.out; omega) (by omega), (by show vg ≤ _; omega), HBs.out, HBr.out, HSl.out⟩
      case measure => simp [intOf]; omega

     case inr =>

      go_wp2_with fail
      rw [← hw7, ← hp]
      clear hw7 hp
      obtain ⟨q1, q2, _⟩ := opn_fresh HF.out ob (by have := HOl.out; omega)
      obtain ⟨d8, hd8⟩ : ∃ d8, d8 = d.syn vf := ⟨_, rfl⟩
      have q1 : opn d ob = (0, d8, some ⟨vf, vg, sn, rs, sk⟩) := by rw [hd8]; exact q1
      have q2 : Fresh d8 ⟨vf, vg, sn, rs, sk⟩ := by rw [hd8]; exact q2
      have q3 := opn_fit HFt.out ob
      rw [q1] at q3
      have HF8 := Lib.hid q2
      have HFt8 := Lib.hid q3
      obtain ⟨S7, hD7, hSU, _⟩ := HV7.out.mod.disk
      have HSn : Hid (∀ b, S7 b → w.heap.size ≤ b) := Lib.hid (fun b hb => HV7.out.new b (hSU b hb))
      refine (HO.out R oA om oq ob d S7 w7 (HV7.out.tab HT.out) (fun h0 => HV7.out.zero HT.out (hSU 0 h0)) hD7 HR7.out homq HBo.out (HF.out.bytes HBs.out HBr.out) (fun h0 ad e hs => HFr.out h0 ad e (hSU _ hs)) (by omega) _ _ HFt.out (by omega) (by omega)).mono ?_
      rintro e w8 hop
      unfold OpnP at hop
      rw [q1] at hop
      rcases hop with ⟨hne, _⟩ | ⟨_, v8, Q8, vs8, vr8, U8, lo8, hi8, hv, rfl, hm8, ht8, hf8, hlo, hhi, hsn8, hrc8, _⟩
      · exact absurd rfl hne
      injection hv with hv
      subst hv
      obtain ⟨As8, ns8, cs8, rfl, hns8, hls8, hrs8, _⟩ := hsn8
      obtain ⟨Ar8, nr8, cr8, ps8, rfl, hps8, hrr8, _, _⟩ := hrc8
      have HV8 : Hid (AtV w Q8 R d8 ⟨vf, vg, sn, rs, sk⟩ U8 w8) := Lib.hid ⟨hm8, from_base hf8 HSn.out HV7.out.bel.size, ht8.below HV7.out.bel HV7.out.bel.size HSn.out⟩
      have HK8 : Hid (Kpt w.heap.size U8 As ns (.slice Ar nr cr) sn ps w8) := Lib.hid ((HK7.out.sub hSU).turn ht8 hf8)
      have hps8 : Piece.bytes ps8 = rs := hps8
      have hsame : Hid (∀ q, Calls Tryd.prog 23 #[.slice As8 ns8 cs8, .slice As ns cs] (w8.drewN q) fun e w' => e = .returned (.bool true) ∧ ∃ k, w' = (w8.drewN q).drewN k) := Lib.hid (fun q => by
        have h := same_any As8 As ns8 cs8 ns cs sn sn (w8.drewN q) _ _ hrs8 HK8.out.snap (by have h1 := hrs8.1; have h2 := HSl.out; simp at h1; omega)
        rwa [decide_eq_true rfl] at h)
      have halike : Hid (∀ q, Calls Tryd.prog 24 #[.slice Ar8 nr8 cr8, .slice Ar nr cr] (w8.drewN q) fun e w' => e = .returned (.bool true) ∧ ∃ k, w' = (w8.drewN q).drewN k) := Lib.hid (fun q => by
        obtain ⟨A', c', e', _, hrd⟩ := HK8.out.recs.reads (fun p hp => by
          have h1 : p.l ∈ rs := by rw [← HPs.out]; exact List.mem_map.2 ⟨p, hp, rfl⟩
          have := HF.out.fit p.l h1
          omega)
        injection e' with e1 e2 e3
        subst e1; subst e3
        have h := alike_any Ar8 Ar nr8 cr8 ps.length cr ps8 ps (w8.drewN q) _ _ hrr8 hrd (by have h1 := hrr8.len; have h2 := congrArg List.length hps8; have h3 := HRc.out; simp [Piece.bytes] at h2; omega)
        rw [decide_eq_true (hps8.trans HPs.out.symm)] at h
        rw [e2]
        exact h)
      clear q1 q2 q3 hd8 hSU hD7 hm8 ht8 hf8 hlo hhi hns8 hls8 hrs8 hps8 hrr8 y0 y3 HV7 HK7 HR7
      go_wp2_with fail
      refine (hsame.out 0).mono ?_
      rintro e9 w9 ⟨rfl, k9, rfl⟩
      go_wp2_with fail
      refine (halike.out _).mono ?_
      rintro e9 w9 ⟨rfl, k10, rfl⟩
      obtain ⟨w9, hw9⟩ : ∃ w9, w9 = (w8.drewN k9).drewN k10 := ⟨_, rfl⟩
      have hb9 : Below w8.heap.size w8 w9 := by rw [hw9]; exact (below_drewN (Below.refl _ _) _).trans ((below_drewN (Below.refl _ _) _).mono (Nat.le_refl _))
      rw [← hw9]
      have HV9 := Lib.hid (HV8.out.next hb9)
      have HK9 := Lib.hid (HK8.out.next hb9)
      clear hw9 hb9 HV8 HK8 hsame halike

      have hrec : Hid ((⟨vf, vg, sn, rs, sk⟩ : VK).rs.length = nr) := Lib.hid (HRc.out)
      have hct := Lib.hid (HC.out Q8 R d8 ⟨vf, vg, sn, rs, sk⟩ U8 w9 HV9.out.mod)
      rw [hrec.out] at hct
      have hgn := Lib.hid (HGe.out Q8 R d8 ⟨vf, vg, sn, rs, sk⟩ U8 w9 HV9.out.mod)
      go_wp2_with fail
      refine (hct.out).mono ?_
      rintro e w10 ⟨rfl, hw⟩
      rw [← hw]
      clear hw w10
      go_wp2_with fail
      refine (hgn.out).mono ?_
      rintro e w10 ⟨rfl, hw⟩
      rw [← hw]
      clear hw w10
      go_wp2
      go_roundw
      case rel => exact ⟨q + 1, d8, ⟨vf, vg, sn, rs, sk⟩, Q8, U8, ps, As, ns, cs, rfl, rfl, rfl, by go_num, by omega, HV9.out, HK9.out, HPs.out, HF8.out, HFt8.out.mono (by have := HOl.out; omega) (by omega), (by show vg ≤ _; omega), HBs.out, HBr.out, HSl.out⟩
      case measure => simp [intOf]; omega

    case neg =>
      have c4 : (kd == 4) = false := by simp; omega
      have c5 : (kd == 5) = false := by simp; omega
      go_wp2_with fail
      rw [← hw7]
      clear hw7

      have hrec : Hid ((⟨vf, vg, sn, rs, sk⟩ : VK).rs.length = nr) := Lib.hid (HRc.out)
      have hct := Lib.hid (HC.out Q R d ⟨vf, vg, sn, rs, sk⟩ U w7 HV7.out.mod)
      rw [hrec.out] at hct
      have hgn := Lib.hid (HGe.out Q R d ⟨vf, vg, sn, rs, sk⟩ U w7 HV7.out.mod)
      refine (hct.out).mono ?_
      rintro e w10 ⟨rfl, hw⟩
      rw [← hw]
      clear hw w10
      go_wp2_with fail
      refine (hgn.out).mono ?_
      rintro e w10 ⟨rfl, hw⟩
      rw [← hw]
      clear hw w10
      go_wp2
      go_roundw
      case rel => exact ⟨q + 1, d, ⟨vf, vg, sn, rs, sk⟩, Q, U, ps, As, ns, cs, rfl, rfl, rfl, by go_num, by omega, HV7.out, HK7.out, HPs.out, HF.out, HFt.out.mono (by omega) (by omega), (by show vg ≤ _; omega), HBs.out, HBr.out, HSl.out⟩
      case measure => simp [intOf]; omega
end Go.Proofs.YtnpmccekkjadhaaDoor.Pk
