/- The program's vault while a call of it goes on: its disk, its own cells, the raw writes under way; sync, cut, put. -/
import Derived.Test.YtnpmccekkjadhaaDoorZVlt
import Derived.Test.YtnpmccekkjadhaaDoorZEnc
namespace Go.Proofs.YtnpmccekkjadhaaDoor.Pk
open Go.RowKit Go.Proofs.YtnpmccekkjadhaaDoor.Crc Go.Proofs.YtnpmccekkjadhaaDoor.Fr Go.Proofs.YtnpmccekkjadhaaDoor.Dk Go.Proofs.YtnpmccekkjadhaaDoor.Vk
set_option linter.unusedVariables false
/-- The cells of a vault. -/
def vcs (R : Nat) (fl : Int) (g cnt : Value) (x : Int) : Array Value := #[.pointer (some ⟨R, 0, none⟩), .int .i64 fl, g, cnt, .int .i64 x]
/-- The disk is d, the vault's cells are cs; what lies in T lies as it lay; of what is older only U has turned. -/
structure OnV (w0 : World) (R Q : Nat) (U T : Nat → Prop) (wT : World) (d : DK) (cs : Array Value) (wi : World) : Prop where
  ex : ∃ S', DkP wi R d S' ∧ Turned U w0 wi ∧ From U S' w0 ∧ (∀ b, S' b → ¬ T b) ∧ ¬ S' Q
  blk : Blk wi Q 68 cs
  stay : Stay T wT wi
  tlt : ∀ b, T b → b < wT.heap.size
  tq : ¬ T Q
  uq : U Q ∨ w0.heap.size ≤ Q
section
variable {w0 wT wi w' : World} {R Q : Nat} {U T : Nat → Prop} {d d' : DK} {cs : Array Value}
theorem OnV.set (h : OnV w0 R Q U T wT d cs wi) (i : Nat) (u : Value) : OnV w0 R Q U T wT d (cs.setIfInBounds i u) (wi.setCell ⟨Q, i, none⟩ u) := by
  obtain ⟨S', h1, t, f, ap, hq⟩ := h.ex
  have hb : ∀ b, b ≠ Q → (wi.setCell ⟨Q, i, none⟩ u).heap[b]? = wi.heap[b]? := fun b hb => Below.heap_setCell wi ⟨Q, i, none⟩ u b hb
  have hs : wi.heap.size ≤ (wi.setCell ⟨Q, i, none⟩ u).heap.size := by simp [World.setCell]
  have hst := h.stay
  refine ⟨⟨S', h1.stay ⟨hs, fun b hb' => hb b (fun e => hq (e ▸ hb'))⟩, ⟨t.os, t.tape, t.output, Nat.le_trans t.size hs, fun j hj hn => (hb j (fun e => ?_)).trans (t.block j hj hn)⟩, f, ap, hq⟩, h.blk.set_ i u,
    ⟨Nat.le_trans hst.1 hs, fun b hT => (hb b (fun e => h.tq (e ▸ hT))).trans (hst.2 b hT)⟩, h.tlt, h.tq, h.uq⟩
  subst e
  rcases h.uq with h1 | h1
  · exact hn h1
  · omega
theorem OnV.aft (h : OnV w0 R Q U T wT d cs wi) {S' : Nat → Prop} {v : Value} {e : Ending} (h1 : DkP wi R d S') (t : Turned U w0 wi) (f : From U S' w0) (ap : ∀ b, S' b → ¬ T b) (hq : ¬ S' Q) (k : Aft R d' S' wi v e w') : e = .returned v ∧ OnV w0 R Q U T wT d' cs w' := by
  obtain ⟨e1, S2, h2, t2, f2⟩ := k
  have hs := h.stay
  have hT : ∀ b, T b → b < wi.heap.size := fun b hb => Nat.lt_of_lt_of_le (h.tlt b hb) hs.1
  refine ⟨e1, ⟨S2, h2, t.also f t2, f.trans f2 t.size, from_apart f2 ap hT, fun h3 => ?_⟩, (t2.block Q h.blk.lt hq).trans h.blk, ⟨Nat.le_trans hs.1 t2.size, fun b hb => (t2.block b (hT b hb) (fun hx => ap b hx hb)).trans (hs.2 b hb)⟩, h.tlt, h.tq, h.uq⟩
  rcases f2 Q h3 with h4 | h4
  · exact hq h4
  · have := h.blk.lt; omega
theorem OnV.app (h : OnV w0 R Q U T wT d cs wi) (f : Int) (A : Option Addr) (n c : Nat) (b : List Int) (hr : Reads wi wi.heap.size 1 A n (bts b)) (M m : Nat) (hfit : d.fit M m) (hM : M + n ≤ 140737488355328) (hm : m ≤ 4611686018427387904) :
    Calls Tryd.prog 54 #[.pointer (some ⟨R, 0, none⟩), .int .i64 f, .slice A n c] wi fun e w' => e = .returned (.int .i64 (d.appE f)) ∧ OnV w0 R Q U T wT (d.app f b) cs w' := by
  obtain ⟨S', h1, t, g, ap, hq⟩ := h.ex
  exact (append_any R f A n c b d S' wi h1 hr M m hfit hM hm).mono fun e w' k => h.aft h1 t g ap hq k
theorem OnV.syn (h : OnV w0 R Q U T wT d cs wi) (f : Int) (M m : Nat) (hfit : d.fit M m) (hM : M ≤ 140737488355328) (hm : m ≤ 4611686018427387904) :
    Calls Tryd.prog 67 #[.pointer (some ⟨R, 0, none⟩), .int .i64 f] wi fun e w' => e = .returned (.int .i64 (d.appE f)) ∧ OnV w0 R Q U T wT (d.syn f) cs w' := by
  obtain ⟨S', h1, t, g, ap, hq⟩ := h.ex
  exact (sync_any R f d S' wi h1 M m hfit hM hm).mono fun e w' k => h.aft h1 t g ap hq k
theorem OnV.tru (h : OnV w0 R Q U T wT d cs wi) (f n : Int) (M m : Nat) (hfit : d.fit M m) (hM : M ≤ 140737488355328) (hm : m ≤ 4611686018427387904) :
    Calls Tryd.prog 59 #[.pointer (some ⟨R, 0, none⟩), .int .i64 f, .int .i64 n] wi fun e w' => e = .returned (.int .i64 (d.truE f n)) ∧ OnV w0 R Q U T wT (d.tru f n) cs w' := by
  obtain ⟨S', h1, t, g, ap, hq⟩ := h.ex
  exact (trunc_any R f n d S' wi h1 M m hfit hM hm).mono fun e w' k => h.aft h1 t g ap hq k
end
/-- Raw writes under way in a call of a vault: what they will come to is res; those of rest are still to be done, unless one has answered the error x. -/
def RunV (w0 : World) (R Q : Nat) (U T : Nat → Prop) (wT : World) (fl : Int) (g cnt : Value) (res : Int × DK) (M m : Nat) (rest : List Ro) (x : Int) (wi : World) : Prop :=
  ∃ d, OnV w0 R Q U T wT d (vcs R fl g cnt x) wi ∧ ((x = 0 ∧ d.fit M m ∧ res = runs rest d) ∨ (x ≠ 0 ∧ res = (x, d)))
section
variable {w0 wT wi w' : World} {R Q : Nat} {U T : Nat → Prop} {fl : Int} {g cnt : Value} {res : Int × DK} {M m : Nat} {rest : List Ro} {x : Int}
theorem RunV.bad (h : RunV w0 R Q U T wT fl g cnt res M m rest x wi) (hx : x ≠ 0) (M' m' : Nat) (rest' : List Ro) : RunV w0 R Q U T wT fl g cnt res M' m' rest' x wi := by
  obtain ⟨d, h1, ⟨h2, _⟩ | h2⟩ := h
  · exact absurd h2 hx
  · exact ⟨d, h1, .inr h2⟩
theorem RunV.more (h : RunV w0 R Q U T wT fl g cnt res M m rest x wi) {M' m' : Nat} (hM : M ≤ M') (hm : m ≤ m') : RunV w0 R Q U T wT fl g cnt res M' m' rest x wi := by
  obtain ⟨d, h1, ⟨h2, h3, h4⟩ | h2⟩ := h
  · exact ⟨d, h1, .inl ⟨h2, h3.mono hM hm, h4⟩⟩
  · exact ⟨d, h1, .inr h2⟩
/-- At the end the disk and the error are what was to come. -/
theorem RunV.out (h : RunV w0 R Q U T wT fl g cnt res M m [] x wi) : x = res.1 ∧ OnV w0 R Q U T wT res.2 (vcs R fl g cnt x) wi := by
  obtain ⟨d, h1, ⟨h2, _, h4⟩ | ⟨_, h2⟩⟩ := h
  · rw [h4, h2]; rw [h2] at h1; exact ⟨rfl, h1⟩
  · rw [h2]; exact ⟨rfl, h1⟩
theorem RunV.blk (h : RunV w0 R Q U T wT fl g cnt res M m rest x wi) : Blk wi Q 68 (vcs R fl g cnt x) := by
  obtain ⟨d, h1, _⟩ := h
  exact h1.blk
theorem RunV.stay (h : RunV w0 R Q U T wT fl g cnt res M m rest x wi) : Stay T wT wi := by
  obtain ⟨d, h1, _⟩ := h
  exact h1.stay
theorem RunV.cells (h : RunV w0 R Q U T wT fl g cnt res M m rest x wi) : wi.cell? ⟨Q, 0, none⟩ = some (.pointer (some ⟨R, 0, none⟩)) ∧ wi.cell? ⟨Q, 1, none⟩ = some (.int .i64 fl) ∧ wi.cell? ⟨Q, 4, none⟩ = some (.int .i64 x) ∧ wi.frozen? ⟨Q, 4, none⟩ = false := by
  have hb := h.blk
  exact ⟨by rw [hb.cell]; rfl, by rw [hb.cell]; rfl, by rw [hb.cell]; rfl, hb.frozen 4⟩
/-- A raw write has been done, and its error laid down. -/
theorem RunV.step {o : Ro} {d : DK} (hf : d.fit M m) (hr : res = runs (o :: rest) d) (k : OnV w0 R Q U T wT (o.dk d) (vcs R fl g cnt 0) w') : RunV w0 R Q U T wT fl g cnt res (M + o.len) (m + 1) rest (o.er d) (w'.setCell ⟨Q, 4, none⟩ (.int .i64 (o.er d))) := by
  refine ⟨o.dk d, k.set 4 _, ?_⟩
  by_cases hx : o.er d = 0
  · exact .inl ⟨hx, Ro.fit hf o, by rw [hr, runs_ok hx]⟩
  · exact .inr ⟨hx, by rw [hr, runs_er hx]⟩
end

set_option maxRecDepth 100000 in
set_option maxHeartbeats 1600000 in
theorem vsync_any {w0 wT w : World} {R Q : Nat} {U T : Nat → Prop} {fl : Int} {g cnt : Value} {res : Int × DK} {M m : Nat} {rest : List Ro} {x : Int} (f : Int) (h : RunV w0 R Q U T wT fl g cnt res M m (.S f :: rest) x w) (hM : M ≤ 140737488355328) (hm : m ≤ 4611686018427387904) :
    Calls Tryd.prog 55 #[.pointer (some ⟨Q, 0, none⟩), .int .i64 f] w fun e w' => e = .returned (.tuple #[]) ∧ ∃ x', RunV w0 R Q U T wT fl g cnt res M (m + 1) rest x' w' := by
  obtain ⟨x0, x1, x4, f4⟩ := h.cells
  have H := Lib.hid h
  clear h
  by_cases hx : x = 0
  · subst hx
    obtain ⟨d, h1, ⟨_, h3, h4⟩ | ⟨h2, _⟩⟩ := H.out
    · have HV := Lib.hid h1
      have HF := Lib.hid h3
      have HR := Lib.hid h4
      clear h1 h3 h4
      go_enter Tryd.func55, Tryd.ntmps55
      go_wp2_with fail
      refine (OnV.syn HV.out f M m HF.out hM hm).mono ?_
      rintro e w3 ⟨rfl, hv3⟩
      obtain ⟨y, hy⟩ : ∃ y, y = d.appE f := ⟨_, rfl⟩
      have y4 : w3.cell? ⟨Q, 4, none⟩ = some (.int .i64 0) := by rw [hv3.blk.cell]; rfl
      have g4 : w3.frozen? ⟨Q, 4, none⟩ = false := hv3.blk.frozen 4
      have HE : Hid (∃ x', RunV w0 R Q U T wT fl g cnt res M (m + 1) rest x' (w3.setCell ⟨Q, 4, none⟩ (.int .i64 y))) := Lib.hid ⟨y, by rw [hy]; exact RunV.step (o := .S f) HF.out HR.out hv3⟩
      rw [← hy]
      clear hv3 hy HV HF HR H
      go_wp2
      go_end0
      exact ⟨rfl, HE.out⟩
    · exact absurd rfl h2
  · have HX := Lib.hid hx
    have tx : (x == 0) = false := by simpa using hx
    go_enter Tryd.func55, Tryd.ntmps55
    go_wp2
    go_end0
    exact ⟨rfl, x, H.out.bad HX.out _ _ _⟩

set_option maxRecDepth 100000 in
set_option maxHeartbeats 1600000 in
theorem vcut_any {w0 wT w : World} {R Q : Nat} {U T : Nat → Prop} {fl : Int} {g cnt : Value} {res : Int × DK} {M m : Nat} {rest : List Ro} {x : Int} (f n : Int) (h : RunV w0 R Q U T wT fl g cnt res M m (.T f n :: rest) x w) (hM : M ≤ 140737488355328) (hm : m ≤ 4611686018427387904) :
    Calls Tryd.prog 38 #[.pointer (some ⟨Q, 0, none⟩), .int .i64 f, .int .i64 n] w fun e w' => e = .returned (.tuple #[]) ∧ ∃ x', RunV w0 R Q U T wT fl g cnt res M (m + 1) rest x' w' := by
  obtain ⟨x0, x1, x4, f4⟩ := h.cells
  have H := Lib.hid h
  clear h
  by_cases hx : x = 0
  · subst hx
    obtain ⟨d, h1, ⟨_, h3, h4⟩ | ⟨h2, _⟩⟩ := H.out
    · have HV := Lib.hid h1
      have HF := Lib.hid h3
      have HR := Lib.hid h4
      clear h1 h3 h4
      go_enter Tryd.func38, Tryd.ntmps38
      go_wp2_with fail
      refine (OnV.tru HV.out f n M m HF.out hM hm).mono ?_
      rintro e w3 ⟨rfl, hv3⟩
      obtain ⟨y, hy⟩ : ∃ y, y = d.truE f n := ⟨_, rfl⟩
      have y4 : w3.cell? ⟨Q, 4, none⟩ = some (.int .i64 0) := by rw [hv3.blk.cell]; rfl
      have g4 : w3.frozen? ⟨Q, 4, none⟩ = false := hv3.blk.frozen 4
      have HE : Hid (∃ x', RunV w0 R Q U T wT fl g cnt res M (m + 1) rest x' (w3.setCell ⟨Q, 4, none⟩ (.int .i64 y))) := Lib.hid ⟨y, by rw [hy]; exact RunV.step (o := .T f n) HF.out HR.out hv3⟩
      rw [← hy]
      clear hv3 hy HV HF HR H
      go_wp2
      go_end0
      exact ⟨rfl, HE.out⟩
    · exact absurd rfl h2
  · have HX := Lib.hid hx
    have tx : (x == 0) = false := by simpa using hx
    go_enter Tryd.func38, Tryd.ntmps38
    go_wp2
    go_end0
    exact ⟨rfl, x, H.out.bad HX.out _ _ _⟩

set_option maxRecDepth 100000 in
set_option maxHeartbeats 1600000 in
theorem vput_any {w0 wT w : World} {R Q : Nat} {U T : Nat → Prop} {fl : Int} {g cnt : Value} {res : Int × DK} {M m : Nat} {rest : List Ro} {x : Int} (f : Int) (A : Option Addr) (n c : Nat) (b : List Int) (h : RunV w0 R Q U T wT fl g cnt res M m (.A f b :: .S f :: rest) x w) (hr : Reads w w.heap.size 1 A n (bts b)) (hM : M + n ≤ 140737488355328) (hm : m + 1 ≤ 4611686018427387904) :
    Calls Tryd.prog 33 #[.pointer (some ⟨Q, 0, none⟩), .int .i64 f, .slice A n c] w fun e w' => e = .returned (.tuple #[]) ∧ ∃ x', RunV w0 R Q U T wT fl g cnt res (M + n) (m + 2) rest x' w' := by
  obtain ⟨x0, x1, x4, f4⟩ := h.cells
  have H := Lib.hid h
  have HL : Hid (b.length = n) := Lib.hid (by have := hr.1; simpa using this)
  have HRd := Lib.hid hr
  clear h hr
  by_cases hx : x = 0
  · subst hx
    obtain ⟨d, h1, ⟨_, h3, h4⟩ | ⟨h2, _⟩⟩ := H.out
    · have HV := Lib.hid h1
      have HF := Lib.hid h3
      have HR := Lib.hid h4
      clear h1 h3 h4
      go_enter Tryd.func33, Tryd.ntmps33
      go_wp2_with fail
      refine (OnV.app HV.out f A n c b HRd.out M m HF.out hM (by omega)).mono ?_
      rintro e w3 ⟨rfl, hv3⟩
      obtain ⟨y, hy⟩ : ∃ y, y = d.appE f := ⟨_, rfl⟩
      have y4 : w3.cell? ⟨Q, 4, none⟩ = some (.int .i64 0) := by rw [hv3.blk.cell]; rfl
      have g4 : w3.frozen? ⟨Q, 4, none⟩ = false := hv3.blk.frozen 4
      have HE : Hid (RunV w0 R Q U T wT fl g cnt res (M + n) (m + 1) (.S f :: rest) y (w3.setCell ⟨Q, 4, none⟩ (.int .i64 y))) := Lib.hid (by rw [hy, ← HL.out]; exact RunV.step (o := .A f b) HF.out HR.out hv3)
      rw [← hy]
      clear hv3 hy HV HF HR H
      go_wp2_with fail
      refine (vsync_any f HE.out hM (by omega)).mono ?_
      rintro e w4 ⟨rfl, x4', h4'⟩
      have HX4 : Hid (∃ x', RunV w0 R Q U T wT fl g cnt res (M + n) (m + 2) rest x' w4) := Lib.hid ⟨x4', h4'⟩
      clear h4'
      go_wp2
      go_end0
      exact ⟨rfl, HX4.out⟩
    · exact absurd rfl h2
  · have HX := Lib.hid hx
    have tx : (x == 0) = false := by simpa using hx
    go_enter Tryd.func33, Tryd.ntmps33
    go_wp2_with fail
    refine (vsync_any f (H.out.bad HX.out 0 0 (.S f :: rest)) (by omega) (by omega)).mono ?_
    rintro e w4 ⟨rfl, x4', h4'⟩
    have HX4 : Hid (∃ x', RunV w0 R Q U T wT fl g cnt res (M + n) (m + 2) rest x' w4) := Lib.hid ⟨x4', h4'.more (by omega) (by omega)⟩
    clear h4'
    go_wp2
    go_end0
    exact ⟨rfl, HX4.out⟩
end Go.Proofs.YtnpmccekkjadhaaDoor.Pk

/- The program's vault: Append, Count, Generation. -/
namespace Go.Proofs.YtnpmccekkjadhaaDoor.Pk
open Go.RowKit Go.Proofs.YtnpmccekkjadhaaDoor.Crc Go.Proofs.YtnpmccekkjadhaaDoor.Fr Go.Proofs.YtnpmccekkjadhaaDoor.Dk Go.Proofs.YtnpmccekkjadhaaDoor.Vk
set_option linter.unusedVariables false
/-- The cells of a vault that is v. -/
def vcv (R : Nat) (v : VK) : Array Value := vcs R v.file (.int .u64 (v.g : Int)) (.int .i64 (v.rs.length : Int)) v.sick
section
variable {w0 wT w wi w' : World} {R Q : Nat} {U T : Nat → Prop} {d d' : DK} {v : VK} {cs : Array Value}
/-- The call begins. -/
theorem ModP.onV (hm : ModP w Q R d v U) (hb : Below w.heap.size w wi) : OnV w R Q U (fun b => w.heap.size ≤ b ∧ b < wi.heap.size) wi d (vcv R v) wi ∧ v.g ≤ 4611686018427387904 := by
  obtain ⟨S, Tv, h1, ⟨hv, hg, rfl⟩, h3, rfl⟩ := hm
  refine ⟨⟨⟨S, h1.next hb, Turned.of hb (Nat.le_refl _) _, fun b hb' => .inl (.inl hb'), fun b hb' hT => ?_, fun hq => h3 Q hq rfl⟩, hv.below hb hv.lt, ⟨Nat.le_refl _, fun _ _ => rfl⟩, fun b hT => hT.2, fun hT => ?_, .inl (.inr rfl)⟩, hg⟩
  · have := h1.lt b hb'; omega
  · have := hv.lt; omega
/-- The call ends. -/
theorem OnV.mod (h : OnV w R Q U T wT d (vcv R v) wi) (hg : v.g ≤ 4611686018427387904) : ∃ U', ModP wi Q R d v U' ∧ Turned U w wi ∧ From U U' w := by
  obtain ⟨S', h1, t, f, ap, hq⟩ := h.ex
  refine ⟨fun b => S' b ∨ b = Q, ⟨S', fun b => b = Q, h1, ⟨h.blk, hg, rfl⟩, fun b hb hQ => hq (hQ ▸ hb), rfl⟩, t, ?_⟩
  rintro b (hb | rfl)
  · exact f b hb
  · exact h.uq
theorem ModP.blk (hm : ModP w Q R d v U) : Blk w Q 68 (vcv R v) ∧ v.g ≤ 4611686018427387904 := by
  obtain ⟨S, Tv, h1, ⟨hv, hg, rfl⟩, h3, rfl⟩ := hm
  exact ⟨hv, hg⟩
end
theorem apd_res {d : DK} {v : VK} {r : List Int} (hr : r.length ≤ 1048576) (res : Int × DK) (h : res = if v.sick = 0 then runs [.A v.file (enc r), .S v.file] d else (v.sick, d)) :
    apd d v r = (res.1, res.2, if res.1 = 0 then { v with rs := v.rs ++ [r] } else { v with sick := res.1 }) := by
  unfold apd
  rw [if_neg (by omega)]
  by_cases hk : v.sick = 0
  · rw [if_pos hk] at h ⊢
    subst h; rfl
  · rw [if_neg hk] at h ⊢
    subst h
    simp only [hk, if_false]

set_option maxRecDepth 100000 in
set_option maxHeartbeats 4000000 in
theorem appendC (encC : EncC) : AppendC := by
  intro Q R A n c r d v U w ht hU0 hm hr hnc hby hfree hf hn hl M m hfit hM hmm
  have HL : Hid (r.length = n) := Lib.hid (by have := hr.1; simpa using this)
  have HX := Lib.hid (encC A n c r w ht hr hnc hby (by omega))
  have HMo := Lib.hid hm
  have HF := Lib.hid hfit
  have HFi := Lib.hid hf
  have hQ := hm.blk.1.lt
  clear ht hr hby hfit hfree hm encC hf
  go_enter Tryd.func12, Tryd.ntmps12
  go_wp2_with fail
  refine HX.out.mono ?_
  rintro e w1 ⟨hb1, hq⟩
  rcases hq with ⟨hl1, A1, n1, c1, rfl, ho1⟩ | ⟨hl1, rfl⟩
  case inr =>
    have HO : Hid (apd d v r = (3, d, v)) := Lib.hid (by unfold apd; rw [if_pos hl1])
    have HB1 := Lib.hid hb1
    clear hb1 hl1 HX
    go_wp2
    go_ret
    exact ⟨by rw [HO.out]; rfl, U, by rw [HO.out]; exact HMo.out.next HB1.out, Turned.of HB1.out (Nat.le_refl _) U, From.refl _ _⟩
  case inl =>
    obtain ⟨hon, hg⟩ := HMo.out.onV hb1
    obtain ⟨res, hres⟩ : ∃ res, res = if v.sick = 0 then runs [.A v.file (enc r), .S v.file] d else (v.sick, d) := ⟨_, rfl⟩
    have HO := Lib.hid (apd_res hl1 res hres)
    have HSk : Hid (res.1 = 0 → v.sick = 0) := Lib.hid (fun h => by
      by_cases hk : v.sick = 0
      · exact hk
      · rw [hres, if_neg hk] at h; exact h)
    have HRun : Hid (RunV w R Q U (fun b => w.heap.size ≤ b ∧ b < w1.heap.size) w1 v.file (.int .u64 (v.g : Int)) (.int .i64 (v.rs.length : Int)) res M m [.A v.file (enc r), .S v.file] v.sick w1) := Lib.hid (by
      refine ⟨d, hon, ?_⟩
      by_cases hk : v.sick = 0
      · exact .inl ⟨hk, HF.out, by rw [hres, if_pos hk]⟩
      · exact .inr ⟨hk, by rw [hres, if_neg hk]⟩)
    have x1 : w1.cell? ⟨Q, 1, none⟩ = some (.int .i64 v.file) := HRun.out.cells.2.1
    have HO1 := Lib.hid ho1
    have HG := Lib.hid hg
    have hn1 : n1 ≤ 1048584 := by have h1 := (own_len ho1).1; rw [enc_length] at h1; omega
    obtain ⟨vf, hvf⟩ : ∃ vf, vf = v.file := ⟨_, rfl⟩
    obtain ⟨vl, hvl⟩ : ∃ vl, vl = v.rs.length := ⟨_, rfl⟩
    have HVf := Lib.hid hvf
    have HVl := Lib.hid hvl
    have hvl2 : vl ≤ 1073741824 := by omega
    rw [← hvf] at x1
    clear hb1 ho1 hl1 HX hon hg hres hvf hvl hl
    go_wp2_with fail
    have HP := Lib.hid (vput_any v.file A1 n1 c1 (enc r) HRun.out (own_reads HO1.out) (by omega) (by omega))
    rw [← HVf.out] at HP
    refine HP.out.mono ?_
    rintro e w3 ⟨rfl, x', hR3⟩
    obtain ⟨hx', hon3⟩ := hR3.out
    have y4 : w3.cell? ⟨Q, 4, none⟩ = some (.int .i64 x') := hR3.cells.2.2.1
    have y3 : w3.cell? ⟨Q, 3, none⟩ = some (.int .i64 (vl : Int)) := by rw [hon3.blk.cell]; rw [HVl.out]; rfl
    have f3 : w3.frozen? ⟨Q, 3, none⟩ = false := hon3.blk.frozen 3
    have HX' := Lib.hid hx'
    have HOn := Lib.hid hon3
    clear hR3 hx' hon3 HP
    by_cases hz : x' = 0
    · have HZ := Lib.hid hz
      rw [hz] at y4
      clear hz
      go_wp2
      go_ret
      have e0 : res.1 = 0 := by rw [← HX'.out, HZ.out]
      rw [HO.out]
      simp only [e0, if_true]
      refine ⟨rfl, ?_⟩
      have h1 := HOn.out.set 3 (.int .i64 ((vl : Int) + 1))
      have e : (vcs R v.file (.int .u64 (v.g : Int)) (.int .i64 (v.rs.length : Int)) x').setIfInBounds 3 (.int .i64 ((vl : Int) + 1)) = vcv R { v with rs := v.rs ++ [r] } := by
        unfold vcv vcs
        simp [HZ.out, HSk.out e0, HVl.out]
      rw [HVf.out, e] at h1
      exact OnV.mod (v := { v with rs := v.rs ++ [r] }) h1 HG.out
    · have tx : (x' == 0) = false := by simpa using hz
      have HZ := Lib.hid hz
      clear hz
      go_wp2
      go_ret
      have e0 : ¬ res.1 = 0 := by rw [← HX'.out]; exact HZ.out
      rw [HO.out]
      simp only [e0, if_false]
      refine ⟨by rw [HX'.out]; rfl, ?_⟩
      have h1 := HOn.out
      rw [HX'.out, HVf.out] at h1
      exact OnV.mod (v := { v with sick := res.1 }) h1 HG.out
theorem countC : CountC := by
  intro Q R d v U w hm
  obtain ⟨hb, hg⟩ := hm.blk
  have x3 : w.cell? ⟨Q, 3, none⟩ = some (.int .i64 (v.rs.length : Int)) := by rw [hb.cell]; rfl
  obtain ⟨vl, hvl⟩ : ∃ vl, vl = v.rs.length := ⟨_, rfl⟩
  rw [← hvl] at x3 ⊢
  clear hvl hm hb hg
  go_enter Tryd.func28, Tryd.ntmps28
  go_wp2
  go_ret
  exact ⟨rfl, rfl⟩
theorem genC : GenC := by
  intro Q R d v U w hm
  obtain ⟨hb, hg⟩ := hm.blk
  have x2 : w.cell? ⟨Q, 2, none⟩ = some (.int .u64 (v.g : Int)) := by rw [hb.cell]; rfl
  obtain ⟨vg, hvg⟩ : ∃ vg, vg = v.g := ⟨_, rfl⟩
  rw [← hvg] at x2 hg ⊢
  clear hvg hm hb
  go_enter Tryd.func27, Tryd.ntmps27
  go_wp2
  go_ret
  exact ⟨rfl, rfl⟩
end Go.Proofs.YtnpmccekkjadhaaDoor.Pk

/- The program's vault: Checkpoint. -/
namespace Go.Proofs.YtnpmccekkjadhaaDoor.Pk
open Go.RowKit Go.Proofs.YtnpmccekkjadhaaDoor.Crc Go.Proofs.YtnpmccekkjadhaaDoor.Fr Go.Proofs.YtnpmccekkjadhaaDoor.Dk Go.Proofs.YtnpmccekkjadhaaDoor.Vk
set_option linter.unusedVariables false
theorem ckp_res {d : DK} {v : VK} {s : List Int} (hs : s.length ≤ 1048568) (hg : v.g < 4611686018427387904) (res : Int × DK) (h : res = if v.sick = 0 then runs [.A (1 - v.file) (fg (v.g + 1) s), .S (1 - v.file)] d else (v.sick, d)) :
    ckp d v s = if res.1 = 0 then ((runs [.T v.file 0] res.2).1, (runs [.T v.file 0] res.2).2, ⟨1 - v.file, v.g + 1, s, [], (runs [.T v.file 0] res.2).1⟩) else (res.1, res.2, { v with sick := res.1 }) := by
  unfold ckp
  rw [if_neg (by omega), if_neg (by omega)]
  by_cases hk : v.sick = 0
  · rw [if_pos hk] at h ⊢
    subst h; rfl
  · rw [if_neg hk] at h ⊢
    subst h
    simp only [hk, if_false]

set_option maxRecDepth 100000 in
set_option maxHeartbeats 4000000 in
theorem ckpC (encC : EncC) : CkpC := by
  intro Q R A n c s d v U w ht hU0 hm hr hnc hby hfree hf hn hvg M m hfit hM hmm
  have HL : Hid (s.length = n) := Lib.hid (by have := hr.1; simpa using this)
  have HMo := Lib.hid hm
  have HF := Lib.hid hfit
  have hbk := hm.blk.1
  have hQ := hbk.lt
  have x2 : w.cell? ⟨Q, 2, none⟩ = some (.int .u64 (v.g : Int)) := by rw [hbk.cell]; rfl
  obtain ⟨vg, hvg'⟩ : ∃ vg, vg = v.g := ⟨_, rfl⟩
  obtain ⟨vf, hvf⟩ : ∃ vf, vf = v.file := ⟨_, rfl⟩
  have HVg := Lib.hid hvg'
  have HVf := Lib.hid hvf
  have hv0 : 0 ≤ vf := by omega
  have hv1 : vf ≤ 1 := by omega
  rw [← hvg'] at x2 hvg
  have HX := Lib.hid (firstP_any encC (vg + 1) (by omega) A n c s w ht hr hnc hby (by omega))
  rw [show ((vg + 1 : Nat) : Int) = (vg : Int) + 1 by omega] at HX
  clear ht hr hby hfit hfree hm encC hf hbk hvg' hvf
  go_enter Tryd.func14, Tryd.ntmps14
  go_wp2_with fail
  refine HX.out.mono ?_
  rintro e w1 ⟨hb1, hq⟩
  rcases hq with ⟨hl1, A1, n1, c1, rfl, ho1⟩ | ⟨hl1, rfl⟩
  case inr =>
    have HO : Hid (ckp d v s = (3, d, v)) := Lib.hid (by unfold ckp; rw [if_pos hl1])
    have HB1 := Lib.hid hb1
    clear hb1 hl1 HX
    go_wp2
    go_ret
    exact ⟨by rw [HO.out]; rfl, U, by rw [HO.out]; exact HMo.out.next HB1.out, Turned.of HB1.out (Nat.le_refl _) U, From.refl _ _⟩
  case inl =>
    have z2 : w1.cell? ⟨Q, 2, none⟩ = some (.int .u64 (vg : Int)) := (hb1.cell (p := ⟨Q, 2, none⟩) hQ).trans x2
    by_cases hbig : vg = 4611686018427387904
    · have HO : Hid (ckp d v s = (23, d, v)) := Lib.hid (by unfold ckp; rw [if_neg (by omega), if_pos (by rw [← HVg.out, hbig]; exact Nat.le_refl _)])
      have HB1 := Lib.hid hb1
      have tb : ((vg : Int) == 4611686018427387904) = true := by simp; omega
      clear hb1 hl1 HX hbig
      go_wp2
      go_ret
      exact ⟨by rw [HO.out]; rfl, U, by rw [HO.out]; exact HMo.out.next HB1.out, Turned.of HB1.out (Nat.le_refl _) U, From.refl _ _⟩
    · have hlt : vg < 4611686018427387904 := by omega
      have tb : ((vg : Int) == 4611686018427387904) = false := by simp; omega
      obtain ⟨hon, hg⟩ := HMo.out.onV hb1
      obtain ⟨res, hres⟩ : ∃ res, res = if v.sick = 0 then runs [.A (1 - v.file) (fg (v.g + 1) s), .S (1 - v.file)] d else (v.sick, d) := ⟨_, rfl⟩
      have HO := Lib.hid (ckp_res hl1 (by rw [← HVg.out]; exact hlt) res hres)
      have HFt : Hid (res.1 = 0 → res.2.fit (M + n1) (m + 2)) := Lib.hid (fun h => by
        by_cases hk : v.sick = 0
        · rw [if_pos hk] at hres
          have h1 := runs_fit [.A (1 - v.file) (fg (v.g + 1) s), .S (1 - v.file)] HF.out
          rw [← hres] at h1
          exact h1.mono (by have h2 := (own_len ho1).1; rw [fg_length] at h2; simp [Ro.len, fg_length]; omega) (by simp)
        · rw [hres, if_neg hk] at h; exact absurd h hk)
      have HRun : Hid (RunV w R Q U (fun b => w.heap.size ≤ b ∧ b < w1.heap.size) w1 v.file (.int .u64 (v.g : Int)) (.int .i64 (v.rs.length : Int)) res M m [.A (1 - v.file) (fg (v.g + 1) s), .S (1 - v.file)] v.sick w1) := Lib.hid (by
        refine ⟨d, hon, ?_⟩
        by_cases hk : v.sick = 0
        · exact .inl ⟨hk, HF.out, by rw [hres, if_pos hk]⟩
        · exact .inr ⟨hk, by rw [hres, if_neg hk]⟩)
      have x1 : w1.cell? ⟨Q, 1, none⟩ = some (.int .i64 v.file) := HRun.out.cells.2.1
      rw [← HVf.out] at x1
      have HO1 := Lib.hid ho1
      have HG := Lib.hid hg
      have hn1 : n1 ≤ 1048592 := by have h1 := (own_len ho1).1; rw [fg_length] at h1; omega
      have HP := Lib.hid (vput_any (1 - v.file) A1 n1 c1 (fg (v.g + 1) s) HRun.out (by rw [← HVg.out]; exact own_reads ho1) (by omega) (by omega))
      rw [← HVf.out] at HP
      clear hb1 ho1 hl1 HX hon hg hres hbig
      go_wp2_with fail
      refine HP.out.mono ?_
      rintro e w3 ⟨rfl, x', hR3⟩
      obtain ⟨hx', hon3⟩ := hR3.out
      have y4 : w3.cell? ⟨Q, 4, none⟩ = some (.int .i64 x') := hR3.cells.2.2.1
      have y1 : w3.cell? ⟨Q, 1, none⟩ = some (.int .i64 vf) := hR3.cells.2.1
      have y2 : w3.cell? ⟨Q, 2, none⟩ = some (.int .u64 (vg : Int)) := by rw [hon3.blk.cell, HVg.out]; rfl
      obtain ⟨vl, hvl⟩ : ∃ vl, vl = v.rs.length := ⟨_, rfl⟩
      have y3 : w3.cell? ⟨Q, 3, none⟩ = some (.int .i64 (vl : Int)) := by rw [hon3.blk.cell, hvl]; rfl
      have f1 : w3.frozen? ⟨Q, 1, none⟩ = false := hon3.blk.frozen 1
      have f2 : w3.frozen? ⟨Q, 2, none⟩ = false := hon3.blk.frozen 2
      have f3 : w3.frozen? ⟨Q, 3, none⟩ = false := hon3.blk.frozen 3
      have HX' := Lib.hid hx'
      have HOn := Lib.hid hon3
      clear hR3 hx' hon3 HP hvl
      by_cases hz : x' = 0
      · have e0 : Hid (res.1 = 0) := Lib.hid (by rw [← HX'.out, hz])
        rw [hz] at y4
        have HO2 := Lib.hid HO.out
        rw [if_pos e0.out] at HO2
        obtain ⟨W4, hW4⟩ : ∃ W4, W4 = ((w3.setCell ⟨Q, 1, none⟩ (.int .i64 (1 - vf))).setCell ⟨Q, 2, none⟩ (.int .u64 ((vg : Int) + 1))).setCell ⟨Q, 3, none⟩ (.int .i64 0) := ⟨_, rfl⟩
        have EW := Lib.hid hW4
        have HR4 : Hid (RunV w R Q U (fun b => w.heap.size ≤ b ∧ b < w1.heap.size) w1 (1 - vf) (.int .u64 ((vg : Int) + 1)) (.int .i64 0) (runs [.T vf 0] res.2) (M + n1) (m + 2) [.T vf 0] 0 W4) := Lib.hid (by
          have h1 := ((HOn.out.set 1 (.int .i64 (1 - vf))).set 2 (.int .u64 ((vg : Int) + 1))).set 3 (.int .i64 0)
          rw [← hW4, hz] at h1
          exact ⟨res.2, h1, .inl ⟨rfl, HFt.out e0.out, rfl⟩⟩)
        have HCt := Lib.hid (vcut_any vf 0 HR4.out (by omega) (by omega))
        clear hz hW4
        go_wp2_with fail
        rw [← EW.out]
        refine HCt.out.mono ?_
        rintro e w5 ⟨rfl, x5, hR5⟩
        have u4 : w5.cell? ⟨Q, 4, none⟩ = some (.int .i64 x5) := hR5.cells.2.2.1
        have HR5 := Lib.hid hR5.out
        clear hR5 HCt
        go_wp2
        go_ret
        rw [HO2.out, ← HVf.out]
        obtain ⟨h5, h6⟩ := HR5.out
        refine ⟨by rw [h5]; rfl, ?_⟩
        rw [h5, HVg.out] at h6
        exact OnV.mod (v := ⟨1 - vf, v.g + 1, s, [], (runs [.T vf 0] res.2).1⟩) h6 (by show v.g + 1 ≤ _; rw [← HVg.out]; omega)
      · have tx : (x' != 0) = true := by simpa using hz
        have HZ := Lib.hid hz
        clear hz
        go_wp2
        go_ret
        have e0 : ¬ res.1 = 0 := by rw [← HX'.out]; exact HZ.out
        rw [HO.out]
        simp only [e0, if_false]
        refine ⟨by rw [HX'.out]; rfl, ?_⟩
        have h1 := HOn.out
        rw [HX'.out, HVf.out] at h1
        exact OnV.mod (v := { v with sick := res.1 }) h1 HG.out
end Go.Proofs.YtnpmccekkjadhaaDoor.Pk
