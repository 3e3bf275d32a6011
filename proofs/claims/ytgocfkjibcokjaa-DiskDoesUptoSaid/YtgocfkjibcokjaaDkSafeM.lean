/- What was safe stays, what comes back is a beginning: plain mathematics. -/
import Derived.Test.YtgocfkjibcokjaaDkCount
namespace Go.Proofs.Ytgocfkjibcokjaa.Dk
set_option linter.unusedVariables false

theorem offs_pre (d : DK) (k : Int) : d.f0.s <+: (d.offs k).f0.s ∧ (d.offs k).f0.s <+: d.f0.all := by
  unfold DK.offs
  split
  · exact ⟨⟨_, rfl⟩, (List.prefix_append_right_inj _).2 (List.take_prefix _ _)⟩
  · exact ⟨List.prefix_refl _, ⟨_, rfl⟩⟩
theorem offs_down {d : DK} (k : Int) (h : d.on = false) : d.offs k = d := by unfold DK.offs; rw [if_neg (by simp [h])]
theorem raw_pre (d : DK) : d.f0.s <+: d.raw.f0.s ∧ d.raw.f0.s <+: d.f0.all := by
  unfold DK.raw
  split
  · exact offs_pre d.count d.keep
  · exact ⟨List.prefix_refl _, ⟨_, rfl⟩⟩
/-- Behind a call but Truncate. -/
theorem does_safe (d : DK) (o : Cm) (hk : o.kind ≠ 2) : d.f0.s <+: (d.does o).f0.s ∧ (d.on = true → (d.does o).f0.s <+: d.f0.all ++ (if o.kind = 0 ∧ o.f = 0 then o.b else [])) ∧ (d.on = false → (d.does o).f0.s = d.f0.s) := by
  have stay : ∀ d' : DK, d'.f0 = d.f0 → d.f0.s <+: d'.f0.s ∧ (d.on = true → d'.f0.s <+: d.f0.all ++ (if o.kind = 0 ∧ o.f = 0 then o.b else [])) ∧ (d.on = false → d'.f0.s = d.f0.s) := fun d' e => by
    rw [e]
    exact ⟨List.prefix_refl _, fun _ => List.IsPrefix.trans ⟨d.f0.w, rfl⟩ ⟨_, rfl⟩, fun _ => rfl⟩
  have more : ∀ d' : DK, d.on = true → d.f0.s <+: d'.f0.s → d'.f0.s <+: d.f0.all → d.f0.s <+: d'.f0.s ∧ (d.on = true → d'.f0.s <+: d.f0.all ++ (if o.kind = 0 ∧ o.f = 0 then o.b else [])) ∧ (d.on = false → d'.f0.s = d.f0.s) := fun d' h h1 h2 =>
    ⟨h1, fun _ => h2.trans ⟨_, rfl⟩, fun h3 => by rw [h] at h3; cases h3⟩
  unfold DK.does
  split
  case isTrue h0 =>
    unfold DK.app
    split
    case isTrue hn =>
      have hon : d.on = true := by
        unfold DK.no at hn
        split at hn
        · split at hn
          · assumption
          · simp at hn
        · simp at hn
      have hf : o.f = 0 ∨ o.f = 1 := by
        unfold DK.no at hn
        split at hn
        · assumption
        · simp at hn
      rcases hf with hf | hf
      · rw [hf]
        have h := raw_pre (d.put 0 ⟨(d.get 0).s, (d.get 0).w ++ o.b⟩)
        refine ⟨h.1, fun _ => ?_, fun h3 => by rw [hon] at h3; cases h3⟩
        rw [if_pos ⟨h0, rfl⟩]
        have h2 := h.2
        have e : (d.put 0 ⟨(d.get 0).s, (d.get 0).w ++ o.b⟩).f0.all = d.f0.all ++ o.b := by
          unfold DK.put DK.get FL.all
          simp
        rw [e] at h2
        exact h2
      · rw [hf]
        have h := raw_pre (d.put 1 ⟨(d.get 1).s, (d.get 1).w ++ o.b⟩)
        have e : (d.put 1 ⟨(d.get 1).s, (d.get 1).w ++ o.b⟩).f0 = d.f0 := by unfold DK.put; simp
        rw [e] at h
        exact ⟨h.1, fun _ => h.2.trans ⟨_, rfl⟩, fun h3 => by rw [hon] at h3; cases h3⟩
    case isFalse => exact stay _ rfl
  split
  · unfold DK.syn
    split
    case isTrue hn =>
      have hon : d.on = true := by
        unfold DK.no at hn
        split at hn
        · split at hn
          · assumption
          · simp at hn
        · simp at hn
      split
      · have h := raw_pre d
        exact more _ hon h.1 h.2
      · by_cases hf : o.f = 1
        · have h := raw_pre d
          have e : (d.raw.put o.f ⟨(d.get o.f).all, []⟩).f0 = d.raw.f0 := by unfold DK.put; rw [if_pos hf]
          rw [e]
          exact more _ hon h.1 h.2
        · have e : (d.raw.put o.f ⟨(d.get o.f).all, []⟩).f0.s = d.f0.all := by unfold DK.put DK.get; rw [if_neg hf, if_neg hf]
          refine more _ hon ?_ ?_
          · rw [e]; exact ⟨_, rfl⟩
          · rw [e]
            exact List.prefix_refl _
    case isFalse => exact stay _ rfl
  split
  · exact stay _ rfl
  split
  · by_cases hon : d.on = true
    · have h := offs_pre d o.k
      exact more _ hon h.1 h.2
    · rw [offs_down o.k (by simpa using hon)]
      exact stay _ rfl
  split
  · exact stay _ rfl
  · exact stay _ rfl
/-- A beginning, as the statement asks it. -/
theorem pre_take {l r : List Int} (h : l <+: r) : l.length ≤ r.length ∧ r.take l.length = l := ⟨h.length_le, (List.prefix_iff_eq_take.1 h).symm⟩
end Go.Proofs.Ytgocfkjibcokjaa.Dk
