/- Layer 13, plain: what has no $ stays; what has each $ twice comes out with each once. -/
import Derived.Test.YtmdcfnnoeimakaaGreatDoorFXg
namespace Go.Xp
set_option linter.unusedVariables false
theorem pre_pre (a b : B) : ∀ x, pre a (pre b x) = pre (a ++ b) x
  | .ok o => by simp [pre]
  | .error e => rfl
theorem pre_nil : ∀ x : Except Nat B, pre [] x = x
  | .ok o => rfl
  | .error e => rfl
theorem sub_nil (look : B → Option B) : sub look (([] : B).length + 1) [] = .ok [] := rfl
theorem sub_plain (look : B → Option B) {c : UInt8} {t : B} (h : c ≠ 36) : sub look ((c :: t).length + 1) (c :: t) = pre [c] (sub look (t.length + 1) t) := by
  have h1 := sub_D look (c :: t) []
  rw [pre_nil] at h1
  rw [h1, sub_D look t [c]]
  have e1 : hd 36 (c :: t) = c :: hd 36 t := by unfold hd; simp [h]
  have e2 : tl 36 (c :: t) = tl 36 t := by unfold tl; rw [e1]; simp
  have e3 : fd 36 (c :: t) = fd 36 t := by unfold fd; rw [e1]; simp
  rw [e1, e2, e3]
  rfl
theorem sub_dollar (look : B → Option B) (t : B) : sub look ((36 :: t).length + 1) (36 :: t) = match mark t with
    | none => .error 4
    | some (none, b) => pre [36] (sub look (b.length + 1) b)
    | some (some x, b) => match look x with
      | none => .error 63
      | some w => pre w (sub look (b.length + 1) b) := by
  have h1 := sub_D look (36 :: t) []
  rw [pre_nil] at h1
  rw [h1]
  have e1 : hd 36 (36 :: t) = [] := rfl
  have e2 : tl 36 (36 :: t) = t := rfl
  have e3 : fd 36 (36 :: t) = true := by unfold fd; rw [e1]; simp
  rw [e1, e2, e3, D, if_pos rfl]
  cases mark t with
  | none => rfl
  | some x =>
    obtain ⟨x, b⟩ := x
    cases x with
    | none => rfl
    | some x => cases look x <;> rfl
/-- Each $ twice. -/
def dbl : B → B
  | [] => []
  | c :: s => if c = 36 then 36 :: 36 :: dbl s else c :: dbl s
theorem dbl_snoc (c : UInt8) : ∀ s : B, dbl (s ++ [c]) = dbl s ++ (if c = 36 then [36, 36] else [c])
  | [] => by by_cases h : c = 36 <;> simp [dbl, h]
  | d :: s => by
    by_cases h : d = 36
    · simp only [List.cons_append, dbl, if_pos h, dbl_snoc c s]
    · simp only [List.cons_append, dbl, if_neg h, dbl_snoc c s]
theorem dbl_len : ∀ s : B, (dbl s).length ≤ 2 * s.length ∧ s.length ≤ (dbl s).length
  | [] => by simp [dbl]
  | c :: s => by
    have := dbl_len s
    by_cases h : c = 36
    · rw [dbl, if_pos h]; simp only [List.length_cons]; omega
    · rw [dbl, if_neg h]; simp only [List.length_cons]; omega
theorem sub_dbl (look : B → Option B) : ∀ s : B, sub look ((dbl s).length + 1) (dbl s) = .ok s
  | [] => rfl
  | c :: s => by
    by_cases h : c = 36
    · have hm : mark (36 :: dbl s) = some (none, dbl s) := rfl
      rw [dbl, if_pos h, sub_dollar, hm]
      show pre [36] (sub look ((dbl s).length + 1) (dbl s)) = _
      rw [sub_dbl look s, h]; rfl
    · rw [dbl, if_neg h, sub_plain look h, sub_dbl look s]; rfl
theorem sub_none (look : B → Option B) : ∀ s : B, (36 : UInt8) ∉ s → sub look (s.length + 1) s = .ok s
  | [], _ => rfl
  | c :: s, h => by
    have h1 : c ≠ 36 := fun e => h (by simp [e])
    have h2 : (36 : UInt8) ∉ s := fun e => h (by simp [e])
    rw [sub_plain look h1, sub_none look s h2]; rfl
theorem subst_dbl (look : B → Option B) (s : B) : subst look (dbl s) = if 400 < s.length then .error 40 else .ok s := by
  unfold subst; rw [sub_dbl]
theorem subst_none (look : B → Option B) {s : B} (h : (36 : UInt8) ∉ s) : subst look s = if 400 < s.length then .error 40 else .ok s := by
  unfold subst; rw [sub_none look s h]
end Go.Xp
