import Derived.Test.YtllcbjaajffaeaaGreatDoorRg
namespace Go.Am
theorem find_lt {k u : Value} : ∀ (es : List MapEntry) (i m : Nat), findB k es i = some (some (m, u)) → i ≤ m
  | [], i, m, e => by simp [findB] at e
  | x :: es, i, m, e => by
    simp only [findB] at e
    split at e
    · simp only [Option.some.injEq, Prod.mk.injEq] at e; omega
    · have := find_lt es _ _ e; omega
    · cases e
theorem find_setE {k u v : Value} (hk : sameKeyB k k = some true) : ∀ {es : List MapEntry} {i j : Nat}, findB k es i = some (some (i + j, u)) → findB k (setE k v es j) i = some (some (i + j, v))
  | [], i, j, e => by simp [findB] at e
  | x :: es, i, j, e => by
    simp only [findB] at e
    split at e
    · simp only [Option.some.injEq, Prod.mk.injEq] at e
      have : j = 0 := by omega
      subst this
      simp only [setE, findB, hk, Nat.add_zero]
    · rename_i hb
      cases j with
      | zero => exact absurd (find_lt es (i + 1) _ e) (by omega)
      | succ j =>
        simp only [setE, findB, hb]
        have := find_setE (v := v) hk (es := es) (i := i + 1) (j := j) (by rw [e]; congr 3; omega)
        rw [this]; congr 3; omega
    · cases e
theorem find_addE {k v : Value} {c : Nat} (hk : sameKeyB k k = some true) : ∀ {es : List MapEntry} {i : Nat}, findB k es i = some none → findB k (addE ⟨k, v, c⟩ es) i = some (some (i + es.length, v))
  | [], i, _ => by simp [addE, findB, hk]
  | x :: es, i, e => by
    simp only [findB] at e
    split at e
    · cases e
    · rename_i hb
      simp only [addE, findB, hb, find_addE hk e, List.length_cons]
      congr 3; omega
    · cases e
theorem find_setE_ne {k k' u v : Value} (hne : sameKeyB k' k = some false) : ∀ {es : List MapEntry} {i j : Nat}, findB k es i = some (some (i + j, u)) → findB k' (setE k v es j) i = findB k' es i
  | [], i, j, e => by simp [findB] at e
  | x :: es, i, j, e => by
    simp only [findB] at e
    split at e
    · rename_i hb
      simp only [Option.some.injEq, Prod.mk.injEq] at e
      have : j = 0 := by omega
      subst this
      have hx := keyB_true hb
      simp only [setE, findB, hne, hx]
    · rename_i hb
      cases j with
      | zero => exact absurd (find_lt es (i + 1) _ e) (by omega)
      | succ j =>
        simp only [setE, findB]
        rw [find_setE_ne hne (es := es) (i := i + 1) (j := j) (by rw [e]; congr 3; omega)]
    · cases e
theorem find_addE_ne {k k' v : Value} {c : Nat} (hne : sameKeyB k' k = some false) : ∀ {es : List MapEntry} {i : Nat}, findB k' (addE ⟨k, v, c⟩ es) i = findB k' es i
  | [], i => by simp [addE, findB, hne]
  | x :: es, i => by simp only [addE, findB, find_addE_ne hne]
theorem mem_setE {k v : Value} : ∀ {es : List MapEntry} {j : Nat} {e : MapEntry}, e ∈ setE k v es j → e.key = k ∨ e ∈ es
  | [], _, _, h => by cases h
  | x :: es, 0, e, h => by
    rcases List.mem_cons.1 h with rfl | h
    · exact .inl rfl
    · exact .inr (List.mem_cons_of_mem _ h)
  | x :: es, j + 1, e, h => by
    rcases List.mem_cons.1 h with rfl | h
    · exact .inr (List.mem_cons_self ..)
    · exact (mem_setE h).imp id (List.mem_cons_of_mem _)
structure MapIs (D : Value → Prop) (es : List MapEntry) (f : Value → Option Value) : Prop where
  keys : ∀ e, e ∈ es → D e.key
  found : ∀ k, D k → (f k = none ∧ findB k es 0 = some none) ∨ ∃ v j, f k = some v ∧ findB k es 0 = some (some (j, v))
def Told2 (D : Value → Prop) : Prop := ∀ k k', D k → D k' → (k = k' ∧ sameKeyB k k' = some true) ∨ (k ≠ k' ∧ sameKeyB k k' = some false)
theorem MapIs.nil {D : Value → Prop} : MapIs D [] fun _ => none := ⟨fun _ h => (by cases h), fun k _ => .inl ⟨rfl, rfl⟩⟩
open Classical in
theorem MapIs.put {D : Value → Prop} {es : List MapEntry} {f : Value → Option Value} {k v : Value} {ck : Nat} (hT : Told2 D) (h : MapIs D es f) (hk : D k) :
    ∃ es2 ck2, (match findB k es 0 with | some (some (j, _)) => some (setE k v es j, ck) | some none => some (addE ⟨k, v, ck⟩ es, ck + 1) | none => none) = some (es2, ck2) ∧ MapIs D es2 fun x => if x = k then some v else f x := by
  have hkk : sameKeyB k k = some true := by
    rcases hT k k hk hk with ⟨_, h⟩ | ⟨h, _⟩
    · exact h
    · exact absurd rfl h
  rcases h.found k hk with ⟨h1, h2⟩ | ⟨u, j, h1, h2⟩
  · refine ⟨addE ⟨k, v, ck⟩ es, ck + 1, by rw [h2], fun e he => ?_, fun x hx => ?_⟩
    · rw [addE_eq] at he
      rcases List.mem_append.1 he with he | he
      · exact h.keys e he
      · simp at he; subst he; exact hk
    · rcases hT x k hx hk with ⟨rfl, _⟩ | ⟨hne, hs⟩
      · exact .inr ⟨v, _, if_pos rfl, find_addE hkk h2⟩
      · rw [if_neg hne, find_addE_ne hs]
        exact h.found x hx
  · refine ⟨setE k v es j, ck, by rw [h2], fun e he => ?_, fun x hx => ?_⟩
    · rcases mem_setE he with h | h'
      · rw [h]; exact hk
      · exact h.keys e h'
    · have h2' : findB k es 0 = some (some (0 + j, u)) := by rw [h2, Nat.zero_add]
      rcases hT x k hx hk with ⟨rfl, _⟩ | ⟨hne, hs⟩
      · exact .inr ⟨v, _, if_pos rfl, find_setE hkk h2'⟩
      · rw [if_neg hne, find_setE_ne hs h2']
        exact h.found x hx
theorem MapIs.put' {D : Value → Prop} {es : List MapEntry} {f : Value → Option Value} {k v : Value} {ck : Nat} (hT : Told2 D) (h : MapIs D es f) (hk : D k) :
    ∃ es2 ck2 f2, (match findB k es 0 with | some (some (j, _)) => some (setE k v es j, ck) | some none => some (addE ⟨k, v, ck⟩ es, ck + 1) | none => none) = some (es2, ck2) ∧ MapIs D es2 f2 ∧ f2 k = some v ∧ ∀ x, x ≠ k → f2 x = f x := by
  obtain ⟨es2, ck2, h1, h2⟩ := MapIs.put (v := v) (ck := ck) hT h hk
  exact ⟨es2, ck2, _, h1, h2, if_pos rfl, fun x hx => if_neg hx⟩
end Go.Am
namespace Go.Proofs.YtllcbjaajffaeaaGreatDoor
open Go.Am Go.Pd
set_option linter.unusedVariables false
abbrev mkV (n : Nat) (t : W) : Value := .agg #[.int .i64 (n : Nat), str t]
def DM (k : Value) : Prop := ∃ n t, k = mkV n t
theorem mkV_inj {n n' : Nat} {t t' : W} (h : mkV n t = mkV n' t') : n = n' ∧ t = t' := by
  simp only [mkV, Value.agg.injEq, Array.mk.injEq, List.cons.injEq, Value.int.injEq, Value.string.injEq, ByteArray.mk.injEq, and_true, true_and] at h
  exact ⟨by omega, h.2⟩
theorem told_DM : Told2 DM := by
  rintro k k' ⟨n, t, rfl⟩ ⟨n', t', rfl⟩
  have hs : sameKeyB (mkV n t) (mkV n' t') = some (ieqB (n : Int) (n' : Int) && (bytesEq t t' && true)) := rfl
  rw [hs, ieqB_eq, beq_bytes]
  by_cases h : n = n' ∧ t = t'
  · obtain ⟨rfl, rfl⟩ := h
    exact .inl ⟨rfl, by simp⟩
  · refine .inr ⟨fun e => h (mkV_inj e), ?_⟩
    rw [Option.some.injEq, Bool.eq_false_iff]
    intro hh
    simp only [Bool.and_eq_true, beq_iff_eq, decide_eq_true_eq] at hh
    exact h ⟨by omega, hh.2.1⟩
abbrev kdV (c : UInt8) : Value := .int .u8 (c.toNat : Nat)
def DK (k : Value) : Prop := ∃ c, k = kdV c
theorem kdV_inj {c c' : UInt8} (h : kdV c = kdV c') : c = c' := by
  simp only [kdV, Value.int.injEq, true_and] at h
  exact UInt8.toNat_inj.1 (by omega)
theorem told_DK : Told2 DK := by
  rintro k k' ⟨c, rfl⟩ ⟨c', rfl⟩
  have hs : sameKeyB (kdV c) (kdV c') = some (ieqB (c.toNat : Int) (c'.toNat : Int)) := rfl
  rw [hs, eq_u8]
  by_cases h : c = c'
  · subst h; exact .inl ⟨rfl, by simp⟩
  · exact .inr ⟨fun e => h (kdV_inj e), by simpa using h⟩
end Go.Proofs.YtllcbjaajffaeaaGreatDoor
