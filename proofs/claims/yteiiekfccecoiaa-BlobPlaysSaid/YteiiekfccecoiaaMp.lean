/- Maps: what is found in their entries; a map as a function. -/
import Derived.Test.YteiiekfccecoiaaAmE
namespace Go.Am
theorem same_key (b : Int) : sameKeyB (.int .i64 b) (.int .i64 b) = some true := by simp [sameKeyB, ieqB_eq]
theorem find_set {k u v : Value} (hk : sameKeyB k k = some true) : ∀ {es : List MapEntry} {i j : Nat}, findB k es i = some (some (i + j, u)) → findB k (setE k v es j) i = some (some (i + j, v))
  | [], i, j, e => by simp [findB] at e
  | x :: es, i, j, e => by
    simp only [findB] at e
    split at e
    · rename_i hb
      simp only [Option.some.injEq, Prod.mk.injEq] at e
      have : j = 0 := by omega
      subst this
      simp only [setE, findB, hk, Nat.add_zero]
    · rename_i hb
      cases j with
      | zero => exact absurd e (find_lt (i := i) (k := k) (es := es))
      | succ j =>
        simp only [setE, findB, hb]
        have := find_set (v := v) hk (es := es) (i := i + 1) (j := j) (by rw [e]; congr 3; omega)
        rw [this]; congr 3; omega
    · cases e
where
  find_lt {k u : Value} : ∀ {es : List MapEntry} {i : Nat}, ¬ findB k es (i + 1) = some (some (i + 0, u)) := by
    have key : ∀ (es : List MapEntry) (i m : Nat), findB k es i = some (some (m, u)) → i ≤ m := by
      intro es
      induction es with
      | nil => intro i m e; simp [findB] at e
      | cons x es ih =>
        intro i m e
        simp only [findB] at e
        split at e
        · simp only [Option.some.injEq, Prod.mk.injEq] at e; omega
        · have := ih _ _ e; omega
        · cases e
    intro es i e
    have := key _ _ _ e
    omega
theorem find_add {k v : Value} {c : Nat} (hk : sameKeyB k k = some true) : ∀ {es : List MapEntry} {i : Nat}, findB k es i = some none → findB k (addE ⟨k, v, c⟩ es) i = some (some (i + es.length, v))
  | [], i, _ => by simp [addE, findB, hk]
  | x :: es, i, e => by
    simp only [findB] at e
    split at e
    · cases e
    · rename_i hb
      simp only [addE, findB, hb, find_add hk e, List.length_cons]
      congr 3; omega
    · cases e
/-- The entries of a map from numbers to 1, in their order. -/
def ents (bs : List Int) (k : Nat) : List MapEntry := (bs.zipIdx k).map fun p => ⟨.int .i64 p.1, .int .i64 1, p.2⟩
theorem find_ents (b : Int) : ∀ {bs : List Int} {k i : Nat}, (b ∈ bs ∧ ∃ j, findB (.int .i64 b) (ents bs k) i = some (some (i + j, .int .i64 1))) ∨ (b ∉ bs ∧ findB (.int .i64 b) (ents bs k) i = some none)
  | [], k, i => .inr ⟨by simp, rfl⟩
  | c :: bs, k, i => by
    have hs : sameKeyB (.int .i64 b) (.int .i64 c) = some (ieqB b c) := by simp [sameKeyB]
    simp only [ents, List.zipIdx_cons, List.map_cons, findB, hs]
    by_cases h : b = c
    · subst h
      have : ieqB b b = true := by rw [ieqB_eq]; simp
      rw [this]
      exact .inl ⟨by simp, 0, by simp⟩
    · have : ieqB b c = false := by rw [ieqB_eq]; simpa using h
      rw [this]
      rcases find_ents b (bs := bs) (k := k + 1) (i := i + 1) with ⟨h1, j, h2⟩ | ⟨h1, h2⟩
      · exact .inl ⟨by simp [h1], j + 1, by show findB _ (ents bs (k + 1)) (i + 1) = _; rw [h2]; congr 3; omega⟩
      · exact .inr ⟨by simp [h1, h], h2⟩
theorem ents_add (bs : List Int) (b : Int) : addE ⟨.int .i64 b, .int .i64 1, bs.length⟩ (ents bs 0) = ents (bs ++ [b]) 0 := by
  rw [addE_eq]; simp [ents, List.zipIdx_append]

theorem same_eq {k x : Value} (h : sameKeyB k x = some true) : x = k := by
  unfold sameKeyB at h
  split at h
  · split at h
    · rename_i hk; subst hk
      simp only [Option.some.injEq, ieqB_eq] at h
      have := eq_of_beq h
      rw [this]
    · cases h
  · simp only [Option.some.injEq, bytesEq_eq] at h
    have := eq_of_beq h
    rename_i a b
    obtain ⟨⟨a⟩⟩ := a
    obtain ⟨⟨b⟩⟩ := b
    have : a = b := this
    rw [this]
  · cases h
theorem same_int (b c : Int) : sameKeyB (.int .i64 b) (.int .i64 c) = some (ieqB b c) := by simp [sameKeyB]
theorem find_set_ne {k k' u v : Value} (hne : sameKeyB k' k = some false) : ∀ {es : List MapEntry} {i j : Nat}, findB k es i = some (some (i + j, u)) → findB k' (setE k v es j) i = findB k' es i
  | [], i, j, e => by simp [findB] at e
  | x :: es, i, j, e => by
    simp only [findB] at e
    split at e
    · rename_i hb
      simp only [Option.some.injEq, Prod.mk.injEq] at e
      have : j = 0 := by omega
      subst this
      have hx := same_eq hb
      simp only [setE, findB, hne, hx]
    · rename_i hb
      cases j with
      | zero => exact absurd e (find_set.find_lt (i := i) (k := k) (es := es))
      | succ j =>
        simp only [setE, findB]
        rw [find_set_ne hne (es := es) (i := i + 1) (j := j) (by rw [e]; congr 3; omega)]
    · cases e
theorem find_add_ne {k k' v : Value} {c : Nat} (hne : sameKeyB k' k = some false) : ∀ {es : List MapEntry} {i : Nat}, findB k' (addE ⟨k, v, c⟩ es) i = findB k' es i
  | [], i => by simp [addE, findB, hne]
  | x :: es, i => by simp only [addE, findB, find_add_ne hne]
theorem find_at {k u : Value} : ∀ {es : List MapEntry} {i j : Nat}, findB k es i = some (some (i + j, u)) → ∃ e, es[j]? = some e ∧ e.key = k ∧ e.val = u
  | [], i, j, e => by simp [findB] at e
  | x :: es, i, j, e => by
    simp only [findB] at e
    split at e
    · rename_i hb
      simp only [Option.some.injEq, Prod.mk.injEq] at e
      have : j = 0 := by omega
      subst this
      exact ⟨x, rfl, same_eq hb, e.2⟩
    · rename_i hb
      cases j with
      | zero => exact absurd e (find_set.find_lt (i := i) (k := k) (es := es))
      | succ j =>
        obtain ⟨e', h1, h2⟩ := find_at (es := es) (i := i + 1) (j := j) (by rw [e]; congr 3; omega)
        exact ⟨e', by simpa using h1, h2⟩
    · cases e
theorem find_none {k : Value} : ∀ {es : List MapEntry} {i : Nat}, findB k es i = some none → ∀ e ∈ es, sameKeyB k e.key = some false
  | [], i, _, e, he => by cases he
  | x :: es, i, h, e, he => by
    simp only [findB] at h
    split at h
    · cases h
    · rename_i hb
      rcases List.mem_cons.1 he with rfl | he
      · exact hb
      · exact find_none h e he
    · cases h
theorem setE_mem {k v : Value} : ∀ {es : List MapEntry} {j : Nat} {e : MapEntry}, e ∈ setE k v es j → (∃ x, es[j]? = some x ∧ e = ⟨k, v, x.born⟩) ∨ ∃ q, q ≠ j ∧ es[q]? = some e
  | [], j, e, h => by cases j <;> simp [setE] at h
  | x :: es, 0, e, h => by
    simp only [setE] at h
    rcases List.mem_cons.1 h with rfl | h
    · exact .inl ⟨x, rfl, rfl⟩
    · obtain ⟨q, hq, hqe⟩ := List.getElem_of_mem h
      exact .inr ⟨q + 1, by omega, by simp [hq, hqe]⟩
  | x :: es, j + 1, e, h => by
    simp only [setE] at h
    rcases List.mem_cons.1 h with rfl | h
    · exact .inr ⟨0, by omega, rfl⟩
    · rcases setE_mem h with ⟨y, h1, h2⟩ | ⟨q, h1, h2⟩
      · exact .inl ⟨y, by simpa using h1, h2⟩
      · exact .inr ⟨q + 1, by omega, by simpa using h2⟩

/-- The map's entries are a function from numbers to texts. -/
structure Fm (es : List MapEntry) (clock : Nat) (f : Int → Option (List UInt8)) : Prop where
  get : ∀ b, (f b = none ∧ findB (.int .i64 b) es 0 = some none) ∨ ∃ d j, f b = some d ∧ findB (.int .i64 b) es 0 = some (some (j, .string ⟨⟨d⟩⟩))
  ent : ∀ e ∈ es, ∃ b d, e.key = .int .i64 b ∧ e.val = .string ⟨⟨d⟩⟩ ∧ f b = some d ∧ e.born < clock
  key : ∀ (i j : Nat) (e e' : MapEntry), es[i]? = some e → es[j]? = some e' → e.key = e'.key → i = j
  bor : ∀ (i j : Nat) (e e' : MapEntry), es[i]? = some e → es[j]? = some e' → e.born = e'.born → i = j
theorem Fm.nil : Fm [] 0 (fun _ => none) := ⟨fun b => .inl ⟨rfl, rfl⟩, (fun e he => by cases he), (fun i j e e' h => by simp at h), (fun i j e e' h => by simp at h)⟩
theorem Fm.set {es : List MapEntry} {clock : Nat} {f : Int → Option (List UInt8)} (F : Fm es clock f) (b : Int) (d : List UInt8) :
    ∃ es' clock', (match findB (.int .i64 b) es 0 with | some (some (j, _)) => some (setE (.int .i64 b) (.string ⟨⟨d⟩⟩) es j, clock) | some none => some (addE ⟨.int .i64 b, .string ⟨⟨d⟩⟩, clock⟩ es, clock + 1) | none => none) = some (es', clock') ∧ Fm es' clock' (fun x => if x = b then some d else f x) := by
  rcases F.get b with ⟨hf, hn⟩ | ⟨d0, j, hf, hn⟩
  · refine ⟨_, _, by rw [hn], fun x => ?_, fun e he => ?_, ?_, ?_⟩
    · by_cases hx : x = b
      · subst hx
        have := find_add (v := .string ⟨⟨d⟩⟩) (c := clock) (same_key x) hn
        exact .inr ⟨d, _, by simp, this⟩
      · have hne : sameKeyB (.int .i64 x) (.int .i64 b) = some false := by rw [same_int, ieqB_eq]; simpa using hx
        rw [find_add_ne hne]
        simp only [hx, if_false]
        exact F.get x
    · rw [addE_eq] at he
      rcases List.mem_append.1 he with he | he
      · obtain ⟨c, dd, h1, h2, h3, h4⟩ := F.ent e he
        refine ⟨c, dd, h1, h2, ?_, by omega⟩
        have : c ≠ b := fun h => by subst h; rw [hf] at h3; cases h3
        simp only [this, if_false]; exact h3
      · rw [List.mem_singleton.1 he]
        exact ⟨b, d, rfl, rfl, by simp, Nat.lt_succ_self _⟩
    · rw [addE_eq]
      intro i j e e' hi hj hk
      have hnone := find_none hn
      rw [List.getElem?_append] at hi hj
      split at hi <;> split at hj
      · exact F.key i j e e' hi hj hk
      · have hj' := List.mem_singleton.1 (List.mem_of_getElem? hj)
        have := hnone e (List.mem_of_getElem? hi)
        rw [hk, hj', same_key] at this; cases this
      · have hi' := List.mem_singleton.1 (List.mem_of_getElem? hi)
        have := hnone e' (List.mem_of_getElem? hj)
        rw [← hk, hi', same_key] at this; cases this
      · rename_i h1 h2
        have := (List.getElem?_eq_some_iff.1 hi).1
        have := (List.getElem?_eq_some_iff.1 hj).1
        simp at *
        omega
    · rw [addE_eq]
      intro i j e e' hi hj hk
      rw [List.getElem?_append] at hi hj
      split at hi <;> split at hj
      · exact F.bor i j e e' hi hj hk
      · have hj' := List.mem_singleton.1 (List.mem_of_getElem? hj)
        obtain ⟨_, _, _, _, _, h⟩ := F.ent e (List.mem_of_getElem? hi)
        rw [hk, hj'] at h
        exact absurd h (Nat.lt_irrefl _)
      · have hi' := List.mem_singleton.1 (List.mem_of_getElem? hi)
        obtain ⟨_, _, _, _, _, h⟩ := F.ent e' (List.mem_of_getElem? hj)
        rw [← hk, hi'] at h
        exact absurd h (Nat.lt_irrefl _)
      · rename_i h1 h2
        have := (List.getElem?_eq_some_iff.1 hi).1
        have := (List.getElem?_eq_some_iff.1 hj).1
        simp at *
        omega
  · have hj0 : j = 0 + j := by omega
    rw [hj0] at hn
    obtain ⟨e0, he0, hk0, hv0⟩ := find_at hn
    have hset : ∀ i, (setE (.int .i64 b) (.string ⟨⟨d⟩⟩) es j)[i]? = if i = j then (es[i]?).map (fun x => (⟨.int .i64 b, .string ⟨⟨d⟩⟩, x.born⟩ : MapEntry)) else es[i]? := by
      intro i
      rw [setE_eq, List.getElem?_modify]
      by_cases h : j = i
      · subst h; simp
      · have h' : ¬ i = j := fun e => h e.symm
        simp [h, h']
    refine ⟨setE (.int .i64 b) (.string ⟨⟨d⟩⟩) es j, clock, by rw [hn]; simp, fun x => ?_, fun e he => ?_, ?_, ?_⟩
    · by_cases hx : x = b
      · subst hx
        have := find_set (v := .string ⟨⟨d⟩⟩) (same_key x) hn
        exact .inr ⟨d, _, by simp, this⟩
      · have hne : sameKeyB (.int .i64 x) (.int .i64 b) = some false := by rw [same_int, ieqB_eq]; simpa using hx
        rw [find_set_ne hne hn]
        simp only [hx, if_false]
        exact F.get x
    · rcases setE_mem he with ⟨x, h1, h2⟩ | ⟨q, h1, h2⟩
      · obtain ⟨_, _, _, _, _, h⟩ := F.ent x (List.mem_of_getElem? h1)
        exact ⟨b, d, by rw [h2], by rw [h2], by simp, by rw [h2]; exact h⟩
      · obtain ⟨c, dd, k1, k2, k3, k4⟩ := F.ent e (List.mem_of_getElem? h2)
        refine ⟨c, dd, k1, k2, ?_, k4⟩
        have : c ≠ b := fun h => h1 (F.key q j e e0 h2 he0 (by rw [k1, hk0, h]))
        simp only [this, if_false]; exact k3
    · intro p q e e' hp hq hk
      rw [hset] at hp hq
      have fix : ∀ i e, (if i = j then (es[i]?).map (fun x => (⟨.int .i64 b, .string ⟨⟨d⟩⟩, x.born⟩ : MapEntry)) else es[i]?) = some e → ∃ x, es[i]? = some x ∧ x.key = e.key ∧ x.born = e.born := by
        intro i e h
        split at h
        · rename_i hij
          subst hij
          rw [he0] at h
          simp only [Option.map_some, Option.some.injEq] at h
          exact ⟨e0, he0, by rw [hk0, ← h], by rw [← h]⟩
        · exact ⟨e, h, rfl, rfl⟩
      obtain ⟨x, x1, x2, _⟩ := fix p e hp
      obtain ⟨y, y1, y2, _⟩ := fix q e' hq
      exact F.key p q x y x1 y1 (by rw [x2, y2, hk])
    · intro p q e e' hp hq hk
      rw [hset] at hp hq
      have fix : ∀ i e, (if i = j then (es[i]?).map (fun x => (⟨.int .i64 b, .string ⟨⟨d⟩⟩, x.born⟩ : MapEntry)) else es[i]?) = some e → ∃ x, es[i]? = some x ∧ x.born = e.born := by
        intro i e h
        split at h
        · rename_i hij
          subst hij
          rw [he0] at h
          simp only [Option.map_some, Option.some.injEq] at h
          exact ⟨e0, he0, by rw [← h]⟩
        · exact ⟨e, h, rfl⟩
      obtain ⟨x, x1, x2⟩ := fix p e hp
      obtain ⟨y, y1, y2⟩ := fix q e' hq
      exact F.bor p q x y x1 y1 (by rw [x2, y2, hk])
end Go.Am
