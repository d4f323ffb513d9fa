/- The abstract machine: maps, each operation. -/
import Derived.Test.YtmdcfnnoeimakaaGreatDoorAmC
import Derived.MapKept

/- The abstract machine: maps whose keys are numbers or texts. -/
namespace Go.Am
set_option linter.unusedSimpArgs false
open Go.MapKept
set_option linter.unusedVariables false
section
variable {P : Program} {ρ : Env} {h h' : AW} {w : World}

theorem sc_same {kt : TypeId} {k k' : Value} (e : isScB P kt k = true) (r : VRel ρ k k') : k' = k := by
  unfold isScB at e
  split at e
  · cases r; rfl
  · cases r; rfl
  · cases e
theorem fieldsK_same : ∀ {fs : List Field} {i : Nat} {vs us : List Value}, fieldsKB P fs i vs = true → LRel ρ vs us → us = vs
  | [], _, [], us, _, r => by cases r; rfl
  | [], _, _ :: _, _, e, _ => by simp [fieldsKB] at e
  | _ :: _, _, [], _, e, _ => by simp [fieldsKB] at e
  | f :: fs, i, v :: vs, us, e, r => by
    simp only [fieldsKB] at e
    split at e
    · rename_i h1 h2 h3
      cases r with
      | cons a b => rw [sc_same h3 a, fieldsK_same e b]
    · cases e
theorem key_same {kt : TypeId} {k k' : Value} (e : isKeyB P kt k = true) (r : VRel ρ k k') : k' = k := by
  unfold isKeyB at e
  split at e
  · cases r; rfl
  · cases r; rfl
  · split at e
    · cases e
    · cases r with
      | @agg a b h =>
        have := fieldsK_same e h
        congr 1
        exact Array.toList_inj.1 this
  · cases e
theorem check_sc {kt : TypeId} {k : Value} (e : isScB P kt k = true) (w : World) (b : Bool) (n : Nat) : (Instr.checkKey b (n + 1) kt k).run P w = .ok () w := by
  unfold isScB at e
  split at e
  · rename_i hd
    split at e
    case isFalse => cases e
    rename_i hk
    exact Go.MapKept.run_checkKey hd (by simp [IsKey, hk]) _ _
  · rename_i hd; exact Go.MapKept.run_checkKey hd (by simp [IsKey]) _ _
  · cases e
theorem sc_agg {t : TypeId} {k : Value} (e : isScB P t k = true) : isAggB P t = some false := by
  unfold isScB at e
  unfold isAggB
  split at e <;> rename_i hd <;> first | rw [hd] | cases e
theorem run_part_one {t : TypeId} {xs : Array Value} {i : Nat} {v : Value} (ht : isAggB P t = some false) (hv : xs.toList[i]? = some v) (w : World) : (part t xs i).run P w = .ok v w := by
  have := run_isAgg (w := w) ht
  have hv' : xs[i]? = some v := by simpa using hv
  simp [part, this, hv']
theorem forIn_quiet {w : World} {body : Field → PUnit → Sem (ForInStep PUnit)} : ∀ {fs : List Field}, (∀ f ∈ fs, (body f PUnit.unit).run P w = .ok (.yield PUnit.unit) w) → (forIn (m := Sem) fs PUnit.unit body).run P w = .ok PUnit.unit w
  | [], _ => rfl
  | f :: fs, h => by
    rw [List.forIn_cons]
    simp only [Sem.run_bind, h f (List.mem_cons_self ..), Result.andThen_ok]
    exact forIn_quiet fun g hg => h g (List.mem_cons_of_mem _ hg)
theorem fieldsK_mem {xs : List Value} : ∀ {fs : List Field} {i : Nat} {vs : List Value}, fieldsKB P fs i vs = true → xs.drop i = vs → ∀ f ∈ fs, f.name ≠ "_" ∧ ∃ v, xs[f.offset]? = some v ∧ isScB P f.type v = true
  | [], _, _, _, _, f, hf => by cases hf
  | f :: fs, i, [], e, _, g, hg => by simp [fieldsKB] at e
  | f :: fs, i, v :: vs, e, hd, g, hg => by
    simp only [fieldsKB] at e
    split at e
    · rename_i h1 h2 h3
      have hd' : xs.drop (i + 1) = vs := by
        have := congrArg (List.drop 1) hd
        simpa [List.drop_drop, Nat.add_comm] using this
      rcases List.mem_cons.1 hg with rfl | hg
      · refine ⟨fun h => by rw [h] at h1; exact absurd h1 (by decide), v, ?_, h3⟩
        rw [Nat.eq_of_beq_eq_true h2]
        have := congrArg (·[0]?) hd
        simpa [List.getElem?_drop] using this
      · exact fieldsK_mem e hd' g hg
    · cases e
theorem key_run {kt : TypeId} {k : Value} (e : isKeyB P kt k = true) (w : World) (b : Bool) (n : Nat) : (Instr.checkKey b (n + 2) kt k).run P w = .ok () w := by
  by_cases hs : isScB P kt k = true
  · exact check_sc hs w b (n + 1)
  · unfold isKeyB at e
    split at e
    · rename_i hd; unfold isScB at hs; rw [hd] at hs; exact absurd e (by simpa using hs)
    · rename_i hd; unfold isScB at hs; rw [hd] at hs; simp at hs
    · rename_i fs vs hd
      split at e
      · cases e
      · have hm := fieldsK_mem e (List.drop_zero ..)
        unfold Instr.checkKey
        simp only [Sem.run_bind, run_underlying hd, Result.andThen_ok]
        rw [← Array.forIn_toList, forIn_quiet]
        · rfl
        · intro f hf
          obtain ⟨h1, v, h2, h3⟩ := hm f hf
          simp only [if_pos h1, Sem.run_bind, run_part_one (sc_agg h3) h2, Result.andThen_ok, check_sc h3, Sem.run_pure]
    · cases e
theorem same_bits {kt : TypeId} {k : Value} (e : isScB P kt k = true) (n : Nat) : Instr.sameBits n k k = true := by
  unfold isScB at e
  split at e
  · simp [Instr.sameBits]
  · simp [Instr.sameBits, bytes_beq]
  · cases e
theorem stay_run {kt : TypeId} {k : Value} (e : isKeyB P kt k = true) (w : World) : (Instr.keyThatStays k k).run P w = .ok k w := by
  have h : Instr.sameBits 10000 k k = true := by
    by_cases hs : isScB P kt k = true
    · exact same_bits hs _
    · unfold isKeyB at e
      split at e
      · rename_i hd; unfold isScB at hs; rw [hd] at hs; exact absurd e (by simpa using hs)
      · rename_i hd; unfold isScB at hs; rw [hd] at hs; simp at hs
      · rename_i fs vs hd
        split at e
        · cases e
        · have key : ∀ {fs : List Field} {i : Nat} {vs : List Value}, fieldsKB P fs i vs = true → (vs.zip vs).all (fun (x, y) => Instr.sameBits 9999 x y) = true := by
            intro fs
            induction fs with
            | nil => intro i vs e; cases vs <;> first | rfl | simp [fieldsKB] at e
            | cons f fs ih =>
              intro i vs e
              cases vs with
              | nil => rfl
              | cons v vs =>
                simp only [fieldsKB] at e
                split at e
                · rename_i h3
                  simp only [List.zip_cons_cons, List.all_cons, same_bits h3, Bool.true_and]
                  exact ih e
                · cases e
          show (vs.size == vs.size && (vs.toList.zip vs.toList).all fun (x, y) => Instr.sameBits 9999 x y) = true
          rw [key e]; simp
      · cases e
  simp [Instr.keyThatStays, h]

theorem scalar_same {k x y : Value} {b : Bool} (hb : sameScB k x = some b) (r : VRel ρ x y) : y = x := by
  unfold sameScB at hb
  split at hb
  · cases r; rfl
  · cases r; rfl
  · cases hb
theorem all_same : ∀ {ks xs ys : List Value} {b : Bool}, sameAllB ks xs = some b → LRel ρ xs ys → ys = xs
  | [], [], ys, _, _, r => by cases r; rfl
  | [], _ :: _, _, _, e, _ => by simp [sameAllB] at e
  | _ :: _, [], _, _, e, _ => by simp [sameAllB] at e
  | k :: ks, x :: xs, ys, b, e, r => by
    simp only [sameAllB] at e
    split at e
    · rename_i h1 h2
      cases r with
      | cons a c => rw [scalar_same h1 a, all_same h2 c]
    · cases e
theorem keyB_same {k x y : Value} {b : Bool} (hb : sameKeyB k x = some b) (r : VRel ρ x y) : y = x := by
  unfold sameKeyB at hb
  split at hb
  · cases r; rfl
  · cases r; rfl
  · cases r with
    | agg h =>
      congr 1
      exact Array.toList_inj.1 (all_same hb h)
  · cases hb
theorem sc_true {k x : Value} (hb : sameScB k x = some true) : x = k := by
  unfold sameScB at hb
  split at hb
  · split at hb
    · simp only [Option.some.injEq, ieqB_eq, beq_iff_eq] at hb
      subst hb; subst_vars; rfl
    · cases hb
  · rename_i a c
    simp only [Option.some.injEq, bytesEq_eq, decide_eq_true_eq] at hb
    congr 1
    obtain ⟨⟨a⟩⟩ := a
    obtain ⟨⟨c⟩⟩ := c
    simp at hb
    rw [hb]
  · cases hb
theorem all_true : ∀ {ks xs : List Value}, sameAllB ks xs = some true → xs = ks
  | [], [], _ => rfl
  | [], _ :: _, e => by simp [sameAllB] at e
  | _ :: _, [], e => by simp [sameAllB] at e
  | k :: ks, x :: xs, e => by
    simp only [sameAllB] at e
    split at e
    · rename_i a b h1 h2
      simp only [Option.some.injEq, Bool.and_eq_true] at e
      obtain ⟨rfl, rfl⟩ := e
      rw [sc_true h1, all_true h2]
    · cases e
theorem keyB_true {k x : Value} (hb : sameKeyB k x = some true) : x = k := by
  unfold sameKeyB at hb
  split at hb
  · exact sc_true (k := .int _ _) (x := .int _ _) hb
  · exact sc_true (k := .string _) (x := .string _) hb
  · congr 1
    exact Array.toList_inj.1 (all_true hb)
  · cases hb
theorem sc_eqB {kt : TypeId} {k x : Value} {b : Bool} (hk : isScB P kt k = true) (hb : sameScB k x = some b) (d : Nat) : eqB P (d + 1) kt k x = some b := by
  unfold isScB at hk
  unfold eqB
  split at hk
  · rename_i hd
    rw [hd]
    cases x <;> first | (cases hb; done) | (dsimp only; exact hb)
  · rename_i hd
    rw [hd]
    cases x <;> first | (cases hb; done) | (dsimp only; exact hb)
  · cases hk
theorem fields_eqB (d : Nat) {XS YS : List Value} : ∀ {fs : List Field} {i : Nat} {xs ys : List Value} {b : Bool}, fieldsKB P fs i xs = true → sameAllB xs ys = some b → XS.drop i = xs → YS.drop i = ys → eqFields P (eqB P (d + 1)) XS YS fs = some b
  | [], i, xs, ys, b, e, hb, _, _ => by
    cases xs with
    | nil => cases ys with
      | nil => simp [sameAllB] at hb; subst hb; rfl
      | cons _ _ => simp [sameAllB] at hb
    | cons _ _ => simp [fieldsKB] at e
  | f :: fs, i, [], ys, b, e, hb, _, _ => by simp [fieldsKB] at e
  | f :: fs, i, x :: xs, [], b, e, hb, _, _ => by simp [sameAllB] at hb
  | f :: fs, i, x :: xs, y :: ys, b, e, hb, hx, hy => by
    simp only [fieldsKB] at e
    split at e
    case h_2 => cases e
    rename_i h1 h2 h3
    simp only [sameAllB] at hb
    split at hb
    case h_2 => cases hb
    rename_i p q hp hq
    simp only [Option.some.injEq] at hb
    subst hb
    have ho : f.offset = i := Nat.eq_of_beq_eq_true h2
    have at0 : ∀ {Z : List Value} {z : Value} {zs : List Value}, Z.drop i = z :: zs → Z[i]? = some z ∧ Z.drop (i + 1) = zs := by
      intro Z z zs h
      constructor
      · have := congrArg (·[0]?) h
        simpa [List.getElem?_drop] using this
      · have := congrArg (List.drop 1) h
        simpa [List.drop_drop, Nat.add_comm] using this
    obtain ⟨x1, x2⟩ := at0 hx
    obtain ⟨y1, y2⟩ := at0 hy
    have hn : f.name ≠ "_" := fun h => by rw [h] at h1; exact absurd h1 (by decide)
    have pa : ∀ {Z : List Value} {z : Value}, Z[i]? = some z → partB P f.type Z f.offset = some z := by
      intro Z z hz
      unfold partB
      rw [sc_agg h3, ho]; exact hz
    have ih := fields_eqB d (XS := XS) (YS := YS) e hq x2 y2
    simp only [eqFields, if_pos hn, pa x1, pa y1, sc_eqB h3 hp]
    cases p with
    | true => simpa using ih
    | false => rfl
theorem key_eqB {kt : TypeId} {k x : Value} {b : Bool} (hk : isKeyB P kt k = true) (hb : sameKeyB k x = some b) (d : Nat) : eqB P (d + 2) kt k x = some b := by
  by_cases hs : isScB P kt k = true
  · have hb' : sameScB k x = some b := by
      unfold sameKeyB at hb
      unfold isScB at hs
      split at hb
      · exact hb
      · exact hb
      · cases hu : P.underlying kt with
        | none => rw [hu] at hs; cases hs
        | some d => rw [hu] at hs; cases d <;> cases hs
      · cases hb
    exact sc_eqB hs hb' (d + 1)
  · unfold isKeyB at hk
    split at hk
    · rename_i hd; unfold isScB at hs; rw [hd] at hs; exact absurd hk (by simpa using hs)
    · rename_i hd; unfold isScB at hs; rw [hd] at hs; simp at hs
    · rename_i fs vs hd
      split at hk
      · cases hk
      · rename_i hst
        unfold sameKeyB at hb
        split at hb
        · rename_i h; cases h
        · rename_i h; cases h
        · rename_i a c h
          cases h
          unfold eqB
          rw [hd]
          simp only [hst]
          exact fields_eqB d hk hb (List.drop_zero ..) (List.drop_zero ..)
        · cases hb
    · cases hk
theorem asking_run {kt : TypeId} {k : Value} (hk : isKeyB P kt k = true) (hkk : VRel ρ k k) (w : World) : ∀ {es es' : List MapEntry} {i : Nat} {r : Option (Nat × Value)}, findB k es i = some r → ERel ρ es es' →
    (r = none ∧ (Instr.findAsking kt k es' i).run P w = .ok none w) ∨ ∃ j v e', r = some (i + j, v) ∧ (Instr.findAsking kt k es' i).run P w = .ok (some (i + j, e'.val)) w ∧ es'[j]? = some e' ∧ e'.key = k ∧ VRel ρ v e'.val
  | [], es', i, r, e, R => by
    obtain ⟨h1, _, _⟩ := R
    simp only [List.map_nil] at h1
    generalize hx : List.map (·.key) es' = ks at h1
    cases h1
    have : es' = [] := by simpa using hx
    subst this
    simp only [findB, Option.some.injEq] at e
    exact .inl ⟨e.symm, rfl⟩
  | x :: es, [], i, r, e, R => by obtain ⟨h1, _, _⟩ := R; simp only [List.map_cons, List.map_nil] at h1; cases h1
  | x :: es, y :: es', i, r, e, R => by
    obtain ⟨h1, h2, h3⟩ := R
    simp only [List.map_cons, List.cons.injEq] at h1 h2 h3
    cases h1 with
    | cons hk1 h1 =>
    cases h2 with
    | cons hv1 h2 =>
    have R' : ERel ρ es es' := ⟨h1, h2, h3.2⟩
    have hask : ∀ {b : Bool}, sameKeyB k x.key = some b → (Op.equal kt k y.key).run P w = .ok b w := fun hb =>
      run_eq_am (w := w) (ρ := ρ) 2 (key_eqB hk hb 0) hkk hk1 _ (by decide)
    simp only [findB] at e
    split at e
    · rename_i hb
      simp only [Option.some.injEq] at e
      refine .inr ⟨0, x.val, y, e.symm, ?_, rfl, ?_, hv1⟩
      · simp only [Instr.findAsking, Sem.run_bind, hask hb, Result.andThen_ok, if_true, Sem.run_pure, Nat.add_zero]
      · rw [keyB_same hb hk1, keyB_true hb]
    · rename_i hb
      have hst : (Instr.findAsking kt k (y :: es') i).run P w = (Instr.findAsking kt k es' (i + 1)).run P w := by
        simp only [Instr.findAsking, Sem.run_bind, hask hb, Result.andThen_ok, Bool.false_eq_true, if_false]
      rcases asking_run hk hkk w e R' with ⟨h1, h2⟩ | ⟨j, v, e', h1, h2, h3, h4, h5⟩
      · exact .inl ⟨h1, hst.trans h2⟩
      · exact .inr ⟨j + 1, v, e', by rw [h1]; congr 2; omega, by rw [hst, h2]; congr 3; omega, by simpa using h3, h4, h5⟩
    · cases e
theorem findB_now {d : TypeDesc} (hd : (∃ i, d = .int i) ∨ d = .string) {k : Value} (hk : IsKey d k) : ∀ {es es' : List MapEntry} {i : Nat} {r : Option (Nat × Value)}, findB k es i = some r → ERel ρ es es' →
    (r = none ∧ Instr.findNow d k es' i = some none) ∨ ∃ j v e', r = some (i + j, v) ∧ Instr.findNow d k es' i = some (some (i + j, e'.val)) ∧ es'[j]? = some e' ∧ e'.key = k ∧ VRel ρ v e'.val
  | [], es', i, r, e, R => by
    obtain ⟨h1, _, _⟩ := R
    simp only [List.map_nil] at h1
    generalize hx : List.map (·.key) es' = ks at h1
    cases h1
    have : es' = [] := by simpa using hx
    subst this
    simp only [findB, Option.some.injEq] at e
    exact .inl ⟨e.symm, rfl⟩
  | x :: es, es', i, r, e, R => by
    cases es' with
    | nil => obtain ⟨h1, _, _⟩ := R; simp only [List.map_cons, List.map_nil] at h1; cases h1
    | cons y es' =>
      obtain ⟨h1, h2, h3⟩ := R
      simp only [List.map_cons, List.cons.injEq] at h1 h2 h3
      cases h1 with
      | cons hk1 h1 =>
      cases h2 with
      | cons hv1 h2 =>
      have R' : ERel ρ es es' := ⟨h1, h2, h3.2⟩
      have same : ∀ b, sameKeyB k x.key = some b → y.key = x.key ∧ Instr.sameNow d k y.key = some b ∧ (b = true → y.key = k) := by
        intro b hb
        unfold sameKeyB at hb
        split at hb
        · rename_i k1 a k2 c hxk
          split at hb
          case isFalse => cases hb
          rename_i hkk
          subst hkk
          rw [hxk] at hk1 ⊢
          generalize hy : y.key = yk at hk1 ⊢
          cases hk1
          simp only [Option.some.injEq] at hb
          rcases hd with ⟨j, rfl⟩ | rfl
          · refine ⟨rfl, by rw [← hb, ieqB_eq]; simp [Instr.sameNow], fun h => ?_⟩
            rw [h, ieqB_eq] at hb
            have : a = c := by simpa using hb
            rw [this]
          · simp [IsKey] at hk
        · rename_i a c hxk
          rw [hxk] at hk1 ⊢
          generalize hy : y.key = yk at hk1 ⊢
          cases hk1
          simp only [Option.some.injEq] at hb
          rcases hd with ⟨j, rfl⟩ | rfl
          · simp [IsKey] at hk
          · have e1 : (a == c) = b := by
              rw [← hb, bytesEq_eq]
              obtain ⟨⟨a⟩⟩ := a
              obtain ⟨⟨c⟩⟩ := c
              by_cases hac : a = c
              · subst hac
                rw [(bytes_beq _ _).2 rfl]; simp
              · have h1 : ((⟨⟨a⟩⟩ : ByteArray) == ⟨⟨c⟩⟩) = false := by
                  cases hh : ((⟨⟨a⟩⟩ : ByteArray) == ⟨⟨c⟩⟩) with
                  | false => rfl
                  | true => have := (bytes_beq _ _).1 hh; cases this; exact (hac rfl).elim
                rw [h1]
                simp [hac]
            refine ⟨rfl, by rw [← e1]; rfl, fun h => ?_⟩
            rw [h] at e1
            rw [(bytes_beq _ _).1 e1]
        · rcases hd with ⟨j, rfl⟩ | rfl <;> simp [IsKey] at hk
        · cases hb
      simp only [findB] at e
      split at e
      · rename_i hb
        obtain ⟨_, s2, s3⟩ := same _ hb
        simp only [Option.some.injEq] at e
        exact .inr ⟨0, x.val, y, e.symm, by simp [Instr.findNow, s2], rfl, s3 rfl, hv1⟩
      · rename_i hb
        obtain ⟨_, s2, s3⟩ := same _ hb
        rcases findB_now hd hk e R' with ⟨h1, h2⟩ | ⟨j, v, e', h1, h2, h3, h4, h5⟩
        · exact .inl ⟨h1, by simp [Instr.findNow, s2, h2]⟩
        · exact .inr ⟨j + 1, v, e', by rw [h1]; congr 2; omega, by simp [Instr.findNow, s2, h2]; omega, by simpa using h3, h4, h5⟩
      · cases e

/-- The key is found where it is, in this run too. -/
theorem find_run {kt : TypeId} {k : Value} (hk : isKeyB P kt k = true) (hkk : VRel ρ k k) (w : World) {es es' : List MapEntry} {r : Option (Nat × Value)} (e : findB k es 0 = some r) (R : ERel ρ es es') :
    (r = none ∧ (Instr.findKey kt k es').run P w = .ok none w) ∨ ∃ j v e', r = some (j, v) ∧ (Instr.findKey kt k es').run P w = .ok (some (j, e'.val)) w ∧ es'[j]? = some e' ∧ e'.key = k ∧ VRel ρ v e'.val := by
  by_cases hs : isScB P kt k = true
  · have hdd : ∃ d, P.underlying kt = some d ∧ IsKey d k ∧ ((∃ i, d = .int i) ∨ d = .string) := by
      unfold isScB at hs
      split at hs
      · rename_i hd
        split at hs
        case isFalse => cases hs
        rename_i hk
        exact ⟨_, hd, by simp [IsKey, hk], .inl ⟨_, rfl⟩⟩
      · rename_i hd; exact ⟨_, hd, by simp [IsKey], .inr rfl⟩
      · cases hs
    obtain ⟨d, hd, hik, hdd⟩ := hdd
    rcases findB_now hdd hik e R with ⟨h1, h2⟩ | ⟨j, v, e', h1, h2, h3, h4, h5⟩
    · exact .inl ⟨h1, Go.MapKept.run_findKey hd h2⟩
    · exact .inr ⟨j, v, e', by rw [h1, Nat.zero_add], by rw [← Nat.zero_add j]; exact Go.MapKept.run_findKey hd h2, h3, h4, h5⟩
  · have hd : ∃ fs vs, P.underlying kt = some (.struct fs) ∧ k = .agg vs := by
      unfold isKeyB at hk
      split at hk
      · rename_i hd; unfold isScB at hs; rw [hd] at hs; exact absurd hk (by simpa using hs)
      · rename_i hd; unfold isScB at hs; rw [hd] at hs; simp at hs
      · rename_i fs vs hd; exact ⟨fs, vs, hd, rfl⟩
      · cases hk
    obtain ⟨fs, vs, hd, rfl⟩ := hd
    have hask := asking_run hk hkk w e R
    have heq : (Instr.findKey kt (.agg vs) es').run P w = (Instr.findAsking kt (.agg vs) es' 0).run P w := by
      cases es' with
      | nil => simp [Instr.findKey, run_underlying hd, Instr.findNow, Instr.findAsking]
      | cons y es' => simp [Instr.findKey, run_underlying hd, Instr.findNow, Instr.sameNow]
    rw [heq]
    simpa using hask

theorem run_zeroV {t : TypeId} {z : Value} (e : zeroVB P t = some z) (w : World) : (zeroValue t).run P w = .ok z w ∧ plain z = true := by
  unfold zeroVB at e
  split at e
  case h_2 => cases e
  rename_i i hi
  split at e
  case h_2 => cases e
  rename_i z0 hz
  split at e
  case h_2 => cases e
  rename_i hf
  simp only [Option.some.injEq] at e
  subst e
  refine ⟨?_, hf⟩
  simp [zeroValue, typeInfo, hi, hz]

theorem HRel.at_map {r : Nat} {es : List MapEntry} {clock : Nat} (H : HRel P ρ h w) (g : h.get r = some (.map es clock)) : ∃ l es', ρ r = some l ∧ w.heap[l.block]? = some (.map es' clock) ∧ ERel ρ es es'.toList := by
  obtain ⟨l, hl, es', hb, R⟩ := H.loc r _ g
  exact ⟨l, es', hl, hb, R⟩

theorem run_lookup_am {t : TypeId} {m m' k k' v : Value} {ok : Bool} (H : HRel P ρ h w) (e : lookupB P t m k ok h = some v) (hm : VRel ρ m m') (hk : VRel ρ k k') : ∃ u, (Instr.lookup t m' k' ok).run P w = .ok u w ∧ VRel ρ v u := by
  unfold lookupB at e
  split at e
  case h_2 => cases e
  rename_i kt et ht
  split at e
  case h_2 => cases e
  rename_i es hkey hes
  have hk' := key_same hkey hk
  subst hk'
  have hkk : VRel ρ _ _ := hk
  have main : ∀ es' : Array MapEntry, ERel ρ es es'.toList → ∃ u, (do
      Instr.checkKey es'.isEmpty 10000 kt k'
      let (v, b) ← match ← Instr.findKey kt k' es'.toList with
        | some (_, v) => pure (v, true)
        | none => pure (← zeroValue et, false)
      pure (if ok = true then Value.tuple #[v, .bool b] else v) : Sem Value).run P w = .ok u w ∧ VRel ρ v u := by
    intro es' R
    split at e
    · rename_i i0 v0 hf
      simp only [Option.some.injEq] at e
      subst e
      rcases find_run hkey hkk w hf R with ⟨h1, _⟩ | ⟨j, v1, e', h1, h2, _, _, h5⟩
      · cases h1
      · simp only [Option.some.injEq, Prod.mk.injEq] at h1
        obtain ⟨_, rfl⟩ := h1
        refine ⟨if ok = true then .tuple #[e'.val, .bool true] else e'.val, ?_, ?_⟩
        · simp [key_run hkey, h2]
        · cases ok
          · exact h5
          · exact .tuple (.cons h5 (.cons (.bool _) .nil))
    · rename_i hf
      split at e
      case h_2 => cases e
      rename_i z hz
      simp only [Option.some.injEq] at e
      subst e
      obtain ⟨hz1, hz2⟩ := run_zeroV hz w
      rcases find_run hkey hkk w hf R with ⟨_, h2⟩ | ⟨j, v1, e', h1, _⟩
      · refine ⟨if ok = true then .tuple #[z, .bool false] else z, ?_, ?_⟩
        · simp [key_run hkey, h2, hz1]
        · cases ok
          · exact .of_plain hz2
          · exact .tuple (.cons (.of_plain hz2) (.cons (.bool _) .nil))
      · cases h1
    · cases e
  unfold entriesB at hes
  split at hes
  · simp only [Option.some.injEq] at hes
    subst hes
    cases hm
    obtain ⟨u, h1, h2⟩ := main #[] ⟨.nil, .nil, rfl⟩
    refine ⟨u, ?_, h2⟩
    rw [← h1]
    simp [Instr.lookup, run_underlying ht]
    rfl
  · rename_i r
    split at hes
    case h_2 => cases hes
    rename_i es0 clock hg
    simp only [Option.some.injEq] at hes
    subst hes
    obtain ⟨l, es', hl, hb, R⟩ := H.at_map hg
    cases hm with
    | map hl' =>
      rw [hl] at hl'; simp only [Option.some.injEq] at hl'; subst hl'
      obtain ⟨u, h1, h2⟩ := main es' R
      refine ⟨u, ?_, h2⟩
      rw [← h1]
      simp [Instr.lookup, run_underlying ht, Go.MapKept.run_getObj_map hb]
      rfl
  · cases hes

theorem run_makeMap_am {t : TypeId} {x x' : Option Value} {r : Nat} (H : HRel P ρ h w) (e : makeMapB P t x = true) (hx : ORel ρ x x') (hn : h.new (.map [] 0) = some (r, h')) : Done P ρ h w (Instr.makeMap t x') (.map (some r)) h' := by
  have hrun : (Instr.makeMap t x').run P w = .ok (.map (some w.heap.size)) (w.alloc (.map #[] 0)) := by
    unfold makeMapB at e
    split at e
    · rename_i ht
      cases x' with
      | none => simp [Instr.makeMap]
      | some y => cases hx
    · rename_i kd nn ht
      cases x' with
      | none => cases hx
      | some y =>
        have hx : VRel ρ (.int kd nn) y := hx
        cases hx
        simp [Instr.makeMap, run_underlying ht, asInt, asIntOf]
    · cases e
  obtain ⟨a, b⟩ := H.new_block (w' := w.alloc (.map #[] 0)) (l := ⟨w.heap.size, 0, 0, 0⟩) hn rfl rfl rfl rfl (by show (w.heap.push _).size = _; simp) (fun k hk => by show (w.heap.push _)[k]? = _; exact getElem_push_lt _ _ _ hk) (by
    refine ⟨#[], ?_, .nil, .nil, rfl⟩
    show (w.heap.push _)[w.heap.size]? = _
    simp)
  exact ⟨_, _, _, hrun, .map (l := ⟨w.heap.size, 0, 0, 0⟩) (by simp [upd]), a, b⟩

/-- A row that is no cells is written. -/
theorem HRel.writeRow {r : Nat} {row0 row1 : ARow} {o0 o1 : Obj} {l : Loc} (H : HRel P ρ h w) (hrow : h.get r = some row0) (own0 : row0.own = true) (hl : ρ r = some l)
    (hb : w.heap[l.block]? = some o0) (hp : h.put r (some row1) = some h') (rel : RowRel P ρ { w with heap := w.heap.setIfInBounds l.block o1 } l row1) :
    HRel P ρ h' { w with heap := w.heap.setIfInBounds l.block o1 } ∧ Turn ρ h w ρ h' { w with heap := w.heap.setIfInBounds l.block o1 } := by
  obtain ⟨hg, hn, hst⟩ := put_eq hp
  obtain ⟨here, other⟩ := heap_set (o' := o1) hb
  refine ⟨⟨?_, ?_, by rw [hn, hst]; exact H.fresh, by rw [hst]; exact H.step⟩, ⟨Env.le_refl _, rfl, rfl, rfl, by simp, ?_, ?_, fun _ _ x => .inl x, ⟨0, by rw [hn]; simp⟩, hst⟩⟩
  · intro m row hm
    rw [hg] at hm
    split at hm
    · simp at hm; subst hm; subst_vars
      exact ⟨l, hl, rel⟩
    · rename_i hne
      obtain ⟨l', hl', hr'⟩ := H.loc m row hm
      refine ⟨l', hl', hr'.keep (Env.le_refl _) (other _ fun hh => hne (H.inj m r row _ l' l hm hrow hl' hl hh (.inr own0)))⟩
  · intro a b rowa rowb la lb ha hb' hla hlb hab hown
    rw [hg] at ha hb'
    have ha' : ∃ rowa', h.get a = some rowa' ∧ (rowa.own = true → rowa'.own = true) := by
      split at ha
      · subst_vars; exact ⟨_, hrow, fun _ => own0⟩
      · exact ⟨_, ha, id⟩
    have hb'' : ∃ rowb', h.get b = some rowb' ∧ (rowb.own = true → rowb'.own = true) := by
      split at hb'
      · subst_vars; exact ⟨_, hrow, fun _ => own0⟩
      · exact ⟨_, hb', id⟩
    obtain ⟨_, ha', oa⟩ := ha'
    obtain ⟨_, hb'', ob⟩ := hb''
    exact H.inj a b _ _ la lb ha' hb'' hla hlb hab (hown.imp oa ob)
  · intro m row lm hm hmo hlm _
    rw [hg] at hm
    split at hm
    · subst_vars; exact ⟨_, _, _, hrow, own0, hlm, rfl⟩
    · exact ⟨m, row, lm, hm, hmo, hlm, rfl⟩
  · intro k hk hno
    exact other k fun hh => hno r _ l hrow own0 hl hh.symm
/-- The entries of a map are written. -/
theorem HRel.writeMap {r clock clock2 : Nat} {es es2 : List MapEntry} {es' es2' : Array MapEntry} {l : Loc} (H : HRel P ρ h w) (hrow : h.get r = some (.map es clock)) (hl : ρ r = some l)
    (hb : w.heap[l.block]? = some (.map es' clock)) (hp : h.put r (some (.map es2 clock2)) = some h') (rel : ERel ρ es2 es2'.toList) :
    HRel P ρ h' { w with heap := w.heap.setIfInBounds l.block (.map es2' clock2) } ∧ Turn ρ h w ρ h' { w with heap := w.heap.setIfInBounds l.block (.map es2' clock2) } :=
  H.writeRow hrow rfl hl hb hp ⟨es2', (heap_set (o' := .map es2' clock2) hb).1, rel⟩

theorem addE_eq (e : MapEntry) : ∀ es : List MapEntry, addE e es = es ++ [e]
  | [] => rfl
  | x :: es => by simp [addE, addE_eq e es]
theorem setE_eq (k v : Value) : ∀ (es : List MapEntry) (i : Nat), setE k v es i = es.modify i fun e => { e with key := k, val := v }
  | [], i => by cases i <;> rfl
  | e :: es, 0 => rfl
  | e :: es, n + 1 => by simp [setE, setE_eq k v es n]
theorem ERel.add {es es' : List MapEntry} {k v v' : Value} {b : Nat} (R : ERel ρ es es') (hk : VRel ρ k k) (hv : VRel ρ v v') : ERel ρ (addE ⟨k, v, b⟩ es) (es' ++ [⟨k, v', b⟩]) := by
  rw [addE_eq]
  obtain ⟨h1, h2, h3⟩ := R
  refine ⟨?_, ?_, ?_⟩
  · simp only [List.map_append]; exact h1.append (.cons hk .nil)
  · simp only [List.map_append]; exact h2.append (.cons hv .nil)
  · simp only [List.map_append, h3]; rfl
theorem ERel.set {k v v' : Value} (hk : VRel ρ k k) (hv : VRel ρ v v') : ∀ {es es' : List MapEntry} (i : Nat), ERel ρ es es' → ERel ρ (setE k v es i) (setE k v' es' i)
  | [], [], i, _ => ⟨.nil, .nil, rfl⟩
  | [], y :: es', i, R => by obtain ⟨h1, _, _⟩ := R; simp only [List.map_cons, List.map_nil] at h1; cases h1
  | x :: es, [], i, R => by obtain ⟨h1, _, _⟩ := R; simp only [List.map_cons, List.map_nil] at h1; cases h1
  | x :: es, y :: es', i, R => by
    obtain ⟨h1, h2, h3⟩ := R
    simp only [List.map_cons, List.cons.injEq] at h1 h2 h3
    cases h1 with
    | cons hk1 h1 =>
    cases h2 with
    | cons hv1 h2 =>
    cases i with
    | zero => exact ⟨.cons hk h1, .cons hv h2, by simp [setE, h3]⟩
    | succ i =>
      obtain ⟨g1, g2, g3⟩ := ERel.set hk hv i (show ERel ρ es es' from ⟨h1, h2, h3.2⟩)
      exact ⟨.cons hk1 g1, .cons hv1 g2, by simp [setE, h3.1, g3]⟩

theorem run_mapUpdate_am {t : TypeId} {m m' k k' v v' : Value} (H : HRel P ρ h w) (e : mapUpdateB P t m k v h = some h') (hm : VRel ρ m m') (hk : VRel ρ k k') (hv : VRel ρ v v') :
    ∃ w', (Instr.mapUpdate t m' k' v').run P w = .ok () w' ∧ HRel P ρ h' w' ∧ Turn ρ h w ρ h' w' := by
  unfold mapUpdateB at e
  split at e
  case h_2 => cases e
  rename_i kt et ht
  split at e
  case h_2 => cases e
  rename_i r hkey
  have hk' := key_same hkey hk
  subst hk'
  have hkk : VRel ρ _ _ := hk
  split at e
  case h_2 => cases e
  rename_i es clock hg
  obtain ⟨l, es', hl, hb, R⟩ := H.at_map hg
  cases hm with
  | map hl' =>
    rw [hl] at hl'; simp only [Option.some.injEq] at hl'; subst hl'
    split at e
    · rename_i i0 v0 hf
      rcases find_run hkey hkk w hf R with ⟨h1, _⟩ | ⟨j, v1, e', h1, h2, h3, h4, _⟩
      · cases h1
      · simp only [Option.some.injEq, Prod.mk.injEq] at h1
        obtain ⟨hj, _⟩ := h1
        have hj : i0 = j := by omega
        subst hj
        have h3' : es'[i0]? = some e' := by simpa using h3
        obtain ⟨a, b⟩ := H.writeMap (es2' := es'.modify i0 fun e => { e with key := k', val := v' }) hg hl hb e (by
          rw [Array.toList_modify, ← setE_eq]
          exact ERel.set hk hv i0 R)
        refine ⟨_, ?_, a, b⟩
        simp [Instr.mapUpdate, run_underlying ht, Go.MapKept.run_getObj_map hb, key_run hkey, h2, h3', h4, stay_run hkey, run_setObj_map _ hb]
    · rename_i hf
      rcases find_run hkey hkk w hf R with ⟨_, h2⟩ | ⟨j, v1, e', h1, _⟩
      · obtain ⟨a, b⟩ := H.writeMap (es2' := es'.push ⟨k', v', clock⟩) hg hl hb e (by
          rw [Array.toList_push]
          exact ERel.add R hk hv)
        refine ⟨_, ?_, a, b⟩
        simp [Instr.mapUpdate, run_underlying ht, Go.MapKept.run_getObj_map hb, key_run hkey, h2, run_setObj_map _ hb]
      · cases h1
    · cases e

/-! ### A range over a map -/
theorem run_range_am {t : TypeId} {x x' : Value} {res : Res} (H : HRel P ρ h w) (e : rangeB P t x h = some res) (hx : VRel ρ x x') : ∃ v h', res = .val v h' ∧ Done P ρ h w (Instr.range t x') v h' := by
  unfold rangeB at e
  split at e
  case h_2 => cases e
  rename_i kt et r ht
  split at e
  case h_2 => cases e
  rename_i es clock hg
  obtain ⟨q, h', hn, rfl⟩ := retRow_val e
  obtain ⟨l, es', hl, hb, R⟩ := H.at_map hg
  cases hx with
  | map hl' =>
    rw [hl] at hl'; simp only [Option.some.injEq] at hl'; subst hl'
    have hrun : (Instr.range t (.map (some l.block))).run P w = .ok (.pointer (some ⟨w.heap.size, 0, none⟩)) (w.alloc (.mapIter (some l.block) clock #[] clock)) := by
      simp [Instr.range, run_underlying ht, Go.MapKept.run_getObj_map hb]
    obtain ⟨hr, _, _, _⟩ := new_eq hn
    have hnone : ρ q = none := by rw [hr]; exact H.fresh0
    obtain ⟨a, b⟩ := H.new_block (w' := w.alloc (.mapIter (some l.block) clock #[] clock)) (l := ⟨w.heap.size, 0, 0, 0⟩) hn rfl rfl rfl rfl (by show (w.heap.push _).size = _; simp) (fun k hk => by show (w.heap.push _)[k]? = _; exact getElem_push_lt _ _ _ hk) (by
      refine ⟨rfl, l, upd_le hnone _ _ hl, ?_⟩
      show (w.heap.push _)[w.heap.size]? = _
      simp)
    exact ⟨_, _, rfl, _, _, _, hrun, .ptr (l := ⟨w.heap.size, 0, 0, 0⟩) (by simp [upd]), a, b⟩

theorem lastN_eq : ∀ xs : List Nat, lastN xs = xs.getLast?
  | [] => rfl
  | [x] => rfl
  | x :: y :: xs => by simp only [lastN, lastN_eq (y :: xs), List.getLast?_cons_cons]
theorem bornB_rel {n : Nat} : ∀ {es es' : List MapEntry} {e : MapEntry}, bornB n es = some e → ERel ρ es es' → ∃ e', es'.find? (·.born == n) = some e' ∧ VRel ρ e.key e'.key ∧ VRel ρ e.val e'.val
  | [], _, _, h, _ => by simp [bornB] at h
  | x :: es, [], _, _, R => by obtain ⟨h1, _, _⟩ := R; simp only [List.map_cons, List.map_nil] at h1; cases h1
  | x :: es, y :: es', e, h, R => by
    obtain ⟨h1, h2, h3⟩ := R
    simp only [List.map_cons, List.cons.injEq] at h1 h2 h3
    cases h1 with
    | cons hk1 h1 =>
    cases h2 with
    | cons hv1 h2 =>
    simp only [bornB] at h
    split at h
    · rename_i hb
      simp only [Option.some.injEq] at h
      subst h
      have hb := of_beq hb
      refine ⟨y, ?_, hk1, hv1⟩
      rw [List.find?_cons, ← h3.1, hb]; simp
    · rename_i hb
      obtain ⟨e', f1, f2⟩ := bornB_rel h (show ERel ρ es es' from ⟨h1, h2, h3.2⟩)
      refine ⟨e', ?_, f2⟩
      rw [List.find?_cons, ← h3.1]
      have : (x.born == n) = false := by
        cases hh : (x.born == n) with
        | false => rfl
        | true =>
          have : x.born = n := by simpa using hh
          rw [beq_true this] at hb; cases hb
      rw [this]; exact f1

theorem HRel.at_iter {r m since last : Nat} {seen : List Nat} (H : HRel P ρ h w) (g : h.get r = some (.iter m since seen last)) : ∃ l lm, ρ r = some l ∧ l.base = 0 ∧ ρ m = some lm ∧ w.heap[l.block]? = some (.mapIter (some lm.block) since ⟨seen⟩ last) := by
  obtain ⟨l, hl, hb, lm, hm, hh⟩ := H.loc r _ g
  exact ⟨l, lm, hl, hb, hm, hh⟩
theorem run_getObj_iter {r : Nat} {m : Option Nat} {s c : Nat} {seen : Array Nat} (hb : w.heap[r]? = some (.mapIter m s seen c)) : (getObj r).run P w = .ok (.mapIter m s seen c) w := by
  simp [getObj, Sem.run, hb]

theorem run_entry_am {x x' v : Value} (H : HRel P ρ h w) (e : entryB x h = some v) (hx : VRel ρ x x') : ∃ u, (Instr.entry x').run P w = .ok u w ∧ VRel ρ v u := by
  unfold entryB at e
  split at e
  case h_2 => cases e
  rename_i r
  split at e
  case h_2 => cases e
  rename_i m since seen last hg
  split at e
  case h_2 => cases e
  rename_i n es clock hlast hgm
  split at e
  case h_2 => cases e
  rename_i e0 hclock hborn
  simp only [Option.some.injEq] at e
  subst e
  obtain ⟨l, lm, hl, hbase, hm, hh⟩ := H.at_iter hg
  obtain ⟨lm', es', hlm', hbm, R⟩ := H.at_map hgm
  rw [hm] at hlm'; simp only [Option.some.injEq] at hlm'; subst hlm'
  obtain ⟨e', hf, hk, hv⟩ := bornB_rel hborn R
  have hclock := of_beq hclock
  subst hclock
  rw [Array.find?_toList] at hf
  cases hx with
  | ptr hl' =>
    rw [hl] at hl'; simp only [Option.some.injEq] at hl'; subst hl'
    refine ⟨.tuple #[e'.key, e'.val], ?_, .tuple (.cons hk (.cons hv .nil))⟩
    rw [lastN_eq] at hlast
    have hback : (⟨seen⟩ : Array Nat).back? = some n := by rw [← hlast]; simp
    rw [hbase, Nat.zero_add]
    simp [Instr.entry, run_getObj_iter hh, Go.MapKept.run_getObj_map hbm, hback, hf]
end
end Go.Am

/- The abstract machine: each operation. -/
namespace Go.Am
set_option linter.unusedSimpArgs false
open Go.MapKept
set_option linter.unusedVariables false
section
variable {P : Program} {ρ : Env} {h h' : AW} {w : World}

theorem run_lenOp_am {ts : Array TypeId} {ty : TypeId} {args args' : List Value} {v : Value} (e : lenOpB P ts args = some v) (ha : LRel ρ args args') : ∃ u, (Builtin.len_ ts ty ⟨args'⟩).run P w = .ok u w ∧ VRel ρ v u := by
  unfold lenOpB at e
  split at e
  case h_2 => cases e
  rename_i x t ht
  cases ha with
  | cons hx ha =>
    cases ha
    split at e
    case h_1 s hu =>
      cases hx
      simp at e; subst e
      exact ⟨goInt s.size, by simp [Builtin.len_, ht, run_underlying hu], .int _ _⟩
    case h_2 n el hu =>
      simp at e; subst e
      exact ⟨goInt n, by simp [Builtin.len_, ht, run_underlying hu], .int _ _⟩
    case h_3 el a n c hu =>
      simp at e; subst e
      cases hx <;> exact ⟨goInt _, by simp [Builtin.len_, ht, run_underlying hu], .int _ _⟩
    case h_4 => cases e

theorem run_lenMap_am {ts : Array TypeId} {ty : TypeId} {args args' : List Value} {v : Value} (H : HRel P ρ h w) (e : lenMapB P ts args h = some v) (ha : LRel ρ args args') : ∃ u, (Builtin.len_ ts ty ⟨args'⟩).run P w = .ok u w ∧ VRel ρ v u := by
  unfold lenMapB at e
  split at e
  case h_2 => cases e
  rename_i x t ht
  split at e
  case h_2 => cases e
  rename_i kt et hu
  split at e
  case h_2 => cases e
  rename_i es hes
  simp only [Option.some.injEq] at e
  subst e
  cases ha with
  | cons hx ha =>
    cases ha
    unfold entriesB at hes
    split at hes
    · cases hx
      simp only [Option.some.injEq] at hes
      subst hes
      exact ⟨goInt 0, by simp [Builtin.len_, ht, run_underlying hu], .int _ _⟩
    · split at hes
      case h_2 => cases hes
      rename_i r es0 clock hg
      simp only [Option.some.injEq] at hes
      subst hes
      obtain ⟨l, es', hl, hb, R⟩ := H.at_map hg
      cases hx with
      | map hl' =>
        rw [hl] at hl'; simp only [Option.some.injEq] at hl'; subst hl'
        have hn : es'.size = es0.length := by have := R.1.length; simpa using this.symm
        refine ⟨goInt es'.size, by simp [Builtin.len_, ht, run_underlying hu, Go.MapKept.run_getObj_map hb], ?_⟩
        rw [hn]
        exact .int _ _
    · cases hes
theorem dropE_eq : ∀ (es : List MapEntry) (i : Nat), dropE es i = es.eraseIdx i
  | [], _ => by simp [dropE]
  | _ :: _, 0 => rfl
  | e :: es, n + 1 => by simp [dropE, dropE_eq es n]
theorem ERel.drop : ∀ {es es' : List MapEntry} (i : Nat), ERel ρ es es' → ERel ρ (dropE es i) (dropE es' i)
  | [], [], i, _ => ⟨.nil, .nil, rfl⟩
  | [], y :: es', i, R => by obtain ⟨h1, _, _⟩ := R; simp only [List.map_cons, List.map_nil] at h1; cases h1
  | x :: es, [], i, R => by obtain ⟨h1, _, _⟩ := R; simp only [List.map_cons, List.map_nil] at h1; cases h1
  | x :: es, y :: es', i, R => by
    obtain ⟨h1, h2, h3⟩ := R
    simp only [List.map_cons, List.cons.injEq] at h1 h2 h3
    cases h1 with
    | cons hk1 h1 =>
    cases h2 with
    | cons hv1 h2 =>
    cases i with
    | zero => exact ⟨h1, h2, h3.2⟩
    | succ i =>
      obtain ⟨g1, g2, g3⟩ := ERel.drop i (show ERel ρ es es' from ⟨h1, h2, h3.2⟩)
      exact ⟨.cons hk1 g1, .cons hv1 g2, by simp [dropE, h3.1, g3]⟩
theorem run_delete_am {ts : Array TypeId} {ty : TypeId} {args args' : List Value} {v : Value} (H : HRel P ρ h w) (e : deleteB P ts args h = some (v, h')) (ha : LRel ρ args args') : Done P ρ h w (Builtin.delete_ ts ty ⟨args'⟩) v h' := by
  unfold deleteB at e
  split at e
  case h_2 => cases e
  rename_i m k t ht
  split at e
  case h_2 => cases e
  rename_i kt et hu
  cases ha with
  | @cons _ m' _ rest hm ha =>
  cases ha with
  | @cons _ k' _ rest' hk ha =>
  cases ha
  split at e
  case h_3 => cases e
  case h_1 hkey =>
    have hk' := key_same hkey hk
    subst hk'
    have hkk : VRel ρ _ _ := hk
    simp only [Option.some.injEq, Prod.mk.injEq] at e
    obtain ⟨rfl, rfl⟩ := e
    cases hm
    exact Done.quiet H (u := .tuple #[]) (by simp [Builtin.delete_, ht, run_underlying hu, key_run hkey]) (.tuple .nil)
  case h_2 r hkey =>
    have hk' := key_same hkey hk
    subst hk'
    have hkk : VRel ρ _ _ := hk
    split at e
    case h_2 => cases e
    rename_i es clock hg
    obtain ⟨l, es', hl, hb, R⟩ := H.at_map hg
    cases hm with
    | map hl' =>
    rw [hl] at hl'; simp only [Option.some.injEq] at hl'; subst hl'
    split at e
    · rename_i i0 v0 hf
      split at e
      case h_2 => cases e
      rename_i h₂ hp
      simp only [Option.some.injEq, Prod.mk.injEq] at e
      obtain ⟨rfl, rfl⟩ := e
      rcases find_run hkey hkk w hf R with ⟨h1, _⟩ | ⟨j, v1, e', h1, h2, h3, h4, _⟩
      · cases h1
      · simp only [Option.some.injEq, Prod.mk.injEq] at h1
        obtain ⟨hj, _⟩ := h1
        have hj : i0 = j := by omega
        subst hj
        obtain ⟨a, b⟩ := H.writeMap (es2' := es'.eraseIdxIfInBounds i0) hg hl hb hp (by
          have : (es'.eraseIdxIfInBounds i0).toList = dropE es'.toList i0 := by
            rw [dropE_eq, Array.eraseIdxIfInBounds_eq]
            split
            · rw [Array.toList_eraseIdx]
            · rename_i hlt
              rw [List.eraseIdx_of_length_le (by simpa using hlt)]
          rw [this]
          exact ERel.drop i0 R)
        refine ⟨.tuple #[], _, ρ, ?_, .tuple .nil, a, b⟩
        simp [Builtin.delete_, ht, run_underlying hu, Go.MapKept.run_getObj_map hb, key_run hkey, h2, run_setObj_map _ hb]
    · rename_i hf
      split at e
      case h_2 => cases e
      rename_i h₂ hp
      simp only [Option.some.injEq, Prod.mk.injEq] at e
      obtain ⟨rfl, rfl⟩ := e
      rcases find_run hkey hkk w hf R with ⟨_, h2⟩ | ⟨j, v1, e', h1, _⟩
      · obtain ⟨a, b⟩ := H.writeMap (es2' := es') hg hl hb hp R
        refine ⟨.tuple #[], _, ρ, ?_, .tuple .nil, a, b⟩
        simp [Builtin.delete_, ht, run_underlying hu, Go.MapKept.run_getObj_map hb, key_run hkey, h2, run_setObj_map _ hb]
      · cases h1
    · cases e

theorem run_minB : ∀ {vs us : List Value} {x x' v : Value}, minB true x vs = some v → VRel ρ x x' → LRel ρ vs us → ∃ u, (us.foldlM Builtin.min2 x').run P w = .ok u w ∧ VRel ρ v u
  | [], us, x, x', v, e, hx, hr => by
    cases hr
    cases x <;> simp only [minB] at e <;> first | (cases e; done) | skip
    cases hx
    simp at e; subst e
    exact ⟨_, rfl, .int _ _⟩
  | y :: vs, us, x, x', v, e, hx, hr => by
    cases hr with
    | @cons _ y' _ us hy hr =>
      cases x <;> first | (simp [minB] at e; done) | skip
      cases y <;> first | (simp [minB] at e; done) | skip
      rename_i k a k' b
      cases hx; cases hy
      simp only [minB] at e
      split at e
      case isFalse => cases e
      rename_i hk
      subst hk
      have step : (Builtin.min2 (.int k a) (.int k b)).run P w = .ok (.int k (if b < a then b else a)) w := rfl
      split at e
      · rename_i hle
        have hle := ileB_iff.1 hle
        obtain ⟨u, hu, hv⟩ := run_minB e (.int k a) hr
        refine ⟨u, ?_, hv⟩
        rw [List.foldlM_cons, Sem.run_bind, step, if_neg (by omega)]
        exact hu
      · rename_i hle
        have hle : ¬ a ≤ b := fun hh => by rw [ileB_iff.2 hh] at hle; cases hle
        obtain ⟨u, hu, hv⟩ := run_minB e (.int k b) hr
        refine ⟨u, ?_, hv⟩
        rw [List.foldlM_cons, Sem.run_bind, step, if_pos (by omega)]
        exact hu
theorem run_maxB : ∀ {vs us : List Value} {x x' v : Value}, minB false x vs = some v → VRel ρ x x' → LRel ρ vs us → ∃ u, (us.foldlM Builtin.max2 x').run P w = .ok u w ∧ VRel ρ v u
  | [], us, x, x', v, e, hx, hr => by
    cases hr
    cases x <;> simp only [minB] at e <;> first | (cases e; done) | skip
    cases hx
    simp at e; subst e
    exact ⟨_, rfl, .int _ _⟩
  | y :: vs, us, x, x', v, e, hx, hr => by
    cases hr with
    | @cons _ y' _ us hy hr =>
      cases x <;> first | (simp [minB] at e; done) | skip
      cases y <;> first | (simp [minB] at e; done) | skip
      rename_i k a k' b
      cases hx; cases hy
      simp only [minB] at e
      split at e
      case isFalse => cases e
      rename_i hk
      subst hk
      have step : (Builtin.max2 (.int k a) (.int k b)).run P w = .ok (.int k (if b > a then b else a)) w := rfl
      split at e
      · rename_i hle
        have hle := ileB_iff.1 hle
        obtain ⟨u, hu, hv⟩ := run_maxB e (.int k a) hr
        refine ⟨u, ?_, hv⟩
        rw [List.foldlM_cons, Sem.run_bind, step, if_neg (by omega)]
        exact hu
      · rename_i hle
        have hle : ¬ b ≤ a := fun hh => by rw [ileB_iff.2 hh] at hle; cases hle
        obtain ⟨u, hu, hv⟩ := run_maxB e (.int k b) hr
        refine ⟨u, ?_, hv⟩
        rw [List.foldlM_cons, Sem.run_bind, step, if_pos (by omega)]
        exact hu

/-- An operation does what its result tells. -/
def OpDone (P : Program) (ρ : Env) (h : AW) (w : World) (s : Sem Next) : Res → Prop
  | .val v h' => ∃ n u w' ρ', s.run P w = .ok n w' ∧ (n = .value u ∨ n = .skip ∧ u = undef) ∧ VRel ρ' v u ∧ HRel P ρ' h' w' ∧ Turn ρ h w ρ' h' w'
  | .call f args => ∃ us, LRel ρ args us ∧ s.run P w = (callFunc f ⟨us⟩).run P w

theorem OpDone.of_done {s : Sem Value} {v : Value} (d : Done P ρ h w s v h') : OpDone P ρ h w (do pure (.value (← s))) (.val v h') := by
  obtain ⟨u, w', ρ', hr, hv, H', T⟩ := d
  exact ⟨.value u, u, w', ρ', by simp [hr], .inl rfl, hv, H', T⟩
theorem OpDone.of_quiet {s : Sem Value} {v : Value} (H : HRel P ρ h w) (d : ∃ u, s.run P w = .ok u w ∧ VRel ρ v u) : OpDone P ρ h w (do pure (.value (← s))) (.val v h) :=
  let ⟨_, hr, hv⟩ := d
  OpDone.of_done (Done.quiet H hr hv)
theorem OpDone.of_pure {v u : Value} (H : HRel P ρ h w) (hv : VRel ρ v u) : OpDone P ρ h w (pure (.value u)) (.val v h) :=
  ⟨.value u, u, w, ρ, rfl, .inl rfl, hv, H, Turn.refl _ _ _⟩

theorem opt_rel {a : Slots} {act : Act} (hs : LRel ρ a act.tmps.toList) {x : Option Operand} {v : Option Value} (e : optEv a x = some v) : ORel ρ v (x.map act.eval) := by
  cases x with
  | none => simp [optEv] at e; subst e; trivial
  | some x =>
    simp only [optEv] at e
    split at e
    · rename_i u eu
      simp at e; subst e
      exact aev_rel hs eu
    · cases e

theorem run_copy_am {ts : Array TypeId} {ty : TypeId} {args args' : List Value} {v : Value} (H : HRel P ρ h w) (ea : copyB P ts args h = some (v, h')) (ha : LRel ρ args args') : Done P ρ h w (Builtin.copy_ ts ty ⟨args'⟩) v h' := by
  unfold copyB at ea
  split at ea
  case h_2 => cases ea
  rename_i base len cap x
  split at ea
  case h_2 => cases ea
  rename_i st hst
  split at ea
  case h_2 => cases ea
  rename_i e hu
  split at ea
  case h_2 => cases ea
  rename_i size m hsz hm
  split at ea
  case h_2 => cases ea
  rename_i new hnew
  cases ha with
  | @cons _ d' _ _ hd ha =>
    cases ha with
    | @cons _ x' _ _ hx ha =>
      cases ha
      have hlen : (Builtin.lenOf x').run P w = .ok m w := by
        unfold lenB at hm
        split at hm
        · simp at hm; subst hm
          cases hx <;> rfl
        · simp at hm; subst hm
          cases hx; rfl
        · cases hm
      obtain ⟨us, hus, hrel⟩ := run_first_am H hnew hx (fun a l c hxe => by
        subst hxe
        simp [lenB] at hm
        subst hm
        exact Nat.min_le_left _ _)
      have hfirst := hus w rfl
      have hd' : ∃ base' cap', d' = .slice base' len cap' ∧ (base = none → base' = none) ∧ VRel ρ (.slice base len cap) (.slice base' len cap') := by
        cases hd with
        | sliceNil => exact ⟨none, 0, rfl, fun _ => rfl, .sliceNil⟩
        | slice a b c => exact ⟨_, _, rfl, fun hh => by (cases hh), .slice a b c⟩
      obtain ⟨base', cap', rfl, hb0, hdr⟩ := hd'
      have key : ∀ {w' : World}, (match base' with | some a => (storeCells a us.toList).run P w = .ok () w' | none => w' = w) → (Builtin.copy_ ts ty ⟨[.slice base' len cap', x']⟩).run P w = .ok (goInt (Nat.min m len)) w' := by
        intro w' hst'
        simp only [Builtin.copy_]
        simp only [hst, List.getElem?_toArray, List.getElem?_cons_zero, List.getElem?_cons_succ, Sem.run_bind, run_underlying hu, Result.andThen_ok, hlen, run_size hsz, hfirst]
        cases base' with
        | none => subst hst'; rfl
        | some a => simp only [Sem.run_bind, hst', Result.andThen_ok, Sem.run_pure]
      split at ea
      · -- nothing
        rename_i hz
        have hz := of_beq hz
        simp at ea
        obtain ⟨rfl, rfl⟩ := ea
        have hnil : new = [] := firstB_zero (size := size) (x := x) (h := h) (by rw [← hz]; exact hnew)
        subst hnil
        have hus0 : us.toList = [] := by have := hrel.length; exact List.eq_nil_of_length_eq_zero (by simpa using this.symm)
        refine Done.quiet H (key ?_) (.int _ _)
        cases base' with
        | none => rfl
        | some a => rw [hus0]; rfl
      · -- into a row
        rename_i hone hz
        have hz := of_beq_f hz
        simp only [Bool.and_eq_true] at hone
        split at ea
        case h_2 => cases ea
        rename_i r off
        split at ea
        case h_2 => cases ea
        rename_i e' cs hrow
        split at ea
        case h_2 => cases ea
        rename_i cs' hlay
        split at ea
        case h_2 => cases ea
        rename_i h'' hput
        simp at ea
        obtain ⟨rfl, rfl⟩ := ea
        cases hdr with
        | @slice _ _ _ _ _ a hl hc hadr =>
          have hml : Nat.min m len ≤ len := Nat.min_le_right _ _
          obtain ⟨l, hlr, rfl, _⟩ := hadr (by omega)
          obtain ⟨l', C, f, hl', hb, hf, h1, h2, h3, rel⟩ := H.at_cells hrow
          rw [hlr] at hl'; simp at hl'; subst hl'
          have hle := (lay_eq hlay).2
          have hlen2 := hrel.length
          obtain ⟨C', hrun, hs, hget⟩ := run_storeCells_am (P := P) l.block (l.base + off) e' f us.toList 0 C w hb hf (by omega) (hrel.one hone.1)
          have hw := H.write (C' := C') hrow hlr hb hput hs (lay_length hlay) (fun i u hi => by
            rw [lay_get hlay] at hi
            rw [hget]
            split at hi
            · rename_i hin
              rw [if_pos (by omega)]
              obtain ⟨u', hu', hr⟩ := hrel.get hi
              exact ⟨u', by rw [← hu']; congr 1; omega, hr⟩
            · rename_i hin
              rw [if_neg (by omega)]
              exact rel _ _ hi)
          exact ⟨_, _, ρ, key hrun, .int _ _, hw.1, hw.2⟩
      · cases ea

theorem LRel.to_array {vs us : List Value} {xs : Array Value} (h : LRel ρ vs us) (e : us = xs.toList) : LRel ρ vs xs.toList := e ▸ h

theorem run_data_am {ts : Array TypeId} {ty : TypeId} {args us : List Value} {v : Value} (e : dataB args = some v) (hx : LRel ρ args us) : ∃ u, (Builtin.unsafeSliceData_ ts ty ⟨us⟩).run P w = .ok u w ∧ VRel ρ v u := by
  unfold dataB at e
  split at e
  · simp at e; subst e
    cases hx with
    | cons h1 h2 =>
      cases h2
      cases h1
      exact ⟨_, rfl, .ptrNil⟩
  · simp at e; subst e
    cases hx with
    | cons h1 h2 =>
      cases h2
      cases h1 with
      | @slice _ _ _ _ cap' a hl hc ha =>
        obtain ⟨l, hlr, rfl, _⟩ := ha (by omega)
        obtain ⟨k, rfl⟩ : ∃ k, cap' = k + 1 := ⟨cap' - 1, by omega⟩
        exact ⟨_, rfl, .ptr hlr⟩
  · cases e

theorem run_loadBytes_am : ∀ (l : List Int) (a : Addr) (acc : ByteArray), (∀ j x, l[j]? = some x → w.cell? (a.add j) = some (.int .u8 x)) →
    (loadBytes a acc l.length).run P w = .ok ⟨acc.data ++ (l.map fun n => UInt8.ofNat n.toNat).toArray⟩ w
  | [], a, acc, _ => by simp [loadBytes]
  | x :: l, a, acc, h => by
    have h0 : w.cell? a = some (.int .u8 x) := by
      have := h 0 x rfl
      simpa [Addr.add] using this
    have ih := run_loadBytes_am l (a.add 1) (acc.push (UInt8.ofNat x.toNat)) (fun j y hy => by
      have := h (j + 1) y (by simpa using hy)
      have e : (a.add 1).add j = a.add (j + 1) := by
        unfold Addr.add
        by_cases hj : j = 0
        · subst hj; simp
        · simp [hj]; omega
      rw [e]; exact this)
    have hx : x.toNat.toUInt8 = UInt8.ofNat x.toNat := rfl
    simp only [List.length_cons, loadBytes, Sem.run_bind, run_load, h0, Result.andThen, hx]
    rw [ih]
    congr 1
    apply ByteArray.ext
    simp [ByteArray.push]

theorem lies_bytes {e : TypeId} (hc : P.cellsOf e = 1) (count off n : Nat) (hn : off + n ≤ count) : liesAt P P.depth e count off e n = true := by
  have hd : P.depth = (2 * (P.types.size + Made.depth) + 1) + 1 := rfl
  rw [hd]
  simp only [liesAt, Bool.or_eq_true]
  left
  rw [hd]
  simp [rowAt, hc, hn, sameLayout, Nat.mod_one]

theorem run_unsafe_am {ts : Array TypeId} {ty : TypeId} {args us : List Value} {v : Value} {h' : AW} (H : HRel P ρ h w) (e : unsafeB P ts args h = some (v, h')) (hx : LRel ρ args us) : Done P ρ h w (Builtin.unsafeString_ ts ty ⟨us⟩) v h' := by
  have hmax : IntKind.i64.max = 9223372036854775807 := rfl
  unfold unsafeB at e
  split at e
  · rename_i n
    split at e
    case h_2 => cases e
    rename_i t₀ hts hn
    rw [ieqB_eq] at hn
    have hn : n = 0 := by simpa using hn
    subst hn
    simp at e; obtain ⟨rfl, rfl⟩ := e
    cases hx with
    | cons h1 h2 =>
      cases h1
      cases h2 with
      | cons h3 h4 =>
        cases h3; cases h4
        refine Done.quiet H (u := .string ByteArray.empty) ?_ (.string _)
        obtain ⟨s1, s2, s3, hdef⟩ : ∃ s1 s2 s3 : String, Builtin.unsafeString_ ts ty ⟨[.pointer none, .int .i64 0]⟩ =
            (do
              let n ← asInt (.int .i64 0)
              let some pt := ts[0]? | stuck s1
              if n < 0 then runtimePanic (.error s2)
              if n > IntKind.i64.max then unsupported (.unsafePointer "String: a length above the largest int")
              if n = 0 then pure (.string .empty)
              else runtimePanic (.error s3)) := ⟨_, _, _, rfl⟩
        rw [hdef]
        simp [hts, asInt, asIntOf, hmax]
  · rename_i r off n
    split at e
    case h_2 => cases e
    rename_i pt hts
    split at e
    case h_2 => cases e
    rename_i u e₀ cs hpt hrow hn
    simp only [Bool.and_eq_true, ileB_iff] at hn
    obtain ⟨hn1, hn2⟩ := hn
    split at e
    case h_2 => cases e
    rename_i vs hb hcut
    simp only [Bool.and_eq_true] at hb
    obtain ⟨⟨hb1, hb2⟩, hb3⟩ := hb
    have hb1 := of_beq hb1
    subst hb1
    have hb2 := isU8_eq hb2
    split at e
    case h_2 => cases e
    rename_i bs h₁ hbs hput
    simp at e; obtain ⟨rfl, rfl⟩ := e
    cases hx with
    | cons hx1 hx2 =>
      cases hx1 with
      | @ptr _ _ l hl =>
      cases hx2 with
      | cons hx3 hx4 =>
        cases hx3; cases hx4
        obtain ⟨l', C, f, hl', hblk, hf, h1, h2, h3, rel⟩ := H.at_cells hrow
        rw [hl] at hl'; simp at hl'; subst hl'
        have h1e := size_u8 hb2 h3 hb3
        obtain ⟨i, hi, hin⟩ := sizeB_info h3
        have hcl : P.cellsOf e₀ = 1 := by simp [Program.cellsOf, hi, hin, h1e]
        obtain ⟨hvs, hle, hlen, hoff⟩ := cut_eq hcut
        have hsh : w.shape? l.block = some (e₀, C.size) := by simp [World.shape?, hblk]
        obtain ⟨us, hrel, hus⟩ := cells_there (w := w) (ρ := ρ) (b := l.block) (o := l.base + off) (vs := vs) (fun i x hx => by
          rw [hvs, List.getElem?_take] at hx
          split at hx
          · rw [List.getElem?_drop] at hx
            obtain ⟨u, hu, hv⟩ := rel _ _ hx
            exact ⟨u, by simp [World.cell?, hblk, Nat.add_assoc, hu], hv⟩
          · cases hx)
        obtain ⟨ns, hns, hbs'⟩ := bytesOfB_rel hbs hrel
        subst hns hbs'
        have hnl : ns.length = n.toNat := by have := hrel.length; simp at this; omega
        have hlb := run_loadBytes_am (P := P) (w := w) ns ⟨l.block, l.base + off, none⟩ .empty (fun j x hx => by rw [add_eq]; exact hus j _ (by simp [hx]))
        rw [hnl] at hlb
        have hlies := lies_bytes (P := P) hcl (C.size / P.cellsOf e₀) (l.base + off) n.toNat (by rw [hcl, Nat.div_one]; omega)
        obtain ⟨hg, hnx, hst⟩ := put_eq hput
        have D := H.drop hput
        refine ⟨.string ⟨(ns.map fun n => UInt8.ofNat n.toNat).toArray⟩, w.freeze ⟨l.block, l.base + off, none⟩ n.toNat, ρ, ?_, .string _, ⟨fun m row hm => ?_, D.1.inj, D.1.fresh, D.1.step⟩,
          ⟨Env.le_refl _, (freeze_rest _ _).1, (freeze_rest _ _).2.1, (freeze_rest _ _).2.2, by rw [freeze_size]; exact Nat.le_refl _, D.2.own, fun k hk hno => freeze_other _ _ _ _ (fun hh => hno r _ l (getRow_eq hrow) rfl hl hh.symm), D.2.new, D.2.next, D.2.steps⟩⟩
        · have hneg : ¬ n < 0 := by omega
          have hz : ¬ n = 0 := by omega
          have hbig : ¬ (9223372036854775807 : Int) < n := by omega
          obtain ⟨s1, s2, hdef⟩ : ∃ s1 s2 : String, Builtin.unsafeString_ ts ty ⟨[.pointer (some ⟨l.block, l.base + off, none⟩), .int .i64 n]⟩ =
              (do
                let n ← asInt (.int .i64 n)
                let some pt := ts[0]? | stuck s1
                if n < 0 then runtimePanic (.error s2)
                if n > IntKind.i64.max then unsupported (.unsafePointer "String: a length above the largest int")
                if n = 0 then pure (.string .empty)
                else if ← variablesAt ⟨l.block, l.base + off, none⟩ (← elemOf pt) n.toNat then do
                  let s ← loadBytes ⟨l.block, l.base + off, none⟩ .empty n.toNat
                  freeze ⟨l.block, l.base + off, none⟩ n.toNat
                  pure (.string s)
                else unsupported (.unsafePointer "String: not so many bytes at ptr")) := ⟨_, _, rfl⟩
          rw [hdef]
          simp [hts, asInt, asIntOf, hmax, hneg, hz, hbig, variablesAt, hsh, elemOf, run_underlying hpt, hlies, hlb]
        · obtain ⟨l', hl', hrr⟩ := D.1.loc m row hm
          have hne : m ≠ r := fun hh => by rw [hg, if_pos hh] at hm; cases hm
          have hm' : h.get m = some row := by rw [hg, if_neg hne] at hm; exact hm
          exact ⟨l', hl', hrr.keep (Env.le_refl _) (freeze_other _ _ _ _ fun hh => hne (H.inj m r _ _ l' l hm' (getRow_eq hrow) hl' hl hh (.inr rfl)))⟩
  · cases e

theorem run_cap_am {ts : Array TypeId} {ty : TypeId} {args args' : List Value} {v : Value} (e : capB P ts args = some v) (ha : LRel ρ args args') : ∃ u, (Builtin.cap_ ts ty ⟨args'⟩).run P w = .ok u w ∧ VRel ρ v u := by
  unfold capB at e
  split at e
  case h_2 => cases e
  rename_i base n c t ht
  split at e
  case h_2 => cases e
  rename_i el hu hc
  have hc := of_beq_f hc
  simp only [Option.some.injEq] at e
  subst e
  cases ha with
  | @cons _ x' _ rest hx ha =>
  cases ha
  cases hx with
  | sliceNil => exact ⟨goInt (0 : Nat), by simp [Builtin.cap_, ht, run_underlying hu], .int _ _⟩
  | @slice _ _ _ _ cap' a hl hcc _ =>
    have := hcc hc
    subst this
    exact ⟨goInt (cap' : Nat), by simp [Builtin.cap_, ht, run_underlying hu], .int _ _⟩
theorem run_clear_am {ts : Array TypeId} {ty : TypeId} {args args' : List Value} {v : Value} (H : HRel P ρ h w) (e : clearB P ts args h = some (v, h')) (ha : LRel ρ args args') : Done P ρ h w (Builtin.clear_ ts ty ⟨args'⟩) v h' := by
  unfold clearB at e
  split at e
  case h_2 => cases e
  rename_i base n c t ht
  split at e
  case h_2 => cases e
  rename_i el hu
  cases ha with
  | @cons _ x' _ rest hx ha =>
  cases ha
  split at e
  case h_1 =>
    simp only [Option.some.injEq, Prod.mk.injEq] at e
    obtain ⟨rfl, rfl⟩ := e
    cases hx
    exact Done.quiet H (u := .tuple #[]) (by simp [Builtin.clear_, ht, run_underlying hu]) (.tuple .nil)
  case h_3 => cases e
  case h_2 r off =>
    cases hx with
    | @slice _ _ _ _ cap' a hl hc ha =>
    split at e
    · rename_i hz
      have hz := of_beq hz
      subst hz
      simp only [Option.some.injEq, Prod.mk.injEq] at e
      obtain ⟨rfl, rfl⟩ := e
      exact Done.quiet H (u := .tuple #[]) (by simp [Builtin.clear_, ht, run_underlying hu]) (.tuple .nil)
    · rename_i hz
      have hz := of_beq_f hz
      split at e
      case h_2 => cases e
      rename_i e' cs zs sz hrow hzs hsz
      split at e
      case h_2 => cases e
      rename_i new hb hrep
      simp only [Bool.and_eq_true] at hb
      have hzl := of_beq hb.1
      have hs1 := of_ble hb.2
      split at e
      case h_2 => cases e
      rename_i hone
      split at e
      case h_2 => cases e
      rename_i cs' hlay
      split at e
      case h_2 => cases e
      rename_i h₂ hput
      simp only [Option.some.injEq, Prod.mk.injEq] at e
      obtain ⟨rfl, rfl⟩ := e
      obtain ⟨l, hlr, rfl, _⟩ := ha (by omega)
      obtain ⟨l', C, f, hl', hblk, hf, h1, h2, h3, rel⟩ := H.at_cells hrow
      rw [hlr] at hl'; simp only [Option.some.injEq] at hl'; subst hl'
      obtain ⟨zc, hzr, hz2, hz3⟩ := run_zeros hzs w
      have hzc : zc.cells.size = zs.length := by rw [← hz2]; simp
      have hnl : new.length = n * zs.length := (rep_get hrep).1
      have hmodel : (Builtin.zeroCells zc.cells n).toList = new := rep_model hrep hz2 (by rw [hzc]) (.inr (by omega))
      have hR2 : LRel ρ new (Builtin.zeroCells zc.cells n).toList := by rw [hmodel]; exact rep_flat hz3 hrep
      have hone2 := hR2.one hone
      have hus2 := hR2.length
      have hlle := (lay_eq hlay).2
      obtain ⟨C', hrun, hs', hget⟩ := run_storeCells_am (P := P) l.block (l.base + off) e' f (Builtin.zeroCells zc.cells n).toList 0 C w hblk hf (by omega) hone2
      obtain ⟨q1, q2⟩ := H.write (C' := C') hrow hlr hblk hput hs' (lay_length hlay) (fun k u hk => by
        rw [lay_get hlay] at hk
        rw [hget]
        split at hk
        · rename_i hin
          rw [if_pos (by omega)]
          obtain ⟨u', hu', hr⟩ := hR2.get hk
          exact ⟨u', by rw [← hu']; congr 1; omega, hr⟩
        · rename_i hin
          rw [if_neg (by omega)]
          exact rel _ _ hk)
      refine ⟨.tuple #[], _, ρ, ?_, .tuple .nil, q1, q2⟩
      have hm : ∃ m, n = m + 1 := ⟨n.pred, (Nat.succ_pred_eq_of_pos (Nat.pos_of_ne_zero hz)).symm⟩
      clear hlle hus2 hone2 hR2 hmodel hnl hget hs' q1 q2 rel
      obtain ⟨m, rfl⟩ := hm
      simp only [Builtin.clear_, ht, List.getElem?_toArray, List.getElem?_cons_zero, Sem.run_bind, run_underlying hu, Result.andThen_ok, hzr, hrun, Sem.run_pure]

theorem plain_zero {ρ : Env} {z : Value} (h : plain z = true) : VRel ρ z z := .of_plain h
theorem run_assert_am {ρ : Env} {w : World} {t xt : TypeId} {ok : Bool} {x u v : Value} (e : assertB P t ok x = some v) (hx : VRel ρ x u) : ∃ z, (Instr.typeAssert u xt t ok).run P w = .ok z w ∧ VRel ρ v z := by
  unfold assertB at e
  split at e
  case h_3 => cases e
  · rename_i d v0
    cases hx with
    | iface hv =>
      rename_i u0
      split at e
      case h_1 => cases e
      case h_3 => cases e
      rename_i D hni hD
      have hu := run_underlying (w := w) hD
      split at e
      · rename_i hb
        have hdt : d = t := of_beq hb
        subst hdt
        split at e
        · simp only [Option.some.injEq] at e; subst e
          refine ⟨.tuple #[u0, .bool true], ?_, .tuple (.cons hv (.cons (.bool _) .nil))⟩
          unfold Instr.typeAssert
          cases D <;> first | (exact (hni _ rfl).elim) | simp [hu]
        · simp only [Option.some.injEq] at e; subst e
          refine ⟨u0, ?_, hv⟩
          unfold Instr.typeAssert
          cases D <;> first | (exact (hni _ rfl).elim) | simp [hu]
      · rename_i hb
        have hdt : ¬ d = t := fun he => by subst he; rw [beq_true rfl] at hb; cases hb
        split at e
        case h_2 => cases e
        split at e
        case h_2 => cases e
        rename_i z hz
        simp only [Option.some.injEq] at e; subst e
        obtain ⟨hzr, hzp⟩ := run_zeroV hz w
        refine ⟨.tuple #[z, .bool false], ?_, .tuple (.cons (plain_zero hzp) (.cons (.bool _) .nil))⟩
        unfold Instr.typeAssert
        cases D <;> first | (exact (hni _ rfl).elim) | simp [hu, hdt, hzr]
  · cases hx
    split at e
    case h_2 => cases e
    split at e
    case h_2 => cases e
    rename_i D z hD hz
    simp only [Option.some.injEq] at e; subst e
    have hu := run_underlying (w := w) hD
    obtain ⟨hzr, hzp⟩ := run_zeroV hz w
    refine ⟨.tuple #[z, .bool false], ?_, .tuple (.cons (plain_zero hzp) (.cons (.bool _) .nil))⟩
    unfold Instr.typeAssert
    cases D <;> simp [hu, hzr]
theorem run_meth_am {t : TypeId} {x u y : Value} {name : String} {f : FuncId} (H : HRel P ρ h w) (e : methB P t x name h = some (f, y)) (hx : VRel ρ x u) (k : Nat) : ∃ z, (method (k + 1) t u name).run P w = .ok (f, z) w ∧ VRel ρ y z := by
  unfold methB at e
  split at e
  case h_2 => cases e
  rename_i i hi
  split at e
  case h_2 => cases e
  rename_i m hm
  split at e
  case h_3 => cases e
  · rename_i f' hf hp
    split at e
    case h_2 => cases e
    rename_i el hu
    simp only [Option.some.injEq, Prod.mk.injEq] at e
    obtain ⟨rfl, rfl⟩ := e
    refine ⟨u, ?_, hx⟩
    simp [method, run_typeInfo hi, hm, hp, follow, hf, receiverAt, run_underlying hu, Place.get]
  · rename_i f' s j hf hp
    split at e
    case h_2 => cases e
    rename_i fields hu
    split at e
    case h_2 => cases e
    rename_i fd hfd
    split at e
    case h_1 => cases e
    case h_3 => cases e
    rename_i D p hno hD ha
    split at e
    case h_2 => cases e
    rename_i v hv
    simp only [Option.some.injEq, Prod.mk.injEq] at e
    obtain ⟨rfl, rfl⟩ := e
    unfold fieldAddrB at ha
    rw [hu] at ha
    cases hx <;> simp only [hfd, reduceCtorEq] at ha
    rename_i r off l hl
    split at ha
    case h_2 => cases ha
    rename_i n hn
    split at ha
    case h_1 => cases ha
    rename_i hb
    have hb := of_beq_f hb
    simp only [Option.some.injEq] at ha
    subst ha
    have hv' : (match readRow h r with | some cs => partB P fd.type cs (off + fd.offset) | none => none) = some v := hv
    split at hv'
    case h_2 => cases hv'
    rename_i cs g
    obtain ⟨z, hz, hzr⟩ := run_loadVar (P := P) (w := w) H g hl hv'
    refine ⟨z, ?_, hzr⟩
    have hadd : (Addr.add ⟨l.block, l.base + off, none⟩ fd.offset) = ⟨l.block, l.base + (off + fd.offset), none⟩ := by rw [add_eq, Nat.add_assoc]
    have hne : ∀ q, D ≠ .pointer q := fun q hq => by first | exact hno q (by rw [hD, hq]) | exact hno q (by rw [hq]) | exact hno q hq
    cases D <;> first | exact absurd rfl (hne _) | simp [method, run_typeInfo hi, hm, hp, follow, hf, receiverAt, run_underlying hu, run_underlying hD, hfd, Place.get, asAddr, fieldPlace, run_size hn, hb, hadd, hz]

theorem callOp_sound {a : Slots} {act : Act} {o : Oper} {c : Call} {args : List Value} {res : Res} (hs : LRel ρ a act.tmps.toList) (H : HRel P ρ h w) (ho : o.op = .call c) (ea : evs a c.args.toList = some args) (e : callOpB P a c args h = some res) :
    OpDone P ρ h w (execOp act.eval o) res := by
  have hargs : LRel ρ args (c.args.toList.map act.eval) := evs_rel hs ea
  have hex : execOp act.eval o = (do let d ← resolve act.eval c o.type; invoke d.target d.args) := by simp only [execOp, ho]
  have hmap : c.args.map act.eval = ⟨c.args.toList.map act.eval⟩ := by apply Array.ext'; simp
  unfold callOpB at e
  split at e
  case h_1 hc =>
    obtain ⟨v, h', hv, rfl⟩ := ret2_val e
    have : execOp act.eval o = (do pure (.value (← Builtin.append_ c.argTypes o.type ⟨c.args.toList.map act.eval⟩))) := by
      rw [hex]; simp only [resolve, hc, hmap]; rfl
    rw [this]
    exact OpDone.of_done (run_append_am H hv hargs)
  case h_2 hc =>
    obtain ⟨v, hv, rfl⟩ := ret_val e
    have : execOp act.eval o = (do pure (.value (← Builtin.len_ c.argTypes o.type ⟨c.args.toList.map act.eval⟩))) := by
      rw [hex]; simp only [resolve, hc, hmap]; rfl
    rw [this]
    split at hv
    · rename_i v0 hv0
      simp only [Option.some.injEq] at hv
      subst hv
      exact OpDone.of_quiet H (run_lenOp_am hv0 hargs)
    · exact OpDone.of_quiet H (run_lenMap_am H hv hargs)
  case h_3 hc =>
    split at e
    case h_2 => cases e
    rename_i v₀ vs
    obtain ⟨v, hv, rfl⟩ := ret_val e
    have : execOp act.eval o = (do pure (.value (← Builtin.min_ c.argTypes o.type ⟨c.args.toList.map act.eval⟩))) := by
      rw [hex]; simp only [resolve, hc, hmap]; rfl
    rw [this]
    refine OpDone.of_quiet H ?_
    generalize c.args.toList.map act.eval = us at hargs
    cases hargs with
    | cons h1 h2 => exact run_minB hv h1 h2
  case h_4 hc =>
    split at e
    case h_2 => cases e
    rename_i v₀ vs
    obtain ⟨v, hv, rfl⟩ := ret_val e
    have : execOp act.eval o = (do pure (.value (← Builtin.max_ c.argTypes o.type ⟨c.args.toList.map act.eval⟩))) := by
      rw [hex]; simp only [resolve, hc, hmap]; rfl
    rw [this]
    refine OpDone.of_quiet H ?_
    generalize c.args.toList.map act.eval = us at hargs
    cases hargs with
    | cons h1 h2 => exact run_maxB hv h1 h2
  case h_5 hc =>
    obtain ⟨v, h', hv, rfl⟩ := ret2_val e
    have : execOp act.eval o = (do pure (.value (← Builtin.copy_ c.argTypes o.type ⟨c.args.toList.map act.eval⟩))) := by
      rw [hex]; simp only [resolve, hc, hmap]; rfl
    rw [this]
    exact OpDone.of_done (run_copy_am H hv hargs)
  case h_6 hc =>
    obtain ⟨v, hv, rfl⟩ := ret_val e
    have : execOp act.eval o = (do pure (.value (← Builtin.unsafeSliceData_ c.argTypes o.type ⟨c.args.toList.map act.eval⟩))) := by
      rw [hex]; simp only [resolve, hc, hmap]; rfl
    rw [this]
    exact OpDone.of_quiet H (run_data_am hv hargs)
  case h_7 hc =>
    obtain ⟨v, h', hv, rfl⟩ := ret2_val e
    have : execOp act.eval o = (do pure (.value (← Builtin.unsafeString_ c.argTypes o.type ⟨c.args.toList.map act.eval⟩))) := by
      rw [hex]; simp only [resolve, hc, hmap]; rfl
    rw [this]
    exact OpDone.of_done (run_unsafe_am H hv hargs)
  case h_8 hc =>
    obtain ⟨v, h', hv, rfl⟩ := ret2_val e
    have : execOp act.eval o = (do pure (.value (← Builtin.delete_ c.argTypes o.type ⟨c.args.toList.map act.eval⟩))) := by
      rw [hex]; simp only [resolve, hc, hmap]; rfl
    rw [this]
    exact OpDone.of_done (run_delete_am H hv hargs)
  case h_9 hc =>
    obtain ⟨v, hv, rfl⟩ := ret_val e
    have : execOp act.eval o = (do pure (.value (← Builtin.cap_ c.argTypes o.type ⟨c.args.toList.map act.eval⟩))) := by
      rw [hex]; simp only [resolve, hc, hmap]; rfl
    rw [this]
    exact OpDone.of_quiet H (run_cap_am hv hargs)
  case h_10 hc =>
    obtain ⟨v, h', hv, rfl⟩ := ret2_val e
    have : execOp act.eval o = (do pure (.value (← Builtin.clear_ c.argTypes o.type ⟨c.args.toList.map act.eval⟩))) := by
      rw [hex]; simp only [resolve, hc, hmap]; rfl
    rw [this]
    exact OpDone.of_done (run_clear_am H hv hargs)
  case h_11 f hc =>
    split at e
    case h_2 => cases e
    rename_i g first captured hf
    split at e
    case h_2 => cases e
    rename_i xs hxs
    split at e
    case h_2 => cases e
    rename_i ys hys
    simp at e; subst e
    have hxs := join_eq hxs
    have hys := join_eq hys
    have hfr := aev_rel hs hf
    generalize hev : act.eval f = fv' at hfr
    cases hfr with
    | @func _ _ b _ d _ h1 h2 =>
      refine ⟨b.toList ++ (c.args.toList.map act.eval ++ d.toList), by rw [hys, hxs]; exact h1.append (hargs.append h2), ?_⟩
      rw [hex]
      simp only [resolve, hc, hmap, hev, Deferred.ofValue, Sem.run_bind, Sem.run_pure, Result.andThen_ok, invoke]
      congr 2
      apply Array.ext'
      simp
  case h_12 r name hc =>
    split at e
    case h_2 => cases e
    rename_i t x hr
    split at e
    case h_2 => cases e
    rename_i f y hm
    simp only [Option.some.injEq] at e; subst e
    have hrr := aev_rel hs hr
    generalize hev : act.eval r = rv at hrr
    cases hrr with
    | iface hx =>
      rename_i u
      obtain ⟨z, hz, hzr⟩ := run_meth_am (w := w) H hm hx (P.types.size + 99)
      have hk : P.types.size + Made.depth = P.types.size + 99 + 1 := rfl
      refine ⟨z :: c.args.toList.map act.eval, .cons hzr hargs, ?_⟩
      rw [hex]
      simp [resolve, hc, hmap, hev, invoke, callMethod, hk, hz]
      rw [List.take_of_length_le (by simp)]
  case h_13 => cases e

theorem opB_sound {a : Slots} {act : Act} {o : Oper} {res : Res} (hs : LRel ρ a act.tmps.toList) (H : HRel P ρ h w) (e : opB P a o h = some res) : OpDone P ρ h w (execOp act.eval o) res := by
  unfold opB at e
  split at e
  case h_1 x ho =>
    obtain ⟨v, hv, rfl⟩ := ret_val e
    simp only [execOp, ho]
    exact OpDone.of_pure H (aev_rel hs hv)
  case h_2 x ho =>
    obtain ⟨v, hv, rfl⟩ := ret_val e
    simp only [execOp, ho]
    exact OpDone.of_pure H (aev_rel hs hv)
  case h_3 c x y ho =>
    split at e
    case h_3 => cases e
    case h_1 hc =>
      obtain ⟨v, hv, rfl⟩ := ret_val e
      have hcr := aev_rel hs hc
      generalize hev : act.eval c = cv at hcr
      cases hcr
      exact ⟨.value (act.eval x), act.eval x, w, ρ, by simp [execOp, ho, hev, asBool], .inl rfl, aev_rel hs hv, H, Turn.refl _ _ _⟩
    case h_2 hc =>
      obtain ⟨v, hv, rfl⟩ := ret_val e
      have hcr := aev_rel hs hc
      generalize hev : act.eval c = cv at hcr
      cases hcr
      exact ⟨.value (act.eval y), act.eval y, w, ρ, by simp [execOp, ho, hev, asBool], .inl rfl, aev_rel hs hv, H, Turn.refl _ _ _⟩
  case h_4 t ho =>
    split at e
    case h_2 => cases e
    rename_i cs hz
    obtain ⟨r, h', hn, rfl⟩ := retRow_val e
    simp only [execOp, ho]
    exact OpDone.of_done (run_alloc_am H hz hn)
  case h_5 t x ho =>
    split at e
    case h_2 => cases e
    rename_i v hv
    split at e
    · cases e
    rename_i hj
    obtain ⟨r, h', hn, rfl⟩ := retRow_val e
    simp only [execOp, ho]
    exact OpDone.of_done (run_box_am H (aev_rel hs hv) hj hn)
  case h_6 t parts ho =>
    split at e
    case h_2 => cases e
    rename_i ps hp
    obtain ⟨v, hv, rfl⟩ := ret_val e
    simp only [execOp, ho]
    refine OpDone.of_quiet H (run_build_am hv ?_)
    have := evParts_rel hs hp
    simpa using this
  case h_7 t len parts ho =>
    split at e
    case h_2 => cases e
    rename_i ps hp
    simp only [execOp, ho]
    obtain ⟨v, h', rfl, hd⟩ := run_buildSlice_am (w := w) (qs := parts.map fun (i, x) => (i, act.eval x)) H e (by
      have := evParts_rel hs hp
      simpa using this)
    exact OpDone.of_done hd
  case h_8 t x ho =>
    split at e
    case h_2 => cases e
    rename_i v₀ hv₀
    obtain ⟨v, hv, rfl⟩ := ret_val e
    simp only [execOp, ho]
    exact OpDone.of_quiet H (run_load_am hv (aev_rel hs hv₀) H)
  case h_9 t x y ho =>
    split at e
    case h_2 => cases e
    rename_i p v hp hv
    split at e
    case h_2 => cases e
    rename_i h' hst
    simp at e; subst e
    obtain ⟨w', hr, H', T⟩ := run_store_am hst (aev_rel hs hp) (aev_rel hs hv) H
    exact ⟨.skip, undef, w', ρ, by simp [execOp, ho, hr], .inr ⟨rfl, rfl⟩, undef_rel, H', T⟩
  case h_10 x ho =>
    split at e
    case h_2 => cases e
    rename_i p hp
    simp at e; subst e
    have hr := aev_rel hs hp
    generalize hev : act.eval x = xv at hr
    cases hr with
    | ptr hl =>
      simp only [execOp, ho, hev]
      exact OpDone.of_pure H (.ptr hl)
  case h_11 op t x y yt ho =>
    split at e
    case h_2 => cases e
    rename_i v u hv hu
    split at e
    case h_2 => cases e
    rename_i hok
    obtain ⟨z, hz, rfl⟩ := ret_val e
    have h1 := aev_rel hs hv
    have h2 := aev_rel hs hu
    obtain ⟨z', hr, hzr⟩ := run_bin_am (P := P) (w := w) H hz h1 h2
    exact ⟨.value z', z', w, ρ, by simp only [execOp, ho, Sem.run_bind, run_eqGuard_am hok h1 h2, Result.andThen_ok, hr, Sem.run_pure], .inl rfl, hzr, H, Turn.refl _ _ _⟩
  case h_12 op t x ho =>
    split at e
    case h_2 => cases e
    rename_i v₀ hv₀
    obtain ⟨v, hv, rfl⟩ := ret_val e
    simp only [execOp, ho]
    exact OpDone.of_quiet H (run_un_am hv (aev_rel hs hv₀))
  case h_13 src dst x ho =>
    split at e
    case h_2 => cases e
    rename_i v₀ hv₀
    obtain ⟨v, h', hv, rfl⟩ := ret2_val e
    simp only [execOp, ho]
    exact OpDone.of_done (run_conv_am H hv (aev_rel hs hv₀))
  case h_14 t x ho =>
    split at e
    case h_1 => cases e
    case h_3 => cases e
    case h_2 d v hnot hd hv =>
      simp at e; subst e
      simp only [execOp, ho]
      refine OpDone.of_quiet H ⟨.iface t (act.eval x), ?_, .iface (aev_rel hs hv)⟩
      cases d <;> first | (exact (hnot _ rfl).elim) | simp [Instr.makeInterface, run_underlying hd]
  case h_15 fn first captured ho =>
    split at e
    case h_2 => cases e
    rename_i hp
    split at e
    case h_2 => cases e
    rename_i xs ys hx hy
    simp at e; subst e
    simp only [execOp, ho]
    refine OpDone.of_quiet H ⟨.func fn (first.map act.eval) (captured.map act.eval), rfl, .func hp ?_ ?_⟩
    · have := evs_rel hs hx; simpa using this
    · have := evs_rel hs hy; simpa using this
  case h_16 t l c ho =>
    split at e
    case h_2 => cases e
    rename_i lv cv hl hc
    simp only [execOp, ho]
    obtain ⟨v, h', rfl, hd⟩ := run_makeSlice_am (w := w) H e (aev_rel hs hl) (aev_rel hs hc)
    exact OpDone.of_done hd
  case h_17 t x lo hi mx ho =>
    split at e
    case h_2 => cases e
    rename_i v₀ lo' hi' mx' h1 h2 h3 h4
    obtain ⟨v, hv, rfl⟩ := ret_val e
    simp only [execOp, ho]
    exact OpDone.of_quiet H (run_slice_am H hv (aev_rel hs h1) (opt_rel hs h2) (opt_rel hs h3) (opt_rel hs h4))
  case h_18 s x f ho =>
    split at e
    case h_2 => cases e
    rename_i v₀ hv₀
    obtain ⟨v, hv, rfl⟩ := ret_val e
    simp only [execOp, ho]
    exact OpDone.of_quiet H (run_fieldAddr_am hv (aev_rel hs hv₀))
  case h_19 t x f ho =>
    split at e
    case h_2 => cases e
    rename_i fields cs hu hx
    split at e
    case h_2 => cases e
    rename_i fd hf
    obtain ⟨v, hv, rfl⟩ := ret_val e
    simp only [execOp, ho]
    exact OpDone.of_quiet H (run_field_am hu hf hv (aev_rel hs hx))
  case h_20 t x i ho =>
    split at e
    case h_2 => cases e
    rename_i v₀ j hv₀ hj
    obtain ⟨v, hv, rfl⟩ := ret_val e
    simp only [execOp, ho]
    exact OpDone.of_quiet H (run_indexAddr_am hv (aev_rel hs hv₀) (aev_rel hs hj))
  case h_21 t x i ho =>
    split at e
    case h_2 => cases e
    rename_i v₀ j hv₀ hj
    obtain ⟨v, hv, rfl⟩ := ret_val e
    simp only [execOp, ho]
    exact OpDone.of_quiet H (run_index_am hv (aev_rel hs hv₀) (aev_rel hs hj))
  case h_22 x i ho =>
    split at e
    case h_2 => cases e
    rename_i vs hx
    obtain ⟨v, hv, rfl⟩ := ret_val e
    simp only [execOp, ho]
    exact OpDone.of_quiet H (run_extract_am hv (aev_rel hs hx))
  case h_23 c ho =>
    split at e
    case h_2 => cases e
    rename_i args hargs
    exact callOp_sound hs H ho hargs e
  case h_24 t x ho =>
    split at e
    case h_2 => cases e
    rename_i v₀ hv₀
    obtain ⟨v, hv, rfl⟩ := ret_val e
    simp only [execOp, ho]
    exact OpDone.of_quiet H (run_toArr_am hv (aev_rel hs hv₀))
  case h_25 t r ho =>
    split at e
    case h_2 => cases e
    rename_i hint hh
    split at e
    case h_2 => cases e
    rename_i hm
    obtain ⟨q, h', hn, rfl⟩ := retRow_val e
    simp only [execOp, ho]
    exact OpDone.of_done (run_makeMap_am H hm (opt_rel hs hh) hn)
  case h_26 t m k ok ho =>
    split at e
    case h_2 => cases e
    rename_i mv kv hm hk
    obtain ⟨v, hv, rfl⟩ := ret_val e
    simp only [execOp, ho]
    exact OpDone.of_quiet H (run_lookup_am H hv (aev_rel hs hm) (aev_rel hs hk))
  case h_27 t m k x ho =>
    split at e
    case h_2 => cases e
    rename_i mv kv v hm hk hv
    split at e
    case h_2 => cases e
    rename_i h' hst
    simp at e; subst e
    obtain ⟨w', hr, H', T⟩ := run_mapUpdate_am H hst (aev_rel hs hm) (aev_rel hs hk) (aev_rel hs hv)
    exact ⟨.skip, undef, w', ρ, by simp [execOp, ho, hr], .inr ⟨rfl, rfl⟩, undef_rel, H', T⟩
  case h_28 t m k x ho =>
    split at e
    case h_2 => cases e
    rename_i mv kv v hm hk hv
    split at e
    case h_2 => cases e
    rename_i h' hst
    simp at e; subst e
    obtain ⟨w', hr, H', T⟩ := run_mapUpdate_am H hst (aev_rel hs hm) (aev_rel hs hk) (aev_rel hs hv)
    exact ⟨.skip, undef, w', ρ, by simp [execOp, ho, hr], .inr ⟨rfl, rfl⟩, undef_rel, H', T⟩
  case h_29 t x ho =>
    split at e
    case h_2 => cases e
    rename_i v₀ hv₀
    simp only [execOp, ho]
    obtain ⟨v, h', rfl, hd⟩ := run_range_am (w := w) H e (aev_rel hs hv₀)
    exact OpDone.of_done hd
  case h_30 x ho =>
    split at e
    case h_2 => cases e
    rename_i v₀ hv₀
    obtain ⟨v, hv, rfl⟩ := ret_val e
    simp only [execOp, ho]
    exact OpDone.of_quiet H (run_entry_am H hv (aev_rel hs hv₀))
  case h_31 x xt t ok ho =>
    split at e
    case h_2 => cases e
    rename_i v₀ hv₀
    obtain ⟨v, hv, rfl⟩ := ret_val e
    simp only [execOp, ho]
    exact OpDone.of_quiet H (run_assert_am hv (aev_rel hs hv₀))
  case h_32 => cases e
end
end Go.Am

