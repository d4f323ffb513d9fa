/- Layer 14: what is wrong with axes. -/
import Derived.Test.YtllcbjaajffaeaaMi
namespace Go.Am
theorem find_lt {k u : Value} : ∀ (es : List MapEntry) (i m : Nat), findB k es i = some (some (m, u)) → i ≤ m
  | [], i, m, e => by simp [findB] at e
  | x :: es, i, m, e => by
    simp only [findB] at e
    split at e
    · simp only [Option.some.injEq, Prod.mk.injEq] at e; omega
    · have := find_lt es _ _ e; omega
    · cases e
theorem find_setE {k u v : Value} (hk : sameKeyB k k = some true) : ∀ {es : List MapEntry} {i j : Nat}, findB k es i = some (some (i + j, u)) → findB k (setE k v es j) i = some (some (i + j, v))
  | [], i, j, e => by simp [findB] at e
  | x :: es, i, j, e => by
    simp only [findB] at e
    split at e
    · simp only [Option.some.injEq, Prod.mk.injEq] at e
      have : j = 0 := by omega
      subst this
      simp only [setE, findB, hk, Nat.add_zero]
    · rename_i hb
      cases j with
      | zero => exact absurd (find_lt es (i + 1) _ e) (by omega)
      | succ j =>
        simp only [setE, findB, hb]
        have := find_setE (v := v) hk (es := es) (i := i + 1) (j := j) (by rw [e]; congr 3; omega)
        rw [this]; congr 3; omega
    · cases e
theorem find_addE {k v : Value} {c : Nat} (hk : sameKeyB k k = some true) : ∀ {es : List MapEntry} {i : Nat}, findB k es i = some none → findB k (addE ⟨k, v, c⟩ es) i = some (some (i + es.length, v))
  | [], i, _ => by simp [addE, findB, hk]
  | x :: es, i, e => by
    simp only [findB] at e
    split at e
    · cases e
    · rename_i hb
      simp only [addE, findB, hb, find_addE hk e, List.length_cons]
      congr 3; omega
    · cases e
theorem find_setE_ne {k k' u v : Value} (hne : sameKeyB k' k = some false) : ∀ {es : List MapEntry} {i j : Nat}, findB k es i = some (some (i + j, u)) → findB k' (setE k v es j) i = findB k' es i
  | [], i, j, e => by simp [findB] at e
  | x :: es, i, j, e => by
    simp only [findB] at e
    split at e
    · rename_i hb
      simp only [Option.some.injEq, Prod.mk.injEq] at e
      have : j = 0 := by omega
      subst this
      have hx := keyB_true hb
      simp only [setE, findB, hne, hx]
    · rename_i hb
      cases j with
      | zero => exact absurd (find_lt es (i + 1) _ e) (by omega)
      | succ j =>
        simp only [setE, findB]
        rw [find_setE_ne hne (es := es) (i := i + 1) (j := j) (by rw [e]; congr 3; omega)]
    · cases e
theorem find_addE_ne {k k' v : Value} {c : Nat} (hne : sameKeyB k' k = some false) : ∀ {es : List MapEntry} {i : Nat}, findB k' (addE ⟨k, v, c⟩ es) i = findB k' es i
  | [], i => by simp [addE, findB, hne]
  | x :: es, i => by simp only [addE, findB, find_addE_ne hne]
theorem mem_setE {k v : Value} : ∀ {es : List MapEntry} {j : Nat} {e : MapEntry}, e ∈ setE k v es j → e.key = k ∨ e ∈ es
  | [], _, _, h => by cases h
  | x :: es, 0, e, h => by
    rcases List.mem_cons.1 h with rfl | h
    · exact .inl rfl
    · exact .inr (List.mem_cons_of_mem _ h)
  | x :: es, j + 1, e, h => by
    rcases List.mem_cons.1 h with rfl | h
    · exact .inr (List.mem_cons_self ..)
    · exact (mem_setE h).imp id (List.mem_cons_of_mem _)
/-- A map, as the function that it is over keys of a shape. -/
structure MapIs (D : Value → Prop) (es : List MapEntry) (f : Value → Option Value) : Prop where
  keys : ∀ e, e ∈ es → D e.key
  found : ∀ k, D k → (f k = none ∧ findB k es 0 = some none) ∨ ∃ v j, f k = some v ∧ findB k es 0 = some (some (j, v))
/-- Keys of a shape are told apart. -/
def Told2 (D : Value → Prop) : Prop := ∀ k k', D k → D k' → (k = k' ∧ sameKeyB k k' = some true) ∨ (k ≠ k' ∧ sameKeyB k k' = some false)
theorem MapIs.nil {D : Value → Prop} : MapIs D [] fun _ => none := ⟨fun _ h => (by cases h), fun k _ => .inl ⟨rfl, rfl⟩⟩
open Classical in
theorem MapIs.put {D : Value → Prop} {es : List MapEntry} {f : Value → Option Value} {k v : Value} {ck : Nat} (hT : Told2 D) (h : MapIs D es f) (hk : D k) :
    ∃ es2 ck2, (match findB k es 0 with | some (some (j, _)) => some (setE k v es j, ck) | some none => some (addE ⟨k, v, ck⟩ es, ck + 1) | none => none) = some (es2, ck2) ∧ MapIs D es2 fun x => if x = k then some v else f x := by
  have hkk : sameKeyB k k = some true := by
    rcases hT k k hk hk with ⟨_, h⟩ | ⟨h, _⟩
    · exact h
    · exact absurd rfl h
  rcases h.found k hk with ⟨h1, h2⟩ | ⟨u, j, h1, h2⟩
  · refine ⟨addE ⟨k, v, ck⟩ es, ck + 1, by rw [h2], fun e he => ?_, fun x hx => ?_⟩
    · rw [addE_eq] at he
      rcases List.mem_append.1 he with he | he
      · exact h.keys e he
      · simp at he; subst he; exact hk
    · rcases hT x k hx hk with ⟨rfl, _⟩ | ⟨hne, hs⟩
      · exact .inr ⟨v, _, if_pos rfl, find_addE hkk h2⟩
      · rw [if_neg hne, find_addE_ne hs]
        exact h.found x hx
  · refine ⟨setE k v es j, ck, by rw [h2], fun e he => ?_, fun x hx => ?_⟩
    · rcases mem_setE he with h | h'
      · rw [h]; exact hk
      · exact h.keys e h'
    · have h2' : findB k es 0 = some (some (0 + j, u)) := by rw [h2, Nat.zero_add]
      rcases hT x k hx hk with ⟨rfl, _⟩ | ⟨hne, hs⟩
      · exact .inr ⟨v, _, if_pos rfl, find_setE hkk h2'⟩
      · rw [if_neg hne, find_setE_ne hs h2']
        exact h.found x hx
theorem MapIs.put' {D : Value → Prop} {es : List MapEntry} {f : Value → Option Value} {k v : Value} {ck : Nat} (hT : Told2 D) (h : MapIs D es f) (hk : D k) :
    ∃ es2 ck2 f2, (match findB k es 0 with | some (some (j, _)) => some (setE k v es j, ck) | some none => some (addE ⟨k, v, ck⟩ es, ck + 1) | none => none) = some (es2, ck2) ∧ MapIs D es2 f2 ∧ f2 k = some v ∧ ∀ x, x ≠ k → f2 x = f x := by
  obtain ⟨es2, ck2, h1, h2⟩ := MapIs.put (v := v) (ck := ck) hT h hk
  exact ⟨es2, ck2, _, h1, h2, if_pos rfl, fun x hx => if_neg hx⟩
end Go.Am
namespace Go.Proofs.Ytllcbjaajffaeaa
open Go.Am Go.Mx
set_option linter.unusedVariables false
set_option linter.unusedSimpArgs false
set_option maxRecDepth 20000
set_option maxHeartbeats 4000000
attribute [local irreducible] OS LSr ODS CS YS OGS OT
/-- Keys that are texts. -/
def DT (k : Value) : Prop := ∃ t : W, k = str t
theorem str_inj {s t : W} (h : str s = str t) : s = t := by
  simpa only [Value.string.injEq, ByteArray.mk.injEq, Array.mk.injEq] using h
theorem told_DT : Told2 DT := by
  rintro k k' ⟨t, rfl⟩ ⟨t', rfl⟩
  have hs : sameKeyB (str t) (str t') = some (bytesEq t t') := rfl
  rw [hs, beq_bytes]
  by_cases h : t = t'
  · subst h; exact .inl ⟨rfl, by simp⟩
  · exact .inr ⟨fun e => h (str_inj e), by simpa using h⟩
def NamesOk (f : Value → Option Value) (seen : List W) : Prop := (∀ s : W, (f (str s)).isSome = seen.contains s) ∧ ∀ k v, f k = some v → v = .agg #[]
def nmsA (l : List Ax) : List W := l.map (·.1)
theorem bad_step {l : List Ax} {k : Nat} {x : Ax} (h : l[k]? = some x) : bad (nmsA (l.take k)) (l.drop k) = if (nmsA (l.take k)).contains x.1 then 6 else if x.2.length = 0 then 1 else bad (nmsA (l.take (k + 1))) (l.drop (k + 1)) := by
  rw [drop_at h, bad, List.take_add_one, h]
  simp [nmsA]
theorem cnt_step {l : List Ax} {k : Nat} {x : Ax} (h : l[k]? = some x) : cnt (nsA (l.take (k + 1))) = cnt (nsA (l.take k)) * x.2.length := by
  rw [List.take_add_one, h, nsA, List.map_append]
  exact cnt_snoc _ _
theorem cnt_le {l : List Ax} (hp : ∀ x, x ∈ l → 0 < x.2.length) (k : Nat) : cnt (nsA (l.take k)) ≤ cnt (nsA l) := by
  have := cnt_take_le (nsA l) (fun n hn => by obtain ⟨x, hx, rfl⟩ := List.mem_map.1 hn; exact hp x hx) k
  rwa [nsA, List.map_take]
theorem cnt_pos' {l : List Ax} (hp : ∀ x, x ∈ l → 0 < x.2.length) (k : Nat) : 0 < cnt (nsA (l.take k)) := cnt_pos _ fun n hn => by obtain ⟨x, hx, rfl⟩ := List.mem_map.1 hn; exact hp x (List.mem_of_mem_take hx)
theorem isFull_ct {L : RL} {v : Value} {l : List Ax} {cs : List Value} (hv : SV 2 L v l.length cs) (hx : AxR L l cs) (hn : l.length ≤ 1000000) (hp : ∀ x, x ∈ l → 0 < x.2.length) (hm : ∀ x, x ∈ l → x.2.length ≤ 140737488355328) :
    CS Try.prog 44 [v] L fun u L' => u = .bool (decide (24 < cnt (nsA l))) ∧ L' = L := by
  suffices h : CS Try.prog 44 [v] L fun u L' => u = .bool (decide (24 < cnt (nsA l))) ∧ Sub L L' from h.less fun v L' ⟨h1, h2⟩ => ⟨L, h2, h1, rfl⟩
  refine CS.mk (fn := Try.f44) rfl rfl rfl rfl ?_
  refine yG ?_
  refine LS.loopJ [3, 6, 7, 8] (fun q a L' => ∃ (k c : Nat), q = l.length - k ∧ k ≤ l.length ∧ c = cnt (nsA (l.take k)) ∧ c ≤ 24 ∧ L' = L ∧ a = [.chan none, .chan none, .chan none, .int .i64 (c : Nat), .chan none, .chan none, v, .int .i64 (l.length : Nat), .int .i64 (k : Nat), .chan none, .chan none, .chan none, .chan none, .chan none, .chan none, .chan none, .chan none, .chan none, .chan none, .chan none, .chan none, .chan none, .chan none, .chan none]) (n := l.length) rfl ⟨0, 1, rfl, by omega, by simp [nsA, cnt], by omega, rfl, rfl⟩ ?_
  rintro q a L' ⟨k, c, rfl, hk, hcn, hc24, hL, rfl⟩
  rw [hL]
  clear hL
  have hcp := cnt_pos' hp k
  rw [← hcn] at hcp
  refine yG ?_
  repeat refine LS.seq ?_
  refine LS.cond rfl (fun hc => ?_) (fun hc => ?_)
  · have hc := lt_of hc
    obtain ⟨x, hxk⟩ := ext_list (l := l) (k := k) (by omega)
    obtain ⟨g0, b, g1, g2, g3⟩ := hx.get hxk
    have hxm := hm x (List.mem_of_getElem? hxk)
    have hst := cnt_step hxk
    rw [← hcn] at hst
    obtain ⟨D, hD⟩ : ∃ D, D = 24 / c := ⟨_, rfl⟩
    have hD24 : D ≤ 24 := by rw [hD]; exact Nat.div_le_self 24 c
    refine LS.skip ?_
    refine yG ?_
    refine OS.at (j := k) hv (by omega) rfl rfl rfl rfl rfl rfl (fun r0 o0 row0 cs0 m0 c0 h0 k0 => ?_)
    refine ⟨_, rfl, ?_⟩
    refine yG ?_
    refine OS.read rfl (e_loadm m0 c0 rfl rfl (part_agg rfl rfl (k0 _ g3))) rfl ?_
    refine OS.fresh rfl (e_new (fun _ => rfl) rfl) (fun _ => rfl) (fun r5 => ?_)
    obtain ⟨A, cp, rfl⟩ := g2.form
    refine OS.write rfl (e_store 0 rfl rfl rfl rfl rfl rfl rfl rfl) rfl ?_
    refine OS.nil ?_
    repeat refine LS.seq ?_
    refine LS.drawn noGo mixed [(0, false), (1, false), (2, false), (3, false), (4, false), (5, false)] rfl rfl (by kernel_rfl) ?_
    refine yG ?_
    refine ODS.pure rfl rfl (e_quo (m := 24) (n := c) rfl rfl rfl (by omega) (in_i64 (by rw [← hD]; omega) (by rw [← hD]; omega))) rfl ?_
    rw [← hD]
    by_cases hgt : D < x.2.length
    · have hb : (!ileB ((x.2.length : Nat) : Int) ((D : Nat) : Int)) = true := by rw [ileB_eq]; simp; omega
      have hfull : 24 < cnt (nsA l) := by
        have h1 := cnt_le hp (k + 1)
        have h2 : 24 < c * x.2.length := by
          have := (Nat.div_lt_iff_lt_mul hcp).1 (hD ▸ hgt)
          rw [Nat.mul_comm]; exact this
        omega
      rw [decide_eq_true hfull]
      refine yG ?_
      exact ⟨rfl, Sub.tail⟩
    · have hb : (!ileB ((x.2.length : Nat) : Int) ((D : Nat) : Int)) = false := by rw [ileB_eq]; simp; omega
      have hle : c * x.2.length ≤ 24 := by
        have h1 : x.2.length ≤ 24 / c := by rw [← hD]; omega
        have h2 := (Nat.le_div_iff_mul_le hcp).1 h1
        rw [Nat.mul_comm]; exact h2
      refine yG ?_
      refine OS.pure rfl (e_mulN (m := c) (n := x.2.length) rfl rfl rfl (in_i64 (by omega) (by omega))) rfl ?_
      refine OS.sub (Sub.drop 0 rfl) ?_
      refine yG ?_
      exact ⟨l.length - (k + 1), by omega, k + 1, _, rfl, by omega, hst.symm, hle, rfl, rfl⟩
  · have hc := nlt_of hc
    obtain rfl : k = l.length := by omega
    rw [List.take_length] at hcn
    rw [decide_eq_false (show ¬ 24 < cnt (nsA l) by omega)]
    refine LS.exit ?_
    refine yG ?_
    exact ⟨rfl, Sub.drops 0 rfl⟩
theorem check_ct {L : RL} {v : Value} {l : List Ax} {cs : List Value} (hv : SV 2 L v l.length cs) (hx : AxR L l cs) (hn : l.length ≤ 1000000) (hm : ∀ x, x ∈ l → x.2.length ≤ 140737488355328) :
    CS Try.prog 32 [v] L fun u L' => u = .int .i64 (chk l : Nat) ∧ L' = L := by
  suffices h : CS Try.prog 32 [v] L fun u L' => u = .int .i64 (chk l : Nat) ∧ Sub L L' from h.less fun v L' ⟨h1, h2⟩ => ⟨L, h2, h1, rfl⟩
  refine CS.mk (fn := Try.f32) rfl rfl rfl rfl ?_
  refine yG ?_
  refine OS.fresh rfl (e_makeMap rfl rfl rfl) (fun _ => rfl) (fun rm => ?_)
  refine yG ?_
  refine LS.loopJ [0, 3, 11, 12, 13] (fun q a L' => ∃ (k : Nat) (es : List MapEntry) (ck : Nat) (f : Value → Option Value), q = l.length - k ∧ k ≤ l.length ∧ MapIs DT es f ∧ NamesOk f (nmsA (l.take k)) ∧ bad [] l = bad (nmsA (l.take k)) (l.drop k) ∧ L' = (rm, .map es ck) :: L ∧ a = [v, .chan none, .chan none, .map (some rm), .chan none, .chan none, .chan none, .chan none, .chan none, .chan none, .chan none, v, .int .i64 (l.length : Nat), .int .i64 (k : Nat), .chan none, .chan none, .chan none, .chan none, .chan none, .chan none, .chan none, .chan none, .chan none, .chan none, .chan none, .chan none, .chan none, .chan none, .chan none, .chan none, .chan none, .chan none, .chan none, .chan none, .chan none, .chan none]) (n := l.length) rfl ⟨0, [], 0, fun _ => none, rfl, by omega, .nil, ⟨fun s => rfl, fun _ _ h => (by cases h)⟩, rfl, rfl, rfl⟩ ?_
  rintro q a L' ⟨k, es, ck, f, rfl, hk, hM, ⟨hf1, hf2⟩, hbad, rfl, rfl⟩
  refine yG ?_
  repeat refine LS.seq ?_
  refine LS.cond rfl (fun hc => ?_) (fun hc => ?_)
  · have hc := lt_of hc
    obtain ⟨x, hxk⟩ := ext_list (l := l) (k := k) (by omega)
    obtain ⟨g0, b, g1, g2, g3⟩ := hx.get hxk
    have hst := bad_step hxk
    rw [← hbad] at hst
    have hDT : DT (str x.1) := ⟨_, rfl⟩
    have hseen := hf1 x.1
    have hlk : (match findB (str x.1) es 0 with | some (some (_, v)) => some (okTuple true v true) | some none => (match zeroVB Try.prog 94 with | some z => some (okTuple true z false) | none => none) | none => none) = some (.tuple #[.agg #[], .bool (f (str x.1)).isSome]) := by
      rcases hM.found _ hDT with ⟨h1, h2⟩ | ⟨u, j, h1, h2⟩
      · rw [h2, h1]; kernel_rfl
      · rw [h2, h1, hf2 _ _ h1]; rfl
    obtain ⟨es2, ck2, f2, hput, hM2, hp1, hp2⟩ := hM.put' (v := .agg #[]) (ck := ck) told_DT hDT
    refine LS.skip ?_
    refine yG ?_
    refine OS.at (j := k) hv.cons (by omega) rfl rfl rfl rfl rfl rfl (fun r0 o0 row0 cs0 m0 c0 h0 k0 => ?_)
    refine ⟨_, rfl, ?_⟩
    refine yG ?_
    refine OS.read rfl (e_loadm m0 c0 rfl rfl (part_agg rfl rfl (k0 _ g3))) rfl ?_
    refine OS.fresh rfl (e_new (fun _ => rfl) rfl) (fun _ => rfl) (fun r5 => ?_)
    obtain ⟨A, cp, rfl⟩ := g2.form
    refine OS.write rfl (e_store 0 rfl rfl rfl rfl rfl rfl rfl rfl) rfl ?_
    refine yG ?_
    refine OS.read rfl (e_lookup 1 rfl rfl rfl rfl (by kernel_rfl) rfl hlk) rfl ?_
    refine yG ?_
    refine OS.fresh rfl (e_new (fun _ => rfl) rfl) (fun _ => rfl) (fun r6 => ?_)
    refine OS.write rfl (e_store 0 (n := 0) rfl rfl rfl rfl rfl rfl rfl rfl) rfl ?_
    rcases tf (f (str x.1)).isSome with h1 | h1
    · rw [h1] at hseen
      rw [h1]
      rw [← hseen, if_pos rfl] at hst
      have hchk : chk l = 6 := by unfold chk; rw [hst]; rfl
      rw [hchk]
      refine yG ?_
      exact ⟨rfl, Sub.drops 3 rfl⟩
    · rw [h1] at hseen
      rw [h1]
      rw [← hseen, if_neg (by simp)] at hst
      by_cases hz : x.2.length = 0
      · have hb : ieqB ((x.2.length : Nat) : Int) 0 = true := by rw [hz]; rfl
        rw [if_pos hz] at hst
        have hchk : chk l = 1 := by unfold chk; rw [hst]; rfl
        rw [hchk]
        refine yG ?_
        exact ⟨rfl, Sub.drops 3 rfl⟩
      · have hb : ieqB ((x.2.length : Nat) : Int) 0 = false := by
          rw [Bool.eq_false_iff]
          intro h
          have := eq_of h
          omega
        rw [if_neg hz] at hst
        refine yG ?_
        refine OS.write rfl (e_mapUpdate 2 rfl rfl rfl rfl rfl (by kernel_rfl) rfl hput rfl) rfl ?_
        refine OS.sub (Sub.drops 2 rfl) ?_
        refine yG ?_
        refine ⟨l.length - (k + 1), by omega, k + 1, es2, ck2, f2, rfl, by omega, hM2, ⟨fun s => ?_, fun u w e => ?_⟩, hst, rfl, rfl⟩
        · by_cases hs : s = x.1
          · subst hs
            rw [hp1, List.take_add_one, hxk]
            simp [nmsA]
          · rw [hp2 _ (fun e => hs (str_inj e)), hf1, List.take_add_one, hxk]
            simp [nmsA, hs]
        · by_cases hu : u = str x.1
          · rw [hu, hp1] at e; exact (Option.some.inj e).symm
          · rw [hp2 _ hu] at e; exact hf2 u w e
  · have hc := nlt_of hc
    obtain rfl : k = l.length := by omega
    rw [List.drop_length, bad] at hbad
    have hp := bad_pos l [] hbad
    refine LS.exit ?_
    refine yG ?_
    refine OS.call noGo rfl (fun _ => rfl) ((isFull_ct hv.cons (hx.mono fun p hp => List.mem_cons_of_mem _ hp) hn hp hm).mono ?_)
    rintro v' L2 ⟨rfl, hL⟩
    rw [hL]
    clear hL
    by_cases hfl : 24 < cnt (nsA l)
    · have hchk : chk l = 3 := by unfold chk; rw [hbad, if_neg (by simp), if_pos hfl]
      rw [hchk, decide_eq_true hfl]
      refine yG ?_
      exact ⟨rfl, Sub.tail⟩
    · have hchk : chk l = 0 := by unfold chk; rw [hbad, if_neg (by simp), if_neg hfl]
      rw [hchk, decide_eq_false hfl]
      refine yG ?_
      exact ⟨rfl, Sub.tail⟩
end Go.Proofs.Ytllcbjaajffaeaa
