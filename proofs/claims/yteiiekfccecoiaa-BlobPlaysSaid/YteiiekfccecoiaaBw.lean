/- Layer 8: the document's desk: whose is each block, and the values by their ids. -/
import Derived.Test.YteiiekfccecoiaaBs
namespace Go.Am
set_option linter.unusedVariables false
/-- An entry: the page, what stands there, when it was put. -/
abbrev E3 := Nat × Value × Nat
def ent (p : E3) : MapEntry := ⟨.int .i64 (p.1 : Int), p.2.1, p.2.2⟩
structure MD (D : List E3) (ck : Nat) (g : Nat → Option Value) : Prop where
  nk : (D.map (·.1)).Nodup
  nb : (D.map (·.2.2)).Nodup
  lt : ∀ p, p ∈ D → p.2.2 < ck
  is : ∀ k v, g k = some v ↔ ∃ b, (k, v, b) ∈ D
/-- The map's entries, as a function. -/
def MP (es : List MapEntry) (ck : Nat) (g : Nat → Option Value) : Prop := ∃ D, es = D.map ent ∧ MD D ck g
def updF (g : Nat → Option Value) (k : Nat) (v : Option Value) : Nat → Option Value := fun x => if x = k then v else g x
theorem MP.new : MP [] 0 (fun _ => none) := ⟨[], rfl, List.nodup_nil, List.nodup_nil, fun _ h => (by cases h), fun k v => ⟨fun h => (by cases h), fun ⟨b, h⟩ => (by cases h)⟩⟩
theorem MD.no {D : List E3} {ck k : Nat} {g : Nat → Option Value} (h : MD D ck g) (hg : g k = none) : ∀ p, p ∈ D → p.1 ≠ k := fun p hp hk => by
  have := (h.is k p.2.1).2 ⟨p.2.2, by rw [← hk]; exact hp⟩
  rw [hg] at this; cases this
theorem sameK (a b : Nat) : sameKeyB (.int .i64 (a : Int)) (.int .i64 (b : Int)) = some (decide (a = b)) := by
  simp only [sameKeyB, if_true, ieqB_eq]
  congr 1
  rw [Bool.eq_iff_iff]
  simp
  omega
theorem find_no {k : Nat} : ∀ {D : List E3} {i : Nat}, (∀ p, p ∈ D → p.1 ≠ k) → findB (.int .i64 (k : Int)) (D.map ent) i = some none
  | [], i, _ => rfl
  | p :: D, i, h => by
    have hp : k ≠ p.1 := fun hh => h p (List.mem_cons_self ..) hh.symm
    simp only [List.map_cons, findB, ent, sameK, decide_eq_false hp]
    exact find_no (i := i + 1) fun q hq => h q (List.mem_cons_of_mem _ hq)
theorem find_is {k : Nat} {v : Value} {b : Nat} : ∀ {D : List E3} {i j : Nat}, (D.map (·.1)).Nodup → D[j]? = some (k, v, b) → findB (.int .i64 (k : Int)) (D.map ent) i = some (some (i + j, v))
  | [], i, j, _, h => by simp at h
  | p :: D, i, 0, _, h => by
    simp only [List.getElem?_cons_zero, Option.some.injEq] at h
    subst h
    simp [findB, ent, sameK]
  | p :: D, i, j + 1, hn, h => by
    simp only [List.getElem?_cons_succ] at h
    rw [List.map_cons, List.nodup_cons] at hn
    have hp : k ≠ p.1 := fun hh => hn.1 (by rw [← hh]; exact List.mem_map.2 ⟨_, List.mem_of_getElem? h, rfl⟩)
    simp only [List.map_cons, findB, ent, sameK, decide_eq_false hp]
    have := find_is (i := i + 1) hn.2 h
    rw [this]; congr 3; omega
theorem setE_is {k : Nat} {v u : Value} {b : Nat} : ∀ {D : List E3} {j : Nat}, D[j]? = some (k, u, b) → setE (.int .i64 (k : Int)) v (D.map ent) j = (D.set j (k, v, b)).map ent
  | [], j, h => by simp at h
  | p :: D, 0, h => by
    simp only [List.getElem?_cons_zero, Option.some.injEq] at h
    subst h
    rfl
  | p :: D, j + 1, h => by
    simp only [List.getElem?_cons_succ] at h
    simp only [List.map_cons, setE, List.set_cons_succ, setE_is h]
theorem addE_is {e : MapEntry} : ∀ {es : List MapEntry}, addE e es = es ++ [e]
  | [] => rfl
  | x :: es => by simp only [addE, addE_is, List.cons_append]
theorem erase_map {α β : Type} {f : α → β} : ∀ {l : List α} {i : Nat}, (l.map f).eraseIdx i = (l.eraseIdx i).map f
  | [], i => by simp
  | x :: l, 0 => rfl
  | x :: l, i + 1 => by simp only [List.map_cons, List.eraseIdx_cons_succ, erase_map]
theorem dropE_is : ∀ {es : List MapEntry} {j : Nat}, dropE es j = es.eraseIdx j
  | [], j => by simp [dropE]
  | x :: es, 0 => rfl
  | x :: es, j + 1 => by simp only [dropE, List.eraseIdx_cons_succ, dropE_is]
theorem MD.at {D : List E3} {ck k : Nat} {v : Value} {g : Nat → Option Value} (h : MD D ck g) (hg : g k = some v) : ∃ (j b : Nat), D[j]? = some (k, v, b) := by
  obtain ⟨b, hb⟩ := (h.is k v).1 hg
  obtain ⟨j, hj⟩ := List.mem_iff_getElem?.1 hb
  exact ⟨j, b, hj⟩
theorem MD.same {D : List E3} {ck i j : Nat} {g : Nat → Option Value} {p q : E3} (h : MD D ck g) (hi : D[i]? = some p) (hj : D[j]? = some q) (hk : p.1 = q.1) : i = j := by
  have h1 : (D.map (·.1))[i]? = some p.1 := by simp [hi]
  have h2 : (D.map (·.1))[j]? = some p.1 := by simp [hj, hk]
  exact (List.getElem?_inj (List.getElem?_eq_some_iff.1 h1).1 h.nk).1 (h1.trans h2.symm)
theorem map_set_same {α β : Type} {f : α → β} {l : List α} {j : Nat} {x y : α} (h : l[j]? = some y) (he : f x = f y) : (l.set j x).map f = l.map f := by
  apply List.ext_getElem?
  intro i
  rw [List.getElem?_map, List.getElem?_set, List.getElem?_map]
  by_cases hi : j = i
  · subst hi
    rw [if_pos rfl, if_pos (List.getElem?_eq_some_iff.1 h).1, h]
    simp [he]
  · rw [if_neg hi]
theorem MD.set {D : List E3} {ck j k b : Nat} {u v : Value} {g : Nat → Option Value} (h : MD D ck g) (hj : D[j]? = some (k, u, b)) : MD (D.set j (k, v, b)) ck (updF g k (some v)) := by
  have hlt := (List.getElem?_eq_some_iff.1 hj).1
  refine ⟨by rw [map_set_same (x := (k, v, b)) hj rfl]; exact h.nk, by rw [map_set_same (x := (k, v, b)) hj rfl]; exact h.nb, fun p hp => ?_, fun x y => ?_⟩
  · rcases List.mem_or_eq_of_mem_set hp with hp | rfl
    · exact h.lt p hp
    · exact h.lt (k, u, b) (List.mem_of_getElem? hj)
  · unfold updF
    by_cases hx : x = k
    · subst hx
      rw [if_pos rfl]
      constructor
      · intro hh; cases hh
        exact ⟨b, List.mem_iff_getElem?.2 ⟨j, by rw [List.getElem?_set, if_pos rfl, if_pos hlt]⟩⟩
      · rintro ⟨b', hb'⟩
        obtain ⟨i, hi⟩ := List.mem_iff_getElem?.1 hb'
        rw [List.getElem?_set] at hi
        by_cases hij : j = i
        · rw [if_pos hij, if_pos hlt] at hi
          simp only [Option.some.injEq, Prod.mk.injEq] at hi
          rw [hi.2.1]
        · rw [if_neg hij] at hi
          exact absurd (h.same hj hi rfl) hij
    · rw [if_neg hx, h.is]
      constructor
      · rintro ⟨b', hb'⟩
        obtain ⟨i, hi⟩ := List.mem_iff_getElem?.1 hb'
        refine ⟨b', List.mem_iff_getElem?.2 ⟨i, ?_⟩⟩
        rw [List.getElem?_set, if_neg (fun hij => ?_)]
        · exact hi
        · subst hij
          rw [hj] at hi
          simp only [Option.some.injEq, Prod.mk.injEq] at hi
          exact hx hi.1.symm
      · rintro ⟨b', hb'⟩
        rcases List.mem_or_eq_of_mem_set hb' with hb' | hb'
        · exact ⟨b', hb'⟩
        · simp only [Prod.mk.injEq] at hb'
          exact absurd hb'.1 hx
theorem MD.add {D : List E3} {ck k : Nat} {v : Value} {g : Nat → Option Value} (h : MD D ck g) (hg : g k = none) : MD (D ++ [(k, v, ck)]) (ck + 1) (updF g k (some v)) := by
  have hno := h.no hg
  refine ⟨?_, ?_, fun p hp => ?_, fun x y => ?_⟩
  · rw [List.map_append, List.nodup_append]
    refine ⟨h.nk, by simp, fun a ha b hb => ?_⟩
    obtain ⟨p, hp, rfl⟩ := List.mem_map.1 ha
    simp only [List.map_cons, List.map_nil, List.mem_singleton] at hb
    subst hb
    exact hno p hp
  · rw [List.map_append, List.nodup_append]
    refine ⟨h.nb, by simp, fun a ha b hb => ?_⟩
    obtain ⟨p, hp, rfl⟩ := List.mem_map.1 ha
    simp only [List.map_cons, List.map_nil, List.mem_singleton] at hb
    subst hb
    have := h.lt p hp
    omega
  · rcases List.mem_append.1 hp with hp | hp
    · have := h.lt p hp; omega
    · simp only [List.mem_singleton] at hp; subst hp; simp
  · unfold updF
    by_cases hx : x = k
    · subst hx
      rw [if_pos rfl]
      constructor
      · intro hh; cases hh; exact ⟨ck, by simp⟩
      · rintro ⟨b, hb⟩
        rcases List.mem_append.1 hb with hb | hb
        · exact absurd rfl (hno _ hb)
        · simp only [List.mem_singleton, Prod.mk.injEq] at hb; rw [hb.2.1]
    · rw [if_neg hx, h.is]
      constructor
      · rintro ⟨b, hb⟩; exact ⟨b, List.mem_append_left _ hb⟩
      · rintro ⟨b, hb⟩
        rcases List.mem_append.1 hb with hb | hb
        · exact ⟨b, hb⟩
        · simp only [List.mem_singleton, Prod.mk.injEq] at hb; exact absurd hb.1 hx
theorem MD.drop {D : List E3} {ck j k b : Nat} {u : Value} {g : Nat → Option Value} (h : MD D ck g) (hj : D[j]? = some (k, u, b)) : MD (D.eraseIdx j) ck (updF g k none) := by
  refine ⟨h.nk.sublist ((List.eraseIdx_sublist ..).map _), h.nb.sublist ((List.eraseIdx_sublist ..).map _), fun p hp => h.lt p (List.mem_of_mem_eraseIdx hp), fun x y => ?_⟩
  unfold updF
  by_cases hx : x = k
  · subst hx
    rw [if_pos rfl]
    constructor
    · intro hh; cases hh
    · rintro ⟨b', hb'⟩
      rw [List.mem_eraseIdx_iff_getElem?] at hb'
      obtain ⟨i, hij, hi⟩ := hb'
      exact absurd (h.same hi hj rfl) hij
  · rw [if_neg hx, h.is]
    constructor
    · rintro ⟨b', hb'⟩
      obtain ⟨i, hi⟩ := List.mem_iff_getElem?.1 hb'
      refine ⟨b', ?_⟩
      rw [List.mem_eraseIdx_iff_getElem?]
      refine ⟨i, fun hij => ?_, hi⟩
      subst hij
      rw [hj] at hi
      simp only [Option.some.injEq, Prod.mk.injEq] at hi
      exact hx hi.1.symm
    · rintro ⟨b', hb'⟩; exact ⟨b', List.mem_of_mem_eraseIdx hb'⟩
theorem updF_same {g : Nat → Option Value} {k : Nat} (h : g k = none) : updF g k none = g := by
  funext x; unfold updF; split
  · subst_vars; exact h.symm
  · rfl
section
variable {P : Program} {o : Oper} {a : Slots} {L : RL} {x y z : Operand} {t kt et : TypeId} {r ck k : Nat} {es : List MapEntry} {g : Nat → Option Value}
theorem e_get2 {zv : Value} (hM : MP es ck g) (hm : (r, .map es ck) ∈ L) (ho : o.op = .lookup t x y true) (hx : aev a x = some (.map (some r))) (hy : aev a y = some (.int .i64 (k : Nat))) (ht : P.underlying t = some (.map kt et)) (hk : ∀ n : Int, isKeyB P kt (.int .i64 n) = true) (hz : zeroVB P et = some zv) :
    ∀ h, Has h L → opB P a o h = some (.val (.tuple #[(g k).getD zv, .bool (g k).isSome]) h) := by
  intro h H
  obtain ⟨D, rfl, hD⟩ := hM
  have hg : h.get r = some (.map (D.map ent) ck) := H.get _ hm
  have e : lookupB P t (.map (some r)) (.int .i64 (k : Nat)) true h = some (.tuple #[(g k).getD zv, .bool (g k).isSome]) := by
    unfold lookupB entriesB
    simp only [ht, hk, hg]
    cases hgk : g k with
    | none => rw [find_no (hD.no hgk)]; simp only [hz]; rfl
    | some v =>
      obtain ⟨j, b, hj⟩ := hD.at hgk
      rw [find_is hD.nk hj]; rfl
  simp only [opB, ho, hx, hy, e, ret]
theorem OS.mapPut {ops rest : List Oper} {K : Slots → RL → Prop} {a₁ : Slots} (i : Nat) {v : Value} (hM : MP es ck g) (hw : wantedB ops o a = true) (ho : o.op = .mapUpdate t x y z) (hx : aev a x = some (.map (some r))) (hy : aev a y = some (.int .i64 (k : Nat))) (hz : aev a z = some v) (ht : P.underlying t = some (.map kt et)) (hk : ∀ n : Int, isKeyB P kt (.int .i64 n) = true)
    (hL : L[i]? = some (r, .map es ck)) (ep : putAt a o.dst undef = some a₁) (hk2 : ∀ es' ck', MP es' ck' (updF g k (some v)) → ∃ L₁, setL L i (r, .map es' ck') = some L₁ ∧ OS P ops rest a₁ L₁ K) : OS P ops (o :: rest) a L K := by
  obtain ⟨D, rfl, hD⟩ := hM
  cases hgk : g k with
  | none =>
    obtain ⟨L₁, hs, k2⟩ := hk2 ((D ++ [(k, v, ck)]).map ent) (ck + 1) ⟨_, rfl, hD.add hgk⟩
    refine OS.write hw (e_mapUpdate i ho hx hy hz ht (hk _) hL ?_ hs) ep k2
    rw [find_no (hD.no hgk), addE_is, List.map_append]; rfl
  | some u =>
    obtain ⟨j, b, hj⟩ := hD.at hgk
    obtain ⟨L₁, hs, k2⟩ := hk2 ((D.set j (k, v, b)).map ent) ck ⟨_, rfl, hD.set hj⟩
    refine OS.write hw (e_mapUpdate i ho hx hy hz ht (hk _) hL ?_ hs) ep k2
    rw [find_is (i := 0) hD.nk hj, Nat.zero_add]
    simp only [setE_is hj]
theorem OS.mapDel {ops rest : List Oper} {K : Slots → RL → Prop} {a₁ : Slots} (i : Nat) {c : Call} {tm : TypeId} (hM : MP es ck g) (hw : wantedB ops o a = true) (ho : o.op = .call c) (hc : c.callee = .builtin .delete) (ha : evs a c.args.toList = some [.map (some r), .int .i64 (k : Nat)]) (ht : c.argTypes[0]? = some tm) (hu : P.underlying tm = some (.map kt et)) (hk : ∀ n : Int, isKeyB P kt (.int .i64 n) = true)
    (hL : L[i]? = some (r, .map es ck)) (ep : putAt a o.dst (.tuple #[]) = some a₁) (hk2 : ∀ es', MP es' ck (updF g k none) → ∃ L₁, setL L i (r, .map es' ck) = some L₁ ∧ OS P ops rest a₁ L₁ K) : OS P ops (o :: rest) a L K := by
  obtain ⟨D, rfl, hD⟩ := hM
  cases hgk : g k with
  | none =>
    obtain ⟨L₁, hs, k2⟩ := hk2 (D.map ent) ⟨_, rfl, by rw [updF_same hgk]; exact hD⟩
    refine OS.write hw (e_delete i ho hc ha ht hu (hk _) hL ?_ hs) ep k2
    rw [find_no (hD.no hgk)]
  | some u =>
    obtain ⟨j, b, hj⟩ := hD.at hgk
    obtain ⟨L₁, hs, k2⟩ := hk2 ((D.eraseIdx j).map ent) ⟨_, rfl, hD.drop hj⟩
    refine OS.write hw (e_delete i ho hc ha ht hu (hk _) hL ?_ hs) ep k2
    rw [find_is (i := 0) hD.nk hj, Nat.zero_add]
    simp only [dropE_is, erase_map]
end
end Go.Am
namespace Go.Proofs.Yteiiekfccecoiaa
open Go.Am
set_option linter.unusedVariables false
set_option maxRecDepth 20000

/-- A value's id. -/
def wid (v : List Nat × List UInt8) : Nat := v.1[0]?.getD 0
theorem Val.wid {D : List UInt8} {base m : Nat} {v : List Nat × List UInt8} (h : Val D base m v.1 v.2) : v.1[0]? = some (Proofs.Yteiiekfccecoiaa.wid v) := by
  have := need_two v.2.length
  have := h.len
  unfold Proofs.Yteiiekfccecoiaa.wid
  rw [List.getElem?_eq_getElem (by omega)]; rfl
abbrev flw (V : List (List Nat × List UInt8)) : List Nat := V.flatMap (·.1)
abbrev inz (H : List Int) : List Value := H.map fun z => .int .i64 z
/-- Which blocks are taken, by whose they are. -/
def TH (T : List Bool) (H : List Int) : Prop := T = H.map fun z => decide (0 ≤ z)
theorem TH.len {T : List Bool} {H : List Int} (h : TH T H) : T.length = H.length := by rw [h]; simp
theorem TH.tkn {T : List Bool} {H : List Int} (h : TH T H) {i : Nat} {z : Int} (hz : H[i]? = some z) : Z.tkn T i = decide (0 ≤ z) := by
  unfold Z.tkn; rw [h, List.getElem?_map, hz]; rfl
/-- How many are nobody's. -/
def frH (H : List Int) : Nat := H.countP fun z => decide (z < 0)
theorem TH.frees {T : List Bool} {H : List Int} (h : TH T H) : Z.frees T = frH H := by
  unfold Z.frees frH
  rw [h, List.countP_map]
  congr 1
  funext z
  simp only [Function.comp_apply]
  by_cases hz : 0 ≤ z
  · simp [hz] <;> omega
  · simp [hz] <;> omega
theorem TH.of {T : List Bool} {H : List Int} (hl : T.length = H.length) (h : ∀ i z, H[i]? = some z → Z.tkn T i = decide (0 ≤ z)) : TH T H := by
  refine Z.list_ext (by rw [hl]; simp) fun i => ?_
  rcases Nat.lt_or_ge i H.length with hi | hi
  · rw [h i _ (List.getElem?_eq_getElem hi)]
    unfold Z.tkn
    rw [List.getElem?_map, List.getElem?_eq_getElem hi]; rfl
  · rw [Z.tkn_out (by omega), Z.tkn_out (by simp; omega)]
/-- These blocks are one value's. -/
def setAll (H : List Int) (l : List Nat) (z : Int) : List Int := l.foldl (fun H i => H.set i z) H
theorem setAll_len {z : Int} : ∀ {l : List Nat} {H : List Int}, (setAll H l z).length = H.length
  | [], H => rfl
  | x :: l, H => by show (setAll (H.set x z) l z).length = _; rw [setAll_len, List.length_set]
theorem setAll_snoc (H : List Int) (l : List Nat) (x : Nat) (z : Int) : setAll H (l ++ [x]) z = (setAll H l z).set x z := by unfold setAll; rw [List.foldl_append]; rfl
theorem setAll_at {z : Int} : ∀ {l : List Nat} {H : List Int} {i : Nat}, i < H.length → (setAll H l z)[i]? = if i ∈ l then some z else H[i]?
  | [], H, i, _ => by simp [setAll]
  | x :: l, H, i, hi => by
    show (setAll (H.set x z) l z)[i]? = _
    rw [setAll_at (by rw [List.length_set]; exact hi), List.getElem?_set]
    by_cases h1 : i ∈ l
    · rw [if_pos h1, if_pos (List.mem_cons_of_mem _ h1)]
    · rw [if_neg h1]
      by_cases h2 : x = i
      · subst h2; rw [if_pos rfl, if_pos hi, if_pos (List.mem_cons_self ..)]
      · rw [if_neg h2, if_neg (fun h => by rcases List.mem_cons.1 h with h | h; exact h2 h.symm; exact h1 h)]
theorem TH.take {T : List Bool} {H : List Int} {z : Int} (h : TH T H) (hz : 0 ≤ z) : ∀ k, TH (Z.tkT T k) (setAll H (Z.tkL T k) z)
  | 0 => h
  | k + 1 => by
    rw [Z.tkL_succ, setAll_snoc]
    unfold TH
    rw [List.map_set, ← h.take hz k, decide_eq_true hz]
    rfl
/-- No more than this value's. -/
def dropH (H : List Int) (z : Int) : List Int := H.map fun y => if y = z then -1 else y
/-- The values and what the document has of them. -/
structure RX (V : List (List Nat × List UInt8)) (H : List Int) (g : Nat → Option Value) (n : Nat) : Prop where
  len : H.length = n
  own : ∀ v ∈ V, ∀ i ∈ v.1, H[i]? = some (wid v : Int)
  none : ∀ i, i < n → i ∉ flw V → H[i]? = some (-1)
  vals : ∀ v ∈ V, g (wid v) = some (txt v.2)
theorem RX.init (n : Nat) (g : Nat → Option Value) : RX [] (List.replicate n (-1)) g n :=
  ⟨by simp, fun v hv => (by cases hv), fun i hi _ => by simp [hi], fun v hv => (by cases hv)⟩
theorem TH.init (n : Nat) : TH (List.replicate n false) (List.replicate n (-1)) := by unfold TH; simp
theorem flat_one {V : List (List Nat × List UInt8)} (hn : (flw V).Nodup) {v w : List Nat × List UInt8} (hv : v ∈ V) (hw : w ∈ V) {x : Nat} (hxv : x ∈ v.1) (hxw : x ∈ w.1) : v = w := by
  induction V with
  | nil => cases hv
  | cons y V ih =>
    simp only [flw, List.flatMap_cons] at hn
    rw [List.nodup_append] at hn
    rcases List.mem_cons.1 hv with hv' | hv' <;> rcases List.mem_cons.1 hw with hw' | hw'
    · rw [hv', hw']
    · subst hv'; exact absurd rfl (hn.2.2 x hxv x (List.mem_flatMap.2 ⟨w, hw', hxw⟩))
    · subst hw'; exact absurd rfl (hn.2.2 x hxw x (List.mem_flatMap.2 ⟨v, hv', hxv⟩))
    · exact ih hn.2.1 hv' hw'
/-- Who a block's owner is. -/
theorem RX.who {V : List (List Nat × List UInt8)} {H : List Int} {g : Nat → Option Value} {n i k : Nat} (h : RX V H g n) (hi : H[i]? = some (k : Int)) : ∃ v ∈ V, i ∈ v.1 ∧ wid v = k := by
  have hin : i < n := by rw [← h.len]; exact (List.getElem?_eq_some_iff.1 hi).1
  by_cases hm : i ∈ flw V
  · obtain ⟨v, hv, hiv⟩ := List.mem_flatMap.1 hm
    have := h.own v hv i hiv
    rw [hi] at this
    have e := Option.some.inj this
    exact ⟨v, hv, hiv, by omega⟩
  · have := h.none i hin hm
    rw [hi] at this
    have e := Option.some.inj this
    omega
theorem sorted_ext : ∀ {a b : List Nat}, a.Pairwise (· < ·) → b.Pairwise (· < ·) → (∀ x, x ∈ a ↔ x ∈ b) → a = b
  | [], [], _, _, _ => rfl
  | [], y :: b, _, _, h => by have := (h y).2 (List.mem_cons_self ..); cases this
  | x :: a, [], _, _, h => by have := (h x).1 (List.mem_cons_self ..); cases this
  | x :: a, y :: b, ha, hb, h => by
    rw [List.pairwise_cons] at ha hb
    have hxy : x = y := by
      have h1 := (h x).1 (List.mem_cons_self ..)
      have h2 := (h y).2 (List.mem_cons_self ..)
      rcases List.mem_cons.1 h1 with h1 | h1
      · exact h1
      · rcases List.mem_cons.1 h2 with h2 | h2
        · exact h2.symm
        · have := hb.1 x h1
          have := ha.1 y h2
          omega
    subst hxy
    congr 1
    refine sorted_ext ha.2 hb.2 fun z => ?_
    constructor
    · intro hz
      rcases List.mem_cons.1 ((h z).1 (List.mem_cons_of_mem _ hz)) with he | hz2
      · have := ha.1 z hz; omega
      · exact hz2
    · intro hz
      rcases List.mem_cons.1 ((h z).2 (List.mem_cons_of_mem _ hz)) with he | hz2
      · have := hb.1 z hz; omega
      · exact hz2
theorem Rises.sorted {l : List Nat} (h : Rises l) : l.Pairwise (· < ·) := by
  rw [List.pairwise_iff_getElem]
  intro i j hi hj hij
  exact h.lt hij (List.getElem?_eq_getElem hi) (List.getElem?_eq_getElem hj)
/-- The blocks that are one's. -/
def blkH (H : List Int) (k : Nat) : List Nat := (List.range H.length).filter fun i => decide (H[i]? = some (k : Int))
/-- The ids. -/
def idsH (H : List Int) : List Nat := (List.range H.length).filter fun i => decide (H[i]? = some (i : Int))
theorem range_sorted (n : Nat) (p : Nat → Bool) : ((List.range n).filter p).Pairwise (· < ·) := List.Pairwise.filter _ List.pairwise_lt_range
theorem RX.blocks {D : List UInt8} {base : Nat} {T : List Bool} {V : List (List Nat × List UInt8)} {H : List Int} {g : Nat → Option Value} {n : Nat} (h : RX V H g n) (hd : Hd D base T V) {v : List Nat × List UInt8} (hv : v ∈ V) : blkH H (wid v) = v.1 := by
  have hV := hd.val v hv
  refine sorted_ext (range_sorted ..) hV.rises.sorted fun i => ?_
  unfold blkH
  rw [List.mem_filter, List.mem_range, decide_eq_true_iff]
  constructor
  · rintro ⟨_, hi⟩
    obtain ⟨w, hw, hiw, hk⟩ := h.who hi
    have h1 := List.mem_of_getElem? hV.wid
    have h2 := List.mem_of_getElem? (hd.val w hw).wid
    rw [hk] at h2
    rw [flat_one hd.nd hv hw h1 h2]; exact hiw
  · intro hi
    exact ⟨(List.getElem?_eq_some_iff.1 (h.own v hv i hi)).1, h.own v hv i hi⟩
theorem RX.id {D : List UInt8} {base : Nat} {T : List Bool} {V : List (List Nat × List UInt8)} {H : List Int} {g : Nat → Option Value} {n k : Nat} (h : RX V H g n) : k ∈ idsH H → ∃ v ∈ V, wid v = k := fun hk => by
  unfold idsH at hk
  rw [List.mem_filter, List.mem_range, decide_eq_true_iff] at hk
  obtain ⟨v, hv, _, hw⟩ := h.who hk.2
  exact ⟨v, hv, hw⟩
theorem RX.idOf {D : List UInt8} {base : Nat} {T : List Bool} {V : List (List Nat × List UInt8)} {H : List Int} {g : Nat → Option Value} {n : Nat} (h : RX V H g n) (hd : Hd D base T V) {v : List Nat × List UInt8} (hv : v ∈ V) : wid v ∈ idsH H := by
  have := h.own v hv _ (List.mem_of_getElem? (hd.val v hv).wid)
  unfold idsH
  rw [List.mem_filter, List.mem_range, decide_eq_true_iff]
  exact ⟨(List.getElem?_eq_some_iff.1 this).1, this⟩
theorem idsH_nodup (H : List Int) : (idsH H).Nodup := (range_sorted ..).imp (fun h => Nat.ne_of_lt h)
/-- A Put. -/
theorem RX.put {D : List UInt8} {base m : Nat} {T : List Bool} {V : List (List Nat × List UInt8)} {H : List Int} {g : Nat → Option Value} {n : Nat} {data : List UInt8} (h : RX V H g n) (hd : Hd D base T V) (ht : TH T H) (hm : 0 < m) (hf : m ≤ Z.frees T) :
    RX (V ++ [(Z.tkL T m, data)]) (setAll H (Z.tkL T m) (Z.ff T : Nat)) (updF g (Z.ff T) (some (txt data))) n := by
  have hwid : wid (Z.tkL T m, data) = Z.ff T := by unfold wid; rw [tkL_head hm]; rfl
  have hfree := fun x (hx : x ∈ Z.tkL T m) => Z.tkL_free hf hx
  have hff := hfree _ (List.mem_of_getElem? (tkL_head hm))
  have hlen := ht.len
  refine ⟨by rw [setAll_len]; exact h.len, fun v hv i hi => ?_, fun i hi hn => ?_, fun v hv => ?_⟩
  · rcases List.mem_append.1 hv with hv | hv
    · have h1 := h.own v hv i hi
      have h2 := hd.tk i (List.mem_flatMap.2 ⟨v, hv, hi⟩)
      rw [setAll_at (List.getElem?_eq_some_iff.1 h1).1, if_neg (fun hx => ?_)]
      · exact h1
      · rw [(hfree i hx).2] at h2; cases h2
    · rw [List.mem_singleton.1 hv] at hi ⊢
      rw [setAll_at (by rw [← hlen]; exact (hfree i hi).1), if_pos hi, hwid]
  · simp only [flw, List.flatMap_append, List.mem_append, List.flatMap_cons, List.flatMap_nil, List.append_nil, not_or] at hn
    rw [setAll_at (by rw [h.len]; exact hi), if_neg hn.2]
    exact h.none i hi hn.1
  · rcases List.mem_append.1 hv with hv | hv
    · have h2 := hd.tk _ (List.mem_flatMap.2 ⟨v, hv, List.mem_of_getElem? (hd.val v hv).wid⟩)
      unfold updF
      rw [if_neg (fun he => by rw [he, hff.2] at h2; cases h2)]
      exact h.vals v hv
    · rw [List.mem_singleton.1 hv, hwid]
      unfold updF
      rw [if_pos rfl]
/-- A Drop. -/
theorem RX.drop {D : List UInt8} {base : Nat} {T : List Bool} {A B : List (List Nat × List UInt8)} {v : List Nat × List UInt8} {H : List Int} {g : Nat → Option Value} {n : Nat} (h : RX (A ++ v :: B) H g n) (hd : Hd D base T (A ++ v :: B)) :
    RX (A ++ B) (dropH H (wid v : Nat)) (updF g (wid v) Option.none) n := by
  have hin : ∀ w, w ∈ A ++ B → w ∈ A ++ v :: B := fun w hw => by
    rcases List.mem_append.1 hw with hw | hw
    · exact List.mem_append_left _ hw
    · exact List.mem_append_right _ (List.mem_cons_of_mem _ hw)
  have hvm : v ∈ A ++ v :: B := by simp
  have hne : ∀ w ∈ A ++ B, wid w ≠ wid v := fun w hw he => by
    have h1 := List.mem_of_getElem? (hd.val w (hin w hw)).wid
    have h2 := List.mem_of_getElem? (hd.val v hvm).wid
    rw [he] at h1
    have hnd := hd.nd
    simp only [List.flatMap_append, List.flatMap_cons] at hnd
    rw [List.nodup_append, List.nodup_append] at hnd
    obtain ⟨_, ⟨_, _, n4⟩, n5⟩ := hnd
    rcases List.mem_append.1 hw with hw | hw
    · exact n5 _ (List.mem_flatMap.2 ⟨w, hw, h1⟩) _ (List.mem_append_left _ h2) rfl
    · exact n4 _ h2 _ (List.mem_flatMap.2 ⟨w, hw, h1⟩) rfl
  refine ⟨by unfold dropH; rw [List.length_map]; exact h.len, fun w hw i hi => ?_, fun i hi hn => ?_, fun w hw => ?_⟩
  · unfold dropH
    rw [List.getElem?_map, h.own w (hin w hw) i hi, Option.map_some, if_neg (fun he => hne w hw (by omega))]
  · unfold dropH
    by_cases hiv : i ∈ v.1
    · rw [List.getElem?_map, h.own v hvm i hiv, Option.map_some, if_pos rfl]
    · have : i ∉ flw (A ++ v :: B) := fun hm => by
        simp only [flw, List.flatMap_append, List.flatMap_cons, List.mem_append, not_or] at hm hn
        rcases hm with hm | hm | hm
        · exact hn.1 hm
        · exact hiv hm
        · exact hn.2 hm
      rw [List.getElem?_map, h.none i hi this, Option.map_some, if_neg (by omega)]
  · unfold updF
    rw [if_neg (hne w hw)]
    exact h.vals w (hin w hw)
theorem TH.drop {D : List UInt8} {base : Nat} {T : List Bool} {A B : List (List Nat × List UInt8)} {v : List Nat × List UInt8} {H : List Int} {g : Nat → Option Value} {n : Nat} (ht : TH T H) (h : RX (A ++ v :: B) H g n) (hd : Hd D base T (A ++ v :: B)) : TH (Z.giveL T v.1) (dropH H (wid v : Nat)) := by
  have hvm : v ∈ A ++ v :: B := by simp
  have hvl : ∀ x ∈ v.1, x < T.length := fun x hx => hd.lt (List.mem_flatMap.2 ⟨v, hvm, hx⟩)
  refine TH.of (by rw [Z.giveL_len, ht.len]; unfold dropH; simp) fun i z hz => ?_
  unfold dropH at hz
  rw [List.getElem?_map] at hz
  cases hy : H[i]? with
  | none => rw [hy] at hz; cases hz
  | some y =>
    rw [hy, Option.map_some] at hz
    have hz := Option.some.inj hz
    rw [Z.giveL_tkn hvl, ht.tkn hy]
    by_cases hiv : i ∈ v.1
    · have := h.own v hvm i hiv
      rw [hy] at this
      rw [if_pos (Option.some.inj this)] at hz
      subst hz
      simp [hiv]
    · have hne : y ≠ (wid v : Nat) := fun he => by
        obtain ⟨w, hw, hiw, hk⟩ := h.who (by rw [hy, he])
        have h1 := List.mem_of_getElem? (hd.val v hvm).wid
        have h2 := List.mem_of_getElem? (hd.val w hw).wid
        rw [hk] at h2
        have := flat_one hd.nd hvm hw h1 h2
        subst this
        exact hiv hiw
      rw [if_neg hne] at hz
      subst hz
      simp [hiv]
end Go.Proofs.Yteiiekfccecoiaa
