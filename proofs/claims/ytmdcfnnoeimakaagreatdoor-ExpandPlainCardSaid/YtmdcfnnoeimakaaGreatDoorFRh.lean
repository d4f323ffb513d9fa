/- Maps as functions, over keys of one shape. -/
import Derived.Test.YtmdcfnnoeimakaaGreatDoorWg
import Derived.Test.YtmdcfnnoeimakaaGreatDoorYl
import Derived.Test.YtmdcfnnoeimakaaGreatDoorAmR
namespace Go.Am
theorem find_lt {k u : Value} : ∀ (es : List MapEntry) (i m : Nat), findB k es i = some (some (m, u)) → i ≤ m
  | [], i, m, e => by simp [findB] at e
  | x :: es, i, m, e => by
    simp only [findB] at e
    split at e
    · simp only [Option.some.injEq, Prod.mk.injEq] at e; omega
    · have := find_lt es _ _ e; omega
    · cases e
theorem find_setE {k u v : Value} (hk : sameKeyB k k = some true) : ∀ {es : List MapEntry} {i j : Nat}, findB k es i = some (some (i + j, u)) → findB k (setE k v es j) i = some (some (i + j, v))
  | [], i, j, e => by simp [findB] at e
  | x :: es, i, j, e => by
    simp only [findB] at e
    split at e
    · simp only [Option.some.injEq, Prod.mk.injEq] at e
      have : j = 0 := by omega
      subst this
      simp only [setE, findB, hk, Nat.add_zero]
    · rename_i hb
      cases j with
      | zero => exact absurd (find_lt es (i + 1) _ e) (by omega)
      | succ j =>
        simp only [setE, findB, hb]
        have := find_setE (v := v) hk (es := es) (i := i + 1) (j := j) (by rw [e]; congr 3; omega)
        rw [this]; congr 3; omega
    · cases e
theorem find_addE {k v : Value} {c : Nat} (hk : sameKeyB k k = some true) : ∀ {es : List MapEntry} {i : Nat}, findB k es i = some none → findB k (addE ⟨k, v, c⟩ es) i = some (some (i + es.length, v))
  | [], i, _ => by simp [addE, findB, hk]
  | x :: es, i, e => by
    simp only [findB] at e
    split at e
    · cases e
    · rename_i hb
      simp only [addE, findB, hb, find_addE hk e, List.length_cons]
      congr 3; omega
    · cases e
theorem find_setE_ne {k k' u v : Value} (hne : sameKeyB k' k = some false) : ∀ {es : List MapEntry} {i j : Nat}, findB k es i = some (some (i + j, u)) → findB k' (setE k v es j) i = findB k' es i
  | [], i, j, e => by simp [findB] at e
  | x :: es, i, j, e => by
    simp only [findB] at e
    split at e
    · rename_i hb
      simp only [Option.some.injEq, Prod.mk.injEq] at e
      have : j = 0 := by omega
      subst this
      have hx := keyB_true hb
      simp only [setE, findB, hne, hx]
    · rename_i hb
      cases j with
      | zero => exact absurd (find_lt es (i + 1) _ e) (by omega)
      | succ j =>
        simp only [setE, findB]
        rw [find_setE_ne hne (es := es) (i := i + 1) (j := j) (by rw [e]; congr 3; omega)]
    · cases e
theorem find_addE_ne {k k' v : Value} {c : Nat} (hne : sameKeyB k' k = some false) : ∀ {es : List MapEntry} {i : Nat}, findB k' (addE ⟨k, v, c⟩ es) i = findB k' es i
  | [], i => by simp [addE, findB, hne]
  | x :: es, i => by simp only [addE, findB, find_addE_ne hne]
theorem mem_setE {k v : Value} : ∀ {es : List MapEntry} {j : Nat} {e : MapEntry}, e ∈ setE k v es j → e.key = k ∨ e ∈ es
  | [], _, _, h => by cases h
  | x :: es, 0, e, h => by
    rcases List.mem_cons.1 h with rfl | h
    · exact .inl rfl
    · exact .inr (List.mem_cons_of_mem _ h)
  | x :: es, j + 1, e, h => by
    rcases List.mem_cons.1 h with rfl | h
    · exact .inr (List.mem_cons_self ..)
    · exact (mem_setE h).imp id (List.mem_cons_of_mem _)
/-- A map, as the function that it is over keys of a shape. -/
structure MapIs (D : Value → Prop) (es : List MapEntry) (f : Value → Option Value) : Prop where
  keys : ∀ e, e ∈ es → D e.key
  found : ∀ k, D k → (f k = none ∧ findB k es 0 = some none) ∨ ∃ v j, f k = some v ∧ findB k es 0 = some (some (j, v))
/-- Keys of a shape are told apart. -/
def Told2 (D : Value → Prop) : Prop := ∀ k k', D k → D k' → (k = k' ∧ sameKeyB k k' = some true) ∨ (k ≠ k' ∧ sameKeyB k k' = some false)
theorem MapIs.nil {D : Value → Prop} : MapIs D [] fun _ => none := ⟨fun _ h => (by cases h), fun k _ => .inl ⟨rfl, rfl⟩⟩
open Classical in
theorem MapIs.put {D : Value → Prop} {es : List MapEntry} {f : Value → Option Value} {k v : Value} {ck : Nat} (hT : Told2 D) (h : MapIs D es f) (hk : D k) :
    ∃ es2 ck2, (match findB k es 0 with | some (some (j, _)) => some (setE k v es j, ck) | some none => some (addE ⟨k, v, ck⟩ es, ck + 1) | none => none) = some (es2, ck2) ∧ MapIs D es2 fun x => if x = k then some v else f x := by
  have hkk : sameKeyB k k = some true := by
    rcases hT k k hk hk with ⟨_, h⟩ | ⟨h, _⟩
    · exact h
    · exact absurd rfl h
  rcases h.found k hk with ⟨h1, h2⟩ | ⟨u, j, h1, h2⟩
  · refine ⟨addE ⟨k, v, ck⟩ es, ck + 1, by rw [h2], fun e he => ?_, fun x hx => ?_⟩
    · rw [addE_eq] at he
      rcases List.mem_append.1 he with he | he
      · exact h.keys e he
      · simp at he; subst he; exact hk
    · rcases hT x k hx hk with ⟨rfl, _⟩ | ⟨hne, hs⟩
      · exact .inr ⟨v, _, if_pos rfl, find_addE hkk h2⟩
      · rw [if_neg hne, find_addE_ne hs]
        exact h.found x hx
  · refine ⟨setE k v es j, ck, by rw [h2], fun e he => ?_, fun x hx => ?_⟩
    · rcases mem_setE he with h | h'
      · rw [h]; exact hk
      · exact h.keys e h'
    · have h2' : findB k es 0 = some (some (0 + j, u)) := by rw [h2, Nat.zero_add]
      rcases hT x k hx hk with ⟨rfl, _⟩ | ⟨hne, hs⟩
      · exact .inr ⟨v, _, if_pos rfl, find_setE hkk h2'⟩
      · rw [if_neg hne, find_setE_ne hs h2']
        exact h.found x hx
theorem MapIs.put' {D : Value → Prop} {es : List MapEntry} {f : Value → Option Value} {k v : Value} {ck : Nat} (hT : Told2 D) (h : MapIs D es f) (hk : D k) :
    ∃ es2 ck2 f2, (match findB k es 0 with | some (some (j, _)) => some (setE k v es j, ck) | some none => some (addE ⟨k, v, ck⟩ es, ck + 1) | none => none) = some (es2, ck2) ∧ MapIs D es2 f2 ∧ f2 k = some v ∧ ∀ x, x ≠ k → f2 x = f x := by
  obtain ⟨es2, ck2, h1, h2⟩ := MapIs.put (v := v) (ck := ck) hT h hk
  exact ⟨es2, ck2, _, h1, h2, if_pos rfl, fun x hx => if_neg hx⟩
end Go.Am
namespace Go.Am
set_option linter.unusedSimpArgs false
theorem count_sum [DecidableEq (Nat × ARow)] (x : Nat × ARow) : ∀ l : RL, l.count x = (l.map fun y => if y = x then 1 else 0).sum
  | [] => rfl
  | y :: l => by
    rw [List.count_cons, count_sum x l, List.map_cons, List.sum_cons]
    by_cases h : y = x <;> simp [h] <;> omega
/-- The same rows, in another order, and others. -/
theorem Sub.sums2 (D : RL) {A B : RL} (h : ∀ f : Nat × ARow → Nat, (B.map f).sum = (A.map f).sum + (D.map f).sum) : Sub A B := by
  classical
  refine ⟨D, ?_⟩
  letI : BEq (Nat × ARow) := ⟨fun a b => decide (a = b)⟩
  haveI : LawfulBEq (Nat × ARow) := { eq_of_beq := fun h => of_decide_eq_true h, rfl := decide_eq_true rfl }
  rw [List.perm_iff_count]
  intro x
  rw [List.count_append, count_sum, count_sum, count_sum]
  exact h _
theorem Sub.sums {A B : RL} (h : ∀ f : Nat × ARow → Nat, (B.map f).sum = (A.map f).sum) : Sub A B := Sub.sums2 [] fun f => by rw [h f]; simp
theorem Sub.trans {A B C : RL} (h : Sub A B) (k : Sub B C) : Sub A C := by
  obtain ⟨M, p⟩ := h
  obtain ⟨N, q⟩ := k
  exact ⟨M ++ N, q.trans (by simpa using p.append_right N)⟩
theorem GV.appendR {e : TypeId} {sz n : Nat} {F L : RL} {v : Value} {cs : List Value} (X : RL) (g : GV e sz F v n cs L) : GV e sz (F ++ X) v n cs (L ++ X) := by
  rcases g with ⟨rfl, rfl, rfl, rfl⟩ | ⟨r, rfl, hl, rfl⟩
  · exact .inl ⟨rfl, rfl, rfl, rfl⟩
  · exact .inr ⟨r, rfl, hl, rfl⟩
theorem SV.up {sz n : Nat} {F G : RL} {v : Value} {cs : List Value} (h : SV sz F v n cs) (hm : ∀ p, p ∈ F → p ∈ G) : SV sz G v n cs := by
  rcases h with h | ⟨r, off, cap, row, cs₀, h1, h2, h3⟩
  · exact .inl h
  · exact .inr ⟨r, off, cap, row, cs₀, h1, hm _ h2, h3⟩
theorem res_c3 (i : Nat) {P : Program} {a : Slots} {L : RL} {x y z r off : Nat} {t : TypeId} {row : ARow} {cs : List Value} {v u w : Value} (hx : a[x]? = some (.pointer (some ⟨r, off, none⟩))) (hL : L[i]? = some (r, row)) (hc : rdRow row = some cs) (hv : partB P t cs off = some v) (hy : a[y]? = some u) (hz : a[z]? = some w) : ∀ h, Has h L → resultsB P a h [.cell x t, .tmp y, .tmp z] = some [v, u, w] := by
  intro h H
  have hl : loadB P t (.pointer (some ⟨r, off, none⟩)) h = some v := by simp only [loadB, H.read hL hc, hv]
  simp only [resultsB, hx, hl, hy, hz]
theorem SV.form {sz n : Nat} {F : RL} {v : Value} {cs : List Value} (h : SV sz F v n cs) : ∃ A c, v = .slice A n c := by
  rcases h with ⟨rfl, rfl, _⟩ | ⟨r, off, cap, row, cs₀, rfl, _⟩
  · exact ⟨_, _, rfl⟩
  · exact ⟨_, _, rfl⟩
/-- Two results, the first of which lies in a cell. -/
theorem res_cell2 (i : Nat) {P : Program} {a : Slots} {L : RL} {x y r off : Nat} {t : TypeId} {row : ARow} {cs : List Value} {v u : Value} (hx : a[x]? = some (.pointer (some ⟨r, off, none⟩))) (hL : L[i]? = some (r, row)) (hc : rdRow row = some cs) (hv : partB P t cs off = some v) (hy : a[y]? = some u) : ∀ h, Has h L → resultsB P a h [.cell x t, .tmp y] = some [v, u] := by
  intro h H
  have hl : loadB P t (.pointer (some ⟨r, off, none⟩)) h = some v := by simp only [loadB, H.read hL hc, hv]
  simp only [resultsB, hx, hl, hy]
theorem GV.row {e : TypeId} {sz n : Nat} {F L : RL} {v : Value} {cs : List Value} (g : GV e sz F v n cs L) (h : 0 < n) : ∃ r, v = .slice (some ⟨r, 0, none⟩) n openCap ∧ L = (r, .cells e cs) :: F := by
  rcases g with ⟨_, rfl, _⟩ | ⟨r, rfl, _, rfl⟩
  · omega
  · exact ⟨r, rfl, rfl⟩
theorem gv_drop {e : TypeId} {sz n : Nat} {F L : RL} {v : Value} {cs : List Value} (g : GV e sz F v n cs L) : Sub F L := by
  rcases g with ⟨_, _, _, rfl⟩ | ⟨r, _, _, rfl⟩
  · exact ⟨[], by simp⟩
  · exact ⟨[_], List.perm_append_comm (l₁ := [_])⟩
section
variable {P : Program} {o : Oper} {a : Slots} {L L₁ : RL} {x y : Operand} {t z : TypeId}
theorem SV.one {sz n : Nat} {v : Value} {cs : List Value} (h : SV sz L v n cs) : isJ v = false ∧ v.cells.toList = [v] := by
  rcases h with ⟨rfl, rfl, rfl⟩ | ⟨r, off, cap, row, cs₀, rfl, _⟩ <;> exact ⟨rfl, rfl⟩
theorem e_box {v : Value} (ho : o.op = .box t x) (hx : aev a x = some v) (hj : isJ v = false ∧ v.cells.toList = [v]) (hs : (sizeB P t).isSome = true) : ∀ h, Has h L → ∃ r h₁, opB P a o h = some (.val (ptrTo r) h₁) ∧ Has h₁ ((r, .cells t [v]) :: L) :=
  e_new (fun _ => by simp only [opB, ho, hx, hj.1, hj.2]) hs
theorem e_max {c : Call} {k : IntKind} {x y : Int} (ho : o.op = .call c) (hc : c.callee = .builtin .max) (ha : evs a c.args.toList = some [.int k x, .int k y]) : ∀ h, opB P a o h = some (.val (.int k (max x y)) h) := by
  intro h
  by_cases hxy : y ≤ x
  · have : ileB y x = true := ileB_iff.2 hxy
    simp only [opB, ho, ha, callOpB, hc, minB, if_true, this, ret]
    rw [show max x y = x by omega]
  · have : ileB y x = false := by rw [ileB_eq]; simpa using hxy
    simp only [opB, ho, ha, callOpB, hc, minB, if_true, this, ret]
    rw [show max x y = y by omega]
theorem e_min {c : Call} {k : IntKind} {x y : Int} (ho : o.op = .call c) (hc : c.callee = .builtin .min) (ha : evs a c.args.toList = some [.int k x, .int k y]) : ∀ h, opB P a o h = some (.val (.int k (min x y)) h) := by
  intro h
  by_cases hxy : x ≤ y
  · have : ileB x y = true := ileB_iff.2 hxy
    simp only [opB, ho, ha, callOpB, hc, minB, if_true, this, ret]
    rw [show min x y = x by omega]
  · have : ileB x y = false := by rw [ileB_eq]; simpa using hxy
    simp only [opB, ho, ha, callOpB, hc, minB, if_true, this, ret]
    rw [show min x y = y by omega]
end
section
variable {P : Program} {a : Slots} {o : Oper} {t z : TypeId} {x y : Operand} {k : IntKind} {m n : Nat}
theorem e_mulN (ho : o.op = .binOp .mul t x y z) (hx : aev a x = some (.int k (m : Int))) (hy : aev a y = some (.int k (n : Int))) (hi : inK k ((m * n : Nat) : Int) = true) : ∀ h, opB P a o h = some (.val (.int k ((m * n : Nat) : Int)) h) := by
  rw [Int.natCast_mul] at hi ⊢
  exact e_mul ho hx hy hi
theorem e_addN (ho : o.op = .binOp .add t x y z) (hx : aev a x = some (.int k (m : Int))) (hy : aev a y = some (.int k (n : Int))) (hi : inK k ((m + n : Nat) : Int) = true) : ∀ h, opB P a o h = some (.val (.int k ((m + n : Nat) : Int)) h) := by
  rw [Int.natCast_add] at hi ⊢
  exact e_add ho hx hy hi
theorem e_subN (ho : o.op = .binOp .sub t x y z) (hx : aev a x = some (.int k (m : Int))) (hy : aev a y = some (.int k (n : Int))) (hle : n ≤ m) (hi : inK k ((m - n : Nat) : Int) = true) : ∀ h, opB P a o h = some (.val (.int k ((m - n : Nat) : Int)) h) := by
  rw [Int.natCast_sub hle] at hi ⊢
  exact e_sub ho hx hy hi
end
theorem Sub.drops (k : Nat) {L M : RL} (h : L = M.drop k) : Sub L M := by
  subst h
  refine ⟨M.take k, ?_⟩
  have h := List.perm_append_comm (l₁ := M.take k) (l₂ := M.drop k)
  rw [List.take_append_drop] at h
  exact h
end Go.Am
namespace Go.Proofs.YtmdcfnnoeimakaaGreatDoor
open Go.Am
abbrev W := List UInt8
theorem cmp_u8 (c : UInt8) {k : Int} (k' : UInt8) (hk : k = (k'.toNat : Nat)) : ieqB (c.toNat : Nat) k = (c == k') := by
  rw [ieqB_eq, Bool.eq_iff_iff, hk]
  simp [← UInt8.toNat_inj]; omega
theorem eq_u8 (c d : UInt8) : ieqB (c.toNat : Nat) (d.toNat : Nat) = (c == d) := cmp_u8 c d rfl
theorem beq_bytes (x y : List UInt8) : bytesEq x y = decide (x = y) := by rw [bytesEq_eq, Bool.eq_iff_iff]; simp
end Go.Proofs.YtmdcfnnoeimakaaGreatDoor
