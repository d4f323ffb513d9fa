/- Layer 14: a builder of bytes, texts in lists. -/
import Derived.Test.YtllcbjaajffaeaaYl
import Derived.Test.YtllcbjaajffaeaaMa
import Derived.Test.YtllcbjaajffaeaaProg
import Derived.Lib.Bytealg
import Derived.KernelRfl
namespace Go.Am
set_option linter.unusedSimpArgs false
section
variable {P : Program} {o : Oper} {a : Slots} {L L₁ : RL} {x y : Operand} {t : TypeId}
/-- Two pointers to one place differ not. -/
theorem e_nep2 {el z : TypeId} {r n : Nat} (ho : o.op = .binOp .neq t x y z) (hx : aev a x = some (.pointer (some ⟨r, 0, none⟩))) (hy : aev a y = some (.pointer (some ⟨r, 0, none⟩))) (ht : P.underlying t = some (.pointer el)) (hz : sizeB P el = some n) :
    ∀ h, opB P a o h = some (.val (.bool false) h) := by
  intro h
  have hr : (Nat.beq r r && Nat.beq 0 0) = true := by simp
  have e : eqB P 100 t (.pointer (some ⟨r, 0, none⟩)) (.pointer (some ⟨r, 0, none⟩)) = some true := by
    unfold eqB
    simp only [ht, hz, hr]
  simp only [opB, ho, hx, hy, eqOk, binB, e, ret, if_true]
  rfl
end
theorem Sub.tail {x : Nat × ARow} {L : RL} : Sub L (x :: L) := ⟨[x], by simpa using (List.perm_append_comm (l₁ := [x]) (l₂ := L))⟩
theorem count_sum [DecidableEq (Nat × ARow)] (x : Nat × ARow) : ∀ l : RL, l.count x = (l.map fun y => if y = x then 1 else 0).sum
  | [] => rfl
  | y :: l => by
    rw [List.count_cons, count_sum x l, List.map_cons, List.sum_cons]
    by_cases h : y = x <;> simp [h] <;> omega
/-- The same rows, in another order, and others. -/
theorem Sub.sums2 (D : RL) {A B : RL} (h : ∀ f : Nat × ARow → Nat, (B.map f).sum = (A.map f).sum + (D.map f).sum) : Sub A B := by
  classical
  refine ⟨D, ?_⟩
  letI : BEq (Nat × ARow) := ⟨fun a b => decide (a = b)⟩
  haveI : LawfulBEq (Nat × ARow) := { eq_of_beq := fun h => of_decide_eq_true h, rfl := decide_eq_true rfl }
  rw [List.perm_iff_count]
  intro x
  rw [List.count_append, count_sum, count_sum, count_sum]
  exact h _
theorem Sub.sums {A B : RL} (h : ∀ f : Nat × ARow → Nat, (B.map f).sum = (A.map f).sum) : Sub A B := Sub.sums2 [] fun f => by rw [h f]; simp
theorem Sub.trans {A B C : RL} (h : Sub A B) (k : Sub B C) : Sub A C := by
  obtain ⟨M, p⟩ := h
  obtain ⟨N, q⟩ := k
  exact ⟨M ++ N, q.trans (by simpa using p.append_right N)⟩
theorem GV.appendR {e : TypeId} {sz n : Nat} {F L : RL} {v : Value} {cs : List Value} (X : RL) (g : GV e sz F v n cs L) : GV e sz (F ++ X) v n cs (L ++ X) := by
  rcases g with ⟨rfl, rfl, rfl, rfl⟩ | ⟨r, rfl, hl, rfl⟩
  · exact .inl ⟨rfl, rfl, rfl, rfl⟩
  · exact .inr ⟨r, rfl, hl, rfl⟩
theorem SV.up {sz n : Nat} {F G : RL} {v : Value} {cs : List Value} (h : SV sz F v n cs) (hm : ∀ p, p ∈ F → p ∈ G) : SV sz G v n cs := by
  rcases h with h | ⟨r, off, cap, row, cs₀, h1, h2, h3⟩
  · exact .inl h
  · exact .inr ⟨r, off, cap, row, cs₀, h1, hm _ h2, h3⟩
theorem res_c3 (i : Nat) {P : Program} {a : Slots} {L : RL} {x y z r off : Nat} {t : TypeId} {row : ARow} {cs : List Value} {v u w : Value} (hx : a[x]? = some (.pointer (some ⟨r, off, none⟩))) (hL : L[i]? = some (r, row)) (hc : rdRow row = some cs) (hv : partB P t cs off = some v) (hy : a[y]? = some u) (hz : a[z]? = some w) : ∀ h, Has h L → resultsB P a h [.cell x t, .tmp y, .tmp z] = some [v, u, w] := by
  intro h H
  have hl : loadB P t (.pointer (some ⟨r, off, none⟩)) h = some v := by simp only [loadB, H.read hL hc, hv]
  simp only [resultsB, hx, hl, hy, hz]
theorem SV.form {sz n : Nat} {F : RL} {v : Value} {cs : List Value} (h : SV sz F v n cs) : ∃ A c, v = .slice A n c := by
  rcases h with ⟨rfl, rfl, _⟩ | ⟨r, off, cap, row, cs₀, rfl, _⟩
  · exact ⟨_, _, rfl⟩
  · exact ⟨_, _, rfl⟩
/-- Two results, the first of which lies in a cell. -/
theorem res_cell2 (i : Nat) {P : Program} {a : Slots} {L : RL} {x y r off : Nat} {t : TypeId} {row : ARow} {cs : List Value} {v u : Value} (hx : a[x]? = some (.pointer (some ⟨r, off, none⟩))) (hL : L[i]? = some (r, row)) (hc : rdRow row = some cs) (hv : partB P t cs off = some v) (hy : a[y]? = some u) : ∀ h, Has h L → resultsB P a h [.cell x t, .tmp y] = some [v, u] := by
  intro h H
  have hl : loadB P t (.pointer (some ⟨r, off, none⟩)) h = some v := by simp only [loadB, H.read hL hc, hv]
  simp only [resultsB, hx, hl, hy]
theorem GV.row {e : TypeId} {sz n : Nat} {F L : RL} {v : Value} {cs : List Value} (g : GV e sz F v n cs L) (h : 0 < n) : ∃ r, v = .slice (some ⟨r, 0, none⟩) n openCap ∧ L = (r, .cells e cs) :: F := by
  rcases g with ⟨_, rfl, _⟩ | ⟨r, rfl, _, rfl⟩
  · omega
  · exact ⟨r, rfl, rfl⟩
theorem gv_drop {e : TypeId} {sz n : Nat} {F L : RL} {v : Value} {cs : List Value} (g : GV e sz F v n cs L) : Sub F L := by
  rcases g with ⟨_, _, _, rfl⟩ | ⟨r, _, _, rfl⟩
  · exact ⟨[], by simp⟩
  · exact ⟨[_], List.perm_append_comm (l₁ := [_])⟩
section
variable {P : Program} {o : Oper} {a : Slots} {L L₁ : RL} {x y : Operand} {t z : TypeId}
theorem SV.one {sz n : Nat} {v : Value} {cs : List Value} (h : SV sz L v n cs) : isJ v = false ∧ v.cells.toList = [v] := by
  rcases h with ⟨rfl, rfl, rfl⟩ | ⟨r, off, cap, row, cs₀, rfl, _⟩ <;> exact ⟨rfl, rfl⟩
theorem e_box {v : Value} (ho : o.op = .box t x) (hx : aev a x = some v) (hj : isJ v = false ∧ v.cells.toList = [v]) (hs : (sizeB P t).isSome = true) : ∀ h, Has h L → ∃ r h₁, opB P a o h = some (.val (ptrTo r) h₁) ∧ Has h₁ ((r, .cells t [v]) :: L) :=
  e_new (fun _ => by simp only [opB, ho, hx, hj.1, hj.2]) hs
theorem e_max {c : Call} {k : IntKind} {x y : Int} (ho : o.op = .call c) (hc : c.callee = .builtin .max) (ha : evs a c.args.toList = some [.int k x, .int k y]) : ∀ h, opB P a o h = some (.val (.int k (max x y)) h) := by
  intro h
  by_cases hxy : y ≤ x
  · have : ileB y x = true := ileB_iff.2 hxy
    simp only [opB, ho, ha, callOpB, hc, minB, if_true, this, ret]
    rw [show max x y = x by omega]
  · have : ileB y x = false := by rw [ileB_eq]; simpa using hxy
    simp only [opB, ho, ha, callOpB, hc, minB, if_true, this, ret]
    rw [show max x y = y by omega]
theorem e_min {c : Call} {k : IntKind} {x y : Int} (ho : o.op = .call c) (hc : c.callee = .builtin .min) (ha : evs a c.args.toList = some [.int k x, .int k y]) : ∀ h, opB P a o h = some (.val (.int k (min x y)) h) := by
  intro h
  by_cases hxy : x ≤ y
  · have : ileB x y = true := ileB_iff.2 hxy
    simp only [opB, ho, ha, callOpB, hc, minB, if_true, this, ret]
    rw [show min x y = x by omega]
  · have : ileB x y = false := by rw [ileB_eq]; simpa using hxy
    simp only [opB, ho, ha, callOpB, hc, minB, if_true, this, ret]
    rw [show min x y = y by omega]
end
section
variable {P : Program} {a : Slots} {o : Oper} {t z : TypeId} {x y : Operand} {k : IntKind} {m n : Nat}
theorem e_mulN (ho : o.op = .binOp .mul t x y z) (hx : aev a x = some (.int k (m : Int))) (hy : aev a y = some (.int k (n : Int))) (hi : inK k ((m * n : Nat) : Int) = true) : ∀ h, opB P a o h = some (.val (.int k ((m * n : Nat) : Int)) h) := by
  rw [Int.natCast_mul] at hi ⊢
  exact e_mul ho hx hy hi
theorem e_addN (ho : o.op = .binOp .add t x y z) (hx : aev a x = some (.int k (m : Int))) (hy : aev a y = some (.int k (n : Int))) (hi : inK k ((m + n : Nat) : Int) = true) : ∀ h, opB P a o h = some (.val (.int k ((m + n : Nat) : Int)) h) := by
  rw [Int.natCast_add] at hi ⊢
  exact e_add ho hx hy hi
theorem e_subN (ho : o.op = .binOp .sub t x y z) (hx : aev a x = some (.int k (m : Int))) (hy : aev a y = some (.int k (n : Int))) (hle : n ≤ m) (hi : inK k ((m - n : Nat) : Int) = true) : ∀ h, opB P a o h = some (.val (.int k ((m - n : Nat) : Int)) h) := by
  rw [Int.natCast_sub hle] at hi ⊢
  exact e_sub ho hx hy hi
end
theorem Sub.drops (k : Nat) {L M : RL} (h : L = M.drop k) : Sub L M := by
  subst h
  refine ⟨M.take k, ?_⟩
  have h := List.perm_append_comm (l₁ := M.take k) (l₂ := M.drop k)
  rw [List.take_append_drop] at h
  exact h
end Go.Am
namespace Go.Proofs.Ytllcbjaajffaeaa
set_option linter.unusedSimpArgs false
open Go.Am
set_option linter.unusedVariables false
set_option maxRecDepth 20000
theorem noGo : Am.noGo Try.prog = true := by kernel_rfl
theorem mixed : Try.prog.follows .mixedOrders = true := by kernel_rfl
abbrev ptr (r : Nat) : Value := .pointer (some ⟨r, 0, none⟩)
abbrev str (s : List UInt8) : Value := .string ⟨⟨s⟩⟩
abbrev W := List UInt8
theorem is_u8 {c : UInt8} {k : Int} (k' : UInt8) (h : ieqB (c.toNat : Nat) k = true) (hk : k = (k'.toNat : Nat)) : c = k' := by
  have := eq_of h
  rw [hk] at this
  exact UInt8.toNat_inj.1 (by omega)
theorem not_u8 {c : UInt8} {k : Int} (k' : UInt8) (h : ieqB (c.toNat : Nat) k = false) (hk : k = (k'.toNat : Nat)) : c ≠ k' := fun e => neq_of h (by rw [hk, e])
theorem cmp_u8 (c : UInt8) {k : Int} (k' : UInt8) (hk : k = (k'.toNat : Nat)) : ieqB (c.toNat : Nat) k = (c == k') := by
  rw [ieqB_eq, Bool.eq_iff_iff, hk]
  simp [← UInt8.toNat_inj]; omega
theorem eq_u8 (c d : UInt8) : ieqB (c.toNat : Nat) (d.toNat : Nat) = (c == d) := cmp_u8 c d rfl
theorem beq_bytes (x y : List UInt8) : bytesEq x y = decide (x = y) := by rw [bytesEq_eq, Bool.eq_iff_iff]; simp

def strs (ws : List (List UInt8)) : List Value := ws.map fun w => str w
theorem strs_len (ws : List (List UInt8)) : (strs ws).length = ws.length := by simp [strs]
theorem strs_at {ws : List (List UInt8)} {j : Nat} {w : List UInt8} (h : ws[j]? = some w) : (strs ws)[j]? = some (str w) := by simp [strs, h]
theorem strs_snoc (ws : List (List UInt8)) (w : List UInt8) : strs (ws ++ [w]) = strs ws ++ [str w] := by simp [strs]
theorem strs_one : ∀ ws : List (List UInt8), allOne (strs ws) = true
  | [] => rfl
  | w :: ws => by simp only [strs, List.map_cons, allOne]; exact strs_one ws
theorem ext_list {A : Type} {l : List A} {k : Nat} (h : k < l.length) : ∃ x, l[k]? = some x := ⟨_, List.getElem?_eq_getElem h⟩
theorem take_one {A : Type} {l : List A} {k : Nat} {x : A} (h : l[k]? = some x) : l.take (k + 1) = l.take k ++ [x] := by
  rw [List.take_add_one, h]; rfl
theorem noEscape_ext (v : Value) : Ext Try.prog 57 [v] v := by
  refine ⟨_, Extern.AbiNoEscape.same, rfl, by kernel_rfl, by kernel_rfl, by kernel_rfl, by kernel_rfl, fun ρ us w h => ?_⟩
  cases h with
  | cons h1 h2 =>
    cases h2
    exact ⟨_, rfl, h1⟩
abbrev bu (p v : Value) : ARow := .cells 74 [p, v]
/-- A builder that holds these bytes, ahead of others: nothing yet, or bytes in a row of its own. -/
def BD (b : Nat) (bs : List UInt8) (F L : RL) : Prop :=
  (bs = [] ∧ L = (b, bu (.pointer none) (.slice none 0 0)) :: F) ∨
  (bs ≠ [] ∧ ∃ r, L = (r, .cells 5 (byteCells bs)) :: (b, bu (ptr b) (.slice (some ⟨r, 0, none⟩) bs.length openCap)) :: F)
theorem WriteByte_ct {F L : RL} {b : Nat} {bs : List UInt8} (c : UInt8) (hB : BD b bs F L) (hn : bs.length ≤ 100000000000000) : CS Try.prog 37 [ptr b, .int .u8 (c.toNat : Nat)] L fun v L' => v = .nilIface ∧ BD b (bs ++ [c]) F L' := by
  have hc1 : [Value.int .u8 (c.toNat : Nat)] = byteCells [c] := rfl
  rcases hB with ⟨rfl, rfl⟩ | ⟨h0, r, rfl⟩
  · have key : CS Try.prog 50 [ptr b] ((b, bu (.pointer none) (.slice none 0 0)) :: F) fun v L' => L' = (b, bu (ptr b) (.slice none 0 0)) :: F := by
      refine CS.mk (fn := Try.f50) rfl rfl rfl rfl ?_
      repeat refine LS.seq ?_
      refine LS.region rfl ?_
      refine OS.pure rfl (fun _ => rfl) rfl ?_
      refine OS.pure rfl (fun _ => rfl) rfl ?_
      refine OS.pure rfl (fun _ => rfl) rfl ?_
      refine OS.read rfl (e_load 0 rfl rfl rfl rfl rfl) rfl ?_
      refine OS.pure rfl (fun _ => rfl) rfl ?_
      refine OS.nil ?_
      repeat refine LS.seq ?_
      refine LS.cond rfl (fun hc => ?_) (fun hc => ?_)
      · repeat refine LS.seq ?_
        refine LS.region rfl ?_
        refine OS.pure rfl (fun _ => rfl) rfl ?_
        refine OS.pure rfl (fun _ => rfl) rfl ?_
        refine OS.read rfl (e_toUnsafe 0 (n := 1) rfl rfl rfl rfl rfl rfl (by decide)) rfl ?_
        refine OS.ext (noEscape_ext (ptr b)) rfl (fun _ => rfl) rfl ?_
        refine OS.read rfl (e_fromUnsafe 0 (n := 1) rfl rfl rfl rfl rfl rfl (by kernel_rfl) (by decide)) rfl ?_
        refine OS.pure rfl (fun _ => rfl) rfl ?_
        refine OS.pure rfl (fun _ => rfl) rfl ?_
        refine OS.write rfl (e_store 0 rfl rfl rfl rfl rfl rfl rfl rfl) rfl ?_
        refine OS.nil ?_
        refine ⟨_, fun _ _ => rfl, ?_⟩
        rfl
      · cases hc
    refine CS.mk (fn := Try.f37) rfl rfl rfl rfl ?_
    repeat refine LS.seq ?_
    refine LS.region rfl ?_
    refine OS.pure rfl (fun _ => rfl) rfl ?_
    refine OS.nil ?_
    repeat refine LS.seq ?_
    refine LS.region rfl ?_
    refine OS.pure rfl (fun _ => rfl) rfl ?_
    refine OS.call noGo rfl (fun _ => rfl) ((key).mono ?_)
    rintro v L' rfl
    refine ⟨_, rfl, ?_⟩
    refine OS.nil ?_
    repeat refine LS.seq ?_
    refine LS.region rfl ?_
    refine OS.pure rfl (fun _ => rfl) rfl ?_
    refine OS.pure rfl (fun _ => rfl) rfl ?_
    refine OS.pure rfl (fun _ => rfl) rfl ?_
    refine OS.pure rfl (fun _ => rfl) rfl ?_
    refine OS.read rfl (e_load 0 rfl rfl rfl rfl rfl) rfl ?_
    refine OS.pure rfl (fun _ => rfl) rfl ?_
    refine OS.fresh rfl (e_new (fun _ => rfl) rfl) (fun _ => rfl) (fun r2 => ?_)
    refine OS.fresh rfl (e_appendGV [(r2, _)] (F := (b, bu (ptr b) (.slice none 0 0)) :: F) (e := 5) (m := 1) (sz := 1) (bts := 1) GV.nil (SV.row (sz := 1) (n := 1) (List.mem_cons_self ..) rfl) (by omega) rfl rfl rfl rfl (by omega) (by omega)) (fun _ => rfl) (fun r3 => ?_)
    refine OS.pure rfl (fun _ => rfl) rfl ?_
    refine OS.pure rfl (fun _ => rfl) rfl ?_
    refine OS.write rfl (e_store 2 rfl rfl rfl rfl rfl rfl rfl rfl) rfl ?_
    refine OS.sub (Sub.drop 1 rfl) ?_
    refine OS.nil ?_
    repeat refine LS.seq ?_
    refine LS.region rfl ?_
    refine OS.pure rfl (fun _ => rfl) rfl ?_
    refine OS.nil ?_
    refine LS.ret ⟨_, fun _ _ => rfl, ?_⟩
    exact ⟨rfl, .inr ⟨by simp, r3, rfl⟩⟩
  · have key : CS Try.prog 50 [ptr b] ((r, .cells 5 (byteCells bs)) :: (b, bu (ptr b) (.slice (some ⟨r, 0, none⟩) bs.length openCap)) :: F) fun v L' => L' = (r, .cells 5 (byteCells bs)) :: (b, bu (ptr b) (.slice (some ⟨r, 0, none⟩) bs.length openCap)) :: F := by
      refine CS.mk (fn := Try.f50) rfl rfl rfl rfl ?_
      repeat refine LS.seq ?_
      refine LS.region rfl ?_
      refine OS.pure rfl (fun _ => rfl) rfl ?_
      refine OS.pure rfl (fun _ => rfl) rfl ?_
      refine OS.pure rfl (fun _ => rfl) rfl ?_
      refine OS.read rfl (e_load 1 rfl rfl rfl rfl rfl) rfl ?_
      refine OS.pure rfl (fun _ => rfl) rfl ?_
      refine OS.nil ?_
      repeat refine LS.seq ?_
      refine LS.cond rfl (fun hc => ?_) (fun hc => ?_)
      · cases hc
      · repeat refine LS.seq ?_
        refine LS.region rfl ?_
        refine OS.pure rfl (fun _ => rfl) rfl ?_
        refine OS.pure rfl (fun _ => rfl) rfl ?_
        refine OS.pure rfl (fun _ => rfl) rfl ?_
        refine OS.read rfl (e_load 1 rfl rfl rfl rfl rfl) rfl ?_
        refine OS.pure rfl (fun _ => rfl) rfl ?_
        refine OS.pure rfl (e_nep2 rfl rfl rfl rfl rfl) rfl ?_
        refine OS.nil ?_
        repeat refine LS.seq ?_
        refine LS.cond rfl (fun hc => ?_) (fun hc => ?_)
        · cases hc
        · refine LS.skip ⟨_, fun _ _ => rfl, ?_⟩
          rfl
    refine CS.mk (fn := Try.f37) rfl rfl rfl rfl ?_
    repeat refine LS.seq ?_
    refine LS.region rfl ?_
    refine OS.pure rfl (fun _ => rfl) rfl ?_
    refine OS.nil ?_
    repeat refine LS.seq ?_
    refine LS.region rfl ?_
    refine OS.pure rfl (fun _ => rfl) rfl ?_
    refine OS.call noGo rfl (fun _ => rfl) ((key).mono ?_)
    rintro v L' rfl
    refine ⟨_, rfl, ?_⟩
    refine OS.nil ?_
    repeat refine LS.seq ?_
    refine LS.region rfl ?_
    refine OS.pure rfl (fun _ => rfl) rfl ?_
    refine OS.pure rfl (fun _ => rfl) rfl ?_
    refine OS.pure rfl (fun _ => rfl) rfl ?_
    refine OS.pure rfl (fun _ => rfl) rfl ?_
    refine OS.read rfl (e_load 1 rfl rfl rfl rfl rfl) rfl ?_
    refine OS.pure rfl (fun _ => rfl) rfl ?_
    refine OS.fresh rfl (e_new (fun _ => rfl) rfl) (fun _ => rfl) (fun r2 => ?_)
    refine OS.fresh rfl (e_appendGV [(r2, _)] (F := (b, bu (ptr b) (.slice (some ⟨r, 0, none⟩) bs.length openCap)) :: F) (e := 5) (cs := byteCells bs) (n := bs.length) (m := 1) (sz := 1) (bts := 1) (GV.of (by rw [byteCells_len]; omega)) (SV.row (sz := 1) (n := 1) (List.mem_cons_self ..) rfl) (by omega) rfl rfl rfl rfl (by omega) (by omega)) (fun _ => rfl) (fun r3 => ?_)
    refine OS.pure rfl (fun _ => rfl) rfl ?_
    refine OS.pure rfl (fun _ => rfl) rfl ?_
    refine OS.write rfl (e_store 2 rfl rfl rfl rfl rfl rfl rfl rfl) rfl ?_
    refine OS.sub (Sub.drop 1 rfl) ?_
    refine OS.nil ?_
    repeat refine LS.seq ?_
    refine LS.region rfl ?_
    refine OS.pure rfl (fun _ => rfl) rfl ?_
    refine OS.nil ?_
    refine LS.ret ⟨_, fun _ _ => rfl, ?_⟩
    refine ⟨rfl, .inr ⟨by simp, r3, ?_⟩⟩
    rw [byteCells_append, List.length_append]; rfl
theorem String_ct {F L : RL} {b : Nat} {bs : List UInt8} (hB : BD b bs F L) (hn : bs.length ≤ 100000000000000) : CS Try.prog 38 [ptr b] L fun v L' => v = str bs ∧ L' = F := by
  rcases hB with ⟨rfl, rfl⟩ | ⟨h0, r, rfl⟩
  · suffices h : CS Try.prog 38 [ptr b] ((b, bu (.pointer none) (.slice none 0 0)) :: F) fun v L' => v = str [] ∧ ∃ x, L' = x :: F by
      exact h.less fun v L' ⟨h1, x, h2⟩ => ⟨F, by rw [h2]; exact Sub.tail, h1, rfl⟩
    refine CS.mk (fn := Try.f38) rfl rfl rfl rfl ?_
    repeat refine LS.seq ?_
    refine LS.region rfl ?_
    refine OS.pure rfl (fun _ => rfl) rfl ?_
    refine OS.nil ?_
    repeat refine LS.seq ?_
    refine LS.drawn noGo mixed [(0, false), (1, false), (2, false), (3, false), (4, false), (5, false), (6, false), (7, false), (8, false), (9, false), (10, true), (11, false)] rfl rfl (by kernel_rfl) ?_
    refine ODS.pure rfl rfl (fun _ => rfl) rfl ?_
    refine ODS.pure rfl rfl (fun _ => rfl) rfl ?_
    refine ODS.pure rfl rfl (fun _ => rfl) rfl ?_
    refine ODS.read rfl rfl (e_load 0 rfl rfl rfl rfl rfl) rfl ?_
    refine ODS.pure rfl rfl (fun _ => rfl) rfl ?_
    refine ODS.pure rfl rfl (fun _ => rfl) rfl ?_
    refine ODS.pure rfl rfl (fun _ => rfl) rfl ?_
    refine ODS.pure rfl rfl (fun _ => rfl) rfl ?_
    refine ODS.read rfl rfl (e_load 0 rfl rfl rfl rfl rfl) rfl ?_
    refine ODS.pure rfl rfl (fun _ => rfl) rfl ?_
    refine ODS.write rfl rfl (fun h H => ⟨h, rfl, H⟩) rfl (Keep.gone rfl (Keep.gone rfl Keep.nil)) ?_
    refine ODS.pure rfl rfl (fun _ => rfl) rfl ?_
    refine ODS.nil ?_
    refine LS.ret ⟨_, fun _ _ => rfl, ?_⟩
    exact ⟨rfl, _, rfl⟩
  · suffices h : CS Try.prog 38 [ptr b] ((r, .cells 5 (byteCells bs)) :: (b, bu (ptr b) (.slice (some ⟨r, 0, none⟩) bs.length openCap)) :: F) fun v L' => v = str bs ∧ ∃ x, L' = x :: F by
      exact h.less fun v L' ⟨h1, x, h2⟩ => ⟨F, by rw [h2]; exact Sub.tail, h1, rfl⟩
    have h1 : 1 ≤ bs.length := by
      cases bs with
      | nil => exact absurd rfl h0
      | cons c bs => simp
    refine CS.mk (fn := Try.f38) rfl rfl rfl rfl ?_
    repeat refine LS.seq ?_
    refine LS.region rfl ?_
    refine OS.pure rfl (fun _ => rfl) rfl ?_
    refine OS.nil ?_
    repeat refine LS.seq ?_
    refine LS.drawn noGo mixed [(0, false), (1, false), (2, false), (3, false), (4, false), (5, false), (6, false), (7, false), (8, false), (9, false), (10, true), (11, false)] rfl rfl (by kernel_rfl) ?_
    refine ODS.pure rfl rfl (fun _ => rfl) rfl ?_
    refine ODS.pure rfl rfl (fun _ => rfl) rfl ?_
    refine ODS.pure rfl rfl (fun _ => rfl) rfl ?_
    refine ODS.read rfl rfl (e_load 1 rfl rfl rfl rfl rfl) rfl ?_
    refine ODS.pure rfl rfl (e_data rfl rfl rfl h1) rfl ?_
    refine ODS.pure rfl rfl (fun _ => rfl) rfl ?_
    refine ODS.pure rfl rfl (fun _ => rfl) rfl ?_
    refine ODS.pure rfl rfl (fun _ => rfl) rfl ?_
    refine ODS.read rfl rfl (e_load 1 rfl rfl rfl rfl rfl) rfl ?_
    refine ODS.pure rfl rfl (fun _ => rfl) rfl ?_
    refine ODS.write rfl rfl (e_unsafe 0 (n := bs.length) rfl rfl rfl rfl rfl rfl rfl rfl rfl h1 (by omega) rfl) rfl (Keep.gone rfl (Keep.gone rfl Keep.nil)) ?_
    refine ODS.pure rfl rfl (fun _ => rfl) rfl ?_
    refine ODS.nil ?_
    refine LS.ret ⟨_, fun _ _ => rfl, ?_⟩
    exact ⟨rfl, _, rfl⟩
theorem BD.mem {b : Nat} {bs : W} {F L : RL} (h : BD b bs F L) : ∀ p, p ∈ F → p ∈ L := by
  rcases h with ⟨_, rfl⟩ | ⟨_, r, rfl⟩ <;> intro p hp <;> simp [hp]
end Go.Proofs.Ytllcbjaajffaeaa
