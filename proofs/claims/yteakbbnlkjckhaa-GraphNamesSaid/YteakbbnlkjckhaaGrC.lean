/- Layer 15: what is called through an interface; numbers in lists; the heap's parts. -/
import Derived.Test.YteakbbnlkjckhaaYl
import Derived.Test.YteakbbnlkjckhaaGrB
namespace Go.Am
set_option linter.unusedVariables false
section
variable {P : Program} {ops rest : List Oper} {o : Oper} {a a₁ : Slots} {L : RL} {v : Value} {K : Slots → RL → Prop}
theorem OS.callH (hg : noGo P = true) {f : FuncId} {args : List Value} (hw : wantedB ops o a = true) (e : ∀ h, Has h L → opB P a o h = some (.call f args)) (hc : CS P f args L fun v L₁ => ∃ a₁, putAt a o.dst v = some a₁ ∧ OS P ops rest a₁ L₁ K) : OS P ops (o :: rest) a L K :=
  fun h H => OQ.call hg hw (e h H) ((hc h H).mono fun v h' ⟨L', ⟨a₁, ep, k⟩, H'⟩ => ⟨a₁, ep, k h' H'⟩)
/-- A method's row. -/
def mrow (P : Program) (t : TypeId) (name : String) : Option (Option (FuncId × Bool) × List FieldStep) :=
  match P.info? t with
  | some i => match i.methods.find? (·.name == name) with
    | some m => some (m.func, m.path.toList)
    | none => none
  | none => none
theorem meth_ptr {t e : TypeId} {x : Value} {name : String} {f : FuncId} (hm : mrow P t name = some (some (f, true), [])) (hu : P.underlying t = some (.pointer e)) : ∀ h, methB P t x name h = some (f, x) := by
  intro h
  unfold mrow at hm
  unfold methB
  split at hm
  case h_2 => cases hm
  rename_i i hi
  rw [hi]
  split at hm
  case h_2 => cases hm
  rename_i m hf
  simp only [Option.some.injEq, Prod.mk.injEq] at hm
  simp only [hf, hm.1, hm.2, hu]
theorem meth_field {t s e : TypeId} {j r off : Nat} {name : String} {f : FuncId} {fields : Array Field} {fd : Field} {row : ARow} {cs : List Value} {p : Nat} {y : Value} (hm : mrow P t name = some (some (f, false), [⟨s, j, true⟩])) (hu : P.underlying s = some (.struct fields)) (hfd : fields[j]? = some fd)
    (hd : P.underlying fd.type = some (.slice e)) (hs : sizeB P fd.type = some (p + 1)) (hrow : (r, row) ∈ L) (hc : rdRow row = some cs) (hv : partB P fd.type cs (off + fd.offset) = some y) :
    ∀ h, Has h L → methB P t (.pointer (some ⟨r, off, none⟩)) name h = some (f, y) := by
  intro h H
  unfold mrow at hm
  unfold methB
  split at hm
  case h_2 => cases hm
  rename_i i hi
  rw [hi]
  split at hm
  case h_2 => cases hm
  rename_i m hf
  simp only [Option.some.injEq, Prod.mk.injEq] at hm
  have h1 : fieldAddrB P s (.pointer (some ⟨r, off, none⟩)) j = some (.pointer (some ⟨r, off + fd.offset, none⟩)) := by
    have hb : Nat.beq (p + 1) 0 = false := rfl
    simp only [fieldAddrB, hu, hfd, hs, hb]
  have h2 : loadB P fd.type (.pointer (some ⟨r, off + fd.offset, none⟩)) h = some y := by simp only [loadB, H.mem hrow hc, hv]
  simp only [hf, hm.1, hm.2, hu, hfd, hd, h1, h2]
theorem e_invoke {c : Call} {r : Operand} {name : String} {t : TypeId} {x y : Value} {f : FuncId} {vs : List Value} (ho : o.op = .call c) (hc : c.callee = .invoke r name) (hr : aev a r = some (.iface t x)) (ha : evs a c.args.toList = some vs) (hm : ∀ h, Has h L → methB P t x name h = some (f, y)) :
    ∀ h, Has h L → opB P a o h = some (.call f (y :: vs)) := by
  intro h H
  simp only [opB, ho, ha, callOpB, hc, hr, hm h H]
end
theorem Sub.tail {x : Nat × ARow} {L : RL} : Sub L (x :: L) := ⟨[x], by simpa using (List.perm_append_comm (l₁ := [x]) (l₂ := L))⟩
theorem count_sum [DecidableEq (Nat × ARow)] (x : Nat × ARow) : ∀ l : RL, l.count x = (l.map fun y => if y = x then 1 else 0).sum
  | [] => rfl
  | y :: l => by
    rw [List.count_cons, count_sum x l, List.map_cons, List.sum_cons]
    by_cases h : y = x <;> simp [h] <;> omega
/-- The same rows, in another order, and others. -/
theorem Sub.sums2 (D : RL) {A B : RL} (h : ∀ f : Nat × ARow → Nat, (B.map f).sum = (A.map f).sum + (D.map f).sum) : Sub A B := by
  classical
  refine ⟨D, ?_⟩
  letI : BEq (Nat × ARow) := ⟨fun a b => decide (a = b)⟩
  haveI : LawfulBEq (Nat × ARow) := { eq_of_beq := fun h => of_decide_eq_true h, rfl := decide_eq_true rfl }
  rw [List.perm_iff_count]
  intro x
  rw [List.count_append, count_sum, count_sum, count_sum]
  exact h _
theorem Sub.sums {A B : RL} (h : ∀ f : Nat × ARow → Nat, (B.map f).sum = (A.map f).sum) : Sub A B := Sub.sums2 [] fun f => by rw [h f]; simp
theorem Sub.drops (k : Nat) {L M : RL} (h : L = M.drop k) : Sub L M := by
  subst h
  refine ⟨M.take k, ?_⟩
  have h := List.perm_append_comm (l₁ := M.take k) (l₂ := M.drop k)
  rw [List.take_append_drop] at h
  exact h
theorem Sub.trans {A B C : RL} (h : Sub A B) (k : Sub B C) : Sub A C := by
  obtain ⟨M, p⟩ := h
  obtain ⟨N, q⟩ := k
  exact ⟨M ++ N, q.trans (by simpa using p.append_right N)⟩
theorem GV.appendR {e : TypeId} {sz n : Nat} {F L : RL} {v : Value} {cs : List Value} (X : RL) (g : GV e sz F v n cs L) : GV e sz (F ++ X) v n cs (L ++ X) := by
  rcases g with ⟨rfl, rfl, rfl, rfl⟩ | ⟨r, rfl, hl, rfl⟩
  · exact .inl ⟨rfl, rfl, rfl, rfl⟩
  · exact .inr ⟨r, rfl, hl, rfl⟩
theorem SV.up {sz n : Nat} {F G : RL} {v : Value} {cs : List Value} (h : SV sz F v n cs) (hm : ∀ p, p ∈ F → p ∈ G) : SV sz G v n cs := by
  rcases h with h | ⟨r, off, cap, row, cs₀, h1, h2, h3⟩
  · exact .inl h
  · exact .inr ⟨r, off, cap, row, cs₀, h1, hm _ h2, h3⟩
theorem SV.form {sz n : Nat} {F : RL} {v : Value} {cs : List Value} (h : SV sz F v n cs) : ∃ A c, v = .slice A n c := by
  rcases h with ⟨rfl, rfl, _⟩ | ⟨r, off, cap, row, cs₀, rfl, _⟩
  · exact ⟨_, _, rfl⟩
  · exact ⟨_, _, rfl⟩
end Go.Am
namespace Go.Proofs.Yteakbbnlkjckhaa
open Go.Am Go.Gp
set_option linter.unusedVariables false
set_option linter.unusedSimpArgs false
set_option maxRecDepth 20000
set_option maxHeartbeats 4000000
attribute [local irreducible] OS LSr ODS CS
theorem noGo : Am.noGo Try.prog = true := by kernel_rfl
theorem mixed : Try.prog.follows .mixedOrders = true := by kernel_rfl
theorem ext_list {A : Type} {l : List A} {k : Nat} (h : k < l.length) : ∃ x, l[k]? = some x := ⟨_, List.getElem?_eq_getElem h⟩
abbrev iN (k : Nat) : Value := .int .i64 (k : Nat)
/-- Numbers. -/
def ns (l : List Nat) : List Value := l.map fun k => iN k
theorem ns_len (l : List Nat) : (ns l).length = l.length := by simp [ns]
theorem ns_at {l : List Nat} {j k : Nat} (h : l[j]? = some k) : (ns l)[j]? = some (iN k) := by simp [ns, h]
theorem ns_snoc (l : List Nat) (k : Nat) : ns (l ++ [k]) = ns l ++ [iN k] := by simp [ns]
theorem ns_app (l m : List Nat) : ns (l ++ m) = ns l ++ ns m := by simp [ns]
theorem ns_set (l : List Nat) (j k : Nat) : ns (l.set j k) = (ns l).set j (iN k) := by simp [ns, List.map_set]
theorem ns_one : ∀ l : List Nat, allOne (ns l) = true
  | [] => rfl
  | w :: ws => by simp only [ns, List.map_cons, allOne]; exact ns_one ws
theorem ns_take (l : List Nat) (n : Nat) : (ns l).take n = ns (l.take n) := by simp [ns]
theorem ns_drop (l : List Nat) (n : Nat) : (ns l).drop n = ns (l.drop n) := by simp [ns]
abbrev tI : TypeId := 3
abbrev tQ : TypeId := 39
abbrev tP : TypeId := 46
/-- A heap that stands in rows of its own. -/
def st (rr r : Nat) (H : List Nat) (J : List Value) (F : RL) : RL := (rr, .cells tQ [.slice (some ⟨r, 0, none⟩) H.length openCap]) :: (r, .cells tI (ns H ++ J)) :: F
abbrev ifc (rr : Nat) : Value := .iface tP (.pointer (some ⟨rr, 0, none⟩))
theorem mLen : mrow Try.prog tP "Len" = some (some (30, false), [⟨tQ, 0, true⟩]) := by kernel_rfl
theorem mLess : mrow Try.prog tP "Less" = some (some (55, false), [⟨tQ, 0, true⟩]) := by kernel_rfl
theorem mSwap : mrow Try.prog tP "Swap" = some (some (57, false), [⟨tQ, 0, true⟩]) := by kernel_rfl
theorem mPush : mrow Try.prog tP "Push" = some (some (59, true), []) := by kernel_rfl
theorem mPop : mrow Try.prog tP "Pop" = some (some (58, true), []) := by kernel_rfl
section
variable {L : RL} {rr : Nat} {v : Value}
theorem m_field {name : String} {f : FuncId} (hm : mrow Try.prog tP name = some (some (f, false), [⟨tQ, 0, true⟩])) (hrow : (rr, .cells tQ [v]) ∈ L) : ∀ h, Has h L → methB Try.prog tP (.pointer (some ⟨rr, 0, none⟩)) name h = some (f, v) :=
  meth_field hm Try.underlying39 rfl Try.underlying37 (p := 0) (by kernel_rfl) hrow rfl (part_one (by kernel_rfl) rfl)
theorem m_ptr {x : Value} {name : String} {f : FuncId} (hm : mrow Try.prog tP name = some (some (f, true), [])) : ∀ h, Has h L → methB Try.prog tP x name h = some (f, x) :=
  fun h _ => meth_ptr hm Try.underlying46 h
end
theorem Len_ct {L : RL} {v : Value} {n : Nat} {cs : List Value} (hv : SV 1 L v n cs) : CS Try.prog 30 [v] L fun u L' => u = iN n ∧ L' = L := by
  refine CS.mk (fn := Try.f30) rfl rfl rfl rfl ?_
  refine yG ?_
  exact ⟨rfl, rfl⟩
theorem Less_ct {L : RL} {v : Value} {n : Nat} {cs : List Value} {i j x y : Nat} (hv : SV 1 L v n cs) (hi : cs[i]? = some (iN x)) (hj : cs[j]? = some (iN y)) : CS Try.prog 55 [v, iN i, iN j] L fun u L' => u = .bool (decide (x < y)) ∧ L' = L := by
  refine CS.mk (fn := Try.f55) rfl rfl rfl rfl ?_
  have hb : (!ileB (y : Nat) (x : Nat)) = decide (x < y) := by rw [ileB_eq]; by_cases h : x < y <;> simp [h] <;> omega
  refine yG ?_
  repeat refine LS.seq ?_
  refine LS.drawn noGo mixed [(0, false), (1, false), (2, false), (3, false), (4, false), (5, false), (6, false), (7, false), (8, false), (9, false)] rfl rfl (by kernel_rfl) ?_
  refine yG ?_
  refine ODS.at1 (j := i) (hv) (hi) rfl rfl rfl rfl rfl rfl rfl (fun ra0 oa0 rowa0 csa0 ma0 ca0 ga0 => ⟨_, rfl, ?_⟩)
  refine ODS.read rfl rfl (e_loadm ma0 ca0 rfl rfl (part_one rfl ga0)) rfl ?_
  refine yG ?_
  refine ODS.at1 (j := j) (hv) (hj) rfl rfl rfl rfl rfl rfl rfl (fun ra1 oa1 rowa1 csa1 ma1 ca1 ga1 => ⟨_, rfl, ?_⟩)
  refine ODS.read rfl rfl (e_loadm ma1 ca1 rfl rfl (part_one rfl ga1)) rfl ?_
  refine yG ?_
  exact ⟨rfl, rfl⟩
theorem set_app {l : List Nat} {J : List Value} {i k : Nat} (h : i < l.length) : (ns l ++ J).set i (iN k) = ns (l.set i k) ++ J := by
  rw [List.set_append_left _ _ (by rw [ns_len]; exact h), ns_set]
theorem get_app {l : List Nat} {J : List Value} {i : Nat} (h : i < l.length) : (ns l ++ J)[i]? = some (iN (at' l i)) := by
  rw [List.getElem?_append_left (by rw [ns_len]; exact h), ns_at (of_at h)]
theorem lay_ns {l : List Nat} {J : List Value} {i k : Nat} (h : i < l.length) : lay (ns l ++ J) (0 + i * 1) [iN k] = some (ns (l.set i k) ++ J) := by
  rw [show 0 + i * 1 = i by omega, lay_one (by rw [List.length_append, ns_len]; omega), set_app h]
theorem Swap_ct {rr r i j : Nat} {H : List Nat} {J : List Value} {F : RL} (hi : i < H.length) (hj : j < H.length) : CS Try.prog 57 [.slice (some ⟨r, 0, none⟩) H.length openCap, iN i, iN j] (st rr r H J F) fun u L' => L' = st rr r (swp H i j) J F := by
  have hv : SV 1 (st rr r H J F) (.slice (some ⟨r, 0, none⟩) H.length openCap) H.length (ns H) := .inr ⟨r, 0, openCap, _, ns H ++ J, rfl, List.mem_cons_of_mem _ (List.mem_cons_self ..), rfl, by rw [cut_of (by simp [ns_len])]; simp [ns_len]⟩
  refine CS.mk (fn := Try.f57) rfl rfl rfl rfl ?_
  unfold st at hv ⊢
  repeat refine LS.seq ?_
  refine LS.drawn noGo mixed [(0, false), (1, false), (2, false), (3, false), (4, false), (5, false), (6, false), (7, false), (8, false), (9, false), (10, false), (11, false), (12, false), (13, true), (14, false), (15, true)] rfl rfl (by kernel_rfl) ?_
  refine yG ?_
  refine ODS.at1 (j := j) (hv) (ns_at (of_at hj)) rfl rfl rfl rfl rfl rfl rfl (fun ra0 oa0 rowa0 csa0 ma0 ca0 ga0 => ⟨_, rfl, ?_⟩)
  refine ODS.read rfl rfl (e_loadm ma0 ca0 rfl rfl (part_one rfl ga0)) rfl ?_
  refine yG ?_
  refine ODS.at1 (j := i) (hv) (ns_at (of_at hi)) rfl rfl rfl rfl rfl rfl rfl (fun ra1 oa1 rowa1 csa1 ma1 ca1 ga1 => ⟨_, rfl, ?_⟩)
  refine ODS.read rfl rfl (e_loadm ma1 ca1 rfl rfl (part_one rfl ga1)) rfl ?_
  refine yG ?_
  refine ODS.pure rfl rfl (e_index (j := i) (sz := 1) rfl rfl rfl Try.underlying37 rfl hi) rfl ?_
  refine ODS.write rfl rfl (e_store 1 (n := 1) rfl rfl rfl rfl rfl rfl (lay_ns hi) rfl) rfl (Keep.gone rfl (Keep.gone rfl Keep.nil)) ?_
  refine ODS.pure rfl rfl (e_index (j := j) (sz := 1) rfl rfl rfl Try.underlying37 rfl hj) rfl ?_
  refine ODS.write rfl rfl (e_store 1 (n := 1) rfl rfl rfl rfl rfl rfl (lay_ns (by simpa using hj)) rfl) rfl (Keep.gone rfl (Keep.gone rfl Keep.nil)) ?_
  refine yG ?_
  refine ⟨_, fun _ _ => rfl, ?_⟩
  unfold swp
  simp
end Go.Proofs.Yteakbbnlkjckhaa
