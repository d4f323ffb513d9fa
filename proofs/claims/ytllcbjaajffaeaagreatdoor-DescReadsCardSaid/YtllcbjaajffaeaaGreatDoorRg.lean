import Derived.Test.YtllcbjaajffaeaaGreatDoorRf
namespace Go.Am
theorem ODS.sliceWO {P : Program} {e : TypeId} {n : Nat} {v : Value} {cs : List Value} {F L : RL} {ops : List Oper} {o : Oper} {ms : List Nat} {i : Nat} {sched : List (Nat × Bool)} {dn : Dn} {a : Slots} {K : Slots → RL → Prop} {t : TypeId} {x lo : Operand} {k : IntKind} (hi : ops[i]? = some o) (l : Nat) (hs : WO e F v n cs) (hF : ∀ p, p ∈ F → p ∈ L) (hw : wantedB ops o a = true) (ho : o.op = .slice t x (some lo) none none) (hx : aev a x = some v) (hlo : aev a lo = some (.int k (l : Nat)))
    (ht : P.underlying t = some (.slice e)) (hz : sizeB P e = some 1) (hl : l ≤ n) (c : ∀ v', WO e F v' (n - l) (cs.drop l) → ∃ a₁, putAt a o.dst v' = some a₁ ∧ ODS P ops ms K sched ((i, a, v') :: dn) a₁ L) : ODS P ops ms K ((i, false) :: sched) dn a L := by
  obtain ⟨v', h1, h2⟩ := e_sliceWO l hs hF ho hx hlo ht hz hl
  obtain ⟨a₁, ep, c⟩ := c v' h1
  exact ODS.read hi hw h2 ep c
end Go.Am
namespace Go.Proofs.YtllcbjaajffaeaaGreatDoor
open Go.Am Go.Pd
set_option linter.unusedVariables false
set_option maxRecDepth 20000
set_option maxHeartbeats 4000000
attribute [local irreducible] OS LSr ODS CS YS
inductive Ask where
  | word | name | path | pat | any | nany | nword
  | num (m : Nat)
def askE : Ask → List W → Nat
  | .word, A => if A.all wordB then 0 else 4
  | .name, A => if A.all nameB then 0 else 63
  | .path, A => if A.all (fun s => decide (s.length ≤ 48) && (cuts 47 s).all goodP) then 0 else 4
  | .pat, A => if A.all (fun s => decide (chk s = 0)) then 0 else 4
  | .any, _ => 0
  | .nany, [] => 0
  | .nany, a :: _ => if nameB a then 0 else 63
  | .nword, [] => 0
  | .nword, a :: r => if nameB a then (if r.all wordB then 0 else 4) else 63
  | .num m, A => if A.all (numOk m) then 0 else 1
structure Tb where
  b : Nat
  pl : Nat
  lo : Nat
  hi : Nat
  ask : Ask
  once : Nat
def tabOf (w : W) : Option Tb :=
  if w = kTemplate then some ⟨1, 15, 1, 1, .name, 2⟩
  else if w = kJob then some ⟨2, 15, 1, 1, .name, 2⟩
  else if w = kInclude then some ⟨0, 1, 1, 1, .path, 0⟩
  else if w = kOn then some ⟨0, 1, 1, 400, .pat, 0⟩
  else if w = kPaths then some ⟨0, 1, 1, 400, .pat, 0⟩
  else if w = kVar then some ⟨0, 15, 2, 2, .nany, 0⟩
  else if w = kUse then some ⟨0, 4, 1, 1, .name, 0⟩
  else if w = kNeeds then some ⟨0, 14, 1, 400, .name, 0⟩
  else if w = kTags then some ⟨0, 14, 1, 400, .name, 0⟩
  else if w = kAxis then some ⟨0, 14, 2, 400, .nword, 2⟩
  else if w = kWhen then some ⟨0, 14, 1, 400, .any, 1⟩
  else if w = kDo then some ⟨0, 14, 1, 400, .any, 0⟩
  else if w = kTries then some ⟨0, 14, 1, 1, .num 5, 1⟩
  else if w = kLimit then some ⟨0, 14, 1, 1, .num 1000, 1⟩
  else if w = kManual then some ⟨0, 14, 0, 0, .any, 1⟩
  else if w = kKeep then some ⟨0, 14, 1, 400, .pat, 0⟩
  else none
def ruleV (t : Tb) (f : FuncId) (cap : List Value) : Value := .agg #[.int .u8 (t.b : Nat), .int .u8 (t.pl : Nat), .int .i64 (t.lo : Nat), .int .i64 (t.hi : Nat), .func (.func f) #[] ⟨cap⟩, .int .i64 (t.once : Nat)]
def AskOk (k : Ask) (L : RL) (f : FuncId) (cap : List Value) : Prop := ∀ M, (∀ p, p ∈ L → p ∈ M) → ∀ (v : Value) (A : List W), Wd M v A → A.length ≤ 1000 → (∀ w, w ∈ A → w.length ≤ 1000000) → ((k = .nany ∨ k = .nword) → A ≠ []) →
  CS Tryz.prog f (v :: cap) M fun u M' => u = errV (askE k A) ∧ M' = M
theorem AskOk.mono {k : Ask} {L L' : RL} {f : FuncId} {cap : List Value} (h : AskOk k L f cap) (hm : ∀ p, p ∈ L → p ∈ L') : AskOk k L' f cap := fun M hM => h M fun p hp => hM p (hm p hp)
structure RulesOk (es : List MapEntry) (M : RL) : Prop where
  find : ∀ w : W, (tabOf w = none ∧ findB (str w) es 0 = some none) ∨ ∃ t j f cap, tabOf w = some t ∧ findB (str w) es 0 = some (some (j, ruleV t f cap)) ∧ AskOk t.ask M f cap
theorem RulesOk.mono {es : List MapEntry} {L L' : RL} (h : RulesOk es L) (hm : ∀ p, p ∈ L → p ∈ L') : RulesOk es L' := ⟨fun w => by
  rcases h.find w with h | ⟨t, j, f, cap, h1, h2, h3⟩
  · exact .inl h
  · exact .inr ⟨t, j, f, cap, h1, h2, h3.mono hm⟩⟩
abbrev fRow (f : FuncId) (cap : List Value) : ARow := .cells 41 [.func (.func f) #[] ⟨cap⟩]
abbrev gRow (f : FuncId) (cap : List Value) : ARow := .cells 254 [.func (.func f) #[] ⟨cap⟩]
abbrev eRow (e : Nat) : ARow := .cells 27 [.int .i64 (e : Nat)]
theorem errV_if (b : Bool) (e : Nat) (he : e ≠ 0) : (if b then Value.nilIface else eV (e : Nat)) = errV (if b then 0 else e) := by
  cases b
  · cases e with
    | zero => exact absurd rfl he
    | succ e => rfl
  · rfl
section
variable {L : RL}
theorem any_ok : AskOk .any L 131 [] := fun M hM v A hv hl hw hn => by
  refine CS.mk (fn := Tryz.f131) rfl rfl rfl rfl ?_
  refine yG ?_
  exact ⟨rfl, rfl⟩
theorem each_ok {k : Ask} {p : W → Bool} {E rf re : Nat} {f0 : FuncId} {cap0 : List Value} (hE : E ≠ 0) (hk : ∀ A, askE k A = if A.all p then 0 else E) (hf : (rf, fRow f0 cap0) ∈ L) (he : (re, eRow E) ∈ L)
    (hc : ∀ M, (∀ q, q ∈ L → q ∈ M) → ∀ s : W, s.length ≤ 1000000 → CS Tryz.prog f0 (str s :: cap0) M fun u M' => u = .bool (p s) ∧ M' = M) : AskOk k L 154 [ptr rf, ptr re] := fun M hM v A hv hl hw hn =>
  (each1_ct (hM _ hf) (hM _ he) (fun s hs => hc M hM s (hw s hs)) hv.sv (by omega)).mono fun u M' ⟨h1, h2⟩ => ⟨by rw [h1, errV_if _ _ hE, hk], h2⟩
theorem named_ok {k0 k : Ask} {ra : Nat} {f0 : FuncId} {cap0 : List Value} (hk0 : ∀ a r, askE k (a :: r) = if nameB a then askE k0 r else 63) (hk2 : k = .nany ∨ k = .nword) (hk3 : ¬ (k0 = .nany ∨ k0 = .nword)) (hf : (ra, gRow f0 cap0) ∈ L) (h0 : AskOk k0 L f0 cap0) : AskOk k L 156 [ptr ra] := fun M hM v A hv hl hw hn => by
  cases A with
  | nil => exact absurd rfl (hn hk2)
  | cons a r =>
    rw [hk0]
    refine CS.mk (fn := Tryz.f156) rfl rfl rfl rfl ?_
    refine yG ?_
    refine OS.at1 (j := 0) (hv.sv) (strs_get (ws := a :: r) (j := 0) rfl) rfl rfl rfl rfl rfl rfl (fun ra0 oa0 rowa0 csa0 ma0 ca0 ga0 => ⟨_, rfl, ?_⟩)
    refine OS.read rfl (e_loadm ma0 ca0 rfl rfl (part_one rfl ga0)) rfl ?_
    refine yG ?_
    refine OS.call noGo rfl (fun _ => rfl) ((Name_ct a (Nat.le_trans (hw a (List.mem_cons_self ..)) (by decide))).mono ?_)
    rintro u M' ⟨rfl, rfl⟩
    refine ⟨_, rfl, ?_⟩
    rcases tf (nameB a) with h | h
    · rw [h]
      refine yG ?_
      repeat refine LS.seq ?_
      refine LS.drawn noGo mixed [(0, false), (1, false), (2, false), (3, true), (4, false)] rfl rfl (by kernel_rfl) ?_
      refine ODS.read rfl rfl (e_loadm (hM _ hf) rfl rfl rfl (part_one rfl rfl)) rfl ?_
      refine ODS.pure rfl rfl (fun _ => rfl) rfl ?_
      refine ODS.sliceWO rfl 1 hv (fun p hp => hp) rfl rfl rfl rfl rfl rfl (by simp) fun v' hv' => ⟨_, rfl, ?_⟩
      have hv2 : Wd _ v' r := hv'
      refine ODS.call rfl rfl (fun _ => rfl) ((h0 _ hM v' r hv2 (by simp at hl; omega) (fun w hw' => hw w (List.mem_cons_of_mem _ hw')) (fun h => absurd h hk3)).mono ?_)
      rintro u M' ⟨rfl, rfl⟩
      refine ⟨_, rfl, Keep.gone rfl (Keep.gone rfl Keep.nil), ?_⟩
      refine yG ?_
      exact ⟨rfl, rfl⟩
    · rw [h]
      refine yG ?_
      exact ⟨rfl, rfl⟩
theorem each_ct {f0 : FuncId} {cap0 : List Value} {e : Nat} : CS Tryz.prog 128 [.func (.func f0) #[] ⟨cap0⟩, .int .i64 (e : Nat)] L fun v L' => ∃ rf re, v = .func (.func 154) #[] #[ptr rf, ptr re] ∧ L' = (re, eRow e) :: (rf, fRow f0 cap0) :: L := by
  refine CS.mk (fn := Tryz.f128) rfl rfl rfl rfl ?_
  refine yG ?_
  refine OS.fresh rfl (e_box rfl rfl ⟨rfl, rfl⟩ rfl) (fun _ => rfl) (fun rf => ?_)
  refine OS.fresh rfl (e_box rfl rfl ⟨rfl, rfl⟩ rfl) (fun _ => rfl) (fun re => ?_)
  refine yG ?_
  exact ⟨rf, re, rfl, rfl⟩
theorem named_ct {f0 : FuncId} {cap0 : List Value} : CS Tryz.prog 130 [.func (.func f0) #[] ⟨cap0⟩] L fun v L' => ∃ ra, v = .func (.func 156) #[] #[ptr ra] ∧ L' = (ra, gRow f0 cap0) :: L := by
  refine CS.mk (fn := Tryz.f130) rfl rfl rfl rfl ?_
  refine yG ?_
  refine OS.fresh rfl (e_box rfl rfl ⟨rfl, rfl⟩ rfl) (fun _ => rfl) (fun ra => ?_)
  refine yG ?_
  rfl
theorem numberA_ct {m : Nat} : CS Tryz.prog 133 [.int .i64 (m : Nat)] L fun v L' => ∃ rm rf re, v = .func (.func 154) #[] #[ptr rf, ptr re] ∧ L' = (re, eRow 1) :: (rf, fRow 158 [ptr rm]) :: (rm, iRow m) :: L := by
  refine CS.mk (fn := Tryz.f133) rfl rfl rfl rfl ?_
  refine yG ?_
  refine OS.fresh rfl (e_box rfl rfl ⟨rfl, rfl⟩ rfl) (fun _ => rfl) (fun rm => ?_)
  refine yG ?_
  refine OS.call noGo rfl (fun _ => rfl) ((each_ct (cap0 := [ptr rm]) (e := 1)).mono ?_)
  rintro v L' ⟨rf, re, rfl, rfl⟩
  refine ⟨_, rfl, ?_⟩
  refine yG ?_
  exact ⟨rm, rf, re, rfl, rfl⟩
end
theorem ne_key {w k : W} (h : w ≠ k) : sameKeyB (str w) (str k) = some false := by
  show some (bytesEq w k) = _
  rw [beq_bytes, decide_eq_false h]
theorem find_no {k : Value} : ∀ {es : List MapEntry} {i : Nat}, (∀ e, e ∈ es → sameKeyB k e.key = some false) → findB k es i = some none
  | [], _, _ => rfl
  | e :: es, i, h => by
    simp only [findB, h e (List.mem_cons_self ..)]
    exact find_no fun e' he => h e' (List.mem_cons_of_mem _ he)
theorem rules_ct {g : Gn} {F B : RL} (hG : GL g F) (hG0 : GL g B) : CS Tryz.prog 95 [] F fun v L' => ∃ rr es ck Y, v = .map (some rr) ∧ L' = (rr, .map es ck) :: (Y ++ F) ∧ RulesOk es (Y ++ B) := by
  refine CS.mk (fn := Tryz.f95) rfl rfl rfl rfl ?_
  refine yG ?_
  refine OS.call noGo rfl (fun _ => rfl) ((each_ct (f0 := 37) (cap0 := []) (e := 63)).mono ?_)
  rintro v L' ⟨rf1, re1, rfl, rfl⟩
  refine ⟨_, rfl, ?_⟩
  refine yG ?_
  refine OS.call noGo rfl (fun _ => rfl) ((each_ct (f0 := 38) (cap0 := []) (e := 4)).mono ?_)
  rintro v L' ⟨rf2, re2, rfl, rfl⟩
  refine ⟨_, rfl, ?_⟩
  refine yG ?_
  refine OS.call noGo rfl (fun _ => rfl) ((each_ct (f0 := 129) (cap0 := []) (e := 4)).mono ?_)
  rintro v L' ⟨rf3, re3, rfl, rfl⟩
  refine ⟨_, rfl, ?_⟩
  refine yG ?_
  refine OS.fresh rfl (e_makeMap rfl rfl rfl) (fun _ => rfl) (fun rr => ?_)
  refine yG ?_
  refine OS.write rfl (e_insert 0 rfl rfl rfl rfl rfl rfl rfl rfl rfl) rfl ?_
  refine yG ?_
  refine OS.write rfl (e_insert 0 rfl rfl rfl rfl rfl rfl rfl rfl rfl) rfl ?_
  refine yG ?_
  refine OS.write rfl (e_insert 0 rfl rfl rfl rfl rfl rfl rfl rfl rfl) rfl ?_
  refine yG ?_
  refine OS.write rfl (e_insert 0 rfl rfl rfl rfl rfl rfl rfl rfl rfl) rfl ?_
  refine yG ?_
  refine OS.write rfl (e_insert 0 rfl rfl rfl rfl rfl rfl rfl rfl rfl) rfl ?_
  refine yG ?_
  refine OS.call noGo rfl (fun _ => rfl) ((named_ct (f0 := 131) (cap0 := [])).mono ?_)
  rintro v L' ⟨ra1, rfl, rfl⟩
  refine ⟨_, rfl, ?_⟩
  refine yG ?_
  refine OS.write rfl (e_insert 1 rfl rfl rfl rfl rfl rfl rfl rfl rfl) rfl ?_
  refine yG ?_
  refine OS.write rfl (e_insert 1 rfl rfl rfl rfl rfl rfl rfl rfl rfl) rfl ?_
  refine yG ?_
  refine OS.write rfl (e_insert 1 rfl rfl rfl rfl rfl rfl rfl rfl rfl) rfl ?_
  refine yG ?_
  refine OS.write rfl (e_insert 1 rfl rfl rfl rfl rfl rfl rfl rfl rfl) rfl ?_
  refine yG ?_
  refine OS.call noGo rfl (fun _ => rfl) ((each_ct (f0 := 132) (cap0 := []) (e := 4)).mono ?_)
  rintro v L' ⟨rf4, re4, rfl, rfl⟩
  refine ⟨_, rfl, ?_⟩
  refine OS.call noGo rfl (fun _ => rfl) ((named_ct (f0 := 154) (cap0 := [ptr rf4, ptr re4])).mono ?_)
  rintro v L' ⟨ra2, rfl, rfl⟩
  refine ⟨_, rfl, ?_⟩
  refine yG ?_
  refine OS.write rfl (e_insert 4 rfl rfl rfl rfl rfl rfl rfl rfl rfl) rfl ?_
  refine yG ?_
  refine OS.write rfl (e_insert 4 rfl rfl rfl rfl rfl rfl rfl rfl rfl) rfl ?_
  refine yG ?_
  refine OS.write rfl (e_insert 4 rfl rfl rfl rfl rfl rfl rfl rfl rfl) rfl ?_
  refine yG ?_
  refine OS.call noGo rfl (fun _ => rfl) ((numberA_ct (m := 5)).mono ?_)
  rintro v L' ⟨rm5, rf5, re5, rfl, rfl⟩
  refine ⟨_, rfl, ?_⟩
  refine yG ?_
  refine OS.write rfl (e_insert 7 rfl rfl rfl rfl rfl rfl rfl rfl rfl) rfl ?_
  refine yG ?_
  refine OS.call noGo rfl (fun _ => rfl) ((numberA_ct (m := 1000)).mono ?_)
  rintro v L' ⟨rm6, rf6, re6, rfl, rfl⟩
  refine ⟨_, rfl, ?_⟩
  refine yG ?_
  refine OS.write rfl (e_insert 10 rfl rfl rfl rfl rfl rfl rfl rfl rfl) rfl ?_
  refine yG ?_
  refine OS.write rfl (e_insert 10 rfl rfl rfl rfl rfl rfl rfl rfl rfl) rfl ?_
  refine yG ?_
  refine OS.write rfl (e_insert 10 rfl rfl rfl rfl rfl rfl rfl rfl rfl) rfl ?_
  refine OS.sub (Sub.pulls [10] rfl) ?_
  refine yG ?_
  refine ⟨rr, _, _, [_, _, _, _, _, _, _, _, _, _, _, _, _, _, _, _], rfl, rfl, ?_⟩
  generalize hM : (_ ++ B : RL) = M
  have hGM : GL g M := hG0.mono fun p hp => by rw [← hM]; exact List.mem_append_right _ hp
  have hname : AskOk .name M 154 [ptr rf1, ptr re1] := each_ok (p := nameB) (E := 63) (by decide) (fun A => rfl) (by rw [← hM]; simp) (by rw [← hM]; simp) fun M hM s hs => Name_ct s (Nat.le_trans hs (by decide))
  have hpath : AskOk .path M 154 [ptr rf2, ptr re2] := each_ok (E := 4) (by decide) (fun A => rfl) (by rw [← hM]; simp) (by rw [← hM]; simp) fun M hM s hs => Path_ct s (Nat.le_trans hs (by decide))
  have hpat : AskOk .pat M 154 [ptr rf3, ptr re3] := each_ok (E := 4) (by decide) (fun A => rfl) (by rw [← hM]; simp) (by rw [← hM]; simp) fun M hM s hs => isPattern_ct s
  have hword : AskOk .word M 154 [ptr rf4, ptr re4] := each_ok (p := wordB) (E := 4) (by decide) (fun A => rfl) (by rw [← hM]; simp) (by rw [← hM]; simp) fun M hM s hs => isWord_ct s (Nat.le_trans hs (by decide))
  have hnany : AskOk .nany M 156 [ptr ra1] := named_ok (k0 := .any) (fun _ _ => rfl) (.inl rfl) (by simp) (by rw [← hM]; simp) any_ok
  have hnword : AskOk .nword M 156 [ptr ra2] := named_ok (k0 := .word) (fun _ _ => rfl) (.inr rfl) (by simp) (by rw [← hM]; simp) hword
  have hnum5 : AskOk (.num 5) M 154 [ptr rf5, ptr re5] := each_ok (p := numOk 5) (E := 1) (f0 := 158) (cap0 := [ptr rm5]) (by decide) (fun A => rfl) (by rw [← hM]; simp) (by rw [← hM]; simp) fun M' hM' s hs => number_ct (hGM.mono hM') (hM' _ (by rw [← hM]; simp)) (Nat.le_trans hs (by decide)) (by decide)
  have hnum6 : AskOk (.num 1000) M 154 [ptr rf6, ptr re6] := each_ok (p := numOk 1000) (E := 1) (f0 := 158) (cap0 := [ptr rm6]) (by decide) (fun A => rfl) (by rw [← hM]; simp) (by rw [← hM]; simp) fun M' hM' s hs => number_ct (hGM.mono hM') (hM' _ (by rw [← hM]; simp)) (Nat.le_trans hs (by decide)) (by decide)
  clear hM
  refine ⟨fun w => ?_⟩
  by_cases h0 : w = kTemplate
  · subst h0
    exact .inr ⟨⟨1, 15, 1, 1, .name, 2⟩, 0, 154, [ptr rf1, ptr re1], by kernel_rfl, by kernel_rfl, hname⟩
  by_cases h1 : w = kJob
  · subst h1
    exact .inr ⟨⟨2, 15, 1, 1, .name, 2⟩, 1, 154, [ptr rf1, ptr re1], by kernel_rfl, by kernel_rfl, hname⟩
  by_cases h2 : w = kInclude
  · subst h2
    exact .inr ⟨⟨0, 1, 1, 1, .path, 0⟩, 2, 154, [ptr rf2, ptr re2], by kernel_rfl, by kernel_rfl, hpath⟩
  by_cases h3 : w = kOn
  · subst h3
    exact .inr ⟨⟨0, 1, 1, 400, .pat, 0⟩, 3, 154, [ptr rf3, ptr re3], by kernel_rfl, by kernel_rfl, hpat⟩
  by_cases h4 : w = kPaths
  · subst h4
    exact .inr ⟨⟨0, 1, 1, 400, .pat, 0⟩, 4, 154, [ptr rf3, ptr re3], by kernel_rfl, by kernel_rfl, hpat⟩
  by_cases h5 : w = kVar
  · subst h5
    exact .inr ⟨⟨0, 15, 2, 2, .nany, 0⟩, 5, 156, [ptr ra1], by kernel_rfl, by kernel_rfl, hnany⟩
  by_cases h6 : w = kUse
  · subst h6
    exact .inr ⟨⟨0, 4, 1, 1, .name, 0⟩, 6, 154, [ptr rf1, ptr re1], by kernel_rfl, by kernel_rfl, hname⟩
  by_cases h7 : w = kNeeds
  · subst h7
    exact .inr ⟨⟨0, 14, 1, 400, .name, 0⟩, 7, 154, [ptr rf1, ptr re1], by kernel_rfl, by kernel_rfl, hname⟩
  by_cases h8 : w = kTags
  · subst h8
    exact .inr ⟨⟨0, 14, 1, 400, .name, 0⟩, 8, 154, [ptr rf1, ptr re1], by kernel_rfl, by kernel_rfl, hname⟩
  by_cases h9 : w = kAxis
  · subst h9
    exact .inr ⟨⟨0, 14, 2, 400, .nword, 2⟩, 9, 156, [ptr ra2], by kernel_rfl, by kernel_rfl, hnword⟩
  by_cases h10 : w = kWhen
  · subst h10
    exact .inr ⟨⟨0, 14, 1, 400, .any, 1⟩, 10, 131, [], by kernel_rfl, by kernel_rfl, any_ok⟩
  by_cases h11 : w = kDo
  · subst h11
    exact .inr ⟨⟨0, 14, 1, 400, .any, 0⟩, 11, 131, [], by kernel_rfl, by kernel_rfl, any_ok⟩
  by_cases h12 : w = kTries
  · subst h12
    exact .inr ⟨⟨0, 14, 1, 1, .num 5, 1⟩, 12, 154, [ptr rf5, ptr re5], by kernel_rfl, by kernel_rfl, hnum5⟩
  by_cases h13 : w = kLimit
  · subst h13
    exact .inr ⟨⟨0, 14, 1, 1, .num 1000, 1⟩, 13, 154, [ptr rf6, ptr re6], by kernel_rfl, by kernel_rfl, hnum6⟩
  by_cases h14 : w = kManual
  · subst h14
    exact .inr ⟨⟨0, 14, 0, 0, .any, 1⟩, 14, 131, [], by kernel_rfl, by kernel_rfl, any_ok⟩
  by_cases h15 : w = kKeep
  · subst h15
    exact .inr ⟨⟨0, 14, 1, 400, .pat, 0⟩, 15, 154, [ptr rf3, ptr re3], by kernel_rfl, by kernel_rfl, hpat⟩
  refine .inl ⟨by unfold tabOf; simp only [h0, h1, h2, h3, h4, h5, h6, h7, h8, h9, h10, h11, h12, h13, h14, h15, if_false], find_no fun e he => ?_⟩
  simp only [addE, List.mem_cons, List.not_mem_nil, or_false] at he
  rcases he with rfl | rfl | rfl | rfl | rfl | rfl | rfl | rfl | rfl | rfl | rfl | rfl | rfl | rfl | rfl | rfl
  · exact ne_key (k := kTemplate) h0
  · exact ne_key (k := kJob) h1
  · exact ne_key (k := kInclude) h2
  · exact ne_key (k := kOn) h3
  · exact ne_key (k := kPaths) h4
  · exact ne_key (k := kVar) h5
  · exact ne_key (k := kUse) h6
  · exact ne_key (k := kNeeds) h7
  · exact ne_key (k := kTags) h8
  · exact ne_key (k := kAxis) h9
  · exact ne_key (k := kWhen) h10
  · exact ne_key (k := kDo) h11
  · exact ne_key (k := kTries) h12
  · exact ne_key (k := kLimit) h13
  · exact ne_key (k := kManual) h14
  · exact ne_key (k := kKeep) h15
end Go.Proofs.YtllcbjaajffaeaaGreatDoor
