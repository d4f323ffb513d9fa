/- The abstract machine: regions that draw, whose turning operations may come in several orders. -/
import Derived.Test.YtmdcfnnoeimakaaGreatDoorAmE

/- The abstract machine: regions that draw their order, whose operations that turn rows may come in more than one order. -/
/- The abstract machine: regions that draw their order, with forks: where of several operations that turn rows any may come first, each way is gone. -/
namespace Go.Am
set_option linter.unusedVariables false
section
variable {P : Program}

/-- What has been gone through is a set; the next one leaves the rows as they are, or any of these turns them. -/
def OG (P : Program) (ops : List Oper) (ms : List Nat) (K : Slots → AW → Prop) : Nat → List Nat → Dn → Slots → AW → Prop
  | 0, pre, _, a, h => (∀ i o, ops[i]? = some o → i ∈ pre) ∧ K a h
  | n + 1, pre, dn, a, h =>
    (∃ i o, ops[i]? = some o ∧ i ∉ pre ∧ (∀ j, ahead ms i j = true → j ∈ pre) ∧
      ((skipB ops o a = true ∧ ∃ a₁, putAt a o.dst undef = some a₁ ∧ OG P ops ms K n (i :: pre) dn a₁ h) ∨
       (wantedB ops o a = true ∧ ∃ v a₁, StepQ P a o h v ∧ putAt a o.dst v = some a₁ ∧ OG P ops ms K n (i :: pre) ((i, a, v) :: dn) a₁ h))) ∨
    ((∃ x o, ops[x]? = some o ∧ x ∉ pre) ∧ ∃ W : List Nat, (∀ x o, ops[x]? = some o → x ∉ pre → x ∈ W ∨ ∃ i, i ∈ W ∧ ahead ms x i = true) ∧
      ∀ i, i ∈ W → ∃ o, ops[i]? = some o ∧ i ∉ pre ∧ (∀ j, ahead ms i j = true → j ∈ pre) ∧ wantedB ops o a = true ∧ StepW P a o h fun v h₁ => ∃ a₁, putAt a o.dst v = some a₁ ∧
        (∀ e, e ∈ dn → ahead ms i e.1 = false → ∀ p, ops[e.1]? = some p → StepQ P e.2.1 p h₁ e.2.2) ∧ OG P ops ms K n (i :: pre) dn a₁ h₁)

/-- What holds at a moment: these have been gone through (some of them may have been put off). -/
structure Mo (P : Program) (ops : List Oper) (ms : List Nat) (K : Slots → AW → Prop) (a₀ : Slots) (S : Nat → Prop) (h : AW) (n : Nat) (pre : List Nat) (dn : Dn) (a : Slots) (val : Nat → Value) : Prop where
  od : OG P ops ms K n pre dn a h
  len : a.length = a₀.length
  slot : ∀ j o d, j ∈ pre → ops[j]? = some o → o.dst = some d → a[d]? = some (val j)
  slot0 : ∀ t, (∀ j o, j ∈ pre → ops[j]? = some o → o.dst ≠ some t) → a[t]? = a₀[t]?
  out : ∀ j, j ∉ pre → ¬ S j
  closed : ∀ p, p ∈ pre → ∀ j, ahead ms p j = true → j ∈ pre
  pend : ∀ j o, j ∈ pre → ¬ S j → ops[j]? = some o → ∃ aj, aj.length = a₀.length ∧
    (∀ t, t ∈ looksB ops o → (∀ q oq, ops[q]? = some oq → oq.dst = some t → ahead ms j q = true → aj[t]? = some (val q)) ∧ ((∀ q oq, ops[q]? = some oq → oq.dst = some t → ahead ms j q = false) → aj[t]? = a₀[t]?)) ∧
    ((skipB ops o aj = true ∧ val j = undef) ∨ (wantedB ops o aj = true ∧ (j, aj, val j) ∈ dn ∧ StepQ P aj o h (val j)))

/-- The order's own laws. -/
structure Ord3 (ops : List Oper) (ms : List Nat) : Prop where
  once : Once ops
  back : ∀ i o, ops[i]? = some o → ∀ j, ahead ms i j = true → j < i
  sorted : ∀ i o j q d, ops[i]? = some o → ops[j]? = some q → q.dst = some d → d ∈ looksB ops o → j ≠ i → (j < i → ahead ms i j = true) ∧ (i < j → ahead ms j i = true)
theorem ord3_of {ops : List Oper} {ms : List Nat} (hm : masksB ops [] = some ms) (hok : ((onceB (dstsB ops) && backB ops 0) && allSorted ms ops ops 0) = true) : Ord3 ops ms ∧ backB ops 0 = true := by
  simp only [Bool.and_eq_true] at hok
  obtain ⟨⟨hon, hback⟩, hsort⟩ := hok
  refine ⟨⟨once_spec hon, fun i o ho => closed_ahead hm hback (S := fun j => j < i) (fun j q hj hq e he hbe => by have := backB_spec hback j q hq e he hbe; omega) i o ho (fun e he hbe => by have := backB_spec hback i o ho e he hbe; omega), fun i o j q d hi hj hd hl hne => ?_⟩, hback⟩
  have := allSorted_spec hsort i o hi j q d hj hd hl (by omega)
  simpa using this

section
variable {ops : List Oper} {ms : List Nat} {K : Slots → AW → Prop} {a₀ : Slots} {S : Nat → Prop} {h : AW}

/-- One more has been gone through, but may have been put off. -/
theorem Mo.step (hO : Ord3 ops ms) {i n m : Nat} {o : Oper} {pre : List Nat} {dn dn' : Dn} {a a₁ : Slots} {val : Nat → Value} {v : Value} {h' : AW} {S' : Nat → Prop} (M : Mo P ops ms K a₀ S h m pre dn a val)
    (hi : ops[i]? = some o) (hni : i ∉ pre) (hbe : ∀ j, ahead ms i j = true → j ∈ pre) (ep : putAt a o.dst v = some a₁) (od : OG P ops ms K n (i :: pre) dn' a₁ h') (hdn : ∀ e, e ∈ dn → e ∈ dn') (hS : ∀ j, j ≠ i → (S' j ↔ S j))
    (hold : ∀ j aj u p, ¬ S j → (j, aj, u) ∈ dn → ops[j]? = some p → StepQ P aj p h u → StepQ P aj p h' u)
    (here : ¬ S' i → (skipB ops o a = true ∧ v = undef) ∨ (wantedB ops o a = true ∧ (i, a, v) ∈ dn' ∧ StepQ P a o h' v)) :
    Mo P ops ms K a₀ S' h' n (i :: pre) dn' a₁ fun j => if j = i then v else val j := by
  obtain ⟨hal, had, hag⟩ := putAt_get ep
  have hpre : ∀ j, j ∈ pre → j ≠ i := fun j hm hh => by subst hh; exact hni hm
  refine ⟨od, hal.trans M.len, ?_, ?_, ?_, ?_, ?_⟩
  · rintro j p d hm hj hd
    rw [hag]
    by_cases hji : j = i
    · subst hji; rw [hi] at hj; simp at hj; subst hj; simp [hd]
    · rw [if_neg hji]
      have hm' : j ∈ pre := by simpa [hji] using hm
      rw [if_neg (fun hh => hji (hO.once j i p o d hj hi hd hh))]
      exact M.slot j p d hm' hj hd
  · intro t ht
    rw [hag, if_neg (ht i o (by simp) hi)]
    exact M.slot0 t fun j p hm hj => ht j p (by simp [hm]) hj
  · intro j hm hs
    simp at hm
    exact M.out j hm.2 ((hS j hm.1).1 hs)
  · intro p hp j hj
    rcases List.mem_cons.1 hp with rfl | hp
    · exact List.mem_cons_of_mem _ (hbe j hj)
    · exact List.mem_cons_of_mem _ (M.closed p hp j hj)
  · intro j p hm hs hj
    by_cases hji : j = i
    · subst hji
      rw [hi] at hj; simp at hj; subst hj
      have hlt : ∀ q, ahead ms j q = true → q ≠ j := fun q hq hh => by subst hh; exact absurd (hO.back q o hi q hq) (Nat.lt_irrefl q)
      refine ⟨a, M.len, fun t ht => ⟨fun q oq hq hd hah => ?_, fun hno => ?_⟩, ?_⟩
      · rw [if_neg (hlt q hah)]
        exact M.slot q oq t (hbe q hah) hq hd
      · exact M.slot0 t fun q oq hmq hq hd => by
          have hne := hpre q hmq
          obtain ⟨s1, s2⟩ := hO.sorted j o q oq t hi hq hd ht hne
          rcases Nat.lt_or_gt_of_ne hne with hlt' | hgt
          · rw [hno q oq hq hd] at s1; exact absurd (s1 hlt') (by simp)
          · exact hni (M.closed q hmq j (s2 hgt))
      · rw [if_pos rfl]; exact here hs
    · have hm' : j ∈ pre := by simpa [hji] using hm
      obtain ⟨aj, hl, hlook, hor⟩ := M.pend j p hm' (fun hh => hs ((hS j hji).2 hh)) hj
      refine ⟨aj, hl, fun t ht => ⟨fun q oq hq hd hah => ?_, (hlook t ht).2⟩, ?_⟩
      · have hqi : q ≠ i := fun hh => by
          subst hh
          exact hni (M.closed j hm' q hah)
        rw [if_neg hqi]
        exact (hlook t ht).1 q oq hq hd hah
      · rw [if_neg hji]
        rcases hor with hor | ⟨h1, h2, h3⟩
        · exact .inl hor
        · exact .inr ⟨h1, hdn _ h2, hold j aj _ p (fun hh => hs ((hS j hji).2 hh)) h2 hj h3⟩

/-- On to what turns the rows next. -/
theorem Mo.on (hO : Ord3 ops ms) : ∀ {n : Nat} {pre : List Nat} {dn : Dn} {a : Slots} {val : Nat → Value}, Mo P ops ms K a₀ S h n pre dn a val →
    ∃ n' pre' dn' a' val', Mo P ops ms K a₀ S h n' pre' dn' a' val' ∧ (∀ j, S j → val' j = val j) ∧ (((∀ i o, ops[i]? = some o → i ∈ pre') ∧ K a' h) ∨ ((∃ x o, ops[x]? = some o ∧ x ∉ pre') ∧ ∃ m, n' = m + 1 ∧ ∃ W : List Nat, (∀ x o, ops[x]? = some o → x ∉ pre' → x ∈ W ∨ ∃ i, i ∈ W ∧ ahead ms x i = true) ∧
      ∀ i, i ∈ W → ∃ o, ops[i]? = some o ∧ i ∉ pre' ∧ (∀ j, ahead ms i j = true → j ∈ pre') ∧ wantedB ops o a' = true ∧ StepW P a' o h fun v h₁ => ∃ a₁, putAt a' o.dst v = some a₁ ∧
        (∀ e, e ∈ dn' → ahead ms i e.1 = false → ∀ p, ops[e.1]? = some p → StepQ P e.2.1 p h₁ e.2.2) ∧ OG P ops ms K m (i :: pre') dn' a₁ h₁)) := by
  intro n
  induction n with
  | zero => intro pre dn a val M; exact ⟨0, pre, dn, a, val, M, fun _ _ => rfl, .inl M.od⟩
  | succ n ih =>
    intro pre dn a val M
    have od := M.od
    simp only [OG] at od
    rcases od with ⟨i, o, hi, hni, hbe, hor⟩ | ⟨hx, W, hW, hall⟩
    · have hnS : ∀ j, S j → j ≠ i := fun j hj hh => by subst hh; exact M.out j hni hj
      rcases hor with ⟨hw, a₁, ep, od⟩ | ⟨hw, v, a₁, sq, ep, od⟩
      · obtain ⟨n', pre', dn', a', val', M', hv, hp⟩ := ih (M.step hO hi hni hbe ep od (fun _ he => he) (fun _ _ => Iff.rfl) (fun _ _ _ _ _ _ _ hh => hh) fun _ => .inl ⟨hw, rfl⟩)
        exact ⟨n', pre', dn', a', val', M', fun j hj => by rw [hv j hj, if_neg (hnS j hj)], hp⟩
      · obtain ⟨n', pre', dn', a', val', M', hv, hp⟩ := ih (M.step hO hi hni hbe ep od (fun _ he => List.mem_cons_of_mem _ he) (fun _ _ => Iff.rfl) (fun _ _ _ _ _ _ _ hh => hh) fun _ => .inr ⟨hw, by simp, sq⟩)
        exact ⟨n', pre', dn', a', val', M', fun j hj => by rw [hv j hj, if_neg (hnS j hj)], hp⟩
    · exact ⟨n + 1, pre, dn, a, val, M, fun _ _ => rfl, .inr ⟨hx, n, rfl, W, hW, hall⟩⟩
theorem Mo.more {S' : Nat → Prop} {n : Nat} {pre : List Nat} {dn : Dn} {a : Slots} {val : Nat → Value} (M : Mo P ops ms K a₀ S h n pre dn a val) (h1 : ∀ j, S j → S' j) (h2 : ∀ j, j ∉ pre → ¬ S' j) : Mo P ops ms K a₀ S' h n pre dn a val :=
  ⟨M.od, M.len, M.slot, M.slot0, h2, M.closed, fun j o hm hs => M.pend j o hm fun hh => hs (h1 j hh)⟩
end

theorem draw_any3 (hg : noGo P = true) {ro : Option Nat} {ds : List Deferred} {opsA : Array Oper} {ms : List Nat} {a₀ : Slots} {K : Slots → AW → Prop} {ρ₀ : Env} {h₀ : AW} {w₀ : World} {Q : Exit → Act → World → Prop}
    (hm : masksB opsA.toList [] = some ms) (hO : Ord3 opsA.toList ms) (hback : backB opsA.toList 0 = true)
    (hQ : ∀ a' h' ρ' act' w', K a' h' → LRel ρ' a' act'.tmps.toList → act'.defers = ds → HRel P ρ' h' w' → Turn ρ₀ h₀ w₀ ρ' h' w' → Q .normal act' w') :
    ∀ (fuel : Nat) (listed : Array Bool) (act : Act) (w : World) (ρ : Env) (h : AW) (n : Nat) (pre : List Nat) (dn : Dn) (a : Slots) (val : Nat → Value), listed.size = opsA.size →
      (∀ i o, lst listed i = true → opsA.toList[i]? = some o → ∀ e ∈ o.after.toList, Region.binds .any e = true → lst listed e.on = true) →
      Mo P opsA.toList ms K a₀ (fun j => lst listed j = true) h n pre dn a val → HRel P ρ h w → Turn ρ₀ h₀ w₀ ρ h w → act.tmps.size = a₀.length → act.defers = ds →
      (∀ j o d, lst listed j = true → opsA.toList[j]? = some o → o.dst = some d → ∃ u, act.tmps[d]? = some u ∧ VRel ρ (val j) u) →
      (∀ t x, (∀ j (o : Oper), lst listed j = true → opsA.toList[j]? = some o → o.dst ≠ some t) → a₀[t]? = some x → ∃ u, act.tmps[t]? = some u ∧ VRel ρ x u) →
      ((List.range opsA.size).filter fun i => !listed.getD i true).length ≤ fuel → wpAnyIn (wideAt ro) 0 P .any opsA Q fuel listed act w := by
  have hgetD : ∀ (listed : Array Bool) (i : Nat), i < listed.size → listed.getD i true = lst listed i := fun listed i hi => by
    unfold lst
    rw [Array.getD_eq_getD_getElem?, Array.getD_eq_getD_getElem?, Array.getElem?_eq_getElem hi]; rfl
  -- when all are listed
  have final : ∀ (listed : Array Bool) (act : Act) (w : World) (ρ : Env) (h : AW) (n : Nat) (pre : List Nat) (dn : Dn) (a : Slots) (val : Nat → Value), (∀ i, i < opsA.size → lst listed i = true) →
      Mo P opsA.toList ms K a₀ (fun j => lst listed j = true) h n pre dn a val → HRel P ρ h w → Turn ρ₀ h₀ w₀ ρ h w → act.tmps.size = a₀.length → act.defers = ds →
      (∀ j o d, lst listed j = true → opsA.toList[j]? = some o → o.dst = some d → ∃ u, act.tmps[d]? = some u ∧ VRel ρ (val j) u) →
      (∀ t x, (∀ j (o : Oper), lst listed j = true → opsA.toList[j]? = some o → o.dst ≠ some t) → a₀[t]? = some x → ∃ u, act.tmps[t]? = some u ∧ VRel ρ x u) → Q .normal act w := by
    intro listed act w ρ h n pre dn a val hall M HR T hsz hd hs1 hs0
    obtain ⟨n', pre', dn', a', val', M', hveq, hhead⟩ := M.on hO
    have hs1' : ∀ j o d, lst listed j = true → opsA.toList[j]? = some o → o.dst = some d → ∃ u, act.tmps[d]? = some u ∧ VRel ρ (val' j) u := fun j o d hj ho hd' => by
      rw [hveq j hj]; exact hs1 j o d hj ho hd'
    obtain ⟨hin, hk⟩ : (∀ i o, opsA.toList[i]? = some o → i ∈ pre') ∧ K a' h := by
      rcases hhead with hh | ⟨⟨x, o, hx, hnx⟩, _⟩
      · exact hh
      · have hlt := (List.getElem?_eq_some_iff.1 hx).1
        exact absurd (hall x (by simpa using hlt)) (M'.out x hnx)
    refine hQ a' h ρ act w hk (LRel.of_get (by have := M'.len; simp; omega) fun t x hx => ?_) hd HR T
    rw [Array.getElem?_toList]
    by_cases hex : ∃ (j : Nat) (o : Oper), opsA.toList[j]? = some o ∧ o.dst = some t
    · obtain ⟨j, o, hj, hdj⟩ := hex
      have := M'.slot j o t (hin j o hj) hj hdj
      rw [this] at hx; simp at hx; subst hx
      exact hs1' j o t (hall j (by simpa using (List.getElem?_eq_some_iff.1 hj).1)) hj hdj
    · rw [M'.slot0 t fun j o _ hj hdj => hex ⟨j, o, hj, hdj⟩] at hx
      exact hs0 t x (fun j o _ hj hdj => hex ⟨j, o, hj, hdj⟩) hx
  intro fuel
  induction fuel with
  | zero =>
    intro listed act w ρ h n pre dn a val hsize hclosed M HR T hsz hd hs1 hs0 hfuel
    have hnil : ((List.range opsA.size).filter fun i => !listed.getD i true) = [] := List.eq_nil_of_length_eq_zero (by omega)
    have hall : ∀ i, i < opsA.size → lst listed i = true := fun i hi => by
      have := List.filter_eq_nil_iff.1 hnil i (by simpa using hi)
      rw [hgetD listed i (by omega)] at this
      simpa using this
    refine ⟨?_, final listed act w ρ h n pre dn a val hall M HR T hsz hd hs1 hs0⟩
    unfold Region.ready
    rw [List.filter_eq_nil_iff]
    intro i hi
    rw [hgetD listed i (by simp at hi; omega), hall i (by simpa using hi)]
    simp
  | succ fuel ih =>
    intro listed act w ρ h n pre dn a val hsize hclosed M HR T hsz hd hs1 hs0 hfuel
    refine ⟨fun hready => ?_, fun i hi => ?_⟩
    · have hall : ∀ i, i < opsA.size → lst listed i = true := by
        intro i
        induction i using Nat.strongRecOn with
        | _ i ihi =>
          intro hi
          cases hb : lst listed i with
          | true => rfl
          | false =>
            have hin : i ∈ Region.ready .any opsA listed := by
              unfold Region.ready
              rw [List.mem_filter]
              refine ⟨by simpa using hi, ?_⟩
              rw [hgetD listed i (by omega), hb]
              have ho : opsA[i]? = some opsA[i] := Array.getElem?_eq_getElem hi
              simp only [ho, Option.map_some, Option.getD_some, Bool.not_false, Bool.true_and]
              rw [Array.all_eq_true']
              intro e he
              cases hbe : Region.binds .any e with
              | false => simp
              | true =>
              have hlt := backB_spec hback i opsA[i] (by rw [Array.getElem?_toList]; exact ho) e (by simpa using he) hbe
              have := ihi e.on (by omega) (by omega)
              unfold lst at this
              rw [this]; simp
            rw [hready] at hin
            simp at hin
      exact final listed act w ρ h n pre dn a val hall M HR T hsz hd hs1 hs0
    · obtain ⟨n', pre', dn', a', val', M', hveq, hhead⟩ := M.on hO
      have hs1' : ∀ j o d, lst listed j = true → opsA.toList[j]? = some o → o.dst = some d → ∃ u, act.tmps[d]? = some u ∧ VRel ρ (val' j) u := fun j o d hj ho hd' => by
        rw [hveq j hj]; exact hs1 j o d hj ho hd'
      clear M hs1 hveq
      -- the operation i stands next
      unfold Region.ready at hi
      rw [List.mem_filter] at hi
      obtain ⟨hin, hi⟩ := hi
      have hin : i < opsA.size := by simpa using hin
      have ho : opsA[i]? = some opsA[i] := Array.getElem?_eq_getElem hin
      generalize opsA[i] = o at ho
      rw [hgetD listed i (by omega), ho] at hi
      simp only [Option.map_some, Option.getD_some, Bool.and_eq_true, Bool.not_eq_true'] at hi
      obtain ⟨hnot, hpre⟩ := hi
      rw [Array.all_eq_true'] at hpre
      have hoL : opsA.toList[i]? = some o := by rw [Array.getElem?_toList]; exact ho
      have hpreds : ∀ e ∈ o.after.toList, Region.binds .any e = true → lst listed e.on = true := fun e he hb => by
        have := hpre e (by simpa using he)
        rw [hb] at this
        simpa [lst] using this
      have hclose := closed_ahead hm hback (S := fun j => lst listed j = true) hclosed
      have hbefore : ∀ j, ahead ms i j = true → lst listed j = true := hclose i o hoL hpreds
      have hafter : ∀ j q, opsA.toList[j]? = some q → lst listed j = true → ahead ms j i = false := fun j q hq hj => by
        cases hb : ahead ms j i with
        | false => rfl
        | true =>
          have := hclose j q hq (hclosed j q hj hq) i hb
          rw [hnot] at this; cases this
      -- what stands in the slots
      let A : Slots := (List.range a₀.length).map fun t => open Classical in if hx : ∃ j o, lst listed j = true ∧ opsA.toList[j]? = some o ∧ o.dst = some t then val' (Classical.choose hx) else (a₀[t]?).getD undef
      have hAl : A.length = a₀.length := by simp [A]
      have hA : ∀ t, t < a₀.length → A[t]? = some (open Classical in if hx : ∃ j o, lst listed j = true ∧ opsA.toList[j]? = some o ∧ o.dst = some t then val' (Classical.choose hx) else (a₀[t]?).getD undef) := fun t ht => by
        simp only [A, List.getElem?_map]
        rw [List.getElem?_range ht]; rfl
      have hA1 : ∀ j o t, lst listed j = true → opsA.toList[j]? = some o → o.dst = some t → t < a₀.length → A[t]? = some (val' j) := fun j o t hj hjo hjd ht => by
        rw [hA t ht]
        have hx : ∃ j o, lst listed j = true ∧ opsA.toList[j]? = some o ∧ o.dst = some t := ⟨j, o, hj, hjo, hjd⟩
        rw [dif_pos hx]
        obtain ⟨p, h1, h2, h3⟩ := Classical.choose_spec hx
        rw [hO.once _ j p o t h2 hjo h3 hjd]
      have hA0 : ∀ t, (∀ j (o : Oper), lst listed j = true → opsA.toList[j]? = some o → o.dst ≠ some t) → A[t]? = a₀[t]? := fun t hno => by
        by_cases ht : t < a₀.length
        · rw [hA t ht, dif_neg (fun ⟨j, o, h1, h2, h3⟩ => hno j o h1 h2 h3), List.getElem?_eq_getElem ht]; rfl
        · rw [List.getElem?_eq_none (by rw [hAl]; exact Nat.le_of_not_lt ht), List.getElem?_eq_none (Nat.le_of_not_lt ht)]
      have hrelA : LRel ρ A act.tmps.toList := LRel.of_get (by simp; omega) fun t x hx => by
        rw [Array.getElem?_toList]
        have ht : t < a₀.length := by have := (List.getElem?_eq_some_iff.1 hx).1; omega
        by_cases hex : ∃ j o, lst listed j = true ∧ opsA.toList[j]? = some o ∧ o.dst = some t
        · obtain ⟨j, p, h1, h2, h3⟩ := hex
          rw [hA1 j p t h1 h2 h3 ht] at hx
          simp at hx; subst hx
          exact hs1' j p t h1 h2 h3
        · have hno : ∀ j (o : Oper), lst listed j = true → opsA.toList[j]? = some o → o.dst ≠ some t := fun j o h1 h2 h3 => hex ⟨j, o, h1, h2, h3⟩
          rw [hA0 t hno] at hx
          exact hs0 t x hno hx
      -- no other one writes what it looks at
      have hlone : ∀ t, t ∈ looksB opsA.toList o → (∀ q oq, opsA.toList[q]? = some oq → oq.dst = some t → ahead ms i q = false) → ∀ j (p : Oper), lst listed j = true → opsA.toList[j]? = some p → p.dst ≠ some t := fun t ht hno j p hj hjp hjd => by
        have hne : j ≠ i := fun hh => by subst hh; rw [hnot] at hj; cases hj
        obtain ⟨s1, s2⟩ := hO.sorted i o j p t hoL hjp hjd ht hne
        rcases Nat.lt_or_gt_of_ne hne with hlt | hgt
        · rw [hno j p hjp hjd] at s1; exact absurd (s1 hlt) (by simp)
        · rw [hafter j p hjp hj] at s2; exact absurd (s2 hgt) (by simp)
      -- what holds behind it
      have next : ∀ (u v : Value) (w' : World) (ρ' : Env) (h' : AW) (n' : Nat) (pre' : List Nat) (dn' : Dn) (a' : Slots) (val : Nat → Value), ρ.le ρ' → VRel ρ' v u → HRel P ρ' h' w' → Turn ρ h w ρ' h' w' → val i = v → (∀ j, lst listed j = true → val j = val' j) →
          Mo P opsA.toList ms K a₀ (fun j => lst (listed.setIfInBounds i true) j = true) h' n' pre' dn' a' val → wpAnyIn (wideAt ro) 0 P .any opsA Q fuel (listed.setIfInBounds i true) (act.put o.dst u) w' := by
        intro u v w' ρ' h' n' pre' dn' a' val le hv HR' T' hvi hvj M
        have hput : ∀ t, (act.put o.dst u).tmps[t]? = if o.dst = some t then (if t < act.tmps.size then some u else none) else act.tmps[t]? := fun t => by
          cases hd' : o.dst with
          | none => simp [Act.put]
          | some d =>
            simp only [Act.put, Array.getElem?_setIfInBounds]
            by_cases hdt : d = t
            · subst hdt; simp
            · rw [if_neg hdt, if_neg (fun hh => hdt (by simpa using hh))]
        refine ih _ _ w' ρ' h' n' pre' dn' a' val (by simpa using hsize) ?_ M HR' (T.trans T') ?_ (by rw [put_defers]; exact hd) ?_ ?_ ?_
        · intro j q hj hq e he hb
          rw [lst_set (by omega)] at hj ⊢
          by_cases hji : j = i
          · subst hji
            rw [hoL] at hq; simp at hq; subst hq
            rw [hpreds e he hb]; simp
          · rw [if_neg hji] at hj
            rw [hclosed j q hj hq e he hb]; simp
        · rw [← hsz]
          cases o.dst <;> simp [Act.put]
        · intro j p d hj hp hpd
          rw [lst_set (by omega)] at hj
          by_cases hji : j = i
          · subst hji
            rw [hoL] at hp; simp at hp; subst hp
            have hlt : d < act.tmps.size := by
              have hpp : j ∈ pre' := by
                by_cases hpp : j ∈ pre'
                · exact hpp
                · exact absurd (by rw [lst_set (by omega)]; simp) (M.out j hpp)
              have h1 := (List.getElem?_eq_some_iff.1 (M.slot j o d hpp hoL hpd)).1
              rw [M.len, ← hsz] at h1
              exact h1
            exact ⟨u, by rw [hput, if_pos hpd, if_pos hlt], by rw [hvi]; exact hv⟩
          · rw [if_neg hji] at hj
            obtain ⟨x, hx, hr⟩ := hs1' j p d hj hp hpd
            refine ⟨x, ?_, by rw [hvj j hj]; exact hr.mono le⟩
            rw [hput, if_neg (fun hh => hji (hO.once j i p o d hp hoL hpd hh))]
            exact hx
        · intro t x hno hx
          have hdt : o.dst ≠ some t := hno i o (by rw [lst_set (by omega)]; simp) hoL
          obtain ⟨y, hy, hr⟩ := hs0 t x (fun j p hj hp => hno j p (by rw [lst_set (by omega), hj]; simp) hp) hx
          exact ⟨y, by rw [hput, if_neg hdt]; exact hy, hr.mono le⟩
        · have := cnt_lt (l := List.range opsA.size) (p := fun j => !listed.getD j true) (q := fun j => !(listed.setIfInBounds i true).getD j true) (fun x hx => by
            rw [Array.getD_eq_getD_getElem?, Array.getElem?_setIfInBounds] at hx
            rw [Array.getD_eq_getD_getElem?]
            by_cases hxi : i = x
            · subst hxi; rw [if_pos rfl, if_pos (by omega)] at hx; simp at hx
            · rwa [if_neg hxi] at hx) ⟨i, by simpa using hin, by rw [hgetD listed i (by omega), hnot]; rfl, by
              rw [Array.getD_eq_getD_getElem?, Array.getElem?_setIfInBounds, if_pos rfl, if_pos (by omega)]; rfl⟩
          omega
      have hmono : ∀ j, lst listed j = true → lst (listed.setIfInBounds i true) j = true := fun j hj => by rw [lst_set (by omega), hj]; simp
      unfold wpOpIn
      rw [ho]
      simp only
      by_cases hb : i ∈ pre'
      · -- it has been put off till now
        obtain ⟨aj, hl, hlook, hor⟩ := M'.pend i o hb (by rw [hnot]; simp) hoL
        have hsame : ∀ t, t ∈ looksB opsA.toList o → A[t]? = aj[t]? := fun t ht => by
          by_cases hex : ∃ q oq, opsA.toList[q]? = some oq ∧ oq.dst = some t ∧ ahead ms i q = true
          · obtain ⟨q, oq, h1, h2, h3⟩ := hex
            have e1 := (hlook t ht).1 q oq h1 h2 h3
            have hlt : t < a₀.length := by have := (List.getElem?_eq_some_iff.1 e1).1; omega
            rw [e1]
            exact hA1 q oq t (hbefore q h3) h1 h2 hlt
          · have hno : ∀ q oq, opsA.toList[q]? = some oq → oq.dst = some t → ahead ms i q = false := fun q oq h1 h2 => by
              cases hb' : ahead ms i q with
              | false => rfl
              | true => exact absurd ⟨q, oq, h1, h2, hb'⟩ hex
            rw [(hlook t ht).2 hno]
            exact hA0 t (hlone t ht hno)
        have M2 : Mo P opsA.toList ms K a₀ (fun j => lst (listed.setIfInBounds i true) j = true) h n' pre' dn' a' val' := M'.more hmono fun j hjp hj => by
          rw [lst_set (by omega)] at hj
          by_cases hji : j = i
          · subst hji
            exact hjp hb
          · rw [if_neg hji] at hj; exact M'.out j hjp hj
        have hopA : opB P A o h = opB P aj o h := opB_congr (aev_congr hsame)
        rcases hor with ⟨hw, hv⟩ | ⟨hw, _, hq⟩
        · obtain ⟨hw, hsure⟩ := skip_iff.1 hw
          rw [← wantedB_eq hrelA (by rw [sureB_congr hsame]; exact hsure), wantedB_congr hsame, hw, if_neg (by simp)]
          exact ⟨fun _ _ => trivial, next undef undef w ρ h n' pre' dn' a' val' (Env.le_refl _) undef_rel HR (Turn.refl _ _ _) hv (fun _ _ => rfl) M2⟩
        · rw [← wantedB_eq hrelA (by rw [sureB_congr hsame]; exact sure_of_wanted hw), wantedB_congr hsame, hw, if_pos rfl]
          rcases hq with hop | ⟨f, args, hop, hcq⟩ | ⟨hvo, r₀, off₀, hvv⟩
          · obtain ⟨n, u, w', ρ', hrun, hn, hv, HR', T'⟩ := opB_sound hrelA HR (by rw [hopA]; exact hop)
            have := next u _ w' ρ' h n' pre' dn' a' val' T'.le hv HR' T' rfl (fun _ _ => rfl) M2
            refine ⟨fun _ _ => trivial, ?_⟩
            rw [Oper.semAt_eq _ _ _ (opB_noDefer hop), hrun]
            rcases hn with rfl | ⟨rfl, rfl⟩ <;> exact this
          · obtain ⟨us, hus, hrun⟩ := opB_sound hrelA HR (e := by rw [hopA]; exact hop)
            obtain ⟨⟨fn, c, hf, hbd⟩, hcalls⟩ := hcq
            refine ⟨fun _ _ => trivial, ?_⟩
            rw [Oper.semAt_eq _ _ _ (opB_noDefer hop), hrun, run_callFunc hg hf hbd]
            refine ⟨fun hh => (by cases hh), callsIn_at.2 ((hcalls ρ us w hus HR).mono ?_)⟩
            rintro en w₁ ⟨v, h₁, u, ρ₁, rfl, ⟨rfl, rfl⟩, hv, H₁, T₁⟩
            exact next u _ w₁ ρ₁ h₁ n' pre' dn' a' val' T₁.le hv H₁ T₁ rfl (fun _ _ => rfl) M2
          · obtain ⟨t₀, el, n₀, zs, hoo, hu, hn, _, _⟩ := voidB_op hvo
            obtain ⟨u, w', ρ', hrun, hv, HR', T'⟩ := void_done (r := r₀) (off := off₀) (zs := zs) HR hu hn
            rw [← hvv] at hv
            have := next u _ w' ρ' h n' pre' dn' a' val' T'.le hv HR' T' rfl (fun _ _ => rfl) M2
            refine ⟨fun _ _ => trivial, ?_⟩
            rw [Oper.semAt_eq _ _ _ (fun c hc => by rw [hoo] at hc; cases hc)]
            simp only [execOp, hoo, List.map_toArray, List.map_nil, Sem.run_bind, hrun, Result.andThen_ok, Sem.run_pure]
            exact this
      · -- it turns the rows
        rcases hhead with ⟨hallin, _⟩ | ⟨_, m, _, W, hW, hstep⟩
        · exact absurd (hallin i o hoL) hb
        have hiW : i ∈ W := (hW i o hoL hb).resolve_right fun ⟨i', hi'W, hah⟩ => by
          obtain ⟨o'', _, hni', _⟩ := hstep i' hi'W
          exact M'.out i' hni' (hbefore i' hah)
        obtain ⟨o', hi', hni, hbe, hw, sw⟩ := hstep i hiW
        rw [hoL] at hi'; simp at hi'; subst hi'
        have hsame : ∀ t, t ∈ looksB opsA.toList o → A[t]? = a'[t]? := fun t ht => by
          by_cases hex : ∃ q oq, opsA.toList[q]? = some oq ∧ oq.dst = some t ∧ ahead ms i q = true
          · obtain ⟨q, oq, h1, h2, h3⟩ := hex
            have e1 := M'.slot q oq t (hbe q h3) h1 h2
            have hlt : t < a₀.length := by have := (List.getElem?_eq_some_iff.1 e1).1; have := M'.len; omega
            rw [e1]
            exact hA1 q oq t (hbefore q h3) h1 h2 hlt
          · have hno : ∀ q oq, opsA.toList[q]? = some oq → oq.dst = some t → ahead ms i q = false := fun q oq h1 h2 => by
              cases hb' : ahead ms i q with
              | false => rfl
              | true => exact absurd ⟨q, oq, h1, h2, hb'⟩ hex
            rw [hA0 t (hlone t ht hno)]
            refine (M'.slot0 t fun j p hbj hjp hjd => ?_).symm
            have hne : j ≠ i := fun hh => by subst hh; exact hb hbj
            obtain ⟨s1, s2⟩ := hO.sorted i o j p t hoL hjp hjd ht hne
            rcases Nat.lt_or_gt_of_ne hne with hlt | hgt
            · rw [hno j p hjp hjd] at s1; exact absurd (s1 hlt) (by simp)
            · exact hb (M'.closed j hbj i (s2 hgt))
        have hopA : opB P A o h = opB P a' o h := opB_congr (aev_congr hsame)
        rw [← wantedB_eq hrelA (by rw [sureB_congr hsame]; exact sure_of_wanted hw), wantedB_congr hsame, hw, if_pos rfl]
        have go : ∀ v h₁ u w' ρ', (∃ a₁, putAt a' o.dst v = some a₁ ∧ (∀ e, e ∈ dn' → ahead ms i e.1 = false → ∀ p, opsA.toList[e.1]? = some p → StepQ P e.2.1 p h₁ e.2.2) ∧ OG P opsA.toList ms K m (i :: pre') dn' a₁ h₁) →
            VRel ρ' v u → HRel P ρ' h₁ w' → Turn ρ h w ρ' h₁ w' → wpAnyIn (wideAt ro) 0 P .any opsA Q fuel (listed.setIfInBounds i true) (act.put o.dst u) w' := by
          rintro v h₁ u w' ρ' ⟨a₁, ep, hobl, hod⟩ hv HR' T'
          have M2 := M'.step (S' := fun j => lst (listed.setIfInBounds i true) j = true) hO hoL hni hbe ep hod (fun _ he => he) (fun j hj => by rw [lst_set (by omega), if_neg hj]) (fun j aj u p hs hm hp _ => hobl _ hm (by
            cases hb' : ahead ms i j with
            | false => rfl
            | true => exact absurd (hbefore j hb') hs) p hp) (fun hs => absurd (by rw [lst_set (by omega)]; simp) hs)
          refine next u v w' ρ' h₁ _ _ _ _ _ T'.le hv HR' T' ?_ ?_ M2
          · simp
          · intro j hj
            have hne : j ≠ i := fun hh => by subst hh; rw [hnot] at hj; cases hj
            simp [hne]
        rcases sw with ⟨v, h₁, hop, hR⟩ | ⟨f, args, hop, hcq⟩
        · obtain ⟨n, u, w', ρ', hrun, hn, hv, HR', T'⟩ := opB_sound hrelA HR (by rw [hopA]; exact hop)
          have := go v h₁ u w' ρ' hR hv HR' T'
          refine ⟨fun _ _ => trivial, ?_⟩
          rw [Oper.semAt_eq _ _ _ (opB_noDefer hop), hrun]
          rcases hn with rfl | ⟨rfl, rfl⟩ <;> exact this
        · obtain ⟨us, hus, hrun⟩ := opB_sound hrelA HR (e := by rw [hopA]; exact hop)
          obtain ⟨⟨fn, c, hf, hbd⟩, hcalls⟩ := hcq
          refine ⟨fun _ _ => trivial, ?_⟩
          rw [Oper.semAt_eq _ _ _ (opB_noDefer hop), hrun, run_callFunc hg hf hbd]
          refine ⟨fun hh => (by cases hh), callsIn_at.2 ((hcalls ρ us w hus HR).mono ?_)⟩
          rintro en w₁ ⟨v, h₁, u, ρ₁, rfl, hR, hv, H₁, T₁⟩
          exact go v h₁ u w₁ ρ₁ hR hv H₁ T₁


theorem LQ.drawn3 {rd : Option Nat} (hg : noGo P = true) (hmix : P.follows .mixedOrders = true) {id : Nat} {opsA : Array Oper} {ops : List Oper} {ms : List Nat} {a : Slots} {h : AW} {R : AExit → Slots → AW → Prop} (n : Nat)
    (hl : opsA.toList = ops) (hm : masksB ops [] = some ms) (hok : ((onceB (dstsB ops) && backB ops 0) && allSorted ms ops ops 0) = true) (k : OG P ops ms (R .normal) n [] [] a h) : LQ rd P (.region id opsA true) a h R := by
  subst hl
  intro n₀ ro ρ act w Q _ hr hd H hQ
  obtain ⟨hO, hback⟩ := ord3_of hm hok
  refine wpIn_region_any hmix ?_
  have hempty : ∀ j, lst (Array.replicate opsA.size false) j = false := fun j => by
    unfold lst
    rw [Array.getD_eq_getD_getElem?, Array.getElem?_replicate]
    split <;> rfl
  have hw : ({ w with drawn := w.drawn + 1 } : World).heap = w.heap := rfl
  refine draw_any3 (ρ₀ := ρ) (h₀ := h) (w₀ := w) hg hm hO hback (ds := act.defers) (fun a' h' ρ' act' w' k' b c d t => hQ .normal a' h' ρ' act' w' k' b (by rw [c]; exact hd.turn t) d t) opsA.size _ act _ ρ h n [] [] a (fun _ => undef) (by simp) (fun i o hi => by rw [hempty] at hi; cases hi)
    ⟨k, rfl, fun j o d hb => (by simp at hb), fun t _ => rfl, fun j _ => by rw [hempty]; simp, fun p hp => by simp at hp, fun j o hb => by simp at hb⟩ (H.draw hw) (Turn.draw hw rfl rfl rfl (Turn.refl _ _ _)) ?_ rfl (fun j o d hj => by rw [hempty] at hj; cases hj) ?_ ?_
  · have := hr.length; simpa using this.symm
  · intro t x _ hx
    obtain ⟨u, hu', hv⟩ := hr.get hx
    rw [Array.getElem?_toList] at hu'
    exact ⟨u, hu', hv⟩
  · exact Nat.le_trans (List.length_filter_le _ _) (by simp)
end

section
variable {P : Program} {ops : List Oper} {ms : List Nat} {K : Slots → RL → Prop} {n : Nat} {pre : List Nat} {dn : Dn} {a a₁ : Slots} {L L₁ : RL} {o : Oper} {v : Value}

/-- Over listed rows. -/
def OGS (P : Program) (ops : List Oper) (ms : List Nat) (K : Slots → RL → Prop) (n : Nat) (pre : List Nat) (dn : Dn) (a : Slots) (L : RL) : Prop :=
  Ord3 ops ms → ∀ h, Has h L → ∀ dn₀ : Dn, (∀ e, e ∈ dn₀ → e ∈ dn ∨ Always P ops e) → OG P ops ms (fun a' h' => ∃ L', K a' L' ∧ Has h' L') n pre dn₀ a h
/-- One that turns the rows. -/
def OT (P : Program) (ops : List Oper) (ms : List Nat) (K : Slots → RL → Prop) (n : Nat) (pre : List Nat) (i : Nat) (dn : Dn) (a : Slots) (L : RL) : Prop :=
  Ord3 ops ms → ∀ h, Has h L → ∀ dn₀ : Dn, (∀ e, e ∈ dn₀ → e ∈ dn ∨ Always P ops e) → ∃ o, ops[i]? = some o ∧ wantedB ops o a = true ∧ StepW P a o h fun v h₁ => ∃ a₁, putAt a o.dst v = some a₁ ∧
    (∀ e, e ∈ dn₀ → ahead ms i e.1 = false → ∀ p, ops[e.1]? = some p → StepQ P e.2.1 p h₁ e.2.2) ∧ OG P ops ms (fun a' h' => ∃ L', K a' L' ∧ Has h' L') n (i :: pre) dn₀ a₁ h₁
/-- May it be gone through now? -/
def nextB (ops : List Oper) (ms pre : List Nat) (i : Nat) : Bool := (Nat.ble (i + 1) ops.length && !hasNat pre i) && (List.range i).all fun j => !ahead ms i j || hasNat pre j
theorem nextB_of {i : Nat} (hO : Ord3 ops ms) (h : nextB ops ms pre i = true) : i ∉ pre ∧ ∀ j, ahead ms i j = true → j ∈ pre := by
  unfold nextB at h
  simp only [Bool.and_eq_true] at h
  obtain ⟨⟨h1, h2⟩, h3⟩ := h
  have h1 := of_ble h1
  refine ⟨fun hm => ?_, fun j hj => ?_⟩
  · rw [hasNat_mem.2 hm] at h2; cases h2
  · have := List.all_eq_true.1 h3 j (by simpa using hO.back i _ (List.getElem?_eq_getElem (show i < ops.length by omega)) j hj)
    rw [hj] at this
    exact hasNat_mem.1 (by simpa using this)
def doneB (ops : List Oper) (pre : List Nat) : Bool := (List.range ops.length).all fun i => hasNat pre i
theorem doneB_of (h : doneB ops pre = true) : ∀ i o, ops[i]? = some o → i ∈ pre := fun i o hi => by
  have := List.all_eq_true.1 h i (by simpa using (List.getElem?_eq_some_iff.1 hi).1)
  exact hasNat_mem.1 this
/-- Must one of these come next, of what turns rows? -/
def turnB (ops : List Oper) (ms pre W : List Nat) : Bool := (W.all fun i => nextB ops ms pre i) && ((List.range ops.length).all fun x => hasNat pre x || (hasNat W x || W.any fun i => ahead ms x i))

theorem OGS.nil (hd : doneB ops pre = true) (k : K a L) : OGS P ops ms K 0 pre dn a L := fun _ h H dn₀ _ => ⟨doneB_of hd, L, k, H⟩
theorem OGS.skip (i : Nat) (hn : nextB ops ms pre i = true) (hi : ops[i]? = some o) (hw : skipB ops o a = true) (ep : putAt a o.dst undef = some a₁) (k : OGS P ops ms K n (i :: pre) dn a₁ L) : OGS P ops ms K (n + 1) pre dn a L := fun hO h H dn₀ hdn => by
  obtain ⟨h1, h2⟩ := nextB_of hO hn
  simp only [OG]
  exact .inl ⟨i, o, hi, h1, h2, .inl ⟨hw, a₁, ep, k hO h H dn₀ hdn⟩⟩
theorem OGS.pure (i : Nat) (hn : nextB ops ms pre i = true) (hi : ops[i]? = some o) (hw : wantedB ops o a = true) (e : ∀ h, opB P a o h = some (.val v h)) (ep : putAt a o.dst v = some a₁) (k : OGS P ops ms K n (i :: pre) dn a₁ L) : OGS P ops ms K (n + 1) pre dn a L := fun hO h H dn₀ hdn => by
  obtain ⟨h1, h2⟩ := nextB_of hO hn
  simp only [OG]
  refine .inl ⟨i, o, hi, h1, h2, .inr ⟨hw, v, a₁, .inl (e h), ep, k hO h H _ fun e' he => ?_⟩⟩
  rcases List.mem_cons.1 he with rfl | he
  · exact .inr fun p hp h' => by simp only at hp; rw [hi] at hp; simp at hp; subst hp; exact .inl (e h')
  · exact hdn e' he
theorem OGS.void {r off : Nat} (i : Nat) (hn : nextB ops ms pre i = true) (hi : ops[i]? = some o) (hw : wantedB ops o a = true) (e : voidB P o = true) (ep : putAt a o.dst (.slice (some ⟨r, off, none⟩) 0 0) = some a₁) (k : OGS P ops ms K n (i :: pre) dn a₁ L) : OGS P ops ms K (n + 1) pre dn a L := fun hO h H dn₀ hdn => by
  obtain ⟨h1, h2⟩ := nextB_of hO hn
  simp only [OG]
  refine .inl ⟨i, o, hi, h1, h2, .inr ⟨hw, _, a₁, .inr (.inr ⟨e, r, off, rfl⟩), ep, k hO h H _ fun e' he => ?_⟩⟩
  rcases List.mem_cons.1 he with rfl | he
  · exact .inr fun p hp h' => by simp only at hp; rw [hi] at hp; simp at hp; subst hp; exact .inr (.inr ⟨e, r, off, rfl⟩)
  · exact hdn e' he
theorem OGS.still {f : FuncId} {args : List Value} (i : Nat) (hn : nextB ops ms pre i = true) (hi : ops[i]? = some o) (hw : wantedB ops o a = true) (e : ∀ h, opB P a o h = some (.call f args)) (hc : ∀ h, CQ P f args h fun v' h' => v' = v ∧ h' = h) (ep : putAt a o.dst v = some a₁) (k : OGS P ops ms K n (i :: pre) dn a₁ L) : OGS P ops ms K (n + 1) pre dn a L := fun hO h H dn₀ hdn => by
  obtain ⟨h1, h2⟩ := nextB_of hO hn
  simp only [OG]
  refine .inl ⟨i, o, hi, h1, h2, .inr ⟨hw, v, a₁, .inr (.inl ⟨f, args, e h, hc h⟩), ep, k hO h H _ fun e' he => ?_⟩⟩
  rcases List.mem_cons.1 he with rfl | he
  · exact .inr fun p hp h' => by simp only at hp; rw [hi] at hp; simp at hp; subst hp; exact .inr (.inl ⟨f, args, e h', hc h'⟩)
  · exact hdn e' he
theorem OGS.read (i : Nat) (hn : nextB ops ms pre i = true) (hi : ops[i]? = some o) (hw : wantedB ops o a = true) (e : ∀ h, Has h L → opB P a o h = some (.val v h)) (ep : putAt a o.dst v = some a₁) (k : OGS P ops ms K n (i :: pre) ((i, a, v) :: dn) a₁ L) : OGS P ops ms K (n + 1) pre dn a L := fun hO h H dn₀ hdn => by
  obtain ⟨h1, h2⟩ := nextB_of hO hn
  simp only [OG]
  refine .inl ⟨i, o, hi, h1, h2, .inr ⟨hw, v, a₁, .inl (e h H), ep, k hO h H _ fun e' he => ?_⟩⟩
  rcases List.mem_cons.1 he with rfl | he
  · exact .inl (by simp)
  · exact (hdn e' he).imp (fun h => List.mem_cons_of_mem _ h) id
theorem OGS.turn (W : List Nat) (hW : turnB ops ms pre W = true) (hx : doneB ops pre = false) (k : ∀ i, i ∈ W → OT P ops ms K n pre i dn a L) : OGS P ops ms K (n + 1) pre dn a L := fun hO h H dn₀ hdn => by
  unfold turnB at hW
  rw [Bool.and_eq_true] at hW
  obtain ⟨hW1, hW2⟩ := hW
  simp only [OG]
  refine .inr ⟨?_, W, fun x o hxo hxn => ?_, fun i hi => ?_⟩
  · unfold doneB at hx
    rw [List.all_eq_false] at hx
    obtain ⟨x, hx1, hx2⟩ := hx
    have hlt : x < ops.length := by simpa using hx1
    exact ⟨x, _, List.getElem?_eq_getElem hlt, fun hm => hx2 (hasNat_mem.2 hm)⟩
  · have := List.all_eq_true.1 hW2 x (by simpa using (List.getElem?_eq_some_iff.1 hxo).1)
    rw [Bool.or_eq_true, Bool.or_eq_true] at this
    rcases this with h1 | h1 | h1
    · exact absurd (hasNat_mem.1 h1) hxn
    · exact .inl (hasNat_mem.1 h1)
    · obtain ⟨i, hi, hah⟩ := List.any_eq_true.1 h1
      exact .inr ⟨i, hi, hah⟩
  · obtain ⟨h1, h2⟩ := nextB_of hO (List.all_eq_true.1 hW1 i hi)
    obtain ⟨o, ho, hw, sw⟩ := k i hi hO h H dn₀ hdn
    exact ⟨o, ho, h1, h2, hw, sw⟩
theorem OGS.turn1 (i : Nat) (hW : turnB ops ms pre [i] = true) (hx : doneB ops pre = false) (k : OT P ops ms K n pre i dn a L) : OGS P ops ms K (n + 1) pre dn a L :=
  OGS.turn [i] hW hx fun j hj => by rw [List.mem_singleton] at hj; subst hj; exact k
theorem OGS.turn2 (i j : Nat) (hW : turnB ops ms pre [i, j] = true) (hx : doneB ops pre = false) (ki : OT P ops ms K n pre i dn a L) (kj : OT P ops ms K n pre j dn a L) : OGS P ops ms K (n + 1) pre dn a L :=
  OGS.turn [i, j] hW hx fun m hm => by
    rcases List.mem_cons.1 hm with rfl | hm
    · exact ki
    · rw [List.mem_singleton] at hm; subst hm; exact kj
theorem OGS.sub (s : Sub L₁ L) (k : OGS P ops ms K n pre dn a L₁) : OGS P ops ms K n pre dn a L := fun hO h H => k hO h (s.has H)
theorem OT.sub {i : Nat} (s : Sub L₁ L) (k : OT P ops ms K n pre i dn a L₁) : OT P ops ms K n pre i dn a L := fun hO h H => k hO h (s.has H)
theorem OT.write {i : Nat} (hi : ops[i]? = some o) (hw : wantedB ops o a = true) (e : ∀ h, Has h L → ∃ h₁, opB P a o h = some (.val v h₁) ∧ Has h₁ L₁) (ep : putAt a o.dst v = some a₁) (hk : Keep P ops ms i dn L₁) (k : OGS P ops ms K n (i :: pre) dn a₁ L₁) : OT P ops ms K n pre i dn a L := fun hO h H dn₀ hdn => by
  obtain ⟨h₁, e₁, H₁⟩ := e h H
  exact ⟨o, hi, hw, .inl ⟨v, h₁, e₁, a₁, ep, keepDn hdn hk H₁, k hO h₁ H₁ dn₀ hdn⟩⟩
theorem OT.fresh {i : Nat} {V : Nat → Value} {A : Nat → Slots} {M : Nat → RL} (hi : ops[i]? = some o) (hw : wantedB ops o a = true) (e : ∀ h, Has h L → ∃ r h₁, opB P a o h = some (.val (V r) h₁) ∧ Has h₁ (M r)) (ep : ∀ r, putAt a o.dst (V r) = some (A r)) (hk : ∀ r, Keep P ops ms i dn (M r)) (k : ∀ r, OGS P ops ms K n (i :: pre) dn (A r) (M r)) : OT P ops ms K n pre i dn a L := fun hO h H dn₀ hdn => by
  obtain ⟨r, h₁, e₁, H₁⟩ := e h H
  exact ⟨o, hi, hw, .inl ⟨_, h₁, e₁, A r, ep r, keepDn hdn (hk r) H₁, k r hO h₁ H₁ dn₀ hdn⟩⟩
theorem OT.turns {i : Nat} {R : Value → RL → Prop} (hi : ops[i]? = some o) (hw : wantedB ops o a = true) (e : ∀ h, Has h L → ∃ v h₁ L₁, opB P a o h = some (.val v h₁) ∧ Has h₁ L₁ ∧ R v L₁) (k : ∀ v L₁, R v L₁ → ∃ a₁, putAt a o.dst v = some a₁ ∧ Keep P ops ms i dn L₁ ∧ OGS P ops ms K n (i :: pre) dn a₁ L₁) : OT P ops ms K n pre i dn a L := fun hO h H dn₀ hdn => by
  obtain ⟨v, h₁, L₁, e₁, H₁, hR⟩ := e h H
  obtain ⟨a₁, ep, hk, k⟩ := k v L₁ hR
  exact ⟨o, hi, hw, .inl ⟨_, h₁, e₁, a₁, ep, keepDn hdn hk H₁, k hO h₁ H₁ dn₀ hdn⟩⟩
theorem OT.call {i : Nat} {f : FuncId} {args : List Value} (hi : ops[i]? = some o) (hw : wantedB ops o a = true) (e : ∀ h, opB P a o h = some (.call f args)) (hc : CS P f args L fun v L₁ => ∃ a₁, putAt a o.dst v = some a₁ ∧ Keep P ops ms i dn L₁ ∧ OGS P ops ms K n (i :: pre) dn a₁ L₁) : OT P ops ms K n pre i dn a L := fun hO h H dn₀ hdn => by
  refine ⟨o, hi, hw, .inr ⟨f, args, e h, (hc h H).mono ?_⟩⟩
  rintro v h₁ ⟨L₁, ⟨a₁, ep, hk, k⟩, H₁⟩
  exact ⟨a₁, ep, keepDn hdn hk H₁, k hO h₁ H₁ dn₀ hdn⟩
theorem LS.forked {rd : Option Nat} (hg : noGo P = true) (hmix : P.follows .mixedOrders = true) {id : Nat} {opsA : Array Oper} {R : AExit → Slots → RL → Prop} (n : Nat) (hl : opsA.toList = ops) (hm : masksB ops [] = some ms) (hok : ((onceB (dstsB ops) && backB ops 0) && allSorted ms ops ops 0) = true) (k : OGS P ops ms (R .normal) n [] [] a L) : LSr rd P (.region id opsA true) a L R :=
  fun h H => LQ.drawn3 hg hmix n hl hm hok (k (ord3_of hm hok).1 h H [] fun _ he => (by cases he))
end
end Go.Am

